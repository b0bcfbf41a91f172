import Derived.Test.YtacjnejckfhpoadGreatP3
import Derived.Defers
import Derived.Recover
import Derived.Lib.SliceRun
set_option maxHeartbeats 16000000
set_option maxRecDepth 100000
namespace Go.Proofs.YtacjnejckfhpoadGreat
open Go.ChangeShapes Go.WideShapes Go.ChangeAt Go.RowKit _root_.Go.Proofs.Tryz
set_option linter.unusedSimpArgs false
set_option linter.unusedVariables false
def QlB (w6:World) (b X mg mo nb cb k:Nat) (ds:List Value) (t:Tmp) (v:Value) (w:World):Prop :=
 match ([(4,fun v w=>∃ B,v=.pointer (some ⟨B,0,none⟩)∧w6.heap.size≤B∧∃ c,c.size=12∧Blk w B c 84)]:List (Tmp × (Value→World→Prop))).lookup t with
 | some p=>p v w
 | none=>v=(([(0,.pointer (some ⟨b,0,none⟩)),(3,.pointer (some ⟨X,0,none⟩)),(5,.pointer (some ⟨b,0,none⟩)),(6,.pointer (some ⟨b,0,none⟩)),(7,.pointer (some ⟨b,2,none⟩)),(8,.pointer (some ⟨b,5,none⟩)),(9,.slice (some ⟨mg,mo,none⟩) nb cb),(10,.pointer (some ⟨X,0,none⟩)),(11,.int .i64 (k:Int)),(12,.pointer (some ⟨mg,mo+k*12,none⟩)),(13,.agg ds.toArray)]:List (Tmp × Value)).lookup t).getD undef
theorem jt1 {w6:World}{b X mg mo nb cb k:Nat}{ds:List Value}(y0:w6.cell? ⟨b,5,none⟩=some (.slice (some ⟨mg,mo,none⟩) nb cb)) (z0:w6.cell? ⟨X,0,none⟩=some (.int .i64 (k:Int))) (HD:Hid (w6.rangeAt mg (mo+k*12) ds)) (hdl:ds.length=12) (hkn:(k:Int)<nb){Q:Exit→Act→World→Prop}
 (a:Act) (m:Nat) (hn:a.tmps.size=m) (hn':29≤m) (h0:a.tmps.getD 0 undef=.pointer (some ⟨b,0,none⟩)) (h3:a.tmps.getD 3 undef=.pointer (some ⟨X,0,none⟩))
 (hend:∀ ops vs w',vs 13=.agg ds.toArray→(fun v w=>∃ B,v=.pointer (some ⟨B,0,none⟩)∧w6.heap.size≤B∧∃ c,c.size=12∧Blk w B c 84) (vs 4) w'→Below w6.heap.size w6 w'→wpList prog ops Q (QcP 10 ((Tryz.f131.body.bind (Qj 1)).getD .skip)) (Q5 a vs [5,6,7,8,9,10,11,12,13,4]) w') :
 Code.wp prog ((Tryz.f131.body.bind (Qj 1)).getD .skip) Q a w6:=by
 conv=>arg 2;whnf
 refine Qq 10 (QlB w6 b X mg mo nb cb k ds) (fun w=>Below w6.heap.size w6 w) (fun w w'=>Below w.heap.size w w') (outs:=[0,3]) (gs:=[]) (bs:=[true,true,true,true,true,true,true,true,true,true]) (by kernel_rfl) (n:=29) hn hn' (by kernel_rfl) (by kernel_rfl) ?hR ?hG (Qf Zr 1) ⟨h0,h3,trivial⟩ ?hA ?hend
 case hR =>
  intro t v w w' hr h;unfold QlB at h ⊢;split at h
  ·rename_i p hp
   simp only[List.lookup_cons,List.lookup_nil] at hp
   split at hp
   ·cases hp;exact(by obtain⟨B,e,h1,c,h3,h2⟩:=h;exact⟨B,e,h1,c,h3,(hr.block B (lt_of_block h2)).trans h2⟩)
   ·cases hp
  ·exact h
 case hG=>exact trivial
 case hend=>exact fun ops vs w' hW hk=>hend ops vs w' (hk 13 (by kernel_rfl)) (hk 4 (by kernel_rfl)) hW
 case hA =>
  iterate 7
   refine⟨fun a w hW hk K hK=>?_,?_⟩
   ·obtain⟨k0,-⟩:=hk
    conv at k0=>whnf;rhs;whnf
    have u0:=Qi y0 hW;have u1:=Qi z0 hW;go_simp;exact hK _ _ Zr hW rfl
  refine⟨fun a w hW hk K hK=>?_,?_⟩
  ·obtain⟨k0,k1,-⟩:=hk
   conv at k0=>whnf;rhs;whnf
   conv at k1=>whnf;rhs;whnf
   go_simp;exact hK _ _ Zr hW rfl
  refine⟨fun a w hW hk K hK=>?_,?_⟩
  ·obtain⟨k0,-⟩:=hk
   conv at k0=>whnf;rhs;whnf
   obtain⟨fs,hfs⟩:=underBk
   refine wp_load_mid 84 (.tmp 12) rfl mg (mo+k*12) k0 ds _ (Q9 HD.out hW) hfs rfl (by rw[hdl];exact sizeBk) ?_;exact hK _ _ Zr hW rfl
  refine⟨fun a w hW hk K hK=>?_,?_⟩
  ·clear hk;go_simp;exact hK _ _ (QN _ _) (hW.alloc hW.size _) ⟨_,rfl,hW.size,_,rfl,Qe _ _ _⟩
  trivial
def QlC (w2:World) (b X C N ac n1 d1 Kn rc:Nat) (ag rg p1:Option Addr) (ps:List (TT 6)) (regs:List Int) (t:Tmp) (v:Value) (w:World):Prop :=
 match ([(27,fun v w=>∃ g,v=.slice (some ⟨g,0,none⟩) n1 n1∧w2.heap.size≤g∧QcG w g n1 (ps.map (Qad regs)))]:List (Tmp × (Value→World→Prop))).lookup t with
 | some p=>p v w
 | none=>v=(([(0,.pointer (some ⟨b,0,none⟩)),(3,.pointer (some ⟨X,0,none⟩)),(4,.pointer (some ⟨C,0,none⟩)),(20,.pointer (some ⟨b,0,none⟩)),(21,.pointer (some ⟨X,2,none⟩)),(22,.slice ag N ac),(23,.pointer (some ⟨C,1,none⟩)),(24,.slice p1 n1 d1),(25,.pointer (some ⟨X,1,none⟩)),(26,.slice rg Kn rc)]:List (Tmp × Value)).lookup t).getD undef
theorem jt3 {w2:World}{b X C N ac n1 d1 Kn rc:Nat}{ag rg p1:Option Addr}{ps:List (TT 6)}{regs:List Int}{Q R:Nat→Prop}(x1:w2.cell? ⟨X,1,none⟩=some (.slice rg Kn rc)) (x2:w2.cell? ⟨X,2,none⟩=some (.slice ag N ac)) (e1:w2.cell? ⟨C,1,none⟩=some (.slice p1 n1 d1)) (HK:Hid (regs.length=Kn)) (HN1:Hid (ps.length=n1)) (hn1:n1≤1000) (HR:Hid (intsL.In w2 Q regs [.slice rg Kn rc])) (HP:Hid (LIn w2 R ps p1)) (HC:Hid (∀ x∈ps,x.count≤2000)){Q:Exit→Act→World→Prop}
 (a:Act) (m:Nat) (hn:a.tmps.size=m) (hn':29≤m) (h0:a.tmps.getD 0 undef=.pointer (some ⟨b,0,none⟩)) (h3:a.tmps.getD 3 undef=.pointer (some ⟨X,0,none⟩)) (h4:a.tmps.getD 4 undef=.pointer (some ⟨C,0,none⟩))
 (hend:∀ ops vs w',vs 22=.slice ag N ac→vs 20=.pointer (some ⟨b,0,none⟩)→(fun v w=>∃ g,v=.slice (some ⟨g,0,none⟩) n1 n1∧w2.heap.size≤g∧QcG w g n1 (ps.map (Qad regs))) (vs 27) w'→Below w2.heap.size w2 w'→wpList prog ops Q (QcP 8 ((Tryz.f131.body.bind (Qj 3)).getD .skip)) (Q5 a vs [20,21,22,23,24,25,26,27]) w') :
 Code.wp prog ((Tryz.f131.body.bind (Qj 3)).getD .skip) Q a w2:=by
 conv=>arg 2;whnf
 refine Qq 8 (QlC w2 b X C N ac n1 d1 Kn rc ag rg p1 ps regs) (fun w=>Below w2.heap.size w2 w) (fun w w'=>Below w.heap.size w w') (outs:=[0,3,4]) (gs:=[]) (bs:=[true,true,true,true,true,true,true,true]) (by kernel_rfl) (n:=29) hn hn' (by kernel_rfl) (by kernel_rfl) ?hR ?hG (Qf Zr 1) ⟨h0,h3,h4,trivial⟩ ?hA ?hend
 case hR =>
  intro t v w w' hr h;unfold QlC at h ⊢;split at h
  ·rename_i p hp
   simp only[List.lookup_cons,List.lookup_nil] at hp
   split at hp
   ·cases hp;exact(by obtain⟨g,e,h1,h2⟩:=h;exact⟨g,e,h1,h2.below hr⟩)
   ·cases hp
  ·exact h
 case hG=>exact trivial
 case hend=>exact fun ops vs w' hW hk=>hend ops vs w' (hk 22 (by kernel_rfl)) (hk 20 (by kernel_rfl)) (hk 27 (by kernel_rfl)) hW
 case hA =>
  iterate 7
   refine⟨fun a w hW hk K hK=>?_,?_⟩
   ·obtain⟨k0,-⟩:=hk
    conv at k0=>whnf;rhs;whnf
    have u0:=Qi x2 hW;have u1:=Qi e1 hW;have u2:=Qi x1 hW;go_simp;exact hK _ _ Zr hW rfl
  refine⟨fun a w hW hk K hK=>?_,?_⟩
  ·obtain⟨k0,k1,-⟩:=hk
   conv at k0=>whnf;rhs;whnf
   conv at k1=>whnf;rhs;whnf
   go_simp;refine Calls.mono (Qbh HK.out HN1.out hn1 (Lay.below HR.out hW) (HP.out.below hW) HC.out) ?_;rintro r7 w7 ⟨g7,rfl,hg7,hm7,b7⟩;go_simp;exact hK _ _ b7 (hW.trans (b7.mono hW.size)) ⟨g7,rfl,Zt hW.size hg7,hm7⟩
  trivial
theorem Qb9 {w:World}{b:Nat}{O A Q:Nat→Prop}{s:JSt}{x:MTo}{rg ag:Option Addr}{rc ac:Nat}(hJ:JOk s) (hO:∀ k,O k→k<w.heap.size) (h:SAt w b O A s) (hregs:intsL.In w Q x.regs [.slice rg x.regs.length rc]) (hargs:intsL.In w Q x.args [.slice ag x.args.length ac]) (hr16:x.regs.length≤16) (ha8:x.args.length≤8) (hbl:0≤x.block∧x.block<s.f.blocks.length) :
 Calls prog 131 #[.pointer (some ⟨b,0,none⟩),toV x rg ag rc ac] w fun e w'=>ZW (s.to x) VNone e∧Below w.heap.size w w':=by
 have HJ:=Qa hJ;have HO:=Qa hO;have hL:=hJ.vals;obtain⟨xb,xr,xs⟩:=x
 simp only at hregs hargs hr16 ha8 hbl
 obtain⟨k,rfl⟩:=Int.eq_ofNat_of_zero_le hbl.1
 have hkb:k<s.f.blocks.length:=by omega
 have hgk:s.f.blocks[k]?=some s.f.blocks[k]:=Zg hkb;generalize s.f.blocks[k]=g at hgk;have b1:=QN w (.cells #[.int .i64 (k:Int),.slice rg xr.length rc,.slice ag xs.length ac] 45);have hblk:=Qe w #[.int .i64 (k:Int),.slice rg xr.length rc,.slice ag xs.length ac] 45;have K1:=Qa (h.below b1);have HR1:Hid (intsL.In (w.alloc (.cells #[.int .i64 (k:Int),.slice rg xr.length rc,.slice ag xs.length ac] 45)) Q xr [.slice rg xr.length rc]):=Lay.below hregs b1;have HA1:Hid (intsL.In (w.alloc (.cells #[.int .i64 (k:Int),.slice rg xr.length rc,.slice ag xs.length ac] 45)) Q xs [.slice ag xs.length ac]):=Lay.below hargs b1;have HB1:=Qa b1;have HK1:=Qa hblk;clear h hregs hargs b1 hblk hJ hO;go_enter func131,ntmps131
 go_upto_region 1 with fail
 obtain⟨X,hX⟩:∃ X,w.heap.size=X:=⟨_,rfl⟩
 generalize hw1:w.alloc (.cells #[.int .i64 (k:Int),.slice rg xr.length rc,.slice ag xs.length ac] 45)=w1 at K1 HR1 HA1 HB1 HK1 ⊢;rw[hX] at HK1
 rw[hX]
 clear hw1 hX;have x0:=Qb HK1.out 0 _ rfl;have x1:=Qb HK1.out 1 _ rfl;have x2:=Qb HK1.out 2 _ rfl;obtain⟨pm,cm,hh,a1,c1,a2,c2,a3,c3,aL,cL,R⟩:=K1.out.read
 obtain⟨-,-,-,-,-,q5,-⟩:=R.cells
 obtain⟨fa,fc,fb,fd,fe,ff,ecs,-,-,hbs,-⟩:=ZH R.fn
 simp only[List.cons.injEq,Value.slice.injEq,and_true,true_and] at ecs
 obtain⟨-,-,rfl,rfl⟩:=ecs
 obtain⟨mg,mo,p1,d1,es,rfl,hrange,hes,hpar,hone⟩:=QaQ hbs hgk
 have HRG:=Qa hrange;have HPA:Hid ((Qm 6).In w1 (fun g=>¬ A g) g.params [.slice p1 g.params.length d1]):=hpar;have HES:Hid (es.length=10):=hes;have HONE:=Qa hone;have hkn:(k:Int)<s.f.blocks.length:=by omega
 have HFR:=Qa (HJ.out.mod.2 s.f HJ.out.fn);have HGM:Hid (g∈s.f.blocks):=Zm hgk;have HBR:=Qa (HFR.out.blocks g HGM.out);have HNG:Hid (¬ Qh.great g):=fun hg=>HJ.out.tiny (.inr ⟨s.f,HJ.out.fn,.inr (.inr (.inr ⟨g,HGM.out,hg⟩))⟩);have HCP:Hid (∀ t∈g.params,t.count≤2000):=fun t ht=>Nat.le_of_not_lt fun hlt=>HNG.out (.inr (.inl (.inr ⟨t,ht,hlt⟩)));have HCV:Hid (∀ t∈s.L,t.count≤100000):=fun t ht=>Zt (QZ (HJ.out.types t ht)) (by omega);have E:Hid (s.to ⟨(k:Int),xr,xs⟩=code2 (passC s.H s.f.regs xr g.regs) (s.handC xs (g.params.map (Qad xr)))):=Qlq hgk HBR.out.params.2;clear R hbs hrange hpar hone hes hgk hbl;generalize hnb:s.f.blocks.length=nb at q5 hkb hkn;refine jt1 q5 x0 HRG (by simp[HES.out]) hkn _ _ rfl (Nat.le_of_ble_eq_true (by kernel_rfl)) rfl rfl ?_;rintro ops vs w5 hv16 ⟨B,hv5,hB,cB,hcB,hBb⟩ b5;show wpList _ ops _ [_] (Q5 _ vs [5,6,7,8,9,10,11,12,13,4]) w5;simp only[Q5,Act.put,List.setIfInBounds_toArray,List.set_cons_zero,List.set_cons_succ,hv16,hv5]
 have hlen12:(Value.int .i64 g.regs::Value.slice p1 g.params.length d1::es).length=12:=by simp[HES.out]
 have TH:Hid (w5.there B 0 (Value.int .i64 g.regs::Value.slice p1 g.params.length d1::es).toArray.size):=by
  intro j hj;rw[List.size_toArray,hlen12] at hj
  rw[Nat.zero_add]
  refine⟨?_,Qp hBb j⟩
  rw[Qb hBb j cB[j] (by simp)];rfl
 have TS:Hid ((prog.info? 84).map (·.size)=some (Value.int .i64 g.regs::Value.slice p1 g.params.length d1::es).toArray.size):=by show _=_;rw[List.size_toArray,hlen12];exact sizeBk
 have TO:Hid ((Value.int .i64 g.regs::Value.slice p1 g.params.length d1::es).toArray.all (·.oneCell')=true):=by
  refine all_oneCell_toArray fun v hv=>?_;simp only[List.mem_cons] at hv
  rcases hv with rfl | rfl | hv
  ·rfl
  ·rfl
  ·exact HONE.out v hv
 have B6:Hid (Blk (w5.setCells B 0 (Value.int .i64 g.regs::Value.slice p1 g.params.length d1::es).toArray.toList) B (Value.int .i64 g.regs::Value.slice p1 g.params.length d1::es).toArray 84):=by
  have h0:Blk w5 B ([]++cB.toList).toArray 84:=by rw[List.nil_append,Array.toArray_toList];exact hBb
  have:=Blk.sets (Value.int .i64 g.regs::Value.slice p1 g.params.length d1::es) [] cB.toList w5 (by rw[hlen12];simp[hcB]) h0
  exact this
 have b6:Hid (Below w1.heap.size w1 (w5.setCells B 0 (Value.int .i64 g.regs::Value.slice p1 g.params.length d1::es).toArray.toList)):=by
  have:=Zn.setCells (O:=fun k=>k=B) (O':=fun k=>k=B) (b:=B) rfl (Value.int .i64 g.regs::Value.slice p1 g.params.length d1::es).toArray.toList 0 _ (Zn.refl _ w5)
  exact b5.trans (this.below b5.size (fun k hk=>by omega))
 clear hBb hB hcB b5 hv16 hv5 hlen12;generalize hgr:g.regs=gr at E HBR B6 b6 TH TS TO ⊢;have HGR:Hid (g.regs=gr):=hgr;generalize hn1:g.params.length=n1 at HPA B6 b6 TH TS TO ⊢;have HN1:Hid (g.params.length=n1):=hn1;have hn18:n1≤8:=by rw[← hn1];exact HBR.out.params.1
 have y0:(w5.setCells B 0 (Value.int .i64 gr::Value.slice p1 n1 d1::es).toArray.toList).cell? ⟨B,0,none⟩=some (.int .i64 gr):=Qb B6.out 0 _ rfl;have y1:(w5.setCells B 0 (Value.int .i64 gr::Value.slice p1 n1 d1::es).toArray.toList).cell? ⟨B,1,none⟩=some (.slice p1 n1 d1):=Qb B6.out 1 _ rfl;generalize hds:(Value.int .i64 gr::Value.slice p1 n1 d1::es).toArray=dsA at B6 b6 TH TS TO y0 y1 ⊢;have K6:=Qa (K1.out.below b6.out);have HR6:Hid (intsL.In (w5.setCells B 0 dsA.toList) Q xr [.slice rg xr.length rc]):=Lay.below HR1.out b6.out;have HA6:Hid (intsL.In (w5.setCells B 0 dsA.toList) Q xs [.slice ag xs.length ac]):=Lay.below HA1.out b6.out;have HP6:Hid ((Qm 6).In (w5.setCells B 0 dsA.toList) (fun g=>¬ A g) g.params [.slice p1 n1 d1]):=Lay.below HPA.out b6.out;have BW:Hid (Below w.heap.size w (w5.setCells B 0 dsA.toList)):=HB1.out.trans (b6.out.mono HB1.out.size);have HFG:Hid (s.f.regs≤gr):=by have:=HBR.out.regs.1;rw[HGR.out] at this;exact this
 have x1':=Qi x1 b6.out;have x2':=Qi x2 b6.out;clear hgr hn1 hds K1 HR1 HA1 HPA HB1 b6 B6 q5 x0 x1 x2 HES HONE HNG HK1 HRG;go_upto_region 2 with (refine wpList_store_mid rfl 84 (.tmp 4) (.tmp 13) rfl B 0 dsA rfl rfl TH.out TS.out TO.out ?_)
 clear TH TS TO;generalize w5.setCells B 0 dsA.toList=w6 at K6 HR6 HA6 HP6 BW x1' x2' y0 y1 ⊢;obtain⟨Kn,hKn⟩:∃ Kn,xr.length=Kn:=⟨_,rfl⟩
 have HK:=Qa hKn;rw[hKn] at x1' HR6 hr16
 clear hKn;obtain⟨N,hN⟩:∃ N,xs.length=N:=⟨_,rfl⟩
 have HN:=Qa hN;rw[hN] at x2' HA6 ha8
 clear hN;have CP:=Qa (QdY gr HK.out (by omega) HR6.out HFR.out.regs.1 HFG.out K6.out);go_wp2_with fail
 refine CP.out.mono ?_;rintro e' w7 ⟨hO,b7⟩;have BW7:=Qa (BW.out.trans (b7.mono BW.out.size));rcases hO with ⟨hc,y,rfl,hy⟩|⟨hc,rfl⟩
 rotate_left
 ·exact⟨rfl,.inr ⟨by rw[E.out,Qr hc];exact hc,by rw[E.out,Qr hc]⟩,BW7.out⟩
 subst hy;have E2:Hid (s.to ⟨(k:Int),xr,xs⟩=s.handC xs (g.params.map (Qad xr))):=by show _=_;rw[E.out,QF hc]
 have K7:=Qa (K6.out.below b7);have HR7:Hid (intsL.In w7 Q xr [.slice rg Kn rc]):=Lay.below HR6.out b7;have HA7:Hid (intsL.In w7 Q xs [.slice ag N ac]):=Lay.below HA6.out b7;have HP7:=Qa (QJ (Lay.below HP6.out b7)).1;have x17:=Qi x1' b7;have x27:=Qi x2' b7;have y17:=Qi y1 b7;clear hc CP E b7 K6 HR6 HA6 HP6 x1' x2' y0 y1 BW;go_upto_region 3 with fail
 refine jt3 x17 x27 y17 HK HN1 (by omega) HR7 HP7 HCP _ _ rfl (Nat.le_of_ble_eq_true (by kernel_rfl)) rfl rfl rfl ?_;rintro ops2 vs2 w8 hv22 hv20 ⟨gP,hv27,hgP,hmP⟩ b8;show wpList _ ops2 _ [_] (Q5 _ vs2 [20,21,22,23,24,25,26,27]) w8;simp only[Q5,Act.put,List.setIfInBounds_toArray,List.set_cons_zero,List.set_cons_succ,hv22,hv20,hv27]
 have BW8:=Qa (BW7.out.trans (b8.mono BW7.out.size))
 have CH:Hid (Calls prog 132 #[.pointer (some ⟨b,0,none⟩),.slice ag N ac,.slice (some ⟨gP,0,none⟩) n1 n1] w8 fun e w'=>ZW (s.handC xs (g.params.map (Qad xr))) VNone e∧Below w8.heap.size w8 w') :=
  QaH HN.out (by omega) (by rw[List.length_map,HN1.out]) (by omega) (Lay.below HA7.out b8) hmP.lin hL HCV.out (fun k hk=>Zl (HO.out k hk) BW8.out.size) (K7.out.below b8)
 clear hmP hgP b8 hv22 hv20 hv27 K7 HR7 HA7 HP7 x17 x27 y17 BW7;go_wp2_with fail
 refine CH.out.mono ?_;rintro e' w9 ⟨hO,b9⟩;have BW9:=Qa (BW8.out.trans (b9.mono BW8.out.size));have FF:Hid (ZW (s.to ⟨(k:Int),xr,xs⟩) VNone e'):=by show ZW _ _ _;rw[E2.out];exact hO
 rcases hO with ⟨hc,y,rfl,hy⟩|⟨hc,rfl⟩
 rotate_left
 ·exact⟨rfl,FF.out,BW9.out⟩
 subst hy;clear hc CH E2 b9;go_wp2
 exact bodyPost_end (v:=.tuple #[]) (by simp[results,results131,go_sem]) rfl ⟨FF.out,BW9.out⟩
def QhL (H:List Bool) (regs:Int):Int:=if (hList H).all (fun r=>decide (r<regs)) then 0 else 12
theorem Qgn {w:World}{b B:Nat}{O A:Nat→Prop}{s:JSt}(r:Int) (hB:w.cell? ⟨B,0,none⟩=some (.pointer (some ⟨b,0,none⟩))) (h:SAt w b O A s) :
 Calls prog 170 #[.int .i64 r,.pointer (some ⟨B,0,none⟩)] w fun e w'=>e=.returned (.bool (decide (r≥s.f.regs)))∧w'=w:=by
 obtain⟨pm,cm,hh,a1,c1,a2,c2,a3,c3,aL,cL,R⟩:=h.read
 obtain⟨-,-,q2,-⟩:=R.cells
 clear R h;generalize s.f.regs=fr at q2 ⊢;go_enter func170,ntmps170
 go_wp2
 go_ret;exact⟨rfl,rfl⟩
theorem enters_left1:Qc8 170:=fun _ _=>by kernel_rfl
theorem QfH {w:World}{b B:Nat}{O A Q:Nat→Prop}{s:JSt}{l:List Int}{p:Option Addr}{N c:Nat}(hN:l.length=N) (hN2:N≤100000) (hl:intsL.In w Q l [.slice p N c]) (hB:w.cell? ⟨B,0,none⟩=some (.pointer (some ⟨b,0,none⟩))) (h:SAt w b O A s) :
 Calls prog 204 #[.slice p N c,.func (.func 170) #[] #[.pointer (some ⟨B,0,none⟩)]] w fun e w'=>(∃ i:Int,e=.returned (.int .i64 i)∧(0≤i↔∃ x∈l,s.f.regs≤x))∧w'=w:=by
 have HL:=Qa hl;have HN:=Qa hN;have C:=Qa (fun r=>Qgn r hB h);have hE:=enters_left1;unfold Qc8 at hE;clear hl hN h hB;generalize s.f.regs=fr at C ⊢;go_enter func204,ntmps204
 go_wp2
 go_loop [8] (fun i=>∃ k:Nat,k≤N∧i=.int .i64 k∧∀ (j:Nat) (y:Int),j<k→l[j]?=some y→y<fr) (fun i=>N - (intOf i).toNat)
 case atStart=>exact⟨0,Nat.zero_le _,rfl,fun j y hj=>by omega⟩
 case round =>
  obtain⟨k,hk,rfl,hz⟩:=hrel
  have HZ:=Qa hz;clear hz;by_cases hlt:k<N
  ·have hlt':(k:Int)<N:=by omega
   have hk2:k<l.length:=by rw[HN.out];exact hlt
   obtain⟨g,o,rfl,-,hg,hc0⟩:=ZC HL.out hk2
   obtain⟨y,hy⟩:∃ y,l[k]?=some y:=⟨_,Zg hk2⟩
   rw[show l.getD k 0=y by rw[List.getD_eq_getElem?_getD,hy];rfl] at hc0
   have HX:=Qa hy;have CY:=Qa (C.out y);clear hy hk2;by_cases hxy:fr≤y
   ·rw[show decide (y≥fr)=true from decide_eq_true hxy] at CY
    have HM:Hid (∃ x∈l,fr≤x):=⟨y,Zm HX.out,hxy⟩;clear hxy;go_wp2_with (go_at_call 170;refine(CY.out).mono ?_;rintro e w' ⟨rfl,hw⟩;have hw:=hw.symm;subst hw)
    go_ret;exact⟨⟨k,rfl,by simp only[HM.out,iff_true];omega⟩,rfl⟩
   ·rw[show decide (y≥fr)=false from decide_eq_false hxy] at CY
    have HXY:=Qa (Int.not_le.1 hxy);clear hxy;go_wp2_with (go_at_call 170;refine(CY.out).mono ?_;rintro e w' ⟨rfl,hw⟩;have hw:=hw.symm;subst hw)
    go_round
    case rel =>
     refine⟨k+1,hlt,by go_num,fun j y' hj hy=>?_⟩
     rcases Nat.lt_or_ge j k with h | h
     ·exact HZ.out j y' h hy
     ·have:j=k:=by omega
      subst this;have e:=HX.out.symm.trans hy;injection e with e
      subst e;exact HXY.out
    case measure=>simp[intOf];omega
  ·have hlt':¬ (k:Int)<N:=by omega
   go_wp2
   go_ret;refine⟨⟨-1,rfl,by omega,fun hm=>?_⟩,rfl⟩
   obtain⟨x,hx,hf⟩:=hm
   obtain⟨j,hj,e⟩:=List.mem_iff_getElem.1 hx
   have:=HZ.out j x (by have:=HN.out;omega) (by rw[Zg hj,e])
   omega
theorem Qdj {w:World}{b B:Nat}{O A Q:Nat→Prop}{s:JSt}{l:List Int}{p:Option Addr}{N c:Nat}(hN:l.length=N) (hN2:N≤100000) (hl:intsL.In w Q l [.slice p N c]) (hB:w.cell? ⟨B,0,none⟩=some (.pointer (some ⟨b,0,none⟩))) (h:SAt w b O A s) :
 Calls prog 171 #[.slice p N c,.func (.func 170) #[] #[.pointer (some ⟨B,0,none⟩)]] w fun e w'=>e=.returned (.bool (!(l.all (fun r=>decide (r<s.f.regs)))))∧w'=w:=by
 have C:=Qa (QfH hN hN2 hl hB h);clear hl hN h hB;go_enter func171,ntmps171
 go_wp2_with fail
 refine C.out.mono ?_;rintro e w' ⟨⟨i,rfl,hi⟩,hw⟩;have hw:=hw.symm;subst hw
 have E:Hid ((!(l.all (fun r=>decide (r<s.f.regs))))=decide (i≥0)):=by
  show _=_;rw[Bool.eq_iff_iff]
  simp only[Bool.not_eq_true',decide_eq_true_eq,ge_iff_le,hi]
  rw[← Bool.not_eq_true,List.all_eq_true]
  constructor
  ·intro h;exact Classical.byContradiction fun hn=>h (fun x hx=>decide_eq_true (Int.not_le.1 (fun hh=>hn ⟨x,hx,hh⟩)))
  ·rintro ⟨x,hx,hf⟩ h
   have:=of_decide_eq_true (h x hx)
   omega
 clear C hi;go_wp2
 go_ret;exact⟨by rw[E.out];rfl,rfl⟩
theorem Qg5 {w:World}{b:Nat}{O A:Nat→Prop}{s:JSt}(hH:s.H.length≤16) (h:SAt w b O A s) :
 Calls prog 133 #[.pointer (some ⟨b,0,none⟩)] w fun e w'=>ZW (QhL s.H s.f.regs) VNone e∧Below w.heap.size w w':=by
 have hmf:∀ (fn:Fn) (first cap:Array Value) (w:World),(Instr.makeFunc fn first cap).run prog w=.ok (.func fn first cap) w:=fun _ _ _ _=>rfl;have b1:=QN w (.cells #[.pointer (some ⟨b,0,none⟩)] 48);have H:=Qa (h.below b1);have HB:=Qa b1;have hX:=Qe w #[.pointer (some ⟨b,0,none⟩)] 48;have x0:=Qb hX 0 _ rfl;obtain⟨pm,cm,hh,a1,c1,a2,c2,a3,c3,aL,cL,R⟩:=H.out.read
 obtain⟨-,q1,-⟩:=R.cells
 have CL:=Qa (Qe0 R.held);clear R h b1 hX;go_enter func133,ntmps133
 go_upto_region 1 with fail
 generalize w.alloc (.cells #[.pointer (some ⟨b,0,none⟩)] 48)=w1 at H HB x0 q1 CL ⊢;obtain⟨X,hX⟩:∃ X,w.heap.size=X:=⟨_,rfl⟩
 rw[hX] at x0 ⊢
 rw[← hX]
 have HXX:=Qa hX;go_wp2_with fail
 refine CL.out.mono ?_;rintro e' w2 ⟨a,c,rfl,hlist,b2⟩;have H2:=Qa (H.out.below b2);have HB2:=Qa (HB.out.trans (b2.mono HB.out.size));have CF:=Qa (Qdj rfl (by have:=QbC s.H;omega) hlist (Qi x0 b2) H2.out);have y0:=Qi x0 b2;clear hlist b2 CL x0 q1;generalize (hList s.H).length=nl at CF ⊢;have E:Hid (QhL s.H s.f.regs=if (hList s.H).all (fun r=>decide (r<s.f.regs)) then 0 else 12):=rfl;generalize (hList s.H).all (fun r=>decide (r<s.f.regs))=q at CF E;rw[HXX.out]
 go_wp2_with (go_at_call 171;refine(CF.out).mono ?_;rintro e w' ⟨rfl,hw⟩;have hw:=hw.symm;subst hw)
 refine(Qb0 _ _ _).mono ?_
 rintro e' w' ⟨hw,⟨hq,rfl⟩|⟨hq,rfl⟩⟩
 rotate_left
 ·exact⟨rfl,ZW.bad (d:=12) (by rw[E.out,show q=false by simpa using hq];rfl) (by decide),by rw[hw];exact HB2.out⟩
 have hw:=hw.symm;subst hw;have E9:Hid (QhL s.H s.f.regs=0):=by show _=_;rw[E.out,show q=true by simpa using hq];rfl
 clear hq;go_wp2
 exact bodyPost_end (v:=.tuple #[]) (by simp[results,results133,go_sem]) rfl ⟨ZW.good E9.out rfl,HB2.out⟩
structure EnT (w wc:World) (b X:Nat) (O A Q:Nat→Prop) (s:JSt) (x:MEnd) (e:EP):Prop where
 st:SAt wc b O A s
 box:Blk wc X (ZT x e) 47
 lists:Qa2 wc Q x e
 bel:Below w.heap.size w wc
theorem EnT.below {w wc w':World}{b X:Nat}{O A Q:Nat→Prop}{s:JSt}{x:MEnd}{e:EP}(h:EnT w wc b X O A Q s x e) (k:Below wc.heap.size wc w'):EnT w w' b X O A Q s x e :=
 ⟨h.st.below k,(k.block X (lt_of_block h.box)).trans h.box,h.lists.below k,h.bel.trans (k.mono h.bel.size)⟩
theorem EnT.cells {w wc:World}{b X:Nat}{O A Q:Nat→Prop}{s:JSt}{x:MEnd}{e:EP}(h:EnT w wc b X O A Q s x e):wc.cell? ⟨X,0,none⟩=some (.int .i64 x.op)∧wc.cell? ⟨X,1,none⟩=some (.int .i64 x.a)∧wc.cell? ⟨X,2,none⟩=some (.int .i64 x.yes.block)∧wc.cell? ⟨X,3,none⟩=some (.slice e.pYR x.yes.regs.length e.cYR)∧wc.cell? ⟨X,4,none⟩=some (.slice e.pYA x.yes.args.length e.cYA)∧wc.cell? ⟨X,5,none⟩=some (.int .i64 x.no.block)∧wc.cell? ⟨X,6,none⟩=some (.slice e.pNR x.no.regs.length e.cNR)∧wc.cell? ⟨X,7,none⟩=some (.slice e.pNA x.no.args.length e.cNA)∧wc.cell? ⟨X,8,none⟩=some (.slice e.pA x.args.length e.cA) :=
 ⟨Qb h.box 0 _ rfl,Qb h.box 1 _ rfl,Qb h.box 2 _ rfl,Qb h.box 3 _ rfl,Qb h.box 4 _ rfl,Qb h.box 5 _ rfl,Qb h.box 6 _ rfl,Qb h.box 7 _ rfl,Qb h.box 8 _ rfl⟩
theorem QiQ {w:World}{b:Nat}{O A Q:Nat→Prop}{s:JSt}{x:MEnd}{e:EP}(hJ:JOk s) (hO:∀ k,O k→k<w.heap.size) (h:SAt w b O A s) (hx:Qa2 w Q x e) (hra:-9223372036854775808≤x.a∧x.a≤9223372036854775807) (hf:x.form s.f.blocks.length=0) :
 Calls prog 78 #[.pointer (some ⟨b,0,none⟩),.agg (ZT x e)] w fun r w'=>ZW (s.fin x) VNone r∧Below w.heap.size w w':=by
 have HJ:=Qa hJ;have HO:=Qa hO;have hL:=hJ.vals;have b1:=QN w (.cells (ZT x e) 47);have S0:Hid (EnT w (w.alloc (.cells (ZT x e) 47)) b w.heap.size O A Q s x e):=⟨h.below b1,Qe w _ _,hx.below b1,b1⟩;have HFR:=Qa (HJ.out.mod.2 s.f HJ.out.fn);have HZ:=Qa (Qf9 HFR.out.many.2 hf);have HRA:=Qa hra;have HCV:Hid (∀ t∈s.L,t.count≤100000):=fun t ht=>Zt (QZ (HJ.out.types t ht)) (by omega);have E1:s.fin x=if x.op=1 then s.to x.yes else if x.op=2 then code2 (s.want x.a 1 false) (code2 (s.to x.yes) (s.to x.no)) else code2 (s.args x.args s.f.results (Qa3 s.f.regs.toNat)) (if (hList s.H).all (fun r=>decide (r<s.f.regs)) then 0 else 12):=by rw[JSt.fin,if_neg (by rw[hf];simp)]
 have HE1:=Qa E1;clear h hx b1 hJ hO hra hf E1;go_enter func78,ntmps78
 go_upto_region 1 with fail
 obtain⟨X,hX⟩:∃ X,w.heap.size=X:=⟨_,rfl⟩
 unfold ZT at S0;generalize hw1:w.alloc (.cells #[.int .i64 x.op,.int .i64 x.a,.int .i64 x.yes.block,.slice e.pYR x.yes.regs.length e.cYR,.slice e.pYA x.yes.args.length e.cYA,.int .i64 x.no.block,.slice e.pNR x.no.regs.length e.cNR,.slice e.pNA x.no.args.length e.cNA,.slice e.pA x.args.length e.cA] 47)=w1 at S0 ⊢;have S:Hid (EnT w w1 b X O A Q s x e):=by rw[← hX];exact S0.out
 rw[hX]
 clear hw1 hX S0;obtain⟨x0,x1,x2,x3,x4,x5,x6,x7,x8⟩:=S.out.cells
 rcases HZ.out.1 with hop | hop | hop
 ·have E2:Hid (s.fin x=s.to x.yes):=by show _=_;rw[HE1.out,if_pos hop]
  have h1:Hid (x.yes.form s.f.blocks.length true=0):=by have:=HZ.out.2.2.2.2.1;rw[hop] at this;exact this
  rw[hop] at x0
  clear HE1;go_wp2_with fail
  refine(Qb9 (x:=x.yes) HJ.out (fun k hk=>Zl (HO.out k hk) S.out.bel.size) S.out.st S.out.lists.yr S.out.lists.ya (Zw h1.out).2.1 (Zw h1.out).2.2 (Zw h1.out).1).mono ?_
  rintro e9 w9 ⟨hq,b9⟩;have S9:=Qa (S.out.below b9);rcases hq with ⟨hc,y,rfl,hy⟩|⟨hc,rfl⟩
  rotate_left
  ·exact⟨rfl,.inr ⟨by rw[E2.out];exact hc,by rw[E2.out]⟩,S9.out.bel⟩
  subst hy;have E9:Hid (s.fin x=0):=by show _=_;rw[E2.out];exact hc
  clear hc b9;go_wp2
  exact bodyPost_end (v:=.tuple #[]) (by simp[results,results78,go_sem]) rfl ⟨ZW.good E9.out rfl,S9.out.bel⟩
 ·have E2:Hid (s.fin x=code2 (s.want x.a 1 false) (code2 (s.to x.yes) (s.to x.no))):=by show _=_;rw[HE1.out,if_neg (by omega),if_pos hop]
  have h1:Hid (x.yes.form s.f.blocks.length true=0):=by have:=HZ.out.2.2.2.2.1;rw[hop] at this;exact this
  have h2:Hid (x.no.form s.f.blocks.length true=0):=by have:=HZ.out.2.2.2.2.2;rw[hop] at this;exact this
  rw[hop] at x0
  have CI:=Qa (fun d=>QbX x.a HRA.out d hL (fun k hk=>Zl (HO.out k hk) S.out.bel.size) S.out.st);clear HE1;go_wp2_with fail
  refine(CI.out _).mono ?_
  rintro e8 w8 ⟨hq,b8⟩;have S8:=Qa (S.out.below b8);rcases hq with ⟨hc,y,rfl,hy⟩|⟨hc,rfl⟩
  rotate_left
  ·exact⟨rfl,.inr ⟨by rw[E2.out,Qr hc];exact hc,by rw[E2.out,Qr hc]⟩,S8.out.bel⟩
  subst hy;have E3:Hid (s.fin x=code2 (s.to x.yes) (s.to x.no)):=by show _=_;rw[E2.out,QF hc]
  clear hc b8 E2 S CI;have S:=S8;clear S8 x0 x1 x2 x3 x4 x5 x6 x7 x8;obtain⟨x0,x1,x2,x3,x4,x5,x6,x7,x8⟩:=S.out.cells
  go_wp2_with fail
  refine(Qb9 (x:=x.yes) HJ.out (fun k hk=>Zl (HO.out k hk) S.out.bel.size) S.out.st S.out.lists.yr S.out.lists.ya (Zw h1.out).2.1 (Zw h1.out).2.2 (Zw h1.out).1).mono ?_
  rintro e9 w9 ⟨hq,b9⟩;have S9:=Qa (S.out.below b9);rcases hq with ⟨hc,y,rfl,hy⟩|⟨hc,rfl⟩
  rotate_left
  ·exact⟨rfl,.inr ⟨by rw[E3.out,Qr hc];exact hc,by rw[E3.out,Qr hc]⟩,S9.out.bel⟩
  subst hy;have E4:Hid (s.fin x=s.to x.no):=by show _=_;rw[E3.out,QF hc]
  clear hc b9 E3 S;have S:=S9;clear S9 x0 x1 x2 x3 x4 x5 x6 x7 x8;obtain⟨x0,x1,x2,x3,x4,x5,x6,x7,x8⟩:=S.out.cells
  go_wp2_with fail
  refine(Qb9 (x:=x.no) HJ.out (fun k hk=>Zl (HO.out k hk) S.out.bel.size) S.out.st S.out.lists.nr S.out.lists.na (Zw h2.out).2.1 (Zw h2.out).2.2 (Zw h2.out).1).mono ?_
  rintro e9 w9 ⟨hq,b9⟩;have S9:=Qa (S.out.below b9);rcases hq with ⟨hc,y,rfl,hy⟩|⟨hc,rfl⟩
  rotate_left
  ·exact⟨rfl,.inr ⟨by rw[E4.out];exact hc,by rw[E4.out]⟩,S9.out.bel⟩
  subst hy;have E9:Hid (s.fin x=0):=by show _=_;rw[E4.out];exact hc
  clear hc b9;go_wp2
  exact bodyPost_end (v:=.tuple #[]) (by simp[results,results78,go_sem]) rfl ⟨ZW.good E9.out rfl,S9.out.bel⟩
 ·have hn0:=HFR.out.regs.1;obtain⟨n,hn⟩:=Int.eq_ofNat_of_zero_le hn0
  have E2:Hid (s.fin x=code2 (s.handC x.args s.f.results) (QhL s.H s.f.regs)):=by show _=_;rw[HE1.out,if_neg (by omega),if_neg (by omega),QkV hn HFR.out.results.2];rfl
  have hal:x.args.length≤8:=HZ.out.2.2.2.1;obtain⟨pm,cm,hh,a1,c1,a2,c2,a3,c3,aL,cL,R⟩:=S.out.st.read
  obtain⟨-,-,-,-,q4,-⟩:=R.cells
  obtain⟨fa,fc,fb,fd,fe,ff,ecs,-,hres,-,-⟩:=ZH R.fn
  simp only[List.cons.injEq,Value.slice.injEq,and_true,true_and] at ecs
  obtain⟨⟨-,-⟩,⟨rfl,rfl⟩,-⟩:=ecs
  have HRL:=Qa (QJ hres).1
  have CH:Hid (Calls prog 132 #[.pointer (some ⟨b,0,none⟩),.slice e.pA x.args.length e.cA,.slice a2 s.f.results.length c2] w1.drew fun e w'=>ZW (s.handC x.args s.f.results) VNone e∧Below w1.drew.heap.size w1.drew w') :=
   QaH rfl (by omega) rfl (by have:=HFR.out.results.1;omega) (Lay.below S.out.lists.ar (Qbu Zr)) HRL.out.drew hL HCV.out (fun k hk=>Zl (HO.out k hk) S.out.bel.size) (S.out.st.below (Qbu Zr))
  rw[hop] at x0
  clear HE1 R hres HRL hn hn0;generalize s.f.results.length=nr at q4 CH;generalize x.args.length=na at x8 CH hal;go_upto_region 9 with fail
  go_region_with (go_at_call 132;refine(CH.out).mono ?_;rintro e8 w8 ⟨hq,b8⟩;have S8:=Qa (S.out.below (ZF b8));rcases hq with ⟨hc,y,rfl,hy⟩|⟨hc,rfl⟩;rotate_left;exact⟨rfl,.inr ⟨by rw[E2.out,Qr hc];exact hc,by rw[E2.out,Qr hc]⟩,S8.out.bel⟩;subst hy;have E3:Hid (s.fin x=QhL s.H s.f.regs):=(by show _=_;rw[E2.out,QF hc]);clear hc b8)
  all_goals
   have CV:=Qa (Qg5 HJ.out.regs S8.out.st);go_wp2_with fail
   refine CV.out.mono ?_;rintro e9 w9 ⟨hq,b9⟩;have S9:=Qa (S8.out.below b9);rcases hq with ⟨hc,y,rfl,hy⟩|⟨hc,rfl⟩
   rotate_left
   ·exact⟨rfl,.inr ⟨by rw[E3.out];exact hc,by rw[E3.out]⟩,S9.out.bel⟩
   subst hy;have E9:Hid (s.fin x=0):=by show _=_;rw[E3.out];exact hc
   clear hc b9;go_wp2
   exact bodyPost_end (v:=.tuple #[]) (by simp[results,results78,go_sem]) rfl ⟨ZW.good E9.out rfl,S9.out.bel⟩
theorem Qcv {w:World}{Fb:Nat}(c:Int) (hF:Blk w Fb #[.int .i64 0] 3) :
 CallsD prog 114 #[Qjx Fb] (.panicking (Qed c)) w fun e u' w' =>
  e=.returned (.tuple #[])∧u'=.panicking [{ v:=.iface 163 (.int .i64 c),recovered:=true }]∧(Blk w' Fb #[.int .i64 c] 3∧Chg Fb w w'):=by
 have hFl:=hF.lt;have yF0:=Qb hF 0 _ rfl;have zF0:=Qp hF 0;have HF:=Qa hF;refine callsD_of_wpS func114 rfl fun c₀ cs hu=>?_;apply wpS_seq
 apply wpS_region
 simp[wpOpsS,go_sem,recoverD,hu,ntmps114,Exit.thenS]
 rw[show (#[Qjx Fb]++((Array.replicate 15 undef).setIfInBounds 3 (Value.iface 163 (.int .i64 c))).setIfInBounds 0 (Value.iface 163 (.int .i64 c)):Array Value)=#[Qjx Fb,Value.iface 163 (.int .i64 c),undef,undef,Value.iface 163 (.int .i64 c),undef,undef,undef,undef,undef,undef,undef,undef,undef,undef,undef] from rfl]
 refine wpS_of_wp ?_;have hta:∀ w:World,(Instr.typeAssert (.iface 163 (.int .i64 c)) 20 163 true).run prog w=.ok (.tuple #[.int .i64 c,.bool true]) w:=fun _=>by kernel_rfl
 clear hF;go_wp2
 have D2:Blk (w.setCell ⟨Fb,0,none⟩ (.int .i64 c)) Fb #[.int .i64 c] 3:=by
  have:=Qo HF.out 0 (.int .i64 c)
  simpa using this
 have D3:Chg Fb w (w.setCell ⟨Fb,0,none⟩ (.int .i64 c)):=Chg.set w 0 _ hFl;exact(show bodyPostS _ _ _ _ _ _ _ _ _ from ⟨rfl,_,rfl,.tuple #[],by simp[results,results114,go_sem],rfl,rfl,D2,D3⟩)
theorem Qfg {w:World}(Fb:Nat) :
 CallsD prog 114 #[Qjx Fb] .returning w fun e u' w'=>e=.returned (.tuple #[])∧u'=.returning∧w'=w:=by
 refine callsD_of_wpS func114 rfl fun c₀ cs hu=>?_;apply wpS_seq
 apply wpS_region
 simp[wpOpsS,go_sem,recoverD,hu,ntmps114,Exit.thenS]
 rw[show (#[Qjx Fb]++((Array.replicate 15 undef).setIfInBounds 3 (Value.nilIface)).setIfInBounds 0 (Value.nilIface):Array Value)=#[Qjx Fb,Value.nilIface,undef,undef,Value.nilIface,undef,undef,undef,undef,undef,undef,undef,undef,undef,undef,undef] from rfl]
 refine wpS_of_wp ?_;go_wp2_with fail
 cases c₀
 simp_all [bodyPostS,results,results114]
def Qk1 (Fb:Nat) (R1:World→Prop) (R2:Int→World→Prop) (en:Ending) (w2:World):Prop :=
 Blk w2 Fb #[.int .i64 0] 3∧((en=.returned (.tuple #[])∧R1 w2)∨(∃ c,en=.panicked (Qed c)∧R2 c w2))
def Qe5 (Fb:Nat) (R1:World→Prop) (R2:Int→World→Prop) (en:Ending) (w':World):Prop :=
 (∃ w2,R1 w2∧en=.returned (.int .i64 0)∧Chg Fb w2 w')∨(∃ w2,∃ c:Int,R2 c w2∧en=.returned (.int .i64 c)∧Chg Fb w2 w')
theorem Qda {w:World}(F:Nat) (caps:Array Value) (hE0:Qc8 F) (R1:World→Prop) (R2:Int→World→Prop) (WORK:Calls prog F caps (w.alloc (.cells #[.int .i64 0] 3)) fun en w2=>Qk1 w.heap.size R1 R2 en w2) :
 Calls prog 69 #[.func (.func F) #[] caps] w fun en w'=>Qe5 w.heap.size R1 R2 en w':=by
 have hmf:∀ (fn:Fn) (first cap:Array Value) (w:World),(Instr.makeFunc fn first cap).run prog w=.ok (.func fn first cap) w:=fun _ _ _ _=>rfl;have hE:=hE0;unfold Qc8 at hE;have WK:Hid (Calls prog F caps (w.alloc (.cells #[.int .i64 0] 3)) fun en w2=>Qk1 w.heap.size R1 R2 en w2):=WORK;clear WORK hE0;go_enter_defers func69,ntmps69
 go_wp2_with fail
 refine WK.out.mono ?_;rintro e' w4 ⟨hF,⟨rfl,hR⟩|⟨c,rfl,hR⟩⟩
 ·have F4:=Qa hF;have yF0:=Qb F4.out 0 _ rfl;have zF0:=Qp F4.out 0;have RR:Hid (R1 w4):=hR;clear hF hR WK hE;go_wp2
  have D2:Blk (w4.setCell ⟨w.heap.size,0,none⟩ (.int .i64 0)) w.heap.size #[.int .i64 0] 3:=by
   have:=Qo F4.out 0 (.int .i64 0)
   simpa using this
  have D3:Chg w.heap.size w4 (w4.setCell ⟨w.heap.size,0,none⟩ (.int .i64 0)):=Chg.set w4 0 _ F4.out.lt;clear yF0 zF0;generalize w4.setCell ⟨w.heap.size,0,none⟩ (.int .i64 0)=w5 at D2 D3 ⊢;refine leaves_cons (f:=114) (args:=#[Qjx w.heap.size]) (by simp) (by simp[go_sem]) ?_;refine(Qfg w.heap.size).mono ?_
  rintro e1 u1 w6 ⟨rfl,rfl,rfl⟩;have x1:=Qb D2 0 _ rfl;exact⟨.int .i64 0,by simp[results,results69,go_sem,x1],.inl ⟨w4,RR.out,rfl,D3⟩⟩
 ·show bodyPostD _ _ _ _ _ _;refine leaves_cons (f:=114) (args:=#[Qjx w.heap.size]) (by simp) (by simp[go_sem]) ?_;refine(Qcv c hF).mono ?_
  rintro e1 u1 w5 ⟨rfl,rfl,d2,d3⟩;have x1:=Qb d2 0 _ rfl;exact⟨.int .i64 c,by simp[results,results69,go_sem,x1],.inr ⟨w4,c,hR,rfl,d3⟩⟩
def Zj (op:Int):Value:=match QD op with
 | some (a,b,c,k,n,rg,ar)=>.tuple #[.agg #[.bool a,.bool b,.bool c,.bool k,.bool n,.bool rg,.bool ar],.bool true]
 | none=>.tuple #[.agg #[.bool false,.bool false,.bool false,.bool false,.bool false,.bool false,.bool false],.bool false]
theorem Qgl (op:Int):op=1∨op=2∨op=3∨op=4∨op=5∨op=6∨op=7∨op=8∨op=9∨op=10∨op=11∨op=12∨op=13∨op=14∨(op≠1∧op≠2∧op≠3∧op≠4∧op≠5∧op≠6∧op≠7∧op≠8∧op≠9∧op≠10∧op≠11∧op≠12∧op≠13∧op≠14):=by omega
theorem Qck (op:Int) (w:World) :
 Calls prog 92 #[.int .i64 op] w fun e w'=>e=.returned (Zj op)∧Below w.heap.size w w':=by
 rcases Qgl op with rfl | rfl | rfl | rfl | rfl | rfl | rfl | rfl | rfl | rfl | rfl | rfl | rfl | rfl | ⟨n1,n2,n3,n4,n5,n6,n7,n8,n9,n10,n11,n12,n13,n14⟩
 ·rw[show Zj 1=.tuple #[.agg #[.bool false,.bool false,.bool false,.bool false,.bool true,.bool false,.bool false],.bool true] from rfl]
  go_enter func92,ntmps92
  go_wp2_with fail
  exact bodyPost_ret (v:=.tuple #[.agg #[.bool false,.bool false,.bool false,.bool false,.bool true,.bool false,.bool false],.bool true]) (by simp[results,results92,go_sem]) rfl ⟨rfl,by first | exact(Below.refl _ w).alloc Ze _ | (repeat (first | exact(Below.refl _ w).alloc Ze _ | refine Below.setCell ?_ (by simp) _))⟩
 ·rw[show Zj 2=.tuple #[.agg #[.bool true,.bool true,.bool false,.bool true,.bool false,.bool false,.bool false],.bool true] from rfl]
  go_enter func92,ntmps92
  go_wp2_with fail
  exact bodyPost_ret (v:=.tuple #[.agg #[.bool true,.bool true,.bool false,.bool true,.bool false,.bool false,.bool false],.bool true]) (by simp[results,results92,go_sem]) rfl ⟨rfl,by first | exact(Below.refl _ w).alloc Ze _ | (repeat (first | exact(Below.refl _ w).alloc Ze _ | refine Below.setCell ?_ (by simp) _))⟩
 ·rw[show Zj 3=.tuple #[.agg #[.bool false,.bool false,.bool false,.bool false,.bool false,.bool false,.bool false],.bool true] from rfl]
  go_enter func92,ntmps92
  go_wp2_with fail
  exact bodyPost_ret (v:=.tuple #[.agg #[.bool false,.bool false,.bool false,.bool false,.bool false,.bool false,.bool false],.bool true]) (by simp[results,results92,go_sem]) rfl ⟨rfl,by first | exact(Below.refl _ w).alloc Ze _ | (repeat (first | exact(Below.refl _ w).alloc Ze _ | refine Below.setCell ?_ (by simp) _))⟩
 ·rw[show Zj 4=.tuple #[.agg #[.bool true,.bool false,.bool false,.bool false,.bool false,.bool false,.bool false],.bool true] from rfl]
  go_enter func92,ntmps92
  go_wp2_with fail
  exact bodyPost_ret (v:=.tuple #[.agg #[.bool true,.bool false,.bool false,.bool false,.bool false,.bool false,.bool false],.bool true]) (by simp[results,results92,go_sem]) rfl ⟨rfl,by first | exact(Below.refl _ w).alloc Ze _ | (repeat (first | exact(Below.refl _ w).alloc Ze _ | refine Below.setCell ?_ (by simp) _))⟩
 ·rw[show Zj 5=.tuple #[.agg #[.bool true,.bool false,.bool false,.bool false,.bool false,.bool false,.bool true],.bool true] from rfl]
  go_enter func92,ntmps92
  go_wp2_with fail
  exact bodyPost_ret (v:=.tuple #[.agg #[.bool true,.bool false,.bool false,.bool false,.bool false,.bool false,.bool true],.bool true]) (by simp[results,results92,go_sem]) rfl ⟨rfl,by first | exact(Below.refl _ w).alloc Ze _ | (repeat (first | exact(Below.refl _ w).alloc Ze _ | refine Below.setCell ?_ (by simp) _))⟩
 ·rw[show Zj 6=.tuple #[.agg #[.bool true,.bool false,.bool false,.bool true,.bool false,.bool false,.bool false],.bool true] from rfl]
  go_enter func92,ntmps92
  go_wp2_with fail
  exact bodyPost_ret (v:=.tuple #[.agg #[.bool true,.bool false,.bool false,.bool true,.bool false,.bool false,.bool false],.bool true]) (by simp[results,results92,go_sem]) rfl ⟨rfl,by first | exact(Below.refl _ w).alloc Ze _ | (repeat (first | exact(Below.refl _ w).alloc Ze _ | refine Below.setCell ?_ (by simp) _))⟩
 ·rw[show Zj 7=.tuple #[.agg #[.bool true,.bool true,.bool false,.bool true,.bool false,.bool false,.bool false],.bool true] from rfl]
  go_enter func92,ntmps92
  go_wp2_with fail
  exact bodyPost_ret (v:=.tuple #[.agg #[.bool true,.bool true,.bool false,.bool true,.bool false,.bool false,.bool false],.bool true]) (by simp[results,results92,go_sem]) rfl ⟨rfl,by first | exact(Below.refl _ w).alloc Ze _ | (repeat (first | exact(Below.refl _ w).alloc Ze _ | refine Below.setCell ?_ (by simp) _))⟩
 ·rw[show Zj 8=.tuple #[.agg #[.bool true,.bool true,.bool false,.bool false,.bool false,.bool false,.bool false],.bool true] from rfl]
  go_enter func92,ntmps92
  go_wp2_with fail
  exact bodyPost_ret (v:=.tuple #[.agg #[.bool true,.bool true,.bool false,.bool false,.bool false,.bool false,.bool false],.bool true]) (by simp[results,results92,go_sem]) rfl ⟨rfl,by first | exact(Below.refl _ w).alloc Ze _ | (repeat (first | exact(Below.refl _ w).alloc Ze _ | refine Below.setCell ?_ (by simp) _))⟩
 ·rw[show Zj 9=.tuple #[.agg #[.bool true,.bool true,.bool false,.bool false,.bool false,.bool false,.bool false],.bool true] from rfl]
  go_enter func92,ntmps92
  go_wp2_with fail
  exact bodyPost_ret (v:=.tuple #[.agg #[.bool true,.bool true,.bool false,.bool false,.bool false,.bool false,.bool false],.bool true]) (by simp[results,results92,go_sem]) rfl ⟨rfl,by first | exact(Below.refl _ w).alloc Ze _ | (repeat (first | exact(Below.refl _ w).alloc Ze _ | refine Below.setCell ?_ (by simp) _))⟩
 ·rw[show Zj 10=.tuple #[.agg #[.bool true,.bool true,.bool true,.bool false,.bool false,.bool false,.bool false],.bool true] from rfl]
  go_enter func92,ntmps92
  go_wp2_with fail
  exact bodyPost_ret (v:=.tuple #[.agg #[.bool true,.bool true,.bool true,.bool false,.bool false,.bool false,.bool false],.bool true]) (by simp[results,results92,go_sem]) rfl ⟨rfl,by first | exact(Below.refl _ w).alloc Ze _ | (repeat (first | exact(Below.refl _ w).alloc Ze _ | refine Below.setCell ?_ (by simp) _))⟩
 ·rw[show Zj 11=.tuple #[.agg #[.bool true,.bool false,.bool false,.bool false,.bool false,.bool false,.bool false],.bool true] from rfl]
  go_enter func92,ntmps92
  go_wp2_with fail
  exact bodyPost_ret (v:=.tuple #[.agg #[.bool true,.bool false,.bool false,.bool false,.bool false,.bool false,.bool false],.bool true]) (by simp[results,results92,go_sem]) rfl ⟨rfl,by first | exact(Below.refl _ w).alloc Ze _ | (repeat (first | exact(Below.refl _ w).alloc Ze _ | refine Below.setCell ?_ (by simp) _))⟩
 ·rw[show Zj 12=.tuple #[.agg #[.bool false,.bool false,.bool false,.bool false,.bool false,.bool false,.bool false],.bool true] from rfl]
  go_enter func92,ntmps92
  go_wp2_with fail
  exact bodyPost_ret (v:=.tuple #[.agg #[.bool false,.bool false,.bool false,.bool false,.bool false,.bool false,.bool false],.bool true]) (by simp[results,results92,go_sem]) rfl ⟨rfl,by first | exact(Below.refl _ w).alloc Ze _ | (repeat (first | exact(Below.refl _ w).alloc Ze _ | refine Below.setCell ?_ (by simp) _))⟩
 ·rw[show Zj 13=.tuple #[.agg #[.bool true,.bool false,.bool false,.bool false,.bool false,.bool false,.bool false],.bool true] from rfl]
  go_enter func92,ntmps92
  go_wp2_with fail
  exact bodyPost_ret (v:=.tuple #[.agg #[.bool true,.bool false,.bool false,.bool false,.bool false,.bool false,.bool false],.bool true]) (by simp[results,results92,go_sem]) rfl ⟨rfl,by first | exact(Below.refl _ w).alloc Ze _ | (repeat (first | exact(Below.refl _ w).alloc Ze _ | refine Below.setCell ?_ (by simp) _))⟩
 ·rw[show Zj 14=.tuple #[.agg #[.bool false,.bool false,.bool false,.bool true,.bool false,.bool true,.bool true],.bool true] from rfl]
  go_enter func92,ntmps92
  go_wp2_with fail
  exact bodyPost_ret (v:=.tuple #[.agg #[.bool false,.bool false,.bool false,.bool true,.bool false,.bool true,.bool true],.bool true]) (by simp[results,results92,go_sem]) rfl ⟨rfl,by first | exact(Below.refl _ w).alloc Ze _ | (repeat (first | exact(Below.refl _ w).alloc Ze _ | refine Below.setCell ?_ (by simp) _))⟩
 ·rw[show Zj op=.tuple #[.agg #[.bool false,.bool false,.bool false,.bool false,.bool false,.bool false,.bool false],.bool false] by unfold Zj QD;simp[n1,n2,n3,n4,n5,n6,n7,n8,n9,n10,n11,n12,n13,n14]]
  have g1:(op==1)=false:=by simpa using n1
  have g2:(op==2)=false:=by simpa using n2
  have g3:(op==3)=false:=by simpa using n3
  have g4:(op==4)=false:=by simpa using n4
  have g5:(op==5)=false:=by simpa using n5
  have g6:(op==6)=false:=by simpa using n6
  have g7:(op==7)=false:=by simpa using n7
  have g8:(op==8)=false:=by simpa using n8
  have g9:(op==9)=false:=by simpa using n9
  have g10:(op==10)=false:=by simpa using n10
  have g11:(op==11)=false:=by simpa using n11
  have g12:(op==12)=false:=by simpa using n12
  have g13:(op==13)=false:=by simpa using n13
  have g14:(op==14)=false:=by simpa using n14
  clear n1 n2 n3 n4 n5 n6 n7 n8 n9 n10 n11 n12 n13 n14;go_enter func92,ntmps92
  go_wp2_with fail
  exact bodyPost_ret (v:=.tuple #[.agg #[.bool false,.bool false,.bool false,.bool false,.bool false,.bool false,.bool false],.bool false]) (by simp[results,results92,go_sem]) rfl ⟨rfl,by first | exact(Below.refl _ w).alloc Ze _ | (repeat (first | exact(Below.refl _ w).alloc Ze _ | refine Below.setCell ?_ (by simp) _))⟩
def QM (funcs:Nat) (op a b c k n:Int) (rl al:Nat):Int :=
 match QD op with
 | none=>3
 | some (fa,fb,fc,fk,fn,fr,fs) =>
   if (!fa&&a != 0)||(!fb&&b != 0)||(!fc&&c != 0)||(!fk&&k != 0)||(!fn&&n != 0)||(!fr&&decide (0<rl))||(!fs&&decide (0<al)) then 4
   else if op=2∧(k<1∨9<k) then 1
   else if op=5∧8<al then 2
   else if (op=6∨op=7)∧(k<0∨7<k) then 1
   else if op=14∧(k<0∨(funcs:Int)≤k) then 1
   else if op=14∧(6<rl∨8<al) then 2
   else 0
theorem Qy.form_eq (funcs:Nat) (x:Qy):x.form funcs=QM funcs x.op x.a x.b x.c x.k x.n x.regs.length x.args.length:=by
 unfold Qy.form Qy.formless QM
 cases QD x.op with
 | none=>rfl
 | some p=>obtain⟨a,b,c,k,n,r,s⟩:=p;rfl
def rangeC (x l m:Int):Int:=if x<l∨m<x then 1 else 0
def manyC (len:Nat) (m:Int):Int:=if m<len then 2 else 0
def handedC (r:Nat) (m:Int) (s:Nat):Int:=if manyC r m≠0 then manyC r m else manyC s 8
def QaU (a b c k n:Int) (rl al:Nat):Bool:=a==0&&b==0&&c==0&&k==0&&n==0&&(rl:Int)==0&&(al:Int)==0
def ZB (funcs:Nat) (op k:Int) (rl al:Nat):Int :=
 if op=2 then rangeC k 1 9 else if op=6∨op=7 then rangeC k 0 7 else if op=5 then manyC al 8
 else if op=14 then (if rangeC k 0 ((funcs:Int) - 1)=0 then handedC rl 6 al else rangeC k 0 ((funcs:Int) - 1)) else 0
theorem fb (f:Bool) (a:Int):(!f&&a != 0)=!((bif f then 0 else a)==0):=by cases f<;>simp[bne]
theorem fbn (f:Bool) (l:Nat):(!f&&decide (0<l))=!(((bif f then 0 else l:Nat):Int)==0):=by
 cases f
 ·by_cases h:l=0
  ·simp[h]
  ·have:0<l:=by omega
   simp[this,h]
 ·simp
theorem QhD (lm:Nat) (op k:Int) (rl al:Nat):(if op=2∧(k<1∨9<k) then 1
 else if op=5∧8<al then 2
 else if (op=6∨op=7)∧(k<0∨7<k) then 1
 else if op=14∧(k<0∨(lm:Int)≤k) then 1
 else if op=14∧(6<rl∨8<al) then 2
 else 0)=ZB lm op k rl al:=by
 unfold ZB;by_cases h2:op=2
 ·subst h2;simp[rangeC]
 ·by_cases h6:op=6∨op=7
  ·have h5:¬ op=5:=by omega
   have h14:¬ op=14:=by omega
   simp[h2,h5,h6,h14,rangeC]
  ·by_cases h5:op=5
   ·subst h5;simp[manyC];split<;>split<;>omega
   ·by_cases h14:op=14
    ·subst h14;simp[rangeC,handedC,manyC]
     repeat' split
     all_goals omega
    ·simp[h2,h5,h6,h14]
theorem QK {lm:Nat}{op a b c k n:Int}{rl al:Nat}{fa fb' fc fk fn fr fs:Bool}(e:QD op=some (fa,fb',fc,fk,fn,fr,fs)) :
 QM lm op a b c k n rl al=if QaU (bif fa then 0 else a) (bif fb' then 0 else b) (bif fc then 0 else c) (bif fk then 0 else k) (bif fn then 0 else n) (bif fr then 0 else rl) (bif fs then 0 else al)=true then ZB lm op k rl al else 4:=by
 simp only[QM,e,QhD]
 rw[fb,fb,fb,fb,fb,fbn,fbn]
 unfold QaU;generalize ((bif fa then 0 else a)==0)=q1;generalize ((bif fb' then 0 else b)==0)=q2;generalize ((bif fc then 0 else c)==0)=q3;generalize ((bif fk then 0 else k)==0)=q4;generalize ((bif fn then 0 else n)==0)=q5;generalize (((bif fr then 0 else rl:Nat):Int)==0)=q6;generalize (((bif fs then 0 else al:Nat):Int)==0)=q7
 cases q1<;>cases q2<;>cases q3<;>cases q4<;>cases q5<;>cases q6<;>cases q7<;>rfl
theorem QfN {f:Nat}{w:World}(h:f<1000000):Rd prog 139 #[.int .i64 (f:Int)] w (.int .i64 (10000*(f:Int)+9999)):=by
 unfold Rd;skip
 skip
 go_enter func139,ntmps139
 go_wp2
 go_ret;refine⟨?_,Zr⟩
 show Ending.returned (.int .i64 ((f:Int)*10000+9999))=_;congr 2
 omega
theorem QeL {f b:Nat}{w:World}(h:f<1000000∧b<1000000):Rd prog 175 #[.int .i64 (f:Int),.int .i64 (b:Int)] w (.int .i64 (10000*(f:Int)+100*(b:Int)+90)):=by
 unfold Rd;have h1:=h.1;have h2:=h.2;skip
 go_enter func175,ntmps175
 go_wp2
 go_ret;refine⟨?_,Zr⟩
 show Ending.returned (.int .i64 ((f:Int)*10000+(b:Int)*100+90))=_;congr 2
 omega
theorem Qgy {f b:Nat}{w:World}(h:f<1000000∧b<1000000):Rd prog 179 #[.int .i64 (f:Int),.int .i64 (b:Int)] w (.int .i64 (10000*(f:Int)+100*(b:Int)+91)):=by
 unfold Rd;have h1:=h.1;have h2:=h.2;skip
 go_enter func179,ntmps179
 go_wp2
 go_ret;refine⟨?_,Zr⟩
 show Ending.returned (.int .i64 ((f:Int)*10000+(b:Int)*100+91))=_;congr 2
 omega
theorem Qgo {f b i:Nat}{w:World}(h:f<1000000∧b<1000000∧i<1000000):Rd prog 178 #[.int .i64 (f:Int),.int .i64 (b:Int),.int .i64 (i:Int)] w (.int .i64 (10000*(f:Int)+100*(b:Int)+(i:Int))):=by
 unfold Rd;have h1:=h.1;have h2:=h.2;have h3:=h.2.1;have h4:=h.2.2;go_enter func178,ntmps178
 go_wp2
 go_ret;refine⟨?_,Zr⟩
 show Ending.returned (.int .i64 ((f:Int)*10000+(b:Int)*100+(i:Int)))=_;congr 2
 omega
theorem ZU {x l m:Int}{w:World}:Rd prog 157 #[.int .i64 x,.int .i64 l,.int .i64 m] w (.int .i64 (rangeC x l m)):=by
 unfold Rd rangeC;by_cases h1:x<l
 ·rw[if_pos (.inl h1)]
  go_enter func157,ntmps157
  go_wp2
  go_ret;exact⟨rfl,Zr⟩
 ·by_cases h2:m<x
  ·rw[if_pos (.inr h2)]
   go_enter func157,ntmps157
   go_wp2
   go_ret;exact⟨rfl,Zr⟩
  ·rw[if_neg (by omega)]
   go_enter func157,ntmps157
   go_wp2
   go_ret;exact⟨rfl,Zr⟩
theorem Qa5 {p:Option Addr}{len c:Nat}{m:Int}{w:World}:Rd prog 158 #[.slice p len c,.int .i64 m] w (.int .i64 (manyC len m)):=by
 unfold Rd manyC;by_cases h1:m<len
 ·rw[if_pos h1]
  go_enter func158,ntmps158
  go_wp2
  go_ret;exact⟨rfl,Zr⟩
 ·rw[if_neg h1]
  go_enter func158,ntmps158
  go_wp2
  go_ret;exact⟨rfl,Zr⟩
theorem Qbt {p q:Option Addr}{r c s d:Nat}{m:Int}{w:World}:Rd prog 159 #[.slice p r c,.int .i64 m,.slice q s d] w (.int .i64 (handedC r m s)):=by
 have C1:Hid (∀ wx:World,Calls prog 158 #[.slice p r c,.int .i64 m] wx fun e w'=>e=.returned (.int .i64 (manyC r m))∧Below wx.heap.size wx w'):=fun wx=>Qa5;have C2:Hid (∀ wx:World,Calls prog 158 #[.slice q s d,.int .i64 8] wx fun e w'=>e=.returned (.int .i64 (manyC s 8))∧Below wx.heap.size wx w'):=fun wx=>Qa5;unfold Rd handedC;by_cases h:manyC r m=0
 ·rw[if_neg (by simpa using h)]
  rw[h] at C1
  go_enter func159,ntmps159
  go_wp2_with fail
  refine(C1.out w).mono ?_
  rintro e w1 ⟨rfl,b1⟩;have B1:Hid (Below w.heap.size w w1):=b1;clear b1 C1;go_wp2_with fail
  refine(C2.out w1).mono ?_
  rintro e w2 ⟨rfl,b2⟩;have B2:Hid (Below w.heap.size w w2):=B1.out.trans (b2.mono B1.out.size);clear b2 C2 B1;go_wp2
  go_ret;exact⟨rfl,B2.out⟩
 ·rw[if_pos h]
  have h':(manyC r m==0)=false:=by simpa using h
  generalize manyC r m=v at C1 h' h ⊢;go_enter func159,ntmps159
  go_wp2_with fail
  refine(C1.out w).mono ?_
  rintro e w1 ⟨rfl,b1⟩;have B1:Hid (Below w.heap.size w w1):=b1;clear b1 C1 C2;go_wp2
  go_ret;exact⟨rfl,B1.out⟩
theorem QU {xop:Int}{xa xb xc xk xn:Int}{ra aa:Option Addr}{rl rc al ac:Nat}{w:World}:Rd prog 112 #[.agg #[.int .i64 xop,.int .i64 xa,.int .i64 xb,.int .i64 xc,.int .i64 xk,.int .i64 xn,.slice ra rl rc,.slice aa al ac]] w (.bool (QaU xa xb xc xk xn rl al)):=by
 unfold Rd
 ·by_cases h0:xa=0
  ·subst h0
   ·by_cases h1:xb=0
    ·subst h1
     ·by_cases h2:xc=0
      ·subst h2
       ·by_cases h3:xk=0
        ·subst h3
         ·by_cases h4:xn=0
          ·subst h4
           ·by_cases h5:rl=0
            ·subst h5
             ·by_cases h6:al=0
              ·subst h6
               ·rw[show QaU 0 0 0 0 0 0 0=true from rfl]
                go_enter func112,ntmps112
                go_wp2
                go_ret;exact⟨rfl,QN _ _⟩
              ·have g6:((al:Int)==0)=false:=by simpa using h6
               rw[show QaU 0 0 0 0 0 0 al=false by simp[QaU,g6]]
               go_enter func112,ntmps112
               go_wp2
               go_ret;exact⟨rfl,QN _ _⟩
            ·have g5:((rl:Int)==0)=false:=by simpa using h5
             rw[show QaU 0 0 0 0 0 rl al=false by simp[QaU,g5]]
             go_enter func112,ntmps112
             go_wp2
             go_ret;exact⟨rfl,QN _ _⟩
          ·have g4:(xn==0)=false:=by simpa using h4
           rw[show QaU 0 0 0 0 xn rl al=false by simp[QaU,g4]]
           go_enter func112,ntmps112
           go_wp2
           go_ret;exact⟨rfl,QN _ _⟩
        ·have g3:(xk==0)=false:=by simpa using h3
         rw[show QaU 0 0 0 xk xn rl al=false by simp[QaU,g3]]
         go_enter func112,ntmps112
         go_wp2
         go_ret;exact⟨rfl,QN _ _⟩
      ·have g2:(xc==0)=false:=by simpa using h2
       rw[show QaU 0 0 xc xk xn rl al=false by simp[QaU,g2]]
       go_enter func112,ntmps112
       go_wp2
       go_ret;exact⟨rfl,QN _ _⟩
    ·have g1:(xb==0)=false:=by simpa using h1
     rw[show QaU 0 xb xc xk xn rl al=false by simp[QaU,g1]]
     go_enter func112,ntmps112
     go_wp2
     go_ret;exact⟨rfl,QN _ _⟩
  ·have g0:(xa==0)=false:=by simpa using h0
   rw[show QaU xa xb xc xk xn rl al=false by simp[QaU,g0]]
   go_enter func112,ntmps112
   go_wp2
   go_ret;exact⟨rfl,QN _ _⟩
theorem wf1 {xa xb xc xk xn:Int}{ra aa:Option Addr}{rl rc al ac:Nat}{w:World}:Rd prog 111 #[.agg #[.int .i64 1,.int .i64 xa,.int .i64 xb,.int .i64 xc,.int .i64 xk,.int .i64 xn,.slice ra rl rc,.slice aa al ac]] w (.tuple #[.agg #[.int .i64 1,.int .i64 xa,.int .i64 xb,.int .i64 xc,.int .i64 xk,.int .i64 0,.slice ra rl rc,.slice aa al ac],.bool true]):=by
 unfold Rd;go_enter func111,ntmps111
 go_wp2
 exact bodyPost_ret (v:=.tuple #[.agg #[.int .i64 1,.int .i64 xa,.int .i64 xb,.int .i64 xc,.int .i64 xk,.int .i64 0,.slice ra rl rc,.slice aa al ac],.bool true]) (by simp[results,results111,go_sem]) rfl ⟨rfl,QaX _ _ _⟩
theorem wf2 {xa xb xc xk xn:Int}{ra aa:Option Addr}{rl rc al ac:Nat}{w:World}:Rd prog 111 #[.agg #[.int .i64 2,.int .i64 xa,.int .i64 xb,.int .i64 xc,.int .i64 xk,.int .i64 xn,.slice ra rl rc,.slice aa al ac]] w (.tuple #[.agg #[.int .i64 2,.int .i64 0,.int .i64 0,.int .i64 xc,.int .i64 0,.int .i64 xn,.slice ra rl rc,.slice aa al ac],.bool true]):=by
 unfold Rd;go_enter func111,ntmps111
 go_wp2
 exact bodyPost_ret (v:=.tuple #[.agg #[.int .i64 2,.int .i64 0,.int .i64 0,.int .i64 xc,.int .i64 0,.int .i64 xn,.slice ra rl rc,.slice aa al ac],.bool true]) (by simp[results,results111,go_sem]) rfl ⟨rfl,QaX _ _ _⟩
theorem wf3 {xa xb xc xk xn:Int}{ra aa:Option Addr}{rl rc al ac:Nat}{w:World}:Rd prog 111 #[.agg #[.int .i64 3,.int .i64 xa,.int .i64 xb,.int .i64 xc,.int .i64 xk,.int .i64 xn,.slice ra rl rc,.slice aa al ac]] w (.tuple #[.agg #[.int .i64 3,.int .i64 xa,.int .i64 xb,.int .i64 xc,.int .i64 xk,.int .i64 xn,.slice ra rl rc,.slice aa al ac],.bool true]):=by
 unfold Rd;go_enter func111,ntmps111
 go_wp2
 exact bodyPost_ret (v:=.tuple #[.agg #[.int .i64 3,.int .i64 xa,.int .i64 xb,.int .i64 xc,.int .i64 xk,.int .i64 xn,.slice ra rl rc,.slice aa al ac],.bool true]) (by simp[results,results111,go_sem]) rfl ⟨rfl,QaX _ _ _⟩
theorem wf4 {xa xb xc xk xn:Int}{ra aa:Option Addr}{rl rc al ac:Nat}{w:World}:Rd prog 111 #[.agg #[.int .i64 4,.int .i64 xa,.int .i64 xb,.int .i64 xc,.int .i64 xk,.int .i64 xn,.slice ra rl rc,.slice aa al ac]] w (.tuple #[.agg #[.int .i64 4,.int .i64 0,.int .i64 xb,.int .i64 xc,.int .i64 xk,.int .i64 xn,.slice ra rl rc,.slice aa al ac],.bool true]):=by
 unfold Rd;go_enter func111,ntmps111
 go_wp2
 exact bodyPost_ret (v:=.tuple #[.agg #[.int .i64 4,.int .i64 0,.int .i64 xb,.int .i64 xc,.int .i64 xk,.int .i64 xn,.slice ra rl rc,.slice aa al ac],.bool true]) (by simp[results,results111,go_sem]) rfl ⟨rfl,QaX _ _ _⟩
theorem wf5 {xa xb xc xk xn:Int}{ra aa:Option Addr}{rl rc al ac:Nat}{w:World}:Rd prog 111 #[.agg #[.int .i64 5,.int .i64 xa,.int .i64 xb,.int .i64 xc,.int .i64 xk,.int .i64 xn,.slice ra rl rc,.slice aa al ac]] w (.tuple #[.agg #[.int .i64 5,.int .i64 0,.int .i64 xb,.int .i64 xc,.int .i64 xk,.int .i64 xn,.slice ra rl rc,.slice none 0 0],.bool true]):=by
 unfold Rd;go_enter func111,ntmps111
 go_wp2
 exact bodyPost_ret (v:=.tuple #[.agg #[.int .i64 5,.int .i64 0,.int .i64 xb,.int .i64 xc,.int .i64 xk,.int .i64 xn,.slice ra rl rc,.slice none 0 0],.bool true]) (by simp[results,results111,go_sem]) rfl ⟨rfl,QaX _ _ _⟩
theorem wf6 {xa xb xc xk xn:Int}{ra aa:Option Addr}{rl rc al ac:Nat}{w:World}:Rd prog 111 #[.agg #[.int .i64 6,.int .i64 xa,.int .i64 xb,.int .i64 xc,.int .i64 xk,.int .i64 xn,.slice ra rl rc,.slice aa al ac]] w (.tuple #[.agg #[.int .i64 6,.int .i64 0,.int .i64 xb,.int .i64 xc,.int .i64 0,.int .i64 xn,.slice ra rl rc,.slice aa al ac],.bool true]):=by
 unfold Rd;go_enter func111,ntmps111
 go_wp2
 exact bodyPost_ret (v:=.tuple #[.agg #[.int .i64 6,.int .i64 0,.int .i64 xb,.int .i64 xc,.int .i64 0,.int .i64 xn,.slice ra rl rc,.slice aa al ac],.bool true]) (by simp[results,results111,go_sem]) rfl ⟨rfl,QaX _ _ _⟩
theorem wf7 {xa xb xc xk xn:Int}{ra aa:Option Addr}{rl rc al ac:Nat}{w:World}:Rd prog 111 #[.agg #[.int .i64 7,.int .i64 xa,.int .i64 xb,.int .i64 xc,.int .i64 xk,.int .i64 xn,.slice ra rl rc,.slice aa al ac]] w (.tuple #[.agg #[.int .i64 7,.int .i64 0,.int .i64 0,.int .i64 xc,.int .i64 0,.int .i64 xn,.slice ra rl rc,.slice aa al ac],.bool true]):=by
 unfold Rd;go_enter func111,ntmps111
 go_wp2
 exact bodyPost_ret (v:=.tuple #[.agg #[.int .i64 7,.int .i64 0,.int .i64 0,.int .i64 xc,.int .i64 0,.int .i64 xn,.slice ra rl rc,.slice aa al ac],.bool true]) (by simp[results,results111,go_sem]) rfl ⟨rfl,QaX _ _ _⟩
theorem wf8 {xa xb xc xk xn:Int}{ra aa:Option Addr}{rl rc al ac:Nat}{w:World}:Rd prog 111 #[.agg #[.int .i64 8,.int .i64 xa,.int .i64 xb,.int .i64 xc,.int .i64 xk,.int .i64 xn,.slice ra rl rc,.slice aa al ac]] w (.tuple #[.agg #[.int .i64 8,.int .i64 0,.int .i64 0,.int .i64 xc,.int .i64 xk,.int .i64 xn,.slice ra rl rc,.slice aa al ac],.bool true]):=by
 unfold Rd;go_enter func111,ntmps111
 go_wp2
 exact bodyPost_ret (v:=.tuple #[.agg #[.int .i64 8,.int .i64 0,.int .i64 0,.int .i64 xc,.int .i64 xk,.int .i64 xn,.slice ra rl rc,.slice aa al ac],.bool true]) (by simp[results,results111,go_sem]) rfl ⟨rfl,QaX _ _ _⟩
theorem wf9 {xa xb xc xk xn:Int}{ra aa:Option Addr}{rl rc al ac:Nat}{w:World}:Rd prog 111 #[.agg #[.int .i64 9,.int .i64 xa,.int .i64 xb,.int .i64 xc,.int .i64 xk,.int .i64 xn,.slice ra rl rc,.slice aa al ac]] w (.tuple #[.agg #[.int .i64 9,.int .i64 0,.int .i64 0,.int .i64 xc,.int .i64 xk,.int .i64 xn,.slice ra rl rc,.slice aa al ac],.bool true]):=by
 unfold Rd;go_enter func111,ntmps111
 go_wp2
 exact bodyPost_ret (v:=.tuple #[.agg #[.int .i64 9,.int .i64 0,.int .i64 0,.int .i64 xc,.int .i64 xk,.int .i64 xn,.slice ra rl rc,.slice aa al ac],.bool true]) (by simp[results,results111,go_sem]) rfl ⟨rfl,QaX _ _ _⟩
theorem Ql0 {xa xb xc xk xn:Int}{ra aa:Option Addr}{rl rc al ac:Nat}{w:World}:Rd prog 111 #[.agg #[.int .i64 10,.int .i64 xa,.int .i64 xb,.int .i64 xc,.int .i64 xk,.int .i64 xn,.slice ra rl rc,.slice aa al ac]] w (.tuple #[.agg #[.int .i64 10,.int .i64 0,.int .i64 0,.int .i64 0,.int .i64 xk,.int .i64 xn,.slice ra rl rc,.slice aa al ac],.bool true]):=by
 unfold Rd;go_enter func111,ntmps111
 go_wp2
 exact bodyPost_ret (v:=.tuple #[.agg #[.int .i64 10,.int .i64 0,.int .i64 0,.int .i64 0,.int .i64 xk,.int .i64 xn,.slice ra rl rc,.slice aa al ac],.bool true]) (by simp[results,results111,go_sem]) rfl ⟨rfl,QaX _ _ _⟩
theorem QlK {xa xb xc xk xn:Int}{ra aa:Option Addr}{rl rc al ac:Nat}{w:World}:Rd prog 111 #[.agg #[.int .i64 11,.int .i64 xa,.int .i64 xb,.int .i64 xc,.int .i64 xk,.int .i64 xn,.slice ra rl rc,.slice aa al ac]] w (.tuple #[.agg #[.int .i64 11,.int .i64 0,.int .i64 xb,.int .i64 xc,.int .i64 xk,.int .i64 xn,.slice ra rl rc,.slice aa al ac],.bool true]):=by
 unfold Rd;go_enter func111,ntmps111
 go_wp2
 exact bodyPost_ret (v:=.tuple #[.agg #[.int .i64 11,.int .i64 0,.int .i64 xb,.int .i64 xc,.int .i64 xk,.int .i64 xn,.slice ra rl rc,.slice aa al ac],.bool true]) (by simp[results,results111,go_sem]) rfl ⟨rfl,QaX _ _ _⟩
theorem Ql1 {xa xb xc xk xn:Int}{ra aa:Option Addr}{rl rc al ac:Nat}{w:World}:Rd prog 111 #[.agg #[.int .i64 12,.int .i64 xa,.int .i64 xb,.int .i64 xc,.int .i64 xk,.int .i64 xn,.slice ra rl rc,.slice aa al ac]] w (.tuple #[.agg #[.int .i64 12,.int .i64 xa,.int .i64 xb,.int .i64 xc,.int .i64 xk,.int .i64 xn,.slice ra rl rc,.slice aa al ac],.bool true]):=by
 unfold Rd;go_enter func111,ntmps111
 go_wp2
 exact bodyPost_ret (v:=.tuple #[.agg #[.int .i64 12,.int .i64 xa,.int .i64 xb,.int .i64 xc,.int .i64 xk,.int .i64 xn,.slice ra rl rc,.slice aa al ac],.bool true]) (by simp[results,results111,go_sem]) rfl ⟨rfl,QaX _ _ _⟩
theorem QlN {xa xb xc xk xn:Int}{ra aa:Option Addr}{rl rc al ac:Nat}{w:World}:Rd prog 111 #[.agg #[.int .i64 13,.int .i64 xa,.int .i64 xb,.int .i64 xc,.int .i64 xk,.int .i64 xn,.slice ra rl rc,.slice aa al ac]] w (.tuple #[.agg #[.int .i64 13,.int .i64 0,.int .i64 xb,.int .i64 xc,.int .i64 xk,.int .i64 xn,.slice ra rl rc,.slice aa al ac],.bool true]):=by
 unfold Rd;go_enter func111,ntmps111
 go_wp2
 exact bodyPost_ret (v:=.tuple #[.agg #[.int .i64 13,.int .i64 0,.int .i64 xb,.int .i64 xc,.int .i64 xk,.int .i64 xn,.slice ra rl rc,.slice aa al ac],.bool true]) (by simp[results,results111,go_sem]) rfl ⟨rfl,QaX _ _ _⟩
theorem Qmd {xa xb xc xk xn:Int}{ra aa:Option Addr}{rl rc al ac:Nat}{w:World}:Rd prog 111 #[.agg #[.int .i64 14,.int .i64 xa,.int .i64 xb,.int .i64 xc,.int .i64 xk,.int .i64 xn,.slice ra rl rc,.slice aa al ac]] w (.tuple #[.agg #[.int .i64 14,.int .i64 xa,.int .i64 xb,.int .i64 xc,.int .i64 0,.int .i64 xn,.slice none 0 0,.slice none 0 0],.bool true]):=by
 unfold Rd;go_enter func111,ntmps111
 go_wp2
 exact bodyPost_ret (v:=.tuple #[.agg #[.int .i64 14,.int .i64 xa,.int .i64 xb,.int .i64 xc,.int .i64 0,.int .i64 xn,.slice none 0 0,.slice none 0 0],.bool true]) (by simp[results,results111,go_sem]) rfl ⟨rfl,QaX _ _ _⟩
theorem QlO {xop:Int}{xa xb xc xk xn:Int}{ra aa:Option Addr}{rl rc al ac:Nat}{w:World}(h:xop≠1∧xop≠2∧xop≠3∧xop≠4∧xop≠5∧xop≠6∧xop≠7∧xop≠8∧xop≠9∧xop≠10∧xop≠11∧xop≠12∧xop≠13∧xop≠14):Rd prog 111 #[.agg #[.int .i64 xop,.int .i64 xa,.int .i64 xb,.int .i64 xc,.int .i64 xk,.int .i64 xn,.slice ra rl rc,.slice aa al ac]] w (.tuple #[.agg #[.int .i64 xop,.int .i64 xa,.int .i64 xb,.int .i64 xc,.int .i64 xk,.int .i64 xn,.slice ra rl rc,.slice aa al ac],.bool false]):=by
 obtain⟨h1,h2,h3,h4,h5,h6,h7,h8,h9,h10,h11,h12,h13,h14⟩:=h
 have g1:(xop==1)=false:=by simpa using h1
 have g2:(xop==2)=false:=by simpa using h2
 have g3:(xop==3)=false:=by simpa using h3
 have g4:(xop==4)=false:=by simpa using h4
 have g5:(xop==5)=false:=by simpa using h5
 have g6:(xop==6)=false:=by simpa using h6
 have g7:(xop==7)=false:=by simpa using h7
 have g8:(xop==8)=false:=by simpa using h8
 have g9:(xop==9)=false:=by simpa using h9
 have g10:(xop==10)=false:=by simpa using h10
 have g11:(xop==11)=false:=by simpa using h11
 have g12:(xop==12)=false:=by simpa using h12
 have g13:(xop==13)=false:=by simpa using h13
 have g14:(xop==14)=false:=by simpa using h14
 unfold Rd;go_enter func111,ntmps111
 go_wp2
 exact bodyPost_ret (v:=.tuple #[.agg #[.int .i64 xop,.int .i64 xa,.int .i64 xb,.int .i64 xc,.int .i64 xk,.int .i64 xn,.slice ra rl rc,.slice aa al ac],.bool false]) (by simp[results,results111,go_sem]) rfl ⟨rfl,QaX _ _ _⟩
theorem Qkb {xa xb xc xk xn:Int}{ra aa:Option Addr}{rl rc al ac:Nat}{am:Option Addr}{lm cm:Nat}{w:World}:Rd prog 113 #[.agg #[.slice am lm cm],.agg #[.int .i64 2,.int .i64 xa,.int .i64 xb,.int .i64 xc,.int .i64 xk,.int .i64 xn,.slice ra rl rc,.slice aa al ac]] w (.int .i64 (ZB lm 2 xk rl al)):=by
 have C:Hid (∀ wx:World,Calls prog 157 #[.int .i64 xk,.int .i64 1,.int .i64 9] wx fun e w'=>e=.returned (.int .i64 (rangeC xk 1 9))∧Below wx.heap.size wx w'):=fun wx=>ZU;rw[show ZB lm 2 xk rl al=rangeC xk 1 9 from rfl]
 generalize rangeC xk 1 9=v at C ⊢;unfold Rd;go_enter func113,ntmps113
 go_wp2_with fail
 refine(C.out _).mono ?_
 rintro e w2 ⟨rfl,b2⟩;have B2:Hid (Below w.heap.size w w2):=(QaX _ _ _).trans (b2.mono (QaX w _ _).size);clear b2 C;go_wp2
 go_ret;exact⟨rfl,B2.out⟩
theorem QjT {xa xb xc xk xn:Int}{ra aa:Option Addr}{rl rc al ac:Nat}{am:Option Addr}{lm cm:Nat}{w:World}:Rd prog 113 #[.agg #[.slice am lm cm],.agg #[.int .i64 6,.int .i64 xa,.int .i64 xb,.int .i64 xc,.int .i64 xk,.int .i64 xn,.slice ra rl rc,.slice aa al ac]] w (.int .i64 (ZB lm 6 xk rl al)):=by
 have C:Hid (∀ wx:World,Calls prog 157 #[.int .i64 xk,.int .i64 0,.int .i64 7] wx fun e w'=>e=.returned (.int .i64 (rangeC xk 0 7))∧Below wx.heap.size wx w'):=fun wx=>ZU;rw[show ZB lm 6 xk rl al=rangeC xk 0 7 from rfl]
 generalize rangeC xk 0 7=v at C ⊢;unfold Rd;go_enter func113,ntmps113
 go_wp2_with fail
 refine(C.out _).mono ?_
 rintro e w2 ⟨rfl,b2⟩;have B2:Hid (Below w.heap.size w w2):=(QaX _ _ _).trans (b2.mono (QaX w _ _).size);clear b2 C;go_wp2
 go_ret;exact⟨rfl,B2.out⟩
theorem Qj1 {xa xb xc xk xn:Int}{ra aa:Option Addr}{rl rc al ac:Nat}{am:Option Addr}{lm cm:Nat}{w:World}:Rd prog 113 #[.agg #[.slice am lm cm],.agg #[.int .i64 7,.int .i64 xa,.int .i64 xb,.int .i64 xc,.int .i64 xk,.int .i64 xn,.slice ra rl rc,.slice aa al ac]] w (.int .i64 (ZB lm 7 xk rl al)):=by
 have C:Hid (∀ wx:World,Calls prog 157 #[.int .i64 xk,.int .i64 0,.int .i64 7] wx fun e w'=>e=.returned (.int .i64 (rangeC xk 0 7))∧Below wx.heap.size wx w'):=fun wx=>ZU;rw[show ZB lm 7 xk rl al=rangeC xk 0 7 from rfl]
 generalize rangeC xk 0 7=v at C ⊢;unfold Rd;go_enter func113,ntmps113
 go_wp2_with fail
 refine(C.out _).mono ?_
 rintro e w2 ⟨rfl,b2⟩;have B2:Hid (Below w.heap.size w w2):=(QaX _ _ _).trans (b2.mono (QaX w _ _).size);clear b2 C;go_wp2
 go_ret;exact⟨rfl,B2.out⟩
theorem QjX {xa xb xc xk xn:Int}{ra aa:Option Addr}{rl rc al ac:Nat}{am:Option Addr}{lm cm:Nat}{w:World}:Rd prog 113 #[.agg #[.slice am lm cm],.agg #[.int .i64 5,.int .i64 xa,.int .i64 xb,.int .i64 xc,.int .i64 xk,.int .i64 xn,.slice ra rl rc,.slice aa al ac]] w (.int .i64 (ZB lm 5 xk rl al)):=by
 have C:Hid (∀ wx:World,Calls prog 158 #[.slice aa al ac,.int .i64 8] wx fun e w'=>e=.returned (.int .i64 (manyC al 8))∧Below wx.heap.size wx w'):=fun wx=>Qa5;rw[show ZB lm 5 xk rl al=manyC al 8 from rfl]
 generalize manyC al 8=v at C ⊢;unfold Rd;go_enter func113,ntmps113
 go_wp2_with fail
 refine(C.out _).mono ?_
 rintro e w2 ⟨rfl,b2⟩;have B2:Hid (Below w.heap.size w w2):=(QaX _ _ _).trans (b2.mono (QaX w _ _).size);clear b2 C;go_wp2
 go_ret;exact⟨rfl,B2.out⟩
theorem Qjm {xa xb xc xk xn:Int}{ra aa:Option Addr}{rl rc al ac:Nat}{am:Option Addr}{lm cm:Nat}{w:World}(hlm:lm<2305843009213693952):Rd prog 113 #[.agg #[.slice am lm cm],.agg #[.int .i64 14,.int .i64 xa,.int .i64 xb,.int .i64 xc,.int .i64 xk,.int .i64 xn,.slice ra rl rc,.slice aa al ac]] w (.int .i64 (ZB lm 14 xk rl al)):=by
 have C:Hid (∀ wx:World,Calls prog 157 #[.int .i64 xk,.int .i64 0,.int .i64 ((lm:Int) - 1)] wx fun e w'=>e=.returned (.int .i64 (rangeC xk 0 ((lm:Int) - 1)))∧Below wx.heap.size wx w'):=fun wx=>ZU;have C2:Hid (∀ wx:World,Calls prog 159 #[.slice ra rl rc,.int .i64 6,.slice aa al ac] wx fun e w'=>e=.returned (.int .i64 (handedC rl 6 al))∧Below wx.heap.size wx w'):=fun wx=>Qbt;rw[show ZB lm 14 xk rl al=if rangeC xk 0 ((lm:Int) - 1)=0 then handedC rl 6 al else rangeC xk 0 ((lm:Int) - 1) from rfl]
 generalize rangeC xk 0 ((lm:Int) - 1)=v at C ⊢;generalize handedC rl 6 al=u at C2 ⊢;have X2:Blk ((w.alloc (.cells #[.slice am lm cm] 24)).alloc (.cells #[.int .i64 14,.int .i64 xa,.int .i64 xb,.int .i64 xc,.int .i64 xk,.int .i64 xn,.slice ra rl rc,.slice aa al ac] 59)) (w.heap.size+1) #[.int .i64 14,.int .i64 xa,.int .i64 xb,.int .i64 xc,.int .i64 xk,.int .i64 xn,.slice ra rl rc,.slice aa al ac] 59:=Blk.new2 _ _ _ _;have B1:Hid (Below w.heap.size w ((w.alloc (.cells #[.slice am lm cm] 24)).alloc (.cells #[.int .i64 14,.int .i64 xa,.int .i64 xb,.int .i64 xc,.int .i64 xk,.int .i64 xn,.slice ra rl rc,.slice aa al ac] 59))):=QaX _ _ _;unfold Rd;by_cases hv:v=0
 ·subst hv;rw[if_pos rfl]
  go_enter func113,ntmps113
  go_wp2_with fail
  generalize ((w.alloc (.cells #[.slice am lm cm] 24)).alloc (.cells #[.int .i64 14,.int .i64 xa,.int .i64 xb,.int .i64 xc,.int .i64 xk,.int .i64 xn,.slice ra rl rc,.slice aa al ac] 59))=w1 at X2 B1 ⊢;refine(C.out _).mono ?_
  rintro e w2 ⟨rfl,b2⟩;have X3:=(b2.block _ (lt_of_block X2)).trans X2;have B2:Hid (Below w.heap.size w w2):=B1.out.trans (b2.mono B1.out.size);have c6:=Qb X3 6 _ rfl;have c7:=Qb X3 7 _ rfl;clear b2 C X2 B1 X3;go_wp2_with fail
  refine(C2.out _).mono ?_
  rintro e w3 ⟨rfl,b3⟩;have B3:Hid (Below w.heap.size w w3):=B2.out.trans (b3.mono B2.out.size);clear b3 C2 B2;go_wp2
  go_ret;exact⟨rfl,B3.out⟩
 ·rw[if_neg hv]
  have hv':(v==0)=false:=by simpa using hv
  go_enter func113,ntmps113
  go_wp2_with fail
  generalize ((w.alloc (.cells #[.slice am lm cm] 24)).alloc (.cells #[.int .i64 14,.int .i64 xa,.int .i64 xb,.int .i64 xc,.int .i64 xk,.int .i64 xn,.slice ra rl rc,.slice aa al ac] 59))=w1 at X2 B1 ⊢;refine(C.out _).mono ?_
  rintro e w2 ⟨rfl,b2⟩;have B2:Hid (Below w.heap.size w w2):=B1.out.trans (b2.mono B1.out.size);clear b2 C C2 X2 B1;go_wp2
  go_ret;exact⟨rfl,B2.out⟩
theorem Z8 {xop:Int}{xa xb xc xk xn:Int}{ra aa:Option Addr}{rl rc al ac:Nat}{am:Option Addr}{lm cm:Nat}{w:World}(h:xop≠2∧xop≠6∧xop≠7∧xop≠5∧xop≠14):Rd prog 113 #[.agg #[.slice am lm cm],.agg #[.int .i64 xop,.int .i64 xa,.int .i64 xb,.int .i64 xc,.int .i64 xk,.int .i64 xn,.slice ra rl rc,.slice aa al ac]] w (.int .i64 (ZB lm xop xk rl al)):=by
 obtain⟨h2,h6,h7,h5,h14⟩:=h
 rw[show ZB lm xop xk rl al=0 by simp[ZB,h2,h6,h7,h5,h14]]
 have g2:(xop==2)=false:=by simpa using h2
 have g6:(xop==6)=false:=by simpa using h6
 have g7:(xop==7)=false:=by simpa using h7
 have g5:(xop==5)=false:=by simpa using h5
 have g14:(xop==14)=false:=by simpa using h14
 unfold Rd;go_enter func113,ntmps113
 go_wp2
 go_ret;exact⟨rfl,QaX _ _ _⟩
theorem Zo {xop:Int}{xa xb xc xk xn:Int}{ra aa:Option Addr}{rl rc al ac:Nat}{ya yb yc yk yn:Int}{yra yaa:Option Addr}{yrl yrc yal yac:Nat}{am:Option Addr}{lm cm:Nat}{w:World}{ok bare:Bool}{v:Int}
 (CW:Hid (∀ wx:World,Calls prog 111 #[.agg #[.int .i64 xop,.int .i64 xa,.int .i64 xb,.int .i64 xc,.int .i64 xk,.int .i64 xn,.slice ra rl rc,.slice aa al ac]] wx fun e w'=>e=.returned (.tuple #[.agg #[.int .i64 xop,.int .i64 ya,.int .i64 yb,.int .i64 yc,.int .i64 yk,.int .i64 yn,.slice yra yrl yrc,.slice yaa yal yac],.bool ok])∧Below wx.heap.size wx w'))
 (CB:Hid (∀ wx:World,Calls prog 112 #[.agg #[.int .i64 xop,.int .i64 ya,.int .i64 yb,.int .i64 yc,.int .i64 yk,.int .i64 yn,.slice yra yrl yrc,.slice yaa yal yac]] wx fun e w'=>e=.returned (.bool bare)∧Below wx.heap.size wx w'))
 (CD:Hid (∀ wx:World,Calls prog 113 #[.agg #[.slice am lm cm],.agg #[.int .i64 xop,.int .i64 xa,.int .i64 xb,.int .i64 xc,.int .i64 xk,.int .i64 xn,.slice ra rl rc,.slice aa al ac]] wx fun e w'=>e=.returned (.int .i64 v)∧Below wx.heap.size wx w')) :
 Rd prog 68 #[.agg #[.slice am lm cm],.agg #[.int .i64 xop,.int .i64 xa,.int .i64 xb,.int .i64 xc,.int .i64 xk,.int .i64 xn,.slice ra rl rc,.slice aa al ac]] w (.int .i64 (if ok=false then 3 else if bare=true then v else 4)):=by
 have X1:Blk ((w.alloc (.cells #[.slice am lm cm] 24)).alloc (.cells #[.int .i64 xop,.int .i64 xa,.int .i64 xb,.int .i64 xc,.int .i64 xk,.int .i64 xn,.slice ra rl rc,.slice aa al ac] 59)) w.heap.size #[.slice am lm cm] 24:=Blk.new1 _ _ _ _ _;have X2:Blk ((w.alloc (.cells #[.slice am lm cm] 24)).alloc (.cells #[.int .i64 xop,.int .i64 xa,.int .i64 xb,.int .i64 xc,.int .i64 xk,.int .i64 xn,.slice ra rl rc,.slice aa al ac] 59)) (w.heap.size+1) #[.int .i64 xop,.int .i64 xa,.int .i64 xb,.int .i64 xc,.int .i64 xk,.int .i64 xn,.slice ra rl rc,.slice aa al ac] 59:=Blk.new2 _ _ _ _;have B1:Hid (Below w.heap.size w ((w.alloc (.cells #[.slice am lm cm] 24)).alloc (.cells #[.int .i64 xop,.int .i64 xa,.int .i64 xb,.int .i64 xc,.int .i64 xk,.int .i64 xn,.slice ra rl rc,.slice aa al ac] 59))):=QaX _ _ _;unfold Rd;go_enter func68,ntmps68
 go_wp2_with fail
 generalize ((w.alloc (.cells #[.slice am lm cm] 24)).alloc (.cells #[.int .i64 xop,.int .i64 xa,.int .i64 xb,.int .i64 xc,.int .i64 xk,.int .i64 xn,.slice ra rl rc,.slice aa al ac] 59))=w1 at X1 X2 B1 ⊢;refine(CW.out _).mono ?_
 rintro e w2 ⟨rfl,b2⟩;replace X1:=(b2.block _ (lt_of_block X1)).trans X1;replace X2:=(b2.block _ (lt_of_block X2)).trans X2;have B2:Hid (Below w.heap.size w w2):=B1.out.trans (b2.mono B1.out.size);clear b2 B1 CW
 cases ok with
 | false =>
   have B3:Hid (Below w.heap.size w (w2.alloc (.cells #[.int .i64 xop,.int .i64 ya,.int .i64 yb,.int .i64 yc,.int .i64 yk,.int .i64 yn,.slice yra yrl yrc,.slice yaa yal yac] 59))):=B2.out.trans ((QN _ _).mono B2.out.size);clear CB CD X1 X2 B2;go_wp2
   go_ret;exact⟨rfl,B3.out⟩
 | true =>
   replace X1:=((QN w2 (.cells #[.int .i64 xop,.int .i64 ya,.int .i64 yb,.int .i64 yc,.int .i64 yk,.int .i64 yn,.slice yra yrl yrc,.slice yaa yal yac] 59)).block _ (lt_of_block X1)).trans X1;replace X2:=((QN w2 (.cells #[.int .i64 xop,.int .i64 ya,.int .i64 yb,.int .i64 yc,.int .i64 yk,.int .i64 yn,.slice yra yrl yrc,.slice yaa yal yac] 59)).block _ (lt_of_block X2)).trans X2;have B3:Hid (Below w.heap.size w (w2.alloc (.cells #[.int .i64 xop,.int .i64 ya,.int .i64 yb,.int .i64 yc,.int .i64 yk,.int .i64 yn,.slice yra yrl yrc,.slice yaa yal yac] 59))):=B2.out.trans ((QN _ _).mono B2.out.size);go_wp2_with fail
   clear B2;generalize w2.alloc (.cells #[.int .i64 xop,.int .i64 ya,.int .i64 yb,.int .i64 yc,.int .i64 yk,.int .i64 yn,.slice yra yrl yrc,.slice yaa yal yac] 59)=w3 at X1 X2 B3 ⊢;refine(CB.out _).mono ?_
   rintro e w4 ⟨rfl,b4⟩;replace X1:=(b4.block _ (lt_of_block X1)).trans X1;replace X2:=(b4.block _ (lt_of_block X2)).trans X2;have B4:Hid (Below w.heap.size w w4):=B3.out.trans (b4.mono B3.out.size);clear b4 B3 CB
   cases bare with
   | false =>
     clear CD X1 X2;go_wp2
     go_ret;exact⟨rfl,B4.out⟩
   | true =>
     have d:=Qb X1 0 _ rfl;have d0:=Qb X2 0 _ rfl;have d1:=Qb X2 1 _ rfl;have d2:=Qb X2 2 _ rfl;have d3:=Qb X2 3 _ rfl;have d4:=Qb X2 4 _ rfl;have d5:=Qb X2 5 _ rfl;have d6:=Qb X2 6 _ rfl;have d7:=Qb X2 7 _ rfl;clear X1 X2;go_wp2_with fail
     refine(CD.out _).mono ?_
     rintro e w5 ⟨rfl,b5⟩;have B5:Hid (Below w.heap.size w w5):=B4.out.trans (b5.mono B4.out.size);clear b5 B4 CD;go_wp2
     go_ret;exact⟨rfl,B5.out⟩
theorem Qgd (funcs:Nat) (x:Qy) (i:IP) (am:Option Addr) (cm:Nat) (w:World) (hf:funcs<2305843009213693952) :
 Rd prog 68 #[.agg #[.slice am funcs cm],.agg #[.int .i64 x.op,.int .i64 x.a,.int .i64 x.b,.int .i64 x.c,.int .i64 x.k,.int .i64 x.n,.slice i.pR x.regs.length i.cR,.slice i.pA x.args.length i.cA]] w (.int .i64 (x.form funcs)):=by
 rw[Qy.form_eq]
 have hno:=Qgl x.op;generalize x.op=op at hno ⊢;rcases hno with rfl | rfl | rfl | rfl | rfl | rfl | rfl | rfl | rfl | rfl | rfl | rfl | rfl | rfl | h
 ·rw[QK (show QD 1=some (false,false,false,false,true,false,false) from rfl)]
  exact Zo (ok:=true) (fun _=>wf1) (fun _=>QU) (fun _=>Z8 (by decide))
 ·rw[QK (show QD 2=some (true,true,false,true,false,false,false) from rfl)]
  exact Zo (ok:=true) (fun _=>wf2) (fun _=>QU) (fun _=>Qkb)
 ·rw[QK (show QD 3=some (false,false,false,false,false,false,false) from rfl)]
  exact Zo (ok:=true) (fun _=>wf3) (fun _=>QU) (fun _=>Z8 (by decide))
 ·rw[QK (show QD 4=some (true,false,false,false,false,false,false) from rfl)]
  exact Zo (ok:=true) (fun _=>wf4) (fun _=>QU) (fun _=>Z8 (by decide))
 ·rw[QK (show QD 5=some (true,false,false,false,false,false,true) from rfl)]
  exact Zo (ok:=true) (fun _=>wf5) (fun _=>QU) (fun _=>QjX)
 ·rw[QK (show QD 6=some (true,false,false,true,false,false,false) from rfl)]
  exact Zo (ok:=true) (fun _=>wf6) (fun _=>QU) (fun _=>QjT)
 ·rw[QK (show QD 7=some (true,true,false,true,false,false,false) from rfl)]
  exact Zo (ok:=true) (fun _=>wf7) (fun _=>QU) (fun _=>Qj1)
 ·rw[QK (show QD 8=some (true,true,false,false,false,false,false) from rfl)]
  exact Zo (ok:=true) (fun _=>wf8) (fun _=>QU) (fun _=>Z8 (by decide))
 ·rw[QK (show QD 9=some (true,true,false,false,false,false,false) from rfl)]
  exact Zo (ok:=true) (fun _=>wf9) (fun _=>QU) (fun _=>Z8 (by decide))
 ·rw[QK (show QD 10=some (true,true,true,false,false,false,false) from rfl)]
  exact Zo (ok:=true) (fun _=>Ql0) (fun _=>QU) (fun _=>Z8 (by decide))
 ·rw[QK (show QD 11=some (true,false,false,false,false,false,false) from rfl)]
  exact Zo (ok:=true) (fun _=>QlK) (fun _=>QU) (fun _=>Z8 (by decide))
 ·rw[QK (show QD 12=some (false,false,false,false,false,false,false) from rfl)]
  exact Zo (ok:=true) (fun _=>Ql1) (fun _=>QU) (fun _=>Z8 (by decide))
 ·rw[QK (show QD 13=some (true,false,false,false,false,false,false) from rfl)]
  exact Zo (ok:=true) (fun _=>QlN) (fun _=>QU) (fun _=>Z8 (by decide))
 ·rw[QK (show QD 14=some (false,false,false,true,false,true,true) from rfl)]
  exact Zo (ok:=true) (fun _=>Qmd) (fun _=>QU) (fun _=>Qjm hf)
 ·have e:QD op=none:=by
   unfold QD;obtain⟨h1,h2,h3,h4,h5,h6,h7,h8,h9,h10,h11,h12,h13,h14⟩:=h
   simp[h1,h2,h3,h4,h5,h6,h7,h8,h9,h10,h11,h12,h13,h14]
  rw[show QM funcs op x.a x.b x.c x.k x.n x.regs.length x.args.length=3 by unfold QM;rw[e]]
  exact Zo (ok:=false) (bare:=QaU x.a x.b x.c x.k x.n x.regs.length x.args.length) (fun _=>QlO h) (fun _=>QU) (fun _=>Z8 ⟨h.2.1,h.2.2.2.2.2.1,h.2.2.2.2.2.2.1,h.2.2.2.2.1,h.2.2.2.2.2.2.2.2.2.2.2.2.2⟩)
theorem Qhe (x:MTo) (bl:Nat):x.form bl true=if rangeC x.block 0 ((bl:Int) - 1)=0 then handedC x.regs.length 16 x.args.length else rangeC x.block 0 ((bl:Int) - 1):=by
 unfold MTo.form rangeC handedC manyC;simp only[Bool.true_eq_false,if_false]
 repeat' split
 all_goals omega
theorem Qh0 (x:MTo) (bl:Nat):x.form bl false=if x.block=0∧x.regs.length=0∧x.args.length=0 then 0 else 4:=by
 unfold MTo.form;simp only[if_true]
 repeat' split
 all_goals omega
theorem QgN (e:MEnd) (bl:Nat):e.form bl=if e.op<1∨3<e.op then 3 else if (e.op≠2∧e.a≠0)∨(e.op≠3∧0<e.args.length) then 4 else if 8<e.args.length then 2
 else if e.yes.form bl (e.op != 3)=0 then e.no.form bl (e.op==2) else e.yes.form bl (e.op != 3):=by
 unfold MEnd.form;have h1:decide (e.op≠3)=(e.op != 3):=by by_cases h:e.op=3<;>simp[h]
 have h2:decide (e.op=2)=(e.op==2):=by by_cases h:e.op=2<;>simp[h]
 rw[h1,h2]
 by_cases c1:e.op<1∨3<e.op
 ·simp[c1]
 ·rw[if_neg c1,if_neg c1]
  by_cases c2:(e.op≠2∧e.a≠0)∨(e.op≠3∧0<e.args.length)
  ·rw[if_pos c2,if_pos (c2.imp (fun h=>⟨h.2,h.1⟩) (fun h=>⟨h.2,h.1⟩))]
  ·rw[if_neg c2,if_neg (fun h=>c2 (h.imp (fun h=>⟨h.2,h.1⟩) (fun h=>⟨h.2,h.1⟩)))]
   by_cases c3:8<e.args.length
   ·simp[c3]
   ·rw[if_neg c3,if_neg c3]
    by_cases c4:e.yes.form bl (e.op != 3)=0
    ·simp[c4]
    ·simp[c4]
theorem Qkf {tb:Int}{pR pA:Option Addr}{n1 cR n2 cA:Nat}{fr:Int}{fp fq fb:Option Addr}{fl fc fm fd bl fe:Nat}{w:World}:Rd prog 130 #[.agg #[.int .i64 fr,.slice fp fl fc,.slice fq fm fd,.slice fb bl fe],.agg #[.int .i64 tb,.slice pR n1 cR,.slice pA n2 cA],.bool false] w (.int .i64 (if tb=0∧n1=0∧n2=0 then 0 else 4)):=by
 unfold Rd;by_cases h1:tb=0
 ·subst h1;by_cases h2:n1=0
  ·subst h2;by_cases h3:n2=0
   ·subst h3;rw[if_pos ⟨rfl,rfl,rfl⟩]
    go_enter func130,ntmps130
    go_wp2
    go_ret;exact⟨rfl,QaX _ _ _⟩
   ·have g:(0:Int)<n2:=by omega
    rw[if_neg (by omega)]
    go_enter func130,ntmps130
    go_wp2
    go_ret;exact⟨rfl,QaX _ _ _⟩
  ·have g:(0:Int)<n1:=by omega
   rw[if_neg (by omega)]
   go_enter func130,ntmps130
   go_wp2
   go_ret;exact⟨rfl,QaX _ _ _⟩
 ·have g:(tb==0)=false:=by simpa using h1
  rw[if_neg (by omega)]
  go_enter func130,ntmps130
  go_wp2
  go_ret;exact⟨rfl,QaX _ _ _⟩
theorem QjH {tb:Int}{pR pA:Option Addr}{n1 cR n2 cA:Nat}{fr:Int}{fp fq fb:Option Addr}{fl fc fm fd bl fe:Nat}{w:World}(hbl:bl<2305843009213693952):Rd prog 130 #[.agg #[.int .i64 fr,.slice fp fl fc,.slice fq fm fd,.slice fb bl fe],.agg #[.int .i64 tb,.slice pR n1 cR,.slice pA n2 cA],.bool true] w (.int .i64 (if rangeC tb 0 ((bl:Int) - 1)=0 then handedC n1 16 n2 else rangeC tb 0 ((bl:Int) - 1))):=by
 have C:Hid (∀ wx:World,Calls prog 157 #[.int .i64 tb,.int .i64 0,.int .i64 ((bl:Int) - 1)] wx fun e w'=>e=.returned (.int .i64 (rangeC tb 0 ((bl:Int) - 1)))∧Below wx.heap.size wx w'):=fun wx=>ZU;have C2:Hid (∀ wx:World,Calls prog 159 #[.slice pR n1 cR,.int .i64 16,.slice pA n2 cA] wx fun e w'=>e=.returned (.int .i64 (handedC n1 16 n2))∧Below wx.heap.size wx w'):=fun wx=>Qbt;generalize rangeC tb 0 ((bl:Int) - 1)=v at C ⊢;generalize handedC n1 16 n2=u at C2 ⊢;have X2:Blk ((w.alloc (.cells #[.int .i64 fr,.slice fp fl fc,.slice fq fm fd,.slice fb bl fe] 55)).alloc (.cells #[.int .i64 tb,.slice pR n1 cR,.slice pA n2 cA] 45)) (w.heap.size+1) #[.int .i64 tb,.slice pR n1 cR,.slice pA n2 cA] 45:=Blk.new2 _ _ _ _;have B1:Hid (Below w.heap.size w ((w.alloc (.cells #[.int .i64 fr,.slice fp fl fc,.slice fq fm fd,.slice fb bl fe] 55)).alloc (.cells #[.int .i64 tb,.slice pR n1 cR,.slice pA n2 cA] 45))):=QaX _ _ _;unfold Rd;by_cases hv:v=0
 ·subst hv;rw[if_pos rfl]
  go_enter func130,ntmps130
  go_wp2_with fail
  generalize ((w.alloc (.cells #[.int .i64 fr,.slice fp fl fc,.slice fq fm fd,.slice fb bl fe] 55)).alloc (.cells #[.int .i64 tb,.slice pR n1 cR,.slice pA n2 cA] 45))=w1 at X2 B1 ⊢;refine(C.out _).mono ?_
  rintro e w2 ⟨rfl,b2⟩;have X3:=(b2.block _ (lt_of_block X2)).trans X2;have B2:Hid (Below w.heap.size w w2):=B1.out.trans (b2.mono B1.out.size);have c6:=Qb X3 1 _ rfl;have c7:=Qb X3 2 _ rfl;clear b2 C X2 B1 X3;go_wp2_with fail
  refine(C2.out _).mono ?_
  rintro e w3 ⟨rfl,b3⟩;have B3:Hid (Below w.heap.size w w3):=B2.out.trans (b3.mono B2.out.size);clear b3 C2 B2;go_wp2
  go_ret;exact⟨rfl,B3.out⟩
 ·rw[if_neg hv]
  have hv':(v==0)=false:=by simpa using hv
  go_enter func130,ntmps130
  go_wp2_with fail
  generalize ((w.alloc (.cells #[.int .i64 fr,.slice fp fl fc,.slice fq fm fd,.slice fb bl fe] 55)).alloc (.cells #[.int .i64 tb,.slice pR n1 cR,.slice pA n2 cA] 45))=w1 at X2 B1 ⊢;refine(C.out _).mono ?_
  rintro e w2 ⟨rfl,b2⟩;have B2:Hid (Below w.heap.size w w2):=B1.out.trans (b2.mono B1.out.size);clear b2 C C2 X2 B1;go_wp2
  go_ret;exact⟨rfl,B2.out⟩
theorem QdA {x:MTo}{pR pA:Option Addr}{cR cA:Nat}{fr:Int}{fp fq fb:Option Addr}{fl fc fm fd bl fe:Nat}(has:Bool){w:World}(hbl:bl<2305843009213693952) :
 Rd prog 130 #[.agg #[.int .i64 fr,.slice fp fl fc,.slice fq fm fd,.slice fb bl fe],.agg #[.int .i64 x.block,.slice pR x.regs.length cR,.slice pA x.args.length cA],.bool has] w (.int .i64 (x.form bl has)):=by
 cases has
 ·rw[Qh0];exact Qkf
 ·rw[Qhe];exact QjH hbl
theorem Qjs {eo ea yb nb:Int}{pyr pya pnr pna pe:Option Addr}{nyr cyr nya cya nnr cnr nna cna ne ce:Nat}{fr:Int}{fp fq fb:Option Addr}{fl fc fm fd bl fe:Nat}{w:World}{vy vn:Int}(h1:¬ (eo<1∨3<eo)) (h2:¬ ((eo≠2∧ea≠0)∨(eo≠3∧0<ne))) (h3:¬ 8<ne)
 (CY:Hid (∀ wx:World,Calls prog 130 #[.agg #[.int .i64 fr,.slice fp fl fc,.slice fq fm fd,.slice fb bl fe],.agg #[.int .i64 yb,.slice pyr nyr cyr,.slice pya nya cya],.bool (eo != 3)] wx fun e w'=>e=.returned (.int .i64 vy)∧Below wx.heap.size wx w'))
 (CN:Hid (∀ wx:World,Calls prog 130 #[.agg #[.int .i64 fr,.slice fp fl fc,.slice fq fm fd,.slice fb bl fe],.agg #[.int .i64 nb,.slice pnr nnr cnr,.slice pna nna cna],.bool (eo==2)] wx fun e w'=>e=.returned (.int .i64 vn)∧Below wx.heap.size wx w')) :
 Rd prog 76 #[.agg #[.int .i64 fr,.slice fp fl fc,.slice fq fm fd,.slice fb bl fe],.agg #[.int .i64 eo,.int .i64 ea,.int .i64 yb,.slice pyr nyr cyr,.slice pya nya cya,.int .i64 nb,.slice pnr nnr cnr,.slice pna nna cna,.slice pe ne ce]] w (.int .i64 (if vy=0 then vn else vy)):=by
 have X1:Blk ((w.alloc (.cells #[.int .i64 fr,.slice fp fl fc,.slice fq fm fd,.slice fb bl fe] 55)).alloc (.cells #[.int .i64 eo,.int .i64 ea,.int .i64 yb,.slice pyr nyr cyr,.slice pya nya cya,.int .i64 nb,.slice pnr nnr cnr,.slice pna nna cna,.slice pe ne ce] 47)) w.heap.size #[.int .i64 fr,.slice fp fl fc,.slice fq fm fd,.slice fb bl fe] 55:=Blk.new1 _ _ _ _ _;have X2:Blk ((w.alloc (.cells #[.int .i64 fr,.slice fp fl fc,.slice fq fm fd,.slice fb bl fe] 55)).alloc (.cells #[.int .i64 eo,.int .i64 ea,.int .i64 yb,.slice pyr nyr cyr,.slice pya nya cya,.int .i64 nb,.slice pnr nnr cnr,.slice pna nna cna,.slice pe ne ce] 47)) (w.heap.size+1) #[.int .i64 eo,.int .i64 ea,.int .i64 yb,.slice pyr nyr cyr,.slice pya nya cya,.int .i64 nb,.slice pnr nnr cnr,.slice pna nna cna,.slice pe ne ce] 47:=Blk.new2 _ _ _ _;have B1:Hid (Below w.heap.size w ((w.alloc (.cells #[.int .i64 fr,.slice fp fl fc,.slice fq fm fd,.slice fb bl fe] 55)).alloc (.cells #[.int .i64 eo,.int .i64 ea,.int .i64 yb,.slice pyr nyr cyr,.slice pya nya cya,.int .i64 nb,.slice pnr nnr cnr,.slice pna nna cna,.slice pe ne ce] 47))):=QaX _ _ _;unfold Rd;have key:∀ {o:Int},eo=o→¬ (o≠2∧ea≠0)→¬ (o≠3∧0<ne)→(o=1∨o=2∨o=3):=fun h _ _=>by omega
 rcases (show eo=1∨eo=2∨eo=3 by omega) with rfl | rfl | rfl
 ·obtain rfl:ea=0:=by omega
  obtain rfl:ne=0:=by omega
  clear h1 h2 h3 key;go_enter func76,ntmps76
  go_wp2_with fail
  generalize ((w.alloc (.cells #[.int .i64 fr,.slice fp fl fc,.slice fq fm fd,.slice fb bl fe] 55)).alloc (.cells #[.int .i64 1,.int .i64 0,.int .i64 yb,.slice pyr nyr cyr,.slice pya nya cya,.int .i64 nb,.slice pnr nnr cnr,.slice pna nna cna,.slice pe 0 ce] 47))=w1 at X1 X2 B1 ⊢;refine(CY.out _).mono ?_
  rintro e w2 ⟨rfl,b2⟩;replace X1:=(b2.block _ (lt_of_block X1)).trans X1;replace X2:=(b2.block _ (lt_of_block X2)).trans X2;have B2:Hid (Below w.heap.size w w2):=B1.out.trans (b2.mono B1.out.size);clear b2 CY B1;by_cases hv:vy=0
  ·subst hv;have c0:=Qb X1 0 _ rfl;have c1:=Qb X1 1 _ rfl;have c2:=Qb X1 2 _ rfl;have c3:=Qb X1 3 _ rfl;have d0:=Qb X2 0 _ rfl;have d5:=Qb X2 5 _ rfl;have d6:=Qb X2 6 _ rfl;have d7:=Qb X2 7 _ rfl;clear X1 X2;go_wp2_with fail
   refine(CN.out _).mono ?_
   rintro e w3 ⟨rfl,b3⟩;have B3:Hid (Below w.heap.size w w3):=B2.out.trans (b3.mono B2.out.size);clear b3 CN B2;go_wp2
   go_ret;exact⟨rfl,B3.out⟩
  ·have hv':(vy==0)=false:=by simpa using hv
   clear CN X1 X2;go_wp2
   go_ret;exact⟨rfl,B2.out⟩
 ·obtain rfl:ne=0:=by omega
  clear h1 h2 h3 key;go_enter func76,ntmps76
  go_wp2_with fail
  generalize ((w.alloc (.cells #[.int .i64 fr,.slice fp fl fc,.slice fq fm fd,.slice fb bl fe] 55)).alloc (.cells #[.int .i64 2,.int .i64 ea,.int .i64 yb,.slice pyr nyr cyr,.slice pya nya cya,.int .i64 nb,.slice pnr nnr cnr,.slice pna nna cna,.slice pe 0 ce] 47))=w1 at X1 X2 B1 ⊢;refine(CY.out _).mono ?_
  rintro e w2 ⟨rfl,b2⟩;replace X1:=(b2.block _ (lt_of_block X1)).trans X1;replace X2:=(b2.block _ (lt_of_block X2)).trans X2;have B2:Hid (Below w.heap.size w w2):=B1.out.trans (b2.mono B1.out.size);clear b2 CY B1;by_cases hv:vy=0
  ·subst hv;have c0:=Qb X1 0 _ rfl;have c1:=Qb X1 1 _ rfl;have c2:=Qb X1 2 _ rfl;have c3:=Qb X1 3 _ rfl;have d0:=Qb X2 0 _ rfl;have d5:=Qb X2 5 _ rfl;have d6:=Qb X2 6 _ rfl;have d7:=Qb X2 7 _ rfl;clear X1 X2;go_wp2_with fail
   refine(CN.out _).mono ?_
   rintro e w3 ⟨rfl,b3⟩;have B3:Hid (Below w.heap.size w w3):=B2.out.trans (b3.mono B2.out.size);clear b3 CN B2;go_wp2
   go_ret;exact⟨rfl,B3.out⟩
  ·have hv':(vy==0)=false:=by simpa using hv
   clear CN X1 X2;go_wp2
   go_ret;exact⟨rfl,B2.out⟩
 ·obtain rfl:ea=0:=by omega
  have g8:¬ (8:Int)<ne:=by omega
  clear h1 h2 h3 key;go_enter func76,ntmps76
  go_wp2_with fail
  generalize ((w.alloc (.cells #[.int .i64 fr,.slice fp fl fc,.slice fq fm fd,.slice fb bl fe] 55)).alloc (.cells #[.int .i64 3,.int .i64 0,.int .i64 yb,.slice pyr nyr cyr,.slice pya nya cya,.int .i64 nb,.slice pnr nnr cnr,.slice pna nna cna,.slice pe ne ce] 47))=w1 at X1 X2 B1 ⊢;refine(CY.out _).mono ?_
  rintro e w2 ⟨rfl,b2⟩;replace X1:=(b2.block _ (lt_of_block X1)).trans X1;replace X2:=(b2.block _ (lt_of_block X2)).trans X2;have B2:Hid (Below w.heap.size w w2):=B1.out.trans (b2.mono B1.out.size);clear b2 CY B1;by_cases hv:vy=0
  ·subst hv;have c0:=Qb X1 0 _ rfl;have c1:=Qb X1 1 _ rfl;have c2:=Qb X1 2 _ rfl;have c3:=Qb X1 3 _ rfl;have d0:=Qb X2 0 _ rfl;have d5:=Qb X2 5 _ rfl;have d6:=Qb X2 6 _ rfl;have d7:=Qb X2 7 _ rfl;clear X1 X2;go_wp2_with fail
   refine(CN.out _).mono ?_
   rintro e w3 ⟨rfl,b3⟩;have B3:Hid (Below w.heap.size w w3):=B2.out.trans (b3.mono B2.out.size);clear b3 CN B2;go_wp2
   go_ret;exact⟨rfl,B3.out⟩
  ·have hv':(vy==0)=false:=by simpa using hv
   clear CN X1 X2;go_wp2
   go_ret;exact⟨rfl,B2.out⟩
theorem QfE {eo ea yb nb:Int}{pyr pya pnr pna pe:Option Addr}{nyr cyr nya cya nnr cnr nna cna ne ce:Nat}{fr:Int}{fp fq fb:Option Addr}{fl fc fm fd bl fe:Nat}{w:World}{v:Int}(h:(v=3∧(eo<1∨3<eo))∨(v=4∧¬ (eo<1∨3<eo)∧((eo≠2∧ea≠0)∨(eo≠3∧0<ne)))∨(v=2∧¬ (eo<1∨3<eo)∧¬ ((eo≠2∧ea≠0)∨(eo≠3∧0<ne))∧8<ne)) :
 Rd prog 76 #[.agg #[.int .i64 fr,.slice fp fl fc,.slice fq fm fd,.slice fb bl fe],.agg #[.int .i64 eo,.int .i64 ea,.int .i64 yb,.slice pyr nyr cyr,.slice pya nya cya,.int .i64 nb,.slice pnr nnr cnr,.slice pna nna cna,.slice pe ne ce]] w (.int .i64 v):=by
 unfold Rd;rcases h with ⟨rfl,h | h⟩|⟨rfl,h1,h⟩|⟨rfl,h1,h2,h3⟩
 ·go_enter func76,ntmps76
  go_wp2
  go_ret;exact⟨rfl,QaX _ _ _⟩
 ·have g:¬ eo<1:=by omega
  go_enter func76,ntmps76
  go_wp2
  go_ret;exact⟨rfl,QaX _ _ _⟩
 ·rcases (show eo=1∨eo=2∨eo=3 by omega) with rfl | rfl | rfl
  ·by_cases ha:ea=0
   ·subst ha;have g:(0:Int)<ne:=by omega
    clear h h1;go_enter func76,ntmps76
    go_wp2
    go_ret;exact⟨rfl,QaX _ _ _⟩
   ·have g:(ea==0)=false:=by simpa using ha
    clear h h1;go_enter func76,ntmps76
    go_wp2
    go_ret;exact⟨rfl,QaX _ _ _⟩
  ·have g:(0:Int)<ne:=by omega
   clear h h1;go_enter func76,ntmps76
   go_wp2
   go_ret;exact⟨rfl,QaX _ _ _⟩
  ·have g:(ea==0)=false:=by simp;omega
   clear h h1;go_enter func76,ntmps76
   go_wp2
   go_ret;exact⟨rfl,QaX _ _ _⟩
 ·obtain rfl:eo=3:=by omega
  obtain rfl:ea=0:=by omega
  have g:(8:Int)<ne:=by omega
  clear h1 h2 h3;go_enter func76,ntmps76
  go_wp2
  go_ret;exact⟨rfl,QaX _ _ _⟩
theorem Qf0 {x:MEnd}{e:EP}{fr:Int}{fp fq fb:Option Addr}{fl fc fm fd bl fe:Nat}{w:World}(hs:x.yes.regs.length<2305843009213693952∧x.yes.args.length<2305843009213693952∧x.no.regs.length<2305843009213693952∧x.no.args.length<2305843009213693952) (hbl:bl<2305843009213693952):Rd prog 76 #[.agg #[.int .i64 fr,.slice fp fl fc,.slice fq fm fd,.slice fb bl fe],.agg #[.int .i64 x.op,.int .i64 x.a,.int .i64 x.yes.block,.slice e.pYR x.yes.regs.length e.cYR,.slice e.pYA x.yes.args.length e.cYA,.int .i64 x.no.block,.slice e.pNR x.no.regs.length e.cNR,.slice e.pNA x.no.args.length e.cNA,.slice e.pA x.args.length e.cA]] w (.int .i64 (x.form bl)):=by
 rw[QgN]
 by_cases c1:x.op<1∨3<x.op
 ·rw[if_pos c1];exact QfE (.inl ⟨rfl,c1⟩)
 rw[if_neg c1]
 by_cases c2:(x.op≠2∧x.a≠0)∨(x.op≠3∧0<x.args.length)
 ·rw[if_pos c2];exact QfE (.inr (.inl ⟨rfl,c1,c2⟩))
 rw[if_neg c2]
 by_cases c3:8<x.args.length
 ·rw[if_pos c3];exact QfE (.inr (.inr ⟨rfl,c1,c2,c3⟩))
 rw[if_neg c3]
 exact Qjs c1 c2 c3 (fun _=>QdA _ hbl) (fun _=>QdA _ hbl)
theorem Qke {w:World}{b:Nat}{O A Q:Nat→Prop}{s:JSt}{x:Qy}{rg ag:Option Addr}{rc ac:Nat}(hA:∀ k,A k→k<w.heap.size) (hJ:JOk s) (h:SAt w b O A s) (hregs:intsL.In w Q x.regs [.slice rg x.regs.length rc]) (hargs:intsL.In w Q x.args [.slice ag x.args.length ac]) (hrc:x.regs.length≤rc) (hrng:Zx x) (hf:x.form s.m.length=0) :
 Calls prog 71 #[.pointer (some ⟨b,0,none⟩),QaR x rg ag rc ac] w fun e w'=>Q6 w b O A s (s.next x) (s.goC x) e w':=by
 obtain⟨-,-,-,f4⟩:=Zb hf
 rcases f4 with e | e | e | e | e | e | e | e | e | e | e | e | e | e
 ·exact QjS hA hJ h hregs hargs hrc hrng hf e
 ·exact QjK hA hJ h hregs hargs hrc hrng hf e
 ·exact QjN hA hJ h hregs hargs hrc hrng hf e
 ·exact QiW hA hJ h hregs hargs hrc hrng hf e
 ·exact Qhl hA hJ h hregs hargs hrc hrng hf e
 ·exact Qkd hA hJ h hregs hargs hrc hrng hf e
 ·exact QjF hA hJ h hregs hargs hrc hrng hf e
 ·exact Qie hA hJ h hregs hargs hrc hrng hf e
 ·exact QiS hA hJ h hregs hargs hrc hrng hf e
 ·exact Qha hA hJ h hregs hargs hrc hrng hf e
 ·exact Qkm hA hJ h hregs hargs hrc hrng hf e
 ·exact Qk2 hA hJ h hregs hargs hrc hrng hf e
 ·exact Qj9 hA hJ h hregs hargs hrc hrng hf e
 ·exact QiP hA hJ h hregs hargs hrc hrng hf e
theorem STo.seal {w wc w2 w9:World}{b F0:Nat}{O A:Nat→Prop}{s:JSt}(hO:∀ k,O k→k<w.heap.size) (hb:Below w.heap.size w wc) (hF:w.heap.size≤F0∧F0<wc.heap.size) (h:STo wc w2 b O (fun k=>A k∨(w.heap.size≤k∧k<wc.heap.size)) s) (hc:Chg F0 w2 w9):STo w w9 b O A s:=by
 obtain⟨N,h1,h2,h3⟩:=h
 have e1:=hb.size;have e2:=h3.size;have e3:=hc.size;refine⟨fun k=>N k∨(w.heap.size≤k∧k<wc.heap.size),fun k hk=>?_,?_,?_⟩
 ·rcases hk with hk | hk
  ·have:=h1 k hk;omega
  ·omega
 ·refine h2.keep (fun k hl hk=>hc.block k hl (fun e=>?_)) (fun k hk _=>?_) (fun k hk _ e=>hk ?_) (fun k hk=>?_)
  ·subst e;rcases hk with hk | hk
   ·rcases hk with hk | hk
    ·have:=hO k hk;omega
    ·have:=h1 k hk;omega
   ·exact hk (.inl (.inr hF))
  ·rcases hk with hk | hk
   ·exact .inl hk
   ·exact .inr (.inl hk)
  ·rcases e with e | e | e
   ·exact .inl (.inl e)
   ·exact .inr e
   ·exact .inl (.inr e)
  ·rcases hk with hk | hk
   ·have:=h2.sub k (.inl hk)
    rcases this with (h | h) | h
    ·exact .inl h
    ·exact .inr (.inr h)
    ·exact .inr (.inl h)
   ·exact .inr hk
 ·refine⟨hc.os.trans (h3.os.trans hb.os),hc.tape.trans (h3.tape.trans hb.tape),hc.output.trans (h3.output.trans hb.output),by omega,fun k hk hn=>?_,fun k hk=>?_⟩
  ·exact(hc.block k (by omega) (by omega)).trans ((h3.block k (by omega) hn).trans (hb.block k hk))
  ·rcases hk with hk | hk | hk
   ·exact .inl hk
   ·have:=h1 k hk;exact .inr (by omega)
   ·exact .inr hk.1
theorem SAt.wall {w wc:World}{b:Nat}{O A:Nat→Prop}{s:JSt}(h:SAt w b O A s) (hb:Below w.heap.size w wc):SAt wc b O (fun k=>A k∨(w.heap.size≤k∧k<wc.heap.size)) s :=
 h.keep (fun g hg _=>hb.block g hg) (fun _ h _=>h) (fun k hk hl e=>by rcases e with e | e;exact hk e;omega) (fun k hk=>.inl (h.sub k hk))
theorem enters_ins1:Qc8 70:=fun _ _=>by kernel_rfl
theorem enters_end1:Qc8 77:=fun _ _=>by kernel_rfl
def Ql4 (b S0 X nm cm rc ac:Nat) (cf:Int) (pm rg ag:Option Addr) (x:Qy) (t:Tmp) (v:Value) (w:World):Prop :=
 v=(([(2,.pointer (some ⟨S0,0,none⟩)),(3,.pointer (some ⟨X,0,none⟩)),(6,.pointer (some ⟨b,0,none⟩)),(7,.pointer (some ⟨b,0,none⟩)),(8,.pointer (some ⟨b,0,none⟩)),(9,.agg #[.slice pm nm cm]),(10,.agg #[.int .i64 x.op,.int .i64 x.a,.int .i64 x.b,.int .i64 x.c,.int .i64 x.k,.int .i64 x.n,.slice rg x.regs.length rc,.slice ag x.args.length ac]),(11,.int .i64 cf),(5,.int .i64 cf)]:List (Tmp × Value)).lookup t).getD undef
theorem ji1 {w6:World}{b S0 X nm cm rc ac:Nat}{cf:Int}{pm rg ag:Option Addr}{x:Qy}(s0:w6.cell? ⟨S0,0,none⟩=some (.pointer (some ⟨b,0,none⟩))) (q0:w6.cell? ⟨b,0,none⟩=some (.slice pm nm cm)) (x0:w6.cell? ⟨X,0,none⟩=some (.int .i64 x.op)) (x1:w6.cell? ⟨X,1,none⟩=some (.int .i64 x.a)) (x2:w6.cell? ⟨X,2,none⟩=some (.int .i64 x.b)) (x3:w6.cell? ⟨X,3,none⟩=some (.int .i64 x.c)) (x4:w6.cell? ⟨X,4,none⟩=some (.int .i64 x.k)) (x5:w6.cell? ⟨X,5,none⟩=some (.int .i64 x.n)) (x6:w6.cell? ⟨X,6,none⟩=some (.slice rg x.regs.length rc)) (x7:w6.cell? ⟨X,7,none⟩=some (.slice ag x.args.length ac)) (hnm:nm<2305843009213693952) (HC:Hid (x.form nm=cf))
 (a:Act) (m:Nat) (hn:a.tmps.size=m) (hn':17≤m) (h2:a.tmps.getD 2 undef=.pointer (some ⟨S0,0,none⟩)) (h3:a.tmps.getD 3 undef=.pointer (some ⟨X,0,none⟩)) :
 Code.wp prog ((Tryz.f23.body.bind (Qj 1)).getD .skip) (fun e a' w'=>e=.normal∧∃ vs,a'=Q5 a vs [6,7,8,9,10,11,5]∧vs 5=.int .i64 cf∧Below w6.heap.size w6 w') a w6:=by
 conv=>arg 2;whnf
 refine Qw (Ql4 b S0 X nm cm rc ac cf pm rg ag x) (fun w=>Below w6.heap.size w6 w) (fun w w'=>Below w.heap.size w w') (outs:=[2,3]) (gs:=[]) (bs:=[true,true,true,true,true,true,true]) (by kernel_rfl) (n:=17) hn hn' (by kernel_rfl) ?hR ?hG (Qf Zr 1) ⟨h2,h3,trivial⟩ ?hA ?hend
 case hR=>exact fun t v w w' _ h=>h
 case hG=>exact trivial
 case hend=>exact fun vs w' hW hk=>⟨rfl,vs,rfl,hk 5 (by kernel_rfl),hW⟩
 case hA =>
  iterate 5
   refine⟨fun a w hW hk K hK=>?_,?_⟩
   ·obtain⟨k0,-⟩:=hk
    conv at k0=>whnf;rhs;whnf
    have u0:=Qi s0 hW;have u1:=Qi q0 hW;have u2:=Qi x0 hW;have u3:=Qi x1 hW;have u4:=Qi x2 hW;have u5:=Qi x3 hW;have u6:=Qi x4 hW;have u7:=Qi x5 hW;have u8:=Qi x6 hW;have u9:=Qi x7 hW;go_simp;exact hK _ _ Zr hW rfl
  refine⟨fun a w hW hk K hK=>?_,?_⟩
  ·obtain⟨k0,k1,-⟩:=hk
   conv at k0=>whnf;rhs;whnf
   conv at k1=>whnf;rhs;whnf
   go_simp;refine Calls.mono (Qgd nm x ⟨rg,rc,ag,ac⟩ pm cm _ hnm) ?_;rw[HC.out];rintro r7 w7 ⟨rfl,b7⟩;go_simp;exact hK _ _ b7 (hW.trans (b7.mono hW.size)) rfl
  refine⟨fun a w hW hk K hK=>?_,?_⟩
  ·obtain⟨k0,-⟩:=hk
   conv at k0=>whnf;rhs;whnf
   go_simp;exact hK _ _ Zr hW rfl
  trivial
theorem QhP {w:World}{b S0 X:Nat}{O A Q:Nat→Prop}{s:JSt}{x:Qy}{rg ag:Option Addr}{rc ac:Nat}(hS:Blk w S0 #[.pointer (some ⟨b,0,none⟩)] 48) (hX:Blk w X #[.int .i64 x.op,.int .i64 x.a,.int .i64 x.b,.int .i64 x.c,.int .i64 x.k,.int .i64 x.n,.slice rg x.regs.length rc,.slice ag x.args.length ac] 59) (hA:∀ k,A k→k<w.heap.size) (hJ:JOk s) (h:SAt w b O A s) (hregs:intsL.In w Q x.regs [.slice rg x.regs.length rc]) (hargs:intsL.In w Q x.args [.slice ag x.args.length ac]) (hrc:x.regs.length≤rc) (hrng:Zx x) (hf:x.form s.m.length=0) :
 Calls prog 70 #[.pointer (some ⟨S0,0,none⟩),.pointer (some ⟨X,0,none⟩)] w fun e w'=>Q6 w b O A s (s.next x) (s.goC x) e w':=by
 have C:=Qa (Qke hA hJ h hregs hargs hrc hrng hf);have s0:=Qb hS 0 _ rfl;have x0:=Qb hX 0 _ rfl;have x1:=Qb hX 1 _ rfl;have x2:=Qb hX 2 _ rfl;have x3:=Qb hX 3 _ rfl;have x4:=Qb hX 4 _ rfl;have x5:=Qb hX 5 _ rfl;have x6:=Qb hX 6 _ rfl;have x7:=Qb hX 7 _ rfl;clear hS hX hA hJ h hregs hargs hrc hrng hf;go_enter func70,ntmps70
 go_wp2_with fail
 refine C.out.mono ?_;rintro e' w9 hd;have FF:=Qa hd;rcases hd with ⟨h1,rfl,h3⟩|⟨h1,rfl,h3⟩
 rotate_left
 ·exact⟨rfl,FF.out⟩
 clear h1 h3 C;go_wp2
 exact bodyPost_end (v:=.tuple #[]) (by simp[results,results70,go_sem]) rfl FF.out
theorem QdG {w:World}{b:Nat}{O A Q:Nat→Prop}{s:JSt}{x:Qy}{rg ag:Option Addr}{rc ac:Nat}(hA:∀ k,A k→k<w.heap.size) (hJ:JOk s) (h:SAt w b O A s) (hregs:intsL.In w Q x.regs [.slice rg x.regs.length rc]) (hargs:intsL.In w Q x.args [.slice ag x.args.length ac]) (hrc:x.regs.length≤rc) (hrng:Zx x) :
 Calls prog 23 #[.pointer (some ⟨b,0,none⟩),QaR x rg ag rc ac] w fun e w'=>e=.returned (.int .i64 (s.code x))∧STo w w' b O A (s.ins x):=by
 have hmf:∀ (fn:Fn) (first cap:Array Value) (w:World),(Instr.makeFunc fn first cap).run prog w=.ok (.func fn first cap) w:=fun _ _ _ _=>rfl;have HJ:=Qa hJ;have H0:=Qa h;have HA0:=Qa hA;have HRN:=Qa hrng;have HRC:=Qa hrc;have b1:=QN w (.cells #[.pointer (some ⟨b,0,none⟩)] 48);have b2:=QN (w.alloc (.cells #[.pointer (some ⟨b,0,none⟩)] 48)) (.cells #[.int .i64 x.op,.int .i64 x.a,.int .i64 x.b,.int .i64 x.c,.int .i64 x.k,.int .i64 x.n,.slice rg x.regs.length rc,.slice ag x.args.length ac] 59);have bb:=b1.trans (b2.mono b1.size);have HB:=Qa bb;have H:=Qa (h.below bb);have HR:Hid (intsL.In _ Q x.regs [.slice rg x.regs.length rc]):=Lay.below hregs bb;have HG:Hid (intsL.In _ Q x.args [.slice ag x.args.length ac]):=Lay.below hargs bb;have hS:Blk ((w.alloc (.cells #[.pointer (some ⟨b,0,none⟩)] 48)).alloc (.cells #[.int .i64 x.op,.int .i64 x.a,.int .i64 x.b,.int .i64 x.c,.int .i64 x.k,.int .i64 x.n,.slice rg x.regs.length rc,.slice ag x.args.length ac] 59)) w.heap.size #[.pointer (some ⟨b,0,none⟩)] 48:=(Blk.new _ _ _:Blk (w.alloc (.cells #[.pointer (some ⟨b,0,none⟩)] 48)) w.heap.size _ _).below b2
 have hX:Blk ((w.alloc (.cells #[.pointer (some ⟨b,0,none⟩)] 48)).alloc (.cells #[.int .i64 x.op,.int .i64 x.a,.int .i64 x.b,.int .i64 x.c,.int .i64 x.k,.int .i64 x.n,.slice rg x.regs.length rc,.slice ag x.args.length ac] 59)) (w.heap.size+1) #[.int .i64 x.op,.int .i64 x.a,.int .i64 x.b,.int .i64 x.c,.int .i64 x.k,.int .i64 x.n,.slice rg x.regs.length rc,.slice ag x.args.length ac] 59:=by
  have:=Blk.new (w.alloc (.cells #[.pointer (some ⟨b,0,none⟩)] 48)) #[.int .i64 x.op,.int .i64 x.a,.int .i64 x.b,.int .i64 x.c,.int .i64 x.k,.int .i64 x.n,.slice rg x.regs.length rc,.slice ag x.args.length ac] 59
  simpa using this
 have HS:=Qa hS;have HX:=Qa hX;clear hS hX b1 b2 bb h hA hJ hregs hargs hrc hrng;go_enter func23,ntmps23
 go_upto_region 1 with fail
 generalize (w.alloc (.cells #[.pointer (some ⟨b,0,none⟩)] 48)).alloc (.cells #[.int .i64 x.op,.int .i64 x.a,.int .i64 x.b,.int .i64 x.c,.int .i64 x.k,.int .i64 x.n,.slice rg x.regs.length rc,.slice ag x.args.length ac] 59)=w1 at HB H HR HG HS HX ⊢;obtain⟨S0,hS0⟩:∃ S0,w.heap.size=S0:=⟨_,rfl⟩
 obtain⟨X,hX⟩:∃ X,S0+1=X:=⟨_,rfl⟩
 rw[hS0] at HS HX ⊢
 rw[hX] at HX ⊢
 clear hX hS0;have s0:=Qb HS.out 0 _ rfl;have x0:=Qb HX.out 0 _ rfl;have x1:=Qb HX.out 1 _ rfl;have x2:=Qb HX.out 2 _ rfl;have x3:=Qb HX.out 3 _ rfl;have x4:=Qb HX.out 4 _ rfl;have x5:=Qb HX.out 5 _ rfl;have x6:=Qb HX.out 6 _ rfl;have x7:=Qb HX.out 7 _ rfl;obtain⟨pm,cm,hh,a1,c1,a2,c2,a3,c3,aL,cL,RR⟩:=H.out.read
 obtain⟨q0,-⟩:=RR.cells
 obtain⟨cf,hcf⟩:∃ cf,x.form s.m.length=cf:=⟨_,rfl⟩
 have HCF:Hid (x.form s.m.length=cf):=hcf;clear hcf RR;refine Code.wp_mono ?_ (ji1 s0 q0 x0 x1 x2 x3 x4 x5 x6 x7 (by have:=HJ.out.mod.1.2;omega) HCF _ _ rfl (Nat.le_of_ble_eq_true (by kernel_rfl)) rfl rfl);rintro ee aa w5 ⟨rfl,vs,rfl,hv5,hb⟩;simp only[Q5,Act.put,List.setIfInBounds_toArray,List.set_cons_zero,List.set_cons_succ,hv5]
 have HB5:=Qa (HB.out.trans (hb.mono HB.out.size));have HS5:=Qa (HS.out.below hb);have HX5:=Qa (HX.out.below hb);have HR5:Hid (intsL.In w5 Q x.regs [.slice rg x.regs.length rc]):=Lay.below HR.out hb;have HG5:Hid (intsL.In w5 Q x.args [.slice ag x.args.length ac]):=Lay.below HG.out hb;clear hb hv5 s0 x0 x1 x2 x3 x4 x5 x6 x7 q0 HS HX HR HG HB H;by_cases hc0:cf=0
 rotate_left
 ·have hc0':(cf != 0)=true:=by simpa using hc0
  have E1:Hid (s.code x=cf):=by show _=_;unfold JSt.code;rw[HCF.out,if_pos hc0]
  have E2:Hid (s.ins x=s):=by show _=_;unfold JSt.ins;rw[if_neg (by rw[E1.out];exact hc0)]
  go_wp2_with fail
  go_ret;exact⟨by rw[E1.out];rfl,by rw[E2.out];exact STo.of_below H0.out HB5.out⟩
 subst hc0;have EC:=Qa (QcV HCF.out);have b6:=QN w5 (.cells #[.int .i64 0] 3);have bb6:=HB5.out.trans (b6.mono HB5.out.size);have HB6:=Qa bb6
 have CK:Hid (Calls prog 69 #[.func (.func 70) #[] #[.pointer (some ⟨S0,0,none⟩),.pointer (some ⟨X,0,none⟩)]] w5 fun en w'=>Qe5 w5.heap.size (fun w2=>s.goC x=0∧STo (w5.alloc (.cells #[.int .i64 0] 3)) w2 b O (fun k=>A k∨(w.heap.size≤k∧k<(w5.alloc (.cells #[.int .i64 0] 3)).heap.size)) (s.next x)) (fun c w2=>s.goC x=c∧c≠0∧STo (w5.alloc (.cells #[.int .i64 0] 3)) w2 b O (fun k=>A k∨(w.heap.size≤k∧k<(w5.alloc (.cells #[.int .i64 0] 3)).heap.size)) s) en w'):=by
  refine Qda _ _ enters_ins1 _ _ ?_;refine(QhP (A:=fun k=>A k∨(w.heap.size≤k∧k<(w5.alloc (.cells #[.int .i64 0] 3)).heap.size)) (HS5.out.below b6) (HX5.out.below b6) (fun k hk=>?_) HJ.out (H0.out.wall bb6) (Lay.below HR5.out b6) (Lay.below HG5.out b6) HRC.out HRN.out HCF.out).mono ?_
  ·rcases hk with hk | hk
   ·exact Zl (HA0.out k hk) bb6.size
   ·exact hk.2
  ·intro en w2 hd
   have hcell:STo (w5.alloc (.cells #[.int .i64 0] 3)) w2 b O (fun k=>A k∨(w.heap.size≤k∧k<(w5.alloc (.cells #[.int .i64 0] 3)).heap.size)) s∨STo (w5.alloc (.cells #[.int .i64 0] 3)) w2 b O (fun k=>A k∨(w.heap.size≤k∧k<(w5.alloc (.cells #[.int .i64 0] 3)).heap.size)) (s.next x):=by
    rcases hd with ⟨-,-,h⟩|⟨-,-,h⟩
    ·exact .inr h
    ·exact .inl h
   have hkeep:Blk w2 w5.heap.size #[.int .i64 0] 3:=by
    have hn:Blk (w5.alloc (.cells #[.int .i64 0] 3)) w5.heap.size #[.int .i64 0] 3:=Blk.new _ _ _;have hno:¬ O w5.heap.size:=fun e=>by have h1:=HA0.out _ (H0.out.sub _ e);have h2:=HB5.out.size;omega
    rcases hcell with ⟨N,-,-,st⟩|⟨N,-,-,st⟩
    ·exact(st.block _ hn.lt hno).trans hn
    ·exact(st.block _ hn.lt hno).trans hn
   rcases hd with ⟨h1,h2,h3⟩|⟨h1,h2,h3⟩
   ·exact⟨hkeep,.inl ⟨h2,h1,h3⟩⟩
   ·exact⟨hkeep,.inr ⟨_,h2,rfl,h1,h3⟩⟩
 have HSE:Hid (∀ w2 w9 s',STo (w5.alloc (.cells #[.int .i64 0] 3)) w2 b O (fun k=>A k∨(w.heap.size≤k∧k<(w5.alloc (.cells #[.int .i64 0] 3)).heap.size)) s'→Chg w5.heap.size w2 w9→STo w w9 b O A s'):=fun w2 w9 s' h1 h2=>STo.seal (fun k hk=>HA0.out k (H0.out.sub k hk)) HB6.out ⟨HB5.out.size,by simp⟩ h1 h2;clear b6 bb6 HS5 HX5 HR5 HG5;go_wp2_with fail
 refine CK.out.mono ?_;intro e' w9 hk
 have FF:Hid (e'=.returned (.int .i64 (s.code x))∧STo w w9 b O A (s.ins x)):=by
  rcases hk with ⟨w2,⟨g1,g2⟩,rfl,g3⟩|⟨w2,c,⟨g1,g2,g3⟩,rfl,g4⟩
  ·have e0:s.code x=0:=by rw[EC.out,g1]
   refine⟨by rw[e0],?_⟩
   unfold JSt.ins;rw[if_pos e0]
   exact HSE.out w2 w9 _ g2 g3
  ·have e0:s.code x=c:=by rw[EC.out,g1]
   refine⟨by rw[e0],?_⟩
   unfold JSt.ins;rw[if_neg (by rw[e0];exact g2)]
   exact HSE.out w2 w9 _ g3 g4
 obtain⟨rfl,-⟩:=id FF.out
 clear hk CK HSE;go_wp2
 go_ret;exact⟨rfl,FF.out.2⟩
def Ql7 (b S0 X fl c1 fm c2 bl c3:Nat) (fr cf:Int) (a1 a2 a3:Option Addr) (x:MEnd) (e:EP) (t:Tmp) (v:Value) (w:World):Prop :=
 v=(([(2,.pointer (some ⟨S0,0,none⟩)),(3,.pointer (some ⟨X,0,none⟩)),(6,.pointer (some ⟨b,0,none⟩)),(7,.pointer (some ⟨b,0,none⟩)),(8,.pointer (some ⟨b,2,none⟩)),(9,.agg #[.int .i64 fr,.slice a1 fl c1,.slice a2 fm c2,.slice a3 bl c3]),(10,.agg (ZT x e)),(11,.int .i64 cf),(5,.int .i64 cf)]:List (Tmp × Value)).lookup t).getD undef
theorem jE1 {w6:World}{b S0 X fl c1 fm c2 bl c3:Nat}{fr cf:Int}{a1 a2 a3:Option Addr}{x:MEnd}{e:EP}(s0:w6.cell? ⟨S0,0,none⟩=some (.pointer (some ⟨b,0,none⟩))) (q2:w6.cell? ⟨b,2,none⟩=some (.int .i64 fr)) (q3:w6.cell? ⟨b,3,none⟩=some (.slice a1 fl c1)) (q4:w6.cell? ⟨b,4,none⟩=some (.slice a2 fm c2)) (q5:w6.cell? ⟨b,5,none⟩=some (.slice a3 bl c3)) (HX:Hid (w6.rangeAt X 0 (ZT x e).toList)) (HS:Hid (x.yes.regs.length<2305843009213693952∧x.yes.args.length<2305843009213693952∧x.no.regs.length<2305843009213693952∧x.no.args.length<2305843009213693952)) (hbl:bl<2305843009213693952) (HC:Hid (x.form bl=cf))
 (a:Act) (m:Nat) (hn:a.tmps.size=m) (hn':17≤m) (h2:a.tmps.getD 2 undef=.pointer (some ⟨S0,0,none⟩)) (h3:a.tmps.getD 3 undef=.pointer (some ⟨X,0,none⟩)) :
 Code.wp prog ((Tryz.f31.body.bind (Qj 1)).getD .skip) (fun e a' w'=>e=.normal∧∃ vs,a'=Q5 a vs [6,7,8,9,10,11,5]∧vs 5=.int .i64 cf∧Below w6.heap.size w6 w') a w6:=by
 conv=>arg 2;whnf
 refine Qw (Ql7 b S0 X fl c1 fm c2 bl c3 fr cf a1 a2 a3 x e) (fun w=>Below w6.heap.size w6 w) (fun w w'=>Below w.heap.size w w') (outs:=[2,3]) (gs:=[]) (bs:=[true,true,true,true,true,true,true]) (by kernel_rfl) (n:=17) hn hn' (by kernel_rfl) ?hR ?hG (Qf Zr 1) ⟨h2,h3,trivial⟩ ?hA ?hend
 case hR=>exact fun t v w w' _ h=>h
 case hG=>exact trivial
 case hend=>exact fun vs w' hW hk=>⟨rfl,vs,rfl,hk 5 (by kernel_rfl),hW⟩
 case hA =>
  iterate 4
   refine⟨fun a w hW hk K hK=>?_,?_⟩
   ·obtain⟨k0,-⟩:=hk
    conv at k0=>whnf;rhs;whnf
    have u0:=Qi s0 hW;have u1:=Qi q2 hW;have u2:=Qi q3 hW;have u3:=Qi q4 hW;have u4:=Qi q5 hW;go_simp;exact hK _ _ Zr hW rfl
  refine⟨fun a w hW hk K hK=>?_,?_⟩
  ·obtain⟨k0,-⟩:=hk
   conv at k0=>whnf;rhs;whnf
   obtain⟨fs,hfs⟩:=underEnd
   refine wp_load_mid 47 (.tmp 3) rfl X 0 k0 (ZT x e).toList _ (Q9 HX.out hW) hfs rfl sizeEnd ?_;exact hK _ _ Zr hW rfl
  refine⟨fun a w hW hk K hK=>?_,?_⟩
  ·obtain⟨k0,k1,-⟩:=hk
   conv at k0=>whnf;rhs;whnf
   conv at k1=>whnf;rhs;whnf
   go_simp;refine Calls.mono (Qf0 (x:=x) (e:=e) HS.out hbl) ?_;rw[HC.out];rintro r7 w7 ⟨rfl,b7⟩;go_simp;exact hK _ _ b7 (hW.trans (b7.mono hW.size)) rfl
  refine⟨fun a w hW hk K hK=>?_,?_⟩
  ·obtain⟨k0,-⟩:=hk
   conv at k0=>whnf;rhs;whnf
   go_simp;exact hK _ _ Zr hW rfl
  trivial
theorem QeQ {w:World}{X:Nat}{c:Array Value}{t:TypeId}(h:Blk w X c t):w.rangeAt X 0 c.toList:=fun j v hj=>by
 rw[Nat.zero_add]
 rw[Array.getElem?_toList] at hj
 exact Qb h j v hj
theorem QhQ {w:World}{b S0 X:Nat}{O A Q:Nat→Prop}{s:JSt}{x:MEnd}{e:EP}(hS:Blk w S0 #[.pointer (some ⟨b,0,none⟩)] 48) (hX:Blk w X (ZT x e) 47) (hJ:JOk s) (hO:∀ k,O k→k<w.heap.size) (h:SAt w b O A s) (hx:Qa2 w Q x e) (hra:-9223372036854775808≤x.a∧x.a≤9223372036854775807) (hf:x.form s.f.blocks.length=0) :
 Calls prog 77 #[.pointer (some ⟨S0,0,none⟩),.pointer (some ⟨X,0,none⟩)] w fun r w'=>ZW (s.fin x) VNone r∧Below w.heap.size w w':=by
 have C:=Qa (QiQ hJ hO h hx hra hf);have s0:=Qb hS 0 _ rfl;have HX:=Qa (QeQ hX);clear hS hX hJ h hx hra hf hO;obtain⟨fs,hfs⟩:=underEnd
 have HFS:=Qa hfs;clear hfs;generalize hds:ZT x e=ds at C HX;have HSZ:Hid ((prog.info? 47).map (·.size)=some ds.toList.length):=by show _=_;rw[← hds];exact sizeEnd
 clear hds;go_enter func77,ntmps77
 go_wp2_with (refine wpList_load_mid rfl 47 (.tmp 1) rfl X 0 rfl ds.toList _ HX.out HFS.out rfl HSZ.out ?_)
 refine C.out.mono ?_;rintro e' w9 hd;have FF:=Qa hd;obtain⟨hq,b9⟩:=hd
 rcases hq with ⟨hc,y,rfl,hy⟩|⟨hc,rfl⟩
 rotate_left
 ·exact⟨rfl,FF.out⟩
 subst hy;clear hc b9 C;go_wp2
 exact bodyPost_end (v:=.tuple #[]) (by simp[results,results77,go_sem]) rfl FF.out
theorem Qi1 {w:World}{b:Nat}{O A Q:Nat→Prop}{s:JSt}{x:MEnd}{e:EP}(hA:∀ k,A k→k<w.heap.size) (hJ:JOk s) (h:SAt w b O A s) (hx:Qa2 w Q x e) (hra:-9223372036854775808≤x.a∧x.a≤9223372036854775807) (hs:x.yes.regs.length<2305843009213693952∧x.yes.args.length<2305843009213693952∧x.no.regs.length<2305843009213693952∧x.no.args.length<2305843009213693952) :
 Calls prog 31 #[.pointer (some ⟨b,0,none⟩),.agg (ZT x e)] w fun r w'=>r=.returned (.int .i64 (s.fin x))∧Below w.heap.size w w':=by
 have hmf:∀ (fn:Fn) (first cap:Array Value) (w:World),(Instr.makeFunc fn first cap).run prog w=.ok (.func fn first cap) w:=fun _ _ _ _=>rfl;have HJ:=Qa hJ;have H0:=Qa h;have HA0:=Qa hA;have HRA:=Qa hra;have HSS:=Qa hs;have b1:=QN w (.cells #[.pointer (some ⟨b,0,none⟩)] 48);have b2:=QN (w.alloc (.cells #[.pointer (some ⟨b,0,none⟩)] 48)) (.cells #[.int .i64 x.op,.int .i64 x.a,.int .i64 x.yes.block,.slice e.pYR x.yes.regs.length e.cYR,.slice e.pYA x.yes.args.length e.cYA,.int .i64 x.no.block,.slice e.pNR x.no.regs.length e.cNR,.slice e.pNA x.no.args.length e.cNA,.slice e.pA x.args.length e.cA] 47);have bb:=b1.trans (b2.mono b1.size);have HB:=Qa bb;have H:=Qa (h.below bb);have HEI:=Qa (hx.below bb);have hS:Blk ((w.alloc (.cells #[.pointer (some ⟨b,0,none⟩)] 48)).alloc (.cells #[.int .i64 x.op,.int .i64 x.a,.int .i64 x.yes.block,.slice e.pYR x.yes.regs.length e.cYR,.slice e.pYA x.yes.args.length e.cYA,.int .i64 x.no.block,.slice e.pNR x.no.regs.length e.cNR,.slice e.pNA x.no.args.length e.cNA,.slice e.pA x.args.length e.cA] 47)) w.heap.size #[.pointer (some ⟨b,0,none⟩)] 48:=(Blk.new _ _ _:Blk (w.alloc (.cells #[.pointer (some ⟨b,0,none⟩)] 48)) w.heap.size _ _).below b2
 have hX:Blk ((w.alloc (.cells #[.pointer (some ⟨b,0,none⟩)] 48)).alloc (.cells #[.int .i64 x.op,.int .i64 x.a,.int .i64 x.yes.block,.slice e.pYR x.yes.regs.length e.cYR,.slice e.pYA x.yes.args.length e.cYA,.int .i64 x.no.block,.slice e.pNR x.no.regs.length e.cNR,.slice e.pNA x.no.args.length e.cNA,.slice e.pA x.args.length e.cA] 47)) (w.heap.size+1) (ZT x e) 47:=by
  have:=Blk.new (w.alloc (.cells #[.pointer (some ⟨b,0,none⟩)] 48)) (ZT x e) 47
  simpa using this
 have HS:=Qa hS;have HX:=Qa hX;clear hS hX b1 b2 bb h hA hJ hx hra hs;go_enter func31,ntmps31
 go_upto_region 1 with fail
 generalize (w.alloc (.cells #[.pointer (some ⟨b,0,none⟩)] 48)).alloc (.cells #[.int .i64 x.op,.int .i64 x.a,.int .i64 x.yes.block,.slice e.pYR x.yes.regs.length e.cYR,.slice e.pYA x.yes.args.length e.cYA,.int .i64 x.no.block,.slice e.pNR x.no.regs.length e.cNR,.slice e.pNA x.no.args.length e.cNA,.slice e.pA x.args.length e.cA] 47)=w1 at HB H HEI HS HX ⊢;obtain⟨S0,hS0⟩:∃ S0,S0=w.heap.size:=⟨_,rfl⟩
 obtain⟨X,hX⟩:∃ X,X=S0+1:=⟨_,rfl⟩
 rw[← hS0] at HS HX ⊢
 rw[← hX] at HX ⊢
 have HSZ:=Qa hS0;clear hX hS0;have s0:=Qb HS.out 0 _ rfl;have HXR:=Qa (QeQ HX.out);obtain⟨pm,cm,hh,a1,c1,a2,c2,a3,c3,aL,cL,RR⟩:=H.out.read
 obtain⟨-,-,q2,q3,q4,q5,-⟩:=RR.cells
 obtain⟨cf,hcf⟩:∃ cf,x.form s.f.blocks.length=cf:=⟨_,rfl⟩
 have HCF:Hid (x.form s.f.blocks.length=cf):=hcf;have HFR:=Qa (HJ.out.mod.2 s.f HJ.out.fn);clear hcf RR;refine Code.wp_mono ?_ (jE1 s0 q2 q3 q4 q5 HXR HSS (by have:=HFR.out.many.2;omega) HCF _ _ rfl (Nat.le_of_ble_eq_true (by kernel_rfl)) rfl rfl);rintro ee aa w5 ⟨rfl,vs,rfl,hv5,hb⟩;simp only[Q5,Act.put,List.setIfInBounds_toArray,List.set_cons_zero,List.set_cons_succ,hv5]
 have HB5:=Qa (HB.out.trans (hb.mono HB.out.size));have HS5:=Qa (HS.out.below hb);have HX5:=Qa (HX.out.below hb);have HE5:=Qa (HEI.out.below hb);clear hb hv5 s0 q2 q3 q4 q5 HS HX HB H HXR HEI;by_cases hc0:cf=0
 rotate_left
 ·have hc0':(cf != 0)=true:=by simpa using hc0
  have E1:Hid (s.fin x=cf):=by show _=_;unfold JSt.fin;rw[HCF.out,if_pos hc0]
  go_wp2_with fail
  go_ret;exact⟨by rw[E1.out];rfl,by first | exact HB5.out | (rw[HSZ.out];exact HB5.out)⟩
 subst hc0;have b6:=QN w5 (.cells #[.int .i64 0] 3);have bb6:=HB5.out.trans (b6.mono HB5.out.size)
 have CK:Hid (Calls prog 69 #[.func (.func 77) #[] #[.pointer (some ⟨S0,0,none⟩),.pointer (some ⟨X,0,none⟩)]] w5 fun en w'=>Qe5 w5.heap.size (fun w2=>s.fin x=0∧Below (w5.alloc (.cells #[.int .i64 0] 3)).heap.size (w5.alloc (.cells #[.int .i64 0] 3)) w2) (fun c w2=>s.fin x=c∧Below (w5.alloc (.cells #[.int .i64 0] 3)).heap.size (w5.alloc (.cells #[.int .i64 0] 3)) w2) en w'):=by
  refine Qda _ _ enters_end1 _ _ ?_;refine(QhQ (HS5.out.below b6) (HX5.out.below b6) HJ.out (fun k hk=>Zl (HA0.out k (H0.out.sub k hk)) bb6.size) (H0.out.below bb6) (HE5.out.below b6) HRA.out HCF.out).mono ?_
  rintro en w2 ⟨hd,hb2⟩;have hkeep:Blk w2 w5.heap.size #[.int .i64 0] 3:=(Blk.new w5 #[.int .i64 0] 3).below hb2;rcases hd with ⟨hc,y,rfl,hy⟩|⟨hc,rfl⟩
  ·subst hy;exact⟨hkeep,.inl ⟨rfl,hc,hb2⟩⟩
  ·exact⟨hkeep,.inr ⟨_,rfl,rfl,hb2⟩⟩
 have HSE:Hid (∀ w2 w9,Below (w5.alloc (.cells #[.int .i64 0] 3)).heap.size (w5.alloc (.cells #[.int .i64 0] 3)) w2→Chg w5.heap.size w2 w9→Below w.heap.size w w9):=fun w2 w9 h1 h2 =>
  Chg.last (bb6.trans (h1.mono bb6.size)) h2 HB5.out.size (Zt bb6.size h1.size)
 clear b6 bb6 HS5 HX5 HE5;go_wp2_with fail
 refine CK.out.mono ?_;intro e' w9 hk
 have FF:Hid (e'=.returned (.int .i64 (s.fin x))∧Below w.heap.size w w9):=by
  rcases hk with ⟨w2,⟨g1,g2⟩,rfl,g3⟩|⟨w2,c,⟨g1,g2⟩,rfl,g4⟩
  ·exact⟨by rw[g1],HSE.out w2 w9 g2 g3⟩
  ·exact⟨by rw[g1],HSE.out w2 w9 g2 g4⟩
 obtain⟨rfl,-⟩:=id FF.out
 clear hk CK HSE;go_wp2
 go_ret;first | exact⟨rfl,FF.out.2⟩ | exact⟨rfl,by rw[HSZ.out];exact FF.out.2⟩
def Qbo {n:Nat}(w:World) (Q:Nat→Prop) (l:List (TT n)) (e:Ending) (w':World):Prop :=
 ∃ v ds,e=.returned v∧w'.ownsRow 0 79 3 v l.length ds∧(∀ g,v.ownBlock=some g→w.heap.size≤g)∧(∀ i x,l[i]?=some x→(Lay.tt n).In w Q x ((ds.drop (i*3)).take 3))∧Below w.heap.size w w'
theorem Qdw {n:Nat}{w:World}{Q:Nat→Prop}{l:List (TT n)}{p:Option Addr}{N c:Nat}(hN:l.length=N) (hN2:N≤5000) (hl:(Qm n).In w Q l [.slice p N c]) :
 Calls prog 63 #[.slice p N c] w fun e w'=>Qbo w Q l e w':=by
 obtain⟨i0,hi,hz0,hz1,hz2⟩:=pInfoT
 have q:∀ (w:World) (a:Option Addr) (n c n' c':Nat),(binOp .eql 52 (.slice a n c) (.slice none n' c')).run prog w=.ok (.bool a.isNone) w:=fun w a n c n' c'=>Lib.run_eql_slice_nil w _ _ a n c n' c' pUnderT;have HL:=Qa hl;have HN:=Qa hN;clear hl hN
 cases p with
 | none =>
   have hl0:l=[]:=by
    rcases l with _ | ⟨x,r⟩
    ·rfl
    ·obtain⟨g,o,ds,e,-⟩:=Lay.list_at HL.out (i:=0) (x:=x) rfl
     cases e
   subst hl0;have hN0:N=0:=by have:=HN.out;simpa using this.symm
   subst hN0;have HZ:Hid (Qbo w Q ([]:List (TT n)) (.returned (.slice none 0 0)) w):=⟨.slice none 0 0,[],rfl,⟨rfl,.inl ⟨rfl,rfl⟩⟩,fun g hg=>by simp[Value.ownBlock] at hg,fun i x hx=>by simp at hx,Zr⟩;clear HL HN;go_enter func63,ntmps63
   go_wp2
   go_ret;exact HZ.out
 | some ad =>
   have b1:=QN w (.cells #[] 79);have hown0:(w.alloc (.cells #[] 79)).ownsRow 0 79 3 (.slice (some ⟨w.heap.size,0,none⟩) 0 0) 0 []:=⟨rfl,.inr ⟨w.heap.size,0,#[],rfl,Nat.zero_le _,Qe w _ _,Ze,by unfold maxLen;omega,rfl,rfl⟩⟩;have HB:=Qa b1;have HOW:=Qa hown0;by_cases hn0:N=0
   ·subst hn0;have hl0:l=[]:=List.length_eq_zero_iff.1 HN.out;subst hl0;have ha:Hid (∀ (t:TypeId) (wx:World),(Builtin.append_ #[52,52] t #[.slice (some ⟨w.heap.size,0,none⟩) 0 0,.slice (some ad) 0 c]).run prog wx=.ok (.slice (some ⟨w.heap.size,0,none⟩) 0 0) wx):=fun (t:TypeId) (wx:World)=>run_append_nothing (P:=prog) wx 52 52 t 79 i0 pUnderT hi (some ⟨w.heap.size,0,none⟩) 0 0 Ze (.slice (some ad) 0 c) (Src.ofSlice wx pUnderT ad 0 c [] (by simp) (fun j u h=>by simp at h) (fun u h=>by cases h));have HZ:Hid (Qbo w Q ([]:List (TT n)) (.returned (.slice (some ⟨w.heap.size,0,none⟩) 0 0)) (w.alloc (.cells #[] 79))):=⟨_,[],rfl,HOW.out,fun g hg=>by simp[Value.ownBlock] at hg;omega,fun i x hx=>by simp at hx,HB.out⟩;clear HL HN HB HOW hown0 b1;generalize hw1:w.alloc (.cells #[] 79)=w1 at HZ;go_enter func63,ntmps63
    go_wp2_with (at_builtin;refine Zu rfl (.tmp 5) (.tmp 6) 52 rfl (.slice (some ⟨w.heap.size,0,none⟩) 0 0) (.slice (some ad) 0 c) rfl rfl (ha.out _ _) ?_)
    go_ret;first | exact HZ.out | (rw[hw1];exact HZ.out)
   ·obtain⟨g0,o0,e0⟩:∃ g0 o0,(some ad)=some (⟨g0,o0,none⟩:Addr):=by
     obtain⟨g,o,dd,e,-⟩:=Lay.list_at HL.out (Zg (show 0<l.length by have:=HN.out;omega))
     exact⟨g,o,e⟩
    cases e0
    obtain⟨ds,d1,d2,d3,d4⟩:=Lay.flat HL.out (fun y cs hy=>by obtain⟨ya,yc,e,-⟩:=hy;subst e;exact Qes _ _ _ _ _)
    have d1':ds.length=N*3:=by rw[← HN.out];exact d1
    have HD1:=Qa d1';have HD2:Hid (∀ (j:Nat) (u:Value),ds[j]?=some u→(w.alloc (.cells #[] 79)).cell? ((⟨g0,o0,none⟩:Addr).add j)=some u):=fun j u hj=>Qi (d2 j u hj) HB.out;have HD3:=Qa d3
    have HPU:Hid (∀ w9 g cap2,w9.ownsRow 0 79 3 (.slice (some ⟨g,0,none⟩) N cap2) N ds→(w.alloc (.cells #[] 79)).grownBy w9 (some w.heap.size)→(w.heap.size=g∨g=w.heap.size+1)→Qbo w Q l (.returned (.slice (some ⟨g,0,none⟩) N cap2)) w9):=by
     intro w9 g cap2 r1 r2 r3;have hsz:=r2.size;refine⟨_,ds,rfl,by rw[HN.out];exact r1,fun g' hg'=>?_,d4,⟨r2.os.trans HB.out.os,r2.tape.trans HB.out.tape,r2.output.trans HB.out.output,by simp at hsz;omega,fun k hk=>?_⟩⟩
     ·simp[Value.ownBlock] at hg'
      omega
     ·exact(r2.block k (by simp;omega) (fun e=>by injection e with e;omega)).trans (HB.out.block k hk)
    clear HL HB d1 d1' d2 d3 d4 hown0 b1;have hn1:0<N:=by omega
    have HSZ:Hid (0≤(w.alloc (.cells #[] 79)).heap.size):=Nat.zero_le _;go_enter func63,ntmps63
    go_wp2_with (at_builtin;refine wpList_append_lies _ rfl (.tmp 5) (.tmp 6) 52 rfl 0 79 i0 (.agg #[.int .i64 0,.int .i64 0,.slice none 0 0]) 3 40 pUnderT hi hz0 hz1 hz2 rfl (by decide) _ _ _ rfl HOW.out ⟨g0,o0,none⟩ N c ds rfl HD1.out HD2.out HD3.out hn1 (by unfold maxLen;omega) (by omega) HSZ.out (w.heap.size+1) (by simp) ?_)
    intro g2 cap2 w9 r1 r2 r3 r4;have Z9:=Qa (HPU.out w9 g2 cap2 (by simpa using r1) (by simpa[Value.ownBlock] using r2) (by simpa[Value.ownBlock] using r3));clear r1 r2 r3 r4 HPU HOW;go_wp2
    go_ret;first | exact Z9.out | simpa using Z9.out
def Qe3 {n:Nat}(lo:Nat) (w:World) (g N i:Nat) (l:List (TT n)):Prop :=
 ∃ cur,w.heap[g]?=some (.cells cur 79 (0,0))∧N*3≤cur.size∧∀ (j:Nat) (x:TT n),l[j]?=some x→∃ a c,cur[j*3]?=some (.int .i64 x.kind)∧cur[j*3+1]?=some (.int .i64 x.r)∧cur[j*3+2]?=some (.slice a x.len c)∧TIn w (fun k=>k≠g∧(j<i→lo≤k)) x a
section
variable {n lo g N i:Nat}{w w':World}{l:List (TT n)}
theorem Qe3.below (h:Qe3 lo w g N i l) (b:Below w.heap.size w w'):Qe3 lo w' g N i l:=by
 obtain⟨cur,h1,h2,h3⟩:=h
 refine⟨cur,(b.block g (lt_of_block h1)).trans h1,h2,fun j x hx=>?_⟩
 obtain⟨a,c,q0,q1,q2,q3⟩:=h3 j x hx
 exact⟨a,c,q0,q1,q2,q3.below b⟩
theorem Qe3.lt (h:Qe3 lo w g N i l):g<w.heap.size:=by obtain⟨cur,h1,-⟩:=h;exact lt_of_block h1
theorem Qe3.free (h:Qe3 lo w g N i l) (k:Nat):w.frozen? ⟨g,k,none⟩=false:=by obtain⟨cur,h1,-⟩:=h;exact Qp h1 k
theorem Qe3.at (h:Qe3 lo w g N i l){j:Nat}{x:TT n}(hx:l[j]?=some x):∃ a c,w.cell? ⟨g,j*3+2,none⟩=some (.slice a x.len c)∧TIn w (fun k=>k≠g∧(j<i→lo≤k)) x a:=by
 obtain⟨cur,h1,h2,h3⟩:=h
 obtain⟨a,c,q0,q1,q2,q3⟩:=h3 j x hx
 exact⟨a,c,Qb h1 _ _ q2,q3⟩
theorem Qe3.set (h:Qe3 lo w g N i l){x:TT n}{a:Option Addr}{c:Nat}(hx:l[i]?=some x) (hiN:i<N) (ht:TIn w (fun k=>k≠g∧lo≤k) x a):Qe3 lo (w.setCell ⟨g,i*3+2,none⟩ (.slice a x.len c)) g N (i+1) l:=by
 obtain⟨cur,h1,h2,h3⟩:=h
 refine⟨_,Qo h1 (i*3+2) (.slice a x.len c),by simpa using h2,fun j y hy=>?_⟩
 obtain⟨b,d,q0,q1,q2,q3⟩:=h3 j y hy
 by_cases hj:j=i
 ·subst hj;rw[hx] at hy
  injection hy with hy
  subst hy;refine⟨a,c,?_,?_,?_,(ht.setCell (fun e=>e.1 rfl) _).mono (fun k hk _=>⟨hk.1,fun _=>hk.2⟩)⟩
  ·rw[Array.getElem?_setIfInBounds,if_neg (by omega)];exact q0
  ·rw[Array.getElem?_setIfInBounds,if_neg (by omega)];exact q1
  ·rw[Array.getElem?_setIfInBounds,if_pos rfl,if_pos (by omega)]
 ·refine⟨b,d,?_,?_,?_,(q3.setCell (fun e=>e.1 rfl) _).mono (fun k hk _=>⟨hk.1,fun h=>hk.2 (by omega)⟩)⟩
  ·rw[Array.getElem?_setIfInBounds,if_neg (by omega)];exact q0
  ·rw[Array.getElem?_setIfInBounds,if_neg (by omega)];exact q1
  ·rw[Array.getElem?_setIfInBounds,if_neg (by omega)];exact q2
theorem Qe3.lin (h:Qe3 lo w g N i l) (hi:l.length≤i) (hg:lo≤g):LIn w (Z2 lo) l (some ⟨g,0,none⟩):=by
 obtain⟨cur,h1,h2,h3⟩:=h
 intro j x hx;obtain⟨a,c,q0,q1,q2,q3⟩:=h3 j x hx
 have hj:j<l.length:=(Zi hx).1;refine⟨g,0,a,c,rfl,hg,?_,?_,?_,q3.mono (fun k hk _=>hk.2 (by omega))⟩
 ·rw[Nat.zero_add];exact Qb h1 _ _ q0
 ·rw[Nat.zero_add];exact Qb h1 _ _ q1
 ·rw[Nat.zero_add];exact Qb h1 _ _ q2
end
def QbM {n:Nat}(w w':World) (l:List (TT n)) (e:Ending):Prop:=∃ a' c',e=.returned (.slice a' l.length c')∧l.length≤c'∧LIn w' (Z2 w.heap.size) l a'∧Below w.heap.size w w'
def Qj4 (n:Nat):Prop:=∀ (l:List (TT n)) (a:Option Addr) (c:Nat) (w:World),(Qm n).In w All l [.slice a l.length c]→l.length≤5000→(∀ x∈l,x.count≤5000)→Calls prog 75 #[.slice a l.length c] w fun e w'=>QbM w w' l e
def Qj6 (n:Nat):Prop:=∀ (x:TT n) (a:Option Addr) (c:Nat) (w:World),TIn w All x a→x.ok→x.count≤5000→Calls prog 75 #[.slice a x.len c] w fun e w'=>∃ a' c',e=.returned (.slice a' x.len c')∧TIn w' (Z2 w.heap.size) x a'∧Below w.heap.size w w'
theorem Qbo.row {n:Nat}{w w':World}{Q:Nat→Prop}{l:List (TT n)}{e:Ending}(h:Qbo w Q l e w'):∃ a c,e=.returned (.slice a l.length c)∧l.length≤c∧Below w.heap.size w w'∧(l≠[]→∃ g,a=some ⟨g,0,none⟩∧w.heap.size≤g∧Qe3 w.heap.size w' g l.length 0 l):=by
 obtain⟨v,ds,rfl,⟨h1,h2⟩,h3,h4,h5⟩:=h
 rcases h2 with ⟨rfl,e2⟩|⟨g,cap,cur,rfl,-,hh,hn,hm,hs,ht⟩
 ·have hl:l=[]:=List.length_eq_zero_iff.1 e2;subst hl;exact⟨none,0,rfl,Ze,h5,fun e=>absurd rfl e⟩
 ·refine⟨some ⟨g,0,none⟩,cap,rfl,hn,h5,fun _=>⟨g,rfl,h3 g rfl,cur,hh,?_,fun j x hx=>?_⟩⟩
  ·have:l.length*3≤cap*3:=Nat.mul_le_mul_right _ hn
   omega
  ·have hj:j<l.length:=(Zi hx).1;obtain⟨a,c,e,q1,q2⟩:=h4 j x hx
   have hc:∀ i u,i<3→((ds.drop (j*3)).take 3)[i]?=some u→cur[j*3+i]?=some u:=fun i u hi hu=>by
    rw[List.getElem?_take,if_pos hi,List.getElem?_drop,← ht,List.getElem?_take,if_pos (by omega),Array.getElem?_toList] at hu
    exact hu
   rw[e] at hc
   have hg:=h3 g rfl;exact⟨a,c,hc 0 _ (by omega) rfl,hc 1 _ (by omega) rfl,hc 2 _ (by omega) rfl,(TIn.keep (O':=fun k=>k<w.heap.size) (fun k _ hk=>h5.block k hk) (fun _ _ h=>h) q1).mono (fun k hk _=>⟨by omega,fun e=>absurd e (by omega)⟩)⟩
theorem QdB (n:Nat) (IH0:Qj6 n):Qj4 n:=by
 intro l a c w hl hlen hcnt;have IH:Hid (Qj6 n):=IH0;have C:=Qa (Qdw (c:=c) rfl hlen hl);have HOK:=Qa (QJ hl).2;have HC:=Qa hcnt;clear hl hcnt IH0;go_enter func75,ntmps75
 go_wp2_with fail
 refine C.out.mono ?_;intro e w1 hcl;obtain⟨a1,c1,rfl,hle,hb,hrow⟩:=hcl.row
 have HB:=Qa hb;have HLE:=Qa hle;clear hcl C hb hle;obtain⟨N,hN⟩:∃ N,l.length=N:=⟨_,rfl⟩
 have HN:=Qa hN;rw[hN] at hlen ⊢
 by_cases hl0:l=[]
 ·subst hl0;have hN0:N=0:=by have:=HN.out;simpa using this.symm
  subst hN0;have HZ:Hid (QbM w w1 ([]:List (TT n)) (.returned (.slice a1 0 c1))):=⟨a1,c1,rfl,Nat.zero_le _,LIn.nil,HB.out⟩;clear HB HLE hrow HOK HC;go_wp2
  go_loop [9] (fun i=>∃ k:Nat,k=0∧i=.int .i64 k) (fun _=>0)
  case atStart=>exact⟨0,rfl,rfl⟩
  case round =>
   obtain⟨k,rfl,rfl⟩:=hrel
   go_wp2
   go_ret;exact HZ.out
 ·obtain⟨g,rfl,hg,horow⟩:=hrow hl0
  rw[hN] at horow
  have HG:=Qa hg;have R0:=Qa horow;clear hrow horow hg hl0 hN;go_wp2
  go_loopw [9] (fun i wr=>∃ k:Nat,k≤N∧i=.int .i64 k∧Qe3 w.heap.size wr g N k l∧Below w.heap.size w wr) (fun i _=>N - (intOf i).toNat)
  case atStart=>exact⟨0,Nat.zero_le _,rfl,R0.out,HB.out⟩
  case round =>
   clear R0 HB;obtain⟨k,hk,rfl,hR,hB⟩:=hrel
   have HB:=Qa hB;have R1:=Qa hR;clear hB hR;by_cases hlt:k<N
   ·have hlt':(k:Int)<N:=by omega
    have hk2:k<l.length:=by rw[HN.out];exact hlt
    obtain⟨x,hx⟩:∃ x,l[k]?=some x:=⟨_,Zg hk2⟩
    obtain⟨ak,ck,y2,ht⟩:=R1.out.at hx
    have hxm:=Zm hx;have CK:=Qa (IH.out x ak ck wr ht.all (HOK.out x hxm) (HC.out x hxm));have HX:=Qa hx;clear hx hk2 ht hxm;go_wp2_with fail
    refine CK.out.mono ?_;rintro e w2 ⟨a2,c2,rfl,t2,b2⟩;have R2:=Qa (R1.out.below b2);have B2:=Qa (HB.out.trans (b2.mono HB.out.size));have hgl:=R1.out.lt;have R3:=Qa (R2.out.set (c:=c2) HX.out hlt (t2.mono (fun k hk _=>⟨by omega,Zt HB.out.size hk⟩)));have B3:Hid (Below w.heap.size w (w2.setCell ⟨g,k*3+2,none⟩ (.slice a2 x.len c2))):=B2.out.setCell (p:=⟨g,k*3+2,none⟩) HG.out _;have z2:=R2.out.free (k*3+2);obtain⟨a4,c4,y4,-⟩:=R2.out.at HX.out
    clear t2 b2 R2 B2 CK y2 hgl;generalize x.len=xl at R3 B3 y4;go_wp2
    go_roundw
    case rel=>exact⟨k+1,hlt,by go_num,R3.out,B3.out⟩
    case measure=>simp[intOf];omega
   ·have hlt':¬ (k:Int)<N:=by omega
    have HZ:Hid (QbM w wr l (.returned (.slice (some ⟨g,0,none⟩) N c1))):=⟨_,c1,by rw[HN.out],HLE.out,R1.out.lin (by rw[HN.out];omega) HG.out,HB.out⟩;go_wp2
    go_ret;exact HZ.out
theorem kid_any:∀ n,Qj6 n
 | 0,x,_,_,_,_,_,_=>Empty.elim x
 | n+1,x,a,c,w,h,hok,hc=>by
   have hlen:x.2.2.length≤5000:=by have:=x.len_lt_count;rw[x.len_eq] at this;omega
   have hl:(Qm n).In w All x.2.2 [.slice a x.2.2.length c]:=by
    refine⟨a,c,rfl,fun i y hy=>?_⟩
    obtain⟨g,o,a',c',e,h1,h2,h3,h4,h5⟩:=h i y hy
    refine⟨g,o,[.int .i64 y.kind,.int .i64 y.r,.slice a' y.len c'],e,trivial,World.block_lt_of_cell? w ⟨g,o+i*3,none⟩ h2,fun j hj=>?_,a',c',rfl,h5,hok.2 y (Zm hy)⟩
    have hj:j<3:=hj;show w.cell? ⟨g,o+i*3+j,none⟩=_;match j,hj with
    | 0,_=>exact h2
    | 1,_=>exact h3
    | 2,_=>exact h4
    | j+3,h=>exact absurd h (by omega)
   refine(QdB n (kid_any n) x.2.2 a c w hl hlen (fun y hy=>by have:=x.count_kid hy;omega)).mono ?_
   rintro e w' ⟨a',c',rfl,-,h1,h2⟩;exact⟨a',c',rfl,LIn.tree h1,h2⟩
theorem QgH {w:World}{b:Nat}{O A:Nat→Prop}{s:JSt}(hL:s.L.length≤80) (hcnt:∀ x∈s.L,x.count≤5000) (h:SAt w b O A s) :
 Calls prog 26 #[.pointer (some ⟨b,0,none⟩)] w fun e w'=>QbM w w' s.L e:=by
 obtain⟨pm,cm,hh,a1,c1,a2,c2,a3,c3,aL,cL,R⟩:=h.read
 obtain⟨-,-,-,-,-,-,q6⟩:=R.cells
 have C:=Qa (QdB 6 (kid_any 6) s.L aL cL w (R.row.typesL) (by omega) hcnt);clear R h hcnt;go_enter func26,ntmps26
 go_wp2_with fail
 refine C.out.mono ?_;intro e w' ho;have HO:=Qa ho;obtain⟨a',c',rfl,-⟩:=ho
 clear C;go_wp2
 go_ret;exact HO.out
theorem Qg0 {A B:Prop}(h:A↔B):bdec A=bdec B:=by rw[propext h]
theorem Qh2 {f:FuncId}{args:Array Value}{w:World}{A:Prop}(h:Calls prog f args w fun e w'=>Zk e A∧Below w.heap.size w w'):Rd prog f args w (.bool (bdec A)) :=
 h.mono fun e w' h=>by
  obtain⟨⟨q,rfl,hq⟩,b⟩:=h
  exact⟨by rw[QdW hq],b⟩
theorem Qd3 {n:Nat}{l m:List (TT n)}{p q:Option Addr}{c d:Nat}{w:World}(hl:(Qm n).In w All l [.slice p l.length c]) (hm:(Qm n).In w All m [.slice q m.length d]) (hs:Qcm l):Rd prog 25 #[.slice p l.length c,.slice q m.length d] w (.bool (bdec (l=m))) :=
 Qh2 (QbR n (samet_any n) l m p q c d w (QJ hl).1 (QJ hm).1 (by have:=hs.1;omega) hs.2)
theorem Qfh {n:Nat}{l m:List (TT n)}{p q:Option Addr}{c d:Nat}{w:World}(hl:(Qm n).In w All l [.slice p l.length c]) (hm:(Qm n).In w All m [.slice q m.length d]) (hs:Qcm l):Rd prog 200 #[.slice p l.length c,.slice q m.length d,.func (.func 166) #[] #[]] w (.bool (bdec (l=m))) :=
 Qh2 (Qif n (same_any n) l m p q c d w (QJ hl).1 (QJ hm).1 (by have:=hs.1;omega) hs.2)
abbrev QX (p:Int × Int):Value:=.agg #[.int .i64 p.1,.int .i64 p.2]
def atF (c p:Int):Int × Int:=if c=0 then (0,0) else (c,p)
theorem QbD {α:Type}{f:Nat→α→Int × Int}:∀ {l:List α}{j:Nat},firstF (fun i x=>atF (f i x).1 (f i x).2) j l=firstF f j l
 | [],_=>rfl
 | x::xs,j=>by
   simp only[firstF,atF]
   by_cases h:(f j x).1=0
   ·simp only[h,if_true,ne_eq,not_true_eq_false,if_false]
    exact QbD
   ·simp[h]
def Qg.code {n:Nat}(f:Nat) (x:Qg n):Int :=
 if x.regs<0∨6<x.regs then 1 else if listC x.regs x.params≠0 then listC x.regs x.params else if listC x.regs x.results≠0 then listC x.regs x.results
 else if x.blocks.length<1∨12<x.blocks.length then 2 else if f=0∧¬ (x.regs=0∧x.params.length=0∧x.results.all (fun t=>t.kind==1)=true) then 18 else 0
theorem Qg.fault_eq {n:Nat}(funcs f:Nat) (x:Qg n):Qg.fault funcs f x=if x.code f=0 then firstF (fun b y=>Qh.fault funcs f x b y) 0 x.blocks else (x.code f,10000*(f:Int)+9999):=by
 unfold Qg.fault Qg.code;generalize listC x.regs x.params=lp;generalize listC x.regs x.results=lr;generalize firstF (fun b y=>Qh.fault funcs f x b y) 0 x.blocks=ff;repeat' split
 all_goals first | rfl | (exfalso;omega) | contradiction
def Qh.code' {n:Nat}(fn:Qg n) (b:Nat) (x:Qh n):Int :=
 if x.regs<fn.regs∨16<x.regs then 1 else if listC x.regs x.params≠0 then listC x.regs x.params
 else if b=0∧(x.regs≠fn.regs∨Qbz x.params fn.params=false) then 9 else if 40<x.code.length then 2 else 0
theorem Qh.fault_eq {n:Nat}(funcs f:Nat) (fn:Qg n) (b:Nat) (x:Qh n):Qh.fault funcs f fn b x =
 if x.code' fn b=0 then (if (firstF (fun i y=>(Qy.form funcs y,(10000*f+100*b+i:Int))) 0 x.code).1=0 then atF (x.fin.form fn.blocks.length) (10000*(f:Int)+100*(b:Int)+91)
  else firstF (fun i y=>(Qy.form funcs y,(10000*f+100*b+i:Int))) 0 x.code) else (x.code' fn b,10000*(f:Int)+100*(b:Int)+90):=by
 unfold Qh.fault Qh.code' atF;generalize firstF (fun i y=>(Qy.form funcs y,(10000*f+100*b+i:Int))) 0 x.code=ff;generalize x.fin.form fn.blocks.length=ef;generalize listC x.regs x.params=lp;repeat' split
 all_goals first | rfl | (exfalso;omega) | contradiction
def Qe4 {n:Nat}:Nat→List (TT n)→Int
 | _,[]=>-1
 | i,t::ts=>if t.kind=1 then Qe4 (i+1) ts else (i:Int)
theorem Qg8 {n:Nat}:∀ (l:List (TT n)) (i j:Nat) (x:TT n),l[i]?=some x→(∀ k y,k<i→l[k]?=some y→y.kind=1)→¬ x.kind=1→Qe4 j l=((j+i:Nat):Int)
 | [],i,j,x,h,_,_=>by simp at h
 | y::ys,0,j,x,h,_,hx=>by
   simp at h;subst h
   simp[Qe4,hx]
 | y::ys,i+1,j,x,h,hz,hx=>by
   have h0:y.kind=1:=hz 0 y (by omega) rfl;simp only[Qe4,h0,if_true]
   rw[Qg8 ys i (j+1) x (by simpa using h) (fun k z hk hkz=>hz (k+1) z (by omega) (by simpa using hkz)) hx]
   congr 1;omega
theorem Qiq {n:Nat}:∀ (l:List (TT n)) (j:Nat),(∀ (k:Nat) y,l[k]?=some y→y.kind=1)→Qe4 j l=-1
 | [],_,_=>rfl
 | y::ys,j,h=>by
   have h0:y.kind=1:=h 0 y rfl;simp only[Qe4,h0,if_true]
   exact Qiq ys (j+1) (fun k z hz=>h (k+1) z (by simpa using hz))
theorem Qgk {n:Nat}:∀ (l:List (TT n)) (j:Nat),(0≤Qe4 j l)↔¬ l.all (fun t=>t.kind==1)=true
 | [],j=>by simp[Qe4]
 | y::ys,j=>by
   by_cases h:y.kind=1
   ·simp only[Qe4,h,if_true,List.all_cons,beq_self_eq_true,Bool.true_and]
    exact Qgk ys (j+1)
   ·simp[Qe4,h]
theorem Qeh {n:Nat}{t:TT n}{a:Option Addr}{c:Nat}{regs:Int}{w:World}(ht:TIn w All t a) (hc:t.count≤100000):Rd prog 107 #[Tv t a c,.int .i64 regs] w (.int .i64 (t.check regs)):=typeFaultT_any n t a c regs w ht hc
theorem Qjc {n:Nat}{t:TT n}{a:Option Addr}{c:Nat}{regs:Int}{w:World}(ht:TIn w All t a) (hc:t.count≤100000):Rd prog 165 #[Tv t a c,.int .i64 regs] w (.int .i64 (t.check regs)):=check_any n t a c regs w ht hc
theorem QcU {α:Type}{f:α→Int}:∀ {l:List α}{i:Nat}{x:α},l[i]?=some x→(∀ k y,k<i→l[k]?=some y→f y=0)→f x≠0→Qz f l=f x
 | [],i,x,h,_,_=>by simp at h
 | y::ys,0,x,h,_,hf=>by
   simp at h;subst h
   simp[Qz,hf]
 | y::ys,i+1,x,h,hz,hf=>by
   have h0:f y=0:=hz 0 y (by omega) rfl;simp only[Qz,h0,ne_eq,not_true_eq_false,if_false]
   exact QcU (by simpa using h) (fun k z hk hkz=>hz (k+1) z (by omega) (by simpa using hkz)) hf
theorem QcT {α:Type}{f:α→Int}:∀ {l:List α},(∀ (k:Nat) y,l[k]?=some y→f y=0)→Qz f l=0
 | [],_=>rfl
 | y::ys,h=>by
   have h0:f y=0:=h 0 y rfl;simp only[Qz,h0,ne_eq,not_true_eq_false,if_false]
   exact QcT (fun k z hz=>h (k+1) z (by simpa using hz))
theorem Qa6 {n:Nat}{l:List (TT n)}{p:Option Addr}{c:Nat}{regs:Int}{w:World}(hl0:(Qm n).In w All l [.slice p l.length c]) (hs0:Qcm l) :
 Rd prog 65 #[.slice p l.length c,.int .i64 regs] w (.int .i64 (listC regs l)):=by
 have hl:Hid _:=hl0;have hs:Hid _:=hs0;have hsb:=hs0.1;clear hl0 hs0;refine QC (n:=25) func65 rfl rfl rfl <| fun a hF=>?_
 have hW:=Wd.start w;replace hF:Fr 25 a [(0,.slice p l.length c),(1,.int .i64 regs)]:=hF;refine wp_seq_k fun K1 hK1=>rg hF fun ops=>sa trivial rfl rfl <| St.nil fun a2 h2=>hK1 _ _ <| wp_seq_k fun K3 hK3=>wp_seq_k fun K4 hK4=>rg h2 fun ops=>sm trivial rfl rfl <| Qbe trivial rfl rfl <| sgt trivial rfl rfl rfl <| St.nil fun a5 h5=>hK4 _ _ <| QE (t:=9) h5 rfl (fun hb=>?_) (fun hb=>?_)
 ·have hbig:8<l.length:=by have:=of_decide_eq_true hb;omega
  clear hb;refine wp_seq_k fun K6 hK6=>rg h5 fun ops=>sa trivial rfl rfl <| St.nil fun a7 h7=>hK6 _ _ ?_
  refine wp_ret ?_;with_reducible repeat first | refine Qd ?_ | refine Qc ?_
  have R:listC regs l=2:=by unfold listC;rw[if_pos hbig]
  exact Qu (t:=4) h7 rfl rfl ⟨by rw[R],hW.bel⟩
 have hbig:¬ (8<l.length):=by have:=of_decide_eq_false hb;omega
 clear hb;refine wp_skip <| hK3 _ _ <| wp_seq_k fun K8 hK8=>wp_seq_k fun K9 hK9=>rg h5 fun ops=>sa trivial rfl rfl <| St.nil fun a10 h10=>hK9 _ _ <| wp_block <| Qay (fun r a w'=>∃ q:Nat,q≤l.length∧r=l.length - q∧(∀ (j:Nat) y,j<q→l[j]?=some y→y.check regs=0)∧Fr 25 a [(1,.int .i64 regs),(0,.slice p l.length c),(4,.int .i64 0),(5,.int .i64 (q:Int))]∧Wd w w' []) (l.length) ⟨0,Nat.zero_le _,rfl,(fun j y hj=>by omega),(h10.keep (h10.keep (h10.keep (h10.keep h10.nil (t:=5) rfl) (t:=4) rfl) (t:=0) rfl) (t:=1) rfl),hW⟩ ?_
 clear h10 hW;rintro r a11 w11 ⟨q,hq,hr,hall,hF11,hW11⟩ KL hKL;refine wp_seq_k fun K12 hK12=>wp_seq_k fun K13 hK13=>rg hF11 fun ops=>sm trivial rfl rfl <| sm trivial rfl rfl <| Qbe trivial rfl rfl <| slt trivial rfl rfl rfl <| St.nil fun a14 h14=>hK13 _ _ <| QE (t:=13) h14 rfl (fun hb=>?_) (fun hb=>?_)
 ·have hlt1:q<l.length:=by have:=of_decide_eq_true hb;omega
  clear hb;obtain⟨t,hx1⟩:∃ v9,(l)[q]?=some v9:=⟨_,Zg hlt1⟩
  obtain⟨g1,o1,pt1,ct1,hp1,E1,In1⟩:=Qiz (QJ hl.out).1 hx1
  replace In1:Hid _:=In1;replace hp1:Hid _:=hp1;replace hx1:Hid _:=hx1;replace E1:Hid _:=E1;refine wp_skip <| hK12 _ _ <| wp_seq_k fun K15 hK15=>wp_block <| wp_seq_k fun K16 hK16=>rg h14 fun ops=>sm trivial rfl rfl <| sm trivial rfl rfl <| Qdb hp1.out hlt1 trivial rfl rfl rfl <| sSE underlying79 rfl (Q0 E1.out hW11.bel) infType trivial rfl rfl <| sm trivial rfl rfl <| Qhv cf107 hW11 (Qeh (c:=ct1) (regs:=regs) (TIn.below In1.out hW11.bel) (hs.out.2 _ (Zm hx1.out))) trivial rfl rfl rfl <| fun w17 hW17=>sa trivial rfl rfl <| St.nil fun a18 h18=>hK16 _ _ <| wp_seq_k fun K19 hK19=>rg h18 fun ops=>sm trivial rfl rfl <| sne trivial rfl rfl rfl <| St.nil fun a20 h20=>hK19 _ _ <| QE (t:=23) h20 rfl (fun hb=>?_) (fun hb=>?_)
  ·have h9:¬ (t.check regs)=0:=bne_iff_ne.1 hb
   have hne:¬ (t.check regs)=0:=h9;clear h9;clear hb;refine wp_seq_k fun K21 hK21=>rg h20 fun ops=>sm trivial rfl rfl <| sa trivial rfl rfl <| St.nil fun a22 h22=>hK21 _ _ ?_
   refine wp_ret ?_;with_reducible repeat first | refine Qd ?_ | refine Qc ?_
   have R:listC regs l=t.check regs:=by unfold listC;rw[if_neg hbig];exact QcU hx1.out (fun k y hk hy=>hall k y hk hy) hne
   exact Qu (t:=4) h22 rfl rfl ⟨by rw[R],hW17.bel⟩
  have h9:(t.check regs)=0:=bne_eq_false_iff_eq.1 hb;have hne:Hid ((t.check regs)=0):=h9;clear h9;clear hb;refine wp_skip <| hK15 _ _ <| rg h20 fun ops=>sm trivial rfl rfl <| sad (by omega) trivial rfl rfl rfl <| sa trivial rfl rfl <| St.nil fun a23 h23=>hKL _ _ (l.length - (q+1)) (by omega) ⟨q+1,by omega,rfl,?_,(h23.keep (h23.keep (h23.keep (h23.keep h23.nil (t:=5) rfl) (t:=4) rfl) (t:=0) rfl) (t:=1) rfl),hW17⟩
  ·intro j y hj hy
   by_cases e:j=q
   ·subst e;rw[hx1.out] at hy;cases hy;exact hne.out
   ·exact hall j y (by omega) hy
 have hge:q=l.length:=by have:=of_decide_eq_false hb;omega
 clear hb;refine wp_exit <| hK8 _ _ <| wp_seq_k fun K24 hK24=>rg h14 fun ops=>sa trivial rfl rfl <| St.nil fun a25 h25=>hK24 _ _ ?_
 refine wp_ret ?_;with_reducible repeat first | refine Qd ?_ | refine Qc ?_
 have R:listC regs l=0:=by unfold listC;rw[if_neg hbig];exact QcT (fun k y hy=>hall k y (by have:=(Zi hy).1;omega) hy)
 exact Qu (t:=4) h25 rfl rfl ⟨by rw[R],hW11.bel⟩
theorem QaL {n:Nat}{l:List (TT n)}{p:Option Addr}{c:Nat}{regs:Int}{w:World}(hl0:(Qm n).In w All l [.slice p l.length c]) (hs0:Qcm l) :
 Rd prog 172 #[.slice p l.length c,.int .i64 regs] w (.int .i64 (listC regs l)):=by
 have hl:Hid _:=hl0;have hs:Hid _:=hs0;have hsb:=hs0.1;clear hl0 hs0;refine QC (n:=24) func172 rfl rfl rfl <| fun a hF=>?_
 have hW:=Wd.start w;replace hF:Fr 24 a [(0,.slice p l.length c),(1,.int .i64 regs)]:=hF;refine wp_seq_k fun K1 hK1=>rg hF fun ops=>sa trivial rfl rfl <| St.nil fun a2 h2=>hK1 _ _ <| wp_seq_k fun K3 hK3=>wp_seq_k fun K4 hK4=>rg h2 fun ops=>sm trivial rfl rfl <| Qbe trivial rfl rfl <| sgt trivial rfl rfl rfl <| St.nil fun a5 h5=>hK4 _ _ <| QE (t:=10) h5 rfl (fun hb=>?_) (fun hb=>?_)
 ·have hbig:8<l.length:=by have:=of_decide_eq_true hb;omega
  clear hb;refine wp_seq_k fun K6 hK6=>rg h5 fun ops=>sa trivial rfl rfl <| St.nil fun a7 h7=>hK6 _ _ ?_
  refine wp_ret ?_;with_reducible repeat first | refine Qd ?_ | refine Qc ?_
  have R:listC regs l=2:=by unfold listC;rw[if_pos hbig]
  exact Qu (t:=4) h7 rfl rfl ⟨by rw[R],hW.bel⟩
 have hbig:¬ (8<l.length):=by have:=of_decide_eq_false hb;omega
 clear hb;refine wp_skip <| hK3 _ _ <| wp_seq_k fun K8 hK8=>wp_seq_k fun K9 hK9=>rg h5 fun ops=>sm trivial rfl rfl <| Qbe trivial rfl rfl <| sm trivial rfl rfl <| St.nil fun a10 h10=>hK9 _ _ <| wp_block <| Qay (fun r a w'=>∃ q:Nat,q≤l.length∧r=l.length - q∧(∀ (j:Nat) y,j<q→l[j]?=some y→y.check regs=0)∧Fr 24 a [(1,.int .i64 regs),(0,.slice p l.length c),(4,.int .i64 0),(11,.slice p l.length c),(12,.int .i64 (l.length:Int)),(13,.int .i64 (q:Int))]∧Wd w w' []) (l.length) ⟨0,Nat.zero_le _,rfl,(fun j y hj=>by omega),(h10.keep (h10.keep (h10.keep (h10.keep (h10.keep (h10.keep h10.nil (t:=13) rfl) (t:=12) rfl) (t:=11) rfl) (t:=4) rfl) (t:=0) rfl) (t:=1) rfl),hW⟩ ?_
 clear h10 hW;rintro r a11 w11 ⟨q,hq,hr,hall,hF11,hW11⟩ KL hKL;refine wp_seq_k fun K12 hK12=>rg hF11 fun ops=>slt trivial rfl rfl rfl <| St.nil fun a13 h13=>hK12 _ _ <| wp_seq_k fun K14 hK14=>QE (t:=14) h13 rfl (fun hb=>?_) (fun hb=>?_)
 ·have hlt1:q<l.length:=by have:=of_decide_eq_true hb;omega
  clear hb;obtain⟨t,hx1⟩:∃ v9,(l)[q]?=some v9:=⟨_,Zg hlt1⟩
  obtain⟨g1,o1,pt1,ct1,hp1,E1,In1⟩:=Qiz (QJ hl.out).1 hx1
  replace In1:Hid _:=In1;replace hp1:Hid _:=hp1;replace hx1:Hid _:=hx1;replace E1:Hid _:=E1;refine wp_skip <| hK14 _ _ <| wp_seq_k fun K15 hK15=>wp_block <| wp_seq_k fun K16 hK16=>rg h13 fun ops=>Qdb hp1.out hlt1 trivial rfl rfl rfl <| sSE underlying79 rfl (Q0 E1.out hW11.bel) infType trivial rfl rfl <| QhH hW11 trivial rfl <| fun w17 B17 hW17 hN=>sT 0 hW17 rfl rfl infType rfl rfl rfl <| fun w18 hW18=>St.nil fun a19 h19=>hK16 _ _ <| wp_seq_k fun K20 hK20=>rg h19 fun ops=>sS 0 3 underlying79 rfl infType hW18 trivial rfl rfl rfl rfl <| sm trivial rfl rfl <| Qhv cf165 hW18 (Qjc (c:=ct1) (regs:=regs) (TIn.below In1.out hW18.bel) (hs.out.2 _ (Zm hx1.out))) trivial rfl rfl rfl <| fun w21 hW21=>sa trivial rfl rfl <| St.nil fun a22 h22=>hK20 _ _ <| wp_seq_k fun K23 hK23=>rg h22 fun ops=>sm trivial rfl rfl <| sne trivial rfl rfl rfl <| St.nil fun a24 h24=>hK23 _ _ <| QE (t:=21) h24 rfl (fun hb=>?_) (fun hb=>?_)
  ·have h9:¬ (t.check regs)=0:=bne_iff_ne.1 hb
   have hne:¬ (t.check regs)=0:=h9;clear h9;clear hb;refine wp_seq_k fun K25 hK25=>rg h24 fun ops=>sm trivial rfl rfl <| sa trivial rfl rfl <| St.nil fun a26 h26=>hK25 _ _ ?_
   refine wp_ret ?_;with_reducible repeat first | refine Qd ?_ | refine Qc ?_
   have R:listC regs l=t.check regs:=by unfold listC;rw[if_neg hbig];exact QcU hx1.out (fun k y hk hy=>hall k y hk hy) hne
   exact Qu (t:=4) h26 rfl rfl ⟨by rw[R],hW21.bel⟩
  have h9:(t.check regs)=0:=bne_eq_false_iff_eq.1 hb;have hne:Hid ((t.check regs)=0):=h9;clear h9;clear hb;refine wp_skip <| hK15 _ _ <| rg h24 fun ops=>sad (by omega) trivial rfl rfl rfl <| sm trivial rfl rfl <| St.nil fun a27 h27=>hKL _ _ (l.length - (q+1)) (by omega) ⟨q+1,by omega,rfl,?_,(h27.keep (h27.keep (h27.keep (h27.keep (h27.keep (h27.keep h27.nil (t:=13) rfl) (t:=12) rfl) (t:=11) rfl) (t:=4) rfl) (t:=0) rfl) (t:=1) rfl),hW21.tail⟩
  ·intro j y hj hy
   by_cases e:j=q
   ·subst e;rw[hx1.out] at hy;cases hy;exact hne.out
   ·exact hall j y (by omega) hy
 have hge:q=l.length:=by have:=of_decide_eq_false hb;omega
 clear hb;refine wp_exit <| hK8 _ _ <| wp_seq_k fun K28 hK28=>rg h13 fun ops=>sa trivial rfl rfl <| St.nil fun a29 h29=>hK28 _ _ ?_
 refine wp_ret ?_;with_reducible repeat first | refine Qd ?_ | refine Qc ?_
 have R:listC regs l=0:=by unfold listC;rw[if_neg hbig];exact QcT (fun k y hy=>hall k y (by have:=(Zi hy).1;omega) hy)
 exact Qu (t:=4) h29 rfl rfl ⟨by rw[R],hW11.bel⟩
theorem QaI {xc xp:Int}{w:World} :
 Rd prog 138 #[.int .i64 xc,.int .i64 xp] w (QX (atF xc xp)):=by
 refine QC (n:=11) func138 rfl rfl rfl <| fun a hF=>?_
 have hW:=Wd.start w;replace hF:Fr 11 a [(0,.int .i64 xc),(1,.int .i64 xp)]:=hF;refine wp_seq_k fun K1 hK1=>rg hF fun ops=>ZP hW trivial rfl <| fun w2 B2 hW2 hN=>St.nil fun a3 h3=>hK1 _ _ <| wp_seq_k fun K4 hK4=>wp_seq_k fun K5 hK5=>rg h3 fun ops=>sm trivial rfl rfl <| seq trivial rfl rfl rfl <| St.nil fun a6 h6=>hK5 _ _ <| QE (t:=6) h6 rfl (fun hb=>?_) (fun hb=>?_)
 ·have h9:xc=0:=eq_of_beq hb
  have hc7:Hid (xc=0):=h9;clear h9;clear hb;refine wp_seq_k fun K8 hK8=>rg h6 fun ops=>fun a9 h9=>Q7 (t:=7) (v:=.agg #[.int .i64 0,.int .i64 0]) (w':=w2) h9 rfl rfl rfl (fun K hK=>?_) ?_
  ·go_simp
   exact hK
  clear h9;intro a10 hF10;refine St.go hF10 <| sT 0 hW2 rfl rfl infFault rfl rfl rfl <| fun w11 hW11=>St.nil fun a12 h12=>hK8 _ _ ?_
  refine wp_ret ?_;with_reducible repeat first | refine Qd ?_ | refine Qc ?_
  have R:atF xc xp=(0,0):=by simp[atF,hc7.out]
  exact QQ 0 h12 hW11 rfl rfl rfl underlying30 rfl infFault ⟨by show Ending.returned (.agg #[.int .i64 0,.int .i64 0])=_;rw[R],hW11.bel⟩
 have h9:¬ xc=0:=ne_of_beq_false hb;have hc13:¬ xc=0:=h9;clear h9;clear hb;refine wp_skip <| hK4 _ _ <| wp_seq_k fun K14 hK14=>rg h6 fun ops=>sm trivial rfl rfl <| sm trivial rfl rfl <| fun a15 h15=>Q7 (t:=10) (v:=.agg #[.int .i64 xc,.int .i64 xp]) (w':=w2) h15 rfl rfl rfl (fun K hK=>?_) ?_
 ·have k0:a15.tmps[8]?.getD undef=.int .i64 xc:=h15.sl2 8 _ rfl
  have k1:a15.tmps[9]?.getD undef=.int .i64 xp:=h15.sl2 9 _ rfl;go_simp;exact hK
 clear h15;intro a16 hF16;refine St.go hF16 <| sT 0 hW2 rfl rfl infFault rfl rfl rfl <| fun w17 hW17=>St.nil fun a18 h18=>hK14 _ _ ?_
 refine wp_ret ?_;with_reducible repeat first | refine Qd ?_ | refine Qc ?_
 have R:atF xc xp=(xc,xp):=by simp[atF,hc13]
 exact QQ 0 h18 hW17 rfl rfl rfl underlying30 rfl infFault ⟨by show Ending.returned (.agg #[.int .i64 xc,.int .i64 xp])=_;rw[R],hW17.bel⟩
theorem Qa1 {xc xp:Int}{w:World} :
 Rd prog 50 #[.int .i64 xc,.int .i64 xp] w (QX (xc,xp)):=by
 refine QC (n:=8) func50 rfl rfl rfl <| fun a hF=>?_
 have hW:=Wd.start w;replace hF:Fr 8 a [(0,.int .i64 xc),(1,.int .i64 xp)]:=hF;refine wp_seq_k fun K1 hK1=>rg hF fun ops=>ZP hW trivial rfl <| fun w2 B2 hW2 hN=>St.nil fun a3 h3=>hK1 _ _ <| wp_seq_k fun K4 hK4=>rg h3 fun ops=>sm trivial rfl rfl <| sm trivial rfl rfl <| fun a5 h5=>Q7 (t:=7) (v:=.agg #[.int .i64 xc,.int .i64 xp]) (w':=w2) h5 rfl rfl rfl (fun K hK=>?_) ?_
 ·have k0:a5.tmps[5]?.getD undef=.int .i64 xc:=h5.sl2 5 _ rfl
  have k1:a5.tmps[6]?.getD undef=.int .i64 xp:=h5.sl2 6 _ rfl;go_simp;exact hK
 clear h5;intro a6 hF6;refine St.go hF6 <| sT 0 hW2 rfl rfl infFault rfl rfl rfl <| fun w7 hW7=>St.nil fun a8 h8=>hK4 _ _ ?_
 refine wp_ret ?_;with_reducible repeat first | refine Qd ?_ | refine Qc ?_
 exact QQ 0 h8 hW7 rfl rfl rfl underlying30 rfl infFault ⟨rfl,hW7.bel⟩
theorem QhR {tk tr:Int}{tp:Option Addr}{tl tc:Nat}{w:World} :
 Rd prog 206 #[.agg #[.int .i64 tk,.int .i64 tr,.slice tp tl tc]] w (.bool (tk != 1)):=by
 refine QC (n:=6) func206 rfl rfl rfl <| fun a hF=>?_
 have hW:=Wd.start w;replace hF:Fr 6 a [(0,.agg #[.int .i64 tk,.int .i64 tr,.slice tp tl tc])]:=hF;refine wp_seq_k fun K1 hK1=>rg hF fun ops=>sB hW trivial rfl rfl <| fun w2 B2 hW2 hN=>sa trivial rfl rfl <| St.nil fun a3 h3=>hK1 _ _ <| wp_seq_k fun K4 hK4=>rg h3 fun ops=>Qkc trivial rfl rfl <| ZK 0 hW2 trivial rfl rfl rfl rfl <| sne trivial rfl rfl rfl <| sa trivial rfl rfl <| St.nil fun a5 h5=>hK4 _ _ ?_
 refine wp_ret ?_;with_reducible repeat first | refine Qd ?_ | refine Qc ?_
 exact Qu (t:=2) h5 rfl rfl ⟨rfl,hW2.bel⟩
theorem QgI {n:Nat}{l:List (TT n)}{p:Option Addr}{c:Nat}{w:World}(hl0:(Qm n).In w All l [.slice p l.length c]) (hsb:l.length≤100000) :
 Rd prog 222 #[.slice p l.length c,.func (.func 206) #[] #[]] w (.int .i64 (Qe4 0 l)):=by
 have hl:Hid _:=hl0;clear hl0;refine QC (n:=19) func222 rfl rfl rfl <| fun a hF=>?_
 have hW:=Wd.start w;replace hF:Fr 19 a [(0,.slice p l.length c),(1,.func (.func 206) #[] #[])]:=hF;refine wp_seq_k fun K1 hK1=>rg hF fun ops=>sa trivial rfl rfl <| St.nil fun a2 h2=>hK1 _ _ <| wp_seq_k fun K3 hK3=>wp_seq_k fun K4 hK4=>rg h2 fun ops=>sm trivial rfl rfl <| Qbe trivial rfl rfl <| sm trivial rfl rfl <| St.nil fun a5 h5=>hK4 _ _ <| wp_block <| Qay (fun r a w'=>∃ q:Nat,q≤l.length∧r=l.length - q∧(∀ (j:Nat) y,j<q→l[j]?=some y→y.kind=1)∧Fr 19 a [(1,.func (.func 206) #[] #[]),(0,.slice p l.length c),(4,.int .i64 0),(7,.int .i64 (l.length:Int)),(8,.int .i64 (q:Int))]∧Wd w w' []) (l.length) ⟨0,Nat.zero_le _,rfl,(fun j y hj=>by omega),(h5.keep (h5.keep (h5.keep (h5.keep (h5.keep h5.nil (t:=8) rfl) (t:=7) rfl) (t:=4) rfl) (t:=0) rfl) (t:=1) rfl),hW⟩ ?_
 clear h5 hW;rintro r a6 w6 ⟨q,hq,hr,hall,hF6,hW6⟩ KL hKL;refine wp_seq_k fun K7 hK7=>rg hF6 fun ops=>slt trivial rfl rfl rfl <| St.nil fun a8 h8=>hK7 _ _ <| wp_seq_k fun K9 hK9=>QE (t:=9) h8 rfl (fun hb=>?_) (fun hb=>?_)
 ·have hlt1:q<l.length:=by have:=of_decide_eq_true hb;omega
  clear hb;obtain⟨t,hx1⟩:∃ v9,(l)[q]?=some v9:=⟨_,Zg hlt1⟩
  obtain⟨g1,o1,pt1,ct1,hp1,E1,In1⟩:=Qiz (QJ hl.out).1 hx1
  replace In1:Hid _:=In1;replace hp1:Hid _:=hp1;replace hx1:Hid _:=hx1;replace E1:Hid _:=E1;refine wp_skip <| hK9 _ _ <| wp_seq_k fun K10 hK10=>wp_block <| wp_seq_k fun K11 hK11=>rg h8 fun ops=>sm trivial rfl rfl <| sa trivial rfl rfl <| St.nil fun a12 h12=>hK11 _ _ <| wp_seq_k fun K13 hK13=>rg h12 fun ops=>sm trivial rfl rfl <| sm trivial rfl rfl <| sm trivial rfl rfl <| Qdb hp1.out hlt1 trivial rfl rfl rfl <| sSE underlying79 rfl (Q0 E1.out hW6.bel) infType trivial rfl rfl <| Qlp cf206 hW6 (QhR) trivial rfl rfl rfl <| fun w14 hW14=>St.nil fun a15 h15=>hK13 _ _ <| QE (t:=16) h15 rfl (fun hb=>?_) (fun hb=>?_)
  ·have h9:¬ t.kind=1:=bne_iff_ne.1 hb
   have hne:¬ t.kind=1:=h9;clear h9;clear hb;refine wp_seq_k fun K16 hK16=>rg h15 fun ops=>sm trivial rfl rfl <| sa trivial rfl rfl <| St.nil fun a17 h17=>hK16 _ _ ?_
   refine wp_ret ?_;with_reducible repeat first | refine Qd ?_ | refine Qc ?_
   have R:Qe4 0 l=(q:Int):=by have:=Qg8 l q 0 t hx1.out (fun k y hk hy=>hall k y hk hy) hne;rwa [Nat.zero_add] at this
   exact Qu (t:=4) h17 rfl rfl ⟨by rw[R],hW14.bel⟩
  have h9:t.kind=1:=bne_eq_false_iff_eq.1 hb;have hne:Hid (t.kind=1):=h9;clear h9;clear hb;refine wp_skip <| hK10 _ _ <| rg h15 fun ops=>sad (by omega) trivial rfl rfl rfl <| sm trivial rfl rfl <| St.nil fun a18 h18=>hKL _ _ (l.length - (q+1)) (by omega) ⟨q+1,by omega,rfl,?_,(h18.keep (h18.keep (h18.keep (h18.keep (h18.keep h18.nil (t:=8) rfl) (t:=7) rfl) (t:=4) rfl) (t:=0) rfl) (t:=1) rfl),hW14⟩
  ·intro j y hj hy
   by_cases e:j=q
   ·subst e;rw[hx1.out] at hy;cases hy;exact hne.out
   ·exact hall j y (by omega) hy
 have hge:q=l.length:=by have:=of_decide_eq_false hb;omega
 clear hb;refine wp_exit <| hK3 _ _ <| wp_seq_k fun K19 hK19=>rg h8 fun ops=>sa trivial rfl rfl <| St.nil fun a20 h20=>hK19 _ _ ?_
 refine wp_ret ?_;with_reducible repeat first | refine Qd ?_ | refine Qc ?_
 have R:Qe4 0 l=-1:=Qiq l 0 (fun k y hy=>hall k y (by have:=(Zi hy).1;omega) hy);exact Qu (t:=4) h20 rfl rfl ⟨by rw[R],hW6.bel⟩
theorem QdL {n:Nat}{l:List (TT n)}{p:Option Addr}{c:Nat}{w:World}(hl0:(Qm n).In w All l [.slice p l.length c]) (hsb:l.length≤100000) :
 Rd prog 205 #[.slice p l.length c,.func (.func 206) #[] #[]] w (.bool (decide (0≤Qe4 0 l))):=by
 have hl:Hid _:=hl0;clear hl0;refine QC (n:=9) func205 rfl rfl rfl <| fun a hF=>?_
 have hW:=Wd.start w;replace hF:Fr 9 a [(0,.slice p l.length c),(1,.func (.func 206) #[] #[])]:=hF;refine wp_seq_k fun K1 hK1=>rg hF fun ops=>sa trivial rfl rfl <| St.nil fun a2 h2=>hK1 _ _ <| wp_seq_k fun K3 hK3=>rg h2 fun ops=>sm trivial rfl rfl <| sm trivial rfl rfl <| Qhv cf222 hW (QgI (Lay.below hl.out hW.bel) hsb) trivial rfl rfl rfl <| fun w4 hW4=>sge trivial rfl rfl rfl <| sa trivial rfl rfl <| St.nil fun a5 h5=>hK3 _ _ ?_
 refine wp_ret ?_;with_reducible repeat first | refine Qd ?_ | refine Qc ?_
 exact Qu (t:=4) h5 rfl rfl ⟨rfl,hW4.bel⟩
theorem size_any:∀ (n:Nat) (t:TT n) (a:Option Addr) (c:Nat) (w:World) (left:Int),TIn w All t a→0≤left→left≤2000 →
 Calls prog 136 #[Tv t a c,.int .i64 left] w fun e w'=>e=.returned (.int .i64 (max (-1) (left - t.count)))∧Below w.heap.size w w':=by
 intro n
 induction n with
 | zero=>intro t;exact Empty.elim t
 | succ n ih =>
   intro t a c w left ht h0 h1
   have IH:Hid (∀ (t:TT n) (a:Option Addr) (c:Nat) (w:World) (left:Int),TIn w All t a→0≤left→left≤2000 →
    Calls prog 136 #[Tv t a c,.int .i64 left] w fun e w'=>e=.returned (.int .i64 (max (-1) (left - t.count)))∧Below w.heap.size w w'):=ih
   clear ih;have hT:Hid (LIn w All t.2.2 a):=ht.list;have hc:t.count=1+(t.2.2.map TT.count).sum:=rfl;rw[hc]
   clear hc;simp only[Tv,TT.len_eq]
   generalize t.2.2=l at hT ⊢;generalize t.kind=k;generalize t.r=r;clear ht t;go_enter func136,ntmps136
   go_wp2_with fail
   have X0:Hid (Bx w (w.alloc (.cells #[.int .i64 k,.int .i64 r,.slice a l.length c] 79)) k r a l.length c):=Bx.start w k r a l.length c;generalize w.alloc (.cells #[.int .i64 k,.int .i64 r,.slice a l.length c] 79)=w1 at X0 ⊢;go_loopw [1,5] (fun lf i wr=>∃ q:Nat,q≤l.length∧i=.int .i64 q∧lf=.int .i64 (max (-1) (left - 1 - (((l.map TT.count).take q).sum:Nat)))∧Bx w wr k r a l.length c) (fun _ i _=>l.length - (intOf i).toNat)
   case atStart=>exact⟨0,Nat.zero_le _,rfl,by simp;omega,X0.out⟩
   case round =>
    clear X0;obtain⟨q,hq,rfl,rfl,hX⟩:=hrel
    generalize hs:(((l.map TT.count).take q).sum:Nat)=s;have e2:wr.cell? ⟨w.heap.size,2,none⟩=some (.slice a l.length c):=Qb hX.box 2 _ rfl;have X1:Hid (Bx w wr k r a l.length c):=hX;by_cases hlt:q<l.length
    ·by_cases hge:0≤max (-1) (left - 1 - (s:Int))
     ·have hx:l[q]?=some l[q]:=Zg hlt;generalize l[q]=x at hx;obtain⟨g,o,a',c',rfl,_,d0,d1,d2,hk⟩:=LIn.at (hT.out.below hX.bel) hx
      have H:Hid (TIn wr All x a'):=hk;have hS:=QdS TT.count l q x hx;rw[hs] at hS
      have HS:Hid (((l.map TT.count).take (q+1)).sum=s+x.count):=hS;have S:Hid (max (-1) (left - 1 - (s:Int))≤2000):=by show _≤_;omega
      clear hX hk hx hS;generalize hm:max (-1) (left - 1 - (s:Int))=m at hge S;have M:Hid (max (-1) (left - 1 - (s:Int))=m):=hm;clear hm;have hk0:(0:Int)≤q:=by omega
      have hk1:(q:Int)<l.length:=by omega
      have hk2:(q:Int)<2000:=by
       have h3:=length_le_sum ((l.map TT.count).take q) (fun y hy=>by obtain⟨z,_,rfl⟩:=List.mem_map.1 (List.mem_of_mem_take hy);exact z.count_pos);have h4:=M.out;rw[List.length_take,List.length_map] at h3
       omega
      clear hs;go_wp2_with fail
      refine(IH.out x a' c' _ m H.out hge S.out).mono ?_
      rintro e w2 ⟨rfl,b2⟩;have X2:Hid (Bx w w2 k r (some ⟨g,o,none⟩) l.length c):=X1.out.below b2;clear X1;go_wp2
      go_roundw
      case rel=>exact⟨q+1,by omega,by go_num,by rw[HS.out];have:=M.out;have:=x.count_pos;congr 1;omega,X2.out⟩
      case measure=>simp[intOf];omega
     ·have F:Hid (max (-1) (left - 1 - (s:Int))=max (-1) (left - ((1+(l.map TT.count).sum:Nat):Int))):=by
       have:=QfP (l.map TT.count) q
       show _=_;omega
      have hge':max (-1) (left - 1 - (s:Int))<0:=by omega
      generalize max (-1) (left - 1 - (s:Int))=m at F hge' ⊢;clear hge hs;have hk1:(q:Int)<l.length:=by omega
      go_wp2
      go_ret;exact⟨by show Ending.returned (.int .i64 m)=_;have:=F.out;congr 2,X1.out.bel⟩
    ·have F:Hid (max (-1) (left - 1 - (s:Int))=max (-1) (left - ((1+(l.map TT.count).sum:Nat):Int))):=by
      rw[List.take_of_length_le (by simp;omega)] at hs
      show _=_;omega
     generalize max (-1) (left - 1 - (s:Int))=m at F ⊢;clear hs;have hk1:¬ (q:Int)<l.length:=by omega
     go_wp2
     go_ret;exact⟨by show Ending.returned (.int .i64 m)=_;have:=F.out;congr 2,X1.out.bel⟩
theorem Qik (n:Nat) (t:TT n) (a:Option Addr) (c:Nat) (w:World) (ht:TIn w All t a) :
 Calls prog 83 #[Tv t a c] w fun e w'=>e=.returned (.bool (decide (2000<t.count)))∧Below w.heap.size w w':=by
 have C:Hid (∀ wx,Below w.heap.size w wx→Calls prog 136 #[Tv t a c,.int .i64 2000] wx fun e w'=>e=.returned (.int .i64 (max (-1) (2000 - (t.count:Int))))∧Below wx.heap.size wx w') :=
  fun wx hb=>size_any n t a c wx 2000 (ht.below hb) (by omega) (by omega)
 clear ht;simp only[Tv] at C ⊢
 generalize t.kind=k at C ⊢;generalize t.r=r at C ⊢;generalize t.len=len at C ⊢;generalize t.count=q at C ⊢;go_enter func83,ntmps83
 go_wp2_with fail
 refine(C.out _ ((Below.refl _ w).alloc Ze _)).mono ?_
 rintro e w2 ⟨rfl,b2⟩;have B:Hid (Below w.heap.size w w2):=((Below.refl _ w).alloc Ze _).trans (b2.mono (by simp));have F:Hid (max (-1) (2000 - (q:Int))<0↔2000<q):=by show _↔_;omega
 generalize max (-1) (2000 - (q:Int))=m at F ⊢;clear b2 C;go_wp2
 go_ret;exact⟨by show Ending.returned (.bool (decide (m<0)))=_;rw[decide_eq_decide.2 F.out],B.out⟩
structure GbS (w wx:World) (l:List (Nat × Array Value × TypeId)):Prop where
 bel:Below w.heap.size w wx
 box:∀ (i:Nat) b,l[i]?=some b→Blk wx b.1 b.2.1 b.2.2
theorem GbS.below {w wx w':World}{l:List (Nat × Array Value × TypeId)}(h:GbS w wx l) (k:Below wx.heap.size wx w'):GbS w w' l:=⟨h.bel.trans (k.mono h.bel.size),fun i b hb=>(h.box i b hb).below k⟩
theorem GbS.add {w wx:World}{l:List (Nat × Array Value × TypeId)}(h:GbS w wx l){B:Nat}{c:Array Value}{t:TypeId}(hb:Blk wx B c t):GbS w wx ((B,c,t)::l) :=
 ⟨h.bel,fun i b hi=>by
  cases i with
  | zero=>cases hi;exact hb
  | succ i=>exact h.box i b hi⟩
theorem GbS.drop {w wx:World}{l:List (Nat × Array Value × TypeId)}{e:Nat × Array Value × TypeId}(h:GbS w wx (e::l)):GbS w wx l:=⟨h.bel,fun i b hb=>h.box (i+1) b hb⟩
theorem GbS.new {w wx:World}{l:List (Nat × Array Value × TypeId)}(h:GbS w wx l) (c:Array Value) (t:TypeId):GbS w (wx.alloc (.cells c t)) ((wx.heap.size,c,t)::l):=(h.below (QN _ _)).add (Blk.new _ _ _)
theorem Qav (n:Nat) (l:List (TT n)) (p:Option Addr) (c:Nat) (w:World) (hl0:LIn w All l p) :
 Rd prog 36 #[.slice p l.length c] w (.bool (bdec (Zz l))):=by
 have HL:=QH hl0;clear hl0;unfold Rd;go_enter func36,ntmps36
 by_cases h2:200<l.length
 ·have d:(200:Int)<l.length:=by omega
  have E:=QG (A:=Zz l) (.inl h2);go_wp2_with fail
  go_ret;exact⟨by first | rfl | (rw[E];done) | (rw[E];rfl),Zr⟩
 have d:¬ (200:Int)<l.length:=by omega
 go_wp2_with fail
 go_loopw [3] (fun i wr=>∃ k:Nat,k≤l.length∧i=.int .i64 k∧Below w.heap.size w wr∧∀ (j:Nat) t,j<k→l[j]?=some t→¬ 2000<t.count) (fun i _=>l.length - (intOf i).toNat)
 case atStart=>exact⟨0,Nat.zero_le _,rfl,Zr,fun j z hj=>absurd hj (Nat.not_lt_zero _)⟩
 case round =>
  obtain⟨k,hk,rfl,hb,hall⟩:=hrel
  have HB:=QH hb;have HAQ:=QH hall;clear hb hall;by_cases hkt:k<l.length
  rotate_left
  ·have hkt':¬ (k:Int)<l.length:=by omega
   have E:bdec (Zz l)=false:=Qx (by
    rintro (h | ⟨t,ht,h⟩)
    ·exact h2 h
    ·obtain⟨j,hj⟩:=List.mem_iff_getElem?.1 ht
     exact HAQ.out j t (by have:=(Zi hj).1;omega) hj h)
   go_wp2_with fail
   go_ret;exact⟨by first | rfl | (rw[E];done) | (rw[E];rfl),HB.out⟩
  have hkt':(k:Int)<l.length:=by omega
  have ht:l[k]?=some l[k]:=Zg hkt;generalize l[k]=t at ht;have HT:=QH ht;obtain⟨gt,ot,ta,tc,rfl,-,v0,v1,v2,hti⟩:=(show LIn wr All l p from HL.out.below HB.out).at ht
  have CG:=QH (Qik n t ta tc wr hti);clear ht hti;go_wp2_with fail
  refine CG.out.mono ?_;rintro _ w2 ⟨rfl,b2⟩;have HB2:=QH (HB.out.trans (b2.mono HB.out.size));clear b2 CG v0 v1 v2 HB;by_cases h9:2000<t.count
  ·rw[decide_eq_true h9]
   have E:=QG (A:=Zz l) (.inr ⟨t,Zm HT.out,h9⟩);go_wp2_with fail
   go_ret;exact⟨by first | rfl | (rw[E];done) | (rw[E];rfl),HB2.out⟩
  ·rw[decide_eq_false h9]
   go_wp2_with fail
   go_roundw
   case rel =>
    refine⟨k+1,by omega,by go_num,HB2.out,fun j u hj hu=>?_⟩
    by_cases hjk:j<k
    ·exact HAQ.out j u hjk hu
    ·have:j=k:=by omega
     subst this;rw[HT.out] at hu
     cases hu
     exact h9
   case measure=>simp[intOf];omega
def Qg.much {n:Nat}(x:Qg n):Prop:=30<x.blocks.length∨Zz x.params∨Zz x.results
def Qh.much {n:Nat}(x:Qh n):Prop:=200<x.code.length∨Zz x.params∨300<x.fin.args.length∨300<x.fin.yes.regs.length∨300<x.fin.yes.args.length∨300<x.fin.no.regs.length∨300<x.fin.no.args.length
theorem Qao (n:Nat) (m:List (Qg n)) (p:Option Addr) (c:Nat) (w:World) (hm0:(Qaq n).In w All m [.slice p m.length c]) :
 Rd prog 9 #[.agg #[.slice p m.length c]] w (.bool (bdec (QW m))):=by
 have HM:=QH hm0;have S:Hid (GbS w (w.alloc (.cells #[.slice p m.length c] 24)) [(w.heap.size,#[.slice p m.length c],24)]):=GbS.new ⟨Zr,fun i b hb=>by simp at hb⟩ _ _;clear hm0;unfold Rd;go_enter func9,ntmps9
 go_upto_region 1 with fail
 generalize w.alloc (.cells #[.slice p m.length c] 24)=w1 at S ⊢;generalize w.heap.size=X at S ⊢;have x0:=Qb (S.out.box 0 _ rfl) 0 _ rfl;by_cases c1:20<m.length
 ·have d:(20:Int)<m.length:=by omega
  have E:=QG (A:=QW m) (.inl c1);have HB:=QH S.out.bel;clear S;go_wp2_with fail
  go_ret;exact⟨by first | rfl | (rw[E];done) | (rw[E];rfl),HB.out⟩
 have d:¬ (20:Int)<m.length:=by omega
 go_wp2_with fail
 clear x0;go_loopw [3] (fun i wr=>∃ k:Nat,k≤m.length∧i=.int .i64 k∧GbS w wr [(X,#[.slice p m.length c],24)]∧∀ (j:Nat) f,j<k→m[j]?=some f→¬ f.great) (fun i _=>m.length - (intOf i).toNat)
 case atStart=>exact⟨0,Nat.zero_le _,rfl,S.out,fun j z hj=>absurd hj (Nat.not_lt_zero _)⟩
 case round =>
  obtain⟨k,hk,rfl,hs,hall⟩:=hrel
  have SR:=QH hs;have HAQ:=QH hall;clear hs hall S;obtain⟨wf,hwf⟩:∃ wf,wf=wr:=⟨_,rfl⟩
  subst hwf;have x0:=Qb (SR.out.box 0 _ rfl) 0 _ rfl;by_cases hkt:k<m.length
  rotate_left
  ·have hkt':¬ (k:Int)<m.length:=by omega
   have E:bdec (QW m)=false:=Qx (by
    rintro (h | ⟨t,ht,h⟩)
    ·exact c1 h
    ·obtain⟨j,hj⟩:=List.mem_iff_getElem?.1 ht
     exact HAQ.out j t (by have:=(Zi hj).1;omega) hj h)
   have HB:=QH SR.out.bel;clear SR;go_wp2_with fail
   go_ret;exact⟨by first | rfl | (rw[E];done) | (rw[E];rfl),HB.out⟩
  have hkt':(k:Int)<m.length:=by omega
  have hxk:m[k]?=some m[k]:=Zg hkt;generalize m[k]=x at hxk;have HXK:=QH hxk;have YES:Hid (x.great→bdec (QW m)=true):=fun h=>QG (.inr ⟨x,Zm HXK.out,h⟩);obtain⟨g1,o1,f1,rfl,E1,In1⟩:=QcZ HM.out hxk
  have HI1:=QH In1;have R1:Hid (wf.rangeAt g1 (o1+k*4) [.int .i64 x.regs,.slice f1.pP x.params.length f1.cP,.slice f1.pR x.results.length f1.cR,.slice f1.pB x.blocks.length f1.cB]):=fun j v hj=>Qi (E1 j v hj) SR.out.bel;have v0:wf.cell? ⟨g1,o1+k*4,none⟩=some (.int .i64 x.regs):=R1.out 0 _ rfl;have v1:=R1.out 1 _ rfl;have v2:=R1.out 2 _ rfl;have v3:=R1.out 3 _ rfl;have S6:=QH (SR.out.new #[.int .i64 x.regs,.slice f1.pP x.params.length f1.cP,.slice f1.pR x.results.length f1.cR,.slice f1.pB x.blocks.length f1.cB] 55);clear hxk E1 In1 R1 SR;go_upto_region 7 with fail
  generalize wf.alloc (.cells #[.int .i64 x.regs,.slice f1.pP x.params.length f1.cP,.slice f1.pR x.results.length f1.cR,.slice f1.pB x.blocks.length f1.cB] 55)=w6 at S6 ⊢;generalize wf.heap.size=Y at S6 ⊢;clear v0 v1 v2 v3 x0;generalize hL:([(Y,#[.int .i64 x.regs,.slice f1.pP x.params.length f1.cP,.slice f1.pR x.results.length f1.cR,.slice f1.pB x.blocks.length f1.cB],55),(X,#[.slice (some ⟨g1,o1,none⟩) m.length c],24)]:List (Nat × Array Value × TypeId))=L at S6;have BX:Hid (∀ wx,GbS w wx L→Blk wx Y #[.int .i64 x.regs,.slice f1.pP x.params.length f1.cP,.slice f1.pR x.results.length f1.cR,.slice f1.pB x.blocks.length f1.cB] 55∧GbS w wx [(X,#[.slice (some ⟨g1,o1,none⟩) m.length c],24)]):=by subst hL;exact fun wx h=>⟨h.box 0 _ rfl,h.drop⟩
  clear hL;have q1:=Qb (BX.out _ S6.out).1 1 _ rfl;have q2:=Qb (BX.out _ S6.out).1 2 _ rfl;have q3:=Qb (BX.out _ S6.out).1 3 _ rfl;go_cut [37] (fun v wx=>v=.bool (bdec x.much)∧GbS w wx L)
  case first =>
   by_cases h:30<x.blocks.length
   ·have d1:decide ((x.blocks.length:Int)>30)=true:=decide_eq_true (by omega);have E:=QG (A:=x.much) (.inl h);go_wp2
    go_meet;exact⟨by first | rfl | (rw[E];done) | (rw[E];rfl),S6.out⟩
   have d1:decide ((x.blocks.length:Int)>30)=false:=decide_eq_false (by omega);have CP:=QH (Qav n x.params f1.pP f1.cP w6 (QJ (Lay.below HI1.out.params S6.out.bel)).1);unfold Rd at CP;by_cases hp:Zz x.params
   ·have E:=QG (A:=x.much) (.inr (.inl hp));rw[QG hp] at CP
    go_wp2_with fail
    refine CP.out.mono ?_;rintro _ wa ⟨rfl,ba⟩;have SA:=QH (S6.out.below ba);clear ba CP;go_wp2
    go_meet;exact⟨by first | rfl | (rw[E];done) | (rw[E];rfl),SA.out⟩
   rw[Qx hp] at CP
   go_wp2_with fail
   refine CP.out.mono ?_;rintro _ wa ⟨rfl,ba⟩;have SA:=QH (S6.out.below ba);clear ba CP q1 q2 q3;have q2:=Qb (BX.out _ SA.out).1 2 _ rfl;have CR:=QH (Qav n x.results f1.pR f1.cR wa (QJ (Lay.below HI1.out.results SA.out.bel)).1);unfold Rd at CR
   have E:bdec x.much=bdec (Zz x.results):=by
    by_cases hr:Zz x.results
    ·rw[QG hr];exact QG (.inr (.inr hr))
    ·rw[Qx hr];exact Qx (fun e=>by rcases e with e | e | e;exact h e;exact hp e;exact hr e)
   go_wp2_with fail
   refine CR.out.mono ?_;rintro _ wb ⟨rfl,bb⟩;have SB:=QH (SA.out.below bb);clear bb CR q2;go_wp2
   all_goals
    go_meet;exact⟨by first | rfl | (rw[E];done) | (rw[E];rfl),SB.out⟩
  case rest =>
   obtain⟨rfl,hc⟩:=hcut
   have S7:=QH hc;clear hc S6 q1 q2 q3;by_cases c2:x.much
   ·rw[QG c2]
    have E:=YES.out (by rcases c2 with h | h | h;exact .inl h;exact .inr (.inl h);exact .inr (.inr (.inl h)));have HB:=QH S7.out.bel;clear S7 c2;go_wp2_with fail
    go_ret;exact⟨by first | rfl | (rw[E];done) | (rw[E];rfl),HB.out⟩
   rw[Qx c2]
   have hbl:x.blocks.length≤30:=Nat.le_of_not_lt fun h=>c2 (.inl h);go_wp2_with fail
   go_loopw [5] (fun i wr=>∃ q:Nat,q≤x.blocks.length∧i=.int .i64 q∧GbS w wr L∧∀ (j:Nat) y,j<q→x.blocks[j]?=some y→¬ y.great) (fun i _=>x.blocks.length - (intOf i).toNat)
   case atStart=>exact⟨0,Nat.zero_le _,rfl,S7.out,fun j z hj=>absurd hj (Nat.not_lt_zero _)⟩
   case round =>
    obtain⟨q,hq,rfl,hs,hall⟩:=hrel
    have SQ:=QH hs;have HBQ:=QH hall;clear hs hall S7;obtain⟨wb,hwb⟩:∃ wb,wb=wr:=⟨_,rfl⟩
    subst hwb;have q3:=Qb (BX.out _ SQ.out).1 3 _ rfl;by_cases hqt:q<x.blocks.length
    rotate_left
    ·have hqt':¬ (q:Int)<x.blocks.length:=by omega
     go_wp2_with fail
     go_roundw
     case rel =>
      refine⟨k+1,by omega,by go_num,(BX.out _ SQ.out).2,fun j f hj hf=>?_⟩
      by_cases hjk:j<k
      ·exact HAQ.out j f hjk hf
      ·have:j=k:=by omega
       subst this;rw[HXK.out] at hf
       cases hf
       rintro (h | h | h | ⟨y,hy,h⟩)
       ·exact c2 (.inl h)
       ·exact c2 (.inr (.inl h))
       ·exact c2 (.inr (.inr h))
       ·obtain⟨i,hi⟩:=List.mem_iff_getElem?.1 hy
        exact HBQ.out i y (by have:=(Zi hi).1;omega) hi h
     case measure=>simp[intOf];omega
    have hqt':(q:Int)<x.blocks.length:=by omega
    have hyq:x.blocks[q]?=some x.blocks[q]:=Zg hqt;generalize x.blocks[q]=y at hyq;have HYQ:=QH hyq;have YEB:Hid (y.great→bdec (QW m)=true):=fun h=>YES.out (.inr (.inr (.inr ⟨y,Zm HYQ.out,h⟩)));obtain⟨g2,o2,b2,e2,E2,In2⟩:=QcF HI1.out.blocks hyq
    have HI2:=QH In2;rw[e2] at q3
    generalize hcs:([.int .i64 y.regs,.slice b2.pP y.params.length b2.cP,.slice b2.pC y.code.length b2.cC,.int .i64 y.fin.op,.int .i64 y.fin.a,.int .i64 y.fin.yes.block,.slice b2.e.pYR y.fin.yes.regs.length b2.e.cYR,.slice b2.e.pYA y.fin.yes.args.length b2.e.cYA,.int .i64 y.fin.no.block,.slice b2.e.pNR y.fin.no.regs.length b2.e.cNR,.slice b2.e.pNA y.fin.no.args.length b2.e.cNA,.slice b2.e.pA y.fin.args.length b2.e.cA]:List Value)=cs at E2;have hl:cs.length=12:=by rw[← hcs];rfl
    have MB:=QH (Qla.of wb hl);have TO:Hid (cs.toArray.all (·.oneCell')=true):=by show _=_;rw[← hcs];exact all_oneCell_toArray (List.all_eq_true.1 rfl)
    have RG:Hid (wb.rangeAt g2 (o2+q*12) cs):=fun j v hj=>Qi (E2 j v hj) SQ.out.bel;clear hyq E2 In2 hl e2;go_upto_region 13 with (first | (refine wpList_load_mid rfl 84 (.tmp 48) rfl g2 (o2+q*12) rfl cs _ RG.out underlying84 rfl MB.out.size ?_) | (refine wpList_store_mid rfl 84 (.tmp 6) (.tmp 49) rfl wb.heap.size 0 cs.toArray rfl rfl MB.out.there MB.out.size2 TO.out ?_))
    have S3:=QH ((SQ.out.below MB.out.bel).add MB.out.blk);clear SQ q3 RG TO MB;generalize (wb.alloc (.cells #[.int .i64 0,.slice none 0 0,.slice none 0 0,.int .i64 0,.int .i64 0,.int .i64 0,.slice none 0 0,.slice none 0 0,.int .i64 0,.slice none 0 0,.slice none 0 0,.slice none 0 0] 84)).setCells wb.heap.size 0 cs=w3 at S3 ⊢;generalize wb.heap.size=Z at S3 ⊢;subst hcs;simp only[Act.put]
    generalize hL2:((Z,#[.int .i64 y.regs,.slice b2.pP y.params.length b2.cP,.slice b2.pC y.code.length b2.cC,.int .i64 y.fin.op,.int .i64 y.fin.a,.int .i64 y.fin.yes.block,.slice b2.e.pYR y.fin.yes.regs.length b2.e.cYR,.slice b2.e.pYA y.fin.yes.args.length b2.e.cYA,.int .i64 y.fin.no.block,.slice b2.e.pNR y.fin.no.regs.length b2.e.cNR,.slice b2.e.pNA y.fin.no.args.length b2.e.cNA,.slice b2.e.pA y.fin.args.length b2.e.cA],84)::L:List (Nat × Array Value × TypeId))=L2 at S3;have BZ:Hid (∀ wx,GbS w wx L2→Blk wx Z #[.int .i64 y.regs,.slice b2.pP y.params.length b2.cP,.slice b2.pC y.code.length b2.cC,.int .i64 y.fin.op,.int .i64 y.fin.a,.int .i64 y.fin.yes.block,.slice b2.e.pYR y.fin.yes.regs.length b2.e.cYR,.slice b2.e.pYA y.fin.yes.args.length b2.e.cYA,.int .i64 y.fin.no.block,.slice b2.e.pNR y.fin.no.regs.length b2.e.cNR,.slice b2.e.pNA y.fin.no.args.length b2.e.cNA,.slice b2.e.pA y.fin.args.length b2.e.cA] 84∧GbS w wx L):=by subst hL2;exact fun wx h=>⟨h.box 0 _ rfl,h.drop⟩
    clear hL2;have z1:=Qb (BZ.out _ S3.out).1 1 _ rfl;have z2:=Qb (BZ.out _ S3.out).1 2 _ rfl;go_cut [97] (fun v wx=>v=.bool (bdec y.much)∧GbS w wx L2)
    case first =>
     by_cases h:200<y.code.length
     ·have d1:decide ((y.code.length:Int)>200)=true:=decide_eq_true (by omega);have E:=QG (A:=y.much) (.inl h);go_wp2
      go_meet;exact⟨by first | rfl | (rw[E];done) | (rw[E];rfl),S3.out⟩
     have d1:decide ((y.code.length:Int)>200)=false:=decide_eq_false (by omega);have CP:=QH (Qav n y.params b2.pP b2.cP w3 (QJ (Lay.below HI2.out.params S3.out.bel)).1);unfold Rd at CP;by_cases hp:Zz y.params
     ·have E:=QG (A:=y.much) (.inr (.inl hp));rw[QG hp] at CP
      go_wp2_with fail
      refine CP.out.mono ?_;rintro _ wa ⟨rfl,ba⟩;have SA:=QH (S3.out.below ba);clear ba CP;go_wp2
      go_meet;exact⟨by first | rfl | (rw[E];done) | (rw[E];rfl),SA.out⟩
     rw[Qx hp] at CP
     go_wp2_with fail
     refine CP.out.mono ?_;rintro _ wa ⟨rfl,ba⟩;have SA:=QH (S3.out.below ba);clear ba CP z1 z2;have z6:=Qb (BZ.out _ SA.out).1 6 _ rfl;have z7:=Qb (BZ.out _ SA.out).1 7 _ rfl;have z9:=Qb (BZ.out _ SA.out).1 9 _ rfl;have z10:=Qb (BZ.out _ SA.out).1 10 _ rfl;have z11:=Qb (BZ.out _ SA.out).1 11 _ rfl
     have E0:Hid (bdec y.much=(decide ((y.fin.args.length:Int)>300)||(decide ((y.fin.yes.regs.length:Int)>300)||(decide ((y.fin.yes.args.length:Int)>300)||(decide ((y.fin.no.regs.length:Int)>300)||decide ((y.fin.no.args.length:Int)>300)))))):=by
      show _=_
      have e9:y.much↔((y.fin.args.length:Int)>300∨(y.fin.yes.regs.length:Int)>300∨(y.fin.yes.args.length:Int)>300∨(y.fin.no.regs.length:Int)>300∨(y.fin.no.args.length:Int)>300):=by
       unfold Qh.much;constructor
       ·rintro (e | e | e)
        ·exact absurd e h
        ·exact absurd e hp
        ·omega
       ·intro e;right;right;omega
      by_cases hy:y.much
      ·rw[QG hy];have:=e9.1 hy;simp only[← Bool.decide_or];exact(decide_eq_true this).symm
      ·rw[Qx hy];have:=fun e=>hy (e9.2 e);simp only[← Bool.decide_or];exact(decide_eq_false this).symm
     generalize y.fin.args.length=n1 at E0 z11 ⊢;generalize y.fin.yes.regs.length=n2 at E0 z6 ⊢;generalize y.fin.yes.args.length=n3 at E0 z7 ⊢;generalize y.fin.no.regs.length=n4 at E0 z9 ⊢;generalize y.fin.no.args.length=n5 at E0 z10 ⊢;by_cases k1:(n1:Int)>300
     ·have d9:decide ((n1:Int)>300)=true:=decide_eq_true k1;rw[d9] at E0
      go_wp2
      go_meet;exact⟨by rw[E0.out];first | done | rfl,SA.out⟩
     have e1:decide ((n1:Int)>300)=false:=decide_eq_false k1;rw[e1] at E0
     by_cases k2:(n2:Int)>300
     ·have d9:decide ((n2:Int)>300)=true:=decide_eq_true k2;rw[d9] at E0
      go_wp2
      go_meet;exact⟨by rw[E0.out];first | done | rfl,SA.out⟩
     have e2:decide ((n2:Int)>300)=false:=decide_eq_false k2;rw[e2] at E0
     by_cases k3:(n3:Int)>300
     ·have d9:decide ((n3:Int)>300)=true:=decide_eq_true k3;rw[d9] at E0
      go_wp2
      go_meet;exact⟨by rw[E0.out];first | done | rfl,SA.out⟩
     have e3:decide ((n3:Int)>300)=false:=decide_eq_false k3;rw[e3] at E0
     by_cases k4:(n4:Int)>300
     ·have d9:decide ((n4:Int)>300)=true:=decide_eq_true k4;rw[d9] at E0
      go_wp2
      go_meet;exact⟨by rw[E0.out];first | done | rfl,SA.out⟩
     have e4:decide ((n4:Int)>300)=false:=decide_eq_false k4;rw[e4] at E0
     go_wp2
     all_goals
      go_meet;exact⟨by rw[E0.out];first | done | rfl,SA.out⟩
    case rest =>
     obtain⟨rfl,hc⟩:=hcut
     have S4:=QH hc;clear hc S3 z1 z2;by_cases c3:y.much
     ·rw[QG c3]
      have E:=YEB.out (by rcases c3 with h | h | h | h | h | h | h;exact .inl h;exact .inr (.inl h);exact .inr (.inr (.inl h));exact .inr (.inr (.inr (.inl h)));exact .inr (.inr (.inr (.inr (.inl h))));exact .inr (.inr (.inr (.inr (.inr (.inl h)))));exact .inr (.inr (.inr (.inr (.inr (.inr (.inl h)))))));have HB:=QH S4.out.bel;clear S4 c3;go_wp2_with fail
      go_ret;exact⟨by first | rfl | (rw[E];done) | (rw[E];rfl),HB.out⟩
     rw[Qx c3]
     have hcl:y.code.length≤200:=Nat.le_of_not_lt fun h=>c3 (.inl h);go_wp2_with fail
     go_loopw [7] (fun i wr=>∃ t:Nat,t≤y.code.length∧i=.int .i64 t∧GbS w wr L2∧∀ (j:Nat) z,j<t→y.code[j]?=some z→¬ (300<z.regs.length∨300<z.args.length)) (fun i _=>y.code.length - (intOf i).toNat)
     case atStart=>exact⟨0,Nat.zero_le _,rfl,S4.out,fun j z hj=>absurd hj (Nat.not_lt_zero _)⟩
     case round =>
      obtain⟨t,ht,rfl,hs,hall⟩:=hrel
      have ST:=QH hs;have HTQ:=QH hall;clear hs hall S4;have z2:=Qb (BZ.out _ ST.out).1 2 _ rfl;by_cases htt:t<y.code.length
      rotate_left
      ·have htt':¬ (t:Int)<y.code.length:=by omega
       go_wp2_with fail
       go_roundw
       case rel =>
        refine⟨q+1,by omega,by go_num,(BZ.out _ ST.out).2,fun j u hj hu=>?_⟩
        by_cases hjq:j<q
        ·exact HBQ.out j u hjq hu
        ·have:j=q:=by omega
         subst this;rw[HYQ.out] at hu
         cases hu
         rintro (h | h | h | h | h | h | h | ⟨z,hz,h⟩)
         ·exact c3 (.inl h)
         ·exact c3 (.inr (.inl h))
         ·exact c3 (.inr (.inr (.inl h)))
         ·exact c3 (.inr (.inr (.inr (.inl h))))
         ·exact c3 (.inr (.inr (.inr (.inr (.inl h)))))
         ·exact c3 (.inr (.inr (.inr (.inr (.inr (.inl h))))))
         ·exact c3 (.inr (.inr (.inr (.inr (.inr (.inr h))))))
         ·obtain⟨i,hi⟩:=List.mem_iff_getElem?.1 hz
          exact HTQ.out i z (by have:=(Zi hi).1;omega) hi h
       case measure=>simp[intOf];omega
      have htt':(t:Int)<y.code.length:=by omega
      have hz:y.code[t]?=some y.code[t]:=Zg htt;generalize y.code[t]=z at hz;have HZ:=QH hz;obtain⟨g3,o3,i3,e3,E3,-⟩:=QfY HI2.out.code hz
      rw[e3] at z2
      have w6':=Qi (show w.cell? ⟨g3,o3+t*8+6,none⟩=_ from E3 6 _ rfl) ST.out.bel;have w7':=Qi (show w.cell? ⟨g3,o3+t*8+7,none⟩=_ from E3 7 _ rfl) ST.out.bel;clear hz E3 e3;go_upto_region 18 with fail
      go_cut [122] (fun v wx=>v=.bool (decide (300<z.regs.length∨300<z.args.length))∧GbS w wx L2)
      case first =>
       by_cases h:(z.regs.length:Int)>300
       ·have d1:decide ((z.regs.length:Int)>300)=true:=decide_eq_true h;have E:decide (300<z.regs.length∨300<z.args.length)=true:=decide_eq_true (by omega);go_wp2
        go_meet;exact⟨by first | rfl | (rw[E];done) | (rw[E];rfl),ST.out⟩
       ·have d1:decide ((z.regs.length:Int)>300)=false:=decide_eq_false h;have E:decide (300<z.regs.length∨300<z.args.length)=decide ((z.args.length:Int)>300):=by rw[decide_eq_decide];omega
        go_wp2
        all_goals
         go_meet;exact⟨by first | rfl | (rw[E];done) | (rw[E];rfl),ST.out⟩
      case rest =>
       obtain⟨rfl,hc⟩:=hcut
       have SU:=QH hc;clear hc ST z2 w6' w7';by_cases c4:300<z.regs.length∨300<z.args.length
       ·rw[decide_eq_true c4]
        have E:=YEB.out (.inr (.inr (.inr (.inr (.inr (.inr (.inr ⟨z,Zm HZ.out,c4⟩)))))));have HB:=QH SU.out.bel;clear SU c4;go_wp2_with fail
        go_ret;exact⟨by first | rfl | (rw[E];done) | (rw[E];rfl),HB.out⟩
       ·rw[decide_eq_false c4]
        go_wp2_with fail
        go_roundw
        case rel =>
         refine⟨t+1,by omega,by go_num,SU.out,fun j u hj hu=>?_⟩
         by_cases hjt:j<t
         ·exact HTQ.out j u hjt hu
         ·have:j=t:=by omega
          subst this;rw[HZ.out] at hu
          cases hu
          exact c4
        case measure=>simp[intOf];omega
def Qg.begins {n:Nat}(x:Qg n):Prop:=x.regs=0∧x.params.length=0∧x.results.all (fun t=>t.kind==1)=true
def Qh.takes {n:Nat}(fn:Qg n) (x:Qh n):Prop:=x.regs=fn.regs∧x.params=fn.params
theorem Qjr {n:Nat}{fn:Qg n}{x:Qh n}(h:¬ x.takes fn):x.regs≠fn.regs∨Qbz x.params fn.params=false:=by
 by_cases h1:x.regs=fn.regs
 ·refine .inr ?_
  cases e:Qbz x.params fn.params with
  | false=>rfl
  | true=>exact absurd ⟨h1,QbY.1 e⟩ h
 ·exact .inl h1
theorem Qeu {n:Nat}{fn:Qg n}{x:Qh n}(h:x.takes fn):¬ (x.regs≠fn.regs∨Qbz x.params fn.params=false):=by
 rintro (h1 | h1)
 ·exact h1 h.1
 ·rw[QbY.2 h.2] at h1;cases h1
theorem Qel {n:Nat}{m:List (Qg n)}{p:Option Addr}{c:Nat}{x:Qg n}{fp:FP}{fi:Nat}{w:World}(hx0:FIn w All x fp) (hs0:x.small) :
 Rd prog 173 #[.agg #[.slice p m.length c,.int .i64 x.regs,.slice fp.pP x.params.length fp.cP,.slice fp.pR x.results.length fp.cR,.slice fp.pB x.blocks.length fp.cB,.int .i64 (fi:Int)]] w (.bool (bdec x.begins)):=by
 have hx:Hid _:=hx0;have hs:Hid _:=hs0;clear hx0 hs0;refine QC (n:=21) func173 rfl rfl rfl <| fun a hF=>?_
 have hW:=Wd.start w;replace hF:Fr 21 a [(0,.agg #[.slice p m.length c,.int .i64 x.regs,.slice fp.pP x.params.length fp.cP,.slice fp.pR x.results.length fp.cR,.slice fp.pB x.blocks.length fp.cB,.int .i64 (fi:Int)])]:=hF;refine wp_seq_k fun K1 hK1=>rg hF fun ops=>sB hW trivial rfl rfl <| fun w2 B2 hW2 hN=>sa trivial rfl rfl <| St.nil fun a3 h3=>hK1 _ _ <| wp_seq_k fun K4 hK4=>Zv <| fun ops hops=>?_
 have hg4:(ops[4]?).bind (fun o:Oper=>o.dst)=some 7:=hops 4;have hg11:(ops[11]?).bind (fun o:Oper=>o.dst)=some 14:=hops 11;clear hops;refine St.go h3 <| ZO trivial rfl rfl <| Qe9 trivial rfl rfl <| ZK 0 hW2 trivial rfl rfl rfl rfl <| seq trivial rfl rfl rfl <| sm trivial rfl rfl <| fun a5 h5=>?_
 rcases Bool.eq_false_or_eq_true (x.regs==0) with hb | hb
 ·rw[hb] at h5
  have h9:x.regs=0:=eq_of_beq hb;have hc6:Hid (x.regs=0):=h9;clear h9;clear hb;refine St.go h5 <| ZO ⟨_,hg4,rfl,rfl⟩ rfl rfl <| QdO ⟨_,hg4,rfl,rfl⟩ rfl rfl <| QaK 0 hW2 ⟨_,hg4,rfl,rfl⟩ rfl rfl rfl rfl <| Qbe ⟨_,hg4,rfl,rfl⟩ rfl rfl <| seq ⟨_,hg4,rfl,rfl⟩ rfl rfl rfl <| sp trivial rfl rfl rfl <| sm trivial rfl rfl <| fun a7 h7=>?_
  rcases Bool.eq_false_or_eq_true ((x.params.length:Int)==0) with hb | hb
  ·rw[hb] at h7
   have h9:x.params.length=0:=by have h8:=eq_of_beq hb;omega
   have hc8:Hid (x.params.length=0):=h9;clear h9;clear hb;refine St.go h7 <| ZO ⟨_,hg11,rfl,rfl⟩ rfl rfl <| Qfe ⟨_,hg11,rfl,rfl⟩ rfl rfl <| QaK 0 hW2 ⟨_,hg11,rfl,rfl⟩ rfl rfl rfl rfl ?_
   refine Qhv cf205 hW2 (QdL (Lay.below hx.out.results hW2.bel) (by have:=hs.out.2.2.1.1;omega)) ⟨_,hg11,rfl,rfl⟩ rfl rfl rfl ?_;clear hW2;intro w9 hW9;refine sn ⟨_,hg11,rfl,rfl⟩ rfl rfl <| sp trivial rfl rfl rfl <| sa trivial rfl rfl <| St.nil fun a10 h10=>hK4 _ _ ?_
   refine wp_ret ?_;with_reducible repeat first | refine Qd ?_ | refine Qc ?_
   have R:(!(decide (0≤Qe4 0 x.results)))=true↔x.begins:=by
    have e1:=hc6.out;have e2:=hc8.out;have e3:=Qgk x.results 0;by_cases hz:0≤Qe4 0 x.results
    ·simp only[hz,decide_true,Bool.not_true,Bool.false_eq_true,false_iff]
     exact fun h=>e3.1 hz h.2.2
    ·simp only[hz,decide_false,Bool.not_false,true_iff]
     refine⟨e1,e2,?_⟩
     cases e:x.results.all (fun t=>t.kind==1) with
     | true=>rfl
     | false=>exact absurd (e3.2 (by rw[e];decide)) hz
   exact Qu (t:=2) h10 rfl rfl ⟨by rw[← QdW R],hW9.bel⟩
  rw[hb] at h7
  have h9:¬ x.params.length=0:=by have h8:=ne_of_beq_false hb;omega
  have hc11:¬ x.params.length=0:=h9;clear h9;clear hb;refine St.go h7 <| so hg11 rfl rfl rfl rfl <| so hg11 rfl rfl rfl rfl <| so hg11 rfl rfl rfl rfl <| so hg11 rfl rfl rfl rfl <| so hg11 rfl rfl rfl rfl <| spf trivial rfl rfl rfl <| sa trivial rfl rfl <| St.nil fun a12 h12=>hK4 _ _ ?_
  refine wp_ret ?_;with_reducible repeat first | refine Qd ?_ | refine Qc ?_
  have R:¬ x.begins:=fun h=>hc11 h.2.1;exact Qu (t:=2) h12 rfl rfl ⟨by rw[Qx R],hW2.bel⟩
 rw[hb] at h5
 have h9:¬ x.regs=0:=ne_of_beq_false hb;have hc13:¬ x.regs=0:=h9;clear h9;clear hb;refine St.go h5 <| so hg4 rfl rfl rfl rfl <| so hg4 rfl rfl rfl rfl <| so hg4 rfl rfl rfl rfl <| so hg4 rfl rfl rfl rfl <| so hg4 rfl rfl rfl rfl <| spf trivial rfl rfl rfl <| sm trivial rfl rfl <| so hg11 rfl rfl rfl rfl <| so hg11 rfl rfl rfl rfl <| so hg11 rfl rfl rfl rfl <| so hg11 rfl rfl rfl rfl <| so hg11 rfl rfl rfl rfl <| spf trivial rfl rfl rfl <| sa trivial rfl rfl <| St.nil fun a14 h14=>hK4 _ _ ?_
 refine wp_ret ?_;with_reducible repeat first | refine Qd ?_ | refine Qc ?_
 have R:¬ x.begins:=fun h=>hc13 h.1;exact Qu (t:=2) h14 rfl rfl ⟨by rw[Qx R],hW2.bel⟩
theorem Qhb {n:Nat}{m:List (Qg n)}{p:Option Addr}{c:Nat}{x:Qg n}{fp:FP}{fi:Nat}{y:Qh n}{bp:BP}{bi:Nat}{w:World}(hx0:FIn w All x fp) (hs0:x.small) (hy0:BIn w All y bp) (ht0:y.small) :
 Rd prog 207 #[.agg #[.slice p m.length c,.int .i64 x.regs,.slice fp.pP x.params.length fp.cP,.slice fp.pR x.results.length fp.cR,.slice fp.pB x.blocks.length fp.cB,.int .i64 (fi:Int),.int .i64 y.regs,.slice bp.pP y.params.length bp.cP,.slice bp.pC y.code.length bp.cC,.int .i64 y.fin.op,.int .i64 y.fin.a,.int .i64 y.fin.yes.block,.slice bp.e.pYR y.fin.yes.regs.length bp.e.cYR,.slice bp.e.pYA y.fin.yes.args.length bp.e.cYA,.int .i64 y.fin.no.block,.slice bp.e.pNR y.fin.no.regs.length bp.e.cNR,.slice bp.e.pNA y.fin.no.args.length bp.e.cNA,.slice bp.e.pA y.fin.args.length bp.e.cA,.int .i64 (bi:Int)]] w (.bool (bdec (y.takes x))):=by
 have hx:Hid _:=hx0;have hs:Hid _:=hs0;have hy:Hid _:=hy0;have ht:Hid _:=ht0;clear hx0 hs0 hy0 ht0;refine QC (n:=21) func207 rfl rfl rfl <| fun a hF=>?_
 have hW:=Wd.start w;replace hF:Fr 21 a [(0,.agg #[.slice p m.length c,.int .i64 x.regs,.slice fp.pP x.params.length fp.cP,.slice fp.pR x.results.length fp.cR,.slice fp.pB x.blocks.length fp.cB,.int .i64 (fi:Int),.int .i64 y.regs,.slice bp.pP y.params.length bp.cP,.slice bp.pC y.code.length bp.cC,.int .i64 y.fin.op,.int .i64 y.fin.a,.int .i64 y.fin.yes.block,.slice bp.e.pYR y.fin.yes.regs.length bp.e.cYR,.slice bp.e.pYA y.fin.yes.args.length bp.e.cYA,.int .i64 y.fin.no.block,.slice bp.e.pNR y.fin.no.regs.length bp.e.cNR,.slice bp.e.pNA y.fin.no.args.length bp.e.cNA,.slice bp.e.pA y.fin.args.length bp.e.cA,.int .i64 (bi:Int)])]:=hF;refine wp_seq_k fun K1 hK1=>rg hF fun ops=>sB hW trivial rfl rfl <| fun w2 B2 hW2 hN=>sa trivial rfl rfl <| St.nil fun a3 h3=>hK1 _ _ <| wp_seq_k fun K4 hK4=>Zv <| fun ops hops=>?_
 have hg8:(ops[8]?).bind (fun o:Oper=>o.dst)=some 11:=hops 8;clear hops;refine St.go h3 <| Zd trivial rfl rfl <| Qcz trivial rfl rfl <| ZK 0 hW2 trivial rfl rfl rfl rfl <| Qas trivial rfl rfl <| ZO trivial rfl rfl <| Qe9 trivial rfl rfl <| ZK 0 hW2 trivial rfl rfl rfl rfl <| seq trivial rfl rfl rfl <| sm trivial rfl rfl <| fun a5 h5=>?_
 rcases Bool.eq_false_or_eq_true (y.regs==x.regs) with hb | hb
 ·rw[hb] at h5
  have h9:y.regs=x.regs:=eq_of_beq hb;have hc6:Hid (y.regs=x.regs):=h9;clear h9;clear hb;refine St.go h5 <| Zd ⟨_,hg8,rfl,rfl⟩ rfl rfl <| QcI ⟨_,hg8,rfl,rfl⟩ rfl rfl <| QaK 0 hW2 ⟨_,hg8,rfl,rfl⟩ rfl rfl rfl rfl <| Qas ⟨_,hg8,rfl,rfl⟩ rfl rfl <| ZO ⟨_,hg8,rfl,rfl⟩ rfl rfl <| QdO ⟨_,hg8,rfl,rfl⟩ rfl rfl <| QaK 0 hW2 ⟨_,hg8,rfl,rfl⟩ rfl rfl rfl rfl <| QlJ cf200 hW2 (Qfh (Lay.below hy.out.params hW2.bel) (Lay.below hx.out.params hW2.bel) ht.out.2.1) ⟨_,hg8,rfl,rfl⟩ rfl rfl rfl rfl <| fun w7 hW7=>sp trivial rfl rfl rfl <| sa trivial rfl rfl <| St.nil fun a8 h8=>hK4 _ _ ?_
  refine wp_ret ?_;with_reducible repeat first | refine Qd ?_ | refine Qc ?_
  have R:y.params=x.params↔y.takes x:=⟨fun h=>⟨hc6.out,h⟩,fun h=>h.2⟩;exact Qu (t:=2) h8 rfl rfl ⟨by rw[Qg0 R],hW7.bel⟩
 rw[hb] at h5
 have h9:¬ y.regs=x.regs:=ne_of_beq_false hb;have hc9:¬ y.regs=x.regs:=h9;clear h9;clear hb;refine St.go h5 <| so hg8 rfl rfl rfl rfl <| so hg8 rfl rfl rfl rfl <| so hg8 rfl rfl rfl rfl <| so hg8 rfl rfl rfl rfl <| so hg8 rfl rfl rfl rfl <| so hg8 rfl rfl rfl rfl <| so hg8 rfl rfl rfl rfl <| so hg8 rfl rfl rfl rfl <| spf trivial rfl rfl rfl <| sa trivial rfl rfl <| St.nil fun a10 h10=>hK4 _ _ ?_
 refine wp_ret ?_;with_reducible repeat first | refine Qd ?_ | refine Qc ?_
 have R:¬ y.takes x:=fun h=>hc9 h.1;exact Qu (t:=2) h10 rfl rfl ⟨by rw[Qx R],hW2.bel⟩
theorem Qev {n:Nat}{m:List (Qg n)}{p:Option Addr}{c:Nat}{x:Qg n}{fp:FP}{fi:Nat}{w:World}(hx0:FIn w All x fp) (hs0:x.small) :
 Rd prog 137 #[.agg #[.slice p m.length c,.int .i64 x.regs,.slice fp.pP x.params.length fp.cP,.slice fp.pR x.results.length fp.cR,.slice fp.pB x.blocks.length fp.cB,.int .i64 (fi:Int)]] w (.int .i64 (x.code fi)):=by
 have HX:=QH hx0;have HS:=QH hs0;have hbl:=hs0.1;have S:Hid (GbS w (w.alloc (.cells #[.slice p m.length c,.int .i64 x.regs,.slice fp.pP x.params.length fp.cP,.slice fp.pR x.results.length fp.cR,.slice fp.pB x.blocks.length fp.cB,.int .i64 (fi:Int)] 134)) [(w.heap.size,#[.slice p m.length c,.int .i64 x.regs,.slice fp.pP x.params.length fp.cP,.slice fp.pR x.results.length fp.cR,.slice fp.pB x.blocks.length fp.cB,.int .i64 (fi:Int)],134)]):=GbS.new ⟨Zr,fun i b hb=>by simp at hb⟩ _ _;clear hx0 hs0;unfold Rd;go_enter func137,ntmps137
 go_upto_region 1 with fail
 generalize w.alloc (.cells #[.slice p m.length c,.int .i64 x.regs,.slice fp.pP x.params.length fp.cP,.slice fp.pR x.results.length fp.cR,.slice fp.pB x.blocks.length fp.cB,.int .i64 (fi:Int)] 134)=w1 at S ⊢;generalize w.heap.size=X at S ⊢;have q0:=Qb (S.out.box 0 _ rfl) 1 _ rfl;go_cut [14] (fun v wx=>v=.bool (decide (x.regs<0∨6<x.regs))∧GbS w wx [(X,#[.slice p m.length c,.int .i64 x.regs,.slice fp.pP x.params.length fp.cP,.slice fp.pR x.results.length fp.cR,.slice fp.pB x.blocks.length fp.cB,.int .i64 (fi:Int)],134)])
 case first =>
  by_cases h:x.regs<0
  ·have d1:decide (x.regs<0)=true:=decide_eq_true h;have E:decide (x.regs<0∨6<x.regs)=true:=decide_eq_true (.inl (by omega));go_wp2
   go_meet;exact⟨by rw[E],S.out⟩
  ·have d1:decide (x.regs<0)=false:=decide_eq_false h;have E:decide (x.regs<0∨6<x.regs)=decide (x.regs>6):=by rw[decide_eq_decide];omega
   go_wp2
   all_goals
    go_meet;exact⟨by rw[E],S.out⟩
 case rest =>
  obtain⟨rfl,hc⟩:=hcut
  have S2:=QH hc;clear hc S q0;by_cases c1:x.regs<0∨6<x.regs
  ·rw[decide_eq_true c1]
   have E:x.code fi=1:=if_pos c1;clear c1;go_wp2_with fail
   go_ret;exact⟨by first | rfl | (rw[E];done) | (rw[E];rfl),S2.out.bel⟩
  rw[decide_eq_false c1]
  have q0:=Qb (S2.out.box 0 _ rfl) 1 _ rfl;have q1:=Qb (S2.out.box 0 _ rfl) 2 _ rfl;have CL:=QH (QaL (regs:=x.regs) (Lay.below HX.out.params S2.out.bel) HS.out.2.1);unfold Rd at CL;go_wp2_with fail
  refine CL.out.mono ?_;rintro _ wl ⟨rfl,bl⟩;have S3:=QH (S2.out.below bl);clear bl CL q0 q1 S2;generalize hl1:listC x.regs x.params=lc;by_cases c2:lc=0
  rotate_left
  ·have d9:(lc != 0)=true:=by simpa using c2
   have E:x.code fi=lc:=by unfold Qg.code;rw[if_neg c1,hl1,if_pos c2]
   go_wp2_with fail
   go_ret;exact⟨by first | rfl | (rw[E];done) | (rw[E];rfl),S3.out.bel⟩
  subst c2;have q0:=Qb (S3.out.box 0 _ rfl) 1 _ rfl;have q1:=Qb (S3.out.box 0 _ rfl) 3 _ rfl;have CL:=QH (QaL (regs:=x.regs) (Lay.below HX.out.results S3.out.bel) HS.out.2.2.1);unfold Rd at CL;go_wp2_with fail
  refine CL.out.mono ?_;rintro _ wl ⟨rfl,bl⟩;have S4:=QH (S3.out.below bl);clear bl CL q0 q1 S3;generalize hl2:listC x.regs x.results=lc;by_cases c3:lc=0
  rotate_left
  ·have d9:(lc != 0)=true:=by simpa using c3
   have E:x.code fi=lc:=by unfold Qg.code;rw[if_neg c1,hl1,if_neg (by simp),hl2,if_pos c3]
   go_wp2_with fail
   go_ret;exact⟨by first | rfl | (rw[E];done) | (rw[E];rfl),S4.out.bel⟩
  subst c3;go_upto_region 9 with fail
  have q3:=Qb (S4.out.box 0 _ rfl) 4 _ rfl;go_cut [46] (fun v wx=>v=.bool (decide (x.blocks.length<1∨12<x.blocks.length))∧GbS w wx [(X,#[.slice p m.length c,.int .i64 x.regs,.slice fp.pP x.params.length fp.cP,.slice fp.pR x.results.length fp.cR,.slice fp.pB x.blocks.length fp.cB,.int .i64 (fi:Int)],134)])
  case first =>
   by_cases h:(x.blocks.length:Int)<1
   ·have d1:decide ((x.blocks.length:Int)<1)=true:=decide_eq_true h;have E:decide (x.blocks.length<1∨12<x.blocks.length)=true:=decide_eq_true (.inl (by omega));go_wp2
    go_meet;exact⟨by rw[E],S4.out⟩
   ·have d1:decide ((x.blocks.length:Int)<1)=false:=decide_eq_false h;have E:decide (x.blocks.length<1∨12<x.blocks.length)=decide ((x.blocks.length:Int)>12):=by rw[decide_eq_decide];omega
    go_wp2
    all_goals
     go_meet;exact⟨by rw[E],S4.out⟩
  case rest =>
   obtain⟨rfl,hc⟩:=hcut
   have S5:=QH hc;clear hc S4 q3;by_cases c4:x.blocks.length<1∨12<x.blocks.length
   ·rw[decide_eq_true c4]
    have E:x.code fi=2:=by unfold Qg.code;rw[if_neg c1,hl1,if_neg (by simp),hl2,if_neg (by simp),if_pos c4]
    clear c4;go_wp2_with fail
    go_ret;exact⟨by first | rfl | (rw[E];done) | (rw[E];rfl),S5.out.bel⟩
   rw[decide_eq_false c4]
   go_upto_region 11 with fail
   have E0:Hid (fi=0∧¬ x.begins→x.code fi=18):=by
    intro h;unfold Qg.code;rw[if_neg c1,hl1,if_neg (by simp),hl2,if_neg (by simp),if_neg c4]
    exact if_pos h
   have E1:Hid (¬ (fi=0∧¬ x.begins)→x.code fi=0):=by
    intro h;unfold Qg.code;rw[if_neg c1,hl1,if_neg (by simp),hl2,if_neg (by simp),if_neg c4]
    exact if_neg h
   clear c1 hl1 hl2 c4;have q0:=Qb (S5.out.box 0 _ rfl) 0 _ rfl;have q1:=Qb (S5.out.box 0 _ rfl) 1 _ rfl;have q2:=Qb (S5.out.box 0 _ rfl) 2 _ rfl;have q3:=Qb (S5.out.box 0 _ rfl) 3 _ rfl;have q4:=Qb (S5.out.box 0 _ rfl) 4 _ rfl;have q5:=Qb (S5.out.box 0 _ rfl) 5 _ rfl;go_cut [54] (fun v wx=>v=.bool (bdec (fi=0∧¬ x.begins))∧GbS w wx [(X,#[.slice p m.length c,.int .i64 x.regs,.slice fp.pP x.params.length fp.cP,.slice fp.pR x.results.length fp.cR,.slice fp.pB x.blocks.length fp.cB,.int .i64 (fi:Int)],134)])
   case first =>
    by_cases h0:fi=0
    rotate_left
    ·have d0:((fi:Int)==0)=false:=by simpa using h0
     have E:bdec (fi=0∧¬ x.begins)=false:=Qx (fun h=>h0 h.1);clear h0;go_wp2
     go_meet;exact⟨by rw[E],S5.out⟩
    have d0:((fi:Int)==0)=true:=by simpa using h0
    have CB:=QH (Qel (m:=m) (p:=p) (c:=c) (fi:=fi) (fp:=fp) (FIn.below HX.out S5.out.bel) HS.out);unfold Rd at CB
    have E:bdec (fi=0∧¬ x.begins)=!bdec x.begins:=by
     by_cases hb:x.begins
     ·rw[QG hb];exact Qx (fun h=>h.2 hb)
     ·rw[Qx hb];exact QG ⟨h0,hb⟩
    generalize bdec x.begins=bb at CB E;clear h0;go_wp2_with fail
    refine CB.out.mono ?_;rintro _ w6 ⟨rfl,b6⟩;have S6:=QH (S5.out.below b6);clear b6 CB q0 q1 q2 q3 q4 q5;go_wp2
    all_goals
     go_meet;exact⟨by rw[E],S6.out⟩
   case rest =>
    obtain⟨rfl,hc⟩:=hcut
    have S6:=QH hc;clear hc S5 q0 q1 q2 q3 q4 q5;by_cases c5:fi=0∧¬ x.begins
    ·rw[QG c5]
     have E:x.code fi=18:=E0.out c5;clear c5;go_wp2_with fail
     go_ret;exact⟨by first | rfl | (rw[E];done) | (rw[E];rfl),S6.out.bel⟩
    ·rw[Qx c5]
     have E:x.code fi=0:=E1.out c5;clear c5;go_wp2_with fail
     go_ret;exact⟨by first | rfl | (rw[E];done) | (rw[E];rfl),S6.out.bel⟩
theorem Qd9 {n:Nat}{m:List (Qg n)}{p:Option Addr}{c:Nat}{x:Qg n}{fp:FP}{fi:Nat}{y:Qh n}{bp:BP}{bi:Nat}{w:World}(hx0:FIn w All x fp) (hs0:x.small) (hy0:BIn w All y bp) (ht0:y.small) :
 Rd prog 174 #[.agg #[.slice p m.length c,.int .i64 x.regs,.slice fp.pP x.params.length fp.cP,.slice fp.pR x.results.length fp.cR,.slice fp.pB x.blocks.length fp.cB,.int .i64 (fi:Int),.int .i64 y.regs,.slice bp.pP y.params.length bp.cP,.slice bp.pC y.code.length bp.cC,.int .i64 y.fin.op,.int .i64 y.fin.a,.int .i64 y.fin.yes.block,.slice bp.e.pYR y.fin.yes.regs.length bp.e.cYR,.slice bp.e.pYA y.fin.yes.args.length bp.e.cYA,.int .i64 y.fin.no.block,.slice bp.e.pNR y.fin.no.regs.length bp.e.cNR,.slice bp.e.pNA y.fin.no.args.length bp.e.cNA,.slice bp.e.pA y.fin.args.length bp.e.cA,.int .i64 (bi:Int)]] w (.int .i64 (y.code' x bi)):=by
 have hx:Hid _:=hx0;have hs:Hid _:=hs0;have hy:Hid _:=hy0;have ht:Hid _:=ht0;clear hx0 hs0 hy0 ht0;refine QC (n:=41) func174 rfl rfl rfl <| fun a hF=>?_
 have hW:=Wd.start w;replace hF:Fr 41 a [(0,.agg #[.slice p m.length c,.int .i64 x.regs,.slice fp.pP x.params.length fp.cP,.slice fp.pR x.results.length fp.cR,.slice fp.pB x.blocks.length fp.cB,.int .i64 (fi:Int),.int .i64 y.regs,.slice bp.pP y.params.length bp.cP,.slice bp.pC y.code.length bp.cC,.int .i64 y.fin.op,.int .i64 y.fin.a,.int .i64 y.fin.yes.block,.slice bp.e.pYR y.fin.yes.regs.length bp.e.cYR,.slice bp.e.pYA y.fin.yes.args.length bp.e.cYA,.int .i64 y.fin.no.block,.slice bp.e.pNR y.fin.no.regs.length bp.e.cNR,.slice bp.e.pNA y.fin.no.args.length bp.e.cNA,.slice bp.e.pA y.fin.args.length bp.e.cA,.int .i64 (bi:Int)])]:=hF;refine wp_seq_k fun K1 hK1=>rg hF fun ops=>sB hW trivial rfl rfl <| fun w2 B2 hW2 hN=>sa trivial rfl rfl <| St.nil fun a3 h3=>hK1 _ _ <| wp_seq_k fun K4 hK4=>wp_seq_k fun K5 hK5=>Zv <| fun ops hops=>?_
 have hg8:(ops[8]?).bind (fun o:Oper=>o.dst)=some 12:=hops 8;clear hops;refine St.go h3 <| Zd trivial rfl rfl <| Qcz trivial rfl rfl <| ZK 0 hW2 trivial rfl rfl rfl rfl <| Qas trivial rfl rfl <| ZO trivial rfl rfl <| Qe9 trivial rfl rfl <| ZK 0 hW2 trivial rfl rfl rfl rfl <| slt trivial rfl rfl rfl <| sm trivial rfl rfl <| fun a6 h6=>?_
 rcases Bool.eq_false_or_eq_true (decide (y.regs<x.regs)) with hb | hb
 ·rw[hb] at h6
  have hc7:y.regs<x.regs:=of_decide_eq_true hb;clear hb;refine St.go h6 <| so hg8 rfl rfl rfl rfl <| so hg8 rfl rfl rfl rfl <| so hg8 rfl rfl rfl rfl <| so hg8 rfl rfl rfl rfl <| sp trivial rfl rfl rfl <| St.nil fun a8 h8=>hK5 _ _ <| QaW (t:=17) h8 rfl <| wp_seq_k fun K9 hK9=>rg h8 fun ops=>sa trivial rfl rfl <| St.nil fun a10 h10=>hK9 _ _ ?_
  refine wp_ret ?_;with_reducible repeat first | refine Qd ?_ | refine Qc ?_
  have R:y.code' x bi=1:=if_pos (by omega);exact Qu (t:=2) h10 rfl rfl ⟨by rw[R],hW2.bel⟩
 rw[hb] at h6
 have hc11:¬ (y.regs<x.regs):=of_decide_eq_false hb;clear hb;refine St.go h6 <| Zd ⟨_,hg8,rfl,rfl⟩ rfl rfl <| Qcz ⟨_,hg8,rfl,rfl⟩ rfl rfl <| ZK 0 hW2 ⟨_,hg8,rfl,rfl⟩ rfl rfl rfl rfl <| sgt ⟨_,hg8,rfl,rfl⟩ rfl rfl rfl <| spf trivial rfl rfl rfl <| St.nil fun a12 h12=>hK5 _ _ <| QE (t:=17) h12 rfl (fun hb=>?_) (fun hb=>?_)
 ·have hc13:16<y.regs:=of_decide_eq_true hb
  clear hb;refine wp_seq_k fun K14 hK14=>rg h12 fun ops=>sa trivial rfl rfl <| St.nil fun a15 h15=>hK14 _ _ ?_
  refine wp_ret ?_;with_reducible repeat first | refine Qd ?_ | refine Qc ?_
  have R:y.code' x bi=1:=if_pos (by omega);exact Qu (t:=2) h15 rfl rfl ⟨by rw[R],hW2.bel⟩
 have hc16:¬ (16<y.regs):=of_decide_eq_false hb;clear hb;refine wp_skip <| hK4 _ _ <| wp_seq_k fun K17 hK17=>wp_seq_k fun K18 hK18=>rg h12 fun ops=>Zd trivial rfl rfl <| QcI trivial rfl rfl <| QaK 0 hW2 trivial rfl rfl rfl rfl <| Zd trivial rfl rfl <| Qcz trivial rfl rfl <| ZK 0 hW2 trivial rfl rfl rfl rfl <| Qhv cf172 hW2 (QaL (regs:=y.regs) (Lay.below hy.out.params hW2.bel) ht.out.2.1) trivial rfl rfl rfl <| fun w19 hW19=>sa trivial rfl rfl <| St.nil fun a20 h20=>hK18 _ _ <| wp_seq_k fun K21 hK21=>rg h20 fun ops=>sm trivial rfl rfl <| sne trivial rfl rfl rfl <| St.nil fun a22 h22=>hK21 _ _ <| QE (t:=26) h22 rfl (fun hb=>?_) (fun hb=>?_)
 ·have h9:¬ (listC y.regs y.params)=0:=bne_iff_ne.1 hb
  have hc23:¬ (listC y.regs y.params)=0:=h9;clear h9;clear hb;refine wp_seq_k fun K24 hK24=>rg h22 fun ops=>sm trivial rfl rfl <| sa trivial rfl rfl <| St.nil fun a25 h25=>hK24 _ _ ?_
  refine wp_ret ?_;with_reducible repeat first | refine Qd ?_ | refine Qc ?_
  have R:y.code' x bi=listC y.regs y.params:=(if_neg (by omega)).trans (if_pos (by omega));exact Qu (t:=2) h25 rfl rfl ⟨by rw[R],hW19.bel⟩
 have h9:(listC y.regs y.params)=0:=bne_eq_false_iff_eq.1 hb;have hc26:Hid ((listC y.regs y.params)=0):=h9;clear h9;clear hb;refine wp_skip <| hK17 _ _ <| wp_seq_k fun K27 hK27=>wp_seq_k fun K28 hK28=>Zv <| fun ops hops=>?_
 have hg3:(ops[3]?).bind (fun o:Oper=>o.dst)=some 31:=hops 3;clear hops;refine St.go h22 <| Qco trivial rfl rfl <| ZK 0 hW19 trivial rfl rfl rfl rfl <| seq trivial rfl rfl rfl <| sm trivial rfl rfl <| fun a29 h29=>?_
 rcases Bool.eq_false_or_eq_true ((bi:Int)==0) with hb | hb
 ·rw[hb] at h29
  have h9:bi=0:=by have h8:=eq_of_beq hb;omega
  have hc30:Hid (bi=0):=h9;clear h9;clear hb;refine St.go h29 <| sS 0 19 underlying181 rfl infblockLook hW19 ⟨_,hg3,rfl,rfl⟩ rfl rfl rfl rfl <| QjB cf207 hW19 (Qhb (m:=m) (p:=p) (c:=c) (fi:=fi) (bi:=bi) (hx.out.below hW19.bel) hs.out (hy.out.below hW19.bel) ht.out) ⟨_,hg3,rfl,rfl⟩ rfl rfl <| fun w31 hW31=>sn ⟨_,hg3,rfl,rfl⟩ rfl rfl <| sp trivial rfl rfl rfl <| St.nil fun a32 h32=>hK28 _ _ <| QE (t:=35) h32 rfl (fun hb=>?_) (fun hb=>?_)
  ·have hb:(bdec (y.takes x))=false:=by simpa using hb
   have hc33:¬ (y.takes x):=fun h=>by rw[QG h] at hb;cases hb
   clear hb;refine wp_seq_k fun K34 hK34=>rg h32 fun ops=>sa trivial rfl rfl <| St.nil fun a35 h35=>hK34 _ _ ?_
   refine wp_ret ?_;with_reducible repeat first | refine Qd ?_ | refine Qc ?_
   have:=hc26.out
   have:=hc30.out
   have R:y.code' x bi=9:=(if_neg (by omega)).trans ((if_neg (by omega)).trans (if_pos (⟨by omega,Qjr hc33⟩)));exact Qu (t:=2) h35 rfl rfl ⟨by rw[R],hW31.bel⟩
  have hb:(bdec (y.takes x))=true:=by simpa using hb
  have hc36:(y.takes x):=Qaf.1 hb;clear hb;refine wp_skip <| hK27 _ _ <| wp_seq_k fun K37 hK37=>wp_seq_k fun K38 hK38=>rg h32 fun ops=>Zd trivial rfl rfl <| Qb1 trivial rfl rfl <| Qgc 0 hW31 trivial rfl rfl rfl rfl <| Qew trivial rfl rfl <| sgt trivial rfl rfl rfl <| St.nil fun a39 h39=>hK38 _ _ <| QE (t:=40) h39 rfl (fun hb=>?_) (fun hb=>?_)
  ·have hc40:40<y.code.length:=by have:=of_decide_eq_true hb;omega
   clear hb;refine wp_seq_k fun K41 hK41=>rg h39 fun ops=>sa trivial rfl rfl <| St.nil fun a42 h42=>hK41 _ _ ?_
   refine wp_ret ?_;with_reducible repeat first | refine Qd ?_ | refine Qc ?_
   have:=hc26.out
   have:=hc30.out
   have R:y.code' x bi=2:=(if_neg (by omega)).trans ((if_neg (by omega)).trans ((if_neg (fun h=>Qeu hc36 h.2)).trans (if_pos (by omega))));exact Qu (t:=2) h42 rfl rfl ⟨by rw[R],hW31.bel⟩
  have hc43:¬ (40<y.code.length):=by have:=of_decide_eq_false hb;omega
  clear hb;refine wp_skip <| hK37 _ _ <| wp_seq_k fun K44 hK44=>rg h39 fun ops=>sa trivial rfl rfl <| St.nil fun a45 h45=>hK44 _ _ ?_
  refine wp_ret ?_;with_reducible repeat first | refine Qd ?_ | refine Qc ?_
  have:=hc26.out
  have:=hc30.out
  have R:y.code' x bi=0:=(if_neg (by omega)).trans ((if_neg (by omega)).trans ((if_neg (fun h=>Qeu hc36 h.2)).trans ((if_neg (by omega)).trans (rfl))));exact Qu (t:=2) h45 rfl rfl ⟨by rw[R],hW31.bel⟩
 rw[hb] at h29
 have h9:¬ bi=0:=by have h8:=ne_of_beq_false hb;omega
 have hc46:¬ bi=0:=h9;clear h9;clear hb;refine St.go h29 <| so hg3 rfl rfl rfl rfl <| so hg3 rfl rfl rfl rfl <| so hg3 rfl rfl rfl rfl <| spf trivial rfl rfl rfl <| St.nil fun a47 h47=>hK28 _ _ <| Qf7 (t:=35) h47 rfl <| wp_skip <| hK27 _ _ <| wp_seq_k fun K48 hK48=>wp_seq_k fun K49 hK49=>rg h47 fun ops=>Zd trivial rfl rfl <| Qb1 trivial rfl rfl <| Qgc 0 hW19 trivial rfl rfl rfl rfl <| Qew trivial rfl rfl <| sgt trivial rfl rfl rfl <| St.nil fun a50 h50=>hK49 _ _ <| QE (t:=40) h50 rfl (fun hb=>?_) (fun hb=>?_)
 ·have hc51:40<y.code.length:=by have:=of_decide_eq_true hb;omega
  clear hb;refine wp_seq_k fun K52 hK52=>rg h50 fun ops=>sa trivial rfl rfl <| St.nil fun a53 h53=>hK52 _ _ ?_
  refine wp_ret ?_;with_reducible repeat first | refine Qd ?_ | refine Qc ?_
  have:=hc26.out
  have R:y.code' x bi=2:=(if_neg (by omega)).trans ((if_neg (by omega)).trans ((if_neg (by omega)).trans (if_pos (by omega))));exact Qu (t:=2) h53 rfl rfl ⟨by rw[R],hW19.bel⟩
 have hc54:¬ (40<y.code.length):=by have:=of_decide_eq_false hb;omega
 clear hb;refine wp_skip <| hK48 _ _ <| wp_seq_k fun K55 hK55=>rg h50 fun ops=>sa trivial rfl rfl <| St.nil fun a56 h56=>hK55 _ _ ?_
 refine wp_ret ?_;with_reducible repeat first | refine Qd ?_ | refine Qc ?_
 have:=hc26.out
 have R:y.code' x bi=0:=(if_neg (by omega)).trans ((if_neg (by omega)).trans ((if_neg (by omega)).trans ((if_neg (by omega)).trans (rfl))));exact Qu (t:=2) h56 rfl rfl ⟨by rw[R],hW19.bel⟩
theorem Qhh {l:List Qy}{p:Option Addr}{c Bc:Nat}{w:World}(G:Nat→Qy→Int × Int) (hl0:insL.list.In w All l [.slice p l.length c]) (hsb:l.length≤100000)
 (hcl0:∀ (i:Nat) x (z:IP) wx,l[i]?=some x→IIn wx All x z→Below w.heap.size w wx→Rd prog 177 #[.int .i64 (i:Int),.agg #[.int .i64 x.op,.int .i64 x.a,.int .i64 x.b,.int .i64 x.c,.int .i64 x.k,.int .i64 x.n,.slice z.pR x.regs.length z.cR,.slice z.pA x.args.length z.cA],.pointer (some ⟨Bc,0,none⟩)] wx (QX (G i x))) :
 Rd prog 176 #[.slice p l.length c,.func (.func 177) #[] #[.pointer (some ⟨Bc,0,none⟩)]] w (QX (firstF G 0 l)):=by
 have hl:Hid _:=hl0;have hcl:Hid _:=hcl0;clear hl0 hcl0;refine QC (n:=25) func176 rfl rfl rfl <| fun a hF=>?_
 have hW:=Wd.start w;replace hF:Fr 25 a [(0,.slice p l.length c),(1,.func (.func 177) #[] #[.pointer (some ⟨Bc,0,none⟩)])]:=hF;refine wp_seq_k fun K1 hK1=>rg hF fun ops=>ZP hW trivial rfl <| fun w2 B2 hW2 hN=>St.nil fun a3 h3=>hK1 _ _ <| wp_seq_k fun K4 hK4=>wp_seq_k fun K5 hK5=>rg h3 fun ops=>sm trivial rfl rfl <| Qew trivial rfl rfl <| sm trivial rfl rfl <| St.nil fun a6 h6=>hK5 _ _ <| wp_block <| Qay (fun r a w'=>∃ q:Nat,q≤l.length∧r=l.length - q∧(∀ (j:Nat) y,j<q→l[j]?=some y→(G j y).1=0)∧Fr 25 a [(1,.func (.func 177) #[] #[.pointer (some ⟨Bc,0,none⟩)]),(0,.slice p l.length c),(4,.pointer (some ⟨B2,0,none⟩)),(8,.slice p l.length c),(9,.int .i64 (l.length:Int)),(10,.int .i64 (q:Int))]∧Wd w w' [(B2,#[.int .i64 0,.int .i64 0],30)]) (l.length) ⟨0,Nat.zero_le _,rfl,(fun j y hj=>by omega),(h6.keep (h6.keep (h6.keep (h6.keep (h6.keep (h6.keep h6.nil (t:=10) rfl) (t:=9) rfl) (t:=8) rfl) (t:=4) rfl) (t:=0) rfl) (t:=1) rfl),hW2⟩ ?_
 clear h6 hW2;rintro r a7 w7 ⟨q,hq,hr,hall,hF7,hW7⟩ KL hKL;refine wp_seq_k fun K8 hK8=>rg hF7 fun ops=>slt trivial rfl rfl rfl <| St.nil fun a9 h9=>hK8 _ _ <| wp_seq_k fun K10 hK10=>QE (t:=11) h9 rfl (fun hb=>?_) (fun hb=>?_)
 ·have hlt1:q<l.length:=by have:=of_decide_eq_true hb;omega
  clear hb;obtain⟨x,hx1⟩:∃ v9,(l)[q]?=some v9:=⟨_,Zg hlt1⟩
  obtain⟨g1,o1,i1,hp1,E1,In1⟩:=QfY hl.out hx1
  replace In1:Hid _:=In1;replace hp1:Hid _:=hp1;replace hx1:Hid _:=hx1;replace E1:Hid _:=E1;refine wp_skip <| hK10 _ _ <| wp_seq_k fun K11 hK11=>wp_block <| wp_seq_k fun K12 hK12=>rg h9 fun ops=>sm trivial rfl rfl <| QiA hp1.out hlt1 trivial rfl rfl rfl <| sSE underlying59 rfl (Q0 E1.out hW7.bel) infIns trivial rfl rfl <| Qkk hW7 trivial rfl <| fun w13 B13 hW13 hN=>sa trivial rfl rfl <| sT 0 hW13 rfl rfl infIns rfl rfl rfl <| fun w14 hW14=>St.nil fun a15 h15=>hK12 _ _ <| wp_seq_k fun K16 hK16=>rg h15 fun ops=>sm trivial rfl rfl <| sm trivial rfl rfl <| sS 0 8 underlying59 rfl infIns hW14 trivial rfl rfl rfl rfl <| QjU cf177 hW14 (hcl.out q x i1 w14 hx1.out (In1.out.below hW14.bel) hW14.bel) trivial rfl rfl rfl rfl <| fun w17 hW17=>ZP hW17 trivial rfl <| fun w18 B18 hW18 hN=>sT 0 hW18 rfl rfl infFault rfl rfl rfl <| fun w19 hW19=>St.nil fun a20 h20=>hK16 _ _ <| wp_seq_k fun K21 hK21=>rg h20 fun ops=>QcB trivial rfl rfl <| ZK 0 hW19 trivial rfl rfl rfl rfl <| sne trivial rfl rfl rfl <| St.nil fun a22 h22=>hK21 _ _ <| QE (t:=21) h22 rfl (fun hb=>?_) (fun hb=>?_)
  ·have h9:¬ ((G q x).1)=0:=bne_iff_ne.1 hb
   have hne:¬ ((G q x).1)=0:=h9;clear h9;clear hb;refine wp_seq_k fun K23 hK23=>rg h22 fun ops=>sS 0 2 underlying30 rfl infFault hW19 trivial rfl rfl rfl rfl <| sT 2 hW19 rfl rfl infFault rfl rfl rfl <| fun w24 hW24=>St.nil fun a25 h25=>hK23 _ _ ?_
   refine wp_ret ?_;with_reducible repeat first | refine Qd ?_ | refine Qc ?_
   have R:firstF G 0 l=G q x:=by have h9:=Qan (f:=G) (j:=0) hx1.out (fun k y hk hy=>by rw[Nat.zero_add];exact hall k y hk hy) (by rw[Nat.zero_add];exact hne);rwa [Nat.zero_add] at h9
   exact QQ 2 h25 hW24 rfl rfl rfl underlying30 rfl infFault ⟨by show Ending.returned (.agg #[.int .i64 ((G q x).1),.int .i64 ((G q x).2)])=_;rw[R],hW24.bel⟩
  have h9:((G q x).1)=0:=bne_eq_false_iff_eq.1 hb;have hne:Hid (((G q x).1)=0):=h9;clear h9;clear hb;refine wp_skip <| hK11 _ _ <| rg h22 fun ops=>sad (by omega) trivial rfl rfl rfl <| sm trivial rfl rfl <| St.nil fun a26 h26=>hKL _ _ (l.length - (q+1)) (by omega) ⟨q+1,by omega,rfl,?_,(h26.keep (h26.keep (h26.keep (h26.keep (h26.keep (h26.keep h26.nil (t:=10) rfl) (t:=9) rfl) (t:=8) rfl) (t:=4) rfl) (t:=0) rfl) (t:=1) rfl),hW19.tail.tail⟩
  ·intro j y hj hy
   by_cases e:j=q
   ·subst e;rw[hx1.out] at hy;cases hy;exact hne.out
   ·exact hall j y (by omega) hy
 have hge:q=l.length:=by have:=of_decide_eq_false hb;omega
 clear hb;refine wp_exit <| hK4 _ _ <| wp_seq_k fun K27 hK27=>rg h9 fun ops=>fun a28 h28=>Q7 (t:=24) (v:=.agg #[.int .i64 0,.int .i64 0]) (w':=w7) h28 rfl rfl rfl (fun K hK=>?_) ?_
 ·go_simp
  exact hK
 clear h28;intro a29 hF29;refine St.go hF29 <| sT 0 hW7 rfl rfl infFault rfl rfl rfl <| fun w30 hW30=>St.nil fun a31 h31=>hK27 _ _ ?_
 refine wp_ret ?_;with_reducible repeat first | refine Qd ?_ | refine Qc ?_
 have R:firstF G 0 l=(0,0):=ZJ (fun k y hy=>by rw[Nat.zero_add];exact hall k y (by have:=(Zi hy).1;omega) hy);exact QQ 0 h31 hW30 rfl rfl rfl underlying30 rfl infFault ⟨by show Ending.returned (.agg #[.int .i64 0,.int .i64 0])=_;rw[R],hW30.bel⟩
theorem Qfu {n:Nat}{l:List (Qh n)}{p:Option Addr}{c Bc:Nat}{w:World}(G:Nat→(Qh n)→Int × Int) (hl0:(ZD n).list.In w All l [.slice p l.length c]) (hsb:l.length≤100000)
 (hcl0:∀ (i:Nat) x (z:BP) wx,l[i]?=some x→BIn wx All x z→Below w.heap.size w wx→Rd prog 141 #[.int .i64 (i:Int),.agg #[.int .i64 x.regs,.slice z.pP x.params.length z.cP,.slice z.pC x.code.length z.cC,.int .i64 x.fin.op,.int .i64 x.fin.a,.int .i64 x.fin.yes.block,.slice z.e.pYR x.fin.yes.regs.length z.e.cYR,.slice z.e.pYA x.fin.yes.args.length z.e.cYA,.int .i64 x.fin.no.block,.slice z.e.pNR x.fin.no.regs.length z.e.cNR,.slice z.e.pNA x.fin.no.args.length z.e.cNA,.slice z.e.pA x.fin.args.length z.e.cA],.pointer (some ⟨Bc,0,none⟩)] wx (QX (G i x))) :
 Rd prog 140 #[.slice p l.length c,.func (.func 141) #[] #[.pointer (some ⟨Bc,0,none⟩)]] w (QX (firstF G 0 l)):=by
 have hl:Hid _:=hl0;have hcl:Hid _:=hcl0;clear hl0 hcl0;refine QC (n:=25) func140 rfl rfl rfl <| fun a hF=>?_
 have hW:=Wd.start w;replace hF:Fr 25 a [(0,.slice p l.length c),(1,.func (.func 141) #[] #[.pointer (some ⟨Bc,0,none⟩)])]:=hF;refine wp_seq_k fun K1 hK1=>rg hF fun ops=>ZP hW trivial rfl <| fun w2 B2 hW2 hN=>St.nil fun a3 h3=>hK1 _ _ <| wp_seq_k fun K4 hK4=>wp_seq_k fun K5 hK5=>rg h3 fun ops=>sm trivial rfl rfl <| QdM trivial rfl rfl <| sm trivial rfl rfl <| St.nil fun a6 h6=>hK5 _ _ <| wp_block <| Qay (fun r a w'=>∃ q:Nat,q≤l.length∧r=l.length - q∧(∀ (j:Nat) y,j<q→l[j]?=some y→(G j y).1=0)∧Fr 25 a [(1,.func (.func 141) #[] #[.pointer (some ⟨Bc,0,none⟩)]),(0,.slice p l.length c),(4,.pointer (some ⟨B2,0,none⟩)),(8,.slice p l.length c),(9,.int .i64 (l.length:Int)),(10,.int .i64 (q:Int))]∧Wd w w' [(B2,#[.int .i64 0,.int .i64 0],30)]) (l.length) ⟨0,Nat.zero_le _,rfl,(fun j y hj=>by omega),(h6.keep (h6.keep (h6.keep (h6.keep (h6.keep (h6.keep h6.nil (t:=10) rfl) (t:=9) rfl) (t:=8) rfl) (t:=4) rfl) (t:=0) rfl) (t:=1) rfl),hW2⟩ ?_
 clear h6 hW2;rintro r a7 w7 ⟨q,hq,hr,hall,hF7,hW7⟩ KL hKL;refine wp_seq_k fun K8 hK8=>rg hF7 fun ops=>slt trivial rfl rfl rfl <| St.nil fun a9 h9=>hK8 _ _ <| wp_seq_k fun K10 hK10=>QE (t:=11) h9 rfl (fun hb=>?_) (fun hb=>?_)
 ·have hlt1:q<l.length:=by have:=of_decide_eq_true hb;omega
  clear hb;obtain⟨x,hx1⟩:∃ v9,(l)[q]?=some v9:=⟨_,Zg hlt1⟩
  obtain⟨g1,o1,b1,hp1,E1,In1⟩:=QcF hl.out hx1
  replace In1:Hid _:=In1;replace hp1:Hid _:=hp1;replace hx1:Hid _:=hx1;replace E1:Hid _:=E1;refine wp_skip <| hK10 _ _ <| wp_seq_k fun K11 hK11=>wp_block <| wp_seq_k fun K12 hK12=>rg h9 fun ops=>sm trivial rfl rfl <| Qea hp1.out hlt1 trivial rfl rfl rfl <| sSE underlying84 rfl (Q0 E1.out hW7.bel) infBlock trivial rfl rfl <| Qfw hW7 trivial rfl <| fun w13 B13 hW13 hN=>sa trivial rfl rfl <| sT 0 hW13 rfl rfl infBlock rfl rfl rfl <| fun w14 hW14=>St.nil fun a15 h15=>hK12 _ _ <| wp_seq_k fun K16 hK16=>rg h15 fun ops=>sm trivial rfl rfl <| sm trivial rfl rfl <| sS 0 12 underlying84 rfl infBlock hW14 trivial rfl rfl rfl rfl <| QjU cf141 hW14 (hcl.out q x b1 w14 hx1.out (In1.out.below hW14.bel) hW14.bel) trivial rfl rfl rfl rfl <| fun w17 hW17=>ZP hW17 trivial rfl <| fun w18 B18 hW18 hN=>sT 0 hW18 rfl rfl infFault rfl rfl rfl <| fun w19 hW19=>St.nil fun a20 h20=>hK16 _ _ <| wp_seq_k fun K21 hK21=>rg h20 fun ops=>QcB trivial rfl rfl <| ZK 0 hW19 trivial rfl rfl rfl rfl <| sne trivial rfl rfl rfl <| St.nil fun a22 h22=>hK21 _ _ <| QE (t:=21) h22 rfl (fun hb=>?_) (fun hb=>?_)
  ·have h9:¬ ((G q x).1)=0:=bne_iff_ne.1 hb
   have hne:¬ ((G q x).1)=0:=h9;clear h9;clear hb;refine wp_seq_k fun K23 hK23=>rg h22 fun ops=>sS 0 2 underlying30 rfl infFault hW19 trivial rfl rfl rfl rfl <| sT 2 hW19 rfl rfl infFault rfl rfl rfl <| fun w24 hW24=>St.nil fun a25 h25=>hK23 _ _ ?_
   refine wp_ret ?_;with_reducible repeat first | refine Qd ?_ | refine Qc ?_
   have R:firstF G 0 l=G q x:=by have h9:=Qan (f:=G) (j:=0) hx1.out (fun k y hk hy=>by rw[Nat.zero_add];exact hall k y hk hy) (by rw[Nat.zero_add];exact hne);rwa [Nat.zero_add] at h9
   exact QQ 2 h25 hW24 rfl rfl rfl underlying30 rfl infFault ⟨by show Ending.returned (.agg #[.int .i64 ((G q x).1),.int .i64 ((G q x).2)])=_;rw[R],hW24.bel⟩
  have h9:((G q x).1)=0:=bne_eq_false_iff_eq.1 hb;have hne:Hid (((G q x).1)=0):=h9;clear h9;clear hb;refine wp_skip <| hK11 _ _ <| rg h22 fun ops=>sad (by omega) trivial rfl rfl rfl <| sm trivial rfl rfl <| St.nil fun a26 h26=>hKL _ _ (l.length - (q+1)) (by omega) ⟨q+1,by omega,rfl,?_,(h26.keep (h26.keep (h26.keep (h26.keep (h26.keep (h26.keep h26.nil (t:=10) rfl) (t:=9) rfl) (t:=8) rfl) (t:=4) rfl) (t:=0) rfl) (t:=1) rfl),hW19.tail.tail⟩
  ·intro j y hj hy
   by_cases e:j=q
   ·subst e;rw[hx1.out] at hy;cases hy;exact hne.out
   ·exact hall j y (by omega) hy
 have hge:q=l.length:=by have:=of_decide_eq_false hb;omega
 clear hb;refine wp_exit <| hK4 _ _ <| wp_seq_k fun K27 hK27=>rg h9 fun ops=>fun a28 h28=>Q7 (t:=24) (v:=.agg #[.int .i64 0,.int .i64 0]) (w':=w7) h28 rfl rfl rfl (fun K hK=>?_) ?_
 ·go_simp
  exact hK
 clear h28;intro a29 hF29;refine St.go hF29 <| sT 0 hW7 rfl rfl infFault rfl rfl rfl <| fun w30 hW30=>St.nil fun a31 h31=>hK27 _ _ ?_
 refine wp_ret ?_;with_reducible repeat first | refine Qd ?_ | refine Qc ?_
 have R:firstF G 0 l=(0,0):=ZJ (fun k y hy=>by rw[Nat.zero_add];exact hall k y (by have:=(Zi hy).1;omega) hy);exact QQ 0 h31 hW30 rfl rfl rfl underlying30 rfl infFault ⟨by show Ending.returned (.agg #[.int .i64 0,.int .i64 0])=_;rw[R],hW30.bel⟩
theorem QgG {n:Nat}{l:List (Qg n)}{p:Option Addr}{c Bc:Nat}{w:World}(G:Nat→(Qg n)→Int × Int) (hl0:(Qaq n).In w All l [.slice p l.length c]) (hsb:l.length≤100000)
 (hcl0:∀ (i:Nat) x (z:FP) wx,l[i]?=some x→FIn wx All x z→Below w.heap.size w wx→Rd prog 86 #[.int .i64 (i:Int),.agg #[.int .i64 x.regs,.slice z.pP x.params.length z.cP,.slice z.pR x.results.length z.cR,.slice z.pB x.blocks.length z.cB],.pointer (some ⟨Bc,0,none⟩)] wx (QX (G i x))) :
 Rd prog 85 #[.slice p l.length c,.func (.func 86) #[] #[.pointer (some ⟨Bc,0,none⟩)]] w (QX (firstF G 0 l)):=by
 have hl:Hid _:=hl0;have hcl:Hid _:=hcl0;clear hl0 hcl0;refine QC (n:=25) func85 rfl rfl rfl <| fun a hF=>?_
 have hW:=Wd.start w;replace hF:Fr 25 a [(0,.slice p l.length c),(1,.func (.func 86) #[] #[.pointer (some ⟨Bc,0,none⟩)])]:=hF;refine wp_seq_k fun K1 hK1=>rg hF fun ops=>ZP hW trivial rfl <| fun w2 B2 hW2 hN=>St.nil fun a3 h3=>hK1 _ _ <| wp_seq_k fun K4 hK4=>wp_seq_k fun K5 hK5=>rg h3 fun ops=>sm trivial rfl rfl <| Qcc trivial rfl rfl <| sm trivial rfl rfl <| St.nil fun a6 h6=>hK5 _ _ <| wp_block <| Qay (fun r a w'=>∃ q:Nat,q≤l.length∧r=l.length - q∧(∀ (j:Nat) y,j<q→l[j]?=some y→(G j y).1=0)∧Fr 25 a [(1,.func (.func 86) #[] #[.pointer (some ⟨Bc,0,none⟩)]),(0,.slice p l.length c),(4,.pointer (some ⟨B2,0,none⟩)),(8,.slice p l.length c),(9,.int .i64 (l.length:Int)),(10,.int .i64 (q:Int))]∧Wd w w' [(B2,#[.int .i64 0,.int .i64 0],30)]) (l.length) ⟨0,Nat.zero_le _,rfl,(fun j y hj=>by omega),(h6.keep (h6.keep (h6.keep (h6.keep (h6.keep (h6.keep h6.nil (t:=10) rfl) (t:=9) rfl) (t:=8) rfl) (t:=4) rfl) (t:=0) rfl) (t:=1) rfl),hW2⟩ ?_
 clear h6 hW2;rintro r a7 w7 ⟨q,hq,hr,hall,hF7,hW7⟩ KL hKL;refine wp_seq_k fun K8 hK8=>rg hF7 fun ops=>slt trivial rfl rfl rfl <| St.nil fun a9 h9=>hK8 _ _ <| wp_seq_k fun K10 hK10=>QE (t:=11) h9 rfl (fun hb=>?_) (fun hb=>?_)
 ·have hlt1:q<l.length:=by have:=of_decide_eq_true hb;omega
  clear hb;obtain⟨x,hx1⟩:∃ v9,(l)[q]?=some v9:=⟨_,Zg hlt1⟩
  obtain⟨g1,o1,f1,hp1,E1,In1⟩:=QcZ hl.out hx1
  replace In1:Hid _:=In1;replace hp1:Hid _:=hp1;replace hx1:Hid _:=hx1;replace E1:Hid _:=E1;refine wp_skip <| hK10 _ _ <| wp_seq_k fun K11 hK11=>wp_block <| wp_seq_k fun K12 hK12=>rg h9 fun ops=>sm trivial rfl rfl <| Qe8 hp1.out hlt1 trivial rfl rfl rfl <| sSE underlying55 rfl (Q0 E1.out hW7.bel) infFunc trivial rfl rfl <| Qht hW7 trivial rfl <| fun w13 B13 hW13 hN=>sa trivial rfl rfl <| sT 0 hW13 rfl rfl infFunc rfl rfl rfl <| fun w14 hW14=>St.nil fun a15 h15=>hK12 _ _ <| wp_seq_k fun K16 hK16=>rg h15 fun ops=>sm trivial rfl rfl <| sm trivial rfl rfl <| sS 0 4 underlying55 rfl infFunc hW14 trivial rfl rfl rfl rfl <| QjU cf86 hW14 (hcl.out q x f1 w14 hx1.out (In1.out.below hW14.bel) hW14.bel) trivial rfl rfl rfl rfl <| fun w17 hW17=>ZP hW17 trivial rfl <| fun w18 B18 hW18 hN=>sT 0 hW18 rfl rfl infFault rfl rfl rfl <| fun w19 hW19=>St.nil fun a20 h20=>hK16 _ _ <| wp_seq_k fun K21 hK21=>rg h20 fun ops=>QcB trivial rfl rfl <| ZK 0 hW19 trivial rfl rfl rfl rfl <| sne trivial rfl rfl rfl <| St.nil fun a22 h22=>hK21 _ _ <| QE (t:=21) h22 rfl (fun hb=>?_) (fun hb=>?_)
  ·have h9:¬ ((G q x).1)=0:=bne_iff_ne.1 hb
   have hne:¬ ((G q x).1)=0:=h9;clear h9;clear hb;refine wp_seq_k fun K23 hK23=>rg h22 fun ops=>sS 0 2 underlying30 rfl infFault hW19 trivial rfl rfl rfl rfl <| sT 2 hW19 rfl rfl infFault rfl rfl rfl <| fun w24 hW24=>St.nil fun a25 h25=>hK23 _ _ ?_
   refine wp_ret ?_;with_reducible repeat first | refine Qd ?_ | refine Qc ?_
   have R:firstF G 0 l=G q x:=by have h9:=Qan (f:=G) (j:=0) hx1.out (fun k y hk hy=>by rw[Nat.zero_add];exact hall k y hk hy) (by rw[Nat.zero_add];exact hne);rwa [Nat.zero_add] at h9
   exact QQ 2 h25 hW24 rfl rfl rfl underlying30 rfl infFault ⟨by show Ending.returned (.agg #[.int .i64 ((G q x).1),.int .i64 ((G q x).2)])=_;rw[R],hW24.bel⟩
  have h9:((G q x).1)=0:=bne_eq_false_iff_eq.1 hb;have hne:Hid (((G q x).1)=0):=h9;clear h9;clear hb;refine wp_skip <| hK11 _ _ <| rg h22 fun ops=>sad (by omega) trivial rfl rfl rfl <| sm trivial rfl rfl <| St.nil fun a26 h26=>hKL _ _ (l.length - (q+1)) (by omega) ⟨q+1,by omega,rfl,?_,(h26.keep (h26.keep (h26.keep (h26.keep (h26.keep (h26.keep h26.nil (t:=10) rfl) (t:=9) rfl) (t:=8) rfl) (t:=4) rfl) (t:=0) rfl) (t:=1) rfl),hW19.tail.tail⟩
  ·intro j y hj hy
   by_cases e:j=q
   ·subst e;rw[hx1.out] at hy;cases hy;exact hne.out
   ·exact hall j y (by omega) hy
 have hge:q=l.length:=by have:=of_decide_eq_false hb;omega
 clear hb;refine wp_exit <| hK4 _ _ <| wp_seq_k fun K27 hK27=>rg h9 fun ops=>fun a28 h28=>Q7 (t:=24) (v:=.agg #[.int .i64 0,.int .i64 0]) (w':=w7) h28 rfl rfl rfl (fun K hK=>?_) ?_
 ·go_simp
  exact hK
 clear h28;intro a29 hF29;refine St.go hF29 <| sT 0 hW7 rfl rfl infFault rfl rfl rfl <| fun w30 hW30=>St.nil fun a31 h31=>hK27 _ _ ?_
 refine wp_ret ?_;with_reducible repeat first | refine Qd ?_ | refine Qc ?_
 have R:firstF G 0 l=(0,0):=ZJ (fun k y hy=>by rw[Nat.zero_add];exact hall k y (by have:=(Zi hy).1;omega) hy);exact QQ 0 h31 hW30 rfl rfl rfl underlying30 rfl infFault ⟨by show Ending.returned (.agg #[.int .i64 0,.int .i64 0])=_;rw[R],hW30.bel⟩
theorem Qhd {n:Nat}{m:List (Qg n)}{p:Option Addr}{c:Nat}{x:Qg n}{fp:FP}{fi:Nat}{y:Qh n}{bp:BP}{bi:Nat}{Bc:Nat}{w:World}{z:Qy}{zi:IP}{q:Nat}(hq:q<1000000) (hm:m.length≤100000) (hfi:fi<1000000) (hbi:bi<1000000) (hcap0:Blk w Bc #[.slice p m.length c,.int .i64 x.regs,.slice fp.pP x.params.length fp.cP,.slice fp.pR x.results.length fp.cR,.slice fp.pB x.blocks.length fp.cB,.int .i64 (fi:Int),.int .i64 y.regs,.slice bp.pP y.params.length bp.cP,.slice bp.pC y.code.length bp.cC,.int .i64 y.fin.op,.int .i64 y.fin.a,.int .i64 y.fin.yes.block,.slice bp.e.pYR y.fin.yes.regs.length bp.e.cYR,.slice bp.e.pYA y.fin.yes.args.length bp.e.cYA,.int .i64 y.fin.no.block,.slice bp.e.pNR y.fin.no.regs.length bp.e.cNR,.slice bp.e.pNA y.fin.no.args.length bp.e.cNA,.slice bp.e.pA y.fin.args.length bp.e.cA,.int .i64 (bi:Int)] 181) :
 Rd prog 177 #[.int .i64 (q:Int),.agg #[.int .i64 z.op,.int .i64 z.a,.int .i64 z.b,.int .i64 z.c,.int .i64 z.k,.int .i64 z.n,.slice zi.pR z.regs.length zi.cR,.slice zi.pA z.args.length zi.cA],.pointer (some ⟨Bc,0,none⟩)] w (QX (atF (z.form m.length) (10000*(fi:Int)+100*(bi:Int)+(q:Int)))):=by
 have hcap:Hid _:=hcap0;clear hcap0;refine QC (n:=19) func177 rfl rfl rfl <| fun a hF=>?_
 have hW:=Wd.start w;replace hF:Fr 19 a [(0,.int .i64 (q:Int)),(1,.agg #[.int .i64 z.op,.int .i64 z.a,.int .i64 z.b,.int .i64 z.c,.int .i64 z.k,.int .i64 z.n,.slice zi.pR z.regs.length zi.cR,.slice zi.pA z.args.length zi.cA]),(2,.pointer (some ⟨Bc,0,none⟩))]:=hF;refine wp_seq_k fun K1 hK1=>rg hF fun ops=>sB hW trivial rfl rfl <| fun w2 B2 hW2 hN=>ZP hW2 trivial rfl <| fun w3 B3 hW3 hN=>St.nil fun a4 h4=>hK1 _ _ <| wp_seq_k fun K5 hK5=>?_
 have hF6:Fr 19 a4 [(2,.pointer (some ⟨Bc,0,none⟩)),(1,.agg #[.int .i64 z.op,.int .i64 z.a,.int .i64 z.b,.int .i64 z.c,.int .i64 z.k,.int .i64 z.n,.slice zi.pR z.regs.length zi.cR,.slice zi.pA z.args.length zi.cA]),(0,.int .i64 (q:Int)),(4,.pointer (some ⟨B2,0,none⟩)),(5,.pointer (some ⟨B3,0,none⟩))]:=(h4.keep (h4.keep (h4.keep (h4.keep (h4.keep h4.nil (t:=5) rfl) (t:=4) rfl) (t:=0) rfl) (t:=1) rfl) (t:=2) rfl);have ho2:a4.tmps.getD 2 undef=.pointer (some ⟨Bc,0,none⟩):=h4.sl 2 _ rfl;have ho4:a4.tmps.getD 4 undef=.pointer (some ⟨B2,0,none⟩):=h4.sl 4 _ rfl;have ho0:a4.tmps.getD 0 undef=.int .i64 (q:Int):=h4.sl 0 _ rfl;refine QbV 13 ([(2,fun v _=>v=.pointer (some ⟨Bc,0,none⟩)),(4,fun v _=>v=.pointer (some ⟨B2,0,none⟩)),(0,fun v _=>v=.int .i64 (q:Int)),(6,fun v _=>v=.pointer (some ⟨Bc,0,none⟩)),(7,fun v _=>v=.pointer (some ⟨Bc,0,none⟩)),(8,fun v _=>v=.agg #[.slice p m.length c]),(9,fun v _=>v=.agg #[.int .i64 z.op,.int .i64 z.a,.int .i64 z.b,.int .i64 z.c,.int .i64 z.k,.int .i64 z.n,.slice zi.pR z.regs.length zi.cR,.slice zi.pA z.args.length zi.cA]),(10,fun v _=>v=.int .i64 (z.form m.length)),(11,fun v _=>v=.pointer (some ⟨Bc,0,none⟩)),(12,fun v _=>v=.pointer (some ⟨Bc,5,none⟩)),(13,fun v _=>v=.int .i64 (fi:Int)),(14,fun v _=>v=.pointer (some ⟨Bc,18,none⟩)),(15,fun v _=>v=.int .i64 (bi:Int)),(16,fun v _=>v=.int .i64 (q:Int)),(17,fun v _=>v=.int .i64 (10000*(fi:Int)+100*(bi:Int)+(q:Int))),(18,fun v _=>v=.agg #[.int .i64 ((atF (z.form m.length) (10000*(fi:Int)+100*(bi:Int)+(q:Int))).1),.int .i64 ((atF (z.form m.length) (10000*(fi:Int)+100*(bi:Int)+(q:Int))).2)])]:Qbm) (fun w'=>Wd w w' [(B3,#[.int .i64 0,.int .i64 0],30),(B2,#[.int .i64 z.op,.int .i64 z.a,.int .i64 z.b,.int .i64 z.c,.int .i64 z.k,.int .i64 z.n,.slice zi.pR z.regs.length zi.cR,.slice zi.pA z.args.length zi.cA],59)]∧Below w3.heap.size w3 w') (fun w w'=>Below w.heap.size w w') (outs:=[2,4,0]) (gs:=[]) (bs:=[true,true,true,true,true,true,true,true,true,true,true,true,true]) (by kernel_rfl) hF6 rfl (by kernel_rfl) (by kernel_rfl) ?hR ?hG ⟨hW3.drewN 1,ZM (m:=1) Zr⟩ ⟨ho2,ho4,ho0,trivial⟩ ?hA ?hend
 case hR =>
  iterate 16 refine⟨fun _ _ _ _ h=>h,?_⟩
  trivial
 case hG=>exact trivial
 case hA =>
  iterate 4
   refine⟨fun a w hW hk K hK=>?_,?_⟩
   ·obtain⟨k0,-⟩:=hk
    conv at k0=>whnf;rhs;whnf
    have u0:w.cell? ⟨Bc,0,none⟩=some (.slice p m.length c):=QcH hW.1.bel (Qb hcap.out 0 _ rfl);have u1:w.cell? ⟨B2,0,none⟩=some (.int .i64 z.op):=Qb (hW.1.get 1 rfl) 0 _ rfl;have u2:w.cell? ⟨B2,1,none⟩=some (.int .i64 z.a):=Qb (hW.1.get 1 rfl) 1 _ rfl;have u3:w.cell? ⟨B2,2,none⟩=some (.int .i64 z.b):=Qb (hW.1.get 1 rfl) 2 _ rfl;have u4:w.cell? ⟨B2,3,none⟩=some (.int .i64 z.c):=Qb (hW.1.get 1 rfl) 3 _ rfl;have u5:w.cell? ⟨B2,4,none⟩=some (.int .i64 z.k):=Qb (hW.1.get 1 rfl) 4 _ rfl;have u6:w.cell? ⟨B2,5,none⟩=some (.int .i64 z.n):=Qb (hW.1.get 1 rfl) 5 _ rfl;have u7:w.cell? ⟨B2,6,none⟩=some (.slice zi.pR z.regs.length zi.cR):=Qb (hW.1.get 1 rfl) 6 _ rfl;have u8:w.cell? ⟨B2,7,none⟩=some (.slice zi.pA z.args.length zi.cA):=Qb (hW.1.get 1 rfl) 7 _ rfl;go_simp;exact hK _ _ Zr hW rfl
  refine⟨fun a w hW hk K hK=>?_,?_⟩
  ·obtain⟨k0,k1,-⟩:=hk
   conv at k0=>whnf;rhs;whnf
   conv at k1=>whnf;rhs;whnf
   have hC:Rd prog 68 #[.agg #[.slice p m.length c],.agg #[.int .i64 z.op,.int .i64 z.a,.int .i64 z.b,.int .i64 z.c,.int .i64 z.k,.int .i64 z.n,.slice zi.pR z.regs.length zi.cR,.slice zi.pA z.args.length zi.cA]] w (.int .i64 (z.form m.length)):=Qgd m.length z zi p c w (by omega);go_simp;refine hC.mono ?_;rintro e w9 ⟨rfl,hb⟩;exact hK _ _ hb ⟨hW.1.below hb,Below.andThen hW.2 hb⟩ rfl
  iterate 6
   refine⟨fun a w hW hk K hK=>?_,?_⟩
   ·obtain⟨k0,-⟩:=hk
    conv at k0=>whnf;rhs;whnf
    have u0:w.cell? ⟨Bc,5,none⟩=some (.int .i64 (fi:Int)):=QcH hW.1.bel (Qb hcap.out 5 _ rfl);have u1:w.cell? ⟨Bc,18,none⟩=some (.int .i64 (bi:Int)):=QcH hW.1.bel (Qb hcap.out 18 _ rfl);go_simp;exact hK _ _ Zr hW rfl
  refine⟨fun a w hW hk K hK=>?_,?_⟩
  ·obtain⟨k0,k1,k2,-⟩:=hk
   conv at k0=>whnf;rhs;whnf
   conv at k1=>whnf;rhs;whnf
   conv at k2=>whnf;rhs;whnf
   have hC:Rd prog 178 #[.int .i64 (fi:Int),.int .i64 (bi:Int),.int .i64 (q:Int)] w (.int .i64 (10000*(fi:Int)+100*(bi:Int)+(q:Int))):=Qgo (f:=fi) (b:=bi) (i:=q) ⟨by omega,by omega,by omega⟩;go_simp;refine hC.mono ?_;rintro e w9 ⟨rfl,hb⟩;exact hK _ _ hb ⟨hW.1.below hb,Below.andThen hW.2 hb⟩ rfl
  refine⟨fun a w hW hk K hK=>?_,?_⟩
  ·obtain⟨k0,k1,-⟩:=hk
   conv at k0=>whnf;rhs;whnf
   conv at k1=>whnf;rhs;whnf
   have hC:Rd prog 138 #[.int .i64 (z.form m.length),.int .i64 (10000*(fi:Int)+100*(bi:Int)+(q:Int))] w (.agg #[.int .i64 ((atF (z.form m.length) (10000*(fi:Int)+100*(bi:Int)+(q:Int))).1),.int .i64 ((atF (z.form m.length) (10000*(fi:Int)+100*(bi:Int)+(q:Int))).2)]):=QaI (xc:=z.form m.length) (xp:=10000*(fi:Int)+100*(bi:Int)+(q:Int));go_simp;refine hC.mono ?_;rintro e w9 ⟨rfl,hb⟩;exact hK _ _ hb ⟨hW.1.below hb,Below.andThen hW.2 hb⟩ rfl
  trivial
 case hend =>
  intro ops a7 w7 hWD hE hFD;have hd18:a7.tmps.getD 18 undef=.agg #[.int .i64 ((atF (z.form m.length) (10000*(fi:Int)+100*(bi:Int)+(q:Int))).1),.int .i64 ((atF (z.form m.length) (10000*(fi:Int)+100*(bi:Int)+(q:Int))).2)]:=hE 18 rfl;have hF7:Fr 19 a7 [(18,.agg #[.int .i64 ((atF (z.form m.length) (10000*(fi:Int)+100*(bi:Int)+(q:Int))).1),.int .i64 ((atF (z.form m.length) (10000*(fi:Int)+100*(bi:Int)+(q:Int))).2)]),(2,.pointer (some ⟨Bc,0,none⟩)),(1,.agg #[.int .i64 z.op,.int .i64 z.a,.int .i64 z.b,.int .i64 z.c,.int .i64 z.k,.int .i64 z.n,.slice zi.pR z.regs.length zi.cR,.slice zi.pA z.args.length zi.cA]),(0,.int .i64 (q:Int)),(4,.pointer (some ⟨B2,0,none⟩)),(5,.pointer (some ⟨B3,0,none⟩))]:=(hFD.cons hd18);clear hd18;have hW7:Wd w w7 [(B3,#[.int .i64 0,.int .i64 0],30),(B2,#[.int .i64 z.op,.int .i64 z.a,.int .i64 z.b,.int .i64 z.c,.int .i64 z.k,.int .i64 z.n,.slice zi.pR z.regs.length zi.cR,.slice zi.pA z.args.length zi.cA],59)]:=hWD.1;clear hFD hWD hE hF6 h4;clear hW3;refine St.go hF7 <| sT 0 hW7 rfl rfl infFault rfl rfl rfl <| fun w8 hW8=>St.nil fun a9 h9=>hK5 _ _ ?_
  refine wp_ret ?_;with_reducible repeat first | refine Qd ?_ | refine Qc ?_
  exact QQ 0 h9 hW8 rfl rfl rfl underlying30 rfl infFault ⟨rfl,hW8.bel⟩
theorem QcX {n:Nat}{m:List (Qg n)}{p:Option Addr}{c:Nat}{x:Qg n}{fp:FP}{fi:Nat}{y:Qh n}{bp:BP}{bi:Nat}{w:World}(hx0:FIn w All x fp) (hs0:x.small) (hy0:BIn w All y bp) (ht0:y.small) (hm:m.length≤100000) (hfi:fi<1000000) (hbi:bi<1000000) :
 Rd prog 142 #[.agg #[.slice p m.length c,.int .i64 x.regs,.slice fp.pP x.params.length fp.cP,.slice fp.pR x.results.length fp.cR,.slice fp.pB x.blocks.length fp.cB,.int .i64 (fi:Int),.int .i64 y.regs,.slice bp.pP y.params.length bp.cP,.slice bp.pC y.code.length bp.cC,.int .i64 y.fin.op,.int .i64 y.fin.a,.int .i64 y.fin.yes.block,.slice bp.e.pYR y.fin.yes.regs.length bp.e.cYR,.slice bp.e.pYA y.fin.yes.args.length bp.e.cYA,.int .i64 y.fin.no.block,.slice bp.e.pNR y.fin.no.regs.length bp.e.cNR,.slice bp.e.pNA y.fin.no.args.length bp.e.cNA,.slice bp.e.pA y.fin.args.length bp.e.cA,.int .i64 (bi:Int)]] w (QX (Qh.fault m.length fi x bi y)):=by
 have hx:Hid _:=hx0;have hs:Hid _:=hs0;have hy:Hid _:=hy0;have ht:Hid _:=ht0;clear hx0 hs0 hy0 ht0;refine QC (n:=40) func142 rfl rfl rfl <| fun a hF=>?_
 have hW:=Wd.start w;replace hF:Fr 40 a [(0,.agg #[.slice p m.length c,.int .i64 x.regs,.slice fp.pP x.params.length fp.cP,.slice fp.pR x.results.length fp.cR,.slice fp.pB x.blocks.length fp.cB,.int .i64 (fi:Int),.int .i64 y.regs,.slice bp.pP y.params.length bp.cP,.slice bp.pC y.code.length bp.cC,.int .i64 y.fin.op,.int .i64 y.fin.a,.int .i64 y.fin.yes.block,.slice bp.e.pYR y.fin.yes.regs.length bp.e.cYR,.slice bp.e.pYA y.fin.yes.args.length bp.e.cYA,.int .i64 y.fin.no.block,.slice bp.e.pNR y.fin.no.regs.length bp.e.cNR,.slice bp.e.pNA y.fin.no.args.length bp.e.cNA,.slice bp.e.pA y.fin.args.length bp.e.cA,.int .i64 (bi:Int)])]:=hF;refine wp_seq_k fun K1 hK1=>rg hF fun ops=>sB hW trivial rfl rfl <| fun w2 B2 hW2 hN=>ZP hW2 trivial rfl <| fun w3 B3 hW3 hN=>St.nil fun a4 h4=>hK1 _ _ <| wp_seq_k fun K5 hK5=>wp_seq_k fun K6 hK6=>rg h4 fun ops=>sS 1 19 underlying181 rfl infblockLook hW3 trivial rfl rfl rfl rfl <| QjB cf174 hW3 (Qd9 (m:=m) (p:=p) (c:=c) (fi:=fi) (bi:=bi) (hx.out.below hW3.bel) hs.out (hy.out.below hW3.bel) ht.out) trivial rfl rfl <| fun w7 hW7=>sa trivial rfl rfl <| St.nil fun a8 h8=>hK6 _ _ <| wp_seq_k fun K9 hK9=>rg h8 fun ops=>sm trivial rfl rfl <| sne trivial rfl rfl rfl <| St.nil fun a10 h10=>hK9 _ _ <| QE (t:=8) h10 rfl (fun hb=>?_) (fun hb=>?_)
 ·have h9:¬ (y.code' x bi)=0:=bne_iff_ne.1 hb
  have hc11:¬ (y.code' x bi)=0:=h9;clear h9;clear hb;refine wp_seq_k fun K12 hK12=>rg h10 fun ops=>sm trivial rfl rfl <| Qas trivial rfl rfl <| QcS trivial rfl rfl <| ZK 1 hW7 trivial rfl rfl rfl rfl <| Qco trivial rfl rfl <| ZK 1 hW7 trivial rfl rfl rfl rfl <| Qhv cf175 hW7 (QeL (f:=fi) (b:=bi) ⟨by omega,by omega⟩) trivial rfl rfl rfl <| fun w13 hW13=>Qhv cf138 hW13 (QaI (xc:=y.code' x bi) (xp:=10000*(fi:Int)+100*(bi:Int)+90)) trivial rfl rfl rfl <| fun w14 hW14=>sT 0 hW14 rfl rfl infFault rfl rfl rfl <| fun w15 hW15=>St.nil fun a16 h16=>hK12 _ _ ?_
  refine wp_ret ?_;with_reducible repeat first | refine Qd ?_ | refine Qc ?_
  have e0:=hc11;have EF:=Qh.fault_eq m.length fi x bi y;have EI:=QbD (f:=fun i z=>(Qy.form m.length z,(10000*(fi:Int)+100*(bi:Int)+(i:Int)))) (l:=y.code) (j:=0);dsimp only at EI
  rw[if_neg e0] at EF
  exact QQ 0 h16 hW15 rfl rfl rfl underlying30 rfl infFault ⟨by show Ending.returned (.agg #[.int .i64 ((atF (y.code' x bi) (10000*(fi:Int)+100*(bi:Int)+90)).1),.int .i64 ((atF (y.code' x bi) (10000*(fi:Int)+100*(bi:Int)+90)).2)])=_;rw[EF] ;simp[atF,e0],hW15.bel⟩
 have h9:(y.code' x bi)=0:=bne_eq_false_iff_eq.1 hb;have hc17:Hid ((y.code' x bi)=0):=h9;clear h9;clear hb;refine wp_skip <| hK5 _ _ <| wp_seq_k fun K18 hK18=>rg h10 fun ops=>Zd trivial rfl rfl <| Qb1 trivial rfl rfl <| Qgc 1 hW7 trivial rfl rfl rfl rfl <| fun a19 h19=>Q7 (t:=20) (v:=.func (.func 177) #[] #[.pointer (some ⟨B2,0,none⟩)]) (w':=w7) h19 rfl rfl rfl (fun K hK=>?_) ?_
 ·have k0:a19.tmps.getD 1 undef=.pointer (some ⟨B2,0,none⟩):=h19.sl 1 _ rfl
  go_simp;exact hK
 clear h19;intro a20 hF20;refine St.go hF20 ?_;clear hF20 a20;refine Qhv cf176 hW7 (Qhh (Bc:=B2) (fun i z=>atF (Qy.form m.length z) (10000*(fi:Int)+100*(bi:Int)+(i:Int))) (Lay.below hy.out.code hW7.bel) ht.out.1 (fun i z zi wx hz hi hb=>Qhd (y:=y) (by have h9:=(Zi hz).1;have:=ht.out.1;omega) hm hfi hbi ((hW7.get 1 rfl).below hb))) trivial rfl rfl rfl ?_;clear hW7;intro w21 hW21;refine ZP hW21 trivial rfl <| fun w22 B22 hW22 hN=>sT 0 hW22 rfl rfl infFault rfl rfl rfl <| fun w23 hW23=>St.nil fun a24 h24=>hK18 _ _ <| wp_seq_k fun K25 hK25=>wp_seq_k fun K26 hK26=>rg h24 fun ops=>QcB trivial rfl rfl <| ZK 0 hW23 trivial rfl rfl rfl rfl <| sne trivial rfl rfl rfl <| St.nil fun a27 h27=>hK26 _ _ <| QE (t:=24) h27 rfl (fun hb=>?_) (fun hb=>?_)
 ·have h9:¬ ((firstF (fun i z=>atF (Qy.form m.length z) (10000*(fi:Int)+100*(bi:Int)+(i:Int))) 0 y.code).1)=0:=bne_iff_ne.1 hb
  have hc28:¬ ((firstF (fun i z=>atF (Qy.form m.length z) (10000*(fi:Int)+100*(bi:Int)+(i:Int))) 0 y.code).1)=0:=h9;clear h9;clear hb;refine wp_seq_k fun K29 hK29=>rg h27 fun ops=>sS 0 2 underlying30 rfl infFault hW23 trivial rfl rfl rfl rfl <| sT 1 hW23 rfl rfl infFault rfl rfl rfl <| fun w30 hW30=>St.nil fun a31 h31=>hK29 _ _ ?_
  refine wp_ret ?_;with_reducible repeat first | refine Qd ?_ | refine Qc ?_
  have e0:=hc17.out;have e1:=hc28;have EF:=Qh.fault_eq m.length fi x bi y;have EI:=QbD (f:=fun i z=>(Qy.form m.length z,(10000*(fi:Int)+100*(bi:Int)+(i:Int)))) (l:=y.code) (j:=0);dsimp only at EI
  rw[if_pos e0,if_neg (by rw[← EI];exact e1),← EI] at EF
  exact QQ 1 h31 hW30 rfl rfl rfl underlying30 rfl infFault ⟨by show Ending.returned (.agg #[.int .i64 ((firstF (fun i z=>atF (Qy.form m.length z) (10000*(fi:Int)+100*(bi:Int)+(i:Int))) 0 y.code).1),.int .i64 ((firstF (fun i z=>atF (Qy.form m.length z) (10000*(fi:Int)+100*(bi:Int)+(i:Int))) 0 y.code).2)])=_;rw[EF],hW30.bel⟩
 have h9:((firstF (fun i z=>atF (Qy.form m.length z) (10000*(fi:Int)+100*(bi:Int)+(i:Int))) 0 y.code).1)=0:=bne_eq_false_iff_eq.1 hb;have hc32:Hid (((firstF (fun i z=>atF (Qy.form m.length z) (10000*(fi:Int)+100*(bi:Int)+(i:Int))) 0 y.code).1)=0):=h9;clear h9;clear hb;refine wp_skip <| hK25 _ _ <| wp_seq_k fun K33 hK33=>?_
 have hF34:Fr 40 a27 [(0,.agg #[.slice p m.length c,.int .i64 x.regs,.slice fp.pP x.params.length fp.cP,.slice fp.pR x.results.length fp.cR,.slice fp.pB x.blocks.length fp.cB,.int .i64 (fi:Int),.int .i64 y.regs,.slice bp.pP y.params.length bp.cP,.slice bp.pC y.code.length bp.cC,.int .i64 y.fin.op,.int .i64 y.fin.a,.int .i64 y.fin.yes.block,.slice bp.e.pYR y.fin.yes.regs.length bp.e.cYR,.slice bp.e.pYA y.fin.yes.args.length bp.e.cYA,.int .i64 y.fin.no.block,.slice bp.e.pNR y.fin.no.regs.length bp.e.cNR,.slice bp.e.pNA y.fin.no.args.length bp.e.cNA,.slice bp.e.pA y.fin.args.length bp.e.cA,.int .i64 (bi:Int)]),(1,.pointer (some ⟨B2,0,none⟩)),(2,.pointer (some ⟨B3,0,none⟩)),(3,.int .i64 (y.code' x bi)),(4,.pointer (some ⟨B22,0,none⟩))]:=(h27.keep (h27.keep (h27.keep (h27.keep (h27.keep h27.nil (t:=4) rfl) (t:=3) rfl) (t:=2) rfl) (t:=1) rfl) (t:=0) rfl);have ho1:a27.tmps.getD 1 undef=.pointer (some ⟨B2,0,none⟩):=h27.sl 1 _ rfl;refine QbV 14 ([(1,fun v _=>v=.pointer (some ⟨B2,0,none⟩)),(26,fun v _=>v=.pointer (some ⟨B2,0,none⟩)),(27,fun v _=>v=.pointer (some ⟨B2,1,none⟩)),(28,fun v _=>v=.agg #[.int .i64 x.regs,.slice fp.pP x.params.length fp.cP,.slice fp.pR x.results.length fp.cR,.slice fp.pB x.blocks.length fp.cB]),(29,fun v _=>v=.pointer (some ⟨B2,6,none⟩)),(30,fun v _=>v=.pointer (some ⟨B2,9,none⟩)),(31,fun v _=>v=.agg #[.int .i64 y.fin.op,.int .i64 y.fin.a,.int .i64 y.fin.yes.block,.slice bp.e.pYR y.fin.yes.regs.length bp.e.cYR,.slice bp.e.pYA y.fin.yes.args.length bp.e.cYA,.int .i64 y.fin.no.block,.slice bp.e.pNR y.fin.no.regs.length bp.e.cNR,.slice bp.e.pNA y.fin.no.args.length bp.e.cNA,.slice bp.e.pA y.fin.args.length bp.e.cA]),(32,fun v _=>v=.int .i64 (y.fin.form x.blocks.length)),(33,fun v _=>v=.pointer (some ⟨B2,0,none⟩)),(34,fun v _=>v=.pointer (some ⟨B2,5,none⟩)),(35,fun v _=>v=.int .i64 (fi:Int)),(36,fun v _=>v=.pointer (some ⟨B2,18,none⟩)),(37,fun v _=>v=.int .i64 (bi:Int)),(38,fun v _=>v=.int .i64 (10000*(fi:Int)+100*(bi:Int)+91)),(39,fun v _=>v=.agg #[.int .i64 ((atF (y.fin.form x.blocks.length) (10000*(fi:Int)+100*(bi:Int)+91)).1),.int .i64 ((atF (y.fin.form x.blocks.length) (10000*(fi:Int)+100*(bi:Int)+91)).2)])]:Qbm) (fun w'=>Wd w w' [(B22,#[.int .i64 ((firstF (fun i z=>atF (Qy.form m.length z) (10000*(fi:Int)+100*(bi:Int)+(i:Int))) 0 y.code).1),.int .i64 ((firstF (fun i z=>atF (Qy.form m.length z) (10000*(fi:Int)+100*(bi:Int)+(i:Int))) 0 y.code).2)],30),(B3,#[.int .i64 0,.int .i64 0],30),(B2,#[.slice p m.length c,.int .i64 x.regs,.slice fp.pP x.params.length fp.cP,.slice fp.pR x.results.length fp.cR,.slice fp.pB x.blocks.length fp.cB,.int .i64 (fi:Int),.int .i64 y.regs,.slice bp.pP y.params.length bp.cP,.slice bp.pC y.code.length bp.cC,.int .i64 y.fin.op,.int .i64 y.fin.a,.int .i64 y.fin.yes.block,.slice bp.e.pYR y.fin.yes.regs.length bp.e.cYR,.slice bp.e.pYA y.fin.yes.args.length bp.e.cYA,.int .i64 y.fin.no.block,.slice bp.e.pNR y.fin.no.regs.length bp.e.cNR,.slice bp.e.pNA y.fin.no.args.length bp.e.cNA,.slice bp.e.pA y.fin.args.length bp.e.cA,.int .i64 (bi:Int)],181)]∧Below w23.heap.size w23 w') (fun w w'=>Below w.heap.size w w') (outs:=[1]) (gs:=[]) (bs:=[true,true,true,true,true,true,true,true,true,true,true,true,true,true]) (by kernel_rfl) hF34 rfl (by kernel_rfl) (by kernel_rfl) ?hR ?hG ⟨hW23.drewN 1,ZM (m:=1) Zr⟩ ⟨ho1,trivial⟩ ?hA ?hend
 case hR =>
  iterate 15 refine⟨fun _ _ _ _ h=>h,?_⟩
  trivial
 case hG=>exact trivial
 case hA =>
  iterate 6
   refine⟨fun a w hW hk K hK=>?_,?_⟩
   ·obtain⟨k0,-⟩:=hk
    conv at k0=>whnf;rhs;whnf
    have u0:w.cell? ⟨B2,1,none⟩=some (.int .i64 x.regs):=Qb (hW.1.get 2 rfl) 1 _ rfl;have u1:w.cell? ⟨B2,2,none⟩=some (.slice fp.pP x.params.length fp.cP):=Qb (hW.1.get 2 rfl) 2 _ rfl;have u2:w.cell? ⟨B2,3,none⟩=some (.slice fp.pR x.results.length fp.cR):=Qb (hW.1.get 2 rfl) 3 _ rfl;have u3:w.cell? ⟨B2,4,none⟩=some (.slice fp.pB x.blocks.length fp.cB):=Qb (hW.1.get 2 rfl) 4 _ rfl;have u4:w.cell? ⟨B2,9,none⟩=some (.int .i64 y.fin.op):=Qb (hW.1.get 2 rfl) 9 _ rfl;have u5:w.cell? ⟨B2,10,none⟩=some (.int .i64 y.fin.a):=Qb (hW.1.get 2 rfl) 10 _ rfl;have u6:w.cell? ⟨B2,11,none⟩=some (.int .i64 y.fin.yes.block):=Qb (hW.1.get 2 rfl) 11 _ rfl;have u7:w.cell? ⟨B2,12,none⟩=some (.slice bp.e.pYR y.fin.yes.regs.length bp.e.cYR):=Qb (hW.1.get 2 rfl) 12 _ rfl;have u8:w.cell? ⟨B2,13,none⟩=some (.slice bp.e.pYA y.fin.yes.args.length bp.e.cYA):=Qb (hW.1.get 2 rfl) 13 _ rfl;have u9:w.cell? ⟨B2,14,none⟩=some (.int .i64 y.fin.no.block):=Qb (hW.1.get 2 rfl) 14 _ rfl;have u10:w.cell? ⟨B2,15,none⟩=some (.slice bp.e.pNR y.fin.no.regs.length bp.e.cNR):=Qb (hW.1.get 2 rfl) 15 _ rfl;have u11:w.cell? ⟨B2,16,none⟩=some (.slice bp.e.pNA y.fin.no.args.length bp.e.cNA):=Qb (hW.1.get 2 rfl) 16 _ rfl;have u12:w.cell? ⟨B2,17,none⟩=some (.slice bp.e.pA y.fin.args.length bp.e.cA):=Qb (hW.1.get 2 rfl) 17 _ rfl;go_simp;exact hK _ _ Zr hW rfl
  refine⟨fun a w hW hk K hK=>?_,?_⟩
  ·obtain⟨k0,k1,-⟩:=hk
   conv at k0=>whnf;rhs;whnf
   conv at k1=>whnf;rhs;whnf
   have hC:Rd prog 76 #[.agg #[.int .i64 x.regs,.slice fp.pP x.params.length fp.cP,.slice fp.pR x.results.length fp.cR,.slice fp.pB x.blocks.length fp.cB],.agg #[.int .i64 y.fin.op,.int .i64 y.fin.a,.int .i64 y.fin.yes.block,.slice bp.e.pYR y.fin.yes.regs.length bp.e.cYR,.slice bp.e.pYA y.fin.yes.args.length bp.e.cYA,.int .i64 y.fin.no.block,.slice bp.e.pNR y.fin.no.regs.length bp.e.cNR,.slice bp.e.pNA y.fin.no.args.length bp.e.cNA,.slice bp.e.pA y.fin.args.length bp.e.cA]] w (.int .i64 (y.fin.form x.blocks.length)):=Qf0 (x:=y.fin) (e:=bp.e) (fr:=x.regs) (fp:=fp.pP) (fl:=x.params.length) (fc:=fp.cP) (fq:=fp.pR) (fm:=x.results.length) (fd:=fp.cR) (fb:=fp.pB) (bl:=x.blocks.length) (fe:=fp.cB) (by have:=ht.out.2.2.1;exact⟨by have:=this.1.1;omega,by have:=this.1.2;omega,by have:=this.2.1.1;omega,by have:=this.2.1.2;omega⟩) (by have:=hs.out.1;omega);go_simp;refine hC.mono ?_;rintro e w9 ⟨rfl,hb⟩;exact hK _ _ hb ⟨hW.1.below hb,Below.andThen hW.2 hb⟩ rfl
  iterate 5
   refine⟨fun a w hW hk K hK=>?_,?_⟩
   ·obtain⟨k0,-⟩:=hk
    conv at k0=>whnf;rhs;whnf
    have u0:w.cell? ⟨B2,5,none⟩=some (.int .i64 (fi:Int)):=Qb (hW.1.get 2 rfl) 5 _ rfl;have u1:w.cell? ⟨B2,18,none⟩=some (.int .i64 (bi:Int)):=Qb (hW.1.get 2 rfl) 18 _ rfl;go_simp;exact hK _ _ Zr hW rfl
  refine⟨fun a w hW hk K hK=>?_,?_⟩
  ·obtain⟨k0,k1,-⟩:=hk
   conv at k0=>whnf;rhs;whnf
   conv at k1=>whnf;rhs;whnf
   have hC:Rd prog 179 #[.int .i64 (fi:Int),.int .i64 (bi:Int)] w (.int .i64 (10000*(fi:Int)+100*(bi:Int)+91)):=Qgy (f:=fi) (b:=bi) ⟨by omega,by omega⟩;go_simp;refine hC.mono ?_;rintro e w9 ⟨rfl,hb⟩;exact hK _ _ hb ⟨hW.1.below hb,Below.andThen hW.2 hb⟩ rfl
  refine⟨fun a w hW hk K hK=>?_,?_⟩
  ·obtain⟨k0,k1,-⟩:=hk
   conv at k0=>whnf;rhs;whnf
   conv at k1=>whnf;rhs;whnf
   have hC:Rd prog 138 #[.int .i64 (y.fin.form x.blocks.length),.int .i64 (10000*(fi:Int)+100*(bi:Int)+91)] w (.agg #[.int .i64 ((atF (y.fin.form x.blocks.length) (10000*(fi:Int)+100*(bi:Int)+91)).1),.int .i64 ((atF (y.fin.form x.blocks.length) (10000*(fi:Int)+100*(bi:Int)+91)).2)]):=QaI (xc:=y.fin.form x.blocks.length) (xp:=10000*(fi:Int)+100*(bi:Int)+91);go_simp;refine hC.mono ?_;rintro e w9 ⟨rfl,hb⟩;exact hK _ _ hb ⟨hW.1.below hb,Below.andThen hW.2 hb⟩ rfl
  trivial
 case hend =>
  intro ops a35 w35 hWD hE hFD;have hd39:a35.tmps.getD 39 undef=.agg #[.int .i64 ((atF (y.fin.form x.blocks.length) (10000*(fi:Int)+100*(bi:Int)+91)).1),.int .i64 ((atF (y.fin.form x.blocks.length) (10000*(fi:Int)+100*(bi:Int)+91)).2)]:=hE 39 rfl;have hF35:Fr 40 a35 [(39,.agg #[.int .i64 ((atF (y.fin.form x.blocks.length) (10000*(fi:Int)+100*(bi:Int)+91)).1),.int .i64 ((atF (y.fin.form x.blocks.length) (10000*(fi:Int)+100*(bi:Int)+91)).2)]),(0,.agg #[.slice p m.length c,.int .i64 x.regs,.slice fp.pP x.params.length fp.cP,.slice fp.pR x.results.length fp.cR,.slice fp.pB x.blocks.length fp.cB,.int .i64 (fi:Int),.int .i64 y.regs,.slice bp.pP y.params.length bp.cP,.slice bp.pC y.code.length bp.cC,.int .i64 y.fin.op,.int .i64 y.fin.a,.int .i64 y.fin.yes.block,.slice bp.e.pYR y.fin.yes.regs.length bp.e.cYR,.slice bp.e.pYA y.fin.yes.args.length bp.e.cYA,.int .i64 y.fin.no.block,.slice bp.e.pNR y.fin.no.regs.length bp.e.cNR,.slice bp.e.pNA y.fin.no.args.length bp.e.cNA,.slice bp.e.pA y.fin.args.length bp.e.cA,.int .i64 (bi:Int)]),(1,.pointer (some ⟨B2,0,none⟩)),(2,.pointer (some ⟨B3,0,none⟩)),(3,.int .i64 (y.code' x bi)),(4,.pointer (some ⟨B22,0,none⟩))]:=(hFD.cons hd39);clear hd39;have hW35:Wd w w35 [(B22,#[.int .i64 ((firstF (fun i z=>atF (Qy.form m.length z) (10000*(fi:Int)+100*(bi:Int)+(i:Int))) 0 y.code).1),.int .i64 ((firstF (fun i z=>atF (Qy.form m.length z) (10000*(fi:Int)+100*(bi:Int)+(i:Int))) 0 y.code).2)],30),(B3,#[.int .i64 0,.int .i64 0],30),(B2,#[.slice p m.length c,.int .i64 x.regs,.slice fp.pP x.params.length fp.cP,.slice fp.pR x.results.length fp.cR,.slice fp.pB x.blocks.length fp.cB,.int .i64 (fi:Int),.int .i64 y.regs,.slice bp.pP y.params.length bp.cP,.slice bp.pC y.code.length bp.cC,.int .i64 y.fin.op,.int .i64 y.fin.a,.int .i64 y.fin.yes.block,.slice bp.e.pYR y.fin.yes.regs.length bp.e.cYR,.slice bp.e.pYA y.fin.yes.args.length bp.e.cYA,.int .i64 y.fin.no.block,.slice bp.e.pNR y.fin.no.regs.length bp.e.cNR,.slice bp.e.pNA y.fin.no.args.length bp.e.cNA,.slice bp.e.pA y.fin.args.length bp.e.cA,.int .i64 (bi:Int)],181)]:=hWD.1;clear hFD hWD hE hF34 h27;clear hW23;refine St.go hF35 <| sT 1 hW35 rfl rfl infFault rfl rfl rfl <| fun w36 hW36=>St.nil fun a37 h37=>hK33 _ _ ?_
  refine wp_ret ?_;with_reducible repeat first | refine Qd ?_ | refine Qc ?_
  have e0:=hc17.out;have e1:=hc32.out;have EF:=Qh.fault_eq m.length fi x bi y;have EI:=QbD (f:=fun i z=>(Qy.form m.length z,(10000*(fi:Int)+100*(bi:Int)+(i:Int)))) (l:=y.code) (j:=0);dsimp only at EI
  rw[if_pos e0,if_pos (by rw[← EI];exact e1)] at EF
  exact QQ 1 h37 hW36 rfl rfl rfl underlying30 rfl infFault ⟨by show Ending.returned (.agg #[.int .i64 ((atF (y.fin.form x.blocks.length) (10000*(fi:Int)+100*(bi:Int)+91)).1),.int .i64 ((atF (y.fin.form x.blocks.length) (10000*(fi:Int)+100*(bi:Int)+91)).2)])=_;rw[EF],hW36.bel⟩
theorem Qib {n:Nat}{m:List (Qg n)}{p:Option Addr}{c:Nat}{x:Qg n}{fp:FP}{fi:Nat}{y:Qh n}{bp:BP}{bi:Nat}{w:World}(hx0:FIn w All x fp) (hs0:x.small) (hy0:BIn w All y bp) (ht0:y.small){Bc:Nat}(hm:m.length≤100000) (hfi:fi<1000000) (hbi:bi<1000000) (hcap0:Blk w Bc #[.slice p m.length c,.int .i64 x.regs,.slice fp.pP x.params.length fp.cP,.slice fp.pR x.results.length fp.cR,.slice fp.pB x.blocks.length fp.cB,.int .i64 (fi:Int)] 134) :
 Rd prog 141 #[.int .i64 (bi:Int),.agg #[.int .i64 y.regs,.slice bp.pP y.params.length bp.cP,.slice bp.pC y.code.length bp.cC,.int .i64 y.fin.op,.int .i64 y.fin.a,.int .i64 y.fin.yes.block,.slice bp.e.pYR y.fin.yes.regs.length bp.e.cYR,.slice bp.e.pYA y.fin.yes.args.length bp.e.cYA,.int .i64 y.fin.no.block,.slice bp.e.pNR y.fin.no.regs.length bp.e.cNR,.slice bp.e.pNA y.fin.no.args.length bp.e.cNA,.slice bp.e.pA y.fin.args.length bp.e.cA],.pointer (some ⟨Bc,0,none⟩)] w (QX (Qh.fault m.length fi x bi y)):=by
 have hx:Hid _:=hx0;have hs:Hid _:=hs0;have hy:Hid _:=hy0;have ht:Hid _:=ht0;clear hx0 hs0 hy0 ht0;have hcap:Hid _:=hcap0;clear hcap0;refine QC (n:=11) func141 rfl rfl rfl <| fun a hF=>?_
 have hW:=Wd.start w;replace hF:Fr 11 a [(0,.int .i64 (bi:Int)),(1,.agg #[.int .i64 y.regs,.slice bp.pP y.params.length bp.cP,.slice bp.pC y.code.length bp.cC,.int .i64 y.fin.op,.int .i64 y.fin.a,.int .i64 y.fin.yes.block,.slice bp.e.pYR y.fin.yes.regs.length bp.e.cYR,.slice bp.e.pYA y.fin.yes.args.length bp.e.cYA,.int .i64 y.fin.no.block,.slice bp.e.pNR y.fin.no.regs.length bp.e.cNR,.slice bp.e.pNA y.fin.no.args.length bp.e.cNA,.slice bp.e.pA y.fin.args.length bp.e.cA]),(2,.pointer (some ⟨Bc,0,none⟩))]:=hF;refine wp_seq_k fun K1 hK1=>rg hF fun ops=>sB hW trivial rfl rfl <| fun w2 B2 hW2 hN=>ZP hW2 trivial rfl <| fun w3 B3 hW3 hN=>St.nil fun a4 h4=>hK1 _ _ <| wp_seq_k fun K5 hK5=>rg h4 fun ops=>sSE underlying134 rfl (Q0 (QdT hcap.out 0 6 rfl) hW3.bel) inffuncLook trivial rfl rfl <| sS 1 12 underlying84 rfl infBlock hW3 trivial rfl rfl rfl rfl <| sm trivial rfl rfl <| fun a6 h6=>Q7 (t:=9) (v:=.agg #[.slice p m.length c,.int .i64 x.regs,.slice fp.pP x.params.length fp.cP,.slice fp.pR x.results.length fp.cR,.slice fp.pB x.blocks.length fp.cB,.int .i64 (fi:Int),.int .i64 y.regs,.slice bp.pP y.params.length bp.cP,.slice bp.pC y.code.length bp.cC,.int .i64 y.fin.op,.int .i64 y.fin.a,.int .i64 y.fin.yes.block,.slice bp.e.pYR y.fin.yes.regs.length bp.e.cYR,.slice bp.e.pYA y.fin.yes.args.length bp.e.cYA,.int .i64 y.fin.no.block,.slice bp.e.pNR y.fin.no.regs.length bp.e.cNR,.slice bp.e.pNA y.fin.no.args.length bp.e.cNA,.slice bp.e.pA y.fin.args.length bp.e.cA,.int .i64 (bi:Int)]) (w':=w3) h6 rfl rfl rfl (fun K hK=>?_) ?_
 ·have k0:a6.tmps[6]?.getD undef=.agg #[.slice p m.length c,.int .i64 x.regs,.slice fp.pP x.params.length fp.cP,.slice fp.pR x.results.length fp.cR,.slice fp.pB x.blocks.length fp.cB,.int .i64 (fi:Int)]:=h6.sl2 6 _ rfl
  have k1:a6.tmps[7]?.getD undef=.agg #[.int .i64 y.regs,.slice bp.pP y.params.length bp.cP,.slice bp.pC y.code.length bp.cC,.int .i64 y.fin.op,.int .i64 y.fin.a,.int .i64 y.fin.yes.block,.slice bp.e.pYR y.fin.yes.regs.length bp.e.cYR,.slice bp.e.pYA y.fin.yes.args.length bp.e.cYA,.int .i64 y.fin.no.block,.slice bp.e.pNR y.fin.no.regs.length bp.e.cNR,.slice bp.e.pNA y.fin.no.args.length bp.e.cNA,.slice bp.e.pA y.fin.args.length bp.e.cA]:=h6.sl2 7 _ rfl;have k2:a6.tmps[8]?.getD undef=.int .i64 (bi:Int):=h6.sl2 8 _ rfl;go_simp;exact hK
 clear h6;intro a7 hF7;refine St.go hF7 <| QjB cf142 hW3 (QcX (m:=m) (p:=p) (c:=c) (x:=x) (fp:=fp) (fi:=fi) (y:=y) (bp:=bp) (bi:=bi) (hx.out.below hW3.bel) hs.out (hy.out.below hW3.bel) ht.out hm hfi hbi) trivial rfl rfl <| fun w8 hW8=>sT 0 hW8 rfl rfl infFault rfl rfl rfl <| fun w9 hW9=>St.nil fun a10 h10=>hK5 _ _ ?_
 refine wp_ret ?_;with_reducible repeat first | refine Qd ?_ | refine Qc ?_
 exact QQ 0 h10 hW9 rfl rfl rfl underlying30 rfl infFault ⟨rfl,hW9.bel⟩
theorem Qdg {n:Nat}{m:List (Qg n)}{p:Option Addr}{c:Nat}{x:Qg n}{fp:FP}{fi:Nat}{w:World}(hx0:FIn w All x fp) (hs0:x.small) (hm:m.length≤100000) (hfi:fi<1000000) :
 Rd prog 87 #[.agg #[.slice p m.length c,.int .i64 x.regs,.slice fp.pP x.params.length fp.cP,.slice fp.pR x.results.length fp.cR,.slice fp.pB x.blocks.length fp.cB,.int .i64 (fi:Int)]] w (QX (Qg.fault m.length fi x)):=by
 have hx:Hid _:=hx0;have hs:Hid _:=hs0;clear hx0 hs0;refine QC (n:=18) func87 rfl rfl rfl <| fun a hF=>?_
 have hW:=Wd.start w;replace hF:Fr 18 a [(0,.agg #[.slice p m.length c,.int .i64 x.regs,.slice fp.pP x.params.length fp.cP,.slice fp.pR x.results.length fp.cR,.slice fp.pB x.blocks.length fp.cB,.int .i64 (fi:Int)])]:=hF;refine wp_seq_k fun K1 hK1=>rg hF fun ops=>sB hW trivial rfl rfl <| fun w2 B2 hW2 hN=>ZP hW2 trivial rfl <| fun w3 B3 hW3 hN=>St.nil fun a4 h4=>hK1 _ _ <| wp_seq_k fun K5 hK5=>wp_seq_k fun K6 hK6=>rg h4 fun ops=>sS 1 6 underlying134 rfl inffuncLook hW3 trivial rfl rfl rfl rfl <| QjB cf137 hW3 (Qev (m:=m) (p:=p) (c:=c) (fi:=fi) (hx.out.below hW3.bel) hs.out) trivial rfl rfl <| fun w7 hW7=>sa trivial rfl rfl <| St.nil fun a8 h8=>hK6 _ _ <| wp_seq_k fun K9 hK9=>rg h8 fun ops=>sm trivial rfl rfl <| sne trivial rfl rfl rfl <| St.nil fun a10 h10=>hK9 _ _ <| QE (t:=7) h10 rfl (fun hb=>?_) (fun hb=>?_)
 ·have h9:¬ (x.code fi)=0:=bne_iff_ne.1 hb
  have hc11:¬ (x.code fi)=0:=h9;clear h9;clear hb;refine wp_seq_k fun K12 hK12=>rg h10 fun ops=>sm trivial rfl rfl <| QcS trivial rfl rfl <| ZK 1 hW7 trivial rfl rfl rfl rfl <| QjB cf139 hW7 (QfN (f:=fi) (by omega)) trivial rfl rfl <| fun w13 hW13=>Qhv cf138 hW13 (QaI (xc:=x.code fi) (xp:=10000*(fi:Int)+9999)) trivial rfl rfl rfl <| fun w14 hW14=>sT 0 hW14 rfl rfl infFault rfl rfl rfl <| fun w15 hW15=>St.nil fun a16 h16=>hK12 _ _ ?_
  refine wp_ret ?_;with_reducible repeat first | refine Qd ?_ | refine Qc ?_
  have e0:=hc11;have EF:=Qg.fault_eq m.length fi x;rw[if_neg e0] at EF
  exact QQ 0 h16 hW15 rfl rfl rfl underlying30 rfl infFault ⟨by show Ending.returned (.agg #[.int .i64 ((atF (x.code fi) (10000*(fi:Int)+9999)).1),.int .i64 ((atF (x.code fi) (10000*(fi:Int)+9999)).2)])=_;rw[EF] ;simp[atF,e0],hW15.bel⟩
 have h9:(x.code fi)=0:=bne_eq_false_iff_eq.1 hb;have hc17:Hid ((x.code fi)=0):=h9;clear h9;clear hb;refine wp_skip <| hK5 _ _ <| wp_seq_k fun K18 hK18=>rg h10 fun ops=>ZO trivial rfl rfl <| Qe7 trivial rfl rfl <| Qgb 1 hW7 trivial rfl rfl rfl rfl <| fun a19 h19=>Q7 (t:=16) (v:=.func (.func 141) #[] #[.pointer (some ⟨B2,0,none⟩)]) (w':=w7) h19 rfl rfl rfl (fun K hK=>?_) ?_
 ·have k0:a19.tmps.getD 1 undef=.pointer (some ⟨B2,0,none⟩):=h19.sl 1 _ rfl
  go_simp;exact hK
 clear h19;intro a20 hF20;refine St.go hF20 ?_;clear hF20 a20;refine Qhv cf140 hW7 (Qfu (Bc:=B2) (fun b y=>Qh.fault m.length fi x b y) (Lay.below hx.out.blocks hW7.bel) (by have:=hs.out.1;omega) (fun b y yi wx hz hi hb=>Qib ((hx.out.below hW7.bel).below hb) hs.out hi (hs.out.2.2.2 _ (Zm hz)) hm hfi (by have h9:=(Zi hz).1;have:=hs.out.1;omega) ((hW7.get 1 rfl).below hb))) trivial rfl rfl rfl ?_;clear hW7;intro w21 hW21;refine sT 0 hW21 rfl rfl infFault rfl rfl rfl <| fun w22 hW22=>St.nil fun a23 h23=>hK18 _ _ ?_
 refine wp_ret ?_;with_reducible repeat first | refine Qd ?_ | refine Qc ?_
 have e0:=hc17.out;have EF:=Qg.fault_eq m.length fi x;rw[if_pos e0] at EF
 exact QQ 0 h23 hW22 rfl rfl rfl underlying30 rfl infFault ⟨by show Ending.returned (.agg #[.int .i64 ((firstF (fun b y=>Qh.fault m.length fi x b y) 0 x.blocks).1),.int .i64 ((firstF (fun b y=>Qh.fault m.length fi x b y) 0 x.blocks).2)])=_;rw[EF],hW22.bel⟩
theorem Qiv {n:Nat}{m:List (Qg n)}{p:Option Addr}{c:Nat}{x:Qg n}{fp:FP}{fi:Nat}{w:World}(hx0:FIn w All x fp) (hs0:x.small){Bc:Nat}(hm:m.length≤100000) (hfi:fi<1000000) (hcap0:Blk w Bc #[.slice p m.length c] 24) :
 Rd prog 86 #[.int .i64 (fi:Int),.agg #[.int .i64 x.regs,.slice fp.pP x.params.length fp.cP,.slice fp.pR x.results.length fp.cR,.slice fp.pB x.blocks.length fp.cB],.pointer (some ⟨Bc,0,none⟩)] w (QX (Qg.fault m.length fi x)):=by
 have hx:Hid _:=hx0;have hs:Hid _:=hs0;clear hx0 hs0;have hcap:Hid _:=hcap0;clear hcap0;refine QC (n:=11) func86 rfl rfl rfl <| fun a hF=>?_
 have hW:=Wd.start w;replace hF:Fr 11 a [(0,.int .i64 (fi:Int)),(1,.agg #[.int .i64 x.regs,.slice fp.pP x.params.length fp.cP,.slice fp.pR x.results.length fp.cR,.slice fp.pB x.blocks.length fp.cB]),(2,.pointer (some ⟨Bc,0,none⟩))]:=hF;refine wp_seq_k fun K1 hK1=>rg hF fun ops=>sB hW trivial rfl rfl <| fun w2 B2 hW2 hN=>ZP hW2 trivial rfl <| fun w3 B3 hW3 hN=>St.nil fun a4 h4=>hK1 _ _ <| wp_seq_k fun K5 hK5=>rg h4 fun ops=>sSE underlying24 rfl (Q0 (QdT hcap.out 0 1 rfl) hW3.bel) infModule trivial rfl rfl <| sS 1 4 underlying55 rfl infFunc hW3 trivial rfl rfl rfl rfl <| sm trivial rfl rfl <| fun a6 h6=>Q7 (t:=9) (v:=.agg #[.slice p m.length c,.int .i64 x.regs,.slice fp.pP x.params.length fp.cP,.slice fp.pR x.results.length fp.cR,.slice fp.pB x.blocks.length fp.cB,.int .i64 (fi:Int)]) (w':=w3) h6 rfl rfl rfl (fun K hK=>?_) ?_
 ·have k0:a6.tmps[6]?.getD undef=.agg #[.slice p m.length c]:=h6.sl2 6 _ rfl
  have k1:a6.tmps[7]?.getD undef=.agg #[.int .i64 x.regs,.slice fp.pP x.params.length fp.cP,.slice fp.pR x.results.length fp.cR,.slice fp.pB x.blocks.length fp.cB]:=h6.sl2 7 _ rfl;have k2:a6.tmps[8]?.getD undef=.int .i64 (fi:Int):=h6.sl2 8 _ rfl;go_simp;exact hK
 clear h6;intro a7 hF7;refine St.go hF7 <| QjB cf87 hW3 (Qdg (m:=m) (p:=p) (c:=c) (x:=x) (fp:=fp) (fi:=fi) (hx.out.below hW3.bel) hs.out hm hfi) trivial rfl rfl <| fun w8 hW8=>sT 0 hW8 rfl rfl infFault rfl rfl rfl <| fun w9 hW9=>St.nil fun a10 h10=>hK5 _ _ ?_
 refine wp_ret ?_;with_reducible repeat first | refine Qd ?_ | refine Qc ?_
 exact QQ 0 h10 hW9 rfl rfl rfl underlying30 rfl infFault ⟨rfl,hW9.bel⟩
theorem Qdv {n:Nat}{m:List (Qg n)}{p:Option Addr}{c:Nat}{w:World}(hm0:(Qaq n).In w All m [.slice p m.length c]) (hs0:Qc9 m) :
 Rd prog 40 #[.agg #[.slice p m.length c]] w (QX (modFault m)):=by
 have hmm:Hid _:=hm0;have hms:Hid _:=hs0;clear hm0 hs0;refine QC (n:=18) func40 rfl rfl rfl <| fun a hF=>?_
 have hW:=Wd.start w;replace hF:Fr 18 a [(0,.agg #[.slice p m.length c])]:=hF;refine wp_seq_k fun K1 hK1=>rg hF fun ops=>sB hW trivial rfl rfl <| fun w2 B2 hW2 hN=>ZP hW2 trivial rfl <| fun w3 B3 hW3 hN=>St.nil fun a4 h4=>hK1 _ _ <| wp_seq_k fun K5 hK5=>wp_seq_k fun K6 hK6=>Zv <| fun ops hops=>?_
 have hg4:(ops[4]?).bind (fun o:Oper=>o.dst)=some 7:=hops 4;clear hops;refine St.go h4 <| Qbg trivial rfl rfl <| Qc0 1 hW3 trivial rfl rfl rfl rfl <| Qcc trivial rfl rfl <| slt trivial rfl rfl rfl <| sm trivial rfl rfl <| fun a7 h7=>?_
 rcases Bool.eq_false_or_eq_true (decide ((m.length:Int)<1)) with hb | hb
 ·rw[hb] at h7
  have hc8:m.length<1:=by have:=of_decide_eq_true hb;omega
  clear hb;refine St.go h7 <| so hg4 rfl rfl rfl rfl <| so hg4 rfl rfl rfl rfl <| so hg4 rfl rfl rfl rfl <| so hg4 rfl rfl rfl rfl <| sp trivial rfl rfl rfl <| St.nil fun a9 h9=>hK6 _ _ <| QaW (t:=12) h9 rfl <| wp_seq_k fun K10 hK10=>rg h9 fun ops=>fun a11 h11=>Q7 (t:=13) (v:=.agg #[.int .i64 2,.int .i64 (-1)]) (w':=w3) h11 rfl rfl rfl (fun K hK=>?_) ?_
  ·go_simp
   exact hK
  clear h11;intro a12 hF12;refine St.go hF12 <| sT 0 hW3 rfl rfl infFault rfl rfl rfl <| fun w13 hW13=>St.nil fun a14 h14=>hK10 _ _ ?_
  refine wp_ret ?_;with_reducible repeat first | refine Qd ?_ | refine Qc ?_
  have R:modFault m=(2,-1):=if_pos (by omega);exact QQ 0 h14 hW13 rfl rfl rfl underlying30 rfl infFault ⟨by show Ending.returned (.agg #[.int .i64 2,.int .i64 (-1)])=_;rw[R],hW13.bel⟩
 rw[hb] at h7
 have hc15:¬ (m.length<1):=by have:=of_decide_eq_false hb;omega
 clear hb;refine St.go h7 <| Qbg ⟨_,hg4,rfl,rfl⟩ rfl rfl <| Qc0 1 hW3 ⟨_,hg4,rfl,rfl⟩ rfl rfl rfl rfl <| Qcc ⟨_,hg4,rfl,rfl⟩ rfl rfl <| sgt ⟨_,hg4,rfl,rfl⟩ rfl rfl rfl <| spf trivial rfl rfl rfl <| St.nil fun a16 h16=>hK6 _ _ <| QE (t:=12) h16 rfl (fun hb=>?_) (fun hb=>?_)
 ·have hc17:8<m.length:=by have:=of_decide_eq_true hb;omega
  clear hb;refine wp_seq_k fun K18 hK18=>rg h16 fun ops=>fun a19 h19=>Q7 (t:=13) (v:=.agg #[.int .i64 2,.int .i64 (-1)]) (w':=w3) h19 rfl rfl rfl (fun K hK=>?_) ?_
  ·go_simp
   exact hK
  clear h19;intro a20 hF20;refine St.go hF20 <| sT 0 hW3 rfl rfl infFault rfl rfl rfl <| fun w21 hW21=>St.nil fun a22 h22=>hK18 _ _ ?_
  refine wp_ret ?_;with_reducible repeat first | refine Qd ?_ | refine Qc ?_
  have R:modFault m=(2,-1):=if_pos (by omega);exact QQ 0 h22 hW21 rfl rfl rfl underlying30 rfl infFault ⟨by show Ending.returned (.agg #[.int .i64 2,.int .i64 (-1)])=_;rw[R],hW21.bel⟩
 have hc23:¬ (8<m.length):=by have:=of_decide_eq_false hb;omega
 clear hb;refine wp_skip <| hK5 _ _ <| wp_seq_k fun K24 hK24=>rg h16 fun ops=>Qbg trivial rfl rfl <| Qc0 1 hW3 trivial rfl rfl rfl rfl <| fun a25 h25=>Q7 (t:=16) (v:=.func (.func 86) #[] #[.pointer (some ⟨B2,0,none⟩)]) (w':=w3) h25 rfl rfl rfl (fun K hK=>?_) ?_
 ·have k0:a25.tmps.getD 1 undef=.pointer (some ⟨B2,0,none⟩):=h25.sl 1 _ rfl
  go_simp;exact hK
 clear h25;intro a26 hF26;refine St.go hF26 ?_;clear hF26 a26;refine Qhv cf85 hW3 (QgG (Bc:=B2) (fun f x=>Qg.fault m.length f x) (Lay.below hmm.out hW3.bel) (by have:=hms.out.1;omega) (fun f x xi wx hz hi hb=>Qiv hi (hms.out.2 _ (Zm hz)) (by have:=hms.out.1;omega) (by have h9:=(Zi hz).1;have:=hms.out.1;omega) ((hW3.get 1 rfl).below hb))) trivial rfl rfl rfl ?_;clear hW3;intro w27 hW27;refine sT 0 hW27 rfl rfl infFault rfl rfl rfl <| fun w28 hW28=>St.nil fun a29 h29=>hK24 _ _ ?_
 refine wp_ret ?_;with_reducible repeat first | refine Qd ?_ | refine Qc ?_
 have R:modFault m=firstF (fun f x=>Qg.fault m.length f x) 0 m:=if_neg (by omega);exact QQ 0 h29 hW28 rfl rfl rfl underlying30 rfl infFault ⟨by show Ending.returned (.agg #[.int .i64 ((firstF (fun f x=>Qg.fault m.length f x) 0 m).1),.int .i64 ((firstF (fun f x=>Qg.fault m.length f x) 0 m).2)])=_;rw[R],hW28.bel⟩
section
variable {n:Nat}{a:Act}{L:List (Tmp × Value)}{w0 w:World}{Bs:List (Nat × Array Value × TypeId)}{Q:Exit→Act→World→Prop}{ops:Array Oper}{rest:List Oper}{t:Tmp}{u v:Value}{ty ty2 ty3:TypeId}{pos:String}{aft:Array Edge}{gd:Option (Nat × Bool)}{x y:Operand}
theorem Qi2 {tS e:TypeId}{i:TypeInfo}{z:Value}{size m:Nat}(hu:prog.underlying tS=some (.slice e)) (hi:prog.info? e=some i) (hz:i.zero=some z) (hsz:i.size=size)
 (hby:i.bytes*m≤281474976710656) (hm:m≤maxLen) (hW:Wd w0 w Bs) (hg:Gok ops n L gd) (hx:Qn L x=some (.int .i64 (m:Int))) (ht:Nat.blt t n=true)
 (k:∀ w' g xs,w.heap.size=g→w'.ownsRow w.heap.size e size (.slice (some ⟨g,0,none⟩) m m) m xs→Below w.heap.size w w'→Wd w0 w' Bs→St n ((t,.slice (some ⟨g,0,none⟩) m m)::L) ops Q rest w') :
 St n L ops Q (⟨some t,.makeSlice tS x x,ty,pos,aft,gd⟩::rest) w:=fun a hF=>by
 obtain⟨w',hr,ho,hgr⟩:=run_make_full (P:=prog) w w.heap.size tS e i z size hu hi hz hsz .i64 .i64 m hby hm Ze
 have hb:Below w.heap.size w w':=(Below.refl _ w).grown hgr Ze (fun k hk=>by cases hk);have e0:=hF.ev hx;refine wpList_step fun K hK=>?_;rw[if_pos (Gok.on (o:=⟨some t,.makeSlice tS x x,ty,pos,aft,gd⟩) hF hg)]
 have h9:=hK (a.put (some t) (.slice (some ⟨w.heap.size,0,none⟩) m m)) w' (k w' _ _ rfl ho hb (hW.below hb) _ (hF.put ht));unfold Oper.wp;simp[execOp,e0,hr,Result.andThen]
 exact h9
theorem QlT {g j:Nat}{c:Array Value}{bt:TypeId}{cells:List Value}(hW:Wd w0 w Bs) (hg:w0.heap.size≤g) (hne:∀ (i:Nat) x,Bs[i]?=some x→x.1≠g) (hB:Blk w g c bt)
 (hx:Qn L x=some (.pointer (some ⟨g,j,none⟩))) (hy:Qn L y=some (.agg cells.toArray)) (hi:(prog.info? ty2).map (·.size)=some cells.length) (h1:cells.all (·.oneCell')=true) (hs:j+cells.length≤c.size)
 (k:Wd w0 (w.setCells g j cells) Bs→St n L ops Q rest (w.setCells g j cells)):St n L ops Q (⟨none,.store ty2 x y,ty,pos,aft,none⟩::rest) w:=fun a hF=>by
 have hW':Wd w0 (w.setCells g j cells) Bs:=⟨Z4 hg cells w w0 j hW.bel,fun i y hy=>(ZI (hne i y hy) cells j w).trans (hW.blk i y hy),hW.new,hW.nd⟩;refine QdH hF rfl rfl (fun K hK=>?_) (k hW' a hF);have e:=hF.ev hx;have e2:=hF.ev hy
 have:=run_storeAt_mid (P:=prog) w g j ty2 cells.toArray (by simpa using Qb8 hB j cells.length hs) (by simpa using hi) (by simpa using h1)
 unfold Oper.wp execOp;simp only[e,e2,Sem.run_bind,this,Result.andThen_ok,Sem.run_pure]
 rw[Oper.upon_skip];simpa[Act.put] using hK
end
end Go.Proofs.YtacjnejckfhpoadGreat
