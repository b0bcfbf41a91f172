import Derived.Test.YtacjnejckfhpoaeGreatP2
set_option maxHeartbeats 16000000
set_option maxRecDepth 100000
namespace Go.Proofs.YtacjnejckfhpoaeGreat
open Go.ChangeShapes Go.WideShapes Go.ChangeAt Go.RowKit
set_option linter.unusedSimpArgs false
set_option linter.unusedVariables false
abbrev toV (x : MTo) (rg ag : Option Addr) (rc ac : Nat) : Value := .agg #[.int .i64 x.block, .slice rg x.regs.length rc, .slice ag x.args.length ac]
theorem underBk : ∃ fs, Tryz.prog.underlying 60 = some (.struct fs) := ⟨_, Tryz.underlying60⟩
theorem sizeBk : (Tryz.prog.info? 60).map (·.size) = some 12 := by kernel_rfl
theorem block_cells {w : World} {Q : Nat → Prop} {m : List (MBlock 6)} {p : Option Addr} {n c : Nat} (h : (blockL 6).list.In w Q m [.slice p n c]) {k : Nat} {g : MBlock 6} (hg : m[k]? = some g) :
    ∃ mg mo a1 c1 es,p=some ⟨mg,mo,none⟩∧w.rangeAt mg (mo+k*12) (.int .i64 g.regs::.slice a1 g.params.length c1::es)∧es.length=10∧(typesL 6).In w Q g.params [.slice a1 g.params.length c1]∧∀ v∈es,v.oneCell'=true:=by
  obtain ⟨mg,mo,ds,e1,e2,e3,hc,hd⟩:=Lay.list_at h hg;obtain ⟨a1,c1,a2,c2,es,rfl,h1,h2,h3,h4⟩:=block_form hd;obtain ⟨d1,d2,ae,ce,rfl,t1,t2,h5,h6⟩:=end_form h3;obtain ⟨u1,u2,u3,u4,rfl,-,-,-⟩:=to_form t1;obtain ⟨u5,u6,u7,u8,rfl,-,-,-⟩:=to_form t2
  have key:∀ cs,cs.length=12→(∀ v∈cs,v.oneCell'=true)→(∀ j,j<12→w.cell? ⟨mg,mo+k*12+j,none⟩=cs[j]?)→∀ x y es,cs=x::y::es→w.rangeAt mg (mo+k*12) (x::y::es)∧es.length=10∧∀ v∈es,v.oneCell'=true:=by
    intro cs hl ho hc x y es e;subst e;refine ⟨fun j v hj=>?_,by simpa using hl,fun v hv=>ho v (by simp [hv])⟩;have hjl:=(List.getElem?_eq_some_iff.1 hj).1;rw [hc j (by omega),hj]
  obtain ⟨q1,q2,q3⟩:=key _ rfl (fun v hv=>by
    simp only [List.mem_cons,List.cons_append,List.nil_append,List.not_mem_nil,or_false] at hv;rcases hv with rfl | rfl | rfl | rfl | rfl | rfl | rfl | rfl | rfl | rfl | rfl | rfl <;> rfl) hc _ _ _ rfl
  exact ⟨mg,mo,a1,c1,_,e1,q1,q2,h1,q3⟩
theorem range_below {w w' : World} {b o : Nat} {cs : List Value} (h : w.rangeAt b o cs) (k : Below w.heap.size w w') : w'.rangeAt b o cs := fun j v hj => stay (h j v hj) k
def kt1E (w6 : World) (b X mg mo nb cb k : Nat) (ds : List Value) (t : Tmp) (v : Value) (w : World) : Prop :=
  match ([(5,fun v w=>∃ B,v=.pointer (some ⟨B,0,none⟩)∧w6.heap.size≤B∧∃ c,c.size=12∧Blk w B c 60)]:List (Tmp × (Value→World→Prop))).lookup t with
  | some p=>p v w
  | none=>v=(([(0,.pointer (some ⟨b,0,none⟩)),(3,.pointer (some ⟨X,0,none⟩)),(8,.pointer (some ⟨b,0,none⟩)),(9,.pointer (some ⟨b,0,none⟩)),(10,.pointer (some ⟨b,1,none⟩)),(11,.pointer (some ⟨b,4,none⟩)),(12,.slice (some ⟨mg,mo,none⟩) nb cb),(13,.pointer (some ⟨X,0,none⟩)),(14,.int .i64 (k:Int)),(15,.pointer (some ⟨mg,mo+k*12,none⟩)),(16,.agg ds.toArray)]:List (Tmp × Value)).lookup t).getD undef
theorem kt1 {w6 : World} {b X mg mo nb cb k : Nat} {ds : List Value} (y0 : w6.cell? ⟨b, 4, none⟩ = some (.slice (some ⟨mg, mo, none⟩) nb cb)) (z0 : w6.cell? ⟨X, 0, none⟩ = some (.int .i64 (k : Int))) (HD : Hid (w6.rangeAt mg (mo + k * 12) ds)) (hdl : ds.length = 12) (hkn : (k : Int) < nb) {Q : Exit → Act → World → Prop}
    (a:Act) (m:Nat) (hn:a.tmps.size=m) (hn':57≤m) (h0:a.tmps.getD 0 undef=.pointer (some ⟨b,0,none⟩)) (h3:a.tmps.getD 3 undef=.pointer (some ⟨X,0,none⟩))
    (hend:∀ ops vs w',vs 16=.agg ds.toArray→(fun v w=>∃ B,v=.pointer (some ⟨B,0,none⟩)∧w6.heap.size≤B∧∃ c,c.size=12∧Blk w B c 60) (vs 5) w'→Below w6.heap.size w6 w'→wpList Tryz.prog ops Q (hTail 10 ((Tryz.f83.body.bind (hRegionOf 1)).getD .skip)) (puts a vs [8,9,10,11,12,13,14,15,16,5]) w') :
    Code.wp Tryz.prog ((Tryz.f83.body.bind (hRegionOf 1)).getD .skip) Q a w6:=by
  conv=>arg 2;whnf
  refine wp_region_calm_tailT 10 (kt1E w6 b X mg mo nb cb k ds) (fun w=>Below w6.heap.size w6 w) (fun w w'=>Below w.heap.size w w') (outs:=[0,3]) (gs:=[]) (bs:=[true,true,true,true,true,true,true,true,true,true]) (by kernel_rfl) (n:=57) hn hn' (by kernel_rfl) (by kernel_rfl) ?hR ?hG (hbelowN (Below.refl _ _) 1) ⟨h0,h3,trivial⟩ ?hA ?hend
  case hR =>
    intro t v w w' hr h;unfold kt1E at h ⊢;split at h
    · rename_i p hp
      simp only [List.lookup_cons,List.lookup_nil] at hp;split at hp
      · cases hp;exact (by obtain ⟨B,e,h1,c,h3,h2⟩:=h;exact ⟨B,e,h1,c,h3,(hr.block B (lt_of_block h2)).trans h2⟩)
      · cases hp
    · exact h
  case hG=>exact trivial
  case hend=>exact fun ops vs w' hW hk=>hend ops vs w' (hk 16 (by kernel_rfl)) (hk 5 (by kernel_rfl)) hW
  case hA =>
    refine ⟨fun a w hW hk K hK=>?_,?_⟩
    · obtain ⟨k0,-⟩:=hk;have k0:a.tmps.getD 0 undef=.pointer (some ⟨b,0,none⟩):=k0;go_simp;exact hK _ _ (Below.refl _ _) hW rfl
    refine ⟨fun a w hW hk K hK=>?_,?_⟩
    · obtain ⟨k0,-⟩:=hk;have k0:a.tmps.getD 8 undef=.pointer (some ⟨b,0,none⟩):=k0;go_simp;exact hK _ _ (Below.refl _ _) hW rfl
    refine ⟨fun a w hW hk K hK=>?_,?_⟩
    · obtain ⟨k0,-⟩:=hk;have k0:a.tmps.getD 9 undef=.pointer (some ⟨b,0,none⟩):=k0;go_simp;exact hK _ _ (Below.refl _ _) hW rfl
    refine ⟨fun a w hW hk K hK=>?_,?_⟩
    · obtain ⟨k0,-⟩:=hk;have k0:a.tmps.getD 10 undef=.pointer (some ⟨b,1,none⟩):=k0;go_simp;exact hK _ _ (Below.refl _ _) hW rfl
    refine ⟨fun a w hW hk K hK=>?_,?_⟩
    · obtain ⟨k0,-⟩:=hk;have k0:a.tmps.getD 11 undef=.pointer (some ⟨b,4,none⟩):=k0;have c0:=stay y0 hW;go_simp;exact hK _ _ (Below.refl _ _) hW rfl
    refine ⟨fun a w hW hk K hK=>?_,?_⟩
    · obtain ⟨k0,-⟩:=hk;have k0:a.tmps.getD 3 undef=.pointer (some ⟨X,0,none⟩):=k0;go_simp;exact hK _ _ (Below.refl _ _) hW rfl
    refine ⟨fun a w hW hk K hK=>?_,?_⟩
    · obtain ⟨k0,-⟩:=hk;have k0:a.tmps.getD 13 undef=.pointer (some ⟨X,0,none⟩):=k0;have c0:=stay z0 hW;go_simp;exact hK _ _ (Below.refl _ _) hW rfl
    refine ⟨fun a w hW hk K hK=>?_,?_⟩
    · obtain ⟨k0,k1,-⟩:=hk;have k0:a.tmps.getD 12 undef=.slice (some ⟨mg,mo,none⟩) nb cb:=k0;have k1:a.tmps.getD 14 undef=.int .i64 (k:Int):=k1;go_simp;exact hK _ _ (Below.refl _ _) hW rfl
    refine ⟨fun a w hW hk K hK=>?_,?_⟩
    · obtain ⟨k0,-⟩:=hk;have k0:a.tmps.getD 15 undef=.pointer (some ⟨mg,mo+k*12,none⟩):=k0;obtain ⟨fs,hfs⟩:=underBk;refine wp_load_mid 60 (.tmp 15) rfl mg (mo+k*12) k0 ds _ (range_below HD.out hW) hfs rfl (by rw [hdl];exact sizeBk) ?_;exact hK _ _ (Below.refl _ _) hW rfl
    refine ⟨fun a w hW hk K hK=>?_,?_⟩
    · clear hk;go_simp;exact hK _ _ (bel1 _ _) (hW.alloc hW.size _) ⟨_,rfl,hW.size,_,rfl,blockNew _ _ _⟩
    trivial
def kt9E (b X hh kn rc : Nat) (rg : Option Addr) (p : Int) (t : Tmp) (v : Value) (w : World) : Prop :=
  v=(([(0,.pointer (some ⟨b,0,none⟩)),(3,.pointer (some ⟨X,0,none⟩)),(39,.pointer (some ⟨b,0,none⟩)),(40,.pointer (some ⟨b,0,none⟩)),(41,.pointer (some ⟨b,5,none⟩)),(42,.pointer (some ⟨hh,0,none⟩)),(43,.pointer (some ⟨X,1,none⟩)),(44,.slice rg kn rc),(45,.int .i64 p),(7,.int .i64 p)]:List (Tmp × Value)).lookup t).getD undef
theorem kt9 {w6 : World} {b X hh kn rc : Nat} {rg : Option Addr} {p : Int} {O Q : Nat → Prop} {H : List Bool} {l : List Int} (q5 : w6.cell? ⟨b, 5, none⟩ = some (.pointer (some ⟨hh, 0, none⟩))) (x1 : w6.cell? ⟨X, 1, none⟩ = some (.slice rg kn rc)) (hkn : kn ≤ 16) (hrc : kn ≤ rc) (hH : H.length ≤ 100000) (HN : Hid (l.length = kn)) (HR : Hid (intsL.In w6 Q l [.slice rg kn rc])) (HO : Hid (HoldsAt w6 hh O H)) (HP : Hid (hPass H [] l = p))
    (a:Act) (m:Nat) (hn:a.tmps.size=m) (hn':57≤m) (h0:a.tmps.getD 0 undef=.pointer (some ⟨b,0,none⟩)) (h3:a.tmps.getD 3 undef=.pointer (some ⟨X,0,none⟩)) :
    Code.wp Tryz.prog ((Tryz.f83.body.bind (hRegionOf 9)).getD .skip) (fun e a' w'=>e=.normal∧∃ vs,a'=puts a vs [39,40,41,42,43,44,45,7]∧vs 7=.int .i64 p∧Below w6.heap.size w6 w') a w6:=by
  conv=>arg 2;whnf
  refine wp_region_calm (kt9E b X hh kn rc rg p) (fun w=>Below w6.heap.size w6 w) (fun w w'=>Below w.heap.size w w') (outs:=[0,3]) (gs:=[]) (bs:=[true,true,true,true,true,true,true,true]) (by kernel_rfl) (n:=57) hn hn' (by kernel_rfl) ?hR ?hG (hbelowN (Below.refl _ _) 1) ⟨h0,h3,trivial⟩ ?hA ?hend
  case hR=>exact fun t v w w' _ h=>h
  case hG=>exact trivial
  case hend=>exact fun vs w' hW hk=>⟨rfl,vs,rfl,hk 7 (by kernel_rfl),hW⟩
  case hA =>
    refine ⟨fun a w hW hk K hK=>?_,?_⟩
    · obtain ⟨k0,-⟩:=hk;have k0:a.tmps.getD 0 undef=.pointer (some ⟨b,0,none⟩):=k0;go_simp;exact hK _ _ (Below.refl _ _) hW rfl
    refine ⟨fun a w hW hk K hK=>?_,?_⟩
    · obtain ⟨k0,-⟩:=hk;have k0:a.tmps.getD 39 undef=.pointer (some ⟨b,0,none⟩):=k0;go_simp;exact hK _ _ (Below.refl _ _) hW rfl
    refine ⟨fun a w hW hk K hK=>?_,?_⟩
    · obtain ⟨k0,-⟩:=hk;have k0:a.tmps.getD 40 undef=.pointer (some ⟨b,0,none⟩):=k0;go_simp;exact hK _ _ (Below.refl _ _) hW rfl
    refine ⟨fun a w hW hk K hK=>?_,?_⟩
    · obtain ⟨k0,-⟩:=hk;have k0:a.tmps.getD 41 undef=.pointer (some ⟨b,5,none⟩):=k0;have c0:=stay q5 hW;go_simp;exact hK _ _ (Below.refl _ _) hW rfl
    refine ⟨fun a w hW hk K hK=>?_,?_⟩
    · obtain ⟨k0,-⟩:=hk;have k0:a.tmps.getD 3 undef=.pointer (some ⟨X,0,none⟩):=k0;go_simp;exact hK _ _ (Below.refl _ _) hW rfl
    refine ⟨fun a w hW hk K hK=>?_,?_⟩
    · obtain ⟨k0,-⟩:=hk;have k0:a.tmps.getD 43 undef=.pointer (some ⟨X,1,none⟩):=k0;have c0:=stay x1 hW;go_simp;exact hK _ _ (Below.refl _ _) hW rfl
    refine ⟨fun a w hW hk K hK=>?_,?_⟩
    · obtain ⟨k0,k1,-⟩:=hk;have k0:a.tmps.getD 42 undef=.pointer (some ⟨hh,0,none⟩):=k0;have k1:a.tmps.getD 44 undef=.slice rg kn rc:=k1;go_simp;refine (holds_pass HN.out (by omega) hrc hH (Lay.below HR.out hW) (HO.out.below hW)).mono ?_;rw [HP.out];rintro r7 w7 ⟨rfl,b7⟩;go_simp;exact hK _ _ b7 (hW.trans (b7.mono hW.size)) rfl
    refine ⟨fun a w hW hk K hK=>?_,?_⟩
    · obtain ⟨k0,-⟩:=hk;have k0:a.tmps.getD 45 undef=.int .i64 p:=k0;go_simp;exact hK _ _ (Below.refl _ _) hW rfl
    trivial
theorem keptC_all {n : Nat} {regs : List Int} (h : ∀ i, i < n → regs.getD i 0 = (i : Int)) : keptC n regs = 0 := by
  unfold keptC;rw [if_pos (List.all_eq_true.2 fun i hi=>decide_eq_true (h i (by simpa using hi)))]
theorem keptC_not {n i : Nat} {regs : List Int} (hi : i < n) (h : regs.getD i 0 ≠ (i : Int)) : keptC n regs = 11 := by
  unfold keptC;rw [if_neg];intro hh
  have:=List.all_eq_true.1 hh i (by simpa using hi)
  exact h (of_decide_eq_true this)
theorem kto_any {w : World} {b : Nat} {O QR QA : Nat → Prop} {s : JSt} {x : MTo} {rg ag : Option Addr} {rc ac : Nat} (hJ : JOk s) (h : KAt w b O s) (hregs : intsL.In w QR x.regs [.slice rg x.regs.length rc]) (hargs : intsL.In w QA x.args [.slice ag x.args.length ac]) (hrc : x.regs.length ≤ rc) (hr16 : x.regs.length ≤ 16) (ha8 : x.args.length ≤ 8) (hbl : 0 ≤ x.block ∧ x.block < s.f.blocks.length) :
    Calls Tryz.prog 83 #[.pointer (some ⟨b,0,none⟩),toV x rg ag rc ac] w fun e w'=>e=.returned (.int .i64 (s.to x))∧Below w.heap.size w w':=by
  have HJ:=hid_of hJ;obtain ⟨xb,xr,xs⟩:=x;simp only at hregs hargs hrc hr16 ha8 hbl
  obtain ⟨k,rfl⟩:=Int.eq_ofNat_of_zero_le hbl.1;have hkb:k<s.f.blocks.length:=by omega
  have hgk:s.f.blocks[k]?=some s.f.blocks[k]:=List.getElem?_eq_getElem hkb;generalize s.f.blocks[k]=g at hgk;have b1:=bel1 w (.cells #[.int .i64 (k:Int),.slice rg xr.length rc,.slice ag xs.length ac] 56);have hblk:=blockNew w #[.int .i64 (k:Int),.slice rg xr.length rc,.slice ag xs.length ac] 56;have K1:=hid_of (h.below b1);have HR1:Hid (intsL.In (w.alloc (.cells #[.int .i64 (k:Int),.slice rg xr.length rc,.slice ag xs.length ac] 56)) QR xr [.slice rg xr.length rc]):=Lay.below hregs b1;have HA1:Hid (intsL.In (w.alloc (.cells #[.int .i64 (k:Int),.slice rg xr.length rc,.slice ag xs.length ac] 56)) QA xs [.slice ag xs.length ac]):=Lay.below hargs b1;have HB1:=hid_of b1;have HK1:=hid_of hblk;clear h hregs hargs b1 hblk hJ;go_enter Tryz.func83,Tryz.ntmps83
  go_upto_region 1 with fail
  obtain ⟨X,hX⟩:∃ X,w.heap.size=X:=⟨_,rfl⟩;generalize hw1:w.alloc (.cells #[.int .i64 (k:Int),.slice rg xr.length rc,.slice ag xs.length ac] 56)=w1 at K1 HR1 HA1 HB1 HK1 ⊢;rw [hX] at HK1;rw [hX];clear hw1 hX;have x0:=cellOf HK1.out 0 _ rfl;have x1:=cellOf HK1.out 1 _ rfl;have x2:=cellOf HK1.out 2 _ rfl;obtain ⟨pm,cm,a1,c1,a2,c2,a3,c3,hh,aL,cL,R⟩:=K1.out.read;obtain ⟨-,q1,-,-,q4,q5,-⟩:=R.cells;obtain ⟨fa,fc,fb,fd,fe,ff,ecs,-,-,hbs,-⟩:=func_form R.fn;simp only [List.cons.injEq,Value.slice.injEq,and_true,true_and] at ecs;obtain ⟨-,-,rfl,rfl⟩:=ecs;obtain ⟨mg,mo,p1,d1,es,rfl,hrange,hes,hpar,hone⟩:=block_cells hbs hgk;have HRG:=hid_of hrange;have HPA:Hid ((typesL 6).In w1 (fun g=>¬ O g) g.params [.slice p1 g.params.length d1]):=hpar;have HHO:Hid (HoldsAt w1 hh O s.H):=R.holds;have HES:Hid (es.length=10):=hes;have HONE:=hid_of hone;have hkn:(k:Int)<s.f.blocks.length:=by omega
  have HFR:=hid_of (HJ.out.mod.2 s.f HJ.out.fn);have HGM:Hid (g∈s.f.blocks):=List.mem_of_getElem? hgk;have HBR:=hid_of (HFR.out.blocks g HGM.out);have HNG:Hid (¬ MBlock.great g):=fun hg=>HJ.out.tiny (.inr ⟨s.f,HJ.out.fn,.inr (.inr (.inr ⟨g,HGM.out,hg⟩))⟩);have HCP:Hid (∀ t∈g.params,t.count≤2000):=fun t ht=>Nat.le_of_not_lt fun hlt=>HNG.out (.inr (.inl (.inr ⟨t,ht,hlt⟩)))
  have E:Hid (s.to ⟨(k:Int),xr,xs⟩=if (xr.length:Int)=g.regs then code2 (keptC s.f.regs.toNat xr) (code2 (hPass s.H [] xr) (s.args xs g.params xr)) else 2):=by
    show _=_;unfold JSt.to;simp only [Int.toNat_natCast,hgk]
  clear R hbs hrange hpar hone hes hgk hbl;generalize hnb:s.f.blocks.length=nb at q4 hkb hkn;refine kt1 q4 x0 HRG (by simp [HES.out]) hkn _ _ rfl (Nat.le_of_ble_eq_true (by kernel_rfl)) rfl rfl ?_;rintro ops vs w5 hv16 ⟨B,hv5,hB,cB,hcB,hBb⟩ b5;show wpList _ ops _ [_] (puts _ vs [8,9,10,11,12,13,14,15,16,5]) w5;simp only [puts,Act.put,List.setIfInBounds_toArray,List.set_cons_zero,List.set_cons_succ,hv16,hv5];have hlen12:(Value.int .i64 g.regs::Value.slice p1 g.params.length d1::es).length=12:=by simp [HES.out]
  have TH:Hid (w5.there B 0 (Value.int .i64 g.regs::Value.slice p1 g.params.length d1::es).toArray.size):=by
    intro j hj;rw [List.size_toArray,hlen12] at hj;rw [Nat.zero_add];refine ⟨?_,freeOf hBb j⟩;rw [cellOf hBb j cB[j] (by simp)];rfl
  have TS:Hid ((Tryz.prog.info? 60).map (·.size)=some (Value.int .i64 g.regs::Value.slice p1 g.params.length d1::es).toArray.size):=by show _=_;rw [List.size_toArray,hlen12];exact sizeBk
  have TO:Hid ((Value.int .i64 g.regs::Value.slice p1 g.params.length d1::es).toArray.all (·.oneCell')=true):=by
    refine all_oneCell_toArray fun v hv=>?_;simp only [List.mem_cons] at hv;rcases hv with rfl | rfl | hv
    · rfl
    · rfl
    · exact HONE.out v hv
  have B6:Hid (Blk (w5.setCells B 0 (Value.int .i64 g.regs::Value.slice p1 g.params.length d1::es).toArray.toList) B (Value.int .i64 g.regs::Value.slice p1 g.params.length d1::es).toArray 60):=by
    have h0:Blk w5 B ([]++cB.toList).toArray 60:=by rw [List.nil_append,Array.toArray_toList];exact hBb
    have:=Blk.sets (Value.int .i64 g.regs::Value.slice p1 g.params.length d1::es) [] cB.toList w5 (by rw [hlen12];simp [hcB]) h0
    exact this
  have b6:Hid (Below w1.heap.size w1 (w5.setCells B 0 (Value.int .i64 g.regs::Value.slice p1 g.params.length d1::es).toArray.toList)):=by
    have:=Step.setCells (O:=fun k=>k=B) (O':=fun k=>k=B) (b:=B) rfl (Value.int .i64 g.regs::Value.slice p1 g.params.length d1::es).toArray.toList 0 _ (Step.refl _ w5)
    exact b5.trans (this.below b5.size (fun k hk=>by omega))
  clear hBb hB hcB b5 hv16 hv5 hlen12;generalize hgr:g.regs=gr at E HBR B6 b6 TH TS TO ⊢;have HGR:Hid (g.regs=gr):=hgr;generalize hn1:g.params.length=n1 at HPA B6 b6 TH TS TO ⊢;have HN1:Hid (g.params.length=n1):=hn1;have y0:(w5.setCells B 0 (Value.int .i64 gr::Value.slice p1 n1 d1::es).toArray.toList).cell? ⟨B,0,none⟩=some (.int .i64 gr):=cellOf B6.out 0 _ rfl;have y1:(w5.setCells B 0 (Value.int .i64 gr::Value.slice p1 n1 d1::es).toArray.toList).cell? ⟨B,1,none⟩=some (.slice p1 n1 d1):=cellOf B6.out 1 _ rfl;generalize hds:(Value.int .i64 gr::Value.slice p1 n1 d1::es).toArray=dsA at B6 b6 TH TS TO y0 y1 ⊢;have K6:=hid_of (K1.out.below b6.out);have HR6:Hid (intsL.In (w5.setCells B 0 dsA.toList) QR xr [.slice rg xr.length rc]):=Lay.below HR1.out b6.out;have HA6:Hid (intsL.In (w5.setCells B 0 dsA.toList) QA xs [.slice ag xs.length ac]):=Lay.below HA1.out b6.out;have HP6:Hid ((typesL 6).In (w5.setCells B 0 dsA.toList) (fun g=>¬ O g) g.params [.slice p1 n1 d1]):=Lay.below HPA.out b6.out;have HO6:Hid (HoldsAt (w5.setCells B 0 dsA.toList) hh O s.H):=HHO.out.below b6.out;have BW:Hid (Below w.heap.size w (w5.setCells B 0 dsA.toList)):=HB1.out.trans (b6.out.mono HB1.out.size);obtain ⟨fr,hfr⟩:=Int.eq_ofNat_of_zero_le HFR.out.regs.1;have hfr6:fr≤6:=by have:=HFR.out.regs.2;omega
  have HFG:Hid ((fr:Int)≤gr):=by have:=HBR.out.regs.1;rw [hfr,HGR.out] at this;exact this
  rw [hfr] at q1 E;rw [Int.toNat_natCast] at E;have q1':=stay q1 b6.out;have q5':=stay q5 b6.out;have x1':=stay x1 b6.out;have x2':=stay x2 b6.out;clear hgr hn1 hfr hds K1 HR1 HA1 HPA HHO HB1 b6 B6 q1 q4 q5 x0 x1 x2 HES HONE HFR HNG HK1 HRG;go_upto_region 2 with (refine wpList_store_mid rfl 60 (.tmp 5) (.tmp 16) rfl B 0 dsA rfl rfl TH.out TS.out TO.out ?_)
  clear TH TS TO;generalize w5.setCells B 0 dsA.toList=w6 at K6 HR6 HA6 HP6 HO6 BW q1' q5' x1' x2' y0 y1 ⊢;have HXN:Hid (xr.length=xr.length):=rfl;by_cases hg:(xr.length:Int)=gr
  rotate_left
  · have E2:Hid (s.to ⟨(k:Int),xr,xs⟩=2):=by show _=_;rw [E.out,if_neg hg]
    have hne:((xr.length:Int) != gr)=true:=by simpa using hg
    clear E hg HXN;generalize xr.length=kn at x1' HR6 hrc hr16 hne;go_wp2_with fail
    go_ret;exact ⟨by rw [E2.out];rfl,BW.out⟩
  have E2:Hid (s.to ⟨(k:Int),xr,xs⟩=code2 (keptC fr xr) (code2 (hPass s.H [] xr) (s.args xs g.params xr))):=by show _=_;rw [E.out,if_pos hg]
  have hfx:fr≤xr.length:=by have:=HFG.out;omega
  have hne:((xr.length:Int) != gr)=false:=by simpa using hg
  have HX:Hid (∀ i,i<xr.length→∃ rgg ro,rg=some ⟨rgg,ro,none⟩∧w6.cell? ⟨rgg,ro+i,none⟩=some (.int .i64 (xr.getD i 0))):=fun i hi=>by
    obtain ⟨a1,a2,e1,-,-,e2⟩:=ints_at HR6.out hi;exact ⟨a1,a2,e1,e2⟩
  have HKN:Hid (∃ kn,xr.length=kn):=⟨_,rfl⟩;clear E hg HXN;obtain ⟨kn,hkn2⟩:=HKN.out;have HKN2:Hid (xr.length=kn):=hkn2;rw [hkn2] at x1' HR6 hrc hr16 hne HX hfx;clear hkn2 HKN;go_wp2_with fail
  go_loopw [6] (fun i wr=>∃ q:Nat,q≤fr∧i=.int .i64 q∧wr=w6∧∀ j,j<q→xr.getD j 0=(j:Int)) (fun i _=>fr - (intOf i).toNat)
  case atStart=>exact ⟨0,Nat.zero_le _,rfl,rfl,fun j hj=>absurd hj (Nat.not_lt_zero _)⟩
  case round =>
    obtain ⟨q,hq,rfl,hw,hall⟩:=hrel;subst hw;have HALL:Hid (∀ j,j<q→xr.getD j 0=(j:Int)):=hall;clear hall;by_cases hlt:q<fr
    · obtain ⟨rgg,ro,rfl,hcx⟩:=HX.out q (by omega);have hlt':(q:Int)<fr:=by omega
      have hlt2:(q:Int)<kn:=by omega
      have HV:Hid (xr.getD q 0=xr.getD q 0):=rfl;obtain ⟨v,hv⟩:∃ v,xr.getD q 0=v:=⟨_,rfl⟩;have HV:Hid (xr.getD q 0=v):=hv;rw [hv] at hcx;clear hv;by_cases hvq:v=(q:Int)
      · have hvq':(v != (q:Int))=false:=by simpa using hvq
        go_wp2_with fail
        go_roundw
        case rel =>
          refine ⟨q+1,by omega,by go_num,by first | rfl | trivial,fun j hj=>?_⟩;by_cases hjq:j<q
          · exact HALL.out j hjq
          · have:j=q:=by omega
            subst this;rw [HV.out,hvq]
        case measure=>simp [intOf];omega
      · have hvq':(v != (q:Int))=true:=by simpa using hvq
        have E3:Hid (s.to ⟨(k:Int),xr,xs⟩=11):=by
          show _=_;rw [E2.out,keptC_not hlt (by rw [HV.out];exact hvq)];rfl
        clear E2;go_wp2_with fail
        go_ret;exact ⟨by rw [E3.out];rfl,BW.out⟩
    · have hqe:q=fr:=by omega
      subst hqe
      have E3:Hid (s.to ⟨(k:Int),xr,xs⟩=code2 (hPass s.H [] xr) (s.args xs g.params xr)):=by
        show _=_;rw [E2.out,keptC_all HALL.out];rfl
      have hlt':decide ((q:Int)<q)=false:=decide_eq_false (by omega);clear E2 HX hlt;go_upto_region 9 with fail
      obtain ⟨pc,hpc⟩:∃ pc,hPass s.H [] xr=pc:=⟨_,rfl⟩;have HPC:=hid_of hpc;rw [hpc] at E3;clear hpc;refine Code.wp_mono ?_ (kt9 q5' x1' (by omega) hrc (by have:=HJ.out.regs;omega) HKN2 HR6 HO6 HPC _ _ rfl (Nat.le_of_ble_eq_true (by kernel_rfl)) rfl rfl);rintro ee aa w7 ⟨rfl,vs,rfl,hv7,hb⟩;simp only [puts,Act.put,List.setIfInBounds_toArray,List.set_cons_zero,List.set_cons_succ,hv7];have BW7:Hid (Below w.heap.size w w7):=BW.out.trans (hb.mono BW.out.size);have K7:=hid_of (K6.out.below hb);have HR7:Hid (intsL.In w7 QR xr [.slice rg kn rc]):=Lay.below HR6.out hb;have HA7:Hid (intsL.In w7 QA xs [.slice ag xs.length ac]):=Lay.below HA6.out hb;have HP7:Hid ((typesL 6).In w7 (fun g=>¬ O g) g.params [.slice p1 n1 d1]):=Lay.below HP6.out hb;have x17:=stay x1' hb;have x27:=stay x2' hb;have y17:=stay y1 hb;clear hb hv7 K6 HR6 HA6 HP6 HO6 BW x1' x2' y1 y0 q1' q5';by_cases hp:pc=0
      rotate_left
      · have hp':(pc != 0)=true:=by simpa using hp
        have E4:Hid (s.to ⟨(k:Int),xr,xs⟩=pc):=by show _=_;rw [E3.out];unfold code2;rw [if_neg hp]
        clear E3;go_wp2_with fail
        go_ret;exact ⟨by rw [E4.out];rfl,BW7.out⟩
      subst hp;have E4:Hid (s.to ⟨(k:Int),xr,xs⟩=s.args xs g.params xr):=by show _=_;rw [E3.out];rfl
      clear E3;go_wp2_with fail
      refine (kargs_any rfl HN1.out HKN2.out (by omega) (by have:=HBR.out.params.1;rw [HN1.out] at this;omega) HJ.out.vals HA7.out HP7.out HR7.out HCP.out K7.out).mono ?_;rintro e w8 ⟨rfl,b8⟩;have BW8:Hid (Below w.heap.size w w8):=BW7.out.trans (b8.mono BW7.out.size);go_wp2_with fail
      go_ret;exact ⟨by rw [E4.out];rfl,BW8.out⟩
end Go.Proofs.YtacjnejckfhpoaeGreat
namespace Go.Proofs.YtacjnejckfhpoaeGreat
open Go.ChangeShapes Go.WideShapes Go.ChangeAt Go.RowKit
set_option linter.unusedVariables false
def fieldsV (op : Int) : Value := match fieldsOf op with
  | some (a,b,c,k,n,rg,ar)=>.tuple #[.agg #[.bool a,.bool b,.bool c,.bool k,.bool n,.bool rg,.bool ar],.bool true]
  | none=>.tuple #[.agg #[.bool false,.bool false,.bool false,.bool false,.bool false,.bool false,.bool false],.bool false]
theorem op_cases (op : Int) : op = 1 ∨ op = 2 ∨ op = 3 ∨ op = 4 ∨ op = 5 ∨ op = 6 ∨ op = 7 ∨ op = 8 ∨ op = 9 ∨ op = 10 ∨ op = 11 ∨ op = 12 ∨ op = 13 ∨ op = 14 ∨ (op ≠ 1 ∧ op ≠ 2 ∧ op ≠ 3 ∧ op ≠ 4 ∧ op ≠ 5 ∧ op ≠ 6 ∧ op ≠ 7 ∧ op ≠ 8 ∧ op ≠ 9 ∧ op ≠ 10 ∧ op ≠ 11 ∧ op ≠ 12 ∧ op ≠ 13 ∧ op ≠ 14) := by omega
theorem fieldsOf_any (op : Int) (w : World) :
    Calls Tryz.prog 118 #[.int .i64 op] w fun e w'=>e=.returned (fieldsV op)∧Below w.heap.size w w':=by
  rcases op_cases op with rfl | rfl | rfl | rfl | rfl | rfl | rfl | rfl | rfl | rfl | rfl | rfl | rfl | rfl | ⟨n1,n2,n3,n4,n5,n6,n7,n8,n9,n10,n11,n12,n13,n14⟩
  · rw [show fieldsV 1=.tuple #[.agg #[.bool false,.bool false,.bool false,.bool false,.bool true,.bool false,.bool false],.bool true] from rfl];go_enter Tryz.func118,Tryz.ntmps118
    go_wp2_with fail
    exact bodyPost_ret (v:=.tuple #[.agg #[.bool false,.bool false,.bool false,.bool false,.bool true,.bool false,.bool false],.bool true]) (by simp [results,Tryz.results118,go_sem]) rfl ⟨rfl,by first | exact (Below.refl _ w).alloc (Nat.le_refl _) _ | (repeat (first | exact (Below.refl _ w).alloc (Nat.le_refl _) _ | refine Below.setCell ?_ (by simp) _))⟩
  · rw [show fieldsV 2=.tuple #[.agg #[.bool true,.bool true,.bool false,.bool true,.bool false,.bool false,.bool false],.bool true] from rfl];go_enter Tryz.func118,Tryz.ntmps118
    go_wp2_with fail
    exact bodyPost_ret (v:=.tuple #[.agg #[.bool true,.bool true,.bool false,.bool true,.bool false,.bool false,.bool false],.bool true]) (by simp [results,Tryz.results118,go_sem]) rfl ⟨rfl,by first | exact (Below.refl _ w).alloc (Nat.le_refl _) _ | (repeat (first | exact (Below.refl _ w).alloc (Nat.le_refl _) _ | refine Below.setCell ?_ (by simp) _))⟩
  · rw [show fieldsV 3=.tuple #[.agg #[.bool false,.bool false,.bool false,.bool false,.bool false,.bool false,.bool false],.bool true] from rfl];go_enter Tryz.func118,Tryz.ntmps118
    go_wp2_with fail
    exact bodyPost_ret (v:=.tuple #[.agg #[.bool false,.bool false,.bool false,.bool false,.bool false,.bool false,.bool false],.bool true]) (by simp [results,Tryz.results118,go_sem]) rfl ⟨rfl,by first | exact (Below.refl _ w).alloc (Nat.le_refl _) _ | (repeat (first | exact (Below.refl _ w).alloc (Nat.le_refl _) _ | refine Below.setCell ?_ (by simp) _))⟩
  · rw [show fieldsV 4=.tuple #[.agg #[.bool true,.bool false,.bool false,.bool false,.bool false,.bool false,.bool false],.bool true] from rfl];go_enter Tryz.func118,Tryz.ntmps118
    go_wp2_with fail
    exact bodyPost_ret (v:=.tuple #[.agg #[.bool true,.bool false,.bool false,.bool false,.bool false,.bool false,.bool false],.bool true]) (by simp [results,Tryz.results118,go_sem]) rfl ⟨rfl,by first | exact (Below.refl _ w).alloc (Nat.le_refl _) _ | (repeat (first | exact (Below.refl _ w).alloc (Nat.le_refl _) _ | refine Below.setCell ?_ (by simp) _))⟩
  · rw [show fieldsV 5=.tuple #[.agg #[.bool true,.bool false,.bool false,.bool false,.bool false,.bool false,.bool true],.bool true] from rfl];go_enter Tryz.func118,Tryz.ntmps118
    go_wp2_with fail
    exact bodyPost_ret (v:=.tuple #[.agg #[.bool true,.bool false,.bool false,.bool false,.bool false,.bool false,.bool true],.bool true]) (by simp [results,Tryz.results118,go_sem]) rfl ⟨rfl,by first | exact (Below.refl _ w).alloc (Nat.le_refl _) _ | (repeat (first | exact (Below.refl _ w).alloc (Nat.le_refl _) _ | refine Below.setCell ?_ (by simp) _))⟩
  · rw [show fieldsV 6=.tuple #[.agg #[.bool true,.bool false,.bool false,.bool true,.bool false,.bool false,.bool false],.bool true] from rfl];go_enter Tryz.func118,Tryz.ntmps118
    go_wp2_with fail
    exact bodyPost_ret (v:=.tuple #[.agg #[.bool true,.bool false,.bool false,.bool true,.bool false,.bool false,.bool false],.bool true]) (by simp [results,Tryz.results118,go_sem]) rfl ⟨rfl,by first | exact (Below.refl _ w).alloc (Nat.le_refl _) _ | (repeat (first | exact (Below.refl _ w).alloc (Nat.le_refl _) _ | refine Below.setCell ?_ (by simp) _))⟩
  · rw [show fieldsV 7=.tuple #[.agg #[.bool true,.bool true,.bool false,.bool true,.bool false,.bool false,.bool false],.bool true] from rfl];go_enter Tryz.func118,Tryz.ntmps118
    go_wp2_with fail
    exact bodyPost_ret (v:=.tuple #[.agg #[.bool true,.bool true,.bool false,.bool true,.bool false,.bool false,.bool false],.bool true]) (by simp [results,Tryz.results118,go_sem]) rfl ⟨rfl,by first | exact (Below.refl _ w).alloc (Nat.le_refl _) _ | (repeat (first | exact (Below.refl _ w).alloc (Nat.le_refl _) _ | refine Below.setCell ?_ (by simp) _))⟩
  · rw [show fieldsV 8=.tuple #[.agg #[.bool true,.bool true,.bool false,.bool false,.bool false,.bool false,.bool false],.bool true] from rfl];go_enter Tryz.func118,Tryz.ntmps118
    go_wp2_with fail
    exact bodyPost_ret (v:=.tuple #[.agg #[.bool true,.bool true,.bool false,.bool false,.bool false,.bool false,.bool false],.bool true]) (by simp [results,Tryz.results118,go_sem]) rfl ⟨rfl,by first | exact (Below.refl _ w).alloc (Nat.le_refl _) _ | (repeat (first | exact (Below.refl _ w).alloc (Nat.le_refl _) _ | refine Below.setCell ?_ (by simp) _))⟩
  · rw [show fieldsV 9=.tuple #[.agg #[.bool true,.bool true,.bool false,.bool false,.bool false,.bool false,.bool false],.bool true] from rfl];go_enter Tryz.func118,Tryz.ntmps118
    go_wp2_with fail
    exact bodyPost_ret (v:=.tuple #[.agg #[.bool true,.bool true,.bool false,.bool false,.bool false,.bool false,.bool false],.bool true]) (by simp [results,Tryz.results118,go_sem]) rfl ⟨rfl,by first | exact (Below.refl _ w).alloc (Nat.le_refl _) _ | (repeat (first | exact (Below.refl _ w).alloc (Nat.le_refl _) _ | refine Below.setCell ?_ (by simp) _))⟩
  · rw [show fieldsV 10=.tuple #[.agg #[.bool true,.bool true,.bool true,.bool false,.bool false,.bool false,.bool false],.bool true] from rfl];go_enter Tryz.func118,Tryz.ntmps118
    go_wp2_with fail
    exact bodyPost_ret (v:=.tuple #[.agg #[.bool true,.bool true,.bool true,.bool false,.bool false,.bool false,.bool false],.bool true]) (by simp [results,Tryz.results118,go_sem]) rfl ⟨rfl,by first | exact (Below.refl _ w).alloc (Nat.le_refl _) _ | (repeat (first | exact (Below.refl _ w).alloc (Nat.le_refl _) _ | refine Below.setCell ?_ (by simp) _))⟩
  · rw [show fieldsV 11=.tuple #[.agg #[.bool true,.bool false,.bool false,.bool false,.bool false,.bool false,.bool false],.bool true] from rfl];go_enter Tryz.func118,Tryz.ntmps118
    go_wp2_with fail
    exact bodyPost_ret (v:=.tuple #[.agg #[.bool true,.bool false,.bool false,.bool false,.bool false,.bool false,.bool false],.bool true]) (by simp [results,Tryz.results118,go_sem]) rfl ⟨rfl,by first | exact (Below.refl _ w).alloc (Nat.le_refl _) _ | (repeat (first | exact (Below.refl _ w).alloc (Nat.le_refl _) _ | refine Below.setCell ?_ (by simp) _))⟩
  · rw [show fieldsV 12=.tuple #[.agg #[.bool false,.bool false,.bool false,.bool false,.bool false,.bool false,.bool false],.bool true] from rfl];go_enter Tryz.func118,Tryz.ntmps118
    go_wp2_with fail
    exact bodyPost_ret (v:=.tuple #[.agg #[.bool false,.bool false,.bool false,.bool false,.bool false,.bool false,.bool false],.bool true]) (by simp [results,Tryz.results118,go_sem]) rfl ⟨rfl,by first | exact (Below.refl _ w).alloc (Nat.le_refl _) _ | (repeat (first | exact (Below.refl _ w).alloc (Nat.le_refl _) _ | refine Below.setCell ?_ (by simp) _))⟩
  · rw [show fieldsV 13=.tuple #[.agg #[.bool true,.bool false,.bool false,.bool false,.bool false,.bool false,.bool false],.bool true] from rfl];go_enter Tryz.func118,Tryz.ntmps118
    go_wp2_with fail
    exact bodyPost_ret (v:=.tuple #[.agg #[.bool true,.bool false,.bool false,.bool false,.bool false,.bool false,.bool false],.bool true]) (by simp [results,Tryz.results118,go_sem]) rfl ⟨rfl,by first | exact (Below.refl _ w).alloc (Nat.le_refl _) _ | (repeat (first | exact (Below.refl _ w).alloc (Nat.le_refl _) _ | refine Below.setCell ?_ (by simp) _))⟩
  · rw [show fieldsV 14=.tuple #[.agg #[.bool false,.bool false,.bool false,.bool true,.bool false,.bool true,.bool true],.bool true] from rfl];go_enter Tryz.func118,Tryz.ntmps118
    go_wp2_with fail
    exact bodyPost_ret (v:=.tuple #[.agg #[.bool false,.bool false,.bool false,.bool true,.bool false,.bool true,.bool true],.bool true]) (by simp [results,Tryz.results118,go_sem]) rfl ⟨rfl,by first | exact (Below.refl _ w).alloc (Nat.le_refl _) _ | (repeat (first | exact (Below.refl _ w).alloc (Nat.le_refl _) _ | refine Below.setCell ?_ (by simp) _))⟩
  · rw [show fieldsV op=.tuple #[.agg #[.bool false,.bool false,.bool false,.bool false,.bool false,.bool false,.bool false],.bool false] by unfold fieldsV fieldsOf;simp [n1,n2,n3,n4,n5,n6,n7,n8,n9,n10,n11,n12,n13,n14]];have g1:(op==1)=false:=by simpa using n1
    have g2:(op==2)=false:=by simpa using n2
    have g3:(op==3)=false:=by simpa using n3
    have g4:(op==4)=false:=by simpa using n4
    have g5:(op==5)=false:=by simpa using n5
    have g6:(op==6)=false:=by simpa using n6
    have g7:(op==7)=false:=by simpa using n7
    have g8:(op==8)=false:=by simpa using n8
    have g9:(op==9)=false:=by simpa using n9
    have g10:(op==10)=false:=by simpa using n10
    have g11:(op==11)=false:=by simpa using n11
    have g12:(op==12)=false:=by simpa using n12
    have g13:(op==13)=false:=by simpa using n13
    have g14:(op==14)=false:=by simpa using n14
    clear n1 n2 n3 n4 n5 n6 n7 n8 n9 n10 n11 n12 n13 n14;go_enter Tryz.func118,Tryz.ntmps118
    go_wp2_with fail
    exact bodyPost_ret (v:=.tuple #[.agg #[.bool false,.bool false,.bool false,.bool false,.bool false,.bool false,.bool false],.bool false]) (by simp [results,Tryz.results118,go_sem]) rfl ⟨rfl,by first | exact (Below.refl _ w).alloc (Nat.le_refl _) _ | (repeat (first | exact (Below.refl _ w).alloc (Nat.le_refl _) _ | refine Below.setCell ?_ (by simp) _))⟩
def insForm (funcs : Nat) (op a b c k n : Int) (rl al : Nat) : Int :=
  match fieldsOf op with
  | none=>3
  | some (fa,fb,fc,fk,fn,fr,fs) =>
    if (!fa && a != 0) || (!fb && b != 0) || (!fc && c != 0) || (!fk && k != 0) || (!fn && n != 0) || (!fr && decide (0<rl)) || (!fs && decide (0<al)) then 4
    else if op=2∧(k<1∨9<k) then 1
    else if op=5∧8<al then 2
    else if (op=6∨op=7)∧(k<0∨7<k) then 1
    else if op=14∧(k<0∨(funcs:Int)≤k) then 1
    else if op=14∧(6<rl∨8<al) then 2
    else 0
theorem MIns.form_eq (funcs : Nat) (x : MIns) : x.form funcs = insForm funcs x.op x.a x.b x.c x.k x.n x.regs.length x.args.length := by
  unfold MIns.form MIns.formless insForm
  cases fieldsOf x.op with
  | none=>rfl
  | some p=>obtain ⟨a,b,c,k,n,r,s⟩:=p;rfl
end Go.Proofs.YtacjnejckfhpoaeGreat
namespace Go.Proofs.YtacjnejckfhpoaeGreat
open Go.RowKit
set_option linter.unusedVariables false
structure Wd (w0 w : World) (Bs : List (Nat × Array Value × TypeId)) : Prop where
  bel:Below w0.heap.size w0 w
  blk:∀ (i:Nat) x,Bs[i]?=some x→Blk w x.1 x.2.1 x.2.2
  new:∀ (i:Nat) x,Bs[i]?=some x→w0.heap.size≤x.1
  nd:∀ (i j:Nat) x y,Bs[i]?=some x→Bs[j]?=some y→x.1=y.1→i=j
section
variable {w0 w w' : World} {Bs : List (Nat × Array Value × TypeId)}
theorem Wd.start (w : World) : Wd w w [] := ⟨Below.refl _ _, fun i x h => by simp at h, fun i x h => by simp at h, fun i j x y h => by simp at h⟩
theorem Wd.below (h : Wd w0 w Bs) (b : Below w.heap.size w w') : Wd w0 w' Bs := ⟨Below.andThen h.bel b, fun i x hx => (h.blk i x hx).below b, h.new, h.nd⟩
theorem Wd.get (h : Wd w0 w Bs) (i : Nat) {B : Nat} {c : Array Value} {t : TypeId} (hi : Bs[i]? = some (B, c, t)) : Blk w B c t := h.blk i _ hi
theorem Wd.new' (h : Wd w0 w Bs) (c : Array Value) (t : TypeId) : Wd w0 (w.alloc (.cells c t)) ((w.heap.size, c, t) :: Bs) := by
  refine ⟨Below.andThen h.bel (bel1 w _),fun i x hx=>?_,fun i x hx=>?_,fun i j x y hx hy e=>?_⟩
  · cases i with
    | zero=>simp at hx;subst hx;exact Blk.new w c t
    | succ i=>exact (h.blk i x (by simpa using hx)).alloc _
  · cases i with
    | zero=>simp at hx;subst hx;exact h.bel.size
    | succ i=>exact h.new i x (by simpa using hx)
  · cases i with
    | zero =>
      cases j with
      | zero=>rfl
      | succ j =>
        simp at hx hy;subst hx
        have:=(h.blk j y hy).lt
        simp at e;omega
    | succ i =>
      cases j with
      | zero =>
        simp at hx hy;subst hy
        have:=(h.blk i x hx).lt
        simp at e;omega
      | succ j=>rw [h.nd i j x y (by simpa using hx) (by simpa using hy) e]
theorem Wd.tail {x : Nat × Array Value × TypeId} (h : Wd w0 w (x :: Bs)) : Wd w0 w Bs :=
  ⟨h.bel,fun i y hy=>h.blk (i+1) y (by simpa using hy),fun i y hy=>h.new (i+1) y (by simpa using hy),fun i j y z hy hz e=>by have:=h.nd (i+1) (j+1) y z (by simpa using hy) (by simpa using hz) e;omega⟩
theorem Wd.set (h : Wd w0 w Bs) (i : Nat) {B : Nat} {c c' : Array Value} {t : TypeId} {Bs' : List (Nat × Array Value × TypeId)} (hi : Bs[i]? = some (B, c, t)) (j : Nat) (v : Value)
    (hc:c.setIfInBounds j v=c') (hB:Bs.set i (B,c',t)=Bs'):Wd w0 (w.setCell ⟨B,j,none⟩ v) Bs':=by
  subst hB;subst hc
  have sp:∀ (k:Nat) x,(Bs.set i (B,c.setIfInBounds j v,t))[k]?=some x→(k=i∧x=(B,c.setIfInBounds j v,t))∨(k≠i∧Bs[k]?=some x):=by
    intro k x hx;rw [List.getElem?_set] at hx;split at hx
    · rename_i e
      subst e;have hil:i<Bs.length:=(List.getElem?_eq_some_iff.1 hi).1;rw [if_pos hil] at hx;exact .inl ⟨rfl,(Option.some.inj hx).symm⟩
    · rename_i e
      exact .inr ⟨fun e'=>e e'.symm,hx⟩
  have key:∀ (k:Nat) x,Bs[k]?=some x→k≠i→x.1≠B:=fun k x hx hk e=>hk (h.nd k i x _ hx hi e);refine ⟨h.bel.setCell (p:=⟨B,j,none⟩) (h.new i _ hi) v,fun k x hx=>?_,fun k x hx=>?_,fun k l x y hx hy e=>?_⟩
  · rcases sp k x hx with ⟨rfl,rfl⟩ | ⟨hk,hx⟩
    · exact blockSet (h.blk k _ hi) j v
    · exact (h.blk k x hx).setOther (fun e=>key k x hx hk e.symm) v
  · rcases sp k x hx with ⟨rfl,rfl⟩ | ⟨hk,hx⟩
    · exact h.new k (B,c,t) hi
    · exact h.new k x hx
  · rcases sp k x hx with ⟨hk,hx1⟩ | ⟨hk,hx1⟩
    · rcases sp l y hy with ⟨hl,hy1⟩ | ⟨hl,hy1⟩
      · rw [hk,hl]
      · rw [hx1] at e;exact absurd e.symm (key l y hy1 hl)
    · rcases sp l y hy with ⟨hl,hy1⟩ | ⟨hl,hy1⟩
      · rw [hy1] at e;exact absurd e (key k x hx1 hk)
      · exact h.nd k l x y hx1 hy1 e
def spliced (c : Array Value) (j : Nat) (vs : List Value) : Array Value := (c.toList.take j ++ (vs ++ c.toList.drop (j + vs.length))).toArray
theorem spliced_cons (c : Array Value) (j : Nat) (v : Value) (vs : List Value) (h : j + (v :: vs).length ≤ c.size) : spliced (c.setIfInBounds j v) (j + 1) vs = spliced c j (v :: vs) := by
  unfold spliced;congr 1
  have hj:j<c.toList.length:=by simp at h ⊢;omega
  simp only [Array.toList_setIfInBounds];rw [List.take_set,List.drop_set_of_lt (by omega),List.take_add_one,List.getElem?_eq_getElem hj];simp only [Option.toList,List.length_cons]
  have:(c.toList.take j++[c.toList[j]]).set j v=c.toList.take j++[v]:=by
    rw [List.set_append_right _ _ (by simp;omega)];have hj':j<c.size:=by simpa using hj
    simp [Nat.min_eq_left (Nat.le_of_lt hj')]
  rw [this,Nat.add_assoc,Nat.add_comm 1];simp
theorem Wd.setAt (h : Wd w0 w Bs) (i : Nat) {B : Nat} {c c' : Array Value} {t : TypeId} {Bs' : List (Nat × Array Value × TypeId)} (hi : Bs[i]? = some (B, c, t)) (j : Nat) (vs : List Value)
    (hs:Nat.ble (j+vs.length) c.size=true) (hc:spliced c j vs=c') (hB:Bs.set i (B,c',t)=Bs'):Wd w0 (w.setCells B j vs) Bs':=by
  have hs':j+vs.length≤c.size:=by simpa [Nat.ble_eq] using hs
  clear hs
  induction vs generalizing w Bs c j with
  | nil =>
    subst hB
    have:c=c':=by rw [← hc];unfold spliced;simp
    subst this
    have:Bs.set i (B,c,t)=Bs:=by
      apply List.ext_getElem?
      intro k;rw [List.getElem?_set];split
      · rename_i e;subst e;rw [hi];simp [(List.getElem?_eq_some_iff.1 hi).1]
      · rfl
    rw [this];exact h
  | cons v vs ih =>
    have hil:i<Bs.length:=(List.getElem?_eq_some_iff.1 hi).1;refine ih (c:=c.setIfInBounds j v) (h.set i hi j v rfl rfl) (by rw [List.getElem?_set];simp [hil]) (j+1) ?_ ?_ ?_
    · rw [← hc,spliced_cons _ _ _ _ hs']
    · rw [List.set_set];exact hB
    · simp at hs' ⊢;omega
theorem Wd.drewN (h : Wd w0 w Bs) (m : Nat) : Wd w0 (w.drewN m) Bs := ⟨drewN_below h.bel, fun i x hx => h.blk i x hx, h.new, h.nd⟩
end
theorem wrap_succ (q : Nat) (h : q < 4611686018427387904) : IntKind.i64.wrap ((q : Int) + 1) = (q : Int) + 1 := by
  have:(q:Int)<4611686018427387904:=by omega
  have e1:((q:Int)+1) % 2 ^ 64=(q:Int)+1:=by omega
  simp only [IntKind.wrap,IntKind.signed,IntKind.bits,e1,Bool.true_and];rw [if_neg (by simp only [decide_eq_true_eq];omega)]
theorem Fr.sl2 {n : Nat} {a : Act} {L : List (Tmp × Value)} (h : Fr n a L) (t : Tmp) (v : Value) (e : L.lookup t = some v) : a.tmps[t]?.getD undef = v := by
  rw [← Array.getD_eq_getD_getElem?];exact h.sl t v e
structure New (w w' : World) (B : Nat) : Prop where
  bel:Below w.heap.size w w'
  at_:B=w.heap.size
  size:w'.heap.size=B+1
theorem bel_cell {w w' : World} (b : Below w.heap.size w w') {p : Addr} {v : Value} (h : w.cell? p = some v) : w'.cell? p = some v :=
  (World.cell?_of_block (w:=w) (a:=p) (b.block p.block (World.block_lt_of_cell? w p h))).trans h
section
variable {P : Program} {n : Nat} {a : Act} {L : List (Tmp × Value)} {w0 w w' : World} {Bs Bs' : List (Nat × Array Value × TypeId)} {Q : Exit → Act → World → Prop} {ops : Array Oper} {o : Oper} {rest : List Oper} {t : Tmp} {v : Value}
theorem fr_row (c : Array Value) (ty : TypeId) (m : Nat) (hF : Fr n a L) (hW : Wd w0 w Bs) (hd : o.dst = some t) (hg : o.guard = none) (ht : Nat.blt t n = true)
    (h:∀ K:Act→World→Prop,K (a.put (some t) (.slice (some ⟨w.heap.size,0,none⟩) m m)) (w.alloc (.cells c ty))→o.wp P a w K Q)
    (k:∀ a' w' B,Wd w0 w' ((B,c,ty)::Bs)→New w w' B→Fr n a' ((t,.slice (some ⟨B,0,none⟩) m m)::L)→wpList P ops Q rest a' w'):wpList P ops Q (o::rest) a w :=
  fr_pure hF hd hg ht h fun a' hF'=>k a' _ _ (hW.new' c ty) ⟨bel1 w _,rfl,by simp⟩ hF'
theorem fr_set (hF : Fr n a L) (hW : Wd w0 w' Bs') (hd : o.dst = none) (hg : o.guard = none)
    (h:∀ K:Act→World→Prop,K a w'→o.wp P a w K Q)
    (k:∀ w',Wd w0 w' Bs'→wpList P ops Q rest a w'):wpList P ops Q (o::rest) a w :=
  fr_skip hF hd hg h (k _ hW)
theorem ret_tmp {fn : Func} {R : Ending → World → Prop} (hF : Fr n a L) (hr : fn.results = #[.tmp t]) (hv : L.lookup t = some v) (hR : R (.returned v) w) : bodyPost P fn R .ret a w :=
  bodyPost_ret ((results_tmp hr _ _ _).trans (by rw [hF.sl t v hv])) hF.defers hR
end
abbrev PTab := List (Tmp × (Value → World → Prop))
def PTab.E (M : PTab) (t : Tmp) (v : Value) (w : World) : Prop := match M.lookup t with | some p => p v w | none => True
def Stable (R : World → World → Prop) : PTab → Prop
  | []=>True
  | x::r=>(∀ v w w',R w w'→x.2 v w→x.2 v w')∧Stable R r
theorem PTab_stable {R : World → World → Prop} : ∀ (M : PTab), Stable R M → ∀ t v w w', R w w' → PTab.E M t v w → PTab.E M t v w'
  | [],_,_,_,_,_,_,h=>h
  | x::r,hs,t,v,w,w',hr,h=>by
    unfold PTab.E at *;obtain ⟨s,p⟩:=x;by_cases e:t=s
    · subst e;simp at h ⊢
      exact hs.1 _ _ _ hr h
    · have e':(t==s)=false:=by simpa using e
      simp only [List.lookup_cons,e'] at h ⊢;exact PTab_stable r hs.2 t v w w' hr h
theorem fr_draw {P : Program} {n id : Nat} {l l2 : List Oper} {outs : List Tmp} {gs : List (Nat × Option Bool)} {bs : List Bool} {a : Act} {w : World} {L : List (Tmp × Value)} {Q : Exit → Act → World → Prop}
    (M:PTab) (W:World→Prop) (R:World→World→Prop)
    (hm:P.follows .mixedOrders=true) (hF:Fr n a L) (hL:(L.all fun p=>!(dstsOf l).contains p.1)=true) (hB:calmB l n outs gs bs=true)
    (hT:(backB 0 (l++l2) && (guardsB l.length l && tailB l.length l2))=true)
    (hR:Stable R M) (hG:GuardOk (PTab.E M) W l.toArray gs) (hW:W w.drew) (hO:OutsOk (PTab.E M) a w.drew outs)
    (hA:AllOk (PTab.E M) W R P l bs)
    (hend:∀ a' w',W w'→(∀ t,(dstsOf l).contains t=true→PTab.E M t (a'.tmps.getD t undef) w')→Fr n a' L→wpList P (l++l2).toArray Q l2 a' w') :
    (Code.region id (l++l2).toArray true).wp P Q a w:=by
  simp only [Bool.and_eq_true] at hT;obtain ⟨hT1,hT2,hT3⟩:=hT;refine wp_region_any hm ?_
  have key:wpAny P .any l.toArray (Exit.then (fun a w=>wpList P (l++l2).toArray Q l2 a w) Q) l.length (Array.replicate l.length false) a w.drew:=by
    refine wpAny_calm (E:=PTab.E M) (W:=W) (R:=R) (a0:=a) (outs:=outs) (gs:=gs) (bs:=bs) (by rw [hF.size];exact hB) (PTab_stable M hR) hG hA ?_ _ _ _ _ (by simp) ?_ ⟨hW,rfl,rfl,fun _ _=>rfl,fun t ht _=>outs_mem outs hO t ht,?_⟩
    · intro vs w' hw' hE
      have hlt:∀ t,(dstsOf l).contains t=true→t<a.tmps.size:=fun t ht=>by
        simp only [calmB,Bool.and_eq_true] at hB
        have:=List.all_eq_true.1 hB.1.1.1.2 t (by simpa using ht)
        rw [hF.size];simpa using this
      have hat:∀ t,(dstsOf l).contains t=true→(puts a vs (dstsOf l)).tmps.getD t undef=vs t:=fun t ht=>by
        have:=puts_at vs (dstsOf l) a t (hlt t ht)
        rw [if_pos (by simpa using ht)] at this;rw [Array.getD_eq_getD_getElem?,this];rfl
      refine hend _ w' hw' (fun t ht=>by rw [hat t ht];exact hE t ht) ⟨by rw [puts_size,hF.size],by rw [puts_defers,hF.defers],fun t v hl=>?_⟩
      have hm:∃ p∈L,p.1=t:=by
        clear hL hO hend
        have:∀ (L:List (Tmp × Value)),L.lookup t=some v→∃ p∈L,p.1=t:=by
          intro L
          induction L with
          | nil=>intro h;simp at h
          | cons x r ih =>
            intro h;by_cases e:t=x.1
            · exact ⟨x,by simp,e.symm⟩
            · have e':(t==x.1)=false:=beq_false_of_ne e;rw [List.lookup_cons,e'] at h;obtain ⟨p,hp,he⟩:=ih h;exact ⟨p,by simp [hp],he⟩
        exact this L hl
      obtain ⟨p,hp,rfl⟩:=hm
      have hn:¬ p.1∈dstsOf l:=by
        have:=List.all_eq_true.1 hL p hp
        simpa using this
      rw [← hF.sl p.1 v hl];by_cases hlt':p.1<a.tmps.size
      · have:=puts_at vs (dstsOf l) a p.1 hlt'
        rw [if_neg hn] at this;rw [Array.getD_eq_getD_getElem?,Array.getD_eq_getD_getElem?,this]
      · have h9:a.tmps.size≤p.1:=Nat.le_of_not_lt hlt';rw [Array.getD_eq_getD_getElem?,Array.getD_eq_getD_getElem?,Array.getElem?_eq_none (by rw [puts_size];exact h9),Array.getElem?_eq_none h9]
    · simp only [Array.toList_replicate];exact Nat.le_trans (List.length_filter_le _ _) (by simp)
    · intro j o t hj hd hl;simp [Array.getD] at hl
  have:=wpAny_tail (Q:=Q) hT1 hT2 hT3 l.length (Array.replicate l.length false) a w.drew (by simp) key
  have e:(Array.replicate l.length false++Array.replicate l2.length false:Array Bool)=Array.replicate (l++l2).toArray.size false:=by
    simp
  have e2:l.length+l2.length=(l++l2).toArray.size:=by simp
  rw [e,e2] at this;exact this
theorem fr_draw_k {P : Program} {n id : Nat} {lo : List Oper} {outs : List Tmp} {gs : List (Nat × Option Bool)} {bs : List Bool} {a : Act} {w : World} {L : List (Tmp × Value)} {Q : Exit → Act → World → Prop}
    (k:Nat) (M:PTab) (W:World→Prop) (R:World→World→Prop)
    (hm:P.follows .mixedOrders=true) (hF:Fr n a L) (hL:(L.all fun p=>!(dstsOf (lo.take k)).contains p.1)=true) (hB:calmB (lo.take k) n outs gs bs=true)
    (hT:(backB 0 lo && (guardsB (lo.take k).length (lo.take k) && tailB (lo.take k).length (lo.drop k)))=true)
    (hR:Stable R M) (hG:GuardOk (PTab.E M) W (lo.take k).toArray gs) (hW:W w.drew) (hO:OutsOk (PTab.E M) a w.drew outs)
    (hA:AllOk (PTab.E M) W R P (lo.take k) bs)
    (hend:∀ ops a' w',W w'→(∀ t,(dstsOf (lo.take k)).contains t=true→PTab.E M t (a'.tmps.getD t undef) w')→Fr n a' L→wpList P ops Q (lo.drop k) a' w') :
    (Code.region id lo.toArray true).wp P Q a w:=by
  have h:=fr_draw (id:=id) (l:=lo.take k) (l2:=lo.drop k) (Q:=Q) M W R hm hF hL hB (by rw [List.take_append_drop];exact hT) hR hG hW hO hA (hend _);rwa [List.take_append_drop] at h
section
variable {w0 w w' w00 : World} {Bs : List (Nat × Array Value × TypeId)}
theorem Wd.add (h : Wd w0 w Bs) {B : Nat} {c : Array Value} {t : TypeId} (hb : Blk w B c t) (h0 : Wd w0 w00 Bs) (hB : w00.heap.size ≤ B) : Wd w0 w ((B, c, t) :: Bs) := by
  refine ⟨h.bel,fun i x hx=>?_,fun i x hx=>?_,fun i j x y hx hy e=>?_⟩
  · cases i with
    | zero=>simp at hx;subst hx;exact hb
    | succ i=>exact h.blk i x (by simpa using hx)
  · cases i with
    | zero=>simp at hx;subst hx;have:=h0.bel.size;simp only;omega
    | succ i=>exact h.new i x (by simpa using hx)
  · cases i with
    | zero =>
      cases j with
      | zero=>rfl
      | succ j =>
        simp at hx hy;subst hx
        have:=(h0.blk j y hy).lt
        simp at e;omega
    | succ i =>
      cases j with
      | zero =>
        simp at hx hy;subst hy
        have:=(h0.blk i x hx).lt
        simp at e;omega
      | succ j=>rw [h.nd i j x y (by simpa using hx) (by simpa using hy) e]
end
end Go.Proofs.YtacjnejckfhpoaeGreat
namespace Go.Proofs.YtacjnejckfhpoaeGreat
open Go.ChangeShapes Go.WideShapes Go.ChangeAt Go.RowKit
set_option linter.unusedSimpArgs false
set_option linter.unusedVariables false
def evalL (L : List (Tmp × Value)) : Operand → Option Value
  | .tmp t=>L.lookup t
  | .const v=>some v
  | .func f=>some (.func (.func f) #[] #[])
  | _=>none
abbrev St (n : Nat) (L : List (Tmp × Value)) (ops : Array Oper) (Q : Exit → Act → World → Prop) (l : List Oper) (w : World) : Prop := ∀ a, Fr n a L → wpList Tryz.prog ops Q l a w
def Gok (ops : Array Oper) (n : Nat) (L : List (Tmp × Value)) : Option (Nat × Bool) → Prop
  | none=>True
  | some (g,want)=>∃ tg,(ops[g]?).bind (fun o:Oper=>o.dst)=some tg∧Nat.blt tg n=true∧L.lookup tg=some (.bool want)
section
variable {n : Nat} {a : Act} {L : List (Tmp × Value)} {w0 w : World} {Bs : List (Nat × Array Value × TypeId)} {Q : Exit → Act → World → Prop} {ops : Array Oper} {rest : List Oper} {t : Tmp} {u v : Value} {ty ty2 ty3 : TypeId} {pos : String} {aft : Array Edge} {gd : Option (Nat × Bool)} {x y z : Operand} {g tg : Nat} {want b : Bool}
theorem Fr.ev (h : Fr n a L) (e : evalL L x = some v) : a.eval x = v := by
  cases x <;> simp only [evalL,Option.some.injEq,reduceCtorEq] at e
  · exact h.sl _ _ e
  · exact e
  · subst e;rfl
theorem Gok.on {o : Oper} (hF : Fr n a L) (h : Gok ops n L o.guard) : Region.wanted o (yielded ops a.tmps) = true := by
  cases hg:o.guard with
  | none=>simp [Region.wanted,hg]
  | some p =>
    obtain ⟨g,want⟩:=p;rw [hg] at h;obtain ⟨tg,h1,h2,h3⟩:=h;rw [wanted_g hF hg h1 h2 h3];simp
theorem St.go {l : List Oper} (hF : Fr n a L) (h : St n L ops Q l w) : wpList Tryz.prog ops Q l a w := h a hF
theorem rg {id : Nat} {l : List Oper} (hF : Fr n a L) (h : ∀ ops, St n L ops Q l w) : (Code.region id l.toArray false).wp Tryz.prog Q a w := fr_region fun ops _ => h ops a hF
theorem St.nil (h : ∀ a, Fr n a L → Q .normal a w) : St n L ops Q [] w := h
theorem s_step {o : Oper} (hg : Gok ops n L o.guard) (hd : o.dst = some t) (ht : Nat.blt t n = true)
    (h:∀ ev:Operand→Value,(∀ x v,evalL L x=some v→ev x=v)→(execOp ev o).run Tryz.prog w=.ok (.value v) w)
    (k:St n ((t,v)::L) ops Q rest w):St n L ops Q (o::rest) w:=fun a hF =>
  wpList_step fun K hK=>by
    rw [if_pos (hg.on hF)];unfold Oper.wp;rw [h a.eval (fun x v e=>hF.ev e),Oper.upon_value,hd];exact hK _ _ (k _ (hF.put ht))
theorem so {op : Op} (hs : (ops[g]?).bind (fun o : Oper => o.dst) = some tg) (htg : Nat.blt tg n = true) (hv : L.lookup tg = some u) (hu : (match u with | .bool b => b == want | _ => false) = false) (ht : Nat.blt t n = true)
    (k:St n ((t,undef)::L) ops Q rest w):St n L ops Q (⟨some t,op,ty,pos,aft,some (g,want)⟩::rest) w:=fun a hF =>
  fr_off hF rfl rfl hs htg hv hu ht k
theorem sm (hg : Gok ops n L gd) (hx : evalL L x = some (v)) (ht : Nat.blt t n = true)
    (k:St n ((t,v)::L) ops Q rest w):St n L ops Q (⟨some t,.move x,ty,pos,aft,gd⟩::rest) w :=
  s_step hg rfl ht (fun ev hev=>by have e:=hev _ _ hx;simp [go_sem,e]) k
theorem sa (hg : Gok ops n L gd) (hx : evalL L x = some (v)) (ht : Nat.blt t n = true)
    (k:St n ((t,v)::L) ops Q rest w):St n L ops Q (⟨some t,.assign x,ty,pos,aft,gd⟩::rest) w :=
  s_step hg rfl ht (fun ev hev=>by have e:=hev _ _ hx;simp [go_sem,e]) k
theorem sn (hg : Gok ops n L gd) (hx : evalL L x = some (.bool b)) (ht : Nat.blt t n = true)
    (k:St n ((t,.bool (!b))::L) ops Q rest w):St n L ops Q (⟨some t,.unOp .not ty2 x,ty,pos,aft,gd⟩::rest) w :=
  s_step hg rfl ht (fun ev hev=>by have e:=hev _ _ hx;simp [go_sem,e]) k
theorem sp (hg : Gok ops n L gd) (hx : evalL L x = some (.bool true)) (hy : evalL L y = some (v)) (ht : Nat.blt t n = true)
    (k:St n ((t,v)::L) ops Q rest w):St n L ops Q (⟨some t,.pick x y z,ty,pos,aft,gd⟩::rest) w :=
  s_step hg rfl ht (fun ev hev=>by have e:=hev _ _ hx;have e2:=hev _ _ hy;simp [go_sem,e,e2]) k
theorem spf (hg : Gok ops n L gd) (hx : evalL L x = some (.bool false)) (hz : evalL L z = some (v)) (ht : Nat.blt t n = true)
    (k:St n ((t,v)::L) ops Q rest w):St n L ops Q (⟨some t,.pick x y z,ty,pos,aft,gd⟩::rest) w :=
  s_step hg rfl ht (fun ev hev=>by have e:=hev _ _ hx;have e2:=hev _ _ hz;simp [go_sem,e,e2]) k
theorem seq {p q : Int} (hg : Gok ops n L gd) (hx : evalL L x = some (.int .i64 p)) (hy : evalL L y = some (.int .i64 q)) (ht : Nat.blt t n = true)
    (k:St n ((t,.bool (p==q))::L) ops Q rest w):St n L ops Q (⟨some t,.binOp .eql 3 x y 3,ty,pos,aft,gd⟩::rest) w :=
  s_step hg rfl ht (fun ev hev=>by have e:=hev _ _ hx;have e2:=hev _ _ hy;simp [go_sem,e,e2]) k
theorem sne {p q : Int} (hg : Gok ops n L gd) (hx : evalL L x = some (.int .i64 p)) (hy : evalL L y = some (.int .i64 q)) (ht : Nat.blt t n = true)
    (k:St n ((t,.bool (p != q))::L) ops Q rest w):St n L ops Q (⟨some t,.binOp .neq 3 x y 3,ty,pos,aft,gd⟩::rest) w :=
  s_step hg rfl ht (fun ev hev=>by have e:=hev _ _ hx;have e2:=hev _ _ hy;simp [go_sem,e,e2]) k
theorem slt {p q : Int} (hg : Gok ops n L gd) (hx : evalL L x = some (.int .i64 p)) (hy : evalL L y = some (.int .i64 q)) (ht : Nat.blt t n = true)
    (k:St n ((t,.bool (decide (p<q)))::L) ops Q rest w):St n L ops Q (⟨some t,.binOp .lss 3 x y 3,ty,pos,aft,gd⟩::rest) w :=
  s_step hg rfl ht (fun ev hev=>by have e:=hev _ _ hx;have e2:=hev _ _ hy;simp [go_sem,e,e2]) k
theorem sgt {p q : Int} (hg : Gok ops n L gd) (hx : evalL L x = some (.int .i64 p)) (hy : evalL L y = some (.int .i64 q)) (ht : Nat.blt t n = true)
    (k:St n ((t,.bool (decide (q<p)))::L) ops Q rest w):St n L ops Q (⟨some t,.binOp .gtr 3 x y 3,ty,pos,aft,gd⟩::rest) w :=
  s_step hg rfl ht (fun ev hev=>by have e:=hev _ _ hx;have e2:=hev _ _ hy;simp [go_sem,e,e2]) k
theorem sge {p q : Int} (hg : Gok ops n L gd) (hx : evalL L x = some (.int .i64 p)) (hy : evalL L y = some (.int .i64 q)) (ht : Nat.blt t n = true)
    (k:St n ((t,.bool (decide (q≤p)))::L) ops Q rest w):St n L ops Q (⟨some t,.binOp .geq 3 x y 3,ty,pos,aft,gd⟩::rest) w :=
  s_step hg rfl ht (fun ev hev=>by have e:=hev _ _ hx;have e2:=hev _ _ hy;simp [go_sem,e,e2]) k
theorem seq6 {p q : Int} (hg : Gok ops n L gd) (hx : evalL L x = some (.int .i64 p)) (hy : evalL L y = some (.int .i64 q)) (ht : Nat.blt t n = true)
    (k:St n ((t,.bool (p==q))::L) ops Q rest w):St n L ops Q (⟨some t,.binOp .eql 2 x y 2,ty,pos,aft,gd⟩::rest) w :=
  s_step hg rfl ht (fun ev hev=>by have e:=hev _ _ hx;have e2:=hev _ _ hy;simp [go_sem,e,e2]) k
theorem sne6 {p q : Int} (hg : Gok ops n L gd) (hx : evalL L x = some (.int .i64 p)) (hy : evalL L y = some (.int .i64 q)) (ht : Nat.blt t n = true)
    (k:St n ((t,.bool (p != q))::L) ops Q rest w):St n L ops Q (⟨some t,.binOp .neq 2 x y 2,ty,pos,aft,gd⟩::rest) w :=
  s_step hg rfl ht (fun ev hev=>by have e:=hev _ _ hx;have e2:=hev _ _ hy;simp [go_sem,e,e2]) k
theorem sad {q : Nat} (hq : q < 4611686018427387904) (hg : Gok ops n L gd) (hx : evalL L x = some (.int .i64 (q : Int))) (hy : evalL L y = some (.int .i64 1)) (ht : Nat.blt t n = true)
    (k:St n ((t,.int .i64 ((q:Int)+1))::L) ops Q rest w):St n L ops Q (⟨some t,.binOp .add 3 x y 3,ty,pos,aft,gd⟩::rest) w :=
  s_step hg rfl ht (fun ev hev=>by have e:=hev _ _ hx;have e2:=hev _ _ hy;have e3:=wrap_succ q hq;simp [go_sem,e,e2,e3]) k
theorem slInts {p : Option Addr} {m c : Nat} (hg : Gok ops n L gd) (hx : evalL L x = some (.slice p m c)) (ht : Nat.blt t n = true)
    (k:St n ((t,.int .i64 (m:Int))::L) ops Q rest w):St n L ops Q (⟨some t,.call { callee:=.builtin .len,args:=#[x],argTypes:=#[35] },3,pos,aft,gd⟩::rest) w :=
  s_step hg rfl ht (fun ev hev=>by have e:=hev _ _ hx;simp [go_sem,e]) k
theorem slTypes {p : Option Addr} {m c : Nat} (hg : Gok ops n L gd) (hx : evalL L x = some (.slice p m c)) (ht : Nat.blt t n = true)
    (k:St n ((t,.int .i64 (m:Int))::L) ops Q rest w):St n L ops Q (⟨some t,.call { callee:=.builtin .len,args:=#[x],argTypes:=#[33] },3,pos,aft,gd⟩::rest) w :=
  s_step hg rfl ht (fun ev hev=>by have e:=hev _ _ hx;simp [go_sem,e]) k
theorem siTypes {p : Option Addr} {m c q B j : Nat} (hp : p = some ⟨B, j, none⟩) (hq : q < m) (hg : Gok ops n L gd) (hx : evalL L x = some (.slice p m c)) (hy : evalL L y = some (.int .i64 (q : Int))) (ht : Nat.blt t n = true)
    (k:St n ((t,.pointer (some ⟨B,j+q*3,none⟩))::L) ops Q rest w):St n L ops Q (⟨some t,.indexAddr 33 x y,ty,pos,aft,gd⟩::rest) w :=
  s_step hg rfl ht (fun ev hev=>by have e:=hev _ _ hx;have e2:=hev _ _ hy;have h0:=Int.natCast_nonneg q;have h1:=Int.ofNat_lt.2 hq;subst hp;simp [go_sem,e,e2,h0,h1,hq]) k
theorem slInss {p : Option Addr} {m c : Nat} (hg : Gok ops n L gd) (hx : evalL L x = some (.slice p m c)) (ht : Nat.blt t n = true)
    (k:St n ((t,.int .i64 (m:Int))::L) ops Q rest w):St n L ops Q (⟨some t,.call { callee:=.builtin .len,args:=#[x],argTypes:=#[25] },3,pos,aft,gd⟩::rest) w :=
  s_step hg rfl ht (fun ev hev=>by have e:=hev _ _ hx;simp [go_sem,e]) k
theorem siInss {p : Option Addr} {m c q B j : Nat} (hp : p = some ⟨B, j, none⟩) (hq : q < m) (hg : Gok ops n L gd) (hx : evalL L x = some (.slice p m c)) (hy : evalL L y = some (.int .i64 (q : Int))) (ht : Nat.blt t n = true)
    (k:St n ((t,.pointer (some ⟨B,j+q*8,none⟩))::L) ops Q rest w):St n L ops Q (⟨some t,.indexAddr 25 x y,ty,pos,aft,gd⟩::rest) w :=
  s_step hg rfl ht (fun ev hev=>by have e:=hev _ _ hx;have e2:=hev _ _ hy;have h0:=Int.natCast_nonneg q;have h1:=Int.ofNat_lt.2 hq;subst hp;simp [go_sem,e,e2,h0,h1,hq]) k
theorem slBlocks {p : Option Addr} {m c : Nat} (hg : Gok ops n L gd) (hx : evalL L x = some (.slice p m c)) (ht : Nat.blt t n = true)
    (k:St n ((t,.int .i64 (m:Int))::L) ops Q rest w):St n L ops Q (⟨some t,.call { callee:=.builtin .len,args:=#[x],argTypes:=#[38] },3,pos,aft,gd⟩::rest) w :=
  s_step hg rfl ht (fun ev hev=>by have e:=hev _ _ hx;simp [go_sem,e]) k
theorem siBlocks {p : Option Addr} {m c q B j : Nat} (hp : p = some ⟨B, j, none⟩) (hq : q < m) (hg : Gok ops n L gd) (hx : evalL L x = some (.slice p m c)) (hy : evalL L y = some (.int .i64 (q : Int))) (ht : Nat.blt t n = true)
    (k:St n ((t,.pointer (some ⟨B,j+q*12,none⟩))::L) ops Q rest w):St n L ops Q (⟨some t,.indexAddr 38 x y,ty,pos,aft,gd⟩::rest) w :=
  s_step hg rfl ht (fun ev hev=>by have e:=hev _ _ hx;have e2:=hev _ _ hy;have h0:=Int.natCast_nonneg q;have h1:=Int.ofNat_lt.2 hq;subst hp;simp [go_sem,e,e2,h0,h1,hq]) k
theorem slFuncs {p : Option Addr} {m c : Nat} (hg : Gok ops n L gd) (hx : evalL L x = some (.slice p m c)) (ht : Nat.blt t n = true)
    (k:St n ((t,.int .i64 (m:Int))::L) ops Q rest w):St n L ops Q (⟨some t,.call { callee:=.builtin .len,args:=#[x],argTypes:=#[22] },3,pos,aft,gd⟩::rest) w :=
  s_step hg rfl ht (fun ev hev=>by have e:=hev _ _ hx;simp [go_sem,e]) k
theorem siFuncs {p : Option Addr} {m c q B j : Nat} (hp : p = some ⟨B, j, none⟩) (hq : q < m) (hg : Gok ops n L gd) (hx : evalL L x = some (.slice p m c)) (hy : evalL L y = some (.int .i64 (q : Int))) (ht : Nat.blt t n = true)
    (k:St n ((t,.pointer (some ⟨B,j+q*4,none⟩))::L) ops Q rest w):St n L ops Q (⟨some t,.indexAddr 22 x y,ty,pos,aft,gd⟩::rest) w :=
  s_step hg rfl ht (fun ev hev=>by have e:=hev _ _ hx;have e2:=hev _ _ hy;have h0:=Int.natCast_nonneg q;have h1:=Int.ofNat_lt.2 hq;subst hp;simp [go_sem,e,e2,h0,h1,hq]) k
theorem sfType0 {B j : Nat} (hg : Gok ops n L gd) (hx : evalL L x = some (.pointer (some ⟨B, j, none⟩))) (ht : Nat.blt t n = true)
    (k:St n ((t,.pointer (some ⟨B,j,none⟩))::L) ops Q rest w):St n L ops Q (⟨some t,.fieldAddr 70 x 0,ty,pos,aft,gd⟩::rest) w :=
  s_step hg rfl ht (fun ev hev=>by have e:=hev _ _ hx;simp [go_sem,e]) k
theorem sfType2 {B j : Nat} (hg : Gok ops n L gd) (hx : evalL L x = some (.pointer (some ⟨B, j, none⟩))) (ht : Nat.blt t n = true)
    (k:St n ((t,.pointer (some ⟨B,j+2,none⟩))::L) ops Q rest w):St n L ops Q (⟨some t,.fieldAddr 70 x 2,ty,pos,aft,gd⟩::rest) w :=
  s_step hg rfl ht (fun ev hev=>by have e:=hev _ _ hx;simp [go_sem,e]) k
theorem sfIns0 {B j : Nat} (hg : Gok ops n L gd) (hx : evalL L x = some (.pointer (some ⟨B, j, none⟩))) (ht : Nat.blt t n = true)
    (k:St n ((t,.pointer (some ⟨B,j,none⟩))::L) ops Q rest w):St n L ops Q (⟨some t,.fieldAddr 46 x 0,ty,pos,aft,gd⟩::rest) w :=
  s_step hg rfl ht (fun ev hev=>by have e:=hev _ _ hx;simp [go_sem,e]) k
theorem sfIns1 {B j : Nat} (hg : Gok ops n L gd) (hx : evalL L x = some (.pointer (some ⟨B, j, none⟩))) (ht : Nat.blt t n = true)
    (k:St n ((t,.pointer (some ⟨B,j+1,none⟩))::L) ops Q rest w):St n L ops Q (⟨some t,.fieldAddr 46 x 1,ty,pos,aft,gd⟩::rest) w :=
  s_step hg rfl ht (fun ev hev=>by have e:=hev _ _ hx;simp [go_sem,e]) k
theorem sfIns2 {B j : Nat} (hg : Gok ops n L gd) (hx : evalL L x = some (.pointer (some ⟨B, j, none⟩))) (ht : Nat.blt t n = true)
    (k:St n ((t,.pointer (some ⟨B,j+2,none⟩))::L) ops Q rest w):St n L ops Q (⟨some t,.fieldAddr 46 x 2,ty,pos,aft,gd⟩::rest) w :=
  s_step hg rfl ht (fun ev hev=>by have e:=hev _ _ hx;simp [go_sem,e]) k
theorem sfIns3 {B j : Nat} (hg : Gok ops n L gd) (hx : evalL L x = some (.pointer (some ⟨B, j, none⟩))) (ht : Nat.blt t n = true)
    (k:St n ((t,.pointer (some ⟨B,j+3,none⟩))::L) ops Q rest w):St n L ops Q (⟨some t,.fieldAddr 46 x 3,ty,pos,aft,gd⟩::rest) w :=
  s_step hg rfl ht (fun ev hev=>by have e:=hev _ _ hx;simp [go_sem,e]) k
theorem sfIns4 {B j : Nat} (hg : Gok ops n L gd) (hx : evalL L x = some (.pointer (some ⟨B, j, none⟩))) (ht : Nat.blt t n = true)
    (k:St n ((t,.pointer (some ⟨B,j+4,none⟩))::L) ops Q rest w):St n L ops Q (⟨some t,.fieldAddr 46 x 4,ty,pos,aft,gd⟩::rest) w :=
  s_step hg rfl ht (fun ev hev=>by have e:=hev _ _ hx;simp [go_sem,e]) k
theorem sfIns5 {B j : Nat} (hg : Gok ops n L gd) (hx : evalL L x = some (.pointer (some ⟨B, j, none⟩))) (ht : Nat.blt t n = true)
    (k:St n ((t,.pointer (some ⟨B,j+5,none⟩))::L) ops Q rest w):St n L ops Q (⟨some t,.fieldAddr 46 x 5,ty,pos,aft,gd⟩::rest) w :=
  s_step hg rfl ht (fun ev hev=>by have e:=hev _ _ hx;simp [go_sem,e]) k
theorem sfIns6 {B j : Nat} (hg : Gok ops n L gd) (hx : evalL L x = some (.pointer (some ⟨B, j, none⟩))) (ht : Nat.blt t n = true)
    (k:St n ((t,.pointer (some ⟨B,j+6,none⟩))::L) ops Q rest w):St n L ops Q (⟨some t,.fieldAddr 46 x 6,ty,pos,aft,gd⟩::rest) w :=
  s_step hg rfl ht (fun ev hev=>by have e:=hev _ _ hx;simp [go_sem,e]) k
theorem sfIns7 {B j : Nat} (hg : Gok ops n L gd) (hx : evalL L x = some (.pointer (some ⟨B, j, none⟩))) (ht : Nat.blt t n = true)
    (k:St n ((t,.pointer (some ⟨B,j+7,none⟩))::L) ops Q rest w):St n L ops Q (⟨some t,.fieldAddr 46 x 7,ty,pos,aft,gd⟩::rest) w :=
  s_step hg rfl ht (fun ev hev=>by have e:=hev _ _ hx;simp [go_sem,e]) k
theorem sfTo0 {B j : Nat} (hg : Gok ops n L gd) (hx : evalL L x = some (.pointer (some ⟨B, j, none⟩))) (ht : Nat.blt t n = true)
    (k:St n ((t,.pointer (some ⟨B,j,none⟩))::L) ops Q rest w):St n L ops Q (⟨some t,.fieldAddr 56 x 0,ty,pos,aft,gd⟩::rest) w :=
  s_step hg rfl ht (fun ev hev=>by have e:=hev _ _ hx;simp [go_sem,e]) k
theorem sfTo1 {B j : Nat} (hg : Gok ops n L gd) (hx : evalL L x = some (.pointer (some ⟨B, j, none⟩))) (ht : Nat.blt t n = true)
    (k:St n ((t,.pointer (some ⟨B,j+1,none⟩))::L) ops Q rest w):St n L ops Q (⟨some t,.fieldAddr 56 x 1,ty,pos,aft,gd⟩::rest) w :=
  s_step hg rfl ht (fun ev hev=>by have e:=hev _ _ hx;simp [go_sem,e]) k
theorem sfTo2 {B j : Nat} (hg : Gok ops n L gd) (hx : evalL L x = some (.pointer (some ⟨B, j, none⟩))) (ht : Nat.blt t n = true)
    (k:St n ((t,.pointer (some ⟨B,j+2,none⟩))::L) ops Q rest w):St n L ops Q (⟨some t,.fieldAddr 56 x 2,ty,pos,aft,gd⟩::rest) w :=
  s_step hg rfl ht (fun ev hev=>by have e:=hev _ _ hx;simp [go_sem,e]) k
theorem sfEnd0 {B j : Nat} (hg : Gok ops n L gd) (hx : evalL L x = some (.pointer (some ⟨B, j, none⟩))) (ht : Nat.blt t n = true)
    (k:St n ((t,.pointer (some ⟨B,j,none⟩))::L) ops Q rest w):St n L ops Q (⟨some t,.fieldAddr 58 x 0,ty,pos,aft,gd⟩::rest) w :=
  s_step hg rfl ht (fun ev hev=>by have e:=hev _ _ hx;simp [go_sem,e]) k
theorem sfEnd1 {B j : Nat} (hg : Gok ops n L gd) (hx : evalL L x = some (.pointer (some ⟨B, j, none⟩))) (ht : Nat.blt t n = true)
    (k:St n ((t,.pointer (some ⟨B,j+1,none⟩))::L) ops Q rest w):St n L ops Q (⟨some t,.fieldAddr 58 x 1,ty,pos,aft,gd⟩::rest) w :=
  s_step hg rfl ht (fun ev hev=>by have e:=hev _ _ hx;simp [go_sem,e]) k
theorem sfEnd2 {B j : Nat} (hg : Gok ops n L gd) (hx : evalL L x = some (.pointer (some ⟨B, j, none⟩))) (ht : Nat.blt t n = true)
    (k:St n ((t,.pointer (some ⟨B,j+2,none⟩))::L) ops Q rest w):St n L ops Q (⟨some t,.fieldAddr 58 x 2,ty,pos,aft,gd⟩::rest) w :=
  s_step hg rfl ht (fun ev hev=>by have e:=hev _ _ hx;simp [go_sem,e]) k
theorem sfEnd3 {B j : Nat} (hg : Gok ops n L gd) (hx : evalL L x = some (.pointer (some ⟨B, j, none⟩))) (ht : Nat.blt t n = true)
    (k:St n ((t,.pointer (some ⟨B,j+5,none⟩))::L) ops Q rest w):St n L ops Q (⟨some t,.fieldAddr 58 x 3,ty,pos,aft,gd⟩::rest) w :=
  s_step hg rfl ht (fun ev hev=>by have e:=hev _ _ hx;simp [go_sem,e]) k
theorem sfEnd4 {B j : Nat} (hg : Gok ops n L gd) (hx : evalL L x = some (.pointer (some ⟨B, j, none⟩))) (ht : Nat.blt t n = true)
    (k:St n ((t,.pointer (some ⟨B,j+8,none⟩))::L) ops Q rest w):St n L ops Q (⟨some t,.fieldAddr 58 x 4,ty,pos,aft,gd⟩::rest) w :=
  s_step hg rfl ht (fun ev hev=>by have e:=hev _ _ hx;simp [go_sem,e]) k
theorem sfBlock0 {B j : Nat} (hg : Gok ops n L gd) (hx : evalL L x = some (.pointer (some ⟨B, j, none⟩))) (ht : Nat.blt t n = true)
    (k:St n ((t,.pointer (some ⟨B,j,none⟩))::L) ops Q rest w):St n L ops Q (⟨some t,.fieldAddr 60 x 0,ty,pos,aft,gd⟩::rest) w :=
  s_step hg rfl ht (fun ev hev=>by have e:=hev _ _ hx;simp [go_sem,e]) k
theorem sfBlock1 {B j : Nat} (hg : Gok ops n L gd) (hx : evalL L x = some (.pointer (some ⟨B, j, none⟩))) (ht : Nat.blt t n = true)
    (k:St n ((t,.pointer (some ⟨B,j+1,none⟩))::L) ops Q rest w):St n L ops Q (⟨some t,.fieldAddr 60 x 1,ty,pos,aft,gd⟩::rest) w :=
  s_step hg rfl ht (fun ev hev=>by have e:=hev _ _ hx;simp [go_sem,e]) k
theorem sfBlock2 {B j : Nat} (hg : Gok ops n L gd) (hx : evalL L x = some (.pointer (some ⟨B, j, none⟩))) (ht : Nat.blt t n = true)
    (k:St n ((t,.pointer (some ⟨B,j+2,none⟩))::L) ops Q rest w):St n L ops Q (⟨some t,.fieldAddr 60 x 2,ty,pos,aft,gd⟩::rest) w :=
  s_step hg rfl ht (fun ev hev=>by have e:=hev _ _ hx;simp [go_sem,e]) k
theorem sfBlock3 {B j : Nat} (hg : Gok ops n L gd) (hx : evalL L x = some (.pointer (some ⟨B, j, none⟩))) (ht : Nat.blt t n = true)
    (k:St n ((t,.pointer (some ⟨B,j+3,none⟩))::L) ops Q rest w):St n L ops Q (⟨some t,.fieldAddr 60 x 3,ty,pos,aft,gd⟩::rest) w :=
  s_step hg rfl ht (fun ev hev=>by have e:=hev _ _ hx;simp [go_sem,e]) k
theorem sfFunc0 {B j : Nat} (hg : Gok ops n L gd) (hx : evalL L x = some (.pointer (some ⟨B, j, none⟩))) (ht : Nat.blt t n = true)
    (k:St n ((t,.pointer (some ⟨B,j,none⟩))::L) ops Q rest w):St n L ops Q (⟨some t,.fieldAddr 40 x 0,ty,pos,aft,gd⟩::rest) w :=
  s_step hg rfl ht (fun ev hev=>by have e:=hev _ _ hx;simp [go_sem,e]) k
theorem sfFunc1 {B j : Nat} (hg : Gok ops n L gd) (hx : evalL L x = some (.pointer (some ⟨B, j, none⟩))) (ht : Nat.blt t n = true)
    (k:St n ((t,.pointer (some ⟨B,j+1,none⟩))::L) ops Q rest w):St n L ops Q (⟨some t,.fieldAddr 40 x 1,ty,pos,aft,gd⟩::rest) w :=
  s_step hg rfl ht (fun ev hev=>by have e:=hev _ _ hx;simp [go_sem,e]) k
theorem sfFunc2 {B j : Nat} (hg : Gok ops n L gd) (hx : evalL L x = some (.pointer (some ⟨B, j, none⟩))) (ht : Nat.blt t n = true)
    (k:St n ((t,.pointer (some ⟨B,j+2,none⟩))::L) ops Q rest w):St n L ops Q (⟨some t,.fieldAddr 40 x 2,ty,pos,aft,gd⟩::rest) w :=
  s_step hg rfl ht (fun ev hev=>by have e:=hev _ _ hx;simp [go_sem,e]) k
theorem sfFunc3 {B j : Nat} (hg : Gok ops n L gd) (hx : evalL L x = some (.pointer (some ⟨B, j, none⟩))) (ht : Nat.blt t n = true)
    (k:St n ((t,.pointer (some ⟨B,j+3,none⟩))::L) ops Q rest w):St n L ops Q (⟨some t,.fieldAddr 40 x 3,ty,pos,aft,gd⟩::rest) w :=
  s_step hg rfl ht (fun ev hev=>by have e:=hev _ _ hx;simp [go_sem,e]) k
theorem sfModule0 {B j : Nat} (hg : Gok ops n L gd) (hx : evalL L x = some (.pointer (some ⟨B, j, none⟩))) (ht : Nat.blt t n = true)
    (k:St n ((t,.pointer (some ⟨B,j,none⟩))::L) ops Q rest w):St n L ops Q (⟨some t,.fieldAddr 24 x 0,ty,pos,aft,gd⟩::rest) w :=
  s_step hg rfl ht (fun ev hev=>by have e:=hev _ _ hx;simp [go_sem,e]) k
theorem sfFault0 {B j : Nat} (hg : Gok ops n L gd) (hx : evalL L x = some (.pointer (some ⟨B, j, none⟩))) (ht : Nat.blt t n = true)
    (k:St n ((t,.pointer (some ⟨B,j,none⟩))::L) ops Q rest w):St n L ops Q (⟨some t,.fieldAddr 30 x 0,ty,pos,aft,gd⟩::rest) w :=
  s_step hg rfl ht (fun ev hev=>by have e:=hev _ _ hx;simp [go_sem,e]) k
theorem sfFields0 {B j : Nat} (hg : Gok ops n L gd) (hx : evalL L x = some (.pointer (some ⟨B, j, none⟩))) (ht : Nat.blt t n = true)
    (k:St n ((t,.pointer (some ⟨B,j,none⟩))::L) ops Q rest w):St n L ops Q (⟨some t,.fieldAddr 144 x 0,ty,pos,aft,gd⟩::rest) w :=
  s_step hg rfl ht (fun ev hev=>by have e:=hev _ _ hx;simp [go_sem,e]) k
theorem sfFields1 {B j : Nat} (hg : Gok ops n L gd) (hx : evalL L x = some (.pointer (some ⟨B, j, none⟩))) (ht : Nat.blt t n = true)
    (k:St n ((t,.pointer (some ⟨B,j+1,none⟩))::L) ops Q rest w):St n L ops Q (⟨some t,.fieldAddr 144 x 1,ty,pos,aft,gd⟩::rest) w :=
  s_step hg rfl ht (fun ev hev=>by have e:=hev _ _ hx;simp [go_sem,e]) k
theorem sfFields2 {B j : Nat} (hg : Gok ops n L gd) (hx : evalL L x = some (.pointer (some ⟨B, j, none⟩))) (ht : Nat.blt t n = true)
    (k:St n ((t,.pointer (some ⟨B,j+2,none⟩))::L) ops Q rest w):St n L ops Q (⟨some t,.fieldAddr 144 x 2,ty,pos,aft,gd⟩::rest) w :=
  s_step hg rfl ht (fun ev hev=>by have e:=hev _ _ hx;simp [go_sem,e]) k
theorem sfFields3 {B j : Nat} (hg : Gok ops n L gd) (hx : evalL L x = some (.pointer (some ⟨B, j, none⟩))) (ht : Nat.blt t n = true)
    (k:St n ((t,.pointer (some ⟨B,j+3,none⟩))::L) ops Q rest w):St n L ops Q (⟨some t,.fieldAddr 144 x 3,ty,pos,aft,gd⟩::rest) w :=
  s_step hg rfl ht (fun ev hev=>by have e:=hev _ _ hx;simp [go_sem,e]) k
theorem sfFields4 {B j : Nat} (hg : Gok ops n L gd) (hx : evalL L x = some (.pointer (some ⟨B, j, none⟩))) (ht : Nat.blt t n = true)
    (k:St n ((t,.pointer (some ⟨B,j+4,none⟩))::L) ops Q rest w):St n L ops Q (⟨some t,.fieldAddr 144 x 4,ty,pos,aft,gd⟩::rest) w :=
  s_step hg rfl ht (fun ev hev=>by have e:=hev _ _ hx;simp [go_sem,e]) k
theorem sfFields5 {B j : Nat} (hg : Gok ops n L gd) (hx : evalL L x = some (.pointer (some ⟨B, j, none⟩))) (ht : Nat.blt t n = true)
    (k:St n ((t,.pointer (some ⟨B,j+5,none⟩))::L) ops Q rest w):St n L ops Q (⟨some t,.fieldAddr 144 x 5,ty,pos,aft,gd⟩::rest) w :=
  s_step hg rfl ht (fun ev hev=>by have e:=hev _ _ hx;simp [go_sem,e]) k
theorem sfFields6 {B j : Nat} (hg : Gok ops n L gd) (hx : evalL L x = some (.pointer (some ⟨B, j, none⟩))) (ht : Nat.blt t n = true)
    (k:St n ((t,.pointer (some ⟨B,j+6,none⟩))::L) ops Q rest w):St n L ops Q (⟨some t,.fieldAddr 144 x 6,ty,pos,aft,gd⟩::rest) w :=
  s_step hg rfl ht (fun ev hev=>by have e:=hev _ _ hx;simp [go_sem,e]) k
theorem sffuncLook1 {B j : Nat} (hg : Gok ops n L gd) (hx : evalL L x = some (.pointer (some ⟨B, j, none⟩))) (ht : Nat.blt t n = true)
    (k:St n ((t,.pointer (some ⟨B,j+1,none⟩))::L) ops Q rest w):St n L ops Q (⟨some t,.fieldAddr 93 x 1,ty,pos,aft,gd⟩::rest) w :=
  s_step hg rfl ht (fun ev hev=>by have e:=hev _ _ hx;simp [go_sem,e]) k
theorem sffuncLook2 {B j : Nat} (hg : Gok ops n L gd) (hx : evalL L x = some (.pointer (some ⟨B, j, none⟩))) (ht : Nat.blt t n = true)
    (k:St n ((t,.pointer (some ⟨B,j+5,none⟩))::L) ops Q rest w):St n L ops Q (⟨some t,.fieldAddr 93 x 2,ty,pos,aft,gd⟩::rest) w :=
  s_step hg rfl ht (fun ev hev=>by have e:=hev _ _ hx;simp [go_sem,e]) k
theorem sfblockLook0 {B j : Nat} (hg : Gok ops n L gd) (hx : evalL L x = some (.pointer (some ⟨B, j, none⟩))) (ht : Nat.blt t n = true)
    (k:St n ((t,.pointer (some ⟨B,j,none⟩))::L) ops Q rest w):St n L ops Q (⟨some t,.fieldAddr 131 x 0,ty,pos,aft,gd⟩::rest) w :=
  s_step hg rfl ht (fun ev hev=>by have e:=hev _ _ hx;simp [go_sem,e]) k
theorem sfblockLook1 {B j : Nat} (hg : Gok ops n L gd) (hx : evalL L x = some (.pointer (some ⟨B, j, none⟩))) (ht : Nat.blt t n = true)
    (k:St n ((t,.pointer (some ⟨B,j+6,none⟩))::L) ops Q rest w):St n L ops Q (⟨some t,.fieldAddr 131 x 1,ty,pos,aft,gd⟩::rest) w :=
  s_step hg rfl ht (fun ev hev=>by have e:=hev _ _ hx;simp [go_sem,e]) k
theorem sfblockLook2 {B j : Nat} (hg : Gok ops n L gd) (hx : evalL L x = some (.pointer (some ⟨B, j, none⟩))) (ht : Nat.blt t n = true)
    (k:St n ((t,.pointer (some ⟨B,j+18,none⟩))::L) ops Q rest w):St n L ops Q (⟨some t,.fieldAddr 131 x 2,ty,pos,aft,gd⟩::rest) w :=
  s_step hg rfl ht (fun ev hev=>by have e:=hev _ _ hx;simp [go_sem,e]) k
theorem scInt {B j : Nat} (hc : w.cell? ⟨B, j, none⟩ = some v) (hg : Gok ops n L gd) (hx : evalL L x = some (.pointer (some ⟨B, j, none⟩))) (ht : Nat.blt t n = true)
    (k:St n ((t,v)::L) ops Q rest w):St n L ops Q (⟨some t,.load 3 x,ty,pos,aft,gd⟩::rest) w :=
  s_step hg rfl ht (fun ev hev=>by have e:=hev _ _ hx;simp [go_sem,e,hc]) k
theorem sbInt (i : Nat) {B j : Nat} {c : Array Value} {bt : TypeId} (hW : Wd w0 w Bs) (hg : Gok ops n L gd) (hx : evalL L x = some (.pointer (some ⟨B, j, none⟩))) (hb : Bs[i]? = some (B, c, bt)) (hc : c[j]? = some v) (ht : Nat.blt t n = true)
    (k:St n ((t,v)::L) ops Q rest w):St n L ops Q (⟨some t,.load 3 x,ty,pos,aft,gd⟩::rest) w:=scInt (cellOf (hW.get i hb) j v hc) hg hx ht k
theorem scInt6 {B j : Nat} (hc : w.cell? ⟨B, j, none⟩ = some v) (hg : Gok ops n L gd) (hx : evalL L x = some (.pointer (some ⟨B, j, none⟩))) (ht : Nat.blt t n = true)
    (k:St n ((t,v)::L) ops Q rest w):St n L ops Q (⟨some t,.load 2 x,ty,pos,aft,gd⟩::rest) w :=
  s_step hg rfl ht (fun ev hev=>by have e:=hev _ _ hx;simp [go_sem,e,hc]) k
theorem sbInt6 (i : Nat) {B j : Nat} {c : Array Value} {bt : TypeId} (hW : Wd w0 w Bs) (hg : Gok ops n L gd) (hx : evalL L x = some (.pointer (some ⟨B, j, none⟩))) (hb : Bs[i]? = some (B, c, bt)) (hc : c[j]? = some v) (ht : Nat.blt t n = true)
    (k:St n ((t,v)::L) ops Q rest w):St n L ops Q (⟨some t,.load 2 x,ty,pos,aft,gd⟩::rest) w:=scInt6 (cellOf (hW.get i hb) j v hc) hg hx ht k
theorem scBool {B j : Nat} (hc : w.cell? ⟨B, j, none⟩ = some v) (hg : Gok ops n L gd) (hx : evalL L x = some (.pointer (some ⟨B, j, none⟩))) (ht : Nat.blt t n = true)
    (k:St n ((t,v)::L) ops Q rest w):St n L ops Q (⟨some t,.load 4 x,ty,pos,aft,gd⟩::rest) w :=
  s_step hg rfl ht (fun ev hev=>by have e:=hev _ _ hx;simp [go_sem,e,hc]) k
theorem sbBool (i : Nat) {B j : Nat} {c : Array Value} {bt : TypeId} (hW : Wd w0 w Bs) (hg : Gok ops n L gd) (hx : evalL L x = some (.pointer (some ⟨B, j, none⟩))) (hb : Bs[i]? = some (B, c, bt)) (hc : c[j]? = some v) (ht : Nat.blt t n = true)
    (k:St n ((t,v)::L) ops Q rest w):St n L ops Q (⟨some t,.load 4 x,ty,pos,aft,gd⟩::rest) w:=scBool (cellOf (hW.get i hb) j v hc) hg hx ht k
theorem scInts {B j : Nat} (hc : w.cell? ⟨B, j, none⟩ = some v) (hg : Gok ops n L gd) (hx : evalL L x = some (.pointer (some ⟨B, j, none⟩))) (ht : Nat.blt t n = true)
    (k:St n ((t,v)::L) ops Q rest w):St n L ops Q (⟨some t,.load 35 x,ty,pos,aft,gd⟩::rest) w :=
  s_step hg rfl ht (fun ev hev=>by have e:=hev _ _ hx;simp [go_sem,e,hc]) k
theorem sbInts (i : Nat) {B j : Nat} {c : Array Value} {bt : TypeId} (hW : Wd w0 w Bs) (hg : Gok ops n L gd) (hx : evalL L x = some (.pointer (some ⟨B, j, none⟩))) (hb : Bs[i]? = some (B, c, bt)) (hc : c[j]? = some v) (ht : Nat.blt t n = true)
    (k:St n ((t,v)::L) ops Q rest w):St n L ops Q (⟨some t,.load 35 x,ty,pos,aft,gd⟩::rest) w:=scInts (cellOf (hW.get i hb) j v hc) hg hx ht k
theorem scTypes {B j : Nat} (hc : w.cell? ⟨B, j, none⟩ = some v) (hg : Gok ops n L gd) (hx : evalL L x = some (.pointer (some ⟨B, j, none⟩))) (ht : Nat.blt t n = true)
    (k:St n ((t,v)::L) ops Q rest w):St n L ops Q (⟨some t,.load 33 x,ty,pos,aft,gd⟩::rest) w :=
  s_step hg rfl ht (fun ev hev=>by have e:=hev _ _ hx;simp [go_sem,e,hc]) k
theorem sbTypes (i : Nat) {B j : Nat} {c : Array Value} {bt : TypeId} (hW : Wd w0 w Bs) (hg : Gok ops n L gd) (hx : evalL L x = some (.pointer (some ⟨B, j, none⟩))) (hb : Bs[i]? = some (B, c, bt)) (hc : c[j]? = some v) (ht : Nat.blt t n = true)
    (k:St n ((t,v)::L) ops Q rest w):St n L ops Q (⟨some t,.load 33 x,ty,pos,aft,gd⟩::rest) w:=scTypes (cellOf (hW.get i hb) j v hc) hg hx ht k
theorem scInss {B j : Nat} (hc : w.cell? ⟨B, j, none⟩ = some v) (hg : Gok ops n L gd) (hx : evalL L x = some (.pointer (some ⟨B, j, none⟩))) (ht : Nat.blt t n = true)
    (k:St n ((t,v)::L) ops Q rest w):St n L ops Q (⟨some t,.load 25 x,ty,pos,aft,gd⟩::rest) w :=
  s_step hg rfl ht (fun ev hev=>by have e:=hev _ _ hx;simp [go_sem,e,hc]) k
theorem sbInss (i : Nat) {B j : Nat} {c : Array Value} {bt : TypeId} (hW : Wd w0 w Bs) (hg : Gok ops n L gd) (hx : evalL L x = some (.pointer (some ⟨B, j, none⟩))) (hb : Bs[i]? = some (B, c, bt)) (hc : c[j]? = some v) (ht : Nat.blt t n = true)
    (k:St n ((t,v)::L) ops Q rest w):St n L ops Q (⟨some t,.load 25 x,ty,pos,aft,gd⟩::rest) w:=scInss (cellOf (hW.get i hb) j v hc) hg hx ht k
theorem scBlocks {B j : Nat} (hc : w.cell? ⟨B, j, none⟩ = some v) (hg : Gok ops n L gd) (hx : evalL L x = some (.pointer (some ⟨B, j, none⟩))) (ht : Nat.blt t n = true)
    (k:St n ((t,v)::L) ops Q rest w):St n L ops Q (⟨some t,.load 38 x,ty,pos,aft,gd⟩::rest) w :=
  s_step hg rfl ht (fun ev hev=>by have e:=hev _ _ hx;simp [go_sem,e,hc]) k
theorem sbBlocks (i : Nat) {B j : Nat} {c : Array Value} {bt : TypeId} (hW : Wd w0 w Bs) (hg : Gok ops n L gd) (hx : evalL L x = some (.pointer (some ⟨B, j, none⟩))) (hb : Bs[i]? = some (B, c, bt)) (hc : c[j]? = some v) (ht : Nat.blt t n = true)
    (k:St n ((t,v)::L) ops Q rest w):St n L ops Q (⟨some t,.load 38 x,ty,pos,aft,gd⟩::rest) w:=scBlocks (cellOf (hW.get i hb) j v hc) hg hx ht k
theorem scFuncs {B j : Nat} (hc : w.cell? ⟨B, j, none⟩ = some v) (hg : Gok ops n L gd) (hx : evalL L x = some (.pointer (some ⟨B, j, none⟩))) (ht : Nat.blt t n = true)
    (k:St n ((t,v)::L) ops Q rest w):St n L ops Q (⟨some t,.load 22 x,ty,pos,aft,gd⟩::rest) w :=
  s_step hg rfl ht (fun ev hev=>by have e:=hev _ _ hx;simp [go_sem,e,hc]) k
theorem sbFuncs (i : Nat) {B j : Nat} {c : Array Value} {bt : TypeId} (hW : Wd w0 w Bs) (hg : Gok ops n L gd) (hx : evalL L x = some (.pointer (some ⟨B, j, none⟩))) (hb : Bs[i]? = some (B, c, bt)) (hc : c[j]? = some v) (ht : Nat.blt t n = true)
    (k:St n ((t,v)::L) ops Q rest w):St n L ops Q (⟨some t,.load 22 x,ty,pos,aft,gd⟩::rest) w:=scFuncs (cellOf (hW.get i hb) j v hc) hg hx ht k
theorem rangeOf {w : World} {B : Nat} {c : Array Value} {t : TypeId} (h : Blk w B c t) (j m : Nat) (hn : Nat.ble (j + m) c.size = true) : w.rangeAt B j ((c.toList.drop j).take m) := fun k v hk => by
  have hlt:k<((c.toList.drop j).take m).length:=(List.getElem?_eq_some_iff.1 hk).1;have hm:k<m:=by simp at hlt;omega
  rw [List.getElem?_take,if_pos hm,List.getElem?_drop] at hk;exact cellOf h (j+k) v (by simpa using hk)
theorem thereOf {w : World} {B : Nat} {c : Array Value} {t : TypeId} (h : Blk w B c t) (j n : Nat) (hn : j + n ≤ c.size) : w.there B j n := fun k hk =>
  ⟨by rw [cellOf h (j+k) c[j+k] (by simp [show j+k<c.size by omega])];rfl,freeOf h (j+k)⟩
theorem rangeAt_bel {w w' : World} {B j : Nat} {cs : List Value} (h : w.rangeAt B j cs) (b : Below w.heap.size w w') : w'.rangeAt B j cs := fun k v hk => bel_cell b (h k v hk)
theorem sSE {d : TypeDesc} {B j : Nat} {cs : List Value} (hu : Tryz.prog.underlying ty2 = some d) (hd : d.isRow = true) (hr : w.rangeAt B j cs) (hi : (Tryz.prog.info? ty2).map (·.size) = some cs.length) (hg : Gok ops n L gd) (hx : evalL L x = some (.pointer (some ⟨B, j, none⟩))) (ht : Nat.blt t n = true)
    (k:St n ((t,.agg cs.toArray)::L) ops Q rest w):St n L ops Q (⟨some t,.load ty2 x,ty,pos,aft,gd⟩::rest) w :=
  s_step hg rfl ht (fun ev hev=>by
    have e:=hev _ _ hx;have e2:=run_loadAt_mid (P:=Tryz.prog) w B j ty2 cs d hr hu hd hi;unfold execOp;simp only [e,Sem.run_bind,e2,Result.andThen_ok,Sem.run_pure]) k
theorem sS {d : TypeDesc} (i m : Nat) {B j : Nat} {c : Array Value} {bt : TypeId} (hu : Tryz.prog.underlying ty2 = some d) (hd : d.isRow = true) (hi : (Tryz.prog.info? ty2).map (·.size) = some m) (hW : Wd w0 w Bs) (hg : Gok ops n L gd) (hx : evalL L x = some (.pointer (some ⟨B, j, none⟩))) (hb : Bs[i]? = some (B, c, bt)) (hn : Nat.ble (j + m) c.size = true) (ht : Nat.blt t n = true)
    (k:St n ((t,.agg ((c.toList.drop j).take m).toArray)::L) ops Q rest w):St n L ops Q (⟨some t,.load ty2 x,ty,pos,aft,gd⟩::rest) w :=
  sSE hu hd (rangeOf (hW.get i hb) j m hn) (by rw [hi];have:j+m≤c.size:=by simpa [Nat.ble_eq] using hn
                                               simp;omega) hg hx ht k
theorem s_new {o : Oper} (c : Array Value) (bt : TypeId) (hW : Wd w0 w Bs) (hd : o.dst = some t) (hg : Gok ops n L o.guard) (ht : Nat.blt t n = true)
    (h:∀ ev:Operand→Value,(∀ x v,evalL L x=some v→ev x=v)→(execOp ev o).run Tryz.prog w=.ok (.value (.pointer (some ⟨w.heap.size,0,none⟩))) (w.alloc (.cells c bt)))
    (k:∀ w' B,Wd w0 w' ((B,c,bt)::Bs)→New w w' B→St n ((t,.pointer (some ⟨B,0,none⟩))::L) ops Q rest w'):St n L ops Q (o::rest) w:=fun a hF =>
  wpList_step fun K hK=>by
    rw [if_pos (hg.on hF)];unfold Oper.wp;rw [h a.eval (fun x v e=>hF.ev e),Oper.upon_value,hd];exact hK _ _ (k _ _ (hW.new' c bt) ⟨bel1 w _,rfl,by simp⟩ _ (hF.put ht))
theorem sB {cs : Array Value} (hW : Wd w0 w Bs) (hg : Gok ops n L gd) (hx : evalL L x = some (.agg cs)) (ht : Nat.blt t n = true)
    (k:∀ w' B,Wd w0 w' ((B,cs,ty2)::Bs)→New w w' B→St n ((t,.pointer (some ⟨B,0,none⟩))::L) ops Q rest w'):St n L ops Q (⟨some t,.box ty2 x,ty,pos,aft,gd⟩::rest) w :=
  s_new cs ty2 hW rfl hg ht (fun ev hev=>by have e:=hev _ _ hx;simp [go_sem,e]) k
theorem sAType (hW : Wd w0 w Bs) (hg : Gok ops n L gd) (ht : Nat.blt t n = true)
    (k:∀ w' B,Wd w0 w' ((B,#[.int .i64 0,.int .i64 0,.slice none 0 0],70)::Bs)→New w w' B→St n ((t,.pointer (some ⟨B,0,none⟩))::L) ops Q rest w'):St n L ops Q (⟨some t,.alloc 70,ty,pos,aft,gd⟩::rest) w :=
  s_new #[.int .i64 0,.int .i64 0,.slice none 0 0] 70 hW rfl hg ht (fun ev hev=>by simp [go_sem]) k
theorem sAIns (hW : Wd w0 w Bs) (hg : Gok ops n L gd) (ht : Nat.blt t n = true)
    (k:∀ w' B,Wd w0 w' ((B,#[.int .i64 0,.int .i64 0,.int .i64 0,.int .i64 0,.int .i64 0,.int .i64 0,.slice none 0 0,.slice none 0 0],46)::Bs)→New w w' B→St n ((t,.pointer (some ⟨B,0,none⟩))::L) ops Q rest w'):St n L ops Q (⟨some t,.alloc 46,ty,pos,aft,gd⟩::rest) w :=
  s_new #[.int .i64 0,.int .i64 0,.int .i64 0,.int .i64 0,.int .i64 0,.int .i64 0,.slice none 0 0,.slice none 0 0] 46 hW rfl hg ht (fun ev hev=>by simp [go_sem]) k
theorem sATo (hW : Wd w0 w Bs) (hg : Gok ops n L gd) (ht : Nat.blt t n = true)
    (k:∀ w' B,Wd w0 w' ((B,#[.int .i64 0,.slice none 0 0,.slice none 0 0],56)::Bs)→New w w' B→St n ((t,.pointer (some ⟨B,0,none⟩))::L) ops Q rest w'):St n L ops Q (⟨some t,.alloc 56,ty,pos,aft,gd⟩::rest) w :=
  s_new #[.int .i64 0,.slice none 0 0,.slice none 0 0] 56 hW rfl hg ht (fun ev hev=>by simp [go_sem]) k
theorem sAEnd (hW : Wd w0 w Bs) (hg : Gok ops n L gd) (ht : Nat.blt t n = true)
    (k:∀ w' B,Wd w0 w' ((B,#[.int .i64 0,.int .i64 0,.int .i64 0,.slice none 0 0,.slice none 0 0,.int .i64 0,.slice none 0 0,.slice none 0 0,.slice none 0 0],58)::Bs)→New w w' B→St n ((t,.pointer (some ⟨B,0,none⟩))::L) ops Q rest w'):St n L ops Q (⟨some t,.alloc 58,ty,pos,aft,gd⟩::rest) w :=
  s_new #[.int .i64 0,.int .i64 0,.int .i64 0,.slice none 0 0,.slice none 0 0,.int .i64 0,.slice none 0 0,.slice none 0 0,.slice none 0 0] 58 hW rfl hg ht (fun ev hev=>by simp [go_sem]) k
theorem sABlock (hW : Wd w0 w Bs) (hg : Gok ops n L gd) (ht : Nat.blt t n = true)
    (k:∀ w' B,Wd w0 w' ((B,#[.int .i64 0,.slice none 0 0,.slice none 0 0,.int .i64 0,.int .i64 0,.int .i64 0,.slice none 0 0,.slice none 0 0,.int .i64 0,.slice none 0 0,.slice none 0 0,.slice none 0 0],60)::Bs)→New w w' B→St n ((t,.pointer (some ⟨B,0,none⟩))::L) ops Q rest w'):St n L ops Q (⟨some t,.alloc 60,ty,pos,aft,gd⟩::rest) w :=
  s_new #[.int .i64 0,.slice none 0 0,.slice none 0 0,.int .i64 0,.int .i64 0,.int .i64 0,.slice none 0 0,.slice none 0 0,.int .i64 0,.slice none 0 0,.slice none 0 0,.slice none 0 0] 60 hW rfl hg ht (fun ev hev=>by simp [go_sem]) k
theorem sAFunc (hW : Wd w0 w Bs) (hg : Gok ops n L gd) (ht : Nat.blt t n = true)
    (k:∀ w' B,Wd w0 w' ((B,#[.int .i64 0,.slice none 0 0,.slice none 0 0,.slice none 0 0],40)::Bs)→New w w' B→St n ((t,.pointer (some ⟨B,0,none⟩))::L) ops Q rest w'):St n L ops Q (⟨some t,.alloc 40,ty,pos,aft,gd⟩::rest) w :=
  s_new #[.int .i64 0,.slice none 0 0,.slice none 0 0,.slice none 0 0] 40 hW rfl hg ht (fun ev hev=>by simp [go_sem]) k
theorem sAModule (hW : Wd w0 w Bs) (hg : Gok ops n L gd) (ht : Nat.blt t n = true)
    (k:∀ w' B,Wd w0 w' ((B,#[.slice none 0 0],24)::Bs)→New w w' B→St n ((t,.pointer (some ⟨B,0,none⟩))::L) ops Q rest w'):St n L ops Q (⟨some t,.alloc 24,ty,pos,aft,gd⟩::rest) w :=
  s_new #[.slice none 0 0] 24 hW rfl hg ht (fun ev hev=>by simp [go_sem]) k
theorem sAFault (hW : Wd w0 w Bs) (hg : Gok ops n L gd) (ht : Nat.blt t n = true)
    (k:∀ w' B,Wd w0 w' ((B,#[.int .i64 0,.int .i64 0],30)::Bs)→New w w' B→St n ((t,.pointer (some ⟨B,0,none⟩))::L) ops Q rest w'):St n L ops Q (⟨some t,.alloc 30,ty,pos,aft,gd⟩::rest) w :=
  s_new #[.int .i64 0,.int .i64 0] 30 hW rfl hg ht (fun ev hev=>by simp [go_sem]) k
theorem sAFields (hW : Wd w0 w Bs) (hg : Gok ops n L gd) (ht : Nat.blt t n = true)
    (k:∀ w' B,Wd w0 w' ((B,#[.bool false,.bool false,.bool false,.bool false,.bool false,.bool false,.bool false],144)::Bs)→New w w' B→St n ((t,.pointer (some ⟨B,0,none⟩))::L) ops Q rest w'):St n L ops Q (⟨some t,.alloc 144,ty,pos,aft,gd⟩::rest) w :=
  s_new #[.bool false,.bool false,.bool false,.bool false,.bool false,.bool false,.bool false] 144 hW rfl hg ht (fun ev hev=>by simp [go_sem]) k
theorem sT (i : Nat) {B j : Nat} {c : Array Value} {bt : TypeId} {cells : List Value} (hW : Wd w0 w Bs)
    (hx:evalL L x=some (.pointer (some ⟨B,j,none⟩))) (hy:evalL L y=some (.agg cells.toArray)) (hi:(Tryz.prog.info? ty2).map (·.size)=some cells.length) (h1:cells.all (·.oneCell')=true)
    (hb:Bs[i]?=some (B,c,bt)) (hs:Nat.ble (j+cells.length) c.size=true)
    (k:∀ w',Wd w0 w' (Bs.set i (B,spliced c j cells,bt))→St n L ops Q rest w'):St n L ops Q (⟨none,.store ty2 x y,ty,pos,aft,none⟩::rest) w:=fun a hF=>by
  have hn:j+cells.length≤c.size:=by simpa [Nat.ble_eq] using hs
  refine fr_set hF (hW.setAt i hb j cells hs rfl rfl) rfl rfl (fun K hK=>?_) (fun w' hW'=>k w' hW' a hF);have e:=hF.ev hx;have e2:=hF.ev hy
  have:=run_storeAt_mid (P:=Tryz.prog) w B j ty2 cells.toArray (by simpa using thereOf (hW.get i hb) j cells.length hn) (by simpa using hi) (by simpa using h1)
  unfold Oper.wp execOp;simp only [e,e2,Sem.run_bind,this,Result.andThen_ok,Sem.run_pure];rw [Oper.upon_skip];simpa [Act.put] using hK
theorem s1 (i : Nat) {B j : Nat} {c : Array Value} {bt : TypeId} (hi : (Tryz.prog.info? ty2).map (·.size) = some 1) (hW : Wd w0 w Bs)
    (hx:evalL L x=some (.pointer (some ⟨B,j,none⟩))) (hy:evalL L y=some v) (hv:v.cells=#[v]) (h1:v.oneCell'=true)
    (hb:Bs[i]?=some (B,c,bt)) (hs:Nat.ble (j+1) c.size=true)
    (k:∀ w',Wd w0 w' (Bs.set i (B,spliced c j [v],bt))→St n L ops Q rest w'):St n L ops Q (⟨none,.store ty2 x y,ty,pos,aft,none⟩::rest) w:=fun a hF=>by
  have hn:j+1≤c.size:=by simpa [Nat.ble_eq] using hs
  refine fr_set hF (hW.setAt i hb j [v] hs rfl rfl) rfl rfl (fun K hK=>?_) (fun w' hW'=>k w' hW' a hF);have e:=hF.ev hx;have e2:=hF.ev hy;have ht:=thereOf (hW.get i hb) j 1 hn;have h2:=run_storeCells_cells (P:=Tryz.prog) B j [v] 0 w (fun k hk=>by simpa using (ht k (by simpa using hk)).1) (fun k hk=>by simpa using (ht k (by simpa using hk)).2) (fun u hu=>by simp at hu;subst hu;exact h1)
  have h3:(Instr.storeAt ty2 (.pointer (some ⟨B,j,none⟩)) v).run Tryz.prog w=.ok () (w.setCells B j [v]):=by
    cases hq:Tryz.prog.info? ty2 with
    | none=>simp [hq] at hi
    | some q =>
      have hs1:q.size=1:=by simpa [hq] using hi
      simp only [Nat.add_zero] at h2;simp [Instr.storeAt,Instr.sureAddr,storeVar,sizeOf,typeInfo,hq,hv,hs1,h2]
  unfold Oper.wp execOp;simp only [e,e2,Sem.run_bind,h3,Result.andThen_ok,Sem.run_pure];rw [Oper.upon_skip];simpa [Act.put] using hK
theorem s_call {o : Oper} {f : FuncId} {args : Array Value} {V : Value} (hW : Wd w0 w Bs) (hg : Gok ops n L o.guard) (hc : Rd Tryz.prog f args w V) (hd : o.dst = some t) (ht : Nat.blt t n = true)
    (h:∀ ev:Operand→Value,(∀ x v,evalL L x=some v→ev x=v)→(execOp ev o).run Tryz.prog w=.ok (.enter f args) w)
    (k:∀ w',Wd w0 w' Bs→St n ((t,V)::L) ops Q rest w'):St n L ops Q (o::rest) w:=fun a hF =>
  wpList_step fun K hK=>by
    rw [if_pos (hg.on hF)];unfold Oper.wp;rw [h a.eval (fun x v e=>hF.ev e),Oper.upon_enter];refine hc.mono ?_;rintro e w9 ⟨rfl,hb⟩;rw [hd];exact hK _ _ (k _ (hW.below hb) _ (hF.put ht))
def CF (f : FuncId) : Prop := ∀ (args : Array Value) (w : World), (callFunc f args).run Tryz.prog w = .ok (.enter f args) w
theorem cf_of {f : FuncId} {fn : Func} (hf : Tryz.prog.funcs[f]? = some fn) (h1 : (fn.name == "runtime.NumGoroutine") = false) (h2 : fn.body.isNone = false) : CF f := fun args w => by
  have h3 : ¬ fn.name = "runtime.NumGoroutine" := by simpa using h1
  have h4:¬ fn.body=none:=by intro h;rw [h] at h2;cases h2
  simp [callFunc,hf,h3,h4]
theorem sc_1 {f : FuncId} {ts : Array TypeId} {x0 : Operand} {v0 : Value} {V : Value} (hcf : CF f) (hW : Wd w0 w Bs) (hc : Rd Tryz.prog f #[v0] w V) (hg : Gok ops n L gd) (h0 : evalL L x0 = some v0) (ht : Nat.blt t n = true)
    (k:∀ w',Wd w0 w' Bs→St n ((t,V)::L) ops Q rest w'):St n L ops Q (⟨some t,.call { callee:=.value (.func f),args:=#[x0],argTypes:=ts },ty,pos,aft,gd⟩::rest) w :=
  s_call hW hg hc rfl ht (fun ev hev=>by have e0:=hev _ _ h0;have ef:=hev (.func f) _ rfl;have ec:=hcf;unfold CF at ec;simp [go_sem,ef,ec,e0]) k
theorem sc_2 {f : FuncId} {ts : Array TypeId} {x0 x1 : Operand} {v0 v1 : Value} {V : Value} (hcf : CF f) (hW : Wd w0 w Bs) (hc : Rd Tryz.prog f #[v0, v1] w V) (hg : Gok ops n L gd) (h0 : evalL L x0 = some v0) (h1 : evalL L x1 = some v1) (ht : Nat.blt t n = true)
    (k:∀ w',Wd w0 w' Bs→St n ((t,V)::L) ops Q rest w'):St n L ops Q (⟨some t,.call { callee:=.value (.func f),args:=#[x0,x1],argTypes:=ts },ty,pos,aft,gd⟩::rest) w :=
  s_call hW hg hc rfl ht (fun ev hev=>by have e0:=hev _ _ h0;have e1:=hev _ _ h1;have ef:=hev (.func f) _ rfl;have ec:=hcf;unfold CF at ec;simp [go_sem,ef,ec,e0,e1]) k
theorem sc_3 {f : FuncId} {ts : Array TypeId} {x0 x1 x2 : Operand} {v0 v1 v2 : Value} {V : Value} (hcf : CF f) (hW : Wd w0 w Bs) (hc : Rd Tryz.prog f #[v0, v1, v2] w V) (hg : Gok ops n L gd) (h0 : evalL L x0 = some v0) (h1 : evalL L x1 = some v1) (h2 : evalL L x2 = some v2) (ht : Nat.blt t n = true)
    (k:∀ w',Wd w0 w' Bs→St n ((t,V)::L) ops Q rest w'):St n L ops Q (⟨some t,.call { callee:=.value (.func f),args:=#[x0,x1,x2],argTypes:=ts },ty,pos,aft,gd⟩::rest) w :=
  s_call hW hg hc rfl ht (fun ev hev=>by have e0:=hev _ _ h0;have e1:=hev _ _ h1;have e2:=hev _ _ h2;have ef:=hev (.func f) _ rfl;have ec:=hcf;unfold CF at ec;simp [go_sem,ef,ec,e0,e1,e2]) k
theorem sv_10 {f : FuncId} {ts : Array TypeId} {xf : Operand} {x0 : Operand} {v0 : Value} {V : Value} (hcf : CF f) (hW : Wd w0 w Bs) (hc : Rd Tryz.prog f #[v0] w V) (hg : Gok ops n L gd) (hf : evalL L xf = some (.func (.func f) #[] #[])) (h0 : evalL L x0 = some v0) (ht : Nat.blt t n = true)
    (k:∀ w',Wd w0 w' Bs→St n ((t,V)::L) ops Q rest w'):St n L ops Q (⟨some t,.call { callee:=.value xf,args:=#[x0],argTypes:=ts },ty,pos,aft,gd⟩::rest) w :=
  s_call hW hg hc rfl ht (fun ev hev=>by have e0:=hev _ _ h0;have ef:=hev _ _ hf;have ec:=hcf;unfold CF at ec;simp [go_sem,ef,ec,e0]) k
theorem sv_21 {f : FuncId} {ts : Array TypeId} {xf : Operand} {x0 x1 : Operand} {v0 v1 cp : Value} {V : Value} (hcf : CF f) (hW : Wd w0 w Bs) (hc : Rd Tryz.prog f #[v0, v1, cp] w V) (hg : Gok ops n L gd) (hf : evalL L xf = some (.func (.func f) #[] #[cp])) (h0 : evalL L x0 = some v0) (h1 : evalL L x1 = some v1) (ht : Nat.blt t n = true)
    (k:∀ w',Wd w0 w' Bs→St n ((t,V)::L) ops Q rest w'):St n L ops Q (⟨some t,.call { callee:=.value xf,args:=#[x0,x1],argTypes:=ts },ty,pos,aft,gd⟩::rest) w :=
  s_call hW hg hc rfl ht (fun ev hev=>by have e0:=hev _ _ h0;have e1:=hev _ _ h1;have ef:=hev _ _ hf;have ec:=hcf;unfold CF at ec;simp [go_sem,ef,ec,e0,e1]) k
theorem cf82 : CF 82 := cf_of Tryz.func82 (by kernel_rfl) (by kernel_rfl)
theorem cf97 : CF 97 := cf_of Tryz.func97 (by kernel_rfl) (by kernel_rfl)
theorem cf48 : CF 48 := cf_of Tryz.func48 (by kernel_rfl) (by kernel_rfl)
theorem cf133 : CF 133 := cf_of Tryz.func133 (by kernel_rfl) (by kernel_rfl)
theorem cf21 : CF 21 := cf_of Tryz.func21 (by kernel_rfl) (by kernel_rfl)
theorem cf46 : CF 46 := cf_of Tryz.func46 (by kernel_rfl) (by kernel_rfl)
theorem cf22 : CF 22 := cf_of Tryz.func22 (by kernel_rfl) (by kernel_rfl)
theorem cf14 : CF 14 := cf_of Tryz.func14 (by kernel_rfl) (by kernel_rfl)
theorem cf25 : CF 25 := cf_of Tryz.func25 (by kernel_rfl) (by kernel_rfl)
theorem cf55 : CF 55 := cf_of Tryz.func55 (by kernel_rfl) (by kernel_rfl)
theorem cf56 : CF 56 := cf_of Tryz.func56 (by kernel_rfl) (by kernel_rfl)
theorem cf57 : CF 57 := cf_of Tryz.func57 (by kernel_rfl) (by kernel_rfl)
theorem cf44 : CF 44 := cf_of Tryz.func44 (by kernel_rfl) (by kernel_rfl)
theorem cf49 : CF 49 := cf_of Tryz.func49 (by kernel_rfl) (by kernel_rfl)
theorem cf50 : CF 50 := cf_of Tryz.func50 (by kernel_rfl) (by kernel_rfl)
theorem cf13 : CF 13 := cf_of Tryz.func13 (by kernel_rfl) (by kernel_rfl)
theorem cf58 : CF 58 := cf_of Tryz.func58 (by kernel_rfl) (by kernel_rfl)
theorem cf59 : CF 59 := cf_of Tryz.func59 (by kernel_rfl) (by kernel_rfl)
theorem cf118 : CF 118 := cf_of Tryz.func118 (by kernel_rfl) (by kernel_rfl)
theorem cf124 : CF 124 := cf_of Tryz.func124 (by kernel_rfl) (by kernel_rfl)
theorem cf54 : CF 54 := cf_of Tryz.func54 (by kernel_rfl) (by kernel_rfl)
theorem cf95 : CF 95 := cf_of Tryz.func95 (by kernel_rfl) (by kernel_rfl)
theorem cf96 : CF 96 := cf_of Tryz.func96 (by kernel_rfl) (by kernel_rfl)
theorem cf98 : CF 98 := cf_of Tryz.func98 (by kernel_rfl) (by kernel_rfl)
theorem cf99 : CF 99 := cf_of Tryz.func99 (by kernel_rfl) (by kernel_rfl)
theorem cf100 : CF 100 := cf_of Tryz.func100 (by kernel_rfl) (by kernel_rfl)
theorem cf89 : CF 89 := cf_of Tryz.func89 (by kernel_rfl) (by kernel_rfl)
theorem cf88 : CF 88 := cf_of Tryz.func88 (by kernel_rfl) (by kernel_rfl)
theorem cf101 : CF 101 := cf_of Tryz.func101 (by kernel_rfl) (by kernel_rfl)
theorem cf102 : CF 102 := cf_of Tryz.func102 (by kernel_rfl) (by kernel_rfl)
theorem cf103 : CF 103 := cf_of Tryz.func103 (by kernel_rfl) (by kernel_rfl)
theorem cf104 : CF 104 := cf_of Tryz.func104 (by kernel_rfl) (by kernel_rfl)
theorem cf141 : CF 141 := cf_of Tryz.func141 (by kernel_rfl) (by kernel_rfl)
theorem cf130 : CF 130 := cf_of Tryz.func130 (by kernel_rfl) (by kernel_rfl)
theorem cf131 : CF 131 := cf_of Tryz.func131 (by kernel_rfl) (by kernel_rfl)
theorem cf132 : CF 132 := cf_of Tryz.func132 (by kernel_rfl) (by kernel_rfl)
theorem cf134 : CF 134 := cf_of Tryz.func134 (by kernel_rfl) (by kernel_rfl)
theorem cf135 : CF 135 := cf_of Tryz.func135 (by kernel_rfl) (by kernel_rfl)
theorem cf136 : CF 136 := cf_of Tryz.func136 (by kernel_rfl) (by kernel_rfl)
theorem cf137 : CF 137 := cf_of Tryz.func137 (by kernel_rfl) (by kernel_rfl)
theorem cf138 : CF 138 := cf_of Tryz.func138 (by kernel_rfl) (by kernel_rfl)
theorem cf113 : CF 113 := cf_of Tryz.func113 (by kernel_rfl) (by kernel_rfl)
theorem cf146 : CF 146 := cf_of Tryz.func146 (by kernel_rfl) (by kernel_rfl)
theorem cf147 : CF 147 := cf_of Tryz.func147 (by kernel_rfl) (by kernel_rfl)
theorem cf148 : CF 148 := cf_of Tryz.func148 (by kernel_rfl) (by kernel_rfl)
theorem cf154 : CF 154 := cf_of Tryz.func154 (by kernel_rfl) (by kernel_rfl)
theorem infType : (Tryz.prog.info? 70).map (·.size) = some 3 := by kernel_rfl
theorem infIns : (Tryz.prog.info? 46).map (·.size) = some 8 := by kernel_rfl
theorem infTo : (Tryz.prog.info? 56).map (·.size) = some 3 := by kernel_rfl
theorem infEnd : (Tryz.prog.info? 58).map (·.size) = some 9 := by kernel_rfl
theorem infBlock : (Tryz.prog.info? 60).map (·.size) = some 12 := by kernel_rfl
theorem infFunc : (Tryz.prog.info? 40).map (·.size) = some 4 := by kernel_rfl
theorem infModule : (Tryz.prog.info? 24).map (·.size) = some 1 := by kernel_rfl
theorem infFault : (Tryz.prog.info? 30).map (·.size) = some 2 := by kernel_rfl
theorem infFields : (Tryz.prog.info? 144).map (·.size) = some 7 := by kernel_rfl
theorem inffuncLook : (Tryz.prog.info? 93).map (·.size) = some 6 := by kernel_rfl
theorem infblockLook : (Tryz.prog.info? 131).map (·.size) = some 19 := by kernel_rfl
theorem inf1Ints : (Tryz.prog.info? 35).map (·.size) = some 1 := by kernel_rfl
theorem inf1Types : (Tryz.prog.info? 33).map (·.size) = some 1 := by kernel_rfl
theorem inf1Inss : (Tryz.prog.info? 25).map (·.size) = some 1 := by kernel_rfl
theorem inf1Blocks : (Tryz.prog.info? 38).map (·.size) = some 1 := by kernel_rfl
theorem inf1Funcs : (Tryz.prog.info? 22).map (·.size) = some 1 := by kernel_rfl
theorem ret_box {fn : Func} {R : Ending → World → Prop} {d : TypeDesc} (i : Nat) {B : Nat} {c : Array Value} {bt : TypeId} (hF : Fr n a L) (hW : Wd w0 w Bs) (hr : fn.results = #[.cell t ty]) (hv : L.lookup t = some (.pointer (some ⟨B, 0, none⟩))) (hb : Bs[i]? = some (B, c, bt))
    (hu:Tryz.prog.underlying ty=some d) (hd:d.isRow=true) (hi:(Tryz.prog.info? ty).map (·.size)=some c.size) (hR:R (.returned (.agg c)) w):bodyPost Tryz.prog fn R .ret a w:=by
  refine bodyPost_ret ?_ hF.defers hR;have e:=hF.sl2 t _ hv;have e2:=run_loadVar_mid (P:=Tryz.prog) w B 0 ty c.toList d (by have:=rangeOf (hW.get i hb) 0 c.size (by simp [Nat.ble_eq]);rw [List.drop_zero,List.take_of_length_le (by simp)] at this;exact this) hu hd (by simpa using hi);simp only [Array.toArray_toList] at e2;simp [results,hr,e,asAddr,e2]
end
theorem rdFieldsSome {op : Int} {fa fb fc fk fn fr fs : Bool} (hop : fieldsOf op = some (fa, fb, fc, fk, fn, fr, fs)) (w : World) : Rd Tryz.prog 118 #[.int .i64 op] w (.tuple #[.agg #[.bool fa, .bool fb, .bool fc, .bool fk, .bool fn, .bool fr, .bool fs], .bool true]) := by
  have:=fieldsOf_any op w
  rwa [show fieldsV op=.tuple #[.agg #[.bool fa,.bool fb,.bool fc,.bool fk,.bool fn,.bool fr,.bool fs],.bool true] from by unfold fieldsV;rw [hop]] at this
theorem rdFieldsNo {op : Int} (hop : fieldsOf op = none) (w : World) : Rd Tryz.prog 118 #[.int .i64 op] w (.tuple #[.agg #[.bool false, .bool false, .bool false, .bool false, .bool false, .bool false, .bool false], .bool false]) := by
  have:=fieldsOf_any op w
  rwa [show fieldsV op=.tuple #[.agg #[.bool false,.bool false,.bool false,.bool false,.bool false,.bool false,.bool false],.bool false] from by unfold fieldsV;rw [hop]] at this
theorem insForm_d {lm : Nat} {op a b c k n : Int} {rl al : Nat} {fa fb fc fk fn fr fs d1 d2 d3 d4 d5 d6 d7 : Bool} (e : fieldsOf op = some (fa, fb, fc, fk, fn, fr, fs))
    (h1:d1=(!fa && a != 0)) (h2:d2=(d1 || (!fb && b != 0))) (h3:d3=(d2 || (!fc && c != 0))) (h4:d4=(d3 || (!fk && k != 0))) (h5:d5=(d4 || (!fn && n != 0))) (h6:d6=(d5 || (!fr && decide ((0:Int)<(rl:Int))))) (h7:d7=(d6 || (!fs && decide ((0:Int)<(al:Int))))) :
    insForm lm op a b c k n rl al=if d7 then 4
    else if op=2∧(k<1∨9<k) then 1
    else if op=5∧8<al then 2
    else if (op=6∨op=7)∧(k<0∨7<k) then 1
    else if op=14∧(k<0∨(lm:Int)≤k) then 1
    else if op=14∧(6<rl∨8<al) then 2
    else 0:=by
  subst h1 h2 h3 h4 h5 h6 h7;simp only [insForm,e];have e1:decide ((0:Int)<(rl:Int))=decide (0<rl):=by simp
  have e2:decide ((0:Int)<(al:Int))=decide (0<al):=by simp
  rw [e1,e2]
def rangeC (x l m : Int) : Int := if x < l ∨ m < x then 1 else 0
def manyC (len : Nat) (m : Int) : Int := if m < len then 2 else 0
def handedC (r : Nat) (m : Int) (s : Nat) : Int := if manyC r m ≠ 0 then manyC r m else manyC s 8
def bareB (a b c k n : Int) (rl al : Nat) : Bool := a == 0 && b == 0 && c == 0 && k == 0 && n == 0 && (rl : Int) == 0 && (al : Int) == 0
def boundsC (funcs : Nat) (op k : Int) (rl al : Nat) : Int :=
  if op=2 then rangeC k 1 9 else if op=6∨op=7 then rangeC k 0 7 else if op=5 then manyC al 8
  else if op=14 then (if rangeC k 0 ((funcs:Int) - 1)=0 then handedC rl 6 al else rangeC k 0 ((funcs:Int) - 1)) else 0
theorem fb (f : Bool) (a : Int) : (!f && a != 0) = !((bif f then 0 else a) == 0) := by cases f <;> simp [bne]
theorem fbn (f : Bool) (l : Nat) : (!f && decide (0 < l)) = !(((bif f then 0 else l : Nat) : Int) == 0) := by
  cases f
  · by_cases h:l=0
    · simp [h]
    · have:0<l:=by omega
      simp [this,h]
  · simp
theorem bounds_eq (lm : Nat) (op k : Int) (rl al : Nat) : (if op = 2 ∧ (k < 1 ∨ 9 < k) then 1
    else if op=5∧8<al then 2
    else if (op=6∨op=7)∧(k<0∨7<k) then 1
    else if op=14∧(k<0∨(lm:Int)≤k) then 1
    else if op=14∧(6<rl∨8<al) then 2
    else 0)=boundsC lm op k rl al:=by
  unfold boundsC;by_cases h2:op=2
  · subst h2;simp [rangeC]
  · by_cases h6:op=6∨op=7
    · have h5:¬ op=5:=by omega
      have h14:¬ op=14:=by omega
      simp [h2,h5,h6,h14,rangeC]
    · by_cases h5:op=5
      · subst h5;simp [manyC];split <;> split <;> omega
      · by_cases h14:op=14
        · subst h14;simp [rangeC,handedC,manyC];repeat' split
          all_goals omega
        · simp [h2,h5,h6,h14]
theorem insForm_bare {lm : Nat} {op a b c k n : Int} {rl al : Nat} {fa fb' fc fk fn fr fs : Bool} (e : fieldsOf op = some (fa, fb', fc, fk, fn, fr, fs)) :
    insForm lm op a b c k n rl al=if bareB (bif fa then 0 else a) (bif fb' then 0 else b) (bif fc then 0 else c) (bif fk then 0 else k) (bif fn then 0 else n) (bif fr then 0 else rl) (bif fs then 0 else al)=true then boundsC lm op k rl al else 4:=by
  simp only [insForm,e,bounds_eq];rw [fb,fb,fb,fb,fb,fbn,fbn];unfold bareB;generalize ((bif fa then 0 else a)==0)=q1;generalize ((bif fb' then 0 else b)==0)=q2;generalize ((bif fc then 0 else c)==0)=q3;generalize ((bif fk then 0 else k)==0)=q4;generalize ((bif fn then 0 else n)==0)=q5;generalize (((bif fr then 0 else rl:Nat):Int)==0)=q6;generalize (((bif fs then 0 else al:Nat):Int)==0)=q7
  cases q1 <;> cases q2 <;> cases q3 <;> cases q4 <;> cases q5 <;> cases q6 <;> cases q7 <;> rfl
theorem cFuncAt_any {f : Nat} {w : World} (h : f < 1000000) : Rd Tryz.prog 97 #[.int .i64 (f : Int)] w (.int .i64 (10000 * (f : Int) + 9999)) := by
  unfold Rd;skip
  skip
  go_enter Tryz.func97,Tryz.ntmps97
  go_wp2
  go_ret;refine ⟨?_,Below.refl _ _⟩;show Ending.returned (.int .i64 ((f:Int)*10000+9999))=_;congr 2
  omega
theorem cBlockAt_any {f b : Nat} {w : World} (h : f < 1000000 ∧ b < 1000000) : Rd Tryz.prog 133 #[.int .i64 (f : Int), .int .i64 (b : Int)] w (.int .i64 (10000 * (f : Int) + 100 * (b : Int) + 90)) := by
  unfold Rd;have h1:=h.1;have h2:=h.2;skip
  go_enter Tryz.func133,Tryz.ntmps133
  go_wp2
  go_ret;refine ⟨?_,Below.refl _ _⟩;show Ending.returned (.int .i64 ((f:Int)*10000+(b:Int)*100+90))=_;congr 2
  omega
theorem cEndAt_any {f b : Nat} {w : World} (h : f < 1000000 ∧ b < 1000000) : Rd Tryz.prog 78 #[.int .i64 (f : Int), .int .i64 (b : Int)] w (.int .i64 (10000 * (f : Int) + 100 * (b : Int) + 91)) := by
  unfold Rd;have h1:=h.1;have h2:=h.2;skip
  go_enter Tryz.func78,Tryz.ntmps78
  go_wp2
  go_ret;refine ⟨?_,Below.refl _ _⟩;show Ending.returned (.int .i64 ((f:Int)*10000+(b:Int)*100+91))=_;congr 2
  omega
theorem cInsAt_any {f b i : Nat} {w : World} (h : f < 1000000 ∧ b < 1000000 ∧ i < 1000000) : Rd Tryz.prog 77 #[.int .i64 (f : Int), .int .i64 (b : Int), .int .i64 (i : Int)] w (.int .i64 (10000 * (f : Int) + 100 * (b : Int) + (i : Int))) := by
  unfold Rd;have h1:=h.1;have h2:=h.2;have h3:=h.2.1;have h4:=h.2.2;go_enter Tryz.func77,Tryz.ntmps77
  go_wp2
  go_ret;refine ⟨?_,Below.refl _ _⟩;show Ending.returned (.int .i64 ((f:Int)*10000+(b:Int)*100+(i:Int)))=_;congr 2
  omega
theorem rangeCode_any {x l m : Int} {w : World} : Rd Tryz.prog 105 #[.int .i64 x, .int .i64 l, .int .i64 m] w (.int .i64 (rangeC x l m)) := by
  unfold Rd rangeC;by_cases h1:x<l
  · rw [if_pos (.inl h1)];go_enter Tryz.func105,Tryz.ntmps105
    go_wp2
    go_ret;exact ⟨rfl,Below.refl _ _⟩
  · by_cases h2:m<x
    · rw [if_pos (.inr h2)];go_enter Tryz.func105,Tryz.ntmps105
      go_wp2
      go_ret;exact ⟨rfl,Below.refl _ _⟩
    · rw [if_neg (by omega)];go_enter Tryz.func105,Tryz.ntmps105
      go_wp2
      go_ret;exact ⟨rfl,Below.refl _ _⟩
theorem manyCode_any {p : Option Addr} {len c : Nat} {m : Int} {w : World} : Rd Tryz.prog 106 #[.slice p len c, .int .i64 m] w (.int .i64 (manyC len m)) := by
  unfold Rd manyC;by_cases h1:m<len
  · rw [if_pos h1];go_enter Tryz.func106,Tryz.ntmps106
    go_wp2
    go_ret;exact ⟨rfl,Below.refl _ _⟩
  · rw [if_neg h1];go_enter Tryz.func106,Tryz.ntmps106
    go_wp2
    go_ret;exact ⟨rfl,Below.refl _ _⟩
theorem handedCode_any {p q : Option Addr} {r c s d : Nat} {m : Int} {w : World} : Rd Tryz.prog 107 #[.slice p r c, .int .i64 m, .slice q s d] w (.int .i64 (handedC r m s)) := by
  have C1:Hid (∀ wx:World,Calls Tryz.prog 106 #[.slice p r c,.int .i64 m] wx fun e w'=>e=.returned (.int .i64 (manyC r m))∧Below wx.heap.size wx w'):=fun wx=>manyCode_any;have C2:Hid (∀ wx:World,Calls Tryz.prog 106 #[.slice q s d,.int .i64 8] wx fun e w'=>e=.returned (.int .i64 (manyC s 8))∧Below wx.heap.size wx w'):=fun wx=>manyCode_any;unfold Rd handedC;by_cases h:manyC r m=0
  · rw [if_neg (by simpa using h)];rw [h] at C1;go_enter Tryz.func107,Tryz.ntmps107
    go_wp2_with fail
    refine (C1.out w).mono ?_;rintro e w1 ⟨rfl,b1⟩;have B1:Hid (Below w.heap.size w w1):=b1;clear b1 C1;go_wp2_with fail
    refine (C2.out w1).mono ?_;rintro e w2 ⟨rfl,b2⟩;have B2:Hid (Below w.heap.size w w2):=B1.out.trans (b2.mono B1.out.size);clear b2 C2 B1;go_wp2
    go_ret;exact ⟨rfl,B2.out⟩
  · rw [if_pos h];have h':(manyC r m==0)=false:=by simpa using h
    generalize manyC r m=v at C1 h' h ⊢;go_enter Tryz.func107,Tryz.ntmps107
    go_wp2_with fail
    refine (C1.out w).mono ?_;rintro e w1 ⟨rfl,b1⟩;have B1:Hid (Below w.heap.size w w1):=b1;clear b1 C1 C2;go_wp2
    go_ret;exact ⟨rfl,B1.out⟩
theorem isBare_any {xop : Int} {xa xb xc xk xn : Int} {ra aa : Option Addr} {rl rc al ac : Nat} {w : World} : Rd Tryz.prog 62 #[.agg #[.int .i64 xop, .int .i64 xa, .int .i64 xb, .int .i64 xc, .int .i64 xk, .int .i64 xn, .slice ra rl rc, .slice aa al ac]] w (.bool (bareB xa xb xc xk xn rl al)) := by
  unfold Rd
  · by_cases h0:xa=0
    · subst h0
      · by_cases h1:xb=0
        · subst h1
          · by_cases h2:xc=0
            · subst h2
              · by_cases h3:xk=0
                · subst h3
                  · by_cases h4:xn=0
                    · subst h4
                      · by_cases h5:rl=0
                        · subst h5
                          · by_cases h6:al=0
                            · subst h6
                              · rw [show bareB 0 0 0 0 0 0 0=true from rfl];go_enter Tryz.func62,Tryz.ntmps62
                                go_wp2
                                go_ret;exact ⟨rfl,bel1 _ _⟩
                            · have g6:((al:Int)==0)=false:=by simpa using h6
                              rw [show bareB 0 0 0 0 0 0 al=false by simp [bareB,g6]];go_enter Tryz.func62,Tryz.ntmps62
                              go_wp2
                              go_ret;exact ⟨rfl,bel1 _ _⟩
                        · have g5:((rl:Int)==0)=false:=by simpa using h5
                          rw [show bareB 0 0 0 0 0 rl al=false by simp [bareB,g5]];go_enter Tryz.func62,Tryz.ntmps62
                          go_wp2
                          go_ret;exact ⟨rfl,bel1 _ _⟩
                    · have g4:(xn==0)=false:=by simpa using h4
                      rw [show bareB 0 0 0 0 xn rl al=false by simp [bareB,g4]];go_enter Tryz.func62,Tryz.ntmps62
                      go_wp2
                      go_ret;exact ⟨rfl,bel1 _ _⟩
                · have g3:(xk==0)=false:=by simpa using h3
                  rw [show bareB 0 0 0 xk xn rl al=false by simp [bareB,g3]];go_enter Tryz.func62,Tryz.ntmps62
                  go_wp2
                  go_ret;exact ⟨rfl,bel1 _ _⟩
            · have g2:(xc==0)=false:=by simpa using h2
              rw [show bareB 0 0 xc xk xn rl al=false by simp [bareB,g2]];go_enter Tryz.func62,Tryz.ntmps62
              go_wp2
              go_ret;exact ⟨rfl,bel1 _ _⟩
        · have g1:(xb==0)=false:=by simpa using h1
          rw [show bareB 0 xb xc xk xn rl al=false by simp [bareB,g1]];go_enter Tryz.func62,Tryz.ntmps62
          go_wp2
          go_ret;exact ⟨rfl,bel1 _ _⟩
    · have g0:(xa==0)=false:=by simpa using h0
      rw [show bareB xa xb xc xk xn rl al=false by simp [bareB,g0]];go_enter Tryz.func62,Tryz.ntmps62
      go_wp2
      go_ret;exact ⟨rfl,bel1 _ _⟩
theorem wf1 {xa xb xc xk xn : Int} {ra aa : Option Addr} {rl rc al ac : Nat} {w : World} : Rd Tryz.prog 61 #[.agg #[.int .i64 1, .int .i64 xa, .int .i64 xb, .int .i64 xc, .int .i64 xk, .int .i64 xn, .slice ra rl rc, .slice aa al ac]] w (.tuple #[.agg #[.int .i64 1, .int .i64 xa, .int .i64 xb, .int .i64 xc, .int .i64 xk, .int .i64 0, .slice ra rl rc, .slice aa al ac], .bool true]) := by
  unfold Rd;go_enter Tryz.func61,Tryz.ntmps61
  go_wp2
  exact bodyPost_ret (v:=.tuple #[.agg #[.int .i64 1,.int .i64 xa,.int .i64 xb,.int .i64 xc,.int .i64 xk,.int .i64 0,.slice ra rl rc,.slice aa al ac],.bool true]) (by simp [results,Tryz.results61,go_sem]) rfl ⟨rfl,bel2 _ _ _⟩
theorem wf2 {xa xb xc xk xn : Int} {ra aa : Option Addr} {rl rc al ac : Nat} {w : World} : Rd Tryz.prog 61 #[.agg #[.int .i64 2, .int .i64 xa, .int .i64 xb, .int .i64 xc, .int .i64 xk, .int .i64 xn, .slice ra rl rc, .slice aa al ac]] w (.tuple #[.agg #[.int .i64 2, .int .i64 0, .int .i64 0, .int .i64 xc, .int .i64 0, .int .i64 xn, .slice ra rl rc, .slice aa al ac], .bool true]) := by
  unfold Rd;go_enter Tryz.func61,Tryz.ntmps61
  go_wp2
  exact bodyPost_ret (v:=.tuple #[.agg #[.int .i64 2,.int .i64 0,.int .i64 0,.int .i64 xc,.int .i64 0,.int .i64 xn,.slice ra rl rc,.slice aa al ac],.bool true]) (by simp [results,Tryz.results61,go_sem]) rfl ⟨rfl,bel2 _ _ _⟩
theorem wf3 {xa xb xc xk xn : Int} {ra aa : Option Addr} {rl rc al ac : Nat} {w : World} : Rd Tryz.prog 61 #[.agg #[.int .i64 3, .int .i64 xa, .int .i64 xb, .int .i64 xc, .int .i64 xk, .int .i64 xn, .slice ra rl rc, .slice aa al ac]] w (.tuple #[.agg #[.int .i64 3, .int .i64 xa, .int .i64 xb, .int .i64 xc, .int .i64 xk, .int .i64 xn, .slice ra rl rc, .slice aa al ac], .bool true]) := by
  unfold Rd;go_enter Tryz.func61,Tryz.ntmps61
  go_wp2
  exact bodyPost_ret (v:=.tuple #[.agg #[.int .i64 3,.int .i64 xa,.int .i64 xb,.int .i64 xc,.int .i64 xk,.int .i64 xn,.slice ra rl rc,.slice aa al ac],.bool true]) (by simp [results,Tryz.results61,go_sem]) rfl ⟨rfl,bel2 _ _ _⟩
theorem wf4 {xa xb xc xk xn : Int} {ra aa : Option Addr} {rl rc al ac : Nat} {w : World} : Rd Tryz.prog 61 #[.agg #[.int .i64 4, .int .i64 xa, .int .i64 xb, .int .i64 xc, .int .i64 xk, .int .i64 xn, .slice ra rl rc, .slice aa al ac]] w (.tuple #[.agg #[.int .i64 4, .int .i64 0, .int .i64 xb, .int .i64 xc, .int .i64 xk, .int .i64 xn, .slice ra rl rc, .slice aa al ac], .bool true]) := by
  unfold Rd;go_enter Tryz.func61,Tryz.ntmps61
  go_wp2
  exact bodyPost_ret (v:=.tuple #[.agg #[.int .i64 4,.int .i64 0,.int .i64 xb,.int .i64 xc,.int .i64 xk,.int .i64 xn,.slice ra rl rc,.slice aa al ac],.bool true]) (by simp [results,Tryz.results61,go_sem]) rfl ⟨rfl,bel2 _ _ _⟩
theorem wf5 {xa xb xc xk xn : Int} {ra aa : Option Addr} {rl rc al ac : Nat} {w : World} : Rd Tryz.prog 61 #[.agg #[.int .i64 5, .int .i64 xa, .int .i64 xb, .int .i64 xc, .int .i64 xk, .int .i64 xn, .slice ra rl rc, .slice aa al ac]] w (.tuple #[.agg #[.int .i64 5, .int .i64 0, .int .i64 xb, .int .i64 xc, .int .i64 xk, .int .i64 xn, .slice ra rl rc, .slice none 0 0], .bool true]) := by
  unfold Rd;go_enter Tryz.func61,Tryz.ntmps61
  go_wp2
  exact bodyPost_ret (v:=.tuple #[.agg #[.int .i64 5,.int .i64 0,.int .i64 xb,.int .i64 xc,.int .i64 xk,.int .i64 xn,.slice ra rl rc,.slice none 0 0],.bool true]) (by simp [results,Tryz.results61,go_sem]) rfl ⟨rfl,bel2 _ _ _⟩
theorem wf6 {xa xb xc xk xn : Int} {ra aa : Option Addr} {rl rc al ac : Nat} {w : World} : Rd Tryz.prog 61 #[.agg #[.int .i64 6, .int .i64 xa, .int .i64 xb, .int .i64 xc, .int .i64 xk, .int .i64 xn, .slice ra rl rc, .slice aa al ac]] w (.tuple #[.agg #[.int .i64 6, .int .i64 0, .int .i64 xb, .int .i64 xc, .int .i64 0, .int .i64 xn, .slice ra rl rc, .slice aa al ac], .bool true]) := by
  unfold Rd;go_enter Tryz.func61,Tryz.ntmps61
  go_wp2
  exact bodyPost_ret (v:=.tuple #[.agg #[.int .i64 6,.int .i64 0,.int .i64 xb,.int .i64 xc,.int .i64 0,.int .i64 xn,.slice ra rl rc,.slice aa al ac],.bool true]) (by simp [results,Tryz.results61,go_sem]) rfl ⟨rfl,bel2 _ _ _⟩
theorem wf7 {xa xb xc xk xn : Int} {ra aa : Option Addr} {rl rc al ac : Nat} {w : World} : Rd Tryz.prog 61 #[.agg #[.int .i64 7, .int .i64 xa, .int .i64 xb, .int .i64 xc, .int .i64 xk, .int .i64 xn, .slice ra rl rc, .slice aa al ac]] w (.tuple #[.agg #[.int .i64 7, .int .i64 0, .int .i64 0, .int .i64 xc, .int .i64 0, .int .i64 xn, .slice ra rl rc, .slice aa al ac], .bool true]) := by
  unfold Rd;go_enter Tryz.func61,Tryz.ntmps61
  go_wp2
  exact bodyPost_ret (v:=.tuple #[.agg #[.int .i64 7,.int .i64 0,.int .i64 0,.int .i64 xc,.int .i64 0,.int .i64 xn,.slice ra rl rc,.slice aa al ac],.bool true]) (by simp [results,Tryz.results61,go_sem]) rfl ⟨rfl,bel2 _ _ _⟩
theorem wf8 {xa xb xc xk xn : Int} {ra aa : Option Addr} {rl rc al ac : Nat} {w : World} : Rd Tryz.prog 61 #[.agg #[.int .i64 8, .int .i64 xa, .int .i64 xb, .int .i64 xc, .int .i64 xk, .int .i64 xn, .slice ra rl rc, .slice aa al ac]] w (.tuple #[.agg #[.int .i64 8, .int .i64 0, .int .i64 0, .int .i64 xc, .int .i64 xk, .int .i64 xn, .slice ra rl rc, .slice aa al ac], .bool true]) := by
  unfold Rd;go_enter Tryz.func61,Tryz.ntmps61
  go_wp2
  exact bodyPost_ret (v:=.tuple #[.agg #[.int .i64 8,.int .i64 0,.int .i64 0,.int .i64 xc,.int .i64 xk,.int .i64 xn,.slice ra rl rc,.slice aa al ac],.bool true]) (by simp [results,Tryz.results61,go_sem]) rfl ⟨rfl,bel2 _ _ _⟩
theorem wf9 {xa xb xc xk xn : Int} {ra aa : Option Addr} {rl rc al ac : Nat} {w : World} : Rd Tryz.prog 61 #[.agg #[.int .i64 9, .int .i64 xa, .int .i64 xb, .int .i64 xc, .int .i64 xk, .int .i64 xn, .slice ra rl rc, .slice aa al ac]] w (.tuple #[.agg #[.int .i64 9, .int .i64 0, .int .i64 0, .int .i64 xc, .int .i64 xk, .int .i64 xn, .slice ra rl rc, .slice aa al ac], .bool true]) := by
  unfold Rd;go_enter Tryz.func61,Tryz.ntmps61
  go_wp2
  exact bodyPost_ret (v:=.tuple #[.agg #[.int .i64 9,.int .i64 0,.int .i64 0,.int .i64 xc,.int .i64 xk,.int .i64 xn,.slice ra rl rc,.slice aa al ac],.bool true]) (by simp [results,Tryz.results61,go_sem]) rfl ⟨rfl,bel2 _ _ _⟩
theorem wf10 {xa xb xc xk xn : Int} {ra aa : Option Addr} {rl rc al ac : Nat} {w : World} : Rd Tryz.prog 61 #[.agg #[.int .i64 10, .int .i64 xa, .int .i64 xb, .int .i64 xc, .int .i64 xk, .int .i64 xn, .slice ra rl rc, .slice aa al ac]] w (.tuple #[.agg #[.int .i64 10, .int .i64 0, .int .i64 0, .int .i64 0, .int .i64 xk, .int .i64 xn, .slice ra rl rc, .slice aa al ac], .bool true]) := by
  unfold Rd;go_enter Tryz.func61,Tryz.ntmps61
  go_wp2
  exact bodyPost_ret (v:=.tuple #[.agg #[.int .i64 10,.int .i64 0,.int .i64 0,.int .i64 0,.int .i64 xk,.int .i64 xn,.slice ra rl rc,.slice aa al ac],.bool true]) (by simp [results,Tryz.results61,go_sem]) rfl ⟨rfl,bel2 _ _ _⟩
theorem wf11 {xa xb xc xk xn : Int} {ra aa : Option Addr} {rl rc al ac : Nat} {w : World} : Rd Tryz.prog 61 #[.agg #[.int .i64 11, .int .i64 xa, .int .i64 xb, .int .i64 xc, .int .i64 xk, .int .i64 xn, .slice ra rl rc, .slice aa al ac]] w (.tuple #[.agg #[.int .i64 11, .int .i64 0, .int .i64 xb, .int .i64 xc, .int .i64 xk, .int .i64 xn, .slice ra rl rc, .slice aa al ac], .bool true]) := by
  unfold Rd;go_enter Tryz.func61,Tryz.ntmps61
  go_wp2
  exact bodyPost_ret (v:=.tuple #[.agg #[.int .i64 11,.int .i64 0,.int .i64 xb,.int .i64 xc,.int .i64 xk,.int .i64 xn,.slice ra rl rc,.slice aa al ac],.bool true]) (by simp [results,Tryz.results61,go_sem]) rfl ⟨rfl,bel2 _ _ _⟩
theorem wf12 {xa xb xc xk xn : Int} {ra aa : Option Addr} {rl rc al ac : Nat} {w : World} : Rd Tryz.prog 61 #[.agg #[.int .i64 12, .int .i64 xa, .int .i64 xb, .int .i64 xc, .int .i64 xk, .int .i64 xn, .slice ra rl rc, .slice aa al ac]] w (.tuple #[.agg #[.int .i64 12, .int .i64 xa, .int .i64 xb, .int .i64 xc, .int .i64 xk, .int .i64 xn, .slice ra rl rc, .slice aa al ac], .bool true]) := by
  unfold Rd;go_enter Tryz.func61,Tryz.ntmps61
  go_wp2
  exact bodyPost_ret (v:=.tuple #[.agg #[.int .i64 12,.int .i64 xa,.int .i64 xb,.int .i64 xc,.int .i64 xk,.int .i64 xn,.slice ra rl rc,.slice aa al ac],.bool true]) (by simp [results,Tryz.results61,go_sem]) rfl ⟨rfl,bel2 _ _ _⟩
theorem wf13 {xa xb xc xk xn : Int} {ra aa : Option Addr} {rl rc al ac : Nat} {w : World} : Rd Tryz.prog 61 #[.agg #[.int .i64 13, .int .i64 xa, .int .i64 xb, .int .i64 xc, .int .i64 xk, .int .i64 xn, .slice ra rl rc, .slice aa al ac]] w (.tuple #[.agg #[.int .i64 13, .int .i64 0, .int .i64 xb, .int .i64 xc, .int .i64 xk, .int .i64 xn, .slice ra rl rc, .slice aa al ac], .bool true]) := by
  unfold Rd;go_enter Tryz.func61,Tryz.ntmps61
  go_wp2
  exact bodyPost_ret (v:=.tuple #[.agg #[.int .i64 13,.int .i64 0,.int .i64 xb,.int .i64 xc,.int .i64 xk,.int .i64 xn,.slice ra rl rc,.slice aa al ac],.bool true]) (by simp [results,Tryz.results61,go_sem]) rfl ⟨rfl,bel2 _ _ _⟩
theorem wf14 {xa xb xc xk xn : Int} {ra aa : Option Addr} {rl rc al ac : Nat} {w : World} : Rd Tryz.prog 61 #[.agg #[.int .i64 14, .int .i64 xa, .int .i64 xb, .int .i64 xc, .int .i64 xk, .int .i64 xn, .slice ra rl rc, .slice aa al ac]] w (.tuple #[.agg #[.int .i64 14, .int .i64 xa, .int .i64 xb, .int .i64 xc, .int .i64 0, .int .i64 xn, .slice none 0 0, .slice none 0 0], .bool true]) := by
  unfold Rd;go_enter Tryz.func61,Tryz.ntmps61
  go_wp2
  exact bodyPost_ret (v:=.tuple #[.agg #[.int .i64 14,.int .i64 xa,.int .i64 xb,.int .i64 xc,.int .i64 0,.int .i64 xn,.slice none 0 0,.slice none 0 0],.bool true]) (by simp [results,Tryz.results61,go_sem]) rfl ⟨rfl,bel2 _ _ _⟩
theorem wfNo {xop : Int} {xa xb xc xk xn : Int} {ra aa : Option Addr} {rl rc al ac : Nat} {w : World} (h : xop ≠ 1 ∧ xop ≠ 2 ∧ xop ≠ 3 ∧ xop ≠ 4 ∧ xop ≠ 5 ∧ xop ≠ 6 ∧ xop ≠ 7 ∧ xop ≠ 8 ∧ xop ≠ 9 ∧ xop ≠ 10 ∧ xop ≠ 11 ∧ xop ≠ 12 ∧ xop ≠ 13 ∧ xop ≠ 14) : Rd Tryz.prog 61 #[.agg #[.int .i64 xop, .int .i64 xa, .int .i64 xb, .int .i64 xc, .int .i64 xk, .int .i64 xn, .slice ra rl rc, .slice aa al ac]] w (.tuple #[.agg #[.int .i64 xop, .int .i64 xa, .int .i64 xb, .int .i64 xc, .int .i64 xk, .int .i64 xn, .slice ra rl rc, .slice aa al ac], .bool false]) := by
  obtain ⟨h1,h2,h3,h4,h5,h6,h7,h8,h9,h10,h11,h12,h13,h14⟩:=h;have g1:(xop==1)=false:=by simpa using h1
  have g2:(xop==2)=false:=by simpa using h2
  have g3:(xop==3)=false:=by simpa using h3
  have g4:(xop==4)=false:=by simpa using h4
  have g5:(xop==5)=false:=by simpa using h5
  have g6:(xop==6)=false:=by simpa using h6
  have g7:(xop==7)=false:=by simpa using h7
  have g8:(xop==8)=false:=by simpa using h8
  have g9:(xop==9)=false:=by simpa using h9
  have g10:(xop==10)=false:=by simpa using h10
  have g11:(xop==11)=false:=by simpa using h11
  have g12:(xop==12)=false:=by simpa using h12
  have g13:(xop==13)=false:=by simpa using h13
  have g14:(xop==14)=false:=by simpa using h14
  unfold Rd;go_enter Tryz.func61,Tryz.ntmps61
  go_wp2
  exact bodyPost_ret (v:=.tuple #[.agg #[.int .i64 xop,.int .i64 xa,.int .i64 xb,.int .i64 xc,.int .i64 xk,.int .i64 xn,.slice ra rl rc,.slice aa al ac],.bool false]) (by simp [results,Tryz.results61,go_sem]) rfl ⟨rfl,bel2 _ _ _⟩
theorem bounds2 {xa xb xc xk xn : Int} {ra aa : Option Addr} {rl rc al ac : Nat} {am : Option Addr} {lm cm : Nat} {w : World} : Rd Tryz.prog 63 #[.agg #[.slice am lm cm], .agg #[.int .i64 2, .int .i64 xa, .int .i64 xb, .int .i64 xc, .int .i64 xk, .int .i64 xn, .slice ra rl rc, .slice aa al ac]] w (.int .i64 (boundsC lm 2 xk rl al)) := by
  have C:Hid (∀ wx:World,Calls Tryz.prog 105 #[.int .i64 xk,.int .i64 1,.int .i64 9] wx fun e w'=>e=.returned (.int .i64 (rangeC xk 1 9))∧Below wx.heap.size wx w'):=fun wx=>rangeCode_any;rw [show boundsC lm 2 xk rl al=rangeC xk 1 9 from rfl];generalize rangeC xk 1 9=v at C ⊢;unfold Rd;go_enter Tryz.func63,Tryz.ntmps63
  go_wp2_with fail
  refine (C.out _).mono ?_;rintro e w2 ⟨rfl,b2⟩;have B2:Hid (Below w.heap.size w w2):=(bel2 _ _ _).trans (b2.mono (bel2 w _ _).size);clear b2 C;go_wp2
  go_ret;exact ⟨rfl,B2.out⟩
theorem bounds6 {xa xb xc xk xn : Int} {ra aa : Option Addr} {rl rc al ac : Nat} {am : Option Addr} {lm cm : Nat} {w : World} : Rd Tryz.prog 63 #[.agg #[.slice am lm cm], .agg #[.int .i64 6, .int .i64 xa, .int .i64 xb, .int .i64 xc, .int .i64 xk, .int .i64 xn, .slice ra rl rc, .slice aa al ac]] w (.int .i64 (boundsC lm 6 xk rl al)) := by
  have C:Hid (∀ wx:World,Calls Tryz.prog 105 #[.int .i64 xk,.int .i64 0,.int .i64 7] wx fun e w'=>e=.returned (.int .i64 (rangeC xk 0 7))∧Below wx.heap.size wx w'):=fun wx=>rangeCode_any;rw [show boundsC lm 6 xk rl al=rangeC xk 0 7 from rfl];generalize rangeC xk 0 7=v at C ⊢;unfold Rd;go_enter Tryz.func63,Tryz.ntmps63
  go_wp2_with fail
  refine (C.out _).mono ?_;rintro e w2 ⟨rfl,b2⟩;have B2:Hid (Below w.heap.size w w2):=(bel2 _ _ _).trans (b2.mono (bel2 w _ _).size);clear b2 C;go_wp2
  go_ret;exact ⟨rfl,B2.out⟩
theorem bounds7 {xa xb xc xk xn : Int} {ra aa : Option Addr} {rl rc al ac : Nat} {am : Option Addr} {lm cm : Nat} {w : World} : Rd Tryz.prog 63 #[.agg #[.slice am lm cm], .agg #[.int .i64 7, .int .i64 xa, .int .i64 xb, .int .i64 xc, .int .i64 xk, .int .i64 xn, .slice ra rl rc, .slice aa al ac]] w (.int .i64 (boundsC lm 7 xk rl al)) := by
  have C:Hid (∀ wx:World,Calls Tryz.prog 105 #[.int .i64 xk,.int .i64 0,.int .i64 7] wx fun e w'=>e=.returned (.int .i64 (rangeC xk 0 7))∧Below wx.heap.size wx w'):=fun wx=>rangeCode_any;rw [show boundsC lm 7 xk rl al=rangeC xk 0 7 from rfl];generalize rangeC xk 0 7=v at C ⊢;unfold Rd;go_enter Tryz.func63,Tryz.ntmps63
  go_wp2_with fail
  refine (C.out _).mono ?_;rintro e w2 ⟨rfl,b2⟩;have B2:Hid (Below w.heap.size w w2):=(bel2 _ _ _).trans (b2.mono (bel2 w _ _).size);clear b2 C;go_wp2
  go_ret;exact ⟨rfl,B2.out⟩
theorem bounds5 {xa xb xc xk xn : Int} {ra aa : Option Addr} {rl rc al ac : Nat} {am : Option Addr} {lm cm : Nat} {w : World} : Rd Tryz.prog 63 #[.agg #[.slice am lm cm], .agg #[.int .i64 5, .int .i64 xa, .int .i64 xb, .int .i64 xc, .int .i64 xk, .int .i64 xn, .slice ra rl rc, .slice aa al ac]] w (.int .i64 (boundsC lm 5 xk rl al)) := by
  have C:Hid (∀ wx:World,Calls Tryz.prog 106 #[.slice aa al ac,.int .i64 8] wx fun e w'=>e=.returned (.int .i64 (manyC al 8))∧Below wx.heap.size wx w'):=fun wx=>manyCode_any;rw [show boundsC lm 5 xk rl al=manyC al 8 from rfl];generalize manyC al 8=v at C ⊢;unfold Rd;go_enter Tryz.func63,Tryz.ntmps63
  go_wp2_with fail
  refine (C.out _).mono ?_;rintro e w2 ⟨rfl,b2⟩;have B2:Hid (Below w.heap.size w w2):=(bel2 _ _ _).trans (b2.mono (bel2 w _ _).size);clear b2 C;go_wp2
  go_ret;exact ⟨rfl,B2.out⟩
theorem bounds14 {xa xb xc xk xn : Int} {ra aa : Option Addr} {rl rc al ac : Nat} {am : Option Addr} {lm cm : Nat} {w : World} (hlm : lm < 2305843009213693952) : Rd Tryz.prog 63 #[.agg #[.slice am lm cm], .agg #[.int .i64 14, .int .i64 xa, .int .i64 xb, .int .i64 xc, .int .i64 xk, .int .i64 xn, .slice ra rl rc, .slice aa al ac]] w (.int .i64 (boundsC lm 14 xk rl al)) := by
  have C:Hid (∀ wx:World,Calls Tryz.prog 105 #[.int .i64 xk,.int .i64 0,.int .i64 ((lm:Int) - 1)] wx fun e w'=>e=.returned (.int .i64 (rangeC xk 0 ((lm:Int) - 1)))∧Below wx.heap.size wx w'):=fun wx=>rangeCode_any;have C2:Hid (∀ wx:World,Calls Tryz.prog 107 #[.slice ra rl rc,.int .i64 6,.slice aa al ac] wx fun e w'=>e=.returned (.int .i64 (handedC rl 6 al))∧Below wx.heap.size wx w'):=fun wx=>handedCode_any;rw [show boundsC lm 14 xk rl al=if rangeC xk 0 ((lm:Int) - 1)=0 then handedC rl 6 al else rangeC xk 0 ((lm:Int) - 1) from rfl];generalize rangeC xk 0 ((lm:Int) - 1)=v at C ⊢;generalize handedC rl 6 al=u at C2 ⊢;have X2:Blk ((w.alloc (.cells #[.slice am lm cm] 24)).alloc (.cells #[.int .i64 14,.int .i64 xa,.int .i64 xb,.int .i64 xc,.int .i64 xk,.int .i64 xn,.slice ra rl rc,.slice aa al ac] 46)) (w.heap.size+1) #[.int .i64 14,.int .i64 xa,.int .i64 xb,.int .i64 xc,.int .i64 xk,.int .i64 xn,.slice ra rl rc,.slice aa al ac] 46:=Blk.new2 _ _ _ _;have B1:Hid (Below w.heap.size w ((w.alloc (.cells #[.slice am lm cm] 24)).alloc (.cells #[.int .i64 14,.int .i64 xa,.int .i64 xb,.int .i64 xc,.int .i64 xk,.int .i64 xn,.slice ra rl rc,.slice aa al ac] 46))):=bel2 _ _ _;unfold Rd;by_cases hv:v=0
  · subst hv;rw [if_pos rfl];go_enter Tryz.func63,Tryz.ntmps63
    go_wp2_with fail
    generalize ((w.alloc (.cells #[.slice am lm cm] 24)).alloc (.cells #[.int .i64 14,.int .i64 xa,.int .i64 xb,.int .i64 xc,.int .i64 xk,.int .i64 xn,.slice ra rl rc,.slice aa al ac] 46))=w1 at X2 B1 ⊢;refine (C.out _).mono ?_;rintro e w2 ⟨rfl,b2⟩;have X3:=(b2.block _ (lt_of_block X2)).trans X2;have B2:Hid (Below w.heap.size w w2):=B1.out.trans (b2.mono B1.out.size);have c6:=cellOf X3 6 _ rfl;have c7:=cellOf X3 7 _ rfl;clear b2 C X2 B1 X3;go_wp2_with fail
    refine (C2.out _).mono ?_;rintro e w3 ⟨rfl,b3⟩;have B3:Hid (Below w.heap.size w w3):=B2.out.trans (b3.mono B2.out.size);clear b3 C2 B2;go_wp2
    go_ret;exact ⟨rfl,B3.out⟩
  · rw [if_neg hv];have hv':(v==0)=false:=by simpa using hv
    go_enter Tryz.func63,Tryz.ntmps63
    go_wp2_with fail
    generalize ((w.alloc (.cells #[.slice am lm cm] 24)).alloc (.cells #[.int .i64 14,.int .i64 xa,.int .i64 xb,.int .i64 xc,.int .i64 xk,.int .i64 xn,.slice ra rl rc,.slice aa al ac] 46))=w1 at X2 B1 ⊢;refine (C.out _).mono ?_;rintro e w2 ⟨rfl,b2⟩;have B2:Hid (Below w.heap.size w w2):=B1.out.trans (b2.mono B1.out.size);clear b2 C C2 X2 B1;go_wp2
    go_ret;exact ⟨rfl,B2.out⟩
theorem boundsNo {xop : Int} {xa xb xc xk xn : Int} {ra aa : Option Addr} {rl rc al ac : Nat} {am : Option Addr} {lm cm : Nat} {w : World} (h : xop ≠ 2 ∧ xop ≠ 6 ∧ xop ≠ 7 ∧ xop ≠ 5 ∧ xop ≠ 14) : Rd Tryz.prog 63 #[.agg #[.slice am lm cm], .agg #[.int .i64 xop, .int .i64 xa, .int .i64 xb, .int .i64 xc, .int .i64 xk, .int .i64 xn, .slice ra rl rc, .slice aa al ac]] w (.int .i64 (boundsC lm xop xk rl al)) := by
  obtain ⟨h2,h6,h7,h5,h14⟩:=h;rw [show boundsC lm xop xk rl al=0 by simp [boundsC,h2,h6,h7,h5,h14]];have g2:(xop==2)=false:=by simpa using h2
  have g6:(xop==6)=false:=by simpa using h6
  have g7:(xop==7)=false:=by simpa using h7
  have g5:(xop==5)=false:=by simpa using h5
  have g14:(xop==14)=false:=by simpa using h14
  unfold Rd;go_enter Tryz.func63,Tryz.ntmps63
  go_wp2
  go_ret;exact ⟨rfl,bel2 _ _ _⟩
theorem ins_walk {xop : Int} {xa xb xc xk xn : Int} {ra aa : Option Addr} {rl rc al ac : Nat} {ya yb yc yk yn : Int} {yra yaa : Option Addr} {yrl yrc yal yac : Nat} {am : Option Addr} {lm cm : Nat} {w : World} {ok bare : Bool} {v : Int}
    (CW:Hid (∀ wx:World,Calls Tryz.prog 61 #[.agg #[.int .i64 xop,.int .i64 xa,.int .i64 xb,.int .i64 xc,.int .i64 xk,.int .i64 xn,.slice ra rl rc,.slice aa al ac]] wx fun e w'=>e=.returned (.tuple #[.agg #[.int .i64 xop,.int .i64 ya,.int .i64 yb,.int .i64 yc,.int .i64 yk,.int .i64 yn,.slice yra yrl yrc,.slice yaa yal yac],.bool ok])∧Below wx.heap.size wx w'))
    (CB:Hid (∀ wx:World,Calls Tryz.prog 62 #[.agg #[.int .i64 xop,.int .i64 ya,.int .i64 yb,.int .i64 yc,.int .i64 yk,.int .i64 yn,.slice yra yrl yrc,.slice yaa yal yac]] wx fun e w'=>e=.returned (.bool bare)∧Below wx.heap.size wx w'))
    (CD:Hid (∀ wx:World,Calls Tryz.prog 63 #[.agg #[.slice am lm cm],.agg #[.int .i64 xop,.int .i64 xa,.int .i64 xb,.int .i64 xc,.int .i64 xk,.int .i64 xn,.slice ra rl rc,.slice aa al ac]] wx fun e w'=>e=.returned (.int .i64 v)∧Below wx.heap.size wx w')) :
    Rd Tryz.prog 32 #[.agg #[.slice am lm cm],.agg #[.int .i64 xop,.int .i64 xa,.int .i64 xb,.int .i64 xc,.int .i64 xk,.int .i64 xn,.slice ra rl rc,.slice aa al ac]] w (.int .i64 (if ok=false then 3 else if bare=true then v else 4)):=by
  have X1:Blk ((w.alloc (.cells #[.slice am lm cm] 24)).alloc (.cells #[.int .i64 xop,.int .i64 xa,.int .i64 xb,.int .i64 xc,.int .i64 xk,.int .i64 xn,.slice ra rl rc,.slice aa al ac] 46)) w.heap.size #[.slice am lm cm] 24:=Blk.new1 _ _ _ _ _;have X2:Blk ((w.alloc (.cells #[.slice am lm cm] 24)).alloc (.cells #[.int .i64 xop,.int .i64 xa,.int .i64 xb,.int .i64 xc,.int .i64 xk,.int .i64 xn,.slice ra rl rc,.slice aa al ac] 46)) (w.heap.size+1) #[.int .i64 xop,.int .i64 xa,.int .i64 xb,.int .i64 xc,.int .i64 xk,.int .i64 xn,.slice ra rl rc,.slice aa al ac] 46:=Blk.new2 _ _ _ _;have B1:Hid (Below w.heap.size w ((w.alloc (.cells #[.slice am lm cm] 24)).alloc (.cells #[.int .i64 xop,.int .i64 xa,.int .i64 xb,.int .i64 xc,.int .i64 xk,.int .i64 xn,.slice ra rl rc,.slice aa al ac] 46))):=bel2 _ _ _;unfold Rd;go_enter Tryz.func32,Tryz.ntmps32
  go_wp2_with fail
  generalize ((w.alloc (.cells #[.slice am lm cm] 24)).alloc (.cells #[.int .i64 xop,.int .i64 xa,.int .i64 xb,.int .i64 xc,.int .i64 xk,.int .i64 xn,.slice ra rl rc,.slice aa al ac] 46))=w1 at X1 X2 B1 ⊢;refine (CW.out _).mono ?_;rintro e w2 ⟨rfl,b2⟩;replace X1:=(b2.block _ (lt_of_block X1)).trans X1;replace X2:=(b2.block _ (lt_of_block X2)).trans X2;have B2:Hid (Below w.heap.size w w2):=B1.out.trans (b2.mono B1.out.size);clear b2 B1 CW
  cases ok with
  | false =>
    have B3:Hid (Below w.heap.size w (w2.alloc (.cells #[.int .i64 xop,.int .i64 ya,.int .i64 yb,.int .i64 yc,.int .i64 yk,.int .i64 yn,.slice yra yrl yrc,.slice yaa yal yac] 46))):=B2.out.trans ((bel1 _ _).mono B2.out.size);clear CB CD X1 X2 B2;go_wp2
    go_ret;exact ⟨rfl,B3.out⟩
  | true =>
    replace X1:=((bel1 w2 (.cells #[.int .i64 xop,.int .i64 ya,.int .i64 yb,.int .i64 yc,.int .i64 yk,.int .i64 yn,.slice yra yrl yrc,.slice yaa yal yac] 46)).block _ (lt_of_block X1)).trans X1;replace X2:=((bel1 w2 (.cells #[.int .i64 xop,.int .i64 ya,.int .i64 yb,.int .i64 yc,.int .i64 yk,.int .i64 yn,.slice yra yrl yrc,.slice yaa yal yac] 46)).block _ (lt_of_block X2)).trans X2;have B3:Hid (Below w.heap.size w (w2.alloc (.cells #[.int .i64 xop,.int .i64 ya,.int .i64 yb,.int .i64 yc,.int .i64 yk,.int .i64 yn,.slice yra yrl yrc,.slice yaa yal yac] 46))):=B2.out.trans ((bel1 _ _).mono B2.out.size);go_wp2_with fail
    clear B2;generalize w2.alloc (.cells #[.int .i64 xop,.int .i64 ya,.int .i64 yb,.int .i64 yc,.int .i64 yk,.int .i64 yn,.slice yra yrl yrc,.slice yaa yal yac] 46)=w3 at X1 X2 B3 ⊢;refine (CB.out _).mono ?_;rintro e w4 ⟨rfl,b4⟩;replace X1:=(b4.block _ (lt_of_block X1)).trans X1;replace X2:=(b4.block _ (lt_of_block X2)).trans X2;have B4:Hid (Below w.heap.size w w4):=B3.out.trans (b4.mono B3.out.size);clear b4 B3 CB
    cases bare with
    | false =>
      clear CD X1 X2;go_wp2
      go_ret;exact ⟨rfl,B4.out⟩
    | true =>
      have d:=cellOf X1 0 _ rfl;have d0:=cellOf X2 0 _ rfl;have d1:=cellOf X2 1 _ rfl;have d2:=cellOf X2 2 _ rfl;have d3:=cellOf X2 3 _ rfl;have d4:=cellOf X2 4 _ rfl;have d5:=cellOf X2 5 _ rfl;have d6:=cellOf X2 6 _ rfl;have d7:=cellOf X2 7 _ rfl;clear X1 X2;go_wp2_with fail
      refine (CD.out _).mono ?_;rintro e w5 ⟨rfl,b5⟩;have B5:Hid (Below w.heap.size w w5):=B4.out.trans (b5.mono B4.out.size);clear b5 B4 CD;go_wp2
      go_ret;exact ⟨rfl,B5.out⟩
theorem cIns_any (funcs : Nat) (x : MIns) (i : IP) (am : Option Addr) (cm : Nat) (w : World) (hf : funcs < 2305843009213693952) :
    Rd Tryz.prog 32 #[.agg #[.slice am funcs cm],.agg #[.int .i64 x.op,.int .i64 x.a,.int .i64 x.b,.int .i64 x.c,.int .i64 x.k,.int .i64 x.n,.slice i.pR x.regs.length i.cR,.slice i.pA x.args.length i.cA]] w (.int .i64 (x.form funcs)):=by
  rw [MIns.form_eq];have hno:=op_cases x.op;generalize x.op=op at hno ⊢;rcases hno with rfl | rfl | rfl | rfl | rfl | rfl | rfl | rfl | rfl | rfl | rfl | rfl | rfl | rfl | h
  · rw [insForm_bare (show fieldsOf 1=some (false,false,false,false,true,false,false) from rfl)];exact ins_walk (ok:=true) (fun _=>wf1) (fun _=>isBare_any) (fun _=>boundsNo (by decide))
  · rw [insForm_bare (show fieldsOf 2=some (true,true,false,true,false,false,false) from rfl)];exact ins_walk (ok:=true) (fun _=>wf2) (fun _=>isBare_any) (fun _=>bounds2)
  · rw [insForm_bare (show fieldsOf 3=some (false,false,false,false,false,false,false) from rfl)];exact ins_walk (ok:=true) (fun _=>wf3) (fun _=>isBare_any) (fun _=>boundsNo (by decide))
  · rw [insForm_bare (show fieldsOf 4=some (true,false,false,false,false,false,false) from rfl)];exact ins_walk (ok:=true) (fun _=>wf4) (fun _=>isBare_any) (fun _=>boundsNo (by decide))
  · rw [insForm_bare (show fieldsOf 5=some (true,false,false,false,false,false,true) from rfl)];exact ins_walk (ok:=true) (fun _=>wf5) (fun _=>isBare_any) (fun _=>bounds5)
  · rw [insForm_bare (show fieldsOf 6=some (true,false,false,true,false,false,false) from rfl)];exact ins_walk (ok:=true) (fun _=>wf6) (fun _=>isBare_any) (fun _=>bounds6)
  · rw [insForm_bare (show fieldsOf 7=some (true,true,false,true,false,false,false) from rfl)];exact ins_walk (ok:=true) (fun _=>wf7) (fun _=>isBare_any) (fun _=>bounds7)
  · rw [insForm_bare (show fieldsOf 8=some (true,true,false,false,false,false,false) from rfl)];exact ins_walk (ok:=true) (fun _=>wf8) (fun _=>isBare_any) (fun _=>boundsNo (by decide))
  · rw [insForm_bare (show fieldsOf 9=some (true,true,false,false,false,false,false) from rfl)];exact ins_walk (ok:=true) (fun _=>wf9) (fun _=>isBare_any) (fun _=>boundsNo (by decide))
  · rw [insForm_bare (show fieldsOf 10=some (true,true,true,false,false,false,false) from rfl)];exact ins_walk (ok:=true) (fun _=>wf10) (fun _=>isBare_any) (fun _=>boundsNo (by decide))
  · rw [insForm_bare (show fieldsOf 11=some (true,false,false,false,false,false,false) from rfl)];exact ins_walk (ok:=true) (fun _=>wf11) (fun _=>isBare_any) (fun _=>boundsNo (by decide))
  · rw [insForm_bare (show fieldsOf 12=some (false,false,false,false,false,false,false) from rfl)];exact ins_walk (ok:=true) (fun _=>wf12) (fun _=>isBare_any) (fun _=>boundsNo (by decide))
  · rw [insForm_bare (show fieldsOf 13=some (true,false,false,false,false,false,false) from rfl)];exact ins_walk (ok:=true) (fun _=>wf13) (fun _=>isBare_any) (fun _=>boundsNo (by decide))
  · rw [insForm_bare (show fieldsOf 14=some (false,false,false,true,false,true,true) from rfl)];exact ins_walk (ok:=true) (fun _=>wf14) (fun _=>isBare_any) (fun _=>bounds14 hf)
  · have e:fieldsOf op=none:=by
      unfold fieldsOf;obtain ⟨h1,h2,h3,h4,h5,h6,h7,h8,h9,h10,h11,h12,h13,h14⟩:=h;simp [h1,h2,h3,h4,h5,h6,h7,h8,h9,h10,h11,h12,h13,h14]
    rw [show insForm funcs op x.a x.b x.c x.k x.n x.regs.length x.args.length=3 by unfold insForm;rw [e]];exact ins_walk (ok:=false) (bare:=bareB x.a x.b x.c x.k x.n x.regs.length x.args.length) (fun _=>wfNo h) (fun _=>isBare_any) (fun _=>boundsNo ⟨h.2.1,h.2.2.2.2.2.1,h.2.2.2.2.2.2.1,h.2.2.2.2.1,h.2.2.2.2.2.2.2.2.2.2.2.2.2⟩)
theorem toForm_eq (x : MTo) (bl : Nat) : x.form bl true = if rangeC x.block 0 ((bl : Int) - 1) = 0 then handedC x.regs.length 16 x.args.length else rangeC x.block 0 ((bl : Int) - 1) := by
  unfold MTo.form rangeC handedC manyC;simp only [Bool.true_eq_false,if_false];repeat' split
  all_goals omega
theorem toForm_no (x : MTo) (bl : Nat) : x.form bl false = if x.block = 0 ∧ x.regs.length = 0 ∧ x.args.length = 0 then 0 else 4 := by
  unfold MTo.form;simp only [if_true];repeat' split
  all_goals omega
theorem endForm_eq (e : MEnd) (bl : Nat) : e.form bl = if e.op < 1 ∨ 3 < e.op then 3 else if (e.op ≠ 2 ∧ e.a ≠ 0) ∨ (e.op ≠ 3 ∧ 0 < e.args.length) then 4 else if 8 < e.args.length then 2
    else if e.yes.form bl (e.op != 3)=0 then e.no.form bl (e.op==2) else e.yes.form bl (e.op != 3):=by
  unfold MEnd.form;have h1:decide (e.op≠3)=(e.op != 3):=by by_cases h:e.op=3 <;> simp [h]
  have h2:decide (e.op=2)=(e.op==2):=by by_cases h:e.op=2 <;> simp [h]
  rw [h1,h2];by_cases c1:e.op<1∨3<e.op
  · simp [c1]
  · rw [if_neg c1,if_neg c1];by_cases c2:(e.op≠2∧e.a≠0)∨(e.op≠3∧0<e.args.length)
    · rw [if_pos c2,if_pos (c2.imp (fun h=>⟨h.2,h.1⟩) (fun h=>⟨h.2,h.1⟩))]
    · rw [if_neg c2,if_neg (fun h=>c2 (h.imp (fun h=>⟨h.2,h.1⟩) (fun h=>⟨h.2,h.1⟩)))];by_cases c3:8<e.args.length
      · simp [c3]
      · rw [if_neg c3,if_neg c3];by_cases c4:e.yes.form bl (e.op != 3)=0
        · simp [c4]
        · simp [c4]
theorem toCodeF {tb : Int} {pR pA : Option Addr} {n1 cR n2 cA : Nat} {fr : Int} {fp fq fb : Option Addr} {fl fc fm fd bl fe : Nat} {w : World} : Rd Tryz.prog 90 #[.agg #[.int .i64 fr, .slice fp fl fc, .slice fq fm fd, .slice fb bl fe], .agg #[.int .i64 tb, .slice pR n1 cR, .slice pA n2 cA], .bool false] w (.int .i64 (if tb = 0 ∧ n1 = 0 ∧ n2 = 0 then 0 else 4)) := by
  unfold Rd;by_cases h1:tb=0
  · subst h1;by_cases h2:n1=0
    · subst h2;by_cases h3:n2=0
      · subst h3;rw [if_pos ⟨rfl,rfl,rfl⟩];go_enter Tryz.func90,Tryz.ntmps90
        go_wp2
        go_ret;exact ⟨rfl,bel2 _ _ _⟩
      · have g:(0:Int)<n2:=by omega
        rw [if_neg (by omega)];go_enter Tryz.func90,Tryz.ntmps90
        go_wp2
        go_ret;exact ⟨rfl,bel2 _ _ _⟩
    · have g:(0:Int)<n1:=by omega
      rw [if_neg (by omega)];go_enter Tryz.func90,Tryz.ntmps90
      go_wp2
      go_ret;exact ⟨rfl,bel2 _ _ _⟩
  · have g:(tb==0)=false:=by simpa using h1
    rw [if_neg (by omega)];go_enter Tryz.func90,Tryz.ntmps90
    go_wp2
    go_ret;exact ⟨rfl,bel2 _ _ _⟩
theorem toCodeT {tb : Int} {pR pA : Option Addr} {n1 cR n2 cA : Nat} {fr : Int} {fp fq fb : Option Addr} {fl fc fm fd bl fe : Nat} {w : World} (hbl : bl < 2305843009213693952) : Rd Tryz.prog 90 #[.agg #[.int .i64 fr, .slice fp fl fc, .slice fq fm fd, .slice fb bl fe], .agg #[.int .i64 tb, .slice pR n1 cR, .slice pA n2 cA], .bool true] w (.int .i64 (if rangeC tb 0 ((bl : Int) - 1) = 0 then handedC n1 16 n2 else rangeC tb 0 ((bl : Int) - 1))) := by
  have C:Hid (∀ wx:World,Calls Tryz.prog 105 #[.int .i64 tb,.int .i64 0,.int .i64 ((bl:Int) - 1)] wx fun e w'=>e=.returned (.int .i64 (rangeC tb 0 ((bl:Int) - 1)))∧Below wx.heap.size wx w'):=fun wx=>rangeCode_any;have C2:Hid (∀ wx:World,Calls Tryz.prog 107 #[.slice pR n1 cR,.int .i64 16,.slice pA n2 cA] wx fun e w'=>e=.returned (.int .i64 (handedC n1 16 n2))∧Below wx.heap.size wx w'):=fun wx=>handedCode_any;generalize rangeC tb 0 ((bl:Int) - 1)=v at C ⊢;generalize handedC n1 16 n2=u at C2 ⊢;have X2:Blk ((w.alloc (.cells #[.int .i64 fr,.slice fp fl fc,.slice fq fm fd,.slice fb bl fe] 40)).alloc (.cells #[.int .i64 tb,.slice pR n1 cR,.slice pA n2 cA] 56)) (w.heap.size+1) #[.int .i64 tb,.slice pR n1 cR,.slice pA n2 cA] 56:=Blk.new2 _ _ _ _;have B1:Hid (Below w.heap.size w ((w.alloc (.cells #[.int .i64 fr,.slice fp fl fc,.slice fq fm fd,.slice fb bl fe] 40)).alloc (.cells #[.int .i64 tb,.slice pR n1 cR,.slice pA n2 cA] 56))):=bel2 _ _ _;unfold Rd;by_cases hv:v=0
  · subst hv;rw [if_pos rfl];go_enter Tryz.func90,Tryz.ntmps90
    go_wp2_with fail
    generalize ((w.alloc (.cells #[.int .i64 fr,.slice fp fl fc,.slice fq fm fd,.slice fb bl fe] 40)).alloc (.cells #[.int .i64 tb,.slice pR n1 cR,.slice pA n2 cA] 56))=w1 at X2 B1 ⊢;refine (C.out _).mono ?_;rintro e w2 ⟨rfl,b2⟩;have X3:=(b2.block _ (lt_of_block X2)).trans X2;have B2:Hid (Below w.heap.size w w2):=B1.out.trans (b2.mono B1.out.size);have c6:=cellOf X3 1 _ rfl;have c7:=cellOf X3 2 _ rfl;clear b2 C X2 B1 X3;go_wp2_with fail
    refine (C2.out _).mono ?_;rintro e w3 ⟨rfl,b3⟩;have B3:Hid (Below w.heap.size w w3):=B2.out.trans (b3.mono B2.out.size);clear b3 C2 B2;go_wp2
    go_ret;exact ⟨rfl,B3.out⟩
  · rw [if_neg hv];have hv':(v==0)=false:=by simpa using hv
    go_enter Tryz.func90,Tryz.ntmps90
    go_wp2_with fail
    generalize ((w.alloc (.cells #[.int .i64 fr,.slice fp fl fc,.slice fq fm fd,.slice fb bl fe] 40)).alloc (.cells #[.int .i64 tb,.slice pR n1 cR,.slice pA n2 cA] 56))=w1 at X2 B1 ⊢;refine (C.out _).mono ?_;rintro e w2 ⟨rfl,b2⟩;have B2:Hid (Below w.heap.size w w2):=B1.out.trans (b2.mono B1.out.size);clear b2 C C2 X2 B1;go_wp2
    go_ret;exact ⟨rfl,B2.out⟩
theorem toCode_any {x : MTo} {pR pA : Option Addr} {cR cA : Nat} {fr : Int} {fp fq fb : Option Addr} {fl fc fm fd bl fe : Nat} (has : Bool) {w : World} (hbl : bl < 2305843009213693952) :
    Rd Tryz.prog 90 #[.agg #[.int .i64 fr,.slice fp fl fc,.slice fq fm fd,.slice fb bl fe],.agg #[.int .i64 x.block,.slice pR x.regs.length cR,.slice pA x.args.length cA],.bool has] w (.int .i64 (x.form bl has)):=by
  cases has
  · rw [toForm_no];exact toCodeF
  · rw [toForm_eq];exact toCodeT hbl
theorem end_walk {eo ea yb nb : Int} {pyr pya pnr pna pe : Option Addr} {nyr cyr nya cya nnr cnr nna cna ne ce : Nat} {fr : Int} {fp fq fb : Option Addr} {fl fc fm fd bl fe : Nat} {w : World} {vy vn : Int} (h1 : ¬ (eo < 1 ∨ 3 < eo)) (h2 : ¬ ((eo ≠ 2 ∧ ea ≠ 0) ∨ (eo ≠ 3 ∧ 0 < ne))) (h3 : ¬ 8 < ne)
    (CY:Hid (∀ wx:World,Calls Tryz.prog 90 #[.agg #[.int .i64 fr,.slice fp fl fc,.slice fq fm fd,.slice fb bl fe],.agg #[.int .i64 yb,.slice pyr nyr cyr,.slice pya nya cya],.bool (eo != 3)] wx fun e w'=>e=.returned (.int .i64 vy)∧Below wx.heap.size wx w'))
    (CN:Hid (∀ wx:World,Calls Tryz.prog 90 #[.agg #[.int .i64 fr,.slice fp fl fc,.slice fq fm fd,.slice fb bl fe],.agg #[.int .i64 nb,.slice pnr nnr cnr,.slice pna nna cna],.bool (eo==2)] wx fun e w'=>e=.returned (.int .i64 vn)∧Below wx.heap.size wx w')) :
    Rd Tryz.prog 51 #[.agg #[.int .i64 fr,.slice fp fl fc,.slice fq fm fd,.slice fb bl fe],.agg #[.int .i64 eo,.int .i64 ea,.int .i64 yb,.slice pyr nyr cyr,.slice pya nya cya,.int .i64 nb,.slice pnr nnr cnr,.slice pna nna cna,.slice pe ne ce]] w (.int .i64 (if vy=0 then vn else vy)):=by
  have X1:Blk ((w.alloc (.cells #[.int .i64 fr,.slice fp fl fc,.slice fq fm fd,.slice fb bl fe] 40)).alloc (.cells #[.int .i64 eo,.int .i64 ea,.int .i64 yb,.slice pyr nyr cyr,.slice pya nya cya,.int .i64 nb,.slice pnr nnr cnr,.slice pna nna cna,.slice pe ne ce] 58)) w.heap.size #[.int .i64 fr,.slice fp fl fc,.slice fq fm fd,.slice fb bl fe] 40:=Blk.new1 _ _ _ _ _;have X2:Blk ((w.alloc (.cells #[.int .i64 fr,.slice fp fl fc,.slice fq fm fd,.slice fb bl fe] 40)).alloc (.cells #[.int .i64 eo,.int .i64 ea,.int .i64 yb,.slice pyr nyr cyr,.slice pya nya cya,.int .i64 nb,.slice pnr nnr cnr,.slice pna nna cna,.slice pe ne ce] 58)) (w.heap.size+1) #[.int .i64 eo,.int .i64 ea,.int .i64 yb,.slice pyr nyr cyr,.slice pya nya cya,.int .i64 nb,.slice pnr nnr cnr,.slice pna nna cna,.slice pe ne ce] 58:=Blk.new2 _ _ _ _;have B1:Hid (Below w.heap.size w ((w.alloc (.cells #[.int .i64 fr,.slice fp fl fc,.slice fq fm fd,.slice fb bl fe] 40)).alloc (.cells #[.int .i64 eo,.int .i64 ea,.int .i64 yb,.slice pyr nyr cyr,.slice pya nya cya,.int .i64 nb,.slice pnr nnr cnr,.slice pna nna cna,.slice pe ne ce] 58))):=bel2 _ _ _;unfold Rd;have key:∀ {o:Int},eo=o→¬ (o≠2∧ea≠0)→¬ (o≠3∧0<ne)→(o=1∨o=2∨o=3):=fun h _ _=>by omega
  rcases (show eo=1∨eo=2∨eo=3 by omega) with rfl | rfl | rfl
  · obtain rfl:ea=0:=by omega
    obtain rfl:ne=0:=by omega
    clear h1 h2 h3 key;go_enter Tryz.func51,Tryz.ntmps51
    go_wp2_with fail
    generalize ((w.alloc (.cells #[.int .i64 fr,.slice fp fl fc,.slice fq fm fd,.slice fb bl fe] 40)).alloc (.cells #[.int .i64 1,.int .i64 0,.int .i64 yb,.slice pyr nyr cyr,.slice pya nya cya,.int .i64 nb,.slice pnr nnr cnr,.slice pna nna cna,.slice pe 0 ce] 58))=w1 at X1 X2 B1 ⊢;refine (CY.out _).mono ?_;rintro e w2 ⟨rfl,b2⟩;replace X1:=(b2.block _ (lt_of_block X1)).trans X1;replace X2:=(b2.block _ (lt_of_block X2)).trans X2;have B2:Hid (Below w.heap.size w w2):=B1.out.trans (b2.mono B1.out.size);clear b2 CY B1;by_cases hv:vy=0
    · subst hv;have c0:=cellOf X1 0 _ rfl;have c1:=cellOf X1 1 _ rfl;have c2:=cellOf X1 2 _ rfl;have c3:=cellOf X1 3 _ rfl;have d0:=cellOf X2 0 _ rfl;have d5:=cellOf X2 5 _ rfl;have d6:=cellOf X2 6 _ rfl;have d7:=cellOf X2 7 _ rfl;clear X1 X2;go_wp2_with fail
      refine (CN.out _).mono ?_;rintro e w3 ⟨rfl,b3⟩;have B3:Hid (Below w.heap.size w w3):=B2.out.trans (b3.mono B2.out.size);clear b3 CN B2;go_wp2
      go_ret;exact ⟨rfl,B3.out⟩
    · have hv':(vy==0)=false:=by simpa using hv
      clear CN X1 X2;go_wp2
      go_ret;exact ⟨rfl,B2.out⟩
  · obtain rfl:ne=0:=by omega
    clear h1 h2 h3 key;go_enter Tryz.func51,Tryz.ntmps51
    go_wp2_with fail
    generalize ((w.alloc (.cells #[.int .i64 fr,.slice fp fl fc,.slice fq fm fd,.slice fb bl fe] 40)).alloc (.cells #[.int .i64 2,.int .i64 ea,.int .i64 yb,.slice pyr nyr cyr,.slice pya nya cya,.int .i64 nb,.slice pnr nnr cnr,.slice pna nna cna,.slice pe 0 ce] 58))=w1 at X1 X2 B1 ⊢;refine (CY.out _).mono ?_;rintro e w2 ⟨rfl,b2⟩;replace X1:=(b2.block _ (lt_of_block X1)).trans X1;replace X2:=(b2.block _ (lt_of_block X2)).trans X2;have B2:Hid (Below w.heap.size w w2):=B1.out.trans (b2.mono B1.out.size);clear b2 CY B1;by_cases hv:vy=0
    · subst hv;have c0:=cellOf X1 0 _ rfl;have c1:=cellOf X1 1 _ rfl;have c2:=cellOf X1 2 _ rfl;have c3:=cellOf X1 3 _ rfl;have d0:=cellOf X2 0 _ rfl;have d5:=cellOf X2 5 _ rfl;have d6:=cellOf X2 6 _ rfl;have d7:=cellOf X2 7 _ rfl;clear X1 X2;go_wp2_with fail
      refine (CN.out _).mono ?_;rintro e w3 ⟨rfl,b3⟩;have B3:Hid (Below w.heap.size w w3):=B2.out.trans (b3.mono B2.out.size);clear b3 CN B2;go_wp2
      go_ret;exact ⟨rfl,B3.out⟩
    · have hv':(vy==0)=false:=by simpa using hv
      clear CN X1 X2;go_wp2
      go_ret;exact ⟨rfl,B2.out⟩
  · obtain rfl:ea=0:=by omega
    have g8:¬ (8:Int)<ne:=by omega
    clear h1 h2 h3 key;go_enter Tryz.func51,Tryz.ntmps51
    go_wp2_with fail
    generalize ((w.alloc (.cells #[.int .i64 fr,.slice fp fl fc,.slice fq fm fd,.slice fb bl fe] 40)).alloc (.cells #[.int .i64 3,.int .i64 0,.int .i64 yb,.slice pyr nyr cyr,.slice pya nya cya,.int .i64 nb,.slice pnr nnr cnr,.slice pna nna cna,.slice pe ne ce] 58))=w1 at X1 X2 B1 ⊢;refine (CY.out _).mono ?_;rintro e w2 ⟨rfl,b2⟩;replace X1:=(b2.block _ (lt_of_block X1)).trans X1;replace X2:=(b2.block _ (lt_of_block X2)).trans X2;have B2:Hid (Below w.heap.size w w2):=B1.out.trans (b2.mono B1.out.size);clear b2 CY B1;by_cases hv:vy=0
    · subst hv;have c0:=cellOf X1 0 _ rfl;have c1:=cellOf X1 1 _ rfl;have c2:=cellOf X1 2 _ rfl;have c3:=cellOf X1 3 _ rfl;have d0:=cellOf X2 0 _ rfl;have d5:=cellOf X2 5 _ rfl;have d6:=cellOf X2 6 _ rfl;have d7:=cellOf X2 7 _ rfl;clear X1 X2;go_wp2_with fail
      refine (CN.out _).mono ?_;rintro e w3 ⟨rfl,b3⟩;have B3:Hid (Below w.heap.size w w3):=B2.out.trans (b3.mono B2.out.size);clear b3 CN B2;go_wp2
      go_ret;exact ⟨rfl,B3.out⟩
    · have hv':(vy==0)=false:=by simpa using hv
      clear CN X1 X2;go_wp2
      go_ret;exact ⟨rfl,B2.out⟩
theorem end_bad {eo ea yb nb : Int} {pyr pya pnr pna pe : Option Addr} {nyr cyr nya cya nnr cnr nna cna ne ce : Nat} {fr : Int} {fp fq fb : Option Addr} {fl fc fm fd bl fe : Nat} {w : World} {v : Int} (h : (v = 3 ∧ (eo < 1 ∨ 3 < eo)) ∨ (v = 4 ∧ ¬ (eo < 1 ∨ 3 < eo) ∧ ((eo ≠ 2 ∧ ea ≠ 0) ∨ (eo ≠ 3 ∧ 0 < ne))) ∨ (v = 2 ∧ ¬ (eo < 1 ∨ 3 < eo) ∧ ¬ ((eo ≠ 2 ∧ ea ≠ 0) ∨ (eo ≠ 3 ∧ 0 < ne)) ∧ 8 < ne)) :
    Rd Tryz.prog 51 #[.agg #[.int .i64 fr,.slice fp fl fc,.slice fq fm fd,.slice fb bl fe],.agg #[.int .i64 eo,.int .i64 ea,.int .i64 yb,.slice pyr nyr cyr,.slice pya nya cya,.int .i64 nb,.slice pnr nnr cnr,.slice pna nna cna,.slice pe ne ce]] w (.int .i64 v):=by
  unfold Rd;rcases h with ⟨rfl,h | h⟩ | ⟨rfl,h1,h⟩ | ⟨rfl,h1,h2,h3⟩
  · go_enter Tryz.func51,Tryz.ntmps51
    go_wp2
    go_ret;exact ⟨rfl,bel2 _ _ _⟩
  · have g:¬ eo<1:=by omega
    go_enter Tryz.func51,Tryz.ntmps51
    go_wp2
    go_ret;exact ⟨rfl,bel2 _ _ _⟩
  · rcases (show eo=1∨eo=2∨eo=3 by omega) with rfl | rfl | rfl
    · by_cases ha:ea=0
      · subst ha;have g:(0:Int)<ne:=by omega
        clear h h1;go_enter Tryz.func51,Tryz.ntmps51
        go_wp2
        go_ret;exact ⟨rfl,bel2 _ _ _⟩
      · have g:(ea==0)=false:=by simpa using ha
        clear h h1;go_enter Tryz.func51,Tryz.ntmps51
        go_wp2
        go_ret;exact ⟨rfl,bel2 _ _ _⟩
    · have g:(0:Int)<ne:=by omega
      clear h h1;go_enter Tryz.func51,Tryz.ntmps51
      go_wp2
      go_ret;exact ⟨rfl,bel2 _ _ _⟩
    · have g:(ea==0)=false:=by simp;omega
      clear h h1;go_enter Tryz.func51,Tryz.ntmps51
      go_wp2
      go_ret;exact ⟨rfl,bel2 _ _ _⟩
  · obtain rfl:eo=3:=by omega
    obtain rfl:ea=0:=by omega
    have g:(8:Int)<ne:=by omega
    clear h1 h2 h3;go_enter Tryz.func51,Tryz.ntmps51
    go_wp2
    go_ret;exact ⟨rfl,bel2 _ _ _⟩
theorem cEnd_any {x : MEnd} {e : EP} {fr : Int} {fp fq fb : Option Addr} {fl fc fm fd bl fe : Nat} {w : World} (hs : x.yes.regs.length < 2305843009213693952 ∧ x.yes.args.length < 2305843009213693952 ∧ x.no.regs.length < 2305843009213693952 ∧ x.no.args.length < 2305843009213693952) (hbl : bl < 2305843009213693952) : Rd Tryz.prog 51 #[.agg #[.int .i64 fr, .slice fp fl fc, .slice fq fm fd, .slice fb bl fe], .agg #[.int .i64 x.op, .int .i64 x.a, .int .i64 x.yes.block, .slice e.pYR x.yes.regs.length e.cYR, .slice e.pYA x.yes.args.length e.cYA, .int .i64 x.no.block, .slice e.pNR x.no.regs.length e.cNR, .slice e.pNA x.no.args.length e.cNA, .slice e.pA x.args.length e.cA]] w (.int .i64 (x.form bl)) := by
  rw [endForm_eq];by_cases c1:x.op<1∨3<x.op
  · rw [if_pos c1];exact end_bad (.inl ⟨rfl,c1⟩)
  rw [if_neg c1];by_cases c2:(x.op≠2∧x.a≠0)∨(x.op≠3∧0<x.args.length)
  · rw [if_pos c2];exact end_bad (.inr (.inl ⟨rfl,c1,c2⟩))
  rw [if_neg c2];by_cases c3:8<x.args.length
  · rw [if_pos c3];exact end_bad (.inr (.inr ⟨rfl,c1,c2,c3⟩))
  rw [if_neg c3];exact end_walk c1 c2 c3 (fun _=>toCode_any _ hbl) (fun _=>toCode_any _ hbl)
theorem wrap_add (p q : Nat) (h : p + q < 4611686018427387904) : IntKind.i64.wrap ((p : Int) + (q : Int)) = (p : Int) + (q : Int) := by
  have e1:((p:Int)+(q:Int)) % 2 ^ 64=(p:Int)+(q:Int):=by omega
  simp only [IntKind.wrap,IntKind.signed,IntKind.bits,e1,Bool.true_and];rw [if_neg (by simp only [decide_eq_true_eq];omega)]
theorem toFormF {x : MTo} {pR pA : Option Addr} {cR cA : Nat} {fr : Int} {fp fq fb : Option Addr} {fl fc fm fd bl fe : Nat} {w : World} (hr : x.regs.length < 2305843009213693952) (ha : x.args.length < 2305843009213693952) (hbl : bl < 2305843009213693952) :
    Rd Tryz.prog 124 #[.agg #[.int .i64 fr,.slice fp fl fc,.slice fq fm fd,.slice fb bl fe],.agg #[.int .i64 x.block,.slice pR x.regs.length cR,.slice pA x.args.length cA],.bool false] w (.int .i64 (x.form bl false)):=by
  refine fr_enter (n:=43) Tryz.func124 rfl rfl rfl ?_;intro a hF;have hW:=Wd.start w;replace hF:Fr 43 a [(0,.agg #[.int .i64 fr,.slice fp fl fc,.slice fq fm fd,.slice fb bl fe]),(1,.agg #[.int .i64 x.block,.slice pR x.regs.length cR,.slice pA x.args.length cA]),(2,.bool false)]:=hF;refine wp_seq_k fun K1 hK1=>?_;refine rg hF fun ops=>?_;clear hF a;refine sB hW trivial rfl rfl ?_;clear hW;intro w2 B2 hW2 hN;clear hN;refine sB hW2 trivial rfl rfl ?_;clear hW2;intro w3 B3 hW3 hN;clear hN;refine sa trivial rfl rfl ?_;refine St.nil fun a4 h4=>?_;refine hK1 _ _ ?_;refine wp_seq_k fun K5 hK5=>?_;refine wp_seq_k fun K6 hK6=>?_;refine rg h4 fun ops=>?_;clear h4 a4;refine sm trivial rfl rfl ?_;refine sn trivial rfl rfl ?_;refine St.nil fun a7 h7=>?_;refine hK6 _ _ ?_;refine fr_true (t:=8) h7 rfl ?_;refine wp_seq_k fun K8 hK8=>?_;refine wp_seq_k fun K9 hK9=>?_;refine fr_region ?_;intro ops hops;have hg3:(ops[3]?).bind (fun o:Oper=>o.dst)=some 12:=hops 3;clear hops;refine St.go h7 ?_;clear h7 a7;refine sfTo0 trivial rfl rfl ?_;refine sbInt 0 hW3 trivial rfl rfl rfl rfl ?_;refine sne trivial rfl rfl rfl ?_;refine sm trivial rfl rfl ?_;intro a10 h10;rcases Bool.eq_false_or_eq_true (x.block != 0) with hb | hb
  ·rw [hb] at h10
   have h9:¬ x.block=0:=bne_iff_ne.1 hb;have hc11:¬ x.block=0:=h9;clear h9;clear hb;refine St.go h10 ?_;clear h10 a10;refine so hg3 rfl rfl rfl rfl ?_;refine so hg3 rfl rfl rfl rfl ?_;refine so hg3 rfl rfl rfl rfl ?_;refine so hg3 rfl rfl rfl rfl ?_;refine so hg3 rfl rfl rfl rfl ?_;refine so hg3 rfl rfl rfl rfl ?_;refine so hg3 rfl rfl rfl rfl ?_;refine so hg3 rfl rfl rfl rfl ?_;refine sp trivial rfl rfl rfl ?_;refine St.nil fun a12 h12=>?_;refine hK9 _ _ ?_;refine fr_true (t:=21) h12 rfl ?_;refine wp_seq_k fun K13 hK13=>?_;refine rg h12 fun ops=>?_;clear h12 a12;refine sa trivial rfl rfl ?_;refine St.nil fun a14 h14=>?_;refine hK13 _ _ ?_;refine wp_ret ?_;with_reducible repeat first | refine of_then_ret ?_ | refine of_block_ret ?_
   have R:x.form bl false=4:=by have:=hc11;rw [toForm_no];split <;> omega
   exact ret_tmp (t:=6) h14 rfl rfl ⟨by rw [R],hW3.bel⟩
  rw [hb] at h10;have h9:x.block=0:=bne_eq_false_iff_eq.1 hb;have hc15:Hid (x.block=0):=h9;clear h9;clear hb;refine St.go h10 ?_;clear h10 a10;refine sfTo1 ⟨_,hg3,rfl,rfl⟩ rfl rfl ?_;refine sbInts 0 hW3 ⟨_,hg3,rfl,rfl⟩ rfl rfl rfl rfl ?_;refine slInts ⟨_,hg3,rfl,rfl⟩ rfl rfl ?_;refine sfTo2 ⟨_,hg3,rfl,rfl⟩ rfl rfl ?_;refine sbInts 0 hW3 ⟨_,hg3,rfl,rfl⟩ rfl rfl rfl rfl ?_;refine slInts ⟨_,hg3,rfl,rfl⟩ rfl rfl ?_;intro a16 h16;refine fr_pure_g (t:=19) (g:=3) (tg:=12) (want:=false) (v:=.int .i64 ((x.regs.length+x.args.length:Nat):Int)) (w':=w3) h16 rfl rfl hg3 rfl rfl rfl (fun K hK=>?_) ?_
  ·have k0:a16.tmps.getD 15 undef=.int .i64 (x.regs.length:Int):=h16.sl 15 _ rfl
   have k1:a16.tmps.getD 18 undef=.int .i64 (x.args.length:Int):=h16.sl 18 _ rfl;have hwr:IntKind.i64.wrap ((x.regs.length:Int)+(x.args.length:Int))=(x.regs.length:Int)+(x.args.length:Int):=wrap_add _ _ (by omega);go_simp;exact hK
  clear h16;intro a17 hF17;refine St.go hF17 ?_;clear hF17 a17;refine sgt ⟨_,hg3,rfl,rfl⟩ rfl rfl rfl ?_;refine spf trivial rfl rfl rfl ?_;refine St.nil fun a18 h18=>?_;refine hK9 _ _ ?_;refine fr_cond (t:=21) h18 rfl (fun hb=>?_) (fun hb=>?_)
  ·have hc19:0<((x.regs.length+x.args.length:Nat):Int):=of_decide_eq_true hb
   clear hb;refine wp_seq_k fun K20 hK20=>?_;refine rg h18 fun ops=>?_;clear h18 a18;refine sa trivial rfl rfl ?_;refine St.nil fun a21 h21=>?_;refine hK20 _ _ ?_;refine wp_ret ?_;with_reducible repeat first | refine of_then_ret ?_ | refine of_block_ret ?_
   have R:x.form bl false=4:=by have:=hc15.out;have:=hc19;rw [toForm_no];split <;> omega
   exact ret_tmp (t:=6) h21 rfl rfl ⟨by rw [R],hW3.bel⟩
  have hc22:¬ (0<((x.regs.length+x.args.length:Nat):Int)):=of_decide_eq_false hb;clear hb;refine wp_skip ?_;refine hK8 _ _ ?_;refine wp_seq_k fun K23 hK23=>?_;refine rg h18 fun ops=>?_;clear h18 a18;refine sa trivial rfl rfl ?_;refine St.nil fun a24 h24=>?_;refine hK23 _ _ ?_;refine wp_ret ?_;with_reducible repeat first | refine of_then_ret ?_ | refine of_block_ret ?_
  have R:x.form bl false=0:=by have:=hc15.out;have:=hc22;rw [toForm_no];split <;> omega
  exact ret_tmp (t:=6) h24 rfl rfl ⟨by rw [R],hW3.bel⟩
theorem toFormT {x : MTo} {pR pA : Option Addr} {cR cA : Nat} {fr : Int} {fp fq fb : Option Addr} {fl fc fm fd bl fe : Nat} {w : World} (hr : x.regs.length < 2305843009213693952) (ha : x.args.length < 2305843009213693952) (hbl : bl < 2305843009213693952) :
    Rd Tryz.prog 124 #[.agg #[.int .i64 fr,.slice fp fl fc,.slice fq fm fd,.slice fb bl fe],.agg #[.int .i64 x.block,.slice pR x.regs.length cR,.slice pA x.args.length cA],.bool true] w (.int .i64 (x.form bl true)):=by
  refine fr_enter (n:=43) Tryz.func124 rfl rfl rfl ?_;intro a hF;have hW:=Wd.start w;replace hF:Fr 43 a [(0,.agg #[.int .i64 fr,.slice fp fl fc,.slice fq fm fd,.slice fb bl fe]),(1,.agg #[.int .i64 x.block,.slice pR x.regs.length cR,.slice pA x.args.length cA]),(2,.bool true)]:=hF;refine wp_seq_k fun K1 hK1=>?_;refine rg hF fun ops=>?_;clear hF a;refine sB hW trivial rfl rfl ?_;clear hW;intro w2 B2 hW2 hN;clear hN;refine sB hW2 trivial rfl rfl ?_;clear hW2;intro w3 B3 hW3 hN;clear hN;refine sa trivial rfl rfl ?_;refine St.nil fun a4 h4=>?_;refine hK1 _ _ ?_;refine wp_seq_k fun K5 hK5=>?_;refine wp_seq_k fun K6 hK6=>?_;refine rg h4 fun ops=>?_;clear h4 a4;refine sm trivial rfl rfl ?_;refine sn trivial rfl rfl ?_;refine St.nil fun a7 h7=>?_;refine hK6 _ _ ?_;refine fr_false (t:=8) h7 rfl ?_;refine wp_skip ?_;refine hK5 _ _ ?_;refine wp_seq_k fun K8 hK8=>?_;refine wp_seq_k fun K9 hK9=>?_;refine fr_region ?_;intro ops hops;have hg3:(ops[3]?).bind (fun o:Oper=>o.dst)=some 25:=hops 3;clear hops;refine St.go h7 ?_;clear h7 a7;refine sfTo0 trivial rfl rfl ?_;refine sbInt 0 hW3 trivial rfl rfl rfl rfl ?_;refine slt trivial rfl rfl rfl ?_;refine sm trivial rfl rfl ?_;intro a10 h10;rcases Bool.eq_false_or_eq_true (decide (x.block<0)) with hb | hb
  ·rw [hb] at h10
   have hc11:x.block<0:=of_decide_eq_true hb;clear hb;refine St.go h10 ?_;clear h10 a10;refine so hg3 rfl rfl rfl rfl ?_;refine so hg3 rfl rfl rfl rfl ?_;refine so hg3 rfl rfl rfl rfl ?_;refine so hg3 rfl rfl rfl rfl ?_;refine so hg3 rfl rfl rfl rfl ?_;refine so hg3 rfl rfl rfl rfl ?_;refine sp trivial rfl rfl rfl ?_;refine St.nil fun a12 h12=>?_;refine hK9 _ _ ?_;refine fr_true (t:=32) h12 rfl ?_;refine wp_seq_k fun K13 hK13=>?_;refine rg h12 fun ops=>?_;clear h12 a12;refine sa trivial rfl rfl ?_;refine St.nil fun a14 h14=>?_;refine hK13 _ _ ?_;refine wp_ret ?_;with_reducible repeat first | refine of_then_ret ?_ | refine of_block_ret ?_
   have R:x.form bl true=1:=by simp [MTo.form,hc11]
   exact ret_tmp (t:=6) h14 rfl rfl ⟨by rw [R],hW3.bel⟩
  rw [hb] at h10;have hc15:¬ (x.block<0):=of_decide_eq_false hb;clear hb;refine St.go h10 ?_;clear h10 a10;refine sfTo0 ⟨_,hg3,rfl,rfl⟩ rfl rfl ?_;refine sbInt 0 hW3 ⟨_,hg3,rfl,rfl⟩ rfl rfl rfl rfl ?_;refine sfFunc3 ⟨_,hg3,rfl,rfl⟩ rfl rfl ?_;refine sbBlocks 1 hW3 ⟨_,hg3,rfl,rfl⟩ rfl rfl rfl rfl ?_;refine slBlocks ⟨_,hg3,rfl,rfl⟩ rfl rfl ?_;refine sge ⟨_,hg3,rfl,rfl⟩ rfl rfl rfl ?_;refine spf trivial rfl rfl rfl ?_;refine St.nil fun a16 h16=>?_;refine hK9 _ _ ?_;refine fr_cond (t:=32) h16 rfl (fun hb=>?_) (fun hb=>?_)
  ·have hc17:(bl:Int)≤x.block:=of_decide_eq_true hb
   clear hb;refine wp_seq_k fun K18 hK18=>?_;refine rg h16 fun ops=>?_;clear h16 a16;refine sa trivial rfl rfl ?_;refine St.nil fun a19 h19=>?_;refine hK18 _ _ ?_;refine wp_ret ?_;with_reducible repeat first | refine of_then_ret ?_ | refine of_block_ret ?_
   have R:x.form bl true=1:=by simp [MTo.form,hc15,hc17]
   exact ret_tmp (t:=6) h19 rfl rfl ⟨by rw [R],hW3.bel⟩
  have hc20:¬ ((bl:Int)≤x.block):=of_decide_eq_false hb;clear hb;refine wp_skip ?_;refine hK8 _ _ ?_;refine wp_seq_k fun K21 hK21=>?_;refine wp_seq_k fun K22 hK22=>?_;refine fr_region ?_;intro ops hops;have hg4:(ops[4]?).bind (fun o:Oper=>o.dst)=some 37:=hops 4;clear hops;refine St.go h16 ?_;clear h16 a16;refine sfTo1 trivial rfl rfl ?_;refine sbInts 0 hW3 trivial rfl rfl rfl rfl ?_;refine slInts trivial rfl rfl ?_;refine sgt trivial rfl rfl rfl ?_;refine sm trivial rfl rfl ?_;intro a23 h23;rcases Bool.eq_false_or_eq_true (decide (16<(x.regs.length:Int))) with hb | hb
  ·rw [hb] at h23
   have hc24:16<x.regs.length:=by have:=of_decide_eq_true hb;omega
   clear hb;refine St.go h23 ?_;clear h23 a23;refine so hg4 rfl rfl rfl rfl ?_;refine so hg4 rfl rfl rfl rfl ?_;refine so hg4 rfl rfl rfl rfl ?_;refine so hg4 rfl rfl rfl rfl ?_;refine sp trivial rfl rfl rfl ?_;refine St.nil fun a25 h25=>?_;refine hK22 _ _ ?_;refine fr_true (t:=42) h25 rfl ?_;refine wp_seq_k fun K26 hK26=>?_;refine rg h25 fun ops=>?_;clear h25 a25;refine sa trivial rfl rfl ?_;refine St.nil fun a27 h27=>?_;refine hK26 _ _ ?_;refine wp_ret ?_;with_reducible repeat first | refine of_then_ret ?_ | refine of_block_ret ?_
   have R:x.form bl true=2:=by simp [MTo.form,hc15,hc20,hc24]
   exact ret_tmp (t:=6) h27 rfl rfl ⟨by rw [R],hW3.bel⟩
  rw [hb] at h23;have hc28:¬ (16<x.regs.length):=by have:=of_decide_eq_false hb;omega
  clear hb;refine St.go h23 ?_;clear h23 a23;refine sfTo2 ⟨_,hg4,rfl,rfl⟩ rfl rfl ?_;refine sbInts 0 hW3 ⟨_,hg4,rfl,rfl⟩ rfl rfl rfl rfl ?_;refine slInts ⟨_,hg4,rfl,rfl⟩ rfl rfl ?_;refine sgt ⟨_,hg4,rfl,rfl⟩ rfl rfl rfl ?_;refine spf trivial rfl rfl rfl ?_;refine St.nil fun a29 h29=>?_;refine hK22 _ _ ?_;refine fr_cond (t:=42) h29 rfl (fun hb=>?_) (fun hb=>?_)
  ·have hc30:8<x.args.length:=by have:=of_decide_eq_true hb;omega
   clear hb;refine wp_seq_k fun K31 hK31=>?_;refine rg h29 fun ops=>?_;clear h29 a29;refine sa trivial rfl rfl ?_;refine St.nil fun a32 h32=>?_;refine hK31 _ _ ?_;refine wp_ret ?_;with_reducible repeat first | refine of_then_ret ?_ | refine of_block_ret ?_
   have R:x.form bl true=2:=by simp [MTo.form,hc15,hc20,hc28,hc30]
   exact ret_tmp (t:=6) h32 rfl rfl ⟨by rw [R],hW3.bel⟩
  have hc33:¬ (8<x.args.length):=by have:=of_decide_eq_false hb;omega
  clear hb;refine wp_skip ?_;refine hK21 _ _ ?_;refine wp_seq_k fun K34 hK34=>?_;refine rg h29 fun ops=>?_;clear h29 a29;refine sa trivial rfl rfl ?_;refine St.nil fun a35 h35=>?_;refine hK34 _ _ ?_;refine wp_ret ?_;with_reducible repeat first | refine of_then_ret ?_ | refine of_block_ret ?_
  have R:x.form bl true=0:=by simp [MTo.form,hc15,hc20,hc28,hc33]
  exact ret_tmp (t:=6) h35 rfl rfl ⟨by rw [R],hW3.bel⟩
theorem toForm_any {x : MTo} {pR pA : Option Addr} {cR cA : Nat} {fr : Int} {fp fq fb : Option Addr} {fl fc fm fd bl fe : Nat} (has : Bool) {w : World} (hr : x.regs.length < 2305843009213693952) (ha : x.args.length < 2305843009213693952) (hbl : bl < 2305843009213693952) :
    Rd Tryz.prog 124 #[.agg #[.int .i64 fr,.slice fp fl fc,.slice fq fm fd,.slice fb bl fe],.agg #[.int .i64 x.block,.slice pR x.regs.length cR,.slice pA x.args.length cA],.bool has] w (.int .i64 (x.form bl has)):=by
  cases has
  · exact toFormF hr ha hbl
  · exact toFormT hr ha hbl
theorem endForm_any {x : MEnd} {e : EP} {fr : Int} {fp fq fb : Option Addr} {fl fc fm fd bl fe : Nat} {w : World} (hs : x.yes.regs.length < 2305843009213693952 ∧ x.yes.args.length < 2305843009213693952 ∧ x.no.regs.length < 2305843009213693952 ∧ x.no.args.length < 2305843009213693952) (hbl : bl < 2305843009213693952) :
    Rd Tryz.prog 82 #[.agg #[.int .i64 fr,.slice fp fl fc,.slice fq fm fd,.slice fb bl fe],.agg #[.int .i64 x.op,.int .i64 x.a,.int .i64 x.yes.block,.slice e.pYR x.yes.regs.length e.cYR,.slice e.pYA x.yes.args.length e.cYA,.int .i64 x.no.block,.slice e.pNR x.no.regs.length e.cNR,.slice e.pNA x.no.args.length e.cNA,.slice e.pA x.args.length e.cA]] w (.int .i64 (x.form bl)):=by
  refine fr_enter (n:=54) Tryz.func82 rfl rfl rfl ?_;intro a hF;have hW:=Wd.start w;replace hF:Fr 54 a [(0,.agg #[.int .i64 fr,.slice fp fl fc,.slice fq fm fd,.slice fb bl fe]),(1,.agg #[.int .i64 x.op,.int .i64 x.a,.int .i64 x.yes.block,.slice e.pYR x.yes.regs.length e.cYR,.slice e.pYA x.yes.args.length e.cYA,.int .i64 x.no.block,.slice e.pNR x.no.regs.length e.cNR,.slice e.pNA x.no.args.length e.cNA,.slice e.pA x.args.length e.cA])]:=hF;refine wp_seq_k fun K1 hK1=>?_;refine rg hF fun ops=>?_;clear hF a;refine sB hW trivial rfl rfl ?_;clear hW;intro w2 B2 hW2 hN;clear hN;refine sB hW2 trivial rfl rfl ?_;clear hW2;intro w3 B3 hW3 hN;clear hN;refine sa trivial rfl rfl ?_;refine St.nil fun a4 h4=>?_;refine hK1 _ _ ?_;refine wp_seq_k fun K5 hK5=>?_;refine wp_seq_k fun K6 hK6=>?_;refine fr_region ?_;intro ops hops;have hg3:(ops[3]?).bind (fun o:Oper=>o.dst)=some 9:=hops 3;clear hops;refine St.go h4 ?_;clear h4 a4;refine sfEnd0 trivial rfl rfl ?_;refine sbInt 0 hW3 trivial rfl rfl rfl rfl ?_;refine slt trivial rfl rfl rfl ?_;refine sm trivial rfl rfl ?_;intro a7 h7;rcases Bool.eq_false_or_eq_true (decide (x.op<1)) with hb | hb
  ·rw [hb] at h7
   have hc8:x.op<1:=of_decide_eq_true hb;clear hb;refine St.go h7 ?_;clear h7 a7;refine so hg3 rfl rfl rfl rfl ?_;refine so hg3 rfl rfl rfl rfl ?_;refine so hg3 rfl rfl rfl rfl ?_;refine sp trivial rfl rfl rfl ?_;refine St.nil fun a9 h9=>?_;refine hK6 _ _ ?_;refine fr_true (t:=13) h9 rfl ?_;refine wp_seq_k fun K10 hK10=>?_;refine rg h9 fun ops=>?_;clear h9 a9;refine sa trivial rfl rfl ?_;refine St.nil fun a11 h11=>?_;refine hK10 _ _ ?_;refine wp_ret ?_;with_reducible repeat first | refine of_then_ret ?_ | refine of_block_ret ?_
   have R:x.form bl=3:=by
    rw [endForm_eq];generalize x.yes.form bl (x.op != 3)=yv;generalize x.no.form bl (x.op==2)=zv;first | (simp [hc8];done) | (exfalso;have:=hc8;omega)
   exact ret_tmp (t:=4) h11 rfl rfl ⟨by rw [R],hW3.bel⟩
  rw [hb] at h7;have hc12:¬ (x.op<1):=of_decide_eq_false hb;clear hb;refine St.go h7 ?_;clear h7 a7;refine sfEnd0 ⟨_,hg3,rfl,rfl⟩ rfl rfl ?_;refine sbInt 0 hW3 ⟨_,hg3,rfl,rfl⟩ rfl rfl rfl rfl ?_;refine sgt ⟨_,hg3,rfl,rfl⟩ rfl rfl rfl ?_;refine spf trivial rfl rfl rfl ?_;refine St.nil fun a13 h13=>?_;refine hK6 _ _ ?_;refine fr_cond (t:=13) h13 rfl (fun hb=>?_) (fun hb=>?_)
  ·have hc14:3<x.op:=of_decide_eq_true hb
   clear hb;refine wp_seq_k fun K15 hK15=>?_;refine rg h13 fun ops=>?_;clear h13 a13;refine sa trivial rfl rfl ?_;refine St.nil fun a16 h16=>?_;refine hK15 _ _ ?_;refine wp_ret ?_;with_reducible repeat first | refine of_then_ret ?_ | refine of_block_ret ?_
   have R:x.form bl=3:=by
    rw [endForm_eq];generalize x.yes.form bl (x.op != 3)=yv;generalize x.no.form bl (x.op==2)=zv;first | (simp [hc12,hc14];done) | (exfalso;have:=hc12;have:=hc14;omega)
   exact ret_tmp (t:=4) h16 rfl rfl ⟨by rw [R],hW3.bel⟩
  have hc17:¬ (3<x.op):=of_decide_eq_false hb;clear hb;refine wp_skip ?_;refine hK5 _ _ ?_;refine wp_seq_k fun K18 hK18=>?_;refine wp_seq_k fun K19 hK19=>?_;refine fr_region ?_;intro ops hops;have hg3:(ops[3]?).bind (fun o:Oper=>o.dst)=some 17:=hops 3;have hg8:(ops[8]?).bind (fun o:Oper=>o.dst)=some 22:=hops 8;have hg13:(ops[13]?).bind (fun o:Oper=>o.dst)=some 27:=hops 13;clear hops;refine St.go h13 ?_;clear h13 a13;refine sfEnd1 trivial rfl rfl ?_;refine sbInt 0 hW3 trivial rfl rfl rfl rfl ?_;refine sne trivial rfl rfl rfl ?_;refine sm trivial rfl rfl ?_;intro a20 h20;rcases Bool.eq_false_or_eq_true (x.a != 0) with hb | hb
  ·rw [hb] at h20
   have h9:¬ x.a=0:=bne_iff_ne.1 hb;have hc21:¬ x.a=0:=h9;clear h9;clear hb;refine St.go h20 ?_;clear h20 a20;refine sfEnd0 ⟨_,hg3,rfl,rfl⟩ rfl rfl ?_;refine sbInt 0 hW3 ⟨_,hg3,rfl,rfl⟩ rfl rfl rfl rfl ?_;refine sne ⟨_,hg3,rfl,rfl⟩ rfl rfl rfl ?_;refine sp trivial rfl rfl rfl ?_;refine sm trivial rfl rfl ?_;intro a22 h22;rcases Bool.eq_false_or_eq_true (x.op != 2) with hb | hb
   ·rw [hb] at h22
    have h9:¬ x.op=2:=bne_iff_ne.1 hb;have hc23:¬ x.op=2:=h9;clear h9;clear hb;refine St.go h22 ?_;clear h22 a22;refine so hg8 rfl rfl rfl rfl ?_;refine so hg8 rfl rfl rfl rfl ?_;refine so hg8 rfl rfl rfl rfl ?_;refine so hg8 rfl rfl rfl rfl ?_;refine so hg8 rfl rfl rfl rfl ?_;refine so hg13 rfl rfl rfl rfl ?_;refine so hg13 rfl rfl rfl rfl ?_;refine so hg13 rfl rfl rfl rfl ?_;refine so hg8 rfl rfl rfl rfl ?_;refine sp trivial rfl rfl rfl ?_;refine St.nil fun a24 h24=>?_;refine hK19 _ _ ?_;refine fr_true (t:=32) h24 rfl ?_;refine wp_seq_k fun K25 hK25=>?_;refine rg h24 fun ops=>?_;clear h24 a24;refine sa trivial rfl rfl ?_;refine St.nil fun a26 h26=>?_;refine hK25 _ _ ?_;refine wp_ret ?_;with_reducible repeat first | refine of_then_ret ?_ | refine of_block_ret ?_
    have R:x.form bl=4:=by
     rw [endForm_eq];generalize x.yes.form bl (x.op != 3)=yv;generalize x.no.form bl (x.op==2)=zv;first | (simp [hc12,hc17,hc21,hc23];done) | (exfalso;have:=hc12;have:=hc17;have:=hc21;have:=hc23;omega)
    exact ret_tmp (t:=4) h26 rfl rfl ⟨by rw [R],hW3.bel⟩
   rw [hb] at h22;have h9:x.op=2:=bne_eq_false_iff_eq.1 hb;have hc27:Hid (x.op=2):=h9;clear h9;clear hb;refine St.go h22 ?_;clear h22 a22;refine sfEnd4 ⟨_,hg8,rfl,rfl⟩ rfl rfl ?_;refine sbInts 0 hW3 ⟨_,hg8,rfl,rfl⟩ rfl rfl rfl rfl ?_;refine slInts ⟨_,hg8,rfl,rfl⟩ rfl rfl ?_;refine sgt ⟨_,hg8,rfl,rfl⟩ rfl rfl rfl ?_;refine sm ⟨_,hg8,rfl,rfl⟩ rfl rfl ?_;intro a28 h28;rcases Bool.eq_false_or_eq_true (decide (0<(x.args.length:Int))) with hb | hb
   ·rw [hb] at h28
    have hc29:0<x.args.length:=by have:=of_decide_eq_true hb;omega
    clear hb;refine St.go h28 ?_;clear h28 a28;refine sfEnd0 ⟨_,hg13,rfl,rfl⟩ rfl rfl ?_;refine sbInt 0 hW3 ⟨_,hg13,rfl,rfl⟩ rfl rfl rfl rfl ?_;refine sne ⟨_,hg13,rfl,rfl⟩ rfl rfl rfl ?_;refine sp ⟨_,hg8,rfl,rfl⟩ rfl rfl rfl ?_;refine spf trivial rfl rfl rfl ?_;refine St.nil fun a30 h30=>?_;refine hK19 _ _ ?_;refine fr_cond (t:=32) h30 rfl (fun hb=>?_) (fun hb=>?_)
    ·have h9:¬ x.op=3:=bne_iff_ne.1 hb
     have hc31:¬ x.op=3:=h9;clear h9;clear hb;refine wp_seq_k fun K32 hK32=>?_;refine rg h30 fun ops=>?_;clear h30 a30;refine sa trivial rfl rfl ?_;refine St.nil fun a33 h33=>?_;refine hK32 _ _ ?_;refine wp_ret ?_;with_reducible repeat first | refine of_then_ret ?_ | refine of_block_ret ?_
     have R:x.form bl=4:=by
      rw [endForm_eq];generalize x.yes.form bl (x.op != 3)=yv;generalize x.no.form bl (x.op==2)=zv;first | (simp [hc12,hc17,hc21,hc27.out,hc29,hc31];done) | (exfalso;have:=hc12;have:=hc17;have:=hc21;have:=hc27.out;have:=hc29;have:=hc31;omega)
     exact ret_tmp (t:=4) h33 rfl rfl ⟨by rw [R],hW3.bel⟩
    have h9:x.op=3:=bne_eq_false_iff_eq.1 hb;have hc34:Hid (x.op=3):=h9;clear h9;clear hb;refine wp_skip ?_;refine hK18 _ _ ?_;refine wp_seq_k fun K35 hK35=>?_;refine wp_seq_k fun K36 hK36=>?_;refine rg h30 fun ops=>?_;clear h30 a30;refine sfEnd4 trivial rfl rfl ?_;refine sbInts 0 hW3 trivial rfl rfl rfl rfl ?_;refine slInts trivial rfl rfl ?_;refine sgt trivial rfl rfl rfl ?_;refine St.nil fun a37 h37=>?_;refine hK36 _ _ ?_;refine fr_cond (t:=36) h37 rfl (fun hb=>?_) (fun hb=>?_)
    ·have hc38:8<x.args.length:=by have:=of_decide_eq_true hb;omega
     clear hb;refine wp_seq_k fun K39 hK39=>?_;refine rg h37 fun ops=>?_;clear h37 a37;refine sa trivial rfl rfl ?_;refine St.nil fun a40 h40=>?_;refine hK39 _ _ ?_;refine wp_ret ?_;with_reducible repeat first | refine of_then_ret ?_ | refine of_block_ret ?_
     have R:x.form bl=2:=by
      rw [endForm_eq];generalize x.yes.form bl (x.op != 3)=yv;generalize x.no.form bl (x.op==2)=zv;first | (simp [hc12,hc17,hc21,hc27.out,hc29,hc34.out,hc38];done) | (exfalso;have:=hc12;have:=hc17;have:=hc21;have:=hc27.out;have:=hc29;have:=hc34.out;have:=hc38;omega)
     exact ret_tmp (t:=4) h40 rfl rfl ⟨by rw [R],hW3.bel⟩
    have hc41:¬ (8<x.args.length):=by have:=of_decide_eq_false hb;omega
    clear hb;refine wp_skip ?_;refine hK35 _ _ ?_;refine wp_seq_k fun K42 hK42=>?_;refine wp_seq_k fun K43 hK43=>?_;refine rg h37 fun ops=>?_;clear h37 a37;refine sS 1 4 Tryz.underlying40 rfl infFunc hW3 trivial rfl rfl rfl rfl ?_;refine sfEnd2 trivial rfl rfl ?_;refine sS 0 3 Tryz.underlying56 rfl infTo hW3 trivial rfl rfl rfl rfl ?_;refine sfEnd0 trivial rfl rfl ?_;refine sbInt 0 hW3 trivial rfl rfl rfl rfl ?_;refine sne trivial rfl rfl rfl ?_;refine sc_3 cf124 hW3 (toForm_any (x.op != 3) hs.1 hs.2.1 hbl) trivial rfl rfl rfl rfl ?_;clear hW3;intro w44 hW44;refine sa trivial rfl rfl ?_;refine St.nil fun a45 h45=>?_;refine hK43 _ _ ?_;refine wp_seq_k fun K46 hK46=>?_;refine rg h45 fun ops=>?_;clear h45 a45;refine sm trivial rfl rfl ?_;refine sne trivial rfl rfl rfl ?_;refine St.nil fun a47 h47=>?_;refine hK46 _ _ ?_;refine fr_cond (t:=45) h47 rfl (fun hb=>?_) (fun hb=>?_)
    ·have h9:¬ (x.yes.form bl (x.op != 3))=0:=bne_iff_ne.1 hb
     have hc48:¬ (x.yes.form bl (x.op != 3))=0:=h9;clear h9;clear hb;refine wp_seq_k fun K49 hK49=>?_;refine rg h47 fun ops=>?_;clear h47 a47;refine sm trivial rfl rfl ?_;refine sa trivial rfl rfl ?_;refine St.nil fun a50 h50=>?_;refine hK49 _ _ ?_;refine wp_ret ?_;with_reducible repeat first | refine of_then_ret ?_ | refine of_block_ret ?_
     have R:x.form bl=x.yes.form bl (x.op != 3):=by
      rw [endForm_eq];have hY:=hc48;generalize x.yes.form bl (x.op != 3)=yv at hY ⊢;generalize x.no.form bl (x.op==2)=zv;first | (simp [hc12,hc17,hc21,hc27.out,hc29,hc34.out,hc41,hY];done) | (exfalso;have:=hc12;have:=hc17;have:=hc21;have:=hc27.out;have:=hc29;have:=hc34.out;have:=hc41;omega)
     exact ret_tmp (t:=4) h50 rfl rfl ⟨by rw [R],hW44.bel⟩
    have h9:(x.yes.form bl (x.op != 3))=0:=bne_eq_false_iff_eq.1 hb;have hc51:Hid ((x.yes.form bl (x.op != 3))=0):=h9;clear h9;clear hb;refine wp_skip ?_;refine hK42 _ _ ?_;refine wp_seq_k fun K52 hK52=>?_;refine rg h47 fun ops=>?_;clear h47 a47;refine sS 1 4 Tryz.underlying40 rfl infFunc hW44 trivial rfl rfl rfl rfl ?_;refine sfEnd3 trivial rfl rfl ?_;refine sS 0 3 Tryz.underlying56 rfl infTo hW44 trivial rfl rfl rfl rfl ?_;refine sfEnd0 trivial rfl rfl ?_;refine sbInt 0 hW44 trivial rfl rfl rfl rfl ?_;refine seq trivial rfl rfl rfl ?_;refine sc_3 cf124 hW44 (toForm_any (x.op==2) hs.2.2.1 hs.2.2.2 hbl) trivial rfl rfl rfl rfl ?_;clear hW44;intro w53 hW53;refine sa trivial rfl rfl ?_;refine St.nil fun a54 h54=>?_;refine hK52 _ _ ?_;refine wp_ret ?_;with_reducible repeat first | refine of_then_ret ?_ | refine of_block_ret ?_
    have R:x.form bl=x.no.form bl (x.op==2):=by
     rw [endForm_eq];have hY:=hc51.out;generalize x.yes.form bl (x.op != 3)=yv at hY ⊢;generalize x.no.form bl (x.op==2)=zv;first | (simp [hc12,hc17,hc21,hc27.out,hc29,hc34.out,hc41,hY];done) | (exfalso;have:=hc12;have:=hc17;have:=hc21;have:=hc27.out;have:=hc29;have:=hc34.out;have:=hc41;omega)
    exact ret_tmp (t:=4) h54 rfl rfl ⟨by rw [R],hW53.bel⟩
   rw [hb] at h28;have hc55:¬ (0<x.args.length):=by have:=of_decide_eq_false hb;omega
   clear hb;refine St.go h28 ?_;clear h28 a28;refine so hg13 rfl rfl rfl rfl ?_;refine so hg13 rfl rfl rfl rfl ?_;refine so hg13 rfl rfl rfl rfl ?_;refine spf ⟨_,hg8,rfl,rfl⟩ rfl rfl rfl ?_;refine spf trivial rfl rfl rfl ?_;refine St.nil fun a56 h56=>?_;refine hK19 _ _ ?_;refine fr_false (t:=32) h56 rfl ?_;refine wp_skip ?_;refine hK18 _ _ ?_;refine wp_seq_k fun K57 hK57=>?_;refine wp_seq_k fun K58 hK58=>?_;refine rg h56 fun ops=>?_;clear h56 a56;refine sfEnd4 trivial rfl rfl ?_;refine sbInts 0 hW3 trivial rfl rfl rfl rfl ?_;refine slInts trivial rfl rfl ?_;refine sgt trivial rfl rfl rfl ?_;refine St.nil fun a59 h59=>?_;refine hK58 _ _ ?_;refine fr_cond (t:=36) h59 rfl (fun hb=>?_) (fun hb=>?_)
   ·have hc60:8<x.args.length:=by have:=of_decide_eq_true hb;omega
    clear hb;refine wp_seq_k fun K61 hK61=>?_;refine rg h59 fun ops=>?_;clear h59 a59;refine sa trivial rfl rfl ?_;refine St.nil fun a62 h62=>?_;refine hK61 _ _ ?_;refine wp_ret ?_;with_reducible repeat first | refine of_then_ret ?_ | refine of_block_ret ?_
    have R:x.form bl=2:=by
     rw [endForm_eq];generalize x.yes.form bl (x.op != 3)=yv;generalize x.no.form bl (x.op==2)=zv;first | (simp [hc12,hc17,hc21,hc27.out,hc55,hc60];done) | (exfalso;have:=hc12;have:=hc17;have:=hc21;have:=hc27.out;have:=hc55;have:=hc60;omega)
    exact ret_tmp (t:=4) h62 rfl rfl ⟨by rw [R],hW3.bel⟩
   have hc63:¬ (8<x.args.length):=by have:=of_decide_eq_false hb;omega
   clear hb;refine wp_skip ?_;refine hK57 _ _ ?_;refine wp_seq_k fun K64 hK64=>?_;refine wp_seq_k fun K65 hK65=>?_;refine rg h59 fun ops=>?_;clear h59 a59;refine sS 1 4 Tryz.underlying40 rfl infFunc hW3 trivial rfl rfl rfl rfl ?_;refine sfEnd2 trivial rfl rfl ?_;refine sS 0 3 Tryz.underlying56 rfl infTo hW3 trivial rfl rfl rfl rfl ?_;refine sfEnd0 trivial rfl rfl ?_;refine sbInt 0 hW3 trivial rfl rfl rfl rfl ?_;refine sne trivial rfl rfl rfl ?_;refine sc_3 cf124 hW3 (toForm_any (x.op != 3) hs.1 hs.2.1 hbl) trivial rfl rfl rfl rfl ?_;clear hW3;intro w66 hW66;refine sa trivial rfl rfl ?_;refine St.nil fun a67 h67=>?_;refine hK65 _ _ ?_;refine wp_seq_k fun K68 hK68=>?_;refine rg h67 fun ops=>?_;clear h67 a67;refine sm trivial rfl rfl ?_;refine sne trivial rfl rfl rfl ?_;refine St.nil fun a69 h69=>?_;refine hK68 _ _ ?_;refine fr_cond (t:=45) h69 rfl (fun hb=>?_) (fun hb=>?_)
   ·have h9:¬ (x.yes.form bl (x.op != 3))=0:=bne_iff_ne.1 hb
    have hc70:¬ (x.yes.form bl (x.op != 3))=0:=h9;clear h9;clear hb;refine wp_seq_k fun K71 hK71=>?_;refine rg h69 fun ops=>?_;clear h69 a69;refine sm trivial rfl rfl ?_;refine sa trivial rfl rfl ?_;refine St.nil fun a72 h72=>?_;refine hK71 _ _ ?_;refine wp_ret ?_;with_reducible repeat first | refine of_then_ret ?_ | refine of_block_ret ?_
    have R:x.form bl=x.yes.form bl (x.op != 3):=by
     rw [endForm_eq];have hY:=hc70;generalize x.yes.form bl (x.op != 3)=yv at hY ⊢;generalize x.no.form bl (x.op==2)=zv;first | (simp [hc12,hc17,hc21,hc27.out,hc55,hc63,hY];done) | (exfalso;have:=hc12;have:=hc17;have:=hc21;have:=hc27.out;have:=hc55;have:=hc63;omega)
    exact ret_tmp (t:=4) h72 rfl rfl ⟨by rw [R],hW66.bel⟩
   have h9:(x.yes.form bl (x.op != 3))=0:=bne_eq_false_iff_eq.1 hb;have hc73:Hid ((x.yes.form bl (x.op != 3))=0):=h9;clear h9;clear hb;refine wp_skip ?_;refine hK64 _ _ ?_;refine wp_seq_k fun K74 hK74=>?_;refine rg h69 fun ops=>?_;clear h69 a69;refine sS 1 4 Tryz.underlying40 rfl infFunc hW66 trivial rfl rfl rfl rfl ?_;refine sfEnd3 trivial rfl rfl ?_;refine sS 0 3 Tryz.underlying56 rfl infTo hW66 trivial rfl rfl rfl rfl ?_;refine sfEnd0 trivial rfl rfl ?_;refine sbInt 0 hW66 trivial rfl rfl rfl rfl ?_;refine seq trivial rfl rfl rfl ?_;refine sc_3 cf124 hW66 (toForm_any (x.op==2) hs.2.2.1 hs.2.2.2 hbl) trivial rfl rfl rfl rfl ?_;clear hW66;intro w75 hW75;refine sa trivial rfl rfl ?_;refine St.nil fun a76 h76=>?_;refine hK74 _ _ ?_;refine wp_ret ?_;with_reducible repeat first | refine of_then_ret ?_ | refine of_block_ret ?_
   have R:x.form bl=x.no.form bl (x.op==2):=by
    rw [endForm_eq];have hY:=hc73.out;generalize x.yes.form bl (x.op != 3)=yv at hY ⊢;generalize x.no.form bl (x.op==2)=zv;first | (simp [hc12,hc17,hc21,hc27.out,hc55,hc63,hY];done) | (exfalso;have:=hc12;have:=hc17;have:=hc21;have:=hc27.out;have:=hc55;have:=hc63;omega)
   exact ret_tmp (t:=4) h76 rfl rfl ⟨by rw [R],hW75.bel⟩
  rw [hb] at h20;have h9:x.a=0:=bne_eq_false_iff_eq.1 hb;have hc77:Hid (x.a=0):=h9;clear h9;clear hb;refine St.go h20 ?_;clear h20 a20;refine so hg3 rfl rfl rfl rfl ?_;refine so hg3 rfl rfl rfl rfl ?_;refine so hg3 rfl rfl rfl rfl ?_;refine spf trivial rfl rfl rfl ?_;refine sm trivial rfl rfl ?_;refine sfEnd4 ⟨_,hg8,rfl,rfl⟩ rfl rfl ?_;refine sbInts 0 hW3 ⟨_,hg8,rfl,rfl⟩ rfl rfl rfl rfl ?_;refine slInts ⟨_,hg8,rfl,rfl⟩ rfl rfl ?_;refine sgt ⟨_,hg8,rfl,rfl⟩ rfl rfl rfl ?_;refine sm ⟨_,hg8,rfl,rfl⟩ rfl rfl ?_;intro a78 h78;rcases Bool.eq_false_or_eq_true (decide (0<(x.args.length:Int))) with hb | hb
  ·rw [hb] at h78
   have hc79:0<x.args.length:=by have:=of_decide_eq_true hb;omega
   clear hb;refine St.go h78 ?_;clear h78 a78;refine sfEnd0 ⟨_,hg13,rfl,rfl⟩ rfl rfl ?_;refine sbInt 0 hW3 ⟨_,hg13,rfl,rfl⟩ rfl rfl rfl rfl ?_;refine sne ⟨_,hg13,rfl,rfl⟩ rfl rfl rfl ?_;refine sp ⟨_,hg8,rfl,rfl⟩ rfl rfl rfl ?_;refine spf trivial rfl rfl rfl ?_;refine St.nil fun a80 h80=>?_;refine hK19 _ _ ?_;refine fr_cond (t:=32) h80 rfl (fun hb=>?_) (fun hb=>?_)
   ·have h9:¬ x.op=3:=bne_iff_ne.1 hb
    have hc81:¬ x.op=3:=h9;clear h9;clear hb;refine wp_seq_k fun K82 hK82=>?_;refine rg h80 fun ops=>?_;clear h80 a80;refine sa trivial rfl rfl ?_;refine St.nil fun a83 h83=>?_;refine hK82 _ _ ?_;refine wp_ret ?_;with_reducible repeat first | refine of_then_ret ?_ | refine of_block_ret ?_
    have R:x.form bl=4:=by
     rw [endForm_eq];generalize x.yes.form bl (x.op != 3)=yv;generalize x.no.form bl (x.op==2)=zv;first | (simp [hc12,hc17,hc77.out,hc79,hc81];done) | (exfalso;have:=hc12;have:=hc17;have:=hc77.out;have:=hc79;have:=hc81;omega)
    exact ret_tmp (t:=4) h83 rfl rfl ⟨by rw [R],hW3.bel⟩
   have h9:x.op=3:=bne_eq_false_iff_eq.1 hb;have hc84:Hid (x.op=3):=h9;clear h9;clear hb;refine wp_skip ?_;refine hK18 _ _ ?_;refine wp_seq_k fun K85 hK85=>?_;refine wp_seq_k fun K86 hK86=>?_;refine rg h80 fun ops=>?_;clear h80 a80;refine sfEnd4 trivial rfl rfl ?_;refine sbInts 0 hW3 trivial rfl rfl rfl rfl ?_;refine slInts trivial rfl rfl ?_;refine sgt trivial rfl rfl rfl ?_;refine St.nil fun a87 h87=>?_;refine hK86 _ _ ?_;refine fr_cond (t:=36) h87 rfl (fun hb=>?_) (fun hb=>?_)
   ·have hc88:8<x.args.length:=by have:=of_decide_eq_true hb;omega
    clear hb;refine wp_seq_k fun K89 hK89=>?_;refine rg h87 fun ops=>?_;clear h87 a87;refine sa trivial rfl rfl ?_;refine St.nil fun a90 h90=>?_;refine hK89 _ _ ?_;refine wp_ret ?_;with_reducible repeat first | refine of_then_ret ?_ | refine of_block_ret ?_
    have R:x.form bl=2:=by
     rw [endForm_eq];generalize x.yes.form bl (x.op != 3)=yv;generalize x.no.form bl (x.op==2)=zv;first | (simp [hc12,hc17,hc77.out,hc79,hc84.out,hc88];done) | (exfalso;have:=hc12;have:=hc17;have:=hc77.out;have:=hc79;have:=hc84.out;have:=hc88;omega)
    exact ret_tmp (t:=4) h90 rfl rfl ⟨by rw [R],hW3.bel⟩
   have hc91:¬ (8<x.args.length):=by have:=of_decide_eq_false hb;omega
   clear hb;refine wp_skip ?_;refine hK85 _ _ ?_;refine wp_seq_k fun K92 hK92=>?_;refine wp_seq_k fun K93 hK93=>?_;refine rg h87 fun ops=>?_;clear h87 a87;refine sS 1 4 Tryz.underlying40 rfl infFunc hW3 trivial rfl rfl rfl rfl ?_;refine sfEnd2 trivial rfl rfl ?_;refine sS 0 3 Tryz.underlying56 rfl infTo hW3 trivial rfl rfl rfl rfl ?_;refine sfEnd0 trivial rfl rfl ?_;refine sbInt 0 hW3 trivial rfl rfl rfl rfl ?_;refine sne trivial rfl rfl rfl ?_;refine sc_3 cf124 hW3 (toForm_any (x.op != 3) hs.1 hs.2.1 hbl) trivial rfl rfl rfl rfl ?_;clear hW3;intro w94 hW94;refine sa trivial rfl rfl ?_;refine St.nil fun a95 h95=>?_;refine hK93 _ _ ?_;refine wp_seq_k fun K96 hK96=>?_;refine rg h95 fun ops=>?_;clear h95 a95;refine sm trivial rfl rfl ?_;refine sne trivial rfl rfl rfl ?_;refine St.nil fun a97 h97=>?_;refine hK96 _ _ ?_;refine fr_cond (t:=45) h97 rfl (fun hb=>?_) (fun hb=>?_)
   ·have h9:¬ (x.yes.form bl (x.op != 3))=0:=bne_iff_ne.1 hb
    have hc98:¬ (x.yes.form bl (x.op != 3))=0:=h9;clear h9;clear hb;refine wp_seq_k fun K99 hK99=>?_;refine rg h97 fun ops=>?_;clear h97 a97;refine sm trivial rfl rfl ?_;refine sa trivial rfl rfl ?_;refine St.nil fun a100 h100=>?_;refine hK99 _ _ ?_;refine wp_ret ?_;with_reducible repeat first | refine of_then_ret ?_ | refine of_block_ret ?_
    have R:x.form bl=x.yes.form bl (x.op != 3):=by
     rw [endForm_eq];have hY:=hc98;generalize x.yes.form bl (x.op != 3)=yv at hY ⊢;generalize x.no.form bl (x.op==2)=zv;first | (simp [hc12,hc17,hc77.out,hc79,hc84.out,hc91,hY];done) | (exfalso;have:=hc12;have:=hc17;have:=hc77.out;have:=hc79;have:=hc84.out;have:=hc91;omega)
    exact ret_tmp (t:=4) h100 rfl rfl ⟨by rw [R],hW94.bel⟩
   have h9:(x.yes.form bl (x.op != 3))=0:=bne_eq_false_iff_eq.1 hb;have hc101:Hid ((x.yes.form bl (x.op != 3))=0):=h9;clear h9;clear hb;refine wp_skip ?_;refine hK92 _ _ ?_;refine wp_seq_k fun K102 hK102=>?_;refine rg h97 fun ops=>?_;clear h97 a97;refine sS 1 4 Tryz.underlying40 rfl infFunc hW94 trivial rfl rfl rfl rfl ?_;refine sfEnd3 trivial rfl rfl ?_;refine sS 0 3 Tryz.underlying56 rfl infTo hW94 trivial rfl rfl rfl rfl ?_;refine sfEnd0 trivial rfl rfl ?_;refine sbInt 0 hW94 trivial rfl rfl rfl rfl ?_;refine seq trivial rfl rfl rfl ?_;refine sc_3 cf124 hW94 (toForm_any (x.op==2) hs.2.2.1 hs.2.2.2 hbl) trivial rfl rfl rfl rfl ?_;clear hW94;intro w103 hW103;refine sa trivial rfl rfl ?_;refine St.nil fun a104 h104=>?_;refine hK102 _ _ ?_;refine wp_ret ?_;with_reducible repeat first | refine of_then_ret ?_ | refine of_block_ret ?_
   have R:x.form bl=x.no.form bl (x.op==2):=by
    rw [endForm_eq];have hY:=hc101.out;generalize x.yes.form bl (x.op != 3)=yv at hY ⊢;generalize x.no.form bl (x.op==2)=zv;first | (simp [hc12,hc17,hc77.out,hc79,hc84.out,hc91,hY];done) | (exfalso;have:=hc12;have:=hc17;have:=hc77.out;have:=hc79;have:=hc84.out;have:=hc91;omega)
   exact ret_tmp (t:=4) h104 rfl rfl ⟨by rw [R],hW103.bel⟩
  rw [hb] at h78;have hc105:¬ (0<x.args.length):=by have:=of_decide_eq_false hb;omega
  clear hb;refine St.go h78 ?_;clear h78 a78;refine so hg13 rfl rfl rfl rfl ?_;refine so hg13 rfl rfl rfl rfl ?_;refine so hg13 rfl rfl rfl rfl ?_;refine spf ⟨_,hg8,rfl,rfl⟩ rfl rfl rfl ?_;refine spf trivial rfl rfl rfl ?_;refine St.nil fun a106 h106=>?_;refine hK19 _ _ ?_;refine fr_false (t:=32) h106 rfl ?_;refine wp_skip ?_;refine hK18 _ _ ?_;refine wp_seq_k fun K107 hK107=>?_;refine wp_seq_k fun K108 hK108=>?_;refine rg h106 fun ops=>?_;clear h106 a106;refine sfEnd4 trivial rfl rfl ?_;refine sbInts 0 hW3 trivial rfl rfl rfl rfl ?_;refine slInts trivial rfl rfl ?_;refine sgt trivial rfl rfl rfl ?_;refine St.nil fun a109 h109=>?_;refine hK108 _ _ ?_;refine fr_cond (t:=36) h109 rfl (fun hb=>?_) (fun hb=>?_)
  ·have hc110:8<x.args.length:=by have:=of_decide_eq_true hb;omega
   clear hb;refine wp_seq_k fun K111 hK111=>?_;refine rg h109 fun ops=>?_;clear h109 a109;refine sa trivial rfl rfl ?_;refine St.nil fun a112 h112=>?_;refine hK111 _ _ ?_;refine wp_ret ?_;with_reducible repeat first | refine of_then_ret ?_ | refine of_block_ret ?_
   have R:x.form bl=2:=by
    rw [endForm_eq];generalize x.yes.form bl (x.op != 3)=yv;generalize x.no.form bl (x.op==2)=zv;first | (simp [hc12,hc17,hc77.out,hc105,hc110];done) | (exfalso;have:=hc12;have:=hc17;have:=hc77.out;have:=hc105;have:=hc110;omega)
   exact ret_tmp (t:=4) h112 rfl rfl ⟨by rw [R],hW3.bel⟩
  have hc113:¬ (8<x.args.length):=by have:=of_decide_eq_false hb;omega
  clear hb;refine wp_skip ?_;refine hK107 _ _ ?_;refine wp_seq_k fun K114 hK114=>?_;refine wp_seq_k fun K115 hK115=>?_;refine rg h109 fun ops=>?_;clear h109 a109;refine sS 1 4 Tryz.underlying40 rfl infFunc hW3 trivial rfl rfl rfl rfl ?_;refine sfEnd2 trivial rfl rfl ?_;refine sS 0 3 Tryz.underlying56 rfl infTo hW3 trivial rfl rfl rfl rfl ?_;refine sfEnd0 trivial rfl rfl ?_;refine sbInt 0 hW3 trivial rfl rfl rfl rfl ?_;refine sne trivial rfl rfl rfl ?_;refine sc_3 cf124 hW3 (toForm_any (x.op != 3) hs.1 hs.2.1 hbl) trivial rfl rfl rfl rfl ?_;clear hW3;intro w116 hW116;refine sa trivial rfl rfl ?_;refine St.nil fun a117 h117=>?_;refine hK115 _ _ ?_;refine wp_seq_k fun K118 hK118=>?_;refine rg h117 fun ops=>?_;clear h117 a117;refine sm trivial rfl rfl ?_;refine sne trivial rfl rfl rfl ?_;refine St.nil fun a119 h119=>?_;refine hK118 _ _ ?_;refine fr_cond (t:=45) h119 rfl (fun hb=>?_) (fun hb=>?_)
  ·have h9:¬ (x.yes.form bl (x.op != 3))=0:=bne_iff_ne.1 hb
   have hc120:¬ (x.yes.form bl (x.op != 3))=0:=h9;clear h9;clear hb;refine wp_seq_k fun K121 hK121=>?_;refine rg h119 fun ops=>?_;clear h119 a119;refine sm trivial rfl rfl ?_;refine sa trivial rfl rfl ?_;refine St.nil fun a122 h122=>?_;refine hK121 _ _ ?_;refine wp_ret ?_;with_reducible repeat first | refine of_then_ret ?_ | refine of_block_ret ?_
   have R:x.form bl=x.yes.form bl (x.op != 3):=by
    rw [endForm_eq];have hY:=hc120;generalize x.yes.form bl (x.op != 3)=yv at hY ⊢;generalize x.no.form bl (x.op==2)=zv;first | (simp [hc12,hc17,hc77.out,hc105,hc113,hY];done) | (exfalso;have:=hc12;have:=hc17;have:=hc77.out;have:=hc105;have:=hc113;omega)
   exact ret_tmp (t:=4) h122 rfl rfl ⟨by rw [R],hW116.bel⟩
  have h9:(x.yes.form bl (x.op != 3))=0:=bne_eq_false_iff_eq.1 hb;have hc123:Hid ((x.yes.form bl (x.op != 3))=0):=h9;clear h9;clear hb;refine wp_skip ?_;refine hK114 _ _ ?_;refine wp_seq_k fun K124 hK124=>?_;refine rg h119 fun ops=>?_;clear h119 a119;refine sS 1 4 Tryz.underlying40 rfl infFunc hW116 trivial rfl rfl rfl rfl ?_;refine sfEnd3 trivial rfl rfl ?_;refine sS 0 3 Tryz.underlying56 rfl infTo hW116 trivial rfl rfl rfl rfl ?_;refine sfEnd0 trivial rfl rfl ?_;refine sbInt 0 hW116 trivial rfl rfl rfl rfl ?_;refine seq trivial rfl rfl rfl ?_;refine sc_3 cf124 hW116 (toForm_any (x.op==2) hs.2.2.1 hs.2.2.2 hbl) trivial rfl rfl rfl rfl ?_;clear hW116;intro w125 hW125;refine sa trivial rfl rfl ?_;refine St.nil fun a126 h126=>?_;refine hK124 _ _ ?_;refine wp_ret ?_;with_reducible repeat first | refine of_then_ret ?_ | refine of_block_ret ?_
  have R:x.form bl=x.no.form bl (x.op==2):=by
   rw [endForm_eq];have hY:=hc123.out;generalize x.yes.form bl (x.op != 3)=yv at hY ⊢;generalize x.no.form bl (x.op==2)=zv;first | (simp [hc12,hc17,hc77.out,hc105,hc113,hY];done) | (exfalso;have:=hc12;have:=hc17;have:=hc77.out;have:=hc105;have:=hc113;omega)
  exact ret_tmp (t:=4) h126 rfl rfl ⟨by rw [R],hW125.bel⟩
theorem wrap_small (x : Int) (h : -4611686018427387904 ≤ x ∧ x < 4611686018427387904) : IntKind.i64.wrap x = x := by
  by_cases hx:0≤x
  · have e1:x % 2 ^ 64=x:=by omega
    simp only [IntKind.wrap,IntKind.signed,IntKind.bits,e1,Bool.true_and];rw [if_neg (by simp only [decide_eq_true_eq];omega)]
  · have e1:x % 2 ^ 64=x+2 ^ 64:=by omega
    simp only [IntKind.wrap,IntKind.signed,IntKind.bits,e1,Bool.true_and];rw [if_pos (by simp only [decide_eq_true_eq];omega)];omega
theorem atFunc_any {f : Nat} {w : World} (h : f < 1000000) :
    Rd Tryz.prog 48 #[.int .i64 (f:Int)] w (.int .i64 (10000*(f:Int)+9999)):=by
  refine fr_enter (n:=6) Tryz.func48 rfl rfl rfl ?_;intro a hF;have hW:=Wd.start w;replace hF:Fr 6 a [(0,.int .i64 (f:Int))]:=hF;refine wp_seq_k fun K1 hK1=>?_;refine rg hF fun ops=>?_;clear hF a;refine sa trivial rfl rfl ?_;refine St.nil fun a2 h2=>?_;refine hK1 _ _ ?_;refine wp_seq_k fun K3 hK3=>?_;refine rg h2 fun ops=>?_;clear h2 a2;refine sm trivial rfl rfl ?_;intro a4 h4;refine fr_pure (t:=4) (v:=.int .i64 (10000*(f:Int))) (w':=w) h4 rfl rfl rfl (fun K hK=>?_) ?_
  ·have k0:a4.tmps.getD 3 undef=.int .i64 (f:Int):=h4.sl 3 _ rfl
   have hwr:IntKind.i64.wrap (10000*(f:Int))=10000*(f:Int):=wrap_small _ (by omega);go_simp;exact hK
  clear h4;intro a5 hF5;refine fr_pure (t:=5) (v:=.int .i64 ((10000*(f:Int))+9999)) (w':=w) hF5 rfl rfl rfl (fun K hK=>?_) ?_
  ·have k0:a5.tmps.getD 4 undef=.int .i64 (10000*(f:Int)):=hF5.sl 4 _ rfl
   have hwr:IntKind.i64.wrap ((10000*(f:Int))+9999)=(10000*(f:Int))+9999:=wrap_small _ (by omega);go_simp;exact hK
  clear hF5;intro a6 hF6;refine St.go hF6 ?_;clear hF6 a6;refine sa trivial rfl rfl ?_;refine St.nil fun a7 h7=>?_;refine hK3 _ _ ?_;refine wp_ret ?_;with_reducible repeat first | refine of_then_ret ?_ | refine of_block_ret ?_
  have R:10000*(f:Int)+9999=((10000*(f:Int))+9999):=by omega
  exact ret_tmp (t:=2) h7 rfl rfl ⟨by rw [R],hW.bel⟩
theorem atBlock_any {f b : Nat} {w : World} (h : f < 1000000 ∧ b < 1000000) :
    Rd Tryz.prog 21 #[.int .i64 (f:Int),.int .i64 (b:Int)] w (.int .i64 (10000*(f:Int)+100*(b:Int)+90)):=by
  refine fr_enter (n:=11) Tryz.func21 rfl rfl rfl ?_;intro a hF;have hW:=Wd.start w;replace hF:Fr 11 a [(0,.int .i64 (f:Int)),(1,.int .i64 (b:Int))]:=hF;refine wp_seq_k fun K1 hK1=>?_;refine rg hF fun ops=>?_;clear hF a;refine sa trivial rfl rfl ?_;refine St.nil fun a2 h2=>?_;refine hK1 _ _ ?_;refine wp_seq_k fun K3 hK3=>?_;refine rg h2 fun ops=>?_;clear h2 a2;refine sm trivial rfl rfl ?_;intro a4 h4;refine fr_pure (t:=6) (v:=.int .i64 (10000*(f:Int))) (w':=w) h4 rfl rfl rfl (fun K hK=>?_) ?_
  ·have k0:a4.tmps.getD 5 undef=.int .i64 (f:Int):=h4.sl 5 _ rfl
   have hwr:IntKind.i64.wrap (10000*(f:Int))=10000*(f:Int):=wrap_small _ (by omega);go_simp;exact hK
  clear h4;intro a5 hF5;refine St.go hF5 ?_;clear hF5 a5;refine sm trivial rfl rfl ?_;intro a6 h6;refine fr_pure (t:=8) (v:=.int .i64 (100*(b:Int))) (w':=w) h6 rfl rfl rfl (fun K hK=>?_) ?_
  ·have k0:a6.tmps.getD 7 undef=.int .i64 (b:Int):=h6.sl 7 _ rfl
   have hwr:IntKind.i64.wrap (100*(b:Int))=100*(b:Int):=wrap_small _ (by omega);go_simp;exact hK
  clear h6;intro a7 hF7;refine fr_pure (t:=9) (v:=.int .i64 ((10000*(f:Int))+(100*(b:Int)))) (w':=w) hF7 rfl rfl rfl (fun K hK=>?_) ?_
  ·have k0:a7.tmps.getD 6 undef=.int .i64 (10000*(f:Int)):=hF7.sl 6 _ rfl
   have k1:a7.tmps.getD 8 undef=.int .i64 (100*(b:Int)):=hF7.sl 8 _ rfl;have hwr:IntKind.i64.wrap ((10000*(f:Int))+(100*(b:Int)))=(10000*(f:Int))+(100*(b:Int)):=wrap_small _ (by omega);go_simp;exact hK
  clear hF7;intro a8 hF8;refine fr_pure (t:=10) (v:=.int .i64 (((10000*(f:Int))+(100*(b:Int)))+90)) (w':=w) hF8 rfl rfl rfl (fun K hK=>?_) ?_
  ·have k0:a8.tmps.getD 9 undef=.int .i64 ((10000*(f:Int))+(100*(b:Int))):=hF8.sl 9 _ rfl
   have hwr:IntKind.i64.wrap (((10000*(f:Int))+(100*(b:Int)))+90)=((10000*(f:Int))+(100*(b:Int)))+90:=wrap_small _ (by omega);go_simp;exact hK
  clear hF8;intro a9 hF9;refine St.go hF9 ?_;clear hF9 a9;refine sa trivial rfl rfl ?_;refine St.nil fun a10 h10=>?_;refine hK3 _ _ ?_;refine wp_ret ?_;with_reducible repeat first | refine of_then_ret ?_ | refine of_block_ret ?_
  have R:10000*(f:Int)+100*(b:Int)+90=(((10000*(f:Int))+(100*(b:Int)))+90):=by omega
  exact ret_tmp (t:=4) h10 rfl rfl ⟨by rw [R],hW.bel⟩
theorem atEnd_any {f b : Nat} {w : World} (h : f < 1000000 ∧ b < 1000000) :
    Rd Tryz.prog 46 #[.int .i64 (f:Int),.int .i64 (b:Int)] w (.int .i64 (10000*(f:Int)+100*(b:Int)+91)):=by
  refine fr_enter (n:=11) Tryz.func46 rfl rfl rfl ?_;intro a hF;have hW:=Wd.start w;replace hF:Fr 11 a [(0,.int .i64 (f:Int)),(1,.int .i64 (b:Int))]:=hF;refine wp_seq_k fun K1 hK1=>?_;refine rg hF fun ops=>?_;clear hF a;refine sa trivial rfl rfl ?_;refine St.nil fun a2 h2=>?_;refine hK1 _ _ ?_;refine wp_seq_k fun K3 hK3=>?_;refine rg h2 fun ops=>?_;clear h2 a2;refine sm trivial rfl rfl ?_;intro a4 h4;refine fr_pure (t:=6) (v:=.int .i64 (10000*(f:Int))) (w':=w) h4 rfl rfl rfl (fun K hK=>?_) ?_
  ·have k0:a4.tmps.getD 5 undef=.int .i64 (f:Int):=h4.sl 5 _ rfl
   have hwr:IntKind.i64.wrap (10000*(f:Int))=10000*(f:Int):=wrap_small _ (by omega);go_simp;exact hK
  clear h4;intro a5 hF5;refine St.go hF5 ?_;clear hF5 a5;refine sm trivial rfl rfl ?_;intro a6 h6;refine fr_pure (t:=8) (v:=.int .i64 (100*(b:Int))) (w':=w) h6 rfl rfl rfl (fun K hK=>?_) ?_
  ·have k0:a6.tmps.getD 7 undef=.int .i64 (b:Int):=h6.sl 7 _ rfl
   have hwr:IntKind.i64.wrap (100*(b:Int))=100*(b:Int):=wrap_small _ (by omega);go_simp;exact hK
  clear h6;intro a7 hF7;refine fr_pure (t:=9) (v:=.int .i64 ((10000*(f:Int))+(100*(b:Int)))) (w':=w) hF7 rfl rfl rfl (fun K hK=>?_) ?_
  ·have k0:a7.tmps.getD 6 undef=.int .i64 (10000*(f:Int)):=hF7.sl 6 _ rfl
   have k1:a7.tmps.getD 8 undef=.int .i64 (100*(b:Int)):=hF7.sl 8 _ rfl;have hwr:IntKind.i64.wrap ((10000*(f:Int))+(100*(b:Int)))=(10000*(f:Int))+(100*(b:Int)):=wrap_small _ (by omega);go_simp;exact hK
  clear hF7;intro a8 hF8;refine fr_pure (t:=10) (v:=.int .i64 (((10000*(f:Int))+(100*(b:Int)))+91)) (w':=w) hF8 rfl rfl rfl (fun K hK=>?_) ?_
  ·have k0:a8.tmps.getD 9 undef=.int .i64 ((10000*(f:Int))+(100*(b:Int))):=hF8.sl 9 _ rfl
   have hwr:IntKind.i64.wrap (((10000*(f:Int))+(100*(b:Int)))+91)=((10000*(f:Int))+(100*(b:Int)))+91:=wrap_small _ (by omega);go_simp;exact hK
  clear hF8;intro a9 hF9;refine St.go hF9 ?_;clear hF9 a9;refine sa trivial rfl rfl ?_;refine St.nil fun a10 h10=>?_;refine hK3 _ _ ?_;refine wp_ret ?_;with_reducible repeat first | refine of_then_ret ?_ | refine of_block_ret ?_
  have R:10000*(f:Int)+100*(b:Int)+91=(((10000*(f:Int))+(100*(b:Int)))+91):=by omega
  exact ret_tmp (t:=4) h10 rfl rfl ⟨by rw [R],hW.bel⟩
theorem atIns_any {f b i : Nat} {w : World} (h : f < 1000000 ∧ b < 1000000 ∧ i < 1000000) :
    Rd Tryz.prog 22 #[.int .i64 (f:Int),.int .i64 (b:Int),.int .i64 (i:Int)] w (.int .i64 (10000*(f:Int)+100*(b:Int)+(i:Int))):=by
  refine fr_enter (n:=14) Tryz.func22 rfl rfl rfl ?_;intro a hF;have hW:=Wd.start w;replace hF:Fr 14 a [(0,.int .i64 (f:Int)),(1,.int .i64 (b:Int)),(2,.int .i64 (i:Int))]:=hF;refine wp_seq_k fun K1 hK1=>?_;refine rg hF fun ops=>?_;clear hF a;refine sa trivial rfl rfl ?_;refine St.nil fun a2 h2=>?_;refine hK1 _ _ ?_;refine wp_seq_k fun K3 hK3=>?_;refine rg h2 fun ops=>?_;clear h2 a2;refine sm trivial rfl rfl ?_;intro a4 h4;refine fr_pure (t:=8) (v:=.int .i64 (10000*(f:Int))) (w':=w) h4 rfl rfl rfl (fun K hK=>?_) ?_
  ·have k0:a4.tmps.getD 7 undef=.int .i64 (f:Int):=h4.sl 7 _ rfl
   have hwr:IntKind.i64.wrap (10000*(f:Int))=10000*(f:Int):=wrap_small _ (by omega);go_simp;exact hK
  clear h4;intro a5 hF5;refine St.go hF5 ?_;clear hF5 a5;refine sm trivial rfl rfl ?_;intro a6 h6;refine fr_pure (t:=10) (v:=.int .i64 (100*(b:Int))) (w':=w) h6 rfl rfl rfl (fun K hK=>?_) ?_
  ·have k0:a6.tmps.getD 9 undef=.int .i64 (b:Int):=h6.sl 9 _ rfl
   have hwr:IntKind.i64.wrap (100*(b:Int))=100*(b:Int):=wrap_small _ (by omega);go_simp;exact hK
  clear h6;intro a7 hF7;refine fr_pure (t:=11) (v:=.int .i64 ((10000*(f:Int))+(100*(b:Int)))) (w':=w) hF7 rfl rfl rfl (fun K hK=>?_) ?_
  ·have k0:a7.tmps.getD 8 undef=.int .i64 (10000*(f:Int)):=hF7.sl 8 _ rfl
   have k1:a7.tmps.getD 10 undef=.int .i64 (100*(b:Int)):=hF7.sl 10 _ rfl;have hwr:IntKind.i64.wrap ((10000*(f:Int))+(100*(b:Int)))=(10000*(f:Int))+(100*(b:Int)):=wrap_small _ (by omega);go_simp;exact hK
  clear hF7;intro a8 hF8;refine St.go hF8 ?_;clear hF8 a8;refine sm trivial rfl rfl ?_;intro a9 h9;refine fr_pure (t:=13) (v:=.int .i64 (((10000*(f:Int))+(100*(b:Int)))+(i:Int))) (w':=w) h9 rfl rfl rfl (fun K hK=>?_) ?_
  ·have k0:a9.tmps.getD 11 undef=.int .i64 ((10000*(f:Int))+(100*(b:Int))):=h9.sl 11 _ rfl
   have k1:a9.tmps.getD 12 undef=.int .i64 (i:Int):=h9.sl 12 _ rfl;have hwr:IntKind.i64.wrap (((10000*(f:Int))+(100*(b:Int)))+(i:Int))=((10000*(f:Int))+(100*(b:Int)))+(i:Int):=wrap_small _ (by omega);go_simp;exact hK
  clear h9;intro a10 hF10;refine St.go hF10 ?_;clear hF10 a10;refine sa trivial rfl rfl ?_;refine St.nil fun a11 h11=>?_;refine hK3 _ _ ?_;refine wp_ret ?_;with_reducible repeat first | refine of_then_ret ?_ | refine of_block_ret ?_
  have R:10000*(f:Int)+100*(b:Int)+(i:Int)=(((10000*(f:Int))+(100*(b:Int)))+(i:Int)):=by omega
  exact ret_tmp (t:=6) h11 rfl rfl ⟨by rw [R],hW.bel⟩
theorem underEnd : ∃ fs, Tryz.prog.underlying 58 = some (.struct fs) := ⟨_, Tryz.underlying58⟩
theorem sizeEnd : (Tryz.prog.info? 58).map (·.size) = some 9 := by kernel_rfl
abbrev endA (x : MEnd) (e : EP) : Array Value := #[.int .i64 x.op, .int .i64 x.a, .int .i64 x.yes.block, .slice e.pYR x.yes.regs.length e.cYR, .slice e.pYA x.yes.args.length e.cYA, .int .i64 x.no.block, .slice e.pNR x.no.regs.length e.cNR, .slice e.pNA x.no.args.length e.cNA, .slice e.pA x.args.length e.cA]
structure EndIn (w : World) (Q : Nat → Prop) (x : MEnd) (e : EP) : Prop where
  yr:intsL.In w Q x.yes.regs [.slice e.pYR x.yes.regs.length e.cYR]
  ya:intsL.In w Q x.yes.args [.slice e.pYA x.yes.args.length e.cYA]
  nr:intsL.In w Q x.no.regs [.slice e.pNR x.no.regs.length e.cNR]
  na:intsL.In w Q x.no.args [.slice e.pNA x.no.args.length e.cNA]
  ar:intsL.In w Q x.args [.slice e.pA x.args.length e.cA]
theorem EndIn.below {w w' : World} {Q : Nat → Prop} {x : MEnd} {e : EP} (h : EndIn w Q x e) (k : Below w.heap.size w w') : EndIn w' Q x e :=
  ⟨Lay.below h.yr k,Lay.below h.ya k,Lay.below h.nr k,Lay.below h.na k,Lay.below h.ar k⟩
structure EnS (w wc : World) (b X : Nat) (O Q : Nat → Prop) (s : JSt) (x : MEnd) (e : EP) : Prop where
  known:KAt wc b O s
  box:Blk wc X (endA x e) 58
  lists:EndIn wc Q x e
  bel:Below w.heap.size w wc
theorem EnS.below {w wc w' : World} {b X : Nat} {O Q : Nat → Prop} {s : JSt} {x : MEnd} {e : EP} (h : EnS w wc b X O Q s x e) (k : Below wc.heap.size wc w') : EnS w w' b X O Q s x e :=
  ⟨h.known.below k,(k.block X (lt_of_block h.box)).trans h.box,h.lists.below k,h.bel.trans (k.mono h.bel.size)⟩
theorem EnS.range {w wc : World} {b X : Nat} {O Q : Nat → Prop} {s : JSt} {x : MEnd} {e : EP} (h : EnS w wc b X O Q s x e) : wc.rangeAt X 0 (endA x e).toList := fun j v hj => by
  rw [Nat.zero_add];rw [Array.getElem?_toList] at hj;exact cellOf h.box j v hj
theorem EnS.cells {w wc : World} {b X : Nat} {O Q : Nat → Prop} {s : JSt} {x : MEnd} {e : EP} (h : EnS w wc b X O Q s x e) : wc.cell? ⟨X, 0, none⟩ = some (.int .i64 x.op) ∧ wc.cell? ⟨X, 1, none⟩ = some (.int .i64 x.a) ∧ wc.cell? ⟨X, 2, none⟩ = some (.int .i64 x.yes.block) ∧ wc.cell? ⟨X, 3, none⟩ = some (.slice e.pYR x.yes.regs.length e.cYR) ∧ wc.cell? ⟨X, 4, none⟩ = some (.slice e.pYA x.yes.args.length e.cYA) ∧ wc.cell? ⟨X, 5, none⟩ = some (.int .i64 x.no.block) ∧ wc.cell? ⟨X, 6, none⟩ = some (.slice e.pNR x.no.regs.length e.cNR) ∧ wc.cell? ⟨X, 7, none⟩ = some (.slice e.pNA x.no.args.length e.cNA) ∧ wc.cell? ⟨X, 8, none⟩ = some (.slice e.pA x.args.length e.cA) :=
  ⟨cellOf h.box 0 _ rfl,cellOf h.box 1 _ rfl,cellOf h.box 2 _ rfl,cellOf h.box 3 _ rfl,cellOf h.box 4 _ rfl,cellOf h.box 5 _ rfl,cellOf h.box 6 _ rfl,cellOf h.box 7 _ rfl,cellOf h.box 8 _ rfl⟩
theorem own_len (n : Nat) : (ownR n).length = n := by unfold ownR; simp
theorem own_succ (n : Nat) : ownR (n + 1) = ownR n ++ [(n : Int)] := by unfold ownR; rw [List.range_succ, List.map_append]; rfl
theorem to_zero {nb : Nat} {t : MTo} (h : t.form nb true = 0) : (0 ≤ t.block ∧ t.block < nb) ∧ t.regs.length ≤ 16 ∧ t.args.length ≤ 8 := by
  unfold MTo.form at h;rw [if_neg (by simp)] at h;split at h
  · cases h
  split at h
  · cases h
  omega
def ke1E (b X fl c1 fm c2 bl c3 : Nat) (fr cf : Int) (a1 a2 a3 : Option Addr) (x : MEnd) (e : EP) (t : Tmp) (v : Value) (w : World) : Prop :=
  v=(([(0,.pointer (some ⟨b,0,none⟩)),(3,.pointer (some ⟨X,0,none⟩)),(13,.pointer (some ⟨b,0,none⟩)),(14,.pointer (some ⟨b,0,none⟩)),(15,.pointer (some ⟨b,1,none⟩)),(16,.agg #[.int .i64 fr,.slice a1 fl c1,.slice a2 fm c2,.slice a3 bl c3]),(17,.agg (endA x e)),(18,.int .i64 cf),(5,.int .i64 cf)]:List (Tmp × Value)).lookup t).getD undef
theorem ke1 {w6 : World} {b X fl c1 fm c2 bl c3 : Nat} {fr cf : Int} {a1 a2 a3 : Option Addr} {x : MEnd} {e : EP} (q1 : w6.cell? ⟨b, 1, none⟩ = some (.int .i64 fr)) (q2 : w6.cell? ⟨b, 2, none⟩ = some (.slice a1 fl c1)) (q3 : w6.cell? ⟨b, 3, none⟩ = some (.slice a2 fm c2)) (q4 : w6.cell? ⟨b, 4, none⟩ = some (.slice a3 bl c3)) (HX : Hid (w6.rangeAt X 0 (endA x e).toList)) (HS : Hid (x.yes.regs.length < 2305843009213693952 ∧ x.yes.args.length < 2305843009213693952 ∧ x.no.regs.length < 2305843009213693952 ∧ x.no.args.length < 2305843009213693952)) (hbl : bl < 2305843009213693952) (HC : Hid (x.form bl = cf))
    (a:Act) (m:Nat) (hn:a.tmps.size=m) (hn':97≤m) (h0:a.tmps.getD 0 undef=.pointer (some ⟨b,0,none⟩)) (h3:a.tmps.getD 3 undef=.pointer (some ⟨X,0,none⟩)) :
    Code.wp Tryz.prog ((Tryz.f45.body.bind (hRegionOf 1)).getD .skip) (fun e a' w'=>e=.normal∧∃ vs,a'=puts a vs [13,14,15,16,17,18,5]∧vs 5=.int .i64 cf∧Below w6.heap.size w6 w') a w6:=by
  conv=>arg 2;whnf
  refine wp_region_calm (ke1E b X fl c1 fm c2 bl c3 fr cf a1 a2 a3 x e) (fun w=>Below w6.heap.size w6 w) (fun w w'=>Below w.heap.size w w') (outs:=[0,3]) (gs:=[]) (bs:=[true,true,true,true,true,true,true]) (by kernel_rfl) (n:=97) hn hn' (by kernel_rfl) ?hR ?hG (hbelowN (Below.refl _ _) 1) ⟨h0,h3,trivial⟩ ?hA ?hend
  case hR=>exact fun t v w w' _ h=>h
  case hG=>exact trivial
  case hend=>exact fun vs w' hW hk=>⟨rfl,vs,rfl,hk 5 (by kernel_rfl),hW⟩
  case hA =>
    refine ⟨fun a w hW hk K hK=>?_,?_⟩
    · obtain ⟨k0,-⟩:=hk;have k0:a.tmps.getD 0 undef=.pointer (some ⟨b,0,none⟩):=k0;go_simp;exact hK _ _ (Below.refl _ _) hW rfl
    refine ⟨fun a w hW hk K hK=>?_,?_⟩
    · obtain ⟨k0,-⟩:=hk;have k0:a.tmps.getD 13 undef=.pointer (some ⟨b,0,none⟩):=k0;go_simp;exact hK _ _ (Below.refl _ _) hW rfl
    refine ⟨fun a w hW hk K hK=>?_,?_⟩
    · obtain ⟨k0,-⟩:=hk;have k0:a.tmps.getD 14 undef=.pointer (some ⟨b,0,none⟩):=k0;go_simp;exact hK _ _ (Below.refl _ _) hW rfl
    refine ⟨fun a w hW hk K hK=>?_,?_⟩
    · obtain ⟨k0,-⟩:=hk;have k0:a.tmps.getD 15 undef=.pointer (some ⟨b,1,none⟩):=k0;have c1:=stay q1 hW;have c2:=stay q2 hW;have c3:=stay q3 hW;have c4:=stay q4 hW;go_simp;exact hK _ _ (Below.refl _ _) hW rfl
    refine ⟨fun a w hW hk K hK=>?_,?_⟩
    · obtain ⟨k0,-⟩:=hk;have k0:a.tmps.getD 3 undef=.pointer (some ⟨X,0,none⟩):=k0;obtain ⟨fs,hfs⟩:=underEnd;refine wp_load_mid 58 (.tmp 3) rfl X 0 k0 (endA x e).toList _ (range_below HX.out hW) hfs rfl sizeEnd ?_;exact hK _ _ (Below.refl _ _) hW rfl
    refine ⟨fun a w hW hk K hK=>?_,?_⟩
    · obtain ⟨k0,k1,-⟩:=hk;have k0:a.tmps.getD 16 undef=.agg #[.int .i64 fr,.slice a1 fl c1,.slice a2 fm c2,.slice a3 bl c3]:=k0;have k1:a.tmps.getD 17 undef=.agg (endA x e):=k1;go_simp;refine Calls.mono (endForm_any (x:=x) (e:=e) HS.out hbl) ?_;rw [HC.out];rintro r7 w7 ⟨rfl,b7⟩;go_simp;exact hK _ _ b7 (hW.trans (b7.mono hW.size)) rfl
    refine ⟨fun a w hW hk K hK=>?_,?_⟩
    · obtain ⟨k0,-⟩:=hk;have k0:a.tmps.getD 18 undef=.int .i64 cf:=k0;go_simp;exact hK _ _ (Below.refl _ _) hW rfl
    trivial
def ke20E (b X na ca fm c2 on oc : Nat) (p : Int) (pa a2 oa : Option Addr) (t : Tmp) (v : Value) (w : World) : Prop :=
  v=(([(0,.pointer (some ⟨b,0,none⟩)),(3,.pointer (some ⟨X,0,none⟩)),(8,.slice oa on oc),(63,.pointer (some ⟨b,0,none⟩)),(64,.pointer (some ⟨X,8,none⟩)),(65,.slice pa na ca),(66,.pointer (some ⟨b,0,none⟩)),(67,.pointer (some ⟨b,0,none⟩)),(68,.pointer (some ⟨b,1,none⟩)),(69,.pointer (some ⟨b,3,none⟩)),(70,.slice a2 fm c2),(71,.slice oa on oc),(72,.int .i64 p),(10,.int .i64 p)]:List (Tmp × Value)).lookup t).getD undef
theorem ke20 {w6 : World} {b X na ca fm c2 on oc : Nat} {p : Int} {pa a2 oa : Option Addr} {O Q1 Q2 Q3 : Nat → Prop} {s : JSt} {l regs : List Int} {ts : List (TT 6)} (x8 : w6.cell? ⟨X, 8, none⟩ = some (.slice pa na ca)) (q3 : w6.cell? ⟨b, 3, none⟩ = some (.slice a2 fm c2)) (HN : Hid (l.length = na)) (HM : Hid (ts.length = fm)) (HO : Hid (regs.length = on)) (hn2 : na ≤ 100000) (hm2 : fm ≤ 100000) (hL : s.L.length ≤ 80) (HA : Hid (intsL.In w6 Q1 l [.slice pa na ca])) (HT : Hid ((typesL 6).In w6 Q2 ts [.slice a2 fm c2])) (HR : Hid (intsL.In w6 Q3 regs [.slice oa on oc])) (HCC : Hid (∀ t ∈ ts, t.count ≤ 2000)) (HK : Hid (KAt w6 b O s)) (HP : Hid (s.args l ts regs = p))
    (a:Act) (m:Nat) (hn:a.tmps.size=m) (hn':97≤m) (h0:a.tmps.getD 0 undef=.pointer (some ⟨b,0,none⟩)) (h3:a.tmps.getD 3 undef=.pointer (some ⟨X,0,none⟩)) (h8:a.tmps.getD 8 undef=.slice oa on oc) :
    Code.wp Tryz.prog ((Tryz.f45.body.bind (hRegionOf 20)).getD .skip) (fun e a' w'=>e=.normal∧∃ vs,a'=puts a vs [63,64,65,66,67,68,69,70,71,72,10]∧vs 10=.int .i64 p∧Below w6.heap.size w6 w') a w6:=by
  conv=>arg 2;whnf
  refine wp_region_calm (ke20E b X na ca fm c2 on oc p pa a2 oa) (fun w=>Below w6.heap.size w6 w) (fun w w'=>Below w.heap.size w w') (outs:=[0,3,8]) (gs:=[]) (bs:=[true,true,true,true,true,true,true,true,true,true,true]) (by kernel_rfl) (n:=97) hn hn' (by kernel_rfl) ?hR ?hG (hbelowN (Below.refl _ _) 1) ⟨h0,h3,h8,trivial⟩ ?hA ?hend
  case hR=>exact fun t v w w' _ h=>h
  case hG=>exact trivial
  case hend=>exact fun vs w' hW hk=>⟨rfl,vs,rfl,hk 10 (by kernel_rfl),hW⟩
  case hA =>
    refine ⟨fun a w hW hk K hK=>?_,?_⟩
    · obtain ⟨k0,-⟩:=hk;have k0:a.tmps.getD 0 undef=.pointer (some ⟨b,0,none⟩):=k0;go_simp;exact hK _ _ (Below.refl _ _) hW rfl
    refine ⟨fun a w hW hk K hK=>?_,?_⟩
    · obtain ⟨k0,-⟩:=hk;have k0:a.tmps.getD 3 undef=.pointer (some ⟨X,0,none⟩):=k0;go_simp;exact hK _ _ (Below.refl _ _) hW rfl
    refine ⟨fun a w hW hk K hK=>?_,?_⟩
    · obtain ⟨k0,-⟩:=hk;have k0:a.tmps.getD 64 undef=.pointer (some ⟨X,8,none⟩):=k0;have c1:=stay x8 hW;go_simp;exact hK _ _ (Below.refl _ _) hW rfl
    refine ⟨fun a w hW hk K hK=>?_,?_⟩
    · obtain ⟨k0,-⟩:=hk;have k0:a.tmps.getD 0 undef=.pointer (some ⟨b,0,none⟩):=k0;go_simp;exact hK _ _ (Below.refl _ _) hW rfl
    refine ⟨fun a w hW hk K hK=>?_,?_⟩
    · obtain ⟨k0,-⟩:=hk;have k0:a.tmps.getD 66 undef=.pointer (some ⟨b,0,none⟩):=k0;go_simp;exact hK _ _ (Below.refl _ _) hW rfl
    refine ⟨fun a w hW hk K hK=>?_,?_⟩
    · obtain ⟨k0,-⟩:=hk;have k0:a.tmps.getD 67 undef=.pointer (some ⟨b,0,none⟩):=k0;go_simp;exact hK _ _ (Below.refl _ _) hW rfl
    refine ⟨fun a w hW hk K hK=>?_,?_⟩
    · obtain ⟨k0,-⟩:=hk;have k0:a.tmps.getD 68 undef=.pointer (some ⟨b,1,none⟩):=k0;go_simp;exact hK _ _ (Below.refl _ _) hW rfl
    refine ⟨fun a w hW hk K hK=>?_,?_⟩
    · obtain ⟨k0,-⟩:=hk;have k0:a.tmps.getD 69 undef=.pointer (some ⟨b,3,none⟩):=k0;have c3:=stay q3 hW;go_simp;exact hK _ _ (Below.refl _ _) hW rfl
    refine ⟨fun a w hW hk K hK=>?_,?_⟩
    · obtain ⟨k0,-⟩:=hk;have k0:a.tmps.getD 8 undef=.slice oa on oc:=k0;go_simp;exact hK _ _ (Below.refl _ _) hW rfl
    refine ⟨fun a w hW hk K hK=>?_,?_⟩
    · obtain ⟨k0,k1,k2,k3,-⟩:=hk;have k0:a.tmps.getD 63 undef=.pointer (some ⟨b,0,none⟩):=k0;have k1:a.tmps.getD 65 undef=.slice pa na ca:=k1;have k2:a.tmps.getD 70 undef=.slice a2 fm c2:=k2;have k3:a.tmps.getD 71 undef=.slice oa on oc:=k3;go_simp;refine (kargs_any HN.out HM.out HO.out hn2 hm2 hL (Lay.below HA.out hW) (Lay.below HT.out hW) (Lay.below HR.out hW) HCC.out (HK.out.below hW)).mono ?_;rw [HP.out];rintro r7 w7 ⟨rfl,b7⟩;go_simp;exact hK _ _ b7 (hW.trans (b7.mono hW.size)) rfl
    refine ⟨fun a w hW hk K hK=>?_,?_⟩
    · obtain ⟨k0,-⟩:=hk;have k0:a.tmps.getD 72 undef=.int .i64 p:=k0;go_simp;exact hK _ _ (Below.refl _ _) hW rfl
    trivial
theorem kend_any {w : World} {b : Nat} {O Q : Nat → Prop} {s : JSt} {x : MEnd} {e : EP} (hJ : JOk s) (h : KAt w b O s) (hx : EndIn w Q x e) (hcap : x.yes.regs.length ≤ e.cYR ∧ x.no.regs.length ≤ e.cNR) (hs : x.yes.regs.length ≤ 100000 ∧ x.yes.args.length ≤ 100000 ∧ x.no.regs.length ≤ 100000 ∧ x.no.args.length ≤ 100000) :
    Calls Tryz.prog 45 #[.pointer (some ⟨b,0,none⟩),.agg (endA x e)] w fun r w'=>r=.returned (.int .i64 (s.fin x))∧Below w.heap.size w w':=by
  have HJ:=hid_of hJ;obtain ⟨i0,hi,hz0,hz1,hz2⟩:=pInfoI;have b1:=bel1 w (.cells (endA x e) 58);have S0:Hid (EnS w (w.alloc (.cells (endA x e) 58)) b w.heap.size O Q s x e):=⟨h.below b1,blockNew w _ _,hx.below b1,b1⟩;clear h hx b1 hJ;go_enter Tryz.func45,Tryz.ntmps45
  go_upto_region 1 with fail
  obtain ⟨X,hX⟩:∃ X,w.heap.size=X:=⟨_,rfl⟩;unfold endA at S0;generalize hw1:w.alloc (.cells #[.int .i64 x.op,.int .i64 x.a,.int .i64 x.yes.block,.slice e.pYR x.yes.regs.length e.cYR,.slice e.pYA x.yes.args.length e.cYA,.int .i64 x.no.block,.slice e.pNR x.no.regs.length e.cNR,.slice e.pNA x.no.args.length e.cNA,.slice e.pA x.args.length e.cA] 58)=w1 at S0 ⊢;have S1:Hid (EnS w w1 b X O Q s x e):=by rw [← hX];exact S0.out
  rw [hX];clear hw1 hX S0;obtain ⟨pm,cm,a1,c1,a2,c2,a3,c3,hh,aL,cL,R⟩:=S1.out.known.read;obtain ⟨-,q1,q2,q3,q4,-,-⟩:=R.cells;have HFR:=hid_of (HJ.out.mod.2 s.f HJ.out.fn);have HS:Hid (x.yes.regs.length<2305843009213693952∧x.yes.args.length<2305843009213693952∧x.no.regs.length<2305843009213693952∧x.no.args.length<2305843009213693952):=by show _∧_;omega
  have E:Hid (s.fin x=if x.form s.f.blocks.length≠0 then x.form s.f.blocks.length else if x.op=1 then s.to x.yes else if x.op=2 then code2 (s.want x.a 1 false) (code2 (s.to x.yes) (s.to x.no)) else code2 (s.args x.args s.f.results (ownR s.f.regs.toNat)) (if (hList s.H).all (fun r=>decide (r<s.f.regs)) then 0 else 12)):=by
    show _=_;rw [JSt.fin]
  have HCF:Hid (x.form s.f.blocks.length=x.form s.f.blocks.length):=rfl;refine Code.wp_mono ?_ (ke1 q1 q2 q3 q4 (show Hid _ from S1.out.range) HS (by have:=HFR.out.many.2;omega) HCF _ _ rfl (Nat.le_of_ble_eq_true (by kernel_rfl)) rfl rfl);rintro ee aa w5 ⟨rfl,vs,rfl,hv5,hb⟩;simp only [puts,Act.put,List.setIfInBounds_toArray,List.set_cons_zero,List.set_cons_succ,hv5];have S:Hid (EnS w w5 b X O Q s x e):=S1.out.below hb;clear S1 hb hv5 q1 q2 q3 q4 R HCF HS;obtain ⟨cf,hcf⟩:∃ cf,x.form s.f.blocks.length=cf:=⟨_,rfl⟩;have HCF:Hid (x.form s.f.blocks.length=cf):=hcf;rw [hcf] at E ⊢;clear hcf;by_cases hc0:cf=0
  rotate_left
  · have hc0':(cf != 0)=true:=by simpa using hc0
    have E2:Hid (s.fin x=cf):=by show _=_;rw [E.out,if_pos hc0]
    clear E;go_wp2_with fail
    go_ret;exact ⟨by rw [E2.out];rfl,S.out.bel⟩
  subst hc0;have E1:=E.out;rw [if_neg (by simp)] at E1;clear E;have HZ:=hid_of (end_zero HFR.out.many.2 HCF.out);obtain ⟨x0,x1,x2,x3,x4,x5,x6,x7,x8⟩:=S.out.cells;rcases HZ.out.1 with hop | hop | hop
  · have E2:Hid (s.fin x=s.to x.yes):=by show _=_;rw [E1,if_pos hop]
    have h1:Hid (x.yes.form s.f.blocks.length true=0):=by have:=HZ.out.2.2.2.2.1;rw [hop] at this;exact this
    rw [hop] at x0;clear E1;go_wp2_with fail
    refine (kto_any (x:=x.yes) HJ.out S.out.known S.out.lists.yr S.out.lists.ya hcap.1 (to_zero h1.out).2.1 (to_zero h1.out).2.2 (to_zero h1.out).1).mono ?_;rintro e9 w9 ⟨rfl,b9⟩;have S9:Hid (EnS w w9 b X O Q s x e):=S.out.below b9;clear b9;go_wp2_with fail
    go_ret;exact ⟨by rw [E2.out];rfl,S9.out.bel⟩
  · have E2:Hid (s.fin x=code2 (s.want x.a 1 false) (code2 (s.to x.yes) (s.to x.no))):=by show _=_;rw [E1,if_neg (by omega),if_pos hop]
    have h1:Hid (x.yes.form s.f.blocks.length true=0):=by have:=HZ.out.2.2.2.2.1;rw [hop] at this;exact this
    have h2:Hid (x.no.form s.f.blocks.length true=0):=by have:=HZ.out.2.2.2.2.2;rw [hop] at this;exact this
    rw [hop] at x0;clear E1;go_wp2_with fail
    refine (kwant_any x.a 1 false HJ.out.regs HJ.out.vals S.out.known).mono ?_;rintro e8 w8 ⟨rfl,n8,hw8⟩;have S8:Hid (EnS w w8 b X O Q s x e):=S.out.below (by rw [hw8];exact hbelowN (Below.refl _ _) n8);clear hw8 S;have S:=S8;clear S8 x0 x1 x2 x3 x4 x5 x6 x7 x8;obtain ⟨x0,x1,x2,x3,x4,x5,x6,x7,x8⟩:=S.out.cells;rw [hop] at x0;generalize s.want x.a 1 false=cw at E2 ⊢;by_cases hcw:cw=0
    rotate_left
    · have hcw':(cw != 0)=true:=by simpa using hcw
      have E3:Hid (s.fin x=cw):=by show _=_;rw [E2.out];unfold code2;rw [if_neg hcw]
      clear E2;go_wp2_with fail
      go_ret;exact ⟨by rw [E3.out];rfl,S.out.bel⟩
    subst hcw;have E3:Hid (s.fin x=code2 (s.to x.yes) (s.to x.no)):=by show _=_;rw [E2.out];rfl
    clear E2;go_wp2_with fail
    refine (kto_any (x:=x.yes) HJ.out S.out.known S.out.lists.yr S.out.lists.ya hcap.1 (to_zero h1.out).2.1 (to_zero h1.out).2.2 (to_zero h1.out).1).mono ?_;rintro e9 w9 ⟨rfl,b9⟩;have S9:Hid (EnS w w9 b X O Q s x e):=S.out.below b9;clear b9;clear S;have S:=S9;clear S9 x0 x1 x2 x3 x4 x5 x6 x7 x8;obtain ⟨x0,x1,x2,x3,x4,x5,x6,x7,x8⟩:=S.out.cells;rw [hop] at x0;generalize s.to x.yes=cy at E3 ⊢;by_cases hcy:cy=0
    rotate_left
    · have hcy':(cy != 0)=true:=by simpa using hcy
      have E4:Hid (s.fin x=cy):=by show _=_;rw [E3.out];unfold code2;rw [if_neg hcy]
      clear E3;go_wp2_with fail
      go_ret;exact ⟨by rw [E4.out];rfl,S.out.bel⟩
    subst hcy;have E4:Hid (s.fin x=s.to x.no):=by show _=_;rw [E3.out];rfl
    clear E3;go_wp2_with fail
    refine (kto_any (x:=x.no) HJ.out S.out.known S.out.lists.nr S.out.lists.na hcap.2 (to_zero h2.out).2.1 (to_zero h2.out).2.2 (to_zero h2.out).1).mono ?_;rintro e9 w9 ⟨rfl,b9⟩;have S9:Hid (EnS w w9 b X O Q s x e):=S.out.below b9;clear b9;go_wp2_with fail
    go_ret;exact ⟨by rw [E4.out];rfl,S9.out.bel⟩
  · have E2:Hid (s.fin x=code2 (s.args x.args s.f.results (ownR s.f.regs.toNat)) (if (hList s.H).all (fun r=>decide (r<s.f.regs)) then 0 else 12)):=by show _=_;rw [E1,if_neg (by omega),if_neg (by omega)]
    have hal:x.args.length≤8:=HZ.out.2.2.2.1;obtain ⟨pm,cm,a1,c1,a2,c2,a3,c3,hh,aL,cL,R⟩:=S.out.known.read;obtain ⟨-,q1,q2,q3,q4,q5,-⟩:=R.cells;have HHO:Hid (HoldsAt w5 hh O s.H):=R.holds;have HRC:Hid (s.f.results.length≤8):=HFR.out.results.1;have HCR:Hid (∀ t∈s.f.results,t.count≤2000):=fun t ht=>Nat.le_of_not_lt fun hlt=>HJ.out.tiny (.inr ⟨s.f,HJ.out.fn,.inr (.inr (.inl (.inr ⟨t,ht,hlt⟩)))⟩);obtain ⟨fa,fc,fb,fd,fe,ff,ecs,-,hres,-,-⟩:=func_form R.fn;simp only [List.cons.injEq,Value.slice.injEq,and_true,true_and] at ecs;obtain ⟨-,⟨rfl,rfl⟩,-⟩:=ecs;have HRS:Hid ((typesL 6).In w5 (fun g=>¬ O g) s.f.results [.slice a2 s.f.results.length c2]):=hres;obtain ⟨fr,hfr⟩:=Int.eq_ofNat_of_zero_le HFR.out.regs.1;have hfr6:fr≤6:=by have:=HFR.out.regs.2;omega
    rw [hfr] at q1 E2;rw [Int.toNat_natCast] at E2;rw [hop] at x0;clear E1 R hres hfr q2 q4;go_wp2_with fail
    go_loopw [8,9] (fun v u wr=>∃ k cs,u=.int .i64 (k:Nat)∧k≤fr∧ARow Lay.int 3 wr w5.heap.size v (ownR k) cs∧Below w5.heap.size w5 wr) (fun _ u _=>fr - (intOf u).toNat)
    case atStart=>exact ⟨0,[],rfl,Nat.zero_le _,ARow.nil _ _ _ _,Below.refl _ _⟩
    case round =>
      obtain ⟨k,cs,rfl,hk,hA,hB⟩:=hrel;obtain ⟨a,c,rfl⟩:=hA.formP;have HA:Hid (ARow Lay.int 3 wr w5.heap.size (.slice a (ownR k).length c) (ownR k) cs):=hA;have HB:Hid (Below w5.heap.size w5 wr):=hB;have hlen:(ownR k).length≤6:=by rw [own_len];omega
      have hsz:w5.heap.size≤wr.heap.size:=hB.size;have q1':=stay q1 hB;clear hA hB;by_cases hlt:k<fr
      · have hlt':(k:Int)<fr:=by omega
        have E9:Hid (ownR (k+1)=ownR k++[(k:Int)]):=own_succ k;have hown:Hid (wr.ownsRow w5.heap.size 3 1 (.slice a (ownR k).length c) (ownR k).length cs):=HA.out.own
        have PU:Hid (∀ g cap w9,w9.ownsRow w5.heap.size 3 1 (.slice (some ⟨g,0,none⟩) ((ownR k).length+1) cap) ((ownR k).length+1) (cs++[.int .i64 (k:Int)])→(wr.alloc (.cells #[.int .i64 (k:Int)] 3)).grownBy w9 (Value.slice a (ownR k).length c).ownBlock→((Value.slice a (ownR k).length c).ownBlock=some g∨g=wr.heap.size+1) →
            ARow Lay.int 3 w9 w5.heap.size (.slice (some ⟨g,0,none⟩) ((ownR k).length+1) cap) (ownR (k+1)) (cs++[.int .i64 (k:Int)])∧Below w5.heap.size w5 w9):=by
          intro g cap w9 h1 h2 h3;obtain ⟨q1,q2⟩:=intRow_push HA.out (by omega) hsz h1 h2 h3;rw [E9.out];exact ⟨q1,q2 w5 HB.out⟩
        clear HA HB E9;generalize (ownR k).length=n at hown PU hlen ⊢;go_wp2_with (at_builtin;refine wpList_append_lies _ rfl (.tmp 59) (.tmp 61) 35 rfl w5.heap.size 3 i0 (.int .i64 0) 1 8 pUnderI hi hz0 hz1 hz2 rfl (by decide) _ _ _ rfl (hown.out.alloc _) ⟨wr.heap.size,0,none⟩ 1 1 [.int .i64 (k:Int)] rfl rfl (newsP _ [_] _) (pOneI _) (by decide) (by unfold maxLen;omega) (by omega) (by simp;omega) (wr.heap.size+1) (by simp) ?_)
        intro g2 cap2 w9 h1 hgrow hat hlt1;obtain ⟨z1,z2⟩:=PU.out g2 cap2 w9 h1 hgrow hat;have A9:=hid_of z1;have B9:=hid_of z2;clear h1 hgrow hat hlt1 hown PU z1 z2;go_wp2
        go_roundw
        case rel=>exact ⟨k+1,_,by go_num,by omega,A9.out,B9.out⟩
        case measure=>simp [intOf];omega
      · have hkf:k=fr:=by omega
        have hlt':¬ (k:Int)<fr:=by omega
        have HOW:Hid (intsL.In wr (fun g=>w5.heap.size≤g) (ownR k) [.slice a (ownR k).length c]):=HA.out.lay;have S9:Hid (EnS w wr b X O Q s x e):=S.out.below HB.out;have q3':=stay q3 HB.out;have HT9:Hid ((typesL 6).In wr (fun g=>¬ O g) s.f.results [.slice a2 s.f.results.length c2]):=Lay.below HRS.out HB.out;have q5':=stay q5 HB.out;have x8':=stay x8 HB.out;have HHO9:Hid (HoldsAt wr hh O s.H):=HHO.out.below HB.out;clear HA HB S q1 q3 q5 x0 x1 x2 x3 x4 x5 x6 x7 x8 HRS HHO hsz;have S:=S9;clear S9;subst hkf;clear hlt;go_upto_region 20 with fail
        have HAL:Hid (x.args.length=x.args.length):=rfl;have HNN:Hid ((ownR k).length=(ownR k).length):=rfl;refine Code.wp_mono ?_ (ke20 x8' q3' HAL (show Hid (s.f.results.length=s.f.results.length) from rfl) HNN (by omega) (by have:=HRC.out;omega) HJ.out.vals (show Hid _ from S.out.lists.ar) HT9 HOW HCR (show Hid _ from S.out.known) (show Hid (s.args x.args s.f.results (ownR k)=s.args x.args s.f.results (ownR k)) from rfl) _ _ rfl (Nat.le_of_ble_eq_true (by kernel_rfl)) rfl rfl rfl);rintro ee aa w7 ⟨rfl,vs,rfl,hv10,hb⟩;simp only [puts,Act.put,List.setIfInBounds_toArray,List.set_cons_zero,List.set_cons_succ,hv10];have S7:Hid (EnS w w7 b X O Q s x e):=S.out.below hb;have q1b:=stay q1' hb;have q5b:=stay q5' hb;have HHO7:Hid (HoldsAt w7 hh O s.H):=HHO9.out.below hb;clear hb hv10 S HOW HT9 HHO9 HAL HNN q1' q3' q5' x8';have S:=S7;clear S7;generalize s.args x.args s.f.results (ownR k)=ca at E2 ⊢;generalize (ownR k).length=nk at hlen ⊢;by_cases hca:ca=0
        rotate_left
        · have hca':(ca != 0)=true:=by simpa using hca
          have E3:Hid (s.fin x=ca):=by show _=_;rw [E2.out];unfold code2;rw [if_neg hca]
          clear E2;go_wp2_with fail
          go_ret;exact ⟨by rw [E3.out];rfl,S.out.bel⟩
        subst hca;have E3:Hid (s.fin x=if (hList s.H).all (fun r=>decide (r<(k:Int))) then 0 else 12):=by show _=_;rw [E2.out];rfl
        clear E2;go_wp2_with fail
        refine (holds_list (by have:=HJ.out.regs;omega) HHO7.out).mono ?_;rintro e8 w8 ⟨la,lc,rfl,hl8,b8⟩;have S8:Hid (EnS w w8 b X O Q s x e):=S.out.below b8;have q18:=stay q1b b8;have HL8:Hid (intsL.In w8 (fun g=>w7.heap.size≤g) (hList s.H) [.slice la (hList s.H).length lc]):=hl8;have hl16:(hList s.H).length≤16:=by have:=hList_len s.H;have:=HJ.out.regs;omega
        clear b8 S q1b q5b hl8 HHO7;have S:=S8;clear S8;generalize hList s.H=H at E3 HL8 hl16 ⊢
        have HX:Hid (∀ i,i<H.length→∃ g o,la=some ⟨g,o,none⟩∧w8.cell? ⟨g,o+i,none⟩=some (.int .i64 (H.getD i 0))):=fun i hi=>by
          obtain ⟨a1,a2,e1,-,-,e2⟩:=ints_at HL8.out hi;exact ⟨a1,a2,e1,e2⟩
        go_wp2_with fail
        go_loopw [12] (fun i wr=>∃ q n:Nat,q≤H.length∧i=.int .i64 q∧wr=w8.drewN n∧∀ j,j<q→H.getD j 0<(k:Int)) (fun i _=>H.length - (intOf i).toNat)
        case atStart=>exact ⟨0,0,Nat.zero_le _,rfl,rfl,fun j hj=>absurd hj (Nat.not_lt_zero _)⟩
        case round =>
          obtain ⟨q,n,hq,rfl,hw,hall⟩:=hrel;have HALL:Hid (∀ j,j<q→H.getD j 0<(k:Int)):=hall;have HW:Hid (wr=w8.drewN n):=hw;have q1r:wr.cell? ⟨b,1,none⟩=some (.int .i64 (k:Int)):=by rw [hw];exact q18
          have SR:Hid (EnS w wr b X O Q s x e):=S.out.below (by rw [hw];exact hbelowN (Below.refl _ _) n);clear hall hw;by_cases hlt:q<H.length
          · obtain ⟨rgg,ro,rfl,hcx⟩:=HX.out q hlt;have hcr:wr.cell? ⟨rgg,ro+q,none⟩=some (.int .i64 (H.getD q 0)):=by rw [HW.out];exact hcx
            have hlt2:(q:Int)<H.length:=by omega
            obtain ⟨v,hv⟩:∃ v,H.getD q 0=v:=⟨_,rfl⟩;have HV:Hid (H.getD q 0=v):=hv;rw [hv] at hcr;clear hv hcx;by_cases hvk:v<(k:Int)
            · have hvk':decide ((k:Int)≤v)=false:=decide_eq_false (by omega);go_wp2_with fail
              go_quiet (fail)
              go_wp2
              go_roundw
              case rel =>
                refine ⟨q+1,n+nq,by omega,by go_num,by rw [HW.out,World.drewN_drewN],fun j hj=>?_⟩;by_cases hjq:j<q
                · exact HALL.out j hjq
                · have:j=q:=by omega
                  subst this;rw [HV.out];exact hvk
              case measure=>simp [intOf];omega
            · have hvk':decide ((k:Int)≤v)=true:=decide_eq_true (by omega)
              have E4:Hid (s.fin x=12):=by
                show _=_;rw [E3.out,if_neg];intro hh
                have:=List.all_eq_true.1 hh v (by rw [← HV.out,List.getD_eq_getElem?_getD,List.getElem?_eq_getElem hlt];exact List.getElem_mem hlt)
                exact hvk (of_decide_eq_true this)
              clear E3;go_wp2_with fail
              go_quiet (fail)
              go_wp2
              go_ret;exact ⟨by rw [E4.out];rfl,hbelowN SR.out.bel _⟩
          · have E4:Hid (s.fin x=0):=by
              show _=_;rw [E3.out,if_pos];refine List.all_eq_true.2 fun v hv=>decide_eq_true ?_;obtain ⟨j,hj,rfl⟩:=List.getElem_of_mem hv
              have:=HALL.out j (by omega)
              rwa [List.getD_eq_getElem?_getD,List.getElem?_eq_getElem hj] at this
            have hlt2:¬ (q:Int)<H.length:=by omega
            clear E3;go_wp2
            go_ret;exact ⟨by rw [E4.out];rfl,SR.out.bel⟩
end Go.Proofs.YtacjnejckfhpoaeGreat
namespace Go.Proofs.YtacjnejckfhpoaeGreat
open Go.ChangeShapes Go.WideShapes Go.ChangeAt Go.RowKit Go.Deep
set_option linter.unusedVariables false
theorem Lay.Sub.via {α β : Type} {A A' : Lay α} (h : Lay.Sub A A') (f : β → α) : Lay.Sub (A.via f) (A'.via f) := ⟨h.1, fun k => h.2 k⟩
theorem ReadsB.listC {P : Program} {t e : TypeId} {α : Type} {A : Lay α} {n : Nat} {Bd : α → Prop} (h : P.underlying t = some (.slice e)) (hc : P.cellsOf t = 1) (hA : ReadsB P e A n Bd) (h0 : 0 < A.size) (hbe : 0 < P.bytesOf e) : ReadsB P t A.listC n (fun l => l.length < 1152921504606846976) :=
  ⟨hc,fun {H enc w base spare held fuel cs x} hf h' hw=>by
    obtain ⟨l,hl,hb⟩:=(ReadsB.list h hc hA h0 hbe).2 hf h' hw;refine ⟨l,⟨?_,hl⟩,hb⟩;obtain ⟨a,c,e,_⟩:=hl;refine ⟨a,c,e,?_⟩;rcases DataW.trod_slice h h' with ⟨e2,_⟩ | ⟨a2,len,cap,elems,rest,q,_,e2,_,_,hle,_⟩
    · rw [e] at e2;simp at e2
      simp [e2.2.1]
    · rw [e] at e2;simp at e2
      omega⟩
abbrev intsC : Lay (List Int) := Lay.int.listC
def insC : Lay MIns := (Lay.int.pair (Lay.int.pair (Lay.int.pair (Lay.int.pair (Lay.int.pair (Lay.int.pair (intsC.pair intsC))))))).via (fun x => (x.op, x.a, x.b, x.c, x.k, x.n, x.regs, x.args))
def toC : Lay MTo := (Lay.int.pair (intsC.pair intsC)).via (fun x => (x.block, x.regs, x.args))
def endC : Lay MEnd := (Lay.int.pair (Lay.int.pair (toC.pair (toC.pair intsC)))).via (fun x => (x.op, x.a, x.yes, x.no, x.args))
def blockC (n : Nat) : Lay (MBlock n) := (Lay.int.pair ((typesL n).pair (insC.list.pair endC))).via (fun x => (x.regs, x.params, x.code, x.fin))
def funcC (n : Nat) : Lay (MFunc n) := (Lay.int.pair ((typesL n).pair ((typesL n).pair (blockC n).list))).via (fun x => (x.regs, x.params, x.results, x.blocks))
abbrev modC (n : Nat) : Lay (List (MFunc n)) := (funcC n).list
theorem ints_sub : Lay.Sub intsC intsL := Lay.Sub.listC _
theorem ins_sub : Lay.Sub insC insL := .via (.pair (.refl _) (.pair (.refl _) (.pair (.refl _) (.pair (.refl _) (.pair (.refl _) (.pair (.refl _) (.pair ints_sub ints_sub))))))) _
theorem to_sub : Lay.Sub toC toL := .via (.pair (.refl _) (.pair ints_sub ints_sub)) _
theorem end_sub : Lay.Sub endC endL := .via (.pair (.refl _) (.pair (.refl _) (.pair to_sub (.pair to_sub ints_sub)))) _
theorem block_sub (n : Nat) : Lay.Sub (blockC n) (blockL n) := .via (.pair (.refl _) (.pair (.refl _) (.pair (.list ins_sub) end_sub))) _
theorem func_sub (n : Nat) : Lay.Sub (funcC n) (funcL n) := .via (.pair (.refl _) (.pair (.refl _) (.pair (.refl _) (.list (block_sub n))))) _
theorem mod_sub (n : Nat) : Lay.Sub (modC n) (modL n) := .list (func_sub n)
section
variable {w : World} {O : Nat → Prop} {cs : List Value}
theorem ins_formC {x : MIns} (h : insC.In w O x cs) : ∃ a c b d, cs = [.int .i64 x.op, .int .i64 x.a, .int .i64 x.b, .int .i64 x.c, .int .i64 x.k, .int .i64 x.n, .slice a x.regs.length c, .slice b x.args.length d] ∧ intsL.In w O x.regs [.slice a x.regs.length c] ∧ intsL.In w O x.args [.slice b x.args.length d] ∧ x.regs.length ≤ c ∧ x.args.length ≤ d := by
  obtain ⟨_,_,rfl,⟨rfl,_⟩,_,_,rfl,⟨rfl,_⟩,_,_,rfl,⟨rfl,_⟩,_,_,rfl,⟨rfl,_⟩,_,_,rfl,⟨rfl,_⟩,_,_,rfl,⟨rfl,_⟩,_,_,rfl,⟨⟨a,c,rfl,h1⟩,h2⟩,⟨b,d,rfl,h3⟩,h4⟩:=h;exact ⟨a,c,b,d,rfl,h2,h4,h1,h3⟩
theorem to_formC {x : MTo} (h : toC.In w O x cs) : ∃ a c b d, cs = [.int .i64 x.block, .slice a x.regs.length c, .slice b x.args.length d] ∧ intsL.In w O x.regs [.slice a x.regs.length c] ∧ intsL.In w O x.args [.slice b x.args.length d] ∧ x.regs.length ≤ c ∧ x.args.length ≤ d := by
  obtain ⟨_,_,rfl,⟨rfl,_⟩,_,_,rfl,⟨⟨a,c,rfl,h1⟩,h2⟩,⟨b,d,rfl,h3⟩,h4⟩:=h;exact ⟨a,c,b,d,rfl,h2,h4,h1,h3⟩
theorem end_formC {x : MEnd} (h : endC.In w O x cs) : ∃ e : EP, cs = (endA x e).toList ∧ EndIn w O x e ∧ x.yes.regs.length ≤ e.cYR ∧ x.no.regs.length ≤ e.cNR := by
  obtain ⟨_,_,rfl,⟨rfl,_⟩,_,_,rfl,⟨rfl,_⟩,c1,_,rfl,t1,c2,_,rfl,t2,⟨pa,ca,rfl,h5⟩,h6⟩:=h;obtain ⟨a1,a2,a3,a4,rfl,k1,k2,k3,k4⟩:=to_formC t1;obtain ⟨b1,b2,b3,b4,rfl,l1,l2,l3,l4⟩:=to_formC t2;exact ⟨⟨a1,a2,a3,a4,b1,b2,b3,b4,pa,ca⟩,rfl,⟨k1,k2,l1,l2,h6⟩,k3,l3⟩
end
theorem readsIsC (n : Nat) : ReadsB Tryz.prog 35 intsC n (fun l => l.length < 1152921504606846976) := ReadsB.listC Tryz.underlying35 (by kernel_rfl) (readsI n) (by decide) (by rw [show Tryz.prog.bytesOf 3 = 8 from by kernel_rfl]; decide)
theorem readsInsC (n : Nat) : ReadsB Tryz.prog 46 insC n (fun x => x.regs.length < 1152921504606846976 ∧ x.args.length < 1152921504606846976) := by
  have h:=ReadsB.struct (n:=n) (A:=Lay.int.pair (Lay.int.pair (Lay.int.pair (Lay.int.pair (Lay.int.pair (Lay.int.pair (intsC.pair intsC))))))) Tryz.underlying46 (by kernel_rfl) (FieldsB.cons rfl rfl (readsI n) (FieldsB.cons rfl rfl (readsI n) (FieldsB.cons rfl rfl (readsI n) (FieldsB.cons rfl rfl (readsI n) (FieldsB.cons rfl rfl (readsI n) (FieldsB.cons rfl rfl (readsI6 n) (FieldsB.cons rfl rfl (readsIsC n) (FieldsB.last rfl rfl (readsIsC n)))))))));have h2:=h.via (f:=fun x:MIns=>(x.op,x.a,x.b,x.c,x.k,x.n,x.regs,x.args)) (fun d=>⟨d.1,d.2.1,d.2.2.1,d.2.2.2.1,d.2.2.2.2.1,d.2.2.2.2.2.1,d.2.2.2.2.2.2.1,d.2.2.2.2.2.2.2⟩) (fun d=>rfl);exact ⟨h2.1,fun hf h' hw=>by obtain ⟨d,hd,hb⟩:=h2.2 hf h' hw;exact ⟨d,hd,hb.2.2.2.2.2.2⟩⟩
theorem readsToC (n : Nat) : ReadsB Tryz.prog 56 toC n (fun x => x.regs.length < 1152921504606846976 ∧ x.args.length < 1152921504606846976) := by
  have h:=ReadsB.struct (n:=n) (A:=Lay.int.pair (intsC.pair intsC)) Tryz.underlying56 (by kernel_rfl) (FieldsB.cons rfl rfl (readsI n) (FieldsB.cons rfl rfl (readsIsC n) (FieldsB.last rfl rfl (readsIsC n))));have h2:=h.via (f:=fun x:MTo=>(x.block,x.regs,x.args)) (fun d=>⟨d.1,d.2.1,d.2.2⟩) (fun d=>rfl);exact ⟨h2.1,fun hf h' hw=>by obtain ⟨d,hd,hb⟩:=h2.2 hf h' hw;exact ⟨d,hd,hb.2⟩⟩
theorem readsEndC (n : Nat) : ReadsB Tryz.prog 58 endC n (fun x => (x.yes.regs.length < 1152921504606846976 ∧ x.yes.args.length < 1152921504606846976) ∧ (x.no.regs.length < 1152921504606846976 ∧ x.no.args.length < 1152921504606846976) ∧ x.args.length < 1152921504606846976) := by
  have h:=ReadsB.struct (n:=n) (A:=Lay.int.pair (Lay.int.pair (toC.pair (toC.pair intsC)))) Tryz.underlying58 (by kernel_rfl) (FieldsB.cons rfl rfl (readsI n) (FieldsB.cons rfl rfl (readsI n) (FieldsB.cons rfl rfl (readsToC n) (FieldsB.cons rfl rfl (readsToC n) (FieldsB.last rfl rfl (readsIsC n))))));have h2:=h.via (f:=fun x:MEnd=>(x.op,x.a,x.yes,x.no,x.args)) (fun d=>⟨d.1,d.2.1,d.2.2.1,d.2.2.2.1,d.2.2.2.2⟩) (fun d=>rfl);exact ⟨h2.1,fun hf h' hw=>by obtain ⟨d,hd,hb⟩:=h2.2 hf h' hw;exact ⟨d,hd,hb.2.2⟩⟩
theorem readsInssC (n : Nat) : ReadsB Tryz.prog 25 insC.list n (fun l => l.length < 1152921504606846976) := ReadsB.list Tryz.underlying25 (by kernel_rfl) (readsInsC n) (by decide) (by rw [show Tryz.prog.bytesOf 46 = 96 from by kernel_rfl]; decide)
theorem readsBlockC (n : Nat) : ReadsB Tryz.prog 60 (blockC n) n (fun _ => True) := by
  have h:=ReadsB.struct (n:=n) (A:=Lay.int.pair ((typesL n).pair (insC.list.pair endC))) Tryz.underlying60 (by kernel_rfl) (FieldsB.cons rfl rfl (readsI n) (FieldsB.cons rfl rfl (readsTs n) (FieldsB.cons rfl rfl (readsInssC n) (FieldsB.last rfl rfl (readsEndC n)))));have h2:=h.via (f:=fun x:MBlock n=>(x.regs,x.params,x.code,x.fin)) (fun d=>⟨d.1,d.2.1,d.2.2.1,d.2.2.2⟩) (fun d=>rfl);exact ⟨h2.1,fun hf h' hw=>by obtain ⟨d,hd,hb⟩:=h2.2 hf h' hw;exact ⟨d,hd,trivial⟩⟩
theorem readsBlocksC (n : Nat) : ReadsB Tryz.prog 38 (blockC n).list n (fun l => l.length < 1152921504606846976) := ReadsB.list Tryz.underlying38 (by kernel_rfl) (readsBlockC n) (by show 0 < 12; decide) (by rw [show Tryz.prog.bytesOf 60 = 208 from by kernel_rfl]; decide)
theorem readsFuncC (n : Nat) : ReadsB Tryz.prog 40 (funcC n) n (fun _ => True) := by
  have h:=ReadsB.struct (n:=n) (A:=Lay.int.pair ((typesL n).pair ((typesL n).pair (blockC n).list))) Tryz.underlying40 (by kernel_rfl) (FieldsB.cons rfl rfl (readsI n) (FieldsB.cons rfl rfl (readsTs n) (FieldsB.cons rfl rfl (readsTs n) (FieldsB.last rfl rfl (readsBlocksC n)))));have h2:=h.via (f:=fun x:MFunc n=>(x.regs,x.params,x.results,x.blocks)) (fun d=>⟨d.1,d.2.1,d.2.2.1,d.2.2.2⟩) (fun d=>rfl);exact ⟨h2.1,fun hf h' hw=>by obtain ⟨d,hd,hb⟩:=h2.2 hf h' hw;exact ⟨d,hd,trivial⟩⟩
theorem readsFuncsC (n : Nat) : ReadsB Tryz.prog 22 (modC n) n (fun l => l.length < 1152921504606846976) := ReadsB.list Tryz.underlying22 (by kernel_rfl) (readsFuncC n) (by show 0 < 4; decide) (by rw [show Tryz.prog.bytesOf 40 = 80 from by kernel_rfl]; decide)
theorem readsModC (n : Nat) : ReadsB Tryz.prog 24 (modC n) n (fun _ => True) := by
  have h:=ReadsB.struct (n:=n) (A:=modC n) Tryz.underlying24 (by kernel_rfl) (FieldsB.last rfl rfl (readsFuncsC n));exact ⟨h.1,fun hf h' hw=>by obtain ⟨d,hd,hb⟩:=h.2 hf h' hw;exact ⟨d,hd,trivial⟩⟩
end Go.Proofs.YtacjnejckfhpoaeGreat
namespace Go.Proofs.YtacjnejckfhpoaeGreat
open Go.ChangeShapes Go.WideShapes Go.ChangeAt Go.RowKit
set_option linter.unusedSimpArgs false
set_option linter.unusedVariables false
def MkOut (w : World) (O : Nat → Prop) (c : Int) (l : List (TT 6)) (e : Ending) (w' : World) : Prop :=
  ∃ a n d,e=.returned (.tuple #[.slice a n d,.int .i64 c])∧(c=0→n=l.length∧n≤d∧(typesL 6).In w' (fun g=>¬ O g) l [.slice a n d])∧Below w.heap.size w w'
abbrev insV (x : MIns) (rg ag : Option Addr) (rc ac : Nat) : Value := .agg #[.int .i64 x.op, .int .i64 x.a, .int .i64 x.b, .int .i64 x.c, .int .i64 x.k, .int .i64 x.n, .slice rg x.regs.length rc, .slice ag x.args.length ac]
theorem one_new (w : World) (O : Nat → Prop) (hO : ∀ k, O k → k < w.heap.size) {t : TT 6} {a : Option Addr} {c d : Nat} (h : TIn w (fun g => ¬ O g) t a) (hok : t.ok) :
    (typesL 6).In (w.alloc (.cells #[.int .i64 t.kind,.int .i64 t.r,.slice a t.len c] 70)) (fun g=>¬ O g) [t] [.slice (some ⟨w.heap.size,0,none⟩) 1 d]:=by
  refine ⟨some ⟨w.heap.size,0,none⟩,d,rfl,fun i x hx=>?_⟩
  cases i with
  | succ i=>simp at hx
  | zero =>
    have hx:t=x:=by simpa using hx
    subst hx;refine ⟨w.heap.size,0,[.int .i64 t.kind,.int .i64 t.r,.slice a t.len c],rfl,fun e=>by have:=hO _ e;omega,by simp,fun j hj=>?_,a,c,rfl,h.alloc _,hok⟩;have hj:j<3:=hj;have hb:=blockNew w #[.int .i64 t.kind,.int .i64 t.r,.slice a t.len c] 70;match j,hj with
    | 0,_=>exact cellOf hb 0 _ rfl
    | 1,_=>exact cellOf hb 1 _ rfl
    | 2,_=>exact cellOf hb 2 _ rfl
theorem leaf_in (w : World) (Q : Nat → Prop) (k r : Int) (a : Option Addr) : TIn w Q (mkT k r [] : TT 6) a := fun i x hx => by simp at hx
theorem one_new_at (w : World) (O : Nat → Prop) (hO : ∀ k, O k → k < w.heap.size) {u : TT 5} {a : Option Addr} {c d : Nat} (h : TIn w (fun g => ¬ O g) u a) (hok : u.ok) :
    (typesL 6).In (w.alloc (.cells #[.int .i64 u.kind,.int .i64 u.r,.slice a u.len c] 70)) (fun g=>¬ O g) [u.at 5] [.slice (some ⟨w.heap.size,0,none⟩) 1 d]:=by
  have hh:u.height≤5:=by have:=TT.height_lt u;omega
  have:=one_new w O hO (t:=u.at 5) (a:=a) (c:=c) (d:=d) (h.at 5 hh) (TT.at_ok 5 hok)
  rwa [TT.at_kind,TT.at_r,TT.at_len 5 u hh] at this
theorem ok_leaf {k r : Int} (h : -9223372036854775808 ≤ r ∧ r ≤ 9223372036854775807) : (mkT k r [] : TT 6).ok := ⟨h, fun x hx => by cases hx⟩
structure MkS (w w2 : World) (b X : Nat) (O : Nat → Prop) (s : JSt) (x : MIns) (rg ag : Option Addr) (rc ac : Nat) (na : Option Addr) : Prop where
  known:KAt w2 b O s
  box:w2.heap[X]?=some (.cells #[.int .i64 x.op,.int .i64 x.a,.int .i64 x.b,.int .i64 x.c,.int .i64 x.k,.int .i64 x.n,.slice rg x.regs.length rc,.slice ag x.args.length ac] 46 (0,0))
  num:(typesL 6).In w2 (fun g=>¬ O g) [tInt] [.slice na 1 1]
  bel:Below w.heap.size w w2
  own:∀ k,O k→k<w.heap.size
  ok:JOk s
theorem MkS.start {w : World} {b : Nat} {O : Nat → Prop} {s : JSt} (x : MIns) (rg ag : Option Addr) (rc ac : Nat) (hO : ∀ k, O k → k < w.heap.size) (hJ : JOk s) (h : KAt w b O s) :
    MkS w ((w.alloc (.cells #[.int .i64 x.op,.int .i64 x.a,.int .i64 x.b,.int .i64 x.c,.int .i64 x.k,.int .i64 x.n,.slice rg x.regs.length rc,.slice ag x.args.length ac] 46)).alloc (.cells #[.int .i64 1,.int .i64 0,.slice none 0 0] 70)) b w.heap.size O s x rg ag rc ac (some ⟨w.heap.size+1,0,none⟩):=by
  have b1:=bel1 w (.cells #[.int .i64 x.op,.int .i64 x.a,.int .i64 x.b,.int .i64 x.c,.int .i64 x.k,.int .i64 x.n,.slice rg x.regs.length rc,.slice ag x.args.length ac] 46);have b2:=bel1 (w.alloc (.cells #[.int .i64 x.op,.int .i64 x.a,.int .i64 x.b,.int .i64 x.c,.int .i64 x.k,.int .i64 x.n,.slice rg x.regs.length rc,.slice ag x.args.length ac] 46)) (.cells #[.int .i64 1,.int .i64 0,.slice none 0 0] 70);refine ⟨(h.below b1).below b2,(b2.block _ (by simp)).trans (blockNew _ _ _),?_,b1.trans (b2.mono b1.size),hO,hJ⟩
  have:=one_new (w.alloc (.cells #[.int .i64 x.op,.int .i64 x.a,.int .i64 x.b,.int .i64 x.c,.int .i64 x.k,.int .i64 x.n,.slice rg x.regs.length rc,.slice ag x.args.length ac] 46)) O (fun k hk=>by have:=hO k hk;simp;omega) (t:=tInt) (a:=none) (c:=0) (d:=1) (leaf_in _ _ _ _ _) ⟨by decide,fun x hx=>by cases hx⟩
  rw [World.size_alloc] at this;exact this
section
variable {w w2 w3 : World} {b X : Nat} {O : Nat → Prop} {s : JSt} {x : MIns} {rg ag : Option Addr} {rc ac : Nat} {na : Option Addr}
theorem MkS.below (h : MkS w w2 b X O s x rg ag rc ac na) (k : Below w2.heap.size w2 w3) : MkS w w3 b X O s x rg ag rc ac na :=
  ⟨h.known.below k,(k.block X (lt_of_block h.box)).trans h.box,Lay.below h.num k,h.bel.trans (k.mono h.bel.size),h.own,h.ok⟩
theorem MkS.lt (h : MkS w w2 b X O s x rg ag rc ac na) : ∀ k, O k → k < w2.heap.size := fun k hk => Nat.lt_of_lt_of_le (h.own k hk) h.bel.size
theorem MkS.cells (h : MkS w w2 b X O s x rg ag rc ac na) : w2.cell? ⟨X, 0, none⟩ = some (.int .i64 x.op) ∧ w2.cell? ⟨X, 1, none⟩ = some (.int .i64 x.a) ∧ w2.cell? ⟨X, 2, none⟩ = some (.int .i64 x.b) ∧ w2.cell? ⟨X, 3, none⟩ = some (.int .i64 x.c) ∧ w2.cell? ⟨X, 4, none⟩ = some (.int .i64 x.k) ∧ w2.cell? ⟨X, 6, none⟩ = some (.slice rg x.regs.length rc) ∧ w2.cell? ⟨X, 7, none⟩ = some (.slice ag x.args.length ac) :=
  ⟨cellOf h.box 0 _ rfl,cellOf h.box 1 _ rfl,cellOf h.box 2 _ rfl,cellOf h.box 3 _ rfl,cellOf h.box 4 _ rfl,cellOf h.box 6 _ rfl,cellOf h.box 7 _ rfl⟩
theorem MkOut.nil {c : Int} (h : Below w.heap.size w w3) : MkOut w O c [] (.returned (.tuple #[.slice none 0 0, .int .i64 c])) w3 :=
  ⟨none,0,0,rfl,fun _=>⟨rfl,Nat.le_refl _,Lay.list_nil _ _ _ _ _⟩,h⟩
theorem MkOut.bad {c : Int} {l : List (TT 6)} (hc : c ≠ 0) (h : Below w.heap.size w w3) (a : Option Addr) (n d : Nat) : MkOut w O c l (.returned (.tuple #[.slice a n d, .int .i64 c])) w3 :=
  ⟨a,n,d,rfl,fun e=>absurd e hc,h⟩
theorem MkOut.num {c : Int} (h : MkS w w2 b X O s x rg ag rc ac na) (k : Below w2.heap.size w2 w3) : MkOut w O c [tInt] (.returned (.tuple #[.slice na 1 1, .int .i64 c])) w3 :=
  ⟨na,1,1,rfl,fun _=>⟨rfl,Nat.le_refl _,(h.below k).num⟩,(h.below k).bel⟩
end
theorem firstI2 (a b : Int) : firstI [a, b] = code2 a b := by
  unfold firstI code2;split
  · unfold firstI;split
    · rename_i h1 h2;simp [firstI,h2]
    · rfl
  · rfl
theorem firstI3 (a b c : Int) : firstI [a, b, c] = code2 a (code2 b c) := by
  rw [firstI,firstI2];rfl
theorem kmakes_num {w : World} {b : Nat} {O : Nat → Prop} {s : JSt} {x : MIns} {rg ag : Option Addr} {rc ac : Nat} (hO : ∀ k, O k → k < w.heap.size) (hJ : JOk s) (h : KAt w b O s) (hop : x.op = 1) :
    Calls Tryz.prog 81 #[.pointer (some ⟨b,0,none⟩),insV x rg ag rc ac] w fun e w'=>MkOut w O (s.makes x).1 (s.makes x).2 e w':=by
  have E:Hid (s.makes x=(0,[tInt])):=makes_num (.inl hop);have S0:=hid_of (MkS.start x rg ag rc ac hO hJ h);obtain ⟨xop,xa,xb,xc,xk,xn,xr,xs⟩:=x;simp only at hop
  subst hop;clear h;go_enter Tryz.func81,Tryz.ntmps81
  go_wp2
  go_ret2;rw [E.out];exact MkOut.num S0.out (Below.refl _ _)
theorem kmakes_in {w : World} {b : Nat} {O : Nat → Prop} {s : JSt} {x : MIns} {rg ag : Option Addr} {rc ac : Nat} (hO : ∀ k, O k → k < w.heap.size) (hJ : JOk s) (h : KAt w b O s) (hop : x.op = 12) :
    Calls Tryz.prog 81 #[.pointer (some ⟨b,0,none⟩),insV x rg ag rc ac] w fun e w'=>MkOut w O (s.makes x).1 (s.makes x).2 e w':=by
  have E:Hid (s.makes x=(0,[tInt])):=makes_num (.inr hop);have S0:=hid_of (MkS.start x rg ag rc ac hO hJ h);obtain ⟨xop,xa,xb,xc,xk,xn,xr,xs⟩:=x;simp only at hop
  subst hop;clear h;go_enter Tryz.func81,Tryz.ntmps81
  go_wp2
  go_ret2;rw [E.out];exact MkOut.num S0.out (Below.refl _ _)
end Go.Proofs.YtacjnejckfhpoaeGreat
