import Derived.Test.YtacjnejckfhpoaeGreatP3
import Derived.Lib.SliceRun
set_option maxHeartbeats 16000000
set_option maxRecDepth 100000
namespace Go.Proofs.YtacjnejckfhpoaeGreat
open Go.ChangeShapes Go.WideShapes Go.ChangeAt Go.RowKit
set_option linter.unusedSimpArgs false
set_option linter.unusedVariables false
theorem Qkp {w:World}{b:Nat}{O A Q:Nat→Prop}{s:JSt}{x:Qx}{rg ag:Option Addr}{rc ac:Nat}(hA:∀ k,A k→k<w.heap.size) (hJ:JOk s) (h:SAt w b O A s) (hregs:intsL.In w Q x.regs [.slice rg x.regs.length rc]) (hargs:intsL.In w Q x.args [.slice ag x.args.length ac]) (hrc:x.regs.length≤rc) (hrng:ZA x) (hf:x.form s.m.length=0) :
 Calls Tryz.prog 35 #[.pointer (some ⟨b,0,none⟩),Qdt x rg ag rc ac] w fun e w'=>Q0 w b O A s (s.next x) (s.goC x) e w':=by
 obtain⟨-,-,-,f4⟩:=Q9 hf
 rcases f4 with e | e | e | e | e | e | e | e | e | e | e | e | e | e
 ·exact Qj2 hA hJ h hregs hargs hrc hrng hf e
 ·exact Qj6 hA hJ h hregs hargs hrc hrng hf e
 ·exact Qj1 hA hJ h hregs hargs hrc hrng hf e
 ·exact QiS hA hJ h hregs hargs hrc hrng hf e
 ·exact Qip hA hJ h hregs hargs hrc hrng hf e
 ·exact Qko hA hJ h hregs hargs hrc hrng hf e
 ·exact Qkn hA hJ h hregs hargs hrc hrng hf e
 ·exact Qh3 hA hJ h hregs hargs hrc hrng hf e
 ·exact Qi7 hA hJ h hregs hargs hrc hrng hf e
 ·exact Qh6 hA hJ h hregs hargs hrc hrng hf e
 ·exact Qku hA hJ h hregs hargs hrc hrng hf e
 ·exact Qk5 hA hJ h hregs hargs hrc hrng hf e
 ·exact Qkk hA hJ h hregs hargs hrc hrng hf e
 ·exact Qi1 hA hJ h hregs hargs hrc hrng hf e
theorem STo.seal {w wc w2 w9:World}{b F0:Nat}{O A:Nat→Prop}{s:JSt}(hO:∀ k,O k→k<w.heap.size) (hb:Below w.heap.size w wc) (hF:w.heap.size≤F0∧F0<wc.heap.size) (h:STo wc w2 b O (fun k=>A k∨(w.heap.size≤k∧k<wc.heap.size)) s) (hc:Chg F0 w2 w9):STo w w9 b O A s:=by
 obtain⟨N,h1,h2,h3⟩:=h
 have e1:=hb.size;have e2:=h3.size;have e3:=hc.size;refine⟨fun k=>N k∨(w.heap.size≤k∧k<wc.heap.size),fun k hk=>?_,?_,?_⟩
 ·rcases hk with hk | hk
  ·have:=h1 k hk;omega
  ·omega
 ·refine h2.keep (fun k hl hk=>hc.block k hl (fun e=>?_)) (fun k hk _=>?_) (fun k hk _ e=>hk ?_) (fun k hk=>?_)
  ·subst e;rcases hk with hk | hk
   ·rcases hk with hk | hk
    ·have:=hO k hk;omega
    ·have:=h1 k hk;omega
   ·exact hk (.inl (.inr hF))
  ·rcases hk with hk | hk
   ·exact .inl hk
   ·exact .inr (.inl hk)
  ·rcases e with e | e | e
   ·exact .inl (.inl e)
   ·exact .inr e
   ·exact .inl (.inr e)
  ·rcases hk with hk | hk
   ·have:=h2.sub k (.inl hk)
    rcases this with (h | h) | h
    ·exact .inl h
    ·exact .inr (.inr h)
    ·exact .inr (.inl h)
   ·exact .inr hk
 ·refine⟨hc.os.trans (h3.os.trans hb.os),hc.tape.trans (h3.tape.trans hb.tape),hc.output.trans (h3.output.trans hb.output),by omega,fun k hk hn=>?_,fun k hk=>?_⟩
  ·exact(hc.block k (by omega) (by omega)).trans ((h3.block k (by omega) hn).trans (hb.block k hk))
  ·rcases hk with hk | hk | hk
   ·exact .inl hk
   ·have:=h1 k hk;exact .inr (by omega)
   ·exact .inr hk.1
theorem SAt.wall {w wc:World}{b:Nat}{O A:Nat→Prop}{s:JSt}(h:SAt w b O A s) (hb:Below w.heap.size w wc):SAt wc b O (fun k=>A k∨(w.heap.size≤k∧k<wc.heap.size)) s :=
 h.keep (fun g hg _=>hb.block g hg) (fun _ h _=>h) (fun k hk hl e=>by rcases e with e | e;exact hk e;omega) (fun k hk=>.inl (h.sub k hk))
theorem enters_ins1:QcU 34:=fun _ _=>by kernel_rfl
theorem enters_end1:QcU 52:=fun _ _=>by kernel_rfl
def QlV (b S0 X nm cm rc ac:Nat) (cf:Int) (pm rg ag:Option Addr) (x:Qx) (t:Tmp) (v:Value) (w:World):Prop :=
 v=(([(2,.pointer (some ⟨S0,0,none⟩)),(3,.pointer (some ⟨X,0,none⟩)),(6,.pointer (some ⟨b,0,none⟩)),(7,.pointer (some ⟨b,0,none⟩)),(8,.pointer (some ⟨b,0,none⟩)),(9,.agg #[.slice pm nm cm]),(10,.agg #[.int .i64 x.op,.int .i64 x.a,.int .i64 x.b,.int .i64 x.c,.int .i64 x.k,.int .i64 x.n,.slice rg x.regs.length rc,.slice ag x.args.length ac]),(11,.int .i64 cf),(5,.int .i64 cf)]:List (Tmp × Value)).lookup t).getD undef
theorem ji1 {w6:World}{b S0 X nm cm rc ac:Nat}{cf:Int}{pm rg ag:Option Addr}{x:Qx}(s0:w6.cell? ⟨S0,0,none⟩=some (.pointer (some ⟨b,0,none⟩))) (q0:w6.cell? ⟨b,0,none⟩=some (.slice pm nm cm)) (x0:w6.cell? ⟨X,0,none⟩=some (.int .i64 x.op)) (x1:w6.cell? ⟨X,1,none⟩=some (.int .i64 x.a)) (x2:w6.cell? ⟨X,2,none⟩=some (.int .i64 x.b)) (x3:w6.cell? ⟨X,3,none⟩=some (.int .i64 x.c)) (x4:w6.cell? ⟨X,4,none⟩=some (.int .i64 x.k)) (x5:w6.cell? ⟨X,5,none⟩=some (.int .i64 x.n)) (x6:w6.cell? ⟨X,6,none⟩=some (.slice rg x.regs.length rc)) (x7:w6.cell? ⟨X,7,none⟩=some (.slice ag x.args.length ac)) (hnm:nm<2305843009213693952) (HC:Hid (x.form nm=cf))
 (a:Act) (m:Nat) (hn:a.tmps.size=m) (hn':17≤m) (h2:a.tmps.getD 2 undef=.pointer (some ⟨S0,0,none⟩)) (h3:a.tmps.getD 3 undef=.pointer (some ⟨X,0,none⟩)) :
 Code.wp Tryz.prog ((Tryz.f12.body.bind (QF 1)).getD .skip) (fun e a' w'=>e=.normal∧∃ vs,a'=Z3 a vs [6,7,8,9,10,11,5]∧vs 5=.int .i64 cf∧Below w6.heap.size w6 w') a w6:=by
 conv=>arg 2;whnf
 refine Zs (QlV b S0 X nm cm rc ac cf pm rg ag x) (fun w=>Below w6.heap.size w6 w) (fun w w'=>Below w.heap.size w w') (outs:=[2,3]) (gs:=[]) (bs:=[true,true,true,true,true,true,true]) (by kernel_rfl) (n:=17) hn hn' (by kernel_rfl) ?hR ?hG (ZW (Below.refl _ _) 1) ⟨h2,h3,trivial⟩ ?hA ?hend
 case hR=>exact fun t v w w' _ h=>h
 case hG=>exact trivial
 case hend=>exact fun vs w' hW hk=>⟨rfl,vs,rfl,hk 5 (by kernel_rfl),hW⟩
 case hA =>
  refine⟨fun a w hW hk K hK=>?_,?_⟩
  ·obtain⟨k0,-⟩:=hk
   have k0:a.tmps.getD 2 undef=.pointer (some ⟨S0,0,none⟩):=k0;have c0:=QY s0 hW;go_simp;exact hK _ _ (Below.refl _ _) hW rfl
  refine⟨fun a w hW hk K hK=>?_,?_⟩
  ·obtain⟨k0,-⟩:=hk
   have k0:a.tmps.getD 6 undef=.pointer (some ⟨b,0,none⟩):=k0;go_simp;exact hK _ _ (Below.refl _ _) hW rfl
  refine⟨fun a w hW hk K hK=>?_,?_⟩
  ·obtain⟨k0,-⟩:=hk
   have k0:a.tmps.getD 7 undef=.pointer (some ⟨b,0,none⟩):=k0;go_simp;exact hK _ _ (Below.refl _ _) hW rfl
  refine⟨fun a w hW hk K hK=>?_,?_⟩
  ·obtain⟨k0,-⟩:=hk
   have k0:a.tmps.getD 8 undef=.pointer (some ⟨b,0,none⟩):=k0;have c0:=QY q0 hW;go_simp;exact hK _ _ (Below.refl _ _) hW rfl
  refine⟨fun a w hW hk K hK=>?_,?_⟩
  ·obtain⟨k0,-⟩:=hk
   have k0:a.tmps.getD 3 undef=.pointer (some ⟨X,0,none⟩):=k0;have c0:=QY x0 hW;have c1:=QY x1 hW;have c2:=QY x2 hW;have c3:=QY x3 hW;have c4:=QY x4 hW;have c5:=QY x5 hW;have c6:=QY x6 hW;have c7:=QY x7 hW;go_simp;exact hK _ _ (Below.refl _ _) hW rfl
  refine⟨fun a w hW hk K hK=>?_,?_⟩
  ·obtain⟨k0,k1,-⟩:=hk
   have k0:a.tmps.getD 9 undef=.agg #[.slice pm nm cm]:=k0;have k1:a.tmps.getD 10 undef=.agg #[.int .i64 x.op,.int .i64 x.a,.int .i64 x.b,.int .i64 x.c,.int .i64 x.k,.int .i64 x.n,.slice rg x.regs.length rc,.slice ag x.args.length ac]:=k1;go_simp;refine Calls.mono (Qgd nm x ⟨rg,rc,ag,ac⟩ pm cm _ hnm) ?_;rw[HC.out];rintro r7 w7 ⟨rfl,b7⟩;go_simp;exact hK _ _ b7 (hW.trans (b7.mono hW.size)) rfl
  refine⟨fun a w hW hk K hK=>?_,?_⟩
  ·obtain⟨k0,-⟩:=hk
   have k0:a.tmps.getD 11 undef=.int .i64 cf:=k0;go_simp;exact hK _ _ (Below.refl _ _) hW rfl
  trivial
theorem QhV {w:World}{b S0 X:Nat}{O A Q:Nat→Prop}{s:JSt}{x:Qx}{rg ag:Option Addr}{rc ac:Nat}(hS:Blk w S0 #[.pointer (some ⟨b,0,none⟩)] 28) (hX:Blk w X #[.int .i64 x.op,.int .i64 x.a,.int .i64 x.b,.int .i64 x.c,.int .i64 x.k,.int .i64 x.n,.slice rg x.regs.length rc,.slice ag x.args.length ac] 46) (hA:∀ k,A k→k<w.heap.size) (hJ:JOk s) (h:SAt w b O A s) (hregs:intsL.In w Q x.regs [.slice rg x.regs.length rc]) (hargs:intsL.In w Q x.args [.slice ag x.args.length ac]) (hrc:x.regs.length≤rc) (hrng:ZA x) (hf:x.form s.m.length=0) :
 Calls Tryz.prog 34 #[.pointer (some ⟨S0,0,none⟩),.pointer (some ⟨X,0,none⟩)] w fun e w'=>Q0 w b O A s (s.next x) (s.goC x) e w':=by
 have C:=Qa (Qkp hA hJ h hregs hargs hrc hrng hf);have s0:=Qb hS 0 _ rfl;have x0:=Qb hX 0 _ rfl;have x1:=Qb hX 1 _ rfl;have x2:=Qb hX 2 _ rfl;have x3:=Qb hX 3 _ rfl;have x4:=Qb hX 4 _ rfl;have x5:=Qb hX 5 _ rfl;have x6:=Qb hX 6 _ rfl;have x7:=Qb hX 7 _ rfl;clear hS hX hA hJ h hregs hargs hrc hrng hf;go_enter Tryz.func34,Tryz.ntmps34
 go_wp2_with fail
 refine C.out.mono ?_;rintro e' w9 hd;have FF:=Qa hd;rcases hd with ⟨h1,rfl,h3⟩|⟨h1,rfl,h3⟩
 rotate_left
 ·exact⟨rfl,FF.out⟩
 clear h1 h3 C;go_wp2
 exact bodyPost_end (v:=.tuple #[]) (by simp[results,Tryz.results34,go_sem]) rfl FF.out
theorem QfW {w:World}{b:Nat}{O A Q:Nat→Prop}{s:JSt}{x:Qx}{rg ag:Option Addr}{rc ac:Nat}(hA:∀ k,A k→k<w.heap.size) (hJ:JOk s) (h:SAt w b O A s) (hregs:intsL.In w Q x.regs [.slice rg x.regs.length rc]) (hargs:intsL.In w Q x.args [.slice ag x.args.length ac]) (hrc:x.regs.length≤rc) (hrng:ZA x) :
 Calls Tryz.prog 12 #[.pointer (some ⟨b,0,none⟩),Qdt x rg ag rc ac] w fun e w'=>e=.returned (.int .i64 (s.code x))∧STo w w' b O A (s.ins x):=by
 have hmf:∀ (fn:Fn) (first cap:Array Value) (w:World),(Instr.makeFunc fn first cap).run Tryz.prog w=.ok (.func fn first cap) w:=fun _ _ _ _=>rfl;have HJ:=Qa hJ;have H0:=Qa h;have HA0:=Qa hA;have HRN:=Qa hrng;have HRC:=Qa hrc;have b1:=QQ w (.cells #[.pointer (some ⟨b,0,none⟩)] 28);have b2:=QQ (w.alloc (.cells #[.pointer (some ⟨b,0,none⟩)] 28)) (.cells #[.int .i64 x.op,.int .i64 x.a,.int .i64 x.b,.int .i64 x.c,.int .i64 x.k,.int .i64 x.n,.slice rg x.regs.length rc,.slice ag x.args.length ac] 46);have bb:=b1.trans (b2.mono b1.size);have HB:=Qa bb;have H:=Qa (h.below bb);have HR:Hid (intsL.In _ Q x.regs [.slice rg x.regs.length rc]):=Lay.below hregs bb;have HG:Hid (intsL.In _ Q x.args [.slice ag x.args.length ac]):=Lay.below hargs bb;have hS:Blk ((w.alloc (.cells #[.pointer (some ⟨b,0,none⟩)] 28)).alloc (.cells #[.int .i64 x.op,.int .i64 x.a,.int .i64 x.b,.int .i64 x.c,.int .i64 x.k,.int .i64 x.n,.slice rg x.regs.length rc,.slice ag x.args.length ac] 46)) w.heap.size #[.pointer (some ⟨b,0,none⟩)] 28:=(Blk.new _ _ _:Blk (w.alloc (.cells #[.pointer (some ⟨b,0,none⟩)] 28)) w.heap.size _ _).below b2
 have hX:Blk ((w.alloc (.cells #[.pointer (some ⟨b,0,none⟩)] 28)).alloc (.cells #[.int .i64 x.op,.int .i64 x.a,.int .i64 x.b,.int .i64 x.c,.int .i64 x.k,.int .i64 x.n,.slice rg x.regs.length rc,.slice ag x.args.length ac] 46)) (w.heap.size+1) #[.int .i64 x.op,.int .i64 x.a,.int .i64 x.b,.int .i64 x.c,.int .i64 x.k,.int .i64 x.n,.slice rg x.regs.length rc,.slice ag x.args.length ac] 46:=by
  have:=Blk.new (w.alloc (.cells #[.pointer (some ⟨b,0,none⟩)] 28)) #[.int .i64 x.op,.int .i64 x.a,.int .i64 x.b,.int .i64 x.c,.int .i64 x.k,.int .i64 x.n,.slice rg x.regs.length rc,.slice ag x.args.length ac] 46
  simpa using this
 have HS:=Qa hS;have HX:=Qa hX;clear hS hX b1 b2 bb h hA hJ hregs hargs hrc hrng;go_enter Tryz.func12,Tryz.ntmps12
 go_upto_region 1 with fail
 generalize (w.alloc (.cells #[.pointer (some ⟨b,0,none⟩)] 28)).alloc (.cells #[.int .i64 x.op,.int .i64 x.a,.int .i64 x.b,.int .i64 x.c,.int .i64 x.k,.int .i64 x.n,.slice rg x.regs.length rc,.slice ag x.args.length ac] 46)=w1 at HB H HR HG HS HX ⊢;obtain⟨S0,hS0⟩:∃ S0,w.heap.size=S0:=⟨_,rfl⟩
 obtain⟨X,hX⟩:∃ X,S0+1=X:=⟨_,rfl⟩
 rw[hS0] at HS HX ⊢
 rw[hX] at HX ⊢
 clear hX hS0;have s0:=Qb HS.out 0 _ rfl;have x0:=Qb HX.out 0 _ rfl;have x1:=Qb HX.out 1 _ rfl;have x2:=Qb HX.out 2 _ rfl;have x3:=Qb HX.out 3 _ rfl;have x4:=Qb HX.out 4 _ rfl;have x5:=Qb HX.out 5 _ rfl;have x6:=Qb HX.out 6 _ rfl;have x7:=Qb HX.out 7 _ rfl;obtain⟨pm,cm,hh,a1,c1,a2,c2,a3,c3,aL,cL,RR⟩:=H.out.read
 obtain⟨q0,-⟩:=RR.cells
 obtain⟨cf,hcf⟩:∃ cf,x.form s.m.length=cf:=⟨_,rfl⟩
 have HCF:Hid (x.form s.m.length=cf):=hcf;clear hcf RR;refine Code.wp_mono ?_ (ji1 s0 q0 x0 x1 x2 x3 x4 x5 x6 x7 (by have:=HJ.out.mod.1.2;omega) HCF _ _ rfl (Nat.le_of_ble_eq_true (by kernel_rfl)) rfl rfl);rintro ee aa w5 ⟨rfl,vs,rfl,hv5,hb⟩;simp only[Z3,Act.put,List.setIfInBounds_toArray,List.set_cons_zero,List.set_cons_succ,hv5]
 have HB5:=Qa (HB.out.trans (hb.mono HB.out.size));have HS5:=Qa (HS.out.below hb);have HX5:=Qa (HX.out.below hb);have HR5:Hid (intsL.In w5 Q x.regs [.slice rg x.regs.length rc]):=Lay.below HR.out hb;have HG5:Hid (intsL.In w5 Q x.args [.slice ag x.args.length ac]):=Lay.below HG.out hb;clear hb hv5 s0 x0 x1 x2 x3 x4 x5 x6 x7 q0 HS HX HR HG HB H;by_cases hc0:cf=0
 rotate_left
 ·have hc0':(cf != 0)=true:=by simpa using hc0
  have E1:Hid (s.code x=cf):=by show _=_;unfold JSt.code;rw[HCF.out,if_pos hc0]
  have E2:Hid (s.ins x=s):=by show _=_;unfold JSt.ins;rw[if_neg (by rw[E1.out];exact hc0)]
  go_wp2_with fail
  go_ret;exact⟨by rw[E1.out];rfl,by rw[E2.out];exact STo.of_below H0.out HB5.out⟩
 subst hc0;have EC:=Qa (Qkh HCF.out);have b6:=QQ w5 (.cells #[.int .i64 0] 3);have bb6:=HB5.out.trans (b6.mono HB5.out.size);have HB6:=Qa bb6
 have CK:Hid (Calls Tryz.prog 33 #[.func (.func 34) #[] #[.pointer (some ⟨S0,0,none⟩),.pointer (some ⟨X,0,none⟩)]] w5 fun en w'=>Qfx w5.heap.size (fun w2=>s.goC x=0∧STo (w5.alloc (.cells #[.int .i64 0] 3)) w2 b O (fun k=>A k∨(w.heap.size≤k∧k<(w5.alloc (.cells #[.int .i64 0] 3)).heap.size)) (s.next x)) (fun c w2=>s.goC x=c∧c≠0∧STo (w5.alloc (.cells #[.int .i64 0] 3)) w2 b O (fun k=>A k∨(w.heap.size≤k∧k<(w5.alloc (.cells #[.int .i64 0] 3)).heap.size)) s) en w'):=by
  refine QcB _ _ enters_ins1 _ _ ?_;refine(QhV (A:=fun k=>A k∨(w.heap.size≤k∧k<(w5.alloc (.cells #[.int .i64 0] 3)).heap.size)) (HS5.out.below b6) (HX5.out.below b6) (fun k hk=>?_) HJ.out (H0.out.wall bb6) (Lay.below HR5.out b6) (Lay.below HG5.out b6) HRC.out HRN.out HCF.out).mono ?_
  ·rcases hk with hk | hk
   ·exact Nat.lt_of_lt_of_le (HA0.out k hk) bb6.size
   ·exact hk.2
  ·intro en w2 hd
   have hcell:STo (w5.alloc (.cells #[.int .i64 0] 3)) w2 b O (fun k=>A k∨(w.heap.size≤k∧k<(w5.alloc (.cells #[.int .i64 0] 3)).heap.size)) s∨STo (w5.alloc (.cells #[.int .i64 0] 3)) w2 b O (fun k=>A k∨(w.heap.size≤k∧k<(w5.alloc (.cells #[.int .i64 0] 3)).heap.size)) (s.next x):=by
    rcases hd with ⟨-,-,h⟩|⟨-,-,h⟩
    ·exact .inr h
    ·exact .inl h
   have hkeep:Blk w2 w5.heap.size #[.int .i64 0] 3:=by
    have hn:Blk (w5.alloc (.cells #[.int .i64 0] 3)) w5.heap.size #[.int .i64 0] 3:=Blk.new _ _ _;have hno:¬ O w5.heap.size:=fun e=>by have h1:=HA0.out _ (H0.out.sub _ e);have h2:=HB5.out.size;omega
    rcases hcell with ⟨N,-,-,st⟩|⟨N,-,-,st⟩
    ·exact(st.block _ hn.lt hno).trans hn
    ·exact(st.block _ hn.lt hno).trans hn
   rcases hd with ⟨h1,h2,h3⟩|⟨h1,h2,h3⟩
   ·exact⟨hkeep,.inl ⟨h2,h1,h3⟩⟩
   ·exact⟨hkeep,.inr ⟨_,h2,rfl,h1,h3⟩⟩
 have HSE:Hid (∀ w2 w9 s',STo (w5.alloc (.cells #[.int .i64 0] 3)) w2 b O (fun k=>A k∨(w.heap.size≤k∧k<(w5.alloc (.cells #[.int .i64 0] 3)).heap.size)) s'→Chg w5.heap.size w2 w9→STo w w9 b O A s'):=fun w2 w9 s' h1 h2=>STo.seal (fun k hk=>HA0.out k (H0.out.sub k hk)) HB6.out ⟨HB5.out.size,by simp⟩ h1 h2;clear b6 bb6 HS5 HX5 HR5 HG5;go_wp2_with fail
 refine CK.out.mono ?_;intro e' w9 hk
 have FF:Hid (e'=.returned (.int .i64 (s.code x))∧STo w w9 b O A (s.ins x)):=by
  rcases hk with ⟨w2,⟨g1,g2⟩,rfl,g3⟩|⟨w2,c,⟨g1,g2,g3⟩,rfl,g4⟩
  ·have e0:s.code x=0:=by rw[EC.out,g1]
   refine⟨by rw[e0],?_⟩
   unfold JSt.ins;rw[if_pos e0]
   exact HSE.out w2 w9 _ g2 g3
  ·have e0:s.code x=c:=by rw[EC.out,g1]
   refine⟨by rw[e0],?_⟩
   unfold JSt.ins;rw[if_neg (by rw[e0];exact g2)]
   exact HSE.out w2 w9 _ g3 g4
 obtain⟨rfl,-⟩:=id FF.out
 clear hk CK HSE;go_wp2
 go_ret;exact⟨rfl,FF.out.2⟩
def QlP (b S0 X fl c1 fm c2 bl c3:Nat) (fr cf:Int) (a1 a2 a3:Option Addr) (x:MEnd) (e:EP) (t:Tmp) (v:Value) (w:World):Prop :=
 v=(([(2,.pointer (some ⟨S0,0,none⟩)),(3,.pointer (some ⟨X,0,none⟩)),(6,.pointer (some ⟨b,0,none⟩)),(7,.pointer (some ⟨b,0,none⟩)),(8,.pointer (some ⟨b,2,none⟩)),(9,.agg #[.int .i64 fr,.slice a1 fl c1,.slice a2 fm c2,.slice a3 bl c3]),(10,.agg (Qck x e)),(11,.int .i64 cf),(5,.int .i64 cf)]:List (Tmp × Value)).lookup t).getD undef
theorem jE1 {w6:World}{b S0 X fl c1 fm c2 bl c3:Nat}{fr cf:Int}{a1 a2 a3:Option Addr}{x:MEnd}{e:EP}(s0:w6.cell? ⟨S0,0,none⟩=some (.pointer (some ⟨b,0,none⟩))) (q2:w6.cell? ⟨b,2,none⟩=some (.int .i64 fr)) (q3:w6.cell? ⟨b,3,none⟩=some (.slice a1 fl c1)) (q4:w6.cell? ⟨b,4,none⟩=some (.slice a2 fm c2)) (q5:w6.cell? ⟨b,5,none⟩=some (.slice a3 bl c3)) (HX:Hid (w6.rangeAt X 0 (Qck x e).toList)) (HS:Hid (x.yes.regs.length<2305843009213693952∧x.yes.args.length<2305843009213693952∧x.no.regs.length<2305843009213693952∧x.no.args.length<2305843009213693952)) (hbl:bl<2305843009213693952) (HC:Hid (x.form bl=cf))
 (a:Act) (m:Nat) (hn:a.tmps.size=m) (hn':17≤m) (h2:a.tmps.getD 2 undef=.pointer (some ⟨S0,0,none⟩)) (h3:a.tmps.getD 3 undef=.pointer (some ⟨X,0,none⟩)) :
 Code.wp Tryz.prog ((Tryz.f24.body.bind (QF 1)).getD .skip) (fun e a' w'=>e=.normal∧∃ vs,a'=Z3 a vs [6,7,8,9,10,11,5]∧vs 5=.int .i64 cf∧Below w6.heap.size w6 w') a w6:=by
 conv=>arg 2;whnf
 refine Zs (QlP b S0 X fl c1 fm c2 bl c3 fr cf a1 a2 a3 x e) (fun w=>Below w6.heap.size w6 w) (fun w w'=>Below w.heap.size w w') (outs:=[2,3]) (gs:=[]) (bs:=[true,true,true,true,true,true,true]) (by kernel_rfl) (n:=17) hn hn' (by kernel_rfl) ?hR ?hG (ZW (Below.refl _ _) 1) ⟨h2,h3,trivial⟩ ?hA ?hend
 case hR=>exact fun t v w w' _ h=>h
 case hG=>exact trivial
 case hend=>exact fun vs w' hW hk=>⟨rfl,vs,rfl,hk 5 (by kernel_rfl),hW⟩
 case hA =>
  refine⟨fun a w hW hk K hK=>?_,?_⟩
  ·obtain⟨k0,-⟩:=hk
   have k0:a.tmps.getD 2 undef=.pointer (some ⟨S0,0,none⟩):=k0;have c0:=QY s0 hW;go_simp;exact hK _ _ (Below.refl _ _) hW rfl
  refine⟨fun a w hW hk K hK=>?_,?_⟩
  ·obtain⟨k0,-⟩:=hk
   have k0:a.tmps.getD 6 undef=.pointer (some ⟨b,0,none⟩):=k0;go_simp;exact hK _ _ (Below.refl _ _) hW rfl
  refine⟨fun a w hW hk K hK=>?_,?_⟩
  ·obtain⟨k0,-⟩:=hk
   have k0:a.tmps.getD 7 undef=.pointer (some ⟨b,0,none⟩):=k0;go_simp;exact hK _ _ (Below.refl _ _) hW rfl
  refine⟨fun a w hW hk K hK=>?_,?_⟩
  ·obtain⟨k0,-⟩:=hk
   have k0:a.tmps.getD 8 undef=.pointer (some ⟨b,2,none⟩):=k0;have c1:=QY q2 hW;have c2:=QY q3 hW;have c3:=QY q4 hW;have c4:=QY q5 hW;go_simp;exact hK _ _ (Below.refl _ _) hW rfl
  refine⟨fun a w hW hk K hK=>?_,?_⟩
  ·obtain⟨k0,-⟩:=hk
   have k0:a.tmps.getD 3 undef=.pointer (some ⟨X,0,none⟩):=k0;obtain⟨fs,hfs⟩:=underEnd
   refine wp_load_mid 58 (.tmp 3) rfl X 0 k0 (Qck x e).toList _ (ZX HX.out hW) hfs rfl sizeEnd ?_;exact hK _ _ (Below.refl _ _) hW rfl
  refine⟨fun a w hW hk K hK=>?_,?_⟩
  ·obtain⟨k0,k1,-⟩:=hk
   have k0:a.tmps.getD 9 undef=.agg #[.int .i64 fr,.slice a1 fl c1,.slice a2 fm c2,.slice a3 bl c3]:=k0;have k1:a.tmps.getD 10 undef=.agg (Qck x e):=k1;go_simp;refine Calls.mono (Qga (x:=x) (e:=e) HS.out hbl) ?_;rw[HC.out];rintro r7 w7 ⟨rfl,b7⟩;go_simp;exact hK _ _ b7 (hW.trans (b7.mono hW.size)) rfl
  refine⟨fun a w hW hk K hK=>?_,?_⟩
  ·obtain⟨k0,-⟩:=hk
   have k0:a.tmps.getD 11 undef=.int .i64 cf:=k0;go_simp;exact hK _ _ (Below.refl _ _) hW rfl
  trivial
theorem Qey {w:World}{X:Nat}{c:Array Value}{t:TypeId}(h:Blk w X c t):w.rangeAt X 0 c.toList:=fun j v hj=>by
 rw[Nat.zero_add]
 rw[Array.getElem?_toList] at hj
 exact Qb h j v hj
theorem Qik {w:World}{b S0 X:Nat}{O A Q:Nat→Prop}{s:JSt}{x:MEnd}{e:EP}(hS:Blk w S0 #[.pointer (some ⟨b,0,none⟩)] 28) (hX:Blk w X (Qck x e) 58) (hJ:JOk s) (hO:∀ k,O k→k<w.heap.size) (h:SAt w b O A s) (hx:QcP w Q x e) (hra:-9223372036854775808≤x.a∧x.a≤9223372036854775807) (hf:x.form s.f.blocks.length=0) :
 Calls Tryz.prog 52 #[.pointer (some ⟨S0,0,none⟩),.pointer (some ⟨X,0,none⟩)] w fun r w'=>ZG (s.fin x) VNone r∧Below w.heap.size w w':=by
 have C:=Qa (QjE hJ hO h hx hra hf);have s0:=Qb hS 0 _ rfl;have HX:=Qa (Qey hX);clear hS hX hJ h hx hra hf hO;obtain⟨fs,hfs⟩:=underEnd
 have HFS:=Qa hfs;clear hfs;generalize hds:Qck x e=ds at C HX;have HSZ:Hid ((Tryz.prog.info? 58).map (·.size)=some ds.toList.length):=by show _=_;rw[← hds];exact sizeEnd
 clear hds;go_enter Tryz.func52,Tryz.ntmps52
 go_wp2_with (refine wpList_load_mid rfl 58 (.tmp 1) rfl X 0 rfl ds.toList _ HX.out HFS.out rfl HSZ.out ?_)
 refine C.out.mono ?_;rintro e' w9 hd;have FF:=Qa hd;obtain⟨hq,b9⟩:=hd
 rcases hq with ⟨hc,y,rfl,hy⟩|⟨hc,rfl⟩
 rotate_left
 ·exact⟨rfl,FF.out⟩
 subst hy;clear hc b9 C;go_wp2
 exact bodyPost_end (v:=.tuple #[]) (by simp[results,Tryz.results52,go_sem]) rfl FF.out
theorem Qjw {w:World}{b:Nat}{O A Q:Nat→Prop}{s:JSt}{x:MEnd}{e:EP}(hA:∀ k,A k→k<w.heap.size) (hJ:JOk s) (h:SAt w b O A s) (hx:QcP w Q x e) (hra:-9223372036854775808≤x.a∧x.a≤9223372036854775807) (hs:x.yes.regs.length<2305843009213693952∧x.yes.args.length<2305843009213693952∧x.no.regs.length<2305843009213693952∧x.no.args.length<2305843009213693952) :
 Calls Tryz.prog 24 #[.pointer (some ⟨b,0,none⟩),.agg (Qck x e)] w fun r w'=>r=.returned (.int .i64 (s.fin x))∧Below w.heap.size w w':=by
 have hmf:∀ (fn:Fn) (first cap:Array Value) (w:World),(Instr.makeFunc fn first cap).run Tryz.prog w=.ok (.func fn first cap) w:=fun _ _ _ _=>rfl;have HJ:=Qa hJ;have H0:=Qa h;have HA0:=Qa hA;have HRA:=Qa hra;have HSS:=Qa hs;have b1:=QQ w (.cells #[.pointer (some ⟨b,0,none⟩)] 28);have b2:=QQ (w.alloc (.cells #[.pointer (some ⟨b,0,none⟩)] 28)) (.cells #[.int .i64 x.op,.int .i64 x.a,.int .i64 x.yes.block,.slice e.pYR x.yes.regs.length e.cYR,.slice e.pYA x.yes.args.length e.cYA,.int .i64 x.no.block,.slice e.pNR x.no.regs.length e.cNR,.slice e.pNA x.no.args.length e.cNA,.slice e.pA x.args.length e.cA] 58);have bb:=b1.trans (b2.mono b1.size);have HB:=Qa bb;have H:=Qa (h.below bb);have HEI:=Qa (hx.below bb);have hS:Blk ((w.alloc (.cells #[.pointer (some ⟨b,0,none⟩)] 28)).alloc (.cells #[.int .i64 x.op,.int .i64 x.a,.int .i64 x.yes.block,.slice e.pYR x.yes.regs.length e.cYR,.slice e.pYA x.yes.args.length e.cYA,.int .i64 x.no.block,.slice e.pNR x.no.regs.length e.cNR,.slice e.pNA x.no.args.length e.cNA,.slice e.pA x.args.length e.cA] 58)) w.heap.size #[.pointer (some ⟨b,0,none⟩)] 28:=(Blk.new _ _ _:Blk (w.alloc (.cells #[.pointer (some ⟨b,0,none⟩)] 28)) w.heap.size _ _).below b2
 have hX:Blk ((w.alloc (.cells #[.pointer (some ⟨b,0,none⟩)] 28)).alloc (.cells #[.int .i64 x.op,.int .i64 x.a,.int .i64 x.yes.block,.slice e.pYR x.yes.regs.length e.cYR,.slice e.pYA x.yes.args.length e.cYA,.int .i64 x.no.block,.slice e.pNR x.no.regs.length e.cNR,.slice e.pNA x.no.args.length e.cNA,.slice e.pA x.args.length e.cA] 58)) (w.heap.size+1) (Qck x e) 58:=by
  have:=Blk.new (w.alloc (.cells #[.pointer (some ⟨b,0,none⟩)] 28)) (Qck x e) 58
  simpa using this
 have HS:=Qa hS;have HX:=Qa hX;clear hS hX b1 b2 bb h hA hJ hx hra hs;go_enter Tryz.func24,Tryz.ntmps24
 go_upto_region 1 with fail
 generalize (w.alloc (.cells #[.pointer (some ⟨b,0,none⟩)] 28)).alloc (.cells #[.int .i64 x.op,.int .i64 x.a,.int .i64 x.yes.block,.slice e.pYR x.yes.regs.length e.cYR,.slice e.pYA x.yes.args.length e.cYA,.int .i64 x.no.block,.slice e.pNR x.no.regs.length e.cNR,.slice e.pNA x.no.args.length e.cNA,.slice e.pA x.args.length e.cA] 58)=w1 at HB H HEI HS HX ⊢;obtain⟨S0,hS0⟩:∃ S0,S0=w.heap.size:=⟨_,rfl⟩
 obtain⟨X,hX⟩:∃ X,X=S0+1:=⟨_,rfl⟩
 rw[← hS0] at HS HX ⊢
 rw[← hX] at HX ⊢
 have HSZ:=Qa hS0;clear hX hS0;have s0:=Qb HS.out 0 _ rfl;have HXR:=Qa (Qey HX.out);obtain⟨pm,cm,hh,a1,c1,a2,c2,a3,c3,aL,cL,RR⟩:=H.out.read
 obtain⟨-,-,q2,q3,q4,q5,-⟩:=RR.cells
 obtain⟨cf,hcf⟩:∃ cf,x.form s.f.blocks.length=cf:=⟨_,rfl⟩
 have HCF:Hid (x.form s.f.blocks.length=cf):=hcf;have HFR:=Qa (HJ.out.mod.2 s.f HJ.out.fn);clear hcf RR;refine Code.wp_mono ?_ (jE1 s0 q2 q3 q4 q5 HXR HSS (by have:=HFR.out.many.2;omega) HCF _ _ rfl (Nat.le_of_ble_eq_true (by kernel_rfl)) rfl rfl);rintro ee aa w5 ⟨rfl,vs,rfl,hv5,hb⟩;simp only[Z3,Act.put,List.setIfInBounds_toArray,List.set_cons_zero,List.set_cons_succ,hv5]
 have HB5:=Qa (HB.out.trans (hb.mono HB.out.size));have HS5:=Qa (HS.out.below hb);have HX5:=Qa (HX.out.below hb);have HE5:=Qa (HEI.out.below hb);clear hb hv5 s0 q2 q3 q4 q5 HS HX HB H HXR HEI;by_cases hc0:cf=0
 rotate_left
 ·have hc0':(cf != 0)=true:=by simpa using hc0
  have E1:Hid (s.fin x=cf):=by show _=_;unfold JSt.fin;rw[HCF.out,if_pos hc0]
  go_wp2_with fail
  go_ret;exact⟨by rw[E1.out];rfl,by first | exact HB5.out | (rw[HSZ.out];exact HB5.out)⟩
 subst hc0;have b6:=QQ w5 (.cells #[.int .i64 0] 3);have bb6:=HB5.out.trans (b6.mono HB5.out.size)
 have CK:Hid (Calls Tryz.prog 33 #[.func (.func 52) #[] #[.pointer (some ⟨S0,0,none⟩),.pointer (some ⟨X,0,none⟩)]] w5 fun en w'=>Qfx w5.heap.size (fun w2=>s.fin x=0∧Below (w5.alloc (.cells #[.int .i64 0] 3)).heap.size (w5.alloc (.cells #[.int .i64 0] 3)) w2) (fun c w2=>s.fin x=c∧Below (w5.alloc (.cells #[.int .i64 0] 3)).heap.size (w5.alloc (.cells #[.int .i64 0] 3)) w2) en w'):=by
  refine QcB _ _ enters_end1 _ _ ?_;refine(Qik (HS5.out.below b6) (HX5.out.below b6) HJ.out (fun k hk=>Nat.lt_of_lt_of_le (HA0.out k (H0.out.sub k hk)) bb6.size) (H0.out.below bb6) (HE5.out.below b6) HRA.out HCF.out).mono ?_
  rintro en w2 ⟨hd,hb2⟩;have hkeep:Blk w2 w5.heap.size #[.int .i64 0] 3:=(Blk.new w5 #[.int .i64 0] 3).below hb2;rcases hd with ⟨hc,y,rfl,hy⟩|⟨hc,rfl⟩
  ·subst hy;exact⟨hkeep,.inl ⟨rfl,hc,hb2⟩⟩
  ·exact⟨hkeep,.inr ⟨_,rfl,rfl,hb2⟩⟩
 have HSE:Hid (∀ w2 w9,Below (w5.alloc (.cells #[.int .i64 0] 3)).heap.size (w5.alloc (.cells #[.int .i64 0] 3)) w2→Chg w5.heap.size w2 w9→Below w.heap.size w w9):=fun w2 w9 h1 h2 =>
  Chg.last (bb6.trans (h1.mono bb6.size)) h2 HB5.out.size (Nat.le_trans bb6.size h1.size)
 clear b6 bb6 HS5 HX5 HE5;go_wp2_with fail
 refine CK.out.mono ?_;intro e' w9 hk
 have FF:Hid (e'=.returned (.int .i64 (s.fin x))∧Below w.heap.size w w9):=by
  rcases hk with ⟨w2,⟨g1,g2⟩,rfl,g3⟩|⟨w2,c,⟨g1,g2⟩,rfl,g4⟩
  ·exact⟨by rw[g1],HSE.out w2 w9 g2 g3⟩
  ·exact⟨by rw[g1],HSE.out w2 w9 g2 g4⟩
 obtain⟨rfl,-⟩:=id FF.out
 clear hk CK HSE;go_wp2
 go_ret;first | exact⟨rfl,FF.out.2⟩ | exact⟨rfl,by rw[HSZ.out];exact FF.out.2⟩
def QaZ {n:Nat}(w:World) (Q:Nat→Prop) (l:List (TT n)) (e:Ending) (w':World):Prop :=
 ∃ v ds,e=.returned v∧w'.ownsRow 0 70 3 v l.length ds∧(∀ g,v.ownBlock=some g→w.heap.size≤g)∧(∀ i x,l[i]?=some x→(Lay.tt n).In w Q x ((ds.drop (i*3)).take 3))∧Below w.heap.size w w'
theorem Qdh {n:Nat}{w:World}{Q:Nat→Prop}{l:List (TT n)}{p:Option Addr}{N c:Nat}(hN:l.length=N) (hN2:N≤5000) (hl:(Qh n).In w Q l [.slice p N c]) :
 Calls Tryz.prog 30 #[.slice p N c] w fun e w'=>QaZ w Q l e w':=by
 obtain⟨i0,hi,hz0,hz1,hz2⟩:=pInfoT
 have q:∀ (w:World) (a:Option Addr) (n c n' c':Nat),(binOp .eql 33 (.slice a n c) (.slice none n' c')).run Tryz.prog w=.ok (.bool a.isNone) w:=fun w a n c n' c'=>Lib.run_eql_slice_nil w _ _ a n c n' c' pUnderT;have HL:=Qa hl;have HN:=Qa hN;clear hl hN
 cases p with
 | none =>
   have hl0:l=[]:=by
    rcases l with _ | ⟨x,r⟩
    ·rfl
    ·obtain⟨g,o,ds,e,-⟩:=Lay.list_at HL.out (i:=0) (x:=x) rfl
     cases e
   subst hl0;have hN0:N=0:=by have:=HN.out;simpa using this.symm
   subst hN0;have HZ:Hid (QaZ w Q ([]:List (TT n)) (.returned (.slice none 0 0)) w):=⟨.slice none 0 0,[],rfl,⟨rfl,.inl ⟨rfl,rfl⟩⟩,fun g hg=>by simp[Value.ownBlock] at hg,fun i x hx=>by simp at hx,Below.refl _ _⟩;clear HL HN;go_enter Tryz.func30,Tryz.ntmps30
   go_wp2
   go_ret;exact HZ.out
 | some ad =>
   have b1:=QQ w (.cells #[] 70);have hown0:(w.alloc (.cells #[] 70)).ownsRow 0 70 3 (.slice (some ⟨w.heap.size,0,none⟩) 0 0) 0 []:=⟨rfl,.inr ⟨w.heap.size,0,#[],rfl,Nat.zero_le _,Qu w _ _,Nat.le_refl _,by unfold maxLen;omega,rfl,rfl⟩⟩;have HB:=Qa b1;have HOW:=Qa hown0;by_cases hn0:N=0
   ·subst hn0;have hl0:l=[]:=List.length_eq_zero_iff.1 HN.out;subst hl0;have ha:Hid (∀ (t:TypeId) (wx:World),(Builtin.append_ #[33,33] t #[.slice (some ⟨w.heap.size,0,none⟩) 0 0,.slice (some ad) 0 c]).run Tryz.prog wx=.ok (.slice (some ⟨w.heap.size,0,none⟩) 0 0) wx):=fun (t:TypeId) (wx:World)=>run_append_nothing (P:=Tryz.prog) wx 33 33 t 70 i0 pUnderT hi (some ⟨w.heap.size,0,none⟩) 0 0 (Nat.le_refl _) (.slice (some ad) 0 c) (Src.ofSlice wx pUnderT ad 0 c [] (by simp) (fun j u h=>by simp at h) (fun u h=>by cases h));have HZ:Hid (QaZ w Q ([]:List (TT n)) (.returned (.slice (some ⟨w.heap.size,0,none⟩) 0 0)) (w.alloc (.cells #[] 70))):=⟨_,[],rfl,HOW.out,fun g hg=>by simp[Value.ownBlock] at hg;omega,fun i x hx=>by simp at hx,HB.out⟩;clear HL HN HB HOW hown0 b1;generalize hw1:w.alloc (.cells #[] 70)=w1 at HZ;go_enter Tryz.func30,Tryz.ntmps30
    go_wp2_with (at_builtin;refine Zv rfl (.tmp 5) (.tmp 6) 33 rfl (.slice (some ⟨w.heap.size,0,none⟩) 0 0) (.slice (some ad) 0 c) rfl rfl (ha.out _ _) ?_)
    go_ret;first | exact HZ.out | (rw[hw1];exact HZ.out)
   ·obtain⟨g0,o0,e0⟩:∃ g0 o0,(some ad)=some (⟨g0,o0,none⟩:Addr):=by
     obtain⟨g,o,dd,e,-⟩:=Lay.list_at HL.out (List.getElem?_eq_getElem (show 0<l.length by have:=HN.out;omega))
     exact⟨g,o,e⟩
    cases e0
    obtain⟨ds,d1,d2,d3,d4⟩:=Lay.flat HL.out (fun y cs hy=>by obtain⟨ya,yc,e,-⟩:=hy;subst e;exact Qkv _ _ _ _ _)
    have d1':ds.length=N*3:=by rw[← HN.out];exact d1
    have HD1:=Qa d1';have HD2:Hid (∀ (j:Nat) (u:Value),ds[j]?=some u→(w.alloc (.cells #[] 70)).cell? ((⟨g0,o0,none⟩:Addr).add j)=some u):=fun j u hj=>QY (d2 j u hj) HB.out;have HD3:=Qa d3
    have HPU:Hid (∀ w9 g cap2,w9.ownsRow 0 70 3 (.slice (some ⟨g,0,none⟩) N cap2) N ds→(w.alloc (.cells #[] 70)).grownBy w9 (some w.heap.size)→(w.heap.size=g∨g=w.heap.size+1)→QaZ w Q l (.returned (.slice (some ⟨g,0,none⟩) N cap2)) w9):=by
     intro w9 g cap2 r1 r2 r3;have hsz:=r2.size;refine⟨_,ds,rfl,by rw[HN.out];exact r1,fun g' hg'=>?_,d4,⟨r2.os.trans HB.out.os,r2.tape.trans HB.out.tape,r2.output.trans HB.out.output,by simp at hsz;omega,fun k hk=>?_⟩⟩
     ·simp[Value.ownBlock] at hg'
      omega
     ·exact(r2.block k (by simp;omega) (fun e=>by injection e with e;omega)).trans (HB.out.block k hk)
    clear HL HB d1 d1' d2 d3 d4 hown0 b1;have hn1:0<N:=by omega
    have HSZ:Hid (0≤(w.alloc (.cells #[] 70)).heap.size):=Nat.zero_le _;go_enter Tryz.func30,Tryz.ntmps30
    go_wp2_with (at_builtin;refine wpList_append_lies _ rfl (.tmp 5) (.tmp 6) 33 rfl 0 70 i0 (.agg #[.int .i64 0,.int .i64 0,.slice none 0 0]) 3 40 pUnderT hi hz0 hz1 hz2 rfl (by decide) _ _ _ rfl HOW.out ⟨g0,o0,none⟩ N c ds rfl HD1.out HD2.out HD3.out hn1 (by unfold maxLen;omega) (by omega) HSZ.out (w.heap.size+1) (by simp) ?_)
    intro g2 cap2 w9 r1 r2 r3 r4;have Z9:=Qa (HPU.out w9 g2 cap2 (by simpa using r1) (by simpa[Value.ownBlock] using r2) (by simpa[Value.ownBlock] using r3));clear r1 r2 r3 r4 HPU HOW;go_wp2
    go_ret;first | exact Z9.out | simpa using Z9.out
def Qe6 {n:Nat}(lo:Nat) (w:World) (g N i:Nat) (l:List (TT n)):Prop :=
 ∃ cur,w.heap[g]?=some (.cells cur 70 (0,0))∧N*3≤cur.size∧∀ (j:Nat) (x:TT n),l[j]?=some x→∃ a c,cur[j*3]?=some (.int .i64 x.kind)∧cur[j*3+1]?=some (.int .i64 x.r)∧cur[j*3+2]?=some (.slice a x.len c)∧TIn w (fun k=>k≠g∧(j<i→lo≤k)) x a
section
variable {n lo g N i:Nat}{w w':World}{l:List (TT n)}
theorem Qe6.below (h:Qe6 lo w g N i l) (b:Below w.heap.size w w'):Qe6 lo w' g N i l:=by
 obtain⟨cur,h1,h2,h3⟩:=h
 refine⟨cur,(b.block g (lt_of_block h1)).trans h1,h2,fun j x hx=>?_⟩
 obtain⟨a,c,q0,q1,q2,q3⟩:=h3 j x hx
 exact⟨a,c,q0,q1,q2,q3.below b⟩
theorem Qe6.lt (h:Qe6 lo w g N i l):g<w.heap.size:=by obtain⟨cur,h1,-⟩:=h;exact lt_of_block h1
theorem Qe6.free (h:Qe6 lo w g N i l) (k:Nat):w.frozen? ⟨g,k,none⟩=false:=by obtain⟨cur,h1,-⟩:=h;exact Qo h1 k
theorem Qe6.at (h:Qe6 lo w g N i l){j:Nat}{x:TT n}(hx:l[j]?=some x):∃ a c,w.cell? ⟨g,j*3+2,none⟩=some (.slice a x.len c)∧TIn w (fun k=>k≠g∧(j<i→lo≤k)) x a:=by
 obtain⟨cur,h1,h2,h3⟩:=h
 obtain⟨a,c,q0,q1,q2,q3⟩:=h3 j x hx
 exact⟨a,c,Qb h1 _ _ q2,q3⟩
theorem Qe6.set (h:Qe6 lo w g N i l){x:TT n}{a:Option Addr}{c:Nat}(hx:l[i]?=some x) (hiN:i<N) (ht:TIn w (fun k=>k≠g∧lo≤k) x a):Qe6 lo (w.setCell ⟨g,i*3+2,none⟩ (.slice a x.len c)) g N (i+1) l:=by
 obtain⟨cur,h1,h2,h3⟩:=h
 refine⟨_,Qk h1 (i*3+2) (.slice a x.len c),by simpa using h2,fun j y hy=>?_⟩
 obtain⟨b,d,q0,q1,q2,q3⟩:=h3 j y hy
 by_cases hj:j=i
 ·subst hj;rw[hx] at hy
  injection hy with hy
  subst hy;refine⟨a,c,?_,?_,?_,(ht.setCell (fun e=>e.1 rfl) _).mono (fun k hk _=>⟨hk.1,fun _=>hk.2⟩)⟩
  ·rw[Array.getElem?_setIfInBounds,if_neg (by omega)];exact q0
  ·rw[Array.getElem?_setIfInBounds,if_neg (by omega)];exact q1
  ·rw[Array.getElem?_setIfInBounds,if_pos rfl,if_pos (by omega)]
 ·refine⟨b,d,?_,?_,?_,(q3.setCell (fun e=>e.1 rfl) _).mono (fun k hk _=>⟨hk.1,fun h=>hk.2 (by omega)⟩)⟩
  ·rw[Array.getElem?_setIfInBounds,if_neg (by omega)];exact q0
  ·rw[Array.getElem?_setIfInBounds,if_neg (by omega)];exact q1
  ·rw[Array.getElem?_setIfInBounds,if_neg (by omega)];exact q2
theorem Qe6.lin (h:Qe6 lo w g N i l) (hi:l.length≤i) (hg:lo≤g):LIn w (Zm lo) l (some ⟨g,0,none⟩):=by
 obtain⟨cur,h1,h2,h3⟩:=h
 intro j x hx;obtain⟨a,c,q0,q1,q2,q3⟩:=h3 j x hx
 have hj:j<l.length:=(List.getElem?_eq_some_iff.1 hx).1;refine⟨g,0,a,c,rfl,hg,?_,?_,?_,q3.mono (fun k hk _=>hk.2 (by omega))⟩
 ·rw[Nat.zero_add];exact Qb h1 _ _ q0
 ·rw[Nat.zero_add];exact Qb h1 _ _ q1
 ·rw[Nat.zero_add];exact Qb h1 _ _ q2
end
def Qbp {n:Nat}(w w':World) (l:List (TT n)) (e:Ending):Prop:=∃ a' c',e=.returned (.slice a' l.length c')∧l.length≤c'∧LIn w' (Zm w.heap.size) l a'∧Below w.heap.size w w'
def Qkm (n:Nat):Prop:=∀ (l:List (TT n)) (a:Option Addr) (c:Nat) (w:World),(Qh n).In w All l [.slice a l.length c]→l.length≤5000→(∀ x∈l,x.count≤5000)→Calls Tryz.prog 31 #[.slice a l.length c] w fun e w'=>Qbp w w' l e
def Qkx (n:Nat):Prop:=∀ (x:TT n) (a:Option Addr) (c:Nat) (w:World),TIn w All x a→x.ok→x.count≤5000→Calls Tryz.prog 31 #[.slice a x.len c] w fun e w'=>∃ a' c',e=.returned (.slice a' x.len c')∧TIn w' (Zm w.heap.size) x a'∧Below w.heap.size w w'
theorem QaZ.row {n:Nat}{w w':World}{Q:Nat→Prop}{l:List (TT n)}{e:Ending}(h:QaZ w Q l e w'):∃ a c,e=.returned (.slice a l.length c)∧l.length≤c∧Below w.heap.size w w'∧(l≠[]→∃ g,a=some ⟨g,0,none⟩∧w.heap.size≤g∧Qe6 w.heap.size w' g l.length 0 l):=by
 obtain⟨v,ds,rfl,⟨h1,h2⟩,h3,h4,h5⟩:=h
 rcases h2 with ⟨rfl,e2⟩|⟨g,cap,cur,rfl,-,hh,hn,hm,hs,ht⟩
 ·have hl:l=[]:=List.length_eq_zero_iff.1 e2;subst hl;exact⟨none,0,rfl,Nat.le_refl _,h5,fun e=>absurd rfl e⟩
 ·refine⟨some ⟨g,0,none⟩,cap,rfl,hn,h5,fun _=>⟨g,rfl,h3 g rfl,cur,hh,?_,fun j x hx=>?_⟩⟩
  ·have:l.length*3≤cap*3:=Nat.mul_le_mul_right _ hn
   omega
  ·have hj:j<l.length:=(List.getElem?_eq_some_iff.1 hx).1;obtain⟨a,c,e,q1,q2⟩:=h4 j x hx
   have hc:∀ i u,i<3→((ds.drop (j*3)).take 3)[i]?=some u→cur[j*3+i]?=some u:=fun i u hi hu=>by
    rw[List.getElem?_take,if_pos hi,List.getElem?_drop,← ht,List.getElem?_take,if_pos (by omega),Array.getElem?_toList] at hu
    exact hu
   rw[e] at hc
   have hg:=h3 g rfl;exact⟨a,c,hc 0 _ (by omega) rfl,hc 1 _ (by omega) rfl,hc 2 _ (by omega) rfl,(TIn.keep (O':=fun k=>k<w.heap.size) (fun k _ hk=>h5.block k hk) (fun _ _ h=>h) q1).mono (fun k hk _=>⟨by omega,fun e=>absurd e (by omega)⟩)⟩
theorem Qdl (n:Nat) (IH0:Qkx n):Qkm n:=by
 intro l a c w hl hlen hcnt;have IH:Hid (Qkx n):=IH0;have C:=Qa (Qdh (c:=c) rfl hlen hl);have HOK:=Qa (QL hl).2;have HC:=Qa hcnt;clear hl hcnt IH0;go_enter Tryz.func31,Tryz.ntmps31
 go_wp2_with fail
 refine C.out.mono ?_;intro e w1 hcl;obtain⟨a1,c1,rfl,hle,hb,hrow⟩:=hcl.row
 have HB:=Qa hb;have HLE:=Qa hle;clear hcl C hb hle;obtain⟨N,hN⟩:∃ N,l.length=N:=⟨_,rfl⟩
 have HN:=Qa hN;rw[hN] at hlen ⊢
 by_cases hl0:l=[]
 ·subst hl0;have hN0:N=0:=by have:=HN.out;simpa using this.symm
  subst hN0;have HZ:Hid (Qbp w w1 ([]:List (TT n)) (.returned (.slice a1 0 c1))):=⟨a1,c1,rfl,Nat.zero_le _,LIn.nil,HB.out⟩;clear HB HLE hrow HOK HC;go_wp2
  go_loop [9] (fun i=>∃ k:Nat,k=0∧i=.int .i64 k) (fun _=>0)
  case atStart=>exact⟨0,rfl,rfl⟩
  case round =>
   obtain⟨k,rfl,rfl⟩:=hrel
   go_wp2
   go_ret;exact HZ.out
 ·obtain⟨g,rfl,hg,horow⟩:=hrow hl0
  rw[hN] at horow
  have HG:=Qa hg;have R0:=Qa horow;clear hrow horow hg hl0 hN;go_wp2
  go_loopw [9] (fun i wr=>∃ k:Nat,k≤N∧i=.int .i64 k∧Qe6 w.heap.size wr g N k l∧Below w.heap.size w wr) (fun i _=>N - (intOf i).toNat)
  case atStart=>exact⟨0,Nat.zero_le _,rfl,R0.out,HB.out⟩
  case round =>
   clear R0 HB;obtain⟨k,hk,rfl,hR,hB⟩:=hrel
   have HB:=Qa hB;have R1:=Qa hR;clear hB hR;by_cases hlt:k<N
   ·have hlt':(k:Int)<N:=by omega
    have hk2:k<l.length:=by rw[HN.out];exact hlt
    obtain⟨x,hx⟩:∃ x,l[k]?=some x:=⟨_,List.getElem?_eq_getElem hk2⟩
    obtain⟨ak,ck,y2,ht⟩:=R1.out.at hx
    have hxm:=List.mem_of_getElem? hx;have CK:=Qa (IH.out x ak ck wr ht.all (HOK.out x hxm) (HC.out x hxm));have HX:=Qa hx;clear hx hk2 ht hxm;go_wp2_with fail
    refine CK.out.mono ?_;rintro e w2 ⟨a2,c2,rfl,t2,b2⟩;have R2:=Qa (R1.out.below b2);have B2:=Qa (HB.out.trans (b2.mono HB.out.size));have hgl:=R1.out.lt;have R3:=Qa (R2.out.set (c:=c2) HX.out hlt (t2.mono (fun k hk _=>⟨by omega,Nat.le_trans HB.out.size hk⟩)));have B3:Hid (Below w.heap.size w (w2.setCell ⟨g,k*3+2,none⟩ (.slice a2 x.len c2))):=B2.out.setCell (p:=⟨g,k*3+2,none⟩) HG.out _;have z2:=R2.out.free (k*3+2);obtain⟨a4,c4,y4,-⟩:=R2.out.at HX.out
    clear t2 b2 R2 B2 CK y2 hgl;generalize x.len=xl at R3 B3 y4;go_wp2
    go_roundw
    case rel=>exact⟨k+1,hlt,by go_num,R3.out,B3.out⟩
    case measure=>simp[intOf];omega
   ·have hlt':¬ (k:Int)<N:=by omega
    have HZ:Hid (Qbp w wr l (.returned (.slice (some ⟨g,0,none⟩) N c1))):=⟨_,c1,by rw[HN.out],HLE.out,R1.out.lin (by rw[HN.out];omega) HG.out,HB.out⟩;go_wp2
    go_ret;exact HZ.out
theorem kid_any:∀ n,Qkx n
 | 0,x,_,_,_,_,_,_=>Empty.elim x
 | n+1,x,a,c,w,h,hok,hc=>by
   have hlen:x.2.2.length≤5000:=by have:=x.len_lt_count;rw[x.len_eq] at this;omega
   have hl:(Qh n).In w All x.2.2 [.slice a x.2.2.length c]:=by
    refine⟨a,c,rfl,fun i y hy=>?_⟩
    obtain⟨g,o,a',c',e,h1,h2,h3,h4,h5⟩:=h i y hy
    refine⟨g,o,[.int .i64 y.kind,.int .i64 y.r,.slice a' y.len c'],e,trivial,World.block_lt_of_cell? w ⟨g,o+i*3,none⟩ h2,fun j hj=>?_,a',c',rfl,h5,hok.2 y (List.mem_of_getElem? hy)⟩
    have hj:j<3:=hj;show w.cell? ⟨g,o+i*3+j,none⟩=_;match j,hj with
    | 0,_=>exact h2
    | 1,_=>exact h3
    | 2,_=>exact h4
    | j+3,h=>exact absurd h (by omega)
   refine(Qdl n (kid_any n) x.2.2 a c w hl hlen (fun y hy=>by have:=x.count_kid hy;omega)).mono ?_
   rintro e w' ⟨a',c',rfl,-,h1,h2⟩;exact⟨a',c',rfl,LIn.tree h1,h2⟩
theorem Qgy {w:World}{b:Nat}{O A:Nat→Prop}{s:JSt}(hL:s.L.length≤80) (hcnt:∀ x∈s.L,x.count≤5000) (h:SAt w b O A s) :
 Calls Tryz.prog 9 #[.pointer (some ⟨b,0,none⟩)] w fun e w'=>Qbp w w' s.L e:=by
 obtain⟨pm,cm,hh,a1,c1,a2,c2,a3,c3,aL,cL,R⟩:=h.read
 obtain⟨-,-,-,-,-,-,q6⟩:=R.cells
 have C:=Qa (Qdl 6 (kid_any 6) s.L aL cL w (R.row.typesL) (by omega) hcnt);clear R h hcnt;go_enter Tryz.func9,Tryz.ntmps9
 go_wp2_with fail
 refine C.out.mono ?_;intro e w' ho;have HO:=Qa ho;obtain⟨a',c',rfl,-⟩:=ho
 clear C;go_wp2
 go_ret;exact HO.out
theorem Qgs {A B:Prop}(h:A↔B):bdec A=bdec B:=by rw[propext h]
theorem Qhi {f:FuncId}{args:Array Value}{w:World}{A:Prop}(h:Calls Tryz.prog f args w fun e w'=>Za e A∧Below w.heap.size w w'):Rd Tryz.prog f args w (.bool (bdec A)) :=
 h.mono fun e w' h=>by
  obtain⟨⟨q,rfl,hq⟩,b⟩:=h
  exact⟨by rw[Qeb hq],b⟩
theorem QdX {n:Nat}{l m:List (TT n)}{p q:Option Addr}{c d:Nat}{w:World}(hl:(Qh n).In w All l [.slice p l.length c]) (hm:(Qh n).In w All m [.slice q m.length d]) (hs:Qbo l):Rd Tryz.prog 13 #[.slice p l.length c,.slice q m.length d] w (.bool (bdec (l=m))) :=
 Qhi (QeI n (samet_any n) l m p q c d w (QL hl).1 (QL hm).1 (by have:=hs.1;omega) hs.2)
theorem Qfa {n:Nat}{l m:List (TT n)}{p q:Option Addr}{c d:Nat}{w:World}(hl:(Qh n).In w All l [.slice p l.length c]) (hm:(Qh n).In w All m [.slice q m.length d]) (hs:Qbo l):Rd Tryz.prog 141 #[.slice p l.length c,.slice q m.length d,.func (.func 114) #[] #[]] w (.bool (bdec (l=m))) :=
 Qhi (Qhm n (same_any n) l m p q c d w (QL hl).1 (QL hm).1 (by have:=hs.1;omega) hs.2)
abbrev QD (p:Int × Int):Value:=.agg #[.int .i64 p.1,.int .i64 p.2]
def atF (c p:Int):Int × Int:=if c=0 then (0,0) else (c,p)
theorem Qbw {α:Type}{f:Nat→α→Int × Int}:∀ {l:List α}{j:Nat},firstF (fun i x=>atF (f i x).1 (f i x).2) j l=firstF f j l
 | [],_=>rfl
 | x::xs,j=>by
   simp only[firstF,atF]
   by_cases h:(f j x).1=0
   ·simp only[h,if_true,ne_eq,not_true_eq_false,if_false]
    exact Qbw
   ·simp[h]
def Qf.code {n:Nat}(f:Nat) (x:Qf n):Int :=
 if x.regs<0∨6<x.regs then 1 else if listC x.regs x.params≠0 then listC x.regs x.params else if listC x.regs x.results≠0 then listC x.regs x.results
 else if x.blocks.length<1∨12<x.blocks.length then 2 else if f=0∧¬ (x.regs=0∧x.params.length=0∧x.results.all (fun t=>t.kind==1)=true) then 18 else 0
theorem Qf.fault_eq {n:Nat}(funcs f:Nat) (x:Qf n):Qf.fault funcs f x=if x.code f=0 then firstF (fun b y=>Qe.fault funcs f x b y) 0 x.blocks else (x.code f,10000*(f:Int)+9999):=by
 unfold Qf.fault Qf.code;generalize listC x.regs x.params=lp;generalize listC x.regs x.results=lr;generalize firstF (fun b y=>Qe.fault funcs f x b y) 0 x.blocks=ff;repeat' split
 all_goals first | rfl | (exfalso;omega) | contradiction
def Qe.code' {n:Nat}(fn:Qf n) (b:Nat) (x:Qe n):Int :=
 if x.regs<fn.regs∨16<x.regs then 1 else if listC x.regs x.params≠0 then listC x.regs x.params
 else if b=0∧(x.regs≠fn.regs∨Qa6 x.params fn.params=false) then 9 else if 40<x.code.length then 2 else 0
theorem Qe.fault_eq {n:Nat}(funcs f:Nat) (fn:Qf n) (b:Nat) (x:Qe n):Qe.fault funcs f fn b x =
 if x.code' fn b=0 then (if (firstF (fun i y=>(Qx.form funcs y,(10000*f+100*b+i:Int))) 0 x.code).1=0 then atF (x.fin.form fn.blocks.length) (10000*(f:Int)+100*(b:Int)+91)
  else firstF (fun i y=>(Qx.form funcs y,(10000*f+100*b+i:Int))) 0 x.code) else (x.code' fn b,10000*(f:Int)+100*(b:Int)+90):=by
 unfold Qe.fault Qe.code' atF;generalize firstF (fun i y=>(Qx.form funcs y,(10000*f+100*b+i:Int))) 0 x.code=ff;generalize x.fin.form fn.blocks.length=ef;generalize listC x.regs x.params=lp;repeat' split
 all_goals first | rfl | (exfalso;omega) | contradiction
def Qe5 {n:Nat}:Nat→List (TT n)→Int
 | _,[]=>-1
 | i,t::ts=>if t.kind=1 then Qe5 (i+1) ts else (i:Int)
theorem QhY {n:Nat}:∀ (l:List (TT n)) (i j:Nat) (x:TT n),l[i]?=some x→(∀ k y,k<i→l[k]?=some y→y.kind=1)→¬ x.kind=1→Qe5 j l=((j+i:Nat):Int)
 | [],i,j,x,h,_,_=>by simp at h
 | y::ys,0,j,x,h,_,hx=>by
   simp at h;subst h
   simp[Qe5,hx]
 | y::ys,i+1,j,x,h,hz,hx=>by
   have h0:y.kind=1:=hz 0 y (by omega) rfl;simp only[Qe5,h0,if_true]
   rw[QhY ys i (j+1) x (by simpa using h) (fun k z hk hkz=>hz (k+1) z (by omega) (by simpa using hkz)) hx]
   congr 1;omega
theorem QiK {n:Nat}:∀ (l:List (TT n)) (j:Nat),(∀ (k:Nat) y,l[k]?=some y→y.kind=1)→Qe5 j l=-1
 | [],_,_=>rfl
 | y::ys,j,h=>by
   have h0:y.kind=1:=h 0 y rfl;simp only[Qe5,h0,if_true]
   exact QiK ys (j+1) (fun k z hz=>h (k+1) z (by simpa using hz))
theorem QfV {n:Nat}:∀ (l:List (TT n)) (j:Nat),(0≤Qe5 j l)↔¬ l.all (fun t=>t.kind==1)=true
 | [],j=>by simp[Qe5]
 | y::ys,j=>by
   by_cases h:y.kind=1
   ·simp only[Qe5,h,if_true,List.all_cons,beq_self_eq_true,Bool.true_and]
    exact QfV ys (j+1)
   ·simp[Qe5,h]
theorem QeD {n:Nat}{t:TT n}{a:Option Addr}{c:Nat}{regs:Int}{w:World}(ht:TIn w All t a) (hc:t.count≤100000):Rd Tryz.prog 89 #[Tv t a c,.int .i64 regs] w (.int .i64 (t.check regs)):=typeFaultT_any n t a c regs w ht hc
theorem Qjs {n:Nat}{t:TT n}{a:Option Addr}{c:Nat}{regs:Int}{w:World}(ht:TIn w All t a) (hc:t.count≤100000):Rd Tryz.prog 113 #[Tv t a c,.int .i64 regs] w (.int .i64 (t.check regs)):=check_any n t a c regs w ht hc
theorem Qc1 {α:Type}{f:α→Int}:∀ {l:List α}{i:Nat}{x:α},l[i]?=some x→(∀ k y,k<i→l[k]?=some y→f y=0)→f x≠0→QA f l=f x
 | [],i,x,h,_,_=>by simp at h
 | y::ys,0,x,h,_,hf=>by
   simp at h;subst h
   simp[QA,hf]
 | y::ys,i+1,x,h,hz,hf=>by
   have h0:f y=0:=hz 0 y (by omega) rfl;simp only[QA,h0,ne_eq,not_true_eq_false,if_false]
   exact Qc1 (by simpa using h) (fun k z hk hkz=>hz (k+1) z (by omega) (by simpa using hkz)) hf
theorem Qcy {α:Type}{f:α→Int}:∀ {l:List α},(∀ (k:Nat) y,l[k]?=some y→f y=0)→QA f l=0
 | [],_=>rfl
 | y::ys,h=>by
   have h0:f y=0:=h 0 y rfl;simp only[QA,h0,ne_eq,not_true_eq_false,if_false]
   exact Qcy (fun k z hz=>h (k+1) z (by simpa using hz))
theorem QaI {n:Nat}{l:List (TT n)}{p:Option Addr}{c:Nat}{regs:Int}{w:World}(hl0:(Qh n).In w All l [.slice p l.length c]) (hs0:Qbo l) :
 Rd Tryz.prog 49 #[.slice p l.length c,.int .i64 regs] w (.int .i64 (listC regs l)):=by
 have hl:Hid _:=hl0;have hs:Hid _:=hs0;have hsb:=hs0.1;clear hl0 hs0;refine Qs (n:=25) Tryz.func49 rfl rfl rfl ?_;intro a hF;have hW:=Wd.start w;replace hF:Fr 25 a [(0,.slice p l.length c),(1,.int .i64 regs)]:=hF;refine wp_seq_k fun K1 hK1=>?_;refine rg hF fun ops=>?_;clear hF a;refine sa trivial rfl rfl ?_;refine St.nil fun a2 h2=>?_;refine hK1 _ _ ?_;refine wp_seq_k fun K3 hK3=>?_;refine wp_seq_k fun K4 hK4=>?_;refine rg h2 fun ops=>?_;clear h2 a2;refine sm trivial rfl rfl ?_;refine QaN trivial rfl rfl ?_;refine sgt trivial rfl rfl rfl ?_;refine St.nil fun a5 h5=>?_;refine hK4 _ _ ?_;refine Qt (t:=9) h5 rfl (fun hb=>?_) (fun hb=>?_)
 ·have hbig:8<l.length:=by have:=of_decide_eq_true hb;omega
  clear hb;refine wp_seq_k fun K6 hK6=>?_;refine rg h5 fun ops=>?_;clear h5 a5;refine sa trivial rfl rfl ?_;refine St.nil fun a7 h7=>?_;refine hK6 _ _ ?_;refine wp_ret ?_;with_reducible repeat first | refine Qd ?_ | refine Qc ?_
  have R:listC regs l=2:=by unfold listC;rw[if_pos hbig]
  exact Qp (t:=4) h7 rfl rfl ⟨by rw[R],hW.bel⟩
 have hbig:¬ (8<l.length):=by have:=of_decide_eq_false hb;omega
 clear hb;refine wp_skip ?_;refine hK3 _ _ ?_;refine wp_seq_k fun K8 hK8=>?_;refine wp_seq_k fun K9 hK9=>?_;refine rg h5 fun ops=>?_;clear h5 a5;refine sa trivial rfl rfl ?_;refine St.nil fun a10 h10=>?_;refine hK9 _ _ ?_;refine wp_block ?_;refine ZJ (fun r a w'=>∃ q:Nat,q≤l.length∧r=l.length - q∧(∀ (j:Nat) y,j<q→l[j]?=some y→y.check regs=0)∧Fr 25 a [(1,.int .i64 regs),(0,.slice p l.length c),(4,.int .i64 0),(5,.int .i64 (q:Int))]∧Wd w w' []) (l.length) ⟨0,Nat.zero_le _,rfl,(fun j y hj=>by omega),(h10.keep (h10.keep (h10.keep (h10.keep h10.nil (t:=5) rfl) (t:=4) rfl) (t:=0) rfl) (t:=1) rfl),hW⟩ ?_;clear h10 hW;rintro r a11 w11 ⟨q,hq,hr,hall,hF11,hW11⟩ KL hKL;refine wp_seq_k fun K12 hK12=>?_;refine wp_seq_k fun K13 hK13=>?_;refine rg hF11 fun ops=>?_;clear hF11 a11;refine sm trivial rfl rfl ?_;refine sm trivial rfl rfl ?_;refine QaN trivial rfl rfl ?_;refine slt trivial rfl rfl rfl ?_;refine St.nil fun a14 h14=>?_;refine hK13 _ _ ?_;refine Qt (t:=13) h14 rfl (fun hb=>?_) (fun hb=>?_)
 ·have hlt1:q<l.length:=by have:=of_decide_eq_true hb;omega
  clear hb;obtain⟨t,hx1⟩:∃ v9,(l)[q]?=some v9:=⟨_,List.getElem?_eq_getElem hlt1⟩
  obtain⟨g1,o1,pt1,ct1,hp1,E1,In1⟩:=Qh5 (QL hl.out).1 hx1
  replace In1:Hid _:=In1;replace hp1:Hid _:=hp1;replace hx1:Hid _:=hx1;replace E1:Hid _:=E1;refine wp_skip ?_;refine hK12 _ _ ?_;refine wp_seq_k fun K15 hK15=>?_;refine wp_block ?_;refine wp_seq_k fun K16 hK16=>?_;refine rg h14 fun ops=>?_;clear h14 a14;refine sm trivial rfl rfl ?_;refine sm trivial rfl rfl ?_;refine QcN hp1.out hlt1 trivial rfl rfl rfl ?_;refine sSE Tryz.underlying70 rfl (QK E1.out hW11.bel) infType trivial rfl rfl ?_;refine sm trivial rfl rfl ?_;refine QhQ cf89 hW11 (QeD (c:=ct1) (regs:=regs) (TIn.below In1.out hW11.bel) (hs.out.2 _ (List.mem_of_getElem? hx1.out))) trivial rfl rfl rfl ?_;clear hW11;intro w17 hW17;refine sa trivial rfl rfl ?_;refine St.nil fun a18 h18=>?_;refine hK16 _ _ ?_;refine wp_seq_k fun K19 hK19=>?_;refine rg h18 fun ops=>?_;clear h18 a18;refine sm trivial rfl rfl ?_;refine sne trivial rfl rfl rfl ?_;refine St.nil fun a20 h20=>?_;refine hK19 _ _ ?_;refine Qt (t:=23) h20 rfl (fun hb=>?_) (fun hb=>?_)
  ·have h9:¬ (t.check regs)=0:=bne_iff_ne.1 hb
   have hne:¬ (t.check regs)=0:=h9;clear h9;clear hb;refine wp_seq_k fun K21 hK21=>?_;refine rg h20 fun ops=>?_;clear h20 a20;refine sm trivial rfl rfl ?_;refine sa trivial rfl rfl ?_;refine St.nil fun a22 h22=>?_;refine hK21 _ _ ?_;refine wp_ret ?_;with_reducible repeat first | refine Qd ?_ | refine Qc ?_
   have R:listC regs l=t.check regs:=by unfold listC;rw[if_neg hbig];exact Qc1 hx1.out (fun k y hk hy=>hall k y hk hy) hne
   exact Qp (t:=4) h22 rfl rfl ⟨by rw[R],hW17.bel⟩
  have h9:(t.check regs)=0:=bne_eq_false_iff_eq.1 hb;have hne:Hid ((t.check regs)=0):=h9;clear h9;clear hb;refine wp_skip ?_;refine hK15 _ _ ?_;refine rg h20 fun ops=>?_;clear h20 a20;refine sm trivial rfl rfl ?_;refine sad (by omega) trivial rfl rfl rfl ?_;refine sa trivial rfl rfl ?_;refine St.nil fun a23 h23=>?_;refine hKL _ _ (l.length - (q+1)) (by omega) ⟨q+1,by omega,rfl,?_,(h23.keep (h23.keep (h23.keep (h23.keep h23.nil (t:=5) rfl) (t:=4) rfl) (t:=0) rfl) (t:=1) rfl),hW17⟩
  ·intro j y hj hy
   by_cases e:j=q
   ·subst e;rw[hx1.out] at hy;cases hy;exact hne.out
   ·exact hall j y (by omega) hy
 have hge:q=l.length:=by have:=of_decide_eq_false hb;omega
 clear hb;refine wp_exit ?_;refine hK8 _ _ ?_;refine wp_seq_k fun K24 hK24=>?_;refine rg h14 fun ops=>?_;clear h14 a14;refine sa trivial rfl rfl ?_;refine St.nil fun a25 h25=>?_;refine hK24 _ _ ?_;refine wp_ret ?_;with_reducible repeat first | refine Qd ?_ | refine Qc ?_
 have R:listC regs l=0:=by unfold listC;rw[if_neg hbig];exact Qcy (fun k y hy=>hall k y (by have:=(List.getElem?_eq_some_iff.1 hy).1;omega) hy)
 exact Qp (t:=4) h25 rfl rfl ⟨by rw[R],hW11.bel⟩
theorem Qav {n:Nat}{l:List (TT n)}{p:Option Addr}{c:Nat}{regs:Int}{w:World}(hl0:(Qh n).In w All l [.slice p l.length c]) (hs0:Qbo l) :
 Rd Tryz.prog 130 #[.slice p l.length c,.int .i64 regs] w (.int .i64 (listC regs l)):=by
 have hl:Hid _:=hl0;have hs:Hid _:=hs0;have hsb:=hs0.1;clear hl0 hs0;refine Qs (n:=24) Tryz.func130 rfl rfl rfl ?_;intro a hF;have hW:=Wd.start w;replace hF:Fr 24 a [(0,.slice p l.length c),(1,.int .i64 regs)]:=hF;refine wp_seq_k fun K1 hK1=>?_;refine rg hF fun ops=>?_;clear hF a;refine sa trivial rfl rfl ?_;refine St.nil fun a2 h2=>?_;refine hK1 _ _ ?_;refine wp_seq_k fun K3 hK3=>?_;refine wp_seq_k fun K4 hK4=>?_;refine rg h2 fun ops=>?_;clear h2 a2;refine sm trivial rfl rfl ?_;refine QaN trivial rfl rfl ?_;refine sgt trivial rfl rfl rfl ?_;refine St.nil fun a5 h5=>?_;refine hK4 _ _ ?_;refine Qt (t:=10) h5 rfl (fun hb=>?_) (fun hb=>?_)
 ·have hbig:8<l.length:=by have:=of_decide_eq_true hb;omega
  clear hb;refine wp_seq_k fun K6 hK6=>?_;refine rg h5 fun ops=>?_;clear h5 a5;refine sa trivial rfl rfl ?_;refine St.nil fun a7 h7=>?_;refine hK6 _ _ ?_;refine wp_ret ?_;with_reducible repeat first | refine Qd ?_ | refine Qc ?_
  have R:listC regs l=2:=by unfold listC;rw[if_pos hbig]
  exact Qp (t:=4) h7 rfl rfl ⟨by rw[R],hW.bel⟩
 have hbig:¬ (8<l.length):=by have:=of_decide_eq_false hb;omega
 clear hb;refine wp_skip ?_;refine hK3 _ _ ?_;refine wp_seq_k fun K8 hK8=>?_;refine wp_seq_k fun K9 hK9=>?_;refine rg h5 fun ops=>?_;clear h5 a5;refine sm trivial rfl rfl ?_;refine QaN trivial rfl rfl ?_;refine sm trivial rfl rfl ?_;refine St.nil fun a10 h10=>?_;refine hK9 _ _ ?_;refine wp_block ?_;refine ZJ (fun r a w'=>∃ q:Nat,q≤l.length∧r=l.length - q∧(∀ (j:Nat) y,j<q→l[j]?=some y→y.check regs=0)∧Fr 24 a [(1,.int .i64 regs),(0,.slice p l.length c),(4,.int .i64 0),(11,.slice p l.length c),(12,.int .i64 (l.length:Int)),(13,.int .i64 (q:Int))]∧Wd w w' []) (l.length) ⟨0,Nat.zero_le _,rfl,(fun j y hj=>by omega),(h10.keep (h10.keep (h10.keep (h10.keep (h10.keep (h10.keep h10.nil (t:=13) rfl) (t:=12) rfl) (t:=11) rfl) (t:=4) rfl) (t:=0) rfl) (t:=1) rfl),hW⟩ ?_;clear h10 hW;rintro r a11 w11 ⟨q,hq,hr,hall,hF11,hW11⟩ KL hKL;refine wp_seq_k fun K12 hK12=>?_;refine rg hF11 fun ops=>?_;clear hF11 a11;refine slt trivial rfl rfl rfl ?_;refine St.nil fun a13 h13=>?_;refine hK12 _ _ ?_;refine wp_seq_k fun K14 hK14=>?_;refine Qt (t:=14) h13 rfl (fun hb=>?_) (fun hb=>?_)
 ·have hlt1:q<l.length:=by have:=of_decide_eq_true hb;omega
  clear hb;obtain⟨t,hx1⟩:∃ v9,(l)[q]?=some v9:=⟨_,List.getElem?_eq_getElem hlt1⟩
  obtain⟨g1,o1,pt1,ct1,hp1,E1,In1⟩:=Qh5 (QL hl.out).1 hx1
  replace In1:Hid _:=In1;replace hp1:Hid _:=hp1;replace hx1:Hid _:=hx1;replace E1:Hid _:=E1;refine wp_skip ?_;refine hK14 _ _ ?_;refine wp_seq_k fun K15 hK15=>?_;refine wp_block ?_;refine wp_seq_k fun K16 hK16=>?_;refine rg h13 fun ops=>?_;clear h13 a13;refine QcN hp1.out hlt1 trivial rfl rfl rfl ?_;refine sSE Tryz.underlying70 rfl (QK E1.out hW11.bel) infType trivial rfl rfl ?_;refine QhO hW11 trivial rfl ?_;clear hW11;intro w17 B17 hW17 hN;clear hN;refine sT 0 hW17 rfl rfl infType rfl rfl rfl ?_;clear hW17;intro w18 hW18;refine St.nil fun a19 h19=>?_;refine hK16 _ _ ?_;refine wp_seq_k fun K20 hK20=>?_;refine rg h19 fun ops=>?_;clear h19 a19;refine sS 0 3 Tryz.underlying70 rfl infType hW18 trivial rfl rfl rfl rfl ?_;refine sm trivial rfl rfl ?_;refine QhQ cf113 hW18 (Qjs (c:=ct1) (regs:=regs) (TIn.below In1.out hW18.bel) (hs.out.2 _ (List.mem_of_getElem? hx1.out))) trivial rfl rfl rfl ?_;clear hW18;intro w21 hW21;refine sa trivial rfl rfl ?_;refine St.nil fun a22 h22=>?_;refine hK20 _ _ ?_;refine wp_seq_k fun K23 hK23=>?_;refine rg h22 fun ops=>?_;clear h22 a22;refine sm trivial rfl rfl ?_;refine sne trivial rfl rfl rfl ?_;refine St.nil fun a24 h24=>?_;refine hK23 _ _ ?_;refine Qt (t:=21) h24 rfl (fun hb=>?_) (fun hb=>?_)
  ·have h9:¬ (t.check regs)=0:=bne_iff_ne.1 hb
   have hne:¬ (t.check regs)=0:=h9;clear h9;clear hb;refine wp_seq_k fun K25 hK25=>?_;refine rg h24 fun ops=>?_;clear h24 a24;refine sm trivial rfl rfl ?_;refine sa trivial rfl rfl ?_;refine St.nil fun a26 h26=>?_;refine hK25 _ _ ?_;refine wp_ret ?_;with_reducible repeat first | refine Qd ?_ | refine Qc ?_
   have R:listC regs l=t.check regs:=by unfold listC;rw[if_neg hbig];exact Qc1 hx1.out (fun k y hk hy=>hall k y hk hy) hne
   exact Qp (t:=4) h26 rfl rfl ⟨by rw[R],hW21.bel⟩
  have h9:(t.check regs)=0:=bne_eq_false_iff_eq.1 hb;have hne:Hid ((t.check regs)=0):=h9;clear h9;clear hb;refine wp_skip ?_;refine hK15 _ _ ?_;refine rg h24 fun ops=>?_;clear h24 a24;refine sad (by omega) trivial rfl rfl rfl ?_;refine sm trivial rfl rfl ?_;refine St.nil fun a27 h27=>?_;refine hKL _ _ (l.length - (q+1)) (by omega) ⟨q+1,by omega,rfl,?_,(h27.keep (h27.keep (h27.keep (h27.keep (h27.keep (h27.keep h27.nil (t:=13) rfl) (t:=12) rfl) (t:=11) rfl) (t:=4) rfl) (t:=0) rfl) (t:=1) rfl),hW21.tail⟩
  ·intro j y hj hy
   by_cases e:j=q
   ·subst e;rw[hx1.out] at hy;cases hy;exact hne.out
   ·exact hall j y (by omega) hy
 have hge:q=l.length:=by have:=of_decide_eq_false hb;omega
 clear hb;refine wp_exit ?_;refine hK8 _ _ ?_;refine wp_seq_k fun K28 hK28=>?_;refine rg h13 fun ops=>?_;clear h13 a13;refine sa trivial rfl rfl ?_;refine St.nil fun a29 h29=>?_;refine hK28 _ _ ?_;refine wp_ret ?_;with_reducible repeat first | refine Qd ?_ | refine Qc ?_
 have R:listC regs l=0:=by unfold listC;rw[if_neg hbig];exact Qcy (fun k y hy=>hall k y (by have:=(List.getElem?_eq_some_iff.1 hy).1;omega) hy)
 exact Qp (t:=4) h29 rfl rfl ⟨by rw[R],hW11.bel⟩
theorem QaE {xc xp:Int}{w:World} :
 Rd Tryz.prog 96 #[.int .i64 xc,.int .i64 xp] w (QD (atF xc xp)):=by
 refine Qs (n:=11) Tryz.func96 rfl rfl rfl ?_;intro a hF;have hW:=Wd.start w;replace hF:Fr 11 a [(0,.int .i64 xc),(1,.int .i64 xp)]:=hF;refine wp_seq_k fun K1 hK1=>?_;refine rg hF fun ops=>?_;clear hF a;refine Zz hW trivial rfl ?_;clear hW;intro w2 B2 hW2 hN;clear hN;refine St.nil fun a3 h3=>?_;refine hK1 _ _ ?_;refine wp_seq_k fun K4 hK4=>?_;refine wp_seq_k fun K5 hK5=>?_;refine rg h3 fun ops=>?_;clear h3 a3;refine sm trivial rfl rfl ?_;refine seq trivial rfl rfl rfl ?_;refine St.nil fun a6 h6=>?_;refine hK5 _ _ ?_;refine Qt (t:=6) h6 rfl (fun hb=>?_) (fun hb=>?_)
 ·have h9:xc=0:=eq_of_beq hb
  have hc7:Hid (xc=0):=h9;clear h9;clear hb;refine wp_seq_k fun K8 hK8=>?_;refine rg h6 fun ops=>?_;clear h6 a6;intro a9 h9;refine Q2 (t:=7) (v:=.agg #[.int .i64 0,.int .i64 0]) (w':=w2) h9 rfl rfl rfl (fun K hK=>?_) ?_
  ·go_simp
   exact hK
  clear h9;intro a10 hF10;refine St.go hF10 ?_;clear hF10 a10;refine sT 0 hW2 rfl rfl infFault rfl rfl rfl ?_;clear hW2;intro w11 hW11;refine St.nil fun a12 h12=>?_;refine hK8 _ _ ?_;refine wp_ret ?_;with_reducible repeat first | refine Qd ?_ | refine Qc ?_
  have R:atF xc xp=(0,0):=by simp[atF,hc7.out]
  exact QN 0 h12 hW11 rfl rfl rfl Tryz.underlying30 rfl infFault ⟨by show Ending.returned (.agg #[.int .i64 0,.int .i64 0])=_;rw[R],hW11.bel⟩
 have h9:¬ xc=0:=ne_of_beq_false hb;have hc13:¬ xc=0:=h9;clear h9;clear hb;refine wp_skip ?_;refine hK4 _ _ ?_;refine wp_seq_k fun K14 hK14=>?_;refine rg h6 fun ops=>?_;clear h6 a6;refine sm trivial rfl rfl ?_;refine sm trivial rfl rfl ?_;intro a15 h15;refine Q2 (t:=10) (v:=.agg #[.int .i64 xc,.int .i64 xp]) (w':=w2) h15 rfl rfl rfl (fun K hK=>?_) ?_
 ·have k0:a15.tmps[8]?.getD undef=.int .i64 xc:=h15.sl2 8 _ rfl
  have k1:a15.tmps[9]?.getD undef=.int .i64 xp:=h15.sl2 9 _ rfl;go_simp;exact hK
 clear h15;intro a16 hF16;refine St.go hF16 ?_;clear hF16 a16;refine sT 0 hW2 rfl rfl infFault rfl rfl rfl ?_;clear hW2;intro w17 hW17;refine St.nil fun a18 h18=>?_;refine hK14 _ _ ?_;refine wp_ret ?_;with_reducible repeat first | refine Qd ?_ | refine Qc ?_
 have R:atF xc xp=(xc,xp):=by simp[atF,hc13]
 exact QN 0 h18 hW17 rfl rfl rfl Tryz.underlying30 rfl infFault ⟨by show Ending.returned (.agg #[.int .i64 xc,.int .i64 xp])=_;rw[R],hW17.bel⟩
theorem QaG {xc xp:Int}{w:World} :
 Rd Tryz.prog 44 #[.int .i64 xc,.int .i64 xp] w (QD (xc,xp)):=by
 refine Qs (n:=8) Tryz.func44 rfl rfl rfl ?_;intro a hF;have hW:=Wd.start w;replace hF:Fr 8 a [(0,.int .i64 xc),(1,.int .i64 xp)]:=hF;refine wp_seq_k fun K1 hK1=>?_;refine rg hF fun ops=>?_;clear hF a;refine Zz hW trivial rfl ?_;clear hW;intro w2 B2 hW2 hN;clear hN;refine St.nil fun a3 h3=>?_;refine hK1 _ _ ?_;refine wp_seq_k fun K4 hK4=>?_;refine rg h3 fun ops=>?_;clear h3 a3;refine sm trivial rfl rfl ?_;refine sm trivial rfl rfl ?_;intro a5 h5;refine Q2 (t:=7) (v:=.agg #[.int .i64 xc,.int .i64 xp]) (w':=w2) h5 rfl rfl rfl (fun K hK=>?_) ?_
 ·have k0:a5.tmps[5]?.getD undef=.int .i64 xc:=h5.sl2 5 _ rfl
  have k1:a5.tmps[6]?.getD undef=.int .i64 xp:=h5.sl2 6 _ rfl;go_simp;exact hK
 clear h5;intro a6 hF6;refine St.go hF6 ?_;clear hF6 a6;refine sT 0 hW2 rfl rfl infFault rfl rfl rfl ?_;clear hW2;intro w7 hW7;refine St.nil fun a8 h8=>?_;refine hK4 _ _ ?_;refine wp_ret ?_;with_reducible repeat first | refine Qd ?_ | refine Qc ?_
 exact QN 0 h8 hW7 rfl rfl rfl Tryz.underlying30 rfl infFault ⟨rfl,hW7.bel⟩
theorem Qh8 {tk tr:Int}{tp:Option Addr}{tl tc:Nat}{w:World} :
 Rd Tryz.prog 147 #[.agg #[.int .i64 tk,.int .i64 tr,.slice tp tl tc]] w (.bool (tk != 1)):=by
 refine Qs (n:=6) Tryz.func147 rfl rfl rfl ?_;intro a hF;have hW:=Wd.start w;replace hF:Fr 6 a [(0,.agg #[.int .i64 tk,.int .i64 tr,.slice tp tl tc])]:=hF;refine wp_seq_k fun K1 hK1=>?_;refine rg hF fun ops=>?_;clear hF a;refine sB hW trivial rfl rfl ?_;clear hW;intro w2 B2 hW2 hN;clear hN;refine sa trivial rfl rfl ?_;refine St.nil fun a3 h3=>?_;refine hK1 _ _ ?_;refine wp_seq_k fun K4 hK4=>?_;refine rg h3 fun ops=>?_;clear h3 a3;refine QkE trivial rfl rfl ?_;refine Zw 0 hW2 trivial rfl rfl rfl rfl ?_;refine sne trivial rfl rfl rfl ?_;refine sa trivial rfl rfl ?_;refine St.nil fun a5 h5=>?_;refine hK4 _ _ ?_;refine wp_ret ?_;with_reducible repeat first | refine Qd ?_ | refine Qc ?_
 exact Qp (t:=2) h5 rfl rfl ⟨rfl,hW2.bel⟩
theorem QgP {n:Nat}{l:List (TT n)}{p:Option Addr}{c:Nat}{w:World}(hl0:(Qh n).In w All l [.slice p l.length c]) (hsb:l.length≤100000) :
 Rd Tryz.prog 154 #[.slice p l.length c,.func (.func 147) #[] #[]] w (.int .i64 (Qe5 0 l)):=by
 have hl:Hid _:=hl0;clear hl0;refine Qs (n:=19) Tryz.func154 rfl rfl rfl ?_;intro a hF;have hW:=Wd.start w;replace hF:Fr 19 a [(0,.slice p l.length c),(1,.func (.func 147) #[] #[])]:=hF;refine wp_seq_k fun K1 hK1=>?_;refine rg hF fun ops=>?_;clear hF a;refine sa trivial rfl rfl ?_;refine St.nil fun a2 h2=>?_;refine hK1 _ _ ?_;refine wp_seq_k fun K3 hK3=>?_;refine wp_seq_k fun K4 hK4=>?_;refine rg h2 fun ops=>?_;clear h2 a2;refine sm trivial rfl rfl ?_;refine QaN trivial rfl rfl ?_;refine sm trivial rfl rfl ?_;refine St.nil fun a5 h5=>?_;refine hK4 _ _ ?_;refine wp_block ?_;refine ZJ (fun r a w'=>∃ q:Nat,q≤l.length∧r=l.length - q∧(∀ (j:Nat) y,j<q→l[j]?=some y→y.kind=1)∧Fr 19 a [(1,.func (.func 147) #[] #[]),(0,.slice p l.length c),(4,.int .i64 0),(7,.int .i64 (l.length:Int)),(8,.int .i64 (q:Int))]∧Wd w w' []) (l.length) ⟨0,Nat.zero_le _,rfl,(fun j y hj=>by omega),(h5.keep (h5.keep (h5.keep (h5.keep (h5.keep h5.nil (t:=8) rfl) (t:=7) rfl) (t:=4) rfl) (t:=0) rfl) (t:=1) rfl),hW⟩ ?_;clear h5 hW;rintro r a6 w6 ⟨q,hq,hr,hall,hF6,hW6⟩ KL hKL;refine wp_seq_k fun K7 hK7=>?_;refine rg hF6 fun ops=>?_;clear hF6 a6;refine slt trivial rfl rfl rfl ?_;refine St.nil fun a8 h8=>?_;refine hK7 _ _ ?_;refine wp_seq_k fun K9 hK9=>?_;refine Qt (t:=9) h8 rfl (fun hb=>?_) (fun hb=>?_)
 ·have hlt1:q<l.length:=by have:=of_decide_eq_true hb;omega
  clear hb;obtain⟨t,hx1⟩:∃ v9,(l)[q]?=some v9:=⟨_,List.getElem?_eq_getElem hlt1⟩
  obtain⟨g1,o1,pt1,ct1,hp1,E1,In1⟩:=Qh5 (QL hl.out).1 hx1
  replace In1:Hid _:=In1;replace hp1:Hid _:=hp1;replace hx1:Hid _:=hx1;replace E1:Hid _:=E1;refine wp_skip ?_;refine hK9 _ _ ?_;refine wp_seq_k fun K10 hK10=>?_;refine wp_block ?_;refine wp_seq_k fun K11 hK11=>?_;refine rg h8 fun ops=>?_;clear h8 a8;refine sm trivial rfl rfl ?_;refine sa trivial rfl rfl ?_;refine St.nil fun a12 h12=>?_;refine hK11 _ _ ?_;refine wp_seq_k fun K13 hK13=>?_;refine rg h12 fun ops=>?_;clear h12 a12;refine sm trivial rfl rfl ?_;refine sm trivial rfl rfl ?_;refine sm trivial rfl rfl ?_;refine QcN hp1.out hlt1 trivial rfl rfl rfl ?_;refine sSE Tryz.underlying70 rfl (QK E1.out hW6.bel) infType trivial rfl rfl ?_;refine Qll cf147 hW6 (Qh8) trivial rfl rfl rfl ?_;clear hW6;intro w14 hW14;refine St.nil fun a15 h15=>?_;refine hK13 _ _ ?_;refine Qt (t:=16) h15 rfl (fun hb=>?_) (fun hb=>?_)
  ·have h9:¬ t.kind=1:=bne_iff_ne.1 hb
   have hne:¬ t.kind=1:=h9;clear h9;clear hb;refine wp_seq_k fun K16 hK16=>?_;refine rg h15 fun ops=>?_;clear h15 a15;refine sm trivial rfl rfl ?_;refine sa trivial rfl rfl ?_;refine St.nil fun a17 h17=>?_;refine hK16 _ _ ?_;refine wp_ret ?_;with_reducible repeat first | refine Qd ?_ | refine Qc ?_
   have R:Qe5 0 l=(q:Int):=by have:=QhY l q 0 t hx1.out (fun k y hk hy=>hall k y hk hy) hne;rwa [Nat.zero_add] at this
   exact Qp (t:=4) h17 rfl rfl ⟨by rw[R],hW14.bel⟩
  have h9:t.kind=1:=bne_eq_false_iff_eq.1 hb;have hne:Hid (t.kind=1):=h9;clear h9;clear hb;refine wp_skip ?_;refine hK10 _ _ ?_;refine rg h15 fun ops=>?_;clear h15 a15;refine sad (by omega) trivial rfl rfl rfl ?_;refine sm trivial rfl rfl ?_;refine St.nil fun a18 h18=>?_;refine hKL _ _ (l.length - (q+1)) (by omega) ⟨q+1,by omega,rfl,?_,(h18.keep (h18.keep (h18.keep (h18.keep (h18.keep h18.nil (t:=8) rfl) (t:=7) rfl) (t:=4) rfl) (t:=0) rfl) (t:=1) rfl),hW14⟩
  ·intro j y hj hy
   by_cases e:j=q
   ·subst e;rw[hx1.out] at hy;cases hy;exact hne.out
   ·exact hall j y (by omega) hy
 have hge:q=l.length:=by have:=of_decide_eq_false hb;omega
 clear hb;refine wp_exit ?_;refine hK3 _ _ ?_;refine wp_seq_k fun K19 hK19=>?_;refine rg h8 fun ops=>?_;clear h8 a8;refine sa trivial rfl rfl ?_;refine St.nil fun a20 h20=>?_;refine hK19 _ _ ?_;refine wp_ret ?_;with_reducible repeat first | refine Qd ?_ | refine Qc ?_
 have R:Qe5 0 l=-1:=QiK l 0 (fun k y hy=>hall k y (by have:=(List.getElem?_eq_some_iff.1 hy).1;omega) hy);exact Qp (t:=4) h20 rfl rfl ⟨by rw[R],hW6.bel⟩
theorem QdK {n:Nat}{l:List (TT n)}{p:Option Addr}{c:Nat}{w:World}(hl0:(Qh n).In w All l [.slice p l.length c]) (hsb:l.length≤100000) :
 Rd Tryz.prog 146 #[.slice p l.length c,.func (.func 147) #[] #[]] w (.bool (decide (0≤Qe5 0 l))):=by
 have hl:Hid _:=hl0;clear hl0;refine Qs (n:=9) Tryz.func146 rfl rfl rfl ?_;intro a hF;have hW:=Wd.start w;replace hF:Fr 9 a [(0,.slice p l.length c),(1,.func (.func 147) #[] #[])]:=hF;refine wp_seq_k fun K1 hK1=>?_;refine rg hF fun ops=>?_;clear hF a;refine sa trivial rfl rfl ?_;refine St.nil fun a2 h2=>?_;refine hK1 _ _ ?_;refine wp_seq_k fun K3 hK3=>?_;refine rg h2 fun ops=>?_;clear h2 a2;refine sm trivial rfl rfl ?_;refine sm trivial rfl rfl ?_;refine QhQ cf154 hW (QgP (Lay.below hl.out hW.bel) hsb) trivial rfl rfl rfl ?_;clear hW;intro w4 hW4;refine sge trivial rfl rfl rfl ?_;refine sa trivial rfl rfl ?_;refine St.nil fun a5 h5=>?_;refine hK3 _ _ ?_;refine wp_ret ?_;with_reducible repeat first | refine Qd ?_ | refine Qc ?_
 exact Qp (t:=4) h5 rfl rfl ⟨rfl,hW4.bel⟩
end Go.Proofs.YtacjnejckfhpoaeGreat
namespace Go.Proofs.YtacjnejckfhpoaeGreat
open Go.ChangeShapes Go.WideShapes Go.ChangeAt Go.RowKit
set_option linter.unusedVariables false
theorem size_any:∀ (n:Nat) (t:TT n) (a:Option Addr) (c:Nat) (w:World) (left:Int),TIn w All t a→0≤left→left≤2000 →
 Calls Tryz.prog 94 #[Tv t a c,.int .i64 left] w fun e w'=>e=.returned (.int .i64 (max (-1) (left - t.count)))∧Below w.heap.size w w':=by
 intro n
 induction n with
 | zero=>intro t;exact Empty.elim t
 | succ n ih =>
   intro t a c w left ht h0 h1
   have IH:Hid (∀ (t:TT n) (a:Option Addr) (c:Nat) (w:World) (left:Int),TIn w All t a→0≤left→left≤2000 →
    Calls Tryz.prog 94 #[Tv t a c,.int .i64 left] w fun e w'=>e=.returned (.int .i64 (max (-1) (left - t.count)))∧Below w.heap.size w w'):=ih
   clear ih;have hT:Hid (LIn w All t.2.2 a):=ht.list;have hc:t.count=1+(t.2.2.map TT.count).sum:=rfl;rw[hc]
   clear hc;simp only[Tv,TT.len_eq]
   generalize t.2.2=l at hT ⊢;generalize t.kind=k;generalize t.r=r;clear ht t;go_enter Tryz.func94,Tryz.ntmps94
   go_wp2_with fail
   have X0:Hid (Bx w (w.alloc (.cells #[.int .i64 k,.int .i64 r,.slice a l.length c] 70)) k r a l.length c):=Bx.start w k r a l.length c;generalize w.alloc (.cells #[.int .i64 k,.int .i64 r,.slice a l.length c] 70)=w1 at X0 ⊢;go_loopw [1,5] (fun lf i wr=>∃ q:Nat,q≤l.length∧i=.int .i64 q∧lf=.int .i64 (max (-1) (left - 1 - (((l.map TT.count).take q).sum:Nat)))∧Bx w wr k r a l.length c) (fun _ i _=>l.length - (intOf i).toNat)
   case atStart=>exact⟨0,Nat.zero_le _,rfl,by simp;omega,X0.out⟩
   case round =>
    clear X0;obtain⟨q,hq,rfl,rfl,hX⟩:=hrel
    generalize hs:(((l.map TT.count).take q).sum:Nat)=s;have e2:wr.cell? ⟨w.heap.size,2,none⟩=some (.slice a l.length c):=Qb hX.box 2 _ rfl;have X1:Hid (Bx w wr k r a l.length c):=hX;by_cases hlt:q<l.length
    ·by_cases hge:0≤max (-1) (left - 1 - (s:Int))
     ·have hx:l[q]?=some l[q]:=List.getElem?_eq_getElem hlt;generalize l[q]=x at hx;obtain⟨g,o,a',c',rfl,_,d0,d1,d2,hk⟩:=LIn.at (hT.out.below hX.bel) hx
      have H:Hid (TIn wr All x a'):=hk;have hS:=QdO TT.count l q x hx;rw[hs] at hS
      have HS:Hid (((l.map TT.count).take (q+1)).sum=s+x.count):=hS;have S:Hid (max (-1) (left - 1 - (s:Int))≤2000):=by show _≤_;omega
      clear hX hk hx hS;generalize hm:max (-1) (left - 1 - (s:Int))=m at hge S;have M:Hid (max (-1) (left - 1 - (s:Int))=m):=hm;clear hm;have hk0:(0:Int)≤q:=by omega
      have hk1:(q:Int)<l.length:=by omega
      have hk2:(q:Int)<2000:=by
       have h3:=length_le_sum ((l.map TT.count).take q) (fun y hy=>by obtain⟨z,_,rfl⟩:=List.mem_map.1 (List.mem_of_mem_take hy);exact z.count_pos);have h4:=M.out;rw[List.length_take,List.length_map] at h3
       omega
      clear hs;go_wp2_with fail
      refine(IH.out x a' c' _ m H.out hge S.out).mono ?_
      rintro e w2 ⟨rfl,b2⟩;have X2:Hid (Bx w w2 k r (some ⟨g,o,none⟩) l.length c):=X1.out.below b2;clear X1;go_wp2
      go_roundw
      case rel=>exact⟨q+1,by omega,by go_num,by rw[HS.out];have:=M.out;have:=x.count_pos;congr 1;omega,X2.out⟩
      case measure=>simp[intOf];omega
     ·have F:Hid (max (-1) (left - 1 - (s:Int))=max (-1) (left - ((1+(l.map TT.count).sum:Nat):Int))):=by
       have:=Qfy (l.map TT.count) q
       show _=_;omega
      have hge':max (-1) (left - 1 - (s:Int))<0:=by omega
      generalize max (-1) (left - 1 - (s:Int))=m at F hge' ⊢;clear hge hs;have hk1:(q:Int)<l.length:=by omega
      go_wp2
      go_ret;exact⟨by show Ending.returned (.int .i64 m)=_;have:=F.out;congr 2,X1.out.bel⟩
    ·have F:Hid (max (-1) (left - 1 - (s:Int))=max (-1) (left - ((1+(l.map TT.count).sum:Nat):Int))):=by
      rw[List.take_of_length_le (by simp;omega)] at hs
      show _=_;omega
     generalize max (-1) (left - 1 - (s:Int))=m at F ⊢;clear hs;have hk1:¬ (q:Int)<l.length:=by omega
     go_wp2
     go_ret;exact⟨by show Ending.returned (.int .i64 m)=_;have:=F.out;congr 2,X1.out.bel⟩
theorem Qhw (n:Nat) (t:TT n) (a:Option Addr) (c:Nat) (w:World) (ht:TIn w All t a) :
 Calls Tryz.prog 54 #[Tv t a c] w fun e w'=>e=.returned (.bool (decide (2000<t.count)))∧Below w.heap.size w w':=by
 have C:Hid (∀ wx,Below w.heap.size w wx→Calls Tryz.prog 94 #[Tv t a c,.int .i64 2000] wx fun e w'=>e=.returned (.int .i64 (max (-1) (2000 - (t.count:Int))))∧Below wx.heap.size wx w') :=
  fun wx hb=>size_any n t a c wx 2000 (ht.below hb) (by omega) (by omega)
 clear ht;simp only[Tv] at C ⊢
 generalize t.kind=k at C ⊢;generalize t.r=r at C ⊢;generalize t.len=len at C ⊢;generalize t.count=q at C ⊢;go_enter Tryz.func54,Tryz.ntmps54
 go_wp2_with fail
 refine(C.out _ ((Below.refl _ w).alloc (Nat.le_refl _) _)).mono ?_
 rintro e w2 ⟨rfl,b2⟩;have B:Hid (Below w.heap.size w w2):=((Below.refl _ w).alloc (Nat.le_refl _) _).trans (b2.mono (by simp));have F:Hid (max (-1) (2000 - (q:Int))<0↔2000<q):=by show _↔_;omega
 generalize max (-1) (2000 - (q:Int))=m at F ⊢;clear b2 C;go_wp2
 go_ret;exact⟨by show Ending.returned (.bool (decide (m<0)))=_;rw[decide_eq_decide.2 F.out],B.out⟩
end Go.Proofs.YtacjnejckfhpoaeGreat
namespace Go.Proofs.YtacjnejckfhpoaeGreat
open Go.ChangeShapes Go.WideShapes Go.ChangeAt Go.RowKit
set_option linter.unusedSimpArgs false
set_option linter.unusedVariables false
structure GbS (w wx:World) (l:List (Nat × Array Value × TypeId)):Prop where
 bel:Below w.heap.size w wx
 box:∀ (i:Nat) b,l[i]?=some b→Blk wx b.1 b.2.1 b.2.2
theorem GbS.below {w wx w':World}{l:List (Nat × Array Value × TypeId)}(h:GbS w wx l) (k:Below wx.heap.size wx w'):GbS w w' l:=⟨h.bel.trans (k.mono h.bel.size),fun i b hb=>(h.box i b hb).below k⟩
theorem GbS.add {w wx:World}{l:List (Nat × Array Value × TypeId)}(h:GbS w wx l){B:Nat}{c:Array Value}{t:TypeId}(hb:Blk wx B c t):GbS w wx ((B,c,t)::l) :=
 ⟨h.bel,fun i b hi=>by
  cases i with
  | zero=>cases hi;exact hb
  | succ i=>exact h.box i b hi⟩
theorem GbS.drop {w wx:World}{l:List (Nat × Array Value × TypeId)}{e:Nat × Array Value × TypeId}(h:GbS w wx (e::l)):GbS w wx l:=⟨h.bel,fun i b hb=>h.box (i+1) b hb⟩
theorem GbS.new {w wx:World}{l:List (Nat × Array Value × TypeId)}(h:GbS w wx l) (c:Array Value) (t:TypeId):GbS w (wx.alloc (.cells c t)) ((wx.heap.size,c,t)::l):=(h.below (QQ _ _)).add (Blk.new _ _ _)
theorem Z4 (n:Nat) (l:List (TT n)) (p:Option Addr) (c:Nat) (w:World) (hl0:LIn w All l p) :
 Rd Tryz.prog 25 #[.slice p l.length c] w (.bool (bdec (Zl l))):=by
 have HL:=QC hl0;clear hl0;unfold Rd;go_enter Tryz.func25,Tryz.ntmps25
 by_cases h2:200<l.length
 ·have d:(200:Int)<l.length:=by omega
  have E:=QE (A:=Zl l) (.inl h2);go_wp2_with fail
  go_ret;exact⟨by first | rfl | (rw[E];done) | (rw[E];rfl),Below.refl _ _⟩
 have d:¬ (200:Int)<l.length:=by omega
 go_wp2_with fail
 go_loopw [3] (fun i wr=>∃ k:Nat,k≤l.length∧i=.int .i64 k∧Below w.heap.size w wr∧∀ (j:Nat) t,j<k→l[j]?=some t→¬ 2000<t.count) (fun i _=>l.length - (intOf i).toNat)
 case atStart=>exact⟨0,Nat.zero_le _,rfl,Below.refl _ _,fun j z hj=>absurd hj (Nat.not_lt_zero _)⟩
 case round =>
  obtain⟨k,hk,rfl,hb,hall⟩:=hrel
  have HB:=QC hb;have HAQ:=QC hall;clear hb hall;by_cases hkt:k<l.length
  rotate_left
  ·have hkt':¬ (k:Int)<l.length:=by omega
   have E:bdec (Zl l)=false:=QB (by
    rintro (h | ⟨t,ht,h⟩)
    ·exact h2 h
    ·obtain⟨j,hj⟩:=List.mem_iff_getElem?.1 ht
     exact HAQ.out j t (by have:=(List.getElem?_eq_some_iff.1 hj).1;omega) hj h)
   go_wp2_with fail
   go_ret;exact⟨by first | rfl | (rw[E];done) | (rw[E];rfl),HB.out⟩
  have hkt':(k:Int)<l.length:=by omega
  have ht:l[k]?=some l[k]:=List.getElem?_eq_getElem hkt;generalize l[k]=t at ht;have HT:=QC ht;obtain⟨gt,ot,ta,tc,rfl,-,v0,v1,v2,hti⟩:=(show LIn wr All l p from HL.out.below HB.out).at ht
  have CG:=QC (Qhw n t ta tc wr hti);clear ht hti;go_wp2_with fail
  refine CG.out.mono ?_;rintro _ w2 ⟨rfl,b2⟩;have HB2:=QC (HB.out.trans (b2.mono HB.out.size));clear b2 CG v0 v1 v2 HB;by_cases h9:2000<t.count
  ·rw[decide_eq_true h9]
   have E:=QE (A:=Zl l) (.inr ⟨t,List.mem_of_getElem? HT.out,h9⟩);go_wp2_with fail
   go_ret;exact⟨by first | rfl | (rw[E];done) | (rw[E];rfl),HB2.out⟩
  ·rw[decide_eq_false h9]
   go_wp2_with fail
   go_roundw
   case rel =>
    refine⟨k+1,by omega,by go_num,HB2.out,fun j u hj hu=>?_⟩
    by_cases hjk:j<k
    ·exact HAQ.out j u hjk hu
    ·have:j=k:=by omega
     subst this;rw[HT.out] at hu
     cases hu
     exact h9
   case measure=>simp[intOf];omega
def Qf.much {n:Nat}(x:Qf n):Prop:=30<x.blocks.length∨Zl x.params∨Zl x.results
def Qe.much {n:Nat}(x:Qe n):Prop:=200<x.code.length∨Zl x.params∨300<x.fin.args.length∨300<x.fin.yes.regs.length∨300<x.fin.yes.args.length∨300<x.fin.no.regs.length∨300<x.fin.no.args.length
theorem QaS (n:Nat) (m:List (Qf n)) (p:Option Addr) (c:Nat) (w:World) (hm0:(Qa5 n).In w All m [.slice p m.length c]) :
 Rd Tryz.prog 7 #[.agg #[.slice p m.length c]] w (.bool (bdec (QG m))):=by
 have HM:=QC hm0;have S:Hid (GbS w (w.alloc (.cells #[.slice p m.length c] 24)) [(w.heap.size,#[.slice p m.length c],24)]):=GbS.new ⟨Below.refl _ _,fun i b hb=>by simp at hb⟩ _ _;clear hm0;unfold Rd;go_enter Tryz.func7,Tryz.ntmps7
 go_upto_region 1 with fail
 generalize w.alloc (.cells #[.slice p m.length c] 24)=w1 at S ⊢;generalize w.heap.size=X at S ⊢;have x0:=Qb (S.out.box 0 _ rfl) 0 _ rfl;by_cases c1:20<m.length
 ·have d:(20:Int)<m.length:=by omega
  have E:=QE (A:=QG m) (.inl c1);have HB:=QC S.out.bel;clear S;go_wp2_with fail
  go_ret;exact⟨by first | rfl | (rw[E];done) | (rw[E];rfl),HB.out⟩
 have d:¬ (20:Int)<m.length:=by omega
 go_wp2_with fail
 clear x0;go_loopw [3] (fun i wr=>∃ k:Nat,k≤m.length∧i=.int .i64 k∧GbS w wr [(X,#[.slice p m.length c],24)]∧∀ (j:Nat) f,j<k→m[j]?=some f→¬ f.great) (fun i _=>m.length - (intOf i).toNat)
 case atStart=>exact⟨0,Nat.zero_le _,rfl,S.out,fun j z hj=>absurd hj (Nat.not_lt_zero _)⟩
 case round =>
  obtain⟨k,hk,rfl,hs,hall⟩:=hrel
  have SR:=QC hs;have HAQ:=QC hall;clear hs hall S;obtain⟨wf,hwf⟩:∃ wf,wf=wr:=⟨_,rfl⟩
  subst hwf;have x0:=Qb (SR.out.box 0 _ rfl) 0 _ rfl;by_cases hkt:k<m.length
  rotate_left
  ·have hkt':¬ (k:Int)<m.length:=by omega
   have E:bdec (QG m)=false:=QB (by
    rintro (h | ⟨t,ht,h⟩)
    ·exact c1 h
    ·obtain⟨j,hj⟩:=List.mem_iff_getElem?.1 ht
     exact HAQ.out j t (by have:=(List.getElem?_eq_some_iff.1 hj).1;omega) hj h)
   have HB:=QC SR.out.bel;clear SR;go_wp2_with fail
   go_ret;exact⟨by first | rfl | (rw[E];done) | (rw[E];rfl),HB.out⟩
  have hkt':(k:Int)<m.length:=by omega
  have hxk:m[k]?=some m[k]:=List.getElem?_eq_getElem hkt;generalize m[k]=x at hxk;have HXK:=QC hxk;have YES:Hid (x.great→bdec (QG m)=true):=fun h=>QE (.inr ⟨x,List.mem_of_getElem? HXK.out,h⟩);obtain⟨g1,o1,f1,rfl,E1,In1⟩:=Qbk HM.out hxk
  have HI1:=QC In1;have R1:Hid (wf.rangeAt g1 (o1+k*4) [.int .i64 x.regs,.slice f1.pP x.params.length f1.cP,.slice f1.pR x.results.length f1.cR,.slice f1.pB x.blocks.length f1.cB]):=fun j v hj=>QY (E1 j v hj) SR.out.bel;have v0:wf.cell? ⟨g1,o1+k*4,none⟩=some (.int .i64 x.regs):=R1.out 0 _ rfl;have v1:=R1.out 1 _ rfl;have v2:=R1.out 2 _ rfl;have v3:=R1.out 3 _ rfl;have S6:=QC (SR.out.new #[.int .i64 x.regs,.slice f1.pP x.params.length f1.cP,.slice f1.pR x.results.length f1.cR,.slice f1.pB x.blocks.length f1.cB] 40);clear hxk E1 In1 R1 SR;go_upto_region 7 with fail
  generalize wf.alloc (.cells #[.int .i64 x.regs,.slice f1.pP x.params.length f1.cP,.slice f1.pR x.results.length f1.cR,.slice f1.pB x.blocks.length f1.cB] 40)=w6 at S6 ⊢;generalize wf.heap.size=Y at S6 ⊢;clear v0 v1 v2 v3 x0;generalize hL:([(Y,#[.int .i64 x.regs,.slice f1.pP x.params.length f1.cP,.slice f1.pR x.results.length f1.cR,.slice f1.pB x.blocks.length f1.cB],40),(X,#[.slice (some ⟨g1,o1,none⟩) m.length c],24)]:List (Nat × Array Value × TypeId))=L at S6;have BX:Hid (∀ wx,GbS w wx L→Blk wx Y #[.int .i64 x.regs,.slice f1.pP x.params.length f1.cP,.slice f1.pR x.results.length f1.cR,.slice f1.pB x.blocks.length f1.cB] 40∧GbS w wx [(X,#[.slice (some ⟨g1,o1,none⟩) m.length c],24)]):=by subst hL;exact fun wx h=>⟨h.box 0 _ rfl,h.drop⟩
  clear hL;have q1:=Qb (BX.out _ S6.out).1 1 _ rfl;have q2:=Qb (BX.out _ S6.out).1 2 _ rfl;have q3:=Qb (BX.out _ S6.out).1 3 _ rfl;go_cut [37] (fun v wx=>v=.bool (bdec x.much)∧GbS w wx L)
  case first =>
   by_cases h:30<x.blocks.length
   ·have d1:decide ((x.blocks.length:Int)>30)=true:=decide_eq_true (by omega);have E:=QE (A:=x.much) (.inl h);go_wp2
    go_meet;exact⟨by first | rfl | (rw[E];done) | (rw[E];rfl),S6.out⟩
   have d1:decide ((x.blocks.length:Int)>30)=false:=decide_eq_false (by omega);have CP:=QC (Z4 n x.params f1.pP f1.cP w6 (QL (Lay.below HI1.out.params S6.out.bel)).1);unfold Rd at CP;by_cases hp:Zl x.params
   ·have E:=QE (A:=x.much) (.inr (.inl hp));rw[QE hp] at CP
    go_wp2_with fail
    refine CP.out.mono ?_;rintro _ wa ⟨rfl,ba⟩;have SA:=QC (S6.out.below ba);clear ba CP;go_wp2
    go_meet;exact⟨by first | rfl | (rw[E];done) | (rw[E];rfl),SA.out⟩
   rw[QB hp] at CP
   go_wp2_with fail
   refine CP.out.mono ?_;rintro _ wa ⟨rfl,ba⟩;have SA:=QC (S6.out.below ba);clear ba CP q1 q2 q3;have q2:=Qb (BX.out _ SA.out).1 2 _ rfl;have CR:=QC (Z4 n x.results f1.pR f1.cR wa (QL (Lay.below HI1.out.results SA.out.bel)).1);unfold Rd at CR
   have E:bdec x.much=bdec (Zl x.results):=by
    by_cases hr:Zl x.results
    ·rw[QE hr];exact QE (.inr (.inr hr))
    ·rw[QB hr];exact QB (fun e=>by rcases e with e | e | e;exact h e;exact hp e;exact hr e)
   go_wp2_with fail
   refine CR.out.mono ?_;rintro _ wb ⟨rfl,bb⟩;have SB:=QC (SA.out.below bb);clear bb CR q2;go_wp2
   all_goals
    go_meet;exact⟨by first | rfl | (rw[E];done) | (rw[E];rfl),SB.out⟩
  case rest =>
   obtain⟨rfl,hc⟩:=hcut
   have S7:=QC hc;clear hc S6 q1 q2 q3;by_cases c2:x.much
   ·rw[QE c2]
    have E:=YES.out (by rcases c2 with h | h | h;exact .inl h;exact .inr (.inl h);exact .inr (.inr (.inl h)));have HB:=QC S7.out.bel;clear S7 c2;go_wp2_with fail
    go_ret;exact⟨by first | rfl | (rw[E];done) | (rw[E];rfl),HB.out⟩
   rw[QB c2]
   have hbl:x.blocks.length≤30:=Nat.le_of_not_lt fun h=>c2 (.inl h);go_wp2_with fail
   go_loopw [5] (fun i wr=>∃ q:Nat,q≤x.blocks.length∧i=.int .i64 q∧GbS w wr L∧∀ (j:Nat) y,j<q→x.blocks[j]?=some y→¬ y.great) (fun i _=>x.blocks.length - (intOf i).toNat)
   case atStart=>exact⟨0,Nat.zero_le _,rfl,S7.out,fun j z hj=>absurd hj (Nat.not_lt_zero _)⟩
   case round =>
    obtain⟨q,hq,rfl,hs,hall⟩:=hrel
    have SQ:=QC hs;have HBQ:=QC hall;clear hs hall S7;obtain⟨wb,hwb⟩:∃ wb,wb=wr:=⟨_,rfl⟩
    subst hwb;have q3:=Qb (BX.out _ SQ.out).1 3 _ rfl;by_cases hqt:q<x.blocks.length
    rotate_left
    ·have hqt':¬ (q:Int)<x.blocks.length:=by omega
     go_wp2_with fail
     go_roundw
     case rel =>
      refine⟨k+1,by omega,by go_num,(BX.out _ SQ.out).2,fun j f hj hf=>?_⟩
      by_cases hjk:j<k
      ·exact HAQ.out j f hjk hf
      ·have:j=k:=by omega
       subst this;rw[HXK.out] at hf
       cases hf
       rintro (h | h | h | ⟨y,hy,h⟩)
       ·exact c2 (.inl h)
       ·exact c2 (.inr (.inl h))
       ·exact c2 (.inr (.inr h))
       ·obtain⟨i,hi⟩:=List.mem_iff_getElem?.1 hy
        exact HBQ.out i y (by have:=(List.getElem?_eq_some_iff.1 hi).1;omega) hi h
     case measure=>simp[intOf];omega
    have hqt':(q:Int)<x.blocks.length:=by omega
    have hyq:x.blocks[q]?=some x.blocks[q]:=List.getElem?_eq_getElem hqt;generalize x.blocks[q]=y at hyq;have HYQ:=QC hyq;have YEB:Hid (y.great→bdec (QG m)=true):=fun h=>YES.out (.inr (.inr (.inr ⟨y,List.mem_of_getElem? HYQ.out,h⟩)));obtain⟨g2,o2,b2,e2,E2,In2⟩:=Qbr HI1.out.blocks hyq
    have HI2:=QC In2;rw[e2] at q3
    generalize hcs:([.int .i64 y.regs,.slice b2.pP y.params.length b2.cP,.slice b2.pC y.code.length b2.cC,.int .i64 y.fin.op,.int .i64 y.fin.a,.int .i64 y.fin.yes.block,.slice b2.e.pYR y.fin.yes.regs.length b2.e.cYR,.slice b2.e.pYA y.fin.yes.args.length b2.e.cYA,.int .i64 y.fin.no.block,.slice b2.e.pNR y.fin.no.regs.length b2.e.cNR,.slice b2.e.pNA y.fin.no.args.length b2.e.cNA,.slice b2.e.pA y.fin.args.length b2.e.cA]:List Value)=cs at E2;have hl:cs.length=12:=by rw[← hcs];rfl
    have MB:=QC (Qlc.of wb hl);have TO:Hid (cs.toArray.all (·.oneCell')=true):=by show _=_;rw[← hcs];exact all_oneCell_toArray (List.all_eq_true.1 rfl)
    have RG:Hid (wb.rangeAt g2 (o2+q*12) cs):=fun j v hj=>QY (E2 j v hj) SQ.out.bel;clear hyq E2 In2 hl e2;go_upto_region 13 with (first | (refine wpList_load_mid rfl 60 (.tmp 48) rfl g2 (o2+q*12) rfl cs _ RG.out Tryz.underlying60 rfl MB.out.size ?_) | (refine wpList_store_mid rfl 60 (.tmp 6) (.tmp 49) rfl wb.heap.size 0 cs.toArray rfl rfl MB.out.there MB.out.size2 TO.out ?_))
    have S3:=QC ((SQ.out.below MB.out.bel).add MB.out.blk);clear SQ q3 RG TO MB;generalize (wb.alloc (.cells #[.int .i64 0,.slice none 0 0,.slice none 0 0,.int .i64 0,.int .i64 0,.int .i64 0,.slice none 0 0,.slice none 0 0,.int .i64 0,.slice none 0 0,.slice none 0 0,.slice none 0 0] 60)).setCells wb.heap.size 0 cs=w3 at S3 ⊢;generalize wb.heap.size=Z at S3 ⊢;subst hcs;simp only[Act.put]
    generalize hL2:((Z,#[.int .i64 y.regs,.slice b2.pP y.params.length b2.cP,.slice b2.pC y.code.length b2.cC,.int .i64 y.fin.op,.int .i64 y.fin.a,.int .i64 y.fin.yes.block,.slice b2.e.pYR y.fin.yes.regs.length b2.e.cYR,.slice b2.e.pYA y.fin.yes.args.length b2.e.cYA,.int .i64 y.fin.no.block,.slice b2.e.pNR y.fin.no.regs.length b2.e.cNR,.slice b2.e.pNA y.fin.no.args.length b2.e.cNA,.slice b2.e.pA y.fin.args.length b2.e.cA],60)::L:List (Nat × Array Value × TypeId))=L2 at S3;have BZ:Hid (∀ wx,GbS w wx L2→Blk wx Z #[.int .i64 y.regs,.slice b2.pP y.params.length b2.cP,.slice b2.pC y.code.length b2.cC,.int .i64 y.fin.op,.int .i64 y.fin.a,.int .i64 y.fin.yes.block,.slice b2.e.pYR y.fin.yes.regs.length b2.e.cYR,.slice b2.e.pYA y.fin.yes.args.length b2.e.cYA,.int .i64 y.fin.no.block,.slice b2.e.pNR y.fin.no.regs.length b2.e.cNR,.slice b2.e.pNA y.fin.no.args.length b2.e.cNA,.slice b2.e.pA y.fin.args.length b2.e.cA] 60∧GbS w wx L):=by subst hL2;exact fun wx h=>⟨h.box 0 _ rfl,h.drop⟩
    clear hL2;have z1:=Qb (BZ.out _ S3.out).1 1 _ rfl;have z2:=Qb (BZ.out _ S3.out).1 2 _ rfl;go_cut [97] (fun v wx=>v=.bool (bdec y.much)∧GbS w wx L2)
    case first =>
     by_cases h:200<y.code.length
     ·have d1:decide ((y.code.length:Int)>200)=true:=decide_eq_true (by omega);have E:=QE (A:=y.much) (.inl h);go_wp2
      go_meet;exact⟨by first | rfl | (rw[E];done) | (rw[E];rfl),S3.out⟩
     have d1:decide ((y.code.length:Int)>200)=false:=decide_eq_false (by omega);have CP:=QC (Z4 n y.params b2.pP b2.cP w3 (QL (Lay.below HI2.out.params S3.out.bel)).1);unfold Rd at CP;by_cases hp:Zl y.params
     ·have E:=QE (A:=y.much) (.inr (.inl hp));rw[QE hp] at CP
      go_wp2_with fail
      refine CP.out.mono ?_;rintro _ wa ⟨rfl,ba⟩;have SA:=QC (S3.out.below ba);clear ba CP;go_wp2
      go_meet;exact⟨by first | rfl | (rw[E];done) | (rw[E];rfl),SA.out⟩
     rw[QB hp] at CP
     go_wp2_with fail
     refine CP.out.mono ?_;rintro _ wa ⟨rfl,ba⟩;have SA:=QC (S3.out.below ba);clear ba CP z1 z2;have z6:=Qb (BZ.out _ SA.out).1 6 _ rfl;have z7:=Qb (BZ.out _ SA.out).1 7 _ rfl;have z9:=Qb (BZ.out _ SA.out).1 9 _ rfl;have z10:=Qb (BZ.out _ SA.out).1 10 _ rfl;have z11:=Qb (BZ.out _ SA.out).1 11 _ rfl
     have E0:Hid (bdec y.much=(decide ((y.fin.args.length:Int)>300)||(decide ((y.fin.yes.regs.length:Int)>300)||(decide ((y.fin.yes.args.length:Int)>300)||(decide ((y.fin.no.regs.length:Int)>300)||decide ((y.fin.no.args.length:Int)>300)))))):=by
      show _=_
      have e9:y.much↔((y.fin.args.length:Int)>300∨(y.fin.yes.regs.length:Int)>300∨(y.fin.yes.args.length:Int)>300∨(y.fin.no.regs.length:Int)>300∨(y.fin.no.args.length:Int)>300):=by
       unfold Qe.much;constructor
       ·rintro (e | e | e)
        ·exact absurd e h
        ·exact absurd e hp
        ·omega
       ·intro e;right;right;omega
      by_cases hy:y.much
      ·rw[QE hy];have:=e9.1 hy;simp only[← Bool.decide_or];exact(decide_eq_true this).symm
      ·rw[QB hy];have:=fun e=>hy (e9.2 e);simp only[← Bool.decide_or];exact(decide_eq_false this).symm
     generalize y.fin.args.length=n1 at E0 z11 ⊢;generalize y.fin.yes.regs.length=n2 at E0 z6 ⊢;generalize y.fin.yes.args.length=n3 at E0 z7 ⊢;generalize y.fin.no.regs.length=n4 at E0 z9 ⊢;generalize y.fin.no.args.length=n5 at E0 z10 ⊢;by_cases k1:(n1:Int)>300
     ·have d9:decide ((n1:Int)>300)=true:=decide_eq_true k1;rw[d9] at E0
      go_wp2
      go_meet;exact⟨by rw[E0.out];first | done | rfl,SA.out⟩
     have e1:decide ((n1:Int)>300)=false:=decide_eq_false k1;rw[e1] at E0
     by_cases k2:(n2:Int)>300
     ·have d9:decide ((n2:Int)>300)=true:=decide_eq_true k2;rw[d9] at E0
      go_wp2
      go_meet;exact⟨by rw[E0.out];first | done | rfl,SA.out⟩
     have e2:decide ((n2:Int)>300)=false:=decide_eq_false k2;rw[e2] at E0
     by_cases k3:(n3:Int)>300
     ·have d9:decide ((n3:Int)>300)=true:=decide_eq_true k3;rw[d9] at E0
      go_wp2
      go_meet;exact⟨by rw[E0.out];first | done | rfl,SA.out⟩
     have e3:decide ((n3:Int)>300)=false:=decide_eq_false k3;rw[e3] at E0
     by_cases k4:(n4:Int)>300
     ·have d9:decide ((n4:Int)>300)=true:=decide_eq_true k4;rw[d9] at E0
      go_wp2
      go_meet;exact⟨by rw[E0.out];first | done | rfl,SA.out⟩
     have e4:decide ((n4:Int)>300)=false:=decide_eq_false k4;rw[e4] at E0
     go_wp2
     all_goals
      go_meet;exact⟨by rw[E0.out];first | done | rfl,SA.out⟩
    case rest =>
     obtain⟨rfl,hc⟩:=hcut
     have S4:=QC hc;clear hc S3 z1 z2;by_cases c3:y.much
     ·rw[QE c3]
      have E:=YEB.out (by rcases c3 with h | h | h | h | h | h | h;exact .inl h;exact .inr (.inl h);exact .inr (.inr (.inl h));exact .inr (.inr (.inr (.inl h)));exact .inr (.inr (.inr (.inr (.inl h))));exact .inr (.inr (.inr (.inr (.inr (.inl h)))));exact .inr (.inr (.inr (.inr (.inr (.inr (.inl h)))))));have HB:=QC S4.out.bel;clear S4 c3;go_wp2_with fail
      go_ret;exact⟨by first | rfl | (rw[E];done) | (rw[E];rfl),HB.out⟩
     rw[QB c3]
     have hcl:y.code.length≤200:=Nat.le_of_not_lt fun h=>c3 (.inl h);go_wp2_with fail
     go_loopw [7] (fun i wr=>∃ t:Nat,t≤y.code.length∧i=.int .i64 t∧GbS w wr L2∧∀ (j:Nat) z,j<t→y.code[j]?=some z→¬ (300<z.regs.length∨300<z.args.length)) (fun i _=>y.code.length - (intOf i).toNat)
     case atStart=>exact⟨0,Nat.zero_le _,rfl,S4.out,fun j z hj=>absurd hj (Nat.not_lt_zero _)⟩
     case round =>
      obtain⟨t,ht,rfl,hs,hall⟩:=hrel
      have ST:=QC hs;have HTQ:=QC hall;clear hs hall S4;have z2:=Qb (BZ.out _ ST.out).1 2 _ rfl;by_cases htt:t<y.code.length
      rotate_left
      ·have htt':¬ (t:Int)<y.code.length:=by omega
       go_wp2_with fail
       go_roundw
       case rel =>
        refine⟨q+1,by omega,by go_num,(BZ.out _ ST.out).2,fun j u hj hu=>?_⟩
        by_cases hjq:j<q
        ·exact HBQ.out j u hjq hu
        ·have:j=q:=by omega
         subst this;rw[HYQ.out] at hu
         cases hu
         rintro (h | h | h | h | h | h | h | ⟨z,hz,h⟩)
         ·exact c3 (.inl h)
         ·exact c3 (.inr (.inl h))
         ·exact c3 (.inr (.inr (.inl h)))
         ·exact c3 (.inr (.inr (.inr (.inl h))))
         ·exact c3 (.inr (.inr (.inr (.inr (.inl h)))))
         ·exact c3 (.inr (.inr (.inr (.inr (.inr (.inl h))))))
         ·exact c3 (.inr (.inr (.inr (.inr (.inr (.inr h))))))
         ·obtain⟨i,hi⟩:=List.mem_iff_getElem?.1 hz
          exact HTQ.out i z (by have:=(List.getElem?_eq_some_iff.1 hi).1;omega) hi h
       case measure=>simp[intOf];omega
      have htt':(t:Int)<y.code.length:=by omega
      have hz:y.code[t]?=some y.code[t]:=List.getElem?_eq_getElem htt;generalize y.code[t]=z at hz;have HZ:=QC hz;obtain⟨g3,o3,i3,e3,E3,-⟩:=Qeq HI2.out.code hz
      rw[e3] at z2
      have w6':=QY (show w.cell? ⟨g3,o3+t*8+6,none⟩=_ from E3 6 _ rfl) ST.out.bel;have w7':=QY (show w.cell? ⟨g3,o3+t*8+7,none⟩=_ from E3 7 _ rfl) ST.out.bel;clear hz E3 e3;go_upto_region 18 with fail
      go_cut [122] (fun v wx=>v=.bool (decide (300<z.regs.length∨300<z.args.length))∧GbS w wx L2)
      case first =>
       by_cases h:(z.regs.length:Int)>300
       ·have d1:decide ((z.regs.length:Int)>300)=true:=decide_eq_true h;have E:decide (300<z.regs.length∨300<z.args.length)=true:=decide_eq_true (by omega);go_wp2
        go_meet;exact⟨by first | rfl | (rw[E];done) | (rw[E];rfl),ST.out⟩
       ·have d1:decide ((z.regs.length:Int)>300)=false:=decide_eq_false h;have E:decide (300<z.regs.length∨300<z.args.length)=decide ((z.args.length:Int)>300):=by rw[decide_eq_decide];omega
        go_wp2
        all_goals
         go_meet;exact⟨by first | rfl | (rw[E];done) | (rw[E];rfl),ST.out⟩
      case rest =>
       obtain⟨rfl,hc⟩:=hcut
       have SU:=QC hc;clear hc ST z2 w6' w7';by_cases c4:300<z.regs.length∨300<z.args.length
       ·rw[decide_eq_true c4]
        have E:=YEB.out (.inr (.inr (.inr (.inr (.inr (.inr (.inr ⟨z,List.mem_of_getElem? HZ.out,c4⟩)))))));have HB:=QC SU.out.bel;clear SU c4;go_wp2_with fail
        go_ret;exact⟨by first | rfl | (rw[E];done) | (rw[E];rfl),HB.out⟩
       ·rw[decide_eq_false c4]
        go_wp2_with fail
        go_roundw
        case rel =>
         refine⟨t+1,by omega,by go_num,SU.out,fun j u hj hu=>?_⟩
         by_cases hjt:j<t
         ·exact HTQ.out j u hjt hu
         ·have:j=t:=by omega
          subst this;rw[HZ.out] at hu
          cases hu
          exact c4
        case measure=>simp[intOf];omega
def Qf.begins {n:Nat}(x:Qf n):Prop:=x.regs=0∧x.params.length=0∧x.results.all (fun t=>t.kind==1)=true
def Qe.takes {n:Nat}(fn:Qf n) (x:Qe n):Prop:=x.regs=fn.regs∧x.params=fn.params
theorem Qjt {n:Nat}{fn:Qf n}{x:Qe n}(h:¬ x.takes fn):x.regs≠fn.regs∨Qa6 x.params fn.params=false:=by
 by_cases h1:x.regs=fn.regs
 ·refine .inr ?_
  cases e:Qa6 x.params fn.params with
  | false=>rfl
  | true=>exact absurd ⟨h1,QbF.1 e⟩ h
 ·exact .inl h1
theorem QeF {n:Nat}{fn:Qf n}{x:Qe n}(h:x.takes fn):¬ (x.regs≠fn.regs∨Qa6 x.params fn.params=false):=by
 rintro (h1 | h1)
 ·exact h1 h.1
 ·rw[QbF.2 h.2] at h1;cases h1
theorem Qeh {n:Nat}{m:List (Qf n)}{p:Option Addr}{c:Nat}{x:Qf n}{fp:FP}{fi:Nat}{w:World}(hx0:FIn w All x fp) (hs0:x.small) :
 Rd Tryz.prog 131 #[.agg #[.slice p m.length c,.int .i64 x.regs,.slice fp.pP x.params.length fp.cP,.slice fp.pR x.results.length fp.cR,.slice fp.pB x.blocks.length fp.cB,.int .i64 (fi:Int)]] w (.bool (bdec x.begins)):=by
 have hx:Hid _:=hx0;have hs:Hid _:=hs0;clear hx0 hs0;refine Qs (n:=21) Tryz.func131 rfl rfl rfl ?_;intro a hF;have hW:=Wd.start w;replace hF:Fr 21 a [(0,.agg #[.slice p m.length c,.int .i64 x.regs,.slice fp.pP x.params.length fp.cP,.slice fp.pR x.results.length fp.cR,.slice fp.pB x.blocks.length fp.cB,.int .i64 (fi:Int)])]:=hF;refine wp_seq_k fun K1 hK1=>?_;refine rg hF fun ops=>?_;clear hF a;refine sB hW trivial rfl rfl ?_;clear hW;intro w2 B2 hW2 hN;clear hN;refine sa trivial rfl rfl ?_;refine St.nil fun a3 h3=>?_;refine hK1 _ _ ?_;refine wp_seq_k fun K4 hK4=>?_;refine Zh ?_;intro ops hops;have hg4:(ops[4]?).bind (fun o:Oper=>o.dst)=some 7:=hops 4;have hg11:(ops[11]?).bind (fun o:Oper=>o.dst)=some 14:=hops 11;clear hops;refine St.go h3 ?_;clear h3 a3;refine Zy trivial rfl rfl ?_;refine QfJ trivial rfl rfl ?_;refine Zw 0 hW2 trivial rfl rfl rfl rfl ?_;refine seq trivial rfl rfl rfl ?_;refine sm trivial rfl rfl ?_;intro a5 h5;rcases Bool.eq_false_or_eq_true (x.regs==0) with hb | hb
 ·rw[hb] at h5
  have h9:x.regs=0:=eq_of_beq hb;have hc6:Hid (x.regs=0):=h9;clear h9;clear hb;refine St.go h5 ?_;clear h5 a5;refine Zy ⟨_,hg4,rfl,rfl⟩ rfl rfl ?_;refine Qd9 ⟨_,hg4,rfl,rfl⟩ rfl rfl ?_;refine QaD 0 hW2 ⟨_,hg4,rfl,rfl⟩ rfl rfl rfl rfl ?_;refine QaN ⟨_,hg4,rfl,rfl⟩ rfl rfl ?_;refine seq ⟨_,hg4,rfl,rfl⟩ rfl rfl rfl ?_;refine sp trivial rfl rfl rfl ?_;refine sm trivial rfl rfl ?_;intro a7 h7;rcases Bool.eq_false_or_eq_true ((x.params.length:Int)==0) with hb | hb
  ·rw[hb] at h7
   have h9:x.params.length=0:=by have h8:=eq_of_beq hb;omega
   have hc8:Hid (x.params.length=0):=h9;clear h9;clear hb;refine St.go h7 ?_;clear h7 a7;refine Zy ⟨_,hg11,rfl,rfl⟩ rfl rfl ?_;refine Qfm ⟨_,hg11,rfl,rfl⟩ rfl rfl ?_;refine QaD 0 hW2 ⟨_,hg11,rfl,rfl⟩ rfl rfl rfl rfl ?_;refine QhQ cf146 hW2 (QdK (Lay.below hx.out.results hW2.bel) (by have:=hs.out.2.2.1.1;omega)) ⟨_,hg11,rfl,rfl⟩ rfl rfl rfl ?_;clear hW2;intro w9 hW9;refine sn ⟨_,hg11,rfl,rfl⟩ rfl rfl ?_;refine sp trivial rfl rfl rfl ?_;refine sa trivial rfl rfl ?_;refine St.nil fun a10 h10=>?_;refine hK4 _ _ ?_;refine wp_ret ?_;with_reducible repeat first | refine Qd ?_ | refine Qc ?_
   have R:(!(decide (0≤Qe5 0 x.results)))=true↔x.begins:=by
    have e1:=hc6.out;have e2:=hc8.out;have e3:=QfV x.results 0;by_cases hz:0≤Qe5 0 x.results
    ·simp only[hz,decide_true,Bool.not_true,Bool.false_eq_true,false_iff]
     exact fun h=>e3.1 hz h.2.2
    ·simp only[hz,decide_false,Bool.not_false,true_iff]
     refine⟨e1,e2,?_⟩
     cases e:x.results.all (fun t=>t.kind==1) with
     | true=>rfl
     | false=>exact absurd (e3.2 (by rw[e];decide)) hz
   exact Qp (t:=2) h10 rfl rfl ⟨by rw[← Qeb R],hW9.bel⟩
  rw[hb] at h7
  have h9:¬ x.params.length=0:=by have h8:=ne_of_beq_false hb;omega
  have hc11:¬ x.params.length=0:=h9;clear h9;clear hb;refine St.go h7 ?_;clear h7 a7;refine so hg11 rfl rfl rfl rfl ?_;refine so hg11 rfl rfl rfl rfl ?_;refine so hg11 rfl rfl rfl rfl ?_;refine so hg11 rfl rfl rfl rfl ?_;refine so hg11 rfl rfl rfl rfl ?_;refine spf trivial rfl rfl rfl ?_;refine sa trivial rfl rfl ?_;refine St.nil fun a12 h12=>?_;refine hK4 _ _ ?_;refine wp_ret ?_;with_reducible repeat first | refine Qd ?_ | refine Qc ?_
  have R:¬ x.begins:=fun h=>hc11 h.2.1;exact Qp (t:=2) h12 rfl rfl ⟨by rw[QB R],hW2.bel⟩
 rw[hb] at h5
 have h9:¬ x.regs=0:=ne_of_beq_false hb;have hc13:¬ x.regs=0:=h9;clear h9;clear hb;refine St.go h5 ?_;clear h5 a5;refine so hg4 rfl rfl rfl rfl ?_;refine so hg4 rfl rfl rfl rfl ?_;refine so hg4 rfl rfl rfl rfl ?_;refine so hg4 rfl rfl rfl rfl ?_;refine so hg4 rfl rfl rfl rfl ?_;refine spf trivial rfl rfl rfl ?_;refine sm trivial rfl rfl ?_;refine so hg11 rfl rfl rfl rfl ?_;refine so hg11 rfl rfl rfl rfl ?_;refine so hg11 rfl rfl rfl rfl ?_;refine so hg11 rfl rfl rfl rfl ?_;refine so hg11 rfl rfl rfl rfl ?_;refine spf trivial rfl rfl rfl ?_;refine sa trivial rfl rfl ?_;refine St.nil fun a14 h14=>?_;refine hK4 _ _ ?_;refine wp_ret ?_;with_reducible repeat first | refine Qd ?_ | refine Qc ?_
 have R:¬ x.begins:=fun h=>hc13 h.1;exact Qp (t:=2) h14 rfl rfl ⟨by rw[QB R],hW2.bel⟩
theorem QhR {n:Nat}{m:List (Qf n)}{p:Option Addr}{c:Nat}{x:Qf n}{fp:FP}{fi:Nat}{y:Qe n}{bp:BP}{bi:Nat}{w:World}(hx0:FIn w All x fp) (hs0:x.small) (hy0:BIn w All y bp) (ht0:y.small) :
 Rd Tryz.prog 148 #[.agg #[.slice p m.length c,.int .i64 x.regs,.slice fp.pP x.params.length fp.cP,.slice fp.pR x.results.length fp.cR,.slice fp.pB x.blocks.length fp.cB,.int .i64 (fi:Int),.int .i64 y.regs,.slice bp.pP y.params.length bp.cP,.slice bp.pC y.code.length bp.cC,.int .i64 y.fin.op,.int .i64 y.fin.a,.int .i64 y.fin.yes.block,.slice bp.e.pYR y.fin.yes.regs.length bp.e.cYR,.slice bp.e.pYA y.fin.yes.args.length bp.e.cYA,.int .i64 y.fin.no.block,.slice bp.e.pNR y.fin.no.regs.length bp.e.cNR,.slice bp.e.pNA y.fin.no.args.length bp.e.cNA,.slice bp.e.pA y.fin.args.length bp.e.cA,.int .i64 (bi:Int)]] w (.bool (bdec (y.takes x))):=by
 have hx:Hid _:=hx0;have hs:Hid _:=hs0;have hy:Hid _:=hy0;have ht:Hid _:=ht0;clear hx0 hs0 hy0 ht0;refine Qs (n:=21) Tryz.func148 rfl rfl rfl ?_;intro a hF;have hW:=Wd.start w;replace hF:Fr 21 a [(0,.agg #[.slice p m.length c,.int .i64 x.regs,.slice fp.pP x.params.length fp.cP,.slice fp.pR x.results.length fp.cR,.slice fp.pB x.blocks.length fp.cB,.int .i64 (fi:Int),.int .i64 y.regs,.slice bp.pP y.params.length bp.cP,.slice bp.pC y.code.length bp.cC,.int .i64 y.fin.op,.int .i64 y.fin.a,.int .i64 y.fin.yes.block,.slice bp.e.pYR y.fin.yes.regs.length bp.e.cYR,.slice bp.e.pYA y.fin.yes.args.length bp.e.cYA,.int .i64 y.fin.no.block,.slice bp.e.pNR y.fin.no.regs.length bp.e.cNR,.slice bp.e.pNA y.fin.no.args.length bp.e.cNA,.slice bp.e.pA y.fin.args.length bp.e.cA,.int .i64 (bi:Int)])]:=hF;refine wp_seq_k fun K1 hK1=>?_;refine rg hF fun ops=>?_;clear hF a;refine sB hW trivial rfl rfl ?_;clear hW;intro w2 B2 hW2 hN;clear hN;refine sa trivial rfl rfl ?_;refine St.nil fun a3 h3=>?_;refine hK1 _ _ ?_;refine wp_seq_k fun K4 hK4=>?_;refine Zh ?_;intro ops hops;have hg8:(ops[8]?).bind (fun o:Oper=>o.dst)=some 11:=hops 8;clear hops;refine St.go h3 ?_;clear h3 a3;refine Q5 trivial rfl rfl ?_;refine Qcw trivial rfl rfl ?_;refine Zw 0 hW2 trivial rfl rfl rfl rfl ?_;refine Z2 trivial rfl rfl ?_;refine Zy trivial rfl rfl ?_;refine QfJ trivial rfl rfl ?_;refine Zw 0 hW2 trivial rfl rfl rfl rfl ?_;refine seq trivial rfl rfl rfl ?_;refine sm trivial rfl rfl ?_;intro a5 h5;rcases Bool.eq_false_or_eq_true (y.regs==x.regs) with hb | hb
 ·rw[hb] at h5
  have h9:y.regs=x.regs:=eq_of_beq hb;have hc6:Hid (y.regs=x.regs):=h9;clear h9;clear hb;refine St.go h5 ?_;clear h5 a5;refine Q5 ⟨_,hg8,rfl,rfl⟩ rfl rfl ?_;refine Qcr ⟨_,hg8,rfl,rfl⟩ rfl rfl ?_;refine QaD 0 hW2 ⟨_,hg8,rfl,rfl⟩ rfl rfl rfl rfl ?_;refine Z2 ⟨_,hg8,rfl,rfl⟩ rfl rfl ?_;refine Zy ⟨_,hg8,rfl,rfl⟩ rfl rfl ?_;refine Qd9 ⟨_,hg8,rfl,rfl⟩ rfl rfl ?_;refine QaD 0 hW2 ⟨_,hg8,rfl,rfl⟩ rfl rfl rfl rfl ?_;refine QlF cf141 hW2 (Qfa (Lay.below hy.out.params hW2.bel) (Lay.below hx.out.params hW2.bel) ht.out.2.1) ⟨_,hg8,rfl,rfl⟩ rfl rfl rfl rfl ?_;clear hW2;intro w7 hW7;refine sp trivial rfl rfl rfl ?_;refine sa trivial rfl rfl ?_;refine St.nil fun a8 h8=>?_;refine hK4 _ _ ?_;refine wp_ret ?_;with_reducible repeat first | refine Qd ?_ | refine Qc ?_
  have R:y.params=x.params↔y.takes x:=⟨fun h=>⟨hc6.out,h⟩,fun h=>h.2⟩;exact Qp (t:=2) h8 rfl rfl ⟨by rw[Qgs R],hW7.bel⟩
 rw[hb] at h5
 have h9:¬ y.regs=x.regs:=ne_of_beq_false hb;have hc9:¬ y.regs=x.regs:=h9;clear h9;clear hb;refine St.go h5 ?_;clear h5 a5;refine so hg8 rfl rfl rfl rfl ?_;refine so hg8 rfl rfl rfl rfl ?_;refine so hg8 rfl rfl rfl rfl ?_;refine so hg8 rfl rfl rfl rfl ?_;refine so hg8 rfl rfl rfl rfl ?_;refine so hg8 rfl rfl rfl rfl ?_;refine so hg8 rfl rfl rfl rfl ?_;refine so hg8 rfl rfl rfl rfl ?_;refine spf trivial rfl rfl rfl ?_;refine sa trivial rfl rfl ?_;refine St.nil fun a10 h10=>?_;refine hK4 _ _ ?_;refine wp_ret ?_;with_reducible repeat first | refine Qd ?_ | refine Qc ?_
 have R:¬ y.takes x:=fun h=>hc9 h.1;exact Qp (t:=2) h10 rfl rfl ⟨by rw[QB R],hW2.bel⟩
theorem Qe3 {n:Nat}{m:List (Qf n)}{p:Option Addr}{c:Nat}{x:Qf n}{fp:FP}{fi:Nat}{w:World}(hx0:FIn w All x fp) (hs0:x.small) :
 Rd Tryz.prog 95 #[.agg #[.slice p m.length c,.int .i64 x.regs,.slice fp.pP x.params.length fp.cP,.slice fp.pR x.results.length fp.cR,.slice fp.pB x.blocks.length fp.cB,.int .i64 (fi:Int)]] w (.int .i64 (x.code fi)):=by
 have HX:=QC hx0;have HS:=QC hs0;have hbl:=hs0.1;have S:Hid (GbS w (w.alloc (.cells #[.slice p m.length c,.int .i64 x.regs,.slice fp.pP x.params.length fp.cP,.slice fp.pR x.results.length fp.cR,.slice fp.pB x.blocks.length fp.cB,.int .i64 (fi:Int)] 93)) [(w.heap.size,#[.slice p m.length c,.int .i64 x.regs,.slice fp.pP x.params.length fp.cP,.slice fp.pR x.results.length fp.cR,.slice fp.pB x.blocks.length fp.cB,.int .i64 (fi:Int)],93)]):=GbS.new ⟨Below.refl _ _,fun i b hb=>by simp at hb⟩ _ _;clear hx0 hs0;unfold Rd;go_enter Tryz.func95,Tryz.ntmps95
 go_upto_region 1 with fail
 generalize w.alloc (.cells #[.slice p m.length c,.int .i64 x.regs,.slice fp.pP x.params.length fp.cP,.slice fp.pR x.results.length fp.cR,.slice fp.pB x.blocks.length fp.cB,.int .i64 (fi:Int)] 93)=w1 at S ⊢;generalize w.heap.size=X at S ⊢;have q0:=Qb (S.out.box 0 _ rfl) 1 _ rfl;go_cut [14] (fun v wx=>v=.bool (decide (x.regs<0∨6<x.regs))∧GbS w wx [(X,#[.slice p m.length c,.int .i64 x.regs,.slice fp.pP x.params.length fp.cP,.slice fp.pR x.results.length fp.cR,.slice fp.pB x.blocks.length fp.cB,.int .i64 (fi:Int)],93)])
 case first =>
  by_cases h:x.regs<0
  ·have d1:decide (x.regs<0)=true:=decide_eq_true h;have E:decide (x.regs<0∨6<x.regs)=true:=decide_eq_true (.inl (by omega));go_wp2
   go_meet;exact⟨by rw[E],S.out⟩
  ·have d1:decide (x.regs<0)=false:=decide_eq_false h;have E:decide (x.regs<0∨6<x.regs)=decide (x.regs>6):=by rw[decide_eq_decide];omega
   go_wp2
   all_goals
    go_meet;exact⟨by rw[E],S.out⟩
 case rest =>
  obtain⟨rfl,hc⟩:=hcut
  have S2:=QC hc;clear hc S q0;by_cases c1:x.regs<0∨6<x.regs
  ·rw[decide_eq_true c1]
   have E:x.code fi=1:=if_pos c1;clear c1;go_wp2_with fail
   go_ret;exact⟨by first | rfl | (rw[E];done) | (rw[E];rfl),S2.out.bel⟩
  rw[decide_eq_false c1]
  have q0:=Qb (S2.out.box 0 _ rfl) 1 _ rfl;have q1:=Qb (S2.out.box 0 _ rfl) 2 _ rfl;have CL:=QC (Qav (regs:=x.regs) (Lay.below HX.out.params S2.out.bel) HS.out.2.1);unfold Rd at CL;go_wp2_with fail
  refine CL.out.mono ?_;rintro _ wl ⟨rfl,bl⟩;have S3:=QC (S2.out.below bl);clear bl CL q0 q1 S2;generalize hl1:listC x.regs x.params=lc;by_cases c2:lc=0
  rotate_left
  ·have d9:(lc != 0)=true:=by simpa using c2
   have E:x.code fi=lc:=by unfold Qf.code;rw[if_neg c1,hl1,if_pos c2]
   go_wp2_with fail
   go_ret;exact⟨by first | rfl | (rw[E];done) | (rw[E];rfl),S3.out.bel⟩
  subst c2;have q0:=Qb (S3.out.box 0 _ rfl) 1 _ rfl;have q1:=Qb (S3.out.box 0 _ rfl) 3 _ rfl;have CL:=QC (Qav (regs:=x.regs) (Lay.below HX.out.results S3.out.bel) HS.out.2.2.1);unfold Rd at CL;go_wp2_with fail
  refine CL.out.mono ?_;rintro _ wl ⟨rfl,bl⟩;have S4:=QC (S3.out.below bl);clear bl CL q0 q1 S3;generalize hl2:listC x.regs x.results=lc;by_cases c3:lc=0
  rotate_left
  ·have d9:(lc != 0)=true:=by simpa using c3
   have E:x.code fi=lc:=by unfold Qf.code;rw[if_neg c1,hl1,if_neg (by simp),hl2,if_pos c3]
   go_wp2_with fail
   go_ret;exact⟨by first | rfl | (rw[E];done) | (rw[E];rfl),S4.out.bel⟩
  subst c3;go_upto_region 9 with fail
  have q3:=Qb (S4.out.box 0 _ rfl) 4 _ rfl;go_cut [46] (fun v wx=>v=.bool (decide (x.blocks.length<1∨12<x.blocks.length))∧GbS w wx [(X,#[.slice p m.length c,.int .i64 x.regs,.slice fp.pP x.params.length fp.cP,.slice fp.pR x.results.length fp.cR,.slice fp.pB x.blocks.length fp.cB,.int .i64 (fi:Int)],93)])
  case first =>
   by_cases h:(x.blocks.length:Int)<1
   ·have d1:decide ((x.blocks.length:Int)<1)=true:=decide_eq_true h;have E:decide (x.blocks.length<1∨12<x.blocks.length)=true:=decide_eq_true (.inl (by omega));go_wp2
    go_meet;exact⟨by rw[E],S4.out⟩
   ·have d1:decide ((x.blocks.length:Int)<1)=false:=decide_eq_false h;have E:decide (x.blocks.length<1∨12<x.blocks.length)=decide ((x.blocks.length:Int)>12):=by rw[decide_eq_decide];omega
    go_wp2
    all_goals
     go_meet;exact⟨by rw[E],S4.out⟩
  case rest =>
   obtain⟨rfl,hc⟩:=hcut
   have S5:=QC hc;clear hc S4 q3;by_cases c4:x.blocks.length<1∨12<x.blocks.length
   ·rw[decide_eq_true c4]
    have E:x.code fi=2:=by unfold Qf.code;rw[if_neg c1,hl1,if_neg (by simp),hl2,if_neg (by simp),if_pos c4]
    clear c4;go_wp2_with fail
    go_ret;exact⟨by first | rfl | (rw[E];done) | (rw[E];rfl),S5.out.bel⟩
   rw[decide_eq_false c4]
   go_upto_region 11 with fail
   have E0:Hid (fi=0∧¬ x.begins→x.code fi=18):=by
    intro h;unfold Qf.code;rw[if_neg c1,hl1,if_neg (by simp),hl2,if_neg (by simp),if_neg c4]
    exact if_pos h
   have E1:Hid (¬ (fi=0∧¬ x.begins)→x.code fi=0):=by
    intro h;unfold Qf.code;rw[if_neg c1,hl1,if_neg (by simp),hl2,if_neg (by simp),if_neg c4]
    exact if_neg h
   clear c1 hl1 hl2 c4;have q0:=Qb (S5.out.box 0 _ rfl) 0 _ rfl;have q1:=Qb (S5.out.box 0 _ rfl) 1 _ rfl;have q2:=Qb (S5.out.box 0 _ rfl) 2 _ rfl;have q3:=Qb (S5.out.box 0 _ rfl) 3 _ rfl;have q4:=Qb (S5.out.box 0 _ rfl) 4 _ rfl;have q5:=Qb (S5.out.box 0 _ rfl) 5 _ rfl;go_cut [54] (fun v wx=>v=.bool (bdec (fi=0∧¬ x.begins))∧GbS w wx [(X,#[.slice p m.length c,.int .i64 x.regs,.slice fp.pP x.params.length fp.cP,.slice fp.pR x.results.length fp.cR,.slice fp.pB x.blocks.length fp.cB,.int .i64 (fi:Int)],93)])
   case first =>
    by_cases h0:fi=0
    rotate_left
    ·have d0:((fi:Int)==0)=false:=by simpa using h0
     have E:bdec (fi=0∧¬ x.begins)=false:=QB (fun h=>h0 h.1);clear h0;go_wp2
     go_meet;exact⟨by rw[E],S5.out⟩
    have d0:((fi:Int)==0)=true:=by simpa using h0
    have CB:=QC (Qeh (m:=m) (p:=p) (c:=c) (fi:=fi) (fp:=fp) (FIn.below HX.out S5.out.bel) HS.out);unfold Rd at CB
    have E:bdec (fi=0∧¬ x.begins)=!bdec x.begins:=by
     by_cases hb:x.begins
     ·rw[QE hb];exact QB (fun h=>h.2 hb)
     ·rw[QB hb];exact QE ⟨h0,hb⟩
    generalize bdec x.begins=bb at CB E;clear h0;go_wp2_with fail
    refine CB.out.mono ?_;rintro _ w6 ⟨rfl,b6⟩;have S6:=QC (S5.out.below b6);clear b6 CB q0 q1 q2 q3 q4 q5;go_wp2
    all_goals
     go_meet;exact⟨by rw[E],S6.out⟩
   case rest =>
    obtain⟨rfl,hc⟩:=hcut
    have S6:=QC hc;clear hc S5 q0 q1 q2 q3 q4 q5;by_cases c5:fi=0∧¬ x.begins
    ·rw[QE c5]
     have E:x.code fi=18:=E0.out c5;clear c5;go_wp2_with fail
     go_ret;exact⟨by first | rfl | (rw[E];done) | (rw[E];rfl),S6.out.bel⟩
    ·rw[QB c5]
     have E:x.code fi=0:=E1.out c5;clear c5;go_wp2_with fail
     go_ret;exact⟨by first | rfl | (rw[E];done) | (rw[E];rfl),S6.out.bel⟩
theorem Qec {n:Nat}{m:List (Qf n)}{p:Option Addr}{c:Nat}{x:Qf n}{fp:FP}{fi:Nat}{y:Qe n}{bp:BP}{bi:Nat}{w:World}(hx0:FIn w All x fp) (hs0:x.small) (hy0:BIn w All y bp) (ht0:y.small) :
 Rd Tryz.prog 132 #[.agg #[.slice p m.length c,.int .i64 x.regs,.slice fp.pP x.params.length fp.cP,.slice fp.pR x.results.length fp.cR,.slice fp.pB x.blocks.length fp.cB,.int .i64 (fi:Int),.int .i64 y.regs,.slice bp.pP y.params.length bp.cP,.slice bp.pC y.code.length bp.cC,.int .i64 y.fin.op,.int .i64 y.fin.a,.int .i64 y.fin.yes.block,.slice bp.e.pYR y.fin.yes.regs.length bp.e.cYR,.slice bp.e.pYA y.fin.yes.args.length bp.e.cYA,.int .i64 y.fin.no.block,.slice bp.e.pNR y.fin.no.regs.length bp.e.cNR,.slice bp.e.pNA y.fin.no.args.length bp.e.cNA,.slice bp.e.pA y.fin.args.length bp.e.cA,.int .i64 (bi:Int)]] w (.int .i64 (y.code' x bi)):=by
 have hx:Hid _:=hx0;have hs:Hid _:=hs0;have hy:Hid _:=hy0;have ht:Hid _:=ht0;clear hx0 hs0 hy0 ht0;refine Qs (n:=41) Tryz.func132 rfl rfl rfl ?_;intro a hF;have hW:=Wd.start w;replace hF:Fr 41 a [(0,.agg #[.slice p m.length c,.int .i64 x.regs,.slice fp.pP x.params.length fp.cP,.slice fp.pR x.results.length fp.cR,.slice fp.pB x.blocks.length fp.cB,.int .i64 (fi:Int),.int .i64 y.regs,.slice bp.pP y.params.length bp.cP,.slice bp.pC y.code.length bp.cC,.int .i64 y.fin.op,.int .i64 y.fin.a,.int .i64 y.fin.yes.block,.slice bp.e.pYR y.fin.yes.regs.length bp.e.cYR,.slice bp.e.pYA y.fin.yes.args.length bp.e.cYA,.int .i64 y.fin.no.block,.slice bp.e.pNR y.fin.no.regs.length bp.e.cNR,.slice bp.e.pNA y.fin.no.args.length bp.e.cNA,.slice bp.e.pA y.fin.args.length bp.e.cA,.int .i64 (bi:Int)])]:=hF;refine wp_seq_k fun K1 hK1=>?_;refine rg hF fun ops=>?_;clear hF a;refine sB hW trivial rfl rfl ?_;clear hW;intro w2 B2 hW2 hN;clear hN;refine sa trivial rfl rfl ?_;refine St.nil fun a3 h3=>?_;refine hK1 _ _ ?_;refine wp_seq_k fun K4 hK4=>?_;refine wp_seq_k fun K5 hK5=>?_;refine Zh ?_;intro ops hops;have hg8:(ops[8]?).bind (fun o:Oper=>o.dst)=some 12:=hops 8;clear hops;refine St.go h3 ?_;clear h3 a3;refine Q5 trivial rfl rfl ?_;refine Qcw trivial rfl rfl ?_;refine Zw 0 hW2 trivial rfl rfl rfl rfl ?_;refine Z2 trivial rfl rfl ?_;refine Zy trivial rfl rfl ?_;refine QfJ trivial rfl rfl ?_;refine Zw 0 hW2 trivial rfl rfl rfl rfl ?_;refine slt trivial rfl rfl rfl ?_;refine sm trivial rfl rfl ?_;intro a6 h6;rcases Bool.eq_false_or_eq_true (decide (y.regs<x.regs)) with hb | hb
 ·rw[hb] at h6
  have hc7:y.regs<x.regs:=of_decide_eq_true hb;clear hb;refine St.go h6 ?_;clear h6 a6;refine so hg8 rfl rfl rfl rfl ?_;refine so hg8 rfl rfl rfl rfl ?_;refine so hg8 rfl rfl rfl rfl ?_;refine so hg8 rfl rfl rfl rfl ?_;refine sp trivial rfl rfl rfl ?_;refine St.nil fun a8 h8=>?_;refine hK5 _ _ ?_;refine Qaz (t:=17) h8 rfl ?_;refine wp_seq_k fun K9 hK9=>?_;refine rg h8 fun ops=>?_;clear h8 a8;refine sa trivial rfl rfl ?_;refine St.nil fun a10 h10=>?_;refine hK9 _ _ ?_;refine wp_ret ?_;with_reducible repeat first | refine Qd ?_ | refine Qc ?_
  have R:y.code' x bi=1:=if_pos (by omega);exact Qp (t:=2) h10 rfl rfl ⟨by rw[R],hW2.bel⟩
 rw[hb] at h6
 have hc11:¬ (y.regs<x.regs):=of_decide_eq_false hb;clear hb;refine St.go h6 ?_;clear h6 a6;refine Q5 ⟨_,hg8,rfl,rfl⟩ rfl rfl ?_;refine Qcw ⟨_,hg8,rfl,rfl⟩ rfl rfl ?_;refine Zw 0 hW2 ⟨_,hg8,rfl,rfl⟩ rfl rfl rfl rfl ?_;refine sgt ⟨_,hg8,rfl,rfl⟩ rfl rfl rfl ?_;refine spf trivial rfl rfl rfl ?_;refine St.nil fun a12 h12=>?_;refine hK5 _ _ ?_;refine Qt (t:=17) h12 rfl (fun hb=>?_) (fun hb=>?_)
 ·have hc13:16<y.regs:=of_decide_eq_true hb
  clear hb;refine wp_seq_k fun K14 hK14=>?_;refine rg h12 fun ops=>?_;clear h12 a12;refine sa trivial rfl rfl ?_;refine St.nil fun a15 h15=>?_;refine hK14 _ _ ?_;refine wp_ret ?_;with_reducible repeat first | refine Qd ?_ | refine Qc ?_
  have R:y.code' x bi=1:=if_pos (by omega);exact Qp (t:=2) h15 rfl rfl ⟨by rw[R],hW2.bel⟩
 have hc16:¬ (16<y.regs):=of_decide_eq_false hb;clear hb;refine wp_skip ?_;refine hK4 _ _ ?_;refine wp_seq_k fun K17 hK17=>?_;refine wp_seq_k fun K18 hK18=>?_;refine rg h12 fun ops=>?_;clear h12 a12;refine Q5 trivial rfl rfl ?_;refine Qcr trivial rfl rfl ?_;refine QaD 0 hW2 trivial rfl rfl rfl rfl ?_;refine Q5 trivial rfl rfl ?_;refine Qcw trivial rfl rfl ?_;refine Zw 0 hW2 trivial rfl rfl rfl rfl ?_;refine QhQ cf130 hW2 (Qav (regs:=y.regs) (Lay.below hy.out.params hW2.bel) ht.out.2.1) trivial rfl rfl rfl ?_;clear hW2;intro w19 hW19;refine sa trivial rfl rfl ?_;refine St.nil fun a20 h20=>?_;refine hK18 _ _ ?_;refine wp_seq_k fun K21 hK21=>?_;refine rg h20 fun ops=>?_;clear h20 a20;refine sm trivial rfl rfl ?_;refine sne trivial rfl rfl rfl ?_;refine St.nil fun a22 h22=>?_;refine hK21 _ _ ?_;refine Qt (t:=26) h22 rfl (fun hb=>?_) (fun hb=>?_)
 ·have h9:¬ (listC y.regs y.params)=0:=bne_iff_ne.1 hb
  have hc23:¬ (listC y.regs y.params)=0:=h9;clear h9;clear hb;refine wp_seq_k fun K24 hK24=>?_;refine rg h22 fun ops=>?_;clear h22 a22;refine sm trivial rfl rfl ?_;refine sa trivial rfl rfl ?_;refine St.nil fun a25 h25=>?_;refine hK24 _ _ ?_;refine wp_ret ?_;with_reducible repeat first | refine Qd ?_ | refine Qc ?_
  have R:y.code' x bi=listC y.regs y.params:=(if_neg (by omega)).trans (if_pos (by omega));exact Qp (t:=2) h25 rfl rfl ⟨by rw[R],hW19.bel⟩
 have h9:(listC y.regs y.params)=0:=bne_eq_false_iff_eq.1 hb;have hc26:Hid ((listC y.regs y.params)=0):=h9;clear h9;clear hb;refine wp_skip ?_;refine hK17 _ _ ?_;refine wp_seq_k fun K27 hK27=>?_;refine wp_seq_k fun K28 hK28=>?_;refine Zh ?_;intro ops hops;have hg3:(ops[3]?).bind (fun o:Oper=>o.dst)=some 31:=hops 3;clear hops;refine St.go h22 ?_;clear h22 a22;refine Qcj trivial rfl rfl ?_;refine Zw 0 hW19 trivial rfl rfl rfl rfl ?_;refine seq trivial rfl rfl rfl ?_;refine sm trivial rfl rfl ?_;intro a29 h29;rcases Bool.eq_false_or_eq_true ((bi:Int)==0) with hb | hb
 ·rw[hb] at h29
  have h9:bi=0:=by have h8:=eq_of_beq hb;omega
  have hc30:Hid (bi=0):=h9;clear h9;clear hb;refine St.go h29 ?_;clear h29 a29;refine sS 0 19 Tryz.underlying131 rfl infblockLook hW19 ⟨_,hg3,rfl,rfl⟩ rfl rfl rfl rfl ?_;refine QjI cf148 hW19 (QhR (m:=m) (p:=p) (c:=c) (fi:=fi) (bi:=bi) (hx.out.below hW19.bel) hs.out (hy.out.below hW19.bel) ht.out) ⟨_,hg3,rfl,rfl⟩ rfl rfl ?_;clear hW19;intro w31 hW31;refine sn ⟨_,hg3,rfl,rfl⟩ rfl rfl ?_;refine sp trivial rfl rfl rfl ?_;refine St.nil fun a32 h32=>?_;refine hK28 _ _ ?_;refine Qt (t:=35) h32 rfl (fun hb=>?_) (fun hb=>?_)
  ·have hb:(bdec (y.takes x))=false:=by simpa using hb
   have hc33:¬ (y.takes x):=fun h=>by rw[QE h] at hb;cases hb
   clear hb;refine wp_seq_k fun K34 hK34=>?_;refine rg h32 fun ops=>?_;clear h32 a32;refine sa trivial rfl rfl ?_;refine St.nil fun a35 h35=>?_;refine hK34 _ _ ?_;refine wp_ret ?_;with_reducible repeat first | refine Qd ?_ | refine Qc ?_
   have:=hc26.out
   have:=hc30.out
   have R:y.code' x bi=9:=(if_neg (by omega)).trans ((if_neg (by omega)).trans (if_pos (⟨by omega,Qjt hc33⟩)));exact Qp (t:=2) h35 rfl rfl ⟨by rw[R],hW31.bel⟩
  have hb:(bdec (y.takes x))=true:=by simpa using hb
  have hc36:(y.takes x):=Qap.1 hb;clear hb;refine wp_skip ?_;refine hK27 _ _ ?_;refine wp_seq_k fun K37 hK37=>?_;refine wp_seq_k fun K38 hK38=>?_;refine rg h32 fun ops=>?_;clear h32 a32;refine Q5 trivial rfl rfl ?_;refine ZQ trivial rfl rfl ?_;refine QfT 0 hW31 trivial rfl rfl rfl rfl ?_;refine Qdk trivial rfl rfl ?_;refine sgt trivial rfl rfl rfl ?_;refine St.nil fun a39 h39=>?_;refine hK38 _ _ ?_;refine Qt (t:=40) h39 rfl (fun hb=>?_) (fun hb=>?_)
  ·have hc40:40<y.code.length:=by have:=of_decide_eq_true hb;omega
   clear hb;refine wp_seq_k fun K41 hK41=>?_;refine rg h39 fun ops=>?_;clear h39 a39;refine sa trivial rfl rfl ?_;refine St.nil fun a42 h42=>?_;refine hK41 _ _ ?_;refine wp_ret ?_;with_reducible repeat first | refine Qd ?_ | refine Qc ?_
   have:=hc26.out
   have:=hc30.out
   have R:y.code' x bi=2:=(if_neg (by omega)).trans ((if_neg (by omega)).trans ((if_neg (fun h=>QeF hc36 h.2)).trans (if_pos (by omega))));exact Qp (t:=2) h42 rfl rfl ⟨by rw[R],hW31.bel⟩
  have hc43:¬ (40<y.code.length):=by have:=of_decide_eq_false hb;omega
  clear hb;refine wp_skip ?_;refine hK37 _ _ ?_;refine wp_seq_k fun K44 hK44=>?_;refine rg h39 fun ops=>?_;clear h39 a39;refine sa trivial rfl rfl ?_;refine St.nil fun a45 h45=>?_;refine hK44 _ _ ?_;refine wp_ret ?_;with_reducible repeat first | refine Qd ?_ | refine Qc ?_
  have:=hc26.out
  have:=hc30.out
  have R:y.code' x bi=0:=(if_neg (by omega)).trans ((if_neg (by omega)).trans ((if_neg (fun h=>QeF hc36 h.2)).trans ((if_neg (by omega)).trans (rfl))));exact Qp (t:=2) h45 rfl rfl ⟨by rw[R],hW31.bel⟩
 rw[hb] at h29
 have h9:¬ bi=0:=by have h8:=ne_of_beq_false hb;omega
 have hc46:¬ bi=0:=h9;clear h9;clear hb;refine St.go h29 ?_;clear h29 a29;refine so hg3 rfl rfl rfl rfl ?_;refine so hg3 rfl rfl rfl rfl ?_;refine so hg3 rfl rfl rfl rfl ?_;refine spf trivial rfl rfl rfl ?_;refine St.nil fun a47 h47=>?_;refine hK28 _ _ ?_;refine Qgp (t:=35) h47 rfl ?_;refine wp_skip ?_;refine hK27 _ _ ?_;refine wp_seq_k fun K48 hK48=>?_;refine wp_seq_k fun K49 hK49=>?_;refine rg h47 fun ops=>?_;clear h47 a47;refine Q5 trivial rfl rfl ?_;refine ZQ trivial rfl rfl ?_;refine QfT 0 hW19 trivial rfl rfl rfl rfl ?_;refine Qdk trivial rfl rfl ?_;refine sgt trivial rfl rfl rfl ?_;refine St.nil fun a50 h50=>?_;refine hK49 _ _ ?_;refine Qt (t:=40) h50 rfl (fun hb=>?_) (fun hb=>?_)
 ·have hc51:40<y.code.length:=by have:=of_decide_eq_true hb;omega
  clear hb;refine wp_seq_k fun K52 hK52=>?_;refine rg h50 fun ops=>?_;clear h50 a50;refine sa trivial rfl rfl ?_;refine St.nil fun a53 h53=>?_;refine hK52 _ _ ?_;refine wp_ret ?_;with_reducible repeat first | refine Qd ?_ | refine Qc ?_
  have:=hc26.out
  have R:y.code' x bi=2:=(if_neg (by omega)).trans ((if_neg (by omega)).trans ((if_neg (by omega)).trans (if_pos (by omega))));exact Qp (t:=2) h53 rfl rfl ⟨by rw[R],hW19.bel⟩
 have hc54:¬ (40<y.code.length):=by have:=of_decide_eq_false hb;omega
 clear hb;refine wp_skip ?_;refine hK48 _ _ ?_;refine wp_seq_k fun K55 hK55=>?_;refine rg h50 fun ops=>?_;clear h50 a50;refine sa trivial rfl rfl ?_;refine St.nil fun a56 h56=>?_;refine hK55 _ _ ?_;refine wp_ret ?_;with_reducible repeat first | refine Qd ?_ | refine Qc ?_
 have:=hc26.out
 have R:y.code' x bi=0:=(if_neg (by omega)).trans ((if_neg (by omega)).trans ((if_neg (by omega)).trans ((if_neg (by omega)).trans (rfl))));exact Qp (t:=2) h56 rfl rfl ⟨by rw[R],hW19.bel⟩
theorem Qhz {l:List Qx}{p:Option Addr}{c Bc:Nat}{w:World}(G:Nat→Qx→Int × Int) (hl0:insL.list.In w All l [.slice p l.length c]) (hsb:l.length≤100000)
 (hcl0:∀ (i:Nat) x (z:IP) wx,l[i]?=some x→IIn wx All x z→Below w.heap.size w wx→Rd Tryz.prog 135 #[.int .i64 (i:Int),.agg #[.int .i64 x.op,.int .i64 x.a,.int .i64 x.b,.int .i64 x.c,.int .i64 x.k,.int .i64 x.n,.slice z.pR x.regs.length z.cR,.slice z.pA x.args.length z.cA],.pointer (some ⟨Bc,0,none⟩)] wx (QD (G i x))) :
 Rd Tryz.prog 134 #[.slice p l.length c,.func (.func 135) #[] #[.pointer (some ⟨Bc,0,none⟩)]] w (QD (firstF G 0 l)):=by
 have hl:Hid _:=hl0;have hcl:Hid _:=hcl0;clear hl0 hcl0;refine Qs (n:=25) Tryz.func134 rfl rfl rfl ?_;intro a hF;have hW:=Wd.start w;replace hF:Fr 25 a [(0,.slice p l.length c),(1,.func (.func 135) #[] #[.pointer (some ⟨Bc,0,none⟩)])]:=hF;refine wp_seq_k fun K1 hK1=>?_;refine rg hF fun ops=>?_;clear hF a;refine Zz hW trivial rfl ?_;clear hW;intro w2 B2 hW2 hN;clear hN;refine St.nil fun a3 h3=>?_;refine hK1 _ _ ?_;refine wp_seq_k fun K4 hK4=>?_;refine wp_seq_k fun K5 hK5=>?_;refine rg h3 fun ops=>?_;clear h3 a3;refine sm trivial rfl rfl ?_;refine Qdk trivial rfl rfl ?_;refine sm trivial rfl rfl ?_;refine St.nil fun a6 h6=>?_;refine hK5 _ _ ?_;refine wp_block ?_;refine ZJ (fun r a w'=>∃ q:Nat,q≤l.length∧r=l.length - q∧(∀ (j:Nat) y,j<q→l[j]?=some y→(G j y).1=0)∧Fr 25 a [(1,.func (.func 135) #[] #[.pointer (some ⟨Bc,0,none⟩)]),(0,.slice p l.length c),(4,.pointer (some ⟨B2,0,none⟩)),(8,.slice p l.length c),(9,.int .i64 (l.length:Int)),(10,.int .i64 (q:Int))]∧Wd w w' [(B2,#[.int .i64 0,.int .i64 0],30)]) (l.length) ⟨0,Nat.zero_le _,rfl,(fun j y hj=>by omega),(h6.keep (h6.keep (h6.keep (h6.keep (h6.keep (h6.keep h6.nil (t:=10) rfl) (t:=9) rfl) (t:=8) rfl) (t:=4) rfl) (t:=0) rfl) (t:=1) rfl),hW2⟩ ?_;clear h6 hW2;rintro r a7 w7 ⟨q,hq,hr,hall,hF7,hW7⟩ KL hKL;refine wp_seq_k fun K8 hK8=>?_;refine rg hF7 fun ops=>?_;clear hF7 a7;refine slt trivial rfl rfl rfl ?_;refine St.nil fun a9 h9=>?_;refine hK8 _ _ ?_;refine wp_seq_k fun K10 hK10=>?_;refine Qt (t:=11) h9 rfl (fun hb=>?_) (fun hb=>?_)
 ·have hlt1:q<l.length:=by have:=of_decide_eq_true hb;omega
  clear hb;obtain⟨x,hx1⟩:∃ v9,(l)[q]?=some v9:=⟨_,List.getElem?_eq_getElem hlt1⟩
  obtain⟨g1,o1,i1,hp1,E1,In1⟩:=Qeq hl.out hx1
  replace In1:Hid _:=In1;replace hp1:Hid _:=hp1;replace hx1:Hid _:=hx1;replace E1:Hid _:=E1;refine wp_skip ?_;refine hK10 _ _ ?_;refine wp_seq_k fun K11 hK11=>?_;refine wp_block ?_;refine wp_seq_k fun K12 hK12=>?_;refine rg h9 fun ops=>?_;clear h9 a9;refine sm trivial rfl rfl ?_;refine Qgg hp1.out hlt1 trivial rfl rfl rfl ?_;refine sSE Tryz.underlying46 rfl (QK E1.out hW7.bel) infIns trivial rfl rfl ?_;refine Qi2 hW7 trivial rfl ?_;clear hW7;intro w13 B13 hW13 hN;clear hN;refine sa trivial rfl rfl ?_;refine sT 0 hW13 rfl rfl infIns rfl rfl rfl ?_;clear hW13;intro w14 hW14;refine St.nil fun a15 h15=>?_;refine hK12 _ _ ?_;refine wp_seq_k fun K16 hK16=>?_;refine rg h15 fun ops=>?_;clear h15 a15;refine sm trivial rfl rfl ?_;refine sm trivial rfl rfl ?_;refine sS 0 8 Tryz.underlying46 rfl infIns hW14 trivial rfl rfl rfl rfl ?_;refine Qj4 cf135 hW14 (hcl.out q x i1 w14 hx1.out (In1.out.below hW14.bel) hW14.bel) trivial rfl rfl rfl rfl ?_;clear hW14;intro w17 hW17;refine Zz hW17 trivial rfl ?_;clear hW17;intro w18 B18 hW18 hN;clear hN;refine sT 0 hW18 rfl rfl infFault rfl rfl rfl ?_;clear hW18;intro w19 hW19;refine St.nil fun a20 h20=>?_;refine hK16 _ _ ?_;refine wp_seq_k fun K21 hK21=>?_;refine rg h20 fun ops=>?_;clear h20 a20;refine Qcx trivial rfl rfl ?_;refine Zw 0 hW19 trivial rfl rfl rfl rfl ?_;refine sne trivial rfl rfl rfl ?_;refine St.nil fun a22 h22=>?_;refine hK21 _ _ ?_;refine Qt (t:=21) h22 rfl (fun hb=>?_) (fun hb=>?_)
  ·have h9:¬ ((G q x).1)=0:=bne_iff_ne.1 hb
   have hne:¬ ((G q x).1)=0:=h9;clear h9;clear hb;refine wp_seq_k fun K23 hK23=>?_;refine rg h22 fun ops=>?_;clear h22 a22;refine sS 0 2 Tryz.underlying30 rfl infFault hW19 trivial rfl rfl rfl rfl ?_;refine sT 2 hW19 rfl rfl infFault rfl rfl rfl ?_;clear hW19;intro w24 hW24;refine St.nil fun a25 h25=>?_;refine hK23 _ _ ?_;refine wp_ret ?_;with_reducible repeat first | refine Qd ?_ | refine Qc ?_
   have R:firstF G 0 l=G q x:=by have h9:=Zk (f:=G) (j:=0) hx1.out (fun k y hk hy=>by rw[Nat.zero_add];exact hall k y hk hy) (by rw[Nat.zero_add];exact hne);rwa [Nat.zero_add] at h9
   exact QN 2 h25 hW24 rfl rfl rfl Tryz.underlying30 rfl infFault ⟨by show Ending.returned (.agg #[.int .i64 ((G q x).1),.int .i64 ((G q x).2)])=_;rw[R],hW24.bel⟩
  have h9:((G q x).1)=0:=bne_eq_false_iff_eq.1 hb;have hne:Hid (((G q x).1)=0):=h9;clear h9;clear hb;refine wp_skip ?_;refine hK11 _ _ ?_;refine rg h22 fun ops=>?_;clear h22 a22;refine sad (by omega) trivial rfl rfl rfl ?_;refine sm trivial rfl rfl ?_;refine St.nil fun a26 h26=>?_;refine hKL _ _ (l.length - (q+1)) (by omega) ⟨q+1,by omega,rfl,?_,(h26.keep (h26.keep (h26.keep (h26.keep (h26.keep (h26.keep h26.nil (t:=10) rfl) (t:=9) rfl) (t:=8) rfl) (t:=4) rfl) (t:=0) rfl) (t:=1) rfl),hW19.tail.tail⟩
  ·intro j y hj hy
   by_cases e:j=q
   ·subst e;rw[hx1.out] at hy;cases hy;exact hne.out
   ·exact hall j y (by omega) hy
 have hge:q=l.length:=by have:=of_decide_eq_false hb;omega
 clear hb;refine wp_exit ?_;refine hK4 _ _ ?_;refine wp_seq_k fun K27 hK27=>?_;refine rg h9 fun ops=>?_;clear h9 a9;intro a28 h28;refine Q2 (t:=24) (v:=.agg #[.int .i64 0,.int .i64 0]) (w':=w7) h28 rfl rfl rfl (fun K hK=>?_) ?_
 ·go_simp
  exact hK
 clear h28;intro a29 hF29;refine St.go hF29 ?_;clear hF29 a29;refine sT 0 hW7 rfl rfl infFault rfl rfl rfl ?_;clear hW7;intro w30 hW30;refine St.nil fun a31 h31=>?_;refine hK27 _ _ ?_;refine wp_ret ?_;with_reducible repeat first | refine Qd ?_ | refine Qc ?_
 have R:firstF G 0 l=(0,0):=Qy (fun k y hy=>by rw[Nat.zero_add];exact hall k y (by have:=(List.getElem?_eq_some_iff.1 hy).1;omega) hy);exact QN 0 h31 hW30 rfl rfl rfl Tryz.underlying30 rfl infFault ⟨by show Ending.returned (.agg #[.int .i64 0,.int .i64 0])=_;rw[R],hW30.bel⟩
theorem Qfw {n:Nat}{l:List (Qe n)}{p:Option Addr}{c Bc:Nat}{w:World}(G:Nat→(Qe n)→Int × Int) (hl0:(Zc n).list.In w All l [.slice p l.length c]) (hsb:l.length≤100000)
 (hcl0:∀ (i:Nat) x (z:BP) wx,l[i]?=some x→BIn wx All x z→Below w.heap.size w wx→Rd Tryz.prog 99 #[.int .i64 (i:Int),.agg #[.int .i64 x.regs,.slice z.pP x.params.length z.cP,.slice z.pC x.code.length z.cC,.int .i64 x.fin.op,.int .i64 x.fin.a,.int .i64 x.fin.yes.block,.slice z.e.pYR x.fin.yes.regs.length z.e.cYR,.slice z.e.pYA x.fin.yes.args.length z.e.cYA,.int .i64 x.fin.no.block,.slice z.e.pNR x.fin.no.regs.length z.e.cNR,.slice z.e.pNA x.fin.no.args.length z.e.cNA,.slice z.e.pA x.fin.args.length z.e.cA],.pointer (some ⟨Bc,0,none⟩)] wx (QD (G i x))) :
 Rd Tryz.prog 98 #[.slice p l.length c,.func (.func 99) #[] #[.pointer (some ⟨Bc,0,none⟩)]] w (QD (firstF G 0 l)):=by
 have hl:Hid _:=hl0;have hcl:Hid _:=hcl0;clear hl0 hcl0;refine Qs (n:=25) Tryz.func98 rfl rfl rfl ?_;intro a hF;have hW:=Wd.start w;replace hF:Fr 25 a [(0,.slice p l.length c),(1,.func (.func 99) #[] #[.pointer (some ⟨Bc,0,none⟩)])]:=hF;refine wp_seq_k fun K1 hK1=>?_;refine rg hF fun ops=>?_;clear hF a;refine Zz hW trivial rfl ?_;clear hW;intro w2 B2 hW2 hN;clear hN;refine St.nil fun a3 h3=>?_;refine hK1 _ _ ?_;refine wp_seq_k fun K4 hK4=>?_;refine wp_seq_k fun K5 hK5=>?_;refine rg h3 fun ops=>?_;clear h3 a3;refine sm trivial rfl rfl ?_;refine Qco trivial rfl rfl ?_;refine sm trivial rfl rfl ?_;refine St.nil fun a6 h6=>?_;refine hK5 _ _ ?_;refine wp_block ?_;refine ZJ (fun r a w'=>∃ q:Nat,q≤l.length∧r=l.length - q∧(∀ (j:Nat) y,j<q→l[j]?=some y→(G j y).1=0)∧Fr 25 a [(1,.func (.func 99) #[] #[.pointer (some ⟨Bc,0,none⟩)]),(0,.slice p l.length c),(4,.pointer (some ⟨B2,0,none⟩)),(8,.slice p l.length c),(9,.int .i64 (l.length:Int)),(10,.int .i64 (q:Int))]∧Wd w w' [(B2,#[.int .i64 0,.int .i64 0],30)]) (l.length) ⟨0,Nat.zero_le _,rfl,(fun j y hj=>by omega),(h6.keep (h6.keep (h6.keep (h6.keep (h6.keep (h6.keep h6.nil (t:=10) rfl) (t:=9) rfl) (t:=8) rfl) (t:=4) rfl) (t:=0) rfl) (t:=1) rfl),hW2⟩ ?_;clear h6 hW2;rintro r a7 w7 ⟨q,hq,hr,hall,hF7,hW7⟩ KL hKL;refine wp_seq_k fun K8 hK8=>?_;refine rg hF7 fun ops=>?_;clear hF7 a7;refine slt trivial rfl rfl rfl ?_;refine St.nil fun a9 h9=>?_;refine hK8 _ _ ?_;refine wp_seq_k fun K10 hK10=>?_;refine Qt (t:=11) h9 rfl (fun hb=>?_) (fun hb=>?_)
 ·have hlt1:q<l.length:=by have:=of_decide_eq_true hb;omega
  clear hb;obtain⟨x,hx1⟩:∃ v9,(l)[q]?=some v9:=⟨_,List.getElem?_eq_getElem hlt1⟩
  obtain⟨g1,o1,b1,hp1,E1,In1⟩:=Qbr hl.out hx1
  replace In1:Hid _:=In1;replace hp1:Hid _:=hp1;replace hx1:Hid _:=hx1;replace E1:Hid _:=E1;refine wp_skip ?_;refine hK10 _ _ ?_;refine wp_seq_k fun K11 hK11=>?_;refine wp_block ?_;refine wp_seq_k fun K12 hK12=>?_;refine rg h9 fun ops=>?_;clear h9 a9;refine sm trivial rfl rfl ?_;refine Qcq hp1.out hlt1 trivial rfl rfl rfl ?_;refine sSE Tryz.underlying60 rfl (QK E1.out hW7.bel) infBlock trivial rfl rfl ?_;refine QdP hW7 trivial rfl ?_;clear hW7;intro w13 B13 hW13 hN;clear hN;refine sa trivial rfl rfl ?_;refine sT 0 hW13 rfl rfl infBlock rfl rfl rfl ?_;clear hW13;intro w14 hW14;refine St.nil fun a15 h15=>?_;refine hK12 _ _ ?_;refine wp_seq_k fun K16 hK16=>?_;refine rg h15 fun ops=>?_;clear h15 a15;refine sm trivial rfl rfl ?_;refine sm trivial rfl rfl ?_;refine sS 0 12 Tryz.underlying60 rfl infBlock hW14 trivial rfl rfl rfl rfl ?_;refine Qj4 cf99 hW14 (hcl.out q x b1 w14 hx1.out (In1.out.below hW14.bel) hW14.bel) trivial rfl rfl rfl rfl ?_;clear hW14;intro w17 hW17;refine Zz hW17 trivial rfl ?_;clear hW17;intro w18 B18 hW18 hN;clear hN;refine sT 0 hW18 rfl rfl infFault rfl rfl rfl ?_;clear hW18;intro w19 hW19;refine St.nil fun a20 h20=>?_;refine hK16 _ _ ?_;refine wp_seq_k fun K21 hK21=>?_;refine rg h20 fun ops=>?_;clear h20 a20;refine Qcx trivial rfl rfl ?_;refine Zw 0 hW19 trivial rfl rfl rfl rfl ?_;refine sne trivial rfl rfl rfl ?_;refine St.nil fun a22 h22=>?_;refine hK21 _ _ ?_;refine Qt (t:=21) h22 rfl (fun hb=>?_) (fun hb=>?_)
  ·have h9:¬ ((G q x).1)=0:=bne_iff_ne.1 hb
   have hne:¬ ((G q x).1)=0:=h9;clear h9;clear hb;refine wp_seq_k fun K23 hK23=>?_;refine rg h22 fun ops=>?_;clear h22 a22;refine sS 0 2 Tryz.underlying30 rfl infFault hW19 trivial rfl rfl rfl rfl ?_;refine sT 2 hW19 rfl rfl infFault rfl rfl rfl ?_;clear hW19;intro w24 hW24;refine St.nil fun a25 h25=>?_;refine hK23 _ _ ?_;refine wp_ret ?_;with_reducible repeat first | refine Qd ?_ | refine Qc ?_
   have R:firstF G 0 l=G q x:=by have h9:=Zk (f:=G) (j:=0) hx1.out (fun k y hk hy=>by rw[Nat.zero_add];exact hall k y hk hy) (by rw[Nat.zero_add];exact hne);rwa [Nat.zero_add] at h9
   exact QN 2 h25 hW24 rfl rfl rfl Tryz.underlying30 rfl infFault ⟨by show Ending.returned (.agg #[.int .i64 ((G q x).1),.int .i64 ((G q x).2)])=_;rw[R],hW24.bel⟩
  have h9:((G q x).1)=0:=bne_eq_false_iff_eq.1 hb;have hne:Hid (((G q x).1)=0):=h9;clear h9;clear hb;refine wp_skip ?_;refine hK11 _ _ ?_;refine rg h22 fun ops=>?_;clear h22 a22;refine sad (by omega) trivial rfl rfl rfl ?_;refine sm trivial rfl rfl ?_;refine St.nil fun a26 h26=>?_;refine hKL _ _ (l.length - (q+1)) (by omega) ⟨q+1,by omega,rfl,?_,(h26.keep (h26.keep (h26.keep (h26.keep (h26.keep (h26.keep h26.nil (t:=10) rfl) (t:=9) rfl) (t:=8) rfl) (t:=4) rfl) (t:=0) rfl) (t:=1) rfl),hW19.tail.tail⟩
  ·intro j y hj hy
   by_cases e:j=q
   ·subst e;rw[hx1.out] at hy;cases hy;exact hne.out
   ·exact hall j y (by omega) hy
 have hge:q=l.length:=by have:=of_decide_eq_false hb;omega
 clear hb;refine wp_exit ?_;refine hK4 _ _ ?_;refine wp_seq_k fun K27 hK27=>?_;refine rg h9 fun ops=>?_;clear h9 a9;intro a28 h28;refine Q2 (t:=24) (v:=.agg #[.int .i64 0,.int .i64 0]) (w':=w7) h28 rfl rfl rfl (fun K hK=>?_) ?_
 ·go_simp
  exact hK
 clear h28;intro a29 hF29;refine St.go hF29 ?_;clear hF29 a29;refine sT 0 hW7 rfl rfl infFault rfl rfl rfl ?_;clear hW7;intro w30 hW30;refine St.nil fun a31 h31=>?_;refine hK27 _ _ ?_;refine wp_ret ?_;with_reducible repeat first | refine Qd ?_ | refine Qc ?_
 have R:firstF G 0 l=(0,0):=Qy (fun k y hy=>by rw[Nat.zero_add];exact hall k y (by have:=(List.getElem?_eq_some_iff.1 hy).1;omega) hy);exact QN 0 h31 hW30 rfl rfl rfl Tryz.underlying30 rfl infFault ⟨by show Ending.returned (.agg #[.int .i64 0,.int .i64 0])=_;rw[R],hW30.bel⟩
theorem QgH {n:Nat}{l:List (Qf n)}{p:Option Addr}{c Bc:Nat}{w:World}(G:Nat→(Qf n)→Int × Int) (hl0:(Qa5 n).In w All l [.slice p l.length c]) (hsb:l.length≤100000)
 (hcl0:∀ (i:Nat) x (z:FP) wx,l[i]?=some x→FIn wx All x z→Below w.heap.size w wx→Rd Tryz.prog 56 #[.int .i64 (i:Int),.agg #[.int .i64 x.regs,.slice z.pP x.params.length z.cP,.slice z.pR x.results.length z.cR,.slice z.pB x.blocks.length z.cB],.pointer (some ⟨Bc,0,none⟩)] wx (QD (G i x))) :
 Rd Tryz.prog 55 #[.slice p l.length c,.func (.func 56) #[] #[.pointer (some ⟨Bc,0,none⟩)]] w (QD (firstF G 0 l)):=by
 have hl:Hid _:=hl0;have hcl:Hid _:=hcl0;clear hl0 hcl0;refine Qs (n:=25) Tryz.func55 rfl rfl rfl ?_;intro a hF;have hW:=Wd.start w;replace hF:Fr 25 a [(0,.slice p l.length c),(1,.func (.func 56) #[] #[.pointer (some ⟨Bc,0,none⟩)])]:=hF;refine wp_seq_k fun K1 hK1=>?_;refine rg hF fun ops=>?_;clear hF a;refine Zz hW trivial rfl ?_;clear hW;intro w2 B2 hW2 hN;clear hN;refine St.nil fun a3 h3=>?_;refine hK1 _ _ ?_;refine wp_seq_k fun K4 hK4=>?_;refine wp_seq_k fun K5 hK5=>?_;refine rg h3 fun ops=>?_;clear h3 a3;refine sm trivial rfl rfl ?_;refine Qbj trivial rfl rfl ?_;refine sm trivial rfl rfl ?_;refine St.nil fun a6 h6=>?_;refine hK5 _ _ ?_;refine wp_block ?_;refine ZJ (fun r a w'=>∃ q:Nat,q≤l.length∧r=l.length - q∧(∀ (j:Nat) y,j<q→l[j]?=some y→(G j y).1=0)∧Fr 25 a [(1,.func (.func 56) #[] #[.pointer (some ⟨Bc,0,none⟩)]),(0,.slice p l.length c),(4,.pointer (some ⟨B2,0,none⟩)),(8,.slice p l.length c),(9,.int .i64 (l.length:Int)),(10,.int .i64 (q:Int))]∧Wd w w' [(B2,#[.int .i64 0,.int .i64 0],30)]) (l.length) ⟨0,Nat.zero_le _,rfl,(fun j y hj=>by omega),(h6.keep (h6.keep (h6.keep (h6.keep (h6.keep (h6.keep h6.nil (t:=10) rfl) (t:=9) rfl) (t:=8) rfl) (t:=4) rfl) (t:=0) rfl) (t:=1) rfl),hW2⟩ ?_;clear h6 hW2;rintro r a7 w7 ⟨q,hq,hr,hall,hF7,hW7⟩ KL hKL;refine wp_seq_k fun K8 hK8=>?_;refine rg hF7 fun ops=>?_;clear hF7 a7;refine slt trivial rfl rfl rfl ?_;refine St.nil fun a9 h9=>?_;refine hK8 _ _ ?_;refine wp_seq_k fun K10 hK10=>?_;refine Qt (t:=11) h9 rfl (fun hb=>?_) (fun hb=>?_)
 ·have hlt1:q<l.length:=by have:=of_decide_eq_true hb;omega
  clear hb;obtain⟨x,hx1⟩:∃ v9,(l)[q]?=some v9:=⟨_,List.getElem?_eq_getElem hlt1⟩
  obtain⟨g1,o1,f1,hp1,E1,In1⟩:=Qbk hl.out hx1
  replace In1:Hid _:=In1;replace hp1:Hid _:=hp1;replace hx1:Hid _:=hx1;replace E1:Hid _:=E1;refine wp_skip ?_;refine hK10 _ _ ?_;refine wp_seq_k fun K11 hK11=>?_;refine wp_block ?_;refine wp_seq_k fun K12 hK12=>?_;refine rg h9 fun ops=>?_;clear h9 a9;refine sm trivial rfl rfl ?_;refine Qd8 hp1.out hlt1 trivial rfl rfl rfl ?_;refine sSE Tryz.underlying40 rfl (QK E1.out hW7.bel) infFunc trivial rfl rfl ?_;refine QfP hW7 trivial rfl ?_;clear hW7;intro w13 B13 hW13 hN;clear hN;refine sa trivial rfl rfl ?_;refine sT 0 hW13 rfl rfl infFunc rfl rfl rfl ?_;clear hW13;intro w14 hW14;refine St.nil fun a15 h15=>?_;refine hK12 _ _ ?_;refine wp_seq_k fun K16 hK16=>?_;refine rg h15 fun ops=>?_;clear h15 a15;refine sm trivial rfl rfl ?_;refine sm trivial rfl rfl ?_;refine sS 0 4 Tryz.underlying40 rfl infFunc hW14 trivial rfl rfl rfl rfl ?_;refine Qj4 cf56 hW14 (hcl.out q x f1 w14 hx1.out (In1.out.below hW14.bel) hW14.bel) trivial rfl rfl rfl rfl ?_;clear hW14;intro w17 hW17;refine Zz hW17 trivial rfl ?_;clear hW17;intro w18 B18 hW18 hN;clear hN;refine sT 0 hW18 rfl rfl infFault rfl rfl rfl ?_;clear hW18;intro w19 hW19;refine St.nil fun a20 h20=>?_;refine hK16 _ _ ?_;refine wp_seq_k fun K21 hK21=>?_;refine rg h20 fun ops=>?_;clear h20 a20;refine Qcx trivial rfl rfl ?_;refine Zw 0 hW19 trivial rfl rfl rfl rfl ?_;refine sne trivial rfl rfl rfl ?_;refine St.nil fun a22 h22=>?_;refine hK21 _ _ ?_;refine Qt (t:=21) h22 rfl (fun hb=>?_) (fun hb=>?_)
  ·have h9:¬ ((G q x).1)=0:=bne_iff_ne.1 hb
   have hne:¬ ((G q x).1)=0:=h9;clear h9;clear hb;refine wp_seq_k fun K23 hK23=>?_;refine rg h22 fun ops=>?_;clear h22 a22;refine sS 0 2 Tryz.underlying30 rfl infFault hW19 trivial rfl rfl rfl rfl ?_;refine sT 2 hW19 rfl rfl infFault rfl rfl rfl ?_;clear hW19;intro w24 hW24;refine St.nil fun a25 h25=>?_;refine hK23 _ _ ?_;refine wp_ret ?_;with_reducible repeat first | refine Qd ?_ | refine Qc ?_
   have R:firstF G 0 l=G q x:=by have h9:=Zk (f:=G) (j:=0) hx1.out (fun k y hk hy=>by rw[Nat.zero_add];exact hall k y hk hy) (by rw[Nat.zero_add];exact hne);rwa [Nat.zero_add] at h9
   exact QN 2 h25 hW24 rfl rfl rfl Tryz.underlying30 rfl infFault ⟨by show Ending.returned (.agg #[.int .i64 ((G q x).1),.int .i64 ((G q x).2)])=_;rw[R],hW24.bel⟩
  have h9:((G q x).1)=0:=bne_eq_false_iff_eq.1 hb;have hne:Hid (((G q x).1)=0):=h9;clear h9;clear hb;refine wp_skip ?_;refine hK11 _ _ ?_;refine rg h22 fun ops=>?_;clear h22 a22;refine sad (by omega) trivial rfl rfl rfl ?_;refine sm trivial rfl rfl ?_;refine St.nil fun a26 h26=>?_;refine hKL _ _ (l.length - (q+1)) (by omega) ⟨q+1,by omega,rfl,?_,(h26.keep (h26.keep (h26.keep (h26.keep (h26.keep (h26.keep h26.nil (t:=10) rfl) (t:=9) rfl) (t:=8) rfl) (t:=4) rfl) (t:=0) rfl) (t:=1) rfl),hW19.tail.tail⟩
  ·intro j y hj hy
   by_cases e:j=q
   ·subst e;rw[hx1.out] at hy;cases hy;exact hne.out
   ·exact hall j y (by omega) hy
 have hge:q=l.length:=by have:=of_decide_eq_false hb;omega
 clear hb;refine wp_exit ?_;refine hK4 _ _ ?_;refine wp_seq_k fun K27 hK27=>?_;refine rg h9 fun ops=>?_;clear h9 a9;intro a28 h28;refine Q2 (t:=24) (v:=.agg #[.int .i64 0,.int .i64 0]) (w':=w7) h28 rfl rfl rfl (fun K hK=>?_) ?_
 ·go_simp
  exact hK
 clear h28;intro a29 hF29;refine St.go hF29 ?_;clear hF29 a29;refine sT 0 hW7 rfl rfl infFault rfl rfl rfl ?_;clear hW7;intro w30 hW30;refine St.nil fun a31 h31=>?_;refine hK27 _ _ ?_;refine wp_ret ?_;with_reducible repeat first | refine Qd ?_ | refine Qc ?_
 have R:firstF G 0 l=(0,0):=Qy (fun k y hy=>by rw[Nat.zero_add];exact hall k y (by have:=(List.getElem?_eq_some_iff.1 hy).1;omega) hy);exact QN 0 h31 hW30 rfl rfl rfl Tryz.underlying30 rfl infFault ⟨by show Ending.returned (.agg #[.int .i64 0,.int .i64 0])=_;rw[R],hW30.bel⟩
theorem QiF {n:Nat}{m:List (Qf n)}{p:Option Addr}{c:Nat}{x:Qf n}{fp:FP}{fi:Nat}{y:Qe n}{bp:BP}{bi:Nat}{Bc:Nat}{w:World}{z:Qx}{zi:IP}{q:Nat}(hq:q<1000000) (hm:m.length≤100000) (hfi:fi<1000000) (hbi:bi<1000000) (hcap0:Blk w Bc #[.slice p m.length c,.int .i64 x.regs,.slice fp.pP x.params.length fp.cP,.slice fp.pR x.results.length fp.cR,.slice fp.pB x.blocks.length fp.cB,.int .i64 (fi:Int),.int .i64 y.regs,.slice bp.pP y.params.length bp.cP,.slice bp.pC y.code.length bp.cC,.int .i64 y.fin.op,.int .i64 y.fin.a,.int .i64 y.fin.yes.block,.slice bp.e.pYR y.fin.yes.regs.length bp.e.cYR,.slice bp.e.pYA y.fin.yes.args.length bp.e.cYA,.int .i64 y.fin.no.block,.slice bp.e.pNR y.fin.no.regs.length bp.e.cNR,.slice bp.e.pNA y.fin.no.args.length bp.e.cNA,.slice bp.e.pA y.fin.args.length bp.e.cA,.int .i64 (bi:Int)] 131) :
 Rd Tryz.prog 135 #[.int .i64 (q:Int),.agg #[.int .i64 z.op,.int .i64 z.a,.int .i64 z.b,.int .i64 z.c,.int .i64 z.k,.int .i64 z.n,.slice zi.pR z.regs.length zi.cR,.slice zi.pA z.args.length zi.cA],.pointer (some ⟨Bc,0,none⟩)] w (QD (atF (z.form m.length) (10000*(fi:Int)+100*(bi:Int)+(q:Int)))):=by
 have hcap:Hid _:=hcap0;clear hcap0;refine Qs (n:=19) Tryz.func135 rfl rfl rfl ?_;intro a hF;have hW:=Wd.start w;replace hF:Fr 19 a [(0,.int .i64 (q:Int)),(1,.agg #[.int .i64 z.op,.int .i64 z.a,.int .i64 z.b,.int .i64 z.c,.int .i64 z.k,.int .i64 z.n,.slice zi.pR z.regs.length zi.cR,.slice zi.pA z.args.length zi.cA]),(2,.pointer (some ⟨Bc,0,none⟩))]:=hF;refine wp_seq_k fun K1 hK1=>?_;refine rg hF fun ops=>?_;clear hF a;refine sB hW trivial rfl rfl ?_;clear hW;intro w2 B2 hW2 hN;clear hN;refine Zz hW2 trivial rfl ?_;clear hW2;intro w3 B3 hW3 hN;clear hN;refine St.nil fun a4 h4=>?_;refine hK1 _ _ ?_;refine wp_seq_k fun K5 hK5=>?_;have hF6:Fr 19 a4 [(2,.pointer (some ⟨Bc,0,none⟩)),(1,.agg #[.int .i64 z.op,.int .i64 z.a,.int .i64 z.b,.int .i64 z.c,.int .i64 z.k,.int .i64 z.n,.slice zi.pR z.regs.length zi.cR,.slice zi.pA z.args.length zi.cA]),(0,.int .i64 (q:Int)),(4,.pointer (some ⟨B2,0,none⟩)),(5,.pointer (some ⟨B3,0,none⟩))]:=(h4.keep (h4.keep (h4.keep (h4.keep (h4.keep h4.nil (t:=5) rfl) (t:=4) rfl) (t:=0) rfl) (t:=1) rfl) (t:=2) rfl);have ho2:a4.tmps.getD 2 undef=.pointer (some ⟨Bc,0,none⟩):=h4.sl 2 _ rfl;have ho4:a4.tmps.getD 4 undef=.pointer (some ⟨B2,0,none⟩):=h4.sl 4 _ rfl;have ho0:a4.tmps.getD 0 undef=.int .i64 (q:Int):=h4.sl 0 _ rfl;refine ZZ 13 ([(2,fun v _=>v=.pointer (some ⟨Bc,0,none⟩)),(4,fun v _=>v=.pointer (some ⟨B2,0,none⟩)),(0,fun v _=>v=.int .i64 (q:Int)),(6,fun v _=>v=.pointer (some ⟨Bc,0,none⟩)),(7,fun v _=>v=.pointer (some ⟨Bc,0,none⟩)),(8,fun v _=>v=.agg #[.slice p m.length c]),(9,fun v _=>v=.agg #[.int .i64 z.op,.int .i64 z.a,.int .i64 z.b,.int .i64 z.c,.int .i64 z.k,.int .i64 z.n,.slice zi.pR z.regs.length zi.cR,.slice zi.pA z.args.length zi.cA]),(10,fun v _=>v=.int .i64 (z.form m.length)),(11,fun v _=>v=.pointer (some ⟨Bc,0,none⟩)),(12,fun v _=>v=.pointer (some ⟨Bc,5,none⟩)),(13,fun v _=>v=.int .i64 (fi:Int)),(14,fun v _=>v=.pointer (some ⟨Bc,18,none⟩)),(15,fun v _=>v=.int .i64 (bi:Int)),(16,fun v _=>v=.int .i64 (q:Int)),(17,fun v _=>v=.int .i64 (10000*(fi:Int)+100*(bi:Int)+(q:Int))),(18,fun v _=>v=.agg #[.int .i64 ((atF (z.form m.length) (10000*(fi:Int)+100*(bi:Int)+(q:Int))).1),.int .i64 ((atF (z.form m.length) (10000*(fi:Int)+100*(bi:Int)+(q:Int))).2)])]:QaH) (fun w'=>Wd w w' [(B3,#[.int .i64 0,.int .i64 0],30),(B2,#[.int .i64 z.op,.int .i64 z.a,.int .i64 z.b,.int .i64 z.c,.int .i64 z.k,.int .i64 z.n,.slice zi.pR z.regs.length zi.cR,.slice zi.pA z.args.length zi.cA],46)]∧Below w3.heap.size w3 w') (fun w w'=>Below w.heap.size w w') (outs:=[2,4,0]) (gs:=[]) (bs:=[true,true,true,true,true,true,true,true,true,true,true,true,true]) (by kernel_rfl) hF6 rfl (by kernel_rfl) (by kernel_rfl) ?hR ?hG ⟨hW3.drewN 1,Q1 (m:=1) (Below.refl _ _)⟩ ⟨ho2,ho4,ho0,trivial⟩ ?hA ?hend
 case hR=>exact⟨fun _ _ _ _ h=>h,fun _ _ _ _ h=>h,fun _ _ _ _ h=>h,fun _ _ _ _ h=>h,fun _ _ _ _ h=>h,fun _ _ _ _ h=>h,fun _ _ _ _ h=>h,fun _ _ _ _ h=>h,fun _ _ _ _ h=>h,fun _ _ _ _ h=>h,fun _ _ _ _ h=>h,fun _ _ _ _ h=>h,fun _ _ _ _ h=>h,fun _ _ _ _ h=>h,fun _ _ _ _ h=>h,fun _ _ _ _ h=>h,trivial⟩
 case hG=>exact trivial
 case hA =>
  refine⟨fun a w hW hk K hK=>?_,?_⟩
  ·obtain⟨k0,-⟩:=hk
   have k0:a.tmps.getD 2 undef=.pointer (some ⟨Bc,0,none⟩):=k0;go_simp;exact hK _ _ (Below.refl _ _) hW rfl
  refine⟨fun a w hW hk K hK=>?_,?_⟩
  ·obtain⟨k0,-⟩:=hk
   have k0:a.tmps.getD 6 undef=.pointer (some ⟨Bc,0,none⟩):=k0;go_simp;exact hK _ _ (Below.refl _ _) hW rfl
  refine⟨fun a w hW hk K hK=>?_,?_⟩
  ·obtain⟨k0,-⟩:=hk
   have k0:a.tmps.getD 7 undef=.pointer (some ⟨Bc,0,none⟩):=k0;have d0:w.cell? ⟨Bc,0,none⟩=some (.slice p m.length c):=Zp hW.1.bel (Qb hcap.out 0 _ rfl);go_simp;exact hK _ _ (Below.refl _ _) hW rfl
  refine⟨fun a w hW hk K hK=>?_,?_⟩
  ·obtain⟨k0,-⟩:=hk
   have k0:a.tmps.getD 4 undef=.pointer (some ⟨B2,0,none⟩):=k0;have c0:w.cell? ⟨B2,0,none⟩=some (.int .i64 z.op):=Qb (hW.1.get 1 rfl) 0 _ rfl;have c1:w.cell? ⟨B2,1,none⟩=some (.int .i64 z.a):=Qb (hW.1.get 1 rfl) 1 _ rfl;have c2:w.cell? ⟨B2,2,none⟩=some (.int .i64 z.b):=Qb (hW.1.get 1 rfl) 2 _ rfl;have c3:w.cell? ⟨B2,3,none⟩=some (.int .i64 z.c):=Qb (hW.1.get 1 rfl) 3 _ rfl;have c4:w.cell? ⟨B2,4,none⟩=some (.int .i64 z.k):=Qb (hW.1.get 1 rfl) 4 _ rfl;have c5:w.cell? ⟨B2,5,none⟩=some (.int .i64 z.n):=Qb (hW.1.get 1 rfl) 5 _ rfl;have c6:w.cell? ⟨B2,6,none⟩=some (.slice zi.pR z.regs.length zi.cR):=Qb (hW.1.get 1 rfl) 6 _ rfl;have c7:w.cell? ⟨B2,7,none⟩=some (.slice zi.pA z.args.length zi.cA):=Qb (hW.1.get 1 rfl) 7 _ rfl;go_simp;exact hK _ _ (Below.refl _ _) hW rfl
  refine⟨fun a w hW hk K hK=>?_,?_⟩
  ·obtain⟨k0,k1,-⟩:=hk
   have k0:a.tmps.getD 8 undef=.agg #[.slice p m.length c]:=k0;have k1:a.tmps.getD 9 undef=.agg #[.int .i64 z.op,.int .i64 z.a,.int .i64 z.b,.int .i64 z.c,.int .i64 z.k,.int .i64 z.n,.slice zi.pR z.regs.length zi.cR,.slice zi.pA z.args.length zi.cA]:=k1;have hC:Rd Tryz.prog 32 #[.agg #[.slice p m.length c],.agg #[.int .i64 z.op,.int .i64 z.a,.int .i64 z.b,.int .i64 z.c,.int .i64 z.k,.int .i64 z.n,.slice zi.pR z.regs.length zi.cR,.slice zi.pA z.args.length zi.cA]] w (.int .i64 (z.form m.length)):=Qgd m.length z zi p c w (by omega);go_simp;refine hC.mono ?_;rintro e w9 ⟨rfl,hb⟩;exact hK _ _ hb ⟨hW.1.below hb,Below.andThen hW.2 hb⟩ rfl
  refine⟨fun a w hW hk K hK=>?_,?_⟩
  ·obtain⟨k0,-⟩:=hk
   have k0:a.tmps.getD 2 undef=.pointer (some ⟨Bc,0,none⟩):=k0;go_simp;exact hK _ _ (Below.refl _ _) hW rfl
  refine⟨fun a w hW hk K hK=>?_,?_⟩
  ·obtain⟨k0,-⟩:=hk
   have k0:a.tmps.getD 11 undef=.pointer (some ⟨Bc,0,none⟩):=k0;go_simp;exact hK _ _ (Below.refl _ _) hW rfl
  refine⟨fun a w hW hk K hK=>?_,?_⟩
  ·obtain⟨k0,-⟩:=hk
   have k0:a.tmps.getD 12 undef=.pointer (some ⟨Bc,5,none⟩):=k0;have d5:w.cell? ⟨Bc,5,none⟩=some (.int .i64 (fi:Int)):=Zp hW.1.bel (Qb hcap.out 5 _ rfl);go_simp;exact hK _ _ (Below.refl _ _) hW rfl
  refine⟨fun a w hW hk K hK=>?_,?_⟩
  ·obtain⟨k0,-⟩:=hk
   have k0:a.tmps.getD 2 undef=.pointer (some ⟨Bc,0,none⟩):=k0;go_simp;exact hK _ _ (Below.refl _ _) hW rfl
  refine⟨fun a w hW hk K hK=>?_,?_⟩
  ·obtain⟨k0,-⟩:=hk
   have k0:a.tmps.getD 14 undef=.pointer (some ⟨Bc,18,none⟩):=k0;have d18:w.cell? ⟨Bc,18,none⟩=some (.int .i64 (bi:Int)):=Zp hW.1.bel (Qb hcap.out 18 _ rfl);go_simp;exact hK _ _ (Below.refl _ _) hW rfl
  refine⟨fun a w hW hk K hK=>?_,?_⟩
  ·obtain⟨k0,-⟩:=hk
   have k0:a.tmps.getD 0 undef=.int .i64 (q:Int):=k0;go_simp;exact hK _ _ (Below.refl _ _) hW rfl
  refine⟨fun a w hW hk K hK=>?_,?_⟩
  ·obtain⟨k0,k1,k2,-⟩:=hk
   have k0:a.tmps.getD 13 undef=.int .i64 (fi:Int):=k0;have k1:a.tmps.getD 15 undef=.int .i64 (bi:Int):=k1;have k2:a.tmps.getD 16 undef=.int .i64 (q:Int):=k2;have hC:Rd Tryz.prog 77 #[.int .i64 (fi:Int),.int .i64 (bi:Int),.int .i64 (q:Int)] w (.int .i64 (10000*(fi:Int)+100*(bi:Int)+(q:Int))):=Qdw (f:=fi) (b:=bi) (i:=q) ⟨by omega,by omega,by omega⟩;go_simp;refine hC.mono ?_;rintro e w9 ⟨rfl,hb⟩;exact hK _ _ hb ⟨hW.1.below hb,Below.andThen hW.2 hb⟩ rfl
  refine⟨fun a w hW hk K hK=>?_,?_⟩
  ·obtain⟨k0,k1,-⟩:=hk
   have k0:a.tmps.getD 10 undef=.int .i64 (z.form m.length):=k0;have k1:a.tmps.getD 17 undef=.int .i64 (10000*(fi:Int)+100*(bi:Int)+(q:Int)):=k1;have hC:Rd Tryz.prog 96 #[.int .i64 (z.form m.length),.int .i64 (10000*(fi:Int)+100*(bi:Int)+(q:Int))] w (.agg #[.int .i64 ((atF (z.form m.length) (10000*(fi:Int)+100*(bi:Int)+(q:Int))).1),.int .i64 ((atF (z.form m.length) (10000*(fi:Int)+100*(bi:Int)+(q:Int))).2)]):=QaE (xc:=z.form m.length) (xp:=10000*(fi:Int)+100*(bi:Int)+(q:Int));go_simp;refine hC.mono ?_;rintro e w9 ⟨rfl,hb⟩;exact hK _ _ hb ⟨hW.1.below hb,Below.andThen hW.2 hb⟩ rfl
  trivial
 case hend =>
  intro ops a7 w7 hWD hE hFD;have hd18:a7.tmps.getD 18 undef=.agg #[.int .i64 ((atF (z.form m.length) (10000*(fi:Int)+100*(bi:Int)+(q:Int))).1),.int .i64 ((atF (z.form m.length) (10000*(fi:Int)+100*(bi:Int)+(q:Int))).2)]:=hE 18 rfl;have hF7:Fr 19 a7 [(18,.agg #[.int .i64 ((atF (z.form m.length) (10000*(fi:Int)+100*(bi:Int)+(q:Int))).1),.int .i64 ((atF (z.form m.length) (10000*(fi:Int)+100*(bi:Int)+(q:Int))).2)]),(2,.pointer (some ⟨Bc,0,none⟩)),(1,.agg #[.int .i64 z.op,.int .i64 z.a,.int .i64 z.b,.int .i64 z.c,.int .i64 z.k,.int .i64 z.n,.slice zi.pR z.regs.length zi.cR,.slice zi.pA z.args.length zi.cA]),(0,.int .i64 (q:Int)),(4,.pointer (some ⟨B2,0,none⟩)),(5,.pointer (some ⟨B3,0,none⟩))]:=(hFD.cons hd18);clear hd18;have hW7:Wd w w7 [(B3,#[.int .i64 0,.int .i64 0],30),(B2,#[.int .i64 z.op,.int .i64 z.a,.int .i64 z.b,.int .i64 z.c,.int .i64 z.k,.int .i64 z.n,.slice zi.pR z.regs.length zi.cR,.slice zi.pA z.args.length zi.cA],46)]:=hWD.1;clear hFD hWD hE hF6 h4;clear hW3;refine St.go hF7 ?_;clear hF7 a7;refine sT 0 hW7 rfl rfl infFault rfl rfl rfl ?_;clear hW7;intro w8 hW8;refine St.nil fun a9 h9=>?_;refine hK5 _ _ ?_;refine wp_ret ?_;with_reducible repeat first | refine Qd ?_ | refine Qc ?_
  exact QN 0 h9 hW8 rfl rfl rfl Tryz.underlying30 rfl infFault ⟨rfl,hW8.bel⟩
theorem QcZ {n:Nat}{m:List (Qf n)}{p:Option Addr}{c:Nat}{x:Qf n}{fp:FP}{fi:Nat}{y:Qe n}{bp:BP}{bi:Nat}{w:World}(hx0:FIn w All x fp) (hs0:x.small) (hy0:BIn w All y bp) (ht0:y.small) (hm:m.length≤100000) (hfi:fi<1000000) (hbi:bi<1000000) :
 Rd Tryz.prog 100 #[.agg #[.slice p m.length c,.int .i64 x.regs,.slice fp.pP x.params.length fp.cP,.slice fp.pR x.results.length fp.cR,.slice fp.pB x.blocks.length fp.cB,.int .i64 (fi:Int),.int .i64 y.regs,.slice bp.pP y.params.length bp.cP,.slice bp.pC y.code.length bp.cC,.int .i64 y.fin.op,.int .i64 y.fin.a,.int .i64 y.fin.yes.block,.slice bp.e.pYR y.fin.yes.regs.length bp.e.cYR,.slice bp.e.pYA y.fin.yes.args.length bp.e.cYA,.int .i64 y.fin.no.block,.slice bp.e.pNR y.fin.no.regs.length bp.e.cNR,.slice bp.e.pNA y.fin.no.args.length bp.e.cNA,.slice bp.e.pA y.fin.args.length bp.e.cA,.int .i64 (bi:Int)]] w (QD (Qe.fault m.length fi x bi y)):=by
 have hx:Hid _:=hx0;have hs:Hid _:=hs0;have hy:Hid _:=hy0;have ht:Hid _:=ht0;clear hx0 hs0 hy0 ht0;refine Qs (n:=40) Tryz.func100 rfl rfl rfl ?_;intro a hF;have hW:=Wd.start w;replace hF:Fr 40 a [(0,.agg #[.slice p m.length c,.int .i64 x.regs,.slice fp.pP x.params.length fp.cP,.slice fp.pR x.results.length fp.cR,.slice fp.pB x.blocks.length fp.cB,.int .i64 (fi:Int),.int .i64 y.regs,.slice bp.pP y.params.length bp.cP,.slice bp.pC y.code.length bp.cC,.int .i64 y.fin.op,.int .i64 y.fin.a,.int .i64 y.fin.yes.block,.slice bp.e.pYR y.fin.yes.regs.length bp.e.cYR,.slice bp.e.pYA y.fin.yes.args.length bp.e.cYA,.int .i64 y.fin.no.block,.slice bp.e.pNR y.fin.no.regs.length bp.e.cNR,.slice bp.e.pNA y.fin.no.args.length bp.e.cNA,.slice bp.e.pA y.fin.args.length bp.e.cA,.int .i64 (bi:Int)])]:=hF;refine wp_seq_k fun K1 hK1=>?_;refine rg hF fun ops=>?_;clear hF a;refine sB hW trivial rfl rfl ?_;clear hW;intro w2 B2 hW2 hN;clear hN;refine Zz hW2 trivial rfl ?_;clear hW2;intro w3 B3 hW3 hN;clear hN;refine St.nil fun a4 h4=>?_;refine hK1 _ _ ?_;refine wp_seq_k fun K5 hK5=>?_;refine wp_seq_k fun K6 hK6=>?_;refine rg h4 fun ops=>?_;clear h4 a4;refine sS 1 19 Tryz.underlying131 rfl infblockLook hW3 trivial rfl rfl rfl rfl ?_;refine QjI cf132 hW3 (Qec (m:=m) (p:=p) (c:=c) (fi:=fi) (bi:=bi) (hx.out.below hW3.bel) hs.out (hy.out.below hW3.bel) ht.out) trivial rfl rfl ?_;clear hW3;intro w7 hW7;refine sa trivial rfl rfl ?_;refine St.nil fun a8 h8=>?_;refine hK6 _ _ ?_;refine wp_seq_k fun K9 hK9=>?_;refine rg h8 fun ops=>?_;clear h8 a8;refine sm trivial rfl rfl ?_;refine sne trivial rfl rfl rfl ?_;refine St.nil fun a10 h10=>?_;refine hK9 _ _ ?_;refine Qt (t:=8) h10 rfl (fun hb=>?_) (fun hb=>?_)
 ·have h9:¬ (y.code' x bi)=0:=bne_iff_ne.1 hb
  have hc11:¬ (y.code' x bi)=0:=h9;clear h9;clear hb;refine wp_seq_k fun K12 hK12=>?_;refine rg h10 fun ops=>?_;clear h10 a10;refine sm trivial rfl rfl ?_;refine Z2 trivial rfl rfl ?_;refine QcX trivial rfl rfl ?_;refine Zw 1 hW7 trivial rfl rfl rfl rfl ?_;refine Qcj trivial rfl rfl ?_;refine Zw 1 hW7 trivial rfl rfl rfl rfl ?_;refine QhQ cf133 hW7 (QeB (f:=fi) (b:=bi) ⟨by omega,by omega⟩) trivial rfl rfl rfl ?_;clear hW7;intro w13 hW13;refine QhQ cf96 hW13 (QaE (xc:=y.code' x bi) (xp:=10000*(fi:Int)+100*(bi:Int)+90)) trivial rfl rfl rfl ?_;clear hW13;intro w14 hW14;refine sT 0 hW14 rfl rfl infFault rfl rfl rfl ?_;clear hW14;intro w15 hW15;refine St.nil fun a16 h16=>?_;refine hK12 _ _ ?_;refine wp_ret ?_;with_reducible repeat first | refine Qd ?_ | refine Qc ?_
  have e0:=hc11;have EF:=Qe.fault_eq m.length fi x bi y;have EI:=Qbw (f:=fun i z=>(Qx.form m.length z,(10000*(fi:Int)+100*(bi:Int)+(i:Int)))) (l:=y.code) (j:=0);dsimp only at EI
  rw[if_neg e0] at EF
  exact QN 0 h16 hW15 rfl rfl rfl Tryz.underlying30 rfl infFault ⟨by show Ending.returned (.agg #[.int .i64 ((atF (y.code' x bi) (10000*(fi:Int)+100*(bi:Int)+90)).1),.int .i64 ((atF (y.code' x bi) (10000*(fi:Int)+100*(bi:Int)+90)).2)])=_;rw[EF] ;simp[atF,e0],hW15.bel⟩
 have h9:(y.code' x bi)=0:=bne_eq_false_iff_eq.1 hb;have hc17:Hid ((y.code' x bi)=0):=h9;clear h9;clear hb;refine wp_skip ?_;refine hK5 _ _ ?_;refine wp_seq_k fun K18 hK18=>?_;refine rg h10 fun ops=>?_;clear h10 a10;refine Q5 trivial rfl rfl ?_;refine ZQ trivial rfl rfl ?_;refine QfT 1 hW7 trivial rfl rfl rfl rfl ?_;intro a19 h19;refine Q2 (t:=20) (v:=.func (.func 135) #[] #[.pointer (some ⟨B2,0,none⟩)]) (w':=w7) h19 rfl rfl rfl (fun K hK=>?_) ?_
 ·have k0:a19.tmps.getD 1 undef=.pointer (some ⟨B2,0,none⟩):=h19.sl 1 _ rfl
  go_simp;exact hK
 clear h19;intro a20 hF20;refine St.go hF20 ?_;clear hF20 a20;refine QhQ cf134 hW7 (Qhz (Bc:=B2) (fun i z=>atF (Qx.form m.length z) (10000*(fi:Int)+100*(bi:Int)+(i:Int))) (Lay.below hy.out.code hW7.bel) ht.out.1 (fun i z zi wx hz hi hb=>QiF (y:=y) (by have h9:=(List.getElem?_eq_some_iff.1 hz).1;have:=ht.out.1;omega) hm hfi hbi ((hW7.get 1 rfl).below hb))) trivial rfl rfl rfl ?_;clear hW7;intro w21 hW21;refine Zz hW21 trivial rfl ?_;clear hW21;intro w22 B22 hW22 hN;clear hN;refine sT 0 hW22 rfl rfl infFault rfl rfl rfl ?_;clear hW22;intro w23 hW23;refine St.nil fun a24 h24=>?_;refine hK18 _ _ ?_;refine wp_seq_k fun K25 hK25=>?_;refine wp_seq_k fun K26 hK26=>?_;refine rg h24 fun ops=>?_;clear h24 a24;refine Qcx trivial rfl rfl ?_;refine Zw 0 hW23 trivial rfl rfl rfl rfl ?_;refine sne trivial rfl rfl rfl ?_;refine St.nil fun a27 h27=>?_;refine hK26 _ _ ?_;refine Qt (t:=24) h27 rfl (fun hb=>?_) (fun hb=>?_)
 ·have h9:¬ ((firstF (fun i z=>atF (Qx.form m.length z) (10000*(fi:Int)+100*(bi:Int)+(i:Int))) 0 y.code).1)=0:=bne_iff_ne.1 hb
  have hc28:¬ ((firstF (fun i z=>atF (Qx.form m.length z) (10000*(fi:Int)+100*(bi:Int)+(i:Int))) 0 y.code).1)=0:=h9;clear h9;clear hb;refine wp_seq_k fun K29 hK29=>?_;refine rg h27 fun ops=>?_;clear h27 a27;refine sS 0 2 Tryz.underlying30 rfl infFault hW23 trivial rfl rfl rfl rfl ?_;refine sT 1 hW23 rfl rfl infFault rfl rfl rfl ?_;clear hW23;intro w30 hW30;refine St.nil fun a31 h31=>?_;refine hK29 _ _ ?_;refine wp_ret ?_;with_reducible repeat first | refine Qd ?_ | refine Qc ?_
  have e0:=hc17.out;have e1:=hc28;have EF:=Qe.fault_eq m.length fi x bi y;have EI:=Qbw (f:=fun i z=>(Qx.form m.length z,(10000*(fi:Int)+100*(bi:Int)+(i:Int)))) (l:=y.code) (j:=0);dsimp only at EI
  rw[if_pos e0,if_neg (by rw[← EI];exact e1),← EI] at EF
  exact QN 1 h31 hW30 rfl rfl rfl Tryz.underlying30 rfl infFault ⟨by show Ending.returned (.agg #[.int .i64 ((firstF (fun i z=>atF (Qx.form m.length z) (10000*(fi:Int)+100*(bi:Int)+(i:Int))) 0 y.code).1),.int .i64 ((firstF (fun i z=>atF (Qx.form m.length z) (10000*(fi:Int)+100*(bi:Int)+(i:Int))) 0 y.code).2)])=_;rw[EF],hW30.bel⟩
 have h9:((firstF (fun i z=>atF (Qx.form m.length z) (10000*(fi:Int)+100*(bi:Int)+(i:Int))) 0 y.code).1)=0:=bne_eq_false_iff_eq.1 hb;have hc32:Hid (((firstF (fun i z=>atF (Qx.form m.length z) (10000*(fi:Int)+100*(bi:Int)+(i:Int))) 0 y.code).1)=0):=h9;clear h9;clear hb;refine wp_skip ?_;refine hK25 _ _ ?_;refine wp_seq_k fun K33 hK33=>?_;have hF34:Fr 40 a27 [(0,.agg #[.slice p m.length c,.int .i64 x.regs,.slice fp.pP x.params.length fp.cP,.slice fp.pR x.results.length fp.cR,.slice fp.pB x.blocks.length fp.cB,.int .i64 (fi:Int),.int .i64 y.regs,.slice bp.pP y.params.length bp.cP,.slice bp.pC y.code.length bp.cC,.int .i64 y.fin.op,.int .i64 y.fin.a,.int .i64 y.fin.yes.block,.slice bp.e.pYR y.fin.yes.regs.length bp.e.cYR,.slice bp.e.pYA y.fin.yes.args.length bp.e.cYA,.int .i64 y.fin.no.block,.slice bp.e.pNR y.fin.no.regs.length bp.e.cNR,.slice bp.e.pNA y.fin.no.args.length bp.e.cNA,.slice bp.e.pA y.fin.args.length bp.e.cA,.int .i64 (bi:Int)]),(1,.pointer (some ⟨B2,0,none⟩)),(2,.pointer (some ⟨B3,0,none⟩)),(3,.int .i64 (y.code' x bi)),(4,.pointer (some ⟨B22,0,none⟩))]:=(h27.keep (h27.keep (h27.keep (h27.keep (h27.keep h27.nil (t:=4) rfl) (t:=3) rfl) (t:=2) rfl) (t:=1) rfl) (t:=0) rfl);have ho1:a27.tmps.getD 1 undef=.pointer (some ⟨B2,0,none⟩):=h27.sl 1 _ rfl;refine ZZ 14 ([(1,fun v _=>v=.pointer (some ⟨B2,0,none⟩)),(26,fun v _=>v=.pointer (some ⟨B2,0,none⟩)),(27,fun v _=>v=.pointer (some ⟨B2,1,none⟩)),(28,fun v _=>v=.agg #[.int .i64 x.regs,.slice fp.pP x.params.length fp.cP,.slice fp.pR x.results.length fp.cR,.slice fp.pB x.blocks.length fp.cB]),(29,fun v _=>v=.pointer (some ⟨B2,6,none⟩)),(30,fun v _=>v=.pointer (some ⟨B2,9,none⟩)),(31,fun v _=>v=.agg #[.int .i64 y.fin.op,.int .i64 y.fin.a,.int .i64 y.fin.yes.block,.slice bp.e.pYR y.fin.yes.regs.length bp.e.cYR,.slice bp.e.pYA y.fin.yes.args.length bp.e.cYA,.int .i64 y.fin.no.block,.slice bp.e.pNR y.fin.no.regs.length bp.e.cNR,.slice bp.e.pNA y.fin.no.args.length bp.e.cNA,.slice bp.e.pA y.fin.args.length bp.e.cA]),(32,fun v _=>v=.int .i64 (y.fin.form x.blocks.length)),(33,fun v _=>v=.pointer (some ⟨B2,0,none⟩)),(34,fun v _=>v=.pointer (some ⟨B2,5,none⟩)),(35,fun v _=>v=.int .i64 (fi:Int)),(36,fun v _=>v=.pointer (some ⟨B2,18,none⟩)),(37,fun v _=>v=.int .i64 (bi:Int)),(38,fun v _=>v=.int .i64 (10000*(fi:Int)+100*(bi:Int)+91)),(39,fun v _=>v=.agg #[.int .i64 ((atF (y.fin.form x.blocks.length) (10000*(fi:Int)+100*(bi:Int)+91)).1),.int .i64 ((atF (y.fin.form x.blocks.length) (10000*(fi:Int)+100*(bi:Int)+91)).2)])]:QaH) (fun w'=>Wd w w' [(B22,#[.int .i64 ((firstF (fun i z=>atF (Qx.form m.length z) (10000*(fi:Int)+100*(bi:Int)+(i:Int))) 0 y.code).1),.int .i64 ((firstF (fun i z=>atF (Qx.form m.length z) (10000*(fi:Int)+100*(bi:Int)+(i:Int))) 0 y.code).2)],30),(B3,#[.int .i64 0,.int .i64 0],30),(B2,#[.slice p m.length c,.int .i64 x.regs,.slice fp.pP x.params.length fp.cP,.slice fp.pR x.results.length fp.cR,.slice fp.pB x.blocks.length fp.cB,.int .i64 (fi:Int),.int .i64 y.regs,.slice bp.pP y.params.length bp.cP,.slice bp.pC y.code.length bp.cC,.int .i64 y.fin.op,.int .i64 y.fin.a,.int .i64 y.fin.yes.block,.slice bp.e.pYR y.fin.yes.regs.length bp.e.cYR,.slice bp.e.pYA y.fin.yes.args.length bp.e.cYA,.int .i64 y.fin.no.block,.slice bp.e.pNR y.fin.no.regs.length bp.e.cNR,.slice bp.e.pNA y.fin.no.args.length bp.e.cNA,.slice bp.e.pA y.fin.args.length bp.e.cA,.int .i64 (bi:Int)],131)]∧Below w23.heap.size w23 w') (fun w w'=>Below w.heap.size w w') (outs:=[1]) (gs:=[]) (bs:=[true,true,true,true,true,true,true,true,true,true,true,true,true,true]) (by kernel_rfl) hF34 rfl (by kernel_rfl) (by kernel_rfl) ?hR ?hG ⟨hW23.drewN 1,Q1 (m:=1) (Below.refl _ _)⟩ ⟨ho1,trivial⟩ ?hA ?hend
 case hR=>exact⟨fun _ _ _ _ h=>h,fun _ _ _ _ h=>h,fun _ _ _ _ h=>h,fun _ _ _ _ h=>h,fun _ _ _ _ h=>h,fun _ _ _ _ h=>h,fun _ _ _ _ h=>h,fun _ _ _ _ h=>h,fun _ _ _ _ h=>h,fun _ _ _ _ h=>h,fun _ _ _ _ h=>h,fun _ _ _ _ h=>h,fun _ _ _ _ h=>h,fun _ _ _ _ h=>h,fun _ _ _ _ h=>h,trivial⟩
 case hG=>exact trivial
 case hA =>
  refine⟨fun a w hW hk K hK=>?_,?_⟩
  ·obtain⟨k0,-⟩:=hk
   have k0:a.tmps.getD 1 undef=.pointer (some ⟨B2,0,none⟩):=k0;go_simp;exact hK _ _ (Below.refl _ _) hW rfl
  refine⟨fun a w hW hk K hK=>?_,?_⟩
  ·obtain⟨k0,-⟩:=hk
   have k0:a.tmps.getD 26 undef=.pointer (some ⟨B2,0,none⟩):=k0;go_simp;exact hK _ _ (Below.refl _ _) hW rfl
  refine⟨fun a w hW hk K hK=>?_,?_⟩
  ·obtain⟨k0,-⟩:=hk
   have k0:a.tmps.getD 27 undef=.pointer (some ⟨B2,1,none⟩):=k0;have c1:w.cell? ⟨B2,1,none⟩=some (.int .i64 x.regs):=Qb (hW.1.get 2 rfl) 1 _ rfl;have c2:w.cell? ⟨B2,2,none⟩=some (.slice fp.pP x.params.length fp.cP):=Qb (hW.1.get 2 rfl) 2 _ rfl;have c3:w.cell? ⟨B2,3,none⟩=some (.slice fp.pR x.results.length fp.cR):=Qb (hW.1.get 2 rfl) 3 _ rfl;have c4:w.cell? ⟨B2,4,none⟩=some (.slice fp.pB x.blocks.length fp.cB):=Qb (hW.1.get 2 rfl) 4 _ rfl;go_simp;exact hK _ _ (Below.refl _ _) hW rfl
  refine⟨fun a w hW hk K hK=>?_,?_⟩
  ·obtain⟨k0,-⟩:=hk
   have k0:a.tmps.getD 1 undef=.pointer (some ⟨B2,0,none⟩):=k0;go_simp;exact hK _ _ (Below.refl _ _) hW rfl
  refine⟨fun a w hW hk K hK=>?_,?_⟩
  ·obtain⟨k0,-⟩:=hk
   have k0:a.tmps.getD 29 undef=.pointer (some ⟨B2,6,none⟩):=k0;go_simp;exact hK _ _ (Below.refl _ _) hW rfl
  refine⟨fun a w hW hk K hK=>?_,?_⟩
  ·obtain⟨k0,-⟩:=hk
   have k0:a.tmps.getD 30 undef=.pointer (some ⟨B2,9,none⟩):=k0;have c9:w.cell? ⟨B2,9,none⟩=some (.int .i64 y.fin.op):=Qb (hW.1.get 2 rfl) 9 _ rfl;have c10:w.cell? ⟨B2,10,none⟩=some (.int .i64 y.fin.a):=Qb (hW.1.get 2 rfl) 10 _ rfl;have c11:w.cell? ⟨B2,11,none⟩=some (.int .i64 y.fin.yes.block):=Qb (hW.1.get 2 rfl) 11 _ rfl;have c12:w.cell? ⟨B2,12,none⟩=some (.slice bp.e.pYR y.fin.yes.regs.length bp.e.cYR):=Qb (hW.1.get 2 rfl) 12 _ rfl;have c13:w.cell? ⟨B2,13,none⟩=some (.slice bp.e.pYA y.fin.yes.args.length bp.e.cYA):=Qb (hW.1.get 2 rfl) 13 _ rfl;have c14:w.cell? ⟨B2,14,none⟩=some (.int .i64 y.fin.no.block):=Qb (hW.1.get 2 rfl) 14 _ rfl;have c15:w.cell? ⟨B2,15,none⟩=some (.slice bp.e.pNR y.fin.no.regs.length bp.e.cNR):=Qb (hW.1.get 2 rfl) 15 _ rfl;have c16:w.cell? ⟨B2,16,none⟩=some (.slice bp.e.pNA y.fin.no.args.length bp.e.cNA):=Qb (hW.1.get 2 rfl) 16 _ rfl;have c17:w.cell? ⟨B2,17,none⟩=some (.slice bp.e.pA y.fin.args.length bp.e.cA):=Qb (hW.1.get 2 rfl) 17 _ rfl;go_simp;exact hK _ _ (Below.refl _ _) hW rfl
  refine⟨fun a w hW hk K hK=>?_,?_⟩
  ·obtain⟨k0,k1,-⟩:=hk
   have k0:a.tmps.getD 28 undef=.agg #[.int .i64 x.regs,.slice fp.pP x.params.length fp.cP,.slice fp.pR x.results.length fp.cR,.slice fp.pB x.blocks.length fp.cB]:=k0;have k1:a.tmps.getD 31 undef=.agg #[.int .i64 y.fin.op,.int .i64 y.fin.a,.int .i64 y.fin.yes.block,.slice bp.e.pYR y.fin.yes.regs.length bp.e.cYR,.slice bp.e.pYA y.fin.yes.args.length bp.e.cYA,.int .i64 y.fin.no.block,.slice bp.e.pNR y.fin.no.regs.length bp.e.cNR,.slice bp.e.pNA y.fin.no.args.length bp.e.cNA,.slice bp.e.pA y.fin.args.length bp.e.cA]:=k1;have hC:Rd Tryz.prog 51 #[.agg #[.int .i64 x.regs,.slice fp.pP x.params.length fp.cP,.slice fp.pR x.results.length fp.cR,.slice fp.pB x.blocks.length fp.cB],.agg #[.int .i64 y.fin.op,.int .i64 y.fin.a,.int .i64 y.fin.yes.block,.slice bp.e.pYR y.fin.yes.regs.length bp.e.cYR,.slice bp.e.pYA y.fin.yes.args.length bp.e.cYA,.int .i64 y.fin.no.block,.slice bp.e.pNR y.fin.no.regs.length bp.e.cNR,.slice bp.e.pNA y.fin.no.args.length bp.e.cNA,.slice bp.e.pA y.fin.args.length bp.e.cA]] w (.int .i64 (y.fin.form x.blocks.length)):=Qga (x:=y.fin) (e:=bp.e) (fr:=x.regs) (fp:=fp.pP) (fl:=x.params.length) (fc:=fp.cP) (fq:=fp.pR) (fm:=x.results.length) (fd:=fp.cR) (fb:=fp.pB) (bl:=x.blocks.length) (fe:=fp.cB) (by have:=ht.out.2.2.1;exact⟨by have:=this.1.1;omega,by have:=this.1.2;omega,by have:=this.2.1.1;omega,by have:=this.2.1.2;omega⟩) (by have:=hs.out.1;omega);go_simp;refine hC.mono ?_;rintro e w9 ⟨rfl,hb⟩;exact hK _ _ hb ⟨hW.1.below hb,Below.andThen hW.2 hb⟩ rfl
  refine⟨fun a w hW hk K hK=>?_,?_⟩
  ·obtain⟨k0,-⟩:=hk
   have k0:a.tmps.getD 1 undef=.pointer (some ⟨B2,0,none⟩):=k0;go_simp;exact hK _ _ (Below.refl _ _) hW rfl
  refine⟨fun a w hW hk K hK=>?_,?_⟩
  ·obtain⟨k0,-⟩:=hk
   have k0:a.tmps.getD 33 undef=.pointer (some ⟨B2,0,none⟩):=k0;go_simp;exact hK _ _ (Below.refl _ _) hW rfl
  refine⟨fun a w hW hk K hK=>?_,?_⟩
  ·obtain⟨k0,-⟩:=hk
   have k0:a.tmps.getD 34 undef=.pointer (some ⟨B2,5,none⟩):=k0;have c5:w.cell? ⟨B2,5,none⟩=some (.int .i64 (fi:Int)):=Qb (hW.1.get 2 rfl) 5 _ rfl;go_simp;exact hK _ _ (Below.refl _ _) hW rfl
  refine⟨fun a w hW hk K hK=>?_,?_⟩
  ·obtain⟨k0,-⟩:=hk
   have k0:a.tmps.getD 1 undef=.pointer (some ⟨B2,0,none⟩):=k0;go_simp;exact hK _ _ (Below.refl _ _) hW rfl
  refine⟨fun a w hW hk K hK=>?_,?_⟩
  ·obtain⟨k0,-⟩:=hk
   have k0:a.tmps.getD 36 undef=.pointer (some ⟨B2,18,none⟩):=k0;have c18:w.cell? ⟨B2,18,none⟩=some (.int .i64 (bi:Int)):=Qb (hW.1.get 2 rfl) 18 _ rfl;go_simp;exact hK _ _ (Below.refl _ _) hW rfl
  refine⟨fun a w hW hk K hK=>?_,?_⟩
  ·obtain⟨k0,k1,-⟩:=hk
   have k0:a.tmps.getD 35 undef=.int .i64 (fi:Int):=k0;have k1:a.tmps.getD 37 undef=.int .i64 (bi:Int):=k1;have hC:Rd Tryz.prog 78 #[.int .i64 (fi:Int),.int .i64 (bi:Int)] w (.int .i64 (10000*(fi:Int)+100*(bi:Int)+91)):=Qdz (f:=fi) (b:=bi) ⟨by omega,by omega⟩;go_simp;refine hC.mono ?_;rintro e w9 ⟨rfl,hb⟩;exact hK _ _ hb ⟨hW.1.below hb,Below.andThen hW.2 hb⟩ rfl
  refine⟨fun a w hW hk K hK=>?_,?_⟩
  ·obtain⟨k0,k1,-⟩:=hk
   have k0:a.tmps.getD 32 undef=.int .i64 (y.fin.form x.blocks.length):=k0;have k1:a.tmps.getD 38 undef=.int .i64 (10000*(fi:Int)+100*(bi:Int)+91):=k1;have hC:Rd Tryz.prog 96 #[.int .i64 (y.fin.form x.blocks.length),.int .i64 (10000*(fi:Int)+100*(bi:Int)+91)] w (.agg #[.int .i64 ((atF (y.fin.form x.blocks.length) (10000*(fi:Int)+100*(bi:Int)+91)).1),.int .i64 ((atF (y.fin.form x.blocks.length) (10000*(fi:Int)+100*(bi:Int)+91)).2)]):=QaE (xc:=y.fin.form x.blocks.length) (xp:=10000*(fi:Int)+100*(bi:Int)+91);go_simp;refine hC.mono ?_;rintro e w9 ⟨rfl,hb⟩;exact hK _ _ hb ⟨hW.1.below hb,Below.andThen hW.2 hb⟩ rfl
  trivial
 case hend =>
  intro ops a35 w35 hWD hE hFD;have hd39:a35.tmps.getD 39 undef=.agg #[.int .i64 ((atF (y.fin.form x.blocks.length) (10000*(fi:Int)+100*(bi:Int)+91)).1),.int .i64 ((atF (y.fin.form x.blocks.length) (10000*(fi:Int)+100*(bi:Int)+91)).2)]:=hE 39 rfl;have hF35:Fr 40 a35 [(39,.agg #[.int .i64 ((atF (y.fin.form x.blocks.length) (10000*(fi:Int)+100*(bi:Int)+91)).1),.int .i64 ((atF (y.fin.form x.blocks.length) (10000*(fi:Int)+100*(bi:Int)+91)).2)]),(0,.agg #[.slice p m.length c,.int .i64 x.regs,.slice fp.pP x.params.length fp.cP,.slice fp.pR x.results.length fp.cR,.slice fp.pB x.blocks.length fp.cB,.int .i64 (fi:Int),.int .i64 y.regs,.slice bp.pP y.params.length bp.cP,.slice bp.pC y.code.length bp.cC,.int .i64 y.fin.op,.int .i64 y.fin.a,.int .i64 y.fin.yes.block,.slice bp.e.pYR y.fin.yes.regs.length bp.e.cYR,.slice bp.e.pYA y.fin.yes.args.length bp.e.cYA,.int .i64 y.fin.no.block,.slice bp.e.pNR y.fin.no.regs.length bp.e.cNR,.slice bp.e.pNA y.fin.no.args.length bp.e.cNA,.slice bp.e.pA y.fin.args.length bp.e.cA,.int .i64 (bi:Int)]),(1,.pointer (some ⟨B2,0,none⟩)),(2,.pointer (some ⟨B3,0,none⟩)),(3,.int .i64 (y.code' x bi)),(4,.pointer (some ⟨B22,0,none⟩))]:=(hFD.cons hd39);clear hd39;have hW35:Wd w w35 [(B22,#[.int .i64 ((firstF (fun i z=>atF (Qx.form m.length z) (10000*(fi:Int)+100*(bi:Int)+(i:Int))) 0 y.code).1),.int .i64 ((firstF (fun i z=>atF (Qx.form m.length z) (10000*(fi:Int)+100*(bi:Int)+(i:Int))) 0 y.code).2)],30),(B3,#[.int .i64 0,.int .i64 0],30),(B2,#[.slice p m.length c,.int .i64 x.regs,.slice fp.pP x.params.length fp.cP,.slice fp.pR x.results.length fp.cR,.slice fp.pB x.blocks.length fp.cB,.int .i64 (fi:Int),.int .i64 y.regs,.slice bp.pP y.params.length bp.cP,.slice bp.pC y.code.length bp.cC,.int .i64 y.fin.op,.int .i64 y.fin.a,.int .i64 y.fin.yes.block,.slice bp.e.pYR y.fin.yes.regs.length bp.e.cYR,.slice bp.e.pYA y.fin.yes.args.length bp.e.cYA,.int .i64 y.fin.no.block,.slice bp.e.pNR y.fin.no.regs.length bp.e.cNR,.slice bp.e.pNA y.fin.no.args.length bp.e.cNA,.slice bp.e.pA y.fin.args.length bp.e.cA,.int .i64 (bi:Int)],131)]:=hWD.1;clear hFD hWD hE hF34 h27;clear hW23;refine St.go hF35 ?_;clear hF35 a35;refine sT 1 hW35 rfl rfl infFault rfl rfl rfl ?_;clear hW35;intro w36 hW36;refine St.nil fun a37 h37=>?_;refine hK33 _ _ ?_;refine wp_ret ?_;with_reducible repeat first | refine Qd ?_ | refine Qc ?_
  have e0:=hc17.out;have e1:=hc32.out;have EF:=Qe.fault_eq m.length fi x bi y;have EI:=Qbw (f:=fun i z=>(Qx.form m.length z,(10000*(fi:Int)+100*(bi:Int)+(i:Int)))) (l:=y.code) (j:=0);dsimp only at EI
  rw[if_pos e0,if_pos (by rw[← EI];exact e1)] at EF
  exact QN 1 h37 hW36 rfl rfl rfl Tryz.underlying30 rfl infFault ⟨by show Ending.returned (.agg #[.int .i64 ((atF (y.fin.form x.blocks.length) (10000*(fi:Int)+100*(bi:Int)+91)).1),.int .i64 ((atF (y.fin.form x.blocks.length) (10000*(fi:Int)+100*(bi:Int)+91)).2)])=_;rw[EF],hW36.bel⟩
theorem QhM {n:Nat}{m:List (Qf n)}{p:Option Addr}{c:Nat}{x:Qf n}{fp:FP}{fi:Nat}{y:Qe n}{bp:BP}{bi:Nat}{w:World}(hx0:FIn w All x fp) (hs0:x.small) (hy0:BIn w All y bp) (ht0:y.small){Bc:Nat}(hm:m.length≤100000) (hfi:fi<1000000) (hbi:bi<1000000) (hcap0:Blk w Bc #[.slice p m.length c,.int .i64 x.regs,.slice fp.pP x.params.length fp.cP,.slice fp.pR x.results.length fp.cR,.slice fp.pB x.blocks.length fp.cB,.int .i64 (fi:Int)] 93) :
 Rd Tryz.prog 99 #[.int .i64 (bi:Int),.agg #[.int .i64 y.regs,.slice bp.pP y.params.length bp.cP,.slice bp.pC y.code.length bp.cC,.int .i64 y.fin.op,.int .i64 y.fin.a,.int .i64 y.fin.yes.block,.slice bp.e.pYR y.fin.yes.regs.length bp.e.cYR,.slice bp.e.pYA y.fin.yes.args.length bp.e.cYA,.int .i64 y.fin.no.block,.slice bp.e.pNR y.fin.no.regs.length bp.e.cNR,.slice bp.e.pNA y.fin.no.args.length bp.e.cNA,.slice bp.e.pA y.fin.args.length bp.e.cA],.pointer (some ⟨Bc,0,none⟩)] w (QD (Qe.fault m.length fi x bi y)):=by
 have hx:Hid _:=hx0;have hs:Hid _:=hs0;have hy:Hid _:=hy0;have ht:Hid _:=ht0;clear hx0 hs0 hy0 ht0;have hcap:Hid _:=hcap0;clear hcap0;refine Qs (n:=11) Tryz.func99 rfl rfl rfl ?_;intro a hF;have hW:=Wd.start w;replace hF:Fr 11 a [(0,.int .i64 (bi:Int)),(1,.agg #[.int .i64 y.regs,.slice bp.pP y.params.length bp.cP,.slice bp.pC y.code.length bp.cC,.int .i64 y.fin.op,.int .i64 y.fin.a,.int .i64 y.fin.yes.block,.slice bp.e.pYR y.fin.yes.regs.length bp.e.cYR,.slice bp.e.pYA y.fin.yes.args.length bp.e.cYA,.int .i64 y.fin.no.block,.slice bp.e.pNR y.fin.no.regs.length bp.e.cNR,.slice bp.e.pNA y.fin.no.args.length bp.e.cNA,.slice bp.e.pA y.fin.args.length bp.e.cA]),(2,.pointer (some ⟨Bc,0,none⟩))]:=hF;refine wp_seq_k fun K1 hK1=>?_;refine rg hF fun ops=>?_;clear hF a;refine sB hW trivial rfl rfl ?_;clear hW;intro w2 B2 hW2 hN;clear hN;refine Zz hW2 trivial rfl ?_;clear hW2;intro w3 B3 hW3 hN;clear hN;refine St.nil fun a4 h4=>?_;refine hK1 _ _ ?_;refine wp_seq_k fun K5 hK5=>?_;refine rg h4 fun ops=>?_;clear h4 a4;refine sSE Tryz.underlying93 rfl (QK (QdI hcap.out 0 6 rfl) hW3.bel) inffuncLook trivial rfl rfl ?_;refine sS 1 12 Tryz.underlying60 rfl infBlock hW3 trivial rfl rfl rfl rfl ?_;refine sm trivial rfl rfl ?_;intro a6 h6;refine Q2 (t:=9) (v:=.agg #[.slice p m.length c,.int .i64 x.regs,.slice fp.pP x.params.length fp.cP,.slice fp.pR x.results.length fp.cR,.slice fp.pB x.blocks.length fp.cB,.int .i64 (fi:Int),.int .i64 y.regs,.slice bp.pP y.params.length bp.cP,.slice bp.pC y.code.length bp.cC,.int .i64 y.fin.op,.int .i64 y.fin.a,.int .i64 y.fin.yes.block,.slice bp.e.pYR y.fin.yes.regs.length bp.e.cYR,.slice bp.e.pYA y.fin.yes.args.length bp.e.cYA,.int .i64 y.fin.no.block,.slice bp.e.pNR y.fin.no.regs.length bp.e.cNR,.slice bp.e.pNA y.fin.no.args.length bp.e.cNA,.slice bp.e.pA y.fin.args.length bp.e.cA,.int .i64 (bi:Int)]) (w':=w3) h6 rfl rfl rfl (fun K hK=>?_) ?_
 ·have k0:a6.tmps[6]?.getD undef=.agg #[.slice p m.length c,.int .i64 x.regs,.slice fp.pP x.params.length fp.cP,.slice fp.pR x.results.length fp.cR,.slice fp.pB x.blocks.length fp.cB,.int .i64 (fi:Int)]:=h6.sl2 6 _ rfl
  have k1:a6.tmps[7]?.getD undef=.agg #[.int .i64 y.regs,.slice bp.pP y.params.length bp.cP,.slice bp.pC y.code.length bp.cC,.int .i64 y.fin.op,.int .i64 y.fin.a,.int .i64 y.fin.yes.block,.slice bp.e.pYR y.fin.yes.regs.length bp.e.cYR,.slice bp.e.pYA y.fin.yes.args.length bp.e.cYA,.int .i64 y.fin.no.block,.slice bp.e.pNR y.fin.no.regs.length bp.e.cNR,.slice bp.e.pNA y.fin.no.args.length bp.e.cNA,.slice bp.e.pA y.fin.args.length bp.e.cA]:=h6.sl2 7 _ rfl;have k2:a6.tmps[8]?.getD undef=.int .i64 (bi:Int):=h6.sl2 8 _ rfl;go_simp;exact hK
 clear h6;intro a7 hF7;refine St.go hF7 ?_;clear hF7 a7;refine QjI cf100 hW3 (QcZ (m:=m) (p:=p) (c:=c) (x:=x) (fp:=fp) (fi:=fi) (y:=y) (bp:=bp) (bi:=bi) (hx.out.below hW3.bel) hs.out (hy.out.below hW3.bel) ht.out hm hfi hbi) trivial rfl rfl ?_;clear hW3;intro w8 hW8;refine sT 0 hW8 rfl rfl infFault rfl rfl rfl ?_;clear hW8;intro w9 hW9;refine St.nil fun a10 h10=>?_;refine hK5 _ _ ?_;refine wp_ret ?_;with_reducible repeat first | refine Qd ?_ | refine Qc ?_
 exact QN 0 h10 hW9 rfl rfl rfl Tryz.underlying30 rfl infFault ⟨rfl,hW9.bel⟩
theorem Qc7 {n:Nat}{m:List (Qf n)}{p:Option Addr}{c:Nat}{x:Qf n}{fp:FP}{fi:Nat}{w:World}(hx0:FIn w All x fp) (hs0:x.small) (hm:m.length≤100000) (hfi:fi<1000000) :
 Rd Tryz.prog 57 #[.agg #[.slice p m.length c,.int .i64 x.regs,.slice fp.pP x.params.length fp.cP,.slice fp.pR x.results.length fp.cR,.slice fp.pB x.blocks.length fp.cB,.int .i64 (fi:Int)]] w (QD (Qf.fault m.length fi x)):=by
 have hx:Hid _:=hx0;have hs:Hid _:=hs0;clear hx0 hs0;refine Qs (n:=18) Tryz.func57 rfl rfl rfl ?_;intro a hF;have hW:=Wd.start w;replace hF:Fr 18 a [(0,.agg #[.slice p m.length c,.int .i64 x.regs,.slice fp.pP x.params.length fp.cP,.slice fp.pR x.results.length fp.cR,.slice fp.pB x.blocks.length fp.cB,.int .i64 (fi:Int)])]:=hF;refine wp_seq_k fun K1 hK1=>?_;refine rg hF fun ops=>?_;clear hF a;refine sB hW trivial rfl rfl ?_;clear hW;intro w2 B2 hW2 hN;clear hN;refine Zz hW2 trivial rfl ?_;clear hW2;intro w3 B3 hW3 hN;clear hN;refine St.nil fun a4 h4=>?_;refine hK1 _ _ ?_;refine wp_seq_k fun K5 hK5=>?_;refine wp_seq_k fun K6 hK6=>?_;refine rg h4 fun ops=>?_;clear h4 a4;refine sS 1 6 Tryz.underlying93 rfl inffuncLook hW3 trivial rfl rfl rfl rfl ?_;refine QjI cf95 hW3 (Qe3 (m:=m) (p:=p) (c:=c) (fi:=fi) (hx.out.below hW3.bel) hs.out) trivial rfl rfl ?_;clear hW3;intro w7 hW7;refine sa trivial rfl rfl ?_;refine St.nil fun a8 h8=>?_;refine hK6 _ _ ?_;refine wp_seq_k fun K9 hK9=>?_;refine rg h8 fun ops=>?_;clear h8 a8;refine sm trivial rfl rfl ?_;refine sne trivial rfl rfl rfl ?_;refine St.nil fun a10 h10=>?_;refine hK9 _ _ ?_;refine Qt (t:=7) h10 rfl (fun hb=>?_) (fun hb=>?_)
 ·have h9:¬ (x.code fi)=0:=bne_iff_ne.1 hb
  have hc11:¬ (x.code fi)=0:=h9;clear h9;clear hb;refine wp_seq_k fun K12 hK12=>?_;refine rg h10 fun ops=>?_;clear h10 a10;refine sm trivial rfl rfl ?_;refine QcX trivial rfl rfl ?_;refine Zw 1 hW7 trivial rfl rfl rfl rfl ?_;refine QjI cf97 hW7 (QfC (f:=fi) (by omega)) trivial rfl rfl ?_;clear hW7;intro w13 hW13;refine QhQ cf96 hW13 (QaE (xc:=x.code fi) (xp:=10000*(fi:Int)+9999)) trivial rfl rfl rfl ?_;clear hW13;intro w14 hW14;refine sT 0 hW14 rfl rfl infFault rfl rfl rfl ?_;clear hW14;intro w15 hW15;refine St.nil fun a16 h16=>?_;refine hK12 _ _ ?_;refine wp_ret ?_;with_reducible repeat first | refine Qd ?_ | refine Qc ?_
  have e0:=hc11;have EF:=Qf.fault_eq m.length fi x;rw[if_neg e0] at EF
  exact QN 0 h16 hW15 rfl rfl rfl Tryz.underlying30 rfl infFault ⟨by show Ending.returned (.agg #[.int .i64 ((atF (x.code fi) (10000*(fi:Int)+9999)).1),.int .i64 ((atF (x.code fi) (10000*(fi:Int)+9999)).2)])=_;rw[EF] ;simp[atF,e0],hW15.bel⟩
 have h9:(x.code fi)=0:=bne_eq_false_iff_eq.1 hb;have hc17:Hid ((x.code fi)=0):=h9;clear h9;clear hb;refine wp_skip ?_;refine hK5 _ _ ?_;refine wp_seq_k fun K18 hK18=>?_;refine rg h10 fun ops=>?_;clear h10 a10;refine Zy trivial rfl rfl ?_;refine Qbd trivial rfl rfl ?_;refine Qf3 1 hW7 trivial rfl rfl rfl rfl ?_;intro a19 h19;refine Q2 (t:=16) (v:=.func (.func 99) #[] #[.pointer (some ⟨B2,0,none⟩)]) (w':=w7) h19 rfl rfl rfl (fun K hK=>?_) ?_
 ·have k0:a19.tmps.getD 1 undef=.pointer (some ⟨B2,0,none⟩):=h19.sl 1 _ rfl
  go_simp;exact hK
 clear h19;intro a20 hF20;refine St.go hF20 ?_;clear hF20 a20;refine QhQ cf98 hW7 (Qfw (Bc:=B2) (fun b y=>Qe.fault m.length fi x b y) (Lay.below hx.out.blocks hW7.bel) (by have:=hs.out.1;omega) (fun b y yi wx hz hi hb=>QhM ((hx.out.below hW7.bel).below hb) hs.out hi (hs.out.2.2.2 _ (List.mem_of_getElem? hz)) hm hfi (by have h9:=(List.getElem?_eq_some_iff.1 hz).1;have:=hs.out.1;omega) ((hW7.get 1 rfl).below hb))) trivial rfl rfl rfl ?_;clear hW7;intro w21 hW21;refine sT 0 hW21 rfl rfl infFault rfl rfl rfl ?_;clear hW21;intro w22 hW22;refine St.nil fun a23 h23=>?_;refine hK18 _ _ ?_;refine wp_ret ?_;with_reducible repeat first | refine Qd ?_ | refine Qc ?_
 have e0:=hc17.out;have EF:=Qf.fault_eq m.length fi x;rw[if_pos e0] at EF
 exact QN 0 h23 hW22 rfl rfl rfl Tryz.underlying30 rfl infFault ⟨by show Ending.returned (.agg #[.int .i64 ((firstF (fun b y=>Qe.fault m.length fi x b y) 0 x.blocks).1),.int .i64 ((firstF (fun b y=>Qe.fault m.length fi x b y) 0 x.blocks).2)])=_;rw[EF],hW22.bel⟩
theorem Qht {n:Nat}{m:List (Qf n)}{p:Option Addr}{c:Nat}{x:Qf n}{fp:FP}{fi:Nat}{w:World}(hx0:FIn w All x fp) (hs0:x.small){Bc:Nat}(hm:m.length≤100000) (hfi:fi<1000000) (hcap0:Blk w Bc #[.slice p m.length c] 24) :
 Rd Tryz.prog 56 #[.int .i64 (fi:Int),.agg #[.int .i64 x.regs,.slice fp.pP x.params.length fp.cP,.slice fp.pR x.results.length fp.cR,.slice fp.pB x.blocks.length fp.cB],.pointer (some ⟨Bc,0,none⟩)] w (QD (Qf.fault m.length fi x)):=by
 have hx:Hid _:=hx0;have hs:Hid _:=hs0;clear hx0 hs0;have hcap:Hid _:=hcap0;clear hcap0;refine Qs (n:=11) Tryz.func56 rfl rfl rfl ?_;intro a hF;have hW:=Wd.start w;replace hF:Fr 11 a [(0,.int .i64 (fi:Int)),(1,.agg #[.int .i64 x.regs,.slice fp.pP x.params.length fp.cP,.slice fp.pR x.results.length fp.cR,.slice fp.pB x.blocks.length fp.cB]),(2,.pointer (some ⟨Bc,0,none⟩))]:=hF;refine wp_seq_k fun K1 hK1=>?_;refine rg hF fun ops=>?_;clear hF a;refine sB hW trivial rfl rfl ?_;clear hW;intro w2 B2 hW2 hN;clear hN;refine Zz hW2 trivial rfl ?_;clear hW2;intro w3 B3 hW3 hN;clear hN;refine St.nil fun a4 h4=>?_;refine hK1 _ _ ?_;refine wp_seq_k fun K5 hK5=>?_;refine rg h4 fun ops=>?_;clear h4 a4;refine sSE Tryz.underlying24 rfl (QK (QdI hcap.out 0 1 rfl) hW3.bel) infModule trivial rfl rfl ?_;refine sS 1 4 Tryz.underlying40 rfl infFunc hW3 trivial rfl rfl rfl rfl ?_;refine sm trivial rfl rfl ?_;intro a6 h6;refine Q2 (t:=9) (v:=.agg #[.slice p m.length c,.int .i64 x.regs,.slice fp.pP x.params.length fp.cP,.slice fp.pR x.results.length fp.cR,.slice fp.pB x.blocks.length fp.cB,.int .i64 (fi:Int)]) (w':=w3) h6 rfl rfl rfl (fun K hK=>?_) ?_
 ·have k0:a6.tmps[6]?.getD undef=.agg #[.slice p m.length c]:=h6.sl2 6 _ rfl
  have k1:a6.tmps[7]?.getD undef=.agg #[.int .i64 x.regs,.slice fp.pP x.params.length fp.cP,.slice fp.pR x.results.length fp.cR,.slice fp.pB x.blocks.length fp.cB]:=h6.sl2 7 _ rfl;have k2:a6.tmps[8]?.getD undef=.int .i64 (fi:Int):=h6.sl2 8 _ rfl;go_simp;exact hK
 clear h6;intro a7 hF7;refine St.go hF7 ?_;clear hF7 a7;refine QjI cf57 hW3 (Qc7 (m:=m) (p:=p) (c:=c) (x:=x) (fp:=fp) (fi:=fi) (hx.out.below hW3.bel) hs.out hm hfi) trivial rfl rfl ?_;clear hW3;intro w8 hW8;refine sT 0 hW8 rfl rfl infFault rfl rfl rfl ?_;clear hW8;intro w9 hW9;refine St.nil fun a10 h10=>?_;refine hK5 _ _ ?_;refine wp_ret ?_;with_reducible repeat first | refine Qd ?_ | refine Qc ?_
 exact QN 0 h10 hW9 rfl rfl rfl Tryz.underlying30 rfl infFault ⟨rfl,hW9.bel⟩
theorem Qb8 {n:Nat}{m:List (Qf n)}{p:Option Addr}{c:Nat}{w:World}(hm0:(Qa5 n).In w All m [.slice p m.length c]) (hs0:Qa9 m) :
 Rd Tryz.prog 26 #[.agg #[.slice p m.length c]] w (QD (Qg m)):=by
 have hmm:Hid _:=hm0;have hms:Hid _:=hs0;clear hm0 hs0;refine Qs (n:=18) Tryz.func26 rfl rfl rfl ?_;intro a hF;have hW:=Wd.start w;replace hF:Fr 18 a [(0,.agg #[.slice p m.length c])]:=hF;refine wp_seq_k fun K1 hK1=>?_;refine rg hF fun ops=>?_;clear hF a;refine sB hW trivial rfl rfl ?_;clear hW;intro w2 B2 hW2 hN;clear hN;refine Zz hW2 trivial rfl ?_;clear hW2;intro w3 B3 hW3 hN;clear hN;refine St.nil fun a4 h4=>?_;refine hK1 _ _ ?_;refine wp_seq_k fun K5 hK5=>?_;refine wp_seq_k fun K6 hK6=>?_;refine Zh ?_;intro ops hops;have hg4:(ops[4]?).bind (fun o:Oper=>o.dst)=some 7:=hops 4;clear hops;refine St.go h4 ?_;clear h4 a4;refine ZF trivial rfl rfl ?_;refine QcI 1 hW3 trivial rfl rfl rfl rfl ?_;refine Qbj trivial rfl rfl ?_;refine slt trivial rfl rfl rfl ?_;refine sm trivial rfl rfl ?_;intro a7 h7;rcases Bool.eq_false_or_eq_true (decide ((m.length:Int)<1)) with hb | hb
 ·rw[hb] at h7
  have hc8:m.length<1:=by have:=of_decide_eq_true hb;omega
  clear hb;refine St.go h7 ?_;clear h7 a7;refine so hg4 rfl rfl rfl rfl ?_;refine so hg4 rfl rfl rfl rfl ?_;refine so hg4 rfl rfl rfl rfl ?_;refine so hg4 rfl rfl rfl rfl ?_;refine sp trivial rfl rfl rfl ?_;refine St.nil fun a9 h9=>?_;refine hK6 _ _ ?_;refine Qaz (t:=12) h9 rfl ?_;refine wp_seq_k fun K10 hK10=>?_;refine rg h9 fun ops=>?_;clear h9 a9;intro a11 h11;refine Q2 (t:=13) (v:=.agg #[.int .i64 2,.int .i64 (-1)]) (w':=w3) h11 rfl rfl rfl (fun K hK=>?_) ?_
  ·go_simp
   exact hK
  clear h11;intro a12 hF12;refine St.go hF12 ?_;clear hF12 a12;refine sT 0 hW3 rfl rfl infFault rfl rfl rfl ?_;clear hW3;intro w13 hW13;refine St.nil fun a14 h14=>?_;refine hK10 _ _ ?_;refine wp_ret ?_;with_reducible repeat first | refine Qd ?_ | refine Qc ?_
  have R:Qg m=(2,-1):=if_pos (by omega);exact QN 0 h14 hW13 rfl rfl rfl Tryz.underlying30 rfl infFault ⟨by show Ending.returned (.agg #[.int .i64 2,.int .i64 (-1)])=_;rw[R],hW13.bel⟩
 rw[hb] at h7
 have hc15:¬ (m.length<1):=by have:=of_decide_eq_false hb;omega
 clear hb;refine St.go h7 ?_;clear h7 a7;refine ZF ⟨_,hg4,rfl,rfl⟩ rfl rfl ?_;refine QcI 1 hW3 ⟨_,hg4,rfl,rfl⟩ rfl rfl rfl rfl ?_;refine Qbj ⟨_,hg4,rfl,rfl⟩ rfl rfl ?_;refine sgt ⟨_,hg4,rfl,rfl⟩ rfl rfl rfl ?_;refine spf trivial rfl rfl rfl ?_;refine St.nil fun a16 h16=>?_;refine hK6 _ _ ?_;refine Qt (t:=12) h16 rfl (fun hb=>?_) (fun hb=>?_)
 ·have hc17:8<m.length:=by have:=of_decide_eq_true hb;omega
  clear hb;refine wp_seq_k fun K18 hK18=>?_;refine rg h16 fun ops=>?_;clear h16 a16;intro a19 h19;refine Q2 (t:=13) (v:=.agg #[.int .i64 2,.int .i64 (-1)]) (w':=w3) h19 rfl rfl rfl (fun K hK=>?_) ?_
  ·go_simp
   exact hK
  clear h19;intro a20 hF20;refine St.go hF20 ?_;clear hF20 a20;refine sT 0 hW3 rfl rfl infFault rfl rfl rfl ?_;clear hW3;intro w21 hW21;refine St.nil fun a22 h22=>?_;refine hK18 _ _ ?_;refine wp_ret ?_;with_reducible repeat first | refine Qd ?_ | refine Qc ?_
  have R:Qg m=(2,-1):=if_pos (by omega);exact QN 0 h22 hW21 rfl rfl rfl Tryz.underlying30 rfl infFault ⟨by show Ending.returned (.agg #[.int .i64 2,.int .i64 (-1)])=_;rw[R],hW21.bel⟩
 have hc23:¬ (8<m.length):=by have:=of_decide_eq_false hb;omega
 clear hb;refine wp_skip ?_;refine hK5 _ _ ?_;refine wp_seq_k fun K24 hK24=>?_;refine rg h16 fun ops=>?_;clear h16 a16;refine ZF trivial rfl rfl ?_;refine QcI 1 hW3 trivial rfl rfl rfl rfl ?_;intro a25 h25;refine Q2 (t:=16) (v:=.func (.func 56) #[] #[.pointer (some ⟨B2,0,none⟩)]) (w':=w3) h25 rfl rfl rfl (fun K hK=>?_) ?_
 ·have k0:a25.tmps.getD 1 undef=.pointer (some ⟨B2,0,none⟩):=h25.sl 1 _ rfl
  go_simp;exact hK
 clear h25;intro a26 hF26;refine St.go hF26 ?_;clear hF26 a26;refine QhQ cf55 hW3 (QgH (Bc:=B2) (fun f x=>Qf.fault m.length f x) (Lay.below hmm.out hW3.bel) (by have:=hms.out.1;omega) (fun f x xi wx hz hi hb=>Qht hi (hms.out.2 _ (List.mem_of_getElem? hz)) (by have:=hms.out.1;omega) (by have h9:=(List.getElem?_eq_some_iff.1 hz).1;have:=hms.out.1;omega) ((hW3.get 1 rfl).below hb))) trivial rfl rfl rfl ?_;clear hW3;intro w27 hW27;refine sT 0 hW27 rfl rfl infFault rfl rfl rfl ?_;clear hW27;intro w28 hW28;refine St.nil fun a29 h29=>?_;refine hK24 _ _ ?_;refine wp_ret ?_;with_reducible repeat first | refine Qd ?_ | refine Qc ?_
 have R:Qg m=firstF (fun f x=>Qf.fault m.length f x) 0 m:=if_neg (by omega);exact QN 0 h29 hW28 rfl rfl rfl Tryz.underlying30 rfl infFault ⟨by show Ending.returned (.agg #[.int .i64 ((firstF (fun f x=>Qf.fault m.length f x) 0 m).1),.int .i64 ((firstF (fun f x=>Qf.fault m.length f x) 0 m).2)])=_;rw[R],hW28.bel⟩
end Go.Proofs.YtacjnejckfhpoaeGreat
namespace Go.Proofs.YtacjnejckfhpoaeGreat
open Go.ChangeShapes Go.WideShapes Go.ChangeAt Go.RowKit
set_option linter.unusedVariables false
section
variable {n:Nat}{a:Act}{L:List (Tmp × Value)}{w0 w:World}{Bs:List (Nat × Array Value × TypeId)}{Q:Exit→Act→World→Prop}{ops:Array Oper}{rest:List Oper}{t:Tmp}{u v:Value}{ty ty2 ty3:TypeId}{pos:String}{aft:Array Edge}{gd:Option (Nat × Bool)}{x y:Operand}
theorem Qjh {tS e:TypeId}{i:TypeInfo}{z:Value}{size m:Nat}(hu:Tryz.prog.underlying tS=some (.slice e)) (hi:Tryz.prog.info? e=some i) (hz:i.zero=some z) (hsz:i.size=size)
 (hby:i.bytes*m≤281474976710656) (hm:m≤maxLen) (hW:Wd w0 w Bs) (hg:Gok ops n L gd) (hx:Qi L x=some (.int .i64 (m:Int))) (ht:Nat.blt t n=true)
 (k:∀ w' g xs,w.heap.size=g→w'.ownsRow w.heap.size e size (.slice (some ⟨g,0,none⟩) m m) m xs→Below w.heap.size w w'→Wd w0 w' Bs→St n ((t,.slice (some ⟨g,0,none⟩) m m)::L) ops Q rest w') :
 St n L ops Q (⟨some t,.makeSlice tS x x,ty,pos,aft,gd⟩::rest) w:=fun a hF=>by
 obtain⟨w',hr,ho,hgr⟩:=run_make_full (P:=Tryz.prog) w w.heap.size tS e i z size hu hi hz hsz .i64 .i64 m hby hm (Nat.le_refl _)
 have hb:Below w.heap.size w w':=(Below.refl _ w).grown hgr (Nat.le_refl _) (fun k hk=>by cases hk);have e0:=hF.ev hx;refine wpList_step fun K hK=>?_;rw[if_pos (Gok.on (o:=⟨some t,.makeSlice tS x x,ty,pos,aft,gd⟩) hF hg)]
 have h9:=hK (a.put (some t) (.slice (some ⟨w.heap.size,0,none⟩) m m)) w' (k w' _ _ rfl ho hb (hW.below hb) _ (hF.put ht));unfold Oper.wp;simp[execOp,e0,hr,Result.andThen]
 exact h9
theorem QlE {g j:Nat}{c:Array Value}{bt:TypeId}{cells:List Value}(hW:Wd w0 w Bs) (hg:w0.heap.size≤g) (hne:∀ (i:Nat) x,Bs[i]?=some x→x.1≠g) (hB:Blk w g c bt)
 (hx:Qi L x=some (.pointer (some ⟨g,j,none⟩))) (hy:Qi L y=some (.agg cells.toArray)) (hi:(Tryz.prog.info? ty2).map (·.size)=some cells.length) (h1:cells.all (·.oneCell')=true) (hs:j+cells.length≤c.size)
 (k:Wd w0 (w.setCells g j cells) Bs→St n L ops Q rest (w.setCells g j cells)):St n L ops Q (⟨none,.store ty2 x y,ty,pos,aft,none⟩::rest) w:=fun a hF=>by
 have hW':Wd w0 (w.setCells g j cells) Bs:=⟨ZN hg cells w w0 j hW.bel,fun i y hy=>(Zt (hne i y hy) cells j w).trans (hW.blk i y hy),hW.new,hW.nd⟩;refine QdZ hF rfl rfl (fun K hK=>?_) (k hW' a hF);have e:=hF.ev hx;have e2:=hF.ev hy
 have:=run_storeAt_mid (P:=Tryz.prog) w g j ty2 cells.toArray (by simpa using QbU hB j cells.length hs) (by simpa using hi) (by simpa using h1)
 unfold Oper.wp execOp;simp only[e,e2,Sem.run_bind,this,Result.andThen_ok,Sem.run_pure]
 rw[Oper.upon_skip];simpa[Act.put] using hK
end
end Go.Proofs.YtacjnejckfhpoaeGreat
namespace Go.Proofs.YtacjnejckfhpoaeGreat
open Go.ChangeShapes Go.WideShapes Go.ChangeAt Go.RowKit
set_option linter.unusedSimpArgs false
set_option linter.unusedVariables false
theorem Qdn (x:MTo) (pR pA:Option Addr) (cR cA:Nat) (w:World) (h:Qc6 w All x pR cR pA cA) (b1:x.regs.length≤4294967296) (b2:x.args.length≤4294967296) :
 Calls Tryz.prog 150 #[.agg #[.int .i64 x.block,.slice pR x.regs.length cR,.slice pA x.args.length cA]] w fun e w'=>∃ p c p2 c2,e=.returned (.agg #[.int .i64 x.block,.slice p x.regs.length c,.slice p2 x.args.length c2])∧Qc6 w' (Zm w.heap.size) x p c p2 c2∧Below w.heap.size w w':=by
 have hr:Hid _:=h.regs;have hg:Hid _:=h.args;have hbd:=h.bnd;clear h;refine Qs (n:=12) Tryz.func150 rfl rfl rfl ?_;intro a hF;have hW:=Wd.start w;replace hF:Fr 12 a [(0,.agg #[.int .i64 x.block,.slice pR x.regs.length cR,.slice pA x.args.length cA])]:=hF;refine wp_seq_k fun K1 hK1=>?_;refine rg hF fun ops=>?_;clear hF a;refine sB hW trivial rfl rfl ?_;clear hW;intro w2 B2 hW2 hN;clear hN;refine Qlx hW2 trivial rfl ?_;clear hW2;intro w3 B3 hW3 hN;clear hN;refine St.nil fun a4 h4=>?_;refine hK1 _ _ ?_;refine wp_seq_k fun K5 hK5=>?_;have hF6:Fr 12 a4 [(0,.agg #[.int .i64 x.block,.slice pR x.regs.length cR,.slice pA x.args.length cA]),(1,.pointer (some ⟨B2,0,none⟩)),(2,.pointer (some ⟨B3,0,none⟩))]:=(h4.keep (h4.keep (h4.keep h4.nil (t:=2) rfl) (t:=1) rfl) (t:=0) rfl);have ho1:a4.tmps.getD 1 undef=.pointer (some ⟨B2,0,none⟩):=h4.sl 1 _ rfl;refine ZZ 7 ([(1,fun v _=>v=.pointer (some ⟨B2,0,none⟩)),(3,fun v _=>v=.pointer (some ⟨B2,1,none⟩)),(4,fun v _=>v=.slice pR x.regs.length cR),(5,fun v w'=>∃ p c,v=.slice p x.regs.length c∧intsL.In w' (Zm w3.heap.size) x.regs [.slice p x.regs.length c]),(6,fun v _=>v=.pointer (some ⟨B2,2,none⟩)),(7,fun v _=>v=.slice pA x.args.length cA),(8,fun v w'=>∃ p c,v=.slice p x.args.length c∧intsL.In w' (Zm w3.heap.size) x.args [.slice p x.args.length c]),(9,fun v _=>v=.pointer (some ⟨B2,1,none⟩))]:QaH) (fun w'=>Wd w w' [(B3,#[.int .i64 0,.slice none 0 0,.slice none 0 0],56),(B2,#[.int .i64 x.block,.slice pR x.regs.length cR,.slice pA x.args.length cA],56)]∧Below w3.heap.size w3 w') (fun w w'=>Below w.heap.size w w') (outs:=[1]) (gs:=[]) (bs:=[true,true,true,true,true,true,true]) (by kernel_rfl) hF6 rfl (by kernel_rfl) (by kernel_rfl) ?hR ?hG ⟨hW3.drewN 1,Q1 (m:=1) (Below.refl _ _)⟩ ⟨ho1,trivial⟩ ?hA ?hend
 case hR=>exact⟨fun _ _ _ _ h=>h,fun _ _ _ _ h=>h,fun _ _ _ _ h=>h,fun v w w' hr h=>by obtain⟨p,c,h1,h2⟩:=h;exact⟨p,c,h1,Lay.below h2 hr⟩,fun _ _ _ _ h=>h,fun _ _ _ _ h=>h,fun v w w' hr h=>by obtain⟨p,c,h1,h2⟩:=h;exact⟨p,c,h1,Lay.below h2 hr⟩,fun _ _ _ _ h=>h,trivial⟩
 case hG=>exact trivial
 case hA =>
  refine⟨fun a w hW hk K hK=>?_,?_⟩
  ·obtain⟨k0,-⟩:=hk
   have k0:a.tmps.getD 1 undef=.pointer (some ⟨B2,0,none⟩):=k0;go_simp;exact hK _ _ (Below.refl _ _) hW rfl
  refine⟨fun a w hW hk K hK=>?_,?_⟩
  ·obtain⟨k0,-⟩:=hk
   have k0:a.tmps.getD 3 undef=.pointer (some ⟨B2,1,none⟩):=k0;have c1:w.cell? ⟨B2,1,none⟩=some (.slice pR x.regs.length cR):=Qb (hW.1.get 1 rfl) 1 _ rfl;go_simp;exact hK _ _ (Below.refl _ _) hW rfl
  refine⟨fun a w hW hk K hK=>?_,?_⟩
  ·obtain⟨k0,-⟩:=hk
   have k0:a.tmps.getD 4 undef=.slice pR x.regs.length cR:=k0;go_simp;refine(ZO _ _ _ w (Lay.below hr.out hW.1.bel) b1).mono ?_
   rintro e w9 ⟨p9,c9,rfl,h9,hb⟩;exact hK _ _ hb ⟨hW.1.below hb,Below.andThen hW.2 hb⟩ ⟨p9,c9,rfl,Lay.mono h9 (fun k hk _=>Nat.le_trans hW.2.size hk)⟩
  refine⟨fun a w hW hk K hK=>?_,?_⟩
  ·obtain⟨k0,-⟩:=hk
   have k0:a.tmps.getD 1 undef=.pointer (some ⟨B2,0,none⟩):=k0;go_simp;exact hK _ _ (Below.refl _ _) hW rfl
  refine⟨fun a w hW hk K hK=>?_,?_⟩
  ·obtain⟨k0,-⟩:=hk
   have k0:a.tmps.getD 6 undef=.pointer (some ⟨B2,2,none⟩):=k0;have c2:w.cell? ⟨B2,2,none⟩=some (.slice pA x.args.length cA):=Qb (hW.1.get 1 rfl) 2 _ rfl;go_simp;exact hK _ _ (Below.refl _ _) hW rfl
  refine⟨fun a w hW hk K hK=>?_,?_⟩
  ·obtain⟨k0,-⟩:=hk
   have k0:a.tmps.getD 7 undef=.slice pA x.args.length cA:=k0;go_simp;refine(ZO _ _ _ w (Lay.below hg.out hW.1.bel) b2).mono ?_
   rintro e w9 ⟨p9,c9,rfl,h9,hb⟩;exact hK _ _ hb ⟨hW.1.below hb,Below.andThen hW.2 hb⟩ ⟨p9,c9,rfl,Lay.mono h9 (fun k hk _=>Nat.le_trans hW.2.size hk)⟩
  refine⟨fun a w hW hk K hK=>?_,?_⟩
  ·obtain⟨k0,-⟩:=hk
   have k0:a.tmps.getD 1 undef=.pointer (some ⟨B2,0,none⟩):=k0;go_simp;exact hK _ _ (Below.refl _ _) hW rfl
  trivial
 case hend =>
  intro ops a7 w7 hWD hE hFD;obtain⟨pN5,cN5,hd5,hNN5⟩:=hE 5 rfl
  replace hd5:a7.tmps.getD 5 undef=.slice pN5 x.regs.length cN5:=hd5;obtain⟨pN8,cN8,hd8,hNN8⟩:=hE 8 rfl
  replace hd8:a7.tmps.getD 8 undef=.slice pN8 x.args.length cN8:=hd8;have hd9:a7.tmps.getD 9 undef=.pointer (some ⟨B2,1,none⟩):=hE 9 rfl;have hF7:Fr 12 a7 [(9,.pointer (some ⟨B2,1,none⟩)),(8,.slice pN8 x.args.length cN8),(5,.slice pN5 x.regs.length cN5),(0,.agg #[.int .i64 x.block,.slice pR x.regs.length cR,.slice pA x.args.length cA]),(1,.pointer (some ⟨B2,0,none⟩)),(2,.pointer (some ⟨B3,0,none⟩))]:=(((hFD.cons hd5).cons hd8).cons hd9);clear hd5 hd8 hd9;have hW7:Wd w w7 [(B3,#[.int .i64 0,.slice none 0 0,.slice none 0 0],56),(B2,#[.int .i64 x.block,.slice pR x.regs.length cR,.slice pA x.args.length cA],56)]:=hWD.1;have hlt0:B3<w3.heap.size:=(hW3.get 0 rfl).lt;have hlt1:B2<w3.heap.size:=(hW3.get 1 rfl).lt;have hsz:w.heap.size≤w3.heap.size:=hW3.bel.size;clear hFD hWD hE hF6 h4;clear hW3;refine St.go hF7 ?_;clear hF7 a7;refine s1k 1 inf1Ints hW7 rfl rfl rfl rfl rfl rfl ?_;intro w8 hKp hW8;replace hNN5:=Lay.keep1 hNN5 hKp hlt1;replace hNN8:=Lay.keep1 hNN8 hKp hlt1;clear hKp hW7;refine Qlh trivial rfl rfl ?_;refine s1k 1 inf1Ints hW8 rfl rfl rfl rfl rfl rfl ?_;intro w9 hKp hW9;replace hNN5:=Lay.keep1 hNN5 hKp hlt1;replace hNN8:=Lay.keep1 hNN8 hKp hlt1;clear hKp hW8;refine St.nil fun a10 h10=>?_;refine hK5 _ _ ?_;refine wp_seq_k fun K11 hK11=>?_;refine rg h10 fun ops=>?_;clear h10 a10;refine sS 1 3 Tryz.underlying56 rfl infTo hW9 trivial rfl rfl rfl rfl ?_;refine sTk 0 hW9 rfl rfl infTo rfl rfl rfl ?_;intro w12 hKp hW12;replace hNN5:=Lay.keep1 hNN5 hKp hlt0;replace hNN8:=Lay.keep1 hNN8 hKp hlt0;clear hKp hW9;refine St.nil fun a13 h13=>?_;refine hK11 _ _ ?_;refine wp_ret ?_;with_reducible repeat first | refine Qd ?_ | refine Qc ?_
  exact QN 0 h13 hW12 rfl rfl rfl Tryz.underlying56 rfl infTo ⟨_,_,_,_,rfl,⟨Lay.mono hNN5 (fun k hk _=>Nat.le_trans hsz hk),Lay.mono hNN8 (fun k hk _=>Nat.le_trans hsz hk),hbd⟩,hW12.bel⟩
theorem QfK (x:Qx) (i:IP) (w:World) (h:IIn w All x i) (b1:x.regs.length≤4294967296) (b2:x.args.length≤4294967296) :
 Calls Tryz.prog 137 #[.agg #[.int .i64 x.op,.int .i64 x.a,.int .i64 x.b,.int .i64 x.c,.int .i64 x.k,.int .i64 x.n,.slice i.pR x.regs.length i.cR,.slice i.pA x.args.length i.cA]] w fun e w'=>∃ i':IP,e=.returned (.agg #[.int .i64 x.op,.int .i64 x.a,.int .i64 x.b,.int .i64 x.c,.int .i64 x.k,.int .i64 x.n,.slice i'.pR x.regs.length i'.cR,.slice i'.pA x.args.length i'.cA])∧IIn w' (Zm w.heap.size) x i'∧Below w.heap.size w w':=by
 have hr:Hid _:=h.regs;have hg:Hid _:=h.args;have hbd:=h.bnd;clear h;refine Qs (n:=12) Tryz.func137 rfl rfl rfl ?_;intro a hF;have hW:=Wd.start w;replace hF:Fr 12 a [(0,.agg #[.int .i64 x.op,.int .i64 x.a,.int .i64 x.b,.int .i64 x.c,.int .i64 x.k,.int .i64 x.n,.slice i.pR x.regs.length i.cR,.slice i.pA x.args.length i.cA])]:=hF;refine wp_seq_k fun K1 hK1=>?_;refine rg hF fun ops=>?_;clear hF a;refine sB hW trivial rfl rfl ?_;clear hW;intro w2 B2 hW2 hN;clear hN;refine Qi2 hW2 trivial rfl ?_;clear hW2;intro w3 B3 hW3 hN;clear hN;refine St.nil fun a4 h4=>?_;refine hK1 _ _ ?_;refine wp_seq_k fun K5 hK5=>?_;have hF6:Fr 12 a4 [(0,.agg #[.int .i64 x.op,.int .i64 x.a,.int .i64 x.b,.int .i64 x.c,.int .i64 x.k,.int .i64 x.n,.slice i.pR x.regs.length i.cR,.slice i.pA x.args.length i.cA]),(1,.pointer (some ⟨B2,0,none⟩)),(2,.pointer (some ⟨B3,0,none⟩))]:=(h4.keep (h4.keep (h4.keep h4.nil (t:=2) rfl) (t:=1) rfl) (t:=0) rfl);have ho1:a4.tmps.getD 1 undef=.pointer (some ⟨B2,0,none⟩):=h4.sl 1 _ rfl;refine ZZ 7 ([(1,fun v _=>v=.pointer (some ⟨B2,0,none⟩)),(3,fun v _=>v=.pointer (some ⟨B2,6,none⟩)),(4,fun v _=>v=.slice i.pR x.regs.length i.cR),(5,fun v w'=>∃ p c,v=.slice p x.regs.length c∧intsL.In w' (Zm w3.heap.size) x.regs [.slice p x.regs.length c]),(6,fun v _=>v=.pointer (some ⟨B2,7,none⟩)),(7,fun v _=>v=.slice i.pA x.args.length i.cA),(8,fun v w'=>∃ p c,v=.slice p x.args.length c∧intsL.In w' (Zm w3.heap.size) x.args [.slice p x.args.length c]),(9,fun v _=>v=.pointer (some ⟨B2,6,none⟩))]:QaH) (fun w'=>Wd w w' [(B3,#[.int .i64 0,.int .i64 0,.int .i64 0,.int .i64 0,.int .i64 0,.int .i64 0,.slice none 0 0,.slice none 0 0],46),(B2,#[.int .i64 x.op,.int .i64 x.a,.int .i64 x.b,.int .i64 x.c,.int .i64 x.k,.int .i64 x.n,.slice i.pR x.regs.length i.cR,.slice i.pA x.args.length i.cA],46)]∧Below w3.heap.size w3 w') (fun w w'=>Below w.heap.size w w') (outs:=[1]) (gs:=[]) (bs:=[true,true,true,true,true,true,true]) (by kernel_rfl) hF6 rfl (by kernel_rfl) (by kernel_rfl) ?hR ?hG ⟨hW3.drewN 1,Q1 (m:=1) (Below.refl _ _)⟩ ⟨ho1,trivial⟩ ?hA ?hend
 case hR=>exact⟨fun _ _ _ _ h=>h,fun _ _ _ _ h=>h,fun _ _ _ _ h=>h,fun v w w' hr h=>by obtain⟨p,c,h1,h2⟩:=h;exact⟨p,c,h1,Lay.below h2 hr⟩,fun _ _ _ _ h=>h,fun _ _ _ _ h=>h,fun v w w' hr h=>by obtain⟨p,c,h1,h2⟩:=h;exact⟨p,c,h1,Lay.below h2 hr⟩,fun _ _ _ _ h=>h,trivial⟩
 case hG=>exact trivial
 case hA =>
  refine⟨fun a w hW hk K hK=>?_,?_⟩
  ·obtain⟨k0,-⟩:=hk
   have k0:a.tmps.getD 1 undef=.pointer (some ⟨B2,0,none⟩):=k0;go_simp;exact hK _ _ (Below.refl _ _) hW rfl
  refine⟨fun a w hW hk K hK=>?_,?_⟩
  ·obtain⟨k0,-⟩:=hk
   have k0:a.tmps.getD 3 undef=.pointer (some ⟨B2,6,none⟩):=k0;have c6:w.cell? ⟨B2,6,none⟩=some (.slice i.pR x.regs.length i.cR):=Qb (hW.1.get 1 rfl) 6 _ rfl;go_simp;exact hK _ _ (Below.refl _ _) hW rfl
  refine⟨fun a w hW hk K hK=>?_,?_⟩
  ·obtain⟨k0,-⟩:=hk
   have k0:a.tmps.getD 4 undef=.slice i.pR x.regs.length i.cR:=k0;go_simp;refine(ZO _ _ _ w (Lay.below hr.out hW.1.bel) b1).mono ?_
   rintro e w9 ⟨p9,c9,rfl,h9,hb⟩;exact hK _ _ hb ⟨hW.1.below hb,Below.andThen hW.2 hb⟩ ⟨p9,c9,rfl,Lay.mono h9 (fun k hk _=>Nat.le_trans hW.2.size hk)⟩
  refine⟨fun a w hW hk K hK=>?_,?_⟩
  ·obtain⟨k0,-⟩:=hk
   have k0:a.tmps.getD 1 undef=.pointer (some ⟨B2,0,none⟩):=k0;go_simp;exact hK _ _ (Below.refl _ _) hW rfl
  refine⟨fun a w hW hk K hK=>?_,?_⟩
  ·obtain⟨k0,-⟩:=hk
   have k0:a.tmps.getD 6 undef=.pointer (some ⟨B2,7,none⟩):=k0;have c7:w.cell? ⟨B2,7,none⟩=some (.slice i.pA x.args.length i.cA):=Qb (hW.1.get 1 rfl) 7 _ rfl;go_simp;exact hK _ _ (Below.refl _ _) hW rfl
  refine⟨fun a w hW hk K hK=>?_,?_⟩
  ·obtain⟨k0,-⟩:=hk
   have k0:a.tmps.getD 7 undef=.slice i.pA x.args.length i.cA:=k0;go_simp;refine(ZO _ _ _ w (Lay.below hg.out hW.1.bel) b2).mono ?_
   rintro e w9 ⟨p9,c9,rfl,h9,hb⟩;exact hK _ _ hb ⟨hW.1.below hb,Below.andThen hW.2 hb⟩ ⟨p9,c9,rfl,Lay.mono h9 (fun k hk _=>Nat.le_trans hW.2.size hk)⟩
  refine⟨fun a w hW hk K hK=>?_,?_⟩
  ·obtain⟨k0,-⟩:=hk
   have k0:a.tmps.getD 1 undef=.pointer (some ⟨B2,0,none⟩):=k0;go_simp;exact hK _ _ (Below.refl _ _) hW rfl
  trivial
 case hend =>
  intro ops a7 w7 hWD hE hFD;obtain⟨pN5,cN5,hd5,hNN5⟩:=hE 5 rfl
  replace hd5:a7.tmps.getD 5 undef=.slice pN5 x.regs.length cN5:=hd5;obtain⟨pN8,cN8,hd8,hNN8⟩:=hE 8 rfl
  replace hd8:a7.tmps.getD 8 undef=.slice pN8 x.args.length cN8:=hd8;have hd9:a7.tmps.getD 9 undef=.pointer (some ⟨B2,6,none⟩):=hE 9 rfl;have hF7:Fr 12 a7 [(9,.pointer (some ⟨B2,6,none⟩)),(8,.slice pN8 x.args.length cN8),(5,.slice pN5 x.regs.length cN5),(0,.agg #[.int .i64 x.op,.int .i64 x.a,.int .i64 x.b,.int .i64 x.c,.int .i64 x.k,.int .i64 x.n,.slice i.pR x.regs.length i.cR,.slice i.pA x.args.length i.cA]),(1,.pointer (some ⟨B2,0,none⟩)),(2,.pointer (some ⟨B3,0,none⟩))]:=(((hFD.cons hd5).cons hd8).cons hd9);clear hd5 hd8 hd9;have hW7:Wd w w7 [(B3,#[.int .i64 0,.int .i64 0,.int .i64 0,.int .i64 0,.int .i64 0,.int .i64 0,.slice none 0 0,.slice none 0 0],46),(B2,#[.int .i64 x.op,.int .i64 x.a,.int .i64 x.b,.int .i64 x.c,.int .i64 x.k,.int .i64 x.n,.slice i.pR x.regs.length i.cR,.slice i.pA x.args.length i.cA],46)]:=hWD.1;have hlt0:B3<w3.heap.size:=(hW3.get 0 rfl).lt;have hlt1:B2<w3.heap.size:=(hW3.get 1 rfl).lt;have hsz:w.heap.size≤w3.heap.size:=hW3.bel.size;clear hFD hWD hE hF6 h4;clear hW3;refine St.go hF7 ?_;clear hF7 a7;refine s1k 1 inf1Ints hW7 rfl rfl rfl rfl rfl rfl ?_;intro w8 hKp hW8;replace hNN5:=Lay.keep1 hNN5 hKp hlt1;replace hNN8:=Lay.keep1 hNN8 hKp hlt1;clear hKp hW7;refine QeK trivial rfl rfl ?_;refine s1k 1 inf1Ints hW8 rfl rfl rfl rfl rfl rfl ?_;intro w9 hKp hW9;replace hNN5:=Lay.keep1 hNN5 hKp hlt1;replace hNN8:=Lay.keep1 hNN8 hKp hlt1;clear hKp hW8;refine St.nil fun a10 h10=>?_;refine hK5 _ _ ?_;refine wp_seq_k fun K11 hK11=>?_;refine rg h10 fun ops=>?_;clear h10 a10;refine sS 1 8 Tryz.underlying46 rfl infIns hW9 trivial rfl rfl rfl rfl ?_;refine sTk 0 hW9 rfl rfl infIns rfl rfl rfl ?_;intro w12 hKp hW12;replace hNN5:=Lay.keep1 hNN5 hKp hlt0;replace hNN8:=Lay.keep1 hNN8 hKp hlt0;clear hKp hW9;refine St.nil fun a13 h13=>?_;refine hK11 _ _ ?_;refine wp_ret ?_;with_reducible repeat first | refine Qd ?_ | refine Qc ?_
  exact QN 0 h13 hW12 rfl rfl rfl Tryz.underlying46 rfl infIns ⟨⟨pN5,cN5,pN8,cN8⟩,rfl,⟨Lay.mono hNN5 (fun k hk _=>Nat.le_trans hsz hk),Lay.mono hNN8 (fun k hk _=>Nat.le_trans hsz hk),hbd⟩,hW12.bel⟩
theorem Qfj (x:MEnd) (i:EP) (w:World) (h:EIn w All x i) (b1:x.yes.regs.length≤4294967296) (b2:x.yes.args.length≤4294967296) (b3:x.no.regs.length≤4294967296) (b4:x.no.args.length≤4294967296) (b5:x.args.length≤4294967296) :
 Calls Tryz.prog 138 #[.agg #[.int .i64 x.op,.int .i64 x.a,.int .i64 x.yes.block,.slice i.pYR x.yes.regs.length i.cYR,.slice i.pYA x.yes.args.length i.cYA,.int .i64 x.no.block,.slice i.pNR x.no.regs.length i.cNR,.slice i.pNA x.no.args.length i.cNA,.slice i.pA x.args.length i.cA]] w fun e w'=>∃ i':EP,e=.returned (.agg #[.int .i64 x.op,.int .i64 x.a,.int .i64 x.yes.block,.slice i'.pYR x.yes.regs.length i'.cYR,.slice i'.pYA x.yes.args.length i'.cYA,.int .i64 x.no.block,.slice i'.pNR x.no.regs.length i'.cNR,.slice i'.pNA x.no.args.length i'.cNA,.slice i'.pA x.args.length i'.cA])∧EIn w' (Zm w.heap.size) x i'∧Below w.heap.size w w':=by
 have hy:Hid _:=h.yes;have hn:Hid _:=h.no;have hg:Hid _:=h.args;have hbd:=h.bnd;clear h;refine Qs (n:=16) Tryz.func138 rfl rfl rfl ?_;intro a hF;have hW:=Wd.start w;replace hF:Fr 16 a [(0,.agg #[.int .i64 x.op,.int .i64 x.a,.int .i64 x.yes.block,.slice i.pYR x.yes.regs.length i.cYR,.slice i.pYA x.yes.args.length i.cYA,.int .i64 x.no.block,.slice i.pNR x.no.regs.length i.cNR,.slice i.pNA x.no.args.length i.cNA,.slice i.pA x.args.length i.cA])]:=hF;refine wp_seq_k fun K1 hK1=>?_;refine rg hF fun ops=>?_;clear hF a;refine sB hW trivial rfl rfl ?_;clear hW;intro w2 B2 hW2 hN;clear hN;refine Qlg hW2 trivial rfl ?_;clear hW2;intro w3 B3 hW3 hN;clear hN;refine St.nil fun a4 h4=>?_;refine hK1 _ _ ?_;refine wp_seq_k fun K5 hK5=>?_;have hF6:Fr 16 a4 [(0,.agg #[.int .i64 x.op,.int .i64 x.a,.int .i64 x.yes.block,.slice i.pYR x.yes.regs.length i.cYR,.slice i.pYA x.yes.args.length i.cYA,.int .i64 x.no.block,.slice i.pNR x.no.regs.length i.cNR,.slice i.pNA x.no.args.length i.cNA,.slice i.pA x.args.length i.cA]),(1,.pointer (some ⟨B2,0,none⟩)),(2,.pointer (some ⟨B3,0,none⟩))]:=(h4.keep (h4.keep (h4.keep h4.nil (t:=2) rfl) (t:=1) rfl) (t:=0) rfl);have ho1:a4.tmps.getD 1 undef=.pointer (some ⟨B2,0,none⟩):=h4.sl 1 _ rfl;refine QgN 10 ([(1,fun v _=>v=.pointer (some ⟨B2,0,none⟩)),(3,fun v _=>v=.pointer (some ⟨B2,2,none⟩)),(4,fun v _=>v=.agg #[.int .i64 x.yes.block,.slice i.pYR x.yes.regs.length i.cYR,.slice i.pYA x.yes.args.length i.cYA]),(5,fun v w'=>∃ p c p2 c2,v=.agg #[.int .i64 x.yes.block,.slice p x.yes.regs.length c,.slice p2 x.yes.args.length c2]∧Qc6 w' (Zm w3.heap.size) x.yes p c p2 c2),(6,fun v _=>v=.pointer (some ⟨B2,5,none⟩)),(7,fun v _=>v=.agg #[.int .i64 x.no.block,.slice i.pNR x.no.regs.length i.cNR,.slice i.pNA x.no.args.length i.cNA]),(8,fun v w'=>∃ p c p2 c2,v=.agg #[.int .i64 x.no.block,.slice p x.no.regs.length c,.slice p2 x.no.args.length c2]∧Qc6 w' (Zm w3.heap.size) x.no p c p2 c2),(9,fun v _=>v=.pointer (some ⟨B2,8,none⟩)),(10,fun v _=>v=.slice i.pA x.args.length i.cA),(11,fun v w'=>∃ p c,v=.slice p x.args.length c∧intsL.In w' (Zm w3.heap.size) x.args [.slice p x.args.length c]),(12,fun v _=>v=.pointer (some ⟨B2,2,none⟩))]:QaH) (fun w'=>Wd w w' [(B3,#[.int .i64 0,.int .i64 0,.int .i64 0,.slice none 0 0,.slice none 0 0,.int .i64 0,.slice none 0 0,.slice none 0 0,.slice none 0 0],58),(B2,#[.int .i64 x.op,.int .i64 x.a,.int .i64 x.yes.block,.slice i.pYR x.yes.regs.length i.cYR,.slice i.pYA x.yes.args.length i.cYA,.int .i64 x.no.block,.slice i.pNR x.no.regs.length i.cNR,.slice i.pNA x.no.args.length i.cNA,.slice i.pA x.args.length i.cA],58)]∧Below w3.heap.size w3 w') (fun w w'=>Below w.heap.size w w') (outs:=[1]) (gs:=[]) (bs:=[true,true,true,true,true,true,true,true,true,true]) (by kernel_rfl) hF6 rfl (by kernel_rfl) (by kernel_rfl) ?hR ?hG ⟨hW3.drewN 1,Q1 (m:=1) (Below.refl _ _)⟩ ⟨ho1,trivial⟩ ?hA ?hend
 case hR=>exact⟨fun _ _ _ _ h=>h,fun _ _ _ _ h=>h,fun _ _ _ _ h=>h,fun v w w' hr h=>by obtain⟨p,c,p2,c2,h1,h2⟩:=h;exact⟨p,c,p2,c2,h1,⟨Lay.below h2.regs hr,Lay.below h2.args hr,h2.bnd⟩⟩,fun _ _ _ _ h=>h,fun _ _ _ _ h=>h,fun v w w' hr h=>by obtain⟨p,c,p2,c2,h1,h2⟩:=h;exact⟨p,c,p2,c2,h1,⟨Lay.below h2.regs hr,Lay.below h2.args hr,h2.bnd⟩⟩,fun _ _ _ _ h=>h,fun _ _ _ _ h=>h,fun v w w' hr h=>by obtain⟨p,c,h1,h2⟩:=h;exact⟨p,c,h1,Lay.below h2 hr⟩,fun _ _ _ _ h=>h,trivial⟩
 case hG=>exact trivial
 case hA =>
  refine⟨fun a w hW hk K hK=>?_,?_⟩
  ·obtain⟨k0,-⟩:=hk
   have k0:a.tmps.getD 1 undef=.pointer (some ⟨B2,0,none⟩):=k0;go_simp;exact hK _ _ (Below.refl _ _) hW rfl
  refine⟨fun a w hW hk K hK=>?_,?_⟩
  ·obtain⟨k0,-⟩:=hk
   have k0:a.tmps.getD 3 undef=.pointer (some ⟨B2,2,none⟩):=k0;have c2:w.cell? ⟨B2,2,none⟩=some (.int .i64 x.yes.block):=Qb (hW.1.get 1 rfl) 2 _ rfl;have c3:w.cell? ⟨B2,3,none⟩=some (.slice i.pYR x.yes.regs.length i.cYR):=Qb (hW.1.get 1 rfl) 3 _ rfl;have c4:w.cell? ⟨B2,4,none⟩=some (.slice i.pYA x.yes.args.length i.cYA):=Qb (hW.1.get 1 rfl) 4 _ rfl;go_simp;exact hK _ _ (Below.refl _ _) hW rfl
  refine⟨fun a w hW hk K hK=>?_,?_⟩
  ·obtain⟨k0,-⟩:=hk
   have k0:a.tmps.getD 4 undef=.agg #[.int .i64 x.yes.block,.slice i.pYR x.yes.regs.length i.cYR,.slice i.pYA x.yes.args.length i.cYA]:=k0;go_simp;refine(Qdn _ _ _ _ _ w ⟨Lay.below hy.out.regs hW.1.bel,Lay.below hy.out.args hW.1.bel,hy.out.bnd⟩ b1 b2).mono ?_
   rintro e w9 ⟨p9,c9,p8,c8,rfl,h9,hb⟩;exact hK _ _ hb ⟨hW.1.below hb,Below.andThen hW.2 hb⟩ ⟨p9,c9,p8,c8,rfl,⟨Lay.mono h9.regs (fun k hk _=>Nat.le_trans hW.2.size hk),Lay.mono h9.args (fun k hk _=>Nat.le_trans hW.2.size hk),h9.bnd⟩⟩
  refine⟨fun a w hW hk K hK=>?_,?_⟩
  ·obtain⟨k0,-⟩:=hk
   have k0:a.tmps.getD 1 undef=.pointer (some ⟨B2,0,none⟩):=k0;go_simp;exact hK _ _ (Below.refl _ _) hW rfl
  refine⟨fun a w hW hk K hK=>?_,?_⟩
  ·obtain⟨k0,-⟩:=hk
   have k0:a.tmps.getD 6 undef=.pointer (some ⟨B2,5,none⟩):=k0;have c5:w.cell? ⟨B2,5,none⟩=some (.int .i64 x.no.block):=Qb (hW.1.get 1 rfl) 5 _ rfl;have c6:w.cell? ⟨B2,6,none⟩=some (.slice i.pNR x.no.regs.length i.cNR):=Qb (hW.1.get 1 rfl) 6 _ rfl;have c7:w.cell? ⟨B2,7,none⟩=some (.slice i.pNA x.no.args.length i.cNA):=Qb (hW.1.get 1 rfl) 7 _ rfl;go_simp;exact hK _ _ (Below.refl _ _) hW rfl
  refine⟨fun a w hW hk K hK=>?_,?_⟩
  ·obtain⟨k0,-⟩:=hk
   have k0:a.tmps.getD 7 undef=.agg #[.int .i64 x.no.block,.slice i.pNR x.no.regs.length i.cNR,.slice i.pNA x.no.args.length i.cNA]:=k0;go_simp;refine(Qdn _ _ _ _ _ w ⟨Lay.below hn.out.regs hW.1.bel,Lay.below hn.out.args hW.1.bel,hn.out.bnd⟩ b3 b4).mono ?_
   rintro e w9 ⟨p9,c9,p8,c8,rfl,h9,hb⟩;exact hK _ _ hb ⟨hW.1.below hb,Below.andThen hW.2 hb⟩ ⟨p9,c9,p8,c8,rfl,⟨Lay.mono h9.regs (fun k hk _=>Nat.le_trans hW.2.size hk),Lay.mono h9.args (fun k hk _=>Nat.le_trans hW.2.size hk),h9.bnd⟩⟩
  refine⟨fun a w hW hk K hK=>?_,?_⟩
  ·obtain⟨k0,-⟩:=hk
   have k0:a.tmps.getD 1 undef=.pointer (some ⟨B2,0,none⟩):=k0;go_simp;exact hK _ _ (Below.refl _ _) hW rfl
  refine⟨fun a w hW hk K hK=>?_,?_⟩
  ·obtain⟨k0,-⟩:=hk
   have k0:a.tmps.getD 9 undef=.pointer (some ⟨B2,8,none⟩):=k0;have c8:w.cell? ⟨B2,8,none⟩=some (.slice i.pA x.args.length i.cA):=Qb (hW.1.get 1 rfl) 8 _ rfl;go_simp;exact hK _ _ (Below.refl _ _) hW rfl
  refine⟨fun a w hW hk K hK=>?_,?_⟩
  ·obtain⟨k0,-⟩:=hk
   have k0:a.tmps.getD 10 undef=.slice i.pA x.args.length i.cA:=k0;go_simp;refine(ZO _ _ _ w (Lay.below hg.out hW.1.bel) b5).mono ?_
   rintro e w9 ⟨p9,c9,rfl,h9,hb⟩;exact hK _ _ hb ⟨hW.1.below hb,Below.andThen hW.2 hb⟩ ⟨p9,c9,rfl,Lay.mono h9 (fun k hk _=>Nat.le_trans hW.2.size hk)⟩
  refine⟨fun a w hW hk K hK=>?_,?_⟩
  ·obtain⟨k0,-⟩:=hk
   have k0:a.tmps.getD 1 undef=.pointer (some ⟨B2,0,none⟩):=k0;go_simp;exact hK _ _ (Below.refl _ _) hW rfl
  trivial
 case hend =>
  intro ops a7 w7 hWD hE hFD;obtain⟨pN5r,cN5r,pN5a,cN5a,hd5,⟨hN5r,hN5a,hbdN5⟩⟩:=hE 5 rfl
  replace hd5:a7.tmps.getD 5 undef=.agg #[.int .i64 x.yes.block,.slice pN5r x.yes.regs.length cN5r,.slice pN5a x.yes.args.length cN5a]:=hd5;obtain⟨pN8r,cN8r,pN8a,cN8a,hd8,⟨hN8r,hN8a,hbdN8⟩⟩:=hE 8 rfl
  replace hd8:a7.tmps.getD 8 undef=.agg #[.int .i64 x.no.block,.slice pN8r x.no.regs.length cN8r,.slice pN8a x.no.args.length cN8a]:=hd8;obtain⟨pN11,cN11,hd11,hNN11⟩:=hE 11 rfl
  replace hd11:a7.tmps.getD 11 undef=.slice pN11 x.args.length cN11:=hd11;have hd12:a7.tmps.getD 12 undef=.pointer (some ⟨B2,2,none⟩):=hE 12 rfl;have hF7:Fr 16 a7 [(12,.pointer (some ⟨B2,2,none⟩)),(11,.slice pN11 x.args.length cN11),(8,.agg #[.int .i64 x.no.block,.slice pN8r x.no.regs.length cN8r,.slice pN8a x.no.args.length cN8a]),(5,.agg #[.int .i64 x.yes.block,.slice pN5r x.yes.regs.length cN5r,.slice pN5a x.yes.args.length cN5a]),(0,.agg #[.int .i64 x.op,.int .i64 x.a,.int .i64 x.yes.block,.slice i.pYR x.yes.regs.length i.cYR,.slice i.pYA x.yes.args.length i.cYA,.int .i64 x.no.block,.slice i.pNR x.no.regs.length i.cNR,.slice i.pNA x.no.args.length i.cNA,.slice i.pA x.args.length i.cA]),(1,.pointer (some ⟨B2,0,none⟩)),(2,.pointer (some ⟨B3,0,none⟩))]:=((((hFD.cons hd5).cons hd8).cons hd11).cons hd12);clear hd5 hd8 hd11 hd12;have hW7:Wd w w7 [(B3,#[.int .i64 0,.int .i64 0,.int .i64 0,.slice none 0 0,.slice none 0 0,.int .i64 0,.slice none 0 0,.slice none 0 0,.slice none 0 0],58),(B2,#[.int .i64 x.op,.int .i64 x.a,.int .i64 x.yes.block,.slice i.pYR x.yes.regs.length i.cYR,.slice i.pYA x.yes.args.length i.cYA,.int .i64 x.no.block,.slice i.pNR x.no.regs.length i.cNR,.slice i.pNA x.no.args.length i.cNA,.slice i.pA x.args.length i.cA],58)]:=hWD.1;have hlt0:B3<w3.heap.size:=(hW3.get 0 rfl).lt;have hlt1:B2<w3.heap.size:=(hW3.get 1 rfl).lt;have hsz:w.heap.size≤w3.heap.size:=hW3.bel.size;clear hFD hWD hE hF6 h4;clear hW3;refine St.go hF7 ?_;clear hF7 a7;refine sTk 1 hW7 rfl rfl infTo rfl rfl rfl ?_;intro w8 hKp hW8;replace hNN11:=Lay.keep1 hNN11 hKp hlt1;replace hN5r:=Lay.keep1 hN5r hKp hlt1;replace hN5a:=Lay.keep1 hN5a hKp hlt1;replace hN8r:=Lay.keep1 hN8r hKp hlt1;replace hN8a:=Lay.keep1 hN8a hKp hlt1;clear hKp hW7;refine QkL trivial rfl rfl ?_;refine sTk 1 hW8 rfl rfl infTo rfl rfl rfl ?_;intro w9 hKp hW9;replace hNN11:=Lay.keep1 hNN11 hKp hlt1;replace hN5r:=Lay.keep1 hN5r hKp hlt1;replace hN5a:=Lay.keep1 hN5a hKp hlt1;replace hN8r:=Lay.keep1 hN8r hKp hlt1;replace hN8a:=Lay.keep1 hN8a hKp hlt1;clear hKp hW8;refine Qk1 trivial rfl rfl ?_;refine s1k 1 inf1Ints hW9 rfl rfl rfl rfl rfl rfl ?_;intro w10 hKp hW10;replace hNN11:=Lay.keep1 hNN11 hKp hlt1;replace hN5r:=Lay.keep1 hN5r hKp hlt1;replace hN5a:=Lay.keep1 hN5a hKp hlt1;replace hN8r:=Lay.keep1 hN8r hKp hlt1;replace hN8a:=Lay.keep1 hN8a hKp hlt1;clear hKp hW9;refine St.nil fun a11 h11=>?_;refine hK5 _ _ ?_;refine wp_seq_k fun K12 hK12=>?_;refine rg h11 fun ops=>?_;clear h11 a11;refine sS 1 9 Tryz.underlying58 rfl infEnd hW10 trivial rfl rfl rfl rfl ?_;refine sTk 0 hW10 rfl rfl infEnd rfl rfl rfl ?_;intro w13 hKp hW13;replace hNN11:=Lay.keep1 hNN11 hKp hlt0;replace hN5r:=Lay.keep1 hN5r hKp hlt0;replace hN5a:=Lay.keep1 hN5a hKp hlt0;replace hN8r:=Lay.keep1 hN8r hKp hlt0;replace hN8a:=Lay.keep1 hN8a hKp hlt0;clear hKp hW10;refine St.nil fun a14 h14=>?_;refine hK12 _ _ ?_;refine wp_ret ?_;with_reducible repeat first | refine Qd ?_ | refine Qc ?_
  exact QN 0 h14 hW13 rfl rfl rfl Tryz.underlying58 rfl infEnd ⟨⟨pN5r,cN5r,pN5a,cN5a,pN8r,cN8r,pN8a,cN8a,pN11,cN11⟩,rfl,⟨⟨Lay.mono hN5r (fun k hk _=>Nat.le_trans hsz hk),Lay.mono hN5a (fun k hk _=>Nat.le_trans hsz hk),hy.out.bnd⟩,⟨Lay.mono hN8r (fun k hk _=>Nat.le_trans hsz hk),Lay.mono hN8a (fun k hk _=>Nat.le_trans hsz hk),hn.out.bnd⟩,Lay.mono hNN11 (fun k hk _=>Nat.le_trans hsz hk),hbd⟩,hW13.bel⟩
theorem Qdy (x:MTo) (pR pA:Option Addr) (cR cA:Nat) (w:World) (h:Qc6 w All x pR cR pA cA) (b1:x.regs.length≤4294967296) (b2:x.args.length≤4294967296) :
 Calls Tryz.prog 39 #[.agg #[.int .i64 x.block,.slice pR x.regs.length cR,.slice pA x.args.length cA]] w fun e w'=>∃ p c p2 c2,e=.returned (.agg #[.int .i64 x.block,.slice p x.regs.length c,.slice p2 x.args.length c2])∧Qc6 w' (Zm w.heap.size) x p c p2 c2∧Below w.heap.size w w':=by
 have hr:Hid _:=h.regs;have hg:Hid _:=h.args;have hbd:=h.bnd;clear h;refine Qs (n:=12) Tryz.func39 rfl rfl rfl ?_;intro a hF;have hW:=Wd.start w;replace hF:Fr 12 a [(0,.agg #[.int .i64 x.block,.slice pR x.regs.length cR,.slice pA x.args.length cA])]:=hF;refine wp_seq_k fun K1 hK1=>?_;refine rg hF fun ops=>?_;clear hF a;refine sB hW trivial rfl rfl ?_;clear hW;intro w2 B2 hW2 hN;clear hN;refine Qlx hW2 trivial rfl ?_;clear hW2;intro w3 B3 hW3 hN;clear hN;refine St.nil fun a4 h4=>?_;refine hK1 _ _ ?_;refine wp_seq_k fun K5 hK5=>?_;have hF6:Fr 12 a4 [(0,.agg #[.int .i64 x.block,.slice pR x.regs.length cR,.slice pA x.args.length cA]),(1,.pointer (some ⟨B2,0,none⟩)),(2,.pointer (some ⟨B3,0,none⟩))]:=(h4.keep (h4.keep (h4.keep h4.nil (t:=2) rfl) (t:=1) rfl) (t:=0) rfl);have ho1:a4.tmps.getD 1 undef=.pointer (some ⟨B2,0,none⟩):=h4.sl 1 _ rfl;refine ZZ 9 ([(1,fun v _=>v=.pointer (some ⟨B2,0,none⟩)),(3,fun v _=>v=.pointer (some ⟨B2,0,none⟩)),(4,fun v _=>v=.int .i64 x.block),(5,fun v _=>v=.pointer (some ⟨B2,1,none⟩)),(6,fun v _=>v=.slice pR x.regs.length cR),(7,fun v w'=>∃ p c,v=.slice p x.regs.length c∧intsL.In w' (Zm w3.heap.size) x.regs [.slice p x.regs.length c]),(8,fun v _=>v=.pointer (some ⟨B2,2,none⟩)),(9,fun v _=>v=.slice pA x.args.length cA),(10,fun v w'=>∃ p c,v=.slice p x.args.length c∧intsL.In w' (Zm w3.heap.size) x.args [.slice p x.args.length c]),(11,fun v w'=>∃ p c p2 c2,v=.agg #[.int .i64 x.block,.slice p x.regs.length c,.slice p2 x.args.length c2]∧Qc6 w' (Zm w3.heap.size) x p c p2 c2)]:QaH) (fun w'=>Wd w w' [(B3,#[.int .i64 0,.slice none 0 0,.slice none 0 0],56),(B2,#[.int .i64 x.block,.slice pR x.regs.length cR,.slice pA x.args.length cA],56)]∧Below w3.heap.size w3 w') (fun w w'=>Below w.heap.size w w') (outs:=[1]) (gs:=[]) (bs:=[true,true,true,true,true,true,true,true,true]) (by kernel_rfl) hF6 rfl (by kernel_rfl) (by kernel_rfl) ?hR ?hG ⟨hW3.drewN 1,Q1 (m:=1) (Below.refl _ _)⟩ ⟨ho1,trivial⟩ ?hA ?hend
 case hR=>exact⟨fun _ _ _ _ h=>h,fun _ _ _ _ h=>h,fun _ _ _ _ h=>h,fun _ _ _ _ h=>h,fun _ _ _ _ h=>h,fun v w w' hr h=>by obtain⟨p,c,h1,h2⟩:=h;exact⟨p,c,h1,Lay.below h2 hr⟩,fun _ _ _ _ h=>h,fun _ _ _ _ h=>h,fun v w w' hr h=>by obtain⟨p,c,h1,h2⟩:=h;exact⟨p,c,h1,Lay.below h2 hr⟩,fun v w w' hr h=>by obtain⟨p,c,p2,c2,h1,h2⟩:=h;exact⟨p,c,p2,c2,h1,⟨Lay.below h2.regs hr,Lay.below h2.args hr,h2.bnd⟩⟩,trivial⟩
 case hG=>exact trivial
 case hA =>
  refine⟨fun a w hW hk K hK=>?_,?_⟩
  ·obtain⟨k0,-⟩:=hk
   have k0:a.tmps.getD 1 undef=.pointer (some ⟨B2,0,none⟩):=k0;go_simp;exact hK _ _ (Below.refl _ _) hW rfl
  refine⟨fun a w hW hk K hK=>?_,?_⟩
  ·obtain⟨k0,-⟩:=hk
   have k0:a.tmps.getD 3 undef=.pointer (some ⟨B2,0,none⟩):=k0;have c0:w.cell? ⟨B2,0,none⟩=some (.int .i64 x.block):=Qb (hW.1.get 1 rfl) 0 _ rfl;go_simp;exact hK _ _ (Below.refl _ _) hW rfl
  refine⟨fun a w hW hk K hK=>?_,?_⟩
  ·obtain⟨k0,-⟩:=hk
   have k0:a.tmps.getD 1 undef=.pointer (some ⟨B2,0,none⟩):=k0;go_simp;exact hK _ _ (Below.refl _ _) hW rfl
  refine⟨fun a w hW hk K hK=>?_,?_⟩
  ·obtain⟨k0,-⟩:=hk
   have k0:a.tmps.getD 5 undef=.pointer (some ⟨B2,1,none⟩):=k0;have c1:w.cell? ⟨B2,1,none⟩=some (.slice pR x.regs.length cR):=Qb (hW.1.get 1 rfl) 1 _ rfl;go_simp;exact hK _ _ (Below.refl _ _) hW rfl
  refine⟨fun a w hW hk K hK=>?_,?_⟩
  ·obtain⟨k0,-⟩:=hk
   have k0:a.tmps.getD 6 undef=.slice pR x.regs.length cR:=k0;go_simp;refine(QaM _ _ _ w (Lay.below hr.out hW.1.bel) b1).mono ?_
   rintro e w9 ⟨p9,c9,rfl,h9,hb⟩;exact hK _ _ hb ⟨hW.1.below hb,Below.andThen hW.2 hb⟩ ⟨p9,c9,rfl,Lay.mono h9 (fun k hk _=>Nat.le_trans hW.2.size hk)⟩
  refine⟨fun a w hW hk K hK=>?_,?_⟩
  ·obtain⟨k0,-⟩:=hk
   have k0:a.tmps.getD 1 undef=.pointer (some ⟨B2,0,none⟩):=k0;go_simp;exact hK _ _ (Below.refl _ _) hW rfl
  refine⟨fun a w hW hk K hK=>?_,?_⟩
  ·obtain⟨k0,-⟩:=hk
   have k0:a.tmps.getD 8 undef=.pointer (some ⟨B2,2,none⟩):=k0;have c2:w.cell? ⟨B2,2,none⟩=some (.slice pA x.args.length cA):=Qb (hW.1.get 1 rfl) 2 _ rfl;go_simp;exact hK _ _ (Below.refl _ _) hW rfl
  refine⟨fun a w hW hk K hK=>?_,?_⟩
  ·obtain⟨k0,-⟩:=hk
   have k0:a.tmps.getD 9 undef=.slice pA x.args.length cA:=k0;go_simp;refine(QaM _ _ _ w (Lay.below hg.out hW.1.bel) b2).mono ?_
   rintro e w9 ⟨p9,c9,rfl,h9,hb⟩;exact hK _ _ hb ⟨hW.1.below hb,Below.andThen hW.2 hb⟩ ⟨p9,c9,rfl,Lay.mono h9 (fun k hk _=>Nat.le_trans hW.2.size hk)⟩
  refine⟨fun a w hW hk K hK=>?_,?_⟩
  ·obtain⟨k0,k1,k2,-⟩:=hk
   have k0:a.tmps[4]?.getD undef=.int .i64 x.block:=by rw[← Array.getD_eq_getD_getElem?];exact k0
   obtain⟨pN7,cN7,k1,hNN7⟩:=k1
   have k1:a.tmps[7]?.getD undef=.slice pN7 x.regs.length cN7:=by rw[← Array.getD_eq_getD_getElem?];exact k1
   obtain⟨pN10,cN10,k2,hNN10⟩:=k2
   have k2:a.tmps[10]?.getD undef=.slice pN10 x.args.length cN10:=by rw[← Array.getD_eq_getD_getElem?];exact k2
   go_simp;exact hK _ _ (Below.refl _ _) hW ⟨_,_,_,_,rfl,⟨hNN7,hNN10,hbd⟩⟩
  trivial
 case hend =>
  intro ops a7 w7 hWD hE hFD;obtain⟨pr,cr,pa,ca,hd11,⟨hTr,hTa,-⟩⟩:=hE 11 rfl
  replace hd11:a7.tmps.getD 11 undef=.agg #[.int .i64 x.block,.slice pr x.regs.length cr,.slice pa x.args.length ca]:=hd11;have hF7:Fr 12 a7 [(11,.agg #[.int .i64 x.block,.slice pr x.regs.length cr,.slice pa x.args.length ca]),(0,.agg #[.int .i64 x.block,.slice pR x.regs.length cR,.slice pA x.args.length cA]),(1,.pointer (some ⟨B2,0,none⟩)),(2,.pointer (some ⟨B3,0,none⟩))]:=(hFD.cons hd11);clear hd11;have hW7:Wd w w7 [(B3,#[.int .i64 0,.slice none 0 0,.slice none 0 0],56),(B2,#[.int .i64 x.block,.slice pR x.regs.length cR,.slice pA x.args.length cA],56)]:=hWD.1;have hlt0:B3<w3.heap.size:=(hW3.get 0 rfl).lt;have hlt1:B2<w3.heap.size:=(hW3.get 1 rfl).lt;have hsz:w.heap.size≤w3.heap.size:=hW3.bel.size;clear hFD hWD hE hF6 h4;clear hW3;refine St.go hF7 ?_;clear hF7 a7;refine sTk 0 hW7 rfl rfl infTo rfl rfl rfl ?_;intro w8 hKp hW8;replace hTr:=Lay.keep1 hTr hKp hlt0;replace hTa:=Lay.keep1 hTa hKp hlt0;clear hKp hW7;refine St.nil fun a9 h9=>?_;refine hK5 _ _ ?_;refine wp_ret ?_;with_reducible repeat first | refine Qd ?_ | refine Qc ?_
  exact QN 0 h9 hW8 rfl rfl rfl Tryz.underlying56 rfl infTo ⟨_,_,_,_,rfl,⟨Lay.mono hTr (fun k hk _=>Nat.le_trans hsz hk),Lay.mono hTa (fun k hk _=>Nat.le_trans hsz hk),hbd⟩,hW8.bel⟩
structure TP where
 p:Option Addr
 c:Nat
structure YIn (w:World) (O:Nat→Prop){n:Nat}(x:TT n) (i:TP):Prop where
 tree:TIn w O x i.p
 ok:x.ok
section
variable {w w':World}{O O':Nat→Prop}{n:Nat}{x:TT n}{i:TP}
theorem YIn.keep (hb:∀ k,O k→k<w.heap.size→w'.heap[k]?=w.heap[k]?) (hl:∀ k,O k→k<w.heap.size→O' k) (h:YIn w O x i):YIn w' O' x i:=⟨h.tree.keep hb hl,h.ok⟩
theorem YIn.below (h:YIn w O x i) (hbl:Below w.heap.size w w'):YIn w' O x i:=h.keep (fun k _ hk=>hbl.block k hk) (fun _ h _=>h)
theorem YIn.mono (h:YIn w O x i) (hl:∀ k,O k→k<w.heap.size→O' k):YIn w O' x i:=h.keep (fun k _ _=>rfl) hl
theorem Qhx (h:YIn w O x i):(Lay.tt n).In w O x [.int .i64 x.kind,.int .i64 x.r,.slice i.p x.len i.c]:=⟨i.p,i.c,rfl,h.tree,h.ok⟩
theorem Qkt {l:List (TT n)}{p:Option Addr}{m c:Nat}(h:(Lay.tt n).list.In w O l [.slice p m c]){q:Nat}(hx:l[q]?=some x) :
 ∃ (g o:Nat) (i:TP),p=some ⟨g,o,none⟩∧w.rangeAt g (o+q*3) [.int .i64 x.kind,.int .i64 x.r,.slice i.p x.len i.c]∧YIn w O x i:=by
 obtain⟨g,o,ds,e,h1,h2,h3,h4⟩:=Lay.list_at h hx
 obtain⟨a,c,rfl,h5,h6⟩:=h4
 have hs:(Lay.tt n).size=3:=rfl;rw[hs] at h3
 exact⟨g,o,⟨a,c⟩,e,fun j v hj=>(h3 j (by have:=(List.getElem?_eq_some_iff.1 hj).1;simpa using this)).trans hj,h5,h6⟩
end
theorem Wd.of {w0 w:World}(b:Below w0.heap.size w0 w):Wd w0 w []:=⟨b,fun i x h=>by simp at h,fun i x h=>by simp at h,fun i j x y h=>by simp at h⟩
section
variable {α:Type}{A:Lay α}{e:TypeId}{w w':World}{lo g n q s:Nat}{l:List α}{xs:List Value}{x:α}{ds:List Value}
theorem ZB.start {m:Nat}(hs:A.size=s) (h:w.ownsRow lo e s (.slice (some ⟨g,0,none⟩) m m) m xs):ZB A e w lo (.slice (some ⟨g,0,none⟩) 0 m) (l.take 0) []:=by
 subst hs;obtain⟨hl,h2⟩:=h
 rcases h2 with ⟨h',_⟩|⟨g',cap',cur,h',hb,hg,hnc,hcm,hcs,htake⟩
 ·simp at h'
 ·simp only[Value.slice.injEq,Option.some.injEq,Addr.mk.injEq,and_true,true_and] at h'
  obtain⟨rfl,rfl⟩:=h'
  exact⟨⟨by simp,.inr ⟨g,m,cur,rfl,hb,hg,Nat.zero_le _,hcm,hcs,by simp⟩⟩,fun i x h=>by simp at h⟩
theorem ZB.blk (h:ZB A e w lo (.slice (some ⟨g,0,none⟩) q n) l xs) (hs:A.size=s):∃ c,Blk w g c e∧c.size=n*s:=by
 subst hs;obtain⟨hl,h2⟩:=h.own
 rcases h2 with ⟨h',_⟩|⟨g',cap',cur,h',hb,hg,hnc,hcm,hcs,htake⟩
 ·simp at h'
 ·simp only[Value.slice.injEq,Option.some.injEq,Addr.mk.injEq,and_true,true_and] at h'
  obtain⟨rfl,-,rfl⟩:=h'
  exact⟨cur,hg,hcs⟩
theorem ZB.fillq (h:ZB A e w lo (.slice (some ⟨g,0,none⟩) q n) (l.take q) xs) (hs:A.size=s) (hq:q<l.length) (hn:l.length=n) (hx0:l[q]?=some x) (hx:A.In w (fun k=>lo≤k∧k≠g) x ds) (hw:w'=w.setCells g (0+q*s) ds) :
 ∃ xs',ZB A e w' lo (.slice (some ⟨g,0,none⟩) (q+1) n) (l.take (q+1)) xs':=by
 subst hs hw;have hlq:(l.take q).length=q:=by simp;omega
 have T:l.take (q+1)=l.take q++[x]:=by rw[List.take_add_one,hx0];rfl
 have:=ZB.fill (l:=l.take q) (g:=g) (n:=n) (by rw[hlq];exact h) hx (by omega)
 rw[hlq] at this
 rw[T,Nat.zero_add]
 exact⟨_,this⟩
theorem ZB.done (h:ZB A e w lo (.slice (some ⟨g,0,none⟩) q n) (l.take q) xs) (hq:q=l.length):A.list.In w (Zm lo) l [.slice (some ⟨g,0,none⟩) l.length n]:=by
 have:=h.lay
 subst hq;rw[List.take_length] at this
 exact this
end
section
variable {n:Nat}{a:Act}{L:List (Tmp × Value)}{w0 w:World}{Bs:List (Nat × Array Value × TypeId)}{Q:Exit→Act→World→Prop}{ops:Array Oper}{rest:List Oper}{t:Tmp}{u v:Value}{ty ty2 ty3:TypeId}{pos:String}{aft:Array Edge}{gd:Option (Nat × Bool)}{x y:Operand}
theorem Qjk {g j:Nat}{c:Array Value}{bt:TypeId}{cells:List Value}(hW:Wd w0 w Bs) (hg:w0.heap.size≤g) (hne:∀ (i:Nat) x,Bs[i]?=some x→x.1≠g) (hB:Blk w g c bt)
 (hx:Qi L x=some (.pointer (some ⟨g,j,none⟩))) (hy:Qi L y=some (.agg cells.toArray)) (hi:(Tryz.prog.info? ty2).map (·.size)=some cells.length) (h1:cells.all (·.oneCell')=true) (hs:j+cells.length≤c.size)
 (k:∀ w',Wd w0 w' Bs→w'=w.setCells g j cells→St n L ops Q rest w'):St n L ops Q (⟨none,.store ty2 x y,ty,pos,aft,none⟩::rest) w :=
 QlE hW hg hne hB hx hy hi h1 hs (fun h=>k _ h rfl)
end
theorem underIns:Tryz.prog.underlying 25=some (.slice 46):=by kernel_rfl
theorem underBlocks:Tryz.prog.underlying 38=some (.slice 60):=by kernel_rfl
theorem underFuncs:Tryz.prog.underlying 22=some (.slice 40):=by kernel_rfl
theorem Qa3 {t:TypeId}{z:Value}{s b:Nat}(h:(Tryz.prog.info? t).map (fun i=>(i.zero,i.size,i.bytes))=some (some z,s,b)):∃ i,Tryz.prog.info? t=some i∧i.zero=some z∧i.size=s∧i.bytes=b:=by
 obtain⟨i,hi,e⟩:=Option.map_eq_some_iff.1 h
 simp only[Prod.mk.injEq] at e
 exact⟨i,hi,e⟩
theorem infoIns:(Tryz.prog.info? 46).map (fun i=>(i.zero,i.size,i.bytes))=some (some (.agg #[.int .i64 0,.int .i64 0,.int .i64 0,.int .i64 0,.int .i64 0,.int .i64 0,.slice none 0 0,.slice none 0 0]),8,96):=by kernel_rfl
theorem infoBlock:(Tryz.prog.info? 60).map (fun i=>(i.zero,i.size,i.bytes))=some (some (.agg #[.int .i64 0,.slice none 0 0,.slice none 0 0,.int .i64 0,.int .i64 0,.int .i64 0,.slice none 0 0,.slice none 0 0,.int .i64 0,.slice none 0 0,.slice none 0 0,.slice none 0 0]),12,208):=by kernel_rfl
theorem infoFunc:(Tryz.prog.info? 40).map (fun i=>(i.zero,i.size,i.bytes))=some (some (.agg #[.int .i64 0,.slice none 0 0,.slice none 0 0,.slice none 0 0]),4,80):=by kernel_rfl
theorem Z1 {n:Nat}(l:List (TT n)) (p:Option Addr) (c:Nat) (w:World) (hl0:(Lay.tt n).list.In w All l [.slice p l.length c]) (hb0:l.length≤4294967296)
 (hf:∀ x∈l,∀ (i:TP) (w:World),YIn w All x i→Calls Tryz.prog 102 #[.agg #[.int .i64 x.kind,.int .i64 x.r,.slice i.p x.len i.c]] w fun e w'=>∃ v,e=.returned v∧(∃ i':TP,v=.agg #[.int .i64 x.kind,.int .i64 x.r,.slice i'.p x.len i'.c]∧YIn w' (Zm w.heap.size) x i')∧Below w.heap.size w w') :
 Calls Tryz.prog 101 #[.slice p l.length c,.func (.func 102) #[] #[]] w fun e w'=>Qc3 (Lay.tt n) w w' l e:=by
 have hl:Hid _:=hl0;clear hl0;obtain⟨i0,hi,hz0,hz1,hz2⟩:=infoT_parts
 refine Qs (n:=26) Tryz.func101 rfl rfl rfl ?_;intro a hF;have hW:=Wd.start w;replace hF:Fr 26 a [(0,.slice p l.length c),(1,.func (.func 102) #[] #[])]:=hF;refine wp_seq_k fun K1 hK1=>?_;refine rg hF fun ops=>?_;clear hF a;refine sa trivial rfl rfl ?_;refine St.nil fun a2 h2=>?_;refine hK1 _ _ ?_;refine wp_seq_k fun K3 hK3=>?_;refine rg h2 fun ops=>?_;clear h2 a2;refine sm trivial rfl rfl ?_;refine QaN trivial rfl rfl ?_;refine Qjh underTs hi hz0 hz1 (by rw[hz2];omega) (by unfold maxLen;omega) hW trivial rfl rfl ?_;rintro w4 g xs0 rfl hO hbl hW4;clear hW;refine sa trivial rfl rfl ?_;refine St.nil fun a5 h5=>?_;refine hK3 _ _ ?_;refine wp_seq_k fun K6 hK6=>?_;refine wp_seq_k fun K7 hK7=>?_;refine rg h5 fun ops=>?_;clear h5 a5;refine sm trivial rfl rfl ?_;refine QaN trivial rfl rfl ?_;refine sm trivial rfl rfl ?_;refine St.nil fun a8 h8=>?_;refine hK7 _ _ ?_;refine wp_block ?_;refine ZJ (fun r a w'=>∃ q:Nat,q≤l.length∧r=l.length - q∧(∃ xs,ZB (Lay.tt n) 70 w' w.heap.size (.slice (some ⟨w.heap.size,0,none⟩) q l.length) (l.take q) xs)∧Fr 26 a [(1,.func (.func 102) #[] #[]),(0,.slice p l.length c),(4,.slice none 0 0),(5,.slice (some ⟨w.heap.size,0,none⟩) l.length l.length),(11,.slice p l.length c),(12,.int .i64 (l.length:Int)),(13,.int .i64 (q:Int))]∧Below w.heap.size w w') l.length ⟨0,Nat.zero_le _,rfl,⟨_,ZB.start rfl hO⟩,(h8.keep (h8.keep (h8.keep (h8.keep (h8.keep (h8.keep (h8.keep h8.nil (t:=13) rfl) (t:=12) rfl) (t:=11) rfl) (t:=5) rfl) (t:=4) rfl) (t:=0) rfl) (t:=1) rfl),hbl⟩ ?_;clear h8 hW4 hO hbl;rintro r a9 w9 ⟨q,hq,hr,⟨xs,hA0⟩,hF9,hB0⟩ KL hKL;have hA:Hid _:=hA0;have hB:Hid _:=hB0;clear hA0 hB0;have hW9:=Wd.start w9;refine wp_seq_k fun K10 hK10=>?_;refine rg hF9 fun ops=>?_;clear hF9 a9;refine slt trivial rfl rfl rfl ?_;refine St.nil fun a11 h11=>?_;refine hK10 _ _ ?_;refine wp_seq_k fun K12 hK12=>?_;refine Qt (t:=14) h11 rfl (fun hb=>?_) (fun hb=>?_)
 ·have hlt1:q<l.length:=by have:=of_decide_eq_true hb;omega
  clear hb;obtain⟨x,hx1⟩:∃ v9,(l)[q]?=some v9:=⟨_,List.getElem?_eq_getElem hlt1⟩
  obtain⟨g1,o1,y1,hp1,E1,In1⟩:=Qkt (Lay.below hl.out hB.out) hx1
  replace In1:Hid _:=In1;replace hp1:Hid _:=hp1;replace hx1:Hid _:=hx1;replace E1:Hid _:=E1;have hpg:Hid ((some ⟨w.heap.size,0,none⟩:Option Addr)=some ⟨w.heap.size,0,none⟩):=rfl;refine wp_skip ?_;refine hK12 _ _ ?_;refine wp_seq_k fun K13 hK13=>?_;refine wp_block ?_;refine wp_seq_k fun K14 hK14=>?_;refine rg h11 fun ops=>?_;clear h11 a11;refine sm trivial rfl rfl ?_;refine QcN hp1.out hlt1 trivial rfl rfl rfl ?_;refine sSE Tryz.underlying70 rfl (QK E1.out hW9.bel) infType trivial rfl rfl ?_;refine QhO hW9 trivial rfl ?_;clear hW9;intro w15 B15 hW15 hN;clear hN;refine sa trivial rfl rfl ?_;refine sT 0 hW15 rfl rfl infType rfl rfl rfl ?_;clear hW15;intro w16 hW16;refine St.nil fun a17 h17=>?_;refine hK14 _ _ ?_;refine rg h17 fun ops=>?_;clear h17 a17;refine sm trivial rfl rfl ?_;refine sm trivial rfl rfl ?_;refine sm trivial rfl rfl ?_;refine sS 0 3 Tryz.underlying70 rfl infType hW16 trivial rfl rfl rfl rfl ?_;refine Qjm cf102 hW16 (hf x (List.mem_of_getElem? hx1.out) y1 _ (In1.out.below hW16.bel)) trivial rfl rfl rfl ?_;rintro v9 w18 ⟨i2,rfl,hI⟩ hb9 hW18;refine QcN hpg.out hlt1 trivial rfl rfl rfl ?_;intro a19 h19;refine St.go h19 ?_;clear h19 a19;have hA2:=hA.out.below hW18.bel;obtain⟨cg,hBk,hcs⟩:=hA2.blk (s:=3) rfl
  have hb8:Below w.heap.size w w18:=Below.andThen hB.out hW18.bel;have hs1:w9.heap.size≤w16.heap.size:=hW16.bel.size;have hs2:w.heap.size≤w9.heap.size:=hB.out.size;have hs3:=(hA.out.lo_le (g:=w.heap.size) rfl).2;have hI2:(Lay.tt n).In w18 (fun k=>w.heap.size≤k∧k≠w.heap.size) x [.int .i64 x.kind,.int .i64 x.r,.slice i2.p x.len i2.c]:=Lay.mono (Qhx hI) (fun k hk _=>⟨by have:_≤k:=hk;omega,by have:_≤k:=hk;omega⟩);clear hW18 hW16;refine Qjk (Wd.of hb8) (Nat.le_refl _) (fun i x h=>by simp at h) hBk rfl rfl infType rfl (by simp only[List.length_cons,List.length_nil];omega) ?_;intro w20 hW20 hwe;obtain⟨xs2,hA3⟩:=hA2.fillq (s:=3) (w':=w20) rfl hlt1 rfl hx1.out hI2 hwe
  clear hwe hA2 hBk hcs hI2;refine St.nil fun a21 h21=>?_;refine hK13 _ _ ?_;refine rg h21 fun ops=>?_;clear h21 a21;refine sad (by omega) trivial rfl rfl rfl ?_;refine sm trivial rfl rfl ?_;refine St.nil fun a22 h22=>?_;exact hKL _ _ (l.length - (q+1)) (by omega) ⟨q+1,by omega,rfl,⟨_,hA3⟩,(h22.keep (h22.keep (h22.keep (h22.keep (h22.keep (h22.keep (h22.keep h22.nil (t:=13) rfl) (t:=12) rfl) (t:=11) rfl) (t:=5) rfl) (t:=4) rfl) (t:=0) rfl) (t:=1) rfl),hW20.bel⟩
 have hge:q=l.length:=by have:=of_decide_eq_false hb;omega
 clear hb;refine wp_exit ?_;refine hK6 _ _ ?_;refine wp_seq_k fun K23 hK23=>?_;refine rg h11 fun ops=>?_;clear h11 a11;refine sm trivial rfl rfl ?_;refine sa trivial rfl rfl ?_;refine St.nil fun a24 h24=>?_;refine hK23 _ _ ?_;refine wp_ret ?_;with_reducible repeat first | refine Qd ?_ | refine Qc ?_
 exact Qp (t:=4) h24 rfl rfl ⟨_,_,rfl,hA.out.done hge,hB.out⟩
theorem QfE (l:List (Qx)) (p:Option Addr) (c:Nat) (w:World) (hl0:insL.list.In w All l [.slice p l.length c]) (hb0:l.length≤4294967296)
 (hf:∀ x∈l,∀ (i:IP) (w:World),IIn w All x i→Calls Tryz.prog 137 #[.agg #[.int .i64 x.op,.int .i64 x.a,.int .i64 x.b,.int .i64 x.c,.int .i64 x.k,.int .i64 x.n,.slice i.pR x.regs.length i.cR,.slice i.pA x.args.length i.cA]] w fun e w'=>∃ v,e=.returned v∧(∃ i':IP,v=.agg #[.int .i64 x.op,.int .i64 x.a,.int .i64 x.b,.int .i64 x.c,.int .i64 x.k,.int .i64 x.n,.slice i'.pR x.regs.length i'.cR,.slice i'.pA x.args.length i'.cA]∧IIn w' (Zm w.heap.size) x i')∧Below w.heap.size w w') :
 Calls Tryz.prog 136 #[.slice p l.length c,.func (.func 137) #[] #[]] w fun e w'=>Qc3 insL w w' l e:=by
 have hl:Hid _:=hl0;clear hl0;obtain⟨i0,hi,hz0,hz1,hz2⟩:=(Qa3 infoIns)
 refine Qs (n:=26) Tryz.func136 rfl rfl rfl ?_;intro a hF;have hW:=Wd.start w;replace hF:Fr 26 a [(0,.slice p l.length c),(1,.func (.func 137) #[] #[])]:=hF;refine wp_seq_k fun K1 hK1=>?_;refine rg hF fun ops=>?_;clear hF a;refine sa trivial rfl rfl ?_;refine St.nil fun a2 h2=>?_;refine hK1 _ _ ?_;refine wp_seq_k fun K3 hK3=>?_;refine rg h2 fun ops=>?_;clear h2 a2;refine sm trivial rfl rfl ?_;refine Qdk trivial rfl rfl ?_;refine Qjh underIns hi hz0 hz1 (by rw[hz2];omega) (by unfold maxLen;omega) hW trivial rfl rfl ?_;rintro w4 g xs0 rfl hO hbl hW4;clear hW;refine sa trivial rfl rfl ?_;refine St.nil fun a5 h5=>?_;refine hK3 _ _ ?_;refine wp_seq_k fun K6 hK6=>?_;refine wp_seq_k fun K7 hK7=>?_;refine rg h5 fun ops=>?_;clear h5 a5;refine sm trivial rfl rfl ?_;refine Qdk trivial rfl rfl ?_;refine sm trivial rfl rfl ?_;refine St.nil fun a8 h8=>?_;refine hK7 _ _ ?_;refine wp_block ?_;refine ZJ (fun r a w'=>∃ q:Nat,q≤l.length∧r=l.length - q∧(∃ xs,ZB insL 46 w' w.heap.size (.slice (some ⟨w.heap.size,0,none⟩) q l.length) (l.take q) xs)∧Fr 26 a [(1,.func (.func 137) #[] #[]),(0,.slice p l.length c),(4,.slice none 0 0),(5,.slice (some ⟨w.heap.size,0,none⟩) l.length l.length),(11,.slice p l.length c),(12,.int .i64 (l.length:Int)),(13,.int .i64 (q:Int))]∧Below w.heap.size w w') l.length ⟨0,Nat.zero_le _,rfl,⟨_,ZB.start rfl hO⟩,(h8.keep (h8.keep (h8.keep (h8.keep (h8.keep (h8.keep (h8.keep h8.nil (t:=13) rfl) (t:=12) rfl) (t:=11) rfl) (t:=5) rfl) (t:=4) rfl) (t:=0) rfl) (t:=1) rfl),hbl⟩ ?_;clear h8 hW4 hO hbl;rintro r a9 w9 ⟨q,hq,hr,⟨xs,hA0⟩,hF9,hB0⟩ KL hKL;have hA:Hid _:=hA0;have hB:Hid _:=hB0;clear hA0 hB0;have hW9:=Wd.start w9;refine wp_seq_k fun K10 hK10=>?_;refine rg hF9 fun ops=>?_;clear hF9 a9;refine slt trivial rfl rfl rfl ?_;refine St.nil fun a11 h11=>?_;refine hK10 _ _ ?_;refine wp_seq_k fun K12 hK12=>?_;refine Qt (t:=14) h11 rfl (fun hb=>?_) (fun hb=>?_)
 ·have hlt1:q<l.length:=by have:=of_decide_eq_true hb;omega
  clear hb;obtain⟨x,hx1⟩:∃ v9,(l)[q]?=some v9:=⟨_,List.getElem?_eq_getElem hlt1⟩
  obtain⟨g1,o1,i1,hp1,E1,In1⟩:=Qeq (Lay.below hl.out hB.out) hx1
  replace In1:Hid _:=In1;replace hp1:Hid _:=hp1;replace hx1:Hid _:=hx1;replace E1:Hid _:=E1;have hpg:Hid ((some ⟨w.heap.size,0,none⟩:Option Addr)=some ⟨w.heap.size,0,none⟩):=rfl;refine wp_skip ?_;refine hK12 _ _ ?_;refine wp_seq_k fun K13 hK13=>?_;refine wp_block ?_;refine wp_seq_k fun K14 hK14=>?_;refine rg h11 fun ops=>?_;clear h11 a11;refine sm trivial rfl rfl ?_;refine Qgg hp1.out hlt1 trivial rfl rfl rfl ?_;refine sSE Tryz.underlying46 rfl (QK E1.out hW9.bel) infIns trivial rfl rfl ?_;refine Qi2 hW9 trivial rfl ?_;clear hW9;intro w15 B15 hW15 hN;clear hN;refine sa trivial rfl rfl ?_;refine sT 0 hW15 rfl rfl infIns rfl rfl rfl ?_;clear hW15;intro w16 hW16;refine St.nil fun a17 h17=>?_;refine hK14 _ _ ?_;refine rg h17 fun ops=>?_;clear h17 a17;refine sm trivial rfl rfl ?_;refine sm trivial rfl rfl ?_;refine sm trivial rfl rfl ?_;refine sS 0 8 Tryz.underlying46 rfl infIns hW16 trivial rfl rfl rfl rfl ?_;refine Qjm cf137 hW16 (hf x (List.mem_of_getElem? hx1.out) i1 _ (In1.out.below hW16.bel)) trivial rfl rfl rfl ?_;rintro v9 w18 ⟨i2,rfl,hI⟩ hb9 hW18;refine Qgg hpg.out hlt1 trivial rfl rfl rfl ?_;intro a19 h19;refine St.go h19 ?_;clear h19 a19;have hA2:=hA.out.below hW18.bel;obtain⟨cg,hBk,hcs⟩:=hA2.blk (s:=8) rfl
  have hb8:Below w.heap.size w w18:=Below.andThen hB.out hW18.bel;have hs1:w9.heap.size≤w16.heap.size:=hW16.bel.size;have hs2:w.heap.size≤w9.heap.size:=hB.out.size;have hs3:=(hA.out.lo_le (g:=w.heap.size) rfl).2;have hI2:insL.In w18 (fun k=>w.heap.size≤k∧k≠w.heap.size) x [.int .i64 x.op,.int .i64 x.a,.int .i64 x.b,.int .i64 x.c,.int .i64 x.k,.int .i64 x.n,.slice i2.pR x.regs.length i2.cR,.slice i2.pA x.args.length i2.cA]:=Lay.mono (Qjf hI) (fun k hk _=>⟨by have:_≤k:=hk;omega,by have:_≤k:=hk;omega⟩);clear hW18 hW16;refine Qjk (Wd.of hb8) (Nat.le_refl _) (fun i x h=>by simp at h) hBk rfl rfl infIns rfl (by simp only[List.length_cons,List.length_nil];omega) ?_;intro w20 hW20 hwe;obtain⟨xs2,hA3⟩:=hA2.fillq (s:=8) (w':=w20) rfl hlt1 rfl hx1.out hI2 hwe
  clear hwe hA2 hBk hcs hI2;refine St.nil fun a21 h21=>?_;refine hK13 _ _ ?_;refine rg h21 fun ops=>?_;clear h21 a21;refine sad (by omega) trivial rfl rfl rfl ?_;refine sm trivial rfl rfl ?_;refine St.nil fun a22 h22=>?_;exact hKL _ _ (l.length - (q+1)) (by omega) ⟨q+1,by omega,rfl,⟨_,hA3⟩,(h22.keep (h22.keep (h22.keep (h22.keep (h22.keep (h22.keep (h22.keep h22.nil (t:=13) rfl) (t:=12) rfl) (t:=11) rfl) (t:=5) rfl) (t:=4) rfl) (t:=0) rfl) (t:=1) rfl),hW20.bel⟩
 have hge:q=l.length:=by have:=of_decide_eq_false hb;omega
 clear hb;refine wp_exit ?_;refine hK6 _ _ ?_;refine wp_seq_k fun K23 hK23=>?_;refine rg h11 fun ops=>?_;clear h11 a11;refine sm trivial rfl rfl ?_;refine sa trivial rfl rfl ?_;refine St.nil fun a24 h24=>?_;refine hK23 _ _ ?_;refine wp_ret ?_;with_reducible repeat first | refine Qd ?_ | refine Qc ?_
 exact Qp (t:=4) h24 rfl rfl ⟨_,_,rfl,hA.out.done hge,hB.out⟩
theorem Qd1 {n:Nat}(l:List (Qe n)) (p:Option Addr) (c:Nat) (w:World) (hl0:(Zc n).list.In w All l [.slice p l.length c]) (hb0:l.length≤4294967296)
 (hf:∀ x∈l,∀ (i:BP) (w:World),BIn w All x i→Calls Tryz.prog 104 #[.agg #[.int .i64 x.regs,.slice i.pP x.params.length i.cP,.slice i.pC x.code.length i.cC,.int .i64 x.fin.op,.int .i64 x.fin.a,.int .i64 x.fin.yes.block,.slice i.e.pYR x.fin.yes.regs.length i.e.cYR,.slice i.e.pYA x.fin.yes.args.length i.e.cYA,.int .i64 x.fin.no.block,.slice i.e.pNR x.fin.no.regs.length i.e.cNR,.slice i.e.pNA x.fin.no.args.length i.e.cNA,.slice i.e.pA x.fin.args.length i.e.cA]] w fun e w'=>∃ v,e=.returned v∧(∃ i':BP,v=.agg #[.int .i64 x.regs,.slice i'.pP x.params.length i'.cP,.slice i'.pC x.code.length i'.cC,.int .i64 x.fin.op,.int .i64 x.fin.a,.int .i64 x.fin.yes.block,.slice i'.e.pYR x.fin.yes.regs.length i'.e.cYR,.slice i'.e.pYA x.fin.yes.args.length i'.e.cYA,.int .i64 x.fin.no.block,.slice i'.e.pNR x.fin.no.regs.length i'.e.cNR,.slice i'.e.pNA x.fin.no.args.length i'.e.cNA,.slice i'.e.pA x.fin.args.length i'.e.cA]∧BIn w' (Zm w.heap.size) x i')∧Below w.heap.size w w') :
 Calls Tryz.prog 103 #[.slice p l.length c,.func (.func 104) #[] #[]] w fun e w'=>Qc3 (Zc n) w w' l e:=by
 have hl:Hid _:=hl0;clear hl0;obtain⟨i0,hi,hz0,hz1,hz2⟩:=(Qa3 infoBlock)
 refine Qs (n:=26) Tryz.func103 rfl rfl rfl ?_;intro a hF;have hW:=Wd.start w;replace hF:Fr 26 a [(0,.slice p l.length c),(1,.func (.func 104) #[] #[])]:=hF;refine wp_seq_k fun K1 hK1=>?_;refine rg hF fun ops=>?_;clear hF a;refine sa trivial rfl rfl ?_;refine St.nil fun a2 h2=>?_;refine hK1 _ _ ?_;refine wp_seq_k fun K3 hK3=>?_;refine rg h2 fun ops=>?_;clear h2 a2;refine sm trivial rfl rfl ?_;refine Qco trivial rfl rfl ?_;refine Qjh underBlocks hi hz0 hz1 (by rw[hz2];omega) (by unfold maxLen;omega) hW trivial rfl rfl ?_;rintro w4 g xs0 rfl hO hbl hW4;clear hW;refine sa trivial rfl rfl ?_;refine St.nil fun a5 h5=>?_;refine hK3 _ _ ?_;refine wp_seq_k fun K6 hK6=>?_;refine wp_seq_k fun K7 hK7=>?_;refine rg h5 fun ops=>?_;clear h5 a5;refine sm trivial rfl rfl ?_;refine Qco trivial rfl rfl ?_;refine sm trivial rfl rfl ?_;refine St.nil fun a8 h8=>?_;refine hK7 _ _ ?_;refine wp_block ?_;refine ZJ (fun r a w'=>∃ q:Nat,q≤l.length∧r=l.length - q∧(∃ xs,ZB (Zc n) 60 w' w.heap.size (.slice (some ⟨w.heap.size,0,none⟩) q l.length) (l.take q) xs)∧Fr 26 a [(1,.func (.func 104) #[] #[]),(0,.slice p l.length c),(4,.slice none 0 0),(5,.slice (some ⟨w.heap.size,0,none⟩) l.length l.length),(11,.slice p l.length c),(12,.int .i64 (l.length:Int)),(13,.int .i64 (q:Int))]∧Below w.heap.size w w') l.length ⟨0,Nat.zero_le _,rfl,⟨_,ZB.start rfl hO⟩,(h8.keep (h8.keep (h8.keep (h8.keep (h8.keep (h8.keep (h8.keep h8.nil (t:=13) rfl) (t:=12) rfl) (t:=11) rfl) (t:=5) rfl) (t:=4) rfl) (t:=0) rfl) (t:=1) rfl),hbl⟩ ?_;clear h8 hW4 hO hbl;rintro r a9 w9 ⟨q,hq,hr,⟨xs,hA0⟩,hF9,hB0⟩ KL hKL;have hA:Hid _:=hA0;have hB:Hid _:=hB0;clear hA0 hB0;have hW9:=Wd.start w9;refine wp_seq_k fun K10 hK10=>?_;refine rg hF9 fun ops=>?_;clear hF9 a9;refine slt trivial rfl rfl rfl ?_;refine St.nil fun a11 h11=>?_;refine hK10 _ _ ?_;refine wp_seq_k fun K12 hK12=>?_;refine Qt (t:=14) h11 rfl (fun hb=>?_) (fun hb=>?_)
 ·have hlt1:q<l.length:=by have:=of_decide_eq_true hb;omega
  clear hb;obtain⟨x,hx1⟩:∃ v9,(l)[q]?=some v9:=⟨_,List.getElem?_eq_getElem hlt1⟩
  obtain⟨g1,o1,b1,hp1,E1,In1⟩:=Qbr (Lay.below hl.out hB.out) hx1
  replace In1:Hid _:=In1;replace hp1:Hid _:=hp1;replace hx1:Hid _:=hx1;replace E1:Hid _:=E1;have hpg:Hid ((some ⟨w.heap.size,0,none⟩:Option Addr)=some ⟨w.heap.size,0,none⟩):=rfl;refine wp_skip ?_;refine hK12 _ _ ?_;refine wp_seq_k fun K13 hK13=>?_;refine wp_block ?_;refine wp_seq_k fun K14 hK14=>?_;refine rg h11 fun ops=>?_;clear h11 a11;refine sm trivial rfl rfl ?_;refine Qcq hp1.out hlt1 trivial rfl rfl rfl ?_;refine sSE Tryz.underlying60 rfl (QK E1.out hW9.bel) infBlock trivial rfl rfl ?_;refine QdP hW9 trivial rfl ?_;clear hW9;intro w15 B15 hW15 hN;clear hN;refine sa trivial rfl rfl ?_;refine sT 0 hW15 rfl rfl infBlock rfl rfl rfl ?_;clear hW15;intro w16 hW16;refine St.nil fun a17 h17=>?_;refine hK14 _ _ ?_;refine rg h17 fun ops=>?_;clear h17 a17;refine sm trivial rfl rfl ?_;refine sm trivial rfl rfl ?_;refine sm trivial rfl rfl ?_;refine sS 0 12 Tryz.underlying60 rfl infBlock hW16 trivial rfl rfl rfl rfl ?_;refine Qjm cf104 hW16 (hf x (List.mem_of_getElem? hx1.out) b1 _ (In1.out.below hW16.bel)) trivial rfl rfl rfl ?_;rintro v9 w18 ⟨i2,rfl,hI⟩ hb9 hW18;refine Qcq hpg.out hlt1 trivial rfl rfl rfl ?_;intro a19 h19;refine St.go h19 ?_;clear h19 a19;have hA2:=hA.out.below hW18.bel;obtain⟨cg,hBk,hcs⟩:=hA2.blk (s:=12) rfl
  have hb8:Below w.heap.size w w18:=Below.andThen hB.out hW18.bel;have hs1:w9.heap.size≤w16.heap.size:=hW16.bel.size;have hs2:w.heap.size≤w9.heap.size:=hB.out.size;have hs3:=(hA.out.lo_le (g:=w.heap.size) rfl).2;have hI2:(Zc n).In w18 (fun k=>w.heap.size≤k∧k≠w.heap.size) x [.int .i64 x.regs,.slice i2.pP x.params.length i2.cP,.slice i2.pC x.code.length i2.cC,.int .i64 x.fin.op,.int .i64 x.fin.a,.int .i64 x.fin.yes.block,.slice i2.e.pYR x.fin.yes.regs.length i2.e.cYR,.slice i2.e.pYA x.fin.yes.args.length i2.e.cYA,.int .i64 x.fin.no.block,.slice i2.e.pNR x.fin.no.regs.length i2.e.cNR,.slice i2.e.pNA x.fin.no.args.length i2.e.cNA,.slice i2.e.pA x.fin.args.length i2.e.cA]:=Lay.mono (Qgz hI) (fun k hk _=>⟨by have:_≤k:=hk;omega,by have:_≤k:=hk;omega⟩);clear hW18 hW16;refine Qjk (Wd.of hb8) (Nat.le_refl _) (fun i x h=>by simp at h) hBk rfl rfl infBlock rfl (by simp only[List.length_cons,List.length_nil];omega) ?_;intro w20 hW20 hwe;obtain⟨xs2,hA3⟩:=hA2.fillq (s:=12) (w':=w20) rfl hlt1 rfl hx1.out hI2 hwe
  clear hwe hA2 hBk hcs hI2;refine St.nil fun a21 h21=>?_;refine hK13 _ _ ?_;refine rg h21 fun ops=>?_;clear h21 a21;refine sad (by omega) trivial rfl rfl rfl ?_;refine sm trivial rfl rfl ?_;refine St.nil fun a22 h22=>?_;exact hKL _ _ (l.length - (q+1)) (by omega) ⟨q+1,by omega,rfl,⟨_,hA3⟩,(h22.keep (h22.keep (h22.keep (h22.keep (h22.keep (h22.keep (h22.keep h22.nil (t:=13) rfl) (t:=12) rfl) (t:=11) rfl) (t:=5) rfl) (t:=4) rfl) (t:=0) rfl) (t:=1) rfl),hW20.bel⟩
 have hge:q=l.length:=by have:=of_decide_eq_false hb;omega
 clear hb;refine wp_exit ?_;refine hK6 _ _ ?_;refine wp_seq_k fun K23 hK23=>?_;refine rg h11 fun ops=>?_;clear h11 a11;refine sm trivial rfl rfl ?_;refine sa trivial rfl rfl ?_;refine St.nil fun a24 h24=>?_;refine hK23 _ _ ?_;refine wp_ret ?_;with_reducible repeat first | refine Qd ?_ | refine Qc ?_
 exact Qp (t:=4) h24 rfl rfl ⟨_,_,rfl,hA.out.done hge,hB.out⟩
theorem Qe1 {n:Nat}(l:List (Qf n)) (p:Option Addr) (c:Nat) (w:World) (hl0:(ZC n).list.In w All l [.slice p l.length c]) (hb0:l.length≤4294967296)
 (hf:∀ x∈l,∀ (i:FP) (w:World),FIn w All x i→Calls Tryz.prog 59 #[.agg #[.int .i64 x.regs,.slice i.pP x.params.length i.cP,.slice i.pR x.results.length i.cR,.slice i.pB x.blocks.length i.cB]] w fun e w'=>∃ v,e=.returned v∧(∃ i':FP,v=.agg #[.int .i64 x.regs,.slice i'.pP x.params.length i'.cP,.slice i'.pR x.results.length i'.cR,.slice i'.pB x.blocks.length i'.cB]∧FIn w' (Zm w.heap.size) x i')∧Below w.heap.size w w') :
 Calls Tryz.prog 58 #[.slice p l.length c,.func (.func 59) #[] #[]] w fun e w'=>Qc3 (ZC n) w w' l e:=by
 have hl:Hid _:=hl0;clear hl0;obtain⟨i0,hi,hz0,hz1,hz2⟩:=(Qa3 infoFunc)
 refine Qs (n:=26) Tryz.func58 rfl rfl rfl ?_;intro a hF;have hW:=Wd.start w;replace hF:Fr 26 a [(0,.slice p l.length c),(1,.func (.func 59) #[] #[])]:=hF;refine wp_seq_k fun K1 hK1=>?_;refine rg hF fun ops=>?_;clear hF a;refine sa trivial rfl rfl ?_;refine St.nil fun a2 h2=>?_;refine hK1 _ _ ?_;refine wp_seq_k fun K3 hK3=>?_;refine rg h2 fun ops=>?_;clear h2 a2;refine sm trivial rfl rfl ?_;refine Qbj trivial rfl rfl ?_;refine Qjh underFuncs hi hz0 hz1 (by rw[hz2];omega) (by unfold maxLen;omega) hW trivial rfl rfl ?_;rintro w4 g xs0 rfl hO hbl hW4;clear hW;refine sa trivial rfl rfl ?_;refine St.nil fun a5 h5=>?_;refine hK3 _ _ ?_;refine wp_seq_k fun K6 hK6=>?_;refine wp_seq_k fun K7 hK7=>?_;refine rg h5 fun ops=>?_;clear h5 a5;refine sm trivial rfl rfl ?_;refine Qbj trivial rfl rfl ?_;refine sm trivial rfl rfl ?_;refine St.nil fun a8 h8=>?_;refine hK7 _ _ ?_;refine wp_block ?_;refine ZJ (fun r a w'=>∃ q:Nat,q≤l.length∧r=l.length - q∧(∃ xs,ZB (ZC n) 40 w' w.heap.size (.slice (some ⟨w.heap.size,0,none⟩) q l.length) (l.take q) xs)∧Fr 26 a [(1,.func (.func 59) #[] #[]),(0,.slice p l.length c),(4,.slice none 0 0),(5,.slice (some ⟨w.heap.size,0,none⟩) l.length l.length),(11,.slice p l.length c),(12,.int .i64 (l.length:Int)),(13,.int .i64 (q:Int))]∧Below w.heap.size w w') l.length ⟨0,Nat.zero_le _,rfl,⟨_,ZB.start rfl hO⟩,(h8.keep (h8.keep (h8.keep (h8.keep (h8.keep (h8.keep (h8.keep h8.nil (t:=13) rfl) (t:=12) rfl) (t:=11) rfl) (t:=5) rfl) (t:=4) rfl) (t:=0) rfl) (t:=1) rfl),hbl⟩ ?_;clear h8 hW4 hO hbl;rintro r a9 w9 ⟨q,hq,hr,⟨xs,hA0⟩,hF9,hB0⟩ KL hKL;have hA:Hid _:=hA0;have hB:Hid _:=hB0;clear hA0 hB0;have hW9:=Wd.start w9;refine wp_seq_k fun K10 hK10=>?_;refine rg hF9 fun ops=>?_;clear hF9 a9;refine slt trivial rfl rfl rfl ?_;refine St.nil fun a11 h11=>?_;refine hK10 _ _ ?_;refine wp_seq_k fun K12 hK12=>?_;refine Qt (t:=14) h11 rfl (fun hb=>?_) (fun hb=>?_)
 ·have hlt1:q<l.length:=by have:=of_decide_eq_true hb;omega
  clear hb;obtain⟨x,hx1⟩:∃ v9,(l)[q]?=some v9:=⟨_,List.getElem?_eq_getElem hlt1⟩
  obtain⟨g1,o1,f1,hp1,E1,In1⟩:=Qbk (Lay.below hl.out hB.out) hx1
  replace In1:Hid _:=In1;replace hp1:Hid _:=hp1;replace hx1:Hid _:=hx1;replace E1:Hid _:=E1;have hpg:Hid ((some ⟨w.heap.size,0,none⟩:Option Addr)=some ⟨w.heap.size,0,none⟩):=rfl;refine wp_skip ?_;refine hK12 _ _ ?_;refine wp_seq_k fun K13 hK13=>?_;refine wp_block ?_;refine wp_seq_k fun K14 hK14=>?_;refine rg h11 fun ops=>?_;clear h11 a11;refine sm trivial rfl rfl ?_;refine Qd8 hp1.out hlt1 trivial rfl rfl rfl ?_;refine sSE Tryz.underlying40 rfl (QK E1.out hW9.bel) infFunc trivial rfl rfl ?_;refine QfP hW9 trivial rfl ?_;clear hW9;intro w15 B15 hW15 hN;clear hN;refine sa trivial rfl rfl ?_;refine sT 0 hW15 rfl rfl infFunc rfl rfl rfl ?_;clear hW15;intro w16 hW16;refine St.nil fun a17 h17=>?_;refine hK14 _ _ ?_;refine rg h17 fun ops=>?_;clear h17 a17;refine sm trivial rfl rfl ?_;refine sm trivial rfl rfl ?_;refine sm trivial rfl rfl ?_;refine sS 0 4 Tryz.underlying40 rfl infFunc hW16 trivial rfl rfl rfl rfl ?_;refine Qjm cf59 hW16 (hf x (List.mem_of_getElem? hx1.out) f1 _ (In1.out.below hW16.bel)) trivial rfl rfl rfl ?_;rintro v9 w18 ⟨i2,rfl,hI⟩ hb9 hW18;refine Qd8 hpg.out hlt1 trivial rfl rfl rfl ?_;intro a19 h19;refine St.go h19 ?_;clear h19 a19;have hA2:=hA.out.below hW18.bel;obtain⟨cg,hBk,hcs⟩:=hA2.blk (s:=4) rfl
  have hb8:Below w.heap.size w w18:=Below.andThen hB.out hW18.bel;have hs1:w9.heap.size≤w16.heap.size:=hW16.bel.size;have hs2:w.heap.size≤w9.heap.size:=hB.out.size;have hs3:=(hA.out.lo_le (g:=w.heap.size) rfl).2;have hI2:(ZC n).In w18 (fun k=>w.heap.size≤k∧k≠w.heap.size) x [.int .i64 x.regs,.slice i2.pP x.params.length i2.cP,.slice i2.pR x.results.length i2.cR,.slice i2.pB x.blocks.length i2.cB]:=Lay.mono (QhH hI) (fun k hk _=>⟨by have:_≤k:=hk;omega,by have:_≤k:=hk;omega⟩);clear hW18 hW16;refine Qjk (Wd.of hb8) (Nat.le_refl _) (fun i x h=>by simp at h) hBk rfl rfl infFunc rfl (by simp only[List.length_cons,List.length_nil];omega) ?_;intro w20 hW20 hwe;obtain⟨xs2,hA3⟩:=hA2.fillq (s:=4) (w':=w20) rfl hlt1 rfl hx1.out hI2 hwe
  clear hwe hA2 hBk hcs hI2;refine St.nil fun a21 h21=>?_;refine hK13 _ _ ?_;refine rg h21 fun ops=>?_;clear h21 a21;refine sad (by omega) trivial rfl rfl rfl ?_;refine sm trivial rfl rfl ?_;refine St.nil fun a22 h22=>?_;exact hKL _ _ (l.length - (q+1)) (by omega) ⟨q+1,by omega,rfl,⟨_,hA3⟩,(h22.keep (h22.keep (h22.keep (h22.keep (h22.keep (h22.keep (h22.keep h22.nil (t:=13) rfl) (t:=12) rfl) (t:=11) rfl) (t:=5) rfl) (t:=4) rfl) (t:=0) rfl) (t:=1) rfl),hW20.bel⟩
 have hge:q=l.length:=by have:=of_decide_eq_false hb;omega
 clear hb;refine wp_exit ?_;refine hK6 _ _ ?_;refine wp_seq_k fun K23 hK23=>?_;refine rg h11 fun ops=>?_;clear h11 a11;refine sm trivial rfl rfl ?_;refine sa trivial rfl rfl ?_;refine St.nil fun a24 h24=>?_;refine hK23 _ _ ?_;refine wp_ret ?_;with_reducible repeat first | refine Qd ?_ | refine Qc ?_
 exact Qp (t:=4) h24 rfl rfl ⟨_,_,rfl,hA.out.done hge,hB.out⟩
end Go.Proofs.YtacjnejckfhpoaeGreat
