import Derived.Test.YtacjnejckfhpoadGreatP2
set_option maxHeartbeats 16000000
set_option maxRecDepth 100000
namespace Go.Proofs.YtacjnejckfhpoadGreat
open Go.ChangeShapes Go.WideShapes Go.ChangeAt Go.RowKit _root_.Go.Proofs.Tryz
set_option linter.unusedSimpArgs false
set_option linter.unusedVariables false
def QO (w:World) (O:Nat→Prop) (c:Int) (l:List (TT 6)) (e:Ending) (w':World):Prop :=
 ∃ a n d,e=.returned (.tuple #[.slice a n d,.int .i64 c])∧(c=0→n=l.length∧n≤d∧(Qm 6).In w' (fun g=>¬ O g) l [.slice a n d])∧Below w.heap.size w w'
abbrev QaR (x:Qy) (rg ag:Option Addr) (rc ac:Nat):Value:=.agg #[.int .i64 x.op,.int .i64 x.a,.int .i64 x.b,.int .i64 x.c,.int .i64 x.k,.int .i64 x.n,.slice rg x.regs.length rc,.slice ag x.args.length ac]
theorem Qc4 (w:World) (O:Nat→Prop) (hO:∀ k,O k→k<w.heap.size){t:TT 6}{a:Option Addr}{c d:Nat}(h:TIn w (fun g=>¬ O g) t a) (hok:t.ok) :
 (Qm 6).In (w.alloc (.cells #[.int .i64 t.kind,.int .i64 t.r,.slice a t.len c] 79)) (fun g=>¬ O g) [t] [.slice (some ⟨w.heap.size,0,none⟩) 1 d]:=by
 refine⟨some ⟨w.heap.size,0,none⟩,d,rfl,fun i x hx=>?_⟩
 cases i with
 | succ i=>simp at hx
 | zero =>
   have hx:t=x:=by simpa using hx
   subst hx;refine⟨w.heap.size,0,[.int .i64 t.kind,.int .i64 t.r,.slice a t.len c],rfl,fun e=>by have:=hO _ e;omega,by simp,fun j hj=>?_,a,c,rfl,h.alloc _,hok⟩
   have hj:j<3:=hj;have hb:=Qe w #[.int .i64 t.kind,.int .i64 t.r,.slice a t.len c] 79;match j,hj with
   | 0,_=>exact Qb hb 0 _ rfl
   | 1,_=>exact Qb hb 1 _ rfl
   | 2,_=>exact Qb hb 2 _ rfl
theorem Qfq (w:World) (Q:Nat→Prop) (k r:Int) (a:Option Addr):TIn w Q (mkT k r []:TT 6) a:=fun i x hx=>by simp at hx
theorem Qgt (w:World) (O:Nat→Prop) (hO:∀ k,O k→k<w.heap.size){u:TT 5}{a:Option Addr}{c d:Nat}(h:TIn w (fun g=>¬ O g) u a) (hok:u.ok) :
 (Qm 6).In (w.alloc (.cells #[.int .i64 u.kind,.int .i64 u.r,.slice a u.len c] 79)) (fun g=>¬ O g) [u.at 5] [.slice (some ⟨w.heap.size,0,none⟩) 1 d]:=by
 have hh:u.height≤5:=by have:=TT.height_lt u;omega
 have:=Qc4 w O hO (t:=u.at 5) (a:=a) (c:=c) (d:=d) (h.at 5 hh) (TT.at_ok 5 hok)
 rwa [TT.at_kind,TT.at_r,TT.at_len 5 u hh] at this
theorem Qia {k r:Int}(h:-9223372036854775808≤r∧r≤9223372036854775807):(mkT k r []:TT 6).ok:=⟨h,fun x hx=>by cases hx⟩
structure MkS (w w2:World) (b X:Nat) (O:Nat→Prop) (s:JSt) (x:Qy) (rg ag:Option Addr) (rc ac:Nat) (na:Option Addr):Prop where
 known:KAt w2 b O s
 box:w2.heap[X]?=some (.cells #[.int .i64 x.op,.int .i64 x.a,.int .i64 x.b,.int .i64 x.c,.int .i64 x.k,.int .i64 x.n,.slice rg x.regs.length rc,.slice ag x.args.length ac] 59 (0,0))
 num:(Qm 6).In w2 (fun g=>¬ O g) [tInt] [.slice na 1 1]
 bel:Below w.heap.size w w2
 own:∀ k,O k→k<w.heap.size
 ok:JOk s
theorem MkS.start {w:World}{b:Nat}{O:Nat→Prop}{s:JSt}(x:Qy) (rg ag:Option Addr) (rc ac:Nat) (hO:∀ k,O k→k<w.heap.size) (hJ:JOk s) (h:KAt w b O s) :
 MkS w ((w.alloc (.cells #[.int .i64 x.op,.int .i64 x.a,.int .i64 x.b,.int .i64 x.c,.int .i64 x.k,.int .i64 x.n,.slice rg x.regs.length rc,.slice ag x.args.length ac] 59)).alloc (.cells #[.int .i64 1,.int .i64 0,.slice none 0 0] 79)) b w.heap.size O s x rg ag rc ac (some ⟨w.heap.size+1,0,none⟩):=by
 have b1:=QN w (.cells #[.int .i64 x.op,.int .i64 x.a,.int .i64 x.b,.int .i64 x.c,.int .i64 x.k,.int .i64 x.n,.slice rg x.regs.length rc,.slice ag x.args.length ac] 59);have b2:=QN (w.alloc (.cells #[.int .i64 x.op,.int .i64 x.a,.int .i64 x.b,.int .i64 x.c,.int .i64 x.k,.int .i64 x.n,.slice rg x.regs.length rc,.slice ag x.args.length ac] 59)) (.cells #[.int .i64 1,.int .i64 0,.slice none 0 0] 79);refine⟨(h.below b1).below b2,(b2.block _ (by simp)).trans (Qe _ _ _),?_,b1.trans (b2.mono b1.size),hO,hJ⟩
 have:=Qc4 (w.alloc (.cells #[.int .i64 x.op,.int .i64 x.a,.int .i64 x.b,.int .i64 x.c,.int .i64 x.k,.int .i64 x.n,.slice rg x.regs.length rc,.slice ag x.args.length ac] 59)) O (fun k hk=>by have:=hO k hk;simp;omega) (t:=tInt) (a:=none) (c:=0) (d:=1) (Qfq _ _ _ _ _) ⟨by decide,fun x hx=>by cases hx⟩
 rw[World.size_alloc] at this
 exact this
section
variable {w w2 w3:World}{b X:Nat}{O:Nat→Prop}{s:JSt}{x:Qy}{rg ag:Option Addr}{rc ac:Nat}{na:Option Addr}
theorem MkS.below (h:MkS w w2 b X O s x rg ag rc ac na) (k:Below w2.heap.size w2 w3):MkS w w3 b X O s x rg ag rc ac na :=
 ⟨h.known.below k,(k.block X (lt_of_block h.box)).trans h.box,Lay.below h.num k,h.bel.trans (k.mono h.bel.size),h.own,h.ok⟩
theorem MkS.lt (h:MkS w w2 b X O s x rg ag rc ac na):∀ k,O k→k<w2.heap.size:=fun k hk=>Zl (h.own k hk) h.bel.size
theorem MkS.cells (h:MkS w w2 b X O s x rg ag rc ac na):w2.cell? ⟨X,0,none⟩=some (.int .i64 x.op)∧w2.cell? ⟨X,1,none⟩=some (.int .i64 x.a)∧w2.cell? ⟨X,2,none⟩=some (.int .i64 x.b)∧w2.cell? ⟨X,3,none⟩=some (.int .i64 x.c)∧w2.cell? ⟨X,4,none⟩=some (.int .i64 x.k)∧w2.cell? ⟨X,6,none⟩=some (.slice rg x.regs.length rc)∧w2.cell? ⟨X,7,none⟩=some (.slice ag x.args.length ac) :=
 ⟨Qb h.box 0 _ rfl,Qb h.box 1 _ rfl,Qb h.box 2 _ rfl,Qb h.box 3 _ rfl,Qb h.box 4 _ rfl,Qb h.box 6 _ rfl,Qb h.box 7 _ rfl⟩
theorem QO.nil {c:Int}(h:Below w.heap.size w w3):QO w O c [] (.returned (.tuple #[.slice none 0 0,.int .i64 c])) w3 :=
 ⟨none,0,0,rfl,fun _=>⟨rfl,Ze,Lay.list_nil _ _ _ _ _⟩,h⟩
theorem QO.bad {c:Int}{l:List (TT 6)}(hc:c≠0) (h:Below w.heap.size w w3) (a:Option Addr) (n d:Nat):QO w O c l (.returned (.tuple #[.slice a n d,.int .i64 c])) w3 :=
 ⟨a,n,d,rfl,fun e=>absurd e hc,h⟩
theorem QO.num {c:Int}(h:MkS w w2 b X O s x rg ag rc ac na) (k:Below w2.heap.size w2 w3):QO w O c [tInt] (.returned (.tuple #[.slice na 1 1,.int .i64 c])) w3 :=
 ⟨na,1,1,rfl,fun _=>⟨rfl,Ze,(h.below k).num⟩,(h.below k).bel⟩
end
theorem Qd7 (a b:Int):firstI [a,b]=code2 a b:=by
 unfold firstI code2;split
 ·unfold firstI;split
  ·rename_i h1 h2;simp[firstI,h2]
  ·rfl
 ·rfl
theorem QjY (a b c:Int):firstI [a,b,c]=code2 a (code2 b c):=by
 rw[firstI,Qd7];rfl
theorem Qgr {w:World}{b:Nat}{O:Nat→Prop}{s:JSt}{x:Qy}{rg ag:Option Addr}{rc ac:Nat}(hO:∀ k,O k→k<w.heap.size) (hJ:JOk s) (h:KAt w b O s) (hop:x.op=1) :
 Calls prog 73 #[.pointer (some ⟨b,0,none⟩),QaR x rg ag rc ac] w fun e w'=>QO w O (s.makes x).1 (s.makes x).2 e w':=by
 have E:Hid (s.makes x=(0,[tInt])):=Qaa (.inl hop);have S0:=Qa (MkS.start x rg ag rc ac hO hJ h);obtain⟨xop,xa,xb,xc,xk,xn,xr,xs⟩:=x
 simp only at hop
 subst hop;clear h;go_enter func73,ntmps73
 go_wp2
 go_ret2;rw[E.out]
 exact QO.num S0.out Zr
theorem Qh1 {w:World}{b:Nat}{O:Nat→Prop}{s:JSt}{x:Qy}{rg ag:Option Addr}{rc ac:Nat}(hO:∀ k,O k→k<w.heap.size) (hJ:JOk s) (h:KAt w b O s) (hop:x.op=12) :
 Calls prog 73 #[.pointer (some ⟨b,0,none⟩),QaR x rg ag rc ac] w fun e w'=>QO w O (s.makes x).1 (s.makes x).2 e w':=by
 have E:Hid (s.makes x=(0,[tInt])):=Qaa (.inr hop);have S0:=Qa (MkS.start x rg ag rc ac hO hJ h);obtain⟨xop,xa,xb,xc,xk,xn,xr,xs⟩:=x
 simp only at hop
 subst hop;clear h;go_enter func73,ntmps73
 go_wp2
 go_ret2;rw[E.out]
 exact QO.num S0.out Zr
def Zx (x:Qy):Prop:=(-9223372036854775808≤x.a∧x.a≤9223372036854775807)∧(-9223372036854775808≤x.b∧x.b≤9223372036854775807)∧(-9223372036854775808≤x.c∧x.c≤9223372036854775807)
theorem Qjk {w:World}{O:Nat→Prop}{x:Qy}{cs:List Value}(h:insC.In w O x cs):Zx x:=by
 obtain⟨_,_,rfl,⟨rfl,_⟩,_,_,rfl,⟨rfl,ha⟩,_,_,rfl,⟨rfl,hb⟩,_,_,rfl,⟨rfl,hc⟩,_,_,rfl,⟨rfl,_⟩,_,_,rfl,⟨rfl,_⟩,_,_,rfl,⟨⟨a,c,rfl,h1⟩,h2⟩,⟨b,d,rfl,h3⟩,h4⟩:=h
 exact⟨ha,hb,hc⟩
noncomputable def JSt.goC (s:JSt) (x:Qy):Int:=code2 (s.makes x).1 (Zh s.L.length (s.makes x).2.length)
theorem QcV {s:JSt}{x:Qy}(hf:x.form s.m.length=0):s.code x=s.goC x:=by
 unfold JSt.code JSt.goC code2 Zh;rw[if_neg (by rw[hf];simp)]
 by_cases h:(s.makes x).1=0
 ·rw[if_neg (by rw[h];simp),if_pos h]
 ·rw[if_pos h,if_neg h]
theorem QbS {n:Nat}(h:n≤80):Zh n 0=0:=if_neg (by omega)
theorem QfO {a:Int}:code2 a 0=a:=by unfold code2;split<;>simp_all
theorem Q6.to {w w':World}{b:Nat}{O A:Nat→Prop}{s s1 s2:JSt}{c c2:Int}{e:Ending}(hd:Q6 w b O A s s1 c e w') (hc:c2=c) (hs:c=0→s2=s1):Q6 w b O A s s2 c2 e w':=by
 subst hc;rcases hd with ⟨h1,h2,h3⟩ | h
 ·exact .inl ⟨h1,h2,by rw[hs h1];exact h3⟩
 ·exact .inr h
theorem Q6.none {w w':World}{b:Nat}{O A:Nat→Prop}{s s2:JSt}{c2:Int}(h:SAt w b O A s) (hb:Below w.heap.size w w') (hc:c2=0) (hs:s2=s):Q6 w b O A s s2 c2 (.returned (.tuple #[])) w':=.inl ⟨hc,rfl,by rw[hs];exact STo.of_below h hb⟩
theorem Zc {s:JSt}{x:Qy}(h3:x.op≠3) (h4:x.op≠4):s.next x={ s with L:=s.L++(s.makes x).2 }:=by unfold JSt.next;rw[if_neg h3,if_neg h4]
theorem QjS {w:World}{b:Nat}{O A Q:Nat→Prop}{s:JSt}{x:Qy}{rg ag:Option Addr}{rc ac:Nat}(hA:∀ k,A k→k<w.heap.size) (hJ:JOk s) (h:SAt w b O A s) (hregs:intsL.In w Q x.regs [.slice rg x.regs.length rc]) (hargs:intsL.In w Q x.args [.slice ag x.args.length ac]) (hrc:x.regs.length≤rc) (hrng:Zx x) (hf:x.form s.m.length=0) (hop:x.op=1) :
 Calls prog 71 #[.pointer (some ⟨b,0,none⟩),QaR x rg ag rc ac] w fun e w'=>Q6 w b O A s (s.next x) (s.goC x) e w':=by
 have hE:=Qaa (s:=s) (.inl hop);obtain⟨op,xa,xb,xc,xk,xn,xr,xs⟩:=x
 have hop:op=1:=hop;subst hop;have HE:=Qa hE;obtain⟨f1,f2,f3,-⟩:=Zb hf
 have HF:=Qa (And.intro f1 (And.intro f2 f3));obtain⟨ra,rb,rcc⟩:=hrng
 have HI:=Qa (And.intro ra (And.intro rb rcc));have HJ:=Qa hJ;have H0:=Qa h;have HA0:=Qa hA;have hL:=hJ.vals;have b1:=QN w (.cells #[.int .i64 1,.int .i64 xa,.int .i64 xb,.int .i64 xc,.int .i64 xk,.int .i64 xn,.slice rg xr.length rc,.slice ag xs.length ac] 59);have H:=Qa (h.below b1);have HR:Hid (intsL.In _ Q xr [.slice rg xr.length rc]):=Lay.below hregs b1;have HG:Hid (intsL.In _ Q xs [.slice ag xs.length ac]):=Lay.below hargs b1;have HB:=Qa b1;have HA:=Qa (fun k hk=>Zl (hA k hk) b1.size);have HO:=Qa (fun k hk=>Zl (hA k (h.sub k hk)) b1.size);have X1:Hid (Blk (w.alloc (.cells #[.int .i64 1,.int .i64 xa,.int .i64 xb,.int .i64 xc,.int .i64 xk,.int .i64 xn,.slice rg xr.length rc,.slice ag xs.length ac] 59)) w.heap.size #[.int .i64 1,.int .i64 xa,.int .i64 xb,.int .i64 xc,.int .i64 xk,.int .i64 xn,.slice rg xr.length rc,.slice ag xs.length ac] 59):=Blk.new _ _ _;have HRC:Hid (xr.length≤rc):=hrc;clear h hA hJ b1 hregs hargs hE hf f1 f2 f3 ra rb rcc hrc;go_enter func71,ntmps71
 go_upto_region 1 with fail
 generalize w.alloc (.cells #[.int .i64 1,.int .i64 xa,.int .i64 xb,.int .i64 xc,.int .i64 xk,.int .i64 xn,.slice rg xr.length rc,.slice ag xs.length ac] 59)=w1 at H HR HG HB HA HO X1 ⊢;obtain⟨X,hX⟩:∃ X,w.heap.size=X:=⟨_,rfl⟩
 rw[hX] at X1 ⊢
 clear hX;have x0:=Qb X1.out 0 _ rfl;have x1:=Qb X1.out 1 _ rfl;have x2:=Qb X1.out 2 _ rfl;have x3:=Qb X1.out 3 _ rfl;have x4:=Qb X1.out 4 _ rfl;have x6:=Qb X1.out 6 _ rfl;have x7:=Qb X1.out 7 _ rfl;have HE2:Hid (∀ e w9,Q6 w b O A s { s with L:=s.L++[tInt] } (Zh s.L.length 1) e w9→Q6 w b O A s (s.next ⟨1,xa,xb,xc,xk,xn,xr,xs⟩) (s.goC ⟨1,xa,xb,xc,xk,xn,xr,xs⟩) e w9):=fun e w9 hd=>hd.to (by unfold JSt.goC;rw[HE.out];rfl) (fun _=>by rw[Zc (by simp) (by simp),HE.out]);have CM:=Qa (QbA hL HA.out H.out);go_wp2_with fail
 refine CM.out.mono ?_;rintro e' w9 hd;have FF:Hid (Q6 w b O A s (s.next ⟨1,xa,xb,xc,xk,xn,xr,xs⟩) (s.goC ⟨1,xa,xb,xc,xk,xn,xr,xs⟩) e' w9):=HE2.out _ _ (hd.after HB.out);rcases hd with ⟨h1,rfl,h3⟩|⟨h1,rfl,h3⟩
 rotate_left
 ·exact⟨rfl,FF.out⟩
 clear h1 h3 CM;go_wp2
 exact bodyPost_end (v:=.tuple #[]) (by simp[results,results71,go_sem]) rfl FF.out
theorem Qk2 {w:World}{b:Nat}{O A Q:Nat→Prop}{s:JSt}{x:Qy}{rg ag:Option Addr}{rc ac:Nat}(hA:∀ k,A k→k<w.heap.size) (hJ:JOk s) (h:SAt w b O A s) (hregs:intsL.In w Q x.regs [.slice rg x.regs.length rc]) (hargs:intsL.In w Q x.args [.slice ag x.args.length ac]) (hrc:x.regs.length≤rc) (hrng:Zx x) (hf:x.form s.m.length=0) (hop:x.op=12) :
 Calls prog 71 #[.pointer (some ⟨b,0,none⟩),QaR x rg ag rc ac] w fun e w'=>Q6 w b O A s (s.next x) (s.goC x) e w':=by
 have hE:=Qaa (s:=s) (.inr hop);obtain⟨op,xa,xb,xc,xk,xn,xr,xs⟩:=x
 have hop:op=12:=hop;subst hop;have HE:=Qa hE;obtain⟨f1,f2,f3,-⟩:=Zb hf
 have HF:=Qa (And.intro f1 (And.intro f2 f3));obtain⟨ra,rb,rcc⟩:=hrng
 have HI:=Qa (And.intro ra (And.intro rb rcc));have HJ:=Qa hJ;have H0:=Qa h;have HA0:=Qa hA;have hL:=hJ.vals;have b1:=QN w (.cells #[.int .i64 12,.int .i64 xa,.int .i64 xb,.int .i64 xc,.int .i64 xk,.int .i64 xn,.slice rg xr.length rc,.slice ag xs.length ac] 59);have H:=Qa (h.below b1);have HR:Hid (intsL.In _ Q xr [.slice rg xr.length rc]):=Lay.below hregs b1;have HG:Hid (intsL.In _ Q xs [.slice ag xs.length ac]):=Lay.below hargs b1;have HB:=Qa b1;have HA:=Qa (fun k hk=>Zl (hA k hk) b1.size);have HO:=Qa (fun k hk=>Zl (hA k (h.sub k hk)) b1.size);have X1:Hid (Blk (w.alloc (.cells #[.int .i64 12,.int .i64 xa,.int .i64 xb,.int .i64 xc,.int .i64 xk,.int .i64 xn,.slice rg xr.length rc,.slice ag xs.length ac] 59)) w.heap.size #[.int .i64 12,.int .i64 xa,.int .i64 xb,.int .i64 xc,.int .i64 xk,.int .i64 xn,.slice rg xr.length rc,.slice ag xs.length ac] 59):=Blk.new _ _ _;have HRC:Hid (xr.length≤rc):=hrc;clear h hA hJ b1 hregs hargs hE hf f1 f2 f3 ra rb rcc hrc;go_enter func71,ntmps71
 go_upto_region 1 with fail
 generalize w.alloc (.cells #[.int .i64 12,.int .i64 xa,.int .i64 xb,.int .i64 xc,.int .i64 xk,.int .i64 xn,.slice rg xr.length rc,.slice ag xs.length ac] 59)=w1 at H HR HG HB HA HO X1 ⊢;obtain⟨X,hX⟩:∃ X,w.heap.size=X:=⟨_,rfl⟩
 rw[hX] at X1 ⊢
 clear hX;have x0:=Qb X1.out 0 _ rfl;have x1:=Qb X1.out 1 _ rfl;have x2:=Qb X1.out 2 _ rfl;have x3:=Qb X1.out 3 _ rfl;have x4:=Qb X1.out 4 _ rfl;have x6:=Qb X1.out 6 _ rfl;have x7:=Qb X1.out 7 _ rfl;have HE2:Hid (∀ e w9,Q6 w b O A s { s with L:=s.L++[tInt] } (Zh s.L.length 1) e w9→Q6 w b O A s (s.next ⟨12,xa,xb,xc,xk,xn,xr,xs⟩) (s.goC ⟨12,xa,xb,xc,xk,xn,xr,xs⟩) e w9):=fun e w9 hd=>hd.to (by unfold JSt.goC;rw[HE.out];rfl) (fun _=>by rw[Zc (by simp) (by simp),HE.out]);have CM:=Qa (QbA hL HA.out H.out);go_wp2_with fail
 refine CM.out.mono ?_;rintro e' w9 hd;have FF:Hid (Q6 w b O A s (s.next ⟨12,xa,xb,xc,xk,xn,xr,xs⟩) (s.goC ⟨12,xa,xb,xc,xk,xn,xr,xs⟩) e' w9):=HE2.out _ _ (hd.after HB.out);rcases hd with ⟨h1,rfl,h3⟩|⟨h1,rfl,h3⟩
 rotate_left
 ·exact⟨rfl,FF.out⟩
 clear h1 h3 CM;go_wp2
 exact bodyPost_end (v:=.tuple #[]) (by simp[results,results71,go_sem]) rfl FF.out
theorem QjK {w:World}{b:Nat}{O A Q:Nat→Prop}{s:JSt}{x:Qy}{rg ag:Option Addr}{rc ac:Nat}(hA:∀ k,A k→k<w.heap.size) (hJ:JOk s) (h:SAt w b O A s) (hregs:intsL.In w Q x.regs [.slice rg x.regs.length rc]) (hargs:intsL.In w Q x.args [.slice ag x.args.length ac]) (hrc:x.regs.length≤rc) (hrng:Zx x) (hf:x.form s.m.length=0) (hop:x.op=2) :
 Calls prog 71 #[.pointer (some ⟨b,0,none⟩),QaR x rg ag rc ac] w fun e w'=>Q6 w b O A s (s.next x) (s.goC x) e w':=by
 have hE:=QbH (s:=s) hop;obtain⟨op,xa,xb,xc,xk,xn,xr,xs⟩:=x
 have hop:op=2:=hop;subst hop;have HE:=Qa hE;obtain⟨f1,f2,f3,-⟩:=Zb hf
 have HF:=Qa (And.intro f1 (And.intro f2 f3));obtain⟨ra,rb,rcc⟩:=hrng
 have HI:=Qa (And.intro ra (And.intro rb rcc));have HJ:=Qa hJ;have H0:=Qa h;have HA0:=Qa hA;have hL:=hJ.vals;have b1:=QN w (.cells #[.int .i64 2,.int .i64 xa,.int .i64 xb,.int .i64 xc,.int .i64 xk,.int .i64 xn,.slice rg xr.length rc,.slice ag xs.length ac] 59);have H:=Qa (h.below b1);have HR:Hid (intsL.In _ Q xr [.slice rg xr.length rc]):=Lay.below hregs b1;have HG:Hid (intsL.In _ Q xs [.slice ag xs.length ac]):=Lay.below hargs b1;have HB:=Qa b1;have HA:=Qa (fun k hk=>Zl (hA k hk) b1.size);have HO:=Qa (fun k hk=>Zl (hA k (h.sub k hk)) b1.size);have X1:Hid (Blk (w.alloc (.cells #[.int .i64 2,.int .i64 xa,.int .i64 xb,.int .i64 xc,.int .i64 xk,.int .i64 xn,.slice rg xr.length rc,.slice ag xs.length ac] 59)) w.heap.size #[.int .i64 2,.int .i64 xa,.int .i64 xb,.int .i64 xc,.int .i64 xk,.int .i64 xn,.slice rg xr.length rc,.slice ag xs.length ac] 59):=Blk.new _ _ _;have HRC:Hid (xr.length≤rc):=hrc;clear h hA hJ b1 hregs hargs hE hf f1 f2 f3 ra rb rcc hrc;go_enter func71,ntmps71
 go_upto_region 1 with fail
 generalize w.alloc (.cells #[.int .i64 2,.int .i64 xa,.int .i64 xb,.int .i64 xc,.int .i64 xk,.int .i64 xn,.slice rg xr.length rc,.slice ag xs.length ac] 59)=w1 at H HR HG HB HA HO X1 ⊢;obtain⟨X,hX⟩:∃ X,w.heap.size=X:=⟨_,rfl⟩
 rw[hX] at X1 ⊢
 clear hX;have x0:=Qb X1.out 0 _ rfl;have x1:=Qb X1.out 1 _ rfl;have x2:=Qb X1.out 2 _ rfl;have x3:=Qb X1.out 3 _ rfl;have x4:=Qb X1.out 4 _ rfl;have x6:=Qb X1.out 6 _ rfl;have x7:=Qb X1.out 7 _ rfl;have EG:Hid (s.goC ⟨2,xa,xb,xc,xk,xn,xr,xs⟩=code2 (code2 (s.want xa 1 false) (s.want xb 1 false)) (Zh s.L.length 1)):=by show _=_;unfold JSt.goC;rw[HE.out];rfl
 have C1:=Qa (fun d=>QeZ xa xb HI.out.1 HI.out.2.1 d hL HO.out H.out);go_wp2_with fail
 refine(C1.out _).mono ?_
 rintro e' w2 ⟨hq,b2⟩;have HB2:=Qa (HB.out.trans (b2.mono HB.out.size));have H2:=Qa (H.out.below b2);have HA2:=Qa (fun k hk=>Zl (HA.out k hk) b2.size);have HO2:=Qa (fun k hk=>Zl (HO.out k hk) b2.size);rcases hq with ⟨hc,y2,rfl,hy⟩|⟨hc,rfl⟩
 rotate_left
 ·exact⟨rfl,Q6.bad ((fun hc=>by rw[EG.out,Qr hc]) hc) hc (STo.of_below H0.out HB2.out)⟩
 subst hy;have HC2:=Qa hc;clear hc b2 C1;have HE2:Hid (∀ e w9,Q6 w b O A s { s with L:=s.L++[tInt] } (Zh s.L.length 1) e w9→Q6 w b O A s (s.next ⟨2,xa,xb,xc,xk,xn,xr,xs⟩) (s.goC ⟨2,xa,xb,xc,xk,xn,xr,xs⟩) e w9):=fun e w9 hd=>hd.to (by rw[EG.out,QF HC2.out]) (fun _=>by rw[Zc (by simp) (by simp),HE.out]);have CM:=Qa (QbA hL HA2.out H2.out);go_wp2_with fail
 refine CM.out.mono ?_;rintro e' w9 hd;have FF:Hid (Q6 w b O A s (s.next ⟨2,xa,xb,xc,xk,xn,xr,xs⟩) (s.goC ⟨2,xa,xb,xc,xk,xn,xr,xs⟩) e' w9):=HE2.out _ _ (hd.after HB2.out);rcases hd with ⟨h1,rfl,h3⟩|⟨h1,rfl,h3⟩
 rotate_left
 ·exact⟨rfl,FF.out⟩
 clear h1 h3 CM;go_wp2
 exact bodyPost_end (v:=.tuple #[]) (by simp[results,results71,go_sem]) rfl FF.out
theorem QjN {w:World}{b:Nat}{O A Q:Nat→Prop}{s:JSt}{x:Qy}{rg ag:Option Addr}{rc ac:Nat}(hA:∀ k,A k→k<w.heap.size) (hJ:JOk s) (h:SAt w b O A s) (hregs:intsL.In w Q x.regs [.slice rg x.regs.length rc]) (hargs:intsL.In w Q x.args [.slice ag x.args.length ac]) (hrc:x.regs.length≤rc) (hrng:Zx x) (hf:x.form s.m.length=0) (hop:x.op=3) :
 Calls prog 71 #[.pointer (some ⟨b,0,none⟩),QaR x rg ag rc ac] w fun e w'=>Q6 w b O A s (s.next x) (s.goC x) e w':=by
 have hE:=QaF (s:=s) hop;obtain⟨op,xa,xb,xc,xk,xn,xr,xs⟩:=x
 have hop:op=3:=hop;subst hop;have HE:=Qa hE;obtain⟨f1,f2,f3,-⟩:=Zb hf
 have HF:=Qa (And.intro f1 (And.intro f2 f3));obtain⟨ra,rb,rcc⟩:=hrng
 have HI:=Qa (And.intro ra (And.intro rb rcc));have HJ:=Qa hJ;have H0:=Qa h;have HA0:=Qa hA;have hL:=hJ.vals;have b1:=QN w (.cells #[.int .i64 3,.int .i64 xa,.int .i64 xb,.int .i64 xc,.int .i64 xk,.int .i64 xn,.slice rg xr.length rc,.slice ag xs.length ac] 59);have H:=Qa (h.below b1);have HR:Hid (intsL.In _ Q xr [.slice rg xr.length rc]):=Lay.below hregs b1;have HG:Hid (intsL.In _ Q xs [.slice ag xs.length ac]):=Lay.below hargs b1;have HB:=Qa b1;have HA:=Qa (fun k hk=>Zl (hA k hk) b1.size);have HO:=Qa (fun k hk=>Zl (hA k (h.sub k hk)) b1.size);have X1:Hid (Blk (w.alloc (.cells #[.int .i64 3,.int .i64 xa,.int .i64 xb,.int .i64 xc,.int .i64 xk,.int .i64 xn,.slice rg xr.length rc,.slice ag xs.length ac] 59)) w.heap.size #[.int .i64 3,.int .i64 xa,.int .i64 xb,.int .i64 xc,.int .i64 xk,.int .i64 xn,.slice rg xr.length rc,.slice ag xs.length ac] 59):=Blk.new _ _ _;have HRC:Hid (xr.length≤rc):=hrc;clear h hA hJ b1 hregs hargs hE hf f1 f2 f3 ra rb rcc hrc;go_enter func71,ntmps71
 go_upto_region 1 with fail
 generalize w.alloc (.cells #[.int .i64 3,.int .i64 xa,.int .i64 xb,.int .i64 xc,.int .i64 xk,.int .i64 xn,.slice rg xr.length rc,.slice ag xs.length ac] 59)=w1 at H HR HG HB HA HO X1 ⊢;obtain⟨X,hX⟩:∃ X,w.heap.size=X:=⟨_,rfl⟩
 rw[hX] at X1 ⊢
 clear hX;have x0:=Qb X1.out 0 _ rfl;have x1:=Qb X1.out 1 _ rfl;have x2:=Qb X1.out 2 _ rfl;have x3:=Qb X1.out 3 _ rfl;have x4:=Qb X1.out 4 _ rfl;have x6:=Qb X1.out 6 _ rfl;have x7:=Qb X1.out 7 _ rfl
 have HE2:Hid (∀ e w9,Q6 w b O A s s.openS s.openC e w9→Q6 w b O A s (s.next ⟨3,xa,xb,xc,xk,xn,xr,xs⟩) (s.goC ⟨3,xa,xb,xc,xk,xn,xr,xs⟩) e w9):=fun e w9 hd=>hd.to (by
  unfold JSt.goC;rw[HE.out]
  by_cases h16:s.H.length=16
  ·rw[if_pos h16]
   show code2 2 _=s.openC;unfold JSt.openC;rw[if_pos (Or.inr h16)];rfl
  ·rw[if_neg h16]
   show code2 0 (Zh s.L.length 1)=s.openC;rw[QF rfl]
   unfold Zh JSt.openC;by_cases h80:80<s.L.length+1
   ·rw[if_pos h80,if_pos (Or.inl h80)]
   ·rw[if_neg h80,if_neg (by omega)]) (fun h0=>by
  unfold JSt.openC at h0;unfold JSt.next JSt.openS
  rw[HE.out]
  by_cases h16:s.H.length=16
  ·rw[if_pos (Or.inr h16)] at h0;cases h0
  ·rw[if_neg h16];rfl)
 have CM:=Qa (Qhi HJ.out.regs hL HA.out H.out);go_wp2_with fail
 refine CM.out.mono ?_;rintro e' w9 hd;have FF:Hid (Q6 w b O A s (s.next ⟨3,xa,xb,xc,xk,xn,xr,xs⟩) (s.goC ⟨3,xa,xb,xc,xk,xn,xr,xs⟩) e' w9):=HE2.out _ _ (hd.after HB.out);rcases hd with ⟨h1,rfl,h3⟩|⟨h1,rfl,h3⟩
 rotate_left
 ·exact⟨rfl,FF.out⟩
 clear h1 h3 CM;go_wp2
 exact bodyPost_end (v:=.tuple #[]) (by simp[results,results71,go_sem]) rfl FF.out
theorem QiW {w:World}{b:Nat}{O A Q:Nat→Prop}{s:JSt}{x:Qy}{rg ag:Option Addr}{rc ac:Nat}(hA:∀ k,A k→k<w.heap.size) (hJ:JOk s) (h:SAt w b O A s) (hregs:intsL.In w Q x.regs [.slice rg x.regs.length rc]) (hargs:intsL.In w Q x.args [.slice ag x.args.length ac]) (hrc:x.regs.length≤rc) (hrng:Zx x) (hf:x.form s.m.length=0) (hop:x.op=4) :
 Calls prog 71 #[.pointer (some ⟨b,0,none⟩),QaR x rg ag rc ac] w fun e w'=>Q6 w b O A s (s.next x) (s.goC x) e w':=by
 have hE:=Z0 (s:=s) hop;obtain⟨op,xa,xb,xc,xk,xn,xr,xs⟩:=x
 have hop:op=4:=hop;subst hop;have HE:=Qa hE;obtain⟨f1,f2,f3,-⟩:=Zb hf
 have HF:=Qa (And.intro f1 (And.intro f2 f3));obtain⟨ra,rb,rcc⟩:=hrng
 have HI:=Qa (And.intro ra (And.intro rb rcc));have HJ:=Qa hJ;have H0:=Qa h;have HA0:=Qa hA;have hL:=hJ.vals;have b1:=QN w (.cells #[.int .i64 4,.int .i64 xa,.int .i64 xb,.int .i64 xc,.int .i64 xk,.int .i64 xn,.slice rg xr.length rc,.slice ag xs.length ac] 59);have H:=Qa (h.below b1);have HR:Hid (intsL.In _ Q xr [.slice rg xr.length rc]):=Lay.below hregs b1;have HG:Hid (intsL.In _ Q xs [.slice ag xs.length ac]):=Lay.below hargs b1;have HB:=Qa b1;have HA:=Qa (fun k hk=>Zl (hA k hk) b1.size);have HO:=Qa (fun k hk=>Zl (hA k (h.sub k hk)) b1.size);have X1:Hid (Blk (w.alloc (.cells #[.int .i64 4,.int .i64 xa,.int .i64 xb,.int .i64 xc,.int .i64 xk,.int .i64 xn,.slice rg xr.length rc,.slice ag xs.length ac] 59)) w.heap.size #[.int .i64 4,.int .i64 xa,.int .i64 xb,.int .i64 xc,.int .i64 xk,.int .i64 xn,.slice rg xr.length rc,.slice ag xs.length ac] 59):=Blk.new _ _ _;have HRC:Hid (xr.length≤rc):=hrc;clear h hA hJ b1 hregs hargs hE hf f1 f2 f3 ra rb rcc hrc;go_enter func71,ntmps71
 go_upto_region 1 with fail
 generalize w.alloc (.cells #[.int .i64 4,.int .i64 xa,.int .i64 xb,.int .i64 xc,.int .i64 xk,.int .i64 xn,.slice rg xr.length rc,.slice ag xs.length ac] 59)=w1 at H HR HG HB HA HO X1 ⊢;obtain⟨X,hX⟩:∃ X,w.heap.size=X:=⟨_,rfl⟩
 rw[hX] at X1 ⊢
 clear hX;have x0:=Qb X1.out 0 _ rfl;have x1:=Qb X1.out 1 _ rfl;have x2:=Qb X1.out 2 _ rfl;have x3:=Qb X1.out 3 _ rfl;have x4:=Qb X1.out 4 _ rfl;have x6:=Qb X1.out 6 _ rfl;have x7:=Qb X1.out 7 _ rfl
 have HE2:Hid (∀ e w9,Q6 w b O A s (s.freeS xa) (s.freeC xa) e w9→Q6 w b O A s (s.next ⟨4,xa,xb,xc,xk,xn,xr,xs⟩) (s.goC ⟨4,xa,xb,xc,xk,xn,xr,xs⟩) e w9):=fun e w9 hd=>hd.to (by
  unfold JSt.goC JSt.freeC;rw[HE.out]
  show code2 (match s.at xa with | none=>(1,[]) | some t=>(code2 (s.want xa 2 true) (if t.r<s.f.regs then 11 else 0),[])).1 _=_
  cases s.at xa with
  | none=>rfl
  | some t=>show code2 _ (Zh s.L.length 0)=_;rw[QbS hL,QfO]) (fun h0=>by
  unfold JSt.next JSt.freeS
  rw[HE.out]
  show ({ s with H:=_,L:=s.L++(match s.at xa with | none=>(1,[]) | some t=>(code2 (s.want xa 2 true) (if t.r<s.f.regs then 11 else 0),[])).2 }:JSt)=_
  cases s.at xa with
  | none=>simp
  | some t=>simp)
 have CM:=Qa (QhV xa hL HA.out H.out);go_wp2_with fail
 refine CM.out.mono ?_;rintro e' w9 hd;have FF:Hid (Q6 w b O A s (s.next ⟨4,xa,xb,xc,xk,xn,xr,xs⟩) (s.goC ⟨4,xa,xb,xc,xk,xn,xr,xs⟩) e' w9):=HE2.out _ _ (hd.after HB.out);rcases hd with ⟨h1,rfl,h3⟩|⟨h1,rfl,h3⟩
 rotate_left
 ·exact⟨rfl,FF.out⟩
 clear h1 h3 CM;go_wp2
 exact bodyPost_end (v:=.tuple #[]) (by simp[results,results71,go_sem]) rfl FF.out
theorem Qhl {w:World}{b:Nat}{O A Q:Nat→Prop}{s:JSt}{x:Qy}{rg ag:Option Addr}{rc ac:Nat}(hA:∀ k,A k→k<w.heap.size) (hJ:JOk s) (h:SAt w b O A s) (hregs:intsL.In w Q x.regs [.slice rg x.regs.length rc]) (hargs:intsL.In w Q x.args [.slice ag x.args.length ac]) (hrc:x.regs.length≤rc) (hrng:Zx x) (hf:x.form s.m.length=0) (hop:x.op=5) :
 Calls prog 71 #[.pointer (some ⟨b,0,none⟩),QaR x rg ag rc ac] w fun e w'=>Q6 w b O A s (s.next x) (s.goC x) e w':=by
 have hE:=QaT (s:=s) hop;obtain⟨op,xa,xb,xc,xk,xn,xr,xs⟩:=x
 have hop:op=5:=hop;subst hop;have HE:=Qa hE;obtain⟨f1,f2,f3,-⟩:=Zb hf
 have HF:=Qa (And.intro f1 (And.intro f2 f3));obtain⟨ra,rb,rcc⟩:=hrng
 have HI:=Qa (And.intro ra (And.intro rb rcc));have HJ:=Qa hJ;have H0:=Qa h;have HA0:=Qa hA;have hL:=hJ.vals;have b1:=QN w (.cells #[.int .i64 5,.int .i64 xa,.int .i64 xb,.int .i64 xc,.int .i64 xk,.int .i64 xn,.slice rg xr.length rc,.slice ag xs.length ac] 59);have H:=Qa (h.below b1);have HR:Hid (intsL.In _ Q xr [.slice rg xr.length rc]):=Lay.below hregs b1;have HG:Hid (intsL.In _ Q xs [.slice ag xs.length ac]):=Lay.below hargs b1;have HB:=Qa b1;have HA:=Qa (fun k hk=>Zl (hA k hk) b1.size);have HO:=Qa (fun k hk=>Zl (hA k (h.sub k hk)) b1.size);have X1:Hid (Blk (w.alloc (.cells #[.int .i64 5,.int .i64 xa,.int .i64 xb,.int .i64 xc,.int .i64 xk,.int .i64 xn,.slice rg xr.length rc,.slice ag xs.length ac] 59)) w.heap.size #[.int .i64 5,.int .i64 xa,.int .i64 xb,.int .i64 xc,.int .i64 xk,.int .i64 xn,.slice rg xr.length rc,.slice ag xs.length ac] 59):=Blk.new _ _ _;have HRC:Hid (xr.length≤rc):=hrc;clear h hA hJ b1 hregs hargs hE hf f1 f2 f3 ra rb rcc hrc;go_enter func71,ntmps71
 go_upto_region 1 with fail
 generalize w.alloc (.cells #[.int .i64 5,.int .i64 xa,.int .i64 xb,.int .i64 xc,.int .i64 xk,.int .i64 xn,.slice rg xr.length rc,.slice ag xs.length ac] 59)=w1 at H HR HG HB HA HO X1 ⊢;obtain⟨X,hX⟩:∃ X,w.heap.size=X:=⟨_,rfl⟩
 rw[hX] at X1 ⊢
 clear hX;have x0:=Qb X1.out 0 _ rfl;have x1:=Qb X1.out 1 _ rfl;have x2:=Qb X1.out 2 _ rfl;have x3:=Qb X1.out 3 _ rfl;have x4:=Qb X1.out 4 _ rfl;have x6:=Qb X1.out 6 _ rfl;have x7:=Qb X1.out 7 _ rfl
 have HE2:Hid (∀ e w9,Q6 w b O A s (s.tupleS xa xs) (s.tupleC xa xs) e w9→Q6 w b O A s (s.next ⟨5,xa,xb,xc,xk,xn,xr,xs⟩) (s.goC ⟨5,xa,xb,xc,xk,xn,xr,xs⟩) e w9):=fun e w9 hd=>hd.to (by
  unfold JSt.goC JSt.tupleC;rw[HE.out]
  simp only
  cases ha:s.at xa with
  | none=>unfold JSt.want;rw[ha];rfl
  | some t =>
    simp only
    by_cases hw:s.want xa 2 true=0
    ·rw[if_pos hw,QF hw]
     cases s.fields xs with
     | none=>rfl
     | some l =>
       simp only
       by_cases h4:4<TT.height (n:=7) (mkT 3 t.r l)
       ·rw[if_pos h4,if_pos h4];rfl
       ·rw[if_neg h4,if_neg h4];rfl
    ·rw[if_neg hw,Qr hw,Qr hw]) (fun h0=>by
  rw[Zc (by simp) (by simp),HE.out]
  unfold JSt.tupleC at h0;unfold JSt.tupleS;simp only
  cases ha:s.at xa with
  | none=>rfl
  | some t =>
    rw[ha] at h0
    simp only at h0 ⊢
    by_cases hw:s.want xa 2 true=0
    ·rw[QF hw] at h0
     rw[if_pos hw]
     cases hl:s.fields xs with
     | none=>simp[hl] at h0
     | some l =>
       rw[hl] at h0
       simp only at h0 ⊢
       by_cases h4:4<TT.height (n:=7) (mkT 3 t.r l)
       ·rw[if_pos h4] at h0;cases h0
       ·rw[if_neg h4]
    ·rw[Qr hw] at h0;exact absurd h0 hw)
 have CM:=Qa (QgO xa rfl (HF.out.2.2 rfl) HG.out HJ.out HA.out H.out);go_wp2_with fail
 refine CM.out.mono ?_;rintro e' w9 hd;have FF:Hid (Q6 w b O A s (s.next ⟨5,xa,xb,xc,xk,xn,xr,xs⟩) (s.goC ⟨5,xa,xb,xc,xk,xn,xr,xs⟩) e' w9):=HE2.out _ _ (hd.after HB.out);rcases hd with ⟨h1,rfl,h3⟩|⟨h1,rfl,h3⟩
 rotate_left
 ·exact⟨rfl,FF.out⟩
 clear h1 h3 CM;go_wp2
 exact bodyPost_end (v:=.tuple #[]) (by simp[results,results71,go_sem]) rfl FF.out
theorem Qie {w:World}{b:Nat}{O A Q:Nat→Prop}{s:JSt}{x:Qy}{rg ag:Option Addr}{rc ac:Nat}(hA:∀ k,A k→k<w.heap.size) (hJ:JOk s) (h:SAt w b O A s) (hregs:intsL.In w Q x.regs [.slice rg x.regs.length rc]) (hargs:intsL.In w Q x.args [.slice ag x.args.length ac]) (hrc:x.regs.length≤rc) (hrng:Zx x) (hf:x.form s.m.length=0) (hop:x.op=8) :
 Calls prog 71 #[.pointer (some ⟨b,0,none⟩),QaR x rg ag rc ac] w fun e w'=>Q6 w b O A s (s.next x) (s.goC x) e w':=by
 have hE:=QaV (s:=s) hop;obtain⟨op,xa,xb,xc,xk,xn,xr,xs⟩:=x
 have hop:op=8:=hop;subst hop;have HE:=Qa hE;obtain⟨f1,f2,f3,-⟩:=Zb hf
 have HF:=Qa (And.intro f1 (And.intro f2 f3));obtain⟨ra,rb,rcc⟩:=hrng
 have HI:=Qa (And.intro ra (And.intro rb rcc));have HJ:=Qa hJ;have H0:=Qa h;have HA0:=Qa hA;have hL:=hJ.vals;have b1:=QN w (.cells #[.int .i64 8,.int .i64 xa,.int .i64 xb,.int .i64 xc,.int .i64 xk,.int .i64 xn,.slice rg xr.length rc,.slice ag xs.length ac] 59);have H:=Qa (h.below b1);have HR:Hid (intsL.In _ Q xr [.slice rg xr.length rc]):=Lay.below hregs b1;have HG:Hid (intsL.In _ Q xs [.slice ag xs.length ac]):=Lay.below hargs b1;have HB:=Qa b1;have HA:=Qa (fun k hk=>Zl (hA k hk) b1.size);have HO:=Qa (fun k hk=>Zl (hA k (h.sub k hk)) b1.size);have X1:Hid (Blk (w.alloc (.cells #[.int .i64 8,.int .i64 xa,.int .i64 xb,.int .i64 xc,.int .i64 xk,.int .i64 xn,.slice rg xr.length rc,.slice ag xs.length ac] 59)) w.heap.size #[.int .i64 8,.int .i64 xa,.int .i64 xb,.int .i64 xc,.int .i64 xk,.int .i64 xn,.slice rg xr.length rc,.slice ag xs.length ac] 59):=Blk.new _ _ _;have HRC:Hid (xr.length≤rc):=hrc;clear h hA hJ b1 hregs hargs hE hf f1 f2 f3 ra rb rcc hrc;go_enter func71,ntmps71
 go_upto_region 1 with fail
 generalize w.alloc (.cells #[.int .i64 8,.int .i64 xa,.int .i64 xb,.int .i64 xc,.int .i64 xk,.int .i64 xn,.slice rg xr.length rc,.slice ag xs.length ac] 59)=w1 at H HR HG HB HA HO X1 ⊢;obtain⟨X,hX⟩:∃ X,w.heap.size=X:=⟨_,rfl⟩
 rw[hX] at X1 ⊢
 clear hX;have x0:=Qb X1.out 0 _ rfl;have x1:=Qb X1.out 1 _ rfl;have x2:=Qb X1.out 2 _ rfl;have x3:=Qb X1.out 3 _ rfl;have x4:=Qb X1.out 4 _ rfl;have x6:=Qb X1.out 6 _ rfl;have x7:=Qb X1.out 7 _ rfl
 have HE2:Hid (∀ e w9,(∀ t,(s.at xa=some t∨(s.at xa=none∧t=tInt))→Q6 w b O A s { s with L:=s.L++[mkT 4 t.r []] } (s.arrayC xa xb) e w9)→Q6 w b O A s (s.next ⟨8,xa,xb,xc,xk,xn,xr,xs⟩) (s.goC ⟨8,xa,xb,xc,xk,xn,xr,xs⟩) e w9):=fun e w9 hd=>by
  cases ha:s.at xa with
  | none =>
    refine(hd tInt (.inr ⟨ha,rfl⟩)).to (by unfold JSt.goC JSt.arrayC;rw[HE.out];simp only[ha];unfold JSt.want;rw[ha];rfl) (fun h0=>?_)
    unfold JSt.arrayC JSt.want at h0;rw[ha] at h0
    cases h0
  | some t =>
    refine(hd t (.inl ha)).to (by unfold JSt.goC JSt.arrayC;rw[HE.out];simp only[ha];rfl) (fun h0=>?_)
    rw[Zc (by simp) (by simp),HE.out]
    simp only[ha]
 have CM:=Qa (Qg2 xa xb HI.out.2.1 HJ.out.regs hL HA.out H.out);go_wp2_with fail
 refine CM.out.mono ?_;rintro e' w9 hd;have FF:Hid (Q6 w b O A s (s.next ⟨8,xa,xb,xc,xk,xn,xr,xs⟩) (s.goC ⟨8,xa,xb,xc,xk,xn,xr,xs⟩) e' w9):=HE2.out _ _ (fun t ht=>(hd t ht).after HB.out);have hd:=hd ((s.at xa).getD tInt) (by cases s.at xa with | none=>exact .inr ⟨rfl,rfl⟩ | some t=>exact .inl rfl);rcases hd with ⟨h1,rfl,h3⟩|⟨h1,rfl,h3⟩
 rotate_left
 ·exact⟨rfl,FF.out⟩
 clear h1 h3 CM;go_wp2
 exact bodyPost_end (v:=.tuple #[]) (by simp[results,results71,go_sem]) rfl FF.out
theorem QiS {w:World}{b:Nat}{O A Q:Nat→Prop}{s:JSt}{x:Qy}{rg ag:Option Addr}{rc ac:Nat}(hA:∀ k,A k→k<w.heap.size) (hJ:JOk s) (h:SAt w b O A s) (hregs:intsL.In w Q x.regs [.slice rg x.regs.length rc]) (hargs:intsL.In w Q x.args [.slice ag x.args.length ac]) (hrc:x.regs.length≤rc) (hrng:Zx x) (hf:x.form s.m.length=0) (hop:x.op=9) :
 Calls prog 71 #[.pointer (some ⟨b,0,none⟩),QaR x rg ag rc ac] w fun e w'=>Q6 w b O A s (s.next x) (s.goC x) e w':=by
 have hE:=Qbp (s:=s) hop;obtain⟨op,xa,xb,xc,xk,xn,xr,xs⟩:=x
 have hop:op=9:=hop;subst hop;have HE:=Qa hE;obtain⟨f1,f2,f3,-⟩:=Zb hf
 have HF:=Qa (And.intro f1 (And.intro f2 f3));obtain⟨ra,rb,rcc⟩:=hrng
 have HI:=Qa (And.intro ra (And.intro rb rcc));have HJ:=Qa hJ;have H0:=Qa h;have HA0:=Qa hA;have hL:=hJ.vals;have b1:=QN w (.cells #[.int .i64 9,.int .i64 xa,.int .i64 xb,.int .i64 xc,.int .i64 xk,.int .i64 xn,.slice rg xr.length rc,.slice ag xs.length ac] 59);have H:=Qa (h.below b1);have HR:Hid (intsL.In _ Q xr [.slice rg xr.length rc]):=Lay.below hregs b1;have HG:Hid (intsL.In _ Q xs [.slice ag xs.length ac]):=Lay.below hargs b1;have HB:=Qa b1;have HA:=Qa (fun k hk=>Zl (hA k hk) b1.size);have HO:=Qa (fun k hk=>Zl (hA k (h.sub k hk)) b1.size);have X1:Hid (Blk (w.alloc (.cells #[.int .i64 9,.int .i64 xa,.int .i64 xb,.int .i64 xc,.int .i64 xk,.int .i64 xn,.slice rg xr.length rc,.slice ag xs.length ac] 59)) w.heap.size #[.int .i64 9,.int .i64 xa,.int .i64 xb,.int .i64 xc,.int .i64 xk,.int .i64 xn,.slice rg xr.length rc,.slice ag xs.length ac] 59):=Blk.new _ _ _;have HRC:Hid (xr.length≤rc):=hrc;clear h hA hJ b1 hregs hargs hE hf f1 f2 f3 ra rb rcc hrc;go_enter func71,ntmps71
 go_upto_region 1 with fail
 generalize w.alloc (.cells #[.int .i64 9,.int .i64 xa,.int .i64 xb,.int .i64 xc,.int .i64 xk,.int .i64 xn,.slice rg xr.length rc,.slice ag xs.length ac] 59)=w1 at H HR HG HB HA HO X1 ⊢;obtain⟨X,hX⟩:∃ X,w.heap.size=X:=⟨_,rfl⟩
 rw[hX] at X1 ⊢
 clear hX;have x0:=Qb X1.out 0 _ rfl;have x1:=Qb X1.out 1 _ rfl;have x2:=Qb X1.out 2 _ rfl;have x3:=Qb X1.out 3 _ rfl;have x4:=Qb X1.out 4 _ rfl;have x6:=Qb X1.out 6 _ rfl;have x7:=Qb X1.out 7 _ rfl;have EG:Hid (s.goC ⟨9,xa,xb,xc,xk,xn,xr,xs⟩=code2 (code2 (s.want xa 4 true) (s.want xb 1 false)) (Zh s.L.length 1)):=by show _=_;unfold JSt.goC;rw[HE.out];rfl
 have C1:=Qa (Qak xa 4 hL HO.out H.out);go_wp2_with fail
 refine(C1.out ).mono ?_
 rintro e' w2 ⟨hq,b2⟩;have HB2:=Qa (HB.out.trans (b2.mono HB.out.size));have H2:=Qa (H.out.below b2);have HA2:=Qa (fun k hk=>Zl (HA.out k hk) b2.size);have HO2:=Qa (fun k hk=>Zl (HO.out k hk) b2.size);rcases hq with ⟨hc,y2,rfl,hy⟩|⟨hc,rfl⟩
 rotate_left
 ·exact⟨rfl,Q6.bad ((fun hc=>by rw[EG.out,Qr (by rw[Qr hc];exact hc),Qr hc]) hc) hc (STo.of_below H0.out HB2.out)⟩
 have HC2:=Qa hc;have x2:=Qi x2 b2;clear hc b2 C1;have C2:=Qa (fun d=>QbX xb HI.out.2.1 d hL HO2.out H2.out);go_wp2_with fail
 refine(C2.out _).mono ?_
 rintro e' w3 ⟨hq,b3⟩;have HB3:=Qa (HB2.out.trans (b3.mono HB2.out.size));have H3:=Qa (H2.out.below b3);have HA3:=Qa (fun k hk=>Zl (HA2.out k hk) b3.size);have HO3:=Qa (fun k hk=>Zl (HO2.out k hk) b3.size);rcases hq with ⟨hc,y3,rfl,hy⟩|⟨hc,rfl⟩
 rotate_left
 ·exact⟨rfl,Q6.bad ((fun hc=>by rw[EG.out,QF HC2.out,Qr hc]) hc) hc (STo.of_below H0.out HB3.out)⟩
 subst hy;have HC3:=Qa hc;clear hc b3 C2;have HE2:Hid (∀ e w9,Q6 w b O A s { s with L:=s.L++[tInt] } (Zh s.L.length 1) e w9→Q6 w b O A s (s.next ⟨9,xa,xb,xc,xk,xn,xr,xs⟩) (s.goC ⟨9,xa,xb,xc,xk,xn,xr,xs⟩) e w9):=fun e w9 hd=>hd.to (by rw[EG.out,QF HC2.out,QF HC3.out]) (fun _=>by rw[Zc (by simp) (by simp),HE.out]);have CM:=Qa (QbA hL HA3.out H3.out);go_wp2_with fail
 refine CM.out.mono ?_;rintro e' w9 hd;have FF:Hid (Q6 w b O A s (s.next ⟨9,xa,xb,xc,xk,xn,xr,xs⟩) (s.goC ⟨9,xa,xb,xc,xk,xn,xr,xs⟩) e' w9):=HE2.out _ _ (hd.after HB3.out);rcases hd with ⟨h1,rfl,h3⟩|⟨h1,rfl,h3⟩
 rotate_left
 ·exact⟨rfl,FF.out⟩
 clear h1 h3 CM;go_wp2
 exact bodyPost_end (v:=.tuple #[]) (by simp[results,results71,go_sem]) rfl FF.out
theorem Qha {w:World}{b:Nat}{O A Q:Nat→Prop}{s:JSt}{x:Qy}{rg ag:Option Addr}{rc ac:Nat}(hA:∀ k,A k→k<w.heap.size) (hJ:JOk s) (h:SAt w b O A s) (hregs:intsL.In w Q x.regs [.slice rg x.regs.length rc]) (hargs:intsL.In w Q x.args [.slice ag x.args.length ac]) (hrc:x.regs.length≤rc) (hrng:Zx x) (hf:x.form s.m.length=0) (hop:x.op=10) :
 Calls prog 71 #[.pointer (some ⟨b,0,none⟩),QaR x rg ag rc ac] w fun e w'=>Q6 w b O A s (s.next x) (s.goC x) e w':=by
 have hE:=QaP (s:=s) hop;obtain⟨op,xa,xb,xc,xk,xn,xr,xs⟩:=x
 have hop:op=10:=hop;subst hop;have HE:=Qa hE;obtain⟨f1,f2,f3,-⟩:=Zb hf
 have HF:=Qa (And.intro f1 (And.intro f2 f3));obtain⟨ra,rb,rcc⟩:=hrng
 have HI:=Qa (And.intro ra (And.intro rb rcc));have HJ:=Qa hJ;have H0:=Qa h;have HA0:=Qa hA;have hL:=hJ.vals;have b1:=QN w (.cells #[.int .i64 10,.int .i64 xa,.int .i64 xb,.int .i64 xc,.int .i64 xk,.int .i64 xn,.slice rg xr.length rc,.slice ag xs.length ac] 59);have H:=Qa (h.below b1);have HR:Hid (intsL.In _ Q xr [.slice rg xr.length rc]):=Lay.below hregs b1;have HG:Hid (intsL.In _ Q xs [.slice ag xs.length ac]):=Lay.below hargs b1;have HB:=Qa b1;have HA:=Qa (fun k hk=>Zl (hA k hk) b1.size);have HO:=Qa (fun k hk=>Zl (hA k (h.sub k hk)) b1.size);have X1:Hid (Blk (w.alloc (.cells #[.int .i64 10,.int .i64 xa,.int .i64 xb,.int .i64 xc,.int .i64 xk,.int .i64 xn,.slice rg xr.length rc,.slice ag xs.length ac] 59)) w.heap.size #[.int .i64 10,.int .i64 xa,.int .i64 xb,.int .i64 xc,.int .i64 xk,.int .i64 xn,.slice rg xr.length rc,.slice ag xs.length ac] 59):=Blk.new _ _ _;have HRC:Hid (xr.length≤rc):=hrc;clear h hA hJ b1 hregs hargs hE hf f1 f2 f3 ra rb rcc hrc;go_enter func71,ntmps71
 go_upto_region 1 with fail
 generalize w.alloc (.cells #[.int .i64 10,.int .i64 xa,.int .i64 xb,.int .i64 xc,.int .i64 xk,.int .i64 xn,.slice rg xr.length rc,.slice ag xs.length ac] 59)=w1 at H HR HG HB HA HO X1 ⊢;obtain⟨X,hX⟩:∃ X,w.heap.size=X:=⟨_,rfl⟩
 rw[hX] at X1 ⊢
 clear hX;have x0:=Qb X1.out 0 _ rfl;have x1:=Qb X1.out 1 _ rfl;have x2:=Qb X1.out 2 _ rfl;have x3:=Qb X1.out 3 _ rfl;have x4:=Qb X1.out 4 _ rfl;have x6:=Qb X1.out 6 _ rfl;have x7:=Qb X1.out 7 _ rfl;have EG:Hid (s.goC ⟨10,xa,xb,xc,xk,xn,xr,xs⟩=code2 (s.want xa 4 true) (code2 (s.want xb 1 false) (s.want xc 1 false))):=by show _=_;unfold JSt.goC;rw[HE.out];show code2 _ (Zh s.L.length 0)=_;rw[QbS hL,QfO]
 have C1:=Qa (Qak xa 4 hL HO.out H.out);go_wp2_with fail
 refine(C1.out ).mono ?_
 rintro e' w2 ⟨hq,b2⟩;have HB2:=Qa (HB.out.trans (b2.mono HB.out.size));have H2:=Qa (H.out.below b2);have HA2:=Qa (fun k hk=>Zl (HA.out k hk) b2.size);have HO2:=Qa (fun k hk=>Zl (HO.out k hk) b2.size);rcases hq with ⟨hc,y2,rfl,hy⟩|⟨hc,rfl⟩
 rotate_left
 ·exact⟨rfl,Q6.bad ((fun hc=>by rw[EG.out,Qr hc]) hc) hc (STo.of_below H0.out HB2.out)⟩
 have HC2:=Qa hc;have x2:=Qi x2 b2;have x3:=Qi x3 b2;clear hc b2 C1;have C2:=Qa (fun d=>QeZ xb xc HI.out.2.1 HI.out.2.2 d hL HO2.out H2.out);go_wp2_with fail
 refine(C2.out _).mono ?_
 rintro e' w3 ⟨hq,b3⟩;have HB3:=Qa (HB2.out.trans (b3.mono HB2.out.size));have H3:=Qa (H2.out.below b3);have HA3:=Qa (fun k hk=>Zl (HA2.out k hk) b3.size);have HO3:=Qa (fun k hk=>Zl (HO2.out k hk) b3.size);rcases hq with ⟨hc,y3,rfl,hy⟩|⟨hc,rfl⟩
 rotate_left
 ·exact⟨rfl,Q6.bad ((fun hc=>by rw[EG.out,QF HC2.out]) hc) hc (STo.of_below H0.out HB3.out)⟩
 subst hy;have HC3:=Qa hc;clear hc b3 C2;have FF:Hid (Q6 w b O A s (s.next ⟨10,xa,xb,xc,xk,xn,xr,xs⟩) (s.goC ⟨10,xa,xb,xc,xk,xn,xr,xs⟩) (.returned (.tuple #[])) w3):=Q6.none H0.out HB3.out (by rw[EG.out,QF HC2.out,HC3.out]) (by rw[Zc (by simp) (by simp),HE.out];simp);go_wp2
 exact bodyPost_end (v:=.tuple #[]) (by simp[results,results71,go_sem]) rfl FF.out
theorem Qkm {w:World}{b:Nat}{O A Q:Nat→Prop}{s:JSt}{x:Qy}{rg ag:Option Addr}{rc ac:Nat}(hA:∀ k,A k→k<w.heap.size) (hJ:JOk s) (h:SAt w b O A s) (hregs:intsL.In w Q x.regs [.slice rg x.regs.length rc]) (hargs:intsL.In w Q x.args [.slice ag x.args.length ac]) (hrc:x.regs.length≤rc) (hrng:Zx x) (hf:x.form s.m.length=0) (hop:x.op=11) :
 Calls prog 71 #[.pointer (some ⟨b,0,none⟩),QaR x rg ag rc ac] w fun e w'=>Q6 w b O A s (s.next x) (s.goC x) e w':=by
 have hE:=Qbc (s:=s) hop;obtain⟨op,xa,xb,xc,xk,xn,xr,xs⟩:=x
 have hop:op=11:=hop;subst hop;have HE:=Qa hE;obtain⟨f1,f2,f3,-⟩:=Zb hf
 have HF:=Qa (And.intro f1 (And.intro f2 f3));obtain⟨ra,rb,rcc⟩:=hrng
 have HI:=Qa (And.intro ra (And.intro rb rcc));have HJ:=Qa hJ;have H0:=Qa h;have HA0:=Qa hA;have hL:=hJ.vals;have b1:=QN w (.cells #[.int .i64 11,.int .i64 xa,.int .i64 xb,.int .i64 xc,.int .i64 xk,.int .i64 xn,.slice rg xr.length rc,.slice ag xs.length ac] 59);have H:=Qa (h.below b1);have HR:Hid (intsL.In _ Q xr [.slice rg xr.length rc]):=Lay.below hregs b1;have HG:Hid (intsL.In _ Q xs [.slice ag xs.length ac]):=Lay.below hargs b1;have HB:=Qa b1;have HA:=Qa (fun k hk=>Zl (hA k hk) b1.size);have HO:=Qa (fun k hk=>Zl (hA k (h.sub k hk)) b1.size);have X1:Hid (Blk (w.alloc (.cells #[.int .i64 11,.int .i64 xa,.int .i64 xb,.int .i64 xc,.int .i64 xk,.int .i64 xn,.slice rg xr.length rc,.slice ag xs.length ac] 59)) w.heap.size #[.int .i64 11,.int .i64 xa,.int .i64 xb,.int .i64 xc,.int .i64 xk,.int .i64 xn,.slice rg xr.length rc,.slice ag xs.length ac] 59):=Blk.new _ _ _;have HRC:Hid (xr.length≤rc):=hrc;clear h hA hJ b1 hregs hargs hE hf f1 f2 f3 ra rb rcc hrc;go_enter func71,ntmps71
 go_upto_region 1 with fail
 generalize w.alloc (.cells #[.int .i64 11,.int .i64 xa,.int .i64 xb,.int .i64 xc,.int .i64 xk,.int .i64 xn,.slice rg xr.length rc,.slice ag xs.length ac] 59)=w1 at H HR HG HB HA HO X1 ⊢;obtain⟨X,hX⟩:∃ X,w.heap.size=X:=⟨_,rfl⟩
 rw[hX] at X1 ⊢
 clear hX;have x0:=Qb X1.out 0 _ rfl;have x1:=Qb X1.out 1 _ rfl;have x2:=Qb X1.out 2 _ rfl;have x3:=Qb X1.out 3 _ rfl;have x4:=Qb X1.out 4 _ rfl;have x6:=Qb X1.out 6 _ rfl;have x7:=Qb X1.out 7 _ rfl;have EG:Hid (s.goC ⟨11,xa,xb,xc,xk,xn,xr,xs⟩=code2 (s.want xa 4 true) (Zh s.L.length 1)):=by show _=_;unfold JSt.goC;rw[HE.out];rfl
 have C1:=Qa (Qak xa 4 hL HO.out H.out);go_wp2_with fail
 refine(C1.out ).mono ?_
 rintro e' w2 ⟨hq,b2⟩;have HB2:=Qa (HB.out.trans (b2.mono HB.out.size));have H2:=Qa (H.out.below b2);have HA2:=Qa (fun k hk=>Zl (HA.out k hk) b2.size);have HO2:=Qa (fun k hk=>Zl (HO.out k hk) b2.size);rcases hq with ⟨hc,y2,rfl,hy⟩|⟨hc,rfl⟩
 rotate_left
 ·exact⟨rfl,Q6.bad ((fun hc=>by rw[EG.out,Qr hc]) hc) hc (STo.of_below H0.out HB2.out)⟩
 have HC2:=Qa hc;clear hc b2 C1;have HE2:Hid (∀ e w9,Q6 w b O A s { s with L:=s.L++[tInt] } (Zh s.L.length 1) e w9→Q6 w b O A s (s.next ⟨11,xa,xb,xc,xk,xn,xr,xs⟩) (s.goC ⟨11,xa,xb,xc,xk,xn,xr,xs⟩) e w9):=fun e w9 hd=>hd.to (by rw[EG.out,QF HC2.out]) (fun _=>by rw[Zc (by simp) (by simp),HE.out]);have CM:=Qa (QbA hL HA2.out H2.out);go_wp2_with fail
 refine CM.out.mono ?_;rintro e' w9 hd;have FF:Hid (Q6 w b O A s (s.next ⟨11,xa,xb,xc,xk,xn,xr,xs⟩) (s.goC ⟨11,xa,xb,xc,xk,xn,xr,xs⟩) e' w9):=HE2.out _ _ (hd.after HB2.out);rcases hd with ⟨h1,rfl,h3⟩|⟨h1,rfl,h3⟩
 rotate_left
 ·exact⟨rfl,FF.out⟩
 clear h1 h3 CM;go_wp2
 exact bodyPost_end (v:=.tuple #[]) (by simp[results,results71,go_sem]) rfl FF.out
theorem Qj9 {w:World}{b:Nat}{O A Q:Nat→Prop}{s:JSt}{x:Qy}{rg ag:Option Addr}{rc ac:Nat}(hA:∀ k,A k→k<w.heap.size) (hJ:JOk s) (h:SAt w b O A s) (hregs:intsL.In w Q x.regs [.slice rg x.regs.length rc]) (hargs:intsL.In w Q x.args [.slice ag x.args.length ac]) (hrc:x.regs.length≤rc) (hrng:Zx x) (hf:x.form s.m.length=0) (hop:x.op=13) :
 Calls prog 71 #[.pointer (some ⟨b,0,none⟩),QaR x rg ag rc ac] w fun e w'=>Q6 w b O A s (s.next x) (s.goC x) e w':=by
 have hE:=QbF (s:=s) hop;obtain⟨op,xa,xb,xc,xk,xn,xr,xs⟩:=x
 have hop:op=13:=hop;subst hop;have HE:=Qa hE;obtain⟨f1,f2,f3,-⟩:=Zb hf
 have HF:=Qa (And.intro f1 (And.intro f2 f3));obtain⟨ra,rb,rcc⟩:=hrng
 have HI:=Qa (And.intro ra (And.intro rb rcc));have HJ:=Qa hJ;have H0:=Qa h;have HA0:=Qa hA;have hL:=hJ.vals;have b1:=QN w (.cells #[.int .i64 13,.int .i64 xa,.int .i64 xb,.int .i64 xc,.int .i64 xk,.int .i64 xn,.slice rg xr.length rc,.slice ag xs.length ac] 59);have H:=Qa (h.below b1);have HR:Hid (intsL.In _ Q xr [.slice rg xr.length rc]):=Lay.below hregs b1;have HG:Hid (intsL.In _ Q xs [.slice ag xs.length ac]):=Lay.below hargs b1;have HB:=Qa b1;have HA:=Qa (fun k hk=>Zl (hA k hk) b1.size);have HO:=Qa (fun k hk=>Zl (hA k (h.sub k hk)) b1.size);have X1:Hid (Blk (w.alloc (.cells #[.int .i64 13,.int .i64 xa,.int .i64 xb,.int .i64 xc,.int .i64 xk,.int .i64 xn,.slice rg xr.length rc,.slice ag xs.length ac] 59)) w.heap.size #[.int .i64 13,.int .i64 xa,.int .i64 xb,.int .i64 xc,.int .i64 xk,.int .i64 xn,.slice rg xr.length rc,.slice ag xs.length ac] 59):=Blk.new _ _ _;have HRC:Hid (xr.length≤rc):=hrc;clear h hA hJ b1 hregs hargs hE hf f1 f2 f3 ra rb rcc hrc;go_enter func71,ntmps71
 go_upto_region 1 with fail
 generalize w.alloc (.cells #[.int .i64 13,.int .i64 xa,.int .i64 xb,.int .i64 xc,.int .i64 xk,.int .i64 xn,.slice rg xr.length rc,.slice ag xs.length ac] 59)=w1 at H HR HG HB HA HO X1 ⊢;obtain⟨X,hX⟩:∃ X,w.heap.size=X:=⟨_,rfl⟩
 rw[hX] at X1 ⊢
 clear hX;have x0:=Qb X1.out 0 _ rfl;have x1:=Qb X1.out 1 _ rfl;have x2:=Qb X1.out 2 _ rfl;have x3:=Qb X1.out 3 _ rfl;have x4:=Qb X1.out 4 _ rfl;have x6:=Qb X1.out 6 _ rfl;have x7:=Qb X1.out 7 _ rfl;have EG:Hid (s.goC ⟨13,xa,xb,xc,xk,xn,xr,xs⟩=s.want xa 1 false):=by show _=_;unfold JSt.goC;rw[HE.out];show code2 _ (Zh s.L.length 0)=_;rw[QbS hL,QfO]
 have C1:=Qa (fun d=>QbX xa HI.out.1 d hL HO.out H.out);go_wp2_with fail
 refine(C1.out _).mono ?_
 rintro e' w2 ⟨hq,b2⟩;have HB2:=Qa (HB.out.trans (b2.mono HB.out.size));have H2:=Qa (H.out.below b2);have HA2:=Qa (fun k hk=>Zl (HA.out k hk) b2.size);have HO2:=Qa (fun k hk=>Zl (HO.out k hk) b2.size);rcases hq with ⟨hc,y2,rfl,hy⟩|⟨hc,rfl⟩
 rotate_left
 ·exact⟨rfl,Q6.bad ((fun hc=>by rw[EG.out]) hc) hc (STo.of_below H0.out HB2.out)⟩
 subst hy;have HC2:=Qa hc;clear hc b2 C1;have FF:Hid (Q6 w b O A s (s.next ⟨13,xa,xb,xc,xk,xn,xr,xs⟩) (s.goC ⟨13,xa,xb,xc,xk,xn,xr,xs⟩) (.returned (.tuple #[])) w2):=Q6.none H0.out HB2.out (by rw[EG.out,HC2.out]) (by rw[Zc (by simp) (by simp),HE.out];simp);go_wp2
 exact bodyPost_end (v:=.tuple #[]) (by simp[results,results71,go_sem]) rfl FF.out
def JSt.fieldC (s:JSt) (a:Int) (k:Nat):Int:=code2 (s.want a 3 true) (match s.at a with | none=>0 | some t=>if k<t.2.2.length then 0 else 9)
def QlH (w:World) (A:Nat→Prop) (s:JSt) (a:Int) (k:Nat) (x:Value):Prop:=∃ (t:TT 6) (u:TT 5) (p:Option Addr) (c:Nat),s.at a=some t∧t.2.2[k]?=some u∧x=Tv u p c∧TIn w (fun g=>¬ A g) u p
theorem Qdc {s:JSt}{a:Int}{k:Nat}(h:s.want a 3 true≠0):s.fieldC a k=s.want a 3 true:=by unfold JSt.fieldC code2;rw[if_neg h]
theorem QhY {s:JSt}{a:Int}{k:Nat}{t:TT 6}(h:s.want a 3 true=0) (ha:s.at a=some t):s.fieldC a k=if k<t.2.2.length then 0 else 9:=by unfold JSt.fieldC code2;rw[if_pos h,ha]
theorem Qdt {w:World}{b:Nat}{O A:Nat→Prop}{s:JSt}(a:Int) (k:Nat) (hk100:k≤100) (hL:s.L.length≤80) (hO:∀ k,O k→k<w.heap.size) (h:SAt w b O A s) :
 Calls prog 121 #[.pointer (some ⟨b,0,none⟩),.int .i64 a,.int .i64 k] w fun e w'=>ZW (s.fieldC a k) (QlH w' A s a k) e∧Below w.heap.size w w':=by
 have b1:=QN w (.cells #[.int .i64 0,.int .i64 0,.slice none 0 0] 79);have H1:=Qa (h.more hO b1);have B1:=Qa b1;have X1:Hid (Blk (w.alloc (.cells #[.int .i64 0,.int .i64 0,.slice none 0 0] 79)) w.heap.size #[.int .i64 0,.int .i64 0,.slice none 0 0] 79):=Blk.new _ _ _;have HO:=Qa hO;clear h b1 hO;go_enter func121,ntmps121
 go_upto_region 1 with fail
 generalize w.alloc (.cells #[.int .i64 0,.int .i64 0,.slice none 0 0] 79)=w1 at H1 B1 X1 ⊢;obtain⟨R,hR⟩:∃ R,w.heap.size=R:=⟨_,rfl⟩
 have HR:=Qa (Nat.le_of_eq hR);rw[hR] at X1 ⊢
 clear hR;go_wp2_with fail
 refine(Qak a 3 hL (fun k hk=>Zl (HO.out k hk) B1.out.size) H1.out).mono ?_
 rintro e' w2 ⟨hO,b2⟩;have B2:Hid (Below w.heap.size w w2):=B1.out.trans (b2.mono B1.out.size);have X2:=Qa (X1.out.below b2);rcases hO with ⟨hc,x,rfl,t,p,c,ha,rfl,ht,hok⟩|⟨hc,rfl⟩
 rotate_left
 ·exact⟨rfl,.inr ⟨by rw[Qdc hc];exact hc,by rw[Qdc hc]⟩,B2.out⟩
 have T3:=Qa (Qg7.mk1 (c:=c) B2.out X2.out HR.out ht);have HA:=Qa ha;have E:=Qa (QhY (k:=k) hc ha);clear ht ha hok b2 X1 B1 H1 X2 hc;go_upto_region 2 with fail
 generalize w2.alloc (.cells #[.int .i64 t.kind,.int .i64 t.r,.slice p t.len c] 79)=w3 at T3 ⊢;generalize w2.heap.size=B at T3 ⊢;obtain⟨y0,y1,y2,r0,r1,r2,z0,z1,z2⟩:=T3.out.cells
 have hne:=T3.out.ne;have hTl:Hid (t.len=t.2.2.length):=TT.len_eq t;by_cases hkl:k<t.2.2.length
 rotate_left
 ·have E9:Hid (s.fieldC a k=9):=by show _=_;rw[E.out,if_neg hkl]
  have hlt:¬ (k:Int)<t.len:=by rw[hTl.out];omega
  clear hkl;generalize t.len=tl at y2 hlt;go_wp2_with fail
  refine(Zq _ 9).mono ?_
  rintro e' w' ⟨rfl,hw⟩;subst hw;exact⟨rfl,ZW.bad E9.out (by decide),T3.out.bel⟩
 ·have E9:Hid (s.fieldC a k=0):=by show _=_;rw[E.out,if_pos hkl]
  have hlt:(k:Int)<t.len:=by rw[hTl.out];omega
  have HU:Hid (t.2.2[k]?=some t.2.2[k]):=Zg hkl;generalize t.2.2[k]=u at HU;obtain⟨g,o,p',c',rfl,hg,u0,u1,u2,ut⟩:=T3.out.lay k u HU.out
  have UT:Hid (TIn w3 (fun g=>¬ (A g∨w.heap.size≤g)) u p'):=ut;have hRg:¬ R=g:=fun e=>by subst e;exact hg (.inr T3.out.farR)
  have hBg:¬ B=g:=fun e=>by subst e;exact hg (.inr T3.out.farB)
  clear ut hkl hg;obtain⟨x9,b9⟩:=Qlw (k:=u.kind) (r:=u.r) (q:=p') (l:=u.len) (d:=c') T3.out.bel T3.out.res T3.out.farR
  have X9:=Qa x9;have B9:=Qa b9;clear x9 b9;generalize ht':t.len=tl at y2 hlt;go_wp2_with (go_at_call 162;refine(Zp _ _).mono ?_;rintro e' w' ⟨rfl,hw⟩;have hw:=hw.symm;subst hw)
  generalize ((w3.setCell ⟨R,0,none⟩ (.int .i64 u.kind)).setCell ⟨R,1,none⟩ (.int .i64 u.r)).setCell ⟨R,2,none⟩ (.slice p' u.len c')=w9 at X9 B9 ⊢;have x0:=Qb X9.out 0 _ rfl;have x1:=Qb X9.out 1 _ rfl;have x2:=Qb X9.out 2 _ rfl;exact bodyPost_ret (v:=Tv u p' c') (by simp[results,results121,go_sem,x0,x1,x2]) rfl ⟨ZW.good E9.out ⟨t,u,p',c',HA.out,HU.out,rfl,(UT.out.over T3.out.bel B9.out).less⟩,B9.out⟩
theorem QgK {w:World}{Q:Nat→Prop}{l:List Int}{p:Option Addr}{N c:Nat}(x:Int) (hN:l.length=N) (hN2:N≤100000) (hl:intsL.In w Q l [.slice p N c]) :
 Calls prog 220 #[.slice p N c,.int .i64 x] w fun e w'=>(∃ i:Int,e=.returned (.int .i64 i)∧(0≤i↔x∈l))∧w'=w:=by
 have HL:=Qa hl;have HN:=Qa hN;clear hl hN;go_enter func220,ntmps220
 go_wp2
 go_loop [8] (fun i=>∃ k:Nat,k≤N∧i=.int .i64 k∧∀ (j:Nat) (y:Int),j<k→l[j]?=some y→x≠y) (fun i=>N - (intOf i).toNat)
 case atStart=>exact⟨0,Nat.zero_le _,rfl,fun j y hj=>by omega⟩
 case round =>
  obtain⟨k,hk,rfl,hz⟩:=hrel
  have HZ:=Qa hz;clear hz;by_cases hlt:k<N
  ·have hlt':(k:Int)<N:=by omega
   have hk2:k<l.length:=by rw[HN.out];exact hlt
   obtain⟨g,o,rfl,-,hg,hc0⟩:=ZC HL.out hk2
   obtain⟨y,hy⟩:∃ y,l[k]?=some y:=⟨_,Zg hk2⟩
   rw[show l.getD k 0=y by rw[List.getD_eq_getElem?_getD,hy];rfl] at hc0
   have HX:=Qa hy;clear hy hk2;by_cases hxy:x=y
   ·have hxy':(x==y)=true:=by simpa using hxy
    have HM:Hid (x∈l):=by show _;rw[hxy];exact Zm HX.out
    clear hxy;go_wp2
    go_ret;exact⟨⟨k,rfl,by simp[HM.out]⟩,rfl⟩
   ·have hxy':(x==y)=false:=by simpa using hxy
    have HXY:=Qa hxy;clear hxy;go_wp2
    go_round
    case rel =>
     refine⟨k+1,hlt,by go_num,fun j y' hj hy=>?_⟩
     rcases Nat.lt_or_ge j k with h | h
     ·exact HZ.out j y' h hy
     ·have:j=k:=by omega
      subst this;have e:=HX.out.symm.trans hy;injection e with e
      subst e;exact HXY.out
    case measure=>simp[intOf];omega
  ·have hlt':¬ (k:Int)<N:=by omega
   go_wp2
   go_ret;refine⟨⟨-1,rfl,by omega,fun hm=>?_⟩,rfl⟩
   obtain⟨j,hj,e⟩:=List.mem_iff_getElem.1 hm
   exact absurd e.symm (HZ.out j _ (by have:=HN.out;omega) (Zg hj))
theorem QdR {w:World}{Q:Nat→Prop}{l:List Int}{p:Option Addr}{N c:Nat}(x:Int) (hN:l.length=N) (hN2:N≤100000) (hl:intsL.In w Q l [.slice p N c]) :
 Calls prog 201 #[.slice p N c,.int .i64 x] w fun e w'=>e=.returned (.bool (inB l x))∧w'=w:=by
 have C:=Qa (QgK x hN hN2 hl);clear hl hN;go_enter func201,ntmps201
 go_wp2_with fail
 refine C.out.mono ?_;rintro e w' ⟨⟨i,rfl,hi⟩,hw⟩;have hw:=hw.symm;subst hw
 have E:Hid (inB l x=decide (i≥0)):=by
  show _=_;rw[Bool.eq_iff_iff,QdF]
  simp[hi]
 clear C hi;go_wp2
 go_ret;exact⟨by rw[E.out];rfl,rfl⟩
theorem Qft (H:List Bool) (l:List Int){k:Nat}{x:Int}(hx:l[k]?=some x):QB H (l.take k) (l.drop k)=if hHas H x then (if inB (l.take k) x then 13 else QB H (l.take (k+1)) (l.drop (k+1))) else 10:=by
 obtain⟨hk,e⟩:=Zi hx
 rw[List.drop_eq_getElem_cons hk,e,QB,List.take_add_one,hx]
 rfl
def Qcf (H:List Bool) (l:List Int) (asked:Int):Int:=if (l.length:Int)=asked then QB H [] l else 2
theorem Qd6 {w:World}{b:Nat}{O A Q:Nat→Prop}{s:JSt}{l:List Int}{p:Option Addr}{N c:Nat}(asked:Int) (hN:l.length=N) (hN2:N≤100000) (hNc:N≤c) (hl:intsL.In w Q l [.slice p N c]) (h:SAt w b O A s) :
 Calls prog 167 #[.pointer (some ⟨b,0,none⟩),.slice p N c,.int .i64 asked] w fun e w'=>ZW (Qcf s.H l asked) VNone e∧w'=w:=by
 have HL:=Qa hl;have HN:=Qa hN;obtain⟨pm,cm,hh,a1,c1,a2,c2,a3,c3,aL,cL,RR⟩:=h.read
 obtain⟨-,q1,-⟩:=RR.cells
 have HH:=Qa RR.held;clear h hl hN RR;by_cases hNM:(N:Int)=asked
 rotate_left
 ·have hNM':((N:Int)==asked)=false:=by simpa using hNM
  have E:Hid (Qcf s.H l asked=2):=by show _=_;unfold Qcf;rw[HN.out,if_neg hNM]
  go_enter func167,ntmps167
  go_wp2_with fail
  refine(Zq _ 2).mono ?_
  rintro e' w' ⟨rfl,hw⟩;subst hw;exact⟨rfl,ZW.bad E.out (by decide),rfl⟩
 subst hNM;have hNM':((N:Int)==(N:Int))=true:=by simp
 have E:Hid (Qcf s.H l N=QB s.H [] l):=by show _=_;unfold Qcf;rw[HN.out,if_pos rfl]
 go_enter func167,ntmps167
 go_wp2_with (go_at_call 162;refine(Zp _ _).mono ?_;rintro e' w' ⟨rfl,hw⟩;have hw:=hw.symm;subst hw)
 go_loop [15] (fun i=>∃ k:Nat,k≤N∧i=.int .i64 k∧QB s.H [] l=QB s.H (l.take k) (l.drop k)) (fun i=>N - (intOf i).toNat)
 case atStart=>exact⟨0,Nat.zero_le _,rfl,rfl⟩
 case round =>
  obtain⟨k,hk,rfl,hz⟩:=hrel
  have HZ:=Qa hz;clear hz;by_cases hlt:k<N
  ·have hlt':(k:Int)<N:=by omega
   have hkc:k≤c:=by omega
   have hk2:k<l.length:=by rw[HN.out];exact hlt
   obtain⟨g,o,rfl,-,hg,hc0⟩:=ZC HL.out hk2
   obtain⟨y,hy⟩:∃ y,l[k]?=some y:=⟨_,Zg hk2⟩
   rw[show l.getD k 0=y by rw[List.getD_eq_getElem?_getD,hy];rfl] at hc0
   have HS:=Qa (HZ.out.trans (Qft s.H l hy));have C:=Qa (QbL y HH.out)
   cases hq:hHas s.H y with
   | false =>
     rw[hq] at C
     have E9:Hid (Qcf s.H l N=10):=by show _=_;rw[E.out,HS.out,hq];rfl
     clear hy hk2 hq;go_wp2_with (go_at_call 33;refine(C.out).mono ?_;rintro e w' ⟨rfl,hw⟩;have hw:=hw.symm;subst hw)
     refine(Zq _ 10).mono ?_
     rintro e' w' ⟨rfl,hw⟩;subst hw;exact⟨rfl,ZW.bad E9.out (by decide),rfl⟩
   | true =>
     rw[hq] at C
     have D:Hid (∀ c',Calls prog 201 #[.slice (some ⟨g,o,none⟩) k c',.int .i64 y] w fun e w'=>e=.returned (.bool (inB (l.take k) y))∧w'=w):=fun c'=>QdR y (by rw[List.length_take];omega) (by omega) (QcM HL.out (Nat.le_of_lt hk2) c');have HS2:Hid (QB s.H [] l=if inB (l.take k) y then 13 else QB s.H (l.take (k+1)) (l.drop (k+1))):=by show _=_;rw[HS.out,hq];rfl
     clear hy hk2 hq HS
     cases hi:inB (l.take k) y with
     | true =>
       rw[hi] at D
       have E9:Hid (Qcf s.H l N=13):=by show _=_;rw[E.out,HS2.out,hi];rfl
       clear hi;go_wp2_with (go_at_call 33;refine(C.out).mono ?_;rintro e w' ⟨rfl,hw⟩;have hw:=hw.symm;subst hw)
       refine(Zp _ _).mono ?_
       rintro e' w' ⟨rfl,hw⟩;have hw:=hw.symm;subst hw;go_wp2_with (go_at_call 201;refine(D.out _).mono ?_;rintro e w' ⟨rfl,hw⟩;have hw:=hw.symm;subst hw)
       refine(Zq _ 13).mono ?_
       rintro e' w' ⟨rfl,hw⟩;subst hw;exact⟨rfl,ZW.bad E9.out (by decide),rfl⟩
     | false =>
       rw[hi] at D
       have E9:Hid (QB s.H [] l=QB s.H (l.take (k+1)) (l.drop (k+1))):=by show _=_;rw[HS2.out,hi];rfl
       clear hi;go_wp2_with (go_at_call 33;refine(C.out).mono ?_;rintro e w' ⟨rfl,hw⟩;have hw:=hw.symm;subst hw)
       refine(Zp _ _).mono ?_
       rintro e' w' ⟨rfl,hw⟩;have hw:=hw.symm;subst hw;go_wp2_with (go_at_call 201;refine(D.out _).mono ?_;rintro e w' ⟨rfl,hw⟩;have hw:=hw.symm;subst hw)
       refine(Zp _ _).mono ?_
       rintro e' w' ⟨rfl,hw⟩;have hw:=hw.symm;subst hw;go_wp2
       go_round
       case rel=>exact⟨k+1,hlt,by go_num,E9.out⟩
       case measure=>simp[intOf];omega
  ·have hlt':¬ (k:Int)<N:=by omega
   have hkN:k=N:=by omega
   have E9:Hid (Qcf s.H l N=0):=by
    show _=_;rw[E.out,HZ.out,List.drop_of_length_le (by rw[HN.out];omega)]
    rfl
   go_wp2
   exact bodyPost_end (v:=.tuple #[]) (by simp[results,results167,go_sem]) rfl ⟨ZW.good E9.out rfl,rfl⟩
noncomputable def JSt.handC (s:JSt) (l:List Int) (ts:List (TT 6)):Int:=if l.length=ts.length then Qz (fun p:Int × TT 6=>s.beC p.1 p.2) (l.zip ts) else 2
theorem QaH {w:World}{b:Nat}{O A Q R:Nat→Prop}{s:JSt}{l:List Int}{ts:List (TT 6)}{p pt:Option Addr}{N c M d:Nat}(hN:l.length=N) (hN2:N≤100000) (hM:ts.length=M) (hM2:M≤100000) (hl:intsL.In w Q l [.slice p N c]) (ht:LIn w R ts pt)
 (hL:s.L.length≤80) (hcnt:∀ x∈s.L,x.count≤100000) (hO:∀ k,O k→k<w.heap.size) (h:SAt w b O A s) :
 Calls prog 132 #[.pointer (some ⟨b,0,none⟩),.slice p N c,.slice pt M d] w fun e w'=>ZW (s.handC l ts) VNone e∧Below w.heap.size w w':=by
 have H:=Qa h;have HO:=Qa hO;have HL:=Qa hl;have HT:=Qa ht;have HN:=Qa hN;have HM:=Qa hM;have HC:=Qa hcnt;clear h hO hl hN ht hM hcnt;by_cases hNM:N=M
 rotate_left
 ·have hNM':((N:Int)==(M:Int))=false:=by simp;omega
  have E:Hid (s.handC l ts=2):=by show _=_;unfold JSt.handC;rw[HN.out,HM.out,if_neg hNM]
  go_enter func132,ntmps132
  go_wp2_with fail
  refine(Zq _ 2).mono ?_
  rintro e' w' ⟨rfl,hw⟩;subst hw;exact⟨rfl,ZW.bad E.out (by decide),Zr⟩
 subst hNM;have hNM':((N:Int)==(N:Int))=true:=by simp
 have E:Hid (s.handC l ts=Qz (fun p:Int × TT 6=>s.beC p.1 p.2) (l.zip ts)):=by show _=_;unfold JSt.handC;rw[HN.out,HM.out,if_pos rfl]
 go_enter func132,ntmps132
 go_wp2_with (go_at_call 162;refine(Zp _ _).mono ?_;rintro e' w' ⟨rfl,hw⟩;have hw:=hw.symm;subst hw)
 go_loopw [16] (fun i wr=>∃ k:Nat,k≤N∧i=.int .i64 k∧Below w.heap.size w wr∧∀ (j:Nat) (y:Int × TT 6),j<k→(l.zip ts)[j]?=some y→s.beC y.1 y.2=0) (fun i _=>N - (intOf i).toNat)
 case atStart=>exact⟨0,Nat.zero_le _,rfl,Zr,fun j y hj=>by omega⟩
 case round =>
  obtain⟨k,hk,rfl,hB,hz⟩:=hrel
  have HB:=Qa hB;have HZ:=Qa hz;clear hB hz;by_cases hlt:k<N
  ·have hlt':(k:Int)<N:=by omega
   have hk2:k<l.length:=by rw[HN.out];exact hlt
   have hk3:k<ts.length:=by rw[HM.out];exact hlt
   obtain⟨g,o,rfl,-,hg,hc0⟩:=ZC HL.out hk2
   obtain⟨y,hy⟩:∃ y,l[k]?=some y:=⟨_,Zg hk2⟩
   obtain⟨t,hty⟩:∃ t,ts[k]?=some t:=⟨_,Zg hk3⟩
   rw[show l.getD k 0=y by rw[List.getD_eq_getElem?_getD,hy];rfl] at hc0
   obtain⟨g2,o2,p2,c2,rfl,-,d0,d1,d2,hkid⟩:=HT.out.at hty
   have HX:Hid ((l.zip ts)[k]?=some (y,t)):=by show _=_;rw[List.getElem?_zip_eq_some];exact⟨hy,hty⟩
   have y0:=Qi hc0 HB.out;have z0:=Qi d0 HB.out;have z1:=Qi d1 HB.out;have z2:=Qi d2 HB.out;have HK:=Qa (hkid.below HB.out);clear hc0 hk2 hk3 d0 d1 d2 hy hty hkid;go_wp2_with fail
   refine(QcK y HK.out hL HC.out (fun k hk=>Zl (HO.out k hk) HB.out.size) (H.out.below HB.out)).mono ?_
   rintro e' w2 ⟨hO,b2⟩;have B2:Hid (Below w.heap.size w w2):=HB.out.trans (b2.mono HB.out.size);rcases hO with ⟨hc,x,rfl,-⟩|⟨hc,rfl⟩
   rotate_left
   ·have e9:s.handC l ts=s.beC y t:=by rw[E.out,QaB HX.out HZ.out hc]
    exact⟨rfl,.inr ⟨by rw[e9];exact hc,by rw[e9]⟩,B2.out⟩
   have HC0:=Qa hc;clear hc b2 y0 z0 z1 z2;go_wp2
   go_roundw
   case rel =>
    refine⟨k+1,hlt,by go_num,B2.out,fun j y' hj hy=>?_⟩
    rcases Nat.lt_or_ge j k with h | h
    ·exact HZ.out j y' h hy
    ·have:j=k:=by omega
     subst this;have e:=HX.out.symm.trans hy;injection e with e
     subst e;exact HC0.out
   case measure=>simp[intOf];omega
  ·have hlt':¬ (k:Int)<N:=by omega
   go_wp2
   exact bodyPost_end (v:=.tuple #[]) (by simp[results,results132,go_sem]) rfl ⟨ZW.good (by rw[E.out];exact Qai (fun j y hy=>HZ.out j y (by have:=(Zi hy).1;rw[List.length_zip,HN.out,HM.out] at this;omega) hy)) rfl,HB.out⟩
theorem Qic {w:World}{Q:Nat→Prop}{l:List Int}{p:Option Addr}{N c:Nat}(hN:l.length=N) (hl:intsL.In w Q l [.slice p N c]):Qgv w p N (fun i=>l.getD i 0):=fun i hi=>by
 obtain⟨g,o,e,-,-,h⟩:=ZC hl (show i<l.length by omega)
 exact⟨g,o,e,h⟩
theorem QiO {w w':World}{regs:List Int}{t:TT 6}{e:Ending}(h:Qcr w w' (t.ren regs.length (fun i=>regs.getD i 0)) e):∃ a c q,e=.returned (.tuple #[Tv (Qad regs t) a c,.bool q])∧TIn w' (Z2 w.heap.size) (Qad regs t) a∧Below w.heap.size w w':=by
 unfold Qad
 cases hr:t.ren regs.length (fun i=>regs.getD i 0) with
 | none =>
   rw[hr] at h
   obtain⟨rfl,hb⟩:=h
   exact⟨none,0,false,rfl,fun i x hx=>by simp[zeroTT] at hx,hb⟩
 | some u =>
   rw[hr] at h
   obtain⟨a,c,rfl,h1,h2⟩:=h
   exact⟨a,c,true,rfl,h1,h2⟩
theorem Qbh {w:World}{Q R:Nat→Prop}{ts:List (TT 6)}{regs:List Int}{p pt:Option Addr}{N c M d:Nat}(hN:regs.length=N) (hM:ts.length=M) (hM2:M≤1000) (hl:intsL.In w Q regs [.slice p N c]) (ht:LIn w R ts pt) (hcnt:∀ x∈ts,x.count≤2000) :
 Calls prog 168 #[.slice pt M d,.slice p N c] w fun e w'=>∃ g,e=.returned (.slice (some ⟨g,0,none⟩) M M)∧w.heap.size≤g∧QcG w' g M (ts.map (Qad regs))∧Below w.heap.size w w':=by
 have HM:=Qa hM;have HI:=Qa (Qic hN hl);have HT:=Qa ht;have HC:=Qa hcnt;have HN:=Qa hN;have hmk:=Qhn w M (by omega);have B1:Hid (Below w.heap.size w (w.alloc (.cells (madeCells #[.int .i64 0,.int .i64 0,.slice none 0 0] (M*3)) 79))):=QN _ _;have Y0:Hid (QcG (w.alloc (.cells (madeCells #[.int .i64 0,.int .i64 0,.slice none 0 0] (M*3)) 79)) w.heap.size M ([]:List (TT 6))):=⟨_,Qe w _ _,size_madeCells _ _,fun i x hx=>by simp at hx⟩;clear hM hl ht hcnt hN;go_enter func168,ntmps168
 go_wp2
 generalize w.alloc (.cells (madeCells #[.int .i64 0,.int .i64 0,.slice none 0 0] (M*3)) 79)=w1 at B1 Y0 ⊢;obtain⟨G,hG⟩:∃ G,G=w.heap.size:=⟨_,rfl⟩
 rw[← hG] at Y0 ⊢
 have HG:=Qa (Nat.le_of_eq hG.symm);have HE:=Qa hG;clear hmk hG;go_loopw [13] (fun i wr=>∃ q:Nat,q≤M∧i=.int .i64 q∧QcG wr G M ((ts.take q).map (Qad regs))∧Below w.heap.size w wr) (fun i _=>M - (intOf i).toNat)
 case atStart=>exact⟨0,Nat.zero_le _,rfl,Y0.out,B1.out⟩
 case round =>
  clear Y0 B1;obtain⟨q,hq,rfl,hY,hB⟩:=hrel
  have HB:=Qa hB;have Y:=Qa hY;clear hB hY;by_cases hlt:q<M
  ·have hk1:(q:Int)<M:=by omega
   have hk3:q<ts.length:=by rw[HM.out];exact hlt
   obtain⟨t,hty⟩:∃ t,ts[q]?=some t:=⟨_,Zg hk3⟩
   obtain⟨g2,o2,p2,c2,rfl,-,d0,d1,d2,hkid⟩:=HT.out.at hty
   have z0:=Qi d0 HB.out;have z1:=Qi d1 HB.out;have z2:=Qi d2 HB.out
   have C:Hid (∀ wx,Below wr.heap.size wr wx→Calls prog 202 #[Tv t p2 c2,.slice p N c] wx fun e w'=>∃ a' c' qb,e=.returned (.tuple #[Tv (Qad regs t) a' c',.bool qb])∧TIn w' (Z2 wx.heap.size) (Qad regs t) a'∧Below wx.heap.size wx w'):=fun wx hb=>by
    have hbx:=HB.out.trans (hb.mono HB.out.size)
    have:=rename_any 6 t p2 c2 p N c (fun i=>regs.getD i 0) wx (hkid.below hbx).all (HC.out t (Zm hty)) (HI.out.below hbx)
    refine this.mono (fun e w' h=>?_);rw[← HN.out] at h
    exact QiO h
   have HS:Hid ((ts.take (q+1)).map (Qad regs)=(ts.take q).map (Qad regs)++[Qad regs t]):=by show _=_;rw[List.take_add_one,hty,List.map_append];rfl
   have hlen:Hid (((ts.take q).map (Qad regs)).length=q):=by show _=_;rw[List.length_map,List.length_take];omega
   clear d0 d1 d2 hkid hty hk3;simp only[Tv] at C
   generalize t.kind=tk at z0 C;generalize t.r=tr at z1 C;generalize t.len=tl at z2 C;have hq3:q*3+2<M*3:=by omega
   go_wp2_with fail
   have BX:Below wr.heap.size wr (wr.alloc (.cells #[.int .i64 tk,.int .i64 tr,.slice p2 tl c2] 79)):=(Below.refl _ wr).alloc Ze _;refine(C.out _ BX).mono ?_
   rintro e w4 ⟨a4,c4,qb,rfl,t4,b4⟩;have Y4:=Y.out.below (BX.trans (b4.mono BX.size));have B4:Hid (Below w.heap.size w w4):=HB.out.trans ((BX.trans (b4.mono BX.size)).mono HB.out.size);obtain⟨v0,r0⟩:=Y4.has (q*3) (by omega)
   obtain⟨v1,r1⟩:=Y4.has (q*3+1) (by omega)
   obtain⟨v2,r2⟩:=Y4.has (q*3+2) (by omega)
   have f0:=Y4.frozen (q*3);have f1:=Y4.frozen (q*3+1);have f2:=Y4.frozen (q*3+2);have t5:TIn w4 (Z2 (G+1)) (Qad regs t) a4:=t4.mono (fun k hk _=>by have:=Y.out.lt;have:wr.heap.size≤k:=Zt BX.size hk;omega);have Z5:=Qa (Y4.set (c:=c4) hlen.out hlt t5);have Z6:Hid (Below w.heap.size w (((w4.setCell ⟨G,q*3,none⟩ (.int .i64 (Qad regs t).kind)).setCell ⟨G,q*3+1,none⟩ (.int .i64 (Qad regs t).r)).setCell ⟨G,q*3+2,none⟩ (.slice a4 (Qad regs t).len c4))):=((B4.out.setCell (p:=⟨G,q*3,none⟩) HG.out _).setCell (p:=⟨G,q*3+1,none⟩) HG.out _).setCell (p:=⟨G,q*3+2,none⟩) HG.out _;clear Y4 t5 t4 b4 BX C z0 z1 z2;simp only[Tv] at Z5 Z6 ⊢
   go_wp2
   go_roundw
   case rel=>exact⟨q+1,hlt,by go_num,by rw[HS.out];exact Z5.out,Z6.out⟩
   case measure=>simp[intOf];omega
  ·have hlt':¬ (q:Int)<M:=by omega
   have e:ts.take q=ts:=List.take_of_length_le (by rw[HM.out];omega);rw[e] at Y
   go_wp2
   go_ret;exact⟨G,rfl,HG.out,Y.out,HB.out⟩
structure Wd (w0 w:World) (Bs:List (Nat × Array Value × TypeId)):Prop where
 bel:Below w0.heap.size w0 w
 blk:∀ (i:Nat) x,Bs[i]?=some x→Blk w x.1 x.2.1 x.2.2
 new:∀ (i:Nat) x,Bs[i]?=some x→w0.heap.size≤x.1
 nd:∀ (i j:Nat) x y,Bs[i]?=some x→Bs[j]?=some y→x.1=y.1→i=j
section
variable {w0 w w':World}{Bs:List (Nat × Array Value × TypeId)}
theorem Wd.start (w:World):Wd w w []:=⟨Zr,fun i x h=>by simp at h,fun i x h=>by simp at h,fun i j x y h=>by simp at h⟩
theorem Wd.below (h:Wd w0 w Bs) (b:Below w.heap.size w w'):Wd w0 w' Bs:=⟨Below.andThen h.bel b,fun i x hx=>(h.blk i x hx).below b,h.new,h.nd⟩
theorem Wd.get (h:Wd w0 w Bs) (i:Nat){B:Nat}{c:Array Value}{t:TypeId}(hi:Bs[i]?=some (B,c,t)):Blk w B c t:=h.blk i _ hi
theorem Wd.new' (h:Wd w0 w Bs) (c:Array Value) (t:TypeId):Wd w0 (w.alloc (.cells c t)) ((w.heap.size,c,t)::Bs):=by
 refine⟨Below.andThen h.bel (QN w _),fun i x hx=>?_,fun i x hx=>?_,fun i j x y hx hy e=>?_⟩
 ·cases i with
  | zero=>simp at hx;subst hx;exact Blk.new w c t
  | succ i=>exact(h.blk i x (by simpa using hx)).alloc _
 ·cases i with
  | zero=>simp at hx;subst hx;exact h.bel.size
  | succ i=>exact h.new i x (by simpa using hx)
 ·cases i with
  | zero =>
    cases j with
    | zero=>rfl
    | succ j =>
      simp at hx hy;subst hx
      have:=(h.blk j y hy).lt
      simp at e;omega
  | succ i =>
    cases j with
    | zero =>
      simp at hx hy;subst hy
      have:=(h.blk i x hx).lt
      simp at e;omega
    | succ j=>rw[h.nd i j x y (by simpa using hx) (by simpa using hy) e]
theorem Wd.tail {x:Nat × Array Value × TypeId}(h:Wd w0 w (x::Bs)):Wd w0 w Bs :=
 ⟨h.bel,fun i y hy=>h.blk (i+1) y (by simpa using hy),fun i y hy=>h.new (i+1) y (by simpa using hy),fun i j y z hy hz e=>by have:=h.nd (i+1) (j+1) y z (by simpa using hy) (by simpa using hz) e;omega⟩
theorem Wd.set (h:Wd w0 w Bs) (i:Nat){B:Nat}{c c':Array Value}{t:TypeId}{Bs':List (Nat × Array Value × TypeId)}(hi:Bs[i]?=some (B,c,t)) (j:Nat) (v:Value)
 (hc:c.setIfInBounds j v=c') (hB:Bs.set i (B,c',t)=Bs'):Wd w0 (w.setCell ⟨B,j,none⟩ v) Bs':=by
 subst hB;subst hc
 have sp:∀ (k:Nat) x,(Bs.set i (B,c.setIfInBounds j v,t))[k]?=some x→(k=i∧x=(B,c.setIfInBounds j v,t))∨(k≠i∧Bs[k]?=some x):=by
  intro k x hx;rw[List.getElem?_set] at hx
  split at hx
  ·rename_i e
   subst e;have hil:i<Bs.length:=(Zi hi).1;rw[if_pos hil] at hx
   exact .inl ⟨rfl,(Option.some.inj hx).symm⟩
  ·rename_i e
   exact .inr ⟨fun e'=>e e'.symm,hx⟩
 have key:∀ (k:Nat) x,Bs[k]?=some x→k≠i→x.1≠B:=fun k x hx hk e=>hk (h.nd k i x _ hx hi e);refine⟨h.bel.setCell (p:=⟨B,j,none⟩) (h.new i _ hi) v,fun k x hx=>?_,fun k x hx=>?_,fun k l x y hx hy e=>?_⟩
 ·rcases sp k x hx with ⟨rfl,rfl⟩|⟨hk,hx⟩
  ·exact Qo (h.blk k _ hi) j v
  ·exact(h.blk k x hx).setOther (fun e=>key k x hx hk e.symm) v
 ·rcases sp k x hx with ⟨rfl,rfl⟩|⟨hk,hx⟩
  ·exact h.new k (B,c,t) hi
  ·exact h.new k x hx
 ·rcases sp k x hx with ⟨hk,hx1⟩|⟨hk,hx1⟩
  ·rcases sp l y hy with ⟨hl,hy1⟩|⟨hl,hy1⟩
   ·rw[hk,hl]
   ·rw[hx1] at e;exact absurd e.symm (key l y hy1 hl)
  ·rcases sp l y hy with ⟨hl,hy1⟩|⟨hl,hy1⟩
   ·rw[hy1] at e;exact absurd e (key k x hx1 hk)
   ·exact h.nd k l x y hx1 hy1 e
def ZA (c:Array Value) (j:Nat) (vs:List Value):Array Value:=(c.toList.take j++(vs++c.toList.drop (j+vs.length))).toArray
theorem Qcn (c:Array Value) (j:Nat) (v:Value) (vs:List Value) (h:j+(v::vs).length≤c.size):ZA (c.setIfInBounds j v) (j+1) vs=ZA c j (v::vs):=by
 unfold ZA;congr 1
 have hj:j<c.toList.length:=by simp at h ⊢;omega
 simp only[Array.toList_setIfInBounds]
 rw[List.take_set,List.drop_set_of_lt (by omega),List.take_add_one,Zg hj]
 simp only[Option.toList,List.length_cons]
 have:(c.toList.take j++[c.toList[j]]).set j v=c.toList.take j++[v]:=by
  rw[List.set_append_right _ _ (by simp;omega)]
  have hj':j<c.size:=by simpa using hj
  simp[Nat.min_eq_left (Nat.le_of_lt hj')]
 rw[this,Nat.add_assoc,Nat.add_comm 1]
 simp
theorem Wd.setAt (h:Wd w0 w Bs) (i:Nat){B:Nat}{c c':Array Value}{t:TypeId}{Bs':List (Nat × Array Value × TypeId)}(hi:Bs[i]?=some (B,c,t)) (j:Nat) (vs:List Value)
 (hs:Nat.ble (j+vs.length) c.size=true) (hc:ZA c j vs=c') (hB:Bs.set i (B,c',t)=Bs'):Wd w0 (w.setCells B j vs) Bs':=by
 have hs':j+vs.length≤c.size:=by simpa[Nat.ble_eq] using hs
 clear hs
 induction vs generalizing w Bs c j with
 | nil =>
   subst hB
   have:c=c':=by rw[← hc];unfold ZA;simp
   subst this
   have:Bs.set i (B,c,t)=Bs:=by
    apply List.ext_getElem?
    intro k;rw[List.getElem?_set]
    split
    ·rename_i e;subst e;rw[hi];simp[(Zi hi).1]
    ·rfl
   rw[this];exact h
 | cons v vs ih =>
   have hil:i<Bs.length:=(Zi hi).1;refine ih (c:=c.setIfInBounds j v) (h.set i hi j v rfl rfl) (by rw[List.getElem?_set];simp[hil]) (j+1) ?_ ?_ ?_
   ·rw[← hc,Qcn _ _ _ _ hs']
   ·rw[List.set_set];exact hB
   ·simp at hs' ⊢;omega
theorem Wd.drewN (h:Wd w0 w Bs) (m:Nat):Wd w0 (w.drewN m) Bs:=⟨ZM h.bel,fun i x hx=>h.blk i x hx,h.new,h.nd⟩
end
theorem Qhx (q:Nat) (h:q<4611686018427387904):IntKind.i64.wrap ((q:Int)+1)=(q:Int)+1:=by
 have:(q:Int)<4611686018427387904:=by omega
 have e1:((q:Int)+1)%2 ^ 64=(q:Int)+1:=by omega
 simp only[IntKind.wrap,IntKind.signed,IntKind.bits,e1,Bool.true_and]
 rw[if_neg (by simp only[decide_eq_true_eq];omega)]
theorem Fr.sl2 {n:Nat}{a:Act}{L:List (Tmp × Value)}(h:Fr n a L) (t:Tmp) (v:Value) (e:L.lookup t=some v):a.tmps[t]?.getD undef=v:=by
 rw[← Za];exact h.sl t v e
structure New (w w':World) (B:Nat):Prop where
 bel:Below w.heap.size w w'
 at_:B=w.heap.size
 size:w'.heap.size=B+1
theorem QcH {w w':World}(b:Below w.heap.size w w'){p:Addr}{v:Value}(h:w.cell? p=some v):w'.cell? p=some v :=
 (World.cell?_of_block (w:=w) (a:=p) (b.block p.block (World.block_lt_of_cell? w p h))).trans h
section
variable {P:Program}{n:Nat}{a:Act}{L:List (Tmp × Value)}{w0 w w':World}{Bs Bs':List (Nat × Array Value × TypeId)}{Q:Exit→Act→World→Prop}{ops:Array Oper}{o:Oper}{rest:List Oper}{t:Tmp}{v:Value}
theorem Qjz (c:Array Value) (ty:TypeId) (m:Nat) (hF:Fr n a L) (hW:Wd w0 w Bs) (hd:o.dst=some t) (hg:o.guard=none) (ht:Nat.blt t n=true)
 (h:∀ K:Act→World→Prop,K (a.put (some t) (.slice (some ⟨w.heap.size,0,none⟩) m m)) (w.alloc (.cells c ty))→o.wp P a w K Q)
 (k:∀ a' w' B,Wd w0 w' ((B,c,ty)::Bs)→New w w' B→Fr n a' ((t,.slice (some ⟨B,0,none⟩) m m)::L)→wpList P ops Q rest a' w'):wpList P ops Q (o::rest) a w :=
 Q7 hF hd hg ht h fun a' hF'=>k a' _ _ (hW.new' c ty) ⟨QN w _,rfl,by simp⟩ hF'
theorem QjC (hF:Fr n a L) (hW:Wd w0 w' Bs') (hd:o.dst=none) (hg:o.guard=none)
 (h:∀ K:Act→World→Prop,K a w'→o.wp P a w K Q)
 (k:∀ w',Wd w0 w' Bs'→wpList P ops Q rest a w'):wpList P ops Q (o::rest) a w :=
 QdH hF hd hg h (k _ hW)
theorem Qu {fn:Func}{R:Ending→World→Prop}(hF:Fr n a L) (hr:fn.results=#[.tmp t]) (hv:L.lookup t=some v) (hR:R (.returned v) w):bodyPost P fn R .ret a w :=
 bodyPost_ret ((results_tmp hr _ _ _).trans (by rw[hF.sl t v hv])) hF.defers hR
end
abbrev Qbm:=List (Tmp × (Value→World→Prop))
def Qbm.E (M:Qbm) (t:Tmp) (v:Value) (w:World):Prop:=match M.lookup t with | some p=>p v w | none=>True
def Qdm (R:World→World→Prop):Qbm→Prop
 | []=>True
 | x::r=>(∀ v w w',R w w'→x.2 v w→x.2 v w')∧Qdm R r
theorem Qby {R:World→World→Prop}:∀ (M:Qbm),Qdm R M→∀ t v w w',R w w'→Qbm.E M t v w→Qbm.E M t v w'
 | [],_,_,_,_,_,_,h=>h
 | x::r,hs,t,v,w,w',hr,h=>by
   unfold Qbm.E at *;obtain⟨s,p⟩:=x
   by_cases e:t=s
   ·subst e;simp at h ⊢
    exact hs.1 _ _ _ hr h
   ·have e':(t==s)=false:=by simpa using e
    simp only[List.lookup_cons,e'] at h ⊢
    exact Qby r hs.2 t v w w' hr h
theorem Qkl {P:Program}{n id:Nat}{l l2:List Oper}{outs:List Tmp}{gs:List (Nat × Option Bool)}{bs:List Bool}{a:Act}{w:World}{L:List (Tmp × Value)}{Q:Exit→Act→World→Prop}
 (M:Qbm) (W:World→Prop) (R:World→World→Prop)
 (hm:P.follows .mixedOrders=true) (hF:Fr n a L) (hL:(L.all fun p=>!(Ql l).contains p.1)=true) (hB:Qa9 l n outs gs bs=true)
 (hT:(QaO 0 (l++l2)&&(QaJ l.length l&&QeK l.length l2))=true)
 (hR:Qdm R M) (hG:Qaz (Qbm.E M) W l.toArray gs) (hW:W w.drew) (hO:Qbr (Qbm.E M) a w.drew outs)
 (hA:Qc3 (Qbm.E M) W R P l bs)
 (hend:∀ a' w',W w'→(∀ t,(Ql l).contains t=true→Qbm.E M t (a'.tmps.getD t undef) w')→Fr n a' L→wpList P (l++l2).toArray Q l2 a' w') :
 (Code.region id (l++l2).toArray true).wp P Q a w:=by
 simp only[Bool.and_eq_true] at hT
 obtain⟨hT1,hT2,hT3⟩:=hT
 refine wp_region_any hm ?_
 have key:wpAny P .any l.toArray (Exit.then (fun a w=>wpList P (l++l2).toArray Q l2 a w) Q) l.length (Array.replicate l.length false) a w.drew:=by
  refine Qbk (E:=Qbm.E M) (W:=W) (R:=R) (a0:=a) (outs:=outs) (gs:=gs) (bs:=bs) (by rw[hF.size];exact hB) (Qby M hR) hG hA ?_ _ _ _ _ (by simp) ?_ ⟨hW,rfl,rfl,fun _ _=>rfl,fun t ht _=>Qbj outs hO t ht,?_⟩
  ·intro vs w' hw' hE
   have hlt:∀ t,(Ql l).contains t=true→t<a.tmps.size:=fun t ht=>by
    simp only[Qa9,Bool.and_eq_true] at hB
    have:=List.all_eq_true.1 hB.1.1.1.2 t (by simpa using ht)
    rw[hF.size];simpa using this
   have hat:∀ t,(Ql l).contains t=true→(Q5 a vs (Ql l)).tmps.getD t undef=vs t:=fun t ht=>by
    have:=Qbi vs (Ql l) a t (hlt t ht)
    rw[if_pos (by simpa using ht)] at this
    rw[Za,this];rfl
   refine hend _ w' hw' (fun t ht=>by rw[hat t ht];exact hE t ht) ⟨by rw[Qac,hF.size],by rw[ZY,hF.defers],fun t v hl=>?_⟩
   have hm:∃ p∈L,p.1=t:=by
    clear hL hO hend
    have:∀ (L:List (Tmp × Value)),L.lookup t=some v→∃ p∈L,p.1=t:=by
     intro L
     induction L with
     | nil=>intro h;simp at h
     | cons x r ih =>
       intro h;by_cases e:t=x.1
       ·exact⟨x,by simp,e.symm⟩
       ·have e':(t==x.1)=false:=beq_false_of_ne e;rw[List.lookup_cons,e'] at h
        obtain⟨p,hp,he⟩:=ih h
        exact⟨p,by simp[hp],he⟩
    exact this L hl
   obtain⟨p,hp,rfl⟩:=hm
   have hn:¬ p.1∈Ql l:=by
    have:=List.all_eq_true.1 hL p hp
    simpa using this
   rw[← hF.sl p.1 v hl]
   by_cases hlt':p.1<a.tmps.size
   ·have:=Qbi vs (Ql l) a p.1 hlt'
    rw[if_neg hn] at this
    rw[Za,Za,this]
   ·have h9:a.tmps.size≤p.1:=Nat.le_of_not_lt hlt';rw[Za,Za,Array.getElem?_eq_none (by rw[Qac];exact h9),Array.getElem?_eq_none h9]
  ·simp only[Array.toList_replicate]
   exact Zt (List.length_filter_le _ _) (by simp)
  ·intro j o t hj hd hl;simp[Array.getD] at hl
 have:=QgY (Q:=Q) hT1 hT2 hT3 l.length (Array.replicate l.length false) a w.drew (by simp) key
 have e:(Array.replicate l.length false++Array.replicate l2.length false:Array Bool)=Array.replicate (l++l2).toArray.size false:=by
  simp
 have e2:l.length+l2.length=(l++l2).toArray.size:=by simp
 rw[e,e2] at this
 exact this
theorem QbV {P:Program}{n id:Nat}{lo:List Oper}{outs:List Tmp}{gs:List (Nat × Option Bool)}{bs:List Bool}{a:Act}{w:World}{L:List (Tmp × Value)}{Q:Exit→Act→World→Prop}
 (k:Nat) (M:Qbm) (W:World→Prop) (R:World→World→Prop)
 (hm:P.follows .mixedOrders=true) (hF:Fr n a L) (hL:(L.all fun p=>!(Ql (lo.take k)).contains p.1)=true) (hB:Qa9 (lo.take k) n outs gs bs=true)
 (hT:(QaO 0 lo&&(QaJ (lo.take k).length (lo.take k)&&QeK (lo.take k).length (lo.drop k)))=true)
 (hR:Qdm R M) (hG:Qaz (Qbm.E M) W (lo.take k).toArray gs) (hW:W w.drew) (hO:Qbr (Qbm.E M) a w.drew outs)
 (hA:Qc3 (Qbm.E M) W R P (lo.take k) bs)
 (hend:∀ ops a' w',W w'→(∀ t,(Ql (lo.take k)).contains t=true→Qbm.E M t (a'.tmps.getD t undef) w')→Fr n a' L→wpList P ops Q (lo.drop k) a' w') :
 (Code.region id lo.toArray true).wp P Q a w:=by
 have h:=Qkl (id:=id) (l:=lo.take k) (l2:=lo.drop k) (Q:=Q) M W R hm hF hL hB (by rw[List.take_append_drop];exact hT) hR hG hW hO hA (hend _);rwa [List.take_append_drop] at h
section
variable {w0 w w' w00:World}{Bs:List (Nat × Array Value × TypeId)}
theorem Wd.add (h:Wd w0 w Bs){B:Nat}{c:Array Value}{t:TypeId}(hb:Blk w B c t) (h0:Wd w0 w00 Bs) (hB:w00.heap.size≤B):Wd w0 w ((B,c,t)::Bs):=by
 refine⟨h.bel,fun i x hx=>?_,fun i x hx=>?_,fun i j x y hx hy e=>?_⟩
 ·cases i with
  | zero=>simp at hx;subst hx;exact hb
  | succ i=>exact h.blk i x (by simpa using hx)
 ·cases i with
  | zero=>simp at hx;subst hx;have:=h0.bel.size;simp only;omega
  | succ i=>exact h.new i x (by simpa using hx)
 ·cases i with
  | zero =>
    cases j with
    | zero=>rfl
    | succ j =>
      simp at hx hy;subst hx
      have:=(h0.blk j y hy).lt
      simp at e;omega
  | succ i =>
    cases j with
    | zero =>
      simp at hx hy;subst hy
      have:=(h0.blk i x hx).lt
      simp at e;omega
    | succ j=>rw[h.nd i j x y (by simpa using hx) (by simpa using hy) e]
end
section
variable {P:Program}{Q:Exit→Act→World→Prop}
def Qdu (o:Oper) (j:Nat):Bool:=o.after.any fun e=>Region.binds .any e&&e.on==j
def QjP (l:List Oper) (k:Nat) (o:Oper):Bool:=(List.range k).all fun j=>Qdu o j||o.after.any fun e=>Region.binds .any e&&(match l[e.on]? with | some o'=>Qdu o' j | none=>false)
def Qcp (all:List Oper) (k:Nat):List Oper→Bool
 | []=>true
 | o::l=>QjP all k o&&Qcp all (k+1) l
theorem QcY {o:Oper}{j:Nat}(h:Qdu o j=true):∃ e∈o.after,Region.binds .any e=true∧e.on=j:=by
 obtain⟨q,hq,he⟩:=Array.any_eq_true.1 h
 simp only[Bool.and_eq_true,beq_iff_eq] at he
 exact⟨_,Array.getElem_mem hq,he.1,he.2⟩
theorem QdK (all:List Oper):∀ (l:List Oper) (k i:Nat) (o:Oper),Qcp all k l=true→l[i]?=some o→∀ j,j<k+i→∀ S:Nat→Prop,
 (∀ (q:Nat) (o':Oper),all[q]?=some o'→S q→∀ e∈o'.after,Region.binds .any e=true→S e.on)→(∀ e∈o.after,Region.binds .any e=true→S e.on)→S j
 | [],_,_,_,_,h=>by simp at h
 | x::l,k,0,o,h,ho=>by
   simp at ho;subst ho
   simp only[Qcp,Bool.and_eq_true] at h
   intro j hj S hcl hS
   have:=List.all_eq_true.1 h.1 j (by simpa using hj)
   rw[Bool.or_eq_true] at this
   rcases this with h1 | h1
   ·obtain⟨e,he,hbd,rfl⟩:=QcY h1
    exact hS e he hbd
   ·obtain⟨q,hq,he⟩:=Array.any_eq_true.1 h1
    rw[Bool.and_eq_true] at he
    have hm:=Array.getElem_mem hq;generalize x.after[q]=e0 at he hm
    cases ho':all[e0.on]? with
    | none=>rw[ho'] at he;simp at he
    | some o' =>
      rw[ho'] at he
      obtain⟨e,he1,hbd,rfl⟩:=QcY he.2
      exact hcl _ o' ho' (hS e0 hm he.1) e he1 hbd
 | x::l,k,i+1,o,h,ho=>by
   simp only[Qcp,Bool.and_eq_true] at h
   simp at ho
   intro j hj;exact QdK all l (k+1) i o h.2 ho j (by omega)
theorem Qgw {l:List Oper}(hb:QaO 0 l=true){k0:Nat}(ht:Qcp l k0 (l.drop k0)=true):∀ (m k fuel:Nat) (listed:Array Bool) (a:Act) (w:World),k+m=l.length→k0≤k→m≤fuel→listed.size=l.length →
 (∀ j,j<l.length→listed.getD j false=decide (j<k))→wpList P l.toArray Q (l.drop k) a w→wpAny P .any l.toArray Q fuel listed a w:=by
 intro m
 induction m with
 | zero =>
   intro k fuel listed a w hk _ _ hs hl h
   have hr:Region.ready .any l.toArray listed=[]:=by
    rw[List.eq_nil_iff_forall_not_mem]
    intro i hi;obtain⟨h1,h2,_⟩:=Qv.1 hi
    have h1':i<l.length:=by simpa using h1
    have:=hl i h1'
    have hd:decide (i<k)=true:=by simp;omega
    rw[hd] at this
    have hi':i<listed.size:=by omega
    simp[Array.getD,hi'] at this h2
    rw[this] at h2;cases h2
   have hq:Q .normal a w:=by
    rw[List.drop_of_length_le (by omega)] at h
    exact h
   cases fuel with
   | zero=>exact⟨hr,hq⟩
   | succ fuel=>exact⟨fun _=>hq,fun i hi=>by rw[hr] at hi;cases hi⟩
 | succ m ih =>
   intro k fuel listed a w hk hk0 hf hs hl h;have hlt:k<l.length:=by omega
   obtain⟨fuel,rfl⟩:∃ f,fuel=f+1:=⟨fuel - 1,by omega⟩
   have hks:k<listed.size:=by omega
   have hkr:k∈Region.ready .any l.toArray listed:=by
    refine Qv.2 ⟨by simpa using hlt,?_,l[k],by simp[hlt],fun e he hbd=>?_⟩
    ·have:=hl k hlt
     simp[Array.getD,hks] at this ⊢;exact this
    ·have:=back_at l 0 k l[k] hb (by simp[hlt]) e he hbd
     rw[hl _ (by omega)];simp;omega
   refine⟨fun hr=>absurd (hr ▸ hkr) (by simp),fun i hi=>?_⟩
   have hik:i=k:=by
    obtain⟨h1,h2,o,ho,h3⟩:=Qv.1 hi
    have h1':i<l.length:=by simpa using h1
    have hnl:listed.getD i false=false:=by
     have hi':i<listed.size:=by omega
     simp[Array.getD,hi'] at h2 ⊢;exact h2
    have hge:k≤i:=by
     have:=hl i h1'
     rw[hnl] at this
     have:¬ i<k:=by simpa using this.symm
     omega
    rcases Nat.eq_or_lt_of_le hge with e | hgt
    ·exact e.symm
    ·exfalso
     have:=QdK l (l.drop k0) k0 (i - k0) o ht (by rw[List.getElem?_drop,show k0+(i - k0)=i by omega];simpa using ho) k (by omega) (fun j=>listed.getD j false=true)
      (fun q o' hq hS e he hbd=>by
       have hql:q<l.length:=(Zi hq).1;have hqe:=back_at l 0 q o' hb hq e he hbd;have h5:listed.getD q false=true:=hS;rw[hl q hql] at h5
       have h6:q<k:=by simpa using h5
       show listed.getD e.on false=true;rw[hl e.on (by omega)];simp;omega) h3
     rw[hl k hlt] at this
     simp at this
   subst hik;rw[List.drop_eq_getElem_cons hlt] at h
   have ho:l.toArray[i]?=some l[i]:=by simp[hlt]
   have next:∀ a w,wpList P l.toArray Q (l.drop (i+1)) a w→wpAny P .any l.toArray Q fuel (listed.setIfInBounds i true) a w:=fun a w h' =>
    ih (i+1) fuel _ a w (by omega) (by omega) (by omega) (by simpa using hs) (fun j hj=>by
     by_cases e:j=i
     ·subst e;simp[Array.getD,hks]
     ·have hne:i≠j:=fun x=>e x.symm;rw[Za,Array.getElem?_setIfInBounds_ne hne,← Za,hl j hj]
      simp;omega) h'
   unfold wpOp;rw[ho]
   simp only
   unfold wpList at h;split
   ·rename_i hw
    rw[if_pos hw] at h
    exact h.imp (Oper.wp_mono next) id
   ·rename_i hw
    rw[if_neg hw] at h
    exact next _ _ h
theorem Qfl {l l2:List Oper}(hb:QaO 0 (l++l2)=true) (hg:QaJ l.length l=true) (ht:Qcp (l++l2) l.length l2=true):∀ (fuel:Nat) (listed:Array Bool) (a:Act) (w:World),listed.size=l.length→(∀ (q:Nat) (o:Oper),l[q]?=some o→listed.getD q false=true→∀ e∈o.after,Region.binds .any e=true→listed.getD e.on false=true) →
 wpAny P .any l.toArray (Exit.then (fun a w=>wpList P (l++l2).toArray Q l2 a w) Q) fuel listed a w →
 wpAny P .any (l++l2).toArray Q (fuel+l2.length) (listed++Array.replicate l2.length false) a w:=by
 have hbl:∀ (i:Nat) (o:Oper),l[i]?=some o→∀ e∈o.after,Region.binds .any e=true→e.on<i:=fun i o ho e he hbd=>by
  have hi:i<l.length:=(Zi ho).1
  have:=back_at (l++l2) 0 i o hb (by rw[List.getElem?_append_left hi];exact ho) e he hbd
  omega
 have get1:∀ (listed:Array Bool) (j:Nat) (d:Bool),listed.size=l.length→j<l.length→(listed++Array.replicate l2.length false).getD j d=listed.getD j d:=fun listed j d hs hj=>by
  rw[Za,Za,Array.getElem?_append_left (by omega)]
 have get2:∀ (listed:Array Bool) (j:Nat),listed.size=l.length→l.length≤j→(listed++Array.replicate l2.length false).getD j false=false:=fun listed j hs hj=>by
  rw[Za,Array.getElem?_append_right (by omega)]
  cases h:(Array.replicate l2.length false)[j - listed.size]? with
  | none=>rfl
  | some b =>
    have:=Array.mem_of_getElem? h
    simp at this
    simp[this.2]
 -- all of the first part are listed
 have done:∀ (fuel:Nat) (listed:Array Bool) (a:Act) (w:World),listed.size=l.length→(∀ j,j<l.length→listed.getD j false=true)→wpList P (l++l2).toArray Q l2 a w →
  wpAny P .any (l++l2).toArray Q (fuel+l2.length) (listed++Array.replicate l2.length false) a w:=fun fuel listed a w hs hall h=>by
  refine Qgw hb (k0:=l.length) (by simpa using ht) l2.length l.length _ _ a w (by simp) Ze (by omega) (by simp[hs]) (fun j hj=>?_) (by simpa using h);by_cases hj':j<l.length
  ·rw[get1 listed j false hs hj',hall j hj'];simp[hj']
  ·rw[get2 listed j hs (by omega)];simp;omega
 have allOf:∀ (listed:Array Bool),listed.size=l.length→Region.ready .any l.toArray listed=[]→∀ j,j<l.length→listed.getD j false=true:=fun listed hs hr j=>by
  induction j using Nat.strongRecOn with
  | _ j ih =>
    intro hj
    cases hc:listed.getD j false with
    | true=>rfl
    | false =>
      exfalso
      have hj':j<listed.size:=by omega
      have hnt:listed.getD j true=false:=by simp[Array.getD,hj'] at hc ⊢;exact hc
      have:j∈Region.ready .any l.toArray listed:=Qv.2 ⟨by simpa using hj,hnt,l[j],by simp[hj],fun e he hbd=>by
       have:=hbl j l[j] (by simp[hj]) e he hbd
       exact ih e.on this (by omega)⟩
      rw[hr] at this;cases this
 intro fuel
 induction fuel with
 | zero =>
   intro listed a w hs hcl h;exact done 0 listed a w hs (allOf listed hs h.1) h.2
 | succ fuel ih =>
   intro listed a w hs hcl h;by_cases hall:∀ j,j<l.length→listed.getD j false=true
   ·refine done (fuel+1) listed a w hs hall (h.1 ?_);rw[List.eq_nil_iff_forall_not_mem]
    intro i hi;obtain⟨h1,h2,_⟩:=Qv.1 hi
    have h1':i<l.length:=by simpa using h1
    have:=hall i h1'
    have hi':i<listed.size:=by omega
    simp[Array.getD,hi'] at this h2
    rw[this] at h2;cases h2
   ·have hnr:Region.ready .any l.toArray listed≠[]:=fun e=>hall (allOf listed hs e)
    have same:∀ i,i∈Region.ready .any (l++l2).toArray (listed++Array.replicate l2.length false)↔i∈Region.ready .any l.toArray listed:=fun i=>by
     rw[Qv,Qv]
     by_cases hi:i<l.length
     ·have e1:(l++l2).toArray[i]?=l.toArray[i]?:=by simp[List.getElem?_append_left hi]
      rw[get1 listed i true hs hi,e1]
      constructor
      ·rintro ⟨_,h2,o,ho,h3⟩;refine⟨by simpa using hi,h2,o,ho,fun e he hbd=>?_⟩
       have:=hbl i o (by simpa using ho) e he hbd
       have h4:=h3 e he hbd;rwa [get1 listed e.on false hs (by omega)] at h4
      ·rintro ⟨_,h2,o,ho,h3⟩;refine⟨by simp;omega,h2,o,ho,fun e he hbd=>?_⟩
       have:=hbl i o (by simpa using ho) e he hbd
       rw[get1 listed e.on false hs (by omega)]
       exact h3 e he hbd
     ·constructor
      ·rintro ⟨h1,h2,o,ho,h3⟩;exfalso
       refine hall fun j hj=>?_;have ho':(l++l2)[i]?=some o:=by simpa using ho
       rw[List.getElem?_append_right (by omega)] at ho'
       have:=QdK (l++l2) l2 l.length (i - l.length) o ht ho' j (by omega) (fun q=>(listed++Array.replicate l2.length false).getD q false=true)
        (fun q o' hq hS e he hbd=>by
         have h5:(listed++Array.replicate l2.length false).getD q false=true:=hS;by_cases hql:q<l.length
         ·rw[get1 listed q false hs hql] at h5
          rw[List.getElem?_append_left hql] at hq
          have h6:=hbl q o' hq e he hbd;show (listed++Array.replicate l2.length false).getD e.on false=true;rw[get1 listed e.on false hs (by omega)]
          exact hcl q o' hq h5 e he hbd
         ·rw[get2 listed q hs (by omega)] at h5
          cases h5) h3
       rwa [get1 listed j false hs hj] at this
      ·rintro ⟨h1,_⟩;exact absurd (by simpa using h1) hi
    rw[show fuel+1+l2.length=(fuel+l2.length)+1 by omega]
    refine⟨fun hr=>?_,fun i hi=>?_⟩
    ·exfalso
     apply hnr
     rw[List.eq_nil_iff_forall_not_mem]
     intro i hi
     have:=(same i).2 hi
     rw[hr] at this;cases this
    ·have hi':=(same i).1 hi;have h':=h.2 i hi';obtain⟨h1,_⟩:=Qv.1 hi'
     have hlt:i<l.length:=by simpa using h1
     have ho:l.toArray[i]?=some l[i]:=by simp[hlt]
     have ho2:(l++l2).toArray[i]?=some l[i]:=by simp[List.getElem?_append_left hlt,hlt]
     unfold wpOp at h' ⊢;rw[ho] at h'
     rw[ho2]
     simp only at h' ⊢
     have hy:Region.wanted l[i] (yielded (l++l2).toArray a.tmps)=Region.wanted l[i] (yielded l.toArray a.tmps):=by
      unfold Region.wanted
      cases hgd:(l[i]).guard with
      | none=>rfl
      | some gw =>
        obtain⟨g,want⟩:=gw
        have:=List.all_eq_true.1 hg l[i] (List.getElem_mem hlt)
        rw[hgd] at this
        have hgl:g<l.length:=by simpa using this
        simp only
        have:yielded (l++l2).toArray a.tmps g=yielded l.toArray a.tmps g:=by
         unfold yielded
         have:(l++l2).toArray[g]?=l.toArray[g]?:=by simp[List.getElem?_append_left hgl]
         rw[this]
        rw[this]
     rw[hy]
     have nx:∀ a w,wpAny P .any l.toArray (Exit.then (fun a w=>wpList P (l++l2).toArray Q l2 a w) Q) fuel (listed.setIfInBounds i true) a w→wpAny P .any (l++l2).toArray Q (fuel+l2.length) ((listed++Array.replicate l2.length false).setIfInBounds i true) a w:=fun a w hh=>by
      have hcl2:∀ (q:Nat) (o:Oper),l[q]?=some o→(listed.setIfInBounds i true).getD q false=true→∀ e∈o.after,Region.binds .any e=true→(listed.setIfInBounds i true).getD e.on false=true:=fun q o hq hS e he hbd=>by
       have up:∀ j,listed.getD j false=true→(listed.setIfInBounds i true).getD j false=true:=fun j hj=>by
        by_cases ej:i=j
        ·subst ej
         have:i<listed.size:=by omega
         simp[Array.getD,this]
        ·rw[Za,Array.getElem?_setIfInBounds_ne ej,← Za];exact hj
       by_cases ej:i=q
       ·subst ej;obtain⟨_,_,o2,ho2',h3⟩:=Qv.1 hi'
        have:o2=o:=by
         have h7:l[i]?=some o2:=by simpa using ho2'
         rw[hq] at h7;exact(Option.some.inj h7).symm
        subst this;exact up _ (h3 e he hbd)
       ·rw[Za,Array.getElem?_setIfInBounds_ne ej,← Za] at hS
        exact up _ (hcl q o hq hS e he hbd)
      have:=ih (listed.setIfInBounds i true) a w (by simpa using hs) hcl2 hh
      have e:(listed++Array.replicate l2.length false).setIfInBounds i true=listed.setIfInBounds i true++Array.replicate l2.length false:=by
       rw[Array.setIfInBounds_append_left (by omega)]
      rw[e];exact this
     split
     ·rename_i hw
      rw[if_pos hw] at h'
      rcases h' with h' | h'
      ·exact .inl (Oper.wp_mono nx (Qff h'))
      ·exact .inr h'
     ·rename_i hw
      rw[if_neg hw] at h'
      exact nx _ _ h'
end
theorem QiM {P:Program}{n id:Nat}{l l2:List Oper}{outs:List Tmp}{gs:List (Nat × Option Bool)}{bs:List Bool}{a:Act}{w:World}{L:List (Tmp × Value)}{Q:Exit→Act→World→Prop}
 (M:Qbm) (W:World→Prop) (R:World→World→Prop)
 (hm:P.follows .mixedOrders=true) (hF:Fr n a L) (hL:(L.all fun p=>!(Ql l).contains p.1)=true) (hB:Qa9 l n outs gs bs=true)
 (hT:(QaO 0 (l++l2)&&(QaJ l.length l&&Qcp (l++l2) l.length l2))=true)
 (hR:Qdm R M) (hG:Qaz (Qbm.E M) W l.toArray gs) (hW:W w.drew) (hO:Qbr (Qbm.E M) a w.drew outs)
 (hA:Qc3 (Qbm.E M) W R P l bs)
 (hend:∀ a' w',W w'→(∀ t,(Ql l).contains t=true→Qbm.E M t (a'.tmps.getD t undef) w')→Fr n a' L→wpList P (l++l2).toArray Q l2 a' w') :
 (Code.region id (l++l2).toArray true).wp P Q a w:=by
 simp only[Bool.and_eq_true] at hT
 obtain⟨hT1,hT2,hT3⟩:=hT
 refine wp_region_any hm ?_
 have key:wpAny P .any l.toArray (Exit.then (fun a w=>wpList P (l++l2).toArray Q l2 a w) Q) l.length (Array.replicate l.length false) a w.drew:=by
  refine Qbk (E:=Qbm.E M) (W:=W) (R:=R) (a0:=a) (outs:=outs) (gs:=gs) (bs:=bs) (by rw[hF.size];exact hB) (Qby M hR) hG hA ?_ _ _ _ _ (by simp) ?_ ⟨hW,rfl,rfl,fun _ _=>rfl,fun t ht _=>Qbj outs hO t ht,?_⟩
  ·intro vs w' hw' hE
   have hlt:∀ t,(Ql l).contains t=true→t<a.tmps.size:=fun t ht=>by
    simp only[Qa9,Bool.and_eq_true] at hB
    have:=List.all_eq_true.1 hB.1.1.1.2 t (by simpa using ht)
    rw[hF.size];simpa using this
   have hat:∀ t,(Ql l).contains t=true→(Q5 a vs (Ql l)).tmps.getD t undef=vs t:=fun t ht=>by
    have:=Qbi vs (Ql l) a t (hlt t ht)
    rw[if_pos (by simpa using ht)] at this
    rw[Za,this];rfl
   refine hend _ w' hw' (fun t ht=>by rw[hat t ht];exact hE t ht) ⟨by rw[Qac,hF.size],by rw[ZY,hF.defers],fun t v hl=>?_⟩
   have hm:∃ p∈L,p.1=t:=by
    clear hL hO hend
    have:∀ (L:List (Tmp × Value)),L.lookup t=some v→∃ p∈L,p.1=t:=by
     intro L
     induction L with
     | nil=>intro h;simp at h
     | cons x r ih =>
       intro h;by_cases e:t=x.1
       ·exact⟨x,by simp,e.symm⟩
       ·have e':(t==x.1)=false:=beq_false_of_ne e;rw[List.lookup_cons,e'] at h
        obtain⟨p,hp,he⟩:=ih h
        exact⟨p,by simp[hp],he⟩
    exact this L hl
   obtain⟨p,hp,rfl⟩:=hm
   have hn:¬ p.1∈Ql l:=by
    have:=List.all_eq_true.1 hL p hp
    simpa using this
   rw[← hF.sl p.1 v hl]
   by_cases hlt':p.1<a.tmps.size
   ·have:=Qbi vs (Ql l) a p.1 hlt'
    rw[if_neg hn] at this
    rw[Za,Za,this]
   ·have h9:a.tmps.size≤p.1:=Nat.le_of_not_lt hlt';rw[Za,Za,Array.getElem?_eq_none (by rw[Qac];exact h9),Array.getElem?_eq_none h9]
  ·simp only[Array.toList_replicate]
   exact Zt (List.length_filter_le _ _) (by simp)
  ·intro j o t hj hd hl;simp[Array.getD] at hl
 have:=Qfl (Q:=Q) hT1 hT2 hT3 l.length (Array.replicate l.length false) a w.drew (by simp) (fun q o hq hS=>by simp[Array.getD] at hS) key
 have e:(Array.replicate l.length false++Array.replicate l2.length false:Array Bool)=Array.replicate (l++l2).toArray.size false:=by
  simp
 have e2:l.length+l2.length=(l++l2).toArray.size:=by simp
 rw[e,e2] at this
 exact this
theorem QgU {P:Program}{n id:Nat}{lo:List Oper}{outs:List Tmp}{gs:List (Nat × Option Bool)}{bs:List Bool}{a:Act}{w:World}{L:List (Tmp × Value)}{Q:Exit→Act→World→Prop}
 (k:Nat) (M:Qbm) (W:World→Prop) (R:World→World→Prop)
 (hm:P.follows .mixedOrders=true) (hF:Fr n a L) (hL:(L.all fun p=>!(Ql (lo.take k)).contains p.1)=true) (hB:Qa9 (lo.take k) n outs gs bs=true)
 (hT:(QaO 0 lo&&(QaJ (lo.take k).length (lo.take k)&&Qcp lo (lo.take k).length (lo.drop k)))=true)
 (hR:Qdm R M) (hG:Qaz (Qbm.E M) W (lo.take k).toArray gs) (hW:W w.drew) (hO:Qbr (Qbm.E M) a w.drew outs)
 (hA:Qc3 (Qbm.E M) W R P (lo.take k) bs)
 (hend:∀ ops a' w',W w'→(∀ t,(Ql (lo.take k)).contains t=true→Qbm.E M t (a'.tmps.getD t undef) w')→Fr n a' L→wpList P ops Q (lo.drop k) a' w') :
 (Code.region id lo.toArray true).wp P Q a w:=by
 have h:=QiM (id:=id) (l:=lo.take k) (l2:=lo.drop k) (Q:=Q) M W R hm hF hL hB (by rw[List.take_append_drop];exact hT) hR hG hW hO hA (hend _);rwa [List.take_append_drop] at h
def Qn (L:List (Tmp × Value)):Operand→Option Value
 | .tmp t=>L.lookup t
 | .const v=>some v
 | .func f=>some (.func (.func f) #[] #[])
 | _=>none
abbrev St (n:Nat) (L:List (Tmp × Value)) (ops:Array Oper) (Q:Exit→Act→World→Prop) (l:List Oper) (w:World):Prop:=∀ a,Fr n a L→wpList prog ops Q l a w
def Gok (ops:Array Oper) (n:Nat) (L:List (Tmp × Value)):Option (Nat × Bool)→Prop
 | none=>True
 | some (g,want)=>∃ tg,(ops[g]?).bind (fun o:Oper=>o.dst)=some tg∧Nat.blt tg n=true∧L.lookup tg=some (.bool want)
section
variable {n:Nat}{a:Act}{L:List (Tmp × Value)}{w0 w:World}{Bs:List (Nat × Array Value × TypeId)}{Q:Exit→Act→World→Prop}{ops:Array Oper}{rest:List Oper}{t:Tmp}{u v:Value}{ty ty2 ty3:TypeId}{pos:String}{aft:Array Edge}{gd:Option (Nat × Bool)}{x y z:Operand}{g tg:Nat}{want b:Bool}
theorem Fr.ev (h:Fr n a L) (e:Qn L x=some v):a.eval x=v:=by
 cases x<;>simp only[Qn,Option.some.injEq,reduceCtorEq] at e
 ·exact h.sl _ _ e
 ·exact e
 ·subst e;rfl
theorem Gok.on {o:Oper}(hF:Fr n a L) (h:Gok ops n L o.guard):Region.wanted o (yielded ops a.tmps)=true:=by
 cases hg:o.guard with
 | none=>simp[Region.wanted,hg]
 | some p =>
   obtain⟨g,want⟩:=p
   rw[hg] at h
   obtain⟨tg,h1,h2,h3⟩:=h
   rw[Qga hF hg h1 h2 h3];simp
theorem St.go {l:List Oper}(hF:Fr n a L) (h:St n L ops Q l w):wpList prog ops Q l a w:=h a hF
theorem rg {id:Nat}{l:List Oper}(hF:Fr n a L) (h:∀ ops,St n L ops Q l w):(Code.region id l.toArray false).wp prog Q a w:=Zv fun ops _=>h ops a hF
theorem St.nil (h:∀ a,Fr n a L→Q .normal a w):St n L ops Q [] w:=h
theorem Qs {o:Oper}(hg:Gok ops n L o.guard) (hd:o.dst=some t) (ht:Nat.blt t n=true)
 (h:∀ ev:Operand→Value,(∀ x v,Qn L x=some v→ev x=v)→(execOp ev o).run prog w=.ok (.value v) w)
 (k:St n ((t,v)::L) ops Q rest w):St n L ops Q (o::rest) w:=fun a hF =>
 wpList_step fun K hK=>by
  rw[if_pos (hg.on hF)]
  unfold Oper.wp;rw[h a.eval (fun x v e=>hF.ev e),Oper.upon_value,hd]
  exact hK _ _ (k _ (hF.put ht))
theorem so {op:Op}(hs:(ops[g]?).bind (fun o:Oper=>o.dst)=some tg) (htg:Nat.blt tg n=true) (hv:L.lookup tg=some u) (hu:(match u with | .bool b=>b==want | _=>false)=false) (ht:Nat.blt t n=true)
 (k:St n ((t,undef)::L) ops Q rest w):St n L ops Q (⟨some t,op,ty,pos,aft,some (g,want)⟩::rest) w:=fun a hF =>
 Qkp hF rfl rfl hs htg hv hu ht k
theorem sm (hg:Gok ops n L gd) (hx:Qn L x=some (v)) (ht:Nat.blt t n=true)
 (k:St n ((t,v)::L) ops Q rest w):St n L ops Q (⟨some t,.move x,ty,pos,aft,gd⟩::rest) w :=
 Qs hg rfl ht (fun ev hev=>by have e:=hev _ _ hx;simp[go_sem,e]) k
theorem sa (hg:Gok ops n L gd) (hx:Qn L x=some (v)) (ht:Nat.blt t n=true)
 (k:St n ((t,v)::L) ops Q rest w):St n L ops Q (⟨some t,.assign x,ty,pos,aft,gd⟩::rest) w :=
 Qs hg rfl ht (fun ev hev=>by have e:=hev _ _ hx;simp[go_sem,e]) k
theorem sn (hg:Gok ops n L gd) (hx:Qn L x=some (.bool b)) (ht:Nat.blt t n=true)
 (k:St n ((t,.bool (!b))::L) ops Q rest w):St n L ops Q (⟨some t,.unOp .not ty2 x,ty,pos,aft,gd⟩::rest) w :=
 Qs hg rfl ht (fun ev hev=>by have e:=hev _ _ hx;simp[go_sem,e]) k
theorem sp (hg:Gok ops n L gd) (hx:Qn L x=some (.bool true)) (hy:Qn L y=some (v)) (ht:Nat.blt t n=true)
 (k:St n ((t,v)::L) ops Q rest w):St n L ops Q (⟨some t,.pick x y z,ty,pos,aft,gd⟩::rest) w :=
 Qs hg rfl ht (fun ev hev=>by have e:=hev _ _ hx;have e2:=hev _ _ hy;simp[go_sem,e,e2]) k
theorem spf (hg:Gok ops n L gd) (hx:Qn L x=some (.bool false)) (hz:Qn L z=some (v)) (ht:Nat.blt t n=true)
 (k:St n ((t,v)::L) ops Q rest w):St n L ops Q (⟨some t,.pick x y z,ty,pos,aft,gd⟩::rest) w :=
 Qs hg rfl ht (fun ev hev=>by have e:=hev _ _ hx;have e2:=hev _ _ hz;simp[go_sem,e,e2]) k
theorem seq {p q:Int}(hg:Gok ops n L gd) (hx:Qn L x=some (.int .i64 p)) (hy:Qn L y=some (.int .i64 q)) (ht:Nat.blt t n=true)
 (k:St n ((t,.bool (p==q))::L) ops Q rest w):St n L ops Q (⟨some t,.binOp .eql 3 x y 3,ty,pos,aft,gd⟩::rest) w :=
 Qs hg rfl ht (fun ev hev=>by have e:=hev _ _ hx;have e2:=hev _ _ hy;simp[go_sem,e,e2]) k
theorem sne {p q:Int}(hg:Gok ops n L gd) (hx:Qn L x=some (.int .i64 p)) (hy:Qn L y=some (.int .i64 q)) (ht:Nat.blt t n=true)
 (k:St n ((t,.bool (p != q))::L) ops Q rest w):St n L ops Q (⟨some t,.binOp .neq 3 x y 3,ty,pos,aft,gd⟩::rest) w :=
 Qs hg rfl ht (fun ev hev=>by have e:=hev _ _ hx;have e2:=hev _ _ hy;simp[go_sem,e,e2]) k
theorem slt {p q:Int}(hg:Gok ops n L gd) (hx:Qn L x=some (.int .i64 p)) (hy:Qn L y=some (.int .i64 q)) (ht:Nat.blt t n=true)
 (k:St n ((t,.bool (decide (p<q)))::L) ops Q rest w):St n L ops Q (⟨some t,.binOp .lss 3 x y 3,ty,pos,aft,gd⟩::rest) w :=
 Qs hg rfl ht (fun ev hev=>by have e:=hev _ _ hx;have e2:=hev _ _ hy;simp[go_sem,e,e2]) k
theorem sgt {p q:Int}(hg:Gok ops n L gd) (hx:Qn L x=some (.int .i64 p)) (hy:Qn L y=some (.int .i64 q)) (ht:Nat.blt t n=true)
 (k:St n ((t,.bool (decide (q<p)))::L) ops Q rest w):St n L ops Q (⟨some t,.binOp .gtr 3 x y 3,ty,pos,aft,gd⟩::rest) w :=
 Qs hg rfl ht (fun ev hev=>by have e:=hev _ _ hx;have e2:=hev _ _ hy;simp[go_sem,e,e2]) k
theorem sge {p q:Int}(hg:Gok ops n L gd) (hx:Qn L x=some (.int .i64 p)) (hy:Qn L y=some (.int .i64 q)) (ht:Nat.blt t n=true)
 (k:St n ((t,.bool (decide (q≤p)))::L) ops Q rest w):St n L ops Q (⟨some t,.binOp .geq 3 x y 3,ty,pos,aft,gd⟩::rest) w :=
 Qs hg rfl ht (fun ev hev=>by have e:=hev _ _ hx;have e2:=hev _ _ hy;simp[go_sem,e,e2]) k
theorem Ql6 {p q:Int}(hg:Gok ops n L gd) (hx:Qn L x=some (.int .i64 p)) (hy:Qn L y=some (.int .i64 q)) (ht:Nat.blt t n=true)
 (k:St n ((t,.bool (p != q))::L) ops Q rest w):St n L ops Q (⟨some t,.binOp .neq 2 x y 2,ty,pos,aft,gd⟩::rest) w :=
 Qs hg rfl ht (fun ev hev=>by have e:=hev _ _ hx;have e2:=hev _ _ hy;simp[go_sem,e,e2]) k
theorem sad {q:Nat}(hq:q<4611686018427387904) (hg:Gok ops n L gd) (hx:Qn L x=some (.int .i64 (q:Int))) (hy:Qn L y=some (.int .i64 1)) (ht:Nat.blt t n=true)
 (k:St n ((t,.int .i64 ((q:Int)+1))::L) ops Q rest w):St n L ops Q (⟨some t,.binOp .add 3 x y 3,ty,pos,aft,gd⟩::rest) w :=
 Qs hg rfl ht (fun ev hev=>by have e:=hev _ _ hx;have e2:=hev _ _ hy;have e3:=Qhx q hq;simp[go_sem,e,e2,e3]) k
theorem Qe1 {p:Option Addr}{m c:Nat}(hg:Gok ops n L gd) (hx:Qn L x=some (.slice p m c)) (ht:Nat.blt t n=true)
 (k:St n ((t,.int .i64 (m:Int))::L) ops Q rest w):St n L ops Q (⟨some t,.call { callee:=.builtin .len,args:=#[x],argTypes:=#[43] },3,pos,aft,gd⟩::rest) w :=
 Qs hg rfl ht (fun ev hev=>by have e:=hev _ _ hx;simp[go_sem,e]) k
theorem Qbe {p:Option Addr}{m c:Nat}(hg:Gok ops n L gd) (hx:Qn L x=some (.slice p m c)) (ht:Nat.blt t n=true)
 (k:St n ((t,.int .i64 (m:Int))::L) ops Q rest w):St n L ops Q (⟨some t,.call { callee:=.builtin .len,args:=#[x],argTypes:=#[52] },3,pos,aft,gd⟩::rest) w :=
 Qs hg rfl ht (fun ev hev=>by have e:=hev _ _ hx;simp[go_sem,e]) k
theorem Qdb {p:Option Addr}{m c q B j:Nat}(hp:p=some ⟨B,j,none⟩) (hq:q<m) (hg:Gok ops n L gd) (hx:Qn L x=some (.slice p m c)) (hy:Qn L y=some (.int .i64 (q:Int))) (ht:Nat.blt t n=true)
 (k:St n ((t,.pointer (some ⟨B,j+q*3,none⟩))::L) ops Q rest w):St n L ops Q (⟨some t,.indexAddr 52 x y,ty,pos,aft,gd⟩::rest) w :=
 Qs hg rfl ht (fun ev hev=>by have e:=hev _ _ hx;have e2:=hev _ _ hy;have h0:=Int.natCast_nonneg q;have h1:=Int.ofNat_lt.2 hq;subst hp;simp[go_sem,e,e2,h0,h1,hq]) k
theorem Qew {p:Option Addr}{m c:Nat}(hg:Gok ops n L gd) (hx:Qn L x=some (.slice p m c)) (ht:Nat.blt t n=true)
 (k:St n ((t,.int .i64 (m:Int))::L) ops Q rest w):St n L ops Q (⟨some t,.call { callee:=.builtin .len,args:=#[x],argTypes:=#[42] },3,pos,aft,gd⟩::rest) w :=
 Qs hg rfl ht (fun ev hev=>by have e:=hev _ _ hx;simp[go_sem,e]) k
theorem QiA {p:Option Addr}{m c q B j:Nat}(hp:p=some ⟨B,j,none⟩) (hq:q<m) (hg:Gok ops n L gd) (hx:Qn L x=some (.slice p m c)) (hy:Qn L y=some (.int .i64 (q:Int))) (ht:Nat.blt t n=true)
 (k:St n ((t,.pointer (some ⟨B,j+q*8,none⟩))::L) ops Q rest w):St n L ops Q (⟨some t,.indexAddr 42 x y,ty,pos,aft,gd⟩::rest) w :=
 Qs hg rfl ht (fun ev hev=>by have e:=hev _ _ hx;have e2:=hev _ _ hy;have h0:=Int.natCast_nonneg q;have h1:=Int.ofNat_lt.2 hq;subst hp;simp[go_sem,e,e2,h0,h1,hq]) k
theorem QdM {p:Option Addr}{m c:Nat}(hg:Gok ops n L gd) (hx:Qn L x=some (.slice p m c)) (ht:Nat.blt t n=true)
 (k:St n ((t,.int .i64 (m:Int))::L) ops Q rest w):St n L ops Q (⟨some t,.call { callee:=.builtin .len,args:=#[x],argTypes:=#[53] },3,pos,aft,gd⟩::rest) w :=
 Qs hg rfl ht (fun ev hev=>by have e:=hev _ _ hx;simp[go_sem,e]) k
theorem Qea {p:Option Addr}{m c q B j:Nat}(hp:p=some ⟨B,j,none⟩) (hq:q<m) (hg:Gok ops n L gd) (hx:Qn L x=some (.slice p m c)) (hy:Qn L y=some (.int .i64 (q:Int))) (ht:Nat.blt t n=true)
 (k:St n ((t,.pointer (some ⟨B,j+q*12,none⟩))::L) ops Q rest w):St n L ops Q (⟨some t,.indexAddr 53 x y,ty,pos,aft,gd⟩::rest) w :=
 Qs hg rfl ht (fun ev hev=>by have e:=hev _ _ hx;have e2:=hev _ _ hy;have h0:=Int.natCast_nonneg q;have h1:=Int.ofNat_lt.2 hq;subst hp;simp[go_sem,e,e2,h0,h1,hq]) k
theorem Qcc {p:Option Addr}{m c:Nat}(hg:Gok ops n L gd) (hx:Qn L x=some (.slice p m c)) (ht:Nat.blt t n=true)
 (k:St n ((t,.int .i64 (m:Int))::L) ops Q rest w):St n L ops Q (⟨some t,.call { callee:=.builtin .len,args:=#[x],argTypes:=#[22] },3,pos,aft,gd⟩::rest) w :=
 Qs hg rfl ht (fun ev hev=>by have e:=hev _ _ hx;simp[go_sem,e]) k
theorem Qe8 {p:Option Addr}{m c q B j:Nat}(hp:p=some ⟨B,j,none⟩) (hq:q<m) (hg:Gok ops n L gd) (hx:Qn L x=some (.slice p m c)) (hy:Qn L y=some (.int .i64 (q:Int))) (ht:Nat.blt t n=true)
 (k:St n ((t,.pointer (some ⟨B,j+q*4,none⟩))::L) ops Q rest w):St n L ops Q (⟨some t,.indexAddr 22 x y,ty,pos,aft,gd⟩::rest) w :=
 Qs hg rfl ht (fun ev hev=>by have e:=hev _ _ hx;have e2:=hev _ _ hy;have h0:=Int.natCast_nonneg q;have h1:=Int.ofNat_lt.2 hq;subst hp;simp[go_sem,e,e2,h0,h1,hq]) k
theorem Qkc {B j:Nat}(hg:Gok ops n L gd) (hx:Qn L x=some (.pointer (some ⟨B,j,none⟩))) (ht:Nat.blt t n=true)
 (k:St n ((t,.pointer (some ⟨B,j,none⟩))::L) ops Q rest w):St n L ops Q (⟨some t,.fieldAddr 79 x 0,ty,pos,aft,gd⟩::rest) w :=
 Qs hg rfl ht (fun ev hev=>by have e:=hev _ _ hx;simp[go_sem,e]) k
theorem Qii {B j:Nat}(hg:Gok ops n L gd) (hx:Qn L x=some (.pointer (some ⟨B,j,none⟩))) (ht:Nat.blt t n=true)
 (k:St n ((t,.pointer (some ⟨B,j+2,none⟩))::L) ops Q rest w):St n L ops Q (⟨some t,.fieldAddr 79 x 2,ty,pos,aft,gd⟩::rest) w :=
 Qs hg rfl ht (fun ev hev=>by have e:=hev _ _ hx;simp[go_sem,e]) k
theorem Qio {B j:Nat}(hg:Gok ops n L gd) (hx:Qn L x=some (.pointer (some ⟨B,j,none⟩))) (ht:Nat.blt t n=true)
 (k:St n ((t,.pointer (some ⟨B,j,none⟩))::L) ops Q rest w):St n L ops Q (⟨some t,.fieldAddr 59 x 0,ty,pos,aft,gd⟩::rest) w :=
 Qs hg rfl ht (fun ev hev=>by have e:=hev _ _ hx;simp[go_sem,e]) k
theorem Qk0 {B j:Nat}(hg:Gok ops n L gd) (hx:Qn L x=some (.pointer (some ⟨B,j,none⟩))) (ht:Nat.blt t n=true)
 (k:St n ((t,.pointer (some ⟨B,j+1,none⟩))::L) ops Q rest w):St n L ops Q (⟨some t,.fieldAddr 59 x 1,ty,pos,aft,gd⟩::rest) w :=
 Qs hg rfl ht (fun ev hev=>by have e:=hev _ _ hx;simp[go_sem,e]) k
theorem QkC {B j:Nat}(hg:Gok ops n L gd) (hx:Qn L x=some (.pointer (some ⟨B,j,none⟩))) (ht:Nat.blt t n=true)
 (k:St n ((t,.pointer (some ⟨B,j+2,none⟩))::L) ops Q rest w):St n L ops Q (⟨some t,.fieldAddr 59 x 2,ty,pos,aft,gd⟩::rest) w :=
 Qs hg rfl ht (fun ev hev=>by have e:=hev _ _ hx;simp[go_sem,e]) k
theorem Qk6 {B j:Nat}(hg:Gok ops n L gd) (hx:Qn L x=some (.pointer (some ⟨B,j,none⟩))) (ht:Nat.blt t n=true)
 (k:St n ((t,.pointer (some ⟨B,j+3,none⟩))::L) ops Q rest w):St n L ops Q (⟨some t,.fieldAddr 59 x 3,ty,pos,aft,gd⟩::rest) w :=
 Qs hg rfl ht (fun ev hev=>by have e:=hev _ _ hx;simp[go_sem,e]) k
theorem QbP {B j:Nat}(hg:Gok ops n L gd) (hx:Qn L x=some (.pointer (some ⟨B,j,none⟩))) (ht:Nat.blt t n=true)
 (k:St n ((t,.pointer (some ⟨B,j+4,none⟩))::L) ops Q rest w):St n L ops Q (⟨some t,.fieldAddr 59 x 4,ty,pos,aft,gd⟩::rest) w :=
 Qs hg rfl ht (fun ev hev=>by have e:=hev _ _ hx;simp[go_sem,e]) k
theorem QkP {B j:Nat}(hg:Gok ops n L gd) (hx:Qn L x=some (.pointer (some ⟨B,j,none⟩))) (ht:Nat.blt t n=true)
 (k:St n ((t,.pointer (some ⟨B,j+5,none⟩))::L) ops Q rest w):St n L ops Q (⟨some t,.fieldAddr 59 x 5,ty,pos,aft,gd⟩::rest) w :=
 Qs hg rfl ht (fun ev hev=>by have e:=hev _ _ hx;simp[go_sem,e]) k
theorem Qjt {B j:Nat}(hg:Gok ops n L gd) (hx:Qn L x=some (.pointer (some ⟨B,j,none⟩))) (ht:Nat.blt t n=true)
 (k:St n ((t,.pointer (some ⟨B,j+6,none⟩))::L) ops Q rest w):St n L ops Q (⟨some t,.fieldAddr 59 x 6,ty,pos,aft,gd⟩::rest) w :=
 Qs hg rfl ht (fun ev hev=>by have e:=hev _ _ hx;simp[go_sem,e]) k
theorem Qgm {B j:Nat}(hg:Gok ops n L gd) (hx:Qn L x=some (.pointer (some ⟨B,j,none⟩))) (ht:Nat.blt t n=true)
 (k:St n ((t,.pointer (some ⟨B,j+7,none⟩))::L) ops Q rest w):St n L ops Q (⟨some t,.fieldAddr 59 x 7,ty,pos,aft,gd⟩::rest) w :=
 Qs hg rfl ht (fun ev hev=>by have e:=hev _ _ hx;simp[go_sem,e]) k
theorem Qlu {B j:Nat}(hg:Gok ops n L gd) (hx:Qn L x=some (.pointer (some ⟨B,j,none⟩))) (ht:Nat.blt t n=true)
 (k:St n ((t,.pointer (some ⟨B,j+2,none⟩))::L) ops Q rest w):St n L ops Q (⟨some t,.fieldAddr 45 x 2,ty,pos,aft,gd⟩::rest) w :=
 Qs hg rfl ht (fun ev hev=>by have e:=hev _ _ hx;simp[go_sem,e]) k
theorem Qkr {B j:Nat}(hg:Gok ops n L gd) (hx:Qn L x=some (.pointer (some ⟨B,j,none⟩))) (ht:Nat.blt t n=true)
 (k:St n ((t,.pointer (some ⟨B,j+5,none⟩))::L) ops Q rest w):St n L ops Q (⟨some t,.fieldAddr 47 x 3,ty,pos,aft,gd⟩::rest) w :=
 Qs hg rfl ht (fun ev hev=>by have e:=hev _ _ hx;simp[go_sem,e]) k
theorem QkU {B j:Nat}(hg:Gok ops n L gd) (hx:Qn L x=some (.pointer (some ⟨B,j,none⟩))) (ht:Nat.blt t n=true)
 (k:St n ((t,.pointer (some ⟨B,j+8,none⟩))::L) ops Q rest w):St n L ops Q (⟨some t,.fieldAddr 47 x 4,ty,pos,aft,gd⟩::rest) w :=
 Qs hg rfl ht (fun ev hev=>by have e:=hev _ _ hx;simp[go_sem,e]) k
theorem Qcz {B j:Nat}(hg:Gok ops n L gd) (hx:Qn L x=some (.pointer (some ⟨B,j,none⟩))) (ht:Nat.blt t n=true)
 (k:St n ((t,.pointer (some ⟨B,j,none⟩))::L) ops Q rest w):St n L ops Q (⟨some t,.fieldAddr 84 x 0,ty,pos,aft,gd⟩::rest) w :=
 Qs hg rfl ht (fun ev hev=>by have e:=hev _ _ hx;simp[go_sem,e]) k
theorem QcI {B j:Nat}(hg:Gok ops n L gd) (hx:Qn L x=some (.pointer (some ⟨B,j,none⟩))) (ht:Nat.blt t n=true)
 (k:St n ((t,.pointer (some ⟨B,j+1,none⟩))::L) ops Q rest w):St n L ops Q (⟨some t,.fieldAddr 84 x 1,ty,pos,aft,gd⟩::rest) w :=
 Qs hg rfl ht (fun ev hev=>by have e:=hev _ _ hx;simp[go_sem,e]) k
theorem Qb1 {B j:Nat}(hg:Gok ops n L gd) (hx:Qn L x=some (.pointer (some ⟨B,j,none⟩))) (ht:Nat.blt t n=true)
 (k:St n ((t,.pointer (some ⟨B,j+2,none⟩))::L) ops Q rest w):St n L ops Q (⟨some t,.fieldAddr 84 x 2,ty,pos,aft,gd⟩::rest) w :=
 Qs hg rfl ht (fun ev hev=>by have e:=hev _ _ hx;simp[go_sem,e]) k
theorem Qf2 {B j:Nat}(hg:Gok ops n L gd) (hx:Qn L x=some (.pointer (some ⟨B,j,none⟩))) (ht:Nat.blt t n=true)
 (k:St n ((t,.pointer (some ⟨B,j+3,none⟩))::L) ops Q rest w):St n L ops Q (⟨some t,.fieldAddr 84 x 3,ty,pos,aft,gd⟩::rest) w :=
 Qs hg rfl ht (fun ev hev=>by have e:=hev _ _ hx;simp[go_sem,e]) k
theorem Qe9 {B j:Nat}(hg:Gok ops n L gd) (hx:Qn L x=some (.pointer (some ⟨B,j,none⟩))) (ht:Nat.blt t n=true)
 (k:St n ((t,.pointer (some ⟨B,j,none⟩))::L) ops Q rest w):St n L ops Q (⟨some t,.fieldAddr 55 x 0,ty,pos,aft,gd⟩::rest) w :=
 Qs hg rfl ht (fun ev hev=>by have e:=hev _ _ hx;simp[go_sem,e]) k
theorem QdO {B j:Nat}(hg:Gok ops n L gd) (hx:Qn L x=some (.pointer (some ⟨B,j,none⟩))) (ht:Nat.blt t n=true)
 (k:St n ((t,.pointer (some ⟨B,j+1,none⟩))::L) ops Q rest w):St n L ops Q (⟨some t,.fieldAddr 55 x 1,ty,pos,aft,gd⟩::rest) w :=
 Qs hg rfl ht (fun ev hev=>by have e:=hev _ _ hx;simp[go_sem,e]) k
theorem Qfe {B j:Nat}(hg:Gok ops n L gd) (hx:Qn L x=some (.pointer (some ⟨B,j,none⟩))) (ht:Nat.blt t n=true)
 (k:St n ((t,.pointer (some ⟨B,j+2,none⟩))::L) ops Q rest w):St n L ops Q (⟨some t,.fieldAddr 55 x 2,ty,pos,aft,gd⟩::rest) w :=
 Qs hg rfl ht (fun ev hev=>by have e:=hev _ _ hx;simp[go_sem,e]) k
theorem Qe7 {B j:Nat}(hg:Gok ops n L gd) (hx:Qn L x=some (.pointer (some ⟨B,j,none⟩))) (ht:Nat.blt t n=true)
 (k:St n ((t,.pointer (some ⟨B,j+3,none⟩))::L) ops Q rest w):St n L ops Q (⟨some t,.fieldAddr 55 x 3,ty,pos,aft,gd⟩::rest) w :=
 Qs hg rfl ht (fun ev hev=>by have e:=hev _ _ hx;simp[go_sem,e]) k
theorem Qbg {B j:Nat}(hg:Gok ops n L gd) (hx:Qn L x=some (.pointer (some ⟨B,j,none⟩))) (ht:Nat.blt t n=true)
 (k:St n ((t,.pointer (some ⟨B,j,none⟩))::L) ops Q rest w):St n L ops Q (⟨some t,.fieldAddr 24 x 0,ty,pos,aft,gd⟩::rest) w :=
 Qs hg rfl ht (fun ev hev=>by have e:=hev _ _ hx;simp[go_sem,e]) k
theorem QcB {B j:Nat}(hg:Gok ops n L gd) (hx:Qn L x=some (.pointer (some ⟨B,j,none⟩))) (ht:Nat.blt t n=true)
 (k:St n ((t,.pointer (some ⟨B,j,none⟩))::L) ops Q rest w):St n L ops Q (⟨some t,.fieldAddr 30 x 0,ty,pos,aft,gd⟩::rest) w :=
 Qs hg rfl ht (fun ev hev=>by have e:=hev _ _ hx;simp[go_sem,e]) k
theorem QhG {B j:Nat}(hg:Gok ops n L gd) (hx:Qn L x=some (.pointer (some ⟨B,j,none⟩))) (ht:Nat.blt t n=true)
 (k:St n ((t,.pointer (some ⟨B,j,none⟩))::L) ops Q rest w):St n L ops Q (⟨some t,.fieldAddr 143 x 0,ty,pos,aft,gd⟩::rest) w :=
 Qs hg rfl ht (fun ev hev=>by have e:=hev _ _ hx;simp[go_sem,e]) k
theorem QhB {B j:Nat}(hg:Gok ops n L gd) (hx:Qn L x=some (.pointer (some ⟨B,j,none⟩))) (ht:Nat.blt t n=true)
 (k:St n ((t,.pointer (some ⟨B,j+1,none⟩))::L) ops Q rest w):St n L ops Q (⟨some t,.fieldAddr 143 x 1,ty,pos,aft,gd⟩::rest) w :=
 Qs hg rfl ht (fun ev hev=>by have e:=hev _ _ hx;simp[go_sem,e]) k
theorem Qin {B j:Nat}(hg:Gok ops n L gd) (hx:Qn L x=some (.pointer (some ⟨B,j,none⟩))) (ht:Nat.blt t n=true)
 (k:St n ((t,.pointer (some ⟨B,j+2,none⟩))::L) ops Q rest w):St n L ops Q (⟨some t,.fieldAddr 143 x 2,ty,pos,aft,gd⟩::rest) w :=
 Qs hg rfl ht (fun ev hev=>by have e:=hev _ _ hx;simp[go_sem,e]) k
theorem Qhq {B j:Nat}(hg:Gok ops n L gd) (hx:Qn L x=some (.pointer (some ⟨B,j,none⟩))) (ht:Nat.blt t n=true)
 (k:St n ((t,.pointer (some ⟨B,j+3,none⟩))::L) ops Q rest w):St n L ops Q (⟨some t,.fieldAddr 143 x 3,ty,pos,aft,gd⟩::rest) w :=
 Qs hg rfl ht (fun ev hev=>by have e:=hev _ _ hx;simp[go_sem,e]) k
theorem Qh7 {B j:Nat}(hg:Gok ops n L gd) (hx:Qn L x=some (.pointer (some ⟨B,j,none⟩))) (ht:Nat.blt t n=true)
 (k:St n ((t,.pointer (some ⟨B,j+4,none⟩))::L) ops Q rest w):St n L ops Q (⟨some t,.fieldAddr 143 x 4,ty,pos,aft,gd⟩::rest) w :=
 Qs hg rfl ht (fun ev hev=>by have e:=hev _ _ hx;simp[go_sem,e]) k
theorem Qhj {B j:Nat}(hg:Gok ops n L gd) (hx:Qn L x=some (.pointer (some ⟨B,j,none⟩))) (ht:Nat.blt t n=true)
 (k:St n ((t,.pointer (some ⟨B,j+5,none⟩))::L) ops Q rest w):St n L ops Q (⟨some t,.fieldAddr 143 x 5,ty,pos,aft,gd⟩::rest) w :=
 Qs hg rfl ht (fun ev hev=>by have e:=hev _ _ hx;simp[go_sem,e]) k
theorem Qho {B j:Nat}(hg:Gok ops n L gd) (hx:Qn L x=some (.pointer (some ⟨B,j,none⟩))) (ht:Nat.blt t n=true)
 (k:St n ((t,.pointer (some ⟨B,j+6,none⟩))::L) ops Q rest w):St n L ops Q (⟨some t,.fieldAddr 143 x 6,ty,pos,aft,gd⟩::rest) w :=
 Qs hg rfl ht (fun ev hev=>by have e:=hev _ _ hx;simp[go_sem,e]) k
theorem ZO {B j:Nat}(hg:Gok ops n L gd) (hx:Qn L x=some (.pointer (some ⟨B,j,none⟩))) (ht:Nat.blt t n=true)
 (k:St n ((t,.pointer (some ⟨B,j+1,none⟩))::L) ops Q rest w):St n L ops Q (⟨some t,.fieldAddr 134 x 1,ty,pos,aft,gd⟩::rest) w :=
 Qs hg rfl ht (fun ev hev=>by have e:=hev _ _ hx;simp[go_sem,e]) k
theorem QcS {B j:Nat}(hg:Gok ops n L gd) (hx:Qn L x=some (.pointer (some ⟨B,j,none⟩))) (ht:Nat.blt t n=true)
 (k:St n ((t,.pointer (some ⟨B,j+5,none⟩))::L) ops Q rest w):St n L ops Q (⟨some t,.fieldAddr 134 x 2,ty,pos,aft,gd⟩::rest) w :=
 Qs hg rfl ht (fun ev hev=>by have e:=hev _ _ hx;simp[go_sem,e]) k
theorem Qas {B j:Nat}(hg:Gok ops n L gd) (hx:Qn L x=some (.pointer (some ⟨B,j,none⟩))) (ht:Nat.blt t n=true)
 (k:St n ((t,.pointer (some ⟨B,j,none⟩))::L) ops Q rest w):St n L ops Q (⟨some t,.fieldAddr 181 x 0,ty,pos,aft,gd⟩::rest) w :=
 Qs hg rfl ht (fun ev hev=>by have e:=hev _ _ hx;simp[go_sem,e]) k
theorem Zd {B j:Nat}(hg:Gok ops n L gd) (hx:Qn L x=some (.pointer (some ⟨B,j,none⟩))) (ht:Nat.blt t n=true)
 (k:St n ((t,.pointer (some ⟨B,j+6,none⟩))::L) ops Q rest w):St n L ops Q (⟨some t,.fieldAddr 181 x 1,ty,pos,aft,gd⟩::rest) w :=
 Qs hg rfl ht (fun ev hev=>by have e:=hev _ _ hx;simp[go_sem,e]) k
theorem Qco {B j:Nat}(hg:Gok ops n L gd) (hx:Qn L x=some (.pointer (some ⟨B,j,none⟩))) (ht:Nat.blt t n=true)
 (k:St n ((t,.pointer (some ⟨B,j+18,none⟩))::L) ops Q rest w):St n L ops Q (⟨some t,.fieldAddr 181 x 2,ty,pos,aft,gd⟩::rest) w :=
 Qs hg rfl ht (fun ev hev=>by have e:=hev _ _ hx;simp[go_sem,e]) k
theorem Qlk {B j:Nat}(hc:w.cell? ⟨B,j,none⟩=some v) (hg:Gok ops n L gd) (hx:Qn L x=some (.pointer (some ⟨B,j,none⟩))) (ht:Nat.blt t n=true)
 (k:St n ((t,v)::L) ops Q rest w):St n L ops Q (⟨some t,.load 3 x,ty,pos,aft,gd⟩::rest) w :=
 Qs hg rfl ht (fun ev hev=>by have e:=hev _ _ hx;simp[go_sem,e,hc]) k
theorem ZK (i:Nat){B j:Nat}{c:Array Value}{bt:TypeId}(hW:Wd w0 w Bs) (hg:Gok ops n L gd) (hx:Qn L x=some (.pointer (some ⟨B,j,none⟩))) (hb:Bs[i]?=some (B,c,bt)) (hc:c[j]?=some v) (ht:Nat.blt t n=true)
 (k:St n ((t,v)::L) ops Q rest w):St n L ops Q (⟨some t,.load 3 x,ty,pos,aft,gd⟩::rest) w:=Qlk (Qb (hW.get i hb) j v hc) hg hx ht k
theorem Qk3 {B j:Nat}(hc:w.cell? ⟨B,j,none⟩=some v) (hg:Gok ops n L gd) (hx:Qn L x=some (.pointer (some ⟨B,j,none⟩))) (ht:Nat.blt t n=true)
 (k:St n ((t,v)::L) ops Q rest w):St n L ops Q (⟨some t,.load 2 x,ty,pos,aft,gd⟩::rest) w :=
 Qs hg rfl ht (fun ev hev=>by have e:=hev _ _ hx;simp[go_sem,e,hc]) k
theorem QkO (i:Nat){B j:Nat}{c:Array Value}{bt:TypeId}(hW:Wd w0 w Bs) (hg:Gok ops n L gd) (hx:Qn L x=some (.pointer (some ⟨B,j,none⟩))) (hb:Bs[i]?=some (B,c,bt)) (hc:c[j]?=some v) (ht:Nat.blt t n=true)
 (k:St n ((t,v)::L) ops Q rest w):St n L ops Q (⟨some t,.load 2 x,ty,pos,aft,gd⟩::rest) w:=Qk3 (Qb (hW.get i hb) j v hc) hg hx ht k
theorem QkI {B j:Nat}(hc:w.cell? ⟨B,j,none⟩=some v) (hg:Gok ops n L gd) (hx:Qn L x=some (.pointer (some ⟨B,j,none⟩))) (ht:Nat.blt t n=true)
 (k:St n ((t,v)::L) ops Q rest w):St n L ops Q (⟨some t,.load 4 x,ty,pos,aft,gd⟩::rest) w :=
 Qs hg rfl ht (fun ev hev=>by have e:=hev _ _ hx;simp[go_sem,e,hc]) k
theorem Qdd (i:Nat){B j:Nat}{c:Array Value}{bt:TypeId}(hW:Wd w0 w Bs) (hg:Gok ops n L gd) (hx:Qn L x=some (.pointer (some ⟨B,j,none⟩))) (hb:Bs[i]?=some (B,c,bt)) (hc:c[j]?=some v) (ht:Nat.blt t n=true)
 (k:St n ((t,v)::L) ops Q rest w):St n L ops Q (⟨some t,.load 4 x,ty,pos,aft,gd⟩::rest) w:=QkI (Qb (hW.get i hb) j v hc) hg hx ht k
theorem QkJ {B j:Nat}(hc:w.cell? ⟨B,j,none⟩=some v) (hg:Gok ops n L gd) (hx:Qn L x=some (.pointer (some ⟨B,j,none⟩))) (ht:Nat.blt t n=true)
 (k:St n ((t,v)::L) ops Q rest w):St n L ops Q (⟨some t,.load 43 x,ty,pos,aft,gd⟩::rest) w :=
 Qs hg rfl ht (fun ev hev=>by have e:=hev _ _ hx;simp[go_sem,e,hc]) k
theorem QeB (i:Nat){B j:Nat}{c:Array Value}{bt:TypeId}(hW:Wd w0 w Bs) (hg:Gok ops n L gd) (hx:Qn L x=some (.pointer (some ⟨B,j,none⟩))) (hb:Bs[i]?=some (B,c,bt)) (hc:c[j]?=some v) (ht:Nat.blt t n=true)
 (k:St n ((t,v)::L) ops Q rest w):St n L ops Q (⟨some t,.load 43 x,ty,pos,aft,gd⟩::rest) w:=QkJ (Qb (hW.get i hb) j v hc) hg hx ht k
theorem QjE {B j:Nat}(hc:w.cell? ⟨B,j,none⟩=some v) (hg:Gok ops n L gd) (hx:Qn L x=some (.pointer (some ⟨B,j,none⟩))) (ht:Nat.blt t n=true)
 (k:St n ((t,v)::L) ops Q rest w):St n L ops Q (⟨some t,.load 52 x,ty,pos,aft,gd⟩::rest) w :=
 Qs hg rfl ht (fun ev hev=>by have e:=hev _ _ hx;simp[go_sem,e,hc]) k
theorem QaK (i:Nat){B j:Nat}{c:Array Value}{bt:TypeId}(hW:Wd w0 w Bs) (hg:Gok ops n L gd) (hx:Qn L x=some (.pointer (some ⟨B,j,none⟩))) (hb:Bs[i]?=some (B,c,bt)) (hc:c[j]?=some v) (ht:Nat.blt t n=true)
 (k:St n ((t,v)::L) ops Q rest w):St n L ops Q (⟨some t,.load 52 x,ty,pos,aft,gd⟩::rest) w:=QjE (Qb (hW.get i hb) j v hc) hg hx ht k
theorem Qky {B j:Nat}(hc:w.cell? ⟨B,j,none⟩=some v) (hg:Gok ops n L gd) (hx:Qn L x=some (.pointer (some ⟨B,j,none⟩))) (ht:Nat.blt t n=true)
 (k:St n ((t,v)::L) ops Q rest w):St n L ops Q (⟨some t,.load 42 x,ty,pos,aft,gd⟩::rest) w :=
 Qs hg rfl ht (fun ev hev=>by have e:=hev _ _ hx;simp[go_sem,e,hc]) k
theorem Qgc (i:Nat){B j:Nat}{c:Array Value}{bt:TypeId}(hW:Wd w0 w Bs) (hg:Gok ops n L gd) (hx:Qn L x=some (.pointer (some ⟨B,j,none⟩))) (hb:Bs[i]?=some (B,c,bt)) (hc:c[j]?=some v) (ht:Nat.blt t n=true)
 (k:St n ((t,v)::L) ops Q rest w):St n L ops Q (⟨some t,.load 42 x,ty,pos,aft,gd⟩::rest) w:=Qky (Qb (hW.get i hb) j v hc) hg hx ht k
theorem Qi7 {B j:Nat}(hc:w.cell? ⟨B,j,none⟩=some v) (hg:Gok ops n L gd) (hx:Qn L x=some (.pointer (some ⟨B,j,none⟩))) (ht:Nat.blt t n=true)
 (k:St n ((t,v)::L) ops Q rest w):St n L ops Q (⟨some t,.load 53 x,ty,pos,aft,gd⟩::rest) w :=
 Qs hg rfl ht (fun ev hev=>by have e:=hev _ _ hx;simp[go_sem,e,hc]) k
theorem Qgb (i:Nat){B j:Nat}{c:Array Value}{bt:TypeId}(hW:Wd w0 w Bs) (hg:Gok ops n L gd) (hx:Qn L x=some (.pointer (some ⟨B,j,none⟩))) (hb:Bs[i]?=some (B,c,bt)) (hc:c[j]?=some v) (ht:Nat.blt t n=true)
 (k:St n ((t,v)::L) ops Q rest w):St n L ops Q (⟨some t,.load 53 x,ty,pos,aft,gd⟩::rest) w:=Qi7 (Qb (hW.get i hb) j v hc) hg hx ht k
theorem Qka {B j:Nat}(hc:w.cell? ⟨B,j,none⟩=some v) (hg:Gok ops n L gd) (hx:Qn L x=some (.pointer (some ⟨B,j,none⟩))) (ht:Nat.blt t n=true)
 (k:St n ((t,v)::L) ops Q rest w):St n L ops Q (⟨some t,.load 22 x,ty,pos,aft,gd⟩::rest) w :=
 Qs hg rfl ht (fun ev hev=>by have e:=hev _ _ hx;simp[go_sem,e,hc]) k
theorem Qc0 (i:Nat){B j:Nat}{c:Array Value}{bt:TypeId}(hW:Wd w0 w Bs) (hg:Gok ops n L gd) (hx:Qn L x=some (.pointer (some ⟨B,j,none⟩))) (hb:Bs[i]?=some (B,c,bt)) (hc:c[j]?=some v) (ht:Nat.blt t n=true)
 (k:St n ((t,v)::L) ops Q rest w):St n L ops Q (⟨some t,.load 22 x,ty,pos,aft,gd⟩::rest) w:=Qka (Qb (hW.get i hb) j v hc) hg hx ht k
theorem QdT {w:World}{B:Nat}{c:Array Value}{t:TypeId}(h:Blk w B c t) (j m:Nat) (hn:Nat.ble (j+m) c.size=true):w.rangeAt B j ((c.toList.drop j).take m):=fun k v hk=>by
 have hlt:k<((c.toList.drop j).take m).length:=(Zi hk).1;have hm:k<m:=by simp at hlt;omega
 rw[List.getElem?_take,if_pos hm,List.getElem?_drop] at hk
 exact Qb h (j+k) v (by simpa using hk)
theorem Qb8 {w:World}{B:Nat}{c:Array Value}{t:TypeId}(h:Blk w B c t) (j n:Nat) (hn:j+n≤c.size):w.there B j n:=fun k hk =>
 ⟨by rw[Qb h (j+k) c[j+k] (by simp[show j+k<c.size by omega])];rfl,Qp h (j+k)⟩
theorem Q0 {w w':World}{B j:Nat}{cs:List Value}(h:w.rangeAt B j cs) (b:Below w.heap.size w w'):w'.rangeAt B j cs:=fun k v hk=>QcH b (h k v hk)
theorem sSE {d:TypeDesc}{B j:Nat}{cs:List Value}(hu:prog.underlying ty2=some d) (hd:d.isRow=true) (hr:w.rangeAt B j cs) (hi:(prog.info? ty2).map (·.size)=some cs.length) (hg:Gok ops n L gd) (hx:Qn L x=some (.pointer (some ⟨B,j,none⟩))) (ht:Nat.blt t n=true)
 (k:St n ((t,.agg cs.toArray)::L) ops Q rest w):St n L ops Q (⟨some t,.load ty2 x,ty,pos,aft,gd⟩::rest) w :=
 Qs hg rfl ht (fun ev hev=>by
  have e:=hev _ _ hx;have e2:=run_loadAt_mid (P:=prog) w B j ty2 cs d hr hu hd hi;unfold execOp;simp only[e,Sem.run_bind,e2,Result.andThen_ok,Sem.run_pure]) k
theorem sS {d:TypeDesc}(i m:Nat){B j:Nat}{c:Array Value}{bt:TypeId}(hu:prog.underlying ty2=some d) (hd:d.isRow=true) (hi:(prog.info? ty2).map (·.size)=some m) (hW:Wd w0 w Bs) (hg:Gok ops n L gd) (hx:Qn L x=some (.pointer (some ⟨B,j,none⟩))) (hb:Bs[i]?=some (B,c,bt)) (hn:Nat.ble (j+m) c.size=true) (ht:Nat.blt t n=true)
 (k:St n ((t,.agg ((c.toList.drop j).take m).toArray)::L) ops Q rest w):St n L ops Q (⟨some t,.load ty2 x,ty,pos,aft,gd⟩::rest) w :=
 sSE hu hd (QdT (hW.get i hb) j m hn) (by rw[hi];have:j+m≤c.size:=(by simpa[Nat.ble_eq] using hn);simp;omega) hg hx ht k
theorem Qde {o:Oper}(c:Array Value) (bt:TypeId) (hW:Wd w0 w Bs) (hd:o.dst=some t) (hg:Gok ops n L o.guard) (ht:Nat.blt t n=true)
 (h:∀ ev:Operand→Value,(∀ x v,Qn L x=some v→ev x=v)→(execOp ev o).run prog w=.ok (.value (.pointer (some ⟨w.heap.size,0,none⟩))) (w.alloc (.cells c bt)))
 (k:∀ w' B,Wd w0 w' ((B,c,bt)::Bs)→New w w' B→St n ((t,.pointer (some ⟨B,0,none⟩))::L) ops Q rest w'):St n L ops Q (o::rest) w:=fun a hF =>
 wpList_step fun K hK=>by
  rw[if_pos (hg.on hF)]
  unfold Oper.wp;rw[h a.eval (fun x v e=>hF.ev e),Oper.upon_value,hd]
  exact hK _ _ (k _ _ (hW.new' c bt) ⟨QN w _,rfl,by simp⟩ _ (hF.put ht))
theorem sB {cs:Array Value}(hW:Wd w0 w Bs) (hg:Gok ops n L gd) (hx:Qn L x=some (.agg cs)) (ht:Nat.blt t n=true)
 (k:∀ w' B,Wd w0 w' ((B,cs,ty2)::Bs)→New w w' B→St n ((t,.pointer (some ⟨B,0,none⟩))::L) ops Q rest w'):St n L ops Q (⟨some t,.box ty2 x,ty,pos,aft,gd⟩::rest) w :=
 Qde cs ty2 hW rfl hg ht (fun ev hev=>by have e:=hev _ _ hx;simp[go_sem,e]) k
theorem QhH (hW:Wd w0 w Bs) (hg:Gok ops n L gd) (ht:Nat.blt t n=true)
 (k:∀ w' B,Wd w0 w' ((B,#[.int .i64 0,.int .i64 0,.slice none 0 0],79)::Bs)→New w w' B→St n ((t,.pointer (some ⟨B,0,none⟩))::L) ops Q rest w'):St n L ops Q (⟨some t,.alloc 79,ty,pos,aft,gd⟩::rest) w :=
 Qde #[.int .i64 0,.int .i64 0,.slice none 0 0] 79 hW rfl hg ht (fun ev hev=>by simp[go_sem]) k
theorem Qkk (hW:Wd w0 w Bs) (hg:Gok ops n L gd) (ht:Nat.blt t n=true)
 (k:∀ w' B,Wd w0 w' ((B,#[.int .i64 0,.int .i64 0,.int .i64 0,.int .i64 0,.int .i64 0,.int .i64 0,.slice none 0 0,.slice none 0 0],59)::Bs)→New w w' B→St n ((t,.pointer (some ⟨B,0,none⟩))::L) ops Q rest w'):St n L ops Q (⟨some t,.alloc 59,ty,pos,aft,gd⟩::rest) w :=
 Qde #[.int .i64 0,.int .i64 0,.int .i64 0,.int .i64 0,.int .i64 0,.int .i64 0,.slice none 0 0,.slice none 0 0] 59 hW rfl hg ht (fun ev hev=>by simp[go_sem]) k
theorem Ql9 (hW:Wd w0 w Bs) (hg:Gok ops n L gd) (ht:Nat.blt t n=true)
 (k:∀ w' B,Wd w0 w' ((B,#[.int .i64 0,.slice none 0 0,.slice none 0 0],45)::Bs)→New w w' B→St n ((t,.pointer (some ⟨B,0,none⟩))::L) ops Q rest w'):St n L ops Q (⟨some t,.alloc 45,ty,pos,aft,gd⟩::rest) w :=
 Qde #[.int .i64 0,.slice none 0 0,.slice none 0 0] 45 hW rfl hg ht (fun ev hev=>by simp[go_sem]) k
theorem Qld (hW:Wd w0 w Bs) (hg:Gok ops n L gd) (ht:Nat.blt t n=true)
 (k:∀ w' B,Wd w0 w' ((B,#[.int .i64 0,.int .i64 0,.int .i64 0,.slice none 0 0,.slice none 0 0,.int .i64 0,.slice none 0 0,.slice none 0 0,.slice none 0 0],47)::Bs)→New w w' B→St n ((t,.pointer (some ⟨B,0,none⟩))::L) ops Q rest w'):St n L ops Q (⟨some t,.alloc 47,ty,pos,aft,gd⟩::rest) w :=
 Qde #[.int .i64 0,.int .i64 0,.int .i64 0,.slice none 0 0,.slice none 0 0,.int .i64 0,.slice none 0 0,.slice none 0 0,.slice none 0 0] 47 hW rfl hg ht (fun ev hev=>by simp[go_sem]) k
theorem Qfw (hW:Wd w0 w Bs) (hg:Gok ops n L gd) (ht:Nat.blt t n=true)
 (k:∀ w' B,Wd w0 w' ((B,#[.int .i64 0,.slice none 0 0,.slice none 0 0,.int .i64 0,.int .i64 0,.int .i64 0,.slice none 0 0,.slice none 0 0,.int .i64 0,.slice none 0 0,.slice none 0 0,.slice none 0 0],84)::Bs)→New w w' B→St n ((t,.pointer (some ⟨B,0,none⟩))::L) ops Q rest w'):St n L ops Q (⟨some t,.alloc 84,ty,pos,aft,gd⟩::rest) w :=
 Qde #[.int .i64 0,.slice none 0 0,.slice none 0 0,.int .i64 0,.int .i64 0,.int .i64 0,.slice none 0 0,.slice none 0 0,.int .i64 0,.slice none 0 0,.slice none 0 0,.slice none 0 0] 84 hW rfl hg ht (fun ev hev=>by simp[go_sem]) k
theorem Qht (hW:Wd w0 w Bs) (hg:Gok ops n L gd) (ht:Nat.blt t n=true)
 (k:∀ w' B,Wd w0 w' ((B,#[.int .i64 0,.slice none 0 0,.slice none 0 0,.slice none 0 0],55)::Bs)→New w w' B→St n ((t,.pointer (some ⟨B,0,none⟩))::L) ops Q rest w'):St n L ops Q (⟨some t,.alloc 55,ty,pos,aft,gd⟩::rest) w :=
 Qde #[.int .i64 0,.slice none 0 0,.slice none 0 0,.slice none 0 0] 55 hW rfl hg ht (fun ev hev=>by simp[go_sem]) k
theorem Qgi (hW:Wd w0 w Bs) (hg:Gok ops n L gd) (ht:Nat.blt t n=true)
 (k:∀ w' B,Wd w0 w' ((B,#[.slice none 0 0],24)::Bs)→New w w' B→St n ((t,.pointer (some ⟨B,0,none⟩))::L) ops Q rest w'):St n L ops Q (⟨some t,.alloc 24,ty,pos,aft,gd⟩::rest) w :=
 Qde #[.slice none 0 0] 24 hW rfl hg ht (fun ev hev=>by simp[go_sem]) k
theorem ZP (hW:Wd w0 w Bs) (hg:Gok ops n L gd) (ht:Nat.blt t n=true)
 (k:∀ w' B,Wd w0 w' ((B,#[.int .i64 0,.int .i64 0],30)::Bs)→New w w' B→St n ((t,.pointer (some ⟨B,0,none⟩))::L) ops Q rest w'):St n L ops Q (⟨some t,.alloc 30,ty,pos,aft,gd⟩::rest) w :=
 Qde #[.int .i64 0,.int .i64 0] 30 hW rfl hg ht (fun ev hev=>by simp[go_sem]) k
theorem Qgg (hW:Wd w0 w Bs) (hg:Gok ops n L gd) (ht:Nat.blt t n=true)
 (k:∀ w' B,Wd w0 w' ((B,#[.bool false,.bool false,.bool false,.bool false,.bool false,.bool false,.bool false],143)::Bs)→New w w' B→St n ((t,.pointer (some ⟨B,0,none⟩))::L) ops Q rest w'):St n L ops Q (⟨some t,.alloc 143,ty,pos,aft,gd⟩::rest) w :=
 Qde #[.bool false,.bool false,.bool false,.bool false,.bool false,.bool false,.bool false] 143 hW rfl hg ht (fun ev hev=>by simp[go_sem]) k
theorem sT (i:Nat){B j:Nat}{c:Array Value}{bt:TypeId}{cells:List Value}(hW:Wd w0 w Bs)
 (hx:Qn L x=some (.pointer (some ⟨B,j,none⟩))) (hy:Qn L y=some (.agg cells.toArray)) (hi:(prog.info? ty2).map (·.size)=some cells.length) (h1:cells.all (·.oneCell')=true)
 (hb:Bs[i]?=some (B,c,bt)) (hs:Nat.ble (j+cells.length) c.size=true)
 (k:∀ w',Wd w0 w' (Bs.set i (B,ZA c j cells,bt))→St n L ops Q rest w'):St n L ops Q (⟨none,.store ty2 x y,ty,pos,aft,none⟩::rest) w:=fun a hF=>by
 have hn:j+cells.length≤c.size:=by simpa[Nat.ble_eq] using hs
 refine QjC hF (hW.setAt i hb j cells hs rfl rfl) rfl rfl (fun K hK=>?_) (fun w' hW'=>k w' hW' a hF);have e:=hF.ev hx;have e2:=hF.ev hy
 have:=run_storeAt_mid (P:=prog) w B j ty2 cells.toArray (by simpa using Qb8 (hW.get i hb) j cells.length hn) (by simpa using hi) (by simpa using h1)
 unfold Oper.wp execOp;simp only[e,e2,Sem.run_bind,this,Result.andThen_ok,Sem.run_pure]
 rw[Oper.upon_skip];simpa[Act.put] using hK
theorem s1 (i:Nat){B j:Nat}{c:Array Value}{bt:TypeId}(hi:(prog.info? ty2).map (·.size)=some 1) (hW:Wd w0 w Bs)
 (hx:Qn L x=some (.pointer (some ⟨B,j,none⟩))) (hy:Qn L y=some v) (hv:v.cells=#[v]) (h1:v.oneCell'=true)
 (hb:Bs[i]?=some (B,c,bt)) (hs:Nat.ble (j+1) c.size=true)
 (k:∀ w',Wd w0 w' (Bs.set i (B,ZA c j [v],bt))→St n L ops Q rest w'):St n L ops Q (⟨none,.store ty2 x y,ty,pos,aft,none⟩::rest) w:=fun a hF=>by
 have hn:j+1≤c.size:=by simpa[Nat.ble_eq] using hs
 refine QjC hF (hW.setAt i hb j [v] hs rfl rfl) rfl rfl (fun K hK=>?_) (fun w' hW'=>k w' hW' a hF);have e:=hF.ev hx;have e2:=hF.ev hy;have ht:=Qb8 (hW.get i hb) j 1 hn;have h2:=run_storeCells_cells (P:=prog) B j [v] 0 w (fun k hk=>by simpa using (ht k (by simpa using hk)).1) (fun k hk=>by simpa using (ht k (by simpa using hk)).2) (fun u hu=>by simp at hu;subst hu;exact h1)
 have h3:(Instr.storeAt ty2 (.pointer (some ⟨B,j,none⟩)) v).run prog w=.ok () (w.setCells B j [v]):=by
  cases hq:prog.info? ty2 with
  | none=>simp[hq] at hi
  | some q =>
    have hs1:q.size=1:=by simpa[hq] using hi
    simp only[Nat.add_zero] at h2
    simp[Instr.storeAt,Instr.sureAddr,storeVar,sizeOf,typeInfo,hq,hv,hs1,h2]
 unfold Oper.wp execOp;simp only[e,e2,Sem.run_bind,h3,Result.andThen_ok,Sem.run_pure]
 rw[Oper.upon_skip];simpa[Act.put] using hK
theorem QeA {o:Oper}{f:FuncId}{args:Array Value}{V:Value}(hW:Wd w0 w Bs) (hg:Gok ops n L o.guard) (hc:Rd prog f args w V) (hd:o.dst=some t) (ht:Nat.blt t n=true)
 (h:∀ ev:Operand→Value,(∀ x v,Qn L x=some v→ev x=v)→(execOp ev o).run prog w=.ok (.enter f args) w)
 (k:∀ w',Wd w0 w' Bs→St n ((t,V)::L) ops Q rest w'):St n L ops Q (o::rest) w:=fun a hF =>
 wpList_step fun K hK=>by
  rw[if_pos (hg.on hF)]
  unfold Oper.wp;rw[h a.eval (fun x v e=>hF.ev e),Oper.upon_enter]
  refine hc.mono ?_;rintro e w9 ⟨rfl,hb⟩;rw[hd]
  exact hK _ _ (k _ (hW.below hb) _ (hF.put ht))
def CF (f:FuncId):Prop:=∀ (args:Array Value) (w:World),(callFunc f args).run prog w=.ok (.enter f args) w
theorem ZN {f : FuncId} {fn : Func} (hf : prog.funcs[f]? = some fn) (h1 : (fn.name == "runtime.NumGoroutine") = false) (h2 : fn.body.isNone = false) : CF f := fun args w => by
 have h3 : ¬ fn.name = "runtime.NumGoroutine" := by simpa using h1
 have h4:¬ fn.body=none:=by intro h;rw[h] at h2;cases h2
 simp[callFunc,hf,h3,h4]
theorem QjB {f:FuncId}{ts:Array TypeId}{x0:Operand}{v0:Value}{V:Value}(hcf:CF f) (hW:Wd w0 w Bs) (hc:Rd prog f #[v0] w V) (hg:Gok ops n L gd) (h0:Qn L x0=some v0) (ht:Nat.blt t n=true)
 (k:∀ w',Wd w0 w' Bs→St n ((t,V)::L) ops Q rest w'):St n L ops Q (⟨some t,.call { callee:=.value (.func f),args:=#[x0],argTypes:=ts },ty,pos,aft,gd⟩::rest) w :=
 QeA hW hg hc rfl ht (fun ev hev=>by have e0:=hev _ _ h0;have ef:=hev (.func f) _ rfl;have ec:=hcf;unfold CF at ec;simp[go_sem,ef,ec,e0]) k
theorem Qhv {f:FuncId}{ts:Array TypeId}{x0 x1:Operand}{v0 v1:Value}{V:Value}(hcf:CF f) (hW:Wd w0 w Bs) (hc:Rd prog f #[v0,v1] w V) (hg:Gok ops n L gd) (h0:Qn L x0=some v0) (h1:Qn L x1=some v1) (ht:Nat.blt t n=true)
 (k:∀ w',Wd w0 w' Bs→St n ((t,V)::L) ops Q rest w'):St n L ops Q (⟨some t,.call { callee:=.value (.func f),args:=#[x0,x1],argTypes:=ts },ty,pos,aft,gd⟩::rest) w :=
 QeA hW hg hc rfl ht (fun ev hev=>by have e0:=hev _ _ h0;have e1:=hev _ _ h1;have ef:=hev (.func f) _ rfl;have ec:=hcf;unfold CF at ec;simp[go_sem,ef,ec,e0,e1]) k
theorem QlJ {f:FuncId}{ts:Array TypeId}{x0 x1 x2:Operand}{v0 v1 v2:Value}{V:Value}(hcf:CF f) (hW:Wd w0 w Bs) (hc:Rd prog f #[v0,v1,v2] w V) (hg:Gok ops n L gd) (h0:Qn L x0=some v0) (h1:Qn L x1=some v1) (h2:Qn L x2=some v2) (ht:Nat.blt t n=true)
 (k:∀ w',Wd w0 w' Bs→St n ((t,V)::L) ops Q rest w'):St n L ops Q (⟨some t,.call { callee:=.value (.func f),args:=#[x0,x1,x2],argTypes:=ts },ty,pos,aft,gd⟩::rest) w :=
 QeA hW hg hc rfl ht (fun ev hev=>by have e0:=hev _ _ h0;have e1:=hev _ _ h1;have e2:=hev _ _ h2;have ef:=hev (.func f) _ rfl;have ec:=hcf;unfold CF at ec;simp[go_sem,ef,ec,e0,e1,e2]) k
theorem Qlp {f:FuncId}{ts:Array TypeId}{xf:Operand}{x0:Operand}{v0:Value}{V:Value}(hcf:CF f) (hW:Wd w0 w Bs) (hc:Rd prog f #[v0] w V) (hg:Gok ops n L gd) (hf:Qn L xf=some (.func (.func f) #[] #[])) (h0:Qn L x0=some v0) (ht:Nat.blt t n=true)
 (k:∀ w',Wd w0 w' Bs→St n ((t,V)::L) ops Q rest w'):St n L ops Q (⟨some t,.call { callee:=.value xf,args:=#[x0],argTypes:=ts },ty,pos,aft,gd⟩::rest) w :=
 QeA hW hg hc rfl ht (fun ev hev=>by have e0:=hev _ _ h0;have ef:=hev _ _ hf;have ec:=hcf;unfold CF at ec;simp[go_sem,ef,ec,e0]) k
theorem QjU {f:FuncId}{ts:Array TypeId}{xf:Operand}{x0 x1:Operand}{v0 v1 cp:Value}{V:Value}(hcf:CF f) (hW:Wd w0 w Bs) (hc:Rd prog f #[v0,v1,cp] w V) (hg:Gok ops n L gd) (hf:Qn L xf=some (.func (.func f) #[] #[cp])) (h0:Qn L x0=some v0) (h1:Qn L x1=some v1) (ht:Nat.blt t n=true)
 (k:∀ w',Wd w0 w' Bs→St n ((t,V)::L) ops Q rest w'):St n L ops Q (⟨some t,.call { callee:=.value xf,args:=#[x0,x1],argTypes:=ts },ty,pos,aft,gd⟩::rest) w :=
 QeA hW hg hc rfl ht (fun ev hev=>by have e0:=hev _ _ h0;have e1:=hev _ _ h1;have ef:=hev _ _ hf;have ec:=hcf;unfold CF at ec;simp[go_sem,ef,ec,e0,e1]) k
theorem cf139:CF 139:=ZN func139 (by kernel_rfl) (by kernel_rfl)
theorem cf175:CF 175:=ZN func175 (by kernel_rfl) (by kernel_rfl)
theorem cf85:CF 85:=ZN func85 (by kernel_rfl) (by kernel_rfl)
theorem cf86:CF 86:=ZN func86 (by kernel_rfl) (by kernel_rfl)
theorem cf87:CF 87:=ZN func87 (by kernel_rfl) (by kernel_rfl)
theorem cf104:CF 104:=ZN func104 (by kernel_rfl) (by kernel_rfl)
theorem cf105:CF 105:=ZN func105 (by kernel_rfl) (by kernel_rfl)
theorem cf92:CF 92:=ZN func92 (by kernel_rfl) (by kernel_rfl)
theorem cf137:CF 137:=ZN func137 (by kernel_rfl) (by kernel_rfl)
theorem cf138:CF 138:=ZN func138 (by kernel_rfl) (by kernel_rfl)
theorem cf140:CF 140:=ZN func140 (by kernel_rfl) (by kernel_rfl)
theorem cf141:CF 141:=ZN func141 (by kernel_rfl) (by kernel_rfl)
theorem cf142:CF 142:=ZN func142 (by kernel_rfl) (by kernel_rfl)
theorem cf107:CF 107:=ZN func107 (by kernel_rfl) (by kernel_rfl)
theorem cf152:CF 152:=ZN func152 (by kernel_rfl) (by kernel_rfl)
theorem cf153:CF 153:=ZN func153 (by kernel_rfl) (by kernel_rfl)
theorem cf154:CF 154:=ZN func154 (by kernel_rfl) (by kernel_rfl)
theorem cf155:CF 155:=ZN func155 (by kernel_rfl) (by kernel_rfl)
theorem cf200:CF 200:=ZN func200 (by kernel_rfl) (by kernel_rfl)
theorem cf172:CF 172:=ZN func172 (by kernel_rfl) (by kernel_rfl)
theorem cf174:CF 174:=ZN func174 (by kernel_rfl) (by kernel_rfl)
theorem cf176:CF 176:=ZN func176 (by kernel_rfl) (by kernel_rfl)
theorem cf177:CF 177:=ZN func177 (by kernel_rfl) (by kernel_rfl)
theorem cf195:CF 195:=ZN func195 (by kernel_rfl) (by kernel_rfl)
theorem cf196:CF 196:=ZN func196 (by kernel_rfl) (by kernel_rfl)
theorem cf197:CF 197:=ZN func197 (by kernel_rfl) (by kernel_rfl)
theorem cf165:CF 165:=ZN func165 (by kernel_rfl) (by kernel_rfl)
theorem cf205:CF 205:=ZN func205 (by kernel_rfl) (by kernel_rfl)
theorem cf206:CF 206:=ZN func206 (by kernel_rfl) (by kernel_rfl)
theorem cf207:CF 207:=ZN func207 (by kernel_rfl) (by kernel_rfl)
theorem cf222:CF 222:=ZN func222 (by kernel_rfl) (by kernel_rfl)
theorem infType:(prog.info? 79).map (·.size)=some 3:=by kernel_rfl
theorem infIns:(prog.info? 59).map (·.size)=some 8:=by kernel_rfl
theorem infTo:(prog.info? 45).map (·.size)=some 3:=by kernel_rfl
theorem infEnd:(prog.info? 47).map (·.size)=some 9:=by kernel_rfl
theorem infBlock:(prog.info? 84).map (·.size)=some 12:=by kernel_rfl
theorem infFunc:(prog.info? 55).map (·.size)=some 4:=by kernel_rfl
theorem infModule:(prog.info? 24).map (·.size)=some 1:=by kernel_rfl
theorem infFault:(prog.info? 30).map (·.size)=some 2:=by kernel_rfl
theorem infFields:(prog.info? 143).map (·.size)=some 7:=by kernel_rfl
theorem inffuncLook:(prog.info? 134).map (·.size)=some 6:=by kernel_rfl
theorem infblockLook:(prog.info? 181).map (·.size)=some 19:=by kernel_rfl
theorem inf1Ints:(prog.info? 43).map (·.size)=some 1:=by kernel_rfl
theorem inf1Types:(prog.info? 52).map (·.size)=some 1:=by kernel_rfl
theorem inf1Inss:(prog.info? 42).map (·.size)=some 1:=by kernel_rfl
theorem inf1Blocks:(prog.info? 53).map (·.size)=some 1:=by kernel_rfl
theorem QQ {fn:Func}{R:Ending→World→Prop}{d:TypeDesc}(i:Nat){B:Nat}{c:Array Value}{bt:TypeId}(hF:Fr n a L) (hW:Wd w0 w Bs) (hr:fn.results=#[.cell t ty]) (hv:L.lookup t=some (.pointer (some ⟨B,0,none⟩))) (hb:Bs[i]?=some (B,c,bt))
 (hu:prog.underlying ty=some d) (hd:d.isRow=true) (hi:(prog.info? ty).map (·.size)=some c.size) (hR:R (.returned (.agg c)) w):bodyPost prog fn R .ret a w:=by
 refine bodyPost_ret ?_ hF.defers hR;have e:=hF.sl2 t _ hv;have e2:=run_loadVar_mid (P:=prog) w B 0 ty c.toList d (by have:=QdT (hW.get i hb) 0 c.size (by simp[Nat.ble_eq]);rw[List.drop_zero,List.take_of_length_le (by simp)] at this;exact this) hu hd (by simpa using hi);simp only[Array.toArray_toList] at e2
 simp[results,hr,e,asAddr,e2]
end
def Qh3 (B:Nat) (w w':World):Prop:=∀ k,k≠B→w'.heap[k]?=w.heap[k]?
theorem Lay.keep1 {α:Type}{A:Lay α}{w w':World}{lo B:Nat}{x:α}{cs:List Value}(h:A.In w (fun g=>lo≤g) x cs) (hk:Qh3 B w w') (hB:B<lo):A.In w' (fun g=>lo≤g) x cs :=
 A.keep (fun k hl _=>hk k (by omega)) (fun _ h _=>h) h
theorem Z3 (w:World) (B j:Nat) (vs:List Value):Qh3 B w (w.setCells B j vs):=fun k hk=>ZI hk vs j w
section
variable {n:Nat}{a:Act}{L:List (Tmp × Value)}{w0 w:World}{Bs:List (Nat × Array Value × TypeId)}{Q:Exit→Act→World→Prop}{ops:Array Oper}{rest:List Oper}{t:Tmp}{u v:Value}{ty ty2 ty3:TypeId}{pos:String}{aft:Array Edge}{gd:Option (Nat × Bool)}{x y:Operand}
theorem sTk (i:Nat){B j:Nat}{c:Array Value}{bt:TypeId}{cells:List Value}(hW:Wd w0 w Bs)
 (hx:Qn L x=some (.pointer (some ⟨B,j,none⟩))) (hy:Qn L y=some (.agg cells.toArray)) (hi:(prog.info? ty2).map (·.size)=some cells.length) (h1:cells.all (·.oneCell')=true)
 (hb:Bs[i]?=some (B,c,bt)) (hs:Nat.ble (j+cells.length) c.size=true)
 (k:∀ w',Qh3 B w w'→Wd w0 w' (Bs.set i (B,ZA c j cells,bt))→St n L ops Q rest w'):St n L ops Q (⟨none,.store ty2 x y,ty,pos,aft,none⟩::rest) w:=fun a hF=>by
 have hn:j+cells.length≤c.size:=by simpa[Nat.ble_eq] using hs
 refine QdH hF rfl rfl (fun K hK=>?_) (k (w.setCells B j cells) (Z3 w B j cells) (hW.setAt i hb j cells hs rfl rfl) a hF);have e:=hF.ev hx;have e2:=hF.ev hy
 have:=run_storeAt_mid (P:=prog) w B j ty2 cells.toArray (by simpa using Qb8 (hW.get i hb) j cells.length hn) (by simpa using hi) (by simpa using h1)
 unfold Oper.wp execOp;simp only[e,e2,Sem.run_bind,this,Result.andThen_ok,Sem.run_pure]
 rw[Oper.upon_skip];simpa[Act.put] using hK
theorem s1k (i:Nat){B j:Nat}{c:Array Value}{bt:TypeId}(hi:(prog.info? ty2).map (·.size)=some 1) (hW:Wd w0 w Bs)
 (hx:Qn L x=some (.pointer (some ⟨B,j,none⟩))) (hy:Qn L y=some v) (hv:v.cells=#[v]) (h1:v.oneCell'=true)
 (hb:Bs[i]?=some (B,c,bt)) (hs:Nat.ble (j+1) c.size=true)
 (k:∀ w',Qh3 B w w'→Wd w0 w' (Bs.set i (B,ZA c j [v],bt))→St n L ops Q rest w'):St n L ops Q (⟨none,.store ty2 x y,ty,pos,aft,none⟩::rest) w:=fun a hF=>by
 have hn:j+1≤c.size:=by simpa[Nat.ble_eq] using hs
 refine QdH hF rfl rfl (fun K hK=>?_) (k (w.setCells B j [v]) (Z3 w B j [v]) (hW.setAt i hb j [v] hs rfl rfl) a hF);have e:=hF.ev hx;have e2:=hF.ev hy;have ht:=Qb8 (hW.get i hb) j 1 hn;have h2:=run_storeCells_cells (P:=prog) B j [v] 0 w (fun k hk=>by simpa using (ht k (by simpa using hk)).1) (fun k hk=>by simpa using (ht k (by simpa using hk)).2) (fun u hu=>by simp at hu;subst hu;exact h1)
 have h3:(Instr.storeAt ty2 (.pointer (some ⟨B,j,none⟩)) v).run prog w=.ok () (w.setCells B j [v]):=by
  cases hq:prog.info? ty2 with
  | none=>simp[hq] at hi
  | some q =>
    have hs1:q.size=1:=by simpa[hq] using hi
    simp only[Nat.add_zero] at h2
    simp[Instr.storeAt,Instr.sureAddr,storeVar,sizeOf,typeInfo,hq,hv,hs1,h2]
 unfold Oper.wp execOp;simp only[e,e2,Sem.run_bind,h3,Result.andThen_ok,Sem.run_pure]
 rw[Oper.upon_skip];simpa[Act.put] using hK
theorem QhK {o:Oper}{f:FuncId}{args:Array Value}{R:Value→World→Prop}(hW:Wd w0 w Bs) (hg:Gok ops n L o.guard)
 (hc:Calls prog f args w fun e w'=>∃ v,e=.returned v∧R v w'∧Below w.heap.size w w') (hd:o.dst=some t) (ht:Nat.blt t n=true)
 (h:∀ ev:Operand→Value,(∀ x v,Qn L x=some v→ev x=v)→(execOp ev o).run prog w=.ok (.enter f args) w)
 (k:∀ v w',R v w'→Below w.heap.size w w'→Wd w0 w' Bs→St n ((t,v)::L) ops Q rest w'):St n L ops Q (o::rest) w:=fun a hF =>
 wpList_step fun K hK=>by
  rw[if_pos (hg.on hF)]
  unfold Oper.wp;rw[h a.eval (fun x v e=>hF.ev e),Oper.upon_enter]
  refine hc.mono ?_;rintro e w9 ⟨v,rfl,hR,hb⟩;rw[hd]
  exact hK _ _ (k _ _ hR hb (hW.below hb) _ (hF.put ht))
theorem Qmc {f:FuncId}{ts:Array TypeId}{x0:Operand}{v0:Value}{R:Value→World→Prop}(hcf:CF f) (hW:Wd w0 w Bs) (hc:Calls prog f #[v0] w fun e w'=>∃ v,e=.returned v∧R v w'∧Below w.heap.size w w') (hg:Gok ops n L gd) (h0:Qn L x0=some v0) (ht:Nat.blt t n=true)
 (k:∀ v w',R v w'→Below w.heap.size w w'→Wd w0 w' Bs→St n ((t,v)::L) ops Q rest w'):St n L ops Q (⟨some t,.call { callee:=.value (.func f),args:=#[x0],argTypes:=ts },ty,pos,aft,gd⟩::rest) w :=
 QhK hW hg hc rfl ht (fun ev hev=>by have e0:=hev _ _ h0;have ef:=hev (.func f) _ rfl;have ec:=hcf;unfold CF at ec;simp[go_sem,ef,ec,e0]) k
theorem Qj5 {f:FuncId}{ts:Array TypeId}{x0 x1:Operand}{v0 v1:Value}{R:Value→World→Prop}(hcf:CF f) (hW:Wd w0 w Bs) (hc:Calls prog f #[v0,v1] w fun e w'=>∃ v,e=.returned v∧R v w'∧Below w.heap.size w w') (hg:Gok ops n L gd) (h0:Qn L x0=some v0) (h1:Qn L x1=some v1) (ht:Nat.blt t n=true)
 (k:∀ v w',R v w'→Below w.heap.size w w'→Wd w0 w' Bs→St n ((t,v)::L) ops Q rest w'):St n L ops Q (⟨some t,.call { callee:=.value (.func f),args:=#[x0,x1],argTypes:=ts },ty,pos,aft,gd⟩::rest) w :=
 QhK hW hg hc rfl ht (fun ev hev=>by have e0:=hev _ _ h0;have e1:=hev _ _ h1;have ef:=hev (.func f) _ rfl;have ec:=hcf;unfold CF at ec;simp[go_sem,ef,ec,e0,e1]) k
theorem QiK {f:FuncId}{ts:Array TypeId}{xf x0:Operand}{v0:Value}{R:Value→World→Prop}(hcf:CF f) (hW:Wd w0 w Bs) (hc:Calls prog f #[v0] w fun e w'=>∃ v,e=.returned v∧R v w'∧Below w.heap.size w w') (hg:Gok ops n L gd) (hf:Qn L xf=some (.func (.func f) #[] #[])) (h0:Qn L x0=some v0) (ht:Nat.blt t n=true)
 (k:∀ v w',R v w'→Below w.heap.size w w'→Wd w0 w' Bs→St n ((t,v)::L) ops Q rest w'):St n L ops Q (⟨some t,.call { callee:=.value xf,args:=#[x0],argTypes:=ts },ty,pos,aft,gd⟩::rest) w :=
 QhK hW hg hc rfl ht (fun ev hev=>by have e0:=hev _ _ h0;have ef:=hev _ _ hf;have ec:=hcf;unfold CF at ec;simp[go_sem,ef,ec,e0]) k
end
theorem Qbd {B:Nat}{t:TypeId}:∀ (vs:List Value) (w:World) (c:Array Value) (j:Nat),Blk w B c t→j+vs.length≤c.size→Blk (w.setCells B j vs) B (ZA c j vs) t
 | [],w,c,j,h,hs=>by
   have:ZA c j []=c:=by unfold ZA;simp
   rw[this];exact h
 | v::vs,w,c,j,h,hs=>by
   have:=Qbd vs (w.setCell ⟨B,j,none⟩ v) (c.setIfInBounds j v) (j+1) (Qo h j v) (by simp at hs ⊢;omega)
   rw[Qcn _ _ _ _ hs] at this
   exact this
theorem Z4 {B b:Nat}(hb:B≤b):∀ (vs:List Value) (w w0:World) (j:Nat),Below B w0 w→Below B w0 (w.setCells b j vs)
 | [],w,w0,j,h=>h
 | v::vs,w,w0,j,h=>Z4 hb vs _ _ _ (h.setCell hb v)
theorem Qdk (w:World) (b j:Nat) (vs:List Value):w.grownBy (w.setCells b j vs) (some b):=by
 have h:=Z4 (Nat.zero_le b) vs w w j (Below.refl 0 w);exact⟨h.os,h.tape,h.output,h.size,fun k hk hne=>ZI (fun e=>hne (by rw[e])) vs j w⟩
section
variable {α:Type}{A:Lay α}{e:TypeId}{w:World}{lo g n:Nat}{l:List α}{xs:List Value}
theorem ZS.fill (h:ZS A e w lo (.slice (some ⟨g,0,none⟩) l.length n) l xs){x:α}{ds:List Value}(hx:A.In w (fun k=>lo≤k∧k≠g) x ds) (hq:l.length<n) :
 ZS A e (w.setCells g (l.length*A.size) ds) lo (.slice (some ⟨g,0,none⟩) (l.length+1) n) (l++[x]) (xs++ds):=by
 have hds:=A.len hx;refine ZS.push h (Lay.mono hx (fun k hk _=>⟨hk.1,fun e=>hk.2 (by simpa[Value.ownBlock] using e.symm)⟩)) (Qdk w g _ ds) (.inl rfl) ?_;obtain⟨hl,h2⟩:=h.own
 rcases h2 with ⟨h',_⟩|⟨g',cap',cur,h',hb,hg,hnc,hcm,hcs,htake⟩
 ·simp at h'
 ·simp only[Value.slice.injEq,Option.some.injEq,Addr.mk.injEq,and_true,true_and] at h'
  obtain⟨rfl,rfl⟩:=h'
  have hm:(l.length+1)*A.size≤n*A.size:=Nat.mul_le_mul_right _ hq;rw[Nat.add_mul,Nat.one_mul] at hm
  refine⟨by rw[List.length_append,hl,hds,Nat.add_mul,Nat.one_mul],.inr ⟨g,n,ZA cur (l.length*A.size) ds,rfl,hb,Qbd ds w cur _ hg (by omega),hq,hcm,?_,?_⟩⟩
  ·rw[← hcs];unfold ZA;simp;omega
  ·unfold ZA;rw[htake,Nat.add_mul,Nat.one_mul]
   rw[show l.length*A.size+A.size=(xs++ds).length by rw[List.length_append,hl,hds],List.toList_toArray,← List.append_assoc]
   exact List.take_left' rfl
end
section
variable {P:Program}{Q:Exit→Act→World→Prop}
def ZE (l:List Oper) (S:Nat→Bool):Prop:=∀ (j:Nat) (o:Oper),l[j]?=some o→S j=true→∀ e∈o.after,Region.binds .any e=true→S e.on=true
def Qe2 (o:Oper) (S:Nat→Bool):Prop:=∀ e∈o.after,Region.binds .any e=true→S e.on=true
theorem Qe2.at {o:Oper}{S:Nat→Bool}(h:Qe2 o S) (j:Nat) (hw:Qdu o j=true):S j=true:=by
 obtain⟨e,he,hb,rfl⟩:=QcY hw
 exact h e he hb
def Qat (i:Nat) (S:Nat→Bool):Nat→Bool:=fun j=>j==i||S j
def Qc1 (P:Program) (l:List Oper) (I:(Nat→Bool)→Act→World→Prop):Nat→List Oper→Prop
 | _,[]=>True
 | i,o::r=>(∀ (S:Nat→Bool) (a:Act) (w:World),S i=false→Qe2 o S→ZE l S→I S a w→∀ K:Act→World→Prop,(∀ a' w',I (Qat i S) a' w'→K a' w')→o.wp P a w K (fun _ _ _=>False))∧Qc1 P l I (i+1) r
theorem Qgh {l:List Oper}{I:(Nat→Bool)→Act→World→Prop}:∀ (r:List Oper) (k i:Nat) (o:Oper),Qc1 P l I k r→r[i]?=some o →
 ∀ (S:Nat→Bool) (a:Act) (w:World),S (k+i)=false→Qe2 o S→ZE l S→I S a w→∀ K:Act→World→Prop,(∀ a' w',I (Qat (k+i) S) a' w'→K a' w')→o.wp P a w K (fun _ _ _=>False)
 | [],_,_,_,_,h=>by simp at h
 | x::r,k,0,o,h,ho=>by simp at ho;subst ho;exact h.1
 | x::r,k,i+1,o,h,ho=>by
   simp at ho
   have:=Qgh r (k+1) i o h.2 ho
   rwa [show k+1+i=k+(i+1) by omega] at this
theorem QhC {l:List Oper}(hb:QaO 0 l=true) (hg:(l.all fun o=>o.guard.isNone)=true) (I:(Nat→Bool)→Act→World→Prop) (hst:Qc1 P l I 0 l)
 (hend:∀ S a w,(∀ j,j<l.length→S j=true)→I S a w→Q .normal a w) :
 ∀ (fuel:Nat) (listed:Array Bool) (a:Act) (w:World),listed.size=l.length→(listed.toList.filter (·==false)).length≤fuel→ZE l (fun j=>listed.getD j false)→I (fun j=>listed.getD j false) a w →
  wpAny P .any l.toArray Q fuel listed a w:=by
 have fin:∀ (listed:Array Bool) (a:Act) (w:World),listed.size=l.length→Region.ready .any l.toArray listed=[]→I (fun j=>listed.getD j false) a w→Q .normal a w:=by
  intro listed a w hs hr hI;refine hend _ a w ?_ hI;intro j
  induction j using Nat.strongRecOn with
  | _ j ih =>
    intro hj
    cases hc:listed.getD j false with
    | true=>rfl
    | false =>
      exfalso
      have hj':j<listed.size:=by omega
      have hnt:listed.getD j true=false:=by simp[Array.getD,hj'] at hc ⊢;exact hc
      have:j∈Region.ready .any l.toArray listed:=Qv.2 ⟨by simpa using hj,hnt,l[j],by simp[hj],fun e he hbd=>by
       have:=back_at l 0 j l[j] hb (by simp[hj]) e he hbd
       exact ih e.on (by omega) (by omega)⟩
      rw[hr] at this;cases this
 intro fuel
 induction fuel with
 | zero =>
   intro listed a w hs hf hcl hI
   have hr:Region.ready .any l.toArray listed=[]:=by
    rw[List.eq_nil_iff_forall_not_mem]
    intro i hi;obtain⟨h1,h2,_⟩:=Qv.1 hi
    have hlt:i<l.length:=by simpa using h1
    have:listed[i]'(by omega)=false:=by
     simp[Array.getD,show i<listed.size by omega] at h2;exact h2
    have hm:false∈listed.toList.filter (·==false):=List.mem_filter.2 ⟨by rw[← this];simp,by simp⟩
    have:=List.length_pos_of_mem hm
    omega
   exact⟨hr,fin listed a w hs hr hI⟩
 | succ fuel ih =>
   intro listed a w hs hf hcl hI;refine⟨fun hr=>fin listed a w hs hr hI,fun i hi=>?_⟩
   obtain⟨h1,h2,o,ho,hdep⟩:=Qv.1 hi
   have hlt:i<l.length:=by simpa using h1
   have hil:i<listed.size:=by omega
   have hun':listed[i]=false:=by simp[Array.getD,hil] at h2;exact h2
   have hun:listed.getD i false=false:=by simp[Array.getD,hil,hun']
   have hlen:((listed.setIfInBounds i true).toList.filter (·==false)).length≤fuel:=by
    have h3:=filter_set listed.toList i (by simpa using hil) (by simpa using hun');rw[Array.toList_setIfInBounds]
    omega
   have hfun:(fun j=>(listed.setIfInBounds i true).getD j false)=Qat i (fun j=>listed.getD j false):=by
    funext j
    unfold Qat;by_cases e:j=i
    ·subst e;simp[Array.getD,hil]
    ·have hne:i≠j:=fun x=>e x.symm;rw[Za,Array.getElem?_setIfInBounds_ne hne,← Za]
     simp[e]
   unfold wpOp;rw[ho]
   simp only
   have hgo:o.guard=none:=by
    have:=List.all_eq_true.1 hg o (Zm (by simpa using ho))
    simpa using this
   have hw:Region.wanted o (yielded l.toArray a.tmps)=true:=by unfold Region.wanted;rw[hgo]
   rw[hw,if_pos rfl]
   have hst':=Qgh l 0 i o hst (by simpa using ho) (fun j=>listed.getD j false) a w (by rw[Nat.zero_add];exact hun) hdep hcl hI;rw[Nat.zero_add] at hst'
   refine .inl (wpq (fun a' w' hh=>hh) (hst' _ fun a' w' hI'=>?_));refine ih _ _ _ (by simpa using hs) hlen ?_ (by rw[hfun];exact hI');rw[hfun]
   intro j oj hj hS e he hbd;unfold Qat at hS ⊢;by_cases e':j=i
   ·subst e';have hjo:some oj=some o:=by rw[← hj];simpa using ho
    cases hjo
    have:=hdep e he hbd
    simp[this]
   ·have:(j==i)=false:=by simpa using e'
    rw[this,Bool.false_or] at hS
    have:=hcl j oj hj hS e he hbd
    simp only at this
    simp[this]
theorem QdN {id:Nat}{l:List Oper}{a:Act}{w:World}(I:(Nat→Bool)→Act→World→Prop) (hm:P.follows .mixedOrders=true) (hB:(QaO 0 l&&(l.all fun o=>o.guard.isNone))=true) (h0:I (fun _=>false) a w.drew) (hst:Qc1 P l I 0 l)
 (hend:∀ S a w,(∀ j,j<l.length→S j=true)→I S a w→Q .normal a w):(Code.region id l.toArray true).wp P Q a w:=by
 rw[Bool.and_eq_true] at hB
 have e0:(fun j=>(Array.replicate l.length false).getD j false)=fun _=>false:=by
  funext j
  rw[Za,Array.getElem?_replicate]
  split<;>rfl
 have key:=QhC (Q:=Q) hB.1 hB.2 I hst hend l.length (Array.replicate l.length false) a w.drew (by simp) (Zt (List.length_filter_le _ _) (by simp)) (by rw[e0];intro j o _ h;cases h) (by rw[e0];exact h0);refine wp_region_any hm ?_;simpa using key
end
structure DI (n:Nat) (a0:Act) (w00:World) (ds:List Tmp) (Ti:List (Nat × Tmp)) (Ai:List (Nat × Tmp × Nat × TypeId)) (Oi:List (Nat × Tmp × Nat × TypeId)) (M:List (Tmp × Value)) (C:List (Tmp × List Value)) (S:Nat→Bool) (a:Act) (w:World):Prop where
 size:a.tmps.size=n
 defers:a.defers=[]
 outer:∀ t,ds.contains t=false→a.tmps.getD t undef=a0.tmps.getD t undef
 bel:Below w00.heap.size w00 w
 vals:∀ x∈Ti,S x.1=true→∀ v,M.lookup x.2=some v→a.tmps.getD x.2 undef=v
 new:∀ x∈Ai,S x.1=true→∃ B,a.tmps.getD x.2.1 undef=.pointer (some ⟨B,0,none⟩)∧w00.heap.size≤B∧∃ c,Blk w B c x.2.2.2∧c.size=x.2.2.1
 ne:∀ x∈Ai,∀ y∈Ai,x.2.1≠y.2.1→S x.1=true→S y.1=true→a.tmps.getD x.2.1 undef≠a.tmps.getD y.2.1 undef
 did:∀ x∈Oi,S x.1=true→∀ c,C.lookup x.2.1=some c→∃ B,a.tmps.getD x.2.1 undef=.pointer (some ⟨B,0,none⟩)∧Blk w B c.toArray x.2.2.2
def diB (l:List Oper) (n:Nat) (Ti:List (Nat × Tmp)) (Ai Oi:List (Nat × Tmp × Nat × TypeId)):Bool :=
 (nodupB (Ti.map (·.1))&&nodupB (Ai.map (·.1))&&nodupB (Oi.map (·.1)))&&(nodupB (Ti.map (·.2)++Ai.map (·.2.1))&&nodupB (Oi.map (·.2.1))&&((Ti.map (·.2)++Ai.map (·.2.1)).all fun t=>decide (t<n)&&(Ql l).contains t) &&
 (Oi.all fun x=>Ai.any fun y=>y.2.1==x.2.1&&y.2.2.1==x.2.2.1&&y.2.2.2==x.2.2.2&&(match l[x.1]? with | some o=>Qdu o y.1 | none=>false)))
theorem Qcd {l1 l2:List Tmp}:∀ {t:Tmp},nodupB (l1++l2)=true→t∈l1→t∈l2→False:=by
 induction l1 with
 | nil=>intro t _ h;cases h
 | cons x r ih =>
   intro t h h1 h2;simp only[List.cons_append,nodupB,Bool.and_eq_true,Bool.not_eq_true'] at h
   rcases List.mem_cons.1 h1 with rfl | h1
   ·have:=h.1
    simp at this
    exact this.2 h2
   ·exact ih h.2 h1 h2
theorem Z1 {α:Type}{f:α→Tmp}:∀ {l:List α},nodupB (l.map f)=true→∀ x∈l,∀ y∈l,f x=f y→x=y
 | [],_,_,h,_,_,_=>by cases h
 | z::r,h,x,hx,y,hy,e=>by
   simp only[List.map_cons,nodupB,Bool.and_eq_true,Bool.not_eq_true'] at h
   have hz:∀ u∈r,f u≠f z:=fun u hu e=>by
    have:=h.1
    simp at this
    exact this u hu e
   rcases List.mem_cons.1 hx with h1 | h1
   ·rcases List.mem_cons.1 hy with h2 | h2
    ·rw[h1,h2]
    ·exact absurd e.symm (h1 ▸ hz y h2)
   ·rcases List.mem_cons.1 hy with h2 | h2
    ·exact absurd e (h2 ▸ hz x h1)
    ·exact Z1 h.2 x h1 y h2 e
theorem QeN {l1 l2:List Tmp}(h:nodupB (l1++l2)=true):nodupB l2=true:=by
 induction l1 with
 | nil=>exact h
 | cons x r ih =>
   simp only[List.cons_append,nodupB,Bool.and_eq_true,Bool.not_eq_true'] at h
   exact ih h.2
section
variable {n i:Nat}{a0 a:Act}{w00 w w':World}{l:List Oper}{Ti:List (Nat × Tmp)}{Ai Oi:List (Nat × Tmp × Nat × TypeId)}{M:List (Tmp × Value)}{C:List (Tmp × List Value)}{S:Nat→Bool}{t:Tmp}{v:Value}{s:Nat}{ty:TypeId}
theorem Q8 {u:Tmp}(h:t<a.tmps.size):(a.put (some t) v).tmps.getD u undef=if u=t then v else a.tmps.getD u undef:=by
 by_cases e:u=t
 ·subst e;simp[Act.put,Array.getD,h]
 ·rw[if_neg e]
  have hne:t≠u:=fun x=>e x.symm;rw[Za,Za]
  simp only[Act.put]
  rw[Array.getElem?_setIfInBounds_ne hne]
theorem QY {j:Nat}(hne:j≠i) (h:Qat i S j=true):S j=true:=by
 have:(j==i)=false:=by simpa using hne
 unfold Qat at h;rwa [this,Bool.false_or] at h
theorem DI.pure (hB:diB l n Ti Ai Oi=true) (hI:DI n a0 w00 (Ql l) Ti Ai Oi M C S a w) (hi:(i,t)∈Ti) (hv:M.lookup t=some v) (hS:S i=false) (hb:Below w.heap.size w w')
 (hiA:(Ai.all fun x=>x.1 != i)=true) (hiO:(Oi.all fun x=>x.1 != i)=true):DI n a0 w00 (Ql l) Ti Ai Oi M C (Qat i S) (a.put (some t) v) w':=by
 simp only[diB,Bool.and_eq_true] at hB
 obtain⟨hix,⟨⟨hnd,hndO⟩,hall⟩,hO⟩:=hB
 have htT:t∈Ti.map (·.2):=List.mem_map.2 ⟨(i,t),hi,rfl⟩;have h9:=List.all_eq_true.1 hall t (List.mem_append_left _ htT);simp only[Bool.and_eq_true,decide_eq_true_eq] at h9
 have htn:t<a.tmps.size:=by rw[hI.size];exact h9.1
 have hneA:∀ x∈Ai,x.2.1≠t:=fun x hx e=>Qcd hnd htT (e ▸ List.mem_map.2 ⟨x,hx,rfl⟩)
 have hneO:∀ x∈Oi,x.2.1≠t:=fun x hx e=>by
  obtain⟨y,hy,hh⟩:=List.any_eq_true.1 (List.all_eq_true.1 hO x hx)
  simp only[Bool.and_eq_true,beq_iff_eq] at hh
  exact hneA y hy (hh.1.1.1.trans e)
 have hA:∀ x∈Ai,Qat i S x.1=true→S x.1=true:=fun x hx h=>QY (by have:=List.all_eq_true.1 hiA x hx;simpa using this) h;have hO':∀ x∈Oi,Qat i S x.1=true→S x.1=true:=fun x hx h=>QY (by have:=List.all_eq_true.1 hiO x hx;simpa using this) h;refine⟨by rw[← hI.size];simp[Act.put],hI.defers,fun u hu=>?_,Below.andThen hI.bel hb,fun x hx hs u hu=>?_,fun x hx hs=>?_,fun x hx y hy hxy hs1 hs2=>?_,fun x hx hs c hc=>?_⟩
 ·have:u≠t:=fun e=>by subst e;rw[h9.2] at hu;cases hu
  rw[Q8 htn,if_neg this];exact hI.outer u hu
 ·rw[Q8 htn]
  by_cases e:x.2=t
  ·rw[if_pos e];rw[e,hv] at hu;exact Option.some.inj hu
  ·rw[if_neg e]
   refine hI.vals x hx (QY (fun e2=>e ?_) hs) u hu;exact congrArg (·.2) (Z1 (f:=fun x:Nat × Tmp=>x.1) hix.1.1 x hx (i,t) hi e2)
 ·obtain⟨B,h1,h2,c,h3,h4⟩:=hI.new x hx (hA x hx hs)
  exact⟨B,by rw[Q8 htn,if_neg (hneA x hx)];exact h1,h2,c,h3.below hb,h4⟩
 ·rw[Q8 htn,if_neg (hneA x hx),Q8 htn,if_neg (hneA y hy)]
  exact hI.ne x hx y hy hxy (hA x hx hs1) (hA y hy hs2)
 ·obtain⟨B,h1,h2⟩:=hI.did x hx (hO' x hx hs) c hc
  exact⟨B,by rw[Q8 htn,if_neg (hneO x hx)];exact h1,h2.below hb⟩
theorem DI.alloc (hB:diB l n Ti Ai Oi=true) (hI:DI n a0 w00 (Ql l) Ti Ai Oi M C S a w) (hi:(i,t,s,ty)∈Ai){c:Array Value}(hc:c.size=s) (hS:S i=false) (hcl:ZE l S)
 (hiT:(Ti.all fun x=>x.1 != i)=true) (hiO:(Oi.all fun x=>x.1 != i)=true):DI n a0 w00 (Ql l) Ti Ai Oi M C (Qat i S) (a.put (some t) (.pointer (some ⟨w.heap.size,0,none⟩))) (w.alloc (.cells c ty)):=by
 simp only[diB,Bool.and_eq_true] at hB
 obtain⟨hix,⟨⟨hnd,hndO⟩,hall⟩,hO⟩:=hB
 have hb:Below w.heap.size w (w.alloc (.cells c ty)):=QN w _;have htA:t∈Ai.map (·.2.1):=List.mem_map.2 ⟨(i,t,s,ty),hi,rfl⟩;have h9:=List.all_eq_true.1 hall t (List.mem_append_right _ htA);simp only[Bool.and_eq_true,decide_eq_true_eq] at h9
 have htn:t<a.tmps.size:=by rw[hI.size];exact h9.1
 have hneT:∀ x∈Ti,x.2≠t:=fun x hx e=>Qcd hnd (e ▸ List.mem_map.2 ⟨x,hx,rfl⟩) htA;have one:∀ x∈Ai,x.2.1=t→x=(i,t,s,ty):=fun x hx e=>Z1 (f:=fun x:Nat × Tmp × Nat × TypeId=>x.2.1) (QeN hnd) x hx _ hi e;have old:∀ x∈Ai,x.2.1≠t→Qat i S x.1=true→S x.1=true:=fun x hx hne h=>QY (fun e=>hne (congrArg (·.2.1) (Z1 (f:=fun x:Nat × Tmp × Nat × TypeId=>x.1) hix.1.2 x hx _ hi e))) h;refine⟨by rw[← hI.size];simp[Act.put],hI.defers,fun u hu=>?_,Below.andThen hI.bel hb,fun x hx hs u hu=>?_,fun x hx hs=>?_,fun x hx y hy hxy hs1 hs2=>?_,fun x hx hs c' hc'=>?_⟩
 ·have:u≠t:=fun e=>by subst e;rw[h9.2] at hu;cases hu
  rw[Q8 htn,if_neg this];exact hI.outer u hu
 ·rw[Q8 htn,if_neg (hneT x hx)]
  exact hI.vals x hx (QY (by have:=List.all_eq_true.1 hiT x hx;simpa using this) hs) u hu
 ·by_cases e:x.2.1=t
  ·rw[one x hx e]
   exact⟨w.heap.size,by rw[Q8 htn,if_pos rfl],hI.bel.size,c,Blk.new w c ty,hc⟩
  ·obtain⟨B,h1,h2,c',h3,h4⟩:=hI.new x hx (old x hx e hs)
   exact⟨B,by rw[Q8 htn,if_neg e];exact h1,h2,c',h3.below hb,h4⟩
 ·have lt:∀ x∈Ai,x.2.1≠t→Qat i S x.1=true→a.tmps.getD x.2.1 undef≠.pointer (some ⟨w.heap.size,0,none⟩):=fun x hx e hs h=>by
   obtain⟨B,h1,h2,c',h3,h4⟩:=hI.new x hx (old x hx e hs)
   rw[h1] at h
   simp at h
   have:=h3.lt
   omega
  by_cases e1:x.2.1=t
  ·by_cases e2:y.2.1=t
   ·exact absurd (e1.trans e2.symm) hxy
   ·rw[Q8 htn,if_pos e1,Q8 htn,if_neg e2]
    exact fun h=>lt y hy e2 hs2 h.symm
  ·by_cases e2:y.2.1=t
   ·rw[Q8 htn,if_neg e1,Q8 htn,if_pos e2]
    exact lt x hx e1 hs1
   ·rw[Q8 htn,if_neg e1,Q8 htn,if_neg e2]
    exact hI.ne x hx y hy hxy (old x hx e1 hs1) (old y hy e2 hs2)
 ·have hs':S x.1=true:=QY (by have:=List.all_eq_true.1 hiO x hx;simpa using this) hs
  have hne:x.2.1≠t:=fun e=>by
   obtain⟨y,hy,hh⟩:=List.any_eq_true.1 (List.all_eq_true.1 hO x hx)
   simp only[Bool.and_eq_true,beq_iff_eq] at hh
   have hyt:=one y hy (hh.1.1.1.trans e)
   cases ho:l[x.1]? with
   | none=>rw[ho] at hh;simp at hh
   | some o =>
     rw[ho] at hh
     have:=Qe2.at (hcl x.1 o ho hs') y.1 hh.2
     rw[hyt] at this
     simp only at this
     rw[hS] at this
     cases this
  obtain⟨B,h1,h2⟩:=hI.did x hx hs' c' hc'
  exact⟨B,by rw[Q8 htn,if_neg hne];exact h1,h2.below hb⟩
theorem DI.box (hI:DI n a0 w00 (Ql l) Ti Ai Oi M C S a w) (hi:(i,t,s,ty)∈Ai) (hs:S i=true):∃ B,a.tmps.getD t undef=.pointer (some ⟨B,0,none⟩)∧w00.heap.size≤B∧∃ c,Blk w B c ty∧c.size=s:=hI.new _ hi hs
theorem QjR {w:World}{B:Nat}{c:Array Value}{ty:TypeId}{cs:List Value}(h:Blk w B c ty) (hs:c.size=cs.length):Blk (w.setCells B 0 cs) B cs.toArray ty:=by
 have:=Qbd cs w c 0 h (by omega)
 have e:ZA c 0 cs=cs.toArray:=by
  unfold ZA;have h9:c.toList.drop (0+cs.length)=[]:=List.drop_of_length_le (by simp[hs]);rw[h9];simp
 rwa [e] at this
theorem DI.store (hB:diB l n Ti Ai Oi=true) (hI:DI n a0 w00 (Ql l) Ti Ai Oi M C S a w) (hi:(i,t,s,ty)∈Oi){B j:Nat}{c:Array Value}{cs:List Value}(hj:(j,t,s,ty)∈Ai) (hsj:S j=true) (hv:a.tmps.getD t undef=.pointer (some ⟨B,0,none⟩)) (hBk:Blk w B c ty) (hcs:c.size=s) (hlo:w00.heap.size≤B) (hC:C.lookup t=some cs) (hln:cs.length=s) (hS:S i=false) (hcl:ZE l S)
 (hiT:(Ti.all fun x=>x.1 != i)=true) (hiA:(Ai.all fun x=>x.1 != i)=true):DI n a0 w00 (Ql l) Ti Ai Oi M C (Qat i S) a (w.setCells B 0 cs):=by
 simp only[diB,Bool.and_eq_true] at hB
 obtain⟨hix,⟨⟨hnd,hndO⟩,hall⟩,hO⟩:=hB
 have hk:=Z3 w B 0 cs;have hnew:=QjR (cs:=cs) hBk (by omega);have hA:∀ x∈Ai,Qat i S x.1=true→S x.1=true:=fun x hx h=>QY (by have:=List.all_eq_true.1 hiA x hx;simpa using this) h;refine⟨hI.size,hI.defers,hI.outer,Z4 hlo cs w w00 0 hI.bel,fun x hx hs u hu=>?_,fun x hx hs=>?_,fun x hx y hy hxy hs1 hs2=>hI.ne x hx y hy hxy (hA x hx hs1) (hA y hy hs2),fun x hx hs c' hc'=>?_⟩
 ·exact hI.vals x hx (QY (by have:=List.all_eq_true.1 hiT x hx;simpa using this) hs) u hu
 ·obtain⟨B',h1,h2,c',h3,h4⟩:=hI.new x hx (hA x hx hs)
  by_cases e:B'=B
  ·subst e
   have:some (Obj.cells c' x.2.2.2 (0,0))=some (Obj.cells c ty (0,0)):=by rw[← h3,← hBk]
   simp at this
   obtain⟨rfl,hty⟩:=this
   exact⟨B',h1,h2,_,by rw[hty];exact hnew,by simp;omega⟩
  ·exact⟨B',h1,h2,c',(hk B' e).trans h3,h4⟩
 ·by_cases e:x.2.1=t
  ·have hx':=Z1 (f:=fun x:Nat × Tmp × Nat × TypeId=>x.2.1) hndO x hx _ hi e;subst hx';simp only at hc' ⊢
   rw[hC] at hc'
   cases hc'
   exact⟨B,hv,hnew⟩
  ·have hs':S x.1=true:=QY (fun e'=>e (congrArg (·.2.1) (Z1 (f:=fun x:Nat × Tmp × Nat × TypeId=>x.1) hix.2 x hx _ hi e'))) hs;obtain⟨B',h1,h2⟩:=hI.did x hx hs' c' hc'
   have hne:B'≠B:=fun e'=>by
    obtain⟨y,hy,hh⟩:=List.any_eq_true.1 (List.all_eq_true.1 hO x hx)
    simp only[Bool.and_eq_true,beq_iff_eq] at hh
    cases ho:l[x.1]? with
    | none=>rw[ho] at hh;simp at hh
    | some o =>
      rw[ho] at hh
      exact hI.ne y hy _ hj (by rw[hh.1.1.1];exact e) (Qe2.at (hcl x.1 o ho hs') y.1 hh.2) hsj (by rw[hh.1.1.1,h1,e'];exact hv.symm)
   exact⟨B',h1,(hk B' hne).trans h2⟩
theorem QjM {Q:Exit→Act→World→Prop}{K:Act→World→Prop}{B:Nat}{c:Array Value}{bt ty2 ty3:TypeId}{cells:List Value}{x y:Tmp}{pos:String}{aft:Array Edge}(hB:Blk w B c bt)
 (hx:a.tmps.getD x undef=.pointer (some ⟨B,0,none⟩)) (hy:a.tmps.getD y undef=.agg cells.toArray) (hi:(prog.info? ty2).map (·.size)=some cells.length) (h1:cells.all (·.oneCell')=true) (hs:cells.length=c.size)
 (hK:K a (w.setCells B 0 cells)):Oper.wp prog ⟨none,.store ty2 (.tmp x) (.tmp y),ty3,pos,aft,none⟩ a w K Q:=by
 have e:a.eval (.tmp x)=.pointer (some ⟨B,0,none⟩):=hx;have e2:a.eval (.tmp y)=.agg cells.toArray:=hy
 have:=run_storeAt_mid (P:=prog) w B 0 ty2 cells.toArray (by simpa using Qb8 hB 0 cells.length (by omega)) (by simpa using hi) (by simpa using h1)
 unfold Oper.wp execOp;simp only[e,e2,Sem.run_bind,this,Result.andThen_ok,Sem.run_pure]
 rw[Oper.upon_skip];simpa[Act.put] using hK
end
theorem QbW (b:Nat):∀ (vs:List Value) (w:World) (j:Nat),(w.setCells b j vs).heap.size=w.heap.size
 | [],w,j=>rfl
 | v::vs,w,j=>(QbW b vs _ _).trans (by simp)
abbrev Qko (Z:Type):=List (Nat × (Z→World→(Nat→Prop)→Prop))
def Qch {Z:Type}(D:Qko Z):Prop:=∀ x∈D,∀ z w w' O,(∀ k,O k→k<w.heap.size→w'.heap[k]?=w.heap[k]?)→x.2 z w O→x.2 z w' O
def Qi0 (w00:World) (Ai:List (Nat × Tmp × Nat × TypeId)) (S:Nat→Bool) (a:Act) (w:World) (O:Nat→Prop):Prop :=
 (∀ k,O k→w00.heap.size≤k∧k<w.heap.size)∧∀ y∈Ai,S y.1=true→∀ B,a.tmps.getD y.2.1 undef=.pointer (some ⟨B,0,none⟩)→¬ O B
def DMz (n:Nat) (a0:Act) (w00:World) (ds:List Tmp) (Ti:List (Nat × Tmp)) (Ai Oi:List (Nat × Tmp × Nat × TypeId)){Z:Type}(M:Z→List (Tmp × Value)) (C:Z→List (Tmp × List Value)) (D:Qko Z) (z:Z) (S:Nat→Bool) (a:Act) (w:World):Prop :=
 DI n a0 w00 ds Ti Ai Oi (M z) (C z) S a w∧∀ x∈D,S x.1=true→∃ O,x.2 z w O∧Qi0 w00 Ai S a w O
def DM (n:Nat) (a0:Act) (w00:World) (ds:List Tmp) (Ti:List (Nat × Tmp)) (Ai Oi:List (Nat × Tmp × Nat × TypeId)){Z:Type}(M:Z→List (Tmp × Value)) (C:Z→List (Tmp × List Value)) (D:Qko Z) (S:Nat→Bool) (a:Act) (w:World):Prop :=
 ∃ z,DMz n a0 w00 ds Ti Ai Oi M C D z S a w
section
variable {n i:Nat}{a0 a:Act}{w00 w w':World}{l:List Oper}{Ti:List (Nat × Tmp)}{Ai Oi:List (Nat × Tmp × Nat × TypeId)}{Z:Type}{M:Z→List (Tmp × Value)}{C:Z→List (Tmp × List Value)}{D:Qko Z}{z z':Z}{S:Nat→Bool}{t:Tmp}{v:Value}{s:Nat}{ty:TypeId}
theorem Qkn (h:((D.map (·.1)).all fun j=>j != i)=true):∀ x∈D,x.1≠i:=fun x hx=>by
 have:=List.all_eq_true.1 h x.1 (List.mem_map.2 ⟨x,hx,rfl⟩)
 simpa using this
theorem QbT (hB:diB l n Ti Ai Oi=true) (hi:(i,t)∈Ti):∀ x∈Ai,x.2.1≠t:=by
 simp only[diB,Bool.and_eq_true] at hB
 obtain⟨hix,⟨⟨hnd,hndO⟩,hall⟩,hO⟩:=hB
 exact fun x hx e=>Qcd hnd (List.mem_map.2 ⟨(i,t),hi,rfl⟩) (e ▸ List.mem_map.2 ⟨x,hx,rfl⟩)
theorem QdV (hB:diB l n Ti Ai Oi=true) (ht:t∈Ti.map (·.2)++Ai.map (·.2.1)):t<n:=by
 simp only[diB,Bool.and_eq_true] at hB
 have h9:=List.all_eq_true.1 hB.2.1.2 t ht;simp only[Bool.and_eq_true,decide_eq_true_eq] at h9
 exact h9.1
theorem Qi0.pure {O:Nat→Prop}(hne:∀ x∈Ai,x.2.1≠t) (htn:t<a.tmps.size) (hiA:(Ai.all fun x=>x.1 != i)=true) (hb:w.heap.size≤w'.heap.size) (h:Qi0 w00 Ai S a w O):Qi0 w00 Ai (Qat i S) (a.put (some t) v) w' O :=
 ⟨fun k hk=>⟨(h.1 k hk).1,Zl (h.1 k hk).2 hb⟩,fun y hy hs B hB=>by
  rw[Q8 htn,if_neg (hne y hy)] at hB
  exact h.2 y hy (QY (by have:=List.all_eq_true.1 hiA y hy;simpa using this) hs) B hB⟩
theorem DMz.pure (hst:Qch D) (hB:diB l n Ti Ai Oi=true) (hI:DMz n a0 w00 (Ql l) Ti Ai Oi M C D z S a w) (hi:(i,t)∈Ti) (hv:(M z).lookup t=some v) (hS:S i=false) (hb:Below w.heap.size w w')
 (hiA:(Ai.all fun x=>x.1 != i)=true) (hiO:(Oi.all fun x=>x.1 != i)=true) (hiD':((D.map (·.1)).all fun j=>j != i)=true):DM n a0 w00 (Ql l) Ti Ai Oi M C D (Qat i S) (a.put (some t) v) w':=by
 have hiD:=Qkn hiD';refine⟨z,DI.pure hB hI.1 hi hv hS hb hiA hiO,fun x hx hs=>?_⟩
 obtain⟨O,h1,h2⟩:=hI.2 x hx (QY (hiD x hx) hs)
 exact⟨O,hst x hx z w w' O (fun k _ hk=>hb.block k hk) h1,h2.pure (QbT hB hi) (by rw[hI.1.size];exact QdV hB (List.mem_append_left _ (List.mem_map.2 ⟨(i,t),hi,rfl⟩))) hiA hb.size⟩
theorem DMz.alloc (hst:Qch D) (hB:diB l n Ti Ai Oi=true) (hI:DMz n a0 w00 (Ql l) Ti Ai Oi M C D z S a w) (hi:(i,t,s,ty)∈Ai){c:Array Value}(hc:c.size=s) (hS:S i=false) (hcl:ZE l S)
 (hiT:(Ti.all fun x=>x.1 != i)=true) (hiO:(Oi.all fun x=>x.1 != i)=true) (hiD':((D.map (·.1)).all fun j=>j != i)=true):DM n a0 w00 (Ql l) Ti Ai Oi M C D (Qat i S) (a.put (some t) (.pointer (some ⟨w.heap.size,0,none⟩))) (w.alloc (.cells c ty)):=by
 have hb:Below w.heap.size w (w.alloc (.cells c ty)):=QN w _;have hiD:=Qkn hiD';refine⟨z,DI.alloc hB hI.1 hi hc hS hcl hiT hiO,fun x hx hs=>?_⟩
 obtain⟨O,h1,h2⟩:=hI.2 x hx (QY (hiD x hx) hs)
 have htn:t<a.tmps.size:=by rw[hI.1.size];exact QdV hB (List.mem_append_right _ (List.mem_map.2 ⟨(i,t,s,ty),hi,rfl⟩))
 refine⟨O,hst x hx z w _ O (fun k _ hk=>hb.block k hk) h1,fun k hk=>⟨(h2.1 k hk).1,Zl (h2.1 k hk).2 hb.size⟩,fun y hy hs' B hB' hO=>?_⟩
 rw[Q8 htn] at hB'
 by_cases e:y.2.1=t
 ·rw[if_pos e] at hB'
  simp at hB'
  subst hB'
  have:=(h2.1 _ hO).2
  omega
 ·rw[if_neg e] at hB'
  refine h2.2 y hy (QY (fun e'=>e ?_) hs') B hB' hO;simp only[diB,Bool.and_eq_true] at hB
  exact congrArg (·.2.1) (Z1 (f:=fun x:Nat × Tmp × Nat × TypeId=>x.1) hB.1.1.2 y hy _ hi e')
theorem DMz.store (hst:Qch D) (hB:diB l n Ti Ai Oi=true) (hI:DMz n a0 w00 (Ql l) Ti Ai Oi M C D z S a w) (hi:(i,t,s,ty)∈Oi){B j:Nat}{c:Array Value}{cs:List Value}(hj:(j,t,s,ty)∈Ai) (hsj:S j=true) (hv:a.tmps.getD t undef=.pointer (some ⟨B,0,none⟩)) (hBk:Blk w B c ty) (hcs:c.size=s) (hlo:w00.heap.size≤B) (hC:(C z).lookup t=some cs) (hln:cs.length=s) (hS:S i=false) (hcl:ZE l S)
 (hiT:(Ti.all fun x=>x.1 != i)=true) (hiA:(Ai.all fun x=>x.1 != i)=true) (hiD':((D.map (·.1)).all fun j=>j != i)=true):DM n a0 w00 (Ql l) Ti Ai Oi M C D (Qat i S) a (w.setCells B 0 cs):=by
 have hiD:=Qkn hiD';refine⟨z,DI.store hB hI.1 hi hj hsj hv hBk hcs hlo hC hln hS hcl hiT hiA,fun x hx hs=>?_⟩
 obtain⟨O,h1,h2⟩:=hI.2 x hx (QY (hiD x hx) hs)
 have hk:=Z3 w B 0 cs;have hsz:(w.setCells B 0 cs).heap.size=w.heap.size:=QbW B cs w 0;refine⟨O,hst x hx z w _ O (fun k hk' _=>hk k fun e=>?_) h1,fun k hk'=>by rw[hsz];exact h2.1 k hk',fun y hy hs' B' hB' hO=>?_⟩
 ·subst e;exact h2.2 _ hj hsj k hv hk'
 ·exact h2.2 y hy (QY (by have:=List.all_eq_true.1 hiA y hy;simpa using this) hs') B' hB' hO
theorem DMz.call (hst:Qch D) (hB:diB l n Ti Ai Oi=true) (hI:DMz n a0 w00 (Ql l) Ti Ai Oi M C D z S a w) (hi:(i,t)∈Ti) (hv:(M z').lookup t=some v) (hS:S i=false) (hcl:ZE l S) (hb:Below w.heap.size w w')
 (hiA:(Ai.all fun x=>x.1 != i)=true) (hiO:(Oi.all fun x=>x.1 != i)=true)
 (dp:List Nat) (hdp:(dp.all fun j=>match l[j]? with | some o=>Qdu o i | none=>false)=true)
 (hM:∀ x∈Ti,x.1∈dp∨x.1=i∨(M z).lookup x.2=(M z').lookup x.2) (hC:∀ x∈Oi,x.1∈dp∨(C z).lookup x.2.1=(C z').lookup x.2.1)
 (hD:∀ x∈D,(x.1=i∧∃ O,x.2 z' w' O∧∀ k,O k→w.heap.size≤k∧k<w'.heap.size)∨(x.1≠i∧∀ w O,x.2 z w O→x.2 z' w O)):DM n a0 w00 (Ql l) Ti Ai Oi M C D (Qat i S) (a.put (some t) v) w':=by
 have hno:∀ j∈dp,S j=true→False:=fun j hj hs=>by
  have:=List.all_eq_true.1 hdp j hj
  cases ho:l[j]? with
  | none=>rw[ho] at this;simp at this
  | some o =>
    rw[ho] at this
    have:=Qe2.at (hcl j o ho hs) i this
    rw[hS] at this
    cases this
 have hI':DI n a0 w00 (Ql l) Ti Ai Oi (M z') (C z') S a w:=by
  refine⟨hI.1.size,hI.1.defers,hI.1.outer,hI.1.bel,fun x hx hs u hu=>?_,hI.1.new,hI.1.ne,fun x hx hs c hc=>?_⟩
  ·rcases hM x hx with h | h | h
   ·exact(hno _ h hs).elim
   ·rw[h,hS] at hs;cases hs
   ·exact hI.1.vals x hx hs u (h.trans hu)
  ·rcases hC x hx with h | h
   ·exact(hno _ h hs).elim
   ·exact hI.1.did x hx hs c (h.trans hc)
 have htn:t<a.tmps.size:=by rw[hI.1.size];exact QdV hB (List.mem_append_left _ (List.mem_map.2 ⟨(i,t),hi,rfl⟩))
 refine⟨z',DI.pure hB hI' hi hv hS hb hiA hiO,fun x hx hs=>?_⟩
 rcases hD x hx with ⟨_,O,h1,h2⟩|⟨hne,h1⟩
 ·refine⟨O,h1,fun k hk=>⟨Zt hI.1.bel.size (h2 k hk).1,(h2 k hk).2⟩,fun y hy hs' B hB' hO=>?_⟩
  rw[Q8 htn,if_neg (QbT hB hi y hy)] at hB'
  have hs2:S y.1=true:=QY (by have:=List.all_eq_true.1 hiA y hy;simpa using this) hs';obtain⟨B',h3,h4,c,h5,h6⟩:=hI.1.new y hy hs2
  rw[h3] at hB'
  simp at hB'
  subst hB'
  have:=h5.lt
  have:=(h2 _ hO).1
  omega
 ·obtain⟨O,h3,h4⟩:=hI.2 x hx (QY hne hs)
  exact⟨O,hst x hx z' w w' O (fun k _ hk=>hb.block k hk) (h1 w O h3),h4.pure (QbT hB hi) htn hiA hb.size⟩
end
section
variable {n i:Nat}{a0 a:Act}{w00 w w':World}{l:List Oper}{Ti:List (Nat × Tmp)}{Ai Oi:List (Nat × Tmp × Nat × TypeId)}{Z:Type}{M:Z→List (Tmp × Value)}{C:Z→List (Tmp × List Value)}{D:Qko Z}{z z':Z}{S:Nat→Bool}{t:Tmp}{v:Value}{s:Nat}{ty:TypeId}
theorem DMz.call2 (hst:Qch D) (hB:diB l n Ti Ai Oi=true) (hI:DMz n a0 w00 (Ql l) Ti Ai Oi M C D z S a w) (hi:(i,t)∈Ti) (hv:(M z').lookup t=some v) (hS:S i=false) (hcl:ZE l S) (hb:Below w.heap.size w w')
 (hiA:(Ai.all fun x=>x.1 != i)=true) (hiO:(Oi.all fun x=>x.1 != i)=true)
 (dp:List Nat) (hno:∀ j∈dp,S j=true→False)
 (hM:∀ x∈Ti,x.1∈dp∨x.1=i∨(M z).lookup x.2=(M z').lookup x.2) (hC:∀ x∈Oi,x.1∈dp∨(C z).lookup x.2.1=(C z').lookup x.2.1)
 (hD:∀ x∈D,(x.1=i∧∃ O,x.2 z' w' O∧∀ k,O k→w.heap.size≤k∧k<w'.heap.size)∨(x.1≠i∧∀ w O,x.2 z w O→x.2 z' w O)):DM n a0 w00 (Ql l) Ti Ai Oi M C D (Qat i S) (a.put (some t) v) w':=by
 have hI':DI n a0 w00 (Ql l) Ti Ai Oi (M z') (C z') S a w:=by
  refine⟨hI.1.size,hI.1.defers,hI.1.outer,hI.1.bel,fun x hx hs u hu=>?_,hI.1.new,hI.1.ne,fun x hx hs c hc=>?_⟩
  ·rcases hM x hx with h | h | h
   ·exact(hno _ h hs).elim
   ·rw[h,hS] at hs;cases hs
   ·exact hI.1.vals x hx hs u (h.trans hu)
  ·rcases hC x hx with h | h
   ·exact(hno _ h hs).elim
   ·exact hI.1.did x hx hs c (h.trans hc)
 have htn:t<a.tmps.size:=by rw[hI.1.size];exact QdV hB (List.mem_append_left _ (List.mem_map.2 ⟨(i,t),hi,rfl⟩))
 refine⟨z',DI.pure hB hI' hi hv hS hb hiA hiO,fun x hx hs=>?_⟩
 rcases hD x hx with ⟨_,O,h1,h2⟩|⟨hne,h1⟩
 ·refine⟨O,h1,fun k hk=>⟨Zt hI.1.bel.size (h2 k hk).1,(h2 k hk).2⟩,fun y hy hs' B hB' hO=>?_⟩
  rw[Q8 htn,if_neg (QbT hB hi y hy)] at hB'
  have hs2:S y.1=true:=QY (by have:=List.all_eq_true.1 hiA y hy;simpa using this) hs';obtain⟨B',h3,h4,c,h5,h6⟩:=hI.1.new y hy hs2
  rw[h3] at hB'
  simp at hB'
  subst hB'
  have:=h5.lt
  have:=(h2 _ hO).1
  omega
 ·obtain⟨O,h3,h4⟩:=hI.2 x hx (QY hne hs)
  exact⟨O,hst x hx z' w w' O (fun k _ hk=>hb.block k hk) (h1 w O h3),h4.pure (QbT hB hi) htn hiA hb.size⟩
end
theorem QfD {a a0:Act}{ds:List Tmp}(hs:a.tmps.size=a0.tmps.size) (hd:a.defers=a0.defers) (ho:∀ t,ds.contains t=false→a.tmps.getD t undef=a0.tmps.getD t undef):a=Q5 a0 (fun t=>a.tmps.getD t undef) ds:=by
 have e1:a.tmps=(Q5 a0 (fun t=>a.tmps.getD t undef) ds).tmps:=by
  refine Array.ext (by rw[Qac,hs]) fun t h1 h2=>?_;have h3:t<a0.tmps.size:=by rw[← hs];exact h1
  have:=Qbi (fun t=>a.tmps.getD t undef) ds a0 t h3
  rw[Array.getElem?_eq_getElem h2] at this
  by_cases hm:t∈ds
  ·rw[if_pos hm] at this
   simp only[Option.some.injEq] at this
   rw[this];simp[Array.getD,h1]
  ·rw[if_neg hm] at this
   have ho':=ho t (by simpa using hm);simp only[Array.getD,h1,h3,dite_true] at ho'
   rw[Array.getElem?_eq_getElem h3] at this
   simp only[Option.some.injEq] at this
   rw[this];exact ho'
 have e2:a.defers=(Q5 a0 (fun t=>a.tmps.getD t undef) ds).defers:=by rw[ZY,hd]
 cases a with
 | mk t d =>
   simp only at e1 e2
   generalize hp:Q5 a0 (fun x=>t.getD x undef) ds=p at e1 e2 ⊢
   cases p;simp only at e1 e2;rw[e1,e2]
theorem Qli {P:Program}{Q:Exit→Act→World→Prop}{id n:Nat}{l:List Oper}{a:Act}{w:World}{Z:Type}(Ti:List (Nat × Tmp)) (Ai Oi:List (Nat × Tmp × Nat × TypeId)) (M:Z→List (Tmp × Value)) (C:Z→List (Tmp × List Value)) (D:Qko Z) (z0:Z)
 (hm:P.follows .mixedOrders=true) (hn:a.tmps.size=n) (hdf:a.defers=[]) (hB:((QaO 0 l&&(l.all fun o=>o.guard.isNone))&&diB l n Ti Ai Oi)=true)
 (hst:diB l n Ti Ai Oi=true→Qc1 P l (DM n a w (Ql l) Ti Ai Oi M C D) 0 l)
 (hend:∀ z S a' w',(∀ j,j<l.length→S j=true)→DMz n a w (Ql l) Ti Ai Oi M C D z S a' w'→Q .normal a' w'):(Code.region id l.toArray true).wp P Q a w:=by
 rw[Bool.and_eq_true] at hB
 refine QdN (DM n a w (Ql l) Ti Ai Oi M C D) hm hB.1 ?_ (hst hB.2) (fun S a' w' hS ⟨z,hI⟩=>hend z S a' w' hS hI);exact⟨z0,⟨hn,hdf,fun _ _=>rfl,Qf Zr 1,fun _ _ h=>(by cases h),fun _ _ h=>(by cases h),fun _ _ _ _ _ h=>(by cases h),fun _ _ h=>(by cases h)⟩,fun _ _ h=>by cases h⟩
theorem infTy:(prog.info? 79).map (·.size)=some 3:=by kernel_rfl
theorem QlV {w2:World}{X FB gR oR nR cR k kn xc tc:Nat}{y u:TT 6}{ta xg:Option Addr}{nm:Nat→Int}{Q:Nat→Prop}(r2:w2.cell? ⟨FB,2,none⟩=some (.slice (some ⟨gR,oR,none⟩) nR cR)) (t0:w2.cell? ⟨gR,oR+k*3,none⟩=some (.int .i64 y.kind)) (t1:w2.cell? ⟨gR,oR+k*3+1,none⟩=some (.int .i64 y.r)) (t2:w2.cell? ⟨gR,oR+k*3+2,none⟩=some (.slice ta y.len tc)) (x6:w2.cell? ⟨X,6,none⟩=some (.slice xg kn xc)) (hkn:(k:Int)<nR) (HT:Hid (TIn w2 Q y ta)) (HCNT:Hid (y.count≤2000)) (HRN:Hid (Qgv w2 xg kn nm)) (HREN:Hid (y.ren kn nm=some u))
 (a:Act) (hn:a.tmps.size=365) (hdf:a.defers=[]) (h3:a.tmps.getD 3 undef=.pointer (some ⟨X,0,none⟩)) (h14:a.tmps.getD 14 undef=.pointer (some ⟨FB,0,none⟩)) (h18:a.tmps.getD 18 undef=.int .i64 (k:Int)) :
 Code.wp prog ((Tryz.f73.body.bind (Qj 76)).getD .skip) (fun e a' w'=>e=.normal∧∃ vs,a'=Q5 a vs [350,351,352,353,354,355,356,357,349,358,359,19,20]∧∃ ua uc B,vs 19=.pointer (some ⟨B,0,none⟩)∧vs 20=.bool true∧Blk w' B #[.int .i64 u.kind,.int .i64 u.r,.slice ua u.len uc] 79∧TIn w' (fun g=>w2.heap.size≤g) u ua∧Below w2.heap.size w2 w') a w2:=by
 conv=>arg 2;whnf
 have hDS:Qch (Z:=Option Addr × Nat) [(7,fun z w O=>TIn w O u z.1)]:=by
  intro x hx;simp only[List.mem_cons,List.not_mem_nil,or_false] at hx
  rcases hx with rfl
  intro z w w9 O hk h;exact h.keep hk (fun _ h _=>h)
 refine Qli (Z:=Option Addr × Nat) [(0,350),(1,351),(2,352),(3,353),(4,354),(5,355),(6,356),(7,357),(8,349),(9,358),(10,359),(13,20)] [(11,19,3,79)] [(12,19,3,79)] (fun z=>[(350,.pointer (some ⟨FB,2,none⟩)),(351,.slice (some ⟨gR,oR,none⟩) nR cR),(352,.int .i64 (k:Int)),(353,.pointer (some ⟨gR,oR+k*3,none⟩)),(354,.agg #[.int .i64 y.kind,.int .i64 y.r,.slice ta y.len tc]),(355,.pointer (some ⟨X,6,none⟩)),(356,.slice xg kn xc),(357,.tuple #[.agg #[.int .i64 u.kind,.int .i64 u.r,.slice z.1 u.len z.2],.bool true]),(349,.tuple #[.agg #[.int .i64 u.kind,.int .i64 u.r,.slice z.1 u.len z.2],.bool true]),(358,.agg #[.int .i64 u.kind,.int .i64 u.r,.slice z.1 u.len z.2]),(359,.bool true),(20,.bool true)]) (fun z=>[(19,[.int .i64 u.kind,.int .i64 u.r,.slice z.1 u.len z.2])]) [(7,fun z w O=>TIn w O u z.1)] (none,0) (by kernel_rfl) hn hdf (by kernel_rfl) (fun hDB=>?hst) ?hend
 case hend =>
  rintro ⟨ua,uc⟩ S a' w' hS hI;have hS':∀ j,j<14→S j=true:=hS;obtain⟨B,hB,hBk⟩:=hI.1.did (12,19,3,79) (by decide) (hS' 12 (by decide)) _ rfl
  obtain⟨O,h7,hA⟩:=hI.2 (7,fun z w O=>TIn w O u z.1) (by simp) (hS' 7 (by decide))
  refine⟨rfl,_,QfD (by rw[hI.1.size,hn]) (by rw[hI.1.defers,hdf]) hI.1.outer,ua,uc,B,hB,hI.1.vals (13,20) (by decide) (hS' 13 (by decide)) _ rfl,hBk,h7.mono (fun k hk _=>(hA.1 k hk).1),hI.1.bel⟩
 case hst =>
  refine⟨fun S a1 w1 hS hd hcl hI0 K hK=>?_,?_⟩
  ·obtain⟨⟨ua,uc⟩,hI⟩:=hI0
   have k0:a1.tmps.getD 14 undef=.pointer (some ⟨FB,0,none⟩):=(hI.1.outer 14 (by kernel_rfl)).trans h14;go_simp;exact hK _ _ (DMz.pure hDS hDB hI (i:=0) (t:=350) (by decide) rfl hS Zr (by kernel_rfl) (by kernel_rfl) rfl)
  refine⟨fun S a1 w1 hS hd hcl hI0 K hK=>?_,?_⟩
  ·obtain⟨⟨ua,uc⟩,hI⟩:=hI0
   have k0:a1.tmps.getD 350 undef=.pointer (some ⟨FB,2,none⟩):=hI.1.vals (0,350) (by decide) (hd.at 0 (by kernel_rfl)) _ rfl;have c0:=Qi r2 hI.1.bel;go_simp;exact hK _ _ (DMz.pure hDS hDB hI (i:=1) (t:=351) (by decide) rfl hS Zr (by kernel_rfl) (by kernel_rfl) rfl)
  refine⟨fun S a1 w1 hS hd hcl hI0 K hK=>?_,?_⟩
  ·obtain⟨⟨ua,uc⟩,hI⟩:=hI0
   have k0:a1.tmps.getD 18 undef=.int .i64 (k:Int):=(hI.1.outer 18 (by kernel_rfl)).trans h18;go_simp;exact hK _ _ (DMz.pure hDS hDB hI (i:=2) (t:=352) (by decide) rfl hS Zr (by kernel_rfl) (by kernel_rfl) rfl)
  refine⟨fun S a1 w1 hS hd hcl hI0 K hK=>?_,?_⟩
  ·obtain⟨⟨ua,uc⟩,hI⟩:=hI0
   have k0:a1.tmps.getD 351 undef=.slice (some ⟨gR,oR,none⟩) nR cR:=hI.1.vals (1,351) (by decide) (hd.at 1 (by kernel_rfl)) _ rfl;have k1:a1.tmps.getD 352 undef=.int .i64 (k:Int):=hI.1.vals (2,352) (by decide) (hd.at 2 (by kernel_rfl)) _ rfl;go_simp;exact hK _ _ (DMz.pure hDS hDB hI (i:=3) (t:=353) (by decide) rfl hS Zr (by kernel_rfl) (by kernel_rfl) rfl)
  refine⟨fun S a1 w1 hS hd hcl hI0 K hK=>?_,?_⟩
  ·obtain⟨⟨ua,uc⟩,hI⟩:=hI0
   have k0:a1.tmps.getD 353 undef=.pointer (some ⟨gR,oR+k*3,none⟩):=hI.1.vals (3,353) (by decide) (hd.at 3 (by kernel_rfl)) _ rfl;have c0:=Qi t0 hI.1.bel;have c1:=Qi t1 hI.1.bel;have c2:=Qi t2 hI.1.bel;go_simp;exact hK _ _ (DMz.pure hDS hDB hI (i:=4) (t:=354) (by decide) rfl hS Zr (by kernel_rfl) (by kernel_rfl) rfl)
  refine⟨fun S a1 w1 hS hd hcl hI0 K hK=>?_,?_⟩
  ·obtain⟨⟨ua,uc⟩,hI⟩:=hI0
   have k0:a1.tmps.getD 3 undef=.pointer (some ⟨X,0,none⟩):=(hI.1.outer 3 (by kernel_rfl)).trans h3;go_simp;exact hK _ _ (DMz.pure hDS hDB hI (i:=5) (t:=355) (by decide) rfl hS Zr (by kernel_rfl) (by kernel_rfl) rfl)
  refine⟨fun S a1 w1 hS hd hcl hI0 K hK=>?_,?_⟩
  ·obtain⟨⟨ua,uc⟩,hI⟩:=hI0
   have k0:a1.tmps.getD 355 undef=.pointer (some ⟨X,6,none⟩):=hI.1.vals (5,355) (by decide) (hd.at 5 (by kernel_rfl)) _ rfl;have c0:=Qi x6 hI.1.bel;go_simp;exact hK _ _ (DMz.pure hDS hDB hI (i:=6) (t:=356) (by decide) rfl hS Zr (by kernel_rfl) (by kernel_rfl) rfl)
  refine⟨fun S a1 w1 hS hd hcl hI0 K hK=>?_,?_⟩
  ·obtain⟨⟨ua,uc⟩,hI⟩:=hI0
   have k0:a1.tmps.getD 354 undef=.agg #[.int .i64 y.kind,.int .i64 y.r,.slice ta y.len tc]:=hI.1.vals (4,354) (by decide) (hd.at 4 (by kernel_rfl)) _ rfl;have k1:a1.tmps.getD 356 undef=.slice xg kn xc:=hI.1.vals (6,356) (by decide) (hd.at 6 (by kernel_rfl)) _ rfl;go_simp;refine(renamedT_any 6 y ta tc xg kn xc nm w1 (HT.out.below hI.1.bel).all HCNT.out (HRN.out.below hI.1.bel)).mono ?_
   rw[HREN.out]
   rintro e w9 ⟨uan,ucn,rfl,h9,hb⟩;refine hK _ _ (DMz.call2 hDS hDB hI (z':=(uan,ucn)) (i:=7) (t:=357) (by decide) rfl hS hcl hb (by kernel_rfl) (by kernel_rfl) [8,9,12,13] ?_ ?_ ?_ ?_)
   ·have n8:S 8=true→False:=fun hs=>by have:=Qe2.at (hcl 8 _ rfl hs) 7 (by kernel_rfl);rw[hS] at this;cases this
    intro j hj hs;simp only[List.mem_cons,List.not_mem_nil,or_false] at hj;rcases hj with rfl | rfl | rfl | rfl
    ·exact n8 hs
    ·exact n8 (Qe2.at (hcl 9 _ rfl hs) 8 (by kernel_rfl))
    ·exact n8 (Qe2.at (hcl 12 _ rfl hs) 8 (by kernel_rfl))
    ·exact n8 (Qe2.at (hcl 13 _ rfl hs) 8 (by kernel_rfl))
   ·intro x hx;simp only[List.mem_cons,List.not_mem_nil,or_false] at hx;rcases hx with rfl | rfl | rfl | rfl | rfl | rfl | rfl | rfl | rfl | rfl | rfl | rfl
    all_goals first | exact .inr (.inr rfl) | exact .inl (by decide) | exact .inr (.inl rfl)
   ·intro x hx;simp only[List.mem_cons,List.not_mem_nil,or_false] at hx;rcases hx with rfl
    all_goals exact .inl (by decide)
   ·intro x hx;simp only[List.mem_cons,List.not_mem_nil,or_false] at hx;rcases hx with rfl
    exact .inl ⟨rfl,fun k=>w1.heap.size≤k∧k<w9.heap.size,h9.mono (fun k hk hl=>⟨hk,hl⟩),fun k hk=>hk⟩
  refine⟨fun S a1 w1 hS hd hcl hI0 K hK=>?_,?_⟩
  ·obtain⟨⟨ua,uc⟩,hI⟩:=hI0
   have k0:a1.tmps.getD 357 undef=.tuple #[.agg #[.int .i64 u.kind,.int .i64 u.r,.slice ua u.len uc],.bool true]:=hI.1.vals (7,357) (by decide) (hd.at 7 (by kernel_rfl)) _ rfl;go_simp;exact hK _ _ (DMz.pure hDS hDB hI (i:=8) (t:=349) (by decide) rfl hS Zr (by kernel_rfl) (by kernel_rfl) rfl)
  refine⟨fun S a1 w1 hS hd hcl hI0 K hK=>?_,?_⟩
  ·obtain⟨⟨ua,uc⟩,hI⟩:=hI0
   have k0:a1.tmps.getD 349 undef=.tuple #[.agg #[.int .i64 u.kind,.int .i64 u.r,.slice ua u.len uc],.bool true]:=hI.1.vals (8,349) (by decide) (hd.at 8 (by kernel_rfl)) _ rfl;go_simp;exact hK _ _ (DMz.pure hDS hDB hI (i:=9) (t:=358) (by decide) rfl hS Zr (by kernel_rfl) (by kernel_rfl) rfl)
  refine⟨fun S a1 w1 hS hd hcl hI0 K hK=>?_,?_⟩
  ·obtain⟨⟨ua,uc⟩,hI⟩:=hI0
   have k0:a1.tmps.getD 349 undef=.tuple #[.agg #[.int .i64 u.kind,.int .i64 u.r,.slice ua u.len uc],.bool true]:=hI.1.vals (8,349) (by decide) (hd.at 8 (by kernel_rfl)) _ rfl;go_simp;exact hK _ _ (DMz.pure hDS hDB hI (i:=10) (t:=359) (by decide) rfl hS Zr (by kernel_rfl) (by kernel_rfl) rfl)
  refine⟨fun S a1 w1 hS hd hcl hI0 K hK=>?_,?_⟩
  ·obtain⟨⟨ua,uc⟩,hI⟩:=hI0
   go_simp;exact hK _ _ (DMz.alloc hDS hDB hI (i:=11) (t:=19) (s:=3) (ty:=79) (by decide) rfl hS hcl (by kernel_rfl) (by kernel_rfl) rfl)
  refine⟨fun S a1 w1 hS hd hcl hI0 K hK=>?_,?_⟩
  ·obtain⟨⟨ua,uc⟩,hI⟩:=hI0
   have k0:a1.tmps.getD 358 undef=.agg #[.int .i64 u.kind,.int .i64 u.r,.slice ua u.len uc]:=hI.1.vals (9,358) (by decide) (hd.at 9 (by kernel_rfl)) _ rfl;obtain⟨B,kB,hlo,c0,hBk,hcs⟩:=hI.1.box (i:=11) (t:=19) (s:=3) (ty:=79) (by decide) (hd.at 11 (by kernel_rfl))
   exact QjM hBk kB k0 infTy rfl hcs.symm (hK _ _ (DMz.store hDS hDB hI (i:=12) (t:=19) (s:=3) (ty:=79) (j:=11) (by decide) (by decide) (hd.at 11 (by kernel_rfl)) kB hBk hcs hlo rfl rfl hS hcl (by kernel_rfl) (by kernel_rfl) rfl))
  refine⟨fun S a1 w1 hS hd hcl hI0 K hK=>?_,?_⟩
  ·obtain⟨⟨ua,uc⟩,hI⟩:=hI0
   have k0:a1.tmps.getD 359 undef=.bool true:=hI.1.vals (10,359) (by decide) (hd.at 10 (by kernel_rfl)) _ rfl;go_simp;exact hK _ _ (DMz.pure hDS hDB hI (i:=13) (t:=20) (by decide) rfl hS Zr (by kernel_rfl) (by kernel_rfl) rfl)
  trivial
theorem Qeb {m:Nat}{too:Nat→Int}(ht:∀ i,i<m→-9223372036854775808≤too i∧too i≤9223372036854775807):{n:Nat}→{t u:TT n}→t.ok→t.ren m too=some u→u.ok
 | 0,t,_,_,_=>Empty.elim t
 | n+1,t,u,hok,h=>by
   simp only[TT.ren] at h
   cases e1:Qap m too t.1 t.2.1 with
   | none=>simp[e1] at h
   | some r1 =>
     simp only[e1] at h
     cases e2:Qcj (TT.ren m too) t.2.2 with
     | none=>simp[e2] at h
     | some l1 =>
       simp only[e2] at h
       have h:=Option.some.inj h;subst h;refine⟨?_,fun x hx=>?_⟩
       ·show -9223372036854775808≤r1∧r1≤9223372036854775807;unfold Qap at e1;split at e1
        ·cases e1;exact hok.1
        split at e1
        ·cases e1
        rename_i h1 h2
        split at e1
        ·cases e1
        ·cases e1;exact ht _ (by omega)
       ·obtain⟨a1,a2⟩:=Qar.1 e2
        obtain⟨i,hi⟩:=List.getElem?_of_mem hx
        have hil:i<t.2.2.length:=by rw[← a1];exact(Zi hi).1
        have:=a2 i t.2.2[i] (Zg hil)
        rw[hi] at this
        exact Qeb ht (hok.2 _ (List.getElem_mem hil)) this
theorem QdP {H:List Bool}{l:List Int}{k:Nat}{x:Int}(hx:l[k]?=some x) :
 QB H (l.take k) (l.drop k)=if hHas H x then (if inB (l.take k) x then 13 else QB H (l.take (k+1)) (l.drop (k+1))) else 10:=by
 obtain⟨hk,e⟩:=Zi hx
 rw[List.drop_eq_getElem_cons hk,e,QB,List.take_add_one,hx]
 rfl
theorem QeX {H:List Bool}{l:List Int}{k:Nat}(hk:l.length≤k):QB H (l.take k) (l.drop k)=0:=by
 rw[List.drop_of_length_le hk,QB]
theorem Qej {w:World}{Q:Nat→Prop}{l:List Int}{a:Option Addr}{m c:Nat}(h:intsL.In w Q l [.slice a m c]):∀ x∈l,-9223372036854775808≤x∧x≤9223372036854775807:=fun x hx=>by
 obtain⟨i,hi⟩:=List.getElem?_of_mem hx
 obtain⟨g,o,ds,_,_,_,_,_,hr⟩:=Lay.list_at h hi
 exact hr
theorem Qb6 {w:World}{Q:Nat→Prop}{m:List (Qg 6)}{p:Option Addr}{n c:Nat}(h:(Qaq 6).In w Q m [.slice p n c]){k:Nat}{g:Qg 6}(hg:m[k]?=some g) :
 ∃ mg mo a1 c1 a2 c2 a3 c3,p=some ⟨mg,mo,none⟩∧w.cell? ⟨mg,mo+k*4,none⟩=some (.int .i64 g.regs)∧w.cell? ⟨mg,mo+k*4+1,none⟩=some (.slice a1 g.params.length c1)∧w.cell? ⟨mg,mo+k*4+2,none⟩=some (.slice a2 g.results.length c2)∧w.cell? ⟨mg,mo+k*4+3,none⟩=some (.slice a3 g.blocks.length c3) ∧
  (Qm 6).In w Q g.params [.slice a1 g.params.length c1]∧(Qm 6).In w Q g.results [.slice a2 g.results.length c2]:=by
 obtain⟨mg,mo,ds,e1,e2,e3,hc,hd⟩:=Lay.list_at h hg
 obtain⟨a1,c1,a2,c2,a3,c3,rfl,h1,h2,h3,h4⟩:=ZH hd
 exact⟨mg,mo,a1,c1,a2,c2,a3,c3,e1,hc 0 (by decide),hc 1 (by decide),hc 2 (by decide),hc 3 (by decide),h1,h2⟩
def Qku (w2:World) (b X mg mo nm cm k n1 d1 n2 d2 n3 d3:Nat) (fr:Int) (p1 p2 p3:Option Addr) (t:Tmp) (v:Value) (w:World):Prop :=
 match ([(14,fun v w=>∃ B,v=.pointer (some ⟨B,0,none⟩)∧w2.heap.size≤B∧Blk w B #[.int .i64 0,.slice none 0 0,.slice none 0 0,.slice none 0 0] 55)]:List (Tmp × (Value→World→Prop))).lookup t with
 | some p=>p v w
 | none=>v=(([(0,.pointer (some ⟨b,0,none⟩)),(3,.pointer (some ⟨X,0,none⟩)),(288,.pointer (some ⟨b,0,none⟩)),(289,.pointer (some ⟨b,0,none⟩)),(290,.pointer (some ⟨b,0,none⟩)),(291,.pointer (some ⟨b,0,none⟩)),(292,.slice (some ⟨mg,mo,none⟩) nm cm),(293,.pointer (some ⟨X,4,none⟩)),(294,.int .i64 (k:Int)),(295,.pointer (some ⟨mg,mo+k*4,none⟩)),(296,.agg #[.int .i64 fr,.slice p1 n1 d1,.slice p2 n2 d2,.slice p3 n3 d3])]:List (Tmp × Value)).lookup t).getD undef
theorem Ql8 {w w2:World}{b X:Nat}{O:Nat→Prop}{s:JSt}{x:Qy}{rg ag:Option Addr}{rc ac:Nat}{na:Option Addr}(HS:Hid (MkS w w2 b X O s x rg ag rc ac na)){mg mo nm cm k n1 d1 n2 d2 n3 d3:Nat}{fr:Int}{p1 p2 p3:Option Addr}(y0:w2.cell? ⟨b,0,none⟩=some (.slice (some ⟨mg,mo,none⟩) nm cm)) (f0:w2.cell? ⟨mg,mo+k*4,none⟩=some (.int .i64 fr)) (f1:w2.cell? ⟨mg,mo+k*4+1,none⟩=some (.slice p1 n1 d1)) (f2:w2.cell? ⟨mg,mo+k*4+2,none⟩=some (.slice p2 n2 d2)) (f3:w2.cell? ⟨mg,mo+k*4+3,none⟩=some (.slice p3 n3 d3)) (hkn:(k:Int)<nm) (hxk:x.k=(k:Int)){Q:Exit→Act→World→Prop}
 (a:Act) (m:Nat) (hn:a.tmps.size=m) (hn':365≤m) (h0:a.tmps.getD 0 undef=.pointer (some ⟨b,0,none⟩)) (h3:a.tmps.getD 3 undef=.pointer (some ⟨X,0,none⟩))
 (hend:∀ ops vs w',vs 296=.agg #[.int .i64 fr,.slice p1 n1 d1,.slice p2 n2 d2,.slice p3 n3 d3]→(fun v w=>∃ B,v=.pointer (some ⟨B,0,none⟩)∧w2.heap.size≤B∧Blk w B #[.int .i64 0,.slice none 0 0,.slice none 0 0,.slice none 0 0] 55) (vs 14) w'→Below w2.heap.size w2 w'→wpList prog ops Q (QcP 10 ((Tryz.f73.body.bind (Qj 59)).getD .skip)) (Q5 a vs [288,289,290,291,292,293,294,295,296,14]) w') :
 Code.wp prog ((Tryz.f73.body.bind (Qj 59)).getD .skip) Q a w2:=by
 conv=>arg 2;whnf
 refine Qq 10 (Qku w2 b X mg mo nm cm k n1 d1 n2 d2 n3 d3 fr p1 p2 p3) (fun w=>Below w2.heap.size w2 w) (fun w w'=>Below w.heap.size w w') (outs:=[0,3]) (gs:=[]) (bs:=[true,true,true,true,true,true,true,true,true,true]) (by kernel_rfl) (n:=365) hn hn' (by kernel_rfl) (by kernel_rfl) ?hR ?hG (Qf Zr 1) ⟨h0,h3,trivial⟩ ?hA ?hend
 case hR =>
  intro t v w w' hr h;unfold Qku at h ⊢;split at h
  ·rename_i p hp
   simp only[List.lookup_cons,List.lookup_nil] at hp
   split at hp
   ·cases hp;exact(by obtain⟨B,e,h1,h2⟩:=h;exact⟨B,e,h1,(hr.block B (lt_of_block h2)).trans h2⟩)
   ·cases hp
  ·exact h
 case hG=>exact trivial
 case hend=>exact fun ops vs w' hW hk=>hend ops vs w' (hk 296 (by kernel_rfl)) (hk 14 (by kernel_rfl)) hW
 case hA =>
  iterate 6
   refine⟨fun a w hW hk K hK=>?_,?_⟩
   ·obtain⟨k0,-⟩:=hk
    conv at k0=>whnf;rhs;whnf
    have u0:=Qi y0 hW;go_simp;exact hK _ _ Zr hW rfl
  refine⟨fun a w hW hk K hK=>?_,?_⟩
  ·obtain⟨k0,-⟩:=hk
   conv at k0=>whnf;rhs;whnf
   have c0:=(HS.out.below hW).cells.2.2.2.2.1;rw[hxk] at c0
   go_simp;exact hK _ _ Zr hW rfl
  refine⟨fun a w hW hk K hK=>?_,?_⟩
  ·obtain⟨k0,k1,-⟩:=hk
   conv at k0=>whnf;rhs;whnf
   conv at k1=>whnf;rhs;whnf
   go_simp;exact hK _ _ Zr hW rfl
  refine⟨fun a w hW hk K hK=>?_,?_⟩
  ·obtain⟨k0,-⟩:=hk
   conv at k0=>whnf;rhs;whnf
   have u0:=Qi f0 hW;have u1:=Qi f1 hW;have u2:=Qi f2 hW;have u3:=Qi f3 hW;go_simp;exact hK _ _ Zr hW rfl
  refine⟨fun a w hW hk K hK=>?_,?_⟩
  ·clear hk;go_simp;exact hK _ _ (QN _ _) (hW.alloc hW.size _) ⟨_,rfl,hW.size,Qe _ _ _⟩
  trivial
theorem Qfo {w:World}{b:Nat}{O:Nat→Prop}{s:JSt}{x:Qy}{rg ag:Option Addr}{rc ac:Nat}(hO:∀ k,O k→k<w.heap.size) (hJ:JOk s) (h:KAt w b O s){QR QA:Nat→Prop}(hregs:intsL.In w QR x.regs [.slice rg x.regs.length rc]) (hargs:intsL.In w QA x.args [.slice ag x.args.length ac]) (hrc:x.regs.length≤rc) (hr6:x.regs.length≤6) (ha8:x.args.length≤8) (hk0:0≤x.k∧x.k<s.m.length) (hop:x.op=14) :
 Calls prog 73 #[.pointer (some ⟨b,0,none⟩),QaR x rg ag rc ac] w fun e w'=>QO w O (s.makes x).1 (s.makes x).2 e w':=by
 have HREGS:=Qa hregs;have HARGS:=Qa hargs;clear hregs hargs
 have E:Hid (s.makes x=(match s.m[x.k.toNat]? with
  | none=>(0,[])
  | some g=>if (x.regs.length:Int)=g.regs then
   (code2 (QB s.H [] x.regs) (s.args x.args g.params x.regs),g.results.map (Qad x.regs))
   else (2,[]))):=Qbl hop
 have S0:=Qa (MkS.start x rg ag rc ac hO hJ h);obtain⟨xop,xa,xb,xc,xk,xn,xr,xs⟩:=x
 simp only at hop
 subst hop;clear h;go_enter func73,ntmps73
 go_upto_region 59 with fail
 obtain⟨w2,hw2⟩:∃ w2,(w.alloc (.cells #[.int .i64 14,.int .i64 xa,.int .i64 xb,.int .i64 xc,.int .i64 xk,.int .i64 xn,.slice rg xr.length rc,.slice ag xs.length ac] 59)).alloc (.cells #[.int .i64 1,.int .i64 0,.slice none 0 0] 79)=w2:=⟨_,rfl⟩
 obtain⟨X,hX⟩:∃ X,w.heap.size=X:=⟨_,rfl⟩
 have S2:Hid (MkS w w2 b X O s ⟨14,xa,xb,xc,xk,xn,xr,xs⟩ rg ag rc ac (some ⟨X+1,0,none⟩)):=by rw[← hw2,← hX];exact S0.out
 rw[hw2,hX]
 clear hw2 hX S0;obtain⟨x0,x1,x2,x3,x4,x6,x7⟩:=S2.out.cells
 have hH16:=S2.out.ok.regs;have hL80:=S2.out.ok.vals;simp only at x0 x1 x2 x3 x4 x6 x7 hrc hr6 ha8 hk0
 have HR2:Hid (intsL.In w2 QR xr [.slice rg xr.length rc]):=Lay.below HREGS.out S2.out.bel;have HA2:Hid (intsL.In w2 QA xs [.slice ag xs.length ac]):=Lay.below HARGS.out S2.out.bel;clear HREGS HARGS;obtain⟨k,rfl⟩:=Int.eq_ofNat_of_zero_le hk0.1
 have hkm:k<s.m.length:=by omega
 have hgk:s.m[k]?=some s.m[k]:=Zg hkm;generalize s.m[k]=g at hgk;obtain⟨pm,cm,a1,c1,a2,c2,a3,c3,hh,aL,cL,R⟩:=S2.out.known.read
 obtain⟨q0,-,-,-,-,-,-⟩:=R.cells
 obtain⟨mg,mo,p1,d1,p2,d2,p3,d3,rfl,f0,f1,f2,f3,hP,hRs⟩:=Qb6 R.mod hgk
 have HPA:Hid ((Qm 6).In w2 (fun g=>¬ O g) g.params [.slice p1 g.params.length d1]):=hP;have HRE:Hid ((Qm 6).In w2 (fun g=>¬ O g) g.results [.slice p2 g.results.length d2]):=hRs;have HGM:Hid (g∈s.m):=Zm hgk
 have E2:Hid (s.makes ⟨14,xa,xb,xc,(k:Int),xn,xr,xs⟩=if (xr.length:Int)=g.regs then (code2 (QB s.H [] xr) (s.args xs g.params xr),g.results.map (Qad xr)) else (2,[])):=by
  show _=_;rw[E.out]
  simp only[Int.toNat_natCast,hgk]
 have hkn:(k:Int)<s.m.length:=by omega
 clear E R hP hRs hgk hk0;generalize s.m.length=nm at q0 hkm hkn;generalize hfr:g.regs=fr at f0 E2;have HFR:Hid (g.regs=fr):=hfr;generalize hn1:g.params.length=n1 at f1 HPA;have HN1:Hid (g.params.length=n1):=hn1;generalize hn2:g.results.length=n2 at f2 HRE;have HN2:Hid (g.results.length=n2):=hn2;generalize g.blocks.length=n3 at f3;clear hfr hn1 hn2;refine Ql8 S2 q0 f0 f1 f2 f3 hkn rfl _ _ rfl (Nat.le_of_ble_eq_true (by kernel_rfl)) rfl rfl ?_;rintro ops vs w5 hv296 ⟨B,hv14,hB,hBb⟩ b5;show wpList _ ops _ [_] (Q5 _ vs [288,289,290,291,292,293,294,295,296,14]) w5;simp only[Q5,Act.put,List.setIfInBounds_toArray,List.set_cons_zero,List.set_cons_succ,hv296,hv14]
 have e0:=Qb hBb 0 _ rfl;have e1:=Qb hBb 1 _ rfl;have e2:=Qb hBb 2 _ rfl;have e3:=Qb hBb 3 _ rfl;have ef:∀ i,w5.frozen? ⟨B,i,none⟩=false:=fun i=>Qp hBb i
 have B6:Hid (Blk ((((w5.setCell ⟨B,0,none⟩ (.int .i64 fr)).setCell ⟨B,1,none⟩ (.slice p1 n1 d1)).setCell ⟨B,2,none⟩ (.slice p2 n2 d2)).setCell ⟨B,3,none⟩ (.slice p3 n3 d3)) B #[.int .i64 fr,.slice p1 n1 d1,.slice p2 n2 d2,.slice p3 n3 d3] 55):=by
  have h3:=Qo (Qo (Qo (Qo hBb 0 (.int .i64 fr)) 1 (.slice p1 n1 d1)) 2 (.slice p2 n2 d2)) 3 (.slice p3 n3 d3);exact h3
 have b6:Hid (Below w2.heap.size w2 ((((w5.setCell ⟨B,0,none⟩ (.int .i64 fr)).setCell ⟨B,1,none⟩ (.slice p1 n1 d1)).setCell ⟨B,2,none⟩ (.slice p2 n2 d2)).setCell ⟨B,3,none⟩ (.slice p3 n3 d3))) :=
  (((b5.setCell (p:=⟨B,0,none⟩) hB _).setCell (p:=⟨B,1,none⟩) hB _).setCell (p:=⟨B,2,none⟩) hB _).setCell (p:=⟨B,3,none⟩) hB _
 clear hBb hB b5 hv296 hv14 q0 f0 f1 f2 f3;go_upto_region 60 with fail
 generalize ((((w5.setCell ⟨B,0,none⟩ (.int .i64 fr)).setCell ⟨B,1,none⟩ (.slice p1 n1 d1)).setCell ⟨B,2,none⟩ (.slice p2 n2 d2)).setCell ⟨B,3,none⟩ (.slice p3 n3 d3))=w6 at B6 b6 ⊢;have S6:=Qa (S2.out.below b6.out);have HR6:Hid (intsL.In w6 QR xr [.slice rg xr.length rc]):=Lay.below HR2.out b6.out;have HA6:Hid (intsL.In w6 QA xs [.slice ag xs.length ac]):=Lay.below HA2.out b6.out;have HPA6:Hid ((Qm 6).In w6 (fun g=>¬ O g) g.params [.slice p1 n1 d1]):=Lay.below HPA.out b6.out;have HRE6:Hid ((Qm 6).In w6 (fun g=>¬ O g) g.results [.slice p2 n2 d2]):=Lay.below HRE.out b6.out;clear e0 e1 e2 e3 ef x0 x1 x2 x3 x4 x6 x7 S2 HR2 HA2 HPA HRE b6 hh aL cL a1 c1 a2 c2 a3 c3;have S2:=S6;clear S6;obtain⟨x0,x1,x2,x3,x4,x6,x7⟩:=S2.out.cells
 simp only at x0 x1 x2 x3 x4 x6 x7
 have e0:=Qb B6.out 0 _ rfl;have e1:=Qb B6.out 1 _ rfl;have e2:=Qb B6.out 2 _ rfl;generalize hKK:xr.length=K at x6 hrc hr6 HR6 E2;have HKK:Hid (xr.length=K):=hKK;generalize hNN:xs.length=N at x7 ha8 HA6;have HNN:Hid (xs.length=N):=hNN;clear hKK hNN;by_cases hfk:(K:Int)=fr
 ·have hfk':((K:Int) != fr)=false:=bne_eq_false_iff_eq.2 hfk;have E3:Hid (s.makes ⟨14,xa,xb,xc,(k:Int),xn,xr,xs⟩=(code2 (QB s.H [] xr) (s.args xs g.params xr),g.results.map (Qad xr))):=by show _=_;rw[E2.out,if_pos hfk]
  have HFK:=Qa hfk;clear E2 hfk;obtain⟨pm',cm',a1,c1,a2,c2,a3,c3,hh,aL,cL,R⟩:=S2.out.known.read
  obtain⟨-,-,-,-,-,q5,-⟩:=R.cells
  have HHO:Hid (Qk w6 hh O s.H):=R.holds;clear R;go_wp2_with fail
  go_loopw [15] (fun u wr=>∃ j,u=.int .i64 (j:Nat)∧j≤K∧Below w6.heap.size w6 wr∧QB s.H [] xr=QB s.H (xr.take j) (xr.drop j)) (fun u _=>K - (intOf u).toNat)
  case atStart=>exact⟨0,rfl,Nat.zero_le _,Zr,rfl⟩
  case round =>
   obtain⟨j,rfl,hj,hB,hC⟩:=hrel
   have HB:=Qa hB;have HC:=Qa hC;have S7:=Qa (S2.out.below hB);have x6':=Qi x6 hB;have x7':=Qi x7 hB;have q5':=Qi q5 hB;have HHO7:Hid (Qk wr hh O s.H):=HHO.out.below hB;have HR7:Hid (intsL.In wr QR xr [.slice rg K rc]):=Lay.below HR6.out hB;clear hB hC;by_cases hlt:j<K
   ·obtain⟨lg,lo,rfl,-,-,z0⟩:=ZC HR7.out (i:=j) (by rw[HKK.out];exact hlt)
    have hxi:xr[j]?=some (xr[j]'(by rw[HKK.out];exact hlt)):=Zg _;have ex:xr.getD j 0=xr[j]'(by rw[HKK.out];exact hlt):=by simp[List.getD,hxi]
    rw[ex] at z0
    generalize xr[j]'(by rw[HKK.out];exact hlt)=r at hxi z0;have hst:=QdP (H:=s.H) hxi;rw[← HC.out] at hst
    have hjK:(j:Int)<K:=by omega
    have hj0:(0:Int)≤j:=by omega
    have hjc:(j:Int)≤rc:=by omega
    have CH:Hid (∀ n,Calls prog 34 #[.pointer (some ⟨hh,0,none⟩),.int .i64 r] (wr.drewN n) fun e w'=>e=.returned (.bool (hHas s.H r))∧w'=wr.drewN n):=fun n=>QbU r (by omega) (show Qk (wr.drewN n) hh O s.H from HHO7.out);clear ex
    cases hq:hHas s.H r with
    | false =>
      rw[hq] at CH hst
      have E4:Hid ((s.makes ⟨14,xa,xb,xc,(k:Int),xn,xr,xs⟩).1=10):=by
       show _=_;have h1:QB s.H [] xr=10:=by simpa using hst
       rw[E3.out,h1];rfl
      have HBW:=Qa S7.out.bel;clear E3 hst hq hxi;go_wp2_with fail
      go_quiet ((go_at_call 34;exact Calls.quiet_of_same (CH.out _)))
      go_wp2
      go_ret2;rw[E4.out]
      exact QO.bad (by decide) (Qf HBW.out _) _ _ _
    | true =>
      rw[hq] at CH hst
      clear hq;go_wp2_with fail
      go_quiet ((go_at_call 34;exact Calls.quiet_of_same (CH.out _)))
      have b8:Below wr.heap.size wr (wr.drewN nq):=Qf Zr nq;have S8:=Qa (S7.out.below b8);have HB8:=Qa (HB.out.trans (b8.mono HB.out.size));have x6'':=Qi x6' b8;have z0':=Qi z0 b8;have HR8:Hid (intsL.In (wr.drewN nq) QR xr [.slice (some ⟨lg,lo,none⟩) K rc]):=Lay.below HR7.out b8;clear b8;generalize wr.drewN nq=w8 at S8 HB8 x6'' z0' HR8 ⊢;clear x6' x7' q5' z0 HR7 HHO7 CH
      have CI:Hid (∀ n,Calls prog 128 #[.slice (some ⟨lg,lo,none⟩) j rc,.int .i64 r] (w8.drewN n) fun e w'=>e=.returned (.bool (inB (xr.take j) r))∧w'=w8.drewN n):=fun n =>
       Qfb r (by simp;rw[HKK.out];omega) (by omega) (Lay.drewN (QcM HR8.out (by rw[HKK.out];omega) rc) n)
      cases hq:inB (xr.take j) r with
      | true =>
        rw[hq] at CI hst
        have E4:Hid ((s.makes ⟨14,xa,xb,xc,(k:Int),xn,xr,xs⟩).1=13):=by
         show _=_;have h1:QB s.H [] xr=13:=by simpa using hst
         rw[E3.out,h1];rfl
        have HBW:=Qa S8.out.bel;clear E3 hst hq hxi;go_wp2_with fail
        go_quiet ((go_at_call 128;exact Calls.quiet_of_same (CI.out _)))
        go_wp2
        go_ret2;rw[E4.out]
        exact QO.bad (by decide) (Qf HBW.out _) _ _ _
      | false =>
        rw[hq] at CI hst
        have E5:Hid (QB s.H [] xr=QB s.H (xr.take (j+1)) (xr.drop (j+1))):=by show _=_;simpa using hst
        clear hst hq hxi;go_wp2_with fail
        go_quiet ((go_at_call 128;exact Calls.quiet_of_same (CI.out _)))
        go_wp2
        go_roundw
        case rel=>exact⟨j+1,by go_num,by omega,Qf HB8.out _,E5.out⟩
        case measure=>simp[intOf];omega
   ·have hz:QB s.H [] xr=0:=by
     rw[HC.out]
     exact QeX (by rw[HKK.out];omega)
    have hlt':¬ (j:Int)<K:=by omega
    have HZ:=Qa hz;have E4:Hid (s.makes ⟨14,xa,xb,xc,(k:Int),xn,xr,xs⟩=(s.args xs g.params xr,g.results.map (Qad xr))):=by show _=_;rw[E3.out,hz];rfl
    have g0:=Qi e0 HB.out;have g1:=Qi e1 HB.out;have g2:=Qi e2 HB.out;have HA7:Hid (intsL.In wr QA xs [.slice ag N ac]):=Lay.below HA6.out HB.out;have HPA7:Hid ((Qm 6).In wr (fun g=>¬ O g) g.params [.slice p1 n1 d1]):=Lay.below HPA6.out HB.out;have HRE7:Hid ((Qm 6).In wr (fun g=>¬ O g) g.results [.slice p2 n2 d2]):=Lay.below HRE6.out HB.out;have HGR:=Qa (S2.out.ok.mod.2 g HGM.out);have hp8:n1≤8:=by rw[← HN1.out];exact HGR.out.params.1
    have hr8:n2≤8:=by rw[← HN2.out];exact HGR.out.results.1
    have HNG:Hid (¬ Qg.great g):=fun hg=>S2.out.ok.tiny (.inr ⟨g,HGM.out,hg⟩);have HCP:Hid (∀ t∈g.params,t.count≤2000):=fun t ht=>Nat.le_of_not_lt fun hlt=>HNG.out (.inr (.inl (.inr ⟨t,ht,hlt⟩)));have HCR:Hid (∀ t∈g.results,t.count≤2000):=fun t ht=>Nat.le_of_not_lt fun hlt=>HNG.out (.inr (.inr (.inl (.inr ⟨t,ht,hlt⟩))));clear E3 hz e0 e1 e2 HHO7 q5' HC;go_wp2_with fail
    refine(QcL HNN.out HN1.out HKK.out (by omega) (by omega) S7.out.ok.vals HA7.out HPA7.out HR7.out HCP.out S7.out.known).mono ?_
    rintro e w9 ⟨rfl,b9⟩;have S9:=Qa (S7.out.below b9);by_cases hc:s.args xs g.params xr=0
    ·rw[hc]
     have E5:Hid (s.makes ⟨14,xa,xb,xc,(k:Int),xn,xr,xs⟩=(0,g.results.map (Qad xr))):=by show _=_;rw[E4.out,hc]
     have y6:=Qi x6' b9;have g2':=Qi g2 b9;have HR9:Hid (intsL.In w9 QR xr [.slice rg K rc]):=Lay.below HR7.out b9;have HRE9:Hid ((Qm 6).In w9 (fun g=>¬ O g) g.results [.slice p2 n2 d2]):=Lay.below HRE7.out b9;clear E4 hc b9 x6' x7' g0 g1 g2 S7 HR7 HA7 HPA7 HRE7 HB;obtain⟨i0,hi,hz0,hz1,hz2⟩:=pInfoT
     have HRG:=Qa (Qej HR9.out);go_wp2_with fail
     go_loopw [17,18] (fun v u wr=>∃ j l cs,u=.int .i64 (j:Nat)∧j≤n2∧ZS (Lay.tt 6) 79 wr w9.heap.size v l cs∧l=(g.results.take j).map (Qad xr)∧Below w9.heap.size w9 wr) (fun _ u _=>n2 - (intOf u).toNat)
     case atStart=>exact⟨0,[],[],rfl,Nat.zero_le _,ZS.nil _ _ _ _,by simp,Zr⟩
     case round =>
      obtain⟨j2,l,cs,rfl,hj2,hA,hl,hB⟩:=hrel
      obtain⟨oa,oc,rfl⟩:=hA.formP
      have HAR:=Qa hA;have HLL:=Qa hl;have HB:=Qa hB;have y6':=Qi y6 hB;have r2:=Qi g2' hB;have hlen:l.length=j2:=by rw[hl];simp;rw[HN2.out];omega
      have hsz:w9.heap.size≤wr.heap.size:=hB.size;have HLEN:=Qa hlen;clear hA hl hB;by_cases hlt2:j2<n2
      ·obtain⟨tl,tok⟩:=QJ (Lay.below HRE9.out HB.out)
       have hti:g.results[j2]?=some (g.results[j2]'(by rw[HN2.out];exact hlt2)):=Zg _;generalize g.results[j2]'(by rw[HN2.out];exact hlt2)=t at hti;obtain⟨gR,oR,ta,tc,rfl,-,t0,t1,t2,t3⟩:=LIn.at tl hti
       have htm:=Zm hti;obtain⟨u,hu,huc⟩:=Qfx (m:=xr.length) (too:=fun i=>xr.getD i 0) (a:=g.regs) (b:=s.H.length) (by rw[HKK.out,HFR.out,← HFK.out];omega) (fun i hi=>ZQ (Qae HZ.out (xr.getD i 0) (by simp[List.getD,hi]))) (HGR.out.results.2 t htm)
       have hrd:Qad xr t=u:=by unfold Qad;rw[hu];rfl
       have huk:u.ok:=Qeb (fun i hi=>HRG.out (xr.getD i 0) (by simp[List.getD,hi])) (tok t htm) hu;have HREN:Hid (t.ren K (fun i=>xr.getD i 0)=some u):=by rw[← HKK.out];exact hu
       have HTI:Hid (TIn wr (fun g=>¬ O g) t ta):=t3;have HCT:Hid (t.count≤2000):=HCR.out t htm;have HRN:Hid (Qgv wr rg K (fun i=>xr.getD i 0)):=Qk7 HKK.out (Lay.below HR9.out HB.out)
       have HL2:Hid (l++[u]=(g.results.take (j2+1)).map (Qad xr)):=by
        show _=_;rw[List.take_add_one,hti,Option.toList_some,List.map_append,← HLL.out]
        simp[hrd]
       have HUK:=Qa huk;have hjn:(j2:Int)<n2:=by omega
       clear tl tok hti htm hu huc hrd huk t3;go_upto_region 76 with fail
       refine Code.wp_mono ?_ (QlV r2 t0 t1 t2 y6' hjn HTI HCT HRN HREN _ (by rfl) rfl rfl rfl rfl);rintro ee aa w10 ⟨rfl,vs2,rfl,ua,uc,B2,hv19,hv20,hBk,hTu,b10⟩;simp only[Q5,Act.put,List.setIfInBounds_toArray,List.set_cons_zero,List.set_cons_succ,hv19,hv20]
       have A10:Hid (ZS (Lay.tt 6) 79 w10 w9.heap.size (.slice oa l.length oc) l cs):=HAR.out.below b10;have c0:=Qb hBk 0 _ rfl;have c1:=Qb hBk 1 _ rfl;have c2:=Qb hBk 2 _ rfl;have HB10:=Qa (HB.out.trans (b10.mono hsz));have hsz10:w9.heap.size≤w10.heap.size:=Zt hsz b10.size;have HTU:Hid (TIn w10 (fun g=>wr.heap.size≤g) u ua):=hTu;have hl8:l.length≤8:=by rw[HLEN.out];omega
       have PU:Hid (∀ gg cap w11,w11.ownsRow w9.heap.size 79 3 (.slice (some ⟨gg,0,none⟩) (l.length+1) cap) (l.length+1) (cs++[.int .i64 u.kind,.int .i64 u.r,.slice ua u.len uc])→(w10.alloc (.cells #[.int .i64 u.kind,.int .i64 u.r,.slice ua u.len uc] 79)).grownBy w11 (Value.slice oa l.length oc).ownBlock→((Value.slice oa l.length oc).ownBlock=some gg∨gg=w10.heap.size+1) →
        ZS (Lay.tt 6) 79 w11 w9.heap.size (.slice (some ⟨gg,0,none⟩) (l.length+1) cap) (l++[u]) (cs++[.int .i64 u.kind,.int .i64 u.r,.slice ua u.len uc])∧Below w9.heap.size w9 w11):=by
        intro gg cap w11 s1 s2 s3;have b11:=QN w10 (.cells #[.int .i64 u.kind,.int .i64 u.r,.slice ua u.len uc] 79);have A11:=A10.out.below b11
        have T11:(Lay.tt 6).In (w10.alloc (.cells #[.int .i64 u.kind,.int .i64 u.r,.slice ua u.len uc] 79)) (fun g=>w9.heap.size≤g∧(Value.slice oa l.length oc).ownBlock≠some g) u [.int .i64 u.kind,.int .i64 u.r,.slice ua u.len uc] :=
         ⟨ua,uc,rfl,(HTU.out.below b11).mono (fun k hk _=>⟨Zt hsz hk,fun e=>by have:=(HAR.out.lo_le e).2;omega⟩),HUK.out⟩
        exact⟨ZS.push A11 T11 s2 (by simpa using s3) s1,((HB10.out.alloc hsz10 _).grown s2 (by simp;omega) (fun k hk=>(A11.lo_le hk).1))⟩
       have HOWN:Hid (w10.ownsRow w9.heap.size 79 3 (.slice oa l.length oc) l.length cs):=A10.out.own;clear A10 HB10 HTU hTu hBk b10 hv19 hv20 t0 t1 t2 r2 y6' HAR HB HTI HRN HREN;generalize hlk:l.length=lk at HOWN PU HLEN hl8 ⊢;clear hlk;go_wp2_with (at_builtin;refine wpList_append_lies _ rfl (.tmp 360) (.tmp 362) 52 rfl w9.heap.size 79 i0 (.agg #[.int .i64 0,.int .i64 0,.slice none 0 0]) 3 40 pUnderT hi hz0 hz1 hz2 rfl (by decide) _ _ _ rfl (HOWN.out.alloc _) ⟨w10.heap.size,0,none⟩ 1 1 [.int .i64 u.kind,.int .i64 u.r,.slice ua u.len uc] rfl rfl (QgV _ [_,_,_] _) (Qes _ _ _ _ _) (by decide) (by unfold maxLen;omega) (by omega) (by simp;omega) (w10.heap.size+1) (by simp) ?_)
       intro g3 cap3 w11 s1 s2 s3 s4;obtain⟨q1,q2⟩:=PU.out g3 cap3 w11 s1 s2 s3
       have A12:=Qa q1;have B12:=Qa q2;clear s1 s2 s3 s4 PU HOWN q1 q2;go_wp2
       go_roundw
       case rel=>exact⟨j2+1,l++[u],_,by go_num,by omega,A12.out,HL2.out,B12.out⟩
       case measure=>simp[intOf];omega
      ·have hje:j2=n2:=by omega
       have hlt2':¬ (j2:Int)<n2:=by omega
       have Z:Hid (QO w O 0 (g.results.map (Qad xr)) (.returned (.tuple #[.slice oa l.length oc,.int .i64 0])) wr):=by
        have hl3:l=g.results.map (Qad xr):=by
         rw[HLL.out,List.take_of_length_le (by rw[HN2.out];omega)]
        rw[← hl3]
        refine⟨oa,l.length,oc,rfl,fun _=>⟨rfl,?_,Lay.mono HAR.out.lay (fun k hk _ ho=>by have h8:=S9.out.lt k ho;have:w9.heap.size≤k:=hk;omega)⟩,S9.out.bel.trans (HB.out.mono S9.out.bel.size)⟩
        obtain⟨-,q2⟩:=HAR.out.own
        rcases q2 with ⟨e,e'⟩|⟨g',cap',cur,e,hg',hh',hn',q⟩
        ·rw[e'];exact Nat.zero_le _
        ·simp only[Value.slice.injEq] at e
         omega
       clear HAR HB hje;generalize hlk:l.length=lk at Z HLEN;clear hlk;go_wp2
       go_ret2;rw[E5.out]
       exact Z.out
    ·have hc':(s.args xs g.params xr==0)=false:=beq_eq_false_iff_ne.2 hc;have E5:Hid ((s.makes ⟨14,xa,xb,xc,(k:Int),xn,xr,xs⟩).1=s.args xs g.params xr):=by show _=_;rw[E4.out]
     have HC2:=Qa hc;clear E4 hc;generalize s.args xs g.params xr=c at E5 hc' HC2 ⊢;go_wp2
     go_ret2;rw[E5.out]
     exact QO.bad HC2.out S9.out.bel _ _ _
 ·have hfk':((K:Int)==fr)=false:=beq_eq_false_iff_ne.2 hfk;have E3:Hid (s.makes ⟨14,xa,xb,xc,(k:Int),xn,xr,xs⟩=(2,[])):=by show _=_;rw[E2.out,if_neg hfk]
  clear E2 hfk;go_wp2
  go_ret2;rw[E3.out]
  exact QO.nil S2.out.bel
theorem QjV {regs:List Int}(h:∀ x∈regs,-9223372036854775808≤x∧x≤9223372036854775807){t:TT 6}(ht:t.ok):(Qad regs t).ok:=by
 unfold Qad
 cases e:t.ren regs.length (fun i=>regs.getD i 0) with
 | none=>exact⟨⟨by decide,by decide⟩,fun x hx=>by simp[zeroTT] at hx⟩
 | some u=>exact Qeb (fun i hi=>h (regs.getD i 0) (by simp[List.getD,hi])) ht e
theorem QcG.types {w:World}{G M:Nat}{A:Nat→Prop}{l:List (TT 6)}(h:QcG w G M l) (hl:l.length=M) (hok:∀ x∈l,x.ok) (hA:∀ k,G≤k→¬ A k):(Qm 6).In w (fun g=>¬ A g) l [.slice (some ⟨G,0,none⟩) M M]:=by
 obtain⟨cur,h1,h2,h3⟩:=h.row
 subst hl;refine⟨_,_,rfl,fun i x hx=>?_⟩
 obtain⟨a,c,q0,q1,q2,q3⟩:=h3 i x hx
 refine⟨G,0,[.int .i64 x.kind,.int .i64 x.r,.slice a x.len c],rfl,hA G Ze,lt_of_block h1,fun j hj=>?_,a,c,rfl,q3.mono (fun k hk _=>hA k (by omega)),hok x (Zm hx)⟩
 have hj:j<3:=hj;show w.cell? ⟨G,0+i*3+j,none⟩=_;rw[Nat.zero_add]
 match j,hj with
 | 0,_=>exact Qb h1 _ _ q0
 | 1,_=>exact Qb h1 _ _ q1
 | 2,_=>exact Qb h1 _ _ q2
 | j+3,h=>exact absurd h (by omega)
noncomputable def JSt.callC (s:JSt) (x:Qy):Int:=match s.m[x.k.toNat]? with
 | none=>0
 | some g=>code2 (Qcf s.H x.regs g.regs) (code2 (s.handC x.args (g.params.map (Qad x.regs))) (Zh s.L.length g.results.length))
def JSt.callS (s:JSt) (x:Qy):JSt:={ s with L:=s.L++(match s.m[x.k.toNat]? with | none=>[] | some g=>g.results.map (Qad x.regs)) }
def QlA (w2:World) (b X mg mo nm cm k n1 d1 n2 d2 n3 d3:Nat) (fr:Int) (p1 p2 p3:Option Addr) (t:Tmp) (v:Value) (w:World):Prop :=
 match ([(4,fun v w=>∃ B,v=.pointer (some ⟨B,0,none⟩)∧w2.heap.size≤B∧Blk w B #[.int .i64 0,.slice none 0 0,.slice none 0 0,.slice none 0 0] 55)]:List (Tmp × (Value→World→Prop))).lookup t with
 | some p=>p v w
 | none=>v=(([(0,.pointer (some ⟨b,0,none⟩)),(3,.pointer (some ⟨X,0,none⟩)),(5,.pointer (some ⟨b,0,none⟩)),(6,.pointer (some ⟨b,0,none⟩)),(7,.pointer (some ⟨b,0,none⟩)),(8,.pointer (some ⟨b,0,none⟩)),(9,.slice (some ⟨mg,mo,none⟩) nm cm),(10,.pointer (some ⟨X,4,none⟩)),(11,.int .i64 (k:Int)),(12,.pointer (some ⟨mg,mo+k*4,none⟩)),(13,.agg #[.int .i64 fr,.slice p1 n1 d1,.slice p2 n2 d2,.slice p3 n3 d3])]:List (Tmp × Value)).lookup t).getD undef
theorem jc1 {w2:World}{b X mg mo nm cm k n1 d1 n2 d2 n3 d3:Nat}{fr:Int}{p1 p2 p3:Option Addr}(y0:w2.cell? ⟨b,0,none⟩=some (.slice (some ⟨mg,mo,none⟩) nm cm)) (x4:w2.cell? ⟨X,4,none⟩=some (.int .i64 (k:Int))) (f0:w2.cell? ⟨mg,mo+k*4,none⟩=some (.int .i64 fr)) (f1:w2.cell? ⟨mg,mo+k*4+1,none⟩=some (.slice p1 n1 d1)) (f2:w2.cell? ⟨mg,mo+k*4+2,none⟩=some (.slice p2 n2 d2)) (f3:w2.cell? ⟨mg,mo+k*4+3,none⟩=some (.slice p3 n3 d3)) (hkn:(k:Int)<nm){Q:Exit→Act→World→Prop}
 (a:Act) (m:Nat) (hn:a.tmps.size=m) (hn':36≤m) (h0:a.tmps.getD 0 undef=.pointer (some ⟨b,0,none⟩)) (h3:a.tmps.getD 3 undef=.pointer (some ⟨X,0,none⟩))
 (hend:∀ ops vs w',vs 13=.agg #[.int .i64 fr,.slice p1 n1 d1,.slice p2 n2 d2,.slice p3 n3 d3]→(fun v w=>∃ B,v=.pointer (some ⟨B,0,none⟩)∧w2.heap.size≤B∧Blk w B #[.int .i64 0,.slice none 0 0,.slice none 0 0,.slice none 0 0] 55) (vs 4) w'→Below w2.heap.size w2 w'→wpList prog ops Q (QcP 10 ((Tryz.f125.body.bind (Qj 1)).getD .skip)) (Q5 a vs [5,6,7,8,9,10,11,12,13,4]) w') :
 Code.wp prog ((Tryz.f125.body.bind (Qj 1)).getD .skip) Q a w2:=by
 conv=>arg 2;whnf
 refine Qq 10 (QlA w2 b X mg mo nm cm k n1 d1 n2 d2 n3 d3 fr p1 p2 p3) (fun w=>Below w2.heap.size w2 w) (fun w w'=>Below w.heap.size w w') (outs:=[0,3]) (gs:=[]) (bs:=[true,true,true,true,true,true,true,true,true,true]) (by kernel_rfl) (n:=36) hn hn' (by kernel_rfl) (by kernel_rfl) ?hR ?hG (Qf Zr 1) ⟨h0,h3,trivial⟩ ?hA ?hend
 case hR =>
  intro t v w w' hr h;unfold QlA at h ⊢;split at h
  ·rename_i p hp
   simp only[List.lookup_cons,List.lookup_nil] at hp
   split at hp
   ·cases hp;exact(by obtain⟨B,e,h1,h2⟩:=h;exact⟨B,e,h1,(hr.block B (lt_of_block h2)).trans h2⟩)
   ·cases hp
  ·exact h
 case hG=>exact trivial
 case hend=>exact fun ops vs w' hW hk=>hend ops vs w' (hk 13 (by kernel_rfl)) (hk 4 (by kernel_rfl)) hW
 case hA =>
  iterate 7
   refine⟨fun a w hW hk K hK=>?_,?_⟩
   ·obtain⟨k0,-⟩:=hk
    conv at k0=>whnf;rhs;whnf
    have u0:=Qi y0 hW;have u1:=Qi x4 hW;go_simp;exact hK _ _ Zr hW rfl
  refine⟨fun a w hW hk K hK=>?_,?_⟩
  ·obtain⟨k0,k1,-⟩:=hk
   conv at k0=>whnf;rhs;whnf
   conv at k1=>whnf;rhs;whnf
   go_simp;exact hK _ _ Zr hW rfl
  refine⟨fun a w hW hk K hK=>?_,?_⟩
  ·obtain⟨k0,-⟩:=hk
   conv at k0=>whnf;rhs;whnf
   have u0:=Qi f0 hW;have u1:=Qi f1 hW;have u2:=Qi f2 hW;have u3:=Qi f3 hW;go_simp;exact hK _ _ Zr hW rfl
  refine⟨fun a w hW hk K hK=>?_,?_⟩
  ·clear hk;go_simp;exact hK _ _ (QN _ _) (hW.alloc hW.size _) ⟨_,rfl,hW.size,Qe _ _ _⟩
  trivial
def Qlx (w2:World) (b X C N ac n1 d1 Kn rc:Nat) (ag rg p1:Option Addr) (ps:List (TT 6)) (regs:List Int) (t:Tmp) (v:Value) (w:World):Prop :=
 match ([(27,fun v w=>∃ g,v=.slice (some ⟨g,0,none⟩) n1 n1∧w2.heap.size≤g∧QcG w g n1 (ps.map (Qad regs)))]:List (Tmp × (Value→World→Prop))).lookup t with
 | some p=>p v w
 | none=>v=(([(0,.pointer (some ⟨b,0,none⟩)),(3,.pointer (some ⟨X,0,none⟩)),(4,.pointer (some ⟨C,0,none⟩)),(20,.pointer (some ⟨b,0,none⟩)),(21,.pointer (some ⟨X,7,none⟩)),(22,.slice ag N ac),(23,.pointer (some ⟨C,1,none⟩)),(24,.slice p1 n1 d1),(25,.pointer (some ⟨X,6,none⟩)),(26,.slice rg Kn rc)]:List (Tmp × Value)).lookup t).getD undef
theorem jc3 {w2:World}{b X C N ac n1 d1 Kn rc:Nat}{ag rg p1:Option Addr}{ps:List (TT 6)}{regs:List Int}{Q R:Nat→Prop}(x6:w2.cell? ⟨X,6,none⟩=some (.slice rg Kn rc)) (x7:w2.cell? ⟨X,7,none⟩=some (.slice ag N ac)) (e1:w2.cell? ⟨C,1,none⟩=some (.slice p1 n1 d1)) (HK:Hid (regs.length=Kn)) (HN1:Hid (ps.length=n1)) (hn1:n1≤1000) (HR:Hid (intsL.In w2 Q regs [.slice rg Kn rc])) (HP:Hid (LIn w2 R ps p1)) (HC:Hid (∀ x∈ps,x.count≤2000)){Q:Exit→Act→World→Prop}
 (a:Act) (m:Nat) (hn:a.tmps.size=m) (hn':36≤m) (h0:a.tmps.getD 0 undef=.pointer (some ⟨b,0,none⟩)) (h3:a.tmps.getD 3 undef=.pointer (some ⟨X,0,none⟩)) (h4:a.tmps.getD 4 undef=.pointer (some ⟨C,0,none⟩))
 (hend:∀ ops vs w',vs 22=.slice ag N ac→vs 20=.pointer (some ⟨b,0,none⟩)→(fun v w=>∃ g,v=.slice (some ⟨g,0,none⟩) n1 n1∧w2.heap.size≤g∧QcG w g n1 (ps.map (Qad regs))) (vs 27) w'→Below w2.heap.size w2 w'→wpList prog ops Q (QcP 8 ((Tryz.f125.body.bind (Qj 3)).getD .skip)) (Q5 a vs [20,21,22,23,24,25,26,27]) w') :
 Code.wp prog ((Tryz.f125.body.bind (Qj 3)).getD .skip) Q a w2:=by
 conv=>arg 2;whnf
 refine Qq 8 (Qlx w2 b X C N ac n1 d1 Kn rc ag rg p1 ps regs) (fun w=>Below w2.heap.size w2 w) (fun w w'=>Below w.heap.size w w') (outs:=[0,3,4]) (gs:=[]) (bs:=[true,true,true,true,true,true,true,true]) (by kernel_rfl) (n:=36) hn hn' (by kernel_rfl) (by kernel_rfl) ?hR ?hG (Qf Zr 1) ⟨h0,h3,h4,trivial⟩ ?hA ?hend
 case hR =>
  intro t v w w' hr h;unfold Qlx at h ⊢;split at h
  ·rename_i p hp
   simp only[List.lookup_cons,List.lookup_nil] at hp
   split at hp
   ·cases hp;exact(by obtain⟨g,e,h1,h2⟩:=h;exact⟨g,e,h1,h2.below hr⟩)
   ·cases hp
  ·exact h
 case hG=>exact trivial
 case hend=>exact fun ops vs w' hW hk=>hend ops vs w' (hk 22 (by kernel_rfl)) (hk 20 (by kernel_rfl)) (hk 27 (by kernel_rfl)) hW
 case hA =>
  iterate 7
   refine⟨fun a w hW hk K hK=>?_,?_⟩
   ·obtain⟨k0,-⟩:=hk
    conv at k0=>whnf;rhs;whnf
    have u0:=Qi x7 hW;have u1:=Qi e1 hW;have u2:=Qi x6 hW;go_simp;exact hK _ _ Zr hW rfl
  refine⟨fun a w hW hk K hK=>?_,?_⟩
  ·obtain⟨k0,k1,-⟩:=hk
   conv at k0=>whnf;rhs;whnf
   conv at k1=>whnf;rhs;whnf
   go_simp;refine Calls.mono (Qbh HK.out HN1.out hn1 (Lay.below HR.out hW) (HP.out.below hW) HC.out) ?_;rintro r7 w7 ⟨g7,rfl,hg7,hm7,b7⟩;go_simp;exact hK _ _ b7 (hW.trans (b7.mono hW.size)) ⟨g7,rfl,Zt hW.size hg7,hm7⟩
  trivial
theorem Qh6 {w:World}{b:Nat}{O A Q:Nat→Prop}{s:JSt}{x:Qy}{rg ag:Option Addr}{rc ac:Nat}(hA:∀ k,A k→k<w.heap.size) (hJ:JOk s) (h:SAt w b O A s) (hregs:intsL.In w Q x.regs [.slice rg x.regs.length rc]) (hargs:intsL.In w Q x.args [.slice ag x.args.length ac]) (hrc:x.regs.length≤rc) (hr6:x.regs.length≤6) (ha8:x.args.length≤8) (hk0:0≤x.k∧x.k<s.m.length) :
 Calls prog 125 #[.pointer (some ⟨b,0,none⟩),QaR x rg ag rc ac] w fun e w'=>Q6 w b O A s (s.callS x) (s.callC x) e w':=by
 obtain⟨op,xa,xb,xc,xk,xn,xr,xs⟩:=x
 simp only at hregs hargs hrc hr6 ha8 hk0
 have HJ:=Qa hJ;have H0:=Qa h;have HA:=Qa hA;have hL:=hJ.vals;have b1:=QN w (.cells #[.int .i64 op,.int .i64 xa,.int .i64 xb,.int .i64 xc,.int .i64 xk,.int .i64 xn,.slice rg xr.length rc,.slice ag xs.length ac] 59);have H:=Qa (h.below b1);have HR:Hid (intsL.In _ Q xr [.slice rg xr.length rc]):=Lay.below hregs b1;have HG:Hid (intsL.In _ Q xs [.slice ag xs.length ac]):=Lay.below hargs b1;have HB:=Qa b1;have X1:Hid (Blk (w.alloc (.cells #[.int .i64 op,.int .i64 xa,.int .i64 xb,.int .i64 xc,.int .i64 xk,.int .i64 xn,.slice rg xr.length rc,.slice ag xs.length ac] 59)) w.heap.size #[.int .i64 op,.int .i64 xa,.int .i64 xb,.int .i64 xc,.int .i64 xk,.int .i64 xn,.slice rg xr.length rc,.slice ag xs.length ac] 59):=Blk.new _ _ _;clear h hA hJ b1 hregs hargs;obtain⟨k,rfl⟩:=Int.eq_ofNat_of_zero_le hk0.1
 have hkm:k<s.m.length:=by omega
 have hgk:s.m[k]?=some s.m[k]:=Zg hkm;generalize s.m[k]=g at hgk;have HGM:Hid (g∈s.m):=Zm hgk
 have E:Hid (s.callC ⟨op,xa,xb,xc,(k:Int),xn,xr,xs⟩=code2 (Qcf s.H xr g.regs) (code2 (s.handC xs (g.params.map (Qad xr))) (Zh s.L.length g.results.length))):=by
  show _=_;unfold JSt.callC;simp only[Int.toNat_natCast,hgk]
 have ES:Hid (s.callS ⟨op,xa,xb,xc,(k:Int),xn,xr,xs⟩={ s with L:=s.L++g.results.map (Qad xr) }):=by
  show _=_;unfold JSt.callS;simp only[Int.toNat_natCast,hgk]
 have HGR:=Qa (HJ.out.mod.2 g HGM.out);have HNG:Hid (¬ Qg.great g):=fun hg=>HJ.out.tiny (.inr ⟨g,HGM.out,hg⟩);have HCP:Hid (∀ t∈g.params,t.count≤2000):=fun t ht=>Nat.le_of_not_lt fun hlt=>HNG.out (.inr (.inl (.inr ⟨t,ht,hlt⟩)));have HCR:Hid (∀ t∈g.results,t.count≤2000):=fun t ht=>Nat.le_of_not_lt fun hlt=>HNG.out (.inr (.inr (.inl (.inr ⟨t,ht,hlt⟩))));have HCV:Hid (∀ t∈s.L,t.count≤100000):=fun t ht=>Zt (QZ (HJ.out.types t ht)) (by omega);have hkn:(k:Int)<s.m.length:=by omega
 go_enter func125,ntmps125
 go_upto_region 1 with fail
 generalize w.alloc (.cells #[.int .i64 op,.int .i64 xa,.int .i64 xb,.int .i64 xc,.int .i64 (k:Int),.int .i64 xn,.slice rg xr.length rc,.slice ag xs.length ac] 59)=w1 at H HR HG HB X1 ⊢;obtain⟨X,hX⟩:∃ X,w.heap.size=X:=⟨_,rfl⟩
 rw[hX] at X1 ⊢
 clear hX;have x4:=Qb X1.out 4 _ rfl;have x6:=Qb X1.out 6 _ rfl;have x7:=Qb X1.out 7 _ rfl;obtain⟨pm,cm,hh,a1,c1,a2,c2,a3,c3,aL,cL,RR⟩:=H.out.read
 obtain⟨q0,-⟩:=RR.cells
 obtain⟨mg,mo,p1,d1,p2,d2,p3,d3,rfl,f0,f1,f2,f3,hP,hRs⟩:=Qb6 RR.mod hgk
 have HPA:Hid ((Qm 6).In w1 (fun g=>¬ A g) g.params [.slice p1 g.params.length d1]):=hP;have HRE:Hid ((Qm 6).In w1 (fun g=>¬ A g) g.results [.slice p2 g.results.length d2]):=hRs;clear RR hP hRs hgk hk0;generalize s.m.length=nm at q0 hkm hkn;generalize hfr:g.regs=fr at f0 E;generalize hn1:g.params.length=n1 at f1 HPA;have HN1:=Qa hn1;generalize hn2:g.results.length=n2 at f2 HRE E;have HN2:=Qa hn2;generalize g.blocks.length=n3 at f3;have hn18:n1≤8:=by rw[← hn1];exact HGR.out.params.1
 have hn28:n2≤8:=by rw[← hn2];exact HGR.out.results.1
 clear hn1 hn2 hfr;refine jc1 q0 x4 f0 f1 f2 f3 hkn _ _ rfl (Nat.le_of_ble_eq_true (by kernel_rfl)) rfl rfl ?_;rintro ops vs w5 hv13 ⟨C,hv4,hC,hCb⟩ b5;show wpList _ ops _ [_] (Q5 _ vs [5,6,7,8,9,10,11,12,13,4]) w5;simp only[Q5,Act.put,List.setIfInBounds_toArray,List.set_cons_zero,List.set_cons_succ,hv13,hv4]
 have e0:=Qb hCb 0 _ rfl;have e1:=Qb hCb 1 _ rfl;have e2:=Qb hCb 2 _ rfl;have e3:=Qb hCb 3 _ rfl;have ef:∀ i,w5.frozen? ⟨C,i,none⟩=false:=fun i=>Qp hCb i
 have B6:Hid (Blk ((((w5.setCell ⟨C,0,none⟩ (.int .i64 fr)).setCell ⟨C,1,none⟩ (.slice p1 n1 d1)).setCell ⟨C,2,none⟩ (.slice p2 n2 d2)).setCell ⟨C,3,none⟩ (.slice p3 n3 d3)) C #[.int .i64 fr,.slice p1 n1 d1,.slice p2 n2 d2,.slice p3 n3 d3] 55):=by
  have h3:=Qo (Qo (Qo (Qo hCb 0 (.int .i64 fr)) 1 (.slice p1 n1 d1)) 2 (.slice p2 n2 d2)) 3 (.slice p3 n3 d3);exact h3
 have b6:Hid (Below w1.heap.size w1 ((((w5.setCell ⟨C,0,none⟩ (.int .i64 fr)).setCell ⟨C,1,none⟩ (.slice p1 n1 d1)).setCell ⟨C,2,none⟩ (.slice p2 n2 d2)).setCell ⟨C,3,none⟩ (.slice p3 n3 d3))) :=
  (((b5.setCell (p:=⟨C,0,none⟩) hC _).setCell (p:=⟨C,1,none⟩) hC _).setCell (p:=⟨C,2,none⟩) hC _).setCell (p:=⟨C,3,none⟩) hC _
 clear hCb hC b5 hv13 hv4 q0 f0 f1 f2 f3;go_upto_region 2 with fail
 generalize ((((w5.setCell ⟨C,0,none⟩ (.int .i64 fr)).setCell ⟨C,1,none⟩ (.slice p1 n1 d1)).setCell ⟨C,2,none⟩ (.slice p2 n2 d2)).setCell ⟨C,3,none⟩ (.slice p3 n3 d3))=w6 at B6 b6 ⊢;clear e0 e1 e2 e3 ef;obtain⟨e0,e1,e2,e3⟩:=QkR B6.out
 have x6:=Qi x6 b6.out;have x7:=Qi x7 b6.out;have H6:=Qa (H.out.below b6.out);have HB6:=Qa (HB.out.trans (b6.out.mono HB.out.size));have HR6:Hid (intsL.In w6 Q xr [.slice rg xr.length rc]):=Lay.below HR.out b6.out;have HG6:Hid (intsL.In w6 Q xs [.slice ag xs.length ac]):=Lay.below HG.out b6.out;have HP6:Hid ((Qm 6).In w6 (fun g=>¬ A g) g.params [.slice p1 n1 d1]):=Lay.below HPA.out b6.out;have HE6:Hid ((Qm 6).In w6 (fun g=>¬ A g) g.results [.slice p2 n2 d2]):=Lay.below HRE.out b6.out;clear H HB HR HG HPA HRE b6 B6 X1 x4;obtain⟨K,hK⟩:∃ K,xr.length=K:=⟨_,rfl⟩
 have HK:=Qa hK;rw[hK] at x6 HR6 hrc hr6
 clear hK;obtain⟨N,hN⟩:∃ N,xs.length=N:=⟨_,rfl⟩
 have HN:=Qa hN;rw[hN] at x7 HG6 ha8
 clear hN;have CL:=Qa (Qd6 fr HK.out (by omega) hrc HR6.out H6.out);go_wp2_with fail
 refine CL.out.mono ?_;rintro e' w' ⟨hO,hw⟩;have hw:=hw.symm;subst hw;rcases hO with ⟨hc,y,rfl,hy⟩|⟨hc,rfl⟩
 rotate_left
 ·exact⟨rfl,Q6.bad (by rw[E.out,Qr hc]) hc (STo.of_below H0.out HB6.out)⟩
 subst hy;have E2:Hid (s.callC ⟨op,xa,xb,xc,(k:Int),xn,xr,xs⟩=code2 (s.handC xs (g.params.map (Qad xr))) (Zh s.L.length n2)):=by show _=_;rw[E.out,QF hc]
 clear hc CL E;go_upto_region 3 with fail
 refine jc3 x6 x7 e1 HK HN1 (by omega) HR6 (Qa (QJ HP6.out).1) HCP _ _ rfl (Nat.le_of_ble_eq_true (by kernel_rfl)) rfl rfl rfl ?_;rintro ops vs w7 hv22 hv20 ⟨gP,hv27,hgP,hmP⟩ b7;show wpList _ ops _ [_] (Q5 _ vs [20,21,22,23,24,25,26,27]) w7;simp only[Q5,Act.put,List.setIfInBounds_toArray,List.set_cons_zero,List.set_cons_succ,hv22,hv20,hv27]
 have H7:=Qa (H6.out.below b7);have HB7:=Qa (HB6.out.trans (b7.mono HB6.out.size))
 have CH:Hid (Calls prog 132 #[.pointer (some ⟨b,0,none⟩),.slice ag N ac,.slice (some ⟨gP,0,none⟩) n1 n1] w7 fun e w'=>ZW (s.handC xs (g.params.map (Qad xr))) VNone e∧Below w7.heap.size w7 w') :=
  QaH HN.out (by omega) (by rw[List.length_map,HN1.out]) (by omega) (Lay.below HG6.out b7) hmP.lin hL HCV.out (fun k hk=>Zl (HA.out k (H0.out.sub k hk)) HB7.out.size) H7.out
 have HE7:Hid ((Qm 6).In w7 (fun g=>¬ A g) g.results [.slice p2 n2 d2]):=Lay.below HE6.out b7;have HR7:Hid (intsL.In w7 Q xr [.slice rg K rc]):=Lay.below HR6.out b7;have e2':=Qi e2 b7;have x6':=Qi x6 b7;clear hmP hgP b7 hv22 hv20 hv27 H6 HB6 HR6 HG6 HP6 HE6 e0 e1 e2 e3 x6 x7;go_wp2_with fail
 refine CH.out.mono ?_;rintro e' w8 ⟨hO,b8⟩;have H8:=Qa (H7.out.below b8);have HB8:=Qa (HB7.out.trans (b8.mono HB7.out.size));rcases hO with ⟨hc,y,rfl,hy⟩|⟨hc,rfl⟩
 rotate_left
 ·exact⟨rfl,Q6.bad (by rw[E2.out,Qr hc]) hc (STo.of_below H0.out HB8.out)⟩
 subst hy;have E3:Hid (s.callC ⟨op,xa,xb,xc,(k:Int),xn,xr,xs⟩=Zh s.L.length n2):=by show _=_;rw[E2.out,QF hc]
 have HE8:Hid ((Qm 6).In w8 (fun g=>¬ A g) g.results [.slice p2 n2 d2]):=Lay.below HE7.out b8;have HR8:Hid (intsL.In w8 Q xr [.slice rg K rc]):=Lay.below HR7.out b8;have e2'':=Qi e2' b8;have x6'':=Qi x6' b8;clear hc CH E2 b8 HE7 HR7 e2' x6' H7 HB7;have CR:=Qa (Qbh (d:=d2) (c:=rc) HK.out HN2.out (by omega) HR8.out (QJ HE8.out).1 HCR.out);go_wp2_with fail
 refine CR.out.mono ?_;rintro e' w9 ⟨gR,rfl,hgR,hmR,b9⟩;have HB9:=Qa (HB8.out.trans (b9.mono HB8.out.size))
 have CM:Hid (Calls prog 120 #[.pointer (some ⟨b,0,none⟩),.slice (some ⟨gR,0,none⟩) n2 n2] w9 fun e w'=>Q6 w b O A s (s.callS ⟨op,xa,xb,xc,(k:Int),xn,xr,xs⟩) (s.callC ⟨op,xa,xb,xc,(k:Int),xn,xr,xs⟩) e w'):=by
  rw[ES.out,E3.out]
  have hlen:(g.results.map (Qad xr)).length=n2:=by rw[List.length_map,HN2.out]
  refine(QaC hlen (by omega) (hmR.types hlen (fun y hy=>?_) (fun k hk e=>?_)) hL (fun k hk=>Zl (HA.out k hk) HB9.out.size) (H8.out.below b9)).mono (fun e w' hd=>hd.after HB9.out)
  ·obtain⟨t,ht,rfl⟩:=List.mem_map.1 hy
   exact QjV (Qej HR8.out) ((QJ HE8.out).2 t ht)
  ·have h1:=HA.out k e;have h2:=HB8.out.size;omega
 clear hmR hgR b9 CR HE8 HR8 e2'' x6'' H8 HB8 E3;go_wp2_with fail
 refine CM.out.mono ?_;rintro e' w10 hd;have FF:=Qa hd;rcases hd with ⟨h1,rfl,h3⟩|⟨h1,rfl,h3⟩
 rotate_left
 ·exact⟨rfl,FF.out⟩
 clear h1 h3 CM;go_wp2
 exact bodyPost_end (v:=.tuple #[]) (by simp[results,results125,go_sem]) rfl FF.out
def passC (H:List Bool) (kept:Int) (l:List Int) (asked:Int):Int:=if (l.length:Int)=asked then code2 (QbG kept.toNat l) (hPass H [] l) else 2
theorem QiF {n:Nat}{l:List Int}{k:Nat}(hk:k<n) (h:l.getD k 0≠(k:Int)):QbG n l=11:=by
 unfold QbG;rw[if_neg]
 intro e;rw[List.all_eq_true] at e
 have:=e k (List.mem_range.2 hk)
 exact h (by simpa using this)
theorem Qjh {n:Nat}{l:List Int}(h:∀ k,k<n→l.getD k 0=(k:Int)):QbG n l=0:=by
 unfold QbG;rw[if_pos]
 rw[List.all_eq_true]
 intro k hk;exact decide_eq_true (h k (List.mem_range.1 hk))
theorem QdY {w:World}{b:Nat}{O A Q:Nat→Prop}{s:JSt}{l:List Int}{p:Option Addr}{N c:Nat}(asked:Int) (hN:l.length=N) (hN2:N≤100000) (hl:intsL.In w Q l [.slice p N c]) (hr0:0≤s.f.regs) (hra:s.f.regs≤asked) (h:SAt w b O A s) :
 Calls prog 169 #[.pointer (some ⟨b,0,none⟩),.slice p N c,.int .i64 asked] w fun e w'=>ZW (passC s.H s.f.regs l asked) VNone e∧Below w.heap.size w w':=by
 have HL:=Qa hl;have HN:=Qa hN;obtain⟨pm,cm,hh,a1,c1,a2,c2,a3,c3,aL,cL,RR⟩:=h.read
 obtain⟨-,q1,q2,-⟩:=RR.cells
 have HH:=Qa RR.held;clear h hl hN RR;by_cases hNM:(N:Int)=asked
 rotate_left
 ·have hNM':((N:Int)==asked)=false:=by simpa using hNM
  have E:Hid (passC s.H s.f.regs l asked=2):=by show _=_;unfold passC;rw[HN.out,if_neg hNM]
  go_enter func169,ntmps169
  go_wp2_with fail
  refine(Zq _ 2).mono ?_
  rintro e' w' ⟨rfl,hw⟩;subst hw;exact⟨rfl,ZW.bad E.out (by decide),Zr⟩
 subst hNM;have hNM':((N:Int)==(N:Int))=true:=by simp
 obtain⟨M,hM⟩:∃ M:Nat,s.f.regs=(M:Int):=Int.eq_ofNat_of_zero_le hr0
 have E:Hid (passC s.H s.f.regs l N=code2 (QbG M l) (hPass s.H [] l)):=by show _=_;unfold passC;rw[HN.out,if_pos rfl,hM];rfl
 rw[hM] at q2 hra
 have hMN:M≤N:=by omega
 have HMM:Hid (passC s.H s.f.regs l N=passC s.H s.f.regs l N):=rfl;clear hr0 hra HMM;generalize passC s.H s.f.regs l N=pc at E ⊢;clear hM;go_enter func169,ntmps169
 go_wp2_with (go_at_call 162;refine(Zp _ _).mono ?_;rintro e' w' ⟨rfl,hw⟩;have hw:=hw.symm;subst hw)
 go_loop [18] (fun i=>∃ k:Nat,k≤M∧i=.int .i64 k∧∀ j,j<k→l.getD j 0=(j:Int)) (fun i=>M - (intOf i).toNat)
 case atStart=>exact⟨0,Nat.zero_le _,rfl,fun j hj=>by omega⟩
 case round =>
  obtain⟨k,hk,rfl,hz⟩:=hrel
  have HZ:=Qa hz;clear hz;by_cases hlt:k<M
  ·have hlt':(k:Int)<M:=by omega
   have hlt2:(k:Int)<N:=by omega
   have hk2:k<l.length:=by rw[HN.out];omega
   obtain⟨g,o,rfl,-,hg,hc0⟩:=ZC HL.out hk2
   clear hk2;by_cases hy:l.getD k 0=(k:Int)
   ·have HY:=Qa hy;rw[hy] at hc0
    have hkk:((k:Int)==(k:Int))=true:=by simp
    clear hy;go_wp2_with (go_at_call 162;refine(Zp _ _).mono ?_;rintro e' w' ⟨rfl,hw⟩;have hw:=hw.symm;subst hw)
    go_round
    case rel =>
     refine⟨k+1,hlt,by go_num,fun j hj=>?_⟩
     rcases Nat.lt_or_ge j k with h | h
     ·exact HZ.out j h
     ·have:j=k:=by omega
      subst this;exact HY.out
    case measure=>simp[intOf];omega
   ·have E9:Hid (pc=11):=by show _=_;rw[E.out,QiF hlt hy];rfl
    have hyk:(l.getD k 0==(k:Int))=false:=by simpa using hy
    generalize l.getD k 0=y at hc0 hy hyk;clear hy;go_wp2_with fail
    refine(Zq _ 11).mono ?_
    rintro e' w' ⟨rfl,hw⟩;subst hw;exact⟨rfl,ZW.bad E9.out (by decide),Zr⟩
  ·have hlt':¬ (k:Int)<M:=by omega
   have hkM:k=M:=by omega
   have E9:Hid (pc=hPass s.H [] l):=by show _=_;rw[E.out,Qjh (fun j hj=>HZ.out j (by omega))];rfl
   have C:=Qa (Qhm HN.out hN2 HL.out HH.out);generalize hPass s.H [] l=hp at E9 C;clear HZ hkM;by_cases h0:hp=0
   ·have h0':(hp==0)=true:=by simpa using h0
    subst h0;go_wp2_with (first | (go_at_call 203;refine(C.out).mono ?_;rintro e' w2 ⟨rfl,b2⟩;have BB:=Qa b2;clear b2) | (go_at_call 162;refine(Zp _ _).mono ?_;rintro e' w' ⟨rfl,hw⟩;have hw:=hw.symm;subst hw))
    exact bodyPost_end (v:=.tuple #[]) (by simp[results,results169,go_sem]) rfl ⟨ZW.good E9.out rfl,BB.out⟩
   ·have h0':(hp==0)=false:=by simpa using h0
    have H0:=Qa h0;clear h0;go_wp2_with (go_at_call 203;refine(C.out).mono ?_;rintro e' w2 ⟨rfl,b2⟩;have BB:=Qa b2;clear b2)
    refine(Zq _ hp).mono ?_
    rintro e' w' ⟨rfl,hw⟩;subst hw;exact⟨rfl,ZW.bad E9.out H0.out,BB.out⟩
theorem Qge {s:JSt}{regs:List Int}{r:Int}(hz:∀ x∈regs,hHas s.H x=true) (hl:(regs.length:Int)=r){t:TT 6}(ht:t.check r=0):t.ren regs.length (fun i=>regs.getD i 0)=some (Qad regs t):=by
 obtain⟨u,hu,-⟩:=Qfx (m:=regs.length) (too:=fun i=>regs.getD i 0) (a:=r) (b:=s.H.length) (by omega) (fun i hi=>ZQ (hz (regs.getD i 0) (by simp[List.getD,hi]))) ht
 unfold Qad;rw[hu]
 rfl
theorem QdD {s:JSt}{regs l:List Int}{ts us:List (TT 6)}(hl2:us.length=ts.length) (h:∀ (i:Nat) t u,ts[i]?=some t→us[i]?=some u→t.ren regs.length (fun i=>regs.getD i 0)=some u):s.handC l us=s.args l ts regs:=by
 unfold JSt.handC JSt.args;rw[hl2]
 by_cases hl:l.length=ts.length
 ·rw[if_pos hl,if_pos hl]
  refine Qbf (by rw[List.length_zip,List.length_zip,hl2]) (fun i p q hp hq=>?_);rw[List.getElem?_zip_eq_some] at hp hq
  obtain⟨h1,h2⟩:=hp
  obtain⟨h3,h4⟩:=hq
  rw[h1] at h3
  injection h3 with h3
  have hm:=h i q.2 p.2 h4 h2;show s.beC p.1 p.2=s.arg regs q.1 q.2;unfold JSt.beC JSt.arg;rw[← h3]
  cases s.at p.1 with
  | none=>rfl
  | some u =>
    show (if bdec (u=p.2) then (0:Int) else 9)=if bdec (q.2.ren regs.length (fun i=>regs.getD i 0)=some u) then 0 else 9
    rw[hm]
    have:bdec (u=p.2)=bdec (some p.2=some u):=QdW (by rw[Qaf];exact⟨fun e=>by rw[e],fun e=>(Option.some.inj e).symm⟩)
    rw[this]
 ·rw[if_neg hl,if_neg hl]
theorem QeD {s:JSt}{regs l:List Int}{ts:List (TT 6)}(h:∀ t∈ts,t.ren regs.length (fun i=>regs.getD i 0)=some (Qad regs t)):s.handC l (ts.map (Qad regs))=s.args l ts regs :=
 QdD (by rw[List.length_map]) (fun i t u ht hu=>by
  rw[List.getElem?_map,ht] at hu
  injection hu with hu
  rw[← hu]
  exact h t (Zm ht))
theorem QfT {m:Nat}{too:Nat→Int}{a:Int}(ham:a≤m) (htoo:∀ i,i<m→too i=(i:Int)):{n:Nat}→{t:TT n}→t.fault a=0→t.ren m too=some t
 | 0,t,_=>Empty.elim t
 | n+1,t,h=>by
   obtain⟨h1,h2⟩:=TT.fault_zero h
   have hown:Qap m too t.1 t.2.1=some t.2.1:=by
    unfold ownC at h1;split at h1
    ·cases h1
    split at h1
    ·cases h1
    split at h1
    ·cases h1
    split at h1
    ·cases h1
    split at h1
    ·cases h1
    rename_i q1 q2 q3 q4 q5
    by_cases hk:t.1=1
    ·rw[Qap,if_pos hk]
    ·have:=htoo t.2.1.toNat (by omega)
     rw[Qap,if_neg hk,if_neg (by omega),if_neg (by omega),this]
     congr 1
     omega
   have hl:Qcj (TT.ren m too) t.2.2=some t.2.2:=by
    generalize t.2.2=l at h2
    induction l with
    | nil=>rfl
    | cons x xs ih =>
      have hx:=QfT ham htoo (h2 x (by simp));have hxs:=ih (fun y hy=>h2 y (by simp[hy]));simp[Qcj,hx,hxs]
   simp only[TT.ren,hown,hl]
   rfl
theorem Qey {H:List Bool}:∀ {rest ahead:List Int},hPass H ahead rest=0→∀ x∈rest,hHas H x=true
 | [],ahead,h,x,hx=>by cases hx
 | r::rest,ahead,h,x,hx=>by
   simp only[hPass] at h
   split at h
   ·rename_i hr
    split at h
    ·cases h
    ·rcases List.mem_cons.1 hx with rfl | hx
     ·exact hr
     ·exact Qey h x hx
   ·cases h
theorem Qlq {s:JSt}{k:Nat}{g:Qh 6}{xr xs:List Int}(hg:s.f.blocks[k]?=some g) (hp:∀ t∈g.params,t.check g.regs=0):s.to ⟨(k:Int),xr,xs⟩=code2 (passC s.H s.f.regs xr g.regs) (s.handC xs (g.params.map (Qad xr))):=by
 unfold JSt.to passC;simp only[Int.toNat_natCast,hg]
 by_cases hl:(xr.length:Int)=g.regs
 ·rw[if_pos hl,if_pos hl]
  by_cases h1:QbG s.f.regs.toNat xr=0
  ·rw[QF h1,QF h1]
   by_cases h2:hPass s.H [] xr=0
   ·rw[QF h2,QF h2,QeD (fun t ht=>Qge (s:=s) (Qey h2) hl (hp t ht))]
   ·rw[Qr h2,Qr h2]
  ·rw[Qr h1,Qr h1];rw[Qr h1]
 ·rw[if_neg hl,if_neg hl];rfl
theorem QkV {s:JSt}{l:List Int}{n:Nat}(hn:s.f.regs=(n:Int)) (hr:∀ t∈s.f.results,t.check s.f.regs=0):s.handC l s.f.results=s.args l s.f.results (Qa3 s.f.regs.toNat) :=
 QdD rfl (fun i t u ht hu=>by
  rw[ht] at hu
  injection hu with hu
  rw[← hu,hn,Int.toNat_natCast]
  have:=hr t (Zm ht)
  refine QfT (a:=s.f.regs) (by rw[hn];unfold Qa3;simp) (fun i hi=>?_) (Zf.1 this).2;unfold Qa3 at hi ⊢;simp at hi
  simp[List.getD,hi])
theorem QiP {w:World}{b:Nat}{O A Q:Nat→Prop}{s:JSt}{x:Qy}{rg ag:Option Addr}{rc ac:Nat}(hA:∀ k,A k→k<w.heap.size) (hJ:JOk s) (h:SAt w b O A s) (hregs:intsL.In w Q x.regs [.slice rg x.regs.length rc]) (hargs:intsL.In w Q x.args [.slice ag x.args.length ac]) (hrc:x.regs.length≤rc) (hrng:Zx x) (hf:x.form s.m.length=0) (hop:x.op=14) :
 Calls prog 71 #[.pointer (some ⟨b,0,none⟩),QaR x rg ag rc ac] w fun e w'=>Q6 w b O A s (s.next x) (s.goC x) e w':=by
 have hE:=Qbl (s:=s) hop;obtain⟨op,xa,xb,xc,xk,xn,xr,xs⟩:=x
 have hop:op=14:=hop;subst hop;have HE:=Qa hE;obtain⟨f1,f2,f3,-⟩:=Zb hf
 have HF:=Qa (And.intro f1 (And.intro f2 f3));obtain⟨ra,rb,rcc⟩:=hrng
 have HI:=Qa (And.intro ra (And.intro rb rcc));have HJ:=Qa hJ;have H0:=Qa h;have HA0:=Qa hA;have hL:=hJ.vals;have b1:=QN w (.cells #[.int .i64 14,.int .i64 xa,.int .i64 xb,.int .i64 xc,.int .i64 xk,.int .i64 xn,.slice rg xr.length rc,.slice ag xs.length ac] 59);have H:=Qa (h.below b1);have HR:Hid (intsL.In _ Q xr [.slice rg xr.length rc]):=Lay.below hregs b1;have HG:Hid (intsL.In _ Q xs [.slice ag xs.length ac]):=Lay.below hargs b1;have HB:=Qa b1;have HA:=Qa (fun k hk=>Zl (hA k hk) b1.size);have HO:=Qa (fun k hk=>Zl (hA k (h.sub k hk)) b1.size);have X1:Hid (Blk (w.alloc (.cells #[.int .i64 14,.int .i64 xa,.int .i64 xb,.int .i64 xc,.int .i64 xk,.int .i64 xn,.slice rg xr.length rc,.slice ag xs.length ac] 59)) w.heap.size #[.int .i64 14,.int .i64 xa,.int .i64 xb,.int .i64 xc,.int .i64 xk,.int .i64 xn,.slice rg xr.length rc,.slice ag xs.length ac] 59):=Blk.new _ _ _;have HRC:Hid (xr.length≤rc):=hrc;clear h hA hJ b1 hregs hargs hE hf f1 f2 f3 ra rb rcc hrc;go_enter func71,ntmps71
 go_upto_region 1 with fail
 generalize w.alloc (.cells #[.int .i64 14,.int .i64 xa,.int .i64 xb,.int .i64 xc,.int .i64 xk,.int .i64 xn,.slice rg xr.length rc,.slice ag xs.length ac] 59)=w1 at H HR HG HB HA HO X1 ⊢;obtain⟨X,hX⟩:∃ X,w.heap.size=X:=⟨_,rfl⟩
 rw[hX] at X1 ⊢
 clear hX;have x0:=Qb X1.out 0 _ rfl;have x1:=Qb X1.out 1 _ rfl;have x2:=Qb X1.out 2 _ rfl;have x3:=Qb X1.out 3 _ rfl;have x4:=Qb X1.out 4 _ rfl;have x6:=Qb X1.out 6 _ rfl;have x7:=Qb X1.out 7 _ rfl
 have HE2:Hid (∀ e w9,Q6 w b O A s (s.callS ⟨14,xa,xb,xc,xk,xn,xr,xs⟩) (s.callC ⟨14,xa,xb,xc,xk,xn,xr,xs⟩) e w9→Q6 w b O A s (s.next ⟨14,xa,xb,xc,xk,xn,xr,xs⟩) (s.goC ⟨14,xa,xb,xc,xk,xn,xr,xs⟩) e w9):=fun e w9 hd=>(by
  have hk:=HF.out.2.1 rfl;obtain⟨k,hxk⟩:=Int.eq_ofNat_of_zero_le hk.1
  have hxk:xk=(k:Int):=hxk;subst hxk;have hkl:k<s.m.length:=by have:=hk.2.1;omega
  have hgk:s.m[k]?=some s.m[k]:=Zg hkl;generalize s.m[k]=g at hgk;have hgm:g∈s.m:=Zm hgk;have hgr:=HJ.out.mod.2 g hgm;have e1:s.callC ⟨14,xa,xb,xc,(k:Int),xn,xr,xs⟩=code2 (Qcf s.H xr g.regs) (code2 (s.handC xs (g.params.map (Qad xr))) (Zh s.L.length g.results.length)):=by unfold JSt.callC;simp only[Int.toNat_natCast,hgk]
  have e2:s.makes ⟨14,xa,xb,xc,(k:Int),xn,xr,xs⟩=if (xr.length:Int)=g.regs then (code2 (QB s.H [] xr) (s.args xs g.params xr),g.results.map (Qad xr)) else (2,[]):=by rw[HE.out];simp only[Int.toNat_natCast,hgk]
  have key:s.goC ⟨14,xa,xb,xc,(k:Int),xn,xr,xs⟩=s.callC ⟨14,xa,xb,xc,(k:Int),xn,xr,xs⟩:=by
   rw[e1]
   unfold JSt.goC Qcf;rw[e2]
   by_cases hl:(xr.length:Int)=g.regs
   ·rw[if_pos hl,if_pos hl]
    by_cases hz:QB s.H [] xr=0
    ·rw[QeD (fun t ht=>Qge (s:=s) (Qae hz) hl (hgr.params.2 t ht)),QF hz,List.length_map,QF hz]
    ·rw[Qr hz,Qr hz,Qr hz]
   ·rw[if_neg hl,if_neg hl];rfl
  refine hd.to key (fun h0=>?_);rw[Zc (by simp) (by simp),e2]
  unfold JSt.callS;simp only[Int.toNat_natCast,hgk]
  rw[e1] at h0
  unfold Qcf at h0;by_cases hl:(xr.length:Int)=g.regs
  ·rw[if_pos hl]
  ·rw[if_neg hl] at h0;cases h0)
 have CM:=Qa (Qh6 (x:=⟨14,xa,xb,xc,xk,xn,xr,xs⟩) HA.out HJ.out H.out HR.out HG.out HRC.out (HF.out.2.1 rfl).2.2.1 (HF.out.2.1 rfl).2.2.2 ⟨(HF.out.2.1 rfl).1,(HF.out.2.1 rfl).2.1⟩);have x5:=Qb X1.out 5 _ rfl;go_wp2_with fail
 refine CM.out.mono ?_;rintro e' w9 hd;have FF:Hid (Q6 w b O A s (s.next ⟨14,xa,xb,xc,xk,xn,xr,xs⟩) (s.goC ⟨14,xa,xb,xc,xk,xn,xr,xs⟩) e' w9):=HE2.out _ _ (hd.after HB.out);rcases hd with ⟨h1,rfl,h3⟩|⟨h1,rfl,h3⟩
 rotate_left
 ·exact⟨rfl,FF.out⟩
 clear h1 h3 CM;go_wp2
 exact bodyPost_end (v:=.tuple #[]) (by simp[results,results71,go_sem]) rfl FF.out
theorem Qkd {w:World}{b:Nat}{O A Q:Nat→Prop}{s:JSt}{x:Qy}{rg ag:Option Addr}{rc ac:Nat}(hA:∀ k,A k→k<w.heap.size) (hJ:JOk s) (h:SAt w b O A s) (hregs:intsL.In w Q x.regs [.slice rg x.regs.length rc]) (hargs:intsL.In w Q x.args [.slice ag x.args.length ac]) (hrc:x.regs.length≤rc) (hrng:Zx x) (hf:x.form s.m.length=0) (hop:x.op=6) :
 Calls prog 71 #[.pointer (some ⟨b,0,none⟩),QaR x rg ag rc ac] w fun e w'=>Q6 w b O A s (s.next x) (s.goC x) e w':=by
 have hE:=QbZ (s:=s) hop;obtain⟨op,xa,xb,xc,xk,xn,xr,xs⟩:=x
 have hop:op=6:=hop;subst hop;have HE:=Qa hE;obtain⟨f1,f2,f3,-⟩:=Zb hf
 have HF:=Qa (And.intro f1 (And.intro f2 f3));obtain⟨ra,rb,rcc⟩:=hrng
 have HI:=Qa (And.intro ra (And.intro rb rcc));have HJ:=Qa hJ;have H0:=Qa h;have HA0:=Qa hA;have hL:=hJ.vals;have b1:=QN w (.cells #[.int .i64 6,.int .i64 xa,.int .i64 xb,.int .i64 xc,.int .i64 xk,.int .i64 xn,.slice rg xr.length rc,.slice ag xs.length ac] 59);have H:=Qa (h.below b1);have HR:Hid (intsL.In _ Q xr [.slice rg xr.length rc]):=Lay.below hregs b1;have HG:Hid (intsL.In _ Q xs [.slice ag xs.length ac]):=Lay.below hargs b1;have HB:=Qa b1;have HA:=Qa (fun k hk=>Zl (hA k hk) b1.size);have HO:=Qa (fun k hk=>Zl (hA k (h.sub k hk)) b1.size);have X1:Hid (Blk (w.alloc (.cells #[.int .i64 6,.int .i64 xa,.int .i64 xb,.int .i64 xc,.int .i64 xk,.int .i64 xn,.slice rg xr.length rc,.slice ag xs.length ac] 59)) w.heap.size #[.int .i64 6,.int .i64 xa,.int .i64 xb,.int .i64 xc,.int .i64 xk,.int .i64 xn,.slice rg xr.length rc,.slice ag xs.length ac] 59):=Blk.new _ _ _;have HRC:Hid (xr.length≤rc):=hrc;clear h hA hJ b1 hregs hargs hE hf f1 f2 f3 ra rb rcc hrc;go_enter func71,ntmps71
 go_upto_region 1 with fail
 generalize w.alloc (.cells #[.int .i64 6,.int .i64 xa,.int .i64 xb,.int .i64 xc,.int .i64 xk,.int .i64 xn,.slice rg xr.length rc,.slice ag xs.length ac] 59)=w1 at H HR HG HB HA HO X1 ⊢;obtain⟨X,hX⟩:∃ X,w.heap.size=X:=⟨_,rfl⟩
 rw[hX] at X1 ⊢
 clear hX;have x0:=Qb X1.out 0 _ rfl;have x1:=Qb X1.out 1 _ rfl;have x2:=Qb X1.out 2 _ rfl;have x3:=Qb X1.out 3 _ rfl;have x4:=Qb X1.out 4 _ rfl;have x6:=Qb X1.out 6 _ rfl;have x7:=Qb X1.out 7 _ rfl;obtain⟨k,hxk⟩:=Int.eq_ofNat_of_zero_le (HF.out.1 (by simp)).1
 have hxk:xk=(k:Int):=hxk;subst hxk;have hk7:k≤7:=by have:=(HF.out.1 (by simp)).2;simp only at this;omega
 have EG:Hid (s.goC ⟨6,xa,xb,xc,(k:Int),xn,xr,xs⟩=code2 (s.fieldC xa k) (Zh s.L.length 1)):=by
  show _=_;unfold JSt.goC JSt.fieldC;rw[HE.out]
  simp only[Int.toNat_natCast]
  cases ha:s.at xa with
  | none=>unfold JSt.want;rw[ha];rfl
  | some t =>
    simp only
    by_cases hw:s.want xa 3 true=0
    ·rw[if_pos hw,QF hw]
     by_cases hk:k<t.2.2.length
     ·rw[Zg hk,if_pos hk];rfl
     ·rw[List.getElem?_eq_none (by omega),if_neg hk];rfl
    ·rw[if_neg hw,Qr hw];rw[Qr hw,Qr hw]
 have C1:=Qa (Qdt xa k (by omega) hL HO.out H.out);go_wp2_with fail
 refine(C1.out ).mono ?_
 rintro e' w2 ⟨hq,b2⟩;have HB2:=Qa (HB.out.trans (b2.mono HB.out.size));have H2:=Qa (H.out.below b2);have HA2:=Qa (fun k hk=>Zl (HA.out k hk) b2.size);have HO2:=Qa (fun k hk=>Zl (HO.out k hk) b2.size);rcases hq with ⟨hc,y2,rfl,hy⟩|⟨hc,rfl⟩
 rotate_left
 ·exact⟨rfl,Q6.bad ((fun hc=>by rw[EG.out,Qr hc]) hc) hc (STo.of_below H0.out HB2.out)⟩
 have HC2:=Qa hc;clear hc b2 C1;obtain⟨t,u,p,c,ha,hu,rfl,hui⟩:=hy
 have hh5:=TT.height_lt u;have h5:u.height≤5:=by omega
 have hchk:t.check s.H.length=0:=HJ.out.types t (QaE ha).1
 have huok:u.ok:=by
  obtain⟨pm,cm,hh,a1,c1,a2,c2,a3,c3,aL,cL,RR⟩:=H0.out.read
  obtain⟨-,hn,-,hti⟩:=QaE ha
  obtain⟨g,a',c',e,-,-,-,-,hok⟩:=RR.row _ t hti
  exact hok.2 u (Zm hu)
 have HS:Hid (s.next ⟨6,xa,xb,xc,(k:Int),xn,xr,xs⟩={ s with L:=s.L++[u.at 5] }):=by
  show _=_;rw[Zc (by simp) (by simp),HE.out]
  have hw:s.want xa 3 true=0:=by
   have:=HC2.out
   unfold JSt.fieldC at this;exact(Qag this).1
  simp only[Int.toNat_natCast,ha,if_pos hw,hu]
 have HE2:Hid (∀ e w9,Q6 w b O A s { s with L:=s.L++[u.at 5] } (Zh s.L.length 1) e w9→Q6 w b O A s (s.next ⟨6,xa,xb,xc,(k:Int),xn,xr,xs⟩) (s.goC ⟨6,xa,xb,xc,(k:Int),xn,xr,xs⟩) e w9):=fun e w9 hd=>hd.to (by rw[EG.out,QF HC2.out]) (fun _=>HS.out)
 have CM:Hid (∀ d,Calls prog 120 #[.pointer (some ⟨b,0,none⟩),.slice (some ⟨w2.heap.size,0,none⟩) 1 d] (w2.alloc (.cells #[.int .i64 u.kind,.int .i64 u.r,.slice p u.len c] 79)) fun e w'=>Q6 w2 b O A s { s with L:=s.L++[u.at 5] } (Zh s.L.length 1) e w'):=fun d=>by
  have b1:=QN w2 (.cells #[.int .i64 u.kind,.int .i64 u.r,.slice p u.len c] 79);have hrow:=Qd1 (t:=u.at 5) (p:=p) (c:=c) (d:=d) HA2.out (TIn.at 5 h5 hui) (TT.at_ok 5 huok);rw[TT.at_kind,TT.at_r,TT.at_len 5 _ h5] at hrow
  exact(QaC (l:=[u.at 5]) rfl (by simp) hrow hL (fun k hk=>Zl (HA2.out k hk) b1.size) (H2.out.below b1)).mono (fun e w' hd=>hd.after b1)
 clear ha hu hui hh5 h5 hchk huok HS EG;simp only[Tv]
 go_wp2_with fail
 refine(CM.out _).mono ?_
 rintro e' w9 hd;have FF:Hid (Q6 w b O A s (s.next ⟨6,xa,xb,xc,(k:Int),xn,xr,xs⟩) (s.goC ⟨6,xa,xb,xc,(k:Int),xn,xr,xs⟩) e' w9):=HE2.out _ _ (hd.after HB2.out);rcases hd with ⟨h1,rfl,h3⟩|⟨h1,rfl,h3⟩
 rotate_left
 ·exact⟨rfl,FF.out⟩
 clear h1 h3 CM;go_wp2
 exact bodyPost_end (v:=.tuple #[]) (by simp[results,results71,go_sem]) rfl FF.out
theorem QjF {w:World}{b:Nat}{O A Q:Nat→Prop}{s:JSt}{x:Qy}{rg ag:Option Addr}{rc ac:Nat}(hA:∀ k,A k→k<w.heap.size) (hJ:JOk s) (h:SAt w b O A s) (hregs:intsL.In w Q x.regs [.slice rg x.regs.length rc]) (hargs:intsL.In w Q x.args [.slice ag x.args.length ac]) (hrc:x.regs.length≤rc) (hrng:Zx x) (hf:x.form s.m.length=0) (hop:x.op=7) :
 Calls prog 71 #[.pointer (some ⟨b,0,none⟩),QaR x rg ag rc ac] w fun e w'=>Q6 w b O A s (s.next x) (s.goC x) e w':=by
 have hE:=QbB (s:=s) hop;obtain⟨op,xa,xb,xc,xk,xn,xr,xs⟩:=x
 have hop:op=7:=hop;subst hop;have HE:=Qa hE;obtain⟨f1,f2,f3,-⟩:=Zb hf
 have HF:=Qa (And.intro f1 (And.intro f2 f3));obtain⟨ra,rb,rcc⟩:=hrng
 have HI:=Qa (And.intro ra (And.intro rb rcc));have HJ:=Qa hJ;have H0:=Qa h;have HA0:=Qa hA;have hL:=hJ.vals;have b1:=QN w (.cells #[.int .i64 7,.int .i64 xa,.int .i64 xb,.int .i64 xc,.int .i64 xk,.int .i64 xn,.slice rg xr.length rc,.slice ag xs.length ac] 59);have H:=Qa (h.below b1);have HR:Hid (intsL.In _ Q xr [.slice rg xr.length rc]):=Lay.below hregs b1;have HG:Hid (intsL.In _ Q xs [.slice ag xs.length ac]):=Lay.below hargs b1;have HB:=Qa b1;have HA:=Qa (fun k hk=>Zl (hA k hk) b1.size);have HO:=Qa (fun k hk=>Zl (hA k (h.sub k hk)) b1.size);have X1:Hid (Blk (w.alloc (.cells #[.int .i64 7,.int .i64 xa,.int .i64 xb,.int .i64 xc,.int .i64 xk,.int .i64 xn,.slice rg xr.length rc,.slice ag xs.length ac] 59)) w.heap.size #[.int .i64 7,.int .i64 xa,.int .i64 xb,.int .i64 xc,.int .i64 xk,.int .i64 xn,.slice rg xr.length rc,.slice ag xs.length ac] 59):=Blk.new _ _ _;have HRC:Hid (xr.length≤rc):=hrc;clear h hA hJ b1 hregs hargs hE hf f1 f2 f3 ra rb rcc hrc;go_enter func71,ntmps71
 go_upto_region 1 with fail
 generalize w.alloc (.cells #[.int .i64 7,.int .i64 xa,.int .i64 xb,.int .i64 xc,.int .i64 xk,.int .i64 xn,.slice rg xr.length rc,.slice ag xs.length ac] 59)=w1 at H HR HG HB HA HO X1 ⊢;obtain⟨X,hX⟩:∃ X,w.heap.size=X:=⟨_,rfl⟩
 rw[hX] at X1 ⊢
 clear hX;have x0:=Qb X1.out 0 _ rfl;have x1:=Qb X1.out 1 _ rfl;have x2:=Qb X1.out 2 _ rfl;have x3:=Qb X1.out 3 _ rfl;have x4:=Qb X1.out 4 _ rfl;have x6:=Qb X1.out 6 _ rfl;have x7:=Qb X1.out 7 _ rfl;obtain⟨k,hxk⟩:=Int.eq_ofNat_of_zero_le (HF.out.1 (by simp)).1
 have hxk:xk=(k:Int):=hxk;subst hxk;have hk7:k≤7:=by have:=(HF.out.1 (by simp)).2;simp only at this;omega
 have EG:Hid (s.fieldC xa k≠0→s.goC ⟨7,xa,xb,xc,(k:Int),xn,xr,xs⟩=s.fieldC xa k):=fun hne=>by
  unfold JSt.goC;rw[HE.out]
  unfold JSt.fieldC at hne ⊢;simp only[Int.toNat_natCast]
  cases ha:s.at xa with
  | none=>unfold JSt.want;rw[ha];rfl
  | some t =>
    rw[ha] at hne
    simp only at hne ⊢
    by_cases hw:s.want xa 3 true=0
    ·rw[QF hw] at hne ⊢
     rw[if_pos hw]
     by_cases hk:k<t.2.2.length
     ·rw[if_pos hk] at hne;exact absurd rfl hne
     ·rw[List.getElem?_eq_none (by omega),if_neg hk];rfl
    ·rw[if_neg hw,Qr hw,Qr hw]
 have EG2:Hid (∀ t u,s.fieldC xa k=0→s.at xa=some t→t.2.2[k]?=some u→s.goC ⟨7,xa,xb,xc,(k:Int),xn,xr,xs⟩=s.beC xb (u.at 5)∧s.next ⟨7,xa,xb,xc,(k:Int),xn,xr,xs⟩=s):=fun t u h0 ha hu=>by
  have hw:s.want xa 3 true=0:=by
   unfold JSt.fieldC at h0;exact(Qag h0).1
  rw[Zc (by simp) (by simp)]
  unfold JSt.goC JSt.beC;rw[HE.out]
  simp only[Int.toNat_natCast,ha,if_pos hw,hu]
  cases s.at xb with
  | none=>exact⟨rfl,by simp⟩
  | some v =>
    simp only
    have e:bdec (u.at 5=v)=bdec (v=u.at 5):=QdW (by rw[Qaf];exact⟨fun e=>e.symm,fun e=>e.symm⟩);rw[e]
    cases bdec (v=u.at 5) with
    | true=>exact⟨by show code2 0 (Zh s.L.length 0)=_;rw[QbS hL];rfl,by simp⟩
    | false=>exact⟨rfl,by simp⟩
 have HCV:Hid (∀ t∈s.L,t.count≤100000):=fun t ht=>Zt (QZ (HJ.out.types t ht)) (by omega);go_upto_region 17 with fail
 have BD:Hid (Below w1.heap.size w1 w1.drew):=Qbu Zr;have C1:Hid (Calls prog 121 #[.pointer (some ⟨b,0,none⟩),.int .i64 xa,.int .i64 k] w1.drew fun e w'=>ZW (s.fieldC xa k) (QlH w' A s xa k) e∧Below w1.drew.heap.size w1.drew w'):=Qdt xa k (by omega) hL HO.out (H.out.below BD.out)
 have DM:Hid (∀ (u:TT 5) (p:Option Addr) (c:Nat) (wx:World),TIn wx (fun g=>¬ A g) u p→SAt wx b O A s→(∀ k,O k→k<wx.heap.size)→Calls prog 122 #[.pointer (some ⟨b,0,none⟩),.int .i64 xb,.agg #[.int .i64 u.kind,.int .i64 u.r,.slice p u.len c]] wx fun e w'=>ZW (s.beC xb (u.at 5)) VNone e∧Below wx.heap.size wx w'):=fun u p c wx hu hs ho=>by
  have h5:u.height≤5:=by have:=TT.height_lt u;omega
  have:=QcK (s:=s) xb (t:=u.at 5) (p:=p) (c:=c) (TIn.at 5 h5 hu) hL HCV.out ho hs
  rw[show Tv (u.at 5) p c=.agg #[.int .i64 u.kind,.int .i64 u.r,.slice p u.len c] by simp only[Tv,TT.at_kind,TT.at_r,TT.at_len 5 _ h5]] at this
  exact this
 go_region_with (first
  | (go_at_call 121;refine(C1.out).mono ?_;rintro e' w2 ⟨hq,b2⟩;have HB2:=Qa (HB.out.trans ((ZF b2).mono HB.out.size));rcases hq with ⟨hc,y2,rfl,t,u,p,c,ha,hu,rfl,hui⟩|⟨hc,rfl⟩;rotate_left;exact⟨rfl,Q6.bad (EG.out hc) hc (STo.of_below H0.out HB2.out)⟩;have x2':=Qi x2 (ZF b2);have H2:=Qa (H.out.below (ZF b2));have HO2:=Qa (fun k hk=>Zl (HO.out k hk) (ZF b2).size);have HU:=Qa hui;have HEE:=Qa (EG2.out t u hc ha hu);clear hui ha hu hc b2)
  | (go_at_call 122;refine(DM.out _ _ _ _ HU.out H2.out HO2.out).mono ?_;rintro e' w3 ⟨hq,b3⟩;have HB3:=Qa (HB2.out.trans (b3.mono HB2.out.size));rcases hq with ⟨hc,y3,rfl,hy⟩|⟨hc,rfl⟩;rotate_left;exact⟨rfl,Q6.bad HEE.out.1 hc (STo.of_below H0.out HB3.out)⟩;subst hy;have HC3:=Qa hc;clear hc b3))
 all_goals
  have FF:Hid (Q6 w b O A s (s.next ⟨7,xa,xb,xc,(k:Int),xn,xr,xs⟩) (s.goC ⟨7,xa,xb,xc,(k:Int),xn,xr,xs⟩) (.returned (.tuple #[])) w3):=Q6.none H0.out HB3.out (by rw[HEE.out.1,HC3.out]) HEE.out.2;go_wp2
  exact bodyPost_end (v:=.tuple #[]) (by simp[results,results71,go_sem]) rfl FF.out
end Go.Proofs.YtacjnejckfhpoadGreat
