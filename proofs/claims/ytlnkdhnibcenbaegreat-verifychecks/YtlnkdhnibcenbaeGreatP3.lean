import Derived.Test.YtlnkdhnibcenbaeGreatP2
import Derived.Defers
import Derived.Recover
set_option maxHeartbeats 16000000
set_option maxRecDepth 100000
namespace Go.Proofs.YtlnkdhnibcenbaeGreat
open Go.ChangeShapes Go.WideShapes Go.ChangeAt Go.RowKit _root_.Go.Proofs.Tryz
set_option linter.unusedSimpArgs false
set_option linter.unusedVariables false
variable {w w' w2 wc wr w6:World}{b n c rc ac B X m j k g i N rl al lo d cm f q cap s fm fi id fl R cR G fc fd bl o cL cA n1 lm funcs fe d1:Nat}{O Q A O':Nat→Prop}{p ag a ra aa pm pR pA na fp fq p1:Option Addr}{t e bt:TypeId}{l regs:List Int}{v v0:Value}{P:Program}{xc xa xb xk xn fr x:Int}{L:List Bool}{xs cs ds:List Value}{x0:Operand}
def QX (w:World) (O:Nat->Prop) (c:Int) (l:List (TT 6)) (e:Ending) (w':World):Prop :=
 ∃ a n d,e=.returned (.tuple #[.slice a n d,.int .i64 c])/\(c=0->n=l.length/\n<=d/\(Qi 6).In w' (fun g=>¬ O g) l [.slice a n d])/\Below w.heap.size w w'
abbrev Qa9 (x:QC) (rg ag:Option Addr) (rc ac:Nat):Value:=.agg #[.int .i64 x.op,.int .i64 x.a,.int .i64 x.b,.int .i64 x.c,.int .i64 x.k,.int .i64 x.n,.slice rg x.regs.length rc,.slice ag x.args.length ac]
theorem Qdw (w:World) (O:Nat->Prop) (n:∀ k,O k->k<w.heap.size){t:TT 6}(h:TIn w (fun g=>¬ O g) t a) (m:t.ok) :
 (Qi 6).In (w.alloc (.cells #[.int .i64 t.kind,.int .i64 t.r,.slice a t.len c] 70)) (fun g=>¬ O g) [t] [.slice (some ⟨w.heap.size,0,none⟩) 1 d]:=by
 refine⟨some ⟨w.heap.size,0,none⟩,d,Z,fun i x b=>?_⟩
 cases i with
 | succ i=>simp at b
 | zero =>
   have b:t=x:=by simpa using b
   subst b;refine⟨w.heap.size,0,[.int .i64 t.kind,.int .i64 t.r,.slice a t.len c],Z,fun e=>by have:=n _ e;omega,by simp,fun j l=>?_,a,c,Z,h.alloc _,m⟩
   have l:j<3:=l;have f:=Qm w #[.int .i64 t.kind,.int .i64 t.r,.slice a t.len c] 70;match j,l with
   | 0,_=>exact Qb f 0 _ Z
   | 1,_=>exact Qb f 1 _ Z
   | 2,_=>exact Qb f 2 _ Z
theorem QfY (w:World) (Q:Nat->Prop) (k r:Int) (a:Option Addr):TIn w Q (mkT k r []:TT 6) a:=fun i x b=>by simp at b
theorem QgT (w:World) (O:Nat->Prop) (f:∀ k,O k->k<w.heap.size){u:TT 5}(h:TIn w (fun g=>¬ O g) u a) (b:u.ok) :
 (Qi 6).In (w.alloc (.cells #[.int .i64 u.kind,.int .i64 u.r,.slice a u.len c] 70)) (fun g=>¬ O g) [u.at 5] [.slice (some ⟨w.heap.size,0,none⟩) 1 d]:=by
 have e:u.height<=5:=by have:=TT.height_lt u;omega
 have:=Qdw w O f (t:=u.at 5) (a:=a) (c:=c) (d:=d) (h.at 5 e) (TT.at_ok 5 b)
 rwa [TT.at_kind,TT.at_r,TT.at_len 5 u e] at this
theorem Qid {k r:Int}(h:-9223372036854775808<=r/\r<=9223372036854775807):(mkT k r []:TT 6).ok:=⟨h,fun x a=>by cases a⟩
structure MkS (w w2:World) (b X:Nat) (O:Nat->Prop) (s:JSt) (x:QC) (rg ag:Option Addr) (rc ac:Nat) (na:Option Addr):Prop where
 known:KAt w2 b O s
 box:w2.heap[X]?=some (.cells #[.int .i64 x.op,.int .i64 x.a,.int .i64 x.b,.int .i64 x.c,.int .i64 x.k,.int .i64 x.n,.slice rg x.regs.length rc,.slice ag x.args.length ac] 46 (0,0))
 num:(Qi 6).In w2 (fun g=>¬ O g) [tInt] [.slice na 1 1]
 bel:Below w.heap.size w w2
 own:∀ k,O k->k<w.heap.size
 ok:JOk s
theorem MkS.start {s:JSt}(x:QC) (e i:Option Addr) (g f:Nat) (m:∀ k,O k->k<w.heap.size) (q:JOk s) (h:KAt w b O s) :
 MkS w ((w.alloc (.cells #[.int .i64 x.op,.int .i64 x.a,.int .i64 x.b,.int .i64 x.c,.int .i64 x.k,.int .i64 x.n,.slice e x.regs.length g,.slice i x.args.length f] 46)).alloc (.cells #[.int .i64 1,.int .i64 0,.slice none 0 0] 70)) b w.heap.size O s x e i g f (some ⟨w.heap.size+1,0,none⟩):=by
 have j:=QU w (.cells #[.int .i64 x.op,.int .i64 x.a,.int .i64 x.b,.int .i64 x.c,.int .i64 x.k,.int .i64 x.n,.slice e x.regs.length g,.slice i x.args.length f] 46);have l:=QU (w.alloc (.cells #[.int .i64 x.op,.int .i64 x.a,.int .i64 x.b,.int .i64 x.c,.int .i64 x.k,.int .i64 x.n,.slice e x.regs.length g,.slice i x.args.length f] 46)) (.cells #[.int .i64 1,.int .i64 0,.slice none 0 0] 70);refine⟨(h.below j).below l,(l.block _ (by simp)).trans (Qm _ _ _),?_,j.trans (l.mono j.size),m,q⟩
 have:=Qdw (w.alloc (.cells #[.int .i64 x.op,.int .i64 x.a,.int .i64 x.b,.int .i64 x.c,.int .i64 x.k,.int .i64 x.n,.slice e x.regs.length g,.slice i x.args.length f] 46)) O (fun k p=>by have:=m k p;simp;omega) (t:=tInt) (a:=none) (c:=0) (d:=1) (QfY _ _ _ _ _) ⟨by decide,fun x o=>by cases o⟩
 rw[World.size_alloc] at this
 exact this
section
variable {w w2 w3:World}{b X:Nat}{O:Nat->Prop}{s:JSt}{x:QC}{rg ag:Option Addr}{rc ac:Nat}{na:Option Addr}
theorem MkS.below (h:MkS w w2 b X O s x rg ag rc ac na) (k:Below w2.heap.size w2 w3):MkS w w3 b X O s x rg ag rc ac na :=
 ⟨h.known.below k,(k.block X (XC h.box)).trans h.box,Ya h.num k,h.bel.trans (k.mono h.bel.size),h.own,h.ok⟩
theorem MkS.lt (h:MkS w w2 b X O s x rg ag rc ac na):∀ k,O k->k<w2.heap.size:=fun k a=>Zl (h.own k a) h.bel.size
theorem MkS.cells (h:MkS w w2 b X O s x rg ag rc ac na):w2.cell? ⟨X,0,none⟩=some (.int .i64 x.op)/\w2.cell? ⟨X,1,none⟩=some (.int .i64 x.a)/\w2.cell? ⟨X,2,none⟩=some (.int .i64 x.b)/\w2.cell? ⟨X,3,none⟩=some (.int .i64 x.c)/\w2.cell? ⟨X,4,none⟩=some (.int .i64 x.k)/\w2.cell? ⟨X,6,none⟩=some (.slice rg x.regs.length rc)/\w2.cell? ⟨X,7,none⟩=some (.slice ag x.args.length ac) :=
 ⟨Qb h.box 0 _ Z,Qb h.box 1 _ Z,Qb h.box 2 _ Z,Qb h.box 3 _ Z,Qb h.box 4 _ Z,Qb h.box 6 _ Z,Qb h.box 7 _ Z⟩
theorem QX.nil {c:Int}(h:Below w.heap.size w w3):QX w O c [] (.returned (.tuple #[.slice none 0 0,.int .i64 c])) w3 :=
 ⟨none,0,0,Z,fun _=>⟨Z,Ze,Yg _ _ _ _ _⟩,h⟩
theorem QX.bad {c:Int}{l:List (TT 6)}(b:c≠0) (h:Below w.heap.size w w3) (a:Option Addr) (n d:Nat):QX w O c l (.returned (.tuple #[.slice a n d,.int .i64 c])) w3 :=
 ⟨a,n,d,Z,fun e=>absurd e b,h⟩
theorem QX.num {c:Int}(h:MkS w w2 b X O s x rg ag rc ac na) (k:Below w2.heap.size w2 w3):QX w O c [tInt] (.returned (.tuple #[.slice na 1 1,.int .i64 c])) w3 :=
 ⟨na,1,1,Z,fun _=>⟨Z,Ze,(h.below k).num⟩,(h.below k).bel⟩
end
theorem Qek (a b:Int):firstI [a,b]=code2 a b:=by
 unfold firstI code2;split
 ·unfold firstI;split
  ·rename_i d c;simp[firstI,c]
  ·rfl
 ·rfl
theorem Qkq (a b c:Int):firstI [a,b,c]=code2 a (code2 b c):=by
 rw[firstI,Qek];rfl
theorem QgS {s:JSt}{x:QC}{c:Option Addr}(g:∀ k,O k->k<w.heap.size) (i:JOk s) (h:KAt w b O s) (a:x.op=1) :
 Calls prog 81 #[.pointer (some ⟨b,0,none⟩),Qa9 x c ag rc ac] w fun e w'=>QX w O (s.makes x).1 (s.makes x).2 e w':=by
 have E:Hid (s.makes x=(0,[tInt])):=Z4 (.inl a);have d:=Qa (MkS.start x c ag rc ac g i h);obtain⟨f,n,o,q,p,m,l,j⟩:=x
 simp only at a
 subst a;clear h;go_enter func81,ntmps81
 go_wp2
 go_ret2;rw[E.out]
 exact QX.num d.out Zr
theorem QhF {s:JSt}{x:QC}{c:Option Addr}(g:∀ k,O k->k<w.heap.size) (i:JOk s) (h:KAt w b O s) (a:x.op=12) :
 Calls prog 81 #[.pointer (some ⟨b,0,none⟩),Qa9 x c ag rc ac] w fun e w'=>QX w O (s.makes x).1 (s.makes x).2 e w':=by
 have E:Hid (s.makes x=(0,[tInt])):=Z4 (.inr a);have d:=Qa (MkS.start x c ag rc ac g i h);obtain⟨f,n,o,q,p,m,l,j⟩:=x
 simp only at a
 subst a;clear h;go_enter func81,ntmps81
 go_wp2
 go_ret2;rw[E.out]
 exact QX.num d.out Zr
def ZZ (x:QC):Prop:=(-9223372036854775808<=x.a/\x.a<=9223372036854775807)/\(-9223372036854775808<=x.b/\x.b<=9223372036854775807)/\(-9223372036854775808<=x.c/\x.c<=9223372036854775807)
theorem QjE {x:QC}(h:insC.In w O x cs):ZZ x:=by
 obtain⟨_,_,rfl,⟨rfl,_⟩,_,_,rfl,⟨rfl,f⟩,_,_,rfl,⟨rfl,g⟩,_,_,rfl,⟨rfl,e⟩,_,_,rfl,⟨rfl,_⟩,_,_,rfl,⟨rfl,_⟩,_,_,rfl,⟨⟨a,c,rfl,i⟩,j⟩,⟨b,d,rfl,l⟩,k⟩:=h
 exact⟨f,g,e⟩
noncomputable def JSt.goC (s:JSt) (x:QC):Int:=code2 (s.makes x).1 (Zu s.L.length (s.makes x).2.length)
theorem Qj2 {s:JSt}{x:QC}(a:x.form s.m.length=0):s.code x=s.goC x:=by
 unfold JSt.code JSt.goC code2 Zu;rw[Xr (by rw[a];simp)]
 by_cases h:(s.makes x).1=0
 ·rw[Xr (by rw[h];simp),Xs h]
 ·rw[Xs h,Xr h]
theorem Qca (h:n<=80):Zu n 0=0:=Xr (by omega)
theorem QfZ {a:Int}:code2 a 0=a:=by unfold code2;split<;>simp_all
theorem Zc.to {s a g:JSt}{c f:Int}{e:Ending}(m:Zc w b O A s a c e w') (i:f=c) (k:c=0->g=a):Zc w b O A s g f e w':=by
 subst i;rcases m with ⟨d,j,l⟩ | h
 ·exact .inl ⟨d,j,by rw[k d];exact l⟩
 ·exact .inr h
theorem Zc.none {s c:JSt}{a:Int}(h:SAt w b O A s) (f:Below w.heap.size w w') (d:a=0) (e:c=s):Zc w b O A s c a (.returned (.tuple #[])) w':=.inl ⟨d,Z,by rw[e];exact Yh h f⟩
theorem Zo {s:JSt}{x:QC}(b:x.op≠3) (a:x.op≠4):s.next x={ s with L:=s.L++(s.makes x).2 }:=by unfold JSt.next;rw[Xr b,Xr a]
structure Qmb (w:World) (b:Nat) (O A Q:Nat->Prop) (s:JSt) (c:Array Value) (xr xs:List Int) (rg ag:Option Addr) (rc ac:Nat) (w1:World) (X:Nat):Prop where
 HJ:Hid (JOk s)
 H0:Hid (SAt w b O A s)
 HA0:Hid (∀ k,A k->k<w.heap.size)
 H:Hid (SAt w1 b O A s)
 HR:Hid (intsL.In w1 Q xr [.slice rg xr.length rc])
 HG:Hid (intsL.In w1 Q xs [.slice ag xs.length ac])
 HB:Hid (Below w.heap.size w w1)
 HA:Hid (∀ k,A k->k<w1.heap.size)
 HO:Hid (∀ k,O k->k<w1.heap.size)
 X1:Hid (Blk w1 X c 46)
 HRC:Hid (xr.length<=rc)
theorem QgF {s:JSt}{f xs:List Int}{l:Option Addr}(i:∀ k,A k->k<w.heap.size) (m:JOk s) (h:SAt w b O A s) (a:intsL.In w Q f [.slice l f.length rc]) (d:intsL.In w Q xs [.slice ag xs.length ac]) (j:f.length<=rc) (c:Array Value):Qmb w b O A Q s c f xs l ag rc ac (w.alloc (.cells c 46)) w.heap.size :=
 have e:=QU w (.cells c 46);⟨m,h,i,h.below e,Ya a e,Ya d e,e,fun k g=>Zl (i k g) e.size,fun k g=>Zl (i k (h.sub k g)) e.size,Blk.new _ _ _,j⟩
theorem Zq {f b c e a d g:Value}(h:Blk w X #[v0,f,b,c,e,a,d,g] t):w.cell? ⟨X,0,none⟩=some v0/\w.cell? ⟨X,1,none⟩=some f/\w.cell? ⟨X,2,none⟩=some b/\w.cell? ⟨X,3,none⟩=some c/\w.cell? ⟨X,4,none⟩=some e/\w.cell? ⟨X,5,none⟩=some a/\w.cell? ⟨X,6,none⟩=some d/\w.cell? ⟨X,7,none⟩=some g :=
 ⟨Qb h 0 _ Z,Qb h 1 _ Z,Qb h 2 _ Z,Qb h 3 _ Z,Qb h 4 _ Z,Qb h 5 _ Z,Qb h 6 _ Z,Qb h 7 _ Z⟩
theorem QjZ {s:JSt}{x:QC}{y:Option Addr}(S:∀ k,A k->k<w.heap.size) (C:JOk s) (h:SAt w b O A s) (a:intsL.In w Q x.regs [.slice y x.regs.length rc]) (c:intsL.In w Q x.args [.slice ag x.args.length ac]) (r:x.regs.length<=rc) (p:ZZ x) (E:x.form s.m.length=0) (d:x.op=1) :
 Calls prog 35 #[.pointer (some ⟨b,0,none⟩),Qa9 x y ag rc ac] w fun e w'=>Zc w b O A s (s.next x) (s.goC x) e w':=by
 have F:=Z4 (s:=s) (.inl d);obtain⟨op,j,o,l,i,n,g,f⟩:=x
 have d:op=1:=d;subst d;have K:=Qa F;obtain⟨I,D,R,-⟩:=Zk E
 have HF:=Qa (Xh I (Xh D R));obtain⟨G,M,t⟩:=p
 have HI:=Qa (Xh G (Xh M t));have hL:=C.vals;have B:=Qa (QgF S C h a c r #[.int .i64 1,.int .i64 j,.int .i64 o,.int .i64 l,.int .i64 i,.int .i64 n,.slice y g.length rc,.slice ag f.length ac]);clear h S C a c F E I D R G M t r;go_enter func35,ntmps35
 go_upto_region 1 with fail
 generalize w.alloc (.cells #[.int .i64 1,.int .i64 j,.int .i64 o,.int .i64 l,.int .i64 i,.int .i64 n,.slice y g.length rc,.slice ag f.length ac] 46)=w1 at B |-;generalize w.heap.size=X at B |-;obtain⟨HJ,H0,aa,H,HR,HG,U,W,HO,X1,V⟩:=B.out
 clear B;obtain⟨x0,x1,x2,x3,x4,-,x6,x7⟩:=Zq X1.out
 have z:Hid (∀ e q,Zc w b O A s { s with L:=s.L++[tInt] } (Zu s.L.length 1) e q->Zc w b O A s (s.next ⟨1,j,o,l,i,n,g,f⟩) (s.goC ⟨1,j,o,l,i,n,g,f⟩) e q):=fun e q u=>u.to (by unfold JSt.goC;rw[K.out];rfl) (fun _=>by rw[Zo (by simp) (by simp),K.out]);have T:=Qa (Qcd hL W.out H.out);go_wp2_with fail
 refine T.out.mono ?_;rintro e' q u;have N:Hid (Zc w b O A s (s.next ⟨1,j,o,l,i,n,g,f⟩) (s.goC ⟨1,j,o,l,i,n,g,f⟩) e' q):=z.out _ _ (u.after U.out);rcases u with ⟨P,rfl,J⟩|⟨P,rfl,J⟩
 rotate_left
 ·exact⟨Z,N.out⟩
 clear P J T;go_wp2
 exact Xz (v:=.tuple #[]) (by simp[results,results35,go_sem]) Z N.out
theorem Qk1 {s:JSt}{x:QC}{y:Option Addr}(S:∀ k,A k->k<w.heap.size) (C:JOk s) (h:SAt w b O A s) (a:intsL.In w Q x.regs [.slice y x.regs.length rc]) (c:intsL.In w Q x.args [.slice ag x.args.length ac]) (r:x.regs.length<=rc) (p:ZZ x) (E:x.form s.m.length=0) (d:x.op=12) :
 Calls prog 35 #[.pointer (some ⟨b,0,none⟩),Qa9 x y ag rc ac] w fun e w'=>Zc w b O A s (s.next x) (s.goC x) e w':=by
 have F:=Z4 (s:=s) (.inr d);obtain⟨op,j,o,l,i,n,g,f⟩:=x
 have d:op=12:=d;subst d;have K:=Qa F;obtain⟨I,D,R,-⟩:=Zk E
 have HF:=Qa (Xh I (Xh D R));obtain⟨G,M,t⟩:=p
 have HI:=Qa (Xh G (Xh M t));have hL:=C.vals;have B:=Qa (QgF S C h a c r #[.int .i64 12,.int .i64 j,.int .i64 o,.int .i64 l,.int .i64 i,.int .i64 n,.slice y g.length rc,.slice ag f.length ac]);clear h S C a c F E I D R G M t r;go_enter func35,ntmps35
 go_upto_region 1 with fail
 generalize w.alloc (.cells #[.int .i64 12,.int .i64 j,.int .i64 o,.int .i64 l,.int .i64 i,.int .i64 n,.slice y g.length rc,.slice ag f.length ac] 46)=w1 at B |-;generalize w.heap.size=X at B |-;obtain⟨HJ,H0,aa,H,HR,HG,U,W,HO,X1,V⟩:=B.out
 clear B;obtain⟨x0,x1,x2,x3,x4,-,x6,x7⟩:=Zq X1.out
 have z:Hid (∀ e q,Zc w b O A s { s with L:=s.L++[tInt] } (Zu s.L.length 1) e q->Zc w b O A s (s.next ⟨12,j,o,l,i,n,g,f⟩) (s.goC ⟨12,j,o,l,i,n,g,f⟩) e q):=fun e q u=>u.to (by unfold JSt.goC;rw[K.out];rfl) (fun _=>by rw[Zo (by simp) (by simp),K.out]);have T:=Qa (Qcd hL W.out H.out);go_wp2_with fail
 refine T.out.mono ?_;rintro e' q u;have N:Hid (Zc w b O A s (s.next ⟨12,j,o,l,i,n,g,f⟩) (s.goC ⟨12,j,o,l,i,n,g,f⟩) e' q):=z.out _ _ (u.after U.out);rcases u with ⟨P,rfl,J⟩|⟨P,rfl,J⟩
 rotate_left
 ·exact⟨Z,N.out⟩
 clear P J T;go_wp2
 exact Xz (v:=.tuple #[]) (by simp[results,results35,go_sem]) Z N.out
theorem QkA {s:JSt}{x:QC}{E:Option Addr}(hA:∀ k,A k->k<w.heap.size) (K:JOk s) (h:SAt w b O A s) (a:intsL.In w Q x.regs [.slice E x.regs.length rc]) (c:intsL.In w Q x.args [.slice ag x.args.length ac]) (u:x.regs.length<=rc) (r:ZZ x) (R:x.form s.m.length=0) (g:x.op=2) :
 Calls prog 35 #[.pointer (some ⟨b,0,none⟩),Qa9 x E ag rc ac] w fun e w'=>Zc w b O A s (s.next x) (s.goC x) e w':=by
 have S:=QbV (s:=s) g;obtain⟨op,f,i,o,n,q,l,j⟩:=x
 have g:op=2:=g;subst g;have HE:=Qa S;obtain⟨f1,M,f3,-⟩:=Zk R
 have HF:=Qa (Xh f1 (Xh M f3));obtain⟨V,rb,y⟩:=r
 have T:=Qa (Xh V (Xh rb y));have hL:=K.vals;have B:=Qa (QgF hA K h a c u #[.int .i64 2,.int .i64 f,.int .i64 i,.int .i64 o,.int .i64 n,.int .i64 q,.slice E l.length rc,.slice ag j.length ac]);clear h hA K a c S R f1 M f3 V rb y u;go_enter func35,ntmps35
 go_upto_region 1 with fail
 generalize w.alloc (.cells #[.int .i64 2,.int .i64 f,.int .i64 i,.int .i64 o,.int .i64 n,.int .i64 q,.slice E l.length rc,.slice ag j.length ac] 46)=w1 at B |-;generalize w.heap.size=X at B |-;obtain⟨HJ,H0,ad,H,HR,HG,N,HA,P,X1,aa⟩:=B.out
 clear B;obtain⟨x0,x1,x2,x3,x4,-,x6,x7⟩:=Zq X1.out
 have W:Hid (s.goC ⟨2,f,i,o,n,q,l,j⟩=code2 (code2 (s.want f 1 false) (s.want i 1 false)) (Zu s.L.length 1)):=by show _=_;unfold JSt.goC;rw[HE.out];rfl
 have U:=Qa (fun d=>QeU f i T.out.1 T.out.2.1 d hL P.out H.out);go_wp2_with fail
 refine(U.out _).mono ?_
 rintro e' w2 ⟨hq,C⟩;have z:=Qa (N.out.trans (C.mono N.out.size));have H2:=Qa (H.out.below C);have I:=Qa (fun k J=>Zl (HA.out k J) C.size);have ab:=Qa (fun k J=>Zl (P.out k J) C.size);rcases hq with ⟨p,y2,rfl,hy⟩|⟨p,rfl⟩
 rotate_left
 ·exact⟨Z,Zc.bad ((fun p=>by rw[W.out,Qx p]) p) p (Yh H0.out z.out)⟩
 subst hy;have G:=Qa p;clear p C U;have F:Hid (∀ e t,Zc w b O A s { s with L:=s.L++[tInt] } (Zu s.L.length 1) e t->Zc w b O A s (s.next ⟨2,f,i,o,n,q,l,j⟩) (s.goC ⟨2,f,i,o,n,q,l,j⟩) e t):=fun e t D=>D.to (by rw[W.out,QH G.out]) (fun _=>by rw[Zo (by simp) (by simp),HE.out]);have CM:=Qa (Qcd hL I.out H2.out);go_wp2_with fail
 refine CM.out.mono ?_;rintro e' t D;have FF:Hid (Zc w b O A s (s.next ⟨2,f,i,o,n,q,l,j⟩) (s.goC ⟨2,f,i,o,n,q,l,j⟩) e' t):=F.out _ _ (D.after z.out);rcases D with ⟨h1,rfl,h3⟩|⟨h1,rfl,h3⟩
 rotate_left
 ·exact⟨Z,FF.out⟩
 clear h1 h3 CM;go_wp2
 exact Xz (v:=.tuple #[]) (by simp[results,results35,go_sem]) Z FF.out
theorem Qj1 {s:JSt}{x:QC}{C:Option Addr}(V:∀ k,A k->k<w.heap.size) (E:JOk s) (h:SAt w b O A s) (c:intsL.In w Q x.regs [.slice C x.regs.length rc]) (d:intsL.In w Q x.args [.slice ag x.args.length ac]) (u:x.regs.length<=rc) (r:ZZ x) (I:x.form s.m.length=0) (f:x.op=3) :
 Calls prog 35 #[.pointer (some ⟨b,0,none⟩),Qa9 x C ag rc ac] w fun e w'=>Zc w b O A s (s.next x) (s.goC x) e w':=by
 have J:=QaQ (s:=s) f;obtain⟨op,n,q,o,l,p,j,i⟩:=x
 have f:op=3:=f;subst f;have P:=Qa J;obtain⟨M,G,U,-⟩:=Zk I
 have HF:=Qa (Xh M (Xh G U));obtain⟨K,R,y⟩:=r
 have HI:=Qa (Xh K (Xh R y));have hL:=E.vals;have B:=Qa (QgF V E h c d u #[.int .i64 3,.int .i64 n,.int .i64 q,.int .i64 o,.int .i64 l,.int .i64 p,.slice C j.length rc,.slice ag i.length ac]);clear h V E c d J I M G U K R y u;go_enter func35,ntmps35
 go_upto_region 1 with fail
 generalize w.alloc (.cells #[.int .i64 3,.int .i64 n,.int .i64 q,.int .i64 o,.int .i64 l,.int .i64 p,.slice C j.length rc,.slice ag i.length ac] 46)=w1 at B |-;generalize w.heap.size=X at B |-;obtain⟨HJ,H0,ab,H,HR,HG,HB,HA,HO,X1,aa⟩:=B.out
 clear B;obtain⟨x0,x1,x2,x3,x4,-,x6,x7⟩:=Zq X1.out
 have D:Hid (∀ e t,Zc w b O A s s.openS s.openC e t->Zc w b O A s (s.next ⟨3,n,q,o,l,p,j,i⟩) (s.goC ⟨3,n,q,o,l,p,j,i⟩) e t):=fun e t z=>z.to (by
  unfold JSt.goC;rw[P.out]
  by_cases a:s.H.length=16
  ·rw[Xs a]
   show code2 2 _=s.openC;unfold JSt.openC;rw[Xs (Or.inr a)];rfl
  ·rw[Xr a]
   show code2 0 (Zu s.L.length 1)=s.openC;rw[QH Z]
   unfold Zu JSt.openC;by_cases g:80<s.L.length+1
   ·rw[Xs g,Xs (Or.inl g)]
   ·rw[Xr g,Xr (by omega)]) (fun F=>by
  unfold JSt.openC at F;unfold JSt.next JSt.openS
  rw[P.out]
  by_cases a:s.H.length=16
  ·rw[Xs (Or.inr a)] at F;cases F
  ·rw[Xr a];rfl)
 have W:=Qa (Qif HJ.out.regs hL HA.out H.out);go_wp2_with fail
 refine W.out.mono ?_;rintro e' t z;have S:Hid (Zc w b O A s (s.next ⟨3,n,q,o,l,p,j,i⟩) (s.goC ⟨3,n,q,o,l,p,j,i⟩) e' t):=D.out _ _ (z.after HB.out);rcases z with ⟨T,rfl,N⟩|⟨T,rfl,N⟩
 rotate_left
 ·exact⟨Z,S.out⟩
 clear T N W;go_wp2
 exact Xz (v:=.tuple #[]) (by simp[results,results35,go_sem]) Z S.out
theorem Qi2 {s:JSt}{x:QC}{D:Option Addr}(V:∀ k,A k->k<w.heap.size) (F:JOk s) (h:SAt w b O A s) (c:intsL.In w Q x.regs [.slice D x.regs.length rc]) (d:intsL.In w Q x.args [.slice ag x.args.length ac]) (y:x.regs.length<=rc) (q:ZZ x) (I:x.form s.m.length=0) (g:x.op=4) :
 Calls prog 35 #[.pointer (some ⟨b,0,none⟩),Qa9 x D ag rc ac] w fun e w'=>Zc w b O A s (s.next x) (s.goC x) e w':=by
 have J:=Qap (s:=s) g;obtain⟨op,a,p,n,l,o,j,i⟩:=x
 have g:op=4:=g;subst g;have P:=Qa J;obtain⟨M,G,U,-⟩:=Zk I
 have HF:=Qa (Xh M (Xh G U));obtain⟨K,R,z⟩:=q
 have HI:=Qa (Xh K (Xh R z));have W:=F.vals;have B:=Qa (QgF V F h c d y #[.int .i64 4,.int .i64 a,.int .i64 p,.int .i64 n,.int .i64 l,.int .i64 o,.slice D j.length rc,.slice ag i.length ac]);clear h V F c d J I M G U K R z y;go_enter func35,ntmps35
 go_upto_region 1 with fail
 generalize w.alloc (.cells #[.int .i64 4,.int .i64 a,.int .i64 p,.int .i64 n,.int .i64 l,.int .i64 o,.slice D j.length rc,.slice ag i.length ac] 46)=w1 at B |-;generalize w.heap.size=X at B |-;obtain⟨HJ,H0,ab,H,HR,HG,HB,HA,HO,X1,aa⟩:=B.out
 clear B;obtain⟨x0,x1,x2,x3,x4,-,x6,x7⟩:=Zq X1.out
 have E:Hid (∀ e u,Zc w b O A s (s.freeS a) (s.freeC a) e u->Zc w b O A s (s.next ⟨4,a,p,n,l,o,j,i⟩) (s.goC ⟨4,a,p,n,l,o,j,i⟩) e u):=fun e u C=>C.to (by
  unfold JSt.goC JSt.freeC;rw[P.out]
  show code2 (match s.at a with | none=>(1,[]) | some t=>(code2 (s.want a 2 true) (if t.r<s.f.regs then 11 else 0),[])).1 _=_
  cases s.at a with
  | none=>rfl
  | some t=>show code2 _ (Zu s.L.length 0)=_;rw[Qca W,QfZ]) (fun h0=>by
  unfold JSt.next JSt.freeS
  rw[P.out]
  show ({ s with H:=_,L:=s.L++(match s.at a with | none=>(1,[]) | some t=>(code2 (s.want a 2 true) (if t.r<s.f.regs then 11 else 0),[])).2 }:JSt)=_
  cases s.at a with
  | none=>simp
  | some t=>simp)
 have CM:=Qa (QiO a W HA.out H.out);go_wp2_with fail
 refine CM.out.mono ?_;rintro e' u C;have S:Hid (Zc w b O A s (s.next ⟨4,a,p,n,l,o,j,i⟩) (s.goC ⟨4,a,p,n,l,o,j,i⟩) e' u):=E.out _ _ (C.after HB.out);rcases C with ⟨T,rfl,N⟩|⟨T,rfl,N⟩
 rotate_left
 ·exact⟨Z,S.out⟩
 clear T N CM;go_wp2
 exact Xz (v:=.tuple #[]) (by simp[results,results35,go_sem]) Z S.out
theorem QhA {s:JSt}{x:QC}{I:Option Addr}(hA:∀ k,A k->k<w.heap.size) (K:JOk s) (h:SAt w b O A s) (d:intsL.In w Q x.regs [.slice I x.regs.length rc]) (f:intsL.In w Q x.args [.slice ag x.args.length ac]) (E:x.regs.length<=rc) (C:ZZ x) (M:x.form s.m.length=0) (j:x.op=5) :
 Calls prog 35 #[.pointer (some ⟨b,0,none⟩),Qa9 x I ag rc ac] w fun e w'=>Zc w b O A s (s.next x) (s.goC x) e w':=by
 have N:=Qaw (s:=s) j;obtain⟨op,a,z,u,q,y,p,g⟩:=x
 have j:op=5:=j;subst j;have T:=Qa N;obtain⟨R,L,f3,-⟩:=Zk M
 have HF:=Qa (Xh R (Xh L f3));obtain⟨P,U,F⟩:=C
 have HI:=Qa (Xh P (Xh U F));have hL:=K.vals;have B:=Qa (QgF hA K h d f E #[.int .i64 5,.int .i64 a,.int .i64 z,.int .i64 u,.int .i64 q,.int .i64 y,.slice I p.length rc,.slice ag g.length ac]);clear h hA K d f N M R L f3 P U F E;go_enter func35,ntmps35
 go_upto_region 1 with fail
 generalize w.alloc (.cells #[.int .i64 5,.int .i64 a,.int .i64 z,.int .i64 u,.int .i64 q,.int .i64 y,.slice I p.length rc,.slice ag g.length ac] 46)=w1 at B |-;generalize w.heap.size=X at B |-;obtain⟨HJ,H0,ab,H,HR,HG,HB,HA,HO,X1,aa⟩:=B.out
 clear B;obtain⟨x0,x1,x2,x3,x4,-,x6,x7⟩:=Zq X1.out
 have J:Hid (∀ e D,Zc w b O A s (s.tupleS a g) (s.tupleC a g) e D->Zc w b O A s (s.next ⟨5,a,z,u,q,y,p,g⟩) (s.goC ⟨5,a,z,u,q,y,p,g⟩) e D):=fun e D G=>G.to (by
  unfold JSt.goC JSt.tupleC;rw[T.out]
  simp only
  cases ha:s.at a with
  | none=>unfold JSt.want;rw[ha];rfl
  | some t =>
    simp only
    by_cases i:s.want a 2 true=0
    ·rw[Xs i,QH i]
     cases s.fields g with
     | none=>rfl
     | some l =>
       simp only
       by_cases o:4<TT.height (n:=7) (mkT 3 t.r l)
       ·rw[Xs o,Xs o];rfl
       ·rw[Xr o,Xr o];rfl
    ·rw[Xr i,Qx i,Qx i]) (fun c=>by
  rw[Zo (by simp) (by simp),T.out]
  unfold JSt.tupleC at c;unfold JSt.tupleS;simp only
  cases ha:s.at a with
  | none=>rfl
  | some t =>
    rw[ha] at c
    simp only at c |-
    by_cases i:s.want a 2 true=0
    ·rw[QH i] at c
     rw[Xs i]
     cases hl:s.fields g with
     | none=>simp[hl] at c
     | some l =>
       rw[hl] at c
       simp only at c |-
       by_cases o:4<TT.height (n:=7) (mkT 3 t.r l)
       ·rw[Xs o] at c;cases c
       ·rw[Xr o]
    ·rw[Qx i] at c;exact absurd c i)
 have CM:=Qa (QgY a Z (HF.out.2.2 Z) HG.out HJ.out HA.out H.out);go_wp2_with fail
 refine CM.out.mono ?_;rintro e' D G;have V:Hid (Zc w b O A s (s.next ⟨5,a,z,u,q,y,p,g⟩) (s.goC ⟨5,a,z,u,q,y,p,g⟩) e' D):=J.out _ _ (G.after HB.out);rcases G with ⟨W,rfl,S⟩|⟨W,rfl,S⟩
 rotate_left
 ·exact⟨Z,V.out⟩
 clear W S CM;go_wp2
 exact Xz (v:=.tuple #[]) (by simp[results,results35,go_sem]) Z V.out
theorem QiD {s:JSt}{x:QC}{D:Option Addr}(V:∀ k,A k->k<w.heap.size) (F:JOk s) (h:SAt w b O A s) (c:intsL.In w Q x.regs [.slice D x.regs.length rc]) (d:intsL.In w Q x.args [.slice ag x.args.length ac]) (y:x.regs.length<=rc) (q:ZZ x) (J:x.form s.m.length=0) (f:x.op=8) :
 Calls prog 35 #[.pointer (some ⟨b,0,none⟩),Qa9 x D ag rc ac] w fun e w'=>Zc w b O A s (s.next x) (s.goC x) e w':=by
 have K:=Qa1 (s:=s) f;obtain⟨op,a,g,o,n,p,l,j⟩:=x
 have f:op=8:=f;subst f;have G:=Qa K;obtain⟨N,I,U,-⟩:=Zk J
 have HF:=Qa (Xh N (Xh I U));obtain⟨M,R,z⟩:=q
 have HI:=Qa (Xh M (Xh R z));have hL:=F.vals;have B:=Qa (QgF V F h c d y #[.int .i64 8,.int .i64 a,.int .i64 g,.int .i64 o,.int .i64 n,.int .i64 p,.slice D l.length rc,.slice ag j.length ac]);clear h V F c d K J N I U M R z y;go_enter func35,ntmps35
 go_upto_region 1 with fail
 generalize w.alloc (.cells #[.int .i64 8,.int .i64 a,.int .i64 g,.int .i64 o,.int .i64 n,.int .i64 p,.slice D l.length rc,.slice ag j.length ac] 46)=w1 at B |-;generalize w.heap.size=X at B |-;obtain⟨HJ,H0,ab,H,HR,HG,HB,HA,HO,X1,aa⟩:=B.out
 clear B;obtain⟨x0,x1,x2,x3,x4,-,x6,x7⟩:=Zq X1.out
 have E:Hid (∀ e u,(∀ t,(s.at a=some t\/(s.at a=none/\t=tInt))->Zc w b O A s { s with L:=s.L++[mkT 4 t.r []] } (s.arrayC a g) e u)->Zc w b O A s (s.next ⟨8,a,g,o,n,p,l,j⟩) (s.goC ⟨8,a,g,o,n,p,l,j⟩) e u):=fun e u i=>by
  cases ha:s.at a with
  | none =>
    refine(i tInt (.inr ⟨ha,Z⟩)).to (by unfold JSt.goC JSt.arrayC;rw[G.out];simp only[ha];unfold JSt.want;rw[ha];rfl) (fun C=>?_)
    unfold JSt.arrayC JSt.want at C;rw[ha] at C
    cases C
  | some t =>
    refine(i t (.inl ha)).to (by unfold JSt.goC JSt.arrayC;rw[G.out];simp only[ha];rfl) (fun C=>?_)
    rw[Zo (by simp) (by simp),G.out]
    simp only[ha]
 have W:=Qa (Qg7 a g HI.out.2.1 HJ.out.regs hL HA.out H.out);go_wp2_with fail
 refine W.out.mono ?_;rintro e' u i;have S:Hid (Zc w b O A s (s.next ⟨8,a,g,o,n,p,l,j⟩) (s.goC ⟨8,a,g,o,n,p,l,j⟩) e' u):=E.out _ _ (fun t ht=>(i t ht).after HB.out);have i:=i ((s.at a).getD tInt) (by cases s.at a with | none=>exact .inr ⟨Z,Z⟩ | some t=>exact .inl Z);rcases i with ⟨T,rfl,P⟩|⟨T,rfl,P⟩
 rotate_left
 ·exact⟨Z,S.out⟩
 clear T P W;go_wp2
 exact Xz (v:=.tuple #[]) (by simp[results,results35,go_sem]) Z S.out
theorem Qi6 {s:JSt}{x:QC}{K:Option Addr}(hA:∀ k,A k->k<w.heap.size) (R:JOk s) (h:SAt w b O A s) (c:intsL.In w Q x.regs [.slice K x.regs.length rc]) (f:intsL.In w Q x.args [.slice ag x.args.length ac]) (E:x.regs.length<=rc) (C:ZZ x) (hf:x.form s.m.length=0) (i:x.op=9) :
 Calls prog 35 #[.pointer (some ⟨b,0,none⟩),Qa9 x K ag rc ac] w fun e w'=>Zc w b O A s (s.next x) (s.goC x) e w':=by
 have hE:=Qbv (s:=s) i;obtain⟨op,g,j,q,o,t,l,n⟩:=x
 have i:op=9:=i;subst i;have HE:=Qa hE;obtain⟨f1,f2,f3,-⟩:=Zk hf
 have HF:=Qa (Xh f1 (Xh f2 f3));obtain⟨ra,rb,F⟩:=C
 have HI:=Qa (Xh ra (Xh rb F));have W:=R.vals;have B:=Qa (QgF hA R h c f E #[.int .i64 9,.int .i64 g,.int .i64 j,.int .i64 q,.int .i64 o,.int .i64 t,.slice K l.length rc,.slice ag n.length ac]);clear h hA R c f hE hf f1 f2 f3 ra rb F E;go_enter func35,ntmps35
 go_upto_region 1 with fail
 generalize w.alloc (.cells #[.int .i64 9,.int .i64 g,.int .i64 j,.int .i64 q,.int .i64 o,.int .i64 t,.slice K l.length rc,.slice ag n.length ac] 46)=w1 at B |-;generalize w.heap.size=X at B |-;obtain⟨HJ,H0,ad,H,HR,HG,HB,HA,HO,X1,aa⟩:=B.out
 clear B;obtain⟨x0,x1,x2,x3,x4,-,x6,x7⟩:=Zq X1.out
 have S:Hid (s.goC ⟨9,g,j,q,o,t,l,n⟩=code2 (code2 (s.want g 4 true) (s.want j 1 false)) (Zu s.L.length 1)):=by show _=_;unfold JSt.goC;rw[HE.out];rfl
 have C1:=Qa (Qar g 4 W HO.out H.out);go_wp2_with fail
 refine(C1.out ).mono ?_
 rintro T w2 ⟨N,u⟩;have r:=Qa (HB.out.trans (u.mono HB.out.size));have H2:=Qa (H.out.below u);have P:=Qa (fun k p=>Zl (HA.out k p) u.size);have I:=Qa (fun k p=>Zl (HO.out k p) u.size);rcases N with ⟨a,y2,rfl,hy⟩|⟨a,rfl⟩
 rotate_left
 ·exact⟨Z,Zc.bad ((fun a=>by rw[S.out,Qx (by rw[Qx a];exact a),Qx a]) a) a (Yh H0.out r.out)⟩
 have z:=Qa a;have x2:=Qp x2 u;clear a u C1;have C2:=Qa (fun d=>Qcg j HI.out.2.1 d W I.out H2.out);go_wp2_with fail
 refine(C2.out _).mono ?_
 rintro T w3 ⟨N,y⟩;have G:=Qa (r.out.trans (y.mono r.out.size));have H3:=Qa (H2.out.below y);have U:=Qa (fun k p=>Zl (P.out k p) y.size);have ab:=Qa (fun k p=>Zl (I.out k p) y.size);rcases N with ⟨a,y3,rfl,hy⟩|⟨a,rfl⟩
 rotate_left
 ·exact⟨Z,Zc.bad ((fun a=>by rw[S.out,QH z.out,Qx a]) a) a (Yh H0.out G.out)⟩
 subst hy;have V:=Qa a;clear a y C2;have M:Hid (∀ e D,Zc w b O A s { s with L:=s.L++[tInt] } (Zu s.L.length 1) e D->Zc w b O A s (s.next ⟨9,g,j,q,o,t,l,n⟩) (s.goC ⟨9,g,j,q,o,t,l,n⟩) e D):=fun e D J=>J.to (by rw[S.out,QH z.out,QH V.out]) (fun _=>by rw[Zo (by simp) (by simp),HE.out]);have CM:=Qa (Qcd W U.out H3.out);go_wp2_with fail
 refine CM.out.mono ?_;rintro T D J;have FF:Hid (Zc w b O A s (s.next ⟨9,g,j,q,o,t,l,n⟩) (s.goC ⟨9,g,j,q,o,t,l,n⟩) T D):=M.out _ _ (J.after G.out);rcases J with ⟨h1,rfl,h3⟩|⟨h1,rfl,h3⟩
 rotate_left
 ·exact⟨Z,FF.out⟩
 clear h1 h3 CM;go_wp2
 exact Xz (v:=.tuple #[]) (by simp[results,results35,go_sem]) Z FF.out
theorem QiH {s:JSt}{x:QC}{I:Option Addr}(hA:∀ k,A k->k<w.heap.size) (M:JOk s) (h:SAt w b O A s) (c:intsL.In w Q x.regs [.slice I x.regs.length rc]) (f:intsL.In w Q x.args [.slice ag x.args.length ac]) (C:x.regs.length<=rc) (z:ZZ x) (hf:x.form s.m.length=0) (g:x.op=10) :
 Calls prog 35 #[.pointer (some ⟨b,0,none⟩),Qa9 x I ag rc ac] w fun e w'=>Zc w b O A s (s.next x) (s.goC x) e w':=by
 have hE:=QaV (s:=s) g;obtain⟨op,i,p,l,u,G,t,q⟩:=x
 have g:op=10:=g;subst g;have HE:=Qa hE;obtain⟨f1,T,f3,-⟩:=Zk hf
 have HF:=Qa (Xh f1 (Xh T f3));obtain⟨ra,rb,D⟩:=z
 have HI:=Qa (Xh ra (Xh rb D));have R:=M.vals;have B:=Qa (QgF hA M h c f C #[.int .i64 10,.int .i64 i,.int .i64 p,.int .i64 l,.int .i64 u,.int .i64 G,.slice I t.length rc,.slice ag q.length ac]);clear h hA M c f hE hf f1 T f3 ra rb D C;go_enter func35,ntmps35
 go_upto_region 1 with fail
 generalize w.alloc (.cells #[.int .i64 10,.int .i64 i,.int .i64 p,.int .i64 l,.int .i64 u,.int .i64 G,.slice I t.length rc,.slice ag q.length ac] 46)=w1 at B |-;generalize w.heap.size=X at B |-;obtain⟨HJ,S,ae,H,HR,HG,U,HA,W,X1,aa⟩:=B.out
 clear B;obtain⟨x0,x1,x2,x3,x4,-,x6,x7⟩:=Zq X1.out
 have N:Hid (s.goC ⟨10,i,p,l,u,G,t,q⟩=code2 (s.want i 4 true) (code2 (s.want p 1 false) (s.want l 1 false))):=by show _=_;unfold JSt.goC;rw[HE.out];show code2 _ (Zu s.L.length 0)=_;rw[Qca R,QfZ]
 have C1:=Qa (Qar i 4 R W.out H.out);go_wp2_with fail
 refine(C1.out ).mono ?_
 rintro e' w2 ⟨J,n⟩;have o:=Qa (U.out.trans (n.mono U.out.size));have H2:=Qa (H.out.below n);have K:=Qa (fun k j=>Zl (HA.out k j) n.size);have F:=Qa (fun k j=>Zl (W.out k j) n.size);rcases J with ⟨a,y2,rfl,V⟩|⟨a,rfl⟩
 rotate_left
 ·exact⟨Z,Zc.bad ((fun a=>by rw[N.out,Qx a]) a) a (Yh S.out o.out)⟩
 have y:=Qa a;have x2:=Qp x2 n;have x3:=Qp x3 n;clear a n C1;have C2:=Qa (fun d=>QeU p l HI.out.2.1 HI.out.2.2 d R F.out H2.out);go_wp2_with fail
 refine(C2.out _).mono ?_
 rintro e' w3 ⟨J,r⟩;have E:=Qa (o.out.trans (r.mono o.out.size));have H3:=Qa (H2.out.below r);have ad:=Qa (fun k j=>Zl (K.out k j) r.size);have ab:=Qa (fun k j=>Zl (F.out k j) r.size);rcases J with ⟨a,y3,rfl,V⟩|⟨a,rfl⟩
 rotate_left
 ·exact⟨Z,Zc.bad ((fun a=>by rw[N.out,QH y.out]) a) a (Yh S.out E.out)⟩
 subst V;have P:=Qa a;clear a r C2;have FF:Hid (Zc w b O A s (s.next ⟨10,i,p,l,u,G,t,q⟩) (s.goC ⟨10,i,p,l,u,G,t,q⟩) (.returned (.tuple #[])) w3):=Zc.none S.out E.out (by rw[N.out,QH y.out,P.out]) (by rw[Zo (by simp) (by simp),HE.out];simp);go_wp2
 exact Xz (v:=.tuple #[]) (by simp[results,results35,go_sem]) Z FF.out
theorem Qko {s:JSt}{x:QC}{D:Option Addr}(hA:∀ k,A k->k<w.heap.size) (J:JOk s) (h:SAt w b O A s) (a:intsL.In w Q x.regs [.slice D x.regs.length rc]) (c:intsL.In w Q x.args [.slice ag x.args.length ac]) (t:x.regs.length<=rc) (q:ZZ x) (P:x.form s.m.length=0) (f:x.op=11) :
 Calls prog 35 #[.pointer (some ⟨b,0,none⟩),Qa9 x D ag rc ac] w fun e w'=>Zc w b O A s (s.next x) (s.goC x) e w':=by
 have R:=Qci (s:=s) f;obtain⟨op,d,p,l,j,o,i,g⟩:=x
 have f:op=11:=f;subst f;have HE:=Qa R;obtain⟨W,K,f3,-⟩:=Zk P
 have HF:=Qa (Xh W (Xh K f3));obtain⟨T,rb,u⟩:=q
 have HI:=Qa (Xh T (Xh rb u));have hL:=J.vals;have B:=Qa (QgF hA J h a c t #[.int .i64 11,.int .i64 d,.int .i64 p,.int .i64 l,.int .i64 j,.int .i64 o,.slice D i.length rc,.slice ag g.length ac]);clear h hA J a c R P W K f3 T rb u t;go_enter func35,ntmps35
 go_upto_region 1 with fail
 generalize w.alloc (.cells #[.int .i64 11,.int .i64 d,.int .i64 p,.int .i64 l,.int .i64 j,.int .i64 o,.slice D i.length rc,.slice ag g.length ac] 46)=w1 at B |-;generalize w.heap.size=X at B |-;obtain⟨HJ,H0,ad,H,HR,HG,M,HA,N,X1,aa⟩:=B.out
 clear B;obtain⟨x0,x1,x2,x3,x4,-,x6,x7⟩:=Zq X1.out
 have U:Hid (s.goC ⟨11,d,p,l,j,o,i,g⟩=code2 (s.want d 4 true) (Zu s.L.length 1)):=by show _=_;unfold JSt.goC;rw[HE.out];rfl
 have S:=Qa (Qar d 4 hL N.out H.out);go_wp2_with fail
 refine(S.out ).mono ?_
 rintro V w2 ⟨hq,z⟩;have y:=Qa (M.out.trans (z.mono M.out.size));have H2:=Qa (H.out.below z);have G:=Qa (fun k I=>Zl (HA.out k I) z.size);have ab:=Qa (fun k I=>Zl (N.out k I) z.size);rcases hq with ⟨n,y2,rfl,hy⟩|⟨n,rfl⟩
 rotate_left
 ·exact⟨Z,Zc.bad ((fun n=>by rw[U.out,Qx n]) n) n (Yh H0.out y.out)⟩
 have F:=Qa n;clear n z S;have E:Hid (∀ e r,Zc w b O A s { s with L:=s.L++[tInt] } (Zu s.L.length 1) e r->Zc w b O A s (s.next ⟨11,d,p,l,j,o,i,g⟩) (s.goC ⟨11,d,p,l,j,o,i,g⟩) e r):=fun e r C=>C.to (by rw[U.out,QH F.out]) (fun _=>by rw[Zo (by simp) (by simp),HE.out]);have CM:=Qa (Qcd hL G.out H2.out);go_wp2_with fail
 refine CM.out.mono ?_;rintro V r C;have FF:Hid (Zc w b O A s (s.next ⟨11,d,p,l,j,o,i,g⟩) (s.goC ⟨11,d,p,l,j,o,i,g⟩) V r):=E.out _ _ (C.after y.out);rcases C with ⟨h1,rfl,h3⟩|⟨h1,rfl,h3⟩
 rotate_left
 ·exact⟨Z,FF.out⟩
 clear h1 h3 CM;go_wp2
 exact Xz (v:=.tuple #[]) (by simp[results,results35,go_sem]) Z FF.out
theorem QkG {s:JSt}{x:QC}{C:Option Addr}(W:∀ k,A k->k<w.heap.size) (F:JOk s) (h:SAt w b O A s) (a:intsL.In w Q x.regs [.slice C x.regs.length rc]) (c:intsL.In w Q x.args [.slice ag x.args.length ac]) (q:x.regs.length<=rc) (o:ZZ x) (K:x.form s.m.length=0) (f:x.op=13) :
 Calls prog 35 #[.pointer (some ⟨b,0,none⟩),Qa9 x C ag rc ac] w fun e w'=>Zc w b O A s (s.next x) (s.goC x) e w':=by
 have M:=Qcc (s:=s) f;obtain⟨op,g,z,p,n,u,l,j⟩:=x
 have f:op=13:=f;subst f;have T:=Qa M;obtain⟨S,G,V,-⟩:=Zk K
 have HF:=Qa (Xh S (Xh G V));obtain⟨R,U,r⟩:=o
 have HI:=Qa (Xh R (Xh U r));have hL:=F.vals;have B:=Qa (QgF W F h a c q #[.int .i64 13,.int .i64 g,.int .i64 z,.int .i64 p,.int .i64 n,.int .i64 u,.slice C l.length rc,.slice ag j.length ac]);clear h W F a c M K S G V R U r q;go_enter func35,ntmps35
 go_upto_region 1 with fail
 generalize w.alloc (.cells #[.int .i64 13,.int .i64 g,.int .i64 z,.int .i64 p,.int .i64 n,.int .i64 u,.slice C l.length rc,.slice ag j.length ac] 46)=w1 at B |-;generalize w.heap.size=X at B |-;obtain⟨HJ,H0,ae,H,HR,HG,I,HA,J,X1,aa⟩:=B.out
 clear B;obtain⟨x0,x1,x2,x3,x4,-,x6,x7⟩:=Zq X1.out
 have P:Hid (s.goC ⟨13,g,z,p,n,u,l,j⟩=s.want g 1 false):=by show _=_;unfold JSt.goC;rw[T.out];show code2 _ (Zu s.L.length 0)=_;rw[Qca hL,QfZ]
 have N:=Qa (fun d=>Qcg g HI.out.1 d hL J.out H.out);go_wp2_with fail
 refine(N.out _).mono ?_
 rintro e' w2 ⟨hq,y⟩;have t:=Qa (I.out.trans (y.mono I.out.size));have H2:=Qa (H.out.below y);have ab:=Qa (fun k E=>Zl (HA.out k E) y.size);have ad:=Qa (fun k E=>Zl (J.out k E) y.size);rcases hq with ⟨i,y2,rfl,hy⟩|⟨i,rfl⟩
 rotate_left
 ·exact⟨Z,Zc.bad ((fun i=>by rw[P.out]) i) i (Yh H0.out t.out)⟩
 subst hy;have D:=Qa i;clear i y N;have FF:Hid (Zc w b O A s (s.next ⟨13,g,z,p,n,u,l,j⟩) (s.goC ⟨13,g,z,p,n,u,l,j⟩) (.returned (.tuple #[])) w2):=Zc.none H0.out t.out (by rw[P.out,D.out]) (by rw[Zo (by simp) (by simp),T.out];simp);go_wp2
 exact Xz (v:=.tuple #[]) (by simp[results,results35,go_sem]) Z FF.out
def JSt.fieldC (s:JSt) (a:Int) (k:Nat):Int:=code2 (s.want a 3 true) (match s.at a with | none=>0 | some t=>if k<t.2.2.length then 0 else 9)
def QlC (w:World) (A:Nat->Prop) (s:JSt) (a:Int) (k:Nat) (x:Value):Prop:=∃ (t:TT 6) (u:TT 5) (p:Option Addr) (c:Nat),s.at a=some t/\t.2.2[k]?=some u/\x=Tv u p c/\TIn w (fun g=>¬ A g) u p
theorem QdE {s:JSt}{a:Int}(h:s.want a 3 true≠0):s.fieldC a k=s.want a 3 true:=by unfold JSt.fieldC code2;rw[Xr h]
theorem Qh7 {s:JSt}{a:Int}{t:TT 6}(h:s.want a 3 true=0) (b:s.at a=some t):s.fieldC a k=if k<t.2.2.length then 0 else 9:=by unfold JSt.fieldC code2;rw[Xs h,b]
theorem Qd7 {s:JSt}(a:Int) (k:Nat) (U:k<=100) (hL:s.L.length<=80) (C:∀ k,O k->k<w.heap.size) (h:SAt w b O A s) :
 Calls prog 71 #[.pointer (some ⟨b,0,none⟩),.int .i64 a,.int .i64 k] w fun e w'=>Qac (s.fieldC a k) (QlC w' A s a k) e/\Below w.heap.size w w':=by
 have I:=QU w (.cells #[.int .i64 0,.int .i64 0,.slice none 0 0] 70);have J:=Qa (h.more C I);have z:=Qa I;have G:Hid (Blk (w.alloc (.cells #[.int .i64 0,.int .i64 0,.slice none 0 0] 70)) w.heap.size #[.int .i64 0,.int .i64 0,.slice none 0 0] 70):=Blk.new _ _ _;have HO:=Qa C;clear h I C;go_enter func71,ntmps71
 go_upto_region 1 with fail
 generalize w.alloc (.cells #[.int .i64 0,.int .i64 0,.slice none 0 0] 70)=w1 at J z G |-;obtain⟨R,T⟩:∃ R,w.heap.size=R:=⟨_,Z⟩
 have HR:=Qa (Nat.le_of_eq T);rw[T] at G |-
 clear T;go_wp2_with fail
 refine(Qar a 3 hL (fun k hk=>Zl (HO.out k hk) z.out.size) J.out).mono ?_
 rintro e' S ⟨C,P⟩;have B2:Hid (Below w.heap.size w S):=z.out.trans (P.mono z.out.size);have X2:=Qa (G.out.below P);rcases C with ⟨m,x,rfl,t,p,c,V,rfl,ht,N⟩|⟨m,rfl⟩
 rotate_left
 ·exact⟨Z,.inr ⟨by rw[QdE m];exact m,by rw[QdE m]⟩,B2.out⟩
 have f:=Qa (Qhs.mk1 (c:=c) B2.out X2.out HR.out ht);have HA:=Qa V;have E:=Qa (Qh7 (k:=k) m V);clear ht V N P G z J X2 m;go_upto_region 2 with fail
 generalize S.alloc (.cells #[.int .i64 t.kind,.int .i64 t.r,.slice p t.len c] 70)=w3 at f |-;generalize S.heap.size=B at f |-;obtain⟨y0,y1,y2,r0,r1,r2,z0,z1,z2⟩:=f.out.cells
 have ad:=f.out.ne;have n:Hid (t.len=t.2.2.length):=TT.len_eq t;by_cases i:k<t.2.2.length
 rotate_left
 ·have W:Hid (s.fieldC a k=9):=by show _=_;rw[E.out,Xr i]
  have j:¬ (k:Int)<t.len:=by rw[n.out];omega
  clear i;generalize t.len=tl at y2 j;go_wp2_with fail
  refine(ZA _ 9).mono ?_
  rintro e' w' ⟨rfl,D⟩;subst D;exact⟨Z,Qac.bad W.out (by decide),f.out.bel⟩
 ·have W:Hid (s.fieldC a k=0):=by show _=_;rw[E.out,Xs i]
  have j:(k:Int)<t.len:=by rw[n.out];omega
  have K:Hid (t.2.2[k]?=some t.2.2[k]):=Zg i;generalize t.2.2[k]=u at K;obtain⟨g,o,y,F,rfl,Q,u0,u1,u2,X⟩:=f.out.lay k u K.out
  have UT:Hid (TIn w3 (fun g=>¬ (A g\/w.heap.size<=g)) u y):=X;have aa:¬ R=g:=fun e=>by subst e;exact Q (.inr f.out.farR)
  have ac:¬ B=g:=fun e=>by subst e;exact Q (.inr f.out.farB)
  clear X i Q;obtain⟨x9,b9⟩:=QlD (k:=u.kind) (r:=u.r) (q:=y) (l:=u.len) (d:=F) f.out.bel f.out.res f.out.farR
  have H:=Qa x9;have M:=Qa b9;clear x9 b9;generalize ab:t.len=tl at y2 j;go_wp2_with (go_at_call 110;refine(ZB _ _).mono ?_;rintro e' w' ⟨rfl,D⟩;have D:=D.symm;subst D)
  generalize ((w3.setCell ⟨R,0,none⟩ (.int .i64 u.kind)).setCell ⟨R,1,none⟩ (.int .i64 u.r)).setCell ⟨R,2,none⟩ (.slice y u.len F)=w9 at H M |-;have x0:=Qb H.out 0 _ Z;have x1:=Qb H.out 1 _ Z;have x2:=Qb H.out 2 _ Z;exact Xy (v:=Tv u y F) (by simp[results,results71,go_sem,x0,x1,x2]) Z ⟨Qac.good W.out ⟨t,u,y,F,HA.out,K.out,Z,(UT.out.over f.out.bel M.out).less⟩,M.out⟩
theorem Qhn (x:Int) (t:l.length=N) (E:N<=100000) (u:intsL.In w Q l [.slice p N c]) :
 Calls prog 152 #[.slice p N c,.int .i64 x] w fun e w'=>(∃ i:Int,e=.returned (.int .i64 i)/\(0<=i↔x∈l))/\w'=w:=by
 have D:=Qa u;have z:=Qa t;clear u t;go_enter func152,ntmps152
 go_wp2
 go_loop [8] (fun i=>∃ k:Nat,k<=N/\i=.int .i64 k/\∀ (j:Nat) (y:Int),j<k->l[j]?=some y->x≠y) (fun i=>N - (intOf i).toNat)
 case atStart=>exact⟨0,Xb _,Z,fun j y s=>by omega⟩
 case round =>
  obtain⟨k,G,rfl,v⟩:=hrel
  have A:=Qa v;clear v;by_cases m:k<N
  ·have f:(k:Int)<N:=by omega
   have b:k<l.length:=by rw[z.out];exact m
   obtain⟨g,o,rfl,-,H,r⟩:=ZK D.out b
   obtain⟨y,d⟩:∃ y,l[k]?=some y:=⟨_,Zg b⟩
   rw[show l.getD k 0=y by rw[List.getD_eq_getElem?_getD,d];rfl] at r
   have B:=Qa d;clear d b;by_cases a:x=y
   ·have n:(x==y)=true:=by simpa using a
    have C:Hid (x∈l):=by show _;rw[a];exact Zm B.out
    clear a;go_wp2
    go_ret;exact⟨⟨k,Z,by simp[C.out]⟩,Z⟩
   ·have n:(x==y)=false:=by simpa using a
    have q:=Qa a;clear a;go_wp2
    go_round
    case rel =>
     refine⟨k+1,m,by go_num,fun j F s d=>?_⟩
     rcases Nat.lt_or_ge j k with h | h
     ·exact A.out j F h d
     ·have:j=k:=by omega
      subst this;have e:=B.out.symm.trans d;injection e with e
      subst e;exact q.out
    case measure=>simp[intOf];omega
  ·have f:¬ (k:Int)<N:=by omega
   go_wp2
   go_ret;refine⟨⟨-1,Z,by omega,fun hm=>?_⟩,Z⟩
   obtain⟨j,s,e⟩:=List.mem_iff_getElem.1 hm
   exact absurd e.symm (A.out j _ (by have:=z.out;omega) (Zg s))
theorem Qer (x:Int) (f:l.length=N) (b:N<=100000) (g:intsL.In w Q l [.slice p N c]) :
 Calls prog 142 #[.slice p N c,.int .i64 x] w fun e w'=>e=.returned (.bool (inB l x))/\w'=w:=by
 have C:=Qa (Qhn x f b g);clear g f;go_enter func142,ntmps142
 go_wp2_with fail
 refine C.out.mono ?_;rintro e w' ⟨⟨i,rfl,d⟩,a⟩;have a:=a.symm;subst a
 have E:Hid (inB l x=decide (i>=0)):=by
  show _=_;rw[Bool.eq_iff_iff,inB_iff]
  simp[d]
 clear C d;go_wp2
 go_ret;exact⟨by rw[E.out];rfl,Z⟩
theorem QfQ (H:List Bool) (l:List Int)(a:l[k]?=some x):QF H (l.take k) (l.drop k)=if hHas H x then (if inB (l.take k) x then 13 else QF H (l.take (k+1)) (l.drop (k+1))) else 10:=by
 obtain⟨b,e⟩:=Zi a
 rw[List.drop_eq_getElem_cons b,e,QF,XV,a]
 rfl
def Qcm (H:List Bool) (l:List Int) (asked:Int):Int:=if (l.length:Int)=asked then QF H [] l else 2
theorem Qem {s:JSt}(d:Int) (J:l.length=N) (U:N<=100000) (V:N<=c) (K:intsL.In w Q l [.slice p N c]) (h:SAt w b O A s) :
 Calls prog 116 #[.pointer (some ⟨b,0,none⟩),.slice p N c,.int .i64 d] w fun e w'=>Qac (Qcm s.H l d) VNone e/\w'=w:=by
 have L:=Qa K;have z:=Qa J;obtain⟨pm,cm,hh,a1,c1,W,c2,a3,c3,aL,X,B⟩:=h.read
 obtain⟨-,q1,-⟩:=B.cells
 have T:=Qa B.held;clear h K J B;by_cases j:(N:Int)=d
 rotate_left
 ·have r:((N:Int)==d)=false:=by simpa using j
  have E:Hid (Qcm s.H l d=2):=by show _=_;unfold Qcm;rw[z.out,Xr j]
  go_enter func116,ntmps116
  go_wp2_with fail
  refine(ZA _ 2).mono ?_
  rintro n w' ⟨rfl,a⟩;subst a;exact⟨Z,Qac.bad E.out (by decide),Z⟩
 subst j;have r:((N:Int)==(N:Int))=true:=by simp
 have E:Hid (Qcm s.H l N=QF s.H [] l):=by show _=_;unfold Qcm;rw[z.out,Xs Z]
 go_enter func116,ntmps116
 go_wp2_with (go_at_call 110;refine(ZB _ _).mono ?_;rintro n w' ⟨rfl,a⟩;have a:=a.symm;subst a)
 go_loop [15] (fun i=>∃ k:Nat,k<=N/\i=.int .i64 k/\QF s.H [] l=QF s.H (l.take k) (l.drop k)) (fun i=>N - (intOf i).toNat)
 case atStart=>exact⟨0,Xb _,Z,Z⟩
 case round =>
  obtain⟨k,hk,rfl,M⟩:=hrel
  have P:=Qa M;clear M;by_cases u:k<N
  ·have t:(k:Int)<N:=by omega
   have S:k<=c:=by omega
   have f:k<l.length:=by rw[z.out];exact u
   obtain⟨g,o,rfl,-,hg,G⟩:=ZK L.out f
   obtain⟨y,x⟩:∃ y,l[k]?=some y:=⟨_,Zg f⟩
   rw[show l.getD k 0=y by rw[List.getD_eq_getElem?_getD,x];rfl] at G
   have I:=Qa (P.out.trans (QfQ s.H l x));have C:=Qa (QcS y T.out)
   cases hq:hHas s.H y with
   | false =>
     rw[hq] at C
     have m:Hid (Qcm s.H l N=10):=by show _=_;rw[E.out,I.out,hq];rfl
     clear x f hq;go_wp2_with (go_at_call 115;refine(C.out).mono ?_;rintro e w' ⟨rfl,a⟩;have a:=a.symm;subst a)
     refine(ZA _ 10).mono ?_
     rintro n w' ⟨rfl,a⟩;subst a;exact⟨Z,Qac.bad m.out (by decide),Z⟩
   | true =>
     rw[hq] at C
     have D:Hid (∀ F,Calls prog 142 #[.slice (some ⟨g,o,none⟩) k F,.int .i64 y] w fun e w'=>e=.returned (.bool (inB (l.take k) y))/\w'=w):=fun F=>Qer y (by rw[List.length_take];omega) (by omega) (Qc8 L.out (Nat.le_of_lt f) F);have q:Hid (QF s.H [] l=if inB (l.take k) y then 13 else QF s.H (l.take (k+1)) (l.drop (k+1))):=by show _=_;rw[I.out,hq];rfl
     clear x f hq I
     cases hi:inB (l.take k) y with
     | true =>
       rw[hi] at D
       have m:Hid (Qcm s.H l N=13):=by show _=_;rw[E.out,q.out,hi];rfl
       clear hi;go_wp2_with (go_at_call 115;refine(C.out).mono ?_;rintro e w' ⟨rfl,a⟩;have a:=a.symm;subst a)
       refine(ZB _ _).mono ?_
       rintro n w' ⟨rfl,a⟩;have a:=a.symm;subst a;go_wp2_with (go_at_call 142;refine(D.out _).mono ?_;rintro e w' ⟨rfl,a⟩;have a:=a.symm;subst a)
       refine(ZA _ 13).mono ?_
       rintro n w' ⟨rfl,a⟩;subst a;exact⟨Z,Qac.bad m.out (by decide),Z⟩
     | false =>
       rw[hi] at D
       have m:Hid (QF s.H [] l=QF s.H (l.take (k+1)) (l.drop (k+1))):=by show _=_;rw[q.out,hi];rfl
       clear hi;go_wp2_with (go_at_call 115;refine(C.out).mono ?_;rintro e w' ⟨rfl,a⟩;have a:=a.symm;subst a)
       refine(ZB _ _).mono ?_
       rintro n w' ⟨rfl,a⟩;have a:=a.symm;subst a;go_wp2_with (go_at_call 142;refine(D.out _).mono ?_;rintro e w' ⟨rfl,a⟩;have a:=a.symm;subst a)
       refine(ZB _ _).mono ?_
       rintro n w' ⟨rfl,a⟩;have a:=a.symm;subst a;go_wp2
       go_round
       case rel=>exact⟨k+1,u,by go_num,m.out⟩
       case measure=>simp[intOf];omega
  ·have t:¬ (k:Int)<N:=by omega
   have R:k=N:=by omega
   have m:Hid (Qcm s.H l N=0):=by
    show _=_;rw[E.out,P.out,List.drop_of_length_le (by rw[z.out];omega)]
    rfl
   go_wp2
   exact Xz (v:=.tuple #[]) (by simp[results,results116,go_sem]) Z ⟨Qac.good m.out Z,Z⟩
noncomputable def JSt.handC (s:JSt) (l:List Int) (ts:List (TT 6)):Int:=if l.length=ts.length then QE (fun p:Int × TT 6=>s.beC p.1 p.2) (l.zip ts) else 2
theorem QaX {R:Nat->Prop}{s:JSt}{a:List (TT 6)}{X:Option Addr}{M:Nat}(hN:l.length=N) (ab:N<=100000) (hM:a.length=M) (aa:M<=100000) (hl:intsL.In w Q l [.slice p N c]) (ht:LIn w R a X)
 (hL:s.L.length<=80) (n:∀ x∈s.L,x.count<=100000) (S:∀ k,O k->k<w.heap.size) (h:SAt w b O A s) :
 Calls prog 92 #[.pointer (some ⟨b,0,none⟩),.slice p N c,.slice X M d] w fun e w'=>Qac (s.handC l a) VNone e/\Below w.heap.size w w':=by
 have H:=Qa h;have HO:=Qa S;have HL:=Qa hl;have HT:=Qa ht;have P:=Qa hN;have K:=Qa hM;have HC:=Qa n;clear h S hl hN ht hM n;by_cases D:N=M
 rotate_left
 ·have C:((N:Int)==(M:Int))=false:=by simp;omega
  have E:Hid (s.handC l a=2):=by show _=_;unfold JSt.handC;rw[P.out,K.out,Xr D]
  go_enter func92,ntmps92
  go_wp2_with fail
  refine(ZA _ 2).mono ?_
  rintro e' w' ⟨rfl,J⟩;subst J;exact⟨Z,Qac.bad E.out (by decide),Zr⟩
 subst D;have C:((N:Int)==(N:Int))=true:=by simp
 have E:Hid (s.handC l a=QE (fun p:Int × TT 6=>s.beC p.1 p.2) (l.zip a)):=by show _=_;unfold JSt.handC;rw[P.out,K.out,Xs Z]
 go_enter func92,ntmps92
 go_wp2_with (go_at_call 110;refine(ZB _ _).mono ?_;rintro e' w' ⟨rfl,J⟩;have J:=J.symm;subst J)
 go_loopw [16] (fun i wr=>∃ k:Nat,k<=N/\i=.int .i64 k/\Below w.heap.size w wr/\∀ (j:Nat) (y:Int × TT 6),j<k->(l.zip a)[j]?=some y->s.beC y.1 y.2=0) (fun i _=>N - (intOf i).toNat)
 case atStart=>exact⟨0,Xb _,Z,Zr,fun j y hj=>by omega⟩
 case round =>
  obtain⟨k,hk,rfl,W,hz⟩:=hrel
  have f:=Qa W;have T:=Qa hz;clear W hz;by_cases B:k<N
  ·have G:(k:Int)<N:=by omega
   have u:k<l.length:=by rw[P.out];exact B
   have I:k<a.length:=by rw[K.out];exact B
   obtain⟨g,o,rfl,-,hg,r⟩:=ZK HL.out u
   obtain⟨y,m⟩:∃ y,l[k]?=some y:=⟨_,Zg u⟩
   obtain⟨t,z⟩:∃ t,a[k]?=some t:=⟨_,Zg I⟩
   rw[show l.getD k 0=y by rw[List.getD_eq_getElem?_getD,m];rfl] at r
   obtain⟨g2,o2,p2,c2,rfl,-,V,d1,d2,q⟩:=HT.out.at z
   have HX:Hid ((l.zip a)[k]?=some (y,t)):=by show _=_;rw[List.getElem?_zip_eq_some];exact⟨m,z⟩
   have y0:=Qp r f.out;have z0:=Qp V f.out;have z1:=Qp d1 f.out;have z2:=Qp d2 f.out;have HK:=Qa (q.below f.out);clear r u I V d1 d2 m z q;go_wp2_with fail
   refine(Qdv y HK.out hL HC.out (fun k hk=>Zl (HO.out k hk) f.out.size) (H.out.below f.out)).mono ?_
   rintro e' w2 ⟨S,b2⟩;have B2:Hid (Below w.heap.size w w2):=f.out.trans (b2.mono f.out.size);rcases S with ⟨F,x,rfl,-⟩|⟨F,rfl⟩
   rotate_left
   ·have e9:s.handC l a=s.beC y t:=by rw[E.out,QaP HX.out T.out F]
    exact⟨Z,.inr ⟨by rw[e9];exact F,by rw[e9]⟩,B2.out⟩
   have U:=Qa F;clear F b2 y0 z0 z1 z2;go_wp2
   go_roundw
   case rel =>
    refine⟨k+1,B,by go_num,B2.out,fun j y' hj m=>?_⟩
    rcases Nat.lt_or_ge j k with h | h
    ·exact T.out j y' h m
    ·have:j=k:=by omega
     subst this;have e:=HX.out.symm.trans m;injection e with e
     subst e;exact U.out
   case measure=>simp[intOf];omega
  ·have G:¬ (k:Int)<N:=by omega
   go_wp2
   exact Xz (v:=.tuple #[]) (by simp[results,results92,go_sem]) Z ⟨Qac.good (by rw[E.out];exact Qav (fun j y m=>T.out j y (by have:=(Zi m).1;rw[List.length_zip,P.out,K.out] at this;omega) m)) Z,f.out⟩
theorem Qiw (b:l.length=N) (a:intsL.In w Q l [.slice p N c]):Qhp w p N (fun i=>l.getD i 0):=fun i d=>by
 obtain⟨g,o,e,-,-,h⟩:=ZK a (show i<l.length by omega)
 exact⟨g,o,e,h⟩
theorem QjN {t:TT 6}{e:Ending}(h:QcH w w' (t.ren regs.length (fun i=>regs.getD i 0)) e):∃ a c q,e=.returned (.tuple #[Tv (Qal regs t) a c,.bool q])/\TIn w' (ZJ w.heap.size) (Qal regs t) a/\Below w.heap.size w w':=by
 unfold Qal
 cases hr:t.ren regs.length (fun i=>regs.getD i 0) with
 | none =>
   rw[hr] at h
   obtain⟨rfl,b⟩:=h
   exact⟨none,0,false,Z,fun i x d=>by simp[zeroTT] at d,b⟩
 | some u =>
   rw[hr] at h
   obtain⟨a,c,rfl,f,g⟩:=h
   exact⟨a,c,true,Z,f,g⟩
theorem Qbn {R:Nat->Prop}{a:List (TT 6)}{T:Option Addr}{M:Nat}(E:regs.length=N) (hM:a.length=M) (ab:M<=1000) (hl:intsL.In w Q regs [.slice p N c]) (V:LIn w R a T) (j:∀ x∈a,x.count<=2000) :
 Calls prog 117 #[.slice T M d,.slice p N c] w fun e w'=>∃ g,e=.returned (.slice (some ⟨g,0,none⟩) M M)/\w.heap.size<=g/\QcQ w' g M (a.map (Qal regs))/\Below w.heap.size w w':=by
 have O:=Qa hM;have HI:=Qa (Qiw E hl);have HT:=Qa V;have HC:=Qa j;have HN:=Qa E;have F:=QhS w M (by omega);have H:Hid (Below w.heap.size w (w.alloc (.cells (madeCells #[.int .i64 0,.int .i64 0,.slice none 0 0] (M*3)) 70))):=QU _ _;have z:Hid (QcQ (w.alloc (.cells (madeCells #[.int .i64 0,.int .i64 0,.slice none 0 0] (M*3)) 70)) w.heap.size M ([]:List (TT 6))):=⟨_,Qm w _ _,size_madeCells _ _,fun i x hx=>by simp at hx⟩;clear hM hl V j E;go_enter func117,ntmps117
 go_wp2
 generalize w.alloc (.cells (madeCells #[.int .i64 0,.int .i64 0,.slice none 0 0] (M*3)) 70)=w1 at H z |-;obtain⟨G,A⟩:∃ G,G=w.heap.size:=⟨_,Z⟩
 rw[<-A] at z |-
 have B:=Qa (Nat.le_of_eq A.symm);have HE:=Qa A;clear F A;go_loopw [13] (fun i wr=>∃ q:Nat,q<=M/\i=.int .i64 q/\QcQ wr G M ((a.take q).map (Qal regs))/\Below w.heap.size w wr) (fun i _=>M - (intOf i).toNat)
 case atStart=>exact⟨0,Xb _,Z,z.out,H.out⟩
 case round =>
  clear z H;obtain⟨q,hq,rfl,X,S⟩:=hrel
  have f:=Qa S;have Y:=Qa X;clear S X;by_cases s:q<M
  ·have ac:(q:Int)<M:=by omega
   have y:q<a.length:=by rw[O.out];exact s
   obtain⟨t,b⟩:∃ t,a[q]?=some t:=⟨_,Zg y⟩
   obtain⟨g2,o2,J,K,rfl,-,P,d1,d2,l⟩:=HT.out.at b
   have U:=Qp P f.out;have z1:=Qp d1 f.out;have z2:=Qp d2 f.out
   have C:Hid (∀ n,Below wr.heap.size wr n->Calls prog 143 #[Tv t J K,.slice p N c] n fun e w'=>∃ a' c' qb,e=.returned (.tuple #[Tv (Qal regs t) a' c',.bool qb])/\TIn w' (ZJ n.heap.size) (Qal regs t) a'/\Below n.heap.size n w'):=fun n hb=>by
    have u:=f.out.trans (hb.mono f.out.size)
    have:=rename_any 6 t J K p N c (fun i=>regs.getD i 0) n (l.below u).all (HC.out t (Zm b)) (HI.out.below u)
    refine this.mono (fun e w' h=>?_);rw[<-HN.out] at h
    exact QjN h
   have HS:Hid ((a.take (q+1)).map (Qal regs)=(a.take q).map (Qal regs)++[Qal regs t]):=by show _=_;rw[XV,b,List.map_append];rfl
   have v:Hid (((a.take q).map (Qal regs)).length=q):=by show _=_;rw[XN,List.length_take];omega
   clear P d1 d2 l b y;simp only[Tv] at C
   generalize t.kind=tk at U C;generalize t.r=tr at z1 C;generalize t.len=tl at z2 C;have ad:q*3+2<M*3:=by omega
   go_wp2_with fail
   have o:Below wr.heap.size wr (wr.alloc (.cells #[.int .i64 tk,.int .i64 tr,.slice J tl K] 70)):=(Below.refl _ wr).alloc Ze _;refine(C.out _ o).mono ?_
   rintro e I ⟨a4,c4,qb,rfl,L,D⟩;have m:=Y.out.below (o.trans (D.mono o.size));have B4:Hid (Below w.heap.size w I):=f.out.trans ((o.trans (D.mono o.size)).mono f.out.size);obtain⟨v0,r0⟩:=m.has (q*3) (by omega)
   obtain⟨v1,r1⟩:=m.has (q*3+1) (by omega)
   obtain⟨v2,r2⟩:=m.has (q*3+2) (by omega)
   have f0:=m.frozen (q*3);have f1:=m.frozen (q*3+1);have f2:=m.frozen (q*3+2);have W:TIn I (ZJ (G+1)) (Qal regs t) a4:=L.mono (fun k hk _=>by have:=Y.out.lt;have:wr.heap.size<=k:=Zt o.size hk;omega);have Z5:=Qa (m.set (c:=c4) v.out s W);have Z6:Hid (Below w.heap.size w (((I.setCell ⟨G,q*3,none⟩ (.int .i64 (Qal regs t).kind)).setCell ⟨G,q*3+1,none⟩ (.int .i64 (Qal regs t).r)).setCell ⟨G,q*3+2,none⟩ (.slice a4 (Qal regs t).len c4))):=((B4.out.setCell (p:=⟨G,q*3,none⟩) B.out _).setCell (p:=⟨G,q*3+1,none⟩) B.out _).setCell (p:=⟨G,q*3+2,none⟩) B.out _;clear m W L D o C U z1 z2;simp only[Tv] at Z5 Z6 |-
   go_wp2
   go_roundw
   case rel=>exact⟨q+1,s,by go_num,by rw[HS.out];exact Z5.out,Z6.out⟩
   case measure=>simp[intOf];omega
  ·have aa:¬ (q:Int)<M:=by omega
   have e:a.take q=a:=XO (by rw[O.out];omega);rw[e] at Y
   go_wp2
   go_ret;exact⟨G,Z,B.out,Y.out,f.out⟩
theorem Xl:type_of% @Below.andThen:=@Below.andThen
structure Wd (w0 w:World) (Bs:List (Nat × Array Value × TypeId)):Prop where
 bel:Below w0.heap.size w0 w
 blk:∀ (i:Nat) x,Bs[i]?=some x->Blk w x.1 x.2.1 x.2.2
 new:∀ (i:Nat) x,Bs[i]?=some x->w0.heap.size<=x.1
 nd:∀ (i j:Nat) x y,Bs[i]?=some x->Bs[j]?=some y->x.1=y.1->i=j
section
variable {w0 w w':World}{Bs:List (Nat × Array Value × TypeId)}
theorem Wd.start (w:World):Wd w w []:=⟨Zr,fun i x h=>by simp at h,fun i x h=>by simp at h,fun i j x y h=>by simp at h⟩
theorem Ye:type_of% @Wd.start:=@Wd.start
theorem Wd.below (h:Wd w0 w Bs) (b:Below w.heap.size w w'):Wd w0 w' Bs:=⟨Xl h.bel b,fun i x a=>(h.blk i x a).below b,h.new,h.nd⟩
theorem Wd.get (h:Wd w0 w Bs) (i:Nat){c:Array Value}(a:Bs[i]?=some (B,c,t)):Blk w B c t:=h.blk i _ a
theorem Wd.new' (h:Wd w0 w Bs) (c:Array Value) (t:TypeId):Wd w0 (w.alloc (.cells c t)) ((w.heap.size,c,t)::Bs):=by
 refine⟨Xl h.bel (QU w _),fun i x a=>?_,fun i x a=>?_,fun i j x y a b e=>?_⟩
 ·cases i with
  | zero=>simp at a;subst a;exact Blk.new w c t
  | succ i=>exact(h.blk i x (by simpa using a)).alloc _
 ·cases i with
  | zero=>simp at a;subst a;exact h.bel.size
  | succ i=>exact h.new i x (by simpa using a)
 ·cases i with
  | zero =>
    cases j with
    | zero=>rfl
    | succ j =>
      simp at a b;subst a
      have:=(h.blk j y b).lt
      simp at e;omega
  | succ i =>
    cases j with
    | zero =>
      simp at a b;subst b
      have:=(h.blk i x a).lt
      simp at e;omega
    | succ j=>rw[h.nd i j x y (by simpa using a) (by simpa using b) e]
theorem Wd.tail {x:Nat × Array Value × TypeId}(h:Wd w0 w (x::Bs)):Wd w0 w Bs :=
 ⟨h.bel,fun i y a=>h.blk (i+1) y (by simpa using a),fun i y a=>h.new (i+1) y (by simpa using a),fun i j y z a b e=>by have:=h.nd (i+1) (j+1) y z (by simpa using a) (by simpa using b) e;omega⟩
theorem Wd.set (h:Wd w0 w Bs) (i:Nat){c c':Array Value}{q:List (Nat × Array Value × TypeId)}(m:Bs[i]?=some (B,c,t)) (j:Nat) (v:Value)
 (z:c.setIfInBounds j v=c') (A:Bs.set i (B,c',t)=q):Wd w0 (w.setCell ⟨B,j,none⟩ v) q:=by
 subst A;subst z
 have n:∀ (k:Nat) x,(Bs.set i (B,c.setIfInBounds j v,t))[k]?=some x->(k=i/\x=(B,c.setIfInBounds j v,t))\/(k≠i/\Bs[k]?=some x):=by
  intro k x a;rw[List.getElem?_set] at a
  split at a
  ·rename_i e
   subst e;have r:i<Bs.length:=(Zi m).1;rw[Xs r] at a
   exact .inl ⟨Z,(Xn a).symm⟩
  ·rename_i e
   exact .inr ⟨fun u=>e u.symm,a⟩
 have g:∀ (k:Nat) x,Bs[k]?=some x->k≠i->x.1≠B:=fun k x a f e=>f (h.nd k i x _ a m e);refine⟨h.bel.setCell (p:=⟨B,j,none⟩) (h.new i _ m) v,fun k x a=>?_,fun k x a=>?_,fun k l x y a s e=>?_⟩
 ·rcases n k x a with ⟨rfl,rfl⟩|⟨f,a⟩
  ·exact Qq (h.blk k _ m) j v
  ·exact(h.blk k x a).setOther (fun e=>g k x a f e.symm) v
 ·rcases n k x a with ⟨rfl,rfl⟩|⟨f,a⟩
  ·exact h.new k (B,c,t) m
  ·exact h.new k x a
 ·rcases n k x a with ⟨f,d⟩|⟨f,d⟩
  ·rcases n l y s with ⟨o,b⟩|⟨o,b⟩
   ·rw[f,o]
   ·rw[d] at e;exact absurd e.symm (g l y b o)
  ·rcases n l y s with ⟨o,b⟩|⟨o,b⟩
   ·rw[b] at e;exact absurd e (g k x d f)
   ·exact h.nd k l x y d b e
def ZM (c:Array Value) (j:Nat) (vs:List Value):Array Value:=(c.toList.take j++(vs++c.toList.drop (j+vs.length))).toArray
theorem QcL (c:Array Value) (j:Nat) (v:Value) (b:List Value) (h:j+(v::b).length<=c.size):ZM (c.setIfInBounds j v) (j+1) b=ZM c j (v::b):=by
 unfold ZM;congr 1
 have d:j<c.toList.length:=by simp at h |-;omega
 simp only[Array.toList_setIfInBounds]
 rw[List.take_set,List.drop_set_of_lt (by omega),XV,Zg d]
 simp only[Option.toList,List.length_cons]
 have:(c.toList.take j++[c.toList[j]]).set j v=c.toList.take j++[v]:=by
  rw[List.set_append_right _ _ (by simp;omega)]
  have a:j<c.size:=by simpa using d
  simp[Nat.min_eq_left (Nat.le_of_lt a)]
 rw[this,Nat.add_assoc,Nat.add_comm 1]
 simp
theorem Wd.setAt (h:Wd w0 w Bs) (i:Nat){c c':Array Value}{d:List (Nat × Array Value × TypeId)}(f:Bs[i]?=some (B,c,t)) (j:Nat) (a:List Value)
 (n:Nat.ble (j+a.length) c.size=true) (l:ZM c j a=c') (m:Bs.set i (B,c',t)=d):Wd w0 (w.setCells B j a) d:=by
 have b:j+a.length<=c.size:=by simpa[Nat.ble_eq] using n
 clear n
 induction a generalizing w Bs c j with
 | nil =>
   subst m
   have:c=c':=by rw[<-l];unfold ZM;simp
   subst this
   have:Bs.set i (B,c,t)=Bs:=by
    apply List.ext_getElem?
    intro k;rw[List.getElem?_set]
    split
    ·rename_i e;subst e;rw[f];simp[(Zi f).1]
    ·rfl
   rw[this];exact h
 | cons v a ih =>
   have g:i<Bs.length:=(Zi f).1;refine ih (c:=c.setIfInBounds j v) (h.set i f j v Z Z) (by rw[List.getElem?_set];simp[g]) (j+1) ?_ ?_ ?_
   ·rw[<-l,QcL _ _ _ _ b]
   ·rw[List.set_set];exact m
   ·simp at b |-;omega
theorem Wd.drewN (h:Wd w0 w Bs) (m:Nat):Wd w0 (w.drewN m) Bs:=⟨QQ h.bel,fun i x a=>h.blk i x a,h.new,h.nd⟩
end
theorem Qiq (q:Nat) (h:q<4611686018427387904):IntKind.i64.wrap ((q:Int)+1)=(q:Int)+1:=by
 have:(q:Int)<4611686018427387904:=by omega
 have a:((q:Int)+1)%2 ^ 64=(q:Int)+1:=by omega
 simp only[IntKind.wrap,IntKind.signed,IntKind.bits,a,Bool.true_and]
 rw[Xr (by simp only[decide_eq_true_eq];omega)]
theorem Fr.sl2 {a:Act}{L:List (Tmp × Value)}(h:Fr n a L) (t:Tmp) (v:Value) (e:L.lookup t=some v):a.tmps[t]?.getD undef=v:=by
 rw[<-Za];exact h.sl t v e
structure New (w w':World) (B:Nat):Prop where
 bel:Below w.heap.size w w'
 at_:B=w.heap.size
 size:w'.heap.size=B+1
theorem Qk (b:Below w.heap.size w w'){p:Addr}(h:w.cell? p=some v):w'.cell? p=some v :=
 (XU (w:=w) (a:=p) (b.block p.block (Xi w p h))).trans h
section
variable {P:Program}{n:Nat}{a:Act}{L:List (Tmp × Value)}{w0 w w':World}{Bs Bs':List (Nat × Array Value × TypeId)}{Q:Exit->Act->World->Prop}{ops:Array Oper}{o:Oper}{rest:List Oper}{t:Tmp}{v:Value}
theorem QeP (c:Array Value) (ty:TypeId) (m:Nat) (d:Fr n a L) (e:Wd w0 w Bs) (f:o.dst=some t) (g:o.guard=none) (i:Nat.blt t n=true)
 (h:∀ K:Act->World->Prop,K (a.put (some t) (.slice (some ⟨w.heap.size,0,none⟩) m m)) (w.alloc (.cells c ty))->o.wp P a w K Q)
 (k:∀ a' w' B,Wd w0 w' ((B,c,ty)::Bs)->New w w' B->Fr n a' ((t,.slice (some ⟨B,0,none⟩) m m)::L)->wpList P ops Q rest a' w'):wpList P ops Q (o::rest) a w :=
 Zh d f g i h fun a' b=>k a' _ _ (e.new' c ty) ⟨QU w _,Z,by simp⟩ b
theorem QjP (d:Fr n a L) (b:Wd w0 w' Bs') (c:o.dst=none) (e:o.guard=none)
 (h:∀ K:Act->World->Prop,K a w'->o.wp P a w K Q)
 (k:∀ w',Wd w0 w' Bs'->wpList P ops Q rest a w'):wpList P ops Q (o::rest) a w :=
 Qez d c e h (k _ b)
theorem Ql {fn:Func}{R:Ending->World->Prop}(b:Fr n a L) (c:fn.results=#[.tmp t]) (d:L.lookup t=some v) (e:R (.returned v) w):bodyPost P fn R .ret a w :=
 Xy ((results_tmp c _ _ _).trans (by rw[b.sl t v d])) b.defers e
end
abbrev Qb9:=List (Tmp × (Value->World->Prop))
def Qb9.E (M:Qb9) (t:Tmp) (v:Value) (w:World):Prop:=match M.lookup t with | some p=>p v w | none=>True
def Qgd (R:World->World->Prop):Qb9->Prop
 | []=>True
 | x::r=>(∀ v w w',R w w'->x.2 v w->x.2 v w')/\Qgd R r
theorem Qc7 {R:World->World->Prop}:∀ (M:Qb9),Qgd R M->∀ t v w w',R w w'->Qb9.E M t v w->Qb9.E M t v w'
 | [],_,_,_,_,_,_,h=>h
 | x::r,hs,t,v,w,w',hr,h=>by
   unfold Qb9.E at *;obtain⟨s,p⟩:=x
   by_cases e:t=s
   ·subst e;simp at h |-
    exact hs.1 _ _ _ hr h
   ·have a:(t==s)=false:=by simpa using e
    simp only[List.lookup_cons,a] at h |-
    exact Qc7 r hs.2 t v w w' hr h
theorem Qkl {l l2:List Oper}{outs:List Tmp}{gs:List (Nat × Option Bool)}{bs:List Bool}{a:Act}{L:List (Tmp × Value)}{Q:Exit->Act->World->Prop}
 (M:Qb9) (W:World->Prop) (R:World->World->Prop)
 (z:P.follows .mixedOrders=true) (f:Fr n a L) (I:(L.all fun p=>!(Qu l).contains p.1)=true) (k:Qc0 l n outs gs bs=true)
 (F:(QbI 0 (l++l2)&&(QdB l.length l&&QbA (l++l2) l.length l2))=true)
 (X:Qgd R M) (N:Qbi (Qb9.E M) W l.toArray gs) (T:W w.drew) (G:Qdt (Qb9.E M) a w.drew outs)
 (hA:Qen (Qb9.E M) W R P l bs)
 (c:∀ a' w',W w'->(∀ t,(Qu l).contains t=true->Qb9.E M t (a'.tmps.getD t undef) w')->Fr n a' L->wpList P (l++l2).toArray Q l2 a' w') :
 (Code.region id (l++l2).toArray true).wp P Q a w:=by
 simp only[Bool.and_eq_true] at F
 obtain⟨D,y,A⟩:=F
 refine wp_region_any z ?_
 have s:wpAny P .any l.toArray (Exit.then (fun a w=>wpList P (l++l2).toArray Q l2 a w) Q) l.length (Array.replicate l.length false) a w.drew:=by
  refine Qcs (E:=Qb9.E M) (W:=W) (R:=R) (a0:=a) (outs:=outs) (gs:=gs) (bs:=bs) (by rw[f.size];exact k) (Qc7 M X) N hA ?_ _ _ _ _ (by simp) ?_ ⟨T,Z,Z,fun _ _=>rfl,fun t b _=>QcR outs G t b,?_⟩
  ·intro g w' C K
   have B:∀ t,(Qu l).contains t=true->t<a.tmps.size:=fun t b=>by
    simp only[Qc0,Bool.and_eq_true] at k
    have:=Xe.1 k.1.1.1.2 t (by simpa using b)
    rw[f.size];simpa using this
   have m:∀ t,(Qu l).contains t=true->(Zn a g (Qu l)).tmps.getD t undef=g t:=fun t b=>by
    have:=Qdb g (Qu l) a t (B t b)
    rw[Xs (by simpa using b)] at this
    rw[Za,this];rfl
   refine c _ w' C (fun t b=>by rw[m t b];exact K t b) ⟨by rw[Qbm,f.size],by rw[Qa3,f.defers],fun t v i=>?_⟩
   have z:∃ p∈L,p.1=t:=by
    clear I G c
    have:∀ (L:List (Tmp × Value)),L.lookup t=some v->∃ p∈L,p.1=t:=by
     intro L
     induction L with
     | nil=>intro h;simp at h
     | cons x r ih =>
       intro h;by_cases e:t=x.1
       ·exact⟨x,by simp,e.symm⟩
       ·have S:(t==x.1)=false:=beq_false_of_ne e;rw[List.lookup_cons,S] at h
        obtain⟨p,u,J⟩:=ih h
        exact⟨p,by simp[u],J⟩
    exact this L i
   obtain⟨p,u,rfl⟩:=z
   have O:¬ p.1∈Qu l:=by
    have:=Xe.1 I p u
    simpa using this
   rw[<-f.sl p.1 v i]
   by_cases d:p.1<a.tmps.size
   ·have:=Qdb g (Qu l) a p.1 d
    rw[Xr O] at this
    rw[Za,Za,this]
   ·have H:a.tmps.size<=p.1:=Xo d;rw[Za,Za,Array.getElem?_eq_none (by rw[Qbm];exact H),Array.getElem?_eq_none H]
  ·simp only[Array.toList_replicate]
   exact Zt (List.length_filter_le _ _) (by simp)
  ·intro j o t hj hd i;simp[Array.getD] at i
 have:=Qc2 (Q:=Q) D y A l.length (Array.replicate l.length false) a w.drew (by simp) (fun q o hq U=>by simp[Array.getD] at U) s
 have e:(Array.replicate l.length false++Array.replicate l2.length false:Array Bool)=Array.replicate (l++l2).toArray.size false:=by
  simp
 have V:l.length+l2.length=(l++l2).toArray.size:=by simp
 rw[e,V] at this
 exact this
theorem ZN {b:List Oper}{outs:List Tmp}{gs:List (Nat × Option Bool)}{bs:List Bool}{a:Act}{L:List (Tmp × Value)}{Q:Exit->Act->World->Prop}
 (k:Nat) (M:Qb9) (W:World->Prop) (R:World->World->Prop)
 (d:P.follows .mixedOrders=true) (f:Fr n a L) (m:(L.all fun p=>!(Qu (b.take k)).contains p.1)=true) (i:Qc0 (b.take k) n outs gs bs=true)
 (r:(QbI 0 b&&(QdB (b.take k).length (b.take k)&&QbA b (b.take k).length (b.drop k)))=true)
 (q:Qgd R M) (e:Qbi (Qb9.E M) W (b.take k).toArray gs) (o:W w.drew) (g:Qdt (Qb9.E M) a w.drew outs)
 (j:Qen (Qb9.E M) W R P (b.take k) bs)
 (c:∀ ops a' w',W w'->(∀ t,(Qu (b.take k)).contains t=true->Qb9.E M t (a'.tmps.getD t undef) w')->Fr n a' L->wpList P ops Q (b.drop k) a' w') :
 (Code.region id b.toArray true).wp P Q a w:=by
 have h:=Qkl (id:=id) (l:=b.take k) (l2:=b.drop k) (Q:=Q) M W R d f m i (by rw[List.take_append_drop];exact r) q e o g j (c _);rwa [List.take_append_drop] at h
section
variable {w0 w w' w00:World}{Bs:List (Nat × Array Value × TypeId)}
theorem Wd.add (h:Wd w0 w Bs){c:Array Value}(f:Blk w B c t) (d:Wd w0 w00 Bs) (g:w00.heap.size<=B):Wd w0 w ((B,c,t)::Bs):=by
 refine⟨h.bel,fun i x a=>?_,fun i x a=>?_,fun i j x y a b e=>?_⟩
 ·cases i with
  | zero=>simp at a;subst a;exact f
  | succ i=>exact h.blk i x (by simpa using a)
 ·cases i with
  | zero=>simp at a;subst a;have:=d.bel.size;simp only;omega
  | succ i=>exact h.new i x (by simpa using a)
 ·cases i with
  | zero =>
    cases j with
    | zero=>rfl
    | succ j =>
      simp at a b;subst a
      have:=(d.blk j y b).lt
      simp at e;omega
  | succ i =>
    cases j with
    | zero =>
      simp at a b;subst b
      have:=(d.blk i x a).lt
      simp at e;omega
    | succ j=>rw[h.nd i j x y (by simpa using a) (by simpa using b) e]
end
def Qgz (o:Oper) (j:Nat):Bool:=o.after.any fun e=>Region.binds .any e&&e.on==j
theorem Qh5 {o:Oper}(h:Qgz o j=true):∃ e∈o.after,Region.binds .any e=true/\e.on=j:=by
 obtain⟨q,b,a⟩:=Array.any_eq_true.1 h
 simp only[Bool.and_eq_true,beq_iff_eq] at a
 exact⟨_,Array.getElem_mem b,a.1,a.2⟩
def Qy (L:List (Tmp × Value)):Operand->Option Value
 | .tmp t=>L.lookup t
 | .const v=>some v
 | .func f=>some (.func (.func f) #[] #[])
 | _=>none
abbrev St (n:Nat) (L:List (Tmp × Value)) (ops:Array Oper) (Q:Exit->Act->World->Prop) (l:List Oper) (w:World):Prop:=∀ a,Fr n a L->wpList prog ops Q l a w
def Gok (ops:Array Oper) (n:Nat) (L:List (Tmp × Value)):Option (Nat × Bool)->Prop
 | none=>True
 | some (g,want)=>∃ tg,(ops[g]?).bind (fun o:Oper=>o.dst)=some tg/\Nat.blt tg n=true/\L.lookup tg=some (.bool want)
section
variable {n:Nat}{a:Act}{L:List (Tmp × Value)}{w0 w:World}{Bs:List (Nat × Array Value × TypeId)}{Q:Exit->Act->World->Prop}{ops:Array Oper}{rest:List Oper}{t:Tmp}{u v:Value}{ty ty2 ty3:TypeId}{pos:String}{aft:Array Edge}{gd:Option (Nat × Bool)}{x y z:Operand}{g tg:Nat}{want b:Bool}
theorem Fr.ev (h:Fr n a L) (e:Qy L x=some v):a.eval x=v:=by
 cases x<;>simp only[Qy,Option.some.injEq,reduceCtorEq] at e
 ·exact h.sl _ _ e
 ·exact e
 ·subst e;rfl
theorem Gok.on {o:Oper}(e:Fr n a L) (h:Gok ops n L o.guard):Region.wanted o (yielded ops a.tmps)=true:=by
 cases hg:o.guard with
 | none=>simp[Region.wanted,hg]
 | some p =>
   obtain⟨g,b⟩:=p
   rw[hg] at h
   obtain⟨i,c,d,f⟩:=h
   rw[Qgo e hg c d f];simp
theorem St.go {l:List Oper}(b:Fr n a L) (h:St n L ops Q l w):wpList prog ops Q l a w:=h a b
theorem rg {l:List Oper}(b:Fr n a L) (h:∀ ops,St n L ops Q l w):(Code.region id l.toArray false).wp prog Q a w:=Q5 fun ops _=>h ops a b
theorem St.nil (h:∀ a,Fr n a L->Q .normal a w):St n L ops Q [] w:=h
theorem Yb:type_of% @St.nil:=@St.nil
theorem Zb {o:Oper}(f:Gok ops n L o.guard) (c:o.dst=some t) (g:Nat.blt t n=true)
 (h:∀ ev:Operand->Value,(∀ x v,Qy L x=some v->ev x=v)->(execOp ev o).run prog w=.ok (.value v) w)
 (k:St n ((t,v)::L) ops Q rest w):St n L ops Q (o::rest) w:=fun a b =>
 wpList_step fun K d=>by
  rw[Xs (f.on b)]
  unfold Oper.wp;rw[h a.eval (fun x v e=>b.ev e),Oper.upon_value,c]
  exact d _ _ (k _ (b.put g))
theorem so {i:Op}(e:(ops[g]?).bind (fun o:Oper=>o.dst)=some tg) (c:Nat.blt tg n=true) (f:L.lookup tg=some u) (h:(match u with | .bool b=>b==want | _=>false)=false) (j:Nat.blt t n=true)
 (k:St n ((t,undef)::L) ops Q rest w):St n L ops Q (⟨some t,i,ty,pos,aft,some (g,want)⟩::rest) w:=fun a d =>
 Qk6 d Z Z e c f h j k
theorem sm (c:Gok ops n L gd) (b:Qy L x=some (v)) (d:Nat.blt t n=true)
 (k:St n ((t,v)::L) ops Q rest w):St n L ops Q (⟨some t,.move x,ty,pos,aft,gd⟩::rest) w :=
 Zb c Z d (fun f a=>by have e:=a _ _ b;simp[go_sem,e]) k
theorem sa (c:Gok ops n L gd) (b:Qy L x=some (v)) (d:Nat.blt t n=true)
 (k:St n ((t,v)::L) ops Q rest w):St n L ops Q (⟨some t,.assign x,ty,pos,aft,gd⟩::rest) w :=
 Zb c Z d (fun f a=>by have e:=a _ _ b;simp[go_sem,e]) k
theorem sn (d:Gok ops n L gd) (c:Qy L x=some (.bool b)) (f:Nat.blt t n=true)
 (k:St n ((t,.bool (!b))::L) ops Q rest w):St n L ops Q (⟨some t,.unOp .not ty2 x,ty,pos,aft,gd⟩::rest) w :=
 Zb d Z f (fun g a=>by have e:=a _ _ c;simp[go_sem,e]) k
theorem sp (f:Gok ops n L gd) (c:Qy L x=some (.bool true)) (d:Qy L y=some (v)) (g:Nat.blt t n=true)
 (k:St n ((t,v)::L) ops Q rest w):St n L ops Q (⟨some t,.pick x y z,ty,pos,aft,gd⟩::rest) w :=
 Zb f Z g (fun h a=>by have e:=a _ _ c;have b:=a _ _ d;simp[go_sem,e,b]) k
theorem spf (f:Gok ops n L gd) (c:Qy L x=some (.bool false)) (d:Qy L z=some (v)) (g:Nat.blt t n=true)
 (k:St n ((t,v)::L) ops Q rest w):St n L ops Q (⟨some t,.pick x y z,ty,pos,aft,gd⟩::rest) w :=
 Zb f Z g (fun h a=>by have e:=a _ _ c;have b:=a _ _ d;simp[go_sem,e,b]) k
theorem seq {p q:Int}(f:Gok ops n L gd) (c:Qy L x=some (.int .i64 p)) (d:Qy L y=some (.int .i64 q)) (g:Nat.blt t n=true)
 (k:St n ((t,.bool (p==q))::L) ops Q rest w):St n L ops Q (⟨some t,.binOp .eql 3 x y 3,ty,pos,aft,gd⟩::rest) w :=
 Zb f Z g (fun h a=>by have e:=a _ _ c;have b:=a _ _ d;simp[go_sem,e,b]) k
theorem sne {p q:Int}(f:Gok ops n L gd) (c:Qy L x=some (.int .i64 p)) (d:Qy L y=some (.int .i64 q)) (g:Nat.blt t n=true)
 (k:St n ((t,.bool (p != q))::L) ops Q rest w):St n L ops Q (⟨some t,.binOp .neq 3 x y 3,ty,pos,aft,gd⟩::rest) w :=
 Zb f Z g (fun h a=>by have e:=a _ _ c;have b:=a _ _ d;simp[go_sem,e,b]) k
theorem slt {p q:Int}(f:Gok ops n L gd) (c:Qy L x=some (.int .i64 p)) (d:Qy L y=some (.int .i64 q)) (g:Nat.blt t n=true)
 (k:St n ((t,.bool (decide (p<q)))::L) ops Q rest w):St n L ops Q (⟨some t,.binOp .lss 3 x y 3,ty,pos,aft,gd⟩::rest) w :=
 Zb f Z g (fun h a=>by have e:=a _ _ c;have b:=a _ _ d;simp[go_sem,e,b]) k
theorem sgt {p q:Int}(f:Gok ops n L gd) (c:Qy L x=some (.int .i64 p)) (d:Qy L y=some (.int .i64 q)) (g:Nat.blt t n=true)
 (k:St n ((t,.bool (decide (q<p)))::L) ops Q rest w):St n L ops Q (⟨some t,.binOp .gtr 3 x y 3,ty,pos,aft,gd⟩::rest) w :=
 Zb f Z g (fun h a=>by have e:=a _ _ c;have b:=a _ _ d;simp[go_sem,e,b]) k
theorem sge {p q:Int}(f:Gok ops n L gd) (c:Qy L x=some (.int .i64 p)) (d:Qy L y=some (.int .i64 q)) (g:Nat.blt t n=true)
 (k:St n ((t,.bool (decide (q<=p)))::L) ops Q rest w):St n L ops Q (⟨some t,.binOp .geq 3 x y 3,ty,pos,aft,gd⟩::rest) w :=
 Zb f Z g (fun h a=>by have e:=a _ _ c;have b:=a _ _ d;simp[go_sem,e,b]) k
theorem QlM {p q:Int}(f:Gok ops n L gd) (c:Qy L x=some (.int .i64 p)) (d:Qy L y=some (.int .i64 q)) (g:Nat.blt t n=true)
 (k:St n ((t,.bool (p==q))::L) ops Q rest w):St n L ops Q (⟨some t,.binOp .eql 2 x y 2,ty,pos,aft,gd⟩::rest) w :=
 Zb f Z g (fun h a=>by have e:=a _ _ c;have b:=a _ _ d;simp[go_sem,e,b]) k
theorem Ql3 {p q:Int}(f:Gok ops n L gd) (c:Qy L x=some (.int .i64 p)) (d:Qy L y=some (.int .i64 q)) (g:Nat.blt t n=true)
 (k:St n ((t,.bool (p != q))::L) ops Q rest w):St n L ops Q (⟨some t,.binOp .neq 2 x y 2,ty,pos,aft,gd⟩::rest) w :=
 Zb f Z g (fun h a=>by have e:=a _ _ c;have b:=a _ _ d;simp[go_sem,e,b]) k
theorem sad (i:q<4611686018427387904) (h:Gok ops n L gd) (d:Qy L x=some (.int .i64 (q:Int))) (f:Qy L y=some (.int .i64 1)) (g:Nat.blt t n=true)
 (k:St n ((t,.int .i64 ((q:Int)+1))::L) ops Q rest w):St n L ops Q (⟨some t,.binOp .add 3 x y 3,ty,pos,aft,gd⟩::rest) w :=
 Zb h Z g (fun j a=>by have e:=a _ _ d;have c:=a _ _ f;have b:=Qiq q i;simp[go_sem,e,c,b]) k
theorem Qcy (d:Gok ops n L gd) (b:Qy L x=some (.slice p m c)) (f:Nat.blt t n=true)
 (k:St n ((t,.int .i64 (m:Int))::L) ops Q rest w):St n L ops Q (⟨some t,.call { callee:=.builtin .len,args:=#[x],argTypes:=#[35] },3,pos,aft,gd⟩::rest) w :=
 Zb d Z f (fun g a=>by have e:=a _ _ b;simp[go_sem,e]) k
theorem Qbb (d:Gok ops n L gd) (b:Qy L x=some (.slice p m c)) (f:Nat.blt t n=true)
 (k:St n ((t,.int .i64 (m:Int))::L) ops Q rest w):St n L ops Q (⟨some t,.call { callee:=.builtin .len,args:=#[x],argTypes:=#[33] },3,pos,aft,gd⟩::rest) w :=
 Zb d Z f (fun g a=>by have e:=a _ _ b;simp[go_sem,e]) k
theorem QdD (l:p=some ⟨B,j,none⟩) (b:q<m) (o:Gok ops n L gd) (h:Qy L x=some (.slice p m c)) (i:Qy L y=some (.int .i64 (q:Int))) (r:Nat.blt t n=true)
 (k:St n ((t,.pointer (some ⟨B,j+q*3,none⟩))::L) ops Q rest w):St n L ops Q (⟨some t,.indexAddr 33 x y,ty,pos,aft,gd⟩::rest) w :=
 Zb o Z r (fun s a=>by have e:=a _ _ h;have f:=a _ _ i;have d:=Int.natCast_nonneg q;have g:=Int.ofNat_lt.2 b;subst l;simp[go_sem,e,f,d,g,b]) k
theorem Qch (d:Gok ops n L gd) (b:Qy L x=some (.slice p m c)) (f:Nat.blt t n=true)
 (k:St n ((t,.int .i64 (m:Int))::L) ops Q rest w):St n L ops Q (⟨some t,.call { callee:=.builtin .len,args:=#[x],argTypes:=#[25] },3,pos,aft,gd⟩::rest) w :=
 Zb d Z f (fun g a=>by have e:=a _ _ b;simp[go_sem,e]) k
theorem QgA (l:p=some ⟨B,j,none⟩) (b:q<m) (o:Gok ops n L gd) (h:Qy L x=some (.slice p m c)) (i:Qy L y=some (.int .i64 (q:Int))) (r:Nat.blt t n=true)
 (k:St n ((t,.pointer (some ⟨B,j+q*8,none⟩))::L) ops Q rest w):St n L ops Q (⟨some t,.indexAddr 25 x y,ty,pos,aft,gd⟩::rest) w :=
 Zb o Z r (fun s a=>by have e:=a _ _ h;have f:=a _ _ i;have d:=Int.natCast_nonneg q;have g:=Int.ofNat_lt.2 b;subst l;simp[go_sem,e,f,d,g,b]) k
theorem QaW (d:Gok ops n L gd) (b:Qy L x=some (.slice p m c)) (f:Nat.blt t n=true)
 (k:St n ((t,.int .i64 (m:Int))::L) ops Q rest w):St n L ops Q (⟨some t,.call { callee:=.builtin .len,args:=#[x],argTypes:=#[38] },3,pos,aft,gd⟩::rest) w :=
 Zb d Z f (fun g a=>by have e:=a _ _ b;simp[go_sem,e]) k
theorem QcT (l:p=some ⟨B,j,none⟩) (b:q<m) (o:Gok ops n L gd) (h:Qy L x=some (.slice p m c)) (i:Qy L y=some (.int .i64 (q:Int))) (r:Nat.blt t n=true)
 (k:St n ((t,.pointer (some ⟨B,j+q*12,none⟩))::L) ops Q rest w):St n L ops Q (⟨some t,.indexAddr 38 x y,ty,pos,aft,gd⟩::rest) w :=
 Zb o Z r (fun s a=>by have e:=a _ _ h;have f:=a _ _ i;have d:=Int.natCast_nonneg q;have g:=Int.ofNat_lt.2 b;subst l;simp[go_sem,e,f,d,g,b]) k
theorem QaG (d:Gok ops n L gd) (b:Qy L x=some (.slice p m c)) (f:Nat.blt t n=true)
 (k:St n ((t,.int .i64 (m:Int))::L) ops Q rest w):St n L ops Q (⟨some t,.call { callee:=.builtin .len,args:=#[x],argTypes:=#[22] },3,pos,aft,gd⟩::rest) w :=
 Zb d Z f (fun g a=>by have e:=a _ _ b;simp[go_sem,e]) k
theorem Qej (l:p=some ⟨B,j,none⟩) (b:q<m) (o:Gok ops n L gd) (h:Qy L x=some (.slice p m c)) (i:Qy L y=some (.int .i64 (q:Int))) (r:Nat.blt t n=true)
 (k:St n ((t,.pointer (some ⟨B,j+q*4,none⟩))::L) ops Q rest w):St n L ops Q (⟨some t,.indexAddr 22 x y,ty,pos,aft,gd⟩::rest) w :=
 Zb o Z r (fun s a=>by have e:=a _ _ h;have f:=a _ _ i;have d:=Int.natCast_nonneg q;have g:=Int.ofNat_lt.2 b;subst l;simp[go_sem,e,f,d,g,b]) k
def SF0 (T:TypeId) (f:Nat):Prop:=∀ {n:Nat}{L:List (Tmp × Value)}{ops:Array Oper}{Q:Exit->Act->World->Prop}{rest:List Oper}{w:World}{t:Tmp}{x:Operand}{ty:TypeId}{pos:String}{aft:Array Edge}{gd:Option (Nat × Bool)}{B j:Nat},Gok ops n L gd->Qy L x=some (.pointer (some ⟨B,j,none⟩))->Nat.blt t n=true->St n ((t,.pointer (some ⟨B,j,none⟩))::L) ops Q rest w->St n L ops Q (⟨some t,.fieldAddr T x f,ty,pos,aft,gd⟩::rest) w
theorem QbE {T:TypeId}(h:∀ (ev:Operand->Value) (x:Operand) (t:Tmp) (ty:TypeId) (pos:String) (aft:Array Edge) (gd:Option (Nat × Bool)) (B j:Nat) (w:World),ev x=.pointer (some ⟨B,j,none⟩)->(execOp ev ⟨some t,.fieldAddr T x f,ty,pos,aft,gd⟩).run prog w=.ok (.value (.pointer (some ⟨B,j,none⟩))) w):SF0 T f :=
 fun c b d k=>Zb c Z d (fun ev a=>h ev _ _ _ _ _ _ _ _ _ (a _ _ b)) k
def SF (T:TypeId) (f o:Nat):Prop:=∀ {n:Nat}{L:List (Tmp × Value)}{ops:Array Oper}{Q:Exit->Act->World->Prop}{rest:List Oper}{w:World}{t:Tmp}{x:Operand}{ty:TypeId}{pos:String}{aft:Array Edge}{gd:Option (Nat × Bool)}{B j:Nat},Gok ops n L gd->Qy L x=some (.pointer (some ⟨B,j,none⟩))->Nat.blt t n=true->St n ((t,.pointer (some ⟨B,j+o,none⟩))::L) ops Q rest w->St n L ops Q (⟨some t,.fieldAddr T x f,ty,pos,aft,gd⟩::rest) w
theorem Z1 {T:TypeId}(h:∀ (ev:Operand->Value) (x:Operand) (t:Tmp) (ty:TypeId) (pos:String) (aft:Array Edge) (gd:Option (Nat × Bool)) (B j:Nat) (w:World),ev x=.pointer (some ⟨B,j,none⟩)->(execOp ev ⟨some t,.fieldAddr T x f,ty,pos,aft,gd⟩).run prog w=.ok (.value (.pointer (some ⟨B,j+o,none⟩))) w):SF T f o :=
 fun c b d k=>Zb c Z d (fun ev a=>h ev _ _ _ _ _ _ _ _ _ (a _ _ b)) k
theorem sfType0:SF0 70 0:=QbE fun _ _ _ _ _ _ _ _ _ _ e=>by simp[go_sem,e]
theorem sfType2:SF 70 2 2:=Z1 fun _ _ _ _ _ _ _ _ _ _ e=>by simp[go_sem,e]
theorem sfIns0:SF0 46 0:=QbE fun _ _ _ _ _ _ _ _ _ _ e=>by simp[go_sem,e]
theorem sfIns1:SF 46 1 1:=Z1 fun _ _ _ _ _ _ _ _ _ _ e=>by simp[go_sem,e]
theorem sfIns2:SF 46 2 2:=Z1 fun _ _ _ _ _ _ _ _ _ _ e=>by simp[go_sem,e]
theorem sfIns3:SF 46 3 3:=Z1 fun _ _ _ _ _ _ _ _ _ _ e=>by simp[go_sem,e]
theorem sfIns4:SF 46 4 4:=Z1 fun _ _ _ _ _ _ _ _ _ _ e=>by simp[go_sem,e]
theorem sfIns5:SF 46 5 5:=Z1 fun _ _ _ _ _ _ _ _ _ _ e=>by simp[go_sem,e]
theorem sfIns6:SF 46 6 6:=Z1 fun _ _ _ _ _ _ _ _ _ _ e=>by simp[go_sem,e]
theorem sfIns7:SF 46 7 7:=Z1 fun _ _ _ _ _ _ _ _ _ _ e=>by simp[go_sem,e]
theorem sfTo0:SF0 56 0:=QbE fun _ _ _ _ _ _ _ _ _ _ e=>by simp[go_sem,e]
theorem sfTo1:SF 56 1 1:=Z1 fun _ _ _ _ _ _ _ _ _ _ e=>by simp[go_sem,e]
theorem sfTo2:SF 56 2 2:=Z1 fun _ _ _ _ _ _ _ _ _ _ e=>by simp[go_sem,e]
theorem sfEnd0:SF0 58 0:=QbE fun _ _ _ _ _ _ _ _ _ _ e=>by simp[go_sem,e]
theorem sfEnd1:SF 58 1 1:=Z1 fun _ _ _ _ _ _ _ _ _ _ e=>by simp[go_sem,e]
theorem sfEnd2:SF 58 2 2:=Z1 fun _ _ _ _ _ _ _ _ _ _ e=>by simp[go_sem,e]
theorem sfEnd3:SF 58 3 5:=Z1 fun _ _ _ _ _ _ _ _ _ _ e=>by simp[go_sem,e]
theorem sfEnd4:SF 58 4 8:=Z1 fun _ _ _ _ _ _ _ _ _ _ e=>by simp[go_sem,e]
theorem sfBlock0:SF0 60 0:=QbE fun _ _ _ _ _ _ _ _ _ _ e=>by simp[go_sem,e]
theorem sfBlock1:SF 60 1 1:=Z1 fun _ _ _ _ _ _ _ _ _ _ e=>by simp[go_sem,e]
theorem sfBlock2:SF 60 2 2:=Z1 fun _ _ _ _ _ _ _ _ _ _ e=>by simp[go_sem,e]
theorem sfBlock3:SF 60 3 3:=Z1 fun _ _ _ _ _ _ _ _ _ _ e=>by simp[go_sem,e]
theorem sfFunc0:SF0 40 0:=QbE fun _ _ _ _ _ _ _ _ _ _ e=>by simp[go_sem,e]
theorem sfFunc1:SF 40 1 1:=Z1 fun _ _ _ _ _ _ _ _ _ _ e=>by simp[go_sem,e]
theorem sfFunc2:SF 40 2 2:=Z1 fun _ _ _ _ _ _ _ _ _ _ e=>by simp[go_sem,e]
theorem sfFunc3:SF 40 3 3:=Z1 fun _ _ _ _ _ _ _ _ _ _ e=>by simp[go_sem,e]
theorem sfModule0:SF0 24 0:=QbE fun _ _ _ _ _ _ _ _ _ _ e=>by simp[go_sem,e]
theorem sfFault0:SF0 30 0:=QbE fun _ _ _ _ _ _ _ _ _ _ e=>by simp[go_sem,e]
theorem sfFields0:SF0 144 0:=QbE fun _ _ _ _ _ _ _ _ _ _ e=>by simp[go_sem,e]
theorem sfFields1:SF 144 1 1:=Z1 fun _ _ _ _ _ _ _ _ _ _ e=>by simp[go_sem,e]
theorem sfFields2:SF 144 2 2:=Z1 fun _ _ _ _ _ _ _ _ _ _ e=>by simp[go_sem,e]
theorem sfFields3:SF 144 3 3:=Z1 fun _ _ _ _ _ _ _ _ _ _ e=>by simp[go_sem,e]
theorem sfFields4:SF 144 4 4:=Z1 fun _ _ _ _ _ _ _ _ _ _ e=>by simp[go_sem,e]
theorem sfFields5:SF 144 5 5:=Z1 fun _ _ _ _ _ _ _ _ _ _ e=>by simp[go_sem,e]
theorem sfFields6:SF 144 6 6:=Z1 fun _ _ _ _ _ _ _ _ _ _ e=>by simp[go_sem,e]
theorem sffuncLook1:SF 93 1 1:=Z1 fun _ _ _ _ _ _ _ _ _ _ e=>by simp[go_sem,e]
theorem sffuncLook2:SF 93 2 5:=Z1 fun _ _ _ _ _ _ _ _ _ _ e=>by simp[go_sem,e]
theorem sfblockLook0:SF0 131 0:=QbE fun _ _ _ _ _ _ _ _ _ _ e=>by simp[go_sem,e]
theorem sfblockLook1:SF 131 1 6:=Z1 fun _ _ _ _ _ _ _ _ _ _ e=>by simp[go_sem,e]
theorem sfblockLook2:SF 131 2 18:=Z1 fun _ _ _ _ _ _ _ _ _ _ e=>by simp[go_sem,e]
theorem Qlp (b:w.cell? ⟨B,j,none⟩=some v) (d:Gok ops n L gd) (c:Qy L x=some (.pointer (some ⟨B,j,none⟩))) (f:Nat.blt t n=true)
 (k:St n ((t,v)::L) ops Q rest w):St n L ops Q (⟨some t,.load 3 x,ty,pos,aft,gd⟩::rest) w :=
 Zb d Z f (fun g a=>by have e:=a _ _ c;simp[go_sem,e,b]) k
theorem Q7 (i:Nat){c:Array Value}(e:Wd w0 w Bs) (f:Gok ops n L gd) (b:Qy L x=some (.pointer (some ⟨B,j,none⟩))) (d:Bs[i]?=some (B,c,bt)) (a:c[j]?=some v) (g:Nat.blt t n=true)
 (k:St n ((t,v)::L) ops Q rest w):St n L ops Q (⟨some t,.load 3 x,ty,pos,aft,gd⟩::rest) w:=Qlp (Qb (e.get i d) j v a) f b g k
theorem QkT (b:w.cell? ⟨B,j,none⟩=some v) (d:Gok ops n L gd) (c:Qy L x=some (.pointer (some ⟨B,j,none⟩))) (f:Nat.blt t n=true)
 (k:St n ((t,v)::L) ops Q rest w):St n L ops Q (⟨some t,.load 2 x,ty,pos,aft,gd⟩::rest) w :=
 Zb d Z f (fun g a=>by have e:=a _ _ c;simp[go_sem,e,b]) k
theorem Qix (i:Nat){c:Array Value}(e:Wd w0 w Bs) (f:Gok ops n L gd) (b:Qy L x=some (.pointer (some ⟨B,j,none⟩))) (d:Bs[i]?=some (B,c,bt)) (a:c[j]?=some v) (g:Nat.blt t n=true)
 (k:St n ((t,v)::L) ops Q rest w):St n L ops Q (⟨some t,.load 2 x,ty,pos,aft,gd⟩::rest) w:=QkT (Qb (e.get i d) j v a) f b g k
theorem Qk5 (b:w.cell? ⟨B,j,none⟩=some v) (d:Gok ops n L gd) (c:Qy L x=some (.pointer (some ⟨B,j,none⟩))) (f:Nat.blt t n=true)
 (k:St n ((t,v)::L) ops Q rest w):St n L ops Q (⟨some t,.load 4 x,ty,pos,aft,gd⟩::rest) w :=
 Zb d Z f (fun g a=>by have e:=a _ _ c;simp[go_sem,e,b]) k
theorem Qc6 (i:Nat){c:Array Value}(e:Wd w0 w Bs) (f:Gok ops n L gd) (b:Qy L x=some (.pointer (some ⟨B,j,none⟩))) (d:Bs[i]?=some (B,c,bt)) (a:c[j]?=some v) (g:Nat.blt t n=true)
 (k:St n ((t,v)::L) ops Q rest w):St n L ops Q (⟨some t,.load 4 x,ty,pos,aft,gd⟩::rest) w:=Qk5 (Qb (e.get i d) j v a) f b g k
theorem QkX (b:w.cell? ⟨B,j,none⟩=some v) (d:Gok ops n L gd) (c:Qy L x=some (.pointer (some ⟨B,j,none⟩))) (f:Nat.blt t n=true)
 (k:St n ((t,v)::L) ops Q rest w):St n L ops Q (⟨some t,.load 35 x,ty,pos,aft,gd⟩::rest) w :=
 Zb d Z f (fun g a=>by have e:=a _ _ c;simp[go_sem,e,b]) k
theorem Qat (i:Nat){c:Array Value}(e:Wd w0 w Bs) (f:Gok ops n L gd) (b:Qy L x=some (.pointer (some ⟨B,j,none⟩))) (d:Bs[i]?=some (B,c,bt)) (a:c[j]?=some v) (g:Nat.blt t n=true)
 (k:St n ((t,v)::L) ops Q rest w):St n L ops Q (⟨some t,.load 35 x,ty,pos,aft,gd⟩::rest) w:=QkX (Qb (e.get i d) j v a) f b g k
theorem Qj6 (b:w.cell? ⟨B,j,none⟩=some v) (d:Gok ops n L gd) (c:Qy L x=some (.pointer (some ⟨B,j,none⟩))) (f:Nat.blt t n=true)
 (k:St n ((t,v)::L) ops Q rest w):St n L ops Q (⟨some t,.load 33 x,ty,pos,aft,gd⟩::rest) w :=
 Zb d Z f (fun g a=>by have e:=a _ _ c;simp[go_sem,e,b]) k
theorem ZW (i:Nat){c:Array Value}(e:Wd w0 w Bs) (f:Gok ops n L gd) (b:Qy L x=some (.pointer (some ⟨B,j,none⟩))) (d:Bs[i]?=some (B,c,bt)) (a:c[j]?=some v) (g:Nat.blt t n=true)
 (k:St n ((t,v)::L) ops Q rest w):St n L ops Q (⟨some t,.load 33 x,ty,pos,aft,gd⟩::rest) w:=Qj6 (Qb (e.get i d) j v a) f b g k
theorem Qgj (b:w.cell? ⟨B,j,none⟩=some v) (d:Gok ops n L gd) (c:Qy L x=some (.pointer (some ⟨B,j,none⟩))) (f:Nat.blt t n=true)
 (k:St n ((t,v)::L) ops Q rest w):St n L ops Q (⟨some t,.load 25 x,ty,pos,aft,gd⟩::rest) w :=
 Zb d Z f (fun g a=>by have e:=a _ _ c;simp[go_sem,e,b]) k
theorem Qc4 (i:Nat){c:Array Value}(e:Wd w0 w Bs) (f:Gok ops n L gd) (b:Qy L x=some (.pointer (some ⟨B,j,none⟩))) (d:Bs[i]?=some (B,c,bt)) (a:c[j]?=some v) (g:Nat.blt t n=true)
 (k:St n ((t,v)::L) ops Q rest w):St n L ops Q (⟨some t,.load 25 x,ty,pos,aft,gd⟩::rest) w:=Qgj (Qb (e.get i d) j v a) f b g k
theorem QcW (b:w.cell? ⟨B,j,none⟩=some v) (d:Gok ops n L gd) (c:Qy L x=some (.pointer (some ⟨B,j,none⟩))) (f:Nat.blt t n=true)
 (k:St n ((t,v)::L) ops Q rest w):St n L ops Q (⟨some t,.load 38 x,ty,pos,aft,gd⟩::rest) w :=
 Zb d Z f (fun g a=>by have e:=a _ _ c;simp[go_sem,e,b]) k
theorem Qcf (i:Nat){c:Array Value}(e:Wd w0 w Bs) (f:Gok ops n L gd) (b:Qy L x=some (.pointer (some ⟨B,j,none⟩))) (d:Bs[i]?=some (B,c,bt)) (a:c[j]?=some v) (g:Nat.blt t n=true)
 (k:St n ((t,v)::L) ops Q rest w):St n L ops Q (⟨some t,.load 38 x,ty,pos,aft,gd⟩::rest) w:=QcW (Qb (e.get i d) j v a) f b g k
theorem Qes (b:w.cell? ⟨B,j,none⟩=some v) (d:Gok ops n L gd) (c:Qy L x=some (.pointer (some ⟨B,j,none⟩))) (f:Nat.blt t n=true)
 (k:St n ((t,v)::L) ops Q rest w):St n L ops Q (⟨some t,.load 22 x,ty,pos,aft,gd⟩::rest) w :=
 Zb d Z f (fun g a=>by have e:=a _ _ c;simp[go_sem,e,b]) k
theorem Qbc (i:Nat){c:Array Value}(e:Wd w0 w Bs) (f:Gok ops n L gd) (b:Qy L x=some (.pointer (some ⟨B,j,none⟩))) (d:Bs[i]?=some (B,c,bt)) (a:c[j]?=some v) (g:Nat.blt t n=true)
 (k:St n ((t,v)::L) ops Q rest w):St n L ops Q (⟨some t,.load 22 x,ty,pos,aft,gd⟩::rest) w:=Qes (Qb (e.get i d) j v a) f b g k
theorem Qew {c:Array Value}(h:Blk w B c t) (j m:Nat) (e:Nat.ble (j+m) c.size=true):w.rangeAt B j ((c.toList.drop j).take m):=fun k v b=>by
 have a:k<((c.toList.drop j).take m).length:=(Zi b).1;have d:k<m:=by simp at a;omega
 rw[XR,Xs d,List.getElem?_drop] at b
 exact Qb h (j+k) v (by simpa using b)
theorem Qcw {c:Array Value}(h:Blk w B c t) (j n:Nat) (a:j+n<=c.size):w.there B j n:=fun k b =>
 ⟨by rw[Qb h (j+k) c[j+k] (by simp[show j+k<c.size by omega])];rfl,Qn h (j+k)⟩
theorem QS (h:w.rangeAt B j cs) (b:Below w.heap.size w w'):w'.rangeAt B j cs:=fun k v a=>Qk b (h k v a)
theorem sSE {d:TypeDesc}(g:prog.underlying ty2=some d) (i:d.isRow=true) (h:w.rangeAt B j cs) (c:(prog.info? ty2).map (·.size)=some cs.length) (l:Gok ops n L gd) (f:Qy L x=some (.pointer (some ⟨B,j,none⟩))) (m:Nat.blt t n=true)
 (k:St n ((t,.agg cs.toArray)::L) ops Q rest w):St n L ops Q (⟨some t,.load ty2 x,ty,pos,aft,gd⟩::rest) w :=
 Zb l Z m (fun o a=>by
  have e:=a _ _ f;have b:=run_loadAt_mid (P:=prog) w B j ty2 cs d h g i c;unfold execOp;simp only[e,Sem.run_bind,b,Result.andThen_ok,Sem.run_pure]) k
theorem sS {d:TypeDesc}(i m:Nat){c:Array Value}(f:prog.underlying ty2=some d) (l:d.isRow=true) (b:(prog.info? ty2).map (·.size)=some m) (h:Wd w0 w Bs) (o:Gok ops n L gd) (e:Qy L x=some (.pointer (some ⟨B,j,none⟩))) (g:Bs[i]?=some (B,c,bt)) (a:Nat.ble (j+m) c.size=true) (p:Nat.blt t n=true)
 (k:St n ((t,.agg ((c.toList.drop j).take m).toArray)::L) ops Q rest w):St n L ops Q (⟨some t,.load ty2 x,ty,pos,aft,gd⟩::rest) w :=
 sSE f l (Qew (h.get i g) j m a) (by rw[b];have:j+m<=c.size:=(by simpa[Nat.ble_eq] using a);simp;omega) o e p k
theorem QdO {o:Oper}(c:Array Value) (b:TypeId) (f:Wd w0 w Bs) (g:o.dst=some t) (j:Gok ops n L o.guard) (l:Nat.blt t n=true)
 (h:∀ ev:Operand->Value,(∀ x v,Qy L x=some v->ev x=v)->(execOp ev o).run prog w=.ok (.value (.pointer (some ⟨w.heap.size,0,none⟩))) (w.alloc (.cells c b)))
 (k:∀ w' B,Wd w0 w' ((B,c,b)::Bs)->New w w' B->St n ((t,.pointer (some ⟨B,0,none⟩))::L) ops Q rest w'):St n L ops Q (o::rest) w:=fun a d =>
 wpList_step fun K i=>by
  rw[Xs (j.on d)]
  unfold Oper.wp;rw[h a.eval (fun x v e=>d.ev e),Oper.upon_value,g]
  exact i _ _ (k _ _ (f.new' c b) ⟨QU w _,Z,by simp⟩ _ (d.put l))
theorem sB {cs:Array Value}(c:Wd w0 w Bs) (d:Gok ops n L gd) (b:Qy L x=some (.agg cs)) (f:Nat.blt t n=true)
 (k:∀ w' B,Wd w0 w' ((B,cs,ty2)::Bs)->New w w' B->St n ((t,.pointer (some ⟨B,0,none⟩))::L) ops Q rest w'):St n L ops Q (⟨some t,.box ty2 x,ty,pos,aft,gd⟩::rest) w :=
 QdO cs ty2 c Z d f (fun g a=>by have e:=a _ _ b;simp[go_sem,e]) k
theorem QhW (b:Wd w0 w Bs) (c:Gok ops n L gd) (d:Nat.blt t n=true)
 (k:∀ w' B,Wd w0 w' ((B,#[.int .i64 0,.int .i64 0,.slice none 0 0],70)::Bs)->New w w' B->St n ((t,.pointer (some ⟨B,0,none⟩))::L) ops Q rest w'):St n L ops Q (⟨some t,.alloc 70,ty,pos,aft,gd⟩::rest) w :=
 QdO #[.int .i64 0,.int .i64 0,.slice none 0 0] 70 b Z c d (fun e a=>by simp[go_sem]) k
theorem QjB (b:Wd w0 w Bs) (c:Gok ops n L gd) (d:Nat.blt t n=true)
 (k:∀ w' B,Wd w0 w' ((B,#[.int .i64 0,.int .i64 0,.int .i64 0,.int .i64 0,.int .i64 0,.int .i64 0,.slice none 0 0,.slice none 0 0],46)::Bs)->New w w' B->St n ((t,.pointer (some ⟨B,0,none⟩))::L) ops Q rest w'):St n L ops Q (⟨some t,.alloc 46,ty,pos,aft,gd⟩::rest) w :=
 QdO #[.int .i64 0,.int .i64 0,.int .i64 0,.int .i64 0,.int .i64 0,.int .i64 0,.slice none 0 0,.slice none 0 0] 46 b Z c d (fun e a=>by simp[go_sem]) k
theorem Qlv (b:Wd w0 w Bs) (c:Gok ops n L gd) (d:Nat.blt t n=true)
 (k:∀ w' B,Wd w0 w' ((B,#[.int .i64 0,.slice none 0 0,.slice none 0 0],56)::Bs)->New w w' B->St n ((t,.pointer (some ⟨B,0,none⟩))::L) ops Q rest w'):St n L ops Q (⟨some t,.alloc 56,ty,pos,aft,gd⟩::rest) w :=
 QdO #[.int .i64 0,.slice none 0 0,.slice none 0 0] 56 b Z c d (fun e a=>by simp[go_sem]) k
theorem Qlk (b:Wd w0 w Bs) (c:Gok ops n L gd) (d:Nat.blt t n=true)
 (k:∀ w' B,Wd w0 w' ((B,#[.int .i64 0,.int .i64 0,.int .i64 0,.slice none 0 0,.slice none 0 0,.int .i64 0,.slice none 0 0,.slice none 0 0,.slice none 0 0],58)::Bs)->New w w' B->St n ((t,.pointer (some ⟨B,0,none⟩))::L) ops Q rest w'):St n L ops Q (⟨some t,.alloc 58,ty,pos,aft,gd⟩::rest) w :=
 QdO #[.int .i64 0,.int .i64 0,.int .i64 0,.slice none 0 0,.slice none 0 0,.int .i64 0,.slice none 0 0,.slice none 0 0,.slice none 0 0] 58 b Z c d (fun e a=>by simp[go_sem]) k
theorem QeF (b:Wd w0 w Bs) (c:Gok ops n L gd) (d:Nat.blt t n=true)
 (k:∀ w' B,Wd w0 w' ((B,#[.int .i64 0,.slice none 0 0,.slice none 0 0,.int .i64 0,.int .i64 0,.int .i64 0,.slice none 0 0,.slice none 0 0,.int .i64 0,.slice none 0 0,.slice none 0 0,.slice none 0 0],60)::Bs)->New w w' B->St n ((t,.pointer (some ⟨B,0,none⟩))::L) ops Q rest w'):St n L ops Q (⟨some t,.alloc 60,ty,pos,aft,gd⟩::rest) w :=
 QdO #[.int .i64 0,.slice none 0 0,.slice none 0 0,.int .i64 0,.int .i64 0,.int .i64 0,.slice none 0 0,.slice none 0 0,.int .i64 0,.slice none 0 0,.slice none 0 0,.slice none 0 0] 60 b Z c d (fun e a=>by simp[go_sem]) k
theorem Qgr (b:Wd w0 w Bs) (c:Gok ops n L gd) (d:Nat.blt t n=true)
 (k:∀ w' B,Wd w0 w' ((B,#[.int .i64 0,.slice none 0 0,.slice none 0 0,.slice none 0 0],40)::Bs)->New w w' B->St n ((t,.pointer (some ⟨B,0,none⟩))::L) ops Q rest w'):St n L ops Q (⟨some t,.alloc 40,ty,pos,aft,gd⟩::rest) w :=
 QdO #[.int .i64 0,.slice none 0 0,.slice none 0 0,.slice none 0 0] 40 b Z c d (fun e a=>by simp[go_sem]) k
theorem QcU (b:Wd w0 w Bs) (c:Gok ops n L gd) (d:Nat.blt t n=true)
 (k:∀ w' B,Wd w0 w' ((B,#[.slice none 0 0],24)::Bs)->New w w' B->St n ((t,.pointer (some ⟨B,0,none⟩))::L) ops Q rest w'):St n L ops Q (⟨some t,.alloc 24,ty,pos,aft,gd⟩::rest) w :=
 QdO #[.slice none 0 0] 24 b Z c d (fun e a=>by simp[go_sem]) k
theorem ZY (b:Wd w0 w Bs) (c:Gok ops n L gd) (d:Nat.blt t n=true)
 (k:∀ w' B,Wd w0 w' ((B,#[.int .i64 0,.int .i64 0],30)::Bs)->New w w' B->St n ((t,.pointer (some ⟨B,0,none⟩))::L) ops Q rest w'):St n L ops Q (⟨some t,.alloc 30,ty,pos,aft,gd⟩::rest) w :=
 QdO #[.int .i64 0,.int .i64 0] 30 b Z c d (fun e a=>by simp[go_sem]) k
theorem Qgl (b:Wd w0 w Bs) (c:Gok ops n L gd) (d:Nat.blt t n=true)
 (k:∀ w' B,Wd w0 w' ((B,#[.bool false,.bool false,.bool false,.bool false,.bool false,.bool false,.bool false],144)::Bs)->New w w' B->St n ((t,.pointer (some ⟨B,0,none⟩))::L) ops Q rest w'):St n L ops Q (⟨some t,.alloc 144,ty,pos,aft,gd⟩::rest) w :=
 QdO #[.bool false,.bool false,.bool false,.bool false,.bool false,.bool false,.bool false] 144 b Z c d (fun e a=>by simp[go_sem]) k
theorem sT (i:Nat){c:Array Value}{b:List Value}(l:Wd w0 w Bs)
 (p:Qy L x=some (.pointer (some ⟨B,j,none⟩))) (r:Qy L y=some (.agg b.toArray)) (q:(prog.info? ty2).map (·.size)=some b.length) (o:b.all (·.oneCell')=true)
 (h:Bs[i]?=some (B,c,bt)) (g:Nat.ble (j+b.length) c.size=true)
 (k:∀ w',Wd w0 w' (Bs.set i (B,ZM c j b,bt))->St n L ops Q rest w'):St n L ops Q (⟨none,.store ty2 x y,ty,pos,aft,none⟩::rest) w:=fun a d=>by
 have s:j+b.length<=c.size:=by simpa[Nat.ble_eq] using g
 refine QjP d (l.setAt i h j b g Z Z) Z Z (fun K t=>?_) (fun w' f=>k w' f a d);have e:=d.ev p;have m:=d.ev r
 have:=run_storeAt_mid (P:=prog) w B j ty2 b.toArray (by simpa using Qcw (l.get i h) j b.length s) (by simpa using q) (by simpa using o)
 unfold Oper.wp execOp;simp only[e,m,Sem.run_bind,this,Result.andThen_ok,Sem.run_pure]
 rw[Oper.upon_skip];simpa[Act.put] using t
theorem s1 (i:Nat){c:Array Value}(o:(prog.info? ty2).map (·.size)=some 1) (r:Wd w0 w Bs)
 (t:Qy L x=some (.pointer (some ⟨B,j,none⟩))) (z:Qy L y=some v) (D:v.cells=#[v]) (G:v.oneCell'=true)
 (p:Bs[i]?=some (B,c,bt)) (h:Nat.ble (j+1) c.size=true)
 (k:∀ w',Wd w0 w' (Bs.set i (B,ZM c j [v],bt))->St n L ops Q rest w'):St n L ops Q (⟨none,.store ty2 x y,ty,pos,aft,none⟩::rest) w:=fun a b=>by
 have A:j+1<=c.size:=by simpa[Nat.ble_eq] using h
 refine QjP b (r.setAt i p j [v] h Z Z) Z Z (fun K F=>?_) (fun w' g=>k w' g a b);have e:=b.ev t;have C:=b.ev z;have s:=Qcw (r.get i p) j 1 A;have l:=run_storeCells_cells (P:=prog) B j [v] 0 w (fun k d=>by simpa using (s k (by simpa using d)).1) (fun k d=>by simpa using (s k (by simpa using d)).2) (fun u m=>by simp at m;subst m;exact G)
 have E:(Instr.storeAt ty2 (.pointer (some ⟨B,j,none⟩)) v).run prog w=.ok () (w.setCells B j [v]):=by
  cases hq:prog.info? ty2 with
  | none=>simp[hq] at o
  | some q =>
    have f:q.size=1:=by simpa[hq] using o
    simp only[Nat.add_zero] at l
    simp[Instr.storeAt,Instr.sureAddr,storeVar,sizeOf,typeInfo,hq,D,f,l]
 unfold Oper.wp execOp;simp only[e,C,Sem.run_bind,E,Result.andThen_ok,Sem.run_pure]
 rw[Oper.upon_skip];simpa[Act.put] using F
theorem Qfg {o:Oper}{f:FuncId}{args:Array Value}{V:Value}(g:Wd w0 w Bs) (l:Gok ops n L o.guard) (c:Rd prog f args w V) (i:o.dst=some t) (m:Nat.blt t n=true)
 (h:∀ ev:Operand->Value,(∀ x v,Qy L x=some v->ev x=v)->(execOp ev o).run prog w=.ok (.enter f args) w)
 (k:∀ w',Wd w0 w' Bs->St n ((t,V)::L) ops Q rest w'):St n L ops Q (o::rest) w:=fun a b =>
 wpList_step fun K j=>by
  rw[Xs (l.on b)]
  unfold Oper.wp;rw[h a.eval (fun x v e=>b.ev e),Oper.upon_enter]
  refine c.mono ?_;rintro e p ⟨rfl,d⟩;rw[i]
  exact j _ _ (k _ (g.below d) _ (b.put m))
def CF (f:FuncId):Prop:=∀ (args:Array Value) (w:World),(callFunc f args).run prog w=.ok (.enter f args) w
theorem ZO {f : FuncId} {fn : Func} (hf : prog.funcs[f]? = some fn) (h1 : (fn.name == "runtime.NumGoroutine") = false) (h2 : fn.body.isNone = false) : CF f := fun args w => by
 have h3 : ¬ fn.name = "runtime.NumGoroutine" := by simpa using h1
 have h4:¬ fn.body=none:=by intro h;rw[h] at h2;cases h2
 simp[callFunc,hf,h3,h4]
theorem QjO {f:FuncId}{d:Array TypeId}{V:Value}(b:CF f) (j:Wd w0 w Bs) (e:Rd prog f #[v0] w V) (l:Gok ops n L gd) (g:Qy L x0=some v0) (m:Nat.blt t n=true)
 (k:∀ w',Wd w0 w' Bs->St n ((t,V)::L) ops Q rest w'):St n L ops Q (⟨some t,.call { callee:=.value (.func f),args:=#[x0],argTypes:=d },ty,pos,aft,gd⟩::rest) w :=
 Qfg j l e Z m (fun o a=>by have i:=a _ _ g;have h:=a (.func f) _ Z;have c:=b;unfold CF at c;simp[go_sem,h,c,i]) k
theorem QdF {f:FuncId}{g:Array TypeId}{c:Operand}{d:Value}{V:Value}(b:CF f) (l:Wd w0 w Bs) (h:Rd prog f #[v0,d] w V) (q:Gok ops n L gd) (i:Qy L x0=some v0) (m:Qy L c=some d) (r:Nat.blt t n=true)
 (k:∀ w',Wd w0 w' Bs->St n ((t,V)::L) ops Q rest w'):St n L ops Q (⟨some t,.call { callee:=.value (.func f),args:=#[x0,c],argTypes:=g },ty,pos,aft,gd⟩::rest) w :=
 Qfg l q h Z r (fun s a=>by have p:=a _ _ i;have o:=a _ _ m;have j:=a (.func f) _ Z;have e:=b;unfold CF at e;simp[go_sem,j,e,p,o]) k
theorem Ql0 {f:FuncId}{i:Array TypeId}{c g:Operand}{e d:Value}{V:Value}(b:CF f) (v:Wd w0 w Bs) (p:Rd prog f #[v0,e,d] w V) (o:Gok ops n L gd) (q:Qy L x0=some v0) (u:Qy L c=some e) (l:Qy L g=some d) (x:Nat.blt t n=true)
 (k:∀ w',Wd w0 w' Bs->St n ((t,V)::L) ops Q rest w'):St n L ops Q (⟨some t,.call { callee:=.value (.func f),args:=#[x0,c,g],argTypes:=i },ty,pos,aft,gd⟩::rest) w :=
 Qfg v o p Z x (fun y a=>by have j:=a _ _ q;have s:=a _ _ u;have r:=a _ _ l;have m:=a (.func f) _ Z;have h:=b;unfold CF at h;simp[go_sem,m,h,j,s,r]) k
theorem Qlf {f:FuncId}{e:Array TypeId}{d:Operand}{V:Value}(b:CF f) (m:Wd w0 w Bs) (g:Rd prog f #[v0] w V) (o:Gok ops n L gd) (l:Qy L d=some (.func (.func f) #[] #[])) (h:Qy L x0=some v0) (p:Nat.blt t n=true)
 (k:∀ w',Wd w0 w' Bs->St n ((t,V)::L) ops Q rest w'):St n L ops Q (⟨some t,.call { callee:=.value d,args:=#[x0],argTypes:=e },ty,pos,aft,gd⟩::rest) w :=
 Qfg m o g Z p (fun q a=>by have j:=a _ _ h;have i:=a _ _ l;have c:=b;unfold CF at c;simp[go_sem,i,c,j]) k
theorem QkC {f:FuncId}{i:Array TypeId}{e:Operand}{d:Operand}{g c:Value}{V:Value}(b:CF f) (u:Wd w0 w Bs) (p:Rd prog f #[v0,g,c] w V) (o:Gok ops n L gd) (j:Qy L e=some (.func (.func f) #[] #[c])) (q:Qy L x0=some v0) (s:Qy L d=some g) (v:Nat.blt t n=true)
 (k:∀ w',Wd w0 w' Bs->St n ((t,V)::L) ops Q rest w'):St n L ops Q (⟨some t,.call { callee:=.value e,args:=#[x0,d],argTypes:=i },ty,pos,aft,gd⟩::rest) w :=
 Qfg u o p Z v (fun x a=>by have l:=a _ _ q;have r:=a _ _ s;have m:=a _ _ j;have h:=b;unfold CF at h;simp[go_sem,m,h,l,r]) k
theorem cf97:CF 97:=ZO func97 (by kernel_rfl) (by kernel_rfl)
theorem cf133:CF 133:=ZO func133 (by kernel_rfl) (by kernel_rfl)
theorem cf14:CF 14:=ZO func14 (by kernel_rfl) (by kernel_rfl)
theorem cf55:CF 55:=ZO func55 (by kernel_rfl) (by kernel_rfl)
theorem cf56:CF 56:=ZO func56 (by kernel_rfl) (by kernel_rfl)
theorem cf57:CF 57:=ZO func57 (by kernel_rfl) (by kernel_rfl)
theorem cf13:CF 13:=ZO func13 (by kernel_rfl) (by kernel_rfl)
theorem cf58:CF 58:=ZO func58 (by kernel_rfl) (by kernel_rfl)
theorem cf59:CF 59:=ZO func59 (by kernel_rfl) (by kernel_rfl)
theorem cf118:CF 118:=ZO func118 (by kernel_rfl) (by kernel_rfl)
theorem cf95:CF 95:=ZO func95 (by kernel_rfl) (by kernel_rfl)
theorem cf96:CF 96:=ZO func96 (by kernel_rfl) (by kernel_rfl)
theorem cf98:CF 98:=ZO func98 (by kernel_rfl) (by kernel_rfl)
theorem cf99:CF 99:=ZO func99 (by kernel_rfl) (by kernel_rfl)
theorem cf100:CF 100:=ZO func100 (by kernel_rfl) (by kernel_rfl)
theorem cf89:CF 89:=ZO func89 (by kernel_rfl) (by kernel_rfl)
theorem cf88:CF 88:=ZO func88 (by kernel_rfl) (by kernel_rfl)
theorem cf101:CF 101:=ZO func101 (by kernel_rfl) (by kernel_rfl)
theorem cf102:CF 102:=ZO func102 (by kernel_rfl) (by kernel_rfl)
theorem cf103:CF 103:=ZO func103 (by kernel_rfl) (by kernel_rfl)
theorem cf104:CF 104:=ZO func104 (by kernel_rfl) (by kernel_rfl)
theorem cf141:CF 141:=ZO func141 (by kernel_rfl) (by kernel_rfl)
theorem cf130:CF 130:=ZO func130 (by kernel_rfl) (by kernel_rfl)
theorem cf132:CF 132:=ZO func132 (by kernel_rfl) (by kernel_rfl)
theorem cf134:CF 134:=ZO func134 (by kernel_rfl) (by kernel_rfl)
theorem cf135:CF 135:=ZO func135 (by kernel_rfl) (by kernel_rfl)
theorem cf136:CF 136:=ZO func136 (by kernel_rfl) (by kernel_rfl)
theorem cf137:CF 137:=ZO func137 (by kernel_rfl) (by kernel_rfl)
theorem cf138:CF 138:=ZO func138 (by kernel_rfl) (by kernel_rfl)
theorem cf113:CF 113:=ZO func113 (by kernel_rfl) (by kernel_rfl)
theorem cf146:CF 146:=ZO func146 (by kernel_rfl) (by kernel_rfl)
theorem cf147:CF 147:=ZO func147 (by kernel_rfl) (by kernel_rfl)
theorem cf148:CF 148:=ZO func148 (by kernel_rfl) (by kernel_rfl)
theorem cf154:CF 154:=ZO func154 (by kernel_rfl) (by kernel_rfl)
theorem infType:(prog.info? 70).map (·.size)=some 3:=by kernel_rfl
theorem infIns:(prog.info? 46).map (·.size)=some 8:=by kernel_rfl
theorem infTo:(prog.info? 56).map (·.size)=some 3:=by kernel_rfl
theorem infEnd:(prog.info? 58).map (·.size)=some 9:=by kernel_rfl
theorem infBlock:(prog.info? 60).map (·.size)=some 12:=by kernel_rfl
theorem infFunc:(prog.info? 40).map (·.size)=some 4:=by kernel_rfl
theorem infModule:(prog.info? 24).map (·.size)=some 1:=by kernel_rfl
theorem infFault:(prog.info? 30).map (·.size)=some 2:=by kernel_rfl
theorem infFields:(prog.info? 144).map (·.size)=some 7:=by kernel_rfl
theorem inffuncLook:(prog.info? 93).map (·.size)=some 6:=by kernel_rfl
theorem infblockLook:(prog.info? 131).map (·.size)=some 19:=by kernel_rfl
theorem inf1Ints:(prog.info? 35).map (·.size)=some 1:=by kernel_rfl
theorem inf1Types:(prog.info? 33).map (·.size)=some 1:=by kernel_rfl
theorem inf1Inss:(prog.info? 25).map (·.size)=some 1:=by kernel_rfl
theorem inf1Blocks:(prog.info? 38).map (·.size)=some 1:=by kernel_rfl
theorem inf1Funcs:(prog.info? 22).map (·.size)=some 1:=by kernel_rfl
theorem QW {fn:Func}{R:Ending->World->Prop}{d:TypeDesc}(i:Nat){c:Array Value}(f:Fr n a L) (m:Wd w0 w Bs) (l:fn.results=#[.cell t ty]) (h:L.lookup t=some (.pointer (some ⟨B,0,none⟩))) (k:Bs[i]?=some (B,c,bt))
 (j:prog.underlying ty=some d) (p:d.isRow=true) (g:(prog.info? ty).map (·.size)=some c.size) (o:R (.returned (.agg c)) w):bodyPost prog fn R .ret a w:=by
 refine Xy ?_ f.defers o;have e:=f.sl2 t _ h;have b:=run_loadVar_mid (P:=prog) w B 0 ty c.toList d (by have:=Qew (m.get i k) 0 c.size (by simp[Nat.ble_eq]);rw[List.drop_zero,XO (by simp)] at this;exact this) j p (by simpa using g);simp only[Array.toArray_toList] at b
 simp[results,l,e,asAddr,b]
end
def QdH (B:Nat) (w w':World):Prop:=∀ k,k≠B->w'.heap[k]?=w.heap[k]?
theorem Lay.keep1 {α:Type}{A:Lay α}{x:α}(h:A.In w (fun g=>lo<=g) x cs) (a:QdH B w w') (b:B<lo):A.In w' (fun g=>lo<=g) x cs :=
 A.keep (fun k c _=>a k (by omega)) (fun _ h _=>h) h
theorem Yd:type_of% @Lay.keep1:=@Lay.keep1
theorem Qae (w:World) (B j:Nat) (a:List Value):QdH B w (w.setCells B j a):=fun k b=>ZU b a j w
section
variable {n:Nat}{a:Act}{L:List (Tmp × Value)}{w0 w:World}{Bs:List (Nat × Array Value × TypeId)}{Q:Exit->Act->World->Prop}{ops:Array Oper}{rest:List Oper}{t:Tmp}{u v:Value}{ty ty2 ty3:TypeId}{pos:String}{aft:Array Edge}{gd:Option (Nat × Bool)}{x y:Operand}
theorem sTk (i:Nat){c:Array Value}{b:List Value}(h:Wd w0 w Bs)
 (o:Qy L x=some (.pointer (some ⟨B,j,none⟩))) (q:Qy L y=some (.agg b.toArray)) (p:(prog.info? ty2).map (·.size)=some b.length) (m:b.all (·.oneCell')=true)
 (g:Bs[i]?=some (B,c,bt)) (f:Nat.ble (j+b.length) c.size=true)
 (k:∀ w',QdH B w w'->Wd w0 w' (Bs.set i (B,ZM c j b,bt))->St n L ops Q rest w'):St n L ops Q (⟨none,.store ty2 x y,ty,pos,aft,none⟩::rest) w:=fun a d=>by
 have r:j+b.length<=c.size:=by simpa[Nat.ble_eq] using f
 refine Qez d Z Z (fun K s=>?_) (k (w.setCells B j b) (Qae w B j b) (h.setAt i g j b f Z Z) a d);have e:=d.ev o;have l:=d.ev q
 have:=run_storeAt_mid (P:=prog) w B j ty2 b.toArray (by simpa using Qcw (h.get i g) j b.length r) (by simpa using p) (by simpa using m)
 unfold Oper.wp execOp;simp only[e,l,Sem.run_bind,this,Result.andThen_ok,Sem.run_pure]
 rw[Oper.upon_skip];simpa[Act.put] using s
theorem s1k (i:Nat){c:Array Value}(g:(prog.info? ty2).map (·.size)=some 1) (p:Wd w0 w Bs)
 (t:Qy L x=some (.pointer (some ⟨B,j,none⟩))) (C:Qy L y=some v) (D:v.cells=#[v]) (A:v.oneCell'=true)
 (o:Bs[i]?=some (B,c,bt)) (l:Nat.ble (j+1) c.size=true)
 (k:∀ w',QdH B w w'->Wd w0 w' (Bs.set i (B,ZM c j [v],bt))->St n L ops Q rest w'):St n L ops Q (⟨none,.store ty2 x y,ty,pos,aft,none⟩::rest) w:=fun a b=>by
 have E:j+1<=c.size:=by simpa[Nat.ble_eq] using l
 refine Qez b Z Z (fun K F=>?_) (k (w.setCells B j [v]) (Qae w B j [v]) (p.setAt i o j [v] l Z Z) a b);have e:=b.ev t;have z:=b.ev C;have r:=Qcw (p.get i o) j 1 E;have h:=run_storeCells_cells (P:=prog) B j [v] 0 w (fun k f=>by simpa using (r k (by simpa using f)).1) (fun k f=>by simpa using (r k (by simpa using f)).2) (fun u m=>by simp at m;subst m;exact A)
 have s:(Instr.storeAt ty2 (.pointer (some ⟨B,j,none⟩)) v).run prog w=.ok () (w.setCells B j [v]):=by
  cases hq:prog.info? ty2 with
  | none=>simp[hq] at g
  | some q =>
    have d:q.size=1:=by simpa[hq] using g
    simp only[Nat.add_zero] at h
    simp[Instr.storeAt,Instr.sureAddr,storeVar,sizeOf,typeInfo,hq,D,d,h]
 unfold Oper.wp execOp;simp only[e,z,Sem.run_bind,s,Result.andThen_ok,Sem.run_pure]
 rw[Oper.upon_skip];simpa[Act.put] using F
theorem Qiy {o:Oper}{f:FuncId}{args:Array Value}{R:Value->World->Prop}(g:Wd w0 w Bs) (m:Gok ops n L o.guard)
 (d:Calls prog f args w fun e w'=>∃ v,e=.returned v/\R v w'/\Below w.heap.size w w') (j:o.dst=some t) (p:Nat.blt t n=true)
 (h:∀ ev:Operand->Value,(∀ x v,Qy L x=some v->ev x=v)->(execOp ev o).run prog w=.ok (.enter f args) w)
 (k:∀ v w',R v w'->Below w.heap.size w w'->Wd w0 w' Bs->St n ((t,v)::L) ops Q rest w'):St n L ops Q (o::rest) w:=fun a b =>
 wpList_step fun K l=>by
  rw[Xs (m.on b)]
  unfold Oper.wp;rw[h a.eval (fun x v e=>b.ev e),Oper.upon_enter]
  refine d.mono ?_;rintro e q ⟨v,rfl,i,c⟩;rw[j]
  exact l _ _ (k _ _ i c (g.below c) _ (b.put p))
theorem QlR {f:FuncId}{d:Array TypeId}{R:Value->World->Prop}(b:CF f) (l:Wd w0 w Bs) (g:Calls prog f #[v0] w fun e w'=>∃ v,e=.returned v/\R v w'/\Below w.heap.size w w') (m:Gok ops n L gd) (h:Qy L x0=some v0) (o:Nat.blt t n=true)
 (k:∀ v w',R v w'->Below w.heap.size w w'->Wd w0 w' Bs->St n ((t,v)::L) ops Q rest w'):St n L ops Q (⟨some t,.call { callee:=.value (.func f),args:=#[x0],argTypes:=d },ty,pos,aft,gd⟩::rest) w :=
 Qiy l m g Z o (fun p a=>by have j:=a _ _ h;have i:=a (.func f) _ Z;have c:=b;unfold CF at c;simp[go_sem,i,c,j]) k
theorem QkB {f:FuncId}{h:Array TypeId}{c:Operand}{d:Value}{R:Value->World->Prop}(b:CF f) (m:Wd w0 w Bs) (i:Calls prog f #[v0,d] w fun e w'=>∃ v,e=.returned v/\R v w'/\Below w.heap.size w w') (r:Gok ops n L gd) (j:Qy L x0=some v0) (o:Qy L c=some d) (s:Nat.blt t n=true)
 (k:∀ v w',R v w'->Below w.heap.size w w'->Wd w0 w' Bs->St n ((t,v)::L) ops Q rest w'):St n L ops Q (⟨some t,.call { callee:=.value (.func f),args:=#[x0,c],argTypes:=h },ty,pos,aft,gd⟩::rest) w :=
 Qiy m r i Z s (fun u a=>by have q:=a _ _ j;have p:=a _ _ o;have l:=a (.func f) _ Z;have g:=b;unfold CF at g;simp[go_sem,l,g,q,p]) k
theorem QjL {f:FuncId}{g:Array TypeId}{d:Operand}{R:Value->World->Prop}(b:CF f) (o:Wd w0 w Bs) (h:Calls prog f #[v0] w fun e w'=>∃ v,e=.returned v/\R v w'/\Below w.heap.size w w') (p:Gok ops n L gd) (m:Qy L d=some (.func (.func f) #[] #[])) (i:Qy L x0=some v0) (q:Nat.blt t n=true)
 (k:∀ v w',R v w'->Below w.heap.size w w'->Wd w0 w' Bs->St n ((t,v)::L) ops Q rest w'):St n L ops Q (⟨some t,.call { callee:=.value d,args:=#[x0],argTypes:=g },ty,pos,aft,gd⟩::rest) w :=
 Qiy o p h Z q (fun r a=>by have l:=a _ _ i;have j:=a _ _ m;have c:=b;unfold CF at c;simp[go_sem,j,c,l]) k
end
theorem XM:type_of% @Nat.one_mul:=@Nat.one_mul
theorem Qbg {B:Nat}{t:TypeId}:∀ (vs:List Value) (w:World) (c:Array Value) (j:Nat),Blk w B c t->j+vs.length<=c.size->Blk (w.setCells B j vs) B (ZM c j vs) t
 | [],w,c,j,h,hs=>by
   have:ZM c j []=c:=by unfold ZM;simp
   rw[this];exact h
 | v::vs,w,c,j,h,hs=>by
   have:=Qbg vs (w.setCell ⟨B,j,none⟩ v) (c.setIfInBounds j v) (j+1) (Qq h j v) (by simp at hs |-;omega)
   rw[QcL _ _ _ _ hs] at this
   exact this
theorem Qag {B b:Nat}(a:B<=b):∀ (vs:List Value) (w w0:World) (j:Nat),Below B w0 w->Below B w0 (w.setCells b j vs)
 | [],w,w0,j,h=>h
 | v::vs,w,w0,j,h=>Qag a vs _ _ _ (h.setCell a v)
theorem QdG (w:World) (b j:Nat) (c:List Value):w.grownBy (w.setCells b j c) (some b):=by
 have h:=Qag (Xb b) c w w j (Below.refl 0 w);exact⟨h.os,h.tape,h.output,h.size,fun k d a=>ZU (fun e=>a (by rw[e])) c j w⟩
section
variable {α:Type}{A:Lay α}{e:TypeId}{w:World}{lo g n:Nat}{l:List α}{xs:List Value}
theorem ZI.fill (h:ZI A e w lo (.slice (some ⟨g,0,none⟩) l.length n) l xs){x:α}(j:A.In w (fun k=>lo<=k/\k≠g) x ds) (p:l.length<n) :
 ZI A e (w.setCells g (l.length*A.size) ds) lo (.slice (some ⟨g,0,none⟩) (l.length+1) n) (l++[x]) (xs++ds):=by
 have b:=A.len j;refine ZI.push h (Yc j (fun k m _=>⟨m.1,fun e=>m.2 (by simpa[Value.ownBlock] using e.symm)⟩)) (QdG w g _ ds) (.inl Z) ?_;obtain⟨o,r⟩:=h.own
 rcases r with ⟨d,_⟩|⟨y,q,c,d,s,v,t,i,f,a⟩
 ·simp at d
 ·simp only[Value.slice.injEq,Option.some.injEq,Addr.mk.injEq,and_true,true_and] at d
  obtain⟨rfl,rfl⟩:=d
  have u:(l.length+1)*A.size<=n*A.size:=Xp _ p;rw[Nat.add_mul,XM] at u
  refine⟨by rw[List.length_append,o,b,Nat.add_mul,XM],.inr ⟨g,n,ZM c (l.length*A.size) ds,Z,s,Qbg ds w c _ v (by omega),p,i,?_,?_⟩⟩
  ·rw[<-f];unfold ZM;simp;omega
  ·unfold ZM;rw[a,Nat.add_mul,XM]
   rw[show l.length*A.size+A.size=(xs++ds).length by rw[List.length_append,o,b],List.toList_toArray,<-List.append_assoc]
   exact List.take_left' Z
end
section
variable {P:Program}{Q:Exit->Act->World->Prop}
def QaL (l:List Oper) (S:Nat->Bool):Prop:=∀ (j:Nat) (o:Oper),l[j]?=some o->S j=true->∀ e∈o.after,Region.binds .any e=true->S e.on=true
def Qis (o:Oper) (S:Nat->Bool):Prop:=∀ e∈o.after,Region.binds .any e=true->S e.on=true
theorem Qis.at {o:Oper}{S:Nat->Bool}(h:Qis o S) (j:Nat) (a:Qgz o j=true):S j=true:=by
 obtain⟨e,b,c,rfl⟩:=Qh5 a
 exact h e b c
def Qbz (i:Nat) (S:Nat->Bool):Nat->Bool:=fun j=>j==i||S j
def QbG (P:Program) (l:List Oper) (I:(Nat->Bool)->Act->World->Prop):Nat->List Oper->Prop
 | _,[]=>True
 | i,o::r=>(∀ (S:Nat->Bool) (a:Act) (w:World),S i=false->Qis o S->QaL l S->I S a w->∀ K:Act->World->Prop,(∀ a' w',I (Qbz i S) a' w'->K a' w')->o.wp P a w K (fun _ _ _=>False))/\QbG P l I (i+1) r
theorem QgL {l:List Oper}{I:(Nat->Bool)->Act->World->Prop}:∀ (r:List Oper) (k i:Nat) (o:Oper),QbG P l I k r->r[i]?=some o ->
 ∀ (S:Nat->Bool) (a:Act) (w:World),S (k+i)=false->Qis o S->QaL l S->I S a w->∀ K:Act->World->Prop,(∀ a' w',I (Qbz (k+i) S) a' w'->K a' w')->o.wp P a w K (fun _ _ _=>False)
 | [],_,_,_,_,h=>by simp at h
 | x::r,k,0,o,h,ho=>by simp at ho;subst ho;exact h.1
 | x::r,k,i+1,o,h,ho=>by
   simp at ho
   have:=QgL r (k+1) i o h.2 ho
   rwa [show k+1+i=k+(i+1) by omega] at this
theorem QhD {l:List Oper}(W:QbI 0 l=true) (U:(l.all fun o=>o.guard.isNone)=true) (I:(Nat->Bool)->Act->World->Prop) (G:QbG P l I 0 l)
 (t:∀ S a w,(∀ j,j<l.length->S j=true)->I S a w->Q .normal a w) :
 ∀ (fuel:Nat) (listed:Array Bool) (a:Act) (w:World),listed.size=l.length->(listed.toList.filter (·==false)).length<=fuel->QaL l (fun j=>listed.getD j false)->I (fun j=>listed.getD j false) a w ->
  wpAny P .any l.toArray Q fuel listed a w:=by
 have r:∀ (listed:Array Bool) (a:Act) (w:World),listed.size=l.length->Region.ready .any l.toArray listed=[]->I (fun j=>listed.getD j false) a w->Q .normal a w:=by
  intro listed a w q n m;refine t _ a w ?_ m;intro j
  induction j using Nat.strongRecOn with
  | _ j ih =>
    intro p
    cases hc:listed.getD j false with
    | true=>rfl
    | false =>
      exfalso
      have H:j<listed.size:=by omega
      have A:listed.getD j true=false:=by simp[Array.getD,H] at hc |-;exact hc
      have:j∈Region.ready .any l.toArray listed:=ZE.2 ⟨by simpa using p,A,l[j],by simp[p],fun e v b=>by
       have:=back_at l 0 j l[j] W (by simp[p]) e v b
       exact ih e.on (by omega) (by omega)⟩
      rw[n] at this;cases this
 intro fuel
 induction fuel with
 | zero =>
   intro listed a w q O k m
   have n:Region.ready .any l.toArray listed=[]:=by
    rw[List.eq_nil_iff_forall_not_mem]
    intro i F;obtain⟨K,s,_⟩:=ZE.1 F
    have J:i<l.length:=by simpa using K
    have:listed[i]'(by omega)=false:=by
     simp[Array.getD,show i<listed.size by omega] at s;exact s
    have V:false∈listed.toList.filter (·==false):=List.mem_filter.2 ⟨by rw[<-this];simp,by simp⟩
    have:=List.length_pos_of_mem V
    omega
   exact⟨n,r listed a w q n m⟩
 | succ fuel ih =>
   intro listed a w q O k m;refine⟨fun n=>r listed a w q n m,fun i F=>?_⟩
   obtain⟨K,s,o,y,d⟩:=ZE.1 F
   have J:i<l.length:=by simpa using K
   have c:i<listed.size:=by omega
   have f:listed[i]=false:=by simp[Array.getD,c] at s;exact s
   have C:listed.getD i false=false:=by simp[Array.getD,c,f]
   have u:((listed.setIfInBounds i true).toList.filter (·==false)).length<=fuel:=by
    have h3:=filter_set listed.toList i (by simpa using c) (by simpa using f);rw[Array.toList_setIfInBounds]
    omega
   have g:(fun j=>(listed.setIfInBounds i true).getD j false)=Qbz i (fun j=>listed.getD j false):=by
    funext j
    unfold Qbz;by_cases e:j=i
    ·subst e;simp[Array.getD,c]
    ·have L:i≠j:=fun x=>e x.symm;rw[Za,Array.getElem?_setIfInBounds_ne L,<-Za]
     simp[e]
   unfold wpOp;rw[y]
   simp only
   have D:o.guard=none:=by
    have:=Xe.1 U o (Zm (by simpa using y))
    simpa using this
   have hw:Region.wanted o (yielded l.toArray a.tmps)=true:=by unfold Region.wanted;rw[D]
   rw[hw,Xs Z]
   have h:=QgL l 0 i o G (by simpa using y) (fun j=>listed.getD j false) a w (by rw[XK];exact C) d k m;rw[XK] at h
   refine .inl (wpq (fun T R X=>X) (h _ fun T R B=>?_));refine ih _ _ _ (by simpa using q) u ?_ (by rw[g];exact B);rw[g]
   intro j N p E e v b;unfold Qbz at E |-;by_cases M:j=i
   ·subst M;have z:some N=some o:=by rw[<-p];simpa using y
    cases z
    have:=d e v b
    simp[this]
   ·have:(j==i)=false:=by simpa using M
    rw[this,Bool.false_or] at E
    have:=k j N p E e v b
    simp only at this
    simp[this]
theorem QbZ {l:List Oper}{a:Act}(I:(Nat->Bool)->Act->World->Prop) (i:P.follows .mixedOrders=true) (e:(QbI 0 l&&(l.all fun o=>o.guard.isNone))=true) (g:I (fun _=>false) a w.drew) (d:QbG P l I 0 l)
 (b:∀ S a w,(∀ j,j<l.length->S j=true)->I S a w->Q .normal a w):(Code.region id l.toArray true).wp P Q a w:=by
 rw[Bool.and_eq_true] at e
 have f:(fun j=>(Array.replicate l.length false).getD j false)=fun _=>false:=by
  funext j
  rw[Za,Array.getElem?_replicate]
  split<;>rfl
 have c:=QhD (Q:=Q) e.1 e.2 I d b l.length (Array.replicate l.length false) a w.drew (by simp) (Zt (List.length_filter_le _ _) (by simp)) (by rw[f];intro j o _ h;cases h) (by rw[f];exact g);refine wp_region_any i ?_;simpa using c
end
structure DI (n:Nat) (a0:Act) (w00:World) (ds:List Tmp) (Ti:List (Nat × Tmp)) (Ai:List (Nat × Tmp × Nat × TypeId)) (Oi:List (Nat × Tmp × Nat × TypeId)) (M:List (Tmp × Value)) (C:List (Tmp × List Value)) (S:Nat->Bool) (a:Act) (w:World):Prop where
 size:a.tmps.size=n
 defers:a.defers=[]
 outer:∀ t,ds.contains t=false->a.tmps.getD t undef=a0.tmps.getD t undef
 bel:Below w00.heap.size w00 w
 vals:∀ x∈Ti,S x.1=true->∀ v,M.lookup x.2=some v->a.tmps.getD x.2 undef=v
 new:∀ x∈Ai,S x.1=true->∃ B,a.tmps.getD x.2.1 undef=.pointer (some ⟨B,0,none⟩)/\w00.heap.size<=B/\∃ c,Blk w B c x.2.2.2/\c.size=x.2.2.1
 ne:∀ x∈Ai,∀ y∈Ai,x.2.1≠y.2.1->S x.1=true->S y.1=true->a.tmps.getD x.2.1 undef≠a.tmps.getD y.2.1 undef
 did:∀ x∈Oi,S x.1=true->∀ c,C.lookup x.2.1=some c->∃ B,a.tmps.getD x.2.1 undef=.pointer (some ⟨B,0,none⟩)/\Blk w B c.toArray x.2.2.2
def diB (l:List Oper) (n:Nat) (Ti:List (Nat × Tmp)) (Ai Oi:List (Nat × Tmp × Nat × TypeId)):Bool :=
 (nodupB (Ti.map (·.1))&&nodupB (Ai.map (·.1))&&nodupB (Oi.map (·.1)))&&(nodupB (Ti.map (·.2)++Ai.map (·.2.1))&&nodupB (Oi.map (·.2.1))&&((Ti.map (·.2)++Ai.map (·.2.1)).all fun t=>decide (t<n)&&(Qu l).contains t) &&
 (Oi.all fun x=>Ai.any fun y=>y.2.1==x.2.1&&y.2.2.1==x.2.2.1&&y.2.2.2==x.2.2.2&&(match l[x.1]? with | some o=>Qgz o y.1 | none=>false)))
theorem Qcx {l1 l2:List Tmp}:∀ {t:Tmp},nodupB (l1++l2)=true->t∈l1->t∈l2->False:=by
 induction l1 with
 | nil=>intro t _ h;cases h
 | cons x r ih =>
   intro t h a b;simp only[List.cons_append,nodupB,Bool.and_eq_true,Bool.not_eq_true'] at h
   rcases List.mem_cons.1 a with rfl | a
   ·have:=h.1
    simp at this
    exact this.2 b
   ·exact ih h.2 a b
theorem Qad {α:Type}{f:α->Tmp}:∀ {l:List α},nodupB (l.map f)=true->∀ x∈l,∀ y∈l,f x=f y->x=y
 | [],_,_,h,_,_,_=>by cases h
 | z::r,h,x,hx,y,hy,e=>by
   simp only[List.map_cons,nodupB,Bool.and_eq_true,Bool.not_eq_true'] at h
   have c:∀ u∈r,f u≠f z:=fun u d e=>by
    have:=h.1
    simp at this
    exact this u d e
   rcases List.mem_cons.1 hx with b | b
   ·rcases List.mem_cons.1 hy with a | a
    ·rw[b,a]
    ·exact absurd e.symm (b ▸ c y a)
   ·rcases List.mem_cons.1 hy with a | a
    ·exact absurd e (a ▸ c x b)
    ·exact Qad h.2 x b y a e
theorem QeQ {l1 l2:List Tmp}(h:nodupB (l1++l2)=true):nodupB l2=true:=by
 induction l1 with
 | nil=>exact h
 | cons x r ih =>
   simp only[List.cons_append,nodupB,Bool.and_eq_true,Bool.not_eq_true'] at h
   exact ih h.2
section
variable {n i:Nat}{a0 a:Act}{w00 w w':World}{l:List Oper}{Ti:List (Nat × Tmp)}{Ai Oi:List (Nat × Tmp × Nat × TypeId)}{M:List (Tmp × Value)}{C:List (Tmp × List Value)}{S:Nat->Bool}{t:Tmp}{v:Value}{s:Nat}{ty:TypeId}
theorem Zp {u:Tmp}(h:t<a.tmps.size):(a.put (some t) v).tmps.getD u undef=if u=t then v else a.tmps.getD u undef:=by
 by_cases e:u=t
 ·subst e;simp[Act.put,Array.getD,h]
 ·rw[Xr e]
  have b:t≠u:=fun x=>e x.symm;rw[Za,Za]
  simp only[Act.put]
  rw[Array.getElem?_setIfInBounds_ne b]
theorem Zf (a:j≠i) (h:Qbz i S j=true):S j=true:=by
 have:(j==i)=false:=by simpa using a
 unfold Qbz at h;rwa [this,Bool.false_or] at h
theorem DI.pure (O:diB l n Ti Ai Oi=true) (j:DI n a0 w00 (Qu l) Ti Ai Oi M C S a w) (P:(i,t)∈Ti) (W:M.lookup t=some v) (hS:S i=false) (H:Below w.heap.size w w')
 (D:(Ai.all fun x=>x.1 != i)=true) (s:(Oi.all fun x=>x.1 != i)=true):DI n a0 w00 (Qu l) Ti Ai Oi M C (Qbz i S) (a.put (some t) v) w':=by
 simp only[diB,Bool.and_eq_true] at O
 obtain⟨I,⟨⟨N,Q⟩,q⟩,V⟩:=O
 have p:t∈Ti.map (·.2):=List.mem_map.2 ⟨(i,t),P,Z⟩;have F:=Xe.1 q t (List.mem_append_left _ p);simp only[Bool.and_eq_true,decide_eq_true_eq] at F
 have g:t<a.tmps.size:=by rw[j.size];exact F.1
 have d:∀ x∈Ai,x.2.1≠t:=fun x b e=>Qcx N p (e ▸ List.mem_map.2 ⟨x,b,Z⟩)
 have r:∀ x∈Oi,x.2.1≠t:=fun x b e=>by
  obtain⟨y,m,R⟩:=List.any_eq_true.1 (Xe.1 V x b)
  simp only[Bool.and_eq_true,beq_iff_eq] at R
  exact d y m (R.1.1.1.trans e)
 have K:∀ x∈Ai,Qbz i S x.1=true->S x.1=true:=fun x b h=>Zf (by have:=Xe.1 D x b;simpa using this) h;have L:∀ x∈Oi,Qbz i S x.1=true->S x.1=true:=fun x b h=>Zf (by have:=Xe.1 s x b;simpa using this) h;refine⟨by rw[<-j.size];simp[Act.put],j.defers,fun u k=>?_,Xl j.bel H,fun x b o u k=>?_,fun x b o=>?_,fun x b y m A E G=>?_,fun x b o c T=>?_⟩
 ·have:u≠t:=fun e=>by subst e;rw[F.2] at k;cases k
  rw[Zp g,Xr this];exact j.outer u k
 ·rw[Zp g]
  by_cases e:x.2=t
  ·rw[Xs e];rw[e,W] at k;exact Xn k
  ·rw[Xr e]
   refine j.vals x b (Zf (fun U=>e ?_) o) u k;exact congrArg (·.2) (Qad (f:=fun x:Nat × Tmp=>x.1) I.1.1 x b (i,t) P U)
 ·obtain⟨B,J,z,c,h3,X⟩:=j.new x b (K x b o)
  exact⟨B,by rw[Zp g,Xr (d x b)];exact J,z,c,h3.below H,X⟩
 ·rw[Zp g,Xr (d x b),Zp g,Xr (d y m)]
  exact j.ne x b y m A (K x b E) (K y m G)
 ·obtain⟨B,J,z⟩:=j.did x b (L x b o) c T
  exact⟨B,by rw[Zp g,Xr (r x b)];exact J,z.below H⟩
theorem DI.alloc (hB:diB l n Ti Ai Oi=true) (g:DI n a0 w00 (Qu l) Ti Ai Oi M C S a w) (U:(i,t,s,ty)∈Ai){c:Array Value}(hc:c.size=s) (hS:S i=false) (Q:QaL l S)
 (aa:(Ti.all fun x=>x.1 != i)=true) (T:(Oi.all fun x=>x.1 != i)=true):DI n a0 w00 (Qu l) Ti Ai Oi M C (Qbz i S) (a.put (some t) (.pointer (some ⟨w.heap.size,0,none⟩))) (w.alloc (.cells c ty)):=by
 simp only[diB,Bool.and_eq_true] at hB
 obtain⟨ab,⟨⟨L,ac⟩,H⟩,hO⟩:=hB
 have W:Below w.heap.size w (w.alloc (.cells c ty)):=QU w _;have K:t∈Ai.map (·.2.1):=List.mem_map.2 ⟨(i,t,s,ty),U,Z⟩;have V:=Xe.1 H t (List.mem_append_right _ K);simp only[Bool.and_eq_true,decide_eq_true_eq] at V
 have d:t<a.tmps.size:=by rw[g.size];exact V.1
 have G:∀ x∈Ti,x.2≠t:=fun x b e=>Qcx L (e ▸ List.mem_map.2 ⟨x,b,Z⟩) K;have z:∀ x∈Ai,x.2.1=t->x=(i,t,s,ty):=fun x b e=>Qad (f:=fun x:Nat × Tmp × Nat × TypeId=>x.2.1) (QeQ L) x b _ U e;have j:∀ x∈Ai,x.2.1≠t->Qbz i S x.1=true->S x.1=true:=fun x b p h=>Zf (fun e=>p (congrArg (·.2.1) (Qad (f:=fun x:Nat × Tmp × Nat × TypeId=>x.1) ab.1.2 x b _ U e))) h;refine⟨by rw[<-g.size];simp[Act.put],g.defers,fun u D=>?_,Xl g.bel W,fun x b k u D=>?_,fun x b k=>?_,fun x b y v E F I=>?_,fun x b k N P=>?_⟩
 ·have:u≠t:=fun e=>by subst e;rw[V.2] at D;cases D
  rw[Zp d,Xr this];exact g.outer u D
 ·rw[Zp d,Xr (G x b)]
  exact g.vals x b (Zf (by have:=Xe.1 aa x b;simpa using this) k) u D
 ·by_cases e:x.2.1=t
  ·rw[z x b e]
   exact⟨w.heap.size,by rw[Zp d,Xs Z],g.bel.size,c,Blk.new w c ty,hc⟩
  ·obtain⟨B,J,O,N,X,h4⟩:=g.new x b (j x b e k)
   exact⟨B,by rw[Zp d,Xr e];exact J,O,N,X.below W,h4⟩
 ·have lt:∀ x∈Ai,x.2.1≠t->Qbz i S x.1=true->a.tmps.getD x.2.1 undef≠.pointer (some ⟨w.heap.size,0,none⟩):=fun x b e k h=>by
   obtain⟨B,J,O,N,X,h4⟩:=g.new x b (j x b e k)
   rw[J] at h
   simp at h
   have:=X.lt
   omega
  by_cases q:x.2.1=t
  ·by_cases m:y.2.1=t
   ·exact absurd (q.trans m.symm) E
   ·rw[Zp d,Xs q,Zp d,Xr m]
    exact fun h=>lt y v m I h.symm
  ·by_cases m:y.2.1=t
   ·rw[Zp d,Xr q,Zp d,Xs m]
    exact lt x b q F
   ·rw[Zp d,Xr q,Zp d,Xr m]
    exact g.ne x b y v E (j x b q F) (j y v m I)
 ·have A:S x.1=true:=Zf (by have:=Xe.1 T x b;simpa using this) k
  have p:x.2.1≠t:=fun e=>by
   obtain⟨y,v,r⟩:=List.any_eq_true.1 (Xe.1 hO x b)
   simp only[Bool.and_eq_true,beq_iff_eq] at r
   have R:=z y v (r.1.1.1.trans e)
   cases ho:l[x.1]? with
   | none=>rw[ho] at r;simp at r
   | some o =>
     rw[ho] at r
     have:=Qis.at (Q x.1 o ho A) y.1 r.2
     rw[R] at this
     simp only at this
     rw[hS] at this
     cases this
  obtain⟨B,J,O⟩:=g.did x b A N P
  exact⟨B,by rw[Zp d,Xr p];exact J,O.below W⟩
theorem DI.box (d:DI n a0 w00 (Qu l) Ti Ai Oi M C S a w) (e:(i,t,s,ty)∈Ai) (b:S i=true):∃ B,a.tmps.getD t undef=.pointer (some ⟨B,0,none⟩)/\w00.heap.size<=B/\∃ c,Blk w B c ty/\c.size=s:=d.new _ e b
theorem Qj0 {c:Array Value}{ty:TypeId}(h:Blk w B c ty) (a:c.size=cs.length):Blk (w.setCells B 0 cs) B cs.toArray ty:=by
 have:=Qbg cs w c 0 h (by omega)
 have e:ZM c 0 cs=cs.toArray:=by
  unfold ZM;have b:c.toList.drop (0+cs.length)=[]:=List.drop_of_length_le (by simp[a]);rw[b];simp
 rwa [e] at this
theorem DI.store (W:diB l n Ti Ai Oi=true) (g:DI n a0 w00 (Qu l) Ti Ai Oi M C S a w) (hi:(i,t,s,ty)∈Oi){c:Array Value}(hj:(j,t,s,ty)∈Ai) (L:S j=true) (hv:a.tmps.getD t undef=.pointer (some ⟨B,0,none⟩)) (v:Blk w B c ty) (ab:c.size=s) (I:w00.heap.size<=B) (hC:C.lookup t=some cs) (ac:cs.length=s) (hS:S i=false) (G:QaL l S)
 (R:(Ti.all fun x=>x.1 != i)=true) (J:(Ai.all fun x=>x.1 != i)=true):DI n a0 w00 (Qu l) Ti Ai Oi M C (Qbz i S) a (w.setCells B 0 cs):=by
 simp only[diB,Bool.and_eq_true] at W
 obtain⟨T,⟨⟨ad,z⟩,aa⟩,hO⟩:=W
 have X:=Qae w B 0 cs;have k:=Qj0 (cs:=cs) v (by omega);have V:∀ x∈Ai,Qbz i S x.1=true->S x.1=true:=fun x b h=>Zf (by have:=Xe.1 J x b;simpa using this) h;refine⟨g.size,g.defers,g.outer,Qag I cs w w00 0 g.bel,fun x b q u hu=>?_,fun x b q=>?_,fun x b y D H N Q=>g.ne x b y D H (V x b N) (V y D Q),fun x b q E d=>?_⟩
 ·exact g.vals x b (Zf (by have:=Xe.1 R x b;simpa using this) q) u hu
 ·obtain⟨m,A,F,E,h3,h4⟩:=g.new x b (V x b q)
  by_cases e:m=B
  ·subst e
   have:some (Obj.cells E x.2.2.2 (0,0))=some (Obj.cells c ty (0,0)):=by rw[<-h3,<-v]
   simp at this
   obtain⟨rfl,P⟩:=this
   exact⟨m,A,F,_,by rw[P];exact k,by simp;omega⟩
  ·exact⟨m,A,F,E,(X m e).trans h3,h4⟩
 ·by_cases e:x.2.1=t
  ·have O:=Qad (f:=fun x:Nat × Tmp × Nat × TypeId=>x.2.1) z x b _ hi e;subst O;simp only at d |-
   rw[hC] at d
   cases d
   exact⟨B,hv,k⟩
  ·have r:S x.1=true:=Zf (fun K=>e (congrArg (·.2.1) (Qad (f:=fun x:Nat × Tmp × Nat × TypeId=>x.1) T.2 x b _ hi K))) q;obtain⟨m,A,F⟩:=g.did x b r E d
   have U:m≠B:=fun K=>by
    obtain⟨y,D,p⟩:=List.any_eq_true.1 (Xe.1 hO x b)
    simp only[Bool.and_eq_true,beq_iff_eq] at p
    cases ho:l[x.1]? with
    | none=>rw[ho] at p;simp at p
    | some o =>
      rw[ho] at p
      exact g.ne y D _ hj (by rw[p.1.1.1];exact e) (Qis.at (G x.1 o ho r) y.1 p.2) L (by rw[p.1.1.1,A,K];exact hv.symm)
   exact⟨m,A,(X m U).trans F⟩
theorem DI.full (f:DI n a0 w00 (Qu l) Ti Ai Oi M C S a w)(o:(j,t,s,ty)∈Ai) (c:S j=true) (g:(i,t,s,ty)∈Oi) (e:S i=true) (h:C.lookup t=some cs) :
 ∃ B,a.tmps.getD t undef=.pointer (some ⟨B,0,none⟩)/\w00.heap.size<=B/\Blk w B cs.toArray ty:=by
 obtain⟨B,d,k⟩:=f.did _ g e cs h
 obtain⟨p,b,m,_⟩:=f.new _ o c
 simp only at d b
 rw[d] at b
 simp at b
 subst b;exact⟨B,d,m,k⟩
theorem Qgb {L:List (Tmp × Value)}(g:Fr n a0 L) (h:(L.all fun p=>!(Qu l).contains p.1)=true) (f:DI n a0 w00 (Qu l) Ti Ai Oi M C S a w):Fr n a L:=by
 refine⟨f.size,f.defers,fun t v c=>?_⟩
 have b:∃ p∈L,p.1=t:=by
  clear h g
  induction L with
  | nil=>simp at c
  | cons x r ih =>
    by_cases e:t=x.1
    ·exact⟨x,by simp,e.symm⟩
    ·have i:(t==x.1)=false:=beq_false_of_ne e;rw[List.lookup_cons,i] at c
     obtain⟨p,d,k⟩:=ih c
     exact⟨p,by simp[d],k⟩
 obtain⟨p,d,rfl⟩:=b
 have j:=Xe.1 h p d;rw[f.outer p.1 (by simpa using j)]
 exact g.sl _ _ c
theorem Qi1 {Q:Exit->Act->World->Prop}{L:List (Tmp × Value)}(b:List (Nat × Tmp)) (e d:List (Nat × Tmp × Nat × TypeId)) (M:List (Tmp × Value)) (C:List (Tmp × List Value))
 (r:P.follows .mixedOrders=true) (g:Fr n a L) (s:(L.all fun p=>!(Qu l).contains p.1)=true) (i:((QbI 0 l&&(l.all fun o=>o.guard.isNone))&&diB l n b e d)=true)
 (f:diB l n b e d=true->QbG P l (DI n a w (Qu l) b e d M C) 0 l)
 (c:∀ S a' w',(∀ j,j<l.length->S j=true)->DI n a w (Qu l) b e d M C S a' w'->Fr n a' L->Q .normal a' w'):(Code.region id l.toArray true).wp P Q a w:=by
 rw[Bool.and_eq_true] at i
 refine QbZ (DI n a w (Qu l) b e d M C) r i.1 ?_ (f i.2) (fun S a' w' q k=>c S a' w' q k ?_)
 ·exact⟨g.size,g.defers,fun _ _=>rfl,QQ (m:=1) Zr,fun _ _ h=>(by cases h),fun _ _ h=>(by cases h),fun _ _ _ _ _ h=>(by cases h),fun _ _ h=>(by cases h)⟩
 ·exact Qgb g s k
theorem QdA {Q:Exit->Act->World->Prop}{K:Act->World->Prop}{c:Array Value}{d g:TypeId}{b:List Value}{x y:Tmp}{h:String}{f:Array Edge}(n:Blk w B c bt)
 (k:a.tmps.getD x undef=.pointer (some ⟨B,0,none⟩)) (m:a.tmps.getD y undef=.agg b.toArray) (l:(prog.info? d).map (·.size)=some b.length) (j:b.all (·.oneCell')=true) (p:b.length=c.size)
 (o:K a (w.setCells B 0 b)):Oper.wp prog ⟨none,.store d (.tmp x) (.tmp y),g,h,f,none⟩ a w K Q:=by
 have e:a.eval (.tmp x)=.pointer (some ⟨B,0,none⟩):=k;have i:a.eval (.tmp y)=.agg b.toArray:=m
 have:=run_storeAt_mid (P:=prog) w B 0 d b.toArray (by simpa using Qcw n 0 b.length (by omega)) (by simpa using l) (by simpa using j)
 unfold Oper.wp execOp;simp only[e,i,Sem.run_bind,this,Result.andThen_ok,Sem.run_pure]
 rw[Oper.upon_skip];simpa[Act.put] using o
theorem Wd.add2 {p:World}{f:List (Nat × Array Value × TypeId)}(h:Wd p w f) (s:Wd p w00 f){d:Nat}{c c':Array Value}{l:TypeId}(v:Blk w B c t) (o:Blk w d c' l) (n:B≠d) (A:w00.heap.size<=B) (r:w00.heap.size<=d) :
 Wd p w ((B,c,t)::(d,c',l)::f):=by
 have m:=h.add o s r;have u:=h.add v s A;refine⟨h.bel,fun i x a=>?_,fun i x a=>?_,fun i j x y a g e=>?_⟩
 ·cases i with
  | zero=>simp at a;subst a;exact v
  | succ i=>exact m.blk i x (by simpa using a)
 ·cases i with
  | zero=>exact u.new 0 x (by simpa using a)
  | succ i=>exact m.new i x (by simpa using a)
 ·have b:∀ (k:Nat) (z:Nat × Array Value × TypeId),((d,c',l)::f)[k]?=some z->z.1≠B:=fun k z q e=>by
   cases k with
   | zero=>simp at q;subst q;exact n e.symm
   | succ k =>
     have:=u.nd (k+1) 0 z (B,c,t) (by simpa using q) (by simp) e
     omega
  cases i with
  | zero =>
    cases j with
    | zero=>rfl
    | succ j=>simp at a;subst a;exact absurd e.symm (b j y (by simpa using g))
  | succ i =>
    cases j with
    | zero=>simp at g;subst g;exact absurd e (b i x (by simpa using a))
    | succ j=>rw[m.nd i j x y (by simpa using a) (by simpa using g) e]
end
theorem Qb2 (b:Nat):∀ (vs:List Value) (w:World) (j:Nat),(w.setCells b j vs).heap.size=w.heap.size
 | [],w,j=>rfl
 | v::vs,w,j=>(Qb2 b vs _ _).trans (by simp)
abbrev Qj3 (Z:Type):=List (Nat × (Z->World->(Nat->Prop)->Prop))
def Qbj {Z:Type}(D:Qj3 Z):Prop:=∀ x∈D,∀ z w w' O,(∀ k,O k->k<w.heap.size->w'.heap[k]?=w.heap[k]?)->x.2 z w O->x.2 z w' O
def Qjc (w00:World) (Ai:List (Nat × Tmp × Nat × TypeId)) (S:Nat->Bool) (a:Act) (w:World) (O:Nat->Prop):Prop :=
 (∀ k,O k->w00.heap.size<=k/\k<w.heap.size)/\∀ y∈Ai,S y.1=true->∀ B,a.tmps.getD y.2.1 undef=.pointer (some ⟨B,0,none⟩)->¬ O B
def DMz (n:Nat) (a0:Act) (w00:World) (ds:List Tmp) (Ti:List (Nat × Tmp)) (Ai Oi:List (Nat × Tmp × Nat × TypeId)){Z:Type}(M:Z->List (Tmp × Value)) (C:Z->List (Tmp × List Value)) (D:Qj3 Z) (z:Z) (S:Nat->Bool) (a:Act) (w:World):Prop :=
 DI n a0 w00 ds Ti Ai Oi (M z) (C z) S a w/\∀ x∈D,S x.1=true->∃ O,x.2 z w O/\Qjc w00 Ai S a w O
def DM (n:Nat) (a0:Act) (w00:World) (ds:List Tmp) (Ti:List (Nat × Tmp)) (Ai Oi:List (Nat × Tmp × Nat × TypeId)){Z:Type}(M:Z->List (Tmp × Value)) (C:Z->List (Tmp × List Value)) (D:Qj3 Z) (S:Nat->Bool) (a:Act) (w:World):Prop :=
 ∃ z,DMz n a0 w00 ds Ti Ai Oi M C D z S a w
section
variable {n i:Nat}{a0 a:Act}{w00 w w':World}{l:List Oper}{Ti:List (Nat × Tmp)}{Ai Oi:List (Nat × Tmp × Nat × TypeId)}{Z:Type}{M:Z->List (Tmp × Value)}{C:Z->List (Tmp × List Value)}{D:Qj3 Z}{z z':Z}{S:Nat->Bool}{t:Tmp}{v:Value}{s:Nat}{ty:TypeId}
theorem Qkk (h:((D.map (·.1)).all fun j=>j != i)=true):∀ x∈D,x.1≠i:=fun x a=>by
 have:=Xe.1 h x.1 (List.mem_map.2 ⟨x,a,Yz⟩)
 simpa using this
theorem Qb6 (c:diB l n Ti Ai Oi=true) (f:(i,t)∈Ti):∀ x∈Ai,x.2.1≠t:=by
 simp only[diB,Bool.and_eq_true] at c
 obtain⟨h,⟨⟨a,d⟩,b⟩,j⟩:=c
 exact fun x g e=>Qcx a (List.mem_map.2 ⟨(i,t),f,Yz⟩) (e ▸ List.mem_map.2 ⟨x,g,Yz⟩)
theorem Qel (a:diB l n Ti Ai Oi=true) (c:t∈Ti.map (·.2)++Ai.map (·.2.1)):t<n:=by
 simp only[diB,Bool.and_eq_true] at a
 have b:=Xe.1 a.2.1.2 t c;simp only[Bool.and_eq_true,decide_eq_true_eq] at b
 exact b.1
theorem Qjc.pure (b:∀ x∈Ai,x.2.1≠t) (d:t<a.tmps.size) (e:(Ai.all fun x=>x.1 != i)=true) (l:w.heap.size<=w'.heap.size) (h:Qjc w00 Ai S a w O):Qjc w00 Ai (Qbz i S) (a.put (some t) v) w' O :=
 ⟨fun k f=>⟨(h.1 k f).1,Zl (h.1 k f).2 l⟩,fun y c j B g=>by
  rw[Zp d,Xr (b y c)] at g
  exact h.2 y c (Zf (by have:=Xe.1 e y c;simpa using this) j) B g⟩
theorem DMz.pure (h:Qbj D) (m:diB l n Ti Ai Oi=true) (p:DMz n a0 w00 (Qu l) Ti Ai Oi M C D z S a w) (d:(i,t)∈Ti) (A:(M z).lookup t=some v) (q:S i=false) (o:Below w.heap.size w w')
 (c:(Ai.all fun x=>x.1 != i)=true) (f:(Oi.all fun x=>x.1 != i)=true) (b:((D.map (·.1)).all fun j=>j != i)=true):DM n a0 w00 (Qu l) Ti Ai Oi M C D (Qbz i S) (a.put (some t) v) w':=by
 have g:=Qkk b;refine⟨z,DI.pure m p.1 d A q o c f,fun x e y=>?_⟩
 obtain⟨O,r,u⟩:=p.2 x e (Zf (g x e) y)
 exact⟨O,h x e z w w' O (fun k _ s=>o.block k s) r,u.pure (Qb6 m d) (by rw[p.1.size];exact Qel m (List.mem_append_left _ (List.mem_map.2 ⟨(i,t),d,Yz⟩))) c o.size⟩
theorem DMz.alloc (E:Qbj D) (g:diB l n Ti Ai Oi=true) (v:DMz n a0 w00 (Qu l) Ti Ai Oi M C D z S a w) (A:(i,t,s,ty)∈Ai){c:Array Value}(N:c.size=s) (P:S i=false) (p:QaL l S)
 (F:(Ti.all fun x=>x.1 != i)=true) (r:(Oi.all fun x=>x.1 != i)=true) (d:((D.map (·.1)).all fun j=>j != i)=true):DM n a0 w00 (Qu l) Ti Ai Oi M C D (Qbz i S) (a.put (some t) (.pointer (some ⟨w.heap.size,0,none⟩))) (w.alloc (.cells c ty)):=by
 have J:Below w.heap.size w (w.alloc (.cells c ty)):=QU w _;have u:=Qkk d;refine⟨z,DI.alloc g v.1 A N P p F r,fun x o K=>?_⟩
 obtain⟨O,Q,m⟩:=v.2 x o (Zf (u x o) K)
 have G:t<a.tmps.size:=by rw[v.1.size];exact Qel g (List.mem_append_right _ (List.mem_map.2 ⟨(i,t,s,ty),A,Yz⟩))
 refine⟨O,E x o z w _ O (fun k _ h=>J.block k h) Q,fun k h=>⟨(m.1 k h).1,Zl (m.1 k h).2 J.size⟩,fun y H q B b I=>?_⟩
 rw[Zp G] at b
 by_cases e:y.2.1=t
 ·rw[Xs e] at b
  simp at b
  subst b
  have:=(m.1 _ I).2
  omega
 ·rw[Xr e] at b
  refine m.2 y H (Zf (fun L=>e ?_) q) B b I;simp only[diB,Bool.and_eq_true] at g
  exact congrArg (·.2.1) (Qad (f:=fun x:Nat × Tmp × Nat × TypeId=>x.1) g.1.1.2 y H _ A L)
theorem DMz.store (F:Qbj D) (N:diB l n Ti Ai Oi=true) (J:DMz n a0 w00 (Qu l) Ti Ai Oi M C D z S a w) (T:(i,t,s,ty)∈Oi){c:Array Value}(L:(j,t,s,ty)∈Ai) (g:S j=true) (K:a.tmps.getD t undef=.pointer (some ⟨B,0,none⟩)) (r:Blk w B c ty) (h:c.size=s) (A:w00.heap.size<=B) (U:(C z).lookup t=some cs) (E:cs.length=s) (R:S i=false) (o:QaL l S)
 (H:(Ti.all fun x=>x.1 != i)=true) (f:(Ai.all fun x=>x.1 != i)=true) (d:((D.map (·.1)).all fun j=>j != i)=true):DM n a0 w00 (Qu l) Ti Ai Oi M C D (Qbz i S) a (w.setCells B 0 cs):=by
 have u:=Qkk d;refine⟨z,DI.store N J.1 T L g K r h A U E R o H f,fun x m P=>?_⟩
 obtain⟨O,W,v⟩:=J.2 x m (Zf (u x m) P)
 have Q:=Qae w B 0 cs;have q:(w.setCells B 0 cs).heap.size=w.heap.size:=Qb2 B cs w 0;refine⟨O,F x m z w _ O (fun k b _=>Q k fun e=>?_) W,fun k b=>by rw[q];exact v.1 k b,fun y I p X G V=>?_⟩
 ·subst e;exact v.2 _ L g k K b
 ·exact v.2 y I (Zf (by have:=Xe.1 f y I;simpa using this) p) X G V
theorem DMz.call (N:Qbj D) (q:diB l n Ti Ai Oi=true) (b:DMz n a0 w00 (Qu l) Ti Ai Oi M C D z S a w) (s:(i,t)∈Ti) (hv:(M z').lookup t=some v) (L:S i=false) (G:QaL l S) (Q:Below w.heap.size w w')
 (g:(Ai.all fun x=>x.1 != i)=true) (J:(Oi.all fun x=>x.1 != i)=true)
 (A:List Nat) (E:(A.all fun j=>match l[j]? with | some o=>Qgz o i | none=>false)=true)
 (hM:∀ x∈Ti,x.1∈A\/x.1=i\/(M z).lookup x.2=(M z').lookup x.2) (hC:∀ x∈Oi,x.1∈A\/(C z).lookup x.2.1=(C z').lookup x.2.1)
 (W:∀ x∈D,(x.1=i/\∃ O,x.2 z' w' O/\∀ k,O k->w.heap.size<=k/\k<w'.heap.size)\/(x.1≠i/\∀ w O,x.2 z w O->x.2 z' w O)):DM n a0 w00 (Qu l) Ti Ai Oi M C D (Qbz i S) (a.put (some t) v) w':=by
 have m:∀ j∈A,S j=true->False:=fun j hj d=>by
  have:=Xe.1 E j hj
  cases ho:l[j]? with
  | none=>rw[ho] at this;simp at this
  | some o =>
    rw[ho] at this
    have:=Qis.at (G j o ho d) i this
    rw[L] at this
    cases this
 have H:DI n a0 w00 (Qu l) Ti Ai Oi (M z') (C z') S a w:=by
  refine⟨b.1.size,b.1.defers,b.1.outer,b.1.bel,fun x e d u X=>?_,b.1.new,b.1.ne,fun x e d c hc=>?_⟩
  ·rcases hM x e with h | h | h
   ·exact(m _ h d).elim
   ·rw[h,L] at d;cases d
   ·exact b.1.vals x e d u (h.trans X)
  ·rcases hC x e with h | h
   ·exact(m _ h d).elim
   ·exact b.1.did x e d c (h.trans hc)
 have p:t<a.tmps.size:=by rw[b.1.size];exact Qel q (List.mem_append_left _ (List.mem_map.2 ⟨(i,t),s,Yz⟩))
 refine⟨z',DI.pure q H s hv L Q g J,fun x e d=>?_⟩
 rcases W x e with ⟨_,O,T,K⟩|⟨U,T⟩
 ·refine⟨O,T,fun k r=>⟨Zt b.1.bel.size (K k r).1,(K k r).2⟩,fun y F I B f hO=>?_⟩
  rw[Zp p,Xr (Qb6 q s y F)] at f
  have P:S y.1=true:=Zf (by have:=Xe.1 g y F;simpa using this) I;obtain⟨B',R,V,c,h5,h6⟩:=b.1.new y F P
  rw[R] at f
  simp at f
  subst f
  have:=h5.lt
  have:=(K _ hO).1
  omega
 ·obtain⟨O,R,V⟩:=b.2 x e (Zf U d)
  exact⟨O,N x e z' w w' O (fun k _ r=>Q.block k r) (T w O R),V.pure (Qb6 q s) p g Q.size⟩
theorem QgM {Q:Exit->Act->World->Prop}{L:List (Tmp × Value)}(b:List (Nat × Tmp)) (e d:List (Nat × Tmp × Nat × TypeId)) (M:Z->List (Tmp × Value)) (C:Z->List (Tmp × List Value)) (D:Qj3 Z) (s:Z)
 (r:P.follows .mixedOrders=true) (g:Fr n a L) (t:(L.all fun p=>!(Qu l).contains p.1)=true) (i:((QbI 0 l&&(l.all fun o=>o.guard.isNone))&&diB l n b e d)=true)
 (f:diB l n b e d=true->QbG P l (DM n a w (Qu l) b e d M C D) 0 l)
 (c:∀ z S a' w',(∀ j,j<l.length->S j=true)->DMz n a w (Qu l) b e d M C D z S a' w'->Fr n a' L->Q .normal a' w'):(Code.region id l.toArray true).wp P Q a w:=by
 rw[Bool.and_eq_true] at i
 refine QbZ (DM n a w (Qu l) b e d M C D) r i.1 ?_ (f i.2) (fun S a' w' q ⟨z,k⟩=>c z S a' w' q k ?_)
 ·exact⟨s,⟨g.size,g.defers,fun _ _=>rfl,QQ (m:=1) Zr,fun _ _ h=>(by cases h),fun _ _ h=>(by cases h),fun _ _ _ _ _ h=>(by cases h),fun _ _ h=>(by cases h)⟩,fun _ _ h=>by cases h⟩
 ·exact Qgb g t k.1
end
section
variable {n i:Nat}{a0 a:Act}{w00 w w':World}{l:List Oper}{Ti:List (Nat × Tmp)}{Ai Oi:List (Nat × Tmp × Nat × TypeId)}{Z:Type}{M:Z->List (Tmp × Value)}{C:Z->List (Tmp × List Value)}{D:Qj3 Z}{z z':Z}{S:Nat->Bool}{t:Tmp}{v:Value}{s:Nat}{ty:TypeId}
theorem DMz.call2 (I:Qbj D) (p:diB l n Ti Ai Oi=true) (b:DMz n a0 w00 (Qu l) Ti Ai Oi M C D z S a w) (r:(i,t)∈Ti) (hv:(M z').lookup t=some v) (Q:S i=false) (T:QaL l S) (K:Below w.heap.size w w')
 (g:(Ai.all fun x=>x.1 != i)=true) (F:(Oi.all fun x=>x.1 != i)=true)
 (H:List Nat) (m:∀ j∈H,S j=true->False)
 (hM:∀ x∈Ti,x.1∈H\/x.1=i\/(M z).lookup x.2=(M z').lookup x.2) (hC:∀ x∈Oi,x.1∈H\/(C z).lookup x.2.1=(C z').lookup x.2.1)
 (U:∀ x∈D,(x.1=i/\∃ O,x.2 z' w' O/\∀ k,O k->w.heap.size<=k/\k<w'.heap.size)\/(x.1≠i/\∀ w O,x.2 z w O->x.2 z' w O)):DM n a0 w00 (Qu l) Ti Ai Oi M C D (Qbz i S) (a.put (some t) v) w':=by
 have A:DI n a0 w00 (Qu l) Ti Ai Oi (M z') (C z') S a w:=by
  refine⟨b.1.size,b.1.defers,b.1.outer,b.1.bel,fun x d e u V=>?_,b.1.new,b.1.ne,fun x d e c W=>?_⟩
  ·rcases hM x d with h | h | h
   ·exact(m _ h e).elim
   ·rw[h,Q] at e;cases e
   ·exact b.1.vals x d e u (h.trans V)
  ·rcases hC x d with h | h
   ·exact(m _ h e).elim
   ·exact b.1.did x d e c (h.trans W)
 have o:t<a.tmps.size:=by rw[b.1.size];exact Qel p (List.mem_append_left _ (List.mem_map.2 ⟨(i,t),r,Yz⟩))
 refine⟨z',DI.pure p A r hv Q K g F,fun x d e=>?_⟩
 rcases U x d with ⟨_,O,N,G⟩|⟨P,N⟩
 ·refine⟨O,N,fun k q=>⟨Zt b.1.bel.size (G k q).1,(G k q).2⟩,fun y s E B f hO=>?_⟩
  rw[Zp o,Xr (Qb6 p r y s)] at f
  have J:S y.1=true:=Zf (by have:=Xe.1 g y s;simpa using this) E;obtain⟨B',L,R,c,X,h6⟩:=b.1.new y s J
  rw[L] at f
  simp at f
  subst f
  have:=X.lt
  have:=(G _ hO).1
  omega
 ·obtain⟨O,L,R⟩:=b.2 x d (Zf P e)
  exact⟨O,I x d z' w w' O (fun k _ q=>K.block k q) (N w O L),R.pure (Qb6 p r) o g K.size⟩
end
theorem QfG {a a0:Act}{b:List Tmp}(j:a.tmps.size=a0.tmps.size) (m:a.defers=a0.defers) (k:∀ t,b.contains t=false->a.tmps.getD t undef=a0.tmps.getD t undef):a=Zn a0 (fun t=>a.tmps.getD t undef) b:=by
 have f:a.tmps=(Zn a0 (fun t=>a.tmps.getD t undef) b).tmps:=by
  refine Array.ext (by rw[Qbm,j]) fun t h l=>?_;have g:t<a0.tmps.size:=by rw[<-j];exact h
  have:=Qdb (fun t=>a.tmps.getD t undef) b a0 t g
  rw[Xj l] at this
  by_cases i:t∈b
  ·rw[Xs i] at this
   simp only[Option.some.injEq] at this
   rw[this];simp[Array.getD,h]
  ·rw[Xr i] at this
   have c:=k t (by simpa using i);simp only[Array.getD,h,g,dite_true] at c
   rw[Xj g] at this
   simp only[Option.some.injEq] at this
   rw[this];exact c
 have e:a.defers=(Zn a0 (fun t=>a.tmps.getD t undef) b).defers:=by rw[Qa3,m]
 cases a with
 | mk t d =>
   simp only at f e
   generalize n:Zn a0 (fun x=>t.getD x undef) b=p at f e |-
   cases p;simp only at f e;rw[f,e]
theorem Qlm {Q:Exit->Act->World->Prop}{l:List Oper}{a:Act}{Z:Type}(b:List (Nat × Tmp)) (e d:List (Nat × Tmp × Nat × TypeId)) (M:Z->List (Tmp × Value)) (C:Z->List (Tmp × List Value)) (D:Qj3 Z) (q:Z)
 (m:P.follows .mixedOrders=true) (p:a.tmps.size=n) (i:a.defers=[]) (g:((QbI 0 l&&(l.all fun o=>o.guard.isNone))&&diB l n b e d)=true)
 (f:diB l n b e d=true->QbG P l (DM n a w (Qu l) b e d M C D) 0 l)
 (c:∀ z S a' w',(∀ j,j<l.length->S j=true)->DMz n a w (Qu l) b e d M C D z S a' w'->Q .normal a' w'):(Code.region id l.toArray true).wp P Q a w:=by
 rw[Bool.and_eq_true] at g
 refine QbZ (DM n a w (Qu l) b e d M C D) m g.1 ?_ (f g.2) (fun S a' w' k ⟨z,r⟩=>c z S a' w' k r);exact⟨q,⟨p,i,fun _ _=>rfl,Qg Zr 1,fun _ _ h=>(by cases h),fun _ _ h=>(by cases h),fun _ _ _ _ _ h=>(by cases h),fun _ _ h=>(by cases h)⟩,fun _ _ h=>by cases h⟩
theorem infTy:(prog.info? 70).map (·.size)=some 3:=by kernel_rfl
theorem Ql4 {T D E U H xc V:Nat}{y u:TT 6}{N R:Option Addr}{nm:Nat->Int}(r2:w2.cell? ⟨T,2,none⟩=some (.slice (some ⟨D,E,none⟩) U cR)) (t0:w2.cell? ⟨D,E+k*3,none⟩=some (.int .i64 y.kind)) (t1:w2.cell? ⟨D,E+k*3+1,none⟩=some (.int .i64 y.r)) (t2:w2.cell? ⟨D,E+k*3+2,none⟩=some (.slice N y.len V)) (x6:w2.cell? ⟨X,6,none⟩=some (.slice R H xc)) (ag:(k:Int)<U) (HT:Hid (TIn w2 Q y N)) (L:Hid (y.count<=2000)) (af:Hid (Qhp w2 R H nm)) (M:Hid (y.ren H nm=some u))
 (a:Act) (hn:a.tmps.size=365) (P:a.defers=[]) (h3:a.tmps.getD 3 undef=.pointer (some ⟨X,0,none⟩)) (ae:a.tmps.getD 14 undef=.pointer (some ⟨T,0,none⟩)) (ac:a.tmps.getD 18 undef=.int .i64 (k:Int)) :
 Code.wp prog ((Tryz.f81.body.bind (Qo 76)).getD .skip) (fun e a' w'=>e=.normal/\∃ vs,a'=Zn a vs [350,351,352,353,354,355,356,357,349,358,359,19,20]/\∃ ua uc B,vs 19=.pointer (some ⟨B,0,none⟩)/\vs 20=.bool true/\Blk w' B #[.int .i64 u.kind,.int .i64 u.r,.slice ua u.len uc] 70/\TIn w' (fun g=>w2.heap.size<=g) u ua/\Below w2.heap.size w2 w') a w2:=by
 conv=>arg 2;whnf
 have l:Qbj (Z:=Option Addr × Nat) [(7,fun z w O=>TIn w O u z.1)]:=by
  intro x A;simp only[List.mem_cons,List.not_mem_nil,or_false] at A
  rcases A with rfl
  intro z w w9 O F h;exact h.keep F (fun _ h _=>h)
 refine Qlm (Z:=Option Addr × Nat) [(0,350),(1,351),(2,352),(3,353),(4,354),(5,355),(6,356),(7,357),(8,349),(9,358),(10,359),(13,20)] [(11,19,3,70)] [(12,19,3,70)] (fun z=>[(350,.pointer (some ⟨T,2,none⟩)),(351,.slice (some ⟨D,E,none⟩) U cR),(352,.int .i64 (k:Int)),(353,.pointer (some ⟨D,E+k*3,none⟩)),(354,.agg #[.int .i64 y.kind,.int .i64 y.r,.slice N y.len V]),(355,.pointer (some ⟨X,6,none⟩)),(356,.slice R H xc),(357,.tuple #[.agg #[.int .i64 u.kind,.int .i64 u.r,.slice z.1 u.len z.2],.bool true]),(349,.tuple #[.agg #[.int .i64 u.kind,.int .i64 u.r,.slice z.1 u.len z.2],.bool true]),(358,.agg #[.int .i64 u.kind,.int .i64 u.r,.slice z.1 u.len z.2]),(359,.bool true),(20,.bool true)]) (fun z=>[(19,[.int .i64 u.kind,.int .i64 u.r,.slice z.1 u.len z.2])]) [(7,fun z w O=>TIn w O u z.1)] (none,0) (by kernel_rfl) hn P (by kernel_rfl) (fun m=>?hst) ?hend
 case hend =>
  rintro ⟨ua,uc⟩ S a' w' f b;have G:∀ j,j<14->S j=true:=f;obtain⟨B,hB,C⟩:=b.1.did (12,19,3,70) (by decide) (G 12 (by decide)) _ Yz
  obtain⟨O,h7,hA⟩:=b.2 (7,fun z w O=>TIn w O u z.1) (by simp) (G 7 (by decide))
  refine⟨Yz,_,QfG (by rw[b.1.size,hn]) (by rw[b.1.defers,P]) b.1.outer,ua,uc,B,hB,b.1.vals (13,20) (by decide) (G 13 (by decide)) _ Yz,C,h7.mono (fun k F _=>(hA.1 k F).1),b.1.bel⟩
 case hst =>
  refine⟨fun S n q f o d c K p=>?_,?_⟩
  ·obtain⟨⟨ua,uc⟩,b⟩:=c
   have v:n.tmps.getD 14 undef=.pointer (some ⟨T,0,none⟩):=(b.1.outer 14 (by kernel_rfl)).trans ae;go_simp;exact p _ _ (DMz.pure l m b (i:=0) (t:=350) (by decide) Yz f Zr (by kernel_rfl) (by kernel_rfl) Yz)
  refine⟨fun S n q f o d c K p=>?_,?_⟩
  ·obtain⟨⟨ua,uc⟩,b⟩:=c
   have v:n.tmps.getD 350 undef=.pointer (some ⟨T,2,none⟩):=b.1.vals (0,350) (by decide) (o.at 0 (by kernel_rfl)) _ Yz;have c0:=Qp r2 b.1.bel;go_simp;exact p _ _ (DMz.pure l m b (i:=1) (t:=351) (by decide) Yz f Zr (by kernel_rfl) (by kernel_rfl) Yz)
  refine⟨fun S n q f o d c K p=>?_,?_⟩
  ·obtain⟨⟨ua,uc⟩,b⟩:=c
   have v:n.tmps.getD 18 undef=.int .i64 (k:Int):=(b.1.outer 18 (by kernel_rfl)).trans ac;go_simp;exact p _ _ (DMz.pure l m b (i:=2) (t:=352) (by decide) Yz f Zr (by kernel_rfl) (by kernel_rfl) Yz)
  refine⟨fun S n q f o d c K p=>?_,?_⟩
  ·obtain⟨⟨ua,uc⟩,b⟩:=c
   have v:n.tmps.getD 351 undef=.slice (some ⟨D,E,none⟩) U cR:=b.1.vals (1,351) (by decide) (o.at 1 (by kernel_rfl)) _ Yz;have k1:n.tmps.getD 352 undef=.int .i64 (k:Int):=b.1.vals (2,352) (by decide) (o.at 2 (by kernel_rfl)) _ Yz;go_simp;exact p _ _ (DMz.pure l m b (i:=3) (t:=353) (by decide) Yz f Zr (by kernel_rfl) (by kernel_rfl) Yz)
  refine⟨fun S n q f o d c K p=>?_,?_⟩
  ·obtain⟨⟨ua,uc⟩,b⟩:=c
   have v:n.tmps.getD 353 undef=.pointer (some ⟨D,E+k*3,none⟩):=b.1.vals (3,353) (by decide) (o.at 3 (by kernel_rfl)) _ Yz;have c0:=Qp t0 b.1.bel;have c1:=Qp t1 b.1.bel;have c2:=Qp t2 b.1.bel;go_simp;exact p _ _ (DMz.pure l m b (i:=4) (t:=354) (by decide) Yz f Zr (by kernel_rfl) (by kernel_rfl) Yz)
  refine⟨fun S n q f o d c K p=>?_,?_⟩
  ·obtain⟨⟨ua,uc⟩,b⟩:=c
   have v:n.tmps.getD 3 undef=.pointer (some ⟨X,0,none⟩):=(b.1.outer 3 (by kernel_rfl)).trans h3;go_simp;exact p _ _ (DMz.pure l m b (i:=5) (t:=355) (by decide) Yz f Zr (by kernel_rfl) (by kernel_rfl) Yz)
  refine⟨fun S n q f o d c K p=>?_,?_⟩
  ·obtain⟨⟨ua,uc⟩,b⟩:=c
   have v:n.tmps.getD 355 undef=.pointer (some ⟨X,6,none⟩):=b.1.vals (5,355) (by decide) (o.at 5 (by kernel_rfl)) _ Yz;have c0:=Qp x6 b.1.bel;go_simp;exact p _ _ (DMz.pure l m b (i:=6) (t:=356) (by decide) Yz f Zr (by kernel_rfl) (by kernel_rfl) Yz)
  refine⟨fun S n q f o d c K p=>?_,?_⟩
  ·obtain⟨⟨ua,uc⟩,b⟩:=c
   have v:n.tmps.getD 354 undef=.agg #[.int .i64 y.kind,.int .i64 y.r,.slice N y.len V]:=b.1.vals (4,354) (by decide) (o.at 4 (by kernel_rfl)) _ Yz;have k1:n.tmps.getD 356 undef=.slice R H xc:=b.1.vals (6,356) (by decide) (o.at 6 (by kernel_rfl)) _ Yz;go_simp;refine(renamedT_any 6 y N V R H xc nm q (HT.out.below b.1.bel).all L.out (af.out.below b.1.bel)).mono ?_
   rw[M.out]
   rintro e w9 ⟨ad,aa,rfl,h9,hb⟩;refine p _ _ (DMz.call2 l m b (z':=(ad,aa)) (i:=7) (t:=357) (by decide) Yz f d hb (by kernel_rfl) (by kernel_rfl) [8,9,12,13] ?_ ?_ ?_ ?_)
   ·have W:S 8=true->False:=fun I=>by have:=Qis.at (d 8 _ Yz I) 7 (by kernel_rfl);rw[f] at this;cases this
    intro j hj I;simp only[List.mem_cons,List.not_mem_nil,or_false] at hj;rcases hj with rfl | rfl | rfl | rfl
    ·exact W I
    ·exact W (Qis.at (d 9 _ Yz I) 8 (by kernel_rfl))
    ·exact W (Qis.at (d 12 _ Yz I) 8 (by kernel_rfl))
    ·exact W (Qis.at (d 13 _ Yz I) 8 (by kernel_rfl))
   ·intro x A;simp only[List.mem_cons,List.not_mem_nil,or_false] at A;rcases A with rfl | rfl | rfl | rfl | rfl | rfl | rfl | rfl | rfl | rfl | rfl | rfl
    all_goals first | exact .inr (.inr Yz) | exact .inl (by decide) | exact .inr (.inl Yz)
   ·intro x A;simp only[List.mem_cons,List.not_mem_nil,or_false] at A;rcases A with rfl
    all_goals exact .inl (by decide)
   ·intro x A;simp only[List.mem_cons,List.not_mem_nil,or_false] at A;rcases A with rfl
    exact .inl ⟨Yz,fun k=>q.heap.size<=k/\k<w9.heap.size,h9.mono (fun k F hl=>⟨F,hl⟩),fun k F=>F⟩
  refine⟨fun S n q f o d c K p=>?_,?_⟩
  ·obtain⟨⟨ua,uc⟩,b⟩:=c
   have v:n.tmps.getD 357 undef=.tuple #[.agg #[.int .i64 u.kind,.int .i64 u.r,.slice ua u.len uc],.bool true]:=b.1.vals (7,357) (by decide) (o.at 7 (by kernel_rfl)) _ Yz;go_simp;exact p _ _ (DMz.pure l m b (i:=8) (t:=349) (by decide) Yz f Zr (by kernel_rfl) (by kernel_rfl) Yz)
  refine⟨fun S n q f o d c K p=>?_,?_⟩
  ·obtain⟨⟨ua,uc⟩,b⟩:=c
   have v:n.tmps.getD 349 undef=.tuple #[.agg #[.int .i64 u.kind,.int .i64 u.r,.slice ua u.len uc],.bool true]:=b.1.vals (8,349) (by decide) (o.at 8 (by kernel_rfl)) _ Yz;go_simp;exact p _ _ (DMz.pure l m b (i:=9) (t:=358) (by decide) Yz f Zr (by kernel_rfl) (by kernel_rfl) Yz)
  refine⟨fun S n q f o d c K p=>?_,?_⟩
  ·obtain⟨⟨ua,uc⟩,b⟩:=c
   have v:n.tmps.getD 349 undef=.tuple #[.agg #[.int .i64 u.kind,.int .i64 u.r,.slice ua u.len uc],.bool true]:=b.1.vals (8,349) (by decide) (o.at 8 (by kernel_rfl)) _ Yz;go_simp;exact p _ _ (DMz.pure l m b (i:=10) (t:=359) (by decide) Yz f Zr (by kernel_rfl) (by kernel_rfl) Yz)
  refine⟨fun S n q f o d c K p=>?_,?_⟩
  ·obtain⟨⟨ua,uc⟩,b⟩:=c
   go_simp;exact p _ _ (DMz.alloc l m b (i:=11) (t:=19) (s:=3) (ty:=70) (by decide) Yz f d (by kernel_rfl) (by kernel_rfl) Yz)
  refine⟨fun S n q f o d c K p=>?_,?_⟩
  ·obtain⟨⟨ua,uc⟩,b⟩:=c
   have v:n.tmps.getD 358 undef=.agg #[.int .i64 u.kind,.int .i64 u.r,.slice ua u.len uc]:=b.1.vals (9,358) (by decide) (o.at 9 (by kernel_rfl)) _ Yz;obtain⟨B,kB,ab,c0,C,J⟩:=b.1.box (i:=11) (t:=19) (s:=3) (ty:=70) (by decide) (o.at 11 (by kernel_rfl))
   exact QdA C kB v infTy Yz J.symm (p _ _ (DMz.store l m b (i:=12) (t:=19) (s:=3) (ty:=70) (j:=11) (by decide) (by decide) (o.at 11 (by kernel_rfl)) kB C J ab Yz Yz f d (by kernel_rfl) (by kernel_rfl) Yz))
  refine⟨fun S n q f o d c K p=>?_,?_⟩
  ·obtain⟨⟨ua,uc⟩,b⟩:=c
   have v:n.tmps.getD 359 undef=.bool true:=b.1.vals (10,359) (by decide) (o.at 10 (by kernel_rfl)) _ Yz;go_simp;exact p _ _ (DMz.pure l m b (i:=13) (t:=20) (by decide) Yz f Zr (by kernel_rfl) (by kernel_rfl) Yz)
  trivial
theorem XH:type_of% @bne_eq_false_iff_eq:=@bne_eq_false_iff_eq
theorem Qec {m:Nat}{too:Nat->Int}(c:∀ i,i<m->-9223372036854775808<=too i/\too i<=9223372036854775807):{n:Nat}->{t u:TT n}->t.ok->t.ren m too=some u->u.ok
 | 0,t,_,_,_=>Empty.elim t
 | n+1,t,u,hok,h=>by
   simp only[TT.ren] at h
   cases e1:Qaz m too t.1 t.2.1 with
   | none=>simp[e1] at h
   | some r1 =>
     simp only[e1] at h
     cases e2:Qcz (TT.ren m too) t.2.2 with
     | none=>simp[e2] at h
     | some l1 =>
       simp only[e2] at h
       have h:=Xn h;subst h;refine⟨?_,fun x e=>?_⟩
       ·show -9223372036854775808<=r1/\r1<=9223372036854775807;unfold Qaz at e1;split at e1
        ·cases e1;exact hok.1
        split at e1
        ·cases e1
        rename_i g j
        split at e1
        ·cases e1
        ·cases e1;exact c _ (by omega)
       ·obtain⟨f,d⟩:=QaC.1 e2
        obtain⟨i,b⟩:=List.getElem?_of_mem e
        have a:i<t.2.2.length:=by rw[<-f];exact(Zi b).1
        have:=d i t.2.2[i] (Zg a)
        rw[b] at this
        exact Qec c (hok.2 _ (List.getElem_mem a)) this
theorem QeH {H:List Bool}(a:l[k]?=some x) :
 QF H (l.take k) (l.drop k)=if hHas H x then (if inB (l.take k) x then 13 else QF H (l.take (k+1)) (l.drop (k+1))) else 10:=by
 obtain⟨b,e⟩:=Zi a
 rw[List.drop_eq_getElem_cons b,e,QF,XV,a]
 rfl
theorem QeV {H:List Bool}(a:l.length<=k):QF H (l.take k) (l.drop k)=0:=by
 rw[List.drop_of_length_le a,QF]
theorem QeS (h:intsL.In w Q l [.slice a m c]):∀ x∈l,-9223372036854775808<=x/\x<=9223372036854775807:=fun x b=>by
 obtain⟨i,e⟩:=List.getElem?_of_mem b
 obtain⟨g,o,f,_,_,_,_,_,d⟩:=Yf h e
 exact d
theorem Qcv {m:List (Qf 6)}(h:(QaH 6).In w Q m [.slice p n c]){g:Qf 6}(i:m[k]?=some g) :
 ∃ mg mo a1 c1 a2 c2 a3 c3,p=some ⟨mg,mo,none⟩/\w.cell? ⟨mg,mo+k*4,none⟩=some (.int .i64 g.regs)/\w.cell? ⟨mg,mo+k*4+1,none⟩=some (.slice a1 g.params.length c1)/\w.cell? ⟨mg,mo+k*4+2,none⟩=some (.slice a2 g.results.length c2)/\w.cell? ⟨mg,mo+k*4+3,none⟩=some (.slice a3 g.blocks.length c3) /\
  (Qi 6).In w Q g.params [.slice a1 g.params.length c1]/\(Qi 6).In w Q g.results [.slice a2 g.results.length c2]:=by
 obtain⟨mg,mo,o,e,l,j,a,f⟩:=Yf h i
 obtain⟨a1,c1,a2,c2,a3,c3,rfl,b,d,r,q⟩:=Z3 f
 exact⟨mg,mo,a1,c1,a2,c2,a3,c3,e,a 0 (by decide),a 1 (by decide),a 2 (by decide),a 3 (by decide),b,d⟩
def QkW (w2:World) (b X mg mo nm cm k n1 d1 n2 d2 n3 d3:Nat) (fr:Int) (p1 p2 p3:Option Addr) (t:Tmp) (v:Value) (w:World):Prop :=
 match ([(14,fun v w=>∃ B,v=.pointer (some ⟨B,0,none⟩)/\w2.heap.size<=B/\Blk w B #[.int .i64 0,.slice none 0 0,.slice none 0 0,.slice none 0 0] 40)]:List (Tmp × (Value->World->Prop))).lookup t with
 | some p=>p v w
 | none=>v=(([(0,.pointer (some ⟨b,0,none⟩)),(3,.pointer (some ⟨X,0,none⟩)),(288,.pointer (some ⟨b,0,none⟩)),(289,.pointer (some ⟨b,0,none⟩)),(290,.pointer (some ⟨b,0,none⟩)),(291,.pointer (some ⟨b,0,none⟩)),(292,.slice (some ⟨mg,mo,none⟩) nm cm),(293,.pointer (some ⟨X,4,none⟩)),(294,.int .i64 (k:Int)),(295,.pointer (some ⟨mg,mo+k*4,none⟩)),(296,.agg #[.int .i64 fr,.slice p1 n1 d1,.slice p2 n2 d2,.slice p3 n3 d3])]:List (Tmp × Value)).lookup t).getD undef
theorem QlL {s:JSt}{x:QC}{P:Option Addr}(R:Hid (MkS w w2 b X O s x P ag rc ac na)){j i z y D q o:Nat}{C r:Option Addr}(S:w2.cell? ⟨b,0,none⟩=some (.slice (some ⟨j,i,none⟩) z cm)) (U:w2.cell? ⟨j,i+k*4,none⟩=some (.int .i64 fr)) (M:w2.cell? ⟨j,i+k*4+1,none⟩=some (.slice p1 n1 d1)) (F:w2.cell? ⟨j,i+k*4+2,none⟩=some (.slice C y D)) (V:w2.cell? ⟨j,i+k*4+3,none⟩=some (.slice r q o)) (W:(k:Int)<z) (u:x.k=(k:Int)){Q:Exit->Act->World->Prop}
 (a:Act) (m:Nat) (J:a.tmps.size=m) (A:365<=m) (L:a.tmps.getD 0 undef=.pointer (some ⟨b,0,none⟩)) (N:a.tmps.getD 3 undef=.pointer (some ⟨X,0,none⟩))
 (hend:∀ ops vs w',vs 296=.agg #[.int .i64 fr,.slice p1 n1 d1,.slice C y D,.slice r q o]->(fun v w=>∃ B,v=.pointer (some ⟨B,0,none⟩)/\w2.heap.size<=B/\Blk w B #[.int .i64 0,.slice none 0 0,.slice none 0 0,.slice none 0 0] 40) (vs 14) w'->Below w2.heap.size w2 w'->wpList prog ops Q (Qdh 10 ((Tryz.f81.body.bind (Qo 59)).getD .skip)) (Zn a vs [288,289,290,291,292,293,294,295,296,14]) w') :
 Code.wp prog ((Tryz.f81.body.bind (Qo 59)).getD .skip) Q a w2:=by
 conv=>arg 2;whnf
 refine Qw 10 (QkW w2 b X j i z cm k n1 d1 y D q o fr p1 C r) (fun w=>Below w2.heap.size w2 w) (fun w w'=>Below w.heap.size w w') (outs:=[0,3]) (gs:=[]) (bs:=[true,true,true,true,true,true,true,true,true,true]) (by kernel_rfl) (n:=365) J A (by kernel_rfl) (by kernel_rfl) ?hR ?hG (Qg Zr 1) ⟨L,N,Y⟩ ?hA ?hend
 case hR =>
  intro t v w w' hr h;unfold QkW at h |-;split at h
  ·rename_i p l
   simp only[List.lookup_cons,List.lookup_nil] at l
   split at l
   ·cases l;exact(by obtain⟨B,e,T,E⟩:=h;exact⟨B,e,T,(hr.block B (XC E)).trans E⟩)
   ·cases l
  ·exact h
 case hG=>exact Y
 case hend=>exact fun ops vs w' c d=>hend ops vs w' (d 296 (by kernel_rfl)) (d 14 (by kernel_rfl)) c
 case hA =>
  iterate 6
   refine⟨fun a w c d K f=>?_,?_⟩
   ·obtain⟨g,-⟩:=d
    conv at g=>whnf;rhs;whnf
    have G:=Qp S c;go_simp;exact f _ _ Zr c Z
  refine⟨fun a w c d K f=>?_,?_⟩
  ·obtain⟨g,-⟩:=d
   conv at g=>whnf;rhs;whnf
   have H:=(R.out.below c).cells.2.2.2.2.1;rw[u] at H
   go_simp;exact f _ _ Zr c Z
  refine⟨fun a w c d K f=>?_,?_⟩
  ·obtain⟨g,I,-⟩:=d
   conv at g=>whnf;rhs;whnf
   conv at I=>whnf;rhs;whnf
   go_simp;exact f _ _ Zr c Z
  refine⟨fun a w c d K f=>?_,?_⟩
  ·obtain⟨g,-⟩:=d
   conv at g=>whnf;rhs;whnf
   have G:=Qp U c;have u1:=Qp M c;have u2:=Qp F c;have u3:=Qp V c;go_simp;exact f _ _ Zr c Z
  refine⟨fun a w c d K f=>?_,?_⟩
  ·clear d;go_simp;exact f _ _ (QU _ _) (c.alloc c.size _) ⟨_,Z,c.size,Qm _ _ _⟩
  trivial
theorem QfI {s:JSt}{x:QC}{rg:Option Addr}(hO:∀ k,O k->k<w.heap.size) (hJ:JOk s) (h:KAt w b O s){QR QA:Nat->Prop}(ah:intsL.In w QR x.regs [.slice rg x.regs.length rc]) (ai:intsL.In w QA x.args [.slice ag x.args.length ac]) (b7:x.regs.length<=rc) (ck:x.regs.length<=6) (bk:x.args.length<=8) (a0:0<=x.k/\x.k<s.m.length) (bb:x.op=14) :
 Calls prog 81 #[.pointer (some ⟨b,0,none⟩),Qa9 x rg ag rc ac] w fun e w'=>QX w O (s.makes x).1 (s.makes x).2 e w':=by
 have aj:=Qa ah;have af:=Qa ai;clear ah ai
 have E:Hid (s.makes x=(match s.m[x.k.toNat]? with
  | none=>(0,[])
  | some g=>if (x.regs.length:Int)=g.regs then
   (code2 (QF s.H [] x.regs) (s.args x.args g.params x.regs),g.results.map (Qal x.regs))
   else (2,[]))):=Qbw bb
 have S0:=Qa (MkS.start x rg ag rc ac hO hJ h);obtain⟨dq,xa,xb,xc,xk,xn,d,f⟩:=x
 simp only at bb
 subst bb;clear h;go_enter func81,ntmps81
 go_upto_region 59 with fail
 obtain⟨w2,a9⟩:∃ w2,(w.alloc (.cells #[.int .i64 14,.int .i64 xa,.int .i64 xb,.int .i64 xc,.int .i64 xk,.int .i64 xn,.slice rg d.length rc,.slice ag f.length ac] 46)).alloc (.cells #[.int .i64 1,.int .i64 0,.slice none 0 0] 70)=w2:=⟨_,Yz⟩
 obtain⟨X,hX⟩:∃ X,w.heap.size=X:=⟨_,Yz⟩
 have D:Hid (MkS w w2 b X O s ⟨14,xa,xb,xc,xk,xn,d,f⟩ rg ag rc ac (some ⟨X+1,0,none⟩)):=by rw[<-a9,<-hX];exact S0.out
 rw[a9,hX]
 clear a9 hX S0;obtain⟨x0,x1,x2,x3,x4,x6,x7⟩:=D.out.cells
 have dl:=D.out.ok.regs;have dp:=D.out.ok.vals;simp only at x0 x1 x2 x3 x4 x6 x7 b7 ck bk a0
 have cf:Hid (intsL.In w2 QR d [.slice rg d.length rc]):=Ya aj.out D.out.bel;have b4:Hid (intsL.In w2 QA f [.slice ag f.length ac]):=Ya af.out D.out.bel;clear aj af;obtain⟨k,rfl⟩:=Xc a0.1
 have cg:k<s.m.length:=by omega
 have U:s.m[k]?=some s.m[k]:=Zg cg;generalize s.m[k]=g at U;obtain⟨pm,cm,a1,c1,a2,c2,a3,c3,hh,aL,cL,R⟩:=D.out.known.read
 obtain⟨q0,-,-,-,-,-,-⟩:=R.cells
 obtain⟨mg,mo,p1,d1,p2,d2,p3,d3,rfl,f0,f1,f2,f3,hP,cp⟩:=Qcv R.mod U
 have az:Hid ((Qi 6).In w2 (fun g=>¬ O g) g.params [.slice p1 g.params.length d1]):=hP;have a7:Hid ((Qi 6).In w2 (fun g=>¬ O g) g.results [.slice p2 g.results.length d2]):=cp;have bo:Hid (g∈s.m):=Zm U
 have E2:Hid (s.makes ⟨14,xa,xb,xc,(k:Int),xn,d,f⟩=if (d.length:Int)=g.regs then (code2 (QF s.H [] d) (s.args f g.params d),g.results.map (Qal d)) else (2,[])):=by
  show _=_;rw[E.out]
  simp only[Int.toNat_natCast,U]
 have br:(k:Int)<s.m.length:=by omega
 clear E R hP cp U a0;generalize s.m.length=nm at q0 cg br;generalize bn:g.regs=fr at f0 E2;have cz:Hid (g.regs=fr):=bn;generalize bz:g.params.length=n1 at f1 az;have b0:Hid (g.params.length=n1):=bz;generalize cj:g.results.length=I at f2 a7;have ad:Hid (g.results.length=I):=cj;generalize g.blocks.length=n3 at f3;clear bn bz cj;refine QlL D q0 f0 f1 f2 f3 br Yz _ _ Yz (Xg (by kernel_rfl)) Yz Yz ?_;rintro c4 vs w5 ab ⟨B,aw,A,M⟩ b5;show wpList _ c4 _ [_] (Zn _ vs [288,289,290,291,292,293,294,295,296,14]) w5;simp only[Zn,Act.put,List.setIfInBounds_toArray,List.set_cons_zero,List.set_cons_succ,ab,aw]
 have e0:=Qb M 0 _ Yz;have e1:=Qb M 1 _ Yz;have e2:=Qb M 2 _ Yz;have e3:=Qb M 3 _ Yz;have ef:∀ i,w5.frozen? ⟨B,i,none⟩=false:=fun i=>Qn M i
 have B6:Hid (Blk ((((w5.setCell ⟨B,0,none⟩ (.int .i64 fr)).setCell ⟨B,1,none⟩ (.slice p1 n1 d1)).setCell ⟨B,2,none⟩ (.slice p2 I d2)).setCell ⟨B,3,none⟩ (.slice p3 n3 d3)) B #[.int .i64 fr,.slice p1 n1 d1,.slice p2 I d2,.slice p3 n3 d3] 40):=by
  have h3:=Qq (Qq (Qq (Qq M 0 (.int .i64 fr)) 1 (.slice p1 n1 d1)) 2 (.slice p2 I d2)) 3 (.slice p3 n3 d3);exact h3
 have b6:Hid (Below w2.heap.size w2 ((((w5.setCell ⟨B,0,none⟩ (.int .i64 fr)).setCell ⟨B,1,none⟩ (.slice p1 n1 d1)).setCell ⟨B,2,none⟩ (.slice p2 I d2)).setCell ⟨B,3,none⟩ (.slice p3 n3 d3))) :=
  (((b5.setCell (p:=⟨B,0,none⟩) A _).setCell (p:=⟨B,1,none⟩) A _).setCell (p:=⟨B,2,none⟩) A _).setCell (p:=⟨B,3,none⟩) A _
 clear M A b5 ab aw q0 f0 f1 f2 f3;go_upto_region 60 with fail
 generalize ((((w5.setCell ⟨B,0,none⟩ (.int .i64 fr)).setCell ⟨B,1,none⟩ (.slice p1 n1 d1)).setCell ⟨B,2,none⟩ (.slice p2 I d2)).setCell ⟨B,3,none⟩ (.slice p3 n3 d3))=w6 at B6 b6 |-;have S6:=Qa (D.out.below b6.out);have b3:Hid (intsL.In w6 QR d [.slice rg d.length rc]):=Ya cf.out b6.out;have co:Hid (intsL.In w6 QA f [.slice ag f.length ac]):=Ya b4.out b6.out;have bh:Hid ((Qi 6).In w6 (fun g=>¬ O g) g.params [.slice p1 n1 d1]):=Ya az.out b6.out;have cl:Hid ((Qi 6).In w6 (fun g=>¬ O g) g.results [.slice p2 I d2]):=Ya a7.out b6.out;clear e0 e1 e2 e3 ef x0 x1 x2 x3 x4 x6 x7 D cf b4 az a7 b6 hh aL cL a1 c1 a2 c2 a3 c3;have D:=S6;clear S6;obtain⟨x0,x1,x2,x3,x4,x6,x7⟩:=D.out.cells
 simp only at x0 x1 x2 x3 x4 x6 x7
 have e0:=Qb B6.out 0 _ Yz;have e1:=Qb B6.out 1 _ Yz;have e2:=Qb B6.out 2 _ Yz;generalize bq:d.length=K at x6 b7 ck b3 E2;have o:Hid (d.length=K):=bq;generalize bt:f.length=N at x7 bk co;have df:Hid (f.length=N):=bt;clear bq bt;by_cases J:(K:Int)=fr
 ·have cn:((K:Int) != fr)=false:=XH.2 J;have E3:Hid (s.makes ⟨14,xa,xb,xc,(k:Int),xn,d,f⟩=(code2 (QF s.H [] d) (s.args f g.params d),g.results.map (Qal d))):=by show _=_;rw[E2.out,Xs J]
  have cr:=Qa J;clear E2 J;obtain⟨dt,ds,a1,c1,a2,c2,a3,c3,hh,aL,cL,R⟩:=D.out.known.read
  obtain⟨-,-,-,-,-,q5,-⟩:=R.cells
  have di:Hid (Qr w6 hh O s.H):=R.holds;clear R;go_wp2_with fail
  go_loopw [15] (fun u wr=>∃ j,u=.int .i64 (j:Nat)/\j<=K/\Below w6.heap.size w6 wr/\QF s.H [] d=QF s.H (d.take j) (d.drop j)) (fun u _=>K - (intOf u).toNat)
  case atStart=>exact⟨0,Yz,Xb _,Zr,Yz⟩
  case round =>
   obtain⟨j,rfl,hj,A,hC⟩:=hrel
   have F:=Qa A;have HC:=Qa hC;have S7:=Qa (D.out.below A);have am:=Qp x6 A;have bg:=Qp x7 A;have bl:=Qp q5 A;have ae:Hid (Qr wr hh O s.H):=di.out.below A;have Q:Hid (intsL.In wr QR d [.slice rg K rc]):=Ya b3.out A;clear A hC;by_cases C:j<K
   ·obtain⟨lg,lo,rfl,-,-,z0⟩:=ZK Q.out (i:=j) (by rw[o.out];exact C)
    have P:d[j]?=some (d[j]'(by rw[o.out];exact C)):=Zg _;have ex:d.getD j 0=d[j]'(by rw[o.out];exact C):=by simp[List.getD,P]
    rw[ex] at z0
    generalize d[j]'(by rw[o.out];exact C)=r at P z0;have y:=QeH (H:=s.H) P;rw[<-HC.out] at y
    have d0:(j:Int)<K:=by omega
    have d5:(0:Int)<=j:=by omega
    have dr:(j:Int)<=rc:=by omega
    have CH:Hid (∀ n,Calls prog 121 #[.pointer (some ⟨hh,0,none⟩),.int .i64 r] (wr.drewN n) fun e w'=>e=.returned (.bool (hHas s.H r))/\w'=wr.drewN n):=fun n=>QdC r (by omega) (show Qr (wr.drewN n) hh O s.H from ae.out);clear ex
    cases hq:hHas s.H r with
    | false =>
      rw[hq] at CH y
      have E4:Hid ((s.makes ⟨14,xa,xb,xc,(k:Int),xn,d,f⟩).1=10):=by
       show _=_;have h1:QF s.H [] d=10:=by simpa using y
       rw[E3.out,h1];rfl
      have a6:=Qa S7.out.bel;clear E3 y hq P;go_wp2_with fail
      go_quiet ((go_at_call 121;exact Calls.quiet_of_same (CH.out _)))
      go_wp2
      go_ret2;rw[E4.out]
      exact QX.bad (by decide) (Qg a6.out _) _ _ _
    | true =>
      rw[hq] at CH y
      clear hq;go_wp2_with fail
      go_quiet ((go_at_call 121;exact Calls.quiet_of_same (CH.out _)))
      have b8:Below wr.heap.size wr (wr.drewN nq):=Qg Zr nq;have S8:=Qa (S7.out.below b8);have b2:=Qa (F.out.trans (b8.mono F.out.size));have bv:=Qp am b8;have cy:=Qp z0 b8;have bf:Hid (intsL.In (wr.drewN nq) QR d [.slice (some ⟨lg,lo,none⟩) K rc]):=Ya Q.out b8;clear b8;generalize wr.drewN nq=w8 at S8 b2 bv cy bf |-;clear am bg bl z0 Q ae CH
      have CI:Hid (∀ n,Calls prog 122 #[.slice (some ⟨lg,lo,none⟩) j rc,.int .i64 r] (w8.drewN n) fun e w'=>e=.returned (.bool (inB (d.take j) r))/\w'=w8.drewN n):=fun n =>
       QfB r (by simp;rw[o.out];omega) (by omega) (Lay.drewN (Qc8 bf.out (by rw[o.out];omega) rc) n)
      cases hq:inB (d.take j) r with
      | true =>
        rw[hq] at CI y
        have E4:Hid ((s.makes ⟨14,xa,xb,xc,(k:Int),xn,d,f⟩).1=13):=by
         show _=_;have h1:QF s.H [] d=13:=by simpa using y
         rw[E3.out,h1];rfl
        have a6:=Qa S8.out.bel;clear E3 y hq P;go_wp2_with fail
        go_quiet ((go_at_call 122;exact Calls.quiet_of_same (CI.out _)))
        go_wp2
        go_ret2;rw[E4.out]
        exact QX.bad (by decide) (Qg a6.out _) _ _ _
      | false =>
        rw[hq] at CI y
        have E5:Hid (QF s.H [] d=QF s.H (d.take (j+1)) (d.drop (j+1))):=by show _=_;simpa using y
        clear y hq P;go_wp2_with fail
        go_quiet ((go_at_call 122;exact Calls.quiet_of_same (CI.out _)))
        go_wp2
        go_roundw
        case rel=>exact⟨j+1,by go_num,by omega,Qg b2.out _,E5.out⟩
        case measure=>simp[intOf];omega
   ·have hz:QF s.H [] d=0:=by
     rw[HC.out]
     exact QeV (by rw[o.out];omega)
    have dm:¬ (j:Int)<K:=by omega
    have HZ:=Qa hz;have E4:Hid (s.makes ⟨14,xa,xb,xc,(k:Int),xn,d,f⟩=(s.args f g.params d,g.results.map (Qal d))):=by show _=_;rw[E3.out,hz];rfl
    have g0:=Qp e0 F.out;have g1:=Qp e1 F.out;have g2:=Qp e2 F.out;have ca:Hid (intsL.In wr QA f [.slice ag N ac]):=Ya co.out F.out;have ao:Hid ((Qi 6).In wr (fun g=>¬ O g) g.params [.slice p1 n1 d1]):=Ya bh.out F.out;have ax:Hid ((Qi 6).In wr (fun g=>¬ O g) g.results [.slice p2 I d2]):=Ya cl.out F.out;have bc:=Qa (D.out.ok.mod.2 g bo.out);have d4:n1<=8:=by rw[<-b0.out];exact bc.out.params.1
    have dw:I<=8:=by rw[<-ad.out];exact bc.out.results.1
    have bx:Hid (¬ Qf.great g):=fun hg=>D.out.ok.tiny (.inr ⟨g,bo.out,hg⟩);have de:Hid (∀ t∈g.params,t.count<=2000):=fun t ht=>Xo fun C=>bx.out (.inr (.inl (.inr ⟨t,ht,C⟩)));have dj:Hid (∀ t∈g.results,t.count<=2000):=fun t ht=>Xo fun C=>bx.out (.inr (.inr (.inl (.inr ⟨t,ht,C⟩))));clear E3 hz e0 e1 e2 ae bl HC;go_wp2_with fail
    refine(Qdz df.out b0.out o.out (by omega) (by omega) S7.out.ok.vals ca.out ao.out Q.out de.out S7.out.known).mono ?_
    rintro e G ⟨rfl,b9⟩;have S9:=Qa (S7.out.below b9);by_cases hc:s.args f g.params d=0
    ·rw[hc]
     have E5:Hid (s.makes ⟨14,xa,xb,xc,(k:Int),xn,d,f⟩=(0,g.results.map (Qal d))):=by show _=_;rw[E4.out,hc]
     have y6:=Qp am b9;have cq:=Qp g2 b9;have b1:Hid (intsL.In G QR d [.slice rg K rc]):=Ya Q.out b9;have bi:Hid ((Qi 6).In G (fun g=>¬ O g) g.results [.slice p2 I d2]):=Ya ax.out b9;clear E4 hc b9 am bg g0 g1 g2 S7 Q ca ao ax F;obtain⟨i0,hi,c9,db,da⟩:=pInfoT
     have dh:=Qa (QeS b1.out);go_wp2_with fail
     go_loopw [17,18] (fun v u wr=>∃ j l cs,u=.int .i64 (j:Nat)/\j<=I/\ZI (Lay.tt 6) 70 wr G.heap.size v l cs/\l=(g.results.take j).map (Qal d)/\Below G.heap.size G wr) (fun _ u _=>I - (intOf u).toNat)
     case atStart=>exact⟨0,[],[],Yz,Xb _,ZI.nil _ _ _ _,by simp,Zr⟩
     case round =>
      obtain⟨j2,l,cs,rfl,dy,hA,hl,A⟩:=hrel
      obtain⟨oa,oc,rfl⟩:=hA.formP
      have S:=Qa hA;have bw:=Qa hl;have F:=Qa A;have ci:=Qp y6 A;have r2:=Qp cq A;have bm:l.length=j2:=by rw[hl];simp;rw[ad.out];omega
      have a4:G.heap.size<=wr.heap.size:=A.size;have V:=Qa bm;clear hA hl A;by_cases aq:j2<I
      ·obtain⟨tl,bd⟩:=QK (Ya bi.out F.out)
       have W:g.results[j2]?=some (g.results[j2]'(by rw[ad.out];exact aq)):=Zg _;generalize g.results[j2]'(by rw[ad.out];exact aq)=t at W;obtain⟨gR,oR,ta,tc,rfl,-,t0,t1,t2,t3⟩:=LIn.at tl W
       have an:=Zm W;obtain⟨u,hu,c8⟩:=Qf4 (m:=d.length) (too:=fun i=>d.getD i 0) (a:=g.regs) (b:=s.H.length) (by rw[o.out,cz.out,<-cr.out];omega) (fun i hi=>Z0 (Qan HZ.out (d.getD i 0) (by simp[List.getD,hi]))) (bc.out.results.2 t an)
       have bj:Qal d t=u:=by unfold Qal;rw[hu];rfl
       have cb:u.ok:=Qec (fun i hi=>dh.out (d.getD i 0) (by simp[List.getD,hi])) (bd t an) hu;have au:Hid (t.ren K (fun i=>d.getD i 0)=some u):=by rw[<-o.out];exact hu
       have ce:Hid (TIn wr (fun g=>¬ O g) t ta):=t3;have dk:Hid (t.count<=2000):=dj.out t an;have cc:Hid (Qhp wr rg K (fun i=>d.getD i 0)):=QkI o.out (Ya b1.out F.out)
       have c7:Hid (l++[u]=(g.results.take (j2+1)).map (Qal d)):=by
        show _=_;rw[XV,W,Option.toList_some,List.map_append,<-bw.out]
        simp[bj]
       have dc:=Qa cb;have cx:(j2:Int)<I:=by omega
       clear tl bd W an hu c8 bj cb t3;go_upto_region 76 with fail
       refine Code.wp_mono ?_ (Ql4 r2 t0 t1 t2 ci cx ce dk cc au _ (by rfl) Yz Yz Yz Yz);rintro ee aa z ⟨rfl,dz,rfl,ua,uc,B2,ap,av,al,cd,ak⟩;simp only[Zn,Act.put,List.setIfInBounds_toArray,List.set_cons_zero,List.set_cons_succ,ap,av]
       have a5:Hid (ZI (Lay.tt 6) 70 z G.heap.size (.slice oa l.length oc) l cs):=S.out.below ak;have c0:=Qb al 0 _ Yz;have c1:=Qb al 1 _ Yz;have c2:=Qb al 2 _ Yz;have ar:=Qa (F.out.trans (ak.mono a4));have ay:G.heap.size<=z.heap.size:=Zt a4 ak.size;have bp:Hid (TIn z (fun g=>wr.heap.size<=g) u ua):=cd;have dg:l.length<=8:=by rw[V.out];omega
       have PU:Hid (∀ gg ba L,L.ownsRow G.heap.size 70 3 (.slice (some ⟨gg,0,none⟩) (l.length+1) ba) (l.length+1) (cs++[.int .i64 u.kind,.int .i64 u.r,.slice ua u.len uc])->(z.alloc (.cells #[.int .i64 u.kind,.int .i64 u.r,.slice ua u.len uc] 70)).grownBy L (Value.slice oa l.length oc).ownBlock->((Value.slice oa l.length oc).ownBlock=some gg\/gg=z.heap.size+1) ->
        ZI (Lay.tt 6) 70 L G.heap.size (.slice (some ⟨gg,0,none⟩) (l.length+1) ba) (l++[u]) (cs++[.int .i64 u.kind,.int .i64 u.r,.slice ua u.len uc])/\Below G.heap.size G L):=by
        intro gg ba L s1 s2 s3;have be:=QU z (.cells #[.int .i64 u.kind,.int .i64 u.r,.slice ua u.len uc] 70);have bu:=a5.out.below be
        have cu:(Lay.tt 6).In (z.alloc (.cells #[.int .i64 u.kind,.int .i64 u.r,.slice ua u.len uc] 70)) (fun g=>G.heap.size<=g/\(Value.slice oa l.length oc).ownBlock≠some g) u [.int .i64 u.kind,.int .i64 u.r,.slice ua u.len uc] :=
         ⟨ua,uc,Yz,(bp.out.below be).mono (fun k hk _=>⟨Zt a4 hk,fun e=>by have:=(S.out.lo_le e).2;omega⟩),dc.out⟩
        exact⟨ZI.push bu cu s2 (by simpa using s3) s1,((ar.out.alloc ay _).grown s2 (by simp;omega) (fun k hk=>(bu.lo_le hk).1))⟩
       have T:Hid (z.ownsRow G.heap.size 70 3 (.slice oa l.length oc) l.length cs):=a5.out.own;clear a5 ar bp cd al ak ap av t0 t1 t2 r2 ci S F ce cc au;generalize a8:l.length=lk at T PU V dg |-;clear a8;go_wp2_with (at_builtin;refine wpList_append_lies _ Yz (.tmp 360) (.tmp 362) 33 Yz G.heap.size 70 i0 (.agg #[.int .i64 0,.int .i64 0,.slice none 0 0]) 3 40 pUnderT hi c9 db da Yz (by decide) _ _ _ Yz (T.out.alloc _) ⟨z.heap.size,0,none⟩ 1 1 [.int .i64 u.kind,.int .i64 u.r,.slice ua u.len uc] Yz Yz (QeJ _ [_,_,_] _) (Qfi _ _ _ _ _) (by decide) (by unfold maxLen;omega) (by omega) (by simp;omega) (z.heap.size+1) (by simp) ?_)
       intro g3 bs L s1 s2 s3 s4;obtain⟨q1,q2⟩:=PU.out g3 bs L s1 s2 s3
       have c5:=Qa q1;have c6:=Qa q2;clear s1 s2 s3 s4 PU T q1 q2;go_wp2
       go_roundw
       case rel=>exact⟨j2+1,l++[u],_,by go_num,by omega,c5.out,c7.out,c6.out⟩
       case measure=>simp[intOf];omega
      ·have ct:j2=I:=by omega
       have cv:¬ (j2:Int)<I:=by omega
       have Z:Hid (QX w O 0 (g.results.map (Qal d)) (.returned (.tuple #[.slice oa l.length oc,.int .i64 0])) wr):=by
        have dd:l=g.results.map (Qal d):=by
         rw[bw.out,XO (by rw[ad.out];omega)]
        rw[<-dd]
        refine⟨oa,l.length,oc,Yz,fun _=>⟨Yz,?_,Yc S.out.lay (fun k hk _ ho=>by have h8:=S9.out.lt k ho;have:G.heap.size<=k:=hk;omega)⟩,S9.out.bel.trans (F.out.mono S9.out.bel.size)⟩
        obtain⟨-,q2⟩:=S.out.own
        rcases q2 with ⟨e,e'⟩|⟨g',dn,dv,e,du,dx,d6,q⟩
        ·rw[e'];exact Xb _
        ·simp only[Value.slice.injEq] at e
         omega
       clear S F ct;generalize a8:l.length=lk at Z V;clear a8;go_wp2
       go_ret2;rw[E5.out]
       exact Z.out
    ·have cw:(s.args f g.params d==0)=false:=beq_eq_false_iff_ne.2 hc;have E5:Hid ((s.makes ⟨14,xa,xb,xc,(k:Int),xn,d,f⟩).1=s.args f g.params d):=by show _=_;rw[E4.out]
     have ch:=Qa hc;clear E4 hc;generalize s.args f g.params d=c at E5 cw ch |-;go_wp2
     go_ret2;rw[E5.out]
     exact QX.bad ch.out S9.out.bel _ _ _
 ·have cn:((K:Int)==fr)=false:=beq_eq_false_iff_ne.2 J;have E3:Hid (s.makes ⟨14,xa,xb,xc,(k:Int),xn,d,f⟩=(2,[])):=by show _=_;rw[E2.out,Xr J]
  clear E2 J;go_wp2
  go_ret2;rw[E3.out]
  exact QX.nil D.out.bel
theorem Qkz (h:∀ x∈regs,-9223372036854775808<=x/\x<=9223372036854775807){t:TT 6}(c:t.ok):(Qal regs t).ok:=by
 unfold Qal
 cases e:t.ren regs.length (fun i=>regs.getD i 0) with
 | none=>exact⟨⟨by decide,by decide⟩,fun x a=>by simp[zeroTT] at a⟩
 | some u=>exact Qec (fun i b=>h (regs.getD i 0) (by simp[List.getD,b])) c e
theorem QcQ.types {M:Nat}{l:List (TT 6)}(h:QcQ w G M l) (q:l.length=M) (e:∀ x∈l,x.ok) (m:∀ k,G<=k->¬ A k):(Qi 6).In w (fun g=>¬ A g) l [.slice (some ⟨G,0,none⟩) M M]:=by
 obtain⟨u,b,y,n⟩:=h.row
 subst q;refine⟨_,_,Z,fun i x f=>?_⟩
 obtain⟨a,c,s,o,t,p⟩:=n i x f
 refine⟨G,0,[.int .i64 x.kind,.int .i64 x.r,.slice a x.len c],Z,m G Ze,XC b,fun j d=>?_,a,c,Z,p.mono (fun k v _=>m k (by omega)),e x (Zm f)⟩
 have d:j<3:=d;show w.cell? ⟨G,0+i*3+j,none⟩=_;rw[XK]
 match j,d with
 | 0,_=>exact Qb b _ _ s
 | 1,_=>exact Qb b _ _ o
 | 2,_=>exact Qb b _ _ t
 | j+3,h=>exact absurd h (by omega)
noncomputable def JSt.callC (s:JSt) (x:QC):Int:=match s.m[x.k.toNat]? with
 | none=>0
 | some g=>code2 (Qcm s.H x.regs g.regs) (code2 (s.handC x.args (g.params.map (Qal x.regs))) (Zu s.L.length g.results.length))
def JSt.callS (s:JSt) (x:QC):JSt:={ s with L:=s.L++(match s.m[x.k.toNat]? with | none=>[] | some g=>g.results.map (Qal x.regs)) }
def Qlw (w2:World) (b X mg mo nm cm k n1 d1 n2 d2 n3 d3:Nat) (fr:Int) (p1 p2 p3:Option Addr) (t:Tmp) (v:Value) (w:World):Prop :=
 match ([(4,fun v w=>∃ B,v=.pointer (some ⟨B,0,none⟩)/\w2.heap.size<=B/\Blk w B #[.int .i64 0,.slice none 0 0,.slice none 0 0,.slice none 0 0] 40)]:List (Tmp × (Value->World->Prop))).lookup t with
 | some p=>p v w
 | none=>v=(([(0,.pointer (some ⟨b,0,none⟩)),(3,.pointer (some ⟨X,0,none⟩)),(5,.pointer (some ⟨b,0,none⟩)),(6,.pointer (some ⟨b,0,none⟩)),(7,.pointer (some ⟨b,0,none⟩)),(8,.pointer (some ⟨b,0,none⟩)),(9,.slice (some ⟨mg,mo,none⟩) nm cm),(10,.pointer (some ⟨X,4,none⟩)),(11,.int .i64 (k:Int)),(12,.pointer (some ⟨mg,mo+k*4,none⟩)),(13,.agg #[.int .i64 fr,.slice p1 n1 d1,.slice p2 n2 d2,.slice p3 n3 d3])]:List (Tmp × Value)).lookup t).getD undef
theorem jc1 {i g u s z q o:Nat}{y r:Option Addr}(M:w2.cell? ⟨b,0,none⟩=some (.slice (some ⟨i,g,none⟩) u cm)) (H:w2.cell? ⟨X,4,none⟩=some (.int .i64 (k:Int))) (O:w2.cell? ⟨i,g+k*4,none⟩=some (.int .i64 fr)) (I:w2.cell? ⟨i,g+k*4+1,none⟩=some (.slice p1 n1 d1)) (C:w2.cell? ⟨i,g+k*4+2,none⟩=some (.slice y s z)) (P:w2.cell? ⟨i,g+k*4+3,none⟩=some (.slice r q o)) (R:(k:Int)<u){Q:Exit->Act->World->Prop}
 (a:Act) (m:Nat) (F:a.tmps.size=m) (x:36<=m) (G:a.tmps.getD 0 undef=.pointer (some ⟨b,0,none⟩)) (J:a.tmps.getD 3 undef=.pointer (some ⟨X,0,none⟩))
 (hend:∀ ops vs w',vs 13=.agg #[.int .i64 fr,.slice p1 n1 d1,.slice y s z,.slice r q o]->(fun v w=>∃ B,v=.pointer (some ⟨B,0,none⟩)/\w2.heap.size<=B/\Blk w B #[.int .i64 0,.slice none 0 0,.slice none 0 0,.slice none 0 0] 40) (vs 4) w'->Below w2.heap.size w2 w'->wpList prog ops Q (Qdh 10 ((Tryz.f75.body.bind (Qo 1)).getD .skip)) (Zn a vs [5,6,7,8,9,10,11,12,13,4]) w') :
 Code.wp prog ((Tryz.f75.body.bind (Qo 1)).getD .skip) Q a w2:=by
 conv=>arg 2;whnf
 refine Qw 10 (Qlw w2 b X i g u cm k n1 d1 s z q o fr p1 y r) (fun w=>Below w2.heap.size w2 w) (fun w w'=>Below w.heap.size w w') (outs:=[0,3]) (gs:=[]) (bs:=[true,true,true,true,true,true,true,true,true,true]) (by kernel_rfl) (n:=36) F x (by kernel_rfl) (by kernel_rfl) ?hR ?hG (Qg Zr 1) ⟨G,J,Y⟩ ?hA ?hend
 case hR =>
  intro t v w w' S h;unfold Qlw at h |-;split at h
  ·rename_i p l
   simp only[List.lookup_cons,List.lookup_nil] at l
   split at l
   ·cases l;exact(by obtain⟨B,e,N,A⟩:=h;exact⟨B,e,N,(S.block B (XC A)).trans A⟩)
   ·cases l
  ·exact h
 case hG=>exact Y
 case hend=>exact fun ops vs w' c d=>hend ops vs w' (d 13 (by kernel_rfl)) (d 4 (by kernel_rfl)) c
 case hA =>
  iterate 7
   refine⟨fun a w c d K f=>?_,?_⟩
   ·obtain⟨j,-⟩:=d
    conv at j=>whnf;rhs;whnf
    have D:=Qp M c;have L:=Qp H c;go_simp;exact f _ _ Zr c Z
  refine⟨fun a w c d K f=>?_,?_⟩
  ·obtain⟨j,E,-⟩:=d
   conv at j=>whnf;rhs;whnf
   conv at E=>whnf;rhs;whnf
   go_simp;exact f _ _ Zr c Z
  refine⟨fun a w c d K f=>?_,?_⟩
  ·obtain⟨j,-⟩:=d
   conv at j=>whnf;rhs;whnf
   have D:=Qp O c;have L:=Qp I c;have U:=Qp C c;have T:=Qp P c;go_simp;exact f _ _ Zr c Z
  refine⟨fun a w c d K f=>?_,?_⟩
  ·clear d;go_simp;exact f _ _ (QU _ _) (c.alloc c.size _) ⟨_,Z,c.size,Qm _ _ _⟩
  trivial
def QlB (w2:World) (b X C N ac n1 d1 Kn rc:Nat) (ag rg p1:Option Addr) (ps:List (TT 6)) (regs:List Int) (t:Tmp) (v:Value) (w:World):Prop :=
 match ([(27,fun v w=>∃ g,v=.slice (some ⟨g,0,none⟩) n1 n1/\w2.heap.size<=g/\QcQ w g n1 (ps.map (Qal regs)))]:List (Tmp × (Value->World->Prop))).lookup t with
 | some p=>p v w
 | none=>v=(([(0,.pointer (some ⟨b,0,none⟩)),(3,.pointer (some ⟨X,0,none⟩)),(4,.pointer (some ⟨C,0,none⟩)),(20,.pointer (some ⟨b,0,none⟩)),(21,.pointer (some ⟨X,7,none⟩)),(22,.slice ag N ac),(23,.pointer (some ⟨C,1,none⟩)),(24,.slice p1 n1 d1),(25,.pointer (some ⟨X,6,none⟩)),(26,.slice rg Kn rc)]:List (Tmp × Value)).lookup t).getD undef
theorem jc3 {C j:Nat}{y:Option Addr}{f:List (TT 6)}{R:Nat->Prop}(G:w2.cell? ⟨X,6,none⟩=some (.slice y j rc)) (T:w2.cell? ⟨X,7,none⟩=some (.slice ag N ac)) (J:w2.cell? ⟨C,1,none⟩=some (.slice p1 n1 d1)) (A:Hid (regs.length=j)) (l:Hid (f.length=n1)) (k:n1<=1000) (B:Hid (intsL.In w2 Q regs [.slice y j rc])) (P:Hid (LIn w2 R f p1)) (L:Hid (∀ x∈f,x.count<=2000)){Q:Exit->Act->World->Prop}
 (a:Act) (m:Nat) (F:a.tmps.size=m) (r:36<=m) (I:a.tmps.getD 0 undef=.pointer (some ⟨b,0,none⟩)) (O:a.tmps.getD 3 undef=.pointer (some ⟨X,0,none⟩)) (M:a.tmps.getD 4 undef=.pointer (some ⟨C,0,none⟩))
 (hend:∀ ops vs w',vs 22=.slice ag N ac->vs 20=.pointer (some ⟨b,0,none⟩)->(fun v w=>∃ g,v=.slice (some ⟨g,0,none⟩) n1 n1/\w2.heap.size<=g/\QcQ w g n1 (f.map (Qal regs))) (vs 27) w'->Below w2.heap.size w2 w'->wpList prog ops Q (Qdh 8 ((Tryz.f75.body.bind (Qo 3)).getD .skip)) (Zn a vs [20,21,22,23,24,25,26,27]) w') :
 Code.wp prog ((Tryz.f75.body.bind (Qo 3)).getD .skip) Q a w2:=by
 conv=>arg 2;whnf
 refine Qw 8 (QlB w2 b X C N ac n1 d1 j rc ag y p1 f regs) (fun w=>Below w2.heap.size w2 w) (fun w w'=>Below w.heap.size w w') (outs:=[0,3,4]) (gs:=[]) (bs:=[true,true,true,true,true,true,true,true]) (by kernel_rfl) (n:=36) F r (by kernel_rfl) (by kernel_rfl) ?hR ?hG (Qg Zr 1) ⟨I,O,M,Y⟩ ?hA ?hend
 case hR =>
  intro t v w w' U h;unfold QlB at h |-;split at h
  ·rename_i p i
   simp only[List.lookup_cons,List.lookup_nil] at i
   split at i
   ·cases i;exact(by obtain⟨g,e,S,E⟩:=h;exact⟨g,e,S,E.below U⟩)
   ·cases i
  ·exact h
 case hG=>exact Y
 case hend=>exact fun ops vs w' c d=>hend ops vs w' (d 22 (by kernel_rfl)) (d 20 (by kernel_rfl)) (d 27 (by kernel_rfl)) c
 case hA =>
  iterate 7
   refine⟨fun a w c d K u=>?_,?_⟩
   ·obtain⟨q,-⟩:=d
    conv at q=>whnf;rhs;whnf
    have V:=Qp T c;have u1:=Qp J c;have W:=Qp G c;go_simp;exact u _ _ Zr c Z
  refine⟨fun a w c d K u=>?_,?_⟩
  ·obtain⟨q,D,-⟩:=d
   conv at q=>whnf;rhs;whnf
   conv at D=>whnf;rhs;whnf
   go_simp;refine Xm (Qbn A.out l.out k (Ya B.out c) (P.out.below c) L.out) ?_;rintro r7 w7 ⟨H,rfl,s,o,z⟩;go_simp;exact u _ _ z (c.trans (z.mono c.size)) ⟨H,Z,Zt c.size s,o⟩
  trivial
theorem Qhx {s:JSt}{x:QC}{B:Option Addr}(hA:∀ k,A k->k<w.heap.size) (hJ:JOk s) (h:SAt w b O A s) (l:intsL.In w Q x.regs [.slice B x.regs.length rc]) (n:intsL.In w Q x.args [.slice ag x.args.length ac]) (am:x.regs.length<=rc) (be:x.regs.length<=6) (ar:x.args.length<=8) (ah:0<=x.k/\x.k<s.m.length) :
 Calls prog 75 #[.pointer (some ⟨b,0,none⟩),Qa9 x B ag rc ac] w fun e w'=>Zc w b O A s (s.callS x) (s.callC x) e w':=by
 obtain⟨J,F,M,G,xk,I,a,f⟩:=x
 simp only at l n am be ar ah
 have HJ:=Qa hJ;have H0:=Qa h;have HA:=Qa hA;have hL:=hJ.vals;have b1:=QU w (.cells #[.int .i64 J,.int .i64 F,.int .i64 M,.int .i64 G,.int .i64 xk,.int .i64 I,.slice B a.length rc,.slice ag f.length ac] 46);have H:=Qa (h.below b1);have HR:Hid (intsL.In _ Q a [.slice B a.length rc]):=Ya l b1;have HG:Hid (intsL.In _ Q f [.slice ag f.length ac]):=Ya n b1;have HB:=Qa b1;have X1:Hid (Blk (w.alloc (.cells #[.int .i64 J,.int .i64 F,.int .i64 M,.int .i64 G,.int .i64 xk,.int .i64 I,.slice B a.length rc,.slice ag f.length ac] 46)) w.heap.size #[.int .i64 J,.int .i64 F,.int .i64 M,.int .i64 G,.int .i64 xk,.int .i64 I,.slice B a.length rc,.slice ag f.length ac] 46):=Blk.new _ _ _;clear h hA hJ b1 l n;obtain⟨k,rfl⟩:=Xc ah.1
 have bc:k<s.m.length:=by omega
 have q:s.m[k]?=some s.m[k]:=Zg bc;generalize s.m[k]=g at q;have aw:Hid (g∈s.m):=Zm q
 have E:Hid (s.callC ⟨J,F,M,G,(k:Int),I,a,f⟩=code2 (Qcm s.H a g.regs) (code2 (s.handC f (g.params.map (Qal a))) (Zu s.L.length g.results.length))):=by
  show _=_;unfold JSt.callC;simp only[Int.toNat_natCast,q]
 have ES:Hid (s.callS ⟨J,F,M,G,(k:Int),I,a,f⟩={ s with L:=s.L++g.results.map (Qal a) }):=by
  show _=_;unfold JSt.callS;simp only[Int.toNat_natCast,q]
 have bd:=Qa (HJ.out.mod.2 g aw.out);have a5:Hid (¬ Qf.great g):=fun hg=>HJ.out.tiny (.inr ⟨g,aw.out,hg⟩);have bl:Hid (∀ t∈g.params,t.count<=2000):=fun t ht=>Xo fun ai=>a5.out (.inr (.inl (.inr ⟨t,ht,ai⟩)));have bm:Hid (∀ t∈g.results,t.count<=2000):=fun t ht=>Xo fun ai=>a5.out (.inr (.inr (.inl (.inr ⟨t,ht,ai⟩))));have bk:Hid (∀ t∈s.L,t.count<=100000):=fun t ht=>Zt (Zz (HJ.out.types t ht)) (by omega);have ay:(k:Int)<s.m.length:=by omega
 go_enter func75,ntmps75
 go_upto_region 1 with fail
 generalize w.alloc (.cells #[.int .i64 J,.int .i64 F,.int .i64 M,.int .i64 G,.int .i64 (k:Int),.int .i64 I,.slice B a.length rc,.slice ag f.length ac] 46)=w1 at H HR HG HB X1 |-;obtain⟨X,hX⟩:∃ X,w.heap.size=X:=⟨_,Z⟩
 rw[hX] at X1 |-
 clear hX;have x4:=Qb X1.out 4 _ Z;have x6:=Qb X1.out 6 _ Z;have x7:=Qb X1.out 7 _ Z;obtain⟨pm,cm,hh,a1,c1,a2,c2,a3,c3,aL,cL,RR⟩:=H.out.read
 obtain⟨q0,-⟩:=RR.cells
 obtain⟨mg,mo,p1,d1,R,D,p3,d3,rfl,f0,f1,f2,f3,hP,bg⟩:=Qcv RR.mod q
 have ae:Hid ((Qi 6).In w1 (fun g=>¬ A g) g.params [.slice p1 g.params.length d1]):=hP;have al:Hid ((Qi 6).In w1 (fun g=>¬ A g) g.results [.slice R g.results.length D]):=bg;clear RR hP bg q ah;generalize s.m.length=nm at q0 bc ay;generalize bh:g.regs=fr at f0 E;generalize ak:g.params.length=T at f1 ae;have a9:=Qa ak;generalize ap:g.results.length=o at f2 al E;have a6:=Qa ap;generalize g.blocks.length=n3 at f3;have bn:T<=8:=by rw[<-ak];exact bd.out.params.1
 have bo:o<=8:=by rw[<-ap];exact bd.out.results.1
 clear ak ap bh;refine jc1 q0 x4 f0 f1 f2 f3 ay _ _ Z (Xg (by kernel_rfl)) Z Z ?_;rintro aj vs w5 ad ⟨C,a8,hC,j⟩ b5;show wpList _ aj _ [_] (Zn _ vs [5,6,7,8,9,10,11,12,13,4]) w5;simp only[Zn,Act.put,List.setIfInBounds_toArray,List.set_cons_zero,List.set_cons_succ,ad,a8]
 have e0:=Qb j 0 _ Z;have e1:=Qb j 1 _ Z;have e2:=Qb j 2 _ Z;have e3:=Qb j 3 _ Z;have ef:∀ i,w5.frozen? ⟨C,i,none⟩=false:=fun i=>Qn j i
 have B6:Hid (Blk ((((w5.setCell ⟨C,0,none⟩ (.int .i64 fr)).setCell ⟨C,1,none⟩ (.slice p1 T d1)).setCell ⟨C,2,none⟩ (.slice R o D)).setCell ⟨C,3,none⟩ (.slice p3 n3 d3)) C #[.int .i64 fr,.slice p1 T d1,.slice R o D,.slice p3 n3 d3] 40):=by
  have h3:=Qq (Qq (Qq (Qq j 0 (.int .i64 fr)) 1 (.slice p1 T d1)) 2 (.slice R o D)) 3 (.slice p3 n3 d3);exact h3
 have P:Hid (Below w1.heap.size w1 ((((w5.setCell ⟨C,0,none⟩ (.int .i64 fr)).setCell ⟨C,1,none⟩ (.slice p1 T d1)).setCell ⟨C,2,none⟩ (.slice R o D)).setCell ⟨C,3,none⟩ (.slice p3 n3 d3))) :=
  (((b5.setCell (p:=⟨C,0,none⟩) hC _).setCell (p:=⟨C,1,none⟩) hC _).setCell (p:=⟨C,2,none⟩) hC _).setCell (p:=⟨C,3,none⟩) hC _
 clear j hC b5 ad a8 q0 f0 f1 f2 f3;go_upto_region 2 with fail
 generalize ((((w5.setCell ⟨C,0,none⟩ (.int .i64 fr)).setCell ⟨C,1,none⟩ (.slice p1 T d1)).setCell ⟨C,2,none⟩ (.slice R o D)).setCell ⟨C,3,none⟩ (.slice p3 n3 d3))=w6 at B6 P |-;clear e0 e1 e2 e3 ef;obtain⟨e0,e1,e2,e3⟩:=QkU B6.out
 have x6:=Qp x6 P.out;have x7:=Qp x7 P.out;have H6:=Qa (H.out.below P.out);have S:=Qa (HB.out.trans (P.out.mono HB.out.size));have u:Hid (intsL.In w6 Q a [.slice B a.length rc]):=Ya HR.out P.out;have an:Hid (intsL.In w6 Q f [.slice ag f.length ac]):=Ya HG.out P.out;have az:Hid ((Qi 6).In w6 (fun g=>¬ A g) g.params [.slice p1 T d1]):=Ya ae.out P.out;have ax:Hid ((Qi 6).In w6 (fun g=>¬ A g) g.results [.slice R o D]):=Ya al.out P.out;clear H HB HR HG ae al P B6 X1 x4;obtain⟨K,hK⟩:∃ K,a.length=K:=⟨_,Z⟩
 have HK:=Qa hK;rw[hK] at x6 u am be
 clear hK;obtain⟨N,hN⟩:∃ N,f.length=N:=⟨_,Z⟩
 have HN:=Qa hN;rw[hN] at x7 an ar
 clear hN;have CL:=Qa (Qem fr HK.out (by omega) am u.out H6.out);go_wp2_with fail
 refine CL.out.mono ?_;rintro e' w' ⟨hO,hw⟩;have hw:=hw.symm;subst hw;rcases hO with ⟨z,y,rfl,hy⟩|⟨z,rfl⟩
 rotate_left
 ·exact⟨Z,Zc.bad (by rw[E.out,Qx z]) z (Yh H0.out S.out)⟩
 subst hy;have E2:Hid (s.callC ⟨J,F,M,G,(k:Int),I,a,f⟩=code2 (s.handC f (g.params.map (Qal a))) (Zu s.L.length o)):=by show _=_;rw[E.out,QH z]
 clear z CL E;go_upto_region 3 with fail
 refine jc3 x6 x7 e1 HK a9 (by omega) u (Qa (QK az.out).1) bl _ _ Z (Xg (by kernel_rfl)) Z Z Z ?_;rintro aj vs w7 V ab ⟨gP,aa,bj,au⟩ b7;show wpList _ aj _ [_] (Zn _ vs [20,21,22,23,24,25,26,27]) w7;simp only[Zn,Act.put,List.setIfInBounds_toArray,List.set_cons_zero,List.set_cons_succ,V,ab,aa]
 have H7:=Qa (H6.out.below b7);have U:=Qa (S.out.trans (b7.mono S.out.size))
 have CH:Hid (Calls prog 92 #[.pointer (some ⟨b,0,none⟩),.slice ag N ac,.slice (some ⟨gP,0,none⟩) T T] w7 fun e w'=>Qac (s.handC f (g.params.map (Qal a))) VNone e/\Below w7.heap.size w7 w') :=
  QaX HN.out (by omega) (by rw[XN,a9.out]) (by omega) (Ya an.out b7) au.lin hL bk.out (fun k hk=>Zl (HA.out k (H0.out.sub k hk)) U.out.size) H7.out
 have ba:Hid ((Qi 6).In w7 (fun g=>¬ A g) g.results [.slice R o D]):=Ya ax.out b7;have av:Hid (intsL.In w7 Q a [.slice B K rc]):=Ya u.out b7;have bb:=Qp e2 b7;have a0:=Qp x6 b7;clear au bj b7 V ab aa H6 S u an az ax e0 e1 e2 e3 x6 x7;go_wp2_with fail
 refine CH.out.mono ?_;rintro e' w8 ⟨hO,b8⟩;have H8:=Qa (H7.out.below b8);have r:=Qa (U.out.trans (b8.mono U.out.size));rcases hO with ⟨z,y,rfl,hy⟩|⟨z,rfl⟩
 rotate_left
 ·exact⟨Z,Zc.bad (by rw[E2.out,Qx z]) z (Yh H0.out r.out)⟩
 subst hy;have E3:Hid (s.callC ⟨J,F,M,G,(k:Int),I,a,f⟩=Zu s.L.length o):=by show _=_;rw[E2.out,QH z]
 have ao:Hid ((Qi 6).In w8 (fun g=>¬ A g) g.results [.slice R o D]):=Ya ba.out b8;have af:Hid (intsL.In w8 Q a [.slice B K rc]):=Ya av.out b8;have bf:=Qp bb b8;have a4:=Qp a0 b8;clear z CH E2 b8 ba av bb a0 H7 U;have CR:=Qa (Qbn (d:=D) (c:=rc) HK.out a6.out (by omega) af.out (QK ao.out).1 bm.out);go_wp2_with fail
 refine CR.out.mono ?_;rintro e' w9 ⟨gR,rfl,bi,aq,b9⟩;have a7:=Qa (r.out.trans (b9.mono r.out.size))
 have CM:Hid (Calls prog 70 #[.pointer (some ⟨b,0,none⟩),.slice (some ⟨gR,0,none⟩) o o] w9 fun e w'=>Zc w b O A s (s.callS ⟨J,F,M,G,(k:Int),I,a,f⟩) (s.callC ⟨J,F,M,G,(k:Int),I,a,f⟩) e w'):=by
  rw[ES.out,E3.out]
  have W:(g.results.map (Qal a)).length=o:=by rw[XN,a6.out]
  refine(QaJ W (by omega) (aq.types W (fun y hy=>?_) (fun k hk e=>?_)) hL (fun k hk=>Zl (HA.out k hk) a7.out.size) (H8.out.below b9)).mono (fun e w' hd=>hd.after a7.out)
  ·obtain⟨t,ht,rfl⟩:=List.mem_map.1 hy
   exact Qkz (QeS af.out) ((QK ao.out).2 t ht)
  ·have h1:=HA.out k e;have h2:=r.out.size;omega
 clear aq bi b9 CR ao af bf a4 H8 r E3;go_wp2_with fail
 refine CM.out.mono ?_;rintro e' bp hd;have FF:=Qa hd;rcases hd with ⟨h1,rfl,h3⟩|⟨h1,rfl,h3⟩
 rotate_left
 ·exact⟨Z,FF.out⟩
 clear h1 h3 CM;go_wp2
 exact Xz (v:=.tuple #[]) (by simp[results,results75,go_sem]) Z FF.out
def passC (H:List Bool) (kept:Int) (l:List Int) (asked:Int):Int:=if (l.length:Int)=asked then code2 (QbX kept.toNat l) (hPass H [] l) else 2
theorem Qi8 (a:k<n) (h:l.getD k 0≠(k:Int)):QbX n l=11:=by
 unfold QbX;rw[Xr]
 intro e;rw[Xe] at e
 have:=e k (List.mem_range.2 a)
 exact h (by simpa using this)
theorem QjG (h:∀ k,k<n->l.getD k 0=(k:Int)):QbX n l=0:=by
 unfold QbX;rw[Xs]
 rw[Xe]
 intro k a;exact Xt (h k (List.mem_range.1 a))
theorem Qev {s:JSt}(a:Int) (hN:l.length=N) (R:N<=100000) (hl:intsL.In w Q l [.slice p N c]) (x:0<=s.f.regs) (D:s.f.regs<=a) (h:SAt w b O A s) :
 Calls prog 127 #[.pointer (some ⟨b,0,none⟩),.slice p N c,.int .i64 a] w fun e w'=>Qac (passC s.H s.f.regs l a) VNone e/\Below w.heap.size w w':=by
 have HL:=Qa hl;have K:=Qa hN;obtain⟨pm,cm,hh,a1,c1,a2,c2,a3,c3,aL,cL,P⟩:=h.read
 obtain⟨-,q1,q2,-⟩:=P.cells
 have HH:=Qa P.held;clear h hl hN P;by_cases q:(N:Int)=a
 rotate_left
 ·have t:((N:Int)==a)=false:=by simpa using q
  have E:Hid (passC s.H s.f.regs l a=2):=by show _=_;unfold passC;rw[K.out,Xr q]
  go_enter func127,ntmps127
  go_wp2_with fail
  refine(ZA _ 2).mono ?_
  rintro n w' ⟨rfl,d⟩;subst d;exact⟨Z,Qac.bad E.out (by decide),Zr⟩
 subst q;have t:((N:Int)==(N:Int))=true:=by simp
 obtain⟨M,T⟩:∃ M:Nat,s.f.regs=(M:Int):=Xc x
 have E:Hid (passC s.H s.f.regs l N=code2 (QbX M l) (hPass s.H [] l)):=by show _=_;unfold passC;rw[K.out,Xs Z,T];rfl
 rw[T] at q2 D
 have ac:M<=N:=by omega
 have L:Hid (passC s.H s.f.regs l N=passC s.H s.f.regs l N):=rfl;clear x D L;generalize passC s.H s.f.regs l N=pc at E |-;clear T;go_enter func127,ntmps127
 go_wp2_with (go_at_call 110;refine(ZB _ _).mono ?_;rintro n w' ⟨rfl,d⟩;have d:=d.symm;subst d)
 go_loop [18] (fun i=>∃ k:Nat,k<=M/\i=.int .i64 k/\∀ j,j<k->l.getD j 0=(j:Int)) (fun i=>M - (intOf i).toNat)
 case atStart=>exact⟨0,Xb _,Z,fun j hj=>by omega⟩
 case round =>
  obtain⟨k,hk,rfl,hz⟩:=hrel
  have S:=Qa hz;clear hz;by_cases G:k<M
  ·have F:(k:Int)<M:=by omega
   have aa:(k:Int)<N:=by omega
   have u:k<l.length:=by rw[K.out];omega
   obtain⟨g,o,rfl,-,hg,r⟩:=ZK HL.out u
   clear u;by_cases m:l.getD k 0=(k:Int)
   ·have HY:=Qa m;rw[m] at r
    have ab:((k:Int)==(k:Int))=true:=by simp
    clear m;go_wp2_with (go_at_call 110;refine(ZB _ _).mono ?_;rintro n w' ⟨rfl,d⟩;have d:=d.symm;subst d)
    go_round
    case rel =>
     refine⟨k+1,G,by go_num,fun j hj=>?_⟩
     rcases Nat.lt_or_ge j k with h | h
     ·exact S.out j h
     ·have:j=k:=by omega
      subst this;exact HY.out
    case measure=>simp[intOf];omega
   ·have I:Hid (pc=11):=by show _=_;rw[E.out,Qi8 G m];rfl
    have X:(l.getD k 0==(k:Int))=false:=by simpa using m
    generalize l.getD k 0=y at r m X;clear m;go_wp2_with fail
    refine(ZA _ 11).mono ?_
    rintro n w' ⟨rfl,d⟩;subst d;exact⟨Z,Qac.bad I.out (by decide),Zr⟩
  ·have F:¬ (k:Int)<M:=by omega
   have V:k=M:=by omega
   have I:Hid (pc=hPass s.H [] l):=by show _=_;rw[E.out,QjG (fun j hj=>S.out j (by omega))];rfl
   have C:=Qa (Qir K.out R HL.out HH.out);generalize hPass s.H [] l=J at I C;clear S V;by_cases B:J=0
   ·have W:(J==0)=true:=by simpa using B
    subst B;go_wp2_with (first | (go_at_call 144;refine(C.out).mono ?_;rintro n w2 ⟨rfl,z⟩;have U:=Qa z;clear z) | (go_at_call 110;refine(ZB _ _).mono ?_;rintro n w' ⟨rfl,d⟩;have d:=d.symm;subst d))
    exact Xz (v:=.tuple #[]) (by simp[results,results127,go_sem]) Z ⟨Qac.good I.out Z,U.out⟩
   ·have W:(J==0)=false:=by simpa using B
    have H0:=Qa B;clear B;go_wp2_with (go_at_call 144;refine(C.out).mono ?_;rintro n w2 ⟨rfl,z⟩;have U:=Qa z;clear z)
    refine(ZA _ J).mono ?_
    rintro n w' ⟨rfl,d⟩;subst d;exact⟨Z,Qac.bad I.out H0.out,U.out⟩
theorem Qgt {s:JSt}{r:Int}(d:∀ x∈regs,hHas s.H x=true) (g:(regs.length:Int)=r){t:TT 6}(f:t.check r=0):t.ren regs.length (fun i=>regs.getD i 0)=some (Qal regs t):=by
 obtain⟨u,e,-⟩:=Qf4 (m:=regs.length) (too:=fun i=>regs.getD i 0) (a:=r) (b:=s.H.length) (by omega) (fun i c=>Z0 (d (regs.getD i 0) (by simp[List.getD,c]))) f
 unfold Qal;rw[e]
 rfl
theorem Qd1 {s:JSt}{b f:List (TT 6)}(a:f.length=b.length) (h:∀ (i:Nat) t u,b[i]?=some t->f[i]?=some u->t.ren regs.length (fun i=>regs.getD i 0)=some u):s.handC l f=s.args l b regs:=by
 unfold JSt.handC JSt.args;rw[a]
 by_cases c:l.length=b.length
 ·rw[Xs c,Xs c]
  refine Qbf (by rw[List.length_zip,List.length_zip,a]) (fun i p q g j=>?_);rw[List.getElem?_zip_eq_some] at g j
  obtain⟨m,n⟩:=g
  obtain⟨d,o⟩:=j
  rw[m] at d
  injection d with d
  have k:=h i q.2 p.2 o n;show s.beC p.1 p.2=s.arg regs q.1 q.2;unfold JSt.beC JSt.arg;rw[<-d]
  cases s.at p.1 with
  | none=>rfl
  | some u =>
    show (if bdec (u=p.2) then (0:Int) else 9)=if bdec (q.2.ren regs.length (fun i=>regs.getD i 0)=some u) then 0 else 9
    rw[k]
    have:bdec (u=p.2)=bdec (some p.2=some u):=Qee (by rw[Zj];exact⟨fun e=>by rw[e],fun e=>(Xn e).symm⟩)
    rw[this]
 ·rw[Xr c,Xr c]
theorem Qe7 {s:JSt}{b:List (TT 6)}(h:∀ t∈b,t.ren regs.length (fun i=>regs.getD i 0)=some (Qal regs t)):s.handC l (b.map (Qal regs))=s.args l b regs :=
 Qd1 (by rw[XN]) (fun i t u c a=>by
  rw[XS,c] at a
  injection a with a
  rw[<-a]
  exact h t (Zm c))
theorem Qgi {m:Nat}{too:Nat->Int}{a:Int}(g:a<=m) (c:∀ i,i<m->too i=(i:Int)):{n:Nat}->{t:TT n}->t.fault a=0->t.ren m too=some t
 | 0,t,_=>Empty.elim t
 | n+1,t,h=>by
   obtain⟨b,e⟩:=TT.fault_zero h
   have d:Qaz m too t.1 t.2.1=some t.2.1:=by
    unfold ownC at b;split at b
    ·cases b
    split at b
    ·cases b
    split at b
    ·cases b
    split at b
    ·cases b
    split at b
    ·cases b
    rename_i q s r v u
    by_cases j:t.1=1
    ·rw[Qaz,Xs j]
    ·have:=c t.2.1.toNat (by omega)
     rw[Qaz,Xr j,Xr (by omega),Xr (by omega),this]
     congr 1
     omega
   have p:Qcz (TT.ren m too) t.2.2=some t.2.2:=by
    generalize t.2.2=l at e
    induction l with
    | nil=>rfl
    | cons x xs ih =>
      have k:=Qgi g c (e x (by simp));have f:=ih (fun y o=>e y (by simp[o]));simp[Qcz,k,f]
   simp only[TT.ren,d,p]
   rfl
theorem Qe5 {H:List Bool}:∀ {rest ahead:List Int},hPass H ahead rest=0->∀ x∈rest,hHas H x=true
 | [],ahead,h,x,a=>by cases a
 | r::rest,ahead,h,x,a=>by
   simp only[hPass] at h
   split at h
   ·rename_i b
    split at h
    ·cases h
    ·rcases List.mem_cons.1 a with rfl | a
     ·exact b
     ·exact Qe5 h x a
   ·cases h
theorem Qlo {s:JSt}{g:Qe 6}{a xs:List Int}(h:s.f.blocks[k]?=some g) (e:∀ t∈g.params,t.check g.regs=0):s.to ⟨(k:Int),a,xs⟩=code2 (passC s.H s.f.regs a g.regs) (s.handC xs (g.params.map (Qal a))):=by
 unfold JSt.to passC;simp only[Int.toNat_natCast,h]
 by_cases d:(a.length:Int)=g.regs
 ·rw[Xs d,Xs d]
  by_cases b:QbX s.f.regs.toNat a=0
  ·rw[QH b,QH b]
   by_cases c:hPass s.H [] a=0
   ·rw[QH c,QH c,Qe7 (fun t i=>Qgt (s:=s) (Qe5 c) d (e t i))]
   ·rw[Qx c,Qx c]
  ·rw[Qx b,Qx b];rw[Qx b]
 ·rw[Xr d,Xr d];rfl
theorem QkQ {s:JSt}(d:s.f.regs=(n:Int)) (g:∀ t∈s.f.results,t.check s.f.regs=0):s.handC l s.f.results=s.args l s.f.results (Qba s.f.regs.toNat) :=
 Qd1 Z (fun i t u e b=>by
  rw[e] at b
  injection b with b
  rw[<-b,d,XT]
  have:=g t (Zm e)
  refine Qgi (a:=s.f.regs) (by rw[d];unfold Qba;simp) (fun i c=>?_) (Zs.1 this).2;unfold Qba at c |-;simp at c
  simp[List.getD,c])
theorem Qi3 {s:JSt}{x:QC}{J:Option Addr}(hA:∀ k,A k->k<w.heap.size) (S:JOk s) (h:SAt w b O A s) (n:intsL.In w Q x.regs [.slice J x.regs.length rc]) (o:intsL.In w Q x.args [.slice ag x.args.length ac]) (D:x.regs.length<=rc) (z:ZZ x) (V:x.form s.m.length=0) (q:x.op=14) :
 Calls prog 35 #[.pointer (some ⟨b,0,none⟩),Qa9 x J ag rc ac] w fun e w'=>Zc w b O A s (s.next x) (s.goC x) e w':=by
 have W:=Qbw (s:=s) q;obtain⟨op,d,j,f,p,i,a,c⟩:=x
 have q:op=14:=q;subst q;have HE:=Qa W;obtain⟨f1,U,f3,-⟩:=Zk V
 have F:=Qa (Xh f1 (Xh U f3));obtain⟨ra,rb,E⟩:=z
 have HI:=Qa (Xh ra (Xh rb E));have hL:=S.vals;have B:=Qa (QgF hA S h n o D #[.int .i64 14,.int .i64 d,.int .i64 j,.int .i64 f,.int .i64 p,.int .i64 i,.slice J a.length rc,.slice ag c.length ac]);clear h hA S n o W V f1 U f3 ra rb E D;go_enter func35,ntmps35
 go_upto_region 1 with fail
 generalize w.alloc (.cells #[.int .i64 14,.int .i64 d,.int .i64 j,.int .i64 f,.int .i64 p,.int .i64 i,.slice J a.length rc,.slice ag c.length ac] 46)=w1 at B |-;generalize w.heap.size=X at B |-;obtain⟨HJ,H0,aa,H,HR,HG,HB,HA,HO,X1,N⟩:=B.out
 clear B;obtain⟨x0,x1,x2,x3,x4,-,x6,x7⟩:=Zq X1.out
 have K:Hid (∀ e C,Zc w b O A s (s.callS ⟨14,d,j,f,p,i,a,c⟩) (s.callC ⟨14,d,j,f,p,i,a,c⟩) e C->Zc w b O A s (s.next ⟨14,d,j,f,p,i,a,c⟩) (s.goC ⟨14,d,j,f,p,i,a,c⟩) e C):=fun e C G=>(by
  have hk:=F.out.2.1 Z;obtain⟨k,u⟩:=Xc hk.1
  have u:p=(k:Int):=u;subst u;have M:k<s.m.length:=by have:=hk.2.1;omega
  have l:s.m[k]?=some s.m[k]:=Zg M;generalize s.m[k]=g at l;have P:g∈s.m:=Zm l;have T:=HJ.out.mod.2 g P;have e1:s.callC ⟨14,d,j,f,(k:Int),i,a,c⟩=code2 (Qcm s.H a g.regs) (code2 (s.handC c (g.params.map (Qal a))) (Zu s.L.length g.results.length)):=by unfold JSt.callC;simp only[Int.toNat_natCast,l]
  have e2:s.makes ⟨14,d,j,f,(k:Int),i,a,c⟩=if (a.length:Int)=g.regs then (code2 (QF s.H [] a) (s.args c g.params a),g.results.map (Qal a)) else (2,[]):=by rw[HE.out];simp only[Int.toNat_natCast,l]
  have R:s.goC ⟨14,d,j,f,(k:Int),i,a,c⟩=s.callC ⟨14,d,j,f,(k:Int),i,a,c⟩:=by
   rw[e1]
   unfold JSt.goC Qcm;rw[e2]
   by_cases r:(a.length:Int)=g.regs
   ·rw[Xs r,Xs r]
    by_cases y:QF s.H [] a=0
    ·rw[Qe7 (fun t ht=>Qgt (s:=s) (Qan y) r (T.params.2 t ht)),QH y,XN,QH y]
    ·rw[Qx y,Qx y,Qx y]
   ·rw[Xr r,Xr r];rfl
  refine G.to R (fun I=>?_);rw[Zo (by simp) (by simp),e2]
  unfold JSt.callS;simp only[Int.toNat_natCast,l]
  rw[e1] at I
  unfold Qcm at I;by_cases r:(a.length:Int)=g.regs
  ·rw[Xs r]
  ·rw[Xr r] at I;cases I)
 have CM:=Qa (Qhx (x:=⟨14,d,j,f,p,i,a,c⟩) HA.out HJ.out H.out HR.out HG.out N.out (F.out.2.1 Z).2.2.1 (F.out.2.1 Z).2.2.2 ⟨(F.out.2.1 Z).1,(F.out.2.1 Z).2.1⟩);have x5:=Qb X1.out 5 _ Z;go_wp2_with fail
 refine CM.out.mono ?_;rintro e' C G;have FF:Hid (Zc w b O A s (s.next ⟨14,d,j,f,p,i,a,c⟩) (s.goC ⟨14,d,j,f,p,i,a,c⟩) e' C):=K.out _ _ (G.after HB.out);rcases G with ⟨h1,rfl,h3⟩|⟨h1,rfl,h3⟩
 rotate_left
 ·exact⟨Z,FF.out⟩
 clear h1 h3 CM;go_wp2
 exact Xz (v:=.tuple #[]) (by simp[results,results35,go_sem]) Z FF.out
theorem QkD {s:JSt}{x:QC}{rg:Option Addr}(hA:∀ k,A k->k<w.heap.size) (hJ:JOk s) (h:SAt w b O A s) (f:intsL.In w Q x.regs [.slice rg x.regs.length rc]) (i:intsL.In w Q x.args [.slice ag x.args.length ac]) (U:x.regs.length<=rc) (aa:ZZ x) (hf:x.form s.m.length=0) (j:x.op=6) :
 Calls prog 35 #[.pointer (some ⟨b,0,none⟩),Qa9 x rg ag rc ac] w fun e w'=>Zc w b O A s (s.next x) (s.goC x) e w':=by
 have hE:=Qbh (s:=s) j;obtain⟨op,a,F,D,xk,E,o,C⟩:=x
 have j:op=6:=j;subst j;have HE:=Qa hE;obtain⟨f1,f2,f3,-⟩:=Zk hf
 have HF:=Qa (Xh f1 (Xh f2 f3));obtain⟨ra,rb,V⟩:=aa
 have HI:=Qa (Xh ra (Xh rb V));have hL:=hJ.vals;have B:=Qa (QgF hA hJ h f i U #[.int .i64 6,.int .i64 a,.int .i64 F,.int .i64 D,.int .i64 xk,.int .i64 E,.slice rg o.length rc,.slice ag C.length ac]);clear h hA hJ f i hE hf f1 f2 f3 ra rb V U;go_enter func35,ntmps35
 go_upto_region 1 with fail
 generalize w.alloc (.cells #[.int .i64 6,.int .i64 a,.int .i64 F,.int .i64 D,.int .i64 xk,.int .i64 E,.slice rg o.length rc,.slice ag C.length ac] 46)=w1 at B |-;generalize w.heap.size=X at B |-;obtain⟨HJ,H0,ah,H,HR,HG,HB,HA,HO,X1,ai⟩:=B.out
 clear B;obtain⟨x0,x1,x2,x3,x4,-,x6,x7⟩:=Zq X1.out
 obtain⟨k,G⟩:=Xc (HF.out.1 (by simp)).1
 have G:xk=(k:Int):=G;subst G;have ak:k<=7:=by have:=(HF.out.1 (by simp)).2;simp only at this;omega
 have EG:Hid (s.goC ⟨6,a,F,D,(k:Int),E,o,C⟩=code2 (s.fieldC a k) (Zu s.L.length 1)):=by
  show _=_;unfold JSt.goC JSt.fieldC;rw[HE.out]
  simp only[Int.toNat_natCast]
  cases J:s.at a with
  | none=>unfold JSt.want;rw[J];rfl
  | some t =>
    simp only
    by_cases y:s.want a 3 true=0
    ·rw[Xs y,QH y]
     by_cases n:k<t.2.2.length
     ·rw[Zg n,Xs n];rfl
     ·rw[Xk (by omega),Xr n];rfl
    ·rw[Xr y,Qx y];rw[Qx y,Qx y]
 have C1:=Qa (Qd7 a k (by omega) hL HO.out H.out);go_wp2_with fail
 refine(C1.out ).mono ?_
 rintro e' w2 ⟨hq,M⟩;have N:=Qa (HB.out.trans (M.mono HB.out.size));have H2:=Qa (H.out.below M);have T:=Qa (fun k n=>Zl (HA.out k n) M.size);have aj:=Qa (fun k n=>Zl (HO.out k n) M.size);rcases hq with ⟨I,y2,rfl,hy⟩|⟨I,rfl⟩
 rotate_left
 ·exact⟨Z,Zc.bad ((fun I=>by rw[EG.out,Qx I]) I) I (Yh H0.out N.out)⟩
 have W:=Qa I;clear I M C1;obtain⟨t,u,p,c,J,hu,rfl,R⟩:=hy
 have ad:=TT.height_lt u;have h5:u.height<=5:=by omega
 have S:t.check s.H.length=0:=HJ.out.types t (QaO J).1
 have q:u.ok:=by
  obtain⟨pm,cm,hh,a1,c1,a2,c2,a3,c3,aL,cL,RR⟩:=H0.out.read
  obtain⟨-,hn,-,ae⟩:=QaO J
  obtain⟨g,a',c',e,-,-,-,-,af⟩:=RR.row _ t ae
  exact af.2 u (Zm hu)
 have HS:Hid (s.next ⟨6,a,F,D,(k:Int),E,o,C⟩={ s with L:=s.L++[u.at 5] }):=by
  show _=_;rw[Zo (by simp) (by simp),HE.out]
  have y:s.want a 3 true=0:=by
   have:=W.out
   unfold JSt.fieldC at this;exact(Qao this).1
  simp only[Int.toNat_natCast,J,if_pos y,hu]
 have ab:Hid (∀ e P,Zc w b O A s { s with L:=s.L++[u.at 5] } (Zu s.L.length 1) e P->Zc w b O A s (s.next ⟨6,a,F,D,(k:Int),E,o,C⟩) (s.goC ⟨6,a,F,D,(k:Int),E,o,C⟩) e P):=fun e P K=>K.to (by rw[EG.out,QH W.out]) (fun _=>HS.out)
 have CM:Hid (∀ d,Calls prog 70 #[.pointer (some ⟨b,0,none⟩),.slice (some ⟨w2.heap.size,0,none⟩) 1 d] (w2.alloc (.cells #[.int .i64 u.kind,.int .i64 u.r,.slice p u.len c] 70)) fun e w'=>Zc w2 b O A s { s with L:=s.L++[u.at 5] } (Zu s.L.length 1) e w'):=fun d=>by
  have b1:=QU w2 (.cells #[.int .i64 u.kind,.int .i64 u.r,.slice p u.len c] 70);have z:=Qep (t:=u.at 5) (p:=p) (c:=c) (d:=d) T.out (TIn.at 5 h5 R) (TT.at_ok 5 q);rw[TT.at_kind,TT.at_r,TT.at_len 5 _ h5] at z
  exact(QaJ (l:=[u.at 5]) Z (by simp) z hL (fun k n=>Zl (T.out k n) b1.size) (H2.out.below b1)).mono (fun e w' K=>K.after b1)
 clear J hu R ad h5 S q HS EG;simp only[Tv]
 go_wp2_with fail
 refine(CM.out _).mono ?_
 rintro e' P K;have FF:Hid (Zc w b O A s (s.next ⟨6,a,F,D,(k:Int),E,o,C⟩) (s.goC ⟨6,a,F,D,(k:Int),E,o,C⟩) e' P):=ab.out _ _ (K.after N.out);rcases K with ⟨h1,rfl,h3⟩|⟨h1,rfl,h3⟩
 rotate_left
 ·exact⟨Z,FF.out⟩
 clear h1 h3 CM;go_wp2
 exact Xz (v:=.tuple #[]) (by simp[results,results35,go_sem]) Z FF.out
theorem QkE {s:JSt}{x:QC}{U:Option Addr}(hA:∀ k,A k->k<w.heap.size) (hJ:JOk s) (h:SAt w b O A s) (i:intsL.In w Q x.regs [.slice U x.regs.length rc]) (j:intsL.In w Q x.args [.slice ag x.args.length ac]) (P:x.regs.length<=rc) (T:ZZ x) (hf:x.form s.m.length=0) (n:x.op=7) :
 Calls prog 35 #[.pointer (some ⟨b,0,none⟩),Qa9 x U ag rc ac] w fun e w'=>Zc w b O A s (s.next x) (s.goC x) e w':=by
 have hE:=QbR (s:=s) n;obtain⟨op,a,f,G,W,I,o,E⟩:=x
 have n:op=7:=n;subst n;have HE:=Qa hE;obtain⟨f1,f2,f3,-⟩:=Zk hf
 have HF:=Qa (Xh f1 (Xh f2 f3));obtain⟨ra,rb,R⟩:=T
 have HI:=Qa (Xh ra (Xh rb R));have hL:=hJ.vals;have B:=Qa (QgF hA hJ h i j P #[.int .i64 7,.int .i64 a,.int .i64 f,.int .i64 G,.int .i64 W,.int .i64 I,.slice U o.length rc,.slice ag E.length ac]);clear h hA hJ i j hE hf f1 f2 f3 ra rb R P;go_enter func35,ntmps35
 go_upto_region 1 with fail
 generalize w.alloc (.cells #[.int .i64 7,.int .i64 a,.int .i64 f,.int .i64 G,.int .i64 W,.int .i64 I,.slice U o.length rc,.slice ag E.length ac] 46)=J at B |-;generalize w.heap.size=X at B |-;obtain⟨HJ,H0,af,H,HR,HG,HB,HA,HO,X1,ah⟩:=B.out
 clear B;obtain⟨x0,x1,x2,x3,x4,-,x6,x7⟩:=Zq X1.out
 obtain⟨k,y⟩:=Xc (HF.out.1 (by simp)).1
 have y:W=(k:Int):=y;subst y;have aj:k<=7:=by have:=(HF.out.1 (by simp)).2;simp only at this;omega
 have EG:Hid (s.fieldC a k≠0->s.goC ⟨7,a,f,G,(k:Int),I,o,E⟩=s.fieldC a k):=fun d=>by
  unfold JSt.goC;rw[HE.out]
  unfold JSt.fieldC at d |-;simp only[Int.toNat_natCast]
  cases D:s.at a with
  | none=>unfold JSt.want;rw[D];rfl
  | some t =>
    rw[D] at d
    simp only at d |-
    by_cases C:s.want a 3 true=0
    ·rw[QH C] at d |-
     rw[Xs C]
     by_cases V:k<t.2.2.length
     ·rw[Xs V] at d;exact absurd Z d
     ·rw[Xk (by omega),Xr V];rfl
    ·rw[Xr C,Qx C,Qx C]
 have ad:Hid (∀ t u,s.fieldC a k=0->s.at a=some t->t.2.2[k]?=some u->s.goC ⟨7,a,f,G,(k:Int),I,o,E⟩=s.beC f (u.at 5)/\s.next ⟨7,a,f,G,(k:Int),I,o,E⟩=s):=fun t u h0 D K=>by
  have C:s.want a 3 true=0:=by
   unfold JSt.fieldC at h0;exact(Qao h0).1
  rw[Zo (by simp) (by simp)]
  unfold JSt.goC JSt.beC;rw[HE.out]
  simp only[Int.toNat_natCast,D,if_pos C,K]
  cases s.at f with
  | none=>exact⟨Z,by simp⟩
  | some v =>
    simp only
    have e:bdec (u.at 5=v)=bdec (v=u.at 5):=Qee (by rw[Zj];exact⟨fun e=>e.symm,fun e=>e.symm⟩);rw[e]
    cases bdec (v=u.at 5) with
    | true=>exact⟨by show code2 0 (Zu s.L.length 0)=_;rw[Qca hL];rfl,by simp⟩
    | false=>exact⟨Z,by simp⟩
 have ae:Hid (∀ t∈s.L,t.count<=100000):=fun t ht=>Zt (Zz (HJ.out.types t ht)) (by omega);go_upto_region 17 with fail
 have BD:Hid (Below J.heap.size J J.drew):=Qcl Zr;have C1:Hid (Calls prog 71 #[.pointer (some ⟨b,0,none⟩),.int .i64 a,.int .i64 k] J.drew fun e w'=>Qac (s.fieldC a k) (QlC w' A s a k) e/\Below J.drew.heap.size J.drew w'):=Qd7 a k (by omega) hL HO.out (H.out.below BD.out)
 have DM:Hid (∀ (u:TT 5) (p:Option Addr) (c:Nat) (z:World),TIn z (fun g=>¬ A g) u p->SAt z b O A s->(∀ k,O k->k<z.heap.size)->Calls prog 72 #[.pointer (some ⟨b,0,none⟩),.int .i64 f,.agg #[.int .i64 u.kind,.int .i64 u.r,.slice p u.len c]] z fun e w'=>Qac (s.beC f (u.at 5)) VNone e/\Below z.heap.size z w'):=fun u p c z K hs ho=>by
  have h5:u.height<=5:=by have:=TT.height_lt u;omega
  have:=Qdv (s:=s) f (t:=u.at 5) (p:=p) (c:=c) (TIn.at 5 h5 K) hL ae.out ho hs
  rw[show Tv (u.at 5) p c=.agg #[.int .i64 u.kind,.int .i64 u.r,.slice p u.len c] by simp only[Tv,TT.at_kind,TT.at_r,TT.at_len 5 _ h5]] at this
  exact this
 go_region_with (first
  | (go_at_call 71;refine(C1.out).mono ?_;rintro e' w2 ⟨hq,M⟩;have q:=Qa (HB.out.trans ((ZV M).mono HB.out.size));rcases hq with ⟨l,y2,rfl,t,u,p,c,D,K,rfl,N⟩|⟨l,rfl⟩;rotate_left;exact⟨Z,Zc.bad (EG.out l) l (Yh H0.out q.out)⟩;have ai:=Qp x2 (ZV M);have H2:=Qa (H.out.below (ZV M));have aa:=Qa (fun k V=>Zl (HO.out k V) (ZV M).size);have HU:=Qa N;have F:=Qa (ad.out t u l D K);clear N D K l M)
  | (go_at_call 72;refine(DM.out _ _ _ _ HU.out H2.out aa.out).mono ?_;rintro e' w3 ⟨hq,b3⟩;have S:=Qa (q.out.trans (b3.mono q.out.size));rcases hq with ⟨l,y3,rfl,hy⟩|⟨l,rfl⟩;rotate_left;exact⟨Z,Zc.bad F.out.1 l (Yh H0.out S.out)⟩;subst hy;have ab:=Qa l;clear l b3))
 all_goals
  have FF:Hid (Zc w b O A s (s.next ⟨7,a,f,G,(k:Int),I,o,E⟩) (s.goC ⟨7,a,f,G,(k:Int),I,o,E⟩) (.returned (.tuple #[])) w3):=Zc.none H0.out S.out (by rw[F.out.1,ab.out]) F.out.2;go_wp2
  exact Xz (v:=.tuple #[]) (by simp[results,results35,go_sem]) Z FF.out
def Qlt (w6:World) (b X mg mo nb cb k:Nat) (ds:List Value) (t:Tmp) (v:Value) (w:World):Prop :=
 match ([(4,fun v w=>∃ B,v=.pointer (some ⟨B,0,none⟩)/\w6.heap.size<=B/\∃ c,c.size=12/\Blk w B c 60)]:List (Tmp × (Value->World->Prop))).lookup t with
 | some p=>p v w
 | none=>v=(([(0,.pointer (some ⟨b,0,none⟩)),(3,.pointer (some ⟨X,0,none⟩)),(5,.pointer (some ⟨b,0,none⟩)),(6,.pointer (some ⟨b,0,none⟩)),(7,.pointer (some ⟨b,2,none⟩)),(8,.pointer (some ⟨b,5,none⟩)),(9,.slice (some ⟨mg,mo,none⟩) nb cb),(10,.pointer (some ⟨X,0,none⟩)),(11,.int .i64 (k:Int)),(12,.pointer (some ⟨mg,mo+k*12,none⟩)),(13,.agg ds.toArray)]:List (Tmp × Value)).lookup t).getD undef
theorem jt1 {o l x z:Nat}(G:w6.cell? ⟨b,5,none⟩=some (.slice (some ⟨o,l,none⟩) x z)) (A:w6.cell? ⟨X,0,none⟩=some (.int .i64 (k:Int))) (C:Hid (w6.rangeAt o (l+k*12) ds)) (u:ds.length=12) (I:(k:Int)<x){Q:Exit->Act->World->Prop}
 (a:Act) (m:Nat) (E:a.tmps.size=m) (r:29<=m) (F:a.tmps.getD 0 undef=.pointer (some ⟨b,0,none⟩)) (s:a.tmps.getD 3 undef=.pointer (some ⟨X,0,none⟩))
 (hend:∀ ops vs w',vs 13=.agg ds.toArray->(fun v w=>∃ B,v=.pointer (some ⟨B,0,none⟩)/\w6.heap.size<=B/\∃ c,c.size=12/\Blk w B c 60) (vs 4) w'->Below w6.heap.size w6 w'->wpList prog ops Q (Qdh 10 ((Tryz.f91.body.bind (Qo 1)).getD .skip)) (Zn a vs [5,6,7,8,9,10,11,12,13,4]) w') :
 Code.wp prog ((Tryz.f91.body.bind (Qo 1)).getD .skip) Q a w6:=by
 conv=>arg 2;whnf
 refine Qw 10 (Qlt w6 b X o l x z k ds) (fun w=>Below w6.heap.size w6 w) (fun w w'=>Below w.heap.size w w') (outs:=[0,3]) (gs:=[]) (bs:=[true,true,true,true,true,true,true,true,true,true]) (by kernel_rfl) (n:=29) E r (by kernel_rfl) (by kernel_rfl) ?hR ?hG (Qg Zr 1) ⟨F,s,Y⟩ ?hA ?hend
 case hR =>
  intro t v w w' J h;unfold Qlt at h |-;split at h
  ·rename_i p j
   simp only[List.lookup_cons,List.lookup_nil] at j
   split at j
   ·cases j;exact(by obtain⟨B,e,H,c,s,y⟩:=h;exact⟨B,e,H,c,s,(J.block B (XC y)).trans y⟩)
   ·cases j
  ·exact h
 case hG=>exact Y
 case hend=>exact fun ops vs w' d f=>hend ops vs w' (f 13 (by kernel_rfl)) (f 4 (by kernel_rfl)) d
 case hA =>
  iterate 7
   refine⟨fun a w d f K g=>?_,?_⟩
   ·obtain⟨i,-⟩:=f
    conv at i=>whnf;rhs;whnf
    have L:=Qp G d;have N:=Qp A d;go_simp;exact g _ _ Zr d Z
  refine⟨fun a w d f K g=>?_,?_⟩
  ·obtain⟨i,D,-⟩:=f
   conv at i=>whnf;rhs;whnf
   conv at D=>whnf;rhs;whnf
   go_simp;exact g _ _ Zr d Z
  refine⟨fun a w d f K g=>?_,?_⟩
  ·obtain⟨i,-⟩:=f
   conv at i=>whnf;rhs;whnf
   obtain⟨M,q⟩:=underBk
   refine wp_load_mid 60 (.tmp 12) Z o (l+k*12) i ds _ (ZD C.out d) q Z (by rw[u];exact sizeBk) ?_;exact g _ _ Zr d Z
  refine⟨fun a w d f K g=>?_,?_⟩
  ·clear f;go_simp;exact g _ _ (QU _ _) (d.alloc d.size _) ⟨_,Z,d.size,_,Z,Qm _ _ _⟩
  trivial
def QlA (w2:World) (b X C N ac n1 d1 Kn rc:Nat) (ag rg p1:Option Addr) (ps:List (TT 6)) (regs:List Int) (t:Tmp) (v:Value) (w:World):Prop :=
 match ([(27,fun v w=>∃ g,v=.slice (some ⟨g,0,none⟩) n1 n1/\w2.heap.size<=g/\QcQ w g n1 (ps.map (Qal regs)))]:List (Tmp × (Value->World->Prop))).lookup t with
 | some p=>p v w
 | none=>v=(([(0,.pointer (some ⟨b,0,none⟩)),(3,.pointer (some ⟨X,0,none⟩)),(4,.pointer (some ⟨C,0,none⟩)),(20,.pointer (some ⟨b,0,none⟩)),(21,.pointer (some ⟨X,2,none⟩)),(22,.slice ag N ac),(23,.pointer (some ⟨C,1,none⟩)),(24,.slice p1 n1 d1),(25,.pointer (some ⟨X,1,none⟩)),(26,.slice rg Kn rc)]:List (Tmp × Value)).lookup t).getD undef
theorem jt3 {C j:Nat}{y:Option Addr}{f:List (TT 6)}{R:Nat->Prop}(B:w2.cell? ⟨X,1,none⟩=some (.slice y j rc)) (H:w2.cell? ⟨X,2,none⟩=some (.slice ag N ac)) (L:w2.cell? ⟨C,1,none⟩=some (.slice p1 n1 d1)) (A:Hid (regs.length=j)) (l:Hid (f.length=n1)) (k:n1<=1000) (D:Hid (intsL.In w2 Q regs [.slice y j rc])) (S:Hid (LIn w2 R f p1)) (M:Hid (∀ x∈f,x.count<=2000)){Q:Exit->Act->World->Prop}
 (a:Act) (m:Nat) (G:a.tmps.size=m) (r:29<=m) (J:a.tmps.getD 0 undef=.pointer (some ⟨b,0,none⟩)) (P:a.tmps.getD 3 undef=.pointer (some ⟨X,0,none⟩)) (O:a.tmps.getD 4 undef=.pointer (some ⟨C,0,none⟩))
 (hend:∀ ops vs w',vs 22=.slice ag N ac->vs 20=.pointer (some ⟨b,0,none⟩)->(fun v w=>∃ g,v=.slice (some ⟨g,0,none⟩) n1 n1/\w2.heap.size<=g/\QcQ w g n1 (f.map (Qal regs))) (vs 27) w'->Below w2.heap.size w2 w'->wpList prog ops Q (Qdh 8 ((Tryz.f91.body.bind (Qo 3)).getD .skip)) (Zn a vs [20,21,22,23,24,25,26,27]) w') :
 Code.wp prog ((Tryz.f91.body.bind (Qo 3)).getD .skip) Q a w2:=by
 conv=>arg 2;whnf
 refine Qw 8 (QlA w2 b X C N ac n1 d1 j rc ag y p1 f regs) (fun w=>Below w2.heap.size w2 w) (fun w w'=>Below w.heap.size w w') (outs:=[0,3,4]) (gs:=[]) (bs:=[true,true,true,true,true,true,true,true]) (by kernel_rfl) (n:=29) G r (by kernel_rfl) (by kernel_rfl) ?hR ?hG (Qg Zr 1) ⟨J,P,O,Y⟩ ?hA ?hend
 case hR =>
  intro t v w w' U h;unfold QlA at h |-;split at h
  ·rename_i p i
   simp only[List.lookup_cons,List.lookup_nil] at i
   split at i
   ·cases i;exact(by obtain⟨g,e,T,F⟩:=h;exact⟨g,e,T,F.below U⟩)
   ·cases i
  ·exact h
 case hG=>exact Y
 case hend=>exact fun ops vs w' c d=>hend ops vs w' (d 22 (by kernel_rfl)) (d 20 (by kernel_rfl)) (d 27 (by kernel_rfl)) c
 case hA =>
  iterate 7
   refine⟨fun a w c d K u=>?_,?_⟩
   ·obtain⟨q,-⟩:=d
    conv at q=>whnf;rhs;whnf
    have V:=Qp H c;have u1:=Qp L c;have W:=Qp B c;go_simp;exact u _ _ Zr c Z
  refine⟨fun a w c d K u=>?_,?_⟩
  ·obtain⟨q,E,-⟩:=d
   conv at q=>whnf;rhs;whnf
   conv at E=>whnf;rhs;whnf
   go_simp;refine Xm (Qbn A.out l.out k (Ya D.out c) (S.out.below c) M.out) ?_;rintro r7 w7 ⟨I,rfl,s,o,z⟩;go_simp;exact u _ _ z (c.trans (z.mono c.size)) ⟨I,Z,Zt c.size s,o⟩
  trivial
theorem Qco {s:JSt}{x:MTo}{F:Option Addr}(hJ:JOk s) (hO:∀ k,O k->k<w.heap.size) (h:SAt w b O A s) (l:intsL.In w Q x.regs [.slice F x.regs.length rc]) (m:intsL.In w Q x.args [.slice ag x.args.length ac]) (aj:x.regs.length<=16) (aw:x.args.length<=8) (aq:0<=x.block/\x.block<s.f.blocks.length) :
 Calls prog 91 #[.pointer (some ⟨b,0,none⟩),toV x F ag rc ac] w fun e w'=>Qac (s.to x) VNone e/\Below w.heap.size w w':=by
 have HJ:=Qa hJ;have HO:=Qa hO;have hL:=hJ.vals;obtain⟨xb,c,d⟩:=x
 simp only at l m aj aw aq
 obtain⟨k,rfl⟩:=Xc aq.1
 have bf:k<s.f.blocks.length:=by omega
 have z:s.f.blocks[k]?=some s.f.blocks[k]:=Zg bf;generalize s.f.blocks[k]=g at z;have b1:=QU w (.cells #[.int .i64 (k:Int),.slice F c.length rc,.slice ag d.length ac] 56);have aa:=Qm w #[.int .i64 (k:Int),.slice F c.length rc,.slice ag d.length ac] 56;have K1:=Qa (h.below b1);have ap:Hid (intsL.In (w.alloc (.cells #[.int .i64 (k:Int),.slice F c.length rc,.slice ag d.length ac] 56)) Q c [.slice F c.length rc]):=Ya l b1;have ar:Hid (intsL.In (w.alloc (.cells #[.int .i64 (k:Int),.slice F c.length rc,.slice ag d.length ac] 56)) Q d [.slice ag d.length ac]):=Ya m b1;have I:=Qa b1;have q:=Qa aa;clear h l m b1 aa hJ hO;go_enter func91,ntmps91
 go_upto_region 1 with fail
 obtain⟨X,hX⟩:∃ X,w.heap.size=X:=⟨_,Z⟩
 generalize bl:w.alloc (.cells #[.int .i64 (k:Int),.slice F c.length rc,.slice ag d.length ac] 56)=w1 at K1 ap ar I q |-;rw[hX] at q
 rw[hX]
 clear bl hX;have x0:=Qb q.out 0 _ Z;have x1:=Qb q.out 1 _ Z;have x2:=Qb q.out 2 _ Z;obtain⟨pm,cm,hh,a1,c1,a2,c2,a3,c3,aL,cL,R⟩:=K1.out.read
 obtain⟨-,-,-,-,-,q5,-⟩:=R.cells
 obtain⟨fa,fc,fb,fd,fe,ff,a7,-,-,bb,-⟩:=Z3 R.fn
 simp only[List.cons.injEq,Value.slice.injEq,and_true,true_and] at a7
 obtain⟨-,-,rfl,rfl⟩:=a7
 obtain⟨mg,mo,n,i,r,rfl,o,bc,ab,ad⟩:=Qas bb z
 have bh:=Qa o;have ak:Hid ((Qi 6).In w1 (fun g=>¬ A g) g.params [.slice n g.params.length i]):=ab;have au:Hid (r.length=10):=bc;have ae:=Qa ad;have a4:(k:Int)<s.f.blocks.length:=by omega
 have a6:=Qa (HJ.out.mod.2 s.f HJ.out.fn);have az:Hid (g∈s.f.blocks):=Zm z;have S:=Qa (a6.out.blocks g az.out);have a8:Hid (¬ Qe.great g):=fun hg=>HJ.out.tiny (.inr ⟨s.f,HJ.out.fn,.inr (.inr (.inr ⟨g,az.out,hg⟩))⟩);have bs:Hid (∀ t∈g.params,t.count<=2000):=fun t ht=>Xo fun bo=>a8.out (.inr (.inl (.inr ⟨t,ht,bo⟩)));have bq:Hid (∀ t∈s.L,t.count<=100000):=fun t ht=>Zt (Zz (HJ.out.types t ht)) (by omega);have E:Hid (s.to ⟨(k:Int),c,d⟩=code2 (passC s.H s.f.regs c g.regs) (s.handC d (g.params.map (Qal c)))):=Qlo z S.out.params.2;clear R bb o ab ad bc z aq;generalize bw:s.f.blocks.length=nb at q5 bf a4;refine jt1 q5 x0 bh (by simp[au.out]) a4 _ _ Z (Xg (by kernel_rfl)) Z Z ?_;rintro bp vs p af ⟨B,bg,hB,cB,a5,T⟩ b5;show wpList _ bp _ [_] (Zn _ vs [5,6,7,8,9,10,11,12,13,4]) p;simp only[Zn,Act.put,List.setIfInBounds_toArray,List.set_cons_zero,List.set_cons_succ,af,bg]
 have a:(Value.int .i64 g.regs::Value.slice n g.params.length i::r).length=12:=by simp[au.out]
 have TH:Hid (p.there B 0 (Value.int .i64 g.regs::Value.slice n g.params.length i::r).toArray.size):=by
  intro j hj;rw[List.size_toArray,a] at hj
  rw[XK]
  refine⟨?_,Qn T j⟩
  rw[Qb T j cB[j] (by simp)];rfl
 have TS:Hid ((prog.info? 60).map (·.size)=some (Value.int .i64 g.regs::Value.slice n g.params.length i::r).toArray.size):=by show _=_;rw[List.size_toArray,a];exact sizeBk
 have TO:Hid ((Value.int .i64 g.regs::Value.slice n g.params.length i::r).toArray.all (·.oneCell')=true):=by
  refine all_oneCell_toArray fun v hv=>?_;simp only[List.mem_cons] at hv
  rcases hv with rfl | rfl | hv
  ·rfl
  ·rfl
  ·exact ae.out v hv
 have B6:Hid (Blk (p.setCells B 0 (Value.int .i64 g.regs::Value.slice n g.params.length i::r).toArray.toList) B (Value.int .i64 g.regs::Value.slice n g.params.length i::r).toArray 60):=by
  have h0:Blk p B ([]++cB.toList).toArray 60:=by rw[List.nil_append,Array.toArray_toList];exact T
  have:=Blk.sets (Value.int .i64 g.regs::Value.slice n g.params.length i::r) [] cB.toList p (by rw[a];simp[a5]) h0
  exact this
 have D:Hid (Below w1.heap.size w1 (p.setCells B 0 (Value.int .i64 g.regs::Value.slice n g.params.length i::r).toArray.toList)):=by
  have:=Zw.setCells (O:=fun k=>k=B) (O':=fun k=>k=B) (b:=B) Z (Value.int .i64 g.regs::Value.slice n g.params.length i::r).toArray.toList 0 _ (Zw.refl _ p)
  exact b5.trans (this.below b5.size (fun k hk=>by omega))
 clear T hB a5 b5 af bg a;generalize a0:g.regs=gr at E S B6 D TH TS TO |-;have bu:Hid (g.regs=gr):=a0;generalize ao:g.params.length=M at ak B6 D TH TS TO |-;have a9:Hid (g.params.length=M):=ao;have bv:M<=8:=by rw[<-ao];exact S.out.params.1
 have y0:(p.setCells B 0 (Value.int .i64 gr::Value.slice n M i::r).toArray.toList).cell? ⟨B,0,none⟩=some (.int .i64 gr):=Qb B6.out 0 _ Z;have y1:(p.setCells B 0 (Value.int .i64 gr::Value.slice n M i::r).toArray.toList).cell? ⟨B,1,none⟩=some (.slice n M i):=Qb B6.out 1 _ Z;generalize bt:(Value.int .i64 gr::Value.slice n M i::r).toArray=u at B6 D TH TS TO y0 y1 |-;have K6:=Qa (K1.out.below D.out);have C:Hid (intsL.In (p.setCells B 0 u.toList) Q c [.slice F c.length rc]):=Ya ap.out D.out;have V:Hid (intsL.In (p.setCells B 0 u.toList) Q d [.slice ag d.length ac]):=Ya ar.out D.out;have an:Hid ((Qi 6).In (p.setCells B 0 u.toList) (fun g=>¬ A g) g.params [.slice n M i]):=Ya ak.out D.out;have BW:Hid (Below w.heap.size w (p.setCells B 0 u.toList)):=I.out.trans (D.out.mono I.out.size);have bn:Hid (s.f.regs<=gr):=by have:=S.out.regs.1;rw[bu.out] at this;exact this
 have G:=Qp x1 D.out;have J:=Qp x2 D.out;clear a0 ao bt K1 ap ar ak I D B6 q5 x0 x1 x2 au ae a8 q bh;go_upto_region 2 with (refine wpList_store_mid Z 60 (.tmp 4) (.tmp 13) Z B 0 u Z Z TH.out TS.out TO.out ?_)
 clear TH TS TO;generalize p.setCells B 0 u.toList=w6 at K6 C V an BW G J y0 y1 |-;obtain⟨Kn,am⟩:∃ Kn,c.length=Kn:=⟨_,Z⟩
 have HK:=Qa am;rw[am] at G C aj
 clear am;obtain⟨N,hN⟩:∃ N,d.length=N:=⟨_,Z⟩
 have HN:=Qa hN;rw[hN] at J V aw
 clear hN;have CP:=Qa (Qev gr HK.out (by omega) C.out a6.out.regs.1 bn.out K6.out);go_wp2_with fail
 refine CP.out.mono ?_;rintro e' w7 ⟨hO,K⟩;have U:=Qa (BW.out.trans (K.mono BW.out.size));rcases hO with ⟨P,y,rfl,hy⟩|⟨P,rfl⟩
 rotate_left
 ·exact⟨Z,.inr ⟨by rw[E.out,Qx P];exact P,by rw[E.out,Qx P]⟩,U.out⟩
 subst hy;have E2:Hid (s.to ⟨(k:Int),c,d⟩=s.handC d (g.params.map (Qal c))):=by show _=_;rw[E.out,QH P]
 have K7:=Qa (K6.out.below K);have ay:Hid (intsL.In w7 Q c [.slice F Kn rc]):=Ya C.out K;have bd:Hid (intsL.In w7 Q d [.slice ag N ac]):=Ya V.out K;have be:=Qa (QK (Ya an.out K)).1;have bj:=Qp G K;have ba:=Qp J K;have av:=Qp y1 K;clear P CP E K K6 C V an G J y0 y1 BW;go_upto_region 3 with fail
 refine jt3 bj ba av HK a9 (by omega) ay be bs _ _ Z (Xg (by kernel_rfl)) Z Z Z ?_;rintro bk br w8 W ai ⟨gP,ah,bm,ax⟩ b8;show wpList _ bk _ [_] (Zn _ br [20,21,22,23,24,25,26,27]) w8;simp only[Zn,Act.put,List.setIfInBounds_toArray,List.set_cons_zero,List.set_cons_succ,W,ai,ah]
 have al:=Qa (U.out.trans (b8.mono U.out.size))
 have CH:Hid (Calls prog 92 #[.pointer (some ⟨b,0,none⟩),.slice ag N ac,.slice (some ⟨gP,0,none⟩) M M] w8 fun e w'=>Qac (s.handC d (g.params.map (Qal c))) VNone e/\Below w8.heap.size w8 w') :=
  QaX HN.out (by omega) (by rw[XN,a9.out]) (by omega) (Ya bd.out b8) ax.lin hL bq.out (fun k hk=>Zl (HO.out k hk) al.out.size) (K7.out.below b8)
 clear ax bm b8 W ai ah K7 ay bd be bj ba av U;go_wp2_with fail
 refine CH.out.mono ?_;rintro e' w9 ⟨hO,b9⟩;have bi:=Qa (al.out.trans (b9.mono al.out.size));have FF:Hid (Qac (s.to ⟨(k:Int),c,d⟩) VNone e'):=by show Qac _ _ _;rw[E2.out];exact hO
 rcases hO with ⟨P,y,rfl,hy⟩|⟨P,rfl⟩
 rotate_left
 ·exact⟨Z,FF.out,bi.out⟩
 subst hy;clear P CH E2 b9;go_wp2
 exact Xz (v:=.tuple #[]) (by simp[results,results91,go_sem]) Z ⟨FF.out,bi.out⟩
def Qiz (H:List Bool) (regs:Int):Int:=if (hList H).all (fun r=>decide (r<regs)) then 0 else 12
theorem Qhh {s:JSt}(r:Int) (i:w.cell? ⟨B,0,none⟩=some (.pointer (some ⟨b,0,none⟩))) (h:SAt w b O A s) :
 Calls prog 128 #[.int .i64 r,.pointer (some ⟨B,0,none⟩)] w fun e w'=>e=.returned (.bool (decide (r>=s.f.regs)))/\w'=w:=by
 obtain⟨g,o,n,l,m,d,j,k,t,q,p,R⟩:=h.read
 obtain⟨-,-,a,-⟩:=R.cells
 clear R h;generalize s.f.regs=c at a |-;go_enter func128,ntmps128
 go_wp2
 go_ret;exact⟨Z,Z⟩
theorem enters_left1:Qc9 128:=fun _ _=>by kernel_rfl
theorem Qfv {s:JSt}(G:l.length=N) (T:N<=100000) (H:intsL.In w Q l [.slice p N c]) (F:w.cell? ⟨B,0,none⟩=some (.pointer (some ⟨b,0,none⟩))) (h:SAt w b O A s) :
 Calls prog 145 #[.slice p N c,.func (.func 128) #[] #[.pointer (some ⟨B,0,none⟩)]] w fun e w'=>(∃ i:Int,e=.returned (.int .i64 i)/\(0<=i↔∃ x∈l,s.f.regs<=x))/\w'=w:=by
 have S:=Qa H;have J:=Qa G;have C:=Qa (fun r=>Qhh r F h);have R:=enters_left1;unfold Qc9 at R;clear H G h F;generalize s.f.regs=q at C |-;go_enter func145,ntmps145
 go_wp2
 go_loop [8] (fun i=>∃ k:Nat,k<=N/\i=.int .i64 k/\∀ (j:Nat) (y:Int),j<k->l[j]?=some y->y<q) (fun i=>N - (intOf i).toNat)
 case atStart=>exact⟨0,Xb _,Z,fun j y E=>by omega⟩
 case round =>
  obtain⟨k,W,rfl,I⟩:=hrel
  have K:=Qa I;clear I;by_cases u:k<N
  ·have t:(k:Int)<N:=by omega
   have d:k<l.length:=by rw[J.out];exact u
   obtain⟨g,o,rfl,-,X,D⟩:=ZK S.out d
   obtain⟨y,n⟩:∃ y,l[k]?=some y:=⟨_,Zg d⟩
   rw[show l.getD k 0=y by rw[List.getD_eq_getElem?_getD,n];rfl] at D
   have L:=Qa n;have v:=Qa (C.out y);clear n d;by_cases a:q<=y
   ·rw[show decide (y>=q)=true from Xt a] at v
    have M:Hid (∃ x∈l,q<=x):=⟨y,Zm L.out,a⟩;clear a;go_wp2_with (go_at_call 128;refine(v.out).mono ?_;rintro e w' ⟨rfl,m⟩;have m:=m.symm;subst m)
    go_ret;exact⟨⟨k,Z,by simp only[M.out,iff_true];omega⟩,Z⟩
   ·rw[show decide (y>=q)=false from Xu a] at v
    have z:=Qa (Int.not_le.1 a);clear a;go_wp2_with (go_at_call 128;refine(v.out).mono ?_;rintro e w' ⟨rfl,m⟩;have m:=m.symm;subst m)
    go_round
    case rel =>
     refine⟨k+1,u,by go_num,fun j U E n=>?_⟩
     rcases Nat.lt_or_ge j k with h | h
     ·exact K.out j U h n
     ·have:j=k:=by omega
      subst this;have e:=L.out.symm.trans n;injection e with e
      subst e;exact z.out
    case measure=>simp[intOf];omega
  ·have t:¬ (k:Int)<N:=by omega
   go_wp2
   go_ret;refine⟨⟨-1,Z,by omega,fun hm=>?_⟩,Z⟩
   obtain⟨x,P,V⟩:=hm
   obtain⟨j,E,e⟩:=List.mem_iff_getElem.1 P
   have:=K.out j x (by have:=J.out;omega) (by rw[Zg E,e])
   omega
theorem QdL {s:JSt}(k:l.length=N) (g:N<=100000) (n:intsL.In w Q l [.slice p N c]) (m:w.cell? ⟨B,0,none⟩=some (.pointer (some ⟨b,0,none⟩))) (h:SAt w b O A s) :
 Calls prog 129 #[.slice p N c,.func (.func 128) #[] #[.pointer (some ⟨B,0,none⟩)]] w fun e w'=>e=.returned (.bool (!(l.all (fun r=>decide (r<s.f.regs)))))/\w'=w:=by
 have C:=Qa (Qfv k g n m h);clear n k h m;go_enter func129,ntmps129
 go_wp2_with fail
 refine C.out.mono ?_;rintro e w' ⟨⟨i,rfl,j⟩,a⟩;have a:=a.symm;subst a
 have E:Hid ((!(l.all (fun r=>decide (r<s.f.regs))))=decide (i>=0)):=by
  show _=_;rw[Bool.eq_iff_iff]
  simp only[Bool.not_eq_true',decide_eq_true_eq,ge_iff_le,j]
  rw[<-Bool.not_eq_true,Xe]
  constructor
  ·intro h;exact Classical.byContradiction fun o=>h (fun x d=>Xt (Int.not_le.1 (fun q=>o ⟨x,d,q⟩)))
  ·rintro ⟨x,d,t⟩ h
   have:=Xv (h x d)
   omega
 clear C j;go_wp2
 go_ret;exact⟨by rw[E.out];rfl,Z⟩
theorem Qg8 {s:JSt}(P:s.H.length<=16) (h:SAt w b O A s) :
 Calls prog 93 #[.pointer (some ⟨b,0,none⟩)] w fun e w'=>Qac (Qiz s.H s.f.regs) VNone e/\Below w.heap.size w w':=by
 have B:∀ (fn:Fn) (first cap:Array Value) (w:World),(Instr.makeFunc fn first cap).run prog w=.ok (.func fn first cap) w:=fun _ _ _ _=>rfl;have o:=QU w (.cells #[.pointer (some ⟨b,0,none⟩)] 28);have H:=Qa (h.below o);have p:=Qa o;have j:=Qm w #[.pointer (some ⟨b,0,none⟩)] 28;have k:=Qb j 0 _ Z;obtain⟨I,V,S,K,Q,F,U,J,c3,W,G,R⟩:=H.out.read
 obtain⟨-,y,-⟩:=R.cells
 have t:=Qa (Qih R.held);clear R h o j;go_enter func93,ntmps93
 go_upto_region 1 with fail
 generalize w.alloc (.cells #[.pointer (some ⟨b,0,none⟩)] 28)=N at H p k y t |-;obtain⟨X,j⟩:∃ X,w.heap.size=X:=⟨_,Z⟩
 rw[j] at k |-
 rw[<-j]
 have x:=Qa j;go_wp2_with fail
 refine t.out.mono ?_;rintro z M ⟨a,c,rfl,g,l⟩;have D:=Qa (H.out.below l);have m:=Qa (p.out.trans (l.mono p.out.size));have u:=Qa (QdL Z (by have:=Qdu s.H;omega) g (Qp k l) D.out);have T:=Qp k l;clear g l t k y;generalize (hList s.H).length=L at u |-;have E:Hid (Qiz s.H s.f.regs=if (hList s.H).all (fun r=>decide (r<s.f.regs)) then 0 else 12):=rfl;generalize (hList s.H).all (fun r=>decide (r<s.f.regs))=q at u E;rw[x.out]
 go_wp2_with (go_at_call 129;refine(u.out).mono ?_;rintro e w' ⟨rfl,i⟩;have i:=i.symm;subst i)
 refine(Qb0 _ _ _).mono ?_
 rintro z w' ⟨i,⟨n,rfl⟩|⟨n,rfl⟩⟩
 rotate_left
 ·exact⟨Z,Qac.bad (d:=12) (by rw[E.out,show q=false by simpa using n];rfl) (by decide),by rw[i];exact m.out⟩
 have i:=i.symm;subst i;have C:Hid (Qiz s.H s.f.regs=0):=by show _=_;rw[E.out,show q=true by simpa using n];rfl
 clear n;go_wp2
 exact Xz (v:=.tuple #[]) (by simp[results,results93,go_sem]) Z ⟨Qac.good C.out Z,m.out⟩
structure EnT (w wc:World) (b X:Nat) (O A Q:Nat->Prop) (s:JSt) (x:MEnd) (e:EP):Prop where
 st:SAt wc b O A s
 box:Blk wc X (QaE x e) 58
 lists:Qce wc Q x e
 bel:Below w.heap.size w wc
theorem EnT.below {s:JSt}{x:MEnd}{e:EP}(h:EnT w wc b X O A Q s x e) (k:Below wc.heap.size wc w'):EnT w w' b X O A Q s x e :=
 ⟨h.st.below k,(k.block X (XC h.box)).trans h.box,h.lists.below k,h.bel.trans (k.mono h.bel.size)⟩
theorem EnT.cells {s:JSt}{x:MEnd}{e:EP}(h:EnT w wc b X O A Q s x e):wc.cell? ⟨X,0,none⟩=some (.int .i64 x.op)/\wc.cell? ⟨X,1,none⟩=some (.int .i64 x.a)/\wc.cell? ⟨X,2,none⟩=some (.int .i64 x.yes.block)/\wc.cell? ⟨X,3,none⟩=some (.slice e.pYR x.yes.regs.length e.cYR)/\wc.cell? ⟨X,4,none⟩=some (.slice e.pYA x.yes.args.length e.cYA)/\wc.cell? ⟨X,5,none⟩=some (.int .i64 x.no.block)/\wc.cell? ⟨X,6,none⟩=some (.slice e.pNR x.no.regs.length e.cNR)/\wc.cell? ⟨X,7,none⟩=some (.slice e.pNA x.no.args.length e.cNA)/\wc.cell? ⟨X,8,none⟩=some (.slice e.pA x.args.length e.cA) :=
 ⟨Qb h.box 0 _ Z,Qb h.box 1 _ Z,Qb h.box 2 _ Z,Qb h.box 3 _ Z,Qb h.box 4 _ Z,Qb h.box 5 _ Z,Qb h.box 6 _ Z,Qb h.box 7 _ Z,Qb h.box 8 _ Z⟩
theorem QjC {s:JSt}{x:MEnd}{e:EP}(hJ:JOk s) (hO:∀ k,O k->k<w.heap.size) (h:SAt w b O A s) (hx:Qce w Q x e) (N:-9223372036854775808<=x.a/\x.a<=9223372036854775807) (hf:x.form s.f.blocks.length=0) :
 Calls prog 53 #[.pointer (some ⟨b,0,none⟩),.agg (QaE x e)] w fun r w'=>Qac (s.fin x) VNone r/\Below w.heap.size w w':=by
 have C:=Qa hJ;have P:=Qa hO;have hL:=hJ.vals;have b1:=QU w (.cells (QaE x e) 58);have S0:Hid (EnT w (w.alloc (.cells (QaE x e) 58)) b w.heap.size O A Q s x e):=⟨h.below b1,Qm w _ _,hx.below b1,b1⟩;have q:=Qa (C.out.mod.2 s.f C.out.fn);have K:=Qa (QgC q.out.many.2 hf);have ac:=Qa N;have ab:Hid (∀ t∈s.L,t.count<=100000):=fun t ht=>Zt (Zz (C.out.types t ht)) (by omega);have E1:s.fin x=if x.op=1 then s.to x.yes else if x.op=2 then code2 (s.want x.a 1 false) (code2 (s.to x.yes) (s.to x.no)) else code2 (s.args x.args s.f.results (Qba s.f.regs.toNat)) (if (hList s.H).all (fun r=>decide (r<s.f.regs)) then 0 else 12):=by rw[JSt.fin,Xr (by rw[hf];simp)]
 have i:=Qa E1;clear h hx b1 hJ hO N hf E1;go_enter func53,ntmps53
 go_upto_region 1 with fail
 obtain⟨X,hX⟩:∃ X,w.heap.size=X:=⟨_,Z⟩
 unfold QaE at S0;generalize aa:w.alloc (.cells #[.int .i64 x.op,.int .i64 x.a,.int .i64 x.yes.block,.slice e.pYR x.yes.regs.length e.cYR,.slice e.pYA x.yes.args.length e.cYA,.int .i64 x.no.block,.slice e.pNR x.no.regs.length e.cNR,.slice e.pNA x.no.args.length e.cNA,.slice e.pA x.args.length e.cA] 58)=w1 at S0 |-;have S:Hid (EnT w w1 b X O A Q s x e):=by rw[<-hX];exact S0.out
 rw[hX]
 clear aa hX S0;obtain⟨E,x1,V,x3,x4,x5,W,x7,U⟩:=S.out.cells
 rcases K.out.1 with g | g | g
 ·have j:Hid (s.fin x=s.to x.yes):=by show _=_;rw[i.out,Xs g]
  have F:Hid (x.yes.form s.f.blocks.length true=0):=by have:=K.out.2.2.2.2.1;rw[g] at this;exact this
  rw[g] at E
  clear i;go_wp2_with fail
  refine(Qco (x:=x.yes) C.out (fun k u=>Zl (P.out k u) S.out.bel.size) S.out.st S.out.lists.yr S.out.lists.ya (ZH F.out).2.1 (ZH F.out).2.2 (ZH F.out).1).mono ?_
  rintro e9 w9 ⟨o,p⟩;have l:=Qa (S.out.below p);rcases o with ⟨c,y,rfl,m⟩|⟨c,rfl⟩
  rotate_left
  ·exact⟨Z,.inr ⟨by rw[j.out];exact c,by rw[j.out]⟩,l.out.bel⟩
  subst m;have I:Hid (s.fin x=0):=by show _=_;rw[j.out];exact c
  clear c p;go_wp2
  exact Xz (v:=.tuple #[]) (by simp[results,results53,go_sem]) Z ⟨Qac.good I.out Z,l.out.bel⟩
 ·have j:Hid (s.fin x=code2 (s.want x.a 1 false) (code2 (s.to x.yes) (s.to x.no))):=by show _=_;rw[i.out,Xr (by omega),Xs g]
  have F:Hid (x.yes.form s.f.blocks.length true=0):=by have:=K.out.2.2.2.2.1;rw[g] at this;exact this
  have h2:Hid (x.no.form s.f.blocks.length true=0):=by have:=K.out.2.2.2.2.2;rw[g] at this;exact this
  rw[g] at E
  have CI:=Qa (fun d=>Qcg x.a ac.out d hL (fun k u=>Zl (P.out k u) S.out.bel.size) S.out.st);clear i;go_wp2_with fail
  refine(CI.out _).mono ?_
  rintro e8 w8 ⟨o,T⟩;have D:=Qa (S.out.below T);rcases o with ⟨c,y,rfl,m⟩|⟨c,rfl⟩
  rotate_left
  ·exact⟨Z,.inr ⟨by rw[j.out,Qx c];exact c,by rw[j.out,Qx c]⟩,D.out.bel⟩
  subst m;have B:Hid (s.fin x=code2 (s.to x.yes) (s.to x.no)):=by show _=_;rw[j.out,QH c]
  clear c T j S CI;have S:=D;clear D E x1 V x3 x4 x5 W x7 U;obtain⟨E,x1,V,x3,x4,x5,W,x7,U⟩:=S.out.cells
  go_wp2_with fail
  refine(Qco (x:=x.yes) C.out (fun k u=>Zl (P.out k u) S.out.bel.size) S.out.st S.out.lists.yr S.out.lists.ya (ZH F.out).2.1 (ZH F.out).2.2 (ZH F.out).1).mono ?_
  rintro e9 w9 ⟨o,p⟩;have l:=Qa (S.out.below p);rcases o with ⟨c,y,rfl,m⟩|⟨c,rfl⟩
  rotate_left
  ·exact⟨Z,.inr ⟨by rw[B.out,Qx c];exact c,by rw[B.out,Qx c]⟩,l.out.bel⟩
  subst m;have E4:Hid (s.fin x=s.to x.no):=by show _=_;rw[B.out,QH c]
  clear c p B S;have S:=l;clear l E x1 V x3 x4 x5 W x7 U;obtain⟨E,x1,V,x3,x4,x5,W,x7,U⟩:=S.out.cells
  go_wp2_with fail
  refine(Qco (x:=x.no) C.out (fun k u=>Zl (P.out k u) S.out.bel.size) S.out.st S.out.lists.nr S.out.lists.na (ZH h2.out).2.1 (ZH h2.out).2.2 (ZH h2.out).1).mono ?_
  rintro e9 w9 ⟨o,p⟩;have l:=Qa (S.out.below p);rcases o with ⟨c,y,rfl,m⟩|⟨c,rfl⟩
  rotate_left
  ·exact⟨Z,.inr ⟨by rw[E4.out];exact c,by rw[E4.out]⟩,l.out.bel⟩
  subst m;have I:Hid (s.fin x=0):=by show _=_;rw[E4.out];exact c
  clear c p;go_wp2
  exact Xz (v:=.tuple #[]) (by simp[results,results53,go_sem]) Z ⟨Qac.good I.out Z,l.out.bel⟩
 ·have G:=q.out.regs.1;obtain⟨n,hn⟩:=Xc G
  have j:Hid (s.fin x=code2 (s.handC x.args s.f.results) (Qiz s.H s.f.regs)):=by show _=_;rw[i.out,Xr (by omega),Xr (by omega),QkQ hn q.out.results.2];rfl
  have ad:x.args.length<=8:=K.out.2.2.2.1;obtain⟨pm,cm,hh,a1,c1,a2,c2,a3,c3,aL,cL,R⟩:=S.out.st.read
  obtain⟨-,-,-,-,q4,-⟩:=R.cells
  obtain⟨fa,fc,fb,fd,fe,ff,M,-,z,-,-⟩:=Z3 R.fn
  simp only[List.cons.injEq,Value.slice.injEq,and_true,true_and] at M
  obtain⟨⟨-,-⟩,⟨rfl,rfl⟩,-⟩:=M
  have J:=Qa (QK z).1
  have CH:Hid (Calls prog 92 #[.pointer (some ⟨b,0,none⟩),.slice e.pA x.args.length e.cA,.slice a2 s.f.results.length c2] w1.drew fun e w'=>Qac (s.handC x.args s.f.results) VNone e/\Below w1.drew.heap.size w1.drew w') :=
   QaX Z (by omega) Z (by have:=q.out.results.1;omega) (Ya S.out.lists.ar (Qcl Zr)) J.out.drew hL ab.out (fun k u=>Zl (P.out k u) S.out.bel.size) (S.out.st.below (Qcl Zr))
  rw[g] at E
  clear i R z J hn G;generalize s.f.results.length=nr at q4 CH;generalize x.args.length=na at U CH ad;go_upto_region 9 with fail
  go_region_with (go_at_call 92;refine(CH.out).mono ?_;rintro e8 w8 ⟨o,T⟩;have D:=Qa (S.out.below (ZV T));rcases o with ⟨c,y,rfl,m⟩|⟨c,rfl⟩;rotate_left;exact⟨Z,.inr ⟨by rw[j.out,Qx c];exact c,by rw[j.out,Qx c]⟩,D.out.bel⟩;subst m;have B:Hid (s.fin x=Qiz s.H s.f.regs):=(by show _=_;rw[j.out,QH c]);clear c T)
  all_goals
   have CV:=Qa (Qg8 C.out.regs D.out.st);go_wp2_with fail
   refine CV.out.mono ?_;rintro e9 w9 ⟨o,p⟩;have l:=Qa (D.out.below p);rcases o with ⟨c,y,rfl,m⟩|⟨c,rfl⟩
   rotate_left
   ·exact⟨Z,.inr ⟨by rw[B.out];exact c,by rw[B.out]⟩,l.out.bel⟩
   subst m;have I:Hid (s.fin x=0):=by show _=_;rw[B.out];exact c
   clear c p;go_wp2
   exact Xz (v:=.tuple #[]) (by simp[results,results53,go_sem]) Z ⟨Qac.good I.out Z,l.out.bel⟩
theorem QcM {a:Nat}(c:Int) (b:Blk w a #[.int .i64 0] 3) :
 CallsD prog 64 #[QjW a] (.panicking (Qfp c)) w fun e u' w' =>
  e=.returned (.tuple #[])/\u'=.panicking [{ v:=.iface 101 (.int .i64 c),recovered:=true }]/\(Blk w' a #[.int .i64 c] 3/\Chg a w w'):=by
 have d:=b.lt;have g:=Qb b 0 _ Z;have f:=Qn b 0;have h:=Qa b;refine callsD_of_wpS func64 Z fun n m j=>?_;apply wpS_seq
 apply wpS_region
 simp[wpOpsS,go_sem,recoverD,j,ntmps64,Exit.thenS]
 rw[show (#[QjW a]++((Array.replicate 15 undef).setIfInBounds 3 (Value.iface 101 (.int .i64 c))).setIfInBounds 0 (Value.iface 101 (.int .i64 c)):Array Value)=#[QjW a,Value.iface 101 (.int .i64 c),undef,undef,Value.iface 101 (.int .i64 c),undef,undef,undef,undef,undef,undef,undef,undef,undef,undef,undef] from Z]
 refine wpS_of_wp ?_;have i:∀ w:World,(Instr.typeAssert (.iface 101 (.int .i64 c)) 20 101 true).run prog w=.ok (.tuple #[.int .i64 c,.bool true]) w:=fun _=>by kernel_rfl
 clear b;go_wp2
 have l:Blk (w.setCell ⟨a,0,none⟩ (.int .i64 c)) a #[.int .i64 c] 3:=by
  have:=Qq h.out 0 (.int .i64 c)
  simpa using this
 have k:Chg a w (w.setCell ⟨a,0,none⟩ (.int .i64 c)):=Chg.set w 0 _ d;exact(show bodyPostS _ _ _ _ _ _ _ _ _ from ⟨Z,_,Z,.tuple #[],by simp[results,results64,go_sem],Z,Z,l,k⟩)
theorem QfD (a:Nat) :
 CallsD prog 64 #[QjW a] .returning w fun e u' w'=>e=.returned (.tuple #[])/\u'=.returning/\w'=w:=by
 refine callsD_of_wpS func64 Z fun b d c=>?_;apply wpS_seq
 apply wpS_region
 simp[wpOpsS,go_sem,recoverD,c,ntmps64,Exit.thenS]
 rw[show (#[QjW a]++((Array.replicate 15 undef).setIfInBounds 3 (Value.nilIface)).setIfInBounds 0 (Value.nilIface):Array Value)=#[QjW a,Value.nilIface,undef,undef,Value.nilIface,undef,undef,undef,undef,undef,undef,undef,undef,undef,undef,undef] from Z]
 refine wpS_of_wp ?_;go_wp2_with fail
 cases b
 simp_all [bodyPostS,results,results64]
def QkP (Fb:Nat) (R1:World->Prop) (R2:Int->World->Prop) (en:Ending) (w2:World):Prop :=
 Blk w2 Fb #[.int .i64 0] 3/\((en=.returned (.tuple #[])/\R1 w2)\/(∃ c,en=.panicked (Qfp c)/\R2 c w2))
def QfN (Fb:Nat) (R1:World->Prop) (R2:Int->World->Prop) (en:Ending) (w':World):Prop :=
 (∃ w2,R1 w2/\en=.returned (.int .i64 0)/\Chg Fb w2 w')\/(∃ w2,∃ c:Int,R2 c w2/\en=.returned (.int .i64 c)/\Chg Fb w2 w')
theorem Qdc (F:Nat) (a:Array Value) (e:Qc9 F) (g:World->Prop) (k:Int->World->Prop) (d:Calls prog F a (w.alloc (.cells #[.int .i64 0] 3)) fun en w2=>QkP w.heap.size g k en w2) :
 Calls prog 33 #[.func (.func F) #[] a] w fun en w'=>QfN w.heap.size g k en w':=by
 have v:∀ (fn:Fn) (first cap:Array Value) (w:World),(Instr.makeFunc fn first cap).run prog w=.ok (.func fn first cap) w:=fun _ _ _ _=>rfl;have o:=e;unfold Qc9 at o;have q:Hid (Calls prog F a (w.alloc (.cells #[.int .i64 0] 3)) fun en w2=>QkP w.heap.size g k en w2):=d;clear d e;go_enter_defers func33,ntmps33
 go_wp2_with fail
 refine q.out.mono ?_;rintro A b ⟨m,⟨rfl,h⟩|⟨c,rfl,h⟩⟩
 ·have i:=Qa m;have l:=Qb i.out 0 _ Z;have n:=Qn i.out 0;have t:Hid (g b):=h;clear m h q o;go_wp2
  have p:Blk (b.setCell ⟨w.heap.size,0,none⟩ (.int .i64 0)) w.heap.size #[.int .i64 0] 3:=by
   have:=Qq i.out 0 (.int .i64 0)
   simpa using this
  have r:Chg w.heap.size b (b.setCell ⟨w.heap.size,0,none⟩ (.int .i64 0)):=Chg.set b 0 _ i.out.lt;clear l n;generalize b.setCell ⟨w.heap.size,0,none⟩ (.int .i64 0)=x at p r |-;refine leaves_cons (f:=64) (args:=#[QjW w.heap.size]) (by simp) (by simp[go_sem]) ?_;refine(QfD w.heap.size).mono ?_
  rintro u y B ⟨rfl,rfl,rfl⟩;have j:=Qb p 0 _ Z;exact⟨.int .i64 0,by simp[results,results33,go_sem,j],.inl ⟨b,t.out,Z,r⟩⟩
 ·show bodyPostD _ _ _ _ _ _;refine leaves_cons (f:=64) (args:=#[QjW w.heap.size]) (by simp) (by simp[go_sem]) ?_;refine(QcM c m).mono ?_
  rintro u y x ⟨rfl,rfl,z,s⟩;have j:=Qb z 0 _ Z;exact⟨.int .i64 c,by simp[results,results33,go_sem,j],.inr ⟨b,c,h,Z,s⟩⟩
end Go.Proofs.YtlnkdhnibcenbaeGreat
