import Derived.Test.YtofjjohefamljafGreatP1
import Derived.Lib.MinMax
import Derived.Laws.CopyRow
import Derived.Laws.CopyOwn
import Derived.Deep.RegionLaw
import Derived.Orders
import Derived.Maps.AppendAt
import Derived.Deep.DeepCutAuto
import Derived.Deep.CutBlock
set_option maxHeartbeats 16000000
set_option maxRecDepth 100000
namespace Go.Proofs.YtofjjohefamljafGreat
open Go.ChangeShapes Go.WideShapes Go.ChangeAt Go.RowKit _root_.Go.Proofs.Tryz
set_option linter.unusedSimpArgs false
set_option linter.unusedVariables false
variable {w w' w6 wr wc w1:World}{n c b B g m k i j X cm rc ac rl al fi N bh q R bi cap most lo id d f x ci na ca o lm G pages:Nat}{O O' Q2 OO:Nat→Prop}{a p ra aa pm pi pa:Option Addr}{v u v0:Value}{t bt e:TypeId}{xa xb xc xk xn words fu pg:Int}{Q:Exit→Act→World→Prop}{P:Program}{l:List Oper}{bs:List Bool}{cs xs:List Value}{inp:List Int}{x0:Operand}
theorem HIn.added {c n w4:World}{j:Qc}{G:HG}(o:HIn c b O j G) (d:Below c.heap.size c n){p:Qi}{t:Qq}(w:j.L[k]?=some p) (q:p.there=true){va:Option Addr}{vc:Nat}(s:∀ x,Qb6 (.slice va t.l.length vc) t x->c.heap.size<=x)
 (u:∃ S',QcR w4 (G.g k) k { p with l:=p.l++[t] } S'/\(∀ x,G.S k x->S' x)/\(∀ x,S' x->G.S k x\/n.heap.size<=x\/Qb6 (.slice va t.l.length vc) t x)/\(∀ x,S' x->x<w4.heap.size)/\QN (G.S k) (G.S k) n w4) :
 ∃ O' G',HIn w4 b O' { j with L:=j.L.set k { p with l:=p.l++[t] } } G'/\QN O O' c w4/\(∀ x,O x->O' x)/\(∀ x,O' x->O x\/c.heap.size<=x):=by
 obtain⟨S',z,A,v,y,f⟩:=u
 have i:∀ x,S' x->G.S k x\/c.heap.size<=x:=fun x a=>by
  rcases v x a with h | h | h
  ·exact .inl h
  ·exact .inr (Zt d.size h)
  ·exact .inr (s x h)
 have e:QN (G.S k) S' c w4:=⟨f.os.trans d.os,f.tape.trans d.tape,f.output.trans d.output,Zt d.size f.size,fun x a m=>(f.block x (Zl a d.size) m).trans (d.block x a),i⟩;have R:=o.regTo w q (p':={ p with l:=p.l++[t] }) q z y e;have r:∀ x,(O x\/S' x)->O x\/c.heap.size<=x:=fun x a=>a.elim .inl (fun h=>(i x h).imp (fun h=>(o.os k x h).1) id);exact⟨_,_,R,⟨e.os,e.tape,e.output,e.size,fun x a m=>e.block x a (fun h=>m (o.os k x h).1),r⟩,fun x a=>.inl a,r⟩
def QdX (n:Nat):Int:=if n=0 then 1 else n
theorem QdL (n:Nat) (a:Array TypeId) (t:TypeId) (w:World):(Builtin.max_ a t #[.int .i64 (n:Int),.int .i64 1]).run prog w=.ok (.int .i64 (QdX n)) w:=by
 rw[Lib.run_max_ints]
 congr 2
 unfold QdX;split<;>omega
theorem VIn.step {l:List Qj}(h:VIn w a l) (s:QN O O' w w') (k:∀ g o,a=some ⟨g,o,none⟩->¬ O g):VIn w' a l:=fun i x d=>by
 obtain⟨g,o,e,c,m,f,n,j⟩:=h i x d
 have b:=s.block g c (k g o e);exact⟨g,o,e,Zl c s.size,(XU (w:=w) (a:=⟨g,o+i*4,none⟩) b).trans m,(XU (w:=w) (a:=⟨g,o+i*4+1,none⟩) b).trans f,(XU (w:=w) (a:=⟨g,o+i*4+2,none⟩) b).trans n,(XU (w:=w) (a:=⟨g,o+i*4+3,none⟩) b).trans j⟩
theorem Qgy {h:Qc}{G:HG}(H:HIn w b O h G) (v:Qj) (q:v.ok){l:List Qj}(hn:l.length=n) (hb:n<=1099511627776) (x:VIn w a l) (z:h.at v=none) :
 Calls prog 116 #[.pointer (some ⟨b,0,none⟩),QF v,.slice a n c] w fun e w'=>e=.returned (.tuple #[QF (h.tuple v (l.map Qj.bare)).1,.int .i64 (h.tuple v (l.map Qj.bare)).2.1])/\HTo w w' b O (h.tuple v (l.map Qj.bare)).2.2:=by
 have i:=Qb (Qai w (.cells #[.int .i64 v.kind,.int .i64 v.region,.int .i64 v.thing,.int .i64 v.n] 183) (.cells #[.int .i64 0,.int .i64 0,.int .i64 0,.int .i64 0] 183));have g:=Qb (Qf3 w #[.int .i64 v.kind,.int .i64 v.region,.int .i64 v.thing,.int .i64 v.n] 183 (.cells #[.int .i64 0,.int .i64 0,.int .i64 0,.int .i64 0] 183));have f:=Qb (QbI w (.cells #[.int .i64 v.kind,.int .i64 v.region,.int .i64 v.thing,.int .i64 v.n] 183) #[.int .i64 0,.int .i64 0,.int .i64 0,.int .i64 0] 183);have y:=Qb H;have m:=Qb (H.below i.out);have t:=Qb (x.below i.out)
 have E:Hid (h.tuple v (l.map Qj.bare)=(noV,20,h)):=by
  show _=_;exact Qc.tuple_none _ z
 have C:=Qb (Qde m.out v q (QdX n) z);have U:=QdL n;clear H q x;go_enter func116,ntmps116
 go_upto_region 1 with fail
 generalize ((w.alloc (.cells #[.int .i64 v.kind,.int .i64 v.region,.int .i64 v.thing,.int .i64 v.n] 183)).alloc (.cells #[.int .i64 0,.int .i64 0,.int .i64 0,.int .i64 0] 183))=w1 at i g f m C t |-;obtain⟨X,s⟩:∃ X,X=w.heap.size:=⟨_,Z⟩
 obtain⟨R,u⟩:∃ R,R=X+1:=⟨_,Z⟩
 have Q:Hid (w.heap.size<=R):=by show _<=_;omega
 have B:Hid (¬ O R):=fun e=>by have:=y.out.lt R e;omega
 rw[<-s] at g f |-
 rw[<-u] at f |-
 clear s u;have M:=Qa g.out 0 _ Z;have T:=Qa g.out 1 _ Z;have V:=Qa g.out 2 _ Z;have K:=Qa g.out 3 _ Z;have A:=Qb f.out;go_wp2_with fail
 refine C.out.mono ?_;rintro e p ⟨rfl,o⟩;have N:=Qb (m.out.below o);have D:Hid (QN O O w p):=QN.of_below (i.out.trans (o.mono i.out.size)) (fun k I=>.inl I);have d:=Qb ((o.block R (XC f.out)).trans f.out);clear M T V K A C o g f i m t y;have s0:=Qa d.out 0 _ Z;have s1:=Qa d.out 1 _ Z;have s2:=Qa d.out 2 _ Z;have W:=Qa d.out 3 _ Z;have f0:=Qf d.out 0;have f1:=Qf d.out 1;have f2:=Qf d.out 2;have f3:=Qf d.out 3;have r:=Qb (HTo.st4 (w:=w) N.out D.out (fun _ h=>h) Q.out B.out 0 0 0 0);have j:=Qb (Z1 d.out 0 0 0 0);go_wp2
 generalize ((((p.setCell ⟨R,0,none⟩ (.int .i64 0)).setCell ⟨R,1,none⟩ (.int .i64 0)).setCell ⟨R,2,none⟩ (.int .i64 0)).setCell ⟨R,3,none⟩ (.int .i64 0))=S at r j |-;have L:=Qa j.out 0 _ Z;have J:=Qa j.out 1 _ Z;have F:=Qa j.out 2 _ Z;have P:=Qa j.out 3 _ Z;exact Xy (v:=.tuple #[.agg #[.int .i64 0,.int .i64 0,.int .i64 0,.int .i64 0],.int .i64 20]) (by simp[results,results116,go_sem,L,J,F,P]) Z ⟨by rw[E.out]<;>rfl,by rw[E.out];exact r.out⟩
theorem QhW {h:Qc}{G:HG}(H:HIn w b O h G) (v:Qj) (t:v.ok){l:List Qj}(hn:l.length=n) (hb:n<=1099511627776) (A:VIn w a l){p:Qi}(D:h.at v=some p) (q:p.tight (QdX n)=true) (m:h.left=0) (L:0<=p.used/\p.used<=1099511627776) :
 Calls prog 116 #[.pointer (some ⟨b,0,none⟩),QF v,.slice a n c] w fun e w'=>e=.returned (.tuple #[QF (h.tuple v (l.map Qj.bare)).1,.int .i64 (h.tuple v (l.map Qj.bare)).2.1])/\HTo w w' b O (h.tuple v (l.map Qj.bare)).2.2:=by
 have i:=Qb (Qai w (.cells #[.int .i64 v.kind,.int .i64 v.region,.int .i64 v.thing,.int .i64 v.n] 183) (.cells #[.int .i64 0,.int .i64 0,.int .i64 0,.int .i64 0] 183));have g:=Qb (Qf3 w #[.int .i64 v.kind,.int .i64 v.region,.int .i64 v.thing,.int .i64 v.n] 183 (.cells #[.int .i64 0,.int .i64 0,.int .i64 0,.int .i64 0] 183));have f:=Qb (QbI w (.cells #[.int .i64 v.kind,.int .i64 v.region,.int .i64 v.thing,.int .i64 v.n] 183) #[.int .i64 0,.int .i64 0,.int .i64 0,.int .i64 0] 183);have B:=Qb H;have o:=Qb (H.below i.out);have y:=Qb (A.below i.out)
 have E:Hid (h.tuple v (l.map Qj.bare)=(noV,14,h)):=by
  show _=_;unfold Qc.tuple;rw[XN,hn];exact Qc.put_full _ _ D q m
 have C:=Qb (Qdi o.out v t (QdX n) D q m (by unfold QdX;split<;>omega) L);have aa:=QdL n;clear H t A;have ab:=Qb q;clear q;go_enter func116,ntmps116
 go_upto_region 1 with fail
 generalize ((w.alloc (.cells #[.int .i64 v.kind,.int .i64 v.region,.int .i64 v.thing,.int .i64 v.n] 183)).alloc (.cells #[.int .i64 0,.int .i64 0,.int .i64 0,.int .i64 0] 183))=w1 at i g f o C y |-;obtain⟨X,x⟩:∃ X,X=w.heap.size:=⟨_,Z⟩
 obtain⟨R,z⟩:∃ R,R=X+1:=⟨_,Z⟩
 have V:Hid (w.heap.size<=R):=by show _<=_;omega
 have I:Hid (¬ O R):=fun e=>by have:=B.out.lt R e;omega
 rw[<-x] at g f |-
 rw[<-z] at f |-
 clear x z;have S:=Qa g.out 0 _ Z;have x1:=Qa g.out 1 _ Z;have x2:=Qa g.out 2 _ Z;have P:=Qa g.out 3 _ Z;have F:=Qb f.out;go_wp2_with fail
 refine C.out.mono ?_;rintro e s ⟨rfl,r⟩;have T:=Qb (o.out.below r);have J:Hid (QN O O w s):=QN.of_below (i.out.trans (r.mono i.out.size)) (fun k M=>.inl M);have d:=Qb ((r.block R (XC f.out)).trans f.out);clear S x1 x2 P F C r g f i o y B;have s0:=Qa d.out 0 _ Z;have s1:=Qa d.out 1 _ Z;have s2:=Qa d.out 2 _ Z;have s3:=Qa d.out 3 _ Z;have f0:=Qf d.out 0;have f1:=Qf d.out 1;have f2:=Qf d.out 2;have f3:=Qf d.out 3;have u:=Qb (HTo.st4 (w:=w) T.out J.out (fun _ h=>h) V.out I.out 0 0 0 0);have j:=Qb (Z1 d.out 0 0 0 0);go_wp2
 generalize ((((s.setCell ⟨R,0,none⟩ (.int .i64 0)).setCell ⟨R,1,none⟩ (.int .i64 0)).setCell ⟨R,2,none⟩ (.int .i64 0)).setCell ⟨R,3,none⟩ (.int .i64 0))=W at u j |-;have Q:=Qa j.out 0 _ Z;have N:=Qa j.out 1 _ Z;have K:=Qa j.out 2 _ Z;have U:=Qa j.out 3 _ Z;exact Xy (v:=.tuple #[.agg #[.int .i64 0,.int .i64 0,.int .i64 0,.int .i64 0],.int .i64 14]) (by simp[results,results116,go_sem,Q,N,K,U]) Z ⟨by rw[E.out]<;>rfl,by rw[E.out];exact u.out⟩
theorem Qkj {h:Qc}{G:HG}(H:HIn w b O h G) (v:Qj) (hv:v.ok){l:List Qj}(hn:l.length=n) (hb:n<=1099511627776) (hl:VIn w a l){p:Qi}(ha:h.at v=some p)(j:v.region=k) (y:¬ (p.tight (QdX n)=true/\h.left=0)) (hu:0<=p.used/\p.used<=1099511627776) (W:p.pages<=1099511627776) (ad:h.left<=1099511627776) (T:p.l.length<=1099511627776) (af:∀ g o,a=some ⟨g,o,none⟩->¬ O g) :
 Calls prog 116 #[.pointer (some ⟨b,0,none⟩),QF v,.slice a n c] w fun e w'=>e=.returned (.tuple #[QF (h.tuple v (l.map Qj.bare)).1,.int .i64 (h.tuple v (l.map Qj.bare)).2.1])/\HTo w w' b O (h.tuple v (l.map Qj.bare)).2.2:=by
 have S:=Qb (Qai w (.cells #[.int .i64 v.kind,.int .i64 v.region,.int .i64 v.thing,.int .i64 v.n] 183) (.cells #[.int .i64 0,.int .i64 0,.int .i64 0,.int .i64 0] 183));have J:=Qb (Qf3 w #[.int .i64 v.kind,.int .i64 v.region,.int .i64 v.thing,.int .i64 v.n] 183 (.cells #[.int .i64 0,.int .i64 0,.int .i64 0,.int .i64 0] 183));have r:=Qb (QbI w (.cells #[.int .i64 v.kind,.int .i64 v.region,.int .i64 v.thing,.int .i64 v.n] 183) #[.int .i64 0,.int .i64 0,.int .i64 0,.int .i64 0] 183);have H0:=Qb H;have H1:=Qb (H.below S.out);have HL:=Qb (hl.below S.out)
 have E:Hid (h.tuple v (l.map Qj.bare)=(⟨3,k,p.l.length,0⟩,0,⟨h.L.set k { p.roomed (QdX n) with l:=p.l++[⟨false,l.map Qj.bare⟩] },h.roomLeft p (QdX n)⟩)):=by
  show _=_;unfold Qc.tuple;rw[XN,hn]
  exact Qc.put_ok _ _ ha j y
 have C:=Qb (QfP H1.out v hv (QdX n) ha j y (by unfold QdX;split<;>omega) hu W ad);have al:=QdL n;obtain⟨-,-,f,ai,P,ae⟩:=Qc.at_some ha
 have ek:f=k:=by omega
 subst ek;have M:=Qb P;have Q:=Qb ae;have HN:=Qb hn;have ah:=Qb j;have ag:=Qb af;clear af;clear H hv hl ha y ai P ae hn j;go_enter func116,ntmps116
 go_upto_region 1 with fail
 generalize ((w.alloc (.cells #[.int .i64 v.kind,.int .i64 v.region,.int .i64 v.thing,.int .i64 v.n] 183)).alloc (.cells #[.int .i64 0,.int .i64 0,.int .i64 0,.int .i64 0] 183))=w1 at S J r H1 C HL |-;obtain⟨X,hX⟩:∃ X,X=w.heap.size:=⟨_,Z⟩
 obtain⟨R,hR⟩:∃ R,R=X+1:=⟨_,Z⟩
 have HR:Hid (w.heap.size<=R):=by show _<=_;omega
 have NR:Hid (¬ O R):=fun e=>by have:=H0.out.lt R e;omega
 rw[<-hX] at J r |-
 rw[<-hR] at r |-
 clear hX hR;have x0:=Qa J.out 0 _ Z;have x1:=Qa J.out 1 _ Z;have x2:=Qa J.out 2 _ Z;have x3:=Qa J.out 3 _ Z;have r0:=Qb r.out;go_wp2_with fail
 refine C.out.mono ?_;rintro e w2 ⟨rfl,h2,F⟩;have B:=Qb h2;have SZ:Hid (QN O O w w2):=(QN.of_below (O:=O) S.out (fun k hk=>.inl hk)).trans F;have z:Hid (R<w1.heap.size):=XC r.out;have N:Hid (¬ O R):=NR.out;have D:=Qb ((F.block R (XC r.out) NR.out).trans r.out);have VI:=Qb (VIn.step HL.out F ag.out);clear x0 x1 x2 x3 r0 C h2 J r H1 HL;go_wp2_with fail
 refine(Qed HN.out hb VI.out).mono ?_
 rintro e w3 ⟨g,rfl,hg,q,b3⟩;have m:=Qb q;have I:=Qb b3;have HG:=Qb hg
 have u:(⟨h.L.set f (p.roomed (QdX n)),h.roomLeft p (QdX n)⟩:Qc).L[f]?=some (p.roomed (QdX n)):=by
  have:=(Zi M.out).1
  simp[this]
 have A:(p.roomed (QdX n)).there=true:=by rw[Qi.roomed_there];exact Q.out
 obtain⟨tv,pv,RI⟩:=(B.out.below b3).reg f _ u A
 have PA:ZD w3 (.slice (some ⟨g,0,none⟩) (⟨false,l.map Qj.bare⟩:Qq).l.length n) (⟨false,l.map Qj.bare⟩:Qq).l:=by
  have i:(l.map Qj.bare).length=n:=by rw[XN,HN.out]
  refine⟨⟨_,_,Z⟩,fun _=>⟨g,n,Z,?_⟩⟩
  show w3.rowIs g _ ((l.map Qj.bare).length*4) _;rw[i];exact m.out
 have pb:∀ x,Qb6 (.slice (some ⟨g,0,none⟩) (⟨false,l.map Qj.bare⟩:Qq).l.length n) ⟨false,l.map Qj.bare⟩ x->w2.heap.size<=x:=fun x s=>by
  have:=ownBlock_slice.1 s.2
  have:=HG.out
  omega
 have CA:=Qf0 RI PA (fun x s hS=>by have:=B.out.lt x (B.out.os f x hS).1;have:=pb x s;omega) (fun x s=>Zl (B.out.lt x (B.out.os f x s).1) I.out.size) (by rw[Qi.roomed_l];exact T);rw[show (⟨false,l.map Qj.bare⟩:Qq).l.length=n by show (l.map Qj.bare).length=n;rw[XN,HN.out],Qi.roomed_l] at CA
 have aa:Hid (Calls prog 158 #[.pointer (some ⟨G.g f,0,none⟩),.int .i64 3,.slice (some ⟨g,0,none⟩) n n] w3 fun e w'=>e=.returned (.agg #[.int .i64 3,.int .i64 f,.int .i64 p.l.length,.int .i64 0])/\∃ K G',HIn w' b K ⟨h.L.set f { p.roomed (QdX n) with l:=p.l++[⟨false,l.map Qj.bare⟩] },h.roomLeft p (QdX n)⟩ G'/\QN O K w2 w'/\(∀ x,O x->K x)/\(∀ x,K x->O x\/w2.heap.size<=x)):=by
  refine CA.mono ?_;rintro e w4 ⟨rfl,V⟩;refine⟨Z,?_⟩
  have i:(⟨false,l.map Qj.bare⟩:Qq).l.length=n:=by show (l.map Qj.bare).length=n;rw[XN,HN.out]
  have AD:=B.out.added (w4:=w4) I.out u A (t:=⟨false,l.map Qj.bare⟩) (va:=some ⟨g,0,none⟩) (vc:=n) pb (by rw[i,Qi.roomed_l];exact V);rw[Qi.roomed_l] at AD
  simpa only [List.set_set] using AD
 have ab:=Qb D.out;have aj:=Qb ((b3.block R (by have:=z.out;have:=F.size;omega)).trans D.out);have ac:Hid (R<w2.heap.size):=Zl z.out F.size;clear q hg b3 RI PA pb CA u A m HG D VI M Q HN ah ag F B S H0 z hb hu W ad T;go_wp2_with fail
 refine aa.out.mono ?_;rintro e w4 ⟨rfl,K,G',h4,s4,o4,n4⟩
 have U:¬ K R:=fun e=>by
  rcases n4 R e with h | h
  ·exact N.out h
  ·have:=ac.out;omega
 have d:=Qb ((s4.block R ac.out N.out).trans ab.out);have K1:=Qb (HTo.st4 h4 (SZ.out.trans s4) (fun x s=>o4 x s) HR.out U 3 (f:Int) (p.l.length:Int) 0);have K2:=Qb (Z1 d.out 3 (f:Int) (p.l.length:Int) 0);have s0:=Qa d.out 0 _ Z;have s1:=Qa d.out 1 _ Z;have F:=Qa d.out 2 _ Z;have s3:=Qa d.out 3 _ Z;have f0:=Qf d.out 0;have f1:=Qf d.out 1;have f2:=Qf d.out 2;have f3:=Qf d.out 3;clear h4 s4 o4 n4 U aa I aj;go_wp2
 generalize ((((w4.setCell ⟨R,0,none⟩ (.int .i64 3)).setCell ⟨R,1,none⟩ (.int .i64 (f:Int))).setCell ⟨R,2,none⟩ (.int .i64 (p.l.length:Int))).setCell ⟨R,3,none⟩ (.int .i64 0))=ak at K1 K2 |-;have e0:=Qa K2.out 0 _ Z;have e1:=Qa K2.out 1 _ Z;have e2:=Qa K2.out 2 _ Z;have e3:=Qa K2.out 3 _ Z;exact Xy (v:=.tuple #[.agg #[.int .i64 3,.int .i64 f,.int .i64 p.l.length,.int .i64 0],.int .i64 0]) (by simp[results,results116,go_sem,e0,e1,e2,e3]) Z ⟨by rw[E.out]<;>rfl,by rw[E.out];exact K1.out⟩
theorem QdV (w:World) (k p r b:TypeId) (s g o c dCap:Nat) (a:Addr) (sLen sCap:Nat) (d:Array Value) (t:TypeId) (cs:List Value)
 (q:P.underlying k=some (.slice b)) (l:(P.info? b).map (·.size)=some s)
 (n:w.heap[g]?=some (.cells d t (0,0))) (hn:cs.length=Nat.min sLen c*s)
 (f:∀ j v,cs[j]?=some v->w.cell? (a.add j)=some v) (e:o+cs.length<=d.size) (u:∀ v∈cs,v.oneCell'=true) :
 (Builtin.copy_ #[k,p] r #[.slice (some ⟨g,o,none⟩) c dCap,.slice (some a) sLen sCap]).run P w =
  .ok (goInt (Nat.min sLen c)) (w.setRow g (d.toList.take o++cs++d.toList.drop (o+cs.length)).toArray):=by
 have m:=run_loadCells_list (P:=P) w a cs f;have h:=run_storeCells_at P g o t cs 0 d w n (by simpa using e) u;rw[hn] at m
 cases hq:P.info? b with
 | none=>simp[hq] at l
 | some i =>
   have x:i.size=s:=by simpa[hq] using l
   simp[Builtin.copy_,run_underlying q,Builtin.lenOf,Builtin.firstCells,sizeOf,typeInfo,hq,x,m,h]
theorem Qgl {f:Nat->Value}{c:Array Value}(d:w.heap[g]?=some (.cells c t (0,0))) (l:c.size=N) (e:∀ i,i<N->c[i]?=some (f i)) (n:o+cs.length<=N) :
 (w.setRow g (c.toList.take o++cs++c.toList.drop (o+cs.length)).toArray).rowIs g t N (fun j=>if o<=j/\j<o+cs.length then cs.getD (j - o) undef else f j):=by
 refine⟨_,setRow_heap w g c _ t _ d,by simp;omega,fun i k=>?_⟩
 have a:(c.toList.take o).length=o:=by simp;omega
 have b:=e i k;rw[List.getElem?_toArray]
 show _=some (if o<=i/\i<o+cs.length then cs.getD (i - o) undef else f i);by_cases h:i<o
 ·rw[Xr (by omega),List.append_assoc,XP (by omega),XR,Xs h]
  simpa using b
 ·by_cases m:i<o+cs.length
  ·rw[Xs (by omega),XP (by simp;omega),XQ (by omega),a]
   simp[List.getD,show i - o<cs.length by omega]
  ·rw[Xr (by omega),XQ (by simp;omega)]
   simp only[List.length_append,a]
   rw[List.getElem?_drop,show o+cs.length+(i - (o+cs.length))=i by omega]
   simpa using b
def Qaj (k:Nat):List Value:=(List.range (k*4)).map fun j=>vAt (Qa8 0) (j%4)
theorem ZO (k:Nat):(Qaj k).length=k*4:=by simp[Qaj]
theorem QbQ (k j:Nat) (v:Value) (h:(Qaj k)[j]?=some v):j<k*4/\v=vAt (Qa8 0) (j%4):=by
 have a:=(Zi h).1;rw[ZO] at a
 refine⟨a,?_⟩
 simp[Qaj,a] at h
 exact h.symm
theorem QeZ (k:Nat):∀ v∈Qaj k,v.oneCell'=true:=by
 intro v a;obtain⟨j,b,rfl⟩:=List.mem_map.1 a
 have:j%4=0\/j%4=1\/j%4=2\/j%4=3:=by omega
 rcases this with h | h | h | h<;>rw[h]<;>rfl
abbrev Qb7 (n:Nat):List Qj:=List.replicate n (Qa8 0)
theorem Qdy (a:m<=n) (b:j<n*4):Q7 (Zn (Qb7 n) m) j=if j<m*4 then vAt (Qa8 0) (j%4) else .int .i64 0:=by
 unfold Q7 Zn;simp only[List.getD,List.length_replicate]
 by_cases h:j<m*4
 ·rw[Xs h,XP (by simp;omega)]
  rw[XR,Xs (by omega),List.getElem?_replicate,Xs (by omega)];rfl
 ·rw[Xr h,XQ (by simp;omega)]
  have e:((List.replicate (n - m) noV)[j / 4 - (List.take m (Qb7 n)).length]?.getD noV)=noV:=by
   rw[List.getElem?_replicate];split<;>rfl
  rw[e]
  have:j%4=0\/j%4=1\/j%4=2\/j%4=3:=by omega
  rcases this with h | h | h | h<;>rw[h]<;>rfl
theorem Qem {sLen sCap dCap:Nat}{a:Addr}(x:m<=n) (s:w.rowIs g 183 (n*4) (Q7 (Zn (Qb7 n) m))) (o:Nat.min sLen (n - m)=k) (e:∀ j v,(Qaj k)[j]?=some v->w.cell? (a.add j)=some v) (p:TypeId) :
 ∃ w',(Builtin.copy_ #[85,85] p #[.slice (some ⟨g,m*4,none⟩) (n - m) dCap,.slice (some a) sLen sCap]).run prog w=.ok (.int .i64 k) w'/\w'.rowIs g 183 (n*4) (Q7 (Zn (Qb7 n) (m+k)))/\∀ B w0,Below B w0 w->B<=g->Below B w0 w':=by
 obtain⟨c,i,t,y⟩:=s
 have f:m+k<=n:=by have:Nat.min sLen (n - m)<=n - m:=Nat.min_le_right _ _;omega
 have h:(prog.info? 183).map (·.size)=some 4:=by kernel_rfl
 have b:=QdV (P:=prog) w 85 85 p 183 4 g (m*4) (n - m) dCap a sLen sCap c 183 (Qaj k) hUnderVs h i (by rw[ZO,o]) e (by rw[ZO];omega) (QeZ k);rw[o] at b
 refine⟨_,b,(Qgl i t y (by rw[ZO];omega)).congr fun j l=>?_,fun B w0 u z=>below_setRow u z _⟩
 rw[ZO,Qdy f l,Qdy x l]
 by_cases r:j<m*4
 ·rw[Xr (by omega),Xs r,Xs (by omega)]
 ·by_cases q:j<(m+k)*4
  ·rw[Xs (by omega),Xs q]
   have d:j - m*4<(Qaj k).length:=by rw[ZO];omega
   rw[List.getD,Zg d,Option.getD_some]
   rw[(QbQ k (j - m*4) _ (Zg d)).2,show (j - m*4)%4=j%4 by omega]
  ·rw[Xr (by omega),Xr r,Xr q]
theorem QkW (w:World) (n:Nat) (hn:n<=15):Calls prog 192 #[.int .u64 1,.int .u64 (n:Int)] w fun e w'=>e=.returned (.tuple #[.int .u64 0,.int .u64 (n:Int)])/\w'=w:=by
 match n,hn with
 | 0,_ | 1,_ | 2,_ | 3,_ | 4,_ | 5,_ | 6,_ | 7,_ | 8,_ | 9,_ | 10,_ | 11,_ | 12,_ | 13,_ | 14,_ | 15,_ =>
   go_enter func192,ntmps192
   go_wp2
   go_ret2;exact⟨Z,Z⟩
 | n+16,h=>omega
theorem QmD (w:World) (n:Nat) (hn:n<=15):Calls prog 189 #[.int .u64 1,.int .u64 (n:Int)] w fun e w'=>e=.returned (.tuple #[.int .u64 0,.int .u64 (n:Int)])/\w'=w:=by
 have C:=Qb (QkW w n hn);go_enter func189,ntmps189
 go_wp2_with (go_at_call 192;refine(C.out).mono ?_;rintro e w' ⟨rfl,a⟩;have a:=a.symm;subst a)
 go_ret2;exact⟨Z,Z⟩
theorem Qd5 (g o j:Nat):(⟨g,o,none⟩:Addr).add j=⟨g,o+j,none⟩:=Go.WideShapes.add_plain g o j
theorem Qe4 {t:Nat}(u:w.heap[t]?=some (.cells #[.int .i64 1,.int .i64 0,.int .i64 0,.int .i64 0] 183 (0,0))) (xc n:Nat) (hn:n<=15) :
 Calls prog 178 #[.slice (some ⟨t,0,none⟩) 1 xc,.int .i64 (n:Int)] w fun e w'=>∃ g,e=.returned (.slice (some ⟨g,0,none⟩) n n)/\w.heap.size<=g/\w'.rowIs g 183 (n*4) (Q7 (Qb7 n))/\Below w.heap.size w w':=by
 have C:=Qb (QmD w n hn);have ad:=QbJ n (by omega) w
 have H:Hid ((w.alloc (.cells (madeCells (#[.int .i64 0,.int .i64 0,.int .i64 0,.int .i64 0]:Array Value) (n*4)) 183)).rowIs w.heap.size 183 (n*4) (Q7 (Zn (Qb7 n) 0))):=by
  have:=QcD w n
  rw[Qcu,List.length_replicate]
  rw[List.length_replicate] at this
  exact this
 have G:=Qb (QY w (.cells (madeCells (#[.int .i64 0,.int .i64 0,.int .i64 0,.int .i64 0]:Array Value) (n*4)) 183))
 have a:∀ j v,(Qaj (Nat.min 1 (n - 0)))[j]?=some v->(w.alloc (.cells (madeCells (#[.int .i64 0,.int .i64 0,.int .i64 0,.int .i64 0]:Array Value) (n*4)) 183)).cell? ((⟨t,0,none⟩:Addr).add j)=some v:=fun j v D=>by
  obtain⟨W,k⟩:=QbQ _ j v D
  have A:j<4:=by have:Nat.min 1 (n - 0)<=1:=Nat.min_le_left _ _;omega
  rw[Qd5,XK,k]
  have s:=(G.out.block t (XC u)).trans u;match j,A with
  | 0,_=>exact Qa s 0 _ Z
  | 1,_=>exact Qa s 1 _ Z
  | 2,_=>exact Qa s 2 _ Z
  | 3,_=>exact Qa s 3 _ Z
  | j+4,h=>omega
 obtain⟨w2,p,T,R⟩:=Qem (sLen:=1) (sCap:=xc) (dCap:=n) (Xb n) H.out Z a 3
 have f:=Qb T;have B2:=Qb (R _ _ G.out Ze);have HN:=Qb hn;have ab:0<=(n:Int):=by omega
 have af:(n:Int)<=15:=by omega
 have ae:IntKind.u64.wrap (n:Int)=(n:Int):=by rw[IntKind.wrap_u64];omega
 have X:IntKind.i64.wrap (n:Int)=(n:Int):=by rw[IntKind.wrap_i64];omega
 have ac:decide ((n:Int)>9223372036854775807)=false:=Xu (by omega);simp only[Nat.zero_mul,Nat.sub_zero] at p f
 rw[XK] at f
 generalize d:Nat.min 1 n=F at p f
 have l:Hid (F<=n/\(F=0->n=0)):=by
  rw[<-d]
  refine⟨Nat.min_le_right _ _,fun h=>?_⟩
  show n=0
  have:min 1 n=0:=h
  omega
 clear u T R H G a d;go_enter func178,ntmps178
 go_wp2_with (go_at_call 189;refine(C.out).mono ?_;rintro e w' ⟨rfl,y⟩;have y:=y.symm;subst y)
 obtain⟨g,J⟩:∃ g,g=w.heap.size:=⟨_,Z⟩
 have V:Hid (w.heap.size<=g):=by show _<=_;omega
 rw[<-J] at f |-
 clear J;go_loopw [8] (fun i wr=>∃ m:Nat,m<=n/\(m=0->n=0)/\i=.int .i64 m/\wr.rowIs g 183 (n*4) (Q7 (Zn (Qb7 n) m))/\Below w.heap.size w wr) (fun i _=>n - (intOf i).toNat)
 case atStart=>exact⟨F,l.out.1,l.out.2,Z,f.out,B2.out⟩
 case round =>
  obtain⟨m,S,o,rfl,L,N⟩:=hrel
  have r:=Qb L;have Q:=Qb N;have x:=Qb o;clear L N o;by_cases aa:m<n
  ·have I:(m:Int)<n:=by omega
   have E:0<m:=by have:=x.out;omega
   have a:∀ j v,(Qaj (Nat.min m (n - m)))[j]?=some v->wr.drew.cell? ((⟨g,0,none⟩:Addr).add j)=some v:=fun j v D=>by
    obtain⟨W,k⟩:=QbQ _ j v D
    have hl:Nat.min m (n - m)<=m:=Nat.min_le_left _ _;have U:wr.cell? ⟨g,j,none⟩=some (Q7 (Zn (Qb7 n) m) j):=r.out.cell (by omega);rw[Qdy S (by omega),Xs (by omega)] at U
    rw[Qd5,XK,k]
    exact U
   obtain⟨w3,z,O,P⟩:=Qem (w:=wr.drew) (sLen:=m) (sCap:=n) (dCap:=n - m) S r.out Z a 3
   have M:=Qb O;have B3:=Qb (P _ _ (Qji Q.out) V.out);generalize c:Nat.min m (n - m)=q at z M
   have b:Hid (0<q/\m+q<=n):=by
    rw[<-c]
    have W:Nat.min m (n - m)<=n - m:=Nat.min_le_right _ _;have k:0<Nat.min m (n - m):=Nat.lt_min.2 ⟨E,by omega⟩;exact⟨k,by omega⟩
   have K:q<=n:=by have:=b.out;omega
   clear O P a c r;go_wp2_with fail
   go_region;go_wp2
   go_roundw
   case rel=>exact⟨m+q,b.out.2,fun e=>by have:=b.out;omega,by go_num,M.out,B3.out⟩
   case measure=>have:=b.out;simp[intOf];omega
  ·have B:m=n:=by omega
   subst B;go_wp2
   go_ret;refine⟨g,Z,V.out,?_,Q.out⟩
   have:=r.out
   rw[show Zn (Qb7 m) m=Qb7 m by have:=Qc6 (Qb7 m);rwa [List.length_replicate] at this] at this
   exact this
theorem Qc.array_eq {h:Qc}{v:Qj}(hb:n<=15):h.array v (n:Int)=h.put v ⟨true,Qb7 n⟩ ((n:Int)+1):=by unfold Qc.array;rw[Xr (by omega),XT]
theorem Qc.array_none {h:Qc}{v:Qj}(hb:n<=15) (a:h.at v=none):h.array v (n:Int)=(noV,20,h):=by rw[Qc.array_eq hb];unfold Qc.put;rw[a]
theorem QgI {h:Qc}{G:HG}(H:HIn w b O h G) (v:Qj) (m:v.ok)(hb:n<=15) (s:h.at v=none) :
 Calls prog 160 #[.pointer (some ⟨b,0,none⟩),QF v,.int .i64 (n:Int)] w fun e w'=>e=.returned (.tuple #[QF (h.array v (n:Int)).1,.int .i64 (h.array v (n:Int)).2.1])/\HTo w w' b O (h.array v (n:Int)).2.2:=by
 have g:=Qb (Qai w (.cells #[.int .i64 v.kind,.int .i64 v.region,.int .i64 v.thing,.int .i64 v.n] 183) (.cells #[.int .i64 0,.int .i64 0,.int .i64 0,.int .i64 0] 183));have d:=Qb (Qf3 w #[.int .i64 v.kind,.int .i64 v.region,.int .i64 v.thing,.int .i64 v.n] 183 (.cells #[.int .i64 0,.int .i64 0,.int .i64 0,.int .i64 0] 183));have c:=Qb (QbI w (.cells #[.int .i64 v.kind,.int .i64 v.region,.int .i64 v.thing,.int .i64 v.n] 183) #[.int .i64 0,.int .i64 0,.int .i64 0,.int .i64 0] 183);have r:=Qb H;have i:=Qb (H.below g.out)
 have E:Hid (h.array v (n:Int)=(noV,20,h)):=by
  show _=_;exact Qc.array_none hb s
 have C:=Qb (Qde i.out v m ((n:Int)+1) s);have J:(n:Int)<=15:=by omega
 have A:decide ((n:Int)>15)=false:=Xu (by omega);have K:decide ((n:Int)<0)=false:=Xu (by omega);clear H m;go_enter func160,ntmps160
 go_upto_region 1 with fail
 generalize ((w.alloc (.cells #[.int .i64 v.kind,.int .i64 v.region,.int .i64 v.thing,.int .i64 v.n] 183)).alloc (.cells #[.int .i64 0,.int .i64 0,.int .i64 0,.int .i64 0] 183))=w1 at g d c i C |-;obtain⟨X,p⟩:∃ X,X=w.heap.size:=⟨_,Z⟩
 obtain⟨R,q⟩:∃ R,R=X+1:=⟨_,Z⟩
 have N:Hid (w.heap.size<=R):=by show _<=_;omega
 have u:Hid (¬ O R):=fun e=>by have:=r.out.lt R e;omega
 rw[<-p] at d c |-
 rw[<-q] at c |-
 clear p q;have I:=Qa d.out 0 _ Z;have Q:=Qa d.out 1 _ Z;have S:=Qa d.out 2 _ Z;have D:=Qa d.out 3 _ Z;have t:=Qb c.out;go_wp2_with fail
 refine C.out.mono ?_;rintro e l ⟨rfl,j⟩;have L:=Qb (i.out.below j);have x:Hid (QN O O w l):=QN.of_below (g.out.trans (j.mono g.out.size)) (fun k z=>.inl z);have a:=Qb ((j.block R (XC c.out)).trans c.out);clear I Q S D t C j d c g i r;have W:=Qa a.out 0 _ Z;have s1:=Qa a.out 1 _ Z;have s2:=Qa a.out 2 _ Z;have T:=Qa a.out 3 _ Z;have V:=Qf a.out 0;have f1:=Qf a.out 1;have f2:=Qf a.out 2;have U:=Qf a.out 3;have o:=Qb (HTo.st4 (w:=w) L.out x.out (fun _ h=>h) N.out u.out 0 0 0 0);have f:=Qb (Z1 a.out 0 0 0 0);go_wp2
 generalize ((((l.setCell ⟨R,0,none⟩ (.int .i64 0)).setCell ⟨R,1,none⟩ (.int .i64 0)).setCell ⟨R,2,none⟩ (.int .i64 0)).setCell ⟨R,3,none⟩ (.int .i64 0))=P at o f |-;have F:=Qa f.out 0 _ Z;have B:=Qa f.out 1 _ Z;have y:=Qa f.out 2 _ Z;have M:=Qa f.out 3 _ Z;exact Xy (v:=.tuple #[.agg #[.int .i64 0,.int .i64 0,.int .i64 0,.int .i64 0],.int .i64 20]) (by simp[results,results160,go_sem,F,B,y,M]) Z ⟨by rw[E.out]<;>rfl,by rw[E.out];exact o.out⟩
theorem Qh0 {h:Qc}{G:HG}(H:HIn w b O h G) (v:Qj) (q:v.ok)(hb:n<=15){p:Qi}(x:h.at v=some p) (o:p.tight ((n:Int)+1)=true) (g:h.left=0) (D:0<=p.used/\p.used<=1099511627776) :
 Calls prog 160 #[.pointer (some ⟨b,0,none⟩),QF v,.int .i64 (n:Int)] w fun e w'=>e=.returned (.tuple #[QF (h.array v (n:Int)).1,.int .i64 (h.array v (n:Int)).2.1])/\HTo w w' b O (h.array v (n:Int)).2.2:=by
 have i:=Qb (Qai w (.cells #[.int .i64 v.kind,.int .i64 v.region,.int .i64 v.thing,.int .i64 v.n] 183) (.cells #[.int .i64 0,.int .i64 0,.int .i64 0,.int .i64 0] 183));have d:=Qb (Qf3 w #[.int .i64 v.kind,.int .i64 v.region,.int .i64 v.thing,.int .i64 v.n] 183 (.cells #[.int .i64 0,.int .i64 0,.int .i64 0,.int .i64 0] 183));have c:=Qb (QbI w (.cells #[.int .i64 v.kind,.int .i64 v.region,.int .i64 v.thing,.int .i64 v.n] 183) #[.int .i64 0,.int .i64 0,.int .i64 0,.int .i64 0] 183);have u:=Qb H;have j:=Qb (H.below i.out)
 have E:Hid (h.array v (n:Int)=(noV,14,h)):=by
  show _=_;rw[Qc.array_eq hb];exact Qc.put_full _ _ x o g
 have C:=Qb (Qdi j.out v q ((n:Int)+1) x o g (by omega) D);have N:(n:Int)<=15:=by omega
 have I:decide ((n:Int)>15)=false:=Xu (by omega);have P:decide ((n:Int)<0)=false:=Xu (by omega);clear H q;go_enter func160,ntmps160
 go_upto_region 1 with fail
 generalize ((w.alloc (.cells #[.int .i64 v.kind,.int .i64 v.region,.int .i64 v.thing,.int .i64 v.n] 183)).alloc (.cells #[.int .i64 0,.int .i64 0,.int .i64 0,.int .i64 0] 183))=w1 at i d c j C |-;obtain⟨X,s⟩:∃ X,X=w.heap.size:=⟨_,Z⟩
 obtain⟨R,t⟩:∃ R,R=X+1:=⟨_,Z⟩
 have T:Hid (w.heap.size<=R):=by show _<=_;omega
 have z:Hid (¬ O R):=fun e=>by have:=u.out.lt R e;omega
 rw[<-s] at d c |-
 rw[<-t] at c |-
 clear s t;have M:=Qa d.out 0 _ Z;have V:=Qa d.out 1 _ Z;have W:=Qa d.out 2 _ Z;have K:=Qa d.out 3 _ Z;have y:=Qb c.out;go_wp2_with fail
 refine C.out.mono ?_;rintro e m ⟨rfl,l⟩;have Q:=Qb (j.out.below l);have A:Hid (QN O O w m):=QN.of_below (i.out.trans (l.mono i.out.size)) (fun k F=>.inl F);have a:=Qb ((l.block R (XC c.out)).trans c.out);clear M V W K y C l d c i j u;have s0:=Qa a.out 0 _ Z;have s1:=Qa a.out 1 _ Z;have s2:=Qa a.out 2 _ Z;have s3:=Qa a.out 3 _ Z;have f0:=Qf a.out 0;have f1:=Qf a.out 1;have f2:=Qf a.out 2;have f3:=Qf a.out 3;have r:=Qb (HTo.st4 (w:=w) Q.out A.out (fun _ h=>h) T.out z.out 0 0 0 0);have f:=Qb (Z1 a.out 0 0 0 0);go_wp2
 generalize ((((m.setCell ⟨R,0,none⟩ (.int .i64 0)).setCell ⟨R,1,none⟩ (.int .i64 0)).setCell ⟨R,2,none⟩ (.int .i64 0)).setCell ⟨R,3,none⟩ (.int .i64 0))=U at r f |-;have L:=Qa f.out 0 _ Z;have J:=Qa f.out 1 _ Z;have B:=Qa f.out 2 _ Z;have S:=Qa f.out 3 _ Z;exact Xy (v:=.tuple #[.agg #[.int .i64 0,.int .i64 0,.int .i64 0,.int .i64 0],.int .i64 14]) (by simp[results,results160,go_sem,L,J,B,S]) Z ⟨by rw[E.out]<;>rfl,by rw[E.out];exact r.out⟩
theorem Qki {h:Qc}{G:HG}(H:HIn w b O h G) (v:Qj) (hv:v.ok)(hb:n<=15){p:Qi}(ha:h.at v=some p)(i:v.region=k) (s:¬ (p.tight ((n:Int)+1)=true/\h.left=0)) (hu:0<=p.used/\p.used<=1099511627776) (U:p.pages<=1099511627776) (ac:h.left<=1099511627776) (P:p.l.length<=1099511627776) :
 Calls prog 160 #[.pointer (some ⟨b,0,none⟩),QF v,.int .i64 (n:Int)] w fun e w'=>e=.returned (.tuple #[QF (h.array v (n:Int)).1,.int .i64 (h.array v (n:Int)).2.1])/\HTo w w' b O (h.array v (n:Int)).2.2:=by
 have B0:=Qb (Qai w (.cells #[.int .i64 v.kind,.int .i64 v.region,.int .i64 v.thing,.int .i64 v.n] 183) (.cells #[.int .i64 0,.int .i64 0,.int .i64 0,.int .i64 0] 183));have D:=Qb (Qf3 w #[.int .i64 v.kind,.int .i64 v.region,.int .i64 v.thing,.int .i64 v.n] 183 (.cells #[.int .i64 0,.int .i64 0,.int .i64 0,.int .i64 0] 183));have o:=Qb (QbI w (.cells #[.int .i64 v.kind,.int .i64 v.region,.int .i64 v.thing,.int .i64 v.n] 183) #[.int .i64 0,.int .i64 0,.int .i64 0,.int .i64 0] 183);have H0:=Qb H;have H1:=Qb (H.below B0.out)
 have E:Hid (h.array v (n:Int)=(⟨4,k,p.l.length,0⟩,0,⟨h.L.set k { p.roomed ((n:Int)+1) with l:=p.l++[⟨true,Qb7 n⟩] },h.roomLeft p ((n:Int)+1)⟩)):=by
  show _=_;rw[Qc.array_eq hb]
  exact Qc.put_ok _ _ ha i s
 have C:=Qb (QfP H1.out v hv ((n:Int)+1) ha i s (by omega) hu U ac);have ah:(n:Int)<=15:=by omega
 have ak:decide ((n:Int)>15)=false:=Xu (by omega);have aj:decide ((n:Int)<0)=false:=Xu (by omega);obtain⟨-,-,c,af,M,ad⟩:=Qc.at_some ha
 have ek:c=k:=by omega
 subst ek;have J:=Qb M;have N:=Qb ad;have ae:=Qb i;clear H hv ha s af M ad i;go_enter func160,ntmps160
 go_upto_region 1 with fail
 generalize ((w.alloc (.cells #[.int .i64 v.kind,.int .i64 v.region,.int .i64 v.thing,.int .i64 v.n] 183)).alloc (.cells #[.int .i64 0,.int .i64 0,.int .i64 0,.int .i64 0] 183))=w1 at B0 D o H1 C |-;obtain⟨X,hX⟩:∃ X,X=w.heap.size:=⟨_,Z⟩
 obtain⟨R,hR⟩:∃ R,R=X+1:=⟨_,Z⟩
 have HR:Hid (w.heap.size<=R):=by show _<=_;omega
 have NR:Hid (¬ O R):=fun e=>by have:=H0.out.lt R e;omega
 rw[<-hX] at D o |-
 rw[<-hR] at o |-
 clear hX hR;have x0:=Qa D.out 0 _ Z;have x1:=Qa D.out 1 _ Z;have x2:=Qa D.out 2 _ Z;have x3:=Qa D.out 3 _ Z;have r0:=Qb o.out;go_wp2_with fail
 refine C.out.mono ?_;rintro e f ⟨rfl,h2,I⟩;have z:=Qb h2;have SZ:Hid (QN O O w f):=(QN.of_below (O:=O) B0.out (fun k hk=>.inl hk)).trans I;have u:Hid (R<w1.heap.size):=XC o.out;have K:Hid (¬ O R):=NR.out;have A:=Qb ((I.block R (XC o.out) NR.out).trans o.out);clear x0 x1 x2 x3 r0 C h2 D o H1;go_wp2_with fail
 refine(Qe4 (Qh f #[.int .i64 1,.int .i64 0,.int .i64 0,.int .i64 0] 183) 1 n hb).mono ?_
 rintro e w3 ⟨g,rfl,W,m,S⟩;have b3:Below f.heap.size f w3:=(QY f _).trans (S.mono (by simp));have hg:f.heap.size<=g:=Zt (by simp) W;clear W S;have j:=Qb m;have B:=Qb b3;have HG:=Qb hg
 have r:(⟨h.L.set c (p.roomed ((n:Int)+1)),h.roomLeft p ((n:Int)+1)⟩:Qc).L[c]?=some (p.roomed ((n:Int)+1)):=by
  have:=(Zi J.out).1
  simp[this]
 have y:(p.roomed ((n:Int)+1)).there=true:=by rw[Qi.roomed_there];exact N.out
 obtain⟨tv,pv,RI⟩:=(z.out.below b3).reg c _ r y
 have PA:ZD w3 (.slice (some ⟨g,0,none⟩) (⟨true,Qb7 n⟩:Qq).l.length n) (⟨true,Qb7 n⟩:Qq).l:=by
  have d:(Qb7 n).length=n:=by simp
  refine⟨⟨_,_,Z⟩,fun _=>⟨g,n,Z,?_⟩⟩
  show w3.rowIs g _ ((Qb7 n).length*4) _;rw[d];exact j.out
 have pb:∀ x,Qb6 (.slice (some ⟨g,0,none⟩) (⟨true,Qb7 n⟩:Qq).l.length n) ⟨true,Qb7 n⟩ x->f.heap.size<=x:=fun x q=>by
  have:=ownBlock_slice.1 q.2
  have:=HG.out
  omega
 have CA:=Qf0 RI PA (fun x q hS=>by have:=z.out.lt x (z.out.os c x hS).1;have:=pb x q;omega) (fun x q=>Zl (z.out.lt x (z.out.os c x q).1) B.out.size) (by rw[Qi.roomed_l];exact P);rw[show (⟨true,Qb7 n⟩:Qq).l.length=n by show (Qb7 n).length=n;simp,Qi.roomed_l] at CA
 have V:Hid (Calls prog 158 #[.pointer (some ⟨G.g c,0,none⟩),.int .i64 4,.slice (some ⟨g,0,none⟩) n n] w3 fun e w'=>e=.returned (.agg #[.int .i64 4,.int .i64 c,.int .i64 p.l.length,.int .i64 0])/\∃ F G',HIn w' b F ⟨h.L.set c { p.roomed ((n:Int)+1) with l:=p.l++[⟨true,Qb7 n⟩] },h.roomLeft p ((n:Int)+1)⟩ G'/\QN O F f w'/\(∀ x,O x->F x)/\(∀ x,F x->O x\/f.heap.size<=x)):=by
  refine CA.mono ?_;rintro e w4 ⟨rfl,T⟩;refine⟨Z,?_⟩
  have d:(⟨true,Qb7 n⟩:Qq).l.length=n:=by show (Qb7 n).length=n;simp
  have AD:=z.out.added (w4:=w4) B.out r y (t:=⟨true,Qb7 n⟩) (va:=some ⟨g,0,none⟩) (vc:=n) pb (by rw[d,Qi.roomed_l];exact T);rw[Qi.roomed_l] at AD
  simpa only [List.set_set] using AD
 have aa:=Qb A.out;have ag:=Qb ((b3.block R (by have:=u.out;have:=I.size;omega)).trans A.out);have ab:Hid (R<f.heap.size):=Zl u.out I.size;clear m hg b3 RI PA pb CA r y j HG A J N ae I z B0 H0 u hb hu U ac P;go_wp2_with fail
 refine V.out.mono ?_;rintro e w4 ⟨rfl,F,G',h4,s4,o4,n4⟩
 have Q:¬ F R:=fun e=>by
  rcases n4 R e with h | h
  ·exact K.out h
  ·have:=ab.out;omega
 have a:=Qb ((s4.block R ab.out K.out).trans aa.out);have K1:=Qb (HTo.st4 h4 (SZ.out.trans s4) (fun x q=>o4 x q) HR.out Q 4 (c:Int) (p.l.length:Int) 0);have K2:=Qb (Z1 a.out 4 (c:Int) (p.l.length:Int) 0);have s0:=Qa a.out 0 _ Z;have s1:=Qa a.out 1 _ Z;have I:=Qa a.out 2 _ Z;have s3:=Qa a.out 3 _ Z;have f0:=Qf a.out 0;have f1:=Qf a.out 1;have f2:=Qf a.out 2;have f3:=Qf a.out 3;clear h4 s4 o4 n4 Q V B ag;go_wp2
 generalize ((((w4.setCell ⟨R,0,none⟩ (.int .i64 4)).setCell ⟨R,1,none⟩ (.int .i64 (c:Int))).setCell ⟨R,2,none⟩ (.int .i64 (p.l.length:Int))).setCell ⟨R,3,none⟩ (.int .i64 0))=ai at K1 K2 |-;have e0:=Qa K2.out 0 _ Z;have e1:=Qa K2.out 1 _ Z;have e2:=Qa K2.out 2 _ Z;have e3:=Qa K2.out 3 _ Z;exact Xy (v:=.tuple #[.agg #[.int .i64 4,.int .i64 c,.int .i64 p.l.length,.int .i64 0],.int .i64 0]) (by simp[results,results160,go_sem,e0,e1,e2,e3]) Z ⟨by rw[E.out]<;>rfl,by rw[E.out];exact K1.out⟩
def HS (w0 w:World) (b:Nat) (h:Qc) (K:Nat->Prop):Prop:=∃ O G,HIn w b O h G/\(∀ x,O x->w0.heap.size<=x/\¬ K x)/\Below w0.heap.size w0 w
structure Qhm (w0 w w':World) (b:Nat) (h':Qc) (K:Nat->Prop):Prop where
 st:HS w0 w' b h' K
 keep:∀ x,K x->w'.heap[x]?=w.heap[x]?
 size:w.heap.size<=w'.heap.size
structure HB (N:Nat) (h:Qc):Prop where
 ok:HOk N 1000000 h
 len:Qc0 N h
 live:h.live<=16
theorem HB.mono {N a:Nat}{h:Qc}(B:HB N h) (b:N<=a):HB a h:=⟨B.ok.mono b,B.len.mono b,B.live⟩
section
variable {w0 w w':World}{b N:Nat}{h h':Qc}{K K':Nat->Prop}
theorem HS.below (S:HS w0 w b h K):Below w0.heap.size w0 w:=by obtain⟨_,_,_,_,b⟩:=S;exact b
theorem Qhm.of (d:∀ x,O x->w0.heap.size<=x/\¬ K x) (hb:Below w0.heap.size w0 w) (f:∀ x,K x->x<w.heap.size) (T:HTo w w' b O h'):Qhm w0 w w' b h' K:=by
 obtain⟨g,l,h,a,m⟩:=T
 have j:=hb.size;refine⟨⟨g,l,h,fun x c=>?_,a.os.trans hb.os,a.tape.trans hb.tape,a.output.trans hb.output,Zt j a.size,fun k i=>(a.block k (by omega) (fun e=>by have:=(d k e).1;omega)).trans (hb.block k i)⟩,fun x c=>a.block x (f x c) (fun e=>(d x e).2 c),a.size⟩
 rcases a.own x c with e | e
 ·exact d x e
 ·exact⟨by omega,fun k=>by have:=f x k;omega⟩
theorem Qhm.same (S:HS w0 w b h K) (d:∀ x,K x->x<w.heap.size) (c:Below w.heap.size w w'):Qhm w0 w w' b h K:=by
 obtain⟨O,G,H,e,a⟩:=S
 exact Qhm.of e a d (HTo.same (H.below c) c)
theorem HS.alloc (S:HS w0 w b h K) (o:Obj):HS w0 (w.alloc o) b h (fun x=>K x\/x=w.heap.size):=by
 obtain⟨O,G,H,f,d⟩:=S
 have c:=QY w o;refine⟨O,G,H.below c,fun x a=>⟨(f x a).1,fun e=>?_⟩,d.trans (c.mono d.size)⟩
 rcases e with e | e
 ·exact(f x a).2 e
 ·have:=H.lt x a;omega
theorem HS.set (S:HS w0 w b h K)(g:K X) (f:w0.heap.size<=X) (i:Nat) (v:Value):HS w0 (w.setCell ⟨X,i,none⟩ v) b h K:=by
 obtain⟨O,G,H,a,d⟩:=S
 exact⟨O,G,H.keep (by simp) (fun x c _=>Xd _ _ _ _ (fun e=>(a x c).2 (e ▸ g))),a,d.setCell (p:=⟨X,i,none⟩) f _⟩
theorem HS.grown (S:HS w0 w b h K){d:Option Nat}(g:w.grownBy w' d) (j:∀ x,d=some x->K x/\w0.heap.size<=x) (f:∀ x,K' x->K x\/w.heap.size<=x):HS w0 w' b h K':=by
 obtain⟨O,G,H,i,a⟩:=S
 refine⟨O,G,H.keep g.size (fun x c m=>g.block x m (fun e=>(i x c).2 (j x e.symm).1)),fun x c=>⟨(i x c).1,fun e=>?_⟩,g.os.trans a.os,g.tape.trans a.tape,g.output.trans a.output,Zt a.size g.size,fun k l=>(g.block k (by have:=a.size;omega) (fun e=>by have:=(j k e.symm).2;omega)).trans (a.block k l)⟩
 rcases f x e with e | e
 ·exact(i x c).2 e
 ·have:=H.lt x c;omega
theorem HS.mono (S:HS w0 w b h K) (a:∀ x,K' x->K x):HS w0 w b h K':=by
 obtain⟨O,G,H,d,f⟩:=S
 exact⟨O,G,H,fun x c=>⟨(d x c).1,fun e=>(d x c).2 (a x e)⟩,f⟩
theorem HB.pl (B:HB N h) (b:N<=1000000):∀ (k:Nat) (p:Qi),h.L[k]?=some p->p.l.length<=4611686018427387904:=fun k p a=>by have:=B.ok.things k p a;omega
theorem HB.open (B:HB N h):HB (N+1) h.open_.2.2:=⟨B.ok.open,B.len.open.mono (Nat.le_succ _),QjY B.live⟩
theorem HB.shut (B:HB N h) (v:Qj):HB N (h.shut v).2:=by
 refine⟨B.ok.shut v,B.len.shut v,?_⟩
 unfold Qc.shut
 cases ha:h.at v with
 | none=>exact B.live
 | some p =>
   obtain⟨_,_,j,c,b,a⟩:=Qc.at_some ha
   have:=Qc.live_set (h:=h) (q:=noP) b (h.left+p.pages)
   have d:=B.live;rw[a] at this
   simp only[c,Int.toNat_natCast]
   simp[noP] at this |-
   omega
theorem HB.tuple (B:HB N h) (v:Qj) (l:List Qj){M:Nat}(a:l.length<=M):HB (N+M+2) (h.tuple v l).2.2:=by
 refine⟨?_,(Qc0.put (B.len.mono (show N<=N+M+2 by omega)) v ⟨false,l⟩ _ (by show l.length<=_;omega)),by rw[show h.tuple v l=h.put v ⟨false,l⟩ (if l.length=0 then 1 else l.length) from Z,QfL];exact B.live⟩
 exact(B.ok.put v ⟨false,l⟩ (words:=if l.length=0 then 1 else l.length) (M:=M+1) (by split<;>omega)).mono (by omega)
theorem HB.new (n:Nat) (hn:n<=1000000):HB 0 (Qc.new n):=⟨⟨(HOk.new n).len,(HOk.new n).things,(HOk.new n).used,by have:=(HOk.new n).pages;omega⟩,Qc0.new 0 n,by simp[Qc.new,Qc.live]⟩
end
theorem Qci {l:List Qi}{r:Nat}{p:Qi}{t:Qq}{x:List Qj}(c:l[r]?=some p){q:Qi}(e:(l.set r { p with l:=p.l.set i { t with l:=x } })[k]?=some q):∃ q0,l[k]?=some q0/\q.used=q0.used/\q.l.length=q0.l.length/\(q=q0\/q={ p with l:=p.l.set i { t with l:=x } }/\q0=p):=by
 rcases Qbd e with a | a
 ·by_cases b:k=r
  ·subst b;exact⟨p,c,by rw[a],by rw[a];simp,.inr ⟨a,Z⟩⟩
  ·rw[List.getElem?_set_ne (Ne.symm b)] at e
   exact⟨q,e,Z,Z,.inl Z⟩
 ·exact⟨q,a,Z,Z,.inl Z⟩
theorem HB.set {h:Qc}(B:HB N h) (v:Qj) (k:Int) (x:Qj):HB N (h.set v k x).2:=by
 unfold Qc.set
 cases ht:h.thing v with
 | none=>exact B
 | some t =>
   cases hp:h.place v.region with
   | none=>exact B
   | some p =>
     simp only
     split
     ·exact B
     split
     ·exact B
     obtain⟨-,E,f,F,s,-⟩:=Qc.thing_iff.1 ht
     rw[hp] at f
     cases f
     obtain⟨D,b,C⟩:=Qc.place_some hp
     refine⟨⟨by simpa using B.ok.len,fun j q e=>?_,fun j q e=>?_,?_⟩,fun j q r u e a=>?_,?_⟩
     ·obtain⟨g,d,i,n,-⟩:=Qci b e
      rw[n];exact B.ok.things j g d
     ·obtain⟨g,d,i,n,-⟩:=Qci b e
      rw[i];exact B.ok.used j g d
     ·have z:=sum_set h.L v.region.toNat p { p with l:=p.l.set v.thing.toNat { t with l:=t.l.set k.toNat x } } b;have y:=B.ok.pages;have o:((h.L.set v.region.toNat { p with l:=p.l.set v.thing.toNat { t with l:=t.l.set k.toNat x } }).map (·.pages)).sum+p.pages=(h.L.map (·.pages)).sum+p.pages:=z;have m:=Nat.add_right_cancel o;show h.left+((h.L.set v.region.toNat { p with l:=p.l.set v.thing.toNat { t with l:=t.l.set k.toNat x } }).map (·.pages)).sum<=1000000;rw[m];exact y
     ·obtain⟨g,d,i,n,c⟩:=Qci b e
      rcases c with c | ⟨c,A⟩
      ·subst c;exact B.len j q r u d a
      ·subst c;simp only at a
       by_cases w:r=v.thing.toNat
       ·subst w
        have:=(Zi s).1
        simp[this] at a
        subst a
        have:=B.len _ p _ t b s
        simpa using this
       ·rw[List.getElem?_set_ne (Ne.symm w)] at a
        exact B.len _ p _ u b a
     ·have:=Qc.live_set (h:=h) (q:={ p with l:=p.l.set v.thing.toNat { t with l:=t.l.set k.toNat x } }) b h.left
      have o:Qc.live ⟨h.L.set v.region.toNat { p with l:=p.l.set v.thing.toNat { t with l:=t.l.set k.toNat x } },h.left⟩+(if p.there then 1 else 0)=h.live+(if p.there then 1 else 0):=this;have m:=Nat.add_right_cancel o;show Qc.live ⟨h.L.set v.region.toNat { p with l:=p.l.set v.thing.toNat { t with l:=t.l.set k.toNat x } },h.left⟩<=16;rw[m];exact B.live
theorem QdK (h:Below B (w.drewN m) w'):Below B w w':=⟨h.os,h.tape,h.output,h.size,h.block⟩
theorem ZR (h:Below B w w'):Below B w (w'.drewN m):=⟨h.os,h.tape,h.output,h.size,h.block⟩
theorem Qau {c:Array Value}{a:TypeId}(h:wr.heap[B]?=some (.cells c a (0,0))) (b:Below wr.heap.size wr w):w.heap[B]?=some (.cells c a (0,0)) :=
 (b.block B (XC h)).trans h
abbrev Blk (w:World) (B:Nat) (c:Array Value) (t:TypeId):Prop:=w.heap[B]?=some (.cells c t (0,0))
theorem Blk.below {c:Array Value}(h:Blk w B c t) (b:Below w.heap.size w w'):Blk w' B c t:=Qau h b
theorem Blk.alloc {c:Array Value}(h:Blk w B c t) (o:Obj):Blk (w.alloc o) B c t:=Qau h ((Below.refl _ w).alloc Ze _)
theorem Blk.new (w:World) (c:Array Value) (t:TypeId):Blk (w.alloc (.cells c t)) w.heap.size c t:=Qh w c t
theorem Blk.drewN {c:Array Value}(h:Blk w B c t) (m:Nat):Blk (w.drewN m) B c t:=h
theorem Blk.lt {c:Array Value}(h:Blk w B c t):B<w.heap.size:=XC h
theorem Blk.setOther {c:Array Value}(h:Blk w B c t){p:Addr}(a:p.block≠B) (v:Value):Blk (w.setCell p v) B c t:=(Xd _ _ _ _ (fun e=>a e.symm)).trans h
theorem QbH (w:World) (o:Obj):Below w.heap.size w (w.alloc o):=(Below.refl _ w).alloc Ze _
theorem QaB (w:World) (o p:Obj):Below w.heap.size w ((w.alloc o).alloc p):=(QbH w o).alloc (by simp) _
theorem Below.andThen {a:World}(h:Below w.heap.size w w1) (b:Below w1.heap.size w1 a):Below w.heap.size w a:=h.trans (b.mono h.size)
theorem Blk.new1 (w:World) (c d:Array Value) (t u:TypeId):Blk ((w.alloc (.cells c t)).alloc (.cells d u)) w.heap.size c t:=(Blk.new w c t).alloc _
theorem Blk.new2 (w:World) (o:Obj) (d:Array Value) (u:TypeId):Blk ((w.alloc o).alloc (.cells d u)) (w.heap.size+1) d u:=by
 have:=Blk.new (w.alloc o) d u
 simpa using this
abbrev Qgv (b:Nat):Value:=.pointer (some ⟨b,0,none⟩)
abbrev Chg (b:Nat) (w w':World):Prop:=QN (fun k=>k=b) (fun k=>k=b) w w'
section
variable {b:Nat}{w w' w1 w2:World}
theorem Chg.refl (b:Nat) (w:World):Chg b w w:=QN.refl _ _
theorem Chg.below (h:Below w.heap.size w w'):Chg b w w':=⟨h.os,h.tape,h.output,h.size,fun k a _=>h.block k a,fun k a=>.inl a⟩
theorem Chg.set (w:World) (o:Nat) (v:Value) (h:b<w.heap.size):Chg b w (w.setCell ⟨b,o,none⟩ v) :=
 ⟨Z,Z,Z,by simp,fun k _ a=>Xd _ _ _ _ a,fun k a=>.inl a⟩
theorem Chg.keep {α:Type}{A:Lay α}{x:α}{cs:List Value}(h:A.In w O x cs) (c:Chg b w w') (d:∀ k,O k->k≠b):A.In w' O x cs :=
 A.keep (fun k e a=>c.block k a (d k e)) (fun _ h _=>h) h
theorem Chg.last {s:Nat}(h:Below s w w1) (c:Chg b w1 w2) (e:s<=b) (d:s<=w1.heap.size):Below s w w2 :=
 ⟨c.os.trans h.os,c.tape.trans h.tape,c.output.trans h.output,Zt h.size c.size,fun k a=>(c.block k (by omega) (by omega)).trans (h.block k a)⟩
end
abbrev Qia (b B:Nat) (w w':World):Prop:=QN (fun k=>k=b\/k=B) (fun k=>k=b\/k=B) w w'
section
variable {b B:Nat}{w w' w0:World}
theorem Qia.refl (b B:Nat) (w:World):Qia b B w w:=QN.refl _ _
theorem Qia.of (h:Chg b w w'):Qia b B w w':=⟨h.os,h.tape,h.output,h.size,fun k a c=>h.block k a (fun e=>c (.inl e)),fun k a=>.inl a⟩
theorem Qia.set (w:World) (o:Nat) (v:Value):Qia b B w (w.setCell ⟨B,o,none⟩ v) :=
 ⟨Z,Z,Z,by simp,fun k _ a=>Xd _ _ _ _ (fun e=>a (.inr e)),fun k a=>.inl a⟩
theorem Qia.new (h:Chg b w0 w) (a:Qia b B w w') (f:w0.heap.size<=B):Chg b w0 w' :=
 ⟨a.os.trans h.os,a.tape.trans h.tape,a.output.trans h.output,Zt h.size a.size,fun k c d=>(a.block k (Zl c h.size) (fun e=>by rcases e with e | e;exact d e;omega)).trans (h.block k c d),fun k c=>.inl c⟩
theorem Qia.keep {α:Type}{A:Lay α}{x:α}{cs:List Value}(h:A.In w O x cs) (c:Qia b B w w') (d:∀ k,O k->k<w.heap.size->k≠b/\k≠B):A.In w' O x cs :=
 A.keep (fun k f a=>c.block k a (fun e=>by rcases e with e | e;exact(d k f a).1 e;exact(d k f a).2 e)) (fun _ h _=>h) h
end
section
variable {w0 w w':World}{b R B:Nat}{α:Type}{A:Lay α}{x:α}{cs:List Value}
def Kid {α:Type}(A:Lay α) (B:Nat) (w:World) (x:α) (cs:List Value):Prop:=A.In w (fun g=>B<g) x cs
theorem Kid.mk (h:A.In w (fun g=>w'.heap.size<=g) x cs) (b:B<w'.heap.size):Kid A B w x cs:=Yc h (fun k a _=>by omega)
theorem Kid.set (h:Kid A B w x cs){q:Addr}(a:q.block<=B) (v:Value):Kid A B (w.setCell q v) x cs:=Lay.setCell h (by omega) v
theorem Kid.alloc (h:Kid A B w x cs) (o:Obj):Kid A B (w.alloc o) x cs:=Lay.alloc h o
theorem Kid.sets (h:Kid A B w x cs){R:Nat}(b:R<=B):∀ (vs:List Value) (o:Nat),Kid A B (w.setCells R o vs) x cs:=fun vs o=>A.keep (fun k a _=>Zy (by omega) vs o w) (fun _ h _=>h) h
theorem Kid.out (h:Kid A B w x cs) (b:w0.heap.size<=B):A.In w (fun g=>w0.heap.size<=g) x cs:=Yc h (fun k a _=>by omega)
end
theorem Blk.sets {R:Nat}{T:TypeId}:∀ (vs us zs:List Value) (w:World),vs.length=zs.length->Blk w R (us++zs).toArray T->Blk (w.setCells R us.length vs) R (us++vs).toArray T
 | [],us,zs,w,hl,h=>by
   have:zs=[]:=Xf.1 hl.symm
   subst this;exact h
 | v::vs,us,zs,w,hl,h=>by
   cases zs with
   | nil=>simp at hl
   | cons z zs =>
     have a:=Qo h us.length v
     have b:((us++z::zs).toArray.setIfInBounds us.length v)=((us++[v])++zs).toArray:=by
      apply Array.ext'
      simp[List.set_append]
     rw[b] at a
     have:=Blk.sets vs (us++[v]) zs (w.setCell ⟨R,us.length,none⟩ v) (by simpa using hl) a
     simpa[World.setCells] using this
theorem pSizeN:(prog.info? 65).map (·.size)=some 8:=by kernel_rfl
theorem Blk.range {w:World}{T:TypeId}{c:List Value}(h:Blk w g c.toArray T):w.rangeAt g 0 c:=fun j v a=>by
 rw[XK]
 exact Qa h j v (by simpa using a)
theorem Blk.there {w:World}{T:TypeId}{c:Array Value}(h:Blk w g c T) (hn:o+n<=c.size):w.there g o n:=fun j a =>
 ⟨by rw[Qa h (o+j) _ (Xj (by omega))];rfl,Qf h (o+j)⟩
section
variable {w0 w w':World}{b R B:Nat}{α:Type}{A:Lay α}{x:α}{cs:List Value}{lo:Nat}
def Mid {α:Type}(A:Lay α) (B lo:Nat) (w:World) (x:α) (cs:List Value):Prop:=A.In w (fun g=>B<g/\g<lo) x cs
theorem Mid.below (h:Mid A B lo w x cs) (k:Below w.heap.size w w'):Mid A B lo w' x cs:=Ya h k
theorem Mid.set (h:Mid A B lo w x cs){q:Addr}(a:q.block<=B) (v:Value):Mid A B lo (w.setCell q v) x cs:=Lay.setCell h (by omega) v
theorem Mid.grown {a:Option Nat}(h:Mid A B lo w x cs) (g:w.grownBy w' a) (c:∀ k,a=some k->lo<=k):Mid A B lo w' x cs :=
 A.keep (fun k d b=>g.block k b (fun e=>by have:=c k e.symm;omega)) (fun _ h _=>h) h
end
theorem pSizeB:(prog.info? 73).map (·.size)=some 12:=by kernel_rfl
def Qjk (F:Nat):Prop:=∀ (args:Array Value) (w:World),(callFunc F args).run prog w=.ok (.enter F args) w
def vFlat:List Qj->List Value
 | []=>[]
 | v::r=>.int .i64 v.kind::.int .i64 v.region::.int .i64 v.thing::.int .i64 v.n::vFlat r
theorem vFlat_len:∀ l:List Qj,(vFlat l).length=l.length*4
 | []=>rfl
 | v::r=>by simp[vFlat,vFlat_len r];omega
theorem vFlat_app:∀ l k:List Qj,vFlat (l++k)=vFlat l++vFlat k
 | [],k=>rfl
 | v::r,k=>by simp[vFlat,vFlat_app r k]
theorem vFlat_at:∀ (l:List Qj) (i j:Nat) (x:Qj),l[i]?=some x->j<4->(vFlat l)[i*4+j]?=some (vAt x j)
 | [],_,_,_,h,_=>by simp at h
 | v::r,0,j,x,h,hj=>by
   simp at h;subst h
   match j,hj with
   | 0,_=>rfl
   | 1,_=>rfl
   | 2,_=>rfl
   | 3,_=>rfl
   | j+4,h=>omega
 | v::r,i+1,j,x,h,hj=>by
   have a:=vFlat_at r i j x (by simpa using h) hj;rw[show (i+1)*4+j=i*4+j+4 by omega]
   simpa[vFlat] using a
theorem vFlat_one:∀ (l:List Qj) (u:Value),u∈vFlat l->u.oneCell'=true
 | [],_,h=>by simp[vFlat] at h
 | v::r,u,h=>by
   simp only[vFlat,List.mem_cons] at h
   rcases h with rfl | rfl | rfl | rfl | h
   ·rfl
   ·rfl
   ·rfl
   ·rfl
   ·exact vFlat_one r u h
def Qgu (w:World) (v:Value) (l:List Qj):Prop:=w.ownsRow 0 183 4 v l.length (vFlat l)
theorem Qgu.form {w:World}{l:List Qj}(h:Qgu w v l):∃ a c,v=.slice a l.length c/\VIn w a l:=by
 rcases h.2 with ⟨e,n⟩|⟨g,f,q,e,_,m,s,t,u,o⟩
 ·refine⟨none,0,by rw[e,n],fun i x d=>?_⟩
  have:=(Zi d).1
  omega
 ·refine⟨some ⟨g,0,none⟩,f,e,fun i x d=>?_⟩
  have r:=(Zi d).1
  have b:∀ j,j<4->w.cell? ⟨g,0+i*4+j,none⟩=some (vAt x j):=fun j p=>by
   have k:=vFlat_at l i j x d p;rw[<-o,XR,Xs (by omega),Array.getElem?_toList] at k
   rw[XK]
   exact Qa m _ _ k
  exact⟨g,0,Z,XC m,b 0 (by omega),b 1 (by omega),b 2 (by omega),b 3 (by omega)⟩
theorem Qgu.keep {w w':World}{l:List Qj}(h:Qgu w v l) (hb:∀ x,v.ownBlock=some x->w'.heap[x]?=w.heap[x]?):Qgu w' v l:=QE h hb
theorem Qgu.lt {w:World}{l:List Qj}(h:Qgu w v l)(a:v.ownBlock=some x):x<w.heap.size:=XC (QG h a).choose_spec
theorem Qgu.of {w:World}{g:Nat}{l:List Qj}(hn:l.length=n) (j:n<=1099511627776) (h:w.rowIs g 183 (n*4) (Q7 l)):Qgu w (.slice (some ⟨g,0,none⟩) n n) l:=by
 subst hn;obtain⟨c,e,b,f⟩:=h
 refine⟨vFlat_len l,.inr ⟨g,l.length,c,Z,Xb _,e,Ze,by unfold maxLen;omega,b,?_⟩⟩
 rw[XO (by simp[b])]
 refine List.ext_getElem? (fun i=>?_);rw[Array.getElem?_toList]
 rcases Nat.lt_or_ge i (l.length*4) with d | d
 ·rw[f i d]
  have a:l[i / 4]?=some l[i / 4]:=Zg (by omega)
  have:=vFlat_at l (i / 4) (i%4) _ a (by omega)
  rw[show i / 4*4+i%4=i by omega] at this
  rw[this]
  unfold Q7;simp[List.getD,a]
 ·rw[Array.getElem?_eq_none (by omega),Xk (by rw[vFlat_len];omega)]
def QcQ (w:World) (c:Nat) (fr:IFr) (v:Value):Prop :=
 w.heap[c]?=some (.cells #[.int .i64 fr.f,.int .i64 fr.b,.int .i64 fr.i,.int .i64 fr.r.length,v] 87 (0,0))/\Qgu w v fr.v
theorem QcQ.keep {w w':World}{fr:IFr}(h:QcQ w c fr v) (b:w'.heap[c]?=w.heap[c]?) (a:∀ x,v.ownBlock=some x->w'.heap[x]?=w.heap[x]?):QcQ w' c fr v:=⟨b.trans h.1,h.2.keep a⟩
theorem QcQ.below {w w':World}{fr:IFr}(h:QcQ w c fr v) (b:Below w.heap.size w w'):QcQ w' c fr v:=h.keep (b.block c (XC h.1)) (fun x a=>b.block x (h.2.lt a))
theorem QcQ.ne {w:World}{fr:IFr}(h:QcQ w c fr v):v.ownBlock≠some c:=fun e=>by
 obtain⟨b,a⟩:=QG h.2 e
 exact Q8 a h.1 (by decide) Z
structure FB where
 c:Nat
 v:Value
def QaO (w:World) (A O:Nat->Prop):List FB->List IFr->Prop
 | [],[]=>True
 | x::xs,fr::frs=>(QcQ w x.c fr x.v/\(A x.c/\¬ O x.c)/\∀ g,x.v.ownBlock=some g->A g/\¬ O g)/\(∀ y∈xs,y.c≠x.c/\∀ g,x.v.ownBlock=some g->y.v.ownBlock≠some g)/\QaO w A O xs frs
 | _,_=>False
section
variable {w w':World}{A A' O O':Nat->Prop}
theorem QaO.mem:∀ {xs:List FB}{frs:List IFr},QaO w A O xs frs->∀ y∈xs,∃ fr,QcQ w y.c fr y.v/\(A y.c/\¬ O y.c)/\∀ g,y.v.ownBlock=some g->A g/\¬ O g
 | [],_,_,y,a=>by simp at a
 | x::xs,[],h,_,_=>h.elim
 | x::xs,fr::frs,h,y,a=>by
   rcases List.mem_cons.1 a with rfl | a
   ·exact⟨fr,h.1⟩
   ·exact QaO.mem h.2.2 y a
theorem QaO.keep (b:∀ k,k<w.heap.size->A k->¬ O k->A' k/\¬ O' k):∀ {xs:List FB}{frs:List IFr},QaO w A O xs frs->(∀ y∈xs,w'.heap[y.c]?=w.heap[y.c]?/\∀ g,y.v.ownBlock=some g->w'.heap[g]?=w.heap[g]?)->QaO w' A' O' xs frs
 | [],[],_,_=>trivial
 | [],_::_,h,_=>h.elim
 | x::xs,[],h,_=>h.elim
 | x::xs,fr::frs,h,hb=>by
   obtain⟨⟨d,f,i⟩,j,l⟩:=h
   have e:=hb x (by simp);exact⟨⟨d.keep e.1 e.2,b _ (XC d.1) f.1 f.2,fun g a=>b g (d.2.lt a) (i g a).1 (i g a).2⟩,j,QaO.keep b l (fun y m=>hb y (by simp[m]))⟩
theorem QaO.len:∀ {xs:List FB}{frs:List IFr},QaO w A O xs frs->xs.length=frs.length
 | [],[],_=>rfl
 | [],_::_,h=>h.elim
 | x::xs,[],h=>h.elim
 | x::xs,fr::frs,h=>by simp[QaO.len h.2.2]
end
def Imm (A:Nat->Prop) (b:Nat) (x:Nat):Prop:=¬ A x/\x<b
def QkV (w:World) (A:Nat->Prop) (lo:Nat) (x:Nat):Prop:=(¬ A x/\lo<=x)/\∃ c,w.heap[x]?=some (.cells c 2 (0,0))
theorem Zd {α:Type}(L:Lay α){w w':World}{A d:Nat->Prop}{b:Nat}{x:α}(hb:∀ k,¬ A k->k<w.heap.size->w'.heap[k]?=w.heap[k]?) (e:∀ k,¬ A k->k<w.heap.size->¬ d k) (h:L.In w (Imm A b) x cs):L.In w' (Imm d b) x cs:=L.keep (fun k a c=>hb k a.1 c) (fun k a c=>⟨e k a.1 c,a.2⟩) h
theorem Zk {w w':World}{A d:Nat->Prop}{l:List Int}(hb:∀ k,¬ A k->k<w.heap.size->w'.heap[k]?=w.heap[k]?) (f:∀ k,¬ A k->k<w.heap.size->¬ d k) (h:intsL.In w (QkV w A lo) l cs):intsL.In w' (QkV w' d lo) l cs:=intsL.keep (fun k a b=>hb k a.1.1 b) (fun k a b=>⟨⟨f k a.1.1 b,a.1.2⟩,by obtain⟨c,e⟩:=a.2;exact⟨c,(hb k a.1.1 b).trans e⟩⟩) h
structure MG where
 bh:Nat
 O:Nat->Prop
 G:HG
 A:Nat->Prop
 pm:Option Addr
 cm:Nat
 pi:Option Addr
 ci:Nat
 vc:Value
 vb:Value
 vo:Value
 t:FB
 fs:List FB
 lo:Nat
abbrev QlY (most:Nat) (ml:Nat) (M:IM) (sc sa:Int) (g:MG):Array Value :=
 #[.pointer (some ⟨g.bh,0,none⟩),.slice g.pm ml g.cm,.slice g.pi M.inp.length g.ci,.int .i64 most,g.vc,.int .i64 M.fin,g.vb,g.vo,.int .i64 M.fuel,.bool M.done,.int .i64 sc,.int .i64 sa]
abbrev Qaz (l:List FB):List Value:=l.reverse.map fun x=>.pointer (some ⟨x.c,0,none⟩)
structure MAt (w:World) (b:Nat) (most:Nat) (m:List (Qe 6)) (M:IM) (sc sa:Int) (g:MG):Prop where
 box:w.heap[b]?=some (.cells (QlY most m.length M sc sa g) 52 (0,0))
 heap:HIn w g.bh g.O M.h g.G
 mod:(Qam 6).In w (Imm g.A b) m [.slice g.pm m.length g.cm]
 inp:intsL.In w (Imm g.A b) M.inp [.slice g.pi M.inp.length g.ci]
 inpC:M.inp.length<=g.ci
 calls:w.ownsRow 0 84 1 g.vc (M.rest.length+1) (Qaz (g.t::g.fs))
 back:intsL.In w (QkV w g.A g.lo) M.back [g.vb]
 out:w.ownsRow 0 2 1 g.vo M.out.length (M.out.map (Value.int .i64))
 frs:QaO w g.A g.O (g.t::g.fs) (M.top::M.rest)
 ob:g.A b/\¬ g.O b
 oc:∀ x,g.vc.ownBlock=some x->g.A x/\¬ g.O x
 oo:∀ x,g.vo.ownBlock=some x->g.A x/\¬ g.O x
 oa:∀ x,g.O x->g.A x
 lt:∀ x,g.A x->x<w.heap.size
 low:g.lo<=w.heap.size
def XTo (g:MG) (w w':World) (b most:Nat) (m:List (Qe 6)) (M:IM) (sc sa:Int):Prop:=∃ g',MAt w' b most m M sc sa g'/\QN g.A g'.A w w'/\g'.t.c=g.t.c/\g'.fs=g.fs
def XGo (g:MG) (w w':World) (b most:Nat) (m:List (Qe 6)) (M:IM) (sc sa:Int):Prop:=∃ g',MAt w' b most m M sc sa g'/\QN g.A g'.A w w'
section
variable {w w' w2:World}{b most:Nat}{m:List (Qe 6)}{M M':IM}{sc sa:Int}{g g1:MG}
theorem XTo.go (h:XTo g w w' b most m M sc sa):XGo g w w' b most m M sc sa:=by obtain⟨c,a,s,_⟩:=h;exact⟨c,a,s⟩
theorem XTo.then (s:QN g.A g1.A w w') (i:g1.t.c=g.t.c) (e:g1.fs=g.fs) (h:XTo g1 w' w2 b most m M sc sa):XTo g w w2 b most m M sc sa:=by
 obtain⟨f,a,k,j,d⟩:=h
 exact⟨f,a,s.trans k,j.trans i,d.trans e⟩
theorem XGo.then (s:QN g.A g1.A w w') (h:XGo g1 w' w2 b most m M sc sa):XGo g w w2 b most m M sc sa:=by
 obtain⟨c,a,k⟩:=h
 exact⟨c,a,s.trans k⟩
theorem MAt.below (S:MAt w b most m M sc sa g) (k:Below w.heap.size w w'):MAt w' b most m M sc sa g where
 box:=(k.block b (XC S.box)).trans S.box
 heap:=S.heap.below k
 mod:=Ya S.mod k
 inp:=Ya S.inp k
 inpC:=S.inpC
 calls:=QE S.calls (fun x a=>k.block x (S.lt x (S.oc x a).1))
 back:=Zk (fun x _ a=>k.block x a) (fun _ h _=>h) S.back
 out:=QE S.out (fun x a=>k.block x (S.lt x (S.oo x a).1))
 frs:=S.frs.keep (fun _ _ c d=>⟨c,d⟩) (fun y e=>by
  obtain⟨f,c,d,i⟩:=S.frs.mem y e
  exact⟨k.block _ (XC c.1),fun x a=>k.block x (c.2.lt a)⟩)
 ob:=S.ob
 oc:=S.oc
 oo:=S.oo
 oa:=S.oa
 lt:=fun x a=>Zl (S.lt x a) k.size
 low:=Zt S.low k.size
theorem XTo.same (S:MAt w b most m M sc sa g) (k:Below w.heap.size w w'):XTo g w w' b most m M sc sa:=⟨g,S.below k,QN.of_below k (fun _ h=>.inl h),Z,Z⟩
theorem MAt.stepB (S:MAt w b most m M sc sa g) (k:Below w.heap.size w w'):QN g.A g.A w w':=QN.of_below k (fun _ h=>.inl h)
theorem MAt.top (S:MAt w b most m M sc sa g):QcQ w g.t.c M.top g.t.v:=S.frs.1.1
theorem MAt.rows (S:MAt w b most m M sc sa g):g.fs.length=M.rest.length:=by have:=S.frs.len;simpa using this
theorem MAt.toHeap (S:MAt w b most m M sc sa g){h':Qc}(T:HTo w w' g.bh g.O h'):XTo g w w' b most m { M with h:=h' } sc sa:=by
 obtain⟨p,u,s,f,z⟩:=T
 have n:∀ x,x<w.heap.size->¬ g.O x->¬ p x:=fun x a c i=>by rcases f.own x i with e | e;exact c e;omega
 have j:∀ x,x<w.heap.size->¬ g.O x->w'.heap[x]?=w.heap[x]?:=fun x a c=>f.block x a c;have l:∀ x,¬ g.A x->¬ g.O x:=fun x c i=>c (S.oa x i);have q:∀ k,¬ g.A k->k<w.heap.size->¬ (g.A k\/p k):=fun k c i r=>by rcases r with e | e;exact c e;exact n k i (l k c) e
 refine⟨{ g with O:=p,G:=u,A:=fun x=>g.A x\/p x },⟨?_,s,?_,?_,S.inpC,?_,?_,?_,?_,?_,?_,?_,fun x a=>.inr a,?_,Zt S.low f.size⟩,?_,Z,Z⟩
 ·exact(j b (XC S.box) S.ob.2).trans S.box
 ·exact Zd (Qam 6) (fun k d o=>j k o (l k d)) q S.mod
 ·exact Zd intsL (fun k d o=>j k o (l k d)) q S.inp
 ·exact QE S.calls (fun x a=>j x (S.lt x (S.oc x a).1) (S.oc x a).2)
 ·exact Zk (fun k d o=>j k o (l k d)) q S.back
 ·exact QE S.out (fun x a=>j x (S.lt x (S.oo x a).1) (S.oo x a).2)
 ·refine S.frs.keep (fun k d c i=>⟨.inl c,n k d i⟩) (fun y t=>?_);obtain⟨v,c,i,r⟩:=S.frs.mem y t
  exact⟨j _ (XC c.1) i.2,fun x a=>j x (c.2.lt a) (r x a).2⟩
 ·exact⟨.inl S.ob.1,n b (XC S.box) S.ob.2⟩
 ·exact fun x a=>⟨.inl (S.oc x a).1,n x (S.lt x (S.oc x a).1) (S.oc x a).2⟩
 ·exact fun x a=>⟨.inl (S.oo x a).1,n x (S.lt x (S.oo x a).1) (S.oo x a).2⟩
 ·rintro x (a | a)
  ·exact Zl (S.lt x a) f.size
  ·exact s.lt x a
 ·refine⟨f.os,f.tape,f.output,f.size,fun k d c=>j k d (l k c),?_⟩
  rintro k (d | d)
  ·exact .inl d
  ·exact(f.own k d).imp (S.oa k) id
theorem MAt.frNe (S:MAt w b most m M sc sa g){y:FB}(k:y∈g.t::g.fs):y.c≠b/\y.v.ownBlock≠some b/\(∀ x,g.vc.ownBlock=some x->y.c≠x/\y.v.ownBlock≠some x)/\∀ x,g.vo.ownBlock=some x->y.c≠x/\y.v.ownBlock≠some x:=by
 obtain⟨l,h,n,o⟩:=S.frs.mem y k
 have i:∀ {x:Nat},y.v.ownBlock=some x->∃ c,w.heap[x]?=some (.cells c 183 (0,0)):=fun e=>QG h.2 e;refine⟨Q8 h.1 S.box (by decide),fun e=>?_,fun x f=>⟨?_,fun e=>?_⟩,fun x f=>⟨?_,fun e=>?_⟩⟩
 ·obtain⟨c,a⟩:=i e
  exact Q8 a S.box (by decide) Z
 ·obtain⟨c,a⟩:=QG S.calls f
  exact Q8 h.1 a (by decide)
 ·obtain⟨c,a⟩:=i e
  obtain⟨d,j⟩:=QG S.calls f
  exact Q8 a j (by decide) Z
 ·obtain⟨c,a⟩:=QG S.out f
  exact Q8 h.1 a (by decide)
 ·obtain⟨c,a⟩:=i e
  obtain⟨d,j⟩:=QG S.out f
  exact Q8 a j (by decide) Z
theorem MAt.callsNe (S:MAt w b most m M sc sa g)(h:g.vc.ownBlock=some x):x≠b/\g.vo.ownBlock≠some x:=by
 obtain⟨c,a⟩:=QG S.calls h
 refine⟨Q8 a S.box (by decide),fun e=>?_⟩
 obtain⟨d,f⟩:=QG S.out e
 exact Q8 a f (by decide) Z
theorem MAt.outNe (S:MAt w b most m M sc sa g)(d:g.vo.ownBlock=some x):x≠b:=by
 obtain⟨c,a⟩:=QG S.out d
 exact Q8 a S.box (by decide)
theorem MAt.setTop (S:MAt w b most m M sc sa g){fr:IFr}(J:w'.os=w.os) (I:w'.tape=w.tape) (L:w'.output=w.output) (p:w.heap.size<=w'.heap.size)
 (j:∀ k,k<w.heap.size->k≠g.t.c->g.t.v.ownBlock≠some k->w'.heap[k]?=w.heap[k]?) (H:QcQ w' g.t.c fr v) (s:∀ k,v.ownBlock=some k->g.t.v.ownBlock=some k\/w.heap.size<=k):XTo g w w' b most m { M with top:=fr } sc sa:=by
 have o:∀ k,v.ownBlock=some k->k<w.heap.size->g.A k/\¬ g.O k:=fun k d E=>by
  rcases s k d with e | e
  ·exact S.frs.1.2.2 k e
  ·omega
 have D:∀ k,g.O k->k≠g.t.c/\g.t.v.ownBlock≠some k:=fun k d=>⟨fun e=>S.frs.1.2.1.2 (e ▸ d),fun e=>(S.frs.1.2.2 k e).2 d⟩;have u:∀ k,¬ g.A k->k<w.heap.size->¬ (g.A k\/v.ownBlock=some k):=fun k h i G=>by rcases G with e | e;exact h e;exact h (o k e i).1
 have r:∀ k,¬ g.A k->k<w.heap.size->w'.heap[k]?=w.heap[k]?:=fun k h i=>j k i (fun e=>h (e ▸ S.frs.1.2.1.1)) (fun e=>h (S.frs.1.2.2 k e).1);have f:=S.frNe (y:=g.t) (by simp);refine⟨{ g with t:=⟨g.t.c,v⟩,A:=fun x=>g.A x\/v.ownBlock=some x },⟨?_,?_,?_,?_,S.inpC,?_,?_,?_,?_,⟨.inl S.ob.1,S.ob.2⟩,fun x a=>⟨.inl (S.oc x a).1,(S.oc x a).2⟩,fun x a=>⟨.inl (S.oo x a).1,(S.oo x a).2⟩,fun x a=>.inl (S.oa x a),?_,Zt S.low p⟩,?_,Z,Z⟩
 ·exact(j b (XC S.box) (Ne.symm f.1) f.2.1).trans S.box
 ·exact S.heap.keep p (fun x a E=>j x E (D x a).1 (D x a).2)
 ·exact Zd (Qam 6) r u S.mod
 ·exact Zd intsL r u S.inp
 ·have e:Qaz (⟨g.t.c,v⟩::g.fs)=Qaz (g.t::g.fs):=by simp[Qaz]
  show w'.ownsRow 0 _ 1 g.vc _ (Qaz (⟨g.t.c,v⟩::g.fs));rw[e]
  exact QE S.calls (fun x a=>j x (S.lt x (S.oc x a).1) (Ne.symm (f.2.2.1 x a).1) (f.2.2.1 x a).2)
 ·exact Zk r u S.back
 ·exact QE S.out (fun x a=>j x (S.lt x (S.oo x a).1) (Ne.symm (f.2.2.2 x a).1) (f.2.2.2 x a).2)
 ·obtain⟨⟨h,i,G⟩,q,B⟩:=S.frs
  refine⟨⟨H,⟨.inl i.1,i.2⟩,fun k d=>⟨.inr d,fun e=>?_⟩⟩,fun y l=>⟨(q y l).1,fun k d e=>?_⟩,?_⟩
  ·exact(o k d (S.heap.lt k e)).2 e
  ·obtain⟨z,n,N,K⟩:=QaO.mem B y l
   rcases s k d with F | F
   ·exact(q y l).2 k F e
   ·have:=n.2.lt e;omega
  ·refine QaO.keep (fun k d h i=>⟨.inl h,i⟩) B (fun y l=>?_);obtain⟨z,n,N,K⟩:=QaO.mem B y l
   refine⟨j _ (XC n.1) (q y l).1 (fun e=>?_),fun k d=>j k (n.2.lt d) (fun e=>?_) (fun e=>(q y l).2 k e d)⟩
   ·obtain⟨c,C⟩:=QG h.2 e
    exact Q8 C n.1 (by decide) Z
   ·obtain⟨c,C⟩:=QG n.2 d
    subst e;exact Q8 C h.1 (by decide) Z
 ·rintro x (a | a)
  ·exact Zl (S.lt x a) p
  ·exact H.2.lt a
 ·refine⟨J,I,L,p,fun k d h=>r k h d,?_⟩
  rintro k (d | d)
  ·exact .inl d
  ·rcases s k d with e | e
   ·exact .inl (S.frs.1.2.2 k e).1
   ·exact .inr e
theorem MAt.reBox (S:MAt w b most m M sc sa g){sc' sa':Int}(v:w'.os=w.os) (s:w'.tape=w.tape) (B:w'.output=w.output) (j:w.heap.size<=w'.heap.size)
 (d:∀ k,k<w.heap.size->k≠b->w'.heap[k]?=w.heap[k]?) (u:M'.h=M.h/\M'.top=M.top/\M'.rest=M.rest/\M'.out=M.out)   {vb:Value} (o:intsL.In w (Imm g.A b) M'.inp [.slice pi M'.inp.length ci]/\M'.inp.length<=ci) (c:intsL.In w' (QkV w' g.A g.lo) M'.back [vb])
 (hb:w'.heap[b]?=some (.cells (QlY most m.length M' sc' sa' { g with pi:=pi,ci:=ci,vb:=vb }) 52 (0,0))):XTo g w w' b most m M' sc' sa':=by
 have n:∀ k,¬ g.A k->k<w.heap.size->w'.heap[k]?=w.heap[k]?:=fun k i l=>d k l (fun e=>i (e ▸ S.ob.1));obtain⟨t,E,p,D⟩:=u
 refine⟨{ g with pi:=pi,ci:=ci,vb:=vb },⟨hb,?_,?_,?_,o.2,?_,c,?_,?_,S.ob,S.oc,S.oo,S.oa,fun x a=>Zl (S.lt x a) j,Zt S.low j⟩,⟨v,s,B,j,fun k c i=>n k i c,fun k c=>.inl c⟩,Z,Z⟩
 ·rw[t];exact S.heap.keep j (fun x a z=>d x z (fun e=>S.ob.2 (e ▸ a)))
 ·exact Zd (Qam 6) n (fun k h _=>h) S.mod
 ·exact Zd intsL n (fun k h _=>h) o.1
 ·rw[p];exact QE S.calls (fun x a=>d x (S.lt x (S.oc x a).1) (S.callsNe a).1)
 ·rw[D];exact QE S.out (fun x a=>d x (S.lt x (S.oo x a).1) (S.outNe a))
 ·rw[E,p]
  refine S.frs.keep (fun k c i l=>⟨i,l⟩) (fun y r=>?_);obtain⟨C,q,G,F⟩:=S.frs.mem y r
  have f:=S.frNe r;exact⟨d _ (XC q.1) f.1,fun x a=>d x (q.2.lt a) (fun e=>f.2.1 (e ▸ a))⟩
end
theorem Xm:type_of% @Calls.mono:=@Calls.mono
def Qbu (o:Oper):List Tmp:=o.op.operands.toList.filterMap fun | .tmp t=>some t | _=>none
def Ql (l:List Oper):List Tmp:=l.filterMap (·.dst)
def nodupB:List Tmp->Bool
 | []=>true
 | t::r=>!r.contains t&&nodupB r
def onB (gs:List (Nat × Option Bool)) (o:Oper) (b:Bool):Bool :=
 match o.guard with
 | none=>b
 | some (g,want)=>match gs.lookup g with
   | some c=>b==(c==some want)
   | none=>false
def Qfu (gs:List (Nat × Option Bool)):List Oper->List Bool->Bool
 | [],[]=>true
 | o::l,b::bs=>onB gs o b&&Qfu gs l bs
 | _,_=>false
def Qkt (ops:Array Oper) (ds outs:List Tmp) (o:Oper):Bool :=
 (o.looksAt ops).all fun t=>(outs.contains t&&!ds.contains t)||o.after.any fun e=>Region.binds .any e&&((ops[e.on]?).bind (·.dst)==some t)
def Qb5 (i:Nat):List Oper->Bool
 | []=>true
 | o::l=>(o.after.all fun e=>!Region.binds .any e||decide (e.on<i))&&Qb5 (i+1) l
def Qab (l:List Oper) (n:Nat) (outs:List Tmp) (gs:List (Nat × Option Bool)) (bs:List Bool):Bool :=
 (gs.all fun g=>((l.toArray[g.1]?).bind (·.dst)).isSome)&&nodupB (Ql l)&&((Ql l).all fun t=>decide (t<n))&&(l.all (Qkt l.toArray (Ql l) outs))&&Qfu gs l bs&&Qb5 0 l
section
variable {P:Program}(E:Tmp->Value->World->Prop) (W:World->Prop) (R:World->World->Prop)
def EO:Option Tmp->Value->World->Prop
 | some t=>E t
 | none=>fun _ _=>True
def QdP (a:Act) (w:World):List Tmp->Prop
 | []=>True
 | t::r=>E t (a.tmps.getD t undef) w/\QdP a w r
def Qjn (P:Program) (o:Oper):Prop :=
 ∀ a w,W w->QdP E a w (Qbu o)->∀ K:Act->World->Prop,(∀ v w',R w w'->W w'->EO E o.dst v w'->K (a.put o.dst v) w')->o.wp P a w K (fun _ _ _=>False)
def QgV (o:Oper):Prop:=∀ w,W w->EO E o.dst undef w
def Qds (P:Program):List Oper->List Bool->Prop
 | o::l,true::bs=>Qjn E W R P o/\Qds P l bs
 | o::l,false::bs=>QgV E W o/\Qds P l bs
 | _,_=>True
def QaZ (ops:Array Oper):List (Nat × Option Bool)->Prop
 | []=>True
 | (g,c)::r=>(∀ t,(ops[g]?).bind (·.dst)=some t->∀ v w,W w->E t v w->match c with | some b=>v=.bool b | none=>v=undef)/\QaZ ops r
def QaR (a:Act) (w:World):List Tmp->Prop
 | []=>True
 | t::r=>E t (a.tmps.getD t undef) w/\QaR a w r
def QT (a:Act) (vs:Tmp->Value):List Tmp->Act
 | []=>a
 | t::r=>QT (a.put (some t) (vs t)) vs r
end
theorem wpq {P:Program}{o:Oper}{a:Act}{K d:Act->World->Prop}(h:∀ a w,K a w->d a w)
 (c:o.wp P a w K (fun _ _ _=>False)):o.wp P a w d Q:=by
 unfold Oper.wp at *;generalize (execOp a.eval o).run P w=r at *
 cases r with
 | ok n w' =>
   cases n<;>simp only[Oper.upon] at c |- <;>
    first
     | exact h _ _ c
     | exact Xm c (fun e f b=>by cases e<;>first | exact h _ _ b | exact b.elim | (obtain⟨_,_,b⟩:=b;exact b.elim))
     | exact Rows.mono c (fun _ _ b=>h _ _ b)
 | halt x w'=>cases x<;>simp only[Oper.upon] at c |-
theorem ZN (b:Tmp->Value):∀ (ds:List Tmp) (a:Act),(QT a b ds).defers=a.defers
 | [],_=>rfl
 | _::r,a=>by rw[QT,ZN b r];rfl
theorem Qaa (b:Tmp->Value):∀ (ds:List Tmp) (a:Act),(QT a b ds).tmps.size=a.tmps.size
 | [],_=>rfl
 | _::r,a=>by rw[QT,Qaa b r];simp[Act.put]
theorem Qbf (c:Tmp->Value):∀ (ds:List Tmp) (a:Act) (t:Nat),t<a.tmps.size->(QT a c ds).tmps[t]?=if t∈ds then some (c t) else a.tmps[t]?
 | [],_,_,_=>by simp[QT]
 | d::r,a,t,ht=>by
   rw[QT,Qbf c r _ t (by simpa[Act.put] using ht)]
   by_cases f:t∈r
   ·simp[f]
   ·by_cases b:d=t
    ·subst b;simp[f,Act.put,ht]
    ·have:t≠d:=fun e=>b e.symm
     simp[f,this,Act.put,b]
theorem nodup_apart:∀ (l:List Oper) (i j:Nat) (oi oj:Oper) (t:Tmp),nodupB (Ql l)=true->l[i]?=some oi->l[j]?=some oj->oi.dst=some t->oj.dst=some t->i=j
 | [],_,_,_,_,_,_,hi,_,_,_=>by simp at hi
 | o::l,i,j,oi,oj,t,h,hi,hj,di,dj=>by
   have f:∀ {k:Nat} {b:Oper},l[k]?=some b->b.dst=some t->t∈Ql l:=fun {k b} n a=>List.mem_filterMap.2 ⟨b,Zm n,a⟩
   have m:nodupB (Ql l)=true:=by
    unfold Ql at h |-
    cases a:o.dst with
    | none=>simpa[List.filterMap_cons,a] using h
    | some d=>simp[a,nodupB] at h;exact h.2
   have c:o.dst=some t->t ∉ Ql l:=fun a=>by
    unfold Ql at h |-;simp only[List.filterMap_cons,a,nodupB,Bool.and_eq_true,Bool.not_eq_true'] at h
    intro e
    have:=h.1
    simp at this
    simp at e
    obtain⟨x,c,g⟩:=e
    exact this x c g
   cases i with
   | zero =>
     cases j with
     | zero=>rfl
     | succ j=>simp at hi hj;subst hi;exact absurd (f hj dj) (c di)
   | succ i =>
     cases j with
     | zero=>simp at hi hj;subst hj;exact absurd (f hi di) (c dj)
     | succ j=>simp at hi hj;rw[nodup_apart l i j oi oj t m hi hj di dj]
section
variable {P:Program}{E:Tmp->Value->World->Prop}{W:World->Prop}{R:World->World->Prop}
theorem Qcd {a:Act}{w:World}:∀ (l:List Tmp),(∀ t∈l,E t (a.tmps.getD t undef) w)->QdP E a w l
 | [],_=>trivial
 | t::r,h=>⟨h t (by simp),Qcd r fun x b=>h x (by simp[b])⟩
theorem QaI {a:Act}{w:World}:∀ (l:List Tmp),QaR E a w l->∀ t∈l,E t (a.tmps.getD t undef) w
 | [],_,_,h=>by simp at h
 | x::r,h,t,b=>by
   rcases List.mem_cons.1 b with rfl | b
   ·exact h.1
   ·exact QaI r h.2 t b
theorem Qd2 {a:Array Oper}:∀ (gs:List (Nat × Option Bool)),QaZ E W a gs->∀ g c,gs.lookup g=some c->∀ t,(a[g]?).bind (·.dst)=some t->∀ v w,W w->E t v w->match c with | some b=>v=.bool b | none=>v=undef
 | [],_,_,_,h=>by simp at h
 | (g',c')::r,h,g,c,hl=>by
   by_cases e:g=g'
   ·subst e;simp at hl;subst hl;exact h.1
   ·have d:(g==g')=false:=by simpa using e
    simp[List.lookup_cons,d] at hl;exact Qd2 r h.2 g c hl
theorem mem_of_lookup:∀ (gs:List (Nat × Option Bool)) (g:Nat) (c:Option Bool),gs.lookup g=some c->(g,c)∈gs
 | [],_,_,h=>by simp at h
 | (g',c')::r,g,c,hl=>by
   by_cases e:g=g'
   ·subst e;simp at hl;subst hl;simp
   ·have a:(g==g')=false:=by simpa using e
    simp[List.lookup_cons,a] at hl;exact List.mem_cons_of_mem _ (mem_of_lookup r g c hl)
theorem filter_set:∀ (l:List Bool) (i:Nat) (h:i<l.length),l[i]=false->((l.set i true).filter (·==false)).length+1=(l.filter (·==false)).length
 | [],_,h,_=>by simp at h
 | x::l,0,_,h=>by simp at h;subst h;simp
 | x::l,i+1,hi,h=>by
   simp at h hi
   have:=filter_set l i hi h
   cases x<;>simp at this |-<;>omega
theorem QgH (gs:List (Nat × Option Bool)):∀ (l:List Oper) (bs:List Bool),Qfu gs l bs=true->Qds E W R P l bs->∀ (i:Nat) (o:Oper),l[i]?=some o->(onB gs o true=true/\Qjn E W R P o)\/(onB gs o false=true/\QgV E W o)
 | [],_,_,_,_,_,h=>by simp at h
 | _::_,[],h,_,_,_,_=>by simp[Qfu] at h
 | x::l,b::bs,h,ha,i,o,ho=>by
   simp only[Qfu,Bool.and_eq_true] at h
   cases i with
   | zero =>
     simp at ho;subst ho
     cases b with
     | true=>exact .inl ⟨h.1,ha.1⟩
     | false=>exact .inr ⟨h.1,ha.1⟩
   | succ i =>
     simp at ho
     cases b with
     | true=>exact QgH gs l bs h.2 ha.2 i o ho
     | false=>exact QgH gs l bs h.2 ha.2 i o ho
theorem back_at:∀ (l:List Oper) (k i:Nat) (o:Oper),Qb5 k l=true->l[i]?=some o->∀ e∈o.after,Region.binds .any e=true->e.on<k+i
 | [],_,_,_,_,h=>by simp at h
 | x::l,k,i,o,h,ho=>by
   simp only[Qb5,Bool.and_eq_true] at h
   cases i with
   | zero =>
     simp at ho;subst ho
     intro e b a
     have:=Array.all_eq_true_iff_forall_mem.1 h.1 e b
     simpa[a] using this
   | succ i =>
     simp at ho
     intro e b a
     have:=back_at l (k+1) i o h.2 ho e b a
     omega
structure QlI (E:Tmp->Value->World->Prop) (W:World->Prop) (l:List Oper) (outs:List Tmp) (a0:Act) (listed:Array Bool) (a:Act) (w:World):Prop where
 world:W w
 defers:a.defers=a0.defers
 size:a.tmps.size=a0.tmps.size
 outer:∀ t,t ∉ Ql l->a.tmps[t]?=a0.tmps[t]?
 outs:∀ t∈outs,t ∉ Ql l->E t (a.tmps.getD t undef) w
 known:∀ j o t,l[j]?=some o->o.dst=some t->listed.getD j false=true->E t (a.tmps.getD t undef) w
theorem QbW {outs:List Tmp}{gs:List (Nat × Option Bool)}{a0:Act}
 (hB:Qab l a0.tmps.size outs gs bs=true) (hR:∀ t v w w',R w w'->E t v w->E t v w') (hG:QaZ E W l.toArray gs) (hA:Qds E W R P l bs)
 (aa:∀ (vs:Tmp->Value) w',W w'->(∀ t,(Ql l).contains t=true->E t (vs t) w')->Q .normal (QT a0 vs (Ql l)) w') :
 ∀ (fuel:Nat) (listed:Array Bool) (a:Act) (w:World),listed.size=l.length->(listed.toList.filter (·==false)).length<=fuel->QlI E W l outs a0 listed a w ->
  wpAny P .any l.toArray Q fuel listed a w:=by
 simp only[Qab,Bool.and_eq_true] at hB
 obtain⟨⟨⟨⟨⟨aq,au⟩,M⟩,ai⟩,aj⟩,aw⟩:=hB
 have ag:∀ (listed:Array Bool) (a:Act) (w:World),listed.size=l.length->Region.ready .any l.toArray listed=[]->QlI E W l outs a0 listed a w->Q .normal a w:=by
  intro listed a w U J f
  have ah:∀ j,j<l.length->listed.getD j false=true:=by
   intro j
   induction j using Nat.strongRecOn with
   | _ j ih =>
     intro z
     cases r:listed.getD j false with
     | true=>rfl
     | false =>
       exfalso
       have:j∈Region.ready .any l.toArray listed:=by
        unfold Region.ready;refine List.mem_filter.2 ⟨by simpa using z,?_⟩
        have V:listed.getD j true=false:=by
         have ao:j<listed.size:=by omega
         simp[Array.getD,ao] at r |-;exact r
        have T:l.toArray[j]?=some l[j]:=by simp[z]
        rw[V,T]
        simp only[Bool.not_false,Bool.true_and,Option.map_some,Option.getD_some]
        rw[Array.all_eq_true_iff_forall_mem]
        intro e he
        cases hbd:Region.binds .any e with
        | false=>rfl
        | true =>
          have:=back_at l 0 j l[j] aw (by simp[z]) e he hbd
          simp only[Bool.not_true,Bool.false_or]
          exact ih e.on (by omega) (by omega)
       rw[J] at this
       cases this
  have X:∀ t∈Ql l,E t (a.tmps.getD t undef) w/\t<a0.tmps.size:=by
   intro t n;obtain⟨o,ho,s⟩:=List.mem_filterMap.1 n
   obtain⟨j,z⟩:=List.getElem?_of_mem ho
   have A:j<l.length:=by
    rcases Nat.lt_or_ge j l.length with h | h
    ·exact h
    ·rw[Xk h] at z;cases z
   exact⟨f.known j o t z s (ah j A),by simpa using Xe.1 M t n⟩
  have he:a=QT a0 (fun t=>a.tmps.getD t undef) (Ql l):=by
   have V:a.tmps=(QT a0 (fun t=>a.tmps.getD t undef) (Ql l)).tmps:=by
    refine Array.ext (by rw[Qaa,f.size]) fun t N S=>?_;have h3:t<a0.tmps.size:=by rw[<-f.size];exact N
    have:=Qbf (fun t=>a.tmps.getD t undef) (Ql l) a0 t h3
    rw[Xj S] at this
    by_cases hm:t∈Ql l
    ·rw[Xs hm] at this
     simp only[Option.some.injEq] at this
     rw[this];simp[Array.getD,N]
    ·rw[Xr hm,<-f.outer t hm,Xj N] at this
     exact(Xn this).symm
   have T:a.defers=(QT a0 (fun t=>a.tmps.getD t undef) (Ql l)).defers:=by rw[ZN,f.defers]
   cases a with
   | mk t d =>
     simp only at V T
     generalize hp:QT a0 (fun x=>t.getD x undef) (Ql l)=p at V T |-
     cases p;simp only at V T;rw[V,T]
  rw[he]
  exact aa _ _ f.world fun t n=>(X t (by simpa using n)).1
 intro fuel
 induction fuel with
 | zero =>
   intro listed a w U hf f
   have J:Region.ready .any l.toArray listed=[]:=by
    rw[List.eq_nil_iff_forall_not_mem]
    intro i hi;obtain⟨N,S⟩:=List.mem_filter.1 hi
    have A:i<l.length:=by simpa using N
    simp only[Bool.and_eq_true,Bool.not_eq_true'] at S
    have:listed[i]'(by omega)=false:=by
     have:=S.1;simp[Array.getD,show i<listed.size by omega] at this;exact this
    have hm:false∈listed.toList.filter (·==false):=List.mem_filter.2 ⟨by rw[<-this];simp,by simp⟩
    have:=List.length_pos_of_mem hm
    omega
   exact⟨J,ag listed a w U J f⟩
 | succ fuel ih =>
   intro listed a w U hf f;refine⟨fun J=>ag listed a w U J f,fun i hi=>?_⟩
   obtain⟨N,S⟩:=List.mem_filter.1 hi
   have A:i<l.length:=by simpa using N
   simp only[Bool.and_eq_true,Bool.not_eq_true'] at S
   obtain⟨af,m⟩:=S
   have ab:i<listed.size:=by omega
   have ac:listed[i]=false:=by simp[Array.getD,ab] at af;exact af
   have ho:l.toArray[i]?=some l[i]:=by simp[A]
   have q:l[i]?=some l[i]:=by simp[A]
   generalize ay:l[i]=o at ho q;rw[ho] at m
   simp only[Option.map_some,Option.getD_some] at m
   rw[Array.all_eq_true_iff_forall_mem] at m
   have u:∀ t∈o.looksAt l.toArray,E t (a.tmps.getD t undef) w:=by
    intro t n
    have:=Xe.1 (Xe.1 ai o (Zm q)) t n
    rw[Bool.or_eq_true] at this
    rcases this with h | h
    ·simp only[Bool.and_eq_true,Bool.not_eq_true'] at h
     exact f.outs t (by simpa using h.1) (by simpa using h.2)
    ·obtain⟨k,hk,h⟩:=Array.any_eq_true.1 h
     simp only[Bool.and_eq_true,beq_iff_eq] at h
     obtain⟨r,s⟩:=h
     have H:=m _ (Array.getElem_mem hk);rw[r] at H
     simp only[Bool.not_true,Bool.false_or] at H
     generalize o.after[k]=e at *;obtain⟨oj,ap,av⟩:=Option.bind_eq_some_iff.1 s
     exact f.known e.on oj t (by simpa using ap) av H
   have al:QdP E a w (Qbu o):=Qcd _ fun t n=>u t (by
    unfold Oper.looksAt;exact List.mem_append_left _ n)
   have hw:∀ b,onB gs o b=true->Region.wanted o (yielded l.toArray a.tmps)=b:=by
    intro b r;unfold onB at r;unfold Region.wanted
    cases hg:o.guard with
    | none=>rw[hg] at r;simp only at r |-;exact r.symm
    | some gw =>
      obtain⟨g,ax⟩:=gw
      rw[hg] at r
      simp only at r |-
      cases H:gs.lookup g with
      | none=>rw[H] at r;cases r
      | some c =>
        rw[H] at r
        simp only[beq_iff_eq] at r
        have hy:yielded l.toArray a.tmps g=c:=by
         unfold yielded;have an:(g,c)∈gs:=mem_of_lookup gs g c H;have D:=Xe.1 aq _ an
         cases s:(l.toArray[g]?).bind (·.dst) with
         | none=>rw[s] at D;cases D
         | some t =>
           have hE:=u t (by unfold Oper.looksAt;rw[hg];simp only[s];simp);have F:=Qd2 gs hG g c H t s _ _ f.world hE;obtain⟨og,ar,ak⟩:=Option.bind_eq_some_iff.1 s
           have L:t<a.tmps.size:=by
            rw[f.size]
            have:=Xe.1 M t (List.mem_filterMap.2 ⟨og,Zm (by simpa using ar),ak⟩)
            simpa using this
           have n:a.tmps[t]?=some (a.tmps.getD t undef):=by simp[Array.getD,L]
           simp only[Option.bind_some,n]
           cases c with
           | none=>simp only at F;rw[F];rfl
           | some b=>simp only at F;rw[F]
        rw[hy,r]
   have G:((listed.setIfInBounds i true).toList.filter (·==false)).length<=fuel:=by
    have h3:=filter_set listed.toList i (by simpa using ab) (by simpa using ac);rw[Array.toList_setIfInBounds]
    omega
   have I:∀ v w',W w'->(∀ t v,E t v w->E t v w')->EO E o.dst v w'->QlI E W l outs a0 (listed.setIfInBounds i true) (a.put o.dst v) w':=by
    intro v w' K y F
    have B:∀ t,o.dst≠some t->(a.put o.dst v).tmps[t]?=a.tmps[t]?:=by
     intro t n
     cases s:o.dst with
     | none=>rfl
     | some d =>
       have:d≠t:=fun e=>n (by rw[s,e])
       simp[Act.put,this]
    have C:∀ (b c:Array Value) (t:Nat),b[t]?=c[t]?->b.getD t undef=c.getD t undef:=by
     intro b c t h;rw[Za,Za,h]
    refine⟨K,?_,?_,?_,?_,?_⟩
    ·rw[<-f.defers];cases o.dst<;>rfl
    ·rw[<-f.size];cases o.dst<;>simp[Act.put]
    ·intro t n;rw[B t (fun e=>n (List.mem_filterMap.2 ⟨o,Zm q,e⟩)),f.outer t n]
    ·intro t n hn;rw[C _ _ t (B t (fun e=>hn (List.mem_filterMap.2 ⟨o,Zm q,e⟩)))]
     exact y _ _ (f.outs t n hn)
    ·intro j oj t z s ae;by_cases O:j=i
     ·subst O;rw[q] at z
      obtain rfl:=Xn z
      have L:t<a.tmps.size:=by
       rw[f.size]
       have:=Xe.1 M t (List.mem_filterMap.2 ⟨o,Zm q,s⟩)
       simpa using this
      rw[s] at F |-
      have:(a.put (some t) v).tmps.getD t undef=v:=by simp[Act.put,Array.getD,L]
      rw[this];exact F
     ·have am:o.dst≠some t:=fun e=>O (nodup_apart l j i oj o t au z q s e);rw[C _ _ t (B t am)]
      refine y _ _ (f.known j oj t z s ?_);have ad:i≠j:=fun e=>O e.symm;rw[Za,Array.getElem?_setIfInBounds_ne ad] at ae
      rw[Za];exact ae
   unfold wpOp;rw[ho]
   simp only
   rcases QgH gs l bs aj hA i o q with ⟨h,y⟩|⟨h,y⟩
   ·rw[hw true h,Xs Z]
    refine .inl (wpq (fun a' w' hh=>hh) (y a w f.world al _ fun v w' J K F=>?_));exact ih _ _ _ (by simpa using U) G (I v w' K (fun t v he=>hR t v w w' J he) F)
   ·rw[hw false h]
    simp only[Bool.false_eq_true,if_false]
    exact ih _ _ _ (by simpa using U) G (I undef w f.world (fun _ _ h=>h) (y w f.world))
theorem Z7 {outs:List Tmp}{gs:List (Nat × Option Bool)}(h:n<=m) (b:Qab l n outs gs bs=true):Qab l m outs gs bs=true:=by
 simp only[Qab,Bool.and_eq_true] at b |-
 obtain⟨⟨⟨⟨⟨i,e⟩,a⟩,f⟩,g⟩,k⟩:=b
 refine⟨⟨⟨⟨⟨i,e⟩,?_⟩,f⟩,g⟩,k⟩
 rw[Xe] at a |-
 intro t d;have j:t<n:=by simpa using a t d
 have c:t<m:=Zl j h;simpa using c
theorem Zw {outs:List Tmp}{gs:List (Nat × Option Bool)}{a:Act}
 (E:Tmp->Value->World->Prop) (W:World->Prop) (R:World->World->Prop)
 (i:P.follows .mixedOrders=true)  (hn:a.tmps.size=m) (c:n<=m) (q:Qab l n outs gs bs=true)
 (e:∀ t v w w',R w w'->E t v w->E t v w') (f:QaZ E W l.toArray gs) (g:W w.drew) (d:QaR E a w.drew outs)
 (k:Qds E W R P l bs)
 (b:∀ (vs:Tmp->Value) w',W w'->(∀ t,(Ql l).contains t=true->E t (vs t) w')->Q .normal (QT a vs (Ql l)) w') :
 (Code.region id l.toArray true).wp P Q a w:=by
 refine wp_region_any i ?_;refine QbW (Z7 (hn ▸ c) q) e f k b _ _ _ _ (by simp) ?_ ⟨g,Z,Z,fun _ _=>rfl,fun t h _=>QaI outs d t h,?_⟩
 ·simp only[Array.toList_replicate]
  exact Zt (List.length_filter_le _ _) (by simp)
 ·intro j o t s r p;simp[Array.getD] at p
end
structure Fr (n:Nat) (a:Act) (L:List (Tmp × Value)):Prop where
 size:a.tmps.size=n
 defers:a.defers=[]
 sl:∀ t v,L.lookup t=some v->a.tmps.getD t undef=v
section
variable {P:Program}{n:Nat}{a:Act}{L:List (Tmp × Value)}{w w':World}{Q:Exit->Act->World->Prop}{ops:Array Oper}{o:Oper}{rest:List Oper}{t:Tmp}{v:Value}
theorem Fr.put (h:Fr n a L) (f:Nat.blt t n=true):Fr n (a.put (some t) v) ((t,v)::L):=by
 have c:t<n:=by simpa[Nat.blt,Nat.ble_eq,Nat.succ_le_iff] using f
 refine⟨by simpa[Act.put] using h.size,h.defers,fun s u b=>?_⟩
 by_cases e:s=t
 ·subst e;simp at b
  subst b
  have:s<a.tmps.size:=by rw[h.size];exact c
  simp[Act.put,Array.getD,this]
 ·have g:(s==t)=false:=by simpa using e
  simp only[List.lookup_cons,g] at b
  have:=h.sl s u b
  have d:t≠s:=fun x=>e x.symm;rw[Za] at this |-
  simp only[Act.put]
  rw[Array.getElem?_setIfInBounds_ne d]
  exact this
theorem Fr.cons (h:Fr n a L) (e:a.tmps.getD t undef=v):Fr n a ((t,v)::L):=by
 refine⟨h.size,h.defers,fun s u b=>?_⟩
 by_cases d:s=t
 ·subst d;simp at b
  subst b;exact e
 ·have c:(s==t)=false:=by simpa using d
  simp only[List.lookup_cons,c] at b
  exact h.sl s u b
theorem Fr.nil (h:Fr n a L):Fr n a []:=⟨h.size,h.defers,fun s u b=>by simp at b⟩
theorem Fr.keep {b:List (Tmp × Value)}(h:Fr n a L) (k:Fr n a b) (e:L.lookup t=some v):Fr n a ((t,v)::b):=k.cons (h.sl t v e)
theorem Qap (h:∀ ops:Array Oper,(∀ g:Nat,(ops[g]?).bind (fun o:Oper=>o.dst)=(l[g]?).bind (fun o:Oper=>o.dst))->wpList P ops Q l a w):(Code.region id l.toArray false).wp P Q a w :=
 wp_region_lit (h _ fun g=>by simp)
theorem Q9 (e:Fr n a L) (f:o.dst=some t) (b:o.guard=none) (d:Nat.blt t n=true)
 (h:∀ K:Act->World->Prop,K (a.put (some t) v) w'->o.wp P a w K Q)
 (k:∀ a',Fr n a' ((t,v)::L)->wpList P ops Q rest a' w'):wpList P ops Q (o::rest) a w :=
 wpList_plain b fun K c=>h K (c _ _ (k _ (e.put d)))
theorem QdG (d:Fr n a L) (e:o.dst=none) (b:o.guard=none)
 (h:∀ K:Act->World->Prop,K a w'->o.wp P a w K Q)
 (k:wpList P ops Q rest a w'):wpList P ops Q (o::rest) a w :=
 wpList_plain b fun K c=>h K (c _ _ k)
theorem QfJ {d:Nat}{c:Bool}(h:Fr n a L) (i:o.guard=some (g,c)) (l:(ops[g]?).bind (fun o:Oper=>o.dst)=some d) (f:Nat.blt d n=true) (k:L.lookup d=some u) :
 Region.wanted o (yielded ops a.tmps)=(match u with | .bool b=>b==c | _=>false):=by
 have e:d<a.tmps.size:=by rw[h.size];simpa[Nat.blt,Nat.ble_eq,Nat.succ_le_iff] using f
 have:=h.sl d u k
 have j:a.tmps[d]?=some u:=by rw[<-this];simp[Array.getD,e]
 simp only[Region.wanted,i,yielded,l,Option.bind_some,j]
 cases u<;>simp
theorem Qk4 {e:Nat}{c:Bool}(f:Fr n a L) (m:o.dst=some t) (h:o.guard=some (g,c)) (q:(ops[g]?).bind (fun o:Oper=>o.dst)=some e) (d:Nat.blt e n=true) (p:L.lookup e=some u) (j:(match u with | .bool b=>b==c | _=>false)=false) (l:Nat.blt t n=true)
 (k:∀ a',Fr n a' ((t,undef)::L)->wpList P ops Q rest a' w):wpList P ops Q (o::rest) a w :=
 wpList_step fun K i=>by
  rw[QfJ f h q d p,j]
  simp only[Bool.false_eq_true,if_false,m]
  exact i _ _ (k _ (f.put l))
theorem QR {x y:Code}{b:Bool}(f:Fr n a L) (c:L.lookup t=some (.bool b)) (e:b=true->x.wp P Q a w) (d:b=false->y.wp P Q a w):(Code.cond (.tmp t) x y).wp P Q a w :=
 wp_cond_split (f.sl t _ c) e d
theorem Qhg {x y:Code}(c:Fr n a L) (b:L.lookup t=some (.bool true)) (h:x.wp P Q a w):(Code.cond (.tmp t) x y).wp P Q a w:=wp_cond_true (c.sl t _ b) h
theorem Qiv {x y:Code}(c:Fr n a L) (b:L.lookup t=some (.bool false)) (h:y.wp P Q a w):(Code.cond (.tmp t) x y).wp P Q a w:=wp_cond_false (c.sl t _ b) h
theorem Qg {K:Act->World->Prop}(h:Q .ret a w):Exit.then K Q .ret a w:=h
theorem Qd (h:Q .ret a w):Exit.inBlock id Q .ret a w:=h
open Classical in
theorem Qay {c:Code}(I:Nat->Act->World->Prop) (q:Nat) (m:I q a w)
 (d:∀ q a w,I q a w->∀ K:Act->World->Prop,(∀ a' w' q',q'<q->I q' a' w'->K a' w')->c.wp P (Exit.then K Q) a w):(Code.loop c).wp P Q a w:=by
 have b:∀ {a w},(∃ q,I q a w)->∃ q,I q a w/\∀ r,I r a w->q<=r:=by
  rintro a w ⟨q,o⟩
  induction q using Nat.strongRecOn with
  | _ q ih =>
    by_cases l:∃ r,r<q/\I r a w
    ·obtain⟨r,g,p⟩:=l
     exact ih r g p
    ·exact⟨q,o,fun r g=>Xo fun h=>l ⟨r,h,g⟩⟩
 refine wp_loop (fun a w=>∃ q,I q a w) (fun a w=>if h:∃ q,I q a w then Classical.choose (b h) else 0) ⟨q,m⟩ fun a w j=>?_;have n:=Classical.choose_spec (b j);refine d _ a w n.1 _ fun a' w' q' f e=>⟨⟨q',e⟩,?_⟩;have k:∃ q,I q a' w':=⟨q',e⟩;have i:=Classical.choose_spec (b k);rw[dif_pos k,dif_pos j]
 exact Nat.lt_of_le_of_lt (i.2 q' e) f
theorem Qv {f:FuncId}{fn:Func}{c:Code}{args:Array Value}{R:Ending->World->Prop}(m:P.funcs[f]?=some fn) (hb:fn.body=some c) (hn:fn.ntmps=n) (i:Nat.ble args.size n=true)
 (h:∀ a,Fr n a (args.toList.zipIdx.map fun x=>(x.2,x.1))->c.wp P (bodyPost P fn R) a w):Calls P f args w R:=by
 have g:args.size<=n:=by simpa[Nat.ble_eq] using i
 refine calls_of_wp m hb (h _ ⟨by simp[hn];omega,Z,fun t v o=>?_⟩)
 have:∀ (l:List Value) (k t:Nat),((l.zipIdx k).map fun x=>(x.2,x.1)).lookup t=some v->k<=t/\l[t - k]?=some v:=by
  intro l
  induction l with
  | nil=>intro k t h;simp at h
  | cons x l ih =>
    intro k t h;by_cases e:t=k
    ·subst e;simp at h;subst h;simp
    ·have j:(t==k)=false:=by simpa using e
     simp only[List.zipIdx_cons,List.map_cons,List.lookup_cons,j] at h
     obtain⟨p,b⟩:=ih (k+1) t h
     refine⟨by omega,?_⟩
     have:t - k=(t - (k+1))+1:=by omega
     rw[this]
     simpa using b
 obtain⟨_,b⟩:=this _ 0 t o
 simp at b
 have d:t<args.size:=(Array.getElem?_eq_some_iff.1 b).1;rw[Za,Array.getElem?_append_left d,b]
 rfl
end
section
variable {P:Program}{Q:Exit->Act->World->Prop}
theorem QjS {o:Oper}{a:Act}{K N:Act->World->Prop}(h:o.wp P a w K (Exit.then N Q)):o.wp P a w K Q:=by
 unfold Oper.wp at *;generalize (execOp a.eval o).run P w=r at *
 cases r with
 | ok n w'=>cases n<;>exact h
 | halt x w'=>cases x<;>exact h
def Qbg (n:Nat) (l:List Oper):Bool:=l.all fun o=>match o.guard with | some (g,_)=>decide (g<n) | none=>true
theorem ZJ {b:Array Oper}{a:Array Bool}:i∈Region.ready .any b a↔i<b.size/\a.getD i true=false/\∃ o,b[i]?=some o/\∀ e∈o.after,Region.binds .any e=true->a.getD e.on false=true:=by
 unfold Region.ready;rw[List.mem_filter]
 simp only[List.mem_range,Bool.and_eq_true,Bool.not_eq_true']
 refine and_congr_right fun c=>and_congr_right fun f=>?_;rw[Xj c]
 simp only[Option.map_some,Option.getD_some,Option.some.injEq,exists_eq_left']
 rw[Array.all_eq_true_iff_forall_mem]
 refine forall_congr' fun e=>forall_congr' fun d=>?_
 cases Region.binds .any e<;>simp
end
section
variable {P:Program}{Q:Exit->Act->World->Prop}
def Qbt (all:List Oper):Nat->Oper->Nat->Bool
 | 0,_,_=>false
 | f+1,o,j=>o.after.any fun e=>Region.binds .any e&&(e.on==j||(match all[e.on]? with | some o'=>Qbt all f o' j | none=>false))
def QaQ (all:List Oper) (k:Nat):List Oper->Bool
 | []=>true
 | o::l=>((List.range k).all fun j=>Qbt all 24 o j)&&QaQ all (k+1) l
theorem QaU {all:List Oper}{j:Nat}{S:Nat->Prop}(c:∀ (q:Nat) (o':Oper),all[q]?=some o'->S q->∀ e∈o'.after,Region.binds .any e=true->S e.on):∀ (f:Nat) (o:Oper),Qbt all f o j=true->(∀ e∈o.after,Region.binds .any e=true->S e.on)->S j
 | 0,_,h,_=>by simp[Qbt] at h
 | f+1,o,h,hS=>by
   simp only[Qbt] at h
   obtain⟨q,i,b⟩:=Array.any_eq_true.1 h
   rw[Bool.and_eq_true,Bool.or_eq_true] at b
   have g:=Array.getElem_mem i;generalize o.after[q]=d at b g;rcases b.2 with a | a
   ·have:=hS d g b.1
    rwa [beq_iff_eq.1 a] at this
   ·cases ho':all[d.on]? with
    | none=>rw[ho'] at a;simp at a
    | some o' =>
      rw[ho'] at a
      exact QaU c f o' a (c _ o' ho' (hS d g b.1))
theorem QdD (all:List Oper):∀ (l:List Oper) (k i:Nat) (o:Oper),QaQ all k l=true->l[i]?=some o->∀ j,j<k+i->∀ S:Nat->Prop,
 (∀ (q:Nat) (o':Oper),all[q]?=some o'->S q->∀ e∈o'.after,Region.binds .any e=true->S e.on)->(∀ e∈o.after,Region.binds .any e=true->S e.on)->S j
 | [],_,_,_,_,h=>by simp at h
 | x::l,k,0,o,h,ho=>by
   simp at ho;subst ho
   simp only[QaQ,Bool.and_eq_true] at h
   intro j b S a c;exact QaU a 24 x (Xe.1 h.1 j (by simpa using b)) c
 | x::l,k,i+1,o,h,ho=>by
   simp only[QaQ,Bool.and_eq_true] at h
   simp at ho
   intro j b;exact QdD all l (k+1) i o h.2 ho j (by omega)
theorem Qf4 (hb:Qb5 0 l=true){k0:Nat}(K:QaQ l k0 (l.drop k0)=true):∀ (m k fuel:Nat) (listed:Array Bool) (a:Act) (w:World),k+m=l.length->k0<=k->m<=fuel->listed.size=l.length ->
 (∀ j,j<l.length->listed.getD j false=decide (j<k))->wpList P l.toArray Q (l.drop k) a w->wpAny P .any l.toArray Q fuel listed a w:=by
 intro m
 induction m with
 | zero =>
   intro k fuel listed a w L _ _ I c h
   have v:Region.ready .any l.toArray listed=[]:=by
    rw[List.eq_nil_iff_forall_not_mem]
    intro i r;obtain⟨H,s,_⟩:=ZJ.1 r
    have g:i<l.length:=by simpa using H
    have:=c i g
    have U:decide (i<k)=true:=by simp;omega
    rw[U] at this
    have p:i<listed.size:=by omega
    simp[Array.getD,p] at this s
    rw[this] at s;cases s
   have t:Q .normal a w:=by
    rw[List.drop_of_length_le (by omega)] at h
    exact h
   cases fuel with
   | zero=>exact⟨v,t⟩
   | succ fuel=>exact⟨fun _=>t,fun i r=>by rw[v] at r;cases r⟩
 | succ m ih =>
   intro k fuel listed a w L N hf I c h;have b:k<l.length:=by omega
   obtain⟨fuel,rfl⟩:∃ f,fuel=f+1:=⟨fuel - 1,by omega⟩
   have u:k<listed.size:=by omega
   have B:k∈Region.ready .any l.toArray listed:=by
    refine ZJ.2 ⟨by simpa using b,?_,l[k],by simp[b],fun e F n=>?_⟩
    ·have:=c k b
     simp[Array.getD,u] at this |-;exact this
    ·have:=back_at l 0 k l[k] hb (by simp[b]) e F n
     rw[c _ (by omega)];simp;omega
   refine⟨fun v=>absurd (v ▸ B) (by simp),fun i r=>?_⟩
   have A:i=k:=by
    obtain⟨H,s,o,G,T⟩:=ZJ.1 r
    have g:i<l.length:=by simpa using H
    have E:listed.getD i false=false:=by
     have p:i<listed.size:=by omega
     simp[Array.getD,p] at s |-;exact s
    have C:k<=i:=by
     have:=c i g
     rw[E] at this
     have:¬ i<k:=by simpa using this.symm
     omega
    rcases Nat.eq_or_lt_of_le C with e | W
    ·exact e.symm
    ·exfalso
     have:=QdD l (l.drop k0) k0 (i - k0) o K (by rw[List.getElem?_drop,show k0+(i - k0)=i by omega];simpa using G) k (by omega) (fun j=>listed.getD j false=true)
      (fun q O t V e F n=>by
       have D:q<l.length:=(Zi t).1;have R:=back_at l 0 q O hb t e F n;have J:listed.getD q false=true:=V;rw[c q D] at J
       have X:q<k:=by simpa using J
       show listed.getD e.on false=true;rw[c e.on (by omega)];simp;omega) T
     rw[c k b] at this
     simp at this
   subst A;rw[List.drop_eq_getElem_cons b] at h
   have G:l.toArray[i]?=some l[i]:=by simp[b]
   have d:∀ a w,wpList P l.toArray Q (l.drop (i+1)) a w->wpAny P .any l.toArray Q fuel (listed.setIfInBounds i true) a w:=fun a w M =>
    ih (i+1) fuel _ a w (by omega) (by omega) (by omega) (by simpa using I) (fun j S=>by
     by_cases e:j=i
     ·subst e;simp[Array.getD,u]
     ·have z:i≠j:=fun x=>e x.symm;rw[Za,Array.getElem?_setIfInBounds_ne z,<-Za,c j S]
      simp;omega) M
   unfold wpOp;rw[G]
   simp only
   unfold wpList at h;split
   ·rename_i y
    rw[Xs y] at h
    exact h.imp (Oper.wp_mono d) id
   ·rename_i y
    rw[Xr y] at h
    exact d _ _ h
theorem Qbk {l2:List Oper}(hb:Qb5 0 (l++l2)=true) (hg:Qbg l.length l=true) (ht:QaQ (l++l2) l.length l2=true):∀ (fuel:Nat) (listed:Array Bool) (a:Act) (w:World),listed.size=l.length→(∀ (q:Nat) (o:Oper),l[q]?=some o→listed.getD q false=true→∀ e∈o.after,Region.binds .any e=true→listed.getD e.on false=true) →
 wpAny P .any l.toArray (Exit.then (fun a w=>wpList P (l++l2).toArray Q l2 a w) Q) fuel listed a w →
 wpAny P .any (l++l2).toArray Q (fuel+l2.length) (listed++Array.replicate l2.length false) a w:=by
 have y:∀ (i:Nat) (o:Oper),l[i]?=some o→∀ e∈o.after,Region.binds .any e=true→e.on<i:=fun i o p e n c=>by
  have r:i<l.length:=(Zi p).1
  have:=back_at (l++l2) 0 i o hb (by rw[XP r];exact p) e n c
  omega
 have f:∀ (listed:Array Bool) (j:Nat) (d:Bool),listed.size=l.length→j<l.length→(listed++Array.replicate l2.length false).getD j d=listed.getD j d:=fun listed j d k x=>by
  rw[Za,Za,Array.getElem?_append_left (by omega)]
 have A:∀ (listed:Array Bool) (j:Nat),listed.size=l.length→l.length≤j→(listed++Array.replicate l2.length false).getD j false=false:=fun listed j k x=>by
  rw[Za,Array.getElem?_append_right (by omega)]
  cases h:(Array.replicate l2.length false)[j - listed.size]? with
  | none=>rfl
  | some b =>
    have:=Array.mem_of_getElem? h
    simp at this
    simp[this.2]
 -- all of the first part are listed
 have B:∀ (fuel:Nat) (listed:Array Bool) (a:Act) (w:World),listed.size=l.length→(∀ j,j<l.length→listed.getD j false=true)→wpList P (l++l2).toArray Q l2 a w →
  wpAny P .any (l++l2).toArray Q (fuel+l2.length) (listed++Array.replicate l2.length false) a w:=fun fuel listed a w k m h=>by
  refine Qf4 hb (k0:=l.length) (by simpa using ht) l2.length l.length _ _ a w (by simp) Ze (by omega) (by simp[k]) (fun j x=>?_) (by simpa using h);by_cases u:j<l.length
  ·rw[f listed j false k u,m j u];simp[u]
  ·rw[A listed j k (by omega)];simp;omega
 have s:∀ (listed:Array Bool),listed.size=l.length→Region.ready .any l.toArray listed=[]→∀ j,j<l.length→listed.getD j false=true:=fun listed k W j=>by
  induction j using Nat.strongRecOn with
  | _ j ih =>
    intro x
    cases hc:listed.getD j false with
    | true=>rfl
    | false =>
      exfalso
      have u:j<listed.size:=by omega
      have R:listed.getD j true=false:=by simp[Array.getD,u] at hc ⊢;exact hc
      have:j∈Region.ready .any l.toArray listed:=ZJ.2 ⟨by simpa using x,R,l[j],by simp[x],fun e n c=>by
       have:=y j l[j] (by simp[x]) e n c
       exact ih e.on this (by omega)⟩
      rw[W] at this;cases this
 intro fuel
 induction fuel with
 | zero =>
   intro listed a w k E h;exact B 0 listed a w k (s listed k h.1) h.2
 | succ fuel ih =>
   intro listed a w k E h;by_cases m:∀ j,j<l.length→listed.getD j false=true
   ·refine B (fuel+1) listed a w k m (h.1 ?_);rw[List.eq_nil_iff_forall_not_mem]
    intro i r;obtain⟨H,D,_⟩:=ZJ.1 r
    have S:i<l.length:=by simpa using H
    have:=m i S
    have v:i<listed.size:=by omega
    simp[Array.getD,v] at this D
    rw[this] at D;cases D
   ·have V:Region.ready .any l.toArray listed≠[]:=fun e=>m (s listed k e)
    have C:∀ i,i∈Region.ready .any (l++l2).toArray (listed++Array.replicate l2.length false)↔i∈Region.ready .any l.toArray listed:=fun i=>by
     rw[ZJ,ZJ]
     by_cases r:i<l.length
     ·have e1:(l++l2).toArray[i]?=l.toArray[i]?:=by simp[List.getElem?_append_left r]
      rw[f listed i true k r,e1]
      constructor
      ·rintro ⟨_,D,o,p,F⟩;refine⟨by simpa using r,D,o,p,fun e n c=>?_⟩
       have:=y i o (by simpa using p) e n c
       have h4:=F e n c;rwa [f listed e.on false k (by omega)] at h4
      ·rintro ⟨_,D,o,p,F⟩;refine⟨by simp;omega,D,o,p,fun e n c=>?_⟩
       have:=y i o (by simpa using p) e n c
       rw[f listed e.on false k (by omega)]
       exact F e n c
     ·constructor
      ·rintro ⟨H,D,o,p,F⟩;exfalso
       refine m fun j x=>?_;have M:(l++l2)[i]?=some o:=by simpa using p
       rw[XQ (by omega)] at M
       have:=QdD (l++l2) l2 l.length (i - l.length) o ht M j (by omega) (fun q=>(listed++Array.replicate l2.length false).getD q false=true)
        (fun q o' G O e n c=>by
         have N:(listed++Array.replicate l2.length false).getD q false=true:=O;by_cases J:q<l.length
         ·rw[f listed q false k J] at N
          rw[XP J] at G
          have h6:=y q o' G e n c;show (listed++Array.replicate l2.length false).getD e.on false=true;rw[f listed e.on false k (by omega)]
          exact E q o' G N e n c
         ·rw[A listed q k (by omega)] at N
          cases N) F
       rwa [f listed j false k x] at this
      ·rintro ⟨H,_⟩;exact absurd (by simpa using H) r
    rw[show fuel+1+l2.length=(fuel+l2.length)+1 by omega]
    refine⟨fun W=>?_,fun i r=>?_⟩
    ·exfalso
     apply V
     rw[List.eq_nil_iff_forall_not_mem]
     intro i r
     have:=(C i).2 r
     rw[W] at this;cases this
    ·have v:=(C i).1 r;have t:=h.2 i v;obtain⟨H,_⟩:=ZJ.1 v
     have z:i<l.length:=by simpa using H
     have p:l.toArray[i]?=some l[i]:=by simp[z]
     have T:(l++l2).toArray[i]?=some l[i]:=by simp[List.getElem?_append_left z,z]
     unfold wpOp at t ⊢;rw[p] at t
     rw[T]
     simp only at t ⊢
     have hy:Region.wanted l[i] (yielded (l++l2).toArray a.tmps)=Region.wanted l[i] (yielded l.toArray a.tmps):=by
      unfold Region.wanted
      cases hgd:(l[i]).guard with
      | none=>rfl
      | some gw =>
        obtain⟨g,aa⟩:=gw
        have:=Xe.1 hg l[i] (List.getElem_mem z)
        rw[hgd] at this
        have X:g<l.length:=by simpa using this
        simp only
        have:yielded (l++l2).toArray a.tmps g=yielded l.toArray a.tmps g:=by
         unfold yielded
         have:(l++l2).toArray[g]?=l.toArray[g]?:=by simp[List.getElem?_append_left X]
         rw[this]
        rw[this]
     rw[hy]
     have nx:∀ a w,wpAny P .any l.toArray (Exit.then (fun a w=>wpList P (l++l2).toArray Q l2 a w) Q) fuel (listed.setIfInBounds i true) a w→wpAny P .any (l++l2).toArray Q (fuel+l2.length) ((listed++Array.replicate l2.length false).setIfInBounds i true) a w:=fun a w hh=>by
      have L:∀ (q:Nat) (o:Oper),l[q]?=some o→(listed.setIfInBounds i true).getD q false=true→∀ e∈o.after,Region.binds .any e=true→(listed.setIfInBounds i true).getD e.on false=true:=fun q o G O e n c=>by
       have up:∀ j,listed.getD j false=true→(listed.setIfInBounds i true).getD j false=true:=fun j x=>by
        by_cases K:i=j
        ·subst K
         have:i<listed.size:=by omega
         simp[Array.getD,this]
        ·rw[Za,Array.getElem?_setIfInBounds_ne K,← Za];exact x
       by_cases K:i=q
       ·subst K;obtain⟨_,_,o2,I,F⟩:=ZJ.1 v
        have:o2=o:=by
         have h7:l[i]?=some o2:=by simpa using I
         rw[G] at h7;exact(Xn h7).symm
        subst this;exact up _ (F e n c)
       ·rw[Za,Array.getElem?_setIfInBounds_ne K,← Za] at O
        exact up _ (E q o G O e n c)
      have:=ih (listed.setIfInBounds i true) a w (by simpa using k) L hh
      have e:(listed++Array.replicate l2.length false).setIfInBounds i true=listed.setIfInBounds i true++Array.replicate l2.length false:=by
       rw[Array.setIfInBounds_append_left (by omega)]
      rw[e];exact this
     split
     ·rename_i U
      rw[Xs U] at t
      rcases t with t | t
      ·exact .inl (Oper.wp_mono nx (QjS t))
      ·exact .inr t
     ·rename_i U
      rw[Xr U] at t
      exact nx _ _ t
end
theorem Qgm {P:Program}{l2:List Oper}{outs:List Tmp}{gs:List (Nat × Option Bool)}{a:Act}{Q:Exit->Act->World->Prop}
 (E:Tmp->Value->World->Prop) (W:World->Prop) (R:World->World->Prop)
 (A:P.follows .mixedOrders=true)  (hn:a.tmps.size=m) (f:n<=m) (z:Qab l n outs gs bs=true)
 (i:(Qb5 0 (l++l2)&&(Qbg l.length l&&QaQ (l++l2) l.length l2))=true)
 (s:∀ t v w w',R w w'->E t v w->E t v w') (u:QaZ E W l.toArray gs) (x:W w.drew) (r:QaR E a w.drew outs)
 (C:Qds E W R P l bs)
 (b:∀ (vs:Tmp->Value) w',W w'->(∀ t,(Ql l).contains t=true->E t (vs t) w')->wpList P (l++l2).toArray Q l2 (QT a vs (Ql l)) w') :
 (Code.region id (l++l2).toArray true).wp P Q a w:=by
 simp only[Bool.and_eq_true] at i
 obtain⟨h,c,g⟩:=i
 refine wp_region_any A ?_
 have d:wpAny P .any l.toArray (Exit.then (fun a w=>wpList P (l++l2).toArray Q l2 a w) Q) l.length (Array.replicate l.length false) a w.drew:=by
  refine QbW (E:=E) (W:=W) (R:=R) (a0:=a) (outs:=outs) (gs:=gs) (bs:=bs) (Z7 (hn ▸ f) z) s u C b _ _ _ _ (by simp) ?_ ⟨x,Z,Z,fun _ _=>rfl,fun t p _=>QaI outs r t p,?_⟩
  ·simp only[Array.toList_replicate]
   exact Zt (List.length_filter_le _ _) (by simp)
  ·intro j o t F G y;simp[Array.getD] at y
 have:=Qbk (Q:=Q) h c g l.length (Array.replicate l.length false) a w.drew (by simp) (fun q o D B=>by simp[Array.getD] at B) d
 have e:(Array.replicate l.length false++Array.replicate l2.length false:Array Bool)=Array.replicate (l++l2).toArray.size false:=by
  simp
 have k:l.length+l2.length=(l++l2).toArray.size:=by simp
 rw[e,k] at this
 exact this
theorem Qu {P:Program}{b:List Oper}{outs:List Tmp}{gs:List (Nat × Option Bool)}{a:Act}{Q:Exit->Act->World->Prop}
 (k:Nat) (E:Tmp->Value->World->Prop) (W:World->Prop) (R:World->World->Prop)
 (o:P.follows .mixedOrders=true)  (hn:a.tmps.size=m) (d:n<=m) (q:Qab (b.take k) n outs gs bs=true)
 (j:(Qb5 0 b&&(Qbg (b.take k).length (b.take k)&&QaQ b (b.take k).length (b.drop k)))=true)
 (f:∀ t v w w',R w w'->E t v w->E t v w') (g:QaZ E W (b.take k).toArray gs) (i:W w.drew) (e:QaR E a w.drew outs)
 (p:Qds E W R P (b.take k) bs)
 (c:∀ ops (vs:Tmp->Value) w',W w'->(∀ t,(Ql (b.take k)).contains t=true->E t (vs t) w')->wpList P ops Q (b.drop k) (QT a vs (Ql (b.take k))) w') :
 (Code.region id b.toArray true).wp P Q a w:=by
 have h:=Qgm (id:=id) (l:=b.take k) (l2:=b.drop k) (Q:=Q) E W R o hn d q (by rw[List.take_append_drop];exact j) f g i e p (c _);rwa [List.take_append_drop] at h
def Qn (i:Nat):Code->Option Code
 | .region k ops d=>if k=i then some (.region k ops d) else none
 | .loop c=>Qn i c
 | .seq a b=>match Qn i a with
   | some c=>some c
   | none=>Qn i b
 | .block _ c=>Qn i c
 | .scope c=>Qn i c
 | .cond _ a b=>match Qn i a with
   | some c=>some c
   | none=>Qn i b
 | _=>none
def Qb8 (k:Nat):Code->List Oper
 | .region _ ops _=>ops.toList.drop k
 | _=>[]
theorem QI {p:Addr}(h:w.cell? p=some v) (b:Below w.heap.size w w'):w'.cell? p=some v:=(b.cell (Xi w p h)).trans h
theorem Xh:type_of% @And.intro:=@And.intro
theorem Xz:type_of% @bodyPost_end:=@bodyPost_end
abbrev stuckP:List PanicEntry:=[{ v:=.iface 127 (.agg #[]),recovered:=false }]
abbrev Qje (c:Int):List PanicEntry:=[{ v:=.iface 128 (.int .i64 c),recovered:=false }]
theorem ZB (w:World):Calls prog 113 #[.bool true] w fun e w'=>e=.returned (.tuple #[])/\w'=w:=by
 go_enter func113,ntmps113
 go_wp2
 exact Xz (v:=.tuple #[]) (by simp[results,results113,go_sem]) Z ⟨Z,Z⟩
theorem Zf (w:World):Calls prog 113 #[.bool false] w fun e w'=>e=.panicked stuckP/\w'=w:=by
 go_enter func113,ntmps113
 go_wp2
 exact⟨Z,Z,Z⟩
theorem QaY (w:World) (c:Int):Calls prog 67 #[.bool true,.int .i64 c] w fun e w'=>e=.returned (.tuple #[])/\w'=w:=by
 go_enter func67,ntmps67
 go_wp2
 exact Xz (v:=.tuple #[]) (by simp[results,results67,go_sem]) Z ⟨Z,Z⟩
theorem QaG (w:World) (c:Int):Calls prog 67 #[.bool false,.int .i64 c] w fun e w'=>e=.panicked (Qje c)/\w'=w:=by
 go_enter func67,ntmps67
 go_wp2
 exact⟨Z,Z,Z⟩
def Qmc (k ec en:Int) (e:Ending):Prop:=(k=0/\e=.returned (.tuple #[]))\/(k≠0/\k=ec/\e=.panicked (Qje en))\/(k≠0/\k≠ec/\e=.panicked stuckP)
theorem QaE (w:World) (k c i:Int):Calls prog 118 #[.int .i64 k,.int .i64 c,.int .i64 i] w fun e w'=>w'=w/\Qmc k c i e:=by
 by_cases b:k=0
 ·subst b;go_enter func118,ntmps118
  go_wp2_with (first | (go_at_call 113;refine(ZB _).mono ?_;rintro d w' ⟨rfl,a⟩;have a:=a.symm;subst a) | (go_at_call 67;refine(QaY _ _).mono ?_;rintro d w' ⟨rfl,a⟩;have a:=a.symm;subst a))
  exact Xz (v:=.tuple #[]) (by simp[results,results118,go_sem]) Z ⟨Z,.inl ⟨Z,Z⟩⟩
 ·have j:(k==0)=false:=by simpa using b
  by_cases g:k=c
  ·subst g;have h:(k==k)=true:=by simp
   have f:=Qb b;clear b;go_enter func118,ntmps118
   go_wp2_with (go_at_call 113;refine(ZB _).mono ?_;rintro d w' ⟨rfl,a⟩;have a:=a.symm;subst a)
   refine(QaG _ _).mono ?_
   rintro d w' ⟨rfl,a⟩;subst a;exact⟨Z,Z,.inr (.inl ⟨f.out,Z,Z⟩)⟩
  ·have h:(k==c)=false:=by simpa using g
   have f:=Qb (Xh b g);clear b g;go_enter func118,ntmps118
   go_wp2_with fail
   refine(Zf _).mono ?_
   rintro d w' ⟨rfl,a⟩;subst a;exact⟨Z,Z,.inr (.inr ⟨f.out.1,f.out.2,Z⟩)⟩
def Ask {α:Type}(o:Option α) (V:α->Value) (e:Ending):Prop:=match o with
 | none=>e=.panicked stuckP
 | some x=>e=.returned (V x)
section
variable {w:World}{c:Nat}{fr:IFr}{v:Value}
theorem ZQ (F:QcQ w c fr v) (u:fr.v.length<=1000000) (a:Int) :
 Calls prog 115 #[.pointer (some ⟨c,0,none⟩),.int .i64 a] w fun e w'=>Ask (QA fr.v a) QF e/\Below w.heap.size w w':=by
 have j:=Qb (QY w (.cells #[.int .i64 0,.int .i64 0,.int .i64 0,.int .i64 0] 183));have b:=Qb (Qh w #[.int .i64 0,.int .i64 0,.int .i64 0,.int .i64 0] 183);have C:=F.below j.out;obtain⟨va,W,rfl,s⟩:=F.2.form
 have n:=Qa C.1 4 _ Z;have k:=Qb s;have A:=Qb (s.below j.out);clear F C s;go_enter func115,ntmps115
 go_upto_region 1 with fail
 generalize w.alloc (.cells #[.int .i64 0,.int .i64 0,.int .i64 0,.int .i64 0] 183)=P at n A j b |-;by_cases D:0<=a
 rotate_left
 ·have Q:decide (a>=0)=false:=by simpa using D
  have E:Hid (QA fr.v a=none):=by show _=_;unfold QA;rw[Xs (by omega)]
  generalize fr.v.length=B at n u;go_wp2_with fail
  refine(Zf _).mono ?_
  rintro f w' ⟨rfl,d⟩;subst d;exact⟨Z,by rw[E.out];rfl,j.out⟩
 obtain⟨i,rfl⟩:=Xc D
 by_cases z:i<fr.v.length
 rotate_left
 ·have E:Hid (QA fr.v (i:Int)=none):=by
   show _=_;unfold QA;rw[Xr (by omega),XT,Xk (by omega)]
  have y:¬ (i:Int)<fr.v.length:=by omega
  generalize fr.v.length=B at n y z u;go_wp2_with fail
  refine(Zf _).mono ?_
  rintro f w' ⟨rfl,d⟩;subst d;exact⟨Z,by rw[E.out];rfl,j.out⟩
 obtain⟨x,l⟩:∃ x,fr.v[i]?=some x:=⟨_,Zg z⟩
 have E:Hid (QA fr.v (i:Int)=some x):=by show _=_;unfold QA;rw[Xr (by omega),XT,l]
 obtain⟨g,o,rfl,X,M,T,H,J⟩:=A.out i x l
 have L:¬ w.heap.size=g:=fun e=>by
  obtain⟨g',o',f,S,-⟩:=k.out i x l
  injection f with f
  injection f with f
  omega
 have t:(i:Int)<fr.v.length:=by omega
 clear l A k;obtain⟨m,p,q,r⟩:=x
 simp only at M T H J
 have V:=Qa b.out 0 _ Z;have y1:=Qa b.out 1 _ Z;have y2:=Qa b.out 2 _ Z;have y3:=Qa b.out 3 _ Z;have z0:=Qf b.out 0;have z1:=Qf b.out 1;have z2:=Qf b.out 2;have U:=Qf b.out 3;generalize R:fr.v.length=B at n z t u;go_wp2_with (go_at_call 113;refine(ZB _).mono ?_;rintro f w' ⟨rfl,d⟩;have d:=d.symm;subst d)
 have h:=Xh (Qbv j.out Ze m p q r) (Z1 b.out m p q r);generalize ((((P.setCell ⟨w.heap.size,0,none⟩ (.int .i64 m)).setCell ⟨w.heap.size,1,none⟩ (.int .i64 p)).setCell ⟨w.heap.size,2,none⟩ (.int .i64 q)).setCell ⟨w.heap.size,3,none⟩ (.int .i64 r))=O at h |-;have K:=Qa h.2 0 _ Z;have I:=Qa h.2 1 _ Z;have G:=Qa h.2 2 _ Z;have N:=Qa h.2 3 _ Z;exact Xy (v:=.agg #[.int .i64 m,.int .i64 p,.int .i64 q,.int .i64 r]) (by simp[results,results115,go_sem,K,I,G,N]) Z ⟨by rw[E.out];rfl,h.1⟩
def QP (v:List Qj) (a k:Int):Option Qj:=match QA v a with
 | none=>none
 | some x=>if x.kind=k then some x else none
theorem Qgi (v:List Qj) (a:Int):Qt v a=(QP v a 1).map (·.n):=by
 unfold Qt QP
 cases QA v a with
 | none=>rfl
 | some x=>simp only;split<;>rfl
theorem Qao (F:QcQ w c fr v) (L:fr.v.length<=1000000) (a k:Int) :
 Calls prog 150 #[.pointer (some ⟨c,0,none⟩),.int .i64 a,.int .i64 k] w fun e w'=>Ask (QP fr.v a k) QF e/\Below w.heap.size w w':=by
 have l:=Qb (QY w (.cells #[.int .i64 0,.int .i64 0,.int .i64 0,.int .i64 0] 183));have t:=Qb (Qh w #[.int .i64 0,.int .i64 0,.int .i64 0,.int .i64 0] 183);have C:=Qb (ZQ (F.below l.out) L a);have E:=Qb (show QP fr.v a k=match QA fr.v a with | none=>none | some x=>if x.kind=k then some x else none from Z);clear F;go_enter func150,ntmps150
 go_upto_region 1 with fail
 generalize w.alloc (.cells #[.int .i64 0,.int .i64 0,.int .i64 0,.int .i64 0] 183)=X at C l t |-
 cases hv:QA fr.v a with
 | none =>
   rw[hv] at C E
   go_wp2_with fail
   refine C.out.mono ?_;rintro r j ⟨m,q⟩;have m:r=.panicked stuckP:=m;subst m;exact⟨Z,by rw[E.out];rfl,l.out.trans (q.mono l.out.size)⟩
 | some x =>
   rw[hv] at C E
   clear hv;obtain⟨d,f,g,h⟩:=x
   have D:Hid (QP fr.v a k=if d=k then some ⟨d,f,g,h⟩ else none):=E.out;clear E;go_wp2_with fail
   refine C.out.mono ?_;rintro r j ⟨m,q⟩;have m:r=.returned (.agg #[.int .i64 d,.int .i64 f,.int .i64 g,.int .i64 h]):=m;subst m;have B:=Qb (l.out.trans (q.mono l.out.size));have i:=Qb ((q.block _ (XC t.out)).trans t.out);have o:Hid (w.heap.size<j.heap.size):=XC i.out;clear q t l C;obtain⟨R,z⟩:∃ R,R=w.heap.size:=⟨_,Z⟩
   have s:Hid (w.heap.size<=R):=by show _<=_;omega
   rw[<-z] at i o
   have Y:=Qb (Qh j #[.int .i64 d,.int .i64 f,.int .i64 g,.int .i64 h] 183);have b:=Qb ((QY j (.cells #[.int .i64 d,.int .i64 f,.int .i64 g,.int .i64 h] 183)).block R (XC i.out) |>.trans i.out);have G:=Qb (B.out.trans ((QY j (.cells #[.int .i64 d,.int .i64 f,.int .i64 g,.int .i64 h] 183)).mono B.out.size));have P:=Qa Y.out 0 _ Z;have y1:=Qa Y.out 1 _ Z;have y2:=Qa Y.out 2 _ Z;have U:=Qa Y.out 3 _ Z;have z0:=Qf b.out 0;have T:=Qf b.out 1;have W:=Qf b.out 2;have O:=Qf b.out 3;have V:=Qa b.out 0 _ Z;have u1:=Qa b.out 1 _ Z;have Q:=Qa b.out 2 _ Z;have S:=Qa b.out 3 _ Z;have K:¬ R=j.heap.size:=by have:=o.out;omega
   rw[<-z]
   clear z;by_cases u:d=k
   ·subst u;have A:(d==d)=true:=by simp
    have y:Hid (QP fr.v a d=some ⟨d,f,g,h⟩):=by show _=_;rw[D.out,Xs Z]
    go_wp2_with (go_at_call 113;refine(ZB _).mono ?_;rintro r w' ⟨rfl,p⟩;have p:=p.symm;subst p)
    have n:=Xh (Qbv G.out s.out d f g h) (Z1 b.out d f g h);generalize (((((j.alloc (.cells #[.int .i64 d,.int .i64 f,.int .i64 g,.int .i64 h] 183)).setCell ⟨R,0,none⟩ (.int .i64 d)).setCell ⟨R,1,none⟩ (.int .i64 f)).setCell ⟨R,2,none⟩ (.int .i64 g)).setCell ⟨R,3,none⟩ (.int .i64 h))=N at n |-;have J:=Qa n.2 0 _ Z;have I:=Qa n.2 1 _ Z;have H:=Qa n.2 2 _ Z;have M:=Qa n.2 3 _ Z;exact Xy (v:=.agg #[.int .i64 d,.int .i64 f,.int .i64 g,.int .i64 h]) (by simp[results,results150,go_sem,J,I,H,M]) Z ⟨by rw[y.out];rfl,n.1⟩
   ·have A:(d==k)=false:=by simpa using u
    have y:Hid (QP fr.v a k=none):=by show _=_;rw[D.out,Xr u]
    clear u;go_wp2_with fail
    refine(Zf _).mono ?_
    rintro r w' ⟨rfl,p⟩;subst p;exact⟨Z,by rw[y.out];rfl,G.out⟩
theorem ZC (F:QcQ w c fr v) (o:fr.v.length<=1000000) (a:Int) :
 Calls prog 108 #[.pointer (some ⟨c,0,none⟩),.int .i64 a] w fun e w'=>Ask (Qt fr.v a) (.int .i64) e/\Below w.heap.size w w':=by
 have C:=Qb (Qao F o a 1);have g:∀ (k r t n:Int) (w:World),(Instr.field 183 (.agg #[.int .i64 k,.int .i64 r,.int .i64 t,.int .i64 n]) 3).run prog w=.ok (.int .i64 n) w:=fun _ _ _ _ _=>by kernel_rfl
 rw[Qgi]
 clear F;go_enter func108,ntmps108
 cases hv:QP fr.v a 1 with
 | none =>
   rw[hv] at C
   go_wp2_with fail
   refine C.out.mono ?_;rintro f h ⟨b,d⟩;have b:f=.panicked stuckP:=b;subst b;exact⟨Z,Z,d⟩
 | some x =>
   rw[hv] at C
   obtain⟨i,j,l,m⟩:=x
   go_wp2_with fail
   refine C.out.mono ?_;rintro f h ⟨b,d⟩;have b:f=.returned (.agg #[.int .i64 i,.int .i64 j,.int .i64 l,.int .i64 m]):=b;subst b;have p:=Qb d;clear d C;go_wp2
   go_ret;exact⟨Z,p.out⟩
end
theorem Qbj (v:List Qj) (a:Int):∀ l:List Int,Qp v (l++[a])=(match Qp v l with
 | none=>none
 | some ys=>match QA v a with
   | none=>none
   | some x=>some (ys++[x]))
 | []=>by
   simp only[List.nil_append,Qp]
   cases QA v a<;>rfl
 | k::l=>by
   simp only[List.cons_append,Qp]
   cases QA v k with
   | none=>rfl
   | some x =>
     simp only
     rw[Qbj v a l]
     cases Qp v l with
     | none=>rfl
     | some ys =>
       simp only
       cases QA v a<;>rfl
theorem Qcr (v:List Qj) (r:List Int):∀ l:List Int,Qp v l=none->Qp v (l++r)=none
 | [],h=>by simp[Qp] at h
 | k::l,h=>by
   simp only[List.cons_append,Qp] at h |-
   cases hk:QA v k with
   | none=>rfl
   | some x =>
     rw[hk] at h
     simp only at h |-
     cases hl:Qp v l with
     | none=>rw[Qcr v r l hl]
     | some ys=>rw[hl] at h;simp at h
theorem Q1 (v:List Qj):∀ (l:List Int){ys:List Qj},Qp v l=some ys->ys.length=l.length
 | [],ys,h=>by simp[Qp] at h;subst h;rfl
 | k::l,ys,h=>by
   simp only[Qp] at h
   cases hk:QA v k with
   | none=>rw[hk] at h;cases h
   | some x =>
     rw[hk] at h
     simp only at h
     cases hl:Qp v l with
     | none=>rw[hl] at h;cases h
     | some zs=>rw[hl] at h;simp at h;subst h;simp[Q1 v l hl]
theorem Qel {α:Type}{l:List α}{a:α}(h:l[q]?=some a):l.take (q+1)=l.take q++[a]:=by
 rw[XV,h];rfl
theorem Qfq {v:List Qj}{l:List Int}{a:Int}(h:l[q]?=some a) (b:QA v a=none):Qp v l=none:=by
 rw[<-List.take_append_drop (q+1) l]
 refine Qcr v _ _ ?_;rw[Qel h,Qbj,b]
 cases Qp v (l.take q)<;>rfl
def Qge (ys:List Qj) (n:Nat):List Qj:=ys++List.replicate (n - ys.length) noV
theorem QiI {a:List Qj}(h:a.length<=n):(Qge a n).length=n:=by simp[Qge];omega
theorem Qiz {a:List Qj}(x:Qj) (h:a.length<n):(Qge a n).set a.length x=Qge (a++[x]) n:=by
 unfold Qge;rw[show n - a.length=(n - a.length - 1)+1 by omega,List.replicate_succ,List.set_append_right _ _ Ze,Nat.sub_self]
 simp
 rw[show n - (a.length+1)=n - a.length - 1 by omega]
theorem QiT (a:List Qj):Qge a a.length=a:=by simp[Qge]
def Qb1 (w:World) (o:Option (List Qj)) (n:Nat) (e:Ending) (w':World):Prop:=Below w.heap.size w w'/\match o with
 | none=>e=.panicked stuckP
 | some xs=>∃ g,e=.returned (.slice (some ⟨g,0,none⟩) n n)/\w.heap.size<=g/\w'.rowIs g 183 (n*4) (Q7 xs)
theorem Qb1.split {w:World}{o:Option (List Qj)}{e:Ending}(h:Qb1 w o n e w'):Below w.heap.size w w'/\((∃ xs g,o=some xs/\e=.returned (.slice (some ⟨g,0,none⟩) n n)/\w.heap.size<=g/\w'.rowIs g 183 (n*4) (Q7 xs))\/(o=none/\e=.panicked stuckP)):=by
 obtain⟨b,h⟩:=h
 refine⟨b,?_⟩
 cases o with
 | none=>exact .inr ⟨Z,h⟩
 | some xs =>
   obtain⟨g,c,a,d⟩:=h
   exact .inl ⟨xs,g,Z,c,a,d⟩
section
variable {w:World}{c:Nat}{fr:IFr}{v:Value}
theorem QdQ (F:QcQ w c fr v) (hl:fr.v.length<=1000000){Q:Nat->Prop}{l:List Int}{cp:Nat}(hn:l.length=n) (hb:n<=1000000) (S:intsL.In w Q l [.slice p n cp]) :
 Calls prog 117 #[.pointer (some ⟨c,0,none⟩),.slice p n cp] w fun e w'=>Qb1 w (Qp fr.v l) n e w':=by
 have N:=QbJ n (by omega) w;have I:=Qb (QcD w n);have B0:=Qb (QY w (.cells (madeCells (#[.int .i64 0,.int .i64 0,.int .i64 0,.int .i64 0]:Array Value) (n*4)) 183));have HL:=Qb S;have D:=Qb hn;have HF:=Qb F;have HH:=Qb hl;clear S hn F hl;go_enter func117,ntmps117
 go_upto_region 2 with fail
 generalize w.alloc (.cells (madeCells (#[.int .i64 0,.int .i64 0,.int .i64 0,.int .i64 0]:Array Value) (n*4)) 183)=w1 at I B0 |-;clear N;obtain⟨g,U⟩:∃ g,g=w.heap.size:=⟨_,Z⟩
 have B:Hid (w.heap.size<=g):=by show _<=_;omega
 rw[<-U] at I |-
 clear U;go_wp2_with fail
 go_loopw [13] (fun i wr=>∃ (q:Nat) (d:List Qj),q<=n/\i=.int .i64 q/\Qp fr.v (l.take q)=some d/\wr.rowIs g 183 ((Qge d n).length*4) (Q7 (Qge d n))/\Below w.heap.size w wr) (fun i _=>n - (intOf i).toNat)
 case atStart =>
  refine⟨0,[],Xb _,Z,by simp[Qp],?_,B0.out⟩
  have:=I.out
  simpa[Qge] using this
 case round =>
  obtain⟨q,d,hq,rfl,P,X,hB⟩:=hrel
  have G:=Qb X;have j:=Qb hB;have L:=Qb P;have A:Hid (d.length=q):=by show _=_;rw[Q1 _ _ P,List.length_take,D.out];omega
  clear X hB P;by_cases m:q<n
  ·have T:(q:Int)<n:=by omega
   obtain⟨a,u⟩:∃ a,l[q]?=some a:=⟨_,Zg (by rw[D.out];exact m)⟩
   have k:q<l.length:=by rw[D.out];exact m
   obtain⟨g1,o1,rfl,-,t,H⟩:=QaT HL.out k
   rw[show l.getD q 0=a by rw[List.getD_eq_getElem?_getD,u];rfl] at H
   have H:=QI H j.out;have C:=Qb (ZQ (HF.out.below j.out) HH.out a)
   cases hv:QA fr.v a with
   | none =>
     rw[hv] at C
     have E:Hid (Qp fr.v l=none):=Qfq u hv;clear k t u hv;go_wp2_with fail
     refine C.out.mono ?_;rintro e f ⟨s,o⟩;have s:e=.panicked stuckP:=s;subst s;exact⟨Z,j.out.trans (o.mono j.out.size),by rw[E.out]⟩
   | some x =>
     rw[hv] at C
     have K:Hid (Qp fr.v (l.take (q+1))=some (d++[x])):=by show _=_;rw[Qel u,Qbj,L.out,hv]
     have r:Hid (∀ f,Below wr.heap.size wr f->(f.cell? ⟨g,q*4,none⟩).isSome=true/\(f.cell? ⟨g,q*4+1,none⟩).isSome=true/\(f.cell? ⟨g,q*4+2,none⟩).isSome=true/\(f.cell? ⟨g,q*4+3,none⟩).isSome=true/\(∀ i,f.frozen? ⟨g,i,none⟩=false)/\((((f.setCell ⟨g,q*4,none⟩ (.int .i64 x.kind)).setCell ⟨g,q*4+1,none⟩ (.int .i64 x.region)).setCell ⟨g,q*4+2,none⟩ (.int .i64 x.thing)).setCell ⟨g,q*4+3,none⟩ (.int .i64 x.n)).rowIs g 183 ((Qge (d++[x]) n).length*4) (Q7 (Qge (d++[x]) n))/\Below w.heap.size w ((((f.setCell ⟨g,q*4,none⟩ (.int .i64 x.kind)).setCell ⟨g,q*4+1,none⟩ (.int .i64 x.region)).setCell ⟨g,q*4+2,none⟩ (.int .i64 x.thing)).setCell ⟨g,q*4+3,none⟩ (.int .i64 x.n))):=by
      intro f o;have O:=G.out.of_block (o.block g G.out.lt);have h:=A.out;have y:q<(Qge d n).length:=by rw[QiI (by omega)];exact m
      obtain⟨z0,z1,z2,R⟩:=Qav O (Zg y)
      refine⟨by rw[z0];rfl,by rw[z1];rfl,by rw[z2];rfl,by rw[R];rfl,O.frozen,?_,?_⟩
      ·rw[<-Qiz x (by omega),h]
       exact QcM O y x.kind x.region x.thing x.n
      ·have b:=j.out.trans (o.mono j.out.size);exact(((b.setCell (p:=⟨g,q*4,none⟩) B.out _).setCell (p:=⟨g,q*4+1,none⟩) B.out _).setCell (p:=⟨g,q*4+2,none⟩) B.out _).setCell (p:=⟨g,q*4+3,none⟩) B.out _
     clear k t u hv;obtain⟨xk,xr,xt,xn⟩:=x
     simp only at r
     go_wp2_with fail
     refine C.out.mono ?_;rintro e f ⟨s,o⟩;have s:e=.returned (.agg #[.int .i64 xk,.int .i64 xr,.int .i64 xt,.int .i64 xn]):=s;subst s;obtain⟨V,p1,p2,W,z,pr,pb⟩:=r.out f o
     obtain⟨z0,V⟩:=Option.isSome_iff_exists.1 V
     obtain⟨z1,p1⟩:=Option.isSome_iff_exists.1 p1
     obtain⟨z2,p2⟩:=Option.isSome_iff_exists.1 p2
     obtain⟨R,W⟩:=Option.isSome_iff_exists.1 W
     have f0:=z (q*4);have f1:=z (q*4+1);have f2:=z (q*4+2);have f3:=z (q*4+3);have PR:=Qb pr;have PB:=Qb pb;clear z pr pb r C o G j H L;go_wp2
     go_roundw
     case rel=>exact⟨q+1,d++[⟨xk,xr,xt,xn⟩],by omega,by go_num,K.out,PR.out,PB.out⟩
     case measure=>simp[intOf];omega
  ·have J:q=n:=by omega
   subst J
   have EV:Hid (Qp fr.v l=some d):=by
    have:=L.out
    rwa [XO (by rw[D.out];exact Ze)] at this
   have h:=A.out
   have M:Hid (wr.rowIs g 183 (q*4) (Q7 d)):=by
    have:=G.out
    rw[<-h,QiT,h] at this
    exact this
   clear h;go_wp2
   go_ret;exact⟨j.out,by rw[EV.out];exact⟨g,Z,B.out,M.out⟩⟩
end
theorem ZA (w:World){q:Array Oper}{rest:List Oper}{o:Oper}{a:Act}(D:o.guard=none) (s x:Operand) (t:TypeId)
 (S:o.op=.call { callee:=.builtin .append,args:=#[s,x],argTypes:=#[t,t] })
 (e:TypeId) (i:TypeInfo) (z:Value) (size d:Nat) (G:P.underlying t=some (.slice e)) (U:P.info? e=some i) (L:i.zero=some z)
 (l:i.size=size) (B:i.bytes=d) (A:z.cells.size=size) (C:0<size)
 (v:Value) (n:Nat) (xs:List Value) (I:a.eval s=v) (p:w.ownsRow 0 e size v n xs)
 (F:Addr) (m c:Nat) (b:List Value) (H:a.eval x=.slice (some F) m c) (J:b.length=m*size) (g:∀ j u,b[j]?=some u->w.cell? (F.add j)=some u) (T:∀ u∈b,u.oneCell'=true)
 (E:n+m<=maxLen) (f:(n+m)*d<=140737488355328)
 (h:∀ v' w',w'.ownsRow 0 e size v' (n+m) (xs++b)->w.grownBy w' v.ownBlock->(∀ k,v'.ownBlock=some k->v.ownBlock=some k\/k=w.heap.size)->wpList P q Q rest (a.put o.dst v') w'):wpList P q Q (o::rest) a w:=by
 obtain⟨v',w',M,N,O,_,r⟩:=run_append_own_at (P:=P) w 0 t o.type e i z size d G U L l B A C v n xs p F m c b J g T E f (Xb _)
 refine wpList_plain D fun K R=>?_;unfold Oper.wp execOp;simp only[S,resolve,invoke,builtin,Sem.run_bind,Sem.run_pure,Result.andThen_ok,List.map_toArray,List.map_cons,List.map_nil,I,H,M]
 refine R _ _ (h v' w' N O (fun k y=>?_));rcases r with r | r
 ·rw[r] at y;exact .inl y
 ·rw[r] at y;exact .inr (by simpa using y.symm)
theorem QaW {w:World}{z:Nat}(h:w.ownsRow 0 e z v n xs):∃ a c,v=.slice a n c:=by
 rcases h.2 with ⟨e,f⟩|⟨g,d,b,e,_⟩
 ·exact⟨none,0,by rw[e,f]⟩
 ·exact⟨_,_,e⟩
section
variable {w w' w2:World}{b most:Nat}{m:List (Qe 6)}{M M':IM}{sc sa:Int}{g g1:MG}
theorem MAt.pushed (S:MAt w b most m M sc sa g){l:List Qj}{v9:Value}{w9:World}(p:w9.ownsRow 0 183 4 v9 (M.top.v.length+l.length) (vFlat M.top.v++vFlat l)) (a:w.grownBy w9 g.t.v.ownBlock) (n:∀ k,v9.ownBlock=some k->g.t.v.ownBlock=some k\/k=w.heap.size) :
 XTo g w (w9.setCell ⟨g.t.c,4,none⟩ v9) b most m (M.push l) sc sa:=by
 have F:=S.top;have j:=XC F.1;have i:w9.heap[g.t.c]?=_:=(a.block g.t.c j (fun e=>F.ne e.symm)).trans F.1
 have d:∀ k,v9.ownBlock=some k->k≠g.t.c:=fun k f e=>by
  rcases n k f with h | h
  ·exact F.ne (e ▸ h)
  ·omega
 refine S.setTop a.os a.tape a.output (by simpa using a.size) (fun k f r q=>?_) ⟨?_,?_⟩ (fun k f=>(n k f).imp id (fun e=>by omega))
 ·rw[Xd _ _ _ _ r]
  exact a.block k f (fun e=>q e.symm)
 ·have:=Qo i 4 v9
  simpa using this
 ·show World.ownsRow _ 0 _ 4 v9 (M.top.v++l).length (vFlat (M.top.v++l));rw[List.length_append,vFlat_app]
  exact QE p (fun x o=>Xd _ _ _ _ (d x o))
theorem ZM (S:MAt w b most m M sc sa g){l:List Qj}{cp:Nat}{a:Addr}(hn:l.length=n) (d:∀ (j:Nat) (u:Value),(vFlat l)[j]?=some u->w.cell? (a.add j)=some u) (hb:M.top.v.length+n<=1000000) :
 Calls prog 119 #[.pointer (some ⟨g.t.c,0,none⟩),.slice (some a) n cp] w fun e w'=>e=.returned (.tuple #[])/\XTo g w w' b most m (M.push l) sc sa:=by
 obtain⟨A,C,i,q,p⟩:=hInfoV
 subst hn;have F:=S.top;obtain⟨I,D,z,-⟩:=F.2.form
 have y:=Qa F.1 4 _ Z;have s:=Qb F.2;have h:=Qb F;have B:=Qb d;have r:=Qb (fun v9 w9=>S.pushed (l:=l) (v9:=v9) (w9:=w9));clear S F d;go_enter func119,ntmps119
 rw[z] at y s r h
 go_wp2_with (at_builtin;refine ZA _ Z _ _ 85 Z 183 A (.agg #[.int .i64 0,.int .i64 0,.int .i64 0,.int .i64 0]) 4 32 hUnderVs C i q p Z (by decide) _ _ _ Z s.out a l.length cp (vFlat l) Z (vFlat_len l) B.out (vFlat_one l) (by unfold maxLen;omega) (by omega) ?_)
 intro v9 w9 o k x;have R:=Qb (r.out v9 w9 o k x);have f:=(k.block g.t.c (XC h.out.1) (fun e=>h.out.ne e.symm)).trans h.out.1;have E:=Qa f 4 _ Z;have G:=Qf f 4;obtain⟨H,J,rfl⟩:=QaW o
 clear o k x r f h s y;go_wp2
 exact Xz (v:=.tuple #[]) (by simp[results,results119,go_sem]) Z ⟨Z,R.out⟩
theorem Qf7 (w:World) (k r t n:Int):∀ (j:Nat) (u:Value),(vFlat [⟨k,r,t,n⟩])[j]?=some u->(w.alloc (.cells #[.int .i64 k,.int .i64 r,.int .i64 t,.int .i64 n] 183)).cell? ((⟨w.heap.size,0,none⟩:Addr).add j)=some u:=Qi2 w [.int .i64 k,.int .i64 r,.int .i64 t,.int .i64 n] 183
theorem Z3 (S:MAt w b most m M sc sa g) (n:Int) (hb:M.top.v.length+1<=1000000) :
 Calls prog 110 #[.pointer (some ⟨g.t.c,0,none⟩),.int .i64 n] w fun e w'=>e=.returned (.tuple #[])/\XTo g w w' b most m (M.push [Qa8 n]) sc sa:=by
 have a:=QY w (.cells #[.int .i64 1,.int .i64 0,.int .i64 0,.int .i64 n] 183);have C:=Qb (fun cp=>ZM (S.below a) (l:=[Qa8 n]) (cp:=cp) Z (Qf7 w 1 0 0 n) hb);have T:=Qb (S.stepB a);clear S a;go_enter func110,ntmps110
 go_wp2_with fail
 refine(C.out _).mono ?_
 rintro f h ⟨rfl,d⟩;have R:=Qb (XTo.then T.out Z Z d);clear d C T;go_wp2
 exact Xz (v:=.tuple #[]) (by simp[results,results110,go_sem]) Z ⟨Z,R.out⟩
end
structure Bx (w wr:World) (k r:Int) (a:Option Addr) (len c:Nat):Prop where
 bel:Below w.heap.size w wr
 box:wr.heap[w.heap.size]?=some (.cells #[.int .i64 k,.int .i64 r,.slice a len c] 92 (0,0))
theorem Bx.start (w:World) (k r:Int) (a:Option Addr) (len c:Nat):Bx w (w.alloc (.cells #[.int .i64 k,.int .i64 r,.slice a len c] 92)) k r a len c :=
 ⟨(Below.refl _ w).alloc Ze _,Qh w _ _⟩
theorem Bx.lt {k r:Int}{len:Nat}(h:Bx w wr k r a len c):w.heap.size<wr.heap.size:=XC h.box
theorem Bx.below {k r:Int}{len:Nat}(h:Bx w wr k r a len c) (b:Below wr.heap.size wr w'):Bx w w' k r a len c :=
 ⟨h.bel.trans (b.mono h.bel.size),Qau h.box b⟩
theorem Bx.alloc {k r:Int}{len:Nat}(h:Bx w wr k r a len c) (o:Obj):Bx w (wr.alloc o) k r a len c :=
 h.below ((Below.refl _ wr).alloc Ze _)
theorem Bx.drewN {k r:Int}{len:Nat}(h:Bx w wr k r a len c) (m:Nat):Bx w (wr.drewN m) k r a len c:=⟨⟨h.bel.os,h.bel.tape,h.bel.output,h.bel.size,h.bel.block⟩,h.box⟩
theorem Bx.drew {k r:Int}{len:Nat}(h:Bx w wr k r a len c):Bx w wr.drew k r a len c:=h.drewN 1
theorem QdW {α:Type}(f:α->Nat) (l:List α) (i:Nat) (x:α) (h:l[i]?=some x):((l.map f).take (i+1)).sum=((l.map f).take i).sum+f x:=by
 rw[XV,XS,h]
 simp
def QgF (f:Nat) (n:Nat):Prop:=∀ (t:TT n) (a:Option Addr) (c:Nat) (regs:Int) (w:World),TIn w All t a->t.count<=100000 ->
 Calls prog f #[Tv t a c,.int .i64 regs] w fun e w'=>e=.returned (.int .i64 (t.fault regs))/\Below w.heap.size w w'
abbrev I64 (x:Int):Prop:=-9223372036854775808<=x/\x<=9223372036854775807
structure IP where
 pR:Option Addr
 cR:Nat
 pA:Option Addr
 cA:Nat
structure EP where
 pYR:Option Addr
 cYR:Nat
 pYA:Option Addr
 cYA:Nat
 pNR:Option Addr
 cNR:Nat
 pNA:Option Addr
 cNA:Nat
 pA:Option Addr
 cA:Nat
structure BP where
 pP:Option Addr
 cP:Nat
 pC:Option Addr
 cC:Nat
 e:EP
structure FP where
 pP:Option Addr
 cP:Nat
 pR:Option Addr
 cR:Nat
 pB:Option Addr
 cB:Nat
structure QdZ (w:World) (O:Nat->Prop) (x:MTo) (pR:Option Addr) (cR:Nat) (pA:Option Addr) (cA:Nat):Prop where
 regs:intsL.In w O x.regs [.slice pR x.regs.length cR]
 args:intsL.In w O x.args [.slice pA x.args.length cA]
 bnd:I64 x.block
structure IIn (w:World) (O:Nat->Prop) (x:Qz) (i:IP):Prop where
 regs:intsL.In w O x.regs [.slice i.pR x.regs.length i.cR]
 args:intsL.In w O x.args [.slice i.pA x.args.length i.cA]
 bnd:I64 x.op/\I64 x.a/\I64 x.b/\I64 x.c/\I64 x.k/\I64 x.n
structure EIn (w:World) (O:Nat->Prop) (x:Qax) (e:EP):Prop where
 yes:QdZ w O x.yes e.pYR e.cYR e.pYA e.cYA
 no:QdZ w O x.no e.pNR e.cNR e.pNA e.cNA
 args:intsL.In w O x.args [.slice e.pA x.args.length e.cA]
 bnd:I64 x.op/\I64 x.a
structure BIn (w:World) (O:Nat->Prop){n:Nat}(x:Qk n) (b:BP):Prop where
 params:(QM n).In w O x.params [.slice b.pP x.params.length b.cP]
 code:insL.list.In w O x.code [.slice b.pC x.code.length b.cC]
 fin:EIn w O x.fin b.e
 bnd:I64 x.regs
structure FIn (w:World) (O:Nat->Prop){n:Nat}(x:Qe n) (f:FP):Prop where
 params:(QM n).In w O x.params [.slice f.pP x.params.length f.cP]
 results:(QM n).In w O x.results [.slice f.pR x.results.length f.cR]
 blocks:(Zu n).list.In w O x.blocks [.slice f.pB x.blocks.length f.cB]
 bnd:I64 x.regs
section
variable {w w':World}{O O':Nat->Prop}{n:Nat}{cs:List Value}
theorem QdZ.keep {x:MTo}{e a:Option Addr}{d b:Nat}(hb:∀ k,O k->k<w.heap.size->w'.heap[k]?=w.heap[k]?) (c:∀ k,O k->k<w.heap.size->O' k) (h:QdZ w O x e d a b):QdZ w' O' x e d a b:=⟨Lay.keep _ hb c h.regs,Lay.keep _ hb c h.args,h.bnd⟩
theorem QdZ.below {x:MTo}{e b:Option Addr}{d c:Nat}(h:QdZ w O x e d b c) (a:Below w.heap.size w w'):QdZ w' O x e d b c:=h.keep (fun k _ f=>a.block k f) (fun _ h _=>h)
theorem QdZ.mono {x:MTo}{d a:Option Addr}{c b:Nat}(h:QdZ w O x d c a b) (e:∀ k,O k->k<w.heap.size->O' k):QdZ w O' x d c a b:=h.keep (fun k _ _=>rfl) e
theorem IIn.keep {x:Qz}{i:IP}(hb:∀ k,O k->k<w.heap.size->w'.heap[k]?=w.heap[k]?) (a:∀ k,O k->k<w.heap.size->O' k) (h:IIn w O x i):IIn w' O' x i:=⟨Lay.keep _ hb a h.regs,Lay.keep _ hb a h.args,h.bnd⟩
theorem IIn.below {x:Qz}{i:IP}(h:IIn w O x i) (a:Below w.heap.size w w'):IIn w' O x i:=h.keep (fun k _ b=>a.block k b) (fun _ h _=>h)
theorem IIn.mono {x:Qz}{i:IP}(h:IIn w O x i) (a:∀ k,O k->k<w.heap.size->O' k):IIn w O' x i:=h.keep (fun k _ _=>rfl) a
theorem EIn.keep {x:Qax}{e:EP}(hb:∀ k,O k->k<w.heap.size->w'.heap[k]?=w.heap[k]?) (a:∀ k,O k->k<w.heap.size->O' k) (h:EIn w O x e):EIn w' O' x e:=⟨h.yes.keep hb a,h.no.keep hb a,Lay.keep _ hb a h.args,h.bnd⟩
theorem EIn.below {x:Qax}{e:EP}(h:EIn w O x e) (a:Below w.heap.size w w'):EIn w' O x e:=h.keep (fun k _ b=>a.block k b) (fun _ h _=>h)
theorem EIn.mono {x:Qax}{e:EP}(h:EIn w O x e) (a:∀ k,O k->k<w.heap.size->O' k):EIn w O' x e:=h.keep (fun k _ _=>rfl) a
theorem BIn.keep {x:Qk n}{b:BP}(hb:∀ k,O k->k<w.heap.size->w'.heap[k]?=w.heap[k]?) (a:∀ k,O k->k<w.heap.size->O' k) (h:BIn w O x b):BIn w' O' x b:=⟨Lay.keep _ hb a h.params,Lay.keep _ hb a h.code,h.fin.keep hb a,h.bnd⟩
theorem BIn.below {x:Qk n}{b:BP}(h:BIn w O x b) (a:Below w.heap.size w w'):BIn w' O x b:=h.keep (fun k _ c=>a.block k c) (fun _ h _=>h)
theorem BIn.mono {x:Qk n}{b:BP}(h:BIn w O x b) (a:∀ k,O k->k<w.heap.size->O' k):BIn w O' x b:=h.keep (fun k _ _=>rfl) a
theorem FIn.keep {x:Qe n}{f:FP}(hb:∀ k,O k->k<w.heap.size->w'.heap[k]?=w.heap[k]?) (a:∀ k,O k->k<w.heap.size->O' k) (h:FIn w O x f):FIn w' O' x f:=⟨Lay.keep _ hb a h.params,Lay.keep _ hb a h.results,Lay.keep _ hb a h.blocks,h.bnd⟩
theorem FIn.below {x:Qe n}{f:FP}(h:FIn w O x f) (a:Below w.heap.size w w'):FIn w' O x f:=h.keep (fun k _ b=>a.block k b) (fun _ h _=>h)
theorem FIn.mono {x:Qe n}{f:FP}(h:FIn w O x f) (a:∀ k,O k->k<w.heap.size->O' k):FIn w O' x f:=h.keep (fun k _ _=>rfl) a
theorem QhX {x:MTo}(h:toL.In w O x cs):∃ pR cR pA cA,cs=[.int .i64 x.block,.slice pR x.regs.length cR,.slice pA x.args.length cA]/\QdZ w O x pR cR pA cA:=by
 obtain⟨a,c,b,d,rfl,g,f,e⟩:=QjL h
 exact⟨a,c,b,d,Z,g,f,e⟩
theorem Qg7 {x:MTo}{c b:Option Addr}{d a:Nat}(h:QdZ w O x c d b a):toL.In w O x [.int .i64 x.block,.slice c x.regs.length d,.slice b x.args.length a]:=QlC h.regs h.args h.bnd
theorem Qi0 {x:Qz}(h:insL.In w O x cs):∃ i:IP,cs=[.int .i64 x.op,.int .i64 x.a,.int .i64 x.b,.int .i64 x.c,.int .i64 x.k,.int .i64 x.n,.slice i.pR x.regs.length i.cR,.slice i.pA x.args.length i.cA]/\IIn w O x i:=by
 obtain⟨a,c,b,d,rfl,g,f,e⟩:=QfD h
 exact⟨⟨a,c,b,d⟩,Z,g,f,e⟩
theorem QiV {x:Qz}{i:IP}(h:IIn w O x i):insL.In w O x [.int .i64 x.op,.int .i64 x.a,.int .i64 x.b,.int .i64 x.c,.int .i64 x.k,.int .i64 x.n,.slice i.pR x.regs.length i.cR,.slice i.pA x.args.length i.cA]:=Qdh h.regs h.args h.bnd
theorem Qi7 {x:Qax}(h:endL.In w O x cs):∃ e:EP,cs=[.int .i64 x.op,.int .i64 x.a,.int .i64 x.yes.block,.slice e.pYR x.yes.regs.length e.cYR,.slice e.pYA x.yes.args.length e.cYA,.int .i64 x.no.block,.slice e.pNR x.no.regs.length e.cNR,.slice e.pNA x.no.args.length e.cNA,.slice e.pA x.args.length e.cA]/\EIn w O x e:=by
 obtain⟨q,r,a,c,rfl,b,m,n,k⟩:=QiD h
 obtain⟨p,o,pA,cA,rfl,g⟩:=QhX b
 obtain⟨i,d,l,j,rfl,f⟩:=QhX m
 exact⟨⟨p,o,pA,cA,i,d,l,j,a,c⟩,Z,g,f,n,k⟩
theorem Qix {x:Qax}{e:EP}(h:EIn w O x e):endL.In w O x [.int .i64 x.op,.int .i64 x.a,.int .i64 x.yes.block,.slice e.pYR x.yes.regs.length e.cYR,.slice e.pYA x.yes.args.length e.cYA,.int .i64 x.no.block,.slice e.pNR x.no.regs.length e.cNR,.slice e.pNA x.no.args.length e.cNA,.slice e.pA x.args.length e.cA]:=Qk6 (Qg7 h.yes) (Qg7 h.no) h.args h.bnd
theorem Qgq {x:Qk n}(h:(Zu n).In w O x cs):∃ b:BP,cs=[.int .i64 x.regs,.slice b.pP x.params.length b.cP,.slice b.pC x.code.length b.cC,.int .i64 x.fin.op,.int .i64 x.fin.a,.int .i64 x.fin.yes.block,.slice b.e.pYR x.fin.yes.regs.length b.e.cYR,.slice b.e.pYA x.fin.yes.args.length b.e.cYA,.int .i64 x.fin.no.block,.slice b.e.pNR x.fin.no.regs.length b.e.cNR,.slice b.e.pNA x.fin.no.args.length b.e.cNA,.slice b.e.pA x.fin.args.length b.e.cA]/\BIn w O x b:=by
 obtain⟨a,c,b,d,l,rfl,k,i,j,g⟩:=Qdl h
 obtain⟨e,rfl,f⟩:=Qi7 j
 exact⟨⟨a,c,b,d,e⟩,Z,k,i,f,g⟩
theorem QbM {x:Qk n}{b:BP}(h:BIn w O x b):(Zu n).In w O x [.int .i64 x.regs,.slice b.pP x.params.length b.cP,.slice b.pC x.code.length b.cC,.int .i64 x.fin.op,.int .i64 x.fin.a,.int .i64 x.fin.yes.block,.slice b.e.pYR x.fin.yes.regs.length b.e.cYR,.slice b.e.pYA x.fin.yes.args.length b.e.cYA,.int .i64 x.fin.no.block,.slice b.e.pNR x.fin.no.regs.length b.e.cNR,.slice b.e.pNA x.fin.no.args.length b.e.cNA,.slice b.e.pA x.fin.args.length b.e.cA]:=QiF h.params h.code (Qix h.fin) h.bnd
theorem QgQ {x:Qe n}(h:(QaH n).In w O x cs):∃ f:FP,cs=[.int .i64 x.regs,.slice f.pP x.params.length f.cP,.slice f.pR x.results.length f.cR,.slice f.pB x.blocks.length f.cB]/\FIn w O x f:=by
 obtain⟨a,c,b,d,e,f,rfl,j,i,k,g⟩:=Qev h
 exact⟨⟨a,c,b,d,e,f⟩,Z,j,i,k,g⟩
theorem QcC {x:Qe n}{f:FP}(h:FIn w O x f):(QaH n).In w O x [.int .i64 x.regs,.slice f.pP x.params.length f.cP,.slice f.pR x.results.length f.cR,.slice f.pB x.blocks.length f.cB]:=Qjv h.params h.results h.blocks h.bnd
theorem QfM {l:List Qz}(h:(insL).list.In w O l [.slice p m c]){x:Qz}(q:l[i]?=some x) :
 ∃ (g o:Nat) (i':IP),p=some ⟨g,o,none⟩/\w.rangeAt g (o+i*8) [.int .i64 x.op,.int .i64 x.a,.int .i64 x.b,.int .i64 x.c,.int .i64 x.k,.int .i64 x.n,.slice i'.pR x.regs.length i'.cR,.slice i'.pA x.args.length i'.cA]/\IIn w O x i':=by
 obtain⟨g,o,u,e,z,y,f,r⟩:=Yf h q
 obtain⟨i',rfl,t⟩:=Qi0 r
 have s:(insL).size=8:=rfl;rw[s] at f
 exact⟨g,o,i',e,fun j v d=>(f j (by have:=(Zi d).1;simpa using this)).trans d,t⟩
theorem Qby {l:List (Qk n)}(h:(Zu n).list.In w O l [.slice p m c]){x:Qk n}(k:l[i]?=some x) :
 ∃ (g o:Nat) (b:BP),p=some ⟨g,o,none⟩/\w.rangeAt g (o+i*12) [.int .i64 x.regs,.slice b.pP x.params.length b.cP,.slice b.pC x.code.length b.cC,.int .i64 x.fin.op,.int .i64 x.fin.a,.int .i64 x.fin.yes.block,.slice b.e.pYR x.fin.yes.regs.length b.e.cYR,.slice b.e.pYA x.fin.yes.args.length b.e.cYA,.int .i64 x.fin.no.block,.slice b.e.pNR x.fin.no.regs.length b.e.cNR,.slice b.e.pNA x.fin.no.args.length b.e.cNA,.slice b.e.pA x.fin.args.length b.e.cA]/\BIn w O x b:=by
 obtain⟨g,o,t,e,y,u,f,q⟩:=Yf h k
 obtain⟨b,rfl,s⟩:=Qgq q
 have r:(Zu n).size=12:=rfl;rw[r] at f
 exact⟨g,o,b,e,fun j v d=>(f j (by have:=(Zi d).1;simpa using this)).trans d,s⟩
theorem QbK {l:List (Qe n)}(h:(QaH n).list.In w O l [.slice p m c]){x:Qe n}(d:l[i]?=some x) :
 ∃ (g o:Nat) (f:FP),p=some ⟨g,o,none⟩/\w.rangeAt g (o+i*4) [.int .i64 x.regs,.slice f.pP x.params.length f.cP,.slice f.pR x.results.length f.cR,.slice f.pB x.blocks.length f.cB]/\FIn w O x f:=by
 obtain⟨g,o,s,e,u,t,b,k⟩:=Yf h d
 obtain⟨f,rfl,r⟩:=QgQ k
 have q:(QaH n).size=4:=rfl;rw[q] at b
 exact⟨g,o,f,e,fun j v a=>(b j (by have:=(Zi a).1;simpa using this)).trans a,r⟩
theorem Qjg {l:List (TT n)}(h:LIn w O l p){x:TT n}(b:l[i]?=some x):∃ (g o:Nat) (q:Option Addr) (c:Nat),p=some ⟨g,o,none⟩/\w.rangeAt g (o+i*3) [.int .i64 x.kind,.int .i64 x.r,.slice q x.len c]/\TIn w O x q:=by
 obtain⟨g,o,q,c,e,_,d,m,f,k⟩:=LIn.at h b
 refine⟨g,o,q,c,e,fun j v a=>?_,k⟩
 match j,a with
 | 0,a=>cases a;exact d
 | 1,a=>cases a;exact m
 | 2,a=>cases a;exact f
end
theorem QiY (op:Int):op=1\/op=2\/op=3\/op=4\/op=5\/op=6\/op=7\/op=8\/op=9\/op=10\/op=11\/op=12\/op=13\/op=14\/(op≠1/\op≠2/\op≠3/\op≠4/\op≠5/\op≠6/\op≠7/\op≠8/\op≠9/\op≠10/\op≠11/\op≠12/\op≠13/\op≠14):=by omega
def QbX (funcs:Nat) (op a b c k n:Int) (rl al:Nat):Int :=
 match QC op with
 | none=>3
 | some (fa,fb,fc,fk,fn,fr,fs) =>
   if (!fa&&a != 0)||(!fb&&b != 0)||(!fc&&c != 0)||(!fk&&k != 0)||(!fn&&n != 0)||(!fr&&decide (0<rl))||(!fs&&decide (0<al)) then 4
   else if op=2/\(k<1\/9<k) then 1
   else if op=5/\8<al then 2
   else if (op=6\/op=7)/\(k<0\/7<k) then 1
   else if op=14/\(k<0\/(funcs:Int)<=k) then 1
   else if op=14/\(6<rl\/8<al) then 2
   else 0
theorem Qz.form_eq (d:Nat) (x:Qz):x.form d=QbX d x.op x.a x.b x.c x.k x.n x.regs.length x.args.length:=by
 unfold Qz.form Qz.formless QbX
 cases QC x.op with
 | none=>rfl
 | some p=>obtain⟨a,b,c,k,n,r,s⟩:=p;rfl
def rangeC (x l m:Int):Int:=if x<l\/m<x then 1 else 0
def manyC (len:Nat) (m:Int):Int:=if m<len then 2 else 0
def handedC (r:Nat) (m:Int) (s:Nat):Int:=if manyC r m≠0 then manyC r m else manyC s 8
def QaK (a b c k n:Int) (rl al:Nat):Bool:=a==0&&b==0&&c==0&&k==0&&n==0&&(rl:Int)==0&&(al:Int)==0
def Zv (funcs:Nat) (op k:Int) (rl al:Nat):Int :=
 if op=2 then rangeC k 1 9 else if op=6\/op=7 then rangeC k 0 7 else if op=5 then manyC al 8
 else if op=14 then (if rangeC k 0 ((funcs:Int) - 1)=0 then handedC rl 6 al else rangeC k 0 ((funcs:Int) - 1)) else 0
theorem fb (f:Bool) (a:Int):(!f&&a != 0)=!((bif f then 0 else a)==0):=by cases f<;>simp[bne]
theorem fbn (f:Bool) (l:Nat):(!f&&decide (0<l))=!(((bif f then 0 else l:Nat):Int)==0):=by
 cases f
 ·by_cases h:l=0
  ·simp[h]
  ·have:0<l:=by omega
   simp[this,h]
 ·simp
theorem QgW (e:Nat) (op k:Int) (f c:Nat):(if op=2/\(k<1\/9<k) then 1
 else if op=5/\8<c then 2
 else if (op=6\/op=7)/\(k<0\/7<k) then 1
 else if op=14/\(k<0\/(e:Int)<=k) then 1
 else if op=14/\(6<f\/8<c) then 2
 else 0)=Zv e op k f c:=by
 unfold Zv;by_cases d:op=2
 ·subst d;simp[rangeC]
 ·by_cases g:op=6\/op=7
  ·have b:¬ op=5:=by omega
   have a:¬ op=14:=by omega
   simp[d,b,g,a,rangeC]
  ·by_cases b:op=5
   ·subst b;simp[manyC];split<;>split<;>omega
   ·by_cases a:op=14
    ·subst a;simp[rangeC,handedC,manyC]
     repeat' split
     all_goals omega
    ·simp[d,b,g,a]
theorem Qy {op a b c k n:Int}{g d fc f fn fr fs:Bool}(e:QC op=some (g,d,fc,f,fn,fr,fs)) :
 QbX lm op a b c k n rl al=if QaK (bif g then 0 else a) (bif d then 0 else b) (bif fc then 0 else c) (bif f then 0 else k) (bif fn then 0 else n) (bif fr then 0 else rl) (bif fs then 0 else al)=true then Zv lm op k rl al else 4:=by
 simp only[QbX,e,QgW]
 rw[fb,fb,fb,fb,fb,fbn,fbn]
 unfold QaK;generalize ((bif g then 0 else a)==0)=p;generalize ((bif d then 0 else b)==0)=j;generalize ((bif fc then 0 else c)==0)=l;generalize ((bif f then 0 else k)==0)=i;generalize ((bif fn then 0 else n)==0)=o;generalize (((bif fr then 0 else rl:Nat):Int)==0)=m;generalize (((bif fs then 0 else al:Nat):Int)==0)=h
 cases p<;>cases j<;>cases l<;>cases i<;>cases o<;>cases m<;>cases h<;>rfl
theorem Qfg (h:f<1000000):Rd prog 93 #[.int .i64 (f:Int)] w (.int .i64 (10000*(f:Int)+9999)):=by
 unfold Rd;skip
 skip
 go_enter func93,ntmps93
 go_wp2
 go_ret;refine⟨?_,Zr⟩
 show Ending.returned (.int .i64 ((f:Int)*10000+9999))=_;congr 2
 omega
theorem Qes (h:f<1000000/\b<1000000):Rd prog 141 #[.int .i64 (f:Int),.int .i64 (b:Int)] w (.int .i64 (10000*(f:Int)+100*(b:Int)+90)):=by
 unfold Rd;have c:=h.1;have a:=h.2;skip
 go_enter func141,ntmps141
 go_wp2
 go_ret;refine⟨?_,Zr⟩
 show Ending.returned (.int .i64 ((f:Int)*10000+(b:Int)*100+90))=_;congr 2
 omega
theorem Qc4 (h:f<1000000/\b<1000000):Rd prog 106 #[.int .i64 (f:Int),.int .i64 (b:Int)] w (.int .i64 (10000*(f:Int)+100*(b:Int)+91)):=by
 unfold Rd;have c:=h.1;have a:=h.2;skip
 go_enter func106,ntmps106
 go_wp2
 go_ret;refine⟨?_,Zr⟩
 show Ending.returned (.int .i64 ((f:Int)*10000+(b:Int)*100+91))=_;congr 2
 omega
theorem Qc1 (h:f<1000000/\b<1000000/\i<1000000):Rd prog 105 #[.int .i64 (f:Int),.int .i64 (b:Int),.int .i64 (i:Int)] w (.int .i64 (10000*(f:Int)+100*(b:Int)+(i:Int))):=by
 unfold Rd;have d:=h.1;have a:=h.2;have e:=h.2.1;have c:=h.2.2;go_enter func105,ntmps105
 go_wp2
 go_ret;refine⟨?_,Zr⟩
 show Ending.returned (.int .i64 ((f:Int)*10000+(b:Int)*100+(i:Int)))=_;congr 2
 omega
theorem ZG {x l m:Int}:Rd prog 186 #[.int .i64 x,.int .i64 l,.int .i64 m] w (.int .i64 (rangeC x l m)):=by
 unfold Rd rangeC;by_cases b:x<l
 ·rw[Xs (.inl b)]
  go_enter func186,ntmps186
  go_wp2
  go_ret;exact⟨Z,Zr⟩
 ·by_cases a:m<x
  ·rw[Xs (.inr a)]
   go_enter func186,ntmps186
   go_wp2
   go_ret;exact⟨Z,Zr⟩
  ·rw[Xr (by omega)]
   go_enter func186,ntmps186
   go_wp2
   go_ret;exact⟨Z,Zr⟩
theorem Qa5 {len:Nat}{m:Int}:Rd prog 187 #[.slice p len c,.int .i64 m] w (.int .i64 (manyC len m)):=by
 unfold Rd manyC;by_cases a:m<len
 ·rw[Xs a]
  go_enter func187,ntmps187
  go_wp2
  go_ret;exact⟨Z,Zr⟩
 ·rw[Xr a]
  go_enter func187,ntmps187
  go_wp2
  go_ret;exact⟨Z,Zr⟩
theorem Qbe {q:Option Addr}{r s:Nat}{m:Int}:Rd prog 188 #[.slice p r c,.int .i64 m,.slice q s d] w (.int .i64 (handedC r m s)):=by
 have b:Hid (∀ a:World,Calls prog 187 #[.slice p r c,.int .i64 m] a fun e j=>e=.returned (.int .i64 (manyC r m))/\Below a.heap.size a j):=fun a=>Qa5;have k:Hid (∀ a:World,Calls prog 187 #[.slice q s d,.int .i64 8] a fun e j=>e=.returned (.int .i64 (manyC s 8))/\Below a.heap.size a j):=fun a=>Qa5;unfold Rd handedC;by_cases h:manyC r m=0
 ·rw[Xr (by simpa using h)]
  rw[h] at b
  go_enter func188,ntmps188
  go_wp2_with fail
  refine(b.out w).mono ?_
  rintro e i ⟨rfl,f⟩;have g:Hid (Below w.heap.size w i):=f;clear f b;go_wp2_with fail
  refine(k.out i).mono ?_
  rintro e o ⟨rfl,l⟩;have n:Hid (Below w.heap.size w o):=g.out.trans (l.mono g.out.size);clear l k g;go_wp2
  go_ret;exact⟨Z,n.out⟩
 ·rw[Xs h]
  have t:(manyC r m==0)=false:=by simpa using h
  generalize manyC r m=v at b t h |-;go_enter func188,ntmps188
  go_wp2_with fail
  refine(b.out w).mono ?_
  rintro e i ⟨rfl,f⟩;have g:Hid (Below w.heap.size w i):=f;clear f b k;go_wp2
  go_ret;exact⟨Z,g.out⟩
theorem QK {a:Int}:Rd prog 172 #[.agg #[.int .i64 a,.int .i64 xa,.int .i64 xb,.int .i64 xc,.int .i64 xk,.int .i64 xn,.slice ra rl rc,.slice aa al ac]] w (.bool (QaK xa xb xc xk xn rl al)):=by
 unfold Rd
 ·by_cases b:xa=0
  ·subst b
   ·by_cases g:xb=0
    ·subst g
     ·by_cases d:xc=0
      ·subst d
       ·by_cases e:xk=0
        ·subst e
         ·by_cases c:xn=0
          ·subst c
           ·by_cases f:rl=0
            ·subst f
             ·by_cases h:al=0
              ·subst h
               ·rw[show QaK 0 0 0 0 0 0 0=true from Z]
                go_enter func172,ntmps172
                go_wp2
                go_ret;exact⟨Z,QbH _ _⟩
              ·have o:((al:Int)==0)=false:=by simpa using h
               rw[show QaK 0 0 0 0 0 0 al=false by simp[QaK,o]]
               go_enter func172,ntmps172
               go_wp2
               go_ret;exact⟨Z,QbH _ _⟩
            ·have j:((rl:Int)==0)=false:=by simpa using f
             rw[show QaK 0 0 0 0 0 rl al=false by simp[QaK,j]]
             go_enter func172,ntmps172
             go_wp2
             go_ret;exact⟨Z,QbH _ _⟩
          ·have m:(xn==0)=false:=by simpa using c
           rw[show QaK 0 0 0 0 xn rl al=false by simp[QaK,m]]
           go_enter func172,ntmps172
           go_wp2
           go_ret;exact⟨Z,QbH _ _⟩
        ·have i:(xk==0)=false:=by simpa using e
         rw[show QaK 0 0 0 xk xn rl al=false by simp[QaK,i]]
         go_enter func172,ntmps172
         go_wp2
         go_ret;exact⟨Z,QbH _ _⟩
      ·have k:(xc==0)=false:=by simpa using d
       rw[show QaK 0 0 xc xk xn rl al=false by simp[QaK,k]]
       go_enter func172,ntmps172
       go_wp2
       go_ret;exact⟨Z,QbH _ _⟩
    ·have n:(xb==0)=false:=by simpa using g
     rw[show QaK 0 xb xc xk xn rl al=false by simp[QaK,n]]
     go_enter func172,ntmps172
     go_wp2
     go_ret;exact⟨Z,QbH _ _⟩
  ·have l:(xa==0)=false:=by simpa using b
   rw[show QaK xa xb xc xk xn rl al=false by simp[QaK,l]]
   go_enter func172,ntmps172
   go_wp2
   go_ret;exact⟨Z,QbH _ _⟩
theorem wf1 :Rd prog 171 #[.agg #[.int .i64 1,.int .i64 xa,.int .i64 xb,.int .i64 xc,.int .i64 xk,.int .i64 xn,.slice ra rl rc,.slice aa al ac]] w (.tuple #[.agg #[.int .i64 1,.int .i64 xa,.int .i64 xb,.int .i64 xc,.int .i64 xk,.int .i64 0,.slice ra rl rc,.slice aa al ac],.bool true]):=by
 unfold Rd;go_enter func171,ntmps171
 go_wp2
 exact Xy (v:=.tuple #[.agg #[.int .i64 1,.int .i64 xa,.int .i64 xb,.int .i64 xc,.int .i64 xk,.int .i64 0,.slice ra rl rc,.slice aa al ac],.bool true]) (by simp[results,results171,go_sem]) Z ⟨Z,QaB _ _ _⟩
theorem wf2 :Rd prog 171 #[.agg #[.int .i64 2,.int .i64 xa,.int .i64 xb,.int .i64 xc,.int .i64 xk,.int .i64 xn,.slice ra rl rc,.slice aa al ac]] w (.tuple #[.agg #[.int .i64 2,.int .i64 0,.int .i64 0,.int .i64 xc,.int .i64 0,.int .i64 xn,.slice ra rl rc,.slice aa al ac],.bool true]):=by
 unfold Rd;go_enter func171,ntmps171
 go_wp2
 exact Xy (v:=.tuple #[.agg #[.int .i64 2,.int .i64 0,.int .i64 0,.int .i64 xc,.int .i64 0,.int .i64 xn,.slice ra rl rc,.slice aa al ac],.bool true]) (by simp[results,results171,go_sem]) Z ⟨Z,QaB _ _ _⟩
theorem wf3 :Rd prog 171 #[.agg #[.int .i64 3,.int .i64 xa,.int .i64 xb,.int .i64 xc,.int .i64 xk,.int .i64 xn,.slice ra rl rc,.slice aa al ac]] w (.tuple #[.agg #[.int .i64 3,.int .i64 xa,.int .i64 xb,.int .i64 xc,.int .i64 xk,.int .i64 xn,.slice ra rl rc,.slice aa al ac],.bool true]):=by
 unfold Rd;go_enter func171,ntmps171
 go_wp2
 exact Xy (v:=.tuple #[.agg #[.int .i64 3,.int .i64 xa,.int .i64 xb,.int .i64 xc,.int .i64 xk,.int .i64 xn,.slice ra rl rc,.slice aa al ac],.bool true]) (by simp[results,results171,go_sem]) Z ⟨Z,QaB _ _ _⟩
theorem wf4 :Rd prog 171 #[.agg #[.int .i64 4,.int .i64 xa,.int .i64 xb,.int .i64 xc,.int .i64 xk,.int .i64 xn,.slice ra rl rc,.slice aa al ac]] w (.tuple #[.agg #[.int .i64 4,.int .i64 0,.int .i64 xb,.int .i64 xc,.int .i64 xk,.int .i64 xn,.slice ra rl rc,.slice aa al ac],.bool true]):=by
 unfold Rd;go_enter func171,ntmps171
 go_wp2
 exact Xy (v:=.tuple #[.agg #[.int .i64 4,.int .i64 0,.int .i64 xb,.int .i64 xc,.int .i64 xk,.int .i64 xn,.slice ra rl rc,.slice aa al ac],.bool true]) (by simp[results,results171,go_sem]) Z ⟨Z,QaB _ _ _⟩
theorem wf5 :Rd prog 171 #[.agg #[.int .i64 5,.int .i64 xa,.int .i64 xb,.int .i64 xc,.int .i64 xk,.int .i64 xn,.slice ra rl rc,.slice aa al ac]] w (.tuple #[.agg #[.int .i64 5,.int .i64 0,.int .i64 xb,.int .i64 xc,.int .i64 xk,.int .i64 xn,.slice ra rl rc,.slice none 0 0],.bool true]):=by
 unfold Rd;go_enter func171,ntmps171
 go_wp2
 exact Xy (v:=.tuple #[.agg #[.int .i64 5,.int .i64 0,.int .i64 xb,.int .i64 xc,.int .i64 xk,.int .i64 xn,.slice ra rl rc,.slice none 0 0],.bool true]) (by simp[results,results171,go_sem]) Z ⟨Z,QaB _ _ _⟩
theorem wf6 :Rd prog 171 #[.agg #[.int .i64 6,.int .i64 xa,.int .i64 xb,.int .i64 xc,.int .i64 xk,.int .i64 xn,.slice ra rl rc,.slice aa al ac]] w (.tuple #[.agg #[.int .i64 6,.int .i64 0,.int .i64 xb,.int .i64 xc,.int .i64 0,.int .i64 xn,.slice ra rl rc,.slice aa al ac],.bool true]):=by
 unfold Rd;go_enter func171,ntmps171
 go_wp2
 exact Xy (v:=.tuple #[.agg #[.int .i64 6,.int .i64 0,.int .i64 xb,.int .i64 xc,.int .i64 0,.int .i64 xn,.slice ra rl rc,.slice aa al ac],.bool true]) (by simp[results,results171,go_sem]) Z ⟨Z,QaB _ _ _⟩
theorem wf7 :Rd prog 171 #[.agg #[.int .i64 7,.int .i64 xa,.int .i64 xb,.int .i64 xc,.int .i64 xk,.int .i64 xn,.slice ra rl rc,.slice aa al ac]] w (.tuple #[.agg #[.int .i64 7,.int .i64 0,.int .i64 0,.int .i64 xc,.int .i64 0,.int .i64 xn,.slice ra rl rc,.slice aa al ac],.bool true]):=by
 unfold Rd;go_enter func171,ntmps171
 go_wp2
 exact Xy (v:=.tuple #[.agg #[.int .i64 7,.int .i64 0,.int .i64 0,.int .i64 xc,.int .i64 0,.int .i64 xn,.slice ra rl rc,.slice aa al ac],.bool true]) (by simp[results,results171,go_sem]) Z ⟨Z,QaB _ _ _⟩
theorem wf8 :Rd prog 171 #[.agg #[.int .i64 8,.int .i64 xa,.int .i64 xb,.int .i64 xc,.int .i64 xk,.int .i64 xn,.slice ra rl rc,.slice aa al ac]] w (.tuple #[.agg #[.int .i64 8,.int .i64 0,.int .i64 0,.int .i64 xc,.int .i64 xk,.int .i64 xn,.slice ra rl rc,.slice aa al ac],.bool true]):=by
 unfold Rd;go_enter func171,ntmps171
 go_wp2
 exact Xy (v:=.tuple #[.agg #[.int .i64 8,.int .i64 0,.int .i64 0,.int .i64 xc,.int .i64 xk,.int .i64 xn,.slice ra rl rc,.slice aa al ac],.bool true]) (by simp[results,results171,go_sem]) Z ⟨Z,QaB _ _ _⟩
theorem wf9 :Rd prog 171 #[.agg #[.int .i64 9,.int .i64 xa,.int .i64 xb,.int .i64 xc,.int .i64 xk,.int .i64 xn,.slice ra rl rc,.slice aa al ac]] w (.tuple #[.agg #[.int .i64 9,.int .i64 0,.int .i64 0,.int .i64 xc,.int .i64 xk,.int .i64 xn,.slice ra rl rc,.slice aa al ac],.bool true]):=by
 unfold Rd;go_enter func171,ntmps171
 go_wp2
 exact Xy (v:=.tuple #[.agg #[.int .i64 9,.int .i64 0,.int .i64 0,.int .i64 xc,.int .i64 xk,.int .i64 xn,.slice ra rl rc,.slice aa al ac],.bool true]) (by simp[results,results171,go_sem]) Z ⟨Z,QaB _ _ _⟩
theorem wf10 :Rd prog 171 #[.agg #[.int .i64 10,.int .i64 xa,.int .i64 xb,.int .i64 xc,.int .i64 xk,.int .i64 xn,.slice ra rl rc,.slice aa al ac]] w (.tuple #[.agg #[.int .i64 10,.int .i64 0,.int .i64 0,.int .i64 0,.int .i64 xk,.int .i64 xn,.slice ra rl rc,.slice aa al ac],.bool true]):=by
 unfold Rd;go_enter func171,ntmps171
 go_wp2
 exact Xy (v:=.tuple #[.agg #[.int .i64 10,.int .i64 0,.int .i64 0,.int .i64 0,.int .i64 xk,.int .i64 xn,.slice ra rl rc,.slice aa al ac],.bool true]) (by simp[results,results171,go_sem]) Z ⟨Z,QaB _ _ _⟩
theorem wf11 :Rd prog 171 #[.agg #[.int .i64 11,.int .i64 xa,.int .i64 xb,.int .i64 xc,.int .i64 xk,.int .i64 xn,.slice ra rl rc,.slice aa al ac]] w (.tuple #[.agg #[.int .i64 11,.int .i64 0,.int .i64 xb,.int .i64 xc,.int .i64 xk,.int .i64 xn,.slice ra rl rc,.slice aa al ac],.bool true]):=by
 unfold Rd;go_enter func171,ntmps171
 go_wp2
 exact Xy (v:=.tuple #[.agg #[.int .i64 11,.int .i64 0,.int .i64 xb,.int .i64 xc,.int .i64 xk,.int .i64 xn,.slice ra rl rc,.slice aa al ac],.bool true]) (by simp[results,results171,go_sem]) Z ⟨Z,QaB _ _ _⟩
theorem wf12 :Rd prog 171 #[.agg #[.int .i64 12,.int .i64 xa,.int .i64 xb,.int .i64 xc,.int .i64 xk,.int .i64 xn,.slice ra rl rc,.slice aa al ac]] w (.tuple #[.agg #[.int .i64 12,.int .i64 xa,.int .i64 xb,.int .i64 xc,.int .i64 xk,.int .i64 xn,.slice ra rl rc,.slice aa al ac],.bool true]):=by
 unfold Rd;go_enter func171,ntmps171
 go_wp2
 exact Xy (v:=.tuple #[.agg #[.int .i64 12,.int .i64 xa,.int .i64 xb,.int .i64 xc,.int .i64 xk,.int .i64 xn,.slice ra rl rc,.slice aa al ac],.bool true]) (by simp[results,results171,go_sem]) Z ⟨Z,QaB _ _ _⟩
theorem wf13 :Rd prog 171 #[.agg #[.int .i64 13,.int .i64 xa,.int .i64 xb,.int .i64 xc,.int .i64 xk,.int .i64 xn,.slice ra rl rc,.slice aa al ac]] w (.tuple #[.agg #[.int .i64 13,.int .i64 0,.int .i64 xb,.int .i64 xc,.int .i64 xk,.int .i64 xn,.slice ra rl rc,.slice aa al ac],.bool true]):=by
 unfold Rd;go_enter func171,ntmps171
 go_wp2
 exact Xy (v:=.tuple #[.agg #[.int .i64 13,.int .i64 0,.int .i64 xb,.int .i64 xc,.int .i64 xk,.int .i64 xn,.slice ra rl rc,.slice aa al ac],.bool true]) (by simp[results,results171,go_sem]) Z ⟨Z,QaB _ _ _⟩
theorem wf14 :Rd prog 171 #[.agg #[.int .i64 14,.int .i64 xa,.int .i64 xb,.int .i64 xc,.int .i64 xk,.int .i64 xn,.slice ra rl rc,.slice aa al ac]] w (.tuple #[.agg #[.int .i64 14,.int .i64 xa,.int .i64 xb,.int .i64 xc,.int .i64 0,.int .i64 xn,.slice none 0 0,.slice none 0 0],.bool true]):=by
 unfold Rd;go_enter func171,ntmps171
 go_wp2
 exact Xy (v:=.tuple #[.agg #[.int .i64 14,.int .i64 xa,.int .i64 xb,.int .i64 xc,.int .i64 0,.int .i64 xn,.slice none 0 0,.slice none 0 0],.bool true]) (by simp[results,results171,go_sem]) Z ⟨Z,QaB _ _ _⟩
theorem Qmf {a:Int}(h:a≠1/\a≠2/\a≠3/\a≠4/\a≠5/\a≠6/\a≠7/\a≠8/\a≠9/\a≠10/\a≠11/\a≠12/\a≠13/\a≠14):Rd prog 171 #[.agg #[.int .i64 a,.int .i64 xa,.int .i64 xb,.int .i64 xc,.int .i64 xk,.int .i64 xn,.slice ra rl rc,.slice aa al ac]] w (.tuple #[.agg #[.int .i64 a,.int .i64 xa,.int .i64 xb,.int .i64 xc,.int .i64 xk,.int .i64 xn,.slice ra rl rc,.slice aa al ac],.bool false]):=by
 obtain⟨t,n,p,l,q,r,u,i,j,c,b,e,f,d⟩:=h
 have B:(a==1)=false:=by simpa using t
 have C:(a==2)=false:=by simpa using n
 have x:(a==3)=false:=by simpa using p
 have E:(a==4)=false:=by simpa using l
 have A:(a==5)=false:=by simpa using q
 have F:(a==6)=false:=by simpa using r
 have z:(a==7)=false:=by simpa using u
 have D:(a==8)=false:=by simpa using i
 have y:(a==9)=false:=by simpa using j
 have o:(a==10)=false:=by simpa using c
 have k:(a==11)=false:=by simpa using b
 have m:(a==12)=false:=by simpa using e
 have s:(a==13)=false:=by simpa using f
 have g:(a==14)=false:=by simpa using d
 unfold Rd;go_enter func171,ntmps171
 go_wp2
 exact Xy (v:=.tuple #[.agg #[.int .i64 a,.int .i64 xa,.int .i64 xb,.int .i64 xc,.int .i64 xk,.int .i64 xn,.slice ra rl rc,.slice aa al ac],.bool false]) (by simp[results,results171,go_sem]) Z ⟨Z,QaB _ _ _⟩
theorem QjW {f:Option Addr}:Rd prog 173 #[.agg #[.slice f lm cm],.agg #[.int .i64 2,.int .i64 xa,.int .i64 xb,.int .i64 xc,.int .i64 xk,.int .i64 xn,.slice ra rl rc,.slice aa al ac]] w (.int .i64 (Zv lm 2 xk rl al)):=by
 have C:Hid (∀ a:World,Calls prog 186 #[.int .i64 xk,.int .i64 1,.int .i64 9] a fun e c=>e=.returned (.int .i64 (rangeC xk 1 9))/\Below a.heap.size a c):=fun a=>ZG;rw[show Zv lm 2 xk rl al=rangeC xk 1 9 from Z]
 generalize rangeC xk 1 9=v at C |-;unfold Rd;go_enter func173,ntmps173
 go_wp2_with fail
 refine(C.out _).mono ?_
 rintro e d ⟨rfl,b⟩;have g:Hid (Below w.heap.size w d):=(QaB _ _ _).trans (b.mono (QaB w _ _).size);clear b C;go_wp2
 go_ret;exact⟨Z,g.out⟩
theorem Qj9 {f:Option Addr}:Rd prog 173 #[.agg #[.slice f lm cm],.agg #[.int .i64 6,.int .i64 xa,.int .i64 xb,.int .i64 xc,.int .i64 xk,.int .i64 xn,.slice ra rl rc,.slice aa al ac]] w (.int .i64 (Zv lm 6 xk rl al)):=by
 have C:Hid (∀ a:World,Calls prog 186 #[.int .i64 xk,.int .i64 0,.int .i64 7] a fun e c=>e=.returned (.int .i64 (rangeC xk 0 7))/\Below a.heap.size a c):=fun a=>ZG;rw[show Zv lm 6 xk rl al=rangeC xk 0 7 from Z]
 generalize rangeC xk 0 7=v at C |-;unfold Rd;go_enter func173,ntmps173
 go_wp2_with fail
 refine(C.out _).mono ?_
 rintro e d ⟨rfl,b⟩;have g:Hid (Below w.heap.size w d):=(QaB _ _ _).trans (b.mono (QaB w _ _).size);clear b C;go_wp2
 go_ret;exact⟨Z,g.out⟩
theorem Qjz {f:Option Addr}:Rd prog 173 #[.agg #[.slice f lm cm],.agg #[.int .i64 7,.int .i64 xa,.int .i64 xb,.int .i64 xc,.int .i64 xk,.int .i64 xn,.slice ra rl rc,.slice aa al ac]] w (.int .i64 (Zv lm 7 xk rl al)):=by
 have C:Hid (∀ a:World,Calls prog 186 #[.int .i64 xk,.int .i64 0,.int .i64 7] a fun e c=>e=.returned (.int .i64 (rangeC xk 0 7))/\Below a.heap.size a c):=fun a=>ZG;rw[show Zv lm 7 xk rl al=rangeC xk 0 7 from Z]
 generalize rangeC xk 0 7=v at C |-;unfold Rd;go_enter func173,ntmps173
 go_wp2_with fail
 refine(C.out _).mono ?_
 rintro e d ⟨rfl,b⟩;have g:Hid (Below w.heap.size w d):=(QaB _ _ _).trans (b.mono (QaB w _ _).size);clear b C;go_wp2
 go_ret;exact⟨Z,g.out⟩
theorem QjQ {f:Option Addr}:Rd prog 173 #[.agg #[.slice f lm cm],.agg #[.int .i64 5,.int .i64 xa,.int .i64 xb,.int .i64 xc,.int .i64 xk,.int .i64 xn,.slice ra rl rc,.slice aa al ac]] w (.int .i64 (Zv lm 5 xk rl al)):=by
 have C:Hid (∀ a:World,Calls prog 187 #[.slice aa al ac,.int .i64 8] a fun e c=>e=.returned (.int .i64 (manyC al 8))/\Below a.heap.size a c):=fun a=>Qa5;rw[show Zv lm 5 xk rl al=manyC al 8 from Z]
 generalize manyC al 8=v at C |-;unfold Rd;go_enter func173,ntmps173
 go_wp2_with fail
 refine(C.out _).mono ?_
 rintro e d ⟨rfl,b⟩;have g:Hid (Below w.heap.size w d):=(QaB _ _ _).trans (b.mono (QaB w _ _).size);clear b C;go_wp2
 go_ret;exact⟨Z,g.out⟩
theorem QiU {f:Option Addr}(p:lm<2305843009213693952):Rd prog 173 #[.agg #[.slice f lm cm],.agg #[.int .i64 14,.int .i64 xa,.int .i64 xb,.int .i64 xc,.int .i64 xk,.int .i64 xn,.slice ra rl rc,.slice aa al ac]] w (.int .i64 (Zv lm 14 xk rl al)):=by
 have C:Hid (∀ a:World,Calls prog 186 #[.int .i64 xk,.int .i64 0,.int .i64 ((lm:Int) - 1)] a fun e k=>e=.returned (.int .i64 (rangeC xk 0 ((lm:Int) - 1)))/\Below a.heap.size a k):=fun a=>ZG;have h:Hid (∀ a:World,Calls prog 188 #[.slice ra rl rc,.int .i64 6,.slice aa al ac] a fun e k=>e=.returned (.int .i64 (handedC rl 6 al))/\Below a.heap.size a k):=fun a=>Qbe;rw[show Zv lm 14 xk rl al=if rangeC xk 0 ((lm:Int) - 1)=0 then handedC rl 6 al else rangeC xk 0 ((lm:Int) - 1) from Z]
 generalize rangeC xk 0 ((lm:Int) - 1)=v at C |-;generalize handedC rl 6 al=u at h |-;have d:Blk ((w.alloc (.cells #[.slice f lm cm] 24)).alloc (.cells #[.int .i64 14,.int .i64 xa,.int .i64 xb,.int .i64 xc,.int .i64 xk,.int .i64 xn,.slice ra rl rc,.slice aa al ac] 65)) (w.heap.size+1) #[.int .i64 14,.int .i64 xa,.int .i64 xb,.int .i64 xc,.int .i64 xk,.int .i64 xn,.slice ra rl rc,.slice aa al ac] 65:=Blk.new2 _ _ _ _;have b:Hid (Below w.heap.size w ((w.alloc (.cells #[.slice f lm cm] 24)).alloc (.cells #[.int .i64 14,.int .i64 xa,.int .i64 xb,.int .i64 xc,.int .i64 xk,.int .i64 xn,.slice ra rl rc,.slice aa al ac] 65))):=QaB _ _ _;unfold Rd;by_cases j:v=0
 ·subst j;rw[Xs Z]
  go_enter func173,ntmps173
  go_wp2_with fail
  generalize ((w.alloc (.cells #[.slice f lm cm] 24)).alloc (.cells #[.int .i64 14,.int .i64 xa,.int .i64 xb,.int .i64 xc,.int .i64 xk,.int .i64 xn,.slice ra rl rc,.slice aa al ac] 65))=q at d b |-;refine(C.out _).mono ?_
  rintro e i ⟨rfl,c⟩;have l:=(c.block _ (XC d)).trans d;have g:Hid (Below w.heap.size w i):=b.out.trans (c.mono b.out.size);have s:=Qa l 6 _ Z;have t:=Qa l 7 _ Z;clear c C d b l;go_wp2_with fail
  refine(h.out _).mono ?_
  rintro e n ⟨rfl,m⟩;have o:Hid (Below w.heap.size w n):=g.out.trans (m.mono g.out.size);clear m h g;go_wp2
  go_ret;exact⟨Z,o.out⟩
 ·rw[Xr j]
  have r:(v==0)=false:=by simpa using j
  go_enter func173,ntmps173
  go_wp2_with fail
  generalize ((w.alloc (.cells #[.slice f lm cm] 24)).alloc (.cells #[.int .i64 14,.int .i64 xa,.int .i64 xb,.int .i64 xc,.int .i64 xk,.int .i64 xn,.slice ra rl rc,.slice aa al ac] 65))=q at d b |-;refine(C.out _).mono ?_
  rintro e i ⟨rfl,c⟩;have g:Hid (Below w.heap.size w i):=b.out.trans (c.mono b.out.size);clear c C h d b;go_wp2
  go_ret;exact⟨Z,g.out⟩
theorem ZS {a:Int}{i:Option Addr}(h:a≠2/\a≠6/\a≠7/\a≠5/\a≠14):Rd prog 173 #[.agg #[.slice i lm cm],.agg #[.int .i64 a,.int .i64 xa,.int .i64 xb,.int .i64 xc,.int .i64 xk,.int .i64 xn,.slice ra rl rc,.slice aa al ac]] w (.int .i64 (Zv lm a xk rl al)):=by
 obtain⟨c,f,e,d,b⟩:=h
 rw[show Zv lm a xk rl al=0 by simp[Zv,c,f,e,d,b]]
 have l:(a==2)=false:=by simpa using c
 have m:(a==6)=false:=by simpa using f
 have j:(a==7)=false:=by simpa using e
 have k:(a==5)=false:=by simpa using d
 have g:(a==14)=false:=by simpa using b
 unfold Rd;go_enter func173,ntmps173
 go_wp2
 go_ret;exact⟨Z,QaB _ _ _⟩
theorem Q6 {a:Int}{p n q l m:Int}{i f:Option Addr}{k h j c:Nat}{o:Option Addr}{ok bare:Bool}{v:Int}
 (D:Hid (∀ wx:World,Calls prog 171 #[.agg #[.int .i64 a,.int .i64 xa,.int .i64 xb,.int .i64 xc,.int .i64 xk,.int .i64 xn,.slice ra rl rc,.slice aa al ac]] wx fun e w'=>e=.returned (.tuple #[.agg #[.int .i64 a,.int .i64 p,.int .i64 n,.int .i64 q,.int .i64 l,.int .i64 m,.slice i k h,.slice f j c],.bool ok])/\Below wx.heap.size wx w'))
 (B:Hid (∀ wx:World,Calls prog 172 #[.agg #[.int .i64 a,.int .i64 p,.int .i64 n,.int .i64 q,.int .i64 l,.int .i64 m,.slice i k h,.slice f j c]] wx fun e w'=>e=.returned (.bool bare)/\Below wx.heap.size wx w'))
 (A:Hid (∀ wx:World,Calls prog 173 #[.agg #[.slice o lm cm],.agg #[.int .i64 a,.int .i64 xa,.int .i64 xb,.int .i64 xc,.int .i64 xk,.int .i64 xn,.slice ra rl rc,.slice aa al ac]] wx fun e w'=>e=.returned (.int .i64 v)/\Below wx.heap.size wx w')) :
 Rd prog 144 #[.agg #[.slice o lm cm],.agg #[.int .i64 a,.int .i64 xa,.int .i64 xb,.int .i64 xc,.int .i64 xk,.int .i64 xn,.slice ra rl rc,.slice aa al ac]] w (.int .i64 (if ok=false then 3 else if bare=true then v else 4)):=by
 have g:Blk ((w.alloc (.cells #[.slice o lm cm] 24)).alloc (.cells #[.int .i64 a,.int .i64 xa,.int .i64 xb,.int .i64 xc,.int .i64 xk,.int .i64 xn,.slice ra rl rc,.slice aa al ac] 65)) w.heap.size #[.slice o lm cm] 24:=Blk.new1 _ _ _ _ _;have b:Blk ((w.alloc (.cells #[.slice o lm cm] 24)).alloc (.cells #[.int .i64 a,.int .i64 xa,.int .i64 xb,.int .i64 xc,.int .i64 xk,.int .i64 xn,.slice ra rl rc,.slice aa al ac] 65)) (w.heap.size+1) #[.int .i64 a,.int .i64 xa,.int .i64 xb,.int .i64 xc,.int .i64 xk,.int .i64 xn,.slice ra rl rc,.slice aa al ac] 65:=Blk.new2 _ _ _ _;have z:Hid (Below w.heap.size w ((w.alloc (.cells #[.slice o lm cm] 24)).alloc (.cells #[.int .i64 a,.int .i64 xa,.int .i64 xb,.int .i64 xc,.int .i64 xk,.int .i64 xn,.slice ra rl rc,.slice aa al ac] 65))):=QaB _ _ _;unfold Rd;go_enter func144,ntmps144
 go_wp2_with fail
 generalize ((w.alloc (.cells #[.slice o lm cm] 24)).alloc (.cells #[.int .i64 a,.int .i64 xa,.int .i64 xb,.int .i64 xc,.int .i64 xk,.int .i64 xn,.slice ra rl rc,.slice aa al ac] 65))=P at g b z |-;refine(D.out _).mono ?_
 rintro e r ⟨rfl,x⟩;replace g:=(x.block _ (XC g)).trans g;replace b:=(x.block _ (XC b)).trans b;have t:Hid (Below w.heap.size w r):=z.out.trans (x.mono z.out.size);clear x z D
 cases ok with
 | false =>
   have s:Hid (Below w.heap.size w (r.alloc (.cells #[.int .i64 a,.int .i64 p,.int .i64 n,.int .i64 q,.int .i64 l,.int .i64 m,.slice i k h,.slice f j c] 65))):=t.out.trans ((QbH _ _).mono t.out.size);clear B A g b t;go_wp2
   go_ret;exact⟨Z,s.out⟩
 | true =>
   replace g:=((QbH r (.cells #[.int .i64 a,.int .i64 p,.int .i64 n,.int .i64 q,.int .i64 l,.int .i64 m,.slice i k h,.slice f j c] 65)).block _ (XC g)).trans g;replace b:=((QbH r (.cells #[.int .i64 a,.int .i64 p,.int .i64 n,.int .i64 q,.int .i64 l,.int .i64 m,.slice i k h,.slice f j c] 65)).block _ (XC b)).trans b;have s:Hid (Below w.heap.size w (r.alloc (.cells #[.int .i64 a,.int .i64 p,.int .i64 n,.int .i64 q,.int .i64 l,.int .i64 m,.slice i k h,.slice f j c] 65))):=t.out.trans ((QbH _ _).mono t.out.size);go_wp2_with fail
   clear t;generalize r.alloc (.cells #[.int .i64 a,.int .i64 p,.int .i64 n,.int .i64 q,.int .i64 l,.int .i64 m,.slice i k h,.slice f j c] 65)=K at g b s |-;refine(B.out _).mono ?_
   rintro e E ⟨rfl,y⟩;replace g:=(y.block _ (XC g)).trans g;replace b:=(y.block _ (XC b)).trans b;have u:Hid (Below w.heap.size w E):=s.out.trans (y.mono s.out.size);clear y s B
   cases bare with
   | false =>
     clear A g b;go_wp2
     go_ret;exact⟨Z,u.out⟩
   | true =>
     have d:=Qa g 0 _ Z;have L:=Qa b 0 _ Z;have Q:=Qa b 1 _ Z;have H:=Qa b 2 _ Z;have I:=Qa b 3 _ Z;have O:=Qa b 4 _ Z;have M:=Qa b 5 _ Z;have N:=Qa b 6 _ Z;have J:=Qa b 7 _ Z;clear g b;go_wp2_with fail
     refine(A.out _).mono ?_
     rintro e F ⟨rfl,C⟩;have G:Hid (Below w.heap.size w F):=u.out.trans (C.mono u.out.size);clear C u A;go_wp2
     go_ret;exact⟨Z,G.out⟩
theorem Qij (d:Nat) (x:Qz) (i:IP) (s:Option Addr) (z:Nat) (w:World) (A:d<2305843009213693952) :
 Rd prog 144 #[.agg #[.slice s d z],.agg #[.int .i64 x.op,.int .i64 x.a,.int .i64 x.b,.int .i64 x.c,.int .i64 x.k,.int .i64 x.n,.slice i.pR x.regs.length i.cR,.slice i.pA x.args.length i.cA]] w (.int .i64 (x.form d)):=by
 rw[Qz.form_eq]
 have f:=QiY x.op;generalize x.op=op at f |-;rcases f with rfl | rfl | rfl | rfl | rfl | rfl | rfl | rfl | rfl | rfl | rfl | rfl | rfl | rfl | h
 ·rw[Qy (show QC 1=some (false,false,false,false,true,false,false) from Z)]
  exact Q6 (ok:=true) (fun _=>wf1) (fun _=>QK) (fun _=>ZS (by decide))
 ·rw[Qy (show QC 2=some (true,true,false,true,false,false,false) from Z)]
  exact Q6 (ok:=true) (fun _=>wf2) (fun _=>QK) (fun _=>QjW)
 ·rw[Qy (show QC 3=some (false,false,false,false,false,false,false) from Z)]
  exact Q6 (ok:=true) (fun _=>wf3) (fun _=>QK) (fun _=>ZS (by decide))
 ·rw[Qy (show QC 4=some (true,false,false,false,false,false,false) from Z)]
  exact Q6 (ok:=true) (fun _=>wf4) (fun _=>QK) (fun _=>ZS (by decide))
 ·rw[Qy (show QC 5=some (true,false,false,false,false,false,true) from Z)]
  exact Q6 (ok:=true) (fun _=>wf5) (fun _=>QK) (fun _=>QjQ)
 ·rw[Qy (show QC 6=some (true,false,false,true,false,false,false) from Z)]
  exact Q6 (ok:=true) (fun _=>wf6) (fun _=>QK) (fun _=>Qj9)
 ·rw[Qy (show QC 7=some (true,true,false,true,false,false,false) from Z)]
  exact Q6 (ok:=true) (fun _=>wf7) (fun _=>QK) (fun _=>Qjz)
 ·rw[Qy (show QC 8=some (true,true,false,false,false,false,false) from Z)]
  exact Q6 (ok:=true) (fun _=>wf8) (fun _=>QK) (fun _=>ZS (by decide))
 ·rw[Qy (show QC 9=some (true,true,false,false,false,false,false) from Z)]
  exact Q6 (ok:=true) (fun _=>wf9) (fun _=>QK) (fun _=>ZS (by decide))
 ·rw[Qy (show QC 10=some (true,true,true,false,false,false,false) from Z)]
  exact Q6 (ok:=true) (fun _=>wf10) (fun _=>QK) (fun _=>ZS (by decide))
 ·rw[Qy (show QC 11=some (true,false,false,false,false,false,false) from Z)]
  exact Q6 (ok:=true) (fun _=>wf11) (fun _=>QK) (fun _=>ZS (by decide))
 ·rw[Qy (show QC 12=some (false,false,false,false,false,false,false) from Z)]
  exact Q6 (ok:=true) (fun _=>wf12) (fun _=>QK) (fun _=>ZS (by decide))
 ·rw[Qy (show QC 13=some (true,false,false,false,false,false,false) from Z)]
  exact Q6 (ok:=true) (fun _=>wf13) (fun _=>QK) (fun _=>ZS (by decide))
 ·rw[Qy (show QC 14=some (false,false,false,true,false,true,true) from Z)]
  exact Q6 (ok:=true) (fun _=>wf14) (fun _=>QK) (fun _=>QiU A)
 ·have e:QC op=none:=by
   unfold QC;obtain⟨B,t,u,r,v,y,C,p,q,j,g,m,o,l⟩:=h
   simp[B,t,u,r,v,y,C,p,q,j,g,m,o,l]
  rw[show QbX d op x.a x.b x.c x.k x.n x.regs.length x.args.length=3 by unfold QbX;rw[e]]
  exact Q6 (ok:=false) (bare:=QaK x.a x.b x.c x.k x.n x.regs.length x.args.length) (fun _=>Qmf h) (fun _=>QK) (fun _=>ZS ⟨h.2.1,h.2.2.2.2.2.1,h.2.2.2.2.2.2.1,h.2.2.2.2.1,h.2.2.2.2.2.2.2.2.2.2.2.2.2⟩)
theorem QH {a w:World}(h:Below B a w) (n:Nat):Below B a (w.drewN n):=⟨h.os,h.tape,h.output,h.size,h.block⟩
theorem QbF {p:Prop}(h:p):Hid p:=h
def QeK (w:World) (O:Nat->Prop) (t:TypeId) (v:Value) (vs:List Value):Prop:=w.ownsRow 0 t 1 v vs.length vs/\∀ g,v.ownBlock=some g->O g
section
variable {w w':World}{O O':Nat->Prop}{t:TypeId}{v:Value}{vs:List Value}
theorem QeK.nil (w:World) (O:Nat->Prop) (t:TypeId):QeK w O t (.slice none 0 0) []:=⟨⟨Z,Or.inl ⟨Z,Z⟩⟩,by simp[Value.ownBlock]⟩
theorem QeK.form (h:QeK w O t v vs):∃ a cap,v=.slice a vs.length cap/\(∀ i,i<vs.length->∃ g,a=some ⟨g,0,none⟩/\O g/\w.cell? ⟨g,i,none⟩=vs[i]?/\w.frozen? ⟨g,i,none⟩=false):=by
 obtain⟨⟨m,j⟩,k⟩:=h
 rcases j with ⟨rfl,f⟩|⟨g,cap,b,rfl,_,c,n,o,p,e⟩
 ·rw[f]
  exact⟨none,0,Z,fun i l=>by omega⟩
 ·refine⟨some ⟨g,0,none⟩,cap,Z,fun i l=>⟨g,Z,k g Z,?_,Qf c i⟩⟩
  have d:i<b.size:=by omega
  rw[Qa c i b[i] (by simp),<-e,XR,Xs (by omega),Array.getElem?_toList,Xj d]
theorem QeK.keep (h:QeK w O t v vs) (hb:∀ g,v.ownBlock=some g->w'.heap[g]?=w.heap[g]?) (e:∀ g,v.ownBlock=some g->O' g):QeK w' O' t v vs:=by
 obtain⟨⟨d,i⟩,k⟩:=h
 refine⟨⟨d,?_⟩,e⟩
 rcases i with f | ⟨g,b,a,rfl,c,j,r⟩
 ·exact Or.inl f
 ·exact Or.inr ⟨g,b,a,Z,c,(hb g Z).trans j,r⟩
theorem QeK.block (h:QeK w O t v vs)(a:v.ownBlock=some g):∃ c,w.heap[g]?=some (.cells c t (0,0)):=by
 obtain⟨⟨i,d⟩,k⟩:=h
 rcases d with ⟨rfl,_⟩|⟨j,f,b,rfl,_,e,r⟩
 ·simp[Value.ownBlock] at a
 ·simp[Value.ownBlock] at a;subst a;exact⟨b,e⟩
theorem QeK.lt (h:QeK w O t v vs)(a:v.ownBlock=some g):g<w.heap.size:=by
 obtain⟨c,b⟩:=h.block a
 exact XC b
theorem QeK.set (h:QeK w O t (.slice (some ⟨g,0,none⟩) n cap) vs) (i:Nat) (u:Value):QeK (w.setCell ⟨g,i,none⟩ u) O t (.slice (some ⟨g,0,none⟩) n cap) (vs.set i u):=by
 obtain⟨⟨p,f⟩,l⟩:=h
 rcases f with ⟨e,_⟩|⟨q,b,a,e,o,m,d,j,k,c⟩
 ·cases e
 ·cases e
  refine⟨⟨by simp,Or.inr ⟨g,cap,a.setIfInBounds i u,by simp,Xb _,Qo m i u,by simpa using d,j,by simpa using k,?_⟩⟩,l⟩
  rw[Array.toList_setIfInBounds,List.length_set,List.take_set,c]
end
def QS (w:World) (b:Nat) (O:Nat->Prop) (L:List Bool):Prop :=
 ∃ v,w.heap[b]?=some (.cells #[v] 160 (0,0))/\QeK w O 4 v (L.map Value.bool)/\O b
section
variable {w w':World}{b:Nat}{O O' P P':Nat->Prop}{L:List Bool}
theorem QS.keep (h:QS w b O L) (hb:∀ g,O g->g<w.heap.size->w'.heap[g]?=w.heap[g]?) (e:∀ g,O g->g<w.heap.size->O' g):QS w' b O' L:=by
 obtain⟨v,d,c,f⟩:=h
 exact⟨v,(hb b f (XC d)).trans d,c.keep (fun g a=>hb g (c.2 g a) (c.lt a)) (fun g a=>e g (c.2 g a) (c.lt a)),e b f (XC d)⟩
theorem QS.below (h:QS w b O L) (k:Below w.heap.size w w'):QS w' b O L:=h.keep (fun g _ a=>k.block g a) (fun g a _=>a)
theorem QS.step (h:QS w b O L) (k:QN P P' w w') (c:∀ x,O x->¬ P x):QS w' b O L:=h.keep (fun g d a=>k.block g a (c g d)) (fun g a _=>a)
theorem QS.mono (h:QS w b O L) (c:∀ g,O g->O' g):QS w b O' L:=h.keep (fun _ _ _=>rfl) (fun g a _=>c g a)
theorem QS.lt (h:QS w b O L):b<w.heap.size:=by obtain⟨v,a,d,c⟩:=h;exact XC a
theorem QS.cells (h:QS w b O L):∃ a cap,w.cell? ⟨b,0,none⟩=some (.slice a L.length cap)/\w.frozen? ⟨b,0,none⟩=false/\w.ownsRow 0 4 1 (.slice a L.length cap) L.length (L.map Value.bool) /\
 ∀ i,i<L.length->∃ g,a=some ⟨g,0,none⟩/\O g/\w.cell? ⟨g,i,none⟩=some (.bool (L.getD i false))/\w.frozen? ⟨g,i,none⟩=false/\∀ u,QS (w.setCell ⟨g,i,none⟩ (.bool u)) b O (L.set i u):=by
 obtain⟨v,e,d,p⟩:=h
 obtain⟨a,cap,rfl,k⟩:=d.form
 rw[XN] at e d k
 have l:=d.1;rw[XN] at l
 refine⟨a,cap,Qa e 0 _ Z,Qf e 0,l,fun i j=>?_⟩
 obtain⟨g,rfl,m,n,o⟩:=k i j
 refine⟨g,Z,m,?_,o,fun u=>⟨.slice (some ⟨g,0,none⟩) L.length cap,?_,?_,p⟩⟩
 ·rw[n,XS,Zg j];simp[List.getD,j]
 ·obtain⟨c,f⟩:=d.block (g:=g) Z
  rw[Xd _ _ _ _ (Q8 e f (by decide))];exact e
 ·rw[List.map_set];exact d.set i (.bool u)
theorem QS.push (h:QS w b O L){d:Nat}{o:Obj}{w9:World}(B:w.cell? ⟨b,0,none⟩=some (.slice a L.length cap))
 (D:w9.ownsRow 0 4 1 (.slice (some ⟨g,0,none⟩) (L.length+1) d) (L.length+1) (L.map Value.bool++[.bool true])) (i:(w.alloc o).grownBy w9 (Value.slice a L.length cap).ownBlock) (z:(Value.slice a L.length cap).ownBlock=some g\/g=w.heap.size+1) (A:g<w9.heap.size) :
 w9.cell? ⟨b,0,none⟩=some (.slice a L.length cap)/\w9.frozen? ⟨b,0,none⟩=false /\
 QS (w9.setCell ⟨b,0,none⟩ (.slice (some ⟨g,0,none⟩) (L.length+1) d)) b (fun x=>O x\/(w.heap.size<=x/\x<w9.heap.size)) (L++[true])/\QN O (fun x=>O x\/(w.heap.size<=x/\x<w9.heap.size)) w (w9.setCell ⟨b,0,none⟩ (.slice (some ⟨g,0,none⟩) (L.length+1) d)):=by
 obtain⟨v,m,s,u⟩:=h
 have e:=Qa m 0 _ Z;rw[B] at e
 simp only[Option.some.injEq] at e
 subst e;have p:b<w.heap.size:=XC m
 have j:∀ l,(Value.slice a L.length cap).ownBlock=some l->b≠l:=fun l f=>by
  obtain⟨c,C⟩:=s.block f
  exact Q8 m C (by decide)
 have t:w9.heap[b]?=some (.cells #[.slice a L.length cap] 160 (0,0)):=by
  have:=i.block b (by simp;omega) (fun e=>j b e.symm Z)
  rw[this,Below.heap_alloc _ _ _ p];exact m
 have n:b≠g:=by
  rcases z with h | h
  ·exact j g h
  ·omega
 have r:=i.size;simp only[World.size_alloc] at r
 refine⟨Qa t 0 _ Z,Qf t 0,⟨.slice (some ⟨g,0,none⟩) (L.length+1) d,?_,⟨?_,fun l f=>?_⟩,.inl u⟩,?_⟩
 ·rw[Qo t];rfl
 ·have:QeK w9 (fun _=>True) 4 (.slice (some ⟨g,0,none⟩) (L.length+1) d) ((L++[true]).map Value.bool):=⟨by simpa using D,fun _ _=>trivial⟩
  exact(this.keep (w':=w9.setCell ⟨b,0,none⟩ (.slice (some ⟨g,0,none⟩) (L.length+1) d)) (O':=fun _=>True) (fun l f=>Xd _ _ _ _ (by simp[Value.ownBlock] at f;subst f;exact fun e=>n e.symm)) (fun _ _=>trivial)).1
 ·simp[Value.ownBlock] at f
  subst f;rcases z with h | h
  ·exact .inl (s.2 _ h)
  ·exact .inr ⟨by omega,A⟩
 ·refine⟨i.os,i.tape,i.output,by simp;omega,fun k q y=>?_,fun k q=>q.imp id fun h=>h.1⟩
  rw[Xd _ _ _ _ (fun e=>y (by subst e;exact u)),i.block k (by simp;omega) (fun e=>y (s.2 k e.symm)),Below.heap_alloc _ _ _ q]
end
theorem Xg:type_of% @Nat.le_of_ble_eq_true:=@Nat.le_of_ble_eq_true
section
variable {w w' w2:World}{b most:Nat}{m:List (Qe 6)}{M M':IM}{sc sa:Int}{g g1:MG}
theorem MAt.callsForm (S:MAt w b most m M sc sa g):∃ gc cap,g.vc=.slice (some ⟨gc,0,none⟩) (M.rest.length+1) cap/\M.rest.length+1<=cap/\w.cell? ⟨gc,M.rest.length,none⟩=some (.pointer (some ⟨g.t.c,0,none⟩)):=by
 rcases S.calls.2 with ⟨_,k⟩|⟨gc,cap,i,e,_,j,h,l,n,f⟩
 ·omega
 ·refine⟨gc,cap,e,h,?_⟩
  have d:=S.rows
  have a:(Qaz (g.t::g.fs))[M.rest.length]?=some (.pointer (some ⟨g.t.c,0,none⟩)):=by
   simp[Qaz,<-d]
  rw[<-f,XR,Xs (by omega),Array.getElem?_toList] at a
  exact Qa j _ _ a
theorem Qca (S:MAt w b most m M sc sa g) (k:M.rest.length<=1000) :
 Calls prog 68 #[.pointer (some ⟨b,0,none⟩)] w fun e w'=>e=.returned (.pointer (some ⟨g.t.c,0,none⟩))/\Below w.heap.size w w':=by
 obtain⟨j,i,d,a,l⟩:=S.callsForm
 have h:w.cell? ⟨b,4,none⟩=some g.vc:=Qa S.box 4 _ Z;rw[d] at h
 clear d S;generalize M.rest.length=n at *;have o:(↑(n+1):Int) - 1=n:=by omega
 have f:(n:Int)<(n:Int)+1:=by omega
 go_enter func68,ntmps68
 go_upto_region 1 with fail
 go_quiet (fail)
 go_wp2
 go_ret;exact⟨Z,Qae Zr _⟩
end
abbrev Qbo (x:Qk 6) (b:BP):Array Value:=#[.int .i64 x.regs,.slice b.pP x.params.length b.cP,.slice b.pC x.code.length b.cC,.int .i64 x.fin.op,.int .i64 x.fin.a,.int .i64 x.fin.yes.block,.slice b.e.pYR x.fin.yes.regs.length b.e.cYR,.slice b.e.pYA x.fin.yes.args.length b.e.cYA,.int .i64 x.fin.no.block,.slice b.e.pNR x.fin.no.regs.length b.e.cNR,.slice b.e.pNA x.fin.no.args.length b.e.cNA,.slice b.e.pA x.fin.args.length b.e.cA]
abbrev zeroB:Array Value:=#[.int .i64 0,.slice none 0 0,.slice none 0 0,.int .i64 0,.int .i64 0,.int .i64 0,.slice none 0 0,.slice none 0 0,.int .i64 0,.slice none 0 0,.slice none 0 0,.slice none 0 0]
theorem QhV (x:Qk 6) (b:BP):(Qbo x b).all (·.oneCell')=true:=by
 show ([.int .i64 x.regs,.slice b.pP x.params.length b.cP,.slice b.pC x.code.length b.cC,.int .i64 x.fin.op,.int .i64 x.fin.a,.int .i64 x.fin.yes.block,.slice b.e.pYR x.fin.yes.regs.length b.e.cYR,.slice b.e.pYA x.fin.yes.args.length b.e.cYA,.int .i64 x.fin.no.block,.slice b.e.pNR x.fin.no.regs.length b.e.cNR,.slice b.e.pNA x.fin.no.args.length b.e.cNA,.slice b.e.pA x.fin.args.length b.e.cA]:List Value).toArray.all (·.oneCell')=true;exact all_oneCell_toArray (Xe.1 Z)
theorem QdM {w:World}{c:Array Value}(h:Blk w R c 73) (a:c.size=12) (x:Qk 6) (b:BP):w.there R 0 (Qbo x b).size:=h.there (by rw[a];exact Nat.le_of_eq Z)
theorem QgU {w:World}(h:Blk w R zeroB 73) (x:Qk 6) (b:BP):Blk (w.setCells R 0 (Qbo x b).toList) R (Qbo x b) 73:=Blk.sets (Qbo x b).toList [] zeroB.toList w Z h
theorem QbB {B:Nat}{a:World}{R:Nat}(b:B<=R):∀ (vs:List Value) (o:Nat){w:World},Below B a w->Below B a (w.setCells R o vs)
 | [],_,_,h=>h
 | v::vs,o,w,h=>QbB b vs (o+1) (h.setCell (p:=⟨R,o,none⟩) b v)
def Qmp (w6:World) (b c g1 o1 nm cm fi g2 o2 nb cb bi:Nat) (bl:Qk 6) (p:BP) (t:Tmp) (v:Value) (w:World):Prop :=
 v=(([(0,.pointer (some ⟨b,0,none⟩)),(3,.pointer (some ⟨c,0,none⟩)),(6,.pointer (some ⟨b,0,none⟩)),(7,.pointer (some ⟨b,0,none⟩)),(8,.pointer (some ⟨b,1,none⟩)),(9,.pointer (some ⟨b,1,none⟩)),(10,.slice (some ⟨g1,o1,none⟩) nm cm),(11,.pointer (some ⟨c,0,none⟩)),(12,.pointer (some ⟨c,0,none⟩)),(13,.pointer (some ⟨c,0,none⟩)),(14,.int .i64 (fi:Int)),(15,.pointer (some ⟨g1,o1+fi*4,none⟩)),(16,.pointer (some ⟨g1,o1+fi*4+3,none⟩)),(17,.slice (some ⟨g2,o2,none⟩) nb cb),(18,.pointer (some ⟨c,0,none⟩)),(19,.pointer (some ⟨c,0,none⟩)),(20,.pointer (some ⟨c,1,none⟩)),(21,.int .i64 (bi:Int)),(22,.pointer (some ⟨g2,o2+bi*12,none⟩)),(23,.agg (Qbo bl p))]:List (Tmp × Value)).lookup t).getD undef
theorem ib2 {b i o s l k r u:Nat}{bl:Qk 6}{p:BP}(I:w6.cell? ⟨b,1,none⟩=some (.slice (some ⟨i,o,none⟩) s cm)) (z:w6.cell? ⟨c,0,none⟩=some (.int .i64 (fi:Int))) (G:w6.cell? ⟨c,1,none⟩=some (.int .i64 (bi:Int))) (C:w6.cell? ⟨i,o+fi*4+3,none⟩=some (.slice (some ⟨l,k,none⟩) r u)) (D:Hid (w6.rangeAt l (k+bi*12) (Qbo bl p).toList)) (B:(fi:Int)<s) (A:(bi:Int)<r)
 (a:Act) (m:Nat) (hn:a.tmps.size=m) (x:24<=m) (H:a.tmps.getD 0 undef=.pointer (some ⟨b,0,none⟩)) (F:a.tmps.getD 3 undef=.pointer (some ⟨c,0,none⟩))
 (hend:∀ ops vs w',vs 23=.agg (Qbo bl p)->Below w6.heap.size w6 w'->wpList prog ops Q (Qb8 18 ((Tryz.f69.body.bind (Qn 2)).getD .skip)) (QT a vs [6,7,8,9,10,11,12,13,14,15,16,17,18,19,20,21,22,23]) w') :
 Code.wp prog ((Tryz.f69.body.bind (Qn 2)).getD .skip) Q a w6:=by
 conv=>arg 2;whnf
 refine Qu 18 (Qmp w6 b c i o s cm fi l k r u bi bl p) (fun w=>Below w6.heap.size w6 w) (fun w w'=>Below w.heap.size w w') (outs:=[0,3]) (gs:=[]) (bs:=[true,true,true,true,true,true,true,true,true,true,true,true,true,true,true,true,true,true]) (by kernel_rfl) (n:=24) hn x (by kernel_rfl) (by kernel_rfl) ?hR ?hG (QH Zr 1) ⟨H,F,Y⟩ ?hA ?hend
 case hR=>exact fun t v w w' _ h=>h
 case hG=>exact Y
 case hend=>exact fun ops vs w' e f=>hend ops vs w' (f 23 (by kernel_rfl)) e
 case hA =>
  refine⟨fun a w e f K g=>?_,?_⟩
  ·obtain⟨d,-⟩:=f
   have d:a.tmps.getD 0 undef=.pointer (some ⟨b,0,none⟩):=d;go_simp;exact g _ _ Zr e Z
  refine⟨fun a w e f K g=>?_,?_⟩
  ·obtain⟨d,-⟩:=f
   have d:a.tmps.getD 6 undef=.pointer (some ⟨b,0,none⟩):=d;go_simp;exact g _ _ Zr e Z
  refine⟨fun a w e f K g=>?_,?_⟩
  ·obtain⟨d,-⟩:=f
   have d:a.tmps.getD 7 undef=.pointer (some ⟨b,0,none⟩):=d;go_simp;exact g _ _ Zr e Z
  refine⟨fun a w e f K g=>?_,?_⟩
  ·obtain⟨d,-⟩:=f
   have d:a.tmps.getD 8 undef=.pointer (some ⟨b,1,none⟩):=d;go_simp;exact g _ _ Zr e Z
  refine⟨fun a w e f K g=>?_,?_⟩
  ·obtain⟨d,-⟩:=f
   have d:a.tmps.getD 9 undef=.pointer (some ⟨b,1,none⟩):=d;have y:=QI I e;go_simp;exact g _ _ Zr e Z
  refine⟨fun a w e f K g=>?_,?_⟩
  ·obtain⟨d,-⟩:=f
   have d:a.tmps.getD 3 undef=.pointer (some ⟨c,0,none⟩):=d;go_simp;exact g _ _ Zr e Z
  refine⟨fun a w e f K g=>?_,?_⟩
  ·obtain⟨d,-⟩:=f
   have d:a.tmps.getD 11 undef=.pointer (some ⟨c,0,none⟩):=d;go_simp;exact g _ _ Zr e Z
  refine⟨fun a w e f K g=>?_,?_⟩
  ·obtain⟨d,-⟩:=f
   have d:a.tmps.getD 12 undef=.pointer (some ⟨c,0,none⟩):=d;go_simp;exact g _ _ Zr e Z
  refine⟨fun a w e f K g=>?_,?_⟩
  ·obtain⟨d,-⟩:=f
   have d:a.tmps.getD 13 undef=.pointer (some ⟨c,0,none⟩):=d;have y:=QI z e;go_simp;exact g _ _ Zr e Z
  refine⟨fun a w e f K g=>?_,?_⟩
  ·obtain⟨d,q,-⟩:=f
   have d:a.tmps.getD 10 undef=.slice (some ⟨i,o,none⟩) s cm:=d;have q:a.tmps.getD 14 undef=.int .i64 (fi:Int):=q;go_simp;exact g _ _ Zr e Z
  refine⟨fun a w e f K g=>?_,?_⟩
  ·obtain⟨d,-⟩:=f
   have d:a.tmps.getD 15 undef=.pointer (some ⟨i,o+fi*4,none⟩):=d;go_simp;exact g _ _ Zr e Z
  refine⟨fun a w e f K g=>?_,?_⟩
  ·obtain⟨d,-⟩:=f
   have d:a.tmps.getD 16 undef=.pointer (some ⟨i,o+fi*4+3,none⟩):=d;have y:=QI C e;go_simp;exact g _ _ Zr e Z
  refine⟨fun a w e f K g=>?_,?_⟩
  ·obtain⟨d,-⟩:=f
   have d:a.tmps.getD 3 undef=.pointer (some ⟨c,0,none⟩):=d;go_simp;exact g _ _ Zr e Z
  refine⟨fun a w e f K g=>?_,?_⟩
  ·obtain⟨d,-⟩:=f
   have d:a.tmps.getD 18 undef=.pointer (some ⟨c,0,none⟩):=d;go_simp;exact g _ _ Zr e Z
  refine⟨fun a w e f K g=>?_,?_⟩
  ·obtain⟨d,-⟩:=f
   have d:a.tmps.getD 19 undef=.pointer (some ⟨c,0,none⟩):=d;go_simp;exact g _ _ Zr e Z
  refine⟨fun a w e f K g=>?_,?_⟩
  ·obtain⟨d,-⟩:=f
   have d:a.tmps.getD 20 undef=.pointer (some ⟨c,1,none⟩):=d;have y:=QI G e;go_simp;exact g _ _ Zr e Z
  refine⟨fun a w e f K g=>?_,?_⟩
  ·obtain⟨d,q,-⟩:=f
   have d:a.tmps.getD 17 undef=.slice (some ⟨l,k,none⟩) r u:=d;have q:a.tmps.getD 21 undef=.int .i64 (bi:Int):=q;go_simp;exact g _ _ Zr e Z
  refine⟨fun a w e f K g=>?_,?_⟩
  ·obtain⟨d,-⟩:=f
   have d:a.tmps.getD 22 undef=.pointer (some ⟨l,k+bi*12,none⟩):=d;refine wp_load_mid 73 (.tmp 22) Z l (k+bi*12) d (Qbo bl p).toList _ (fun j v E=>QI (D.out j v E) e) underlying73 Z pSizeB ?_;exact g _ _ Zr e Z
  trivial
section
variable {w w' w2:World}{b most:Nat}{m:List (Qe 6)}{M M':IM}{sc sa:Int}{g g1:MG}
def Qhh (A:Nat->Prop) (bl:Qk 6) (w:World) (e:Ending) (w':World):Prop:=∃ p:BP,e=.returned (.agg (Qbo bl p))/\BIn w' (fun x=>¬ A x) bl p/\Below w.heap.size w w'
theorem QcZ (S:MAt w b most m M sc sa g) (hd:M.rest.length<=1000){fn:Qe 6}{bl:Qk 6}(V:m[M.top.f]?=some fn) (hb:fn.blocks[M.top.b]?=some bl) (hs:m.length<=1000/\fn.blocks.length<=1000) :
 Calls prog 69 #[.pointer (some ⟨b,0,none⟩)] w fun e w'=>Qhh g.A bl w e w':=by
 have u:=Qb (QY w (.cells zeroB 73));have B:=Qb (Qh w zeroB 73);have E:=Qb (S.below u.out);have C:=Qb (Qca E.out hd);have U:=(Zi V).1;have K:=(Zi hb).1;obtain⟨g1,o1,f,F,E1,n⟩:=QbK S.mod V
 obtain⟨g2,o2,p,D,E2,t⟩:=Qby n.blocks hb
 have i:w.cell? ⟨g1,o1+M.top.f*4+3,none⟩=some (.slice f.pB fn.blocks.length f.cB):=E1 3 _ Z;rw[D] at i
 have r:=Qb E2;have z:=Qb (t.mono (O':=fun x=>¬ g.A x) (fun k hk _=>hk.1));have o:=Qb F;have q:=Qb i;clear S V hb E1 n E2 t F i;go_enter func69,ntmps69
 go_upto_region 1 with fail
 generalize w.alloc (.cells zeroB 73)=w1 at E C u B |-;obtain⟨R,hR⟩:∃ R,R=w.heap.size:=⟨_,Z⟩
 have HR:Hid (w.heap.size<=R):=by show _<=_;omega
 rw[<-hR] at B |-
 clear hR;go_upto_region 2 with (go_at_call 68;refine C.out.mono ?_;rintro e' w2 ⟨rfl,H⟩)
 have J:=Qb (E.out.below H);have y:=Qb (u.out.trans (H.mono u.out.size));have s:=Qb (Blk.below B.out H);clear H E u B C;have X:w2.cell? ⟨b,1,none⟩=some (.slice g.pm m.length g.cm):=Qa J.out.box 1 _ Z;have f0:=Qa J.out.top.1 0 _ Z;have f1:=Qa J.out.top.1 1 _ Z;have i:=QI q.out y.out;have l:Hid (w2.rangeAt g2 (o2+M.top.b*12) (Qbo bl p).toList):=fun j v hj=>QI (r.out j v hj) y.out;rw[o.out] at X
 have P:(M.top.f:Int)<m.length:=by omega
 have O:(M.top.b:Int)<fn.blocks.length:=by omega
 clear J U K r q o D;generalize M.top.f=fi at *;generalize M.top.b=bi at *;refine ib2 X f0 f1 i l P O _ _ Z (Xg (by kernel_rfl)) Z Z ?_;rintro Q vs w5 c N;show wpList _ Q _ [_] (QT _ vs [6,7,8,9,10,11,12,13,14,15,16,17,18,19,20,21,22,23]) w5;simp only[QT,Act.put,List.setIfInBounds_toArray,List.set_cons_zero,List.set_cons_succ,c]
 have d:=Qb (Blk.below s.out N);have a:=Qb (QgU d.out bl p);have G:=Qb (QbB HR.out (Qbo bl p).toList 0 (y.out.trans (N.mono y.out.size)));have T:=Qb (z.out.below G.out);clear N c X f0 f1 i l z s y;have TH:=Qb (QdM d.out Z bl p);have SZ:=Qb (show (prog.info? 73).map (·.size)=some (Qbo bl p).size from pSizeB);have ON:=Qb (QhV bl p);obtain⟨I,h⟩:∃ I,Qbo bl p=I:=⟨_,Z⟩
 rw[h] at a G T TH SZ ON |-
 have EC:=Qb h;clear h;clear d;go_wp2_with (refine wpList_store_mid Z 73 (.tmp 2) (.tmp 23) Z R 0 I Z Z TH.out SZ.out ON.out ?_)
 generalize w5.setCells R 0 I.toList=w6 at a G T |-;obtain rfl:=EC.out;have e0:=Qa a.out 0 _ Z;have F:=Qa a.out 1 _ Z;have D:=Qa a.out 2 _ Z;have e3:=Qa a.out 3 _ Z;have e4:=Qa a.out 4 _ Z;have e5:=Qa a.out 5 _ Z;have e6:=Qa a.out 6 _ Z;have e7:=Qa a.out 7 _ Z;have e8:=Qa a.out 8 _ Z;have e9:=Qa a.out 9 _ Z;have L:=Qa a.out 10 _ Z;have W:=Qa a.out 11 _ Z;exact Xy (v:=.agg (Qbo bl p)) (by simp[results,results69,go_sem,e0,F,D,e3,e4,e5,e6,e7,e8,e9,L,W]) Z ⟨p,Z,T.out,G.out⟩
end
theorem QkB (x:Qk 6) (b:BP) (w:World):(Instr.field 73 (.agg (Qbo x b)) 2).run prog w=.ok (.slice b.pC x.code.length b.cC) w:=by kernel_rfl
def QlU (w6:World) (b c i:Nat) (bl:Qk 6) (t:Tmp) (v:Value) (w:World):Prop :=
 match ([(11,fun v w=>∃ p:BP,v=.agg (Qbo bl p)),(12,fun v w=>∃ (a:Option Addr) (d:Nat),v=.slice a bl.code.length d)]:List (Tmp × (Value->World->Prop))).lookup t with
 | some p=>p v w
 | none=>v=(([(0,.pointer (some ⟨b,0,none⟩)),(3,.pointer (some ⟨c,0,none⟩)),(6,.pointer (some ⟨c,0,none⟩)),(7,.pointer (some ⟨c,0,none⟩)),(8,.pointer (some ⟨c,2,none⟩)),(9,.int .i64 (i:Int)),(10,.pointer (some ⟨b,0,none⟩)),(13,.int .i64 (bl.code.length:Int)),(14,.bool (decide ((i:Int)<bl.code.length)))]:List (Tmp × Value)).lookup t).getD undef
theorem ip2 {b:Nat}{bl:Qk 6}{A:Nat->Prop}(B:w6.cell? ⟨c,2,none⟩=some (.int .i64 (i:Int))) (x:Hid (∀ wx,Below w6.heap.size w6 wx->Calls prog 69 #[.pointer (some ⟨b,0,none⟩)] wx fun e w'=>Qhh A bl wx e w'))
 (a:Act) (m:Nat) (hn:a.tmps.size=m) (r:37<=m) (C:a.tmps.getD 0 undef=.pointer (some ⟨b,0,none⟩)) (z:a.tmps.getD 3 undef=.pointer (some ⟨c,0,none⟩)) :
 Code.wp prog ((Tryz.f66.body.bind (Qn 2)).getD .skip) (fun e a' w'=>e=.normal/\∃ vs,a'=QT a vs [6,7,8,9,10,11,12,13,14]/\vs 14=.bool (decide ((i:Int)<bl.code.length))/\Below w6.heap.size w6 w') a w6:=by
 conv=>arg 2;whnf
 refine Zw (QlU w6 b c i bl) (fun w=>Below w6.heap.size w6 w) (fun w w'=>Below w.heap.size w w') (outs:=[0,3]) (gs:=[]) (bs:=[true,true,true,true,true,true,true,true,true]) (by kernel_rfl) (n:=37) hn r (by kernel_rfl) ?hR ?hG (QH Zr 1) ⟨C,z,Y⟩ ?hA ?hend
 case hR =>
  intro t v w w' G h;unfold QlU at h |-;split at h
  ·rename_i p l
   simp only[List.lookup_cons,List.lookup_nil] at l
   split at l
   ·cases l;exact h
   ·split at l
    ·cases l;exact h
    ·cases l
  ·exact h
 case hG=>exact Y
 case hend=>exact fun vs w' g j=>⟨Z,vs,Z,j 14 (by kernel_rfl),g⟩
 case hA =>
  refine⟨fun a w g j K k=>?_,?_⟩
  ·obtain⟨f,-⟩:=j
   have f:a.tmps.getD 3 undef=.pointer (some ⟨c,0,none⟩):=f;go_simp;exact k _ _ Zr g Z
  refine⟨fun a w g j K k=>?_,?_⟩
  ·obtain⟨f,-⟩:=j
   have f:a.tmps.getD 6 undef=.pointer (some ⟨c,0,none⟩):=f;go_simp;exact k _ _ Zr g Z
  refine⟨fun a w g j K k=>?_,?_⟩
  ·obtain⟨f,-⟩:=j
   have f:a.tmps.getD 7 undef=.pointer (some ⟨c,0,none⟩):=f;go_simp;exact k _ _ Zr g Z
  refine⟨fun a w g j K k=>?_,?_⟩
  ·obtain⟨f,-⟩:=j
   have f:a.tmps.getD 8 undef=.pointer (some ⟨c,2,none⟩):=f;have H:=QI B g;go_simp;exact k _ _ Zr g Z
  refine⟨fun a w g j K k=>?_,?_⟩
  ·obtain⟨f,-⟩:=j
   have f:a.tmps.getD 0 undef=.pointer (some ⟨b,0,none⟩):=f;go_simp;exact k _ _ Zr g Z
  refine⟨fun a w g j K k=>?_,?_⟩
  ·obtain⟨f,-⟩:=j
   have f:a.tmps.getD 10 undef=.pointer (some ⟨b,0,none⟩):=f;go_simp;refine Xm (x.out w g) ?_;rintro E D ⟨p,rfl,-,s⟩;go_simp;exact k _ _ s (g.trans (s.mono g.size)) ⟨p,Z⟩
  refine⟨fun a w g j K k=>?_,?_⟩
  ·obtain⟨f,-⟩:=j
   have f:(fun v w=>∃ p:BP,v=.agg (Qbo bl p)) (a.tmps.getD 11 undef) w:=f;generalize o:a.tmps.getD 11 undef=q at f;obtain⟨p,rfl⟩:=f
   have y:=QkB bl p;go_simp;exact k _ _ Zr g ⟨_,_,Z⟩
  refine⟨fun a w g j K k=>?_,?_⟩
  ·obtain⟨f,-⟩:=j
   have f:(fun v w=>∃ (a:Option Addr) (d:Nat),v=.slice a bl.code.length d) (a.tmps.getD 12 undef) w:=f;generalize o:a.tmps.getD 12 undef=q at f;obtain⟨F,I,rfl⟩:=f
   go_simp;exact k _ _ Zr g Z
  refine⟨fun a w g j K k=>?_,?_⟩
  ·obtain⟨f,u,-⟩:=j
   have f:a.tmps.getD 9 undef=.int .i64 (i:Int):=f;have u:a.tmps.getD 13 undef=.int .i64 (bl.code.length:Int):=u;go_simp;refine k _ _ Zr g ?_;show Value.bool _=Value.bool _;congr 1
   first | rfl | (rw[decide_eq_decide];omega)
  trivial
def Qmj (c fi bi i:Nat) (t:Tmp) (v:Value) (w:World):Prop :=
 v=(([(3,.pointer (some ⟨c,0,none⟩)),(15,.pointer (some ⟨c,0,none⟩)),(16,.pointer (some ⟨c,0,none⟩)),(17,.pointer (some ⟨c,0,none⟩)),(18,.int .i64 (fi:Int)),(19,.pointer (some ⟨c,0,none⟩)),(20,.pointer (some ⟨c,0,none⟩)),(21,.pointer (some ⟨c,1,none⟩)),(22,.int .i64 (bi:Int)),(23,.pointer (some ⟨c,0,none⟩)),(24,.pointer (some ⟨c,0,none⟩)),(25,.pointer (some ⟨c,2,none⟩)),(26,.int .i64 (i:Int)),(27,.int .i64 (10000*(fi:Int)+100*(bi:Int)+(i:Int))),(2,.int .i64 (10000*(fi:Int)+100*(bi:Int)+(i:Int)))]:List (Tmp × Value)).lookup t).getD undef
theorem ip3 (x:w6.cell? ⟨c,0,none⟩=some (.int .i64 (fi:Int))) (s:w6.cell? ⟨c,1,none⟩=some (.int .i64 (bi:Int))) (u:w6.cell? ⟨c,2,none⟩=some (.int .i64 (i:Int))) (A:fi<1000/\bi<1000/\i<1000)
 (a:Act) (m:Nat) (hn:a.tmps.size=m) (l:37<=m) (y:a.tmps.getD 3 undef=.pointer (some ⟨c,0,none⟩)) :
 Code.wp prog ((Tryz.f66.body.bind (Qn 3)).getD .skip) (fun e a' w'=>e=.normal/\∃ vs,a'=QT a vs [15,16,17,18,19,20,21,22,23,24,25,26,27,2]/\vs 2=.int .i64 (10000*(fi:Int)+100*(bi:Int)+(i:Int))/\Below w6.heap.size w6 w') a w6:=by
 conv=>arg 2;whnf
 refine Zw (Qmj c fi bi i) (fun w=>Below w6.heap.size w6 w) (fun w w'=>Below w.heap.size w w') (outs:=[3]) (gs:=[]) (bs:=[true,true,true,true,true,true,true,true,true,true,true,true,true,true]) (by kernel_rfl) (n:=37) hn l (by kernel_rfl) ?hR ?hG (QH Zr 1) ⟨y,Y⟩ ?hA ?hend
 case hR=>exact fun t v w w' _ h=>h
 case hG=>exact Y
 case hend=>exact fun vs w' g j=>⟨Z,vs,Z,j 2 (by kernel_rfl),g⟩
 case hA =>
  refine⟨fun a w g j K k=>?_,?_⟩
  ·obtain⟨d,-⟩:=j
   have d:a.tmps.getD 3 undef=.pointer (some ⟨c,0,none⟩):=d;go_simp;exact k _ _ Zr g Z
  refine⟨fun a w g j K k=>?_,?_⟩
  ·obtain⟨d,-⟩:=j
   have d:a.tmps.getD 15 undef=.pointer (some ⟨c,0,none⟩):=d;go_simp;exact k _ _ Zr g Z
  refine⟨fun a w g j K k=>?_,?_⟩
  ·obtain⟨d,-⟩:=j
   have d:a.tmps.getD 16 undef=.pointer (some ⟨c,0,none⟩):=d;go_simp;exact k _ _ Zr g Z
  refine⟨fun a w g j K k=>?_,?_⟩
  ·obtain⟨d,-⟩:=j
   have d:a.tmps.getD 17 undef=.pointer (some ⟨c,0,none⟩):=d;have q:=QI x g;go_simp;exact k _ _ Zr g Z
  refine⟨fun a w g j K k=>?_,?_⟩
  ·obtain⟨d,-⟩:=j
   have d:a.tmps.getD 3 undef=.pointer (some ⟨c,0,none⟩):=d;go_simp;exact k _ _ Zr g Z
  refine⟨fun a w g j K k=>?_,?_⟩
  ·obtain⟨d,-⟩:=j
   have d:a.tmps.getD 19 undef=.pointer (some ⟨c,0,none⟩):=d;go_simp;exact k _ _ Zr g Z
  refine⟨fun a w g j K k=>?_,?_⟩
  ·obtain⟨d,-⟩:=j
   have d:a.tmps.getD 20 undef=.pointer (some ⟨c,0,none⟩):=d;go_simp;exact k _ _ Zr g Z
  refine⟨fun a w g j K k=>?_,?_⟩
  ·obtain⟨d,-⟩:=j
   have d:a.tmps.getD 21 undef=.pointer (some ⟨c,1,none⟩):=d;have q:=QI s g;go_simp;exact k _ _ Zr g Z
  refine⟨fun a w g j K k=>?_,?_⟩
  ·obtain⟨d,-⟩:=j
   have d:a.tmps.getD 3 undef=.pointer (some ⟨c,0,none⟩):=d;go_simp;exact k _ _ Zr g Z
  refine⟨fun a w g j K k=>?_,?_⟩
  ·obtain⟨d,-⟩:=j
   have d:a.tmps.getD 23 undef=.pointer (some ⟨c,0,none⟩):=d;go_simp;exact k _ _ Zr g Z
  refine⟨fun a w g j K k=>?_,?_⟩
  ·obtain⟨d,-⟩:=j
   have d:a.tmps.getD 24 undef=.pointer (some ⟨c,0,none⟩):=d;go_simp;exact k _ _ Zr g Z
  refine⟨fun a w g j K k=>?_,?_⟩
  ·obtain⟨d,-⟩:=j
   have d:a.tmps.getD 25 undef=.pointer (some ⟨c,2,none⟩):=d;have q:=QI u g;go_simp;exact k _ _ Zr g Z
  refine⟨fun a w g j K k=>?_,?_⟩
  ·obtain⟨d,p,o,-⟩:=j
   have d:a.tmps.getD 18 undef=.int .i64 (fi:Int):=d;have p:a.tmps.getD 22 undef=.int .i64 (bi:Int):=p;have o:a.tmps.getD 26 undef=.int .i64 (i:Int):=o;go_simp;refine Xm (Qc1 (f:=fi) (b:=bi) (i:=i) (w:=w) ⟨by omega,by omega,by omega⟩) ?_;rintro B z ⟨rfl,r⟩;go_simp;exact k _ _ r (g.trans (r.mono g.size)) Z
  refine⟨fun a w g j K k=>?_,?_⟩
  ·obtain⟨d,-⟩:=j
   have d:a.tmps.getD 27 undef=.int .i64 (10000*(fi:Int)+100*(bi:Int)+(i:Int)):=d;go_simp;exact k _ _ Zr g Z
  trivial
def Qmo (c fi bi:Nat) (t:Tmp) (v:Value) (w:World):Prop :=
 v=(([(3,.pointer (some ⟨c,0,none⟩)),(28,.pointer (some ⟨c,0,none⟩)),(29,.pointer (some ⟨c,0,none⟩)),(30,.pointer (some ⟨c,0,none⟩)),(31,.int .i64 (fi:Int)),(32,.pointer (some ⟨c,0,none⟩)),(33,.pointer (some ⟨c,0,none⟩)),(34,.pointer (some ⟨c,1,none⟩)),(35,.int .i64 (bi:Int)),(36,.int .i64 (10000*(fi:Int)+100*(bi:Int)+91)),(2,.int .i64 (10000*(fi:Int)+100*(bi:Int)+91))]:List (Tmp × Value)).lookup t).getD undef
theorem ip4 (q:w6.cell? ⟨c,0,none⟩=some (.int .i64 (fi:Int))) (p:w6.cell? ⟨c,1,none⟩=some (.int .i64 (bi:Int))) (x:fi<1000/\bi<1000)
 (a:Act) (m:Nat) (hn:a.tmps.size=m) (k:37<=m) (s:a.tmps.getD 3 undef=.pointer (some ⟨c,0,none⟩)) :
 Code.wp prog ((Tryz.f66.body.bind (Qn 4)).getD .skip) (fun e a' w'=>e=.normal/\∃ vs,a'=QT a vs [28,29,30,31,32,33,34,35,36,2]/\vs 2=.int .i64 (10000*(fi:Int)+100*(bi:Int)+91)/\Below w6.heap.size w6 w') a w6:=by
 conv=>arg 2;whnf
 refine Zw (Qmo c fi bi) (fun w=>Below w6.heap.size w6 w) (fun w w'=>Below w.heap.size w w') (outs:=[3]) (gs:=[]) (bs:=[true,true,true,true,true,true,true,true,true,true]) (by kernel_rfl) (n:=37) hn k (by kernel_rfl) ?hR ?hG (QH Zr 1) ⟨s,Y⟩ ?hA ?hend
 case hR=>exact fun t v w w' _ h=>h
 case hG=>exact Y
 case hend=>exact fun vs w' g i=>⟨Z,vs,Z,i 2 (by kernel_rfl),g⟩
 case hA =>
  refine⟨fun a w g i K j=>?_,?_⟩
  ·obtain⟨d,-⟩:=i
   have d:a.tmps.getD 3 undef=.pointer (some ⟨c,0,none⟩):=d;go_simp;exact j _ _ Zr g Z
  refine⟨fun a w g i K j=>?_,?_⟩
  ·obtain⟨d,-⟩:=i
   have d:a.tmps.getD 28 undef=.pointer (some ⟨c,0,none⟩):=d;go_simp;exact j _ _ Zr g Z
  refine⟨fun a w g i K j=>?_,?_⟩
  ·obtain⟨d,-⟩:=i
   have d:a.tmps.getD 29 undef=.pointer (some ⟨c,0,none⟩):=d;go_simp;exact j _ _ Zr g Z
  refine⟨fun a w g i K j=>?_,?_⟩
  ·obtain⟨d,-⟩:=i
   have d:a.tmps.getD 30 undef=.pointer (some ⟨c,0,none⟩):=d;have r:=QI q g;go_simp;exact j _ _ Zr g Z
  refine⟨fun a w g i K j=>?_,?_⟩
  ·obtain⟨d,-⟩:=i
   have d:a.tmps.getD 3 undef=.pointer (some ⟨c,0,none⟩):=d;go_simp;exact j _ _ Zr g Z
  refine⟨fun a w g i K j=>?_,?_⟩
  ·obtain⟨d,-⟩:=i
   have d:a.tmps.getD 32 undef=.pointer (some ⟨c,0,none⟩):=d;go_simp;exact j _ _ Zr g Z
  refine⟨fun a w g i K j=>?_,?_⟩
  ·obtain⟨d,-⟩:=i
   have d:a.tmps.getD 33 undef=.pointer (some ⟨c,0,none⟩):=d;go_simp;exact j _ _ Zr g Z
  refine⟨fun a w g i K j=>?_,?_⟩
  ·obtain⟨d,-⟩:=i
   have d:a.tmps.getD 34 undef=.pointer (some ⟨c,1,none⟩):=d;have r:=QI p g;go_simp;exact j _ _ Zr g Z
  refine⟨fun a w g i K j=>?_,?_⟩
  ·obtain⟨d,l,-⟩:=i
   have d:a.tmps.getD 31 undef=.int .i64 (fi:Int):=d;have l:a.tmps.getD 35 undef=.int .i64 (bi:Int):=l;go_simp;refine Xm (Qc4 (f:=fi) (b:=bi) (w:=w) ⟨by omega,by omega⟩) ?_;rintro y u ⟨rfl,o⟩;go_simp;exact j _ _ o (g.trans (o.mono g.size)) Z
  refine⟨fun a w g i K j=>?_,?_⟩
  ·obtain⟨d,-⟩:=i
   have d:a.tmps.getD 36 undef=.int .i64 (10000*(fi:Int)+100*(bi:Int)+91):=d;go_simp;exact j _ _ Zr g Z
  trivial
section
variable {w w' w2:World}{b most:Nat}{m:List (Qe 6)}{M M':IM}{sc sa:Int}{g g1:MG}
def IM.place (m:List (Qe 6)) (M:IM):Int:=match m[M.top.f]? with
 | none=>0
 | some fn=>match fn.blocks[M.top.b]? with
   | none=>0
   | some bl=>if M.top.i<bl.code.length then 10000*(M.top.f:Int)+100*(M.top.b:Int)+M.top.i else 10000*(M.top.f:Int)+100*(M.top.b:Int)+91
theorem Qf6 (S:MAt w b most m M sc sa g) (J:M.rest.length<=1000){fn:Qe 6}{bl:Qk 6}(u:m[M.top.f]?=some fn) (hb:fn.blocks[M.top.b]?=some bl) (D:m.length<=1000/\fn.blocks.length<=1000/\bl.code.length<=900) (T:M.top.i<=bl.code.length) :
 Calls prog 66 #[.pointer (some ⟨b,0,none⟩)] w fun e w'=>e=.returned (.int .i64 (IM.place m M))/\Below w.heap.size w w':=by
 have E:Hid (IM.place m M=if M.top.i<bl.code.length then 10000*(M.top.f:Int)+100*(M.top.b:Int)+M.top.i else 10000*(M.top.f:Int)+100*(M.top.b:Int)+91):=by show _=_;unfold IM.place;rw[u];simp only;rw[hb]
 have O:=(Zi u).1;have L:=(Zi hb).1;have C:=Qb (Qca S J);have G:=Qb (fun p (A:Below w.heap.size w p)=>QcZ (S.below A) J u hb ⟨D.1,D.2.1⟩);have q:=Qa S.top.1 0 _ Z;have r:=Qa S.top.1 1 _ Z;have s:=Qa S.top.1 2 _ Z;generalize IM.place m M=K at E |-;clear S u hb;generalize M.top.f=F at *;generalize M.top.b=H at *;generalize M.top.i=i at *;generalize g.t.c=c at *;go_enter func66,ntmps66
 go_upto_region 2 with (go_at_call 68;refine C.out.mono ?_;rintro Q B ⟨rfl,z⟩)
 have o:=Qb z;have l:=Qb (fun p (A:Below B.heap.size B p)=>G.out p (o.out.trans (A.mono o.out.size)));refine Code.wp_mono ?_ (ip2 (QI s z) l _ _ Z (Xg (by kernel_rfl)) Z Z);rintro _ _ P ⟨rfl,R,rfl,h,I⟩;have j:=Qb (o.out.trans (I.mono o.out.size));clear z I o G l C;have q:=QI q j.out;have r:=QI r j.out;have s:=QI s j.out;simp only[QT,Act.put,List.setIfInBounds_toArray,List.set_cons_zero,List.set_cons_succ,h]
 clear h;by_cases k:i<bl.code.length
 ·have a:decide ((i:Int)<bl.code.length)=true:=Xt (by omega);rw[a]
  have y:Hid (K=10000*(F:Int)+100*(H:Int)+i):=by show _=_;rw[E.out,Xs k]
  clear a E;go_upto_region 3 with fail
  refine Code.wp_mono ?_ (ip3 q r s ⟨by omega,by omega,by omega⟩ _ _ Z (Xg (by kernel_rfl)) Z);rintro _ _ N ⟨rfl,x,rfl,d,n⟩;have v:=Qb (j.out.trans (n.mono j.out.size));simp only[QT,Act.put,List.setIfInBounds_toArray,List.set_cons_zero,List.set_cons_succ,d]
  clear n d;rw[<-y.out]
  go_wp2
  go_ret;exact⟨Z,v.out⟩
 ·have a:decide ((i:Int)<bl.code.length)=false:=Xu (by omega);rw[a]
  have y:Hid (K=10000*(F:Int)+100*(H:Int)+91):=by show _=_;rw[E.out,Xr k]
  clear a E;go_upto_region 4 with fail
  refine Code.wp_mono ?_ (ip4 q r ⟨by omega,by omega⟩ _ _ Z (Xg (by kernel_rfl)) Z);rintro _ _ N ⟨rfl,x,rfl,d,n⟩;have v:=Qb (j.out.trans (n.mono j.out.size));simp only[QT,Act.put,List.setIfInBounds_toArray,List.set_cons_zero,List.set_cons_succ,d]
  clear n d;rw[<-y.out]
  go_wp2
  go_ret;exact⟨Z,v.out⟩
end
theorem Xl:type_of% @Below.andThen:=@Below.andThen
structure Wd (w0 w:World) (Bs:List (Nat × Array Value × TypeId)):Prop where
 bel:Below w0.heap.size w0 w
 blk:∀ (i:Nat) x,Bs[i]?=some x->Blk w x.1 x.2.1 x.2.2
 new:∀ (i:Nat) x,Bs[i]?=some x->w0.heap.size<=x.1
 nd:∀ (i j:Nat) x y,Bs[i]?=some x->Bs[j]?=some y->x.1=y.1->i=j
section
variable {w0 w w':World}{Bs:List (Nat × Array Value × TypeId)}
theorem Wd.start (w:World):Wd w w []:=⟨Zr,fun i x h=>by simp at h,fun i x h=>by simp at h,fun i j x y h=>by simp at h⟩
theorem Ye:type_of% @Wd.start:=@Wd.start
theorem Wd.below (h:Wd w0 w Bs) (b:Below w.heap.size w w'):Wd w0 w' Bs:=⟨Xl h.bel b,fun i x a=>(h.blk i x a).below b,h.new,h.nd⟩
theorem Wd.get (h:Wd w0 w Bs) (i:Nat){c:Array Value}{t:TypeId}(a:Bs[i]?=some (B,c,t)):Blk w B c t:=h.blk i _ a
theorem Wd.new' (h:Wd w0 w Bs) (c:Array Value) (t:TypeId):Wd w0 (w.alloc (.cells c t)) ((w.heap.size,c,t)::Bs):=by
 refine⟨Xl h.bel (QbH w _),fun i x a=>?_,fun i x a=>?_,fun i j x y a b e=>?_⟩
 ·cases i with
  | zero=>simp at a;subst a;exact Blk.new w c t
  | succ i=>exact(h.blk i x (by simpa using a)).alloc _
 ·cases i with
  | zero=>simp at a;subst a;exact h.bel.size
  | succ i=>exact h.new i x (by simpa using a)
 ·cases i with
  | zero =>
    cases j with
    | zero=>rfl
    | succ j =>
      simp at a b;subst a
      have:=(h.blk j y b).lt
      simp at e;omega
  | succ i =>
    cases j with
    | zero =>
      simp at a b;subst b
      have:=(h.blk i x a).lt
      simp at e;omega
    | succ j=>rw[h.nd i j x y (by simpa using a) (by simpa using b) e]
theorem Wd.tail {x:Nat × Array Value × TypeId}(h:Wd w0 w (x::Bs)):Wd w0 w Bs :=
 ⟨h.bel,fun i y a=>h.blk (i+1) y (by simpa using a),fun i y a=>h.new (i+1) y (by simpa using a),fun i j y z a b e=>by have:=h.nd (i+1) (j+1) y z (by simpa using a) (by simpa using b) e;omega⟩
theorem Wd.set (h:Wd w0 w Bs) (i:Nat){c c':Array Value}{t:TypeId}{m:List (Nat × Array Value × TypeId)}(q:Bs[i]?=some (B,c,t)) (j:Nat) (v:Value)
 (u:c.setIfInBounds j v=c') (A:Bs.set i (B,c',t)=m):Wd w0 (w.setCell ⟨B,j,none⟩ v) m:=by
 subst A;subst u
 have n:∀ (k:Nat) x,(Bs.set i (B,c.setIfInBounds j v,t))[k]?=some x->(k=i/\x=(B,c.setIfInBounds j v,t))\/(k≠i/\Bs[k]?=some x):=by
  intro k x a;rw[List.getElem?_set] at a
  split at a
  ·rename_i e
   subst e;have r:i<Bs.length:=(Zi q).1;rw[Xs r] at a
   exact .inl ⟨Z,(Xn a).symm⟩
  ·rename_i e
   exact .inr ⟨fun z=>e z.symm,a⟩
 have g:∀ (k:Nat) x,Bs[k]?=some x->k≠i->x.1≠B:=fun k x a f e=>f (h.nd k i x _ a q e);refine⟨h.bel.setCell (p:=⟨B,j,none⟩) (h.new i _ q) v,fun k x a=>?_,fun k x a=>?_,fun k l x y a s e=>?_⟩
 ·rcases n k x a with ⟨rfl,rfl⟩|⟨f,a⟩
  ·exact Qo (h.blk k _ q) j v
  ·exact(h.blk k x a).setOther (fun e=>g k x a f e.symm) v
 ·rcases n k x a with ⟨rfl,rfl⟩|⟨f,a⟩
  ·exact h.new k (B,c,t) q
  ·exact h.new k x a
 ·rcases n k x a with ⟨f,d⟩|⟨f,d⟩
  ·rcases n l y s with ⟨o,b⟩|⟨o,b⟩
   ·rw[f,o]
   ·rw[d] at e;exact absurd e.symm (g l y b o)
  ·rcases n l y s with ⟨o,b⟩|⟨o,b⟩
   ·rw[b] at e;exact absurd e (g k x d f)
   ·exact h.nd k l x y d b e
def Zj (c:Array Value) (j:Nat) (vs:List Value):Array Value:=(c.toList.take j++(vs++c.toList.drop (j+vs.length))).toArray
theorem Qb2 (c:Array Value) (j:Nat) (v:Value) (b:List Value) (h:j+(v::b).length<=c.size):Zj (c.setIfInBounds j v) (j+1) b=Zj c j (v::b):=by
 unfold Zj;congr 1
 have d:j<c.toList.length:=by simp at h |-;omega
 simp only[Array.toList_setIfInBounds]
 rw[List.take_set,List.drop_set_of_lt (by omega),XV,Zg d]
 simp only[Option.toList,List.length_cons]
 have:(c.toList.take j++[c.toList[j]]).set j v=c.toList.take j++[v]:=by
  rw[List.set_append_right _ _ (by simp;omega)]
  have a:j<c.size:=by simpa using d
  simp[Nat.min_eq_left (Nat.le_of_lt a)]
 rw[this,Nat.add_assoc,Nat.add_comm 1]
 simp
theorem Wd.setAt (h:Wd w0 w Bs) (i:Nat){c c':Array Value}{t:TypeId}{b:List (Nat × Array Value × TypeId)}(f:Bs[i]?=some (B,c,t)) (j:Nat) (a:List Value)
 (m:Nat.ble (j+a.length) c.size=true) (l:Zj c j a=c') (n:Bs.set i (B,c',t)=b):Wd w0 (w.setCells B j a) b:=by
 have d:j+a.length<=c.size:=by simpa[Nat.ble_eq] using m
 clear m
 induction a generalizing w Bs c j with
 | nil =>
   subst n
   have:c=c':=by rw[<-l];unfold Zj;simp
   subst this
   have:Bs.set i (B,c,t)=Bs:=by
    apply List.ext_getElem?
    intro k;rw[List.getElem?_set]
    split
    ·rename_i e;subst e;rw[f];simp[(Zi f).1]
    ·rfl
   rw[this];exact h
 | cons v a ih =>
   have g:i<Bs.length:=(Zi f).1;refine ih (c:=c.setIfInBounds j v) (h.set i f j v Z Z) (by rw[List.getElem?_set];simp[g]) (j+1) ?_ ?_ ?_
   ·rw[<-l,Qb2 _ _ _ _ d]
   ·rw[List.set_set];exact n
   ·simp at d |-;omega
theorem Wd.drewN (h:Wd w0 w Bs) (m:Nat):Wd w0 (w.drewN m) Bs:=⟨ZR h.bel,fun i x a=>h.blk i x a,h.new,h.nd⟩
end
theorem QhH (q:Nat) (h:q<4611686018427387904):IntKind.i64.wrap ((q:Int)+1)=(q:Int)+1:=by
 have:(q:Int)<4611686018427387904:=by omega
 have a:((q:Int)+1)%2 ^ 64=(q:Int)+1:=by omega
 simp only[IntKind.wrap,IntKind.signed,IntKind.bits,a,Bool.true_and]
 rw[Xr (by simp only[decide_eq_true_eq];omega)]
theorem Fr.sl2 {n:Nat}{a:Act}{L:List (Tmp × Value)}(h:Fr n a L) (t:Tmp) (v:Value) (e:L.lookup t=some v):a.tmps[t]?.getD undef=v:=by
 rw[<-Za];exact h.sl t v e
structure New (w w':World) (B:Nat):Prop where
 bel:Below w.heap.size w w'
 at_:B=w.heap.size
 size:w'.heap.size=B+1
theorem Qcc {w w':World}(b:Below w.heap.size w w'){p:Addr}{v:Value}(h:w.cell? p=some v):w'.cell? p=some v :=
 (XU (w:=w) (a:=p) (b.block p.block (Xi w p h))).trans h
section
variable {P:Program}{n:Nat}{a:Act}{L:List (Tmp × Value)}{w0 w w':World}{Bs Bs':List (Nat × Array Value × TypeId)}{Q:Exit->Act->World->Prop}{ops:Array Oper}{o:Oper}{rest:List Oper}{t:Tmp}{v:Value}
theorem Qjl (c:Array Value) (b:TypeId) (m:Nat) (j:Fr n a L) (f:Wd w0 w Bs) (g:o.dst=some t) (e:o.guard=none) (i:Nat.blt t n=true)
 (h:∀ K:Act->World->Prop,K (a.put (some t) (.slice (some ⟨w.heap.size,0,none⟩) m m)) (w.alloc (.cells c b))->o.wp P a w K Q)
 (k:∀ a' w' B,Wd w0 w' ((B,c,b)::Bs)->New w w' B->Fr n a' ((t,.slice (some ⟨B,0,none⟩) m m)::L)->wpList P ops Q rest a' w'):wpList P ops Q (o::rest) a w :=
 Q9 j g e i h fun a' d=>k a' _ _ (f.new' c b) ⟨QbH w _,Z,by simp⟩ d
theorem Qjp (e:Fr n a L) (c:Wd w0 w' Bs') (d:o.dst=none) (b:o.guard=none)
 (h:∀ K:Act->World->Prop,K a w'->o.wp P a w K Q)
 (k:∀ w',Wd w0 w' Bs'->wpList P ops Q rest a w'):wpList P ops Q (o::rest) a w :=
 QdG e d b h (k _ c)
theorem QU {fn:Func}{R:Ending->World->Prop}(b:Fr n a L) (d:fn.results=#[.tmp t]) (c:L.lookup t=some v) (e:R (.returned v) w):bodyPost P fn R .ret a w :=
 Xy ((results_tmp d _ _ _).trans (by rw[b.sl t v c])) b.defers e
end
abbrev Qcf:=List (Tmp × (Value->World->Prop))
def Qcf.E (M:Qcf) (t:Tmp) (v:Value) (w:World):Prop:=match M.lookup t with | some p=>p v w | none=>True
def Qfv (R:World->World->Prop):Qcf->Prop
 | []=>True
 | x::r=>(∀ v w w',R w w'->x.2 v w->x.2 v w')/\Qfv R r
theorem QcP {R:World->World->Prop}:∀ (M:Qcf),Qfv R M->∀ t v w w',R w w'->Qcf.E M t v w->Qcf.E M t v w'
 | [],_,_,_,_,_,_,h=>h
 | x::r,hs,t,v,w,w',hr,h=>by
   unfold Qcf.E at *;obtain⟨s,p⟩:=x
   by_cases e:t=s
   ·subst e;simp at h |-
    exact hs.1 _ _ _ hr h
   ·have a:(t==s)=false:=by simpa using e
    simp only[List.lookup_cons,a] at h |-
    exact QcP r hs.2 t v w w' hr h
theorem QjU {l2:List Oper}{outs:List Tmp}{gs:List (Nat × Option Bool)}{a:Act}{w:World}{L:List (Tmp × Value)}
 (M:Qcf) (W:World->Prop) (R:World->World->Prop)
 (B:P.follows .mixedOrders=true) (f:Fr n a L) (I:(L.all fun p=>!(Ql l).contains p.1)=true) (A:Qab l n outs gs bs=true)
 (H:(Qb5 0 (l++l2)&&(Qbg l.length l&&QaQ (l++l2) l.length l2))=true)
 (K:Qfv R M) (N:QaZ (Qcf.E M) W l.toArray gs) (O:W w.drew) (G:QaR (Qcf.E M) a w.drew outs)
 (hA:Qds (Qcf.E M) W R P l bs)
 (c:∀ a' w',W w'->(∀ t,(Ql l).contains t=true->Qcf.E M t (a'.tmps.getD t undef) w')->Fr n a' L->wpList P (l++l2).toArray Q l2 a' w') :
 (Code.region id (l++l2).toArray true).wp P Q a w:=by
 simp only[Bool.and_eq_true] at H
 obtain⟨D,m,y⟩:=H
 refine wp_region_any B ?_
 have u:wpAny P .any l.toArray (Exit.then (fun a w=>wpList P (l++l2).toArray Q l2 a w) Q) l.length (Array.replicate l.length false) a w.drew:=by
  refine QbW (E:=Qcf.E M) (W:=W) (R:=R) (a0:=a) (outs:=outs) (gs:=gs) (bs:=bs) (by rw[f.size];exact A) (QcP M K) N hA ?_ _ _ _ _ (by simp) ?_ ⟨O,Z,Z,fun _ _=>rfl,fun t b _=>QaI outs G t b,?_⟩
  ·intro i w' k T
   have z:∀ t,(Ql l).contains t=true->t<a.tmps.size:=fun t b=>by
    simp only[Qab,Bool.and_eq_true] at A
    have:=Xe.1 A.1.1.1.2 t (by simpa using b)
    rw[f.size];simpa using this
   have s:∀ t,(Ql l).contains t=true->(QT a i (Ql l)).tmps.getD t undef=i t:=fun t b=>by
    have:=Qbf i (Ql l) a t (z t b)
    rw[Xs (by simpa using b)] at this
    rw[Za,this];rfl
   refine c _ w' k (fun t b=>by rw[s t b];exact T t b) ⟨by rw[Qaa,f.size],by rw[ZN,f.defers],fun t v g=>?_⟩
   have B:∃ p∈L,p.1=t:=by
    clear I G c
    have:∀ (L:List (Tmp × Value)),L.lookup t=some v->∃ p∈L,p.1=t:=by
     intro L
     induction L with
     | nil=>intro h;simp at h
     | cons x r ih =>
       intro h;by_cases e:t=x.1
       ·exact⟨x,by simp,e.symm⟩
       ·have U:(t==x.1)=false:=beq_false_of_ne e;rw[List.lookup_cons,U] at h
        obtain⟨p,C,V⟩:=ih h
        exact⟨p,by simp[C],V⟩
    exact this L g
   obtain⟨p,C,rfl⟩:=B
   have S:¬ p.1∈Ql l:=by
    have:=Xe.1 I p C
    simpa using this
   rw[<-f.sl p.1 v g]
   by_cases d:p.1<a.tmps.size
   ·have:=Qbf i (Ql l) a p.1 d
    rw[Xr S] at this
    rw[Za,Za,this]
   ·have F:a.tmps.size<=p.1:=Xo d;rw[Za,Za,Array.getElem?_eq_none (by rw[Qaa];exact F),Array.getElem?_eq_none F]
  ·simp only[Array.toList_replicate]
   exact Zt (List.length_filter_le _ _) (by simp)
  ·intro j o t hj hd g;simp[Array.getD] at g
 have:=Qbk (Q:=Q) D m y l.length (Array.replicate l.length false) a w.drew (by simp) (fun q o hq X=>by simp[Array.getD] at X) u
 have e:(Array.replicate l.length false++Array.replicate l2.length false:Array Bool)=Array.replicate (l++l2).toArray.size false:=by
  simp
 have J:l.length+l2.length=(l++l2).toArray.size:=by simp
 rw[e,J] at this
 exact this
theorem Qa0 {b:List Oper}{outs:List Tmp}{gs:List (Nat × Option Bool)}{a:Act}{w:World}{L:List (Tmp × Value)}
 (k:Nat) (M:Qcf) (W:World->Prop) (R:World->World->Prop)
 (o:P.follows .mixedOrders=true) (q:Fr n a L) (d:(L.all fun p=>!(Ql (b.take k)).contains p.1)=true) (j:Qab (b.take k) n outs gs bs=true)
 (m:(Qb5 0 b&&(Qbg (b.take k).length (b.take k)&&QaQ b (b.take k).length (b.drop k)))=true)
 (f:Qfv R M) (g:QaZ (Qcf.E M) W (b.take k).toArray gs) (i:W w.drew) (e:QaR (Qcf.E M) a w.drew outs)
 (r:Qds (Qcf.E M) W R P (b.take k) bs)
 (c:∀ ops a' w',W w'->(∀ t,(Ql (b.take k)).contains t=true->Qcf.E M t (a'.tmps.getD t undef) w')->Fr n a' L->wpList P ops Q (b.drop k) a' w') :
 (Code.region id b.toArray true).wp P Q a w:=by
 have h:=QjU (id:=id) (l:=b.take k) (l2:=b.drop k) (Q:=Q) M W R o q d j (by rw[List.take_append_drop];exact m) f g i e r (c _);rwa [List.take_append_drop] at h
section
variable {w0 w w' w00:World}{Bs:List (Nat × Array Value × TypeId)}
theorem Wd.add (h:Wd w0 w Bs){c:Array Value}(hb:Blk w B c t) (d:Wd w0 w00 Bs) (f:w00.heap.size<=B):Wd w0 w ((B,c,t)::Bs):=by
 refine⟨h.bel,fun i x a=>?_,fun i x a=>?_,fun i j x y a b e=>?_⟩
 ·cases i with
  | zero=>simp at a;subst a;exact hb
  | succ i=>exact h.blk i x (by simpa using a)
 ·cases i with
  | zero=>simp at a;subst a;have:=d.bel.size;simp only;omega
  | succ i=>exact h.new i x (by simpa using a)
 ·cases i with
  | zero =>
    cases j with
    | zero=>rfl
    | succ j =>
      simp at a b;subst a
      have:=(d.blk j y b).lt
      simp at e;omega
  | succ i =>
    cases j with
    | zero =>
      simp at a b;subst b
      have:=(d.blk i x a).lt
      simp at e;omega
    | succ j=>rw[h.nd i j x y (by simpa using a) (by simpa using b) e]
end
def QfW (o:Oper) (j:Nat):Bool:=o.after.any fun e=>Region.binds .any e&&e.on==j
theorem QhS {o:Oper}(h:QfW o j=true):∃ e∈o.after,Region.binds .any e=true/\e.on=j:=by
 obtain⟨q,b,a⟩:=Array.any_eq_true.1 h
 simp only[Bool.and_eq_true,beq_iff_eq] at a
 exact⟨_,Array.getElem_mem b,a.1,a.2⟩
def Qs (L:List (Tmp × Value)):Operand->Option Value
 | .tmp t=>L.lookup t
 | .const v=>some v
 | .func f=>some (.func (.func f) #[] #[])
 | _=>none
abbrev St (n:Nat) (L:List (Tmp × Value)) (ops:Array Oper) (Q:Exit->Act->World->Prop) (l:List Oper) (w:World):Prop:=∀ a,Fr n a L->wpList prog ops Q l a w
def Gok (ops:Array Oper) (n:Nat) (L:List (Tmp × Value)):Option (Nat × Bool)->Prop
 | none=>True
 | some (g,want)=>∃ tg,(ops[g]?).bind (fun o:Oper=>o.dst)=some tg/\Nat.blt tg n=true/\L.lookup tg=some (.bool want)
section
variable {n:Nat}{a:Act}{L:List (Tmp × Value)}{w0 w:World}{Bs:List (Nat × Array Value × TypeId)}{Q:Exit->Act->World->Prop}{ops:Array Oper}{rest:List Oper}{t:Tmp}{u v:Value}{ty ty2 ty3:TypeId}{pos:String}{aft:Array Edge}{gd:Option (Nat × Bool)}{x y z:Operand}{g tg:Nat}{want b:Bool}
theorem Fr.ev (h:Fr n a L) (e:Qs L x=some v):a.eval x=v:=by
 cases x<;>simp only[Qs,Option.some.injEq,reduceCtorEq] at e
 ·exact h.sl _ _ e
 ·exact e
 ·subst e;rfl
theorem Gok.on {o:Oper}(d:Fr n a L) (h:Gok ops n L o.guard):Region.wanted o (yielded ops a.tmps)=true:=by
 cases hg:o.guard with
 | none=>simp[Region.wanted,hg]
 | some p =>
   obtain⟨g,b⟩:=p
   rw[hg] at h
   obtain⟨i,f,c,e⟩:=h
   rw[QfJ d hg f c e];simp
theorem St.go (b:Fr n a L) (h:St n L ops Q l w):wpList prog ops Q l a w:=h a b
theorem rg (b:Fr n a L) (h:∀ ops,St n L ops Q l w):(Code.region id l.toArray false).wp prog Q a w:=Qap fun ops _=>h ops a b
theorem St.nil (h:∀ a,Fr n a L->Q .normal a w):St n L ops Q [] w:=h
theorem Yb:type_of% @St.nil:=@St.nil
theorem Q3 {o:Oper}(c:Gok ops n L o.guard) (f:o.dst=some t) (g:Nat.blt t n=true)
 (h:∀ ev:Operand->Value,(∀ x v,Qs L x=some v->ev x=v)->(execOp ev o).run prog w=.ok (.value v) w)
 (k:St n ((t,v)::L) ops Q rest w):St n L ops Q (o::rest) w:=fun a b =>
 wpList_step fun K d=>by
  rw[Xs (c.on b)]
  unfold Oper.wp;rw[h a.eval (fun x v e=>b.ev e),Oper.upon_value,f]
  exact d _ _ (k _ (b.put g))
theorem so {op:Op}(h:(ops[g]?).bind (fun o:Oper=>o.dst)=some tg) (c:Nat.blt tg n=true) (f:L.lookup tg=some u) (d:(match u with | .bool b=>b==want | _=>false)=false) (e:Nat.blt t n=true)
 (k:St n ((t,undef)::L) ops Q rest w):St n L ops Q (⟨some t,op,ty,pos,aft,some (g,want)⟩::rest) w:=fun a i =>
 Qk4 i Z Z h c f d e k
theorem sm (b:Gok ops n L gd) (d:Qs L x=some (v)) (c:Nat.blt t n=true)
 (k:St n ((t,v)::L) ops Q rest w):St n L ops Q (⟨some t,.move x,ty,pos,aft,gd⟩::rest) w :=
 Q3 b Z c (fun f a=>by have e:=a _ _ d;simp[go_sem,e]) k
theorem sa (b:Gok ops n L gd) (d:Qs L x=some (v)) (c:Nat.blt t n=true)
 (k:St n ((t,v)::L) ops Q rest w):St n L ops Q (⟨some t,.assign x,ty,pos,aft,gd⟩::rest) w :=
 Q3 b Z c (fun f a=>by have e:=a _ _ d;simp[go_sem,e]) k
theorem sn (c:Gok ops n L gd) (f:Qs L x=some (.bool b)) (d:Nat.blt t n=true)
 (k:St n ((t,.bool (!b))::L) ops Q rest w):St n L ops Q (⟨some t,.unOp .not ty2 x,ty,pos,aft,gd⟩::rest) w :=
 Q3 c Z d (fun g a=>by have e:=a _ _ f;simp[go_sem,e]) k
theorem sp (b:Gok ops n L gd) (d:Qs L x=some (.bool true)) (g:Qs L y=some (v)) (f:Nat.blt t n=true)
 (k:St n ((t,v)::L) ops Q rest w):St n L ops Q (⟨some t,.pick x y z,ty,pos,aft,gd⟩::rest) w :=
 Q3 b Z f (fun h a=>by have e:=a _ _ d;have c:=a _ _ g;simp[go_sem,e,c]) k
theorem spf (b:Gok ops n L gd) (f:Qs L x=some (.bool false)) (d:Qs L z=some (v)) (g:Nat.blt t n=true)
 (k:St n ((t,v)::L) ops Q rest w):St n L ops Q (⟨some t,.pick x y z,ty,pos,aft,gd⟩::rest) w :=
 Q3 b Z g (fun h a=>by have e:=a _ _ f;have c:=a _ _ d;simp[go_sem,e,c]) k
theorem seq {p q:Int}(b:Gok ops n L gd) (d:Qs L x=some (.int .i64 p)) (g:Qs L y=some (.int .i64 q)) (f:Nat.blt t n=true)
 (k:St n ((t,.bool (p==q))::L) ops Q rest w):St n L ops Q (⟨some t,.binOp .eql 3 x y 3,ty,pos,aft,gd⟩::rest) w :=
 Q3 b Z f (fun h a=>by have e:=a _ _ d;have c:=a _ _ g;simp[go_sem,e,c]) k
theorem sne {p q:Int}(b:Gok ops n L gd) (d:Qs L x=some (.int .i64 p)) (g:Qs L y=some (.int .i64 q)) (f:Nat.blt t n=true)
 (k:St n ((t,.bool (p != q))::L) ops Q rest w):St n L ops Q (⟨some t,.binOp .neq 3 x y 3,ty,pos,aft,gd⟩::rest) w :=
 Q3 b Z f (fun h a=>by have e:=a _ _ d;have c:=a _ _ g;simp[go_sem,e,c]) k
theorem slt {p q:Int}(b:Gok ops n L gd) (d:Qs L x=some (.int .i64 p)) (g:Qs L y=some (.int .i64 q)) (f:Nat.blt t n=true)
 (k:St n ((t,.bool (decide (p<q)))::L) ops Q rest w):St n L ops Q (⟨some t,.binOp .lss 3 x y 3,ty,pos,aft,gd⟩::rest) w :=
 Q3 b Z f (fun h a=>by have e:=a _ _ d;have c:=a _ _ g;simp[go_sem,e,c]) k
theorem sgt {p q:Int}(b:Gok ops n L gd) (d:Qs L x=some (.int .i64 p)) (g:Qs L y=some (.int .i64 q)) (f:Nat.blt t n=true)
 (k:St n ((t,.bool (decide (q<p)))::L) ops Q rest w):St n L ops Q (⟨some t,.binOp .gtr 3 x y 3,ty,pos,aft,gd⟩::rest) w :=
 Q3 b Z f (fun h a=>by have e:=a _ _ d;have c:=a _ _ g;simp[go_sem,e,c]) k
theorem sge {p q:Int}(b:Gok ops n L gd) (d:Qs L x=some (.int .i64 p)) (g:Qs L y=some (.int .i64 q)) (f:Nat.blt t n=true)
 (k:St n ((t,.bool (decide (q<=p)))::L) ops Q rest w):St n L ops Q (⟨some t,.binOp .geq 3 x y 3,ty,pos,aft,gd⟩::rest) w :=
 Q3 b Z f (fun h a=>by have e:=a _ _ d;have c:=a _ _ g;simp[go_sem,e,c]) k
theorem sad (h:q<4611686018427387904) (b:Gok ops n L gd) (f:Qs L x=some (.int .i64 (q:Int))) (i:Qs L y=some (.int .i64 1)) (g:Nat.blt t n=true)
 (k:St n ((t,.int .i64 ((q:Int)+1))::L) ops Q rest w):St n L ops Q (⟨some t,.binOp .add 3 x y 3,ty,pos,aft,gd⟩::rest) w :=
 Q3 b Z g (fun j a=>by have e:=a _ _ f;have c:=a _ _ i;have d:=QhH q h;simp[go_sem,e,c,d]) k
theorem QbZ (b:Gok ops n L gd) (f:Qs L x=some (.slice p m c)) (d:Nat.blt t n=true)
 (k:St n ((t,.int .i64 (m:Int))::L) ops Q rest w):St n L ops Q (⟨some t,.call { callee:=.builtin .len,args:=#[x],argTypes:=#[67] },3,pos,aft,gd⟩::rest) w :=
 Q3 b Z d (fun g a=>by have e:=a _ _ f;simp[go_sem,e]) k
theorem Qdu (f:p=some ⟨B,j,none⟩) (b:q<m) (d:Gok ops n L gd) (h:Qs L x=some (.slice p m c)) (r:Qs L y=some (.int .i64 (q:Int))) (i:Nat.blt t n=true)
 (k:St n ((t,.pointer (some ⟨B,j+q*3,none⟩))::L) ops Q rest w):St n L ops Q (⟨some t,.indexAddr 67 x y,ty,pos,aft,gd⟩::rest) w :=
 Q3 d Z i (fun s a=>by have e:=a _ _ h;have g:=a _ _ r;have l:=Int.natCast_nonneg q;have o:=Int.ofNat_lt.2 b;subst f;simp[go_sem,e,g,l,o,b]) k
theorem QeG (b:Gok ops n L gd) (f:Qs L x=some (.slice p m c)) (d:Nat.blt t n=true)
 (k:St n ((t,.int .i64 (m:Int))::L) ops Q rest w):St n L ops Q (⟨some t,.call { callee:=.builtin .len,args:=#[x],argTypes:=#[66] },3,pos,aft,gd⟩::rest) w :=
 Q3 b Z d (fun g a=>by have e:=a _ _ f;simp[go_sem,e]) k
theorem QgO (f:p=some ⟨B,j,none⟩) (b:q<m) (d:Gok ops n L gd) (h:Qs L x=some (.slice p m c)) (r:Qs L y=some (.int .i64 (q:Int))) (i:Nat.blt t n=true)
 (k:St n ((t,.pointer (some ⟨B,j+q*8,none⟩))::L) ops Q rest w):St n L ops Q (⟨some t,.indexAddr 66 x y,ty,pos,aft,gd⟩::rest) w :=
 Q3 d Z i (fun s a=>by have e:=a _ _ h;have g:=a _ _ r;have l:=Int.natCast_nonneg q;have o:=Int.ofNat_lt.2 b;subst f;simp[go_sem,e,g,l,o,b]) k
theorem QdS (b:Gok ops n L gd) (f:Qs L x=some (.slice p m c)) (d:Nat.blt t n=true)
 (k:St n ((t,.int .i64 (m:Int))::L) ops Q rest w):St n L ops Q (⟨some t,.call { callee:=.builtin .len,args:=#[x],argTypes:=#[74] },3,pos,aft,gd⟩::rest) w :=
 Q3 b Z d (fun g a=>by have e:=a _ _ f;simp[go_sem,e]) k
theorem QdA (f:p=some ⟨B,j,none⟩) (b:q<m) (d:Gok ops n L gd) (h:Qs L x=some (.slice p m c)) (r:Qs L y=some (.int .i64 (q:Int))) (i:Nat.blt t n=true)
 (k:St n ((t,.pointer (some ⟨B,j+q*12,none⟩))::L) ops Q rest w):St n L ops Q (⟨some t,.indexAddr 74 x y,ty,pos,aft,gd⟩::rest) w :=
 Q3 d Z i (fun s a=>by have e:=a _ _ h;have g:=a _ _ r;have l:=Int.natCast_nonneg q;have o:=Int.ofNat_lt.2 b;subst f;simp[go_sem,e,g,l,o,b]) k
theorem QcH (b:Gok ops n L gd) (f:Qs L x=some (.slice p m c)) (d:Nat.blt t n=true)
 (k:St n ((t,.int .i64 (m:Int))::L) ops Q rest w):St n L ops Q (⟨some t,.call { callee:=.builtin .len,args:=#[x],argTypes:=#[22] },3,pos,aft,gd⟩::rest) w :=
 Q3 b Z d (fun g a=>by have e:=a _ _ f;simp[go_sem,e]) k
theorem Qe5 (f:p=some ⟨B,j,none⟩) (b:q<m) (d:Gok ops n L gd) (h:Qs L x=some (.slice p m c)) (r:Qs L y=some (.int .i64 (q:Int))) (i:Nat.blt t n=true)
 (k:St n ((t,.pointer (some ⟨B,j+q*4,none⟩))::L) ops Q rest w):St n L ops Q (⟨some t,.indexAddr 22 x y,ty,pos,aft,gd⟩::rest) w :=
 Q3 d Z i (fun s a=>by have e:=a _ _ h;have g:=a _ _ r;have l:=Int.natCast_nonneg q;have o:=Int.ofNat_lt.2 b;subst f;simp[go_sem,e,g,l,o,b]) k
def SF0 (T:TypeId) (f:Nat):Prop:=∀ {n:Nat}{L:List (Tmp × Value)}{ops:Array Oper}{Q:Exit->Act->World->Prop}{rest:List Oper}{w:World}{t:Tmp}{x:Operand}{ty:TypeId}{pos:String}{aft:Array Edge}{gd:Option (Nat × Bool)}{B j:Nat},Gok ops n L gd->Qs L x=some (.pointer (some ⟨B,j,none⟩))->Nat.blt t n=true->St n ((t,.pointer (some ⟨B,j,none⟩))::L) ops Q rest w->St n L ops Q (⟨some t,.fieldAddr T x f,ty,pos,aft,gd⟩::rest) w
theorem Qdn {T:TypeId}(h:∀ (ev:Operand->Value) (x:Operand) (t:Tmp) (ty:TypeId) (pos:String) (aft:Array Edge) (gd:Option (Nat × Bool)) (B j:Nat) (w:World),ev x=.pointer (some ⟨B,j,none⟩)->(execOp ev ⟨some t,.fieldAddr T x f,ty,pos,aft,gd⟩).run prog w=.ok (.value (.pointer (some ⟨B,j,none⟩))) w):SF0 T f :=
 fun b d c k=>Q3 b Z c (fun ev a=>h ev _ _ _ _ _ _ _ _ _ (a _ _ d)) k
def SF (T:TypeId) (f o:Nat):Prop:=∀ {n:Nat}{L:List (Tmp × Value)}{ops:Array Oper}{Q:Exit->Act->World->Prop}{rest:List Oper}{w:World}{t:Tmp}{x:Operand}{ty:TypeId}{pos:String}{aft:Array Edge}{gd:Option (Nat × Bool)}{B j:Nat},Gok ops n L gd->Qs L x=some (.pointer (some ⟨B,j,none⟩))->Nat.blt t n=true->St n ((t,.pointer (some ⟨B,j+o,none⟩))::L) ops Q rest w->St n L ops Q (⟨some t,.fieldAddr T x f,ty,pos,aft,gd⟩::rest) w
theorem Qbh {T:TypeId}(h:∀ (ev:Operand->Value) (x:Operand) (t:Tmp) (ty:TypeId) (pos:String) (aft:Array Edge) (gd:Option (Nat × Bool)) (B j:Nat) (w:World),ev x=.pointer (some ⟨B,j,none⟩)->(execOp ev ⟨some t,.fieldAddr T x f,ty,pos,aft,gd⟩).run prog w=.ok (.value (.pointer (some ⟨B,j+o,none⟩))) w):SF T f o :=
 fun b d c k=>Q3 b Z c (fun ev a=>h ev _ _ _ _ _ _ _ _ _ (a _ _ d)) k
theorem sfType0:SF0 92 0:=Qdn fun _ _ _ _ _ _ _ _ _ _ e=>by simp[go_sem,e]
theorem sfType2:SF 92 2 2:=Qbh fun _ _ _ _ _ _ _ _ _ _ e=>by simp[go_sem,e]
theorem sfIns7:SF 65 7 7:=Qbh fun _ _ _ _ _ _ _ _ _ _ e=>by simp[go_sem,e]
theorem sfTo2:SF 69 2 2:=Qbh fun _ _ _ _ _ _ _ _ _ _ e=>by simp[go_sem,e]
theorem sfEnd3:SF 71 3 5:=Qbh fun _ _ _ _ _ _ _ _ _ _ e=>by simp[go_sem,e]
theorem sfEnd4:SF 71 4 8:=Qbh fun _ _ _ _ _ _ _ _ _ _ e=>by simp[go_sem,e]
theorem sfBlock0:SF0 73 0:=Qdn fun _ _ _ _ _ _ _ _ _ _ e=>by simp[go_sem,e]
theorem sfBlock1:SF 73 1 1:=Qbh fun _ _ _ _ _ _ _ _ _ _ e=>by simp[go_sem,e]
theorem sfBlock2:SF 73 2 2:=Qbh fun _ _ _ _ _ _ _ _ _ _ e=>by simp[go_sem,e]
theorem sfBlock3:SF 73 3 3:=Qbh fun _ _ _ _ _ _ _ _ _ _ e=>by simp[go_sem,e]
theorem sfFunc0:SF0 76 0:=Qdn fun _ _ _ _ _ _ _ _ _ _ e=>by simp[go_sem,e]
theorem sfFunc1:SF 76 1 1:=Qbh fun _ _ _ _ _ _ _ _ _ _ e=>by simp[go_sem,e]
theorem sfFunc2:SF 76 2 2:=Qbh fun _ _ _ _ _ _ _ _ _ _ e=>by simp[go_sem,e]
theorem sfFunc3:SF 76 3 3:=Qbh fun _ _ _ _ _ _ _ _ _ _ e=>by simp[go_sem,e]
theorem sfModule0:SF0 24 0:=Qdn fun _ _ _ _ _ _ _ _ _ _ e=>by simp[go_sem,e]
theorem sfFault0:SF0 32 0:=Qdn fun _ _ _ _ _ _ _ _ _ _ e=>by simp[go_sem,e]
theorem sffuncLook1:SF 119 1 1:=Qbh fun _ _ _ _ _ _ _ _ _ _ e=>by simp[go_sem,e]
theorem sffuncLook2:SF 119 2 5:=Qbh fun _ _ _ _ _ _ _ _ _ _ e=>by simp[go_sem,e]
theorem sfblockLook0:SF0 166 0:=Qdn fun _ _ _ _ _ _ _ _ _ _ e=>by simp[go_sem,e]
theorem sfblockLook1:SF 166 1 6:=Qbh fun _ _ _ _ _ _ _ _ _ _ e=>by simp[go_sem,e]
theorem sfblockLook2:SF 166 2 18:=Qbh fun _ _ _ _ _ _ _ _ _ _ e=>by simp[go_sem,e]
theorem QlM (c:w.cell? ⟨B,j,none⟩=some v) (b:Gok ops n L gd) (f:Qs L x=some (.pointer (some ⟨B,j,none⟩))) (d:Nat.blt t n=true)
 (k:St n ((t,v)::L) ops Q rest w):St n L ops Q (⟨some t,.load 3 x,ty,pos,aft,gd⟩::rest) w :=
 Q3 b Z d (fun g a=>by have e:=a _ _ f;simp[go_sem,e,c]) k
theorem Qa9 (i:Nat){c:Array Value}(d:Wd w0 w Bs) (a:Gok ops n L gd) (f:Qs L x=some (.pointer (some ⟨B,j,none⟩))) (hb:Bs[i]?=some (B,c,bt)) (b:c[j]?=some v) (e:Nat.blt t n=true)
 (k:St n ((t,v)::L) ops Q rest w):St n L ops Q (⟨some t,.load 3 x,ty,pos,aft,gd⟩::rest) w:=QlM (Qa (d.get i hb) j v b) a f e k
theorem Qjs (c:w.cell? ⟨B,j,none⟩=some v) (b:Gok ops n L gd) (f:Qs L x=some (.pointer (some ⟨B,j,none⟩))) (d:Nat.blt t n=true)
 (k:St n ((t,v)::L) ops Q rest w):St n L ops Q (⟨some t,.load 67 x,ty,pos,aft,gd⟩::rest) w :=
 Q3 b Z d (fun g a=>by have e:=a _ _ f;simp[go_sem,e,c]) k
theorem QaC (i:Nat){c:Array Value}(d:Wd w0 w Bs) (a:Gok ops n L gd) (f:Qs L x=some (.pointer (some ⟨B,j,none⟩))) (hb:Bs[i]?=some (B,c,bt)) (b:c[j]?=some v) (e:Nat.blt t n=true)
 (k:St n ((t,v)::L) ops Q rest w):St n L ops Q (⟨some t,.load 67 x,ty,pos,aft,gd⟩::rest) w:=Qjs (Qa (d.get i hb) j v b) a f e k
theorem QkG (c:w.cell? ⟨B,j,none⟩=some v) (b:Gok ops n L gd) (f:Qs L x=some (.pointer (some ⟨B,j,none⟩))) (d:Nat.blt t n=true)
 (k:St n ((t,v)::L) ops Q rest w):St n L ops Q (⟨some t,.load 66 x,ty,pos,aft,gd⟩::rest) w :=
 Q3 b Z d (fun g a=>by have e:=a _ _ f;simp[go_sem,e,c]) k
theorem Qfy (i:Nat){c:Array Value}(d:Wd w0 w Bs) (a:Gok ops n L gd) (f:Qs L x=some (.pointer (some ⟨B,j,none⟩))) (hb:Bs[i]?=some (B,c,bt)) (b:c[j]?=some v) (e:Nat.blt t n=true)
 (k:St n ((t,v)::L) ops Q rest w):St n L ops Q (⟨some t,.load 66 x,ty,pos,aft,gd⟩::rest) w:=QkG (Qa (d.get i hb) j v b) a f e k
theorem QiN (c:w.cell? ⟨B,j,none⟩=some v) (b:Gok ops n L gd) (f:Qs L x=some (.pointer (some ⟨B,j,none⟩))) (d:Nat.blt t n=true)
 (k:St n ((t,v)::L) ops Q rest w):St n L ops Q (⟨some t,.load 74 x,ty,pos,aft,gd⟩::rest) w :=
 Q3 b Z d (fun g a=>by have e:=a _ _ f;simp[go_sem,e,c]) k
theorem QfO (i:Nat){c:Array Value}(d:Wd w0 w Bs) (a:Gok ops n L gd) (f:Qs L x=some (.pointer (some ⟨B,j,none⟩))) (hb:Bs[i]?=some (B,c,bt)) (b:c[j]?=some v) (e:Nat.blt t n=true)
 (k:St n ((t,v)::L) ops Q rest w):St n L ops Q (⟨some t,.load 74 x,ty,pos,aft,gd⟩::rest) w:=QiN (Qa (d.get i hb) j v b) a f e k
theorem Qkn (c:w.cell? ⟨B,j,none⟩=some v) (b:Gok ops n L gd) (f:Qs L x=some (.pointer (some ⟨B,j,none⟩))) (d:Nat.blt t n=true)
 (k:St n ((t,v)::L) ops Q rest w):St n L ops Q (⟨some t,.load 22 x,ty,pos,aft,gd⟩::rest) w :=
 Q3 b Z d (fun g a=>by have e:=a _ _ f;simp[go_sem,e,c]) k
theorem Qdz (i:Nat){c:Array Value}(d:Wd w0 w Bs) (a:Gok ops n L gd) (f:Qs L x=some (.pointer (some ⟨B,j,none⟩))) (hb:Bs[i]?=some (B,c,bt)) (b:c[j]?=some v) (e:Nat.blt t n=true)
 (k:St n ((t,v)::L) ops Q rest w):St n L ops Q (⟨some t,.load 22 x,ty,pos,aft,gd⟩::rest) w:=Qkn (Qa (d.get i hb) j v b) a f e k
theorem Qdx {w:World}{c:Array Value}{t:TypeId}(h:Blk w B c t) (j m:Nat) (hn:Nat.ble (j+m) c.size=true):w.rangeAt B j ((c.toList.drop j).take m):=fun k v a=>by
 have b:k<((c.toList.drop j).take m).length:=(Zi a).1;have d:k<m:=by simp at b;omega
 rw[XR,Xs d,List.getElem?_drop] at a
 exact Qa h (j+k) v (by simpa using a)
theorem Qch {w:World}{c:Array Value}{t:TypeId}(h:Blk w B c t) (j n:Nat) (hn:j+n<=c.size):w.there B j n:=fun k a =>
 ⟨by rw[Qa h (j+k) c[j+k] (by simp[show j+k<c.size by omega])];rfl,Qf h (j+k)⟩
theorem QW {w:World}(h:w.rangeAt B j cs) (b:Below w.heap.size w w'):w'.rangeAt B j cs:=fun k v a=>Qcc b (h k v a)
theorem sSE {d:TypeDesc}(f:prog.underlying ty2=some d) (g:d.isRow=true) (h:w.rangeAt B j cs) (m:(prog.info? ty2).map (·.size)=some cs.length) (b:Gok ops n L gd) (i:Qs L x=some (.pointer (some ⟨B,j,none⟩))) (l:Nat.blt t n=true)
 (k:St n ((t,.agg cs.toArray)::L) ops Q rest w):St n L ops Q (⟨some t,.load ty2 x,ty,pos,aft,gd⟩::rest) w :=
 Q3 b Z l (fun o a=>by
  have e:=a _ _ i;have c:=run_loadAt_mid (P:=prog) w B j ty2 cs d h f g m;unfold execOp;simp only[e,Sem.run_bind,c,Result.andThen_ok,Sem.run_pure]) k
theorem sS {d:TypeDesc}(i m:Nat){c:Array Value}(e:prog.underlying ty2=some d) (h:d.isRow=true) (l:(prog.info? ty2).map (·.size)=some m) (b:Wd w0 w Bs) (a:Gok ops n L gd) (g:Qs L x=some (.pointer (some ⟨B,j,none⟩))) (hb:Bs[i]?=some (B,c,bt)) (hn:Nat.ble (j+m) c.size=true) (f:Nat.blt t n=true)
 (k:St n ((t,.agg ((c.toList.drop j).take m).toArray)::L) ops Q rest w):St n L ops Q (⟨some t,.load ty2 x,ty,pos,aft,gd⟩::rest) w :=
 sSE e h (Qdx (b.get i hb) j m hn) (by rw[l];have:j+m<=c.size:=(by simpa[Nat.ble_eq] using hn);simp;omega) a g f k
theorem QdU {o:Oper}(c:Array Value) (b:TypeId) (i:Wd w0 w Bs) (j:o.dst=some t) (f:Gok ops n L o.guard) (l:Nat.blt t n=true)
 (h:∀ ev:Operand->Value,(∀ x v,Qs L x=some v->ev x=v)->(execOp ev o).run prog w=.ok (.value (.pointer (some ⟨w.heap.size,0,none⟩))) (w.alloc (.cells c b)))
 (k:∀ w' B,Wd w0 w' ((B,c,b)::Bs)->New w w' B->St n ((t,.pointer (some ⟨B,0,none⟩))::L) ops Q rest w'):St n L ops Q (o::rest) w:=fun a d =>
 wpList_step fun K g=>by
  rw[Xs (f.on d)]
  unfold Oper.wp;rw[h a.eval (fun x v e=>d.ev e),Oper.upon_value,j]
  exact g _ _ (k _ _ (i.new' c b) ⟨QbH w _,Z,by simp⟩ _ (d.put l))
theorem sB {cs:Array Value}(c:Wd w0 w Bs) (b:Gok ops n L gd) (f:Qs L x=some (.agg cs)) (d:Nat.blt t n=true)
 (k:∀ w' B,Wd w0 w' ((B,cs,ty2)::Bs)->New w w' B->St n ((t,.pointer (some ⟨B,0,none⟩))::L) ops Q rest w'):St n L ops Q (⟨some t,.box ty2 x,ty,pos,aft,gd⟩::rest) w :=
 QdU cs ty2 c Z b d (fun g a=>by have e:=a _ _ f;simp[go_sem,e]) k
theorem QgK (b:Wd w0 w Bs) (a:Gok ops n L gd) (c:Nat.blt t n=true)
 (k:∀ w' B,Wd w0 w' ((B,#[.int .i64 0,.int .i64 0,.slice none 0 0],92)::Bs)->New w w' B->St n ((t,.pointer (some ⟨B,0,none⟩))::L) ops Q rest w'):St n L ops Q (⟨some t,.alloc 92,ty,pos,aft,gd⟩::rest) w :=
 QdU #[.int .i64 0,.int .i64 0,.slice none 0 0] 92 b Z a c (fun e d=>by simp[go_sem]) k
theorem Qj0 (b:Wd w0 w Bs) (a:Gok ops n L gd) (c:Nat.blt t n=true)
 (k:∀ w' B,Wd w0 w' ((B,#[.int .i64 0,.int .i64 0,.int .i64 0,.int .i64 0,.int .i64 0,.int .i64 0,.slice none 0 0,.slice none 0 0],65)::Bs)->New w w' B->St n ((t,.pointer (some ⟨B,0,none⟩))::L) ops Q rest w'):St n L ops Q (⟨some t,.alloc 65,ty,pos,aft,gd⟩::rest) w :=
 QdU #[.int .i64 0,.int .i64 0,.int .i64 0,.int .i64 0,.int .i64 0,.int .i64 0,.slice none 0 0,.slice none 0 0] 65 b Z a c (fun e d=>by simp[go_sem]) k
theorem QmE (b:Wd w0 w Bs) (a:Gok ops n L gd) (c:Nat.blt t n=true)
 (k:∀ w' B,Wd w0 w' ((B,#[.int .i64 0,.slice none 0 0,.slice none 0 0],69)::Bs)->New w w' B->St n ((t,.pointer (some ⟨B,0,none⟩))::L) ops Q rest w'):St n L ops Q (⟨some t,.alloc 69,ty,pos,aft,gd⟩::rest) w :=
 QdU #[.int .i64 0,.slice none 0 0,.slice none 0 0] 69 b Z a c (fun e d=>by simp[go_sem]) k
theorem Qlx (b:Wd w0 w Bs) (a:Gok ops n L gd) (c:Nat.blt t n=true)
 (k:∀ w' B,Wd w0 w' ((B,#[.int .i64 0,.int .i64 0,.int .i64 0,.slice none 0 0,.slice none 0 0,.int .i64 0,.slice none 0 0,.slice none 0 0,.slice none 0 0],71)::Bs)->New w w' B->St n ((t,.pointer (some ⟨B,0,none⟩))::L) ops Q rest w'):St n L ops Q (⟨some t,.alloc 71,ty,pos,aft,gd⟩::rest) w :=
 QdU #[.int .i64 0,.int .i64 0,.int .i64 0,.slice none 0 0,.slice none 0 0,.int .i64 0,.slice none 0 0,.slice none 0 0,.slice none 0 0] 71 b Z a c (fun e d=>by simp[go_sem]) k
theorem Qfd (b:Wd w0 w Bs) (a:Gok ops n L gd) (c:Nat.blt t n=true)
 (k:∀ w' B,Wd w0 w' ((B,#[.int .i64 0,.slice none 0 0,.slice none 0 0,.int .i64 0,.int .i64 0,.int .i64 0,.slice none 0 0,.slice none 0 0,.int .i64 0,.slice none 0 0,.slice none 0 0,.slice none 0 0],73)::Bs)->New w w' B->St n ((t,.pointer (some ⟨B,0,none⟩))::L) ops Q rest w'):St n L ops Q (⟨some t,.alloc 73,ty,pos,aft,gd⟩::rest) w :=
 QdU #[.int .i64 0,.slice none 0 0,.slice none 0 0,.int .i64 0,.int .i64 0,.int .i64 0,.slice none 0 0,.slice none 0 0,.int .i64 0,.slice none 0 0,.slice none 0 0,.slice none 0 0] 73 b Z a c (fun e d=>by simp[go_sem]) k
theorem QhI (b:Wd w0 w Bs) (a:Gok ops n L gd) (c:Nat.blt t n=true)
 (k:∀ w' B,Wd w0 w' ((B,#[.int .i64 0,.slice none 0 0,.slice none 0 0,.slice none 0 0],76)::Bs)->New w w' B->St n ((t,.pointer (some ⟨B,0,none⟩))::L) ops Q rest w'):St n L ops Q (⟨some t,.alloc 76,ty,pos,aft,gd⟩::rest) w :=
 QdU #[.int .i64 0,.slice none 0 0,.slice none 0 0,.slice none 0 0] 76 b Z a c (fun e d=>by simp[go_sem]) k
theorem Qf1 (b:Wd w0 w Bs) (a:Gok ops n L gd) (c:Nat.blt t n=true)
 (k:∀ w' B,Wd w0 w' ((B,#[.slice none 0 0],24)::Bs)->New w w' B->St n ((t,.pointer (some ⟨B,0,none⟩))::L) ops Q rest w'):St n L ops Q (⟨some t,.alloc 24,ty,pos,aft,gd⟩::rest) w :=
 QdU #[.slice none 0 0] 24 b Z a c (fun e d=>by simp[go_sem]) k
theorem ZI (b:Wd w0 w Bs) (a:Gok ops n L gd) (c:Nat.blt t n=true)
 (k:∀ w' B,Wd w0 w' ((B,#[.int .i64 0,.int .i64 0],32)::Bs)->New w w' B->St n ((t,.pointer (some ⟨B,0,none⟩))::L) ops Q rest w'):St n L ops Q (⟨some t,.alloc 32,ty,pos,aft,gd⟩::rest) w :=
 QdU #[.int .i64 0,.int .i64 0] 32 b Z a c (fun e d=>by simp[go_sem]) k
theorem sT (i:Nat){c:Array Value}{b:List Value}(g:Wd w0 w Bs)
 (o:Qs L x=some (.pointer (some ⟨B,j,none⟩))) (q:Qs L y=some (.agg b.toArray)) (s:(prog.info? ty2).map (·.size)=some b.length) (r:b.all (·.oneCell')=true)
 (hb:Bs[i]?=some (B,c,bt)) (h:Nat.ble (j+b.length) c.size=true)
 (k:∀ w',Wd w0 w' (Bs.set i (B,Zj c j b,bt))->St n L ops Q rest w'):St n L ops Q (⟨none,.store ty2 x y,ty,pos,aft,none⟩::rest) w:=fun a d=>by
 have p:j+b.length<=c.size:=by simpa[Nat.ble_eq] using h
 refine Qjp d (g.setAt i hb j b h Z Z) Z Z (fun K l=>?_) (fun w' f=>k w' f a d);have e:=d.ev o;have m:=d.ev q
 have:=run_storeAt_mid (P:=prog) w B j ty2 b.toArray (by simpa using Qch (g.get i hb) j b.length p) (by simpa using s) (by simpa using r)
 unfold Oper.wp execOp;simp only[e,m,Sem.run_bind,this,Result.andThen_ok,Sem.run_pure]
 rw[Oper.upon_skip];simpa[Act.put] using l
theorem s1 (i:Nat){c:Array Value}(r:(prog.info? ty2).map (·.size)=some 1) (h:Wd w0 w Bs)
 (z:Qs L x=some (.pointer (some ⟨B,j,none⟩))) (D:Qs L y=some v) (A:v.cells=#[v]) (F:v.oneCell'=true)
 (hb:Bs[i]?=some (B,c,bt)) (p:Nat.ble (j+1) c.size=true)
 (k:∀ w',Wd w0 w' (Bs.set i (B,Zj c j [v],bt))->St n L ops Q rest w'):St n L ops Q (⟨none,.store ty2 x y,ty,pos,aft,none⟩::rest) w:=fun a b=>by
 have C:j+1<=c.size:=by simpa[Nat.ble_eq] using p
 refine Qjp b (h.setAt i hb j [v] p Z Z) Z Z (fun K s=>?_) (fun w' g=>k w' g a b);have e:=b.ev z;have t:=b.ev D;have m:=Qch (h.get i hb) j 1 C;have o:=run_storeCells_cells (P:=prog) B j [v] 0 w (fun k f=>by simpa using (m k (by simpa using f)).1) (fun k f=>by simpa using (m k (by simpa using f)).2) (fun u l=>by simp at l;subst l;exact F)
 have E:(Instr.storeAt ty2 (.pointer (some ⟨B,j,none⟩)) v).run prog w=.ok () (w.setCells B j [v]):=by
  cases hq:prog.info? ty2 with
  | none=>simp[hq] at r
  | some q =>
    have d:q.size=1:=by simpa[hq] using r
    simp only[Nat.add_zero] at o
    simp[Instr.storeAt,Instr.sureAddr,storeVar,sizeOf,typeInfo,hq,A,d,o]
 unfold Oper.wp execOp;simp only[e,t,Sem.run_bind,E,Result.andThen_ok,Sem.run_pure]
 rw[Oper.upon_skip];simpa[Act.put] using s
theorem QeC {o:Oper}{f:FuncId}{args:Array Value}{V:Value}(i:Wd w0 w Bs) (c:Gok ops n L o.guard) (d:Rd prog f args w V) (j:o.dst=some t) (l:Nat.blt t n=true)
 (h:∀ ev:Operand->Value,(∀ x v,Qs L x=some v->ev x=v)->(execOp ev o).run prog w=.ok (.enter f args) w)
 (k:∀ w',Wd w0 w' Bs->St n ((t,V)::L) ops Q rest w'):St n L ops Q (o::rest) w:=fun a b =>
 wpList_step fun K g=>by
  rw[Xs (c.on b)]
  unfold Oper.wp;rw[h a.eval (fun x v e=>b.ev e),Oper.upon_enter]
  refine d.mono ?_;rintro e p ⟨rfl,m⟩;rw[j]
  exact g _ _ (k _ (i.below m) _ (b.put l))
def CF (f:FuncId):Prop:=∀ (args:Array Value) (w:World),(callFunc f args).run prog w=.ok (.enter f args) w
theorem ZF {f : FuncId} {fn : Func} (hf : prog.funcs[f]? = some fn) (h1 : (fn.name == "runtime.NumGoroutine") = false) (h2 : fn.body.isNone = false) : CF f := fun args w => by
 have h3 : ¬ fn.name = "runtime.NumGoroutine" := by simpa using h1
 have h4:¬ fn.body=none:=by intro h;rw[h] at h2;cases h2
 simp[callFunc,hf,h3,h4]
theorem Qko {f:FuncId}{m:Array TypeId}{V:Value}(b:CF f) (h:Wd w0 w Bs) (e:Rd prog f #[v0] w V) (d:Gok ops n L gd) (j:Qs L x0=some v0) (i:Nat.blt t n=true)
 (k:∀ w',Wd w0 w' Bs->St n ((t,V)::L) ops Q rest w'):St n L ops Q (⟨some t,.call { callee:=.value (.func f),args:=#[x0],argTypes:=m },ty,pos,aft,gd⟩::rest) w :=
 QeC h d e Z i (fun o a=>by have g:=a _ _ j;have l:=a (.func f) _ Z;have c:=b;unfold CF at c;simp[go_sem,l,c,g]) k
theorem Qib {f:FuncId}{r:Array TypeId}{e:Operand}{c:Value}{V:Value}(b:CF f) (l:Wd w0 w Bs) (h:Rd prog f #[v0,c] w V) (g:Gok ops n L gd) (o:Qs L x0=some v0) (q:Qs L e=some c) (m:Nat.blt t n=true)
 (k:∀ w',Wd w0 w' Bs->St n ((t,V)::L) ops Q rest w'):St n L ops Q (⟨some t,.call { callee:=.value (.func f),args:=#[x0,e],argTypes:=r },ty,pos,aft,gd⟩::rest) w :=
 QeC l g h Z m (fun s a=>by have j:=a _ _ o;have i:=a _ _ q;have p:=a (.func f) _ Z;have d:=b;unfold CF at d;simp[go_sem,p,d,j,i]) k
theorem Qmu {f:FuncId}{q:Array TypeId}{g h:Operand}{e d:Value}{V:Value}(b:CF f) (p:Wd w0 w Bs) (s:Rd prog f #[v0,e,d] w V) (m:Gok ops n L gd) (u:Qs L x0=some v0) (x:Qs L g=some e) (r:Qs L h=some d) (j:Nat.blt t n=true)
 (k:∀ w',Wd w0 w' Bs->St n ((t,V)::L) ops Q rest w'):St n L ops Q (⟨some t,.call { callee:=.value (.func f),args:=#[x0,g,h],argTypes:=q },ty,pos,aft,gd⟩::rest) w :=
 QeC p m s Z j (fun y a=>by have o:=a _ _ u;have l:=a _ _ x;have i:=a _ _ r;have v:=a (.func f) _ Z;have c:=b;unfold CF at c;simp[go_sem,v,c,o,l,i]) k
theorem Qlu {f:FuncId}{p:Array TypeId}{d:Operand}{V:Value}(b:CF f) (i:Wd w0 w Bs) (g:Rd prog f #[v0] w V) (e:Gok ops n L gd) (m:Qs L d=some (.func (.func f) #[] #[])) (l:Qs L x0=some v0) (j:Nat.blt t n=true)
 (k:∀ w',Wd w0 w' Bs->St n ((t,V)::L) ops Q rest w'):St n L ops Q (⟨some t,.call { callee:=.value d,args:=#[x0],argTypes:=p },ty,pos,aft,gd⟩::rest) w :=
 QeC i e g Z j (fun q a=>by have h:=a _ _ l;have o:=a _ _ m;have c:=b;unfold CF at c;simp[go_sem,o,c,h]) k
theorem Qj1 {f:FuncId}{u:Array TypeId}{e:Operand}{g:Operand}{c cp:Value}{V:Value}(b:CF f) (m:Wd w0 w Bs) (i:Rd prog f #[v0,c,cp] w V) (h:Gok ops n L gd) (q:Qs L e=some (.func (.func f) #[] #[cp])) (p:Qs L x0=some v0) (s:Qs L g=some c) (o:Nat.blt t n=true)
 (k:∀ w',Wd w0 w' Bs->St n ((t,V)::L) ops Q rest w'):St n L ops Q (⟨some t,.call { callee:=.value e,args:=#[x0,g],argTypes:=u },ty,pos,aft,gd⟩::rest) w :=
 QeC m h i Z o (fun v a=>by have l:=a _ _ p;have j:=a _ _ s;have r:=a _ _ q;have d:=b;unfold CF at d;simp[go_sem,r,d,l,j]) k
theorem cf93:CF 93:=ZF func93 (by kernel_rfl) (by kernel_rfl)
theorem cf141:CF 141:=ZF func141 (by kernel_rfl) (by kernel_rfl)
theorem cf56:CF 56:=ZF func56 (by kernel_rfl) (by kernel_rfl)
theorem cf57:CF 57:=ZF func57 (by kernel_rfl) (by kernel_rfl)
theorem cf58:CF 58:=ZF func58 (by kernel_rfl) (by kernel_rfl)
theorem cf59:CF 59:=ZF func59 (by kernel_rfl) (by kernel_rfl)
theorem cf60:CF 60:=ZF func60 (by kernel_rfl) (by kernel_rfl)
theorem cf91:CF 91:=ZF func91 (by kernel_rfl) (by kernel_rfl)
theorem cf92:CF 92:=ZF func92 (by kernel_rfl) (by kernel_rfl)
theorem cf94:CF 94:=ZF func94 (by kernel_rfl) (by kernel_rfl)
theorem cf95:CF 95:=ZF func95 (by kernel_rfl) (by kernel_rfl)
theorem cf96:CF 96:=ZF func96 (by kernel_rfl) (by kernel_rfl)
theorem cf97:CF 97:=ZF func97 (by kernel_rfl) (by kernel_rfl)
theorem cf98:CF 98:=ZF func98 (by kernel_rfl) (by kernel_rfl)
theorem cf99:CF 99:=ZF func99 (by kernel_rfl) (by kernel_rfl)
theorem cf100:CF 100:=ZF func100 (by kernel_rfl) (by kernel_rfl)
theorem cf184:CF 184:=ZF func184 (by kernel_rfl) (by kernel_rfl)
theorem cf138:CF 138:=ZF func138 (by kernel_rfl) (by kernel_rfl)
theorem cf140:CF 140:=ZF func140 (by kernel_rfl) (by kernel_rfl)
theorem cf142:CF 142:=ZF func142 (by kernel_rfl) (by kernel_rfl)
theorem cf143:CF 143:=ZF func143 (by kernel_rfl) (by kernel_rfl)
theorem cf146:CF 146:=ZF func146 (by kernel_rfl) (by kernel_rfl)
theorem cf147:CF 147:=ZF func147 (by kernel_rfl) (by kernel_rfl)
theorem cf148:CF 148:=ZF func148 (by kernel_rfl) (by kernel_rfl)
theorem cf167:CF 167:=ZF func167 (by kernel_rfl) (by kernel_rfl)
theorem cf168:CF 168:=ZF func168 (by kernel_rfl) (by kernel_rfl)
theorem cf169:CF 169:=ZF func169 (by kernel_rfl) (by kernel_rfl)
theorem cf170:CF 170:=ZF func170 (by kernel_rfl) (by kernel_rfl)
theorem cf183:CF 183:=ZF func183 (by kernel_rfl) (by kernel_rfl)
theorem infType:(prog.info? 92).map (·.size)=some 3:=by kernel_rfl
theorem infIns:(prog.info? 65).map (·.size)=some 8:=by kernel_rfl
theorem infTo:(prog.info? 69).map (·.size)=some 3:=by kernel_rfl
theorem infEnd:(prog.info? 71).map (·.size)=some 9:=by kernel_rfl
theorem infBlock:(prog.info? 73).map (·.size)=some 12:=by kernel_rfl
theorem infFunc:(prog.info? 76).map (·.size)=some 4:=by kernel_rfl
theorem infModule:(prog.info? 24).map (·.size)=some 1:=by kernel_rfl
theorem infFault:(prog.info? 32).map (·.size)=some 2:=by kernel_rfl
theorem inffuncLook:(prog.info? 119).map (·.size)=some 6:=by kernel_rfl
theorem infblockLook:(prog.info? 166).map (·.size)=some 19:=by kernel_rfl
theorem inf1Ints:(prog.info? 63).map (·.size)=some 1:=by kernel_rfl
theorem inf1Types:(prog.info? 67).map (·.size)=some 1:=by kernel_rfl
theorem inf1Inss:(prog.info? 66).map (·.size)=some 1:=by kernel_rfl
theorem inf1Blocks:(prog.info? 74).map (·.size)=some 1:=by kernel_rfl
theorem QJ {fn:Func}{R:Ending->World->Prop}{d:TypeDesc}(i:Nat){c:Array Value}(f:Fr n a L) (h:Wd w0 w Bs) (j:fn.results=#[.cell t ty]) (m:L.lookup t=some (.pointer (some ⟨B,0,none⟩))) (hb:Bs[i]?=some (B,c,bt))
 (k:prog.underlying ty=some d) (l:d.isRow=true) (o:(prog.info? ty).map (·.size)=some c.size) (g:R (.returned (.agg c)) w):bodyPost prog fn R .ret a w:=by
 refine Xy ?_ f.defers g;have e:=f.sl2 t _ m;have b:=run_loadVar_mid (P:=prog) w B 0 ty c.toList d (by have:=Qdx (h.get i hb) 0 c.size (by simp[Nat.ble_eq]);rw[List.drop_zero,XO (by simp)] at this;exact this) k l (by simpa using o);simp only[Array.toArray_toList] at b
 simp[results,j,e,asAddr,b]
end
end Go.Proofs.YtofjjohefamljafGreat
