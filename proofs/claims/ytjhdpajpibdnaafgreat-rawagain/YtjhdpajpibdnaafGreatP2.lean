import Derived.Test.YtjhdpajpibdnaafGreatP1
import Derived.Orders
import Derived.Deep.DeepCutAuto
import Derived.Deep.CutBlock
import Derived.Lib.MinMax
import Derived.Laws.CopyRow
import Derived.Laws.CopyOwn
import Derived.Maps.AppendAt
import Derived.Deep.RegionWith
set_option maxHeartbeats 16000000
set_option maxRecDepth 100000
namespace Go.Proofs.YtjhdpajpibdnaafGreat
open Go.ChangeShapes Go.WideShapes Go.ChangeAt Go.RowKit _root_.Go.Proofs.Tryz
set_option linter.unusedSimpArgs false
set_option linter.unusedVariables false
variable {w w' w6 w1 w2:World}{n b c k m rc ac X j B i cm g N d f fi cap bp q R pages id bi cc funcs s ci rl al ca ri vl most cR cA G:Nat}{O Q O':Nat→Prop}{l xs regs inp:List Int}{p a rg ag pm pi pa pR pA ra aa:Option Addr}{t e:TypeId}{v:Value}{P:Program}{L bs:List Bool}{x ya xc xk fr xa xb xn yb:Int}{ds cs:List Value}{ops:Array Oper}
def QbR (m:List (MFunc 6)) (M:IM):Prop:=M.done=true\/∃ g fn bl s,Inv m g M fn bl s
theorem JSt.upto_mf:∀ (l:List Qs) (s:JSt),(s.upto l).m=s.m/\(s.upto l).f=s.f
 | [],s=>⟨Z,Z⟩
 | x::l,s=>by
   have:=JSt.upto_mf l (s.next x)
   exact this
section
variable {m:List (MFunc 6)}{g g':Sig}{M M':IM}{fn:MFunc 6}{bl:MBlock 6}{s:JSt}{x:Qs}{op:Int->Int->Int->Option Int}
theorem Inv.mf (I:Inv m g M fn bl s):s.m=m/\s.f=fn:=by
 have:=JSt.upto_mf (bl.code.take M.top.i) (JSt.start m fn bl)
 rw[I.hs];exact this
theorem Inv.on (I:Inv m g M fn bl s) (a:bl.code[M.top.i]?=some x) (c:M'.top.f=M.top.f) (d:M'.top.b=M.top.b) (hi:M'.top.i=M.top.i+1) (e:M'.rest=M.rest) (F:FrT g' M'.h (s.next x) M'.top.v M'.top.r) (S:StT g' M'.h) (K:Stk m g' M'.h (Own (s.next x) M'.top.r) fn M.top.f M'.top.r M.rest):Inv m g' M' fn bl (s.next x):=by
 have j:=(Zi a).1;refine⟨by rw[c];exact I.hf,by rw[d];exact I.hb,by rw[hi];omega,?_,F,S,by rw[c,e];exact K⟩
 rw[hi,XV,a]
 show s.next x=(JSt.start m fn bl).upto (bl.code.take M.top.i++[x])
 rw[JSt.upto_snoc,<-I.hs]
theorem Inv.val (I:Inv m g M fn bl s) (w:bl.code[M.top.i]?=some x) (n:x.op≠3) (o:x.op≠4) (A:M'.top.f=M.top.f) (z:M'.top.b=M.top.b) (hi:M'.top.i=M.top.i+1) (H:M'.rest=M.rest) (a:M'.top.r=M.top.r) (q:g.le g') (l:∀ k p,M.h.place k=some p->∃ p,M'.h.place k=some p) (S:StT g' M'.h){xs:List Q1}(C:M'.top.v=M.top.v++xs) (E:xs.length=(s.makes x).2.length)
 (c:∀ (j:Nat) (y:Q1) (t:TT 6),xs[j]?=some y->(s.makes x).2[j]?=some t->∃ u,rtm M.top.r t=some u/\Qeq g' y u):QbR m M':=by
 refine .inr ⟨g',fn,bl,_,I.on w A z hi H ?_ S ?_⟩
 ·rw[a,C]
  have F:FrT g' M'.h s M.top.v M.top.r:=I.fr.keep q (fun k d=>by obtain⟨p,e⟩:=I.fr.held k d;exact l _ p e);exact F.push E c (Qbb n o) Z
 ·rw[a]
  refine I.stk.keep q (fun k _ ⟨p,e⟩=>l k p e) (fun k d=>?_) (fun k _=>rfl);obtain⟨j,G,D,B⟩:=d
  exact .inl ⟨j,by rw[<-Qbb n o (s:=s)];exact G,D,B⟩
theorem Inv.still (I:Inv m g M fn bl s) (d:bl.code[M.top.i]?=some x) (o:x.op≠3) (u:x.op≠4) (n:M'.top.f=M.top.f) (l:M'.top.b=M.top.b) (hi:M'.top.i=M.top.i+1) (A:M'.rest=M.rest) (a:M'.top.r=M.top.r) (c:M'.h=M.h) (w:M'.top.v=M.top.v) (q:(s.makes x).2=[]):QbR m M' :=
 I.val d o u n l hi A a (fun _ _ _ h=>h) (fun k p e=>⟨p,by rw[c];exact e⟩) (by rw[c];exact I.st) (xs:=[]) (by simpa using w) (by rw[q];rfl) (fun j y t z=>by simp at z)
theorem Inv.one (I:Inv m g M fn bl s) (o:bl.code[M.top.i]?=some x) (A:x.op≠3) (B:x.op≠4) (z:M'.top.f=M.top.f) (q:M'.top.b=M.top.b) (hi:M'.top.i=M.top.i+1) (D:M'.rest=M.rest) (a:M'.top.r=M.top.r) (n:M'.h=M.h){y:Q1}{t:TT 6}(C:M'.top.v=M.top.v++[y]) (l:(s.makes x).2=[t]) (w:∃ u,rtm M.top.r t=some u/\Qeq g y u):QbR m M' :=
 I.val o A B z q hi D a (fun _ _ _ h=>h) (fun k p e=>⟨p,by rw[n];exact e⟩) (by rw[n];exact I.st) (xs:=[y]) C (by rw[l];rfl) (fun j F E d c=>by
  rw[l] at c
  have:j=0:=by have:=(Zi d).1;simp at this;omega
  subst this;simp at d c;subst d c;exact w)
theorem IM.over_good (m:List (MFunc 6)) (M:IM) (e:Int):QbR m (M.over e):=.inl Z
abbrev IM.one (M:IM):IM:={ M with fuel:=M.fuel+1,top:={ M.top with i:=M.top.i+1 } }
def QbW (m:List (MFunc 6)) (op:Int->Int->Int->Option Int) (M:IM) (x:Qs):Prop:=∃ M',IM.ins m op M.one x=some M'/\QbR m M'
theorem QkB (I:Inv m g M fn bl s) (a:bl.code[M.top.i]?=some x) (b:s.code x=0) (h:x.op=1):QbW m op M x:=by
 refine⟨_,by unfold IM.ins;rw[Xs h],?_⟩
 exact I.one a (by omega) (by omega) Z Z Z Z Z Z Z (by rw[Z0 (.inl h)]) (Qd6 _)
theorem Qkx (I:Inv m g M fn bl s) (f:bl.code[M.top.i]?=some x) (p:s.code x=0) (h:x.op=2):QbW m op M x:=by
 have c:=(QM p).2.1;rw[QbN h] at c
 obtain⟨l,j⟩:=QD c
 obtain⟨a,o⟩:=I.fr.num l
 obtain⟨b,d⟩:=I.fr.num j
 unfold QbW IM.ins;rw[Xr (by omega),Xs h]
 show ∃ M',(match QS M.top.v x.a with | none=>none | some a=>match QS M.top.v x.b with | none=>none | some b=>match op x.k a b with | none=>some (M.one.over 1) | some n=>some (M.one.push [Qct n]))=some M'/\QbR m M';rw[o,d]
 cases e:op x.k a b with
 | none=>simp only[e];exact⟨_,Z,IM.over_good _ _ _⟩
 | some n=>simp only[e];exact⟨_,Z,I.one f (by omega) (by omega) Z Z Z Z Z Z Z (by rw[QbN h]) (Qd6 _)⟩
theorem Ql0 (I:Inv m g M fn bl s) (a:bl.code[M.top.i]?=some x) (b:s.code x=0) (h:x.op=12):QbW m op M x:=by
 unfold QbW IM.ins;rw[Xr (by omega),Xr (by omega),Xr (by omega),Xs h]
 show ∃ M',(match M.inp with | []=>some (M.one.over 4) | n::l=>some (IM.push { M.one with inp:=l } [Qct n]))=some M'/\QbR m M'
 cases e:M.inp with
 | nil=>exact⟨_,Z,IM.over_good _ _ _⟩
 | cons n l=>exact⟨_,Z,I.one a (by omega) (by omega) Z Z Z Z Z Z Z (by rw[Z0 (.inr h)]) (Qd6 _)⟩
theorem QjK (I:Inv m g M fn bl s) (c:bl.code[M.top.i]?=some x) (d:s.code x=0) (h:x.op=13):QbW m op M x:=by
 have b:=(QM d).2.1;rw[Qbz h] at b
 obtain⟨a,f⟩:=I.fr.num b
 unfold QbW IM.ins;rw[Xr (by omega),Xr (by omega),Xr (by omega),Xr (by omega),Xs h]
 show ∃ M',(match QS M.top.v x.a with | none=>none | some n=>if M.out.length=2000 then some (M.one.over 8) else some { M.one with out:=M.out++[n] })=some M'/\QbR m M';rw[f]
 by_cases e:M.out.length=2000
 ·simp only[e,if_true];exact⟨_,Z,IM.over_good _ _ _⟩
 ·simp only[e,if_false];exact⟨_,Z,I.still c (by omega) (by omega) Z Z Z Z Z Z Z (by rw[Qbz h])⟩
theorem Zv (h:x.op=4\/x.op=5\/x.op=6\/x.op=7\/x.op=8\/x.op=9\/x.op=10\/x.op=11):IM.ins m op M x=M.mem x:=by
 unfold IM.ins;rw[Xr (by omega),Xr (by omega),Xr (by omega),Xr (by omega),Xr (by omega),Xr (by omega)]
theorem Qd.get_nat {h:Qd}{v:Q1}{t:Qw}(e:h.thing v=some t){k:Int}(a:0<=k):h.get v k=match t.l[k.toNat]? with | none=>(noV,1) | some x=>(x,0):=by
 unfold Qd.get;rw[e];simp only;rw[Xr (by omega)];first | done | (cases t.l[k.toNat]?<;>rfl)
theorem QjM (I:Inv m g M fn bl s) (d:bl.code[M.top.i]?=some x) (q:s.code x=0) (h:x.op=11):QbW m op M x:=by
 have c:=(QM q).2.1;rw[QbJ h] at c
 obtain⟨a,t,u,C,r,A,n,k,B,y,e⟩:=I.fr.want c
 obtain⟨p,f⟩:=e Z (by omega)
 obtain⟨w,j,z,D⟩:=n.thing I.st (.inr y) f
 unfold QbW;rw[Zv (by omega)]
 unfold IM.mem;have b:QQ M.one.top.v x.a=some a:=r;rw[b]
 simp only
 rw[Xr (by omega),Xr (by omega),Xr (by omega),Xr (by omega),Xr (by omega),Xr (by omega),Xr (by omega)]
 have o:M.h.len a=((w.l.length:Int),0):=by unfold Qd.len;rw[j]
 show ∃ M',(if a.kind=4/\(M.h.len a).2=0 then some (M.one.push [Qct (M.h.len a).1]) else none)=some M'/\QbR m M';rw[o,Xs ⟨k,Z⟩]
 exact⟨_,Z,I.one d (by omega) (by omega) Z Z Z Z Z Z Z (by rw[QbJ h]) (Qd6 _)⟩
theorem Qii (I:Inv m g M fn bl s) (J:bl.code[M.top.i]?=some x) (E:s.code x=0) (h:x.op=9):QbW m op M x:=by
 have f:=(QM E).2.1;rw[Qa3 h] at f
 obtain⟨B,j⟩:=QD f
 obtain⟨a,t,u,O,w,N,K,D,L,A,r⟩:=I.fr.want B
 obtain⟨n,F⟩:=I.fr.num j
 obtain⟨p,C⟩:=r Z (by omega)
 obtain⟨o,e,k,P⟩:=K.thing I.st (.inr A) C
 unfold QbW;rw[Zv (by omega)]
 unfold IM.mem;have c:QQ M.one.top.v x.a=some a:=w;have d:QS M.one.top.v x.b=some n:=F;rw[c]
 simp only
 rw[Xr (by omega),Xr (by omega),Xr (by omega),Xr (by omega),Xr (by omega),Xs h,d]
 simp only
 rw[Xs D]
 show ∃ M',(if (M.h.get a n).2=1 then some (M.one.over 2) else if (M.h.get a n).2=0 then some (M.one.push [(M.h.get a n).1]) else none)=some M'/\QbR m M';by_cases G:n<0
 ·have:M.h.get a n=(noV,1):=by unfold Qd.get;rw[e];simp only;rw[Xs G]
  rw[this]
  exact⟨_,by rw[Xs Z],IM.over_good _ _ _⟩
 ·rw[Qd.get_nat e (by omega)]
  cases ey:o.l[n.toNat]? with
  | none=>exact⟨M.one.over 2,Z,IM.over_good _ _ _⟩
  | some y =>
    refine⟨M.one.push [y],Z,I.one J (by omega) (by omega) Z Z Z Z Z Z Z (by rw[Qa3 h]) ⟨tInt,Z,.inl ⟨Z,?_⟩⟩⟩
    rcases k with ⟨z,H,q⟩|⟨z,H,-⟩
    ·exact q y (Zm ey)
    ·omega
theorem QjO (I:Inv m g M fn bl s) (Q:bl.code[M.top.i]?=some x) (P:s.code x=0) (h:x.op=6):QbW m op M x:=by
 obtain⟨b,c,-⟩:=QM P
 have j:0<=x.k:=by
  unfold Qs.form at b;repeat' split at b
  all_goals first | omega | cases b
 have d:=Qdi (s:=s) h;rw[d] at c
 cases et:s.at x.a with
 | none=>rw[et] at c;cases c
 | some t =>
   rw[et] at c d
   simp only at c d
   by_cases e:s.want x.a 3 true=0
   ·rw[Xs e] at c d
    cases ek:t.2.2[x.k.toNat]? with
    | none=>rw[ek] at c;cases c
    | some w =>
      rw[ek] at d
      simp only at d
      obtain⟨a,U,u,n,G,D,S,O,T,K,C⟩:=I.fr.want e
      rw[et] at n;cases n
      obtain⟨p,N⟩:=C Z (by omega)
      obtain⟨A,E,r,V⟩:=S.thing I.st (.inl K) N
      rcases r with ⟨J,R,-⟩|⟨J,R,B,L⟩
      ·omega
      ·obtain⟨H,o,F⟩:=Qd8 (Zn D).2.2 ek
       obtain⟨y,q⟩:∃ y,A.l[x.k.toNat]?=some y:=⟨_,Zg (by rw[B];exact(Zi o).1)⟩
       have z:M.h.get a x.k=(y,0):=by rw[Qd.get_nat E j,q]
       unfold QbW;rw[Zv (by omega)]
       unfold IM.mem;have f:QQ M.one.top.v x.a=some a:=G;rw[f]
       simp only
       rw[Xr (by omega),Xr (by omega),Xr (by omega),Xs h]
       show ∃ M',(if a.kind=3/\(M.h.get a x.k).2=0 then some (M.one.push [(M.h.get a x.k).1]) else none)=some M'/\QbR m M';rw[z,Xs ⟨O,Z⟩]
       exact⟨_,Z,I.one Q (by omega) (by omega) Z Z Z Z Z Z Z (by rw[d]) ⟨_,TT.ren_at 5 F,L _ y H q o⟩⟩
   ·rw[Xr e] at c;exact absurd c e
theorem Qd.set_place {h:Qd}{v y:Q1}{k:Int}{j:Int}{p:Qr}(e:h.place j=some p):∃ p',(h.set v k y).2.place j=some p':=by
 unfold Qd.set;split
 ·rename_i t q d a
  obtain⟨f,b,c⟩:=Qd.place_some a
  split
  ·exact⟨p,e⟩
  ·split
   ·exact⟨p,e⟩
   ·simp only
    rw[Qd.place_set (Zi b).1]
    split
    ·exact⟨_,by first | rw[Xs c] | rfl⟩
    ·exact⟨p,e⟩
 ·exact⟨p,e⟩
theorem Qd.put_place {h:Qd}{v:Q1}{t:Qw}{words:Int}{j:Int}{p:Qr}(e:h.place j=some p):∃ p',(h.put v t words).2.2.place j=some p':=by
 unfold Qd.put;split
 ·exact⟨p,e⟩
 ·rename_i q b
  obtain⟨g,f,i,c,d,a⟩:=Qd.at_some b
  split
  ·exact⟨p,e⟩
  ·simp only
   rw[Qd.place_set (by rw[c];exact(Zi d).1)]
   split
   ·have:(q.more t words).there=true:=by unfold Qr.more;split<;>exact a
    exact⟨_,by rw[Xs this]⟩
   ·exact⟨p,e⟩
theorem Inv.stored (I:Inv m g M fn bl s) (b:bl.code[M.top.i]?=some x) (c:x.op≠3) (f:x.op≠4) (d:(s.makes x).2=[]){a y:Q1}{k:Int}(S:StT g (M.h.set a k y).2):QbR m { M.one with h:=(M.h.set a k y).2 } :=
 I.val (M':={ M.one with h:=(M.h.set a k y).2 }) b c f Z Z Z Z Z (fun _ _ _ h=>h) (fun j p e=>Qd.set_place e) S (xs:=[]) (by simp) (by rw[d];rfl) (fun j y t l=>by simp at l)
theorem Qkw (I:Inv m g M fn bl s) (hx:bl.code[M.top.i]?=some x) (o:s.code x=0) (h:x.op=7):QbW m op M x:=by
 obtain⟨d,c,-⟩:=QM o
 have aa:0<=x.k:=by
  unfold Qs.form at d;repeat' split at d
  all_goals first | omega | cases d
 have e:=QcX (s:=s) h;rw[e] at c
 cases et:s.at x.a with
 | none=>rw[et] at c;cases c
 | some t =>
   rw[et] at c e
   simp only at c e
   by_cases n:s.want x.a 3 true=0
   ·rw[Xs n] at c e
    cases ek:t.2.2[x.k.toNat]? with
    | none=>rw[ek] at c;cases c
    | some w =>
      rw[ek] at e c
      simp only at e c
      cases eb:s.at x.b with
      | none=>rw[eb] at c;cases c
      | some vt =>
        rw[eb] at c e
        simp only at c e
        by_cases z:ZQ (w.at 5=vt)=true
        ·rw[Xs z] at e
         have C:w.at 5=vt:=by simpa[ZQ] using z
         obtain⟨a,t',u,J,e2,V,P,e5,e6,e7,U⟩:=I.fr.want n
         rw[et] at J;cases J
         obtain⟨p,hp⟩:=U Z (by omega)
         obtain⟨S,W,R,f3⟩:=P.thing I.st (.inl e7) hp
         obtain⟨y,K,T,y2,y3⟩:=I.fr.at eb
         rcases R with ⟨D,N,-⟩|⟨D,N,H,b4⟩
         ·omega
         ·obtain⟨wu,O,X⟩:=Qd8 (Zn V).2.2 ek
          have q:x.k.toNat<S.l.length:=by rw[H];exact(Zi O).1
          have F:K=wu.at 5:=by
           have:=TT.ren_at 5 X
           rw[C] at this
           have j:vt.ren M.top.r.length (fun i=>M.top.r.getD i 0)=some K:=y2;rw[this] at j;exact(Xn j).symm
          have hs:g a.region a.thing.toNat=some u:=by
           rcases P with ⟨Q,-⟩|⟨Q,-⟩|⟨-,-,-,-,c5⟩
           ·omega
           ·omega
           ·exact c5
          obtain⟨L,G⟩:=I.st.set (x:=y) W (.inr ⟨D,N,H,b4⟩) hs (fun o=>by rw[D] at o;cases o) (fun _ w' f=>by
           rw[O] at f;cases f;rw[<-F];exact y3) q
          have B:((x.k.toNat:Nat):Int)=x.k:=by omega
          rw[B] at L G
          unfold QbW;rw[Zv (by omega)]
          unfold IM.mem;have E:QQ M.one.top.v x.a=some a:=e2;have A:QQ M.one.top.v x.b=some y:=T;rw[E]
          simp only
          rw[Xr (by omega),Xr (by omega),Xr (by omega),Xr (by omega),Xs h,A]
          show ∃ M',(if a.kind=3/\(M.h.set a x.k y).1=0 then some { M.one with h:=(M.h.set a x.k y).2 } else none)=some M'/\QbR m M';rw[Xs ⟨e5,L⟩]
          exact⟨_,Z,I.stored hx (by omega) (by omega) (by rw[e]) G⟩
        ·rw[Xr z] at c;cases c
   ·rw[Xr n] at c;exact absurd c n
theorem Qhd (I:Inv m g M fn bl s) (hx:bl.code[M.top.i]?=some x) (W:s.code x=0) (h:x.op=10):QbW m op M x:=by
 have d:=(QM W).2.1;rw[QaJ h] at d
 obtain⟨T,d⟩:=QD d
 obtain⟨H,y⟩:=QD d
 obtain⟨a,t,u,e1,O,e3,G,V,e6,S,L⟩:=I.fr.want T
 obtain⟨n,X⟩:=I.fr.num H
 obtain⟨z,N⟩:=I.fr.num y
 obtain⟨p,U⟩:=L Z (by omega)
 obtain⟨E,f,D,f3⟩:=G.thing I.st (.inr S) U
 have Q:g a.region a.thing.toNat=some u:=by
  rcases G with ⟨J,-⟩|⟨J,-⟩|⟨-,-,-,-,c5⟩
  ·omega
  ·omega
  ·exact c5
 have B:E.arr=true:=by
  rcases D with ⟨R,-⟩|⟨-,b2,-⟩
  ·exact R
  ·omega
 unfold QbW;rw[Zv (by omega)]
 unfold IM.mem;have r:QQ M.one.top.v x.a=some a:=O;have A:QS M.one.top.v x.b=some n:=X;have o:QS M.one.top.v x.c=some z:=N;rw[r]
 simp only
 rw[Xr (by omega),Xr (by omega),Xr (by omega),Xr (by omega),Xr (by omega),Xr (by omega),Xs h,A]
 simp only
 rw[o]
 simp only
 rw[Xs V]
 show ∃ M',(if (M.h.set a n (Qct z)).1=1 then some (M.one.over 2) else if (M.h.set a n (Qct z)).1=0 then some { M.one with h:=(M.h.set a n (Qct z)).2 } else none)=some M'/\QbR m M';by_cases hn:n<0\/E.l.length<=n.toNat
 ·have:(M.h.set a n (Qct z)).1=1:=by
   obtain⟨P,q,K,-⟩:=Qd.thing_iff.1 f
   unfold Qd.set;rw[f,K];simp only;rw[Xr (fun e=>e.2 Z),Xs hn]
  rw[Xs this]
  exact⟨_,Z,IM.over_good _ _ _⟩
 ·obtain⟨w,F⟩:=I.st.set (x:=Qct z) (k:=n.toNat) f D Q (fun _=>rfl) (fun C=>by rw[B] at C;cases C) (by omega)
  have j:((n.toNat:Nat):Int)=n:=by omega
  rw[j] at w F
  rw[Xr (by rw[w];decide),Xs w]
  exact⟨_,Z,I.stored hx (by omega) (by omega) (by rw[QaJ h]) F⟩
theorem Inv.made (I:Inv m g M fn bl s) (l:bl.code[M.top.i]?=some x) (v:x.op≠3) (B:x.op≠4){T u:TT 6}(k:(s.makes x).2=[T]){a:Q1}{p:Qr}{t:Qw}{words:Int}(f:M.h.at a=some p) (A:rtm M.top.r T=some u) (z:u.r=a.region) (n:QbO g t u):∃ M',M.one.got (M.h.put a t words)=some M'/\QbR m M':=by
 obtain⟨E,D,S,C⟩:=I.st.put (words:=words) f z n
 rcases Qd.put_code (t:=t) (words:=words) f with b | ⟨o,-⟩
 ·unfold IM.got;rw[Xr (by rw[b];decide),Xs b]
  refine⟨_,Z,?_⟩
  exact I.val l v B Z Z Z Z Z D (fun j q e=>Qd.put_place e) S (xs:=[(M.h.put a t words).1]) Z (by rw[k];rfl) (fun j y w d c=>by
   rw[k] at c
   have:j=0:=by have:=(Zi d).1;simp at this;omega
   subst this;simp at d c;subst d c;exact⟨u,A,C b⟩)
 ·unfold IM.got;rw[Xs o]
  exact⟨_,Z,IM.over_good _ _ _⟩
theorem Qhl (I:Inv m g M fn bl s) (N:bl.code[M.top.i]?=some x) (J:s.code x=0) (h:x.op=8):QbW m op M x:=by
 have e:=(QM J).2.1;have f:=Qbv (s:=s) h;rw[f] at e
 cases et:s.at x.a with
 | none=>rw[et] at e;cases e
 | some t =>
   rw[et] at e f
   simp only at e f
   obtain⟨F,z⟩:=QD e
   obtain⟨a,V,u,w,C,q,P,H,A,T,B⟩:=I.fr.want F
   rw[et] at w;cases w
   obtain⟨n,K⟩:=I.fr.num z
   obtain⟨p,G⟩:=B Z (by omega)
   have d:a.region=u.r:=by
    rcases P with ⟨Q,-⟩|⟨-,-,c⟩|⟨-,-,c,-⟩
    ·omega
    ·exact c
    ·exact c
   have j:M.h.at a=some p:=by unfold Qd.at;rw[Xs H,d];exact G
   unfold QbW;rw[Zv (by omega)]
   unfold IM.mem;have l:QQ M.one.top.v x.a=some a:=C;have o:QS M.one.top.v x.b=some n:=K;rw[l]
   simp only
   rw[Xr (by omega),Xr (by omega),Xs h,o]
   simp only
   by_cases k:n<0\/15<n
   ·rw[Xs k]
    exact⟨_,Z,IM.over_good _ _ _⟩
   ·rw[Xr k]
    show ∃ M',M.one.got (M.h.array a n)=some M'/\QbR m M';unfold Qd.array;rw[Xr k]
    obtain⟨U,S,R⟩:=QlW q (by omega)
    have O:rtm M.top.r (mkT 4 t.r [])=some (mkT 4 u.r []:TT 6):=by
     have E:ZK M.top.r.length (fun i=>M.top.r.getD i 0) 4 t.r=some u.r:=by
      have:=(Zn q).2.1
      have L:t.1=2:=A;rw[L] at this
      exact this
     exact ZT (t:=(mkT 4 t.r []:TT 6)) E Z
    exact I.made N (by omega) (by omega) (by rw[f]) j O d.symm (.inl ⟨Z,Z,fun y D=>by rw[List.eq_of_mem_replicate D];rfl⟩)
theorem Qht (I:Inv m g M fn bl s) (hx:bl.code[M.top.i]?=some x) (hc:s.code x=0) (h:x.op=5):QbW m op M x:=by
 have d:=(QM hc).2.1;have e:=Qbo (s:=s) h;rw[e] at d
 cases et:s.at x.a with
 | none=>rw[et] at d;cases d
 | some t =>
   rw[et] at d e
   simp only at d e
   by_cases F:s.want x.a 2 true=0
   ·rw[Xs F] at d e
    cases ef:s.fields x.args with
    | none=>rw[ef] at d;cases d
    | some l =>
      rw[ef] at d e
      simp only at d e
      by_cases O:4<TT.height (n:=7) (mkT 3 t.r l)
      ·rw[Xs O] at d;cases d
      ·rw[Xr O] at e
       obtain⟨a,t',u,e1,e2,e3,e4,e5,e6,e7,e8⟩:=I.fr.want F
       rw[et] at e1;cases e1
       obtain⟨p,hp⟩:=e8 Z (by omega)
       have f:a.region=u.r:=by
        rcases e4 with ⟨G,-⟩|⟨-,-,c⟩|⟨-,-,c,-⟩
        ·omega
        ·exact c
        ·exact c
       have J:M.h.at a=some p:=by unfold Qd.at;rw[Xs e5,f];exact hp
       obtain⟨E,b1,b2,b3⟩:=I.fr.fields ef
       obtain⟨k,B⟩:∃ k,ZV (TT.ren M.top.r.length (fun i=>M.top.r.getD i 0)) l=some k:=by
        clear e d O
        have H:∀ (l:List (TT 6)),(∀ t∈l,∃ u,rtm M.top.r t=some u)->∃ k,ZV (TT.ren M.top.r.length (fun i=>M.top.r.getD i 0)) l=some k:=by
         intro l
         induction l with
         | nil=>exact fun _=>⟨[],Z⟩
         | cons z zs ih =>
           intro D;obtain⟨W,N⟩:=D z (by simp)
           obtain⟨us,V⟩:=ih (fun t ht=>D t (by simp[ht]))
           have C:z.ren M.top.r.length (fun i=>M.top.r.getD i 0)=some W:=N;exact⟨W::us,by simp only[ZV,C,V]⟩
        refine H l (fun z D=>?_);obtain⟨j,X⟩:=List.mem_iff_getElem?.1 D
        obtain⟨y,P⟩:∃ y,E[j]?=some y:=⟨_,Zg (by rw[b2];exact(Zi X).1)⟩
        obtain⟨w,w1,-⟩:=b3 j y z P X
        exact⟨w,w1⟩
       have hr:ZK M.top.r.length (fun i=>M.top.r.getD i 0) 3 t.r=some u.r:=by
        have:=(Zn e3).2.1
        have ek:t.1=2:=e6;rw[ek] at this
        exact this
       have K:(mkT 3 t.r l:TT 7).ren M.top.r.length (fun i=>M.top.r.getD i 0)=some (mkT 3 u.r k:TT 7):=ZT (t:=(mkT 3 t.r l:TT 7)) hr B;have hT:=TT.ren_at 5 K;unfold QbW;rw[Zv (by omega)]
       unfold IM.mem;have T:QQ M.one.top.v x.a=some a:=e2;have U:Zb M.one.top.v x.args=some E:=b1;rw[T]
       simp only
       rw[Xr (by omega),Xs h,U]
       show ∃ M',M.one.got (M.h.tuple a E)=some M'/\QbR m M';unfold Qd.tuple;obtain⟨G,c2⟩:=ZU.1 B
       refine I.made hx (by omega) (by omega) (by rw[e]) J hT (show u.r=a.region from f.symm) (.inr ⟨Z,Z,?_,fun j y w P Q=>?_⟩)
       ·show E.length=(k.map (TT.at 4)).length;simp[b2,G]
       ·have b:(k.map (TT.at 4))[j]?=some w:=Q;rw[XS] at b
        cases eu:k[j]? with
        | none=>rw[eu] at b;cases b
        | some uj =>
          rw[eu] at b
          have L:uj.at 4=w:=Xn b;obtain⟨q,o⟩:∃ q,l[j]?=some q:=⟨_,Zg (by rw[<-G];exact(Zi eu).1)⟩
          obtain⟨w',d1,d2⟩:=b3 j y q P o
          have R:=c2 j q o;rw[eu] at R
          have A:q.ren M.top.r.length (fun i=>M.top.r.getD i 0)=some w':=d1;rw[R] at A;cases A
          have S:uj.height<=4:=by
           rw[TT.ren_height R]
           have:=(Q9 (t:=(mkT 3 t.r l:TT 7)) (m:=4)).1 (by omega) q (Zm o)
           omega
          rw[<-L,TT.at_back 4 uj S]
          exact d2
   ·rw[Xr F] at d;exact absurd d F
end
section
variable {m:List (MFunc 6)}{op:Int->Int->Int->Option Int}{φ:Int->Nat}{π:Int->Nat->Nat}{M M':IM}{R:RM}{x:Qs}
abbrev RM.one (R:RM):RM:={ R with fuel:=R.fuel+1 }
theorem Sim.next (S:Sim φ π M R) (c:M.done=false){a:Qd}{k:Est}{φ':Int->Nat}{π':Int->Nat->Nat}(H:Qa5 a k φ' π') (l:∀ x n,Rep M.h φ π x n->Rep a φ' π' x n){xs:List Q1}{ns:List Int}(o:ns.length=xs.length) (m:∀ (j:Nat) x n,xs[j]?=some x->ns[j]?=some n->Rep a φ' π' x n) (r':List Int) (d g:List Int) :
 Qex { M with h:=a,top:=⟨M.top.f,M.top.b,M.top.i+1,M.top.v++xs,r'⟩,inp:=d,out:=g,fuel:=M.fuel+1 } { R with e:=k,top:={ R.top with v:=R.top.v++ns,i:=R.top.i+1 },inp:=d,out:=g,fuel:=R.fuel+1 }:=by
 have F:=((S.top c).mono l).push o m (M.top.i+1) (R.top.i+1) (by rw[(S.top c).eI]);exact⟨φ',π',H,S.done,Z,S.back,by show R.fuel+1=M.fuel+1;rw[S.fuel],S.fin,fun _=>rfl,fun _=>⟨F.eF,F.eB,F.eI,F.len,F.val⟩,fun _=>(S.rest c).mono l⟩
theorem Sim.next0 (S:Sim φ π M R) (c:M.done=false){a:Qd}{d:Est}{φ':Int->Nat}{π':Int->Nat->Nat}(H:Qa5 a d φ' π') (g:∀ x n,Rep M.h φ π x n->Rep a φ' π' x n){xs:List Q1}{ns:List Int}(l:ns.length=xs.length) (k:∀ (j:Nat) x n,xs[j]?=some x->ns[j]?=some n->Rep a φ' π' x n) (r':List Int) :
 Qex { M with h:=a,top:=⟨M.top.f,M.top.b,M.top.i+1,M.top.v++xs,r'⟩,fuel:=M.fuel+1 } { R with e:=d,top:={ R.top with v:=R.top.v++ns,i:=R.top.i+1 },fuel:=R.fuel+1 }:=by
 have F:=((S.top c).mono g).push l k (M.top.i+1) (R.top.i+1) (by rw[(S.top c).eI]);exact⟨φ',π',H,S.done,S.out,S.back,by show R.fuel+1=M.fuel+1;rw[S.fuel],S.fin,fun _=>S.inp c,fun _=>⟨F.eF,F.eB,F.eI,F.len,F.val⟩,fun _=>(S.rest c).mono g⟩
theorem Qgh {P:Q1->Int->Prop}{y:Q1}{n:Int}(h:P y n) (j:Nat) (x:Q1) (k:Int) (a:[y][j]?=some x) (b:[n][j]?=some k):P x k:=by
 cases j with
 | zero=>simp at a b;subst a b;exact h
 | succ j=>simp at a
theorem Sim.one1 (S:Sim φ π M R) (a:M.done=false){y:Q1}{n:Int}(b:Rep M.h φ π y n):Qex (M.one.push [y]) (R.one.on [n]) :=
 S.next0 a S.heap (fun _ _ h=>h) (xs:=[y]) (ns:=[n]) Z (Qgh b) M.top.r
theorem Sim.stop (S:Sim φ π M R) (k:Int):Qex (M.one.over k) (R.one.over k):=Sim.over (M:=M.one) (R:=R.one) (H:=S.heap) S.out S.back (by show R.fuel+1=M.fuel+1;rw[S.fuel]) k
def ZE (m:List (MFunc 6)) (op:Int->Int->Int->Option Int) (R:RM) (x:Qs) (M':IM):Prop:=∃ R',RM.ins op R.one x=some R'/\Qex M' R'
theorem Qjb (S:Sim φ π M R) (a:M.done=false) (e:x.op=1) (h:IM.ins m op M.one x=some M'):ZE m op R x M':=by
 simp[IM.ins,e] at h
 subst h;exact⟨_,by simp[RM.ins,e],S.one1 a (Qd7 x.n)⟩
theorem Qjz (S:Sim φ π M R) (c:M.done=false) (e:x.op=2) (h:IM.ins m op M.one x=some M'):ZE m op R x M':=by
 unfold IM.ins at h;rw[Xr (by omega),Xs e] at h
 have F:=S.top c
 cases ha:QS M.top.v x.a with
 | none=>rw[show QS M.one.top.v x.a=none from ha] at h;cases h
 | some a =>
   rw[show QS M.one.top.v x.a=some a from ha] at h
   simp only at h
   cases hb:QS M.top.v x.b with
   | none=>rw[show QS M.one.top.v x.b=none from hb] at h;cases h
   | some b =>
     rw[show QS M.one.top.v x.b=some b from hb] at h
     simp only at h
     unfold ZE RM.ins;rw[Xr (by omega),Xs e,show iAt R.one.top.v x.a=some a from F.num ha]
     simp only
     rw[show iAt R.one.top.v x.b=some b from F.num hb]
     simp only
     cases ho:op x.k a b with
     | none=>rw[ho] at h;cases h;exact⟨_,Z,S.stop 1⟩
     | some n=>rw[ho] at h;cases h;exact⟨_,Z,S.one1 c (Qd7 n)⟩
theorem Qkp (S:Sim φ π M R) (a:M.done=false) (e:x.op=12) (h:IM.ins m op M.one x=some M'):ZE m op R x M':=by
 unfold IM.ins at h;rw[Xr (by omega),Xr (by omega),Xr (by omega),Xs e] at h
 unfold ZE RM.ins;rw[Xr (by omega),Xr (by omega),Xr (by omega),Xr (by omega),Xr (by omega),Xr (by omega),Xs e]
 have b:R.one.inp=M.one.inp:=S.inp a;rw[b]
 cases hi:M.one.inp with
 | nil=>rw[hi] at h;cases h;exact⟨_,Z,S.stop 4⟩
 | cons n l =>
   rw[hi] at h
   cases h
   refine⟨_,Z,?_⟩
   have:=S.next a S.heap (fun _ _ h=>h) (xs:=[Qct n]) (ns:=[n]) rfl (Qgh (Qd7 n)) M.top.r l M.out
   have c:=S.out;show Qex _ { R with inp:=l,top:=_,fuel:=R.fuel+1 };rw[show ({ R with inp:=l,top:={ R.top with v:=R.top.v++[n],i:=R.top.i+1 },fuel:=R.fuel+1 }:RM)={ R with e:=R.e,top:={ R.top with v:=R.top.v++[n],i:=R.top.i+1 },inp:=l,out:=M.out,fuel:=R.fuel+1 } by rw[<-c]]
   exact this
theorem Qi7 (S:Sim φ π M R) (b:M.done=false) (f:M.out.length<=2000) (e:x.op=13) (h:IM.ins m op M.one x=some M'):ZE m op R x M':=by
 unfold IM.ins at h;rw[Xr (by omega),Xr (by omega),Xr (by omega),Xr (by omega),Xs e] at h
 unfold ZE RM.ins;rw[Xr (by omega),Xr (by omega),Xr (by omega),Xr (by omega),Xr (by omega),Xr (by omega),Xr (by omega),Xs e]
 have F:=S.top b
 cases ha:QS M.top.v x.a with
 | none=>rw[show QS M.one.top.v x.a=none from ha] at h;cases h
 | some n =>
   rw[show QS M.one.top.v x.a=some n from ha] at h
   rw[show iAt R.one.top.v x.a=some n from F.num ha]
   simp only at h |-
   have d:R.one.out=M.one.out:=S.out;by_cases c:M.out.length=2000
   ·rw[Xs (show M.one.out.length=2000 from c)] at h
    cases h
    rw[Xr (by rw[d];show ¬ M.out.length<2000;omega)]
    exact⟨_,Z,S.stop 8⟩
   ·rw[Xr (show ¬ M.one.out.length=2000 from c)] at h
    cases h
    rw[Xs (by rw[d];show M.out.length<2000;omega)]
    refine⟨_,Z,?_⟩
    have:=S.next b S.heap (fun _ _ h=>h) (xs:=[]) (ns:=[]) rfl (fun j x n h=>by simp at h) M.top.r M.inp (M.out++[n])
    have k:=S.inp b;have g:=S.out;simp only[List.append_nil] at this
    unfold RM.on;simp only[List.append_nil]
    show Qex _ { R with out:=R.out++[n],top:={ R.top with i:=R.top.i+1 },fuel:=R.fuel+1 };rw[g,show ({ R with out:=M.out++[n],top:={ R.top with i:=R.top.i+1 },fuel:=R.fuel+1 }:RM)={ R with e:=R.e,top:={ R.top with i:=R.top.i+1 },inp:=M.inp,out:=M.out++[n],fuel:=R.fuel+1 } by rw[<-k]]
    exact this
theorem QiJ (S:Sim φ π M R) (k:M.done=false) (e:x.op=3) (h:IM.ins m op M.one x=some M'):ZE m op R x M':=by
 unfold IM.ins at h;rw[Xr (by omega),Xr (by omega),Xs e] at h
 unfold ZE RM.ins;rw[Xr (by omega),Xr (by omega),Xs e]
 by_cases a:16<=M.h.live
 ·have i:M.one.h.open_.2.1=false:=by show M.h.open_.2.1=false;unfold Qd.open_;rw[Xs a]
  rw[i] at h
  have d:R.one.e.openK=-1:=(Est.open_no (S.heap.full.1 a)).1;rw[Xr (by rw[d];decide)]
  cases h
  exact⟨_,Z,S.stop 6⟩
 ·have c:M.h.open_=(⟨2,M.h.L.length,0,0⟩,true,{ M.h with L:=M.h.L++[newP] }):=by unfold Qd.open_;rw[Xr a]
  rw[Xs (by show M.h.open_.2.1=true;rw[c])] at h
  cases h
  obtain⟨j,f,l,g⟩:=S.heap.opens a
  rw[Xs (show 0<=R.one.e.openK from j)]
  refine⟨_,Z,?_⟩
  refine S.next0 k f g (xs:=[M.h.open_.1]) (ns:=[R.e.openK]) Z (Qgh ?_) (M.top.r++[M.h.open_.1.region]);rw[c]
  refine⟨fun b=>by simp at b,fun _=>⟨by simp only;omega,by simp;omega,fun p n=>⟨fun _=>?_,fun b=>absurd Z b⟩⟩⟩
  simp only
  rw[l]
  omega
theorem Qhw (S:Sim φ π M R) (c:M.done=false) (e:x.op=4) (h:IM.ins m op M.one x=some M'):ZE m op R x M':=by
 rw[Zv (by omega)] at h
 unfold IM.mem at h;unfold ZE RM.ins;rw[Xr (by omega),Xr (by omega),Xr (by omega),Xs e]
 have F:=S.top c
 cases ha:QQ M.top.v x.a with
 | none=>rw[show QQ M.one.top.v x.a=none from ha] at h;cases h
 | some a =>
   obtain⟨n,f,l⟩:=F.at ha
   rw[show QQ M.one.top.v x.a=some a from ha] at h
   rw[show iAt R.one.top.v x.a=some n from f]
   simp only at h |-
   rw[Xs e] at h
   cases hp:M.h.at a with
   | none =>
     have:(M.one.h.shut a).1=false:=by show (M.h.shut a).1=false;unfold Qd.shut;rw[hp]
     rw[this] at h;cases h
   | some p =>
     obtain⟨g,k,i⟩:=S.heap.shuts hp
     rw[Xs (show (M.one.h.shut a).1=true from g)] at h
     cases h
     refine⟨_,Z,?_⟩
     obtain⟨b,d,-⟩:=Qd.at_some hp
     have o:n=φ a.region:=((l.2 (.inl b)).2.2 p d).1 b
     have:=S.next0 c k i (xs:=[]) (ns:=[]) Z (fun j x n h=>by simp at h) M.top.r
     rw[o]
     simp only[List.append_nil] at this
     unfold RM.on;simp only[List.append_nil]
     exact this
theorem QcC {g:Q1 × Int × Qd}(h:IM.got M g=some M'):(g.2.1=14/\M'=M.over 6)\/(g.2.1=0/\M'=IM.push { M with h:=g.2.2 }[g.1]):=by
 unfold IM.got at h;split at h
 ·cases h;exact .inl ⟨by assumption,Z⟩
 ·split at h
  ·cases h;exact .inr ⟨by assumption,Z⟩
  ·cases h
theorem Sim.made (S:Sim φ π M R) (u:M.done=false){a:Q1}{n:Int}(q:Rep M.h φ π a n){t:Qw}(d:t.sz<=16)(m:QmW M.h φ π t l) (h:M.one.got (M.h.put a t t.sz)=some M'):Qex M' (R.one.thing n t.sz l):=by
 cases hp:M.h.at a with
 | none =>
   have:M.h.put a t t.sz=(noV,20,M.h):=by unfold Qd.put;rw[hp]
   rw[this] at h
   rcases QcC h with ⟨c,-⟩|⟨c,-⟩<;>cases c
 | some p =>
   obtain⟨g,i,-⟩:=Qd.at_some hp
   have v:n=φ a.region:=((q.2 (.inl g)).2.2 p i).1 g;subst v;unfold RM.thing;rcases S.heap.puts hp t d with ⟨b,f⟩|⟨b,f,w,s⟩
   ·rw[Xr (show ¬ R.one.e.getCode (φ a.region) t.sz=0 from b)]
    rcases QcC h with ⟨-,rfl⟩|⟨c,-⟩
    ·exact S.stop 6
    ·rw[f] at c;cases c
   ·rw[Xs (show R.one.e.getCode (φ a.region) t.sz=0 from b)]
    rcases QcC h with ⟨c,-⟩|⟨-,rfl⟩
    ·rw[f] at c;cases c
    ·obtain⟨π',j,o,k⟩:=s l m
     exact S.next0 u j o (xs:=[(M.h.put a t t.sz).1]) (ns:=[R.e.getAt (φ a.region) t.sz]) Z (Qgh k) M.top.r
theorem Qgb (S:Sim φ π M R) (i:M.done=false) (t:x.args.length<=16) (e:x.op=5) (h:IM.ins m op M.one x=some M'):ZE m op R x M':=by
 rw[Zv (by omega)] at h
 unfold IM.mem at h;unfold ZE RM.ins;rw[Xr (by omega),Xr (by omega),Xr (by omega),Xr (by omega),Xs e]
 have F:=S.top i
 cases ha:QQ M.top.v x.a with
 | none=>rw[show QQ M.one.top.v x.a=none from ha] at h;cases h
 | some a =>
   obtain⟨n,l,s⟩:=F.at ha
   rw[show QQ M.one.top.v x.a=some a from ha] at h
   rw[show iAt R.one.top.v x.a=some n from l]
   simp only at h |-
   rw[Xr (by omega),Xs e] at h
   cases hl:Zb M.top.v x.args with
   | none=>rw[show Zb M.one.top.v x.args=none from hl] at h;cases h
   | some xs =>
     rw[show Zb M.one.top.v x.args=some xs from hl] at h
     obtain⟨b,r,u,c,p⟩:=F.all hl
     rw[show QaA R.one.top.v x.args=some b from r]
     simp only at h |-
     have d:((⟨false,xs⟩:Qw).sz:Int)=if xs.length=0 then 1 else (xs.length:Int):=by
      unfold Qw.sz;simp only[Bool.false_eq_true,if_false]
      split<;>omega
     unfold Qd.tuple at h;rw[<-d] at h
     have o:(if b.length=0 then 1 else (b.length:Int))=((⟨false,xs⟩:Qw).sz:Int):=by rw[d,c]
     rw[o]
     exact⟨_,Z,S.made i s (by unfold Qw.sz;simp only[Bool.false_eq_true,if_false];omega) ⟨fun _=>⟨c,fun j y f=>by
      obtain⟨k,g⟩:∃ k,b[j]?=some k:=⟨_,Zg (by rw[c];exact(Zi f).1)⟩
      have:=p j y k f g
      rw[List.getD_eq_getElem?_getD,g]
      exact this⟩,fun q=>by cases q⟩ h⟩
theorem QfP (S:Sim φ π M R) (f:M.done=false) (e:x.op=8) (h:IM.ins m op M.one x=some M'):ZE m op R x M':=by
 rw[Zv (by omega)] at h
 unfold IM.mem at h;unfold ZE RM.ins;rw[Xr (by omega),Xr (by omega),Xr (by omega),Xr (by omega),Xr (by omega),Xs e]
 have F:=S.top f
 cases ha:QQ M.top.v x.a with
 | none=>rw[show QQ M.one.top.v x.a=none from ha] at h;cases h
 | some a =>
   obtain⟨n,g,p⟩:=F.at ha
   rw[show QQ M.one.top.v x.a=some a from ha] at h
   rw[show iAt R.one.top.v x.a=some n from g]
   simp only at h |-
   rw[Xr (by omega),Xr (by omega),Xs e] at h
   cases hb:QS M.top.v x.b with
   | none=>rw[show QS M.one.top.v x.b=none from hb] at h;cases h
   | some k =>
     rw[show QS M.one.top.v x.b=some k from hb] at h
     rw[show iAt R.one.top.v x.b=some k from F.num hb]
     simp only at h |-
     by_cases d:k<0\/15<k
     ·rw[Xs d] at h;cases h
      rw[Xr (by omega)]
      exact⟨_,Z,S.stop 3⟩
     ·rw[Xr d] at h
      rw[Xs (by omega)]
      have c:M.one.got (M.h.array a k)=some M':=h;unfold Qd.array at c;rw[Xr d] at c
      have l:((⟨true,List.replicate k.toNat (Qct 0)⟩:Qw).sz:Int)=k+1:=by
       unfold Qw.sz;simp;omega
      rw[<-l] at c |-
      refine⟨_,Z,S.made f p (by omega) ⟨fun i=>(by cases i),fun _=>⟨by simp;omega,fun j y o=>?_⟩⟩ c⟩
      exact List.eq_of_mem_replicate (Zm o)
theorem ZY {n:Int}(b:0<=n) (a:n<2000):wrap64 n=n:=by unfold wrap64;omega
theorem Qaw (h:x.op=6\/x.op=7\/x.op=9\/x.op=10\/x.op=11):RM.ins op R x=R.part x:=by
 unfold RM.ins;rw[Xr (by omega),Xr (by omega),Xr (by omega),Xr (by omega),Xr (by omega),Xr (by omega),Xr (by omega),Xr (by omega),Xr (by omega)]
theorem QhJ (S:Sim φ π M R) (c:M.done=false) (e:x.op=6) (h:IM.ins m op M.one x=some M'):ZE m op R x M':=by
 rw[Zv (by omega)] at h
 unfold IM.mem at h;unfold ZE;rw[Qaw (by omega)]
 unfold RM.part;have F:=S.top c
 cases ha:QQ M.top.v x.a with
 | none=>rw[show QQ M.one.top.v x.a=none from ha] at h;cases h
 | some a =>
   obtain⟨n,f,d⟩:=F.at ha
   rw[show QQ M.one.top.v x.a=some a from ha] at h
   rw[show iAt R.one.top.v x.a=some n from f]
   simp only at h |-
   rw[Xr (by omega),Xr (by omega),Xr (by omega),Xs e] at h
   rw[Xs e]
   split at h
   ·rename_i b
    cases h
    obtain⟨o,p,i⟩:=S.heap.get d b.1 b.2
    have g:0<=n/\n<1024:=by
     cases ht:M.h.thing a with
     | none =>
       have:=b.2
       have j:(M.h.get a x.k).2=20:=by unfold Qd.get;rw[ht]
       rw[show (M.one.h.get a x.k).2=(M.h.get a x.k).2 from Z,j] at this;cases this
     | some t =>
       obtain⟨l,T⟩:=S.heap.at d ht
       have:=T.run.low S.heap.ok
       have:=S.heap.ok.ok.most
       have:=t.sz_pos
       simp only at *
       omega
    rw[ZY (by omega) (by omega)]
    exact⟨_,Z,S.one1 c i⟩
   ·cases h
theorem Qh5 (S:Sim φ π M R) (d:M.done=false) (e:x.op=11) (h:IM.ins m op M.one x=some M'):ZE m op R x M':=by
 rw[Zv (by omega)] at h
 unfold IM.mem at h;unfold ZE;rw[Qaw (by omega)]
 unfold RM.part;have F:=S.top d
 cases ha:QQ M.top.v x.a with
 | none=>rw[show QQ M.one.top.v x.a=none from ha] at h;cases h
 | some a =>
   obtain⟨n,f,g⟩:=F.at ha
   rw[show QQ M.one.top.v x.a=some a from ha] at h
   rw[show iAt R.one.top.v x.a=some n from f]
   simp only at h |-
   rw[Xr (by omega),Xr (by omega),Xr (by omega),Xr (by omega),Xr (by omega),Xr (by omega),Xr (by omega)] at h
   rw[Xr (by omega),Xr (by omega),Xr (by omega),Xr (by omega),Xs e]
   split at h
   ·rename_i c
    cases h
    have b:=S.heap.len g c.1 c.2
    have:=S.one1 d (Qd7 (h:=M.h) (φ:=φ) (π:=π) (M.h.len a).1)
    rw[<-b] at this
    exact⟨_,Z,by rw[<-b];exact this⟩
   ·cases h
theorem Qhi (S:Sim φ π M R) (i:M.done=false) (e:x.op=9) (h:IM.ins m op M.one x=some M'):ZE m op R x M':=by
 rw[Zv (by omega)] at h
 unfold IM.mem at h;unfold ZE;rw[Qaw (by omega)]
 unfold RM.part;have F:=S.top i
 cases ha:QQ M.top.v x.a with
 | none=>rw[show QQ M.one.top.v x.a=none from ha] at h;cases h
 | some a =>
   obtain⟨n,o,j⟩:=F.at ha
   rw[show QQ M.one.top.v x.a=some a from ha] at h
   rw[show iAt R.one.top.v x.a=some n from o]
   simp only at h |-
   rw[Xr (by omega),Xr (by omega),Xr (by omega),Xr (by omega),Xr (by omega),Xs e] at h
   rw[Xr (by omega),Xr (by omega),Xs e]
   cases hb:QS M.top.v x.b with
   | none=>rw[show QS M.one.top.v x.b=none from hb] at h;cases h
   | some k =>
     rw[show QS M.one.top.v x.b=some k from hb] at h
     rw[show iAt R.one.top.v x.b=some k from F.num hb]
     simp only at h |-
     split at h
     ·rename_i g
      split at h
      ·rename_i c
       cases h
       obtain⟨d,-⟩:=S.heap.num j g (.inr c)
       rw[Xr (show ¬ (0<=k/\k<R.one.load n) from d.1 c)]
       exact⟨_,Z,S.stop 2⟩
      ·rename_i c
       split at h
       ·rename_i f
        cases h
        obtain⟨d,s⟩:=S.heap.num j g (.inl f)
        obtain⟨q,t,p,u,w⟩:=s f
        rw[Xs (show 0<=k/\k<R.one.load n from Xq.1 (fun r=>c (d.2 r))),ZY (n:=n+1) (by omega) (by omega),ZY (by omega) p]
        refine⟨_,Z,S.one1 i ⟨fun _=>t,fun l=>?_⟩⟩
        rw[q] at l;omega
       ·cases h
     ·cases h
theorem QiY (S:Sim φ π M R) (A:M.done=false) (e:x.op=7) (h:IM.ins m op M.one x=some M'):ZE m op R x M':=by
 rw[Zv (by omega)] at h
 unfold IM.mem at h;unfold ZE;rw[Qaw (by omega)]
 unfold RM.part;have F:=S.top A
 cases ha:QQ M.top.v x.a with
 | none=>rw[show QQ M.one.top.v x.a=none from ha] at h;cases h
 | some a =>
   obtain⟨n,E,u⟩:=F.at ha
   rw[show QQ M.one.top.v x.a=some a from ha] at h
   rw[show iAt R.one.top.v x.a=some n from E]
   simp only at h |-
   rw[Xr (by omega),Xr (by omega),Xr (by omega),Xr (by omega),Xs e] at h
   rw[Xr (by omega),Xs e]
   cases hb:QQ M.top.v x.b with
   | none=>rw[show QQ M.one.top.v x.b=none from hb] at h;cases h
   | some y =>
     obtain⟨z,C,o⟩:=F.at hb
     rw[show QQ M.one.top.v x.b=some y from hb] at h
     rw[show iAt R.one.top.v x.b=some z from C]
     simp only at h |-
     split at h
     ·rename_i w
      cases h
      have f:(M.h.set a x.k y).1=0:=w.2
      cases ht:M.h.thing a with
      | none=>unfold Qd.set at f;rw[ht] at f;cases f
      | some t =>
        obtain⟨-,p,D,-,-,q⟩:=Qd.thing_iff.1 ht
        have d:t.arr=false:=by rw[q];simp[show a.kind=3 from w.1]
        have G:0<=x.k/\x.k.toNat<t.l.length:=by
         unfold Qd.set at f;rw[ht,D] at f
         simp only at f
         rw[Xr (fun c=>by rw[d] at c;cases c.1)] at f
         split at f
         ·cases f
         ·omega
        obtain⟨L,T⟩:=S.heap.at u ht
        have g:=T.run.low S.heap.ok;have H:=S.heap.ok.ok.most;have J:=t.sz_l d;simp only at g
        obtain⟨I,i,s⟩:=S.heap.set u ht G.2 (y:=y) (z:=z) (fun _=>o) (fun c=>by rw[d] at c;cases c)
        have B:((x.k.toNat:Nat):Int)=x.k:=by omega
        rw[B,d] at i
        rw[B] at s
        simp only[Bool.false_eq_true,if_false,Int.add_zero] at i
        rw[ZY (by omega) (by omega)]
        refine⟨_,Z,?_⟩
        exact S.next0 A i s (xs:=[]) (ns:=[]) Z (fun j x n h=>by simp at h) M.top.r |> fun K=>by
         simp only[List.append_nil] at K
         unfold RM.on;simp only[List.append_nil]
         exact K
     ·cases h
theorem QfK (S:Sim φ π M R) (w:M.done=false) (e:x.op=10) (h:IM.ins m op M.one x=some M'):ZE m op R x M':=by
 rw[Zv (by omega)] at h
 unfold IM.mem at h;unfold ZE;rw[Qaw (by omega)]
 unfold RM.part;have F:=S.top w
 cases ha:QQ M.top.v x.a with
 | none=>rw[show QQ M.one.top.v x.a=none from ha] at h;cases h
 | some a =>
   obtain⟨n,C,A⟩:=F.at ha
   rw[show QQ M.one.top.v x.a=some a from ha] at h
   rw[show iAt R.one.top.v x.a=some n from C]
   simp only at h |-
   rw[Xr (by omega),Xr (by omega),Xr (by omega),Xr (by omega),Xr (by omega),Xr (by omega),Xs e] at h
   rw[Xr (by omega),Xr (by omega),Xr (by omega),Xs e]
   cases hb:QS M.top.v x.b with
   | none=>rw[show QS M.one.top.v x.b=none from hb] at h;cases h
   | some k =>
     rw[show QS M.one.top.v x.b=some k from hb] at h
     rw[show iAt R.one.top.v x.b=some k from F.num hb]
     simp only at h |-
     cases hcc:QS M.top.v x.c with
     | none=>rw[show QS M.one.top.v x.c=none from hcc] at h;cases h
     | some z =>
       rw[show QS M.one.top.v x.c=some z from hcc] at h
       rw[show iAt R.one.top.v x.c=some z from F.num hcc]
       simp only at h |-
       split at h
       ·rename_i G
        cases ht:M.h.thing a with
        | none =>
          have:(M.h.set a k (Qct z))=(20,M.h):=by unfold Qd.set;rw[ht]
          rw[show M.one.h=M.h from Z,this] at h
          simp at h
        | some t =>
          obtain⟨-,p,E,-,-,s⟩:=Qd.thing_iff.1 ht
          have d:t.arr=true:=by rw[s];simp[show a.kind=4 from G]
          obtain⟨B,T⟩:=S.heap.at A ht
          have f:R.e.p.load n=t.l.length:=by
           have:=S.heap.load T (m:=0) t.sz_pos
           rw[Nat.add_zero] at this
           rw[B,this,T.len d]
          have g:=T.run.low S.heap.ok;have H:=S.heap.ok.ok.most;have I:=t.sz_a d;simp only at g
          by_cases q:k<0\/t.l.length<=k.toNat
          ·have:(M.h.set a k (Qct z)).1=1:=by
            unfold Qd.set;rw[ht,E];simp only;rw[Xr (fun c=>c.2 Z),Xs q]
           rw[show M.one.h=M.h from Z,Xs this] at h
           cases h
           rw[Xr (show ¬ (0<=k/\k<R.one.load n) from fun c=>by have:k<R.e.p.load n:=c.2;rw[f] at this;omega)]
           exact⟨_,Z,S.stop 2⟩
          ·obtain⟨o,i,u⟩:=S.heap.set A ht (k:=k.toNat) (by omega) (y:=Qct z) (z:=z) (fun c=>by rw[d] at c;cases c) (fun _=>⟨Z,Z⟩)
           have D:((k.toNat:Nat):Int)=k:=by omega
           rw[D] at o i u
           rw[show M.one.h=M.h from Z,Xr (by rw[o];decide),Xs o] at h
           cases h
           rw[d] at i
           simp only[if_true] at i
           rw[Xs (show 0<=k/\k<R.one.load n from ⟨by omega,by show k<R.e.p.load n;rw[f];omega⟩),ZY (n:=n+1) (by omega) (by omega),ZY (by omega) (by omega)]
           refine⟨_,Z,?_⟩
           have K:=S.next0 w i u (xs:=[]) (ns:=[]) Z (fun j x n h=>by simp at h) M.top.r;simp only[List.append_nil] at K
           unfold RM.on RM.stored;simp only[List.append_nil]
           rw[show n+1+k=n+k+1 by omega]
           exact K
       ·cases h
theorem Qhy (S:Sim φ π M R) (b:M.done=false) (o:M.rest.length<40) (e:x.op=14) (h:IM.ins m op M.one x=some M'):ZE m op R x M':=by
 unfold IM.ins at h;rw[Xr (by omega),Xr (by omega),Xr (by omega),Xr (by omega),Xr (by omega),Xs e] at h
 unfold IM.call at h;unfold ZE RM.ins;rw[Xr (by omega),Xr (by omega),Xr (by omega),Xr (by omega),Xr (by omega),Xr (by omega),Xr (by omega),Xr (by omega),Xs e]
 have F:=S.top b;have n:=(S.rest b).length
 cases hr:Qby M.one.top.r x.regs with
 | none=>rw[hr] at h;cases h
 | some r =>
   rw[hr] at h
   simp only at h
   cases hv:Zb M.top.v x.args with
   | none=>rw[show Zb M.one.top.v x.args=none from hv] at h;cases h
   | some v =>
     rw[show Zb M.one.top.v x.args=some v from hv] at h
     simp only at h
     obtain⟨c,j,l,d,f⟩:=F.all hv
     cases hg:m[x.k.toNat]? with
     | none=>rw[hg] at h;cases h
     | some g =>
       rw[hg] at h
       simp only at h
       split at h
       ·by_cases a:M.rest.length+1=40
        ·rw[Xs (show M.one.rest.length+1=40 from a)] at h
         cases h
         rw[Xr (show ¬ R.rest.length+1<40 by omega)]
         exact⟨_,Z,S.stop 5⟩
        ·rw[Xr (show ¬ M.one.rest.length+1=40 from a)] at h
         cases h
         rw[Xs (show R.rest.length+1<40 by omega),show QaA R.one.top.v x.args=some c from j]
         refine⟨_,Z,⟨φ,π,S.heap,S.done,S.out,S.back,by show R.fuel+1=M.fuel+1;rw[S.fuel],S.fin,fun _=>S.inp b,fun _=>⟨Z,Z,Z,by simp[d],f⟩,fun _=>⟨⟨F.eF,F.eB,by show R.top.i+1=M.top.i+1;rw[F.eI],F.len,F.val⟩,S.rest b⟩⟩⟩
       ·cases h
theorem Qh9 (S:Sim φ π M R) (a:M.done=false) (d:M.rest.length<40) (b:M.out.length<=2000) (f:1<=x.op/\x.op<=14) (c:x.op=5->x.args.length<=16) (h:IM.ins m op M.one x=some M'):ZE m op R x M':=by
 have:x.op=1\/x.op=2\/x.op=3\/x.op=4\/x.op=5\/x.op=6\/x.op=7\/x.op=8\/x.op=9\/x.op=10\/x.op=11\/x.op=12\/x.op=13\/x.op=14:=by omega
 rcases this with e | e | e | e | e | e | e | e | e | e | e | e | e | e
 ·exact Qjb S a e h
 ·exact Qjz S a e h
 ·exact QiJ S a e h
 ·exact Qhw S a e h
 ·exact Qgb S a (c e) e h
 ·exact QhJ S a e h
 ·exact QiY S a e h
 ·exact QfP S a e h
 ·exact Qhi S a e h
 ·exact QfK S a e h
 ·exact Qh5 S a e h
 ·exact Qkp S a e h
 ·exact Qi7 S a b e h
 ·exact Qhy S a d e h
theorem Qfu (S:Sim φ π M R) (a:M.done=false){fn:MFunc 6}{t:MTo}(h:IM.to fn { M with fuel:=M.fuel+1 } t=some M'):∃ R',R.one.to t=some R'/\Qex M' R':=by
 unfold IM.to at h;unfold RM.to;have F:=S.top a
 cases hb:fn.blocks[t.block.toNat]? with
 | none=>rw[hb] at h;cases h
 | some b =>
   rw[hb] at h
   simp only at h
   cases hr:Qby M.top.r t.regs with
   | none=>rw[hr] at h;cases h
   | some r =>
     rw[hr] at h
     simp only at h
     cases hv:Zb M.top.v t.args with
     | none=>rw[hv] at h;cases h
     | some v =>
       rw[hv] at h
       obtain⟨c,f,g,d,e⟩:=F.all hv
       rw[show QaA R.one.top.v t.args=some c from f]
       simp only at h |-
       split at h
       ·cases h
        exact⟨_,Z,⟨φ,π,S.heap,S.done,S.out,S.back,by show R.fuel+1=M.fuel+1;rw[S.fuel],S.fin,fun _=>S.inp a,fun _=>⟨F.eF,Z,Z,by simp[d],e⟩,fun _=>S.rest a⟩⟩
       ·cases h
theorem Qiy (S:Sim φ π M R) (g:M.done=false){fn:MFunc 6}{e:ZC}(q:1<=e.op/\e.op<=3) (h:IM.endd fn { M with fuel:=M.fuel+1 } e=some M'):∃ R',R.one.endd e=some R'/\Qex M' R':=by
 have F:=S.top g;unfold IM.endd at h;unfold RM.endd
 have:e.op=1\/e.op=2\/e.op=3:=by omega
 rcases this with f | f | f
 ·rw[Xs f] at h
  rw[Xr (by omega),Xr (by omega)]
  exact Qfu S g h
 ·rw[Xr (by omega),Xs f] at h
  rw[Xr (by omega),Xs f]
  cases hn:QS M.top.v e.a with
  | none=>simp only[hn] at h;cases h
  | some n =>
    simp only[hn] at h
    rw[show iAt R.one.top.v e.a=some n from F.num hn]
    simp only
    split at h
    ·rename_i j;rw[Xs j];exact Qfu S g h
    ·rename_i j;rw[Xr j];exact Qfu S g h
 ·rw[Xr (by omega),Xr (by omega)] at h
  rw[Xs f]
  cases hv:Zb M.top.v e.args with
  | none=>simp only[hv] at h;cases h
  | some v =>
    simp only[hv] at h
    obtain⟨ns,l,p,o,m⟩:=F.all hv
    rw[show QaA R.one.top.v e.args=some ns from l]
    simp only
    split at h
    ·have c:=S.rest g
     cases hm:M.rest with
     | nil =>
       rw[hm] at h c
       cases hr:R.rest with
       | cons b k=>rw[hr] at c;exact c.elim
       | nil =>
         simp only at h
         cases hn:Qcn M.top.v e.args with
         | none=>rw[hn] at h;cases h
         | some n =>
           rw[hn] at h
           cases h
           have:=F.nums hn
           rw[l] at this
           cases this
           exact⟨_,Z,⟨φ,π,S.heap,Z,S.out,Z,by show R.fuel+1=M.fuel+1;rw[S.fuel],Z,fun h=>(by cases h),fun h=>(by cases h),fun h=>(by cases h)⟩⟩
     | cons d rest =>
       rw[hm] at h c
       cases hr:R.rest with
       | nil=>rw[hr] at c;exact c.elim
       | cons b k =>
         rw[hr] at c
         simp only at h
         cases h
         have G:=c.1.push (xs:=v) (ns:=ns) o m d.i b.i c.1.eI;exact⟨_,Z,⟨φ,π,S.heap,S.done,S.out,S.back,by show R.fuel+1=M.fuel+1;rw[S.fuel],S.fin,fun _=>S.inp g,fun _=>⟨G.eF,G.eB,G.eI,G.len,G.val⟩,fun _=>c.2⟩⟩
    ·cases h
def Qmi (m:List (MFunc 6)):Prop:=∀ (k:Nat) fn (q:Nat) bl,m[k]?=some fn->fn.blocks[q]?=some bl->(∀ x∈bl.code,(1<=x.op/\x.op<=14)/\(x.op=5->x.args.length<=16))/\1<=bl.fin.op/\bl.fin.op<=3
theorem Qhf (H:Qmi m) (S:Sim φ π M R) (d:M.done=false) (l:M.rest.length<40) (c:M.out.length<=2000)(h:IM.step m op most M=some M'):∃ R',RM.step m op most R=some R'/\Qex M' R':=by
 have F:=S.top d;unfold IM.step at h;unfold RM.step;rw[S.fuel]
 split at h
 ·rename_i a
  cases h
  rw[Xs a]
  exact⟨_,Z,Sim.over (H:=S.heap) S.out S.back S.fuel 7⟩
 ·rename_i a
  rw[Xr a,F.eF]
  cases hm:m[M.top.f]? with
  | none=>rw[hm] at h;cases h
  | some fn =>
    rw[hm] at h
    simp only at h |-
    rw[F.eB]
    cases hb:fn.blocks[M.top.b]? with
    | none=>rw[hb] at h;cases h
    | some bl =>
      rw[hb] at h
      simp only at h |-
      rw[F.eI]
      obtain⟨j,g⟩:=H _ fn _ bl hm hb
      cases hx:bl.code[M.top.i]? with
      | some x =>
        rw[hx] at h
        simp only at h |-
        obtain⟨e,k⟩:=j x (Zm hx)
        have:=Qh9 S d l c e k h
        unfold ZE at this;rw[show R.one={ R with fuel:=M.fuel+1 } by show { R with fuel:=R.fuel+1 }=_;rw[S.fuel]] at this
        exact this
      | none =>
        rw[hx] at h
        simp only at h |-
        have:=Qiy S d g h
        rw[show R.one={ R with fuel:=M.fuel+1 } by show { R with fuel:=R.fuel+1 }=_;rw[S.fuel]] at this
        exact this
theorem Qhs (inp:List Int)(c:pages<=64):Qex (IM.start inp pages) (RM.start inp pages):=by
 have a:∀ k,(IM.start inp pages).h.place k=none:=fun k=>by
  show (Qd.new pages).place k=none;unfold Qd.place;simp[Qd.new]
 refine⟨fun _=>0,fun _ _=>0,⟨Est.ok_new pages c,?_,fun k p h=>?_,fun j k p q h=>?_,fun i r b=>?_,fun j r b=>?_,fun k p i t h=>?_,fun k p i t g d e f h=>?_⟩,Z,Z,Z,Z,Z,fun _=>rfl,fun _=>⟨Z,Z,Z,Z,fun j x n h=>by simp[IM.start] at h⟩,fun _=>trivial⟩
 ·show (pages:Int)=(PSt.new pages).free;simp[PSt.free,PSt.new]
 ·rw[a] at h;cases h
 ·rw[a] at h;cases h
 ·cases b
 ·cases b
 ·rw[a] at h;cases h
 ·rw[a] at h;cases h
end
theorem Qe7 {α:Type}{f a:α->Option α}:∀ {l l':List α},(∀ x∈l,∀ u,f x=some u->a x=some u)->ZV f l=some l'->ZV a l=some l'
 | [],l',_,h=>by simp[ZV] at h;subst h;rfl
 | x::xs,l',hx,h=>by
   simp only[ZV] at h
   cases h1:f x with
   | none=>simp[h1] at h
   | some y =>
     simp only[h1] at h
     cases h2:ZV f xs with
     | none=>simp[h2] at h
     | some ys =>
       simp only[h2] at h
       cases h
       simp only[ZV,hx x (by simp) y h1,Qe7 (fun z b=>hx z (by simp[b])) h2]
theorem TT.ren_more {m d:Nat}{b a:Nat->Int}(c:∀ k r r',ZK m b k r=some r'->ZK d a k r=some r'):{n:Nat}->{t u:TT n}->t.ren m b=some u->t.ren d a=some u
 | 0,t,_,_=>Empty.elim t
 | n+1,t,u,h=>by
   obtain⟨i,g,e⟩:=Zn h
   rw[ZT (c _ _ _ g) (Qe7 (fun x _ v f=>TT.ren_more c f) e),<-i]
   rfl
section
variable {m:List (MFunc 6)}{g g':Sig}{M M':IM}{fn:MFunc 6}{bl:MBlock 6}{s:JSt}{x:Qs}{op:Int->Int->Int->Option Int}{h:Qd}{v:List Q1}{r:List Int}
theorem Qig (I:Inv m g M fn bl s) (hx:bl.code[M.top.i]?=some x) (Q:s.code x=0) (A:x.op=4):QbW m op M x:=by
 obtain⟨t,j,P,tk,tr,K,S,R⟩:=Qij Q A
 have E:=(QM Q).2.1;rw[Qat A,P] at E
 simp only at E
 obtain⟨ha,F⟩:=QD E
 have C:s.f.regs<=j:=by
  by_cases e:t.r<s.f.regs
  ·rw[Xs e] at F;cases F
  ·omega
 obtain⟨a,t',u,O,X,W,e4,e5,e6,e7,U⟩:=I.fr.want ha
 rw[P] at O;cases O
 obtain⟨p,hp⟩:=U Z (by omega)
 have n:a.region=u.r:=by
  rcases e4 with ⟨c1,-⟩|⟨-,-,c⟩|⟨-,-,c,-⟩
  ·omega
  ·exact c
  ·exact c
 obtain⟨q1,q2,q3⟩:=QlW W (by omega)
 have o:u.r=M.top.r.getD j 0:=by rw[q3,tr];rfl
 have q:M.h.at a=some p:=by unfold Qd.at;rw[Xs e5,n];exact hp
 obtain⟨-,hq,i,N,hL,V⟩:=Qd.at_some q
 have y:M.h.shut a=(true,⟨M.h.L.set a.region.toNat noP,M.h.left+p.pages⟩):=by unfold Qd.shut;rw[q]
 have w:∀ k:Int,k≠u.r->(M.h.shut a).2.place k=M.h.place k:=fun k b=>by
  rw[y];simp only
  rw[Qd.place_set (by rw[N];exact(Zi hL).1),Xr (fun e=>b (by rw[e,<-n,N];simp))]
 unfold QbW;rw[Zv (by omega)]
 unfold IM.mem;have D:QQ M.one.top.v x.a=some a:=X;rw[D]
 simp only
 rw[Xs A]
 show ∃ M',(if (M.h.shut a).1 then some { M.one with h:=(M.h.shut a).2 } else none)=some M'/\QbR m M';rw[Xs (by rw[y])]
 refine⟨_,Z,.inr ⟨g,fn,bl,_,I.on hx Z Z Z Z ?_ (I.st.shut a) ?_⟩⟩
 ·rw[R]
  have d:∀ k,(s.H.set j false).getD k false=true->k≠j/\s.H.getD k false=true:=fun k b=>by
   by_cases e:k=j
   ·subst e;simp[List.getD,K] at b
   ·refine⟨e,?_⟩
    simpa[List.getD,List.getElem?_set_ne (Ne.symm e)] using b
  refine⟨by simpa using I.fr.rl,I.fr.pos,fun k b=>?_,fun k l b hl=>I.fr.dist k l (d k b).2 (d l hl).2,I.fr.vl,I.fr.val⟩
  obtain⟨k1,G⟩:=d k b
  obtain⟨T,z⟩:=I.fr.held k G
  exact⟨T,by rw[w _ (fun e=>k1 (I.fr.dist k j G S (by rw[e,o])))];exact z⟩
 ·rw[R]
  refine I.stk.keep (fun _ _ _ h=>h) (fun k b B=>?_) (fun k b=>?_) (fun k _=>rfl)
  ·have:k≠u.r:=fun e=>b ⟨j,S,C,by rw[e,o]⟩
   show ∃ p,(M.h.shut a).2.place k=some p;rw[w k this];exact B
  ·obtain⟨l,J,l2,l3⟩:=b
   refine .inl ⟨l,?_,l2,l3⟩;by_cases e:l=j
   ·subst e;simp[List.getD,K] at J
   ·simpa[List.getD,List.getElem?_set_ne (Ne.symm e)] using J
theorem Qj9 (I:Inv m g M fn bl s) (hx:bl.code[M.top.i]?=some x) (hc:s.code x=0) (T:x.op=3) (hJ:s.f.regs<=s.H.length):QbW m op M x:=by
 have S:=QbB (s:=s) T;have h0:=(QM hc).2.1;have X:¬ s.H.length=16:=fun e=>by rw[S,Xs e] at h0;cases h0
 rw[Xr X] at S
 unfold QbW IM.ins;rw[Xr (by omega),Xr (by omega),Xs T]
 show ∃ M',(if M.h.open_.2.1 then some (IM.push { M.one with h:=M.h.open_.2.2,top:={ M.one.top with r:=M.top.r++[M.h.open_.1.region] } } [M.h.open_.1]) else some (M.one.over 6))=some M'/\QbR m M';by_cases ho:16<=M.h.live
 ·have:M.h.open_.2.1=false:=by unfold Qd.open_;rw[Xs ho]
  rw[Xr (by rw[this];decide)]
  exact⟨_,Z,IM.over_good _ _ _⟩
 ·have P:M.h.open_=(⟨2,M.h.L.length,0,0⟩,true,{ M.h with L:=M.h.L++[newP] }):=by unfold Qd.open_;rw[Xr ho]
  rw[Xs (by rw[P])]
  have D:M.h.open_.1.region=(M.h.L.length:Int):=by rw[P]
  have K:∀ k:Int,M.h.open_.2.2.place k=if k=M.h.L.length then some newP else M.h.place k:=fun k=>by
   rw[P];exact Qd.place_push M.h newP k M.h.left
  have n:∀ k p,M.h.place k=some p->∃ p,M.h.open_.2.2.place k=some p:=fun k p e=>by
   rw[K];split
   ·exact⟨_,Z⟩
   ·exact⟨p,e⟩
  have o:M.h.place (M.h.L.length:Int)=none:=by
   rw[Qd.place_nat,Xk Ze]
  have A:(s.next x).H=s.H++[true]:=by unfold JSt.next;simp only;rw[Xs T]
  have N:(s.next x).L=s.L++[mkT 2 s.H.length []]:=by unfold JSt.next;simp only;rw[S]
  have E:=I.fr.rl
  have d:∀ k,k<s.H.length->(M.top.r++[(M.h.L.length:Int)]).getD k 0=M.top.r.getD k 0:=fun k c=>by
   simp[List.getD,List.getElem?_append_left (show k<M.top.r.length by omega)]
  have l:(M.top.r++[(M.h.L.length:Int)]).getD s.H.length 0=M.h.L.length:=by
   simp[List.getD,<-E]
  have z:∀ k,(s.H++[true]).getD k false=true->(k<s.H.length/\s.H.getD k false=true)\/k=s.H.length:=fun k c=>by
   rcases Nat.lt_trichotomy k s.H.length with e | e | e
   ·refine .inl ⟨e,?_⟩;simpa[List.getD,List.getElem?_append_left e] using c
   ·exact .inr e
   ·rw[Qam _ (by simp;omega)] at c;cases c
  have C:∀ {t u:TT 6},rtm M.top.r t=some u->rtm (M.top.r++[(M.h.L.length:Int)]) t=some u:=fun {t u} hu=>by
   refine TT.ren_more (fun k q q' w=>?_) hu;unfold ZK at w |-;by_cases c:k=1
   ·rw[Xs c] at w |-;exact w
   ·rw[Xr c] at w |-
    by_cases hb:q<0\/(M.top.r.length:Int)<=q
    ·rw[Xs hb] at w;cases w
    ·rw[Xr hb] at w
     rw[Xr (by simp;omega)]
     have e:=d q.toNat (by omega);simp only at w |-
     rw[e]
     exact w
  refine⟨_,Z,.inr ⟨g,fn,bl,_,I.on hx Z Z Z Z ?_ I.st.open ?_⟩⟩
  ·show FrT g M.h.open_.2.2 (s.next x) (M.top.v++[M.h.open_.1]) (M.top.r++[M.h.open_.1.region]);rw[D]
   refine⟨by rw[A];simp[E],fun k c=>?_,fun k c=>?_,fun j k hj c e=>?_,by rw[N];simp[I.fr.vl],fun j t y B F=>?_⟩
   ·rcases List.mem_append.1 c with e | e
    ·exact I.fr.pos k e
    ·simp at e;omega
   ·rw[A] at c
    rcases z k c with ⟨e1,e2⟩ | e
    ·rw[d k e1];obtain⟨p,Q⟩:=I.fr.held k e2;exact n _ p Q
    ·rw[e,l,K,Xs Z];exact⟨_,Z⟩
   ·rw[A] at hj c
    have G:∀ i,s.H.getD i false=true->i<s.H.length->M.top.r.getD i 0≠(M.h.L.length:Int):=fun i hi hl e=>by
     obtain⟨p,Q⟩:=I.fr.held i hi
     rw[e,o] at Q;cases Q
    rcases z j hj with ⟨J,O⟩ | a<;>rcases z k c with ⟨W,b2⟩ | b
    ·rw[d j J,d k W] at e;exact I.fr.dist j k O b2 e
    ·rw[d j J,b,l] at e;exact absurd e (G j O J)
    ·rw[d k W,a,l] at e;exact absurd e.symm (G k b2 W)
    ·rw[a,b]
   ·rw[N] at B
    rcases Nat.lt_or_ge j s.L.length with e | e
    ·rw[XP e] at B
     rw[XP (by rw[I.fr.vl];exact e)] at F
     obtain⟨u,u1,u2⟩:=I.fr.val j t y B F
     exact⟨u,C u1,u2⟩
    ·rw[XQ e] at B
     rw[XQ (by rw[I.fr.vl];exact e),I.fr.vl] at F
     have V:j - s.L.length=0:=by have:=(Zi B).1;simp at this;omega
     rw[V] at B F
     simp at B F
     subst B F;refine⟨mkT 2 (M.h.L.length:Int) [],?_,.inr (.inl ⟨Z,by rw[P],by rw[D];rfl⟩)⟩
     refine ZT (t:=(mkT 2 (s.H.length:Int) []:TT 6)) ?_ Z;show ZK _ _ 2 (s.H.length:Int)=_;unfold ZK;rw[Xr (by decide),Xr (by simp[E];omega)]
     simp only[Int.toNat_natCast]
     rw[l,Xr (by omega)]
  ·show Stk m g M.h.open_.2.2 (Own (s.next x) (M.top.r++[M.h.open_.1.region])) fn M.top.f (M.top.r++[M.h.open_.1.region]) M.rest;rw[D]
   have U:=I.mf.2;refine I.stk.keep (fun _ _ _ h=>h) (fun k _ ⟨p,e⟩=>n k p e) (fun k c=>?_) (fun k c=>?_)
   ·obtain⟨j,j1,j2,R⟩:=c
    rw[A] at j1
    rcases z j j1 with ⟨J,O⟩ | a
    ·rw[d j J] at R;exact .inl ⟨j,O,j2,R⟩
    ·rw[a,l] at R;exact .inr (by rw[<-R];exact o)
   ·rcases Nat.lt_or_ge k s.H.length with e | e
    ·exact d k e
    ·rw[<-U] at c;omega
theorem Qe8 (F:FrT g h s v r):∀ {l:List Int},(∀ k∈l,hHas s.H k=true)->∃ r',Qby r l=some r'/\r'.length=l.length/\(∀ j,j<l.length->r'.getD j 0=r.getD (l.getD j 0).toNat 0)/\∀ k∈r',0<=k
 | [],_=>⟨[],Z,Z,fun j d=>by simp at d,fun k b=>by simp at b⟩
 | k::l,hl=>by
   obtain⟨r',n,m,f,i⟩:=Qe8 F (l:=l) (fun z c=>hl z (by simp[c]))
   have b:=hl k (by simp);unfold hHas at b;simp only[Bool.and_eq_true,decide_eq_true_eq] at b
   have a:k.toNat<r.length:=by
    rw[F.rl]
    rcases Nat.lt_or_ge k.toNat s.H.length with e | e
    ·exact e
    ·rw[Qam _ e] at b;exact absurd b.2 (by decide)
   have o:Ql3 r k=some r[k.toNat]:=by unfold Ql3;rw[Xr (by omega)];exact Zg a
   refine⟨r[k.toNat]::r',by simp only[Qby,o,n],by simp[m],fun j d=>?_,fun z c=>?_⟩
   ·cases j with
    | zero=>simp[List.getD,Zg a]
    | succ j=>have:=f j (by simpa using d);simpa[List.getD] using this
   ·rcases List.mem_cons.1 c with e | e
    ·rw[e];exact F.pos _ (List.getElem_mem a)
    ·exact i z e
theorem Qew {r r':List Int}(w:n<=l.length) (s:n<=r'.length) (o:∀ j,j<n->0<=l.getD j 0/\(l.getD j 0).toNat<r.length) (g:∀ k∈r,0<=k) (p:∀ j,j<n->r'.getD j 0=r.getD (l.getD j 0).toNat 0){t e:TT 6}(f:t.ren n (fun i=>l.getD i 0)=some e):∃ u,rtm r e=some u/\t.ren n (fun i=>r'.getD i 0)=some u:=by
 refine TT.ren_comp (fun k q v a=>?_) f;unfold ZK at a;by_cases b:k=1
 ·rw[Xs b] at a;cases a
  exact⟨q,by unfold ZK;rw[Xs b],by unfold ZK;rw[Xs b]⟩
 ·rw[Xr b] at a
  by_cases c:q<0\/(n:Int)<=q
  ·rw[Xs c] at a;cases a
  ·rw[Xr c] at a
   obtain⟨x,d⟩:=o q.toNat (by omega)
   have m:=p q.toNat (by omega);simp only at a
   rw[Xr (by omega)] at a
   cases a
   have h:0<=r.getD (l.getD q.toNat 0).toNat 0:=by
    have:r.getD (l.getD q.toNat 0).toNat 0=r[(l.getD q.toNat 0).toNat]:=by rw[List.getD_eq_getElem?_getD,Zg d];rfl
    rw[this];exact g _ (List.getElem_mem d)
   refine⟨r.getD (l.getD q.toNat 0).toNat 0,?_,?_⟩
   ·unfold ZK;rw[Xr b,Xr (by omega)]
    simp only
    rw[Xr (by omega)]
   ·unfold ZK;rw[Xr b,Xr c]
    simp only
    rw[m,Xr (by omega)]
theorem Qft (F:FrT g h s v r){l:List Int}:∀ {a:List Int}{ts:List (TT 6)},a.length=ts.length->Qu (fun p:Int × TT 6=>s.arg l p.1 p.2) (a.zip ts)=0->∃ xs,Zb v a=some xs/\xs.length=ts.length/\∀ (j:Nat) (y:Q1) (t:TT 6),xs[j]?=some y->ts[j]?=some t->∃ us u,t.ren l.length (fun i=>l.getD i 0)=some us/\rtm r us=some u/\Qeq g y u
 | [],ts,hl,h0=>by
   have:ts=[]:=Xf.1 hl.symm
   subst this;exact⟨[],Z,Z,fun j y t c=>by simp at c⟩
 | k::a,[],hl,h0=>by simp at hl
 | k::a,t::ts,hl,h0=>by
   have m:=QE.1 h0;obtain⟨xs,A,z,n⟩:=Qft F (a:=a) (ts:=ts) (by simpa using hl) (QE.2 (fun p o=>m p (by simp[o])))
   have b:s.arg l k t=0:=m (k,t) (by simp);unfold JSt.arg at b
   cases ek:s.at k with
   | none=>rw[ek] at b;cases b
   | some us =>
     rw[ek] at b
     simp only at b
     by_cases f:ZQ (t.ren l.length (fun i=>l.getD i 0)=some us)=true
     ·have e:t.ren l.length (fun i=>l.getD i 0)=some us:=by simpa[ZQ] using f
      obtain⟨y,u,B,C,q⟩:=F.at ek
      refine⟨y::xs,by simp only[Zb,B,A],by simp[z],fun j x w c d=>?_⟩
      cases j with
      | zero=>simp at c d;subst c d;exact⟨us,u,e,C,q⟩
      | succ j=>exact n j x w (by simpa using c) (by simpa using d)
     ·rw[Xr f] at b;cases b
theorem QbP (a:n<=16) (k:Nat):(QbX (n:Int)).getD k false=true↔k<n:=by
 unfold QbX
 have:(min (n:Int) 16).toNat=n:=by omega
 rw[this]
 rcases Nat.lt_or_ge k n with e | e
 ·simp[List.getD,e]
 ·simp[List.getD,e]
theorem FrT.hand (F:FrT g h s v r){a:List Int}{ts:List (TT 6)}(p:l.length<=16) (E:∀ k∈l,hHas s.H k=true) (w:l.Nodup) (x:s.args a ts l=0) (T:List (MFunc 6)) (R:MFunc 6) :
 ∃ r' v',Qby r l=some r'/\Zb v a=some v'/\r'.length=l.length/\v'.length=ts.length/\(∀ j,j<l.length->r'.getD j 0=r.getD (l.getD j 0).toNat 0)/\FrT g h ⟨T,R,QbX (l.length:Int),ts⟩ v' r':=by
 obtain⟨r',N,C,q,S⟩:=Qe8 F E
 unfold JSt.args at x;by_cases i:a.length=ts.length
 ·rw[Xs i] at x
  obtain⟨v',L,A,Q⟩:=Qft F i x
  have d:∀ j,j<l.length->0<=l.getD j 0/\s.H.getD (l.getD j 0).toNat false=true/\(l.getD j 0).toNat<r.length:=fun j o=>by
   have I:l.getD j 0∈l:=by simp only[List.getD,Zg o,Option.getD_some];exact List.getElem_mem o
   have m:=E _ I;unfold hHas at m;simp only[Bool.and_eq_true,decide_eq_true_eq] at m
   refine⟨m.1,m.2,?_⟩
   rw[F.rl]
   rcases Nat.lt_or_ge (l.getD j 0).toNat s.H.length with e | e
   ·exact e
   ·have B:=m.2;rw[Qam _ e] at B;cases B
  refine⟨r',v',N,L,C,A,q,⟨?_,S,fun k m=>?_,fun j k o m e=>?_,A,fun j t y K O=>?_⟩⟩
  ·show r'.length=(QbX (l.length:Int)).length
   have:=Qd0 (n:=(l.length:Int)) ⟨by omega,by omega⟩
   omega
  ·have b:=(QbP p k).1 m;rw[q k b]
   exact F.held _ (d k b).2.1
  ·have f:=(QbP p j).1 o;have b:=(QbP p k).1 m;rw[q j f,q k b] at e
   have:=F.dist _ _ (d j f).2.1 (d k b).2.1 e
   have z:l.getD j 0=l.getD k 0:=by have:=(d j f).1;have:=(d k b).1;omega
   simp only[List.getD,Zg f,Zg b,Option.getD_some] at z
   rcases Nat.lt_trichotomy j k with c | c | c
   ·exact absurd z (List.pairwise_iff_getElem.1 w j k f b c)
   ·exact c
   ·exact absurd z.symm (List.pairwise_iff_getElem.1 w k j b f c)
  ·obtain⟨V,u,G,D,P⟩:=Q j y t O K
   obtain⟨U,M,J⟩:=Qew Ze (by omega) (fun j o=>⟨(d j o).1,(d j o).2.2⟩) F.pos q G
   rw[M] at D;cases D
   exact⟨_,by show t.ren r'.length _=_;rw[C];exact J,P⟩
 ·rw[Xr i] at x;cases x
theorem Qbg {H:List Bool}:∀ {l ahead:List Int},QL H ahead l=0->l.Nodup/\∀ k∈l,k ∉ ahead
 | [],_,_=>⟨by simp,fun k b=>by simp at b⟩
 | k::l,ahead,h=>by
   simp only[QL] at h
   split at h
   ·split at h
    ·cases h
    ·rename_i d
     obtain⟨g,c⟩:=Qbg h
     refine⟨List.nodup_cons.2 ⟨fun b=>c k b (by simp),g⟩,fun z f=>?_⟩
     rcases List.mem_cons.1 f with e | e
     ·rw[e];exact fun a=>d (inB_iff.2 a)
     ·exact fun a=>c z e (by simp[a])
   ·cases h
theorem QcH {H:List Bool}:∀ {l ahead:List Int},hPass H ahead l=0->l.Nodup/\(∀ k∈l,k ∉ ahead)/\∀ k∈l,hHas H k=true
 | [],_,_=>⟨by simp,fun k a=>by simp at a,fun k a=>by simp at a⟩
 | k::l,ahead,h=>by
   simp only[hPass] at h
   split at h
   ·rename_i b
    split at h
    ·cases h
    ·rename_i g
     obtain⟨j,f,i⟩:=QcH h
     refine⟨List.nodup_cons.2 ⟨fun a=>f k a (by simp),j⟩,fun z d=>?_,fun z d=>?_⟩
     ·rcases List.mem_cons.1 d with e | e
      ·rw[e];exact fun c=>g (inB_iff.2 c)
      ·exact fun c=>f z e (by simp[c])
     ·rcases List.mem_cons.1 d with e | e
      ·rw[e];exact b
      ·exact i z e
   ·cases h
theorem Z7 (g:(modFault m).1=0){f:MFunc 6}(i:m[k]?=some f):∃ b,f.blocks[0]?=some b/\b.regs=f.regs/\b.params=f.params/\f.right m.length/\(k=0->f.regs=0/\f.params.length=0/\∀ t∈f.results,t.kind=1):=by
 have n:=(Zo g).2 f (Zm i);obtain⟨b,j⟩:∃ b,f.blocks[0]?=some b:=⟨_,Zg n.many.1⟩
 unfold modFault at g;split at g
 ·cases g
 have a:=QR g k f i;rw[XK] at a
 unfold MFunc.fault at a;split at a
 ·cases a
 split at a
 ·rename_i c;exact absurd a c
 split at a
 ·rename_i c;exact absurd a c
 split at a
 ·cases a
 split at a
 ·cases a
 rename_i h
 have c:=QR a 0 b j;simp only[Nat.zero_add] at c
 unfold MBlock.fault at c;split at c
 ·cases c
 split at c
 ·rename_i p;exact absurd c p
 split at c
 ·cases c
 rename_i l
 have d:b.regs=f.regs/\Qde b.params f.params=true:=by
  constructor
  ·exact Xq.1 fun e=>l ⟨Z,.inl e⟩
  ·cases e:Qde b.params f.params with
   | true=>rfl
   | false=>exact absurd ⟨Z,.inr e⟩ l
 refine⟨b,j,d.1,Qc5.1 d.2,n,fun q=>?_⟩
 have:f.regs=0/\f.params.length=0/\f.results.all (fun t=>t.kind==1)=true:=Xq.1 fun e=>h ⟨q,e⟩
 refine⟨this.1,this.2.1,fun t o=>?_⟩
 have:=Xe.1 this.2.2 t o
 simpa using this
theorem QiV (Q:(modFault m).1=0) (I:Inv m g M fn bl s) (C:bl.code[M.top.i]?=some x) (P:s.code x=0) (e:x.op=14):QbW m op M x:=by
 obtain⟨a,l,-⟩:=QM P
 have z:0<=x.k/\x.k<m.length/\x.regs.length<=6:=by
  rw[I.mf.1] at a
  unfold Qs.form at a;repeat' split at a
  all_goals first | omega | cases a
 obtain⟨d,c⟩:∃ d,m[x.k.toNat]?=some d:=⟨_,Zg (by omega)⟩
 rw[Qa7 e,I.mf.1,c] at l
 simp only at l
 by_cases p:(x.regs.length:Int)=d.regs
 ·rw[Xs p] at l
  obtain⟨B,E⟩:=QD l
  obtain⟨f,w,A,N,U,-⟩:=Z7 Q c
  obtain⟨t,D,L,K,T,R,O,F⟩:=I.fr.hand (by omega) (ZB B) (Qbg B).1 E m d
  unfold QbW IM.ins;rw[Xr (by omega),Xr (by omega),Xr (by omega),Xr (by omega),Xr (by omega),Xs e]
  unfold IM.call;have u:Qby M.one.top.r x.regs=some t:=L;have y:Zb M.one.top.v x.args=some D:=K;rw[u,y,c]
  simp only
  rw[Xs ⟨by omega,R⟩]
  by_cases o:M.rest.length+1=40
  ·rw[Xs o];exact⟨_,Z,IM.over_good _ _ _⟩
  ·rw[Xr o]
   refine⟨_,Z,.inr ⟨g,d,f,JSt.start m d f,⟨c,w,Xb _,Z,?_,I.st,?_⟩⟩⟩
   ·show FrT g M.h ⟨m,d,QbX f.regs,f.params⟩ D t;rw[A,N,<-p];exact F
   ·have G:=(Zi C).1
    have b:∀ k,¬ Own (JSt.start m d f) t k:=fun k ⟨j,J,S,V⟩=>by
     have n:(QbX f.regs).getD j false=true:=J;rw[A,<-p] at n
     have:=(QbP (by omega) j).1 n
     have H:d.regs<=j:=S;omega
    refine⟨fn,bl,x,s,I.hf,I.hb,Nat.succ_pos _,by simpa using C,e,by show x.k=((x.k.toNat:Nat):Int);omega,by simpa using I.hs,I.fr,fun k z=>O k (by omega),fun k _=>b _,?_⟩
    refine I.stk.keep (fun _ _ _ h=>h) (fun k _ h=>h) (fun k z=>?_) (fun k _=>rfl);rcases z with q | q
    ·exact absurd q (b k)
    ·exact .inl q
 ·rw[Xr p] at l;cases l
end
theorem JSt.next_len (s:JSt) (x:Qs):s.H.length<=(s.next x).H.length:=by
 unfold JSt.next
 simp only
 split
 ·simp
 ·split
  ·simp
  ·exact Ze
theorem JSt.upto_len:∀ (l:List Qs) (s:JSt),s.H.length<=(s.upto l).H.length
 | [],s=>Ze
 | x::l,s=>Zt (s.next_len x) (JSt.upto_len l (s.next x))
section
variable {m:List (MFunc 6)}{g g':Sig}{M M':IM}{fn:MFunc 6}{bl:MBlock 6}{s:JSt}{x:Qs}{op:Int->Int->Int->Option Int}{h:Qd}{v:List Q1}{r:List Int}
theorem Qlr (e:(modFault m).1=0)(c:m[k]?=some fn) (d:fn.blocks[q]?=some bl) (l:List Qs):fn.regs<=((JSt.start m fn bl).upto l).H.length:=by
 have b:=(Zo e).2 fn (Zm c);have a:=b.blocks bl (Zm d);have h:=JSt.upto_len l (JSt.start m fn bl);have g:=Qd0 (n:=bl.regs) ⟨by have:=b.regs;have:=a.regs;omega,a.regs.2⟩;have f:(JSt.start m fn bl).H.length=(QbX bl.regs).length:=rfl
 have:=a.regs
 omega
theorem Inv.kept (a:(modFault m).1=0) (I:Inv m g M fn bl s):s.f.regs<=s.H.length:=by
 rw[I.mf.2,I.hs];exact Qlr a I.hf I.hb _
theorem QgS (h:Qdp n regs=0):∀ i,i<n->regs.getD i 0=(i:Int):=by
 unfold Qdp at h;split at h
 ·rename_i b
  intro i a
  have:=Xe.1 b i (List.mem_range.2 a)
  simpa using this
 ·cases h
theorem Qf3 (S:(modFault m).1=0) (I:Inv m g M fn bl s){t:MTo}(a:s.to t=0) (A:0<=t.block/\t.block<fn.blocks.length/\t.regs.length<=16):∃ M',IM.to fn { M with fuel:=M.fuel+1 } t=some M'/\QbR m M':=by
 obtain⟨b,p⟩:∃ b,fn.blocks[t.block.toNat]?=some b:=⟨_,Zg (by omega)⟩
 unfold JSt.to at a;rw[I.mf.2,p] at a
 simp only at a
 by_cases q:(t.regs.length:Int)=b.regs
 ·rw[Xs q] at a
  obtain⟨G,a⟩:=QD a
  obtain⟨H,N⟩:=QD a
  have n:=QgS G;obtain⟨x,-,C⟩:=QcH H
  obtain⟨v,U,R,Q,X,V,E,F⟩:=I.fr.hand A.2.2 C x N m fn
  have D:=(Zo S).2 fn (Zm I.hf);have P:=D.blocks b (Zm p);have r1:=D.regs;have r2:=P.regs;have w:=I.mf.2;unfold IM.to;rw[p]
  simp only
  rw[R,Q]
  simp only
  rw[Xs ⟨by omega,V⟩]
  refine⟨_,Z,.inr ⟨g,fn,b,JSt.start m fn b,⟨I.hf,p,Xb _,Z,?_,I.st,?_⟩⟩⟩
  ·show FrT g M.h ⟨m,fn,QbX b.regs,b.params⟩ U v;rw[<-q];exact F
  ·refine I.stk.keep (fun _ _ _ h=>h) (fun k _ h=>h) (fun k i=>?_) (fun k i=>?_)
   ·obtain⟨j,O,W,T⟩:=i
    have l:(QbX b.regs).getD j false=true:=O;rw[<-q] at l
    have f:=(QbP A.2.2 j).1 l;have K:fn.regs<=j:=W;have u:v.getD j 0=k:=T;have y:t.regs.getD j 0∈t.regs:=by rw[List.getD_eq_getElem?_getD,Zg f];exact List.getElem_mem f
    have i:=C _ y;unfold hHas at i;simp only[Bool.and_eq_true,decide_eq_true_eq] at i
    refine .inl ⟨(t.regs.getD j 0).toNat,i.2,?_,by rw[<-E j f];exact u⟩;rw[w]
    refine Int.not_lt.1 fun J=>?_;have L:=n (t.regs.getD j 0).toNat (by omega);have d:(t.regs.getD j 0).toNat<t.regs.length:=by omega
    have e:t.regs.getD (t.regs.getD j 0).toNat 0=t.regs.getD j 0:=by rw[L];omega
    have o:(t.regs.getD j 0).toNat≠j:=by omega
    generalize (t.regs.getD j 0).toNat=z at d e o;rw[List.getD_eq_getElem?_getD,List.getD_eq_getElem?_getD,Zg f,Zg d] at e
    have B:t.regs[z]=t.regs[j]:=e;rcases Nat.lt_trichotomy z j with c | c | c
    ·exact List.pairwise_iff_getElem.1 x z j d f c B
    ·exact o c
    ·exact List.pairwise_iff_getElem.1 x j z f d c B.symm
   ·show v.getD k 0=M.top.r.getD k 0;rw[E k (by omega),n k (by omega)]
    rfl
 ·rw[Xr q] at a;cases a
theorem QeI {v:List Q1}:∀ {a:List Int}{xs:List Q1},Zb v a=some xs->(∀ y∈xs,y.kind=1)->∃ ns,Qcn v a=some ns
 | [],xs,_,_=>⟨[],Z⟩
 | k::a,xs,h,hk=>by
   simp only[Zb] at h
   cases h1:QQ v k with
   | none=>rw[h1] at h;cases h
   | some y =>
     rw[h1] at h
     simp only at h
     cases h2:Zb v a with
     | none=>rw[h2] at h;cases h
     | some ys =>
       rw[h2] at h
       simp only at h
       cases h
       obtain⟨ns,b⟩:=QeI h2 (fun z c=>hk z (by simp[c]))
       have:QS v k=some y.n:=by unfold QS;rw[h1];simp only;rw[Xs (hk y (by simp))]
       exact⟨y.n::ns,by simp only[Qcn,this,b]⟩
theorem Qgp (n:Nat):(QhD n).length=n:=by simp[QhD]
theorem Qgl (h:j<n):(QhD n).getD j 0=(j:Int):=by simp[QhD,List.getD,h]
theorem Qki (R:(Qq m).1=0) (I:Inv m g M fn bl s){e:ZC}(O:s.fin e=0) (h3:e.op=3):∃ M',IM.endd fn { M with fuel:=M.fuel+1 } e=some M'/\QbR m M':=by
 obtain⟨hM,P⟩:=Qb2 R
 have B:=I.mf.2;unfold JSt.fin at O;split at O
 ·rename_i hn;exact absurd O hn
 rw[Xr (by omega),Xr (by omega)] at O
 obtain⟨G,C⟩:=QD O
 rw[B] at G C
 have al:∀ k,¬ Own s M.top.r k:=fun k ⟨j,V,j2,j3⟩=>by
  split at C
  ·rename_i hq
   have A:(j:Int)∈Qal s.H:=(Qc9 s.H _).2 (by unfold hHas;simp only[Int.toNat_natCast,V,Bool.and_true];simp)
   have:=Xe.1 hq _ A
   simp only[decide_eq_true_eq] at this
   rw[B] at j2;omega
  ·cases C
 unfold JSt.args at G;by_cases p:e.args.length=fn.results.length
 ·rw[Xs p] at G
  obtain⟨xs,f1,W,f3⟩:=Qft I.fr p G
  rw[Qgp] at f3
  have Q:=(Zo hM).2 fn (Zm I.hf);have D:=I.kept hM;rw[B,<-I.fr.rl] at D
  unfold IM.endd;rw[Xr (by omega),Xr (by omega)]
  show ∃ M',(match Zb M.top.v e.args with | none=>none | some v=>_)=some M'/\QbR m M';rw[f1]
  simp only
  rw[Xs W]
  cases er:M.rest with
  | nil =>
    have S:=I.stk;rw[er] at S
    have J:M.top.f=0:=S;obtain⟨b0,-,-,-,-,hz⟩:=Z7 hM I.hf
    obtain⟨-,-,hz⟩:=hz J
    obtain⟨ns,ad⟩:=QeI f1 (fun y hy=>by
     obtain⟨j,q⟩:=List.mem_iff_getElem?.1 hy
     obtain⟨t,ht⟩:∃ t,fn.results[j]?=some t:=⟨_,Zg (by rw[<-W];exact(Zi q).1)⟩
     obtain⟨us,u,T,U,a3⟩:=f3 j y t q ht
     rw[a3.kind,Qgs U,show us.kind=t.kind from (Zn T).1]
     exact hz t (Zm ht))
    simp only
    rw[ad]
    exact⟨_,Z,.inl Z⟩
  | cons d rest =>
    have S:=I.stk;rw[er] at S
    obtain⟨E,a,x,z,d1,d2,d3,d4,d5,d6,d7,F,d8,d9,aa⟩:=S
    simp only
    have L:=JSt.upto_mf (a.code.take (d.i - 1)) (JSt.start m E a);rw[<-d7] at L
    have hc:=(P _ E _ a d1 d2).1 (d.i - 1) x d4;rw[<-d7] at hc
    have J:=(QM hc).2.1;have A:=Qa7 (s:=z) d5;have N:z.m=m:=L.1;have X:m[x.k.toNat]?=some fn:=by rw[d6,XT];exact I.hf
    rw[N,X] at A
    simp only at A
    have ah:(x.regs.length:Int)=fn.regs:=Xq.1 fun ag=>by rw[A,Xr ag] at J;cases J
    rw[Xs ah] at A
    rw[A] at J
    obtain⟨af,-⟩:=QD J
    have am:=(Zi d4).1
    have w:∀ j,j<x.regs.length->0<=x.regs.getD j 0/\(x.regs.getD j 0).toNat<d.r.length:=fun j q=>by
     have ai:x.regs.getD j 0∈x.regs:=by rw[List.getD_eq_getElem?_getD,Zg q];exact List.getElem_mem q
     have K:=ZB af _ ai;unfold hHas at K;simp only[Bool.and_eq_true,decide_eq_true_eq] at K
     refine⟨K.1,?_⟩
     rw[F.rl]
     rcases Nat.lt_or_ge (x.regs.getD j 0).toNat z.H.length with c | c
     ·exact c
     ·have h2:=K.2;rw[Qam _ c] at h2;cases h2
    have ak:=Q.regs;have hn:fn.regs.toNat=x.regs.length:=by omega
    refine⟨_,Z,.inr ⟨g,E,a,z.next x,⟨d1,d2,by show d.i<=_;omega,?_,?_,I.st,?_⟩⟩⟩
    ·show z.next x=(JSt.start m E a).upto (a.code.take d.i)
     have:d.i=d.i - 1+1:=by omega
     rw[this,XV,d4]
     show z.next x=(JSt.start m E a).upto (a.code.take (d.i - 1)++[x])
     rw[JSt.upto_snoc,<-d7]
    ·show FrT g M.h (z.next x) (d.v++xs) d.r;refine F.push (ts:=fn.results.map (Qag x.regs)) (by simp[W]) (fun j y t' hy o=>?_) (Qbb (by omega) (by omega)) (by unfold JSt.next;simp only;rw[A]);rw[XS] at o
     cases et:fn.results[j]? with
     | none=>rw[et] at o;cases o
     | some t =>
       rw[et] at o
       have aj:Qag x.regs t=t':=Xn o;obtain⟨us,u,T,U,a3⟩:=f3 j y t hy et
       have ab:=Q.results.2 t (Zm et);obtain⟨ac,c1,-⟩:=Qfx (m:=x.regs.length) (too:=fun i=>x.regs.getD i 0) (b:=(d.r.length:Int)) (by omega) (fun i hi=>⟨(w i hi).1,by have:=(w i hi).1;have:=(w i hi).2;omega⟩) ab
       have ae:t'=ac:=by rw[<-aj];unfold Qag;rw[c1];rfl
       obtain⟨u1,g1,g2⟩:=Qew (l:=x.regs) (r:=d.r) (r':=M.top.r) (n:=x.regs.length) Ze (by omega) w F.pos (fun j q=>d8 j (by omega)) c1
       rw[hn] at T
       obtain⟨u2,g3,g4⟩:=Qew (l:=QhD x.regs.length) (r:=M.top.r) (r':=M.top.r) (n:=x.regs.length) (by rw[Qgp];exact Ze) (by omega) (fun j q=>by rw[Qgl q];exact⟨by omega,by simp;omega⟩) I.fr.pos (fun j q=>by rw[Qgl q];rfl) T
       rw[g3] at U;cases U
       rw[g2] at g4;cases g4
       exact⟨_,by rw[ae];exact g1,a3⟩
    ·show Stk m g M.h (Own (z.next x) d.r) E d.f d.r rest;refine aa.keep (fun _ _ _ h=>h) (fun k _ h=>h) (fun k K=>?_) (fun k _=>rfl);obtain⟨j,V,j2,j3⟩:=K
     rw[Qbb (by omega) (by omega)] at V
     exact .inl (.inr ⟨j,V,j2,j3⟩)
 ·rw[Xr p] at G;cases G
theorem Qkd (R:(Qq m).1=0) (I:Inv m g M fn bl s){e:ZC}(b:s.fin e=0):∃ M',IM.endd fn { M with fuel:=M.fuel+1 } e=some M'/\QbR m M':=by
 have p:=(Qb2 R).1;have l:=b;have k:=I.mf.2;unfold JSt.fin at b;split at b
 ·rename_i q;exact absurd b q
 rename_i a
 have a:=Xq.1 a;rw[k] at a
 have w:(e.op=1\/e.op=2\/e.op=3)/\(e.op≠3->0<=e.yes.block/\e.yes.block<fn.blocks.length/\e.yes.regs.length<=16)/\(e.op=2->0<=e.no.block/\e.no.block<fn.blocks.length/\e.no.regs.length<=16):=by
  unfold ZC.form at a;split at a
  ·cases a
  split at a
  ·cases a
  split at a
  ·cases a
  split at a
  ·rename_i f;exact absurd a f
  rename_i i h r f
  have f:=Xq.1 f
  have d:∀ (t:MTo),t.form fn.blocks.length true=0->0<=t.block/\t.block<fn.blocks.length/\t.regs.length<=16:=fun t c=>by
   unfold MTo.form at c;rw[Xr (by decide)] at c
   split at c
   ·cases c
   split at c
   ·cases c
   omega
  exact⟨by omega,fun o=>d _ (by simpa[o] using f),fun j=>d _ (by simpa[j] using a)⟩
 obtain⟨z,u,q⟩:=w
 rcases z with i | h | r
 ·rw[Xs i] at b
  unfold IM.endd;rw[Xs i]
  exact Qf3 p I b (u (by omega))
 ·rw[Xr (by omega),Xs h] at b
  obtain⟨y,b⟩:=QD b
  obtain⟨B,x⟩:=QD b
  obtain⟨n,A⟩:=I.fr.num y
  unfold IM.endd;rw[Xr (by omega),Xs h]
  simp only[A]
  by_cases v:n=0
  ·rw[Xs v];exact Qf3 p I x (q h)
  ·rw[Xr v];exact Qf3 p I B (u (by omega))
 ·exact Qki R I l r
theorem Qkg (R:(Qq m).1=0) (I:Inv m g M fn bl s) (b:bl.code[M.top.i]?=some x):QbW m op M x:=by
 obtain⟨h,c⟩:=Qb2 R
 have a:=(c _ fn _ bl I.hf I.hb).1 M.top.i x b;rw[<-I.hs] at a
 have j:1<=x.op/\x.op<=14:=by
  have f:=(QM a).1;unfold Qs.form at f;split at f
  ·cases f
  rename_i d
  unfold Q5 at d;by_cases e:1<=x.op/\x.op<=14
  ·exact e
  ·exfalso;apply d
   rw[Xr (by omega),Xr (by omega),Xr (by omega),Xr (by omega),Xr (by omega),Xr (by omega),Xr (by omega),Xr (by omega),Xr (by omega)]
   rfl
 have:x.op=1\/x.op=2\/x.op=3\/x.op=4\/x.op=5\/x.op=6\/x.op=7\/x.op=8\/x.op=9\/x.op=10\/x.op=11\/x.op=12\/x.op=13\/x.op=14:=by omega
 rcases this with e | e | e | e | e | e | e | e | e | e | e | e | e | e
 ·exact QkB I b a e
 ·exact Qkx I b a e
 ·exact Qj9 I b a e (I.kept h)
 ·exact Qig I b a e
 ·exact Qht I b a e
 ·exact QjO I b a e
 ·exact Qkw I b a e
 ·exact Qhl I b a e
 ·exact Qii I b a e
 ·exact Qhd I b a e
 ·exact QjM I b a e
 ·exact Ql0 I b a e
 ·exact QjK I b a e
 ·exact QiV h I b a e
theorem Qh0 (R:(Qq m).1=0) (I:Inv m g M fn bl s) (most:Nat):∃ M',IM.step m op most M=some M'/\QbR m M':=by
 unfold IM.step;by_cases b:M.fuel=most
 ·rw[Xs b];exact⟨_,Z,IM.over_good _ _ _⟩
 ·rw[Xr b,I.hf]
  simp only
  rw[I.hb]
  simp only
  cases hx:bl.code[M.top.i]? with
  | some x=>exact Qkg R I hx
  | none =>
    have c:=((Qb2 R).2 _ fn _ bl I.hf I.hb).2;have d:M.top.i=bl.code.length:=by have:=I.hi;have:=List.getElem?_eq_none_iff.1 hx;omega
    have a:=I.hs;rw[d,List.take_length] at a
    rw[<-a] at c
    exact Qkd R I c
theorem QgZ (R:(Qq m).1=0) (inp:List Int) (pages:Nat):QbR m (IM.start inp pages):=by
 obtain⟨d,-⟩:=Qb2 R
 obtain⟨f,c⟩:∃ f,m[0]?=some f:=⟨_,Zg (Zo d).1.1⟩
 obtain⟨b,h,l,q,-,i⟩:=Z7 d c
 obtain⟨e,p,-⟩:=i Z
 refine .inr ⟨_,f,b,JSt.start m f b,⟨c,h,Xb _,Z,?_,StT.new pages,Z⟩⟩;show FrT _ _ ⟨m,f,QbX b.regs,b.params⟩ [] [];have o:QbX b.regs=[]:=by rw[l,e];rfl
 have n:b.params=[]:=by rw[q];exact Xf.1 p
 rw[o,n]
 exact⟨Z,fun k a=>by simp at a,fun k a=>by simp[List.getD] at a,fun j k r=>by simp[List.getD] at r,Z,fun j t y g=>by simp at g⟩
def IM.steps (m:List (MFunc 6)) (op:Int->Int->Int->Option Int) (most:Nat):Nat->IM->Option IM
 | 0,M=>some M
 | n+1,M=>if M.done then some M else match M.step m op most with
   | none=>none
   | some M'=>M'.steps m op most n
end
section
variable {m:List (MFunc 6)}{op:Int->Int->Int->Option Int}{M M':IM}{R:RM}{x:Qs}{most:Nat}
theorem QmN (R:(Qq m).1=0):Qmi m:=fun k g q p h i=>by
 obtain⟨t,c⟩:=Qb2 R
 obtain⟨n,d⟩:=c k g q p h i
 refine⟨fun x l=>?_,?_⟩
 ·obtain⟨j,r⟩:=List.mem_iff_getElem?.1 l
  have b:=(QM (n j x r)).1;unfold Qs.form at b;split at b
  ·cases b
  rename_i o
  split at b
  ·cases b
  split at b
  ·cases b
  split at b
  ·cases b
  rename_i s
  refine⟨?_,fun e=>by omega⟩
  refine Xq.1 fun f=>o ?_;unfold Q5;rw[Xr (by omega),Xr (by omega),Xr (by omega),Xr (by omega),Xr (by omega),Xr (by omega),Xr (by omega),Xr (by omega),Xr (by omega)]
  rfl
 ·unfold JSt.fin at d;split at d
  ·rename_i f;exact absurd d f
  ·rename_i a
   have a:=Xq.1 a;unfold ZC.form at a;split at a
   ·cases a
   ·omega
def Qfg (M:IM):Prop:=M.out.length<=2000/\M.rest.length<=39
theorem QjN (D:Qfg M){g:Q1 × Int × Qd}(h:IM.got M g=some M'):Qfg M':=by
 rcases QcC h with ⟨-,rfl⟩|⟨-,rfl⟩<;>exact D
theorem QkF (D:Qfg M) (h:IM.mem M x=some M'):Qfg M':=by
 unfold IM.mem at h;repeat' split at h
 all_goals first | exact QjN D h | (cases h;done) | (cases h;exact D)
theorem Qky (D:Qfg M) (h:IM.ins m op M x=some M'):Qfg M':=by
 unfold IM.ins at h;split at h
 ·cases h;exact D
 split at h
 ·repeat' split at h
  all_goals first | (cases h;done) | (cases h;exact D)
 split at h
 ·repeat' split at h
  all_goals first | (cases h;done) | (cases h;exact D)
 split at h
 ·repeat' split at h
  all_goals first | (cases h;done) | (cases h;exact D)
 split at h
 ·split at h
  ·cases h
  ·split at h
   ·cases h;exact D
   ·rename_i a
    cases h
    have:=D.1
    exact⟨by simp;omega,D.2⟩
 split at h
 ·unfold IM.call at h;repeat' split at h
  all_goals first | (cases h;done) | (cases h;exact D) | skip
  rename_i a
  cases h
  have:=D.2
  exact⟨D.1,by simp;omega⟩
 ·exact QkF D h
theorem QhM (D:Qfg M){fn:MFunc 6}{t:MTo}(h:IM.to fn M t=some M'):Qfg M':=by
 unfold IM.to at h;repeat' split at h
 all_goals first | (cases h;done) | (cases h;exact D)
theorem Qie (D:Qfg M){fn:MFunc 6}{e:ZC}(h:IM.endd fn M e=some M'):Qfg M':=by
 unfold IM.endd at h;split at h
 ·exact QhM D h
 split at h
 ·split at h
  ·cases h
  ·split at h<;>exact QhM D h
 ·split at h
  ·cases h
  ·split at h
   ·split at h
    ·rename_i b
     cases h
     have a:=D.2;rw[b] at a
     exact⟨D.1,by simp at a;simp only[IM.push];omega⟩
    ·split at h
     ·cases h
     ·cases h;exact D
   ·cases h
theorem Qjy (D:Qfg M) (h:IM.step m op most M=some M'):Qfg M':=by
 unfold IM.step at h;split at h
 ·cases h;exact D
 split at h
 ·cases h
 split at h
 ·cases h
 split at h
 ·exact Qky (M:={ M with fuel:=M.fuel+1,top:={ M.top with i:=M.top.i+1 } }) D h
 ·exact Qie (M:={ M with fuel:=M.fuel+1 }) D h
theorem Qg6 (inp:List Int) (pages:Nat):Qfg (IM.start inp pages):=⟨by simp[IM.start],by simp[IM.start]⟩
theorem Qiu (H:(Qq m).1=0) (a:M.done=false) (G:QbR m M) (D:Qfg M) (S:Qex M R):∃ M' R',IM.step m op most M=some M'/\RM.step m op most R=some R'/\Qex M' R'/\QbR m M'/\Qfg M':=by
 rcases G with h | ⟨g,f,i,s,I⟩
 ·rw[a] at h;cases h
 ·obtain⟨M',e,c⟩:=Qh0 (op:=op) H I most
  obtain⟨φ,π,S⟩:=S
  obtain⟨R',d,b⟩:=Qhf (QmN H) S a (by have:=D.2;omega) D.1 e
  exact⟨M',R',e,d,b,c,Qjy D e⟩
theorem Qdx (H:(Qq m).1=0):∀ (n:Nat) (M:IM) (R:RM),QbR m M->Qfg M->Qex M R->∃ M' R',IM.steps m op most n M=some M'/\RM.steps m op most n R=some R'/\Qex M' R'/\QbR m M'/\Qfg M'
 | 0,M,R,G,D,S=>⟨M,R,Z,Z,S,G,D⟩
 | n+1,M,R,G,D,S=>by
   unfold IM.steps RM.steps;have a:R.done=M.done:=by obtain⟨φ,π,S⟩:=S;exact S.done
   by_cases b:M.done=true
   ·rw[Xs b,Xs (by rw[a];exact b)]
    exact⟨M,R,Z,Z,S,G,D⟩
   ·rw[Xr b,Xr (by rw[a];exact b)]
    obtain⟨M',R',g,f,d,e,c⟩:=Qiu (op:=op) (most:=most) H (by simpa using b) G D S
    rw[g,f]
    exact Qdx H n M' R' e c d
theorem Qk0 (H:(Qq m).1=0) (inp:List Int)(a:pages<=64) (n:Nat):∃ M' R',IM.steps m op most n (IM.start inp pages)=some M'/\RM.steps m op most n (RM.start inp pages)=some R'/\Qex M' R' :=
 let ⟨M',R',h1,h2,h3,_,_⟩:=Qdx (op:=op) (most:=most) H n _ _ (QgZ H inp pages) (Qg6 inp pages) (Qhs inp a)
 ⟨M',R',h1,h2,h3⟩
end
theorem Xm:type_of% @Calls.mono:=@Calls.mono
def Qe5 (o:Oper):List Tmp:=o.op.operands.toList.filterMap fun | .tmp t=>some t | _=>none
def Qt (l:List Oper):List Tmp:=l.filterMap (·.dst)
def nodupB:List Tmp->Bool
 | []=>true
 | t::r=>!r.contains t&&nodupB r
def onB (gs:List (Nat × Option Bool)) (o:Oper) (b:Bool):Bool :=
 match o.guard with
 | none=>b
 | some (g,want)=>match gs.lookup g with
   | some c=>b==(c==some want)
   | none=>false
def Qlj (gs:List (Nat × Option Bool)):List Oper->List Bool->Bool
 | [],[]=>true
 | o::l,b::bs=>onB gs o b&&Qlj gs l bs
 | _,_=>false
def QmS (ops:Array Oper) (ds outs:List Tmp) (o:Oper):Bool :=
 (o.looksAt ops).all fun t=>(outs.contains t&&!ds.contains t)||o.after.any fun e=>Region.binds .any e&&((ops[e.on]?).bind (·.dst)==some t)
def Qcs (i:Nat):List Oper->Bool
 | []=>true
 | o::l=>(o.after.all fun e=>!Region.binds .any e||decide (e.on<i))&&Qcs (i+1) l
def Qa0 (l:List Oper) (n:Nat) (outs:List Tmp) (gs:List (Nat × Option Bool)) (bs:List Bool):Bool :=
 (gs.all fun g=>((l.toArray[g.1]?).bind (·.dst)).isSome)&&nodupB (Qt l)&&((Qt l).all fun t=>decide (t<n))&&(l.all (QmS l.toArray (Qt l) outs))&&Qlj gs l bs&&Qcs 0 l
section
variable {P:Program}(E:Tmp->Value->World->Prop) (W:World->Prop) (R:World->World->Prop)
def EO:Option Tmp->Value->World->Prop
 | some t=>E t
 | none=>fun _ _=>True
def Qek (a:Act) (w:World):List Tmp->Prop
 | []=>True
 | t::r=>E t (a.tmps.getD t undef) w/\Qek a w r
def Qlf (P:Program) (o:Oper):Prop :=
 ∀ a w,W w->Qek E a w (Qe5 o)->∀ K:Act->World->Prop,(∀ v w',R w w'->W w'->EO E o.dst v w'->K (a.put o.dst v) w')->o.wp P a w K (fun _ _ _=>False)
def QhP (o:Oper):Prop:=∀ w,W w->EO E o.dst undef w
def Qeh (P:Program):List Oper->List Bool->Prop
 | o::l,true::bs=>Qlf E W R P o/\Qeh P l bs
 | o::l,false::bs=>QhP E W o/\Qeh P l bs
 | _,_=>True
def QaT (ops:Array Oper):List (Nat × Option Bool)->Prop
 | []=>True
 | (g,c)::r=>(∀ t,(ops[g]?).bind (·.dst)=some t->∀ v w,W w->E t v w->match c with | some b=>v=.bool b | none=>v=undef)/\QaT ops r
def Qah (a:Act) (w:World):List Tmp->Prop
 | []=>True
 | t::r=>E t (a.tmps.getD t undef) w/\Qah a w r
def QN (a:Act) (vs:Tmp->Value):List Tmp->Act
 | []=>a
 | t::r=>QN (a.put (some t) (vs t)) vs r
end
theorem wpq {P:Program}{o:Oper}{a:Act}{K d:Act->World->Prop}{Q:Exit->Act->World->Prop}(h:∀ a w,K a w->d a w)
 (c:o.wp P a w K (fun _ _ _=>False)):o.wp P a w d Q:=by
 unfold Oper.wp at *;generalize (execOp a.eval o).run P w=r at *
 cases r with
 | ok n w' =>
   cases n<;>simp only[Oper.upon] at c |- <;>
    first
     | exact h _ _ c
     | exact Xm c (fun e f b=>by cases e<;>first | exact h _ _ b | exact b.elim | (obtain⟨_,_,b⟩:=b;exact b.elim))
     | exact Rows.mono c (fun _ _ b=>h _ _ b)
 | halt x w'=>cases x<;>simp only[Oper.upon] at c |-
theorem Qbt (b:Tmp->Value):∀ (ds:List Tmp) (a:Act),(QN a b ds).defers=a.defers
 | [],_=>rfl
 | _::r,a=>by rw[QN,Qbt b r];rfl
theorem QcR (b:Tmp->Value):∀ (ds:List Tmp) (a:Act),(QN a b ds).tmps.size=a.tmps.size
 | [],_=>rfl
 | _::r,a=>by rw[QN,QcR b r];simp[Act.put]
theorem Qgc (f:Tmp->Value):∀ (ds:List Tmp) (a:Act) (t:Nat),t<a.tmps.size->(QN a f ds).tmps[t]?=if t∈ds then some (f t) else a.tmps[t]?
 | [],_,_,_=>by simp[QN]
 | d::r,a,t,ht=>by
   rw[QN,Qgc f r _ t (by simpa[Act.put] using ht)]
   by_cases b:t∈r
   ·simp[b]
   ·by_cases c:d=t
    ·subst c;simp[b,Act.put,ht]
    ·have:t≠d:=fun e=>c e.symm
     simp[b,this,Act.put,c]
theorem nodup_apart:∀ (l:List Oper) (i j:Nat) (oi oj:Oper) (t:Tmp),nodupB (Qt l)=true->l[i]?=some oi->l[j]?=some oj->oi.dst=some t->oj.dst=some t->i=j
 | [],_,_,_,_,_,_,hi,_,_,_=>by simp at hi
 | o::l,i,j,oi,oj,t,h,hi,hj,di,dj=>by
   have e:∀ {k:Nat} {c:Oper},l[k]?=some c->c.dst=some t->t∈Qt l:=fun {k c} n a=>List.mem_filterMap.2 ⟨c,Zm n,a⟩
   have g:nodupB (Qt l)=true:=by
    unfold Qt at h |-
    cases a:o.dst with
    | none=>simpa[List.filterMap_cons,a] using h
    | some d=>simp[a,nodupB] at h;exact h.2
   have b:o.dst=some t->t ∉ Qt l:=fun a=>by
    unfold Qt at h |-;simp only[List.filterMap_cons,a,nodupB,Bool.and_eq_true,Bool.not_eq_true'] at h
    intro f
    have:=h.1
    simp at this
    simp at f
    obtain⟨x,b,m⟩:=f
    exact this x b m
   cases i with
   | zero =>
     cases j with
     | zero=>rfl
     | succ j=>simp at hi hj;subst hi;exact absurd (e hj dj) (b di)
   | succ i =>
     cases j with
     | zero=>simp at hi hj;subst hj;exact absurd (e hi di) (b dj)
     | succ j=>simp at hi hj;rw[nodup_apart l i j oi oj t g hi hj di dj]
section
variable {P:Program}{E:Tmp->Value->World->Prop}{W:World->Prop}{R:World->World->Prop}
theorem QdZ {a:Act}{w:World}:∀ (l:List Tmp),(∀ t∈l,E t (a.tmps.getD t undef) w)->Qek E a w l
 | [],_=>trivial
 | t::r,h=>⟨h t (by simp),QdZ r fun x b=>h x (by simp[b])⟩
theorem Qa9 {a:Act}{w:World}:∀ (l:List Tmp),Qah E a w l->∀ t∈l,E t (a.tmps.getD t undef) w
 | [],_,_,h=>by simp at h
 | x::r,h,t,b=>by
   rcases List.mem_cons.1 b with rfl | b
   ·exact h.1
   ·exact Qa9 r h.2 t b
theorem QeF {a:Array Oper}:∀ (gs:List (Nat × Option Bool)),QaT E W a gs->∀ g c,gs.lookup g=some c->∀ t,(a[g]?).bind (·.dst)=some t->∀ v w,W w->E t v w->match c with | some b=>v=.bool b | none=>v=undef
 | [],_,_,_,h=>by simp at h
 | (g',c')::r,h,g,c,hl=>by
   by_cases e:g=g'
   ·subst e;simp at hl;subst hl;exact h.1
   ·have d:(g==g')=false:=by simpa using e
    simp[List.lookup_cons,d] at hl;exact QeF r h.2 g c hl
theorem mem_of_lookup:∀ (gs:List (Nat × Option Bool)) (g:Nat) (c:Option Bool),gs.lookup g=some c->(g,c)∈gs
 | [],_,_,h=>by simp at h
 | (g',c')::r,g,c,hl=>by
   by_cases e:g=g'
   ·subst e;simp at hl;subst hl;simp
   ·have a:(g==g')=false:=by simpa using e
    simp[List.lookup_cons,a] at hl;exact List.mem_cons_of_mem _ (mem_of_lookup r g c hl)
theorem filter_set:∀ (l:List Bool) (i:Nat) (h:i<l.length),l[i]=false->((l.set i true).filter (·==false)).length+1=(l.filter (·==false)).length
 | [],_,h,_=>by simp at h
 | x::l,0,_,h=>by simp at h;subst h;simp
 | x::l,i+1,hi,h=>by
   simp at h hi
   have:=filter_set l i hi h
   cases x<;>simp at this |-<;>omega
theorem Qid (gs:List (Nat × Option Bool)):∀ (l:List Oper) (bs:List Bool),Qlj gs l bs=true->Qeh E W R P l bs->∀ (i:Nat) (o:Oper),l[i]?=some o->(onB gs o true=true/\Qlf E W R P o)\/(onB gs o false=true/\QhP E W o)
 | [],_,_,_,_,_,h=>by simp at h
 | _::_,[],h,_,_,_,_=>by simp[Qlj] at h
 | x::l,b::bs,h,ha,i,o,ho=>by
   simp only[Qlj,Bool.and_eq_true] at h
   cases i with
   | zero =>
     simp at ho;subst ho
     cases b with
     | true=>exact .inl ⟨h.1,ha.1⟩
     | false=>exact .inr ⟨h.1,ha.1⟩
   | succ i =>
     simp at ho
     cases b with
     | true=>exact Qid gs l bs h.2 ha.2 i o ho
     | false=>exact Qid gs l bs h.2 ha.2 i o ho
theorem back_at:∀ (l:List Oper) (k i:Nat) (o:Oper),Qcs k l=true->l[i]?=some o->∀ e∈o.after,Region.binds .any e=true->e.on<k+i
 | [],_,_,_,_,h=>by simp at h
 | x::l,k,i,o,h,ho=>by
   simp only[Qcs,Bool.and_eq_true] at h
   cases i with
   | zero =>
     simp at ho;subst ho
     intro e b a
     have:=Array.all_eq_true_iff_forall_mem.1 h.1 e b
     simpa[a] using this
   | succ i =>
     simp at ho
     intro e b a
     have:=back_at l (k+1) i o h.2 ho e b a
     omega
structure Qnh (E:Tmp->Value->World->Prop) (W:World->Prop) (l:List Oper) (outs:List Tmp) (a0:Act) (listed:Array Bool) (a:Act) (w:World):Prop where
 world:W w
 defers:a.defers=a0.defers
 size:a.tmps.size=a0.tmps.size
 outer:∀ t,t ∉ Qt l->a.tmps[t]?=a0.tmps[t]?
 outs:∀ t∈outs,t ∉ Qt l->E t (a.tmps.getD t undef) w
 known:∀ j o t,l[j]?=some o->o.dst=some t->listed.getD j false=true->E t (a.tmps.getD t undef) w
theorem QdH {l:List Oper}{outs:List Tmp}{gs:List (Nat × Option Bool)}{a0:Act}{Q:Exit->Act->World->Prop}
 (hB:Qa0 l a0.tmps.size outs gs bs=true) (hR:∀ t v w w',R w w'->E t v w->E t v w') (hG:QaT E W l.toArray gs) (hA:Qeh E W R P l bs)
 (ag:∀ (vs:Tmp->Value) w',W w'->(∀ t,(Qt l).contains t=true->E t (vs t) w')->Q .normal (QN a0 vs (Qt l)) w') :
 ∀ (fuel:Nat) (listed:Array Bool) (a:Act) (w:World),listed.size=l.length->(listed.toList.filter (·==false)).length<=fuel->Qnh E W l outs a0 listed a w ->
  wpAny P .any l.toArray Q fuel listed a w:=by
 simp only[Qa0,Bool.and_eq_true] at hB
 obtain⟨⟨⟨⟨⟨ai,ap⟩,K⟩,aq⟩,ak⟩,al⟩:=hB
 have X:∀ (listed:Array Bool) (a:Act) (w:World),listed.size=l.length->Region.ready .any l.toArray listed=[]->Qnh E W l outs a0 listed a w->Q .normal a w:=by
  intro listed a w V H f
  have ae:∀ j,j<l.length->listed.getD j false=true:=by
   intro j
   induction j using Nat.strongRecOn with
   | _ j ih =>
     intro z
     cases r:listed.getD j false with
     | true=>rfl
     | false =>
       exfalso
       have:j∈Region.ready .any l.toArray listed:=by
        unfold Region.ready;refine List.mem_filter.2 ⟨by simpa using z,?_⟩
        have U:listed.getD j true=false:=by
         have aw:j<listed.size:=by omega
         simp[Array.getD,aw] at r |-;exact r
        have T:l.toArray[j]?=some l[j]:=by simp[z]
        rw[U,T]
        simp only[Bool.not_false,Bool.true_and,Option.map_some,Option.getD_some]
        rw[Array.all_eq_true_iff_forall_mem]
        intro e he
        cases hbd:Region.binds .any e with
        | false=>rfl
        | true =>
          have:=back_at l 0 j l[j] al (by simp[z]) e he hbd
          simp only[Bool.not_true,Bool.false_or]
          exact ih e.on (by omega) (by omega)
       rw[H] at this
       cases this
  have ah:∀ t∈Qt l,E t (a.tmps.getD t undef) w/\t<a0.tmps.size:=by
   intro t q;obtain⟨o,ho,s⟩:=List.mem_filterMap.1 q
   obtain⟨j,z⟩:=List.getElem?_of_mem ho
   have A:j<l.length:=by
    rcases Nat.lt_or_ge j l.length with h | h
    ·exact h
    ·rw[Xk h] at z;cases z
   exact⟨f.known j o t z s (ae j A),by simpa using Xe.1 K t q⟩
  have he:a=QN a0 (fun t=>a.tmps.getD t undef) (Qt l):=by
   have U:a.tmps=(QN a0 (fun t=>a.tmps.getD t undef) (Qt l)).tmps:=by
    refine Array.ext (by rw[QcR,f.size]) fun t M L=>?_;have h3:t<a0.tmps.size:=by rw[<-f.size];exact M
    have:=Qgc (fun t=>a.tmps.getD t undef) (Qt l) a0 t h3
    rw[Xj L] at this
    by_cases hm:t∈Qt l
    ·rw[Xs hm] at this
     simp only[Option.some.injEq] at this
     rw[this];simp[Array.getD,M]
    ·rw[Xr hm,<-f.outer t hm,Xj M] at this
     exact(Xn this).symm
   have T:a.defers=(QN a0 (fun t=>a.tmps.getD t undef) (Qt l)).defers:=by rw[Qbt,f.defers]
   cases a with
   | mk t d =>
     simp only at U T
     generalize hp:QN a0 (fun x=>t.getD x undef) (Qt l)=p at U T |-
     cases p;simp only at U T;rw[U,T]
  rw[he]
  exact ag _ _ f.world fun t q=>(ah t (by simpa using q)).1
 intro fuel
 induction fuel with
 | zero =>
   intro listed a w V hf f
   have H:Region.ready .any l.toArray listed=[]:=by
    rw[List.eq_nil_iff_forall_not_mem]
    intro i hi;obtain⟨M,L⟩:=List.mem_filter.1 hi
    have A:i<l.length:=by simpa using M
    simp only[Bool.and_eq_true,Bool.not_eq_true'] at L
    have:listed[i]'(by omega)=false:=by
     have:=L.1;simp[Array.getD,show i<listed.size by omega] at this;exact this
    have hm:false∈listed.toList.filter (·==false):=List.mem_filter.2 ⟨by rw[<-this];simp,by simp⟩
    have:=List.length_pos_of_mem hm
    omega
   exact⟨H,X listed a w V H f⟩
 | succ fuel ih =>
   intro listed a w V hf f;refine⟨fun H=>X listed a w V H f,fun i hi=>?_⟩
   obtain⟨M,L⟩:=List.mem_filter.1 hi
   have A:i<l.length:=by simpa using M
   simp only[Bool.and_eq_true,Bool.not_eq_true'] at L
   obtain⟨ad,m⟩:=L
   have aa:i<listed.size:=by omega
   have ac:listed[i]=false:=by simp[Array.getD,aa] at ad;exact ad
   have ho:l.toArray[i]?=some l[i]:=by simp[A]
   have n:l[i]?=some l[i]:=by simp[A]
   generalize ay:l[i]=o at ho n;rw[ho] at m
   simp only[Option.map_some,Option.getD_some] at m
   rw[Array.all_eq_true_iff_forall_mem] at m
   have u:∀ t∈o.looksAt l.toArray,E t (a.tmps.getD t undef) w:=by
    intro t q
    have:=Xe.1 (Xe.1 aq o (Zm n)) t q
    rw[Bool.or_eq_true] at this
    rcases this with h | h
    ·simp only[Bool.and_eq_true,Bool.not_eq_true'] at h
     exact f.outs t (by simpa using h.1) (by simpa using h.2)
    ·obtain⟨k,hk,h⟩:=Array.any_eq_true.1 h
     simp only[Bool.and_eq_true,beq_iff_eq] at h
     obtain⟨r,s⟩:=h
     have J:=m _ (Array.getElem_mem hk);rw[r] at J
     simp only[Bool.not_true,Bool.false_or] at J
     generalize o.after[k]=e at *;obtain⟨oj,am,aj⟩:=Option.bind_eq_some_iff.1 s
     exact f.known e.on oj t (by simpa using am) aj J
   have au:Qek E a w (Qe5 o):=QdZ _ fun t q=>u t (by
    unfold Oper.looksAt;exact List.mem_append_left _ q)
   have hw:∀ b,onB gs o b=true->Region.wanted o (yielded l.toArray a.tmps)=b:=by
    intro b r;unfold onB at r;unfold Region.wanted
    cases hg:o.guard with
    | none=>rw[hg] at r;simp only at r |-;exact r.symm
    | some gw =>
      obtain⟨g,ax⟩:=gw
      rw[hg] at r
      simp only at r |-
      cases J:gs.lookup g with
      | none=>rw[J] at r;cases r
      | some c =>
        rw[J] at r
        simp only[beq_iff_eq] at r
        have hy:yielded l.toArray a.tmps g=c:=by
         unfold yielded;have an:(g,c)∈gs:=mem_of_lookup gs g c J;have C:=Xe.1 ai _ an
         cases s:(l.toArray[g]?).bind (·.dst) with
         | none=>rw[s] at C;cases C
         | some t =>
           have hE:=u t (by unfold Oper.looksAt;rw[hg];simp only[s];simp);have F:=QeF gs hG g c J t s _ _ f.world hE;obtain⟨og,ao,av⟩:=Option.bind_eq_some_iff.1 s
           have O:t<a.tmps.size:=by
            rw[f.size]
            have:=Xe.1 K t (List.mem_filterMap.2 ⟨og,Zm (by simpa using ao),av⟩)
            simpa using this
           have q:a.tmps[t]?=some (a.tmps.getD t undef):=by simp[Array.getD,O]
           simp only[Option.bind_some,q]
           cases c with
           | none=>simp only at F;rw[F];rfl
           | some b=>simp only at F;rw[F]
        rw[hy,r]
   have I:((listed.setIfInBounds i true).toList.filter (·==false)).length<=fuel:=by
    have h3:=filter_set listed.toList i (by simpa using aa) (by simpa using ac);rw[Array.toList_setIfInBounds]
    omega
   have G:∀ v w',W w'->(∀ t v,E t v w->E t v w')->EO E o.dst v w'->Qnh E W l outs a0 (listed.setIfInBounds i true) (a.put o.dst v) w':=by
    intro v w' S y F
    have B:∀ t,o.dst≠some t->(a.put o.dst v).tmps[t]?=a.tmps[t]?:=by
     intro t q
     cases s:o.dst with
     | none=>rfl
     | some d =>
       have:d≠t:=fun e=>q (by rw[s,e])
       simp[Act.put,this]
    have D:∀ (b c:Array Value) (t:Nat),b[t]?=c[t]?->b.getD t undef=c.getD t undef:=by
     intro b c t h;rw[Za,Za,h]
    refine⟨S,?_,?_,?_,?_,?_⟩
    ·rw[<-f.defers];cases o.dst<;>rfl
    ·rw[<-f.size];cases o.dst<;>simp[Act.put]
    ·intro t q;rw[B t (fun e=>q (List.mem_filterMap.2 ⟨o,Zm n,e⟩)),f.outer t q]
    ·intro t q hn;rw[D _ _ t (B t (fun e=>hn (List.mem_filterMap.2 ⟨o,Zm n,e⟩)))]
     exact y _ _ (f.outs t q hn)
    ·intro j oj t z s af;by_cases N:j=i
     ·subst N;rw[n] at z
      obtain rfl:=Xn z
      have O:t<a.tmps.size:=by
       rw[f.size]
       have:=Xe.1 K t (List.mem_filterMap.2 ⟨o,Zm n,s⟩)
       simpa using this
      rw[s] at F |-
      have:(a.put (some t) v).tmps.getD t undef=v:=by simp[Act.put,Array.getD,O]
      rw[this];exact F
     ·have ar:o.dst≠some t:=fun e=>N (nodup_apart l j i oj o t ap z n s e);rw[D _ _ t (B t ar)]
      refine y _ _ (f.known j oj t z s ?_);have ab:i≠j:=fun e=>N e.symm;rw[Za,Array.getElem?_setIfInBounds_ne ab] at af
      rw[Za];exact af
   unfold wpOp;rw[ho]
   simp only
   rcases Qid gs l bs ak hA i o n with ⟨h,y⟩|⟨h,y⟩
   ·rw[hw true h,Xs Z]
    refine .inl (wpq (fun a' w' hh=>hh) (y a w f.world au _ fun v w' H S F=>?_));exact ih _ _ _ (by simpa using V) I (G v w' S (fun t v he=>hR t v w w' H he) F)
   ·rw[hw false h]
    simp only[Bool.false_eq_true,if_false]
    exact ih _ _ _ (by simpa using V) I (G undef w f.world (fun _ _ h=>h) (y w f.world))
theorem Qay {l:List Oper}{outs:List Tmp}{gs:List (Nat × Option Bool)}(h:n<=m) (a:Qa0 l n outs gs bs=true):Qa0 l m outs gs bs=true:=by
 simp only[Qa0,Bool.and_eq_true] at a |-
 obtain⟨⟨⟨⟨⟨g,i⟩,b⟩,j⟩,c⟩,f⟩:=a
 refine⟨⟨⟨⟨⟨g,i⟩,?_⟩,j⟩,c⟩,f⟩
 rw[Xe] at b |-
 intro t d;have e:t<n:=by simpa using b t d
 have k:t<m:=Zl e h;simpa using k
theorem Qdu {l:List Oper}{outs:List Tmp}{gs:List (Nat × Option Bool)}{a:Act}{Q:Exit->Act->World->Prop}
 (E:Tmp->Value->World->Prop) (W:World->Prop) (R:World->World->Prop)
 (h:P.follows .mixedOrders=true)  (g:a.tmps.size=m) (c:n<=m) (f:Qa0 l n outs gs bs=true)
 (i:∀ t v w w',R w w'->E t v w->E t v w') (k:QaT E W l.toArray gs) (e:W w.drew) (r:Qah E a w.drew outs)
 (q:Qeh E W R P l bs)
 (b:∀ (vs:Tmp->Value) w',W w'->(∀ t,(Qt l).contains t=true->E t (vs t) w')->Q .normal (QN a vs (Qt l)) w') :
 (Code.region id l.toArray true).wp P Q a w:=by
 refine wp_region_any h ?_;refine QdH (Qay (g ▸ c) f) i k q b _ _ _ _ (by simp) ?_ ⟨e,Z,Z,fun _ _=>rfl,fun t d _=>Qa9 outs r t d,?_⟩
 ·simp only[Array.toList_replicate]
  exact Zt (List.length_filter_le _ _) (by simp)
 ·intro j o t s u p;simp[Array.getD] at p
end
section
variable {P:Program}{Q:Exit->Act->World->Prop}
theorem Ql5 {o:Oper}{a:Act}{K N:Act->World->Prop}(h:o.wp P a w K (Exit.then N Q)):o.wp P a w K Q:=by
 unfold Oper.wp at *;generalize (execOp a.eval o).run P w=r at *
 cases r with
 | ok n w'=>cases n<;>exact h
 | halt x w'=>cases x<;>exact h
def Qbr (n:Nat) (l:List Oper):Bool:=l.all fun o=>match o.guard with | some (g,_)=>decide (g<n) | none=>true
theorem ZD {a:Array Bool}:i∈Region.ready .any ops a↔i<ops.size/\a.getD i true=false/\∃ o,ops[i]?=some o/\∀ e∈o.after,Region.binds .any e=true->a.getD e.on false=true:=by
 unfold Region.ready;rw[List.mem_filter]
 simp only[List.mem_range,Bool.and_eq_true,Bool.not_eq_true']
 refine and_congr_right fun b=>and_congr_right fun c=>?_;rw[Xj b]
 simp only[Option.map_some,Option.getD_some,Option.some.injEq,exists_eq_left']
 rw[Array.all_eq_true_iff_forall_mem]
 refine forall_congr' fun e=>forall_congr' fun d=>?_
 cases Region.binds .any e<;>simp
end
section
variable {P:Program}{Q:Exit->Act->World->Prop}
def QdX (all:List Oper):Nat->Oper->Nat->Bool
 | 0,_,_=>false
 | f+1,o,j=>o.after.any fun e=>Region.binds .any e&&(e.on==j||(match all[e.on]? with | some o'=>QdX all f o' j | none=>false))
def QaL (all:List Oper) (k:Nat):List Oper->Bool
 | []=>true
 | o::l=>((List.range k).all fun j=>QdX all 24 o j)&&QaL all (k+1) l
theorem QcG {all:List Oper}{j:Nat}{S:Nat->Prop}(b:∀ (q:Nat) (o':Oper),all[q]?=some o'->S q->∀ e∈o'.after,Region.binds .any e=true->S e.on):∀ (f:Nat) (o:Oper),QdX all f o j=true->(∀ e∈o.after,Region.binds .any e=true->S e.on)->S j
 | 0,_,h,_=>by simp[QdX] at h
 | f+1,o,h,hS=>by
   simp only[QdX] at h
   obtain⟨q,i,c⟩:=Array.any_eq_true.1 h
   rw[Bool.and_eq_true,Bool.or_eq_true] at c
   have g:=Array.getElem_mem i;generalize o.after[q]=d at c g;rcases c.2 with a | a
   ·have:=hS d g c.1
    rwa [beq_iff_eq.1 a] at this
   ·cases ho':all[d.on]? with
    | none=>rw[ho'] at a;simp at a
    | some o' =>
      rw[ho'] at a
      exact QcG b f o' a (b _ o' ho' (hS d g c.1))
theorem Qer (all:List Oper):∀ (l:List Oper) (k i:Nat) (o:Oper),QaL all k l=true->l[i]?=some o->∀ j,j<k+i->∀ S:Nat->Prop,
 (∀ (q:Nat) (o':Oper),all[q]?=some o'->S q->∀ e∈o'.after,Region.binds .any e=true->S e.on)->(∀ e∈o.after,Region.binds .any e=true->S e.on)->S j
 | [],_,_,_,_,h=>by simp at h
 | x::l,k,0,o,h,ho=>by
   simp at ho;subst ho
   simp only[QaL,Bool.and_eq_true] at h
   intro j b S a c;exact QcG a 24 x (Xe.1 h.1 j (by simpa using b)) c
 | x::l,k,i+1,o,h,ho=>by
   simp only[QaL,Bool.and_eq_true] at h
   simp at ho
   intro j b;exact Qer all l (k+1) i o h.2 ho j (by omega)
theorem Qg4 {l:List Oper}(J:Qcs 0 l=true){k0:Nat}(M:QaL l k0 (l.drop k0)=true):∀ (m k fuel:Nat) (listed:Array Bool) (a:Act) (w:World),k+m=l.length->k0<=k->m<=fuel->listed.size=l.length ->
 (∀ j,j<l.length->listed.getD j false=decide (j<k))->wpList P l.toArray Q (l.drop k) a w->wpAny P .any l.toArray Q fuel listed a w:=by
 intro m
 induction m with
 | zero =>
   intro k fuel listed a w X _ _ K c h
   have v:Region.ready .any l.toArray listed=[]:=by
    rw[List.eq_nil_iff_forall_not_mem]
    intro i s;obtain⟨y,r,_⟩:=ZD.1 s
    have p:i<l.length:=by simpa using y
    have:=c i p
    have S:decide (i<k)=true:=by simp;omega
    rw[S] at this
    have n:i<listed.size:=by omega
    simp[Array.getD,n] at this r
    rw[this] at r;cases r
   have t:Q .normal a w:=by
    rw[List.drop_of_length_le (by omega)] at h
    exact h
   cases fuel with
   | zero=>exact⟨v,t⟩
   | succ fuel=>exact⟨fun _=>t,fun i s=>by rw[v] at s;cases s⟩
 | succ m ih =>
   intro k fuel listed a w X T hf K c h;have b:k<l.length:=by omega
   obtain⟨fuel,rfl⟩:∃ f,fuel=f+1:=⟨fuel - 1,by omega⟩
   have u:k<listed.size:=by omega
   have A:k∈Region.ready .any l.toArray listed:=by
    refine ZD.2 ⟨by simpa using b,?_,l[k],by simp[b],fun e B g=>?_⟩
    ·have:=c k b
     simp[Array.getD,u] at this |-;exact this
    ·have:=back_at l 0 k l[k] J (by simp[b]) e B g
     rw[c _ (by omega)];simp;omega
   refine⟨fun v=>absurd (v ▸ A) (by simp),fun i s=>?_⟩
   have G:i=k:=by
    obtain⟨y,r,o,F,N⟩:=ZD.1 s
    have p:i<l.length:=by simpa using y
    have z:listed.getD i false=false:=by
     have n:i<listed.size:=by omega
     simp[Array.getD,n] at r |-;exact r
    have E:k<=i:=by
     have:=c i p
     rw[z] at this
     have:¬ i<k:=by simpa using this.symm
     omega
    rcases Nat.eq_or_lt_of_le E with e | O
    ·exact e.symm
    ·exfalso
     have:=Qer l (l.drop k0) k0 (i - k0) o M (by rw[List.getElem?_drop,show k0+(i - k0)=i by omega];simpa using F) k (by omega) (fun j=>listed.getD j false=true)
      (fun q U t W e B g=>by
       have H:q<l.length:=(Zi t).1;have R:=back_at l 0 q U J t e B g;have I:listed.getD q false=true:=W;rw[c q H] at I
       have h6:q<k:=by simpa using I
       show listed.getD e.on false=true;rw[c e.on (by omega)];simp;omega) N
     rw[c k b] at this
     simp at this
   subst G;rw[List.drop_eq_getElem_cons b] at h
   have F:l.toArray[i]?=some l[i]:=by simp[b]
   have d:∀ a w,wpList P l.toArray Q (l.drop (i+1)) a w->wpAny P .any l.toArray Q fuel (listed.setIfInBounds i true) a w:=fun a w V =>
    ih (i+1) fuel _ a w (by omega) (by omega) (by omega) (by simpa using K) (fun j L=>by
     by_cases e:j=i
     ·subst e;simp[Array.getD,u]
     ·have C:i≠j:=fun x=>e x.symm;rw[Za,Array.getElem?_setIfInBounds_ne C,<-Za,c j L]
      simp;omega) V
   unfold wpOp;rw[F]
   simp only
   unfold wpList at h;split
   ·rename_i D
    rw[Xs D] at h
    exact h.imp (Oper.wp_mono d) id
   ·rename_i D
    rw[Xr D] at h
    exact d _ _ h
theorem Qbs {l l2:List Oper}(hb:Qcs 0 (l++l2)=true) (hg:Qbr l.length l=true) (ht:QaL (l++l2) l.length l2=true):∀ (fuel:Nat) (listed:Array Bool) (a:Act) (w:World),listed.size=l.length→(∀ (q:Nat) (o:Oper),l[q]?=some o→listed.getD q false=true→∀ e∈o.after,Region.binds .any e=true→listed.getD e.on false=true) →
 wpAny P .any l.toArray (Exit.then (fun a w=>wpList P (l++l2).toArray Q l2 a w) Q) fuel listed a w →
 wpAny P .any (l++l2).toArray Q (fuel+l2.length) (listed++Array.replicate l2.length false) a w:=by
 have z:∀ (i:Nat) (o:Oper),l[i]?=some o→∀ e∈o.after,Region.binds .any e=true→e.on<i:=fun i o r e n c=>by
  have p:i<l.length:=(Zi r).1
  have:=back_at (l++l2) 0 i o hb (by rw[XP p];exact r) e n c
  omega
 have f:∀ (listed:Array Bool) (j:Nat) (d:Bool),listed.size=l.length→j<l.length→(listed++Array.replicate l2.length false).getD j d=listed.getD j d:=fun listed j d k x=>by
  rw[Za,Za,Array.getElem?_append_left (by omega)]
 have B:∀ (listed:Array Bool) (j:Nat),listed.size=l.length→l.length≤j→(listed++Array.replicate l2.length false).getD j false=false:=fun listed j k x=>by
  rw[Za,Array.getElem?_append_right (by omega)]
  cases h:(Array.replicate l2.length false)[j - listed.size]? with
  | none=>rfl
  | some b =>
    have:=Array.mem_of_getElem? h
    simp at this
    simp[this.2]
 -- all of the first part are listed
 have C:∀ (fuel:Nat) (listed:Array Bool) (a:Act) (w:World),listed.size=l.length→(∀ j,j<l.length→listed.getD j false=true)→wpList P (l++l2).toArray Q l2 a w →
  wpAny P .any (l++l2).toArray Q (fuel+l2.length) (listed++Array.replicate l2.length false) a w:=fun fuel listed a w k m h=>by
  refine Qg4 hb (k0:=l.length) (by simpa using ht) l2.length l.length _ _ a w (by simp) Ze (by omega) (by simp[k]) (fun j x=>?_) (by simpa using h);by_cases t:j<l.length
  ·rw[f listed j false k t,m j t];simp[t]
  ·rw[B listed j k (by omega)];simp;omega
 have s:∀ (listed:Array Bool),listed.size=l.length→Region.ready .any l.toArray listed=[]→∀ j,j<l.length→listed.getD j false=true:=fun listed k S j=>by
  induction j using Nat.strongRecOn with
  | _ j ih =>
    intro x
    cases hc:listed.getD j false with
    | true=>rfl
    | false =>
      exfalso
      have t:j<listed.size:=by omega
      have R:listed.getD j true=false:=by simp[Array.getD,t] at hc ⊢;exact hc
      have:j∈Region.ready .any l.toArray listed:=ZD.2 ⟨by simpa using x,R,l[j],by simp[x],fun e n c=>by
       have:=z j l[j] (by simp[x]) e n c
       exact ih e.on this (by omega)⟩
      rw[S] at this;cases this
 intro fuel
 induction fuel with
 | zero =>
   intro listed a w k E h;exact C 0 listed a w k (s listed k h.1) h.2
 | succ fuel ih =>
   intro listed a w k E h;by_cases m:∀ j,j<l.length→listed.getD j false=true
   ·refine C (fuel+1) listed a w k m (h.1 ?_);rw[List.eq_nil_iff_forall_not_mem]
    intro i p;obtain⟨G,A,_⟩:=ZD.1 p
    have W:i<l.length:=by simpa using G
    have:=m i W
    have u:i<listed.size:=by omega
    simp[Array.getD,u] at this A
    rw[this] at A;cases A
   ·have X:Region.ready .any l.toArray listed≠[]:=fun e=>m (s listed k e)
    have D:∀ i,i∈Region.ready .any (l++l2).toArray (listed++Array.replicate l2.length false)↔i∈Region.ready .any l.toArray listed:=fun i=>by
     rw[ZD,ZD]
     by_cases p:i<l.length
     ·have e1:(l++l2).toArray[i]?=l.toArray[i]?:=by simp[List.getElem?_append_left p]
      rw[f listed i true k p,e1]
      constructor
      ·rintro ⟨_,A,o,r,F⟩;refine⟨by simpa using p,A,o,r,fun e n c=>?_⟩
       have:=z i o (by simpa using r) e n c
       have h4:=F e n c;rwa [f listed e.on false k (by omega)] at h4
      ·rintro ⟨_,A,o,r,F⟩;refine⟨by simp;omega,A,o,r,fun e n c=>?_⟩
       have:=z i o (by simpa using r) e n c
       rw[f listed e.on false k (by omega)]
       exact F e n c
     ·constructor
      ·rintro ⟨G,A,o,r,F⟩;exfalso
       refine m fun j x=>?_;have I:(l++l2)[i]?=some o:=by simpa using r
       rw[XQ (by omega)] at I
       have:=Qer (l++l2) l2 l.length (i - l.length) o ht I j (by omega) (fun q=>(listed++Array.replicate l2.length false).getD q false=true)
        (fun q o' H O e n c=>by
         have N:(listed++Array.replicate l2.length false).getD q false=true:=O;by_cases K:q<l.length
         ·rw[f listed q false k K] at N
          rw[XP K] at H
          have h6:=z q o' H e n c;show (listed++Array.replicate l2.length false).getD e.on false=true;rw[f listed e.on false k (by omega)]
          exact E q o' H N e n c
         ·rw[B listed q k (by omega)] at N
          cases N) F
       rwa [f listed j false k x] at this
      ·rintro ⟨G,_⟩;exact absurd (by simpa using G) p
    rw[show fuel+1+l2.length=(fuel+l2.length)+1 by omega]
    refine⟨fun S=>?_,fun i p=>?_⟩
    ·exfalso
     apply X
     rw[List.eq_nil_iff_forall_not_mem]
     intro i p
     have:=(D i).2 p
     rw[S] at this;cases this
    ·have u:=(D i).1 p;have v:=h.2 i u;obtain⟨G,_⟩:=ZD.1 u
     have y:i<l.length:=by simpa using G
     have r:l.toArray[i]?=some l[i]:=by simp[y]
     have U:(l++l2).toArray[i]?=some l[i]:=by simp[List.getElem?_append_left y,y]
     unfold wpOp at v ⊢;rw[r] at v
     rw[U]
     simp only at v ⊢
     have hy:Region.wanted l[i] (yielded (l++l2).toArray a.tmps)=Region.wanted l[i] (yielded l.toArray a.tmps):=by
      unfold Region.wanted
      cases hgd:(l[i]).guard with
      | none=>rfl
      | some gw =>
        obtain⟨g,aa⟩:=gw
        have:=Xe.1 hg l[i] (List.getElem_mem y)
        rw[hgd] at this
        have V:g<l.length:=by simpa using this
        simp only
        have:yielded (l++l2).toArray a.tmps g=yielded l.toArray a.tmps g:=by
         unfold yielded
         have:(l++l2).toArray[g]?=l.toArray[g]?:=by simp[List.getElem?_append_left V]
         rw[this]
        rw[this]
     rw[hy]
     have nx:∀ a w,wpAny P .any l.toArray (Exit.then (fun a w=>wpList P (l++l2).toArray Q l2 a w) Q) fuel (listed.setIfInBounds i true) a w→wpAny P .any (l++l2).toArray Q (fuel+l2.length) ((listed++Array.replicate l2.length false).setIfInBounds i true) a w:=fun a w hh=>by
      have L:∀ (q:Nat) (o:Oper),l[q]?=some o→(listed.setIfInBounds i true).getD q false=true→∀ e∈o.after,Region.binds .any e=true→(listed.setIfInBounds i true).getD e.on false=true:=fun q o H O e n c=>by
       have up:∀ j,listed.getD j false=true→(listed.setIfInBounds i true).getD j false=true:=fun j x=>by
        by_cases J:i=j
        ·subst J
         have:i<listed.size:=by omega
         simp[Array.getD,this]
        ·rw[Za,Array.getElem?_setIfInBounds_ne J,← Za];exact x
       by_cases J:i=q
       ·subst J;obtain⟨_,_,o2,M,F⟩:=ZD.1 u
        have:o2=o:=by
         have h7:l[i]?=some o2:=by simpa using M
         rw[H] at h7;exact(Xn h7).symm
        subst this;exact up _ (F e n c)
       ·rw[Za,Array.getElem?_setIfInBounds_ne J,← Za] at O
        exact up _ (E q o H O e n c)
      have:=ih (listed.setIfInBounds i true) a w (by simpa using k) L hh
      have e:(listed++Array.replicate l2.length false).setIfInBounds i true=listed.setIfInBounds i true++Array.replicate l2.length false:=by
       rw[Array.setIfInBounds_append_left (by omega)]
      rw[e];exact this
     split
     ·rename_i T
      rw[Xs T] at v
      rcases v with v | v
      ·exact .inl (Oper.wp_mono nx (Ql5 v))
      ·exact .inr v
     ·rename_i T
      rw[Xr T] at v
      exact nx _ _ v
end
theorem QgX {P:Program}{l l2:List Oper}{outs:List Tmp}{gs:List (Nat × Option Bool)}{a:Act}{Q:Exit->Act->World->Prop}
 (E:Tmp->Value->World->Prop) (W:World->Prop) (R:World->World->Prop)
 (k:P.follows .mixedOrders=true)  (B:a.tmps.size=m) (d:n<=m) (z:Qa0 l n outs gs bs=true)
 (i:(Qcs 0 (l++l2)&&(Qbr l.length l&&QaL (l++l2) l.length l2))=true)
 (p:∀ t v w w',R w w'->E t v w->E t v w') (r:QaT E W l.toArray gs) (u:W w.drew) (A:Qah E a w.drew outs)
 (y:Qeh E W R P l bs)
 (b:∀ (vs:Tmp->Value) w',W w'->(∀ t,(Qt l).contains t=true->E t (vs t) w')->wpList P (l++l2).toArray Q l2 (QN a vs (Qt l)) w') :
 (Code.region id (l++l2).toArray true).wp P Q a w:=by
 simp only[Bool.and_eq_true] at i
 obtain⟨h,g,f⟩:=i
 refine wp_region_any k ?_
 have c:wpAny P .any l.toArray (Exit.then (fun a w=>wpList P (l++l2).toArray Q l2 a w) Q) l.length (Array.replicate l.length false) a w.drew:=by
  refine QdH (E:=E) (W:=W) (R:=R) (a0:=a) (outs:=outs) (gs:=gs) (bs:=bs) (Qay (B ▸ d) z) p r y b _ _ _ _ (by simp) ?_ ⟨u,Z,Z,fun _ _=>rfl,fun t s _=>Qa9 outs A t s,?_⟩
  ·simp only[Array.toList_replicate]
   exact Zt (List.length_filter_le _ _) (by simp)
  ·intro j o t F H C;simp[Array.getD] at C
 have:=Qbs (Q:=Q) h g f l.length (Array.replicate l.length false) a w.drew (by simp) (fun q o G D=>by simp[Array.getD] at D) c
 have e:(Array.replicate l.length false++Array.replicate l2.length false:Array Bool)=Array.replicate (l++l2).toArray.size false:=by
  simp
 have x:l.length+l2.length=(l++l2).toArray.size:=by simp
 rw[e,x] at this
 exact this
theorem Qg {P:Program}{lo:List Oper}{outs:List Tmp}{gs:List (Nat × Option Bool)}{a:Act}{Q:Exit->Act->World->Prop}
 (k:Nat) (E:Tmp->Value->World->Prop) (W:World->Prop) (R:World->World->Prop)
 (i:P.follows .mixedOrders=true)  (d:a.tmps.size=m) (c:n<=m) (f:Qa0 (lo.take k) n outs gs bs=true)
 (g:(Qcs 0 lo&&(Qbr (lo.take k).length (lo.take k)&&QaL lo (lo.take k).length (lo.drop k)))=true)
 (j:∀ t v w w',R w w'->E t v w->E t v w') (o:QaT E W (lo.take k).toArray gs) (e:W w.drew) (q:Qah E a w.drew outs)
 (p:Qeh E W R P (lo.take k) bs)
 (b:∀ ops (vs:Tmp->Value) w',W w'->(∀ t,(Qt (lo.take k)).contains t=true->E t (vs t) w')->wpList P ops Q (lo.drop k) (QN a vs (Qt (lo.take k))) w') :
 (Code.region id lo.toArray true).wp P Q a w:=by
 have h:=QgX (id:=id) (l:=lo.take k) (l2:=lo.drop k) (Q:=Q) E W R i d c f (by rw[List.take_append_drop];exact g) j o e q p (b _);rwa [List.take_append_drop] at h
def Qlw (L:List (Tmp × (Value->World->Prop))) (T:List (Tmp × Value)) (t:Tmp) (v:Value) (w:World):Prop :=
 match L.lookup t with
 | some p=>p v w
 | none=>v=(T.lookup t).getD undef
def QnN (v:Value) (w w':World):List (Tmp × (Value->World->Prop))->Prop
 | []=>True
 | p::l=>(p.2 v w->p.2 v w')/\QnN v w w' l
theorem Qlw.keep {T:List (Tmp × Value)}{t:Tmp}{v:Value}{w w':World}:∀ {L:List (Tmp × (Value->World->Prop))},Qlw L T t v w->QnN v w w' L->Qlw L T t v w'
 | [],h,_=>h
 | (s,p)::l,h,k=>by
   have a:=fun h=>Qlw.keep (T:=T) (t:=t) (L:=l) h k.2;unfold Qlw at h a |-;simp only[List.lookup_cons] at h |-
   cases e:t==s with
   | true=>rw[e] at h;exact k.1 h
   | false=>rw[e] at h;exact a h
def QmV (S S':Nat->Bool) (t:Tmp) (v:Value) (w w':World):List (Tmp × ((Nat->Bool)->Value->World->Prop))->Prop
 | []=>True
 | p::l=>(t=p.1->p.2 S v w->p.2 S' v w')/\QmV S S' t v w w' l
theorem Qm0 {S a:Nat->Bool}{t:Tmp}{v:Value}{w w':World}{R:Prop}:∀ {L:List (Tmp × ((Nat->Bool)->Value->World->Prop))},QmV S a t v w w' L->(match L.lookup t with | some p=>p S v w | none=>R)->(match L.lookup t with | some p=>p a v w' | none=>R)
 | [],_,h=>h
 | (s,p)::l,k,h=>by
   have b:=Qm0 (R:=R) (L:=l) k.2;simp only[List.lookup_cons] at h |-
   cases e:t==s with
   | true=>rw[e] at h;exact k.1 (by simpa using e) h
   | false=>rw[e] at h;exact b h
structure Bx (w wr:World) (k r:Int) (a:Option Addr) (len c:Nat):Prop where
 bel:Below w.heap.size w wr
 box:wr.heap[w.heap.size]?=some (.cells #[Iv k,Iv r,.slice a len c] 105 (0,0))
theorem Bx.start (w:World) (k r:Int) (a:Option Addr) (len c:Nat):Bx w (w.alloc (.cells #[Iv k,Iv r,.slice a len c] 105)) k r a len c :=
 ⟨(Below.refl _ w).alloc Ze _,Qe w _ _⟩
theorem Bx.below {wr:World}{k r:Int}{len:Nat}(h:Bx w wr k r a len c) (b:Below wr.heap.size wr w'):Bx w w' k r a len c :=
 ⟨h.bel.trans (b.mono h.bel.size),QaV h.box b⟩
theorem Bx.alloc {wr:World}{k r:Int}{len:Nat}(h:Bx w wr k r a len c) (o:Obj):Bx w (wr.alloc o) k r a len c :=
 h.below ((Below.refl _ wr).alloc Ze _)
theorem Qeo {α:Type}(f:α->Nat) (l:List α) (i:Nat) (x:α) (h:l[i]?=some x):((l.map f).take (i+1)).sum=((l.map f).take i).sum+f x:=by
 rw[XV,XS,h]
 simp
def Qd4 (f:Nat) (n:Nat):Prop:=∀ (t:TT n) (a:Option Addr) (c:Nat) (regs:Int) (w:World),TIn w All t a->t.count<=100000 ->
 Calls prog f #[Tv t a c,Iv regs] w fun e w'=>e=.returned (Iv (t.fault regs))/\Below w.heap.size w w'
section
variable {w0 w w':World}{Bs:List (Nat × Array Value × TypeId)}
def QaC (c:Array Value) (j:Nat) (vs:List Value):Array Value:=(c.toList.take j++(vs++c.toList.drop (j+vs.length))).toArray
theorem Qe2 (c:Array Value) (j:Nat) (v:Value) (b:List Value) (h:j+(v::b).length<=c.size):QaC (c.setIfInBounds j v) (j+1) b=QaC c j (v::b):=by
 unfold QaC;congr 1
 have d:j<c.toList.length:=by simp at h |-;omega
 simp only[Array.toList_setIfInBounds]
 rw[List.take_set,List.drop_set_of_lt (by omega),XV,Zg d]
 simp only[Option.toList,List.length_cons]
 have:(c.toList.take j++[c.toList[j]]).set j v=c.toList.take j++[v]:=by
  rw[List.set_append_right _ _ (by simp;omega)]
  have a:j<c.size:=by simpa using d
  simp[Nat.min_eq_left (Nat.le_of_lt a)]
 rw[this,Nat.add_assoc,Nat.add_comm 1]
 simp
end
def QlL (L:List (Tmp × Value)):Operand->Option Value
 | .tmp t=>L.lookup t
 | .const v=>some v
 | .func f=>some (.func (.func f) #[] #[])
 | _=>none
def Gok (ops:Array Oper) (n:Nat) (L:List (Tmp × Value)):Option (Nat × Bool)->Prop
 | none=>True
 | some (g,want)=>∃ tg,(ops[g]?).bind (fun o:Oper=>o.dst)=some tg/\Nat.blt tg n=true/\L.lookup tg=some (.bool want)
section
variable {n:Nat}{a:Act}{L:List (Tmp × Value)}{w0 w:World}{Bs:List (Nat × Array Value × TypeId)}{Q:Exit->Act->World->Prop}{ops:Array Oper}{rest:List Oper}{t:Tmp}{u v:Value}{ty ty2 ty3:TypeId}{pos:String}{aft:Array Edge}{gd:Option (Nat × Bool)}{x y z:Operand}{g tg:Nat}{want b:Bool}
theorem QmL {o:Oper}(f:Gok ops n L o.guard) (g:o.dst=some t) (c:Nat.blt t n=true)
 (h:∀ ev:Operand->Value,(∀ x v,QlL L x=some v->ev x=v)->(execOp ev o).run prog w=.ok (.value v) w)
 (k:St n ((t,v)::L) ops Q rest w):St n L ops Q (o::rest) w:=fun a b =>
 wpList_step fun K d=>by
  rw[Xs (f.on b)]
  unfold Oper.wp;rw[h a.eval (fun x v e=>b.ev e),Oper.upon_value,g]
  exact d _ _ (k _ (b.put c))
theorem seq {p q:Int}(g:Gok ops n L gd) (c:QlL L x=some (Iv p)) (f:QlL L y=some (Iv q)) (b:Nat.blt t n=true)
 (k:St n ((t,.bool (p==q))::L) ops Q rest w):St n L ops Q (⟨some t,.binOp .eql 3 x y 3,ty,pos,aft,gd⟩::rest) w :=
 QmL g Z b (fun h a=>by have e:=a _ _ c;have d:=a _ _ f;simp[go_sem,e,d]) k
theorem QlN {w:World}{c:Array Value}{t:TypeId}(h:Blk w B c t) (j m:Nat) (e:Nat.ble (j+m) c.size=true):w.rangeAt B j ((c.toList.drop j).take m):=fun k v a=>by
 have b:k<((c.toList.drop j).take m).length:=(Zi a).1;have d:k<m:=by simp at b;omega
 rw[XR,Xs d,List.getElem?_drop] at a
 exact Qb h (j+k) v (by simpa using a)
end
theorem XM:type_of% @Nat.one_mul:=@Nat.one_mul
theorem Qcq {B:Nat}{t:TypeId}:∀ (vs:List Value) (w:World) (c:Array Value) (j:Nat),Blk w B c t->j+vs.length<=c.size->Blk (w.setCells B j vs) B (QaC c j vs) t
 | [],w,c,j,h,hs=>by
   have:QaC c j []=c:=by unfold QaC;simp
   rw[this];exact h
 | v::vs,w,c,j,h,hs=>by
   have:=Qcq vs (w.setCell ⟨B,j,none⟩ v) (c.setIfInBounds j v) (j+1) (Qh h j v) (by simp at hs |-;omega)
   rw[Qe2 _ _ _ _ hs] at this
   exact this
theorem QJ {B b:Nat}(a:B<=b):∀ (vs:List Value) (w w0:World) (j:Nat),Below B w0 w->Below B w0 (w.setCells b j vs)
 | [],w,w0,j,h=>h
 | v::vs,w,w0,j,h=>QJ a vs _ _ _ (h.setCell a v)
theorem Qdq (w:World) (b j:Nat) (c:List Value):w.grownBy (w.setCells b j c) (some b):=by
 have h:=QJ (Xb b) c w w j (Below.refl 0 w);exact⟨h.os,h.tape,h.output,h.size,fun k d a=>QF (fun e=>a (by rw[e])) c j w⟩
section
variable {α:Type}{A:Lay α}{e:TypeId}{w:World}{lo g n:Nat}{l:List α}{xs:List Value}
theorem Qap.fill (h:Qap A e w lo (.slice (some ⟨g,0,none⟩) l.length n) l xs){x:α}(m:A.In w (fun k=>lo<=k/\k≠g) x ds) (j:l.length<n) :
 Qap A e (w.setCells g (l.length*A.size) ds) lo (.slice (some ⟨g,0,none⟩) (l.length+1) n) (l++[x]) (xs++ds):=by
 have b:=A.len m;refine Qap.push h (Yc m (fun k q _=>⟨q.1,fun e=>q.2 (by simpa[Value.ownBlock] using e.symm)⟩)) (Qdq w g _ ds) (.inl Z) ?_;obtain⟨o,s⟩:=h.own
 rcases s with ⟨d,_⟩|⟨y,p,c,d,r,v,t,i,f,a⟩
 ·simp at d
 ·simp only[Value.slice.injEq,Option.some.injEq,Addr.mk.injEq,and_true,true_and] at d
  obtain⟨rfl,rfl⟩:=d
  have u:(l.length+1)*A.size<=n*A.size:=Xp _ j;rw[Nat.add_mul,XM] at u
  refine⟨by rw[List.length_append,o,b,Nat.add_mul,XM],.inr ⟨g,n,QaC c (l.length*A.size) ds,Z,r,Qcq ds w c _ v (by omega),j,i,?_,?_⟩⟩
  ·rw[<-f];unfold QaC;simp;omega
  ·unfold QaC;rw[a,Nat.add_mul,XM]
   rw[show l.length*A.size+A.size=(xs++ds).length by rw[List.length_append,o,b],List.toList_toArray,<-List.append_assoc]
   exact List.take_left' Z
end
section
variable {P:Program}{Q:Exit->Act->World->Prop}
def Qgv (l:List Oper) (S:Nat->Bool):Prop:=∀ (j:Nat) (o:Oper),l[j]?=some o->S j=true->∀ e∈o.after,Region.binds .any e=true->S e.on=true
def Qnm (o:Oper) (S:Nat->Bool):Prop:=∀ e∈o.after,Region.binds .any e=true->S e.on=true
def Qcr (i:Nat) (S:Nat->Bool):Nat->Bool:=fun j=>j==i||S j
end
section
variable (E:Tmp->Value->World->Prop) (W:(Nat->Bool)->World->Prop) (R:World->World->Prop) (P:Program) (l:List Oper)
def ZJ (ops:Array Oper):List (Nat × Option Bool)->Prop
 | []=>True
 | (g,c)::r=>(∀ t,(ops[g]?).bind (·.dst)=some t->∀ v w,E t v w->match c with | some b=>v=.bool b | none=>v=undef)/\ZJ ops r
end
section
variable {P:Program}{E:Tmp->Value->World->Prop}{W:(Nat->Bool)->World->Prop}{R:World->World->Prop}
theorem Qdz {a:Array Oper}:∀ (gs:List (Nat × Option Bool)),ZJ E a gs->∀ g c,gs.lookup g=some c->∀ t,(a[g]?).bind (·.dst)=some t->∀ v w,E t v w->match c with | some b=>v=.bool b | none=>v=undef
 | [],_,_,_,h=>by simp at h
 | (g',c')::r,h,g,c,hl=>by
   by_cases e:g=g'
   ·subst e;simp at hl;subst hl;exact h.1
   ·have d:(g==g')=false:=by simpa using e
    simp[List.lookup_cons,d] at hl;exact Qdz r h.2 g c hl
end
def Qm3 (l:List Oper) (S:Nat->Bool) (t:Tmp):Prop:=t∈Qt l->∃ j o,l[j]?=some o/\o.dst=some t/\S j=true
def PEx (PX:List PanicEntry->World->Prop):Exit->Act->World->Prop:=fun e _ w=>∃ ch,e=.panic ch/\PX ch w
theorem Qn4 {o:Oper}{a:Act}{K f:Act->World->Prop}{PX:List PanicEntry->World->Prop}{Q:Exit->Act->World->Prop}(h:∀ a w,K a w->f a w) (d:∀ e w,PEx PX e a w->Q e a w)
 (b:o.wp P a w K (PEx PX)):o.wp P a w f Q:=by
 unfold Oper.wp at *;generalize (execOp a.eval o).run P w=r at *
 cases r with
 | ok n w' =>
   cases n<;>simp only[Oper.upon] at b |- <;>
    first
     | exact h _ _ b
     | exact d _ _ b
     | exact Xm b (fun e g c=>by cases e<;>first | exact h _ _ c | exact d _ _ c | (obtain⟨x,y,i,c,_⟩:=c;cases c))
     | exact Rows.mono b (fun _ _ c=>h _ _ c)
 | halt x w'=>cases x<;>simp only[Oper.upon] at b |-<;>first | exact d _ _ b | exact b
section
variable (E:(Nat->Bool)->Tmp->Value->World->Prop) (W:(Nat->Bool)->World->Prop) (PX:List PanicEntry->World->Prop) (P:Program) (l:List Oper)
def QiC (i:Nat) (o:Oper):Prop :=
 ∀ (S:Nat->Bool) a w,S i=false->Qnm o S->Qgv l S->W S w->Qek (E S) a w (Qe5 o)->∀ K:Act->World->Prop,(∀ v w',(∀ t,Qm3 l S t->E S t (a.tmps.getD t undef) w->E (Qcr i S) t (a.tmps.getD t undef) w')->W (Qcr i S) w'->EO (E (Qcr i S)) o.dst v w'->K (a.put o.dst v) w')->o.wp P a w K (PEx PX)
def Qgm (i:Nat) (o:Oper):Prop:=∀ (S:Nat->Bool) (a:Act) w,S i=false->Qnm o S->Qgv l S->W S w->(W (Qcr i S) w/\EO (E (Qcr i S)) o.dst undef w/\∀ t,Qm3 l S t->E S t (a.tmps.getD t undef) w->E (Qcr i S) t (a.tmps.getD t undef) w)
structure Qlt (outs:List Tmp) (a0:Act) (listed:Array Bool) (a:Act) (w:World):Prop where
 world:W (fun j=>listed.getD j false) w
 closed:Qgv l (fun j=>listed.getD j false)
 defers:a.defers=a0.defers
 size:a.tmps.size=a0.tmps.size
 outer:∀ t,t ∉ Qt l->a.tmps[t]?=a0.tmps[t]?
 outs:∀ t∈outs,t ∉ Qt l->E (fun j=>listed.getD j false) t (a.tmps.getD t undef) w
 known:∀ j o t,l[j]?=some o->o.dst=some t->listed.getD j false=true->E (fun j=>listed.getD j false) t (a.tmps.getD t undef) w
def AllOkY:Nat->List Oper->List Bool->Prop
 | i,o::r,true::bs=>QiC E W PX P l i o/\AllOkY (i+1) r bs
 | i,o::r,false::bs=>Qgm E W l i o/\AllOkY (i+1) r bs
 | _,_,_=>True
end
section
variable {P:Program}{E:(Nat->Bool)->Tmp->Value->World->Prop}{W:(Nat->Bool)->World->Prop}{PX:List PanicEntry->World->Prop}
theorem QfG {a:List Oper}(gs:List (Nat × Option Bool)):∀ (l:List Oper) (k:Nat) (bs:List Bool),Qlj gs l bs=true->AllOkY E W PX P a k l bs->∀ (i:Nat) (o:Oper),l[i]?=some o->(onB gs o true=true/\QiC E W PX P a (k+i) o)\/(onB gs o false=true/\Qgm E W a (k+i) o)
 | [],_,_,_,_,_,_,h=>by simp at h
 | _::_,_,[],h,_,_,_,_=>by simp[Qlj] at h
 | x::l,k,b::bs,h,ha,i,o,ho=>by
   simp only[Qlj,Bool.and_eq_true] at h
   cases i with
   | zero =>
     simp at ho;subst ho
     cases b with
     | true=>exact .inl ⟨h.1,ha.1⟩
     | false=>exact .inr ⟨h.1,ha.1⟩
   | succ i =>
     simp at ho
     have e:k+(i+1)=k+1+i:=by omega
     rw[e]
     cases b with
     | true=>exact QfG gs l (k+1) bs h.2 ha.2 i o ho
     | false=>exact QfG gs l (k+1) bs h.2 ha.2 i o ho
theorem Qbl {l:List Oper}{outs:List Tmp}{gs:List (Nat × Option Bool)}{a0:Act}{Q:Exit->Act->World->Prop}
 (hX:∀ ch a w,a.defers=a0.defers->PX ch w->Q (.panic ch) a w) (hB:Qa0 l a0.tmps.size outs gs bs=true) (hG:∀ S,ZJ (E S) l.toArray gs) (hA:AllOkY E W PX P l 0 l bs)
 (ak:∀ (vs:Tmp->Value) (S:Nat->Bool) w',(∀ j,j<l.length->S j=true)->W S w'->(∀ t,(Qt l).contains t=true->E S t (vs t) w')->Q .normal (QN a0 vs (Qt l)) w') :
 ∀ (fuel:Nat) (listed:Array Bool) (a:Act) (w:World),listed.size=l.length->(listed.toList.filter (·==false)).length<=fuel->Qlt E W l outs a0 listed a w ->
  wpAny P .any l.toArray Q fuel listed a w:=by
 simp only[Qa0,Bool.and_eq_true] at hB
 obtain⟨⟨⟨⟨⟨aq,ax⟩,aa⟩,ay⟩,ar⟩,au⟩:=hB
 have ae:∀ (listed:Array Bool) (a:Act) (w:World),listed.size=l.length->Region.ready .any l.toArray listed=[]->Qlt E W l outs a0 listed a w->Q .normal a w:=by
  intro listed a w hs O f
  have T:∀ j,j<l.length->listed.getD j false=true:=by
   intro j
   induction j using Nat.strongRecOn with
   | _ j ih =>
     intro s
     cases q:listed.getD j false with
     | true=>rfl
     | false =>
       exfalso
       have:j∈Region.ready .any l.toArray listed:=by
        unfold Region.ready;refine List.mem_filter.2 ⟨by simpa using s,?_⟩
        have e1:listed.getD j true=false:=by
         have av:j<listed.size:=by omega
         simp[Array.getD,av] at q |-;exact q
        have e2:l.toArray[j]?=some l[j]:=by simp[s]
        rw[e1,e2]
        simp only[Bool.not_false,Bool.true_and,Option.map_some,Option.getD_some]
        rw[Array.all_eq_true_iff_forall_mem]
        intro e H
        cases K:Region.binds .any e with
        | false=>rfl
        | true =>
          have:=back_at l 0 j l[j] au (by simp[s]) e H K
          simp only[Bool.not_true,Bool.false_or]
          exact ih e.on (by omega) (by omega)
       rw[O] at this
       cases this
  have ad:∀ t∈Qt l,E (fun j=>listed.getD j false) t (a.tmps.getD t undef) w/\t<a0.tmps.size:=by
   intro t u;obtain⟨o,ho,y⟩:=List.mem_filterMap.1 u
   obtain⟨j,s⟩:=List.getElem?_of_mem ho
   have F:j<l.length:=by
    rcases Nat.lt_or_ge j l.length with h | h
    ·exact h
    ·rw[Xk h] at s;cases s
   exact⟨f.known j o t s y (T j F),by simpa using Xe.1 aa t u⟩
  have H:a=QN a0 (fun t=>a.tmps.getD t undef) (Qt l):=by
   have e1:a.tmps=(QN a0 (fun t=>a.tmps.getD t undef) (Qt l)).tmps:=by
    refine Array.ext (by rw[QcR,f.size]) fun t h1 U=>?_;have h3:t<a0.tmps.size:=by rw[<-f.size];exact h1
    have:=Qgc (fun t=>a.tmps.getD t undef) (Qt l) a0 t h3
    rw[Xj U] at this
    by_cases hm:t∈Qt l
    ·rw[Xs hm] at this
     simp only[Option.some.injEq] at this
     rw[this];simp[Array.getD,h1]
    ·rw[Xr hm,<-f.outer t hm,Xj h1] at this
     exact(Xn this).symm
   have e2:a.defers=(QN a0 (fun t=>a.tmps.getD t undef) (Qt l)).defers:=by rw[Qbt,f.defers]
   cases a with
   | mk t d =>
     simp only at e1 e2
     generalize hp:QN a0 (fun x=>t.getD x undef) (Qt l)=p at e1 e2 |-
     cases p;simp only at e1 e2;rw[e1,e2]
  rw[H]
  exact ak _ _ _ T f.world fun t u=>(ad t (by simpa using u)).1
 intro fuel
 induction fuel with
 | zero =>
   intro listed a w hs hf f
   have O:Region.ready .any l.toArray listed=[]:=by
    rw[List.eq_nil_iff_forall_not_mem]
    intro i hi;obtain⟨h1,U⟩:=List.mem_filter.1 hi
    have F:i<l.length:=by simpa using h1
    simp only[Bool.and_eq_true,Bool.not_eq_true'] at U
    have:listed[i]'(by omega)=false:=by
     have:=U.1;simp[Array.getD,show i<listed.size by omega] at this;exact this
    have hm:false∈listed.toList.filter (·==false):=List.mem_filter.2 ⟨by rw[<-this];simp,by simp⟩
    have:=List.length_pos_of_mem hm
    omega
   exact⟨O,ae listed a w hs O f⟩
 | succ fuel ih =>
   intro listed a w hs hf f;refine⟨fun O=>ae listed a w hs O f,fun i hi=>?_⟩
   obtain⟨h1,U⟩:=List.mem_filter.1 hi
   have F:i<l.length:=by simpa using h1
   simp only[Bool.and_eq_true,Bool.not_eq_true'] at U
   obtain⟨ai,m⟩:=U
   have J:i<listed.size:=by omega
   have R:listed[i]=false:=by simp[Array.getD,J] at ai;exact ai
   have ho:l.toArray[i]?=some l[i]:=by simp[F]
   have n:l[i]?=some l[i]:=by simp[F]
   generalize a1:l[i]=o at ho n;rw[ho] at m
   simp only[Option.map_some,Option.getD_some] at m
   rw[Array.all_eq_true_iff_forall_mem] at m
   have z:∀ t∈o.looksAt l.toArray,E (fun j=>listed.getD j false) t (a.tmps.getD t undef) w:=by
    intro t u
    have:=Xe.1 (Xe.1 ay o (Zm n)) t u
    rw[Bool.or_eq_true] at this
    rcases this with h | h
    ·simp only[Bool.and_eq_true,Bool.not_eq_true'] at h
     exact f.outs t (by simpa using h.1) (by simpa using h.2)
    ·obtain⟨k,hk,h⟩:=Array.any_eq_true.1 h
     simp only[Bool.and_eq_true,beq_iff_eq] at h
     obtain⟨q,y⟩:=h
     have M:=m _ (Array.getElem_mem hk);rw[q] at M
     simp only[Bool.not_true,Bool.false_or] at M
     generalize o.after[k]=e at *;obtain⟨oj,ao,aw⟩:=Option.bind_eq_some_iff.1 y
     exact f.known e.on oj t (by simpa using ao) aw M
   have an:Qek (E (fun j=>listed.getD j false)) a w (Qe5 o):=QdZ _ fun t u=>z t (by
    unfold Oper.looksAt;exact List.mem_append_left _ u)
   have hw:∀ b,onB gs o b=true->Region.wanted o (yielded l.toArray a.tmps)=b:=by
    intro b q;unfold onB at q;unfold Region.wanted
    cases hg:o.guard with
    | none=>rw[hg] at q;simp only at q |-;exact q.symm
    | some gw =>
      obtain⟨g,az⟩:=gw
      rw[hg] at q
      simp only at q |-
      cases M:gs.lookup g with
      | none=>rw[M] at q;cases q
      | some c =>
        rw[M] at q
        simp only[beq_iff_eq] at q
        have hy:yielded l.toArray a.tmps g=c:=by
         unfold yielded;have al:(g,c)∈gs:=mem_of_lookup gs g c M;have G:=Xe.1 aq _ al
         cases y:(l.toArray[g]?).bind (·.dst) with
         | none=>rw[y] at G;cases G
         | some t =>
           have hE:=z t (by unfold Oper.looksAt;rw[hg];simp only[y];simp);have I:=Qdz gs (hG _) g c M t y _ _ hE;obtain⟨og,am,ap⟩:=Option.bind_eq_some_iff.1 y
           have V:t<a.tmps.size:=by
            rw[f.size]
            have:=Xe.1 aa t (List.mem_filterMap.2 ⟨og,Zm (by simpa using am),ap⟩)
            simpa using this
           have u:a.tmps[t]?=some (a.tmps.getD t undef):=by simp[Array.getD,V]
           simp only[Option.bind_some,u]
           cases c with
           | none=>simp only at I;rw[I];rfl
           | some b=>simp only at I;rw[I]
        rw[hy,q]
   have L:((listed.setIfInBounds i true).toList.filter (·==false)).length<=fuel:=by
    have h3:=filter_set listed.toList i (by simpa using J) (by simpa using R);rw[Array.toList_setIfInBounds]
    omega
   have r:(fun j=>(listed.setIfInBounds i true).getD j false)=Qcr i (fun j=>listed.getD j false):=by
    funext j
    unfold Qcr;by_cases e:j=i
    ·subst e;simp[Array.getD,J]
    ·have ac:i≠j:=fun x=>e x.symm;rw[Za,Array.getElem?_setIfInBounds_ne ac,<-Za]
     simp[e]
   have B:Qnm o (fun j=>listed.getD j false):=fun e H q=>by
    have:=m e H
    rw[q] at this
    simpa using this
   have ag:(fun j=>listed.getD j false) i=false:=by simp[Array.getD,J,R]
   have N:∀ v w',W (Qcr i (fun j=>listed.getD j false)) w'->(∀ t,Qm3 l (fun j=>listed.getD j false) t->E (fun j=>listed.getD j false) t (a.tmps.getD t undef) w->E (Qcr i (fun j=>listed.getD j false)) t (a.tmps.getD t undef) w')->EO (E (Qcr i (fun j=>listed.getD j false))) o.dst v w'->Qlt E W l outs a0 (listed.setIfInBounds i true) (a.put o.dst v) w':=by
    intro v w' X A I
    have D:∀ t,o.dst≠some t->(a.put o.dst v).tmps[t]?=a.tmps[t]?:=by
     intro t u
     cases y:o.dst with
     | none=>rfl
     | some d =>
       have:d≠t:=fun e=>u (by rw[y,e])
       simp[Act.put,this]
    have C:∀ (b c:Array Value) (t:Nat),b[t]?=c[t]?->b.getD t undef=c.getD t undef:=by
     intro b c t h;rw[Za,Za,h]
    refine⟨by rw[r];exact X,?_,?_,?_,?_,?_,?_⟩
    ·rw[r]
     intro j oj s hS e H K;unfold Qcr at hS |-;by_cases e':j=i
     ·subst e';rw[n] at s
      obtain rfl:=Xn s
      have:=B e H K
      simp only at this
      simp[this]
     ·have:(j==i)=false:=by simpa using e'
      rw[this,Bool.false_or] at hS
      have:=f.closed j oj s hS e H K
      simp only at this
      simp[this]
    ·rw[<-f.defers];cases o.dst<;>rfl
    ·rw[<-f.size];cases o.dst<;>simp[Act.put]
    ·intro t u;rw[D t (fun e=>u (List.mem_filterMap.2 ⟨o,Zm n,e⟩)),f.outer t u]
    ·intro t u hn;rw[C _ _ t (D t (fun e=>hn (List.mem_filterMap.2 ⟨o,Zm n,e⟩)))]
     rw[r]
     exact A _ (fun h=>absurd h hn) (f.outs t u hn)
    ·intro j oj t s y aj;by_cases ab:j=i
     ·subst ab;rw[n] at s
      obtain rfl:=Xn s
      have V:t<a.tmps.size:=by
       rw[f.size]
       have:=Xe.1 aa t (List.mem_filterMap.2 ⟨o,Zm n,y⟩)
       simpa using this
      rw[y] at I |-
      have:(a.put (some t) v).tmps.getD t undef=v:=by simp[Act.put,Array.getD,V]
      rw[this,r];exact I
     ·have ac:o.dst≠some t:=fun e=>ab (nodup_apart l j i oj o t ax s n y e);rw[C _ _ t (D t ac)]
      have ah:i≠j:=fun e=>ab e.symm
      have af:listed.getD j false=true:=by
       rw[Za,Array.getElem?_setIfInBounds_ne ah] at aj
       rw[Za];exact aj
      rw[r]
      exact A _ (fun _=>⟨j,oj,s,y,af⟩) (f.known j oj t s y af)
   unfold wpOp;rw[ho]
   simp only
   rcases QfG gs l 0 bs ar hA i o n with ⟨h,A⟩|⟨h,A⟩
   ·rw[hw true h,Xs Z]
    refine .inl (Qn4 (fun a' w' hh=>hh) (fun e w' H=>by obtain⟨ch,rfl,hp⟩:=H;exact hX ch _ _ f.defers hp) ((XK i ▸ A) (fun j=>listed.getD j false) a w ag B f.closed f.world an _ fun v w' O X I=>?_));exact ih _ _ _ (by simpa using hs) L (N v w' X O I)
   ·rw[hw false h]
    simp only[Bool.false_eq_true,if_false]
    have hO:=(XK i ▸ A) (fun j=>listed.getD j false) a w ag B f.closed f.world;exact ih _ _ _ (by simpa using hs) L (N undef w hO.1 hO.2.2 hO.2.1)
theorem QcT {l:List Oper}{outs:List Tmp}{gs:List (Nat × Option Bool)}{a:Act}{Q:Exit->Act->World->Prop}
 (E:(Nat->Bool)->Tmp->Value->World->Prop) (W:(Nat->Bool)->World->Prop) (PX:List PanicEntry->World->Prop) (e:∀ ch a' w,a'.defers=a.defers->PX ch w->Q (.panic ch) a' w)
 (p:P.follows .mixedOrders=true)  (g:a.tmps.size=m) (c:n<=m) (i:Qa0 l n outs gs bs=true)
 (r:∀ S,ZJ (E S) l.toArray gs) (k:W (fun _=>false) w.drew) (u:Qah (E (fun _=>false)) a w.drew outs)
 (v:AllOkY E W PX P l 0 l bs)
 (b:∀ (vs:Tmp->Value) (S:Nat->Bool) w',(∀ j,j<l.length->S j=true)->W S w'->(∀ t,(Qt l).contains t=true->E S t (vs t) w')->Q .normal (QN a vs (Qt l)) w') :
 (Code.region id l.toArray true).wp P Q a w:=by
 refine wp_region_any p ?_
 have d:(fun j=>(Array.replicate l.length false).getD j false)=fun _=>false:=by
  funext j
  rw[Za,Array.getElem?_replicate]
  split<;>rfl
 have s:l.toArray.size=l.length:=by simp
 rw[s]
 refine Qbl e (Qay (g ▸ c) i) r v b _ _ _ _ (by simp) ?_ ⟨by rw[d];exact k,(by rw[d];intro j o _ h;cases h),Z,Z,fun _ _=>rfl,(fun t f _=>by rw[d];exact Qa9 outs u t f),?_⟩
 ·simp only[Array.toList_replicate]
  exact Zt (List.length_filter_le _ _) (by simp)
 ·intro j o t y x q;simp[Array.getD] at q
end
section
variable (E:Tmp->Value->World->Prop) (W:World->Prop) (R:World->World->Prop) (PX:List PanicEntry->World->Prop) (P:Program)
def Qlm (o:Oper):Prop :=
 ∀ a w,W w->Qek E a w (Qe5 o)->∀ K:Act->World->Prop,(∀ v w',R w w'->W w'->EO E o.dst v w'->K (a.put o.dst v) w')->o.wp P a w K (PEx PX)
def AllOkC:List Oper->List Bool->Prop
 | o::r,true::bs=>Qlm E W R PX P o/\AllOkC r bs
 | o::r,false::bs=>(∀ w,W w->EO E o.dst undef w)/\AllOkC r bs
 | _,_=>True
end
section
variable {P:Program}{E:Tmp->Value->World->Prop}{W:World->Prop}{R:World->World->Prop}{PX:List PanicEntry->World->Prop}
theorem QgH {i:List Oper}(c:∀ t v w w',R w w'->E t v w->E t v w'):∀ (l:List Oper) (bs:List Bool) (k:Nat),AllOkC E W R PX P l bs->AllOkY (fun _=>E) (fun _=>W) PX P i k l bs
 | [],bs,k,h=>by cases bs<;>trivial
 | o::r,[],k,h=>trivial
 | o::r,true::bs,k,h=>⟨fun S a w _ _ _ b j K d=>h.1 a w b j K (fun v w' m e f=>d v w' (fun t _ g=>c t _ w w' m g) e f),QgH c r bs (k+1) h.2⟩
 | o::r,false::bs,k,h=>⟨fun S a w _ _ _ b=>⟨b,h.1 w b,fun _ _ h=>h⟩,QgH c r bs (k+1) h.2⟩
theorem QcN {l:List Oper}{outs:List Tmp}{gs:List (Nat × Option Bool)}{a:Act}{Q:Exit->Act->World->Prop}
 (E:Tmp->Value->World->Prop) (W:World->Prop) (R:World->World->Prop) (PX:List PanicEntry->World->Prop) (g:∀ ch a' w,a'.defers=a.defers->PX ch w->Q (.panic ch) a' w)
 (h:P.follows .mixedOrders=true)  (e:a.tmps.size=m) (d:n<=m) (f:Qa0 l n outs gs bs=true)
 (i:∀ t v w w',R w w'->E t v w->E t v w') (j:ZJ E l.toArray gs) (c:W w.drew) (p:Qah E a w.drew outs)
 (o:AllOkC E W R PX P l bs)
 (b:∀ (vs:Tmp->Value) w',W w'->(∀ t,(Qt l).contains t=true->E t (vs t) w')->Q .normal (QN a vs (Qt l)) w') :
 (Code.region id l.toArray true).wp P Q a w :=
 QcT (fun _=>E) (fun _=>W) PX g h e d f (fun _=>j) c p (QgH i l bs 0 o) (fun vs _ w' _ c k=>b vs w' c k)
end
section
variable {P:Program}{E:Tmp->Value->World->Prop}{W:World->Prop}{R:World->World->Prop}
theorem eoB (o:Option Tmp)(a:W w) (h:EO E o v w):EO (fun t v w=>W w/\E t v w) o v w:=by
 cases o with
 | none=>exact h
 | some t=>exact⟨a,h⟩
theorem knB (a:Act) (w:World):∀ l,Qek (fun t v w=>W w/\E t v w) a w l->Qek E a w l
 | [],h=>h
 | _::r,h=>⟨h.1.2,knB a w r h.2⟩
theorem Qm8 (d:∀ t v w w',R w w'->E t v w->E t v w'):∀ (l:List Oper) (bs:List Bool),Qeh E W R P l bs->AllOkC (fun t v w=>W w/\E t v w) W (fun w w'=>R w w'/\W w') (fun _ _=>False) P l bs
 | [],bs,h=>by cases bs<;>trivial
 | o::r,[],h=>trivial
 | o::r,true::bs,h=>⟨fun a w b g K e=>wpq (fun _ _ h=>h) (h.1 a w b (knB a w _ g) K (fun v w' i c f=>e v w' ⟨i,c⟩ c (eoB o.dst c f))),Qm8 d r bs h.2⟩
 | o::r,false::bs,h=>⟨fun w b=>eoB o.dst b (h.1 w b),Qm8 d r bs h.2⟩
theorem guB {a:Array Oper}:∀ gs,QaT E W a gs->ZJ (fun t v w=>W w/\E t v w) a gs
 | [],h=>h
 | _::r,h=>⟨fun t c v w b=>h.1 t c v w b.1 b.2,guB r h.2⟩
theorem ouB {a:Act}{w:World}(b:W w):∀ l,Qah E a w l->Qah (fun t v w=>W w/\E t v w) a w l
 | [],h=>h
 | _::r,h=>⟨⟨b,h.1⟩,ouB b r h.2⟩
theorem QaO {l:List Oper}{outs:List Tmp}{gs:List (Nat × Option Bool)}{a:Act}{Q:Exit->Act->World->Prop}
 (E:Tmp->Value->World->Prop) (W:World->Prop) (R:World->World->Prop)
 (o:P.follows .mixedOrders=true)  (j:a.tmps.size=m) (c:n<=m) (i:Qa0 l n outs gs bs=true)
 (e:∀ t v w w',R w w'->E t v w->E t v w') (q:QaT E W l.toArray gs) (d:W w.drew) (u:Qah E a w.drew outs)
 (s:Qeh E W R P l bs)
 (b:∀ (vs:Tmp->Value) w',W w'->(∀ t,(Qt l).contains t=true->E t (vs t) w')->Q .normal (QN a vs (Qt l)) w') :
 (Code.region id l.toArray true).wp P Q a w :=
 QcN _ W _ (fun _ _=>False) (fun _ _ _ _ h=>h.elim) o j c i (fun t v w w' f p=>⟨f.2,e t v w w' f.1 p.2⟩) (guB gs q) d (ouB d outs u) (Qm8 e l bs s) (fun vs w' k r=>b vs w' k (fun t g=>(r t g).2))
end
theorem Qmk (w:World) (c:List Value) (t:TypeId):∀ (j:Nat) (u:Value),c[j]?=some u->(w.alloc (.cells c.toArray t)).cell? ((⟨w.heap.size,0,none⟩:Addr).add j)=some u:=by
 intro j u h;have a:c.toArray[j]?=some u:=by simpa using h
 rw[Go.WideShapes.add_plain,XK]
 exact Qb (Qe w c.toArray t) j u a
def Qi (i:Nat):Code->Option Code
 | .region k ops d=>if k=i then some (.region k ops d) else none
 | .loop c=>Qi i c
 | .seq a b=>match Qi i a with
   | some c=>some c
   | none=>Qi i b
 | .block _ c=>Qi i c
 | .scope c=>Qi i c
 | .cond _ a b=>match Qi i a with
   | some c=>some c
   | none=>Qi i b
 | _=>none
def Qao (k:Nat):Code->List Oper
 | .region _ ops _=>ops.toList.drop k
 | _=>[]
theorem Qk {p:Addr}(h:w.cell? p=some v) (b:Below w.heap.size w w'):w'.cell? p=some v:=(b.cell (Xi w p h)).trans h
theorem ZP (w:World){rest:List Oper}{o:Oper}{a:Act}{Q:Exit->Act->World->Prop}(y:o.guard=none) (s x:Operand) (t:TypeId)
 (N:o.op=.call { callee:=.builtin .append,args:=#[s,x],argTypes:=#[t,t] })
 (e:TypeId) (i:TypeInfo) (z:Value) (size d:Nat) (I:P.underlying t=some (.slice e)) (hi:P.info? e=some i) (H:i.zero=some z)
 (g:i.size=size) (E:i.bytes=d) (B:z.cells.size=size) (A:0<size)
 (v:Value) (n:Nat) (xs:List Value) (L:a.eval s=v) (q:w.ownsRow 0 e size v n xs)
 (D:Addr) (m c:Nat) (b:List Value) (O:a.eval x=.slice (some D) m c) (S:b.length=m*size) (l:∀ j u,b[j]?=some u->w.cell? (D.add j)=some u) (F:∀ u∈b,u.oneCell'=true)
 (C:n+m<=maxLen) (f:(n+m)*d<=140737488355328)
 (h:∀ v' w',w'.ownsRow 0 e size v' (n+m) (xs++b)->w.grownBy w' v.ownBlock->(∀ k,v'.ownBlock=some k->v.ownBlock=some k\/k=w.heap.size)->wpList P ops Q rest (a.put o.dst v') w'):wpList P ops Q (o::rest) a w:=by
 obtain⟨v',w',M,G,J,_,p⟩:=run_append_own_at (P:=P) w 0 t o.type e i z size d I hi H g E B A v n xs q D m c b S l F C f (Xb _)
 refine wpList_plain y fun K R=>?_;unfold Oper.wp execOp;simp only[N,resolve,invoke,builtin,Sem.run_bind,Sem.run_pure,Result.andThen_ok,List.map_toArray,List.map_cons,List.map_nil,L,O,M]
 refine R _ _ (h v' w' G J (fun k r=>?_));rcases p with p | p
 ·rw[p] at r;exact .inl r
 ·rw[p] at r;exact .inr (by simpa using r.symm)
theorem QaS {z:Nat}{xs:List Value}(h:w.ownsRow 0 e z v n xs):∃ a c,v=.slice a n c:=by
 rcases h.2 with ⟨e,b⟩|⟨g,d,f,e,_⟩
 ·exact⟨none,0,by rw[e,b]⟩
 ·exact⟨_,_,e⟩
abbrev I64 (x:Int):Prop:=-9223372036854775808<=x/\x<=9223372036854775807
structure IP where
 pR:Option Addr
 cR:Nat
 pA:Option Addr
 cA:Nat
structure EP where
 pYR:Option Addr
 cYR:Nat
 pYA:Option Addr
 cYA:Nat
 pNR:Option Addr
 cNR:Nat
 pNA:Option Addr
 cNA:Nat
 pA:Option Addr
 cA:Nat
structure BP where
 pP:Option Addr
 cP:Nat
 pC:Option Addr
 cC:Nat
 e:EP
structure FP where
 pP:Option Addr
 cP:Nat
 pR:Option Addr
 cR:Nat
 pB:Option Addr
 cB:Nat
structure QhA (w:World) (O:Nat->Prop) (x:MTo) (pR:Option Addr) (cR:Nat) (pA:Option Addr) (cA:Nat):Prop where
 regs:intsL.In w O x.regs [.slice pR x.regs.length cR]
 args:intsL.In w O x.args [.slice pA x.args.length cA]
 bnd:I64 x.block
structure IIn (w:World) (O:Nat->Prop) (x:Qs) (i:IP):Prop where
 regs:intsL.In w O x.regs [.slice i.pR x.regs.length i.cR]
 args:intsL.In w O x.args [.slice i.pA x.args.length i.cA]
 bnd:I64 x.op/\I64 x.a/\I64 x.b/\I64 x.c/\I64 x.k/\I64 x.n
structure EIn (w:World) (O:Nat->Prop) (x:ZC) (e:EP):Prop where
 yes:QhA w O x.yes e.pYR e.cYR e.pYA e.cYA
 no:QhA w O x.no e.pNR e.cNR e.pNA e.cNA
 args:intsL.In w O x.args [.slice e.pA x.args.length e.cA]
 bnd:I64 x.op/\I64 x.a
structure BIn (w:World) (O:Nat->Prop){n:Nat}(x:MBlock n) (b:BP):Prop where
 params:(Qo n).In w O x.params [.slice b.pP x.params.length b.cP]
 code:insL.list.In w O x.code [.slice b.pC x.code.length b.cC]
 fin:EIn w O x.fin b.e
 bnd:I64 x.regs
structure FIn (w:World) (O:Nat->Prop){n:Nat}(x:MFunc n) (f:FP):Prop where
 params:(Qo n).In w O x.params [.slice f.pP x.params.length f.cP]
 results:(Qo n).In w O x.results [.slice f.pR x.results.length f.cR]
 blocks:(Zp n).list.In w O x.blocks [.slice f.pB x.blocks.length f.cB]
 bnd:I64 x.regs
section
variable {w w':World}{O O':Nat->Prop}{n:Nat}{cs:List Value}
theorem QhA.keep {x:MTo}(b:∀ k,O k->k<w.heap.size->w'.heap[k]?=w.heap[k]?) (a:∀ k,O k->k<w.heap.size->O' k) (h:QhA w O x pR cR pA cA):QhA w' O' x pR cR pA cA:=⟨Lay.keep _ b a h.regs,Lay.keep _ b a h.args,h.bnd⟩
theorem QhA.below {x:MTo}(h:QhA w O x pR cR pA cA) (a:Below w.heap.size w w'):QhA w' O x pR cR pA cA:=h.keep (fun k _ b=>a.block k b) (fun _ h _=>h)
theorem IIn.keep {x:Qs}{i:IP}(b:∀ k,O k->k<w.heap.size->w'.heap[k]?=w.heap[k]?) (a:∀ k,O k->k<w.heap.size->O' k) (h:IIn w O x i):IIn w' O' x i:=⟨Lay.keep _ b a h.regs,Lay.keep _ b a h.args,h.bnd⟩
theorem IIn.below {x:Qs}{i:IP}(h:IIn w O x i) (a:Below w.heap.size w w'):IIn w' O x i:=h.keep (fun k _ b=>a.block k b) (fun _ h _=>h)
theorem EIn.keep {x:ZC}{e:EP}(b:∀ k,O k->k<w.heap.size->w'.heap[k]?=w.heap[k]?) (a:∀ k,O k->k<w.heap.size->O' k) (h:EIn w O x e):EIn w' O' x e:=⟨h.yes.keep b a,h.no.keep b a,Lay.keep _ b a h.args,h.bnd⟩
theorem EIn.below {x:ZC}{e:EP}(h:EIn w O x e) (a:Below w.heap.size w w'):EIn w' O x e:=h.keep (fun k _ b=>a.block k b) (fun _ h _=>h)
theorem BIn.keep {x:MBlock n}{b:BP}(c:∀ k,O k->k<w.heap.size->w'.heap[k]?=w.heap[k]?) (a:∀ k,O k->k<w.heap.size->O' k) (h:BIn w O x b):BIn w' O' x b:=⟨Lay.keep _ c a h.params,Lay.keep _ c a h.code,h.fin.keep c a,h.bnd⟩
theorem BIn.below {x:MBlock n}{b:BP}(h:BIn w O x b) (a:Below w.heap.size w w'):BIn w' O x b:=h.keep (fun k _ c=>a.block k c) (fun _ h _=>h)
theorem FIn.keep {x:MFunc n}{f:FP}(b:∀ k,O k->k<w.heap.size->w'.heap[k]?=w.heap[k]?) (a:∀ k,O k->k<w.heap.size->O' k) (h:FIn w O x f):FIn w' O' x f:=⟨Lay.keep _ b a h.params,Lay.keep _ b a h.results,Lay.keep _ b a h.blocks,h.bnd⟩
theorem FIn.below {x:MFunc n}{f:FP}(h:FIn w O x f) (a:Below w.heap.size w w'):FIn w' O x f:=h.keep (fun k _ b=>a.block k b) (fun _ h _=>h)
theorem QiO {x:MTo}(h:toL.In w O x cs):∃ pR cR pA cA,cs=[Iv x.block,.slice pR x.regs.length cR,.slice pA x.args.length cA]/\QhA w O x pR cR pA cA:=by
 obtain⟨a,c,b,d,rfl,e,f,g⟩:=QfW h
 exact⟨a,c,b,d,Z,e,f,g⟩
theorem QhR {x:MTo}(h:QhA w O x pR cR pA cA):toL.In w O x [Iv x.block,.slice pR x.regs.length cR,.slice pA x.args.length cA]:=Qnw h.regs h.args h.bnd
theorem Qea {x:Qs}(h:insL.In w O x cs):∃ i:IP,cs=[Iv x.op,Iv x.a,Iv x.b,Iv x.c,Iv x.k,Iv x.n,.slice i.pR x.regs.length i.cR,.slice i.pA x.args.length i.cA]/\IIn w O x i:=by
 obtain⟨a,c,b,d,rfl,e,f,g⟩:=Qkk h
 exact⟨⟨a,c,b,d⟩,Z,e,f,g⟩
theorem QdY {x:ZC}(h:endL.In w O x cs):∃ e:EP,cs=[Iv x.op,Iv x.a,Iv x.yes.block,.slice e.pYR x.yes.regs.length e.cYR,.slice e.pYA x.yes.args.length e.cYA,Iv x.no.block,.slice e.pNR x.no.regs.length e.cNR,.slice e.pNA x.no.args.length e.cNA,.slice e.pA x.args.length e.cA]/\EIn w O x e:=by
 obtain⟨q,r,a,c,rfl,g,i,j,l⟩:=Qgy h
 obtain⟨b,k,pA,cA,rfl,n⟩:=QiO g
 obtain⟨f,o,m,p,rfl,d⟩:=QiO i
 exact⟨⟨b,k,pA,cA,f,o,m,p,a,c⟩,Z,n,d,j,l⟩
theorem Qgk {x:ZC}{e:EP}(h:EIn w O x e):endL.In w O x [Iv x.op,Iv x.a,Iv x.yes.block,.slice e.pYR x.yes.regs.length e.cYR,.slice e.pYA x.yes.args.length e.cYA,Iv x.no.block,.slice e.pNR x.no.regs.length e.cNR,.slice e.pNA x.no.args.length e.cNA,.slice e.pA x.args.length e.cA]:=Qmq (QhR h.yes) (QhR h.no) h.args h.bnd
theorem QbZ {x:MBlock n}(h:(Zp n).In w O x cs):∃ b:BP,cs=[Iv x.regs,.slice b.pP x.params.length b.cP,.slice b.pC x.code.length b.cC,Iv x.fin.op,Iv x.fin.a,Iv x.fin.yes.block,.slice b.e.pYR x.fin.yes.regs.length b.e.cYR,.slice b.e.pYA x.fin.yes.args.length b.e.cYA,Iv x.fin.no.block,.slice b.e.pNR x.fin.no.regs.length b.e.cNR,.slice b.e.pNA x.fin.no.args.length b.e.cNA,.slice b.e.pA x.fin.args.length b.e.cA]/\BIn w O x b:=by
 obtain⟨a,c,b,d,l,rfl,f,g,i,j⟩:=Qce h
 obtain⟨e,rfl,k⟩:=QdY i
 exact⟨⟨a,c,b,d,e⟩,Z,f,g,k,j⟩
theorem Qc6 {x:MFunc n}(h:(ZS n).In w O x cs):∃ f:FP,cs=[Iv x.regs,.slice f.pP x.params.length f.cP,.slice f.pR x.results.length f.cR,.slice f.pB x.blocks.length f.cB]/\FIn w O x f:=by
 obtain⟨a,c,b,d,e,f,rfl,g,i,k,j⟩:=Qaq h
 exact⟨⟨a,c,b,d,e,f⟩,Z,g,i,k,j⟩
theorem QhI {l:List Qs}(h:(insL).list.In w O l [.slice p m c]){x:Qs}(r:l[i]?=some x) :
 ∃ (g o:Nat) (i':IP),p=some ⟨g,o,none⟩/\w.rangeAt g (o+i*8) [Iv x.op,Iv x.a,Iv x.b,Iv x.c,Iv x.k,Iv x.n,.slice i'.pR x.regs.length i'.cR,.slice i'.pA x.args.length i'.cA]/\IIn w O x i':=by
 obtain⟨g,o,z,e,u,y,d,s⟩:=Yf h r
 obtain⟨i',rfl,q⟩:=Qea s
 have t:(insL).size=8:=rfl;rw[t] at d
 exact⟨g,o,i',e,fun j v f=>(d j (by have:=(Zi f).1;simpa using this)).trans f,q⟩
theorem Qep {l:List (MBlock n)}(h:(Zp n).list.In w O l [.slice p m c]){x:MBlock n}(q:l[i]?=some x) :
 ∃ (g o:Nat) (b:BP),p=some ⟨g,o,none⟩/\w.rangeAt g (o+i*12) [Iv x.regs,.slice b.pP x.params.length b.cP,.slice b.pC x.code.length b.cC,Iv x.fin.op,Iv x.fin.a,Iv x.fin.yes.block,.slice b.e.pYR x.fin.yes.regs.length b.e.cYR,.slice b.e.pYA x.fin.yes.args.length b.e.cYA,Iv x.fin.no.block,.slice b.e.pNR x.fin.no.regs.length b.e.cNR,.slice b.e.pNA x.fin.no.args.length b.e.cNA,.slice b.e.pA x.fin.args.length b.e.cA]/\BIn w O x b:=by
 obtain⟨g,o,y,e,t,u,d,r⟩:=Yf h q
 obtain⟨b,rfl,k⟩:=QbZ r
 have s:(Zp n).size=12:=rfl;rw[s] at d
 exact⟨g,o,b,e,fun j v f=>(d j (by have:=(Zi f).1;simpa using this)).trans f,k⟩
theorem Qf7 {l:List (MFunc n)}(h:(ZS n).list.In w O l [.slice p m c]){x:MFunc n}(k:l[i]?=some x) :
 ∃ (g o:Nat) (f:FP),p=some ⟨g,o,none⟩/\w.rangeAt g (o+i*4) [Iv x.regs,.slice f.pP x.params.length f.cP,.slice f.pR x.results.length f.cR,.slice f.pB x.blocks.length f.cB]/\FIn w O x f:=by
 obtain⟨g,o,u,e,s,t,a,q⟩:=Yf h k
 obtain⟨f,rfl,d⟩:=Qc6 q
 have r:(ZS n).size=4:=rfl;rw[r] at a
 exact⟨g,o,f,e,fun j v b=>(a j (by have:=(Zi b).1;simpa using this)).trans b,d⟩
end
theorem QjT (op:Int):op=1\/op=2\/op=3\/op=4\/op=5\/op=6\/op=7\/op=8\/op=9\/op=10\/op=11\/op=12\/op=13\/op=14\/(op≠1/\op≠2/\op≠3/\op≠4/\op≠5/\op≠6/\op≠7/\op≠8/\op≠9/\op≠10/\op≠11/\op≠12/\op≠13/\op≠14):=by omega
def Qcd (funcs:Nat) (op a b c k n:Int) (rl al:Nat):Int :=
 match Q5 op with
 | none=>3
 | some (fa,fb,fc,fk,fn,fr,fs) =>
   if (!fa&&a != 0)||(!fb&&b != 0)||(!fc&&c != 0)||(!fk&&k != 0)||(!fn&&n != 0)||(!fr&&decide (0<rl))||(!fs&&decide (0<al)) then 4
   else if op=2/\(k<1\/9<k) then 1
   else if op=5/\8<al then 2
   else if (op=6\/op=7)/\(k<0\/7<k) then 1
   else if op=14/\(k<0\/(funcs:Int)<=k) then 1
   else if op=14/\(6<rl\/8<al) then 2
   else 0
theorem Qs.form_eq (d:Nat) (x:Qs):x.form d=Qcd d x.op x.a x.b x.c x.k x.n x.regs.length x.args.length:=by
 unfold Qs.form Qs.formless Qcd
 cases Q5 x.op with
 | none=>rfl
 | some p=>obtain⟨a,b,c,k,n,r,s⟩:=p;rfl
def rangeC (x l m:Int):Int:=if x<l\/m<x then 1 else 0
def manyC (len:Nat) (m:Int):Int:=if m<len then 2 else 0
def handedC (r:Nat) (m:Int) (s:Nat):Int:=if manyC r m≠0 then manyC r m else manyC s 8
def Qj2 (a b c k n:Int) (rl al:Nat):Bool:=a==0&&b==0&&c==0&&k==0&&n==0&&(rl:Int)==0&&(al:Int)==0
def ZI (funcs:Nat) (op k:Int) (rl al:Nat):Int :=
 if op=2 then rangeC k 1 9 else if op=6\/op=7 then rangeC k 0 7 else if op=5 then manyC al 8
 else if op=14 then (if rangeC k 0 ((funcs:Int) - 1)=0 then handedC rl 6 al else rangeC k 0 ((funcs:Int) - 1)) else 0
theorem fb (f:Bool) (a:Int):(!f&&a != 0)=!((bif f then 0 else a)==0):=by cases f<;>simp[bne]
theorem fbn (f:Bool) (l:Nat):(!f&&decide (0<l))=!(((bif f then 0 else l:Nat):Int)==0):=by
 cases f
 ·by_cases h:l=0
  ·simp[h]
  ·have:0<l:=by omega
   simp[this,h]
 ·simp
theorem QiG (d:Nat) (op k:Int) (rl al:Nat):(if op=2/\(k<1\/9<k) then 1
 else if op=5/\8<al then 2
 else if (op=6\/op=7)/\(k<0\/7<k) then 1
 else if op=14/\(k<0\/(d:Int)<=k) then 1
 else if op=14/\(6<rl\/8<al) then 2
 else 0)=ZI d op k rl al:=by
 unfold ZI;by_cases c:op=2
 ·subst c;simp[rangeC]
 ·by_cases e:op=6\/op=7
  ·have b:¬ op=5:=by omega
   have a:¬ op=14:=by omega
   simp[c,b,e,a,rangeC]
  ·by_cases b:op=5
   ·subst b;simp[manyC];split<;>split<;>omega
   ·by_cases a:op=14
    ·subst a;simp[rangeC,handedC,manyC]
     repeat' split
     all_goals omega
    ·simp[c,b,e,a]
theorem QeG {i:Nat}{op a b c k n:Int}{h d g f fn fr fs:Bool}(e:Q5 op=some (h,d,g,f,fn,fr,fs)) :
 Qcd i op a b c k n rl al=if Qj2 (bif h then 0 else a) (bif d then 0 else b) (bif g then 0 else c) (bif f then 0 else k) (bif fn then 0 else n) (bif fr then 0 else rl) (bif fs then 0 else al)=true then ZI i op k rl al else 4:=by
 simp only[Qcd,e,QiG]
 rw[fb,fb,fb,fb,fb,fbn,fbn]
 unfold Qj2;generalize ((bif h then 0 else a)==0)=j;generalize ((bif d then 0 else b)==0)=r;generalize ((bif g then 0 else c)==0)=q;generalize ((bif f then 0 else k)==0)=o;generalize ((bif fn then 0 else n)==0)=m;generalize (((bif fr then 0 else rl:Nat):Int)==0)=l;generalize (((bif fs then 0 else al:Nat):Int)==0)=p
 cases j<;>cases r<;>cases q<;>cases o<;>cases m<;>cases l<;>cases p<;>rfl
theorem QfR (h:f<1000000):Rd prog 118 #[Iv (f:Int)] w (Iv (10000*(f:Int)+9999)):=by
 unfold Rd;skip
 skip
 go_enter func118,ntmps118
 go_wp2
 go_ret;refine⟨?_,Zr⟩
 show Ending.returned (Iv ((f:Int)*10000+9999))=_;congr 2
 omega
theorem QeJ (h:f<1000000/\b<1000000):Rd prog 181 #[Iv (f:Int),Iv (b:Int)] w (Iv (10000*(f:Int)+100*(b:Int)+90)):=by
 unfold Rd;have a:=h.1;have c:=h.2;skip
 go_enter func181,ntmps181
 go_wp2
 go_ret;refine⟨?_,Zr⟩
 show Ending.returned (Iv ((f:Int)*10000+(b:Int)*100+90))=_;congr 2
 omega
theorem QdP (h:f<1000000/\b<1000000):Rd prog 131 #[Iv (f:Int),Iv (b:Int)] w (Iv (10000*(f:Int)+100*(b:Int)+91)):=by
 unfold Rd;have a:=h.1;have c:=h.2;skip
 go_enter func131,ntmps131
 go_wp2
 go_ret;refine⟨?_,Zr⟩
 show Ending.returned (Iv ((f:Int)*10000+(b:Int)*100+91))=_;congr 2
 omega
theorem QdV (h:f<1000000/\b<1000000/\i<1000000):Rd prog 130 #[Iv (f:Int),Iv (b:Int),Iv (i:Int)] w (Iv (10000*(f:Int)+100*(b:Int)+(i:Int))):=by
 unfold Rd;have a:=h.1;have c:=h.2;have d:=h.2.1;have e:=h.2.2;go_enter func130,ntmps130
 go_wp2
 go_ret;refine⟨?_,Zr⟩
 show Ending.returned (Iv ((f:Int)*10000+(b:Int)*100+(i:Int)))=_;congr 2
 omega
theorem QaH {l m:Int}:Rd prog 262 #[Iv x,Iv l,Iv m] w (Iv (rangeC x l m)):=by
 unfold Rd rangeC;by_cases a:x<l
 ·rw[Xs (.inl a)]
  go_enter func262,ntmps262
  go_wp2
  go_ret;exact⟨Z,Zr⟩
 ·by_cases b:m<x
  ·rw[Xs (.inr b)]
   go_enter func262,ntmps262
   go_wp2
   go_ret;exact⟨Z,Zr⟩
  ·rw[Xr (by omega)]
   go_enter func262,ntmps262
   go_wp2
   go_ret;exact⟨Z,Zr⟩
theorem QaZ {len:Nat}{m:Int}:Rd prog 263 #[.slice p len c,Iv m] w (Iv (manyC len m)):=by
 unfold Rd manyC;by_cases a:m<len
 ·rw[Xs a]
  go_enter func263,ntmps263
  go_wp2
  go_ret;exact⟨Z,Zr⟩
 ·rw[Xr a]
  go_enter func263,ntmps263
  go_wp2
  go_ret;exact⟨Z,Zr⟩
theorem Qbj {q:Option Addr}{r:Nat}{m:Int}:Rd prog 264 #[.slice p r c,Iv m,.slice q s d] w (Iv (handedC r m s)):=by
 have b:Hid (∀ a:World,Calls prog 263 #[.slice p r c,Iv m] a fun e j=>e=.returned (Iv (manyC r m))/\Below a.heap.size a j):=fun a=>QaZ;have k:Hid (∀ a:World,Calls prog 263 #[.slice q s d,Iv 8] a fun e j=>e=.returned (Iv (manyC s 8))/\Below a.heap.size a j):=fun a=>QaZ;unfold Rd handedC;by_cases h:manyC r m=0
 ·rw[Xr (by simpa using h)]
  rw[h] at b
  go_enter func264,ntmps264
  go_wp2_with fail
  refine(b.out w).mono ?_
  rintro e i ⟨rfl,g⟩;have f:Hid (Below w.heap.size w i):=g;clear g b;go_wp2_with fail
  refine(k.out i).mono ?_
  rintro e n ⟨rfl,l⟩;have t:Hid (Below w.heap.size w n):=f.out.trans (l.mono f.out.size);clear l k f;go_wp2
  go_ret;exact⟨Z,t.out⟩
 ·rw[Xs h]
  have o:(manyC r m==0)=false:=by simpa using h
  generalize manyC r m=v at b o h |-;go_enter func264,ntmps264
  go_wp2_with fail
  refine(b.out w).mono ?_
  rintro e i ⟨rfl,g⟩;have f:Hid (Below w.heap.size w i):=g;clear g b k;go_wp2
  go_ret;exact⟨Z,f.out⟩
theorem QdI {xop:Int}:Rd prog 228 #[.agg #[Iv xop,Iv xa,Iv xb,Iv xc,Iv xk,Iv xn,.slice ra rl rc,.slice aa al ac]] w (.bool (Qj2 xa xb xc xk xn rl al)):=by
 have D:(xa==0)=false\/xa=0/\((xb==0)=false\/xb=0/\((xc==0)=false\/xc=0/\((xk==0)=false\/xk=0/\((xn==0)=false\/xn=0/\(((rl:Int)==0)=false\/rl=0/\(((al:Int)==0)=false\/al=0)))))):=by
  simp only[beq_eq_false_iff_ne];omega
 unfold Rd;rcases D with g | ⟨rfl,g | ⟨rfl,g | ⟨rfl,g | ⟨rfl,g | ⟨rfl,g | ⟨rfl,g | rfl⟩⟩⟩⟩⟩⟩
 all_goals
  go_enter func228,ntmps228
  go_wp2
  go_ret;exact⟨by first | rfl | simp[Qj2,g],Zd _ _⟩
def wfV (xop xa xb xc xk xn:Int) (ra aa:Option Addr) (rl rc al ac:Nat):Value:=match Q5 xop with
 | some (fa,fb,fc,fk,fn,fr,fs)=>.tuple #[.agg #[.int .i64 xop,.int .i64 (bif fa then 0 else xa),.int .i64 (bif fb then 0 else xb),.int .i64 (bif fc then 0 else xc),.int .i64 (bif fk then 0 else xk),.int .i64 (bif fn then 0 else xn),.slice (bif fr then none else ra) (bif fr then 0 else rl) (bif fr then 0 else rc),.slice (bif fs then none else aa) (bif fs then 0 else al) (bif fs then 0 else ac)],.bool true]
 | none=>.tuple #[.agg #[.int .i64 xop,.int .i64 xa,.int .i64 xb,.int .i64 xc,.int .i64 xk,.int .i64 xn,.slice ra rl rc,.slice aa al ac],.bool false]
theorem QmC {xop:Int}:Rd prog 227 #[.agg #[Iv xop,Iv xa,Iv xb,Iv xc,Iv xk,Iv xn,.slice ra rl rc,.slice aa al ac]] w (wfV xop xa xb xc xk xn ra aa rl rc al ac):=by
 rcases QjT xop with rfl | rfl | rfl | rfl | rfl | rfl | rfl | rfl | rfl | rfl | rfl | rfl | rfl | rfl | n
 rotate_right
 obtain⟨j,h,l,f,g,m,i,o,k,c,a,e,d,b⟩:=n
 have E:Q5 xop=none:=by simp[Q5, *]
 rw[<-beq_eq_false_iff_ne] at j h l f g m i o k c a e d b
 all_goals
  unfold Rd;go_enter func227,ntmps227
  go_wp2
  exact Xy (v:=wfV _ xa xb xc xk xn ra aa rl rc al ac) (by simp[results,results227,go_sem,wfV];first | (simp[Q5];done) | rw[E]) Z ⟨Z,QhB _ _ _⟩
theorem Qjf {xop lo hi:Int}{f:Option Addr}{a:Nat}(h:xop=2/\lo=1/\hi=9\/xop=6/\lo=0/\hi=7\/xop=7/\lo=0/\hi=7):Rd prog 229 #[.agg #[.slice f a cm],.agg #[Iv xop,Iv xa,Iv xb,Iv xc,Iv xk,Iv xn,.slice ra rl rc,.slice aa al ac]] w (Iv (ZI a xop xk rl al)):=by
 have C:Hid (∀ c:World,Rd prog 262 #[Iv xk,Iv lo,Iv hi] c (Iv (rangeC xk lo hi))):=fun c=>QaH;unfold Rd;rw[show ZI a xop xk rl al=rangeC xk lo hi by rcases h with ⟨rfl,rfl,rfl⟩|⟨rfl,rfl,rfl⟩|⟨rfl,rfl,rfl⟩<;>rfl]
 generalize rangeC xk lo hi=v at C |-;rcases h with ⟨rfl,rfl,rfl⟩|⟨rfl,rfl,rfl⟩|⟨rfl,rfl,rfl⟩
 all_goals
  go_enter func229,ntmps229
  go_wp2_with fail
  refine(C.out _).mono ?_
  rintro e d ⟨rfl,b⟩;have g:Hid (Below w.heap.size w d):=(QhB _ _ _).trans (b.mono (QhB w _ _).size);clear b C;go_wp2
  go_ret;exact⟨Z,g.out⟩
theorem Qly {g:Option Addr}{b:Nat}:Rd prog 229 #[.agg #[.slice g b cm],.agg #[Iv 5,Iv xa,Iv xb,Iv xc,Iv xk,Iv xn,.slice ra rl rc,.slice aa al ac]] w (Iv (ZI b 5 xk rl al)):=by
 have C:Hid (∀ a:World,Calls prog 263 #[.slice aa al ac,Iv 8] a fun e f=>e=.returned (Iv (manyC al 8))/\Below a.heap.size a f):=fun a=>QaZ;rw[show ZI b 5 xk rl al=manyC al 8 from Z]
 generalize manyC al 8=v at C |-;unfold Rd;go_enter func229,ntmps229
 go_wp2_with fail
 refine(C.out _).mono ?_
 rintro e d ⟨rfl,c⟩;have h:Hid (Below w.heap.size w d):=(QhB _ _ _).trans (c.mono (QhB w _ _).size);clear c C;go_wp2
 go_ret;exact⟨Z,h.out⟩
theorem Qj6 {h:Option Addr}{a:Nat}(o:a<2305843009213693952):Rd prog 229 #[.agg #[.slice h a cm],.agg #[Iv 14,Iv xa,Iv xb,Iv xc,Iv xk,Iv xn,.slice ra rl rc,.slice aa al ac]] w (Iv (ZI a 14 xk rl al)):=by
 have C:Hid (∀ b:World,Calls prog 262 #[Iv xk,Iv 0,Iv ((a:Int) - 1)] b fun e l=>e=.returned (Iv (rangeC xk 0 ((a:Int) - 1)))/\Below b.heap.size b l):=fun b=>QaH;have i:Hid (∀ b:World,Calls prog 264 #[.slice ra rl rc,Iv 6,.slice aa al ac] b fun e l=>e=.returned (Iv (handedC rl 6 al))/\Below b.heap.size b l):=fun b=>Qbj;rw[show ZI a 14 xk rl al=if rangeC xk 0 ((a:Int) - 1)=0 then handedC rl 6 al else rangeC xk 0 ((a:Int) - 1) from Z]
 generalize rangeC xk 0 ((a:Int) - 1)=v at C |-;generalize handedC rl 6 al=u at i |-;have d:Blk ((w.alloc (.cells #[.slice h a cm] 24)).alloc (.cells #[Iv 14,Iv xa,Iv xb,Iv xc,Iv xk,Iv xn,.slice ra rl rc,.slice aa al ac] 78)) (w.heap.size+1) #[Iv 14,Iv xa,Iv xb,Iv xc,Iv xk,Iv xn,.slice ra rl rc,.slice aa al ac] 78:=Blk.new2 _ _ _ _;have c:Hid (Below w.heap.size w ((w.alloc (.cells #[.slice h a cm] 24)).alloc (.cells #[Iv 14,Iv xa,Iv xb,Iv xc,Iv xk,Iv xn,.slice ra rl rc,.slice aa al ac] 78))):=QhB _ _ _;unfold Rd;by_cases k:v=0
 ·subst k;rw[Xs Z]
  go_enter func229,ntmps229
  go_wp2_with fail
  generalize ((w.alloc (.cells #[.slice h a cm] 24)).alloc (.cells #[Iv 14,Iv xa,Iv xb,Iv xc,Iv xk,Iv xn,.slice ra rl rc,.slice aa al ac] 78))=s at d c |-;refine(C.out _).mono ?_
  rintro e j ⟨rfl,f⟩;have m:=(f.block _ (XC d)).trans d;have g:Hid (Below w.heap.size w j):=c.out.trans (f.mono c.out.size);have t:=Qb m 6 _ Z;have x:=Qb m 7 _ Z;clear f C d c m;go_wp2_with fail
  refine(i.out _).mono ?_
  rintro e q ⟨rfl,n⟩;have p:Hid (Below w.heap.size w q):=g.out.trans (n.mono g.out.size);clear n i g;go_wp2
  go_ret;exact⟨Z,p.out⟩
 ·rw[Xr k]
  have r:(v==0)=false:=by simpa using k
  go_enter func229,ntmps229
  go_wp2_with fail
  generalize ((w.alloc (.cells #[.slice h a cm] 24)).alloc (.cells #[Iv 14,Iv xa,Iv xb,Iv xc,Iv xk,Iv xn,.slice ra rl rc,.slice aa al ac] 78))=s at d c |-;refine(C.out _).mono ?_
  rintro e j ⟨rfl,f⟩;have g:Hid (Below w.heap.size w j):=c.out.trans (f.mono c.out.size);clear f C i d c;go_wp2
  go_ret;exact⟨Z,g.out⟩
theorem Qkf {xop:Int}{i:Option Addr}{b:Nat}(h:xop≠2/\xop≠6/\xop≠7/\xop≠5/\xop≠14):Rd prog 229 #[.agg #[.slice i b cm],.agg #[Iv xop,Iv xa,Iv xb,Iv xc,Iv xk,Iv xn,.slice ra rl rc,.slice aa al ac]] w (Iv (ZI b xop xk rl al)):=by
 obtain⟨f,e,d,c,a⟩:=h
 rw[show ZI b xop xk rl al=0 by simp[ZI,f,e,d,c,a]]
 have l:(xop==2)=false:=by simpa using f
 have m:(xop==6)=false:=by simpa using e
 have k:(xop==7)=false:=by simpa using d
 have j:(xop==5)=false:=by simpa using c
 have g:(xop==14)=false:=by simpa using a
 unfold Rd;go_enter func229,ntmps229
 go_wp2
 go_ret;exact⟨Z,QhB _ _ _⟩
theorem QdM {xop:Int}{e:Option Addr}{a:Nat}(b:a<2305843009213693952):Rd prog 229 #[.agg #[.slice e a cm],.agg #[Iv xop,Iv xa,Iv xb,Iv xc,Iv xk,Iv xn,.slice ra rl rc,.slice aa al ac]] w (Iv (ZI a xop xk rl al)):=by
 by_cases d:xop=5
 ·subst d;exact Qly
 by_cases c:xop=14
 ·subst c;exact Qj6 b
 by_cases h:xop=2\/xop=6\/xop=7
 ·rcases h with rfl | rfl | rfl
  ·exact Qjf (.inl ⟨Z,Z,Z⟩)
  all_goals exact Qjf (lo:=0) (hi:=7) (by simp)
 ·exact Qkf (by omega)
theorem Qgw {xop:Int}{o m n:Int}{c b:Option Addr}{i h f j:Nat}{p:Option Addr}{l:Nat}{ok k:Bool}{v:Int}
 (B:Hid (∀ wx:World,Calls prog 227 #[.agg #[Iv xop,Iv xa,Iv xb,Iv xc,Iv xk,Iv xn,.slice ra rl rc,.slice aa al ac]] wx fun e w'=>e=.returned (.tuple #[.agg #[Iv xop,Iv ya,Iv yb,Iv o,Iv m,Iv n,.slice c i h,.slice b f j],.bool ok])/\Below wx.heap.size wx w'))
 (A:Hid (∀ wx:World,Calls prog 228 #[.agg #[Iv xop,Iv ya,Iv yb,Iv o,Iv m,Iv n,.slice c i h,.slice b f j]] wx fun e w'=>e=.returned (.bool k)/\Below wx.heap.size wx w'))
 (y:Hid (∀ wx:World,Calls prog 229 #[.agg #[.slice p l cm],.agg #[Iv xop,Iv xa,Iv xb,Iv xc,Iv xk,Iv xn,.slice ra rl rc,.slice aa al ac]] wx fun e w'=>e=.returned (Iv v)/\Below wx.heap.size wx w')) :
 Rd prog 184 #[.agg #[.slice p l cm],.agg #[Iv xop,Iv xa,Iv xb,Iv xc,Iv xk,Iv xn,.slice ra rl rc,.slice aa al ac]] w (Iv (if ok=false then 3 else if k=true then v else 4)):=by
 have g:Blk ((w.alloc (.cells #[.slice p l cm] 24)).alloc (.cells #[Iv xop,Iv xa,Iv xb,Iv xc,Iv xk,Iv xn,.slice ra rl rc,.slice aa al ac] 78)) w.heap.size #[.slice p l cm] 24:=Blk.new1 _ _ _ _ _;have a:Blk ((w.alloc (.cells #[.slice p l cm] 24)).alloc (.cells #[Iv xop,Iv xa,Iv xb,Iv xc,Iv xk,Iv xn,.slice ra rl rc,.slice aa al ac] 78)) (w.heap.size+1) #[Iv xop,Iv xa,Iv xb,Iv xc,Iv xk,Iv xn,.slice ra rl rc,.slice aa al ac] 78:=Blk.new2 _ _ _ _;have x:Hid (Below w.heap.size w ((w.alloc (.cells #[.slice p l cm] 24)).alloc (.cells #[Iv xop,Iv xa,Iv xb,Iv xc,Iv xk,Iv xn,.slice ra rl rc,.slice aa al ac] 78))):=QhB _ _ _;unfold Rd;go_enter func184,ntmps184
 go_wp2_with fail
 generalize ((w.alloc (.cells #[.slice p l cm] 24)).alloc (.cells #[Iv xop,Iv xa,Iv xb,Iv xc,Iv xk,Iv xn,.slice ra rl rc,.slice aa al ac] 78))=P at g a x |-;refine(B.out _).mono ?_
 rintro e r ⟨rfl,z⟩;replace g:=(z.block _ (XC g)).trans g;replace a:=(z.block _ (XC a)).trans a;have q:Hid (Below w.heap.size w r):=x.out.trans (z.mono x.out.size);clear z x B
 cases ok with
 | false =>
   have s:Hid (Below w.heap.size w (r.alloc (.cells #[Iv xop,Iv ya,Iv yb,Iv o,Iv m,Iv n,.slice c i h,.slice b f j] 78))):=q.out.trans ((Zd _ _).mono q.out.size);clear A y g a q;go_wp2
   go_ret;exact⟨Z,s.out⟩
 | true =>
   replace g:=((Zd r (.cells #[Iv xop,Iv ya,Iv yb,Iv o,Iv m,Iv n,.slice c i h,.slice b f j] 78)).block _ (XC g)).trans g;replace a:=((Zd r (.cells #[Iv xop,Iv ya,Iv yb,Iv o,Iv m,Iv n,.slice c i h,.slice b f j] 78)).block _ (XC a)).trans a;have s:Hid (Below w.heap.size w (r.alloc (.cells #[Iv xop,Iv ya,Iv yb,Iv o,Iv m,Iv n,.slice c i h,.slice b f j] 78))):=q.out.trans ((Zd _ _).mono q.out.size);go_wp2_with fail
   clear q;generalize r.alloc (.cells #[Iv xop,Iv ya,Iv yb,Iv o,Iv m,Iv n,.slice c i h,.slice b f j] 78)=M at g a s |-;refine(A.out _).mono ?_
   rintro e E ⟨rfl,u⟩;replace g:=(u.block _ (XC g)).trans g;replace a:=(u.block _ (XC a)).trans a;have t:Hid (Below w.heap.size w E):=s.out.trans (u.mono s.out.size);clear u s A
   cases k with
   | false =>
     clear y g a;go_wp2
     go_ret;exact⟨Z,t.out⟩
   | true =>
     have d:=Qb g 0 _ Z;have I:=Qb a 0 _ Z;have J:=Qb a 1 _ Z;have H:=Qb a 2 _ Z;have L:=Qb a 3 _ Z;have N:=Qb a 4 _ Z;have G:=Qb a 5 _ Z;have O:=Qb a 6 _ Z;have K:=Qb a 7 _ Z;clear g a;go_wp2_with fail
     refine(y.out _).mono ?_
     rintro e D ⟨rfl,C⟩;have F:Hid (Below w.heap.size w D):=t.out.trans (C.mono t.out.size);clear C t y;go_wp2
     go_ret;exact⟨Z,F.out⟩
theorem QgN (d:Nat) (x:Qs) (i:IP) (l:Option Addr) (cm:Nat) (w:World) (g:d<2305843009213693952) :
 Rd prog 184 #[.agg #[.slice l d cm],.agg #[Iv x.op,Iv x.a,Iv x.b,Iv x.c,Iv x.k,Iv x.n,.slice i.pR x.regs.length i.cR,.slice i.pA x.args.length i.cA]] w (Iv (x.form d)):=by
 rw[Qs.form_eq]
 have f:=fun h=>QmC (xop:=x.op) (xa:=x.a) (xb:=x.b) (xc:=x.c) (xk:=x.k) (xn:=x.n) (ra:=i.pR) (aa:=i.pA) (rl:=x.regs.length) (rc:=i.cR) (al:=x.args.length) (ac:=i.cA) (w:=h)
 cases e:Q5 x.op with
 | none =>
   simp only[wfV,e] at f
   rw[show Qcd d x.op x.a x.b x.c x.k x.n x.regs.length x.args.length=3 by unfold Qcd;rw[e]]
   exact Qgw (ok:=false) f (fun _=>QdI) (fun _=>QdM g)
 | some p =>
   obtain⟨t,j,q,o,m,s,r⟩:=p
   simp only[wfV,e] at f
   rw[QeG e]
   exact Qgw (ok:=true) f (fun _=>QdI) (fun _=>QdM g)
def Qhb (L:List Bool) (i:Nat):Value:=if i=16 then Iv (L.length:Int) else .bool (L.getD i false)
def Qp (w:World) (b:Nat) (L:List Bool):Prop:=L.length<=16/\w.rowIs b 303 17 (Qhb L)
theorem Qp.mark (h:Qp w b L)(a:k<16):w.cell? ⟨b,k,none⟩=some (.bool (L.getD k false)):=by
 have:=h.2.cell (i:=k) (by omega)
 rwa [Qhb,Xr (by omega)] at this
theorem Qp.count (h:Qp w b L):w.cell? ⟨b,16,none⟩=some (Iv (L.length:Int)):=by
 have:=h.2.cell (i:=16) (by omega)
 rwa [Qhb,Xs Z] at this
theorem Qp.keep (h:Qp w b L) (e:w'.heap[b]?=w.heap[b]?):Qp w' b L:=⟨h.1,h.2.of_block e⟩
theorem Qp.below (h:Qp w b L) (k:Below w.heap.size w w'):Qp w' b L:=h.keep (k.block b h.2.lt)
theorem Qp.lt (h:Qp w b L):b<w.heap.size:=h.2.lt
theorem Qp.setMark (h:Qp w b L)(f:k<L.length) (v:Bool):Qp (w.setCell ⟨b,k,none⟩ (.bool v)) b (L.set k v):=by
 refine⟨by simpa using h.1,(h.2.set k (.bool v)).congr fun i g=>?_⟩
 have d:=h.1;unfold Qhb;by_cases a:i=16
 ·subst a;simp;omega
 ·rw[Xr a,Xr a]
  by_cases c:i=k
  ·subst c;simp[List.getD,f]
  ·have:¬ k=i:=fun e=>c e.symm
   simp[c,List.getD,this]
theorem Qp.push (h:Qp w b L) (f:L.length<16):Qp ((w.setCell ⟨b,L.length,none⟩ (.bool true)).setCell ⟨b,16,none⟩ (Iv ((L.length:Int)+1))) b (L++[true]):=by
 refine⟨by simp;omega,((h.2.set L.length (.bool true)).set 16 _).congr fun i e=>?_⟩
 unfold Qhb;by_cases a:i=16
 ·subst a;simp
 ·rw[Xr a,Xr a,Xr a]
  by_cases d:i=L.length
  ·subst d;simp[List.getD]
  ·rw[Xr d]
   rcases Nat.lt_or_ge i L.length with c | c
   ·simp[List.getD,List.getElem?_append,c]
   ·rw[Qam L c,Qam (L++[true]) (by simp;omega)]
theorem Qcz (r:Int) (h:Qp w b L) :
 Calls prog 272 #[Pv b 0,Iv r] w fun e w'=>e=.returned (.bool (hHas L r))/\w'=w:=by
 by_cases a:0<=r
 ·by_cases d:r<16
  ·obtain⟨k,rfl⟩:=Xc a
   have c:=h.mark (k:=k) (by omega);have E:Hid (hHas L (k:Int)=L.getD k false):=Qc4 L k;have i:k<16:=by omega
   clear h;generalize L.getD k false=q at c E;go_enter func272,ntmps272
   go_wp2
   go_ret;exact⟨by rw[E.out];rfl,Z⟩
  ·have E:Hid (hHas L r=false):=by
    show _=_;obtain⟨k,rfl⟩:=Xc a
    rw[Qc4,Qam L (by have:=h.1;omega)]
   have g:decide (r<16)=false:=by simpa using d
   clear h;go_enter func272,ntmps272
   go_wp2
   go_ret;exact⟨by rw[E.out];rfl,Z⟩
 ·have E:Hid (hHas L r=false):=by show _=_;simp[hHas,a]
  have f:decide (0<=r)=false:=by simpa using a
  clear h;go_enter func272,ntmps272
  go_wp2
  go_ret;exact⟨by rw[E.out];rfl,Z⟩
theorem QkR (h:Qp w b L) :
 Calls prog 271 #[Pv b 0] w fun e w'=>e=.returned (Iv (L.length:Int))/\w'=w:=by
 have c:=h.count;clear h;generalize L.length=n at c;go_enter func271,ntmps271
 go_wp2
 go_ret;exact⟨Z,Z⟩
theorem Qf1 {a:World}(h:Qz (fun k=>k=b) (fun k=>k=b) a w) (i:Nat) (v:Value):Qz (fun k=>k=b) (fun k=>k=b) a (w.setCell ⟨b,i,none⟩ v):=h.setCell (p:=⟨b,i,none⟩) Z v
theorem QcK (h:Qp w b L) :
 Calls prog 237 #[Pv b 0] w fun e w'=>e=.returned (Iv (QbM L))/\Qp w' b (Qdd L)/\Qz (fun k=>k=b) (fun k=>k=b) w w':=by
 have c:=h.count;have l:=h.1;by_cases d:L.length<16
 ·have E:Hid (QbM L=(L.length:Int)/\Qdd L=L++[true]):=by show _/\_;simp[QbM,Qdd,d]
  have m:=h.mark d;have f:∀ i,w.frozen? ⟨b,i,none⟩=false:=h.2.frozen;have g:Hid (Qp ((w.setCell ⟨b,L.length,none⟩ (.bool true)).setCell ⟨b,16,none⟩ (Iv ((L.length:Int)+1))) b (L++[true])):=h.push d;have j:Hid (Qz (fun k=>k=b) (fun k=>k=b) w ((w.setCell ⟨b,L.length,none⟩ (.bool true)).setCell ⟨b,16,none⟩ (Iv ((L.length:Int)+1)))):=Qf1 (Qf1 (Qz.refl _ _) _ _) _ _;have a:((L.length:Int)==16)=false:=by simp;omega
  clear h;generalize o:L.length=n at c m g j E d a l;generalize L.getD n false=q at m;go_enter func237,ntmps237
  go_wp2_with fail
  go_region;go_wp2
  go_ret;rw[E.out.1,E.out.2]
  exact⟨Z,g.out,j.out.drew⟩
 ·have a:L.length=16:=by omega
  have E:Hid (QbM L=-1/\Qdd L=L):=by show _/\_;simp[QbM,Qdd,d]
  have g:Hid (Qp w b L):=h;rw[a] at c
  clear h d a l;go_enter func237,ntmps237
  go_wp2
  go_ret;rw[E.out.1,E.out.2]
  exact⟨Z,g.out,Qz.refl _ _⟩
theorem Qit (r:Int) (h:Qp w b L) :
 Calls prog 269 #[Pv b 0,Iv r] w fun e w'=>e=.returned (.bool (hHas L r))/\Qp w' b (QfV L r)/\Qz (fun k=>k=b) (fun k=>k=b) w w':=by
 have C:Hid (Calls prog 272 #[Pv b 0,Iv r] w fun e w'=>e=.returned (.bool (hHas L r))/\w'=w):=Qcz r h
 cases hh:hHas L r with
 | false =>
   have E:Hid (QfV L r=L):=by show _=_;simp[QfV,hh]
   have d:Hid (Qp w b L):=h;rw[hh] at C
   clear h hh;go_enter func269,ntmps269
   go_wp2_with (go_at_call 272;refine(C.out).mono ?_;rintro e w' ⟨rfl,a⟩;have a:=a.symm;subst a)
   go_ret;rw[E.out]
   exact⟨Z,d.out,Qz.refl _ _⟩
 | true =>
   obtain⟨k,rfl,n,l⟩:=Qa1 hh
   have E:Hid (QfV L (k:Int)=L.set k false):=by show _=_;simp[QfV,hh]
   have d:Hid (Qp (w.setCell ⟨b,k,none⟩ (.bool false)) b (L.set k false)):=h.setMark n false;have j:Hid (Qz (fun k=>k=b) (fun k=>k=b) w (w.setCell ⟨b,k,none⟩ (.bool false))):=Qf1 (Qz.refl _ _) _ _;have c:k<16:=by have:=h.1;omega
   have g:(k:Int)<16:=by omega
   have m:=h.mark c;have f:∀ i,w.frozen? ⟨b,i,none⟩=false:=h.2.frozen;rw[hh] at C
   generalize L.getD k false=q at m;clear h hh l;go_enter func269,ntmps269
   go_wp2_with (go_at_call 272;refine(C.out).mono ?_;rintro e w' ⟨rfl,a⟩;have a:=a.symm;subst a)
   go_ret;rw[E.out]
   exact⟨Z,d.out,j.out⟩
theorem QhL (w:World):Qp (w.alloc (.cells #[.bool false,.bool false,.bool false,.bool false,.bool false,.bool false,.bool false,.bool false,.bool false,.bool false,.bool false,.bool false,.bool false,.bool false,.bool false,.bool false,Iv 0] 303)) w.heap.size []:=by
 refine⟨by simp,World.rowIs_alloc w _ _ _ fun i a=>?_⟩
 have a:i<17:=a;unfold Qhb;match i,a with
 | 0,_ | 1,_ | 2,_ | 3,_ | 4,_ | 5,_ | 6,_ | 7,_ | 8,_ | 9,_ | 10,_ | 11,_ | 12,_ | 13,_ | 14,_ | 15,_ | 16,_=>rfl
 | i+17,h=>exact absurd h (by omega)
theorem Qkh (w:World) (n:Int) (x:-9223372036854775808<=n/\n<=9223372036854775807) :
 Calls prog 208 #[Iv n] w fun e w'=>e=.returned (Pv w.heap.size 0)/\Qp w' w.heap.size (QbX n)/\Below w.heap.size w w':=by
 have Z:Hid (Qp (w.alloc (.cells #[.bool false,.bool false,.bool false,.bool false,.bool false,.bool false,.bool false,.bool false,.bool false,.bool false,.bool false,.bool false,.bool false,.bool false,.bool false,.bool false,Iv 0] 303)) w.heap.size []):=QhL w;obtain⟨M,u⟩:∃ M,(min n 16).toNat=M:=⟨_,Yz⟩
 have E:Hid (QbX n=List.replicate M true):=by show _=_;rw[QbX,u]
 have m:∀ k:Nat,k<M->(k:Int)<n/\(k:Int)<16:=fun k o=>by omega
 have s:∀ k:Nat,¬ k<M->¬ (k:Int)<n\/¬ (k:Int)<16:=fun k o=>by omega
 go_enter func208,ntmps208
 by_cases v:16<n
 ·have p:M=16:=by omega
  go_wp2
  go_loopw [8] (fun i wr=>∃ k:Nat,k<=M/\i=Iv k/\Qp wr w.heap.size (List.replicate k true)/\Below w.heap.size w wr) (fun i _=>M - (intOf i).toNat)
  case atStart=>exact⟨0,Xb _,Yz,Z.out,Zr.alloc Ze _⟩
  case round =>
   obtain⟨k,o,rfl,j,l⟩:=hrel
   have g:Hid (Qp wr w.heap.size (List.replicate k true)):=j;have c:Hid (Below w.heap.size w wr):=l;clear j l Z;by_cases f:k<M
   ·obtain⟨q,r⟩:=m k f
    go_wp2_with fail
    refine(QcK g.out).mono ?_
    rintro e h ⟨rfl,b,a⟩
    have R:Hid (Qp h w.heap.size (List.replicate (k+1) true)/\Below w.heap.size w h):=by
     refine⟨by rw[<-Qfc (by omega)];exact b,c.out.trans (a.below c.out.size fun k o=>by omega)⟩
    clear b a g c;go_wp2
    go_roundw
    case rel=>exact⟨k+1,by omega,by go_num,R.out⟩
    case measure=>simp[intOf];omega
   ·have t:¬ (k:Int)<16:=by omega
    have d:k=M:=by omega
    go_wp2
    go_ret;refine⟨Yz,?_,c.out⟩
    rw[E.out,<-d];exact g.out
 ·go_wp2
  go_loopw [8] (fun i wr=>∃ k:Nat,k<=M/\i=Iv k/\Qp wr w.heap.size (List.replicate k true)/\Below w.heap.size w wr) (fun i _=>M - (intOf i).toNat)
  case atStart=>exact⟨0,Xb _,Yz,Z.out,Zr.alloc Ze _⟩
  case round =>
   obtain⟨k,o,rfl,j,l⟩:=hrel
   have g:Hid (Qp wr w.heap.size (List.replicate k true)):=j;have c:Hid (Below w.heap.size w wr):=l;clear j l Z;by_cases f:k<M
   ·obtain⟨q,r⟩:=m k f
    go_wp2_with fail
    refine(QcK g.out).mono ?_
    rintro e h ⟨rfl,b,a⟩
    have R:Hid (Qp h w.heap.size (List.replicate (k+1) true)/\Below w.heap.size w h):=by
     refine⟨by rw[<-Qfc (by omega)];exact b,c.out.trans (a.below c.out.size fun k o=>by omega)⟩
    clear b a g c;go_wp2
    go_roundw
    case rel=>exact⟨k+1,by omega,by go_num,R.out⟩
    case measure=>simp[intOf];omega
   ·have t:¬ (k:Int)<n:=by omega
    have d:k=M:=by omega
    go_wp2
    go_ret;refine⟨Yz,?_,c.out⟩
    rw[E.out,<-d];exact g.out
theorem under16:prog.underlying 301=some (.array 16 4):=by kernel_rfl
theorem underB:prog.underlying 4=some .bool:=by kernel_rfl
theorem sizeB:(prog.info? 4).map (·.size)=some 1:=by kernel_rfl
theorem size16:(prog.info? 301).map (·.size)=some 16:=by kernel_rfl
theorem Qga {b w9:World}{lo:Nat}(p:Qap Lay.int 3 b lo (.slice a xs.length c) xs cs) (h:-9223372036854775808<=x/\x<=9223372036854775807){o:Obj}(d:lo<=b.heap.size)
 (j:w9.ownsRow lo 3 1 (.slice (some ⟨g,0,none⟩) (xs.length+1) cap) (xs.length+1) (cs++[Iv x])) (f:(b.alloc o).grownBy w9 (Value.slice a xs.length c).ownBlock) (l:(Value.slice a xs.length c).ownBlock=some g\/g=b.heap.size+1) :
 Qap Lay.int 3 w9 lo (.slice (some ⟨g,0,none⟩) (xs.length+1) cap) (xs++[x]) (cs++[Iv x])/\∀ w,Below lo w b->Below lo w w9:=by
 have e:=p.below (Zd b o);have n:Lay.int.In (b.alloc o) (fun g=>lo<=g/\(Value.slice a xs.length c).ownBlock≠some g) x [Iv x]:=Lay.int_mk _ _ h;refine⟨Qap.push e n f (by simpa using l) j,fun w i=>(i.alloc d _).grown f (by simp;omega) (fun k m=>(e.lo_le m).1)⟩
def Qio (w:World) (l:List Int) (e:Ending) (w':World):Prop:=∃ a c,e=.returned (.slice a l.length c)/\intsL.In w' (fun g=>w.heap.size<=g) l [.slice a l.length c]/\Below w.heap.size w w'
theorem Qjv (h:Qp w b L) :
 Calls prog 278 #[Pv b 0] w fun e w'=>Qio w (Qal L) e w':=by
 obtain⟨i0,hi,N,P,U⟩:=pInfoI
 have Q:w.rangeAt b 0 ((List.range 16).map fun i=>Value.bool (L.getD i false)):=fun j v A=>by
  rw[XS] at A
  cases hj:(List.range 16)[j]? with
  | none=>rw[hj] at A;cases A
  | some k =>
    have t:j<16:=by have:=(Zi hj).1;simpa using this
    rw[List.getElem?_range t] at hj
    cases hj
    rw[List.getElem?_range t] at A
    simp only[Option.map_some,Option.some.injEq] at A
    rw[<-A,XK]
    exact h.mark t
 have E:Hid (hTo L 16=Qal L):=QmB L 16 h.1
 have l:∀ (k:Nat) (m:World),k<16->(Instr.index 301 (.agg ((List.range 16).map fun i=>Value.bool (L.getD i false)).toArray) (Iv (k:Int))).run prog m=.ok (.bool (L.getD k false)) m:=fun k m hk=>by
  have hp:(part 4 ((List.range 16).map fun i=>Value.bool (L.getD i false)).toArray (k*1)).run prog m=.ok (.bool (L.getD k false)) m:=by
   have hc:((List.range 16).map fun i=>Value.bool (L.getD i false)).toArray[k*1]?=some (.bool (L.getD k false)):=by
    simp[hk]
   simp only[part,isAgg,Sem.run_bind,run_underlying underB,Result.andThen_ok,Sem.run_pure,Bool.false_eq_true,if_false,hc]
  have x:(sizeOf 4).run prog m=.ok 1 m:=by
   have O:=sizeB
   cases hq:prog.info? 4 with
   | none=>simp[hq] at O
   | some i=>simp[hq] at O;simp[sizeOf,typeInfo,hq,O]
  have V:(0:Int)<=(k:Int)/\(k:Int)<(16:Nat):=by omega
  simp only[Instr.index,asIntOf,Sem.run_bind,Sem.run_pure,run_underlying under16,Result.andThen_ok,V,and_self,if_true,x,Int.toNat_natCast,hp]
 have X:Hid ((prog.info? 301).map (·.size)=some ((List.range 16).map fun i=>Value.bool (L.getD i false)).length):=by show _=_;rw[XN,List.length_range];exact size16
 have HR:Hid (w.rangeAt b 0 ((List.range 16).map fun i=>Value.bool (L.getD i false))):=Q;generalize ((List.range 16).map fun i=>Value.bool (L.getD i false))=K at Q l HR X;clear Q;clear h;go_enter func278,ntmps278
 go_wp2_with (refine wpList_load_mid Yz 301 (.tmp 8) Yz b 0 Yz K _ HR.out under16 Yz X.out ?_)
 go_loopw [3,10] (fun v u wr=>∃ k p,u=Iv (k:Nat)/\k<=16/\Qap Lay.int 3 wr w.heap.size v (hTo L k) p/\Below w.heap.size w wr) (fun _ u _=>16 - (intOf u).toNat)
 case atStart=>exact⟨0,[],Yz,by omega,Qap.nil _ _ _ _,Zr⟩
 case round =>
  obtain⟨k,p,rfl,hk,R,T⟩:=hrel
  obtain⟨a,c,rfl⟩:=R.formP
  have z:Hid (Qap Lay.int 3 wr w.heap.size (.slice a (hTo L k).length c) (hTo L k) p):=R;have F:Hid (Below w.heap.size w wr):=T;have r:=Qji L k;have x:w.heap.size<=wr.heap.size:=T.size;clear R T;by_cases M:k<16
  ·have aa:(k:Int)<16:=by omega
   have q:=fun m=>l k m M;clear l
   cases hm:L.getD k false with
   | false =>
     have B:Hid (hTo L (k+1)=hTo L k):=by show _=_;rw[hTo,hm];simp
     rw[hm] at q
     clear hm;go_wp2
     go_roundw
     case rel=>exact⟨k+1,p,by go_num,by omega,by rw[B.out];exact z.out,F.out⟩
     case measure=>simp[intOf];omega
   | true =>
     have B:Hid (hTo L (k+1)=hTo L k++[(k:Int)]):=by show _=_;rw[hTo,hm];simp
     rw[hm] at q
     have f:Hid (wr.ownsRow w.heap.size 3 1 (.slice a (hTo L k).length c) (hTo L k).length p):=z.out.own
     have S:Hid (∀ g y o,o.ownsRow w.heap.size 3 1 (.slice (some ⟨g,0,none⟩) ((hTo L k).length+1) y) ((hTo L k).length+1) (p++[Iv (k:Int)])->(wr.alloc (.cells #[Iv (k:Int)] 3)).grownBy o (Value.slice a (hTo L k).length c).ownBlock->((Value.slice a (hTo L k).length c).ownBlock=some g\/g=wr.heap.size+1) ->
      Qap Lay.int 3 o w.heap.size (.slice (some ⟨g,0,none⟩) ((hTo L k).length+1) y) (hTo L (k+1)) (p++[Iv (k:Int)])/\Below w.heap.size w o):=by
      intro g y o H h2 h3;obtain⟨J,I⟩:=Qga z.out (by omega) x H h2 h3
      rw[B.out]
      exact⟨J,I w F.out⟩
     have EL:Hid ((hTo L (k+1)).length=(hTo L k).length+1):=by show _=_;rw[B.out];simp
     clear hm z F B;generalize (hTo L k).length=n at f S EL r |-;go_wp2_with (at_builtin;refine wpList_append_lies _ Yz (.tmp 15) (.tmp 17) 76 Yz w.heap.size 3 i0 (Iv 0) 1 8 pUnderI hi N P U Yz (by decide) _ _ _ Yz (f.out.alloc _) ⟨wr.heap.size,0,none⟩ 1 1 [Iv (k:Int)] Yz Yz (QjX _ [_] _) (Qnu _) (by decide) (by unfold maxLen;omega) (by omega) (by simp;omega) (wr.heap.size+1) (by simp) ?_)
     intro W s o H d C D;obtain⟨J,I⟩:=S.out W s o H d C
     have A9:Hid (Qap Lay.int 3 o w.heap.size (.slice (some ⟨W,0,none⟩) (n+1) s) (hTo L (k+1)) (p++[Iv (k:Int)])):=J;have B9:Hid (Below w.heap.size w o):=I;clear H d C D f S J I;go_wp2
     go_roundw
     case rel=>exact⟨k+1,_,by go_num,by omega,A9.out,B9.out⟩
     case measure=>simp[intOf];omega
  ·have G:k=16:=by omega
   subst G
   have Z:Hid (Qio w (Qal L) (.returned (.slice a (hTo L 16).length c)) wr):=by
    rw[E.out]
    refine⟨a,c,Yz,?_,F.out⟩
    have:=z.out.lay
    rw[E.out] at this
    exact this
   clear z F l r;generalize (hTo L 16).length=n at Z;go_wp2
   go_ret;exact Z.out
theorem eqGuard16:prog.eqGuardType prog.depth 301=false:=by kernel_rfl
theorem Qh2 (f:Nat->Bool){c:Array Value}(b:c.size=16):((w.alloc (.cells c t)).setCells w.heap.size 0 ((List.range 16).map fun i=>Value.bool (f i)).toArray.toList).rowIs w.heap.size t 16 (fun i=>.bool (f i)):=by
 have d:Blk (w.alloc (.cells c t)) w.heap.size ([]++c.toList).toArray t:=by rw[List.nil_append,Array.toArray_toList];exact Qe w c t
 have a:=Blk.sets ((List.range 16).map fun i=>Value.bool (f i)) [] c.toList (w.alloc (.cells c t)) (by simp[b]) d;refine⟨_,a,by simp,fun i e=>?_⟩
 simp[e]
theorem QfA {f:Nat->Bool}(h:w.rowIs b t 16 (fun i=>.bool (f i))):w.rangeAt b 0 ((List.range 16).map fun i=>Value.bool (f i)):=fun j v c=>by
 rw[XS] at c
 cases hj:(List.range 16)[j]? with
 | none=>rw[hj] at c;cases c
 | some k =>
   have a:j<16:=by have:=(Zi hj).1;simpa using this
   rw[List.getElem?_range a] at hj
   cases hj
   rw[List.getElem?_range a] at c
   simp only[Option.map_some,Option.some.injEq] at c
   rw[<-c,XK]
   exact h.cell a
theorem Qp.marks (h:Qp w b L):w.rangeAt b 0 ((List.range 16).map fun i=>Value.bool (L.getD i false)):=fun j v c=>by
 rw[XS] at c
 cases hj:(List.range 16)[j]? with
 | none=>rw[hj] at c;cases c
 | some k =>
   have a:j<16:=by have:=(Zi hj).1;simpa using this
   rw[List.getElem?_range a] at hj
   cases hj
   rw[List.getElem?_range a] at c
   simp only[Option.map_some,Option.some.injEq] at c
   rw[<-c,XK]
   exact h.mark a
theorem Qjj (f:Nat->Bool):((List.range 16).map fun i=>Value.bool (f i)).toArray.all (·.oneCell')=true :=
 all_oneCell_toArray fun v a=>by obtain⟨i,_,rfl⟩:=List.mem_map.1 a;rfl
theorem Qic (w:World) (t:TypeId) (c:Array Value) (n:Nat) (a:n<=c.size):(w.alloc (.cells c t)).there w.heap.size 0 n:=fun j b=>by
 have h:=Qe w c t;rw[XK]
 refine⟨?_,Qj h j⟩
 rw[Qb h j c[j] (by simp)];rfl
theorem Qjg (hN:l.length=N) (ad:N<=100000) (hl:intsL.In w Q l [.slice a N c]) (h:Qp w b L) :
 Calls prog 286 #[Pv b 0,.slice a N c] w fun e w'=>e=.returned (Iv (hPass L [] l))/\Below w.heap.size w w':=by
 have HX:Hid (∀ i x,l[i]?=some x->∃ g o,a=some ⟨g,o,none⟩/\g<w.heap.size/\w.cell? ⟨g,o+i,none⟩=some (Iv x)):=fun i x y=>by
  obtain⟨g,o,ds,e1,e2,e3,hc,hd,T⟩:=Yf hl y
  have aa:ds=[Iv x]:=hd;subst aa;refine⟨g,o,e1,e3,?_⟩
  have:=hc 0 (by decide)
  simpa[Lay.int] using this
 have X:Hid (l.length=N):=hN;have HL:Hid (L.length<=16):=h.1;have HH:Hid (Qp w b L):=h
 have t:Hid (w.rangeAt b 0 ((List.range 16).map fun i=>Value.bool (Zz L [] i))):=by
  have:=h.marks
  simp only[<-Qh8] at this
  exact this
 have A:Hid ((prog.info? 301).map (·.size)=some ((List.range 16).map fun i=>Value.bool (Zz L [] i)).length):=by show _=_;rw[XN,List.length_range];exact size16
 have S:Hid ((prog.info? 301).map (·.size)=some ((List.range 16).map fun i=>Value.bool (Zz L [] i)).toArray.size):=by show _=_;rw[List.size_toArray,XN,List.length_range];exact size16
 have R:Hid (((List.range 16).map fun i=>Value.bool (Zz L [] i)).toArray.all (·.oneCell')=true):=Qjj _
 have U:Hid ((w.alloc (.cells #[.bool false,.bool false,.bool false,.bool false,.bool false,.bool false,.bool false,.bool false,.bool false,.bool false,.bool false,.bool false,.bool false,.bool false,.bool false,.bool false] 301)).there w.heap.size 0 ((List.range 16).map fun i=>Value.bool (Zz L [] i)).toArray.size):=by
  refine Qic w _ _ _ ?_;rw[List.size_toArray,XN,List.length_range]
  exact Ze
 have W1:Hid (((w.alloc (.cells #[.bool false,.bool false,.bool false,.bool false,.bool false,.bool false,.bool false,.bool false,.bool false,.bool false,.bool false,.bool false,.bool false,.bool false,.bool false,.bool false] 301)).setCells w.heap.size 0 ((List.range 16).map fun i=>Value.bool (Zz L [] i)).toArray.toList).rowIs w.heap.size 301 16 (fun i=>.bool (Zz L [] i))):=Qh2 _ Z
 have W:Hid (Below w.heap.size w ((w.alloc (.cells #[.bool false,.bool false,.bool false,.bool false,.bool false,.bool false,.bool false,.bool false,.bool false,.bool false,.bool false,.bool false,.bool false,.bool false,.bool false,.bool false] 301)).setCells w.heap.size 0 ((List.range 16).map fun i=>Value.bool (Zz L [] i)).toArray.toList)):=by
  have:=Qz.setCells (O:=fun k=>k=w.heap.size) (O':=fun k=>k=w.heap.size) (b:=w.heap.size) Z ((List.range 16).map fun i=>Value.bool (Zz L [] i)).toArray.toList 0 _ ((Qz.refl _ w).alloc (.cells #[.bool false,.bool false,.bool false,.bool false,.bool false,.bool false,.bool false,.bool false,.bool false,.bool false,.bool false,.bool false,.bool false,.bool false,.bool false,.bool false] 301))
  exact this.below Ze (fun k hk=>by omega)
 clear h hl hN;generalize ((List.range 16).map fun i=>Value.bool (Zz L [] i))=m at t A S R U W1 W;go_enter func286,ntmps286
 go_wp2_with (first | (refine wpList_load_mid Z 301 (.tmp 10) Z b 0 Z m _ t.out under16 Z A.out ?_) | (refine wpList_store_mid Z 301 (.tmp 5) (.tmp 11) Z w.heap.size 0 m.toArray Z Z U.out S.out R.out ?_))
 go_loopw [14] (fun u wr=>∃ k,u=Iv (k:Nat)/\k<=N/\wr.rowIs w.heap.size 301 16 (fun i=>.bool (Zz L (l.take k) i))/\Below w.heap.size w wr/\hPass L [] l=hPass L (l.take k) (l.drop k)) (fun u _=>N - (intOf u).toNat)
 case atStart=>exact⟨0,Z,Xb _,W1.out,W.out,Z⟩
 case round =>
  obtain⟨k,rfl,hk,T,hB,hp⟩:=hrel
  have D:Hid (wr.rowIs w.heap.size 301 16 (fun i=>.bool (Zz L (l.take k) i))):=T;have s:Hid (Below w.heap.size w wr):=hB;have J:Hid (hPass L [] l=hPass L (l.take k) (l.drop k)):=hp;clear T hB hp W1 W t A S R U;by_cases F:k<N
  ·have f:l[k]?=some (l[k]'(by rw[X.out];exact F)):=Zg _;generalize l[k]'(by rw[X.out];exact F)=x at f;obtain⟨g,o,rfl,hg,K⟩:=HX.out k x f
   have ae:wr.cell? ⟨g,o+k,none⟩=some (Iv x):=(s.out.cell (p:=⟨g,o+k,none⟩) hg).trans K;have G:(k:Int)<N:=by omega
   have n:=Qhx L l f;rw[<-J.out] at n
   have C:Hid (Calls prog 272 #[Pv b 0,Iv x] wr fun e w'=>e=.returned (.bool (hHas L x))/\w'=wr):=Qcz x (HH.out.below s.out)
   cases hh:hHas L x with
   | false =>
     rw[hh] at C n
     have E:Hid (hPass L [] l=10):=by show _=_;simpa using n
     clear n hh K f;go_wp2_with (go_at_call 272;refine(C.out).mono ?_;rintro e w' ⟨rfl,q⟩;have q:=q.symm;subst q)
     go_ret;exact⟨by rw[E.out];rfl,s.out⟩
   | true =>
     obtain⟨j,rfl,hj,P⟩:=Qa1 hh
     rw[hh] at C n
     have H:j<16:=by have:=HL.out;omega
     have ab:(j:Int)<16:=by omega
     have M:wr.cell? ⟨w.heap.size,j,none⟩=some (.bool (Zz L (l.take k) j)):=D.out.cell H;have fj:∀ i,wr.frozen? ⟨w.heap.size,i,none⟩=false:=D.out.frozen;have V:Zz L (l.take k) j=!inB (l.take k) (j:Int):=by rw[Zz,P,Bool.true_and]
     rw[V] at M
     cases y:inB (l.take k) (j:Int) with
     | true =>
       rw[y] at n M
       have E:Hid (hPass L [] l=13):=by show _=_;simpa using n
       clear n hh K f V y P;go_wp2_with (go_at_call 272;refine(C.out).mono ?_;rintro e w' ⟨rfl,q⟩;have q:=q.symm;subst q)
       go_ret;exact⟨by rw[E.out];rfl,s.out⟩
     | false =>
       rw[y] at n M
       have E:Hid (hPass L [] l=hPass L (l.take (k+1)) (l.drop (k+1))):=by show _=_;simpa using n
       have ET:l.take (k+1)=l.take k++[(j:Int)]:=by rw[XV,f];rfl
       have RN:Hid ((wr.setCell ⟨w.heap.size,j,none⟩ (.bool false)).rowIs w.heap.size 301 16 (fun i=>.bool (Zz L (l.take (k+1)) i))):=by
        refine(D.out.set j (.bool false)).congr fun i y=>?_
        rw[ET,QgR]
        by_cases e:i=j
        ·rw[Xs e,Xs e]
        ·rw[Xr e,Xr e]
       have BN:Hid (Below w.heap.size w (wr.setCell ⟨w.heap.size,j,none⟩ (.bool false))):=s.out.setCell (p:=⟨w.heap.size,j,none⟩) Ze _;clear n hh K f V y P ET D s J;go_wp2_with (go_at_call 272;refine(C.out).mono ?_;rintro e w' ⟨rfl,q⟩;have q:=q.symm;subst q)
       go_roundw
       case rel=>exact⟨k+1,by go_num,by omega,RN.out,BN.out,E.out⟩
       case measure=>simp[intOf];omega
  ·have G:¬ (k:Int)<N:=by omega
   have z:l.length<=k:=by rw[X.out];omega
   have B:=QhZ L l z;rw[<-J.out] at B
   have t:Hid (wr.rangeAt w.heap.size 0 ((List.range 16).map fun i=>Value.bool (Zz L (l.take k) i))):=QfA D.out;rw[XO z] at t
   have A:Hid ((prog.info? 301).map (·.size)=some ((List.range 16).map fun i=>Value.bool (Zz L l i)).length):=by show _=_;rw[XN,List.length_range];exact size16
   have v:∀ I,(Op.equalIn 10000 301 (.agg ((List.range 16).map fun i=>Value.bool (Zz L l i)).toArray) (.agg #[.bool false,.bool false,.bool false,.bool false,.bool false,.bool false,.bool false,.bool false,.bool false,.bool false,.bool false,.bool false,.bool false,.bool false,.bool false,.bool false])).run prog I=.ok ((Qal L).all (fun r=>inB l r)) I:=fun I=>by
    have:=Qb7 (d:=9998) under16 underB sizeB I ((List.range 16).map (Zz L l)) (List.replicate 16 false) (by simp) (by simp)
    rw[List.map_map] at this
    refine Eq.trans this ?_;congr 1
    rw[Bool.eq_iff_iff,beq_iff_eq]
    exact QgW HL.out
   generalize ((List.range 16).map fun i=>Value.bool (Zz L l i))=m at t A v;have ac:=eqGuard16;clear J D HX z
   cases hq:(Qal L).all (fun r=>inB l r) with
   | true =>
     rw[hq] at v B
     have E:Hid (hPass L [] l=0):=by show _=_;simpa using B
     clear B hq;go_wp2_with (refine wpList_load_mid Z 301 (.tmp 5) Z w.heap.size 0 Z m _ t.out under16 Z A.out ?_)
     go_ret;exact⟨by rw[E.out];rfl,s.out⟩
   | false =>
     rw[hq] at v B
     have E:Hid (hPass L [] l=12):=by show _=_;simpa using B
     clear B hq;go_wp2_with (refine wpList_load_mid Z 301 (.tmp 5) Z w.heap.size 0 Z m _ t.out under16 Z A.out ?_)
     go_ret;exact⟨by rw[E.out];rfl,s.out⟩
theorem QI {a:World}(h:Below B a w) (n:Nat):Below B a (w.drewN n):=⟨h.os,h.tape,h.output,h.size,h.block⟩
theorem Qa {p:Prop}(h:p):Hid p:=h
theorem QiK (h:intsL.In w Q l [.slice a N c])(hi:i<=l.length) (c':Nat):intsL.In w Q (l.take i) [.slice a i c']:=by
 obtain⟨g,d,e,f⟩:=h
 simp only[List.cons.injEq,Value.slice.injEq,and_true] at e
 obtain⟨rfl,_,rfl⟩:=e
 refine⟨a,c',by simp[Nat.min_eq_left hi],fun j x b=>f j x ?_⟩
 rw[XR] at b
 split at b
 ·exact b
 ·cases b
abbrev Qgt (x:MBlock 6) (b:BP):Array Value:=#[Iv x.regs,.slice b.pP x.params.length b.cP,.slice b.pC x.code.length b.cC,Iv x.fin.op,Iv x.fin.a,Iv x.fin.yes.block,.slice b.e.pYR x.fin.yes.regs.length b.e.cYR,.slice b.e.pYA x.fin.yes.args.length b.e.cYA,Iv x.fin.no.block,.slice b.e.pNR x.fin.no.regs.length b.e.cNR,.slice b.e.pNA x.fin.no.args.length b.e.cNA,.slice b.e.pA x.fin.args.length b.e.cA]
abbrev zeroB:Array Value:=#[Iv 0,Nv,Nv,Iv 0,Iv 0,Iv 0,Nv,Nv,Iv 0,Nv,Nv,Nv]
theorem Qmv (x:MBlock 6) (b:BP):(Qgt x b).all (·.oneCell')=true:=by
 show ([Iv x.regs,.slice b.pP x.params.length b.cP,.slice b.pC x.code.length b.cC,Iv x.fin.op,Iv x.fin.a,Iv x.fin.yes.block,.slice b.e.pYR x.fin.yes.regs.length b.e.cYR,.slice b.e.pYA x.fin.yes.args.length b.e.cYA,Iv x.fin.no.block,.slice b.e.pNR x.fin.no.regs.length b.e.cNR,.slice b.e.pNA x.fin.no.args.length b.e.cNA,.slice b.e.pA x.fin.args.length b.e.cA]:List Value).toArray.all (·.oneCell')=true;exact all_oneCell_toArray (Xe.1 Z)
theorem QkQ {c:Array Value}(h:Blk w R c 86) (a:c.size=12) (x:MBlock 6) (b:BP):w.there R 0 (Qgt x b).size:=h.there (by rw[a];exact Nat.le_of_eq Z)
theorem Qmp (h:Blk w R zeroB 86) (x:MBlock 6) (b:BP):Blk (w.setCells R 0 (Qgt x b).toList) R (Qgt x b) 86:=Blk.sets (Qgt x b).toList [] zeroB.toList w Z h
theorem QeN {B:Nat}{a:World}{R:Nat}(b:B<=R):∀ (vs:List Value) (o:Nat){w:World},Below B a w->Below B a (w.setCells R o vs)
 | [],_,_,h=>h
 | v::vs,o,w,h=>QeN b vs (o+1) (h.setCell (p:=⟨R,o,none⟩) b v)
theorem QfI {l l2:List Oper}{outs:List Tmp}{gs:List (Nat × Option Bool)}{a:Act}{Q:Exit->Act->World->Prop}
 (E:Tmp->Value->World->Prop) (W:World->Prop) (R:World->World->Prop) (PX:List PanicEntry->World->Prop) (D:∀ ch a' w,a'.defers=a.defers->PX ch w->Q (.panic ch) a' w)
 (u:P.follows .mixedOrders=true)  (H:a.tmps.size=m) (f:n<=m) (F:Qa0 l n outs gs bs=true)
 (p:(Qcs 0 (l++l2)&&(Qbr l.length l&&QaL (l++l2) l.length l2))=true)
 (x:∀ t v w w',R w w'->E t v w->E t v w') (y:ZJ E l.toArray gs) (d:W w.drew) (G:Qah E a w.drew outs)
 (B:AllOkC E W R PX P l bs)
 (b:∀ (vs:Tmp->Value) w',W w'->(∀ t,(Qt l).contains t=true->E t (vs t) w')->wpList P (l++l2).toArray Q l2 (QN a vs (Qt l)) w') :
 (Code.region id (l++l2).toArray true).wp P Q a w:=by
 simp only[Bool.and_eq_true] at p
 obtain⟨k,i,g⟩:=p
 refine wp_region_any u ?_
 have c:wpAny P .any l.toArray (Exit.then (fun a w=>wpList P (l++l2).toArray Q l2 a w) Q) l.length (Array.replicate l.length false) a w.drew:=by
  have C:(fun j=>(Array.replicate l.length false).getD j false)=fun _=>false:=by
   funext j
   rw[Za,Array.getElem?_replicate]
   split<;>rfl
  refine Qbl (E:=fun _=>E) (W:=fun _=>W) (PX:=PX) (Q:=Exit.then (fun a w=>wpList P (l++l2).toArray Q l2 a w) Q) (a0:=a) (outs:=outs) (gs:=gs) (bs:=bs) (fun ch a' w' r s=>D ch a' w' r s) (Qay (H ▸ f) F) (fun _=>y) (QgH x l bs 0 B) (fun vs S w' _ d K=>b vs w' d K) _ _ _ _ (by simp) ?_ ⟨d,(by rw[C];intro j o _ h;cases h),Z,Z,fun _ _=>rfl,fun t z _=>Qa9 outs G t z,?_⟩
  ·simp only[Array.toList_replicate]
   exact Zt (List.length_filter_le _ _) (by simp)
  ·intro j o t L N I;simp[Array.getD] at I
 have:=Qbs (Q:=Q) k i g l.length (Array.replicate l.length false) a w.drew (by simp) (fun q o M J=>by simp[Array.getD] at J) c
 have e:(Array.replicate l.length false++Array.replicate l2.length false:Array Bool)=Array.replicate (l++l2).toArray.size false:=by
  simp
 have A:l.length+l2.length=(l++l2).toArray.size:=by simp
 rw[e,A] at this
 exact this
theorem ZN {lo:List Oper}{outs:List Tmp}{gs:List (Nat × Option Bool)}{a:Act}{Q:Exit->Act->World->Prop}
 (k:Nat) (E:Tmp->Value->World->Prop) (W:World->Prop) (R:World->World->Prop) (PX:List PanicEntry->World->Prop) (e:∀ ch a' w,a'.defers=a.defers->PX ch w->Q (.panic ch) a' w)
 (j:P.follows .mixedOrders=true)  (d:a.tmps.size=m) (c:n<=m) (f:Qa0 (lo.take k) n outs gs bs=true)
 (i:(Qcs 0 lo&&(Qbr (lo.take k).length (lo.take k)&&QaL lo (lo.take k).length (lo.drop k)))=true)
 (o:∀ t v w w',R w w'->E t v w->E t v w') (p:ZJ E (lo.take k).toArray gs) (g:W w.drew) (r:Qah E a w.drew outs)
 (q:AllOkC E W R PX P (lo.take k) bs)
 (b:∀ ops (vs:Tmp->Value) w',W w'->(∀ t,(Qt (lo.take k)).contains t=true->E t (vs t) w')->wpList P ops Q (lo.drop k) (QN a vs (Qt (lo.take k))) w') :
 (Code.region id lo.toArray true).wp P Q a w:=by
 have h:=QfI (id:=id) (l:=lo.take k) (l2:=lo.drop k) (Q:=Q) E W R PX e j d c f (by rw[List.take_append_drop];exact i) o p g r q (b _);rwa [List.take_append_drop] at h
section
variable {w w' w2:World}{b most:Nat}{m:List (MFunc 6)}{M M' N:IM}{sc sa:Int}{g g1:MG}{e:Ending}
theorem iInfo64:∃ i,prog.info? 2=some i/\i.zero=some (Iv 0)/\i.size=1/\i.bytes=8:=by
 have h:(prog.info? 2).map (fun i=>(i.zero,i.size,i.bytes))=some (some (Iv 0),1,8):=by kernel_rfl
 cases e:prog.info? 2 with
 | none=>rw[e] at h;cases h
 | some i =>
   rw[e] at h
   simp only[Option.map_some,Option.some.injEq,Prod.mk.injEq] at h
   exact⟨i,Z,h.1,h.2.1,h.2.2⟩
theorem iUnder64:prog.underlying 25=some (.slice 2):=by kernel_rfl
end
theorem Qfr {l:List Oper}{S:Nat->Bool}(a:Qgv l S){i:Nat}{o:Oper}(c:l[q]?=some o) (d:QdX l 30 o i=true) (b:S i=false):S q=false:=by
 cases h:S q with
 | false=>rfl
 | true =>
   have:S i=true:=QcG (all:=l) (S:=fun j=>S j=true) a 30 o d (a q o c h)
   rw[b] at this;cases this
theorem Qnl {i:Nat}{S:Nat->Bool}(h:j≠i):Qcr i S j=S j:=by
 have:(j==i)=false:=by simpa using h
 unfold Qcr;rw[this,Bool.false_or]
theorem Qn0 {i:Nat}{S:Nat->Bool}:Qcr i S i=true:=by simp[Qcr]
def WY (w6:World) (HP:World->Prop) (hk:Nat) (S:Nat->Bool) (w:World):Prop:=(S hk=false/\Below w6.heap.size w6 w)\/(S hk=true/\HP w)
section
variable {Z:Nat}{w6 w w':World}{HP:World->Prop}{HZ:Nat->World->Prop}{hk st i:Nat}{S:Nat->Bool}{R:Q1->Prop}{v:Value}
theorem WY.pre (h:WY w6 HP hk S w) (a:S hk=false):Below w6.heap.size w6 w:=by
 rcases h with h | h
 ·exact h.2
 ·rw[a] at h;cases h.1
theorem WY.did (p:HP w'):WY w6 HP hk (Qcr hk S) w':=.inr ⟨Qn0,p⟩
theorem WY.fin (h:WY w6 HP hk S w) (a:S hk=true):HP w:=by
 rcases h with h | h
 ·rw[a] at h;cases h.1
 ·exact h.2
end
abbrev Zq (x:Qs) (i:IP):Array Value:=#[Iv x.op,Iv x.a,Iv x.b,Iv x.c,Iv x.k,Iv x.n,.slice i.pR x.regs.length i.cR,.slice i.pA x.args.length i.cA]
def TRd (w:World) (Q:Nat->Prop) (a:Option Addr) (L:List (TT 6)):Prop :=
 ∀ i t,L[i]?=some t->∃ g a' c',a=some ⟨g,0,none⟩/\w.cell? ⟨g,i*3,none⟩=some (Iv t.kind)/\w.cell? ⟨g,i*3+1,none⟩=some (Iv t.r)/\w.cell? ⟨g,i*3+2,none⟩=some (.slice a' t.len c')/\TIn w Q t a'/\t.ok
section
variable {w w':World}{O O':Nat->Prop}{v:Value}{L:List (TT 6)}
theorem TRd.below (h:TRd w Q a L) (b:Below w.heap.size w w'):TRd w' Q a L:=fun i t l=>by
 obtain⟨g,o,n,e,d,f,j,k,m⟩:=h i t l
 have c:g<w.heap.size:=Xi w ⟨g,i*3,none⟩ d;exact⟨g,o,n,e,(b.cell (p:=⟨g,i*3,none⟩) c).trans d,(b.cell (p:=⟨g,i*3+1,none⟩) c).trans f,(b.cell (p:=⟨g,i*3+2,none⟩) c).trans j,k.below b,m⟩
end
theorem underTs:prog.underlying 80=some (.slice 105):=by kernel_rfl
theorem infoT:(prog.info? 105).map (fun i=>(i.zero,i.size,i.bytes))=some (some (.agg #[Iv 0,Iv 0,Nv]),3,40):=by kernel_rfl
theorem infoT_parts:∃ i,prog.info? 105=some i/\i.zero=some (.agg #[Iv 0,Iv 0,Nv])/\i.size=3/\i.bytes=40:=by
 have h:=infoT
 cases hi:prog.info? 105 with
 | none=>rw[hi] at h;cases h
 | some i=>rw[hi] at h;simp at h;exact⟨i,Z,h.1,h.2.1,h.2.2⟩
structure Bx2 (w wr:World) (k r:Int) (a:Option Addr) (len c:Nat):Prop where
 bel:Below w.heap.size w wr
 box:wr.heap[w.heap.size]?=some (.cells #[Iv k,Iv r,.slice a len c] 105 (0,0))
 res:wr.heap[w.heap.size+1]?=some (.cells #[Iv 0,Iv 0,Nv] 105 (0,0))
theorem Bx2.start (w:World) (k r:Int) (a:Option Addr) (len c:Nat):Bx2 w ((w.alloc (.cells #[Iv k,Iv r,.slice a len c] 105)).alloc (.cells #[Iv 0,Iv 0,Nv] 105)) k r a len c :=
 ⟨((Below.refl _ w).alloc Ze _).alloc (by simp) _,(Below.heap_alloc _ _ _ (by simp)).trans (Qe w _ _),by have:=Qe (w.alloc (.cells #[Iv k,Iv r,.slice a len c] 105)) #[Iv 0,Iv 0,Nv] 105;simpa using this⟩
theorem Bx2.below {wr:World}{k r:Int}{len:Nat}(h:Bx2 w wr k r a len c) (b:Below wr.heap.size wr w'):Bx2 w w' k r a len c :=
 ⟨h.bel.trans (b.mono h.bel.size),QaV h.box b,QaV h.res b⟩
theorem Bx2.stored {wr:World}{k r:Int}{len:Nat}(h:Bx2 w wr k r a len c) (d r':Int) (a':Option Addr) (b c':Nat) :
 (((wr.setCell ⟨w.heap.size+1,0,none⟩ (Iv d)).setCell ⟨w.heap.size+1,1,none⟩ (Iv r')).setCell ⟨w.heap.size+1,2,none⟩ (.slice a' b c')).heap[w.heap.size+1]?=some (.cells #[Iv d,Iv r',.slice a' b c'] 105 (0,0)) /\
 Below w.heap.size w (((wr.setCell ⟨w.heap.size+1,0,none⟩ (Iv d)).setCell ⟨w.heap.size+1,1,none⟩ (Iv r')).setCell ⟨w.heap.size+1,2,none⟩ (.slice a' b c')):=by
 refine⟨?_,((h.bel.setCell (by simp) _).setCell (by simp) _).setCell (by simp) _⟩
 have g:=Qh h.res 0 (Iv d);have f:=Qh g 1 (Iv r');have e:=Qh f 2 (.slice a' b c');simpa using e
def Qll (w:World) (b:Option Addr) (m:Nat) (nm:Nat->Int):Prop:=∀ i,i<m->∃ g o,b=some ⟨g,o,none⟩/\w.cell? ⟨g,o+i,none⟩=some (Iv (nm i))
theorem Qll.below {b:Option Addr}{a:Nat->Int}(h:Qll w b m a) (k:Below w.heap.size w w'):Qll w' b m a:=fun i d=>by
 obtain⟨g,o,e,c⟩:=h i d
 exact⟨g,o,e,(k.cell (p:=⟨g,o+i,none⟩) (Xi w ⟨g,o+i,none⟩ c)).trans c⟩
def Qn9 (o:Option Int) (e:Ending):Prop:=match o with
 | some v=>e=.returned (.tuple #[.int .i64 v,.bool true])
 | none=>e=.returned (.tuple #[.int .i64 0,.bool false])
theorem QfU (k r:Int) (a:Option Addr) (len c:Nat) (b:Option Addr) (m d:Nat) (f:Nat->Int) (w:World) (i:Qll w b m f) :
 Calls prog 290 #[.agg #[Iv k,Iv r,.slice a len c],.slice b m d] w fun e w'=>Qn9 (ZK m f k r) e/\Below w.heap.size w w':=by
 have p:Hid (Qll w b m f):=i;clear i;by_cases h:k=1
 ·subst h;rw[show ZK m f 1 r=some r by simp[ZK]]
  go_enter func290,ntmps290
  go_wp2_with fail
  go_ret2;exact⟨Z,(Below.refl _ w).alloc Ze _⟩
 ·have u:(k==1)=false:=by simpa using h
  rcases (show r<0\/(0<=r/\(m:Int)<=r)\/(0<=r/\r<m) by omega) with n | ⟨n,s⟩|⟨n,s⟩
  ·rw[show ZK m f k r=none by unfold ZK;rw[Xr h,Xs (Or.inl n)]]
   clear h;go_enter func290,ntmps290
   go_wp2_with fail
   go_ret2;exact⟨Z,(Below.refl _ w).alloc Ze _⟩
  ·rw[show ZK m f k r=none by unfold ZK;rw[Xr h,Xs (Or.inr s)]]
   clear h;have t:¬ r<0:=by omega
   go_enter func290,ntmps290
   go_wp2_with fail
   go_ret2;exact⟨Z,(Below.refl _ w).alloc Ze _⟩
  ·obtain⟨j,rfl⟩:=Xc n
   obtain⟨g,o,rfl,q⟩:=p.out j (by omega)
   have y:g<w.heap.size:=Xi w ⟨g,o+j,none⟩ q;have t:¬ (j:Int)<0:=by omega
   have x:¬ (m:Int)<=j:=by omega
   by_cases l:f j<0
   ·rw[show ZK m f k j=none by unfold ZK;rw[Xr h,Xr (by omega),Xs (by simpa using l)]]
    clear h;generalize f j=v at q l;go_enter func290,ntmps290
    go_wp2_with fail
    go_ret2;exact⟨Z,(Below.refl _ w).alloc Ze _⟩
   ·rw[show ZK m f k j=some (f j) by unfold ZK;rw[Xr h,Xr (by omega),Xr (by simpa using l)];rfl]
    clear h;generalize f j=v at q l |-;go_enter func290,ntmps290
    go_wp2_with fail
    go_ret2;exact⟨Z,(Below.refl _ w).alloc Ze _⟩
structure Qcx (w:World) (G len:Nat){n:Nat}(l:List (TT n)):Prop where
 row:∃ cur,w.heap[G]?=some (.cells cur 105 (0,0))/\cur.size=len*3/\∀ (i:Nat) (x:TT n),l[i]?=some x->∃ a c,cur[i*3]?=some (Iv x.kind)/\cur[i*3+1]?=some (Iv x.r)/\cur[i*3+2]?=some (.slice a x.len c)/\TIn w (Qcv (G+1)) x a
theorem Qcx.below {len:Nat}{l:List (TT n)}(h:Qcx w G len l) (b:Below w.heap.size w w'):Qcx w' G len l:=by
 obtain⟨d,e,j,k⟩:=h.row
 refine⟨d,(b.block G (XC e)).trans e,j,fun i x g=>?_⟩
 obtain⟨a,c,m,f,p,o⟩:=k i x g
 exact⟨a,c,m,f,p,o.below b⟩
theorem Qcx.lt {len:Nat}{l:List (TT n)}(h:Qcx w G len l):G<w.heap.size:=by
 obtain⟨b,a,c,d⟩:=h.row
 exact XC a
theorem Qcx.frozen {len:Nat}{l:List (TT n)}(h:Qcx w G len l) (i:Nat):w.frozen? ⟨G,i,none⟩=false:=by
 obtain⟨b,a,c,d⟩:=h.row
 exact Qj a i
theorem Qcx.has {len:Nat}{l:List (TT n)}(h:Qcx w G len l) (i:Nat) (hi:i<len*3):∃ v,w.cell? ⟨G,i,none⟩=some v:=by
 obtain⟨a,b,c,d⟩:=h.row
 exact⟨a[i]'(by omega),Qb b i _ (Xj (by omega))⟩
theorem Qcx.lin {len:Nat}{l:List (TT n)}(h:Qcx w G len l):LIn w (Qcv G) l (some ⟨G,0,none⟩):=by
 obtain⟨m,b,p,f⟩:=h.row
 intro i x e;obtain⟨a,c,g,d,o,j⟩:=f i x e
 refine⟨G,0,a,c,Z,Ze,?_,?_,?_,j.mono (fun k q _=>by omega)⟩
 ·rw[XK];exact Qb b _ _ g
 ·rw[XK];exact Qb b _ _ d
 ·rw[XK];exact Qb b _ _ o
theorem Qcx.set {len:Nat}{l:List (TT n)}(h:Qcx w G len l) (v:l.length=q) (E:q<len){x:TT n}(k:TIn w (Qcv (G+1)) x a) :
 Qcx (((w.setCell ⟨G,q*3,none⟩ (Iv x.kind)).setCell ⟨G,q*3+1,none⟩ (Iv x.r)).setCell ⟨G,q*3+2,none⟩ (.slice a x.len c)) G len (l++[x]):=by
 obtain⟨B,o,p,s⟩:=h.row
 have u:=Qh o (q*3) (Iv x.kind);have m:=Qh u (q*3+1) (Iv x.r);have C:=Qh m (q*3+2) (.slice a x.len c)
 have e:∀ {y:TT n} {b:Option Addr},TIn w (Qcv (G+1)) y b->TIn (((w.setCell ⟨G,q*3,none⟩ (Iv x.kind)).setCell ⟨G,q*3+1,none⟩ (Iv x.r)).setCell ⟨G,q*3+2,none⟩ (.slice a x.len c)) (Qcv (G+1)) y b :=
  fun f=>((f.setCell (by simp) _).setCell (by simp) _).setCell (by simp) _
 refine⟨_,C,by simp[p],fun i y f=>?_⟩
 rw[List.getElem?_append] at f
 split at f
 ·rename_i t
  obtain⟨b,d,z,j,D,A⟩:=s i y f
  refine⟨b,d,?_,?_,?_,e A⟩
  ·simp only[Array.getElem?_setIfInBounds]
   rw[Xr (by omega),Xr (by omega),Xr (by omega)];exact z
  ·simp only[Array.getElem?_setIfInBounds]
   rw[Xr (by omega),Xr (by omega),Xr (by omega)];exact j
  ·simp only[Array.getElem?_setIfInBounds]
   rw[Xr (by omega),Xr (by omega),Xr (by omega)];exact D
 ·rename_i t
  have g:i=q:=by
   have:=(Zi f).1
   simp at this
   omega
  subst g;simp[v] at f
  subst f;refine⟨a,c,?_,?_,?_,e k⟩
  ·simp only[Array.getElem?_setIfInBounds,Array.size_setIfInBounds]
   rw[Xr (by omega),Xr (by omega),Xs Y,Xs (by omega)]
  ·simp only[Array.getElem?_setIfInBounds,Array.size_setIfInBounds]
   rw[Xr (by omega),Xs Y,Xs (by omega)]
  ·simp only[Array.getElem?_setIfInBounds,Array.size_setIfInBounds]
   rw[Xs Y,Xs (by omega)]
abbrev zeroT:Value:=.agg #[Iv 0,Iv 0,Nv]
def QgF {n:Nat}(w w':World) (o:Option (TT n)) (e:Ending):Prop:=match o with
 | some u=>∃ a' c',e=.returned (.tuple #[Tv u a' c',.bool true])/\TIn w' (Qcv w.heap.size) u a'/\Below w.heap.size w w'
 | none=>e=.returned (.tuple #[zeroT,.bool false])/\Below w.heap.size w w'
def Qmz (f n:Nat):Prop:=∀ (t:TT n) (a:Option Addr) (c:Nat) (b:Option Addr) (m d:Nat) (nm:Nat->Int) (w:World),TIn w All t a->t.count<=2000->Qll w b m nm ->
 Calls prog f #[Tv t a c,.slice b m d] w fun e w'=>QgF w w' (t.ren m nm) e
theorem QhQ (w:World) (len:Nat) (h:len<=2000):(Instr.makeSlice 80 (Iv len) (Iv len)).run prog w=.ok (.slice (some ⟨w.heap.size,0,none⟩) len len) (w.alloc (.cells (madeCells #[Iv 0,Iv 0,Nv] (len*3)) 105)):=by
 obtain⟨d,e,c,b,a⟩:=infoT_parts
 have:=run_make (P:=prog) w 80 105 d _ underTs e c .i64 .i64 len len (by omega) (by omega) (by rw[a];omega) (by omega)
 rw[b] at this
 exact this
structure RnX (w wr:World) (k r:Int) (a:Option Addr) (len c G:Nat){n:Nat}(l:List (TT n)):Prop where
 bx:Bx2 w wr k r a len c
 row:Qcx wr G len l
 hG:w.heap.size+1<G
section
variable {w wr w':World}{k r:Int}{a:Option Addr}{len c G n:Nat}{l:List (TT n)}
theorem RnX.start (h:Bx2 w wr k r a len c):RnX w (wr.alloc (.cells (madeCells #[Iv 0,Iv 0,Nv] (len*3)) 105)) k r a len c wr.heap.size ([]:List (TT n)) :=
 ⟨h.below ((Below.refl _ wr).alloc Ze _),⟨_,Qe wr _ _,size_madeCells _ _,fun i x b=>by simp at b⟩,XC h.res⟩
theorem RnX.below (h:RnX w wr k r a len c G l) (b:Below wr.heap.size wr w'):RnX w w' k r a len c G l:=⟨h.bx.below b,h.row.below b,h.hG⟩
theorem Bx2.setG (h:Bx2 w wr k r a len c) (b:w.heap.size+1<G) (i:Nat) (v:Value):Bx2 w (wr.setCell ⟨G,i,none⟩ v) k r a len c :=
 ⟨h.bel.setCell (by simp;omega) _,(Xd _ _ _ _ (by simp;omega)).trans h.box,(Xd _ _ _ _ (by simp;omega)).trans h.res⟩
theorem RnX.set (h:RnX w wr k r a len c G l)(e:l.length=q) (b:q<len){x:TT n}{a':Option Addr}{c':Nat}(d:TIn wr (Qcv (G+1)) x a') :
 RnX w (((wr.setCell ⟨G,q*3,none⟩ (Iv x.kind)).setCell ⟨G,q*3+1,none⟩ (Iv x.r)).setCell ⟨G,q*3+2,none⟩ (.slice a' x.len c')) k r a len c G (l++[x]) :=
 ⟨((h.bx.setG h.hG _ _).setG h.hG _ _).setG h.hG _ _,h.row.set e b d,h.hG⟩
end
theorem Qdv {a:Nat->Int}{n:Nat}{t:TT (n+1)}{r':Int}(d:ZK m a t.kind t.r=some r'){l':List (TT n)}(c:ZV (TT.ren m a) t.2.2=some l'):t.ren m a=some (mkT t.kind r' l'):=by
 show (match ZK m a t.1 t.2.1 with | none=>none | some r=>match ZV (TT.ren (n:=n) m a) t.2.2 with | none=>none | some l=>some ((t.1,r,l):Int × Int × List (TT n)))=_;have b:ZK m a t.1 t.2.1=some r':=d;rw[b,c]
 rfl
theorem Qe9 {a:Nat->Int}{n:Nat}{t:TT (n+1)}(c:ZK m a t.kind t.r=none):t.ren m a=none:=by
 show (match ZK m a t.1 t.2.1 with | none=>none | some r=>match ZV (TT.ren (n:=n) m a) t.2.2 with | none=>none | some l=>some ((t.1,r,l):Int × Int × List (TT n)))=_;have b:ZK m a t.1 t.2.1=none:=c;rw[b]
 rfl
theorem Qey {a:Nat->Int}{n:Nat}{t:TT (n+1)}(b:ZV (TT.ren m a) t.2.2=none):t.ren m a=none:=by
 show (match ZK m a t.1 t.2.1 with | none=>none | some r=>match ZV (TT.ren (n:=n) m a) t.2.2 with | none=>none | some l=>some ((t.1,r,l):Int × Int × List (TT n)))=_;rw[b]
 cases ZK m a t.1 t.2.1<;>rfl
theorem rename_any:∀ n,Qmz 285 n:=by
 intro n
 induction n with
 | zero=>intro t;exact Empty.elim t
 | succ n ih =>
   intro t a c b m d s w ht ah L;have IH:Hid (Qmz 285 n):=ih;have U:Hid (Qll w b m s):=L;have hT:Hid (LIn w All t.2.2 a):=ht.list;have ab:Hid (∀ x∈t.2.2,x.count<=2000):=fun x H=>by have:=t.count_kid H;omega
   have I:t.2.2.length<=2000:=by have:=t.len_lt_count;rw[t.len_eq] at this;omega
   have M:Hid (ZK m s t.kind t.r=none->t.ren m s=none):=Qe9;have P:Hid (ZV (TT.ren m s) t.2.2=none->t.ren m s=none):=Qey;have J:Hid (∀ B h,ZK m s t.kind t.r=some B->ZV (TT.ren m s) t.2.2=some h->t.ren m s=some (mkT t.kind B h)):=fun B h h1 h2=>Qdv h1 h2;generalize t.ren m s=S at M P J |-;simp only[Tv,TT.len_eq]
   generalize t.2.2=l at hT ab I P J |-;generalize t.kind=k at M J |-;generalize t.r=r at M J |-;clear ht ah L ih t;go_enter func285,ntmps285
   go_wp2_with fail
   have X1:Hid (Bx2 w ((w.alloc (.cells #[Iv k,Iv r,.slice a l.length c] 105)).alloc (.cells #[Iv 0,Iv 0,Nv] 105)) k r a l.length c):=Bx2.start w k r a l.length c;generalize (w.alloc (.cells #[Iv k,Iv r,.slice a l.length c] 105)).alloc (.cells #[Iv 0,Iv 0,Nv] 105)=w1 at X1 |-;refine(QfU k r a l.length c b m d s w1 (U.out.below X1.out.bel)).mono ?_
   rintro e K ⟨hr,b2⟩;have F:Hid (Bx2 w K k r a l.length c):=X1.out.below b2;clear X1 b2;have e2:K.cell? ⟨w.heap.size,2,none⟩=some (.slice a l.length c):=Qb F.out.box 2 _ Yz
   cases hrr:ZK m s k r with
   | none =>
     rw[hrr] at hr
     obtain rfl:e=_:=hr;have z:S=none:=M.out hrr;subst z;have D:=F.out.stored 0 0 none 0 0;have DD:Hid (Below w.heap.size w _):=D.2;have g0:=Qb F.out.res 0 _ Yz;have g1:=Qb F.out.res 1 _ Yz;have g2:=Qb F.out.res 2 _ Yz;have z0:=Qj F.out.res 0;have z1:=Qj F.out.res 1;have z2:=Qj F.out.res 2;have X:=Qb D.1 0 _ Yz;have W:=Qb D.1 1 _ Yz;have x2:=Qb D.1 2 _ Yz;clear D hrr M P J;go_wp2_with fail
     exact Xy (v:=.tuple #[zeroT,.bool false]) (by simp[results,results285,go_sem,X,W,x2]) Yz ⟨Yz,DD.out⟩
   | some B =>
     rw[hrr] at hr
     obtain rfl:e=_:=hr;have HR:Hid (ZK m s k r=some B):=hrr;clear hrr;have af:=QhQ K l.length I;have ag:w.heap.size<K.heap.size:=XC F.out.box;go_wp2_with fail
     have Y0:Hid (RnX w (K.alloc (.cells (madeCells #[Iv 0,Iv 0,Nv] (l.length*3)) 105)) k r a l.length c K.heap.size ([]:List (TT n))):=RnX.start F.out;generalize K.alloc (.cells (madeCells #[Iv 0,Iv 0,Nv] (l.length*3)) 105)=w3 at Y0 |-;generalize K.heap.size=G at Y0 |-;clear af e2 F ag;go_loopw [27] (fun i wr=>∃ q:Nat,q<=l.length/\i=Iv q/\∃ h:List (TT n),h.length=q/\(∀ (j:Nat) x,j<q->l[j]?=some x->x.ren m s=h[j]?)/\RnX w wr k r a l.length c G h) (fun i _=>l.length - (intOf i).toNat)
     case atStart=>exact⟨0,Xb _,Yz,[],Yz,fun j x hj=>by omega,Y0.out⟩
     case round =>
      clear Y0;obtain⟨q,hq,rfl,h,ac,N,hY⟩:=hrel
      have A:Hid (h.length=q/\∀ (j:Nat) x,j<q->l[j]?=some x->x.ren m s=h[j]?):=⟨ac,N⟩;have Y:Hid (RnX w wr k r a l.length c G h):=hY;clear ac N hY;by_cases aa:q<l.length
      ·have H:l[q]?=some l[q]:=Zg aa;generalize l[q]=x at H;obtain⟨g,o,a',c',rfl,_,d0,d1,d2,hk⟩:=LIn.at (hT.out.below Y.out.bx.bel) H
       have hg:g<wr.heap.size:=Xi wr ⟨g,o+q*3,none⟩ d0;have R:Hid (l[q]?=some x):=H
       have C:Hid (∀ wx,Below wr.heap.size wr wx->Calls prog 285 #[Tv x a' c',.slice b m d] wx fun e w'=>QgF wx w' (x.ren m s) e) :=
        fun wx hb=>IH.out x a' c' b m d s wx (hk.below hb) (ab.out x (Zm H)) ((U.out.below Y.out.bx.bel).below hb)
       clear hk H;simp only[Tv] at C
       generalize x.kind=kx at C d0;generalize x.r=rx at C d1;generalize x.len=lx at C d2;have al:(0:Int)<=q:=by omega
       have ad:(q:Int)<l.length:=by omega
       have aj:(q:Int)<2000:=by omega
       go_wp2_with fail
       have T:Below wr.heap.size wr (wr.alloc (.cells #[Iv kx,Iv rx,.slice a' lx c'] 105)):=(Below.refl _ wr).alloc Ze _;refine(C.out _ T).mono ?_
       rintro e w4 h4;clear C d0 d1 d2
       cases hxr:x.ren m s with
       | none =>
         rw[hxr] at h4
         obtain⟨rfl,V⟩:=h4
         have z:S=none:=P.out (Qe6 R.out hxr);subst z;have f:=(Y.out.below T).below V;have Q:q*3+2<l.length*3:=by omega
         obtain⟨v0,r0⟩:=f.row.has (q*3) (by omega)
         obtain⟨v1,r1⟩:=f.row.has (q*3+1) (by omega)
         obtain⟨v2,r2⟩:=f.row.has (q*3+2) (by omega)
         have z0:=f.row.frozen (q*3);have z1:=f.row.frozen (q*3+1);have z2:=f.row.frozen (q*3+2);have X5:=((f.bx.setG f.hG (q*3) (Iv 0)).setG f.hG (q*3+1) (Iv 0)).setG f.hG (q*3+2) (Nv);have D:=X5.stored 0 0 none 0 0;have DD:Hid (Below w.heap.size w _):=D.2;have g0:=Qb f.bx.res 0 _ Yz;have g1:=Qb f.bx.res 1 _ Yz;have g2:=Qb f.bx.res 2 _ Yz;have y0:=Qj f.bx.res 0;have y1:=Qj f.bx.res 1;have y2:=Qj f.bx.res 2;have X:=Qb D.1 0 _ Yz;have W:=Qb D.1 1 _ Yz;have x2:=Qb D.1 2 _ Yz;have am:¬ w.heap.size+1=G:=by have:=f.hG;omega
         have ai:¬ G=w.heap.size+1:=by have:=f.hG;omega
         clear D X5 f V T hxr A Y M P J Q;go_wp2_with fail
         exact Xy (v:=.tuple #[zeroT,.bool false]) (by simp[results,results285,go_sem,X,W,x2]) Yz ⟨Yz,DD.out⟩
       | some u =>
         rw[hxr] at h4
         obtain⟨a4,c4,rfl,t4,V⟩:=h4
         simp only[Tv]
         have f:=(Y.out.below T).below V;have Q:q*3+2<l.length*3:=by omega
         obtain⟨v0,r0⟩:=f.row.has (q*3) (by omega)
         obtain⟨v1,r1⟩:=f.row.has (q*3+1) (by omega)
         obtain⟨v2,r2⟩:=f.row.has (q*3+2) (by omega)
         have z0:=f.row.frozen (q*3);have z1:=f.row.frozen (q*3+1);have z2:=f.row.frozen (q*3+2);have ae:=Y.out.row.lt;have Y5:=f.set A.out.1 aa (x:=u) (a':=a4) (c':=c4) (t4.mono (fun k hk _=>by have:=T.size;simp at hk;omega))
         have Z:Hid (∃ h:List (TT n),h.length=q+1/\(∀ (j:Nat) x,j<q+1->l[j]?=some x->x.ren m s=h[j]?)/\RnX w (((w4.setCell ⟨G,q*3,none⟩ (Iv u.kind)).setCell ⟨G,q*3+1,none⟩ (Iv u.r)).setCell ⟨G,q*3+2,none⟩ (.slice a4 u.len c4)) k r (some ⟨g,o,none⟩) l.length c G h):=by
          refine⟨h++[u],by simp[A.out.1],fun j y hj hy=>?_,Y5⟩
          by_cases e:j=q
          ·subst e;rw[R.out] at hy
           cases hy
           rw[hxr,XQ (by have:=A.out.1;omega),A.out.1,Nat.sub_self]
           rfl
          ·rw[XP (by have:=A.out.1;omega)]
           exact A.out.2 j y (by omega) hy
         clear Y5 f V T hxr A Y M P Q t4 R ae;generalize u.kind=ku at Z |-;generalize u.r=ru at Z |-;generalize u.len=lu at Z |-;go_wp2
         go_roundw
         case rel=>exact⟨q+1,by omega,by go_num,Z.out⟩
         case measure=>simp[intOf];omega
      ·have ad:¬ (q:Int)<l.length:=by omega
       have E:h.length=l.length:=by have:=A.out.1;omega
       have z:S=some (mkT k B h):=J.out B h HR.out (ZU.2 ⟨E,fun i x H=>A.out.2 i x (by have:=(Zi H).1;omega) H⟩);subst z;have e0:wr.cell? ⟨w.heap.size,0,none⟩=some (Iv k):=Qb Y.out.bx.box 0 _ Yz;have g0:=Qb Y.out.bx.res 0 _ Yz;have g1:=Qb Y.out.bx.res 1 _ Yz;have g2:=Qb Y.out.bx.res 2 _ Yz;have y0:=Qj Y.out.bx.res 0;have y1:=Qj Y.out.bx.res 1;have y2:=Qj Y.out.bx.res 2;have D:=Y.out.bx.stored k B (some ⟨G,0,none⟩) l.length l.length;have X:=Qb D.1 0 _ Yz;have W:=Qb D.1 1 _ Yz;have x2:=Qb D.1 2 _ Yz;have ak:=Y.out.hG
       have O:Hid (QgF w (((wr.setCell ⟨w.heap.size+1,0,none⟩ (Iv k)).setCell ⟨w.heap.size+1,1,none⟩ (Iv B)).setCell ⟨w.heap.size+1,2,none⟩ (.slice (some ⟨G,0,none⟩) l.length l.length)) (some (mkT k B h)) (.returned (.tuple #[.agg #[Iv k,Iv B,.slice (some ⟨G,0,none⟩) l.length l.length],.bool true]))):=by
        refine⟨some ⟨G,0,none⟩,l.length,?_,?_,D.2⟩
        ·show _=Ending.returned (.tuple #[.agg #[Iv k,Iv B,.slice (some ⟨G,0,none⟩) h.length l.length],.bool true]);rw[E]
        ·have:=((Y.out.row.lin.setCell (p:=⟨w.heap.size+1,0,none⟩) (by simp;omega) (Iv k)).setCell (p:=⟨w.heap.size+1,1,none⟩) (by simp;omega) (Iv B)).setCell (p:=⟨w.heap.size+1,2,none⟩) (by simp;omega) (.slice (some ⟨G,0,none⟩) l.length l.length)
         exact(LIn.tree this).mono (fun k hk _=>by omega)
       clear D A Y M P J E;go_wp2_with fail
       exact Xy (v:=.tuple #[.agg #[Iv k,Iv B,.slice (some ⟨G,0,none⟩) l.length l.length],.bool true]) (by simp[results,results285,go_sem,X,W,x2]) Yz O.out
def ZL (e:Ending) (A:Prop):Prop:=∃ q:Bool,e=.returned (.bool q)/\(q=true↔A)
theorem ZL.yes {A:Prop}(h:A):ZL (.returned (.bool true)) A:=⟨true,Z,by simp[h]⟩
theorem ZL.no {A:Prop}(h:¬ A):ZL (.returned (.bool false)) A:=⟨false,Z,by simp[h]⟩
def Qh1 (f:Nat) (n:Nat):Prop:=∀ (t u:TT n) (a b:Option Addr) (c d:Nat) (w:World),TIn w All t a->TIn w All u b->t.count<=100000 ->
 Calls prog f #[Tv t a c,Tv u b d] w fun e w'=>ZL e (t=u)/\Below w.heap.size w w'
theorem TT.eq_iff {t u:TT (n+1)}:t=u↔t.kind=u.kind/\t.r=u.r/\t.2.2=u.2.2:=by
 obtain⟨a,b,c⟩:=t
 obtain⟨d,e,f⟩:=u
 constructor
 ·intro h;cases h;exact⟨Z,Z,Z⟩
 ·rintro ⟨rfl,rfl,rfl⟩;rfl
abbrev toV (x:MTo) (rg ag:Option Addr) (rc ac:Nat):Value:=.agg #[Iv x.block,.slice rg x.regs.length rc,.slice ag x.args.length ac]
theorem underBk:∃ fs,prog.underlying 86=some (.struct fs):=⟨_,underlying86⟩
theorem sizeBk:(prog.info? 86).map (·.size)=some 12:=by kernel_rfl
theorem Qbp {m:List (MBlock 6)}(h:(Zp 6).list.In w Q m [.slice p n c]){g:MBlock 6}(q:m[k]?=some g) :
 ∃ mg mo a1 c1 es,p=some ⟨mg,mo,none⟩/\w.rangeAt mg (mo+k*12) (Iv g.regs::.slice a1 g.params.length c1::es)/\es.length=10/\(Qo 6).In w Q g.params [.slice a1 g.params.length c1]/\∀ v∈es,v.oneCell'=true:=by
 obtain⟨mg,mo,N,t,V,T,f,C⟩:=Yf h q
 obtain⟨a1,c1,P,W,es,rfl,o,H,r,J⟩:=Qce C
 obtain⟨U,O,R,ce,rfl,D,u,F,h6⟩:=Qgy r
 obtain⟨K,G,u3,X,rfl,-,-,-⟩:=QfW D
 obtain⟨M,L,S,I,rfl,-,-,-⟩:=QfW u
 have d:∀ a,a.length=12->(∀ v∈a,v.oneCell'=true)->(∀ j,j<12->w.cell? ⟨mg,mo+k*12+j,none⟩=a[j]?)->∀ x y es,a=x::y::es->w.rangeAt mg (mo+k*12) (x::y::es)/\es.length=10/\∀ v∈es,v.oneCell'=true:=by
  intro a E B f x y es e;subst e;refine⟨fun j v i=>?_,by simpa using E,fun v b=>B v (by simp[b])⟩
  have l:=(Zi i).1;rw[f j (by omega),i]
 obtain⟨A,z,s⟩:=d _ Z (fun v b=>by
  simp only[List.mem_cons,List.cons_append,List.nil_append,List.not_mem_nil,or_false] at b
  rcases b with rfl | rfl | rfl | rfl | rfl | rfl | rfl | rfl | rfl | rfl | rfl | rfl<;>rfl) f _ _ _ Z
 exact⟨mg,mo,a1,c1,_,t,A,z,o,s⟩
theorem Qad {o:Nat}(h:w.rangeAt b o cs) (k:Below w.heap.size w w'):w'.rangeAt b o cs:=fun j v a=>Qk (h j v a) k
theorem Qf {p:Prop}(h:p):Hid p:=h
structure FbS (w wx:World) (R:Nat) (l:List (Nat × Array Value × TypeId)):Prop where
 bel:Below w.heap.size w wx
 ge:w.heap.size<=R
 r:Blk wx R #[Iv 0,Iv 0] 32
 box:∀ (i:Nat) b,l[i]?=some b->Blk wx b.1 b.2.1 b.2.2
section
variable {w wx w':World}{R:Nat}{l:List (Nat × Array Value × TypeId)}
theorem FbS.below (h:FbS w wx R l) (k:Below wx.heap.size wx w'):FbS w w' R l :=
 ⟨h.bel.trans (k.mono h.bel.size),h.ge,h.r.below k,fun i b a=>(h.box i b a).below k⟩
theorem FbS.add (h:FbS w wx R l){c:Array Value}(d:Blk wx B c t):FbS w wx R ((B,c,t)::l) :=
 ⟨h.bel,h.ge,h.r,fun i b a=>by
  cases i with
  | zero=>cases a;exact d
  | succ i=>exact h.box i b a⟩
theorem FbS.new (h:FbS w wx R l) (c:Array Value) (t:TypeId):FbS w (wx.alloc (.cells c t)) R ((wx.heap.size,c,t)::l):=(h.below (Zd _ _)).add (Blk.new _ _ _)
theorem FbS.cells (h:FbS w wx R l):wx.cell? ⟨R,0,none⟩=some (Iv 0)/\wx.cell? ⟨R,1,none⟩=some (Iv 0)/\wx.frozen? ⟨R,0,none⟩=false/\wx.frozen? ⟨R,1,none⟩=false :=
 ⟨Qb h.r 0 _ Z,Qb h.r 1 _ Z,Qj h.r 0,Qj h.r 1⟩
theorem FbS.fin (h:FbS w wx R l) (c a:Int):Blk ((wx.setCell ⟨R,0,none⟩ (Iv c)).setCell ⟨R,1,none⟩ (Iv a)) R #[Iv c,Iv a] 32/\Below w.heap.size w ((wx.setCell ⟨R,0,none⟩ (Iv c)).setCell ⟨R,1,none⟩ (Iv a)) :=
 ⟨by have:=Qh (Qh h.r 0 (Iv c)) 1 (Iv a);simpa using this,(h.bel.setCell (p:=⟨R,0,none⟩) h.ge _).setCell (p:=⟨R,1,none⟩) h.ge _⟩
structure Qm6 (wx:World) (cs:List Value):Prop where
 size:(prog.info? 86).map (·.size)=some cs.length
 size2:(prog.info? 86).map (·.size)=some cs.toArray.size
 there:(wx.alloc (.cells #[Iv 0,Nv,Nv,Iv 0,Iv 0,Iv 0,Nv,Nv,Iv 0,Nv,Nv,Nv] 86)).there wx.heap.size 0 cs.toArray.size
 blk:Blk ((wx.alloc (.cells #[Iv 0,Nv,Nv,Iv 0,Iv 0,Iv 0,Nv,Nv,Iv 0,Nv,Nv,Nv] 86)).setCells wx.heap.size 0 cs) wx.heap.size cs.toArray 86
 bel:Below wx.heap.size wx ((wx.alloc (.cells #[Iv 0,Nv,Nv,Iv 0,Iv 0,Iv 0,Nv,Nv,Iv 0,Nv,Nv,Nv] 86)).setCells wx.heap.size 0 cs)
theorem Qm6.of (a:World)(c:cs.length=12):Qm6 a cs:=by
 have d:=Qe a #[Iv 0,Nv,Nv,Iv 0,Iv 0,Iv 0,Nv,Nv,Iv 0,Nv,Nv,Nv] 86;refine⟨by rw[c];exact pSizeB,by rw[List.size_toArray,c];exact pSizeB,fun j hj=>?_,?_,?_⟩
 ·rw[List.size_toArray,c] at hj
  rw[XK]
  refine⟨?_,Qj d j⟩
  rw[Qb d j ((#[Iv 0,Nv,Nv,Iv 0,Iv 0,Iv 0,Nv,Nv,Iv 0,Nv,Nv,Nv]:Array Value)[j]'hj) (by simp)];rfl
 ·have e:Blk (a.alloc (.cells #[Iv 0,Nv,Nv,Iv 0,Iv 0,Iv 0,Nv,Nv,Iv 0,Nv,Nv,Nv] 86)) a.heap.size ([]++(#[Iv 0,Nv,Nv,Iv 0,Iv 0,Iv 0,Nv,Nv,Iv 0,Nv,Nv,Nv]:Array Value).toList).toArray 86:=d;exact Blk.sets cs [] (#[Iv 0,Nv,Nv,Iv 0,Iv 0,Iv 0,Nv,Nv,Iv 0,Nv,Nv,Nv]:Array Value).toList _ (by rw[c];rfl) e
 ·have:=Qz.setCells (O:=fun k=>k=a.heap.size) (O':=fun k=>k=a.heap.size) (b:=a.heap.size) Z cs 0 _ (Qz.refl _ (a.alloc (.cells #[Iv 0,Nv,Nv,Iv 0,Iv 0,Iv 0,Nv,Nv,Iv 0,Nv,Nv,Nv] 86)))
  exact(Zd a _).trans (this.below (by simp) (fun k f=>by omega))
end
theorem underEnd:∃ fs,prog.underlying 84=some (.struct fs):=⟨_,underlying84⟩
theorem sizeEnd:(prog.info? 84).map (·.size)=some 9:=by kernel_rfl
abbrev QbV (x:ZC) (e:EP):Array Value:=#[Iv x.op,Iv x.a,Iv x.yes.block,.slice e.pYR x.yes.regs.length e.cYR,.slice e.pYA x.yes.args.length e.cYA,Iv x.no.block,.slice e.pNR x.no.regs.length e.cNR,.slice e.pNA x.no.args.length e.cNA,.slice e.pA x.args.length e.cA]
structure Qdt (w:World) (Q:Nat->Prop) (x:ZC) (e:EP):Prop where
 yr:intsL.In w Q x.yes.regs [.slice e.pYR x.yes.regs.length e.cYR]
 ya:intsL.In w Q x.yes.args [.slice e.pYA x.yes.args.length e.cYA]
 nr:intsL.In w Q x.no.regs [.slice e.pNR x.no.regs.length e.cNR]
 na:intsL.In w Q x.no.args [.slice e.pNA x.no.args.length e.cNA]
 ar:intsL.In w Q x.args [.slice e.pA x.args.length e.cA]
theorem Qdt.below {x:ZC}{e:EP}(h:Qdt w Q x e) (k:Below w.heap.size w w'):Qdt w' Q x e :=
 ⟨Ya h.yr k,Ya h.ya k,Ya h.nr k,Ya h.na k,Ya h.ar k⟩
theorem QaG {a:Nat}{t:MTo}(h:t.form a true=0):(0<=t.block/\t.block<a)/\t.regs.length<=16/\t.args.length<=8:=by
 unfold MTo.form at h;rw[Xr (by simp)] at h
 split at h
 ·cases h
 split at h
 ·cases h
 omega
theorem Xt:type_of% @decide_eq_true:=@decide_eq_true
section
variable {w w' w2:World}{b most n:Nat}{m:List (MFunc 6)}{M M' N:IM}{sc sa:Int}{g g1:MG}{e:Ending}
theorem Qei {a:Nat}{t:MTo}(h:t.form a true=0):0<=t.block/\t.block<(a:Int)/\t.regs.length<=16/\t.args.length<=8:=by
 unfold MTo.form at h;rw[Xr (by simp)] at h
 split at h
 ·cases h
 ·split at h
  ·cases h
  ·omega
theorem Qfo {a:Nat}{x:ZC}(h:x.form a=0):(1<=x.op/\x.op<=3)/\x.args.length<=8/\(x.op≠3->x.yes.form a true=0)/\(x.op=2->x.no.form a true=0):=by
 unfold ZC.form at h;split at h
 ·cases h
 rename_i d
 split at h
 ·cases h
 split at h
 ·cases h
 rename_i c
 split at h
 ·rename_i b;exact absurd h b
 rename_i b
 refine⟨by omega,by omega,fun e=>?_,fun e=>?_⟩
 ·have:decide (x.op≠3)=true:=Xt e
  rw[this] at b
  exact Xq.1 b
 ·have:decide (x.op=2)=true:=Xt e
  rw[this] at h
  exact h
end
def tru (p:Bool):Int:=if p then 1 else 0
theorem QnU (a b:Int) (w:World):Calls prog 136 #[Iv 1,Iv a,Iv b] w fun e w'=>e=.returned (.tuple #[Iv (wrap64 (a+b)),.bool true])/\w'=w:=by
 go_enter func136,ntmps136
 go_wp2
 go_ret2;exact⟨Z,Z⟩
theorem Qog (a b:Int) (w:World):Calls prog 136 #[Iv 2,Iv a,Iv b] w fun e w'=>e=.returned (.tuple #[Iv (wrap64 (a - b)),.bool true])/\w'=w:=by
 go_enter func136,ntmps136
 go_wp2
 go_ret2;exact⟨Z,Z⟩
theorem Qn6 (a b:Int) (w:World):Calls prog 136 #[Iv 3,Iv a,Iv b] w fun e w'=>e=.returned (.tuple #[Iv (wrap64 (a*b)),.bool true])/\w'=w:=by
 go_enter func136,ntmps136
 go_wp2
 go_ret2;exact⟨Z,Z⟩
theorem QnT (a b:Int) (w:World) (d:(b==0)=false) (c:¬ b=0):Calls prog 136 #[Iv 4,Iv a,Iv b] w fun e w'=>e=.returned (.tuple #[Iv (wrap64 (a.tdiv b)),.bool true])/\w'=w:=by
 go_enter func136,ntmps136
 go_wp2
 go_ret2;exact⟨Z,Z⟩
theorem Qnv (a:Int) (w:World):Calls prog 136 #[Iv 4,Iv a,Iv 0] w fun e w'=>e=.returned (.tuple #[Iv 0,.bool false])/\w'=w:=by
 go_enter func136,ntmps136
 go_wp2
 go_ret2;exact⟨Z,Z⟩
theorem Qoi (a b:Int) (w:World) (d:(b==0)=false) (c:¬ b=0):Calls prog 136 #[Iv 5,Iv a,Iv b] w fun e w'=>e=.returned (.tuple #[Iv (a.tmod b),.bool true])/\w'=w:=by
 go_enter func136,ntmps136
 go_wp2
 go_ret2;exact⟨Z,Z⟩
theorem Qns (a:Int) (w:World):Calls prog 136 #[Iv 5,Iv a,Iv 0] w fun e w'=>e=.returned (.tuple #[Iv 0,.bool false])/\w'=w:=by
 go_enter func136,ntmps136
 go_wp2
 go_ret2;exact⟨Z,Z⟩
theorem Qoc (a b:Int) (w:World):Calls prog 136 #[Iv 6,Iv a,Iv b] w fun e w'=>e=.returned (.tuple #[Iv (tru (decide (a<b))),.bool true])/\w'=w:=by
 by_cases h:a<b
 ·have c:tru (decide (a<b))=1:=by simp[tru,h]
  rw[c]
  go_enter func136,ntmps136
  go_wp2
  go_ret2;exact⟨Z,Z⟩
 ·have c:tru (decide (a<b))=0:=by simp[tru,h]
  rw[c]
  go_enter func136,ntmps136
  go_wp2
  go_ret2;exact⟨Z,Z⟩
theorem Qoe (a b:Int) (w:World):Calls prog 136 #[Iv 7,Iv a,Iv b] w fun e w'=>e=.returned (.tuple #[Iv (tru (a==b)),.bool true])/\w'=w:=by
 cases h:(a==b)
 ·go_enter func136,ntmps136
  go_wp2
  go_ret2;exact⟨Z,Z⟩
 ·go_enter func136,ntmps136
  go_wp2
  go_ret2;exact⟨Z,Z⟩
theorem Qom (a b:Int) (w:World):Calls prog 136 #[Iv 8,Iv a,Iv b] w fun e w'=>e=.returned (.tuple #[Iv (bits .and .i64 a b),.bool true])/\w'=w:=by
 go_enter func136,ntmps136
 go_wp2
 go_ret2;exact⟨Z,Z⟩
theorem Qof (a b:Int) (w:World):Calls prog 136 #[Iv 9,Iv a,Iv b] w fun e w'=>e=.returned (.tuple #[Iv (bits .xor .i64 a b),.bool true])/\w'=w:=by
 go_enter func136,ntmps136
 go_wp2
 go_ret2;exact⟨Z,Z⟩
theorem Qol (k a b:Int) (w:World) (c:k<1\/9<k):Calls prog 136 #[Iv k,Iv a,Iv b] w fun e w'=>e=.returned (.tuple #[Iv 0,.bool false])/\w'=w:=by
 rcases c with c | c
 ·go_enter func136,ntmps136
  go_wp2
  go_ret2;exact⟨Z,Z⟩
 ·go_enter func136,ntmps136
  go_wp2
  go_ret2;exact⟨Z,Z⟩
def aOp (k a b:Int):Option Int :=
 if k=1 then some (wrap64 (a+b)) else if k=2 then some (wrap64 (a - b)) else if k=3 then some (wrap64 (a*b))
 else if k=4 then (if b=0 then none else some (wrap64 (a.tdiv b))) else if k=5 then (if b=0 then none else some (a.tmod b))
 else if k=6 then some (tru (decide (a<b))) else if k=7 then some (tru (a==b)) else if k=8 then some (bits .and .i64 a b) else if k=9 then some (bits .xor .i64 a b) else none
theorem QlC (k a b:Int) (w:World):Calls prog 136 #[Iv k,Iv a,Iv b] w fun e w'=>e=.returned (.tuple #[Iv ((aOp k a b).getD 0),.bool (aOp k a b).isSome])/\w'=w:=by
 by_cases h:k=1
 ·subst h;exact QnU a b w
 by_cases i:k=2
 ·subst i;exact Qog a b w
 by_cases j:k=3
 ·subst j;exact Qn6 a b w
 by_cases m:k=4
 ·subst m;by_cases c:b=0
  ·subst c;exact Qnv a w
  ·have:aOp 4 a b=some (wrap64 (a.tdiv b)):=by simp[aOp,c]
   rw[this];exact QnT a b w (by simpa using c) c
 by_cases d:k=5
 ·subst d;by_cases c:b=0
  ·subst c;exact Qns a w
  ·have:aOp 5 a b=some (a.tmod b):=by simp[aOp,c]
   rw[this];exact Qoi a b w (by simpa using c) c
 by_cases g:k=6
 ·subst g;exact Qoc a b w
 by_cases f:k=7
 ·subst f;exact Qoe a b w
 by_cases n:k=8
 ·subst n;exact Qom a b w
 by_cases l:k=9
 ·subst l;exact Qof a b w
 ·have:aOp k a b=none:=by simp[aOp,h,i,j,m,d,g,f,n,l]
  rw[this];exact Qol k a b w (by omega)
theorem Q6 {x:Qs}{d:IP}(h:Blk w1 X (Zq x d) t):w1.cell? ⟨X,0,none⟩=some (Iv x.op)/\w1.cell? ⟨X,1,none⟩=some (Iv x.a)/\w1.cell? ⟨X,2,none⟩=some (Iv x.b)/\w1.cell? ⟨X,3,none⟩=some (Iv x.c)/\w1.cell? ⟨X,4,none⟩=some (Iv x.k)/\w1.cell? ⟨X,5,none⟩=some (Iv x.n)/\w1.cell? ⟨X,6,none⟩=some (.slice d.pR x.regs.length d.cR)/\w1.cell? ⟨X,7,none⟩=some (.slice d.pA x.args.length d.cA) :=
 ⟨Qb h 0 _ Z,Qb h 1 _ Z,Qb h 2 _ Z,Qb h 3 _ Z,Qb h 4 _ Z,Qb h 5 _ Z,Qb h 6 _ Z,Qb h 7 _ Z⟩
section
variable {m:List (MFunc 6)}{n n':Nat}{M M':IM}{x:Qs}{fn:MFunc 6}{bl:MBlock 6}{op:Int->Int->Int->Option Int}
theorem Qdf (h:x.form funcs=0):(1<=x.op/\x.op<=14)/\(x.op=5->x.args.length<=8)/\(x.op=14->0<=x.k/\x.k<(funcs:Int)/\x.regs.length<=6/\x.args.length<=8):=by
 unfold Qs.form at h;split at h
 ·cases h
 rename_i a
 split at h
 ·cases h
 split at h
 ·cases h
 split at h
 ·cases h
 rename_i d
 split at h
 ·cases h
 split at h
 ·cases h
 rename_i c
 split at h
 ·cases h
 rename_i b
 refine⟨?_,fun e=>by omega,fun e=>by omega⟩
 unfold Q5 at a;by_cases e:1<=x.op/\x.op<=14
 ·exact e
 ·exfalso
  apply a
  repeat' rw[Xr (by omega)]
  rfl
end
end Go.Proofs.YtjhdpajpibdnaafGreat
