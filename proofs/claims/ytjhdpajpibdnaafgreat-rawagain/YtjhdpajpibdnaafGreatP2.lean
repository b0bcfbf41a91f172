import Derived.Test.YtjhdpajpibdnaafGreatP1
import Derived.Orders
import Derived.Deep.DeepCutAuto
import Derived.Deep.CutBlock
import Derived.Lib.MinMax
import Derived.Laws.CopyRow
import Derived.Laws.CopyOwn
import Derived.Maps.AppendAt
import Derived.Deep.RegionWith
set_option maxHeartbeats 16000000
set_option maxRecDepth 100000
namespace Go.Proofs.YtjhdpajpibdnaafGreat
open Go.ChangeShapes Go.WideShapes Go.ChangeAt Go.RowKit _root_.Go.Proofs.Tryz
set_option linter.unusedSimpArgs false
set_option linter.unusedVariables false
variable {w w' w6 w1 w2:World}{n b c k m rc ac X j B i cm g N d f fi cap bp q R pages id bi cc funcs s ci rl al ca ri vl most cR cA G:Nat}{O Q O':Nat→Prop}{l xs regs inp:List Int}{p a rg ag pm pi pa pR pA ra aa:Option Addr}{t e:TypeId}{v:Value}{P:Program}{L bs:List Bool}{x ya xc xk fr xa xb xn yb:Int}{ds cs:List Value}{ops:Array Oper}
def QbL (m:List (MFunc 6)) (M:IM):Prop:=M.done=true\/∃ g fn bl s,Inv m g M fn bl s
theorem JSt.upto_mf:∀ (l:List Qt) (s:JSt),(s.upto l).m=s.m/\(s.upto l).f=s.f
 | [],s=>⟨Z,Z⟩
 | x::l,s=>by
   have:=JSt.upto_mf l (s.next x)
   exact this
section
variable {m:List (MFunc 6)}{g g':Sig}{M M':IM}{fn:MFunc 6}{bl:MBlock 6}{s:JSt}{x:Qt}{op:Int->Int->Int->Option Int}
theorem Inv.mf (I:Inv m g M fn bl s):s.m=m/\s.f=fn:=by
 have:=JSt.upto_mf (bl.code.take M.top.i) (JSt.start m fn bl)
 rw[I.hs];exact this
theorem Inv.on (I:Inv m g M fn bl s) (a:bl.code[M.top.i]?=some x) (c:M'.top.f=M.top.f) (d:M'.top.b=M.top.b) (hi:M'.top.i=M.top.i+1) (e:M'.rest=M.rest) (F:FrT g' M'.h (s.next x) M'.top.v M'.top.r) (S:StT g' M'.h) (K:Stk m g' M'.h (Own (s.next x) M'.top.r) fn M.top.f M'.top.r M.rest):Inv m g' M' fn bl (s.next x):=by
 have j:=(Zi a).1;refine⟨by rw[c];exact I.hf,by rw[d];exact I.hb,by rw[hi];omega,?_,F,S,by rw[c,e];exact K⟩
 rw[hi,XV,a]
 show s.next x=(JSt.start m fn bl).upto (bl.code.take M.top.i++[x])
 rw[JSt.upto_snoc,<-I.hs]
theorem Inv.val (I:Inv m g M fn bl s) (A:bl.code[M.top.i]?=some x) (l:x.op≠3) (n:x.op≠4) (C:M'.top.f=M.top.f) (E:M'.top.b=M.top.b) (hi:M'.top.i=M.top.i+1) (G:M'.rest=M.rest) (a:M'.top.r=M.top.r) (o:g.le g') (q:∀ k p,M.h.place k=some p->∃ p,M'.h.place k=some p) (S:StT g' M'.h){xs:List Q4}(z:M'.top.v=M.top.v++xs) (B:xs.length=(s.makes x).2.length)
 (d:∀ (j:Nat) (y:Q4) (t:TT 6),xs[j]?=some y->(s.makes x).2[j]?=some t->∃ u,rtm M.top.r t=some u/\QdY g' y u):QbL m M':=by
 refine .inr ⟨g',fn,bl,_,I.on A C E hi G ?_ S ?_⟩
 ·rw[a,z]
  have F:FrT g' M'.h s M.top.v M.top.r:=I.fr.keep o (fun k c=>by obtain⟨p,e⟩:=I.fr.held k c;exact q _ p e);exact F.push B d (Qa1 l n) Z
 ·rw[a]
  refine I.stk.keep o (fun k _ ⟨p,e⟩=>q k p e) (fun k c=>?_) (fun k _=>rfl);obtain⟨j,H,w,D⟩:=c
  exact .inl ⟨j,by rw[<-Qa1 l n (s:=s)];exact H,w,D⟩
theorem Inv.still (I:Inv m g M fn bl s) (o:bl.code[M.top.i]?=some x) (d:x.op≠3) (q:x.op≠4) (u:M'.top.f=M.top.f) (z:M'.top.b=M.top.b) (hi:M'.top.i=M.top.i+1) (A:M'.rest=M.rest) (a:M'.top.r=M.top.r) (c:M'.h=M.h) (l:M'.top.v=M.top.v) (n:(s.makes x).2=[]):QbL m M' :=
 I.val o d q u z hi A a (fun _ _ _ h=>h) (fun k p e=>⟨p,by rw[c];exact e⟩) (by rw[c];exact I.st) (xs:=[]) (by simpa using l) (by rw[n];rfl) (fun j y t w=>by simp at w)
theorem Inv.one (I:Inv m g M fn bl s) (w:bl.code[M.top.i]?=some x) (o:x.op≠3) (z:x.op≠4) (A:M'.top.f=M.top.f) (C:M'.top.b=M.top.b) (hi:M'.top.i=M.top.i+1) (D:M'.rest=M.rest) (d:M'.top.r=M.top.r) (l:M'.h=M.h){y:Q4}{t:TT 6}(q:M'.top.v=M.top.v++[y]) (n:(s.makes x).2=[t]) (B:∃ u,rtm M.top.r t=some u/\QdY g y u):QbL m M' :=
 I.val w o z A C hi D d (fun _ _ _ h=>h) (fun k p e=>⟨p,by rw[l];exact e⟩) (by rw[l];exact I.st) (xs:=[y]) q (by rw[n];rfl) (fun j F E c a=>by
  rw[n] at a
  have:j=0:=by have:=(Zi c).1;simp at this;omega
  subst this;simp at c a;subst c a;exact B)
theorem IM.over_good (m:List (MFunc 6)) (M:IM) (e:Int):QbL m (M.over e):=.inl Z
abbrev IM.one (M:IM):IM:={ M with fuel:=M.fuel+1,top:={ M.top with i:=M.top.i+1 } }
def QbV (m:List (MFunc 6)) (op:Int->Int->Int->Option Int) (M:IM) (x:Qt):Prop:=∃ M',IM.ins m op M.one x=some M'/\QbL m M'
theorem Qj5 (I:Inv m g M fn bl s) (a:bl.code[M.top.i]?=some x) (b:s.code x=0) (h:x.op=1):QbV m op M x:=by
 refine⟨_,by unfold IM.ins;rw[Xs h],?_⟩
 exact I.one a (by omega) (by omega) Z Z Z Z Z Z Z (by rw[Z5 (.inl h)]) (Qei _)
theorem Qkd (I:Inv m g M fn bl s) (f:bl.code[M.top.i]?=some x) (j:s.code x=0) (h:x.op=2):QbV m op M x:=by
 have c:=(QN j).2.1;rw[QbQ h] at c
 obtain⟨p,o⟩:=QD c
 obtain⟨a,d⟩:=I.fr.num p
 obtain⟨b,l⟩:=I.fr.num o
 unfold QbV IM.ins;rw[Xr (by omega),Xs h]
 show ∃ M',(match QS M.top.v x.a with | none=>none | some a=>match QS M.top.v x.b with | none=>none | some b=>match op x.k a b with | none=>some (M.one.over 1) | some n=>some (M.one.push [Qcs n]))=some M'/\QbL m M';rw[d,l]
 cases e:op x.k a b with
 | none=>simp only[e];exact⟨_,Z,IM.over_good _ _ _⟩
 | some n=>simp only[e];exact⟨_,Z,I.one f (by omega) (by omega) Z Z Z Z Z Z Z (by rw[QbQ h]) (Qei _)⟩
theorem Qma (I:Inv m g M fn bl s) (a:bl.code[M.top.i]?=some x) (b:s.code x=0) (h:x.op=12):QbV m op M x:=by
 unfold QbV IM.ins;rw[Xr (by omega),Xr (by omega),Xr (by omega),Xs h]
 show ∃ M',(match M.inp with | []=>some (M.one.over 4) | n::l=>some (IM.push { M.one with inp:=l } [Qcs n]))=some M'/\QbL m M'
 cases e:M.inp with
 | nil=>exact⟨_,Z,IM.over_good _ _ _⟩
 | cons n l=>exact⟨_,Z,I.one a (by omega) (by omega) Z Z Z Z Z Z Z (by rw[Z5 (.inr h)]) (Qei _)⟩
theorem Qj2 (I:Inv m g M fn bl s) (f:bl.code[M.top.i]?=some x) (d:s.code x=0) (h:x.op=13):QbV m op M x:=by
 have b:=(QN d).2.1;rw[QbG h] at b
 obtain⟨a,c⟩:=I.fr.num b
 unfold QbV IM.ins;rw[Xr (by omega),Xr (by omega),Xr (by omega),Xr (by omega),Xs h]
 show ∃ M',(match QS M.top.v x.a with | none=>none | some n=>if M.out.length=2000 then some (M.one.over 8) else some { M.one with out:=M.out++[n] })=some M'/\QbL m M';rw[c]
 by_cases e:M.out.length=2000
 ·simp only[e,if_true];exact⟨_,Z,IM.over_good _ _ _⟩
 ·simp only[e,if_false];exact⟨_,Z,I.still f (by omega) (by omega) Z Z Z Z Z Z Z (by rw[QbG h])⟩
theorem Zv (h:x.op=4\/x.op=5\/x.op=6\/x.op=7\/x.op=8\/x.op=9\/x.op=10\/x.op=11):IM.ins m op M x=M.mem x:=by
 unfold IM.ins;rw[Xr (by omega),Xr (by omega),Xr (by omega),Xr (by omega),Xr (by omega),Xr (by omega)]
theorem Qd.get_nat {h:Qd}{v:Q4}{t:Qw}(e:h.thing v=some t){k:Int}(a:0<=k):h.get v k=match t.l[k.toNat]? with | none=>(noV,1) | some x=>(x,0):=by
 unfold Qd.get;rw[e];simp only;rw[Xr (by omega)];first | done | (cases t.l[k.toNat]?<;>rfl)
theorem QjU (I:Inv m g M fn bl s) (f:bl.code[M.top.i]?=some x) (w:s.code x=0) (h:x.op=11):QbV m op M x:=by
 have c:=(QN w).2.1;rw[QbH h] at c
 obtain⟨a,t,u,C,d,B,y,e,D,n,q⟩:=I.fr.want c
 obtain⟨p,j⟩:=q Z (by omega)
 obtain⟨k,o,z,A⟩:=y.thing I.st (.inr n) j
 unfold QbV;rw[Zv (by omega)]
 unfold IM.mem;have b:QQ M.one.top.v x.a=some a:=d;rw[b]
 simp only
 rw[Xr (by omega),Xr (by omega),Xr (by omega),Xr (by omega),Xr (by omega),Xr (by omega),Xr (by omega)]
 have r:M.h.len a=((k.l.length:Int),0):=by unfold Qd.len;rw[o]
 show ∃ M',(if a.kind=4/\(M.h.len a).2=0 then some (M.one.push [Qcs (M.h.len a).1]) else none)=some M'/\QbL m M';rw[r,Xs ⟨e,Z⟩]
 exact⟨_,Z,I.one f (by omega) (by omega) Z Z Z Z Z Z Z (by rw[QbH h]) (Qei _)⟩
theorem QiL (I:Inv m g M fn bl s) (k:bl.code[M.top.i]?=some x) (A:s.code x=0) (h:x.op=9):QbV m op M x:=by
 have e:=(QN A).2.1;rw[Qa5 h] at e
 obtain⟨K,r⟩:=QD e
 obtain⟨a,t,u,P,w,O,F,G,L,H,B⟩:=I.fr.want K
 obtain⟨n,D⟩:=I.fr.num r
 obtain⟨p,C⟩:=B Z (by omega)
 obtain⟨o,f,j,N⟩:=F.thing I.st (.inr H) C
 unfold QbV;rw[Zv (by omega)]
 unfold IM.mem;have d:QQ M.one.top.v x.a=some a:=w;have c:QS M.one.top.v x.b=some n:=D;rw[d]
 simp only
 rw[Xr (by omega),Xr (by omega),Xr (by omega),Xr (by omega),Xr (by omega),Xs h,c]
 simp only
 rw[Xs G]
 show ∃ M',(if (M.h.get a n).2=1 then some (M.one.over 2) else if (M.h.get a n).2=0 then some (M.one.push [(M.h.get a n).1]) else none)=some M'/\QbL m M';by_cases J:n<0
 ·have:M.h.get a n=(noV,1):=by unfold Qd.get;rw[f];simp only;rw[Xs J]
  rw[this]
  exact⟨_,by rw[Xs Z],IM.over_good _ _ _⟩
 ·rw[Qd.get_nat f (by omega)]
  cases ey:o.l[n.toNat]? with
  | none=>exact⟨M.one.over 2,Z,IM.over_good _ _ _⟩
  | some y =>
    refine⟨M.one.push [y],Z,I.one k (by omega) (by omega) Z Z Z Z Z Z Z (by rw[Qa5 h]) ⟨tInt,Z,.inl ⟨Z,?_⟩⟩⟩
    rcases j with ⟨z,q,E⟩|⟨z,q,-⟩
    ·exact E y (Zm ey)
    ·omega
theorem QkM (I:Inv m g M fn bl s) (z:bl.code[M.top.i]?=some x) (S:s.code x=0) (h:x.op=6):QbV m op M x:=by
 obtain⟨b,c,-⟩:=QN S
 have f:0<=x.k:=by
  unfold Qt.form at b;repeat' split at b
  all_goals first | omega | cases b
 have d:=Qdf (s:=s) h;rw[d] at c
 cases et:s.at x.a with
 | none=>rw[et] at c;cases c
 | some t =>
   rw[et] at c d
   simp only at c d
   by_cases e:s.want x.a 3 true=0
   ·rw[Xs e] at c d
    cases ek:t.2.2[x.k.toNat]? with
    | none=>rw[ek] at c;cases c
    | some w =>
      rw[ek] at d
      simp only at d
      obtain⟨a,V,u,o,D,H,K,O,T,P,G⟩:=I.fr.want e
      rw[et] at o;cases o
      obtain⟨p,J⟩:=G Z (by omega)
      obtain⟨A,Q,r,U⟩:=K.thing I.st (.inl P) J
      rcases r with ⟨E,B,-⟩|⟨E,B,L,N⟩
      ·omega
      ·obtain⟨C,q,R⟩:=Qd9 (Zo H).2.2 ek
       obtain⟨y,n⟩:∃ y,A.l[x.k.toNat]?=some y:=⟨_,Zg (by rw[L];exact(Zi q).1)⟩
       have F:M.h.get a x.k=(y,0):=by rw[Qd.get_nat Q f,n]
       unfold QbV;rw[Zv (by omega)]
       unfold IM.mem;have j:QQ M.one.top.v x.a=some a:=D;rw[j]
       simp only
       rw[Xr (by omega),Xr (by omega),Xr (by omega),Xs h]
       show ∃ M',(if a.kind=3/\(M.h.get a x.k).2=0 then some (M.one.push [(M.h.get a x.k).1]) else none)=some M'/\QbL m M';rw[F,Xs ⟨O,Z⟩]
       exact⟨_,Z,I.one z (by omega) (by omega) Z Z Z Z Z Z Z (by rw[d]) ⟨_,TT.ren_at 5 R,N _ y C n q⟩⟩
   ·rw[Xr e] at c;exact absurd c e
theorem Qd.set_place {h:Qd}{v y:Q4}{k:Int}{j:Int}{p:Qr}(e:h.place j=some p):∃ p',(h.set v k y).2.place j=some p':=by
 unfold Qd.set;split
 ·rename_i t q f c
  obtain⟨d,a,b⟩:=Qd.place_some c
  split
  ·exact⟨p,e⟩
  ·split
   ·exact⟨p,e⟩
   ·simp only
    rw[Qd.place_set (Zi a).1]
    split
    ·exact⟨_,by first | rw[Xs b] | rfl⟩
    ·exact⟨p,e⟩
 ·exact⟨p,e⟩
theorem Qd.put_place {h:Qd}{v:Q4}{t:Qw}{words:Int}{j:Int}{p:Qr}(e:h.place j=some p):∃ p',(h.put v t words).2.2.place j=some p':=by
 unfold Qd.put;split
 ·exact⟨p,e⟩
 ·rename_i q c
  obtain⟨f,g,i,b,d,a⟩:=Qd.at_some c
  split
  ·exact⟨p,e⟩
  ·simp only
   rw[Qd.place_set (by rw[b];exact(Zi d).1)]
   split
   ·have:(q.more t words).there=true:=by unfold Qr.more;split<;>exact a
    exact⟨_,by rw[Xs this]⟩
   ·exact⟨p,e⟩
theorem Inv.stored (I:Inv m g M fn bl s) (d:bl.code[M.top.i]?=some x) (b:x.op≠3) (f:x.op≠4) (c:(s.makes x).2=[]){a y:Q4}{k:Int}(S:StT g (M.h.set a k y).2):QbL m { M.one with h:=(M.h.set a k y).2 } :=
 I.val (M':={ M.one with h:=(M.h.set a k y).2 }) d b f Z Z Z Z Z (fun _ _ _ h=>h) (fun j p e=>Qd.set_place e) S (xs:=[]) (by simp) (by rw[c];rfl) (fun j y t l=>by simp at l)
theorem Qk6 (I:Inv m g M fn bl s) (S:bl.code[M.top.i]?=some x) (o:s.code x=0) (h:x.op=7):QbV m op M x:=by
 obtain⟨d,c,-⟩:=QN o
 have aa:0<=x.k:=by
  unfold Qt.form at d;repeat' split at d
  all_goals first | omega | cases d
 have e:=QcP (s:=s) h;rw[e] at c
 cases et:s.at x.a with
 | none=>rw[et] at c;cases c
 | some t =>
   rw[et] at c e
   simp only at c e
   by_cases n:s.want x.a 3 true=0
   ·rw[Xs n] at c e
    cases ek:t.2.2[x.k.toNat]? with
    | none=>rw[ek] at c;cases c
    | some w =>
      rw[ek] at e c
      simp only at e c
      cases eb:s.at x.b with
      | none=>rw[eb] at c;cases c
      | some vt =>
        rw[eb] at c e
        simp only at c e
        by_cases A:ZU (w.at 5=vt)=true
        ·rw[Xs A] at e
         have E:w.at 5=vt:=by simpa[ZU] using A
         obtain⟨a,t',u,K,X,e3,L,e5,e6,e7,e8⟩:=I.fr.want n
         rw[et] at K;cases K
         obtain⟨p,hp⟩:=e8 Z (by omega)
         obtain⟨T,f1,Q,f3⟩:=L.thing I.st (.inl e7) hp
         obtain⟨y,O,y1,y2,y3⟩:=I.fr.at eb
         rcases Q with ⟨q,J,-⟩|⟨q,J,N,b4⟩
         ·omega
         ·obtain⟨V,P,w2⟩:=Qd9 (Zo e3).2.2 ek
          have z:x.k.toNat<T.l.length:=by rw[N];exact(Zi P).1
          have F:O=V.at 5:=by
           have:=TT.ren_at 5 w2
           rw[E] at this
           have j:vt.ren M.top.r.length (fun i=>M.top.r.getD i 0)=some O:=y2;rw[this] at j;exact(Xn j).symm
          have U:g a.region a.thing.toNat=some u:=by
           rcases L with ⟨W,-⟩|⟨W,-⟩|⟨-,-,-,-,R⟩
           ·omega
           ·omega
           ·exact R
          obtain⟨G,H⟩:=I.st.set (x:=y) f1 (.inr ⟨q,J,N,b4⟩) U (fun o=>by rw[q] at o;cases o) (fun _ w' f=>by
           rw[P] at f;cases f;rw[<-F];exact y3) z
          have B:((x.k.toNat:Nat):Int)=x.k:=by omega
          rw[B] at G H
          unfold QbV;rw[Zv (by omega)]
          unfold IM.mem;have C:QQ M.one.top.v x.a=some a:=X;have D:QQ M.one.top.v x.b=some y:=y1;rw[C]
          simp only
          rw[Xr (by omega),Xr (by omega),Xr (by omega),Xr (by omega),Xs h,D]
          show ∃ M',(if a.kind=3/\(M.h.set a x.k y).1=0 then some { M.one with h:=(M.h.set a x.k y).2 } else none)=some M'/\QbL m M';rw[Xs ⟨e5,G⟩]
          exact⟨_,Z,I.stored S (by omega) (by omega) (by rw[e]) H⟩
        ·rw[Xr A] at c;cases c
   ·rw[Xr n] at c;exact absurd c n
theorem QgW (I:Inv m g M fn bl s) (H:bl.code[M.top.i]?=some x) (Q:s.code x=0) (h:x.op=10):QbV m op M x:=by
 have d:=(QN Q).2.1;rw[QaA h] at d
 obtain⟨ha,d⟩:=QD d
 obtain⟨K,A⟩:=QD d
 obtain⟨a,t,u,e1,O,e3,G,X,e6,e7,S⟩:=I.fr.want ha
 obtain⟨n,W⟩:=I.fr.num K
 obtain⟨z,T⟩:=I.fr.num A
 obtain⟨p,V⟩:=S Z (by omega)
 obtain⟨E,B,C,f3⟩:=G.thing I.st (.inr e7) V
 have L:g a.region a.thing.toNat=some u:=by
  rcases G with ⟨N,-⟩|⟨N,-⟩|⟨-,-,-,-,J⟩
  ·omega
  ·omega
  ·exact J
 have r:E.arr=true:=by
  rcases C with ⟨P,-⟩|⟨-,b2,-⟩
  ·exact P
  ·omega
 unfold QbV;rw[Zv (by omega)]
 unfold IM.mem;have y:QQ M.one.top.v x.a=some a:=O;have j:QS M.one.top.v x.b=some n:=W;have w:QS M.one.top.v x.c=some z:=T;rw[y]
 simp only
 rw[Xr (by omega),Xr (by omega),Xr (by omega),Xr (by omega),Xr (by omega),Xr (by omega),Xs h,j]
 simp only
 rw[w]
 simp only
 rw[Xs X]
 show ∃ M',(if (M.h.set a n (Qcs z)).1=1 then some (M.one.over 2) else if (M.h.set a n (Qcs z)).1=0 then some { M.one with h:=(M.h.set a n (Qcs z)).2 } else none)=some M'/\QbL m M';by_cases hn:n<0\/E.l.length<=n.toNat
 ·have:(M.h.set a n (Qcs z)).1=1:=by
   obtain⟨U,q,R,-⟩:=Qd.thing_iff.1 B
   unfold Qd.set;rw[B,R];simp only;rw[Xr (fun e=>e.2 Z),Xs hn]
  rw[Xs this]
  exact⟨_,Z,IM.over_good _ _ _⟩
 ·obtain⟨f,D⟩:=I.st.set (x:=Qcs z) (k:=n.toNat) B C L (fun _=>rfl) (fun F=>by rw[r] at F;cases F) (by omega)
  have o:((n.toNat:Nat):Int)=n:=by omega
  rw[o] at f D
  rw[Xr (by rw[f];decide),Xs f]
  exact⟨_,Z,I.stored H (by omega) (by omega) (by rw[QaA h]) D⟩
theorem Inv.made (I:Inv m g M fn bl s) (o:bl.code[M.top.i]?=some x) (l:x.op≠3) (z:x.op≠4){T u:TT 6}(f:(s.makes x).2=[T]){a:Q4}{p:Qr}{t:Qw}{words:Int}(k:M.h.at a=some p) (D:rtm M.top.r T=some u) (C:u.r=a.region) (B:QbA g t u):∃ M',M.one.got (M.h.put a t words)=some M'/\QbL m M':=by
 obtain⟨E,A,S,n⟩:=I.st.put (words:=words) k C B
 rcases Qd.put_code (t:=t) (words:=words) k with c | ⟨v,-⟩
 ·unfold IM.got;rw[Xr (by rw[c];decide),Xs c]
  refine⟨_,Z,?_⟩
  exact I.val o l z Z Z Z Z Z A (fun j q e=>Qd.put_place e) S (xs:=[(M.h.put a t words).1]) Z (by rw[f];rfl) (fun j y w d b=>by
   rw[f] at b
   have:j=0:=by have:=(Zi d).1;simp at this;omega
   subst this;simp at d b;subst d b;exact⟨u,D,n c⟩)
 ·unfold IM.got;rw[Xs v]
  exact⟨_,Z,IM.over_good _ _ _⟩
theorem Qg8 (I:Inv m g M fn bl s) (z:bl.code[M.top.i]?=some x) (C:s.code x=0) (h:x.op=8):QbV m op M x:=by
 have e:=(QN C).2.1;have f:=Qbj (s:=s) h;rw[f] at e
 cases et:s.at x.a with
 | none=>rw[et] at e;cases e
 | some t =>
   rw[et] at e f
   simp only at e f
   obtain⟨P,A⟩:=QD e
   obtain⟨a,V,u,w,B,q,N,O,H,U,G⟩:=I.fr.want P
   rw[et] at w;cases w
   obtain⟨n,L⟩:=I.fr.num A
   obtain⟨p,J⟩:=G Z (by omega)
   have d:a.region=u.r:=by
    rcases N with ⟨R,-⟩|⟨-,-,c⟩|⟨-,-,c,-⟩
    ·omega
    ·exact c
    ·exact c
   have l:M.h.at a=some p:=by unfold Qd.at;rw[Xs O,d];exact J
   unfold QbV;rw[Zv (by omega)]
   unfold IM.mem;have k:QQ M.one.top.v x.a=some a:=B;have j:QS M.one.top.v x.b=some n:=L;rw[k]
   simp only
   rw[Xr (by omega),Xr (by omega),Xs h,j]
   simp only
   by_cases o:n<0\/15<n
   ·rw[Xs o]
    exact⟨_,Z,IM.over_good _ _ _⟩
   ·rw[Xr o]
    show ∃ M',M.one.got (M.h.array a n)=some M'/\QbL m M';unfold Qd.array;rw[Xr o]
    obtain⟨T,S,Q⟩:=QlS q (by omega)
    have F:rtm M.top.r (mkT 4 t.r [])=some (mkT 4 u.r []:TT 6):=by
     have K:ZJ M.top.r.length (fun i=>M.top.r.getD i 0) 4 t.r=some u.r:=by
      have:=(Zo q).2.1
      have E:t.1=2:=H;rw[E] at this
      exact this
     exact ZR (t:=(mkT 4 t.r []:TT 6)) K Z
    exact I.made z (by omega) (by omega) (by rw[f]) l F d.symm (.inl ⟨Z,Z,fun y D=>by rw[List.eq_of_mem_replicate D];rfl⟩)
theorem Qhn (I:Inv m g M fn bl s) (hx:bl.code[M.top.i]?=some x) (hc:s.code x=0) (h:x.op=5):QbV m op M x:=by
 have d:=(QN hc).2.1;have e:=Qbl (s:=s) h;rw[e] at d
 cases et:s.at x.a with
 | none=>rw[et] at d;cases d
 | some t =>
   rw[et] at d e
   simp only at d e
   by_cases F:s.want x.a 2 true=0
   ·rw[Xs F] at d e
    cases ef:s.fields x.args with
    | none=>rw[ef] at d;cases d
    | some l =>
      rw[ef] at d e
      simp only at d e
      by_cases G:4<TT.height (n:=7) (mkT 3 t.r l)
      ·rw[Xs G] at d;cases d
      ·rw[Xr G] at e
       obtain⟨a,t',u,e1,e2,e3,e4,e5,e6,e7,e8⟩:=I.fr.want F
       rw[et] at e1;cases e1
       obtain⟨p,hp⟩:=e8 Z (by omega)
       have k:a.region=u.r:=by
        rcases e4 with ⟨L,-⟩|⟨-,-,c⟩|⟨-,-,c,-⟩
        ·omega
        ·exact c
        ·exact c
       have S:M.h.at a=some p:=by unfold Qd.at;rw[Xs e5,k];exact hp
       obtain⟨D,b1,X,b3⟩:=I.fr.fields ef
       obtain⟨f,C⟩:∃ f,ZS (TT.ren M.top.r.length (fun i=>M.top.r.getD i 0)) l=some f:=by
        clear e d G
        have J:∀ (l:List (TT 6)),(∀ t∈l,∃ u,rtm M.top.r t=some u)->∃ f,ZS (TT.ren M.top.r.length (fun i=>M.top.r.getD i 0)) l=some f:=by
         intro l
         induction l with
         | nil=>exact fun _=>⟨[],Z⟩
         | cons z zs ih =>
           intro E;obtain⟨u1,V⟩:=E z (by simp)
           obtain⟨us,H⟩:=ih (fun t ht=>E t (by simp[ht]))
           have A:z.ren M.top.r.length (fun i=>M.top.r.getD i 0)=some u1:=V;exact⟨u1::us,by simp only[ZS,A,H]⟩
        refine J l (fun z E=>?_);obtain⟨j,W⟩:=List.mem_iff_getElem?.1 E
        obtain⟨y,O⟩:∃ y,D[j]?=some y:=⟨_,Zg (by rw[X];exact(Zi W).1)⟩
        obtain⟨w,w1,-⟩:=b3 j y z O W
        exact⟨w,w1⟩
       have hr:ZJ M.top.r.length (fun i=>M.top.r.getD i 0) 3 t.r=some u.r:=by
        have:=(Zo e3).2.1
        have ek:t.1=2:=e6;rw[ek] at this
        exact this
       have N:(mkT 3 t.r l:TT 7).ren M.top.r.length (fun i=>M.top.r.getD i 0)=some (mkT 3 u.r f:TT 7):=ZR (t:=(mkT 3 t.r l:TT 7)) hr C;have hT:=TT.ren_at 5 N;unfold QbV;rw[Zv (by omega)]
       unfold IM.mem;have R:QQ M.one.top.v x.a=some a:=e2;have T:Q8 M.one.top.v x.args=some D:=b1;rw[R]
       simp only
       rw[Xr (by omega),Xs h,T]
       show ∃ M',M.one.got (M.h.tuple a D)=some M'/\QbL m M';unfold Qd.tuple;obtain⟨L,c2⟩:=ZT.1 C
       refine I.made hx (by omega) (by omega) (by rw[e]) S hT (show u.r=a.region from k.symm) (.inr ⟨Z,Z,?_,fun j y w O P=>?_⟩)
       ·show D.length=(f.map (TT.at 4)).length;simp[X,L]
       ·have b:(f.map (TT.at 4))[j]?=some w:=P;rw[XS] at b
        cases eu:f[j]? with
        | none=>rw[eu] at b;cases b
        | some uj =>
          rw[eu] at b
          have Q:uj.at 4=w:=Xn b;obtain⟨q,o⟩:∃ q,l[j]?=some q:=⟨_,Zg (by rw[<-L];exact(Zi eu).1)⟩
          obtain⟨w',d1,d2⟩:=b3 j y q O o
          have K:=c2 j q o;rw[eu] at K
          have B:q.ren M.top.r.length (fun i=>M.top.r.getD i 0)=some w':=d1;rw[K] at B;cases B
          have U:uj.height<=4:=by
           rw[TT.ren_height K]
           have:=(Q9 (t:=(mkT 3 t.r l:TT 7)) (m:=4)).1 (by omega) q (Zm o)
           omega
          rw[<-Q,TT.at_back 4 uj U]
          exact d2
   ·rw[Xr F] at d;exact absurd d F
end
section
variable {m:List (MFunc 6)}{op:Int->Int->Int->Option Int}{φ:Int->Nat}{π:Int->Nat->Nat}{M M':IM}{R:RM}{x:Qt}
abbrev RM.one (R:RM):RM:={ R with fuel:=R.fuel+1 }
theorem Sim.next (S:Sim φ π M R) (c:M.done=false){a:Qd}{l:Est}{φ':Int->Nat}{π':Int->Nat->Nat}(H:Qa9 a l φ' π') (k:∀ x n,Rep M.h φ π x n->Rep a φ' π' x n){xs:List Q4}{ns:List Int}(o:ns.length=xs.length) (m:∀ (j:Nat) x n,xs[j]?=some x->ns[j]?=some n->Rep a φ' π' x n) (r':List Int) (d g:List Int) :
 Qew { M with h:=a,top:=⟨M.top.f,M.top.b,M.top.i+1,M.top.v++xs,r'⟩,inp:=d,out:=g,fuel:=M.fuel+1 } { R with e:=l,top:={ R.top with v:=R.top.v++ns,i:=R.top.i+1 },inp:=d,out:=g,fuel:=R.fuel+1 }:=by
 have F:=((S.top c).mono k).push o m (M.top.i+1) (R.top.i+1) (by rw[(S.top c).eI]);exact⟨φ',π',H,S.done,Z,S.back,by show R.fuel+1=M.fuel+1;rw[S.fuel],S.fin,fun _=>rfl,fun _=>⟨F.eF,F.eB,F.eI,F.len,F.val⟩,fun _=>(S.rest c).mono k⟩
theorem Sim.next0 (S:Sim φ π M R) (a:M.done=false){c:Qd}{g:Est}{φ':Int->Nat}{π':Int->Nat->Nat}(H:Qa9 c g φ' π') (d:∀ x n,Rep M.h φ π x n->Rep c φ' π' x n){xs:List Q4}{ns:List Int}(l:ns.length=xs.length) (k:∀ (j:Nat) x n,xs[j]?=some x->ns[j]?=some n->Rep c φ' π' x n) (r':List Int) :
 Qew { M with h:=c,top:=⟨M.top.f,M.top.b,M.top.i+1,M.top.v++xs,r'⟩,fuel:=M.fuel+1 } { R with e:=g,top:={ R.top with v:=R.top.v++ns,i:=R.top.i+1 },fuel:=R.fuel+1 }:=by
 have F:=((S.top a).mono d).push l k (M.top.i+1) (R.top.i+1) (by rw[(S.top a).eI]);exact⟨φ',π',H,S.done,S.out,S.back,by show R.fuel+1=M.fuel+1;rw[S.fuel],S.fin,fun _=>S.inp a,fun _=>⟨F.eF,F.eB,F.eI,F.len,F.val⟩,fun _=>(S.rest a).mono d⟩
theorem Qgj {P:Q4->Int->Prop}{y:Q4}{n:Int}(h:P y n) (j:Nat) (x:Q4) (k:Int) (a:[y][j]?=some x) (b:[n][j]?=some k):P x k:=by
 cases j with
 | zero=>simp at a b;subst a b;exact h
 | succ j=>simp at a
theorem Sim.one1 (S:Sim φ π M R) (b:M.done=false){y:Q4}{n:Int}(a:Rep M.h φ π y n):Qew (M.one.push [y]) (R.one.on [n]) :=
 S.next0 b S.heap (fun _ _ h=>h) (xs:=[y]) (ns:=[n]) Z (Qgj a) M.top.r
theorem Sim.stop (S:Sim φ π M R) (k:Int):Qew (M.one.over k) (R.one.over k):=Sim.over (M:=M.one) (R:=R.one) (H:=S.heap) S.out S.back (by show R.fuel+1=M.fuel+1;rw[S.fuel]) k
def ZB (m:List (MFunc 6)) (op:Int->Int->Int->Option Int) (R:RM) (x:Qt) (M':IM):Prop:=∃ R',RM.ins op R.one x=some R'/\Qew M' R'
theorem QiO (S:Sim φ π M R) (a:M.done=false) (e:x.op=1) (h:IM.ins m op M.one x=some M'):ZB m op R x M':=by
 simp[IM.ins,e] at h
 subst h;exact⟨_,by simp[RM.ins,e],S.one1 a (Qd5 x.n)⟩
theorem Qiq (S:Sim φ π M R) (c:M.done=false) (e:x.op=2) (h:IM.ins m op M.one x=some M'):ZB m op R x M':=by
 unfold IM.ins at h;rw[Xr (by omega),Xs e] at h
 have F:=S.top c
 cases ha:QS M.top.v x.a with
 | none=>rw[show QS M.one.top.v x.a=none from ha] at h;cases h
 | some a =>
   rw[show QS M.one.top.v x.a=some a from ha] at h
   simp only at h
   cases hb:QS M.top.v x.b with
   | none=>rw[show QS M.one.top.v x.b=none from hb] at h;cases h
   | some b =>
     rw[show QS M.one.top.v x.b=some b from hb] at h
     simp only at h
     unfold ZB RM.ins;rw[Xr (by omega),Xs e,show iAt R.one.top.v x.a=some a from F.num ha]
     simp only
     rw[show iAt R.one.top.v x.b=some b from F.num hb]
     simp only
     cases ho:op x.k a b with
     | none=>rw[ho] at h;cases h;exact⟨_,Z,S.stop 1⟩
     | some n=>rw[ho] at h;cases h;exact⟨_,Z,S.one1 c (Qd5 n)⟩
theorem QkV (S:Sim φ π M R) (a:M.done=false) (e:x.op=12) (h:IM.ins m op M.one x=some M'):ZB m op R x M':=by
 unfold IM.ins at h;rw[Xr (by omega),Xr (by omega),Xr (by omega),Xs e] at h
 unfold ZB RM.ins;rw[Xr (by omega),Xr (by omega),Xr (by omega),Xr (by omega),Xr (by omega),Xr (by omega),Xs e]
 have c:R.one.inp=M.one.inp:=S.inp a;rw[c]
 cases hi:M.one.inp with
 | nil=>rw[hi] at h;cases h;exact⟨_,Z,S.stop 4⟩
 | cons n l =>
   rw[hi] at h
   cases h
   refine⟨_,Z,?_⟩
   have:=S.next a S.heap (fun _ _ h=>h) (xs:=[Qcs n]) (ns:=[n]) rfl (Qgj (Qd5 n)) M.top.r l M.out
   have b:=S.out;show Qew _ { R with inp:=l,top:=_,fuel:=R.fuel+1 };rw[show ({ R with inp:=l,top:={ R.top with v:=R.top.v++[n],i:=R.top.i+1 },fuel:=R.fuel+1 }:RM)={ R with e:=R.e,top:={ R.top with v:=R.top.v++[n],i:=R.top.i+1 },inp:=l,out:=M.out,fuel:=R.fuel+1 } by rw[<-b]]
   exact this
theorem Qij (S:Sim φ π M R) (b:M.done=false) (g:M.out.length<=2000) (e:x.op=13) (h:IM.ins m op M.one x=some M'):ZB m op R x M':=by
 unfold IM.ins at h;rw[Xr (by omega),Xr (by omega),Xr (by omega),Xr (by omega),Xs e] at h
 unfold ZB RM.ins;rw[Xr (by omega),Xr (by omega),Xr (by omega),Xr (by omega),Xr (by omega),Xr (by omega),Xr (by omega),Xs e]
 have F:=S.top b
 cases ha:QS M.top.v x.a with
 | none=>rw[show QS M.one.top.v x.a=none from ha] at h;cases h
 | some n =>
   rw[show QS M.one.top.v x.a=some n from ha] at h
   rw[show iAt R.one.top.v x.a=some n from F.num ha]
   simp only at h |-
   have d:R.one.out=M.one.out:=S.out;by_cases c:M.out.length=2000
   ·rw[Xs (show M.one.out.length=2000 from c)] at h
    cases h
    rw[Xr (by rw[d];show ¬ M.out.length<2000;omega)]
    exact⟨_,Z,S.stop 8⟩
   ·rw[Xr (show ¬ M.one.out.length=2000 from c)] at h
    cases h
    rw[Xs (by rw[d];show M.out.length<2000;omega)]
    refine⟨_,Z,?_⟩
    have:=S.next b S.heap (fun _ _ h=>h) (xs:=[]) (ns:=[]) rfl (fun j x n h=>by simp at h) M.top.r M.inp (M.out++[n])
    have k:=S.inp b;have f:=S.out;simp only[List.append_nil] at this
    unfold RM.on;simp only[List.append_nil]
    show Qew _ { R with out:=R.out++[n],top:={ R.top with i:=R.top.i+1 },fuel:=R.fuel+1 };rw[f,show ({ R with out:=M.out++[n],top:={ R.top with i:=R.top.i+1 },fuel:=R.fuel+1 }:RM)={ R with e:=R.e,top:={ R.top with i:=R.top.i+1 },inp:=M.inp,out:=M.out++[n],fuel:=R.fuel+1 } by rw[<-k]]
    exact this
theorem Qih (S:Sim φ π M R) (g:M.done=false) (e:x.op=3) (h:IM.ins m op M.one x=some M'):ZB m op R x M':=by
 unfold IM.ins at h;rw[Xr (by omega),Xr (by omega),Xs e] at h
 unfold ZB RM.ins;rw[Xr (by omega),Xr (by omega),Xs e]
 by_cases a:16<=M.h.live
 ·have l:M.one.h.open_.2.1=false:=by show M.h.open_.2.1=false;unfold Qd.open_;rw[Xs a]
  rw[l] at h
  have k:R.one.e.openK=-1:=(Est.open_no (S.heap.full.1 a)).1;rw[Xr (by rw[k];decide)]
  cases h
  exact⟨_,Z,S.stop 6⟩
 ·have c:M.h.open_=(⟨2,M.h.L.length,0,0⟩,true,{ M.h with L:=M.h.L++[newP] }):=by unfold Qd.open_;rw[Xr a]
  rw[Xs (by show M.h.open_.2.1=true;rw[c])] at h
  cases h
  obtain⟨d,j,f,i⟩:=S.heap.opens a
  rw[Xs (show 0<=R.one.e.openK from d)]
  refine⟨_,Z,?_⟩
  refine S.next0 g j i (xs:=[M.h.open_.1]) (ns:=[R.e.openK]) Z (Qgj ?_) (M.top.r++[M.h.open_.1.region]);rw[c]
  refine⟨fun b=>by simp at b,fun _=>⟨by simp only;omega,by simp;omega,fun p n=>⟨fun _=>?_,fun b=>absurd Z b⟩⟩⟩
  simp only
  rw[f]
  omega
theorem QgS (S:Sim φ π M R) (c:M.done=false) (e:x.op=4) (h:IM.ins m op M.one x=some M'):ZB m op R x M':=by
 rw[Zv (by omega)] at h
 unfold IM.mem at h;unfold ZB RM.ins;rw[Xr (by omega),Xr (by omega),Xr (by omega),Xs e]
 have F:=S.top c
 cases ha:QQ M.top.v x.a with
 | none=>rw[show QQ M.one.top.v x.a=none from ha] at h;cases h
 | some a =>
   obtain⟨n,f,k⟩:=F.at ha
   rw[show QQ M.one.top.v x.a=some a from ha] at h
   rw[show iAt R.one.top.v x.a=some n from f]
   simp only at h |-
   rw[Xs e] at h
   cases hp:M.h.at a with
   | none =>
     have:(M.one.h.shut a).1=false:=by show (M.h.shut a).1=false;unfold Qd.shut;rw[hp]
     rw[this] at h;cases h
   | some p =>
     obtain⟨i,o,d⟩:=S.heap.shuts hp
     rw[Xs (show (M.one.h.shut a).1=true from i)] at h
     cases h
     refine⟨_,Z,?_⟩
     obtain⟨b,g,-⟩:=Qd.at_some hp
     have l:n=φ a.region:=((k.2 (.inl b)).2.2 p g).1 b
     have:=S.next0 c o d (xs:=[]) (ns:=[]) Z (fun j x n h=>by simp at h) M.top.r
     rw[l]
     simp only[List.append_nil] at this
     unfold RM.on;simp only[List.append_nil]
     exact this
theorem Qcy {g:Q4 × Int × Qd}(h:IM.got M g=some M'):(g.2.1=14/\M'=M.over 6)\/(g.2.1=0/\M'=IM.push ({ M with h:=g.2.2 }) [g.1]):=by
 unfold IM.got at h;split at h
 ·cases h;exact .inl ⟨by assumption,Z⟩
 ·split at h
  ·cases h;exact .inr ⟨by assumption,Z⟩
  ·cases h
theorem Sim.made (S:Sim φ π M R) (m:M.done=false){a:Q4}{n:Int}(u:Rep M.h φ π a n){t:Qw}(d:t.sz<=16)(j:Qms M.h φ π t l) (h:M.one.got (M.h.put a t t.sz)=some M'):Qew M' (R.one.thing n t.sz l):=by
 cases hp:M.h.at a with
 | none =>
   have:M.h.put a t t.sz=(noV,20,M.h):=by unfold Qd.put;rw[hp]
   rw[this] at h
   rcases Qcy h with ⟨c,-⟩|⟨c,-⟩<;>cases c
 | some p =>
   obtain⟨g,s,-⟩:=Qd.at_some hp
   have v:n=φ a.region:=((u.2 (.inl g)).2.2 p s).1 g;subst v;unfold RM.thing;rcases S.heap.puts hp t d with ⟨f,b⟩|⟨f,b,w,o⟩
   ·rw[Xr (show ¬ R.one.e.getCode (φ a.region) t.sz=0 from f)]
    rcases Qcy h with ⟨-,rfl⟩|⟨c,-⟩
    ·exact S.stop 6
    ·rw[b] at c;cases c
   ·rw[Xs (show R.one.e.getCode (φ a.region) t.sz=0 from f)]
    rcases Qcy h with ⟨c,-⟩|⟨-,rfl⟩
    ·rw[b] at c;cases c
    ·obtain⟨π',i,q,k⟩:=o l j
     exact S.next0 m i q (xs:=[(M.h.put a t t.sz).1]) (ns:=[R.e.getAt (φ a.region) t.sz]) Z (Qgj k) M.top.r
theorem QfV (S:Sim φ π M R) (f:M.done=false) (u:x.args.length<=16) (e:x.op=5) (h:IM.ins m op M.one x=some M'):ZB m op R x M':=by
 rw[Zv (by omega)] at h
 unfold IM.mem at h;unfold ZB RM.ins;rw[Xr (by omega),Xr (by omega),Xr (by omega),Xr (by omega),Xs e]
 have F:=S.top f
 cases ha:QQ M.top.v x.a with
 | none=>rw[show QQ M.one.top.v x.a=none from ha] at h;cases h
 | some a =>
   obtain⟨n,p,r⟩:=F.at ha
   rw[show QQ M.one.top.v x.a=some a from ha] at h
   rw[show iAt R.one.top.v x.a=some n from p]
   simp only at h |-
   rw[Xr (by omega),Xs e] at h
   cases hl:Q8 M.top.v x.args with
   | none=>rw[show Q8 M.one.top.v x.args=none from hl] at h;cases h
   | some xs =>
     rw[show Q8 M.one.top.v x.args=some xs from hl] at h
     obtain⟨b,o,t,c,s⟩:=F.all hl
     rw[show Qaz R.one.top.v x.args=some b from o]
     simp only at h |-
     have i:((⟨false,xs⟩:Qw).sz:Int)=if xs.length=0 then 1 else (xs.length:Int):=by
      unfold Qw.sz;simp only[Bool.false_eq_true,if_false]
      split<;>omega
     unfold Qd.tuple at h;rw[<-i] at h
     have l:(if b.length=0 then 1 else (b.length:Int))=((⟨false,xs⟩:Qw).sz:Int):=by rw[i,c]
     rw[l]
     exact⟨_,Z,S.made f r (by unfold Qw.sz;simp only[Bool.false_eq_true,if_false];omega) ⟨fun _=>⟨c,fun j y g=>by
      obtain⟨k,d⟩:∃ k,b[j]?=some k:=⟨_,Zg (by rw[c];exact(Zi g).1)⟩
      have:=s j y k g d
      rw[List.getD_eq_getElem?_getD,d]
      exact this⟩,fun q=>by cases q⟩ h⟩
theorem QfI (S:Sim φ π M R) (f:M.done=false) (e:x.op=8) (h:IM.ins m op M.one x=some M'):ZB m op R x M':=by
 rw[Zv (by omega)] at h
 unfold IM.mem at h;unfold ZB RM.ins;rw[Xr (by omega),Xr (by omega),Xr (by omega),Xr (by omega),Xr (by omega),Xs e]
 have F:=S.top f
 cases ha:QQ M.top.v x.a with
 | none=>rw[show QQ M.one.top.v x.a=none from ha] at h;cases h
 | some a =>
   obtain⟨n,i,l⟩:=F.at ha
   rw[show QQ M.one.top.v x.a=some a from ha] at h
   rw[show iAt R.one.top.v x.a=some n from i]
   simp only at h |-
   rw[Xr (by omega),Xr (by omega),Xs e] at h
   cases hb:QS M.top.v x.b with
   | none=>rw[show QS M.one.top.v x.b=none from hb] at h;cases h
   | some k =>
     rw[show QS M.one.top.v x.b=some k from hb] at h
     rw[show iAt R.one.top.v x.b=some k from F.num hb]
     simp only at h |-
     by_cases d:k<0\/15<k
     ·rw[Xs d] at h;cases h
      rw[Xr (by omega)]
      exact⟨_,Z,S.stop 3⟩
     ·rw[Xr d] at h
      rw[Xs (by omega)]
      have c:M.one.got (M.h.array a k)=some M':=h;unfold Qd.array at c;rw[Xr d] at c
      have p:((⟨true,List.replicate k.toNat (Qcs 0)⟩:Qw).sz:Int)=k+1:=by
       unfold Qw.sz;simp;omega
      rw[<-p] at c |-
      refine⟨_,Z,S.made f l (by omega) ⟨fun o=>(by cases o),fun _=>⟨by simp;omega,fun j y g=>?_⟩⟩ c⟩
      exact List.eq_of_mem_replicate (Zm g)
theorem ZW {n:Int}(a:0<=n) (b:n<2000):wrap64 n=n:=by unfold wrap64;omega
theorem Qax (h:x.op=6\/x.op=7\/x.op=9\/x.op=10\/x.op=11):RM.ins op R x=R.part x:=by
 unfold RM.ins;rw[Xr (by omega),Xr (by omega),Xr (by omega),Xr (by omega),Xr (by omega),Xr (by omega),Xr (by omega),Xr (by omega),Xr (by omega)]
theorem QhM (S:Sim φ π M R) (c:M.done=false) (e:x.op=6) (h:IM.ins m op M.one x=some M'):ZB m op R x M':=by
 rw[Zv (by omega)] at h
 unfold IM.mem at h;unfold ZB;rw[Qax (by omega)]
 unfold RM.part;have F:=S.top c
 cases ha:QQ M.top.v x.a with
 | none=>rw[show QQ M.one.top.v x.a=none from ha] at h;cases h
 | some a =>
   obtain⟨n,j,d⟩:=F.at ha
   rw[show QQ M.one.top.v x.a=some a from ha] at h
   rw[show iAt R.one.top.v x.a=some n from j]
   simp only at h |-
   rw[Xr (by omega),Xr (by omega),Xr (by omega),Xs e] at h
   rw[Xs e]
   split at h
   ·rename_i b
    cases h
    obtain⟨o,p,f⟩:=S.heap.get d b.1 b.2
    have g:0<=n/\n<1024:=by
     cases ht:M.h.thing a with
     | none =>
       have:=b.2
       have i:(M.h.get a x.k).2=20:=by unfold Qd.get;rw[ht]
       rw[show (M.one.h.get a x.k).2=(M.h.get a x.k).2 from Z,i] at this;cases this
     | some t =>
       obtain⟨l,T⟩:=S.heap.at d ht
       have:=T.run.low S.heap.ok
       have:=S.heap.ok.ok.most
       have:=t.sz_pos
       simp only at *
       omega
    rw[ZW (by omega) (by omega)]
    exact⟨_,Z,S.one1 c f⟩
   ·cases h
theorem Qh8 (S:Sim φ π M R) (c:M.done=false) (e:x.op=11) (h:IM.ins m op M.one x=some M'):ZB m op R x M':=by
 rw[Zv (by omega)] at h
 unfold IM.mem at h;unfold ZB;rw[Qax (by omega)]
 unfold RM.part;have F:=S.top c
 cases ha:QQ M.top.v x.a with
 | none=>rw[show QQ M.one.top.v x.a=none from ha] at h;cases h
 | some a =>
   obtain⟨n,f,g⟩:=F.at ha
   rw[show QQ M.one.top.v x.a=some a from ha] at h
   rw[show iAt R.one.top.v x.a=some n from f]
   simp only at h |-
   rw[Xr (by omega),Xr (by omega),Xr (by omega),Xr (by omega),Xr (by omega),Xr (by omega),Xr (by omega)] at h
   rw[Xr (by omega),Xr (by omega),Xr (by omega),Xr (by omega),Xs e]
   split at h
   ·rename_i d
    cases h
    have b:=S.heap.len g d.1 d.2
    have:=S.one1 c (Qd5 (h:=M.h) (φ:=φ) (π:=π) (M.h.len a).1)
    rw[<-b] at this
    exact⟨_,Z,by rw[<-b];exact this⟩
   ·cases h
theorem Qhx (S:Sim φ π M R) (g:M.done=false) (e:x.op=9) (h:IM.ins m op M.one x=some M'):ZB m op R x M':=by
 rw[Zv (by omega)] at h
 unfold IM.mem at h;unfold ZB;rw[Qax (by omega)]
 unfold RM.part;have F:=S.top g
 cases ha:QQ M.top.v x.a with
 | none=>rw[show QQ M.one.top.v x.a=none from ha] at h;cases h
 | some a =>
   obtain⟨n,o,j⟩:=F.at ha
   rw[show QQ M.one.top.v x.a=some a from ha] at h
   rw[show iAt R.one.top.v x.a=some n from o]
   simp only at h |-
   rw[Xr (by omega),Xr (by omega),Xr (by omega),Xr (by omega),Xr (by omega),Xs e] at h
   rw[Xr (by omega),Xr (by omega),Xs e]
   cases hb:QS M.top.v x.b with
   | none=>rw[show QS M.one.top.v x.b=none from hb] at h;cases h
   | some k =>
     rw[show QS M.one.top.v x.b=some k from hb] at h
     rw[show iAt R.one.top.v x.b=some k from F.num hb]
     simp only at h |-
     split at h
     ·rename_i f
      split at h
      ·rename_i c
       cases h
       obtain⟨d,-⟩:=S.heap.num j f (.inr c)
       rw[Xr (show ¬ (0<=k/\k<R.one.load n) from d.1 c)]
       exact⟨_,Z,S.stop 2⟩
      ·rename_i c
       split at h
       ·rename_i i
        cases h
        obtain⟨d,l⟩:=S.heap.num j f (.inl i)
        obtain⟨t,r,q,u,w⟩:=l i
        rw[Xs (show 0<=k/\k<R.one.load n from Xq.1 (fun s=>c (d.2 s))),ZW (n:=n+1) (by omega) (by omega),ZW (by omega) q]
        refine⟨_,Z,S.one1 g ⟨fun _=>r,fun p=>?_⟩⟩
        rw[t] at p;omega
       ·cases h
     ·cases h
theorem Qjg (S:Sim φ π M R) (w:M.done=false) (e:x.op=7) (h:IM.ins m op M.one x=some M'):ZB m op R x M':=by
 rw[Zv (by omega)] at h
 unfold IM.mem at h;unfold ZB;rw[Qax (by omega)]
 unfold RM.part;have F:=S.top w
 cases ha:QQ M.top.v x.a with
 | none=>rw[show QQ M.one.top.v x.a=none from ha] at h;cases h
 | some a =>
   obtain⟨n,G,A⟩:=F.at ha
   rw[show QQ M.one.top.v x.a=some a from ha] at h
   rw[show iAt R.one.top.v x.a=some n from G]
   simp only at h |-
   rw[Xr (by omega),Xr (by omega),Xr (by omega),Xr (by omega),Xs e] at h
   rw[Xr (by omega),Xs e]
   cases hb:QQ M.top.v x.b with
   | none=>rw[show QQ M.one.top.v x.b=none from hb] at h;cases h
   | some y =>
     obtain⟨z,C,q⟩:=F.at hb
     rw[show QQ M.one.top.v x.b=some y from hb] at h
     rw[show iAt R.one.top.v x.b=some z from C]
     simp only at h |-
     split at h
     ·rename_i B
      cases h
      have d:(M.h.set a x.k y).1=0:=B.2
      cases ht:M.h.thing a with
      | none=>unfold Qd.set at d;rw[ht] at d;cases d
      | some t =>
        obtain⟨-,p,D,-,-,o⟩:=Qd.thing_iff.1 ht
        have f:t.arr=false:=by rw[o];simp[show a.kind=3 from B.1]
        have E:0<=x.k/\x.k.toNat<t.l.length:=by
         unfold Qd.set at d;rw[ht,D] at d
         simp only at d
         rw[Xr (fun c=>by rw[f] at c;cases c.1)] at d
         split at d
         ·cases d
         ·omega
        obtain⟨L,T⟩:=S.heap.at A ht
        have g:=T.run.low S.heap.ok;have H:=S.heap.ok.ok.most;have I:=t.sz_l f;simp only at g
        obtain⟨J,i,s⟩:=S.heap.set A ht E.2 (y:=y) (z:=z) (fun _=>q) (fun c=>by rw[f] at c;cases c)
        have u:((x.k.toNat:Nat):Int)=x.k:=by omega
        rw[u,f] at i
        rw[u] at s
        simp only[Bool.false_eq_true,if_false,Int.add_zero] at i
        rw[ZW (by omega) (by omega)]
        refine⟨_,Z,?_⟩
        exact S.next0 w i s (xs:=[]) (ns:=[]) Z (fun j x n h=>by simp at h) M.top.r |> fun K=>by
         simp only[List.append_nil] at K
         unfold RM.on;simp only[List.append_nil]
         exact K
     ·cases h
theorem QfE (S:Sim φ π M R) (w:M.done=false) (e:x.op=10) (h:IM.ins m op M.one x=some M'):ZB m op R x M':=by
 rw[Zv (by omega)] at h
 unfold IM.mem at h;unfold ZB;rw[Qax (by omega)]
 unfold RM.part;have F:=S.top w
 cases ha:QQ M.top.v x.a with
 | none=>rw[show QQ M.one.top.v x.a=none from ha] at h;cases h
 | some a =>
   obtain⟨n,D,A⟩:=F.at ha
   rw[show QQ M.one.top.v x.a=some a from ha] at h
   rw[show iAt R.one.top.v x.a=some n from D]
   simp only at h |-
   rw[Xr (by omega),Xr (by omega),Xr (by omega),Xr (by omega),Xr (by omega),Xr (by omega),Xs e] at h
   rw[Xr (by omega),Xr (by omega),Xr (by omega),Xs e]
   cases hb:QS M.top.v x.b with
   | none=>rw[show QS M.one.top.v x.b=none from hb] at h;cases h
   | some k =>
     rw[show QS M.one.top.v x.b=some k from hb] at h
     rw[show iAt R.one.top.v x.b=some k from F.num hb]
     simp only at h |-
     cases hcc:QS M.top.v x.c with
     | none=>rw[show QS M.one.top.v x.c=none from hcc] at h;cases h
     | some z =>
       rw[show QS M.one.top.v x.c=some z from hcc] at h
       rw[show iAt R.one.top.v x.c=some z from F.num hcc]
       simp only at h |-
       split at h
       ·rename_i B
        cases ht:M.h.thing a with
        | none =>
          have:(M.h.set a k (Qcs z))=(20,M.h):=by unfold Qd.set;rw[ht]
          rw[show M.one.h=M.h from Z,this] at h
          simp at h
        | some t =>
          obtain⟨-,p,G,-,-,o⟩:=Qd.thing_iff.1 ht
          have d:t.arr=true:=by rw[o];simp[show a.kind=4 from B]
          obtain⟨C,T⟩:=S.heap.at A ht
          have f:R.e.p.load n=t.l.length:=by
           have:=S.heap.load T (m:=0) t.sz_pos
           rw[Nat.add_zero] at this
           rw[C,this,T.len d]
          have g:=T.run.low S.heap.ok;have H:=S.heap.ok.ok.most;have I:=t.sz_a d;simp only at g
          by_cases q:k<0\/t.l.length<=k.toNat
          ·have:(M.h.set a k (Qcs z)).1=1:=by
            unfold Qd.set;rw[ht,G];simp only;rw[Xr (fun c=>c.2 Z),Xs q]
           rw[show M.one.h=M.h from Z,Xs this] at h
           cases h
           rw[Xr (show ¬ (0<=k/\k<R.one.load n) from fun c=>by have:k<R.e.p.load n:=c.2;rw[f] at this;omega)]
           exact⟨_,Z,S.stop 2⟩
          ·obtain⟨s,i,u⟩:=S.heap.set A ht (k:=k.toNat) (by omega) (y:=Qcs z) (z:=z) (fun c=>by rw[d] at c;cases c) (fun _=>⟨Z,Z⟩)
           have E:((k.toNat:Nat):Int)=k:=by omega
           rw[E] at s i u
           rw[show M.one.h=M.h from Z,Xr (by rw[s];decide),Xs s] at h
           cases h
           rw[d] at i
           simp only[if_true] at i
           rw[Xs (show 0<=k/\k<R.one.load n from ⟨by omega,by show k<R.e.p.load n;rw[f];omega⟩),ZW (n:=n+1) (by omega) (by omega),ZW (by omega) (by omega)]
           refine⟨_,Z,?_⟩
           have K:=S.next0 w i u (xs:=[]) (ns:=[]) Z (fun j x n h=>by simp at h) M.top.r;simp only[List.append_nil] at K
           unfold RM.on RM.stored;simp only[List.append_nil]
           rw[show n+1+k=n+k+1 by omega]
           exact K
       ·cases h
theorem Qhy (S:Sim φ π M R) (b:M.done=false) (o:M.rest.length<40) (e:x.op=14) (h:IM.ins m op M.one x=some M'):ZB m op R x M':=by
 unfold IM.ins at h;rw[Xr (by omega),Xr (by omega),Xr (by omega),Xr (by omega),Xr (by omega),Xs e] at h
 unfold IM.call at h;unfold ZB RM.ins;rw[Xr (by omega),Xr (by omega),Xr (by omega),Xr (by omega),Xr (by omega),Xr (by omega),Xr (by omega),Xr (by omega),Xs e]
 have F:=S.top b;have n:=(S.rest b).length
 cases hr:Qbx M.one.top.r x.regs with
 | none=>rw[hr] at h;cases h
 | some r =>
   rw[hr] at h
   simp only at h
   cases hv:Q8 M.top.v x.args with
   | none=>rw[show Q8 M.one.top.v x.args=none from hv] at h;cases h
   | some v =>
     rw[show Q8 M.one.top.v x.args=some v from hv] at h
     simp only at h
     obtain⟨c,f,l,d,j⟩:=F.all hv
     cases hg:m[x.k.toNat]? with
     | none=>rw[hg] at h;cases h
     | some g =>
       rw[hg] at h
       simp only at h
       split at h
       ·by_cases a:M.rest.length+1=40
        ·rw[Xs (show M.one.rest.length+1=40 from a)] at h
         cases h
         rw[Xr (show ¬ R.rest.length+1<40 by omega)]
         exact⟨_,Z,S.stop 5⟩
        ·rw[Xr (show ¬ M.one.rest.length+1=40 from a)] at h
         cases h
         rw[Xs (show R.rest.length+1<40 by omega),show Qaz R.one.top.v x.args=some c from f]
         refine⟨_,Z,⟨φ,π,S.heap,S.done,S.out,S.back,by show R.fuel+1=M.fuel+1;rw[S.fuel],S.fin,fun _=>S.inp b,fun _=>⟨Z,Z,Z,by simp[d],j⟩,fun _=>⟨⟨F.eF,F.eB,by show R.top.i+1=M.top.i+1;rw[F.eI],F.len,F.val⟩,S.rest b⟩⟩⟩
       ·cases h
theorem Qjt (S:Sim φ π M R) (a:M.done=false) (d:M.rest.length<40) (b:M.out.length<=2000) (f:1<=x.op/\x.op<=14) (c:x.op=5->x.args.length<=16) (h:IM.ins m op M.one x=some M'):ZB m op R x M':=by
 have:x.op=1\/x.op=2\/x.op=3\/x.op=4\/x.op=5\/x.op=6\/x.op=7\/x.op=8\/x.op=9\/x.op=10\/x.op=11\/x.op=12\/x.op=13\/x.op=14:=by omega
 rcases this with e | e | e | e | e | e | e | e | e | e | e | e | e | e
 ·exact QiO S a e h
 ·exact Qiq S a e h
 ·exact Qih S a e h
 ·exact QgS S a e h
 ·exact QfV S a (c e) e h
 ·exact QhM S a e h
 ·exact Qjg S a e h
 ·exact QfI S a e h
 ·exact Qhx S a e h
 ·exact QfE S a e h
 ·exact Qh8 S a e h
 ·exact QkV S a e h
 ·exact Qij S a b e h
 ·exact Qhy S a d e h
theorem Qf2 (S:Sim φ π M R) (a:M.done=false){fn:MFunc 6}{t:MTo}(h:IM.to fn { M with fuel:=M.fuel+1 } t=some M'):∃ R',R.one.to t=some R'/\Qew M' R':=by
 unfold IM.to at h;unfold RM.to;have F:=S.top a
 cases hb:fn.blocks[t.block.toNat]? with
 | none=>rw[hb] at h;cases h
 | some b =>
   rw[hb] at h
   simp only at h
   cases hr:Qbx M.top.r t.regs with
   | none=>rw[hr] at h;cases h
   | some r =>
     rw[hr] at h
     simp only at h
     cases hv:Q8 M.top.v t.args with
     | none=>rw[hv] at h;cases h
     | some v =>
       rw[hv] at h
       obtain⟨d,e,g,c,f⟩:=F.all hv
       rw[show Qaz R.one.top.v t.args=some d from e]
       simp only at h |-
       split at h
       ·cases h
        exact⟨_,Z,⟨φ,π,S.heap,S.done,S.out,S.back,by show R.fuel+1=M.fuel+1;rw[S.fuel],S.fin,fun _=>S.inp a,fun _=>⟨F.eF,Z,Z,by simp[c],f⟩,fun _=>S.rest a⟩⟩
       ·cases h
theorem Qi9 (S:Sim φ π M R) (f:M.done=false){fn:MFunc 6}{e:ZA}(p:1<=e.op/\e.op<=3) (h:IM.endd fn { M with fuel:=M.fuel+1 } e=some M'):∃ R',R.one.endd e=some R'/\Qew M' R':=by
 have F:=S.top f;unfold IM.endd at h;unfold RM.endd
 have:e.op=1\/e.op=2\/e.op=3:=by omega
 rcases this with g | g | g
 ·rw[Xs g] at h
  rw[Xr (by omega),Xr (by omega)]
  exact Qf2 S f h
 ·rw[Xr (by omega),Xs g] at h
  rw[Xr (by omega),Xs g]
  cases hn:QS M.top.v e.a with
  | none=>simp only[hn] at h;cases h
  | some n =>
    simp only[hn] at h
    rw[show iAt R.one.top.v e.a=some n from F.num hn]
    simp only
    split at h
    ·rename_i j;rw[Xs j];exact Qf2 S f h
    ·rename_i j;rw[Xr j];exact Qf2 S f h
 ·rw[Xr (by omega),Xr (by omega)] at h
  rw[Xs g]
  cases hv:Q8 M.top.v e.args with
  | none=>simp only[hv] at h;cases h
  | some v =>
    simp only[hv] at h
    obtain⟨ns,l,q,o,m⟩:=F.all hv
    rw[show Qaz R.one.top.v e.args=some ns from l]
    simp only
    split at h
    ·have c:=S.rest f
     cases hm:M.rest with
     | nil =>
       rw[hm] at h c
       cases hr:R.rest with
       | cons b k=>rw[hr] at c;exact c.elim
       | nil =>
         simp only at h
         cases hn:Qcf M.top.v e.args with
         | none=>rw[hn] at h;cases h
         | some n =>
           rw[hn] at h
           cases h
           have:=F.nums hn
           rw[l] at this
           cases this
           exact⟨_,Z,⟨φ,π,S.heap,Z,S.out,Z,by show R.fuel+1=M.fuel+1;rw[S.fuel],Z,fun h=>(by cases h),fun h=>(by cases h),fun h=>(by cases h)⟩⟩
     | cons d rest =>
       rw[hm] at h c
       cases hr:R.rest with
       | nil=>rw[hr] at c;exact c.elim
       | cons b k =>
         rw[hr] at c
         simp only at h
         cases h
         have G:=c.1.push (xs:=v) (ns:=ns) o m d.i b.i c.1.eI;exact⟨_,Z,⟨φ,π,S.heap,S.done,S.out,S.back,by show R.fuel+1=M.fuel+1;rw[S.fuel],S.fin,fun _=>S.inp f,fun _=>⟨G.eF,G.eB,G.eI,G.len,G.val⟩,fun _=>c.2⟩⟩
    ·cases h
def Qmz (m:List (MFunc 6)):Prop:=∀ (k:Nat) fn (q:Nat) bl,m[k]?=some fn->fn.blocks[q]?=some bl->(∀ x∈bl.code,(1<=x.op/\x.op<=14)/\(x.op=5->x.args.length<=16))/\1<=bl.fin.op/\bl.fin.op<=3
theorem Qhj (H:Qmz m) (S:Sim φ π M R) (a:M.done=false) (l:M.rest.length<40) (d:M.out.length<=2000)(h:IM.step m op most M=some M'):∃ R',RM.step m op most R=some R'/\Qew M' R':=by
 have F:=S.top a;unfold IM.step at h;unfold RM.step;rw[S.fuel]
 split at h
 ·rename_i c
  cases h
  rw[Xs c]
  exact⟨_,Z,Sim.over (H:=S.heap) S.out S.back S.fuel 7⟩
 ·rename_i c
  rw[Xr c,F.eF]
  cases hm:m[M.top.f]? with
  | none=>rw[hm] at h;cases h
  | some fn =>
    rw[hm] at h
    simp only at h |-
    rw[F.eB]
    cases hb:fn.blocks[M.top.b]? with
    | none=>rw[hb] at h;cases h
    | some bl =>
      rw[hb] at h
      simp only at h |-
      rw[F.eI]
      obtain⟨g,k⟩:=H _ fn _ bl hm hb
      cases hx:bl.code[M.top.i]? with
      | some x =>
        rw[hx] at h
        simp only at h |-
        obtain⟨e,j⟩:=g x (Zm hx)
        have:=Qjt S a l d e j h
        unfold ZB at this;rw[show R.one={ R with fuel:=M.fuel+1 } by show { R with fuel:=R.fuel+1 }=_;rw[S.fuel]] at this
        exact this
      | none =>
        rw[hx] at h
        simp only at h |-
        have:=Qi9 S a k h
        rw[show R.one={ R with fuel:=M.fuel+1 } by show { R with fuel:=R.fuel+1 }=_;rw[S.fuel]] at this
        exact this
theorem QgT (inp:List Int)(c:pages<=64):Qew (IM.start inp pages) (RM.start inp pages):=by
 have a:∀ k,(IM.start inp pages).h.place k=none:=fun k=>by
  show (Qd.new pages).place k=none;unfold Qd.place;simp[Qd.new]
 refine⟨fun _=>0,fun _ _=>0,⟨Est.ok_new pages c,?_,fun k p h=>?_,fun j k p q h=>?_,fun i r b=>?_,fun j r b=>?_,fun k p i t h=>?_,fun k p i t d g e f h=>?_⟩,Z,Z,Z,Z,Z,fun _=>rfl,fun _=>⟨Z,Z,Z,Z,fun j x n h=>by simp[IM.start] at h⟩,fun _=>trivial⟩
 ·show (pages:Int)=(PSt.new pages).free;simp[PSt.free,PSt.new]
 ·rw[a] at h;cases h
 ·rw[a] at h;cases h
 ·cases b
 ·cases b
 ·rw[a] at h;cases h
 ·rw[a] at h;cases h
end
theorem QeQ {α:Type}{f a:α->Option α}:∀ {l l':List α},(∀ x∈l,∀ u,f x=some u->a x=some u)->ZS f l=some l'->ZS a l=some l'
 | [],l',_,h=>by simp[ZS] at h;subst h;rfl
 | x::xs,l',hx,h=>by
   simp only[ZS] at h
   cases h1:f x with
   | none=>simp[h1] at h
   | some y =>
     simp only[h1] at h
     cases h2:ZS f xs with
     | none=>simp[h2] at h
     | some ys =>
       simp only[h2] at h
       cases h
       simp only[ZS,hx x (by simp) y h1,QeQ (fun z b=>hx z (by simp[b])) h2]
theorem TT.ren_more {m c:Nat}{d a:Nat->Int}(b:∀ k r r',ZJ m d k r=some r'->ZJ c a k r=some r'):{n:Nat}->{t u:TT n}->t.ren m d=some u->t.ren c a=some u
 | 0,t,_,_=>Empty.elim t
 | n+1,t,u,h=>by
   obtain⟨i,e,g⟩:=Zo h
   rw[ZR (b _ _ _ e) (QeQ (fun x _ v f=>TT.ren_more b f) g),<-i]
   rfl
section
variable {m:List (MFunc 6)}{g g':Sig}{M M':IM}{fn:MFunc 6}{bl:MBlock 6}{s:JSt}{x:Qt}{op:Int->Int->Int->Option Int}{h:Qd}{v:List Q4}{r:List Int}
theorem Qh2 (I:Inv m g M fn bl s) (T:bl.code[M.top.i]?=some x) (N:s.code x=0) (A:x.op=4):QbV m op M x:=by
 obtain⟨t,j,J,tk,tr,F,S,R⟩:=Qh4 N A
 have z:=(QN N).2.1;rw[Qau A,J] at z
 simp only at z
 obtain⟨ha,G⟩:=QD z
 have E:s.f.regs<=j:=by
  by_cases e:t.r<s.f.regs
  ·rw[Xs e] at G;cases G
  ·omega
 obtain⟨a,t',u,Q,X,e3,e4,e5,e6,e7,e8⟩:=I.fr.want ha
 rw[J] at Q;cases Q
 obtain⟨p,hp⟩:=e8 Z (by omega)
 have n:a.region=u.r:=by
  rcases e4 with ⟨c1,-⟩|⟨-,-,c⟩|⟨-,-,c,-⟩
  ·omega
  ·exact c
  ·exact c
 obtain⟨q1,q2,V⟩:=QlS e3 (by omega)
 have o:u.r=M.top.r.getD j 0:=by rw[V,tr];rfl
 have w:M.h.at a=some p:=by unfold Qd.at;rw[Xs e5,n];exact hp
 obtain⟨-,hq,i,K,W,aa⟩:=Qd.at_some w
 have q:M.h.shut a=(true,⟨M.h.L.set a.region.toNat noP,M.h.left+p.pages⟩):=by unfold Qd.shut;rw[w]
 have y:∀ k:Int,k≠u.r->(M.h.shut a).2.place k=M.h.place k:=fun k b=>by
  rw[q];simp only
  rw[Qd.place_set (by rw[K];exact(Zi W).1),Xr (fun e=>b (by rw[e,<-n,K];simp))]
 unfold QbV;rw[Zv (by omega)]
 unfold IM.mem;have C:QQ M.one.top.v x.a=some a:=X;rw[C]
 simp only
 rw[Xs A]
 show ∃ M',(if (M.h.shut a).1 then some { M.one with h:=(M.h.shut a).2 } else none)=some M'/\QbL m M';rw[Xs (by rw[q])]
 refine⟨_,Z,.inr ⟨g,fn,bl,_,I.on T Z Z Z Z ?_ (I.st.shut a) ?_⟩⟩
 ·rw[R]
  have d:∀ k,(s.H.set j false).getD k false=true->k≠j/\s.H.getD k false=true:=fun k b=>by
   by_cases e:k=j
   ·subst e;simp[List.getD,F] at b
   ·refine⟨e,?_⟩
    simpa[List.getD,List.getElem?_set_ne (Ne.symm e)] using b
  refine⟨by simpa using I.fr.rl,I.fr.pos,fun k b=>?_,fun k l b hl=>I.fr.dist k l (d k b).2 (d l hl).2,I.fr.vl,I.fr.val⟩
  obtain⟨U,O⟩:=d k b
  obtain⟨p',D⟩:=I.fr.held k O
  exact⟨p',by rw[y _ (fun e=>U (I.fr.dist k j O S (by rw[e,o])))];exact D⟩
 ·rw[R]
  refine I.stk.keep (fun _ _ _ h=>h) (fun k b B=>?_) (fun k b=>?_) (fun k _=>rfl)
  ·have:k≠u.r:=fun e=>b ⟨j,S,E,by rw[e,o]⟩
   show ∃ p,(M.h.shut a).2.place k=some p;rw[y k this];exact B
  ·obtain⟨l,P,l2,l3⟩:=b
   refine .inl ⟨l,?_,l2,l3⟩;by_cases e:l=j
   ·subst e;simp[List.getD,F] at P
   ·simpa[List.getD,List.getElem?_set_ne (Ne.symm e)] using P
theorem QjL (I:Inv m g M fn bl s) (hx:bl.code[M.top.i]?=some x) (hc:s.code x=0) (X:x.op=3) (hJ:s.f.regs<=s.H.length):QbV m op M x:=by
 have S:=QbD (s:=s) X;have h0:=(QN hc).2.1;have V:¬ s.H.length=16:=fun e=>by rw[S,Xs e] at h0;cases h0
 rw[Xr V] at S
 unfold QbV IM.ins;rw[Xr (by omega),Xr (by omega),Xs X]
 show ∃ M',(if M.h.open_.2.1 then some (IM.push { M.one with h:=M.h.open_.2.2,top:={ M.one.top with r:=M.top.r++[M.h.open_.1.region] } } [M.h.open_.1]) else some (M.one.over 6))=some M'/\QbL m M';by_cases ho:16<=M.h.live
 ·have:M.h.open_.2.1=false:=by unfold Qd.open_;rw[Xs ho]
  rw[Xr (by rw[this];decide)]
  exact⟨_,Z,IM.over_good _ _ _⟩
 ·have Q:M.h.open_=(⟨2,M.h.L.length,0,0⟩,true,{ M.h with L:=M.h.L++[newP] }):=by unfold Qd.open_;rw[Xr ho]
  rw[Xs (by rw[Q])]
  have D:M.h.open_.1.region=(M.h.L.length:Int):=by rw[Q]
  have K:∀ k:Int,M.h.open_.2.2.place k=if k=M.h.L.length then some newP else M.h.place k:=fun k=>by
   rw[Q];exact Qd.place_push M.h newP k M.h.left
  have n:∀ k p,M.h.place k=some p->∃ p,M.h.open_.2.2.place k=some p:=fun k p e=>by
   rw[K];split
   ·exact⟨_,Z⟩
   ·exact⟨p,e⟩
  have l:M.h.place (M.h.L.length:Int)=none:=by
   rw[Qd.place_nat,Xk Ze]
  have w:(s.next x).H=s.H++[true]:=by unfold JSt.next;simp only;rw[Xs X]
  have J:(s.next x).L=s.L++[mkT 2 s.H.length []]:=by unfold JSt.next;simp only;rw[S]
  have E:=I.fr.rl
  have d:∀ k,k<s.H.length->(M.top.r++[(M.h.L.length:Int)]).getD k 0=M.top.r.getD k 0:=fun k c=>by
   simp[List.getD,List.getElem?_append_left (show k<M.top.r.length by omega)]
  have o:(M.top.r++[(M.h.L.length:Int)]).getD s.H.length 0=M.h.L.length:=by
   simp[List.getD,<-E]
  have A:∀ k,(s.H++[true]).getD k false=true->(k<s.H.length/\s.H.getD k false=true)\/k=s.H.length:=fun k c=>by
   rcases Nat.lt_trichotomy k s.H.length with e | e | e
   ·refine .inl ⟨e,?_⟩;simpa[List.getD,List.getElem?_append_left e] using c
   ·exact .inr e
   ·rw[Qam _ (by simp;omega)] at c;cases c
  have C:∀ {t u:TT 6},rtm M.top.r t=some u->rtm (M.top.r++[(M.h.L.length:Int)]) t=some u:=fun {t u} hu=>by
   refine TT.ren_more (fun k q q' z=>?_) hu;unfold ZJ at z |-;by_cases c:k=1
   ·rw[Xs c] at z |-;exact z
   ·rw[Xr c] at z |-
    by_cases hb:q<0\/(M.top.r.length:Int)<=q
    ·rw[Xs hb] at z;cases z
    ·rw[Xr hb] at z
     rw[Xr (by simp;omega)]
     have e:=d q.toNat (by omega);simp only at z |-
     rw[e]
     exact z
  refine⟨_,Z,.inr ⟨g,fn,bl,_,I.on hx Z Z Z Z ?_ I.st.open ?_⟩⟩
  ·show FrT g M.h.open_.2.2 (s.next x) (M.top.v++[M.h.open_.1]) (M.top.r++[M.h.open_.1.region]);rw[D]
   refine⟨by rw[w];simp[E],fun k c=>?_,fun k c=>?_,fun j k hj c e=>?_,by rw[J];simp[I.fr.vl],fun j t y B F=>?_⟩
   ·rcases List.mem_append.1 c with e | e
    ·exact I.fr.pos k e
    ·simp at e;omega
   ·rw[w] at c
    rcases A k c with ⟨e1,e2⟩ | e
    ·rw[d k e1];obtain⟨p,P⟩:=I.fr.held k e2;exact n _ p P
    ·rw[e,o,K,Xs Z];exact⟨_,Z⟩
   ·rw[w] at hj c
    have G:∀ i,s.H.getD i false=true->i<s.H.length->M.top.r.getD i 0≠(M.h.L.length:Int):=fun i hi hl e=>by
     obtain⟨p,P⟩:=I.fr.held i hi
     rw[e,l] at P;cases P
    rcases A j hj with ⟨N,O⟩ | a<;>rcases A k c with ⟨T,b2⟩ | b
    ·rw[d j N,d k T] at e;exact I.fr.dist j k O b2 e
    ·rw[d j N,b,o] at e;exact absurd e (G j O N)
    ·rw[d k T,a,o] at e;exact absurd e.symm (G k b2 T)
    ·rw[a,b]
   ·rw[J] at B
    rcases Nat.lt_or_ge j s.L.length with e | e
    ·rw[XP e] at B
     rw[XP (by rw[I.fr.vl];exact e)] at F
     obtain⟨u,u1,u2⟩:=I.fr.val j t y B F
     exact⟨u,C u1,u2⟩
    ·rw[XQ e] at B
     rw[XQ (by rw[I.fr.vl];exact e),I.fr.vl] at F
     have W:j - s.L.length=0:=by have:=(Zi B).1;simp at this;omega
     rw[W] at B F
     simp at B F
     subst B F;refine⟨mkT 2 (M.h.L.length:Int) [],?_,.inr (.inl ⟨Z,by rw[Q],by rw[D];rfl⟩)⟩
     refine ZR (t:=(mkT 2 (s.H.length:Int) []:TT 6)) ?_ Z;show ZJ _ _ 2 (s.H.length:Int)=_;unfold ZJ;rw[Xr (by decide),Xr (by simp[E];omega)]
     simp only[Int.toNat_natCast]
     rw[o,Xr (by omega)]
  ·show Stk m g M.h.open_.2.2 (Own (s.next x) (M.top.r++[M.h.open_.1.region])) fn M.top.f (M.top.r++[M.h.open_.1.region]) M.rest;rw[D]
   have U:=I.mf.2;refine I.stk.keep (fun _ _ _ h=>h) (fun k _ ⟨p,e⟩=>n k p e) (fun k c=>?_) (fun k c=>?_)
   ·obtain⟨j,j1,j2,R⟩:=c
    rw[w] at j1
    rcases A j j1 with ⟨N,O⟩ | a
    ·rw[d j N] at R;exact .inl ⟨j,O,j2,R⟩
    ·rw[a,o] at R;exact .inr (by rw[<-R];exact l)
   ·rcases Nat.lt_or_ge k s.H.length with e | e
    ·exact d k e
    ·rw[<-U] at c;omega
theorem QeO (F:FrT g h s v r):∀ {l:List Int},(∀ k∈l,hHas s.H k=true)->∃ r',Qbx r l=some r'/\r'.length=l.length/\(∀ j,j<l.length->r'.getD j 0=r.getD (l.getD j 0).toNat 0)/\∀ k∈r',0<=k
 | [],_=>⟨[],Z,Z,fun j c=>by simp at c,fun k b=>by simp at b⟩
 | k::l,hl=>by
   obtain⟨r',o,f,m,n⟩:=QeO F (l:=l) (fun z d=>hl z (by simp[d]))
   have b:=hl k (by simp);unfold hHas at b;simp only[Bool.and_eq_true,decide_eq_true_eq] at b
   have a:k.toNat<r.length:=by
    rw[F.rl]
    rcases Nat.lt_or_ge k.toNat s.H.length with e | e
    ·exact e
    ·rw[Qam _ e] at b;exact absurd b.2 (by decide)
   have i:Qlw r k=some r[k.toNat]:=by unfold Qlw;rw[Xr (by omega)];exact Zg a
   refine⟨r[k.toNat]::r',by simp only[Qbx,i,o],by simp[f],fun j c=>?_,fun z d=>?_⟩
   ·cases j with
    | zero=>simp[List.getD,Zg a]
    | succ j=>have:=m j (by simpa using c);simpa[List.getD] using this
   ·rcases List.mem_cons.1 d with e | e
    ·rw[e];exact F.pos _ (List.getElem_mem a)
    ·exact n z e
theorem Qed {r r':List Int}(v:n<=l.length) (s:n<=r'.length) (f:∀ j,j<n->0<=l.getD j 0/\(l.getD j 0).toNat<r.length) (g:∀ k∈r,0<=k) (m:∀ j,j<n->r'.getD j 0=r.getD (l.getD j 0).toNat 0){t d:TT 6}(o:t.ren n (fun i=>l.getD i 0)=some d):∃ u,rtm r d=some u/\t.ren n (fun i=>r'.getD i 0)=some u:=by
 refine TT.ren_comp (fun k q x a=>?_) o;unfold ZJ at a;by_cases b:k=1
 ·rw[Xs b] at a;cases a
  exact⟨q,by unfold ZJ;rw[Xs b],by unfold ZJ;rw[Xs b]⟩
 ·rw[Xr b] at a
  by_cases c:q<0\/(n:Int)<=q
  ·rw[Xs c] at a;cases a
  ·rw[Xr c] at a
   obtain⟨w,e⟩:=f q.toNat (by omega)
   have h:=m q.toNat (by omega);simp only at a
   rw[Xr (by omega)] at a
   cases a
   have p:0<=r.getD (l.getD q.toNat 0).toNat 0:=by
    have:r.getD (l.getD q.toNat 0).toNat 0=r[(l.getD q.toNat 0).toNat]:=by rw[List.getD_eq_getElem?_getD,Zg e];rfl
    rw[this];exact g _ (List.getElem_mem e)
   refine⟨r.getD (l.getD q.toNat 0).toNat 0,?_,?_⟩
   ·unfold ZJ;rw[Xr b,Xr (by omega)]
    simp only
    rw[Xr (by omega)]
   ·unfold ZJ;rw[Xr b,Xr c]
    simp only
    rw[h,Xr (by omega)]
theorem Qft (F:FrT g h s v r){l:List Int}:∀ {a:List Int}{ts:List (TT 6)},a.length=ts.length->Qu (fun p:Int × TT 6=>s.arg l p.1 p.2) (a.zip ts)=0->∃ xs,Q8 v a=some xs/\xs.length=ts.length/\∀ (j:Nat) (y:Q4) (t:TT 6),xs[j]?=some y->ts[j]?=some t->∃ us u,t.ren l.length (fun i=>l.getD i 0)=some us/\rtm r us=some u/\QdY g y u
 | [],ts,hl,h0=>by
   have:ts=[]:=Xf.1 hl.symm
   subst this;exact⟨[],Z,Z,fun j y t c=>by simp at c⟩
 | k::a,[],hl,h0=>by simp at hl
 | k::a,t::ts,hl,h0=>by
   have m:=QE.1 h0;obtain⟨xs,C,n,x⟩:=Qft F (a:=a) (ts:=ts) (by simpa using hl) (QE.2 (fun p o=>m p (by simp[o])))
   have b:s.arg l k t=0:=m (k,t) (by simp);unfold JSt.arg at b
   cases ek:s.at k with
   | none=>rw[ek] at b;cases b
   | some us =>
     rw[ek] at b
     simp only at b
     by_cases f:ZU (t.ren l.length (fun i=>l.getD i 0)=some us)=true
     ·have d:t.ren l.length (fun i=>l.getD i 0)=some us:=by simpa[ZU] using f
      obtain⟨y,u,A,B,q⟩:=F.at ek
      refine⟨y::xs,by simp only[Q8,A,C],by simp[n],fun j w z c e=>?_⟩
      cases j with
      | zero=>simp at c e;subst c e;exact⟨us,u,d,B,q⟩
      | succ j=>exact x j w z (by simpa using c) (by simpa using e)
     ·rw[Xr f] at b;cases b
theorem QbM (a:n<=16) (k:Nat):(QbU (n:Int)).getD k false=true↔k<n:=by
 unfold QbU
 have:(min (n:Int) 16).toNat=n:=by omega
 rw[this]
 rcases Nat.lt_or_ge k n with e | e
 ·simp[List.getD,e]
 ·simp[List.getD,e]
theorem FrT.hand (F:FrT g h s v r){a:List Int}{ts:List (TT 6)}(p:l.length<=16) (E:∀ k∈l,hHas s.H k=true) (x:l.Nodup) (q:s.args a ts l=0) (N:List (MFunc 6)) (J:MFunc 6) :
 ∃ r' v',Qbx r l=some r'/\Q8 v a=some v'/\r'.length=l.length/\v'.length=ts.length/\(∀ j,j<l.length->r'.getD j 0=r.getD (l.getD j 0).toNat 0)/\FrT g h ⟨N,J,QbU (l.length:Int),ts⟩ v' r':=by
 obtain⟨r',P,B,w,Q⟩:=QeO F E
 unfold JSt.args at q;by_cases i:a.length=ts.length
 ·rw[Xs i] at q
  obtain⟨v',S,A,M⟩:=Qft F i q
  have d:∀ j,j<l.length->0<=l.getD j 0/\s.H.getD (l.getD j 0).toNat false=true/\(l.getD j 0).toNat<r.length:=fun j o=>by
   have G:l.getD j 0∈l:=by simp only[List.getD,Zg o,Option.getD_some];exact List.getElem_mem o
   have m:=E _ G;unfold hHas at m;simp only[Bool.and_eq_true,decide_eq_true_eq] at m
   refine⟨m.1,m.2,?_⟩
   rw[F.rl]
   rcases Nat.lt_or_ge (l.getD j 0).toNat s.H.length with e | e
   ·exact e
   ·have C:=m.2;rw[Qam _ e] at C;cases C
  refine⟨r',v',P,S,B,A,w,⟨?_,Q,fun k m=>?_,fun j k o m e=>?_,A,fun j t y T K=>?_⟩⟩
  ·show r'.length=(QbU (l.length:Int)).length
   have:=Qel (n:=(l.length:Int)) ⟨by omega,by omega⟩
   omega
  ·have b:=(QbM p k).1 m;rw[w k b]
   exact F.held _ (d k b).2.1
  ·have f:=(QbM p j).1 o;have b:=(QbM p k).1 m;rw[w j f,w k b] at e
   have:=F.dist _ _ (d j f).2.1 (d k b).2.1 e
   have z:l.getD j 0=l.getD k 0:=by have:=(d j f).1;have:=(d k b).1;omega
   simp only[List.getD,Zg f,Zg b,Option.getD_some] at z
   rcases Nat.lt_trichotomy j k with c | c | c
   ·exact absurd z (List.pairwise_iff_getElem.1 x j k f b c)
   ·exact c
   ·exact absurd z.symm (List.pairwise_iff_getElem.1 x k j b f c)
  ·obtain⟨U,u,I,D,R⟩:=M j y t K T
   obtain⟨V,L,O⟩:=Qed Ze (by omega) (fun j o=>⟨(d j o).1,(d j o).2.2⟩) F.pos w I
   rw[L] at D;cases D
   exact⟨_,by show t.ren r'.length _=_;rw[B];exact O,R⟩
 ·rw[Xr i] at q;cases q
theorem Qbi {H:List Bool}:∀ {l ahead:List Int},QL H ahead l=0->l.Nodup/\∀ k∈l,k ∉ ahead
 | [],_,_=>⟨by simp,fun k a=>by simp at a⟩
 | k::l,ahead,h=>by
   simp only[QL] at h
   split at h
   ·split at h
    ·cases h
    ·rename_i d
     obtain⟨f,c⟩:=Qbi h
     refine⟨List.nodup_cons.2 ⟨fun a=>c k a (by simp),f⟩,fun z g=>?_⟩
     rcases List.mem_cons.1 g with e | e
     ·rw[e];exact fun b=>d (inB_iff.2 b)
     ·exact fun b=>c z e (by simp[b])
   ·cases h
theorem QcE {H:List Bool}:∀ {l ahead:List Int},hPass H ahead l=0->l.Nodup/\(∀ k∈l,k ∉ ahead)/\∀ k∈l,hHas H k=true
 | [],_,_=>⟨by simp,fun k a=>by simp at a,fun k a=>by simp at a⟩
 | k::l,ahead,h=>by
   simp only[hPass] at h
   split at h
   ·rename_i b
    split at h
    ·cases h
    ·rename_i i
     obtain⟨j,f,g⟩:=QcE h
     refine⟨List.nodup_cons.2 ⟨fun a=>f k a (by simp),j⟩,fun z d=>?_,fun z d=>?_⟩
     ·rcases List.mem_cons.1 d with e | e
      ·rw[e];exact fun c=>i (inB_iff.2 c)
      ·exact fun c=>f z e (by simp[c])
     ·rcases List.mem_cons.1 d with e | e
      ·rw[e];exact b
      ·exact g z e
   ·cases h
theorem Z4 (g:(modFault m).1=0){f:MFunc 6}(j:m[k]?=some f):∃ b,f.blocks[0]?=some b/\b.regs=f.regs/\b.params=f.params/\f.right m.length/\(k=0->f.regs=0/\f.params.length=0/\∀ t∈f.results,t.kind=1):=by
 have n:=(Zn g).2 f (Zm j);obtain⟨b,l⟩:∃ b,f.blocks[0]?=some b:=⟨_,Zg n.many.1⟩
 unfold modFault at g;split at g
 ·cases g
 have a:=QR g k f j;rw[XK] at a
 unfold MFunc.fault at a;split at a
 ·cases a
 split at a
 ·rename_i c;exact absurd a c
 split at a
 ·rename_i c;exact absurd a c
 split at a
 ·cases a
 split at a
 ·cases a
 rename_i h
 have c:=QR a 0 b l;simp only[Nat.zero_add] at c
 unfold MBlock.fault at c;split at c
 ·cases c
 split at c
 ·rename_i o;exact absurd c o
 split at c
 ·cases c
 rename_i i
 have d:b.regs=f.regs/\QcF b.params f.params=true:=by
  constructor
  ·exact Xq.1 fun e=>i ⟨Z,.inl e⟩
  ·cases e:QcF b.params f.params with
   | true=>rfl
   | false=>exact absurd ⟨Z,.inr e⟩ i
 refine⟨b,l,d.1,QcO.1 d.2,n,fun p=>?_⟩
 have:f.regs=0/\f.params.length=0/\f.results.all (fun t=>t.kind==1)=true:=Xq.1 fun e=>h ⟨p,e⟩
 refine⟨this.1,this.2.1,fun t q=>?_⟩
 have:=Xe.1 this.2.2 t q
 simpa using this
theorem Qin (E:(modFault m).1=0) (I:Inv m g M fn bl s) (A:bl.code[M.top.i]?=some x) (K:s.code x=0) (e:x.op=14):QbV m op M x:=by
 obtain⟨a,f,-⟩:=QN K
 have u:0<=x.k/\x.k<m.length/\x.regs.length<=6:=by
  rw[I.mf.1] at a
  unfold Qt.form at a;repeat' split at a
  all_goals first | omega | cases a
 obtain⟨c,d⟩:∃ c,m[x.k.toNat]?=some c:=⟨_,Zg (by omega)⟩
 rw[Qba e,I.mf.1,d] at f
 simp only at f
 by_cases p:(x.regs.length:Int)=c.regs
 ·rw[Xs p] at f
  obtain⟨C,G⟩:=QD f
  obtain⟨l,q,D,H,T,-⟩:=Z4 E d
  obtain⟨z,B,P,J,U,Q,R,F⟩:=I.fr.hand (by omega) (ZC C) (Qbi C).1 G m c
  unfold QbV IM.ins;rw[Xr (by omega),Xr (by omega),Xr (by omega),Xr (by omega),Xr (by omega),Xs e]
  unfold IM.call;have w:Qbx M.one.top.r x.regs=some z:=P;have t:Q8 M.one.top.v x.args=some B:=J;rw[w,t,d]
  simp only
  rw[Xs ⟨by omega,Q⟩]
  by_cases o:M.rest.length+1=40
  ·rw[Xs o];exact⟨_,Z,IM.over_good _ _ _⟩
  ·rw[Xr o]
   refine⟨_,Z,.inr ⟨g,c,l,JSt.start m c l,⟨d,q,Xb _,Z,?_,I.st,?_⟩⟩⟩
   ·show FrT g M.h ⟨m,c,QbU l.regs,l.params⟩ B z;rw[D,H,<-p];exact F
   ·have L:=(Zi A).1
    have b:∀ k,¬ Own (JSt.start m c l) z k:=fun k ⟨j,N,S,V⟩=>by
     have n:(QbU l.regs).getD j false=true:=N;rw[D,<-p] at n
     have:=(QbM (by omega) j).1 n
     have O:c.regs<=j:=S;omega
    refine⟨fn,bl,x,s,I.hf,I.hb,Nat.succ_pos _,by simpa using A,e,by show x.k=((x.k.toNat:Nat):Int);omega,by simpa using I.hs,I.fr,fun k u=>R k (by omega),fun k _=>b _,?_⟩
    refine I.stk.keep (fun _ _ _ h=>h) (fun k _ h=>h) (fun k u=>?_) (fun k _=>rfl);rcases u with y | y
    ·exact absurd y (b k)
    ·exact .inl y
 ·rw[Xr p] at f;cases f
end
theorem JSt.next_len (s:JSt) (x:Qt):s.H.length<=(s.next x).H.length:=by
 unfold JSt.next
 simp only
 split
 ·simp
 ·split
  ·simp
  ·exact Ze
theorem JSt.upto_len:∀ (l:List Qt) (s:JSt),s.H.length<=(s.upto l).H.length
 | [],s=>Ze
 | x::l,s=>Zt (s.next_len x) (JSt.upto_len l (s.next x))
section
variable {m:List (MFunc 6)}{g g':Sig}{M M':IM}{fn:MFunc 6}{bl:MBlock 6}{s:JSt}{x:Qt}{op:Int->Int->Int->Option Int}{h:Qd}{v:List Q4}{r:List Int}
theorem QlY (d:(modFault m).1=0)(c:m[k]?=some fn) (e:fn.blocks[q]?=some bl) (l:List Qt):fn.regs<=((JSt.start m fn bl).upto l).H.length:=by
 have b:=(Zn d).2 fn (Zm c);have a:=b.blocks bl (Zm e);have g:=JSt.upto_len l (JSt.start m fn bl);have h:=Qel (n:=bl.regs) ⟨by have:=b.regs;have:=a.regs;omega,a.regs.2⟩;have f:(JSt.start m fn bl).H.length=(QbU bl.regs).length:=rfl
 have:=a.regs
 omega
theorem Inv.kept (a:(modFault m).1=0) (I:Inv m g M fn bl s):s.f.regs<=s.H.length:=by
 rw[I.mf.2,I.hs];exact QlY a I.hf I.hb _
theorem Qha (h:Qdj n regs=0):∀ i,i<n->regs.getD i 0=(i:Int):=by
 unfold Qdj at h;split at h
 ·rename_i a
  intro i b
  have:=Xe.1 a i (List.mem_range.2 b)
  simpa using this
 ·cases h
theorem Qf6 (G:(modFault m).1=0) (I:Inv m g M fn bl s){t:MTo}(d:s.to t=0) (B:0<=t.block/\t.block<fn.blocks.length/\t.regs.length<=16):∃ M',IM.to fn { M with fuel:=M.fuel+1 } t=some M'/\QbL m M':=by
 obtain⟨b,p⟩:∃ b,fn.blocks[t.block.toNat]?=some b:=⟨_,Zg (by omega)⟩
 unfold JSt.to at d;rw[I.mf.2,p] at d
 simp only at d
 by_cases q:(t.regs.length:Int)=b.regs
 ·rw[Xs q] at d
  obtain⟨U,d⟩:=QD d
  obtain⟨Q,S⟩:=QD d
  have n:=Qha U;obtain⟨v,-,A⟩:=QcE Q
  obtain⟨x,H,R,J,e3,T,E,F⟩:=I.fr.hand B.2.2 A v S m fn
  have C:=(Zn G).2 fn (Zm I.hf);have K:=C.blocks b (Zm p);have r1:=C.regs;have X:=K.regs;have u:=I.mf.2;unfold IM.to;rw[p]
  simp only
  rw[R,J]
  simp only
  rw[Xs ⟨by omega,T⟩]
  refine⟨_,Z,.inr ⟨g,fn,b,JSt.start m fn b,⟨I.hf,p,Xb _,Z,?_,I.st,?_⟩⟩⟩
  ·show FrT g M.h ⟨m,fn,QbU b.regs,b.params⟩ H x;rw[<-q];exact F
  ·refine I.stk.keep (fun _ _ _ h=>h) (fun k _ h=>h) (fun k i=>?_) (fun k i=>?_)
   ·obtain⟨j,O,V,W⟩:=i
    have o:(QbU b.regs).getD j false=true:=O;rw[<-q] at o
    have f:=(QbM B.2.2 j).1 o;have P:fn.regs<=j:=V;have w:x.getD j 0=k:=W;have y:t.regs.getD j 0∈t.regs:=by rw[List.getD_eq_getElem?_getD,Zg f];exact List.getElem_mem f
    have i:=A _ y;unfold hHas at i;simp only[Bool.and_eq_true,decide_eq_true_eq] at i
    refine .inl ⟨(t.regs.getD j 0).toNat,i.2,?_,by rw[<-E j f];exact w⟩;rw[u]
    refine Int.not_lt.1 fun L=>?_;have N:=n (t.regs.getD j 0).toNat (by omega);have a:(t.regs.getD j 0).toNat<t.regs.length:=by omega
    have e:t.regs.getD (t.regs.getD j 0).toNat 0=t.regs.getD j 0:=by rw[N];omega
    have l:(t.regs.getD j 0).toNat≠j:=by omega
    generalize (t.regs.getD j 0).toNat=z at a e l;rw[List.getD_eq_getElem?_getD,List.getD_eq_getElem?_getD,Zg f,Zg a] at e
    have D:t.regs[z]=t.regs[j]:=e;rcases Nat.lt_trichotomy z j with c | c | c
    ·exact List.pairwise_iff_getElem.1 v z j a f c D
    ·exact l c
    ·exact List.pairwise_iff_getElem.1 v j z f a c D.symm
   ·show x.getD k 0=M.top.r.getD k 0;rw[E k (by omega),n k (by omega)]
    rfl
 ·rw[Xr q] at d;cases d
theorem Qe8 {v:List Q4}:∀ {a:List Int}{xs:List Q4},Q8 v a=some xs->(∀ y∈xs,y.kind=1)->∃ ns,Qcf v a=some ns
 | [],xs,_,_=>⟨[],Z⟩
 | k::a,xs,h,hk=>by
   simp only[Q8] at h
   cases h1:QQ v k with
   | none=>rw[h1] at h;cases h
   | some y =>
     rw[h1] at h
     simp only at h
     cases h2:Q8 v a with
     | none=>rw[h2] at h;cases h
     | some ys =>
       rw[h2] at h
       simp only at h
       cases h
       obtain⟨ns,b⟩:=Qe8 h2 (fun z c=>hk z (by simp[c]))
       have:QS v k=some y.n:=by unfold QS;rw[h1];simp only;rw[Xs (hk y (by simp))]
       exact⟨y.n::ns,by simp only[Qcf,this,b]⟩
theorem QgE (n:Nat):(QhC n).length=n:=by simp[QhC]
theorem Qgm (h:j<n):(QhC n).getD j 0=(j:Int):=by simp[QhC,List.getD,h]
theorem QkE (R:(Qq m).1=0) (I:Inv m g M fn bl s){e:ZA}(O:s.fin e=0) (h3:e.op=3):∃ M',IM.endd fn { M with fuel:=M.fuel+1 } e=some M'/\QbL m M':=by
 obtain⟨hM,L⟩:=Qb4 R
 have B:=I.mf.2;unfold JSt.fin at O;split at O
 ·rename_i hn;exact absurd O hn
 rw[Xr (by omega),Xr (by omega)] at O
 obtain⟨K,C⟩:=QD O
 rw[B] at K C
 have al:∀ k,¬ Own s M.top.r k:=fun k ⟨j,T,j2,j3⟩=>by
  split at C
  ·rename_i hq
   have z:(j:Int)∈Qak s.H:=(Qc8 s.H _).2 (by unfold hHas;simp only[Int.toNat_natCast,T,Bool.and_true];simp)
   have:=Xe.1 hq _ z
   simp only[decide_eq_true_eq] at this
   rw[B] at j2;omega
  ·cases C
 unfold JSt.args at K;by_cases o:e.args.length=fn.results.length
 ·rw[Xs o] at K
  obtain⟨xs,f1,W,f3⟩:=Qft I.fr o K
  rw[QgE] at f3
  have Q:=(Zn hM).2 fn (Zm I.hf);have D:=I.kept hM;rw[B,<-I.fr.rl] at D
  unfold IM.endd;rw[Xr (by omega),Xr (by omega)]
  show ∃ M',(match Q8 M.top.v e.args with | none=>none | some v=>_)=some M'/\QbL m M';rw[f1]
  simp only
  rw[Xs W]
  cases er:M.rest with
  | nil =>
    have P:=I.stk;rw[er] at P
    have E:M.top.f=0:=P;obtain⟨b0,-,-,-,-,hz⟩:=Z4 hM I.hf
    obtain⟨-,-,hz⟩:=hz E
    obtain⟨ns,ae⟩:=Qe8 f1 (fun y hy=>by
     obtain⟨j,q⟩:=List.mem_iff_getElem?.1 hy
     obtain⟨t,ht⟩:∃ t,fn.results[j]?=some t:=⟨_,Zg (by rw[<-W];exact(Zi q).1)⟩
     obtain⟨us,u,V,U,a3⟩:=f3 j y t q ht
     rw[a3.kind,Qgp U,show us.kind=t.kind from (Zo V).1]
     exact hz t (Zm ht))
    simp only
    rw[ae]
    exact⟨_,Z,.inl Z⟩
  | cons d rest =>
    have P:=I.stk;rw[er] at P
    obtain⟨G,a,x,A,d1,d2,d3,d4,d5,d6,d7,F,d8,d9,X⟩:=P
    simp only
    have N:=JSt.upto_mf (a.code.take (d.i - 1)) (JSt.start m G a);rw[<-d7] at N
    have hc:=(L _ G _ a d1 d2).1 (d.i - 1) x d4;rw[<-d7] at hc
    have E:=(QN hc).2.1;have z:=Qba (s:=A) d5;have S:A.m=m:=N.1;have aj:m[x.k.toNat]?=some fn:=by rw[d6,XT];exact I.hf
    rw[S,aj] at z
    simp only at z
    have ah:(x.regs.length:Int)=fn.regs:=Xq.1 fun aa=>by rw[z,Xr aa] at E;cases E
    rw[Xs ah] at z
    rw[z] at E
    obtain⟨ai,-⟩:=QD E
    have am:=(Zi d4).1
    have w:∀ j,j<x.regs.length->0<=x.regs.getD j 0/\(x.regs.getD j 0).toNat<d.r.length:=fun j q=>by
     have ad:x.regs.getD j 0∈x.regs:=by rw[List.getD_eq_getElem?_getD,Zg q];exact List.getElem_mem q
     have J:=ZC ai _ ad;unfold hHas at J;simp only[Bool.and_eq_true,decide_eq_true_eq] at J
     refine⟨J.1,?_⟩
     rw[F.rl]
     rcases Nat.lt_or_ge (x.regs.getD j 0).toNat A.H.length with c | c
     ·exact c
     ·have h2:=J.2;rw[Qam _ c] at h2;cases h2
    have ak:=Q.regs;have hn:fn.regs.toNat=x.regs.length:=by omega
    refine⟨_,Z,.inr ⟨g,G,a,A.next x,⟨d1,d2,by show d.i<=_;omega,?_,?_,I.st,?_⟩⟩⟩
    ·show A.next x=(JSt.start m G a).upto (a.code.take d.i)
     have:d.i=d.i - 1+1:=by omega
     rw[this,XV,d4]
     show A.next x=(JSt.start m G a).upto (a.code.take (d.i - 1)++[x])
     rw[JSt.upto_snoc,<-d7]
    ·show FrT g M.h (A.next x) (d.v++xs) d.r;refine F.push (ts:=fn.results.map (Qaj x.regs)) (by simp[W]) (fun j y t' hy p=>?_) (Qa1 (by omega) (by omega)) (by unfold JSt.next;simp only;rw[z]);rw[XS] at p
     cases et:fn.results[j]? with
     | none=>rw[et] at p;cases p
     | some t =>
       rw[et] at p
       have ab:Qaj x.regs t=t':=Xn p;obtain⟨us,u,V,U,a3⟩:=f3 j y t hy et
       have ac:=Q.results.2 t (Zm et);obtain⟨ag,c1,-⟩:=Qf8 (m:=x.regs.length) (too:=fun i=>x.regs.getD i 0) (b:=(d.r.length:Int)) (by omega) (fun i hi=>⟨(w i hi).1,by have:=(w i hi).1;have:=(w i hi).2;omega⟩) ac
       have af:t'=ag:=by rw[<-ab];unfold Qaj;rw[c1];rfl
       obtain⟨u1,g1,g2⟩:=Qed (l:=x.regs) (r:=d.r) (r':=M.top.r) (n:=x.regs.length) Ze (by omega) w F.pos (fun j q=>d8 j (by omega)) c1
       rw[hn] at V
       obtain⟨u2,g3,g4⟩:=Qed (l:=QhC x.regs.length) (r:=M.top.r) (r':=M.top.r) (n:=x.regs.length) (by rw[QgE];exact Ze) (by omega) (fun j q=>by rw[Qgm q];exact⟨by omega,by simp;omega⟩) I.fr.pos (fun j q=>by rw[Qgm q];rfl) V
       rw[g3] at U;cases U
       rw[g2] at g4;cases g4
       exact⟨_,by rw[af];exact g1,a3⟩
    ·show Stk m g M.h (Own (A.next x) d.r) G d.f d.r rest;refine X.keep (fun _ _ _ h=>h) (fun k _ h=>h) (fun k J=>?_) (fun k _=>rfl);obtain⟨j,T,j2,j3⟩:=J
     rw[Qa1 (by omega) (by omega)] at T
     exact .inl (.inr ⟨j,T,j2,j3⟩)
 ·rw[Xr o] at K;cases K
theorem Qkr (R:(Qq m).1=0) (I:Inv m g M fn bl s){e:ZA}(b:s.fin e=0):∃ M',IM.endd fn { M with fuel:=M.fuel+1 } e=some M'/\QbL m M':=by
 have k:=(Qb4 R).1;have l:=b;have o:=I.mf.2;unfold JSt.fin at b;split at b
 ·rename_i q;exact absurd b q
 rename_i a
 have a:=Xq.1 a;rw[o] at a
 have y:(e.op=1\/e.op=2\/e.op=3)/\(e.op≠3->0<=e.yes.block/\e.yes.block<fn.blocks.length/\e.yes.regs.length<=16)/\(e.op=2->0<=e.no.block/\e.no.block<fn.blocks.length/\e.no.regs.length<=16):=by
  unfold ZA.form at a;split at a
  ·cases a
  split at a
  ·cases a
  split at a
  ·cases a
  split at a
  ·rename_i f;exact absurd a f
  rename_i p h v f
  have f:=Xq.1 f
  have d:∀ (t:MTo),t.form fn.blocks.length true=0->0<=t.block/\t.block<fn.blocks.length/\t.regs.length<=16:=fun t c=>by
   unfold MTo.form at c;rw[Xr (by decide)] at c
   split at c
   ·cases c
   split at c
   ·cases c
   omega
  exact⟨by omega,fun j=>d _ (by simpa[j] using f),fun i=>d _ (by simpa[i] using a)⟩
 obtain⟨x,u,q⟩:=y
 rcases x with p | h | v
 ·rw[Xs p] at b
  unfold IM.endd;rw[Xs p]
  exact Qf6 k I b (u (by omega))
 ·rw[Xr (by omega),Xs h] at b
  obtain⟨A,b⟩:=QD b
  obtain⟨z,w⟩:=QD b
  obtain⟨n,B⟩:=I.fr.num A
  unfold IM.endd;rw[Xr (by omega),Xs h]
  simp only[B]
  by_cases r:n=0
  ·rw[Xs r];exact Qf6 k I w (q h)
  ·rw[Xr r];exact Qf6 k I z (u (by omega))
 ·exact QkE R I l v
theorem Qko (R:(Qq m).1=0) (I:Inv m g M fn bl s) (b:bl.code[M.top.i]?=some x):QbV m op M x:=by
 obtain⟨h,c⟩:=Qb4 R
 have a:=(c _ fn _ bl I.hf I.hb).1 M.top.i x b;rw[<-I.hs] at a
 have j:1<=x.op/\x.op<=14:=by
  have f:=(QN a).1;unfold Qt.form at f;split at f
  ·cases f
  rename_i d
  unfold Q7 at d;by_cases e:1<=x.op/\x.op<=14
  ·exact e
  ·exfalso;apply d
   rw[Xr (by omega),Xr (by omega),Xr (by omega),Xr (by omega),Xr (by omega),Xr (by omega),Xr (by omega),Xr (by omega),Xr (by omega)]
   rfl
 have:x.op=1\/x.op=2\/x.op=3\/x.op=4\/x.op=5\/x.op=6\/x.op=7\/x.op=8\/x.op=9\/x.op=10\/x.op=11\/x.op=12\/x.op=13\/x.op=14:=by omega
 rcases this with e | e | e | e | e | e | e | e | e | e | e | e | e | e
 ·exact Qj5 I b a e
 ·exact Qkd I b a e
 ·exact QjL I b a e (I.kept h)
 ·exact Qh2 I b a e
 ·exact Qhn I b a e
 ·exact QkM I b a e
 ·exact Qk6 I b a e
 ·exact Qg8 I b a e
 ·exact QiL I b a e
 ·exact QgW I b a e
 ·exact QjU I b a e
 ·exact Qma I b a e
 ·exact Qj2 I b a e
 ·exact Qin h I b a e
theorem Qid (R:(Qq m).1=0) (I:Inv m g M fn bl s) (most:Nat):∃ M',IM.step m op most M=some M'/\QbL m M':=by
 unfold IM.step;by_cases b:M.fuel=most
 ·rw[Xs b];exact⟨_,Z,IM.over_good _ _ _⟩
 ·rw[Xr b,I.hf]
  simp only
  rw[I.hb]
  simp only
  cases hx:bl.code[M.top.i]? with
  | some x=>exact Qko R I hx
  | none =>
    have c:=((Qb4 R).2 _ fn _ bl I.hf I.hb).2;have d:M.top.i=bl.code.length:=by have:=I.hi;have:=List.getElem?_eq_none_iff.1 hx;omega
    have a:=I.hs;rw[d,List.take_length] at a
    rw[<-a] at c
    exact Qkr R I c
theorem QgQ (R:(Qq m).1=0) (inp:List Int) (pages:Nat):QbL m (IM.start inp pages):=by
 obtain⟨d,-⟩:=Qb4 R
 obtain⟨f,c⟩:∃ f,m[0]?=some f:=⟨_,Zg (Zn d).1.1⟩
 obtain⟨b,o,h,p,-,r⟩:=Z4 d c
 obtain⟨g,i,-⟩:=r Z
 refine .inr ⟨_,f,b,JSt.start m f b,⟨c,o,Xb _,Z,?_,StT.new pages,Z⟩⟩;show FrT _ _ ⟨m,f,QbU b.regs,b.params⟩ [] [];have q:QbU b.regs=[]:=by rw[h,g];rfl
 have e:b.params=[]:=by rw[p];exact Xf.1 i
 rw[q,e]
 exact⟨Z,fun k a=>by simp at a,fun k a=>by simp[List.getD] at a,fun j k l=>by simp[List.getD] at l,Z,fun j t y n=>by simp at n⟩
def IM.steps (m:List (MFunc 6)) (op:Int->Int->Int->Option Int) (most:Nat):Nat->IM->Option IM
 | 0,M=>some M
 | n+1,M=>if M.done then some M else match M.step m op most with
   | none=>none
   | some M'=>M'.steps m op most n
end
section
variable {m:List (MFunc 6)}{op:Int->Int->Int->Option Int}{M M':IM}{R:RM}{x:Qt}{most:Nat}
theorem Qmn (R:(Qq m).1=0):Qmz m:=fun k r q l o p=>by
 obtain⟨t,c⟩:=Qb4 R
 obtain⟨h,d⟩:=c k r q l o p
 refine⟨fun x i=>?_,?_⟩
 ·obtain⟨j,n⟩:=List.mem_iff_getElem?.1 i
  have b:=(QN (h j x n)).1;unfold Qt.form at b;split at b
  ·cases b
  rename_i g
  split at b
  ·cases b
  split at b
  ·cases b
  split at b
  ·cases b
  rename_i s
  refine⟨?_,fun e=>by omega⟩
  refine Xq.1 fun f=>g ?_;unfold Q7;rw[Xr (by omega),Xr (by omega),Xr (by omega),Xr (by omega),Xr (by omega),Xr (by omega),Xr (by omega),Xr (by omega),Xr (by omega)]
  rfl
 ·unfold JSt.fin at d;split at d
  ·rename_i f;exact absurd d f
  ·rename_i a
   have a:=Xq.1 a;unfold ZA.form at a;split at a
   ·cases a
   ·omega
def QeA (M:IM):Prop:=M.out.length<=2000/\M.rest.length<=39
theorem Qkl (D:QeA M){g:Q4 × Int × Qd}(h:IM.got M g=some M'):QeA M':=by
 rcases Qcy h with ⟨-,rfl⟩|⟨-,rfl⟩<;>exact D
theorem QkL (D:QeA M) (h:IM.mem M x=some M'):QeA M':=by
 unfold IM.mem at h;repeat' split at h
 all_goals first | exact Qkl D h | (cases h;done) | (cases h;exact D)
theorem Qk2 (D:QeA M) (h:IM.ins m op M x=some M'):QeA M':=by
 unfold IM.ins at h;split at h
 ·cases h;exact D
 split at h
 ·repeat' split at h
  all_goals first | (cases h;done) | (cases h;exact D)
 split at h
 ·repeat' split at h
  all_goals first | (cases h;done) | (cases h;exact D)
 split at h
 ·repeat' split at h
  all_goals first | (cases h;done) | (cases h;exact D)
 split at h
 ·split at h
  ·cases h
  ·split at h
   ·cases h;exact D
   ·rename_i a
    cases h
    have:=D.1
    exact⟨by simp;omega,D.2⟩
 split at h
 ·unfold IM.call at h;repeat' split at h
  all_goals first | (cases h;done) | (cases h;exact D) | skip
  rename_i a
  cases h
  have:=D.2
  exact⟨D.1,by simp;omega⟩
 ·exact QkL D h
theorem Qi2 (D:QeA M){fn:MFunc 6}{t:MTo}(h:IM.to fn M t=some M'):QeA M':=by
 unfold IM.to at h;repeat' split at h
 all_goals first | (cases h;done) | (cases h;exact D)
theorem Qiz (D:QeA M){fn:MFunc 6}{e:ZA}(h:IM.endd fn M e=some M'):QeA M':=by
 unfold IM.endd at h;split at h
 ·exact Qi2 D h
 split at h
 ·split at h
  ·cases h
  ·split at h<;>exact Qi2 D h
 ·split at h
  ·cases h
  ·split at h
   ·split at h
    ·rename_i b
     cases h
     have a:=D.2;rw[b] at a
     exact⟨D.1,by simp at a;simp only[IM.push];omega⟩
    ·split at h
     ·cases h
     ·cases h;exact D
   ·cases h
theorem QiW (D:QeA M) (h:IM.step m op most M=some M'):QeA M':=by
 unfold IM.step at h;split at h
 ·cases h;exact D
 split at h
 ·cases h
 split at h
 ·cases h
 split at h
 ·exact Qk2 (M:={ M with fuel:=M.fuel+1,top:={ M.top with i:=M.top.i+1 } }) D h
 ·exact Qiz (M:={ M with fuel:=M.fuel+1 }) D h
theorem Qg6 (inp:List Int) (pages:Nat):QeA (IM.start inp pages):=⟨by simp[IM.start],by simp[IM.start]⟩
theorem Qiu (H:(Qq m).1=0) (a:M.done=false) (G:QbL m M) (D:QeA M) (S:Qew M R):∃ M' R',IM.step m op most M=some M'/\RM.step m op most R=some R'/\Qew M' R'/\QbL m M'/\QeA M':=by
 rcases G with h | ⟨g,i,f,s,I⟩
 ·rw[a] at h;cases h
 ·obtain⟨M',e,b⟩:=Qid (op:=op) H I most
  obtain⟨φ,π,S⟩:=S
  obtain⟨R',d,c⟩:=Qhj (Qmn H) S a (by have:=D.2;omega) D.1 e
  exact⟨M',R',e,d,c,b,QiW D e⟩
theorem QdG (H:(Qq m).1=0):∀ (n:Nat) (M:IM) (R:RM),QbL m M->QeA M->Qew M R->∃ M' R',IM.steps m op most n M=some M'/\RM.steps m op most n R=some R'/\Qew M' R'/\QbL m M'/\QeA M'
 | 0,M,R,G,D,S=>⟨M,R,Z,Z,S,G,D⟩
 | n+1,M,R,G,D,S=>by
   unfold IM.steps RM.steps;have b:R.done=M.done:=by obtain⟨φ,π,S⟩:=S;exact S.done
   by_cases a:M.done=true
   ·rw[Xs a,Xs (by rw[b];exact a)]
    exact⟨M,R,Z,Z,S,G,D⟩
   ·rw[Xr a,Xr (by rw[b];exact a)]
    obtain⟨M',R',f,c,e,d,g⟩:=Qiu (op:=op) (most:=most) H (by simpa using a) G D S
    rw[f,c]
    exact QdG H n M' R' d g e
theorem QkU (H:(Qq m).1=0) (inp:List Int)(a:pages<=64) (n:Nat):∃ M' R',IM.steps m op most n (IM.start inp pages)=some M'/\RM.steps m op most n (RM.start inp pages)=some R'/\Qew M' R' :=
 let ⟨M',R',h1,h2,h3,_,_⟩:=QdG (op:=op) (most:=most) H n _ _ (QgQ H inp pages) (Qg6 inp pages) (QgT inp a)
 ⟨M',R',h1,h2,h3⟩
end
theorem Xm:type_of% @Calls.mono:=@Calls.mono
def QeU (o:Oper):List Tmp:=o.op.operands.toList.filterMap fun | .tmp t=>some t | _=>none
def Qs (l:List Oper):List Tmp:=l.filterMap (·.dst)
def nodupB:List Tmp->Bool
 | []=>true
 | t::r=>!r.contains t&&nodupB r
def onB (gs:List (Nat × Option Bool)) (o:Oper) (b:Bool):Bool :=
 match o.guard with
 | none=>b
 | some (g,want)=>match gs.lookup g with
   | some c=>b==(c==some want)
   | none=>false
def Qlg (gs:List (Nat × Option Bool)):List Oper->List Bool->Bool
 | [],[]=>true
 | o::l,b::bs=>onB gs o b&&Qlg gs l bs
 | _,_=>false
def Qmj (ops:Array Oper) (ds outs:List Tmp) (o:Oper):Bool :=
 (o.looksAt ops).all fun t=>(outs.contains t&&!ds.contains t)||o.after.any fun e=>Region.binds .any e&&((ops[e.on]?).bind (·.dst)==some t)
def Qcq (i:Nat):List Oper->Bool
 | []=>true
 | o::l=>(o.after.all fun e=>!Region.binds .any e||decide (e.on<i))&&Qcq (i+1) l
def QaP (l:List Oper) (n:Nat) (outs:List Tmp) (gs:List (Nat × Option Bool)) (bs:List Bool):Bool :=
 (gs.all fun g=>((l.toArray[g.1]?).bind (·.dst)).isSome)&&nodupB (Qs l)&&((Qs l).all fun t=>decide (t<n))&&(l.all (Qmj l.toArray (Qs l) outs))&&Qlg gs l bs&&Qcq 0 l
section
variable {P:Program}(E:Tmp->Value->World->Prop) (W:World->Prop) (R:World->World->Prop)
def EO:Option Tmp->Value->World->Prop
 | some t=>E t
 | none=>fun _ _=>True
def Qef (a:Act) (w:World):List Tmp->Prop
 | []=>True
 | t::r=>E t (a.tmps.getD t undef) w/\Qef a w r
def Qlk (P:Program) (o:Oper):Prop :=
 ∀ a w,W w->Qef E a w (QeU o)->∀ K:Act->World->Prop,(∀ v w',R w w'->W w'->EO E o.dst v w'->K (a.put o.dst v) w')->o.wp P a w K (fun _ _ _=>False)
def QiD (o:Oper):Prop:=∀ w,W w->EO E o.dst undef w
def Qeg (P:Program):List Oper->List Bool->Prop
 | o::l,true::bs=>Qlk E W R P o/\Qeg P l bs
 | o::l,false::bs=>QiD E W o/\Qeg P l bs
 | _,_=>True
def QaU (ops:Array Oper):List (Nat × Option Bool)->Prop
 | []=>True
 | (g,c)::r=>(∀ t,(ops[g]?).bind (·.dst)=some t->∀ v w,W w->E t v w->match c with | some b=>v=.bool b | none=>v=undef)/\QaU ops r
def Qaf (a:Act) (w:World):List Tmp->Prop
 | []=>True
 | t::r=>E t (a.tmps.getD t undef) w/\Qaf a w r
def QM (a:Act) (vs:Tmp->Value):List Tmp->Act
 | []=>a
 | t::r=>QM (a.put (some t) (vs t)) vs r
end
theorem wpq {P:Program}{o:Oper}{a:Act}{K d:Act->World->Prop}{Q:Exit->Act->World->Prop}(h:∀ a w,K a w->d a w)
 (c:o.wp P a w K (fun _ _ _=>False)):o.wp P a w d Q:=by
 unfold Oper.wp at *;generalize (execOp a.eval o).run P w=r at *
 cases r with
 | ok n w' =>
   cases n<;>simp only[Oper.upon] at c |- <;>
    first
     | exact h _ _ c
     | exact Xm c (fun e f b=>by cases e<;>first | exact h _ _ b | exact b.elim | (obtain⟨_,_,b⟩:=b;exact b.elim))
     | exact Rows.mono c (fun _ _ b=>h _ _ b)
 | halt x w'=>cases x<;>simp only[Oper.upon] at c |-
theorem Qbk (b:Tmp->Value):∀ (ds:List Tmp) (a:Act),(QM a b ds).defers=a.defers
 | [],_=>rfl
 | _::r,a=>by rw[QM,Qbk b r];rfl
theorem QcC (b:Tmp->Value):∀ (ds:List Tmp) (a:Act),(QM a b ds).tmps.size=a.tmps.size
 | [],_=>rfl
 | _::r,a=>by rw[QM,QcC b r];simp[Act.put]
theorem Qf4 (b:Tmp->Value):∀ (ds:List Tmp) (a:Act) (t:Nat),t<a.tmps.size->(QM a b ds).tmps[t]?=if t∈ds then some (b t) else a.tmps[t]?
 | [],_,_,_=>by simp[QM]
 | d::r,a,t,ht=>by
   rw[QM,Qf4 b r _ t (by simpa[Act.put] using ht)]
   by_cases f:t∈r
   ·simp[f]
   ·by_cases c:d=t
    ·subst c;simp[f,Act.put,ht]
    ·have:t≠d:=fun e=>c e.symm
     simp[f,this,Act.put,c]
theorem nodup_apart:∀ (l:List Oper) (i j:Nat) (oi oj:Oper) (t:Tmp),nodupB (Qs l)=true->l[i]?=some oi->l[j]?=some oj->oi.dst=some t->oj.dst=some t->i=j
 | [],_,_,_,_,_,_,hi,_,_,_=>by simp at hi
 | o::l,i,j,oi,oj,t,h,hi,hj,di,dj=>by
   have e:∀ {k:Nat} {c:Oper},l[k]?=some c->c.dst=some t->t∈Qs l:=fun {k c} g a=>List.mem_filterMap.2 ⟨c,Zm g,a⟩
   have n:nodupB (Qs l)=true:=by
    unfold Qs at h |-
    cases a:o.dst with
    | none=>simpa[List.filterMap_cons,a] using h
    | some d=>simp[a,nodupB] at h;exact h.2
   have b:o.dst=some t->t ∉ Qs l:=fun a=>by
    unfold Qs at h |-;simp only[List.filterMap_cons,a,nodupB,Bool.and_eq_true,Bool.not_eq_true'] at h
    intro f
    have:=h.1
    simp at this
    simp at f
    obtain⟨x,b,m⟩:=f
    exact this x b m
   cases i with
   | zero =>
     cases j with
     | zero=>rfl
     | succ j=>simp at hi hj;subst hi;exact absurd (e hj dj) (b di)
   | succ i =>
     cases j with
     | zero=>simp at hi hj;subst hj;exact absurd (e hi di) (b dj)
     | succ j=>simp at hi hj;rw[nodup_apart l i j oi oj t n hi hj di dj]
section
variable {P:Program}{E:Tmp->Value->World->Prop}{W:World->Prop}{R:World->World->Prop}
theorem Qem {a:Act}{w:World}:∀ (l:List Tmp),(∀ t∈l,E t (a.tmps.getD t undef) w)->Qef E a w l
 | [],_=>trivial
 | t::r,h=>⟨h t (by simp),Qem r fun x b=>h x (by simp[b])⟩
theorem Qa4 {a:Act}{w:World}:∀ (l:List Tmp),Qaf E a w l->∀ t∈l,E t (a.tmps.getD t undef) w
 | [],_,_,h=>by simp at h
 | x::r,h,t,b=>by
   rcases List.mem_cons.1 b with rfl | b
   ·exact h.1
   ·exact Qa4 r h.2 t b
theorem Qff {a:Array Oper}:∀ (gs:List (Nat × Option Bool)),QaU E W a gs->∀ g c,gs.lookup g=some c->∀ t,(a[g]?).bind (·.dst)=some t->∀ v w,W w->E t v w->match c with | some b=>v=.bool b | none=>v=undef
 | [],_,_,_,h=>by simp at h
 | (g',c')::r,h,g,c,hl=>by
   by_cases e:g=g'
   ·subst e;simp at hl;subst hl;exact h.1
   ·have d:(g==g')=false:=by simpa using e
    simp[List.lookup_cons,d] at hl;exact Qff r h.2 g c hl
theorem mem_of_lookup:∀ (gs:List (Nat × Option Bool)) (g:Nat) (c:Option Bool),gs.lookup g=some c->(g,c)∈gs
 | [],_,_,h=>by simp at h
 | (g',c')::r,g,c,hl=>by
   by_cases e:g=g'
   ·subst e;simp at hl;subst hl;simp
   ·have a:(g==g')=false:=by simpa using e
    simp[List.lookup_cons,a] at hl;exact List.mem_cons_of_mem _ (mem_of_lookup r g c hl)
theorem filter_set:∀ (l:List Bool) (i:Nat) (h:i<l.length),l[i]=false->((l.set i true).filter (·==false)).length+1=(l.filter (·==false)).length
 | [],_,h,_=>by simp at h
 | x::l,0,_,h=>by simp at h;subst h;simp
 | x::l,i+1,hi,h=>by
   simp at h hi
   have:=filter_set l i hi h
   cases x<;>simp at this |-<;>omega
theorem Qh1 (gs:List (Nat × Option Bool)):∀ (l:List Oper) (bs:List Bool),Qlg gs l bs=true->Qeg E W R P l bs->∀ (i:Nat) (o:Oper),l[i]?=some o->(onB gs o true=true/\Qlk E W R P o)\/(onB gs o false=true/\QiD E W o)
 | [],_,_,_,_,_,h=>by simp at h
 | _::_,[],h,_,_,_,_=>by simp[Qlg] at h
 | x::l,b::bs,h,ha,i,o,ho=>by
   simp only[Qlg,Bool.and_eq_true] at h
   cases i with
   | zero =>
     simp at ho;subst ho
     cases b with
     | true=>exact .inl ⟨h.1,ha.1⟩
     | false=>exact .inr ⟨h.1,ha.1⟩
   | succ i =>
     simp at ho
     cases b with
     | true=>exact Qh1 gs l bs h.2 ha.2 i o ho
     | false=>exact Qh1 gs l bs h.2 ha.2 i o ho
theorem back_at:∀ (l:List Oper) (k i:Nat) (o:Oper),Qcq k l=true->l[i]?=some o->∀ e∈o.after,Region.binds .any e=true->e.on<k+i
 | [],_,_,_,_,h=>by simp at h
 | x::l,k,i,o,h,ho=>by
   simp only[Qcq,Bool.and_eq_true] at h
   cases i with
   | zero =>
     simp at ho;subst ho
     intro e a b
     have:=Array.all_eq_true_iff_forall_mem.1 h.1 e a
     simpa[b] using this
   | succ i =>
     simp at ho
     intro e a b
     have:=back_at l (k+1) i o h.2 ho e a b
     omega
structure Qnm (E:Tmp->Value->World->Prop) (W:World->Prop) (l:List Oper) (outs:List Tmp) (a0:Act) (listed:Array Bool) (a:Act) (w:World):Prop where
 world:W w
 defers:a.defers=a0.defers
 size:a.tmps.size=a0.tmps.size
 outer:∀ t,t ∉ Qs l->a.tmps[t]?=a0.tmps[t]?
 outs:∀ t∈outs,t ∉ Qs l->E t (a.tmps.getD t undef) w
 known:∀ j o t,l[j]?=some o->o.dst=some t->listed.getD j false=true->E t (a.tmps.getD t undef) w
theorem QdS {l:List Oper}{outs:List Tmp}{gs:List (Nat × Option Bool)}{a0:Act}{Q:Exit->Act->World->Prop}
 (hB:QaP l a0.tmps.size outs gs bs=true) (hR:∀ t v w w',R w w'->E t v w->E t v w') (hG:QaU E W l.toArray gs) (hA:Qeg E W R P l bs)
 (af:∀ (vs:Tmp->Value) w',W w'->(∀ t,(Qs l).contains t=true->E t (vs t) w')->Q .normal (QM a0 vs (Qs l)) w') :
 ∀ (fuel:Nat) (listed:Array Bool) (a:Act) (w:World),listed.size=l.length->(listed.toList.filter (·==false)).length<=fuel->Qnm E W l outs a0 listed a w ->
  wpAny P .any l.toArray Q fuel listed a w:=by
 simp only[QaP,Bool.and_eq_true] at hB
 obtain⟨⟨⟨⟨⟨ar,aw⟩,O⟩,al⟩,ao⟩,aq⟩:=hB
 have ab:∀ (listed:Array Bool) (a:Act) (w:World),listed.size=l.length->Region.ready .any l.toArray listed=[]->Qnm E W l outs a0 listed a w->Q .normal a w:=by
  intro listed a w T H f
  have X:∀ j,j<l.length->listed.getD j false=true:=by
   intro j
   induction j using Nat.strongRecOn with
   | _ j ih =>
     intro z
     cases r:listed.getD j false with
     | true=>rfl
     | false =>
       exfalso
       have:j∈Region.ready .any l.toArray listed:=by
        unfold Region.ready;refine List.mem_filter.2 ⟨by simpa using z,?_⟩
        have V:listed.getD j true=false:=by
         have aj:j<listed.size:=by omega
         simp[Array.getD,aj] at r |-;exact r
        have U:l.toArray[j]?=some l[j]:=by simp[z]
        rw[V,U]
        simp only[Bool.not_false,Bool.true_and,Option.map_some,Option.getD_some]
        rw[Array.all_eq_true_iff_forall_mem]
        intro e he
        cases hbd:Region.binds .any e with
        | false=>rfl
        | true =>
          have:=back_at l 0 j l[j] aq (by simp[z]) e he hbd
          simp only[Bool.not_true,Bool.false_or]
          exact ih e.on (by omega) (by omega)
       rw[H] at this
       cases this
  have ac:∀ t∈Qs l,E t (a.tmps.getD t undef) w/\t<a0.tmps.size:=by
   intro t q;obtain⟨o,ho,s⟩:=List.mem_filterMap.1 q
   obtain⟨j,z⟩:=List.getElem?_of_mem ho
   have B:j<l.length:=by
    rcases Nat.lt_or_ge j l.length with h | h
    ·exact h
    ·rw[Xk h] at z;cases z
   exact⟨f.known j o t z s (X j B),by simpa using Xe.1 O t q⟩
  have he:a=QM a0 (fun t=>a.tmps.getD t undef) (Qs l):=by
   have V:a.tmps=(QM a0 (fun t=>a.tmps.getD t undef) (Qs l)).tmps:=by
    refine Array.ext (by rw[QcC,f.size]) fun t S N=>?_;have h3:t<a0.tmps.size:=by rw[<-f.size];exact S
    have:=Qf4 (fun t=>a.tmps.getD t undef) (Qs l) a0 t h3
    rw[Xj N] at this
    by_cases hm:t∈Qs l
    ·rw[Xs hm] at this
     simp only[Option.some.injEq] at this
     rw[this];simp[Array.getD,S]
    ·rw[Xr hm,<-f.outer t hm,Xj S] at this
     exact(Xn this).symm
   have U:a.defers=(QM a0 (fun t=>a.tmps.getD t undef) (Qs l)).defers:=by rw[Qbk,f.defers]
   cases a with
   | mk t d =>
     simp only at V U
     generalize hp:QM a0 (fun x=>t.getD x undef) (Qs l)=p at V U |-
     cases p;simp only at V U;rw[V,U]
  rw[he]
  exact af _ _ f.world fun t q=>(ac t (by simpa using q)).1
 intro fuel
 induction fuel with
 | zero =>
   intro listed a w T hf f
   have H:Region.ready .any l.toArray listed=[]:=by
    rw[List.eq_nil_iff_forall_not_mem]
    intro i hi;obtain⟨S,N⟩:=List.mem_filter.1 hi
    have B:i<l.length:=by simpa using S
    simp only[Bool.and_eq_true,Bool.not_eq_true'] at N
    have:listed[i]'(by omega)=false:=by
     have:=N.1;simp[Array.getD,show i<listed.size by omega] at this;exact this
    have hm:false∈listed.toList.filter (·==false):=List.mem_filter.2 ⟨by rw[<-this];simp,by simp⟩
    have:=List.length_pos_of_mem hm
    omega
   exact⟨H,ab listed a w T H f⟩
 | succ fuel ih =>
   intro listed a w T hf f;refine⟨fun H=>ab listed a w T H f,fun i hi=>?_⟩
   obtain⟨S,N⟩:=List.mem_filter.1 hi
   have B:i<l.length:=by simpa using S
   simp only[Bool.and_eq_true,Bool.not_eq_true'] at N
   obtain⟨ag,m⟩:=N
   have ae:i<listed.size:=by omega
   have ah:listed[i]=false:=by simp[Array.getD,ae] at ag;exact ag
   have ho:l.toArray[i]?=some l[i]:=by simp[B]
   have n:l[i]?=some l[i]:=by simp[B]
   generalize ay:l[i]=o at ho n;rw[ho] at m
   simp only[Option.map_some,Option.getD_some] at m
   rw[Array.all_eq_true_iff_forall_mem] at m
   have u:∀ t∈o.looksAt l.toArray,E t (a.tmps.getD t undef) w:=by
    intro t q
    have:=Xe.1 (Xe.1 al o (Zm n)) t q
    rw[Bool.or_eq_true] at this
    rcases this with h | h
    ·simp only[Bool.and_eq_true,Bool.not_eq_true'] at h
     exact f.outs t (by simpa using h.1) (by simpa using h.2)
    ·obtain⟨k,hk,h⟩:=Array.any_eq_true.1 h
     simp only[Bool.and_eq_true,beq_iff_eq] at h
     obtain⟨r,s⟩:=h
     have J:=m _ (Array.getElem_mem hk);rw[r] at J
     simp only[Bool.not_true,Bool.false_or] at J
     generalize o.after[k]=e at *;obtain⟨oj,av,an⟩:=Option.bind_eq_some_iff.1 s
     exact f.known e.on oj t (by simpa using av) an J
   have am:Qef E a w (QeU o):=Qem _ fun t q=>u t (by
    unfold Oper.looksAt;exact List.mem_append_left _ q)
   have hw:∀ b,onB gs o b=true->Region.wanted o (yielded l.toArray a.tmps)=b:=by
    intro b r;unfold onB at r;unfold Region.wanted
    cases hg:o.guard with
    | none=>rw[hg] at r;simp only at r |-;exact r.symm
    | some gw =>
      obtain⟨g,ax⟩:=gw
      rw[hg] at r
      simp only at r |-
      cases J:gs.lookup g with
      | none=>rw[J] at r;cases r
      | some c =>
        rw[J] at r
        simp only[beq_iff_eq] at r
        have hy:yielded l.toArray a.tmps g=c:=by
         unfold yielded;have au:(g,c)∈gs:=mem_of_lookup gs g c J;have A:=Xe.1 ar _ au
         cases s:(l.toArray[g]?).bind (·.dst) with
         | none=>rw[s] at A;cases A
         | some t =>
           have hE:=u t (by unfold Oper.looksAt;rw[hg];simp only[s];simp);have F:=Qff gs hG g c J t s _ _ f.world hE;obtain⟨og,ai,ap⟩:=Option.bind_eq_some_iff.1 s
           have L:t<a.tmps.size:=by
            rw[f.size]
            have:=Xe.1 O t (List.mem_filterMap.2 ⟨og,Zm (by simpa using ai),ap⟩)
            simpa using this
           have q:a.tmps[t]?=some (a.tmps.getD t undef):=by simp[Array.getD,L]
           simp only[Option.bind_some,q]
           cases c with
           | none=>simp only at F;rw[F];rfl
           | some b=>simp only at F;rw[F]
        rw[hy,r]
   have G:((listed.setIfInBounds i true).toList.filter (·==false)).length<=fuel:=by
    have h3:=filter_set listed.toList i (by simpa using ae) (by simpa using ah);rw[Array.toList_setIfInBounds]
    omega
   have I:∀ v w',W w'->(∀ t v,E t v w->E t v w')->EO E o.dst v w'->Qnm E W l outs a0 (listed.setIfInBounds i true) (a.put o.dst v) w':=by
    intro v w' K y F
    have D:∀ t,o.dst≠some t->(a.put o.dst v).tmps[t]?=a.tmps[t]?:=by
     intro t q
     cases s:o.dst with
     | none=>rfl
     | some d =>
       have:d≠t:=fun e=>q (by rw[s,e])
       simp[Act.put,this]
    have C:∀ (b c:Array Value) (t:Nat),b[t]?=c[t]?->b.getD t undef=c.getD t undef:=by
     intro b c t h;rw[Za,Za,h]
    refine⟨K,?_,?_,?_,?_,?_⟩
    ·rw[<-f.defers];cases o.dst<;>rfl
    ·rw[<-f.size];cases o.dst<;>simp[Act.put]
    ·intro t q;rw[D t (fun e=>q (List.mem_filterMap.2 ⟨o,Zm n,e⟩)),f.outer t q]
    ·intro t q hn;rw[C _ _ t (D t (fun e=>hn (List.mem_filterMap.2 ⟨o,Zm n,e⟩)))]
     exact y _ _ (f.outs t q hn)
    ·intro j oj t z s aa;by_cases M:j=i
     ·subst M;rw[n] at z
      obtain rfl:=Xn z
      have L:t<a.tmps.size:=by
       rw[f.size]
       have:=Xe.1 O t (List.mem_filterMap.2 ⟨o,Zm n,s⟩)
       simpa using this
      rw[s] at F |-
      have:(a.put (some t) v).tmps.getD t undef=v:=by simp[Act.put,Array.getD,L]
      rw[this];exact F
     ·have ak:o.dst≠some t:=fun e=>M (nodup_apart l j i oj o t aw z n s e);rw[C _ _ t (D t ak)]
      refine y _ _ (f.known j oj t z s ?_);have ad:i≠j:=fun e=>M e.symm;rw[Za,Array.getElem?_setIfInBounds_ne ad] at aa
      rw[Za];exact aa
   unfold wpOp;rw[ho]
   simp only
   rcases Qh1 gs l bs ao hA i o n with ⟨h,y⟩|⟨h,y⟩
   ·rw[hw true h,Xs Z]
    refine .inl (wpq (fun a' w' hh=>hh) (y a w f.world am _ fun v w' H K F=>?_));exact ih _ _ _ (by simpa using T) G (I v w' K (fun t v he=>hR t v w w' H he) F)
   ·rw[hw false h]
    simp only[Bool.false_eq_true,if_false]
    exact ih _ _ _ (by simpa using T) G (I undef w f.world (fun _ _ h=>h) (y w f.world))
theorem Qas {l:List Oper}{outs:List Tmp}{gs:List (Nat × Option Bool)}(h:n<=m) (b:QaP l n outs gs bs=true):QaP l m outs gs bs=true:=by
 simp only[QaP,Bool.and_eq_true] at b |-
 obtain⟨⟨⟨⟨⟨e,k⟩,a⟩,g⟩,f⟩,d⟩:=b
 refine⟨⟨⟨⟨⟨e,k⟩,?_⟩,g⟩,f⟩,d⟩
 rw[Xe] at a |-
 intro t j;have c:t<n:=by simpa using a t j
 have i:t<m:=Zl c h;simpa using i
theorem Qdm {l:List Oper}{outs:List Tmp}{gs:List (Nat × Option Bool)}{a:Act}{Q:Exit->Act->World->Prop}
 (E:Tmp->Value->World->Prop) (W:World->Prop) (R:World->World->Prop)
 (e:P.follows .mixedOrders=true)  (p:a.tmps.size=m) (c:n<=m) (i:QaP l n outs gs bs=true)
 (d:∀ t v w w',R w w'->E t v w->E t v w') (g:QaU E W l.toArray gs) (h:W w.drew) (k:Qaf E a w.drew outs)
 (r:Qeg E W R P l bs)
 (b:∀ (vs:Tmp->Value) w',W w'->(∀ t,(Qs l).contains t=true->E t (vs t) w')->Q .normal (QM a vs (Qs l)) w') :
 (Code.region id l.toArray true).wp P Q a w:=by
 refine wp_region_any e ?_;refine QdS (Qas (p ▸ c) i) d g r b _ _ _ _ (by simp) ?_ ⟨h,Z,Z,fun _ _=>rfl,fun t q _=>Qa4 outs k t q,?_⟩
 ·simp only[Array.toList_replicate]
  exact Zt (List.length_filter_le _ _) (by simp)
 ·intro j o t u s f;simp[Array.getD] at f
end
section
variable {P:Program}{Q:Exit->Act->World->Prop}
theorem Qlp {o:Oper}{a:Act}{K N:Act->World->Prop}(h:o.wp P a w K (Exit.then N Q)):o.wp P a w K Q:=by
 unfold Oper.wp at *;generalize (execOp a.eval o).run P w=r at *
 cases r with
 | ok n w'=>cases n<;>exact h
 | halt x w'=>cases x<;>exact h
def Qbp (n:Nat) (l:List Oper):Bool:=l.all fun o=>match o.guard with | some (g,_)=>decide (g<n) | none=>true
theorem ZE {a:Array Bool}:i∈Region.ready .any ops a↔i<ops.size/\a.getD i true=false/\∃ o,ops[i]?=some o/\∀ e∈o.after,Region.binds .any e=true->a.getD e.on false=true:=by
 unfold Region.ready;rw[List.mem_filter]
 simp only[List.mem_range,Bool.and_eq_true,Bool.not_eq_true']
 refine and_congr_right fun b=>and_congr_right fun c=>?_;rw[Xj b]
 simp only[Option.map_some,Option.getD_some,Option.some.injEq,exists_eq_left']
 rw[Array.all_eq_true_iff_forall_mem]
 refine forall_congr' fun e=>forall_congr' fun d=>?_
 cases Region.binds .any e<;>simp
end
section
variable {P:Program}{Q:Exit->Act->World->Prop}
def QdP (all:List Oper):Nat->Oper->Nat->Bool
 | 0,_,_=>false
 | f+1,o,j=>o.after.any fun e=>Region.binds .any e&&(e.on==j||(match all[e.on]? with | some o'=>QdP all f o' j | none=>false))
def QaK (all:List Oper) (k:Nat):List Oper->Bool
 | []=>true
 | o::l=>((List.range k).all fun j=>QdP all 24 o j)&&QaK all (k+1) l
theorem Qc4 {all:List Oper}{j:Nat}{S:Nat->Prop}(b:∀ (q:Nat) (o':Oper),all[q]?=some o'->S q->∀ e∈o'.after,Region.binds .any e=true->S e.on):∀ (f:Nat) (o:Oper),QdP all f o j=true->(∀ e∈o.after,Region.binds .any e=true->S e.on)->S j
 | 0,_,h,_=>by simp[QdP] at h
 | f+1,o,h,hS=>by
   simp only[QdP] at h
   obtain⟨q,i,c⟩:=Array.any_eq_true.1 h
   rw[Bool.and_eq_true,Bool.or_eq_true] at c
   have d:=Array.getElem_mem i;generalize o.after[q]=g at c d;rcases c.2 with a | a
   ·have:=hS g d c.1
    rwa [beq_iff_eq.1 a] at this
   ·cases ho':all[g.on]? with
    | none=>rw[ho'] at a;simp at a
    | some o' =>
      rw[ho'] at a
      exact Qc4 b f o' a (b _ o' ho' (hS g d c.1))
theorem Qee (all:List Oper):∀ (l:List Oper) (k i:Nat) (o:Oper),QaK all k l=true->l[i]?=some o->∀ j,j<k+i->∀ S:Nat->Prop,
 (∀ (q:Nat) (o':Oper),all[q]?=some o'->S q->∀ e∈o'.after,Region.binds .any e=true->S e.on)->(∀ e∈o.after,Region.binds .any e=true->S e.on)->S j
 | [],_,_,_,_,h=>by simp at h
 | x::l,k,0,o,h,ho=>by
   simp at ho;subst ho
   simp only[QaK,Bool.and_eq_true] at h
   intro j b S a c;exact Qc4 a 24 x (Xe.1 h.1 j (by simpa using b)) c
 | x::l,k,i+1,o,h,ho=>by
   simp only[QaK,Bool.and_eq_true] at h
   simp at ho
   intro j b;exact Qee all l (k+1) i o h.2 ho j (by omega)
theorem Qhm {l:List Oper}(I:Qcq 0 l=true){k0:Nat}(W:QaK l k0 (l.drop k0)=true):∀ (m k fuel:Nat) (listed:Array Bool) (a:Act) (w:World),k+m=l.length->k0<=k->m<=fuel->listed.size=l.length ->
 (∀ j,j<l.length->listed.getD j false=decide (j<k))->wpList P l.toArray Q (l.drop k) a w->wpAny P .any l.toArray Q fuel listed a w:=by
 intro m
 induction m with
 | zero =>
   intro k fuel listed a w U _ _ J c h
   have v:Region.ready .any l.toArray listed=[]:=by
    rw[List.eq_nil_iff_forall_not_mem]
    intro i r;obtain⟨F,s,_⟩:=ZE.1 r
    have p:i<l.length:=by simpa using F
    have:=c i p
    have T:decide (i<k)=true:=by simp;omega
    rw[T] at this
    have n:i<listed.size:=by omega
    simp[Array.getD,n] at this s
    rw[this] at s;cases s
   have u:Q .normal a w:=by
    rw[List.drop_of_length_le (by omega)] at h
    exact h
   cases fuel with
   | zero=>exact⟨v,u⟩
   | succ fuel=>exact⟨fun _=>u,fun i r=>by rw[v] at r;cases r⟩
 | succ m ih =>
   intro k fuel listed a w U S hf J c h;have b:k<l.length:=by omega
   obtain⟨fuel,rfl⟩:∃ f,fuel=f+1:=⟨fuel - 1,by omega⟩
   have t:k<listed.size:=by omega
   have D:k∈Region.ready .any l.toArray listed:=by
    refine ZE.2 ⟨by simpa using b,?_,l[k],by simp[b],fun e C g=>?_⟩
    ·have:=c k b
     simp[Array.getD,t] at this |-;exact this
    ·have:=back_at l 0 k l[k] I (by simp[b]) e C g
     rw[c _ (by omega)];simp;omega
   refine⟨fun v=>absurd (v ▸ D) (by simp),fun i r=>?_⟩
   have G:i=k:=by
    obtain⟨F,s,o,A,V⟩:=ZE.1 r
    have p:i<l.length:=by simpa using F
    have H:listed.getD i false=false:=by
     have n:i<listed.size:=by omega
     simp[Array.getD,n] at s |-;exact s
    have z:k<=i:=by
     have:=c i p
     rw[H] at this
     have:¬ i<k:=by simpa using this.symm
     omega
    rcases Nat.eq_or_lt_of_le z with e | O
    ·exact e.symm
    ·exfalso
     have:=Qee l (l.drop k0) k0 (i - k0) o W (by rw[List.getElem?_drop,show k0+(i - k0)=i by omega];simpa using A) k (by omega) (fun j=>listed.getD j false=true)
      (fun q M u R e C g=>by
       have B:q<l.length:=(Zi u).1;have X:=back_at l 0 q M I u e C g;have K:listed.getD q false=true:=R;rw[c q B] at K
       have h6:q<k:=by simpa using K
       show listed.getD e.on false=true;rw[c e.on (by omega)];simp;omega) V
     rw[c k b] at this
     simp at this
   subst G;rw[List.drop_eq_getElem_cons b] at h
   have A:l.toArray[i]?=some l[i]:=by simp[b]
   have d:∀ a w,wpList P l.toArray Q (l.drop (i+1)) a w->wpAny P .any l.toArray Q fuel (listed.setIfInBounds i true) a w:=fun a w N =>
    ih (i+1) fuel _ a w (by omega) (by omega) (by omega) (by simpa using J) (fun j L=>by
     by_cases e:j=i
     ·subst e;simp[Array.getD,t]
     ·have y:i≠j:=fun x=>e x.symm;rw[Za,Array.getElem?_setIfInBounds_ne y,<-Za,c j L]
      simp;omega) N
   unfold wpOp;rw[A]
   simp only
   unfold wpList at h;split
   ·rename_i E
    rw[Xs E] at h
    exact h.imp (Oper.wp_mono d) id
   ·rename_i E
    rw[Xr E] at h
    exact d _ _ h
theorem Qbo {l l2:List Oper}(hb:Qcq 0 (l++l2)=true) (hg:Qbp l.length l=true) (ht:QaK (l++l2) l.length l2=true):∀ (fuel:Nat) (listed:Array Bool) (a:Act) (w:World),listed.size=l.length→(∀ (q:Nat) (o:Oper),l[q]?=some o→listed.getD q false=true→∀ e∈o.after,Region.binds .any e=true→listed.getD e.on false=true) →
 wpAny P .any l.toArray (Exit.then (fun a w=>wpList P (l++l2).toArray Q l2 a w) Q) fuel listed a w →
 wpAny P .any (l++l2).toArray Q (fuel+l2.length) (listed++Array.replicate l2.length false) a w:=by
 have z:∀ (i:Nat) (o:Oper),l[i]?=some o→∀ e∈o.after,Region.binds .any e=true→e.on<i:=fun i o r e n c=>by
  have p:i<l.length:=(Zi r).1
  have:=back_at (l++l2) 0 i o hb (by rw[XP p];exact r) e n c
  omega
 have f:∀ (listed:Array Bool) (j:Nat) (d:Bool),listed.size=l.length→j<l.length→(listed++Array.replicate l2.length false).getD j d=listed.getD j d:=fun listed j d m x=>by
  rw[Za,Za,Array.getElem?_append_left (by omega)]
 have C:∀ (listed:Array Bool) (j:Nat),listed.size=l.length→l.length≤j→(listed++Array.replicate l2.length false).getD j false=false:=fun listed j m x=>by
  rw[Za,Array.getElem?_append_right (by omega)]
  cases h:(Array.replicate l2.length false)[j - listed.size]? with
  | none=>rfl
  | some b =>
    have:=Array.mem_of_getElem? h
    simp at this
    simp[this.2]
 -- all of the first part are listed
 have B:∀ (fuel:Nat) (listed:Array Bool) (a:Act) (w:World),listed.size=l.length→(∀ j,j<l.length→listed.getD j false=true)→wpList P (l++l2).toArray Q l2 a w →
  wpAny P .any (l++l2).toArray Q (fuel+l2.length) (listed++Array.replicate l2.length false) a w:=fun fuel listed a w m k h=>by
  refine Qhm hb (k0:=l.length) (by simpa using ht) l2.length l.length _ _ a w (by simp) Ze (by omega) (by simp[m]) (fun j x=>?_) (by simpa using h);by_cases s:j<l.length
  ·rw[f listed j false m s,k j s];simp[s]
  ·rw[C listed j m (by omega)];simp;omega
 have v:∀ (listed:Array Bool),listed.size=l.length→Region.ready .any l.toArray listed=[]→∀ j,j<l.length→listed.getD j false=true:=fun listed m W j=>by
  induction j using Nat.strongRecOn with
  | _ j ih =>
    intro x
    cases hc:listed.getD j false with
    | true=>rfl
    | false =>
      exfalso
      have s:j<listed.size:=by omega
      have U:listed.getD j true=false:=by simp[Array.getD,s] at hc ⊢;exact hc
      have:j∈Region.ready .any l.toArray listed:=ZE.2 ⟨by simpa using x,U,l[j],by simp[x],fun e n c=>by
       have:=z j l[j] (by simp[x]) e n c
       exact ih e.on this (by omega)⟩
      rw[W] at this;cases this
 intro fuel
 induction fuel with
 | zero =>
   intro listed a w m E h;exact B 0 listed a w m (v listed m h.1) h.2
 | succ fuel ih =>
   intro listed a w m E h;by_cases k:∀ j,j<l.length→listed.getD j false=true
   ·refine B (fuel+1) listed a w m k (h.1 ?_);rw[List.eq_nil_iff_forall_not_mem]
    intro i p;obtain⟨H,D,_⟩:=ZE.1 p
    have X:i<l.length:=by simpa using H
    have:=k i X
    have u:i<listed.size:=by omega
    simp[Array.getD,u] at this D
    rw[this] at D;cases D
   ·have R:Region.ready .any l.toArray listed≠[]:=fun e=>k (v listed m e)
    have A:∀ i,i∈Region.ready .any (l++l2).toArray (listed++Array.replicate l2.length false)↔i∈Region.ready .any l.toArray listed:=fun i=>by
     rw[ZE,ZE]
     by_cases p:i<l.length
     ·have e1:(l++l2).toArray[i]?=l.toArray[i]?:=by simp[List.getElem?_append_left p]
      rw[f listed i true m p,e1]
      constructor
      ·rintro ⟨_,D,o,r,F⟩;refine⟨by simpa using p,D,o,r,fun e n c=>?_⟩
       have:=z i o (by simpa using r) e n c
       have h4:=F e n c;rwa [f listed e.on false m (by omega)] at h4
      ·rintro ⟨_,D,o,r,F⟩;refine⟨by simp;omega,D,o,r,fun e n c=>?_⟩
       have:=z i o (by simpa using r) e n c
       rw[f listed e.on false m (by omega)]
       exact F e n c
     ·constructor
      ·rintro ⟨H,D,o,r,F⟩;exfalso
       refine k fun j x=>?_;have L:(l++l2)[i]?=some o:=by simpa using r
       rw[XQ (by omega)] at L
       have:=Qee (l++l2) l2 l.length (i - l.length) o ht L j (by omega) (fun q=>(listed++Array.replicate l2.length false).getD q false=true)
        (fun q o' G O e n c=>by
         have N:(listed++Array.replicate l2.length false).getD q false=true:=O;by_cases J:q<l.length
         ·rw[f listed q false m J] at N
          rw[XP J] at G
          have h6:=z q o' G e n c;show (listed++Array.replicate l2.length false).getD e.on false=true;rw[f listed e.on false m (by omega)]
          exact E q o' G N e n c
         ·rw[C listed q m (by omega)] at N
          cases N) F
       rwa [f listed j false m x] at this
      ·rintro ⟨H,_⟩;exact absurd (by simpa using H) p
    rw[show fuel+1+l2.length=(fuel+l2.length)+1 by omega]
    refine⟨fun W=>?_,fun i p=>?_⟩
    ·exfalso
     apply R
     rw[List.eq_nil_iff_forall_not_mem]
     intro i p
     have:=(A i).2 p
     rw[W] at this;cases this
    ·have u:=(A i).1 p;have t:=h.2 i u;obtain⟨H,_⟩:=ZE.1 u
     have y:i<l.length:=by simpa using H
     have r:l.toArray[i]?=some l[i]:=by simp[y]
     have S:(l++l2).toArray[i]?=some l[i]:=by simp[List.getElem?_append_left y,y]
     unfold wpOp at t ⊢;rw[r] at t
     rw[S]
     simp only at t ⊢
     have hy:Region.wanted l[i] (yielded (l++l2).toArray a.tmps)=Region.wanted l[i] (yielded l.toArray a.tmps):=by
      unfold Region.wanted
      cases hgd:(l[i]).guard with
      | none=>rfl
      | some gw =>
        obtain⟨g,aa⟩:=gw
        have:=Xe.1 hg l[i] (List.getElem_mem y)
        rw[hgd] at this
        have V:g<l.length:=by simpa using this
        simp only
        have:yielded (l++l2).toArray a.tmps g=yielded l.toArray a.tmps g:=by
         unfold yielded
         have:(l++l2).toArray[g]?=l.toArray[g]?:=by simp[List.getElem?_append_left V]
         rw[this]
        rw[this]
     rw[hy]
     have nx:∀ a w,wpAny P .any l.toArray (Exit.then (fun a w=>wpList P (l++l2).toArray Q l2 a w) Q) fuel (listed.setIfInBounds i true) a w→wpAny P .any (l++l2).toArray Q (fuel+l2.length) ((listed++Array.replicate l2.length false).setIfInBounds i true) a w:=fun a w hh=>by
      have I:∀ (q:Nat) (o:Oper),l[q]?=some o→(listed.setIfInBounds i true).getD q false=true→∀ e∈o.after,Region.binds .any e=true→(listed.setIfInBounds i true).getD e.on false=true:=fun q o G O e n c=>by
       have up:∀ j,listed.getD j false=true→(listed.setIfInBounds i true).getD j false=true:=fun j x=>by
        by_cases K:i=j
        ·subst K
         have:i<listed.size:=by omega
         simp[Array.getD,this]
        ·rw[Za,Array.getElem?_setIfInBounds_ne K,← Za];exact x
       by_cases K:i=q
       ·subst K;obtain⟨_,_,o2,M,F⟩:=ZE.1 u
        have:o2=o:=by
         have h7:l[i]?=some o2:=by simpa using M
         rw[G] at h7;exact(Xn h7).symm
        subst this;exact up _ (F e n c)
       ·rw[Za,Array.getElem?_setIfInBounds_ne K,← Za] at O
        exact up _ (E q o G O e n c)
      have:=ih (listed.setIfInBounds i true) a w (by simpa using m) I hh
      have e:(listed++Array.replicate l2.length false).setIfInBounds i true=listed.setIfInBounds i true++Array.replicate l2.length false:=by
       rw[Array.setIfInBounds_append_left (by omega)]
      rw[e];exact this
     split
     ·rename_i T
      rw[Xs T] at t
      rcases t with t | t
      ·exact .inl (Oper.wp_mono nx (Qlp t))
      ·exact .inr t
     ·rename_i T
      rw[Xr T] at t
      exact nx _ _ t
end
theorem Qg7 {P:Program}{l l2:List Oper}{outs:List Tmp}{gs:List (Nat × Option Bool)}{a:Act}{Q:Exit->Act->World->Prop}
 (E:Tmp->Value->World->Prop) (W:World->Prop) (R:World->World->Prop)
 (p:P.follows .mixedOrders=true)  (C:a.tmps.size=m) (g:n<=m) (r:QaP l n outs gs bs=true)
 (i:(Qcq 0 (l++l2)&&(Qbp l.length l&&QaK (l++l2) l.length l2))=true)
 (k:∀ t v w w',R w w'->E t v w->E t v w') (x:QaU E W l.toArray gs) (A:W w.drew) (s:Qaf E a w.drew outs)
 (z:Qeg E W R P l bs)
 (b:∀ (vs:Tmp->Value) w',W w'->(∀ t,(Qs l).contains t=true->E t (vs t) w')->wpList P (l++l2).toArray Q l2 (QM a vs (Qs l)) w') :
 (Code.region id (l++l2).toArray true).wp P Q a w:=by
 simp only[Bool.and_eq_true] at i
 obtain⟨d,f,h⟩:=i
 refine wp_region_any p ?_
 have c:wpAny P .any l.toArray (Exit.then (fun a w=>wpList P (l++l2).toArray Q l2 a w) Q) l.length (Array.replicate l.length false) a w.drew:=by
  refine QdS (E:=E) (W:=W) (R:=R) (a0:=a) (outs:=outs) (gs:=gs) (bs:=bs) (Qas (C ▸ g) r) k x z b _ _ _ _ (by simp) ?_ ⟨A,Z,Z,fun _ _=>rfl,fun t D _=>Qa4 outs s t D,?_⟩
  ·simp only[Array.toList_replicate]
   exact Zt (List.length_filter_le _ _) (by simp)
  ·intro j o t F H B;simp[Array.getD] at B
 have:=Qbo (Q:=Q) d f h l.length (Array.replicate l.length false) a w.drew (by simp) (fun q o G y=>by simp[Array.getD] at y) c
 have e:(Array.replicate l.length false++Array.replicate l2.length false:Array Bool)=Array.replicate (l++l2).toArray.size false:=by
  simp
 have u:l.length+l2.length=(l++l2).toArray.size:=by simp
 rw[e,u] at this
 exact this
theorem Qg {P:Program}{lo:List Oper}{outs:List Tmp}{gs:List (Nat × Option Bool)}{a:Act}{Q:Exit->Act->World->Prop}
 (k:Nat) (E:Tmp->Value->World->Prop) (W:World->Prop) (R:World->World->Prop)
 (e:P.follows .mixedOrders=true)  (i:a.tmps.size=m) (c:n<=m) (j:QaP (lo.take k) n outs gs bs=true)
 (p:(Qcq 0 lo&&(Qbp (lo.take k).length (lo.take k)&&QaK lo (lo.take k).length (lo.drop k)))=true)
 (d:∀ t v w w',R w w'->E t v w->E t v w') (f:QaU E W (lo.take k).toArray gs) (g:W w.drew) (o:Qaf E a w.drew outs)
 (q:Qeg E W R P (lo.take k) bs)
 (b:∀ ops (vs:Tmp->Value) w',W w'->(∀ t,(Qs (lo.take k)).contains t=true->E t (vs t) w')->wpList P ops Q (lo.drop k) (QM a vs (Qs (lo.take k))) w') :
 (Code.region id lo.toArray true).wp P Q a w:=by
 have h:=Qg7 (id:=id) (l:=lo.take k) (l2:=lo.drop k) (Q:=Q) E W R e i c j (by rw[List.take_append_drop];exact p) d f g o q (b _);rwa [List.take_append_drop] at h
def QlL (L:List (Tmp × (Value->World->Prop))) (T:List (Tmp × Value)) (t:Tmp) (v:Value) (w:World):Prop :=
 match L.lookup t with
 | some p=>p v w
 | none=>v=(T.lookup t).getD undef
def QnG (v:Value) (w w':World):List (Tmp × (Value->World->Prop))->Prop
 | []=>True
 | p::l=>(p.2 v w->p.2 v w')/\QnG v w w' l
theorem QlL.keep {T:List (Tmp × Value)}{t:Tmp}{v:Value}{w w':World}:∀ {L:List (Tmp × (Value->World->Prop))},QlL L T t v w->QnG v w w' L->QlL L T t v w'
 | [],h,_=>h
 | (s,p)::l,h,k=>by
   have a:=fun h=>QlL.keep (T:=T) (t:=t) (L:=l) h k.2;unfold QlL at h a |-;simp only[List.lookup_cons] at h |-
   cases e:t==s with
   | true=>rw[e] at h;exact k.1 h
   | false=>rw[e] at h;exact a h
def Qmv (S S':Nat->Bool) (t:Tmp) (v:Value) (w w':World):List (Tmp × ((Nat->Bool)->Value->World->Prop))->Prop
 | []=>True
 | p::l=>(t=p.1->p.2 S v w->p.2 S' v w')/\Qmv S S' t v w w' l
theorem QmV {S a:Nat->Bool}{t:Tmp}{v:Value}{w w':World}{R:Prop}:∀ {L:List (Tmp × ((Nat->Bool)->Value->World->Prop))},Qmv S a t v w w' L->(match L.lookup t with | some p=>p S v w | none=>R)->(match L.lookup t with | some p=>p a v w' | none=>R)
 | [],_,h=>h
 | (s,p)::l,k,h=>by
   have b:=QmV (R:=R) (L:=l) k.2;simp only[List.lookup_cons] at h |-
   cases e:t==s with
   | true=>rw[e] at h;exact k.1 (by simpa using e) h
   | false=>rw[e] at h;exact b h
structure Bx (w wr:World) (k r:Int) (a:Option Addr) (len c:Nat):Prop where
 bel:Below w.heap.size w wr
 box:wr.heap[w.heap.size]?=some (.cells #[Iv k,Iv r,.slice a len c] 105 (0,0))
theorem Bx.start (w:World) (k r:Int) (a:Option Addr) (len c:Nat):Bx w (w.alloc (.cells #[Iv k,Iv r,.slice a len c] 105)) k r a len c :=
 ⟨(Below.refl _ w).alloc Ze _,Qe w _ _⟩
theorem Bx.below {wr:World}{k r:Int}{len:Nat}(h:Bx w wr k r a len c) (b:Below wr.heap.size wr w'):Bx w w' k r a len c :=
 ⟨h.bel.trans (b.mono h.bel.size),QaY h.box b⟩
theorem Bx.alloc {wr:World}{k r:Int}{len:Nat}(h:Bx w wr k r a len c) (o:Obj):Bx w (wr.alloc o) k r a len c :=
 h.below ((Below.refl _ wr).alloc Ze _)
theorem Qet {α:Type}(f:α->Nat) (l:List α) (i:Nat) (x:α) (h:l[i]?=some x):((l.map f).take (i+1)).sum=((l.map f).take i).sum+f x:=by
 rw[XV,XS,h]
 simp
def Qd4 (f:Nat) (n:Nat):Prop:=∀ (t:TT n) (a:Option Addr) (c:Nat) (regs:Int) (w:World),TIn w All t a->t.count<=100000 ->
 Calls prog f #[Tv t a c,Iv regs] w fun e w'=>e=.returned (Iv (t.fault regs))/\Below w.heap.size w w'
section
variable {w0 w w':World}{Bs:List (Nat × Array Value × TypeId)}
def QaB (c:Array Value) (j:Nat) (vs:List Value):Array Value:=(c.toList.take j++(vs++c.toList.drop (j+vs.length))).toArray
theorem Qfj (c:Array Value) (j:Nat) (v:Value) (a:List Value) (h:j+(v::a).length<=c.size):QaB (c.setIfInBounds j v) (j+1) a=QaB c j (v::a):=by
 unfold QaB;congr 1
 have d:j<c.toList.length:=by simp at h |-;omega
 simp only[Array.toList_setIfInBounds]
 rw[List.take_set,List.drop_set_of_lt (by omega),XV,Zg d]
 simp only[Option.toList,List.length_cons]
 have:(c.toList.take j++[c.toList[j]]).set j v=c.toList.take j++[v]:=by
  rw[List.set_append_right _ _ (by simp;omega)]
  have b:j<c.size:=by simpa using d
  simp[Nat.min_eq_left (Nat.le_of_lt b)]
 rw[this,Nat.add_assoc,Nat.add_comm 1]
 simp
end
section
variable {n:Nat}{a:Act}{L:List (Tmp × Value)}{w0 w:World}{Bs:List (Nat × Array Value × TypeId)}{Q:Exit->Act->World->Prop}{ops:Array Oper}{rest:List Oper}{t:Tmp}{u v:Value}{ty ty2 ty3:TypeId}{pos:String}{aft:Array Edge}{gd:Option (Nat × Bool)}{x y z:Operand}{g tg:Nat}{want b:Bool}
theorem QlQ {w:World}{c:Array Value}{t:TypeId}(h:Blk w B c t) (j m:Nat) (e:Nat.ble (j+m) c.size=true):w.rangeAt B j ((c.toList.drop j).take m):=fun k v a=>by
 have b:k<((c.toList.drop j).take m).length:=(Zi a).1;have d:k<m:=by simp at b;omega
 rw[XR,Xs d,List.getElem?_drop] at a
 exact Qb h (j+k) v (by simpa using a)
end
theorem XM:type_of% @Nat.one_mul:=@Nat.one_mul
theorem Qcj {B:Nat}{t:TypeId}:∀ (vs:List Value) (w:World) (c:Array Value) (j:Nat),Blk w B c t->j+vs.length<=c.size->Blk (w.setCells B j vs) B (QaB c j vs) t
 | [],w,c,j,h,hs=>by
   have:QaB c j []=c:=by unfold QaB;simp
   rw[this];exact h
 | v::vs,w,c,j,h,hs=>by
   have:=Qcj vs (w.setCell ⟨B,j,none⟩ v) (c.setIfInBounds j v) (j+1) (Qh h j v) (by simp at hs |-;omega)
   rw[Qfj _ _ _ _ hs] at this
   exact this
theorem QJ {B b:Nat}(a:B<=b):∀ (vs:List Value) (w w0:World) (j:Nat),Below B w0 w->Below B w0 (w.setCells b j vs)
 | [],w,w0,j,h=>h
 | v::vs,w,w0,j,h=>QJ a vs _ _ _ (h.setCell a v)
theorem Qdo (w:World) (b j:Nat) (c:List Value):w.grownBy (w.setCells b j c) (some b):=by
 have h:=QJ (Xb b) c w w j (Below.refl 0 w);exact⟨h.os,h.tape,h.output,h.size,fun k d a=>QF (fun e=>a (by rw[e])) c j w⟩
section
variable {α:Type}{A:Lay α}{e:TypeId}{w:World}{lo g n:Nat}{l:List α}{xs:List Value}
theorem Qao.fill (h:Qao A e w lo (.slice (some ⟨g,0,none⟩) l.length n) l xs){x:α}(m:A.In w (fun k=>lo<=k/\k≠g) x ds) (q:l.length<n) :
 Qao A e (w.setCells g (l.length*A.size) ds) lo (.slice (some ⟨g,0,none⟩) (l.length+1) n) (l++[x]) (xs++ds):=by
 have c:=A.len m;refine Qao.push h (Yc m (fun k j _=>⟨j.1,fun e=>j.2 (by simpa[Value.ownBlock] using e.symm)⟩)) (Qdo w g _ ds) (.inl Z) ?_;obtain⟨o,u⟩:=h.own
 rcases u with ⟨d,_⟩|⟨y,p,b,d,v,s,t,i,f,a⟩
 ·simp at d
 ·simp only[Value.slice.injEq,Option.some.injEq,Addr.mk.injEq,and_true,true_and] at d
  obtain⟨rfl,rfl⟩:=d
  have r:(l.length+1)*A.size<=n*A.size:=Xp _ q;rw[Nat.add_mul,XM] at r
  refine⟨by rw[List.length_append,o,c,Nat.add_mul,XM],.inr ⟨g,n,QaB b (l.length*A.size) ds,Z,v,Qcj ds w b _ s (by omega),q,i,?_,?_⟩⟩
  ·rw[<-f];unfold QaB;simp;omega
  ·unfold QaB;rw[a,Nat.add_mul,XM]
   rw[show l.length*A.size+A.size=(xs++ds).length by rw[List.length_append,o,c],List.toList_toArray,<-List.append_assoc]
   exact List.take_left' Z
end
section
variable {P:Program}{Q:Exit->Act->World->Prop}
def QgH (l:List Oper) (S:Nat->Bool):Prop:=∀ (j:Nat) (o:Oper),l[j]?=some o->S j=true->∀ e∈o.after,Region.binds .any e=true->S e.on=true
def Qni (o:Oper) (S:Nat->Bool):Prop:=∀ e∈o.after,Region.binds .any e=true->S e.on=true
def Qct (i:Nat) (S:Nat->Bool):Nat->Bool:=fun j=>j==i||S j
end
section
variable (E:Tmp->Value->World->Prop) (W:(Nat->Bool)->World->Prop) (R:World->World->Prop) (P:Program) (l:List Oper)
def ZK (ops:Array Oper):List (Nat × Option Bool)->Prop
 | []=>True
 | (g,c)::r=>(∀ t,(ops[g]?).bind (·.dst)=some t->∀ v w,E t v w->match c with | some b=>v=.bool b | none=>v=undef)/\ZK ops r
end
section
variable {P:Program}{E:Tmp->Value->World->Prop}{W:(Nat->Bool)->World->Prop}{R:World->World->Prop}
theorem Qdz {a:Array Oper}:∀ (gs:List (Nat × Option Bool)),ZK E a gs->∀ g c,gs.lookup g=some c->∀ t,(a[g]?).bind (·.dst)=some t->∀ v w,E t v w->match c with | some b=>v=.bool b | none=>v=undef
 | [],_,_,_,h=>by simp at h
 | (g',c')::r,h,g,c,hl=>by
   by_cases e:g=g'
   ·subst e;simp at hl;subst hl;exact h.1
   ·have d:(g==g')=false:=by simpa using e
    simp[List.lookup_cons,d] at hl;exact Qdz r h.2 g c hl
end
def Qm0 (l:List Oper) (S:Nat->Bool) (t:Tmp):Prop:=t∈Qs l->∃ j o,l[j]?=some o/\o.dst=some t/\S j=true
def PEx (PX:List PanicEntry->World->Prop):Exit->Act->World->Prop:=fun e _ w=>∃ ch,e=.panic ch/\PX ch w
theorem QnW {o:Oper}{a:Act}{K f:Act->World->Prop}{PX:List PanicEntry->World->Prop}{Q:Exit->Act->World->Prop}(h:∀ a w,K a w->f a w) (d:∀ e w,PEx PX e a w->Q e a w)
 (b:o.wp P a w K (PEx PX)):o.wp P a w f Q:=by
 unfold Oper.wp at *;generalize (execOp a.eval o).run P w=r at *
 cases r with
 | ok n w' =>
   cases n<;>simp only[Oper.upon] at b |- <;>
    first
     | exact h _ _ b
     | exact d _ _ b
     | exact Xm b (fun e g c=>by cases e<;>first | exact h _ _ c | exact d _ _ c | (obtain⟨x,y,i,c,_⟩:=c;cases c))
     | exact Rows.mono b (fun _ _ c=>h _ _ c)
 | halt x w'=>cases x<;>simp only[Oper.upon] at b |-<;>first | exact d _ _ b | exact b
section
variable (E:(Nat->Bool)->Tmp->Value->World->Prop) (W:(Nat->Bool)->World->Prop) (PX:List PanicEntry->World->Prop) (P:Program) (l:List Oper)
def QhJ (i:Nat) (o:Oper):Prop :=
 ∀ (S:Nat->Bool) a w,S i=false->Qni o S->QgH l S->W S w->Qef (E S) a w (QeU o)->∀ K:Act->World->Prop,(∀ v w',(∀ t,Qm0 l S t->E S t (a.tmps.getD t undef) w->E (Qct i S) t (a.tmps.getD t undef) w')->W (Qct i S) w'->EO (E (Qct i S)) o.dst v w'->K (a.put o.dst v) w')->o.wp P a w K (PEx PX)
def Qgr (i:Nat) (o:Oper):Prop:=∀ (S:Nat->Bool) (a:Act) w,S i=false->Qni o S->QgH l S->W S w->(W (Qct i S) w/\EO (E (Qct i S)) o.dst undef w/\∀ t,Qm0 l S t->E S t (a.tmps.getD t undef) w->E (Qct i S) t (a.tmps.getD t undef) w)
structure Qls (outs:List Tmp) (a0:Act) (listed:Array Bool) (a:Act) (w:World):Prop where
 world:W (fun j=>listed.getD j false) w
 closed:QgH l (fun j=>listed.getD j false)
 defers:a.defers=a0.defers
 size:a.tmps.size=a0.tmps.size
 outer:∀ t,t ∉ Qs l->a.tmps[t]?=a0.tmps[t]?
 outs:∀ t∈outs,t ∉ Qs l->E (fun j=>listed.getD j false) t (a.tmps.getD t undef) w
 known:∀ j o t,l[j]?=some o->o.dst=some t->listed.getD j false=true->E (fun j=>listed.getD j false) t (a.tmps.getD t undef) w
def AllOkY:Nat->List Oper->List Bool->Prop
 | i,o::r,true::bs=>QhJ E W PX P l i o/\AllOkY (i+1) r bs
 | i,o::r,false::bs=>Qgr E W l i o/\AllOkY (i+1) r bs
 | _,_,_=>True
end
section
variable {P:Program}{E:(Nat->Bool)->Tmp->Value->World->Prop}{W:(Nat->Bool)->World->Prop}{PX:List PanicEntry->World->Prop}
theorem QfL {a:List Oper}(gs:List (Nat × Option Bool)):∀ (l:List Oper) (k:Nat) (bs:List Bool),Qlg gs l bs=true->AllOkY E W PX P a k l bs->∀ (i:Nat) (o:Oper),l[i]?=some o->(onB gs o true=true/\QhJ E W PX P a (k+i) o)\/(onB gs o false=true/\Qgr E W a (k+i) o)
 | [],_,_,_,_,_,_,h=>by simp at h
 | _::_,_,[],h,_,_,_,_=>by simp[Qlg] at h
 | x::l,k,b::bs,h,ha,i,o,ho=>by
   simp only[Qlg,Bool.and_eq_true] at h
   cases i with
   | zero =>
     simp at ho;subst ho
     cases b with
     | true=>exact .inl ⟨h.1,ha.1⟩
     | false=>exact .inr ⟨h.1,ha.1⟩
   | succ i =>
     simp at ho
     have e:k+(i+1)=k+1+i:=by omega
     rw[e]
     cases b with
     | true=>exact QfL gs l (k+1) bs h.2 ha.2 i o ho
     | false=>exact QfL gs l (k+1) bs h.2 ha.2 i o ho
theorem Qbq {l:List Oper}{outs:List Tmp}{gs:List (Nat × Option Bool)}{a0:Act}{Q:Exit->Act->World->Prop}
 (hX:∀ ch a w,a.defers=a0.defers->PX ch w->Q (.panic ch) a w) (hB:QaP l a0.tmps.size outs gs bs=true) (hG:∀ S,ZK (E S) l.toArray gs) (hA:AllOkY E W PX P l 0 l bs)
 (ah:∀ (vs:Tmp->Value) (S:Nat->Bool) w',(∀ j,j<l.length->S j=true)->W S w'->(∀ t,(Qs l).contains t=true->E S t (vs t) w')->Q .normal (QM a0 vs (Qs l)) w') :
 ∀ (fuel:Nat) (listed:Array Bool) (a:Act) (w:World),listed.size=l.length->(listed.toList.filter (·==false)).length<=fuel->Qls E W l outs a0 listed a w ->
  wpAny P .any l.toArray Q fuel listed a w:=by
 simp only[QaP,Bool.and_eq_true] at hB
 obtain⟨⟨⟨⟨⟨ao,ay⟩,V⟩,ap⟩,al⟩,am⟩:=hB
 have ae:∀ (listed:Array Bool) (a:Act) (w:World),listed.size=l.length->Region.ready .any l.toArray listed=[]->Qls E W l outs a0 listed a w->Q .normal a w:=by
  intro listed a w hs O f
  have L:∀ j,j<l.length->listed.getD j false=true:=by
   intro j
   induction j using Nat.strongRecOn with
   | _ j ih =>
     intro u
     cases q:listed.getD j false with
     | true=>rfl
     | false =>
       exfalso
       have:j∈Region.ready .any l.toArray listed:=by
        unfold Region.ready;refine List.mem_filter.2 ⟨by simpa using u,?_⟩
        have e1:listed.getD j true=false:=by
         have aw:j<listed.size:=by omega
         simp[Array.getD,aw] at q |-;exact q
        have e2:l.toArray[j]?=some l[j]:=by simp[u]
        rw[e1,e2]
        simp only[Bool.not_false,Bool.true_and,Option.map_some,Option.getD_some]
        rw[Array.all_eq_true_iff_forall_mem]
        intro e H
        cases I:Region.binds .any e with
        | false=>rfl
        | true =>
          have:=back_at l 0 j l[j] am (by simp[u]) e H I
          simp only[Bool.not_true,Bool.false_or]
          exact ih e.on (by omega) (by omega)
       rw[O] at this
       cases this
  have af:∀ t∈Qs l,E (fun j=>listed.getD j false) t (a.tmps.getD t undef) w/\t<a0.tmps.size:=by
   intro t r;obtain⟨o,ho,y⟩:=List.mem_filterMap.1 r
   obtain⟨j,u⟩:=List.getElem?_of_mem ho
   have B:j<l.length:=by
    rcases Nat.lt_or_ge j l.length with h | h
    ·exact h
    ·rw[Xk h] at u;cases u
   exact⟨f.known j o t u y (L j B),by simpa using Xe.1 V t r⟩
  have H:a=QM a0 (fun t=>a.tmps.getD t undef) (Qs l):=by
   have e1:a.tmps=(QM a0 (fun t=>a.tmps.getD t undef) (Qs l)).tmps:=by
    refine Array.ext (by rw[QcC,f.size]) fun t X h2=>?_;have h3:t<a0.tmps.size:=by rw[<-f.size];exact X
    have:=Qf4 (fun t=>a.tmps.getD t undef) (Qs l) a0 t h3
    rw[Xj h2] at this
    by_cases hm:t∈Qs l
    ·rw[Xs hm] at this
     simp only[Option.some.injEq] at this
     rw[this];simp[Array.getD,X]
    ·rw[Xr hm,<-f.outer t hm,Xj X] at this
     exact(Xn this).symm
   have e2:a.defers=(QM a0 (fun t=>a.tmps.getD t undef) (Qs l)).defers:=by rw[Qbk,f.defers]
   cases a with
   | mk t d =>
     simp only at e1 e2
     generalize hp:QM a0 (fun x=>t.getD x undef) (Qs l)=p at e1 e2 |-
     cases p;simp only at e1 e2;rw[e1,e2]
  rw[H]
  exact ah _ _ _ L f.world fun t r=>(af t (by simpa using r)).1
 intro fuel
 induction fuel with
 | zero =>
   intro listed a w hs hf f
   have O:Region.ready .any l.toArray listed=[]:=by
    rw[List.eq_nil_iff_forall_not_mem]
    intro i hi;obtain⟨X,h2⟩:=List.mem_filter.1 hi
    have B:i<l.length:=by simpa using X
    simp only[Bool.and_eq_true,Bool.not_eq_true'] at h2
    have:listed[i]'(by omega)=false:=by
     have:=h2.1;simp[Array.getD,show i<listed.size by omega] at this;exact this
    have hm:false∈listed.toList.filter (·==false):=List.mem_filter.2 ⟨by rw[<-this];simp,by simp⟩
    have:=List.length_pos_of_mem hm
    omega
   exact⟨O,ae listed a w hs O f⟩
 | succ fuel ih =>
   intro listed a w hs hf f;refine⟨fun O=>ae listed a w hs O f,fun i hi=>?_⟩
   obtain⟨X,h2⟩:=List.mem_filter.1 hi
   have B:i<l.length:=by simpa using X
   simp only[Bool.and_eq_true,Bool.not_eq_true'] at h2
   obtain⟨ai,m⟩:=h2
   have J:i<listed.size:=by omega
   have N:listed[i]=false:=by simp[Array.getD,J] at ai;exact ai
   have ho:l.toArray[i]?=some l[i]:=by simp[B]
   have n:l[i]?=some l[i]:=by simp[B]
   generalize a1:l[i]=o at ho n;rw[ho] at m
   simp only[Option.map_some,Option.getD_some] at m
   rw[Array.all_eq_true_iff_forall_mem] at m
   have z:∀ t∈o.looksAt l.toArray,E (fun j=>listed.getD j false) t (a.tmps.getD t undef) w:=by
    intro t r
    have:=Xe.1 (Xe.1 ap o (Zm n)) t r
    rw[Bool.or_eq_true] at this
    rcases this with h | h
    ·simp only[Bool.and_eq_true,Bool.not_eq_true'] at h
     exact f.outs t (by simpa using h.1) (by simpa using h.2)
    ·obtain⟨k,hk,h⟩:=Array.any_eq_true.1 h
     simp only[Bool.and_eq_true,beq_iff_eq] at h
     obtain⟨q,y⟩:=h
     have T:=m _ (Array.getElem_mem hk);rw[q] at T
     simp only[Bool.not_true,Bool.false_or] at T
     generalize o.after[k]=e at *;obtain⟨oj,an,aq⟩:=Option.bind_eq_some_iff.1 y
     exact f.known e.on oj t (by simpa using an) aq T
   have ax:Qef (E (fun j=>listed.getD j false)) a w (QeU o):=Qem _ fun t r=>z t (by
    unfold Oper.looksAt;exact List.mem_append_left _ r)
   have hw:∀ b,onB gs o b=true->Region.wanted o (yielded l.toArray a.tmps)=b:=by
    intro b q;unfold onB at q;unfold Region.wanted
    cases hg:o.guard with
    | none=>rw[hg] at q;simp only at q |-;exact q.symm
    | some gw =>
      obtain⟨g,az⟩:=gw
      rw[hg] at q
      simp only at q |-
      cases T:gs.lookup g with
      | none=>rw[T] at q;cases q
      | some c =>
        rw[T] at q
        simp only[beq_iff_eq] at q
        have hy:yielded l.toArray a.tmps g=c:=by
         unfold yielded;have au:(g,c)∈gs:=mem_of_lookup gs g c T;have G:=Xe.1 ao _ au
         cases y:(l.toArray[g]?).bind (·.dst) with
         | none=>rw[y] at G;cases G
         | some t =>
           have hE:=z t (by unfold Oper.looksAt;rw[hg];simp only[y];simp);have K:=Qdz gs (hG _) g c T t y _ _ hE;obtain⟨og,av,ar⟩:=Option.bind_eq_some_iff.1 y
           have aa:t<a.tmps.size:=by
            rw[f.size]
            have:=Xe.1 V t (List.mem_filterMap.2 ⟨og,Zm (by simpa using av),ar⟩)
            simpa using this
           have r:a.tmps[t]?=some (a.tmps.getD t undef):=by simp[Array.getD,aa]
           simp only[Option.bind_some,r]
           cases c with
           | none=>simp only at K;rw[K];rfl
           | some b=>simp only at K;rw[K]
        rw[hy,q]
   have M:((listed.setIfInBounds i true).toList.filter (·==false)).length<=fuel:=by
    have h3:=filter_set listed.toList i (by simpa using J) (by simpa using N);rw[Array.toList_setIfInBounds]
    omega
   have s:(fun j=>(listed.setIfInBounds i true).getD j false)=Qct i (fun j=>listed.getD j false):=by
    funext j
    unfold Qct;by_cases e:j=i
    ·subst e;simp[Array.getD,J]
    ·have ac:i≠j:=fun x=>e x.symm;rw[Za,Array.getElem?_setIfInBounds_ne ac,<-Za]
     simp[e]
   have C:Qni o (fun j=>listed.getD j false):=fun e H q=>by
    have:=m e H
    rw[q] at this
    simpa using this
   have ag:(fun j=>listed.getD j false) i=false:=by simp[Array.getD,J,N]
   have R:∀ v w',W (Qct i (fun j=>listed.getD j false)) w'->(∀ t,Qm0 l (fun j=>listed.getD j false) t->E (fun j=>listed.getD j false) t (a.tmps.getD t undef) w->E (Qct i (fun j=>listed.getD j false)) t (a.tmps.getD t undef) w')->EO (E (Qct i (fun j=>listed.getD j false))) o.dst v w'->Qls E W l outs a0 (listed.setIfInBounds i true) (a.put o.dst v) w':=by
    intro v w' ab A K
    have D:∀ t,o.dst≠some t->(a.put o.dst v).tmps[t]?=a.tmps[t]?:=by
     intro t r
     cases y:o.dst with
     | none=>rfl
     | some d =>
       have:d≠t:=fun e=>r (by rw[y,e])
       simp[Act.put,this]
    have F:∀ (b c:Array Value) (t:Nat),b[t]?=c[t]?->b.getD t undef=c.getD t undef:=by
     intro b c t h;rw[Za,Za,h]
    refine⟨by rw[s];exact ab,?_,?_,?_,?_,?_,?_⟩
    ·rw[s]
     intro j oj u hS e H I;unfold Qct at hS |-;by_cases e':j=i
     ·subst e';rw[n] at u
      obtain rfl:=Xn u
      have:=C e H I
      simp only at this
      simp[this]
     ·have:(j==i)=false:=by simpa using e'
      rw[this,Bool.false_or] at hS
      have:=f.closed j oj u hS e H I
      simp only at this
      simp[this]
    ·rw[<-f.defers];cases o.dst<;>rfl
    ·rw[<-f.size];cases o.dst<;>simp[Act.put]
    ·intro t r;rw[D t (fun e=>r (List.mem_filterMap.2 ⟨o,Zm n,e⟩)),f.outer t r]
    ·intro t r hn;rw[F _ _ t (D t (fun e=>hn (List.mem_filterMap.2 ⟨o,Zm n,e⟩)))]
     rw[s]
     exact A _ (fun h=>absurd h hn) (f.outs t r hn)
    ·intro j oj t u y ak;by_cases U:j=i
     ·subst U;rw[n] at u
      obtain rfl:=Xn u
      have aa:t<a.tmps.size:=by
       rw[f.size]
       have:=Xe.1 V t (List.mem_filterMap.2 ⟨o,Zm n,y⟩)
       simpa using this
      rw[y] at K |-
      have:(a.put (some t) v).tmps.getD t undef=v:=by simp[Act.put,Array.getD,aa]
      rw[this,s];exact K
     ·have ac:o.dst≠some t:=fun e=>U (nodup_apart l j i oj o t ay u n y e);rw[F _ _ t (D t ac)]
      have aj:i≠j:=fun e=>U e.symm
      have ad:listed.getD j false=true:=by
       rw[Za,Array.getElem?_setIfInBounds_ne aj] at ak
       rw[Za];exact ak
      rw[s]
      exact A _ (fun _=>⟨j,oj,u,y,ad⟩) (f.known j oj t u y ad)
   unfold wpOp;rw[ho]
   simp only
   rcases QfL gs l 0 bs al hA i o n with ⟨h,A⟩|⟨h,A⟩
   ·rw[hw true h,Xs Z]
    refine .inl (QnW (fun a' w' hh=>hh) (fun e w' H=>by obtain⟨ch,rfl,hp⟩:=H;exact hX ch _ _ f.defers hp) ((XK i ▸ A) (fun j=>listed.getD j false) a w ag C f.closed f.world ax _ fun v w' O ab K=>?_));exact ih _ _ _ (by simpa using hs) M (R v w' ab O K)
   ·rw[hw false h]
    simp only[Bool.false_eq_true,if_false]
    have hO:=(XK i ▸ A) (fun j=>listed.getD j false) a w ag C f.closed f.world;exact ih _ _ _ (by simpa using hs) M (R undef w hO.1 hO.2.2 hO.2.1)
theorem Qc3 {l:List Oper}{outs:List Tmp}{gs:List (Nat × Option Bool)}{a:Act}{Q:Exit->Act->World->Prop}
 (E:(Nat->Bool)->Tmp->Value->World->Prop) (W:(Nat->Bool)->World->Prop) (PX:List PanicEntry->World->Prop) (s:∀ ch a' w,a'.defers=a.defers->PX ch w->Q (.panic ch) a' w)
 (e:P.follows .mixedOrders=true)  (q:a.tmps.size=m) (c:n<=m) (k:QaP l n outs gs bs=true)
 (g:∀ S,ZK (E S) l.toArray gs) (i:W (fun _=>false) w.drew) (r:Qaf (E (fun _=>false)) a w.drew outs)
 (u:AllOkY E W PX P l 0 l bs)
 (b:∀ (vs:Tmp->Value) (S:Nat->Bool) w',(∀ j,j<l.length->S j=true)->W S w'->(∀ t,(Qs l).contains t=true->E S t (vs t) w')->Q .normal (QM a vs (Qs l)) w') :
 (Code.region id l.toArray true).wp P Q a w:=by
 refine wp_region_any e ?_
 have d:(fun j=>(Array.replicate l.length false).getD j false)=fun _=>false:=by
  funext j
  rw[Za,Array.getElem?_replicate]
  split<;>rfl
 have v:l.toArray.size=l.length:=by simp
 rw[v]
 refine Qbq s (Qas (q ▸ c) k) g u b _ _ _ _ (by simp) ?_ ⟨by rw[d];exact i,(by rw[d];intro j o _ h;cases h),Z,Z,fun _ _=>rfl,(fun t p _=>by rw[d];exact Qa4 outs r t p),?_⟩
 ·simp only[Array.toList_replicate]
  exact Zt (List.length_filter_le _ _) (by simp)
 ·intro j o t y x f;simp[Array.getD] at f
end
section
variable (E:Tmp->Value->World->Prop) (W:World->Prop) (R:World->World->Prop) (PX:List PanicEntry->World->Prop) (P:Program)
def Ql8 (o:Oper):Prop :=
 ∀ a w,W w->Qef E a w (QeU o)->∀ K:Act->World->Prop,(∀ v w',R w w'->W w'->EO E o.dst v w'->K (a.put o.dst v) w')->o.wp P a w K (PEx PX)
def AllOkC:List Oper->List Bool->Prop
 | o::r,true::bs=>Ql8 E W R PX P o/\AllOkC r bs
 | o::r,false::bs=>(∀ w,W w->EO E o.dst undef w)/\AllOkC r bs
 | _,_=>True
end
section
variable {P:Program}{E:Tmp->Value->World->Prop}{W:World->Prop}{R:World->World->Prop}{PX:List PanicEntry->World->Prop}
theorem QgC {j:List Oper}(c:∀ t v w w',R w w'->E t v w->E t v w'):∀ (l:List Oper) (bs:List Bool) (k:Nat),AllOkC E W R PX P l bs->AllOkY (fun _=>E) (fun _=>W) PX P j k l bs
 | [],bs,k,h=>by cases bs<;>trivial
 | o::r,[],k,h=>trivial
 | o::r,true::bs,k,h=>⟨fun S a w _ _ _ b d K g=>h.1 a w b d K (fun v w' m e f=>g v w' (fun t _ i=>c t _ w w' m i) e f),QgC c r bs (k+1) h.2⟩
 | o::r,false::bs,k,h=>⟨fun S a w _ _ _ b=>⟨b,h.1 w b,fun _ _ h=>h⟩,QgC c r bs (k+1) h.2⟩
theorem Qc1 {l:List Oper}{outs:List Tmp}{gs:List (Nat × Option Bool)}{a:Act}{Q:Exit->Act->World->Prop}
 (E:Tmp->Value->World->Prop) (W:World->Prop) (R:World->World->Prop) (PX:List PanicEntry->World->Prop) (i:∀ ch a' w,a'.defers=a.defers->PX ch w->Q (.panic ch) a' w)
 (g:P.follows .mixedOrders=true)  (k:a.tmps.size=m) (c:n<=m) (j:QaP l n outs gs bs=true)
 (f:∀ t v w w',R w w'->E t v w->E t v w') (h:ZK E l.toArray gs) (d:W w.drew) (o:Qaf E a w.drew outs)
 (p:AllOkC E W R PX P l bs)
 (b:∀ (vs:Tmp->Value) w',W w'->(∀ t,(Qs l).contains t=true->E t (vs t) w')->Q .normal (QM a vs (Qs l)) w') :
 (Code.region id l.toArray true).wp P Q a w :=
 Qc3 (fun _=>E) (fun _=>W) PX i g k c j (fun _=>h) d o (QgC f l bs 0 p) (fun vs _ w' _ d e=>b vs w' d e)
end
section
variable {P:Program}{E:Tmp->Value->World->Prop}{W:World->Prop}{R:World->World->Prop}
theorem eoB (o:Option Tmp)(a:W w) (h:EO E o v w):EO (fun t v w=>W w/\E t v w) o v w:=by
 cases o with
 | none=>exact h
 | some t=>exact⟨a,h⟩
theorem knB (a:Act) (w:World):∀ l,Qef (fun t v w=>W w/\E t v w) a w l->Qef E a w l
 | [],h=>h
 | _::r,h=>⟨h.1.2,knB a w r h.2⟩
theorem Qm7 (d:∀ t v w w',R w w'->E t v w->E t v w'):∀ (l:List Oper) (bs:List Bool),Qeg E W R P l bs->AllOkC (fun t v w=>W w/\E t v w) W (fun w w'=>R w w'/\W w') (fun _ _=>False) P l bs
 | [],bs,h=>by cases bs<;>trivial
 | o::r,[],h=>trivial
 | o::r,true::bs,h=>⟨fun a w b e K g=>wpq (fun _ _ h=>h) (h.1 a w b (knB a w _ e) K (fun v w' i c f=>g v w' ⟨i,c⟩ c (eoB o.dst c f))),Qm7 d r bs h.2⟩
 | o::r,false::bs,h=>⟨fun w b=>eoB o.dst b (h.1 w b),Qm7 d r bs h.2⟩
theorem guB {a:Array Oper}:∀ gs,QaU E W a gs->ZK (fun t v w=>W w/\E t v w) a gs
 | [],h=>h
 | _::r,h=>⟨fun t c v w b=>h.1 t c v w b.1 b.2,guB r h.2⟩
theorem ouB {a:Act}{w:World}(b:W w):∀ l,Qaf E a w l->Qaf (fun t v w=>W w/\E t v w) a w l
 | [],h=>h
 | _::r,h=>⟨⟨b,h.1⟩,ouB b r h.2⟩
theorem QaX {l:List Oper}{outs:List Tmp}{gs:List (Nat × Option Bool)}{a:Act}{Q:Exit->Act->World->Prop}
 (E:Tmp->Value->World->Prop) (W:World->Prop) (R:World->World->Prop)
 (j:P.follows .mixedOrders=true)  (r:a.tmps.size=m) (c:n<=m) (p:QaP l n outs gs bs=true)
 (d:∀ t v w w',R w w'->E t v w->E t v w') (k:QaU E W l.toArray gs) (e:W w.drew) (q:Qaf E a w.drew outs)
 (u:Qeg E W R P l bs)
 (b:∀ (vs:Tmp->Value) w',W w'->(∀ t,(Qs l).contains t=true->E t (vs t) w')->Q .normal (QM a vs (Qs l)) w') :
 (Code.region id l.toArray true).wp P Q a w :=
 Qc1 _ W _ (fun _ _=>False) (fun _ _ _ _ h=>h.elim) j r c p (fun t v w w' f o=>⟨f.2,d t v w w' f.1 o.2⟩) (guB gs k) e (ouB e outs q) (Qm7 d l bs u) (fun vs w' i g=>b vs w' i (fun t s=>(g t s).2))
end
theorem QmL (w:World) (c:List Value) (t:TypeId):∀ (j:Nat) (u:Value),c[j]?=some u->(w.alloc (.cells c.toArray t)).cell? ((⟨w.heap.size,0,none⟩:Addr).add j)=some u:=by
 intro j u h;have a:c.toArray[j]?=some u:=by simpa using h
 rw[Go.WideShapes.add_plain,XK]
 exact Qb (Qe w c.toArray t) j u a
structure MG where
 bh:Nat
 O:Nat->Prop
 G:HG
 A:Nat->Prop
 pm:Option Addr
 cm:Nat
 pi:Option Addr
 ci:Nat
 vc:Value
 vb:Value
 vo:Value
 t:FB
 fs:List FB
 lo:Nat
def Qi (i:Nat):Code->Option Code
 | .region k ops d=>if k=i then some (.region k ops d) else none
 | .loop c=>Qi i c
 | .seq a b=>match Qi i a with
   | some c=>some c
   | none=>Qi i b
 | .block _ c=>Qi i c
 | .scope c=>Qi i c
 | .cond _ a b=>match Qi i a with
   | some c=>some c
   | none=>Qi i b
 | _=>none
def Qal (k:Nat):Code->List Oper
 | .region _ ops _=>ops.toList.drop k
 | _=>[]
theorem Qk {p:Addr}(h:w.cell? p=some v) (b:Below w.heap.size w w'):w'.cell? p=some v:=(b.cell (Xi w p h)).trans h
theorem ZO (w:World){rest:List Oper}{o:Oper}{a:Act}{Q:Exit->Act->World->Prop}(C:o.guard=none) (s x:Operand) (t:TypeId)
 (H:o.op=.call { callee:=.builtin .append,args:=#[s,x],argTypes:=#[t,t] })
 (e:TypeId) (i:TypeInfo) (z:Value) (size d:Nat) (S:P.underlying t=some (.slice e)) (hi:P.info? e=some i) (J:i.zero=some z)
 (l:i.size=size) (A:i.bytes=d) (B:z.cells.size=size) (D:0<size)
 (v:Value) (n:Nat) (xs:List Value) (G:a.eval s=v) (q:w.ownsRow 0 e size v n xs)
 (y:Addr) (m c:Nat) (b:List Value) (F:a.eval x=.slice (some y) m c) (R:b.length=m*size) (g:∀ j u,b[j]?=some u->w.cell? (y.add j)=some u) (O:∀ u∈b,u.oneCell'=true)
 (E:n+m<=maxLen) (f:(n+m)*d<=140737488355328)
 (h:∀ v' w',w'.ownsRow 0 e size v' (n+m) (xs++b)->w.grownBy w' v.ownBlock->(∀ k,v'.ownBlock=some k->v.ownBlock=some k\/k=w.heap.size)->wpList P ops Q rest (a.put o.dst v') w'):wpList P ops Q (o::rest) a w:=by
 obtain⟨v',w',M,L,N,_,p⟩:=run_append_own_at (P:=P) w 0 t o.type e i z size d S hi J l A B D v n xs q y m c b R g O E f (Xb _)
 refine wpList_plain C fun K I=>?_;unfold Oper.wp execOp;simp only[H,resolve,invoke,builtin,Sem.run_bind,Sem.run_pure,Result.andThen_ok,List.map_toArray,List.map_cons,List.map_nil,G,F,M]
 refine I _ _ (h v' w' L N (fun k r=>?_));rcases p with p | p
 ·rw[p] at r;exact .inl r
 ·rw[p] at r;exact .inr (by simpa using r.symm)
theorem QaR {z:Nat}{xs:List Value}(h:w.ownsRow 0 e z v n xs):∃ a c,v=.slice a n c:=by
 rcases h.2 with ⟨e,f⟩|⟨g,b,d,e,_⟩
 ·exact⟨none,0,by rw[e,f]⟩
 ·exact⟨_,_,e⟩
abbrev I64 (x:Int):Prop:=-9223372036854775808<=x/\x<=9223372036854775807
structure IP where
 pR:Option Addr
 cR:Nat
 pA:Option Addr
 cA:Nat
structure EP where
 pYR:Option Addr
 cYR:Nat
 pYA:Option Addr
 cYA:Nat
 pNR:Option Addr
 cNR:Nat
 pNA:Option Addr
 cNA:Nat
 pA:Option Addr
 cA:Nat
structure BP where
 pP:Option Addr
 cP:Nat
 pC:Option Addr
 cC:Nat
 e:EP
structure FP where
 pP:Option Addr
 cP:Nat
 pR:Option Addr
 cR:Nat
 pB:Option Addr
 cB:Nat
structure QhB (w:World) (O:Nat->Prop) (x:MTo) (pR:Option Addr) (cR:Nat) (pA:Option Addr) (cA:Nat):Prop where
 regs:intsL.In w O x.regs [.slice pR x.regs.length cR]
 args:intsL.In w O x.args [.slice pA x.args.length cA]
 bnd:I64 x.block
structure IIn (w:World) (O:Nat->Prop) (x:Qt) (i:IP):Prop where
 regs:intsL.In w O x.regs [.slice i.pR x.regs.length i.cR]
 args:intsL.In w O x.args [.slice i.pA x.args.length i.cA]
 bnd:I64 x.op/\I64 x.a/\I64 x.b/\I64 x.c/\I64 x.k/\I64 x.n
structure EIn (w:World) (O:Nat->Prop) (x:ZA) (e:EP):Prop where
 yes:QhB w O x.yes e.pYR e.cYR e.pYA e.cYA
 no:QhB w O x.no e.pNR e.cNR e.pNA e.cNA
 args:intsL.In w O x.args [.slice e.pA x.args.length e.cA]
 bnd:I64 x.op/\I64 x.a
structure BIn (w:World) (O:Nat->Prop){n:Nat}(x:MBlock n) (b:BP):Prop where
 params:(Qo n).In w O x.params [.slice b.pP x.params.length b.cP]
 code:insL.list.In w O x.code [.slice b.pC x.code.length b.cC]
 fin:EIn w O x.fin b.e
 bnd:I64 x.regs
structure FIn (w:World) (O:Nat->Prop){n:Nat}(x:MFunc n) (f:FP):Prop where
 params:(Qo n).In w O x.params [.slice f.pP x.params.length f.cP]
 results:(Qo n).In w O x.results [.slice f.pR x.results.length f.cR]
 blocks:(Zp n).list.In w O x.blocks [.slice f.pB x.blocks.length f.cB]
 bnd:I64 x.regs
section
variable {w w':World}{O O':Nat->Prop}{n:Nat}{cs:List Value}
theorem QhB.keep {x:MTo}(b:∀ k,O k->k<w.heap.size->w'.heap[k]?=w.heap[k]?) (a:∀ k,O k->k<w.heap.size->O' k) (h:QhB w O x pR cR pA cA):QhB w' O' x pR cR pA cA:=⟨Lay.keep _ b a h.regs,Lay.keep _ b a h.args,h.bnd⟩
theorem QhB.below {x:MTo}(h:QhB w O x pR cR pA cA) (a:Below w.heap.size w w'):QhB w' O x pR cR pA cA:=h.keep (fun k _ b=>a.block k b) (fun _ h _=>h)
theorem IIn.keep {x:Qt}{i:IP}(b:∀ k,O k->k<w.heap.size->w'.heap[k]?=w.heap[k]?) (a:∀ k,O k->k<w.heap.size->O' k) (h:IIn w O x i):IIn w' O' x i:=⟨Lay.keep _ b a h.regs,Lay.keep _ b a h.args,h.bnd⟩
theorem IIn.below {x:Qt}{i:IP}(h:IIn w O x i) (a:Below w.heap.size w w'):IIn w' O x i:=h.keep (fun k _ b=>a.block k b) (fun _ h _=>h)
theorem EIn.keep {x:ZA}{e:EP}(b:∀ k,O k->k<w.heap.size->w'.heap[k]?=w.heap[k]?) (a:∀ k,O k->k<w.heap.size->O' k) (h:EIn w O x e):EIn w' O' x e:=⟨h.yes.keep b a,h.no.keep b a,Lay.keep _ b a h.args,h.bnd⟩
theorem EIn.below {x:ZA}{e:EP}(h:EIn w O x e) (a:Below w.heap.size w w'):EIn w' O x e:=h.keep (fun k _ b=>a.block k b) (fun _ h _=>h)
theorem BIn.keep {x:MBlock n}{b:BP}(c:∀ k,O k->k<w.heap.size->w'.heap[k]?=w.heap[k]?) (a:∀ k,O k->k<w.heap.size->O' k) (h:BIn w O x b):BIn w' O' x b:=⟨Lay.keep _ c a h.params,Lay.keep _ c a h.code,h.fin.keep c a,h.bnd⟩
theorem BIn.below {x:MBlock n}{b:BP}(h:BIn w O x b) (a:Below w.heap.size w w'):BIn w' O x b:=h.keep (fun k _ c=>a.block k c) (fun _ h _=>h)
theorem FIn.keep {x:MFunc n}{f:FP}(b:∀ k,O k->k<w.heap.size->w'.heap[k]?=w.heap[k]?) (a:∀ k,O k->k<w.heap.size->O' k) (h:FIn w O x f):FIn w' O' x f:=⟨Lay.keep _ b a h.params,Lay.keep _ b a h.results,Lay.keep _ b a h.blocks,h.bnd⟩
theorem FIn.below {x:MFunc n}{f:FP}(h:FIn w O x f) (a:Below w.heap.size w w'):FIn w' O x f:=h.keep (fun k _ b=>a.block k b) (fun _ h _=>h)
theorem QiF {x:MTo}(h:toL.In w O x cs):∃ pR cR pA cA,cs=[Iv x.block,.slice pR x.regs.length cR,.slice pA x.args.length cA]/\QhB w O x pR cR pA cA:=by
 obtain⟨a,c,b,d,rfl,g,f,e⟩:=QfR h
 exact⟨a,c,b,d,Z,g,f,e⟩
theorem Qjf {x:MTo}(h:QhB w O x pR cR pA cA):toL.In w O x [Iv x.block,.slice pR x.regs.length cR,.slice pA x.args.length cA]:=Qnj h.regs h.args h.bnd
theorem Qej {x:Qt}(h:insL.In w O x cs):∃ i:IP,cs=[Iv x.op,Iv x.a,Iv x.b,Iv x.c,Iv x.k,Iv x.n,.slice i.pR x.regs.length i.cR,.slice i.pA x.args.length i.cA]/\IIn w O x i:=by
 obtain⟨a,c,b,d,rfl,g,f,e⟩:=QkP h
 exact⟨⟨a,c,b,d⟩,Z,g,f,e⟩
theorem Qeh {x:ZA}(h:endL.In w O x cs):∃ e:EP,cs=[Iv x.op,Iv x.a,Iv x.yes.block,.slice e.pYR x.yes.regs.length e.cYR,.slice e.pYA x.yes.args.length e.cYA,Iv x.no.block,.slice e.pNR x.no.regs.length e.cNR,.slice e.pNA x.no.args.length e.cNA,.slice e.pA x.args.length e.cA]/\EIn w O x e:=by
 obtain⟨r,q,a,c,rfl,f,o,b,d⟩:=Qgw h
 obtain⟨i,j,pA,cA,rfl,m⟩:=QiF f
 obtain⟨l,p,k,n,rfl,g⟩:=QiF o
 exact⟨⟨i,j,pA,cA,l,p,k,n,a,c⟩,Z,m,g,b,d⟩
theorem Qgf {x:ZA}{e:EP}(h:EIn w O x e):endL.In w O x [Iv x.op,Iv x.a,Iv x.yes.block,.slice e.pYR x.yes.regs.length e.cYR,.slice e.pYA x.yes.args.length e.cYA,Iv x.no.block,.slice e.pNR x.no.regs.length e.cNR,.slice e.pNA x.no.args.length e.cNA,.slice e.pA x.args.length e.cA]:=Qmq (Qjf h.yes) (Qjf h.no) h.args h.bnd
theorem Qb2 {x:MBlock n}(h:(Zp n).In w O x cs):∃ b:BP,cs=[Iv x.regs,.slice b.pP x.params.length b.cP,.slice b.pC x.code.length b.cC,Iv x.fin.op,Iv x.fin.a,Iv x.fin.yes.block,.slice b.e.pYR x.fin.yes.regs.length b.e.cYR,.slice b.e.pYA x.fin.yes.args.length b.e.cYA,Iv x.fin.no.block,.slice b.e.pNR x.fin.no.regs.length b.e.cNR,.slice b.e.pNA x.fin.no.args.length b.e.cNA,.slice b.e.pA x.fin.args.length b.e.cA]/\BIn w O x b:=by
 obtain⟨a,c,b,d,l,rfl,i,j,f,g⟩:=Qb9 h
 obtain⟨e,rfl,k⟩:=Qeh f
 exact⟨⟨a,c,b,d,e⟩,Z,i,j,k,g⟩
theorem QcH {x:MFunc n}(h:(ZV n).In w O x cs):∃ f:FP,cs=[Iv x.regs,.slice f.pP x.params.length f.cP,.slice f.pR x.results.length f.cR,.slice f.pB x.blocks.length f.cB]/\FIn w O x f:=by
 obtain⟨a,c,b,d,e,f,rfl,k,j,g,i⟩:=Qar h
 exact⟨⟨a,c,b,d,e,f⟩,Z,k,j,g,i⟩
theorem Qib {l:List Qt}(h:(insL).list.In w O l [.slice p m c]){x:Qt}(r:l[i]?=some x) :
 ∃ (g o:Nat) (i':IP),p=some ⟨g,o,none⟩/\w.rangeAt g (o+i*8) [Iv x.op,Iv x.a,Iv x.b,Iv x.c,Iv x.k,Iv x.n,.slice i'.pR x.regs.length i'.cR,.slice i'.pA x.args.length i'.cA]/\IIn w O x i':=by
 obtain⟨g,o,y,e,u,z,d,s⟩:=Yf h r
 obtain⟨i',rfl,q⟩:=Qej s
 have t:(insL).size=8:=rfl;rw[t] at d
 exact⟨g,o,i',e,fun j v f=>(d j (by have:=(Zi f).1;simpa using this)).trans f,q⟩
theorem Qd6 {l:List (MBlock n)}(h:(Zp n).list.In w O l [.slice p m c]){x:MBlock n}(q:l[i]?=some x) :
 ∃ (g o:Nat) (b:BP),p=some ⟨g,o,none⟩/\w.rangeAt g (o+i*12) [Iv x.regs,.slice b.pP x.params.length b.cP,.slice b.pC x.code.length b.cC,Iv x.fin.op,Iv x.fin.a,Iv x.fin.yes.block,.slice b.e.pYR x.fin.yes.regs.length b.e.cYR,.slice b.e.pYA x.fin.yes.args.length b.e.cYA,Iv x.fin.no.block,.slice b.e.pNR x.fin.no.regs.length b.e.cNR,.slice b.e.pNA x.fin.no.args.length b.e.cNA,.slice b.e.pA x.fin.args.length b.e.cA]/\BIn w O x b:=by
 obtain⟨g,o,u,e,t,y,d,r⟩:=Yf h q
 obtain⟨b,rfl,k⟩:=Qb2 r
 have s:(Zp n).size=12:=rfl;rw[s] at d
 exact⟨g,o,b,e,fun j v f=>(d j (by have:=(Zi f).1;simpa using this)).trans f,k⟩
theorem Qfy {l:List (MFunc n)}(h:(ZV n).list.In w O l [.slice p m c]){x:MFunc n}(k:l[i]?=some x) :
 ∃ (g o:Nat) (f:FP),p=some ⟨g,o,none⟩/\w.rangeAt g (o+i*4) [Iv x.regs,.slice f.pP x.params.length f.cP,.slice f.pR x.results.length f.cR,.slice f.pB x.blocks.length f.cB]/\FIn w O x f:=by
 obtain⟨g,o,t,e,s,u,a,q⟩:=Yf h k
 obtain⟨f,rfl,d⟩:=QcH q
 have r:(ZV n).size=4:=rfl;rw[r] at a
 exact⟨g,o,f,e,fun j v b=>(a j (by have:=(Zi b).1;simpa using this)).trans b,d⟩
end
theorem Qkg (op:Int):op=1\/op=2\/op=3\/op=4\/op=5\/op=6\/op=7\/op=8\/op=9\/op=10\/op=11\/op=12\/op=13\/op=14\/(op≠1/\op≠2/\op≠3/\op≠4/\op≠5/\op≠6/\op≠7/\op≠8/\op≠9/\op≠10/\op≠11/\op≠12/\op≠13/\op≠14):=by omega
def Qb3 (funcs:Nat) (op a b c k n:Int) (rl al:Nat):Int :=
 match Q7 op with
 | none=>3
 | some (fa,fb,fc,fk,fn,fr,fs) =>
   if (!fa&&a != 0)||(!fb&&b != 0)||(!fc&&c != 0)||(!fk&&k != 0)||(!fn&&n != 0)||(!fr&&decide (0<rl))||(!fs&&decide (0<al)) then 4
   else if op=2/\(k<1\/9<k) then 1
   else if op=5/\8<al then 2
   else if (op=6\/op=7)/\(k<0\/7<k) then 1
   else if op=14/\(k<0\/(funcs:Int)<=k) then 1
   else if op=14/\(6<rl\/8<al) then 2
   else 0
theorem Qt.form_eq (d:Nat) (x:Qt):x.form d=Qb3 d x.op x.a x.b x.c x.k x.n x.regs.length x.args.length:=by
 unfold Qt.form Qt.formless Qb3
 cases Q7 x.op with
 | none=>rfl
 | some p=>obtain⟨a,b,c,k,n,r,s⟩:=p;rfl
def rangeC (x l m:Int):Int:=if x<l\/m<x then 1 else 0
def manyC (len:Nat) (m:Int):Int:=if m<len then 2 else 0
def handedC (r:Nat) (m:Int) (s:Nat):Int:=if manyC r m≠0 then manyC r m else manyC s 8
def QjI (a b c k n:Int) (rl al:Nat):Bool:=a==0&&b==0&&c==0&&k==0&&n==0&&(rl:Int)==0&&(al:Int)==0
def ZH (funcs:Nat) (op k:Int) (rl al:Nat):Int :=
 if op=2 then rangeC k 1 9 else if op=6\/op=7 then rangeC k 0 7 else if op=5 then manyC al 8
 else if op=14 then (if rangeC k 0 ((funcs:Int) - 1)=0 then handedC rl 6 al else rangeC k 0 ((funcs:Int) - 1)) else 0
theorem fb (f:Bool) (a:Int):(!f&&a != 0)=!((bif f then 0 else a)==0):=by cases f<;>simp[bne]
theorem fbn (f:Bool) (l:Nat):(!f&&decide (0<l))=!(((bif f then 0 else l:Nat):Int)==0):=by
 cases f
 ·by_cases h:l=0
  ·simp[h]
  ·have:0<l:=by omega
   simp[this,h]
 ·simp
theorem Qjn (d:Nat) (op k:Int) (rl al:Nat):(if op=2/\(k<1\/9<k) then 1
 else if op=5/\8<al then 2
 else if (op=6\/op=7)/\(k<0\/7<k) then 1
 else if op=14/\(k<0\/(d:Int)<=k) then 1
 else if op=14/\(6<rl\/8<al) then 2
 else 0)=ZH d op k rl al:=by
 unfold ZH;by_cases c:op=2
 ·subst c;simp[rangeC]
 ·by_cases e:op=6\/op=7
  ·have b:¬ op=5:=by omega
   have a:¬ op=14:=by omega
   simp[c,b,e,a,rangeC]
  ·by_cases b:op=5
   ·subst b;simp[manyC];split<;>split<;>omega
   ·by_cases a:op=14
    ·subst a;simp[rangeC,handedC,manyC]
     repeat' split
     all_goals omega
    ·simp[c,b,e,a]
theorem QeX {i:Nat}{op a b c k n:Int}{h d g f fn fr fs:Bool}(e:Q7 op=some (h,d,g,f,fn,fr,fs)) :
 Qb3 i op a b c k n rl al=if QjI (bif h then 0 else a) (bif d then 0 else b) (bif g then 0 else c) (bif f then 0 else k) (bif fn then 0 else n) (bif fr then 0 else rl) (bif fs then 0 else al)=true then ZH i op k rl al else 4:=by
 simp only[Qb3,e,Qjn]
 rw[fb,fb,fb,fb,fb,fbn,fbn]
 unfold QjI;generalize ((bif h then 0 else a)==0)=l;generalize ((bif d then 0 else b)==0)=o;generalize ((bif g then 0 else c)==0)=q;generalize ((bif f then 0 else k)==0)=p;generalize ((bif fn then 0 else n)==0)=m;generalize (((bif fr then 0 else rl:Nat):Int)==0)=r;generalize (((bif fs then 0 else al:Nat):Int)==0)=j
 cases l<;>cases o<;>cases q<;>cases p<;>cases m<;>cases r<;>cases j<;>rfl
theorem QfG (h:f<1000000):Rd prog 118 #[Iv (f:Int)] w (Iv (10000*(f:Int)+9999)):=by
 unfold Rd;skip
 skip
 go_enter func118,ntmps118
 go_wp2
 go_ret;refine⟨?_,Zr⟩
 show Ending.returned (Iv ((f:Int)*10000+9999))=_;congr 2
 omega
theorem Qe5 (h:f<1000000/\b<1000000):Rd prog 181 #[Iv (f:Int),Iv (b:Int)] w (Iv (10000*(f:Int)+100*(b:Int)+90)):=by
 unfold Rd;have c:=h.1;have a:=h.2;skip
 go_enter func181,ntmps181
 go_wp2
 go_ret;refine⟨?_,Zr⟩
 show Ending.returned (Iv ((f:Int)*10000+(b:Int)*100+90))=_;congr 2
 omega
theorem QdH (h:f<1000000/\b<1000000):Rd prog 131 #[Iv (f:Int),Iv (b:Int)] w (Iv (10000*(f:Int)+100*(b:Int)+91)):=by
 unfold Rd;have c:=h.1;have a:=h.2;skip
 go_enter func131,ntmps131
 go_wp2
 go_ret;refine⟨?_,Zr⟩
 show Ending.returned (Iv ((f:Int)*10000+(b:Int)*100+91))=_;congr 2
 omega
theorem QdL (h:f<1000000/\b<1000000/\i<1000000):Rd prog 130 #[Iv (f:Int),Iv (b:Int),Iv (i:Int)] w (Iv (10000*(f:Int)+100*(b:Int)+(i:Int))):=by
 unfold Rd;have e:=h.1;have d:=h.2;have a:=h.2.1;have c:=h.2.2;go_enter func130,ntmps130
 go_wp2
 go_ret;refine⟨?_,Zr⟩
 show Ending.returned (Iv ((f:Int)*10000+(b:Int)*100+(i:Int)))=_;congr 2
 omega
theorem QaE {l m:Int}:Rd prog 262 #[Iv x,Iv l,Iv m] w (Iv (rangeC x l m)):=by
 unfold Rd rangeC;by_cases b:x<l
 ·rw[Xs (.inl b)]
  go_enter func262,ntmps262
  go_wp2
  go_ret;exact⟨Z,Zr⟩
 ·by_cases a:m<x
  ·rw[Xs (.inr a)]
   go_enter func262,ntmps262
   go_wp2
   go_ret;exact⟨Z,Zr⟩
  ·rw[Xr (by omega)]
   go_enter func262,ntmps262
   go_wp2
   go_ret;exact⟨Z,Zr⟩
theorem QaN {len:Nat}{m:Int}:Rd prog 263 #[.slice p len c,Iv m] w (Iv (manyC len m)):=by
 unfold Rd manyC;by_cases a:m<len
 ·rw[Xs a]
  go_enter func263,ntmps263
  go_wp2
  go_ret;exact⟨Z,Zr⟩
 ·rw[Xr a]
  go_enter func263,ntmps263
  go_wp2
  go_ret;exact⟨Z,Zr⟩
theorem Qbh {q:Option Addr}{r:Nat}{m:Int}:Rd prog 264 #[.slice p r c,Iv m,.slice q s d] w (Iv (handedC r m s)):=by
 have b:Hid (∀ a:World,Calls prog 263 #[.slice p r c,Iv m] a fun e k=>e=.returned (Iv (manyC r m))/\Below a.heap.size a k):=fun a=>QaN;have j:Hid (∀ a:World,Calls prog 263 #[.slice q s d,Iv 8] a fun e k=>e=.returned (Iv (manyC s 8))/\Below a.heap.size a k):=fun a=>QaN;unfold Rd handedC;by_cases h:manyC r m=0
 ·rw[Xr (by simpa using h)]
  rw[h] at b
  go_enter func264,ntmps264
  go_wp2_with fail
  refine(b.out w).mono ?_
  rintro e i ⟨rfl,f⟩;have g:Hid (Below w.heap.size w i):=f;clear f b;go_wp2_with fail
  refine(j.out i).mono ?_
  rintro e o ⟨rfl,l⟩;have n:Hid (Below w.heap.size w o):=g.out.trans (l.mono g.out.size);clear l j g;go_wp2
  go_ret;exact⟨Z,n.out⟩
 ·rw[Xs h]
  have t:(manyC r m==0)=false:=by simpa using h
  generalize manyC r m=v at b t h |-;go_enter func264,ntmps264
  go_wp2_with fail
  refine(b.out w).mono ?_
  rintro e i ⟨rfl,f⟩;have g:Hid (Below w.heap.size w i):=f;clear f b j;go_wp2
  go_ret;exact⟨Z,g.out⟩
theorem QdC {xop:Int}:Rd prog 228 #[.agg #[Iv xop,Iv xa,Iv xb,Iv xc,Iv xk,Iv xn,.slice ra rl rc,.slice aa al ac]] w (.bool (QjI xa xb xc xk xn rl al)):=by
 have D:(xa==0)=false\/xa=0/\((xb==0)=false\/xb=0/\((xc==0)=false\/xc=0/\((xk==0)=false\/xk=0/\((xn==0)=false\/xn=0/\(((rl:Int)==0)=false\/rl=0/\(((al:Int)==0)=false\/al=0)))))):=by
  simp only[beq_eq_false_iff_ne];omega
 unfold Rd;rcases D with g | ⟨rfl,g | ⟨rfl,g | ⟨rfl,g | ⟨rfl,g | ⟨rfl,g | ⟨rfl,g | rfl⟩⟩⟩⟩⟩⟩
 all_goals
  go_enter func228,ntmps228
  go_wp2
  go_ret;exact⟨by first | rfl | simp[QjI,g],Zd _ _⟩
def wfV (xop xa xb xc xk xn:Int) (ra aa:Option Addr) (rl rc al ac:Nat):Value:=match Q7 xop with
 | some (fa,fb,fc,fk,fn,fr,fs)=>.tuple #[.agg #[.int .i64 xop,.int .i64 (bif fa then 0 else xa),.int .i64 (bif fb then 0 else xb),.int .i64 (bif fc then 0 else xc),.int .i64 (bif fk then 0 else xk),.int .i64 (bif fn then 0 else xn),.slice (bif fr then none else ra) (bif fr then 0 else rl) (bif fr then 0 else rc),.slice (bif fs then none else aa) (bif fs then 0 else al) (bif fs then 0 else ac)],.bool true]
 | none=>.tuple #[.agg #[.int .i64 xop,.int .i64 xa,.int .i64 xb,.int .i64 xc,.int .i64 xk,.int .i64 xn,.slice ra rl rc,.slice aa al ac],.bool false]
theorem Qmo {xop:Int}:Rd prog 227 #[.agg #[Iv xop,Iv xa,Iv xb,Iv xc,Iv xk,Iv xn,.slice ra rl rc,.slice aa al ac]] w (wfV xop xa xb xc xk xn ra aa rl rc al ac):=by
 rcases Qkg xop with rfl | rfl | rfl | rfl | rfl | rfl | rfl | rfl | rfl | rfl | rfl | rfl | rfl | rfl | n
 rotate_right
 obtain⟨f,i,k,g,j,o,l,h,m,b,a,e,d,c⟩:=n
 have E:Q7 xop=none:=by simp[Q7, *]
 rw[<-beq_eq_false_iff_ne] at f i k g j o l h m b a e d c
 all_goals
  unfold Rd;go_enter func227,ntmps227
  go_wp2
  exact Xy (v:=wfV _ xa xb xc xk xn ra aa rl rc al ac) (by simp[results,results227,go_sem,wfV];first | (simp[Q7];done) | rw[E]) Z ⟨Z,QhA _ _ _⟩
theorem Qip {xop lo hi:Int}{g:Option Addr}{a:Nat}(h:xop=2/\lo=1/\hi=9\/xop=6/\lo=0/\hi=7\/xop=7/\lo=0/\hi=7):Rd prog 229 #[.agg #[.slice g a cm],.agg #[Iv xop,Iv xa,Iv xb,Iv xc,Iv xk,Iv xn,.slice ra rl rc,.slice aa al ac]] w (Iv (ZH a xop xk rl al)):=by
 have C:Hid (∀ b:World,Rd prog 262 #[Iv xk,Iv lo,Iv hi] b (Iv (rangeC xk lo hi))):=fun b=>QaE;unfold Rd;rw[show ZH a xop xk rl al=rangeC xk lo hi by rcases h with ⟨rfl,rfl,rfl⟩|⟨rfl,rfl,rfl⟩|⟨rfl,rfl,rfl⟩<;>rfl]
 generalize rangeC xk lo hi=v at C |-;rcases h with ⟨rfl,rfl,rfl⟩|⟨rfl,rfl,rfl⟩|⟨rfl,rfl,rfl⟩
 all_goals
  go_enter func229,ntmps229
  go_wp2_with fail
  refine(C.out _).mono ?_
  rintro e f ⟨rfl,c⟩;have d:Hid (Below w.heap.size w f):=(QhA _ _ _).trans (c.mono (QhA w _ _).size);clear c C;go_wp2
  go_ret;exact⟨Z,d.out⟩
theorem QlW {h:Option Addr}{b:Nat}:Rd prog 229 #[.agg #[.slice h b cm],.agg #[Iv 5,Iv xa,Iv xb,Iv xc,Iv xk,Iv xn,.slice ra rl rc,.slice aa al ac]] w (Iv (ZH b 5 xk rl al)):=by
 have C:Hid (∀ a:World,Calls prog 263 #[.slice aa al ac,Iv 8] a fun e g=>e=.returned (Iv (manyC al 8))/\Below a.heap.size a g):=fun a=>QaN;rw[show ZH b 5 xk rl al=manyC al 8 from Z]
 generalize manyC al 8=v at C |-;unfold Rd;go_enter func229,ntmps229
 go_wp2_with fail
 refine(C.out _).mono ?_
 rintro e f ⟨rfl,c⟩;have d:Hid (Below w.heap.size w f):=(QhA _ _ _).trans (c.mono (QhA w _ _).size);clear c C;go_wp2
 go_ret;exact⟨Z,d.out⟩
theorem QkR {h:Option Addr}{a:Nat}(r:a<2305843009213693952):Rd prog 229 #[.agg #[.slice h a cm],.agg #[Iv 14,Iv xa,Iv xb,Iv xc,Iv xk,Iv xn,.slice ra rl rc,.slice aa al ac]] w (Iv (ZH a 14 xk rl al)):=by
 have C:Hid (∀ b:World,Calls prog 262 #[Iv xk,Iv 0,Iv ((a:Int) - 1)] b fun e j=>e=.returned (Iv (rangeC xk 0 ((a:Int) - 1)))/\Below b.heap.size b j):=fun b=>QaE;have i:Hid (∀ b:World,Calls prog 264 #[.slice ra rl rc,Iv 6,.slice aa al ac] b fun e j=>e=.returned (Iv (handedC rl 6 al))/\Below b.heap.size b j):=fun b=>Qbh;rw[show ZH a 14 xk rl al=if rangeC xk 0 ((a:Int) - 1)=0 then handedC rl 6 al else rangeC xk 0 ((a:Int) - 1) from Z]
 generalize rangeC xk 0 ((a:Int) - 1)=v at C |-;generalize handedC rl 6 al=u at i |-;have f:Blk ((w.alloc (.cells #[.slice h a cm] 24)).alloc (.cells #[Iv 14,Iv xa,Iv xb,Iv xc,Iv xk,Iv xn,.slice ra rl rc,.slice aa al ac] 78)) (w.heap.size+1) #[Iv 14,Iv xa,Iv xb,Iv xc,Iv xk,Iv xn,.slice ra rl rc,.slice aa al ac] 78:=Blk.new2 _ _ _ _;have c:Hid (Below w.heap.size w ((w.alloc (.cells #[.slice h a cm] 24)).alloc (.cells #[Iv 14,Iv xa,Iv xb,Iv xc,Iv xk,Iv xn,.slice ra rl rc,.slice aa al ac] 78))):=QhA _ _ _;unfold Rd;by_cases k:v=0
 ·subst k;rw[Xs Z]
  go_enter func229,ntmps229
  go_wp2_with fail
  generalize ((w.alloc (.cells #[.slice h a cm] 24)).alloc (.cells #[Iv 14,Iv xa,Iv xb,Iv xc,Iv xk,Iv xn,.slice ra rl rc,.slice aa al ac] 78))=s at f c |-;refine(C.out _).mono ?_
  rintro e m ⟨rfl,d⟩;have l:=(d.block _ (XC f)).trans f;have g:Hid (Below w.heap.size w m):=c.out.trans (d.mono c.out.size);have x:=Qb l 6 _ Z;have t:=Qb l 7 _ Z;clear d C f c l;go_wp2_with fail
  refine(i.out _).mono ?_
  rintro e o ⟨rfl,n⟩;have p:Hid (Below w.heap.size w o):=g.out.trans (n.mono g.out.size);clear n i g;go_wp2
  go_ret;exact⟨Z,p.out⟩
 ·rw[Xr k]
  have q:(v==0)=false:=by simpa using k
  go_enter func229,ntmps229
  go_wp2_with fail
  generalize ((w.alloc (.cells #[.slice h a cm] 24)).alloc (.cells #[Iv 14,Iv xa,Iv xb,Iv xc,Iv xk,Iv xn,.slice ra rl rc,.slice aa al ac] 78))=s at f c |-;refine(C.out _).mono ?_
  rintro e m ⟨rfl,d⟩;have g:Hid (Below w.heap.size w m):=c.out.trans (d.mono c.out.size);clear d C i f c;go_wp2
  go_ret;exact⟨Z,g.out⟩
theorem QkQ {xop:Int}{i:Option Addr}{b:Nat}(h:xop≠2/\xop≠6/\xop≠7/\xop≠5/\xop≠14):Rd prog 229 #[.agg #[.slice i b cm],.agg #[Iv xop,Iv xa,Iv xb,Iv xc,Iv xk,Iv xn,.slice ra rl rc,.slice aa al ac]] w (Iv (ZH b xop xk rl al)):=by
 obtain⟨f,d,c,e,a⟩:=h
 rw[show ZH b xop xk rl al=0 by simp[ZH,f,d,c,e,a]]
 have k:(xop==2)=false:=by simpa using f
 have j:(xop==6)=false:=by simpa using d
 have l:(xop==7)=false:=by simpa using c
 have m:(xop==5)=false:=by simpa using e
 have g:(xop==14)=false:=by simpa using a
 unfold Rd;go_enter func229,ntmps229
 go_wp2
 go_ret;exact⟨Z,QhA _ _ _⟩
theorem QdT {xop:Int}{e:Option Addr}{a:Nat}(b:a<2305843009213693952):Rd prog 229 #[.agg #[.slice e a cm],.agg #[Iv xop,Iv xa,Iv xb,Iv xc,Iv xk,Iv xn,.slice ra rl rc,.slice aa al ac]] w (Iv (ZH a xop xk rl al)):=by
 by_cases d:xop=5
 ·subst d;exact QlW
 by_cases c:xop=14
 ·subst c;exact QkR b
 by_cases h:xop=2\/xop=6\/xop=7
 ·rcases h with rfl | rfl | rfl
  ·exact Qip (.inl ⟨Z,Z,Z⟩)
  all_goals exact Qip (lo:=0) (hi:=7) (by simp)
 ·exact QkQ (by omega)
theorem Qgn {xop:Int}{p o m:Int}{b h:Option Addr}{c i g f:Nat}{n:Option Addr}{l:Nat}{ok k:Bool}{v:Int}
 (C:Hid (∀ wx:World,Calls prog 227 #[.agg #[Iv xop,Iv xa,Iv xb,Iv xc,Iv xk,Iv xn,.slice ra rl rc,.slice aa al ac]] wx fun e w'=>e=.returned (.tuple #[.agg #[Iv xop,Iv ya,Iv yb,Iv p,Iv o,Iv m,.slice b c i,.slice h g f],.bool ok])/\Below wx.heap.size wx w'))
 (A:Hid (∀ wx:World,Calls prog 228 #[.agg #[Iv xop,Iv ya,Iv yb,Iv p,Iv o,Iv m,.slice b c i,.slice h g f]] wx fun e w'=>e=.returned (.bool k)/\Below wx.heap.size wx w'))
 (x:Hid (∀ wx:World,Calls prog 229 #[.agg #[.slice n l cm],.agg #[Iv xop,Iv xa,Iv xb,Iv xc,Iv xk,Iv xn,.slice ra rl rc,.slice aa al ac]] wx fun e w'=>e=.returned (Iv v)/\Below wx.heap.size wx w')) :
 Rd prog 184 #[.agg #[.slice n l cm],.agg #[Iv xop,Iv xa,Iv xb,Iv xc,Iv xk,Iv xn,.slice ra rl rc,.slice aa al ac]] w (Iv (if ok=false then 3 else if k=true then v else 4)):=by
 have j:Blk ((w.alloc (.cells #[.slice n l cm] 24)).alloc (.cells #[Iv xop,Iv xa,Iv xb,Iv xc,Iv xk,Iv xn,.slice ra rl rc,.slice aa al ac] 78)) w.heap.size #[.slice n l cm] 24:=Blk.new1 _ _ _ _ _;have a:Blk ((w.alloc (.cells #[.slice n l cm] 24)).alloc (.cells #[Iv xop,Iv xa,Iv xb,Iv xc,Iv xk,Iv xn,.slice ra rl rc,.slice aa al ac] 78)) (w.heap.size+1) #[Iv xop,Iv xa,Iv xb,Iv xc,Iv xk,Iv xn,.slice ra rl rc,.slice aa al ac] 78:=Blk.new2 _ _ _ _;have u:Hid (Below w.heap.size w ((w.alloc (.cells #[.slice n l cm] 24)).alloc (.cells #[Iv xop,Iv xa,Iv xb,Iv xc,Iv xk,Iv xn,.slice ra rl rc,.slice aa al ac] 78))):=QhA _ _ _;unfold Rd;go_enter func184,ntmps184
 go_wp2_with fail
 generalize ((w.alloc (.cells #[.slice n l cm] 24)).alloc (.cells #[Iv xop,Iv xa,Iv xb,Iv xc,Iv xk,Iv xn,.slice ra rl rc,.slice aa al ac] 78))=P at j a u |-;refine(C.out _).mono ?_
 rintro e s ⟨rfl,t⟩;replace j:=(t.block _ (XC j)).trans j;replace a:=(t.block _ (XC a)).trans a;have r:Hid (Below w.heap.size w s):=u.out.trans (t.mono u.out.size);clear t u C
 cases ok with
 | false =>
   have q:Hid (Below w.heap.size w (s.alloc (.cells #[Iv xop,Iv ya,Iv yb,Iv p,Iv o,Iv m,.slice b c i,.slice h g f] 78))):=r.out.trans ((Zd _ _).mono r.out.size);clear A x j a r;go_wp2
   go_ret;exact⟨Z,q.out⟩
 | true =>
   replace j:=((Zd s (.cells #[Iv xop,Iv ya,Iv yb,Iv p,Iv o,Iv m,.slice b c i,.slice h g f] 78)).block _ (XC j)).trans j;replace a:=((Zd s (.cells #[Iv xop,Iv ya,Iv yb,Iv p,Iv o,Iv m,.slice b c i,.slice h g f] 78)).block _ (XC a)).trans a;have q:Hid (Below w.heap.size w (s.alloc (.cells #[Iv xop,Iv ya,Iv yb,Iv p,Iv o,Iv m,.slice b c i,.slice h g f] 78))):=r.out.trans ((Zd _ _).mono r.out.size);go_wp2_with fail
   clear r;generalize s.alloc (.cells #[Iv xop,Iv ya,Iv yb,Iv p,Iv o,Iv m,.slice b c i,.slice h g f] 78)=G at j a q |-;refine(A.out _).mono ?_
   rintro e E ⟨rfl,y⟩;replace j:=(y.block _ (XC j)).trans j;replace a:=(y.block _ (XC a)).trans a;have z:Hid (Below w.heap.size w E):=q.out.trans (y.mono q.out.size);clear y q A
   cases k with
   | false =>
     clear x j a;go_wp2
     go_ret;exact⟨Z,z.out⟩
   | true =>
     have d:=Qb j 0 _ Z;have I:=Qb a 0 _ Z;have K:=Qb a 1 _ Z;have M:=Qb a 2 _ Z;have H:=Qb a 3 _ Z;have N:=Qb a 4 _ Z;have L:=Qb a 5 _ Z;have J:=Qb a 6 _ Z;have O:=Qb a 7 _ Z;clear j a;go_wp2_with fail
     refine(x.out _).mono ?_
     rintro e F ⟨rfl,B⟩;have D:Hid (Below w.heap.size w F):=z.out.trans (B.mono z.out.size);clear B z x;go_wp2
     go_ret;exact⟨Z,D.out⟩
theorem Qgx (d:Nat) (x:Qt) (i:IP) (l:Option Addr) (cm:Nat) (w:World) (g:d<2305843009213693952) :
 Rd prog 184 #[.agg #[.slice l d cm],.agg #[Iv x.op,Iv x.a,Iv x.b,Iv x.c,Iv x.k,Iv x.n,.slice i.pR x.regs.length i.cR,.slice i.pA x.args.length i.cA]] w (Iv (x.form d)):=by
 rw[Qt.form_eq]
 have f:=fun j=>Qmo (xop:=x.op) (xa:=x.a) (xb:=x.b) (xc:=x.c) (xk:=x.k) (xn:=x.n) (ra:=i.pR) (aa:=i.pA) (rl:=x.regs.length) (rc:=i.cR) (al:=x.args.length) (ac:=i.cA) (w:=j)
 cases e:Q7 x.op with
 | none =>
   simp only[wfV,e] at f
   rw[show Qb3 d x.op x.a x.b x.c x.k x.n x.regs.length x.args.length=3 by unfold Qb3;rw[e]]
   exact Qgn (ok:=false) f (fun _=>QdC) (fun _=>QdT g)
 | some p =>
   obtain⟨r,h,q,m,t,o,s⟩:=p
   simp only[wfV,e] at f
   rw[QeX e]
   exact Qgn (ok:=true) f (fun _=>QdC) (fun _=>QdT g)
def Qg5 (L:List Bool) (i:Nat):Value:=if i=16 then Iv (L.length:Int) else .bool (L.getD i false)
def Qp (w:World) (b:Nat) (L:List Bool):Prop:=L.length<=16/\w.rowIs b 303 17 (Qg5 L)
theorem Qp.mark (h:Qp w b L)(a:k<16):w.cell? ⟨b,k,none⟩=some (.bool (L.getD k false)):=by
 have:=h.2.cell (i:=k) (by omega)
 rwa [Qg5,Xr (by omega)] at this
theorem Qp.count (h:Qp w b L):w.cell? ⟨b,16,none⟩=some (Iv (L.length:Int)):=by
 have:=h.2.cell (i:=16) (by omega)
 rwa [Qg5,Xs Z] at this
theorem Qp.keep (h:Qp w b L) (e:w'.heap[b]?=w.heap[b]?):Qp w' b L:=⟨h.1,h.2.of_block e⟩
theorem Qp.below (h:Qp w b L) (k:Below w.heap.size w w'):Qp w' b L:=h.keep (k.block b h.2.lt)
theorem Qp.lt (h:Qp w b L):b<w.heap.size:=h.2.lt
theorem Qp.setMark (h:Qp w b L)(d:k<L.length) (v:Bool):Qp (w.setCell ⟨b,k,none⟩ (.bool v)) b (L.set k v):=by
 refine⟨by simpa using h.1,(h.2.set k (.bool v)).congr fun i g=>?_⟩
 have f:=h.1;unfold Qg5;by_cases a:i=16
 ·subst a;simp;omega
 ·rw[Xr a,Xr a]
  by_cases c:i=k
  ·subst c;simp[List.getD,d]
  ·have:¬ k=i:=fun e=>c e.symm
   simp[c,List.getD,this]
theorem Qp.push (h:Qp w b L) (e:L.length<16):Qp ((w.setCell ⟨b,L.length,none⟩ (.bool true)).setCell ⟨b,16,none⟩ (Iv ((L.length:Int)+1))) b (L++[true]):=by
 refine⟨by simp;omega,((h.2.set L.length (.bool true)).set 16 _).congr fun i f=>?_⟩
 unfold Qg5;by_cases a:i=16
 ·subst a;simp
 ·rw[Xr a,Xr a,Xr a]
  by_cases d:i=L.length
  ·subst d;simp[List.getD]
  ·rw[Xr d]
   rcases Nat.lt_or_ge i L.length with c | c
   ·simp[List.getD,List.getElem?_append,c]
   ·rw[Qam L c,Qam (L++[true]) (by simp;omega)]
theorem QcB (r:Int) (h:Qp w b L) :
 Calls prog 272 #[Pv b 0,Iv r] w fun e w'=>e=.returned (.bool (hHas L r))/\w'=w:=by
 by_cases a:0<=r
 ·by_cases f:r<16
  ·obtain⟨k,rfl⟩:=Xc a
   have c:=h.mark (k:=k) (by omega);have E:Hid (hHas L (k:Int)=L.getD k false):=Qc0 L k;have i:k<16:=by omega
   clear h;generalize L.getD k false=q at c E;go_enter func272,ntmps272
   go_wp2
   go_ret;exact⟨by rw[E.out];rfl,Z⟩
  ·have E:Hid (hHas L r=false):=by
    show _=_;obtain⟨k,rfl⟩:=Xc a
    rw[Qc0,Qam L (by have:=h.1;omega)]
   have d:decide (r<16)=false:=by simpa using f
   clear h;go_enter func272,ntmps272
   go_wp2
   go_ret;exact⟨by rw[E.out];rfl,Z⟩
 ·have E:Hid (hHas L r=false):=by show _=_;simp[hHas,a]
  have g:decide (0<=r)=false:=by simpa using a
  clear h;go_enter func272,ntmps272
  go_wp2
  go_ret;exact⟨by rw[E.out];rfl,Z⟩
theorem QkI (h:Qp w b L) :
 Calls prog 271 #[Pv b 0] w fun e w'=>e=.returned (Iv (L.length:Int))/\w'=w:=by
 have c:=h.count;clear h;generalize L.length=n at c;go_enter func271,ntmps271
 go_wp2
 go_ret;exact⟨Z,Z⟩
theorem Qfu {a:World}(h:Qz (fun k=>k=b) (fun k=>k=b) a w) (i:Nat) (v:Value):Qz (fun k=>k=b) (fun k=>k=b) a (w.setCell ⟨b,i,none⟩ v):=h.setCell (p:=⟨b,i,none⟩) Z v
theorem QcU (h:Qp w b L) :
 Calls prog 237 #[Pv b 0] w fun e w'=>e=.returned (Iv (QbF L))/\Qp w' b (QcQ L)/\Qz (fun k=>k=b) (fun k=>k=b) w w':=by
 have c:=h.count;have j:=h.1;by_cases d:L.length<16
 ·have E:Hid (QbF L=(L.length:Int)/\QcQ L=L++[true]):=by show _/\_;simp[QbF,QcQ,d]
  have m:=h.mark d;have f:∀ i,w.frozen? ⟨b,i,none⟩=false:=h.2.frozen;have g:Hid (Qp ((w.setCell ⟨b,L.length,none⟩ (.bool true)).setCell ⟨b,16,none⟩ (Iv ((L.length:Int)+1))) b (L++[true])):=h.push d;have l:Hid (Qz (fun k=>k=b) (fun k=>k=b) w ((w.setCell ⟨b,L.length,none⟩ (.bool true)).setCell ⟨b,16,none⟩ (Iv ((L.length:Int)+1)))):=Qfu (Qfu (Qz.refl _ _) _ _) _ _;have a:((L.length:Int)==16)=false:=by simp;omega
  clear h;generalize o:L.length=n at c m g l E d a j;generalize L.getD n false=q at m;go_enter func237,ntmps237
  go_wp2_with fail
  go_region;go_wp2
  go_ret;rw[E.out.1,E.out.2]
  exact⟨Z,g.out,l.out.drew⟩
 ·have a:L.length=16:=by omega
  have E:Hid (QbF L=-1/\QcQ L=L):=by show _/\_;simp[QbF,QcQ,d]
  have g:Hid (Qp w b L):=h;rw[a] at c
  clear h d a j;go_enter func237,ntmps237
  go_wp2
  go_ret;rw[E.out.1,E.out.2]
  exact⟨Z,g.out,Qz.refl _ _⟩
theorem Qjz (r:Int) (h:Qp w b L) :
 Calls prog 269 #[Pv b 0,Iv r] w fun e w'=>e=.returned (.bool (hHas L r))/\Qp w' b (Qf3 L r)/\Qz (fun k=>k=b) (fun k=>k=b) w w':=by
 have C:Hid (Calls prog 272 #[Pv b 0,Iv r] w fun e w'=>e=.returned (.bool (hHas L r))/\w'=w):=QcB r h
 cases hh:hHas L r with
 | false =>
   have E:Hid (Qf3 L r=L):=by show _=_;simp[Qf3,hh]
   have d:Hid (Qp w b L):=h;rw[hh] at C
   clear h hh;go_enter func269,ntmps269
   go_wp2_with (go_at_call 272;refine(C.out).mono ?_;rintro e w' ⟨rfl,a⟩;have a:=a.symm;subst a)
   go_ret;rw[E.out]
   exact⟨Z,d.out,Qz.refl _ _⟩
 | true =>
   obtain⟨k,rfl,j,l⟩:=QaZ hh
   have E:Hid (Qf3 L (k:Int)=L.set k false):=by show _=_;simp[Qf3,hh]
   have d:Hid (Qp (w.setCell ⟨b,k,none⟩ (.bool false)) b (L.set k false)):=h.setMark j false;have n:Hid (Qz (fun k=>k=b) (fun k=>k=b) w (w.setCell ⟨b,k,none⟩ (.bool false))):=Qfu (Qz.refl _ _) _ _;have c:k<16:=by have:=h.1;omega
   have g:(k:Int)<16:=by omega
   have m:=h.mark c;have f:∀ i,w.frozen? ⟨b,i,none⟩=false:=h.2.frozen;rw[hh] at C
   generalize L.getD k false=q at m;clear h hh l;go_enter func269,ntmps269
   go_wp2_with (go_at_call 272;refine(C.out).mono ?_;rintro e w' ⟨rfl,a⟩;have a:=a.symm;subst a)
   go_ret;rw[E.out]
   exact⟨Z,d.out,n.out⟩
theorem Qh6 (w:World):Qp (w.alloc (.cells #[.bool false,.bool false,.bool false,.bool false,.bool false,.bool false,.bool false,.bool false,.bool false,.bool false,.bool false,.bool false,.bool false,.bool false,.bool false,.bool false,Iv 0] 303)) w.heap.size []:=by
 refine⟨by simp,World.rowIs_alloc w _ _ _ fun i a=>?_⟩
 have a:i<17:=a;unfold Qg5;match i,a with
 | 0,_ | 1,_ | 2,_ | 3,_ | 4,_ | 5,_ | 6,_ | 7,_ | 8,_ | 9,_ | 10,_ | 11,_ | 12,_ | 13,_ | 14,_ | 15,_ | 16,_=>rfl
 | i+17,h=>exact absurd h (by omega)
theorem Qk5 (w:World) (n:Int) (x:-9223372036854775808<=n/\n<=9223372036854775807) :
 Calls prog 208 #[Iv n] w fun e w'=>e=.returned (Pv w.heap.size 0)/\Qp w' w.heap.size (QbU n)/\Below w.heap.size w w':=by
 have Z:Hid (Qp (w.alloc (.cells #[.bool false,.bool false,.bool false,.bool false,.bool false,.bool false,.bool false,.bool false,.bool false,.bool false,.bool false,.bool false,.bool false,.bool false,.bool false,.bool false,Iv 0] 303)) w.heap.size []):=Qh6 w;obtain⟨M,r⟩:∃ M,(min n 16).toNat=M:=⟨_,Yz⟩
 have E:Hid (QbU n=List.replicate M true):=by show _=_;rw[QbU,r]
 have h:∀ k:Nat,k<M->(k:Int)<n/\(k:Int)<16:=fun k m=>by omega
 have q:∀ k:Nat,¬ k<M->¬ (k:Int)<n\/¬ (k:Int)<16:=fun k m=>by omega
 go_enter func208,ntmps208
 by_cases s:16<n
 ·have p:M=16:=by omega
  go_wp2
  go_loopw [8] (fun i wr=>∃ k:Nat,k<=M/\i=Iv k/\Qp wr w.heap.size (List.replicate k true)/\Below w.heap.size w wr) (fun i _=>M - (intOf i).toNat)
  case atStart=>exact⟨0,Xb _,Yz,Z.out,Zr.alloc Ze _⟩
  case round =>
   obtain⟨k,m,rfl,l,j⟩:=hrel
   have f:Hid (Qp wr w.heap.size (List.replicate k true)):=l;have c:Hid (Below w.heap.size w wr):=j;clear l j Z;by_cases d:k<M
   ·obtain⟨v,t⟩:=h k d
    go_wp2_with fail
    refine(QcU f.out).mono ?_
    rintro e o ⟨rfl,a,b⟩
    have R:Hid (Qp o w.heap.size (List.replicate (k+1) true)/\Below w.heap.size w o):=by
     refine⟨by rw[<-Qfi (by omega)];exact a,c.out.trans (b.below c.out.size fun k m=>by omega)⟩
    clear a b f c;go_wp2
    go_roundw
    case rel=>exact⟨k+1,by omega,by go_num,R.out⟩
    case measure=>simp[intOf];omega
   ·have u:¬ (k:Int)<16:=by omega
    have g:k=M:=by omega
    go_wp2
    go_ret;refine⟨Yz,?_,c.out⟩
    rw[E.out,<-g];exact f.out
 ·go_wp2
  go_loopw [8] (fun i wr=>∃ k:Nat,k<=M/\i=Iv k/\Qp wr w.heap.size (List.replicate k true)/\Below w.heap.size w wr) (fun i _=>M - (intOf i).toNat)
  case atStart=>exact⟨0,Xb _,Yz,Z.out,Zr.alloc Ze _⟩
  case round =>
   obtain⟨k,m,rfl,l,j⟩:=hrel
   have f:Hid (Qp wr w.heap.size (List.replicate k true)):=l;have c:Hid (Below w.heap.size w wr):=j;clear l j Z;by_cases d:k<M
   ·obtain⟨v,t⟩:=h k d
    go_wp2_with fail
    refine(QcU f.out).mono ?_
    rintro e o ⟨rfl,a,b⟩
    have R:Hid (Qp o w.heap.size (List.replicate (k+1) true)/\Below w.heap.size w o):=by
     refine⟨by rw[<-Qfi (by omega)];exact a,c.out.trans (b.below c.out.size fun k m=>by omega)⟩
    clear a b f c;go_wp2
    go_roundw
    case rel=>exact⟨k+1,by omega,by go_num,R.out⟩
    case measure=>simp[intOf];omega
   ·have u:¬ (k:Int)<n:=by omega
    have g:k=M:=by omega
    go_wp2
    go_ret;refine⟨Yz,?_,c.out⟩
    rw[E.out,<-g];exact f.out
theorem under16:prog.underlying 301=some (.array 16 4):=by kernel_rfl
theorem underB:prog.underlying 4=some .bool:=by kernel_rfl
theorem sizeB:(prog.info? 4).map (·.size)=some 1:=by kernel_rfl
theorem size16:(prog.info? 301).map (·.size)=some 16:=by kernel_rfl
theorem QfW {b w9:World}{lo:Nat}(n:Qao Lay.int 3 b lo (.slice a xs.length c) xs cs) (l:-9223372036854775808<=x/\x<=9223372036854775807){o:Obj}(d:lo<=b.heap.size)
 (j:w9.ownsRow lo 3 1 (.slice (some ⟨g,0,none⟩) (xs.length+1) cap) (xs.length+1) (cs++[Iv x])) (f:(b.alloc o).grownBy w9 (Value.slice a xs.length c).ownBlock) (i:(Value.slice a xs.length c).ownBlock=some g\/g=b.heap.size+1) :
 Qao Lay.int 3 w9 lo (.slice (some ⟨g,0,none⟩) (xs.length+1) cap) (xs++[x]) (cs++[Iv x])/\∀ w,Below lo w b->Below lo w w9:=by
 have e:=n.below (Zd b o);have p:Lay.int.In (b.alloc o) (fun g=>lo<=g/\(Value.slice a xs.length c).ownBlock≠some g) x [Iv x]:=Lay.int_mk _ _ l;refine⟨Qao.push e p f (by simpa using i) j,fun w m=>(m.alloc d _).grown f (by simp;omega) (fun k h=>(e.lo_le h).1)⟩
def Qif (w:World) (l:List Int) (e:Ending) (w':World):Prop:=∃ a c,e=.returned (.slice a l.length c)/\intsL.In w' (fun g=>w.heap.size<=g) l [.slice a l.length c]/\Below w.heap.size w w'
theorem Qjv (h:Qp w b L) :
 Calls prog 278 #[Pv b 0] w fun e w'=>Qif w (Qak L) e w':=by
 obtain⟨i0,hi,P,V,M⟩:=pInfoI
 have T:w.rangeAt b 0 ((List.range 16).map fun i=>Value.bool (L.getD i false)):=fun j v z=>by
  rw[XS] at z
  cases hj:(List.range 16)[j]? with
  | none=>rw[hj] at z;cases z
  | some k =>
    have t:j<16:=by have:=(Zi hj).1;simpa using this
    rw[List.getElem?_range t] at hj
    cases hj
    rw[List.getElem?_range t] at z
    simp only[Option.map_some,Option.some.injEq] at z
    rw[<-z,XK]
    exact h.mark t
 have E:Hid (hTo L 16=Qak L):=Qmg L 16 h.1
 have o:∀ (k:Nat) (m:World),k<16->(Instr.index 301 (.agg ((List.range 16).map fun i=>Value.bool (L.getD i false)).toArray) (Iv (k:Int))).run prog m=.ok (.bool (L.getD k false)) m:=fun k m hk=>by
  have hp:(part 4 ((List.range 16).map fun i=>Value.bool (L.getD i false)).toArray (k*1)).run prog m=.ok (.bool (L.getD k false)) m:=by
   have hc:((List.range 16).map fun i=>Value.bool (L.getD i false)).toArray[k*1]?=some (.bool (L.getD k false)):=by
    simp[hk]
   simp only[part,isAgg,Sem.run_bind,run_underlying underB,Result.andThen_ok,Sem.run_pure,Bool.false_eq_true,if_false,hc]
  have x:(sizeOf 4).run prog m=.ok 1 m:=by
   have N:=sizeB
   cases hq:prog.info? 4 with
   | none=>simp[hq] at N
   | some i=>simp[hq] at N;simp[sizeOf,typeInfo,hq,N]
  have Q:(0:Int)<=(k:Int)/\(k:Int)<(16:Nat):=by omega
  simp only[Instr.index,asIntOf,Sem.run_bind,Sem.run_pure,run_underlying under16,Result.andThen_ok,Q,and_self,if_true,x,Int.toNat_natCast,hp]
 have HS:Hid ((prog.info? 301).map (·.size)=some ((List.range 16).map fun i=>Value.bool (L.getD i false)).length):=by show _=_;rw[XN,List.length_range];exact size16
 have X:Hid (w.rangeAt b 0 ((List.range 16).map fun i=>Value.bool (L.getD i false))):=T;generalize ((List.range 16).map fun i=>Value.bool (L.getD i false))=S at T o X HS;clear T;clear h;go_enter func278,ntmps278
 go_wp2_with (refine wpList_load_mid Yz 301 (.tmp 8) Yz b 0 Yz S _ X.out under16 Yz HS.out ?_)
 go_loopw [3,10] (fun v u wr=>∃ k r,u=Iv (k:Nat)/\k<=16/\Qao Lay.int 3 wr w.heap.size v (hTo L k) r/\Below w.heap.size w wr) (fun _ u _=>16 - (intOf u).toNat)
 case atStart=>exact⟨0,[],Yz,by omega,Qao.nil _ _ _ _,Zr⟩
 case round =>
  obtain⟨k,r,rfl,hk,R,K⟩:=hrel
  obtain⟨a,c,rfl⟩:=R.formP
  have A:Hid (Qao Lay.int 3 wr w.heap.size (.slice a (hTo L k).length c) (hTo L k) r):=R;have C:Hid (Below w.heap.size w wr):=K;have p:=Qim L k;have x:w.heap.size<=wr.heap.size:=K.size;clear R K;by_cases O:k<16
  ·have aa:(k:Int)<16:=by omega
   have s:=fun m=>o k m O;clear o
   cases hm:L.getD k false with
   | false =>
     have B:Hid (hTo L (k+1)=hTo L k):=by show _=_;rw[hTo,hm];simp
     rw[hm] at s
     clear hm;go_wp2
     go_roundw
     case rel=>exact⟨k+1,r,by go_num,by omega,by rw[B.out];exact A.out,C.out⟩
     case measure=>simp[intOf];omega
   | true =>
     have B:Hid (hTo L (k+1)=hTo L k++[(k:Int)]):=by show _=_;rw[hTo,hm];simp
     rw[hm] at s
     have f:Hid (wr.ownsRow w.heap.size 3 1 (.slice a (hTo L k).length c) (hTo L k).length r):=A.out.own
     have U:Hid (∀ g y l,l.ownsRow w.heap.size 3 1 (.slice (some ⟨g,0,none⟩) ((hTo L k).length+1) y) ((hTo L k).length+1) (r++[Iv (k:Int)])->(wr.alloc (.cells #[Iv (k:Int)] 3)).grownBy l (Value.slice a (hTo L k).length c).ownBlock->((Value.slice a (hTo L k).length c).ownBlock=some g\/g=wr.heap.size+1) ->
      Qao Lay.int 3 l w.heap.size (.slice (some ⟨g,0,none⟩) ((hTo L k).length+1) y) (hTo L (k+1)) (r++[Iv (k:Int)])/\Below w.heap.size w l):=by
      intro g y l J h2 h3;obtain⟨I,H⟩:=QfW A.out (by omega) x J h2 h3
      rw[B.out]
      exact⟨I,H w C.out⟩
     have EL:Hid ((hTo L (k+1)).length=(hTo L k).length+1):=by show _=_;rw[B.out];simp
     clear hm A C B;generalize (hTo L k).length=n at f U EL p |-;go_wp2_with (at_builtin;refine wpList_append_lies _ Yz (.tmp 15) (.tmp 17) 76 Yz w.heap.size 3 i0 (Iv 0) 1 8 pUnderI hi P V M Yz (by decide) _ _ _ Yz (f.out.alloc _) ⟨wr.heap.size,0,none⟩ 1 1 [Iv (k:Int)] Yz Yz (Qk3 _ [_] _) (Qm9 _) (by decide) (by unfold maxLen;omega) (by omega) (by simp;omega) (wr.heap.size+1) (by simp) ?_)
     intro W q l J d F D;obtain⟨I,H⟩:=U.out W q l J d F
     have A9:Hid (Qao Lay.int 3 l w.heap.size (.slice (some ⟨W,0,none⟩) (n+1) q) (hTo L (k+1)) (r++[Iv (k:Int)])):=I;have B9:Hid (Below w.heap.size w l):=H;clear J d F D f U I H;go_wp2
     go_roundw
     case rel=>exact⟨k+1,_,by go_num,by omega,A9.out,B9.out⟩
     case measure=>simp[intOf];omega
  ·have G:k=16:=by omega
   subst G
   have Z:Hid (Qif w (Qak L) (.returned (.slice a (hTo L 16).length c)) wr):=by
    rw[E.out]
    refine⟨a,c,Yz,?_,C.out⟩
    have:=A.out.lay
    rw[E.out] at this
    exact this
   clear A C o p;generalize (hTo L 16).length=n at Z;go_wp2
   go_ret;exact Z.out
theorem eqGuard16:prog.eqGuardType prog.depth 301=false:=by kernel_rfl
theorem Qjc (f:Nat->Bool){c:Array Value}(b:c.size=16):((w.alloc (.cells c t)).setCells w.heap.size 0 ((List.range 16).map fun i=>Value.bool (f i)).toArray.toList).rowIs w.heap.size t 16 (fun i=>.bool (f i)):=by
 have a:Blk (w.alloc (.cells c t)) w.heap.size ([]++c.toList).toArray t:=by rw[List.nil_append,Array.toArray_toList];exact Qe w c t
 have e:=Blk.sets ((List.range 16).map fun i=>Value.bool (f i)) [] c.toList (w.alloc (.cells c t)) (by simp[b]) a;refine⟨_,e,by simp,fun i d=>?_⟩
 simp[d]
theorem Qgb {f:Nat->Bool}(h:w.rowIs b t 16 (fun i=>.bool (f i))):w.rangeAt b 0 ((List.range 16).map fun i=>Value.bool (f i)):=fun j v c=>by
 rw[XS] at c
 cases hj:(List.range 16)[j]? with
 | none=>rw[hj] at c;cases c
 | some k =>
   have a:j<16:=by have:=(Zi hj).1;simpa using this
   rw[List.getElem?_range a] at hj
   cases hj
   rw[List.getElem?_range a] at c
   simp only[Option.map_some,Option.some.injEq] at c
   rw[<-c,XK]
   exact h.cell a
theorem Qp.marks (h:Qp w b L):w.rangeAt b 0 ((List.range 16).map fun i=>Value.bool (L.getD i false)):=fun j v c=>by
 rw[XS] at c
 cases hj:(List.range 16)[j]? with
 | none=>rw[hj] at c;cases c
 | some k =>
   have a:j<16:=by have:=(Zi hj).1;simpa using this
   rw[List.getElem?_range a] at hj
   cases hj
   rw[List.getElem?_range a] at c
   simp only[Option.map_some,Option.some.injEq] at c
   rw[<-c,XK]
   exact h.mark a
theorem QhV (f:Nat->Bool):((List.range 16).map fun i=>Value.bool (f i)).toArray.all (·.oneCell')=true :=
 all_oneCell_toArray fun v a=>by obtain⟨i,_,rfl⟩:=List.mem_map.1 a;rfl
theorem QjA (w:World) (t:TypeId) (c:Array Value) (n:Nat) (a:n<=c.size):(w.alloc (.cells c t)).there w.heap.size 0 n:=fun j b=>by
 have h:=Qe w c t;rw[XK]
 refine⟨?_,Qj h j⟩
 rw[Qb h j c[j] (by simp)];rfl
theorem Qh5 (hN:l.length=N) (ab:N<=100000) (hl:intsL.In w Q l [.slice a N c]) (h:Qp w b L) :
 Calls prog 286 #[Pv b 0,.slice a N c] w fun e w'=>e=.returned (Iv (hPass L [] l))/\Below w.heap.size w w':=by
 have HX:Hid (∀ i x,l[i]?=some x->∃ g o,a=some ⟨g,o,none⟩/\g<w.heap.size/\w.cell? ⟨g,o+i,none⟩=some (Iv x)):=fun i x z=>by
  obtain⟨g,o,ds,e1,e2,e3,hc,hd,V⟩:=Yf hl z
  have aa:ds=[Iv x]:=hd;subst aa;refine⟨g,o,e1,e3,?_⟩
  have:=hc 0 (by decide)
  simpa[Lay.int] using this
 have R:Hid (l.length=N):=hN;have HL:Hid (L.length<=16):=h.1;have HH:Hid (Qp w b L):=h
 have t:Hid (w.rangeAt b 0 ((List.range 16).map fun i=>Value.bool (Zz L [] i))):=by
  have:=h.marks
  simp only[<-Qiv] at this
  exact this
 have B:Hid ((prog.info? 301).map (·.size)=some ((List.range 16).map fun i=>Value.bool (Zz L [] i)).length):=by show _=_;rw[XN,List.length_range];exact size16
 have S:Hid ((prog.info? 301).map (·.size)=some ((List.range 16).map fun i=>Value.bool (Zz L [] i)).toArray.size):=by show _=_;rw[List.size_toArray,XN,List.length_range];exact size16
 have X:Hid (((List.range 16).map fun i=>Value.bool (Zz L [] i)).toArray.all (·.oneCell')=true):=QhV _
 have HV:Hid ((w.alloc (.cells #[.bool false,.bool false,.bool false,.bool false,.bool false,.bool false,.bool false,.bool false,.bool false,.bool false,.bool false,.bool false,.bool false,.bool false,.bool false,.bool false] 301)).there w.heap.size 0 ((List.range 16).map fun i=>Value.bool (Zz L [] i)).toArray.size):=by
  refine QjA w _ _ _ ?_;rw[List.size_toArray,XN,List.length_range]
  exact Ze
 have W:Hid (((w.alloc (.cells #[.bool false,.bool false,.bool false,.bool false,.bool false,.bool false,.bool false,.bool false,.bool false,.bool false,.bool false,.bool false,.bool false,.bool false,.bool false,.bool false] 301)).setCells w.heap.size 0 ((List.range 16).map fun i=>Value.bool (Zz L [] i)).toArray.toList).rowIs w.heap.size 301 16 (fun i=>.bool (Zz L [] i))):=Qjc _ Z
 have T:Hid (Below w.heap.size w ((w.alloc (.cells #[.bool false,.bool false,.bool false,.bool false,.bool false,.bool false,.bool false,.bool false,.bool false,.bool false,.bool false,.bool false,.bool false,.bool false,.bool false,.bool false] 301)).setCells w.heap.size 0 ((List.range 16).map fun i=>Value.bool (Zz L [] i)).toArray.toList)):=by
  have:=Qz.setCells (O:=fun k=>k=w.heap.size) (O':=fun k=>k=w.heap.size) (b:=w.heap.size) Z ((List.range 16).map fun i=>Value.bool (Zz L [] i)).toArray.toList 0 _ ((Qz.refl _ w).alloc (.cells #[.bool false,.bool false,.bool false,.bool false,.bool false,.bool false,.bool false,.bool false,.bool false,.bool false,.bool false,.bool false,.bool false,.bool false,.bool false,.bool false] 301))
  exact this.below Ze (fun k hk=>by omega)
 clear h hl hN;generalize ((List.range 16).map fun i=>Value.bool (Zz L [] i))=q at t B S X HV W T;go_enter func286,ntmps286
 go_wp2_with (first | (refine wpList_load_mid Z 301 (.tmp 10) Z b 0 Z q _ t.out under16 Z B.out ?_) | (refine wpList_store_mid Z 301 (.tmp 5) (.tmp 11) Z w.heap.size 0 q.toArray Z Z HV.out S.out X.out ?_))
 go_loopw [14] (fun u wr=>∃ k,u=Iv (k:Nat)/\k<=N/\wr.rowIs w.heap.size 301 16 (fun i=>.bool (Zz L (l.take k) i))/\Below w.heap.size w wr/\hPass L [] l=hPass L (l.take k) (l.drop k)) (fun u _=>N - (intOf u).toNat)
 case atStart=>exact⟨0,Z,Xb _,W.out,T.out,Z⟩
 case round =>
  obtain⟨k,rfl,hk,V,hB,hp⟩:=hrel
  have D:Hid (wr.rowIs w.heap.size 301 16 (fun i=>.bool (Zz L (l.take k) i))):=V;have s:Hid (Below w.heap.size w wr):=hB;have I:Hid (hPass L [] l=hPass L (l.take k) (l.drop k)):=hp;clear V hB hp W T t B S X HV;by_cases F:k<N
  ·have f:l[k]?=some (l[k]'(by rw[R.out];exact F)):=Zg _;generalize l[k]'(by rw[R.out];exact F)=x at f;obtain⟨g,o,rfl,hg,K⟩:=HX.out k x f
   have ad:wr.cell? ⟨g,o+k,none⟩=some (Iv x):=(s.out.cell (p:=⟨g,o+k,none⟩) hg).trans K;have G:(k:Int)<N:=by omega
   have m:=Qhb L l f;rw[<-I.out] at m
   have C:Hid (Calls prog 272 #[Pv b 0,Iv x] wr fun e w'=>e=.returned (.bool (hHas L x))/\w'=wr):=QcB x (HH.out.below s.out)
   cases hh:hHas L x with
   | false =>
     rw[hh] at C m
     have E:Hid (hPass L [] l=10):=by show _=_;simpa using m
     clear m hh K f;go_wp2_with (go_at_call 272;refine(C.out).mono ?_;rintro e w' ⟨rfl,n⟩;have n:=n.symm;subst n)
     go_ret;exact⟨by rw[E.out];rfl,s.out⟩
   | true =>
     obtain⟨j,rfl,hj,M⟩:=QaZ hh
     rw[hh] at C m
     have H:j<16:=by have:=HL.out;omega
     have U:(j:Int)<16:=by omega
     have cj:wr.cell? ⟨w.heap.size,j,none⟩=some (.bool (Zz L (l.take k) j)):=D.out.cell H;have fj:∀ i,wr.frozen? ⟨w.heap.size,i,none⟩=false:=D.out.frozen;have P:Zz L (l.take k) j=!inB (l.take k) (j:Int):=by rw[Zz,M,Bool.true_and]
     rw[P] at cj
     cases z:inB (l.take k) (j:Int) with
     | true =>
       rw[z] at m cj
       have E:Hid (hPass L [] l=13):=by show _=_;simpa using m
       clear m hh K f P z M;go_wp2_with (go_at_call 272;refine(C.out).mono ?_;rintro e w' ⟨rfl,n⟩;have n:=n.symm;subst n)
       go_ret;exact⟨by rw[E.out];rfl,s.out⟩
     | false =>
       rw[z] at m cj
       have E:Hid (hPass L [] l=hPass L (l.take (k+1)) (l.drop (k+1))):=by show _=_;simpa using m
       have ET:l.take (k+1)=l.take k++[(j:Int)]:=by rw[XV,f];rfl
       have RN:Hid ((wr.setCell ⟨w.heap.size,j,none⟩ (.bool false)).rowIs w.heap.size 301 16 (fun i=>.bool (Zz L (l.take (k+1)) i))):=by
        refine(D.out.set j (.bool false)).congr fun i z=>?_
        rw[ET,QgN]
        by_cases e:i=j
        ·rw[Xs e,Xs e]
        ·rw[Xr e,Xr e]
       have BN:Hid (Below w.heap.size w (wr.setCell ⟨w.heap.size,j,none⟩ (.bool false))):=s.out.setCell (p:=⟨w.heap.size,j,none⟩) Ze _;clear m hh K f P z M ET D s I;go_wp2_with (go_at_call 272;refine(C.out).mono ?_;rintro e w' ⟨rfl,n⟩;have n:=n.symm;subst n)
       go_roundw
       case rel=>exact⟨k+1,by go_num,by omega,RN.out,BN.out,E.out⟩
       case measure=>simp[intOf];omega
  ·have G:¬ (k:Int)<N:=by omega
   have A:l.length<=k:=by rw[R.out];omega
   have y:=QiX L l A;rw[<-I.out] at y
   have t:Hid (wr.rangeAt w.heap.size 0 ((List.range 16).map fun i=>Value.bool (Zz L (l.take k) i))):=Qgb D.out;rw[XO A] at t
   have B:Hid ((prog.info? 301).map (·.size)=some ((List.range 16).map fun i=>Value.bool (Zz L l i)).length):=by show _=_;rw[XN,List.length_range];exact size16
   have v:∀ J,(Op.equalIn 10000 301 (.agg ((List.range 16).map fun i=>Value.bool (Zz L l i)).toArray) (.agg #[.bool false,.bool false,.bool false,.bool false,.bool false,.bool false,.bool false,.bool false,.bool false,.bool false,.bool false,.bool false,.bool false,.bool false,.bool false,.bool false])).run prog J=.ok ((Qak L).all (fun r=>inB l r)) J:=fun J=>by
    have:=Qcc (d:=9998) under16 underB sizeB J ((List.range 16).map (Zz L l)) (List.replicate 16 false) (by simp) (by simp)
    rw[List.map_map] at this
    refine Eq.trans this ?_;congr 1
    rw[Bool.eq_iff_iff,beq_iff_eq]
    exact Qhi HL.out
   generalize ((List.range 16).map fun i=>Value.bool (Zz L l i))=q at t B v;have ac:=eqGuard16;clear I D HX A
   cases hq:(Qak L).all (fun r=>inB l r) with
   | true =>
     rw[hq] at v y
     have E:Hid (hPass L [] l=0):=by show _=_;simpa using y
     clear y hq;go_wp2_with (refine wpList_load_mid Z 301 (.tmp 5) Z w.heap.size 0 Z q _ t.out under16 Z B.out ?_)
     go_ret;exact⟨by rw[E.out];rfl,s.out⟩
   | false =>
     rw[hq] at v y
     have E:Hid (hPass L [] l=12):=by show _=_;simpa using y
     clear y hq;go_wp2_with (refine wpList_load_mid Z 301 (.tmp 5) Z w.heap.size 0 Z q _ t.out under16 Z B.out ?_)
     go_ret;exact⟨by rw[E.out];rfl,s.out⟩
theorem QI {a:World}(h:Below B a w) (n:Nat):Below B a (w.drewN n):=⟨h.os,h.tape,h.output,h.size,h.block⟩
theorem Qa {p:Prop}(h:p):Hid p:=h
theorem Qjo (h:intsL.In w Q l [.slice a N c])(hi:i<=l.length) (c':Nat):intsL.In w Q (l.take i) [.slice a i c']:=by
 obtain⟨g,d,e,f⟩:=h
 simp only[List.cons.injEq,Value.slice.injEq,and_true] at e
 obtain⟨rfl,_,rfl⟩:=e
 refine⟨a,c',by simp[Nat.min_eq_left hi],fun j x b=>f j x ?_⟩
 rw[XR] at b
 split at b
 ·exact b
 ·cases b
abbrev Qgg (x:MBlock 6) (b:BP):Array Value:=#[Iv x.regs,.slice b.pP x.params.length b.cP,.slice b.pC x.code.length b.cC,Iv x.fin.op,Iv x.fin.a,Iv x.fin.yes.block,.slice b.e.pYR x.fin.yes.regs.length b.e.cYR,.slice b.e.pYA x.fin.yes.args.length b.e.cYA,Iv x.fin.no.block,.slice b.e.pNR x.fin.no.regs.length b.e.cNR,.slice b.e.pNA x.fin.no.args.length b.e.cNA,.slice b.e.pA x.fin.args.length b.e.cA]
abbrev zeroB:Array Value:=#[Iv 0,Nv,Nv,Iv 0,Iv 0,Iv 0,Nv,Nv,Iv 0,Nv,Nv,Nv]
theorem QmN (x:MBlock 6) (b:BP):(Qgg x b).all (·.oneCell')=true:=by
 show ([Iv x.regs,.slice b.pP x.params.length b.cP,.slice b.pC x.code.length b.cC,Iv x.fin.op,Iv x.fin.a,Iv x.fin.yes.block,.slice b.e.pYR x.fin.yes.regs.length b.e.cYR,.slice b.e.pYA x.fin.yes.args.length b.e.cYA,Iv x.fin.no.block,.slice b.e.pNR x.fin.no.regs.length b.e.cNR,.slice b.e.pNA x.fin.no.args.length b.e.cNA,.slice b.e.pA x.fin.args.length b.e.cA]:List Value).toArray.all (·.oneCell')=true;exact all_oneCell_toArray (Xe.1 Z)
theorem QjK {c:Array Value}(h:Blk w R c 86) (a:c.size=12) (x:MBlock 6) (b:BP):w.there R 0 (Qgg x b).size:=h.there (by rw[a];exact Nat.le_of_eq Z)
theorem QmB (h:Blk w R zeroB 86) (x:MBlock 6) (b:BP):Blk (w.setCells R 0 (Qgg x b).toList) R (Qgg x b) 86:=Blk.sets (Qgg x b).toList [] zeroB.toList w Z h
theorem Qfk {B:Nat}{a:World}{R:Nat}(b:B<=R):∀ (vs:List Value) (o:Nat){w:World},Below B a w->Below B a (w.setCells R o vs)
 | [],_,_,h=>h
 | v::vs,o,w,h=>Qfk b vs (o+1) (h.setCell (p:=⟨R,o,none⟩) b v)
theorem QfC {l l2:List Oper}{outs:List Tmp}{gs:List (Nat × Option Bool)}{a:Act}{Q:Exit->Act->World->Prop}
 (E:Tmp->Value->World->Prop) (W:World->Prop) (R:World->World->Prop) (PX:List PanicEntry->World->Prop) (F:∀ ch a' w,a'.defers=a.defers->PX ch w->Q (.panic ch) a' w)
 (s:P.follows .mixedOrders=true)  (J:a.tmps.size=m) (g:n<=m) (u:QaP l n outs gs bs=true)
 (p:(Qcq 0 (l++l2)&&(Qbp l.length l&&QaK (l++l2) l.length l2))=true)
 (r:∀ t v w w',R w w'->E t v w->E t v w') (z:ZK E l.toArray gs) (i:W w.drew) (x:Qaf E a w.drew outs)
 (C:AllOkC E W R PX P l bs)
 (b:∀ (vs:Tmp->Value) w',W w'->(∀ t,(Qs l).contains t=true->E t (vs t) w')->wpList P (l++l2).toArray Q l2 (QM a vs (Qs l)) w') :
 (Code.region id (l++l2).toArray true).wp P Q a w:=by
 simp only[Bool.and_eq_true] at p
 obtain⟨d,f,k⟩:=p
 refine wp_region_any s ?_
 have c:wpAny P .any l.toArray (Exit.then (fun a w=>wpList P (l++l2).toArray Q l2 a w) Q) l.length (Array.replicate l.length false) a w.drew:=by
  have A:(fun j=>(Array.replicate l.length false).getD j false)=fun _=>false:=by
   funext j
   rw[Za,Array.getElem?_replicate]
   split<;>rfl
  refine Qbq (E:=fun _=>E) (W:=fun _=>W) (PX:=PX) (Q:=Exit.then (fun a w=>wpList P (l++l2).toArray Q l2 a w) Q) (a0:=a) (outs:=outs) (gs:=gs) (bs:=bs) (fun ch a' w' H D=>F ch a' w' H D) (Qas (J ▸ g) u) (fun _=>z) (QgC r l bs 0 C) (fun vs S w' _ i G=>b vs w' i G) _ _ _ _ (by simp) ?_ ⟨i,(by rw[A];intro j o _ h;cases h),Z,Z,fun _ _=>rfl,fun t K _=>Qa4 outs x t K,?_⟩
  ·simp only[Array.toList_replicate]
   exact Zt (List.length_filter_le _ _) (by simp)
  ·intro j o t L N I;simp[Array.getD] at I
 have:=Qbo (Q:=Q) d f k l.length (Array.replicate l.length false) a w.drew (by simp) (fun q o M B=>by simp[Array.getD] at B) c
 have e:(Array.replicate l.length false++Array.replicate l2.length false:Array Bool)=Array.replicate (l++l2).toArray.size false:=by
  simp
 have y:l.length+l2.length=(l++l2).toArray.size:=by simp
 rw[e,y] at this
 exact this
theorem ZM {lo:List Oper}{outs:List Tmp}{gs:List (Nat × Option Bool)}{a:Act}{Q:Exit->Act->World->Prop}
 (k:Nat) (E:Tmp->Value->World->Prop) (W:World->Prop) (R:World->World->Prop) (PX:List PanicEntry->World->Prop) (i:∀ ch a' w,a'.defers=a.defers->PX ch w->Q (.panic ch) a' w)
 (e:P.follows .mixedOrders=true)  (o:a.tmps.size=m) (c:n<=m) (j:QaP (lo.take k) n outs gs bs=true)
 (q:(Qcq 0 lo&&(Qbp (lo.take k).length (lo.take k)&&QaK lo (lo.take k).length (lo.drop k)))=true)
 (d:∀ t v w w',R w w'->E t v w->E t v w') (f:ZK E (lo.take k).toArray gs) (g:W w.drew) (p:Qaf E a w.drew outs)
 (r:AllOkC E W R PX P (lo.take k) bs)
 (b:∀ ops (vs:Tmp->Value) w',W w'->(∀ t,(Qs (lo.take k)).contains t=true->E t (vs t) w')->wpList P ops Q (lo.drop k) (QM a vs (Qs (lo.take k))) w') :
 (Code.region id lo.toArray true).wp P Q a w:=by
 have h:=QfC (id:=id) (l:=lo.take k) (l2:=lo.drop k) (Q:=Q) E W R PX i e o c j (by rw[List.take_append_drop];exact q) d f g p r (b _);rwa [List.take_append_drop] at h
section
variable {w w' w2:World}{b most:Nat}{m:List (MFunc 6)}{M M' N:IM}{sc sa:Int}{g g1:MG}{e:Ending}
theorem iInfo64:∃ i,prog.info? 2=some i/\i.zero=some (Iv 0)/\i.size=1/\i.bytes=8:=by
 have h:(prog.info? 2).map (fun i=>(i.zero,i.size,i.bytes))=some (some (Iv 0),1,8):=by kernel_rfl
 cases e:prog.info? 2 with
 | none=>rw[e] at h;cases h
 | some i =>
   rw[e] at h
   simp only[Option.map_some,Option.some.injEq,Prod.mk.injEq] at h
   exact⟨i,Z,h.1,h.2.1,h.2.2⟩
theorem iUnder64:prog.underlying 25=some (.slice 2):=by kernel_rfl
end
theorem Qfp {l:List Oper}{S:Nat->Bool}(a:QgH l S){i:Nat}{o:Oper}(c:l[q]?=some o) (b:QdP l 30 o i=true) (d:S i=false):S q=false:=by
 cases h:S q with
 | false=>rfl
 | true =>
   have:S i=true:=Qc4 (all:=l) (S:=fun j=>S j=true) a 30 o b (a q o c h)
   rw[d] at this;cases this
theorem Qnc {i:Nat}{S:Nat->Bool}(h:j≠i):Qct i S j=S j:=by
 have:(j==i)=false:=by simpa using h
 unfold Qct;rw[this,Bool.false_or]
theorem Qn2 {i:Nat}{S:Nat->Bool}:Qct i S i=true:=by simp[Qct]
def WY (w6:World) (HP:World->Prop) (hk:Nat) (S:Nat->Bool) (w:World):Prop:=(S hk=false/\Below w6.heap.size w6 w)\/(S hk=true/\HP w)
section
variable {Z:Nat}{w6 w w':World}{HP:World->Prop}{HZ:Nat->World->Prop}{hk st i:Nat}{S:Nat->Bool}{R:Q4->Prop}{v:Value}
theorem WY.pre (h:WY w6 HP hk S w) (a:S hk=false):Below w6.heap.size w6 w:=by
 rcases h with h | h
 ·exact h.2
 ·rw[a] at h;cases h.1
theorem WY.did (p:HP w'):WY w6 HP hk (Qct hk S) w':=.inr ⟨Qn2,p⟩
theorem WY.fin (h:WY w6 HP hk S w) (a:S hk=true):HP w:=by
 rcases h with h | h
 ·rw[a] at h;cases h.1
 ·exact h.2
end
abbrev Zq (x:Qt) (i:IP):Array Value:=#[Iv x.op,Iv x.a,Iv x.b,Iv x.c,Iv x.k,Iv x.n,.slice i.pR x.regs.length i.cR,.slice i.pA x.args.length i.cA]
def TRd (w:World) (Q:Nat->Prop) (a:Option Addr) (L:List (TT 6)):Prop :=
 ∀ i t,L[i]?=some t->∃ g a' c',a=some ⟨g,0,none⟩/\w.cell? ⟨g,i*3,none⟩=some (Iv t.kind)/\w.cell? ⟨g,i*3+1,none⟩=some (Iv t.r)/\w.cell? ⟨g,i*3+2,none⟩=some (.slice a' t.len c')/\TIn w Q t a'/\t.ok
section
variable {w w':World}{O O':Nat->Prop}{v:Value}{L:List (TT 6)}
theorem TRd.below (h:TRd w Q a L) (b:Below w.heap.size w w'):TRd w' Q a L:=fun i t j=>by
 obtain⟨g,o,k,e,d,l,n,f,m⟩:=h i t j
 have c:g<w.heap.size:=Xi w ⟨g,i*3,none⟩ d;exact⟨g,o,k,e,(b.cell (p:=⟨g,i*3,none⟩) c).trans d,(b.cell (p:=⟨g,i*3+1,none⟩) c).trans l,(b.cell (p:=⟨g,i*3+2,none⟩) c).trans n,f.below b,m⟩
end
theorem underTs:prog.underlying 80=some (.slice 105):=by kernel_rfl
theorem infoT:(prog.info? 105).map (fun i=>(i.zero,i.size,i.bytes))=some (some (.agg #[Iv 0,Iv 0,Nv]),3,40):=by kernel_rfl
theorem infoT_parts:∃ i,prog.info? 105=some i/\i.zero=some (.agg #[Iv 0,Iv 0,Nv])/\i.size=3/\i.bytes=40:=by
 have h:=infoT
 cases hi:prog.info? 105 with
 | none=>rw[hi] at h;cases h
 | some i=>rw[hi] at h;simp at h;exact⟨i,Z,h.1,h.2.1,h.2.2⟩
structure Bx2 (w wr:World) (k r:Int) (a:Option Addr) (len c:Nat):Prop where
 bel:Below w.heap.size w wr
 box:wr.heap[w.heap.size]?=some (.cells #[Iv k,Iv r,.slice a len c] 105 (0,0))
 res:wr.heap[w.heap.size+1]?=some (.cells #[Iv 0,Iv 0,Nv] 105 (0,0))
theorem Bx2.start (w:World) (k r:Int) (a:Option Addr) (len c:Nat):Bx2 w ((w.alloc (.cells #[Iv k,Iv r,.slice a len c] 105)).alloc (.cells #[Iv 0,Iv 0,Nv] 105)) k r a len c :=
 ⟨((Below.refl _ w).alloc Ze _).alloc (by simp) _,(Below.heap_alloc _ _ _ (by simp)).trans (Qe w _ _),by have:=Qe (w.alloc (.cells #[Iv k,Iv r,.slice a len c] 105)) #[Iv 0,Iv 0,Nv] 105;simpa using this⟩
theorem Bx2.below {wr:World}{k r:Int}{len:Nat}(h:Bx2 w wr k r a len c) (b:Below wr.heap.size wr w'):Bx2 w w' k r a len c :=
 ⟨h.bel.trans (b.mono h.bel.size),QaY h.box b,QaY h.res b⟩
theorem Bx2.stored {wr:World}{k r:Int}{len:Nat}(h:Bx2 w wr k r a len c) (d r':Int) (a':Option Addr) (b c':Nat) :
 (((wr.setCell ⟨w.heap.size+1,0,none⟩ (Iv d)).setCell ⟨w.heap.size+1,1,none⟩ (Iv r')).setCell ⟨w.heap.size+1,2,none⟩ (.slice a' b c')).heap[w.heap.size+1]?=some (.cells #[Iv d,Iv r',.slice a' b c'] 105 (0,0)) /\
 Below w.heap.size w (((wr.setCell ⟨w.heap.size+1,0,none⟩ (Iv d)).setCell ⟨w.heap.size+1,1,none⟩ (Iv r')).setCell ⟨w.heap.size+1,2,none⟩ (.slice a' b c')):=by
 refine⟨?_,((h.bel.setCell (by simp) _).setCell (by simp) _).setCell (by simp) _⟩
 have f:=Qh h.res 0 (Iv d);have g:=Qh f 1 (Iv r');have e:=Qh g 2 (.slice a' b c');simpa using e
def Qk9 (w:World) (b:Option Addr) (m:Nat) (nm:Nat->Int):Prop:=∀ i,i<m->∃ g o,b=some ⟨g,o,none⟩/\w.cell? ⟨g,o+i,none⟩=some (Iv (nm i))
theorem Qk9.below {b:Option Addr}{a:Nat->Int}(h:Qk9 w b m a) (k:Below w.heap.size w w'):Qk9 w' b m a:=fun i d=>by
 obtain⟨g,o,e,c⟩:=h i d
 exact⟨g,o,e,(k.cell (p:=⟨g,o+i,none⟩) (Xi w ⟨g,o+i,none⟩ c)).trans c⟩
def Qob (o:Option Int) (e:Ending):Prop:=match o with
 | some v=>e=.returned (.tuple #[.int .i64 v,.bool true])
 | none=>e=.returned (.tuple #[.int .i64 0,.bool false])
theorem QfN (k r:Int) (a:Option Addr) (len c:Nat) (b:Option Addr) (m d:Nat) (f:Nat->Int) (w:World) (i:Qk9 w b m f) :
 Calls prog 290 #[.agg #[Iv k,Iv r,.slice a len c],.slice b m d] w fun e w'=>Qob (ZJ m f k r) e/\Below w.heap.size w w':=by
 have p:Hid (Qk9 w b m f):=i;clear i;by_cases h:k=1
 ·subst h;rw[show ZJ m f 1 r=some r by simp[ZJ]]
  go_enter func290,ntmps290
  go_wp2_with fail
  go_ret2;exact⟨Z,(Below.refl _ w).alloc Ze _⟩
 ·have u:(k==1)=false:=by simpa using h
  rcases (show r<0\/(0<=r/\(m:Int)<=r)\/(0<=r/\r<m) by omega) with l | ⟨l,s⟩|⟨l,s⟩
  ·rw[show ZJ m f k r=none by unfold ZJ;rw[Xr h,Xs (Or.inl l)]]
   clear h;go_enter func290,ntmps290
   go_wp2_with fail
   go_ret2;exact⟨Z,(Below.refl _ w).alloc Ze _⟩
  ·rw[show ZJ m f k r=none by unfold ZJ;rw[Xr h,Xs (Or.inr s)]]
   clear h;have t:¬ r<0:=by omega
   go_enter func290,ntmps290
   go_wp2_with fail
   go_ret2;exact⟨Z,(Below.refl _ w).alloc Ze _⟩
  ·obtain⟨j,rfl⟩:=Xc l
   obtain⟨g,o,rfl,q⟩:=p.out j (by omega)
   have y:g<w.heap.size:=Xi w ⟨g,o+j,none⟩ q;have t:¬ (j:Int)<0:=by omega
   have x:¬ (m:Int)<=j:=by omega
   by_cases n:f j<0
   ·rw[show ZJ m f k j=none by unfold ZJ;rw[Xr h,Xr (by omega),Xs (by simpa using n)]]
    clear h;generalize f j=v at q n;go_enter func290,ntmps290
    go_wp2_with fail
    go_ret2;exact⟨Z,(Below.refl _ w).alloc Ze _⟩
   ·rw[show ZJ m f k j=some (f j) by unfold ZJ;rw[Xr h,Xr (by omega),Xr (by simpa using n)];rfl]
    clear h;generalize f j=v at q n |-;go_enter func290,ntmps290
    go_wp2_with fail
    go_ret2;exact⟨Z,(Below.refl _ w).alloc Ze _⟩
structure Qcx (w:World) (G len:Nat){n:Nat}(l:List (TT n)):Prop where
 row:∃ cur,w.heap[G]?=some (.cells cur 105 (0,0))/\cur.size=len*3/\∀ (i:Nat) (x:TT n),l[i]?=some x->∃ a c,cur[i*3]?=some (Iv x.kind)/\cur[i*3+1]?=some (Iv x.r)/\cur[i*3+2]?=some (.slice a x.len c)/\TIn w (Qcr (G+1)) x a
theorem Qcx.below {len:Nat}{l:List (TT n)}(h:Qcx w G len l) (b:Below w.heap.size w w'):Qcx w' G len l:=by
 obtain⟨d,e,p,f⟩:=h.row
 refine⟨d,(b.block G (XC e)).trans e,p,fun i x k=>?_⟩
 obtain⟨a,c,m,g,j,o⟩:=f i x k
 exact⟨a,c,m,g,j,o.below b⟩
theorem Qcx.lt {len:Nat}{l:List (TT n)}(h:Qcx w G len l):G<w.heap.size:=by
 obtain⟨a,b,d,c⟩:=h.row
 exact XC b
theorem Qcx.frozen {len:Nat}{l:List (TT n)}(h:Qcx w G len l) (i:Nat):w.frozen? ⟨G,i,none⟩=false:=by
 obtain⟨a,b,d,c⟩:=h.row
 exact Qj b i
theorem Qcx.has {len:Nat}{l:List (TT n)}(h:Qcx w G len l) (i:Nat) (hi:i<len*3):∃ v,w.cell? ⟨G,i,none⟩=some v:=by
 obtain⟨a,b,d,c⟩:=h.row
 exact⟨a[i]'(by omega),Qb b i _ (Xj (by omega))⟩
theorem Qcx.lin {len:Nat}{l:List (TT n)}(h:Qcx w G len l):LIn w (Qcr G) l (some ⟨G,0,none⟩):=by
 obtain⟨f,b,q,d⟩:=h.row
 intro i x j;obtain⟨a,c,m,e,g,o⟩:=d i x j
 refine⟨G,0,a,c,Z,Ze,?_,?_,?_,o.mono (fun k p _=>by omega)⟩
 ·rw[XK];exact Qb b _ _ m
 ·rw[XK];exact Qb b _ _ e
 ·rw[XK];exact Qb b _ _ g
theorem Qcx.set {len:Nat}{l:List (TT n)}(h:Qcx w G len l) (v:l.length=q) (E:q<len){x:TT n}(s:TIn w (Qcr (G+1)) x a) :
 Qcx (((w.setCell ⟨G,q*3,none⟩ (Iv x.kind)).setCell ⟨G,q*3+1,none⟩ (Iv x.r)).setCell ⟨G,q*3+2,none⟩ (.slice a x.len c)) G len (l++[x]):=by
 obtain⟨o,u,C,j⟩:=h.row
 have A:=Qh u (q*3) (Iv x.kind);have t:=Qh A (q*3+1) (Iv x.r);have D:=Qh t (q*3+2) (.slice a x.len c)
 have f:∀ {y:TT n} {b:Option Addr},TIn w (Qcr (G+1)) y b->TIn (((w.setCell ⟨G,q*3,none⟩ (Iv x.kind)).setCell ⟨G,q*3+1,none⟩ (Iv x.r)).setCell ⟨G,q*3+2,none⟩ (.slice a x.len c)) (Qcr (G+1)) y b :=
  fun e=>((e.setCell (by simp) _).setCell (by simp) _).setCell (by simp) _
 refine⟨_,D,by simp[C],fun i y e=>?_⟩
 rw[List.getElem?_append] at e
 split at e
 ·rename_i m
  obtain⟨b,d,z,k,p,B⟩:=j i y e
  refine⟨b,d,?_,?_,?_,f B⟩
  ·simp only[Array.getElem?_setIfInBounds]
   rw[Xr (by omega),Xr (by omega),Xr (by omega)];exact z
  ·simp only[Array.getElem?_setIfInBounds]
   rw[Xr (by omega),Xr (by omega),Xr (by omega)];exact k
  ·simp only[Array.getElem?_setIfInBounds]
   rw[Xr (by omega),Xr (by omega),Xr (by omega)];exact p
 ·rename_i m
  have g:i=q:=by
   have:=(Zi e).1
   simp at this
   omega
  subst g;simp[v] at e
  subst e;refine⟨a,c,?_,?_,?_,f s⟩
  ·simp only[Array.getElem?_setIfInBounds,Array.size_setIfInBounds]
   rw[Xr (by omega),Xr (by omega),Xs Y,Xs (by omega)]
  ·simp only[Array.getElem?_setIfInBounds,Array.size_setIfInBounds]
   rw[Xr (by omega),Xs Y,Xs (by omega)]
  ·simp only[Array.getElem?_setIfInBounds,Array.size_setIfInBounds]
   rw[Xs Y,Xs (by omega)]
abbrev zeroT:Value:=.agg #[Iv 0,Iv 0,Nv]
def QgI {n:Nat}(w w':World) (o:Option (TT n)) (e:Ending):Prop:=match o with
 | some u=>∃ a' c',e=.returned (.tuple #[Tv u a' c',.bool true])/\TIn w' (Qcr w.heap.size) u a'/\Below w.heap.size w w'
 | none=>e=.returned (.tuple #[zeroT,.bool false])/\Below w.heap.size w w'
def QmH (f n:Nat):Prop:=∀ (t:TT n) (a:Option Addr) (c:Nat) (b:Option Addr) (m d:Nat) (nm:Nat->Int) (w:World),TIn w All t a->t.count<=2000->Qk9 w b m nm ->
 Calls prog f #[Tv t a c,.slice b m d] w fun e w'=>QgI w w' (t.ren m nm) e
theorem QjC (w:World) (len:Nat) (h:len<=2000):(Instr.makeSlice 80 (Iv len) (Iv len)).run prog w=.ok (.slice (some ⟨w.heap.size,0,none⟩) len len) (w.alloc (.cells (madeCells #[Iv 0,Iv 0,Nv] (len*3)) 105)):=by
 obtain⟨e,d,a,c,b⟩:=infoT_parts
 have:=run_make (P:=prog) w 80 105 e _ underTs d a .i64 .i64 len len (by omega) (by omega) (by rw[b];omega) (by omega)
 rw[c] at this
 exact this
structure RnX (w wr:World) (k r:Int) (a:Option Addr) (len c G:Nat){n:Nat}(l:List (TT n)):Prop where
 bx:Bx2 w wr k r a len c
 row:Qcx wr G len l
 hG:w.heap.size+1<G
section
variable {w wr w':World}{k r:Int}{a:Option Addr}{len c G n:Nat}{l:List (TT n)}
theorem RnX.start (h:Bx2 w wr k r a len c):RnX w (wr.alloc (.cells (madeCells #[Iv 0,Iv 0,Nv] (len*3)) 105)) k r a len c wr.heap.size ([]:List (TT n)) :=
 ⟨h.below ((Below.refl _ wr).alloc Ze _),⟨_,Qe wr _ _,size_madeCells _ _,fun i x b=>by simp at b⟩,XC h.res⟩
theorem RnX.below (h:RnX w wr k r a len c G l) (b:Below wr.heap.size wr w'):RnX w w' k r a len c G l:=⟨h.bx.below b,h.row.below b,h.hG⟩
theorem Bx2.setG (h:Bx2 w wr k r a len c) (b:w.heap.size+1<G) (i:Nat) (v:Value):Bx2 w (wr.setCell ⟨G,i,none⟩ v) k r a len c :=
 ⟨h.bel.setCell (by simp;omega) _,(Xd _ _ _ _ (by simp;omega)).trans h.box,(Xd _ _ _ _ (by simp;omega)).trans h.res⟩
theorem RnX.set (h:RnX w wr k r a len c G l)(b:l.length=q) (d:q<len){x:TT n}{a':Option Addr}{c':Nat}(e:TIn wr (Qcr (G+1)) x a') :
 RnX w (((wr.setCell ⟨G,q*3,none⟩ (Iv x.kind)).setCell ⟨G,q*3+1,none⟩ (Iv x.r)).setCell ⟨G,q*3+2,none⟩ (.slice a' x.len c')) k r a len c G (l++[x]) :=
 ⟨((h.bx.setG h.hG _ _).setG h.hG _ _).setG h.hG _ _,h.row.set b d e,h.hG⟩
end
theorem Qdk {a:Nat->Int}{n:Nat}{t:TT (n+1)}{r':Int}(d:ZJ m a t.kind t.r=some r'){l':List (TT n)}(c:ZS (TT.ren m a) t.2.2=some l'):t.ren m a=some (mkT t.kind r' l'):=by
 show (match ZJ m a t.1 t.2.1 with | none=>none | some r=>match ZS (TT.ren (n:=n) m a) t.2.2 with | none=>none | some l=>some ((t.1,r,l):Int × Int × List (TT n)))=_;have b:ZJ m a t.1 t.2.1=some r':=d;rw[b,c]
 rfl
theorem QeV {a:Nat->Int}{n:Nat}{t:TT (n+1)}(c:ZJ m a t.kind t.r=none):t.ren m a=none:=by
 show (match ZJ m a t.1 t.2.1 with | none=>none | some r=>match ZS (TT.ren (n:=n) m a) t.2.2 with | none=>none | some l=>some ((t.1,r,l):Int × Int × List (TT n)))=_;have b:ZJ m a t.1 t.2.1=none:=c;rw[b]
 rfl
theorem QeF {a:Nat->Int}{n:Nat}{t:TT (n+1)}(b:ZS (TT.ren m a) t.2.2=none):t.ren m a=none:=by
 show (match ZJ m a t.1 t.2.1 with | none=>none | some r=>match ZS (TT.ren (n:=n) m a) t.2.2 with | none=>none | some l=>some ((t.1,r,l):Int × Int × List (TT n)))=_;rw[b]
 cases ZJ m a t.1 t.2.1<;>rfl
theorem rename_any:∀ n,QmH 285 n:=by
 intro n
 induction n with
 | zero=>intro t;exact Empty.elim t
 | succ n ih =>
   intro t a c b m d s w ht ad M;have IH:Hid (QmH 285 n):=ih;have ab:Hid (Qk9 w b m s):=M;have hT:Hid (LIn w All t.2.2 a):=ht.list;have W:Hid (∀ x∈t.2.2,x.count<=2000):=fun x H=>by have:=t.count_kid H;omega
   have J:t.2.2.length<=2000:=by have:=t.len_lt_count;rw[t.len_eq] at this;omega
   have K:Hid (ZJ m s t.kind t.r=none->t.ren m s=none):=QeV;have S:Hid (ZS (TT.ren m s) t.2.2=none->t.ren m s=none):=QeF;have L:Hid (∀ B h,ZJ m s t.kind t.r=some B->ZS (TT.ren m s) t.2.2=some h->t.ren m s=some (mkT t.kind B h)):=fun B h h1 h2=>Qdk h1 h2;generalize t.ren m s=P at K S L |-;simp only[Tv,TT.len_eq]
   generalize t.2.2=l at hT W J S L |-;generalize t.kind=k at K L |-;generalize t.r=r at K L |-;clear ht ad M ih t;go_enter func285,ntmps285
   go_wp2_with fail
   have X1:Hid (Bx2 w ((w.alloc (.cells #[Iv k,Iv r,.slice a l.length c] 105)).alloc (.cells #[Iv 0,Iv 0,Nv] 105)) k r a l.length c):=Bx2.start w k r a l.length c;generalize (w.alloc (.cells #[Iv k,Iv r,.slice a l.length c] 105)).alloc (.cells #[Iv 0,Iv 0,Nv] 105)=w1 at X1 |-;refine(QfN k r a l.length c b m d s w1 (ab.out.below X1.out.bel)).mono ?_
   rintro e N ⟨hr,b2⟩;have F:Hid (Bx2 w N k r a l.length c):=X1.out.below b2;clear X1 b2;have e2:N.cell? ⟨w.heap.size,2,none⟩=some (.slice a l.length c):=Qb F.out.box 2 _ Yz
   cases hrr:ZJ m s k r with
   | none =>
     rw[hrr] at hr
     obtain rfl:e=_:=hr;have z:P=none:=K.out hrr;subst z;have D:=F.out.stored 0 0 none 0 0;have DD:Hid (Below w.heap.size w _):=D.2;have g0:=Qb F.out.res 0 _ Yz;have g1:=Qb F.out.res 1 _ Yz;have g2:=Qb F.out.res 2 _ Yz;have z0:=Qj F.out.res 0;have z1:=Qj F.out.res 1;have z2:=Qj F.out.res 2;have x0:=Qb D.1 0 _ Yz;have x1:=Qb D.1 1 _ Yz;have x2:=Qb D.1 2 _ Yz;clear D hrr K S L;go_wp2_with fail
     exact Xy (v:=.tuple #[zeroT,.bool false]) (by simp[results,results285,go_sem,x0,x1,x2]) Yz ⟨Yz,DD.out⟩
   | some B =>
     rw[hrr] at hr
     obtain rfl:e=_:=hr;have HR:Hid (ZJ m s k r=some B):=hrr;clear hrr;have ae:=QjC N l.length J;have ac:w.heap.size<N.heap.size:=XC F.out.box;go_wp2_with fail
     have Y0:Hid (RnX w (N.alloc (.cells (madeCells #[Iv 0,Iv 0,Nv] (l.length*3)) 105)) k r a l.length c N.heap.size ([]:List (TT n))):=RnX.start F.out;generalize N.alloc (.cells (madeCells #[Iv 0,Iv 0,Nv] (l.length*3)) 105)=w3 at Y0 |-;generalize N.heap.size=G at Y0 |-;clear ae e2 F ac;go_loopw [27] (fun i wr=>∃ q:Nat,q<=l.length/\i=Iv q/\∃ h:List (TT n),h.length=q/\(∀ (j:Nat) x,j<q->l[j]?=some x->x.ren m s=h[j]?)/\RnX w wr k r a l.length c G h) (fun i _=>l.length - (intOf i).toNat)
     case atStart=>exact⟨0,Xb _,Yz,[],Yz,fun j x hj=>by omega,Y0.out⟩
     case round =>
      clear Y0;obtain⟨q,hq,rfl,h,aa,I,hY⟩:=hrel
      have A:Hid (h.length=q/\∀ (j:Nat) x,j<q->l[j]?=some x->x.ren m s=h[j]?):=⟨aa,I⟩;have Y:Hid (RnX w wr k r a l.length c G h):=hY;clear aa I hY;by_cases V:q<l.length
      ·have H:l[q]?=some l[q]:=Zg V;generalize l[q]=x at H;obtain⟨g,o,a',c',rfl,_,d0,d1,d2,X⟩:=LIn.at (hT.out.below Y.out.bx.bel) H
       have hg:g<wr.heap.size:=Xi wr ⟨g,o+q*3,none⟩ d0;have Q:Hid (l[q]?=some x):=H
       have C:Hid (∀ U,Below wr.heap.size wr U->Calls prog 285 #[Tv x a' c',.slice b m d] U fun e w'=>QgI U w' (x.ren m s) e) :=
        fun U hb=>IH.out x a' c' b m d s U (X.below hb) (W.out x (Zm H)) ((ab.out.below Y.out.bx.bel).below hb)
       clear X H;simp only[Tv] at C
       generalize x.kind=kx at C d0;generalize x.r=rx at C d1;generalize x.len=lx at C d2;have al:(0:Int)<=q:=by omega
       have af:(q:Int)<l.length:=by omega
       have ai:(q:Int)<2000:=by omega
       go_wp2_with fail
       have T:Below wr.heap.size wr (wr.alloc (.cells #[Iv kx,Iv rx,.slice a' lx c'] 105)):=(Below.refl _ wr).alloc Ze _;refine(C.out _ T).mono ?_
       rintro e w4 h4;clear C d0 d1 d2
       cases hxr:x.ren m s with
       | none =>
         rw[hxr] at h4
         obtain⟨rfl,b4⟩:=h4
         have z:P=none:=S.out (QeM Q.out hxr);subst z;have f:=(Y.out.below T).below b4;have R:q*3+2<l.length*3:=by omega
         obtain⟨v0,r0⟩:=f.row.has (q*3) (by omega)
         obtain⟨v1,r1⟩:=f.row.has (q*3+1) (by omega)
         obtain⟨v2,r2⟩:=f.row.has (q*3+2) (by omega)
         have z0:=f.row.frozen (q*3);have z1:=f.row.frozen (q*3+1);have z2:=f.row.frozen (q*3+2);have X5:=((f.bx.setG f.hG (q*3) (Iv 0)).setG f.hG (q*3+1) (Iv 0)).setG f.hG (q*3+2) (Nv);have D:=X5.stored 0 0 none 0 0;have DD:Hid (Below w.heap.size w _):=D.2;have g0:=Qb f.bx.res 0 _ Yz;have g1:=Qb f.bx.res 1 _ Yz;have g2:=Qb f.bx.res 2 _ Yz;have y0:=Qj f.bx.res 0;have y1:=Qj f.bx.res 1;have y2:=Qj f.bx.res 2;have x0:=Qb D.1 0 _ Yz;have x1:=Qb D.1 1 _ Yz;have x2:=Qb D.1 2 _ Yz;have ak:¬ w.heap.size+1=G:=by have:=f.hG;omega
         have ah:¬ G=w.heap.size+1:=by have:=f.hG;omega
         clear D X5 f b4 T hxr A Y K S L R;go_wp2_with fail
         exact Xy (v:=.tuple #[zeroT,.bool false]) (by simp[results,results285,go_sem,x0,x1,x2]) Yz ⟨Yz,DD.out⟩
       | some u =>
         rw[hxr] at h4
         obtain⟨a4,c4,rfl,t4,b4⟩:=h4
         simp only[Tv]
         have f:=(Y.out.below T).below b4;have R:q*3+2<l.length*3:=by omega
         obtain⟨v0,r0⟩:=f.row.has (q*3) (by omega)
         obtain⟨v1,r1⟩:=f.row.has (q*3+1) (by omega)
         obtain⟨v2,r2⟩:=f.row.has (q*3+2) (by omega)
         have z0:=f.row.frozen (q*3);have z1:=f.row.frozen (q*3+1);have z2:=f.row.frozen (q*3+2);have ag:=Y.out.row.lt;have Y5:=f.set A.out.1 V (x:=u) (a':=a4) (c':=c4) (t4.mono (fun k X _=>by have:=T.size;simp at X;omega))
         have Z:Hid (∃ h:List (TT n),h.length=q+1/\(∀ (j:Nat) x,j<q+1->l[j]?=some x->x.ren m s=h[j]?)/\RnX w (((w4.setCell ⟨G,q*3,none⟩ (Iv u.kind)).setCell ⟨G,q*3+1,none⟩ (Iv u.r)).setCell ⟨G,q*3+2,none⟩ (.slice a4 u.len c4)) k r (some ⟨g,o,none⟩) l.length c G h):=by
          refine⟨h++[u],by simp[A.out.1],fun j y hj hy=>?_,Y5⟩
          by_cases e:j=q
          ·subst e;rw[Q.out] at hy
           cases hy
           rw[hxr,XQ (by have:=A.out.1;omega),A.out.1,Nat.sub_self]
           rfl
          ·rw[XP (by have:=A.out.1;omega)]
           exact A.out.2 j y (by omega) hy
         clear Y5 f b4 T hxr A Y K S R t4 Q ag;generalize u.kind=ku at Z |-;generalize u.r=ru at Z |-;generalize u.len=lu at Z |-;go_wp2
         go_roundw
         case rel=>exact⟨q+1,by omega,by go_num,Z.out⟩
         case measure=>simp[intOf];omega
      ·have af:¬ (q:Int)<l.length:=by omega
       have E:h.length=l.length:=by have:=A.out.1;omega
       have z:P=some (mkT k B h):=L.out B h HR.out (ZT.2 ⟨E,fun i x H=>A.out.2 i x (by have:=(Zi H).1;omega) H⟩);subst z;have e0:wr.cell? ⟨w.heap.size,0,none⟩=some (Iv k):=Qb Y.out.bx.box 0 _ Yz;have g0:=Qb Y.out.bx.res 0 _ Yz;have g1:=Qb Y.out.bx.res 1 _ Yz;have g2:=Qb Y.out.bx.res 2 _ Yz;have y0:=Qj Y.out.bx.res 0;have y1:=Qj Y.out.bx.res 1;have y2:=Qj Y.out.bx.res 2;have D:=Y.out.bx.stored k B (some ⟨G,0,none⟩) l.length l.length;have x0:=Qb D.1 0 _ Yz;have x1:=Qb D.1 1 _ Yz;have x2:=Qb D.1 2 _ Yz;have aj:=Y.out.hG
       have O:Hid (QgI w (((wr.setCell ⟨w.heap.size+1,0,none⟩ (Iv k)).setCell ⟨w.heap.size+1,1,none⟩ (Iv B)).setCell ⟨w.heap.size+1,2,none⟩ (.slice (some ⟨G,0,none⟩) l.length l.length)) (some (mkT k B h)) (.returned (.tuple #[.agg #[Iv k,Iv B,.slice (some ⟨G,0,none⟩) l.length l.length],.bool true]))):=by
        refine⟨some ⟨G,0,none⟩,l.length,?_,?_,D.2⟩
        ·show _=Ending.returned (.tuple #[.agg #[Iv k,Iv B,.slice (some ⟨G,0,none⟩) h.length l.length],.bool true]);rw[E]
        ·have:=((Y.out.row.lin.setCell (p:=⟨w.heap.size+1,0,none⟩) (by simp;omega) (Iv k)).setCell (p:=⟨w.heap.size+1,1,none⟩) (by simp;omega) (Iv B)).setCell (p:=⟨w.heap.size+1,2,none⟩) (by simp;omega) (.slice (some ⟨G,0,none⟩) l.length l.length)
         exact(LIn.tree this).mono (fun k X _=>by omega)
       clear D A Y K S L E;go_wp2_with fail
       exact Xy (v:=.tuple #[.agg #[Iv k,Iv B,.slice (some ⟨G,0,none⟩) l.length l.length],.bool true]) (by simp[results,results285,go_sem,x0,x1,x2]) Yz O.out
def ZL (e:Ending) (A:Prop):Prop:=∃ q:Bool,e=.returned (.bool q)/\(q=true↔A)
theorem ZL.yes {A:Prop}(h:A):ZL (.returned (.bool true)) A:=⟨true,Z,by simp[h]⟩
theorem ZL.no {A:Prop}(h:¬ A):ZL (.returned (.bool false)) A:=⟨false,Z,by simp[h]⟩
def Qio (f:Nat) (n:Nat):Prop:=∀ (t u:TT n) (a b:Option Addr) (c d:Nat) (w:World),TIn w All t a->TIn w All u b->t.count<=100000 ->
 Calls prog f #[Tv t a c,Tv u b d] w fun e w'=>ZL e (t=u)/\Below w.heap.size w w'
theorem TT.eq_iff {t u:TT (n+1)}:t=u↔t.kind=u.kind/\t.r=u.r/\t.2.2=u.2.2:=by
 obtain⟨a,b,c⟩:=t
 obtain⟨d,e,f⟩:=u
 constructor
 ·intro h;cases h;exact⟨Z,Z,Z⟩
 ·rintro ⟨rfl,rfl,rfl⟩;rfl
abbrev toV (x:MTo) (rg ag:Option Addr) (rc ac:Nat):Value:=.agg #[Iv x.block,.slice rg x.regs.length rc,.slice ag x.args.length ac]
theorem underBk:∃ fs,prog.underlying 86=some (.struct fs):=⟨_,underlying86⟩
theorem sizeBk:(prog.info? 86).map (·.size)=some 12:=by kernel_rfl
theorem Qbm {m:List (MBlock 6)}(h:(Zp 6).list.In w Q m [.slice p n c]){g:MBlock 6}(E:m[k]?=some g) :
 ∃ mg mo a1 c1 es,p=some ⟨mg,mo,none⟩/\w.rangeAt mg (mo+k*12) (Iv g.regs::.slice a1 g.params.length c1::es)/\es.length=10/\(Qo 6).In w Q g.params [.slice a1 g.params.length c1]/\∀ v∈es,v.oneCell'=true:=by
 obtain⟨mg,mo,ds,z,G,O,f,u⟩:=Yf h E
 obtain⟨a1,c1,L,W,es,rfl,C,P,A,F⟩:=Qb9 u
 obtain⟨M,R,S,U,rfl,s,l,H,N⟩:=Qgw A
 obtain⟨u1,u2,K,X,rfl,-,-,-⟩:=QfR s
 obtain⟨V,J,T,I,rfl,-,-,-⟩:=QfR l
 have d:∀ a,a.length=12->(∀ v∈a,v.oneCell'=true)->(∀ j,j<12->w.cell? ⟨mg,mo+k*12+j,none⟩=a[j]?)->∀ x y es,a=x::y::es->w.rangeAt mg (mo+k*12) (x::y::es)/\es.length=10/\∀ v∈es,v.oneCell'=true:=by
  intro a D r f x y es e;subst e;refine⟨fun j v i=>?_,by simpa using D,fun v b=>r v (by simp[b])⟩
  have q:=(Zi i).1;rw[f j (by omega),i]
 obtain⟨B,t,o⟩:=d _ Z (fun v b=>by
  simp only[List.mem_cons,List.cons_append,List.nil_append,List.not_mem_nil,or_false] at b
  rcases b with rfl | rfl | rfl | rfl | rfl | rfl | rfl | rfl | rfl | rfl | rfl | rfl<;>rfl) f _ _ _ Z
 exact⟨mg,mo,a1,c1,_,z,B,t,C,o⟩
theorem Qad {o:Nat}(h:w.rangeAt b o cs) (k:Below w.heap.size w w'):w'.rangeAt b o cs:=fun j v a=>Qk (h j v a) k
theorem Qf {p:Prop}(h:p):Hid p:=h
structure FbS (w wx:World) (R:Nat) (l:List (Nat × Array Value × TypeId)):Prop where
 bel:Below w.heap.size w wx
 ge:w.heap.size<=R
 r:Blk wx R #[Iv 0,Iv 0] 32
 box:∀ (i:Nat) b,l[i]?=some b->Blk wx b.1 b.2.1 b.2.2
section
variable {w wx w':World}{R:Nat}{l:List (Nat × Array Value × TypeId)}
theorem FbS.below (h:FbS w wx R l) (k:Below wx.heap.size wx w'):FbS w w' R l :=
 ⟨h.bel.trans (k.mono h.bel.size),h.ge,h.r.below k,fun i b a=>(h.box i b a).below k⟩
theorem FbS.add (h:FbS w wx R l){c:Array Value}(d:Blk wx B c t):FbS w wx R ((B,c,t)::l) :=
 ⟨h.bel,h.ge,h.r,fun i b a=>by
  cases i with
  | zero=>cases a;exact d
  | succ i=>exact h.box i b a⟩
theorem FbS.new (h:FbS w wx R l) (c:Array Value) (t:TypeId):FbS w (wx.alloc (.cells c t)) R ((wx.heap.size,c,t)::l):=(h.below (Zd _ _)).add (Blk.new _ _ _)
theorem FbS.cells (h:FbS w wx R l):wx.cell? ⟨R,0,none⟩=some (Iv 0)/\wx.cell? ⟨R,1,none⟩=some (Iv 0)/\wx.frozen? ⟨R,0,none⟩=false/\wx.frozen? ⟨R,1,none⟩=false :=
 ⟨Qb h.r 0 _ Z,Qb h.r 1 _ Z,Qj h.r 0,Qj h.r 1⟩
theorem FbS.fin (h:FbS w wx R l) (c a:Int):Blk ((wx.setCell ⟨R,0,none⟩ (Iv c)).setCell ⟨R,1,none⟩ (Iv a)) R #[Iv c,Iv a] 32/\Below w.heap.size w ((wx.setCell ⟨R,0,none⟩ (Iv c)).setCell ⟨R,1,none⟩ (Iv a)) :=
 ⟨by have:=Qh (Qh h.r 0 (Iv c)) 1 (Iv a);simpa using this,(h.bel.setCell (p:=⟨R,0,none⟩) h.ge _).setCell (p:=⟨R,1,none⟩) h.ge _⟩
structure Qm1 (wx:World) (cs:List Value):Prop where
 size:(prog.info? 86).map (·.size)=some cs.length
 size2:(prog.info? 86).map (·.size)=some cs.toArray.size
 there:(wx.alloc (.cells #[Iv 0,Nv,Nv,Iv 0,Iv 0,Iv 0,Nv,Nv,Iv 0,Nv,Nv,Nv] 86)).there wx.heap.size 0 cs.toArray.size
 blk:Blk ((wx.alloc (.cells #[Iv 0,Nv,Nv,Iv 0,Iv 0,Iv 0,Nv,Nv,Iv 0,Nv,Nv,Nv] 86)).setCells wx.heap.size 0 cs) wx.heap.size cs.toArray 86
 bel:Below wx.heap.size wx ((wx.alloc (.cells #[Iv 0,Nv,Nv,Iv 0,Iv 0,Iv 0,Nv,Nv,Iv 0,Nv,Nv,Nv] 86)).setCells wx.heap.size 0 cs)
theorem Qm1.of (a:World)(c:cs.length=12):Qm1 a cs:=by
 have d:=Qe a #[Iv 0,Nv,Nv,Iv 0,Iv 0,Iv 0,Nv,Nv,Iv 0,Nv,Nv,Nv] 86;refine⟨by rw[c];exact pSizeB,by rw[List.size_toArray,c];exact pSizeB,fun j hj=>?_,?_,?_⟩
 ·rw[List.size_toArray,c] at hj
  rw[XK]
  refine⟨?_,Qj d j⟩
  rw[Qb d j ((#[Iv 0,Nv,Nv,Iv 0,Iv 0,Iv 0,Nv,Nv,Iv 0,Nv,Nv,Nv]:Array Value)[j]'hj) (by simp)];rfl
 ·have e:Blk (a.alloc (.cells #[Iv 0,Nv,Nv,Iv 0,Iv 0,Iv 0,Nv,Nv,Iv 0,Nv,Nv,Nv] 86)) a.heap.size ([]++(#[Iv 0,Nv,Nv,Iv 0,Iv 0,Iv 0,Nv,Nv,Iv 0,Nv,Nv,Nv]:Array Value).toList).toArray 86:=d;exact Blk.sets cs [] (#[Iv 0,Nv,Nv,Iv 0,Iv 0,Iv 0,Nv,Nv,Iv 0,Nv,Nv,Nv]:Array Value).toList _ (by rw[c];rfl) e
 ·have:=Qz.setCells (O:=fun k=>k=a.heap.size) (O':=fun k=>k=a.heap.size) (b:=a.heap.size) Z cs 0 _ (Qz.refl _ (a.alloc (.cells #[Iv 0,Nv,Nv,Iv 0,Iv 0,Iv 0,Nv,Nv,Iv 0,Nv,Nv,Nv] 86)))
  exact(Zd a _).trans (this.below (by simp) (fun k f=>by omega))
end
theorem underEnd:∃ fs,prog.underlying 84=some (.struct fs):=⟨_,underlying84⟩
theorem sizeEnd:(prog.info? 84).map (·.size)=some 9:=by kernel_rfl
abbrev QbW (x:ZA) (e:EP):Array Value:=#[Iv x.op,Iv x.a,Iv x.yes.block,.slice e.pYR x.yes.regs.length e.cYR,.slice e.pYA x.yes.args.length e.cYA,Iv x.no.block,.slice e.pNR x.no.regs.length e.cNR,.slice e.pNA x.no.args.length e.cNA,.slice e.pA x.args.length e.cA]
structure Qdn (w:World) (Q:Nat->Prop) (x:ZA) (e:EP):Prop where
 yr:intsL.In w Q x.yes.regs [.slice e.pYR x.yes.regs.length e.cYR]
 ya:intsL.In w Q x.yes.args [.slice e.pYA x.yes.args.length e.cYA]
 nr:intsL.In w Q x.no.regs [.slice e.pNR x.no.regs.length e.cNR]
 na:intsL.In w Q x.no.args [.slice e.pNA x.no.args.length e.cNA]
 ar:intsL.In w Q x.args [.slice e.pA x.args.length e.cA]
theorem Qdn.below {x:ZA}{e:EP}(h:Qdn w Q x e) (k:Below w.heap.size w w'):Qdn w' Q x e :=
 ⟨Ya h.yr k,Ya h.ya k,Ya h.nr k,Ya h.na k,Ya h.ar k⟩
theorem QaD {a:Nat}{t:MTo}(h:t.form a true=0):(0<=t.block/\t.block<a)/\t.regs.length<=16/\t.args.length<=8:=by
 unfold MTo.form at h;rw[Xr (by simp)] at h
 split at h
 ·cases h
 split at h
 ·cases h
 omega
theorem Xt:type_of% @decide_eq_true:=@decide_eq_true
section
variable {w w' w2:World}{b most n:Nat}{m:List (MFunc 6)}{M M' N:IM}{sc sa:Int}{g g1:MG}{e:Ending}
theorem Qd7 {a:Nat}{t:MTo}(h:t.form a true=0):0<=t.block/\t.block<(a:Int)/\t.regs.length<=16/\t.args.length<=8:=by
 unfold MTo.form at h;rw[Xr (by simp)] at h
 split at h
 ·cases h
 ·split at h
  ·cases h
  ·omega
theorem Qfg {a:Nat}{x:ZA}(h:x.form a=0):(1<=x.op/\x.op<=3)/\x.args.length<=8/\(x.op≠3->x.yes.form a true=0)/\(x.op=2->x.no.form a true=0):=by
 unfold ZA.form at h;split at h
 ·cases h
 rename_i d
 split at h
 ·cases h
 split at h
 ·cases h
 rename_i c
 split at h
 ·rename_i b;exact absurd h b
 rename_i b
 refine⟨by omega,by omega,fun e=>?_,fun e=>?_⟩
 ·have:decide (x.op≠3)=true:=Xt e
  rw[this] at b
  exact Xq.1 b
 ·have:decide (x.op=2)=true:=Xt e
  rw[this] at h
  exact h
end
def tru (p:Bool):Int:=if p then 1 else 0
theorem Qn4 (a b:Int) (w:World):Calls prog 136 #[Iv 1,Iv a,Iv b] w fun e w'=>e=.returned (.tuple #[Iv (wrap64 (a+b)),.bool true])/\w'=w:=by
 go_enter func136,ntmps136
 go_wp2
 go_ret2;exact⟨Z,Z⟩
theorem Qn1 (a b:Int) (w:World):Calls prog 136 #[Iv 2,Iv a,Iv b] w fun e w'=>e=.returned (.tuple #[Iv (wrap64 (a - b)),.bool true])/\w'=w:=by
 go_enter func136,ntmps136
 go_wp2
 go_ret2;exact⟨Z,Z⟩
theorem Qod (a b:Int) (w:World):Calls prog 136 #[Iv 3,Iv a,Iv b] w fun e w'=>e=.returned (.tuple #[Iv (wrap64 (a*b)),.bool true])/\w'=w:=by
 go_enter func136,ntmps136
 go_wp2
 go_ret2;exact⟨Z,Z⟩
theorem Qoe (a b:Int) (w:World) (d:(b==0)=false) (c:¬ b=0):Calls prog 136 #[Iv 4,Iv a,Iv b] w fun e w'=>e=.returned (.tuple #[Iv (wrap64 (a.tdiv b)),.bool true])/\w'=w:=by
 go_enter func136,ntmps136
 go_wp2
 go_ret2;exact⟨Z,Z⟩
theorem Qno (a:Int) (w:World):Calls prog 136 #[Iv 4,Iv a,Iv 0] w fun e w'=>e=.returned (.tuple #[Iv 0,.bool false])/\w'=w:=by
 go_enter func136,ntmps136
 go_wp2
 go_ret2;exact⟨Z,Z⟩
theorem Qn0 (a b:Int) (w:World) (d:(b==0)=false) (c:¬ b=0):Calls prog 136 #[Iv 5,Iv a,Iv b] w fun e w'=>e=.returned (.tuple #[Iv (a.tmod b),.bool true])/\w'=w:=by
 go_enter func136,ntmps136
 go_wp2
 go_ret2;exact⟨Z,Z⟩
theorem Qm5 (a:Int) (w:World):Calls prog 136 #[Iv 5,Iv a,Iv 0] w fun e w'=>e=.returned (.tuple #[Iv 0,.bool false])/\w'=w:=by
 go_enter func136,ntmps136
 go_wp2
 go_ret2;exact⟨Z,Z⟩
theorem Qoi (a b:Int) (w:World):Calls prog 136 #[Iv 6,Iv a,Iv b] w fun e w'=>e=.returned (.tuple #[Iv (tru (decide (a<b))),.bool true])/\w'=w:=by
 by_cases h:a<b
 ·have c:tru (decide (a<b))=1:=by simp[tru,h]
  rw[c]
  go_enter func136,ntmps136
  go_wp2
  go_ret2;exact⟨Z,Z⟩
 ·have c:tru (decide (a<b))=0:=by simp[tru,h]
  rw[c]
  go_enter func136,ntmps136
  go_wp2
  go_ret2;exact⟨Z,Z⟩
theorem QnS (a b:Int) (w:World):Calls prog 136 #[Iv 7,Iv a,Iv b] w fun e w'=>e=.returned (.tuple #[Iv (tru (a==b)),.bool true])/\w'=w:=by
 cases h:(a==b)
 ·go_enter func136,ntmps136
  go_wp2
  go_ret2;exact⟨Z,Z⟩
 ·go_enter func136,ntmps136
  go_wp2
  go_ret2;exact⟨Z,Z⟩
theorem QnQ (a b:Int) (w:World):Calls prog 136 #[Iv 8,Iv a,Iv b] w fun e w'=>e=.returned (.tuple #[Iv (bits .and .i64 a b),.bool true])/\w'=w:=by
 go_enter func136,ntmps136
 go_wp2
 go_ret2;exact⟨Z,Z⟩
theorem Qn8 (a b:Int) (w:World):Calls prog 136 #[Iv 9,Iv a,Iv b] w fun e w'=>e=.returned (.tuple #[Iv (bits .xor .i64 a b),.bool true])/\w'=w:=by
 go_enter func136,ntmps136
 go_wp2
 go_ret2;exact⟨Z,Z⟩
theorem Qn9 (k a b:Int) (w:World) (c:k<1\/9<k):Calls prog 136 #[Iv k,Iv a,Iv b] w fun e w'=>e=.returned (.tuple #[Iv 0,.bool false])/\w'=w:=by
 rcases c with c | c
 ·go_enter func136,ntmps136
  go_wp2
  go_ret2;exact⟨Z,Z⟩
 ·go_enter func136,ntmps136
  go_wp2
  go_ret2;exact⟨Z,Z⟩
def aOp (k a b:Int):Option Int :=
 if k=1 then some (wrap64 (a+b)) else if k=2 then some (wrap64 (a - b)) else if k=3 then some (wrap64 (a*b))
 else if k=4 then (if b=0 then none else some (wrap64 (a.tdiv b))) else if k=5 then (if b=0 then none else some (a.tmod b))
 else if k=6 then some (tru (decide (a<b))) else if k=7 then some (tru (a==b)) else if k=8 then some (bits .and .i64 a b) else if k=9 then some (bits .xor .i64 a b) else none
theorem QlZ (k a b:Int) (w:World):Calls prog 136 #[Iv k,Iv a,Iv b] w fun e w'=>e=.returned (.tuple #[Iv ((aOp k a b).getD 0),.bool (aOp k a b).isSome])/\w'=w:=by
 by_cases i:k=1
 ·subst i;exact Qn4 a b w
 by_cases n:k=2
 ·subst n;exact Qn1 a b w
 by_cases f:k=3
 ·subst f;exact Qod a b w
 by_cases l:k=4
 ·subst l;by_cases c:b=0
  ·subst c;exact Qno a w
  ·have:aOp 4 a b=some (wrap64 (a.tdiv b)):=by simp[aOp,c]
   rw[this];exact Qoe a b w (by simpa using c) c
 by_cases j:k=5
 ·subst j;by_cases c:b=0
  ·subst c;exact Qm5 a w
  ·have:aOp 5 a b=some (a.tmod b):=by simp[aOp,c]
   rw[this];exact Qn0 a b w (by simpa using c) c
 by_cases h:k=6
 ·subst h;exact Qoi a b w
 by_cases g:k=7
 ·subst g;exact QnS a b w
 by_cases m:k=8
 ·subst m;exact QnQ a b w
 by_cases d:k=9
 ·subst d;exact Qn8 a b w
 ·have:aOp k a b=none:=by simp[aOp,i,n,f,l,j,h,g,m,d]
  rw[this];exact Qn9 k a b w (by omega)
theorem Q5 {x:Qt}{d:IP}(h:Blk w1 X (Zq x d) t):w1.cell? ⟨X,0,none⟩=some (Iv x.op)/\w1.cell? ⟨X,1,none⟩=some (Iv x.a)/\w1.cell? ⟨X,2,none⟩=some (Iv x.b)/\w1.cell? ⟨X,3,none⟩=some (Iv x.c)/\w1.cell? ⟨X,4,none⟩=some (Iv x.k)/\w1.cell? ⟨X,5,none⟩=some (Iv x.n)/\w1.cell? ⟨X,6,none⟩=some (.slice d.pR x.regs.length d.cR)/\w1.cell? ⟨X,7,none⟩=some (.slice d.pA x.args.length d.cA) :=
 ⟨Qb h 0 _ Z,Qb h 1 _ Z,Qb h 2 _ Z,Qb h 3 _ Z,Qb h 4 _ Z,Qb h 5 _ Z,Qb h 6 _ Z,Qb h 7 _ Z⟩
section
variable {m:List (MFunc 6)}{n n':Nat}{M M':IM}{x:Qt}{fn:MFunc 6}{bl:MBlock 6}{op:Int->Int->Int->Option Int}
theorem QcD (h:x.form funcs=0):(1<=x.op/\x.op<=14)/\(x.op=5->x.args.length<=8)/\(x.op=14->0<=x.k/\x.k<(funcs:Int)/\x.regs.length<=6/\x.args.length<=8):=by
 unfold Qt.form at h;split at h
 ·cases h
 rename_i a
 split at h
 ·cases h
 split at h
 ·cases h
 split at h
 ·cases h
 rename_i c
 split at h
 ·cases h
 split at h
 ·cases h
 rename_i d
 split at h
 ·cases h
 rename_i b
 refine⟨?_,fun e=>by omega,fun e=>by omega⟩
 unfold Q7 at a;by_cases e:1<=x.op/\x.op<=14
 ·exact e
 ·exfalso
  apply a
  repeat' rw[Xr (by omega)]
  rfl
end
end Go.Proofs.YtjhdpajpibdnaafGreat
