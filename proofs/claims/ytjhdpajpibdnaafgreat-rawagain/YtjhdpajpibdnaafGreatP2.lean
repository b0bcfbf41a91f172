import Derived.Test.YtjhdpajpibdnaafGreatP1
import Derived.Orders
import Derived.Deep.DeepCutAuto
import Derived.Deep.CutBlock
import Derived.Lib.MinMax
import Derived.Laws.CopyRow
import Derived.Laws.CopyOwn
import Derived.Maps.AppendAt
import Derived.Deep.RegionWith
set_option maxHeartbeats 16000000
set_option maxRecDepth 100000
namespace Go.Proofs.YtjhdpajpibdnaafGreat
open Go.ChangeShapes Go.WideShapes Go.ChangeAt Go.RowKit _root_.Go.Proofs.Tryz
set_option linter.unusedSimpArgs false
set_option linter.unusedVariables false
variable {w w' w6 w1 w2:World}{n b c k m rc ac X j B i cm g N d f fi cap bp q R pages id bi cc funcs s ci rl al ca ri vl most cR cA G:Nat}{O Q O':Nat→Prop}{l xs regs inp:List Int}{p a rg ag pm pi pa pR pA ra aa:Option Addr}{t e:TypeId}{v:Value}{P:Program}{L bs:List Bool}{x ya xc xk fr xa xb xn yb:Int}{ds cs:List Value}{ops:Array Oper}
def QbN (m:List (MFunc 6)) (M:IM):Prop:=M.done=true\/∃ g fn bl s,Inv m g M fn bl s
theorem JSt.upto_mf:∀ (l:List Qs) (s:JSt),(s.upto l).m=s.m/\(s.upto l).f=s.f
 | [],s=>⟨Z,Z⟩
 | x::l,s=>by
   have:=JSt.upto_mf l (s.next x)
   exact this
section
variable {m:List (MFunc 6)}{g g':Sig}{M M':IM}{fn:MFunc 6}{bl:MBlock 6}{s:JSt}{x:Qs}{op:Int->Int->Int->Option Int}
theorem Inv.mf (I:Inv m g M fn bl s):s.m=m/\s.f=fn:=by
 have:=JSt.upto_mf (bl.code.take M.top.i) (JSt.start m fn bl)
 rw[I.hs];exact this
theorem Inv.on (I:Inv m g M fn bl s) (c:bl.code[M.top.i]?=some x) (a:M'.top.f=M.top.f) (e:M'.top.b=M.top.b) (hi:M'.top.i=M.top.i+1) (d:M'.rest=M.rest) (F:FrT g' M'.h (s.next x) M'.top.v M'.top.r) (S:StT g' M'.h) (K:Stk m g' M'.h (Own (s.next x) M'.top.r) fn M.top.f M'.top.r M.rest):Inv m g' M' fn bl (s.next x):=by
 have j:=(Zi c).1;refine⟨by rw[a];exact I.hf,by rw[e];exact I.hb,by rw[hi];omega,?_,F,S,by rw[a,d];exact K⟩
 rw[hi,XV,c]
 show s.next x=(JSt.start m fn bl).upto (bl.code.take M.top.i++[x])
 rw[JSt.upto_snoc,<-I.hs]
theorem Inv.val (I:Inv m g M fn bl s) (C:bl.code[M.top.i]?=some x) (o:x.op≠3) (q:x.op≠4) (A:M'.top.f=M.top.f) (D:M'.top.b=M.top.b) (hi:M'.top.i=M.top.i+1) (z:M'.rest=M.rest) (a:M'.top.r=M.top.r) (n:g.le g') (l:∀ k p,M.h.place k=some p->∃ p,M'.h.place k=some p) (S:StT g' M'.h){xs:List Q1}(H:M'.top.v=M.top.v++xs) (G:xs.length=(s.makes x).2.length)
 (d:∀ (j:Nat) (y:Q1) (t:TT 6),xs[j]?=some y->(s.makes x).2[j]?=some t->∃ u,rtm M.top.r t=some u/\Qea g' y u):QbN m M':=by
 refine .inr ⟨g',fn,bl,_,I.on C A D hi z ?_ S ?_⟩
 ·rw[a,H]
  have F:FrT g' M'.h s M.top.v M.top.r:=I.fr.keep n (fun k c=>by obtain⟨p,e⟩:=I.fr.held k c;exact l _ p e);exact F.push G d (Qa5 o q) Z
 ·rw[a]
  refine I.stk.keep n (fun k _ ⟨p,e⟩=>l k p e) (fun k c=>?_) (fun k _=>rfl);obtain⟨j,E,w,B⟩:=c
  exact .inl ⟨j,by rw[<-Qa5 o q (s:=s)];exact E,w,B⟩
theorem Inv.still (I:Inv m g M fn bl s) (n:bl.code[M.top.i]?=some x) (u:x.op≠3) (w:x.op≠4) (l:M'.top.f=M.top.f) (o:M'.top.b=M.top.b) (hi:M'.top.i=M.top.i+1) (d:M'.rest=M.rest) (a:M'.top.r=M.top.r) (c:M'.h=M.h) (A:M'.top.v=M.top.v) (z:(s.makes x).2=[]):QbN m M' :=
 I.val n u w l o hi d a (fun _ _ _ h=>h) (fun k p e=>⟨p,by rw[c];exact e⟩) (by rw[c];exact I.st) (xs:=[]) (by simpa using A) (by rw[z];rfl) (fun j y t q=>by simp at q)
theorem Inv.one (I:Inv m g M fn bl s) (z:bl.code[M.top.i]?=some x) (B:x.op≠3) (C:x.op≠4) (w:M'.top.f=M.top.f) (A:M'.top.b=M.top.b) (hi:M'.top.i=M.top.i+1) (q:M'.rest=M.rest) (d:M'.top.r=M.top.r) (n:M'.h=M.h){y:Q1}{t:TT 6}(D:M'.top.v=M.top.v++[y]) (l:(s.makes x).2=[t]) (o:∃ u,rtm M.top.r t=some u/\Qea g y u):QbN m M' :=
 I.val z B C w A hi q d (fun _ _ _ h=>h) (fun k p e=>⟨p,by rw[n];exact e⟩) (by rw[n];exact I.st) (xs:=[y]) D (by rw[l];rfl) (fun j F E c a=>by
  rw[l] at a
  have:j=0:=by have:=(Zi c).1;simp at this;omega
  subst this;simp at c a;subst c a;exact o)
theorem IM.over_good (m:List (MFunc 6)) (M:IM) (e:Int):QbN m (M.over e):=.inl Z
abbrev IM.one (M:IM):IM:={ M with fuel:=M.fuel+1,top:={ M.top with i:=M.top.i+1 } }
def QbW (m:List (MFunc 6)) (op:Int->Int->Int->Option Int) (M:IM) (x:Qs):Prop:=∃ M',IM.ins m op M.one x=some M'/\QbN m M'
theorem QjU (I:Inv m g M fn bl s) (a:bl.code[M.top.i]?=some x) (b:s.code x=0) (h:x.op=1):QbW m op M x:=by
 refine⟨_,by unfold IM.ins;rw[Xs h],?_⟩
 exact I.one a (by omega) (by omega) Z Z Z Z Z Z Z (by rw[Qad (.inl h)]) (Qd2 _)
theorem QkS (I:Inv m g M fn bl s) (f:bl.code[M.top.i]?=some x) (p:s.code x=0) (h:x.op=2):QbW m op M x:=by
 have c:=(QM p).2.1;rw[QbE h] at c
 obtain⟨d,l⟩:=QD c
 obtain⟨a,j⟩:=I.fr.num d
 obtain⟨b,o⟩:=I.fr.num l
 unfold QbW IM.ins;rw[Xr (by omega),Xs h]
 show ∃ M',(match QS M.top.v x.a with | none=>none | some a=>match QS M.top.v x.b with | none=>none | some b=>match op x.k a b with | none=>some (M.one.over 1) | some n=>some (M.one.push [Qcs n]))=some M'/\QbN m M';rw[j,o]
 cases e:op x.k a b with
 | none=>simp only[e];exact⟨_,Z,IM.over_good _ _ _⟩
 | some n=>simp only[e];exact⟨_,Z,I.one f (by omega) (by omega) Z Z Z Z Z Z Z (by rw[QbE h]) (Qd2 _)⟩
theorem Qlw (I:Inv m g M fn bl s) (a:bl.code[M.top.i]?=some x) (b:s.code x=0) (h:x.op=12):QbW m op M x:=by
 unfold QbW IM.ins;rw[Xr (by omega),Xr (by omega),Xr (by omega),Xs h]
 show ∃ M',(match M.inp with | []=>some (M.one.over 4) | n::l=>some (IM.push { M.one with inp:=l } [Qcs n]))=some M'/\QbN m M'
 cases e:M.inp with
 | nil=>exact⟨_,Z,IM.over_good _ _ _⟩
 | cons n l=>exact⟨_,Z,I.one a (by omega) (by omega) Z Z Z Z Z Z Z (by rw[Qad (.inr h)]) (Qd2 _)⟩
theorem Qj2 (I:Inv m g M fn bl s) (c:bl.code[M.top.i]?=some x) (f:s.code x=0) (h:x.op=13):QbW m op M x:=by
 have b:=(QM f).2.1;rw[QbC h] at b
 obtain⟨a,d⟩:=I.fr.num b
 unfold QbW IM.ins;rw[Xr (by omega),Xr (by omega),Xr (by omega),Xr (by omega),Xs h]
 show ∃ M',(match QS M.top.v x.a with | none=>none | some n=>if M.out.length=2000 then some (M.one.over 8) else some { M.one with out:=M.out++[n] })=some M'/\QbN m M';rw[d]
 by_cases e:M.out.length=2000
 ·simp only[e,if_true];exact⟨_,Z,IM.over_good _ _ _⟩
 ·simp only[e,if_false];exact⟨_,Z,I.still c (by omega) (by omega) Z Z Z Z Z Z Z (by rw[QbC h])⟩
theorem Zv (h:x.op=4\/x.op=5\/x.op=6\/x.op=7\/x.op=8\/x.op=9\/x.op=10\/x.op=11):IM.ins m op M x=M.mem x:=by
 unfold IM.ins;rw[Xr (by omega),Xr (by omega),Xr (by omega),Xr (by omega),Xr (by omega),Xr (by omega)]
theorem Qd.get_nat {h:Qd}{v:Q1}{t:Qw}(e:h.thing v=some t){k:Int}(a:0<=k):h.get v k=match t.l[k.toNat]? with | none=>(noV,1) | some x=>(x,0):=by
 unfold Qd.get;rw[e];simp only;rw[Xr (by omega)];first | done | (cases t.l[k.toNat]?<;>rfl)
theorem QkU (I:Inv m g M fn bl s) (k:bl.code[M.top.i]?=some x) (r:s.code x=0) (h:x.op=11):QbW m op M x:=by
 have c:=(QM r).2.1;rw[QbA h] at c
 obtain⟨a,t,u,C,d,z,j,o,D,f,n⟩:=I.fr.want c
 obtain⟨p,e⟩:=n Z (by omega)
 obtain⟨y,q,A,B⟩:=j.thing I.st (.inr f) e
 unfold QbW;rw[Zv (by omega)]
 unfold IM.mem;have b:QQ M.one.top.v x.a=some a:=d;rw[b]
 simp only
 rw[Xr (by omega),Xr (by omega),Xr (by omega),Xr (by omega),Xr (by omega),Xr (by omega),Xr (by omega)]
 have w:M.h.len a=((y.l.length:Int),0):=by unfold Qd.len;rw[q]
 show ∃ M',(if a.kind=4/\(M.h.len a).2=0 then some (M.one.push [Qcs (M.h.len a).1]) else none)=some M'/\QbN m M';rw[w,Xs ⟨o,Z⟩]
 exact⟨_,Z,I.one k (by omega) (by omega) Z Z Z Z Z Z Z (by rw[QbA h]) (Qd2 _)⟩
theorem QhL (I:Inv m g M fn bl s) (B:bl.code[M.top.i]?=some x) (D:s.code x=0) (h:x.op=9):QbW m op M x:=by
 have e:=(QM D).2.1;rw[Qa3 h] at e
 obtain⟨q,j⟩:=QD e
 obtain⟨a,t,u,P,k,N,F,K,O,o,C⟩:=I.fr.want q
 obtain⟨n,A⟩:=I.fr.num j
 obtain⟨p,J⟩:=C Z (by omega)
 obtain⟨H,f,w,L⟩:=F.thing I.st (.inr o) J
 unfold QbW;rw[Zv (by omega)]
 unfold IM.mem;have c:QQ M.one.top.v x.a=some a:=k;have d:QS M.one.top.v x.b=some n:=A;rw[c]
 simp only
 rw[Xr (by omega),Xr (by omega),Xr (by omega),Xr (by omega),Xr (by omega),Xs h,d]
 simp only
 rw[Xs K]
 show ∃ M',(if (M.h.get a n).2=1 then some (M.one.over 2) else if (M.h.get a n).2=0 then some (M.one.push [(M.h.get a n).1]) else none)=some M'/\QbN m M';by_cases G:n<0
 ·have:M.h.get a n=(noV,1):=by unfold Qd.get;rw[f];simp only;rw[Xs G]
  rw[this]
  exact⟨_,by rw[Xs Z],IM.over_good _ _ _⟩
 ·rw[Qd.get_nat f (by omega)]
  cases ey:H.l[n.toNat]? with
  | none=>exact⟨M.one.over 2,Z,IM.over_good _ _ _⟩
  | some y =>
    refine⟨M.one.push [y],Z,I.one B (by omega) (by omega) Z Z Z Z Z Z Z (by rw[Qa3 h]) ⟨tInt,Z,.inl ⟨Z,?_⟩⟩⟩
    rcases w with ⟨E,z,r⟩|⟨E,z,-⟩
    ·exact r y (Zm ey)
    ·omega
theorem QjI (I:Inv m g M fn bl s) (E:bl.code[M.top.i]?=some x) (G:s.code x=0) (h:x.op=6):QbW m op M x:=by
 obtain⟨b,c,-⟩:=QM G
 have f:0<=x.k:=by
  unfold Qs.form at b;repeat' split at b
  all_goals first | omega | cases b
 have d:=QcY (s:=s) h;rw[d] at c
 cases et:s.at x.a with
 | none=>rw[et] at c;cases c
 | some t =>
   rw[et] at c d
   simp only at c d
   by_cases e:s.want x.a 3 true=0
   ·rw[Xs e] at c d
    cases ek:t.2.2[x.k.toNat]? with
    | none=>rw[ek] at c;cases c
    | some w =>
      rw[ek] at d
      simp only at d
      obtain⟨a,U,u,q,z,H,J,S,V,A,F⟩:=I.fr.want e
      rw[et] at q;cases q
      obtain⟨p,O⟩:=F Z (by omega)
      obtain⟨N,L,C,T⟩:=J.thing I.st (.inl A) O
      rcases C with ⟨K,D,-⟩|⟨K,D,B,P⟩
      ·omega
      ·obtain⟨R,n,r⟩:=QdZ (Zo H).2.2 ek
       obtain⟨y,o⟩:∃ y,N.l[x.k.toNat]?=some y:=⟨_,Zg (by rw[B];exact(Zi n).1)⟩
       have Q:M.h.get a x.k=(y,0):=by rw[Qd.get_nat L f,o]
       unfold QbW;rw[Zv (by omega)]
       unfold IM.mem;have j:QQ M.one.top.v x.a=some a:=z;rw[j]
       simp only
       rw[Xr (by omega),Xr (by omega),Xr (by omega),Xs h]
       show ∃ M',(if a.kind=3/\(M.h.get a x.k).2=0 then some (M.one.push [(M.h.get a x.k).1]) else none)=some M'/\QbN m M';rw[Q,Xs ⟨S,Z⟩]
       exact⟨_,Z,I.one E (by omega) (by omega) Z Z Z Z Z Z Z (by rw[d]) ⟨_,TT.ren_at 5 r,P _ y R o n⟩⟩
   ·rw[Xr e] at c;exact absurd c e
theorem Qd.set_place {h:Qd}{v y:Q1}{k:Int}{j:Int}{p:Qq}(e:h.place j=some p):∃ p',(h.set v k y).2.place j=some p':=by
 unfold Qd.set;split
 ·rename_i t q d c
  obtain⟨f,b,a⟩:=Qd.place_some c
  split
  ·exact⟨p,e⟩
  ·split
   ·exact⟨p,e⟩
   ·simp only
    rw[Qd.place_set (Zi b).1]
    split
    ·exact⟨_,by first | rw[Xs a] | rfl⟩
    ·exact⟨p,e⟩
 ·exact⟨p,e⟩
theorem Qd.put_place {h:Qd}{v:Q1}{t:Qw}{words:Int}{j:Int}{p:Qq}(e:h.place j=some p):∃ p',(h.put v t words).2.2.place j=some p':=by
 unfold Qd.put;split
 ·exact⟨p,e⟩
 ·rename_i q c
  obtain⟨g,f,i,b,d,a⟩:=Qd.at_some c
  split
  ·exact⟨p,e⟩
  ·simp only
   rw[Qd.place_set (by rw[b];exact(Zi d).1)]
   split
   ·have:(q.more t words).there=true:=by unfold Qq.more;split<;>exact a
    exact⟨_,by rw[Xs this]⟩
   ·exact⟨p,e⟩
theorem Inv.stored (I:Inv m g M fn bl s) (b:bl.code[M.top.i]?=some x) (d:x.op≠3) (f:x.op≠4) (l:(s.makes x).2=[]){a y:Q1}{k:Int}(S:StT g (M.h.set a k y).2):QbN m { M.one with h:=(M.h.set a k y).2 } :=
 I.val (M':={ M.one with h:=(M.h.set a k y).2 }) b d f Z Z Z Z Z (fun _ _ _ h=>h) (fun j p e=>Qd.set_place e) S (xs:=[]) (by simp) (by rw[l];rfl) (fun j y t c=>by simp at c)
theorem QjP (I:Inv m g M fn bl s) (U:bl.code[M.top.i]?=some x) (n:s.code x=0) (h:x.op=7):QbW m op M x:=by
 obtain⟨d,c,-⟩:=QM n
 have W:0<=x.k:=by
  unfold Qs.form at d;repeat' split at d
  all_goals first | omega | cases d
 have e:=QcE (s:=s) h;rw[e] at c
 cases et:s.at x.a with
 | none=>rw[et] at c;cases c
 | some t =>
   rw[et] at c e
   simp only at c e
   by_cases o:s.want x.a 3 true=0
   ·rw[Xs o] at c e
    cases ek:t.2.2[x.k.toNat]? with
    | none=>rw[ek] at c;cases c
    | some w =>
      rw[ek] at e c
      simp only at e c
      cases eb:s.at x.b with
      | none=>rw[eb] at c;cases c
      | some vt =>
        rw[eb] at c e
        simp only at c e
        by_cases q:ZR (w.at 5=vt)=true
        ·rw[Xs q] at e
         have A:w.at 5=vt:=by simpa[ZR] using q
         obtain⟨a,t',u,P,R,e3,L,e5,e6,S,V⟩:=I.fr.want o
         rw[et] at P;cases P
         obtain⟨p,hp⟩:=V Z (by omega)
         obtain⟨th,f1,T,f3⟩:=L.thing I.st (.inl S) hp
         obtain⟨y,H,X,y2,y3⟩:=I.fr.at eb
         rcases T with ⟨C,K,-⟩|⟨C,K,J,b4⟩
         ·omega
         ·obtain⟨wu,G,Q⟩:=QdZ (Zo e3).2.2 ek
          have B:x.k.toNat<th.l.length:=by rw[J];exact(Zi G).1
          have F:H=wu.at 5:=by
           have:=TT.ren_at 5 Q
           rw[A] at this
           have f:vt.ren M.top.r.length (fun i=>M.top.r.getD i 0)=some H:=y2;rw[this] at f;exact(Xn f).symm
          have hs:g a.region a.thing.toNat=some u:=by
           rcases L with ⟨c1,-⟩|⟨c1,-⟩|⟨-,-,-,-,c5⟩
           ·omega
           ·omega
           ·exact c5
          obtain⟨O,N⟩:=I.st.set (x:=y) f1 (.inr ⟨C,K,J,b4⟩) hs (fun n=>by rw[C] at n;cases n) (fun _ w' j=>by
           rw[G] at j;cases j;rw[<-F];exact y3) B
          have z:((x.k.toNat:Nat):Int)=x.k:=by omega
          rw[z] at O N
          unfold QbW;rw[Zv (by omega)]
          unfold IM.mem;have E:QQ M.one.top.v x.a=some a:=R;have D:QQ M.one.top.v x.b=some y:=X;rw[E]
          simp only
          rw[Xr (by omega),Xr (by omega),Xr (by omega),Xr (by omega),Xs h,D]
          show ∃ M',(if a.kind=3/\(M.h.set a x.k y).1=0 then some { M.one with h:=(M.h.set a x.k y).2 } else none)=some M'/\QbN m M';rw[Xs ⟨e5,O⟩]
          exact⟨_,Z,I.stored U (by omega) (by omega) (by rw[e]) N⟩
        ·rw[Xr q] at c;cases c
   ·rw[Xr o] at c;exact absurd c o
theorem Qg4 (I:Inv m g M fn bl s) (Q:bl.code[M.top.i]?=some x) (S:s.code x=0) (h:x.op=10):QbW m op M x:=by
 have d:=(QM S).2.1;rw[QaE h] at d
 obtain⟨O,d⟩:=QD d
 obtain⟨J,j⟩:=QD d
 obtain⟨a,t,u,e1,L,e3,E,e5,e6,N,R⟩:=I.fr.want O
 obtain⟨n,P⟩:=I.fr.num J
 obtain⟨z,H⟩:=I.fr.num j
 obtain⟨p,hp⟩:=R Z (by omega)
 obtain⟨F,r,C,f3⟩:=E.thing I.st (.inr N) hp
 have hs:g a.region a.thing.toNat=some u:=by
  rcases E with ⟨W,-⟩|⟨W,-⟩|⟨-,-,-,-,T⟩
  ·omega
  ·omega
  ·exact T
 have f:F.arr=true:=by
  rcases C with ⟨V,-⟩|⟨-,b2,-⟩
  ·exact V
  ·omega
 unfold QbW;rw[Zv (by omega)]
 unfold IM.mem;have A:QQ M.one.top.v x.a=some a:=L;have B:QS M.one.top.v x.b=some n:=P;have w:QS M.one.top.v x.c=some z:=H;rw[A]
 simp only
 rw[Xr (by omega),Xr (by omega),Xr (by omega),Xr (by omega),Xr (by omega),Xr (by omega),Xs h,B]
 simp only
 rw[w]
 simp only
 rw[Xs e5]
 show ∃ M',(if (M.h.set a n (Qcs z)).1=1 then some (M.one.over 2) else if (M.h.set a n (Qcs z)).1=0 then some { M.one with h:=(M.h.set a n (Qcs z)).2 } else none)=some M'/\QbN m M';by_cases X:n<0\/F.l.length<=n.toNat
 ·have:(M.h.set a n (Qcs z)).1=1:=by
   obtain⟨U,q,K,-⟩:=Qd.thing_iff.1 r
   unfold Qd.set;rw[r,K];simp only;rw[Xr (fun e=>e.2 Z),Xs X]
  rw[Xs this]
  exact⟨_,Z,IM.over_good _ _ _⟩
 ·obtain⟨y,G⟩:=I.st.set (x:=Qcs z) (k:=n.toNat) r C hs (fun _=>rfl) (fun D=>by rw[f] at D;cases D) (by omega)
  have o:((n.toNat:Nat):Int)=n:=by omega
  rw[o] at y G
  rw[Xr (by rw[y];decide),Xs y]
  exact⟨_,Z,I.stored Q (by omega) (by omega) (by rw[QaE h]) G⟩
theorem Inv.made (I:Inv m g M fn bl s) (o:bl.code[M.top.i]?=some x) (A:x.op≠3) (B:x.op≠4){T u:TT 6}(k:(s.makes x).2=[T]){a:Q1}{p:Qq}{t:Qw}{words:Int}(f:M.h.at a=some p) (n:rtm M.top.r T=some u) (z:u.r=a.region) (l:QbJ g t u):∃ M',M.one.got (M.h.put a t words)=some M'/\QbN m M':=by
 obtain⟨E,v,S,C⟩:=I.st.put (words:=words) f z l
 rcases Qd.put_code (t:=t) (words:=words) f with d | ⟨D,-⟩
 ·unfold IM.got;rw[Xr (by rw[d];decide),Xs d]
  refine⟨_,Z,?_⟩
  exact I.val o A B Z Z Z Z Z v (fun j q e=>Qd.put_place e) S (xs:=[(M.h.put a t words).1]) Z (by rw[k];rfl) (fun j y w c b=>by
   rw[k] at b
   have:j=0:=by have:=(Zi c).1;simp at this;omega
   subst this;simp at c b;subst c b;exact⟨u,n,C d⟩)
 ·unfold IM.got;rw[Xs D]
  exact⟨_,Z,IM.over_good _ _ _⟩
theorem QgN (I:Inv m g M fn bl s) (D:bl.code[M.top.i]?=some x) (G:s.code x=0) (h:x.op=8):QbW m op M x:=by
 have e:=(QM G).2.1;have f:=Qbq (s:=s) h;rw[f] at e
 cases et:s.at x.a with
 | none=>rw[et] at e;cases e
 | some t =>
   rw[et] at e f
   simp only at e f
   obtain⟨C,z⟩:=QD e
   obtain⟨a,U,u,w,B,q,J,P,K,R,F⟩:=I.fr.want C
   rw[et] at w;cases w
   obtain⟨n,E⟩:=I.fr.num z
   obtain⟨p,O⟩:=F Z (by omega)
   have d:a.region=u.r:=by
    rcases J with ⟨V,-⟩|⟨-,-,c⟩|⟨-,-,c,-⟩
    ·omega
    ·exact c
    ·exact c
   have j:M.h.at a=some p:=by unfold Qd.at;rw[Xs P,d];exact O
   unfold QbW;rw[Zv (by omega)]
   unfold IM.mem;have l:QQ M.one.top.v x.a=some a:=B;have o:QS M.one.top.v x.b=some n:=E;rw[l]
   simp only
   rw[Xr (by omega),Xr (by omega),Xs h,o]
   simp only
   by_cases k:n<0\/15<n
   ·rw[Xs k]
    exact⟨_,Z,IM.over_good _ _ _⟩
   ·rw[Xr k]
    show ∃ M',M.one.got (M.h.array a n)=some M'/\QbN m M';unfold Qd.array;rw[Xr k]
    obtain⟨Q,S,T⟩:=QlG q (by omega)
    have H:rtm M.top.r (mkT 4 t.r [])=some (mkT 4 u.r []:TT 6):=by
     have N:ZI M.top.r.length (fun i=>M.top.r.getD i 0) 4 t.r=some u.r:=by
      have:=(Zo q).2.1
      have L:t.1=2:=K;rw[L] at this
      exact this
     exact ZT (t:=(mkT 4 t.r []:TT 6)) N Z
    exact I.made D (by omega) (by omega) (by rw[f]) j H d.symm (.inl ⟨Z,Z,fun y A=>by rw[List.eq_of_mem_replicate A];rfl⟩)
theorem Qhv (I:Inv m g M fn bl s) (hx:bl.code[M.top.i]?=some x) (hc:s.code x=0) (h:x.op=5):QbW m op M x:=by
 have d:=(QM hc).2.1;have e:=Qbj (s:=s) h;rw[e] at d
 cases et:s.at x.a with
 | none=>rw[et] at d;cases d
 | some t =>
   rw[et] at d e
   simp only at d e
   by_cases D:s.want x.a 2 true=0
   ·rw[Xs D] at d e
    cases ef:s.fields x.args with
    | none=>rw[ef] at d;cases d
    | some l =>
      rw[ef] at d e
      simp only at d e
      by_cases Q:4<TT.height (n:=7) (mkT 3 t.r l)
      ·rw[Xs Q] at d;cases d
      ·rw[Xr Q] at e
       obtain⟨a,t',u,e1,e2,e3,e4,e5,e6,e7,e8⟩:=I.fr.want D
       rw[et] at e1;cases e1
       obtain⟨p,hp⟩:=e8 Z (by omega)
       have f:a.region=u.r:=by
        rcases e4 with ⟨S,-⟩|⟨-,-,c⟩|⟨-,-,c,-⟩
        ·omega
        ·exact c
        ·exact c
       have L:M.h.at a=some p:=by unfold Qd.at;rw[Xs e5,f];exact hp
       obtain⟨F,b1,b2,b3⟩:=I.fr.fields ef
       obtain⟨k,B⟩:∃ k,ZP (TT.ren M.top.r.length (fun i=>M.top.r.getD i 0)) l=some k:=by
        clear e d Q
        have N:∀ (l:List (TT 6)),(∀ t∈l,∃ u,rtm M.top.r t=some u)->∃ k,ZP (TT.ren M.top.r.length (fun i=>M.top.r.getD i 0)) l=some k:=by
         intro l
         induction l with
         | nil=>exact fun _=>⟨[],Z⟩
         | cons z zs ih =>
           intro E;obtain⟨X,H⟩:=E z (by simp)
           obtain⟨us,K⟩:=ih (fun t ht=>E t (by simp[ht]))
           have A:z.ren M.top.r.length (fun i=>M.top.r.getD i 0)=some X:=H;exact⟨X::us,by simp only[ZP,A,K]⟩
        refine N l (fun z E=>?_);obtain⟨j,W⟩:=List.mem_iff_getElem?.1 E
        obtain⟨y,G⟩:∃ y,F[j]?=some y:=⟨_,Zg (by rw[b2];exact(Zi W).1)⟩
        obtain⟨w,w1,-⟩:=b3 j y z G W
        exact⟨w,w1⟩
       have hr:ZI M.top.r.length (fun i=>M.top.r.getD i 0) 3 t.r=some u.r:=by
        have:=(Zo e3).2.1
        have ek:t.1=2:=e6;rw[ek] at this
        exact this
       have P:(mkT 3 t.r l:TT 7).ren M.top.r.length (fun i=>M.top.r.getD i 0)=some (mkT 3 u.r k:TT 7):=ZT (t:=(mkT 3 t.r l:TT 7)) hr B;have hT:=TT.ren_at 5 P;unfold QbW;rw[Zv (by omega)]
       unfold IM.mem;have V:QQ M.one.top.v x.a=some a:=e2;have U:Q8 M.one.top.v x.args=some F:=b1;rw[V]
       simp only
       rw[Xr (by omega),Xs h,U]
       show ∃ M',M.one.got (M.h.tuple a F)=some M'/\QbN m M';unfold Qd.tuple;obtain⟨S,c2⟩:=ZQ.1 B
       refine I.made hx (by omega) (by omega) (by rw[e]) L hT (show u.r=a.region from f.symm) (.inr ⟨Z,Z,?_,fun j y w G T=>?_⟩)
       ·show F.length=(k.map (TT.at 4)).length;simp[b2,S]
       ·have b:(k.map (TT.at 4))[j]?=some w:=T;rw[XS] at b
        cases eu:k[j]? with
        | none=>rw[eu] at b;cases b
        | some uj =>
          rw[eu] at b
          have O:uj.at 4=w:=Xn b;obtain⟨q,o⟩:∃ q,l[j]?=some q:=⟨_,Zg (by rw[<-S];exact(Zi eu).1)⟩
          obtain⟨w',d1,d2⟩:=b3 j y q G o
          have R:=c2 j q o;rw[eu] at R
          have C:q.ren M.top.r.length (fun i=>M.top.r.getD i 0)=some w':=d1;rw[R] at C;cases C
          have J:uj.height<=4:=by
           rw[TT.ren_height R]
           have:=(Q7 (t:=(mkT 3 t.r l:TT 7)) (m:=4)).1 (by omega) q (Zm o)
           omega
          rw[<-O,TT.at_back 4 uj J]
          exact d2
   ·rw[Xr D] at d;exact absurd d D
end
section
variable {m:List (MFunc 6)}{op:Int->Int->Int->Option Int}{φ:Int->Nat}{π:Int->Nat->Nat}{M M':IM}{R:RM}{x:Qs}
abbrev RM.one (R:RM):RM:={ R with fuel:=R.fuel+1 }
theorem Sim.next (S:Sim φ π M R) (c:M.done=false){a:Qd}{k:Est}{φ':Int->Nat}{π':Int->Nat->Nat}(H:Qa2 a k φ' π') (d:∀ x n,Rep M.h φ π x n->Rep a φ' π' x n){xs:List Q1}{ns:List Int}(o:ns.length=xs.length) (m:∀ (j:Nat) x n,xs[j]?=some x->ns[j]?=some n->Rep a φ' π' x n) (r':List Int) (l g:List Int) :
 Qew { M with h:=a,top:=⟨M.top.f,M.top.b,M.top.i+1,M.top.v++xs,r'⟩,inp:=l,out:=g,fuel:=M.fuel+1 } { R with e:=k,top:={ R.top with v:=R.top.v++ns,i:=R.top.i+1 },inp:=l,out:=g,fuel:=R.fuel+1 }:=by
 have F:=((S.top c).mono d).push o m (M.top.i+1) (R.top.i+1) (by rw[(S.top c).eI]);exact⟨φ',π',H,S.done,Z,S.back,by show R.fuel+1=M.fuel+1;rw[S.fuel],S.fin,fun _=>rfl,fun _=>⟨F.eF,F.eB,F.eI,F.len,F.val⟩,fun _=>(S.rest c).mono d⟩
theorem Sim.next0 (S:Sim φ π M R) (a:M.done=false){c:Qd}{g:Est}{φ':Int->Nat}{π':Int->Nat->Nat}(H:Qa2 c g φ' π') (d:∀ x n,Rep M.h φ π x n->Rep c φ' π' x n){xs:List Q1}{ns:List Int}(l:ns.length=xs.length) (k:∀ (j:Nat) x n,xs[j]?=some x->ns[j]?=some n->Rep c φ' π' x n) (r':List Int) :
 Qew { M with h:=c,top:=⟨M.top.f,M.top.b,M.top.i+1,M.top.v++xs,r'⟩,fuel:=M.fuel+1 } { R with e:=g,top:={ R.top with v:=R.top.v++ns,i:=R.top.i+1 },fuel:=R.fuel+1 }:=by
 have F:=((S.top a).mono d).push l k (M.top.i+1) (R.top.i+1) (by rw[(S.top a).eI]);exact⟨φ',π',H,S.done,S.out,S.back,by show R.fuel+1=M.fuel+1;rw[S.fuel],S.fin,fun _=>S.inp a,fun _=>⟨F.eF,F.eB,F.eI,F.len,F.val⟩,fun _=>(S.rest a).mono d⟩
theorem QgL {P:Q1->Int->Prop}{y:Q1}{n:Int}(h:P y n) (j:Nat) (x:Q1) (k:Int) (a:[y][j]?=some x) (b:[n][j]?=some k):P x k:=by
 cases j with
 | zero=>simp at a b;subst a b;exact h
 | succ j=>simp at a
theorem Sim.one1 (S:Sim φ π M R) (a:M.done=false){y:Q1}{n:Int}(b:Rep M.h φ π y n):Qew (M.one.push [y]) (R.one.on [n]) :=
 S.next0 a S.heap (fun _ _ h=>h) (xs:=[y]) (ns:=[n]) Z (QgL b) M.top.r
theorem Sim.stop (S:Sim φ π M R) (k:Int):Qew (M.one.over k) (R.one.over k):=Sim.over (M:=M.one) (R:=R.one) (H:=S.heap) S.out S.back (by show R.fuel+1=M.fuel+1;rw[S.fuel]) k
def ZD (m:List (MFunc 6)) (op:Int->Int->Int->Option Int) (R:RM) (x:Qs) (M':IM):Prop:=∃ R',RM.ins op R.one x=some R'/\Qew M' R'
theorem Qid (S:Sim φ π M R) (a:M.done=false) (e:x.op=1) (h:IM.ins m op M.one x=some M'):ZD m op R x M':=by
 simp[IM.ins,e] at h
 subst h;exact⟨_,by simp[RM.ins,e],S.one1 a (Qd3 x.n)⟩
theorem Qh6 (S:Sim φ π M R) (c:M.done=false) (e:x.op=2) (h:IM.ins m op M.one x=some M'):ZD m op R x M':=by
 unfold IM.ins at h;rw[Xr (by omega),Xs e] at h
 have F:=S.top c
 cases ha:QS M.top.v x.a with
 | none=>rw[show QS M.one.top.v x.a=none from ha] at h;cases h
 | some a =>
   rw[show QS M.one.top.v x.a=some a from ha] at h
   simp only at h
   cases hb:QS M.top.v x.b with
   | none=>rw[show QS M.one.top.v x.b=none from hb] at h;cases h
   | some b =>
     rw[show QS M.one.top.v x.b=some b from hb] at h
     simp only at h
     unfold ZD RM.ins;rw[Xr (by omega),Xs e,show iAt R.one.top.v x.a=some a from F.num ha]
     simp only
     rw[show iAt R.one.top.v x.b=some b from F.num hb]
     simp only
     cases ho:op x.k a b with
     | none=>rw[ho] at h;cases h;exact⟨_,Z,S.stop 1⟩
     | some n=>rw[ho] at h;cases h;exact⟨_,Z,S.one1 c (Qd3 n)⟩
theorem QjL (S:Sim φ π M R) (a:M.done=false) (e:x.op=12) (h:IM.ins m op M.one x=some M'):ZD m op R x M':=by
 unfold IM.ins at h;rw[Xr (by omega),Xr (by omega),Xr (by omega),Xs e] at h
 unfold ZD RM.ins;rw[Xr (by omega),Xr (by omega),Xr (by omega),Xr (by omega),Xr (by omega),Xr (by omega),Xs e]
 have c:R.one.inp=M.one.inp:=S.inp a;rw[c]
 cases hi:M.one.inp with
 | nil=>rw[hi] at h;cases h;exact⟨_,Z,S.stop 4⟩
 | cons n l =>
   rw[hi] at h
   cases h
   refine⟨_,Z,?_⟩
   have:=S.next a S.heap (fun _ _ h=>h) (xs:=[Qcs n]) (ns:=[n]) rfl (QgL (Qd3 n)) M.top.r l M.out
   have b:=S.out;show Qew _ { R with inp:=l,top:=_,fuel:=R.fuel+1 };rw[show ({ R with inp:=l,top:={ R.top with v:=R.top.v++[n],i:=R.top.i+1 },fuel:=R.fuel+1 }:RM)={ R with e:=R.e,top:={ R.top with v:=R.top.v++[n],i:=R.top.i+1 },inp:=l,out:=M.out,fuel:=R.fuel+1 } by rw[<-b]]
   exact this
theorem Qi8 (S:Sim φ π M R) (b:M.done=false) (k:M.out.length<=2000) (e:x.op=13) (h:IM.ins m op M.one x=some M'):ZD m op R x M':=by
 unfold IM.ins at h;rw[Xr (by omega),Xr (by omega),Xr (by omega),Xr (by omega),Xs e] at h
 unfold ZD RM.ins;rw[Xr (by omega),Xr (by omega),Xr (by omega),Xr (by omega),Xr (by omega),Xr (by omega),Xr (by omega),Xs e]
 have F:=S.top b
 cases ha:QS M.top.v x.a with
 | none=>rw[show QS M.one.top.v x.a=none from ha] at h;cases h
 | some n =>
   rw[show QS M.one.top.v x.a=some n from ha] at h
   rw[show iAt R.one.top.v x.a=some n from F.num ha]
   simp only at h |-
   have d:R.one.out=M.one.out:=S.out;by_cases c:M.out.length=2000
   ·rw[Xs (show M.one.out.length=2000 from c)] at h
    cases h
    rw[Xr (by rw[d];show ¬ M.out.length<2000;omega)]
    exact⟨_,Z,S.stop 8⟩
   ·rw[Xr (show ¬ M.one.out.length=2000 from c)] at h
    cases h
    rw[Xs (by rw[d];show M.out.length<2000;omega)]
    refine⟨_,Z,?_⟩
    have:=S.next b S.heap (fun _ _ h=>h) (xs:=[]) (ns:=[]) rfl (fun j x n h=>by simp at h) M.top.r M.inp (M.out++[n])
    have g:=S.inp b;have f:=S.out;simp only[List.append_nil] at this
    unfold RM.on;simp only[List.append_nil]
    show Qew _ { R with out:=R.out++[n],top:={ R.top with i:=R.top.i+1 },fuel:=R.fuel+1 };rw[f,show ({ R with out:=M.out++[n],top:={ R.top with i:=R.top.i+1 },fuel:=R.fuel+1 }:RM)={ R with e:=R.e,top:={ R.top with i:=R.top.i+1 },inp:=M.inp,out:=M.out++[n],fuel:=R.fuel+1 } by rw[<-g]]
    exact this
theorem Qi7 (S:Sim φ π M R) (k:M.done=false) (e:x.op=3) (h:IM.ins m op M.one x=some M'):ZD m op R x M':=by
 unfold IM.ins at h;rw[Xr (by omega),Xr (by omega),Xs e] at h
 unfold ZD RM.ins;rw[Xr (by omega),Xr (by omega),Xs e]
 by_cases a:16<=M.h.live
 ·have j:M.one.h.open_.2.1=false:=by show M.h.open_.2.1=false;unfold Qd.open_;rw[Xs a]
  rw[j] at h
  have f:R.one.e.openK=-1:=(Est.open_no (S.heap.full.1 a)).1;rw[Xr (by rw[f];decide)]
  cases h
  exact⟨_,Z,S.stop 6⟩
 ·have c:M.h.open_=(⟨2,M.h.L.length,0,0⟩,true,{ M.h with L:=M.h.L++[newP] }):=by unfold Qd.open_;rw[Xr a]
  rw[Xs (by show M.h.open_.2.1=true;rw[c])] at h
  cases h
  obtain⟨d,l,i,g⟩:=S.heap.opens a
  rw[Xs (show 0<=R.one.e.openK from d)]
  refine⟨_,Z,?_⟩
  refine S.next0 k l g (xs:=[M.h.open_.1]) (ns:=[R.e.openK]) Z (QgL ?_) (M.top.r++[M.h.open_.1.region]);rw[c]
  refine⟨fun b=>by simp at b,fun _=>⟨by simp only;omega,by simp;omega,fun p n=>⟨fun _=>?_,fun b=>absurd Z b⟩⟩⟩
  simp only
  rw[i]
  omega
theorem QgV (S:Sim φ π M R) (c:M.done=false) (e:x.op=4) (h:IM.ins m op M.one x=some M'):ZD m op R x M':=by
 rw[Zv (by omega)] at h
 unfold IM.mem at h;unfold ZD RM.ins;rw[Xr (by omega),Xr (by omega),Xr (by omega),Xs e]
 have F:=S.top c
 cases ha:QQ M.top.v x.a with
 | none=>rw[show QQ M.one.top.v x.a=none from ha] at h;cases h
 | some a =>
   obtain⟨n,l,d⟩:=F.at ha
   rw[show QQ M.one.top.v x.a=some a from ha] at h
   rw[show iAt R.one.top.v x.a=some n from l]
   simp only at h |-
   rw[Xs e] at h
   cases hp:M.h.at a with
   | none =>
     have:(M.one.h.shut a).1=false:=by show (M.h.shut a).1=false;unfold Qd.shut;rw[hp]
     rw[this] at h;cases h
   | some p =>
     obtain⟨k,f,i⟩:=S.heap.shuts hp
     rw[Xs (show (M.one.h.shut a).1=true from k)] at h
     cases h
     refine⟨_,Z,?_⟩
     obtain⟨b,o,-⟩:=Qd.at_some hp
     have g:n=φ a.region:=((d.2 (.inl b)).2.2 p o).1 b
     have:=S.next0 c f i (xs:=[]) (ns:=[]) Z (fun j x n h=>by simp at h) M.top.r
     rw[g]
     simp only[List.append_nil] at this
     unfold RM.on;simp only[List.append_nil]
     exact this
theorem Qcw {g:Q1 × Int × Qd}(h:IM.got M g=some M'):(g.2.1=14/\M'=M.over 6)\/(g.2.1=0/\M'=IM.push ({ M with h:=g.2.2 }) [g.1]):=by
 unfold IM.got at h;split at h
 ·cases h;exact .inl ⟨by assumption,Z⟩
 ·split at h
  ·cases h;exact .inr ⟨by assumption,Z⟩
  ·cases h
theorem Sim.made (S:Sim φ π M R) (s:M.done=false){a:Q1}{n:Int}(i:Rep M.h φ π a n){t:Qw}(f:t.sz<=16)(u:QmG M.h φ π t l) (h:M.one.got (M.h.put a t t.sz)=some M'):Qew M' (R.one.thing n t.sz l):=by
 cases hp:M.h.at a with
 | none =>
   have:M.h.put a t t.sz=(noV,20,M.h):=by unfold Qd.put;rw[hp]
   rw[this] at h
   rcases Qcw h with ⟨c,-⟩|⟨c,-⟩<;>cases c
 | some p =>
   obtain⟨g,v,-⟩:=Qd.at_some hp
   have k:n=φ a.region:=((i.2 (.inl g)).2.2 p v).1 g;subst k;unfold RM.thing;rcases S.heap.puts hp t f with ⟨b,d⟩|⟨b,d,w,m⟩
   ·rw[Xr (show ¬ R.one.e.getCode (φ a.region) t.sz=0 from b)]
    rcases Qcw h with ⟨-,rfl⟩|⟨c,-⟩
    ·exact S.stop 6
    ·rw[d] at c;cases c
   ·rw[Xs (show R.one.e.getCode (φ a.region) t.sz=0 from b)]
    rcases Qcw h with ⟨c,-⟩|⟨-,rfl⟩
    ·rw[d] at c;cases c
    ·obtain⟨π',o,j,q⟩:=m l u
     exact S.next0 s o j (xs:=[(M.h.put a t t.sz).1]) (ns:=[R.e.getAt (φ a.region) t.sz]) Z (QgL q) M.top.r
theorem Qfu (S:Sim φ π M R) (i:M.done=false) (u:x.args.length<=16) (e:x.op=5) (h:IM.ins m op M.one x=some M'):ZD m op R x M':=by
 rw[Zv (by omega)] at h
 unfold IM.mem at h;unfold ZD RM.ins;rw[Xr (by omega),Xr (by omega),Xr (by omega),Xr (by omega),Xs e]
 have F:=S.top i
 cases ha:QQ M.top.v x.a with
 | none=>rw[show QQ M.one.top.v x.a=none from ha] at h;cases h
 | some a =>
   obtain⟨n,s,l⟩:=F.at ha
   rw[show QQ M.one.top.v x.a=some a from ha] at h
   rw[show iAt R.one.top.v x.a=some n from s]
   simp only at h |-
   rw[Xr (by omega),Xs e] at h
   cases hl:Q8 M.top.v x.args with
   | none=>rw[show Q8 M.one.top.v x.args=none from hl] at h;cases h
   | some xs =>
     rw[show Q8 M.one.top.v x.args=some xs from hl] at h
     obtain⟨b,p,t,c,o⟩:=F.all hl
     rw[show Qaz R.one.top.v x.args=some b from p]
     simp only at h |-
     have g:((⟨false,xs⟩:Qw).sz:Int)=if xs.length=0 then 1 else (xs.length:Int):=by
      unfold Qw.sz;simp only[Bool.false_eq_true,if_false]
      split<;>omega
     unfold Qd.tuple at h;rw[<-g] at h
     have q:(if b.length=0 then 1 else (b.length:Int))=((⟨false,xs⟩:Qw).sz:Int):=by rw[g,c]
     rw[q]
     exact⟨_,Z,S.made i l (by unfold Qw.sz;simp only[Bool.false_eq_true,if_false];omega) ⟨fun _=>⟨c,fun j y f=>by
      obtain⟨k,d⟩:∃ k,b[j]?=some k:=⟨_,Zg (by rw[c];exact(Zi f).1)⟩
      have:=o j y k f d
      rw[List.getD_eq_getElem?_getD,d]
      exact this⟩,fun r=>by cases r⟩ h⟩
theorem QfT (S:Sim φ π M R) (f:M.done=false) (e:x.op=8) (h:IM.ins m op M.one x=some M'):ZD m op R x M':=by
 rw[Zv (by omega)] at h
 unfold IM.mem at h;unfold ZD RM.ins;rw[Xr (by omega),Xr (by omega),Xr (by omega),Xr (by omega),Xr (by omega),Xs e]
 have F:=S.top f
 cases ha:QQ M.top.v x.a with
 | none=>rw[show QQ M.one.top.v x.a=none from ha] at h;cases h
 | some a =>
   obtain⟨n,p,g⟩:=F.at ha
   rw[show QQ M.one.top.v x.a=some a from ha] at h
   rw[show iAt R.one.top.v x.a=some n from p]
   simp only at h |-
   rw[Xr (by omega),Xr (by omega),Xs e] at h
   cases hb:QS M.top.v x.b with
   | none=>rw[show QS M.one.top.v x.b=none from hb] at h;cases h
   | some k =>
     rw[show QS M.one.top.v x.b=some k from hb] at h
     rw[show iAt R.one.top.v x.b=some k from F.num hb]
     simp only at h |-
     by_cases d:k<0\/15<k
     ·rw[Xs d] at h;cases h
      rw[Xr (by omega)]
      exact⟨_,Z,S.stop 3⟩
     ·rw[Xr d] at h
      rw[Xs (by omega)]
      have c:M.one.got (M.h.array a k)=some M':=h;unfold Qd.array at c;rw[Xr d] at c
      have l:((⟨true,List.replicate k.toNat (Qcs 0)⟩:Qw).sz:Int)=k+1:=by
       unfold Qw.sz;simp;omega
      rw[<-l] at c |-
      refine⟨_,Z,S.made f g (by omega) ⟨fun o=>(by cases o),fun _=>⟨by simp;omega,fun j y i=>?_⟩⟩ c⟩
      exact List.eq_of_mem_replicate (Zm i)
theorem ZV {n:Int}(b:0<=n) (a:n<2000):wrap64 n=n:=by unfold wrap64;omega
theorem Qap (h:x.op=6\/x.op=7\/x.op=9\/x.op=10\/x.op=11):RM.ins op R x=R.part x:=by
 unfold RM.ins;rw[Xr (by omega),Xr (by omega),Xr (by omega),Xr (by omega),Xr (by omega),Xr (by omega),Xr (by omega),Xr (by omega),Xr (by omega)]
theorem Qjq (S:Sim φ π M R) (d:M.done=false) (e:x.op=6) (h:IM.ins m op M.one x=some M'):ZD m op R x M':=by
 rw[Zv (by omega)] at h
 unfold IM.mem at h;unfold ZD;rw[Qap (by omega)]
 unfold RM.part;have F:=S.top d
 cases ha:QQ M.top.v x.a with
 | none=>rw[show QQ M.one.top.v x.a=none from ha] at h;cases h
 | some a =>
   obtain⟨n,i,c⟩:=F.at ha
   rw[show QQ M.one.top.v x.a=some a from ha] at h
   rw[show iAt R.one.top.v x.a=some n from i]
   simp only at h |-
   rw[Xr (by omega),Xr (by omega),Xr (by omega),Xs e] at h
   rw[Xs e]
   split at h
   ·rename_i b
    cases h
    obtain⟨o,l,f⟩:=S.heap.get c b.1 b.2
    have j:0<=n/\n<1024:=by
     cases ht:M.h.thing a with
     | none =>
       have:=b.2
       have g:(M.h.get a x.k).2=20:=by unfold Qd.get;rw[ht]
       rw[show (M.one.h.get a x.k).2=(M.h.get a x.k).2 from Z,g] at this;cases this
     | some t =>
       obtain⟨p,T⟩:=S.heap.at c ht
       have:=T.run.low S.heap.ok
       have:=S.heap.ok.ok.most
       have:=t.sz_pos
       simp only at *
       omega
    rw[ZV (by omega) (by omega)]
    exact⟨_,Z,S.one1 d f⟩
   ·cases h
theorem Qij (S:Sim φ π M R) (c:M.done=false) (e:x.op=11) (h:IM.ins m op M.one x=some M'):ZD m op R x M':=by
 rw[Zv (by omega)] at h
 unfold IM.mem at h;unfold ZD;rw[Qap (by omega)]
 unfold RM.part;have F:=S.top c
 cases ha:QQ M.top.v x.a with
 | none=>rw[show QQ M.one.top.v x.a=none from ha] at h;cases h
 | some a =>
   obtain⟨n,g,f⟩:=F.at ha
   rw[show QQ M.one.top.v x.a=some a from ha] at h
   rw[show iAt R.one.top.v x.a=some n from g]
   simp only at h |-
   rw[Xr (by omega),Xr (by omega),Xr (by omega),Xr (by omega),Xr (by omega),Xr (by omega),Xr (by omega)] at h
   rw[Xr (by omega),Xr (by omega),Xr (by omega),Xr (by omega),Xs e]
   split at h
   ·rename_i d
    cases h
    have b:=S.heap.len f d.1 d.2
    have:=S.one1 c (Qd3 (h:=M.h) (φ:=φ) (π:=π) (M.h.len a).1)
    rw[<-b] at this
    exact⟨_,Z,by rw[<-b];exact this⟩
   ·cases h
theorem QgR (S:Sim φ π M R) (i:M.done=false) (e:x.op=9) (h:IM.ins m op M.one x=some M'):ZD m op R x M':=by
 rw[Zv (by omega)] at h
 unfold IM.mem at h;unfold ZD;rw[Qap (by omega)]
 unfold RM.part;have F:=S.top i
 cases ha:QQ M.top.v x.a with
 | none=>rw[show QQ M.one.top.v x.a=none from ha] at h;cases h
 | some a =>
   obtain⟨n,q,f⟩:=F.at ha
   rw[show QQ M.one.top.v x.a=some a from ha] at h
   rw[show iAt R.one.top.v x.a=some n from q]
   simp only at h |-
   rw[Xr (by omega),Xr (by omega),Xr (by omega),Xr (by omega),Xr (by omega),Xs e] at h
   rw[Xr (by omega),Xr (by omega),Xs e]
   cases hb:QS M.top.v x.b with
   | none=>rw[show QS M.one.top.v x.b=none from hb] at h;cases h
   | some k =>
     rw[show QS M.one.top.v x.b=some k from hb] at h
     rw[show iAt R.one.top.v x.b=some k from F.num hb]
     simp only at h |-
     split at h
     ·rename_i g
      split at h
      ·rename_i c
       cases h
       obtain⟨d,-⟩:=S.heap.num f g (.inr c)
       rw[Xr (show ¬ (0<=k/\k<R.one.load n) from d.1 c)]
       exact⟨_,Z,S.stop 2⟩
      ·rename_i c
       split at h
       ·rename_i j
        cases h
        obtain⟨d,o⟩:=S.heap.num f g (.inl j)
        obtain⟨p,r,l,u,w⟩:=o j
        rw[Xs (show 0<=k/\k<R.one.load n from Xq.1 (fun s=>c (d.2 s))),ZV (n:=n+1) (by omega) (by omega),ZV (by omega) l]
        refine⟨_,Z,S.one1 i ⟨fun _=>r,fun t=>?_⟩⟩
        rw[p] at t;omega
       ·cases h
     ·cases h
theorem Qil (S:Sim φ π M R) (s:M.done=false) (e:x.op=7) (h:IM.ins m op M.one x=some M'):ZD m op R x M':=by
 rw[Zv (by omega)] at h
 unfold IM.mem at h;unfold ZD;rw[Qap (by omega)]
 unfold RM.part;have F:=S.top s
 cases ha:QQ M.top.v x.a with
 | none=>rw[show QQ M.one.top.v x.a=none from ha] at h;cases h
 | some a =>
   obtain⟨n,D,A⟩:=F.at ha
   rw[show QQ M.one.top.v x.a=some a from ha] at h
   rw[show iAt R.one.top.v x.a=some n from D]
   simp only at h |-
   rw[Xr (by omega),Xr (by omega),Xr (by omega),Xr (by omega),Xs e] at h
   rw[Xr (by omega),Xs e]
   cases hb:QQ M.top.v x.b with
   | none=>rw[show QQ M.one.top.v x.b=none from hb] at h;cases h
   | some y =>
     obtain⟨z,G,q⟩:=F.at hb
     rw[show QQ M.one.top.v x.b=some y from hb] at h
     rw[show iAt R.one.top.v x.b=some z from G]
     simp only at h |-
     split at h
     ·rename_i u
      cases h
      have f:(M.h.set a x.k y).1=0:=u.2
      cases ht:M.h.thing a with
      | none=>unfold Qd.set at f;rw[ht] at f;cases f
      | some t =>
        obtain⟨-,p,E,-,-,o⟩:=Qd.thing_iff.1 ht
        have d:t.arr=false:=by rw[o];simp[show a.kind=3 from u.1]
        have C:0<=x.k/\x.k.toNat<t.l.length:=by
         unfold Qd.set at f;rw[ht,E] at f
         simp only at f
         rw[Xr (fun c=>by rw[d] at c;cases c.1)] at f
         split at f
         ·cases f
         ·omega
        obtain⟨H,T⟩:=S.heap.at A ht
        have g:=T.run.low S.heap.ok;have I:=S.heap.ok.ok.most;have L:=t.sz_l d;simp only at g
        obtain⟨J,i,B⟩:=S.heap.set A ht C.2 (y:=y) (z:=z) (fun _=>q) (fun c=>by rw[d] at c;cases c)
        have w:((x.k.toNat:Nat):Int)=x.k:=by omega
        rw[w,d] at i
        rw[w] at B
        simp only[Bool.false_eq_true,if_false,Int.add_zero] at i
        rw[ZV (by omega) (by omega)]
        refine⟨_,Z,?_⟩
        exact S.next0 s i B (xs:=[]) (ns:=[]) Z (fun j x n h=>by simp at h) M.top.r |> fun K=>by
         simp only[List.append_nil] at K
         unfold RM.on;simp only[List.append_nil]
         exact K
     ·cases h
theorem Qfz (S:Sim φ π M R) (w:M.done=false) (e:x.op=10) (h:IM.ins m op M.one x=some M'):ZD m op R x M':=by
 rw[Zv (by omega)] at h
 unfold IM.mem at h;unfold ZD;rw[Qap (by omega)]
 unfold RM.part;have F:=S.top w
 cases ha:QQ M.top.v x.a with
 | none=>rw[show QQ M.one.top.v x.a=none from ha] at h;cases h
 | some a =>
   obtain⟨n,E,u⟩:=F.at ha
   rw[show QQ M.one.top.v x.a=some a from ha] at h
   rw[show iAt R.one.top.v x.a=some n from E]
   simp only at h |-
   rw[Xr (by omega),Xr (by omega),Xr (by omega),Xr (by omega),Xr (by omega),Xr (by omega),Xs e] at h
   rw[Xr (by omega),Xr (by omega),Xr (by omega),Xs e]
   cases hb:QS M.top.v x.b with
   | none=>rw[show QS M.one.top.v x.b=none from hb] at h;cases h
   | some k =>
     rw[show QS M.one.top.v x.b=some k from hb] at h
     rw[show iAt R.one.top.v x.b=some k from F.num hb]
     simp only at h |-
     cases hcc:QS M.top.v x.c with
     | none=>rw[show QS M.one.top.v x.c=none from hcc] at h;cases h
     | some z =>
       rw[show QS M.one.top.v x.c=some z from hcc] at h
       rw[show iAt R.one.top.v x.c=some z from F.num hcc]
       simp only at h |-
       split at h
       ·rename_i D
        cases ht:M.h.thing a with
        | none =>
          have:(M.h.set a k (Qcs z))=(20,M.h):=by unfold Qd.set;rw[ht]
          rw[show M.one.h=M.h from Z,this] at h
          simp at h
        | some t =>
          obtain⟨-,p,C,-,-,o⟩:=Qd.thing_iff.1 ht
          have d:t.arr=true:=by rw[o];simp[show a.kind=4 from D]
          obtain⟨G,T⟩:=S.heap.at u ht
          have f:R.e.p.load n=t.l.length:=by
           have:=S.heap.load T (m:=0) t.sz_pos
           rw[Nat.add_zero] at this
           rw[G,this,T.len d]
          have g:=T.run.low S.heap.ok;have H:=S.heap.ok.ok.most;have I:=t.sz_a d;simp only at g
          by_cases q:k<0\/t.l.length<=k.toNat
          ·have:(M.h.set a k (Qcs z)).1=1:=by
            unfold Qd.set;rw[ht,C];simp only;rw[Xr (fun c=>c.2 Z),Xs q]
           rw[show M.one.h=M.h from Z,Xs this] at h
           cases h
           rw[Xr (show ¬ (0<=k/\k<R.one.load n) from fun c=>by have:k<R.e.p.load n:=c.2;rw[f] at this;omega)]
           exact⟨_,Z,S.stop 2⟩
          ·obtain⟨s,i,A⟩:=S.heap.set u ht (k:=k.toNat) (by omega) (y:=Qcs z) (z:=z) (fun c=>by rw[d] at c;cases c) (fun _=>⟨Z,Z⟩)
           have B:((k.toNat:Nat):Int)=k:=by omega
           rw[B] at s i A
           rw[show M.one.h=M.h from Z,Xr (by rw[s];decide),Xs s] at h
           cases h
           rw[d] at i
           simp only[if_true] at i
           rw[Xs (show 0<=k/\k<R.one.load n from ⟨by omega,by show k<R.e.p.load n;rw[f];omega⟩),ZV (n:=n+1) (by omega) (by omega),ZV (by omega) (by omega)]
           refine⟨_,Z,?_⟩
           have K:=S.next0 w i A (xs:=[]) (ns:=[]) Z (fun j x n h=>by simp at h) M.top.r;simp only[List.append_nil] at K
           unfold RM.on RM.stored;simp only[List.append_nil]
           rw[show n+1+k=n+k+1 by omega]
           exact K
       ·cases h
theorem QgW (S:Sim φ π M R) (b:M.done=false) (o:M.rest.length<40) (e:x.op=14) (h:IM.ins m op M.one x=some M'):ZD m op R x M':=by
 unfold IM.ins at h;rw[Xr (by omega),Xr (by omega),Xr (by omega),Xr (by omega),Xr (by omega),Xs e] at h
 unfold IM.call at h;unfold ZD RM.ins;rw[Xr (by omega),Xr (by omega),Xr (by omega),Xr (by omega),Xr (by omega),Xr (by omega),Xr (by omega),Xr (by omega),Xs e]
 have F:=S.top b;have n:=(S.rest b).length
 cases hr:QbO M.one.top.r x.regs with
 | none=>rw[hr] at h;cases h
 | some r =>
   rw[hr] at h
   simp only at h
   cases hv:Q8 M.top.v x.args with
   | none=>rw[show Q8 M.one.top.v x.args=none from hv] at h;cases h
   | some v =>
     rw[show Q8 M.one.top.v x.args=some v from hv] at h
     simp only at h
     obtain⟨j,f,l,c,d⟩:=F.all hv
     cases hg:m[x.k.toNat]? with
     | none=>rw[hg] at h;cases h
     | some g =>
       rw[hg] at h
       simp only at h
       split at h
       ·by_cases a:M.rest.length+1=40
        ·rw[Xs (show M.one.rest.length+1=40 from a)] at h
         cases h
         rw[Xr (show ¬ R.rest.length+1<40 by omega)]
         exact⟨_,Z,S.stop 5⟩
        ·rw[Xr (show ¬ M.one.rest.length+1=40 from a)] at h
         cases h
         rw[Xs (show R.rest.length+1<40 by omega),show Qaz R.one.top.v x.args=some j from f]
         refine⟨_,Z,⟨φ,π,S.heap,S.done,S.out,S.back,by show R.fuel+1=M.fuel+1;rw[S.fuel],S.fin,fun _=>S.inp b,fun _=>⟨Z,Z,Z,by simp[c],d⟩,fun _=>⟨⟨F.eF,F.eB,by show R.top.i+1=M.top.i+1;rw[F.eI],F.len,F.val⟩,S.rest b⟩⟩⟩
       ·cases h
theorem QiY (S:Sim φ π M R) (a:M.done=false) (d:M.rest.length<40) (b:M.out.length<=2000) (f:1<=x.op/\x.op<=14) (c:x.op=5->x.args.length<=16) (h:IM.ins m op M.one x=some M'):ZD m op R x M':=by
 have:x.op=1\/x.op=2\/x.op=3\/x.op=4\/x.op=5\/x.op=6\/x.op=7\/x.op=8\/x.op=9\/x.op=10\/x.op=11\/x.op=12\/x.op=13\/x.op=14:=by omega
 rcases this with e | e | e | e | e | e | e | e | e | e | e | e | e | e
 ·exact Qid S a e h
 ·exact Qh6 S a e h
 ·exact Qi7 S a e h
 ·exact QgV S a e h
 ·exact Qfu S a (c e) e h
 ·exact Qjq S a e h
 ·exact Qil S a e h
 ·exact QfT S a e h
 ·exact QgR S a e h
 ·exact Qfz S a e h
 ·exact Qij S a e h
 ·exact QjL S a e h
 ·exact Qi8 S a b e h
 ·exact QgW S a d e h
theorem QfF (S:Sim φ π M R) (a:M.done=false){fn:MFunc 6}{t:MTo}(h:IM.to fn { M with fuel:=M.fuel+1 } t=some M'):∃ R',R.one.to t=some R'/\Qew M' R':=by
 unfold IM.to at h;unfold RM.to;have F:=S.top a
 cases hb:fn.blocks[t.block.toNat]? with
 | none=>rw[hb] at h;cases h
 | some b =>
   rw[hb] at h
   simp only at h
   cases hr:QbO M.top.r t.regs with
   | none=>rw[hr] at h;cases h
   | some r =>
     rw[hr] at h
     simp only at h
     cases hv:Q8 M.top.v t.args with
     | none=>rw[hv] at h;cases h
     | some v =>
       rw[hv] at h
       obtain⟨f,e,g,c,d⟩:=F.all hv
       rw[show Qaz R.one.top.v t.args=some f from e]
       simp only at h |-
       split at h
       ·cases h
        exact⟨_,Z,⟨φ,π,S.heap,S.done,S.out,S.back,by show R.fuel+1=M.fuel+1;rw[S.fuel],S.fin,fun _=>S.inp a,fun _=>⟨F.eF,Z,Z,by simp[c],d⟩,fun _=>S.rest a⟩⟩
       ·cases h
theorem QhQ (S:Sim φ π M R) (g:M.done=false){fn:MFunc 6}{e:ZE}(p:1<=e.op/\e.op<=3) (h:IM.endd fn { M with fuel:=M.fuel+1 } e=some M'):∃ R',R.one.endd e=some R'/\Qew M' R':=by
 have F:=S.top g;unfold IM.endd at h;unfold RM.endd
 have:e.op=1\/e.op=2\/e.op=3:=by omega
 rcases this with f | f | f
 ·rw[Xs f] at h
  rw[Xr (by omega),Xr (by omega)]
  exact QfF S g h
 ·rw[Xr (by omega),Xs f] at h
  rw[Xr (by omega),Xs f]
  cases hn:QS M.top.v e.a with
  | none=>simp only[hn] at h;cases h
  | some n =>
    simp only[hn] at h
    rw[show iAt R.one.top.v e.a=some n from F.num hn]
    simp only
    split at h
    ·rename_i j;rw[Xs j];exact QfF S g h
    ·rename_i j;rw[Xr j];exact QfF S g h
 ·rw[Xr (by omega),Xr (by omega)] at h
  rw[Xs f]
  cases hv:Q8 M.top.v e.args with
  | none=>simp only[hv] at h;cases h
  | some v =>
    simp only[hv] at h
    obtain⟨ns,l,q,o,m⟩:=F.all hv
    rw[show Qaz R.one.top.v e.args=some ns from l]
    simp only
    split at h
    ·have c:=S.rest g
     cases hm:M.rest with
     | nil =>
       rw[hm] at h c
       cases hr:R.rest with
       | cons b k=>rw[hr] at c;exact c.elim
       | nil =>
         simp only at h
         cases hn:Qce M.top.v e.args with
         | none=>rw[hn] at h;cases h
         | some n =>
           rw[hn] at h
           cases h
           have:=F.nums hn
           rw[l] at this
           cases this
           exact⟨_,Z,⟨φ,π,S.heap,Z,S.out,Z,by show R.fuel+1=M.fuel+1;rw[S.fuel],Z,fun h=>(by cases h),fun h=>(by cases h),fun h=>(by cases h)⟩⟩
     | cons d rest =>
       rw[hm] at h c
       cases hr:R.rest with
       | nil=>rw[hr] at c;exact c.elim
       | cons b k =>
         rw[hr] at c
         simp only at h
         cases h
         have G:=c.1.push (xs:=v) (ns:=ns) o m d.i b.i c.1.eI;exact⟨_,Z,⟨φ,π,S.heap,S.done,S.out,S.back,by show R.fuel+1=M.fuel+1;rw[S.fuel],S.fin,fun _=>S.inp g,fun _=>⟨G.eF,G.eB,G.eI,G.len,G.val⟩,fun _=>c.2⟩⟩
    ·cases h
def Qmh (m:List (MFunc 6)):Prop:=∀ (k:Nat) fn (q:Nat) bl,m[k]?=some fn->fn.blocks[q]?=some bl->(∀ x∈bl.code,(1<=x.op/\x.op<=14)/\(x.op=5->x.args.length<=16))/\1<=bl.fin.op/\bl.fin.op<=3
theorem Qg8 (H:Qmh m) (S:Sim φ π M R) (c:M.done=false) (j:M.rest.length<40) (d:M.out.length<=2000)(h:IM.step m op most M=some M'):∃ R',RM.step m op most R=some R'/\Qew M' R':=by
 have F:=S.top c;unfold IM.step at h;unfold RM.step;rw[S.fuel]
 split at h
 ·rename_i a
  cases h
  rw[Xs a]
  exact⟨_,Z,Sim.over (H:=S.heap) S.out S.back S.fuel 7⟩
 ·rename_i a
  rw[Xr a,F.eF]
  cases hm:m[M.top.f]? with
  | none=>rw[hm] at h;cases h
  | some fn =>
    rw[hm] at h
    simp only at h |-
    rw[F.eB]
    cases hb:fn.blocks[M.top.b]? with
    | none=>rw[hb] at h;cases h
    | some bl =>
      rw[hb] at h
      simp only at h |-
      rw[F.eI]
      obtain⟨k,l⟩:=H _ fn _ bl hm hb
      cases hx:bl.code[M.top.i]? with
      | some x =>
        rw[hx] at h
        simp only at h |-
        obtain⟨e,g⟩:=k x (Zm hx)
        have:=QiY S c j d e g h
        unfold ZD at this;rw[show R.one={ R with fuel:=M.fuel+1 } by show { R with fuel:=R.fuel+1 }=_;rw[S.fuel]] at this
        exact this
      | none =>
        rw[hx] at h
        simp only at h |-
        have:=QhQ S c l h
        rw[show R.one={ R with fuel:=M.fuel+1 } by show { R with fuel:=R.fuel+1 }=_;rw[S.fuel]] at this
        exact this
theorem Qg5 (inp:List Int)(c:pages<=64):Qew (IM.start inp pages) (RM.start inp pages):=by
 have a:∀ k,(IM.start inp pages).h.place k=none:=fun k=>by
  show (Qd.new pages).place k=none;unfold Qd.place;simp[Qd.new]
 refine⟨fun _=>0,fun _ _=>0,⟨Est.ok_new pages c,?_,fun k p h=>?_,fun j k p q h=>?_,fun i r b=>?_,fun j r b=>?_,fun k p i t h=>?_,fun k p i t g d f e h=>?_⟩,Z,Z,Z,Z,Z,fun _=>rfl,fun _=>⟨Z,Z,Z,Z,fun j x n h=>by simp[IM.start] at h⟩,fun _=>trivial⟩
 ·show (pages:Int)=(PSt.new pages).free;simp[PSt.free,PSt.new]
 ·rw[a] at h;cases h
 ·rw[a] at h;cases h
 ·cases b
 ·cases b
 ·rw[a] at h;cases h
 ·rw[a] at h;cases h
end
theorem Qez {α:Type}{f a:α->Option α}:∀ {l l':List α},(∀ x∈l,∀ u,f x=some u->a x=some u)->ZP f l=some l'->ZP a l=some l'
 | [],l',_,h=>by simp[ZP] at h;subst h;rfl
 | x::xs,l',hx,h=>by
   simp only[ZP] at h
   cases h1:f x with
   | none=>simp[h1] at h
   | some y =>
     simp only[h1] at h
     cases h2:ZP f xs with
     | none=>simp[h2] at h
     | some ys =>
       simp only[h2] at h
       cases h
       simp only[ZP,hx x (by simp) y h1,Qez (fun z b=>hx z (by simp[b])) h2]
theorem TT.ren_more {m b:Nat}{c a:Nat->Int}(d:∀ k r r',ZI m c k r=some r'->ZI b a k r=some r'):{n:Nat}->{t u:TT n}->t.ren m c=some u->t.ren b a=some u
 | 0,t,_,_=>Empty.elim t
 | n+1,t,u,h=>by
   obtain⟨g,e,f⟩:=Zo h
   rw[ZT (d _ _ _ e) (Qez (fun x _ v i=>TT.ren_more d i) f),<-g]
   rfl
section
variable {m:List (MFunc 6)}{g g':Sig}{M M':IM}{fn:MFunc 6}{bl:MBlock 6}{s:JSt}{x:Qs}{op:Int->Int->Int->Option Int}{h:Qd}{v:List Q1}{r:List Int}
theorem Qjj (I:Inv m g M fn bl s) (hx:bl.code[M.top.i]?=some x) (N:s.code x=0) (C:x.op=4):QbW m op M x:=by
 obtain⟨t,j,O,tk,T,J,Q,R⟩:=Qjy N C
 have A:=(QM N).2.1;rw[Qau C,O] at A
 simp only at A
 obtain⟨X,G⟩:=QD A
 have z:s.f.regs<=j:=by
  by_cases e:t.r<s.f.regs
  ·rw[Xs e] at G;cases G
  ·omega
 obtain⟨a,t',u,S,W,e3,e4,e5,e6,e7,e8⟩:=I.fr.want X
 rw[O] at S;cases S
 obtain⟨p,hp⟩:=e8 Z (by omega)
 have n:a.region=u.r:=by
  rcases e4 with ⟨c1,-⟩|⟨-,-,c⟩|⟨-,-,c,-⟩
  ·omega
  ·exact c
  ·exact c
 obtain⟨q1,q2,q3⟩:=QlG e3 (by omega)
 have o:u.r=M.top.r.getD j 0:=by rw[q3,T];rfl
 have q:M.h.at a=some p:=by unfold Qd.at;rw[Xs e5,n];exact hp
 obtain⟨-,hq,i,F,V,aa⟩:=Qd.at_some q
 have w:M.h.shut a=(true,⟨M.h.L.set a.region.toNat noP,M.h.left+p.pages⟩):=by unfold Qd.shut;rw[q]
 have y:∀ k:Int,k≠u.r->(M.h.shut a).2.place k=M.h.place k:=fun k b=>by
  rw[w];simp only
  rw[Qd.place_set (by rw[F];exact(Zi V).1),Xr (fun e=>b (by rw[e,<-n,F];simp))]
 unfold QbW;rw[Zv (by omega)]
 unfold IM.mem;have D:QQ M.one.top.v x.a=some a:=W;rw[D]
 simp only
 rw[Xs C]
 show ∃ M',(if (M.h.shut a).1 then some { M.one with h:=(M.h.shut a).2 } else none)=some M'/\QbN m M';rw[Xs (by rw[w])]
 refine⟨_,Z,.inr ⟨g,fn,bl,_,I.on hx Z Z Z Z ?_ (I.st.shut a) ?_⟩⟩
 ·rw[R]
  have d:∀ k,(s.H.set j false).getD k false=true->k≠j/\s.H.getD k false=true:=fun k b=>by
   by_cases e:k=j
   ·subst e;simp[List.getD,J] at b
   ·refine⟨e,?_⟩
    simpa[List.getD,List.getElem?_set_ne (Ne.symm e)] using b
  refine⟨by simpa using I.fr.rl,I.fr.pos,fun k b=>?_,fun k l b U=>I.fr.dist k l (d k b).2 (d l U).2,I.fr.vl,I.fr.val⟩
  obtain⟨k1,P⟩:=d k b
  obtain⟨p',B⟩:=I.fr.held k P
  exact⟨p',by rw[y _ (fun e=>k1 (I.fr.dist k j P Q (by rw[e,o])))];exact B⟩
 ·rw[R]
  refine I.stk.keep (fun _ _ _ h=>h) (fun k b E=>?_) (fun k b=>?_) (fun k _=>rfl)
  ·have:k≠u.r:=fun e=>b ⟨j,Q,z,by rw[e,o]⟩
   show ∃ p,(M.h.shut a).2.place k=some p;rw[y k this];exact E
  ·obtain⟨l,K,l2,l3⟩:=b
   refine .inl ⟨l,?_,l2,l3⟩;by_cases e:l=j
   ·subst e;simp[List.getD,J] at K
   ·simpa[List.getD,List.getElem?_set_ne (Ne.symm e)] using K
theorem Qke (I:Inv m g M fn bl s) (hx:bl.code[M.top.i]?=some x) (hc:s.code x=0) (S:x.op=3) (hJ:s.f.regs<=s.H.length):QbW m op M x:=by
 have V:=QbT (s:=s) S;have h0:=(QM hc).2.1;have U:¬ s.H.length=16:=fun e=>by rw[V,Xs e] at h0;cases h0
 rw[Xr U] at V
 unfold QbW IM.ins;rw[Xr (by omega),Xr (by omega),Xs S]
 show ∃ M',(if M.h.open_.2.1 then some (IM.push { M.one with h:=M.h.open_.2.2,top:={ M.one.top with r:=M.top.r++[M.h.open_.1.region] } } [M.h.open_.1]) else some (M.one.over 6))=some M'/\QbN m M';by_cases ho:16<=M.h.live
 ·have:M.h.open_.2.1=false:=by unfold Qd.open_;rw[Xs ho]
  rw[Xr (by rw[this];decide)]
  exact⟨_,Z,IM.over_good _ _ _⟩
 ·have R:M.h.open_=(⟨2,M.h.L.length,0,0⟩,true,{ M.h with L:=M.h.L++[newP] }):=by unfold Qd.open_;rw[Xr ho]
  rw[Xs (by rw[R])]
  have C:M.h.open_.1.region=(M.h.L.length:Int):=by rw[R]
  have N:∀ k:Int,M.h.open_.2.2.place k=if k=M.h.L.length then some newP else M.h.place k:=fun k=>by
   rw[R];exact Qd.place_push M.h newP k M.h.left
  have l:∀ k p,M.h.place k=some p->∃ p,M.h.open_.2.2.place k=some p:=fun k p e=>by
   rw[N];split
   ·exact⟨_,Z⟩
   ·exact⟨p,e⟩
  have o:M.h.place (M.h.L.length:Int)=none:=by
   rw[Qd.place_nat,Xk Ze]
  have A:(s.next x).H=s.H++[true]:=by unfold JSt.next;simp only;rw[Xs S]
  have G:(s.next x).L=s.L++[mkT 2 s.H.length []]:=by unfold JSt.next;simp only;rw[V]
  have D:=I.fr.rl
  have d:∀ k,k<s.H.length->(M.top.r++[(M.h.L.length:Int)]).getD k 0=M.top.r.getD k 0:=fun k c=>by
   simp[List.getD,List.getElem?_append_left (show k<M.top.r.length by omega)]
  have n:(M.top.r++[(M.h.L.length:Int)]).getD s.H.length 0=M.h.L.length:=by
   simp[List.getD,<-D]
  have z:∀ k,(s.H++[true]).getD k false=true->(k<s.H.length/\s.H.getD k false=true)\/k=s.H.length:=fun k c=>by
   rcases Nat.lt_trichotomy k s.H.length with e | e | e
   ·refine .inl ⟨e,?_⟩;simpa[List.getD,List.getElem?_append_left e] using c
   ·exact .inr e
   ·rw[Qam _ (by simp;omega)] at c;cases c
  have E:∀ {t u:TT 6},rtm M.top.r t=some u->rtm (M.top.r++[(M.h.L.length:Int)]) t=some u:=fun {t u} hu=>by
   refine TT.ren_more (fun k q q' w=>?_) hu;unfold ZI at w |-;by_cases c:k=1
   ·rw[Xs c] at w |-;exact w
   ·rw[Xr c] at w |-
    by_cases hb:q<0\/(M.top.r.length:Int)<=q
    ·rw[Xs hb] at w;cases w
    ·rw[Xr hb] at w
     rw[Xr (by simp;omega)]
     have e:=d q.toNat (by omega);simp only at w |-
     rw[e]
     exact w
  refine⟨_,Z,.inr ⟨g,fn,bl,_,I.on hx Z Z Z Z ?_ I.st.open ?_⟩⟩
  ·show FrT g M.h.open_.2.2 (s.next x) (M.top.v++[M.h.open_.1]) (M.top.r++[M.h.open_.1.region]);rw[C]
   refine⟨by rw[A];simp[D],fun k c=>?_,fun k c=>?_,fun j k hj c e=>?_,by rw[G];simp[I.fr.vl],fun j t y B F=>?_⟩
   ·rcases List.mem_append.1 c with e | e
    ·exact I.fr.pos k e
    ·simp at e;omega
   ·rw[A] at c
    rcases z k c with ⟨e1,e2⟩ | e
    ·rw[d k e1];obtain⟨p,P⟩:=I.fr.held k e2;exact l _ p P
    ·rw[e,n,N,Xs Z];exact⟨_,Z⟩
   ·rw[A] at hj c
    have K:∀ i,s.H.getD i false=true->i<s.H.length->M.top.r.getD i 0≠(M.h.L.length:Int):=fun i hi hl e=>by
     obtain⟨p,P⟩:=I.fr.held i hi
     rw[e,o] at P;cases P
    rcases z j hj with ⟨J,O⟩ | a<;>rcases z k c with ⟨T,b2⟩ | b
    ·rw[d j J,d k T] at e;exact I.fr.dist j k O b2 e
    ·rw[d j J,b,n] at e;exact absurd e (K j O J)
    ·rw[d k T,a,n] at e;exact absurd e.symm (K k b2 T)
    ·rw[a,b]
   ·rw[G] at B
    rcases Nat.lt_or_ge j s.L.length with e | e
    ·rw[XP e] at B
     rw[XP (by rw[I.fr.vl];exact e)] at F
     obtain⟨u,u1,u2⟩:=I.fr.val j t y B F
     exact⟨u,E u1,u2⟩
    ·rw[XQ e] at B
     rw[XQ (by rw[I.fr.vl];exact e),I.fr.vl] at F
     have W:j - s.L.length=0:=by have:=(Zi B).1;simp at this;omega
     rw[W] at B F
     simp at B F
     subst B F;refine⟨mkT 2 (M.h.L.length:Int) [],?_,.inr (.inl ⟨Z,by rw[R],by rw[C];rfl⟩)⟩
     refine ZT (t:=(mkT 2 (s.H.length:Int) []:TT 6)) ?_ Z;show ZI _ _ 2 (s.H.length:Int)=_;unfold ZI;rw[Xr (by decide),Xr (by simp[D];omega)]
     simp only[Int.toNat_natCast]
     rw[n,Xr (by omega)]
  ·show Stk m g M.h.open_.2.2 (Own (s.next x) (M.top.r++[M.h.open_.1.region])) fn M.top.f (M.top.r++[M.h.open_.1.region]) M.rest;rw[C]
   have X:=I.mf.2;refine I.stk.keep (fun _ _ _ h=>h) (fun k _ ⟨p,e⟩=>l k p e) (fun k c=>?_) (fun k c=>?_)
   ·obtain⟨j,j1,j2,Q⟩:=c
    rw[A] at j1
    rcases z j j1 with ⟨J,O⟩ | a
    ·rw[d j J] at Q;exact .inl ⟨j,O,j2,Q⟩
    ·rw[a,n] at Q;exact .inr (by rw[<-Q];exact o)
   ·rcases Nat.lt_or_ge k s.H.length with e | e
    ·exact d k e
    ·rw[<-X] at c;omega
theorem QeM (F:FrT g h s v r):∀ {l:List Int},(∀ k∈l,hHas s.H k=true)->∃ r',QbO r l=some r'/\r'.length=l.length/\(∀ j,j<l.length->r'.getD j 0=r.getD (l.getD j 0).toNat 0)/\∀ k∈r',0<=k
 | [],_=>⟨[],Z,Z,fun j d=>by simp at d,fun k b=>by simp at b⟩
 | k::l,hl=>by
   obtain⟨r',o,f,i,m⟩:=QeM F (l:=l) (fun z c=>hl z (by simp[c]))
   have b:=hl k (by simp);unfold hHas at b;simp only[Bool.and_eq_true,decide_eq_true_eq] at b
   have a:k.toNat<r.length:=by
    rw[F.rl]
    rcases Nat.lt_or_ge k.toNat s.H.length with e | e
    ·exact e
    ·rw[Qam _ e] at b;exact absurd b.2 (by decide)
   have n:Ql4 r k=some r[k.toNat]:=by unfold Ql4;rw[Xr (by omega)];exact Zg a
   refine⟨r[k.toNat]::r',by simp only[QbO,n,o],by simp[f],fun j d=>?_,fun z c=>?_⟩
   ·cases j with
    | zero=>simp[List.getD,Zg a]
    | succ j=>have:=i j (by simpa using d);simpa[List.getD] using this
   ·rcases List.mem_cons.1 c with e | e
    ·rw[e];exact F.pos _ (List.getElem_mem a)
    ·exact m z e
theorem Qej {r r':List Int}(x:n<=l.length) (h:n<=r'.length) (o:∀ j,j<n->0<=l.getD j 0/\(l.getD j 0).toNat<r.length) (f:∀ k∈r,0<=k) (m:∀ j,j<n->r'.getD j 0=r.getD (l.getD j 0).toNat 0){t d:TT 6}(g:t.ren n (fun i=>l.getD i 0)=some d):∃ u,rtm r d=some u/\t.ren n (fun i=>r'.getD i 0)=some u:=by
 refine TT.ren_comp (fun k q w a=>?_) g;unfold ZI at a;by_cases b:k=1
 ·rw[Xs b] at a;cases a
  exact⟨q,by unfold ZI;rw[Xs b],by unfold ZI;rw[Xs b]⟩
 ·rw[Xr b] at a
  by_cases c:q<0\/(n:Int)<=q
  ·rw[Xs c] at a;cases a
  ·rw[Xr c] at a
   obtain⟨v,e⟩:=o q.toNat (by omega)
   have p:=m q.toNat (by omega);simp only at a
   rw[Xr (by omega)] at a
   cases a
   have s:0<=r.getD (l.getD q.toNat 0).toNat 0:=by
    have:r.getD (l.getD q.toNat 0).toNat 0=r[(l.getD q.toNat 0).toNat]:=by rw[List.getD_eq_getElem?_getD,Zg e];rfl
    rw[this];exact f _ (List.getElem_mem e)
   refine⟨r.getD (l.getD q.toNat 0).toNat 0,?_,?_⟩
   ·unfold ZI;rw[Xr b,Xr (by omega)]
    simp only
    rw[Xr (by omega)]
   ·unfold ZI;rw[Xr b,Xr c]
    simp only
    rw[p,Xr (by omega)]
theorem QfC (F:FrT g h s v r){l:List Int}:∀ {a:List Int}{ts:List (TT 6)},a.length=ts.length->Qu (fun p:Int × TT 6=>s.arg l p.1 p.2) (a.zip ts)=0->∃ xs,Q8 v a=some xs/\xs.length=ts.length/\∀ (j:Nat) (y:Q1) (t:TT 6),xs[j]?=some y->ts[j]?=some t->∃ us u,t.ren l.length (fun i=>l.getD i 0)=some us/\rtm r us=some u/\Qea g y u
 | [],ts,hl,h0=>by
   have:ts=[]:=Xf.1 hl.symm
   subst this;exact⟨[],Z,Z,fun j y t c=>by simp at c⟩
 | k::a,[],hl,h0=>by simp at hl
 | k::a,t::ts,hl,h0=>by
   have f:=QF.1 h0;obtain⟨xs,A,n,q⟩:=QfC F (a:=a) (ts:=ts) (by simpa using hl) (QF.2 (fun p o=>f p (by simp[o])))
   have b:s.arg l k t=0:=f (k,t) (by simp);unfold JSt.arg at b
   cases ek:s.at k with
   | none=>rw[ek] at b;cases b
   | some us =>
     rw[ek] at b
     simp only at b
     by_cases m:ZR (t.ren l.length (fun i=>l.getD i 0)=some us)=true
     ·have e:t.ren l.length (fun i=>l.getD i 0)=some us:=by simpa[ZR] using m
      obtain⟨y,u,z,x,C⟩:=F.at ek
      refine⟨y::xs,by simp only[Q8,z,A],by simp[n],fun j B w c d=>?_⟩
      cases j with
      | zero=>simp at c d;subst c d;exact⟨us,u,e,x,C⟩
      | succ j=>exact q j B w (by simpa using c) (by simpa using d)
     ·rw[Xr m] at b;cases b
theorem Qby (a:n<=16) (k:Nat):(QbV (n:Int)).getD k false=true↔k<n:=by
 unfold QbV
 have:(min (n:Int) 16).toNat=n:=by omega
 rw[this]
 rcases Nat.lt_or_ge k n with e | e
 ·simp[List.getD,e]
 ·simp[List.getD,e]
theorem FrT.hand (F:FrT g h s v r){a:List Int}{ts:List (TT 6)}(p:l.length<=16) (B:∀ k∈l,hHas s.H k=true) (w:l.Nodup) (q:s.args a ts l=0) (N:List (MFunc 6)) (K:MFunc 6) :
 ∃ r' v',QbO r l=some r'/\Q8 v a=some v'/\r'.length=l.length/\v'.length=ts.length/\(∀ j,j<l.length->r'.getD j 0=r.getD (l.getD j 0).toNat 0)/\FrT g h ⟨N,K,QbV (l.length:Int),ts⟩ v' r':=by
 obtain⟨r',T,C,x,O⟩:=QeM F B
 unfold JSt.args at q;by_cases i:a.length=ts.length
 ·rw[Xs i] at q
  obtain⟨v',R,D,I⟩:=QfC F i q
  have d:∀ j,j<l.length->0<=l.getD j 0/\s.H.getD (l.getD j 0).toNat false=true/\(l.getD j 0).toNat<r.length:=fun j o=>by
   have Q:l.getD j 0∈l:=by simp only[List.getD,Zg o,Option.getD_some];exact List.getElem_mem o
   have m:=B _ Q;unfold hHas at m;simp only[Bool.and_eq_true,decide_eq_true_eq] at m
   refine⟨m.1,m.2,?_⟩
   rw[F.rl]
   rcases Nat.lt_or_ge (l.getD j 0).toNat s.H.length with e | e
   ·exact e
   ·have E:=m.2;rw[Qam _ e] at E;cases E
  refine⟨r',v',T,R,C,D,x,⟨?_,O,fun k m=>?_,fun j k o m e=>?_,D,fun j t y G J=>?_⟩⟩
  ·show r'.length=(QbV (l.length:Int)).length
   have:=Qer (n:=(l.length:Int)) ⟨by omega,by omega⟩
   omega
  ·have b:=(Qby p k).1 m;rw[x k b]
   exact F.held _ (d k b).2.1
  ·have f:=(Qby p j).1 o;have b:=(Qby p k).1 m;rw[x j f,x k b] at e
   have:=F.dist _ _ (d j f).2.1 (d k b).2.1 e
   have z:l.getD j 0=l.getD k 0:=by have:=(d j f).1;have:=(d k b).1;omega
   simp only[List.getD,Zg f,Zg b,Option.getD_some] at z
   rcases Nat.lt_trichotomy j k with c | c | c
   ·exact absurd z (List.pairwise_iff_getElem.1 w j k f b c)
   ·exact c
   ·exact absurd z.symm (List.pairwise_iff_getElem.1 w k j b f c)
  ·obtain⟨U,u,P,A,M⟩:=I j y t J G
   obtain⟨V,L,S⟩:=Qej Ze (by omega) (fun j o=>⟨(d j o).1,(d j o).2.2⟩) F.pos x P
   rw[L] at A;cases A
   exact⟨_,by show t.ren r'.length _=_;rw[C];exact S,M⟩
 ·rw[Xr i] at q;cases q
theorem Qbh {H:List Bool}:∀ {l ahead:List Int},QL H ahead l=0->l.Nodup/\∀ k∈l,k ∉ ahead
 | [],_,_=>⟨by simp,fun k a=>by simp at a⟩
 | k::l,ahead,h=>by
   simp only[QL] at h
   split at h
   ·split at h
    ·cases h
    ·rename_i g
     obtain⟨f,c⟩:=Qbh h
     refine⟨List.nodup_cons.2 ⟨fun a=>c k a (by simp),f⟩,fun z d=>?_⟩
     rcases List.mem_cons.1 d with e | e
     ·rw[e];exact fun b=>g (inB_iff.2 b)
     ·exact fun b=>c z e (by simp[b])
   ·cases h
theorem QcR {H:List Bool}:∀ {l ahead:List Int},hPass H ahead l=0->l.Nodup/\(∀ k∈l,k ∉ ahead)/\∀ k∈l,hHas H k=true
 | [],_,_=>⟨by simp,fun k a=>by simp at a,fun k a=>by simp at a⟩
 | k::l,ahead,h=>by
   simp only[hPass] at h
   split at h
   ·rename_i d
    split at h
    ·cases h
    ·rename_i j
     obtain⟨i,f,g⟩:=QcR h
     refine⟨List.nodup_cons.2 ⟨fun a=>f k a (by simp),i⟩,fun z b=>?_,fun z b=>?_⟩
     ·rcases List.mem_cons.1 b with e | e
      ·rw[e];exact fun c=>j (inB_iff.2 c)
      ·exact fun c=>f z e (by simp[c])
     ·rcases List.mem_cons.1 b with e | e
      ·rw[e];exact d
      ·exact g z e
   ·cases h
theorem Qaa (g:(modFault m).1=0){f:MFunc 6}(l:m[k]?=some f):∃ b,f.blocks[0]?=some b/\b.regs=f.regs/\b.params=f.params/\f.right m.length/\(k=0->f.regs=0/\f.params.length=0/\∀ t∈f.results,t.kind=1):=by
 have j:=(Zn g).2 f (Zm l);obtain⟨b,n⟩:∃ b,f.blocks[0]?=some b:=⟨_,Zg j.many.1⟩
 unfold modFault at g;split at g
 ·cases g
 have a:=QR g k f l;rw[XK] at a
 unfold MFunc.fault at a;split at a
 ·cases a
 split at a
 ·rename_i c;exact absurd a c
 split at a
 ·rename_i c;exact absurd a c
 split at a
 ·cases a
 split at a
 ·cases a
 rename_i h
 have c:=QR a 0 b n;simp only[Nat.zero_add] at c
 unfold MBlock.fault at c;split at c
 ·cases c
 split at c
 ·rename_i q;exact absurd c q
 split at c
 ·cases c
 rename_i i
 have d:b.regs=f.regs/\Qc0 b.params f.params=true:=by
  constructor
  ·exact Xq.1 fun e=>i ⟨Z,.inl e⟩
  ·cases e:Qc0 b.params f.params with
   | true=>rfl
   | false=>exact absurd ⟨Z,.inr e⟩ i
 refine⟨b,n,d.1,QcL.1 d.2,j,fun p=>?_⟩
 have:f.regs=0/\f.params.length=0/\f.results.all (fun t=>t.kind==1)=true:=Xq.1 fun e=>h ⟨p,e⟩
 refine⟨this.1,this.2.1,fun t o=>?_⟩
 have:=Xe.1 this.2.2 t o
 simpa using this
theorem QiO (O:(modFault m).1=0) (I:Inv m g M fn bl s) (B:bl.code[M.top.i]?=some x) (K:s.code x=0) (e:x.op=14):QbW m op M x:=by
 obtain⟨a,l,-⟩:=QM K
 have q:0<=x.k/\x.k<m.length/\x.regs.length<=6:=by
  rw[I.mf.1] at a
  unfold Qs.form at a;repeat' split at a
  all_goals first | omega | cases a
 obtain⟨d,c⟩:∃ d,m[x.k.toNat]?=some d:=⟨_,Zg (by omega)⟩
 rw[Qa7 e,I.mf.1,c] at l
 simp only at l
 by_cases p:(x.regs.length:Int)=d.regs
 ·rw[Xs p] at l
  obtain⟨A,E⟩:=QD l
  obtain⟨f,u,C,P,T,-⟩:=Qaa O c
  obtain⟨y,D,R,G,U,N,S,F⟩:=I.fr.hand (by omega) (ZA A) (Qbh A).1 E m d
  unfold QbW IM.ins;rw[Xr (by omega),Xr (by omega),Xr (by omega),Xr (by omega),Xr (by omega),Xs e]
  unfold IM.call;have t:QbO M.one.top.r x.regs=some y:=R;have z:Q8 M.one.top.v x.args=some D:=G;rw[t,z,c]
  simp only
  rw[Xs ⟨by omega,N⟩]
  by_cases o:M.rest.length+1=40
  ·rw[Xs o];exact⟨_,Z,IM.over_good _ _ _⟩
  ·rw[Xr o]
   refine⟨_,Z,.inr ⟨g,d,f,JSt.start m d f,⟨c,u,Xb _,Z,?_,I.st,?_⟩⟩⟩
   ·show FrT g M.h ⟨m,d,QbV f.regs,f.params⟩ D y;rw[C,P,<-p];exact F
   ·have L:=(Zi B).1
    have b:∀ k,¬ Own (JSt.start m d f) y k:=fun k ⟨j,J,Q,V⟩=>by
     have n:(QbV f.regs).getD j false=true:=J;rw[C,<-p] at n
     have:=(Qby (by omega) j).1 n
     have H:d.regs<=j:=Q;omega
    refine⟨fn,bl,x,s,I.hf,I.hb,Nat.succ_pos _,by simpa using B,e,by show x.k=((x.k.toNat:Nat):Int);omega,by simpa using I.hs,I.fr,fun k q=>S k (by omega),fun k _=>b _,?_⟩
    refine I.stk.keep (fun _ _ _ h=>h) (fun k _ h=>h) (fun k q=>?_) (fun k _=>rfl);rcases q with w | w
    ·exact absurd w (b k)
    ·exact .inl w
 ·rw[Xr p] at l;cases l
end
theorem JSt.next_len (s:JSt) (x:Qs):s.H.length<=(s.next x).H.length:=by
 unfold JSt.next
 simp only
 split
 ·simp
 ·split
  ·simp
  ·exact Ze
theorem JSt.upto_len:∀ (l:List Qs) (s:JSt),s.H.length<=(s.upto l).H.length
 | [],s=>Ze
 | x::l,s=>Zt (s.next_len x) (JSt.upto_len l (s.next x))
section
variable {m:List (MFunc 6)}{g g':Sig}{M M':IM}{fn:MFunc 6}{bl:MBlock 6}{s:JSt}{x:Qs}{op:Int->Int->Int->Option Int}{h:Qd}{v:List Q1}{r:List Int}
theorem Ql6 (d:(modFault m).1=0)(c:m[k]?=some fn) (e:fn.blocks[q]?=some bl) (l:List Qs):fn.regs<=((JSt.start m fn bl).upto l).H.length:=by
 have b:=(Zn d).2 fn (Zm c);have a:=b.blocks bl (Zm e);have g:=JSt.upto_len l (JSt.start m fn bl);have h:=Qer (n:=bl.regs) ⟨by have:=b.regs;have:=a.regs;omega,a.regs.2⟩;have f:(JSt.start m fn bl).H.length=(QbV bl.regs).length:=rfl
 have:=a.regs
 omega
theorem Inv.kept (a:(modFault m).1=0) (I:Inv m g M fn bl s):s.f.regs<=s.H.length:=by
 rw[I.mf.2,I.hs];exact Ql6 a I.hf I.hb _
theorem Qg0 (h:Qdo n regs=0):∀ i,i<n->regs.getD i 0=(i:Int):=by
 unfold Qdo at h;split at h
 ·rename_i b
  intro i a
  have:=Xe.1 b i (List.mem_range.2 a)
  simpa using this
 ·cases h
theorem QfW (S:(modFault m).1=0) (I:Inv m g M fn bl s){t:MTo}(a:s.to t=0) (A:0<=t.block/\t.block<fn.blocks.length/\t.regs.length<=16):∃ M',IM.to fn { M with fuel:=M.fuel+1 } t=some M'/\QbN m M':=by
 obtain⟨b,q⟩:∃ b,fn.blocks[t.block.toNat]?=some b:=⟨_,Zg (by omega)⟩
 unfold JSt.to at a;rw[I.mf.2,q] at a
 simp only at a
 by_cases p:(t.regs.length:Int)=b.regs
 ·rw[Xs p] at a
  obtain⟨P,a⟩:=QD a
  obtain⟨W,G⟩:=QD a
  have o:=Qg0 P;obtain⟨u,-,D⟩:=QcR W
  obtain⟨v,R,V,J,e3,Q,E,F⟩:=I.fr.hand A.2.2 D u G m fn
  have C:=(Zn S).2 fn (Zm I.hf);have L:=C.blocks b (Zm q);have r1:=C.regs;have X:=L.regs;have y:=I.mf.2;unfold IM.to;rw[q]
  simp only
  rw[V,J]
  simp only
  rw[Xs ⟨by omega,Q⟩]
  refine⟨_,Z,.inr ⟨g,fn,b,JSt.start m fn b,⟨I.hf,q,Xb _,Z,?_,I.st,?_⟩⟩⟩
  ·show FrT g M.h ⟨m,fn,QbV b.regs,b.params⟩ R v;rw[<-p];exact F
  ·refine I.stk.keep (fun _ _ _ h=>h) (fun k _ h=>h) (fun k f=>?_) (fun k f=>?_)
   ·obtain⟨j,N,T,U⟩:=f
    have l:(QbV b.regs).getD j false=true:=N;rw[<-p] at l
    have i:=(Qby A.2.2 j).1 l;have K:fn.regs<=j:=T;have w:v.getD j 0=k:=U;have x:t.regs.getD j 0∈t.regs:=by rw[List.getD_eq_getElem?_getD,Zg i];exact List.getElem_mem i
    have f:=D _ x;unfold hHas at f;simp only[Bool.and_eq_true,decide_eq_true_eq] at f
    refine .inl ⟨(t.regs.getD j 0).toNat,f.2,?_,by rw[<-E j i];exact w⟩;rw[y]
    refine Int.not_lt.1 fun O=>?_;have H:=o (t.regs.getD j 0).toNat (by omega);have d:(t.regs.getD j 0).toNat<t.regs.length:=by omega
    have e:t.regs.getD (t.regs.getD j 0).toNat 0=t.regs.getD j 0:=by rw[H];omega
    have n:(t.regs.getD j 0).toNat≠j:=by omega
    generalize (t.regs.getD j 0).toNat=z at d e n;rw[List.getD_eq_getElem?_getD,List.getD_eq_getElem?_getD,Zg i,Zg d] at e
    have B:t.regs[z]=t.regs[j]:=e;rcases Nat.lt_trichotomy z j with c | c | c
    ·exact List.pairwise_iff_getElem.1 u z j d i c B
    ·exact n c
    ·exact List.pairwise_iff_getElem.1 u j z i d c B.symm
   ·show v.getD k 0=M.top.r.getD k 0;rw[E k (by omega),o k (by omega)]
    rfl
 ·rw[Xr p] at a;cases a
theorem Qe8 {v:List Q1}:∀ {a:List Int}{xs:List Q1},Q8 v a=some xs->(∀ y∈xs,y.kind=1)->∃ ns,Qce v a=some ns
 | [],xs,_,_=>⟨[],Z⟩
 | k::a,xs,h,hk=>by
   simp only[Q8] at h
   cases h1:QQ v k with
   | none=>rw[h1] at h;cases h
   | some y =>
     rw[h1] at h
     simp only at h
     cases h2:Q8 v a with
     | none=>rw[h2] at h;cases h
     | some ys =>
       rw[h2] at h
       simp only at h
       cases h
       obtain⟨ns,b⟩:=Qe8 h2 (fun z c=>hk z (by simp[c]))
       have:QS v k=some y.n:=by unfold QS;rw[h1];simp only;rw[Xs (hk y (by simp))]
       exact⟨y.n::ns,by simp only[Qce,this,b]⟩
theorem Qgn (n:Nat):(Qhz n).length=n:=by simp[Qhz]
theorem Qgz (h:j<n):(Qhz n).getD j 0=(j:Int):=by simp[Qhz,List.getD,h]
theorem QjY (R:(Qr m).1=0) (I:Inv m g M fn bl s){e:ZE}(L:s.fin e=0) (h3:e.op=3):∃ M',IM.endd fn { M with fuel:=M.fuel+1 } e=some M'/\QbN m M':=by
 obtain⟨hM,N⟩:=Qb5 R
 have C:=I.mf.2;unfold JSt.fin at L;split at L
 ·rename_i hn;exact absurd L hn
 rw[Xr (by omega),Xr (by omega)] at L
 obtain⟨J,D⟩:=QD L
 rw[C] at J D
 have aj:∀ k,¬ Own s M.top.r k:=fun k ⟨j,V,j2,j3⟩=>by
  split at D
  ·rename_i hq
   have z:(j:Int)∈Qan s.H:=(QcF s.H _).2 (by unfold hHas;simp only[Int.toNat_natCast,V,Bool.and_true];simp)
   have:=Xe.1 hq _ z
   simp only[decide_eq_true_eq] at this
   rw[C] at j2;omega
  ·cases D
 unfold JSt.args at J;by_cases p:e.args.length=fn.results.length
 ·rw[Xs p] at J
  obtain⟨xs,f1,f2,f3⟩:=QfC I.fr p J
  rw[Qgn] at f3
  have P:=(Zn hM).2 fn (Zm I.hf);have B:=I.kept hM;rw[C,<-I.fr.rl] at B
  unfold IM.endd;rw[Xr (by omega),Xr (by omega)]
  show ∃ M',(match Q8 M.top.v e.args with | none=>none | some v=>_)=some M'/\QbN m M';rw[f1]
  simp only
  rw[Xs f2]
  cases er:M.rest with
  | nil =>
    have S:=I.stk;rw[er] at S
    have G:M.top.f=0:=S;obtain⟨b0,-,-,-,-,hz⟩:=Qaa hM I.hf
    obtain⟨-,-,hz⟩:=hz G
    obtain⟨ns,W⟩:=Qe8 f1 (fun y hy=>by
     obtain⟨j,q⟩:=List.mem_iff_getElem?.1 hy
     obtain⟨t,ht⟩:∃ t,fn.results[j]?=some t:=⟨_,Zg (by rw[<-f2];exact(Zi q).1)⟩
     obtain⟨us,u,U,T,a3⟩:=f3 j y t q ht
     rw[a3.kind,QgH T,show us.kind=t.kind from (Zo U).1]
     exact hz t (Zm ht))
    simp only
    rw[W]
    exact⟨_,Z,.inl Z⟩
  | cons d rest =>
    have S:=I.stk;rw[er] at S
    obtain⟨K,a,x,A,d1,d2,d3,d4,d5,d6,d7,F,d8,d9,af⟩:=S
    simp only
    have O:=JSt.upto_mf (a.code.take (d.i - 1)) (JSt.start m K a);rw[<-d7] at O
    have hc:=(N _ K _ a d1 d2).1 (d.i - 1) x d4;rw[<-d7] at hc
    have G:=(QM hc).2.1;have z:=Qa7 (s:=A) d5;have Q:A.m=m:=O.1;have ab:m[x.k.toNat]?=some fn:=by rw[d6,XT];exact I.hf
    rw[Q,ab] at z
    simp only at z
    have X:(x.regs.length:Int)=fn.regs:=Xq.1 fun ad=>by rw[z,Xr ad] at G;cases G
    rw[Xs X] at z
    rw[z] at G
    obtain⟨ae,-⟩:=QD G
    have al:=(Zi d4).1
    have w:∀ j,j<x.regs.length->0<=x.regs.getD j 0/\(x.regs.getD j 0).toNat<d.r.length:=fun j q=>by
     have ah:x.regs.getD j 0∈x.regs:=by rw[List.getD_eq_getElem?_getD,Zg q];exact List.getElem_mem q
     have E:=ZA ae _ ah;unfold hHas at E;simp only[Bool.and_eq_true,decide_eq_true_eq] at E
     refine⟨E.1,?_⟩
     rw[F.rl]
     rcases Nat.lt_or_ge (x.regs.getD j 0).toNat A.H.length with c | c
     ·exact c
     ·have h2:=E.2;rw[Qam _ c] at h2;cases h2
    have ak:=P.regs;have hn:fn.regs.toNat=x.regs.length:=by omega
    refine⟨_,Z,.inr ⟨g,K,a,A.next x,⟨d1,d2,by show d.i<=_;omega,?_,?_,I.st,?_⟩⟩⟩
    ·show A.next x=(JSt.start m K a).upto (a.code.take d.i)
     have:d.i=d.i - 1+1:=by omega
     rw[this,XV,d4]
     show A.next x=(JSt.start m K a).upto (a.code.take (d.i - 1)++[x])
     rw[JSt.upto_snoc,<-d7]
    ·show FrT g M.h (A.next x) (d.v++xs) d.r;refine F.push (ts:=fn.results.map (Qai x.regs)) (by simp[f2]) (fun j y t' hy o=>?_) (Qa5 (by omega) (by omega)) (by unfold JSt.next;simp only;rw[z]);rw[XS] at o
     cases et:fn.results[j]? with
     | none=>rw[et] at o;cases o
     | some t =>
       rw[et] at o
       have ai:Qai x.regs t=t':=Xn o;obtain⟨us,u,U,T,a3⟩:=f3 j y t hy et
       have ac:=P.results.2 t (Zm et);obtain⟨aa,c1,-⟩:=QfE (m:=x.regs.length) (too:=fun i=>x.regs.getD i 0) (b:=(d.r.length:Int)) (by omega) (fun i hi=>⟨(w i hi).1,by have:=(w i hi).1;have:=(w i hi).2;omega⟩) ac
       have ag:t'=aa:=by rw[<-ai];unfold Qai;rw[c1];rfl
       obtain⟨u1,g1,g2⟩:=Qej (l:=x.regs) (r:=d.r) (r':=M.top.r) (n:=x.regs.length) Ze (by omega) w F.pos (fun j q=>d8 j (by omega)) c1
       rw[hn] at U
       obtain⟨u2,g3,g4⟩:=Qej (l:=Qhz x.regs.length) (r:=M.top.r) (r':=M.top.r) (n:=x.regs.length) (by rw[Qgn];exact Ze) (by omega) (fun j q=>by rw[Qgz q];exact⟨by omega,by simp;omega⟩) I.fr.pos (fun j q=>by rw[Qgz q];rfl) U
       rw[g3] at T;cases T
       rw[g2] at g4;cases g4
       exact⟨_,by rw[ag];exact g1,a3⟩
    ·show Stk m g M.h (Own (A.next x) d.r) K d.f d.r rest;refine af.keep (fun _ _ _ h=>h) (fun k _ h=>h) (fun k E=>?_) (fun k _=>rfl);obtain⟨j,V,j2,j3⟩:=E
     rw[Qa5 (by omega) (by omega)] at V
     exact .inl (.inr ⟨j,V,j2,j3⟩)
 ·rw[Xr p] at J;cases J
theorem QjW (R:(Qr m).1=0) (I:Inv m g M fn bl s){e:ZE}(b:s.fin e=0):∃ M',IM.endd fn { M with fuel:=M.fuel+1 } e=some M'/\QbN m M':=by
 have p:=(Qb5 R).1;have i:=b;have q:=I.mf.2;unfold JSt.fin at b;split at b
 ·rename_i o;exact absurd b o
 rename_i a
 have a:=Xq.1 a;rw[q] at a
 have y:(e.op=1\/e.op=2\/e.op=3)/\(e.op≠3->0<=e.yes.block/\e.yes.block<fn.blocks.length/\e.yes.regs.length<=16)/\(e.op=2->0<=e.no.block/\e.no.block<fn.blocks.length/\e.no.regs.length<=16):=by
  unfold ZE.form at a;split at a
  ·cases a
  split at a
  ·cases a
  split at a
  ·cases a
  split at a
  ·rename_i f;exact absurd a f
  rename_i l h u f
  have f:=Xq.1 f
  have d:∀ (t:MTo),t.form fn.blocks.length true=0->0<=t.block/\t.block<fn.blocks.length/\t.regs.length<=16:=fun t c=>by
   unfold MTo.form at c;rw[Xr (by decide)] at c
   split at c
   ·cases c
   split at c
   ·cases c
   omega
  exact⟨by omega,fun j=>d _ (by simpa[j] using f),fun k=>d _ (by simpa[k] using a)⟩
 obtain⟨w,r,o⟩:=y
 rcases w with l | h | u
 ·rw[Xs l] at b
  unfold IM.endd;rw[Xs l]
  exact QfW p I b (r (by omega))
 ·rw[Xr (by omega),Xs h] at b
  obtain⟨A,b⟩:=QD b
  obtain⟨z,B⟩:=QD b
  obtain⟨n,x⟩:=I.fr.num A
  unfold IM.endd;rw[Xr (by omega),Xs h]
  simp only[x]
  by_cases v:n=0
  ·rw[Xs v];exact QfW p I B (o h)
  ·rw[Xr v];exact QfW p I z (r (by omega))
 ·exact QjY R I i u
theorem QkF (R:(Qr m).1=0) (I:Inv m g M fn bl s) (b:bl.code[M.top.i]?=some x):QbW m op M x:=by
 obtain⟨h,d⟩:=Qb5 R
 have a:=(d _ fn _ bl I.hf I.hb).1 M.top.i x b;rw[<-I.hs] at a
 have j:1<=x.op/\x.op<=14:=by
  have f:=(QM a).1;unfold Qs.form at f;split at f
  ·cases f
  rename_i c
  unfold Q4 at c;by_cases e:1<=x.op/\x.op<=14
  ·exact e
  ·exfalso;apply c
   rw[Xr (by omega),Xr (by omega),Xr (by omega),Xr (by omega),Xr (by omega),Xr (by omega),Xr (by omega),Xr (by omega),Xr (by omega)]
   rfl
 have:x.op=1\/x.op=2\/x.op=3\/x.op=4\/x.op=5\/x.op=6\/x.op=7\/x.op=8\/x.op=9\/x.op=10\/x.op=11\/x.op=12\/x.op=13\/x.op=14:=by omega
 rcases this with e | e | e | e | e | e | e | e | e | e | e | e | e | e
 ·exact QjU I b a e
 ·exact QkS I b a e
 ·exact Qke I b a e (I.kept h)
 ·exact Qjj I b a e
 ·exact Qhv I b a e
 ·exact QjI I b a e
 ·exact QjP I b a e
 ·exact QgN I b a e
 ·exact QhL I b a e
 ·exact Qg4 I b a e
 ·exact QkU I b a e
 ·exact Qlw I b a e
 ·exact Qj2 I b a e
 ·exact QiO h I b a e
theorem Qjh (R:(Qr m).1=0) (I:Inv m g M fn bl s) (most:Nat):∃ M',IM.step m op most M=some M'/\QbN m M':=by
 unfold IM.step;by_cases b:M.fuel=most
 ·rw[Xs b];exact⟨_,Z,IM.over_good _ _ _⟩
 ·rw[Xr b,I.hf]
  simp only
  rw[I.hb]
  simp only
  cases hx:bl.code[M.top.i]? with
  | some x=>exact QkF R I hx
  | none =>
    have a:=((Qb5 R).2 _ fn _ bl I.hf I.hb).2;have d:M.top.i=bl.code.length:=by have:=I.hi;have:=List.getElem?_eq_none_iff.1 hx;omega
    have c:=I.hs;rw[d,List.take_length] at c
    rw[<-c] at a
    exact QjW R I a
theorem Qhq (R:(Qr m).1=0) (inp:List Int) (pages:Nat):QbN m (IM.start inp pages):=by
 obtain⟨d,-⟩:=Qb5 R
 obtain⟨f,c⟩:∃ f,m[0]?=some f:=⟨_,Zg (Zn d).1.1⟩
 obtain⟨b,l,o,i,-,h⟩:=Qaa d c
 obtain⟨n,q,-⟩:=h Z
 refine .inr ⟨_,f,b,JSt.start m f b,⟨c,l,Xb _,Z,?_,StT.new pages,Z⟩⟩;show FrT _ _ ⟨m,f,QbV b.regs,b.params⟩ [] [];have p:QbV b.regs=[]:=by rw[o,n];rfl
 have e:b.params=[]:=by rw[i];exact Xf.1 q
 rw[p,e]
 exact⟨Z,fun k a=>by simp at a,fun k a=>by simp[List.getD] at a,fun j k r=>by simp[List.getD] at r,Z,fun j t y g=>by simp at g⟩
def IM.steps (m:List (MFunc 6)) (op:Int->Int->Int->Option Int) (most:Nat):Nat->IM->Option IM
 | 0,M=>some M
 | n+1,M=>if M.done then some M else match M.step m op most with
   | none=>none
   | some M'=>M'.steps m op most n
end
section
variable {m:List (MFunc 6)}{op:Int->Int->Int->Option Int}{M M':IM}{R:RM}{x:Qs}{most:Nat}
theorem QmQ (R:(Qr m).1=0):Qmh m:=fun k p q l g i=>by
 obtain⟨s,c⟩:=Qb5 R
 obtain⟨o,d⟩:=c k p q l g i
 refine⟨fun x h=>?_,?_⟩
 ·obtain⟨j,r⟩:=List.mem_iff_getElem?.1 h
  have b:=(QM (o j x r)).1;unfold Qs.form at b;split at b
  ·cases b
  rename_i n
  split at b
  ·cases b
  split at b
  ·cases b
  split at b
  ·cases b
  rename_i t
  refine⟨?_,fun e=>by omega⟩
  refine Xq.1 fun f=>n ?_;unfold Q4;rw[Xr (by omega),Xr (by omega),Xr (by omega),Xr (by omega),Xr (by omega),Xr (by omega),Xr (by omega),Xr (by omega),Xr (by omega)]
  rfl
 ·unfold JSt.fin at d;split at d
  ·rename_i f;exact absurd d f
  ·rename_i a
   have a:=Xq.1 a;unfold ZE.form at a;split at a
   ·cases a
   ·omega
def Qfo (M:IM):Prop:=M.out.length<=2000/\M.rest.length<=39
theorem QkV (D:Qfo M){g:Q1 × Int × Qd}(h:IM.got M g=some M'):Qfo M':=by
 rcases Qcw h with ⟨-,rfl⟩|⟨-,rfl⟩<;>exact D
theorem Qk1 (D:Qfo M) (h:IM.mem M x=some M'):Qfo M':=by
 unfold IM.mem at h;repeat' split at h
 all_goals first | exact QkV D h | (cases h;done) | (cases h;exact D)
theorem QkD (D:Qfo M) (h:IM.ins m op M x=some M'):Qfo M':=by
 unfold IM.ins at h;split at h
 ·cases h;exact D
 split at h
 ·repeat' split at h
  all_goals first | (cases h;done) | (cases h;exact D)
 split at h
 ·repeat' split at h
  all_goals first | (cases h;done) | (cases h;exact D)
 split at h
 ·repeat' split at h
  all_goals first | (cases h;done) | (cases h;exact D)
 split at h
 ·split at h
  ·cases h
  ·split at h
   ·cases h;exact D
   ·rename_i a
    cases h
    have:=D.1
    exact⟨by simp;omega,D.2⟩
 split at h
 ·unfold IM.call at h;repeat' split at h
  all_goals first | (cases h;done) | (cases h;exact D) | skip
  rename_i a
  cases h
  have:=D.2
  exact⟨D.1,by simp;omega⟩
 ·exact Qk1 D h
theorem QhN (D:Qfo M){fn:MFunc 6}{t:MTo}(h:IM.to fn M t=some M'):Qfo M':=by
 unfold IM.to at h;repeat' split at h
 all_goals first | (cases h;done) | (cases h;exact D)
theorem Qh2 (D:Qfo M){fn:MFunc 6}{e:ZE}(h:IM.endd fn M e=some M'):Qfo M':=by
 unfold IM.endd at h;split at h
 ·exact QhN D h
 split at h
 ·split at h
  ·cases h
  ·split at h<;>exact QhN D h
 ·split at h
  ·cases h
  ·split at h
   ·split at h
    ·rename_i b
     cases h
     have a:=D.2;rw[b] at a
     exact⟨D.1,by simp at a;simp only[IM.push];omega⟩
    ·split at h
     ·cases h
     ·cases h;exact D
   ·cases h
theorem Qh7 (D:Qfo M) (h:IM.step m op most M=some M'):Qfo M':=by
 unfold IM.step at h;split at h
 ·cases h;exact D
 split at h
 ·cases h
 split at h
 ·cases h
 split at h
 ·exact QkD (M:={ M with fuel:=M.fuel+1,top:={ M.top with i:=M.top.i+1 } }) D h
 ·exact Qh2 (M:={ M with fuel:=M.fuel+1 }) D h
theorem Qhl (inp:List Int) (pages:Nat):Qfo (IM.start inp pages):=⟨by simp[IM.start],by simp[IM.start]⟩
theorem Qjc (H:(Qr m).1=0) (a:M.done=false) (G:QbN m M) (D:Qfo M) (S:Qew M R):∃ M' R',IM.step m op most M=some M'/\RM.step m op most R=some R'/\Qew M' R'/\QbN m M'/\Qfo M':=by
 rcases G with h | ⟨g,i,f,s,I⟩
 ·rw[a] at h;cases h
 ·obtain⟨M',e,c⟩:=Qjh (op:=op) H I most
  obtain⟨φ,π,S⟩:=S
  obtain⟨R',b,d⟩:=Qg8 (QmQ H) S a (by have:=D.2;omega) D.1 e
  exact⟨M',R',e,b,d,c,Qh7 D e⟩
theorem Qdv (H:(Qr m).1=0):∀ (n:Nat) (M:IM) (R:RM),QbN m M->Qfo M->Qew M R->∃ M' R',IM.steps m op most n M=some M'/\RM.steps m op most n R=some R'/\Qew M' R'/\QbN m M'/\Qfo M'
 | 0,M,R,G,D,S=>⟨M,R,Z,Z,S,G,D⟩
 | n+1,M,R,G,D,S=>by
   unfold IM.steps RM.steps;have a:R.done=M.done:=by obtain⟨φ,π,S⟩:=S;exact S.done
   by_cases b:M.done=true
   ·rw[Xs b,Xs (by rw[a];exact b)]
    exact⟨M,R,Z,Z,S,G,D⟩
   ·rw[Xr b,Xr (by rw[a];exact b)]
    obtain⟨M',R',e,c,g,d,f⟩:=Qjc (op:=op) (most:=most) H (by simpa using b) G D S
    rw[e,c]
    exact Qdv H n M' R' d f g
theorem QkN (H:(Qr m).1=0) (inp:List Int)(a:pages<=64) (n:Nat):∃ M' R',IM.steps m op most n (IM.start inp pages)=some M'/\RM.steps m op most n (RM.start inp pages)=some R'/\Qew M' R' :=
 let ⟨M',R',h1,h2,h3,_,_⟩:=Qdv (op:=op) (most:=most) H n _ _ (Qhq H inp pages) (Qhl inp pages) (Qg5 inp a)
 ⟨M',R',h1,h2,h3⟩
end
theorem Xm:type_of% @Calls.mono:=@Calls.mono
def QeZ (o:Oper):List Tmp:=o.op.operands.toList.filterMap fun | .tmp t=>some t | _=>none
def Qt (l:List Oper):List Tmp:=l.filterMap (·.dst)
def nodupB:List Tmp->Bool
 | []=>true
 | t::r=>!r.contains t&&nodupB r
def onB (gs:List (Nat × Option Bool)) (o:Oper) (b:Bool):Bool :=
 match o.guard with
 | none=>b
 | some (g,want)=>match gs.lookup g with
   | some c=>b==(c==some want)
   | none=>false
def Qlb (gs:List (Nat × Option Bool)):List Oper->List Bool->Bool
 | [],[]=>true
 | o::l,b::bs=>onB gs o b&&Qlb gs l bs
 | _,_=>false
def Qmi (ops:Array Oper) (ds outs:List Tmp) (o:Oper):Bool :=
 (o.looksAt ops).all fun t=>(outs.contains t&&!ds.contains t)||o.after.any fun e=>Region.binds .any e&&((ops[e.on]?).bind (·.dst)==some t)
def Qcu (i:Nat):List Oper->Bool
 | []=>true
 | o::l=>(o.after.all fun e=>!Region.binds .any e||decide (e.on<i))&&Qcu (i+1) l
def QaY (l:List Oper) (n:Nat) (outs:List Tmp) (gs:List (Nat × Option Bool)) (bs:List Bool):Bool :=
 (gs.all fun g=>((l.toArray[g.1]?).bind (·.dst)).isSome)&&nodupB (Qt l)&&((Qt l).all fun t=>decide (t<n))&&(l.all (Qmi l.toArray (Qt l) outs))&&Qlb gs l bs&&Qcu 0 l
section
variable {P:Program}(E:Tmp->Value->World->Prop) (W:World->Prop) (R:World->World->Prop)
def EO:Option Tmp->Value->World->Prop
 | some t=>E t
 | none=>fun _ _=>True
def Qd5 (a:Act) (w:World):List Tmp->Prop
 | []=>True
 | t::r=>E t (a.tmps.getD t undef) w/\Qd5 a w r
def Qlc (P:Program) (o:Oper):Prop :=
 ∀ a w,W w->Qd5 E a w (QeZ o)->∀ K:Act->World->Prop,(∀ v w',R w w'->W w'->EO E o.dst v w'->K (a.put o.dst v) w')->o.wp P a w K (fun _ _ _=>False)
def QhD (o:Oper):Prop:=∀ w,W w->EO E o.dst undef w
def Qen (P:Program):List Oper->List Bool->Prop
 | o::l,true::bs=>Qlc E W R P o/\Qen P l bs
 | o::l,false::bs=>QhD E W o/\Qen P l bs
 | _,_=>True
def QaO (ops:Array Oper):List (Nat × Option Bool)->Prop
 | []=>True
 | (g,c)::r=>(∀ t,(ops[g]?).bind (·.dst)=some t->∀ v w,W w->E t v w->match c with | some b=>v=.bool b | none=>v=undef)/\QaO ops r
def Qaf (a:Act) (w:World):List Tmp->Prop
 | []=>True
 | t::r=>E t (a.tmps.getD t undef) w/\Qaf a w r
def QN (a:Act) (vs:Tmp->Value):List Tmp->Act
 | []=>a
 | t::r=>QN (a.put (some t) (vs t)) vs r
end
theorem wpq {P:Program}{o:Oper}{a:Act}{K d:Act->World->Prop}{Q:Exit->Act->World->Prop}(h:∀ a w,K a w->d a w)
 (c:o.wp P a w K (fun _ _ _=>False)):o.wp P a w d Q:=by
 unfold Oper.wp at *;generalize (execOp a.eval o).run P w=r at *
 cases r with
 | ok n w' =>
   cases n<;>simp only[Oper.upon] at c |- <;>
    first
     | exact h _ _ c
     | exact Xm c (fun e f b=>by cases e<;>first | exact h _ _ b | exact b.elim | (obtain⟨_,_,b⟩:=b;exact b.elim))
     | exact Rows.mono c (fun _ _ b=>h _ _ b)
 | halt x w'=>cases x<;>simp only[Oper.upon] at c |-
theorem Qbs (b:Tmp->Value):∀ (ds:List Tmp) (a:Act),(QN a b ds).defers=a.defers
 | [],_=>rfl
 | _::r,a=>by rw[QN,Qbs b r];rfl
theorem Qde (b:Tmp->Value):∀ (ds:List Tmp) (a:Act),(QN a b ds).tmps.size=a.tmps.size
 | [],_=>rfl
 | _::r,a=>by rw[QN,Qde b r];simp[Act.put]
theorem Qgb (f:Tmp->Value):∀ (ds:List Tmp) (a:Act) (t:Nat),t<a.tmps.size->(QN a f ds).tmps[t]?=if t∈ds then some (f t) else a.tmps[t]?
 | [],_,_,_=>by simp[QN]
 | d::r,a,t,ht=>by
   rw[QN,Qgb f r _ t (by simpa[Act.put] using ht)]
   by_cases b:t∈r
   ·simp[b]
   ·by_cases c:d=t
    ·subst c;simp[b,Act.put,ht]
    ·have:t≠d:=fun e=>c e.symm
     simp[b,this,Act.put,c]
theorem nodup_apart:∀ (l:List Oper) (i j:Nat) (oi oj:Oper) (t:Tmp),nodupB (Qt l)=true->l[i]?=some oi->l[j]?=some oj->oi.dst=some t->oj.dst=some t->i=j
 | [],_,_,_,_,_,_,hi,_,_,_=>by simp at hi
 | o::l,i,j,oi,oj,t,h,hi,hj,di,dj=>by
   have f:∀ {k:Nat} {c:Oper},l[k]?=some c->c.dst=some t->t∈Qt l:=fun {k c} g a=>List.mem_filterMap.2 ⟨c,Zm g,a⟩
   have n:nodupB (Qt l)=true:=by
    unfold Qt at h |-
    cases a:o.dst with
    | none=>simpa[List.filterMap_cons,a] using h
    | some d=>simp[a,nodupB] at h;exact h.2
   have b:o.dst=some t->t ∉ Qt l:=fun a=>by
    unfold Qt at h |-;simp only[List.filterMap_cons,a,nodupB,Bool.and_eq_true,Bool.not_eq_true'] at h
    intro e
    have:=h.1
    simp at this
    simp at e
    obtain⟨x,b,m⟩:=e
    exact this x b m
   cases i with
   | zero =>
     cases j with
     | zero=>rfl
     | succ j=>simp at hi hj;subst hi;exact absurd (f hj dj) (b di)
   | succ i =>
     cases j with
     | zero=>simp at hi hj;subst hj;exact absurd (f hi di) (b dj)
     | succ j=>simp at hi hj;rw[nodup_apart l i j oi oj t n hi hj di dj]
section
variable {P:Program}{E:Tmp->Value->World->Prop}{W:World->Prop}{R:World->World->Prop}
theorem Qd9 {a:Act}{w:World}:∀ (l:List Tmp),(∀ t∈l,E t (a.tmps.getD t undef) w)->Qd5 E a w l
 | [],_=>trivial
 | t::r,h=>⟨h t (by simp),Qd9 r fun x b=>h x (by simp[b])⟩
theorem Qa1 {a:Act}{w:World}:∀ (l:List Tmp),Qaf E a w l->∀ t∈l,E t (a.tmps.getD t undef) w
 | [],_,_,h=>by simp at h
 | x::r,h,t,b=>by
   rcases List.mem_cons.1 b with rfl | b
   ·exact h.1
   ·exact Qa1 r h.2 t b
theorem Qe4 {a:Array Oper}:∀ (gs:List (Nat × Option Bool)),QaO E W a gs->∀ g c,gs.lookup g=some c->∀ t,(a[g]?).bind (·.dst)=some t->∀ v w,W w->E t v w->match c with | some b=>v=.bool b | none=>v=undef
 | [],_,_,_,h=>by simp at h
 | (g',c')::r,h,g,c,hl=>by
   by_cases e:g=g'
   ·subst e;simp at hl;subst hl;exact h.1
   ·have d:(g==g')=false:=by simpa using e
    simp[List.lookup_cons,d] at hl;exact Qe4 r h.2 g c hl
theorem mem_of_lookup:∀ (gs:List (Nat × Option Bool)) (g:Nat) (c:Option Bool),gs.lookup g=some c->(g,c)∈gs
 | [],_,_,h=>by simp at h
 | (g',c')::r,g,c,hl=>by
   by_cases e:g=g'
   ·subst e;simp at hl;subst hl;simp
   ·have a:(g==g')=false:=by simpa using e
    simp[List.lookup_cons,a] at hl;exact List.mem_cons_of_mem _ (mem_of_lookup r g c hl)
theorem filter_set:∀ (l:List Bool) (i:Nat) (h:i<l.length),l[i]=false->((l.set i true).filter (·==false)).length+1=(l.filter (·==false)).length
 | [],_,h,_=>by simp at h
 | x::l,0,_,h=>by simp at h;subst h;simp
 | x::l,i+1,hi,h=>by
   simp at h hi
   have:=filter_set l i hi h
   cases x<;>simp at this |-<;>omega
theorem QhH (gs:List (Nat × Option Bool)):∀ (l:List Oper) (bs:List Bool),Qlb gs l bs=true->Qen E W R P l bs->∀ (i:Nat) (o:Oper),l[i]?=some o->(onB gs o true=true/\Qlc E W R P o)\/(onB gs o false=true/\QhD E W o)
 | [],_,_,_,_,_,h=>by simp at h
 | _::_,[],h,_,_,_,_=>by simp[Qlb] at h
 | x::l,b::bs,h,ha,i,o,ho=>by
   simp only[Qlb,Bool.and_eq_true] at h
   cases i with
   | zero =>
     simp at ho;subst ho
     cases b with
     | true=>exact .inl ⟨h.1,ha.1⟩
     | false=>exact .inr ⟨h.1,ha.1⟩
   | succ i =>
     simp at ho
     cases b with
     | true=>exact QhH gs l bs h.2 ha.2 i o ho
     | false=>exact QhH gs l bs h.2 ha.2 i o ho
theorem back_at:∀ (l:List Oper) (k i:Nat) (o:Oper),Qcu k l=true->l[i]?=some o->∀ e∈o.after,Region.binds .any e=true->e.on<k+i
 | [],_,_,_,_,h=>by simp at h
 | x::l,k,i,o,h,ho=>by
   simp only[Qcu,Bool.and_eq_true] at h
   cases i with
   | zero =>
     simp at ho;subst ho
     intro e a b
     have:=Array.all_eq_true_iff_forall_mem.1 h.1 e a
     simpa[b] using this
   | succ i =>
     simp at ho
     intro e a b
     have:=back_at l (k+1) i o h.2 ho e a b
     omega
structure Qm9 (E:Tmp->Value->World->Prop) (W:World->Prop) (l:List Oper) (outs:List Tmp) (a0:Act) (listed:Array Bool) (a:Act) (w:World):Prop where
 world:W w
 defers:a.defers=a0.defers
 size:a.tmps.size=a0.tmps.size
 outer:∀ t,t ∉ Qt l->a.tmps[t]?=a0.tmps[t]?
 outs:∀ t∈outs,t ∉ Qt l->E t (a.tmps.getD t undef) w
 known:∀ j o t,l[j]?=some o->o.dst=some t->listed.getD j false=true->E t (a.tmps.getD t undef) w
theorem Qdz {l:List Oper}{outs:List Tmp}{gs:List (Nat × Option Bool)}{a0:Act}{Q:Exit->Act->World->Prop}
 (hB:QaY l a0.tmps.size outs gs bs=true) (hR:∀ t v w w',R w w'->E t v w->E t v w') (hG:QaO E W l.toArray gs) (hA:Qen E W R P l bs)
 (ag:∀ (vs:Tmp->Value) w',W w'->(∀ t,(Qt l).contains t=true->E t (vs t) w')->Q .normal (QN a0 vs (Qt l)) w') :
 ∀ (fuel:Nat) (listed:Array Bool) (a:Act) (w:World),listed.size=l.length->(listed.toList.filter (·==false)).length<=fuel->Qm9 E W l outs a0 listed a w ->
  wpAny P .any l.toArray Q fuel listed a w:=by
 simp only[QaY,Bool.and_eq_true] at hB
 obtain⟨⟨⟨⟨⟨an,aq⟩,N⟩,ap⟩,al⟩,ar⟩:=hB
 have ae:∀ (listed:Array Bool) (a:Act) (w:World),listed.size=l.length->Region.ready .any l.toArray listed=[]->Qm9 E W l outs a0 listed a w->Q .normal a w:=by
  intro listed a w V J f
  have ac:∀ j,j<l.length->listed.getD j false=true:=by
   intro j
   induction j using Nat.strongRecOn with
   | _ j ih =>
     intro z
     cases r:listed.getD j false with
     | true=>rfl
     | false =>
       exfalso
       have:j∈Region.ready .any l.toArray listed:=by
        unfold Region.ready;refine List.mem_filter.2 ⟨by simpa using z,?_⟩
        have U:listed.getD j true=false:=by
         have av:j<listed.size:=by omega
         simp[Array.getD,av] at r |-;exact r
        have T:l.toArray[j]?=some l[j]:=by simp[z]
        rw[U,T]
        simp only[Bool.not_false,Bool.true_and,Option.map_some,Option.getD_some]
        rw[Array.all_eq_true_iff_forall_mem]
        intro e he
        cases hbd:Region.binds .any e with
        | false=>rfl
        | true =>
          have:=back_at l 0 j l[j] ar (by simp[z]) e he hbd
          simp only[Bool.not_true,Bool.false_or]
          exact ih e.on (by omega) (by omega)
       rw[J] at this
       cases this
  have ad:∀ t∈Qt l,E t (a.tmps.getD t undef) w/\t<a0.tmps.size:=by
   intro t n;obtain⟨o,X,s⟩:=List.mem_filterMap.1 n
   obtain⟨j,z⟩:=List.getElem?_of_mem X
   have A:j<l.length:=by
    rcases Nat.lt_or_ge j l.length with h | h
    ·exact h
    ·rw[Xk h] at z;cases z
   exact⟨f.known j o t z s (ac j A),by simpa using Xe.1 N t n⟩
  have he:a=QN a0 (fun t=>a.tmps.getD t undef) (Qt l):=by
   have U:a.tmps=(QN a0 (fun t=>a.tmps.getD t undef) (Qt l)).tmps:=by
    refine Array.ext (by rw[Qde,f.size]) fun t K S=>?_;have h3:t<a0.tmps.size:=by rw[<-f.size];exact K
    have:=Qgb (fun t=>a.tmps.getD t undef) (Qt l) a0 t h3
    rw[Xj S] at this
    by_cases hm:t∈Qt l
    ·rw[Xs hm] at this
     simp only[Option.some.injEq] at this
     rw[this];simp[Array.getD,K]
    ·rw[Xr hm,<-f.outer t hm,Xj K] at this
     exact(Xn this).symm
   have T:a.defers=(QN a0 (fun t=>a.tmps.getD t undef) (Qt l)).defers:=by rw[Qbs,f.defers]
   cases a with
   | mk t d =>
     simp only at U T
     generalize hp:QN a0 (fun x=>t.getD x undef) (Qt l)=p at U T |-
     cases p;simp only at U T;rw[U,T]
  rw[he]
  exact ag _ _ f.world fun t n=>(ad t (by simpa using n)).1
 intro fuel
 induction fuel with
 | zero =>
   intro listed a w V hf f
   have J:Region.ready .any l.toArray listed=[]:=by
    rw[List.eq_nil_iff_forall_not_mem]
    intro i hi;obtain⟨K,S⟩:=List.mem_filter.1 hi
    have A:i<l.length:=by simpa using K
    simp only[Bool.and_eq_true,Bool.not_eq_true'] at S
    have:listed[i]'(by omega)=false:=by
     have:=S.1;simp[Array.getD,show i<listed.size by omega] at this;exact this
    have hm:false∈listed.toList.filter (·==false):=List.mem_filter.2 ⟨by rw[<-this];simp,by simp⟩
    have:=List.length_pos_of_mem hm
    omega
   exact⟨J,ae listed a w V J f⟩
 | succ fuel ih =>
   intro listed a w V hf f;refine⟨fun J=>ae listed a w V J f,fun i hi=>?_⟩
   obtain⟨K,S⟩:=List.mem_filter.1 hi
   have A:i<l.length:=by simpa using K
   simp only[Bool.and_eq_true,Bool.not_eq_true'] at S
   obtain⟨ah,m⟩:=S
   have af:i<listed.size:=by omega
   have aa:listed[i]=false:=by simp[Array.getD,af] at ah;exact ah
   have X:l.toArray[i]?=some l[i]:=by simp[A]
   have q:l[i]?=some l[i]:=by simp[A]
   generalize az:l[i]=o at X q;rw[X] at m
   simp only[Option.map_some,Option.getD_some] at m
   rw[Array.all_eq_true_iff_forall_mem] at m
   have u:∀ t∈o.looksAt l.toArray,E t (a.tmps.getD t undef) w:=by
    intro t n
    have:=Xe.1 (Xe.1 ap o (Zm q)) t n
    rw[Bool.or_eq_true] at this
    rcases this with h | h
    ·simp only[Bool.and_eq_true,Bool.not_eq_true'] at h
     exact f.outs t (by simpa using h.1) (by simpa using h.2)
    ·obtain⟨k,hk,h⟩:=Array.any_eq_true.1 h
     simp only[Bool.and_eq_true,beq_iff_eq] at h
     obtain⟨r,s⟩:=h
     have G:=m _ (Array.getElem_mem hk);rw[r] at G
     simp only[Bool.not_true,Bool.false_or] at G
     generalize o.after[k]=e at *;obtain⟨oj,ax,au⟩:=Option.bind_eq_some_iff.1 s
     exact f.known e.on oj t (by simpa using ax) au G
   have am:Qd5 E a w (QeZ o):=Qd9 _ fun t n=>u t (by
    unfold Oper.looksAt;exact List.mem_append_left _ n)
   have hw:∀ b,onB gs o b=true->Region.wanted o (yielded l.toArray a.tmps)=b:=by
    intro b r;unfold onB at r;unfold Region.wanted
    cases hg:o.guard with
    | none=>rw[hg] at r;simp only at r |-;exact r.symm
    | some gw =>
      obtain⟨g,ay⟩:=gw
      rw[hg] at r
      simp only at r |-
      cases G:gs.lookup g with
      | none=>rw[G] at r;cases r
      | some c =>
        rw[G] at r
        simp only[beq_iff_eq] at r
        have hy:yielded l.toArray a.tmps g=c:=by
         unfold yielded;have ak:(g,c)∈gs:=mem_of_lookup gs g c G;have D:=Xe.1 an _ ak
         cases s:(l.toArray[g]?).bind (·.dst) with
         | none=>rw[s] at D;cases D
         | some t =>
           have hE:=u t (by unfold Oper.looksAt;rw[hg];simp only[s];simp);have F:=Qe4 gs hG g c G t s _ _ f.world hE;obtain⟨og,aj,aw⟩:=Option.bind_eq_some_iff.1 s
           have O:t<a.tmps.size:=by
            rw[f.size]
            have:=Xe.1 N t (List.mem_filterMap.2 ⟨og,Zm (by simpa using aj),aw⟩)
            simpa using this
           have n:a.tmps[t]?=some (a.tmps.getD t undef):=by simp[Array.getD,O]
           simp only[Option.bind_some,n]
           cases c with
           | none=>simp only at F;rw[F];rfl
           | some b=>simp only at F;rw[F]
        rw[hy,r]
   have H:((listed.setIfInBounds i true).toList.filter (·==false)).length<=fuel:=by
    have h3:=filter_set listed.toList i (by simpa using af) (by simpa using aa);rw[Array.toList_setIfInBounds]
    omega
   have I:∀ v w',W w'->(∀ t v,E t v w->E t v w')->EO E o.dst v w'->Qm9 E W l outs a0 (listed.setIfInBounds i true) (a.put o.dst v) w':=by
    intro v w' M y F
    have B:∀ t,o.dst≠some t->(a.put o.dst v).tmps[t]?=a.tmps[t]?:=by
     intro t n
     cases s:o.dst with
     | none=>rfl
     | some d =>
       have:d≠t:=fun e=>n (by rw[s,e])
       simp[Act.put,this]
    have C:∀ (b c:Array Value) (t:Nat),b[t]?=c[t]?->b.getD t undef=c.getD t undef:=by
     intro b c t h;rw[Za,Za,h]
    refine⟨M,?_,?_,?_,?_,?_⟩
    ·rw[<-f.defers];cases o.dst<;>rfl
    ·rw[<-f.size];cases o.dst<;>simp[Act.put]
    ·intro t n;rw[B t (fun e=>n (List.mem_filterMap.2 ⟨o,Zm q,e⟩)),f.outer t n]
    ·intro t n hn;rw[C _ _ t (B t (fun e=>hn (List.mem_filterMap.2 ⟨o,Zm q,e⟩)))]
     exact y _ _ (f.outs t n hn)
    ·intro j oj t z s ai;by_cases L:j=i
     ·subst L;rw[q] at z
      obtain rfl:=Xn z
      have O:t<a.tmps.size:=by
       rw[f.size]
       have:=Xe.1 N t (List.mem_filterMap.2 ⟨o,Zm q,s⟩)
       simpa using this
      rw[s] at F |-
      have:(a.put (some t) v).tmps.getD t undef=v:=by simp[Act.put,Array.getD,O]
      rw[this];exact F
     ·have ao:o.dst≠some t:=fun e=>L (nodup_apart l j i oj o t aq z q s e);rw[C _ _ t (B t ao)]
      refine y _ _ (f.known j oj t z s ?_);have ab:i≠j:=fun e=>L e.symm;rw[Za,Array.getElem?_setIfInBounds_ne ab] at ai
      rw[Za];exact ai
   unfold wpOp;rw[X]
   simp only
   rcases QhH gs l bs al hA i o q with ⟨h,y⟩|⟨h,y⟩
   ·rw[hw true h,Xs Z]
    refine .inl (wpq (fun a' w' hh=>hh) (y a w f.world am _ fun v w' J M F=>?_));exact ih _ _ _ (by simpa using V) H (I v w' M (fun t v he=>hR t v w w' J he) F)
   ·rw[hw false h]
    simp only[Bool.false_eq_true,if_false]
    exact ih _ _ _ (by simpa using V) H (I undef w f.world (fun _ _ h=>h) (y w f.world))
theorem Qaq {l:List Oper}{outs:List Tmp}{gs:List (Nat × Option Bool)}(h:n<=m) (b:QaY l n outs gs bs=true):QaY l m outs gs bs=true:=by
 simp only[QaY,Bool.and_eq_true] at b |-
 obtain⟨⟨⟨⟨⟨j,k⟩,a⟩,i⟩,f⟩,g⟩:=b
 refine⟨⟨⟨⟨⟨j,k⟩,?_⟩,i⟩,f⟩,g⟩
 rw[Xe] at a |-
 intro t c;have d:t<n:=by simpa using a t c
 have e:t<m:=Zl d h;simpa using e
theorem Qdp {l:List Oper}{outs:List Tmp}{gs:List (Nat × Option Bool)}{a:Act}{Q:Exit->Act->World->Prop}
 (E:Tmp->Value->World->Prop) (W:World->Prop) (R:World->World->Prop)
 (p:P.follows .mixedOrders=true)  (q:a.tmps.size=m) (c:n<=m) (i:QaY l n outs gs bs=true)
 (h:∀ t v w w',R w w'->E t v w->E t v w') (f:QaO E W l.toArray gs) (r:W w.drew) (e:Qaf E a w.drew outs)
 (g:Qen E W R P l bs)
 (b:∀ (vs:Tmp->Value) w',W w'->(∀ t,(Qt l).contains t=true->E t (vs t) w')->Q .normal (QN a vs (Qt l)) w') :
 (Code.region id l.toArray true).wp P Q a w:=by
 refine wp_region_any p ?_;refine Qdz (Qaq (q ▸ c) i) h f g b _ _ _ _ (by simp) ?_ ⟨r,Z,Z,fun _ _=>rfl,fun t d _=>Qa1 outs e t d,?_⟩
 ·simp only[Array.toList_replicate]
  exact Zt (List.length_filter_le _ _) (by simp)
 ·intro j o t u s k;simp[Array.getD] at k
end
section
variable {P:Program}{Q:Exit->Act->World->Prop}
theorem Qlr {o:Oper}{a:Act}{K N:Act->World->Prop}(h:o.wp P a w K (Exit.then N Q)):o.wp P a w K Q:=by
 unfold Oper.wp at *;generalize (execOp a.eval o).run P w=r at *
 cases r with
 | ok n w'=>cases n<;>exact h
 | halt x w'=>cases x<;>exact h
def Qbn (n:Nat) (l:List Oper):Bool:=l.all fun o=>match o.guard with | some (g,_)=>decide (g<n) | none=>true
theorem ZB {a:Array Bool}:i∈Region.ready .any ops a↔i<ops.size/\a.getD i true=false/\∃ o,ops[i]?=some o/\∀ e∈o.after,Region.binds .any e=true->a.getD e.on false=true:=by
 unfold Region.ready;rw[List.mem_filter]
 simp only[List.mem_range,Bool.and_eq_true,Bool.not_eq_true']
 refine and_congr_right fun b=>and_congr_right fun d=>?_;rw[Xj b]
 simp only[Option.map_some,Option.getD_some,Option.some.injEq,exists_eq_left']
 rw[Array.all_eq_true_iff_forall_mem]
 refine forall_congr' fun e=>forall_congr' fun c=>?_
 cases Region.binds .any e<;>simp
end
section
variable {P:Program}{Q:Exit->Act->World->Prop}
def Qdw (all:List Oper):Nat->Oper->Nat->Bool
 | 0,_,_=>false
 | f+1,o,j=>o.after.any fun e=>Region.binds .any e&&(e.on==j||(match all[e.on]? with | some o'=>Qdw all f o' j | none=>false))
def QaL (all:List Oper) (k:Nat):List Oper->Bool
 | []=>true
 | o::l=>((List.range k).all fun j=>Qdw all 24 o j)&&QaL all (k+1) l
theorem QcT {all:List Oper}{j:Nat}{S:Nat->Prop}(c:∀ (q:Nat) (o':Oper),all[q]?=some o'->S q->∀ e∈o'.after,Region.binds .any e=true->S e.on):∀ (f:Nat) (o:Oper),Qdw all f o j=true->(∀ e∈o.after,Region.binds .any e=true->S e.on)->S j
 | 0,_,h,_=>by simp[Qdw] at h
 | f+1,o,h,hS=>by
   simp only[Qdw] at h
   obtain⟨q,i,b⟩:=Array.any_eq_true.1 h
   rw[Bool.and_eq_true,Bool.or_eq_true] at b
   have g:=Array.getElem_mem i;generalize o.after[q]=d at b g;rcases b.2 with a | a
   ·have:=hS d g b.1
    rwa [beq_iff_eq.1 a] at this
   ·cases ho':all[d.on]? with
    | none=>rw[ho'] at a;simp at a
    | some o' =>
      rw[ho'] at a
      exact QcT c f o' a (c _ o' ho' (hS d g b.1))
theorem Qd7 (all:List Oper):∀ (l:List Oper) (k i:Nat) (o:Oper),QaL all k l=true->l[i]?=some o->∀ j,j<k+i->∀ S:Nat->Prop,
 (∀ (q:Nat) (o':Oper),all[q]?=some o'->S q->∀ e∈o'.after,Region.binds .any e=true->S e.on)->(∀ e∈o.after,Region.binds .any e=true->S e.on)->S j
 | [],_,_,_,_,h=>by simp at h
 | x::l,k,0,o,h,ho=>by
   simp at ho;subst ho
   simp only[QaL,Bool.and_eq_true] at h
   intro j b S a c;exact QcT a 24 x (Xe.1 h.1 j (by simpa using b)) c
 | x::l,k,i+1,o,h,ho=>by
   simp only[QaL,Bool.and_eq_true] at h
   simp at ho
   intro j b;exact Qd7 all l (k+1) i o h.2 ho j (by omega)
theorem Qg9 {l:List Oper}(I:Qcu 0 l=true){k0:Nat}(L:QaL l k0 (l.drop k0)=true):∀ (m k fuel:Nat) (listed:Array Bool) (a:Act) (w:World),k+m=l.length->k0<=k->m<=fuel->listed.size=l.length ->
 (∀ j,j<l.length->listed.getD j false=decide (j<k))->wpList P l.toArray Q (l.drop k) a w->wpAny P .any l.toArray Q fuel listed a w:=by
 intro m
 induction m with
 | zero =>
   intro k fuel listed a w M _ _ K c h
   have v:Region.ready .any l.toArray listed=[]:=by
    rw[List.eq_nil_iff_forall_not_mem]
    intro i r;obtain⟨E,s,_⟩:=ZB.1 r
    have p:i<l.length:=by simpa using E
    have:=c i p
    have O:decide (i<k)=true:=by simp;omega
    rw[O] at this
    have n:i<listed.size:=by omega
    simp[Array.getD,n] at this s
    rw[this] at s;cases s
   have t:Q .normal a w:=by
    rw[List.drop_of_length_le (by omega)] at h
    exact h
   cases fuel with
   | zero=>exact⟨v,t⟩
   | succ fuel=>exact⟨fun _=>t,fun i r=>by rw[v] at r;cases r⟩
 | succ m ih =>
   intro k fuel listed a w M T hf K c h;have b:k<l.length:=by omega
   obtain⟨fuel,rfl⟩:∃ f,fuel=f+1:=⟨fuel - 1,by omega⟩
   have u:k<listed.size:=by omega
   have C:k∈Region.ready .any l.toArray listed:=by
    refine ZB.2 ⟨by simpa using b,?_,l[k],by simp[b],fun e A g=>?_⟩
    ·have:=c k b
     simp[Array.getD,u] at this |-;exact this
    ·have:=back_at l 0 k l[k] I (by simp[b]) e A g
     rw[c _ (by omega)];simp;omega
   refine⟨fun v=>absurd (v ▸ C) (by simp),fun i r=>?_⟩
   have B:i=k:=by
    obtain⟨E,s,o,y,N⟩:=ZB.1 r
    have p:i<l.length:=by simpa using E
    have F:listed.getD i false=false:=by
     have n:i<listed.size:=by omega
     simp[Array.getD,n] at s |-;exact s
    have z:k<=i:=by
     have:=c i p
     rw[F] at this
     have:¬ i<k:=by simpa using this.symm
     omega
    rcases Nat.eq_or_lt_of_le z with e | S
    ·exact e.symm
    ·exfalso
     have:=Qd7 l (l.drop k0) k0 (i - k0) o L (by rw[List.getElem?_drop,show k0+(i - k0)=i by omega];simpa using y) k (by omega) (fun j=>listed.getD j false=true)
      (fun q V t W e A g=>by
       have H:q<l.length:=(Zi t).1;have X:=back_at l 0 q V I t e A g;have J:listed.getD q false=true:=W;rw[c q H] at J
       have h6:q<k:=by simpa using J
       show listed.getD e.on false=true;rw[c e.on (by omega)];simp;omega) N
     rw[c k b] at this
     simp at this
   subst B;rw[List.drop_eq_getElem_cons b] at h
   have y:l.toArray[i]?=some l[i]:=by simp[b]
   have d:∀ a w,wpList P l.toArray Q (l.drop (i+1)) a w->wpAny P .any l.toArray Q fuel (listed.setIfInBounds i true) a w:=fun a w U =>
    ih (i+1) fuel _ a w (by omega) (by omega) (by omega) (by simpa using K) (fun j R=>by
     by_cases e:j=i
     ·subst e;simp[Array.getD,u]
     ·have D:i≠j:=fun x=>e x.symm;rw[Za,Array.getElem?_setIfInBounds_ne D,<-Za,c j R]
      simp;omega) U
   unfold wpOp;rw[y]
   simp only
   unfold wpList at h;split
   ·rename_i G
    rw[Xs G] at h
    exact h.imp (Oper.wp_mono d) id
   ·rename_i G
    rw[Xr G] at h
    exact d _ _ h
theorem Qbt {l l2:List Oper}(hb:Qcu 0 (l++l2)=true) (hg:Qbn l.length l=true) (ht:QaL (l++l2) l.length l2=true):∀ (fuel:Nat) (listed:Array Bool) (a:Act) (w:World),listed.size=l.length→(∀ (q:Nat) (o:Oper),l[q]?=some o→listed.getD q false=true→∀ e∈o.after,Region.binds .any e=true→listed.getD e.on false=true) →
 wpAny P .any l.toArray (Exit.then (fun a w=>wpList P (l++l2).toArray Q l2 a w) Q) fuel listed a w →
 wpAny P .any (l++l2).toArray Q (fuel+l2.length) (listed++Array.replicate l2.length false) a w:=by
 have z:∀ (i:Nat) (o:Oper),l[i]?=some o→∀ e∈o.after,Region.binds .any e=true→e.on<i:=fun i o p e n c=>by
  have r:i<l.length:=(Zi p).1
  have:=back_at (l++l2) 0 i o hb (by rw[XP r];exact p) e n c
  omega
 have f:∀ (listed:Array Bool) (j:Nat) (d:Bool),listed.size=l.length→j<l.length→(listed++Array.replicate l2.length false).getD j d=listed.getD j d:=fun listed j d m x=>by
  rw[Za,Za,Array.getElem?_append_left (by omega)]
 have A:∀ (listed:Array Bool) (j:Nat),listed.size=l.length→l.length≤j→(listed++Array.replicate l2.length false).getD j false=false:=fun listed j m x=>by
  rw[Za,Array.getElem?_append_right (by omega)]
  cases h:(Array.replicate l2.length false)[j - listed.size]? with
  | none=>rfl
  | some b =>
    have:=Array.mem_of_getElem? h
    simp at this
    simp[this.2]
 -- all of the first part are listed
 have B:∀ (fuel:Nat) (listed:Array Bool) (a:Act) (w:World),listed.size=l.length→(∀ j,j<l.length→listed.getD j false=true)→wpList P (l++l2).toArray Q l2 a w →
  wpAny P .any (l++l2).toArray Q (fuel+l2.length) (listed++Array.replicate l2.length false) a w:=fun fuel listed a w m k h=>by
  refine Qg9 hb (k0:=l.length) (by simpa using ht) l2.length l.length _ _ a w (by simp) Ze (by omega) (by simp[m]) (fun j x=>?_) (by simpa using h);by_cases t:j<l.length
  ·rw[f listed j false m t,k j t];simp[t]
  ·rw[A listed j m (by omega)];simp;omega
 have v:∀ (listed:Array Bool),listed.size=l.length→Region.ready .any l.toArray listed=[]→∀ j,j<l.length→listed.getD j false=true:=fun listed m V j=>by
  induction j using Nat.strongRecOn with
  | _ j ih =>
    intro x
    cases hc:listed.getD j false with
    | true=>rfl
    | false =>
      exfalso
      have t:j<listed.size:=by omega
      have T:listed.getD j true=false:=by simp[Array.getD,t] at hc ⊢;exact hc
      have:j∈Region.ready .any l.toArray listed:=ZB.2 ⟨by simpa using x,T,l[j],by simp[x],fun e n c=>by
       have:=z j l[j] (by simp[x]) e n c
       exact ih e.on this (by omega)⟩
      rw[V] at this;cases this
 intro fuel
 induction fuel with
 | zero =>
   intro listed a w m F h;exact B 0 listed a w m (v listed m h.1) h.2
 | succ fuel ih =>
   intro listed a w m F h;by_cases k:∀ j,j<l.length→listed.getD j false=true
   ·refine B (fuel+1) listed a w m k (h.1 ?_);rw[List.eq_nil_iff_forall_not_mem]
    intro i r;obtain⟨H,D,_⟩:=ZB.1 r
    have W:i<l.length:=by simpa using H
    have:=k i W
    have s:i<listed.size:=by omega
    simp[Array.getD,s] at this D
    rw[this] at D;cases D
   ·have X:Region.ready .any l.toArray listed≠[]:=fun e=>k (v listed m e)
    have C:∀ i,i∈Region.ready .any (l++l2).toArray (listed++Array.replicate l2.length false)↔i∈Region.ready .any l.toArray listed:=fun i=>by
     rw[ZB,ZB]
     by_cases r:i<l.length
     ·have e1:(l++l2).toArray[i]?=l.toArray[i]?:=by simp[List.getElem?_append_left r]
      rw[f listed i true m r,e1]
      constructor
      ·rintro ⟨_,D,o,p,E⟩;refine⟨by simpa using r,D,o,p,fun e n c=>?_⟩
       have:=z i o (by simpa using p) e n c
       have h4:=E e n c;rwa [f listed e.on false m (by omega)] at h4
      ·rintro ⟨_,D,o,p,E⟩;refine⟨by simp;omega,D,o,p,fun e n c=>?_⟩
       have:=z i o (by simpa using p) e n c
       rw[f listed e.on false m (by omega)]
       exact E e n c
     ·constructor
      ·rintro ⟨H,D,o,p,E⟩;exfalso
       refine k fun j x=>?_;have K:(l++l2)[i]?=some o:=by simpa using p
       rw[XQ (by omega)] at K
       have:=Qd7 (l++l2) l2 l.length (i - l.length) o ht K j (by omega) (fun q=>(listed++Array.replicate l2.length false).getD q false=true)
        (fun q o' G O e n c=>by
         have N:(listed++Array.replicate l2.length false).getD q false=true:=O;by_cases M:q<l.length
         ·rw[f listed q false m M] at N
          rw[XP M] at G
          have h6:=z q o' G e n c;show (listed++Array.replicate l2.length false).getD e.on false=true;rw[f listed e.on false m (by omega)]
          exact F q o' G N e n c
         ·rw[A listed q m (by omega)] at N
          cases N) E
       rwa [f listed j false m x] at this
      ·rintro ⟨H,_⟩;exact absurd (by simpa using H) r
    rw[show fuel+1+l2.length=(fuel+l2.length)+1 by omega]
    refine⟨fun V=>?_,fun i r=>?_⟩
    ·exfalso
     apply X
     rw[List.eq_nil_iff_forall_not_mem]
     intro i r
     have:=(C i).2 r
     rw[V] at this;cases this
    ·have s:=(C i).1 r;have u:=h.2 i s;obtain⟨H,_⟩:=ZB.1 s
     have y:i<l.length:=by simpa using H
     have p:l.toArray[i]?=some l[i]:=by simp[y]
     have S:(l++l2).toArray[i]?=some l[i]:=by simp[List.getElem?_append_left y,y]
     unfold wpOp at u ⊢;rw[p] at u
     rw[S]
     simp only at u ⊢
     have hy:Region.wanted l[i] (yielded (l++l2).toArray a.tmps)=Region.wanted l[i] (yielded l.toArray a.tmps):=by
      unfold Region.wanted
      cases hgd:(l[i]).guard with
      | none=>rfl
      | some gw =>
        obtain⟨g,aa⟩:=gw
        have:=Xe.1 hg l[i] (List.getElem_mem y)
        rw[hgd] at this
        have R:g<l.length:=by simpa using this
        simp only
        have:yielded (l++l2).toArray a.tmps g=yielded l.toArray a.tmps g:=by
         unfold yielded
         have:(l++l2).toArray[g]?=l.toArray[g]?:=by simp[List.getElem?_append_left R]
         rw[this]
        rw[this]
     rw[hy]
     have nx:∀ a w,wpAny P .any l.toArray (Exit.then (fun a w=>wpList P (l++l2).toArray Q l2 a w) Q) fuel (listed.setIfInBounds i true) a w→wpAny P .any (l++l2).toArray Q (fuel+l2.length) ((listed++Array.replicate l2.length false).setIfInBounds i true) a w:=fun a w hh=>by
      have I:∀ (q:Nat) (o:Oper),l[q]?=some o→(listed.setIfInBounds i true).getD q false=true→∀ e∈o.after,Region.binds .any e=true→(listed.setIfInBounds i true).getD e.on false=true:=fun q o G O e n c=>by
       have up:∀ j,listed.getD j false=true→(listed.setIfInBounds i true).getD j false=true:=fun j x=>by
        by_cases J:i=j
        ·subst J
         have:i<listed.size:=by omega
         simp[Array.getD,this]
        ·rw[Za,Array.getElem?_setIfInBounds_ne J,← Za];exact x
       by_cases J:i=q
       ·subst J;obtain⟨_,_,o2,L,E⟩:=ZB.1 s
        have:o2=o:=by
         have h7:l[i]?=some o2:=by simpa using L
         rw[G] at h7;exact(Xn h7).symm
        subst this;exact up _ (E e n c)
       ·rw[Za,Array.getElem?_setIfInBounds_ne J,← Za] at O
        exact up _ (F q o G O e n c)
      have:=ih (listed.setIfInBounds i true) a w (by simpa using m) I hh
      have e:(listed++Array.replicate l2.length false).setIfInBounds i true=listed.setIfInBounds i true++Array.replicate l2.length false:=by
       rw[Array.setIfInBounds_append_left (by omega)]
      rw[e];exact this
     split
     ·rename_i U
      rw[Xs U] at u
      rcases u with u | u
      ·exact .inl (Oper.wp_mono nx (Qlr u))
      ·exact .inr u
     ·rename_i U
      rw[Xr U] at u
      exact nx _ _ u
end
theorem Qhc {P:Program}{l l2:List Oper}{outs:List Tmp}{gs:List (Nat × Option Bool)}{a:Act}{Q:Exit->Act->World->Prop}
 (E:Tmp->Value->World->Prop) (W:World->Prop) (R:World->World->Prop)
 (z:P.follows .mixedOrders=true)  (A:a.tmps.size=m) (h:n<=m) (u:QaY l n outs gs bs=true)
 (i:(Qcu 0 (l++l2)&&(Qbn l.length l&&QaL (l++l2) l.length l2))=true)
 (p:∀ t v w w',R w w'->E t v w->E t v w') (C:QaO E W l.toArray gs) (B:W w.drew) (x:Qaf E a w.drew outs)
 (y:Qen E W R P l bs)
 (b:∀ (vs:Tmp->Value) w',W w'->(∀ t,(Qt l).contains t=true->E t (vs t) w')->wpList P (l++l2).toArray Q l2 (QN a vs (Qt l)) w') :
 (Code.region id (l++l2).toArray true).wp P Q a w:=by
 simp only[Bool.and_eq_true] at i
 obtain⟨g,c,f⟩:=i
 refine wp_region_any z ?_
 have d:wpAny P .any l.toArray (Exit.then (fun a w=>wpList P (l++l2).toArray Q l2 a w) Q) l.length (Array.replicate l.length false) a w.drew:=by
  refine Qdz (E:=E) (W:=W) (R:=R) (a0:=a) (outs:=outs) (gs:=gs) (bs:=bs) (Qaq (A ▸ h) u) p C y b _ _ _ _ (by simp) ?_ ⟨B,Z,Z,fun _ _=>rfl,fun t k _=>Qa1 outs x t k,?_⟩
  ·simp only[Array.toList_replicate]
   exact Zt (List.length_filter_le _ _) (by simp)
  ·intro j o t G F r;simp[Array.getD] at r
 have:=Qbt (Q:=Q) g c f l.length (Array.replicate l.length false) a w.drew (by simp) (fun q o H D=>by simp[Array.getD] at D) d
 have e:(Array.replicate l.length false++Array.replicate l2.length false:Array Bool)=Array.replicate (l++l2).toArray.size false:=by
  simp
 have s:l.length+l2.length=(l++l2).toArray.size:=by simp
 rw[e,s] at this
 exact this
theorem Qg {P:Program}{lo:List Oper}{outs:List Tmp}{gs:List (Nat × Option Bool)}{a:Act}{Q:Exit->Act->World->Prop}
 (k:Nat) (E:Tmp->Value->World->Prop) (W:World->Prop) (R:World->World->Prop)
 (o:P.follows .mixedOrders=true)  (p:a.tmps.size=m) (c:n<=m) (j:QaY (lo.take k) n outs gs bs=true)
 (d:(Qcu 0 lo&&(Qbn (lo.take k).length (lo.take k)&&QaL lo (lo.take k).length (lo.drop k)))=true)
 (i:∀ t v w w',R w w'->E t v w->E t v w') (f:QaO E W (lo.take k).toArray gs) (q:W w.drew) (e:Qaf E a w.drew outs)
 (g:Qen E W R P (lo.take k) bs)
 (b:∀ ops (vs:Tmp->Value) w',W w'->(∀ t,(Qt (lo.take k)).contains t=true->E t (vs t) w')->wpList P ops Q (lo.drop k) (QN a vs (Qt (lo.take k))) w') :
 (Code.region id lo.toArray true).wp P Q a w:=by
 have h:=Qhc (id:=id) (l:=lo.take k) (l2:=lo.drop k) (Q:=Q) E W R o p c j (by rw[List.take_append_drop];exact d) i f q e g (b _);rwa [List.take_append_drop] at h
def Qlv (L:List (Tmp × (Value->World->Prop))) (T:List (Tmp × Value)) (t:Tmp) (v:Value) (w:World):Prop :=
 match L.lookup t with
 | some p=>p v w
 | none=>v=(T.lookup t).getD undef
def QnJ (v:Value) (w w':World):List (Tmp × (Value->World->Prop))->Prop
 | []=>True
 | p::l=>(p.2 v w->p.2 v w')/\QnJ v w w' l
theorem Qlv.keep {T:List (Tmp × Value)}{t:Tmp}{v:Value}{w w':World}:∀ {L:List (Tmp × (Value->World->Prop))},Qlv L T t v w->QnJ v w w' L->Qlv L T t v w'
 | [],h,_=>h
 | (s,p)::l,h,k=>by
   have a:=fun h=>Qlv.keep (T:=T) (t:=t) (L:=l) h k.2;unfold Qlv at h a |-;simp only[List.lookup_cons] at h |-
   cases e:t==s with
   | true=>rw[e] at h;exact k.1 h
   | false=>rw[e] at h;exact a h
def QmF (S S':Nat->Bool) (t:Tmp) (v:Value) (w w':World):List (Tmp × ((Nat->Bool)->Value->World->Prop))->Prop
 | []=>True
 | p::l=>(t=p.1->p.2 S v w->p.2 S' v w')/\QmF S S' t v w w' l
theorem Qmp {S a:Nat->Bool}{t:Tmp}{v:Value}{w w':World}{R:Prop}:∀ {L:List (Tmp × ((Nat->Bool)->Value->World->Prop))},QmF S a t v w w' L->(match L.lookup t with | some p=>p S v w | none=>R)->(match L.lookup t with | some p=>p a v w' | none=>R)
 | [],_,h=>h
 | (s,p)::l,k,h=>by
   have b:=Qmp (R:=R) (L:=l) k.2;simp only[List.lookup_cons] at h |-
   cases e:t==s with
   | true=>rw[e] at h;exact k.1 (by simpa using e) h
   | false=>rw[e] at h;exact b h
structure Bx (w wr:World) (k r:Int) (a:Option Addr) (len c:Nat):Prop where
 bel:Below w.heap.size w wr
 box:wr.heap[w.heap.size]?=some (.cells #[Iv k,Iv r,.slice a len c] 105 (0,0))
theorem Bx.start (w:World) (k r:Int) (a:Option Addr) (len c:Nat):Bx w (w.alloc (.cells #[Iv k,Iv r,.slice a len c] 105)) k r a len c :=
 ⟨(Below.refl _ w).alloc Ze _,Qe w _ _⟩
theorem Bx.below {wr:World}{k r:Int}{len:Nat}(h:Bx w wr k r a len c) (b:Below wr.heap.size wr w'):Bx w w' k r a len c :=
 ⟨h.bel.trans (b.mono h.bel.size),QaT h.box b⟩
theorem Bx.alloc {wr:World}{k r:Int}{len:Nat}(h:Bx w wr k r a len c) (o:Obj):Bx w (wr.alloc o) k r a len c :=
 h.below ((Below.refl _ wr).alloc Ze _)
theorem Qek {α:Type}(f:α->Nat) (l:List α) (i:Nat) (x:α) (h:l[i]?=some x):((l.map f).take (i+1)).sum=((l.map f).take i).sum+f x:=by
 rw[XV,XS,h]
 simp
def Qeh (f:Nat) (n:Nat):Prop:=∀ (t:TT n) (a:Option Addr) (c:Nat) (regs:Int) (w:World),TIn w All t a->t.count<=100000 ->
 Calls prog f #[Tv t a c,Iv regs] w fun e w'=>e=.returned (Iv (t.fault regs))/\Below w.heap.size w w'
section
variable {w0 w w':World}{Bs:List (Nat × Array Value × TypeId)}
def QaC (c:Array Value) (j:Nat) (vs:List Value):Array Value:=(c.toList.take j++(vs++c.toList.drop (j+vs.length))).toArray
theorem Qfh (c:Array Value) (j:Nat) (v:Value) (b:List Value) (h:j+(v::b).length<=c.size):QaC (c.setIfInBounds j v) (j+1) b=QaC c j (v::b):=by
 unfold QaC;congr 1
 have d:j<c.toList.length:=by simp at h |-;omega
 simp only[Array.toList_setIfInBounds]
 rw[List.take_set,List.drop_set_of_lt (by omega),XV,Zg d]
 simp only[Option.toList,List.length_cons]
 have:(c.toList.take j++[c.toList[j]]).set j v=c.toList.take j++[v]:=by
  rw[List.set_append_right _ _ (by simp;omega)]
  have a:j<c.size:=by simpa using d
  simp[Nat.min_eq_left (Nat.le_of_lt a)]
 rw[this,Nat.add_assoc,Nat.add_comm 1]
 simp
end
section
variable {n:Nat}{a:Act}{L:List (Tmp × Value)}{w0 w:World}{Bs:List (Nat × Array Value × TypeId)}{Q:Exit->Act->World->Prop}{ops:Array Oper}{rest:List Oper}{t:Tmp}{u v:Value}{ty ty2 ty3:TypeId}{pos:String}{aft:Array Edge}{gd:Option (Nat × Bool)}{x y z:Operand}{g tg:Nat}{want b:Bool}
theorem QlC {w:World}{c:Array Value}{t:TypeId}(h:Blk w B c t) (j m:Nat) (e:Nat.ble (j+m) c.size=true):w.rangeAt B j ((c.toList.drop j).take m):=fun k v b=>by
 have a:k<((c.toList.drop j).take m).length:=(Zi b).1;have d:k<m:=by simp at a;omega
 rw[XR,Xs d,List.getElem?_drop] at b
 exact Qb h (j+k) v (by simpa using b)
end
theorem XM:type_of% @Nat.one_mul:=@Nat.one_mul
theorem Qch {B:Nat}{t:TypeId}:∀ (vs:List Value) (w:World) (c:Array Value) (j:Nat),Blk w B c t->j+vs.length<=c.size->Blk (w.setCells B j vs) B (QaC c j vs) t
 | [],w,c,j,h,hs=>by
   have:QaC c j []=c:=by unfold QaC;simp
   rw[this];exact h
 | v::vs,w,c,j,h,hs=>by
   have:=Qch vs (w.setCell ⟨B,j,none⟩ v) (c.setIfInBounds j v) (j+1) (Qh h j v) (by simp at hs |-;omega)
   rw[Qfh _ _ _ _ hs] at this
   exact this
theorem QJ {B b:Nat}(a:B<=b):∀ (vs:List Value) (w w0:World) (j:Nat),Below B w0 w->Below B w0 (w.setCells b j vs)
 | [],w,w0,j,h=>h
 | v::vs,w,w0,j,h=>QJ a vs _ _ _ (h.setCell a v)
theorem Qdk (w:World) (b j:Nat) (a:List Value):w.grownBy (w.setCells b j a) (some b):=by
 have h:=QJ (Xb b) a w w j (Below.refl 0 w);exact⟨h.os,h.tape,h.output,h.size,fun k d c=>QE (fun e=>c (by rw[e])) a j w⟩
section
variable {α:Type}{A:Lay α}{e:TypeId}{w:World}{lo g n:Nat}{l:List α}{xs:List Value}
theorem Qao.fill (h:Qao A e w lo (.slice (some ⟨g,0,none⟩) l.length n) l xs){x:α}(m:A.In w (fun k=>lo<=k/\k≠g) x ds) (q:l.length<n) :
 Qao A e (w.setCells g (l.length*A.size) ds) lo (.slice (some ⟨g,0,none⟩) (l.length+1) n) (l++[x]) (xs++ds):=by
 have b:=A.len m;refine Qao.push h (Yc m (fun k j _=>⟨j.1,fun e=>j.2 (by simpa[Value.ownBlock] using e.symm)⟩)) (Qdk w g _ ds) (.inl Z) ?_;obtain⟨o,v⟩:=h.own
 rcases v with ⟨d,_⟩|⟨y,p,c,d,s,t,r,i,f,a⟩
 ·simp at d
 ·simp only[Value.slice.injEq,Option.some.injEq,Addr.mk.injEq,and_true,true_and] at d
  obtain⟨rfl,rfl⟩:=d
  have u:(l.length+1)*A.size<=n*A.size:=Xp _ q;rw[Nat.add_mul,XM] at u
  refine⟨by rw[List.length_append,o,b,Nat.add_mul,XM],.inr ⟨g,n,QaC c (l.length*A.size) ds,Z,s,Qch ds w c _ t (by omega),q,i,?_,?_⟩⟩
  ·rw[<-f];unfold QaC;simp;omega
  ·unfold QaC;rw[a,Nat.add_mul,XM]
   rw[show l.length*A.size+A.size=(xs++ds).length by rw[List.length_append,o,b],List.toList_toArray,<-List.append_assoc]
   exact List.take_left' Z
end
section
variable {P:Program}{Q:Exit->Act->World->Prop}
def Qgo (l:List Oper) (S:Nat->Bool):Prop:=∀ (j:Nat) (o:Oper),l[j]?=some o->S j=true->∀ e∈o.after,Region.binds .any e=true->S e.on=true
def Qnf (o:Oper) (S:Nat->Bool):Prop:=∀ e∈o.after,Region.binds .any e=true->S e.on=true
def Qct (i:Nat) (S:Nat->Bool):Nat->Bool:=fun j=>j==i||S j
end
section
variable (E:Tmp->Value->World->Prop) (W:(Nat->Bool)->World->Prop) (R:World->World->Prop) (P:Program) (l:List Oper)
def ZJ (ops:Array Oper):List (Nat × Option Bool)->Prop
 | []=>True
 | (g,c)::r=>(∀ t,(ops[g]?).bind (·.dst)=some t->∀ v w,E t v w->match c with | some b=>v=.bool b | none=>v=undef)/\ZJ ops r
end
section
variable {P:Program}{E:Tmp->Value->World->Prop}{W:(Nat->Bool)->World->Prop}{R:World->World->Prop}
theorem QdM {a:Array Oper}:∀ (gs:List (Nat × Option Bool)),ZJ E a gs->∀ g c,gs.lookup g=some c->∀ t,(a[g]?).bind (·.dst)=some t->∀ v w,E t v w->match c with | some b=>v=.bool b | none=>v=undef
 | [],_,_,_,h=>by simp at h
 | (g',c')::r,h,g,c,hl=>by
   by_cases e:g=g'
   ·subst e;simp at hl;subst hl;exact h.1
   ·have d:(g==g')=false:=by simpa using e
    simp[List.lookup_cons,d] at hl;exact QdM r h.2 g c hl
end
def Qm2 (l:List Oper) (S:Nat->Bool) (t:Tmp):Prop:=t∈Qt l->∃ j o,l[j]?=some o/\o.dst=some t/\S j=true
def PEx (PX:List PanicEntry->World->Prop):Exit->Act->World->Prop:=fun e _ w=>∃ ch,e=.panic ch/\PX ch w
theorem Qn5 {o:Oper}{a:Act}{K f:Act->World->Prop}{PX:List PanicEntry->World->Prop}{Q:Exit->Act->World->Prop}(h:∀ a w,K a w->f a w) (d:∀ e w,PEx PX e a w->Q e a w)
 (b:o.wp P a w K (PEx PX)):o.wp P a w f Q:=by
 unfold Oper.wp at *;generalize (execOp a.eval o).run P w=r at *
 cases r with
 | ok n w' =>
   cases n<;>simp only[Oper.upon] at b |- <;>
    first
     | exact h _ _ b
     | exact d _ _ b
     | exact Xm b (fun e g c=>by cases e<;>first | exact h _ _ c | exact d _ _ c | (obtain⟨x,y,i,c,_⟩:=c;cases c))
     | exact Rows.mono b (fun _ _ c=>h _ _ c)
 | halt x w'=>cases x<;>simp only[Oper.upon] at b |-<;>first | exact d _ _ b | exact b
section
variable (E:(Nat->Bool)->Tmp->Value->World->Prop) (W:(Nat->Bool)->World->Prop) (PX:List PanicEntry->World->Prop) (P:Program) (l:List Oper)
def Qjp (i:Nat) (o:Oper):Prop :=
 ∀ (S:Nat->Bool) a w,S i=false->Qnf o S->Qgo l S->W S w->Qd5 (E S) a w (QeZ o)->∀ K:Act->World->Prop,(∀ v w',(∀ t,Qm2 l S t->E S t (a.tmps.getD t undef) w->E (Qct i S) t (a.tmps.getD t undef) w')->W (Qct i S) w'->EO (E (Qct i S)) o.dst v w'->K (a.put o.dst v) w')->o.wp P a w K (PEx PX)
def QgJ (i:Nat) (o:Oper):Prop:=∀ (S:Nat->Bool) (a:Act) w,S i=false->Qnf o S->Qgo l S->W S w->(W (Qct i S) w/\EO (E (Qct i S)) o.dst undef w/\∀ t,Qm2 l S t->E S t (a.tmps.getD t undef) w->E (Qct i S) t (a.tmps.getD t undef) w)
structure QlT (outs:List Tmp) (a0:Act) (listed:Array Bool) (a:Act) (w:World):Prop where
 world:W (fun j=>listed.getD j false) w
 closed:Qgo l (fun j=>listed.getD j false)
 defers:a.defers=a0.defers
 size:a.tmps.size=a0.tmps.size
 outer:∀ t,t ∉ Qt l->a.tmps[t]?=a0.tmps[t]?
 outs:∀ t∈outs,t ∉ Qt l->E (fun j=>listed.getD j false) t (a.tmps.getD t undef) w
 known:∀ j o t,l[j]?=some o->o.dst=some t->listed.getD j false=true->E (fun j=>listed.getD j false) t (a.tmps.getD t undef) w
def AllOkY:Nat->List Oper->List Bool->Prop
 | i,o::r,true::bs=>Qjp E W PX P l i o/\AllOkY (i+1) r bs
 | i,o::r,false::bs=>QgJ E W l i o/\AllOkY (i+1) r bs
 | _,_,_=>True
end
section
variable {P:Program}{E:(Nat->Bool)->Tmp->Value->World->Prop}{W:(Nat->Bool)->World->Prop}{PX:List PanicEntry->World->Prop}
theorem QfP {a:List Oper}(gs:List (Nat × Option Bool)):∀ (l:List Oper) (k:Nat) (bs:List Bool),Qlb gs l bs=true->AllOkY E W PX P a k l bs->∀ (i:Nat) (o:Oper),l[i]?=some o->(onB gs o true=true/\Qjp E W PX P a (k+i) o)\/(onB gs o false=true/\QgJ E W a (k+i) o)
 | [],_,_,_,_,_,_,h=>by simp at h
 | _::_,_,[],h,_,_,_,_=>by simp[Qlb] at h
 | x::l,k,b::bs,h,ha,i,o,ho=>by
   simp only[Qlb,Bool.and_eq_true] at h
   cases i with
   | zero =>
     simp at ho;subst ho
     cases b with
     | true=>exact .inl ⟨h.1,ha.1⟩
     | false=>exact .inr ⟨h.1,ha.1⟩
   | succ i =>
     simp at ho
     have e:k+(i+1)=k+1+i:=by omega
     rw[e]
     cases b with
     | true=>exact QfP gs l (k+1) bs h.2 ha.2 i o ho
     | false=>exact QfP gs l (k+1) bs h.2 ha.2 i o ho
theorem Qbk {l:List Oper}{outs:List Tmp}{gs:List (Nat × Option Bool)}{a0:Act}{Q:Exit->Act->World->Prop}
 (hX:∀ ch a w,a.defers=a0.defers->PX ch w->Q (.panic ch) a w) (hB:QaY l a0.tmps.size outs gs bs=true) (hG:∀ S,ZJ (E S) l.toArray gs) (hA:AllOkY E W PX P l 0 l bs)
 (aj:∀ (vs:Tmp->Value) (S:Nat->Bool) w',(∀ j,j<l.length->S j=true)->W S w'->(∀ t,(Qt l).contains t=true->E S t (vs t) w')->Q .normal (QN a0 vs (Qt l)) w') :
 ∀ (fuel:Nat) (listed:Array Bool) (a:Act) (w:World),listed.size=l.length->(listed.toList.filter (·==false)).length<=fuel->QlT E W l outs a0 listed a w ->
  wpAny P .any l.toArray Q fuel listed a w:=by
 simp only[QaY,Bool.and_eq_true] at hB
 obtain⟨⟨⟨⟨⟨av,al⟩,aa⟩,aw⟩,ar⟩,ak⟩:=hB
 have af:∀ (listed:Array Bool) (a:Act) (w:World),listed.size=l.length->Region.ready .any l.toArray listed=[]->QlT E W l outs a0 listed a w->Q .normal a w:=by
  intro listed a w hs R f
  have L:∀ j,j<l.length->listed.getD j false=true:=by
   intro j
   induction j using Nat.strongRecOn with
   | _ j ih =>
     intro u
     cases q:listed.getD j false with
     | true=>rfl
     | false =>
       exfalso
       have:j∈Region.ready .any l.toArray listed:=by
        unfold Region.ready;refine List.mem_filter.2 ⟨by simpa using u,?_⟩
        have e1:listed.getD j true=false:=by
         have ax:j<listed.size:=by omega
         simp[Array.getD,ax] at q |-;exact q
        have e2:l.toArray[j]?=some l[j]:=by simp[u]
        rw[e1,e2]
        simp only[Bool.not_false,Bool.true_and,Option.map_some,Option.getD_some]
        rw[Array.all_eq_true_iff_forall_mem]
        intro e H
        cases K:Region.binds .any e with
        | false=>rfl
        | true =>
          have:=back_at l 0 j l[j] ak (by simp[u]) e H K
          simp only[Bool.not_true,Bool.false_or]
          exact ih e.on (by omega) (by omega)
       rw[R] at this
       cases this
  have ae:∀ t∈Qt l,E (fun j=>listed.getD j false) t (a.tmps.getD t undef) w/\t<a0.tmps.size:=by
   intro t r;obtain⟨o,ho,y⟩:=List.mem_filterMap.1 r
   obtain⟨j,u⟩:=List.getElem?_of_mem ho
   have D:j<l.length:=by
    rcases Nat.lt_or_ge j l.length with h | h
    ·exact h
    ·rw[Xk h] at u;cases u
   exact⟨f.known j o t u y (L j D),by simpa using Xe.1 aa t r⟩
  have H:a=QN a0 (fun t=>a.tmps.getD t undef) (Qt l):=by
   have e1:a.tmps=(QN a0 (fun t=>a.tmps.getD t undef) (Qt l)).tmps:=by
    refine Array.ext (by rw[Qde,f.size]) fun t h1 h2=>?_;have h3:t<a0.tmps.size:=by rw[<-f.size];exact h1
    have:=Qgb (fun t=>a.tmps.getD t undef) (Qt l) a0 t h3
    rw[Xj h2] at this
    by_cases hm:t∈Qt l
    ·rw[Xs hm] at this
     simp only[Option.some.injEq] at this
     rw[this];simp[Array.getD,h1]
    ·rw[Xr hm,<-f.outer t hm,Xj h1] at this
     exact(Xn this).symm
   have e2:a.defers=(QN a0 (fun t=>a.tmps.getD t undef) (Qt l)).defers:=by rw[Qbs,f.defers]
   cases a with
   | mk t d =>
     simp only at e1 e2
     generalize hp:QN a0 (fun x=>t.getD x undef) (Qt l)=p at e1 e2 |-
     cases p;simp only at e1 e2;rw[e1,e2]
  rw[H]
  exact aj _ _ _ L f.world fun t r=>(ae t (by simpa using r)).1
 intro fuel
 induction fuel with
 | zero =>
   intro listed a w hs hf f
   have R:Region.ready .any l.toArray listed=[]:=by
    rw[List.eq_nil_iff_forall_not_mem]
    intro i hi;obtain⟨h1,h2⟩:=List.mem_filter.1 hi
    have D:i<l.length:=by simpa using h1
    simp only[Bool.and_eq_true,Bool.not_eq_true'] at h2
    have:listed[i]'(by omega)=false:=by
     have:=h2.1;simp[Array.getD,show i<listed.size by omega] at this;exact this
    have hm:false∈listed.toList.filter (·==false):=List.mem_filter.2 ⟨by rw[<-this];simp,by simp⟩
    have:=List.length_pos_of_mem hm
    omega
   exact⟨R,af listed a w hs R f⟩
 | succ fuel ih =>
   intro listed a w hs hf f;refine⟨fun R=>af listed a w hs R f,fun i hi=>?_⟩
   obtain⟨h1,h2⟩:=List.mem_filter.1 hi
   have D:i<l.length:=by simpa using h1
   simp only[Bool.and_eq_true,Bool.not_eq_true'] at h2
   obtain⟨ad,m⟩:=h2
   have J:i<listed.size:=by omega
   have T:listed[i]=false:=by simp[Array.getD,J] at ad;exact ad
   have ho:l.toArray[i]?=some l[i]:=by simp[D]
   have n:l[i]?=some l[i]:=by simp[D]
   generalize az:l[i]=o at ho n;rw[ho] at m
   simp only[Option.map_some,Option.getD_some] at m
   rw[Array.all_eq_true_iff_forall_mem] at m
   have z:∀ t∈o.looksAt l.toArray,E (fun j=>listed.getD j false) t (a.tmps.getD t undef) w:=by
    intro t r
    have:=Xe.1 (Xe.1 aw o (Zm n)) t r
    rw[Bool.or_eq_true] at this
    rcases this with h | h
    ·simp only[Bool.and_eq_true,Bool.not_eq_true'] at h
     exact f.outs t (by simpa using h.1) (by simpa using h.2)
    ·obtain⟨k,hk,h⟩:=Array.any_eq_true.1 h
     simp only[Bool.and_eq_true,beq_iff_eq] at h
     obtain⟨q,y⟩:=h
     have N:=m _ (Array.getElem_mem hk);rw[q] at N
     simp only[Bool.not_true,Bool.false_or] at N
     generalize o.after[k]=e at *;obtain⟨oj,au,aq⟩:=Option.bind_eq_some_iff.1 y
     exact f.known e.on oj t (by simpa using au) aq N
   have ap:Qd5 (E (fun j=>listed.getD j false)) a w (QeZ o):=Qd9 _ fun t r=>z t (by
    unfold Oper.looksAt;exact List.mem_append_left _ r)
   have hw:∀ b,onB gs o b=true->Region.wanted o (yielded l.toArray a.tmps)=b:=by
    intro b q;unfold onB at q;unfold Region.wanted
    cases hg:o.guard with
    | none=>rw[hg] at q;simp only at q |-;exact q.symm
    | some gw =>
      obtain⟨g,ay⟩:=gw
      rw[hg] at q
      simp only at q |-
      cases N:gs.lookup g with
      | none=>rw[N] at q;cases q
      | some c =>
        rw[N] at q
        simp only[beq_iff_eq] at q
        have hy:yielded l.toArray a.tmps g=c:=by
         unfold yielded;have ao:(g,c)∈gs:=mem_of_lookup gs g c N;have G:=Xe.1 av _ ao
         cases y:(l.toArray[g]?).bind (·.dst) with
         | none=>rw[y] at G;cases G
         | some t =>
           have hE:=z t (by unfold Oper.looksAt;rw[hg];simp only[y];simp);have I:=QdM gs (hG _) g c N t y _ _ hE;obtain⟨og,an,am⟩:=Option.bind_eq_some_iff.1 y
           have ab:t<a.tmps.size:=by
            rw[f.size]
            have:=Xe.1 aa t (List.mem_filterMap.2 ⟨og,Zm (by simpa using an),am⟩)
            simpa using this
           have r:a.tmps[t]?=some (a.tmps.getD t undef):=by simp[Array.getD,ab]
           simp only[Option.bind_some,r]
           cases c with
           | none=>simp only at I;rw[I];rfl
           | some b=>simp only at I;rw[I]
        rw[hy,q]
   have O:((listed.setIfInBounds i true).toList.filter (·==false)).length<=fuel:=by
    have h3:=filter_set listed.toList i (by simpa using J) (by simpa using T);rw[Array.toList_setIfInBounds]
    omega
   have s:(fun j=>(listed.setIfInBounds i true).getD j false)=Qct i (fun j=>listed.getD j false):=by
    funext j
    unfold Qct;by_cases e:j=i
    ·subst e;simp[Array.getD,J]
    ·have U:i≠j:=fun x=>e x.symm;rw[Za,Array.getElem?_setIfInBounds_ne U,<-Za]
     simp[e]
   have B:Qnf o (fun j=>listed.getD j false):=fun e H q=>by
    have:=m e H
    rw[q] at this
    simpa using this
   have ah:(fun j=>listed.getD j false) i=false:=by simp[Array.getD,J,T]
   have M:∀ v w',W (Qct i (fun j=>listed.getD j false)) w'->(∀ t,Qm2 l (fun j=>listed.getD j false) t->E (fun j=>listed.getD j false) t (a.tmps.getD t undef) w->E (Qct i (fun j=>listed.getD j false)) t (a.tmps.getD t undef) w')->EO (E (Qct i (fun j=>listed.getD j false))) o.dst v w'->QlT E W l outs a0 (listed.setIfInBounds i true) (a.put o.dst v) w':=by
    intro v w' X A I
    have C:∀ t,o.dst≠some t->(a.put o.dst v).tmps[t]?=a.tmps[t]?:=by
     intro t r
     cases y:o.dst with
     | none=>rfl
     | some d =>
       have:d≠t:=fun e=>r (by rw[y,e])
       simp[Act.put,this]
    have F:∀ (b c:Array Value) (t:Nat),b[t]?=c[t]?->b.getD t undef=c.getD t undef:=by
     intro b c t h;rw[Za,Za,h]
    refine⟨by rw[s];exact X,?_,?_,?_,?_,?_,?_⟩
    ·rw[s]
     intro j oj u hS e H K;unfold Qct at hS |-;by_cases e':j=i
     ·subst e';rw[n] at u
      obtain rfl:=Xn u
      have:=B e H K
      simp only at this
      simp[this]
     ·have:(j==i)=false:=by simpa using e'
      rw[this,Bool.false_or] at hS
      have:=f.closed j oj u hS e H K
      simp only at this
      simp[this]
    ·rw[<-f.defers];cases o.dst<;>rfl
    ·rw[<-f.size];cases o.dst<;>simp[Act.put]
    ·intro t r;rw[C t (fun e=>r (List.mem_filterMap.2 ⟨o,Zm n,e⟩)),f.outer t r]
    ·intro t r hn;rw[F _ _ t (C t (fun e=>hn (List.mem_filterMap.2 ⟨o,Zm n,e⟩)))]
     rw[s]
     exact A _ (fun h=>absurd h hn) (f.outs t r hn)
    ·intro j oj t u y ag;by_cases V:j=i
     ·subst V;rw[n] at u
      obtain rfl:=Xn u
      have ab:t<a.tmps.size:=by
       rw[f.size]
       have:=Xe.1 aa t (List.mem_filterMap.2 ⟨o,Zm n,y⟩)
       simpa using this
      rw[y] at I |-
      have:(a.put (some t) v).tmps.getD t undef=v:=by simp[Act.put,Array.getD,ab]
      rw[this,s];exact I
     ·have U:o.dst≠some t:=fun e=>V (nodup_apart l j i oj o t al u n y e);rw[F _ _ t (C t U)]
      have ai:i≠j:=fun e=>V e.symm
      have ac:listed.getD j false=true:=by
       rw[Za,Array.getElem?_setIfInBounds_ne ai] at ag
       rw[Za];exact ag
      rw[s]
      exact A _ (fun _=>⟨j,oj,u,y,ac⟩) (f.known j oj t u y ac)
   unfold wpOp;rw[ho]
   simp only
   rcases QfP gs l 0 bs ar hA i o n with ⟨h,A⟩|⟨h,A⟩
   ·rw[hw true h,Xs Z]
    refine .inl (Qn5 (fun a' w' hh=>hh) (fun e w' H=>by obtain⟨ch,rfl,hp⟩:=H;exact hX ch _ _ f.defers hp) ((XK i ▸ A) (fun j=>listed.getD j false) a w ah B f.closed f.world ap _ fun v w' R X I=>?_));exact ih _ _ _ (by simpa using hs) O (M v w' X R I)
   ·rw[hw false h]
    simp only[Bool.false_eq_true,if_false]
    have hO:=(XK i ▸ A) (fun j=>listed.getD j false) a w ah B f.closed f.world;exact ih _ _ _ (by simpa using hs) O (M undef w hO.1 hO.2.2 hO.2.1)
theorem Qc7 {l:List Oper}{outs:List Tmp}{gs:List (Nat × Option Bool)}{a:Act}{Q:Exit->Act->World->Prop}
 (E:(Nat->Bool)->Tmp->Value->World->Prop) (W:(Nat->Bool)->World->Prop) (PX:List PanicEntry->World->Prop) (r:∀ ch a' w,a'.defers=a.defers->PX ch w->Q (.panic ch) a' w)
 (s:P.follows .mixedOrders=true)  (u:a.tmps.size=m) (d:n<=m) (p:QaY l n outs gs bs=true)
 (g:∀ S,ZJ (E S) l.toArray gs) (v:W (fun _=>false) w.drew) (f:Qaf (E (fun _=>false)) a w.drew outs)
 (i:AllOkY E W PX P l 0 l bs)
 (b:∀ (vs:Tmp->Value) (S:Nat->Bool) w',(∀ j,j<l.length->S j=true)->W S w'->(∀ t,(Qt l).contains t=true->E S t (vs t) w')->Q .normal (QN a vs (Qt l)) w') :
 (Code.region id l.toArray true).wp P Q a w:=by
 refine wp_region_any s ?_
 have c:(fun j=>(Array.replicate l.length false).getD j false)=fun _=>false:=by
  funext j
  rw[Za,Array.getElem?_replicate]
  split<;>rfl
 have k:l.toArray.size=l.length:=by simp
 rw[k]
 refine Qbk r (Qaq (u ▸ d) p) g i b _ _ _ _ (by simp) ?_ ⟨by rw[c];exact v,(by rw[c];intro j o _ h;cases h),Z,Z,fun _ _=>rfl,(fun t e _=>by rw[c];exact Qa1 outs f t e),?_⟩
 ·simp only[Array.toList_replicate]
  exact Zt (List.length_filter_le _ _) (by simp)
 ·intro j o t y x q;simp[Array.getD] at q
end
section
variable (E:Tmp->Value->World->Prop) (W:World->Prop) (R:World->World->Prop) (PX:List PanicEntry->World->Prop) (P:Program)
def Qls (o:Oper):Prop :=
 ∀ a w,W w->Qd5 E a w (QeZ o)->∀ K:Act->World->Prop,(∀ v w',R w w'->W w'->EO E o.dst v w'->K (a.put o.dst v) w')->o.wp P a w K (PEx PX)
def AllOkC:List Oper->List Bool->Prop
 | o::r,true::bs=>Qls E W R PX P o/\AllOkC r bs
 | o::r,false::bs=>(∀ w,W w->EO E o.dst undef w)/\AllOkC r bs
 | _,_=>True
end
section
variable {P:Program}{E:Tmp->Value->World->Prop}{W:World->Prop}{R:World->World->Prop}{PX:List PanicEntry->World->Prop}
theorem Qgj {j:List Oper}(c:∀ t v w w',R w w'->E t v w->E t v w'):∀ (l:List Oper) (bs:List Bool) (k:Nat),AllOkC E W R PX P l bs->AllOkY (fun _=>E) (fun _=>W) PX P j k l bs
 | [],bs,k,h=>by cases bs<;>trivial
 | o::r,[],k,h=>trivial
 | o::r,true::bs,k,h=>⟨fun S a w _ _ _ b e K i=>h.1 a w b e K (fun v w' d f m=>i v w' (fun t _ g=>c t _ w w' d g) f m),Qgj c r bs (k+1) h.2⟩
 | o::r,false::bs,k,h=>⟨fun S a w _ _ _ b=>⟨b,h.1 w b,fun _ _ h=>h⟩,Qgj c r bs (k+1) h.2⟩
theorem Qc9 {l:List Oper}{outs:List Tmp}{gs:List (Nat × Option Bool)}{a:Act}{Q:Exit->Act->World->Prop}
 (E:Tmp->Value->World->Prop) (W:World->Prop) (R:World->World->Prop) (PX:List PanicEntry->World->Prop) (k:∀ ch a' w,a'.defers=a.defers->PX ch w->Q (.panic ch) a' w)
 (o:P.follows .mixedOrders=true)  (p:a.tmps.size=m) (c:n<=m) (j:QaY l n outs gs bs=true)
 (i:∀ t v w w',R w w'->E t v w->E t v w') (g:ZJ E l.toArray gs) (d:W w.drew) (f:Qaf E a w.drew outs)
 (h:AllOkC E W R PX P l bs)
 (b:∀ (vs:Tmp->Value) w',W w'->(∀ t,(Qt l).contains t=true->E t (vs t) w')->Q .normal (QN a vs (Qt l)) w') :
 (Code.region id l.toArray true).wp P Q a w :=
 Qc7 (fun _=>E) (fun _=>W) PX k o p c j (fun _=>g) d f (Qgj i l bs 0 h) (fun vs _ w' _ d e=>b vs w' d e)
end
section
variable {P:Program}{E:Tmp->Value->World->Prop}{W:World->Prop}{R:World->World->Prop}
theorem eoB (o:Option Tmp)(a:W w) (h:EO E o v w):EO (fun t v w=>W w/\E t v w) o v w:=by
 cases o with
 | none=>exact h
 | some t=>exact⟨a,h⟩
theorem knB (a:Act) (w:World):∀ l,Qd5 (fun t v w=>W w/\E t v w) a w l->Qd5 E a w l
 | [],h=>h
 | _::r,h=>⟨h.1.2,knB a w r h.2⟩
theorem Qne (d:∀ t v w w',R w w'->E t v w->E t v w'):∀ (l:List Oper) (bs:List Bool),Qen E W R P l bs->AllOkC (fun t v w=>W w/\E t v w) W (fun w w'=>R w w'/\W w') (fun _ _=>False) P l bs
 | [],bs,h=>by cases bs<;>trivial
 | o::r,[],h=>trivial
 | o::r,true::bs,h=>⟨fun a w b f K g=>wpq (fun _ _ h=>h) (h.1 a w b (knB a w _ f) K (fun v w' e c i=>g v w' ⟨e,c⟩ c (eoB o.dst c i))),Qne d r bs h.2⟩
 | o::r,false::bs,h=>⟨fun w b=>eoB o.dst b (h.1 w b),Qne d r bs h.2⟩
theorem guB {a:Array Oper}:∀ gs,QaO E W a gs->ZJ (fun t v w=>W w/\E t v w) a gs
 | [],h=>h
 | _::r,h=>⟨fun t c v w b=>h.1 t c v w b.1 b.2,guB r h.2⟩
theorem ouB {a:Act}{w:World}(b:W w):∀ l,Qaf E a w l->Qaf (fun t v w=>W w/\E t v w) a w l
 | [],h=>h
 | _::r,h=>⟨⟨b,h.1⟩,ouB b r h.2⟩
theorem QaV {l:List Oper}{outs:List Tmp}{gs:List (Nat × Option Bool)}{a:Act}{Q:Exit->Act->World->Prop}
 (E:Tmp->Value->World->Prop) (W:World->Prop) (R:World->World->Prop)
 (r:P.follows .mixedOrders=true)  (u:a.tmps.size=m) (c:n<=m) (q:QaY l n outs gs bs=true)
 (e:∀ t v w w',R w w'->E t v w->E t v w') (k:QaO E W l.toArray gs) (f:W w.drew) (j:Qaf E a w.drew outs)
 (p:Qen E W R P l bs)
 (b:∀ (vs:Tmp->Value) w',W w'->(∀ t,(Qt l).contains t=true->E t (vs t) w')->Q .normal (QN a vs (Qt l)) w') :
 (Code.region id l.toArray true).wp P Q a w :=
 Qc9 _ W _ (fun _ _=>False) (fun _ _ _ _ h=>h.elim) r u c q (fun t v w w' d o=>⟨d.2,e t v w w' d.1 o.2⟩) (guB gs k) f (ouB f outs j) (Qne e l bs p) (fun vs w' s i=>b vs w' s (fun t g=>(i t g).2))
end
theorem QmY (w:World) (c:List Value) (t:TypeId):∀ (j:Nat) (u:Value),c[j]?=some u->(w.alloc (.cells c.toArray t)).cell? ((⟨w.heap.size,0,none⟩:Addr).add j)=some u:=by
 intro j u h;have a:c.toArray[j]?=some u:=by simpa using h
 rw[Go.WideShapes.add_plain,XK]
 exact Qb (Qe w c.toArray t) j u a
def Qi (i:Nat):Code->Option Code
 | .region k ops d=>if k=i then some (.region k ops d) else none
 | .loop c=>Qi i c
 | .seq a b=>match Qi i a with
   | some c=>some c
   | none=>Qi i b
 | .block _ c=>Qi i c
 | .scope c=>Qi i c
 | .cond _ a b=>match Qi i a with
   | some c=>some c
   | none=>Qi i b
 | _=>none
def Qal (k:Nat):Code->List Oper
 | .region _ ops _=>ops.toList.drop k
 | _=>[]
theorem Qk {p:Addr}(h:w.cell? p=some v) (b:Below w.heap.size w w'):w'.cell? p=some v:=(b.cell (Xi w p h)).trans h
theorem ZN (w:World){rest:List Oper}{o:Oper}{a:Act}{Q:Exit->Act->World->Prop}(A:o.guard=none) (s x:Operand) (t:TypeId)
 (G:o.op=.call { callee:=.builtin .append,args:=#[s,x],argTypes:=#[t,t] })
 (e:TypeId) (i:TypeInfo) (z:Value) (size d:Nat) (F:P.underlying t=some (.slice e)) (hi:P.info? e=some i) (O:i.zero=some z)
 (l:i.size=size) (D:i.bytes=d) (B:z.cells.size=size) (E:0<size)
 (v:Value) (n:Nat) (xs:List Value) (S:a.eval s=v) (p:w.ownsRow 0 e size v n xs)
 (y:Addr) (m c:Nat) (b:List Value) (J:a.eval x=.slice (some y) m c) (I:b.length=m*size) (g:∀ j u,b[j]?=some u->w.cell? (y.add j)=some u) (M:∀ u∈b,u.oneCell'=true)
 (C:n+m<=maxLen) (f:(n+m)*d<=140737488355328)
 (h:∀ v' w',w'.ownsRow 0 e size v' (n+m) (xs++b)->w.grownBy w' v.ownBlock->(∀ k,v'.ownBlock=some k->v.ownBlock=some k\/k=w.heap.size)->wpList P ops Q rest (a.put o.dst v') w'):wpList P ops Q (o::rest) a w:=by
 obtain⟨v',w',N,R,H,_,q⟩:=run_append_own_at (P:=P) w 0 t o.type e i z size d F hi O l D B E v n xs p y m c b I g M C f (Xb _)
 refine wpList_plain A fun K L=>?_;unfold Oper.wp execOp;simp only[G,resolve,invoke,builtin,Sem.run_bind,Sem.run_pure,Result.andThen_ok,List.map_toArray,List.map_cons,List.map_nil,S,J,N]
 refine L _ _ (h v' w' R H (fun k r=>?_));rcases q with q | q
 ·rw[q] at r;exact .inl r
 ·rw[q] at r;exact .inr (by simpa using r.symm)
theorem QaR {z:Nat}{xs:List Value}(h:w.ownsRow 0 e z v n xs):∃ a c,v=.slice a n c:=by
 rcases h.2 with ⟨e,f⟩|⟨g,b,d,e,_⟩
 ·exact⟨none,0,by rw[e,f]⟩
 ·exact⟨_,_,e⟩
abbrev I64 (x:Int):Prop:=-9223372036854775808<=x/\x<=9223372036854775807
structure IP where
 pR:Option Addr
 cR:Nat
 pA:Option Addr
 cA:Nat
structure EP where
 pYR:Option Addr
 cYR:Nat
 pYA:Option Addr
 cYA:Nat
 pNR:Option Addr
 cNR:Nat
 pNA:Option Addr
 cNA:Nat
 pA:Option Addr
 cA:Nat
structure BP where
 pP:Option Addr
 cP:Nat
 pC:Option Addr
 cC:Nat
 e:EP
structure FP where
 pP:Option Addr
 cP:Nat
 pR:Option Addr
 cR:Nat
 pB:Option Addr
 cB:Nat
structure QhB (w:World) (O:Nat->Prop) (x:MTo) (pR:Option Addr) (cR:Nat) (pA:Option Addr) (cA:Nat):Prop where
 regs:intsL.In w O x.regs [.slice pR x.regs.length cR]
 args:intsL.In w O x.args [.slice pA x.args.length cA]
 bnd:I64 x.block
structure IIn (w:World) (O:Nat->Prop) (x:Qs) (i:IP):Prop where
 regs:intsL.In w O x.regs [.slice i.pR x.regs.length i.cR]
 args:intsL.In w O x.args [.slice i.pA x.args.length i.cA]
 bnd:I64 x.op/\I64 x.a/\I64 x.b/\I64 x.c/\I64 x.k/\I64 x.n
structure EIn (w:World) (O:Nat->Prop) (x:ZE) (e:EP):Prop where
 yes:QhB w O x.yes e.pYR e.cYR e.pYA e.cYA
 no:QhB w O x.no e.pNR e.cNR e.pNA e.cNA
 args:intsL.In w O x.args [.slice e.pA x.args.length e.cA]
 bnd:I64 x.op/\I64 x.a
structure BIn (w:World) (O:Nat->Prop){n:Nat}(x:MBlock n) (b:BP):Prop where
 params:(Qo n).In w O x.params [.slice b.pP x.params.length b.cP]
 code:insL.list.In w O x.code [.slice b.pC x.code.length b.cC]
 fin:EIn w O x.fin b.e
 bnd:I64 x.regs
structure FIn (w:World) (O:Nat->Prop){n:Nat}(x:MFunc n) (f:FP):Prop where
 params:(Qo n).In w O x.params [.slice f.pP x.params.length f.cP]
 results:(Qo n).In w O x.results [.slice f.pR x.results.length f.cR]
 blocks:(Zj n).list.In w O x.blocks [.slice f.pB x.blocks.length f.cB]
 bnd:I64 x.regs
section
variable {w w':World}{O O':Nat->Prop}{n:Nat}{cs:List Value}
theorem QhB.keep {x:MTo}(a:∀ k,O k->k<w.heap.size->w'.heap[k]?=w.heap[k]?) (b:∀ k,O k->k<w.heap.size->O' k) (h:QhB w O x pR cR pA cA):QhB w' O' x pR cR pA cA:=⟨Lay.keep _ a b h.regs,Lay.keep _ a b h.args,h.bnd⟩
theorem QhB.below {x:MTo}(h:QhB w O x pR cR pA cA) (a:Below w.heap.size w w'):QhB w' O x pR cR pA cA:=h.keep (fun k _ b=>a.block k b) (fun _ h _=>h)
theorem IIn.keep {x:Qs}{i:IP}(a:∀ k,O k->k<w.heap.size->w'.heap[k]?=w.heap[k]?) (b:∀ k,O k->k<w.heap.size->O' k) (h:IIn w O x i):IIn w' O' x i:=⟨Lay.keep _ a b h.regs,Lay.keep _ a b h.args,h.bnd⟩
theorem IIn.below {x:Qs}{i:IP}(h:IIn w O x i) (a:Below w.heap.size w w'):IIn w' O x i:=h.keep (fun k _ b=>a.block k b) (fun _ h _=>h)
theorem EIn.keep {x:ZE}{e:EP}(a:∀ k,O k->k<w.heap.size->w'.heap[k]?=w.heap[k]?) (b:∀ k,O k->k<w.heap.size->O' k) (h:EIn w O x e):EIn w' O' x e:=⟨h.yes.keep a b,h.no.keep a b,Lay.keep _ a b h.args,h.bnd⟩
theorem EIn.below {x:ZE}{e:EP}(h:EIn w O x e) (a:Below w.heap.size w w'):EIn w' O x e:=h.keep (fun k _ b=>a.block k b) (fun _ h _=>h)
theorem BIn.keep {x:MBlock n}{b:BP}(a:∀ k,O k->k<w.heap.size->w'.heap[k]?=w.heap[k]?) (c:∀ k,O k->k<w.heap.size->O' k) (h:BIn w O x b):BIn w' O' x b:=⟨Lay.keep _ a c h.params,Lay.keep _ a c h.code,h.fin.keep a c,h.bnd⟩
theorem BIn.below {x:MBlock n}{b:BP}(h:BIn w O x b) (a:Below w.heap.size w w'):BIn w' O x b:=h.keep (fun k _ c=>a.block k c) (fun _ h _=>h)
theorem FIn.keep {x:MFunc n}{f:FP}(a:∀ k,O k->k<w.heap.size->w'.heap[k]?=w.heap[k]?) (b:∀ k,O k->k<w.heap.size->O' k) (h:FIn w O x f):FIn w' O' x f:=⟨Lay.keep _ a b h.params,Lay.keep _ a b h.results,Lay.keep _ a b h.blocks,h.bnd⟩
theorem FIn.below {x:MFunc n}{f:FP}(h:FIn w O x f) (a:Below w.heap.size w w'):FIn w' O x f:=h.keep (fun k _ b=>a.block k b) (fun _ h _=>h)
theorem QiA {x:MTo}(h:toL.In w O x cs):∃ pR cR pA cA,cs=[Iv x.block,.slice pR x.regs.length cR,.slice pA x.args.length cA]/\QhB w O x pR cR pA cA:=by
 obtain⟨a,c,b,d,rfl,e,g,f⟩:=QfG h
 exact⟨a,c,b,d,Z,e,g,f⟩
theorem QhI {x:MTo}(h:QhB w O x pR cR pA cA):toL.In w O x [Iv x.block,.slice pR x.regs.length cR,.slice pA x.args.length cA]:=Qnn h.regs h.args h.bnd
theorem Qem {x:Qs}(h:insL.In w O x cs):∃ i:IP,cs=[Iv x.op,Iv x.a,Iv x.b,Iv x.c,Iv x.k,Iv x.n,.slice i.pR x.regs.length i.cR,.slice i.pA x.args.length i.cA]/\IIn w O x i:=by
 obtain⟨a,c,b,d,rfl,e,g,f⟩:=QkW h
 exact⟨⟨a,c,b,d⟩,Z,e,g,f⟩
theorem Qel {x:ZE}(h:endL.In w O x cs):∃ e:EP,cs=[Iv x.op,Iv x.a,Iv x.yes.block,.slice e.pYR x.yes.regs.length e.cYR,.slice e.pYA x.yes.args.length e.cYA,Iv x.no.block,.slice e.pNR x.no.regs.length e.cNR,.slice e.pNA x.no.args.length e.cNA,.slice e.pA x.args.length e.cA]/\EIn w O x e:=by
 obtain⟨r,q,a,c,rfl,n,o,i,l⟩:=QgM h
 obtain⟨m,p,pA,cA,rfl,f⟩:=QiA n
 obtain⟨k,b,j,d,rfl,g⟩:=QiA o
 exact⟨⟨m,p,pA,cA,k,b,j,d,a,c⟩,Z,f,g,i,l⟩
theorem QgE {x:ZE}{e:EP}(h:EIn w O x e):endL.In w O x [Iv x.op,Iv x.a,Iv x.yes.block,.slice e.pYR x.yes.regs.length e.cYR,.slice e.pYA x.yes.args.length e.cYA,Iv x.no.block,.slice e.pNR x.no.regs.length e.cNR,.slice e.pNA x.no.args.length e.cNA,.slice e.pA x.args.length e.cA]:=Qmf (QhI h.yes) (QhI h.no) h.args h.bnd
theorem Qcd {x:MBlock n}(h:(Zj n).In w O x cs):∃ b:BP,cs=[Iv x.regs,.slice b.pP x.params.length b.cP,.slice b.pC x.code.length b.cC,Iv x.fin.op,Iv x.fin.a,Iv x.fin.yes.block,.slice b.e.pYR x.fin.yes.regs.length b.e.cYR,.slice b.e.pYA x.fin.yes.args.length b.e.cYA,Iv x.fin.no.block,.slice b.e.pNR x.fin.no.regs.length b.e.cNR,.slice b.e.pNA x.fin.no.args.length b.e.cNA,.slice b.e.pA x.fin.args.length b.e.cA]/\BIn w O x b:=by
 obtain⟨a,c,b,d,l,rfl,i,j,f,g⟩:=Qcb h
 obtain⟨e,rfl,k⟩:=Qel f
 exact⟨⟨a,c,b,d,e⟩,Z,i,j,k,g⟩
theorem QcV {x:MFunc n}(h:(ZS n).In w O x cs):∃ f:FP,cs=[Iv x.regs,.slice f.pP x.params.length f.cP,.slice f.pR x.results.length f.cR,.slice f.pB x.blocks.length f.cB]/\FIn w O x f:=by
 obtain⟨a,c,b,d,e,f,rfl,i,k,g,j⟩:=Qas h
 exact⟨⟨a,c,b,d,e,f⟩,Z,i,k,g,j⟩
theorem QiB {l:List Qs}(h:(insL).list.In w O l [.slice p m c]){x:Qs}(q:l[i]?=some x) :
 ∃ (g o:Nat) (i':IP),p=some ⟨g,o,none⟩/\w.rangeAt g (o+i*8) [Iv x.op,Iv x.a,Iv x.b,Iv x.c,Iv x.k,Iv x.n,.slice i'.pR x.regs.length i'.cR,.slice i'.pA x.args.length i'.cA]/\IIn w O x i':=by
 obtain⟨g,o,u,e,z,y,d,s⟩:=Yf h q
 obtain⟨i',rfl,r⟩:=Qem s
 have t:(insL).size=8:=rfl;rw[t] at d
 exact⟨g,o,i',e,fun j v f=>(d j (by have:=(Zi f).1;simpa using this)).trans f,r⟩
theorem Qeu {l:List (MBlock n)}(h:(Zj n).list.In w O l [.slice p m c]){x:MBlock n}(k:l[i]?=some x) :
 ∃ (g o:Nat) (b:BP),p=some ⟨g,o,none⟩/\w.rangeAt g (o+i*12) [Iv x.regs,.slice b.pP x.params.length b.cP,.slice b.pC x.code.length b.cC,Iv x.fin.op,Iv x.fin.a,Iv x.fin.yes.block,.slice b.e.pYR x.fin.yes.regs.length b.e.cYR,.slice b.e.pYA x.fin.yes.args.length b.e.cYA,Iv x.fin.no.block,.slice b.e.pNR x.fin.no.regs.length b.e.cNR,.slice b.e.pNA x.fin.no.args.length b.e.cNA,.slice b.e.pA x.fin.args.length b.e.cA]/\BIn w O x b:=by
 obtain⟨g,o,t,e,y,u,d,r⟩:=Yf h k
 obtain⟨b,rfl,q⟩:=Qcd r
 have s:(Zj n).size=12:=rfl;rw[s] at d
 exact⟨g,o,b,e,fun j v f=>(d j (by have:=(Zi f).1;simpa using this)).trans f,q⟩
theorem Qfr {l:List (MFunc n)}(h:(ZS n).list.In w O l [.slice p m c]){x:MFunc n}(d:l[i]?=some x) :
 ∃ (g o:Nat) (f:FP),p=some ⟨g,o,none⟩/\w.rangeAt g (o+i*4) [Iv x.regs,.slice f.pP x.params.length f.cP,.slice f.pR x.results.length f.cR,.slice f.pB x.blocks.length f.cB]/\FIn w O x f:=by
 obtain⟨g,o,s,e,u,t,a,q⟩:=Yf h d
 obtain⟨f,rfl,k⟩:=QcV q
 have r:(ZS n).size=4:=rfl;rw[r] at a
 exact⟨g,o,f,e,fun j v b=>(a j (by have:=(Zi b).1;simpa using this)).trans b,k⟩
end
theorem QkM (op:Int):op=1\/op=2\/op=3\/op=4\/op=5\/op=6\/op=7\/op=8\/op=9\/op=10\/op=11\/op=12\/op=13\/op=14\/(op≠1/\op≠2/\op≠3/\op≠4/\op≠5/\op≠6/\op≠7/\op≠8/\op≠9/\op≠10/\op≠11/\op≠12/\op≠13/\op≠14):=by omega
def Qb6 (funcs:Nat) (op a b c k n:Int) (rl al:Nat):Int :=
 match Q4 op with
 | none=>3
 | some (fa,fb,fc,fk,fn,fr,fs) =>
   if (!fa&&a != 0)||(!fb&&b != 0)||(!fc&&c != 0)||(!fk&&k != 0)||(!fn&&n != 0)||(!fr&&decide (0<rl))||(!fs&&decide (0<al)) then 4
   else if op=2/\(k<1\/9<k) then 1
   else if op=5/\8<al then 2
   else if (op=6\/op=7)/\(k<0\/7<k) then 1
   else if op=14/\(k<0\/(funcs:Int)<=k) then 1
   else if op=14/\(6<rl\/8<al) then 2
   else 0
theorem Qs.form_eq (d:Nat) (x:Qs):x.form d=Qb6 d x.op x.a x.b x.c x.k x.n x.regs.length x.args.length:=by
 unfold Qs.form Qs.formless Qb6
 cases Q4 x.op with
 | none=>rfl
 | some p=>obtain⟨a,b,c,k,n,r,s⟩:=p;rfl
def rangeC (x l m:Int):Int:=if x<l\/m<x then 1 else 0
def manyC (len:Nat) (m:Int):Int:=if m<len then 2 else 0
def handedC (r:Nat) (m:Int) (s:Nat):Int:=if manyC r m≠0 then manyC r m else manyC s 8
def QjN (a b c k n:Int) (rl al:Nat):Bool:=a==0&&b==0&&c==0&&k==0&&n==0&&(rl:Int)==0&&(al:Int)==0
def ZG (funcs:Nat) (op k:Int) (rl al:Nat):Int :=
 if op=2 then rangeC k 1 9 else if op=6\/op=7 then rangeC k 0 7 else if op=5 then manyC al 8
 else if op=14 then (if rangeC k 0 ((funcs:Int) - 1)=0 then handedC rl 6 al else rangeC k 0 ((funcs:Int) - 1)) else 0
theorem fb (f:Bool) (a:Int):(!f&&a != 0)=!((bif f then 0 else a)==0):=by cases f<;>simp[bne]
theorem fbn (f:Bool) (l:Nat):(!f&&decide (0<l))=!(((bif f then 0 else l:Nat):Int)==0):=by
 cases f
 ·by_cases h:l=0
  ·simp[h]
  ·have:0<l:=by omega
   simp[this,h]
 ·simp
theorem QiZ (e:Nat) (op k:Int) (rl al:Nat):(if op=2/\(k<1\/9<k) then 1
 else if op=5/\8<al then 2
 else if (op=6\/op=7)/\(k<0\/7<k) then 1
 else if op=14/\(k<0\/(e:Int)<=k) then 1
 else if op=14/\(6<rl\/8<al) then 2
 else 0)=ZG e op k rl al:=by
 unfold ZG;by_cases c:op=2
 ·subst c;simp[rangeC]
 ·by_cases d:op=6\/op=7
  ·have b:¬ op=5:=by omega
   have a:¬ op=14:=by omega
   simp[c,b,d,a,rangeC]
  ·by_cases b:op=5
   ·subst b;simp[manyC];split<;>split<;>omega
   ·by_cases a:op=14
    ·subst a;simp[rangeC,handedC,manyC]
     repeat' split
     all_goals omega
    ·simp[c,b,d,a]
theorem Qex {i:Nat}{op a b c k n:Int}{f d g h fn fr fs:Bool}(e:Q4 op=some (f,d,g,h,fn,fr,fs)) :
 Qb6 i op a b c k n rl al=if QjN (bif f then 0 else a) (bif d then 0 else b) (bif g then 0 else c) (bif h then 0 else k) (bif fn then 0 else n) (bif fr then 0 else rl) (bif fs then 0 else al)=true then ZG i op k rl al else 4:=by
 simp only[Qb6,e,QiZ]
 rw[fb,fb,fb,fb,fb,fbn,fbn]
 unfold QjN;generalize ((bif f then 0 else a)==0)=q;generalize ((bif d then 0 else b)==0)=l;generalize ((bif g then 0 else c)==0)=o;generalize ((bif h then 0 else k)==0)=p;generalize ((bif fn then 0 else n)==0)=r;generalize (((bif fr then 0 else rl:Nat):Int)==0)=m;generalize (((bif fs then 0 else al:Nat):Int)==0)=j
 cases q<;>cases l<;>cases o<;>cases p<;>cases r<;>cases m<;>cases j<;>rfl
theorem Qf0 (h:f<1000000):Rd prog 118 #[Iv (f:Int)] w (Iv (10000*(f:Int)+9999)):=by
 unfold Rd;skip
 skip
 go_enter func118,ntmps118
 go_wp2
 go_ret;refine⟨?_,Zr⟩
 show Ending.returned (Iv ((f:Int)*10000+9999))=_;congr 2
 omega
theorem Qfm (h:f<1000000/\b<1000000):Rd prog 181 #[Iv (f:Int),Iv (b:Int)] w (Iv (10000*(f:Int)+100*(b:Int)+90)):=by
 unfold Rd;have a:=h.1;have c:=h.2;skip
 go_enter func181,ntmps181
 go_wp2
 go_ret;refine⟨?_,Zr⟩
 show Ending.returned (Iv ((f:Int)*10000+(b:Int)*100+90))=_;congr 2
 omega
theorem QdU (h:f<1000000/\b<1000000):Rd prog 131 #[Iv (f:Int),Iv (b:Int)] w (Iv (10000*(f:Int)+100*(b:Int)+91)):=by
 unfold Rd;have a:=h.1;have c:=h.2;skip
 go_enter func131,ntmps131
 go_wp2
 go_ret;refine⟨?_,Zr⟩
 show Ending.returned (Iv ((f:Int)*10000+(b:Int)*100+91))=_;congr 2
 omega
theorem QdT (h:f<1000000/\b<1000000/\i<1000000):Rd prog 130 #[Iv (f:Int),Iv (b:Int),Iv (i:Int)] w (Iv (10000*(f:Int)+100*(b:Int)+(i:Int))):=by
 unfold Rd;have d:=h.1;have e:=h.2;have a:=h.2.1;have c:=h.2.2;go_enter func130,ntmps130
 go_wp2
 go_ret;refine⟨?_,Zr⟩
 show Ending.returned (Iv ((f:Int)*10000+(b:Int)*100+(i:Int)))=_;congr 2
 omega
theorem QaB {l m:Int}:Rd prog 262 #[Iv x,Iv l,Iv m] w (Iv (rangeC x l m)):=by
 unfold Rd rangeC;by_cases a:x<l
 ·rw[Xs (.inl a)]
  go_enter func262,ntmps262
  go_wp2
  go_ret;exact⟨Z,Zr⟩
 ·by_cases b:m<x
  ·rw[Xs (.inr b)]
   go_enter func262,ntmps262
   go_wp2
   go_ret;exact⟨Z,Zr⟩
  ·rw[Xr (by omega)]
   go_enter func262,ntmps262
   go_wp2
   go_ret;exact⟨Z,Zr⟩
theorem QaS {len:Nat}{m:Int}:Rd prog 263 #[.slice p len c,Iv m] w (Iv (manyC len m)):=by
 unfold Rd manyC;by_cases a:m<len
 ·rw[Xs a]
  go_enter func263,ntmps263
  go_wp2
  go_ret;exact⟨Z,Zr⟩
 ·rw[Xr a]
  go_enter func263,ntmps263
  go_wp2
  go_ret;exact⟨Z,Zr⟩
theorem Qbg {q:Option Addr}{r:Nat}{m:Int}:Rd prog 264 #[.slice p r c,Iv m,.slice q s d] w (Iv (handedC r m s)):=by
 have b:Hid (∀ a:World,Calls prog 263 #[.slice p r c,Iv m] a fun e j=>e=.returned (Iv (manyC r m))/\Below a.heap.size a j):=fun a=>QaS;have k:Hid (∀ a:World,Calls prog 263 #[.slice q s d,Iv 8] a fun e j=>e=.returned (Iv (manyC s 8))/\Below a.heap.size a j):=fun a=>QaS;unfold Rd handedC;by_cases h:manyC r m=0
 ·rw[Xr (by simpa using h)]
  rw[h] at b
  go_enter func264,ntmps264
  go_wp2_with fail
  refine(b.out w).mono ?_
  rintro e i ⟨rfl,f⟩;have g:Hid (Below w.heap.size w i):=f;clear f b;go_wp2_with fail
  refine(k.out i).mono ?_
  rintro e o ⟨rfl,l⟩;have n:Hid (Below w.heap.size w o):=g.out.trans (l.mono g.out.size);clear l k g;go_wp2
  go_ret;exact⟨Z,n.out⟩
 ·rw[Xs h]
  have t:(manyC r m==0)=false:=by simpa using h
  generalize manyC r m=v at b t h |-;go_enter func264,ntmps264
  go_wp2_with fail
  refine(b.out w).mono ?_
  rintro e i ⟨rfl,f⟩;have g:Hid (Below w.heap.size w i):=f;clear f b k;go_wp2
  go_ret;exact⟨Z,g.out⟩
theorem QdN {xop:Int}:Rd prog 228 #[.agg #[Iv xop,Iv xa,Iv xb,Iv xc,Iv xk,Iv xn,.slice ra rl rc,.slice aa al ac]] w (.bool (QjN xa xb xc xk xn rl al)):=by
 have D:(xa==0)=false\/xa=0/\((xb==0)=false\/xb=0/\((xc==0)=false\/xc=0/\((xk==0)=false\/xk=0/\((xn==0)=false\/xn=0/\(((rl:Int)==0)=false\/rl=0/\(((al:Int)==0)=false\/al=0)))))):=by
  simp only[beq_eq_false_iff_ne];omega
 unfold Rd;rcases D with g | ⟨rfl,g | ⟨rfl,g | ⟨rfl,g | ⟨rfl,g | ⟨rfl,g | ⟨rfl,g | rfl⟩⟩⟩⟩⟩⟩
 all_goals
  go_enter func228,ntmps228
  go_wp2
  go_ret;exact⟨by first | rfl | simp[QjN,g],Zc _ _⟩
def wfV (xop xa xb xc xk xn:Int) (ra aa:Option Addr) (rl rc al ac:Nat):Value:=match Q4 xop with
 | some (fa,fb,fc,fk,fn,fr,fs)=>.tuple #[.agg #[.int .i64 xop,.int .i64 (bif fa then 0 else xa),.int .i64 (bif fb then 0 else xb),.int .i64 (bif fc then 0 else xc),.int .i64 (bif fk then 0 else xk),.int .i64 (bif fn then 0 else xn),.slice (bif fr then none else ra) (bif fr then 0 else rl) (bif fr then 0 else rc),.slice (bif fs then none else aa) (bif fs then 0 else al) (bif fs then 0 else ac)],.bool true]
 | none=>.tuple #[.agg #[.int .i64 xop,.int .i64 xa,.int .i64 xb,.int .i64 xc,.int .i64 xk,.int .i64 xn,.slice ra rl rc,.slice aa al ac],.bool false]
theorem QmX {xop:Int}:Rd prog 227 #[.agg #[Iv xop,Iv xa,Iv xb,Iv xc,Iv xk,Iv xn,.slice ra rl rc,.slice aa al ac]] w (wfV xop xa xb xc xk xn ra aa rl rc al ac):=by
 rcases QkM xop with rfl | rfl | rfl | rfl | rfl | rfl | rfl | rfl | rfl | rfl | rfl | rfl | rfl | rfl | n
 rotate_right
 obtain⟨k,j,g,f,i,l,h,o,m,c,b,e,d,a⟩:=n
 have E:Q4 xop=none:=by simp[Q4, *]
 rw[<-beq_eq_false_iff_ne] at k j g f i l h o m c b e d a
 all_goals
  unfold Rd;go_enter func227,ntmps227
  go_wp2
  exact Xy (v:=wfV _ xa xb xc xk xn ra aa rl rc al ac) (by simp[results,results227,go_sem,wfV];first | (simp[Q4];done) | rw[E]) Z ⟨Z,QhA _ _ _⟩
theorem QhY {xop lo hi:Int}{d:Option Addr}{a:Nat}(h:xop=2/\lo=1/\hi=9\/xop=6/\lo=0/\hi=7\/xop=7/\lo=0/\hi=7):Rd prog 229 #[.agg #[.slice d a cm],.agg #[Iv xop,Iv xa,Iv xb,Iv xc,Iv xk,Iv xn,.slice ra rl rc,.slice aa al ac]] w (Iv (ZG a xop xk rl al)):=by
 have C:Hid (∀ c:World,Rd prog 262 #[Iv xk,Iv lo,Iv hi] c (Iv (rangeC xk lo hi))):=fun c=>QaB;unfold Rd;rw[show ZG a xop xk rl al=rangeC xk lo hi by rcases h with ⟨rfl,rfl,rfl⟩|⟨rfl,rfl,rfl⟩|⟨rfl,rfl,rfl⟩<;>rfl]
 generalize rangeC xk lo hi=v at C |-;rcases h with ⟨rfl,rfl,rfl⟩|⟨rfl,rfl,rfl⟩|⟨rfl,rfl,rfl⟩
 all_goals
  go_enter func229,ntmps229
  go_wp2_with fail
  refine(C.out _).mono ?_
  rintro e g ⟨rfl,b⟩;have f:Hid (Below w.heap.size w g):=(QhA _ _ _).trans (b.mono (QhA w _ _).size);clear b C;go_wp2
  go_ret;exact⟨Z,f.out⟩
theorem QlQ {d:Option Addr}{b:Nat}:Rd prog 229 #[.agg #[.slice d b cm],.agg #[Iv 5,Iv xa,Iv xb,Iv xc,Iv xk,Iv xn,.slice ra rl rc,.slice aa al ac]] w (Iv (ZG b 5 xk rl al)):=by
 have C:Hid (∀ a:World,Calls prog 263 #[.slice aa al ac,Iv 8] a fun e f=>e=.returned (Iv (manyC al 8))/\Below a.heap.size a f):=fun a=>QaS;rw[show ZG b 5 xk rl al=manyC al 8 from Z]
 generalize manyC al 8=v at C |-;unfold Rd;go_enter func229,ntmps229
 go_wp2_with fail
 refine(C.out _).mono ?_
 rintro e h ⟨rfl,c⟩;have g:Hid (Below w.heap.size w h):=(QhA _ _ _).trans (c.mono (QhA w _ _).size);clear c C;go_wp2
 go_ret;exact⟨Z,g.out⟩
theorem QjZ {g:Option Addr}{a:Nat}(s:a<2305843009213693952):Rd prog 229 #[.agg #[.slice g a cm],.agg #[Iv 14,Iv xa,Iv xb,Iv xc,Iv xk,Iv xn,.slice ra rl rc,.slice aa al ac]] w (Iv (ZG a 14 xk rl al)):=by
 have C:Hid (∀ b:World,Calls prog 262 #[Iv xk,Iv 0,Iv ((a:Int) - 1)] b fun e m=>e=.returned (Iv (rangeC xk 0 ((a:Int) - 1)))/\Below b.heap.size b m):=fun b=>QaB;have i:Hid (∀ b:World,Calls prog 264 #[.slice ra rl rc,Iv 6,.slice aa al ac] b fun e m=>e=.returned (Iv (handedC rl 6 al))/\Below b.heap.size b m):=fun b=>Qbg;rw[show ZG a 14 xk rl al=if rangeC xk 0 ((a:Int) - 1)=0 then handedC rl 6 al else rangeC xk 0 ((a:Int) - 1) from Z]
 generalize rangeC xk 0 ((a:Int) - 1)=v at C |-;generalize handedC rl 6 al=u at i |-;have f:Blk ((w.alloc (.cells #[.slice g a cm] 24)).alloc (.cells #[Iv 14,Iv xa,Iv xb,Iv xc,Iv xk,Iv xn,.slice ra rl rc,.slice aa al ac] 78)) (w.heap.size+1) #[Iv 14,Iv xa,Iv xb,Iv xc,Iv xk,Iv xn,.slice ra rl rc,.slice aa al ac] 78:=Blk.new2 _ _ _ _;have c:Hid (Below w.heap.size w ((w.alloc (.cells #[.slice g a cm] 24)).alloc (.cells #[Iv 14,Iv xa,Iv xb,Iv xc,Iv xk,Iv xn,.slice ra rl rc,.slice aa al ac] 78))):=QhA _ _ _;unfold Rd;by_cases k:v=0
 ·subst k;rw[Xs Z]
  go_enter func229,ntmps229
  go_wp2_with fail
  generalize ((w.alloc (.cells #[.slice g a cm] 24)).alloc (.cells #[Iv 14,Iv xa,Iv xb,Iv xc,Iv xk,Iv xn,.slice ra rl rc,.slice aa al ac] 78))=o at f c |-;refine(C.out _).mono ?_
  rintro e j ⟨rfl,d⟩;have l:=(d.block _ (XC f)).trans f;have h:Hid (Below w.heap.size w j):=c.out.trans (d.mono c.out.size);have t:=Qb l 6 _ Z;have x:=Qb l 7 _ Z;clear d C f c l;go_wp2_with fail
  refine(i.out _).mono ?_
  rintro e q ⟨rfl,n⟩;have p:Hid (Below w.heap.size w q):=h.out.trans (n.mono h.out.size);clear n i h;go_wp2
  go_ret;exact⟨Z,p.out⟩
 ·rw[Xr k]
  have r:(v==0)=false:=by simpa using k
  go_enter func229,ntmps229
  go_wp2_with fail
  generalize ((w.alloc (.cells #[.slice g a cm] 24)).alloc (.cells #[Iv 14,Iv xa,Iv xb,Iv xc,Iv xk,Iv xn,.slice ra rl rc,.slice aa al ac] 78))=o at f c |-;refine(C.out _).mono ?_
  rintro e j ⟨rfl,d⟩;have h:Hid (Below w.heap.size w j):=c.out.trans (d.mono c.out.size);clear d C i f c;go_wp2
  go_ret;exact⟨Z,h.out⟩
theorem QjM {xop:Int}{g:Option Addr}{b:Nat}(h:xop≠2/\xop≠6/\xop≠7/\xop≠5/\xop≠14):Rd prog 229 #[.agg #[.slice g b cm],.agg #[Iv xop,Iv xa,Iv xb,Iv xc,Iv xk,Iv xn,.slice ra rl rc,.slice aa al ac]] w (Iv (ZG b xop xk rl al)):=by
 obtain⟨c,f,d,e,a⟩:=h
 rw[show ZG b xop xk rl al=0 by simp[ZG,c,f,d,e,a]]
 have m:(xop==2)=false:=by simpa using c
 have l:(xop==6)=false:=by simpa using f
 have j:(xop==7)=false:=by simpa using d
 have k:(xop==5)=false:=by simpa using e
 have i:(xop==14)=false:=by simpa using a
 unfold Rd;go_enter func229,ntmps229
 go_wp2
 go_ret;exact⟨Z,QhA _ _ _⟩
theorem QdO {xop:Int}{d:Option Addr}{b:Nat}(a:b<2305843009213693952):Rd prog 229 #[.agg #[.slice d b cm],.agg #[Iv xop,Iv xa,Iv xb,Iv xc,Iv xk,Iv xn,.slice ra rl rc,.slice aa al ac]] w (Iv (ZG b xop xk rl al)):=by
 by_cases e:xop=5
 ·subst e;exact QlQ
 by_cases c:xop=14
 ·subst c;exact QjZ a
 by_cases h:xop=2\/xop=6\/xop=7
 ·rcases h with rfl | rfl | rfl
  ·exact QhY (.inl ⟨Z,Z,Z⟩)
  all_goals exact QhY (lo:=0) (hi:=7) (by simp)
 ·exact QjM (by omega)
theorem Qgg {xop:Int}{n o m:Int}{i b:Option Addr}{g h j c:Nat}{l:Option Addr}{p:Nat}{ok k:Bool}{v:Int}
 (C:Hid (∀ wx:World,Calls prog 227 #[.agg #[Iv xop,Iv xa,Iv xb,Iv xc,Iv xk,Iv xn,.slice ra rl rc,.slice aa al ac]] wx fun e w'=>e=.returned (.tuple #[.agg #[Iv xop,Iv ya,Iv yb,Iv n,Iv o,Iv m,.slice i g h,.slice b j c],.bool ok])/\Below wx.heap.size wx w'))
 (A:Hid (∀ wx:World,Calls prog 228 #[.agg #[Iv xop,Iv ya,Iv yb,Iv n,Iv o,Iv m,.slice i g h,.slice b j c]] wx fun e w'=>e=.returned (.bool k)/\Below wx.heap.size wx w'))
 (y:Hid (∀ wx:World,Calls prog 229 #[.agg #[.slice l p cm],.agg #[Iv xop,Iv xa,Iv xb,Iv xc,Iv xk,Iv xn,.slice ra rl rc,.slice aa al ac]] wx fun e w'=>e=.returned (Iv v)/\Below wx.heap.size wx w')) :
 Rd prog 184 #[.agg #[.slice l p cm],.agg #[Iv xop,Iv xa,Iv xb,Iv xc,Iv xk,Iv xn,.slice ra rl rc,.slice aa al ac]] w (Iv (if ok=false then 3 else if k=true then v else 4)):=by
 have f:Blk ((w.alloc (.cells #[.slice l p cm] 24)).alloc (.cells #[Iv xop,Iv xa,Iv xb,Iv xc,Iv xk,Iv xn,.slice ra rl rc,.slice aa al ac] 78)) w.heap.size #[.slice l p cm] 24:=Blk.new1 _ _ _ _ _;have a:Blk ((w.alloc (.cells #[.slice l p cm] 24)).alloc (.cells #[Iv xop,Iv xa,Iv xb,Iv xc,Iv xk,Iv xn,.slice ra rl rc,.slice aa al ac] 78)) (w.heap.size+1) #[Iv xop,Iv xa,Iv xb,Iv xc,Iv xk,Iv xn,.slice ra rl rc,.slice aa al ac] 78:=Blk.new2 _ _ _ _;have z:Hid (Below w.heap.size w ((w.alloc (.cells #[.slice l p cm] 24)).alloc (.cells #[Iv xop,Iv xa,Iv xb,Iv xc,Iv xk,Iv xn,.slice ra rl rc,.slice aa al ac] 78))):=QhA _ _ _;unfold Rd;go_enter func184,ntmps184
 go_wp2_with fail
 generalize ((w.alloc (.cells #[.slice l p cm] 24)).alloc (.cells #[Iv xop,Iv xa,Iv xb,Iv xc,Iv xk,Iv xn,.slice ra rl rc,.slice aa al ac] 78))=G at f a z |-;refine(C.out _).mono ?_
 rintro e q ⟨rfl,t⟩;replace f:=(t.block _ (XC f)).trans f;replace a:=(t.block _ (XC a)).trans a;have s:Hid (Below w.heap.size w q):=z.out.trans (t.mono z.out.size);clear t z C
 cases ok with
 | false =>
   have r:Hid (Below w.heap.size w (q.alloc (.cells #[Iv xop,Iv ya,Iv yb,Iv n,Iv o,Iv m,.slice i g h,.slice b j c] 78))):=s.out.trans ((Zc _ _).mono s.out.size);clear A y f a s;go_wp2
   go_ret;exact⟨Z,r.out⟩
 | true =>
   replace f:=((Zc q (.cells #[Iv xop,Iv ya,Iv yb,Iv n,Iv o,Iv m,.slice i g h,.slice b j c] 78)).block _ (XC f)).trans f;replace a:=((Zc q (.cells #[Iv xop,Iv ya,Iv yb,Iv n,Iv o,Iv m,.slice i g h,.slice b j c] 78)).block _ (XC a)).trans a;have r:Hid (Below w.heap.size w (q.alloc (.cells #[Iv xop,Iv ya,Iv yb,Iv n,Iv o,Iv m,.slice i g h,.slice b j c] 78))):=s.out.trans ((Zc _ _).mono s.out.size);go_wp2_with fail
   clear s;generalize q.alloc (.cells #[Iv xop,Iv ya,Iv yb,Iv n,Iv o,Iv m,.slice i g h,.slice b j c] 78)=K at f a r |-;refine(A.out _).mono ?_
   rintro e F ⟨rfl,u⟩;replace f:=(u.block _ (XC f)).trans f;replace a:=(u.block _ (XC a)).trans a;have x:Hid (Below w.heap.size w F):=r.out.trans (u.mono r.out.size);clear u r A
   cases k with
   | false =>
     clear y f a;go_wp2
     go_ret;exact⟨Z,x.out⟩
   | true =>
     have d:=Qb f 0 _ Z;have O:=Qb a 0 _ Z;have J:=Qb a 1 _ Z;have N:=Qb a 2 _ Z;have M:=Qb a 3 _ Z;have H:=Qb a 4 _ Z;have I:=Qb a 5 _ Z;have P:=Qb a 6 _ Z;have L:=Qb a 7 _ Z;clear f a;go_wp2_with fail
     refine(y.out _).mono ?_
     rintro e E ⟨rfl,B⟩;have D:Hid (Below w.heap.size w E):=x.out.trans (B.mono x.out.size);clear B x y;go_wp2
     go_ret;exact⟨Z,D.out⟩
theorem Qgm (d:Nat) (x:Qs) (i:IP) (h:Option Addr) (cm:Nat) (w:World) (g:d<2305843009213693952) :
 Rd prog 184 #[.agg #[.slice h d cm],.agg #[Iv x.op,Iv x.a,Iv x.b,Iv x.c,Iv x.k,Iv x.n,.slice i.pR x.regs.length i.cR,.slice i.pA x.args.length i.cA]] w (Iv (x.form d)):=by
 rw[Qs.form_eq]
 have f:=fun j=>QmX (xop:=x.op) (xa:=x.a) (xb:=x.b) (xc:=x.c) (xk:=x.k) (xn:=x.n) (ra:=i.pR) (aa:=i.pA) (rl:=x.regs.length) (rc:=i.cR) (al:=x.args.length) (ac:=i.cA) (w:=j)
 cases e:Q4 x.op with
 | none =>
   simp only[wfV,e] at f
   rw[show Qb6 d x.op x.a x.b x.c x.k x.n x.regs.length x.args.length=3 by unfold Qb6;rw[e]]
   exact Qgg (ok:=false) f (fun _=>QdN) (fun _=>QdO g)
 | some p =>
   obtain⟨m,l,o,r,s,t,q⟩:=p
   simp only[wfV,e] at f
   rw[Qex e]
   exact Qgg (ok:=true) f (fun _=>QdN) (fun _=>QdO g)
def Qha (L:List Bool) (i:Nat):Value:=if i=16 then Iv (L.length:Int) else .bool (L.getD i false)
def Qp (w:World) (b:Nat) (L:List Bool):Prop:=L.length<=16/\w.rowIs b 303 17 (Qha L)
theorem Qp.mark (h:Qp w b L)(a:k<16):w.cell? ⟨b,k,none⟩=some (.bool (L.getD k false)):=by
 have:=h.2.cell (i:=k) (by omega)
 rwa [Qha,Xr (by omega)] at this
theorem Qp.count (h:Qp w b L):w.cell? ⟨b,16,none⟩=some (Iv (L.length:Int)):=by
 have:=h.2.cell (i:=16) (by omega)
 rwa [Qha,Xs Z] at this
theorem Qp.keep (h:Qp w b L) (e:w'.heap[b]?=w.heap[b]?):Qp w' b L:=⟨h.1,h.2.of_block e⟩
theorem Qp.below (h:Qp w b L) (k:Below w.heap.size w w'):Qp w' b L:=h.keep (k.block b h.2.lt)
theorem Qp.lt (h:Qp w b L):b<w.heap.size:=h.2.lt
theorem Qp.setMark (h:Qp w b L)(d:k<L.length) (v:Bool):Qp (w.setCell ⟨b,k,none⟩ (.bool v)) b (L.set k v):=by
 refine⟨by simpa using h.1,(h.2.set k (.bool v)).congr fun i g=>?_⟩
 have f:=h.1;unfold Qha;by_cases a:i=16
 ·subst a;simp;omega
 ·rw[Xr a,Xr a]
  by_cases c:i=k
  ·subst c;simp[List.getD,d]
  ·have:¬ k=i:=fun e=>c e.symm
   simp[c,List.getD,this]
theorem Qp.push (h:Qp w b L) (e:L.length<16):Qp ((w.setCell ⟨b,L.length,none⟩ (.bool true)).setCell ⟨b,16,none⟩ (Iv ((L.length:Int)+1))) b (L++[true]):=by
 refine⟨by simp;omega,((h.2.set L.length (.bool true)).set 16 _).congr fun i f=>?_⟩
 unfold Qha;by_cases a:i=16
 ·subst a;simp
 ·rw[Xr a,Xr a,Xr a]
  by_cases d:i=L.length
  ·subst d;simp[List.getD]
  ·rw[Xr d]
   rcases Nat.lt_or_ge i L.length with c | c
   ·simp[List.getD,List.getElem?_append,c]
   ·rw[Qam L c,Qam (L++[true]) (by simp;omega)]
theorem QcA (r:Int) (h:Qp w b L) :
 Calls prog 272 #[Pv b 0,Iv r] w fun e w'=>e=.returned (.bool (hHas L r))/\w'=w:=by
 by_cases a:0<=r
 ·by_cases g:r<16
  ·obtain⟨k,rfl⟩:=Xc a
   have c:=h.mark (k:=k) (by omega);have E:Hid (hHas L (k:Int)=L.getD k false):=QcP L k;have i:k<16:=by omega
   clear h;generalize L.getD k false=q at c E;go_enter func272,ntmps272
   go_wp2
   go_ret;exact⟨by rw[E.out];rfl,Z⟩
  ·have E:Hid (hHas L r=false):=by
    show _=_;obtain⟨k,rfl⟩:=Xc a
    rw[QcP,Qam L (by have:=h.1;omega)]
   have d:decide (r<16)=false:=by simpa using g
   clear h;go_enter func272,ntmps272
   go_wp2
   go_ret;exact⟨by rw[E.out];rfl,Z⟩
 ·have E:Hid (hHas L r=false):=by show _=_;simp[hHas,a]
  have f:decide (0<=r)=false:=by simpa using a
  clear h;go_enter func272,ntmps272
  go_wp2
  go_ret;exact⟨by rw[E.out];rfl,Z⟩
theorem QkG (h:Qp w b L) :
 Calls prog 271 #[Pv b 0] w fun e w'=>e=.returned (Iv (L.length:Int))/\w'=w:=by
 have c:=h.count;clear h;generalize L.length=n at c;go_enter func271,ntmps271
 go_wp2
 go_ret;exact⟨Z,Z⟩
theorem QfQ {a:World}(h:Qz (fun k=>k=b) (fun k=>k=b) a w) (i:Nat) (v:Value):Qz (fun k=>k=b) (fun k=>k=b) a (w.setCell ⟨b,i,none⟩ v):=h.setCell (p:=⟨b,i,none⟩) Z v
theorem Qc5 (h:Qp w b L) :
 Calls prog 237 #[Pv b 0] w fun e w'=>e=.returned (Iv (QbM L))/\Qp w' b (QcH L)/\Qz (fun k=>k=b) (fun k=>k=b) w w':=by
 have c:=h.count;have l:=h.1;by_cases d:L.length<16
 ·have E:Hid (QbM L=(L.length:Int)/\QcH L=L++[true]):=by show _/\_;simp[QbM,QcH,d]
  have m:=h.mark d;have f:∀ i,w.frozen? ⟨b,i,none⟩=false:=h.2.frozen;have g:Hid (Qp ((w.setCell ⟨b,L.length,none⟩ (.bool true)).setCell ⟨b,16,none⟩ (Iv ((L.length:Int)+1))) b (L++[true])):=h.push d;have j:Hid (Qz (fun k=>k=b) (fun k=>k=b) w ((w.setCell ⟨b,L.length,none⟩ (.bool true)).setCell ⟨b,16,none⟩ (Iv ((L.length:Int)+1)))):=QfQ (QfQ (Qz.refl _ _) _ _) _ _;have a:((L.length:Int)==16)=false:=by simp;omega
  clear h;generalize o:L.length=n at c m g j E d a l;generalize L.getD n false=q at m;go_enter func237,ntmps237
  go_wp2_with fail
  go_region;go_wp2
  go_ret;rw[E.out.1,E.out.2]
  exact⟨Z,g.out,j.out.drew⟩
 ·have a:L.length=16:=by omega
  have E:Hid (QbM L=-1/\QcH L=L):=by show _/\_;simp[QbM,QcH,d]
  have g:Hid (Qp w b L):=h;rw[a] at c
  clear h d a l;go_enter func237,ntmps237
  go_wp2
  go_ret;rw[E.out.1,E.out.2]
  exact⟨Z,g.out,Qz.refl _ _⟩
theorem QjC (r:Int) (h:Qp w b L) :
 Calls prog 269 #[Pv b 0,Iv r] w fun e w'=>e=.returned (.bool (hHas L r))/\Qp w' b (QfV L r)/\Qz (fun k=>k=b) (fun k=>k=b) w w':=by
 have C:Hid (Calls prog 272 #[Pv b 0,Iv r] w fun e w'=>e=.returned (.bool (hHas L r))/\w'=w):=QcA r h
 cases hh:hHas L r with
 | false =>
   have E:Hid (QfV L r=L):=by show _=_;simp[QfV,hh]
   have d:Hid (Qp w b L):=h;rw[hh] at C
   clear h hh;go_enter func269,ntmps269
   go_wp2_with (go_at_call 272;refine(C.out).mono ?_;rintro e w' ⟨rfl,a⟩;have a:=a.symm;subst a)
   go_ret;rw[E.out]
   exact⟨Z,d.out,Qz.refl _ _⟩
 | true =>
   obtain⟨k,rfl,j,n⟩:=QaZ hh
   have E:Hid (QfV L (k:Int)=L.set k false):=by show _=_;simp[QfV,hh]
   have d:Hid (Qp (w.setCell ⟨b,k,none⟩ (.bool false)) b (L.set k false)):=h.setMark j false;have l:Hid (Qz (fun k=>k=b) (fun k=>k=b) w (w.setCell ⟨b,k,none⟩ (.bool false))):=QfQ (Qz.refl _ _) _ _;have c:k<16:=by have:=h.1;omega
   have g:(k:Int)<16:=by omega
   have m:=h.mark c;have f:∀ i,w.frozen? ⟨b,i,none⟩=false:=h.2.frozen;rw[hh] at C
   generalize L.getD k false=q at m;clear h hh n;go_enter func269,ntmps269
   go_wp2_with (go_at_call 272;refine(C.out).mono ?_;rintro e w' ⟨rfl,a⟩;have a:=a.symm;subst a)
   go_ret;rw[E.out]
   exact⟨Z,d.out,l.out⟩
theorem Qi0 (w:World):Qp (w.alloc (.cells #[.bool false,.bool false,.bool false,.bool false,.bool false,.bool false,.bool false,.bool false,.bool false,.bool false,.bool false,.bool false,.bool false,.bool false,.bool false,.bool false,Iv 0] 303)) w.heap.size []:=by
 refine⟨by simp,World.rowIs_alloc w _ _ _ fun i a=>?_⟩
 have a:i<17:=a;unfold Qha;match i,a with
 | 0,_ | 1,_ | 2,_ | 3,_ | 4,_ | 5,_ | 6,_ | 7,_ | 8,_ | 9,_ | 10,_ | 11,_ | 12,_ | 13,_ | 14,_ | 15,_ | 16,_=>rfl
 | i+17,h=>exact absurd h (by omega)
theorem Qj1 (w:World) (n:Int) (x:-9223372036854775808<=n/\n<=9223372036854775807) :
 Calls prog 208 #[Iv n] w fun e w'=>e=.returned (Pv w.heap.size 0)/\Qp w' w.heap.size (QbV n)/\Below w.heap.size w w':=by
 have Z:Hid (Qp (w.alloc (.cells #[.bool false,.bool false,.bool false,.bool false,.bool false,.bool false,.bool false,.bool false,.bool false,.bool false,.bool false,.bool false,.bool false,.bool false,.bool false,.bool false,Iv 0] 303)) w.heap.size []):=Qi0 w;obtain⟨M,t⟩:∃ M,(min n 16).toNat=M:=⟨_,Yz⟩
 have E:Hid (QbV n=List.replicate M true):=by show _=_;rw[QbV,t]
 have j:∀ k:Nat,k<M->(k:Int)<n/\(k:Int)<16:=fun k h=>by omega
 have u:∀ k:Nat,¬ k<M->¬ (k:Int)<n\/¬ (k:Int)<16:=fun k h=>by omega
 go_enter func208,ntmps208
 by_cases s:16<n
 ·have p:M=16:=by omega
  go_wp2
  go_loopw [8] (fun i wr=>∃ k:Nat,k<=M/\i=Iv k/\Qp wr w.heap.size (List.replicate k true)/\Below w.heap.size w wr) (fun i _=>M - (intOf i).toNat)
  case atStart=>exact⟨0,Xb _,Yz,Z.out,Zr.alloc Ze _⟩
  case round =>
   obtain⟨k,h,rfl,o,m⟩:=hrel
   have g:Hid (Qp wr w.heap.size (List.replicate k true)):=o;have c:Hid (Below w.heap.size w wr):=m;clear o m Z;by_cases d:k<M
   ·obtain⟨r,v⟩:=j k d
    go_wp2_with fail
    refine(Qc5 g.out).mono ?_
    rintro e l ⟨rfl,a,b⟩
    have R:Hid (Qp l w.heap.size (List.replicate (k+1) true)/\Below w.heap.size w l):=by
     refine⟨by rw[<-Qfa (by omega)];exact a,c.out.trans (b.below c.out.size fun k h=>by omega)⟩
    clear a b g c;go_wp2
    go_roundw
    case rel=>exact⟨k+1,by omega,by go_num,R.out⟩
    case measure=>simp[intOf];omega
   ·have q:¬ (k:Int)<16:=by omega
    have f:k=M:=by omega
    go_wp2
    go_ret;refine⟨Yz,?_,c.out⟩
    rw[E.out,<-f];exact g.out
 ·go_wp2
  go_loopw [8] (fun i wr=>∃ k:Nat,k<=M/\i=Iv k/\Qp wr w.heap.size (List.replicate k true)/\Below w.heap.size w wr) (fun i _=>M - (intOf i).toNat)
  case atStart=>exact⟨0,Xb _,Yz,Z.out,Zr.alloc Ze _⟩
  case round =>
   obtain⟨k,h,rfl,o,m⟩:=hrel
   have g:Hid (Qp wr w.heap.size (List.replicate k true)):=o;have c:Hid (Below w.heap.size w wr):=m;clear o m Z;by_cases d:k<M
   ·obtain⟨r,v⟩:=j k d
    go_wp2_with fail
    refine(Qc5 g.out).mono ?_
    rintro e l ⟨rfl,a,b⟩
    have R:Hid (Qp l w.heap.size (List.replicate (k+1) true)/\Below w.heap.size w l):=by
     refine⟨by rw[<-Qfa (by omega)];exact a,c.out.trans (b.below c.out.size fun k h=>by omega)⟩
    clear a b g c;go_wp2
    go_roundw
    case rel=>exact⟨k+1,by omega,by go_num,R.out⟩
    case measure=>simp[intOf];omega
   ·have q:¬ (k:Int)<n:=by omega
    have f:k=M:=by omega
    go_wp2
    go_ret;refine⟨Yz,?_,c.out⟩
    rw[E.out,<-f];exact g.out
theorem under16:prog.underlying 301=some (.array 16 4):=by kernel_rfl
theorem underB:prog.underlying 4=some .bool:=by kernel_rfl
theorem sizeB:(prog.info? 4).map (·.size)=some 1:=by kernel_rfl
theorem size16:(prog.info? 301).map (·.size)=some 16:=by kernel_rfl
theorem Qf6 {b w9:World}{lo:Nat}(m:Qao Lay.int 3 b lo (.slice a xs.length c) xs cs) (j:-9223372036854775808<=x/\x<=9223372036854775807){o:Obj}(d:lo<=b.heap.size)
 (p:w9.ownsRow lo 3 1 (.slice (some ⟨g,0,none⟩) (xs.length+1) cap) (xs.length+1) (cs++[Iv x])) (f:(b.alloc o).grownBy w9 (Value.slice a xs.length c).ownBlock) (n:(Value.slice a xs.length c).ownBlock=some g\/g=b.heap.size+1) :
 Qao Lay.int 3 w9 lo (.slice (some ⟨g,0,none⟩) (xs.length+1) cap) (xs++[x]) (cs++[Iv x])/\∀ w,Below lo w b->Below lo w w9:=by
 have e:=m.below (Zc b o);have h:Lay.int.In (b.alloc o) (fun g=>lo<=g/\(Value.slice a xs.length c).ownBlock≠some g) x [Iv x]:=Lay.int_mk _ _ j;refine⟨Qao.push e h f (by simpa using n) p,fun w l=>(l.alloc d _).grown f (by simp;omega) (fun k i=>(e.lo_le i).1)⟩
def Qia (w:World) (l:List Int) (e:Ending) (w':World):Prop:=∃ a c,e=.returned (.slice a l.length c)/\intsL.In w' (fun g=>w.heap.size<=g) l [.slice a l.length c]/\Below w.heap.size w w'
theorem Qjr (h:Qp w b L) :
 Calls prog 278 #[Pv b 0] w fun e w'=>Qia w (Qan L) e w':=by
 obtain⟨i0,hi,P,R,N⟩:=pInfoI
 have U:w.rangeAt b 0 ((List.range 16).map fun i=>Value.bool (L.getD i false)):=fun j v z=>by
  rw[XS] at z
  cases hj:(List.range 16)[j]? with
  | none=>rw[hj] at z;cases z
  | some k =>
    have t:j<16:=by have:=(Zi hj).1;simpa using this
    rw[List.getElem?_range t] at hj
    cases hj
    rw[List.getElem?_range t] at z
    simp only[Option.map_some,Option.some.injEq] at z
    rw[<-z,XK]
    exact h.mark t
 have E:Hid (hTo L 16=Qan L):=QmJ L 16 h.1
 have o:∀ (k:Nat) (l:World),k<16->(Instr.index 301 (.agg ((List.range 16).map fun i=>Value.bool (L.getD i false)).toArray) (Iv (k:Int))).run prog l=.ok (.bool (L.getD k false)) l:=fun k l W=>by
  have hp:(part 4 ((List.range 16).map fun i=>Value.bool (L.getD i false)).toArray (k*1)).run prog l=.ok (.bool (L.getD k false)) l:=by
   have hc:((List.range 16).map fun i=>Value.bool (L.getD i false)).toArray[k*1]?=some (.bool (L.getD k false)):=by
    simp[W]
   simp only[part,isAgg,Sem.run_bind,run_underlying underB,Result.andThen_ok,Sem.run_pure,Bool.false_eq_true,if_false,hc]
  have x:(sizeOf 4).run prog l=.ok 1 l:=by
   have V:=sizeB
   cases hq:prog.info? 4 with
   | none=>simp[hq] at V
   | some i=>simp[hq] at V;simp[sizeOf,typeInfo,hq,V]
  have M:(0:Int)<=(k:Int)/\(k:Int)<(16:Nat):=by omega
  simp only[Instr.index,asIntOf,Sem.run_bind,Sem.run_pure,run_underlying under16,Result.andThen_ok,M,and_self,if_true,x,Int.toNat_natCast,hp]
 have X:Hid ((prog.info? 301).map (·.size)=some ((List.range 16).map fun i=>Value.bool (L.getD i false)).length):=by show _=_;rw[XN,List.length_range];exact size16
 have HR:Hid (w.rangeAt b 0 ((List.range 16).map fun i=>Value.bool (L.getD i false))):=U;generalize ((List.range 16).map fun i=>Value.bool (L.getD i false))=K at U o HR X;clear U;clear h;go_enter func278,ntmps278
 go_wp2_with (refine wpList_load_mid Yz 301 (.tmp 8) Yz b 0 Yz K _ HR.out under16 Yz X.out ?_)
 go_loopw [3,10] (fun v u wr=>∃ k r,u=Iv (k:Nat)/\k<=16/\Qao Lay.int 3 wr w.heap.size v (hTo L k) r/\Below w.heap.size w wr) (fun _ u _=>16 - (intOf u).toNat)
 case atStart=>exact⟨0,[],Yz,by omega,Qao.nil _ _ _ _,Zr⟩
 case round =>
  obtain⟨k,r,rfl,W,T,O⟩:=hrel
  obtain⟨a,c,rfl⟩:=T.formP
  have A:Hid (Qao Lay.int 3 wr w.heap.size (.slice a (hTo L k).length c) (hTo L k) r):=T;have G:Hid (Below w.heap.size w wr):=O;have p:=QhO L k;have x:w.heap.size<=wr.heap.size:=O.size;clear T O;by_cases Q:k<16
  ·have aa:(k:Int)<16:=by omega
   have q:=fun l=>o k l Q;clear o
   cases hm:L.getD k false with
   | false =>
     have D:Hid (hTo L (k+1)=hTo L k):=by show _=_;rw[hTo,hm];simp
     rw[hm] at q
     clear hm;go_wp2
     go_roundw
     case rel=>exact⟨k+1,r,by go_num,by omega,by rw[D.out];exact A.out,G.out⟩
     case measure=>simp[intOf];omega
   | true =>
     have D:Hid (hTo L (k+1)=hTo L k++[(k:Int)]):=by show _=_;rw[hTo,hm];simp
     rw[hm] at q
     have d:Hid (wr.ownsRow w.heap.size 3 1 (.slice a (hTo L k).length c) (hTo L k).length r):=A.out.own
     have S:Hid (∀ g y m,m.ownsRow w.heap.size 3 1 (.slice (some ⟨g,0,none⟩) ((hTo L k).length+1) y) ((hTo L k).length+1) (r++[Iv (k:Int)])->(wr.alloc (.cells #[Iv (k:Int)] 3)).grownBy m (Value.slice a (hTo L k).length c).ownBlock->((Value.slice a (hTo L k).length c).ownBlock=some g\/g=wr.heap.size+1) ->
      Qao Lay.int 3 m w.heap.size (.slice (some ⟨g,0,none⟩) ((hTo L k).length+1) y) (hTo L (k+1)) (r++[Iv (k:Int)])/\Below w.heap.size w m):=by
      intro g y m J h2 h3;obtain⟨H,I⟩:=Qf6 A.out (by omega) x J h2 h3
      rw[D.out]
      exact⟨H,I w G.out⟩
     have EL:Hid ((hTo L (k+1)).length=(hTo L k).length+1):=by show _=_;rw[D.out];simp
     clear hm A G D;generalize (hTo L k).length=n at d S EL p |-;go_wp2_with (at_builtin;refine wpList_append_lies _ Yz (.tmp 15) (.tmp 17) 76 Yz w.heap.size 3 i0 (Iv 0) 1 8 pUnderI hi P R N Yz (by decide) _ _ _ Yz (d.out.alloc _) ⟨wr.heap.size,0,none⟩ 1 1 [Iv (k:Int)] Yz Yz (Qkh _ [_] _) (Qno _) (by decide) (by unfold maxLen;omega) (by omega) (by simp;omega) (wr.heap.size+1) (by simp) ?_)
     intro g2 s m J f B F;obtain⟨H,I⟩:=S.out g2 s m J f B
     have A9:Hid (Qao Lay.int 3 m w.heap.size (.slice (some ⟨g2,0,none⟩) (n+1) s) (hTo L (k+1)) (r++[Iv (k:Int)])):=H;have B9:Hid (Below w.heap.size w m):=I;clear J f B F d S H I;go_wp2
     go_roundw
     case rel=>exact⟨k+1,_,by go_num,by omega,A9.out,B9.out⟩
     case measure=>simp[intOf];omega
  ·have C:k=16:=by omega
   subst C
   have Z:Hid (Qia w (Qan L) (.returned (.slice a (hTo L 16).length c)) wr):=by
    rw[E.out]
    refine⟨a,c,Yz,?_,G.out⟩
    have:=A.out.lay
    rw[E.out] at this
    exact this
   clear A G o p;generalize (hTo L 16).length=n at Z;go_wp2
   go_ret;exact Z.out
theorem eqGuard16:prog.eqGuardType prog.depth 301=false:=by kernel_rfl
theorem Qiw (f:Nat->Bool){c:Array Value}(e:c.size=16):((w.alloc (.cells c t)).setCells w.heap.size 0 ((List.range 16).map fun i=>Value.bool (f i)).toArray.toList).rowIs w.heap.size t 16 (fun i=>.bool (f i)):=by
 have d:Blk (w.alloc (.cells c t)) w.heap.size ([]++c.toList).toArray t:=by rw[List.nil_append,Array.toArray_toList];exact Qe w c t
 have b:=Blk.sets ((List.range 16).map fun i=>Value.bool (f i)) [] c.toList (w.alloc (.cells c t)) (by simp[e]) d;refine⟨_,b,by simp,fun i a=>?_⟩
 simp[a]
theorem Qfx {f:Nat->Bool}(h:w.rowIs b t 16 (fun i=>.bool (f i))):w.rangeAt b 0 ((List.range 16).map fun i=>Value.bool (f i)):=fun j v c=>by
 rw[XS] at c
 cases hj:(List.range 16)[j]? with
 | none=>rw[hj] at c;cases c
 | some k =>
   have a:j<16:=by have:=(Zi hj).1;simpa using this
   rw[List.getElem?_range a] at hj
   cases hj
   rw[List.getElem?_range a] at c
   simp only[Option.map_some,Option.some.injEq] at c
   rw[<-c,XK]
   exact h.cell a
theorem Qp.marks (h:Qp w b L):w.rangeAt b 0 ((List.range 16).map fun i=>Value.bool (L.getD i false)):=fun j v c=>by
 rw[XS] at c
 cases hj:(List.range 16)[j]? with
 | none=>rw[hj] at c;cases c
 | some k =>
   have a:j<16:=by have:=(Zi hj).1;simpa using this
   rw[List.getElem?_range a] at hj
   cases hj
   rw[List.getElem?_range a] at c
   simp only[Option.map_some,Option.some.injEq] at c
   rw[<-c,XK]
   exact h.mark a
theorem QiN (f:Nat->Bool):((List.range 16).map fun i=>Value.bool (f i)).toArray.all (·.oneCell')=true :=
 all_oneCell_toArray fun v a=>by obtain⟨i,_,rfl⟩:=List.mem_map.1 a;rfl
theorem Qh3 (w:World) (t:TypeId) (c:Array Value) (n:Nat) (a:n<=c.size):(w.alloc (.cells c t)).there w.heap.size 0 n:=fun j b=>by
 have h:=Qe w c t;rw[XK]
 refine⟨?_,Qj h j⟩
 rw[Qb h j c[j] (by simp)];rfl
theorem QhX (hN:l.length=N) (ad:N<=100000) (hl:intsL.In w Q l [.slice a N c]) (h:Qp w b L) :
 Calls prog 286 #[Pv b 0,.slice a N c] w fun e w'=>e=.returned (Iv (hPass L [] l))/\Below w.heap.size w w':=by
 have HX:Hid (∀ i x,l[i]?=some x->∃ g o,a=some ⟨g,o,none⟩/\g<w.heap.size/\w.cell? ⟨g,o+i,none⟩=some (Iv x)):=fun i x v=>by
  obtain⟨g,o,ds,e1,e2,e3,hc,hd,V⟩:=Yf hl v
  have P:ds=[Iv x]:=hd;subst P;refine⟨g,o,e1,e3,?_⟩
  have:=hc 0 (by decide)
  simpa[Lay.int] using this
 have S:Hid (l.length=N):=hN;have HL:Hid (L.length<=16):=h.1;have HH:Hid (Qp w b L):=h
 have s:Hid (w.rangeAt b 0 ((List.range 16).map fun i=>Value.bool (Zy L [] i))):=by
  have:=h.marks
  simp only[<-QhV] at this
  exact this
 have y:Hid ((prog.info? 301).map (·.size)=some ((List.range 16).map fun i=>Value.bool (Zy L [] i)).length):=by show _=_;rw[XN,List.length_range];exact size16
 have R:Hid ((prog.info? 301).map (·.size)=some ((List.range 16).map fun i=>Value.bool (Zy L [] i)).toArray.size):=by show _=_;rw[List.size_toArray,XN,List.length_range];exact size16
 have X:Hid (((List.range 16).map fun i=>Value.bool (Zy L [] i)).toArray.all (·.oneCell')=true):=QiN _
 have W:Hid ((w.alloc (.cells #[.bool false,.bool false,.bool false,.bool false,.bool false,.bool false,.bool false,.bool false,.bool false,.bool false,.bool false,.bool false,.bool false,.bool false,.bool false,.bool false] 301)).there w.heap.size 0 ((List.range 16).map fun i=>Value.bool (Zy L [] i)).toArray.size):=by
  refine Qh3 w _ _ _ ?_;rw[List.size_toArray,XN,List.length_range]
  exact Ze
 have U:Hid (((w.alloc (.cells #[.bool false,.bool false,.bool false,.bool false,.bool false,.bool false,.bool false,.bool false,.bool false,.bool false,.bool false,.bool false,.bool false,.bool false,.bool false,.bool false] 301)).setCells w.heap.size 0 ((List.range 16).map fun i=>Value.bool (Zy L [] i)).toArray.toList).rowIs w.heap.size 301 16 (fun i=>.bool (Zy L [] i))):=Qiw _ Z
 have M:Hid (Below w.heap.size w ((w.alloc (.cells #[.bool false,.bool false,.bool false,.bool false,.bool false,.bool false,.bool false,.bool false,.bool false,.bool false,.bool false,.bool false,.bool false,.bool false,.bool false,.bool false] 301)).setCells w.heap.size 0 ((List.range 16).map fun i=>Value.bool (Zy L [] i)).toArray.toList)):=by
  have:=Qz.setCells (O:=fun k=>k=w.heap.size) (O':=fun k=>k=w.heap.size) (b:=w.heap.size) Z ((List.range 16).map fun i=>Value.bool (Zy L [] i)).toArray.toList 0 _ ((Qz.refl _ w).alloc (.cells #[.bool false,.bool false,.bool false,.bool false,.bool false,.bool false,.bool false,.bool false,.bool false,.bool false,.bool false,.bool false,.bool false,.bool false,.bool false,.bool false] 301))
  exact this.below Ze (fun k hk=>by omega)
 clear h hl hN;generalize ((List.range 16).map fun i=>Value.bool (Zy L [] i))=m at s y R X W U M;go_enter func286,ntmps286
 go_wp2_with (first | (refine wpList_load_mid Z 301 (.tmp 10) Z b 0 Z m _ s.out under16 Z y.out ?_) | (refine wpList_store_mid Z 301 (.tmp 5) (.tmp 11) Z w.heap.size 0 m.toArray Z Z W.out R.out X.out ?_))
 go_loopw [14] (fun u wr=>∃ k,u=Iv (k:Nat)/\k<=N/\wr.rowIs w.heap.size 301 16 (fun i=>.bool (Zy L (l.take k) i))/\Below w.heap.size w wr/\hPass L [] l=hPass L (l.take k) (l.drop k)) (fun u _=>N - (intOf u).toNat)
 case atStart=>exact⟨0,Z,Xb _,U.out,M.out,Z⟩
 case round =>
  obtain⟨k,rfl,hk,V,hB,hp⟩:=hrel
  have D:Hid (wr.rowIs w.heap.size 301 16 (fun i=>.bool (Zy L (l.take k) i))):=V;have t:Hid (Below w.heap.size w wr):=hB;have K:Hid (hPass L [] l=hPass L (l.take k) (l.drop k)):=hp;clear V hB hp U M s y R X W;by_cases G:k<N
  ·have f:l[k]?=some (l[k]'(by rw[S.out];exact G)):=Zg _;generalize l[k]'(by rw[S.out];exact G)=x at f;obtain⟨g,o,rfl,hg,J⟩:=HX.out k x f
   have ab:wr.cell? ⟨g,o+k,none⟩=some (Iv x):=(t.out.cell (p:=⟨g,o+k,none⟩) hg).trans J;have H:(k:Int)<N:=by omega
   have q:=Qhb L l f;rw[<-K.out] at q
   have C:Hid (Calls prog 272 #[Pv b 0,Iv x] wr fun e w'=>e=.returned (.bool (hHas L x))/\w'=wr):=QcA x (HH.out.below t.out)
   cases hh:hHas L x with
   | false =>
     rw[hh] at C q
     have E:Hid (hPass L [] l=10):=by show _=_;simpa using q
     clear q hh J f;go_wp2_with (go_at_call 272;refine(C.out).mono ?_;rintro e w' ⟨rfl,n⟩;have n:=n.symm;subst n)
     go_ret;exact⟨by rw[E.out];rfl,t.out⟩
   | true =>
     obtain⟨j,rfl,hj,T⟩:=QaZ hh
     rw[hh] at C q
     have F:j<16:=by have:=HL.out;omega
     have aa:(j:Int)<16:=by omega
     have cj:wr.cell? ⟨w.heap.size,j,none⟩=some (.bool (Zy L (l.take k) j)):=D.out.cell F;have fj:∀ i,wr.frozen? ⟨w.heap.size,i,none⟩=false:=D.out.frozen;have EJ:Zy L (l.take k) j=!inB (l.take k) (j:Int):=by rw[Zy,T,Bool.true_and]
     rw[EJ] at cj
     cases v:inB (l.take k) (j:Int) with
     | true =>
       rw[v] at q cj
       have E:Hid (hPass L [] l=13):=by show _=_;simpa using q
       clear q hh J f EJ v T;go_wp2_with (go_at_call 272;refine(C.out).mono ?_;rintro e w' ⟨rfl,n⟩;have n:=n.symm;subst n)
       go_ret;exact⟨by rw[E.out];rfl,t.out⟩
     | false =>
       rw[v] at q cj
       have E:Hid (hPass L [] l=hPass L (l.take (k+1)) (l.drop (k+1))):=by show _=_;simpa using q
       have ET:l.take (k+1)=l.take k++[(j:Int)]:=by rw[XV,f];rfl
       have RN:Hid ((wr.setCell ⟨w.heap.size,j,none⟩ (.bool false)).rowIs w.heap.size 301 16 (fun i=>.bool (Zy L (l.take (k+1)) i))):=by
        refine(D.out.set j (.bool false)).congr fun i v=>?_
        rw[ET,QgP]
        by_cases e:i=j
        ·rw[Xs e,Xs e]
        ·rw[Xr e,Xr e]
       have BN:Hid (Below w.heap.size w (wr.setCell ⟨w.heap.size,j,none⟩ (.bool false))):=t.out.setCell (p:=⟨w.heap.size,j,none⟩) Ze _;clear q hh J f EJ v T ET D t K;go_wp2_with (go_at_call 272;refine(C.out).mono ?_;rintro e w' ⟨rfl,n⟩;have n:=n.symm;subst n)
       go_roundw
       case rel=>exact⟨k+1,by go_num,by omega,RN.out,BN.out,E.out⟩
       case measure=>simp[intOf];omega
  ·have H:¬ (k:Int)<N:=by omega
   have B:l.length<=k:=by rw[S.out];omega
   have z:=Qja L l B;rw[<-K.out] at z
   have s:Hid (wr.rangeAt w.heap.size 0 ((List.range 16).map fun i=>Value.bool (Zy L (l.take k) i))):=Qfx D.out;rw[XO B] at s
   have y:Hid ((prog.info? 301).map (·.size)=some ((List.range 16).map fun i=>Value.bool (Zy L l i)).length):=by show _=_;rw[XN,List.length_range];exact size16
   have A:∀ I,(Op.equalIn 10000 301 (.agg ((List.range 16).map fun i=>Value.bool (Zy L l i)).toArray) (.agg #[.bool false,.bool false,.bool false,.bool false,.bool false,.bool false,.bool false,.bool false,.bool false,.bool false,.bool false,.bool false,.bool false,.bool false,.bool false,.bool false])).run prog I=.ok ((Qan L).all (fun r=>inB l r)) I:=fun I=>by
    have:=Qcc (d:=9998) under16 underB sizeB I ((List.range 16).map (Zy L l)) (List.replicate 16 false) (by simp) (by simp)
    rw[List.map_map] at this
    refine Eq.trans this ?_;congr 1
    rw[Bool.eq_iff_iff,beq_iff_eq]
    exact Qg3 HL.out
   generalize ((List.range 16).map fun i=>Value.bool (Zy L l i))=m at s y A;have ac:=eqGuard16;clear K D HX B
   cases hq:(Qan L).all (fun r=>inB l r) with
   | true =>
     rw[hq] at A z
     have E:Hid (hPass L [] l=0):=by show _=_;simpa using z
     clear z hq;go_wp2_with (refine wpList_load_mid Z 301 (.tmp 5) Z w.heap.size 0 Z m _ s.out under16 Z y.out ?_)
     go_ret;exact⟨by rw[E.out];rfl,t.out⟩
   | false =>
     rw[hq] at A z
     have E:Hid (hPass L [] l=12):=by show _=_;simpa using z
     clear z hq;go_wp2_with (refine wpList_load_mid Z 301 (.tmp 5) Z w.heap.size 0 Z m _ s.out under16 Z y.out ?_)
     go_ret;exact⟨by rw[E.out];rfl,t.out⟩
theorem QI {a:World}(h:Below B a w) (n:Nat):Below B a (w.drewN n):=⟨h.os,h.tape,h.output,h.size,h.block⟩
theorem Qa {p:Prop}(h:p):Hid p:=h
theorem Qjt (h:intsL.In w Q l [.slice a N c])(hi:i<=l.length) (c':Nat):intsL.In w Q (l.take i) [.slice a i c']:=by
 obtain⟨g,d,e,f⟩:=h
 simp only[List.cons.injEq,Value.slice.injEq,and_true] at e
 obtain⟨rfl,_,rfl⟩:=e
 refine⟨a,c',by simp[Nat.min_eq_left hi],fun j x b=>f j x ?_⟩
 rw[XR] at b
 split at b
 ·exact b
 ·cases b
abbrev Qgk (x:MBlock 6) (b:BP):Array Value:=#[Iv x.regs,.slice b.pP x.params.length b.cP,.slice b.pC x.code.length b.cC,Iv x.fin.op,Iv x.fin.a,Iv x.fin.yes.block,.slice b.e.pYR x.fin.yes.regs.length b.e.cYR,.slice b.e.pYA x.fin.yes.args.length b.e.cYA,Iv x.fin.no.block,.slice b.e.pNR x.fin.no.regs.length b.e.cNR,.slice b.e.pNA x.fin.no.args.length b.e.cNA,.slice b.e.pA x.fin.args.length b.e.cA]
abbrev zeroB:Array Value:=#[Iv 0,Nv,Nv,Iv 0,Iv 0,Iv 0,Nv,Nv,Iv 0,Nv,Nv,Nv]
theorem Qml (x:MBlock 6) (b:BP):(Qgk x b).all (·.oneCell')=true:=by
 show ([Iv x.regs,.slice b.pP x.params.length b.cP,.slice b.pC x.code.length b.cC,Iv x.fin.op,Iv x.fin.a,Iv x.fin.yes.block,.slice b.e.pYR x.fin.yes.regs.length b.e.cYR,.slice b.e.pYA x.fin.yes.args.length b.e.cYA,Iv x.fin.no.block,.slice b.e.pNR x.fin.no.regs.length b.e.cNR,.slice b.e.pNA x.fin.no.args.length b.e.cNA,.slice b.e.pA x.fin.args.length b.e.cA]:List Value).toArray.all (·.oneCell')=true;exact all_oneCell_toArray (Xe.1 Z)
theorem QjO {c:Array Value}(h:Blk w R c 86) (a:c.size=12) (x:MBlock 6) (b:BP):w.there R 0 (Qgk x b).size:=h.there (by rw[a];exact Nat.le_of_eq Z)
theorem QmP (h:Blk w R zeroB 86) (x:MBlock 6) (b:BP):Blk (w.setCells R 0 (Qgk x b).toList) R (Qgk x b) 86:=Blk.sets (Qgk x b).toList [] zeroB.toList w Z h
theorem QeH {B:Nat}{a:World}{R:Nat}(b:B<=R):∀ (vs:List Value) (o:Nat){w:World},Below B a w->Below B a (w.setCells R o vs)
 | [],_,_,h=>h
 | v::vs,o,w,h=>QeH b vs (o+1) (h.setCell (p:=⟨R,o,none⟩) b v)
theorem Qfw {l l2:List Oper}{outs:List Tmp}{gs:List (Nat × Option Bool)}{a:Act}{Q:Exit->Act->World->Prop}
 (E:Tmp->Value->World->Prop) (W:World->Prop) (R:World->World->Prop) (PX:List PanicEntry->World->Prop) (B:∀ ch a' w,a'.defers=a.defers->PX ch w->Q (.panic ch) a' w)
 (G:P.follows .mixedOrders=true)  (H:a.tmps.size=m) (i:n<=m) (A:QaY l n outs gs bs=true)
 (p:(Qcu 0 (l++l2)&&(Qbn l.length l&&QaL (l++l2) l.length l2))=true)
 (x:∀ t v w w',R w w'->E t v w->E t v w') (I:ZJ E l.toArray gs) (k:W w.drew) (D:Qaf E a w.drew outs)
 (F:AllOkC E W R PX P l bs)
 (b:∀ (vs:Tmp->Value) w',W w'->(∀ t,(Qt l).contains t=true->E t (vs t) w')->wpList P (l++l2).toArray Q l2 (QN a vs (Qt l)) w') :
 (Code.region id (l++l2).toArray true).wp P Q a w:=by
 simp only[Bool.and_eq_true] at p
 obtain⟨g,c,f⟩:=p
 refine wp_region_any G ?_
 have d:wpAny P .any l.toArray (Exit.then (fun a w=>wpList P (l++l2).toArray Q l2 a w) Q) l.length (Array.replicate l.length false) a w.drew:=by
  have u:(fun j=>(Array.replicate l.length false).getD j false)=fun _=>false:=by
   funext j
   rw[Za,Array.getElem?_replicate]
   split<;>rfl
  refine Qbk (E:=fun _=>E) (W:=fun _=>W) (PX:=PX) (Q:=Exit.then (fun a w=>wpList P (l++l2).toArray Q l2 a w) Q) (a0:=a) (outs:=outs) (gs:=gs) (bs:=bs) (fun ch a' w' C K=>B ch a' w' C K) (Qaq (H ▸ i) A) (fun _=>I) (Qgj x l bs 0 F) (fun vs S w' _ k s=>b vs w' k s) _ _ _ _ (by simp) ?_ ⟨k,(by rw[u];intro j o _ h;cases h),Z,Z,fun _ _=>rfl,fun t r _=>Qa1 outs D t r,?_⟩
  ·simp only[Array.toList_replicate]
   exact Zt (List.length_filter_le _ _) (by simp)
  ·intro j o t M L y;simp[Array.getD] at y
 have:=Qbt (Q:=Q) g c f l.length (Array.replicate l.length false) a w.drew (by simp) (fun q o N J=>by simp[Array.getD] at J) d
 have e:(Array.replicate l.length false++Array.replicate l2.length false:Array Bool)=Array.replicate (l++l2).toArray.size false:=by
  simp
 have z:l.length+l2.length=(l++l2).toArray.size:=by simp
 rw[e,z] at this
 exact this
theorem ZK {lo:List Oper}{outs:List Tmp}{gs:List (Nat × Option Bool)}{a:Act}{Q:Exit->Act->World->Prop}
 (k:Nat) (E:Tmp->Value->World->Prop) (W:World->Prop) (R:World->World->Prop) (PX:List PanicEntry->World->Prop) (o:∀ ch a' w,a'.defers=a.defers->PX ch w->Q (.panic ch) a' w)
 (p:P.follows .mixedOrders=true)  (q:a.tmps.size=m) (c:n<=m) (j:QaY (lo.take k) n outs gs bs=true)
 (d:(Qcu 0 lo&&(Qbn (lo.take k).length (lo.take k)&&QaL lo (lo.take k).length (lo.drop k)))=true)
 (i:∀ t v w w',R w w'->E t v w->E t v w') (f:ZJ E (lo.take k).toArray gs) (r:W w.drew) (e:Qaf E a w.drew outs)
 (g:AllOkC E W R PX P (lo.take k) bs)
 (b:∀ ops (vs:Tmp->Value) w',W w'->(∀ t,(Qt (lo.take k)).contains t=true->E t (vs t) w')->wpList P ops Q (lo.drop k) (QN a vs (Qt (lo.take k))) w') :
 (Code.region id lo.toArray true).wp P Q a w:=by
 have h:=Qfw (id:=id) (l:=lo.take k) (l2:=lo.drop k) (Q:=Q) E W R PX o p q c j (by rw[List.take_append_drop];exact d) i f r e g (b _);rwa [List.take_append_drop] at h
section
variable {w w' w2:World}{b most:Nat}{m:List (MFunc 6)}{M M' N:IM}{sc sa:Int}{g g1:MG}{e:Ending}
theorem iInfo64:∃ i,prog.info? 2=some i/\i.zero=some (Iv 0)/\i.size=1/\i.bytes=8:=by
 have h:(prog.info? 2).map (fun i=>(i.zero,i.size,i.bytes))=some (some (Iv 0),1,8):=by kernel_rfl
 cases e:prog.info? 2 with
 | none=>rw[e] at h;cases h
 | some i =>
   rw[e] at h
   simp only[Option.map_some,Option.some.injEq,Prod.mk.injEq] at h
   exact⟨i,Z,h.1,h.2.1,h.2.2⟩
theorem iUnder64:prog.underlying 25=some (.slice 2):=by kernel_rfl
end
theorem Qfq {l:List Oper}{S:Nat->Bool}(a:Qgo l S){i:Nat}{o:Oper}(c:l[q]?=some o) (b:Qdw l 30 o i=true) (d:S i=false):S q=false:=by
 cases h:S q with
 | false=>rfl
 | true =>
   have:S i=true:=QcT (all:=l) (S:=fun j=>S j=true) a 30 o b (a q o c h)
   rw[d] at this;cases this
theorem Qna {i:Nat}{S:Nat->Bool}(h:j≠i):Qct i S j=S j:=by
 have:(j==i)=false:=by simpa using h
 unfold Qct;rw[this,Bool.false_or]
theorem QnY {i:Nat}{S:Nat->Bool}:Qct i S i=true:=by simp[Qct]
def WY (w6:World) (HP:World->Prop) (hk:Nat) (S:Nat->Bool) (w:World):Prop:=(S hk=false/\Below w6.heap.size w6 w)\/(S hk=true/\HP w)
section
variable {Z:Nat}{w6 w w':World}{HP:World->Prop}{HZ:Nat->World->Prop}{hk st i:Nat}{S:Nat->Bool}{R:Q1->Prop}{v:Value}
theorem WY.pre (h:WY w6 HP hk S w) (a:S hk=false):Below w6.heap.size w6 w:=by
 rcases h with h | h
 ·exact h.2
 ·rw[a] at h;cases h.1
theorem WY.did (p:HP w'):WY w6 HP hk (Qct hk S) w':=.inr ⟨QnY,p⟩
theorem WY.fin (h:WY w6 HP hk S w) (a:S hk=true):HP w:=by
 rcases h with h | h
 ·rw[a] at h;cases h.1
 ·exact h.2
end
abbrev Zp (x:Qs) (i:IP):Array Value:=#[Iv x.op,Iv x.a,Iv x.b,Iv x.c,Iv x.k,Iv x.n,.slice i.pR x.regs.length i.cR,.slice i.pA x.args.length i.cA]
def TRd (w:World) (Q:Nat->Prop) (a:Option Addr) (L:List (TT 6)):Prop :=
 ∀ i t,L[i]?=some t->∃ g a' c',a=some ⟨g,0,none⟩/\w.cell? ⟨g,i*3,none⟩=some (Iv t.kind)/\w.cell? ⟨g,i*3+1,none⟩=some (Iv t.r)/\w.cell? ⟨g,i*3+2,none⟩=some (.slice a' t.len c')/\TIn w Q t a'/\t.ok
section
variable {w w':World}{O O':Nat->Prop}{v:Value}{L:List (TT 6)}
theorem TRd.below (h:TRd w Q a L) (b:Below w.heap.size w w'):TRd w' Q a L:=fun i t f=>by
 obtain⟨g,j,m,e,d,n,o,k,l⟩:=h i t f
 have c:g<w.heap.size:=Xi w ⟨g,i*3,none⟩ d;exact⟨g,j,m,e,(b.cell (p:=⟨g,i*3,none⟩) c).trans d,(b.cell (p:=⟨g,i*3+1,none⟩) c).trans n,(b.cell (p:=⟨g,i*3+2,none⟩) c).trans o,k.below b,l⟩
end
theorem underTs:prog.underlying 80=some (.slice 105):=by kernel_rfl
theorem infoT:(prog.info? 105).map (fun i=>(i.zero,i.size,i.bytes))=some (some (.agg #[Iv 0,Iv 0,Nv]),3,40):=by kernel_rfl
theorem infoT_parts:∃ i,prog.info? 105=some i/\i.zero=some (.agg #[Iv 0,Iv 0,Nv])/\i.size=3/\i.bytes=40:=by
 have h:=infoT
 cases hi:prog.info? 105 with
 | none=>rw[hi] at h;cases h
 | some i=>rw[hi] at h;simp at h;exact⟨i,Z,h.1,h.2.1,h.2.2⟩
structure Bx2 (w wr:World) (k r:Int) (a:Option Addr) (len c:Nat):Prop where
 bel:Below w.heap.size w wr
 box:wr.heap[w.heap.size]?=some (.cells #[Iv k,Iv r,.slice a len c] 105 (0,0))
 res:wr.heap[w.heap.size+1]?=some (.cells #[Iv 0,Iv 0,Nv] 105 (0,0))
theorem Bx2.start (w:World) (k r:Int) (a:Option Addr) (len c:Nat):Bx2 w ((w.alloc (.cells #[Iv k,Iv r,.slice a len c] 105)).alloc (.cells #[Iv 0,Iv 0,Nv] 105)) k r a len c :=
 ⟨((Below.refl _ w).alloc Ze _).alloc (by simp) _,(Below.heap_alloc _ _ _ (by simp)).trans (Qe w _ _),by have:=Qe (w.alloc (.cells #[Iv k,Iv r,.slice a len c] 105)) #[Iv 0,Iv 0,Nv] 105;simpa using this⟩
theorem Bx2.below {wr:World}{k r:Int}{len:Nat}(h:Bx2 w wr k r a len c) (b:Below wr.heap.size wr w'):Bx2 w w' k r a len c :=
 ⟨h.bel.trans (b.mono h.bel.size),QaT h.box b,QaT h.res b⟩
theorem Bx2.stored {wr:World}{k r:Int}{len:Nat}(h:Bx2 w wr k r a len c) (d r':Int) (a':Option Addr) (b c':Nat) :
 (((wr.setCell ⟨w.heap.size+1,0,none⟩ (Iv d)).setCell ⟨w.heap.size+1,1,none⟩ (Iv r')).setCell ⟨w.heap.size+1,2,none⟩ (.slice a' b c')).heap[w.heap.size+1]?=some (.cells #[Iv d,Iv r',.slice a' b c'] 105 (0,0)) /\
 Below w.heap.size w (((wr.setCell ⟨w.heap.size+1,0,none⟩ (Iv d)).setCell ⟨w.heap.size+1,1,none⟩ (Iv r')).setCell ⟨w.heap.size+1,2,none⟩ (.slice a' b c')):=by
 refine⟨?_,((h.bel.setCell (by simp) _).setCell (by simp) _).setCell (by simp) _⟩
 have f:=Qh h.res 0 (Iv d);have g:=Qh f 1 (Iv r');have e:=Qh g 2 (.slice a' b c');simpa using e
def Qle (w:World) (b:Option Addr) (m:Nat) (nm:Nat->Int):Prop:=∀ i,i<m->∃ g o,b=some ⟨g,o,none⟩/\w.cell? ⟨g,o+i,none⟩=some (Iv (nm i))
theorem Qle.below {b:Option Addr}{a:Nat->Int}(h:Qle w b m a) (k:Below w.heap.size w w'):Qle w' b m a:=fun i d=>by
 obtain⟨g,o,e,c⟩:=h i d
 exact⟨g,o,e,(k.cell (p:=⟨g,o+i,none⟩) (Xi w ⟨g,o+i,none⟩ c)).trans c⟩
def Qoa (o:Option Int) (e:Ending):Prop:=match o with
 | some v=>e=.returned (.tuple #[.int .i64 v,.bool true])
 | none=>e=.returned (.tuple #[.int .i64 0,.bool false])
theorem QfX (k r:Int) (a:Option Addr) (len c:Nat) (b:Option Addr) (m d:Nat) (f:Nat->Int) (w:World) (i:Qle w b m f) :
 Calls prog 290 #[.agg #[Iv k,Iv r,.slice a len c],.slice b m d] w fun e w'=>Qoa (ZI m f k r) e/\Below w.heap.size w w':=by
 have p:Hid (Qle w b m f):=i;clear i;by_cases h:k=1
 ·subst h;rw[show ZI m f 1 r=some r by simp[ZI]]
  go_enter func290,ntmps290
  go_wp2_with fail
  go_ret2;exact⟨Z,(Below.refl _ w).alloc Ze _⟩
 ·have t:(k==1)=false:=by simpa using h
  rcases (show r<0\/(0<=r/\(m:Int)<=r)\/(0<=r/\r<m) by omega) with n | ⟨n,s⟩|⟨n,s⟩
  ·rw[show ZI m f k r=none by unfold ZI;rw[Xr h,Xs (Or.inl n)]]
   clear h;go_enter func290,ntmps290
   go_wp2_with fail
   go_ret2;exact⟨Z,(Below.refl _ w).alloc Ze _⟩
  ·rw[show ZI m f k r=none by unfold ZI;rw[Xr h,Xs (Or.inr s)]]
   clear h;have u:¬ r<0:=by omega
   go_enter func290,ntmps290
   go_wp2_with fail
   go_ret2;exact⟨Z,(Below.refl _ w).alloc Ze _⟩
  ·obtain⟨j,rfl⟩:=Xc n
   obtain⟨g,o,rfl,q⟩:=p.out j (by omega)
   have x:g<w.heap.size:=Xi w ⟨g,o+j,none⟩ q;have u:¬ (j:Int)<0:=by omega
   have y:¬ (m:Int)<=j:=by omega
   by_cases l:f j<0
   ·rw[show ZI m f k j=none by unfold ZI;rw[Xr h,Xr (by omega),Xs (by simpa using l)]]
    clear h;generalize f j=v at q l;go_enter func290,ntmps290
    go_wp2_with fail
    go_ret2;exact⟨Z,(Below.refl _ w).alloc Ze _⟩
   ·rw[show ZI m f k j=some (f j) by unfold ZI;rw[Xr h,Xr (by omega),Xr (by simpa using l)];rfl]
    clear h;generalize f j=v at q l |-;go_enter func290,ntmps290
    go_wp2_with fail
    go_ret2;exact⟨Z,(Below.refl _ w).alloc Ze _⟩
structure Qcx (w:World) (G len:Nat){n:Nat}(l:List (TT n)):Prop where
 row:∃ cur,w.heap[G]?=some (.cells cur 105 (0,0))/\cur.size=len*3/\∀ (i:Nat) (x:TT n),l[i]?=some x->∃ a c,cur[i*3]?=some (Iv x.kind)/\cur[i*3+1]?=some (Iv x.r)/\cur[i*3+2]?=some (.slice a x.len c)/\TIn w (Qcr (G+1)) x a
theorem Qcx.below {len:Nat}{l:List (TT n)}(h:Qcx w G len l) (b:Below w.heap.size w w'):Qcx w' G len l:=by
 obtain⟨d,e,f,k⟩:=h.row
 refine⟨d,(b.block G (XC e)).trans e,f,fun i x j=>?_⟩
 obtain⟨a,c,o,p,g,m⟩:=k i x j
 exact⟨a,c,o,p,g,m.below b⟩
theorem Qcx.lt {len:Nat}{l:List (TT n)}(h:Qcx w G len l):G<w.heap.size:=by
 obtain⟨a,b,d,c⟩:=h.row
 exact XC b
theorem Qcx.frozen {len:Nat}{l:List (TT n)}(h:Qcx w G len l) (i:Nat):w.frozen? ⟨G,i,none⟩=false:=by
 obtain⟨a,b,d,c⟩:=h.row
 exact Qj b i
theorem Qcx.has {len:Nat}{l:List (TT n)}(h:Qcx w G len l) (i:Nat) (hi:i<len*3):∃ v,w.cell? ⟨G,i,none⟩=some v:=by
 obtain⟨a,b,d,c⟩:=h.row
 exact⟨a[i]'(by omega),Qb b i _ (Xj (by omega))⟩
theorem Qcx.lin {len:Nat}{l:List (TT n)}(h:Qcx w G len l):LIn w (Qcr G) l (some ⟨G,0,none⟩):=by
 obtain⟨j,b,q,g⟩:=h.row
 intro i x e;obtain⟨a,c,o,f,d,m⟩:=g i x e
 refine⟨G,0,a,c,Z,Ze,?_,?_,?_,m.mono (fun k p _=>by omega)⟩
 ·rw[XK];exact Qb b _ _ o
 ·rw[XK];exact Qb b _ _ f
 ·rw[XK];exact Qb b _ _ d
theorem Qcx.set {len:Nat}{l:List (TT n)}(h:Qcx w G len l) (z:l.length=q) (E:q<len){x:TT n}(m:TIn w (Qcr (G+1)) x a) :
 Qcx (((w.setCell ⟨G,q*3,none⟩ (Iv x.kind)).setCell ⟨G,q*3+1,none⟩ (Iv x.r)).setCell ⟨G,q*3+2,none⟩ (.slice a x.len c)) G len (l++[x]):=by
 obtain⟨u,A,C,t⟩:=h.row
 have o:=Qh A (q*3) (Iv x.kind);have p:=Qh o (q*3+1) (Iv x.r);have D:=Qh p (q*3+2) (.slice a x.len c)
 have f:∀ {y:TT n} {b:Option Addr},TIn w (Qcr (G+1)) y b->TIn (((w.setCell ⟨G,q*3,none⟩ (Iv x.kind)).setCell ⟨G,q*3+1,none⟩ (Iv x.r)).setCell ⟨G,q*3+2,none⟩ (.slice a x.len c)) (Qcr (G+1)) y b :=
  fun e=>((e.setCell (by simp) _).setCell (by simp) _).setCell (by simp) _
 refine⟨_,D,by simp[C],fun i y e=>?_⟩
 rw[List.getElem?_append] at e
 split at e
 ·rename_i k
  obtain⟨b,d,B,s,j,v⟩:=t i y e
  refine⟨b,d,?_,?_,?_,f v⟩
  ·simp only[Array.getElem?_setIfInBounds]
   rw[Xr (by omega),Xr (by omega),Xr (by omega)];exact B
  ·simp only[Array.getElem?_setIfInBounds]
   rw[Xr (by omega),Xr (by omega),Xr (by omega)];exact s
  ·simp only[Array.getElem?_setIfInBounds]
   rw[Xr (by omega),Xr (by omega),Xr (by omega)];exact j
 ·rename_i k
  have g:i=q:=by
   have:=(Zi e).1
   simp at this
   omega
  subst g;simp[z] at e
  subst e;refine⟨a,c,?_,?_,?_,f m⟩
  ·simp only[Array.getElem?_setIfInBounds,Array.size_setIfInBounds]
   rw[Xr (by omega),Xr (by omega),Xs Y,Xs (by omega)]
  ·simp only[Array.getElem?_setIfInBounds,Array.size_setIfInBounds]
   rw[Xr (by omega),Xs Y,Xs (by omega)]
  ·simp only[Array.getElem?_setIfInBounds,Array.size_setIfInBounds]
   rw[Xs Y,Xs (by omega)]
abbrev zeroT:Value:=.agg #[Iv 0,Iv 0,Nv]
def QgB {n:Nat}(w w':World) (o:Option (TT n)) (e:Ending):Prop:=match o with
 | some u=>∃ a' c',e=.returned (.tuple #[Tv u a' c',.bool true])/\TIn w' (Qcr w.heap.size) u a'/\Below w.heap.size w w'
 | none=>e=.returned (.tuple #[zeroT,.bool false])/\Below w.heap.size w w'
def Qmy (f n:Nat):Prop:=∀ (t:TT n) (a:Option Addr) (c:Nat) (b:Option Addr) (m d:Nat) (nm:Nat->Int) (w:World),TIn w All t a->t.count<=2000->Qle w b m nm ->
 Calls prog f #[Tv t a c,.slice b m d] w fun e w'=>QgB w w' (t.ren m nm) e
theorem QiV (w:World) (len:Nat) (h:len<=2000):(Instr.makeSlice 80 (Iv len) (Iv len)).run prog w=.ok (.slice (some ⟨w.heap.size,0,none⟩) len len) (w.alloc (.cells (madeCells #[Iv 0,Iv 0,Nv] (len*3)) 105)):=by
 obtain⟨e,d,c,a,b⟩:=infoT_parts
 have:=run_make (P:=prog) w 80 105 e _ underTs d c .i64 .i64 len len (by omega) (by omega) (by rw[b];omega) (by omega)
 rw[a] at this
 exact this
structure RnX (w wr:World) (k r:Int) (a:Option Addr) (len c G:Nat){n:Nat}(l:List (TT n)):Prop where
 bx:Bx2 w wr k r a len c
 row:Qcx wr G len l
 hG:w.heap.size+1<G
section
variable {w wr w':World}{k r:Int}{a:Option Addr}{len c G n:Nat}{l:List (TT n)}
theorem RnX.start (h:Bx2 w wr k r a len c):RnX w (wr.alloc (.cells (madeCells #[Iv 0,Iv 0,Nv] (len*3)) 105)) k r a len c wr.heap.size ([]:List (TT n)) :=
 ⟨h.below ((Below.refl _ wr).alloc Ze _),⟨_,Qe wr _ _,size_madeCells _ _,fun i x b=>by simp at b⟩,XC h.res⟩
theorem RnX.below (h:RnX w wr k r a len c G l) (b:Below wr.heap.size wr w'):RnX w w' k r a len c G l:=⟨h.bx.below b,h.row.below b,h.hG⟩
theorem Bx2.setG (h:Bx2 w wr k r a len c) (b:w.heap.size+1<G) (i:Nat) (v:Value):Bx2 w (wr.setCell ⟨G,i,none⟩ v) k r a len c :=
 ⟨h.bel.setCell (by simp;omega) _,(Xd _ _ _ _ (by simp;omega)).trans h.box,(Xd _ _ _ _ (by simp;omega)).trans h.res⟩
theorem RnX.set (h:RnX w wr k r a len c G l)(d:l.length=q) (e:q<len){x:TT n}{a':Option Addr}{c':Nat}(b:TIn wr (Qcr (G+1)) x a') :
 RnX w (((wr.setCell ⟨G,q*3,none⟩ (Iv x.kind)).setCell ⟨G,q*3+1,none⟩ (Iv x.r)).setCell ⟨G,q*3+2,none⟩ (.slice a' x.len c')) k r a len c G (l++[x]) :=
 ⟨((h.bx.setG h.hG _ _).setG h.hG _ _).setG h.hG _ _,h.row.set d e b,h.hG⟩
end
theorem Qdn {a:Nat->Int}{n:Nat}{t:TT (n+1)}{r':Int}(c:ZI m a t.kind t.r=some r'){l':List (TT n)}(d:ZP (TT.ren m a) t.2.2=some l'):t.ren m a=some (mkT t.kind r' l'):=by
 show (match ZI m a t.1 t.2.1 with | none=>none | some r=>match ZP (TT.ren (n:=n) m a) t.2.2 with | none=>none | some l=>some ((t.1,r,l):Int × Int × List (TT n)))=_;have b:ZI m a t.1 t.2.1=some r':=c;rw[b,d]
 rfl
theorem QeP {a:Nat->Int}{n:Nat}{t:TT (n+1)}(c:ZI m a t.kind t.r=none):t.ren m a=none:=by
 show (match ZI m a t.1 t.2.1 with | none=>none | some r=>match ZP (TT.ren (n:=n) m a) t.2.2 with | none=>none | some l=>some ((t.1,r,l):Int × Int × List (TT n)))=_;have b:ZI m a t.1 t.2.1=none:=c;rw[b]
 rfl
theorem QeQ {a:Nat->Int}{n:Nat}{t:TT (n+1)}(b:ZP (TT.ren m a) t.2.2=none):t.ren m a=none:=by
 show (match ZI m a t.1 t.2.1 with | none=>none | some r=>match ZP (TT.ren (n:=n) m a) t.2.2 with | none=>none | some l=>some ((t.1,r,l):Int × Int × List (TT n)))=_;rw[b]
 cases ZI m a t.1 t.2.1<;>rfl
theorem rename_any:∀ n,Qmy 285 n:=by
 intro n
 induction n with
 | zero=>intro t;exact Empty.elim t
 | succ n ih =>
   intro t a c b m d s w ht af J;have IH:Hid (Qmy 285 n):=ih;have ab:Hid (Qle w b m s):=J;have hT:Hid (LIn w All t.2.2 a):=ht.list;have W:Hid (∀ x∈t.2.2,x.count<=2000):=fun x H=>by have:=t.count_kid H;omega
   have K:t.2.2.length<=2000:=by have:=t.len_lt_count;rw[t.len_eq] at this;omega
   have M:Hid (ZI m s t.kind t.r=none->t.ren m s=none):=QeP;have R:Hid (ZP (TT.ren m s) t.2.2=none->t.ren m s=none):=QeQ;have N:Hid (∀ B h,ZI m s t.kind t.r=some B->ZP (TT.ren m s) t.2.2=some h->t.ren m s=some (mkT t.kind B h)):=fun B h h1 h2=>Qdn h1 h2;generalize t.ren m s=P at M R N |-;simp only[Tv,TT.len_eq]
   generalize t.2.2=l at hT W K R N |-;generalize t.kind=k at M N |-;generalize t.r=r at M N |-;clear ht af J ih t;go_enter func285,ntmps285
   go_wp2_with fail
   have X1:Hid (Bx2 w ((w.alloc (.cells #[Iv k,Iv r,.slice a l.length c] 105)).alloc (.cells #[Iv 0,Iv 0,Nv] 105)) k r a l.length c):=Bx2.start w k r a l.length c;generalize (w.alloc (.cells #[Iv k,Iv r,.slice a l.length c] 105)).alloc (.cells #[Iv 0,Iv 0,Nv] 105)=w1 at X1 |-;refine(QfX k r a l.length c b m d s w1 (ab.out.below X1.out.bel)).mono ?_
   rintro e L ⟨hr,b2⟩;have E:Hid (Bx2 w L k r a l.length c):=X1.out.below b2;clear X1 b2;have e2:L.cell? ⟨w.heap.size,2,none⟩=some (.slice a l.length c):=Qb E.out.box 2 _ Yz
   cases hrr:ZI m s k r with
   | none =>
     rw[hrr] at hr
     obtain rfl:e=_:=hr;have z:P=none:=M.out hrr;subst z;have D:=E.out.stored 0 0 none 0 0;have DD:Hid (Below w.heap.size w _):=D.2;have g0:=Qb E.out.res 0 _ Yz;have g1:=Qb E.out.res 1 _ Yz;have g2:=Qb E.out.res 2 _ Yz;have z0:=Qj E.out.res 0;have z1:=Qj E.out.res 1;have z2:=Qj E.out.res 2;have x0:=Qb D.1 0 _ Yz;have x1:=Qb D.1 1 _ Yz;have x2:=Qb D.1 2 _ Yz;clear D hrr M R N;go_wp2_with fail
     exact Xy (v:=.tuple #[zeroT,.bool false]) (by simp[results,results285,go_sem,x0,x1,x2]) Yz ⟨Yz,DD.out⟩
   | some B =>
     rw[hrr] at hr
     obtain rfl:e=_:=hr;have HR:Hid (ZI m s k r=some B):=hrr;clear hrr;have ac:=QiV L l.length K;have ae:w.heap.size<L.heap.size:=XC E.out.box;go_wp2_with fail
     have Y0:Hid (RnX w (L.alloc (.cells (madeCells #[Iv 0,Iv 0,Nv] (l.length*3)) 105)) k r a l.length c L.heap.size ([]:List (TT n))):=RnX.start E.out;generalize L.alloc (.cells (madeCells #[Iv 0,Iv 0,Nv] (l.length*3)) 105)=w3 at Y0 |-;generalize L.heap.size=G at Y0 |-;clear ac e2 E ae;go_loopw [27] (fun i wr=>∃ q:Nat,q<=l.length/\i=Iv q/\∃ h:List (TT n),h.length=q/\(∀ (j:Nat) x,j<q->l[j]?=some x->x.ren m s=h[j]?)/\RnX w wr k r a l.length c G h) (fun i _=>l.length - (intOf i).toNat)
     case atStart=>exact⟨0,Xb _,Yz,[],Yz,fun j x hj=>by omega,Y0.out⟩
     case round =>
      clear Y0;obtain⟨q,hq,rfl,h,X,I,hY⟩:=hrel
      have A:Hid (h.length=q/\∀ (j:Nat) x,j<q->l[j]?=some x->x.ren m s=h[j]?):=⟨X,I⟩;have Y:Hid (RnX w wr k r a l.length c G h):=hY;clear X I hY;by_cases aa:q<l.length
      ·have H:l[q]?=some l[q]:=Zg aa;generalize l[q]=x at H;obtain⟨g,o,a',c',rfl,_,d0,d1,d2,U⟩:=LIn.at (hT.out.below Y.out.bx.bel) H
       have hg:g<wr.heap.size:=Xi wr ⟨g,o+q*3,none⟩ d0;have S:Hid (l[q]?=some x):=H
       have C:Hid (∀ V,Below wr.heap.size wr V->Calls prog 285 #[Tv x a' c',.slice b m d] V fun e w'=>QgB V w' (x.ren m s) e) :=
        fun V hb=>IH.out x a' c' b m d s V (U.below hb) (W.out x (Zm H)) ((ab.out.below Y.out.bx.bel).below hb)
       clear U H;simp only[Tv] at C
       generalize x.kind=kx at C d0;generalize x.r=rx at C d1;generalize x.len=lx at C d2;have aj:(0:Int)<=q:=by omega
       have ag:(q:Int)<l.length:=by omega
       have ak:(q:Int)<2000:=by omega
       go_wp2_with fail
       have T:Below wr.heap.size wr (wr.alloc (.cells #[Iv kx,Iv rx,.slice a' lx c'] 105)):=(Below.refl _ wr).alloc Ze _;refine(C.out _ T).mono ?_
       rintro e w4 h4;clear C d0 d1 d2
       cases hxr:x.ren m s with
       | none =>
         rw[hxr] at h4
         obtain⟨rfl,b4⟩:=h4
         have z:P=none:=R.out (Qe3 S.out hxr);subst z;have f:=(Y.out.below T).below b4;have Q:q*3+2<l.length*3:=by omega
         obtain⟨v0,r0⟩:=f.row.has (q*3) (by omega)
         obtain⟨v1,r1⟩:=f.row.has (q*3+1) (by omega)
         obtain⟨v2,r2⟩:=f.row.has (q*3+2) (by omega)
         have z0:=f.row.frozen (q*3);have z1:=f.row.frozen (q*3+1);have z2:=f.row.frozen (q*3+2);have X5:=((f.bx.setG f.hG (q*3) (Iv 0)).setG f.hG (q*3+1) (Iv 0)).setG f.hG (q*3+2) (Nv);have D:=X5.stored 0 0 none 0 0;have DD:Hid (Below w.heap.size w _):=D.2;have g0:=Qb f.bx.res 0 _ Yz;have g1:=Qb f.bx.res 1 _ Yz;have g2:=Qb f.bx.res 2 _ Yz;have y0:=Qj f.bx.res 0;have y1:=Qj f.bx.res 1;have y2:=Qj f.bx.res 2;have x0:=Qb D.1 0 _ Yz;have x1:=Qb D.1 1 _ Yz;have x2:=Qb D.1 2 _ Yz;have ai:¬ w.heap.size+1=G:=by have:=f.hG;omega
         have ah:¬ G=w.heap.size+1:=by have:=f.hG;omega
         clear D X5 f b4 T hxr A Y M R N Q;go_wp2_with fail
         exact Xy (v:=.tuple #[zeroT,.bool false]) (by simp[results,results285,go_sem,x0,x1,x2]) Yz ⟨Yz,DD.out⟩
       | some u =>
         rw[hxr] at h4
         obtain⟨a4,c4,rfl,t4,b4⟩:=h4
         simp only[Tv]
         have f:=(Y.out.below T).below b4;have Q:q*3+2<l.length*3:=by omega
         obtain⟨v0,r0⟩:=f.row.has (q*3) (by omega)
         obtain⟨v1,r1⟩:=f.row.has (q*3+1) (by omega)
         obtain⟨v2,r2⟩:=f.row.has (q*3+2) (by omega)
         have z0:=f.row.frozen (q*3);have z1:=f.row.frozen (q*3+1);have z2:=f.row.frozen (q*3+2);have ad:=Y.out.row.lt;have Y5:=f.set A.out.1 aa (x:=u) (a':=a4) (c':=c4) (t4.mono (fun k U _=>by have:=T.size;simp at U;omega))
         have Z:Hid (∃ h:List (TT n),h.length=q+1/\(∀ (j:Nat) x,j<q+1->l[j]?=some x->x.ren m s=h[j]?)/\RnX w (((w4.setCell ⟨G,q*3,none⟩ (Iv u.kind)).setCell ⟨G,q*3+1,none⟩ (Iv u.r)).setCell ⟨G,q*3+2,none⟩ (.slice a4 u.len c4)) k r (some ⟨g,o,none⟩) l.length c G h):=by
          refine⟨h++[u],by simp[A.out.1],fun j y hj hy=>?_,Y5⟩
          by_cases e:j=q
          ·subst e;rw[S.out] at hy
           cases hy
           rw[hxr,XQ (by have:=A.out.1;omega),A.out.1,Nat.sub_self]
           rfl
          ·rw[XP (by have:=A.out.1;omega)]
           exact A.out.2 j y (by omega) hy
         clear Y5 f b4 T hxr A Y M R Q t4 S ad;generalize u.kind=ku at Z |-;generalize u.r=ru at Z |-;generalize u.len=lu at Z |-;go_wp2
         go_roundw
         case rel=>exact⟨q+1,by omega,by go_num,Z.out⟩
         case measure=>simp[intOf];omega
      ·have ag:¬ (q:Int)<l.length:=by omega
       have F:h.length=l.length:=by have:=A.out.1;omega
       have z:P=some (mkT k B h):=N.out B h HR.out (ZQ.2 ⟨F,fun i x H=>A.out.2 i x (by have:=(Zi H).1;omega) H⟩);subst z;have e0:wr.cell? ⟨w.heap.size,0,none⟩=some (Iv k):=Qb Y.out.bx.box 0 _ Yz;have g0:=Qb Y.out.bx.res 0 _ Yz;have g1:=Qb Y.out.bx.res 1 _ Yz;have g2:=Qb Y.out.bx.res 2 _ Yz;have y0:=Qj Y.out.bx.res 0;have y1:=Qj Y.out.bx.res 1;have y2:=Qj Y.out.bx.res 2;have D:=Y.out.bx.stored k B (some ⟨G,0,none⟩) l.length l.length;have x0:=Qb D.1 0 _ Yz;have x1:=Qb D.1 1 _ Yz;have x2:=Qb D.1 2 _ Yz;have al:=Y.out.hG
       have O:Hid (QgB w (((wr.setCell ⟨w.heap.size+1,0,none⟩ (Iv k)).setCell ⟨w.heap.size+1,1,none⟩ (Iv B)).setCell ⟨w.heap.size+1,2,none⟩ (.slice (some ⟨G,0,none⟩) l.length l.length)) (some (mkT k B h)) (.returned (.tuple #[.agg #[Iv k,Iv B,.slice (some ⟨G,0,none⟩) l.length l.length],.bool true]))):=by
        refine⟨some ⟨G,0,none⟩,l.length,?_,?_,D.2⟩
        ·show _=Ending.returned (.tuple #[.agg #[Iv k,Iv B,.slice (some ⟨G,0,none⟩) h.length l.length],.bool true]);rw[F]
        ·have:=((Y.out.row.lin.setCell (p:=⟨w.heap.size+1,0,none⟩) (by simp;omega) (Iv k)).setCell (p:=⟨w.heap.size+1,1,none⟩) (by simp;omega) (Iv B)).setCell (p:=⟨w.heap.size+1,2,none⟩) (by simp;omega) (.slice (some ⟨G,0,none⟩) l.length l.length)
         exact(LIn.tree this).mono (fun k U _=>by omega)
       clear D A Y M R N F;go_wp2_with fail
       exact Xy (v:=.tuple #[.agg #[Iv k,Iv B,.slice (some ⟨G,0,none⟩) l.length l.length],.bool true]) (by simp[results,results285,go_sem,x0,x1,x2]) Yz O.out
def ZL (e:Ending) (A:Prop):Prop:=∃ q:Bool,e=.returned (.bool q)/\(q=true↔A)
theorem ZL.yes {A:Prop}(h:A):ZL (.returned (.bool true)) A:=⟨true,Z,by simp[h]⟩
theorem ZL.no {A:Prop}(h:¬ A):ZL (.returned (.bool false)) A:=⟨false,Z,by simp[h]⟩
def Qiy (f:Nat) (n:Nat):Prop:=∀ (t u:TT n) (a b:Option Addr) (c d:Nat) (w:World),TIn w All t a->TIn w All u b->t.count<=100000 ->
 Calls prog f #[Tv t a c,Tv u b d] w fun e w'=>ZL e (t=u)/\Below w.heap.size w w'
theorem TT.eq_iff {t u:TT (n+1)}:t=u↔t.kind=u.kind/\t.r=u.r/\t.2.2=u.2.2:=by
 obtain⟨a,b,c⟩:=t
 obtain⟨d,e,f⟩:=u
 constructor
 ·intro h;cases h;exact⟨Z,Z,Z⟩
 ·rintro ⟨rfl,rfl,rfl⟩;rfl
abbrev toV (x:MTo) (rg ag:Option Addr) (rc ac:Nat):Value:=.agg #[Iv x.block,.slice rg x.regs.length rc,.slice ag x.args.length ac]
theorem underBk:∃ fs,prog.underlying 86=some (.struct fs):=⟨_,underlying86⟩
theorem sizeBk:(prog.info? 86).map (·.size)=some 12:=by kernel_rfl
theorem Qbp {m:List (MBlock 6)}(h:(Zj 6).list.In w Q m [.slice p n c]){g:MBlock 6}(o:m[k]?=some g) :
 ∃ mg mo a1 c1 es,p=some ⟨mg,mo,none⟩/\w.rangeAt mg (mo+k*12) (Iv g.regs::.slice a1 g.params.length c1::es)/\es.length=10/\(Qo 6).In w Q g.params [.slice a1 g.params.length c1]/\∀ v∈es,v.oneCell'=true:=by
 obtain⟨mg,mo,X,E,J,R,f,r⟩:=Yf h o
 obtain⟨a1,c1,F,G,es,rfl,B,h2,q,U⟩:=Qcb r
 obtain⟨L,W,N,K,rfl,C,D,S,H⟩:=QgM q
 obtain⟨I,V,M,T,rfl,-,-,-⟩:=QfG C
 obtain⟨O,P,u7,u8,rfl,-,-,-⟩:=QfG D
 have d:∀ a,a.length=12->(∀ v∈a,v.oneCell'=true)->(∀ j,j<12->w.cell? ⟨mg,mo+k*12+j,none⟩=a[j]?)->∀ x y es,a=x::y::es->w.rangeAt mg (mo+k*12) (x::y::es)/\es.length=10/\∀ v∈es,v.oneCell'=true:=by
  intro a s l f x y es e;subst e;refine⟨fun j v i=>?_,by simpa using s,fun v b=>l v (by simp[b])⟩
  have z:=(Zi i).1;rw[f j (by omega),i]
 obtain⟨t,u,A⟩:=d _ Z (fun v b=>by
  simp only[List.mem_cons,List.cons_append,List.nil_append,List.not_mem_nil,or_false] at b
  rcases b with rfl | rfl | rfl | rfl | rfl | rfl | rfl | rfl | rfl | rfl | rfl | rfl<;>rfl) f _ _ _ Z
 exact⟨mg,mo,a1,c1,_,E,t,u,B,A⟩
theorem Z1 {o:Nat}(h:w.rangeAt b o cs) (k:Below w.heap.size w w'):w'.rangeAt b o cs:=fun j v a=>Qk (h j v a) k
theorem Qf {p:Prop}(h:p):Hid p:=h
structure FbS (w wx:World) (R:Nat) (l:List (Nat × Array Value × TypeId)):Prop where
 bel:Below w.heap.size w wx
 ge:w.heap.size<=R
 r:Blk wx R #[Iv 0,Iv 0] 32
 box:∀ (i:Nat) b,l[i]?=some b->Blk wx b.1 b.2.1 b.2.2
section
variable {w wx w':World}{R:Nat}{l:List (Nat × Array Value × TypeId)}
theorem FbS.below (h:FbS w wx R l) (k:Below wx.heap.size wx w'):FbS w w' R l :=
 ⟨h.bel.trans (k.mono h.bel.size),h.ge,h.r.below k,fun i b a=>(h.box i b a).below k⟩
theorem FbS.add (h:FbS w wx R l){c:Array Value}(d:Blk wx B c t):FbS w wx R ((B,c,t)::l) :=
 ⟨h.bel,h.ge,h.r,fun i b a=>by
  cases i with
  | zero=>cases a;exact d
  | succ i=>exact h.box i b a⟩
theorem FbS.new (h:FbS w wx R l) (c:Array Value) (t:TypeId):FbS w (wx.alloc (.cells c t)) R ((wx.heap.size,c,t)::l):=(h.below (Zc _ _)).add (Blk.new _ _ _)
theorem FbS.cells (h:FbS w wx R l):wx.cell? ⟨R,0,none⟩=some (Iv 0)/\wx.cell? ⟨R,1,none⟩=some (Iv 0)/\wx.frozen? ⟨R,0,none⟩=false/\wx.frozen? ⟨R,1,none⟩=false :=
 ⟨Qb h.r 0 _ Z,Qb h.r 1 _ Z,Qj h.r 0,Qj h.r 1⟩
theorem FbS.fin (h:FbS w wx R l) (c a:Int):Blk ((wx.setCell ⟨R,0,none⟩ (Iv c)).setCell ⟨R,1,none⟩ (Iv a)) R #[Iv c,Iv a] 32/\Below w.heap.size w ((wx.setCell ⟨R,0,none⟩ (Iv c)).setCell ⟨R,1,none⟩ (Iv a)) :=
 ⟨by have:=Qh (Qh h.r 0 (Iv c)) 1 (Iv a);simpa using this,(h.bel.setCell (p:=⟨R,0,none⟩) h.ge _).setCell (p:=⟨R,1,none⟩) h.ge _⟩
structure Qm4 (wx:World) (cs:List Value):Prop where
 size:(prog.info? 86).map (·.size)=some cs.length
 size2:(prog.info? 86).map (·.size)=some cs.toArray.size
 there:(wx.alloc (.cells #[Iv 0,Nv,Nv,Iv 0,Iv 0,Iv 0,Nv,Nv,Iv 0,Nv,Nv,Nv] 86)).there wx.heap.size 0 cs.toArray.size
 blk:Blk ((wx.alloc (.cells #[Iv 0,Nv,Nv,Iv 0,Iv 0,Iv 0,Nv,Nv,Iv 0,Nv,Nv,Nv] 86)).setCells wx.heap.size 0 cs) wx.heap.size cs.toArray 86
 bel:Below wx.heap.size wx ((wx.alloc (.cells #[Iv 0,Nv,Nv,Iv 0,Iv 0,Iv 0,Nv,Nv,Iv 0,Nv,Nv,Nv] 86)).setCells wx.heap.size 0 cs)
theorem Qm4.of (a:World)(c:cs.length=12):Qm4 a cs:=by
 have d:=Qe a #[Iv 0,Nv,Nv,Iv 0,Iv 0,Iv 0,Nv,Nv,Iv 0,Nv,Nv,Nv] 86;refine⟨by rw[c];exact pSizeB,by rw[List.size_toArray,c];exact pSizeB,fun j hj=>?_,?_,?_⟩
 ·rw[List.size_toArray,c] at hj
  rw[XK]
  refine⟨?_,Qj d j⟩
  rw[Qb d j ((#[Iv 0,Nv,Nv,Iv 0,Iv 0,Iv 0,Nv,Nv,Iv 0,Nv,Nv,Nv]:Array Value)[j]'hj) (by simp)];rfl
 ·have e:Blk (a.alloc (.cells #[Iv 0,Nv,Nv,Iv 0,Iv 0,Iv 0,Nv,Nv,Iv 0,Nv,Nv,Nv] 86)) a.heap.size ([]++(#[Iv 0,Nv,Nv,Iv 0,Iv 0,Iv 0,Nv,Nv,Iv 0,Nv,Nv,Nv]:Array Value).toList).toArray 86:=d;exact Blk.sets cs [] (#[Iv 0,Nv,Nv,Iv 0,Iv 0,Iv 0,Nv,Nv,Iv 0,Nv,Nv,Nv]:Array Value).toList _ (by rw[c];rfl) e
 ·have:=Qz.setCells (O:=fun k=>k=a.heap.size) (O':=fun k=>k=a.heap.size) (b:=a.heap.size) Z cs 0 _ (Qz.refl _ (a.alloc (.cells #[Iv 0,Nv,Nv,Iv 0,Iv 0,Iv 0,Nv,Nv,Iv 0,Nv,Nv,Nv] 86)))
  exact(Zc a _).trans (this.below (by simp) (fun k f=>by omega))
end
theorem underEnd:∃ fs,prog.underlying 84=some (.struct fs):=⟨_,underlying84⟩
theorem sizeEnd:(prog.info? 84).map (·.size)=some 9:=by kernel_rfl
abbrev QbU (x:ZE) (e:EP):Array Value:=#[Iv x.op,Iv x.a,Iv x.yes.block,.slice e.pYR x.yes.regs.length e.cYR,.slice e.pYA x.yes.args.length e.cYA,Iv x.no.block,.slice e.pNR x.no.regs.length e.cNR,.slice e.pNA x.no.args.length e.cNA,.slice e.pA x.args.length e.cA]
structure Qdu (w:World) (Q:Nat->Prop) (x:ZE) (e:EP):Prop where
 yr:intsL.In w Q x.yes.regs [.slice e.pYR x.yes.regs.length e.cYR]
 ya:intsL.In w Q x.yes.args [.slice e.pYA x.yes.args.length e.cYA]
 nr:intsL.In w Q x.no.regs [.slice e.pNR x.no.regs.length e.cNR]
 na:intsL.In w Q x.no.args [.slice e.pNA x.no.args.length e.cNA]
 ar:intsL.In w Q x.args [.slice e.pA x.args.length e.cA]
theorem Qdu.below {x:ZE}{e:EP}(h:Qdu w Q x e) (k:Below w.heap.size w w'):Qdu w' Q x e :=
 ⟨Ya h.yr k,Ya h.ya k,Ya h.nr k,Ya h.na k,Ya h.ar k⟩
theorem QaA {a:Nat}{t:MTo}(h:t.form a true=0):(0<=t.block/\t.block<a)/\t.regs.length<=16/\t.args.length<=8:=by
 unfold MTo.form at h;rw[Xr (by simp)] at h
 split at h
 ·cases h
 split at h
 ·cases h
 omega
theorem Xt:type_of% @decide_eq_true:=@decide_eq_true
section
variable {w w' w2:World}{b most n:Nat}{m:List (MFunc 6)}{M M' N:IM}{sc sa:Int}{g g1:MG}{e:Ending}
theorem Qec {a:Nat}{t:MTo}(h:t.form a true=0):0<=t.block/\t.block<(a:Int)/\t.regs.length<=16/\t.args.length<=8:=by
 unfold MTo.form at h;rw[Xr (by simp)] at h
 split at h
 ·cases h
 ·split at h
  ·cases h
  ·omega
theorem Qfd {a:Nat}{x:ZE}(h:x.form a=0):(1<=x.op/\x.op<=3)/\x.args.length<=8/\(x.op≠3->x.yes.form a true=0)/\(x.op=2->x.no.form a true=0):=by
 unfold ZE.form at h;split at h
 ·cases h
 rename_i d
 split at h
 ·cases h
 split at h
 ·cases h
 rename_i c
 split at h
 ·rename_i b;exact absurd h b
 rename_i b
 refine⟨by omega,by omega,fun e=>?_,fun e=>?_⟩
 ·have:decide (x.op≠3)=true:=Xt e
  rw[this] at b
  exact Xq.1 b
 ·have:decide (x.op=2)=true:=Xt e
  rw[this] at h
  exact h
end
def tru (p:Bool):Int:=if p then 1 else 0
theorem QnU (a b:Int) (w:World):Calls prog 136 #[Iv 1,Iv a,Iv b] w fun e w'=>e=.returned (.tuple #[Iv (wrap64 (a+b)),.bool true])/\w'=w:=by
 go_enter func136,ntmps136
 go_wp2
 go_ret2;exact⟨Z,Z⟩
theorem QnQ (a b:Int) (w:World):Calls prog 136 #[Iv 2,Iv a,Iv b] w fun e w'=>e=.returned (.tuple #[Iv (wrap64 (a - b)),.bool true])/\w'=w:=by
 go_enter func136,ntmps136
 go_wp2
 go_ret2;exact⟨Z,Z⟩
theorem Qoh (a b:Int) (w:World):Calls prog 136 #[Iv 3,Iv a,Iv b] w fun e w'=>e=.returned (.tuple #[Iv (wrap64 (a*b)),.bool true])/\w'=w:=by
 go_enter func136,ntmps136
 go_wp2
 go_ret2;exact⟨Z,Z⟩
theorem Qod (a b:Int) (w:World) (d:(b==0)=false) (c:¬ b=0):Calls prog 136 #[Iv 4,Iv a,Iv b] w fun e w'=>e=.returned (.tuple #[Iv (wrap64 (a.tdiv b)),.bool true])/\w'=w:=by
 go_enter func136,ntmps136
 go_wp2
 go_ret2;exact⟨Z,Z⟩
theorem Qnh (a:Int) (w:World):Calls prog 136 #[Iv 4,Iv a,Iv 0] w fun e w'=>e=.returned (.tuple #[Iv 0,.bool false])/\w'=w:=by
 go_enter func136,ntmps136
 go_wp2
 go_ret2;exact⟨Z,Z⟩
theorem Qn8 (a b:Int) (w:World) (d:(b==0)=false) (c:¬ b=0):Calls prog 136 #[Iv 5,Iv a,Iv b] w fun e w'=>e=.returned (.tuple #[Iv (a.tmod b),.bool true])/\w'=w:=by
 go_enter func136,ntmps136
 go_wp2
 go_ret2;exact⟨Z,Z⟩
theorem Qm5 (a:Int) (w:World):Calls prog 136 #[Iv 5,Iv a,Iv 0] w fun e w'=>e=.returned (.tuple #[Iv 0,.bool false])/\w'=w:=by
 go_enter func136,ntmps136
 go_wp2
 go_ret2;exact⟨Z,Z⟩
theorem Qoj (a b:Int) (w:World):Calls prog 136 #[Iv 6,Iv a,Iv b] w fun e w'=>e=.returned (.tuple #[Iv (tru (decide (a<b))),.bool true])/\w'=w:=by
 by_cases h:a<b
 ·have c:tru (decide (a<b))=1:=by simp[tru,h]
  rw[c]
  go_enter func136,ntmps136
  go_wp2
  go_ret2;exact⟨Z,Z⟩
 ·have c:tru (decide (a<b))=0:=by simp[tru,h]
  rw[c]
  go_enter func136,ntmps136
  go_wp2
  go_ret2;exact⟨Z,Z⟩
theorem Qog (a b:Int) (w:World):Calls prog 136 #[Iv 7,Iv a,Iv b] w fun e w'=>e=.returned (.tuple #[Iv (tru (a==b)),.bool true])/\w'=w:=by
 cases h:(a==b)
 ·go_enter func136,ntmps136
  go_wp2
  go_ret2;exact⟨Z,Z⟩
 ·go_enter func136,ntmps136
  go_wp2
  go_ret2;exact⟨Z,Z⟩
theorem Qn9 (a b:Int) (w:World):Calls prog 136 #[Iv 8,Iv a,Iv b] w fun e w'=>e=.returned (.tuple #[Iv (bits .and .i64 a b),.bool true])/\w'=w:=by
 go_enter func136,ntmps136
 go_wp2
 go_ret2;exact⟨Z,Z⟩
theorem QnV (a b:Int) (w:World):Calls prog 136 #[Iv 9,Iv a,Iv b] w fun e w'=>e=.returned (.tuple #[Iv (bits .xor .i64 a b),.bool true])/\w'=w:=by
 go_enter func136,ntmps136
 go_wp2
 go_ret2;exact⟨Z,Z⟩
theorem Qn4 (k a b:Int) (w:World) (c:k<1\/9<k):Calls prog 136 #[Iv k,Iv a,Iv b] w fun e w'=>e=.returned (.tuple #[Iv 0,.bool false])/\w'=w:=by
 rcases c with c | c
 ·go_enter func136,ntmps136
  go_wp2
  go_ret2;exact⟨Z,Z⟩
 ·go_enter func136,ntmps136
  go_wp2
  go_ret2;exact⟨Z,Z⟩
def aOp (k a b:Int):Option Int :=
 if k=1 then some (wrap64 (a+b)) else if k=2 then some (wrap64 (a - b)) else if k=3 then some (wrap64 (a*b))
 else if k=4 then (if b=0 then none else some (wrap64 (a.tdiv b))) else if k=5 then (if b=0 then none else some (a.tmod b))
 else if k=6 then some (tru (decide (a<b))) else if k=7 then some (tru (a==b)) else if k=8 then some (bits .and .i64 a b) else if k=9 then some (bits .xor .i64 a b) else none
theorem QlR (k a b:Int) (w:World):Calls prog 136 #[Iv k,Iv a,Iv b] w fun e w'=>e=.returned (.tuple #[Iv ((aOp k a b).getD 0),.bool (aOp k a b).isSome])/\w'=w:=by
 by_cases m:k=1
 ·subst m;exact QnU a b w
 by_cases n:k=2
 ·subst n;exact QnQ a b w
 by_cases j:k=3
 ·subst j;exact Qoh a b w
 by_cases l:k=4
 ·subst l;by_cases c:b=0
  ·subst c;exact Qnh a w
  ·have:aOp 4 a b=some (wrap64 (a.tdiv b)):=by simp[aOp,c]
   rw[this];exact Qod a b w (by simpa using c) c
 by_cases h:k=5
 ·subst h;by_cases c:b=0
  ·subst c;exact Qm5 a w
  ·have:aOp 5 a b=some (a.tmod b):=by simp[aOp,c]
   rw[this];exact Qn8 a b w (by simpa using c) c
 by_cases i:k=6
 ·subst i;exact Qoj a b w
 by_cases f:k=7
 ·subst f;exact Qog a b w
 by_cases g:k=8
 ·subst g;exact Qn9 a b w
 by_cases d:k=9
 ·subst d;exact QnV a b w
 ·have:aOp k a b=none:=by simp[aOp,m,n,j,l,h,i,f,g,d]
  rw[this];exact Qn4 k a b w (by omega)
theorem Q6 {x:Qs}{d:IP}(h:Blk w1 X (Zp x d) t):w1.cell? ⟨X,0,none⟩=some (Iv x.op)/\w1.cell? ⟨X,1,none⟩=some (Iv x.a)/\w1.cell? ⟨X,2,none⟩=some (Iv x.b)/\w1.cell? ⟨X,3,none⟩=some (Iv x.c)/\w1.cell? ⟨X,4,none⟩=some (Iv x.k)/\w1.cell? ⟨X,5,none⟩=some (Iv x.n)/\w1.cell? ⟨X,6,none⟩=some (.slice d.pR x.regs.length d.cR)/\w1.cell? ⟨X,7,none⟩=some (.slice d.pA x.args.length d.cA) :=
 ⟨Qb h 0 _ Z,Qb h 1 _ Z,Qb h 2 _ Z,Qb h 3 _ Z,Qb h 4 _ Z,Qb h 5 _ Z,Qb h 6 _ Z,Qb h 7 _ Z⟩
section
variable {m:List (MFunc 6)}{n n':Nat}{M M':IM}{x:Qs}{fn:MFunc 6}{bl:MBlock 6}{op:Int->Int->Int->Option Int}
theorem QcK (h:x.form funcs=0):(1<=x.op/\x.op<=14)/\(x.op=5->x.args.length<=8)/\(x.op=14->0<=x.k/\x.k<(funcs:Int)/\x.regs.length<=6/\x.args.length<=8):=by
 unfold Qs.form at h;split at h
 ·cases h
 rename_i a
 split at h
 ·cases h
 split at h
 ·cases h
 split at h
 ·cases h
 rename_i b
 split at h
 ·cases h
 split at h
 ·cases h
 rename_i c
 split at h
 ·cases h
 rename_i d
 refine⟨?_,fun e=>by omega,fun e=>by omega⟩
 unfold Q4 at a;by_cases e:1<=x.op/\x.op<=14
 ·exact e
 ·exfalso
  apply a
  repeat' rw[Xr (by omega)]
  rfl
end
end Go.Proofs.YtjhdpajpibdnaafGreat
