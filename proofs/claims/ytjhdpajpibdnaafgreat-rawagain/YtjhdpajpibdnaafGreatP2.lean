import Derived.Test.YtjhdpajpibdnaafGreatP1
import Derived.Orders
import Derived.Deep.DeepCutAuto
import Derived.Deep.CutBlock
import Derived.Lib.MinMax
import Derived.Laws.CopyRow
import Derived.Laws.CopyOwn
import Derived.Maps.AppendAt
import Derived.Deep.RegionWith
set_option maxHeartbeats 16000000
set_option maxRecDepth 100000
namespace Go.Proofs.YtjhdpajpibdnaafGreat
open Go.ChangeShapes Go.WideShapes Go.ChangeAt Go.RowKit _root_.Go.Proofs.Tryz
set_option linter.unusedSimpArgs false
set_option linter.unusedVariables false
variable {w w' w6 w1 w2:World}{n b c k m rc ac X j B i cm g N d f fi cap bp q R pages id bi cc funcs s ci rl al ca ri vl most cR cA G:Nat}{O Q O':Nat→Prop}{l xs regs inp:List Int}{p a rg ag pm pi pa pR pA ra aa:Option Addr}{t e:TypeId}{v:Value}{P:Program}{L bs:List Bool}{x ya xc xk fr xa xb xn yb:Int}{ds cs:List Value}{ops:Array Oper}
def QbH (m:List (MFunc 6)) (M:IM):Prop:=M.done=true\/∃ g fn bl s,Inv m g M fn bl s
theorem JSt.upto_mf:∀ (l:List Qs) (s:JSt),(s.upto l).m=s.m/\(s.upto l).f=s.f
 | [],s=>⟨Z,Z⟩
 | x::l,s=>by
   have:=JSt.upto_mf l (s.next x)
   exact this
section
variable {m:List (MFunc 6)}{g g':Sig}{M M':IM}{fn:MFunc 6}{bl:MBlock 6}{s:JSt}{x:Qs}{op:Int->Int->Int->Option Int}
theorem Inv.mf (I:Inv m g M fn bl s):s.m=m/\s.f=fn:=by
 have:=JSt.upto_mf (bl.code.take M.top.i) (JSt.start m fn bl)
 rw[I.hs];exact this
theorem Inv.on (I:Inv m g M fn bl s) (c:bl.code[M.top.i]?=some x) (a:M'.top.f=M.top.f) (e:M'.top.b=M.top.b) (hi:M'.top.i=M.top.i+1) (d:M'.rest=M.rest) (F:FrT g' M'.h (s.next x) M'.top.v M'.top.r) (S:StT g' M'.h) (K:Stk m g' M'.h (Own (s.next x) M'.top.r) fn M.top.f M'.top.r M.rest):Inv m g' M' fn bl (s.next x):=by
 have j:=(Zi c).1;refine⟨by rw[a];exact I.hf,by rw[e];exact I.hb,by rw[hi];omega,?_,F,S,by rw[a,d];exact K⟩
 rw[hi,XV,c]
 show s.next x=(JSt.start m fn bl).upto (bl.code.take M.top.i++[x])
 rw[JSt.upto_snoc,<-I.hs]
theorem Inv.val (I:Inv m g M fn bl s) (H:bl.code[M.top.i]?=some x) (l:x.op≠3) (o:x.op≠4) (D:M'.top.f=M.top.f) (B:M'.top.b=M.top.b) (hi:M'.top.i=M.top.i+1) (z:M'.rest=M.rest) (a:M'.top.r=M.top.r) (q:g.le g') (n:∀ k p,M.h.place k=some p->∃ p,M'.h.place k=some p) (S:StT g' M'.h){xs:List Q4}(A:M'.top.v=M.top.v++xs) (E:xs.length=(s.makes x).2.length)
 (c:∀ (j:Nat) (y:Q4) (t:TT 6),xs[j]?=some y->(s.makes x).2[j]?=some t->∃ u,rtm M.top.r t=some u/\Qea g' y u):QbH m M':=by
 refine .inr ⟨g',fn,bl,_,I.on H D B hi z ?_ S ?_⟩
 ·rw[a,A]
  have F:FrT g' M'.h s M.top.v M.top.r:=I.fr.keep q (fun k d=>by obtain⟨p,e⟩:=I.fr.held k d;exact n _ p e);exact F.push E c (Qa7 l o) Z
 ·rw[a]
  refine I.stk.keep q (fun k _ ⟨p,e⟩=>n k p e) (fun k d=>?_) (fun k _=>rfl);obtain⟨j,G,C,w⟩:=d
  exact .inl ⟨j,by rw[<-Qa7 l o (s:=s)];exact G,C,w⟩
theorem Inv.still (I:Inv m g M fn bl s) (A:bl.code[M.top.i]?=some x) (l:x.op≠3) (u:x.op≠4) (w:M'.top.f=M.top.f) (o:M'.top.b=M.top.b) (hi:M'.top.i=M.top.i+1) (d:M'.rest=M.rest) (a:M'.top.r=M.top.r) (c:M'.h=M.h) (n:M'.top.v=M.top.v) (z:(s.makes x).2=[]):QbH m M' :=
 I.val A l u w o hi d a (fun _ _ _ h=>h) (fun k p e=>⟨p,by rw[c];exact e⟩) (by rw[c];exact I.st) (xs:=[]) (by simpa using n) (by rw[z];rfl) (fun j y t q=>by simp at q)
theorem Inv.one (I:Inv m g M fn bl s) (D:bl.code[M.top.i]?=some x) (A:x.op≠3) (B:x.op≠4) (C:M'.top.f=M.top.f) (z:M'.top.b=M.top.b) (hi:M'.top.i=M.top.i+1) (o:M'.rest=M.rest) (c:M'.top.r=M.top.r) (l:M'.h=M.h){y:Q4}{t:TT 6}(w:M'.top.v=M.top.v++[y]) (n:(s.makes x).2=[t]) (q:∃ u,rtm M.top.r t=some u/\Qea g y u):QbH m M' :=
 I.val D A B C z hi o c (fun _ _ _ h=>h) (fun k p e=>⟨p,by rw[l];exact e⟩) (by rw[l];exact I.st) (xs:=[y]) w (by rw[n];rfl) (fun j F E d a=>by
  rw[n] at a
  have:j=0:=by have:=(Zi d).1;simp at this;omega
  subst this;simp at d a;subst d a;exact q)
theorem IM.over_good (m:List (MFunc 6)) (M:IM) (e:Int):QbH m (M.over e):=.inl Z
abbrev IM.one (M:IM):IM:={ M with fuel:=M.fuel+1,top:={ M.top with i:=M.top.i+1 } }
def QbX (m:List (MFunc 6)) (op:Int->Int->Int->Option Int) (M:IM) (x:Qs):Prop:=∃ M',IM.ins m op M.one x=some M'/\QbH m M'
theorem QjO (I:Inv m g M fn bl s) (a:bl.code[M.top.i]?=some x) (b:s.code x=0) (h:x.op=1):QbX m op M x:=by
 refine⟨_,by unfold IM.ins;rw[Xs h],?_⟩
 exact I.one a (by omega) (by omega) Z Z Z Z Z Z Z (by rw[Qaa (.inl h)]) (Qd8 _)
theorem Qkr (I:Inv m g M fn bl s) (j:bl.code[M.top.i]?=some x) (o:s.code x=0) (h:x.op=2):QbX m op M x:=by
 have c:=(QN o).2.1;rw[QbI h] at c
 obtain⟨p,f⟩:=QD c
 obtain⟨a,l⟩:=I.fr.num p
 obtain⟨b,d⟩:=I.fr.num f
 unfold QbX IM.ins;rw[Xr (by omega),Xs h]
 show ∃ M',(match QS M.top.v x.a with | none=>none | some a=>match QS M.top.v x.b with | none=>none | some b=>match op x.k a b with | none=>some (M.one.over 1) | some n=>some (M.one.push [Qct n]))=some M'/\QbH m M';rw[l,d]
 cases e:op x.k a b with
 | none=>simp only[e];exact⟨_,Z,IM.over_good _ _ _⟩
 | some n=>simp only[e];exact⟨_,Z,I.one j (by omega) (by omega) Z Z Z Z Z Z Z (by rw[QbI h]) (Qd8 _)⟩
theorem Qmc (I:Inv m g M fn bl s) (a:bl.code[M.top.i]?=some x) (b:s.code x=0) (h:x.op=12):QbX m op M x:=by
 unfold QbX IM.ins;rw[Xr (by omega),Xr (by omega),Xr (by omega),Xs h]
 show ∃ M',(match M.inp with | []=>some (M.one.over 4) | n::l=>some (IM.push { M.one with inp:=l } [Qct n]))=some M'/\QbH m M'
 cases e:M.inp with
 | nil=>exact⟨_,Z,IM.over_good _ _ _⟩
 | cons n l=>exact⟨_,Z,I.one a (by omega) (by omega) Z Z Z Z Z Z Z (by rw[Qaa (.inr h)]) (Qd8 _)⟩
theorem QjY (I:Inv m g M fn bl s) (c:bl.code[M.top.i]?=some x) (d:s.code x=0) (h:x.op=13):QbX m op M x:=by
 have b:=(QN d).2.1;rw[QbC h] at b
 obtain⟨a,f⟩:=I.fr.num b
 unfold QbX IM.ins;rw[Xr (by omega),Xr (by omega),Xr (by omega),Xr (by omega),Xs h]
 show ∃ M',(match QS M.top.v x.a with | none=>none | some n=>if M.out.length=2000 then some (M.one.over 8) else some { M.one with out:=M.out++[n] })=some M'/\QbH m M';rw[f]
 by_cases e:M.out.length=2000
 ·simp only[e,if_true];exact⟨_,Z,IM.over_good _ _ _⟩
 ·simp only[e,if_false];exact⟨_,Z,I.still c (by omega) (by omega) Z Z Z Z Z Z Z (by rw[QbC h])⟩
theorem Zw (h:x.op=4\/x.op=5\/x.op=6\/x.op=7\/x.op=8\/x.op=9\/x.op=10\/x.op=11):IM.ins m op M x=M.mem x:=by
 unfold IM.ins;rw[Xr (by omega),Xr (by omega),Xr (by omega),Xr (by omega),Xr (by omega),Xr (by omega)]
theorem Qd.get_nat {h:Qd}{v:Q4}{t:Qw}(e:h.thing v=some t){k:Int}(a:0<=k):h.get v k=match t.l[k.toNat]? with | none=>(noV,1) | some x=>(x,0):=by
 unfold Qd.get;rw[e];simp only;rw[Xr (by omega)];first | done | (cases t.l[k.toNat]?<;>rfl)
theorem Qks (I:Inv m g M fn bl s) (w:bl.code[M.top.i]?=some x) (o:s.code x=0) (h:x.op=11):QbX m op M x:=by
 have c:=(QN o).2.1;rw[QbS h] at c
 obtain⟨a,t,u,D,k,z,r,j,C,y,e⟩:=I.fr.want c
 obtain⟨p,n⟩:=e Z (by omega)
 obtain⟨d,q,B,A⟩:=r.thing I.st (.inr y) n
 unfold QbX;rw[Zw (by omega)]
 unfold IM.mem;have b:QR M.one.top.v x.a=some a:=k;rw[b]
 simp only
 rw[Xr (by omega),Xr (by omega),Xr (by omega),Xr (by omega),Xr (by omega),Xr (by omega),Xr (by omega)]
 have f:M.h.len a=((d.l.length:Int),0):=by unfold Qd.len;rw[q]
 show ∃ M',(if a.kind=4/\(M.h.len a).2=0 then some (M.one.push [Qct (M.h.len a).1]) else none)=some M'/\QbH m M';rw[f,Xs ⟨j,Z⟩]
 exact⟨_,Z,I.one w (by omega) (by omega) Z Z Z Z Z Z Z (by rw[QbS h]) (Qd8 _)⟩
theorem Qjo (I:Inv m g M fn bl s) (K:bl.code[M.top.i]?=some x) (F:s.code x=0) (h:x.op=9):QbX m op M x:=by
 have f:=(QN F).2.1;rw[Qba h] at f
 obtain⟨C,k⟩:=QD f
 obtain⟨a,t,u,P,w,O,G,r,N,D,H⟩:=I.fr.want C
 obtain⟨n,z⟩:=I.fr.num k
 obtain⟨p,A⟩:=H Z (by omega)
 obtain⟨E,e,B,L⟩:=G.thing I.st (.inr D) A
 unfold QbX;rw[Zw (by omega)]
 unfold IM.mem;have c:QR M.one.top.v x.a=some a:=w;have d:QS M.one.top.v x.b=some n:=z;rw[c]
 simp only
 rw[Xr (by omega),Xr (by omega),Xr (by omega),Xr (by omega),Xr (by omega),Xs h,d]
 simp only
 rw[Xs r]
 show ∃ M',(if (M.h.get a n).2=1 then some (M.one.over 2) else if (M.h.get a n).2=0 then some (M.one.push [(M.h.get a n).1]) else none)=some M'/\QbH m M';by_cases j:n<0
 ·have:M.h.get a n=(noV,1):=by unfold Qd.get;rw[e];simp only;rw[Xs j]
  rw[this]
  exact⟨_,by rw[Xs Z],IM.over_good _ _ _⟩
 ·rw[Qd.get_nat e (by omega)]
  cases ey:E.l[n.toNat]? with
  | none=>exact⟨M.one.over 2,Z,IM.over_good _ _ _⟩
  | some y =>
    refine⟨M.one.push [y],Z,I.one K (by omega) (by omega) Z Z Z Z Z Z Z (by rw[Qba h]) ⟨tInt,Z,.inl ⟨Z,?_⟩⟩⟩
    rcases B with ⟨o,J,q⟩|⟨o,J,-⟩
    ·exact q y (Zm ey)
    ·omega
theorem Qk2 (I:Inv m g M fn bl s) (S:bl.code[M.top.i]?=some x) (K:s.code x=0) (h:x.op=6):QbX m op M x:=by
 obtain⟨b,c,-⟩:=QN K
 have j:0<=x.k:=by
  unfold Qs.form at b;repeat' split at b
  all_goals first | omega | cases b
 have d:=QcW (s:=s) h;rw[d] at c
 cases et:s.at x.a with
 | none=>rw[et] at c;cases c
 | some t =>
   rw[et] at c d
   simp only at c d
   by_cases e:s.want x.a 3 true=0
   ·rw[Xs e] at c d
    cases ek:t.2.2[x.k.toNat]? with
    | none=>rw[ek] at c;cases c
    | some w =>
      rw[ek] at d
      simp only at d
      obtain⟨a,T,u,q,D,A,N,C,V,H,Q⟩:=I.fr.want e
      rw[et] at q;cases q
      obtain⟨p,E⟩:=Q Z (by omega)
      obtain⟨J,L,F,U⟩:=N.thing I.st (.inl H) E
      rcases F with ⟨r,R,-⟩|⟨r,R,B,z⟩
      ·omega
      ·obtain⟨O,n,G⟩:=Qef (Zp A).2.2 ek
       obtain⟨y,o⟩:∃ y,J.l[x.k.toNat]?=some y:=⟨_,Zg (by rw[B];exact(Zi n).1)⟩
       have P:M.h.get a x.k=(y,0):=by rw[Qd.get_nat L j,o]
       unfold QbX;rw[Zw (by omega)]
       unfold IM.mem;have f:QR M.one.top.v x.a=some a:=D;rw[f]
       simp only
       rw[Xr (by omega),Xr (by omega),Xr (by omega),Xs h]
       show ∃ M',(if a.kind=3/\(M.h.get a x.k).2=0 then some (M.one.push [(M.h.get a x.k).1]) else none)=some M'/\QbH m M';rw[P,Xs ⟨C,Z⟩]
       exact⟨_,Z,I.one S (by omega) (by omega) Z Z Z Z Z Z Z (by rw[d]) ⟨_,TT.ren_at 5 G,z _ y O o n⟩⟩
   ·rw[Xr e] at c;exact absurd c e
theorem Qd.set_place {h:Qd}{v y:Q4}{k:Int}{j:Int}{p:Qr}(e:h.place j=some p):∃ p',(h.set v k y).2.place j=some p':=by
 unfold Qd.set;split
 ·rename_i t q d c
  obtain⟨f,a,b⟩:=Qd.place_some c
  split
  ·exact⟨p,e⟩
  ·split
   ·exact⟨p,e⟩
   ·simp only
    rw[Qd.place_set (Zi a).1]
    split
    ·exact⟨_,by first | rw[Xs b] | rfl⟩
    ·exact⟨p,e⟩
 ·exact⟨p,e⟩
theorem Qd.put_place {h:Qd}{v:Q4}{t:Qw}{words:Int}{j:Int}{p:Qr}(e:h.place j=some p):∃ p',(h.put v t words).2.2.place j=some p':=by
 unfold Qd.put;split
 ·exact⟨p,e⟩
 ·rename_i q d
  obtain⟨g,f,i,b,c,a⟩:=Qd.at_some d
  split
  ·exact⟨p,e⟩
  ·simp only
   rw[Qd.place_set (by rw[b];exact(Zi c).1)]
   split
   ·have:(q.more t words).there=true:=by unfold Qr.more;split<;>exact a
    exact⟨_,by rw[Xs this]⟩
   ·exact⟨p,e⟩
theorem Inv.stored (I:Inv m g M fn bl s) (l:bl.code[M.top.i]?=some x) (b:x.op≠3) (d:x.op≠4) (f:(s.makes x).2=[]){a y:Q4}{k:Int}(S:StT g (M.h.set a k y).2):QbH m { M.one with h:=(M.h.set a k y).2 } :=
 I.val (M':={ M.one with h:=(M.h.set a k y).2 }) l b d Z Z Z Z Z (fun _ _ _ h=>h) (fun j p e=>Qd.set_place e) S (xs:=[]) (by simp) (by rw[f];rfl) (fun j y t c=>by simp at c)
theorem Qku (I:Inv m g M fn bl s) (hx:bl.code[M.top.i]?=some x) (o:s.code x=0) (h:x.op=7):QbX m op M x:=by
 obtain⟨d,c,-⟩:=QN o
 have aa:0<=x.k:=by
  unfold Qs.form at d;repeat' split at d
  all_goals first | omega | cases d
 have e:=QcM (s:=s) h;rw[e] at c
 cases et:s.at x.a with
 | none=>rw[et] at c;cases c
 | some t =>
   rw[et] at c e
   simp only at c e
   by_cases n:s.want x.a 3 true=0
   ·rw[Xs n] at c e
    cases ek:t.2.2[x.k.toNat]? with
    | none=>rw[ek] at c;cases c
    | some w =>
      rw[ek] at e c
      simp only at e c
      cases eb:s.at x.b with
      | none=>rw[eb] at c;cases c
      | some vt =>
        rw[eb] at c e
        simp only at c e
        by_cases D:ZR (w.at 5=vt)=true
        ·rw[Xs D] at e
         have B:w.at 5=vt:=by simpa[ZR] using D
         obtain⟨a,t',u,K,U,S,N,T,e6,e7,e8⟩:=I.fr.want n
         rw[et] at K;cases K
         obtain⟨p,V⟩:=e8 Z (by omega)
         obtain⟨th,f1,W,f3⟩:=N.thing I.st (.inl e7) V
         obtain⟨y,O,y1,y2,Q⟩:=I.fr.at eb
         rcases W with ⟨z,P,-⟩|⟨z,P,H,R⟩
         ·omega
         ·obtain⟨wu,G,X⟩:=Qef (Zp S).2.2 ek
          have q:x.k.toNat<th.l.length:=by rw[H];exact(Zi G).1
          have F:O=wu.at 5:=by
           have:=TT.ren_at 5 X
           rw[B] at this
           have f:vt.ren M.top.r.length (fun i=>M.top.r.getD i 0)=some O:=y2;rw[this] at f;exact(Xn f).symm
          have hs:g a.region a.thing.toNat=some u:=by
           rcases N with ⟨c1,-⟩|⟨c1,-⟩|⟨-,-,-,-,c5⟩
           ·omega
           ·omega
           ·exact c5
          obtain⟨J,L⟩:=I.st.set (x:=y) f1 (.inr ⟨z,P,H,R⟩) hs (fun o=>by rw[z] at o;cases o) (fun _ w' j=>by
           rw[G] at j;cases j;rw[<-F];exact Q) q
          have E:((x.k.toNat:Nat):Int)=x.k:=by omega
          rw[E] at J L
          unfold QbX;rw[Zw (by omega)]
          unfold IM.mem;have C:QR M.one.top.v x.a=some a:=U;have A:QR M.one.top.v x.b=some y:=y1;rw[C]
          simp only
          rw[Xr (by omega),Xr (by omega),Xr (by omega),Xr (by omega),Xs h,A]
          show ∃ M',(if a.kind=3/\(M.h.set a x.k y).1=0 then some { M.one with h:=(M.h.set a x.k y).2 } else none)=some M'/\QbH m M';rw[Xs ⟨T,J⟩]
          exact⟨_,Z,I.stored hx (by omega) (by omega) (by rw[e]) L⟩
        ·rw[Xr D] at c;cases c
   ·rw[Xr n] at c;exact absurd c n
theorem Qhg (I:Inv m g M fn bl s) (hx:bl.code[M.top.i]?=some x) (U:s.code x=0) (h:x.op=10):QbX m op M x:=by
 have d:=(QN U).2.1;rw[QaC h] at d
 obtain⟨R,d⟩:=QD d
 obtain⟨J,j⟩:=QD d
 obtain⟨a,t,u,e1,O,e3,G,N,e6,S,X⟩:=I.fr.want R
 obtain⟨n,P⟩:=I.fr.num J
 obtain⟨z,L⟩:=I.fr.num j
 obtain⟨p,Q⟩:=X Z (by omega)
 obtain⟨D,y,C,f3⟩:=G.thing I.st (.inr S) Q
 have hs:g a.region a.thing.toNat=some u:=by
  rcases G with ⟨V,-⟩|⟨V,-⟩|⟨-,-,-,-,c5⟩
  ·omega
  ·omega
  ·exact c5
 have A:D.arr=true:=by
  rcases C with ⟨K,-⟩|⟨-,b2,-⟩
  ·exact K
  ·omega
 unfold QbX;rw[Zw (by omega)]
 unfold IM.mem;have r:QR M.one.top.v x.a=some a:=O;have w:QS M.one.top.v x.b=some n:=P;have f:QS M.one.top.v x.c=some z:=L;rw[r]
 simp only
 rw[Xr (by omega),Xr (by omega),Xr (by omega),Xr (by omega),Xr (by omega),Xr (by omega),Xs h,w]
 simp only
 rw[f]
 simp only
 rw[Xs N]
 show ∃ M',(if (M.h.set a n (Qct z)).1=1 then some (M.one.over 2) else if (M.h.set a n (Qct z)).1=0 then some { M.one with h:=(M.h.set a n (Qct z)).2 } else none)=some M'/\QbH m M';by_cases H:n<0\/D.l.length<=n.toNat
 ·have:(M.h.set a n (Qct z)).1=1:=by
   obtain⟨W,q,T,-⟩:=Qd.thing_iff.1 y
   unfold Qd.set;rw[y,T];simp only;rw[Xr (fun e=>e.2 Z),Xs H]
  rw[Xs this]
  exact⟨_,Z,IM.over_good _ _ _⟩
 ·obtain⟨o,F⟩:=I.st.set (x:=Qct z) (k:=n.toNat) y C hs (fun _=>rfl) (fun E=>by rw[A] at E;cases E) (by omega)
  have B:((n.toNat:Nat):Int)=n:=by omega
  rw[B] at o F
  rw[Xr (by rw[o];decide),Xs o]
  exact⟨_,Z,I.stored hx (by omega) (by omega) (by rw[QaC h]) F⟩
theorem Inv.made (I:Inv m g M fn bl s) (D:bl.code[M.top.i]?=some x) (z:x.op≠3) (A:x.op≠4){T u:TT 6}(k:(s.makes x).2=[T]){a:Q4}{p:Qr}{t:Qw}{words:Int}(f:M.h.at a=some p) (n:rtm M.top.r T=some u) (B:u.r=a.region) (o:QbM g t u):∃ M',M.one.got (M.h.put a t words)=some M'/\QbH m M':=by
 obtain⟨E,C,S,v⟩:=I.st.put (words:=words) f B o
 rcases Qd.put_code (t:=t) (words:=words) f with d | ⟨l,-⟩
 ·unfold IM.got;rw[Xr (by rw[d];decide),Xs d]
  refine⟨_,Z,?_⟩
  exact I.val D z A Z Z Z Z Z C (fun j q e=>Qd.put_place e) S (xs:=[(M.h.put a t words).1]) Z (by rw[k];rfl) (fun j y w c b=>by
   rw[k] at b
   have:j=0:=by have:=(Zi c).1;simp at this;omega
   subst this;simp at c b;subst c b;exact⟨u,n,v d⟩)
 ·unfold IM.got;rw[Xs l]
  exact⟨_,Z,IM.over_good _ _ _⟩
theorem Qho (I:Inv m g M fn bl s) (P:bl.code[M.top.i]?=some x) (K:s.code x=0) (h:x.op=8):QbX m op M x:=by
 have e:=(QN K).2.1;have f:=Qbs (s:=s) h;rw[f] at e
 cases et:s.at x.a with
 | none=>rw[et] at e;cases e
 | some t =>
   rw[et] at e f
   simp only at e f
   obtain⟨J,A⟩:=QD e
   obtain⟨a,Q,u,w,F,q,L,E,C,U,N⟩:=I.fr.want J
   rw[et] at w;cases w
   obtain⟨n,G⟩:=I.fr.num A
   obtain⟨p,H⟩:=N Z (by omega)
   have d:a.region=u.r:=by
    rcases L with ⟨V,-⟩|⟨-,-,c⟩|⟨-,-,c,-⟩
    ·omega
    ·exact c
    ·exact c
   have k:M.h.at a=some p:=by unfold Qd.at;rw[Xs E,d];exact H
   unfold QbX;rw[Zw (by omega)]
   unfold IM.mem;have l:QR M.one.top.v x.a=some a:=F;have o:QS M.one.top.v x.b=some n:=G;rw[l]
   simp only
   rw[Xr (by omega),Xr (by omega),Xs h,o]
   simp only
   by_cases j:n<0\/15<n
   ·rw[Xs j]
    exact⟨_,Z,IM.over_good _ _ _⟩
   ·rw[Xr j]
    show ∃ M',M.one.got (M.h.array a n)=some M'/\QbH m M';unfold Qd.array;rw[Xr j]
    obtain⟨R,S,T⟩:=Qln q (by omega)
    have z:rtm M.top.r (mkT 4 t.r [])=some (mkT 4 u.r []:TT 6):=by
     have D:ZK M.top.r.length (fun i=>M.top.r.getD i 0) 4 t.r=some u.r:=by
      have:=(Zp q).2.1
      have O:t.1=2:=C;rw[O] at this
      exact this
     exact ZT (t:=(mkT 4 t.r []:TT 6)) D Z
    exact I.made P (by omega) (by omega) (by rw[f]) k z d.symm (.inl ⟨Z,Z,fun y B=>by rw[List.eq_of_mem_replicate B];rfl⟩)
theorem Qhf (I:Inv m g M fn bl s) (hx:bl.code[M.top.i]?=some x) (hc:s.code x=0) (h:x.op=5):QbX m op M x:=by
 have d:=(QN hc).2.1;have e:=Qbk (s:=s) h;rw[e] at d
 cases et:s.at x.a with
 | none=>rw[et] at d;cases d
 | some t =>
   rw[et] at d e
   simp only at d e
   by_cases E:s.want x.a 2 true=0
   ·rw[Xs E] at d e
    cases ef:s.fields x.args with
    | none=>rw[ef] at d;cases d
    | some l =>
      rw[ef] at d e
      simp only at d e
      by_cases G:4<TT.height (n:=7) (mkT 3 t.r l)
      ·rw[Xs G] at d;cases d
      ·rw[Xr G] at e
       obtain⟨a,t',u,e1,e2,e3,e4,e5,e6,e7,e8⟩:=I.fr.want E
       rw[et] at e1;cases e1
       obtain⟨p,hp⟩:=e8 Z (by omega)
       have f:a.region=u.r:=by
        rcases e4 with ⟨S,-⟩|⟨-,-,c⟩|⟨-,-,c,-⟩
        ·omega
        ·exact c
        ·exact c
       have H:M.h.at a=some p:=by unfold Qd.at;rw[Xs e5,f];exact hp
       obtain⟨D,b1,b2,X⟩:=I.fr.fields ef
       obtain⟨k,A⟩:∃ k,ZU (TT.ren M.top.r.length (fun i=>M.top.r.getD i 0)) l=some k:=by
        clear e d G
        have P:∀ (l:List (TT 6)),(∀ t∈l,∃ u,rtm M.top.r t=some u)->∃ k,ZU (TT.ren M.top.r.length (fun i=>M.top.r.getD i 0)) l=some k:=by
         intro l
         induction l with
         | nil=>exact fun _=>⟨[],Z⟩
         | cons z zs ih =>
           intro F;obtain⟨W,V⟩:=F z (by simp)
           obtain⟨us,U⟩:=ih (fun t ht=>F t (by simp[ht]))
           have C:z.ren M.top.r.length (fun i=>M.top.r.getD i 0)=some W:=V;exact⟨W::us,by simp only[ZU,C,U]⟩
        refine P l (fun z F=>?_);obtain⟨j,hj⟩:=List.mem_iff_getElem?.1 F
        obtain⟨y,J⟩:∃ y,D[j]?=some y:=⟨_,Zg (by rw[b2];exact(Zi hj).1)⟩
        obtain⟨w,w1,-⟩:=X j y z J hj
        exact⟨w,w1⟩
       have hr:ZK M.top.r.length (fun i=>M.top.r.getD i 0) 3 t.r=some u.r:=by
        have:=(Zp e3).2.1
        have ek:t.1=2:=e6;rw[ek] at this
        exact this
       have Q:(mkT 3 t.r l:TT 7).ren M.top.r.length (fun i=>M.top.r.getD i 0)=some (mkT 3 u.r k:TT 7):=ZT (t:=(mkT 3 t.r l:TT 7)) hr A;have hT:=TT.ren_at 5 Q;unfold QbX;rw[Zw (by omega)]
       unfold IM.mem;have R:QR M.one.top.v x.a=some a:=e2;have N:Zb M.one.top.v x.args=some D:=b1;rw[R]
       simp only
       rw[Xr (by omega),Xs h,N]
       show ∃ M',M.one.got (M.h.tuple a D)=some M'/\QbH m M';unfold Qd.tuple;obtain⟨S,c2⟩:=ZV.1 A
       refine I.made hx (by omega) (by omega) (by rw[e]) H hT (show u.r=a.region from f.symm) (.inr ⟨Z,Z,?_,fun j y w J L=>?_⟩)
       ·show D.length=(k.map (TT.at 4)).length;simp[b2,S]
       ·have b:(k.map (TT.at 4))[j]?=some w:=L;rw[XS] at b
        cases eu:k[j]? with
        | none=>rw[eu] at b;cases b
        | some uj =>
          rw[eu] at b
          have T:uj.at 4=w:=Xn b;obtain⟨q,o⟩:∃ q,l[j]?=some q:=⟨_,Zg (by rw[<-S];exact(Zi eu).1)⟩
          obtain⟨w',d1,d2⟩:=X j y q J o
          have K:=c2 j q o;rw[eu] at K
          have B:q.ren M.top.r.length (fun i=>M.top.r.getD i 0)=some w':=d1;rw[K] at B;cases B
          have O:uj.height<=4:=by
           rw[TT.ren_height K]
           have:=(Zc (t:=(mkT 3 t.r l:TT 7)) (m:=4)).1 (by omega) q (Zm o)
           omega
          rw[<-T,TT.at_back 4 uj O]
          exact d2
   ·rw[Xr E] at d;exact absurd d E
end
section
variable {m:List (MFunc 6)}{op:Int->Int->Int->Option Int}{φ:Int->Nat}{π:Int->Nat->Nat}{M M':IM}{R:RM}{x:Qs}
abbrev RM.one (R:RM):RM:={ R with fuel:=R.fuel+1 }
theorem Sim.next (S:Sim φ π M R) (c:M.done=false){a:Qd}{l:Est}{φ':Int->Nat}{π':Int->Nat->Nat}(H:Qbb a l φ' π') (d:∀ x n,Rep M.h φ π x n->Rep a φ' π' x n){xs:List Q4}{ns:List Int}(m:ns.length=xs.length) (o:∀ (j:Nat) x n,xs[j]?=some x->ns[j]?=some n->Rep a φ' π' x n) (r':List Int) (g k:List Int) :
 Qex { M with h:=a,top:=⟨M.top.f,M.top.b,M.top.i+1,M.top.v++xs,r'⟩,inp:=g,out:=k,fuel:=M.fuel+1 } { R with e:=l,top:={ R.top with v:=R.top.v++ns,i:=R.top.i+1 },inp:=g,out:=k,fuel:=R.fuel+1 }:=by
 have F:=((S.top c).mono d).push m o (M.top.i+1) (R.top.i+1) (by rw[(S.top c).eI]);exact⟨φ',π',H,S.done,Z,S.back,by show R.fuel+1=M.fuel+1;rw[S.fuel],S.fin,fun _=>rfl,fun _=>⟨F.eF,F.eB,F.eI,F.len,F.val⟩,fun _=>(S.rest c).mono d⟩
theorem Sim.next0 (S:Sim φ π M R) (a:M.done=false){c:Qd}{g:Est}{φ':Int->Nat}{π':Int->Nat->Nat}(H:Qbb c g φ' π') (d:∀ x n,Rep M.h φ π x n->Rep c φ' π' x n){xs:List Q4}{ns:List Int}(k:ns.length=xs.length) (l:∀ (j:Nat) x n,xs[j]?=some x->ns[j]?=some n->Rep c φ' π' x n) (r':List Int) :
 Qex { M with h:=c,top:=⟨M.top.f,M.top.b,M.top.i+1,M.top.v++xs,r'⟩,fuel:=M.fuel+1 } { R with e:=g,top:={ R.top with v:=R.top.v++ns,i:=R.top.i+1 },fuel:=R.fuel+1 }:=by
 have F:=((S.top a).mono d).push k l (M.top.i+1) (R.top.i+1) (by rw[(S.top a).eI]);exact⟨φ',π',H,S.done,S.out,S.back,by show R.fuel+1=M.fuel+1;rw[S.fuel],S.fin,fun _=>S.inp a,fun _=>⟨F.eF,F.eB,F.eI,F.len,F.val⟩,fun _=>(S.rest a).mono d⟩
theorem Qgi {P:Q4->Int->Prop}{y:Q4}{n:Int}(h:P y n) (j:Nat) (x:Q4) (k:Int) (a:[y][j]?=some x) (b:[n][j]?=some k):P x k:=by
 cases j with
 | zero=>simp at a b;subst a b;exact h
 | succ j=>simp at a
theorem Sim.one1 (S:Sim φ π M R) (b:M.done=false){y:Q4}{n:Int}(a:Rep M.h φ π y n):Qex (M.one.push [y]) (R.one.on [n]) :=
 S.next0 b S.heap (fun _ _ h=>h) (xs:=[y]) (ns:=[n]) Z (Qgi a) M.top.r
theorem Sim.stop (S:Sim φ π M R) (k:Int):Qex (M.one.over k) (R.one.over k):=Sim.over (M:=M.one) (R:=R.one) (H:=S.heap) S.out S.back (by show R.fuel+1=M.fuel+1;rw[S.fuel]) k
def ZE (m:List (MFunc 6)) (op:Int->Int->Int->Option Int) (R:RM) (x:Qs) (M':IM):Prop:=∃ R',RM.ins op R.one x=some R'/\Qex M' R'
theorem Qiy (S:Sim φ π M R) (a:M.done=false) (e:x.op=1) (h:IM.ins m op M.one x=some M'):ZE m op R x M':=by
 simp[IM.ins,e] at h
 subst h;exact⟨_,by simp[RM.ins,e],S.one1 a (Qee x.n)⟩
theorem Qiw (S:Sim φ π M R) (c:M.done=false) (e:x.op=2) (h:IM.ins m op M.one x=some M'):ZE m op R x M':=by
 unfold IM.ins at h;rw[Xr (by omega),Xs e] at h
 have F:=S.top c
 cases ha:QS M.top.v x.a with
 | none=>rw[show QS M.one.top.v x.a=none from ha] at h;cases h
 | some a =>
   rw[show QS M.one.top.v x.a=some a from ha] at h
   simp only at h
   cases hb:QS M.top.v x.b with
   | none=>rw[show QS M.one.top.v x.b=none from hb] at h;cases h
   | some b =>
     rw[show QS M.one.top.v x.b=some b from hb] at h
     simp only at h
     unfold ZE RM.ins;rw[Xr (by omega),Xs e,show iAt R.one.top.v x.a=some a from F.num ha]
     simp only
     rw[show iAt R.one.top.v x.b=some b from F.num hb]
     simp only
     cases ho:op x.k a b with
     | none=>rw[ho] at h;cases h;exact⟨_,Z,S.stop 1⟩
     | some n=>rw[ho] at h;cases h;exact⟨_,Z,S.one1 c (Qee n)⟩
theorem QjV (S:Sim φ π M R) (a:M.done=false) (e:x.op=12) (h:IM.ins m op M.one x=some M'):ZE m op R x M':=by
 unfold IM.ins at h;rw[Xr (by omega),Xr (by omega),Xr (by omega),Xs e] at h
 unfold ZE RM.ins;rw[Xr (by omega),Xr (by omega),Xr (by omega),Xr (by omega),Xr (by omega),Xr (by omega),Xs e]
 have c:R.one.inp=M.one.inp:=S.inp a;rw[c]
 cases hi:M.one.inp with
 | nil=>rw[hi] at h;cases h;exact⟨_,Z,S.stop 4⟩
 | cons n l =>
   rw[hi] at h
   cases h
   refine⟨_,Z,?_⟩
   have:=S.next a S.heap (fun _ _ h=>h) (xs:=[Qct n]) (ns:=[n]) rfl (Qgi (Qee n)) M.top.r l M.out
   have b:=S.out;show Qex _ { R with inp:=l,top:=_,fuel:=R.fuel+1 };rw[show ({ R with inp:=l,top:={ R.top with v:=R.top.v++[n],i:=R.top.i+1 },fuel:=R.fuel+1 }:RM)={ R with e:=R.e,top:={ R.top with v:=R.top.v++[n],i:=R.top.i+1 },inp:=l,out:=M.out,fuel:=R.fuel+1 } by rw[<-b]]
   exact this
theorem Qh4 (S:Sim φ π M R) (b:M.done=false) (f:M.out.length<=2000) (e:x.op=13) (h:IM.ins m op M.one x=some M'):ZE m op R x M':=by
 unfold IM.ins at h;rw[Xr (by omega),Xr (by omega),Xr (by omega),Xr (by omega),Xs e] at h
 unfold ZE RM.ins;rw[Xr (by omega),Xr (by omega),Xr (by omega),Xr (by omega),Xr (by omega),Xr (by omega),Xr (by omega),Xs e]
 have F:=S.top b
 cases ha:QS M.top.v x.a with
 | none=>rw[show QS M.one.top.v x.a=none from ha] at h;cases h
 | some n =>
   rw[show QS M.one.top.v x.a=some n from ha] at h
   rw[show iAt R.one.top.v x.a=some n from F.num ha]
   simp only at h |-
   have c:R.one.out=M.one.out:=S.out;by_cases d:M.out.length=2000
   ·rw[Xs (show M.one.out.length=2000 from d)] at h
    cases h
    rw[Xr (by rw[c];show ¬ M.out.length<2000;omega)]
    exact⟨_,Z,S.stop 8⟩
   ·rw[Xr (show ¬ M.one.out.length=2000 from d)] at h
    cases h
    rw[Xs (by rw[c];show M.out.length<2000;omega)]
    refine⟨_,Z,?_⟩
    have:=S.next b S.heap (fun _ _ h=>h) (xs:=[]) (ns:=[]) rfl (fun j x n h=>by simp at h) M.top.r M.inp (M.out++[n])
    have k:=S.inp b;have g:=S.out;simp only[List.append_nil] at this
    unfold RM.on;simp only[List.append_nil]
    show Qex _ { R with out:=R.out++[n],top:={ R.top with i:=R.top.i+1 },fuel:=R.fuel+1 };rw[g,show ({ R with out:=M.out++[n],top:={ R.top with i:=R.top.i+1 },fuel:=R.fuel+1 }:RM)={ R with e:=R.e,top:={ R.top with i:=R.top.i+1 },inp:=M.inp,out:=M.out++[n],fuel:=R.fuel+1 } by rw[<-k]]
    exact this
theorem QhS (S:Sim φ π M R) (d:M.done=false) (e:x.op=3) (h:IM.ins m op M.one x=some M'):ZE m op R x M':=by
 unfold IM.ins at h;rw[Xr (by omega),Xr (by omega),Xs e] at h
 unfold ZE RM.ins;rw[Xr (by omega),Xr (by omega),Xs e]
 by_cases a:16<=M.h.live
 ·have j:M.one.h.open_.2.1=false:=by show M.h.open_.2.1=false;unfold Qd.open_;rw[Xs a]
  rw[j] at h
  have g:R.one.e.openK=-1:=(Est.open_no (S.heap.full.1 a)).1;rw[Xr (by rw[g];decide)]
  cases h
  exact⟨_,Z,S.stop 6⟩
 ·have c:M.h.open_=(⟨2,M.h.L.length,0,0⟩,true,{ M.h with L:=M.h.L++[newP] }):=by unfold Qd.open_;rw[Xr a]
  rw[Xs (by show M.h.open_.2.1=true;rw[c])] at h
  cases h
  obtain⟨i,f,l,k⟩:=S.heap.opens a
  rw[Xs (show 0<=R.one.e.openK from i)]
  refine⟨_,Z,?_⟩
  refine S.next0 d f k (xs:=[M.h.open_.1]) (ns:=[R.e.openK]) Z (Qgi ?_) (M.top.r++[M.h.open_.1.region]);rw[c]
  refine⟨fun b=>by simp at b,fun _=>⟨by simp only;omega,by simp;omega,fun p n=>⟨fun _=>?_,fun b=>absurd Z b⟩⟩⟩
  simp only
  rw[l]
  omega
theorem QgR (S:Sim φ π M R) (b:M.done=false) (e:x.op=4) (h:IM.ins m op M.one x=some M'):ZE m op R x M':=by
 rw[Zw (by omega)] at h
 unfold IM.mem at h;unfold ZE RM.ins;rw[Xr (by omega),Xr (by omega),Xr (by omega),Xs e]
 have F:=S.top b
 cases ha:QR M.top.v x.a with
 | none=>rw[show QR M.one.top.v x.a=none from ha] at h;cases h
 | some a =>
   obtain⟨n,f,d⟩:=F.at ha
   rw[show QR M.one.top.v x.a=some a from ha] at h
   rw[show iAt R.one.top.v x.a=some n from f]
   simp only at h |-
   rw[Xs e] at h
   cases hp:M.h.at a with
   | none =>
     have:(M.one.h.shut a).1=false:=by show (M.h.shut a).1=false;unfold Qd.shut;rw[hp]
     rw[this] at h;cases h
   | some p =>
     obtain⟨g,l,o⟩:=S.heap.shuts hp
     rw[Xs (show (M.one.h.shut a).1=true from g)] at h
     cases h
     refine⟨_,Z,?_⟩
     obtain⟨c,k,-⟩:=Qd.at_some hp
     have i:n=φ a.region:=((d.2 (.inl c)).2.2 p k).1 c
     have:=S.next0 b l o (xs:=[]) (ns:=[]) Z (fun j x n h=>by simp at h) M.top.r
     rw[i]
     simp only[List.append_nil] at this
     unfold RM.on;simp only[List.append_nil]
     exact this
theorem Qcz {g:Q4 × Int × Qd}(h:IM.got M g=some M'):(g.2.1=14/\M'=M.over 6)\/(g.2.1=0/\M'=IM.push ({ M with h:=g.2.2 }) [g.1]):=by
 unfold IM.got at h;split at h
 ·cases h;exact .inl ⟨by assumption,Z⟩
 ·split at h
  ·cases h;exact .inr ⟨by assumption,Z⟩
  ·cases h
theorem Sim.made (S:Sim φ π M R) (m:M.done=false){a:Q4}{n:Int}(j:Rep M.h φ π a n){t:Qw}(b:t.sz<=16)(k:Qml M.h φ π t l) (h:M.one.got (M.h.put a t t.sz)=some M'):Qex M' (R.one.thing n t.sz l):=by
 cases hp:M.h.at a with
 | none =>
   have:M.h.put a t t.sz=(noV,20,M.h):=by unfold Qd.put;rw[hp]
   rw[this] at h
   rcases Qcz h with ⟨c,-⟩|⟨c,-⟩<;>cases c
 | some p =>
   obtain⟨g,s,-⟩:=Qd.at_some hp
   have q:n=φ a.region:=((j.2 (.inl g)).2.2 p s).1 g;subst q;unfold RM.thing;rcases S.heap.puts hp t b with ⟨d,f⟩|⟨d,f,w,v⟩
   ·rw[Xr (show ¬ R.one.e.getCode (φ a.region) t.sz=0 from d)]
    rcases Qcz h with ⟨-,rfl⟩|⟨c,-⟩
    ·exact S.stop 6
    ·rw[f] at c;cases c
   ·rw[Xs (show R.one.e.getCode (φ a.region) t.sz=0 from d)]
    rcases Qcz h with ⟨c,-⟩|⟨-,rfl⟩
    ·rw[f] at c;cases c
    ·obtain⟨π',i,o,u⟩:=v l k
     exact S.next0 m i o (xs:=[(M.h.put a t t.sz).1]) (ns:=[R.e.getAt (φ a.region) t.sz]) Z (Qgi u) M.top.r
theorem Qf8 (S:Sim φ π M R) (d:M.done=false) (u:x.args.length<=16) (e:x.op=5) (h:IM.ins m op M.one x=some M'):ZE m op R x M':=by
 rw[Zw (by omega)] at h
 unfold IM.mem at h;unfold ZE RM.ins;rw[Xr (by omega),Xr (by omega),Xr (by omega),Xr (by omega),Xs e]
 have F:=S.top d
 cases ha:QR M.top.v x.a with
 | none=>rw[show QR M.one.top.v x.a=none from ha] at h;cases h
 | some a =>
   obtain⟨n,o,l⟩:=F.at ha
   rw[show QR M.one.top.v x.a=some a from ha] at h
   rw[show iAt R.one.top.v x.a=some n from o]
   simp only at h |-
   rw[Xr (by omega),Xs e] at h
   cases hl:Zb M.top.v x.args with
   | none=>rw[show Zb M.one.top.v x.args=none from hl] at h;cases h
   | some xs =>
     rw[show Zb M.one.top.v x.args=some xs from hl] at h
     obtain⟨b,s,t,c,p⟩:=F.all hl
     rw[show QaA R.one.top.v x.args=some b from s]
     simp only at h |-
     have g:((⟨false,xs⟩:Qw).sz:Int)=if xs.length=0 then 1 else (xs.length:Int):=by
      unfold Qw.sz;simp only[Bool.false_eq_true,if_false]
      split<;>omega
     unfold Qd.tuple at h;rw[<-g] at h
     have q:(if b.length=0 then 1 else (b.length:Int))=((⟨false,xs⟩:Qw).sz:Int):=by rw[g,c]
     rw[q]
     exact⟨_,Z,S.made d l (by unfold Qw.sz;simp only[Bool.false_eq_true,if_false];omega) ⟨fun _=>⟨c,fun j y f=>by
      obtain⟨k,i⟩:∃ k,b[j]?=some k:=⟨_,Zg (by rw[c];exact(Zi f).1)⟩
      have:=p j y k f i
      rw[List.getD_eq_getElem?_getD,i]
      exact this⟩,fun r=>by cases r⟩ h⟩
theorem QfI (S:Sim φ π M R) (f:M.done=false) (e:x.op=8) (h:IM.ins m op M.one x=some M'):ZE m op R x M':=by
 rw[Zw (by omega)] at h
 unfold IM.mem at h;unfold ZE RM.ins;rw[Xr (by omega),Xr (by omega),Xr (by omega),Xr (by omega),Xr (by omega),Xs e]
 have F:=S.top f
 cases ha:QR M.top.v x.a with
 | none=>rw[show QR M.one.top.v x.a=none from ha] at h;cases h
 | some a =>
   obtain⟨n,i,g⟩:=F.at ha
   rw[show QR M.one.top.v x.a=some a from ha] at h
   rw[show iAt R.one.top.v x.a=some n from i]
   simp only at h |-
   rw[Xr (by omega),Xr (by omega),Xs e] at h
   cases hb:QS M.top.v x.b with
   | none=>rw[show QS M.one.top.v x.b=none from hb] at h;cases h
   | some k =>
     rw[show QS M.one.top.v x.b=some k from hb] at h
     rw[show iAt R.one.top.v x.b=some k from F.num hb]
     simp only at h |-
     by_cases d:k<0\/15<k
     ·rw[Xs d] at h;cases h
      rw[Xr (by omega)]
      exact⟨_,Z,S.stop 3⟩
     ·rw[Xr d] at h
      rw[Xs (by omega)]
      have c:M.one.got (M.h.array a k)=some M':=h;unfold Qd.array at c;rw[Xr d] at c
      have o:((⟨true,List.replicate k.toNat (Qct 0)⟩:Qw).sz:Int)=k+1:=by
       unfold Qw.sz;simp;omega
      rw[<-o] at c |-
      refine⟨_,Z,S.made f g (by omega) ⟨fun p=>(by cases p),fun _=>⟨by simp;omega,fun j y l=>?_⟩⟩ c⟩
      exact List.eq_of_mem_replicate (Zm l)
theorem ZY {n:Int}(b:0<=n) (a:n<2000):wrap64 n=n:=by unfold wrap64;omega
theorem Qaw (h:x.op=6\/x.op=7\/x.op=9\/x.op=10\/x.op=11):RM.ins op R x=R.part x:=by
 unfold RM.ins;rw[Xr (by omega),Xr (by omega),Xr (by omega),Xr (by omega),Xr (by omega),Xr (by omega),Xr (by omega),Xr (by omega),Xr (by omega)]
theorem Qig (S:Sim φ π M R) (d:M.done=false) (e:x.op=6) (h:IM.ins m op M.one x=some M'):ZE m op R x M':=by
 rw[Zw (by omega)] at h
 unfold IM.mem at h;unfold ZE;rw[Qaw (by omega)]
 unfold RM.part;have F:=S.top d
 cases ha:QR M.top.v x.a with
 | none=>rw[show QR M.one.top.v x.a=none from ha] at h;cases h
 | some a =>
   obtain⟨n,f,c⟩:=F.at ha
   rw[show QR M.one.top.v x.a=some a from ha] at h
   rw[show iAt R.one.top.v x.a=some n from f]
   simp only at h |-
   rw[Xr (by omega),Xr (by omega),Xr (by omega),Xs e] at h
   rw[Xs e]
   split at h
   ·rename_i b
    cases h
    obtain⟨l,o,g⟩:=S.heap.get c b.1 b.2
    have j:0<=n/\n<1024:=by
     cases ht:M.h.thing a with
     | none =>
       have:=b.2
       have i:(M.h.get a x.k).2=20:=by unfold Qd.get;rw[ht]
       rw[show (M.one.h.get a x.k).2=(M.h.get a x.k).2 from Z,i] at this;cases this
     | some t =>
       obtain⟨p,T⟩:=S.heap.at c ht
       have:=T.run.low S.heap.ok
       have:=S.heap.ok.ok.most
       have:=t.sz_pos
       simp only at *
       omega
    rw[ZY (by omega) (by omega)]
    exact⟨_,Z,S.one1 d g⟩
   ·cases h
theorem QhM (S:Sim φ π M R) (b:M.done=false) (e:x.op=11) (h:IM.ins m op M.one x=some M'):ZE m op R x M':=by
 rw[Zw (by omega)] at h
 unfold IM.mem at h;unfold ZE;rw[Qaw (by omega)]
 unfold RM.part;have F:=S.top b
 cases ha:QR M.top.v x.a with
 | none=>rw[show QR M.one.top.v x.a=none from ha] at h;cases h
 | some a =>
   obtain⟨n,g,f⟩:=F.at ha
   rw[show QR M.one.top.v x.a=some a from ha] at h
   rw[show iAt R.one.top.v x.a=some n from g]
   simp only at h |-
   rw[Xr (by omega),Xr (by omega),Xr (by omega),Xr (by omega),Xr (by omega),Xr (by omega),Xr (by omega)] at h
   rw[Xr (by omega),Xr (by omega),Xr (by omega),Xr (by omega),Xs e]
   split at h
   ·rename_i d
    cases h
    have c:=S.heap.len f d.1 d.2
    have:=S.one1 b (Qee (h:=M.h) (φ:=φ) (π:=π) (M.h.len a).1)
    rw[<-c] at this
    exact⟨_,Z,by rw[<-c];exact this⟩
   ·cases h
theorem QgT (S:Sim φ π M R) (i:M.done=false) (e:x.op=9) (h:IM.ins m op M.one x=some M'):ZE m op R x M':=by
 rw[Zw (by omega)] at h
 unfold IM.mem at h;unfold ZE;rw[Qaw (by omega)]
 unfold RM.part;have F:=S.top i
 cases ha:QR M.top.v x.a with
 | none=>rw[show QR M.one.top.v x.a=none from ha] at h;cases h
 | some a =>
   obtain⟨n,l,f⟩:=F.at ha
   rw[show QR M.one.top.v x.a=some a from ha] at h
   rw[show iAt R.one.top.v x.a=some n from l]
   simp only at h |-
   rw[Xr (by omega),Xr (by omega),Xr (by omega),Xr (by omega),Xr (by omega),Xs e] at h
   rw[Xr (by omega),Xr (by omega),Xs e]
   cases hb:QS M.top.v x.b with
   | none=>rw[show QS M.one.top.v x.b=none from hb] at h;cases h
   | some k =>
     rw[show QS M.one.top.v x.b=some k from hb] at h
     rw[show iAt R.one.top.v x.b=some k from F.num hb]
     simp only at h |-
     split at h
     ·rename_i j
      split at h
      ·rename_i c
       cases h
       obtain⟨d,-⟩:=S.heap.num f j (.inr c)
       rw[Xr (show ¬ (0<=k/\k<R.one.load n) from d.1 c)]
       exact⟨_,Z,S.stop 2⟩
      ·rename_i c
       split at h
       ·rename_i g
        cases h
        obtain⟨d,t⟩:=S.heap.num f j (.inl g)
        obtain⟨p,s,o,w,u⟩:=t g
        rw[Xs (show 0<=k/\k<R.one.load n from Xq.1 (fun q=>c (d.2 q))),ZY (n:=n+1) (by omega) (by omega),ZY (by omega) o]
        refine⟨_,Z,S.one1 i ⟨fun _=>s,fun r=>?_⟩⟩
        rw[p] at r;omega
       ·cases h
     ·cases h
theorem Qjl (S:Sim φ π M R) (A:M.done=false) (e:x.op=7) (h:IM.ins m op M.one x=some M'):ZE m op R x M':=by
 rw[Zw (by omega)] at h
 unfold IM.mem at h;unfold ZE;rw[Qaw (by omega)]
 unfold RM.part;have F:=S.top A
 cases ha:QR M.top.v x.a with
 | none=>rw[show QR M.one.top.v x.a=none from ha] at h;cases h
 | some a =>
   obtain⟨n,C,s⟩:=F.at ha
   rw[show QR M.one.top.v x.a=some a from ha] at h
   rw[show iAt R.one.top.v x.a=some n from C]
   simp only at h |-
   rw[Xr (by omega),Xr (by omega),Xr (by omega),Xr (by omega),Xs e] at h
   rw[Xr (by omega),Xs e]
   cases hb:QR M.top.v x.b with
   | none=>rw[show QR M.one.top.v x.b=none from hb] at h;cases h
   | some y =>
     obtain⟨z,E,q⟩:=F.at hb
     rw[show QR M.one.top.v x.b=some y from hb] at h
     rw[show iAt R.one.top.v x.b=some z from E]
     simp only at h |-
     split at h
     ·rename_i u
      cases h
      have f:(M.h.set a x.k y).1=0:=u.2
      cases ht:M.h.thing a with
      | none=>unfold Qd.set at f;rw[ht] at f;cases f
      | some t =>
        obtain⟨-,p,D,-,-,o⟩:=Qd.thing_iff.1 ht
        have d:t.arr=false:=by rw[o];simp[show a.kind=3 from u.1]
        have G:0<=x.k/\x.k.toNat<t.l.length:=by
         unfold Qd.set at f;rw[ht,D] at f
         simp only at f
         rw[Xr (fun c=>by rw[d] at c;cases c.1)] at f
         split at f
         ·cases f
         ·omega
        obtain⟨H,T⟩:=S.heap.at s ht
        have g:=T.run.low S.heap.ok;have L:=S.heap.ok.ok.most;have J:=t.sz_l d;simp only at g
        obtain⟨I,i,w⟩:=S.heap.set s ht G.2 (y:=y) (z:=z) (fun _=>q) (fun c=>by rw[d] at c;cases c)
        have B:((x.k.toNat:Nat):Int)=x.k:=by omega
        rw[B,d] at i
        rw[B] at w
        simp only[Bool.false_eq_true,if_false,Int.add_zero] at i
        rw[ZY (by omega) (by omega)]
        refine⟨_,Z,?_⟩
        exact S.next0 A i w (xs:=[]) (ns:=[]) Z (fun j x n h=>by simp at h) M.top.r |> fun K=>by
         simp only[List.append_nil] at K
         unfold RM.on;simp only[List.append_nil]
         exact K
     ·cases h
theorem Qf1 (S:Sim φ π M R) (w:M.done=false) (e:x.op=10) (h:IM.ins m op M.one x=some M'):ZE m op R x M':=by
 rw[Zw (by omega)] at h
 unfold IM.mem at h;unfold ZE;rw[Qaw (by omega)]
 unfold RM.part;have F:=S.top w
 cases ha:QR M.top.v x.a with
 | none=>rw[show QR M.one.top.v x.a=none from ha] at h;cases h
 | some a =>
   obtain⟨n,B,u⟩:=F.at ha
   rw[show QR M.one.top.v x.a=some a from ha] at h
   rw[show iAt R.one.top.v x.a=some n from B]
   simp only at h |-
   rw[Xr (by omega),Xr (by omega),Xr (by omega),Xr (by omega),Xr (by omega),Xr (by omega),Xs e] at h
   rw[Xr (by omega),Xr (by omega),Xr (by omega),Xs e]
   cases hb:QS M.top.v x.b with
   | none=>rw[show QS M.one.top.v x.b=none from hb] at h;cases h
   | some k =>
     rw[show QS M.one.top.v x.b=some k from hb] at h
     rw[show iAt R.one.top.v x.b=some k from F.num hb]
     simp only at h |-
     cases hcc:QS M.top.v x.c with
     | none=>rw[show QS M.one.top.v x.c=none from hcc] at h;cases h
     | some z =>
       rw[show QS M.one.top.v x.c=some z from hcc] at h
       rw[show iAt R.one.top.v x.c=some z from F.num hcc]
       simp only at h |-
       split at h
       ·rename_i G
        cases ht:M.h.thing a with
        | none =>
          have:(M.h.set a k (Qct z))=(20,M.h):=by unfold Qd.set;rw[ht]
          rw[show M.one.h=M.h from Z,this] at h
          simp at h
        | some t =>
          obtain⟨-,p,C,-,-,q⟩:=Qd.thing_iff.1 ht
          have d:t.arr=true:=by rw[q];simp[show a.kind=4 from G]
          obtain⟨D,T⟩:=S.heap.at u ht
          have f:R.e.p.load n=t.l.length:=by
           have:=S.heap.load T (m:=0) t.sz_pos
           rw[Nat.add_zero] at this
           rw[D,this,T.len d]
          have g:=T.run.low S.heap.ok;have I:=S.heap.ok.ok.most;have H:=t.sz_a d;simp only at g
          by_cases o:k<0\/t.l.length<=k.toNat
          ·have:(M.h.set a k (Qct z)).1=1:=by
            unfold Qd.set;rw[ht,C];simp only;rw[Xr (fun c=>c.2 Z),Xs o]
           rw[show M.one.h=M.h from Z,Xs this] at h
           cases h
           rw[Xr (show ¬ (0<=k/\k<R.one.load n) from fun c=>by have:k<R.e.p.load n:=c.2;rw[f] at this;omega)]
           exact⟨_,Z,S.stop 2⟩
          ·obtain⟨s,i,A⟩:=S.heap.set u ht (k:=k.toNat) (by omega) (y:=Qct z) (z:=z) (fun c=>by rw[d] at c;cases c) (fun _=>⟨Z,Z⟩)
           have E:((k.toNat:Nat):Int)=k:=by omega
           rw[E] at s i A
           rw[show M.one.h=M.h from Z,Xr (by rw[s];decide),Xs s] at h
           cases h
           rw[d] at i
           simp only[if_true] at i
           rw[Xs (show 0<=k/\k<R.one.load n from ⟨by omega,by show k<R.e.p.load n;rw[f];omega⟩),ZY (n:=n+1) (by omega) (by omega),ZY (by omega) (by omega)]
           refine⟨_,Z,?_⟩
           have K:=S.next0 w i A (xs:=[]) (ns:=[]) Z (fun j x n h=>by simp at h) M.top.r;simp only[List.append_nil] at K
           unfold RM.on RM.stored;simp only[List.append_nil]
           rw[show n+1+k=n+k+1 by omega]
           exact K
       ·cases h
theorem Qha (S:Sim φ π M R) (b:M.done=false) (n:M.rest.length<40) (e:x.op=14) (h:IM.ins m op M.one x=some M'):ZE m op R x M':=by
 unfold IM.ins at h;rw[Xr (by omega),Xr (by omega),Xr (by omega),Xr (by omega),Xr (by omega),Xs e] at h
 unfold IM.call at h;unfold ZE RM.ins;rw[Xr (by omega),Xr (by omega),Xr (by omega),Xr (by omega),Xr (by omega),Xr (by omega),Xr (by omega),Xr (by omega),Xs e]
 have F:=S.top b;have o:=(S.rest b).length
 cases hr:QbQ M.one.top.r x.regs with
 | none=>rw[hr] at h;cases h
 | some r =>
   rw[hr] at h
   simp only at h
   cases hv:Zb M.top.v x.args with
   | none=>rw[show Zb M.one.top.v x.args=none from hv] at h;cases h
   | some v =>
     rw[show Zb M.one.top.v x.args=some v from hv] at h
     simp only at h
     obtain⟨d,f,l,c,j⟩:=F.all hv
     cases hg:m[x.k.toNat]? with
     | none=>rw[hg] at h;cases h
     | some g =>
       rw[hg] at h
       simp only at h
       split at h
       ·by_cases a:M.rest.length+1=40
        ·rw[Xs (show M.one.rest.length+1=40 from a)] at h
         cases h
         rw[Xr (show ¬ R.rest.length+1<40 by omega)]
         exact⟨_,Z,S.stop 5⟩
        ·rw[Xr (show ¬ M.one.rest.length+1=40 from a)] at h
         cases h
         rw[Xs (show R.rest.length+1<40 by omega),show QaA R.one.top.v x.args=some d from f]
         refine⟨_,Z,⟨φ,π,S.heap,S.done,S.out,S.back,by show R.fuel+1=M.fuel+1;rw[S.fuel],S.fin,fun _=>S.inp b,fun _=>⟨Z,Z,Z,by simp[c],j⟩,fun _=>⟨⟨F.eF,F.eB,by show R.top.i+1=M.top.i+1;rw[F.eI],F.len,F.val⟩,S.rest b⟩⟩⟩
       ·cases h
theorem QiO (S:Sim φ π M R) (a:M.done=false) (d:M.rest.length<40) (b:M.out.length<=2000) (f:1<=x.op/\x.op<=14) (c:x.op=5->x.args.length<=16) (h:IM.ins m op M.one x=some M'):ZE m op R x M':=by
 have:x.op=1\/x.op=2\/x.op=3\/x.op=4\/x.op=5\/x.op=6\/x.op=7\/x.op=8\/x.op=9\/x.op=10\/x.op=11\/x.op=12\/x.op=13\/x.op=14:=by omega
 rcases this with e | e | e | e | e | e | e | e | e | e | e | e | e | e
 ·exact Qiy S a e h
 ·exact Qiw S a e h
 ·exact QhS S a e h
 ·exact QgR S a e h
 ·exact Qf8 S a (c e) e h
 ·exact Qig S a e h
 ·exact Qjl S a e h
 ·exact QfI S a e h
 ·exact QgT S a e h
 ·exact Qf1 S a e h
 ·exact QhM S a e h
 ·exact QjV S a e h
 ·exact Qh4 S a b e h
 ·exact Qha S a d e h
theorem QfM (S:Sim φ π M R) (a:M.done=false){fn:MFunc 6}{t:MTo}(h:IM.to fn { M with fuel:=M.fuel+1 } t=some M'):∃ R',R.one.to t=some R'/\Qex M' R':=by
 unfold IM.to at h;unfold RM.to;have F:=S.top a
 cases hb:fn.blocks[t.block.toNat]? with
 | none=>rw[hb] at h;cases h
 | some b =>
   rw[hb] at h
   simp only at h
   cases hr:QbQ M.top.r t.regs with
   | none=>rw[hr] at h;cases h
   | some r =>
     rw[hr] at h
     simp only at h
     cases hv:Zb M.top.v t.args with
     | none=>rw[hv] at h;cases h
     | some v =>
       rw[hv] at h
       obtain⟨d,e,g,c,f⟩:=F.all hv
       rw[show QaA R.one.top.v t.args=some d from e]
       simp only at h |-
       split at h
       ·cases h
        exact⟨_,Z,⟨φ,π,S.heap,S.done,S.out,S.back,by show R.fuel+1=M.fuel+1;rw[S.fuel],S.fin,fun _=>S.inp a,fun _=>⟨F.eF,Z,Z,by simp[c],f⟩,fun _=>S.rest a⟩⟩
       ·cases h
theorem Qjx (S:Sim φ π M R) (f:M.done=false){fn:MFunc 6}{e:ZC}(p:1<=e.op/\e.op<=3) (h:IM.endd fn { M with fuel:=M.fuel+1 } e=some M'):∃ R',R.one.endd e=some R'/\Qex M' R':=by
 have F:=S.top f;unfold IM.endd at h;unfold RM.endd
 have:e.op=1\/e.op=2\/e.op=3:=by omega
 rcases this with g | g | g
 ·rw[Xs g] at h
  rw[Xr (by omega),Xr (by omega)]
  exact QfM S f h
 ·rw[Xr (by omega),Xs g] at h
  rw[Xr (by omega),Xs g]
  cases hn:QS M.top.v e.a with
  | none=>simp only[hn] at h;cases h
  | some n =>
    simp only[hn] at h
    rw[show iAt R.one.top.v e.a=some n from F.num hn]
    simp only
    split at h
    ·rename_i j;rw[Xs j];exact QfM S f h
    ·rename_i j;rw[Xr j];exact QfM S f h
 ·rw[Xr (by omega),Xr (by omega)] at h
  rw[Xs g]
  cases hv:Zb M.top.v e.args with
  | none=>simp only[hv] at h;cases h
  | some v =>
    simp only[hv] at h
    obtain⟨ns,l,q,m,o⟩:=F.all hv
    rw[show QaA R.one.top.v e.args=some ns from l]
    simp only
    split at h
    ·have c:=S.rest f
     cases hm:M.rest with
     | nil =>
       rw[hm] at h c
       cases hr:R.rest with
       | cons b k=>rw[hr] at c;exact c.elim
       | nil =>
         simp only at h
         cases hn:Qcg M.top.v e.args with
         | none=>rw[hn] at h;cases h
         | some n =>
           rw[hn] at h
           cases h
           have:=F.nums hn
           rw[l] at this
           cases this
           exact⟨_,Z,⟨φ,π,S.heap,Z,S.out,Z,by show R.fuel+1=M.fuel+1;rw[S.fuel],Z,fun h=>(by cases h),fun h=>(by cases h),fun h=>(by cases h)⟩⟩
     | cons d rest =>
       rw[hm] at h c
       cases hr:R.rest with
       | nil=>rw[hr] at c;exact c.elim
       | cons b k =>
         rw[hr] at c
         simp only at h
         cases h
         have G:=c.1.push (xs:=v) (ns:=ns) m o d.i b.i c.1.eI;exact⟨_,Z,⟨φ,π,S.heap,S.done,S.out,S.back,by show R.fuel+1=M.fuel+1;rw[S.fuel],S.fin,fun _=>S.inp f,fun _=>⟨G.eF,G.eB,G.eI,G.len,G.val⟩,fun _=>c.2⟩⟩
    ·cases h
def QmL (m:List (MFunc 6)):Prop:=∀ (k:Nat) fn (q:Nat) bl,m[k]?=some fn->fn.blocks[q]?=some bl->(∀ x∈bl.code,(1<=x.op/\x.op<=14)/\(x.op=5->x.args.length<=16))/\1<=bl.fin.op/\bl.fin.op<=3
theorem Qhj (H:QmL m) (S:Sim φ π M R) (a:M.done=false) (l:M.rest.length<40) (c:M.out.length<=2000)(h:IM.step m op most M=some M'):∃ R',RM.step m op most R=some R'/\Qex M' R':=by
 have F:=S.top a;unfold IM.step at h;unfold RM.step;rw[S.fuel]
 split at h
 ·rename_i d
  cases h
  rw[Xs d]
  exact⟨_,Z,Sim.over (H:=S.heap) S.out S.back S.fuel 7⟩
 ·rename_i d
  rw[Xr d,F.eF]
  cases hm:m[M.top.f]? with
  | none=>rw[hm] at h;cases h
  | some fn =>
    rw[hm] at h
    simp only at h |-
    rw[F.eB]
    cases hb:fn.blocks[M.top.b]? with
    | none=>rw[hb] at h;cases h
    | some bl =>
      rw[hb] at h
      simp only at h |-
      rw[F.eI]
      obtain⟨e,g⟩:=H _ fn _ bl hm hb
      cases hx:bl.code[M.top.i]? with
      | some x =>
        rw[hx] at h
        simp only at h |-
        obtain⟨j,k⟩:=e x (Zm hx)
        have:=QiO S a l c j k h
        unfold ZE at this;rw[show R.one={ R with fuel:=M.fuel+1 } by show { R with fuel:=R.fuel+1 }=_;rw[S.fuel]] at this
        exact this
      | none =>
        rw[hx] at h
        simp only at h |-
        have:=Qjx S a g h
        rw[show R.one={ R with fuel:=M.fuel+1 } by show { R with fuel:=R.fuel+1 }=_;rw[S.fuel]] at this
        exact this
theorem Qg5 (inp:List Int)(c:pages<=64):Qex (IM.start inp pages) (RM.start inp pages):=by
 have a:∀ k,(IM.start inp pages).h.place k=none:=fun k=>by
  show (Qd.new pages).place k=none;unfold Qd.place;simp[Qd.new]
 refine⟨fun _=>0,fun _ _=>0,⟨Est.ok_new pages c,?_,fun k p h=>?_,fun j k p q h=>?_,fun i r b=>?_,fun j r b=>?_,fun k p i t h=>?_,fun k p i t g f e d h=>?_⟩,Z,Z,Z,Z,Z,fun _=>rfl,fun _=>⟨Z,Z,Z,Z,fun j x n h=>by simp[IM.start] at h⟩,fun _=>trivial⟩
 ·show (pages:Int)=(PSt.new pages).free;simp[PSt.free,PSt.new]
 ·rw[a] at h;cases h
 ·rw[a] at h;cases h
 ·cases b
 ·cases b
 ·rw[a] at h;cases h
 ·rw[a] at h;cases h
end
theorem Qfe {α:Type}{f a:α->Option α}:∀ {l l':List α},(∀ x∈l,∀ u,f x=some u->a x=some u)->ZU f l=some l'->ZU a l=some l'
 | [],l',_,h=>by simp[ZU] at h;subst h;rfl
 | x::xs,l',hx,h=>by
   simp only[ZU] at h
   cases h1:f x with
   | none=>simp[h1] at h
   | some y =>
     simp only[h1] at h
     cases h2:ZU f xs with
     | none=>simp[h2] at h
     | some ys =>
       simp only[h2] at h
       cases h
       simp only[ZU,hx x (by simp) y h1,Qfe (fun z b=>hx z (by simp[b])) h2]
theorem TT.ren_more {m d:Nat}{c a:Nat->Int}(b:∀ k r r',ZK m c k r=some r'->ZK d a k r=some r'):{n:Nat}->{t u:TT n}->t.ren m c=some u->t.ren d a=some u
 | 0,t,_,_=>Empty.elim t
 | n+1,t,u,h=>by
   obtain⟨i,g,e⟩:=Zp h
   rw[ZT (b _ _ _ g) (Qfe (fun x _ v f=>TT.ren_more b f) e),<-i]
   rfl
section
variable {m:List (MFunc 6)}{g g':Sig}{M M':IM}{fn:MFunc 6}{bl:MBlock 6}{s:JSt}{x:Qs}{op:Int->Int->Int->Option Int}{h:Qd}{v:List Q4}{r:List Int}
theorem QjA (I:Inv m g M fn bl s) (hx:bl.code[M.top.i]?=some x) (P:s.code x=0) (z:x.op=4):QbX m op M x:=by
 obtain⟨t,j,J,tk,V,N,Q,F⟩:=QhO P z
 have C:=(QN P).2.1;rw[Qaq z,J] at C
 simp only at C
 obtain⟨ha,G⟩:=QD C
 have E:s.f.regs<=j:=by
  by_cases e:t.r<s.f.regs
  ·rw[Xs e] at G;cases G
  ·omega
 obtain⟨a,t',u,O,X,U,e4,W,e6,e7,e8⟩:=I.fr.want ha
 rw[J] at O;cases O
 obtain⟨p,hp⟩:=e8 Z (by omega)
 have n:a.region=u.r:=by
  rcases e4 with ⟨c1,-⟩|⟨-,-,c⟩|⟨-,-,c,-⟩
  ·omega
  ·exact c
  ·exact c
 obtain⟨q1,q2,q3⟩:=Qln U (by omega)
 have y:u.r=M.top.r.getD j 0:=by rw[q3,V];rfl
 have o:M.h.at a=some p:=by unfold Qd.at;rw[Xs W,n];exact hp
 obtain⟨-,hq,i,S,hL,aa⟩:=Qd.at_some o
 have w:M.h.shut a=(true,⟨M.h.L.set a.region.toNat noP,M.h.left+p.pages⟩):=by unfold Qd.shut;rw[o]
 have q:∀ k:Int,k≠u.r->(M.h.shut a).2.place k=M.h.place k:=fun k b=>by
  rw[w];simp only
  rw[Qd.place_set (by rw[S];exact(Zi hL).1),Xr (fun e=>b (by rw[e,<-n,S];simp))]
 unfold QbX;rw[Zw (by omega)]
 unfold IM.mem;have A:QR M.one.top.v x.a=some a:=X;rw[A]
 simp only
 rw[Xs z]
 show ∃ M',(if (M.h.shut a).1 then some { M.one with h:=(M.h.shut a).2 } else none)=some M'/\QbH m M';rw[Xs (by rw[w])]
 refine⟨_,Z,.inr ⟨g,fn,bl,_,I.on hx Z Z Z Z ?_ (I.st.shut a) ?_⟩⟩
 ·rw[F]
  have d:∀ k,(s.H.set j false).getD k false=true->k≠j/\s.H.getD k false=true:=fun k b=>by
   by_cases e:k=j
   ·subst e;simp[List.getD,N] at b
   ·refine⟨e,?_⟩
    simpa[List.getD,List.getElem?_set_ne (Ne.symm e)] using b
  refine⟨by simpa using I.fr.rl,I.fr.pos,fun k b=>?_,fun k l b hl=>I.fr.dist k l (d k b).2 (d l hl).2,I.fr.vl,I.fr.val⟩
  obtain⟨T,K⟩:=d k b
  obtain⟨p',B⟩:=I.fr.held k K
  exact⟨p',by rw[q _ (fun e=>T (I.fr.dist k j K Q (by rw[e,y])))];exact B⟩
 ·rw[F]
  refine I.stk.keep (fun _ _ _ h=>h) (fun k b D=>?_) (fun k b=>?_) (fun k _=>rfl)
  ·have:k≠u.r:=fun e=>b ⟨j,Q,E,by rw[e,y]⟩
   show ∃ p,(M.h.shut a).2.place k=some p;rw[q k this];exact D
  ·obtain⟨l,R,l2,l3⟩:=b
   refine .inl ⟨l,?_,l2,l3⟩;by_cases e:l=j
   ·subst e;simp[List.getD,N] at R
   ·simpa[List.getD,List.getElem?_set_ne (Ne.symm e)] using R
theorem QjS (I:Inv m g M fn bl s) (hx:bl.code[M.top.i]?=some x) (hc:s.code x=0) (T:x.op=3) (hJ:s.f.regs<=s.H.length):QbX m op M x:=by
 have X:=Qbx (s:=s) T;have h0:=(QN hc).2.1;have U:¬ s.H.length=16:=fun e=>by rw[X,Xs e] at h0;cases h0
 rw[Xr U] at X
 unfold QbX IM.ins;rw[Xr (by omega),Xr (by omega),Xs T]
 show ∃ M',(if M.h.open_.2.1 then some (IM.push { M.one with h:=M.h.open_.2.2,top:={ M.one.top with r:=M.top.r++[M.h.open_.1.region] } } [M.h.open_.1]) else some (M.one.over 6))=some M'/\QbH m M';by_cases ho:16<=M.h.live
 ·have:M.h.open_.2.1=false:=by unfold Qd.open_;rw[Xs ho]
  rw[Xr (by rw[this];decide)]
  exact⟨_,Z,IM.over_good _ _ _⟩
 ·have O:M.h.open_=(⟨2,M.h.L.length,0,0⟩,true,{ M.h with L:=M.h.L++[newP] }):=by unfold Qd.open_;rw[Xr ho]
  rw[Xs (by rw[O])]
  have E:M.h.open_.1.region=(M.h.L.length:Int):=by rw[O]
  have G:∀ k:Int,M.h.open_.2.2.place k=if k=M.h.L.length then some newP else M.h.place k:=fun k=>by
   rw[O];exact Qd.place_push M.h newP k M.h.left
  have n:∀ k p,M.h.place k=some p->∃ p,M.h.open_.2.2.place k=some p:=fun k p e=>by
   rw[G];split
   ·exact⟨_,Z⟩
   ·exact⟨p,e⟩
  have o:M.h.place (M.h.L.length:Int)=none:=by
   rw[Qd.place_nat,Xk Ze]
  have z:(s.next x).H=s.H++[true]:=by unfold JSt.next;simp only;rw[Xs T]
  have N:(s.next x).L=s.L++[mkT 2 s.H.length []]:=by unfold JSt.next;simp only;rw[X]
  have C:=I.fr.rl
  have d:∀ k,k<s.H.length->(M.top.r++[(M.h.L.length:Int)]).getD k 0=M.top.r.getD k 0:=fun k c=>by
   simp[List.getD,List.getElem?_append_left (show k<M.top.r.length by omega)]
  have l:(M.top.r++[(M.h.L.length:Int)]).getD s.H.length 0=M.h.L.length:=by
   simp[List.getD,<-C]
  have w:∀ k,(s.H++[true]).getD k false=true->(k<s.H.length/\s.H.getD k false=true)\/k=s.H.length:=fun k c=>by
   rcases Nat.lt_trichotomy k s.H.length with e | e | e
   ·refine .inl ⟨e,?_⟩;simpa[List.getD,List.getElem?_append_left e] using c
   ·exact .inr e
   ·rw[Qao _ (by simp;omega)] at c;cases c
  have D:∀ {t u:TT 6},rtm M.top.r t=some u->rtm (M.top.r++[(M.h.L.length:Int)]) t=some u:=fun {t u} hu=>by
   refine TT.ren_more (fun k q q' A=>?_) hu;unfold ZK at A |-;by_cases c:k=1
   ·rw[Xs c] at A |-;exact A
   ·rw[Xr c] at A |-
    by_cases hb:q<0\/(M.top.r.length:Int)<=q
    ·rw[Xs hb] at A;cases A
    ·rw[Xr hb] at A
     rw[Xr (by simp;omega)]
     have e:=d q.toNat (by omega);simp only at A |-
     rw[e]
     exact A
  refine⟨_,Z,.inr ⟨g,fn,bl,_,I.on hx Z Z Z Z ?_ I.st.open ?_⟩⟩
  ·show FrT g M.h.open_.2.2 (s.next x) (M.top.v++[M.h.open_.1]) (M.top.r++[M.h.open_.1.region]);rw[E]
   refine⟨by rw[z];simp[C],fun k c=>?_,fun k c=>?_,fun j k hj c e=>?_,by rw[N];simp[I.fr.vl],fun j t y B F=>?_⟩
   ·rcases List.mem_append.1 c with e | e
    ·exact I.fr.pos k e
    ·simp at e;omega
   ·rw[z] at c
    rcases w k c with ⟨e1,e2⟩ | e
    ·rw[d k e1];obtain⟨p,Q⟩:=I.fr.held k e2;exact n _ p Q
    ·rw[e,l,G,Xs Z];exact⟨_,Z⟩
   ·rw[z] at hj c
    have J:∀ i,s.H.getD i false=true->i<s.H.length->M.top.r.getD i 0≠(M.h.L.length:Int):=fun i hi hl e=>by
     obtain⟨p,Q⟩:=I.fr.held i hi
     rw[e,o] at Q;cases Q
    rcases w j hj with ⟨K,P⟩ | a<;>rcases w k c with ⟨S,b2⟩ | b
    ·rw[d j K,d k S] at e;exact I.fr.dist j k P b2 e
    ·rw[d j K,b,l] at e;exact absurd e (J j P K)
    ·rw[d k S,a,l] at e;exact absurd e.symm (J k b2 S)
    ·rw[a,b]
   ·rw[N] at B
    rcases Nat.lt_or_ge j s.L.length with e | e
    ·rw[XP e] at B
     rw[XP (by rw[I.fr.vl];exact e)] at F
     obtain⟨u,u1,u2⟩:=I.fr.val j t y B F
     exact⟨u,D u1,u2⟩
    ·rw[XQ e] at B
     rw[XQ (by rw[I.fr.vl];exact e),I.fr.vl] at F
     have W:j - s.L.length=0:=by have:=(Zi B).1;simp at this;omega
     rw[W] at B F
     simp at B F
     subst B F;refine⟨mkT 2 (M.h.L.length:Int) [],?_,.inr (.inl ⟨Z,by rw[O],by rw[E];rfl⟩)⟩
     refine ZT (t:=(mkT 2 (s.H.length:Int) []:TT 6)) ?_ Z;show ZK _ _ 2 (s.H.length:Int)=_;unfold ZK;rw[Xr (by decide),Xr (by simp[C];omega)]
     simp only[Int.toNat_natCast]
     rw[l,Xr (by omega)]
  ·show Stk m g M.h.open_.2.2 (Own (s.next x) (M.top.r++[M.h.open_.1.region])) fn M.top.f (M.top.r++[M.h.open_.1.region]) M.rest;rw[E]
   have V:=I.mf.2;refine I.stk.keep (fun _ _ _ h=>h) (fun k _ ⟨p,e⟩=>n k p e) (fun k c=>?_) (fun k c=>?_)
   ·obtain⟨j,j1,j2,R⟩:=c
    rw[z] at j1
    rcases w j j1 with ⟨K,P⟩ | a
    ·rw[d j K] at R;exact .inl ⟨j,P,j2,R⟩
    ·rw[a,l] at R;exact .inr (by rw[<-R];exact o)
   ·rcases Nat.lt_or_ge k s.H.length with e | e
    ·exact d k e
    ·rw[<-V] at c;omega
theorem QeG (F:FrT g h s v r):∀ {l:List Int},(∀ k∈l,hHas s.H k=true)->∃ r',QbQ r l=some r'/\r'.length=l.length/\(∀ j,j<l.length->r'.getD j 0=r.getD (l.getD j 0).toNat 0)/\∀ k∈r',0<=k
 | [],_=>⟨[],Z,Z,fun j d=>by simp at d,fun k b=>by simp at b⟩
 | k::l,hl=>by
   obtain⟨r',m,i,f,n⟩:=QeG F (l:=l) (fun z c=>hl z (by simp[c]))
   have b:=hl k (by simp);unfold hHas at b;simp only[Bool.and_eq_true,decide_eq_true_eq] at b
   have a:k.toNat<r.length:=by
    rw[F.rl]
    rcases Nat.lt_or_ge k.toNat s.H.length with e | e
    ·exact e
    ·rw[Qao _ e] at b;exact absurd b.2 (by decide)
   have o:Qlq r k=some r[k.toNat]:=by unfold Qlq;rw[Xr (by omega)];exact Zg a
   refine⟨r[k.toNat]::r',by simp only[QbQ,o,m],by simp[i],fun j d=>?_,fun z c=>?_⟩
   ·cases j with
    | zero=>simp[List.getD,Zg a]
    | succ j=>have:=f j (by simpa using d);simpa[List.getD] using this
   ·rcases List.mem_cons.1 c with e | e
    ·rw[e];exact F.pos _ (List.getElem_mem a)
    ·exact n z e
theorem Qej {r r':List Int}(w:n<=l.length) (g:n<=r'.length) (s:∀ j,j<n->0<=l.getD j 0/\(l.getD j 0).toNat<r.length) (m:∀ k∈r,0<=k) (p:∀ j,j<n->r'.getD j 0=r.getD (l.getD j 0).toNat 0){t d:TT 6}(f:t.ren n (fun i=>l.getD i 0)=some d):∃ u,rtm r d=some u/\t.ren n (fun i=>r'.getD i 0)=some u:=by
 refine TT.ren_comp (fun k q x a=>?_) f;unfold ZK at a;by_cases b:k=1
 ·rw[Xs b] at a;cases a
  exact⟨q,by unfold ZK;rw[Xs b],by unfold ZK;rw[Xs b]⟩
 ·rw[Xr b] at a
  by_cases c:q<0\/(n:Int)<=q
  ·rw[Xs c] at a;cases a
  ·rw[Xr c] at a
   obtain⟨v,e⟩:=s q.toNat (by omega)
   have o:=p q.toNat (by omega);simp only at a
   rw[Xr (by omega)] at a
   cases a
   have h:0<=r.getD (l.getD q.toNat 0).toNat 0:=by
    have:r.getD (l.getD q.toNat 0).toNat 0=r[(l.getD q.toNat 0).toNat]:=by rw[List.getD_eq_getElem?_getD,Zg e];rfl
    rw[this];exact m _ (List.getElem_mem e)
   refine⟨r.getD (l.getD q.toNat 0).toNat 0,?_,?_⟩
   ·unfold ZK;rw[Xr b,Xr (by omega)]
    simp only
    rw[Xr (by omega)]
   ·unfold ZK;rw[Xr b,Xr c]
    simp only
    rw[o,Xr (by omega)]
theorem QfS (F:FrT g h s v r){l:List Int}:∀ {a:List Int}{ts:List (TT 6)},a.length=ts.length->Qu (fun p:Int × TT 6=>s.arg l p.1 p.2) (a.zip ts)=0->∃ xs,Zb v a=some xs/\xs.length=ts.length/\∀ (j:Nat) (y:Q4) (t:TT 6),xs[j]?=some y->ts[j]?=some t->∃ us u,t.ren l.length (fun i=>l.getD i 0)=some us/\rtm r us=some u/\Qea g y u
 | [],ts,hl,h0=>by
   have:ts=[]:=Xf.1 hl.symm
   subst this;exact⟨[],Z,Z,fun j y t c=>by simp at c⟩
 | k::a,[],hl,h0=>by simp at hl
 | k::a,t::ts,hl,h0=>by
   have m:=QE.1 h0;obtain⟨xs,B,w,o⟩:=QfS F (a:=a) (ts:=ts) (by simpa using hl) (QE.2 (fun p x=>m p (by simp[x])))
   have b:s.arg l k t=0:=m (k,t) (by simp);unfold JSt.arg at b
   cases ek:s.at k with
   | none=>rw[ek] at b;cases b
   | some us =>
     rw[ek] at b
     simp only at b
     by_cases f:ZR (t.ren l.length (fun i=>l.getD i 0)=some us)=true
     ·have e:t.ren l.length (fun i=>l.getD i 0)=some us:=by simpa[ZR] using f
      obtain⟨y,u,q,A,z⟩:=F.at ek
      refine⟨y::xs,by simp only[Zb,q,B],by simp[w],fun j C n c d=>?_⟩
      cases j with
      | zero=>simp at c d;subst c d;exact⟨us,u,e,A,z⟩
      | succ j=>exact o j C n (by simpa using c) (by simpa using d)
     ·rw[Xr f] at b;cases b
theorem QbO (a:n<=16) (k:Nat):(QbV (n:Int)).getD k false=true↔k<n:=by
 unfold QbV
 have:(min (n:Int) 16).toNat=n:=by omega
 rw[this]
 rcases Nat.lt_or_ge k n with e | e
 ·simp[List.getD,e]
 ·simp[List.getD,e]
theorem FrT.hand (F:FrT g h s v r){a:List Int}{ts:List (TT 6)}(o:l.length<=16) (D:∀ k∈l,hHas s.H k=true) (q:l.Nodup) (x:s.args a ts l=0) (S:List (MFunc 6)) (M:MFunc 6) :
 ∃ r' v',QbQ r l=some r'/\Zb v a=some v'/\r'.length=l.length/\v'.length=ts.length/\(∀ j,j<l.length->r'.getD j 0=r.getD (l.getD j 0).toNat 0)/\FrT g h ⟨S,M,QbV (l.length:Int),ts⟩ v' r':=by
 obtain⟨r',L,B,w,R⟩:=QeG F D
 unfold JSt.args at x;by_cases i:a.length=ts.length
 ·rw[Xs i] at x
  obtain⟨v',P,C,I⟩:=QfS F i x
  have d:∀ j,j<l.length->0<=l.getD j 0/\s.H.getD (l.getD j 0).toNat false=true/\(l.getD j 0).toNat<r.length:=fun j p=>by
   have T:l.getD j 0∈l:=by simp only[List.getD,Zg p,Option.getD_some];exact List.getElem_mem p
   have m:=D _ T;unfold hHas at m;simp only[Bool.and_eq_true,decide_eq_true_eq] at m
   refine⟨m.1,m.2,?_⟩
   rw[F.rl]
   rcases Nat.lt_or_ge (l.getD j 0).toNat s.H.length with e | e
   ·exact e
   ·have E:=m.2;rw[Qao _ e] at E;cases E
  refine⟨r',v',L,P,B,C,w,⟨?_,R,fun k m=>?_,fun j k p m e=>?_,C,fun j t y O G=>?_⟩⟩
  ·show r'.length=(QbV (l.length:Int)).length
   have:=Qeo (n:=(l.length:Int)) ⟨by omega,by omega⟩
   omega
  ·have b:=(QbO o k).1 m;rw[w k b]
   exact F.held _ (d k b).2.1
  ·have f:=(QbO o j).1 p;have b:=(QbO o k).1 m;rw[w j f,w k b] at e
   have:=F.dist _ _ (d j f).2.1 (d k b).2.1 e
   have z:l.getD j 0=l.getD k 0:=by have:=(d j f).1;have:=(d k b).1;omega
   simp only[List.getD,Zg f,Zg b,Option.getD_some] at z
   rcases Nat.lt_trichotomy j k with c | c | c
   ·exact absurd z (List.pairwise_iff_getElem.1 q j k f b c)
   ·exact c
   ·exact absurd z.symm (List.pairwise_iff_getElem.1 q k j b f c)
  ·obtain⟨V,u,Q,A,N⟩:=I j y t G O
   obtain⟨U,J,K⟩:=Qej Ze (by omega) (fun j p=>⟨(d j p).1,(d j p).2.2⟩) F.pos w Q
   rw[J] at A;cases A
   exact⟨_,by show t.ren r'.length _=_;rw[B];exact K,N⟩
 ·rw[Xr i] at x;cases x
theorem Qbg {H:List Bool}:∀ {l ahead:List Int},QL H ahead l=0->l.Nodup/\∀ k∈l,k ∉ ahead
 | [],_,_=>⟨by simp,fun k b=>by simp at b⟩
 | k::l,ahead,h=>by
   simp only[QL] at h
   split at h
   ·split at h
    ·cases h
    ·rename_i d
     obtain⟨g,c⟩:=Qbg h
     refine⟨List.nodup_cons.2 ⟨fun b=>c k b (by simp),g⟩,fun z f=>?_⟩
     rcases List.mem_cons.1 f with e | e
     ·rw[e];exact fun a=>d (inB_iff.2 a)
     ·exact fun a=>c z e (by simp[a])
   ·cases h
theorem Qc1 {H:List Bool}:∀ {l ahead:List Int},hPass H ahead l=0->l.Nodup/\(∀ k∈l,k ∉ ahead)/\∀ k∈l,hHas H k=true
 | [],_,_=>⟨by simp,fun k a=>by simp at a,fun k a=>by simp at a⟩
 | k::l,ahead,h=>by
   simp only[hPass] at h
   split at h
   ·rename_i d
    split at h
    ·cases h
    ·rename_i i
     obtain⟨j,f,g⟩:=Qc1 h
     refine⟨List.nodup_cons.2 ⟨fun a=>f k a (by simp),j⟩,fun z c=>?_,fun z c=>?_⟩
     ·rcases List.mem_cons.1 c with e | e
      ·rw[e];exact fun b=>i (inB_iff.2 b)
      ·exact fun b=>f z e (by simp[b])
     ·rcases List.mem_cons.1 c with e | e
      ·rw[e];exact d
      ·exact g z e
   ·cases h
theorem Qac (g:(modFault m).1=0){f:MFunc 6}(l:m[k]?=some f):∃ b,f.blocks[0]?=some b/\b.regs=f.regs/\b.params=f.params/\f.right m.length/\(k=0->f.regs=0/\f.params.length=0/\∀ t∈f.results,t.kind=1):=by
 have i:=(Zo g).2 f (Zm l);obtain⟨b,j⟩:∃ b,f.blocks[0]?=some b:=⟨_,Zg i.many.1⟩
 unfold modFault at g;split at g
 ·cases g
 have a:=QQ g k f l;rw[XK] at a
 unfold MFunc.fault at a;split at a
 ·cases a
 split at a
 ·rename_i c;exact absurd a c
 split at a
 ·rename_i c;exact absurd a c
 split at a
 ·cases a
 split at a
 ·cases a
 rename_i h
 have c:=QQ a 0 b j;simp only[Nat.zero_add] at c
 unfold MBlock.fault at c;split at c
 ·cases c
 split at c
 ·rename_i o;exact absurd c o
 split at c
 ·cases c
 rename_i n
 have d:b.regs=f.regs/\Qc3 b.params f.params=true:=by
  constructor
  ·exact Xq.1 fun e=>n ⟨Z,.inl e⟩
  ·cases e:Qc3 b.params f.params with
   | true=>rfl
   | false=>exact absurd ⟨Z,.inr e⟩ n
 refine⟨b,j,d.1,Qdb.1 d.2,i,fun q=>?_⟩
 have:f.regs=0/\f.params.length=0/\f.results.all (fun t=>t.kind==1)=true:=Xq.1 fun e=>h ⟨q,e⟩
 refine⟨this.1,this.2.1,fun t p=>?_⟩
 have:=Xe.1 this.2.2 t p
 simpa using this
theorem Qis (S:(modFault m).1=0) (I:Inv m g M fn bl s) (D:bl.code[M.top.i]?=some x) (Q:s.code x=0) (e:x.op=14):QbX m op M x:=by
 obtain⟨a,f,-⟩:=QN Q
 have z:0<=x.k/\x.k<m.length/\x.regs.length<=6:=by
  rw[I.mf.1] at a
  unfold Qs.form at a;repeat' split at a
  all_goals first | omega | cases a
 obtain⟨d,c⟩:∃ d,m[x.k.toNat]?=some d:=⟨_,Zg (by omega)⟩
 rw[Qa4 e,I.mf.1,c] at f
 simp only at f
 by_cases p:(x.regs.length:Int)=d.regs
 ·rw[Xs p] at f
  obtain⟨B,E⟩:=QD f
  obtain⟨l,u,C,K,U,-⟩:=Qac S c
  obtain⟨y,A,O,N,T,R,L,F⟩:=I.fr.hand (by omega) (ZF B) (Qbg B).1 E m d
  unfold QbX IM.ins;rw[Xr (by omega),Xr (by omega),Xr (by omega),Xr (by omega),Xr (by omega),Xs e]
  unfold IM.call;have q:QbQ M.one.top.r x.regs=some y:=O;have w:Zb M.one.top.v x.args=some A:=N;rw[q,w,c]
  simp only
  rw[Xs ⟨by omega,R⟩]
  by_cases o:M.rest.length+1=40
  ·rw[Xs o];exact⟨_,Z,IM.over_good _ _ _⟩
  ·rw[Xr o]
   refine⟨_,Z,.inr ⟨g,d,l,JSt.start m d l,⟨c,u,Xb _,Z,?_,I.st,?_⟩⟩⟩
   ·show FrT g M.h ⟨m,d,QbV l.regs,l.params⟩ A y;rw[C,K,<-p];exact F
   ·have H:=(Zi D).1
    have b:∀ k,¬ Own (JSt.start m d l) y k:=fun k ⟨j,J,G,V⟩=>by
     have n:(QbV l.regs).getD j false=true:=J;rw[C,<-p] at n
     have:=(QbO (by omega) j).1 n
     have P:d.regs<=j:=G;omega
    refine⟨fn,bl,x,s,I.hf,I.hb,Nat.succ_pos _,by simpa using D,e,by show x.k=((x.k.toNat:Nat):Int);omega,by simpa using I.hs,I.fr,fun k z=>L k (by omega),fun k _=>b _,?_⟩
    refine I.stk.keep (fun _ _ _ h=>h) (fun k _ h=>h) (fun k z=>?_) (fun k _=>rfl);rcases z with t | t
    ·exact absurd t (b k)
    ·exact .inl t
 ·rw[Xr p] at f;cases f
end
theorem JSt.next_len (s:JSt) (x:Qs):s.H.length<=(s.next x).H.length:=by
 unfold JSt.next
 simp only
 split
 ·simp
 ·split
  ·simp
  ·exact Ze
theorem JSt.upto_len:∀ (l:List Qs) (s:JSt),s.H.length<=(s.upto l).H.length
 | [],s=>Ze
 | x::l,s=>Zt (s.next_len x) (JSt.upto_len l (s.next x))
section
variable {m:List (MFunc 6)}{g g':Sig}{M M':IM}{fn:MFunc 6}{bl:MBlock 6}{s:JSt}{x:Qs}{op:Int->Int->Int->Option Int}{h:Qd}{v:List Q4}{r:List Int}
theorem Ql8 (c:(modFault m).1=0)(e:m[k]?=some fn) (d:fn.blocks[q]?=some bl) (l:List Qs):fn.regs<=((JSt.start m fn bl).upto l).H.length:=by
 have b:=(Zo c).2 fn (Zm e);have a:=b.blocks bl (Zm d);have f:=JSt.upto_len l (JSt.start m fn bl);have g:=Qeo (n:=bl.regs) ⟨by have:=b.regs;have:=a.regs;omega,a.regs.2⟩;have h:(JSt.start m fn bl).H.length=(QbV bl.regs).length:=rfl
 have:=a.regs
 omega
theorem Inv.kept (a:(modFault m).1=0) (I:Inv m g M fn bl s):s.f.regs<=s.H.length:=by
 rw[I.mf.2,I.hs];exact Ql8 a I.hf I.hb _
theorem Qg3 (h:Qdp n regs=0):∀ i,i<n->regs.getD i 0=(i:Int):=by
 unfold Qdp at h;split at h
 ·rename_i a
  intro i b
  have:=Xe.1 a i (List.mem_range.2 b)
  simpa using this
 ·cases h
theorem Qfw (W:(modFault m).1=0) (I:Inv m g M fn bl s){t:MTo}(a:s.to t=0) (B:0<=t.block/\t.block<fn.blocks.length/\t.regs.length<=16):∃ M',IM.to fn { M with fuel:=M.fuel+1 } t=some M'/\QbH m M':=by
 obtain⟨b,q⟩:∃ b,fn.blocks[t.block.toNat]?=some b:=⟨_,Zg (by omega)⟩
 unfold JSt.to at a;rw[I.mf.2,q] at a
 simp only at a
 by_cases p:(t.regs.length:Int)=b.regs
 ·rw[Xs p] at a
  obtain⟨L,a⟩:=QD a
  obtain⟨U,N⟩:=QD a
  have o:=Qg3 L;obtain⟨y,-,A⟩:=Qc1 U
  obtain⟨x,K,P,O,X,T,D,F⟩:=I.fr.hand B.2.2 A y N m fn
  have E:=(Zo W).2 fn (Zm I.hf);have V:=E.blocks b (Zm q);have r1:=E.regs;have r2:=V.regs;have w:=I.mf.2;unfold IM.to;rw[q]
  simp only
  rw[P,O]
  simp only
  rw[Xs ⟨by omega,T⟩]
  refine⟨_,Z,.inr ⟨g,fn,b,JSt.start m fn b,⟨I.hf,q,Xb _,Z,?_,I.st,?_⟩⟩⟩
  ·show FrT g M.h ⟨m,fn,QbV b.regs,b.params⟩ K x;rw[<-p];exact F
  ·refine I.stk.keep (fun _ _ _ h=>h) (fun k _ h=>h) (fun k f=>?_) (fun k f=>?_)
   ·obtain⟨j,J,G,S⟩:=f
    have n:(QbV b.regs).getD j false=true:=J;rw[<-p] at n
    have i:=(QbO B.2.2 j).1 n;have Q:fn.regs<=j:=G;have v:x.getD j 0=k:=S;have u:t.regs.getD j 0∈t.regs:=by rw[List.getD_eq_getElem?_getD,Zg i];exact List.getElem_mem i
    have f:=A _ u;unfold hHas at f;simp only[Bool.and_eq_true,decide_eq_true_eq] at f
    refine .inl ⟨(t.regs.getD j 0).toNat,f.2,?_,by rw[<-D j i];exact v⟩;rw[w]
    refine Int.not_lt.1 fun H=>?_;have R:=o (t.regs.getD j 0).toNat (by omega);have d:(t.regs.getD j 0).toNat<t.regs.length:=by omega
    have e:t.regs.getD (t.regs.getD j 0).toNat 0=t.regs.getD j 0:=by rw[R];omega
    have l:(t.regs.getD j 0).toNat≠j:=by omega
    generalize (t.regs.getD j 0).toNat=z at d e l;rw[List.getD_eq_getElem?_getD,List.getD_eq_getElem?_getD,Zg i,Zg d] at e
    have C:t.regs[z]=t.regs[j]:=e;rcases Nat.lt_trichotomy z j with c | c | c
    ·exact List.pairwise_iff_getElem.1 y z j d i c C
    ·exact l c
    ·exact List.pairwise_iff_getElem.1 y j z i d c C.symm
   ·show x.getD k 0=M.top.r.getD k 0;rw[D k (by omega),o k (by omega)]
    rfl
 ·rw[Xr p] at a;cases a
theorem QeX {v:List Q4}:∀ {a:List Int}{xs:List Q4},Zb v a=some xs->(∀ y∈xs,y.kind=1)->∃ ns,Qcg v a=some ns
 | [],xs,_,_=>⟨[],Z⟩
 | k::a,xs,h,hk=>by
   simp only[Zb] at h
   cases h1:QR v k with
   | none=>rw[h1] at h;cases h
   | some y =>
     rw[h1] at h
     simp only at h
     cases h2:Zb v a with
     | none=>rw[h2] at h;cases h
     | some ys =>
       rw[h2] at h
       simp only at h
       cases h
       obtain⟨ns,b⟩:=QeX h2 (fun z c=>hk z (by simp[c]))
       have:QS v k=some y.n:=by unfold QS;rw[h1];simp only;rw[Xs (hk y (by simp))]
       exact⟨y.n::ns,by simp only[Qcg,this,b]⟩
theorem Qgp (n:Nat):(QhC n).length=n:=by simp[QhC]
theorem QgI (h:j<n):(QhC n).getD j 0=(j:Int):=by simp[QhC,List.getD,h]
theorem Qk4 (R:(Qq m).1=0) (I:Inv m g M fn bl s){e:ZC}(O:s.fin e=0) (h3:e.op=3):∃ M',IM.endd fn { M with fuel:=M.fuel+1 } e=some M'/\QbH m M':=by
 obtain⟨hM,N⟩:=Qcc R
 have B:=I.mf.2;unfold JSt.fin at O;split at O
 ·rename_i W;exact absurd O W
 rw[Xr (by omega),Xr (by omega)] at O
 obtain⟨E,C⟩:=QD O
 rw[B] at E C
 have am:∀ k,¬ Own s M.top.r k:=fun k ⟨j,U,X,j3⟩=>by
  split at C
  ·rename_i hq
   have A:(j:Int)∈Qam s.H:=(Qc2 s.H _).2 (by unfold hHas;simp only[Int.toNat_natCast,U,Bool.and_true];simp)
   have:=Xe.1 hq _ A
   simp only[decide_eq_true_eq] at this
   rw[B] at X;omega
  ·cases C
 unfold JSt.args at E;by_cases o:e.args.length=fn.results.length
 ·rw[Xs o] at E
  obtain⟨xs,f1,f2,f3⟩:=QfS I.fr o E
  rw[Qgp] at f3
  have S:=(Zo hM).2 fn (Zm I.hf);have D:=I.kept hM;rw[B,<-I.fr.rl] at D
  unfold IM.endd;rw[Xr (by omega),Xr (by omega)]
  show ∃ M',(match Zb M.top.v e.args with | none=>none | some v=>_)=some M'/\QbH m M';rw[f1]
  simp only
  rw[Xs f2]
  cases er:M.rest with
  | nil =>
    have P:=I.stk;rw[er] at P
    have G:M.top.f=0:=P;obtain⟨b0,-,-,-,-,hz⟩:=Qac hM I.hf
    obtain⟨-,-,hz⟩:=hz G
    obtain⟨ns,ab⟩:=QeX f1 (fun y hy=>by
     obtain⟨j,q⟩:=List.mem_iff_getElem?.1 hy
     obtain⟨t,ht⟩:∃ t,fn.results[j]?=some t:=⟨_,Zg (by rw[<-f2];exact(Zi q).1)⟩
     obtain⟨us,u,V,T,a3⟩:=f3 j y t q ht
     rw[a3.kind,Qge T,show us.kind=t.kind from (Zp V).1]
     exact hz t (Zm ht))
    simp only
    rw[ab]
    exact⟨_,Z,.inl Z⟩
  | cons d rest =>
    have P:=I.stk;rw[er] at P
    obtain⟨J,a,x,z,d1,d2,d3,d4,d5,d6,d7,F,d8,d9,ae⟩:=P
    simp only
    have Q:=JSt.upto_mf (a.code.take (d.i - 1)) (JSt.start m J a);rw[<-d7] at Q
    have hc:=(N _ J _ a d1 d2).1 (d.i - 1) x d4;rw[<-d7] at hc
    have G:=(QN hc).2.1;have A:=Qa4 (s:=z) d5;have L:z.m=m:=Q.1;have aj:m[x.k.toNat]?=some fn:=by rw[d6,XT];exact I.hf
    rw[L,aj] at A
    simp only at A
    have ad:(x.regs.length:Int)=fn.regs:=Xq.1 fun ah=>by rw[A,Xr ah] at G;cases G
    rw[Xs ad] at A
    rw[A] at G
    obtain⟨af,-⟩:=QD G
    have an:=(Zi d4).1
    have w:∀ j,j<x.regs.length->0<=x.regs.getD j 0/\(x.regs.getD j 0).toNat<d.r.length:=fun j q=>by
     have aa:x.regs.getD j 0∈x.regs:=by rw[List.getD_eq_getElem?_getD,Zg q];exact List.getElem_mem q
     have K:=ZF af _ aa;unfold hHas at K;simp only[Bool.and_eq_true,decide_eq_true_eq] at K
     refine⟨K.1,?_⟩
     rw[F.rl]
     rcases Nat.lt_or_ge (x.regs.getD j 0).toNat z.H.length with c | c
     ·exact c
     ·have h2:=K.2;rw[Qao _ c] at h2;cases h2
    have al:=S.regs;have W:fn.regs.toNat=x.regs.length:=by omega
    refine⟨_,Z,.inr ⟨g,J,a,z.next x,⟨d1,d2,by show d.i<=_;omega,?_,?_,I.st,?_⟩⟩⟩
    ·show z.next x=(JSt.start m J a).upto (a.code.take d.i)
     have:d.i=d.i - 1+1:=by omega
     rw[this,XV,d4]
     show z.next x=(JSt.start m J a).upto (a.code.take (d.i - 1)++[x])
     rw[JSt.upto_snoc,<-d7]
    ·show FrT g M.h (z.next x) (d.v++xs) d.r;refine F.push (ts:=fn.results.map (Qaj x.regs)) (by simp[f2]) (fun j y t' hy p=>?_) (Qa7 (by omega) (by omega)) (by unfold JSt.next;simp only;rw[A]);rw[XS] at p
     cases et:fn.results[j]? with
     | none=>rw[et] at p;cases p
     | some t =>
       rw[et] at p
       have ag:Qaj x.regs t=t':=Xn p;obtain⟨us,u,V,T,a3⟩:=f3 j y t hy et
       have ak:=S.results.2 t (Zm et);obtain⟨ai,c1,-⟩:=Qfx (m:=x.regs.length) (too:=fun i=>x.regs.getD i 0) (b:=(d.r.length:Int)) (by omega) (fun i hi=>⟨(w i hi).1,by have:=(w i hi).1;have:=(w i hi).2;omega⟩) ak
       have ac:t'=ai:=by rw[<-ag];unfold Qaj;rw[c1];rfl
       obtain⟨u1,g1,g2⟩:=Qej (l:=x.regs) (r:=d.r) (r':=M.top.r) (n:=x.regs.length) Ze (by omega) w F.pos (fun j q=>d8 j (by omega)) c1
       rw[W] at V
       obtain⟨u2,g3,g4⟩:=Qej (l:=QhC x.regs.length) (r:=M.top.r) (r':=M.top.r) (n:=x.regs.length) (by rw[Qgp];exact Ze) (by omega) (fun j q=>by rw[QgI q];exact⟨by omega,by simp;omega⟩) I.fr.pos (fun j q=>by rw[QgI q];rfl) V
       rw[g3] at T;cases T
       rw[g2] at g4;cases g4
       exact⟨_,by rw[ac];exact g1,a3⟩
    ·show Stk m g M.h (Own (z.next x) d.r) J d.f d.r rest;refine ae.keep (fun _ _ _ h=>h) (fun k _ h=>h) (fun k K=>?_) (fun k _=>rfl);obtain⟨j,U,X,j3⟩:=K
     rw[Qa7 (by omega) (by omega)] at U
     exact .inl (.inr ⟨j,U,X,j3⟩)
 ·rw[Xr o] at E;cases E
theorem QjT (R:(Qq m).1=0) (I:Inv m g M fn bl s){e:ZC}(b:s.fin e=0):∃ M',IM.endd fn { M with fuel:=M.fuel+1 } e=some M'/\QbH m M':=by
 have p:=(Qcc R).1;have j:=b;have o:=I.mf.2;unfold JSt.fin at b;split at b
 ·rename_i i;exact absurd b i
 rename_i a
 have a:=Xq.1 a;rw[o] at a
 have B:(e.op=1\/e.op=2\/e.op=3)/\(e.op≠3->0<=e.yes.block/\e.yes.block<fn.blocks.length/\e.yes.regs.length<=16)/\(e.op=2->0<=e.no.block/\e.no.block<fn.blocks.length/\e.no.regs.length<=16):=by
  unfold ZC.form at a;split at a
  ·cases a
  split at a
  ·cases a
  split at a
  ·cases a
  split at a
  ·rename_i d;exact absurd a d
  rename_i k h u d
  have d:=Xq.1 d
  have f:∀ (t:MTo),t.form fn.blocks.length true=0->0<=t.block/\t.block<fn.blocks.length/\t.regs.length<=16:=fun t c=>by
   unfold MTo.form at c;rw[Xr (by decide)] at c
   split at c
   ·cases c
   split at c
   ·cases c
   omega
  exact⟨by omega,fun l=>f _ (by simpa[l] using d),fun q=>f _ (by simpa[q] using a)⟩
 obtain⟨x,r,i⟩:=B
 rcases x with k | h | u
 ·rw[Xs k] at b
  unfold IM.endd;rw[Xs k]
  exact Qfw p I b (r (by omega))
 ·rw[Xr (by omega),Xs h] at b
  obtain⟨y,b⟩:=QD b
  obtain⟨z,w⟩:=QD b
  obtain⟨n,A⟩:=I.fr.num y
  unfold IM.endd;rw[Xr (by omega),Xs h]
  simp only[A]
  by_cases v:n=0
  ·rw[Xs v];exact Qfw p I w (i h)
  ·rw[Xr v];exact Qfw p I z (r (by omega))
 ·exact Qk4 R I j u
theorem QkY (R:(Qq m).1=0) (I:Inv m g M fn bl s) (b:bl.code[M.top.i]?=some x):QbX m op M x:=by
 obtain⟨h,d⟩:=Qcc R
 have a:=(d _ fn _ bl I.hf I.hb).1 M.top.i x b;rw[<-I.hs] at a
 have j:1<=x.op/\x.op<=14:=by
  have f:=(QN a).1;unfold Qs.form at f;split at f
  ·cases f
  rename_i c
  unfold Q7 at c;by_cases e:1<=x.op/\x.op<=14
  ·exact e
  ·exfalso;apply c
   rw[Xr (by omega),Xr (by omega),Xr (by omega),Xr (by omega),Xr (by omega),Xr (by omega),Xr (by omega),Xr (by omega),Xr (by omega)]
   rfl
 have:x.op=1\/x.op=2\/x.op=3\/x.op=4\/x.op=5\/x.op=6\/x.op=7\/x.op=8\/x.op=9\/x.op=10\/x.op=11\/x.op=12\/x.op=13\/x.op=14:=by omega
 rcases this with e | e | e | e | e | e | e | e | e | e | e | e | e | e
 ·exact QjO I b a e
 ·exact Qkr I b a e
 ·exact QjS I b a e (I.kept h)
 ·exact QjA I b a e
 ·exact Qhf I b a e
 ·exact Qk2 I b a e
 ·exact Qku I b a e
 ·exact Qho I b a e
 ·exact Qjo I b a e
 ·exact Qhg I b a e
 ·exact Qks I b a e
 ·exact Qmc I b a e
 ·exact QjY I b a e
 ·exact Qis h I b a e
theorem Qio (R:(Qq m).1=0) (I:Inv m g M fn bl s) (most:Nat):∃ M',IM.step m op most M=some M'/\QbH m M':=by
 unfold IM.step;by_cases b:M.fuel=most
 ·rw[Xs b];exact⟨_,Z,IM.over_good _ _ _⟩
 ·rw[Xr b,I.hf]
  simp only
  rw[I.hb]
  simp only
  cases hx:bl.code[M.top.i]? with
  | some x=>exact QkY R I hx
  | none =>
    have c:=((Qcc R).2 _ fn _ bl I.hf I.hb).2;have d:M.top.i=bl.code.length:=by have:=I.hi;have:=List.getElem?_eq_none_iff.1 hx;omega
    have a:=I.hs;rw[d,List.take_length] at a
    rw[<-a] at c
    exact QjT R I c
theorem Qhr (R:(Qq m).1=0) (inp:List Int) (pages:Nat):QbH m (IM.start inp pages):=by
 obtain⟨c,-⟩:=Qcc R
 obtain⟨f,d⟩:∃ f,m[0]?=some f:=⟨_,Zg (Zo c).1.1⟩
 obtain⟨b,h,g,i,-,p⟩:=Qac c d
 obtain⟨n,o,-⟩:=p Z
 refine .inr ⟨_,f,b,JSt.start m f b,⟨d,h,Xb _,Z,?_,StT.new pages,Z⟩⟩;show FrT _ _ ⟨m,f,QbV b.regs,b.params⟩ [] [];have r:QbV b.regs=[]:=by rw[g,n];rfl
 have l:b.params=[]:=by rw[i];exact Xf.1 o
 rw[r,l]
 exact⟨Z,fun k a=>by simp at a,fun k a=>by simp[List.getD] at a,fun j k q=>by simp[List.getD] at q,Z,fun j t y e=>by simp at e⟩
def IM.steps (m:List (MFunc 6)) (op:Int->Int->Int->Option Int) (most:Nat):Nat->IM->Option IM
 | 0,M=>some M
 | n+1,M=>if M.done then some M else match M.step m op most with
   | none=>none
   | some M'=>M'.steps m op most n
end
section
variable {m:List (MFunc 6)}{op:Int->Int->Int->Option Int}{M M':IM}{R:RM}{x:Qs}{most:Nat}
theorem Qmz (R:(Qq m).1=0):QmL m:=fun k n q l o i=>by
 obtain⟨s,c⟩:=Qcc R
 obtain⟨g,d⟩:=c k n q l o i
 refine⟨fun x r=>?_,?_⟩
 ·obtain⟨j,p⟩:=List.mem_iff_getElem?.1 r
  have b:=(QN (g j x p)).1;unfold Qs.form at b;split at b
  ·cases b
  rename_i h
  split at b
  ·cases b
  split at b
  ·cases b
  split at b
  ·cases b
  rename_i t
  refine⟨?_,fun e=>by omega⟩
  refine Xq.1 fun f=>h ?_;unfold Q7;rw[Xr (by omega),Xr (by omega),Xr (by omega),Xr (by omega),Xr (by omega),Xr (by omega),Xr (by omega),Xr (by omega),Xr (by omega)]
  rfl
 ·unfold JSt.fin at d;split at d
  ·rename_i f;exact absurd d f
  ·rename_i a
   have a:=Xq.1 a;unfold ZC.form at a;split at a
   ·cases a
   ·omega
def QeM (M:IM):Prop:=M.out.length<=2000/\M.rest.length<=39
theorem Qkw (D:QeM M){g:Q4 × Int × Qd}(h:IM.got M g=some M'):QeM M':=by
 rcases Qcz h with ⟨-,rfl⟩|⟨-,rfl⟩<;>exact D
theorem Qkl (D:QeM M) (h:IM.mem M x=some M'):QeM M':=by
 unfold IM.mem at h;repeat' split at h
 all_goals first | exact Qkw D h | (cases h;done) | (cases h;exact D)
theorem QjJ (D:QeM M) (h:IM.ins m op M x=some M'):QeM M':=by
 unfold IM.ins at h;split at h
 ·cases h;exact D
 split at h
 ·repeat' split at h
  all_goals first | (cases h;done) | (cases h;exact D)
 split at h
 ·repeat' split at h
  all_goals first | (cases h;done) | (cases h;exact D)
 split at h
 ·repeat' split at h
  all_goals first | (cases h;done) | (cases h;exact D)
 split at h
 ·split at h
  ·cases h
  ·split at h
   ·cases h;exact D
   ·rename_i a
    cases h
    have:=D.1
    exact⟨by simp;omega,D.2⟩
 split at h
 ·unfold IM.call at h;repeat' split at h
  all_goals first | (cases h;done) | (cases h;exact D) | skip
  rename_i a
  cases h
  have:=D.2
  exact⟨D.1,by simp;omega⟩
 ·exact Qkl D h
theorem QjF (D:QeM M){fn:MFunc 6}{t:MTo}(h:IM.to fn M t=some M'):QeM M':=by
 unfold IM.to at h;repeat' split at h
 all_goals first | (cases h;done) | (cases h;exact D)
theorem QiM (D:QeM M){fn:MFunc 6}{e:ZC}(h:IM.endd fn M e=some M'):QeM M':=by
 unfold IM.endd at h;split at h
 ·exact QjF D h
 split at h
 ·split at h
  ·cases h
  ·split at h<;>exact QjF D h
 ·split at h
  ·cases h
  ·split at h
   ·split at h
    ·rename_i b
     cases h
     have a:=D.2;rw[b] at a
     exact⟨D.1,by simp at a;simp only[IM.push];omega⟩
    ·split at h
     ·cases h
     ·cases h;exact D
   ·cases h
theorem Qil (D:QeM M) (h:IM.step m op most M=some M'):QeM M':=by
 unfold IM.step at h;split at h
 ·cases h;exact D
 split at h
 ·cases h
 split at h
 ·cases h
 split at h
 ·exact QjJ (M:={ M with fuel:=M.fuel+1,top:={ M.top with i:=M.top.i+1 } }) D h
 ·exact QiM (M:={ M with fuel:=M.fuel+1 }) D h
theorem Qhc (inp:List Int) (pages:Nat):QeM (IM.start inp pages):=⟨by simp[IM.start],by simp[IM.start]⟩
theorem Qip (H:(Qq m).1=0) (a:M.done=false) (G:QbH m M) (D:QeM M) (S:Qex M R):∃ M' R',IM.step m op most M=some M'/\RM.step m op most R=some R'/\Qex M' R'/\QbH m M'/\QeM M':=by
 rcases G with h | ⟨g,i,f,s,I⟩
 ·rw[a] at h;cases h
 ·obtain⟨M',e,c⟩:=Qio (op:=op) H I most
  obtain⟨φ,π,S⟩:=S
  obtain⟨R',d,b⟩:=Qhj (Qmz H) S a (by have:=D.2;omega) D.1 e
  exact⟨M',R',e,d,b,c,Qil D e⟩
theorem QdT (H:(Qq m).1=0):∀ (n:Nat) (M:IM) (R:RM),QbH m M->QeM M->Qex M R->∃ M' R',IM.steps m op most n M=some M'/\RM.steps m op most n R=some R'/\Qex M' R'/\QbH m M'/\QeM M'
 | 0,M,R,G,D,S=>⟨M,R,Z,Z,S,G,D⟩
 | n+1,M,R,G,D,S=>by
   unfold IM.steps RM.steps;have b:R.done=M.done:=by obtain⟨φ,π,S⟩:=S;exact S.done
   by_cases a:M.done=true
   ·rw[Xs a,Xs (by rw[b];exact a)]
    exact⟨M,R,Z,Z,S,G,D⟩
   ·rw[Xr a,Xr (by rw[b];exact a)]
    obtain⟨M',R',f,e,d,g,c⟩:=Qip (op:=op) (most:=most) H (by simpa using a) G D S
    rw[f,e]
    exact QdT H n M' R' g c d
theorem Qkj (H:(Qq m).1=0) (inp:List Int)(a:pages<=64) (n:Nat):∃ M' R',IM.steps m op most n (IM.start inp pages)=some M'/\RM.steps m op most n (RM.start inp pages)=some R'/\Qex M' R' :=
 let ⟨M',R',h1,h2,h3,_,_⟩:=QdT (op:=op) (most:=most) H n _ _ (Qhr H inp pages) (Qhc inp pages) (Qg5 inp a)
 ⟨M',R',h1,h2,h3⟩
end
theorem Xm:type_of% @Calls.mono:=@Calls.mono
def Qfn (o:Oper):List Tmp:=o.op.operands.toList.filterMap fun | .tmp t=>some t | _=>none
def Qt (l:List Oper):List Tmp:=l.filterMap (·.dst)
def nodupB:List Tmp->Bool
 | []=>true
 | t::r=>!r.contains t&&nodupB r
def onB (gs:List (Nat × Option Bool)) (o:Oper) (b:Bool):Bool :=
 match o.guard with
 | none=>b
 | some (g,want)=>match gs.lookup g with
   | some c=>b==(c==some want)
   | none=>false
def Qla (gs:List (Nat × Option Bool)):List Oper->List Bool->Bool
 | [],[]=>true
 | o::l,b::bs=>onB gs o b&&Qla gs l bs
 | _,_=>false
def QmX (ops:Array Oper) (ds outs:List Tmp) (o:Oper):Bool :=
 (o.looksAt ops).all fun t=>(outs.contains t&&!ds.contains t)||o.after.any fun e=>Region.binds .any e&&((ops[e.on]?).bind (·.dst)==some t)
def Qcu (i:Nat):List Oper->Bool
 | []=>true
 | o::l=>(o.after.all fun e=>!Region.binds .any e||decide (e.on<i))&&Qcu (i+1) l
def QaY (l:List Oper) (n:Nat) (outs:List Tmp) (gs:List (Nat × Option Bool)) (bs:List Bool):Bool :=
 (gs.all fun g=>((l.toArray[g.1]?).bind (·.dst)).isSome)&&nodupB (Qt l)&&((Qt l).all fun t=>decide (t<n))&&(l.all (QmX l.toArray (Qt l) outs))&&Qla gs l bs&&Qcu 0 l
section
variable {P:Program}(E:Tmp->Value->World->Prop) (W:World->Prop) (R:World->World->Prop)
def EO:Option Tmp->Value->World->Prop
 | some t=>E t
 | none=>fun _ _=>True
def Qeu (a:Act) (w:World):List Tmp->Prop
 | []=>True
 | t::r=>E t (a.tmps.getD t undef) w/\Qeu a w r
def Qlb (P:Program) (o:Oper):Prop :=
 ∀ a w,W w->Qeu E a w (Qfn o)->∀ K:Act->World->Prop,(∀ v w',R w w'->W w'->EO E o.dst v w'->K (a.put o.dst v) w')->o.wp P a w K (fun _ _ _=>False)
def Qh8 (o:Oper):Prop:=∀ w,W w->EO E o.dst undef w
def Qen (P:Program):List Oper->List Bool->Prop
 | o::l,true::bs=>Qlb E W R P o/\Qen P l bs
 | o::l,false::bs=>Qh8 E W o/\Qen P l bs
 | _,_=>True
def QaW (ops:Array Oper):List (Nat × Option Bool)->Prop
 | []=>True
 | (g,c)::r=>(∀ t,(ops[g]?).bind (·.dst)=some t->∀ v w,W w->E t v w->match c with | some b=>v=.bool b | none=>v=undef)/\QaW ops r
def Qak (a:Act) (w:World):List Tmp->Prop
 | []=>True
 | t::r=>E t (a.tmps.getD t undef) w/\Qak a w r
def QM (a:Act) (vs:Tmp->Value):List Tmp->Act
 | []=>a
 | t::r=>QM (a.put (some t) (vs t)) vs r
end
theorem wpq {P:Program}{o:Oper}{a:Act}{K d:Act->World->Prop}{Q:Exit->Act->World->Prop}(h:∀ a w,K a w->d a w)
 (c:o.wp P a w K (fun _ _ _=>False)):o.wp P a w d Q:=by
 unfold Oper.wp at *;generalize (execOp a.eval o).run P w=r at *
 cases r with
 | ok n w' =>
   cases n<;>simp only[Oper.upon] at c |- <;>
    first
     | exact h _ _ c
     | exact Xm c (fun e f b=>by cases e<;>first | exact h _ _ b | exact b.elim | (obtain⟨_,_,b⟩:=b;exact b.elim))
     | exact Rows.mono c (fun _ _ b=>h _ _ b)
 | halt x w'=>cases x<;>simp only[Oper.upon] at c |-
theorem Qbl (b:Tmp->Value):∀ (ds:List Tmp) (a:Act),(QM a b ds).defers=a.defers
 | [],_=>rfl
 | _::r,a=>by rw[QM,Qbl b r];rfl
theorem QcK (b:Tmp->Value):∀ (ds:List Tmp) (a:Act),(QM a b ds).tmps.size=a.tmps.size
 | [],_=>rfl
 | _::r,a=>by rw[QM,QcK b r];simp[Act.put]
theorem QfK (f:Tmp->Value):∀ (ds:List Tmp) (a:Act) (t:Nat),t<a.tmps.size->(QM a f ds).tmps[t]?=if t∈ds then some (f t) else a.tmps[t]?
 | [],_,_,_=>by simp[QM]
 | d::r,a,t,ht=>by
   rw[QM,QfK f r _ t (by simpa[Act.put] using ht)]
   by_cases b:t∈r
   ·simp[b]
   ·by_cases c:d=t
    ·subst c;simp[b,Act.put,ht]
    ·have:t≠d:=fun e=>c e.symm
     simp[b,this,Act.put,c]
theorem nodup_apart:∀ (l:List Oper) (i j:Nat) (oi oj:Oper) (t:Tmp),nodupB (Qt l)=true->l[i]?=some oi->l[j]?=some oj->oi.dst=some t->oj.dst=some t->i=j
 | [],_,_,_,_,_,_,hi,_,_,_=>by simp at hi
 | o::l,i,j,oi,oj,t,h,hi,hj,di,dj=>by
   have e:∀ {k:Nat} {b:Oper},l[k]?=some b->b.dst=some t->t∈Qt l:=fun {k b} n a=>List.mem_filterMap.2 ⟨b,Zm n,a⟩
   have g:nodupB (Qt l)=true:=by
    unfold Qt at h |-
    cases a:o.dst with
    | none=>simpa[List.filterMap_cons,a] using h
    | some d=>simp[a,nodupB] at h;exact h.2
   have c:o.dst=some t->t ∉ Qt l:=fun a=>by
    unfold Qt at h |-;simp only[List.filterMap_cons,a,nodupB,Bool.and_eq_true,Bool.not_eq_true'] at h
    intro f
    have:=h.1
    simp at this
    simp at f
    obtain⟨x,c,m⟩:=f
    exact this x c m
   cases i with
   | zero =>
     cases j with
     | zero=>rfl
     | succ j=>simp at hi hj;subst hi;exact absurd (e hj dj) (c di)
   | succ i =>
     cases j with
     | zero=>simp at hi hj;subst hj;exact absurd (e hi di) (c dj)
     | succ j=>simp at hi hj;rw[nodup_apart l i j oi oj t g hi hj di dj]
section
variable {P:Program}{E:Tmp->Value->World->Prop}{W:World->Prop}{R:World->World->Prop}
theorem Qem {a:Act}{w:World}:∀ (l:List Tmp),(∀ t∈l,E t (a.tmps.getD t undef) w)->Qeu E a w l
 | [],_=>trivial
 | t::r,h=>⟨h t (by simp),Qem r fun x b=>h x (by simp[b])⟩
theorem Qa6 {a:Act}{w:World}:∀ (l:List Tmp),Qak E a w l->∀ t∈l,E t (a.tmps.getD t undef) w
 | [],_,_,h=>by simp at h
 | x::r,h,t,b=>by
   rcases List.mem_cons.1 b with rfl | b
   ·exact h.1
   ·exact Qa6 r h.2 t b
theorem Qe8 {a:Array Oper}:∀ (gs:List (Nat × Option Bool)),QaW E W a gs->∀ g c,gs.lookup g=some c->∀ t,(a[g]?).bind (·.dst)=some t->∀ v w,W w->E t v w->match c with | some b=>v=.bool b | none=>v=undef
 | [],_,_,_,h=>by simp at h
 | (g',c')::r,h,g,c,hl=>by
   by_cases e:g=g'
   ·subst e;simp at hl;subst hl;exact h.1
   ·have d:(g==g')=false:=by simpa using e
    simp[List.lookup_cons,d] at hl;exact Qe8 r h.2 g c hl
theorem mem_of_lookup:∀ (gs:List (Nat × Option Bool)) (g:Nat) (c:Option Bool),gs.lookup g=some c->(g,c)∈gs
 | [],_,_,h=>by simp at h
 | (g',c')::r,g,c,hl=>by
   by_cases e:g=g'
   ·subst e;simp at hl;subst hl;simp
   ·have a:(g==g')=false:=by simpa using e
    simp[List.lookup_cons,a] at hl;exact List.mem_cons_of_mem _ (mem_of_lookup r g c hl)
theorem filter_set:∀ (l:List Bool) (i:Nat) (h:i<l.length),l[i]=false->((l.set i true).filter (·==false)).length+1=(l.filter (·==false)).length
 | [],_,h,_=>by simp at h
 | x::l,0,_,h=>by simp at h;subst h;simp
 | x::l,i+1,hi,h=>by
   simp at h hi
   have:=filter_set l i hi h
   cases x<;>simp at this |-<;>omega
theorem Qjc (gs:List (Nat × Option Bool)):∀ (l:List Oper) (bs:List Bool),Qla gs l bs=true->Qen E W R P l bs->∀ (i:Nat) (o:Oper),l[i]?=some o->(onB gs o true=true/\Qlb E W R P o)\/(onB gs o false=true/\Qh8 E W o)
 | [],_,_,_,_,_,h=>by simp at h
 | _::_,[],h,_,_,_,_=>by simp[Qla] at h
 | x::l,b::bs,h,ha,i,o,ho=>by
   simp only[Qla,Bool.and_eq_true] at h
   cases i with
   | zero =>
     simp at ho;subst ho
     cases b with
     | true=>exact .inl ⟨h.1,ha.1⟩
     | false=>exact .inr ⟨h.1,ha.1⟩
   | succ i =>
     simp at ho
     cases b with
     | true=>exact Qjc gs l bs h.2 ha.2 i o ho
     | false=>exact Qjc gs l bs h.2 ha.2 i o ho
theorem back_at:∀ (l:List Oper) (k i:Nat) (o:Oper),Qcu k l=true->l[i]?=some o->∀ e∈o.after,Region.binds .any e=true->e.on<k+i
 | [],_,_,_,_,h=>by simp at h
 | x::l,k,i,o,h,ho=>by
   simp only[Qcu,Bool.and_eq_true] at h
   cases i with
   | zero =>
     simp at ho;subst ho
     intro e b a
     have:=Array.all_eq_true_iff_forall_mem.1 h.1 e b
     simpa[a] using this
   | succ i =>
     simp at ho
     intro e b a
     have:=back_at l (k+1) i o h.2 ho e b a
     omega
structure Qnj (E:Tmp->Value->World->Prop) (W:World->Prop) (l:List Oper) (outs:List Tmp) (a0:Act) (listed:Array Bool) (a:Act) (w:World):Prop where
 world:W w
 defers:a.defers=a0.defers
 size:a.tmps.size=a0.tmps.size
 outer:∀ t,t ∉ Qt l->a.tmps[t]?=a0.tmps[t]?
 outs:∀ t∈outs,t ∉ Qt l->E t (a.tmps.getD t undef) w
 known:∀ j o t,l[j]?=some o->o.dst=some t->listed.getD j false=true->E t (a.tmps.getD t undef) w
theorem QdM {l:List Oper}{outs:List Tmp}{gs:List (Nat × Option Bool)}{a0:Act}{Q:Exit->Act->World->Prop}
 (hB:QaY l a0.tmps.size outs gs bs=true) (hR:∀ t v w w',R w w'->E t v w->E t v w') (hG:QaW E W l.toArray gs) (hA:Qen E W R P l bs)
 (ac:∀ (vs:Tmp->Value) w',W w'->(∀ t,(Qt l).contains t=true->E t (vs t) w')->Q .normal (QM a0 vs (Qt l)) w') :
 ∀ (fuel:Nat) (listed:Array Bool) (a:Act) (w:World),listed.size=l.length->(listed.toList.filter (·==false)).length<=fuel->Qnj E W l outs a0 listed a w ->
  wpAny P .any l.toArray Q fuel listed a w:=by
 simp only[QaY,Bool.and_eq_true] at hB
 obtain⟨⟨⟨⟨⟨ap,ak⟩,O⟩,ao⟩,ax⟩,au⟩:=hB
 have aa:∀ (listed:Array Bool) (a:Act) (w:World),listed.size=l.length->Region.ready .any l.toArray listed=[]->Qnj E W l outs a0 listed a w->Q .normal a w:=by
  intro listed a w V H f
  have ab:∀ j,j<l.length->listed.getD j false=true:=by
   intro j
   induction j using Nat.strongRecOn with
   | _ j ih =>
     intro z
     cases r:listed.getD j false with
     | true=>rfl
     | false =>
       exfalso
       have:j∈Region.ready .any l.toArray listed:=by
        unfold Region.ready;refine List.mem_filter.2 ⟨by simpa using z,?_⟩
        have U:listed.getD j true=false:=by
         have aq:j<listed.size:=by omega
         simp[Array.getD,aq] at r |-;exact r
        have T:l.toArray[j]?=some l[j]:=by simp[z]
        rw[U,T]
        simp only[Bool.not_false,Bool.true_and,Option.map_some,Option.getD_some]
        rw[Array.all_eq_true_iff_forall_mem]
        intro e he
        cases hbd:Region.binds .any e with
        | false=>rfl
        | true =>
          have:=back_at l 0 j l[j] au (by simp[z]) e he hbd
          simp only[Bool.not_true,Bool.false_or]
          exact ih e.on (by omega) (by omega)
       rw[H] at this
       cases this
  have af:∀ t∈Qt l,E t (a.tmps.getD t undef) w/\t<a0.tmps.size:=by
   intro t q;obtain⟨o,X,s⟩:=List.mem_filterMap.1 q
   obtain⟨j,z⟩:=List.getElem?_of_mem X
   have B:j<l.length:=by
    rcases Nat.lt_or_ge j l.length with h | h
    ·exact h
    ·rw[Xk h] at z;cases z
   exact⟨f.known j o t z s (ab j B),by simpa using Xe.1 O t q⟩
  have he:a=QM a0 (fun t=>a.tmps.getD t undef) (Qt l):=by
   have U:a.tmps=(QM a0 (fun t=>a.tmps.getD t undef) (Qt l)).tmps:=by
    refine Array.ext (by rw[QcK,f.size]) fun t K M=>?_;have h3:t<a0.tmps.size:=by rw[<-f.size];exact K
    have:=QfK (fun t=>a.tmps.getD t undef) (Qt l) a0 t h3
    rw[Xj M] at this
    by_cases hm:t∈Qt l
    ·rw[Xs hm] at this
     simp only[Option.some.injEq] at this
     rw[this];simp[Array.getD,K]
    ·rw[Xr hm,<-f.outer t hm,Xj K] at this
     exact(Xn this).symm
   have T:a.defers=(QM a0 (fun t=>a.tmps.getD t undef) (Qt l)).defers:=by rw[Qbl,f.defers]
   cases a with
   | mk t d =>
     simp only at U T
     generalize hp:QM a0 (fun x=>t.getD x undef) (Qt l)=p at U T |-
     cases p;simp only at U T;rw[U,T]
  rw[he]
  exact ac _ _ f.world fun t q=>(af t (by simpa using q)).1
 intro fuel
 induction fuel with
 | zero =>
   intro listed a w V hf f
   have H:Region.ready .any l.toArray listed=[]:=by
    rw[List.eq_nil_iff_forall_not_mem]
    intro i hi;obtain⟨K,M⟩:=List.mem_filter.1 hi
    have B:i<l.length:=by simpa using K
    simp only[Bool.and_eq_true,Bool.not_eq_true'] at M
    have:listed[i]'(by omega)=false:=by
     have:=M.1;simp[Array.getD,show i<listed.size by omega] at this;exact this
    have hm:false∈listed.toList.filter (·==false):=List.mem_filter.2 ⟨by rw[<-this];simp,by simp⟩
    have:=List.length_pos_of_mem hm
    omega
   exact⟨H,aa listed a w V H f⟩
 | succ fuel ih =>
   intro listed a w V hf f;refine⟨fun H=>aa listed a w V H f,fun i hi=>?_⟩
   obtain⟨K,M⟩:=List.mem_filter.1 hi
   have B:i<l.length:=by simpa using K
   simp only[Bool.and_eq_true,Bool.not_eq_true'] at M
   obtain⟨ag,m⟩:=M
   have ad:i<listed.size:=by omega
   have ai:listed[i]=false:=by simp[Array.getD,ad] at ag;exact ag
   have X:l.toArray[i]?=some l[i]:=by simp[B]
   have n:l[i]?=some l[i]:=by simp[B]
   generalize az:l[i]=o at X n;rw[X] at m
   simp only[Option.map_some,Option.getD_some] at m
   rw[Array.all_eq_true_iff_forall_mem] at m
   have u:∀ t∈o.looksAt l.toArray,E t (a.tmps.getD t undef) w:=by
    intro t q
    have:=Xe.1 (Xe.1 ao o (Zm n)) t q
    rw[Bool.or_eq_true] at this
    rcases this with h | h
    ·simp only[Bool.and_eq_true,Bool.not_eq_true'] at h
     exact f.outs t (by simpa using h.1) (by simpa using h.2)
    ·obtain⟨k,hk,h⟩:=Array.any_eq_true.1 h
     simp only[Bool.and_eq_true,beq_iff_eq] at h
     obtain⟨r,s⟩:=h
     have J:=m _ (Array.getElem_mem hk);rw[r] at J
     simp only[Bool.not_true,Bool.false_or] at J
     generalize o.after[k]=e at *;obtain⟨oj,aj,al⟩:=Option.bind_eq_some_iff.1 s
     exact f.known e.on oj t (by simpa using aj) al J
   have av:Qeu E a w (Qfn o):=Qem _ fun t q=>u t (by
    unfold Oper.looksAt;exact List.mem_append_left _ q)
   have hw:∀ b,onB gs o b=true->Region.wanted o (yielded l.toArray a.tmps)=b:=by
    intro b r;unfold onB at r;unfold Region.wanted
    cases hg:o.guard with
    | none=>rw[hg] at r;simp only at r |-;exact r.symm
    | some gw =>
      obtain⟨g,ay⟩:=gw
      rw[hg] at r
      simp only at r |-
      cases J:gs.lookup g with
      | none=>rw[J] at r;cases r
      | some c =>
        rw[J] at r
        simp only[beq_iff_eq] at r
        have hy:yielded l.toArray a.tmps g=c:=by
         unfold yielded;have ar:(g,c)∈gs:=mem_of_lookup gs g c J;have D:=Xe.1 ap _ ar
         cases s:(l.toArray[g]?).bind (·.dst) with
         | none=>rw[s] at D;cases D
         | some t =>
           have hE:=u t (by unfold Oper.looksAt;rw[hg];simp only[s];simp);have F:=Qe8 gs hG g c J t s _ _ f.world hE;obtain⟨og,am,aw⟩:=Option.bind_eq_some_iff.1 s
           have N:t<a.tmps.size:=by
            rw[f.size]
            have:=Xe.1 O t (List.mem_filterMap.2 ⟨og,Zm (by simpa using am),aw⟩)
            simpa using this
           have q:a.tmps[t]?=some (a.tmps.getD t undef):=by simp[Array.getD,N]
           simp only[Option.bind_some,q]
           cases c with
           | none=>simp only at F;rw[F];rfl
           | some b=>simp only at F;rw[F]
        rw[hy,r]
   have I:((listed.setIfInBounds i true).toList.filter (·==false)).length<=fuel:=by
    have h3:=filter_set listed.toList i (by simpa using ad) (by simpa using ai);rw[Array.toList_setIfInBounds]
    omega
   have G:∀ v w',W w'->(∀ t v,E t v w->E t v w')->EO E o.dst v w'->Qnj E W l outs a0 (listed.setIfInBounds i true) (a.put o.dst v) w':=by
    intro v w' S y F
    have C:∀ t,o.dst≠some t->(a.put o.dst v).tmps[t]?=a.tmps[t]?:=by
     intro t q
     cases s:o.dst with
     | none=>rfl
     | some d =>
       have:d≠t:=fun e=>q (by rw[s,e])
       simp[Act.put,this]
    have A:∀ (b c:Array Value) (t:Nat),b[t]?=c[t]?->b.getD t undef=c.getD t undef:=by
     intro b c t h;rw[Za,Za,h]
    refine⟨S,?_,?_,?_,?_,?_⟩
    ·rw[<-f.defers];cases o.dst<;>rfl
    ·rw[<-f.size];cases o.dst<;>simp[Act.put]
    ·intro t q;rw[C t (fun e=>q (List.mem_filterMap.2 ⟨o,Zm n,e⟩)),f.outer t q]
    ·intro t q hn;rw[A _ _ t (C t (fun e=>hn (List.mem_filterMap.2 ⟨o,Zm n,e⟩)))]
     exact y _ _ (f.outs t q hn)
    ·intro j oj t z s ae;by_cases L:j=i
     ·subst L;rw[n] at z
      obtain rfl:=Xn z
      have N:t<a.tmps.size:=by
       rw[f.size]
       have:=Xe.1 O t (List.mem_filterMap.2 ⟨o,Zm n,s⟩)
       simpa using this
      rw[s] at F |-
      have:(a.put (some t) v).tmps.getD t undef=v:=by simp[Act.put,Array.getD,N]
      rw[this];exact F
     ·have an:o.dst≠some t:=fun e=>L (nodup_apart l j i oj o t ak z n s e);rw[A _ _ t (C t an)]
      refine y _ _ (f.known j oj t z s ?_);have ah:i≠j:=fun e=>L e.symm;rw[Za,Array.getElem?_setIfInBounds_ne ah] at ae
      rw[Za];exact ae
   unfold wpOp;rw[X]
   simp only
   rcases Qjc gs l bs ax hA i o n with ⟨h,y⟩|⟨h,y⟩
   ·rw[hw true h,Xs Z]
    refine .inl (wpq (fun a' w' hh=>hh) (y a w f.world av _ fun v w' H S F=>?_));exact ih _ _ _ (by simpa using V) I (G v w' S (fun t v he=>hR t v w w' H he) F)
   ·rw[hw false h]
    simp only[Bool.false_eq_true,if_false]
    exact ih _ _ _ (by simpa using V) I (G undef w f.world (fun _ _ h=>h) (y w f.world))
theorem Qay {l:List Oper}{outs:List Tmp}{gs:List (Nat × Option Bool)}(h:n<=m) (b:QaY l n outs gs bs=true):QaY l m outs gs bs=true:=by
 simp only[QaY,Bool.and_eq_true] at b |-
 obtain⟨⟨⟨⟨⟨c,d⟩,a⟩,f⟩,g⟩,i⟩:=b
 refine⟨⟨⟨⟨⟨c,d⟩,?_⟩,f⟩,g⟩,i⟩
 rw[Xe] at a |-
 intro t e;have j:t<n:=by simpa using a t e
 have k:t<m:=Zl j h;simpa using k
theorem Qdt {l:List Oper}{outs:List Tmp}{gs:List (Nat × Option Bool)}{a:Act}{Q:Exit->Act->World->Prop}
 (E:Tmp->Value->World->Prop) (W:World->Prop) (R:World->World->Prop)
 (r:P.follows .mixedOrders=true)  (e:a.tmps.size=m) (c:n<=m) (g:QaY l n outs gs bs=true)
 (i:∀ t v w w',R w w'->E t v w->E t v w') (d:QaW E W l.toArray gs) (q:W w.drew) (h:Qak E a w.drew outs)
 (k:Qen E W R P l bs)
 (b:∀ (vs:Tmp->Value) w',W w'->(∀ t,(Qt l).contains t=true->E t (vs t) w')->Q .normal (QM a vs (Qt l)) w') :
 (Code.region id l.toArray true).wp P Q a w:=by
 refine wp_region_any r ?_;refine QdM (Qay (e ▸ c) g) i d k b _ _ _ _ (by simp) ?_ ⟨q,Z,Z,fun _ _=>rfl,fun t f _=>Qa6 outs h t f,?_⟩
 ·simp only[Array.toList_replicate]
  exact Zt (List.length_filter_le _ _) (by simp)
 ·intro j o t u s p;simp[Array.getD] at p
end
section
variable {P:Program}{Q:Exit->Act->World->Prop}
theorem QlM {o:Oper}{a:Act}{K N:Act->World->Prop}(h:o.wp P a w K (Exit.then N Q)):o.wp P a w K Q:=by
 unfold Oper.wp at *;generalize (execOp a.eval o).run P w=r at *
 cases r with
 | ok n w'=>cases n<;>exact h
 | halt x w'=>cases x<;>exact h
def Qbp (n:Nat) (l:List Oper):Bool:=l.all fun o=>match o.guard with | some (g,_)=>decide (g<n) | none=>true
theorem ZA {a:Array Bool}:i∈Region.ready .any ops a↔i<ops.size/\a.getD i true=false/\∃ o,ops[i]?=some o/\∀ e∈o.after,Region.binds .any e=true->a.getD e.on false=true:=by
 unfold Region.ready;rw[List.mem_filter]
 simp only[List.mem_range,Bool.and_eq_true,Bool.not_eq_true']
 refine and_congr_right fun b=>and_congr_right fun c=>?_;rw[Xj b]
 simp only[Option.map_some,Option.getD_some,Option.some.injEq,exists_eq_left']
 rw[Array.all_eq_true_iff_forall_mem]
 refine forall_congr' fun e=>forall_congr' fun d=>?_
 cases Region.binds .any e<;>simp
end
section
variable {P:Program}{Q:Exit->Act->World->Prop}
def QdW (all:List Oper):Nat->Oper->Nat->Bool
 | 0,_,_=>false
 | f+1,o,j=>o.after.any fun e=>Region.binds .any e&&(e.on==j||(match all[e.on]? with | some o'=>QdW all f o' j | none=>false))
def QaK (all:List Oper) (k:Nat):List Oper->Bool
 | []=>true
 | o::l=>((List.range k).all fun j=>QdW all 24 o j)&&QaK all (k+1) l
theorem QcF {all:List Oper}{j:Nat}{S:Nat->Prop}(b:∀ (q:Nat) (o':Oper),all[q]?=some o'->S q->∀ e∈o'.after,Region.binds .any e=true->S e.on):∀ (f:Nat) (o:Oper),QdW all f o j=true->(∀ e∈o.after,Region.binds .any e=true->S e.on)->S j
 | 0,_,h,_=>by simp[QdW] at h
 | f+1,o,h,hS=>by
   simp only[QdW] at h
   obtain⟨q,i,c⟩:=Array.any_eq_true.1 h
   rw[Bool.and_eq_true,Bool.or_eq_true] at c
   have g:=Array.getElem_mem i;generalize o.after[q]=d at c g;rcases c.2 with a | a
   ·have:=hS d g c.1
    rwa [beq_iff_eq.1 a] at this
   ·cases ho':all[d.on]? with
    | none=>rw[ho'] at a;simp at a
    | some o' =>
      rw[ho'] at a
      exact QcF b f o' a (b _ o' ho' (hS d g c.1))
theorem Qd4 (all:List Oper):∀ (l:List Oper) (k i:Nat) (o:Oper),QaK all k l=true->l[i]?=some o->∀ j,j<k+i->∀ S:Nat->Prop,
 (∀ (q:Nat) (o':Oper),all[q]?=some o'->S q->∀ e∈o'.after,Region.binds .any e=true->S e.on)->(∀ e∈o.after,Region.binds .any e=true->S e.on)->S j
 | [],_,_,_,_,h=>by simp at h
 | x::l,k,0,o,h,ho=>by
   simp at ho;subst ho
   simp only[QaK,Bool.and_eq_true] at h
   intro j b S a c;exact QcF a 24 x (Xe.1 h.1 j (by simpa using b)) c
 | x::l,k,i+1,o,h,ho=>by
   simp only[QaK,Bool.and_eq_true] at h
   simp at ho
   intro j b;exact Qd4 all l (k+1) i o h.2 ho j (by omega)
theorem Qhl {l:List Oper}(I:Qcu 0 l=true){k0:Nat}(U:QaK l k0 (l.drop k0)=true):∀ (m k fuel:Nat) (listed:Array Bool) (a:Act) (w:World),k+m=l.length->k0<=k->m<=fuel->listed.size=l.length ->
 (∀ j,j<l.length->listed.getD j false=decide (j<k))->wpList P l.toArray Q (l.drop k) a w->wpAny P .any l.toArray Q fuel listed a w:=by
 intro m
 induction m with
 | zero =>
   intro k fuel listed a w X _ _ K c h
   have v:Region.ready .any l.toArray listed=[]:=by
    rw[List.eq_nil_iff_forall_not_mem]
    intro i s;obtain⟨E,r,_⟩:=ZA.1 s
    have n:i<l.length:=by simpa using E
    have:=c i n
    have V:decide (i<k)=true:=by simp;omega
    rw[V] at this
    have p:i<listed.size:=by omega
    simp[Array.getD,p] at this r
    rw[this] at r;cases r
   have t:Q .normal a w:=by
    rw[List.drop_of_length_le (by omega)] at h
    exact h
   cases fuel with
   | zero=>exact⟨v,t⟩
   | succ fuel=>exact⟨fun _=>t,fun i s=>by rw[v] at s;cases s⟩
 | succ m ih =>
   intro k fuel listed a w X W hf K c h;have b:k<l.length:=by omega
   obtain⟨fuel,rfl⟩:∃ f,fuel=f+1:=⟨fuel - 1,by omega⟩
   have u:k<listed.size:=by omega
   have D:k∈Region.ready .any l.toArray listed:=by
    refine ZA.2 ⟨by simpa using b,?_,l[k],by simp[b],fun e C g=>?_⟩
    ·have:=c k b
     simp[Array.getD,u] at this |-;exact this
    ·have:=back_at l 0 k l[k] I (by simp[b]) e C g
     rw[c _ (by omega)];simp;omega
   refine⟨fun v=>absurd (v ▸ D) (by simp),fun i s=>?_⟩
   have H:i=k:=by
    obtain⟨E,r,o,y,N⟩:=ZA.1 s
    have n:i<l.length:=by simpa using E
    have z:listed.getD i false=false:=by
     have p:i<listed.size:=by omega
     simp[Array.getD,p] at r |-;exact r
    have B:k<=i:=by
     have:=c i n
     rw[z] at this
     have:¬ i<k:=by simpa using this.symm
     omega
    rcases Nat.eq_or_lt_of_le B with e | O
    ·exact e.symm
    ·exfalso
     have:=Qd4 l (l.drop k0) k0 (i - k0) o U (by rw[List.getElem?_drop,show k0+(i - k0)=i by omega];simpa using y) k (by omega) (fun j=>listed.getD j false=true)
      (fun q L t R e C g=>by
       have A:q<l.length:=(Zi t).1;have M:=back_at l 0 q L I t e C g;have J:listed.getD q false=true:=R;rw[c q A] at J
       have h6:q<k:=by simpa using J
       show listed.getD e.on false=true;rw[c e.on (by omega)];simp;omega) N
     rw[c k b] at this
     simp at this
   subst H;rw[List.drop_eq_getElem_cons b] at h
   have y:l.toArray[i]?=some l[i]:=by simp[b]
   have d:∀ a w,wpList P l.toArray Q (l.drop (i+1)) a w->wpAny P .any l.toArray Q fuel (listed.setIfInBounds i true) a w:=fun a w S =>
    ih (i+1) fuel _ a w (by omega) (by omega) (by omega) (by simpa using K) (fun j T=>by
     by_cases e:j=i
     ·subst e;simp[Array.getD,u]
     ·have G:i≠j:=fun x=>e x.symm;rw[Za,Array.getElem?_setIfInBounds_ne G,<-Za,c j T]
      simp;omega) S
   unfold wpOp;rw[y]
   simp only
   unfold wpList at h;split
   ·rename_i F
    rw[Xs F] at h
    exact h.imp (Oper.wp_mono d) id
   ·rename_i F
    rw[Xr F] at h
    exact d _ _ h
theorem Qbu {l l2:List Oper}(hb:Qcu 0 (l++l2)=true) (hg:Qbp l.length l=true) (ht:QaK (l++l2) l.length l2=true):∀ (fuel:Nat) (listed:Array Bool) (a:Act) (w:World),listed.size=l.length→(∀ (q:Nat) (o:Oper),l[q]?=some o→listed.getD q false=true→∀ e∈o.after,Region.binds .any e=true→listed.getD e.on false=true) →
 wpAny P .any l.toArray (Exit.then (fun a w=>wpList P (l++l2).toArray Q l2 a w) Q) fuel listed a w →
 wpAny P .any (l++l2).toArray Q (fuel+l2.length) (listed++Array.replicate l2.length false) a w:=by
 have z:∀ (i:Nat) (o:Oper),l[i]?=some o→∀ e∈o.after,Region.binds .any e=true→e.on<i:=fun i o p e n c=>by
  have r:i<l.length:=(Zi p).1
  have:=back_at (l++l2) 0 i o hb (by rw[XP r];exact p) e n c
  omega
 have f:∀ (listed:Array Bool) (j:Nat) (d:Bool),listed.size=l.length→j<l.length→(listed++Array.replicate l2.length false).getD j d=listed.getD j d:=fun listed j d m x=>by
  rw[Za,Za,Array.getElem?_append_left (by omega)]
 have A:∀ (listed:Array Bool) (j:Nat),listed.size=l.length→l.length≤j→(listed++Array.replicate l2.length false).getD j false=false:=fun listed j m x=>by
  rw[Za,Array.getElem?_append_right (by omega)]
  cases h:(Array.replicate l2.length false)[j - listed.size]? with
  | none=>rfl
  | some b =>
    have:=Array.mem_of_getElem? h
    simp at this
    simp[this.2]
 -- all of the first part are listed
 have B:∀ (fuel:Nat) (listed:Array Bool) (a:Act) (w:World),listed.size=l.length→(∀ j,j<l.length→listed.getD j false=true)→wpList P (l++l2).toArray Q l2 a w →
  wpAny P .any (l++l2).toArray Q (fuel+l2.length) (listed++Array.replicate l2.length false) a w:=fun fuel listed a w m k h=>by
  refine Qhl hb (k0:=l.length) (by simpa using ht) l2.length l.length _ _ a w (by simp) Ze (by omega) (by simp[m]) (fun j x=>?_) (by simpa using h);by_cases u:j<l.length
  ·rw[f listed j false m u,k j u];simp[u]
  ·rw[A listed j m (by omega)];simp;omega
 have t:∀ (listed:Array Bool),listed.size=l.length→Region.ready .any l.toArray listed=[]→∀ j,j<l.length→listed.getD j false=true:=fun listed m U j=>by
  induction j using Nat.strongRecOn with
  | _ j ih =>
    intro x
    cases hc:listed.getD j false with
    | true=>rfl
    | false =>
      exfalso
      have u:j<listed.size:=by omega
      have V:listed.getD j true=false:=by simp[Array.getD,u] at hc ⊢;exact hc
      have:j∈Region.ready .any l.toArray listed:=ZA.2 ⟨by simpa using x,V,l[j],by simp[x],fun e n c=>by
       have:=z j l[j] (by simp[x]) e n c
       exact ih e.on this (by omega)⟩
      rw[U] at this;cases this
 intro fuel
 induction fuel with
 | zero =>
   intro listed a w m E h;exact B 0 listed a w m (t listed m h.1) h.2
 | succ fuel ih =>
   intro listed a w m E h;by_cases k:∀ j,j<l.length→listed.getD j false=true
   ·refine B (fuel+1) listed a w m k (h.1 ?_);rw[List.eq_nil_iff_forall_not_mem]
    intro i r;obtain⟨G,D,_⟩:=ZA.1 r
    have W:i<l.length:=by simpa using G
    have:=k i W
    have v:i<listed.size:=by omega
    simp[Array.getD,v] at this D
    rw[this] at D;cases D
   ·have R:Region.ready .any l.toArray listed≠[]:=fun e=>k (t listed m e)
    have C:∀ i,i∈Region.ready .any (l++l2).toArray (listed++Array.replicate l2.length false)↔i∈Region.ready .any l.toArray listed:=fun i=>by
     rw[ZA,ZA]
     by_cases r:i<l.length
     ·have e1:(l++l2).toArray[i]?=l.toArray[i]?:=by simp[List.getElem?_append_left r]
      rw[f listed i true m r,e1]
      constructor
      ·rintro ⟨_,D,o,p,F⟩;refine⟨by simpa using r,D,o,p,fun e n c=>?_⟩
       have:=z i o (by simpa using p) e n c
       have h4:=F e n c;rwa [f listed e.on false m (by omega)] at h4
      ·rintro ⟨_,D,o,p,F⟩;refine⟨by simp;omega,D,o,p,fun e n c=>?_⟩
       have:=z i o (by simpa using p) e n c
       rw[f listed e.on false m (by omega)]
       exact F e n c
     ·constructor
      ·rintro ⟨G,D,o,p,F⟩;exfalso
       refine k fun j x=>?_;have L:(l++l2)[i]?=some o:=by simpa using p
       rw[XQ (by omega)] at L
       have:=Qd4 (l++l2) l2 l.length (i - l.length) o ht L j (by omega) (fun q=>(listed++Array.replicate l2.length false).getD q false=true)
        (fun q o' H O e n c=>by
         have N:(listed++Array.replicate l2.length false).getD q false=true:=O;by_cases I:q<l.length
         ·rw[f listed q false m I] at N
          rw[XP I] at H
          have h6:=z q o' H e n c;show (listed++Array.replicate l2.length false).getD e.on false=true;rw[f listed e.on false m (by omega)]
          exact E q o' H N e n c
         ·rw[A listed q m (by omega)] at N
          cases N) F
       rwa [f listed j false m x] at this
      ·rintro ⟨G,_⟩;exact absurd (by simpa using G) r
    rw[show fuel+1+l2.length=(fuel+l2.length)+1 by omega]
    refine⟨fun U=>?_,fun i r=>?_⟩
    ·exfalso
     apply R
     rw[List.eq_nil_iff_forall_not_mem]
     intro i r
     have:=(C i).2 r
     rw[U] at this;cases this
    ·have v:=(C i).1 r;have s:=h.2 i v;obtain⟨G,_⟩:=ZA.1 v
     have y:i<l.length:=by simpa using G
     have p:l.toArray[i]?=some l[i]:=by simp[y]
     have X:(l++l2).toArray[i]?=some l[i]:=by simp[List.getElem?_append_left y,y]
     unfold wpOp at s ⊢;rw[p] at s
     rw[X]
     simp only at s ⊢
     have hy:Region.wanted l[i] (yielded (l++l2).toArray a.tmps)=Region.wanted l[i] (yielded l.toArray a.tmps):=by
      unfold Region.wanted
      cases hgd:(l[i]).guard with
      | none=>rfl
      | some gw =>
        obtain⟨g,aa⟩:=gw
        have:=Xe.1 hg l[i] (List.getElem_mem y)
        rw[hgd] at this
        have S:g<l.length:=by simpa using this
        simp only
        have:yielded (l++l2).toArray a.tmps g=yielded l.toArray a.tmps g:=by
         unfold yielded
         have:(l++l2).toArray[g]?=l.toArray[g]?:=by simp[List.getElem?_append_left S]
         rw[this]
        rw[this]
     rw[hy]
     have nx:∀ a w,wpAny P .any l.toArray (Exit.then (fun a w=>wpList P (l++l2).toArray Q l2 a w) Q) fuel (listed.setIfInBounds i true) a w→wpAny P .any (l++l2).toArray Q (fuel+l2.length) ((listed++Array.replicate l2.length false).setIfInBounds i true) a w:=fun a w hh=>by
      have K:∀ (q:Nat) (o:Oper),l[q]?=some o→(listed.setIfInBounds i true).getD q false=true→∀ e∈o.after,Region.binds .any e=true→(listed.setIfInBounds i true).getD e.on false=true:=fun q o H O e n c=>by
       have up:∀ j,listed.getD j false=true→(listed.setIfInBounds i true).getD j false=true:=fun j x=>by
        by_cases M:i=j
        ·subst M
         have:i<listed.size:=by omega
         simp[Array.getD,this]
        ·rw[Za,Array.getElem?_setIfInBounds_ne M,← Za];exact x
       by_cases M:i=q
       ·subst M;obtain⟨_,_,o2,J,F⟩:=ZA.1 v
        have:o2=o:=by
         have h7:l[i]?=some o2:=by simpa using J
         rw[H] at h7;exact(Xn h7).symm
        subst this;exact up _ (F e n c)
       ·rw[Za,Array.getElem?_setIfInBounds_ne M,← Za] at O
        exact up _ (E q o H O e n c)
      have:=ih (listed.setIfInBounds i true) a w (by simpa using m) K hh
      have e:(listed++Array.replicate l2.length false).setIfInBounds i true=listed.setIfInBounds i true++Array.replicate l2.length false:=by
       rw[Array.setIfInBounds_append_left (by omega)]
      rw[e];exact this
     split
     ·rename_i T
      rw[Xs T] at s
      rcases s with s | s
      ·exact .inl (Oper.wp_mono nx (QlM s))
      ·exact .inr s
     ·rename_i T
      rw[Xr T] at s
      exact nx _ _ s
end
theorem Qg6 {P:Program}{l l2:List Oper}{outs:List Tmp}{gs:List (Nat × Option Bool)}{a:Act}{Q:Exit->Act->World->Prop}
 (E:Tmp->Value->World->Prop) (W:World->Prop) (R:World->World->Prop)
 (D:P.follows .mixedOrders=true)  (p:a.tmps.size=m) (c:n<=m) (u:QaY l n outs gs bs=true)
 (i:(Qcu 0 (l++l2)&&(Qbp l.length l&&QaK (l++l2) l.length l2))=true)
 (r:∀ t v w w',R w w'->E t v w->E t v w') (k:QaW E W l.toArray gs) (s:W w.drew) (x:Qak E a w.drew outs)
 (A:Qen E W R P l bs)
 (b:∀ (vs:Tmp->Value) w',W w'->(∀ t,(Qt l).contains t=true->E t (vs t) w')->wpList P (l++l2).toArray Q l2 (QM a vs (Qt l)) w') :
 (Code.region id (l++l2).toArray true).wp P Q a w:=by
 simp only[Bool.and_eq_true] at i
 obtain⟨f,h,d⟩:=i
 refine wp_region_any D ?_
 have g:wpAny P .any l.toArray (Exit.then (fun a w=>wpList P (l++l2).toArray Q l2 a w) Q) l.length (Array.replicate l.length false) a w.drew:=by
  refine QdM (E:=E) (W:=W) (R:=R) (a0:=a) (outs:=outs) (gs:=gs) (bs:=bs) (Qay (p ▸ c) u) r k A b _ _ _ _ (by simp) ?_ ⟨s,Z,Z,fun _ _=>rfl,fun t C _=>Qa6 outs x t C,?_⟩
  ·simp only[Array.toList_replicate]
   exact Zt (List.length_filter_le _ _) (by simp)
  ·intro j o t F H B;simp[Array.getD] at B
 have:=Qbu (Q:=Q) f h d l.length (Array.replicate l.length false) a w.drew (by simp) (fun q o G y=>by simp[Array.getD] at y) g
 have e:(Array.replicate l.length false++Array.replicate l2.length false:Array Bool)=Array.replicate (l++l2).toArray.size false:=by
  simp
 have z:l.length+l2.length=(l++l2).toArray.size:=by simp
 rw[e,z] at this
 exact this
theorem Qg {P:Program}{lo:List Oper}{outs:List Tmp}{gs:List (Nat × Option Bool)}{a:Act}{Q:Exit->Act->World->Prop}
 (k:Nat) (E:Tmp->Value->World->Prop) (W:World->Prop) (R:World->World->Prop)
 (q:P.follows .mixedOrders=true)  (d:a.tmps.size=m) (c:n<=m) (g:QaY (lo.take k) n outs gs bs=true)
 (f:(Qcu 0 lo&&(Qbp (lo.take k).length (lo.take k)&&QaK lo (lo.take k).length (lo.drop k)))=true)
 (o:∀ t v w w',R w w'->E t v w->E t v w') (e:QaW E W (lo.take k).toArray gs) (p:W w.drew) (i:Qak E a w.drew outs)
 (j:Qen E W R P (lo.take k) bs)
 (b:∀ ops (vs:Tmp->Value) w',W w'->(∀ t,(Qt (lo.take k)).contains t=true->E t (vs t) w')->wpList P ops Q (lo.drop k) (QM a vs (Qt (lo.take k))) w') :
 (Code.region id lo.toArray true).wp P Q a w:=by
 have h:=Qg6 (id:=id) (l:=lo.take k) (l2:=lo.drop k) (Q:=Q) E W R q d c g (by rw[List.take_append_drop];exact f) o e p i j (b _);rwa [List.take_append_drop] at h
def Ql0 (L:List (Tmp × (Value->World->Prop))) (T:List (Tmp × Value)) (t:Tmp) (v:Value) (w:World):Prop :=
 match L.lookup t with
 | some p=>p v w
 | none=>v=(T.lookup t).getD undef
def QnD (v:Value) (w w':World):List (Tmp × (Value->World->Prop))->Prop
 | []=>True
 | p::l=>(p.2 v w->p.2 v w')/\QnD v w w' l
theorem Ql0.keep {T:List (Tmp × Value)}{t:Tmp}{v:Value}{w w':World}:∀ {L:List (Tmp × (Value->World->Prop))},Ql0 L T t v w->QnD v w w' L->Ql0 L T t v w'
 | [],h,_=>h
 | (s,p)::l,h,k=>by
   have a:=fun h=>Ql0.keep (T:=T) (t:=t) (L:=l) h k.2;unfold Ql0 at h a |-;simp only[List.lookup_cons] at h |-
   cases e:t==s with
   | true=>rw[e] at h;exact k.1 h
   | false=>rw[e] at h;exact a h
def Qmj (S S':Nat->Bool) (t:Tmp) (v:Value) (w w':World):List (Tmp × ((Nat->Bool)->Value->World->Prop))->Prop
 | []=>True
 | p::l=>(t=p.1->p.2 S v w->p.2 S' v w')/\Qmj S S' t v w w' l
theorem QmV {S a:Nat->Bool}{t:Tmp}{v:Value}{w w':World}{R:Prop}:∀ {L:List (Tmp × ((Nat->Bool)->Value->World->Prop))},Qmj S a t v w w' L->(match L.lookup t with | some p=>p S v w | none=>R)->(match L.lookup t with | some p=>p a v w' | none=>R)
 | [],_,h=>h
 | (s,p)::l,k,h=>by
   have b:=QmV (R:=R) (L:=l) k.2;simp only[List.lookup_cons] at h |-
   cases e:t==s with
   | true=>rw[e] at h;exact k.1 (by simpa using e) h
   | false=>rw[e] at h;exact b h
structure Bx (w wr:World) (k r:Int) (a:Option Addr) (len c:Nat):Prop where
 bel:Below w.heap.size w wr
 box:wr.heap[w.heap.size]?=some (.cells #[Iv k,Iv r,.slice a len c] 105 (0,0))
theorem Bx.start (w:World) (k r:Int) (a:Option Addr) (len c:Nat):Bx w (w.alloc (.cells #[Iv k,Iv r,.slice a len c] 105)) k r a len c :=
 ⟨(Below.refl _ w).alloc Ze _,Qe w _ _⟩
theorem Bx.below {wr:World}{k r:Int}{len:Nat}(h:Bx w wr k r a len c) (b:Below wr.heap.size wr w'):Bx w w' k r a len c :=
 ⟨h.bel.trans (b.mono h.bel.size),QaT h.box b⟩
theorem Bx.alloc {wr:World}{k r:Int}{len:Nat}(h:Bx w wr k r a len c) (o:Obj):Bx w (wr.alloc o) k r a len c :=
 h.below ((Below.refl _ wr).alloc Ze _)
theorem Qet {α:Type}(f:α->Nat) (l:List α) (i:Nat) (x:α) (h:l[i]?=some x):((l.map f).take (i+1)).sum=((l.map f).take i).sum+f x:=by
 rw[XV,XS,h]
 simp
def QdZ (f:Nat) (n:Nat):Prop:=∀ (t:TT n) (a:Option Addr) (c:Nat) (regs:Int) (w:World),TIn w All t a->t.count<=100000 ->
 Calls prog f #[Tv t a c,Iv regs] w fun e w'=>e=.returned (Iv (t.fault regs))/\Below w.heap.size w w'
section
variable {w0 w w':World}{Bs:List (Nat × Array Value × TypeId)}
def QaH (c:Array Value) (j:Nat) (vs:List Value):Array Value:=(c.toList.take j++(vs++c.toList.drop (j+vs.length))).toArray
theorem QeU (c:Array Value) (j:Nat) (v:Value) (b:List Value) (h:j+(v::b).length<=c.size):QaH (c.setIfInBounds j v) (j+1) b=QaH c j (v::b):=by
 unfold QaH;congr 1
 have d:j<c.toList.length:=by simp at h |-;omega
 simp only[Array.toList_setIfInBounds]
 rw[List.take_set,List.drop_set_of_lt (by omega),XV,Zg d]
 simp only[Option.toList,List.length_cons]
 have:(c.toList.take j++[c.toList[j]]).set j v=c.toList.take j++[v]:=by
  rw[List.set_append_right _ _ (by simp;omega)]
  have a:j<c.size:=by simpa using d
  simp[Nat.min_eq_left (Nat.le_of_lt a)]
 rw[this,Nat.add_assoc,Nat.add_comm 1]
 simp
end
section
variable {n:Nat}{a:Act}{L:List (Tmp × Value)}{w0 w:World}{Bs:List (Nat × Array Value × TypeId)}{Q:Exit->Act->World->Prop}{ops:Array Oper}{rest:List Oper}{t:Tmp}{u v:Value}{ty ty2 ty3:TypeId}{pos:String}{aft:Array Edge}{gd:Option (Nat × Bool)}{x y z:Operand}{g tg:Nat}{want b:Bool}
theorem Qlu {w:World}{c:Array Value}{t:TypeId}(h:Blk w B c t) (j m:Nat) (e:Nat.ble (j+m) c.size=true):w.rangeAt B j ((c.toList.drop j).take m):=fun k v a=>by
 have b:k<((c.toList.drop j).take m).length:=(Zi a).1;have d:k<m:=by simp at b;omega
 rw[XR,Xs d,List.getElem?_drop] at a
 exact Qb h (j+k) v (by simpa using a)
end
theorem XM:type_of% @Nat.one_mul:=@Nat.one_mul
theorem Qcm {B:Nat}{t:TypeId}:∀ (vs:List Value) (w:World) (c:Array Value) (j:Nat),Blk w B c t->j+vs.length<=c.size->Blk (w.setCells B j vs) B (QaH c j vs) t
 | [],w,c,j,h,hs=>by
   have:QaH c j []=c:=by unfold QaH;simp
   rw[this];exact h
 | v::vs,w,c,j,h,hs=>by
   have:=Qcm vs (w.setCell ⟨B,j,none⟩ v) (c.setIfInBounds j v) (j+1) (Qh h j v) (by simp at hs |-;omega)
   rw[QeU _ _ _ _ hs] at this
   exact this
theorem QJ {B b:Nat}(a:B<=b):∀ (vs:List Value) (w w0:World) (j:Nat),Below B w0 w->Below B w0 (w.setCells b j vs)
 | [],w,w0,j,h=>h
 | v::vs,w,w0,j,h=>QJ a vs _ _ _ (h.setCell a v)
theorem Qdk (w:World) (b j:Nat) (c:List Value):w.grownBy (w.setCells b j c) (some b):=by
 have h:=QJ (Xb b) c w w j (Below.refl 0 w);exact⟨h.os,h.tape,h.output,h.size,fun k d a=>QF (fun e=>a (by rw[e])) c j w⟩
section
variable {α:Type}{A:Lay α}{e:TypeId}{w:World}{lo g n:Nat}{l:List α}{xs:List Value}
theorem Qap.fill (h:Qap A e w lo (.slice (some ⟨g,0,none⟩) l.length n) l xs){x:α}(q:A.In w (fun k=>lo<=k/\k≠g) x ds) (m:l.length<n) :
 Qap A e (w.setCells g (l.length*A.size) ds) lo (.slice (some ⟨g,0,none⟩) (l.length+1) n) (l++[x]) (xs++ds):=by
 have b:=A.len q;refine Qap.push h (Yc q (fun k p _=>⟨p.1,fun e=>p.2 (by simpa[Value.ownBlock] using e.symm)⟩)) (Qdk w g _ ds) (.inl Z) ?_;obtain⟨o,r⟩:=h.own
 rcases r with ⟨d,_⟩|⟨y,j,c,d,s,u,t,i,f,a⟩
 ·simp at d
 ·simp only[Value.slice.injEq,Option.some.injEq,Addr.mk.injEq,and_true,true_and] at d
  obtain⟨rfl,rfl⟩:=d
  have v:(l.length+1)*A.size<=n*A.size:=Xp _ m;rw[Nat.add_mul,XM] at v
  refine⟨by rw[List.length_append,o,b,Nat.add_mul,XM],.inr ⟨g,n,QaH c (l.length*A.size) ds,Z,s,Qcm ds w c _ u (by omega),m,i,?_,?_⟩⟩
  ·rw[<-f];unfold QaH;simp;omega
  ·unfold QaH;rw[a,Nat.add_mul,XM]
   rw[show l.length*A.size+A.size=(xs++ds).length by rw[List.length_append,o,b],List.toList_toArray,<-List.append_assoc]
   exact List.take_left' Z
end
section
variable {P:Program}{Q:Exit->Act->World->Prop}
def Qgd (l:List Oper) (S:Nat->Bool):Prop:=∀ (j:Nat) (o:Oper),l[j]?=some o->S j=true->∀ e∈o.after,Region.binds .any e=true->S e.on=true
def Qm8 (o:Oper) (S:Nat->Bool):Prop:=∀ e∈o.after,Region.binds .any e=true->S e.on=true
def Qcv (i:Nat) (S:Nat->Bool):Nat->Bool:=fun j=>j==i||S j
end
section
variable (E:Tmp->Value->World->Prop) (W:(Nat->Bool)->World->Prop) (R:World->World->Prop) (P:Program) (l:List Oper)
def ZJ (ops:Array Oper):List (Nat × Option Bool)->Prop
 | []=>True
 | (g,c)::r=>(∀ t,(ops[g]?).bind (·.dst)=some t->∀ v w,E t v w->match c with | some b=>v=.bool b | none=>v=undef)/\ZJ ops r
end
section
variable {P:Program}{E:Tmp->Value->World->Prop}{W:(Nat->Bool)->World->Prop}{R:World->World->Prop}
theorem QdP {a:Array Oper}:∀ (gs:List (Nat × Option Bool)),ZJ E a gs->∀ g c,gs.lookup g=some c->∀ t,(a[g]?).bind (·.dst)=some t->∀ v w,E t v w->match c with | some b=>v=.bool b | none=>v=undef
 | [],_,_,_,h=>by simp at h
 | (g',c')::r,h,g,c,hl=>by
   by_cases e:g=g'
   ·subst e;simp at hl;subst hl;exact h.1
   ·have d:(g==g')=false:=by simpa using e
    simp[List.lookup_cons,d] at hl;exact QdP r h.2 g c hl
end
def Qm0 (l:List Oper) (S:Nat->Bool) (t:Tmp):Prop:=t∈Qt l->∃ j o,l[j]?=some o/\o.dst=some t/\S j=true
def PEx (PX:List PanicEntry->World->Prop):Exit->Act->World->Prop:=fun e _ w=>∃ ch,e=.panic ch/\PX ch w
theorem Qn3 {o:Oper}{a:Act}{K f:Act->World->Prop}{PX:List PanicEntry->World->Prop}{Q:Exit->Act->World->Prop}(h:∀ a w,K a w->f a w) (d:∀ e w,PEx PX e a w->Q e a w)
 (b:o.wp P a w K (PEx PX)):o.wp P a w f Q:=by
 unfold Oper.wp at *;generalize (execOp a.eval o).run P w=r at *
 cases r with
 | ok n w' =>
   cases n<;>simp only[Oper.upon] at b |- <;>
    first
     | exact h _ _ b
     | exact d _ _ b
     | exact Xm b (fun e g c=>by cases e<;>first | exact h _ _ c | exact d _ _ c | (obtain⟨x,y,i,c,_⟩:=c;cases c))
     | exact Rows.mono b (fun _ _ c=>h _ _ c)
 | halt x w'=>cases x<;>simp only[Oper.upon] at b |-<;>first | exact d _ _ b | exact b
section
variable (E:(Nat->Bool)->Tmp->Value->World->Prop) (W:(Nat->Bool)->World->Prop) (PX:List PanicEntry->World->Prop) (P:Program) (l:List Oper)
def QiN (i:Nat) (o:Oper):Prop :=
 ∀ (S:Nat->Bool) a w,S i=false->Qm8 o S->Qgd l S->W S w->Qeu (E S) a w (Qfn o)->∀ K:Act->World->Prop,(∀ v w',(∀ t,Qm0 l S t->E S t (a.tmps.getD t undef) w->E (Qcv i S) t (a.tmps.getD t undef) w')->W (Qcv i S) w'->EO (E (Qcv i S)) o.dst v w'->K (a.put o.dst v) w')->o.wp P a w K (PEx PX)
def Qgk (i:Nat) (o:Oper):Prop:=∀ (S:Nat->Bool) (a:Act) w,S i=false->Qm8 o S->Qgd l S->W S w->(W (Qcv i S) w/\EO (E (Qcv i S)) o.dst undef w/\∀ t,Qm0 l S t->E S t (a.tmps.getD t undef) w->E (Qcv i S) t (a.tmps.getD t undef) w)
structure QlQ (outs:List Tmp) (a0:Act) (listed:Array Bool) (a:Act) (w:World):Prop where
 world:W (fun j=>listed.getD j false) w
 closed:Qgd l (fun j=>listed.getD j false)
 defers:a.defers=a0.defers
 size:a.tmps.size=a0.tmps.size
 outer:∀ t,t ∉ Qt l->a.tmps[t]?=a0.tmps[t]?
 outs:∀ t∈outs,t ∉ Qt l->E (fun j=>listed.getD j false) t (a.tmps.getD t undef) w
 known:∀ j o t,l[j]?=some o->o.dst=some t->listed.getD j false=true->E (fun j=>listed.getD j false) t (a.tmps.getD t undef) w
def AllOkY:Nat->List Oper->List Bool->Prop
 | i,o::r,true::bs=>QiN E W PX P l i o/\AllOkY (i+1) r bs
 | i,o::r,false::bs=>Qgk E W l i o/\AllOkY (i+1) r bs
 | _,_,_=>True
end
section
variable {P:Program}{E:(Nat->Bool)->Tmp->Value->World->Prop}{W:(Nat->Bool)->World->Prop}{PX:List PanicEntry->World->Prop}
theorem QfJ {a:List Oper}(gs:List (Nat × Option Bool)):∀ (l:List Oper) (k:Nat) (bs:List Bool),Qla gs l bs=true->AllOkY E W PX P a k l bs->∀ (i:Nat) (o:Oper),l[i]?=some o->(onB gs o true=true/\QiN E W PX P a (k+i) o)\/(onB gs o false=true/\Qgk E W a (k+i) o)
 | [],_,_,_,_,_,_,h=>by simp at h
 | _::_,_,[],h,_,_,_,_=>by simp[Qla] at h
 | x::l,k,b::bs,h,ha,i,o,ho=>by
   simp only[Qla,Bool.and_eq_true] at h
   cases i with
   | zero =>
     simp at ho;subst ho
     cases b with
     | true=>exact .inl ⟨h.1,ha.1⟩
     | false=>exact .inr ⟨h.1,ha.1⟩
   | succ i =>
     simp at ho
     have e:k+(i+1)=k+1+i:=by omega
     rw[e]
     cases b with
     | true=>exact QfJ gs l (k+1) bs h.2 ha.2 i o ho
     | false=>exact QfJ gs l (k+1) bs h.2 ha.2 i o ho
theorem Qbq {l:List Oper}{outs:List Tmp}{gs:List (Nat × Option Bool)}{a0:Act}{Q:Exit->Act->World->Prop}
 (hX:∀ ch a w,a.defers=a0.defers->PX ch w->Q (.panic ch) a w) (hB:QaY l a0.tmps.size outs gs bs=true) (hG:∀ S,ZJ (E S) l.toArray gs) (hA:AllOkY E W PX P l 0 l bs)
 (ag:∀ (vs:Tmp->Value) (S:Nat->Bool) w',(∀ j,j<l.length->S j=true)->W S w'->(∀ t,(Qt l).contains t=true->E S t (vs t) w')->Q .normal (QM a0 vs (Qt l)) w') :
 ∀ (fuel:Nat) (listed:Array Bool) (a:Act) (w:World),listed.size=l.length->(listed.toList.filter (·==false)).length<=fuel->QlQ E W l outs a0 listed a w ->
  wpAny P .any l.toArray Q fuel listed a w:=by
 simp only[QaY,Bool.and_eq_true] at hB
 obtain⟨⟨⟨⟨⟨ao,aw⟩,ad⟩,am⟩,an⟩,ay⟩:=hB
 have ah:∀ (listed:Array Bool) (a:Act) (w:World),listed.size=l.length->Region.ready .any l.toArray listed=[]->QlQ E W l outs a0 listed a w->Q .normal a w:=by
  intro listed a w hs L f
  have M:∀ j,j<l.length->listed.getD j false=true:=by
   intro j
   induction j using Nat.strongRecOn with
   | _ j ih =>
     intro r
     cases q:listed.getD j false with
     | true=>rfl
     | false =>
       exfalso
       have:j∈Region.ready .any l.toArray listed:=by
        unfold Region.ready;refine List.mem_filter.2 ⟨by simpa using r,?_⟩
        have e1:listed.getD j true=false:=by
         have au:j<listed.size:=by omega
         simp[Array.getD,au] at q |-;exact q
        have e2:l.toArray[j]?=some l[j]:=by simp[r]
        rw[e1,e2]
        simp only[Bool.not_false,Bool.true_and,Option.map_some,Option.getD_some]
        rw[Array.all_eq_true_iff_forall_mem]
        intro e H
        cases K:Region.binds .any e with
        | false=>rfl
        | true =>
          have:=back_at l 0 j l[j] ay (by simp[r]) e H K
          simp only[Bool.not_true,Bool.false_or]
          exact ih e.on (by omega) (by omega)
       rw[L] at this
       cases this
  have aj:∀ t∈Qt l,E (fun j=>listed.getD j false) t (a.tmps.getD t undef) w/\t<a0.tmps.size:=by
   intro t s;obtain⟨o,ho,y⟩:=List.mem_filterMap.1 s
   obtain⟨j,r⟩:=List.getElem?_of_mem ho
   have C:j<l.length:=by
    rcases Nat.lt_or_ge j l.length with h | h
    ·exact h
    ·rw[Xk h] at r;cases r
   exact⟨f.known j o t r y (M j C),by simpa using Xe.1 ad t s⟩
  have H:a=QM a0 (fun t=>a.tmps.getD t undef) (Qt l):=by
   have e1:a.tmps=(QM a0 (fun t=>a.tmps.getD t undef) (Qt l)).tmps:=by
    refine Array.ext (by rw[QcK,f.size]) fun t V U=>?_;have h3:t<a0.tmps.size:=by rw[<-f.size];exact V
    have:=QfK (fun t=>a.tmps.getD t undef) (Qt l) a0 t h3
    rw[Xj U] at this
    by_cases hm:t∈Qt l
    ·rw[Xs hm] at this
     simp only[Option.some.injEq] at this
     rw[this];simp[Array.getD,V]
    ·rw[Xr hm,<-f.outer t hm,Xj V] at this
     exact(Xn this).symm
   have e2:a.defers=(QM a0 (fun t=>a.tmps.getD t undef) (Qt l)).defers:=by rw[Qbl,f.defers]
   cases a with
   | mk t d =>
     simp only at e1 e2
     generalize hp:QM a0 (fun x=>t.getD x undef) (Qt l)=p at e1 e2 |-
     cases p;simp only at e1 e2;rw[e1,e2]
  rw[H]
  exact ag _ _ _ M f.world fun t s=>(aj t (by simpa using s)).1
 intro fuel
 induction fuel with
 | zero =>
   intro listed a w hs hf f
   have L:Region.ready .any l.toArray listed=[]:=by
    rw[List.eq_nil_iff_forall_not_mem]
    intro i hi;obtain⟨V,U⟩:=List.mem_filter.1 hi
    have C:i<l.length:=by simpa using V
    simp only[Bool.and_eq_true,Bool.not_eq_true'] at U
    have:listed[i]'(by omega)=false:=by
     have:=U.1;simp[Array.getD,show i<listed.size by omega] at this;exact this
    have hm:false∈listed.toList.filter (·==false):=List.mem_filter.2 ⟨by rw[<-this];simp,by simp⟩
    have:=List.length_pos_of_mem hm
    omega
   exact⟨L,ah listed a w hs L f⟩
 | succ fuel ih =>
   intro listed a w hs hf f;refine⟨fun L=>ah listed a w hs L f,fun i hi=>?_⟩
   obtain⟨V,U⟩:=List.mem_filter.1 hi
   have C:i<l.length:=by simpa using V
   simp only[Bool.and_eq_true,Bool.not_eq_true'] at U
   obtain⟨ak,m⟩:=U
   have J:i<listed.size:=by omega
   have T:listed[i]=false:=by simp[Array.getD,J] at ak;exact ak
   have ho:l.toArray[i]?=some l[i]:=by simp[C]
   have n:l[i]?=some l[i]:=by simp[C]
   generalize a2:l[i]=o at ho n;rw[ho] at m
   simp only[Option.map_some,Option.getD_some] at m
   rw[Array.all_eq_true_iff_forall_mem] at m
   have z:∀ t∈o.looksAt l.toArray,E (fun j=>listed.getD j false) t (a.tmps.getD t undef) w:=by
    intro t s
    have:=Xe.1 (Xe.1 am o (Zm n)) t s
    rw[Bool.or_eq_true] at this
    rcases this with h | h
    ·simp only[Bool.and_eq_true,Bool.not_eq_true'] at h
     exact f.outs t (by simpa using h.1) (by simpa using h.2)
    ·obtain⟨k,hk,h⟩:=Array.any_eq_true.1 h
     simp only[Bool.and_eq_true,beq_iff_eq] at h
     obtain⟨q,y⟩:=h
     have N:=m _ (Array.getElem_mem hk);rw[q] at N
     simp only[Bool.not_true,Bool.false_or] at N
     generalize o.after[k]=e at *;obtain⟨oj,aq,ar⟩:=Option.bind_eq_some_iff.1 y
     exact f.known e.on oj t (by simpa using aq) ar N
   have az:Qeu (E (fun j=>listed.getD j false)) a w (Qfn o):=Qem _ fun t s=>z t (by
    unfold Oper.looksAt;exact List.mem_append_left _ s)
   have hw:∀ b,onB gs o b=true->Region.wanted o (yielded l.toArray a.tmps)=b:=by
    intro b q;unfold onB at q;unfold Region.wanted
    cases hg:o.guard with
    | none=>rw[hg] at q;simp only at q |-;exact q.symm
    | some gw =>
      obtain⟨g,a1⟩:=gw
      rw[hg] at q
      simp only at q |-
      cases N:gs.lookup g with
      | none=>rw[N] at q;cases q
      | some c =>
        rw[N] at q
        simp only[beq_iff_eq] at q
        have hy:yielded l.toArray a.tmps g=c:=by
         unfold yielded;have ap:(g,c)∈gs:=mem_of_lookup gs g c N;have G:=Xe.1 ao _ ap
         cases y:(l.toArray[g]?).bind (·.dst) with
         | none=>rw[y] at G;cases G
         | some t =>
           have hE:=z t (by unfold Oper.looksAt;rw[hg];simp only[y];simp);have I:=QdP gs (hG _) g c N t y _ _ hE;obtain⟨og,ax,av⟩:=Option.bind_eq_some_iff.1 y
           have ac:t<a.tmps.size:=by
            rw[f.size]
            have:=Xe.1 ad t (List.mem_filterMap.2 ⟨og,Zm (by simpa using ax),av⟩)
            simpa using this
           have s:a.tmps[t]?=some (a.tmps.getD t undef):=by simp[Array.getD,ac]
           simp only[Option.bind_some,s]
           cases c with
           | none=>simp only at I;rw[I];rfl
           | some b=>simp only at I;rw[I]
        rw[hy,q]
   have R:((listed.setIfInBounds i true).toList.filter (·==false)).length<=fuel:=by
    have h3:=filter_set listed.toList i (by simpa using J) (by simpa using T);rw[Array.toList_setIfInBounds]
    omega
   have u:(fun j=>(listed.setIfInBounds i true).getD j false)=Qcv i (fun j=>listed.getD j false):=by
    funext j
    unfold Qcv;by_cases e:j=i
    ·subst e;simp[Array.getD,J]
    ·have X:i≠j:=fun x=>e x.symm;rw[Za,Array.getElem?_setIfInBounds_ne X,<-Za]
     simp[e]
   have D:Qm8 o (fun j=>listed.getD j false):=fun e H q=>by
    have:=m e H
    rw[q] at this
    simpa using this
   have ai:(fun j=>listed.getD j false) i=false:=by simp[Array.getD,J,T]
   have O:∀ v w',W (Qcv i (fun j=>listed.getD j false)) w'->(∀ t,Qm0 l (fun j=>listed.getD j false) t->E (fun j=>listed.getD j false) t (a.tmps.getD t undef) w->E (Qcv i (fun j=>listed.getD j false)) t (a.tmps.getD t undef) w')->EO (E (Qcv i (fun j=>listed.getD j false))) o.dst v w'->QlQ E W l outs a0 (listed.setIfInBounds i true) (a.put o.dst v) w':=by
    intro v w' ab A I
    have F:∀ t,o.dst≠some t->(a.put o.dst v).tmps[t]?=a.tmps[t]?:=by
     intro t s
     cases y:o.dst with
     | none=>rfl
     | some d =>
       have:d≠t:=fun e=>s (by rw[y,e])
       simp[Act.put,this]
    have B:∀ (b c:Array Value) (t:Nat),b[t]?=c[t]?->b.getD t undef=c.getD t undef:=by
     intro b c t h;rw[Za,Za,h]
    refine⟨by rw[u];exact ab,?_,?_,?_,?_,?_,?_⟩
    ·rw[u]
     intro j oj r hS e H K;unfold Qcv at hS |-;by_cases e':j=i
     ·subst e';rw[n] at r
      obtain rfl:=Xn r
      have:=D e H K
      simp only at this
      simp[this]
     ·have:(j==i)=false:=by simpa using e'
      rw[this,Bool.false_or] at hS
      have:=f.closed j oj r hS e H K
      simp only at this
      simp[this]
    ·rw[<-f.defers];cases o.dst<;>rfl
    ·rw[<-f.size];cases o.dst<;>simp[Act.put]
    ·intro t s;rw[F t (fun e=>s (List.mem_filterMap.2 ⟨o,Zm n,e⟩)),f.outer t s]
    ·intro t s hn;rw[B _ _ t (F t (fun e=>hn (List.mem_filterMap.2 ⟨o,Zm n,e⟩)))]
     rw[u]
     exact A _ (fun h=>absurd h hn) (f.outs t s hn)
    ·intro j oj t r y ae;by_cases aa:j=i
     ·subst aa;rw[n] at r
      obtain rfl:=Xn r
      have ac:t<a.tmps.size:=by
       rw[f.size]
       have:=Xe.1 ad t (List.mem_filterMap.2 ⟨o,Zm n,y⟩)
       simpa using this
      rw[y] at I |-
      have:(a.put (some t) v).tmps.getD t undef=v:=by simp[Act.put,Array.getD,ac]
      rw[this,u];exact I
     ·have X:o.dst≠some t:=fun e=>aa (nodup_apart l j i oj o t aw r n y e);rw[B _ _ t (F t X)]
      have af:i≠j:=fun e=>aa e.symm
      have al:listed.getD j false=true:=by
       rw[Za,Array.getElem?_setIfInBounds_ne af] at ae
       rw[Za];exact ae
      rw[u]
      exact A _ (fun _=>⟨j,oj,r,y,al⟩) (f.known j oj t r y al)
   unfold wpOp;rw[ho]
   simp only
   rcases QfJ gs l 0 bs an hA i o n with ⟨h,A⟩|⟨h,A⟩
   ·rw[hw true h,Xs Z]
    refine .inl (Qn3 (fun a' w' hh=>hh) (fun e w' H=>by obtain⟨ch,rfl,hp⟩:=H;exact hX ch _ _ f.defers hp) ((XK i ▸ A) (fun j=>listed.getD j false) a w ai D f.closed f.world az _ fun v w' L ab I=>?_));exact ih _ _ _ (by simpa using hs) R (O v w' ab L I)
   ·rw[hw false h]
    simp only[Bool.false_eq_true,if_false]
    have hO:=(XK i ▸ A) (fun j=>listed.getD j false) a w ai D f.closed f.world;exact ih _ _ _ (by simpa using hs) R (O undef w hO.1 hO.2.2 hO.2.1)
theorem QcO {l:List Oper}{outs:List Tmp}{gs:List (Nat × Option Bool)}{a:Act}{Q:Exit->Act->World->Prop}
 (E:(Nat->Bool)->Tmp->Value->World->Prop) (W:(Nat->Bool)->World->Prop) (PX:List PanicEntry->World->Prop) (p:∀ ch a' w,a'.defers=a.defers->PX ch w->Q (.panic ch) a' w)
 (v:P.follows .mixedOrders=true)  (f:a.tmps.size=m) (c:n<=m) (i:QaY l n outs gs bs=true)
 (e:∀ S,ZJ (E S) l.toArray gs) (s:W (fun _=>false) w.drew) (k:Qak (E (fun _=>false)) a w.drew outs)
 (q:AllOkY E W PX P l 0 l bs)
 (b:∀ (vs:Tmp->Value) (S:Nat->Bool) w',(∀ j,j<l.length->S j=true)->W S w'->(∀ t,(Qt l).contains t=true->E S t (vs t) w')->Q .normal (QM a vs (Qt l)) w') :
 (Code.region id l.toArray true).wp P Q a w:=by
 refine wp_region_any v ?_
 have d:(fun j=>(Array.replicate l.length false).getD j false)=fun _=>false:=by
  funext j
  rw[Za,Array.getElem?_replicate]
  split<;>rfl
 have u:l.toArray.size=l.length:=by simp
 rw[u]
 refine Qbq p (Qay (f ▸ c) i) e q b _ _ _ _ (by simp) ?_ ⟨by rw[d];exact s,(by rw[d];intro j o _ h;cases h),Z,Z,fun _ _=>rfl,(fun t g _=>by rw[d];exact Qa6 outs k t g),?_⟩
 ·simp only[Array.toList_replicate]
  exact Zt (List.length_filter_le _ _) (by simp)
 ·intro j o t y x r;simp[Array.getD] at r
end
section
variable (E:Tmp->Value->World->Prop) (W:World->Prop) (R:World->World->Prop) (PX:List PanicEntry->World->Prop) (P:Program)
def Qlo (o:Oper):Prop :=
 ∀ a w,W w->Qeu E a w (Qfn o)->∀ K:Act->World->Prop,(∀ v w',R w w'->W w'->EO E o.dst v w'->K (a.put o.dst v) w')->o.wp P a w K (PEx PX)
def AllOkC:List Oper->List Bool->Prop
 | o::r,true::bs=>Qlo E W R PX P o/\AllOkC r bs
 | o::r,false::bs=>(∀ w,W w->EO E o.dst undef w)/\AllOkC r bs
 | _,_=>True
end
section
variable {P:Program}{E:Tmp->Value->World->Prop}{W:World->Prop}{R:World->World->Prop}{PX:List PanicEntry->World->Prop}
theorem QgD {m:List Oper}(c:∀ t v w w',R w w'->E t v w->E t v w'):∀ (l:List Oper) (bs:List Bool) (k:Nat),AllOkC E W R PX P l bs->AllOkY (fun _=>E) (fun _=>W) PX P m k l bs
 | [],bs,k,h=>by cases bs<;>trivial
 | o::r,[],k,h=>trivial
 | o::r,true::bs,k,h=>⟨fun S a w _ _ _ b j K g=>h.1 a w b j K (fun v w' d e f=>g v w' (fun t _ i=>c t _ w w' d i) e f),QgD c r bs (k+1) h.2⟩
 | o::r,false::bs,k,h=>⟨fun S a w _ _ _ b=>⟨b,h.1 w b,fun _ _ h=>h⟩,QgD c r bs (k+1) h.2⟩
theorem Qde {l:List Oper}{outs:List Tmp}{gs:List (Nat × Option Bool)}{a:Act}{Q:Exit->Act->World->Prop}
 (E:Tmp->Value->World->Prop) (W:World->Prop) (R:World->World->Prop) (PX:List PanicEntry->World->Prop) (i:∀ ch a' w,a'.defers=a.defers->PX ch w->Q (.panic ch) a' w)
 (p:P.follows .mixedOrders=true)  (f:a.tmps.size=m) (c:n<=m) (g:QaY l n outs gs bs=true)
 (k:∀ t v w w',R w w'->E t v w->E t v w') (e:ZJ E l.toArray gs) (d:W w.drew) (h:Qak E a w.drew outs)
 (j:AllOkC E W R PX P l bs)
 (b:∀ (vs:Tmp->Value) w',W w'->(∀ t,(Qt l).contains t=true->E t (vs t) w')->Q .normal (QM a vs (Qt l)) w') :
 (Code.region id l.toArray true).wp P Q a w :=
 QcO (fun _=>E) (fun _=>W) PX i p f c g (fun _=>e) d h (QgD k l bs 0 j) (fun vs _ w' _ d o=>b vs w' d o)
end
section
variable {P:Program}{E:Tmp->Value->World->Prop}{W:World->Prop}{R:World->World->Prop}
theorem eoB (o:Option Tmp)(a:W w) (h:EO E o v w):EO (fun t v w=>W w/\E t v w) o v w:=by
 cases o with
 | none=>exact h
 | some t=>exact⟨a,h⟩
theorem knB (a:Act) (w:World):∀ l,Qeu (fun t v w=>W w/\E t v w) a w l->Qeu E a w l
 | [],h=>h
 | _::r,h=>⟨h.1.2,knB a w r h.2⟩
theorem Qnl (d:∀ t v w w',R w w'->E t v w->E t v w'):∀ (l:List Oper) (bs:List Bool),Qen E W R P l bs->AllOkC (fun t v w=>W w/\E t v w) W (fun w w'=>R w w'/\W w') (fun _ _=>False) P l bs
 | [],bs,h=>by cases bs<;>trivial
 | o::r,[],h=>trivial
 | o::r,true::bs,h=>⟨fun a w b i K g=>wpq (fun _ _ h=>h) (h.1 a w b (knB a w _ i) K (fun v w' e c f=>g v w' ⟨e,c⟩ c (eoB o.dst c f))),Qnl d r bs h.2⟩
 | o::r,false::bs,h=>⟨fun w b=>eoB o.dst b (h.1 w b),Qnl d r bs h.2⟩
theorem guB {a:Array Oper}:∀ gs,QaW E W a gs->ZJ (fun t v w=>W w/\E t v w) a gs
 | [],h=>h
 | _::r,h=>⟨fun t c v w b=>h.1 t c v w b.1 b.2,guB r h.2⟩
theorem ouB {a:Act}{w:World}(b:W w):∀ l,Qak E a w l->Qak (fun t v w=>W w/\E t v w) a w l
 | [],h=>h
 | _::r,h=>⟨⟨b,h.1⟩,ouB b r h.2⟩
theorem QaQ {l:List Oper}{outs:List Tmp}{gs:List (Nat × Option Bool)}{a:Act}{Q:Exit->Act->World->Prop}
 (E:Tmp->Value->World->Prop) (W:World->Prop) (R:World->World->Prop)
 (u:P.follows .mixedOrders=true)  (i:a.tmps.size=m) (c:n<=m) (o:QaY l n outs gs bs=true)
 (f:∀ t v w w',R w w'->E t v w->E t v w') (g:QaW E W l.toArray gs) (d:W w.drew) (p:Qak E a w.drew outs)
 (q:Qen E W R P l bs)
 (b:∀ (vs:Tmp->Value) w',W w'->(∀ t,(Qt l).contains t=true->E t (vs t) w')->Q .normal (QM a vs (Qt l)) w') :
 (Code.region id l.toArray true).wp P Q a w :=
 Qde _ W _ (fun _ _=>False) (fun _ _ _ _ h=>h.elim) u i c o (fun t v w w' e r=>⟨e.2,f t v w w' e.1 r.2⟩) (guB gs g) d (ouB d outs p) (Qnl f l bs q) (fun vs w' k s=>b vs w' k (fun t j=>(s t j).2))
end
theorem QmW (w:World) (c:List Value) (t:TypeId):∀ (j:Nat) (u:Value),c[j]?=some u->(w.alloc (.cells c.toArray t)).cell? ((⟨w.heap.size,0,none⟩:Addr).add j)=some u:=by
 intro j u h;have a:c.toArray[j]?=some u:=by simpa using h
 rw[Go.WideShapes.add_plain,XK]
 exact Qb (Qe w c.toArray t) j u a
def Qi (i:Nat):Code->Option Code
 | .region k ops d=>if k=i then some (.region k ops d) else none
 | .loop c=>Qi i c
 | .seq a b=>match Qi i a with
   | some c=>some c
   | none=>Qi i b
 | .block _ c=>Qi i c
 | .scope c=>Qi i c
 | .cond _ a b=>match Qi i a with
   | some c=>some c
   | none=>Qi i b
 | _=>none
def Qan (k:Nat):Code->List Oper
 | .region _ ops _=>ops.toList.drop k
 | _=>[]
theorem Qk {p:Addr}(h:w.cell? p=some v) (b:Below w.heap.size w w'):w'.cell? p=some v:=(b.cell (Xi w p h)).trans h
theorem ZO (w:World){rest:List Oper}{o:Oper}{a:Act}{Q:Exit->Act->World->Prop}(B:o.guard=none) (s x:Operand) (t:TypeId)
 (F:o.op=.call { callee:=.builtin .append,args:=#[s,x],argTypes:=#[t,t] })
 (e:TypeId) (i:TypeInfo) (z:Value) (size d:Nat) (M:P.underlying t=some (.slice e)) (hi:P.info? e=some i) (L:i.zero=some z)
 (l:i.size=size) (y:i.bytes=d) (C:z.cells.size=size) (E:0<size)
 (v:Value) (n:Nat) (xs:List Value) (O:a.eval s=v) (q:w.ownsRow 0 e size v n xs)
 (D:Addr) (m c:Nat) (b:List Value) (S:a.eval x=.slice (some D) m c) (J:b.length=m*size) (g:∀ j u,b[j]?=some u->w.cell? (D.add j)=some u) (H:∀ u∈b,u.oneCell'=true)
 (A:n+m<=maxLen) (f:(n+m)*d<=140737488355328)
 (h:∀ v' w',w'.ownsRow 0 e size v' (n+m) (xs++b)->w.grownBy w' v.ownBlock->(∀ k,v'.ownBlock=some k->v.ownBlock=some k\/k=w.heap.size)->wpList P ops Q rest (a.put o.dst v') w'):wpList P ops Q (o::rest) a w:=by
 obtain⟨v',w',G,N,I,_,p⟩:=run_append_own_at (P:=P) w 0 t o.type e i z size d M hi L l y C E v n xs q D m c b J g H A f (Xb _)
 refine wpList_plain B fun K R=>?_;unfold Oper.wp execOp;simp only[F,resolve,invoke,builtin,Sem.run_bind,Sem.run_pure,Result.andThen_ok,List.map_toArray,List.map_cons,List.map_nil,O,S,G]
 refine R _ _ (h v' w' N I (fun k r=>?_));rcases p with p | p
 ·rw[p] at r;exact .inl r
 ·rw[p] at r;exact .inr (by simpa using r.symm)
theorem QaZ {z:Nat}{xs:List Value}(h:w.ownsRow 0 e z v n xs):∃ a c,v=.slice a n c:=by
 rcases h.2 with ⟨e,f⟩|⟨g,d,b,e,_⟩
 ·exact⟨none,0,by rw[e,f]⟩
 ·exact⟨_,_,e⟩
abbrev I64 (x:Int):Prop:=-9223372036854775808<=x/\x<=9223372036854775807
structure IP where
 pR:Option Addr
 cR:Nat
 pA:Option Addr
 cA:Nat
structure EP where
 pYR:Option Addr
 cYR:Nat
 pYA:Option Addr
 cYA:Nat
 pNR:Option Addr
 cNR:Nat
 pNA:Option Addr
 cNA:Nat
 pA:Option Addr
 cA:Nat
structure BP where
 pP:Option Addr
 cP:Nat
 pC:Option Addr
 cC:Nat
 e:EP
structure FP where
 pP:Option Addr
 cP:Nat
 pR:Option Addr
 cR:Nat
 pB:Option Addr
 cB:Nat
structure QhA (w:World) (O:Nat->Prop) (x:MTo) (pR:Option Addr) (cR:Nat) (pA:Option Addr) (cA:Nat):Prop where
 regs:intsL.In w O x.regs [.slice pR x.regs.length cR]
 args:intsL.In w O x.args [.slice pA x.args.length cA]
 bnd:I64 x.block
structure IIn (w:World) (O:Nat->Prop) (x:Qs) (i:IP):Prop where
 regs:intsL.In w O x.regs [.slice i.pR x.regs.length i.cR]
 args:intsL.In w O x.args [.slice i.pA x.args.length i.cA]
 bnd:I64 x.op/\I64 x.a/\I64 x.b/\I64 x.c/\I64 x.k/\I64 x.n
structure EIn (w:World) (O:Nat->Prop) (x:ZC) (e:EP):Prop where
 yes:QhA w O x.yes e.pYR e.cYR e.pYA e.cYA
 no:QhA w O x.no e.pNR e.cNR e.pNA e.cNA
 args:intsL.In w O x.args [.slice e.pA x.args.length e.cA]
 bnd:I64 x.op/\I64 x.a
structure BIn (w:World) (O:Nat->Prop){n:Nat}(x:MBlock n) (b:BP):Prop where
 params:(Qp n).In w O x.params [.slice b.pP x.params.length b.cP]
 code:insL.list.In w O x.code [.slice b.pC x.code.length b.cC]
 fin:EIn w O x.fin b.e
 bnd:I64 x.regs
structure FIn (w:World) (O:Nat->Prop){n:Nat}(x:MFunc n) (f:FP):Prop where
 params:(Qp n).In w O x.params [.slice f.pP x.params.length f.cP]
 results:(Qp n).In w O x.results [.slice f.pR x.results.length f.cR]
 blocks:(Zn n).list.In w O x.blocks [.slice f.pB x.blocks.length f.cB]
 bnd:I64 x.regs
section
variable {w w':World}{O O':Nat->Prop}{n:Nat}{cs:List Value}
theorem QhA.keep {x:MTo}(a:∀ k,O k->k<w.heap.size->w'.heap[k]?=w.heap[k]?) (b:∀ k,O k->k<w.heap.size->O' k) (h:QhA w O x pR cR pA cA):QhA w' O' x pR cR pA cA:=⟨Lay.keep _ a b h.regs,Lay.keep _ a b h.args,h.bnd⟩
theorem QhA.below {x:MTo}(h:QhA w O x pR cR pA cA) (a:Below w.heap.size w w'):QhA w' O x pR cR pA cA:=h.keep (fun k _ b=>a.block k b) (fun _ h _=>h)
theorem IIn.keep {x:Qs}{i:IP}(a:∀ k,O k->k<w.heap.size->w'.heap[k]?=w.heap[k]?) (b:∀ k,O k->k<w.heap.size->O' k) (h:IIn w O x i):IIn w' O' x i:=⟨Lay.keep _ a b h.regs,Lay.keep _ a b h.args,h.bnd⟩
theorem IIn.below {x:Qs}{i:IP}(h:IIn w O x i) (a:Below w.heap.size w w'):IIn w' O x i:=h.keep (fun k _ b=>a.block k b) (fun _ h _=>h)
theorem EIn.keep {x:ZC}{e:EP}(a:∀ k,O k->k<w.heap.size->w'.heap[k]?=w.heap[k]?) (b:∀ k,O k->k<w.heap.size->O' k) (h:EIn w O x e):EIn w' O' x e:=⟨h.yes.keep a b,h.no.keep a b,Lay.keep _ a b h.args,h.bnd⟩
theorem EIn.below {x:ZC}{e:EP}(h:EIn w O x e) (a:Below w.heap.size w w'):EIn w' O x e:=h.keep (fun k _ b=>a.block k b) (fun _ h _=>h)
theorem BIn.keep {x:MBlock n}{b:BP}(a:∀ k,O k->k<w.heap.size->w'.heap[k]?=w.heap[k]?) (c:∀ k,O k->k<w.heap.size->O' k) (h:BIn w O x b):BIn w' O' x b:=⟨Lay.keep _ a c h.params,Lay.keep _ a c h.code,h.fin.keep a c,h.bnd⟩
theorem BIn.below {x:MBlock n}{b:BP}(h:BIn w O x b) (a:Below w.heap.size w w'):BIn w' O x b:=h.keep (fun k _ c=>a.block k c) (fun _ h _=>h)
theorem FIn.keep {x:MFunc n}{f:FP}(a:∀ k,O k->k<w.heap.size->w'.heap[k]?=w.heap[k]?) (b:∀ k,O k->k<w.heap.size->O' k) (h:FIn w O x f):FIn w' O' x f:=⟨Lay.keep _ a b h.params,Lay.keep _ a b h.results,Lay.keep _ a b h.blocks,h.bnd⟩
theorem FIn.below {x:MFunc n}{f:FP}(h:FIn w O x f) (a:Below w.heap.size w w'):FIn w' O x f:=h.keep (fun k _ b=>a.block k b) (fun _ h _=>h)
theorem Qjb {x:MTo}(h:toL.In w O x cs):∃ pR cR pA cA,cs=[Iv x.block,.slice pR x.regs.length cR,.slice pA x.args.length cA]/\QhA w O x pR cR pA cA:=by
 obtain⟨a,c,b,d,rfl,e,f,g⟩:=Qfz h
 exact⟨a,c,b,d,Z,e,f,g⟩
theorem QiJ {x:MTo}(h:QhA w O x pR cR pA cA):toL.In w O x [Iv x.block,.slice pR x.regs.length cR,.slice pA x.args.length cA]:=Qnn h.regs h.args h.bnd
theorem Qeh {x:Qs}(h:insL.In w O x cs):∃ i:IP,cs=[Iv x.op,Iv x.a,Iv x.b,Iv x.c,Iv x.k,Iv x.n,.slice i.pR x.regs.length i.cR,.slice i.pA x.args.length i.cA]/\IIn w O x i:=by
 obtain⟨a,c,b,d,rfl,e,f,g⟩:=QkT h
 exact⟨⟨a,c,b,d⟩,Z,e,f,g⟩
theorem Qer {x:ZC}(h:endL.In w O x cs):∃ e:EP,cs=[Iv x.op,Iv x.a,Iv x.yes.block,.slice e.pYR x.yes.regs.length e.cYR,.slice e.pYA x.yes.args.length e.cYA,Iv x.no.block,.slice e.pNR x.no.regs.length e.cNR,.slice e.pNA x.no.args.length e.cNA,.slice e.pA x.args.length e.cA]/\EIn w O x e:=by
 obtain⟨q,r,a,c,rfl,d,f,g,o⟩:=QgC h
 obtain⟨i,n,pA,cA,rfl,p⟩:=Qjb d
 obtain⟨m,b,j,l,rfl,k⟩:=Qjb f
 exact⟨⟨i,n,pA,cA,m,b,j,l,a,c⟩,Z,p,k,g,o⟩
theorem QgN {x:ZC}{e:EP}(h:EIn w O x e):endL.In w O x [Iv x.op,Iv x.a,Iv x.yes.block,.slice e.pYR x.yes.regs.length e.cYR,.slice e.pYA x.yes.args.length e.cYA,Iv x.no.block,.slice e.pNR x.no.regs.length e.cNR,.slice e.pNA x.no.args.length e.cNA,.slice e.pA x.args.length e.cA]:=QmC (QiJ h.yes) (QiJ h.no) h.args h.bnd
theorem Qcd {x:MBlock n}(h:(Zn n).In w O x cs):∃ b:BP,cs=[Iv x.regs,.slice b.pP x.params.length b.cP,.slice b.pC x.code.length b.cC,Iv x.fin.op,Iv x.fin.a,Iv x.fin.yes.block,.slice b.e.pYR x.fin.yes.regs.length b.e.cYR,.slice b.e.pYA x.fin.yes.args.length b.e.cYA,Iv x.fin.no.block,.slice b.e.pNR x.fin.no.regs.length b.e.cNR,.slice b.e.pNA x.fin.no.args.length b.e.cNA,.slice b.e.pA x.fin.args.length b.e.cA]/\BIn w O x b:=by
 obtain⟨a,c,b,d,l,rfl,g,i,j,k⟩:=Qb7 h
 obtain⟨e,rfl,f⟩:=Qer j
 exact⟨⟨a,c,b,d,e⟩,Z,g,i,f,k⟩
theorem Qda {x:MFunc n}(h:(ZS n).In w O x cs):∃ f:FP,cs=[Iv x.regs,.slice f.pP x.params.length f.cP,.slice f.pR x.results.length f.cR,.slice f.pB x.blocks.length f.cB]/\FIn w O x f:=by
 obtain⟨a,c,b,d,e,f,rfl,i,j,g,k⟩:=Qav h
 exact⟨⟨a,c,b,d,e,f⟩,Z,i,j,g,k⟩
theorem QhT {l:List Qs}(h:(insL).list.In w O l [.slice p m c]){x:Qs}(t:l[i]?=some x) :
 ∃ (g o:Nat) (i':IP),p=some ⟨g,o,none⟩/\w.rangeAt g (o+i*8) [Iv x.op,Iv x.a,Iv x.b,Iv x.c,Iv x.k,Iv x.n,.slice i'.pR x.regs.length i'.cR,.slice i'.pA x.args.length i'.cA]/\IIn w O x i':=by
 obtain⟨g,o,u,e,y,z,d,r⟩:=Yf h t
 obtain⟨i',rfl,s⟩:=Qeh r
 have q:(insL).size=8:=rfl;rw[q] at d
 exact⟨g,o,i',e,fun j v f=>(d j (by have:=(Zi f).1;simpa using this)).trans f,s⟩
theorem Qei {l:List (MBlock n)}(h:(Zn n).list.In w O l [.slice p m c]){x:MBlock n}(s:l[i]?=some x) :
 ∃ (g o:Nat) (b:BP),p=some ⟨g,o,none⟩/\w.rangeAt g (o+i*12) [Iv x.regs,.slice b.pP x.params.length b.cP,.slice b.pC x.code.length b.cC,Iv x.fin.op,Iv x.fin.a,Iv x.fin.yes.block,.slice b.e.pYR x.fin.yes.regs.length b.e.cYR,.slice b.e.pYA x.fin.yes.args.length b.e.cYA,Iv x.fin.no.block,.slice b.e.pNR x.fin.no.regs.length b.e.cNR,.slice b.e.pNA x.fin.no.args.length b.e.cNA,.slice b.e.pA x.fin.args.length b.e.cA]/\BIn w O x b:=by
 obtain⟨g,o,t,e,u,y,d,q⟩:=Yf h s
 obtain⟨b,rfl,r⟩:=Qcd q
 have k:(Zn n).size=12:=rfl;rw[k] at d
 exact⟨g,o,b,e,fun j v f=>(d j (by have:=(Zi f).1;simpa using this)).trans f,r⟩
theorem QfC {l:List (MFunc n)}(h:(ZS n).list.In w O l [.slice p m c]){x:MFunc n}(r:l[i]?=some x) :
 ∃ (g o:Nat) (f:FP),p=some ⟨g,o,none⟩/\w.rangeAt g (o+i*4) [Iv x.regs,.slice f.pP x.params.length f.cP,.slice f.pR x.results.length f.cR,.slice f.pB x.blocks.length f.cB]/\FIn w O x f:=by
 obtain⟨g,o,s,e,t,u,a,k⟩:=Yf h r
 obtain⟨f,rfl,q⟩:=Qda k
 have d:(ZS n).size=4:=rfl;rw[d] at a
 exact⟨g,o,f,e,fun j v b=>(a j (by have:=(Zi b).1;simpa using this)).trans b,q⟩
end
theorem QkJ (op:Int):op=1\/op=2\/op=3\/op=4\/op=5\/op=6\/op=7\/op=8\/op=9\/op=10\/op=11\/op=12\/op=13\/op=14\/(op≠1/\op≠2/\op≠3/\op≠4/\op≠5/\op≠6/\op≠7/\op≠8/\op≠9/\op≠10/\op≠11/\op≠12/\op≠13/\op≠14):=by omega
def Qb6 (funcs:Nat) (op a b c k n:Int) (rl al:Nat):Int :=
 match Q7 op with
 | none=>3
 | some (fa,fb,fc,fk,fn,fr,fs) =>
   if (!fa&&a != 0)||(!fb&&b != 0)||(!fc&&c != 0)||(!fk&&k != 0)||(!fn&&n != 0)||(!fr&&decide (0<rl))||(!fs&&decide (0<al)) then 4
   else if op=2/\(k<1\/9<k) then 1
   else if op=5/\8<al then 2
   else if (op=6\/op=7)/\(k<0\/7<k) then 1
   else if op=14/\(k<0\/(funcs:Int)<=k) then 1
   else if op=14/\(6<rl\/8<al) then 2
   else 0
theorem Qs.form_eq (d:Nat) (x:Qs):x.form d=Qb6 d x.op x.a x.b x.c x.k x.n x.regs.length x.args.length:=by
 unfold Qs.form Qs.formless Qb6
 cases Q7 x.op with
 | none=>rfl
 | some p=>obtain⟨a,b,c,k,n,r,s⟩:=p;rfl
def rangeC (x l m:Int):Int:=if x<l\/m<x then 1 else 0
def manyC (len:Nat) (m:Int):Int:=if m<len then 2 else 0
def handedC (r:Nat) (m:Int) (s:Nat):Int:=if manyC r m≠0 then manyC r m else manyC s 8
def QkI (a b c k n:Int) (rl al:Nat):Bool:=a==0&&b==0&&c==0&&k==0&&n==0&&(rl:Int)==0&&(al:Int)==0
def ZI (funcs:Nat) (op k:Int) (rl al:Nat):Int :=
 if op=2 then rangeC k 1 9 else if op=6\/op=7 then rangeC k 0 7 else if op=5 then manyC al 8
 else if op=14 then (if rangeC k 0 ((funcs:Int) - 1)=0 then handedC rl 6 al else rangeC k 0 ((funcs:Int) - 1)) else 0
theorem fb (f:Bool) (a:Int):(!f&&a != 0)=!((bif f then 0 else a)==0):=by cases f<;>simp[bne]
theorem fbn (f:Bool) (l:Nat):(!f&&decide (0<l))=!(((bif f then 0 else l:Nat):Int)==0):=by
 cases f
 ·by_cases h:l=0
  ·simp[h]
  ·have:0<l:=by omega
   simp[this,h]
 ·simp
theorem Qih (e:Nat) (op k:Int) (rl al:Nat):(if op=2/\(k<1\/9<k) then 1
 else if op=5/\8<al then 2
 else if (op=6\/op=7)/\(k<0\/7<k) then 1
 else if op=14/\(k<0\/(e:Int)<=k) then 1
 else if op=14/\(6<rl\/8<al) then 2
 else 0)=ZI e op k rl al:=by
 unfold ZI;by_cases c:op=2
 ·subst c;simp[rangeC]
 ·by_cases d:op=6\/op=7
  ·have b:¬ op=5:=by omega
   have a:¬ op=14:=by omega
   simp[c,b,d,a,rangeC]
  ·by_cases b:op=5
   ·subst b;simp[manyC];split<;>split<;>omega
   ·by_cases a:op=14
    ·subst a;simp[rangeC,handedC,manyC]
     repeat' split
     all_goals omega
    ·simp[c,b,d,a]
theorem Qfl {i:Nat}{op a b c k n:Int}{h d g f fn fr fs:Bool}(e:Q7 op=some (h,d,g,f,fn,fr,fs)) :
 Qb6 i op a b c k n rl al=if QkI (bif h then 0 else a) (bif d then 0 else b) (bif g then 0 else c) (bif f then 0 else k) (bif fn then 0 else n) (bif fr then 0 else rl) (bif fs then 0 else al)=true then ZI i op k rl al else 4:=by
 simp only[Qb6,e,Qih]
 rw[fb,fb,fb,fb,fb,fbn,fbn]
 unfold QkI;generalize ((bif h then 0 else a)==0)=m;generalize ((bif d then 0 else b)==0)=p;generalize ((bif g then 0 else c)==0)=j;generalize ((bif f then 0 else k)==0)=o;generalize ((bif fn then 0 else n)==0)=r;generalize (((bif fr then 0 else rl:Nat):Int)==0)=q;generalize (((bif fs then 0 else al:Nat):Int)==0)=l
 cases m<;>cases p<;>cases j<;>cases o<;>cases r<;>cases q<;>cases l<;>rfl
theorem Qfv (h:f<1000000):Rd prog 118 #[Iv (f:Int)] w (Iv (10000*(f:Int)+9999)):=by
 unfold Rd;skip
 skip
 go_enter func118,ntmps118
 go_wp2
 go_ret;refine⟨?_,Zr⟩
 show Ending.returned (Iv ((f:Int)*10000+9999))=_;congr 2
 omega
theorem QeL (h:f<1000000/\b<1000000):Rd prog 181 #[Iv (f:Int),Iv (b:Int)] w (Iv (10000*(f:Int)+100*(b:Int)+90)):=by
 unfold Rd;have a:=h.1;have c:=h.2;skip
 go_enter func181,ntmps181
 go_wp2
 go_ret;refine⟨?_,Zr⟩
 show Ending.returned (Iv ((f:Int)*10000+(b:Int)*100+90))=_;congr 2
 omega
theorem QdR (h:f<1000000/\b<1000000):Rd prog 131 #[Iv (f:Int),Iv (b:Int)] w (Iv (10000*(f:Int)+100*(b:Int)+91)):=by
 unfold Rd;have a:=h.1;have c:=h.2;skip
 go_enter func131,ntmps131
 go_wp2
 go_ret;refine⟨?_,Zr⟩
 show Ending.returned (Iv ((f:Int)*10000+(b:Int)*100+91))=_;congr 2
 omega
theorem QdQ (h:f<1000000/\b<1000000/\i<1000000):Rd prog 130 #[Iv (f:Int),Iv (b:Int),Iv (i:Int)] w (Iv (10000*(f:Int)+100*(b:Int)+(i:Int))):=by
 unfold Rd;have c:=h.1;have d:=h.2;have a:=h.2.1;have e:=h.2.2;go_enter func130,ntmps130
 go_wp2
 go_ret;refine⟨?_,Zr⟩
 show Ending.returned (Iv ((f:Int)*10000+(b:Int)*100+(i:Int)))=_;congr 2
 omega
theorem QaE {l m:Int}:Rd prog 262 #[Iv x,Iv l,Iv m] w (Iv (rangeC x l m)):=by
 unfold Rd rangeC;by_cases a:x<l
 ·rw[Xs (.inl a)]
  go_enter func262,ntmps262
  go_wp2
  go_ret;exact⟨Z,Zr⟩
 ·by_cases b:m<x
  ·rw[Xs (.inr b)]
   go_enter func262,ntmps262
   go_wp2
   go_ret;exact⟨Z,Zr⟩
  ·rw[Xr (by omega)]
   go_enter func262,ntmps262
   go_wp2
   go_ret;exact⟨Z,Zr⟩
theorem QaO {len:Nat}{m:Int}:Rd prog 263 #[.slice p len c,Iv m] w (Iv (manyC len m)):=by
 unfold Rd manyC;by_cases a:m<len
 ·rw[Xs a]
  go_enter func263,ntmps263
  go_wp2
  go_ret;exact⟨Z,Zr⟩
 ·rw[Xr a]
  go_enter func263,ntmps263
  go_wp2
  go_ret;exact⟨Z,Zr⟩
theorem Qbf {q:Option Addr}{r:Nat}{m:Int}:Rd prog 264 #[.slice p r c,Iv m,.slice q s d] w (Iv (handedC r m s)):=by
 have b:Hid (∀ a:World,Calls prog 263 #[.slice p r c,Iv m] a fun e j=>e=.returned (Iv (manyC r m))/\Below a.heap.size a j):=fun a=>QaO;have k:Hid (∀ a:World,Calls prog 263 #[.slice q s d,Iv 8] a fun e j=>e=.returned (Iv (manyC s 8))/\Below a.heap.size a j):=fun a=>QaO;unfold Rd handedC;by_cases h:manyC r m=0
 ·rw[Xr (by simpa using h)]
  rw[h] at b
  go_enter func264,ntmps264
  go_wp2_with fail
  refine(b.out w).mono ?_
  rintro e i ⟨rfl,g⟩;have f:Hid (Below w.heap.size w i):=g;clear g b;go_wp2_with fail
  refine(k.out i).mono ?_
  rintro e n ⟨rfl,l⟩;have t:Hid (Below w.heap.size w n):=f.out.trans (l.mono f.out.size);clear l k f;go_wp2
  go_ret;exact⟨Z,t.out⟩
 ·rw[Xs h]
  have o:(manyC r m==0)=false:=by simpa using h
  generalize manyC r m=v at b o h |-;go_enter func264,ntmps264
  go_wp2_with fail
  refine(b.out w).mono ?_
  rintro e i ⟨rfl,g⟩;have f:Hid (Below w.heap.size w i):=g;clear g b k;go_wp2
  go_ret;exact⟨Z,f.out⟩
theorem QdV {xop:Int}:Rd prog 228 #[.agg #[Iv xop,Iv xa,Iv xb,Iv xc,Iv xk,Iv xn,.slice ra rl rc,.slice aa al ac]] w (.bool (QkI xa xb xc xk xn rl al)):=by
 have D:(xa==0)=false\/xa=0/\((xb==0)=false\/xb=0/\((xc==0)=false\/xc=0/\((xk==0)=false\/xk=0/\((xn==0)=false\/xn=0/\(((rl:Int)==0)=false\/rl=0/\(((al:Int)==0)=false\/al=0)))))):=by
  simp only[beq_eq_false_iff_ne];omega
 unfold Rd;rcases D with g | ⟨rfl,g | ⟨rfl,g | ⟨rfl,g | ⟨rfl,g | ⟨rfl,g | ⟨rfl,g | rfl⟩⟩⟩⟩⟩⟩
 all_goals
  go_enter func228,ntmps228
  go_wp2
  go_ret;exact⟨by first | rfl | simp[QkI,g],Zd _ _⟩
def wfV (xop xa xb xc xk xn:Int) (ra aa:Option Addr) (rl rc al ac:Nat):Value:=match Q7 xop with
 | some (fa,fb,fc,fk,fn,fr,fs)=>.tuple #[.agg #[.int .i64 xop,.int .i64 (bif fa then 0 else xa),.int .i64 (bif fb then 0 else xb),.int .i64 (bif fc then 0 else xc),.int .i64 (bif fk then 0 else xk),.int .i64 (bif fn then 0 else xn),.slice (bif fr then none else ra) (bif fr then 0 else rl) (bif fr then 0 else rc),.slice (bif fs then none else aa) (bif fs then 0 else al) (bif fs then 0 else ac)],.bool true]
 | none=>.tuple #[.agg #[.int .i64 xop,.int .i64 xa,.int .i64 xb,.int .i64 xc,.int .i64 xk,.int .i64 xn,.slice ra rl rc,.slice aa al ac],.bool false]
theorem QmK {xop:Int}:Rd prog 227 #[.agg #[Iv xop,Iv xa,Iv xb,Iv xc,Iv xk,Iv xn,.slice ra rl rc,.slice aa al ac]] w (wfV xop xa xb xc xk xn ra aa rl rc al ac):=by
 rcases QkJ xop with rfl | rfl | rfl | rfl | rfl | rfl | rfl | rfl | rfl | rfl | rfl | rfl | rfl | rfl | n
 rotate_right
 obtain⟨j,h,o,i,f,g,m,k,l,b,e,c,d,a⟩:=n
 have E:Q7 xop=none:=by simp[Q7, *]
 rw[<-beq_eq_false_iff_ne] at j h o i f g m k l b e c d a
 all_goals
  unfold Rd;go_enter func227,ntmps227
  go_wp2
  exact Xy (v:=wfV _ xa xb xc xk xn ra aa rl rc al ac) (by simp[results,results227,go_sem,wfV];first | (simp[Q7];done) | rw[E]) Z ⟨Z,QhD _ _ _⟩
theorem Qjs {xop lo hi:Int}{d:Option Addr}{a:Nat}(h:xop=2/\lo=1/\hi=9\/xop=6/\lo=0/\hi=7\/xop=7/\lo=0/\hi=7):Rd prog 229 #[.agg #[.slice d a cm],.agg #[Iv xop,Iv xa,Iv xb,Iv xc,Iv xk,Iv xn,.slice ra rl rc,.slice aa al ac]] w (Iv (ZI a xop xk rl al)):=by
 have C:Hid (∀ b:World,Rd prog 262 #[Iv xk,Iv lo,Iv hi] b (Iv (rangeC xk lo hi))):=fun b=>QaE;unfold Rd;rw[show ZI a xop xk rl al=rangeC xk lo hi by rcases h with ⟨rfl,rfl,rfl⟩|⟨rfl,rfl,rfl⟩|⟨rfl,rfl,rfl⟩<;>rfl]
 generalize rangeC xk lo hi=v at C |-;rcases h with ⟨rfl,rfl,rfl⟩|⟨rfl,rfl,rfl⟩|⟨rfl,rfl,rfl⟩
 all_goals
  go_enter func229,ntmps229
  go_wp2_with fail
  refine(C.out _).mono ?_
  rintro e f ⟨rfl,c⟩;have g:Hid (Below w.heap.size w f):=(QhD _ _ _).trans (c.mono (QhD w _ _).size);clear c C;go_wp2
  go_ret;exact⟨Z,g.out⟩
theorem QlX {f:Option Addr}{b:Nat}:Rd prog 229 #[.agg #[.slice f b cm],.agg #[Iv 5,Iv xa,Iv xb,Iv xc,Iv xk,Iv xn,.slice ra rl rc,.slice aa al ac]] w (Iv (ZI b 5 xk rl al)):=by
 have C:Hid (∀ a:World,Calls prog 263 #[.slice aa al ac,Iv 8] a fun e d=>e=.returned (Iv (manyC al 8))/\Below a.heap.size a d):=fun a=>QaO;rw[show ZI b 5 xk rl al=manyC al 8 from Z]
 generalize manyC al 8=v at C |-;unfold Rd;go_enter func229,ntmps229
 go_wp2_with fail
 refine(C.out _).mono ?_
 rintro e g ⟨rfl,c⟩;have h:Hid (Below w.heap.size w g):=(QhD _ _ _).trans (c.mono (QhD w _ _).size);clear c C;go_wp2
 go_ret;exact⟨Z,h.out⟩
theorem Qkq {g:Option Addr}{a:Nat}(s:a<2305843009213693952):Rd prog 229 #[.agg #[.slice g a cm],.agg #[Iv 14,Iv xa,Iv xb,Iv xc,Iv xk,Iv xn,.slice ra rl rc,.slice aa al ac]] w (Iv (ZI a 14 xk rl al)):=by
 have C:Hid (∀ b:World,Calls prog 262 #[Iv xk,Iv 0,Iv ((a:Int) - 1)] b fun e j=>e=.returned (Iv (rangeC xk 0 ((a:Int) - 1)))/\Below b.heap.size b j):=fun b=>QaE;have i:Hid (∀ b:World,Calls prog 264 #[.slice ra rl rc,Iv 6,.slice aa al ac] b fun e j=>e=.returned (Iv (handedC rl 6 al))/\Below b.heap.size b j):=fun b=>Qbf;rw[show ZI a 14 xk rl al=if rangeC xk 0 ((a:Int) - 1)=0 then handedC rl 6 al else rangeC xk 0 ((a:Int) - 1) from Z]
 generalize rangeC xk 0 ((a:Int) - 1)=v at C |-;generalize handedC rl 6 al=u at i |-;have d:Blk ((w.alloc (.cells #[.slice g a cm] 24)).alloc (.cells #[Iv 14,Iv xa,Iv xb,Iv xc,Iv xk,Iv xn,.slice ra rl rc,.slice aa al ac] 78)) (w.heap.size+1) #[Iv 14,Iv xa,Iv xb,Iv xc,Iv xk,Iv xn,.slice ra rl rc,.slice aa al ac] 78:=Blk.new2 _ _ _ _;have c:Hid (Below w.heap.size w ((w.alloc (.cells #[.slice g a cm] 24)).alloc (.cells #[Iv 14,Iv xa,Iv xb,Iv xc,Iv xk,Iv xn,.slice ra rl rc,.slice aa al ac] 78))):=QhD _ _ _;unfold Rd;by_cases k:v=0
 ·subst k;rw[Xs Z]
  go_enter func229,ntmps229
  go_wp2_with fail
  generalize ((w.alloc (.cells #[.slice g a cm] 24)).alloc (.cells #[Iv 14,Iv xa,Iv xb,Iv xc,Iv xk,Iv xn,.slice ra rl rc,.slice aa al ac] 78))=o at d c |-;refine(C.out _).mono ?_
  rintro e l ⟨rfl,f⟩;have m:=(f.block _ (XC d)).trans d;have h:Hid (Below w.heap.size w l):=c.out.trans (f.mono c.out.size);have t:=Qb m 6 _ Z;have x:=Qb m 7 _ Z;clear f C d c m;go_wp2_with fail
  refine(i.out _).mono ?_
  rintro e p ⟨rfl,n⟩;have q:Hid (Below w.heap.size w p):=h.out.trans (n.mono h.out.size);clear n i h;go_wp2
  go_ret;exact⟨Z,q.out⟩
 ·rw[Xr k]
  have r:(v==0)=false:=by simpa using k
  go_enter func229,ntmps229
  go_wp2_with fail
  generalize ((w.alloc (.cells #[.slice g a cm] 24)).alloc (.cells #[Iv 14,Iv xa,Iv xb,Iv xc,Iv xk,Iv xn,.slice ra rl rc,.slice aa al ac] 78))=o at d c |-;refine(C.out _).mono ?_
  rintro e l ⟨rfl,f⟩;have h:Hid (Below w.heap.size w l):=c.out.trans (f.mono c.out.size);clear f C i d c;go_wp2
  go_ret;exact⟨Z,h.out⟩
theorem QkH {xop:Int}{i:Option Addr}{b:Nat}(h:xop≠2/\xop≠6/\xop≠7/\xop≠5/\xop≠14):Rd prog 229 #[.agg #[.slice i b cm],.agg #[Iv xop,Iv xa,Iv xb,Iv xc,Iv xk,Iv xn,.slice ra rl rc,.slice aa al ac]] w (Iv (ZI b xop xk rl al)):=by
 obtain⟨c,e,f,d,a⟩:=h
 rw[show ZI b xop xk rl al=0 by simp[ZI,c,e,f,d,a]]
 have m:(xop==2)=false:=by simpa using c
 have j:(xop==6)=false:=by simpa using e
 have l:(xop==7)=false:=by simpa using f
 have k:(xop==5)=false:=by simpa using d
 have g:(xop==14)=false:=by simpa using a
 unfold Rd;go_enter func229,ntmps229
 go_wp2
 go_ret;exact⟨Z,QhD _ _ _⟩
theorem QdL {xop:Int}{d:Option Addr}{b:Nat}(a:b<2305843009213693952):Rd prog 229 #[.agg #[.slice d b cm],.agg #[Iv xop,Iv xa,Iv xb,Iv xc,Iv xk,Iv xn,.slice ra rl rc,.slice aa al ac]] w (Iv (ZI b xop xk rl al)):=by
 by_cases e:xop=5
 ·subst e;exact QlX
 by_cases c:xop=14
 ·subst c;exact Qkq a
 by_cases h:xop=2\/xop=6\/xop=7
 ·rcases h with rfl | rfl | rfl
  ·exact Qjs (.inl ⟨Z,Z,Z⟩)
  all_goals exact Qjs (lo:=0) (hi:=7) (by simp)
 ·exact QkH (by omega)
theorem Qgt {xop:Int}{o n m:Int}{g j:Option Addr}{c b f i:Nat}{l:Option Addr}{p:Nat}{ok k:Bool}{v:Int}
 (C:Hid (∀ wx:World,Calls prog 227 #[.agg #[Iv xop,Iv xa,Iv xb,Iv xc,Iv xk,Iv xn,.slice ra rl rc,.slice aa al ac]] wx fun e w'=>e=.returned (.tuple #[.agg #[Iv xop,Iv ya,Iv yb,Iv o,Iv n,Iv m,.slice g c b,.slice j f i],.bool ok])/\Below wx.heap.size wx w'))
 (A:Hid (∀ wx:World,Calls prog 228 #[.agg #[Iv xop,Iv ya,Iv yb,Iv o,Iv n,Iv m,.slice g c b,.slice j f i]] wx fun e w'=>e=.returned (.bool k)/\Below wx.heap.size wx w'))
 (t:Hid (∀ wx:World,Calls prog 229 #[.agg #[.slice l p cm],.agg #[Iv xop,Iv xa,Iv xb,Iv xc,Iv xk,Iv xn,.slice ra rl rc,.slice aa al ac]] wx fun e w'=>e=.returned (Iv v)/\Below wx.heap.size wx w')) :
 Rd prog 184 #[.agg #[.slice l p cm],.agg #[Iv xop,Iv xa,Iv xb,Iv xc,Iv xk,Iv xn,.slice ra rl rc,.slice aa al ac]] w (Iv (if ok=false then 3 else if k=true then v else 4)):=by
 have h:Blk ((w.alloc (.cells #[.slice l p cm] 24)).alloc (.cells #[Iv xop,Iv xa,Iv xb,Iv xc,Iv xk,Iv xn,.slice ra rl rc,.slice aa al ac] 78)) w.heap.size #[.slice l p cm] 24:=Blk.new1 _ _ _ _ _;have a:Blk ((w.alloc (.cells #[.slice l p cm] 24)).alloc (.cells #[Iv xop,Iv xa,Iv xb,Iv xc,Iv xk,Iv xn,.slice ra rl rc,.slice aa al ac] 78)) (w.heap.size+1) #[Iv xop,Iv xa,Iv xb,Iv xc,Iv xk,Iv xn,.slice ra rl rc,.slice aa al ac] 78:=Blk.new2 _ _ _ _;have y:Hid (Below w.heap.size w ((w.alloc (.cells #[.slice l p cm] 24)).alloc (.cells #[Iv xop,Iv xa,Iv xb,Iv xc,Iv xk,Iv xn,.slice ra rl rc,.slice aa al ac] 78))):=QhD _ _ _;unfold Rd;go_enter func184,ntmps184
 go_wp2_with fail
 generalize ((w.alloc (.cells #[.slice l p cm] 24)).alloc (.cells #[Iv xop,Iv xa,Iv xb,Iv xc,Iv xk,Iv xn,.slice ra rl rc,.slice aa al ac] 78))=G at h a y |-;refine(C.out _).mono ?_
 rintro e r ⟨rfl,z⟩;replace h:=(z.block _ (XC h)).trans h;replace a:=(z.block _ (XC a)).trans a;have s:Hid (Below w.heap.size w r):=y.out.trans (z.mono y.out.size);clear z y C
 cases ok with
 | false =>
   have q:Hid (Below w.heap.size w (r.alloc (.cells #[Iv xop,Iv ya,Iv yb,Iv o,Iv n,Iv m,.slice g c b,.slice j f i] 78))):=s.out.trans ((Zd _ _).mono s.out.size);clear A t h a s;go_wp2
   go_ret;exact⟨Z,q.out⟩
 | true =>
   replace h:=((Zd r (.cells #[Iv xop,Iv ya,Iv yb,Iv o,Iv n,Iv m,.slice g c b,.slice j f i] 78)).block _ (XC h)).trans h;replace a:=((Zd r (.cells #[Iv xop,Iv ya,Iv yb,Iv o,Iv n,Iv m,.slice g c b,.slice j f i] 78)).block _ (XC a)).trans a;have q:Hid (Below w.heap.size w (r.alloc (.cells #[Iv xop,Iv ya,Iv yb,Iv o,Iv n,Iv m,.slice g c b,.slice j f i] 78))):=s.out.trans ((Zd _ _).mono s.out.size);go_wp2_with fail
   clear s;generalize r.alloc (.cells #[Iv xop,Iv ya,Iv yb,Iv o,Iv n,Iv m,.slice g c b,.slice j f i] 78)=I at h a q |-;refine(A.out _).mono ?_
   rintro e F ⟨rfl,u⟩;replace h:=(u.block _ (XC h)).trans h;replace a:=(u.block _ (XC a)).trans a;have x:Hid (Below w.heap.size w F):=q.out.trans (u.mono q.out.size);clear u q A
   cases k with
   | false =>
     clear t h a;go_wp2
     go_ret;exact⟨Z,x.out⟩
   | true =>
     have d:=Qb h 0 _ Z;have J:=Qb a 0 _ Z;have L:=Qb a 1 _ Z;have M:=Qb a 2 _ Z;have H:=Qb a 3 _ Z;have P:=Qb a 4 _ Z;have K:=Qb a 5 _ Z;have O:=Qb a 6 _ Z;have N:=Qb a 7 _ Z;clear h a;go_wp2_with fail
     refine(t.out _).mono ?_
     rintro e D ⟨rfl,B⟩;have E:Hid (Below w.heap.size w D):=x.out.trans (B.mono x.out.size);clear B x t;go_wp2
     go_ret;exact⟨Z,E.out⟩
theorem Qgz (d:Nat) (x:Qs) (i:IP) (l:Option Addr) (cm:Nat) (w:World) (g:d<2305843009213693952) :
 Rd prog 184 #[.agg #[.slice l d cm],.agg #[Iv x.op,Iv x.a,Iv x.b,Iv x.c,Iv x.k,Iv x.n,.slice i.pR x.regs.length i.cR,.slice i.pA x.args.length i.cA]] w (Iv (x.form d)):=by
 rw[Qs.form_eq]
 have f:=fun h=>QmK (xop:=x.op) (xa:=x.a) (xb:=x.b) (xc:=x.c) (xk:=x.k) (xn:=x.n) (ra:=i.pR) (aa:=i.pA) (rl:=x.regs.length) (rc:=i.cR) (al:=x.args.length) (ac:=i.cA) (w:=h)
 cases e:Q7 x.op with
 | none =>
   simp only[wfV,e] at f
   rw[show Qb6 d x.op x.a x.b x.c x.k x.n x.regs.length x.args.length=3 by unfold Qb6;rw[e]]
   exact Qgt (ok:=false) f (fun _=>QdV) (fun _=>QdL g)
 | some p =>
   obtain⟨t,j,o,m,q,r,s⟩:=p
   simp only[wfV,e] at f
   rw[Qfl e]
   exact Qgt (ok:=true) f (fun _=>QdV) (fun _=>QdL g)
def Qht (L:List Bool) (i:Nat):Value:=if i=16 then Iv (L.length:Int) else .bool (L.getD i false)
def Qo (w:World) (b:Nat) (L:List Bool):Prop:=L.length<=16/\w.rowIs b 303 17 (Qht L)
theorem Qo.mark (h:Qo w b L)(a:k<16):w.cell? ⟨b,k,none⟩=some (.bool (L.getD k false)):=by
 have:=h.2.cell (i:=k) (by omega)
 rwa [Qht,Xr (by omega)] at this
theorem Qo.count (h:Qo w b L):w.cell? ⟨b,16,none⟩=some (Iv (L.length:Int)):=by
 have:=h.2.cell (i:=16) (by omega)
 rwa [Qht,Xs Z] at this
theorem Qo.keep (h:Qo w b L) (e:w'.heap[b]?=w.heap[b]?):Qo w' b L:=⟨h.1,h.2.of_block e⟩
theorem Qo.below (h:Qo w b L) (k:Below w.heap.size w w'):Qo w' b L:=h.keep (k.block b h.2.lt)
theorem Qo.lt (h:Qo w b L):b<w.heap.size:=h.2.lt
theorem Qo.setMark (h:Qo w b L)(f:k<L.length) (v:Bool):Qo (w.setCell ⟨b,k,none⟩ (.bool v)) b (L.set k v):=by
 refine⟨by simpa using h.1,(h.2.set k (.bool v)).congr fun i g=>?_⟩
 have d:=h.1;unfold Qht;by_cases a:i=16
 ·subst a;simp;omega
 ·rw[Xr a,Xr a]
  by_cases c:i=k
  ·subst c;simp[List.getD,f]
  ·have:¬ k=i:=fun e=>c e.symm
   simp[c,List.getD,this]
theorem Qo.push (h:Qo w b L) (f:L.length<16):Qo ((w.setCell ⟨b,L.length,none⟩ (.bool true)).setCell ⟨b,16,none⟩ (Iv ((L.length:Int)+1))) b (L++[true]):=by
 refine⟨by simp;omega,((h.2.set L.length (.bool true)).set 16 _).congr fun i e=>?_⟩
 unfold Qht;by_cases a:i=16
 ·subst a;simp
 ·rw[Xr a,Xr a,Xr a]
  by_cases d:i=L.length
  ·subst d;simp[List.getD]
  ·rw[Xr d]
   rcases Nat.lt_or_ge i L.length with c | c
   ·simp[List.getD,List.getElem?_append,c]
   ·rw[Qao L c,Qao (L++[true]) (by simp;omega)]
theorem QcA (r:Int) (h:Qo w b L) :
 Calls prog 272 #[Pv b 0,Iv r] w fun e w'=>e=.returned (.bool (hHas L r))/\w'=w:=by
 by_cases a:0<=r
 ·by_cases f:r<16
  ·obtain⟨k,rfl⟩:=Xc a
   have c:=h.mark (k:=k) (by omega);have E:Hid (hHas L (k:Int)=L.getD k false):=QcD L k;have i:k<16:=by omega
   clear h;generalize L.getD k false=q at c E;go_enter func272,ntmps272
   go_wp2
   go_ret;exact⟨by rw[E.out];rfl,Z⟩
  ·have E:Hid (hHas L r=false):=by
    show _=_;obtain⟨k,rfl⟩:=Xc a
    rw[QcD,Qao L (by have:=h.1;omega)]
   have g:decide (r<16)=false:=by simpa using f
   clear h;go_enter func272,ntmps272
   go_wp2
   go_ret;exact⟨by rw[E.out];rfl,Z⟩
 ·have E:Hid (hHas L r=false):=by show _=_;simp[hHas,a]
  have d:decide (0<=r)=false:=by simpa using a
  clear h;go_enter func272,ntmps272
  go_wp2
  go_ret;exact⟨by rw[E.out];rfl,Z⟩
theorem Qkk (h:Qo w b L) :
 Calls prog 271 #[Pv b 0] w fun e w'=>e=.returned (Iv (L.length:Int))/\w'=w:=by
 have c:=h.count;clear h;generalize L.length=n at c;go_enter func271,ntmps271
 go_wp2
 go_ret;exact⟨Z,Z⟩
theorem Qf0 {a:World}(h:Qz (fun k=>k=b) (fun k=>k=b) a w) (i:Nat) (v:Value):Qz (fun k=>k=b) (fun k=>k=b) a (w.setCell ⟨b,i,none⟩ v):=h.setCell (p:=⟨b,i,none⟩) Z v
theorem Qc4 (h:Qo w b L) :
 Calls prog 237 #[Pv b 0] w fun e w'=>e=.returned (Iv (QbL L))/\Qo w' b (Qc6 L)/\Qz (fun k=>k=b) (fun k=>k=b) w w':=by
 have c:=h.count;have l:=h.1;by_cases d:L.length<16
 ·have E:Hid (QbL L=(L.length:Int)/\Qc6 L=L++[true]):=by show _/\_;simp[QbL,Qc6,d]
  have m:=h.mark d;have f:∀ i,w.frozen? ⟨b,i,none⟩=false:=h.2.frozen;have g:Hid (Qo ((w.setCell ⟨b,L.length,none⟩ (.bool true)).setCell ⟨b,16,none⟩ (Iv ((L.length:Int)+1))) b (L++[true])):=h.push d;have j:Hid (Qz (fun k=>k=b) (fun k=>k=b) w ((w.setCell ⟨b,L.length,none⟩ (.bool true)).setCell ⟨b,16,none⟩ (Iv ((L.length:Int)+1)))):=Qf0 (Qf0 (Qz.refl _ _) _ _) _ _;have a:((L.length:Int)==16)=false:=by simp;omega
  clear h;generalize o:L.length=n at c m g j E d a l;generalize L.getD n false=q at m;go_enter func237,ntmps237
  go_wp2_with fail
  go_region;go_wp2
  go_ret;rw[E.out.1,E.out.2]
  exact⟨Z,g.out,j.out.drew⟩
 ·have a:L.length=16:=by omega
  have E:Hid (QbL L=-1/\Qc6 L=L):=by show _/\_;simp[QbL,Qc6,d]
  have g:Hid (Qo w b L):=h;rw[a] at c
  clear h d a l;go_enter func237,ntmps237
  go_wp2
  go_ret;rw[E.out.1,E.out.2]
  exact⟨Z,g.out,Qz.refl _ _⟩
theorem QhP (r:Int) (h:Qo w b L) :
 Calls prog 269 #[Pv b 0,Iv r] w fun e w'=>e=.returned (.bool (hHas L r))/\Qo w' b (QfT L r)/\Qz (fun k=>k=b) (fun k=>k=b) w w':=by
 have C:Hid (Calls prog 272 #[Pv b 0,Iv r] w fun e w'=>e=.returned (.bool (hHas L r))/\w'=w):=QcA r h
 cases hh:hHas L r with
 | false =>
   have E:Hid (QfT L r=L):=by show _=_;simp[QfT,hh]
   have d:Hid (Qo w b L):=h;rw[hh] at C
   clear h hh;go_enter func269,ntmps269
   go_wp2_with (go_at_call 272;refine(C.out).mono ?_;rintro e w' ⟨rfl,a⟩;have a:=a.symm;subst a)
   go_ret;rw[E.out]
   exact⟨Z,d.out,Qz.refl _ _⟩
 | true =>
   obtain⟨k,rfl,n,l⟩:=QaX hh
   have E:Hid (QfT L (k:Int)=L.set k false):=by show _=_;simp[QfT,hh]
   have d:Hid (Qo (w.setCell ⟨b,k,none⟩ (.bool false)) b (L.set k false)):=h.setMark n false;have j:Hid (Qz (fun k=>k=b) (fun k=>k=b) w (w.setCell ⟨b,k,none⟩ (.bool false))):=Qf0 (Qz.refl _ _) _ _;have c:k<16:=by have:=h.1;omega
   have g:(k:Int)<16:=by omega
   have m:=h.mark c;have f:∀ i,w.frozen? ⟨b,i,none⟩=false:=h.2.frozen;rw[hh] at C
   generalize L.getD k false=q at m;clear h hh l;go_enter func269,ntmps269
   go_wp2_with (go_at_call 272;refine(C.out).mono ?_;rintro e w' ⟨rfl,a⟩;have a:=a.symm;subst a)
   go_ret;rw[E.out]
   exact⟨Z,d.out,j.out⟩
theorem QiL (w:World):Qo (w.alloc (.cells #[.bool false,.bool false,.bool false,.bool false,.bool false,.bool false,.bool false,.bool false,.bool false,.bool false,.bool false,.bool false,.bool false,.bool false,.bool false,.bool false,Iv 0] 303)) w.heap.size []:=by
 refine⟨by simp,World.rowIs_alloc w _ _ _ fun i a=>?_⟩
 have a:i<17:=a;unfold Qht;match i,a with
 | 0,_ | 1,_ | 2,_ | 3,_ | 4,_ | 5,_ | 6,_ | 7,_ | 8,_ | 9,_ | 10,_ | 11,_ | 12,_ | 13,_ | 14,_ | 15,_ | 16,_=>rfl
 | i+17,h=>exact absurd h (by omega)
theorem QkK (w:World) (n:Int) (x:-9223372036854775808<=n/\n<=9223372036854775807) :
 Calls prog 208 #[Iv n] w fun e w'=>e=.returned (Pv w.heap.size 0)/\Qo w' w.heap.size (QbV n)/\Below w.heap.size w w':=by
 have Z:Hid (Qo (w.alloc (.cells #[.bool false,.bool false,.bool false,.bool false,.bool false,.bool false,.bool false,.bool false,.bool false,.bool false,.bool false,.bool false,.bool false,.bool false,.bool false,.bool false,Iv 0] 303)) w.heap.size []):=QiL w;obtain⟨M,v⟩:∃ M,(min n 16).toNat=M:=⟨_,Yz⟩
 have E:Hid (QbV n=List.replicate M true):=by show _=_;rw[QbV,v]
 have m:∀ k:Nat,k<M->(k:Int)<n/\(k:Int)<16:=fun k o=>by omega
 have q:∀ k:Nat,¬ k<M->¬ (k:Int)<n\/¬ (k:Int)<16:=fun k o=>by omega
 go_enter func208,ntmps208
 by_cases t:16<n
 ·have p:M=16:=by omega
  go_wp2
  go_loopw [8] (fun i wr=>∃ k:Nat,k<=M/\i=Iv k/\Qo wr w.heap.size (List.replicate k true)/\Below w.heap.size w wr) (fun i _=>M - (intOf i).toNat)
  case atStart=>exact⟨0,Xb _,Yz,Z.out,Zr.alloc Ze _⟩
  case round =>
   obtain⟨k,o,rfl,j,h⟩:=hrel
   have f:Hid (Qo wr w.heap.size (List.replicate k true)):=j;have c:Hid (Below w.heap.size w wr):=h;clear j h Z;by_cases d:k<M
   ·obtain⟨r,u⟩:=m k d
    go_wp2_with fail
    refine(Qc4 f.out).mono ?_
    rintro e l ⟨rfl,b,a⟩
    have R:Hid (Qo l w.heap.size (List.replicate (k+1) true)/\Below w.heap.size w l):=by
     refine⟨by rw[<-Qfc (by omega)];exact b,c.out.trans (a.below c.out.size fun k o=>by omega)⟩
    clear b a f c;go_wp2
    go_roundw
    case rel=>exact⟨k+1,by omega,by go_num,R.out⟩
    case measure=>simp[intOf];omega
   ·have s:¬ (k:Int)<16:=by omega
    have g:k=M:=by omega
    go_wp2
    go_ret;refine⟨Yz,?_,c.out⟩
    rw[E.out,<-g];exact f.out
 ·go_wp2
  go_loopw [8] (fun i wr=>∃ k:Nat,k<=M/\i=Iv k/\Qo wr w.heap.size (List.replicate k true)/\Below w.heap.size w wr) (fun i _=>M - (intOf i).toNat)
  case atStart=>exact⟨0,Xb _,Yz,Z.out,Zr.alloc Ze _⟩
  case round =>
   obtain⟨k,o,rfl,j,h⟩:=hrel
   have f:Hid (Qo wr w.heap.size (List.replicate k true)):=j;have c:Hid (Below w.heap.size w wr):=h;clear j h Z;by_cases d:k<M
   ·obtain⟨r,u⟩:=m k d
    go_wp2_with fail
    refine(Qc4 f.out).mono ?_
    rintro e l ⟨rfl,b,a⟩
    have R:Hid (Qo l w.heap.size (List.replicate (k+1) true)/\Below w.heap.size w l):=by
     refine⟨by rw[<-Qfc (by omega)];exact b,c.out.trans (a.below c.out.size fun k o=>by omega)⟩
    clear b a f c;go_wp2
    go_roundw
    case rel=>exact⟨k+1,by omega,by go_num,R.out⟩
    case measure=>simp[intOf];omega
   ·have s:¬ (k:Int)<n:=by omega
    have g:k=M:=by omega
    go_wp2
    go_ret;refine⟨Yz,?_,c.out⟩
    rw[E.out,<-g];exact f.out
theorem under16:prog.underlying 301=some (.array 16 4):=by kernel_rfl
theorem underB:prog.underlying 4=some .bool:=by kernel_rfl
theorem sizeB:(prog.info? 4).map (·.size)=some 1:=by kernel_rfl
theorem size16:(prog.info? 301).map (·.size)=some 16:=by kernel_rfl
theorem QfU {b w9:World}{lo:Nat}(l:Qap Lay.int 3 b lo (.slice a xs.length c) xs cs) (p:-9223372036854775808<=x/\x<=9223372036854775807){o:Obj}(d:lo<=b.heap.size)
 (h:w9.ownsRow lo 3 1 (.slice (some ⟨g,0,none⟩) (xs.length+1) cap) (xs.length+1) (cs++[Iv x])) (e:(b.alloc o).grownBy w9 (Value.slice a xs.length c).ownBlock) (i:(Value.slice a xs.length c).ownBlock=some g\/g=b.heap.size+1) :
 Qap Lay.int 3 w9 lo (.slice (some ⟨g,0,none⟩) (xs.length+1) cap) (xs++[x]) (cs++[Iv x])/\∀ w,Below lo w b->Below lo w w9:=by
 have f:=l.below (Zd b o);have n:Lay.int.In (b.alloc o) (fun g=>lo<=g/\(Value.slice a xs.length c).ownBlock≠some g) x [Iv x]:=Lay.int_mk _ _ p;refine⟨Qap.push f n e (by simpa using i) h,fun w j=>(j.alloc d _).grown e (by simp;omega) (fun k m=>(f.lo_le m).1)⟩
def Qif (w:World) (l:List Int) (e:Ending) (w':World):Prop:=∃ a c,e=.returned (.slice a l.length c)/\intsL.In w' (fun g=>w.heap.size<=g) l [.slice a l.length c]/\Below w.heap.size w w'
theorem QhJ (h:Qo w b L) :
 Calls prog 278 #[Pv b 0] w fun e w'=>Qif w (Qam L) e w':=by
 obtain⟨i0,hi,T,K,V⟩:=pInfoI
 have O:w.rangeAt b 0 ((List.range 16).map fun i=>Value.bool (L.getD i false)):=fun j v z=>by
  rw[XS] at z
  cases hj:(List.range 16)[j]? with
  | none=>rw[hj] at z;cases z
  | some k =>
    have x:j<16:=by have:=(Zi hj).1;simpa using this
    rw[List.getElem?_range x] at hj
    cases hj
    rw[List.getElem?_range x] at z
    simp only[Option.map_some,Option.some.injEq] at z
    rw[<-z,XK]
    exact h.mark x
 have E:Hid (hTo L 16=Qam L):=Qms L 16 h.1
 have o:∀ (k:Nat) (l:World),k<16->(Instr.index 301 (.agg ((List.range 16).map fun i=>Value.bool (L.getD i false)).toArray) (Iv (k:Int))).run prog l=.ok (.bool (L.getD k false)) l:=fun k l hk=>by
  have hp:(part 4 ((List.range 16).map fun i=>Value.bool (L.getD i false)).toArray (k*1)).run prog l=.ok (.bool (L.getD k false)) l:=by
   have hc:((List.range 16).map fun i=>Value.bool (L.getD i false)).toArray[k*1]?=some (.bool (L.getD k false)):=by
    simp[hk]
   simp only[part,isAgg,Sem.run_bind,run_underlying underB,Result.andThen_ok,Sem.run_pure,Bool.false_eq_true,if_false,hc]
  have y:(sizeOf 4).run prog l=.ok 1 l:=by
   have U:=sizeB
   cases hq:prog.info? 4 with
   | none=>simp[hq] at U
   | some i=>simp[hq] at U;simp[sizeOf,typeInfo,hq,U]
  have S:(0:Int)<=(k:Int)/\(k:Int)<(16:Nat):=by omega
  simp only[Instr.index,asIntOf,Sem.run_bind,Sem.run_pure,run_underlying under16,Result.andThen_ok,S,and_self,if_true,y,Int.toNat_natCast,hp]
 have HS:Hid ((prog.info? 301).map (·.size)=some ((List.range 16).map fun i=>Value.bool (L.getD i false)).length):=by show _=_;rw[XN,List.length_range];exact size16
 have W:Hid (w.rangeAt b 0 ((List.range 16).map fun i=>Value.bool (L.getD i false))):=O;generalize ((List.range 16).map fun i=>Value.bool (L.getD i false))=N at O o W HS;clear O;clear h;go_enter func278,ntmps278
 go_wp2_with (refine wpList_load_mid Yz 301 (.tmp 8) Yz b 0 Yz N _ W.out under16 Yz HS.out ?_)
 go_loopw [3,10] (fun v u wr=>∃ k r,u=Iv (k:Nat)/\k<=16/\Qap Lay.int 3 wr w.heap.size v (hTo L k) r/\Below w.heap.size w wr) (fun _ u _=>16 - (intOf u).toNat)
 case atStart=>exact⟨0,[],Yz,by omega,Qap.nil _ _ _ _,Zr⟩
 case round =>
  obtain⟨k,r,rfl,hk,Q,P⟩:=hrel
  obtain⟨a,c,rfl⟩:=Q.formP
  have A:Hid (Qap Lay.int 3 wr w.heap.size (.slice a (hTo L k).length c) (hTo L k) r):=Q;have D:Hid (Below w.heap.size w wr):=P;have q:=QhL L k;have y:w.heap.size<=wr.heap.size:=P.size;clear Q P;by_cases M:k<16
  ·have aa:(k:Int)<16:=by omega
   have p:=fun l=>o k l M;clear o
   cases hm:L.getD k false with
   | false =>
     have C:Hid (hTo L (k+1)=hTo L k):=by show _=_;rw[hTo,hm];simp
     rw[hm] at p
     clear hm;go_wp2
     go_roundw
     case rel=>exact⟨k+1,r,by go_num,by omega,by rw[C.out];exact A.out,D.out⟩
     case measure=>simp[intOf];omega
   | true =>
     have C:Hid (hTo L (k+1)=hTo L k++[(k:Int)]):=by show _=_;rw[hTo,hm];simp
     rw[hm] at p
     have f:Hid (wr.ownsRow w.heap.size 3 1 (.slice a (hTo L k).length c) (hTo L k).length r):=A.out.own
     have R:Hid (∀ g t m,m.ownsRow w.heap.size 3 1 (.slice (some ⟨g,0,none⟩) ((hTo L k).length+1) t) ((hTo L k).length+1) (r++[Iv (k:Int)])->(wr.alloc (.cells #[Iv (k:Int)] 3)).grownBy m (Value.slice a (hTo L k).length c).ownBlock->((Value.slice a (hTo L k).length c).ownBlock=some g\/g=wr.heap.size+1) ->
      Qap Lay.int 3 m w.heap.size (.slice (some ⟨g,0,none⟩) ((hTo L k).length+1) t) (hTo L (k+1)) (r++[Iv (k:Int)])/\Below w.heap.size w m):=by
      intro g t m J h2 h3;obtain⟨H,I⟩:=QfU A.out (by omega) y J h2 h3
      rw[C.out]
      exact⟨H,I w D.out⟩
     have EL:Hid ((hTo L (k+1)).length=(hTo L k).length+1):=by show _=_;rw[C.out];simp
     clear hm A D C;generalize (hTo L k).length=n at f R EL q |-;go_wp2_with (at_builtin;refine wpList_append_lies _ Yz (.tmp 15) (.tmp 17) 76 Yz w.heap.size 3 i0 (Iv 0) 1 8 pUnderI hi T K V Yz (by decide) _ _ _ Yz (f.out.alloc _) ⟨wr.heap.size,0,none⟩ 1 1 [Iv (k:Int)] Yz Yz (Qk0 _ [_] _) (Qnt _) (by decide) (by unfold maxLen;omega) (by omega) (by simp;omega) (wr.heap.size+1) (by simp) ?_)
     intro X s m J d B F;obtain⟨H,I⟩:=R.out X s m J d B
     have A9:Hid (Qap Lay.int 3 m w.heap.size (.slice (some ⟨X,0,none⟩) (n+1) s) (hTo L (k+1)) (r++[Iv (k:Int)])):=H;have B9:Hid (Below w.heap.size w m):=I;clear J d B F f R H I;go_wp2
     go_roundw
     case rel=>exact⟨k+1,_,by go_num,by omega,A9.out,B9.out⟩
     case measure=>simp[intOf];omega
  ·have G:k=16:=by omega
   subst G
   have Z:Hid (Qif w (Qam L) (.returned (.slice a (hTo L 16).length c)) wr):=by
    rw[E.out]
    refine⟨a,c,Yz,?_,D.out⟩
    have:=A.out.lay
    rw[E.out] at this
    exact this
   clear A D o q;generalize (hTo L 16).length=n at Z;go_wp2
   go_ret;exact Z.out
theorem eqGuard16:prog.eqGuardType prog.depth 301=false:=by kernel_rfl
theorem QiS (f:Nat->Bool){c:Array Value}(b:c.size=16):((w.alloc (.cells c t)).setCells w.heap.size 0 ((List.range 16).map fun i=>Value.bool (f i)).toArray.toList).rowIs w.heap.size t 16 (fun i=>.bool (f i)):=by
 have e:Blk (w.alloc (.cells c t)) w.heap.size ([]++c.toList).toArray t:=by rw[List.nil_append,Array.toArray_toList];exact Qe w c t
 have a:=Blk.sets ((List.range 16).map fun i=>Value.bool (f i)) [] c.toList (w.alloc (.cells c t)) (by simp[b]) e;refine⟨_,a,by simp,fun i d=>?_⟩
 simp[d]
theorem Qf5 {f:Nat->Bool}(h:w.rowIs b t 16 (fun i=>.bool (f i))):w.rangeAt b 0 ((List.range 16).map fun i=>Value.bool (f i)):=fun j v c=>by
 rw[XS] at c
 cases hj:(List.range 16)[j]? with
 | none=>rw[hj] at c;cases c
 | some k =>
   have a:j<16:=by have:=(Zi hj).1;simpa using this
   rw[List.getElem?_range a] at hj
   cases hj
   rw[List.getElem?_range a] at c
   simp only[Option.map_some,Option.some.injEq] at c
   rw[<-c,XK]
   exact h.cell a
theorem Qo.marks (h:Qo w b L):w.rangeAt b 0 ((List.range 16).map fun i=>Value.bool (L.getD i false)):=fun j v c=>by
 rw[XS] at c
 cases hj:(List.range 16)[j]? with
 | none=>rw[hj] at c;cases c
 | some k =>
   have a:j<16:=by have:=(Zi hj).1;simpa using this
   rw[List.getElem?_range a] at hj
   cases hj
   rw[List.getElem?_range a] at c
   simp only[Option.map_some,Option.some.injEq] at c
   rw[<-c,XK]
   exact h.mark a
theorem Qjp (f:Nat->Bool):((List.range 16).map fun i=>Value.bool (f i)).toArray.all (·.oneCell')=true :=
 all_oneCell_toArray fun v a=>by obtain⟨i,_,rfl⟩:=List.mem_map.1 a;rfl
theorem QiK (w:World) (t:TypeId) (c:Array Value) (n:Nat) (a:n<=c.size):(w.alloc (.cells c t)).there w.heap.size 0 n:=fun j b=>by
 have h:=Qe w c t;rw[XK]
 refine⟨?_,Qj h j⟩
 rw[Qb h j c[j] (by simp)];rfl
theorem Qi1 (hN:l.length=N) (aa:N<=100000) (hl:intsL.In w Q l [.slice a N c]) (h:Qo w b L) :
 Calls prog 286 #[Pv b 0,.slice a N c] w fun e w'=>e=.returned (Iv (hPass L [] l))/\Below w.heap.size w w':=by
 have HX:Hid (∀ i x,l[i]?=some x->∃ g o,a=some ⟨g,o,none⟩/\g<w.heap.size/\w.cell? ⟨g,o+i,none⟩=some (Iv x)):=fun i x A=>by
  obtain⟨g,o,ds,e1,e2,e3,hc,hd,S⟩:=Yf hl A
  have U:ds=[Iv x]:=hd;subst U;refine⟨g,o,e1,e3,?_⟩
  have:=hc 0 (by decide)
  simpa[Lay.int] using this
 have X:Hid (l.length=N):=hN;have HL:Hid (L.length<=16):=h.1;have HH:Hid (Qo w b L):=h
 have s:Hid (w.rangeAt b 0 ((List.range 16).map fun i=>Value.bool (Zz L [] i))):=by
  have:=h.marks
  simp only[<-Qjk] at this
  exact this
 have z:Hid ((prog.info? 301).map (·.size)=some ((List.range 16).map fun i=>Value.bool (Zz L [] i)).length):=by show _=_;rw[XN,List.length_range];exact size16
 have T:Hid ((prog.info? 301).map (·.size)=some ((List.range 16).map fun i=>Value.bool (Zz L [] i)).toArray.size):=by show _=_;rw[List.size_toArray,XN,List.length_range];exact size16
 have P:Hid (((List.range 16).map fun i=>Value.bool (Zz L [] i)).toArray.all (·.oneCell')=true):=Qjp _
 have V:Hid ((w.alloc (.cells #[.bool false,.bool false,.bool false,.bool false,.bool false,.bool false,.bool false,.bool false,.bool false,.bool false,.bool false,.bool false,.bool false,.bool false,.bool false,.bool false] 301)).there w.heap.size 0 ((List.range 16).map fun i=>Value.bool (Zz L [] i)).toArray.size):=by
  refine QiK w _ _ _ ?_;rw[List.size_toArray,XN,List.length_range]
  exact Ze
 have W1:Hid (((w.alloc (.cells #[.bool false,.bool false,.bool false,.bool false,.bool false,.bool false,.bool false,.bool false,.bool false,.bool false,.bool false,.bool false,.bool false,.bool false,.bool false,.bool false] 301)).setCells w.heap.size 0 ((List.range 16).map fun i=>Value.bool (Zz L [] i)).toArray.toList).rowIs w.heap.size 301 16 (fun i=>.bool (Zz L [] i))):=QiS _ Z
 have W:Hid (Below w.heap.size w ((w.alloc (.cells #[.bool false,.bool false,.bool false,.bool false,.bool false,.bool false,.bool false,.bool false,.bool false,.bool false,.bool false,.bool false,.bool false,.bool false,.bool false,.bool false] 301)).setCells w.heap.size 0 ((List.range 16).map fun i=>Value.bool (Zz L [] i)).toArray.toList)):=by
  have:=Qz.setCells (O:=fun k=>k=w.heap.size) (O':=fun k=>k=w.heap.size) (b:=w.heap.size) Z ((List.range 16).map fun i=>Value.bool (Zz L [] i)).toArray.toList 0 _ ((Qz.refl _ w).alloc (.cells #[.bool false,.bool false,.bool false,.bool false,.bool false,.bool false,.bool false,.bool false,.bool false,.bool false,.bool false,.bool false,.bool false,.bool false,.bool false,.bool false] 301))
  exact this.below Ze (fun k hk=>by omega)
 clear h hl hN;generalize ((List.range 16).map fun i=>Value.bool (Zz L [] i))=m at s z T P V W1 W;go_enter func286,ntmps286
 go_wp2_with (first | (refine wpList_load_mid Z 301 (.tmp 10) Z b 0 Z m _ s.out under16 Z z.out ?_) | (refine wpList_store_mid Z 301 (.tmp 5) (.tmp 11) Z w.heap.size 0 m.toArray Z Z V.out T.out P.out ?_))
 go_loopw [14] (fun u wr=>∃ k,u=Iv (k:Nat)/\k<=N/\wr.rowIs w.heap.size 301 16 (fun i=>.bool (Zz L (l.take k) i))/\Below w.heap.size w wr/\hPass L [] l=hPass L (l.take k) (l.drop k)) (fun u _=>N - (intOf u).toNat)
 case atStart=>exact⟨0,Z,Xb _,W1.out,W.out,Z⟩
 case round =>
  obtain⟨k,rfl,hk,S,hB,hp⟩:=hrel
  have D:Hid (wr.rowIs w.heap.size 301 16 (fun i=>.bool (Zz L (l.take k) i))):=S;have t:Hid (Below w.heap.size w wr):=hB;have J:Hid (hPass L [] l=hPass L (l.take k) (l.drop k)):=hp;clear S hB hp W1 W s z T P V;by_cases F:k<N
  ·have f:l[k]?=some (l[k]'(by rw[X.out];exact F)):=Zg _;generalize l[k]'(by rw[X.out];exact F)=x at f;obtain⟨g,o,rfl,hg,K⟩:=HX.out k x f
   have ac:wr.cell? ⟨g,o+k,none⟩=some (Iv x):=(t.out.cell (p:=⟨g,o+k,none⟩) hg).trans K;have H:(k:Int)<N:=by omega
   have q:=QgW L l f;rw[<-J.out] at q
   have C:Hid (Calls prog 272 #[Pv b 0,Iv x] wr fun e w'=>e=.returned (.bool (hHas L x))/\w'=wr):=QcA x (HH.out.below t.out)
   cases hh:hHas L x with
   | false =>
     rw[hh] at C q
     have E:Hid (hPass L [] l=10):=by show _=_;simpa using q
     clear q hh K f;go_wp2_with (go_at_call 272;refine(C.out).mono ?_;rintro e w' ⟨rfl,n⟩;have n:=n.symm;subst n)
     go_ret;exact⟨by rw[E.out];rfl,t.out⟩
   | true =>
     obtain⟨j,rfl,hj,hm⟩:=QaX hh
     rw[hh] at C q
     have G:j<16:=by have:=HL.out;omega
     have M:(j:Int)<16:=by omega
     have R:wr.cell? ⟨w.heap.size,j,none⟩=some (.bool (Zz L (l.take k) j)):=D.out.cell G;have fj:∀ i,wr.frozen? ⟨w.heap.size,i,none⟩=false:=D.out.frozen;have EJ:Zz L (l.take k) j=!inB (l.take k) (j:Int):=by rw[Zz,hm,Bool.true_and]
     rw[EJ] at R
     cases A:inB (l.take k) (j:Int) with
     | true =>
       rw[A] at q R
       have E:Hid (hPass L [] l=13):=by show _=_;simpa using q
       clear q hh K f EJ A hm;go_wp2_with (go_at_call 272;refine(C.out).mono ?_;rintro e w' ⟨rfl,n⟩;have n:=n.symm;subst n)
       go_ret;exact⟨by rw[E.out];rfl,t.out⟩
     | false =>
       rw[A] at q R
       have E:Hid (hPass L [] l=hPass L (l.take (k+1)) (l.drop (k+1))):=by show _=_;simpa using q
       have ET:l.take (k+1)=l.take k++[(j:Int)]:=by rw[XV,f];rfl
       have RN:Hid ((wr.setCell ⟨w.heap.size,j,none⟩ (.bool false)).rowIs w.heap.size 301 16 (fun i=>.bool (Zz L (l.take (k+1)) i))):=by
        refine(D.out.set j (.bool false)).congr fun i A=>?_
        rw[ET,Qg4]
        by_cases e:i=j
        ·rw[Xs e,Xs e]
        ·rw[Xr e,Xr e]
       have BN:Hid (Below w.heap.size w (wr.setCell ⟨w.heap.size,j,none⟩ (.bool false))):=t.out.setCell (p:=⟨w.heap.size,j,none⟩) Ze _;clear q hh K f EJ A hm ET D t J;go_wp2_with (go_at_call 272;refine(C.out).mono ?_;rintro e w' ⟨rfl,n⟩;have n:=n.symm;subst n)
       go_roundw
       case rel=>exact⟨k+1,by go_num,by omega,RN.out,BN.out,E.out⟩
       case measure=>simp[intOf];omega
  ·have H:¬ (k:Int)<N:=by omega
   have v:l.length<=k:=by rw[X.out];omega
   have y:=Qii L l v;rw[<-J.out] at y
   have s:Hid (wr.rangeAt w.heap.size 0 ((List.range 16).map fun i=>Value.bool (Zz L (l.take k) i))):=Qf5 D.out;rw[XO v] at s
   have z:Hid ((prog.info? 301).map (·.size)=some ((List.range 16).map fun i=>Value.bool (Zz L l i)).length):=by show _=_;rw[XN,List.length_range];exact size16
   have B:∀ I,(Op.equalIn 10000 301 (.agg ((List.range 16).map fun i=>Value.bool (Zz L l i)).toArray) (.agg #[.bool false,.bool false,.bool false,.bool false,.bool false,.bool false,.bool false,.bool false,.bool false,.bool false,.bool false,.bool false,.bool false,.bool false,.bool false,.bool false])).run prog I=.ok ((Qam L).all (fun r=>inB l r)) I:=fun I=>by
    have:=Qb9 (d:=9998) under16 underB sizeB I ((List.range 16).map (Zz L l)) (List.replicate 16 false) (by simp) (by simp)
    rw[List.map_map] at this
    refine Eq.trans this ?_;congr 1
    rw[Bool.eq_iff_iff,beq_iff_eq]
    exact Qg0 HL.out
   generalize ((List.range 16).map fun i=>Value.bool (Zz L l i))=m at s z B;have ab:=eqGuard16;clear J D HX v
   cases hq:(Qam L).all (fun r=>inB l r) with
   | true =>
     rw[hq] at B y
     have E:Hid (hPass L [] l=0):=by show _=_;simpa using y
     clear y hq;go_wp2_with (refine wpList_load_mid Z 301 (.tmp 5) Z w.heap.size 0 Z m _ s.out under16 Z z.out ?_)
     go_ret;exact⟨by rw[E.out];rfl,t.out⟩
   | false =>
     rw[hq] at B y
     have E:Hid (hPass L [] l=12):=by show _=_;simpa using y
     clear y hq;go_wp2_with (refine wpList_load_mid Z 301 (.tmp 5) Z w.heap.size 0 Z m _ s.out under16 Z z.out ?_)
     go_ret;exact⟨by rw[E.out];rfl,t.out⟩
theorem QI {a:World}(h:Below B a w) (n:Nat):Below B a (w.drewN n):=⟨h.os,h.tape,h.output,h.size,h.block⟩
theorem Qa {p:Prop}(h:p):Hid p:=h
theorem QhX (h:intsL.In w Q l [.slice a N c])(hi:i<=l.length) (c':Nat):intsL.In w Q (l.take i) [.slice a i c']:=by
 obtain⟨g,d,e,f⟩:=h
 simp only[List.cons.injEq,Value.slice.injEq,and_true] at e
 obtain⟨rfl,_,rfl⟩:=e
 refine⟨a,c',by simp[Nat.min_eq_left hi],fun j x b=>f j x ?_⟩
 rw[XR] at b
 split at b
 ·exact b
 ·cases b
abbrev Qgf (x:MBlock 6) (b:BP):Array Value:=#[Iv x.regs,.slice b.pP x.params.length b.cP,.slice b.pC x.code.length b.cC,Iv x.fin.op,Iv x.fin.a,Iv x.fin.yes.block,.slice b.e.pYR x.fin.yes.regs.length b.e.cYR,.slice b.e.pYA x.fin.yes.args.length b.e.cYA,Iv x.fin.no.block,.slice b.e.pNR x.fin.no.regs.length b.e.cNR,.slice b.e.pNA x.fin.no.args.length b.e.cNA,.slice b.e.pA x.fin.args.length b.e.cA]
abbrev zeroB:Array Value:=#[Iv 0,Nv,Nv,Iv 0,Iv 0,Iv 0,Nv,Nv,Iv 0,Nv,Nv,Nv]
theorem QmB (x:MBlock 6) (b:BP):(Qgf x b).all (·.oneCell')=true:=by
 show ([Iv x.regs,.slice b.pP x.params.length b.cP,.slice b.pC x.code.length b.cC,Iv x.fin.op,Iv x.fin.a,Iv x.fin.yes.block,.slice b.e.pYR x.fin.yes.regs.length b.e.cYR,.slice b.e.pYA x.fin.yes.args.length b.e.cYA,Iv x.fin.no.block,.slice b.e.pNR x.fin.no.regs.length b.e.cNR,.slice b.e.pNA x.fin.no.args.length b.e.cNA,.slice b.e.pA x.fin.args.length b.e.cA]:List Value).toArray.all (·.oneCell')=true;exact all_oneCell_toArray (Xe.1 Z)
theorem QkN {c:Array Value}(h:Blk w R c 86) (a:c.size=12) (x:MBlock 6) (b:BP):w.there R 0 (Qgf x b).size:=h.there (by rw[a];exact Nat.le_of_eq Z)
theorem QmQ (h:Blk w R zeroB 86) (x:MBlock 6) (b:BP):Blk (w.setCells R 0 (Qgf x b).toList) R (Qgf x b) 86:=Blk.sets (Qgf x b).toList [] zeroB.toList w Z h
theorem QeZ {B:Nat}{a:World}{R:Nat}(b:B<=R):∀ (vs:List Value) (o:Nat){w:World},Below B a w->Below B a (w.setCells R o vs)
 | [],_,_,h=>h
 | v::vs,o,w,h=>QeZ b vs (o+1) (h.setCell (p:=⟨R,o,none⟩) b v)
theorem Qgc {l l2:List Oper}{outs:List Tmp}{gs:List (Nat × Option Bool)}{a:Act}{Q:Exit->Act->World->Prop}
 (E:Tmp->Value->World->Prop) (W:World->Prop) (R:World->World->Prop) (PX:List PanicEntry->World->Prop) (H:∀ ch a' w,a'.defers=a.defers->PX ch w->Q (.panic ch) a' w)
 (J:P.follows .mixedOrders=true)  (s:a.tmps.size=m) (c:n<=m) (y:QaY l n outs gs bs=true)
 (p:(Qcu 0 (l++l2)&&(Qbp l.length l&&QaK (l++l2) l.length l2))=true)
 (u:∀ t v w w',R w w'->E t v w->E t v w') (r:ZJ E l.toArray gs) (d:W w.drew) (z:Qak E a w.drew outs)
 (C:AllOkC E W R PX P l bs)
 (b:∀ (vs:Tmp->Value) w',W w'->(∀ t,(Qt l).contains t=true->E t (vs t) w')->wpList P (l++l2).toArray Q l2 (QM a vs (Qt l)) w') :
 (Code.region id (l++l2).toArray true).wp P Q a w:=by
 simp only[Bool.and_eq_true] at p
 obtain⟨g,k,f⟩:=p
 refine wp_region_any J ?_
 have i:wpAny P .any l.toArray (Exit.then (fun a w=>wpList P (l++l2).toArray Q l2 a w) Q) l.length (Array.replicate l.length false) a w.drew:=by
  have F:(fun j=>(Array.replicate l.length false).getD j false)=fun _=>false:=by
   funext j
   rw[Za,Array.getElem?_replicate]
   split<;>rfl
  refine Qbq (E:=fun _=>E) (W:=fun _=>W) (PX:=PX) (Q:=Exit.then (fun a w=>wpList P (l++l2).toArray Q l2 a w) Q) (a0:=a) (outs:=outs) (gs:=gs) (bs:=bs) (fun ch a' w' x I=>H ch a' w' x I) (Qay (s ▸ c) y) (fun _=>r) (QgD u l bs 0 C) (fun vs S w' _ d K=>b vs w' d K) _ _ _ _ (by simp) ?_ ⟨d,(by rw[F];intro j o _ h;cases h),Z,Z,fun _ _=>rfl,fun t G _=>Qa6 outs z t G,?_⟩
  ·simp only[Array.toList_replicate]
   exact Zt (List.length_filter_le _ _) (by simp)
  ·intro j o t L N D;simp[Array.getD] at D
 have:=Qbu (Q:=Q) g k f l.length (Array.replicate l.length false) a w.drew (by simp) (fun q o M A=>by simp[Array.getD] at A) i
 have e:(Array.replicate l.length false++Array.replicate l2.length false:Array Bool)=Array.replicate (l++l2).toArray.size false:=by
  simp
 have B:l.length+l2.length=(l++l2).toArray.size:=by simp
 rw[e,B] at this
 exact this
theorem ZN {lo:List Oper}{outs:List Tmp}{gs:List (Nat × Option Bool)}{a:Act}{Q:Exit->Act->World->Prop}
 (k:Nat) (E:Tmp->Value->World->Prop) (W:World->Prop) (R:World->World->Prop) (PX:List PanicEntry->World->Prop) (j:∀ ch a' w,a'.defers=a.defers->PX ch w->Q (.panic ch) a' w)
 (r:P.follows .mixedOrders=true)  (d:a.tmps.size=m) (c:n<=m) (g:QaY (lo.take k) n outs gs bs=true)
 (f:(Qcu 0 lo&&(Qbp (lo.take k).length (lo.take k)&&QaK lo (lo.take k).length (lo.drop k)))=true)
 (p:∀ t v w w',R w w'->E t v w->E t v w') (e:ZJ E (lo.take k).toArray gs) (q:W w.drew) (i:Qak E a w.drew outs)
 (o:AllOkC E W R PX P (lo.take k) bs)
 (b:∀ ops (vs:Tmp->Value) w',W w'->(∀ t,(Qt (lo.take k)).contains t=true->E t (vs t) w')->wpList P ops Q (lo.drop k) (QM a vs (Qt (lo.take k))) w') :
 (Code.region id lo.toArray true).wp P Q a w:=by
 have h:=Qgc (id:=id) (l:=lo.take k) (l2:=lo.drop k) (Q:=Q) E W R PX j r d c g (by rw[List.take_append_drop];exact f) p e q i o (b _);rwa [List.take_append_drop] at h
section
variable {w w' w2:World}{b most:Nat}{m:List (MFunc 6)}{M M' N:IM}{sc sa:Int}{g g1:MG}{e:Ending}
theorem iInfo64:∃ i,prog.info? 2=some i/\i.zero=some (Iv 0)/\i.size=1/\i.bytes=8:=by
 have h:(prog.info? 2).map (fun i=>(i.zero,i.size,i.bytes))=some (some (Iv 0),1,8):=by kernel_rfl
 cases e:prog.info? 2 with
 | none=>rw[e] at h;cases h
 | some i =>
   rw[e] at h
   simp only[Option.map_some,Option.some.injEq,Prod.mk.injEq] at h
   exact⟨i,Z,h.1,h.2.1,h.2.2⟩
theorem iUnder64:prog.underlying 25=some (.slice 2):=by kernel_rfl
end
theorem Qfq {l:List Oper}{S:Nat->Bool}(a:Qgd l S){i:Nat}{o:Oper}(b:l[q]?=some o) (d:QdW l 30 o i=true) (c:S i=false):S q=false:=by
 cases h:S q with
 | false=>rfl
 | true =>
   have:S i=true:=QcF (all:=l) (S:=fun j=>S j=true) a 30 o d (a q o b h)
   rw[c] at this;cases this
theorem Qnh {i:Nat}{S:Nat->Bool}(h:j≠i):Qcv i S j=S j:=by
 have:(j==i)=false:=by simpa using h
 unfold Qcv;rw[this,Bool.false_or]
theorem Qoa {i:Nat}{S:Nat->Bool}:Qcv i S i=true:=by simp[Qcv]
def WY (w6:World) (HP:World->Prop) (hk:Nat) (S:Nat->Bool) (w:World):Prop:=(S hk=false/\Below w6.heap.size w6 w)\/(S hk=true/\HP w)
section
variable {Z:Nat}{w6 w w':World}{HP:World->Prop}{HZ:Nat->World->Prop}{hk st i:Nat}{S:Nat->Bool}{R:Q4->Prop}{v:Value}
theorem WY.pre (h:WY w6 HP hk S w) (a:S hk=false):Below w6.heap.size w6 w:=by
 rcases h with h | h
 ·exact h.2
 ·rw[a] at h;cases h.1
theorem WY.did (p:HP w'):WY w6 HP hk (Qcv hk S) w':=.inr ⟨Qoa,p⟩
theorem WY.fin (h:WY w6 HP hk S w) (a:S hk=true):HP w:=by
 rcases h with h | h
 ·rw[a] at h;cases h.1
 ·exact h.2
end
abbrev Zq (x:Qs) (i:IP):Array Value:=#[Iv x.op,Iv x.a,Iv x.b,Iv x.c,Iv x.k,Iv x.n,.slice i.pR x.regs.length i.cR,.slice i.pA x.args.length i.cA]
def TRd (w:World) (Q:Nat->Prop) (a:Option Addr) (L:List (TT 6)):Prop :=
 ∀ i t,L[i]?=some t->∃ g a' c',a=some ⟨g,0,none⟩/\w.cell? ⟨g,i*3,none⟩=some (Iv t.kind)/\w.cell? ⟨g,i*3+1,none⟩=some (Iv t.r)/\w.cell? ⟨g,i*3+2,none⟩=some (.slice a' t.len c')/\TIn w Q t a'/\t.ok
section
variable {w w':World}{O O':Nat->Prop}{v:Value}{L:List (TT 6)}
theorem TRd.below (h:TRd w Q a L) (b:Below w.heap.size w w'):TRd w' Q a L:=fun i t m=>by
 obtain⟨g,l,o,e,d,f,j,k,n⟩:=h i t m
 have c:g<w.heap.size:=Xi w ⟨g,i*3,none⟩ d;exact⟨g,l,o,e,(b.cell (p:=⟨g,i*3,none⟩) c).trans d,(b.cell (p:=⟨g,i*3+1,none⟩) c).trans f,(b.cell (p:=⟨g,i*3+2,none⟩) c).trans j,k.below b,n⟩
end
theorem underTs:prog.underlying 80=some (.slice 105):=by kernel_rfl
theorem infoT:(prog.info? 105).map (fun i=>(i.zero,i.size,i.bytes))=some (some (.agg #[Iv 0,Iv 0,Nv]),3,40):=by kernel_rfl
theorem infoT_parts:∃ i,prog.info? 105=some i/\i.zero=some (.agg #[Iv 0,Iv 0,Nv])/\i.size=3/\i.bytes=40:=by
 have h:=infoT
 cases hi:prog.info? 105 with
 | none=>rw[hi] at h;cases h
 | some i=>rw[hi] at h;simp at h;exact⟨i,Z,h.1,h.2.1,h.2.2⟩
structure Bx2 (w wr:World) (k r:Int) (a:Option Addr) (len c:Nat):Prop where
 bel:Below w.heap.size w wr
 box:wr.heap[w.heap.size]?=some (.cells #[Iv k,Iv r,.slice a len c] 105 (0,0))
 res:wr.heap[w.heap.size+1]?=some (.cells #[Iv 0,Iv 0,Nv] 105 (0,0))
theorem Bx2.start (w:World) (k r:Int) (a:Option Addr) (len c:Nat):Bx2 w ((w.alloc (.cells #[Iv k,Iv r,.slice a len c] 105)).alloc (.cells #[Iv 0,Iv 0,Nv] 105)) k r a len c :=
 ⟨((Below.refl _ w).alloc Ze _).alloc (by simp) _,(Below.heap_alloc _ _ _ (by simp)).trans (Qe w _ _),by have:=Qe (w.alloc (.cells #[Iv k,Iv r,.slice a len c] 105)) #[Iv 0,Iv 0,Nv] 105;simpa using this⟩
theorem Bx2.below {wr:World}{k r:Int}{len:Nat}(h:Bx2 w wr k r a len c) (b:Below wr.heap.size wr w'):Bx2 w w' k r a len c :=
 ⟨h.bel.trans (b.mono h.bel.size),QaT h.box b,QaT h.res b⟩
theorem Bx2.stored {wr:World}{k r:Int}{len:Nat}(h:Bx2 w wr k r a len c) (d r':Int) (a':Option Addr) (b c':Nat) :
 (((wr.setCell ⟨w.heap.size+1,0,none⟩ (Iv d)).setCell ⟨w.heap.size+1,1,none⟩ (Iv r')).setCell ⟨w.heap.size+1,2,none⟩ (.slice a' b c')).heap[w.heap.size+1]?=some (.cells #[Iv d,Iv r',.slice a' b c'] 105 (0,0)) /\
 Below w.heap.size w (((wr.setCell ⟨w.heap.size+1,0,none⟩ (Iv d)).setCell ⟨w.heap.size+1,1,none⟩ (Iv r')).setCell ⟨w.heap.size+1,2,none⟩ (.slice a' b c')):=by
 refine⟨?_,((h.bel.setCell (by simp) _).setCell (by simp) _).setCell (by simp) _⟩
 have e:=Qh h.res 0 (Iv d);have f:=Qh e 1 (Iv r');have g:=Qh f 2 (.slice a' b c');simpa using g
def Qlj (w:World) (b:Option Addr) (m:Nat) (nm:Nat->Int):Prop:=∀ i,i<m->∃ g o,b=some ⟨g,o,none⟩/\w.cell? ⟨g,o+i,none⟩=some (Iv (nm i))
theorem Qlj.below {b:Option Addr}{a:Nat->Int}(h:Qlj w b m a) (k:Below w.heap.size w w'):Qlj w' b m a:=fun i d=>by
 obtain⟨g,o,e,c⟩:=h i d
 exact⟨g,o,e,(k.cell (p:=⟨g,o+i,none⟩) (Xi w ⟨g,o+i,none⟩ c)).trans c⟩
def Qof (o:Option Int) (e:Ending):Prop:=match o with
 | some v=>e=.returned (.tuple #[.int .i64 v,.bool true])
 | none=>e=.returned (.tuple #[.int .i64 0,.bool false])
theorem Qf9 (k r:Int) (a:Option Addr) (len c:Nat) (b:Option Addr) (m d:Nat) (f:Nat->Int) (w:World) (i:Qlj w b m f) :
 Calls prog 290 #[.agg #[Iv k,Iv r,.slice a len c],.slice b m d] w fun e w'=>Qof (ZK m f k r) e/\Below w.heap.size w w':=by
 have p:Hid (Qlj w b m f):=i;clear i;by_cases h:k=1
 ·subst h;rw[show ZK m f 1 r=some r by simp[ZK]]
  go_enter func290,ntmps290
  go_wp2_with fail
  go_ret2;exact⟨Z,(Below.refl _ w).alloc Ze _⟩
 ·have u:(k==1)=false:=by simpa using h
  rcases (show r<0\/(0<=r/\(m:Int)<=r)\/(0<=r/\r<m) by omega) with n | ⟨n,s⟩|⟨n,s⟩
  ·rw[show ZK m f k r=none by unfold ZK;rw[Xr h,Xs (Or.inl n)]]
   clear h;go_enter func290,ntmps290
   go_wp2_with fail
   go_ret2;exact⟨Z,(Below.refl _ w).alloc Ze _⟩
  ·rw[show ZK m f k r=none by unfold ZK;rw[Xr h,Xs (Or.inr s)]]
   clear h;have t:¬ r<0:=by omega
   go_enter func290,ntmps290
   go_wp2_with fail
   go_ret2;exact⟨Z,(Below.refl _ w).alloc Ze _⟩
  ·obtain⟨j,rfl⟩:=Xc n
   obtain⟨g,o,rfl,q⟩:=p.out j (by omega)
   have y:g<w.heap.size:=Xi w ⟨g,o+j,none⟩ q;have t:¬ (j:Int)<0:=by omega
   have x:¬ (m:Int)<=j:=by omega
   by_cases l:f j<0
   ·rw[show ZK m f k j=none by unfold ZK;rw[Xr h,Xr (by omega),Xs (by simpa using l)]]
    clear h;generalize f j=v at q l;go_enter func290,ntmps290
    go_wp2_with fail
    go_ret2;exact⟨Z,(Below.refl _ w).alloc Ze _⟩
   ·rw[show ZK m f k j=some (f j) by unfold ZK;rw[Xr h,Xr (by omega),Xr (by simpa using l)];rfl]
    clear h;generalize f j=v at q l |-;go_enter func290,ntmps290
    go_wp2_with fail
    go_ret2;exact⟨Z,(Below.refl _ w).alloc Ze _⟩
structure QcC (w:World) (G len:Nat){n:Nat}(l:List (TT n)):Prop where
 row:∃ cur,w.heap[G]?=some (.cells cur 105 (0,0))/\cur.size=len*3/\∀ (i:Nat) (x:TT n),l[i]?=some x->∃ a c,cur[i*3]?=some (Iv x.kind)/\cur[i*3+1]?=some (Iv x.r)/\cur[i*3+2]?=some (.slice a x.len c)/\TIn w (Qcs (G+1)) x a
theorem QcC.below {len:Nat}{l:List (TT n)}(h:QcC w G len l) (b:Below w.heap.size w w'):QcC w' G len l:=by
 obtain⟨d,e,f,g⟩:=h.row
 refine⟨d,(b.block G (XC e)).trans e,f,fun i x p=>?_⟩
 obtain⟨a,c,o,k,m,j⟩:=g i x p
 exact⟨a,c,o,k,m,j.below b⟩
theorem QcC.lt {len:Nat}{l:List (TT n)}(h:QcC w G len l):G<w.heap.size:=by
 obtain⟨a,b,c,d⟩:=h.row
 exact XC b
theorem QcC.frozen {len:Nat}{l:List (TT n)}(h:QcC w G len l) (i:Nat):w.frozen? ⟨G,i,none⟩=false:=by
 obtain⟨a,b,c,d⟩:=h.row
 exact Qj b i
theorem QcC.has {len:Nat}{l:List (TT n)}(h:QcC w G len l) (i:Nat) (hi:i<len*3):∃ v,w.cell? ⟨G,i,none⟩=some v:=by
 obtain⟨a,b,c,d⟩:=h.row
 exact⟨a[i]'(by omega),Qb b i _ (Xj (by omega))⟩
theorem QcC.lin {len:Nat}{l:List (TT n)}(h:QcC w G len l):LIn w (Qcs G) l (some ⟨G,0,none⟩):=by
 obtain⟨g,b,p,d⟩:=h.row
 intro i x o;obtain⟨a,c,m,f,j,e⟩:=d i x o
 refine⟨G,0,a,c,Z,Ze,?_,?_,?_,e.mono (fun k q _=>by omega)⟩
 ·rw[XK];exact Qb b _ _ m
 ·rw[XK];exact Qb b _ _ f
 ·rw[XK];exact Qb b _ _ j
theorem QcC.set {len:Nat}{l:List (TT n)}(h:QcC w G len l) (A:l.length=q) (E:q<len){x:TT n}(C:TIn w (Qcs (G+1)) x a) :
 QcC (((w.setCell ⟨G,q*3,none⟩ (Iv x.kind)).setCell ⟨G,q*3+1,none⟩ (Iv x.r)).setCell ⟨G,q*3+2,none⟩ (.slice a x.len c)) G len (l++[x]):=by
 obtain⟨v,k,m,o⟩:=h.row
 have D:=Qh k (q*3) (Iv x.kind);have z:=Qh D (q*3+1) (Iv x.r);have j:=Qh z (q*3+2) (.slice a x.len c)
 have f:∀ {y:TT n} {b:Option Addr},TIn w (Qcs (G+1)) y b->TIn (((w.setCell ⟨G,q*3,none⟩ (Iv x.kind)).setCell ⟨G,q*3+1,none⟩ (Iv x.r)).setCell ⟨G,q*3+2,none⟩ (.slice a x.len c)) (Qcs (G+1)) y b :=
  fun e=>((e.setCell (by simp) _).setCell (by simp) _).setCell (by simp) _
 refine⟨_,j,by simp[m],fun i y e=>?_⟩
 rw[List.getElem?_append] at e
 split at e
 ·rename_i p
  obtain⟨b,d,B,t,u,s⟩:=o i y e
  refine⟨b,d,?_,?_,?_,f s⟩
  ·simp only[Array.getElem?_setIfInBounds]
   rw[Xr (by omega),Xr (by omega),Xr (by omega)];exact B
  ·simp only[Array.getElem?_setIfInBounds]
   rw[Xr (by omega),Xr (by omega),Xr (by omega)];exact t
  ·simp only[Array.getElem?_setIfInBounds]
   rw[Xr (by omega),Xr (by omega),Xr (by omega)];exact u
 ·rename_i p
  have g:i=q:=by
   have:=(Zi e).1
   simp at this
   omega
  subst g;simp[A] at e
  subst e;refine⟨a,c,?_,?_,?_,f C⟩
  ·simp only[Array.getElem?_setIfInBounds,Array.size_setIfInBounds]
   rw[Xr (by omega),Xr (by omega),Xs Y,Xs (by omega)]
  ·simp only[Array.getElem?_setIfInBounds,Array.size_setIfInBounds]
   rw[Xr (by omega),Xs Y,Xs (by omega)]
  ·simp only[Array.getElem?_setIfInBounds,Array.size_setIfInBounds]
   rw[Xs Y,Xs (by omega)]
abbrev zeroT:Value:=.agg #[Iv 0,Iv 0,Nv]
def Qgv {n:Nat}(w w':World) (o:Option (TT n)) (e:Ending):Prop:=match o with
 | some u=>∃ a' c',e=.returned (.tuple #[Tv u a' c',.bool true])/\TIn w' (Qcs w.heap.size) u a'/\Below w.heap.size w w'
 | none=>e=.returned (.tuple #[zeroT,.bool false])/\Below w.heap.size w w'
def QmE (f n:Nat):Prop:=∀ (t:TT n) (a:Option Addr) (c:Nat) (b:Option Addr) (m d:Nat) (nm:Nat->Int) (w:World),TIn w All t a->t.count<=2000->Qlj w b m nm ->
 Calls prog f #[Tv t a c,.slice b m d] w fun e w'=>Qgv w w' (t.ren m nm) e
theorem Qh7 (w:World) (len:Nat) (h:len<=2000):(Instr.makeSlice 80 (Iv len) (Iv len)).run prog w=.ok (.slice (some ⟨w.heap.size,0,none⟩) len len) (w.alloc (.cells (madeCells #[Iv 0,Iv 0,Nv] (len*3)) 105)):=by
 obtain⟨e,d,c,a,b⟩:=infoT_parts
 have:=run_make (P:=prog) w 80 105 e _ underTs d c .i64 .i64 len len (by omega) (by omega) (by rw[b];omega) (by omega)
 rw[a] at this
 exact this
structure RnX (w wr:World) (k r:Int) (a:Option Addr) (len c G:Nat){n:Nat}(l:List (TT n)):Prop where
 bx:Bx2 w wr k r a len c
 row:QcC wr G len l
 hG:w.heap.size+1<G
section
variable {w wr w':World}{k r:Int}{a:Option Addr}{len c G n:Nat}{l:List (TT n)}
theorem RnX.start (h:Bx2 w wr k r a len c):RnX w (wr.alloc (.cells (madeCells #[Iv 0,Iv 0,Nv] (len*3)) 105)) k r a len c wr.heap.size ([]:List (TT n)) :=
 ⟨h.below ((Below.refl _ wr).alloc Ze _),⟨_,Qe wr _ _,size_madeCells _ _,fun i x b=>by simp at b⟩,XC h.res⟩
theorem RnX.below (h:RnX w wr k r a len c G l) (b:Below wr.heap.size wr w'):RnX w w' k r a len c G l:=⟨h.bx.below b,h.row.below b,h.hG⟩
theorem Bx2.setG (h:Bx2 w wr k r a len c) (b:w.heap.size+1<G) (i:Nat) (v:Value):Bx2 w (wr.setCell ⟨G,i,none⟩ v) k r a len c :=
 ⟨h.bel.setCell (by simp;omega) _,(Xd _ _ _ _ (by simp;omega)).trans h.box,(Xd _ _ _ _ (by simp;omega)).trans h.res⟩
theorem RnX.set (h:RnX w wr k r a len c G l)(d:l.length=q) (b:q<len){x:TT n}{a':Option Addr}{c':Nat}(e:TIn wr (Qcs (G+1)) x a') :
 RnX w (((wr.setCell ⟨G,q*3,none⟩ (Iv x.kind)).setCell ⟨G,q*3+1,none⟩ (Iv x.r)).setCell ⟨G,q*3+2,none⟩ (.slice a' x.len c')) k r a len c G (l++[x]) :=
 ⟨((h.bx.setG h.hG _ _).setG h.hG _ _).setG h.hG _ _,h.row.set d b e,h.hG⟩
end
theorem Qdm {a:Nat->Int}{n:Nat}{t:TT (n+1)}{r':Int}(c:ZK m a t.kind t.r=some r'){l':List (TT n)}(d:ZU (TT.ren m a) t.2.2=some l'):t.ren m a=some (mkT t.kind r' l'):=by
 show (match ZK m a t.1 t.2.1 with | none=>none | some r=>match ZU (TT.ren (n:=n) m a) t.2.2 with | none=>none | some l=>some ((t.1,r,l):Int × Int × List (TT n)))=_;have b:ZK m a t.1 t.2.1=some r':=c;rw[b,d]
 rfl
theorem Qe3 {a:Nat->Int}{n:Nat}{t:TT (n+1)}(c:ZK m a t.kind t.r=none):t.ren m a=none:=by
 show (match ZK m a t.1 t.2.1 with | none=>none | some r=>match ZU (TT.ren (n:=n) m a) t.2.2 with | none=>none | some l=>some ((t.1,r,l):Int × Int × List (TT n)))=_;have b:ZK m a t.1 t.2.1=none:=c;rw[b]
 rfl
theorem Qfm {a:Nat->Int}{n:Nat}{t:TT (n+1)}(b:ZU (TT.ren m a) t.2.2=none):t.ren m a=none:=by
 show (match ZK m a t.1 t.2.1 with | none=>none | some r=>match ZU (TT.ren (n:=n) m a) t.2.2 with | none=>none | some l=>some ((t.1,r,l):Int × Int × List (TT n)))=_;rw[b]
 cases ZK m a t.1 t.2.1<;>rfl
theorem rename_any:∀ n,QmE 285 n:=by
 intro n
 induction n with
 | zero=>intro t;exact Empty.elim t
 | succ n ih =>
   intro t a c b m d s w ht af L;have IH:Hid (QmE 285 n):=ih;have ab:Hid (Qlj w b m s):=L;have hT:Hid (LIn w All t.2.2 a):=ht.list;have V:Hid (∀ x∈t.2.2,x.count<=2000):=fun x H=>by have:=t.count_kid H;omega
   have M:t.2.2.length<=2000:=by have:=t.len_lt_count;rw[t.len_eq] at this;omega
   have N:Hid (ZK m s t.kind t.r=none->t.ren m s=none):=Qe3;have R:Hid (ZU (TT.ren m s) t.2.2=none->t.ren m s=none):=Qfm;have J:Hid (∀ B h,ZK m s t.kind t.r=some B->ZU (TT.ren m s) t.2.2=some h->t.ren m s=some (mkT t.kind B h)):=fun B h h1 h2=>Qdm h1 h2;generalize t.ren m s=S at N R J |-;simp only[Tv,TT.len_eq]
   generalize t.2.2=l at hT V M R J |-;generalize t.kind=k at N J |-;generalize t.r=r at N J |-;clear ht af L ih t;go_enter func285,ntmps285
   go_wp2_with fail
   have X1:Hid (Bx2 w ((w.alloc (.cells #[Iv k,Iv r,.slice a l.length c] 105)).alloc (.cells #[Iv 0,Iv 0,Nv] 105)) k r a l.length c):=Bx2.start w k r a l.length c;generalize (w.alloc (.cells #[Iv k,Iv r,.slice a l.length c] 105)).alloc (.cells #[Iv 0,Iv 0,Nv] 105)=w1 at X1 |-;refine(Qf9 k r a l.length c b m d s w1 (ab.out.below X1.out.bel)).mono ?_
   rintro e I ⟨hr,b2⟩;have E:Hid (Bx2 w I k r a l.length c):=X1.out.below b2;clear X1 b2;have e2:I.cell? ⟨w.heap.size,2,none⟩=some (.slice a l.length c):=Qb E.out.box 2 _ Yz
   cases hrr:ZK m s k r with
   | none =>
     rw[hrr] at hr
     obtain rfl:e=_:=hr;have z:S=none:=N.out hrr;subst z;have D:=E.out.stored 0 0 none 0 0;have DD:Hid (Below w.heap.size w _):=D.2;have g0:=Qb E.out.res 0 _ Yz;have g1:=Qb E.out.res 1 _ Yz;have g2:=Qb E.out.res 2 _ Yz;have z0:=Qj E.out.res 0;have z1:=Qj E.out.res 1;have z2:=Qj E.out.res 2;have x0:=Qb D.1 0 _ Yz;have x1:=Qb D.1 1 _ Yz;have x2:=Qb D.1 2 _ Yz;clear D hrr N R J;go_wp2_with fail
     exact Xy (v:=.tuple #[zeroT,.bool false]) (by simp[results,results285,go_sem,x0,x1,x2]) Yz ⟨Yz,DD.out⟩
   | some B =>
     rw[hrr] at hr
     obtain rfl:e=_:=hr;have HR:Hid (ZK m s k r=some B):=hrr;clear hrr;have ad:=Qh7 I l.length M;have ag:w.heap.size<I.heap.size:=XC E.out.box;go_wp2_with fail
     have Y0:Hid (RnX w (I.alloc (.cells (madeCells #[Iv 0,Iv 0,Nv] (l.length*3)) 105)) k r a l.length c I.heap.size ([]:List (TT n))):=RnX.start E.out;generalize I.alloc (.cells (madeCells #[Iv 0,Iv 0,Nv] (l.length*3)) 105)=w3 at Y0 |-;generalize I.heap.size=G at Y0 |-;clear ad e2 E ag;go_loopw [27] (fun i wr=>∃ q:Nat,q<=l.length/\i=Iv q/\∃ h:List (TT n),h.length=q/\(∀ (j:Nat) x,j<q->l[j]?=some x->x.ren m s=h[j]?)/\RnX w wr k r a l.length c G h) (fun i _=>l.length - (intOf i).toNat)
     case atStart=>exact⟨0,Xb _,Yz,[],Yz,fun j x hj=>by omega,Y0.out⟩
     case round =>
      clear Y0;obtain⟨q,hq,rfl,h,aa,K,hY⟩:=hrel
      have A:Hid (h.length=q/\∀ (j:Nat) x,j<q->l[j]?=some x->x.ren m s=h[j]?):=⟨aa,K⟩;have Y:Hid (RnX w wr k r a l.length c G h):=hY;clear aa K hY;by_cases X:q<l.length
      ·have H:l[q]?=some l[q]:=Zg X;generalize l[q]=x at H;obtain⟨g,o,a',c',rfl,_,d0,d1,d2,hk⟩:=LIn.at (hT.out.below Y.out.bx.bel) H
       have hg:g<wr.heap.size:=Xi wr ⟨g,o+q*3,none⟩ d0;have P:Hid (l[q]?=some x):=H
       have C:Hid (∀ W,Below wr.heap.size wr W->Calls prog 285 #[Tv x a' c',.slice b m d] W fun e w'=>Qgv W w' (x.ren m s) e) :=
        fun W hb=>IH.out x a' c' b m d s W (hk.below hb) (V.out x (Zm H)) ((ab.out.below Y.out.bx.bel).below hb)
       clear hk H;simp only[Tv] at C
       generalize x.kind=kx at C d0;generalize x.r=rx at C d1;generalize x.len=lx at C d2;have al:(0:Int)<=q:=by omega
       have ac:(q:Int)<l.length:=by omega
       have ai:(q:Int)<2000:=by omega
       go_wp2_with fail
       have T:Below wr.heap.size wr (wr.alloc (.cells #[Iv kx,Iv rx,.slice a' lx c'] 105)):=(Below.refl _ wr).alloc Ze _;refine(C.out _ T).mono ?_
       rintro e w4 h4;clear C d0 d1 d2
       cases hxr:x.ren m s with
       | none =>
         rw[hxr] at h4
         obtain⟨rfl,U⟩:=h4
         have z:S=none:=R.out (Qfi P.out hxr);subst z;have f:=(Y.out.below T).below U;have Q:q*3+2<l.length*3:=by omega
         obtain⟨v0,r0⟩:=f.row.has (q*3) (by omega)
         obtain⟨v1,r1⟩:=f.row.has (q*3+1) (by omega)
         obtain⟨v2,r2⟩:=f.row.has (q*3+2) (by omega)
         have z0:=f.row.frozen (q*3);have z1:=f.row.frozen (q*3+1);have z2:=f.row.frozen (q*3+2);have X5:=((f.bx.setG f.hG (q*3) (Iv 0)).setG f.hG (q*3+1) (Iv 0)).setG f.hG (q*3+2) (Nv);have D:=X5.stored 0 0 none 0 0;have DD:Hid (Below w.heap.size w _):=D.2;have g0:=Qb f.bx.res 0 _ Yz;have g1:=Qb f.bx.res 1 _ Yz;have g2:=Qb f.bx.res 2 _ Yz;have y0:=Qj f.bx.res 0;have y1:=Qj f.bx.res 1;have y2:=Qj f.bx.res 2;have x0:=Qb D.1 0 _ Yz;have x1:=Qb D.1 1 _ Yz;have x2:=Qb D.1 2 _ Yz;have ak:¬ w.heap.size+1=G:=by have:=f.hG;omega
         have ah:¬ G=w.heap.size+1:=by have:=f.hG;omega
         clear D X5 f U T hxr A Y N R J Q;go_wp2_with fail
         exact Xy (v:=.tuple #[zeroT,.bool false]) (by simp[results,results285,go_sem,x0,x1,x2]) Yz ⟨Yz,DD.out⟩
       | some u =>
         rw[hxr] at h4
         obtain⟨a4,c4,rfl,t4,U⟩:=h4
         simp only[Tv]
         have f:=(Y.out.below T).below U;have Q:q*3+2<l.length*3:=by omega
         obtain⟨v0,r0⟩:=f.row.has (q*3) (by omega)
         obtain⟨v1,r1⟩:=f.row.has (q*3+1) (by omega)
         obtain⟨v2,r2⟩:=f.row.has (q*3+2) (by omega)
         have z0:=f.row.frozen (q*3);have z1:=f.row.frozen (q*3+1);have z2:=f.row.frozen (q*3+2);have ae:=Y.out.row.lt;have Y5:=f.set A.out.1 X (x:=u) (a':=a4) (c':=c4) (t4.mono (fun k hk _=>by have:=T.size;simp at hk;omega))
         have Z:Hid (∃ h:List (TT n),h.length=q+1/\(∀ (j:Nat) x,j<q+1->l[j]?=some x->x.ren m s=h[j]?)/\RnX w (((w4.setCell ⟨G,q*3,none⟩ (Iv u.kind)).setCell ⟨G,q*3+1,none⟩ (Iv u.r)).setCell ⟨G,q*3+2,none⟩ (.slice a4 u.len c4)) k r (some ⟨g,o,none⟩) l.length c G h):=by
          refine⟨h++[u],by simp[A.out.1],fun j y hj hy=>?_,Y5⟩
          by_cases e:j=q
          ·subst e;rw[P.out] at hy
           cases hy
           rw[hxr,XQ (by have:=A.out.1;omega),A.out.1,Nat.sub_self]
           rfl
          ·rw[XP (by have:=A.out.1;omega)]
           exact A.out.2 j y (by omega) hy
         clear Y5 f U T hxr A Y N R Q t4 P ae;generalize u.kind=ku at Z |-;generalize u.r=ru at Z |-;generalize u.len=lu at Z |-;go_wp2
         go_roundw
         case rel=>exact⟨q+1,by omega,by go_num,Z.out⟩
         case measure=>simp[intOf];omega
      ·have ac:¬ (q:Int)<l.length:=by omega
       have F:h.length=l.length:=by have:=A.out.1;omega
       have z:S=some (mkT k B h):=J.out B h HR.out (ZV.2 ⟨F,fun i x H=>A.out.2 i x (by have:=(Zi H).1;omega) H⟩);subst z;have e0:wr.cell? ⟨w.heap.size,0,none⟩=some (Iv k):=Qb Y.out.bx.box 0 _ Yz;have g0:=Qb Y.out.bx.res 0 _ Yz;have g1:=Qb Y.out.bx.res 1 _ Yz;have g2:=Qb Y.out.bx.res 2 _ Yz;have y0:=Qj Y.out.bx.res 0;have y1:=Qj Y.out.bx.res 1;have y2:=Qj Y.out.bx.res 2;have D:=Y.out.bx.stored k B (some ⟨G,0,none⟩) l.length l.length;have x0:=Qb D.1 0 _ Yz;have x1:=Qb D.1 1 _ Yz;have x2:=Qb D.1 2 _ Yz;have aj:=Y.out.hG
       have O:Hid (Qgv w (((wr.setCell ⟨w.heap.size+1,0,none⟩ (Iv k)).setCell ⟨w.heap.size+1,1,none⟩ (Iv B)).setCell ⟨w.heap.size+1,2,none⟩ (.slice (some ⟨G,0,none⟩) l.length l.length)) (some (mkT k B h)) (.returned (.tuple #[.agg #[Iv k,Iv B,.slice (some ⟨G,0,none⟩) l.length l.length],.bool true]))):=by
        refine⟨some ⟨G,0,none⟩,l.length,?_,?_,D.2⟩
        ·show _=Ending.returned (.tuple #[.agg #[Iv k,Iv B,.slice (some ⟨G,0,none⟩) h.length l.length],.bool true]);rw[F]
        ·have:=((Y.out.row.lin.setCell (p:=⟨w.heap.size+1,0,none⟩) (by simp;omega) (Iv k)).setCell (p:=⟨w.heap.size+1,1,none⟩) (by simp;omega) (Iv B)).setCell (p:=⟨w.heap.size+1,2,none⟩) (by simp;omega) (.slice (some ⟨G,0,none⟩) l.length l.length)
         exact(LIn.tree this).mono (fun k hk _=>by omega)
       clear D A Y N R J F;go_wp2_with fail
       exact Xy (v:=.tuple #[.agg #[Iv k,Iv B,.slice (some ⟨G,0,none⟩) l.length l.length],.bool true]) (by simp[results,results285,go_sem,x0,x1,x2]) Yz O.out
def ZL (e:Ending) (A:Prop):Prop:=∃ q:Bool,e=.returned (.bool q)/\(q=true↔A)
theorem ZL.yes {A:Prop}(h:A):ZL (.returned (.bool true)) A:=⟨true,Z,by simp[h]⟩
theorem ZL.no {A:Prop}(h:¬ A):ZL (.returned (.bool false)) A:=⟨false,Z,by simp[h]⟩
def QiV (f:Nat) (n:Nat):Prop:=∀ (t u:TT n) (a b:Option Addr) (c d:Nat) (w:World),TIn w All t a->TIn w All u b->t.count<=100000 ->
 Calls prog f #[Tv t a c,Tv u b d] w fun e w'=>ZL e (t=u)/\Below w.heap.size w w'
theorem TT.eq_iff {t u:TT (n+1)}:t=u↔t.kind=u.kind/\t.r=u.r/\t.2.2=u.2.2:=by
 obtain⟨a,b,c⟩:=t
 obtain⟨d,e,f⟩:=u
 constructor
 ·intro h;cases h;exact⟨Z,Z,Z⟩
 ·rintro ⟨rfl,rfl,rfl⟩;rfl
abbrev toV (x:MTo) (rg ag:Option Addr) (rc ac:Nat):Value:=.agg #[Iv x.block,.slice rg x.regs.length rc,.slice ag x.args.length ac]
theorem underBk:∃ fs,prog.underlying 86=some (.struct fs):=⟨_,underlying86⟩
theorem sizeBk:(prog.info? 86).map (·.size)=some 12:=by kernel_rfl
theorem Qbo {m:List (MBlock 6)}(h:(Zn 6).list.In w Q m [.slice p n c]){g:MBlock 6}(C:m[k]?=some g) :
 ∃ mg mo a1 c1 es,p=some ⟨mg,mo,none⟩/\w.rangeAt mg (mo+k*12) (Iv g.regs::.slice a1 g.params.length c1::es)/\es.length=10/\(Qp 6).In w Q g.params [.slice a1 g.params.length c1]/\∀ v∈es,v.oneCell'=true:=by
 obtain⟨mg,mo,F,B,O,M,f,D⟩:=Yf h C
 obtain⟨a1,c1,J,L,es,rfl,s,h2,t,P⟩:=Qb7 D
 obtain⟨R,S,X,V,rfl,u,l,H,I⟩:=QgC t
 obtain⟨G,T,N,u4,rfl,-,-,-⟩:=Qfz u
 obtain⟨W,u6,U,K,rfl,-,-,-⟩:=Qfz l
 have d:∀ a,a.length=12->(∀ v∈a,v.oneCell'=true)->(∀ j,j<12->w.cell? ⟨mg,mo+k*12+j,none⟩=a[j]?)->∀ x y es,a=x::y::es->w.rangeAt mg (mo+k*12) (x::y::es)/\es.length=10/\∀ v∈es,v.oneCell'=true:=by
  intro a A o f x y es e;subst e;refine⟨fun j v i=>?_,by simpa using A,fun v b=>o v (by simp[b])⟩
  have E:=(Zi i).1;rw[f j (by omega),i]
 obtain⟨q,r,z⟩:=d _ Z (fun v b=>by
  simp only[List.mem_cons,List.cons_append,List.nil_append,List.not_mem_nil,or_false] at b
  rcases b with rfl | rfl | rfl | rfl | rfl | rfl | rfl | rfl | rfl | rfl | rfl | rfl<;>rfl) f _ _ _ Z
 exact⟨mg,mo,a1,c1,_,B,q,r,s,z⟩
theorem Qaf {o:Nat}(h:w.rangeAt b o cs) (k:Below w.heap.size w w'):w'.rangeAt b o cs:=fun j v a=>Qk (h j v a) k
theorem Qf {p:Prop}(h:p):Hid p:=h
structure FbS (w wx:World) (R:Nat) (l:List (Nat × Array Value × TypeId)):Prop where
 bel:Below w.heap.size w wx
 ge:w.heap.size<=R
 r:Blk wx R #[Iv 0,Iv 0] 32
 box:∀ (i:Nat) b,l[i]?=some b->Blk wx b.1 b.2.1 b.2.2
section
variable {w wx w':World}{R:Nat}{l:List (Nat × Array Value × TypeId)}
theorem FbS.below (h:FbS w wx R l) (k:Below wx.heap.size wx w'):FbS w w' R l :=
 ⟨h.bel.trans (k.mono h.bel.size),h.ge,h.r.below k,fun i b a=>(h.box i b a).below k⟩
theorem FbS.add (h:FbS w wx R l){c:Array Value}(d:Blk wx B c t):FbS w wx R ((B,c,t)::l) :=
 ⟨h.bel,h.ge,h.r,fun i b a=>by
  cases i with
  | zero=>cases a;exact d
  | succ i=>exact h.box i b a⟩
theorem FbS.new (h:FbS w wx R l) (c:Array Value) (t:TypeId):FbS w (wx.alloc (.cells c t)) R ((wx.heap.size,c,t)::l):=(h.below (Zd _ _)).add (Blk.new _ _ _)
theorem FbS.cells (h:FbS w wx R l):wx.cell? ⟨R,0,none⟩=some (Iv 0)/\wx.cell? ⟨R,1,none⟩=some (Iv 0)/\wx.frozen? ⟨R,0,none⟩=false/\wx.frozen? ⟨R,1,none⟩=false :=
 ⟨Qb h.r 0 _ Z,Qb h.r 1 _ Z,Qj h.r 0,Qj h.r 1⟩
theorem FbS.fin (h:FbS w wx R l) (c a:Int):Blk ((wx.setCell ⟨R,0,none⟩ (Iv c)).setCell ⟨R,1,none⟩ (Iv a)) R #[Iv c,Iv a] 32/\Below w.heap.size w ((wx.setCell ⟨R,0,none⟩ (Iv c)).setCell ⟨R,1,none⟩ (Iv a)) :=
 ⟨by have:=Qh (Qh h.r 0 (Iv c)) 1 (Iv a);simpa using this,(h.bel.setCell (p:=⟨R,0,none⟩) h.ge _).setCell (p:=⟨R,1,none⟩) h.ge _⟩
structure Qm5 (wx:World) (cs:List Value):Prop where
 size:(prog.info? 86).map (·.size)=some cs.length
 size2:(prog.info? 86).map (·.size)=some cs.toArray.size
 there:(wx.alloc (.cells #[Iv 0,Nv,Nv,Iv 0,Iv 0,Iv 0,Nv,Nv,Iv 0,Nv,Nv,Nv] 86)).there wx.heap.size 0 cs.toArray.size
 blk:Blk ((wx.alloc (.cells #[Iv 0,Nv,Nv,Iv 0,Iv 0,Iv 0,Nv,Nv,Iv 0,Nv,Nv,Nv] 86)).setCells wx.heap.size 0 cs) wx.heap.size cs.toArray 86
 bel:Below wx.heap.size wx ((wx.alloc (.cells #[Iv 0,Nv,Nv,Iv 0,Iv 0,Iv 0,Nv,Nv,Iv 0,Nv,Nv,Nv] 86)).setCells wx.heap.size 0 cs)
theorem Qm5.of (a:World)(c:cs.length=12):Qm5 a cs:=by
 have d:=Qe a #[Iv 0,Nv,Nv,Iv 0,Iv 0,Iv 0,Nv,Nv,Iv 0,Nv,Nv,Nv] 86;refine⟨by rw[c];exact pSizeB,by rw[List.size_toArray,c];exact pSizeB,fun j hj=>?_,?_,?_⟩
 ·rw[List.size_toArray,c] at hj
  rw[XK]
  refine⟨?_,Qj d j⟩
  rw[Qb d j ((#[Iv 0,Nv,Nv,Iv 0,Iv 0,Iv 0,Nv,Nv,Iv 0,Nv,Nv,Nv]:Array Value)[j]'hj) (by simp)];rfl
 ·have e:Blk (a.alloc (.cells #[Iv 0,Nv,Nv,Iv 0,Iv 0,Iv 0,Nv,Nv,Iv 0,Nv,Nv,Nv] 86)) a.heap.size ([]++(#[Iv 0,Nv,Nv,Iv 0,Iv 0,Iv 0,Nv,Nv,Iv 0,Nv,Nv,Nv]:Array Value).toList).toArray 86:=d;exact Blk.sets cs [] (#[Iv 0,Nv,Nv,Iv 0,Iv 0,Iv 0,Nv,Nv,Iv 0,Nv,Nv,Nv]:Array Value).toList _ (by rw[c];rfl) e
 ·have:=Qz.setCells (O:=fun k=>k=a.heap.size) (O':=fun k=>k=a.heap.size) (b:=a.heap.size) Z cs 0 _ (Qz.refl _ (a.alloc (.cells #[Iv 0,Nv,Nv,Iv 0,Iv 0,Iv 0,Nv,Nv,Iv 0,Nv,Nv,Nv] 86)))
  exact(Zd a _).trans (this.below (by simp) (fun k f=>by omega))
end
theorem underEnd:∃ fs,prog.underlying 84=some (.struct fs):=⟨_,underlying84⟩
theorem sizeEnd:(prog.info? 84).map (·.size)=some 9:=by kernel_rfl
abbrev QbW (x:ZC) (e:EP):Array Value:=#[Iv x.op,Iv x.a,Iv x.yes.block,.slice e.pYR x.yes.regs.length e.cYR,.slice e.pYA x.yes.args.length e.cYA,Iv x.no.block,.slice e.pNR x.no.regs.length e.cNR,.slice e.pNA x.no.args.length e.cNA,.slice e.pA x.args.length e.cA]
structure Qdn (w:World) (Q:Nat->Prop) (x:ZC) (e:EP):Prop where
 yr:intsL.In w Q x.yes.regs [.slice e.pYR x.yes.regs.length e.cYR]
 ya:intsL.In w Q x.yes.args [.slice e.pYA x.yes.args.length e.cYA]
 nr:intsL.In w Q x.no.regs [.slice e.pNR x.no.regs.length e.cNR]
 na:intsL.In w Q x.no.args [.slice e.pNA x.no.args.length e.cNA]
 ar:intsL.In w Q x.args [.slice e.pA x.args.length e.cA]
theorem Qdn.below {x:ZC}{e:EP}(h:Qdn w Q x e) (k:Below w.heap.size w w'):Qdn w' Q x e :=
 ⟨Ya h.yr k,Ya h.ya k,Ya h.nr k,Ya h.na k,Ya h.ar k⟩
theorem QaG {a:Nat}{t:MTo}(h:t.form a true=0):(0<=t.block/\t.block<a)/\t.regs.length<=16/\t.args.length<=8:=by
 unfold MTo.form at h;rw[Xr (by simp)] at h
 split at h
 ·cases h
 split at h
 ·cases h
 omega
theorem Xt:type_of% @decide_eq_true:=@decide_eq_true
section
variable {w w' w2:World}{b most n:Nat}{m:List (MFunc 6)}{M M' N:IM}{sc sa:Int}{g g1:MG}{e:Ending}
theorem Qek {a:Nat}{t:MTo}(h:t.form a true=0):0<=t.block/\t.block<(a:Int)/\t.regs.length<=16/\t.args.length<=8:=by
 unfold MTo.form at h;rw[Xr (by simp)] at h
 split at h
 ·cases h
 ·split at h
  ·cases h
  ·omega
theorem QeE {a:Nat}{x:ZC}(h:x.form a=0):(1<=x.op/\x.op<=3)/\x.args.length<=8/\(x.op≠3->x.yes.form a true=0)/\(x.op=2->x.no.form a true=0):=by
 unfold ZC.form at h;split at h
 ·cases h
 rename_i d
 split at h
 ·cases h
 split at h
 ·cases h
 rename_i c
 split at h
 ·rename_i b;exact absurd h b
 rename_i b
 refine⟨by omega,by omega,fun e=>?_,fun e=>?_⟩
 ·have:decide (x.op≠3)=true:=Xt e
  rw[this] at b
  exact Xq.1 b
 ·have:decide (x.op=2)=true:=Xt e
  rw[this] at h
  exact h
end
def tru (p:Bool):Int:=if p then 1 else 0
theorem Qn1 (a b:Int) (w:World):Calls prog 136 #[Iv 1,Iv a,Iv b] w fun e w'=>e=.returned (.tuple #[Iv (wrap64 (a+b)),.bool true])/\w'=w:=by
 go_enter func136,ntmps136
 go_wp2
 go_ret2;exact⟨Z,Z⟩
theorem Qn7 (a b:Int) (w:World):Calls prog 136 #[Iv 2,Iv a,Iv b] w fun e w'=>e=.returned (.tuple #[Iv (wrap64 (a - b)),.bool true])/\w'=w:=by
 go_enter func136,ntmps136
 go_wp2
 go_ret2;exact⟨Z,Z⟩
theorem QnT (a b:Int) (w:World):Calls prog 136 #[Iv 3,Iv a,Iv b] w fun e w'=>e=.returned (.tuple #[Iv (wrap64 (a*b)),.bool true])/\w'=w:=by
 go_enter func136,ntmps136
 go_wp2
 go_ret2;exact⟨Z,Z⟩
theorem Qn9 (a b:Int) (w:World) (c:(b==0)=false) (d:¬ b=0):Calls prog 136 #[Iv 4,Iv a,Iv b] w fun e w'=>e=.returned (.tuple #[Iv (wrap64 (a.tdiv b)),.bool true])/\w'=w:=by
 go_enter func136,ntmps136
 go_wp2
 go_ret2;exact⟨Z,Z⟩
theorem Qm9 (a:Int) (w:World):Calls prog 136 #[Iv 4,Iv a,Iv 0] w fun e w'=>e=.returned (.tuple #[Iv 0,.bool false])/\w'=w:=by
 go_enter func136,ntmps136
 go_wp2
 go_ret2;exact⟨Z,Z⟩
theorem Qoi (a b:Int) (w:World) (c:(b==0)=false) (d:¬ b=0):Calls prog 136 #[Iv 5,Iv a,Iv b] w fun e w'=>e=.returned (.tuple #[Iv (a.tmod b),.bool true])/\w'=w:=by
 go_enter func136,ntmps136
 go_wp2
 go_ret2;exact⟨Z,Z⟩
theorem Qnb (a:Int) (w:World):Calls prog 136 #[Iv 5,Iv a,Iv 0] w fun e w'=>e=.returned (.tuple #[Iv 0,.bool false])/\w'=w:=by
 go_enter func136,ntmps136
 go_wp2
 go_ret2;exact⟨Z,Z⟩
theorem Qoc (a b:Int) (w:World):Calls prog 136 #[Iv 6,Iv a,Iv b] w fun e w'=>e=.returned (.tuple #[Iv (tru (decide (a<b))),.bool true])/\w'=w:=by
 by_cases h:a<b
 ·have c:tru (decide (a<b))=1:=by simp[tru,h]
  rw[c]
  go_enter func136,ntmps136
  go_wp2
  go_ret2;exact⟨Z,Z⟩
 ·have c:tru (decide (a<b))=0:=by simp[tru,h]
  rw[c]
  go_enter func136,ntmps136
  go_wp2
  go_ret2;exact⟨Z,Z⟩
theorem Qoh (a b:Int) (w:World):Calls prog 136 #[Iv 7,Iv a,Iv b] w fun e w'=>e=.returned (.tuple #[Iv (tru (a==b)),.bool true])/\w'=w:=by
 cases h:(a==b)
 ·go_enter func136,ntmps136
  go_wp2
  go_ret2;exact⟨Z,Z⟩
 ·go_enter func136,ntmps136
  go_wp2
  go_ret2;exact⟨Z,Z⟩
theorem QnU (a b:Int) (w:World):Calls prog 136 #[Iv 8,Iv a,Iv b] w fun e w'=>e=.returned (.tuple #[Iv (bits .and .i64 a b),.bool true])/\w'=w:=by
 go_enter func136,ntmps136
 go_wp2
 go_ret2;exact⟨Z,Z⟩
theorem QnY (a b:Int) (w:World):Calls prog 136 #[Iv 9,Iv a,Iv b] w fun e w'=>e=.returned (.tuple #[Iv (bits .xor .i64 a b),.bool true])/\w'=w:=by
 go_enter func136,ntmps136
 go_wp2
 go_ret2;exact⟨Z,Z⟩
theorem Qod (k a b:Int) (w:World) (c:k<1\/9<k):Calls prog 136 #[Iv k,Iv a,Iv b] w fun e w'=>e=.returned (.tuple #[Iv 0,.bool false])/\w'=w:=by
 rcases c with c | c
 ·go_enter func136,ntmps136
  go_wp2
  go_ret2;exact⟨Z,Z⟩
 ·go_enter func136,ntmps136
  go_wp2
  go_ret2;exact⟨Z,Z⟩
def aOp (k a b:Int):Option Int :=
 if k=1 then some (wrap64 (a+b)) else if k=2 then some (wrap64 (a - b)) else if k=3 then some (wrap64 (a*b))
 else if k=4 then (if b=0 then none else some (wrap64 (a.tdiv b))) else if k=5 then (if b=0 then none else some (a.tmod b))
 else if k=6 then some (tru (decide (a<b))) else if k=7 then some (tru (a==b)) else if k=8 then some (bits .and .i64 a b) else if k=9 then some (bits .xor .i64 a b) else none
theorem Ql4 (k a b:Int) (w:World):Calls prog 136 #[Iv k,Iv a,Iv b] w fun e w'=>e=.returned (.tuple #[Iv ((aOp k a b).getD 0),.bool (aOp k a b).isSome])/\w'=w:=by
 by_cases d:k=1
 ·subst d;exact Qn1 a b w
 by_cases f:k=2
 ·subst f;exact Qn7 a b w
 by_cases g:k=3
 ·subst g;exact QnT a b w
 by_cases h:k=4
 ·subst h;by_cases c:b=0
  ·subst c;exact Qm9 a w
  ·have:aOp 4 a b=some (wrap64 (a.tdiv b)):=by simp[aOp,c]
   rw[this];exact Qn9 a b w (by simpa using c) c
 by_cases i:k=5
 ·subst i;by_cases c:b=0
  ·subst c;exact Qnb a w
  ·have:aOp 5 a b=some (a.tmod b):=by simp[aOp,c]
   rw[this];exact Qoi a b w (by simpa using c) c
 by_cases j:k=6
 ·subst j;exact Qoc a b w
 by_cases l:k=7
 ·subst l;exact Qoh a b w
 by_cases m:k=8
 ·subst m;exact QnU a b w
 by_cases n:k=9
 ·subst n;exact QnY a b w
 ·have:aOp k a b=none:=by simp[aOp,d,f,g,h,i,j,l,m,n]
  rw[this];exact Qod k a b w (by omega)
theorem Q5 {x:Qs}{d:IP}(h:Blk w1 X (Zq x d) t):w1.cell? ⟨X,0,none⟩=some (Iv x.op)/\w1.cell? ⟨X,1,none⟩=some (Iv x.a)/\w1.cell? ⟨X,2,none⟩=some (Iv x.b)/\w1.cell? ⟨X,3,none⟩=some (Iv x.c)/\w1.cell? ⟨X,4,none⟩=some (Iv x.k)/\w1.cell? ⟨X,5,none⟩=some (Iv x.n)/\w1.cell? ⟨X,6,none⟩=some (.slice d.pR x.regs.length d.cR)/\w1.cell? ⟨X,7,none⟩=some (.slice d.pA x.args.length d.cA) :=
 ⟨Qb h 0 _ Z,Qb h 1 _ Z,Qb h 2 _ Z,Qb h 3 _ Z,Qb h 4 _ Z,Qb h 5 _ Z,Qb h 6 _ Z,Qb h 7 _ Z⟩
section
variable {m:List (MFunc 6)}{n n':Nat}{M M':IM}{x:Qs}{fn:MFunc 6}{bl:MBlock 6}{op:Int->Int->Int->Option Int}
theorem Qdc (h:x.form funcs=0):(1<=x.op/\x.op<=14)/\(x.op=5->x.args.length<=8)/\(x.op=14->0<=x.k/\x.k<(funcs:Int)/\x.regs.length<=6/\x.args.length<=8):=by
 unfold Qs.form at h;split at h
 ·cases h
 rename_i a
 split at h
 ·cases h
 split at h
 ·cases h
 split at h
 ·cases h
 rename_i d
 split at h
 ·cases h
 split at h
 ·cases h
 rename_i b
 split at h
 ·cases h
 rename_i c
 refine⟨?_,fun e=>by omega,fun e=>by omega⟩
 unfold Q7 at a;by_cases e:1<=x.op/\x.op<=14
 ·exact e
 ·exfalso
  apply a
  repeat' rw[Xr (by omega)]
  rfl
end
end Go.Proofs.YtjhdpajpibdnaafGreat
