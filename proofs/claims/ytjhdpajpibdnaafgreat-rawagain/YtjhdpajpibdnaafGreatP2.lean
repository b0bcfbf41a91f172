import Derived.Test.YtjhdpajpibdnaafGreatP1
import Derived.Orders
import Derived.Deep.DeepCutAuto
import Derived.Deep.CutBlock
import Derived.Lib.MinMax
import Derived.Laws.CopyRow
import Derived.Laws.CopyOwn
import Derived.Maps.AppendAt
import Derived.Deep.RegionWith
set_option maxHeartbeats 16000000
set_option maxRecDepth 100000
namespace Go.Proofs.YtjhdpajpibdnaafGreat
open Go.ChangeShapes Go.WideShapes Go.ChangeAt Go.RowKit _root_.Go.Proofs.Tryz
set_option linter.unusedSimpArgs false
set_option linter.unusedVariables false
variable {w w' w6 w1 w2:World}{n b c k m rc ac X j B i cm g N d f fi cap bp q R pages id bi cc funcs s ci rl al ca ri vl most cR cA G:Nat}{O Q O':Nat→Prop}{l xs regs inp:List Int}{p a rg ag pm pi pa pR pA ra aa:Option Addr}{t e:TypeId}{v:Value}{P:Program}{L bs:List Bool}{x ya xc xk fr xa xb xn yb:Int}{ds cs:List Value}{ops:Array Oper}
abbrev rtm (r:List Int) (t:TT 6):Option (TT 6):=t.ren r.length (fun i=>r.getD i 0)
structure FrT (g:Sig) (h:Qd) (s:JSt) (v:List Q4) (r:List Int):Prop where
 rl:r.length=s.H.length
 pos:∀ k∈r,0<=k
 held:∀ k,s.H.getD k false=true->∃ p,h.place (r.getD k 0)=some p
 dist:∀ j k,s.H.getD j false=true->s.H.getD k false=true->r.getD j 0=r.getD k 0->j=k
 vl:v.length=s.L.length
 val:∀ (j:Nat) (t:TT 6) (x:Q4),s.L[j]?=some t->v[j]?=some x->∃ u,rtm r t=some u/\Qej g x u
section
variable {g g':Sig}{h h':Qd}{s:JSt}{v:List Q4}{r:List Int}
theorem FrT.keep (F:FrT g h s v r) (c:g.le g') (a:∀ k,s.H.getD k false=true->∃ p,h'.place (r.getD k 0)=some p):FrT g' h' s v r :=
 ⟨F.rl,F.pos,a,F.dist,F.vl,fun j t x d b=>by obtain⟨u,e,f⟩:=F.val j t x d b;exact⟨u,e,f.mono c⟩⟩
theorem FrT.at (F:FrT g h s v r){k:Int}{t:TT 6}(c:s.at k=some t):∃ x u,QR v k=some x/\rtm r t=some u/\Qej g x u:=by
 obtain⟨-,f,i,a⟩:=QdO c
 obtain⟨x,b⟩:∃ x,v[k.toNat]?=some x:=⟨_,Zg (by rw[F.vl];omega)⟩
 obtain⟨u,d,e⟩:=F.val _ t x a b
 exact⟨x,u,by unfold QR;rw[Xr (by omega)];exact b,d,e⟩
theorem Qgw {t u:TT 6}(h:rtm r t=some u):u.kind=t.kind:=(Zp h).1
theorem QlV {t u:TT 6}(h:rtm r t=some u) (b:t.kind≠1):0<=t.r/\t.r<r.length/\u.r=r.getD t.r.toNat 0:=by
 have:=(Zp h).2.1
 unfold ZJ at this;have a:¬ t.1=1:=b;rw[Xr a] at this
 split at this
 ·cases this
 ·rename_i c
  split at this
  ·cases this
  ·have e:u.2.1=r.getD t.2.1.toNat 0:=(Xn this).symm;show 0<=t.2.1/\t.2.1<r.length/\u.2.1=r.getD t.2.1.toNat 0;exact⟨by omega,by omega,e⟩
theorem Qej.kind {x:Q4}{u:TT 6}(h:Qej g x u):x.kind=u.kind:=by
 rcases h with ⟨b,a⟩|⟨b,a,-⟩|⟨-,a,-⟩
 ·rw[b,a]
 ·rw[b,a]
 ·exact a
theorem FrT.want (F:FrT g h s v r){k d:Int}{e:Bool}(y:s.want k d e=0):∃ x t u,s.at k=some t/\QR v k=some x/\rtm r t=some u/\Qej g x u/\x.kind=d/\t.kind=d/\u.kind=d/\(e=true->d≠1->∃ p,h.place u.r=some p):=by
 obtain⟨t,m,f,w⟩:=Z4 y
 obtain⟨x,u,q,i,n⟩:=F.at m
 have l:=Qgw i;refine⟨x,t,u,m,q,i,n,by rw[n.kind,l,f],f,by rw[l,f],fun z o=>?_⟩
 obtain⟨a,b,c⟩:=QlV i (by rw[f];exact o)
 have j:=w z;unfold hHas at j;simp only[Bool.and_eq_true,decide_eq_true_eq] at j
 rw[c]
 exact F.held _ j.2
theorem FrT.num (F:FrT g h s v r){k:Int}{a:Bool}(b:s.want k 1 a=0):∃ n,QS v k=some n:=by
 obtain⟨x,t,u,-,c,-,-,d,-⟩:=F.want b
 exact⟨x.n,by unfold QS;rw[c];simp[d]⟩
theorem FrT.fields (F:FrT g h s v r):∀ {l:List Int}{ts:List (TT 6)},s.fields l=some ts->∃ xs,Q8 v l=some xs/\xs.length=ts.length/\∀ (j:Nat) (x:Q4) (t:TT 6),xs[j]?=some x->ts[j]?=some t->∃ u,rtm r t=some u/\Qej g x u
 | [],ts,e=>by simp[JSt.fields] at e;subst e;exact⟨[],Z,Z,fun j x t d=>by simp at d⟩
 | k::l,ts,e=>by
   simp only[JSt.fields] at e
   cases h1:s.at k with
   | none=>simp[h1] at e
   | some t =>
     simp only[h1] at e
     cases h2:s.fields l with
     | none=>simp[h2] at e
     | some tl =>
       simp only[h2] at e
       cases e
       obtain⟨x,u,m,c,o⟩:=F.at h1
       obtain⟨xs,n,i,f⟩:=F.fields h2
       refine⟨x::xs,by simp only[Q8,m,n],by simp[i],fun j y w a b=>?_⟩
       cases j with
       | zero=>simp at a b;subst a b;exact⟨u,c,o⟩
       | succ j=>exact f j y w (by simpa using a) (by simpa using b)
theorem FrT.push (F:FrT g h s v r){xs:List Q4}{ts:List (TT 6)}(k:xs.length=ts.length) (i:∀ (j:Nat) (x:Q4) (t:TT 6),xs[j]?=some x->ts[j]?=some t->∃ u,rtm r t=some u/\Qej g x u){e:JSt}(d:e.H=s.H) (f:e.L=s.L++ts):FrT g h e (v++xs) r:=by
 refine⟨by rw[d];exact F.rl,F.pos,by rw[d];exact F.held,by rw[d];exact F.dist,by rw[f];simp[F.vl,k],fun j t x c a=>?_⟩
 rw[f] at c
 rcases Nat.lt_or_ge j s.L.length with b | b
 ·rw[XP b] at c
  rw[XP (by rw[F.vl];exact b)] at a
  exact F.val j t x c a
 ·rw[XQ b] at c
  rw[XQ (by rw[F.vl];exact b),F.vl] at a
  exact i _ x t a c
theorem Qep (n:Int):∃ u,rtm r tInt=some u/\Qej g (Qct n) u:=⟨tInt,Z,.inl ⟨Z,Z⟩⟩
end
def Own (s:JSt) (r:List Int) (k:Int):Prop:=∃ j:Nat,s.H.getD j false=true/\s.f.regs<=j/\r.getD j 0=k
def Stk (m:List (MFunc 6)) (g:Sig) (h:Qd):(Int->Prop)->MFunc 6->Nat->List Int->List IFr->Prop
 | _,_,gi,_,[]=>gi=0
 | A,fn,gi,cr,d::rest=>∃ fd bl x s,m[d.f]?=some fd/\fd.blocks[d.b]?=some bl/\0<d.i/\bl.code[d.i - 1]?=some x/\x.op=14/\x.k=gi/\s=(JSt.start m fd bl).upto (bl.code.take (d.i - 1))/\FrT g h s d.v d.r /\
  (∀ k:Nat,(k:Int)<fn.regs->cr.getD k 0=d.r.getD (x.regs.getD k 0).toNat 0)/\(∀ k,s.H.getD k false=true->¬ A (d.r.getD k 0))/\Stk m g h (fun k=>A k\/Own s d.r k) fd d.f d.r rest
theorem Stk.keep {m:List (MFunc 6)}{g n:Sig}{h i:Qd}(l:g.le n):∀ {rest:List IFr}{A A':Int->Prop}{fn:MFunc 6}{gi:Nat}{cr cr':List Int},(∀ k,¬ A k->(∃ p,h.place k=some p)->∃ p,i.place k=some p)->(∀ k,A' k->A k\/h.place k=none)->(∀ k:Nat,(k:Int)<fn.regs->cr'.getD k 0=cr.getD k 0)->Stk m g h A fn gi cr rest->Stk m n i A' fn gi cr' rest
 | [],_,_,_,_,_,_,_,_,_,S=>S
 | d::rest,A,A',fn,gi,cr,cr',hp,hA,hc,S=>by
   obtain⟨t,r,x,s,q,u,B,o,z,v,y,F,w,j,f⟩:=S
   refine⟨t,r,x,s,q,u,B,o,z,v,y,F.keep l (fun k a=>hp _ (j k a) (F.held k a)),fun k a=>(hc k a).trans (w k a),fun k a e=>?_,?_⟩
   ·rcases hA _ e with b | b
    ·exact j k a b
    ·obtain⟨p,c⟩:=F.held k a;rw[b] at c;cases c
   ·exact Stk.keep l (fun k a=>hp k (fun e=>a (.inl e))) (fun k a=>by
     rcases a with b | b
     ·exact(hA k b).imp .inl id
     ·exact .inl (.inr b)) (fun k a=>rfl) f
structure Inv (m:List (MFunc 6)) (g:Sig) (M:IM) (fn:MFunc 6) (bl:MBlock 6) (s:JSt):Prop where
 hf:m[M.top.f]?=some fn
 hb:fn.blocks[M.top.b]?=some bl
 hi:M.top.i<=bl.code.length
 hs:s=(JSt.start m fn bl).upto (bl.code.take M.top.i)
 fr:FrT g M.h s M.top.v M.top.r
 st:StT g M.h
 stk:Stk m g M.h (Own s M.top.r) fn M.top.f M.top.r M.rest
theorem Qcp {c:Int}{e:ZA}:∀ {l:List Qs}{s:JSt}{i:Nat},(QA c e s i l).1=0->(∀ j x,l[j]?=some x->(s.upto (l.take j)).code x=0)/\(s.upto l).fin e=0
 | [],s,i,h=>by
   refine⟨fun j x d=>by simp at d,?_⟩
   simp only[QA] at h
   by_cases a:s.fin e=0
   ·exact a
   ·rw[Xs a] at h;exact absurd h a
 | x::r,s,i,h=>by
   simp only[QA] at h
   by_cases a:s.code x=0
   ·rw[Xr (by simpa using a)] at h
    obtain⟨f,g⟩:=Qcp h
    refine⟨fun j y b=>?_,g⟩
    cases j with
    | zero=>simp at b;subst b;exact a
    | succ j=>exact f j y (by simpa using b)
   ·rw[Xs a] at h;exact absurd h a
theorem Qcd {m:List (MFunc 6)}(h:(Qq m).1=0):(modFault m).1=0/\∀ (k:Nat) (f:MFunc 6) (q:Nat) (b:MBlock 6),m[k]?=some f->f.blocks[q]?=some b->(∀ j x,b.code[j]?=some x->((JSt.start m f b).upto (b.code.take j)).code x=0)/\((JSt.start m f b).upto b.code).fin b.fin=0:=by
 unfold Qq at h;by_cases e:(modFault m).1=0
 ·rw[Xr (by simpa using e)] at h
  refine⟨e,fun k f q b d g=>?_⟩
  have a:=QQ h k f d;unfold Z0 at a;have c:=QQ a q b g;exact Qcp c
 ·rw[Xs e] at h;exact absurd h e
def QbN (m:List (MFunc 6)) (M:IM):Prop:=M.done=true\/∃ g fn bl s,Inv m g M fn bl s
theorem JSt.upto_mf:∀ (l:List Qs) (s:JSt),(s.upto l).m=s.m/\(s.upto l).f=s.f
 | [],s=>⟨Z,Z⟩
 | x::l,s=>by
   have:=JSt.upto_mf l (s.next x)
   exact this
section
variable {m:List (MFunc 6)}{g g':Sig}{M M':IM}{fn:MFunc 6}{bl:MBlock 6}{s:JSt}{x:Qs}{op:Int->Int->Int->Option Int}
theorem Inv.mf (I:Inv m g M fn bl s):s.m=m/\s.f=fn:=by
 have:=JSt.upto_mf (bl.code.take M.top.i) (JSt.start m fn bl)
 rw[I.hs];exact this
theorem Inv.on (I:Inv m g M fn bl s) (a:bl.code[M.top.i]?=some x) (c:M'.top.f=M.top.f) (d:M'.top.b=M.top.b) (hi:M'.top.i=M.top.i+1) (e:M'.rest=M.rest) (F:FrT g' M'.h (s.next x) M'.top.v M'.top.r) (S:StT g' M'.h) (K:Stk m g' M'.h (Own (s.next x) M'.top.r) fn M.top.f M'.top.r M.rest):Inv m g' M' fn bl (s.next x):=by
 have j:=(Zi a).1;refine⟨by rw[c];exact I.hf,by rw[d];exact I.hb,by rw[hi];omega,?_,F,S,by rw[c,e];exact K⟩
 rw[hi,XV,a]
 show s.next x=(JSt.start m fn bl).upto (bl.code.take M.top.i++[x])
 rw[JSt.upto_snoc,<-I.hs]
theorem Inv.val (I:Inv m g M fn bl s) (w:bl.code[M.top.i]?=some x) (o:x.op≠3) (q:x.op≠4) (D:M'.top.f=M.top.f) (E:M'.top.b=M.top.b) (hi:M'.top.i=M.top.i+1) (H:M'.rest=M.rest) (a:M'.top.r=M.top.r) (n:g.le g') (l:∀ k p,M.h.place k=some p->∃ p,M'.h.place k=some p) (S:StT g' M'.h){xs:List Q4}(C:M'.top.v=M.top.v++xs) (G:xs.length=(s.makes x).2.length)
 (d:∀ (j:Nat) (y:Q4) (t:TT 6),xs[j]?=some y->(s.makes x).2[j]?=some t->∃ u,rtm M.top.r t=some u/\Qej g' y u):QbN m M':=by
 refine .inr ⟨g',fn,bl,_,I.on w D E hi H ?_ S ?_⟩
 ·rw[a,C]
  have F:FrT g' M'.h s M.top.v M.top.r:=I.fr.keep n (fun k c=>by obtain⟨p,e⟩:=I.fr.held k c;exact l _ p e);exact F.push G d (Qba o q) Z
 ·rw[a]
  refine I.stk.keep n (fun k _ ⟨p,e⟩=>l k p e) (fun k c=>?_) (fun k _=>rfl);obtain⟨j,A,B,z⟩:=c
  exact .inl ⟨j,by rw[<-Qba o q (s:=s)];exact A,B,z⟩
theorem Inv.still (I:Inv m g M fn bl s) (l:bl.code[M.top.i]?=some x) (o:x.op≠3) (z:x.op≠4) (u:M'.top.f=M.top.f) (w:M'.top.b=M.top.b) (hi:M'.top.i=M.top.i+1) (A:M'.rest=M.rest) (a:M'.top.r=M.top.r) (c:M'.h=M.h) (q:M'.top.v=M.top.v) (d:(s.makes x).2=[]):QbN m M' :=
 I.val l o z u w hi A a (fun _ _ _ h=>h) (fun k p e=>⟨p,by rw[c];exact e⟩) (by rw[c];exact I.st) (xs:=[]) (by simpa using q) (by rw[d];rfl) (fun j y t n=>by simp at n)
theorem Inv.one (I:Inv m g M fn bl s) (o:bl.code[M.top.i]?=some x) (w:x.op≠3) (C:x.op≠4) (A:M'.top.f=M.top.f) (B:M'.top.b=M.top.b) (hi:M'.top.i=M.top.i+1) (D:M'.rest=M.rest) (d:M'.top.r=M.top.r) (n:M'.h=M.h){y:Q4}{t:TT 6}(z:M'.top.v=M.top.v++[y]) (l:(s.makes x).2=[t]) (q:∃ u,rtm M.top.r t=some u/\Qej g y u):QbN m M' :=
 I.val o w C A B hi D d (fun _ _ _ h=>h) (fun k p e=>⟨p,by rw[n];exact e⟩) (by rw[n];exact I.st) (xs:=[y]) z (by rw[l];rfl) (fun j F E a c=>by
  rw[l] at c
  have:j=0:=by have:=(Zi a).1;simp at this;omega
  subst this;simp at a c;subst a c;exact q)
theorem IM.over_good (m:List (MFunc 6)) (M:IM) (e:Int):QbN m (M.over e):=.inl Z
abbrev IM.one (M:IM):IM:={ M with fuel:=M.fuel+1,top:={ M.top with i:=M.top.i+1 } }
def QbX (m:List (MFunc 6)) (op:Int->Int->Int->Option Int) (M:IM) (x:Qs):Prop:=∃ M',IM.ins m op M.one x=some M'/\QbN m M'
theorem Qkl (I:Inv m g M fn bl s) (a:bl.code[M.top.i]?=some x) (b:s.code x=0) (h:x.op=1):QbX m op M x:=by
 refine⟨_,by unfold IM.ins;rw[Xs h],?_⟩
 exact I.one a (by omega) (by omega) Z Z Z Z Z Z Z (by rw[Z1 (.inl h)]) (Qep _)
theorem QjS (I:Inv m g M fn bl s) (d:bl.code[M.top.i]?=some x) (p:s.code x=0) (h:x.op=2):QbX m op M x:=by
 have c:=(QN p).2.1;rw[QbO h] at c
 obtain⟨f,j⟩:=QD c
 obtain⟨a,o⟩:=I.fr.num f
 obtain⟨b,l⟩:=I.fr.num j
 unfold QbX IM.ins;rw[Xr (by omega),Xs h]
 show ∃ M',(match QS M.top.v x.a with | none=>none | some a=>match QS M.top.v x.b with | none=>none | some b=>match op x.k a b with | none=>some (M.one.over 1) | some n=>some (M.one.push [Qct n]))=some M'/\QbN m M';rw[o,l]
 cases e:op x.k a b with
 | none=>simp only[e];exact⟨_,Z,IM.over_good _ _ _⟩
 | some n=>simp only[e];exact⟨_,Z,I.one d (by omega) (by omega) Z Z Z Z Z Z Z (by rw[QbO h]) (Qep _)⟩
theorem QlR (I:Inv m g M fn bl s) (a:bl.code[M.top.i]?=some x) (b:s.code x=0) (h:x.op=12):QbX m op M x:=by
 unfold QbX IM.ins;rw[Xr (by omega),Xr (by omega),Xr (by omega),Xs h]
 show ∃ M',(match M.inp with | []=>some (M.one.over 4) | n::l=>some (IM.push { M.one with inp:=l } [Qct n]))=some M'/\QbN m M'
 cases e:M.inp with
 | nil=>exact⟨_,Z,IM.over_good _ _ _⟩
 | cons n l=>exact⟨_,Z,I.one a (by omega) (by omega) Z Z Z Z Z Z Z (by rw[Z1 (.inr h)]) (Qep _)⟩
theorem Qkr (I:Inv m g M fn bl s) (d:bl.code[M.top.i]?=some x) (f:s.code x=0) (h:x.op=13):QbX m op M x:=by
 have b:=(QN f).2.1;rw[QbC h] at b
 obtain⟨a,c⟩:=I.fr.num b
 unfold QbX IM.ins;rw[Xr (by omega),Xr (by omega),Xr (by omega),Xr (by omega),Xs h]
 show ∃ M',(match QS M.top.v x.a with | none=>none | some n=>if M.out.length=2000 then some (M.one.over 8) else some { M.one with out:=M.out++[n] })=some M'/\QbN m M';rw[c]
 by_cases e:M.out.length=2000
 ·simp only[e,if_true];exact⟨_,Z,IM.over_good _ _ _⟩
 ·simp only[e,if_false];exact⟨_,Z,I.still d (by omega) (by omega) Z Z Z Z Z Z Z (by rw[QbC h])⟩
theorem Zv (h:x.op=4\/x.op=5\/x.op=6\/x.op=7\/x.op=8\/x.op=9\/x.op=10\/x.op=11):IM.ins m op M x=M.mem x:=by
 unfold IM.ins;rw[Xr (by omega),Xr (by omega),Xr (by omega),Xr (by omega),Xr (by omega),Xr (by omega)]
theorem Qd.get_nat {h:Qd}{v:Q4}{t:Qw}(e:h.thing v=some t){k:Int}(a:0<=k):h.get v k=match t.l[k.toNat]? with | none=>(noV,1) | some x=>(x,0):=by
 unfold Qd.get;rw[e];simp only;rw[Xr (by omega)];first | done | (cases t.l[k.toNat]?<;>rfl)
theorem Qj1 (I:Inv m g M fn bl s) (j:bl.code[M.top.i]?=some x) (y:s.code x=0) (h:x.op=11):QbX m op M x:=by
 have c:=(QN y).2.1;rw[QbJ h] at c
 obtain⟨a,t,u,B,o,z,f,e,C,k,w⟩:=I.fr.want c
 obtain⟨p,d⟩:=w Z (by omega)
 obtain⟨r,n,A,D⟩:=f.thing I.st (.inr k) d
 unfold QbX;rw[Zv (by omega)]
 unfold IM.mem;have b:QR M.one.top.v x.a=some a:=o;rw[b]
 simp only
 rw[Xr (by omega),Xr (by omega),Xr (by omega),Xr (by omega),Xr (by omega),Xr (by omega),Xr (by omega)]
 have q:M.h.len a=((r.l.length:Int),0):=by unfold Qd.len;rw[n]
 show ∃ M',(if a.kind=4/\(M.h.len a).2=0 then some (M.one.push [Qct (M.h.len a).1]) else none)=some M'/\QbN m M';rw[q,Xs ⟨e,Z⟩]
 exact⟨_,Z,I.one j (by omega) (by omega) Z Z Z Z Z Z Z (by rw[QbJ h]) (Qep _)⟩
theorem Qh3 (I:Inv m g M fn bl s) (q:bl.code[M.top.i]?=some x) (K:s.code x=0) (h:x.op=9):QbX m op M x:=by
 have e:=(QN K).2.1;rw[Qa5 h] at e
 obtain⟨o,D⟩:=QD e
 obtain⟨a,t,u,L,z,P,j,G,N,F,E⟩:=I.fr.want o
 obtain⟨n,J⟩:=I.fr.num D
 obtain⟨p,B⟩:=E Z (by omega)
 obtain⟨A,f,C,O⟩:=j.thing I.st (.inr F) B
 unfold QbX;rw[Zv (by omega)]
 unfold IM.mem;have c:QR M.one.top.v x.a=some a:=z;have d:QS M.one.top.v x.b=some n:=J;rw[c]
 simp only
 rw[Xr (by omega),Xr (by omega),Xr (by omega),Xr (by omega),Xr (by omega),Xs h,d]
 simp only
 rw[Xs G]
 show ∃ M',(if (M.h.get a n).2=1 then some (M.one.over 2) else if (M.h.get a n).2=0 then some (M.one.push [(M.h.get a n).1]) else none)=some M'/\QbN m M';by_cases r:n<0
 ·have:M.h.get a n=(noV,1):=by unfold Qd.get;rw[f];simp only;rw[Xs r]
  rw[this]
  exact⟨_,by rw[Xs Z],IM.over_good _ _ _⟩
 ·rw[Qd.get_nat f (by omega)]
  cases ey:A.l[n.toNat]? with
  | none=>exact⟨M.one.over 2,Z,IM.over_good _ _ _⟩
  | some y =>
    refine⟨M.one.push [y],Z,I.one q (by omega) (by omega) Z Z Z Z Z Z Z (by rw[Qa5 h]) ⟨tInt,Z,.inl ⟨Z,?_⟩⟩⟩
    rcases C with ⟨H,w,k⟩|⟨H,w,-⟩
    ·exact k y (Zm ey)
    ·omega
theorem QjM (I:Inv m g M fn bl s) (B:bl.code[M.top.i]?=some x) (H:s.code x=0) (h:x.op=6):QbX m op M x:=by
 obtain⟨b,c,-⟩:=QN H
 have f:0<=x.k:=by
  unfold Qs.form at b;repeat' split at b
  all_goals first | omega | cases b
 have d:=Qc6 (s:=s) h;rw[d] at c
 cases et:s.at x.a with
 | none=>rw[et] at c;cases c
 | some t =>
   rw[et] at c d
   simp only at c d
   by_cases e:s.want x.a 3 true=0
   ·rw[Xs e] at c d
    cases ek:t.2.2[x.k.toNat]? with
    | none=>rw[ek] at c;cases c
    | some w =>
      rw[ek] at d
      simp only at d
      obtain⟨a,V,u,o,D,O,r,N,T,L,K⟩:=I.fr.want e
      rw[et] at o;cases o
      obtain⟨p,F⟩:=K Z (by omega)
      obtain⟨E,P,G,U⟩:=r.thing I.st (.inl L) F
      rcases G with ⟨Q,C,-⟩|⟨Q,C,z,J⟩
      ·omega
      ·obtain⟨A,n,S⟩:=Qec (Zp O).2.2 ek
       obtain⟨y,q⟩:∃ y,E.l[x.k.toNat]?=some y:=⟨_,Zg (by rw[z];exact(Zi n).1)⟩
       have R:M.h.get a x.k=(y,0):=by rw[Qd.get_nat P f,q]
       unfold QbX;rw[Zv (by omega)]
       unfold IM.mem;have j:QR M.one.top.v x.a=some a:=D;rw[j]
       simp only
       rw[Xr (by omega),Xr (by omega),Xr (by omega),Xs h]
       show ∃ M',(if a.kind=3/\(M.h.get a x.k).2=0 then some (M.one.push [(M.h.get a x.k).1]) else none)=some M'/\QbN m M';rw[R,Xs ⟨N,Z⟩]
       exact⟨_,Z,I.one B (by omega) (by omega) Z Z Z Z Z Z Z (by rw[d]) ⟨_,TT.ren_at 5 S,J _ y A q n⟩⟩
   ·rw[Xr e] at c;exact absurd c e
theorem Qd.set_place {h:Qd}{v y:Q4}{k:Int}{j:Int}{p:Qr}(e:h.place j=some p):∃ p',(h.set v k y).2.place j=some p':=by
 unfold Qd.set;split
 ·rename_i t q d b
  obtain⟨f,c,a⟩:=Qd.place_some b
  split
  ·exact⟨p,e⟩
  ·split
   ·exact⟨p,e⟩
   ·simp only
    rw[Qd.place_set (Zi c).1]
    split
    ·exact⟨_,by first | rw[Xs a] | rfl⟩
    ·exact⟨p,e⟩
 ·exact⟨p,e⟩
theorem Qd.put_place {h:Qd}{v:Q4}{t:Qw}{words:Int}{j:Int}{p:Qr}(e:h.place j=some p):∃ p',(h.put v t words).2.2.place j=some p':=by
 unfold Qd.put;split
 ·exact⟨p,e⟩
 ·rename_i q c
  obtain⟨g,f,i,d,b,a⟩:=Qd.at_some c
  split
  ·exact⟨p,e⟩
  ·simp only
   rw[Qd.place_set (by rw[d];exact(Zi b).1)]
   split
   ·have:(q.more t words).there=true:=by unfold Qr.more;split<;>exact a
    exact⟨_,by rw[Xs this]⟩
   ·exact⟨p,e⟩
theorem Inv.stored (I:Inv m g M fn bl s) (c:bl.code[M.top.i]?=some x) (f:x.op≠3) (l:x.op≠4) (b:(s.makes x).2=[]){a y:Q4}{k:Int}(S:StT g (M.h.set a k y).2):QbN m { M.one with h:=(M.h.set a k y).2 } :=
 I.val (M':={ M.one with h:=(M.h.set a k y).2 }) c f l Z Z Z Z Z (fun _ _ _ h=>h) (fun j p e=>Qd.set_place e) S (xs:=[]) (by simp) (by rw[b];rfl) (fun j y t d=>by simp at d)
theorem QkT (I:Inv m g M fn bl s) (T:bl.code[M.top.i]?=some x) (o:s.code x=0) (h:x.op=7):QbX m op M x:=by
 obtain⟨d,c,-⟩:=QN o
 have S:0<=x.k:=by
  unfold Qs.form at d;repeat' split at d
  all_goals first | omega | cases d
 have e:=QcL (s:=s) h;rw[e] at c
 cases et:s.at x.a with
 | none=>rw[et] at c;cases c
 | some t =>
   rw[et] at c e
   simp only at c e
   by_cases n:s.want x.a 3 true=0
   ·rw[Xs n] at c e
    cases ek:t.2.2[x.k.toNat]? with
    | none=>rw[ek] at c;cases c
    | some w =>
      rw[ek] at e c
      simp only at e c
      cases eb:s.at x.b with
      | none=>rw[eb] at c;cases c
      | some vt =>
        rw[eb] at c e
        simp only at c e
        by_cases C:ZQ (w.at 5=vt)=true
        ·rw[Xs C] at e
         have B:w.at 5=vt:=by simpa[ZQ] using C
         obtain⟨a,t',u,K,U,e3,G,e5,e6,e7,e8⟩:=I.fr.want n
         rw[et] at K;cases K
         obtain⟨p,hp⟩:=e8 Z (by omega)
         obtain⟨W,f1,f2,f3⟩:=G.thing I.st (.inl e7) hp
         obtain⟨y,P,y1,R,y3⟩:=I.fr.at eb
         rcases f2 with ⟨F,L,-⟩|⟨F,L,J,b4⟩
         ·omega
         ·obtain⟨Q,H,X⟩:=Qec (Zp e3).2.2 ek
          have A:x.k.toNat<W.l.length:=by rw[J];exact(Zi H).1
          have z:P=Q.at 5:=by
           have:=TT.ren_at 5 X
           rw[B] at this
           have f:vt.ren M.top.r.length (fun i=>M.top.r.getD i 0)=some P:=R;rw[this] at f;exact(Xn f).symm
          have hs:g a.region a.thing.toNat=some u:=by
           rcases G with ⟨V,-⟩|⟨V,-⟩|⟨-,-,-,-,c5⟩
           ·omega
           ·omega
           ·exact c5
          obtain⟨O,N⟩:=I.st.set (x:=y) f1 (.inr ⟨F,L,J,b4⟩) hs (fun o=>by rw[F] at o;cases o) (fun _ w' j=>by
           rw[H] at j;cases j;rw[<-z];exact y3) A
          have E:((x.k.toNat:Nat):Int)=x.k:=by omega
          rw[E] at O N
          unfold QbX;rw[Zv (by omega)]
          unfold IM.mem;have D:QR M.one.top.v x.a=some a:=U;have q:QR M.one.top.v x.b=some y:=y1;rw[D]
          simp only
          rw[Xr (by omega),Xr (by omega),Xr (by omega),Xr (by omega),Xs h,q]
          show ∃ M',(if a.kind=3/\(M.h.set a x.k y).1=0 then some { M.one with h:=(M.h.set a x.k y).2 } else none)=some M'/\QbN m M';rw[Xs ⟨e5,O⟩]
          exact⟨_,Z,I.stored T (by omega) (by omega) (by rw[e]) N⟩
        ·rw[Xr C] at c;cases c
   ·rw[Xr n] at c;exact absurd c n
theorem QgU (I:Inv m g M fn bl s) (K:bl.code[M.top.i]?=some x) (hc:s.code x=0) (h:x.op=10):QbX m op M x:=by
 have d:=(QN hc).2.1;rw[QaE h] at d
 obtain⟨J,d⟩:=QD d
 obtain⟨R,B⟩:=QD d
 obtain⟨a,t,u,e1,N,e3,C,W,e6,V,T⟩:=I.fr.want J
 obtain⟨n,en⟩:=I.fr.num R
 obtain⟨z,X⟩:=I.fr.num B
 obtain⟨p,Q⟩:=T Z (by omega)
 obtain⟨F,A,G,f3⟩:=C.thing I.st (.inr V) Q
 have S:g a.region a.thing.toNat=some u:=by
  rcases C with ⟨P,-⟩|⟨P,-⟩|⟨-,-,-,-,U⟩
  ·omega
  ·omega
  ·exact U
 have f:F.arr=true:=by
  rcases G with ⟨b1,-⟩|⟨-,b2,-⟩
  ·exact b1
  ·omega
 unfold QbX;rw[Zv (by omega)]
 unfold IM.mem;have r:QR M.one.top.v x.a=some a:=N;have y:QS M.one.top.v x.b=some n:=en;have j:QS M.one.top.v x.c=some z:=X;rw[r]
 simp only
 rw[Xr (by omega),Xr (by omega),Xr (by omega),Xr (by omega),Xr (by omega),Xr (by omega),Xs h,y]
 simp only
 rw[j]
 simp only
 rw[Xs W]
 show ∃ M',(if (M.h.set a n (Qct z)).1=1 then some (M.one.over 2) else if (M.h.set a n (Qct z)).1=0 then some { M.one with h:=(M.h.set a n (Qct z)).2 } else none)=some M'/\QbN m M';by_cases L:n<0\/F.l.length<=n.toNat
 ·have:(M.h.set a n (Qct z)).1=1:=by
   obtain⟨H,q,O,-⟩:=Qd.thing_iff.1 A
   unfold Qd.set;rw[A,O];simp only;rw[Xr (fun e=>e.2 Z),Xs L]
  rw[Xs this]
  exact⟨_,Z,IM.over_good _ _ _⟩
 ·obtain⟨o,E⟩:=I.st.set (x:=Qct z) (k:=n.toNat) A G S (fun _=>rfl) (fun D=>by rw[f] at D;cases D) (by omega)
  have w:((n.toNat:Nat):Int)=n:=by omega
  rw[w] at o E
  rw[Xr (by rw[o];decide),Xs o]
  exact⟨_,Z,I.stored K (by omega) (by omega) (by rw[QaE h]) E⟩
theorem Inv.made (I:Inv m g M fn bl s) (l:bl.code[M.top.i]?=some x) (B:x.op≠3) (C:x.op≠4){T u:TT 6}(f:(s.makes x).2=[T]){a:Q4}{p:Qr}{t:Qw}{words:Int}(k:M.h.at a=some p) (D:rtm M.top.r T=some u) (o:u.r=a.region) (v:QbA g t u):∃ M',M.one.got (M.h.put a t words)=some M'/\QbN m M':=by
 obtain⟨E,z,S,A⟩:=I.st.put (words:=words) k o v
 rcases Qd.put_code (t:=t) (words:=words) k with d | ⟨n,-⟩
 ·unfold IM.got;rw[Xr (by rw[d];decide),Xs d]
  refine⟨_,Z,?_⟩
  exact I.val l B C Z Z Z Z Z z (fun j q e=>Qd.put_place e) S (xs:=[(M.h.put a t words).1]) Z (by rw[f];rfl) (fun j y w b c=>by
   rw[f] at c
   have:j=0:=by have:=(Zi b).1;simp at this;omega
   subst this;simp at b c;subst b c;exact⟨u,D,A d⟩)
 ·unfold IM.got;rw[Xs n]
  exact⟨_,Z,IM.over_good _ _ _⟩
theorem QgV (I:Inv m g M fn bl s) (C:bl.code[M.top.i]?=some x) (P:s.code x=0) (h:x.op=8):QbX m op M x:=by
 have e:=(QN P).2.1;have f:=Qbs (s:=s) h;rw[f] at e
 cases et:s.at x.a with
 | none=>rw[et] at e;cases e
 | some t =>
   rw[et] at e f
   simp only at e f
   obtain⟨B,H⟩:=QD e
   obtain⟨a,U,u,q,D,w,z,L,G,T,J⟩:=I.fr.want B
   rw[et] at q;cases q
   obtain⟨n,N⟩:=I.fr.num H
   obtain⟨p,F⟩:=J Z (by omega)
   have d:a.region=u.r:=by
    rcases z with ⟨S,-⟩|⟨-,-,c⟩|⟨-,-,c,-⟩
    ·omega
    ·exact c
    ·exact c
   have l:M.h.at a=some p:=by unfold Qd.at;rw[Xs L,d];exact F
   unfold QbX;rw[Zv (by omega)]
   unfold IM.mem;have k:QR M.one.top.v x.a=some a:=D;have o:QS M.one.top.v x.b=some n:=N;rw[k]
   simp only
   rw[Xr (by omega),Xr (by omega),Xs h,o]
   simp only
   by_cases j:n<0\/15<n
   ·rw[Xs j]
    exact⟨_,Z,IM.over_good _ _ _⟩
   ·rw[Xr j]
    show ∃ M',M.one.got (M.h.array a n)=some M'/\QbN m M';unfold Qd.array;rw[Xr j]
    obtain⟨V,R,Q⟩:=QlV w (by omega)
    have O:rtm M.top.r (mkT 4 t.r [])=some (mkT 4 u.r []:TT 6):=by
     have E:ZJ M.top.r.length (fun i=>M.top.r.getD i 0) 4 t.r=some u.r:=by
      have:=(Zp w).2.1
      have K:t.1=2:=G;rw[K] at this
      exact this
     exact ZT (t:=(mkT 4 t.r []:TT 6)) E Z
    exact I.made C (by omega) (by omega) (by rw[f]) l O d.symm (.inl ⟨Z,Z,fun y A=>by rw[List.eq_of_mem_replicate A];rfl⟩)
theorem QgO (I:Inv m g M fn bl s) (hx:bl.code[M.top.i]?=some x) (hc:s.code x=0) (h:x.op=5):QbX m op M x:=by
 have d:=(QN hc).2.1;have e:=Qbp (s:=s) h;rw[e] at d
 cases et:s.at x.a with
 | none=>rw[et] at d;cases d
 | some t =>
   rw[et] at d e
   simp only at d e
   by_cases D:s.want x.a 2 true=0
   ·rw[Xs D] at d e
    cases ef:s.fields x.args with
    | none=>rw[ef] at d;cases d
    | some l =>
      rw[ef] at d e
      simp only at d e
      by_cases O:4<TT.height (n:=7) (mkT 3 t.r l)
      ·rw[Xs O] at d;cases d
      ·rw[Xr O] at e
       obtain⟨a,t',u,X,e2,e3,e4,e5,e6,e7,e8⟩:=I.fr.want D
       rw[et] at X;cases X
       obtain⟨p,hp⟩:=e8 Z (by omega)
       have f:a.region=u.r:=by
        rcases e4 with ⟨N,-⟩|⟨-,-,c⟩|⟨-,-,c,-⟩
        ·omega
        ·exact c
        ·exact c
       have R:M.h.at a=some p:=by unfold Qd.at;rw[Xs e5,f];exact hp
       obtain⟨E,b1,b2,W⟩:=I.fr.fields ef
       obtain⟨k,B⟩:∃ k,ZV (TT.ren M.top.r.length (fun i=>M.top.r.getD i 0)) l=some k:=by
        clear e d O
        have U:∀ (l:List (TT 6)),(∀ t∈l,∃ u,rtm M.top.r t=some u)->∃ k,ZV (TT.ren M.top.r.length (fun i=>M.top.r.getD i 0)) l=some k:=by
         intro l
         induction l with
         | nil=>exact fun _=>⟨[],Z⟩
         | cons z zs ih =>
           intro F;obtain⟨u1,P⟩:=F z (by simp)
           obtain⟨us,T⟩:=ih (fun t ht=>F t (by simp[ht]))
           have C:z.ren M.top.r.length (fun i=>M.top.r.getD i 0)=some u1:=P;exact⟨u1::us,by simp only[ZV,C,T]⟩
        refine U l (fun z F=>?_);obtain⟨j,hj⟩:=List.mem_iff_getElem?.1 F
        obtain⟨y,G⟩:∃ y,E[j]?=some y:=⟨_,Zg (by rw[b2];exact(Zi hj).1)⟩
        obtain⟨w,w1,-⟩:=W j y z G hj
        exact⟨w,w1⟩
       have hr:ZJ M.top.r.length (fun i=>M.top.r.getD i 0) 3 t.r=some u.r:=by
        have:=(Zp e3).2.1
        have ek:t.1=2:=e6;rw[ek] at this
        exact this
       have L:(mkT 3 t.r l:TT 7).ren M.top.r.length (fun i=>M.top.r.getD i 0)=some (mkT 3 u.r k:TT 7):=ZT (t:=(mkT 3 t.r l:TT 7)) hr B;have hT:=TT.ren_at 5 L;unfold QbX;rw[Zv (by omega)]
       unfold IM.mem;have Q:QR M.one.top.v x.a=some a:=e2;have J:Q8 M.one.top.v x.args=some E:=b1;rw[Q]
       simp only
       rw[Xr (by omega),Xs h,J]
       show ∃ M',M.one.got (M.h.tuple a E)=some M'/\QbN m M';unfold Qd.tuple;obtain⟨N,c2⟩:=ZR.1 B
       refine I.made hx (by omega) (by omega) (by rw[e]) R hT (show u.r=a.region from f.symm) (.inr ⟨Z,Z,?_,fun j y w G V=>?_⟩)
       ·show E.length=(k.map (TT.at 4)).length;simp[b2,N]
       ·have b:(k.map (TT.at 4))[j]?=some w:=V;rw[XS] at b
        cases eu:k[j]? with
        | none=>rw[eu] at b;cases b
        | some uj =>
          rw[eu] at b
          have S:uj.at 4=w:=Xn b;obtain⟨q,o⟩:∃ q,l[j]?=some q:=⟨_,Zg (by rw[<-N];exact(Zi eu).1)⟩
          obtain⟨w',d1,d2⟩:=W j y q G o
          have H:=c2 j q o;rw[eu] at H
          have A:q.ren M.top.r.length (fun i=>M.top.r.getD i 0)=some w':=d1;rw[H] at A;cases A
          have K:uj.height<=4:=by
           rw[TT.ren_height H]
           have:=(Q9 (t:=(mkT 3 t.r l:TT 7)) (m:=4)).1 (by omega) q (Zm o)
           omega
          rw[<-S,TT.at_back 4 uj K]
          exact d2
   ·rw[Xr D] at d;exact absurd d D
end
section
variable {m:List (MFunc 6)}{op:Int->Int->Int->Option Int}{φ:Int->Nat}{π:Int->Nat->Nat}{M M':IM}{R:RM}{x:Qs}
abbrev RM.one (R:RM):RM:={ R with fuel:=R.fuel+1 }
theorem Sim.next (S:Sim φ π M R) (c:M.done=false){a:Qd}{l:Est}{φ':Int->Nat}{π':Int->Nat->Nat}(H:Qa9 a l φ' π') (k:∀ x n,Rep M.h φ π x n->Rep a φ' π' x n){xs:List Q4}{ns:List Int}(o:ns.length=xs.length) (m:∀ (j:Nat) x n,xs[j]?=some x->ns[j]?=some n->Rep a φ' π' x n) (r':List Int) (d g:List Int) :
 Qex { M with h:=a,top:=⟨M.top.f,M.top.b,M.top.i+1,M.top.v++xs,r'⟩,inp:=d,out:=g,fuel:=M.fuel+1 } { R with e:=l,top:={ R.top with v:=R.top.v++ns,i:=R.top.i+1 },inp:=d,out:=g,fuel:=R.fuel+1 }:=by
 have F:=((S.top c).mono k).push o m (M.top.i+1) (R.top.i+1) (by rw[(S.top c).eI]);exact⟨φ',π',H,S.done,Z,S.back,by show R.fuel+1=M.fuel+1;rw[S.fuel],S.fin,fun _=>rfl,fun _=>⟨F.eF,F.eB,F.eI,F.len,F.val⟩,fun _=>(S.rest c).mono k⟩
theorem Sim.next0 (S:Sim φ π M R) (c:M.done=false){a:Qd}{g:Est}{φ':Int->Nat}{π':Int->Nat->Nat}(H:Qa9 a g φ' π') (d:∀ x n,Rep M.h φ π x n->Rep a φ' π' x n){xs:List Q4}{ns:List Int}(l:ns.length=xs.length) (k:∀ (j:Nat) x n,xs[j]?=some x->ns[j]?=some n->Rep a φ' π' x n) (r':List Int) :
 Qex { M with h:=a,top:=⟨M.top.f,M.top.b,M.top.i+1,M.top.v++xs,r'⟩,fuel:=M.fuel+1 } { R with e:=g,top:={ R.top with v:=R.top.v++ns,i:=R.top.i+1 },fuel:=R.fuel+1 }:=by
 have F:=((S.top c).mono d).push l k (M.top.i+1) (R.top.i+1) (by rw[(S.top c).eI]);exact⟨φ',π',H,S.done,S.out,S.back,by show R.fuel+1=M.fuel+1;rw[S.fuel],S.fin,fun _=>S.inp c,fun _=>⟨F.eF,F.eB,F.eI,F.len,F.val⟩,fun _=>(S.rest c).mono d⟩
theorem Qgy {P:Q4->Int->Prop}{y:Q4}{n:Int}(h:P y n) (j:Nat) (x:Q4) (k:Int) (a:[y][j]?=some x) (b:[n][j]?=some k):P x k:=by
 cases j with
 | zero=>simp at a b;subst a b;exact h
 | succ j=>simp at a
theorem Sim.one1 (S:Sim φ π M R) (a:M.done=false){y:Q4}{n:Int}(b:Rep M.h φ π y n):Qex (M.one.push [y]) (R.one.on [n]) :=
 S.next0 a S.heap (fun _ _ h=>h) (xs:=[y]) (ns:=[n]) Z (Qgy b) M.top.r
theorem Sim.stop (S:Sim φ π M R) (k:Int):Qex (M.one.over k) (R.one.over k):=Sim.over (M:=M.one) (R:=R.one) (H:=S.heap) S.out S.back (by show R.fuel+1=M.fuel+1;rw[S.fuel]) k
def ZF (m:List (MFunc 6)) (op:Int->Int->Int->Option Int) (R:RM) (x:Qs) (M':IM):Prop:=∃ R',RM.ins op R.one x=some R'/\Qex M' R'
theorem Qh4 (S:Sim φ π M R) (a:M.done=false) (e:x.op=1) (h:IM.ins m op M.one x=some M'):ZF m op R x M':=by
 simp[IM.ins,e] at h
 subst h;exact⟨_,by simp[RM.ins,e],S.one1 a (Qel x.n)⟩
theorem Qiu (S:Sim φ π M R) (c:M.done=false) (e:x.op=2) (h:IM.ins m op M.one x=some M'):ZF m op R x M':=by
 unfold IM.ins at h;rw[Xr (by omega),Xs e] at h
 have F:=S.top c
 cases ha:QS M.top.v x.a with
 | none=>rw[show QS M.one.top.v x.a=none from ha] at h;cases h
 | some a =>
   rw[show QS M.one.top.v x.a=some a from ha] at h
   simp only at h
   cases hb:QS M.top.v x.b with
   | none=>rw[show QS M.one.top.v x.b=none from hb] at h;cases h
   | some b =>
     rw[show QS M.one.top.v x.b=some b from hb] at h
     simp only at h
     unfold ZF RM.ins;rw[Xr (by omega),Xs e,show iAt R.one.top.v x.a=some a from F.num ha]
     simp only
     rw[show iAt R.one.top.v x.b=some b from F.num hb]
     simp only
     cases ho:op x.k a b with
     | none=>rw[ho] at h;cases h;exact⟨_,Z,S.stop 1⟩
     | some n=>rw[ho] at h;cases h;exact⟨_,Z,S.one1 c (Qel n)⟩
theorem Qkw (S:Sim φ π M R) (a:M.done=false) (e:x.op=12) (h:IM.ins m op M.one x=some M'):ZF m op R x M':=by
 unfold IM.ins at h;rw[Xr (by omega),Xr (by omega),Xr (by omega),Xs e] at h
 unfold ZF RM.ins;rw[Xr (by omega),Xr (by omega),Xr (by omega),Xr (by omega),Xr (by omega),Xr (by omega),Xs e]
 have b:R.one.inp=M.one.inp:=S.inp a;rw[b]
 cases hi:M.one.inp with
 | nil=>rw[hi] at h;cases h;exact⟨_,Z,S.stop 4⟩
 | cons n l =>
   rw[hi] at h
   cases h
   refine⟨_,Z,?_⟩
   have:=S.next a S.heap (fun _ _ h=>h) (xs:=[Qct n]) (ns:=[n]) rfl (Qgy (Qel n)) M.top.r l M.out
   have c:=S.out;show Qex _ { R with inp:=l,top:=_,fuel:=R.fuel+1 };rw[show ({ R with inp:=l,top:={ R.top with v:=R.top.v++[n],i:=R.top.i+1 },fuel:=R.fuel+1 }:RM)={ R with e:=R.e,top:={ R.top with v:=R.top.v++[n],i:=R.top.i+1 },inp:=l,out:=M.out,fuel:=R.fuel+1 } by rw[<-c]]
   exact this
theorem Qjz (S:Sim φ π M R) (b:M.done=false) (f:M.out.length<=2000) (e:x.op=13) (h:IM.ins m op M.one x=some M'):ZF m op R x M':=by
 unfold IM.ins at h;rw[Xr (by omega),Xr (by omega),Xr (by omega),Xr (by omega),Xs e] at h
 unfold ZF RM.ins;rw[Xr (by omega),Xr (by omega),Xr (by omega),Xr (by omega),Xr (by omega),Xr (by omega),Xr (by omega),Xs e]
 have F:=S.top b
 cases ha:QS M.top.v x.a with
 | none=>rw[show QS M.one.top.v x.a=none from ha] at h;cases h
 | some n =>
   rw[show QS M.one.top.v x.a=some n from ha] at h
   rw[show iAt R.one.top.v x.a=some n from F.num ha]
   simp only at h |-
   have c:R.one.out=M.one.out:=S.out;by_cases d:M.out.length=2000
   ·rw[Xs (show M.one.out.length=2000 from d)] at h
    cases h
    rw[Xr (by rw[c];show ¬ M.out.length<2000;omega)]
    exact⟨_,Z,S.stop 8⟩
   ·rw[Xr (show ¬ M.one.out.length=2000 from d)] at h
    cases h
    rw[Xs (by rw[c];show M.out.length<2000;omega)]
    refine⟨_,Z,?_⟩
    have:=S.next b S.heap (fun _ _ h=>h) (xs:=[]) (ns:=[]) rfl (fun j x n h=>by simp at h) M.top.r M.inp (M.out++[n])
    have g:=S.inp b;have k:=S.out;simp only[List.append_nil] at this
    unfold RM.on;simp only[List.append_nil]
    show Qex _ { R with out:=R.out++[n],top:={ R.top with i:=R.top.i+1 },fuel:=R.fuel+1 };rw[k,show ({ R with out:=M.out++[n],top:={ R.top with i:=R.top.i+1 },fuel:=R.fuel+1 }:RM)={ R with e:=R.e,top:={ R.top with i:=R.top.i+1 },inp:=M.inp,out:=M.out++[n],fuel:=R.fuel+1 } by rw[<-g]]
    exact this
theorem QiE (S:Sim φ π M R) (l:M.done=false) (e:x.op=3) (h:IM.ins m op M.one x=some M'):ZF m op R x M':=by
 unfold IM.ins at h;rw[Xr (by omega),Xr (by omega),Xs e] at h
 unfold ZF RM.ins;rw[Xr (by omega),Xr (by omega),Xs e]
 by_cases a:16<=M.h.live
 ·have i:M.one.h.open_.2.1=false:=by show M.h.open_.2.1=false;unfold Qd.open_;rw[Xs a]
  rw[i] at h
  have d:R.one.e.openK=-1:=(Est.open_no (S.heap.full.1 a)).1;rw[Xr (by rw[d];decide)]
  cases h
  exact⟨_,Z,S.stop 6⟩
 ·have c:M.h.open_=(⟨2,M.h.L.length,0,0⟩,true,{ M.h with L:=M.h.L++[newP] }):=by unfold Qd.open_;rw[Xr a]
  rw[Xs (by show M.h.open_.2.1=true;rw[c])] at h
  cases h
  obtain⟨j,f,g,k⟩:=S.heap.opens a
  rw[Xs (show 0<=R.one.e.openK from j)]
  refine⟨_,Z,?_⟩
  refine S.next0 l f k (xs:=[M.h.open_.1]) (ns:=[R.e.openK]) Z (Qgy ?_) (M.top.r++[M.h.open_.1.region]);rw[c]
  refine⟨fun b=>by simp at b,fun _=>⟨by simp only;omega,by simp;omega,fun p n=>⟨fun _=>?_,fun b=>absurd Z b⟩⟩⟩
  simp only
  rw[g]
  omega
theorem Qhp (S:Sim φ π M R) (c:M.done=false) (e:x.op=4) (h:IM.ins m op M.one x=some M'):ZF m op R x M':=by
 rw[Zv (by omega)] at h
 unfold IM.mem at h;unfold ZF RM.ins;rw[Xr (by omega),Xr (by omega),Xr (by omega),Xs e]
 have F:=S.top c
 cases ha:QR M.top.v x.a with
 | none=>rw[show QR M.one.top.v x.a=none from ha] at h;cases h
 | some a =>
   obtain⟨n,d,o⟩:=F.at ha
   rw[show QR M.one.top.v x.a=some a from ha] at h
   rw[show iAt R.one.top.v x.a=some n from d]
   simp only at h |-
   rw[Xs e] at h
   cases hp:M.h.at a with
   | none =>
     have:(M.one.h.shut a).1=false:=by show (M.h.shut a).1=false;unfold Qd.shut;rw[hp]
     rw[this] at h;cases h
   | some p =>
     obtain⟨g,i,f⟩:=S.heap.shuts hp
     rw[Xs (show (M.one.h.shut a).1=true from g)] at h
     cases h
     refine⟨_,Z,?_⟩
     obtain⟨b,l,-⟩:=Qd.at_some hp
     have k:n=φ a.region:=((o.2 (.inl b)).2.2 p l).1 b
     have:=S.next0 c i f (xs:=[]) (ns:=[]) Z (fun j x n h=>by simp at h) M.top.r
     rw[k]
     simp only[List.append_nil] at this
     unfold RM.on;simp only[List.append_nil]
     exact this
theorem Qcz {g:Q4 × Int × Qd}(h:IM.got M g=some M'):(g.2.1=14/\M'=M.over 6)\/(g.2.1=0/\M'=IM.push ({ M with h:=g.2.2 }) [g.1]):=by
 unfold IM.got at h;split at h
 ·cases h;exact .inl ⟨by assumption,Z⟩
 ·split at h
  ·cases h;exact .inr ⟨by assumption,Z⟩
  ·cases h
theorem Sim.made (S:Sim φ π M R) (u:M.done=false){a:Q4}{n:Int}(v:Rep M.h φ π a n){t:Qw}(f:t.sz<=16)(j:QmM M.h φ π t l) (h:M.one.got (M.h.put a t t.sz)=some M'):Qex M' (R.one.thing n t.sz l):=by
 cases hp:M.h.at a with
 | none =>
   have:M.h.put a t t.sz=(noV,20,M.h):=by unfold Qd.put;rw[hp]
   rw[this] at h
   rcases Qcz h with ⟨c,-⟩|⟨c,-⟩<;>cases c
 | some p =>
   obtain⟨g,m,-⟩:=Qd.at_some hp
   have k:n=φ a.region:=((v.2 (.inl g)).2.2 p m).1 g;subst k;unfold RM.thing;rcases S.heap.puts hp t f with ⟨d,b⟩|⟨d,b,w,s⟩
   ·rw[Xr (show ¬ R.one.e.getCode (φ a.region) t.sz=0 from d)]
    rcases Qcz h with ⟨-,rfl⟩|⟨c,-⟩
    ·exact S.stop 6
    ·rw[b] at c;cases c
   ·rw[Xs (show R.one.e.getCode (φ a.region) t.sz=0 from d)]
    rcases Qcz h with ⟨c,-⟩|⟨-,rfl⟩
    ·rw[b] at c;cases c
    ·obtain⟨π',q,i,o⟩:=s l j
     exact S.next0 u q i (xs:=[(M.h.put a t t.sz).1]) (ns:=[R.e.getAt (φ a.region) t.sz]) Z (Qgy o) M.top.r
theorem QfJ (S:Sim φ π M R) (i:M.done=false) (t:x.args.length<=16) (e:x.op=5) (h:IM.ins m op M.one x=some M'):ZF m op R x M':=by
 rw[Zv (by omega)] at h
 unfold IM.mem at h;unfold ZF RM.ins;rw[Xr (by omega),Xr (by omega),Xr (by omega),Xr (by omega),Xs e]
 have F:=S.top i
 cases ha:QR M.top.v x.a with
 | none=>rw[show QR M.one.top.v x.a=none from ha] at h;cases h
 | some a =>
   obtain⟨n,p,r⟩:=F.at ha
   rw[show QR M.one.top.v x.a=some a from ha] at h
   rw[show iAt R.one.top.v x.a=some n from p]
   simp only at h |-
   rw[Xr (by omega),Xs e] at h
   cases hl:Q8 M.top.v x.args with
   | none=>rw[show Q8 M.one.top.v x.args=none from hl] at h;cases h
   | some xs =>
     rw[show Q8 M.one.top.v x.args=some xs from hl] at h
     obtain⟨b,q,u,c,o⟩:=F.all hl
     rw[show QaA R.one.top.v x.args=some b from q]
     simp only at h |-
     have f:((⟨false,xs⟩:Qw).sz:Int)=if xs.length=0 then 1 else (xs.length:Int):=by
      unfold Qw.sz;simp only[Bool.false_eq_true,if_false]
      split<;>omega
     unfold Qd.tuple at h;rw[<-f] at h
     have l:(if b.length=0 then 1 else (b.length:Int))=((⟨false,xs⟩:Qw).sz:Int):=by rw[f,c]
     rw[l]
     exact⟨_,Z,S.made i r (by unfold Qw.sz;simp only[Bool.false_eq_true,if_false];omega) ⟨fun _=>⟨c,fun j y g=>by
      obtain⟨k,d⟩:∃ k,b[j]?=some k:=⟨_,Zg (by rw[c];exact(Zi g).1)⟩
      have:=o j y k g d
      rw[List.getD_eq_getElem?_getD,d]
      exact this⟩,fun s=>by cases s⟩ h⟩
theorem QfI (S:Sim φ π M R) (f:M.done=false) (e:x.op=8) (h:IM.ins m op M.one x=some M'):ZF m op R x M':=by
 rw[Zv (by omega)] at h
 unfold IM.mem at h;unfold ZF RM.ins;rw[Xr (by omega),Xr (by omega),Xr (by omega),Xr (by omega),Xr (by omega),Xs e]
 have F:=S.top f
 cases ha:QR M.top.v x.a with
 | none=>rw[show QR M.one.top.v x.a=none from ha] at h;cases h
 | some a =>
   obtain⟨n,i,o⟩:=F.at ha
   rw[show QR M.one.top.v x.a=some a from ha] at h
   rw[show iAt R.one.top.v x.a=some n from i]
   simp only at h |-
   rw[Xr (by omega),Xr (by omega),Xs e] at h
   cases hb:QS M.top.v x.b with
   | none=>rw[show QS M.one.top.v x.b=none from hb] at h;cases h
   | some k =>
     rw[show QS M.one.top.v x.b=some k from hb] at h
     rw[show iAt R.one.top.v x.b=some k from F.num hb]
     simp only at h |-
     by_cases d:k<0\/15<k
     ·rw[Xs d] at h;cases h
      rw[Xr (by omega)]
      exact⟨_,Z,S.stop 3⟩
     ·rw[Xr d] at h
      rw[Xs (by omega)]
      have c:M.one.got (M.h.array a k)=some M':=h;unfold Qd.array at c;rw[Xr d] at c
      have g:((⟨true,List.replicate k.toNat (Qct 0)⟩:Qw).sz:Int)=k+1:=by
       unfold Qw.sz;simp;omega
      rw[<-g] at c |-
      refine⟨_,Z,S.made f o (by omega) ⟨fun p=>(by cases p),fun _=>⟨by simp;omega,fun j y l=>?_⟩⟩ c⟩
      exact List.eq_of_mem_replicate (Zm l)
theorem ZY {n:Int}(a:0<=n) (b:n<2000):wrap64 n=n:=by unfold wrap64;omega
theorem Qax (h:x.op=6\/x.op=7\/x.op=9\/x.op=10\/x.op=11):RM.ins op R x=R.part x:=by
 unfold RM.ins;rw[Xr (by omega),Xr (by omega),Xr (by omega),Xr (by omega),Xr (by omega),Xr (by omega),Xr (by omega),Xr (by omega),Xr (by omega)]
theorem QiH (S:Sim φ π M R) (c:M.done=false) (e:x.op=6) (h:IM.ins m op M.one x=some M'):ZF m op R x M':=by
 rw[Zv (by omega)] at h
 unfold IM.mem at h;unfold ZF;rw[Qax (by omega)]
 unfold RM.part;have F:=S.top c
 cases ha:QR M.top.v x.a with
 | none=>rw[show QR M.one.top.v x.a=none from ha] at h;cases h
 | some a =>
   obtain⟨n,f,d⟩:=F.at ha
   rw[show QR M.one.top.v x.a=some a from ha] at h
   rw[show iAt R.one.top.v x.a=some n from f]
   simp only at h |-
   rw[Xr (by omega),Xr (by omega),Xr (by omega),Xs e] at h
   rw[Xs e]
   split at h
   ·rename_i b
    cases h
    obtain⟨l,o,g⟩:=S.heap.get d b.1 b.2
    have i:0<=n/\n<1024:=by
     cases ht:M.h.thing a with
     | none =>
       have:=b.2
       have j:(M.h.get a x.k).2=20:=by unfold Qd.get;rw[ht]
       rw[show (M.one.h.get a x.k).2=(M.h.get a x.k).2 from Z,j] at this;cases this
     | some t =>
       obtain⟨p,T⟩:=S.heap.at d ht
       have:=T.run.low S.heap.ok
       have:=S.heap.ok.ok.most
       have:=t.sz_pos
       simp only at *
       omega
    rw[ZY (by omega) (by omega)]
    exact⟨_,Z,S.one1 c g⟩
   ·cases h
theorem QiV (S:Sim φ π M R) (c:M.done=false) (e:x.op=11) (h:IM.ins m op M.one x=some M'):ZF m op R x M':=by
 rw[Zv (by omega)] at h
 unfold IM.mem at h;unfold ZF;rw[Qax (by omega)]
 unfold RM.part;have F:=S.top c
 cases ha:QR M.top.v x.a with
 | none=>rw[show QR M.one.top.v x.a=none from ha] at h;cases h
 | some a =>
   obtain⟨n,f,g⟩:=F.at ha
   rw[show QR M.one.top.v x.a=some a from ha] at h
   rw[show iAt R.one.top.v x.a=some n from f]
   simp only at h |-
   rw[Xr (by omega),Xr (by omega),Xr (by omega),Xr (by omega),Xr (by omega),Xr (by omega),Xr (by omega)] at h
   rw[Xr (by omega),Xr (by omega),Xr (by omega),Xr (by omega),Xs e]
   split at h
   ·rename_i d
    cases h
    have b:=S.heap.len g d.1 d.2
    have:=S.one1 c (Qel (h:=M.h) (φ:=φ) (π:=π) (M.h.len a).1)
    rw[<-b] at this
    exact⟨_,Z,by rw[<-b];exact this⟩
   ·cases h
theorem Qg7 (S:Sim φ π M R) (g:M.done=false) (e:x.op=9) (h:IM.ins m op M.one x=some M'):ZF m op R x M':=by
 rw[Zv (by omega)] at h
 unfold IM.mem at h;unfold ZF;rw[Qax (by omega)]
 unfold RM.part;have F:=S.top g
 cases ha:QR M.top.v x.a with
 | none=>rw[show QR M.one.top.v x.a=none from ha] at h;cases h
 | some a =>
   obtain⟨n,o,j⟩:=F.at ha
   rw[show QR M.one.top.v x.a=some a from ha] at h
   rw[show iAt R.one.top.v x.a=some n from o]
   simp only at h |-
   rw[Xr (by omega),Xr (by omega),Xr (by omega),Xr (by omega),Xr (by omega),Xs e] at h
   rw[Xr (by omega),Xr (by omega),Xs e]
   cases hb:QS M.top.v x.b with
   | none=>rw[show QS M.one.top.v x.b=none from hb] at h;cases h
   | some k =>
     rw[show QS M.one.top.v x.b=some k from hb] at h
     rw[show iAt R.one.top.v x.b=some k from F.num hb]
     simp only at h |-
     split at h
     ·rename_i f
      split at h
      ·rename_i c
       cases h
       obtain⟨d,-⟩:=S.heap.num j f (.inr c)
       rw[Xr (show ¬ (0<=k/\k<R.one.load n) from d.1 c)]
       exact⟨_,Z,S.stop 2⟩
      ·rename_i c
       split at h
       ·rename_i i
        cases h
        obtain⟨d,l⟩:=S.heap.num j f (.inl i)
        obtain⟨s,q,r,u,w⟩:=l i
        rw[Xs (show 0<=k/\k<R.one.load n from Xq.1 (fun t=>c (d.2 t))),ZY (n:=n+1) (by omega) (by omega),ZY (by omega) r]
        refine⟨_,Z,S.one1 g ⟨fun _=>q,fun p=>?_⟩⟩
        rw[s] at p;omega
       ·cases h
     ·cases h
theorem Qjt (S:Sim φ π M R) (s:M.done=false) (e:x.op=7) (h:IM.ins m op M.one x=some M'):ZF m op R x M':=by
 rw[Zv (by omega)] at h
 unfold IM.mem at h;unfold ZF;rw[Qax (by omega)]
 unfold RM.part;have F:=S.top s
 cases ha:QR M.top.v x.a with
 | none=>rw[show QR M.one.top.v x.a=none from ha] at h;cases h
 | some a =>
   obtain⟨n,C,u⟩:=F.at ha
   rw[show QR M.one.top.v x.a=some a from ha] at h
   rw[show iAt R.one.top.v x.a=some n from C]
   simp only at h |-
   rw[Xr (by omega),Xr (by omega),Xr (by omega),Xr (by omega),Xs e] at h
   rw[Xr (by omega),Xs e]
   cases hb:QR M.top.v x.b with
   | none=>rw[show QR M.one.top.v x.b=none from hb] at h;cases h
   | some y =>
     obtain⟨z,G,i⟩:=F.at hb
     rw[show QR M.one.top.v x.b=some y from hb] at h
     rw[show iAt R.one.top.v x.b=some z from G]
     simp only at h |-
     split at h
     ·rename_i B
      cases h
      have d:(M.h.set a x.k y).1=0:=B.2
      cases ht:M.h.thing a with
      | none=>unfold Qd.set at d;rw[ht] at d;cases d
      | some t =>
        obtain⟨-,p,D,-,-,o⟩:=Qd.thing_iff.1 ht
        have f:t.arr=false:=by rw[o];simp[show a.kind=3 from B.1]
        have E:0<=x.k/\x.k.toNat<t.l.length:=by
         unfold Qd.set at d;rw[ht,D] at d
         simp only at d
         rw[Xr (fun c=>by rw[f] at c;cases c.1)] at d
         split at d
         ·cases d
         ·omega
        obtain⟨L,T⟩:=S.heap.at u ht
        have g:=T.run.low S.heap.ok;have J:=S.heap.ok.ok.most;have I:=t.sz_l f;simp only at g
        obtain⟨H,q,A⟩:=S.heap.set u ht E.2 (y:=y) (z:=z) (fun _=>i) (fun c=>by rw[f] at c;cases c)
        have w:((x.k.toNat:Nat):Int)=x.k:=by omega
        rw[w,f] at q
        rw[w] at A
        simp only[Bool.false_eq_true,if_false,Int.add_zero] at q
        rw[ZY (by omega) (by omega)]
        refine⟨_,Z,?_⟩
        exact S.next0 s q A (xs:=[]) (ns:=[]) Z (fun j x n h=>by simp at h) M.top.r |> fun K=>by
         simp only[List.append_nil] at K
         unfold RM.on;simp only[List.append_nil]
         exact K
     ·cases h
theorem Qfy (S:Sim φ π M R) (w:M.done=false) (e:x.op=10) (h:IM.ins m op M.one x=some M'):ZF m op R x M':=by
 rw[Zv (by omega)] at h
 unfold IM.mem at h;unfold ZF;rw[Qax (by omega)]
 unfold RM.part;have F:=S.top w
 cases ha:QR M.top.v x.a with
 | none=>rw[show QR M.one.top.v x.a=none from ha] at h;cases h
 | some a =>
   obtain⟨n,E,A⟩:=F.at ha
   rw[show QR M.one.top.v x.a=some a from ha] at h
   rw[show iAt R.one.top.v x.a=some n from E]
   simp only at h |-
   rw[Xr (by omega),Xr (by omega),Xr (by omega),Xr (by omega),Xr (by omega),Xr (by omega),Xs e] at h
   rw[Xr (by omega),Xr (by omega),Xr (by omega),Xs e]
   cases hb:QS M.top.v x.b with
   | none=>rw[show QS M.one.top.v x.b=none from hb] at h;cases h
   | some k =>
     rw[show QS M.one.top.v x.b=some k from hb] at h
     rw[show iAt R.one.top.v x.b=some k from F.num hb]
     simp only at h |-
     cases hcc:QS M.top.v x.c with
     | none=>rw[show QS M.one.top.v x.c=none from hcc] at h;cases h
     | some z =>
       rw[show QS M.one.top.v x.c=some z from hcc] at h
       rw[show iAt R.one.top.v x.c=some z from F.num hcc]
       simp only at h |-
       split at h
       ·rename_i C
        cases ht:M.h.thing a with
        | none =>
          have:(M.h.set a k (Qct z))=(20,M.h):=by unfold Qd.set;rw[ht]
          rw[show M.one.h=M.h from Z,this] at h
          simp at h
        | some t =>
          obtain⟨-,p,B,-,-,s⟩:=Qd.thing_iff.1 ht
          have d:t.arr=true:=by rw[s];simp[show a.kind=4 from C]
          obtain⟨G,T⟩:=S.heap.at A ht
          have f:R.e.p.load n=t.l.length:=by
           have:=S.heap.load T (m:=0) t.sz_pos
           rw[Nat.add_zero] at this
           rw[G,this,T.len d]
          have g:=T.run.low S.heap.ok;have H:=S.heap.ok.ok.most;have I:=t.sz_a d;simp only at g
          by_cases o:k<0\/t.l.length<=k.toNat
          ·have:(M.h.set a k (Qct z)).1=1:=by
            unfold Qd.set;rw[ht,B];simp only;rw[Xr (fun c=>c.2 Z),Xs o]
           rw[show M.one.h=M.h from Z,Xs this] at h
           cases h
           rw[Xr (show ¬ (0<=k/\k<R.one.load n) from fun c=>by have:k<R.e.p.load n:=c.2;rw[f] at this;omega)]
           exact⟨_,Z,S.stop 2⟩
          ·obtain⟨q,i,u⟩:=S.heap.set A ht (k:=k.toNat) (by omega) (y:=Qct z) (z:=z) (fun c=>by rw[d] at c;cases c) (fun _=>⟨Z,Z⟩)
           have D:((k.toNat:Nat):Int)=k:=by omega
           rw[D] at q i u
           rw[show M.one.h=M.h from Z,Xr (by rw[q];decide),Xs q] at h
           cases h
           rw[d] at i
           simp only[if_true] at i
           rw[Xs (show 0<=k/\k<R.one.load n from ⟨by omega,by show k<R.e.p.load n;rw[f];omega⟩),ZY (n:=n+1) (by omega) (by omega),ZY (by omega) (by omega)]
           refine⟨_,Z,?_⟩
           have K:=S.next0 w i u (xs:=[]) (ns:=[]) Z (fun j x n h=>by simp at h) M.top.r;simp only[List.append_nil] at K
           unfold RM.on RM.stored;simp only[List.append_nil]
           rw[show n+1+k=n+k+1 by omega]
           exact K
       ·cases h
theorem QgS (S:Sim φ π M R) (b:M.done=false) (o:M.rest.length<40) (e:x.op=14) (h:IM.ins m op M.one x=some M'):ZF m op R x M':=by
 unfold IM.ins at h;rw[Xr (by omega),Xr (by omega),Xr (by omega),Xr (by omega),Xr (by omega),Xs e] at h
 unfold IM.call at h;unfold ZF RM.ins;rw[Xr (by omega),Xr (by omega),Xr (by omega),Xr (by omega),Xr (by omega),Xr (by omega),Xr (by omega),Xr (by omega),Xs e]
 have F:=S.top b;have n:=(S.rest b).length
 cases hr:QbT M.one.top.r x.regs with
 | none=>rw[hr] at h;cases h
 | some r =>
   rw[hr] at h
   simp only at h
   cases hv:Q8 M.top.v x.args with
   | none=>rw[show Q8 M.one.top.v x.args=none from hv] at h;cases h
   | some v =>
     rw[show Q8 M.one.top.v x.args=some v from hv] at h
     simp only at h
     obtain⟨j,f,l,d,c⟩:=F.all hv
     cases hg:m[x.k.toNat]? with
     | none=>rw[hg] at h;cases h
     | some g =>
       rw[hg] at h
       simp only at h
       split at h
       ·by_cases a:M.rest.length+1=40
        ·rw[Xs (show M.one.rest.length+1=40 from a)] at h
         cases h
         rw[Xr (show ¬ R.rest.length+1<40 by omega)]
         exact⟨_,Z,S.stop 5⟩
        ·rw[Xr (show ¬ M.one.rest.length+1=40 from a)] at h
         cases h
         rw[Xs (show R.rest.length+1<40 by omega),show QaA R.one.top.v x.args=some j from f]
         refine⟨_,Z,⟨φ,π,S.heap,S.done,S.out,S.back,by show R.fuel+1=M.fuel+1;rw[S.fuel],S.fin,fun _=>S.inp b,fun _=>⟨Z,Z,Z,by simp[d],c⟩,fun _=>⟨⟨F.eF,F.eB,by show R.top.i+1=M.top.i+1;rw[F.eI],F.len,F.val⟩,S.rest b⟩⟩⟩
       ·cases h
theorem Qi3 (S:Sim φ π M R) (a:M.done=false) (d:M.rest.length<40) (b:M.out.length<=2000) (f:1<=x.op/\x.op<=14) (c:x.op=5->x.args.length<=16) (h:IM.ins m op M.one x=some M'):ZF m op R x M':=by
 have:x.op=1\/x.op=2\/x.op=3\/x.op=4\/x.op=5\/x.op=6\/x.op=7\/x.op=8\/x.op=9\/x.op=10\/x.op=11\/x.op=12\/x.op=13\/x.op=14:=by omega
 rcases this with e | e | e | e | e | e | e | e | e | e | e | e | e | e
 ·exact Qh4 S a e h
 ·exact Qiu S a e h
 ·exact QiE S a e h
 ·exact Qhp S a e h
 ·exact QfJ S a (c e) e h
 ·exact QiH S a e h
 ·exact Qjt S a e h
 ·exact QfI S a e h
 ·exact Qg7 S a e h
 ·exact Qfy S a e h
 ·exact QiV S a e h
 ·exact Qkw S a e h
 ·exact Qjz S a b e h
 ·exact QgS S a d e h
theorem QfA (S:Sim φ π M R) (a:M.done=false){fn:MFunc 6}{t:MTo}(h:IM.to fn { M with fuel:=M.fuel+1 } t=some M'):∃ R',R.one.to t=some R'/\Qex M' R':=by
 unfold IM.to at h;unfold RM.to;have F:=S.top a
 cases hb:fn.blocks[t.block.toNat]? with
 | none=>rw[hb] at h;cases h
 | some b =>
   rw[hb] at h
   simp only at h
   cases hr:QbT M.top.r t.regs with
   | none=>rw[hr] at h;cases h
   | some r =>
     rw[hr] at h
     simp only at h
     cases hv:Q8 M.top.v t.args with
     | none=>rw[hv] at h;cases h
     | some v =>
       rw[hv] at h
       obtain⟨f,e,g,d,c⟩:=F.all hv
       rw[show QaA R.one.top.v t.args=some f from e]
       simp only at h |-
       split at h
       ·cases h
        exact⟨_,Z,⟨φ,π,S.heap,S.done,S.out,S.back,by show R.fuel+1=M.fuel+1;rw[S.fuel],S.fin,fun _=>S.inp a,fun _=>⟨F.eF,Z,Z,by simp[d],c⟩,fun _=>S.rest a⟩⟩
       ·cases h
theorem QiI (S:Sim φ π M R) (g:M.done=false){fn:MFunc 6}{e:ZA}(q:1<=e.op/\e.op<=3) (h:IM.endd fn { M with fuel:=M.fuel+1 } e=some M'):∃ R',R.one.endd e=some R'/\Qex M' R':=by
 have F:=S.top g;unfold IM.endd at h;unfold RM.endd
 have:e.op=1\/e.op=2\/e.op=3:=by omega
 rcases this with f | f | f
 ·rw[Xs f] at h
  rw[Xr (by omega),Xr (by omega)]
  exact QfA S g h
 ·rw[Xr (by omega),Xs f] at h
  rw[Xr (by omega),Xs f]
  cases hn:QS M.top.v e.a with
  | none=>simp only[hn] at h;cases h
  | some n =>
    simp only[hn] at h
    rw[show iAt R.one.top.v e.a=some n from F.num hn]
    simp only
    split at h
    ·rename_i j;rw[Xs j];exact QfA S g h
    ·rename_i j;rw[Xr j];exact QfA S g h
 ·rw[Xr (by omega),Xr (by omega)] at h
  rw[Xs f]
  cases hv:Q8 M.top.v e.args with
  | none=>simp only[hv] at h;cases h
  | some v =>
    simp only[hv] at h
    obtain⟨ns,l,p,m,o⟩:=F.all hv
    rw[show QaA R.one.top.v e.args=some ns from l]
    simp only
    split at h
    ·have c:=S.rest g
     cases hm:M.rest with
     | nil =>
       rw[hm] at h c
       cases hr:R.rest with
       | cons b k=>rw[hr] at c;exact c.elim
       | nil =>
         simp only at h
         cases hn:Qco M.top.v e.args with
         | none=>rw[hn] at h;cases h
         | some n =>
           rw[hn] at h
           cases h
           have:=F.nums hn
           rw[l] at this
           cases this
           exact⟨_,Z,⟨φ,π,S.heap,Z,S.out,Z,by show R.fuel+1=M.fuel+1;rw[S.fuel],Z,fun h=>(by cases h),fun h=>(by cases h),fun h=>(by cases h)⟩⟩
     | cons d rest =>
       rw[hm] at h c
       cases hr:R.rest with
       | nil=>rw[hr] at c;exact c.elim
       | cons b k =>
         rw[hr] at c
         simp only at h
         cases h
         have G:=c.1.push (xs:=v) (ns:=ns) m o d.i b.i c.1.eI;exact⟨_,Z,⟨φ,π,S.heap,S.done,S.out,S.back,by show R.fuel+1=M.fuel+1;rw[S.fuel],S.fin,fun _=>S.inp g,fun _=>⟨G.eF,G.eB,G.eI,G.len,G.val⟩,fun _=>c.2⟩⟩
    ·cases h
def QmZ (m:List (MFunc 6)):Prop:=∀ (k:Nat) fn (q:Nat) bl,m[k]?=some fn->fn.blocks[q]?=some bl->(∀ x∈bl.code,(1<=x.op/\x.op<=14)/\(x.op=5->x.args.length<=16))/\1<=bl.fin.op/\bl.fin.op<=3
theorem Qhj (H:QmZ m) (S:Sim φ π M R) (d:M.done=false) (l:M.rest.length<40) (a:M.out.length<=2000)(h:IM.step m op most M=some M'):∃ R',RM.step m op most R=some R'/\Qex M' R':=by
 have F:=S.top d;unfold IM.step at h;unfold RM.step;rw[S.fuel]
 split at h
 ·rename_i c
  cases h
  rw[Xs c]
  exact⟨_,Z,Sim.over (H:=S.heap) S.out S.back S.fuel 7⟩
 ·rename_i c
  rw[Xr c,F.eF]
  cases hm:m[M.top.f]? with
  | none=>rw[hm] at h;cases h
  | some fn =>
    rw[hm] at h
    simp only at h |-
    rw[F.eB]
    cases hb:fn.blocks[M.top.b]? with
    | none=>rw[hb] at h;cases h
    | some bl =>
      rw[hb] at h
      simp only at h |-
      rw[F.eI]
      obtain⟨e,g⟩:=H _ fn _ bl hm hb
      cases hx:bl.code[M.top.i]? with
      | some x =>
        rw[hx] at h
        simp only at h |-
        obtain⟨j,k⟩:=e x (Zm hx)
        have:=Qi3 S d l a j k h
        unfold ZF at this;rw[show R.one={ R with fuel:=M.fuel+1 } by show { R with fuel:=R.fuel+1 }=_;rw[S.fuel]] at this
        exact this
      | none =>
        rw[hx] at h
        simp only at h |-
        have:=QiI S d g h
        rw[show R.one={ R with fuel:=M.fuel+1 } by show { R with fuel:=R.fuel+1 }=_;rw[S.fuel]] at this
        exact this
theorem Qhe (inp:List Int)(c:pages<=64):Qex (IM.start inp pages) (RM.start inp pages):=by
 have a:∀ k,(IM.start inp pages).h.place k=none:=fun k=>by
  show (Qd.new pages).place k=none;unfold Qd.place;simp[Qd.new]
 refine⟨fun _=>0,fun _ _=>0,⟨Est.ok_new pages c,?_,fun k p h=>?_,fun j k p q h=>?_,fun i r b=>?_,fun j r b=>?_,fun k p i t h=>?_,fun k p i t d g e f h=>?_⟩,Z,Z,Z,Z,Z,fun _=>rfl,fun _=>⟨Z,Z,Z,Z,fun j x n h=>by simp[IM.start] at h⟩,fun _=>trivial⟩
 ·show (pages:Int)=(PSt.new pages).free;simp[PSt.free,PSt.new]
 ·rw[a] at h;cases h
 ·rw[a] at h;cases h
 ·cases b
 ·cases b
 ·rw[a] at h;cases h
 ·rw[a] at h;cases h
end
theorem QeQ {α:Type}{f a:α->Option α}:∀ {l l':List α},(∀ x∈l,∀ u,f x=some u->a x=some u)->ZV f l=some l'->ZV a l=some l'
 | [],l',_,h=>by simp[ZV] at h;subst h;rfl
 | x::xs,l',hx,h=>by
   simp only[ZV] at h
   cases h1:f x with
   | none=>simp[h1] at h
   | some y =>
     simp only[h1] at h
     cases h2:ZV f xs with
     | none=>simp[h2] at h
     | some ys =>
       simp only[h2] at h
       cases h
       simp only[ZV,hx x (by simp) y h1,QeQ (fun z b=>hx z (by simp[b])) h2]
theorem TT.ren_more {m c:Nat}{d a:Nat->Int}(b:∀ k r r',ZJ m d k r=some r'->ZJ c a k r=some r'):{n:Nat}->{t u:TT n}->t.ren m d=some u->t.ren c a=some u
 | 0,t,_,_=>Empty.elim t
 | n+1,t,u,h=>by
   obtain⟨f,g,e⟩:=Zp h
   rw[ZT (b _ _ _ g) (QeQ (fun x _ v i=>TT.ren_more b i) e),<-f]
   rfl
section
variable {m:List (MFunc 6)}{g g':Sig}{M M':IM}{fn:MFunc 6}{bl:MBlock 6}{s:JSt}{x:Qs}{op:Int->Int->Int->Option Int}{h:Qd}{v:List Q4}{r:List Int}
theorem QiU (I:Inv m g M fn bl s) (hx:bl.code[M.top.i]?=some x) (S:s.code x=0) (B:x.op=4):QbX m op M x:=by
 obtain⟨t,j,N,tk,tr,K,F,J⟩:=Qio S B
 have z:=(QN S).2.1;rw[Qaz B,N] at z
 simp only at z
 obtain⟨X,Q⟩:=QD z
 have D:s.f.regs<=j:=by
  by_cases e:t.r<s.f.regs
  ·rw[Xs e] at Q;cases Q
  ·omega
 obtain⟨a,t',u,G,e2,e3,T,e5,e6,e7,e8⟩:=I.fr.want X
 rw[N] at G;cases G
 obtain⟨p,hp⟩:=e8 Z (by omega)
 have n:a.region=u.r:=by
  rcases T with ⟨c1,-⟩|⟨-,-,c⟩|⟨-,-,c,-⟩
  ·omega
  ·exact c
  ·exact c
 obtain⟨q1,q2,V⟩:=QlV e3 (by omega)
 have y:u.r=M.top.r.getD j 0:=by rw[V,tr];rfl
 have w:M.h.at a=some p:=by unfold Qd.at;rw[Xs e5,n];exact hp
 obtain⟨-,hq,i,R,U,aa⟩:=Qd.at_some w
 have q:M.h.shut a=(true,⟨M.h.L.set a.region.toNat noP,M.h.left+p.pages⟩):=by unfold Qd.shut;rw[w]
 have o:∀ k:Int,k≠u.r->(M.h.shut a).2.place k=M.h.place k:=fun k b=>by
  rw[q];simp only
  rw[Qd.place_set (by rw[R];exact(Zi U).1),Xr (fun e=>b (by rw[e,<-n,R];simp))]
 unfold QbX;rw[Zv (by omega)]
 unfold IM.mem;have C:QR M.one.top.v x.a=some a:=e2;rw[C]
 simp only
 rw[Xs B]
 show ∃ M',(if (M.h.shut a).1 then some { M.one with h:=(M.h.shut a).2 } else none)=some M'/\QbN m M';rw[Xs (by rw[q])]
 refine⟨_,Z,.inr ⟨g,fn,bl,_,I.on hx Z Z Z Z ?_ (I.st.shut a) ?_⟩⟩
 ·rw[J]
  have d:∀ k,(s.H.set j false).getD k false=true->k≠j/\s.H.getD k false=true:=fun k b=>by
   by_cases e:k=j
   ·subst e;simp[List.getD,K] at b
   ·refine⟨e,?_⟩
    simpa[List.getD,List.getElem?_set_ne (Ne.symm e)] using b
  refine⟨by simpa using I.fr.rl,I.fr.pos,fun k b=>?_,fun k l b hl=>I.fr.dist k l (d k b).2 (d l hl).2,I.fr.vl,I.fr.val⟩
  obtain⟨k1,O⟩:=d k b
  obtain⟨p',E⟩:=I.fr.held k O
  exact⟨p',by rw[o _ (fun e=>k1 (I.fr.dist k j O F (by rw[e,y])))];exact E⟩
 ·rw[J]
  refine I.stk.keep (fun _ _ _ h=>h) (fun k b A=>?_) (fun k b=>?_) (fun k _=>rfl)
  ·have:k≠u.r:=fun e=>b ⟨j,F,D,by rw[e,y]⟩
   show ∃ p,(M.h.shut a).2.place k=some p;rw[o k this];exact A
  ·obtain⟨l,P,l2,W⟩:=b
   refine .inl ⟨l,?_,l2,W⟩;by_cases e:l=j
   ·subst e;simp[List.getD,K] at P
   ·simpa[List.getD,List.getElem?_set_ne (Ne.symm e)] using P
theorem Qkb (I:Inv m g M fn bl s) (hx:bl.code[M.top.i]?=some x) (hc:s.code x=0) (T:x.op=3) (hJ:s.f.regs<=s.H.length):QbX m op M x:=by
 have V:=QbM (s:=s) T;have h0:=(QN hc).2.1;have U:¬ s.H.length=16:=fun e=>by rw[V,Xs e] at h0;cases h0
 rw[Xr U] at V
 unfold QbX IM.ins;rw[Xr (by omega),Xr (by omega),Xs T]
 show ∃ M',(if M.h.open_.2.1 then some (IM.push { M.one with h:=M.h.open_.2.2,top:={ M.one.top with r:=M.top.r++[M.h.open_.1.region] } } [M.h.open_.1]) else some (M.one.over 6))=some M'/\QbN m M';by_cases ho:16<=M.h.live
 ·have:M.h.open_.2.1=false:=by unfold Qd.open_;rw[Xs ho]
  rw[Xr (by rw[this];decide)]
  exact⟨_,Z,IM.over_good _ _ _⟩
 ·have R:M.h.open_=(⟨2,M.h.L.length,0,0⟩,true,{ M.h with L:=M.h.L++[newP] }):=by unfold Qd.open_;rw[Xr ho]
  rw[Xs (by rw[R])]
  have E:M.h.open_.1.region=(M.h.L.length:Int):=by rw[R]
  have J:∀ k:Int,M.h.open_.2.2.place k=if k=M.h.L.length then some newP else M.h.place k:=fun k=>by
   rw[R];exact Qd.place_push M.h newP k M.h.left
  have l:∀ k p,M.h.place k=some p->∃ p,M.h.open_.2.2.place k=some p:=fun k p e=>by
   rw[J];split
   ·exact⟨_,Z⟩
   ·exact⟨p,e⟩
  have o:M.h.place (M.h.L.length:Int)=none:=by
   rw[Qd.place_nat,Xk Ze]
  have A:(s.next x).H=s.H++[true]:=by unfold JSt.next;simp only;rw[Xs T]
  have K:(s.next x).L=s.L++[mkT 2 s.H.length []]:=by unfold JSt.next;simp only;rw[V]
  have D:=I.fr.rl
  have d:∀ k,k<s.H.length->(M.top.r++[(M.h.L.length:Int)]).getD k 0=M.top.r.getD k 0:=fun k c=>by
   simp[List.getD,List.getElem?_append_left (show k<M.top.r.length by omega)]
  have n:(M.top.r++[(M.h.L.length:Int)]).getD s.H.length 0=M.h.L.length:=by
   simp[List.getD,<-D]
  have w:∀ k,(s.H++[true]).getD k false=true->(k<s.H.length/\s.H.getD k false=true)\/k=s.H.length:=fun k c=>by
   rcases Nat.lt_trichotomy k s.H.length with e | e | e
   ·refine .inl ⟨e,?_⟩;simpa[List.getD,List.getElem?_append_left e] using c
   ·exact .inr e
   ·rw[Qao _ (by simp;omega)] at c;cases c
  have C:∀ {t u:TT 6},rtm M.top.r t=some u->rtm (M.top.r++[(M.h.L.length:Int)]) t=some u:=fun {t u} hu=>by
   refine TT.ren_more (fun k q q' z=>?_) hu;unfold ZJ at z |-;by_cases c:k=1
   ·rw[Xs c] at z |-;exact z
   ·rw[Xr c] at z |-
    by_cases hb:q<0\/(M.top.r.length:Int)<=q
    ·rw[Xs hb] at z;cases z
    ·rw[Xr hb] at z
     rw[Xr (by simp;omega)]
     have e:=d q.toNat (by omega);simp only at z |-
     rw[e]
     exact z
  refine⟨_,Z,.inr ⟨g,fn,bl,_,I.on hx Z Z Z Z ?_ I.st.open ?_⟩⟩
  ·show FrT g M.h.open_.2.2 (s.next x) (M.top.v++[M.h.open_.1]) (M.top.r++[M.h.open_.1.region]);rw[E]
   refine⟨by rw[A];simp[D],fun k c=>?_,fun k c=>?_,fun j k hj c e=>?_,by rw[K];simp[I.fr.vl],fun j t y B F=>?_⟩
   ·rcases List.mem_append.1 c with e | e
    ·exact I.fr.pos k e
    ·simp at e;omega
   ·rw[A] at c
    rcases w k c with ⟨e1,e2⟩ | e
    ·rw[d k e1];obtain⟨p,Q⟩:=I.fr.held k e2;exact l _ p Q
    ·rw[e,n,J,Xs Z];exact⟨_,Z⟩
   ·rw[A] at hj c
    have N:∀ i,s.H.getD i false=true->i<s.H.length->M.top.r.getD i 0≠(M.h.L.length:Int):=fun i hi hl e=>by
     obtain⟨p,Q⟩:=I.fr.held i hi
     rw[e,o] at Q;cases Q
    rcases w j hj with ⟨G,P⟩ | a<;>rcases w k c with ⟨X,b2⟩ | b
    ·rw[d j G,d k X] at e;exact I.fr.dist j k P b2 e
    ·rw[d j G,b,n] at e;exact absurd e (N j P G)
    ·rw[d k X,a,n] at e;exact absurd e.symm (N k b2 X)
    ·rw[a,b]
   ·rw[K] at B
    rcases Nat.lt_or_ge j s.L.length with e | e
    ·rw[XP e] at B
     rw[XP (by rw[I.fr.vl];exact e)] at F
     obtain⟨u,u1,u2⟩:=I.fr.val j t y B F
     exact⟨u,C u1,u2⟩
    ·rw[XQ e] at B
     rw[XQ (by rw[I.fr.vl];exact e),I.fr.vl] at F
     have S:j - s.L.length=0:=by have:=(Zi B).1;simp at this;omega
     rw[S] at B F
     simp at B F
     subst B F;refine⟨mkT 2 (M.h.L.length:Int) [],?_,.inr (.inl ⟨Z,by rw[R],by rw[E];rfl⟩)⟩
     refine ZT (t:=(mkT 2 (s.H.length:Int) []:TT 6)) ?_ Z;show ZJ _ _ 2 (s.H.length:Int)=_;unfold ZJ;rw[Xr (by decide),Xr (by simp[D];omega)]
     simp only[Int.toNat_natCast]
     rw[n,Xr (by omega)]
  ·show Stk m g M.h.open_.2.2 (Own (s.next x) (M.top.r++[M.h.open_.1.region])) fn M.top.f (M.top.r++[M.h.open_.1.region]) M.rest;rw[E]
   have W:=I.mf.2;refine I.stk.keep (fun _ _ _ h=>h) (fun k _ ⟨p,e⟩=>l k p e) (fun k c=>?_) (fun k c=>?_)
   ·obtain⟨j,j1,j2,O⟩:=c
    rw[A] at j1
    rcases w j j1 with ⟨G,P⟩ | a
    ·rw[d j G] at O;exact .inl ⟨j,P,j2,O⟩
    ·rw[a,n] at O;exact .inr (by rw[<-O];exact o)
   ·rcases Nat.lt_or_ge k s.H.length with e | e
    ·exact d k e
    ·rw[<-W] at c;omega
theorem QeF (F:FrT g h s v r):∀ {l:List Int},(∀ k∈l,hHas s.H k=true)->∃ r',QbT r l=some r'/\r'.length=l.length/\(∀ j,j<l.length->r'.getD j 0=r.getD (l.getD j 0).toNat 0)/\∀ k∈r',0<=k
 | [],_=>⟨[],Z,Z,fun j c=>by simp at c,fun k b=>by simp at b⟩
 | k::l,hl=>by
   obtain⟨r',n,o,m,f⟩:=QeF F (l:=l) (fun z d=>hl z (by simp[d]))
   have b:=hl k (by simp);unfold hHas at b;simp only[Bool.and_eq_true,decide_eq_true_eq] at b
   have a:k.toNat<r.length:=by
    rw[F.rl]
    rcases Nat.lt_or_ge k.toNat s.H.length with e | e
    ·exact e
    ·rw[Qao _ e] at b;exact absurd b.2 (by decide)
   have i:Ql9 r k=some r[k.toNat]:=by unfold Ql9;rw[Xr (by omega)];exact Zg a
   refine⟨r[k.toNat]::r',by simp only[QbT,i,n],by simp[o],fun j c=>?_,fun z d=>?_⟩
   ·cases j with
    | zero=>simp[List.getD,Zg a]
    | succ j=>have:=m j (by simpa using c);simpa[List.getD] using this
   ·rcases List.mem_cons.1 d with e | e
    ·rw[e];exact F.pos _ (List.getElem_mem a)
    ·exact f z e
theorem Qet {r r':List Int}(w:n<=l.length) (g:n<=r'.length) (p:∀ j,j<n->0<=l.getD j 0/\(l.getD j 0).toNat<r.length) (f:∀ k∈r,0<=k) (o:∀ j,j<n->r'.getD j 0=r.getD (l.getD j 0).toNat 0){t e:TT 6}(h:t.ren n (fun i=>l.getD i 0)=some e):∃ u,rtm r e=some u/\t.ren n (fun i=>r'.getD i 0)=some u:=by
 refine TT.ren_comp (fun k q x a=>?_) h;unfold ZJ at a;by_cases b:k=1
 ·rw[Xs b] at a;cases a
  exact⟨q,by unfold ZJ;rw[Xs b],by unfold ZJ;rw[Xs b]⟩
 ·rw[Xr b] at a
  by_cases c:q<0\/(n:Int)<=q
  ·rw[Xs c] at a;cases a
  ·rw[Xr c] at a
   obtain⟨v,d⟩:=p q.toNat (by omega)
   have m:=o q.toNat (by omega);simp only at a
   rw[Xr (by omega)] at a
   cases a
   have s:0<=r.getD (l.getD q.toNat 0).toNat 0:=by
    have:r.getD (l.getD q.toNat 0).toNat 0=r[(l.getD q.toNat 0).toNat]:=by rw[List.getD_eq_getElem?_getD,Zg d];rfl
    rw[this];exact f _ (List.getElem_mem d)
   refine⟨r.getD (l.getD q.toNat 0).toNat 0,?_,?_⟩
   ·unfold ZJ;rw[Xr b,Xr (by omega)]
    simp only
    rw[Xr (by omega)]
   ·unfold ZJ;rw[Xr b,Xr c]
    simp only
    rw[m,Xr (by omega)]
theorem Qf2 (F:FrT g h s v r){l:List Int}:∀ {a:List Int}{ts:List (TT 6)},a.length=ts.length->Qu (fun p:Int × TT 6=>s.arg l p.1 p.2) (a.zip ts)=0->∃ xs,Q8 v a=some xs/\xs.length=ts.length/\∀ (j:Nat) (y:Q4) (t:TT 6),xs[j]?=some y->ts[j]?=some t->∃ us u,t.ren l.length (fun i=>l.getD i 0)=some us/\rtm r us=some u/\Qej g y u
 | [],ts,hl,h0=>by
   have:ts=[]:=Xf.1 hl.symm
   subst this;exact⟨[],Z,Z,fun j y t c=>by simp at c⟩
 | k::a,[],hl,h0=>by simp at hl
 | k::a,t::ts,hl,h0=>by
   have m:=QF.1 h0;obtain⟨xs,x,z,q⟩:=Qf2 F (a:=a) (ts:=ts) (by simpa using hl) (QF.2 (fun p n=>m p (by simp[n])))
   have b:s.arg l k t=0:=m (k,t) (by simp);unfold JSt.arg at b
   cases ek:s.at k with
   | none=>rw[ek] at b;cases b
   | some us =>
     rw[ek] at b
     simp only at b
     by_cases f:ZQ (t.ren l.length (fun i=>l.getD i 0)=some us)=true
     ·have e:t.ren l.length (fun i=>l.getD i 0)=some us:=by simpa[ZQ] using f
      obtain⟨y,u,w,o,B⟩:=F.at ek
      refine⟨y::xs,by simp only[Q8,w,x],by simp[z],fun j C A c d=>?_⟩
      cases j with
      | zero=>simp at c d;subst c d;exact⟨us,u,e,o,B⟩
      | succ j=>exact q j C A (by simpa using c) (by simpa using d)
     ·rw[Xr f] at b;cases b
theorem Qbz (a:n<=16) (k:Nat):(QbV (n:Int)).getD k false=true↔k<n:=by
 unfold QbV
 have:(min (n:Int) 16).toNat=n:=by omega
 rw[this]
 rcases Nat.lt_or_ge k n with e | e
 ·simp[List.getD,e]
 ·simp[List.getD,e]
theorem FrT.hand (F:FrT g h s v r){a:List Int}{ts:List (TT 6)}(p:l.length<=16) (D:∀ k∈l,hHas s.H k=true) (w:l.Nodup) (q:s.args a ts l=0) (O:List (MFunc 6)) (P:MFunc 6) :
 ∃ r' v',QbT r l=some r'/\Q8 v a=some v'/\r'.length=l.length/\v'.length=ts.length/\(∀ j,j<l.length->r'.getD j 0=r.getD (l.getD j 0).toNat 0)/\FrT g h ⟨O,P,QbV (l.length:Int),ts⟩ v' r':=by
 obtain⟨r',K,C,x,G⟩:=QeF F D
 unfold JSt.args at q;by_cases i:a.length=ts.length
 ·rw[Xs i] at q
  obtain⟨v',T,E,Q⟩:=Qf2 F i q
  have d:∀ j,j<l.length->0<=l.getD j 0/\s.H.getD (l.getD j 0).toNat false=true/\(l.getD j 0).toNat<r.length:=fun j o=>by
   have S:l.getD j 0∈l:=by simp only[List.getD,Zg o,Option.getD_some];exact List.getElem_mem o
   have m:=D _ S;unfold hHas at m;simp only[Bool.and_eq_true,decide_eq_true_eq] at m
   refine⟨m.1,m.2,?_⟩
   rw[F.rl]
   rcases Nat.lt_or_ge (l.getD j 0).toNat s.H.length with e | e
   ·exact e
   ·have B:=m.2;rw[Qao _ e] at B;cases B
  refine⟨r',v',K,T,C,E,x,⟨?_,G,fun k m=>?_,fun j k o m e=>?_,E,fun j t y J I=>?_⟩⟩
  ·show r'.length=(QbV (l.length:Int)).length
   have:=Qes (n:=(l.length:Int)) ⟨by omega,by omega⟩
   omega
  ·have b:=(Qbz p k).1 m;rw[x k b]
   exact F.held _ (d k b).2.1
  ·have f:=(Qbz p j).1 o;have b:=(Qbz p k).1 m;rw[x j f,x k b] at e
   have:=F.dist _ _ (d j f).2.1 (d k b).2.1 e
   have z:l.getD j 0=l.getD k 0:=by have:=(d j f).1;have:=(d k b).1;omega
   simp only[List.getD,Zg f,Zg b,Option.getD_some] at z
   rcases Nat.lt_trichotomy j k with c | c | c
   ·exact absurd z (List.pairwise_iff_getElem.1 w j k f b c)
   ·exact c
   ·exact absurd z.symm (List.pairwise_iff_getElem.1 w k j b f c)
  ·obtain⟨U,u,N,A,L⟩:=Q j y t I J
   obtain⟨V,R,M⟩:=Qet Ze (by omega) (fun j o=>⟨(d j o).1,(d j o).2.2⟩) F.pos x N
   rw[R] at A;cases A
   exact⟨_,by show t.ren r'.length _=_;rw[C];exact M,L⟩
 ·rw[Xr i] at q;cases q
theorem Qbj {H:List Bool}:∀ {l ahead:List Int},QL H ahead l=0->l.Nodup/\∀ k∈l,k ∉ ahead
 | [],_,_=>⟨by simp,fun k a=>by simp at a⟩
 | k::l,ahead,h=>by
   simp only[QL] at h
   split at h
   ·split at h
    ·cases h
    ·rename_i d
     obtain⟨f,c⟩:=Qbj h
     refine⟨List.nodup_cons.2 ⟨fun a=>c k a (by simp),f⟩,fun z g=>?_⟩
     rcases List.mem_cons.1 g with e | e
     ·rw[e];exact fun b=>d (inB_iff.2 b)
     ·exact fun b=>c z e (by simp[b])
   ·cases h
theorem QcR {H:List Bool}:∀ {l ahead:List Int},hPass H ahead l=0->l.Nodup/\(∀ k∈l,k ∉ ahead)/\∀ k∈l,hHas H k=true
 | [],_,_=>⟨by simp,fun k a=>by simp at a,fun k a=>by simp at a⟩
 | k::l,ahead,h=>by
   simp only[hPass] at h
   split at h
   ·rename_i b
    split at h
    ·cases h
    ·rename_i g
     obtain⟨j,f,i⟩:=QcR h
     refine⟨List.nodup_cons.2 ⟨fun a=>f k a (by simp),j⟩,fun z d=>?_,fun z d=>?_⟩
     ·rcases List.mem_cons.1 d with e | e
      ·rw[e];exact fun c=>g (inB_iff.2 c)
      ·exact fun c=>f z e (by simp[c])
     ·rcases List.mem_cons.1 d with e | e
      ·rw[e];exact b
      ·exact i z e
   ·cases h
theorem Z2 (d:(modFault m).1=0){f:MFunc 6}(i:m[k]?=some f):∃ b,f.blocks[0]?=some b/\b.regs=f.regs/\b.params=f.params/\f.right m.length/\(k=0->f.regs=0/\f.params.length=0/\∀ t∈f.results,t.kind=1):=by
 have l:=(Zn d).2 f (Zm i);obtain⟨b,j⟩:∃ b,f.blocks[0]?=some b:=⟨_,Zg l.many.1⟩
 unfold modFault at d;split at d
 ·cases d
 have a:=QQ d k f i;rw[XK] at a
 unfold MFunc.fault at a;split at a
 ·cases a
 split at a
 ·rename_i c;exact absurd a c
 split at a
 ·rename_i c;exact absurd a c
 split at a
 ·cases a
 split at a
 ·cases a
 rename_i h
 have c:=QQ a 0 b j;simp only[Nat.zero_add] at c
 unfold MBlock.fault at c;split at c
 ·cases c
 split at c
 ·rename_i q;exact absurd c q
 split at c
 ·cases c
 rename_i n
 have g:b.regs=f.regs/\Qc1 b.params f.params=true:=by
  constructor
  ·exact Xq.1 fun e=>n ⟨Z,.inl e⟩
  ·cases e:Qc1 b.params f.params with
   | true=>rfl
   | false=>exact absurd ⟨Z,.inr e⟩ n
 refine⟨b,j,g.1,Qc5.1 g.2,l,fun o=>?_⟩
 have:f.regs=0/\f.params.length=0/\f.results.all (fun t=>t.kind==1)=true:=Xq.1 fun e=>h ⟨o,e⟩
 refine⟨this.1,this.2.1,fun t p=>?_⟩
 have:=Xe.1 this.2.2 t p
 simpa using this
theorem Qh0 (O:(modFault m).1=0) (I:Inv m g M fn bl s) (B:bl.code[M.top.i]?=some x) (S:s.code x=0) (e:x.op=14):QbX m op M x:=by
 obtain⟨a,f,-⟩:=QN S
 have w:0<=x.k/\x.k<m.length/\x.regs.length<=6:=by
  rw[I.mf.1] at a
  unfold Qs.form at a;repeat' split at a
  all_goals first | omega | cases a
 obtain⟨c,d⟩:∃ c,m[x.k.toNat]?=some c:=⟨_,Zg (by omega)⟩
 rw[Qa6 e,I.mf.1,d] at f
 simp only at f
 by_cases p:(x.regs.length:Int)=c.regs
 ·rw[Xs p] at f
  obtain⟨A,P⟩:=QD f
  obtain⟨l,u,C,E,V,-⟩:=Z2 O d
  obtain⟨z,D,H,L,U,G,Q,F⟩:=I.fr.hand (by omega) (ZC A) (Qbj A).1 P m c
  unfold QbX IM.ins;rw[Xr (by omega),Xr (by omega),Xr (by omega),Xr (by omega),Xr (by omega),Xs e]
  unfold IM.call;have q:QbT M.one.top.r x.regs=some z:=H;have y:Q8 M.one.top.v x.args=some D:=L;rw[q,y,d]
  simp only
  rw[Xs ⟨by omega,G⟩]
  by_cases n:M.rest.length+1=40
  ·rw[Xs n];exact⟨_,Z,IM.over_good _ _ _⟩
  ·rw[Xr n]
   refine⟨_,Z,.inr ⟨g,c,l,JSt.start m c l,⟨d,u,Xb _,Z,?_,I.st,?_⟩⟩⟩
   ·show FrT g M.h ⟨m,c,QbV l.regs,l.params⟩ D z;rw[C,E,<-p];exact F
   ·have K:=(Zi B).1
    have b:∀ k,¬ Own (JSt.start m c l) z k:=fun k ⟨j,R,N,T⟩=>by
     have o:(QbV l.regs).getD j false=true:=R;rw[C,<-p] at o
     have:=(Qbz (by omega) j).1 o
     have J:c.regs<=j:=N;omega
    refine⟨fn,bl,x,s,I.hf,I.hb,Nat.succ_pos _,by simpa using B,e,by show x.k=((x.k.toNat:Nat):Int);omega,by simpa using I.hs,I.fr,fun k w=>Q k (by omega),fun k _=>b _,?_⟩
    refine I.stk.keep (fun _ _ _ h=>h) (fun k _ h=>h) (fun k w=>?_) (fun k _=>rfl);rcases w with t | t
    ·exact absurd t (b k)
    ·exact .inl t
 ·rw[Xr p] at f;cases f
end
theorem JSt.next_len (s:JSt) (x:Qs):s.H.length<=(s.next x).H.length:=by
 unfold JSt.next
 simp only
 split
 ·simp
 ·split
  ·simp
  ·exact Ze
theorem JSt.upto_len:∀ (l:List Qs) (s:JSt),s.H.length<=(s.upto l).H.length
 | [],s=>Ze
 | x::l,s=>Zt (s.next_len x) (JSt.upto_len l (s.next x))
section
variable {m:List (MFunc 6)}{g g':Sig}{M M':IM}{fn:MFunc 6}{bl:MBlock 6}{s:JSt}{x:Qs}{op:Int->Int->Int->Option Int}{h:Qd}{v:List Q4}{r:List Int}
theorem QlS (c:(modFault m).1=0)(d:m[k]?=some fn) (e:fn.blocks[q]?=some bl) (l:List Qs):fn.regs<=((JSt.start m fn bl).upto l).H.length:=by
 have b:=(Zn c).2 fn (Zm d);have a:=b.blocks bl (Zm e);have f:=JSt.upto_len l (JSt.start m fn bl);have g:=Qes (n:=bl.regs) ⟨by have:=b.regs;have:=a.regs;omega,a.regs.2⟩;have h:(JSt.start m fn bl).H.length=(QbV bl.regs).length:=rfl
 have:=a.regs
 omega
theorem Inv.kept (a:(modFault m).1=0) (I:Inv m g M fn bl s):s.f.regs<=s.H.length:=by
 rw[I.mf.2,I.hs];exact QlS a I.hf I.hb _
theorem Qhs (h:Qdn n regs=0):∀ i,i<n->regs.getD i 0=(i:Int):=by
 unfold Qdn at h;split at h
 ·rename_i b
  intro i a
  have:=Xe.1 b i (List.mem_range.2 a)
  simpa using this
 ·cases h
theorem QfP (T:(modFault m).1=0) (I:Inv m g M fn bl s){t:MTo}(a:s.to t=0) (C:0<=t.block/\t.block<fn.blocks.length/\t.regs.length<=16):∃ M',IM.to fn { M with fuel:=M.fuel+1 } t=some M'/\QbN m M':=by
 obtain⟨b,q⟩:∃ b,fn.blocks[t.block.toNat]?=some b:=⟨_,Zg (by omega)⟩
 unfold JSt.to at a;rw[I.mf.2,q] at a
 simp only at a
 by_cases p:(t.regs.length:Int)=b.regs
 ·rw[Xs p] at a
  obtain⟨L,a⟩:=QD a
  obtain⟨O,P⟩:=QD a
  have o:=Qhs L;obtain⟨y,-,B⟩:=QcR O
  obtain⟨w,W,J,Q,e3,G,D,F⟩:=I.fr.hand C.2.2 B y P m fn
  have E:=(Zn T).2 fn (Zm I.hf);have U:=E.blocks b (Zm q);have r1:=E.regs;have X:=U.regs;have x:=I.mf.2;unfold IM.to;rw[q]
  simp only
  rw[J,Q]
  simp only
  rw[Xs ⟨by omega,G⟩]
  refine⟨_,Z,.inr ⟨g,fn,b,JSt.start m fn b,⟨I.hf,q,Xb _,Z,?_,I.st,?_⟩⟩⟩
  ·show FrT g M.h ⟨m,fn,QbV b.regs,b.params⟩ W w;rw[<-p];exact F
  ·refine I.stk.keep (fun _ _ _ h=>h) (fun k _ h=>h) (fun k f=>?_) (fun k f=>?_)
   ·obtain⟨j,V,S,H⟩:=f
    have n:(QbV b.regs).getD j false=true:=V;rw[<-p] at n
    have i:=(Qbz C.2.2 j).1 n;have K:fn.regs<=j:=S;have v:w.getD j 0=k:=H;have u:t.regs.getD j 0∈t.regs:=by rw[List.getD_eq_getElem?_getD,Zg i];exact List.getElem_mem i
    have f:=B _ u;unfold hHas at f;simp only[Bool.and_eq_true,decide_eq_true_eq] at f
    refine .inl ⟨(t.regs.getD j 0).toNat,f.2,?_,by rw[<-D j i];exact v⟩;rw[x]
    refine Int.not_lt.1 fun N=>?_;have R:=o (t.regs.getD j 0).toNat (by omega);have d:(t.regs.getD j 0).toNat<t.regs.length:=by omega
    have e:t.regs.getD (t.regs.getD j 0).toNat 0=t.regs.getD j 0:=by rw[R];omega
    have l:(t.regs.getD j 0).toNat≠j:=by omega
    generalize (t.regs.getD j 0).toNat=z at d e l;rw[List.getD_eq_getElem?_getD,List.getD_eq_getElem?_getD,Zg i,Zg d] at e
    have A:t.regs[z]=t.regs[j]:=e;rcases Nat.lt_trichotomy z j with c | c | c
    ·exact List.pairwise_iff_getElem.1 y z j d i c A
    ·exact l c
    ·exact List.pairwise_iff_getElem.1 y j z i d c A.symm
   ·show w.getD k 0=M.top.r.getD k 0;rw[D k (by omega),o k (by omega)]
    rfl
 ·rw[Xr p] at a;cases a
theorem QeI {v:List Q4}:∀ {a:List Int}{xs:List Q4},Q8 v a=some xs->(∀ y∈xs,y.kind=1)->∃ ns,Qco v a=some ns
 | [],xs,_,_=>⟨[],Z⟩
 | k::a,xs,h,hk=>by
   simp only[Q8] at h
   cases h1:QR v k with
   | none=>rw[h1] at h;cases h
   | some y =>
     rw[h1] at h
     simp only at h
     cases h2:Q8 v a with
     | none=>rw[h2] at h;cases h
     | some ys =>
       rw[h2] at h
       simp only at h
       cases h
       obtain⟨ns,c⟩:=QeI h2 (fun z b=>hk z (by simp[b]))
       have:QS v k=some y.n:=by unfold QS;rw[h1];simp only;rw[Xs (hk y (by simp))]
       exact⟨y.n::ns,by simp only[Qco,this,c]⟩
theorem QgF (n:Nat):(QhA n).length=n:=by simp[QhA]
theorem Qgg (h:j<n):(QhA n).getD j 0=(j:Int):=by simp[QhA,List.getD,h]
theorem Qkv (R:(Qq m).1=0) (I:Inv m g M fn bl s){e:ZA}(S:s.fin e=0) (h3:e.op=3):∃ M',IM.endd fn { M with fuel:=M.fuel+1 } e=some M'/\QbN m M':=by
 obtain⟨hM,Q⟩:=Qcd R
 have C:=I.mf.2;unfold JSt.fin at S;split at S
 ·rename_i hn;exact absurd S hn
 rw[Xr (by omega),Xr (by omega)] at S
 obtain⟨G,D⟩:=QD S
 rw[C] at G D
 have al:∀ k,¬ Own s M.top.r k:=fun k ⟨j,V,j2,j3⟩=>by
  split at D
  ·rename_i hq
   have A:(j:Int)∈Qan s.H:=(QcN s.H _).2 (by unfold hHas;simp only[Int.toNat_natCast,V,Bool.and_true];simp)
   have:=Xe.1 hq _ A
   simp only[decide_eq_true_eq] at this
   rw[C] at j2;omega
  ·cases D
 unfold JSt.args at G;by_cases o:e.args.length=fn.results.length
 ·rw[Xs o] at G
  obtain⟨xs,f1,f2,f3⟩:=Qf2 I.fr o G
  rw[QgF] at f3
  have N:=(Zn hM).2 fn (Zm I.hf);have B:=I.kept hM;rw[C,<-I.fr.rl] at B
  unfold IM.endd;rw[Xr (by omega),Xr (by omega)]
  show ∃ M',(match Q8 M.top.v e.args with | none=>none | some v=>_)=some M'/\QbN m M';rw[f1]
  simp only
  rw[Xs f2]
  cases er:M.rest with
  | nil =>
    have L:=I.stk;rw[er] at L
    have E:M.top.f=0:=L;obtain⟨b0,-,-,-,-,hz⟩:=Z2 hM I.hf
    obtain⟨-,-,hz⟩:=hz E
    obtain⟨ns,ah⟩:=QeI f1 (fun y X=>by
     obtain⟨j,q⟩:=List.mem_iff_getElem?.1 X
     obtain⟨t,ht⟩:∃ t,fn.results[j]?=some t:=⟨_,Zg (by rw[<-f2];exact(Zi q).1)⟩
     obtain⟨us,u,T,U,a3⟩:=f3 j y t q ht
     rw[a3.kind,Qgw U,show us.kind=t.kind from (Zp T).1]
     exact hz t (Zm ht))
    simp only
    rw[ah]
    exact⟨_,Z,.inl Z⟩
  | cons d rest =>
    have L:=I.stk;rw[er] at L
    obtain⟨J,a,x,z,d1,d2,d3,W,d5,d6,d7,F,d8,d9,ae⟩:=L
    simp only
    have O:=JSt.upto_mf (a.code.take (d.i - 1)) (JSt.start m J a);rw[<-d7] at O
    have hc:=(Q _ J _ a d1 d2).1 (d.i - 1) x W;rw[<-d7] at hc
    have E:=(QN hc).2.1;have A:=Qa6 (s:=z) d5;have P:z.m=m:=O.1;have ai:m[x.k.toNat]?=some fn:=by rw[d6,XT];exact I.hf
    rw[P,ai] at A
    simp only at A
    have ab:(x.regs.length:Int)=fn.regs:=Xq.1 fun ac=>by rw[A,Xr ac] at E;cases E
    rw[Xs ab] at A
    rw[A] at E
    obtain⟨ak,-⟩:=QD E
    have an:=(Zi W).1
    have w:∀ j,j<x.regs.length->0<=x.regs.getD j 0/\(x.regs.getD j 0).toNat<d.r.length:=fun j q=>by
     have aj:x.regs.getD j 0∈x.regs:=by rw[List.getD_eq_getElem?_getD,Zg q];exact List.getElem_mem q
     have K:=ZC ak _ aj;unfold hHas at K;simp only[Bool.and_eq_true,decide_eq_true_eq] at K
     refine⟨K.1,?_⟩
     rw[F.rl]
     rcases Nat.lt_or_ge (x.regs.getD j 0).toNat z.H.length with c | c
     ·exact c
     ·have h2:=K.2;rw[Qao _ c] at h2;cases h2
    have am:=N.regs;have hn:fn.regs.toNat=x.regs.length:=by omega
    refine⟨_,Z,.inr ⟨g,J,a,z.next x,⟨d1,d2,by show d.i<=_;omega,?_,?_,I.st,?_⟩⟩⟩
    ·show z.next x=(JSt.start m J a).upto (a.code.take d.i)
     have:d.i=d.i - 1+1:=by omega
     rw[this,XV,W]
     show z.next x=(JSt.start m J a).upto (a.code.take (d.i - 1)++[x])
     rw[JSt.upto_snoc,<-d7]
    ·show FrT g M.h (z.next x) (d.v++xs) d.r;refine F.push (ts:=fn.results.map (Qaj x.regs)) (by simp[f2]) (fun j y t' X p=>?_) (Qba (by omega) (by omega)) (by unfold JSt.next;simp only;rw[A]);rw[XS] at p
     cases et:fn.results[j]? with
     | none=>rw[et] at p;cases p
     | some t =>
       rw[et] at p
       have ad:Qaj x.regs t=t':=Xn p;obtain⟨us,u,T,U,a3⟩:=f3 j y t X et
       have af:=N.results.2 t (Zm et);obtain⟨aa,c1,-⟩:=Qgc (m:=x.regs.length) (too:=fun i=>x.regs.getD i 0) (b:=(d.r.length:Int)) (by omega) (fun i hi=>⟨(w i hi).1,by have:=(w i hi).1;have:=(w i hi).2;omega⟩) af
       have ag:t'=aa:=by rw[<-ad];unfold Qaj;rw[c1];rfl
       obtain⟨u1,g1,g2⟩:=Qet (l:=x.regs) (r:=d.r) (r':=M.top.r) (n:=x.regs.length) Ze (by omega) w F.pos (fun j q=>d8 j (by omega)) c1
       rw[hn] at T
       obtain⟨u2,g3,g4⟩:=Qet (l:=QhA x.regs.length) (r:=M.top.r) (r':=M.top.r) (n:=x.regs.length) (by rw[QgF];exact Ze) (by omega) (fun j q=>by rw[Qgg q];exact⟨by omega,by simp;omega⟩) I.fr.pos (fun j q=>by rw[Qgg q];rfl) T
       rw[g3] at U;cases U
       rw[g2] at g4;cases g4
       exact⟨_,by rw[ag];exact g1,a3⟩
    ·show Stk m g M.h (Own (z.next x) d.r) J d.f d.r rest;refine ae.keep (fun _ _ _ h=>h) (fun k _ h=>h) (fun k K=>?_) (fun k _=>rfl);obtain⟨j,V,j2,j3⟩:=K
     rw[Qba (by omega) (by omega)] at V
     exact .inl (.inr ⟨j,V,j2,j3⟩)
 ·rw[Xr o] at G;cases G
theorem QjQ (R:(Qq m).1=0) (I:Inv m g M fn bl s){e:ZA}(b:s.fin e=0):∃ M',IM.endd fn { M with fuel:=M.fuel+1 } e=some M'/\QbN m M':=by
 have p:=(Qcd R).1;have i:=b;have q:=I.mf.2;unfold JSt.fin at b;split at b
 ·rename_i k;exact absurd b k
 rename_i a
 have a:=Xq.1 a;rw[q] at a
 have w:(e.op=1\/e.op=2\/e.op=3)/\(e.op≠3->0<=e.yes.block/\e.yes.block<fn.blocks.length/\e.yes.regs.length<=16)/\(e.op=2->0<=e.no.block/\e.no.block<fn.blocks.length/\e.no.regs.length<=16):=by
  unfold ZA.form at a;split at a
  ·cases a
  split at a
  ·cases a
  split at a
  ·cases a
  split at a
  ·rename_i d;exact absurd a d
  rename_i j h v d
  have d:=Xq.1 d
  have f:∀ (t:MTo),t.form fn.blocks.length true=0->0<=t.block/\t.block<fn.blocks.length/\t.regs.length<=16:=fun t c=>by
   unfold MTo.form at c;rw[Xr (by decide)] at c
   split at c
   ·cases c
   split at c
   ·cases c
   omega
  exact⟨by omega,fun l=>f _ (by simpa[l] using d),fun o=>f _ (by simpa[o] using a)⟩
 obtain⟨x,r,k⟩:=w
 rcases x with j | h | v
 ·rw[Xs j] at b
  unfold IM.endd;rw[Xs j]
  exact QfP p I b (r (by omega))
 ·rw[Xr (by omega),Xs h] at b
  obtain⟨y,b⟩:=QD b
  obtain⟨z,B⟩:=QD b
  obtain⟨n,A⟩:=I.fr.num y
  unfold IM.endd;rw[Xr (by omega),Xs h]
  simp only[A]
  by_cases u:n=0
  ·rw[Xs u];exact QfP p I B (k h)
  ·rw[Xr u];exact QfP p I z (r (by omega))
 ·exact Qkv R I i v
theorem QkS (R:(Qq m).1=0) (I:Inv m g M fn bl s) (b:bl.code[M.top.i]?=some x):QbX m op M x:=by
 obtain⟨h,d⟩:=Qcd R
 have a:=(d _ fn _ bl I.hf I.hb).1 M.top.i x b;rw[<-I.hs] at a
 have j:1<=x.op/\x.op<=14:=by
  have f:=(QN a).1;unfold Qs.form at f;split at f
  ·cases f
  rename_i c
  unfold Q6 at c;by_cases e:1<=x.op/\x.op<=14
  ·exact e
  ·exfalso;apply c
   rw[Xr (by omega),Xr (by omega),Xr (by omega),Xr (by omega),Xr (by omega),Xr (by omega),Xr (by omega),Xr (by omega),Xr (by omega)]
   rfl
 have:x.op=1\/x.op=2\/x.op=3\/x.op=4\/x.op=5\/x.op=6\/x.op=7\/x.op=8\/x.op=9\/x.op=10\/x.op=11\/x.op=12\/x.op=13\/x.op=14:=by omega
 rcases this with e | e | e | e | e | e | e | e | e | e | e | e | e | e
 ·exact Qkl I b a e
 ·exact QjS I b a e
 ·exact Qkb I b a e (I.kept h)
 ·exact QiU I b a e
 ·exact QgO I b a e
 ·exact QjM I b a e
 ·exact QkT I b a e
 ·exact QgV I b a e
 ·exact Qh3 I b a e
 ·exact QgU I b a e
 ·exact Qj1 I b a e
 ·exact QlR I b a e
 ·exact Qkr I b a e
 ·exact Qh0 h I b a e
theorem QhR (R:(Qq m).1=0) (I:Inv m g M fn bl s) (most:Nat):∃ M',IM.step m op most M=some M'/\QbN m M':=by
 unfold IM.step;by_cases a:M.fuel=most
 ·rw[Xs a];exact⟨_,Z,IM.over_good _ _ _⟩
 ·rw[Xr a,I.hf]
  simp only
  rw[I.hb]
  simp only
  cases hx:bl.code[M.top.i]? with
  | some x=>exact QkS R I hx
  | none =>
    have c:=((Qcd R).2 _ fn _ bl I.hf I.hb).2;have d:M.top.i=bl.code.length:=by have:=I.hi;have:=List.getElem?_eq_none_iff.1 hx;omega
    have b:=I.hs;rw[d,List.take_length] at b
    rw[<-b] at c
    exact QjQ R I c
theorem Qhn (R:(Qq m).1=0) (inp:List Int) (pages:Nat):QbN m (IM.start inp pages):=by
 obtain⟨c,-⟩:=Qcd R
 obtain⟨f,d⟩:∃ f,m[0]?=some f:=⟨_,Zg (Zn c).1.1⟩
 obtain⟨b,o,q,e,-,r⟩:=Z2 c d
 obtain⟨p,l,-⟩:=r Z
 refine .inr ⟨_,f,b,JSt.start m f b,⟨d,o,Xb _,Z,?_,StT.new pages,Z⟩⟩;show FrT _ _ ⟨m,f,QbV b.regs,b.params⟩ [] [];have i:QbV b.regs=[]:=by rw[q,p];rfl
 have n:b.params=[]:=by rw[e];exact Xf.1 l
 rw[i,n]
 exact⟨Z,fun k a=>by simp at a,fun k a=>by simp[List.getD] at a,fun j k g=>by simp[List.getD] at g,Z,fun j t y h=>by simp at h⟩
def IM.steps (m:List (MFunc 6)) (op:Int->Int->Int->Option Int) (most:Nat):Nat->IM->Option IM
 | 0,M=>some M
 | n+1,M=>if M.done then some M else match M.step m op most with
   | none=>none
   | some M'=>M'.steps m op most n
end
section
variable {m:List (MFunc 6)}{op:Int->Int->Int->Option Int}{M M':IM}{R:RM}{x:Qs}{most:Nat}
theorem Qml (R:(Qq m).1=0):QmZ m:=fun k n q r o p=>by
 obtain⟨t,c⟩:=Qcd R
 obtain⟨i,d⟩:=c k n q r o p
 refine⟨fun x h=>?_,?_⟩
 ·obtain⟨j,g⟩:=List.mem_iff_getElem?.1 h
  have b:=(QN (i j x g)).1;unfold Qs.form at b;split at b
  ·cases b
  rename_i l
  split at b
  ·cases b
  split at b
  ·cases b
  split at b
  ·cases b
  rename_i s
  refine⟨?_,fun e=>by omega⟩
  refine Xq.1 fun f=>l ?_;unfold Q6;rw[Xr (by omega),Xr (by omega),Xr (by omega),Xr (by omega),Xr (by omega),Xr (by omega),Xr (by omega),Xr (by omega),Xr (by omega)]
  rfl
 ·unfold JSt.fin at d;split at d
  ·rename_i f;exact absurd d f
  ·rename_i a
   have a:=Xq.1 a;unfold ZA.form at a;split at a
   ·cases a
   ·omega
def QeX (M:IM):Prop:=M.out.length<=2000/\M.rest.length<=39
theorem QkP (D:QeX M){g:Q4 × Int × Qd}(h:IM.got M g=some M'):QeX M':=by
 rcases Qcz h with ⟨-,rfl⟩|⟨-,rfl⟩<;>exact D
theorem QkE (D:QeX M) (h:IM.mem M x=some M'):QeX M':=by
 unfold IM.mem at h;repeat' split at h
 all_goals first | exact QkP D h | (cases h;done) | (cases h;exact D)
theorem QjR (D:QeX M) (h:IM.ins m op M x=some M'):QeX M':=by
 unfold IM.ins at h;split at h
 ·cases h;exact D
 split at h
 ·repeat' split at h
  all_goals first | (cases h;done) | (cases h;exact D)
 split at h
 ·repeat' split at h
  all_goals first | (cases h;done) | (cases h;exact D)
 split at h
 ·repeat' split at h
  all_goals first | (cases h;done) | (cases h;exact D)
 split at h
 ·split at h
  ·cases h
  ·split at h
   ·cases h;exact D
   ·rename_i a
    cases h
    have:=D.1
    exact⟨by simp;omega,D.2⟩
 split at h
 ·unfold IM.call at h;repeat' split at h
  all_goals first | (cases h;done) | (cases h;exact D) | skip
  rename_i a
  cases h
  have:=D.2
  exact⟨D.1,by simp;omega⟩
 ·exact QkE D h
theorem Qik (D:QeX M){fn:MFunc 6}{t:MTo}(h:IM.to fn M t=some M'):QeX M':=by
 unfold IM.to at h;repeat' split at h
 all_goals first | (cases h;done) | (cases h;exact D)
theorem Qii (D:QeX M){fn:MFunc 6}{e:ZA}(h:IM.endd fn M e=some M'):QeX M':=by
 unfold IM.endd at h;split at h
 ·exact Qik D h
 split at h
 ·split at h
  ·cases h
  ·split at h<;>exact Qik D h
 ·split at h
  ·cases h
  ·split at h
   ·split at h
    ·rename_i b
     cases h
     have a:=D.2;rw[b] at a
     exact⟨D.1,by simp at a;simp only[IM.push];omega⟩
    ·split at h
     ·cases h
     ·cases h;exact D
   ·cases h
theorem Qjf (D:QeX M) (h:IM.step m op most M=some M'):QeX M':=by
 unfold IM.step at h;split at h
 ·cases h;exact D
 split at h
 ·cases h
 split at h
 ·cases h
 split at h
 ·exact QjR (M:={ M with fuel:=M.fuel+1,top:={ M.top with i:=M.top.i+1 } }) D h
 ·exact Qii (M:={ M with fuel:=M.fuel+1 }) D h
theorem Qg9 (inp:List Int) (pages:Nat):QeX (IM.start inp pages):=⟨by simp[IM.start],by simp[IM.start]⟩
theorem Qie (H:(Qq m).1=0) (a:M.done=false) (G:QbN m M) (D:QeX M) (S:Qex M R):∃ M' R',IM.step m op most M=some M'/\RM.step m op most R=some R'/\Qex M' R'/\QbN m M'/\QeX M':=by
 rcases G with h | ⟨g,f,i,s,I⟩
 ·rw[a] at h;cases h
 ·obtain⟨M',e,b⟩:=QhR (op:=op) H I most
  obtain⟨φ,π,S⟩:=S
  obtain⟨R',d,c⟩:=Qhj (Qml H) S a (by have:=D.2;omega) D.1 e
  exact⟨M',R',e,d,c,b,Qjf D e⟩
theorem QdG (H:(Qq m).1=0):∀ (n:Nat) (M:IM) (R:RM),QbN m M->QeX M->Qex M R->∃ M' R',IM.steps m op most n M=some M'/\RM.steps m op most n R=some R'/\Qex M' R'/\QbN m M'/\QeX M'
 | 0,M,R,G,D,S=>⟨M,R,Z,Z,S,G,D⟩
 | n+1,M,R,G,D,S=>by
   unfold IM.steps RM.steps;have b:R.done=M.done:=by obtain⟨φ,π,S⟩:=S;exact S.done
   by_cases a:M.done=true
   ·rw[Xs a,Xs (by rw[b];exact a)]
    exact⟨M,R,Z,Z,S,G,D⟩
   ·rw[Xr a,Xr (by rw[b];exact a)]
    obtain⟨M',R',c,e,g,d,f⟩:=Qie (op:=op) (most:=most) H (by simpa using a) G D S
    rw[c,e]
    exact QdG H n M' R' d f g
theorem Qj8 (H:(Qq m).1=0) (inp:List Int)(a:pages<=64) (n:Nat):∃ M' R',IM.steps m op most n (IM.start inp pages)=some M'/\RM.steps m op most n (RM.start inp pages)=some R'/\Qex M' R' :=
 let ⟨M',R',h1,h2,h3,_,_⟩:=QdG (op:=op) (most:=most) H n _ _ (Qhn H inp pages) (Qg9 inp pages) (Qhe inp a)
 ⟨M',R',h1,h2,h3⟩
end
theorem Xm:type_of% @Calls.mono:=@Calls.mono
def QeE (o:Oper):List Tmp:=o.op.operands.toList.filterMap fun | .tmp t=>some t | _=>none
def Qt (l:List Oper):List Tmp:=l.filterMap (·.dst)
def nodupB:List Tmp->Bool
 | []=>true
 | t::r=>!r.contains t&&nodupB r
def onB (gs:List (Nat × Option Bool)) (o:Oper) (b:Bool):Bool :=
 match o.guard with
 | none=>b
 | some (g,want)=>match gs.lookup g with
   | some c=>b==(c==some want)
   | none=>false
def Qld (gs:List (Nat × Option Bool)):List Oper->List Bool->Bool
 | [],[]=>true
 | o::l,b::bs=>onB gs o b&&Qld gs l bs
 | _,_=>false
def QmI (ops:Array Oper) (ds outs:List Tmp) (o:Oper):Bool :=
 (o.looksAt ops).all fun t=>(outs.contains t&&!ds.contains t)||o.after.any fun e=>Region.binds .any e&&((ops[e.on]?).bind (·.dst)==some t)
def Qcu (i:Nat):List Oper->Bool
 | []=>true
 | o::l=>(o.after.all fun e=>!Region.binds .any e||decide (e.on<i))&&Qcu (i+1) l
def QaQ (l:List Oper) (n:Nat) (outs:List Tmp) (gs:List (Nat × Option Bool)) (bs:List Bool):Bool :=
 (gs.all fun g=>((l.toArray[g.1]?).bind (·.dst)).isSome)&&nodupB (Qt l)&&((Qt l).all fun t=>decide (t<n))&&(l.all (QmI l.toArray (Qt l) outs))&&Qld gs l bs&&Qcu 0 l
section
variable {P:Program}(E:Tmp->Value->World->Prop) (W:World->Prop) (R:World->World->Prop)
def EO:Option Tmp->Value->World->Prop
 | some t=>E t
 | none=>fun _ _=>True
def Qee (a:Act) (w:World):List Tmp->Prop
 | []=>True
 | t::r=>E t (a.tmps.getD t undef) w/\Qee a w r
def Qlk (P:Program) (o:Oper):Prop :=
 ∀ a w,W w->Qee E a w (QeE o)->∀ K:Act->World->Prop,(∀ v w',R w w'->W w'->EO E o.dst v w'->K (a.put o.dst v) w')->o.wp P a w K (fun _ _ _=>False)
def Qic (o:Oper):Prop:=∀ w,W w->EO E o.dst undef w
def Qek (P:Program):List Oper->List Bool->Prop
 | o::l,true::bs=>Qlk E W R P o/\Qek P l bs
 | o::l,false::bs=>Qic E W o/\Qek P l bs
 | _,_=>True
def QaZ (ops:Array Oper):List (Nat × Option Bool)->Prop
 | []=>True
 | (g,c)::r=>(∀ t,(ops[g]?).bind (·.dst)=some t->∀ v w,W w->E t v w->match c with | some b=>v=.bool b | none=>v=undef)/\QaZ ops r
def Qak (a:Act) (w:World):List Tmp->Prop
 | []=>True
 | t::r=>E t (a.tmps.getD t undef) w/\Qak a w r
def QM (a:Act) (vs:Tmp->Value):List Tmp->Act
 | []=>a
 | t::r=>QM (a.put (some t) (vs t)) vs r
end
theorem wpq {P:Program}{o:Oper}{a:Act}{K d:Act->World->Prop}{Q:Exit->Act->World->Prop}(h:∀ a w,K a w->d a w)
 (c:o.wp P a w K (fun _ _ _=>False)):o.wp P a w d Q:=by
 unfold Oper.wp at *;generalize (execOp a.eval o).run P w=r at *
 cases r with
 | ok n w' =>
   cases n<;>simp only[Oper.upon] at c |- <;>
    first
     | exact h _ _ c
     | exact Xm c (fun e f b=>by cases e<;>first | exact h _ _ b | exact b.elim | (obtain⟨_,_,b⟩:=b;exact b.elim))
     | exact Rows.mono c (fun _ _ b=>h _ _ b)
 | halt x w'=>cases x<;>simp only[Oper.upon] at c |-
theorem Qbr (b:Tmp->Value):∀ (ds:List Tmp) (a:Act),(QM a b ds).defers=a.defers
 | [],_=>rfl
 | _::r,a=>by rw[QM,Qbr b r];rfl
theorem Qc0 (b:Tmp->Value):∀ (ds:List Tmp) (a:Act),(QM a b ds).tmps.size=a.tmps.size
 | [],_=>rfl
 | _::r,a=>by rw[QM,Qc0 b r];simp[Act.put]
theorem QfV (f:Tmp->Value):∀ (ds:List Tmp) (a:Act) (t:Nat),t<a.tmps.size->(QM a f ds).tmps[t]?=if t∈ds then some (f t) else a.tmps[t]?
 | [],_,_,_=>by simp[QM]
 | d::r,a,t,ht=>by
   rw[QM,QfV f r _ t (by simpa[Act.put] using ht)]
   by_cases c:t∈r
   ·simp[c]
   ·by_cases b:d=t
    ·subst b;simp[c,Act.put,ht]
    ·have:t≠d:=fun e=>b e.symm
     simp[c,this,Act.put,b]
theorem nodup_apart:∀ (l:List Oper) (i j:Nat) (oi oj:Oper) (t:Tmp),nodupB (Qt l)=true->l[i]?=some oi->l[j]?=some oj->oi.dst=some t->oj.dst=some t->i=j
 | [],_,_,_,_,_,_,hi,_,_,_=>by simp at hi
 | o::l,i,j,oi,oj,t,h,hi,hj,di,dj=>by
   have f:∀ {k:Nat} {c:Oper},l[k]?=some c->c.dst=some t->t∈Qt l:=fun {k c} g a=>List.mem_filterMap.2 ⟨c,Zm g,a⟩
   have m:nodupB (Qt l)=true:=by
    unfold Qt at h |-
    cases a:o.dst with
    | none=>simpa[List.filterMap_cons,a] using h
    | some d=>simp[a,nodupB] at h;exact h.2
   have b:o.dst=some t->t ∉ Qt l:=fun a=>by
    unfold Qt at h |-;simp only[List.filterMap_cons,a,nodupB,Bool.and_eq_true,Bool.not_eq_true'] at h
    intro e
    have:=h.1
    simp at this
    simp at e
    obtain⟨x,b,n⟩:=e
    exact this x b n
   cases i with
   | zero =>
     cases j with
     | zero=>rfl
     | succ j=>simp at hi hj;subst hi;exact absurd (f hj dj) (b di)
   | succ i =>
     cases j with
     | zero=>simp at hi hj;subst hj;exact absurd (f hi di) (b dj)
     | succ j=>simp at hi hj;rw[nodup_apart l i j oi oj t m hi hj di dj]
section
variable {P:Program}{E:Tmp->Value->World->Prop}{W:World->Prop}{R:World->World->Prop}
theorem QdZ {a:Act}{w:World}:∀ (l:List Tmp),(∀ t∈l,E t (a.tmps.getD t undef) w)->Qee E a w l
 | [],_=>trivial
 | t::r,h=>⟨h t (by simp),QdZ r fun x b=>h x (by simp[b])⟩
theorem Qa3 {a:Act}{w:World}:∀ (l:List Tmp),Qak E a w l->∀ t∈l,E t (a.tmps.getD t undef) w
 | [],_,_,h=>by simp at h
 | x::r,h,t,b=>by
   rcases List.mem_cons.1 b with rfl | b
   ·exact h.1
   ·exact Qa3 r h.2 t b
theorem Qey {a:Array Oper}:∀ (gs:List (Nat × Option Bool)),QaZ E W a gs->∀ g c,gs.lookup g=some c->∀ t,(a[g]?).bind (·.dst)=some t->∀ v w,W w->E t v w->match c with | some b=>v=.bool b | none=>v=undef
 | [],_,_,_,h=>by simp at h
 | (g',c')::r,h,g,c,hl=>by
   by_cases e:g=g'
   ·subst e;simp at hl;subst hl;exact h.1
   ·have d:(g==g')=false:=by simpa using e
    simp[List.lookup_cons,d] at hl;exact Qey r h.2 g c hl
theorem mem_of_lookup:∀ (gs:List (Nat × Option Bool)) (g:Nat) (c:Option Bool),gs.lookup g=some c->(g,c)∈gs
 | [],_,_,h=>by simp at h
 | (g',c')::r,g,c,hl=>by
   by_cases e:g=g'
   ·subst e;simp at hl;subst hl;simp
   ·have a:(g==g')=false:=by simpa using e
    simp[List.lookup_cons,a] at hl;exact List.mem_cons_of_mem _ (mem_of_lookup r g c hl)
theorem filter_set:∀ (l:List Bool) (i:Nat) (h:i<l.length),l[i]=false->((l.set i true).filter (·==false)).length+1=(l.filter (·==false)).length
 | [],_,h,_=>by simp at h
 | x::l,0,_,h=>by simp at h;subst h;simp
 | x::l,i+1,hi,h=>by
   simp at h hi
   have:=filter_set l i hi h
   cases x<;>simp at this |-<;>omega
theorem Qju (gs:List (Nat × Option Bool)):∀ (l:List Oper) (bs:List Bool),Qld gs l bs=true->Qek E W R P l bs->∀ (i:Nat) (o:Oper),l[i]?=some o->(onB gs o true=true/\Qlk E W R P o)\/(onB gs o false=true/\Qic E W o)
 | [],_,_,_,_,_,h=>by simp at h
 | _::_,[],h,_,_,_,_=>by simp[Qld] at h
 | x::l,b::bs,h,ha,i,o,ho=>by
   simp only[Qld,Bool.and_eq_true] at h
   cases i with
   | zero =>
     simp at ho;subst ho
     cases b with
     | true=>exact .inl ⟨h.1,ha.1⟩
     | false=>exact .inr ⟨h.1,ha.1⟩
   | succ i =>
     simp at ho
     cases b with
     | true=>exact Qju gs l bs h.2 ha.2 i o ho
     | false=>exact Qju gs l bs h.2 ha.2 i o ho
theorem back_at:∀ (l:List Oper) (k i:Nat) (o:Oper),Qcu k l=true->l[i]?=some o->∀ e∈o.after,Region.binds .any e=true->e.on<k+i
 | [],_,_,_,_,h=>by simp at h
 | x::l,k,i,o,h,ho=>by
   simp only[Qcu,Bool.and_eq_true] at h
   cases i with
   | zero =>
     simp at ho;subst ho
     intro e b a
     have:=Array.all_eq_true_iff_forall_mem.1 h.1 e b
     simpa[a] using this
   | succ i =>
     simp at ho
     intro e b a
     have:=back_at l (k+1) i o h.2 ho e b a
     omega
structure Qna (E:Tmp->Value->World->Prop) (W:World->Prop) (l:List Oper) (outs:List Tmp) (a0:Act) (listed:Array Bool) (a:Act) (w:World):Prop where
 world:W w
 defers:a.defers=a0.defers
 size:a.tmps.size=a0.tmps.size
 outer:∀ t,t ∉ Qt l->a.tmps[t]?=a0.tmps[t]?
 outs:∀ t∈outs,t ∉ Qt l->E t (a.tmps.getD t undef) w
 known:∀ j o t,l[j]?=some o->o.dst=some t->listed.getD j false=true->E t (a.tmps.getD t undef) w
theorem Qdy {l:List Oper}{outs:List Tmp}{gs:List (Nat × Option Bool)}{a0:Act}{Q:Exit->Act->World->Prop}
 (hB:QaQ l a0.tmps.size outs gs bs=true) (hR:∀ t v w w',R w w'->E t v w->E t v w') (hG:QaZ E W l.toArray gs) (hA:Qek E W R P l bs)
 (ab:∀ (vs:Tmp->Value) w',W w'->(∀ t,(Qt l).contains t=true->E t (vs t) w')->Q .normal (QM a0 vs (Qt l)) w') :
 ∀ (fuel:Nat) (listed:Array Bool) (a:Act) (w:World),listed.size=l.length->(listed.toList.filter (·==false)).length<=fuel->Qna E W l outs a0 listed a w ->
  wpAny P .any l.toArray Q fuel listed a w:=by
 simp only[QaQ,Bool.and_eq_true] at hB
 obtain⟨⟨⟨⟨⟨al,aj⟩,S⟩,ar⟩,ai⟩,av⟩:=hB
 have aa:∀ (listed:Array Bool) (a:Act) (w:World),listed.size=l.length->Region.ready .any l.toArray listed=[]->Qna E W l outs a0 listed a w->Q .normal a w:=by
  intro listed a w V H f
  have ae:∀ j,j<l.length->listed.getD j false=true:=by
   intro j
   induction j using Nat.strongRecOn with
   | _ j ih =>
     intro z
     cases r:listed.getD j false with
     | true=>rfl
     | false =>
       exfalso
       have:j∈Region.ready .any l.toArray listed:=by
        unfold Region.ready;refine List.mem_filter.2 ⟨by simpa using z,?_⟩
        have T:listed.getD j true=false:=by
         have aw:j<listed.size:=by omega
         simp[Array.getD,aw] at r |-;exact r
        have U:l.toArray[j]?=some l[j]:=by simp[z]
        rw[T,U]
        simp only[Bool.not_false,Bool.true_and,Option.map_some,Option.getD_some]
        rw[Array.all_eq_true_iff_forall_mem]
        intro e he
        cases hbd:Region.binds .any e with
        | false=>rfl
        | true =>
          have:=back_at l 0 j l[j] av (by simp[z]) e he hbd
          simp only[Bool.not_true,Bool.false_or]
          exact ih e.on (by omega) (by omega)
       rw[H] at this
       cases this
  have ah:∀ t∈Qt l,E t (a.tmps.getD t undef) w/\t<a0.tmps.size:=by
   intro t n;obtain⟨o,ho,s⟩:=List.mem_filterMap.1 n
   obtain⟨j,z⟩:=List.getElem?_of_mem ho
   have B:j<l.length:=by
    rcases Nat.lt_or_ge j l.length with h | h
    ·exact h
    ·rw[Xk h] at z;cases z
   exact⟨f.known j o t z s (ae j B),by simpa using Xe.1 S t n⟩
  have he:a=QM a0 (fun t=>a.tmps.getD t undef) (Qt l):=by
   have T:a.tmps=(QM a0 (fun t=>a.tmps.getD t undef) (Qt l)).tmps:=by
    refine Array.ext (by rw[Qc0,f.size]) fun t L M=>?_;have h3:t<a0.tmps.size:=by rw[<-f.size];exact L
    have:=QfV (fun t=>a.tmps.getD t undef) (Qt l) a0 t h3
    rw[Xj M] at this
    by_cases hm:t∈Qt l
    ·rw[Xs hm] at this
     simp only[Option.some.injEq] at this
     rw[this];simp[Array.getD,L]
    ·rw[Xr hm,<-f.outer t hm,Xj L] at this
     exact(Xn this).symm
   have U:a.defers=(QM a0 (fun t=>a.tmps.getD t undef) (Qt l)).defers:=by rw[Qbr,f.defers]
   cases a with
   | mk t d =>
     simp only at T U
     generalize hp:QM a0 (fun x=>t.getD x undef) (Qt l)=p at T U |-
     cases p;simp only at T U;rw[T,U]
  rw[he]
  exact ab _ _ f.world fun t n=>(ah t (by simpa using n)).1
 intro fuel
 induction fuel with
 | zero =>
   intro listed a w V hf f
   have H:Region.ready .any l.toArray listed=[]:=by
    rw[List.eq_nil_iff_forall_not_mem]
    intro i hi;obtain⟨L,M⟩:=List.mem_filter.1 hi
    have B:i<l.length:=by simpa using L
    simp only[Bool.and_eq_true,Bool.not_eq_true'] at M
    have:listed[i]'(by omega)=false:=by
     have:=M.1;simp[Array.getD,show i<listed.size by omega] at this;exact this
    have hm:false∈listed.toList.filter (·==false):=List.mem_filter.2 ⟨by rw[<-this];simp,by simp⟩
    have:=List.length_pos_of_mem hm
    omega
   exact⟨H,aa listed a w V H f⟩
 | succ fuel ih =>
   intro listed a w V hf f;refine⟨fun H=>aa listed a w V H f,fun i hi=>?_⟩
   obtain⟨L,M⟩:=List.mem_filter.1 hi
   have B:i<l.length:=by simpa using L
   simp only[Bool.and_eq_true,Bool.not_eq_true'] at M
   obtain⟨af,m⟩:=M
   have ac:i<listed.size:=by omega
   have X:listed[i]=false:=by simp[Array.getD,ac] at af;exact af
   have ho:l.toArray[i]?=some l[i]:=by simp[B]
   have q:l[i]?=some l[i]:=by simp[B]
   generalize ay:l[i]=o at ho q;rw[ho] at m
   simp only[Option.map_some,Option.getD_some] at m
   rw[Array.all_eq_true_iff_forall_mem] at m
   have u:∀ t∈o.looksAt l.toArray,E t (a.tmps.getD t undef) w:=by
    intro t n
    have:=Xe.1 (Xe.1 ar o (Zm q)) t n
    rw[Bool.or_eq_true] at this
    rcases this with h | h
    ·simp only[Bool.and_eq_true,Bool.not_eq_true'] at h
     exact f.outs t (by simpa using h.1) (by simpa using h.2)
    ·obtain⟨k,hk,h⟩:=Array.any_eq_true.1 h
     simp only[Bool.and_eq_true,beq_iff_eq] at h
     obtain⟨r,s⟩:=h
     have I:=m _ (Array.getElem_mem hk);rw[r] at I
     simp only[Bool.not_true,Bool.false_or] at I
     generalize o.after[k]=e at *;obtain⟨oj,ap,aq⟩:=Option.bind_eq_some_iff.1 s
     exact f.known e.on oj t (by simpa using ap) aq I
   have ak:Qee E a w (QeE o):=QdZ _ fun t n=>u t (by
    unfold Oper.looksAt;exact List.mem_append_left _ n)
   have hw:∀ b,onB gs o b=true->Region.wanted o (yielded l.toArray a.tmps)=b:=by
    intro b r;unfold onB at r;unfold Region.wanted
    cases hg:o.guard with
    | none=>rw[hg] at r;simp only at r |-;exact r.symm
    | some gw =>
      obtain⟨g,ax⟩:=gw
      rw[hg] at r
      simp only at r |-
      cases I:gs.lookup g with
      | none=>rw[I] at r;cases r
      | some c =>
        rw[I] at r
        simp only[beq_iff_eq] at r
        have hy:yielded l.toArray a.tmps g=c:=by
         unfold yielded;have an:(g,c)∈gs:=mem_of_lookup gs g c I;have D:=Xe.1 al _ an
         cases s:(l.toArray[g]?).bind (·.dst) with
         | none=>rw[s] at D;cases D
         | some t =>
           have hE:=u t (by unfold Oper.looksAt;rw[hg];simp only[s];simp);have F:=Qey gs hG g c I t s _ _ f.world hE;obtain⟨og,au,ao⟩:=Option.bind_eq_some_iff.1 s
           have N:t<a.tmps.size:=by
            rw[f.size]
            have:=Xe.1 S t (List.mem_filterMap.2 ⟨og,Zm (by simpa using au),ao⟩)
            simpa using this
           have n:a.tmps[t]?=some (a.tmps.getD t undef):=by simp[Array.getD,N]
           simp only[Option.bind_some,n]
           cases c with
           | none=>simp only at F;rw[F];rfl
           | some b=>simp only at F;rw[F]
        rw[hy,r]
   have G:((listed.setIfInBounds i true).toList.filter (·==false)).length<=fuel:=by
    have h3:=filter_set listed.toList i (by simpa using ac) (by simpa using X);rw[Array.toList_setIfInBounds]
    omega
   have J:∀ v w',W w'->(∀ t v,E t v w->E t v w')->EO E o.dst v w'->Qna E W l outs a0 (listed.setIfInBounds i true) (a.put o.dst v) w':=by
    intro v w' O y F
    have C:∀ t,o.dst≠some t->(a.put o.dst v).tmps[t]?=a.tmps[t]?:=by
     intro t n
     cases s:o.dst with
     | none=>rfl
     | some d =>
       have:d≠t:=fun e=>n (by rw[s,e])
       simp[Act.put,this]
    have A:∀ (b c:Array Value) (t:Nat),b[t]?=c[t]?->b.getD t undef=c.getD t undef:=by
     intro b c t h;rw[Za,Za,h]
    refine⟨O,?_,?_,?_,?_,?_⟩
    ·rw[<-f.defers];cases o.dst<;>rfl
    ·rw[<-f.size];cases o.dst<;>simp[Act.put]
    ·intro t n;rw[C t (fun e=>n (List.mem_filterMap.2 ⟨o,Zm q,e⟩)),f.outer t n]
    ·intro t n hn;rw[A _ _ t (C t (fun e=>hn (List.mem_filterMap.2 ⟨o,Zm q,e⟩)))]
     exact y _ _ (f.outs t n hn)
    ·intro j oj t z s ag;by_cases K:j=i
     ·subst K;rw[q] at z
      obtain rfl:=Xn z
      have N:t<a.tmps.size:=by
       rw[f.size]
       have:=Xe.1 S t (List.mem_filterMap.2 ⟨o,Zm q,s⟩)
       simpa using this
      rw[s] at F |-
      have:(a.put (some t) v).tmps.getD t undef=v:=by simp[Act.put,Array.getD,N]
      rw[this];exact F
     ·have am:o.dst≠some t:=fun e=>K (nodup_apart l j i oj o t aj z q s e);rw[A _ _ t (C t am)]
      refine y _ _ (f.known j oj t z s ?_);have ad:i≠j:=fun e=>K e.symm;rw[Za,Array.getElem?_setIfInBounds_ne ad] at ag
      rw[Za];exact ag
   unfold wpOp;rw[ho]
   simp only
   rcases Qju gs l bs ai hA i o q with ⟨h,y⟩|⟨h,y⟩
   ·rw[hw true h,Xs Z]
    refine .inl (wpq (fun a' w' hh=>hh) (y a w f.world ak _ fun v w' H O F=>?_));exact ih _ _ _ (by simpa using V) G (J v w' O (fun t v he=>hR t v w w' H he) F)
   ·rw[hw false h]
    simp only[Bool.false_eq_true,if_false]
    exact ih _ _ _ (by simpa using V) G (J undef w f.world (fun _ _ h=>h) (y w f.world))
theorem Qat {l:List Oper}{outs:List Tmp}{gs:List (Nat × Option Bool)}(h:n<=m) (a:QaQ l n outs gs bs=true):QaQ l m outs gs bs=true:=by
 simp only[QaQ,Bool.and_eq_true] at a |-
 obtain⟨⟨⟨⟨⟨c,f⟩,b⟩,i⟩,g⟩,j⟩:=a
 refine⟨⟨⟨⟨⟨c,f⟩,?_⟩,i⟩,g⟩,j⟩
 rw[Xe] at b |-
 intro t e;have k:t<n:=by simpa using b t e
 have d:t<m:=Zl k h;simpa using d
theorem Qdr {l:List Oper}{outs:List Tmp}{gs:List (Nat × Option Bool)}{a:Act}{Q:Exit->Act->World->Prop}
 (E:Tmp->Value->World->Prop) (W:World->Prop) (R:World->World->Prop)
 (d:P.follows .mixedOrders=true)  (e:a.tmps.size=m) (c:n<=m) (f:QaQ l n outs gs bs=true)
 (h:∀ t v w w',R w w'->E t v w->E t v w') (k:QaZ E W l.toArray gs) (i:W w.drew) (p:Qak E a w.drew outs)
 (r:Qek E W R P l bs)
 (b:∀ (vs:Tmp->Value) w',W w'->(∀ t,(Qt l).contains t=true->E t (vs t) w')->Q .normal (QM a vs (Qt l)) w') :
 (Code.region id l.toArray true).wp P Q a w:=by
 refine wp_region_any d ?_;refine Qdy (Qat (e ▸ c) f) h k r b _ _ _ _ (by simp) ?_ ⟨i,Z,Z,fun _ _=>rfl,fun t g _=>Qa3 outs p t g,?_⟩
 ·simp only[Array.toList_replicate]
  exact Zt (List.length_filter_le _ _) (by simp)
 ·intro j o t s u q;simp[Array.getD] at q
end
section
variable {P:Program}{Q:Exit->Act->World->Prop}
theorem QlZ {o:Oper}{a:Act}{K N:Act->World->Prop}(h:o.wp P a w K (Exit.then N Q)):o.wp P a w K Q:=by
 unfold Oper.wp at *;generalize (execOp a.eval o).run P w=r at *
 cases r with
 | ok n w'=>cases n<;>exact h
 | halt x w'=>cases x<;>exact h
def Qbv (n:Nat) (l:List Oper):Bool:=l.all fun o=>match o.guard with | some (g,_)=>decide (g<n) | none=>true
theorem ZE {a:Array Bool}:i∈Region.ready .any ops a↔i<ops.size/\a.getD i true=false/\∃ o,ops[i]?=some o/\∀ e∈o.after,Region.binds .any e=true->a.getD e.on false=true:=by
 unfold Region.ready;rw[List.mem_filter]
 simp only[List.mem_range,Bool.and_eq_true,Bool.not_eq_true']
 refine and_congr_right fun b=>and_congr_right fun c=>?_;rw[Xj b]
 simp only[Option.map_some,Option.getD_some,Option.some.injEq,exists_eq_left']
 rw[Array.all_eq_true_iff_forall_mem]
 refine forall_congr' fun e=>forall_congr' fun d=>?_
 cases Region.binds .any e<;>simp
end
section
variable {P:Program}{Q:Exit->Act->World->Prop}
def QdN (all:List Oper):Nat->Oper->Nat->Bool
 | 0,_,_=>false
 | f+1,o,j=>o.after.any fun e=>Region.binds .any e&&(e.on==j||(match all[e.on]? with | some o'=>QdN all f o' j | none=>false))
def QaM (all:List Oper) (k:Nat):List Oper->Bool
 | []=>true
 | o::l=>((List.range k).all fun j=>QdN all 24 o j)&&QaM all (k+1) l
theorem QcY {all:List Oper}{j:Nat}{S:Nat->Prop}(b:∀ (q:Nat) (o':Oper),all[q]?=some o'->S q->∀ e∈o'.after,Region.binds .any e=true->S e.on):∀ (f:Nat) (o:Oper),QdN all f o j=true->(∀ e∈o.after,Region.binds .any e=true->S e.on)->S j
 | 0,_,h,_=>by simp[QdN] at h
 | f+1,o,h,hS=>by
   simp only[QdN] at h
   obtain⟨q,i,c⟩:=Array.any_eq_true.1 h
   rw[Bool.and_eq_true,Bool.or_eq_true] at c
   have d:=Array.getElem_mem i;generalize o.after[q]=g at c d;rcases c.2 with a | a
   ·have:=hS g d c.1
    rwa [beq_iff_eq.1 a] at this
   ·cases ho':all[g.on]? with
    | none=>rw[ho'] at a;simp at a
    | some o' =>
      rw[ho'] at a
      exact QcY b f o' a (b _ o' ho' (hS g d c.1))
theorem Qei (all:List Oper):∀ (l:List Oper) (k i:Nat) (o:Oper),QaM all k l=true->l[i]?=some o->∀ j,j<k+i->∀ S:Nat->Prop,
 (∀ (q:Nat) (o':Oper),all[q]?=some o'->S q->∀ e∈o'.after,Region.binds .any e=true->S e.on)->(∀ e∈o.after,Region.binds .any e=true->S e.on)->S j
 | [],_,_,_,_,h=>by simp at h
 | x::l,k,0,o,h,ho=>by
   simp at ho;subst ho
   simp only[QaM,Bool.and_eq_true] at h
   intro j b S a c;exact QcY a 24 x (Xe.1 h.1 j (by simpa using b)) c
 | x::l,k,i+1,o,h,ho=>by
   simp only[QaM,Bool.and_eq_true] at h
   simp at ho
   intro j b;exact Qei all l (k+1) i o h.2 ho j (by omega)
theorem QgY {l:List Oper}(J:Qcu 0 l=true){k0:Nat}(L:QaM l k0 (l.drop k0)=true):∀ (m k fuel:Nat) (listed:Array Bool) (a:Act) (w:World),k+m=l.length->k0<=k->m<=fuel->listed.size=l.length ->
 (∀ j,j<l.length->listed.getD j false=decide (j<k))->wpList P l.toArray Q (l.drop k) a w->wpAny P .any l.toArray Q fuel listed a w:=by
 intro m
 induction m with
 | zero =>
   intro k fuel listed a w U _ _ K c h
   have v:Region.ready .any l.toArray listed=[]:=by
    rw[List.eq_nil_iff_forall_not_mem]
    intro i s;obtain⟨A,r,_⟩:=ZE.1 s
    have n:i<l.length:=by simpa using A
    have:=c i n
    have N:decide (i<k)=true:=by simp;omega
    rw[N] at this
    have p:i<listed.size:=by omega
    simp[Array.getD,p] at this r
    rw[this] at r;cases r
   have u:Q .normal a w:=by
    rw[List.drop_of_length_le (by omega)] at h
    exact h
   cases fuel with
   | zero=>exact⟨v,u⟩
   | succ fuel=>exact⟨fun _=>u,fun i s=>by rw[v] at s;cases s⟩
 | succ m ih =>
   intro k fuel listed a w U R hf K c h;have b:k<l.length:=by omega
   obtain⟨fuel,rfl⟩:∃ f,fuel=f+1:=⟨fuel - 1,by omega⟩
   have t:k<listed.size:=by omega
   have D:k∈Region.ready .any l.toArray listed:=by
    refine ZE.2 ⟨by simpa using b,?_,l[k],by simp[b],fun e G g=>?_⟩
    ·have:=c k b
     simp[Array.getD,t] at this |-;exact this
    ·have:=back_at l 0 k l[k] J (by simp[b]) e G g
     rw[c _ (by omega)];simp;omega
   refine⟨fun v=>absurd (v ▸ D) (by simp),fun i s=>?_⟩
   have F:i=k:=by
    obtain⟨A,r,o,y,S⟩:=ZE.1 s
    have n:i<l.length:=by simpa using A
    have H:listed.getD i false=false:=by
     have p:i<listed.size:=by omega
     simp[Array.getD,p] at r |-;exact r
    have E:k<=i:=by
     have:=c i n
     rw[H] at this
     have:¬ i<k:=by simpa using this.symm
     omega
    rcases Nat.eq_or_lt_of_le E with e | M
    ·exact e.symm
    ·exfalso
     have:=Qei l (l.drop k0) k0 (i - k0) o L (by rw[List.getElem?_drop,show k0+(i - k0)=i by omega];simpa using y) k (by omega) (fun j=>listed.getD j false=true)
      (fun q W u O e G g=>by
       have B:q<l.length:=(Zi u).1;have X:=back_at l 0 q W J u e G g;have I:listed.getD q false=true:=O;rw[c q B] at I
       have h6:q<k:=by simpa using I
       show listed.getD e.on false=true;rw[c e.on (by omega)];simp;omega) S
     rw[c k b] at this
     simp at this
   subst F;rw[List.drop_eq_getElem_cons b] at h
   have y:l.toArray[i]?=some l[i]:=by simp[b]
   have d:∀ a w,wpList P l.toArray Q (l.drop (i+1)) a w->wpAny P .any l.toArray Q fuel (listed.setIfInBounds i true) a w:=fun a w T =>
    ih (i+1) fuel _ a w (by omega) (by omega) (by omega) (by simpa using K) (fun j V=>by
     by_cases e:j=i
     ·subst e;simp[Array.getD,t]
     ·have z:i≠j:=fun x=>e x.symm;rw[Za,Array.getElem?_setIfInBounds_ne z,<-Za,c j V]
      simp;omega) T
   unfold wpOp;rw[y]
   simp only
   unfold wpList at h;split
   ·rename_i C
    rw[Xs C] at h
    exact h.imp (Oper.wp_mono d) id
   ·rename_i C
    rw[Xr C] at h
    exact d _ _ h
theorem Qbo {l l2:List Oper}(hb:Qcu 0 (l++l2)=true) (hg:Qbv l.length l=true) (ht:QaM (l++l2) l.length l2=true):∀ (fuel:Nat) (listed:Array Bool) (a:Act) (w:World),listed.size=l.length→(∀ (q:Nat) (o:Oper),l[q]?=some o→listed.getD q false=true→∀ e∈o.after,Region.binds .any e=true→listed.getD e.on false=true) →
 wpAny P .any l.toArray (Exit.then (fun a w=>wpList P (l++l2).toArray Q l2 a w) Q) fuel listed a w →
 wpAny P .any (l++l2).toArray Q (fuel+l2.length) (listed++Array.replicate l2.length false) a w:=by
 have z:∀ (i:Nat) (o:Oper),l[i]?=some o→∀ e∈o.after,Region.binds .any e=true→e.on<i:=fun i o p e n c=>by
  have r:i<l.length:=(Zi p).1
  have:=back_at (l++l2) 0 i o hb (by rw[XP r];exact p) e n c
  omega
 have f:∀ (listed:Array Bool) (j:Nat) (d:Bool),listed.size=l.length→j<l.length→(listed++Array.replicate l2.length false).getD j d=listed.getD j d:=fun listed j d m x=>by
  rw[Za,Za,Array.getElem?_append_left (by omega)]
 have C:∀ (listed:Array Bool) (j:Nat),listed.size=l.length→l.length≤j→(listed++Array.replicate l2.length false).getD j false=false:=fun listed j m x=>by
  rw[Za,Array.getElem?_append_right (by omega)]
  cases h:(Array.replicate l2.length false)[j - listed.size]? with
  | none=>rfl
  | some b =>
    have:=Array.mem_of_getElem? h
    simp at this
    simp[this.2]
 -- all of the first part are listed
 have D:∀ (fuel:Nat) (listed:Array Bool) (a:Act) (w:World),listed.size=l.length→(∀ j,j<l.length→listed.getD j false=true)→wpList P (l++l2).toArray Q l2 a w →
  wpAny P .any (l++l2).toArray Q (fuel+l2.length) (listed++Array.replicate l2.length false) a w:=fun fuel listed a w m k h=>by
  refine QgY hb (k0:=l.length) (by simpa using ht) l2.length l.length _ _ a w (by simp) Ze (by omega) (by simp[m]) (fun j x=>?_) (by simpa using h);by_cases v:j<l.length
  ·rw[f listed j false m v,k j v];simp[v]
  ·rw[C listed j m (by omega)];simp;omega
 have u:∀ (listed:Array Bool),listed.size=l.length→Region.ready .any l.toArray listed=[]→∀ j,j<l.length→listed.getD j false=true:=fun listed m V j=>by
  induction j using Nat.strongRecOn with
  | _ j ih =>
    intro x
    cases hc:listed.getD j false with
    | true=>rfl
    | false =>
      exfalso
      have v:j<listed.size:=by omega
      have X:listed.getD j true=false:=by simp[Array.getD,v] at hc ⊢;exact hc
      have:j∈Region.ready .any l.toArray listed:=ZE.2 ⟨by simpa using x,X,l[j],by simp[x],fun e n c=>by
       have:=z j l[j] (by simp[x]) e n c
       exact ih e.on this (by omega)⟩
      rw[V] at this;cases this
 intro fuel
 induction fuel with
 | zero =>
   intro listed a w m F h;exact D 0 listed a w m (u listed m h.1) h.2
 | succ fuel ih =>
   intro listed a w m F h;by_cases k:∀ j,j<l.length→listed.getD j false=true
   ·refine D (fuel+1) listed a w m k (h.1 ?_);rw[List.eq_nil_iff_forall_not_mem]
    intro i r;obtain⟨G,B,_⟩:=ZE.1 r
    have S:i<l.length:=by simpa using G
    have:=k i S
    have s:i<listed.size:=by omega
    simp[Array.getD,s] at this B
    rw[this] at B;cases B
   ·have T:Region.ready .any l.toArray listed≠[]:=fun e=>k (u listed m e)
    have A:∀ i,i∈Region.ready .any (l++l2).toArray (listed++Array.replicate l2.length false)↔i∈Region.ready .any l.toArray listed:=fun i=>by
     rw[ZE,ZE]
     by_cases r:i<l.length
     ·have e1:(l++l2).toArray[i]?=l.toArray[i]?:=by simp[List.getElem?_append_left r]
      rw[f listed i true m r,e1]
      constructor
      ·rintro ⟨_,B,o,p,E⟩;refine⟨by simpa using r,B,o,p,fun e n c=>?_⟩
       have:=z i o (by simpa using p) e n c
       have h4:=E e n c;rwa [f listed e.on false m (by omega)] at h4
      ·rintro ⟨_,B,o,p,E⟩;refine⟨by simp;omega,B,o,p,fun e n c=>?_⟩
       have:=z i o (by simpa using p) e n c
       rw[f listed e.on false m (by omega)]
       exact E e n c
     ·constructor
      ·rintro ⟨G,B,o,p,E⟩;exfalso
       refine k fun j x=>?_;have K:(l++l2)[i]?=some o:=by simpa using p
       rw[XQ (by omega)] at K
       have:=Qei (l++l2) l2 l.length (i - l.length) o ht K j (by omega) (fun q=>(listed++Array.replicate l2.length false).getD q false=true)
        (fun q o' H N e n c=>by
         have O:(listed++Array.replicate l2.length false).getD q false=true:=N;by_cases I:q<l.length
         ·rw[f listed q false m I] at O
          rw[XP I] at H
          have h6:=z q o' H e n c;show (listed++Array.replicate l2.length false).getD e.on false=true;rw[f listed e.on false m (by omega)]
          exact F q o' H O e n c
         ·rw[C listed q m (by omega)] at O
          cases O) E
       rwa [f listed j false m x] at this
      ·rintro ⟨G,_⟩;exact absurd (by simpa using G) r
    rw[show fuel+1+l2.length=(fuel+l2.length)+1 by omega]
    refine⟨fun V=>?_,fun i r=>?_⟩
    ·exfalso
     apply T
     rw[List.eq_nil_iff_forall_not_mem]
     intro i r
     have:=(A i).2 r
     rw[V] at this;cases this
    ·have s:=(A i).1 r;have t:=h.2 i s;obtain⟨G,_⟩:=ZE.1 s
     have y:i<l.length:=by simpa using G
     have p:l.toArray[i]?=some l[i]:=by simp[y]
     have W:(l++l2).toArray[i]?=some l[i]:=by simp[List.getElem?_append_left y,y]
     unfold wpOp at t ⊢;rw[p] at t
     rw[W]
     simp only at t ⊢
     have hy:Region.wanted l[i] (yielded (l++l2).toArray a.tmps)=Region.wanted l[i] (yielded l.toArray a.tmps):=by
      unfold Region.wanted
      cases hgd:(l[i]).guard with
      | none=>rfl
      | some gw =>
        obtain⟨g,aa⟩:=gw
        have:=Xe.1 hg l[i] (List.getElem_mem y)
        rw[hgd] at this
        have R:g<l.length:=by simpa using this
        simp only
        have:yielded (l++l2).toArray a.tmps g=yielded l.toArray a.tmps g:=by
         unfold yielded
         have:(l++l2).toArray[g]?=l.toArray[g]?:=by simp[List.getElem?_append_left R]
         rw[this]
        rw[this]
     rw[hy]
     have nx:∀ a w,wpAny P .any l.toArray (Exit.then (fun a w=>wpList P (l++l2).toArray Q l2 a w) Q) fuel (listed.setIfInBounds i true) a w→wpAny P .any (l++l2).toArray Q (fuel+l2.length) ((listed++Array.replicate l2.length false).setIfInBounds i true) a w:=fun a w hh=>by
      have J:∀ (q:Nat) (o:Oper),l[q]?=some o→(listed.setIfInBounds i true).getD q false=true→∀ e∈o.after,Region.binds .any e=true→(listed.setIfInBounds i true).getD e.on false=true:=fun q o H N e n c=>by
       have up:∀ j,listed.getD j false=true→(listed.setIfInBounds i true).getD j false=true:=fun j x=>by
        by_cases L:i=j
        ·subst L
         have:i<listed.size:=by omega
         simp[Array.getD,this]
        ·rw[Za,Array.getElem?_setIfInBounds_ne L,← Za];exact x
       by_cases L:i=q
       ·subst L;obtain⟨_,_,o2,M,E⟩:=ZE.1 s
        have:o2=o:=by
         have h7:l[i]?=some o2:=by simpa using M
         rw[H] at h7;exact(Xn h7).symm
        subst this;exact up _ (E e n c)
       ·rw[Za,Array.getElem?_setIfInBounds_ne L,← Za] at N
        exact up _ (F q o H N e n c)
      have:=ih (listed.setIfInBounds i true) a w (by simpa using m) J hh
      have e:(listed++Array.replicate l2.length false).setIfInBounds i true=listed.setIfInBounds i true++Array.replicate l2.length false:=by
       rw[Array.setIfInBounds_append_left (by omega)]
      rw[e];exact this
     split
     ·rename_i U
      rw[Xs U] at t
      rcases t with t | t
      ·exact .inl (Oper.wp_mono nx (QlZ t))
      ·exact .inr t
     ·rename_i U
      rw[Xr U] at t
      exact nx _ _ t
end
theorem QgQ {P:Program}{l l2:List Oper}{outs:List Tmp}{gs:List (Nat × Option Bool)}{a:Act}{Q:Exit->Act->World->Prop}
 (E:Tmp->Value->World->Prop) (W:World->Prop) (R:World->World->Prop)
 (C:P.follows .mixedOrders=true)  (s:a.tmps.size=m) (c:n<=m) (B:QaQ l n outs gs bs=true)
 (i:(Qcu 0 (l++l2)&&(Qbv l.length l&&QaM (l++l2) l.length l2))=true)
 (u:∀ t v w w',R w w'->E t v w->E t v w') (p:QaZ E W l.toArray gs) (D:W w.drew) (y:Qak E a w.drew outs)
 (A:Qek E W R P l bs)
 (b:∀ (vs:Tmp->Value) w',W w'->(∀ t,(Qt l).contains t=true->E t (vs t) w')->wpList P (l++l2).toArray Q l2 (QM a vs (Qt l)) w') :
 (Code.region id (l++l2).toArray true).wp P Q a w:=by
 simp only[Bool.and_eq_true] at i
 obtain⟨f,d,h⟩:=i
 refine wp_region_any C ?_
 have g:wpAny P .any l.toArray (Exit.then (fun a w=>wpList P (l++l2).toArray Q l2 a w) Q) l.length (Array.replicate l.length false) a w.drew:=by
  refine Qdy (E:=E) (W:=W) (R:=R) (a0:=a) (outs:=outs) (gs:=gs) (bs:=bs) (Qat (s ▸ c) B) u p A b _ _ _ _ (by simp) ?_ ⟨D,Z,Z,fun _ _=>rfl,fun t k _=>Qa3 outs y t k,?_⟩
  ·simp only[Array.toList_replicate]
   exact Zt (List.length_filter_le _ _) (by simp)
  ·intro j o t H F z;simp[Array.getD] at z
 have:=Qbo (Q:=Q) f d h l.length (Array.replicate l.length false) a w.drew (by simp) (fun q o G r=>by simp[Array.getD] at r) g
 have e:(Array.replicate l.length false++Array.replicate l2.length false:Array Bool)=Array.replicate (l++l2).toArray.size false:=by
  simp
 have x:l.length+l2.length=(l++l2).toArray.size:=by simp
 rw[e,x] at this
 exact this
theorem Qg {P:Program}{lo:List Oper}{outs:List Tmp}{gs:List (Nat × Option Bool)}{a:Act}{Q:Exit->Act->World->Prop}
 (k:Nat) (E:Tmp->Value->World->Prop) (W:World->Prop) (R:World->World->Prop)
 (d:P.follows .mixedOrders=true)  (f:a.tmps.size=m) (c:n<=m) (e:QaQ (lo.take k) n outs gs bs=true)
 (p:(Qcu 0 lo&&(Qbv (lo.take k).length (lo.take k)&&QaM lo (lo.take k).length (lo.drop k)))=true)
 (g:∀ t v w w',R w w'->E t v w->E t v w') (j:QaZ E W (lo.take k).toArray gs) (i:W w.drew) (o:Qak E a w.drew outs)
 (q:Qek E W R P (lo.take k) bs)
 (b:∀ ops (vs:Tmp->Value) w',W w'->(∀ t,(Qt (lo.take k)).contains t=true->E t (vs t) w')->wpList P ops Q (lo.drop k) (QM a vs (Qt (lo.take k))) w') :
 (Code.region id lo.toArray true).wp P Q a w:=by
 have h:=QgQ (id:=id) (l:=lo.take k) (l2:=lo.drop k) (Q:=Q) E W R d f c e (by rw[List.take_append_drop];exact p) g j i o q (b _);rwa [List.take_append_drop] at h
def Qls (L:List (Tmp × (Value->World->Prop))) (T:List (Tmp × Value)) (t:Tmp) (v:Value) (w:World):Prop :=
 match L.lookup t with
 | some p=>p v w
 | none=>v=(T.lookup t).getD undef
def Qnz (v:Value) (w w':World):List (Tmp × (Value->World->Prop))->Prop
 | []=>True
 | p::l=>(p.2 v w->p.2 v w')/\Qnz v w w' l
theorem Qls.keep {T:List (Tmp × Value)}{t:Tmp}{v:Value}{w w':World}:∀ {L:List (Tmp × (Value->World->Prop))},Qls L T t v w->Qnz v w w' L->Qls L T t v w'
 | [],h,_=>h
 | (s,p)::l,h,k=>by
   have a:=fun h=>Qls.keep (T:=T) (t:=t) (L:=l) h k.2;unfold Qls at h a |-;simp only[List.lookup_cons] at h |-
   cases e:t==s with
   | true=>rw[e] at h;exact k.1 h
   | false=>rw[e] at h;exact a h
def Qmp (S S':Nat->Bool) (t:Tmp) (v:Value) (w w':World):List (Tmp × ((Nat->Bool)->Value->World->Prop))->Prop
 | []=>True
 | p::l=>(t=p.1->p.2 S v w->p.2 S' v w')/\Qmp S S' t v w w' l
theorem Qmv {S a:Nat->Bool}{t:Tmp}{v:Value}{w w':World}{R:Prop}:∀ {L:List (Tmp × ((Nat->Bool)->Value->World->Prop))},Qmp S a t v w w' L->(match L.lookup t with | some p=>p S v w | none=>R)->(match L.lookup t with | some p=>p a v w' | none=>R)
 | [],_,h=>h
 | (s,p)::l,k,h=>by
   have b:=Qmv (R:=R) (L:=l) k.2;simp only[List.lookup_cons] at h |-
   cases e:t==s with
   | true=>rw[e] at h;exact k.1 (by simpa using e) h
   | false=>rw[e] at h;exact b h
structure Bx (w wr:World) (k r:Int) (a:Option Addr) (len c:Nat):Prop where
 bel:Below w.heap.size w wr
 box:wr.heap[w.heap.size]?=some (.cells #[Iv k,Iv r,.slice a len c] 105 (0,0))
theorem Bx.start (w:World) (k r:Int) (a:Option Addr) (len c:Nat):Bx w (w.alloc (.cells #[Iv k,Iv r,.slice a len c] 105)) k r a len c :=
 ⟨(Below.refl _ w).alloc Ze _,Qe w _ _⟩
theorem Bx.below {wr:World}{k r:Int}{len:Nat}(h:Bx w wr k r a len c) (b:Below wr.heap.size wr w'):Bx w w' k r a len c :=
 ⟨h.bel.trans (b.mono h.bel.size),Qa1 h.box b⟩
theorem Bx.alloc {wr:World}{k r:Int}{len:Nat}(h:Bx w wr k r a len c) (o:Obj):Bx w (wr.alloc o) k r a len c :=
 h.below ((Below.refl _ wr).alloc Ze _)
theorem Qd1 {α:Type}(f:α->Nat) (l:List α) (i:Nat) (x:α) (h:l[i]?=some x):((l.map f).take (i+1)).sum=((l.map f).take i).sum+f x:=by
 rw[XV,XS,h]
 simp
def Qeu (f:Nat) (n:Nat):Prop:=∀ (t:TT n) (a:Option Addr) (c:Nat) (regs:Int) (w:World),TIn w All t a->t.count<=100000 ->
 Calls prog f #[Tv t a c,Iv regs] w fun e w'=>e=.returned (Iv (t.fault regs))/\Below w.heap.size w w'
section
variable {w0 w w':World}{Bs:List (Nat × Array Value × TypeId)}
def QaC (c:Array Value) (j:Nat) (vs:List Value):Array Value:=(c.toList.take j++(vs++c.toList.drop (j+vs.length))).toArray
theorem Qfa (c:Array Value) (j:Nat) (v:Value) (b:List Value) (h:j+(v::b).length<=c.size):QaC (c.setIfInBounds j v) (j+1) b=QaC c j (v::b):=by
 unfold QaC;congr 1
 have d:j<c.toList.length:=by simp at h |-;omega
 simp only[Array.toList_setIfInBounds]
 rw[List.take_set,List.drop_set_of_lt (by omega),XV,Zg d]
 simp only[Option.toList,List.length_cons]
 have:(c.toList.take j++[c.toList[j]]).set j v=c.toList.take j++[v]:=by
  rw[List.set_append_right _ _ (by simp;omega)]
  have a:j<c.size:=by simpa using d
  simp[Nat.min_eq_left (Nat.le_of_lt a)]
 rw[this,Nat.add_assoc,Nat.add_comm 1]
 simp
end
section
variable {n:Nat}{a:Act}{L:List (Tmp × Value)}{w0 w:World}{Bs:List (Nat × Array Value × TypeId)}{Q:Exit->Act->World->Prop}{ops:Array Oper}{rest:List Oper}{t:Tmp}{u v:Value}{ty ty2 ty3:TypeId}{pos:String}{aft:Array Edge}{gd:Option (Nat × Bool)}{x y z:Operand}{g tg:Nat}{want b:Bool}
theorem QlG {w:World}{c:Array Value}{t:TypeId}(h:Blk w B c t) (j m:Nat) (e:Nat.ble (j+m) c.size=true):w.rangeAt B j ((c.toList.drop j).take m):=fun k v a=>by
 have b:k<((c.toList.drop j).take m).length:=(Zi a).1;have d:k<m:=by simp at b;omega
 rw[XR,Xs d,List.getElem?_drop] at a
 exact Qb h (j+k) v (by simpa using a)
end
theorem XM:type_of% @Nat.one_mul:=@Nat.one_mul
theorem Qcl {B:Nat}{t:TypeId}:∀ (vs:List Value) (w:World) (c:Array Value) (j:Nat),Blk w B c t->j+vs.length<=c.size->Blk (w.setCells B j vs) B (QaC c j vs) t
 | [],w,c,j,h,hs=>by
   have:QaC c j []=c:=by unfold QaC;simp
   rw[this];exact h
 | v::vs,w,c,j,h,hs=>by
   have:=Qcl vs (w.setCell ⟨B,j,none⟩ v) (c.setIfInBounds j v) (j+1) (Qh h j v) (by simp at hs |-;omega)
   rw[Qfa _ _ _ _ hs] at this
   exact this
theorem QJ {B b:Nat}(a:B<=b):∀ (vs:List Value) (w w0:World) (j:Nat),Below B w0 w->Below B w0 (w.setCells b j vs)
 | [],w,w0,j,h=>h
 | v::vs,w,w0,j,h=>QJ a vs _ _ _ (h.setCell a v)
theorem Qdl (w:World) (b j:Nat) (c:List Value):w.grownBy (w.setCells b j c) (some b):=by
 have h:=QJ (Xb b) c w w j (Below.refl 0 w);exact⟨h.os,h.tape,h.output,h.size,fun k d a=>QE (fun e=>a (by rw[e])) c j w⟩
section
variable {α:Type}{A:Lay α}{e:TypeId}{w:World}{lo g n:Nat}{l:List α}{xs:List Value}
theorem Qap.fill (h:Qap A e w lo (.slice (some ⟨g,0,none⟩) l.length n) l xs){x:α}(m:A.In w (fun k=>lo<=k/\k≠g) x ds) (o:l.length<n) :
 Qap A e (w.setCells g (l.length*A.size) ds) lo (.slice (some ⟨g,0,none⟩) (l.length+1) n) (l++[x]) (xs++ds):=by
 have b:=A.len m;refine Qap.push h (Yc m (fun k j _=>⟨j.1,fun e=>j.2 (by simpa[Value.ownBlock] using e.symm)⟩)) (Qdl w g _ ds) (.inl Z) ?_;obtain⟨q,t⟩:=h.own
 rcases t with ⟨d,_⟩|⟨y,p,c,d,v,s,u,f,i,a⟩
 ·simp at d
 ·simp only[Value.slice.injEq,Option.some.injEq,Addr.mk.injEq,and_true,true_and] at d
  obtain⟨rfl,rfl⟩:=d
  have r:(l.length+1)*A.size<=n*A.size:=Xp _ o;rw[Nat.add_mul,XM] at r
  refine⟨by rw[List.length_append,q,b,Nat.add_mul,XM],.inr ⟨g,n,QaC c (l.length*A.size) ds,Z,v,Qcl ds w c _ s (by omega),o,f,?_,?_⟩⟩
  ·rw[<-i];unfold QaC;simp;omega
  ·unfold QaC;rw[a,Nat.add_mul,XM]
   rw[show l.length*A.size+A.size=(xs++ds).length by rw[List.length_append,q,b],List.toList_toArray,<-List.append_assoc]
   exact List.take_left' Z
end
section
variable {P:Program}{Q:Exit->Act->World->Prop}
def QgN (l:List Oper) (S:Nat->Bool):Prop:=∀ (j:Nat) (o:Oper),l[j]?=some o->S j=true->∀ e∈o.after,Region.binds .any e=true->S e.on=true
def Qnh (o:Oper) (S:Nat->Bool):Prop:=∀ e∈o.after,Region.binds .any e=true->S e.on=true
def Qcr (i:Nat) (S:Nat->Bool):Nat->Bool:=fun j=>j==i||S j
end
section
variable (E:Tmp->Value->World->Prop) (W:(Nat->Bool)->World->Prop) (R:World->World->Prop) (P:Program) (l:List Oper)
def ZK (ops:Array Oper):List (Nat × Option Bool)->Prop
 | []=>True
 | (g,c)::r=>(∀ t,(ops[g]?).bind (·.dst)=some t->∀ v w,E t v w->match c with | some b=>v=.bool b | none=>v=undef)/\ZK ops r
end
section
variable {P:Program}{E:Tmp->Value->World->Prop}{W:(Nat->Bool)->World->Prop}{R:World->World->Prop}
theorem QdV {a:Array Oper}:∀ (gs:List (Nat × Option Bool)),ZK E a gs->∀ g c,gs.lookup g=some c->∀ t,(a[g]?).bind (·.dst)=some t->∀ v w,E t v w->match c with | some b=>v=.bool b | none=>v=undef
 | [],_,_,_,h=>by simp at h
 | (g',c')::r,h,g,c,hl=>by
   by_cases e:g=g'
   ·subst e;simp at hl;subst hl;exact h.1
   ·have d:(g==g')=false:=by simpa using e
    simp[List.lookup_cons,d] at hl;exact QdV r h.2 g c hl
end
def Qm0 (l:List Oper) (S:Nat->Bool) (t:Tmp):Prop:=t∈Qt l->∃ j o,l[j]?=some o/\o.dst=some t/\S j=true
def PEx (PX:List PanicEntry->World->Prop):Exit->Act->World->Prop:=fun e _ w=>∃ ch,e=.panic ch/\PX ch w
theorem Qn7 {o:Oper}{a:Act}{K f:Act->World->Prop}{PX:List PanicEntry->World->Prop}{Q:Exit->Act->World->Prop}(h:∀ a w,K a w->f a w) (d:∀ e w,PEx PX e a w->Q e a w)
 (b:o.wp P a w K (PEx PX)):o.wp P a w f Q:=by
 unfold Oper.wp at *;generalize (execOp a.eval o).run P w=r at *
 cases r with
 | ok n w' =>
   cases n<;>simp only[Oper.upon] at b |- <;>
    first
     | exact h _ _ b
     | exact d _ _ b
     | exact Xm b (fun e g c=>by cases e<;>first | exact h _ _ c | exact d _ _ c | (obtain⟨x,y,i,c,_⟩:=c;cases c))
     | exact Rows.mono b (fun _ _ c=>h _ _ c)
 | halt x w'=>cases x<;>simp only[Oper.upon] at b |-<;>first | exact d _ _ b | exact b
section
variable (E:(Nat->Bool)->Tmp->Value->World->Prop) (W:(Nat->Bool)->World->Prop) (PX:List PanicEntry->World->Prop) (P:Program) (l:List Oper)
def Qjj (i:Nat) (o:Oper):Prop :=
 ∀ (S:Nat->Bool) a w,S i=false->Qnh o S->QgN l S->W S w->Qee (E S) a w (QeE o)->∀ K:Act->World->Prop,(∀ v w',(∀ t,Qm0 l S t->E S t (a.tmps.getD t undef) w->E (Qcr i S) t (a.tmps.getD t undef) w')->W (Qcr i S) w'->EO (E (Qcr i S)) o.dst v w'->K (a.put o.dst v) w')->o.wp P a w K (PEx PX)
def Qgh (i:Nat) (o:Oper):Prop:=∀ (S:Nat->Bool) (a:Act) w,S i=false->Qnh o S->QgN l S->W S w->(W (Qcr i S) w/\EO (E (Qcr i S)) o.dst undef w/\∀ t,Qm0 l S t->E S t (a.tmps.getD t undef) w->E (Qcr i S) t (a.tmps.getD t undef) w)
structure Qlm (outs:List Tmp) (a0:Act) (listed:Array Bool) (a:Act) (w:World):Prop where
 world:W (fun j=>listed.getD j false) w
 closed:QgN l (fun j=>listed.getD j false)
 defers:a.defers=a0.defers
 size:a.tmps.size=a0.tmps.size
 outer:∀ t,t ∉ Qt l->a.tmps[t]?=a0.tmps[t]?
 outs:∀ t∈outs,t ∉ Qt l->E (fun j=>listed.getD j false) t (a.tmps.getD t undef) w
 known:∀ j o t,l[j]?=some o->o.dst=some t->listed.getD j false=true->E (fun j=>listed.getD j false) t (a.tmps.getD t undef) w
def AllOkY:Nat->List Oper->List Bool->Prop
 | i,o::r,true::bs=>Qjj E W PX P l i o/\AllOkY (i+1) r bs
 | i,o::r,false::bs=>Qgh E W l i o/\AllOkY (i+1) r bs
 | _,_,_=>True
end
section
variable {P:Program}{E:(Nat->Bool)->Tmp->Value->World->Prop}{W:(Nat->Bool)->World->Prop}{PX:List PanicEntry->World->Prop}
theorem QfT {a:List Oper}(gs:List (Nat × Option Bool)):∀ (l:List Oper) (k:Nat) (bs:List Bool),Qld gs l bs=true->AllOkY E W PX P a k l bs->∀ (i:Nat) (o:Oper),l[i]?=some o->(onB gs o true=true/\Qjj E W PX P a (k+i) o)\/(onB gs o false=true/\Qgh E W a (k+i) o)
 | [],_,_,_,_,_,_,h=>by simp at h
 | _::_,_,[],h,_,_,_,_=>by simp[Qld] at h
 | x::l,k,b::bs,h,ha,i,o,ho=>by
   simp only[Qld,Bool.and_eq_true] at h
   cases i with
   | zero =>
     simp at ho;subst ho
     cases b with
     | true=>exact .inl ⟨h.1,ha.1⟩
     | false=>exact .inr ⟨h.1,ha.1⟩
   | succ i =>
     simp at ho
     have e:k+(i+1)=k+1+i:=by omega
     rw[e]
     cases b with
     | true=>exact QfT gs l (k+1) bs h.2 ha.2 i o ho
     | false=>exact QfT gs l (k+1) bs h.2 ha.2 i o ho
theorem Qbt {l:List Oper}{outs:List Tmp}{gs:List (Nat × Option Bool)}{a0:Act}{Q:Exit->Act->World->Prop}
 (hX:∀ ch a w,a.defers=a0.defers->PX ch w->Q (.panic ch) a w) (hB:QaQ l a0.tmps.size outs gs bs=true) (hG:∀ S,ZK (E S) l.toArray gs) (hA:AllOkY E W PX P l 0 l bs)
 (aj:∀ (vs:Tmp->Value) (S:Nat->Bool) w',(∀ j,j<l.length->S j=true)->W S w'->(∀ t,(Qt l).contains t=true->E S t (vs t) w')->Q .normal (QM a0 vs (Qt l)) w') :
 ∀ (fuel:Nat) (listed:Array Bool) (a:Act) (w:World),listed.size=l.length->(listed.toList.filter (·==false)).length<=fuel->Qlm E W l outs a0 listed a w ->
  wpAny P .any l.toArray Q fuel listed a w:=by
 simp only[QaQ,Bool.and_eq_true] at hB
 obtain⟨⟨⟨⟨⟨av,au⟩,ac⟩,an⟩,aw⟩,ao⟩:=hB
 have ad:∀ (listed:Array Bool) (a:Act) (w:World),listed.size=l.length->Region.ready .any l.toArray listed=[]->Qlm E W l outs a0 listed a w->Q .normal a w:=by
  intro listed a w hs M f
  have T:∀ j,j<l.length->listed.getD j false=true:=by
   intro j
   induction j using Nat.strongRecOn with
   | _ j ih =>
     intro r
     cases q:listed.getD j false with
     | true=>rfl
     | false =>
       exfalso
       have:j∈Region.ready .any l.toArray listed:=by
        unfold Region.ready;refine List.mem_filter.2 ⟨by simpa using r,?_⟩
        have e1:listed.getD j true=false:=by
         have ar:j<listed.size:=by omega
         simp[Array.getD,ar] at q |-;exact q
        have e2:l.toArray[j]?=some l[j]:=by simp[r]
        rw[e1,e2]
        simp only[Bool.not_false,Bool.true_and,Option.map_some,Option.getD_some]
        rw[Array.all_eq_true_iff_forall_mem]
        intro e H
        cases J:Region.binds .any e with
        | false=>rfl
        | true =>
          have:=back_at l 0 j l[j] ao (by simp[r]) e H J
          simp only[Bool.not_true,Bool.false_or]
          exact ih e.on (by omega) (by omega)
       rw[M] at this
       cases this
  have ak:∀ t∈Qt l,E (fun j=>listed.getD j false) t (a.tmps.getD t undef) w/\t<a0.tmps.size:=by
   intro t s;obtain⟨o,ho,y⟩:=List.mem_filterMap.1 s
   obtain⟨j,r⟩:=List.getElem?_of_mem ho
   have G:j<l.length:=by
    rcases Nat.lt_or_ge j l.length with h | h
    ·exact h
    ·rw[Xk h] at r;cases r
   exact⟨f.known j o t r y (T j G),by simpa using Xe.1 ac t s⟩
  have H:a=QM a0 (fun t=>a.tmps.getD t undef) (Qt l):=by
   have e1:a.tmps=(QM a0 (fun t=>a.tmps.getD t undef) (Qt l)).tmps:=by
    refine Array.ext (by rw[Qc0,f.size]) fun t h1 U=>?_;have h3:t<a0.tmps.size:=by rw[<-f.size];exact h1
    have:=QfV (fun t=>a.tmps.getD t undef) (Qt l) a0 t h3
    rw[Xj U] at this
    by_cases hm:t∈Qt l
    ·rw[Xs hm] at this
     simp only[Option.some.injEq] at this
     rw[this];simp[Array.getD,h1]
    ·rw[Xr hm,<-f.outer t hm,Xj h1] at this
     exact(Xn this).symm
   have e2:a.defers=(QM a0 (fun t=>a.tmps.getD t undef) (Qt l)).defers:=by rw[Qbr,f.defers]
   cases a with
   | mk t d =>
     simp only at e1 e2
     generalize hp:QM a0 (fun x=>t.getD x undef) (Qt l)=p at e1 e2 |-
     cases p;simp only at e1 e2;rw[e1,e2]
  rw[H]
  exact aj _ _ _ T f.world fun t s=>(ak t (by simpa using s)).1
 intro fuel
 induction fuel with
 | zero =>
   intro listed a w hs hf f
   have M:Region.ready .any l.toArray listed=[]:=by
    rw[List.eq_nil_iff_forall_not_mem]
    intro i hi;obtain⟨h1,U⟩:=List.mem_filter.1 hi
    have G:i<l.length:=by simpa using h1
    simp only[Bool.and_eq_true,Bool.not_eq_true'] at U
    have:listed[i]'(by omega)=false:=by
     have:=U.1;simp[Array.getD,show i<listed.size by omega] at this;exact this
    have hm:false∈listed.toList.filter (·==false):=List.mem_filter.2 ⟨by rw[<-this];simp,by simp⟩
    have:=List.length_pos_of_mem hm
    omega
   exact⟨M,ad listed a w hs M f⟩
 | succ fuel ih =>
   intro listed a w hs hf f;refine⟨fun M=>ad listed a w hs M f,fun i hi=>?_⟩
   obtain⟨h1,U⟩:=List.mem_filter.1 hi
   have G:i<l.length:=by simpa using h1
   simp only[Bool.and_eq_true,Bool.not_eq_true'] at U
   obtain⟨ai,m⟩:=U
   have K:i<listed.size:=by omega
   have N:listed[i]=false:=by simp[Array.getD,K] at ai;exact ai
   have ho:l.toArray[i]?=some l[i]:=by simp[G]
   have n:l[i]?=some l[i]:=by simp[G]
   generalize a1:l[i]=o at ho n;rw[ho] at m
   simp only[Option.map_some,Option.getD_some] at m
   rw[Array.all_eq_true_iff_forall_mem] at m
   have z:∀ t∈o.looksAt l.toArray,E (fun j=>listed.getD j false) t (a.tmps.getD t undef) w:=by
    intro t s
    have:=Xe.1 (Xe.1 an o (Zm n)) t s
    rw[Bool.or_eq_true] at this
    rcases this with h | h
    ·simp only[Bool.and_eq_true,Bool.not_eq_true'] at h
     exact f.outs t (by simpa using h.1) (by simpa using h.2)
    ·obtain⟨k,hk,h⟩:=Array.any_eq_true.1 h
     simp only[Bool.and_eq_true,beq_iff_eq] at h
     obtain⟨q,y⟩:=h
     have R:=m _ (Array.getElem_mem hk);rw[q] at R
     simp only[Bool.not_true,Bool.false_or] at R
     generalize o.after[k]=e at *;obtain⟨oj,al,am⟩:=Option.bind_eq_some_iff.1 y
     exact f.known e.on oj t (by simpa using al) am R
   have ax:Qee (E (fun j=>listed.getD j false)) a w (QeE o):=QdZ _ fun t s=>z t (by
    unfold Oper.looksAt;exact List.mem_append_left _ s)
   have hw:∀ b,onB gs o b=true->Region.wanted o (yielded l.toArray a.tmps)=b:=by
    intro b q;unfold onB at q;unfold Region.wanted
    cases hg:o.guard with
    | none=>rw[hg] at q;simp only at q |-;exact q.symm
    | some gw =>
      obtain⟨g,az⟩:=gw
      rw[hg] at q
      simp only at q |-
      cases R:gs.lookup g with
      | none=>rw[R] at q;cases q
      | some c =>
        rw[R] at q
        simp only[beq_iff_eq] at q
        have hy:yielded l.toArray a.tmps g=c:=by
         unfold yielded;have ap:(g,c)∈gs:=mem_of_lookup gs g c R;have C:=Xe.1 av _ ap
         cases y:(l.toArray[g]?).bind (·.dst) with
         | none=>rw[y] at C;cases C
         | some t =>
           have hE:=z t (by unfold Oper.looksAt;rw[hg];simp only[y];simp);have I:=QdV gs (hG _) g c R t y _ _ hE;obtain⟨og,aq,ay⟩:=Option.bind_eq_some_iff.1 y
           have V:t<a.tmps.size:=by
            rw[f.size]
            have:=Xe.1 ac t (List.mem_filterMap.2 ⟨og,Zm (by simpa using aq),ay⟩)
            simpa using this
           have s:a.tmps[t]?=some (a.tmps.getD t undef):=by simp[Array.getD,V]
           simp only[Option.bind_some,s]
           cases c with
           | none=>simp only at I;rw[I];rfl
           | some b=>simp only at I;rw[I]
        rw[hy,q]
   have O:((listed.setIfInBounds i true).toList.filter (·==false)).length<=fuel:=by
    have h3:=filter_set listed.toList i (by simpa using K) (by simpa using N);rw[Array.toList_setIfInBounds]
    omega
   have u:(fun j=>(listed.setIfInBounds i true).getD j false)=Qcr i (fun j=>listed.getD j false):=by
    funext j
    unfold Qcr;by_cases e:j=i
    ·subst e;simp[Array.getD,K]
    ·have ab:i≠j:=fun x=>e x.symm;rw[Za,Array.getElem?_setIfInBounds_ne ab,<-Za]
     simp[e]
   have F:Qnh o (fun j=>listed.getD j false):=fun e H q=>by
    have:=m e H
    rw[q] at this
    simpa using this
   have ae:(fun j=>listed.getD j false) i=false:=by simp[Array.getD,K,N]
   have L:∀ v w',W (Qcr i (fun j=>listed.getD j false)) w'->(∀ t,Qm0 l (fun j=>listed.getD j false) t->E (fun j=>listed.getD j false) t (a.tmps.getD t undef) w->E (Qcr i (fun j=>listed.getD j false)) t (a.tmps.getD t undef) w')->EO (E (Qcr i (fun j=>listed.getD j false))) o.dst v w'->Qlm E W l outs a0 (listed.setIfInBounds i true) (a.put o.dst v) w':=by
    intro v w' X A I
    have B:∀ t,o.dst≠some t->(a.put o.dst v).tmps[t]?=a.tmps[t]?:=by
     intro t s
     cases y:o.dst with
     | none=>rfl
     | some d =>
       have:d≠t:=fun e=>s (by rw[y,e])
       simp[Act.put,this]
    have D:∀ (b c:Array Value) (t:Nat),b[t]?=c[t]?->b.getD t undef=c.getD t undef:=by
     intro b c t h;rw[Za,Za,h]
    refine⟨by rw[u];exact X,?_,?_,?_,?_,?_,?_⟩
    ·rw[u]
     intro j oj r hS e H J;unfold Qcr at hS |-;by_cases e':j=i
     ·subst e';rw[n] at r
      obtain rfl:=Xn r
      have:=F e H J
      simp only at this
      simp[this]
     ·have:(j==i)=false:=by simpa using e'
      rw[this,Bool.false_or] at hS
      have:=f.closed j oj r hS e H J
      simp only at this
      simp[this]
    ·rw[<-f.defers];cases o.dst<;>rfl
    ·rw[<-f.size];cases o.dst<;>simp[Act.put]
    ·intro t s;rw[B t (fun e=>s (List.mem_filterMap.2 ⟨o,Zm n,e⟩)),f.outer t s]
    ·intro t s hn;rw[D _ _ t (B t (fun e=>hn (List.mem_filterMap.2 ⟨o,Zm n,e⟩)))]
     rw[u]
     exact A _ (fun h=>absurd h hn) (f.outs t s hn)
    ·intro j oj t r y ah;by_cases aa:j=i
     ·subst aa;rw[n] at r
      obtain rfl:=Xn r
      have V:t<a.tmps.size:=by
       rw[f.size]
       have:=Xe.1 ac t (List.mem_filterMap.2 ⟨o,Zm n,y⟩)
       simpa using this
      rw[y] at I |-
      have:(a.put (some t) v).tmps.getD t undef=v:=by simp[Act.put,Array.getD,V]
      rw[this,u];exact I
     ·have ab:o.dst≠some t:=fun e=>aa (nodup_apart l j i oj o t au r n y e);rw[D _ _ t (B t ab)]
      have af:i≠j:=fun e=>aa e.symm
      have ag:listed.getD j false=true:=by
       rw[Za,Array.getElem?_setIfInBounds_ne af] at ah
       rw[Za];exact ah
      rw[u]
      exact A _ (fun _=>⟨j,oj,r,y,ag⟩) (f.known j oj t r y ag)
   unfold wpOp;rw[ho]
   simp only
   rcases QfT gs l 0 bs aw hA i o n with ⟨h,A⟩|⟨h,A⟩
   ·rw[hw true h,Xs Z]
    refine .inl (Qn7 (fun a' w' hh=>hh) (fun e w' H=>by obtain⟨ch,rfl,hp⟩:=H;exact hX ch _ _ f.defers hp) ((XK i ▸ A) (fun j=>listed.getD j false) a w ae F f.closed f.world ax _ fun v w' M X I=>?_));exact ih _ _ _ (by simpa using hs) O (L v w' X M I)
   ·rw[hw false h]
    simp only[Bool.false_eq_true,if_false]
    have hO:=(XK i ▸ A) (fun j=>listed.getD j false) a w ae F f.closed f.world;exact ih _ _ _ (by simpa using hs) O (L undef w hO.1 hO.2.2 hO.2.1)
theorem Qdi {l:List Oper}{outs:List Tmp}{gs:List (Nat × Option Bool)}{a:Act}{Q:Exit->Act->World->Prop}
 (E:(Nat->Bool)->Tmp->Value->World->Prop) (W:(Nat->Bool)->World->Prop) (PX:List PanicEntry->World->Prop) (e:∀ ch a' w,a'.defers=a.defers->PX ch w->Q (.panic ch) a' w)
 (f:P.follows .mixedOrders=true)  (k:a.tmps.size=m) (c:n<=m) (g:QaQ l n outs gs bs=true)
 (r:∀ S,ZK (E S) l.toArray gs) (q:W (fun _=>false) w.drew) (s:Qak (E (fun _=>false)) a w.drew outs)
 (v:AllOkY E W PX P l 0 l bs)
 (b:∀ (vs:Tmp->Value) (S:Nat->Bool) w',(∀ j,j<l.length->S j=true)->W S w'->(∀ t,(Qt l).contains t=true->E S t (vs t) w')->Q .normal (QM a vs (Qt l)) w') :
 (Code.region id l.toArray true).wp P Q a w:=by
 refine wp_region_any f ?_
 have d:(fun j=>(Array.replicate l.length false).getD j false)=fun _=>false:=by
  funext j
  rw[Za,Array.getElem?_replicate]
  split<;>rfl
 have p:l.toArray.size=l.length:=by simp
 rw[p]
 refine Qbt e (Qat (k ▸ c) g) r v b _ _ _ _ (by simp) ?_ ⟨by rw[d];exact q,(by rw[d];intro j o _ h;cases h),Z,Z,fun _ _=>rfl,(fun t i _=>by rw[d];exact Qa3 outs s t i),?_⟩
 ·simp only[Array.toList_replicate]
  exact Zt (List.length_filter_le _ _) (by simp)
 ·intro j o t x y u;simp[Array.getD] at u
end
section
variable (E:Tmp->Value->World->Prop) (W:World->Prop) (R:World->World->Prop) (PX:List PanicEntry->World->Prop) (P:Program)
def Ql0 (o:Oper):Prop :=
 ∀ a w,W w->Qee E a w (QeE o)->∀ K:Act->World->Prop,(∀ v w',R w w'->W w'->EO E o.dst v w'->K (a.put o.dst v) w')->o.wp P a w K (PEx PX)
def AllOkC:List Oper->List Bool->Prop
 | o::r,true::bs=>Ql0 E W R PX P o/\AllOkC r bs
 | o::r,false::bs=>(∀ w,W w->EO E o.dst undef w)/\AllOkC r bs
 | _,_=>True
end
section
variable {P:Program}{E:Tmp->Value->World->Prop}{W:World->Prop}{R:World->World->Prop}{PX:List PanicEntry->World->Prop}
theorem QgM {e:List Oper}(c:∀ t v w w',R w w'->E t v w->E t v w'):∀ (l:List Oper) (bs:List Bool) (k:Nat),AllOkC E W R PX P l bs->AllOkY (fun _=>E) (fun _=>W) PX P e k l bs
 | [],bs,k,h=>by cases bs<;>trivial
 | o::r,[],k,h=>trivial
 | o::r,true::bs,k,h=>⟨fun S a w _ _ _ b d K f=>h.1 a w b d K (fun v w' j g i=>f v w' (fun t _ m=>c t _ w w' j m) g i),QgM c r bs (k+1) h.2⟩
 | o::r,false::bs,k,h=>⟨fun S a w _ _ _ b=>⟨b,h.1 w b,fun _ _ h=>h⟩,QgM c r bs (k+1) h.2⟩
theorem QcF {l:List Oper}{outs:List Tmp}{gs:List (Nat × Option Bool)}{a:Act}{Q:Exit->Act->World->Prop}
 (E:Tmp->Value->World->Prop) (W:World->Prop) (R:World->World->Prop) (PX:List PanicEntry->World->Prop) (g:∀ ch a' w,a'.defers=a.defers->PX ch w->Q (.panic ch) a' w)
 (f:P.follows .mixedOrders=true)  (i:a.tmps.size=m) (d:n<=m) (h:QaQ l n outs gs bs=true)
 (j:∀ t v w w',R w w'->E t v w->E t v w') (k:ZK E l.toArray gs) (c:W w.drew) (o:Qak E a w.drew outs)
 (p:AllOkC E W R PX P l bs)
 (b:∀ (vs:Tmp->Value) w',W w'->(∀ t,(Qt l).contains t=true->E t (vs t) w')->Q .normal (QM a vs (Qt l)) w') :
 (Code.region id l.toArray true).wp P Q a w :=
 Qdi (fun _=>E) (fun _=>W) PX g f i d h (fun _=>k) c o (QgM j l bs 0 p) (fun vs _ w' _ c e=>b vs w' c e)
end
section
variable {P:Program}{E:Tmp->Value->World->Prop}{W:World->Prop}{R:World->World->Prop}
theorem eoB (o:Option Tmp)(a:W w) (h:EO E o v w):EO (fun t v w=>W w/\E t v w) o v w:=by
 cases o with
 | none=>exact h
 | some t=>exact⟨a,h⟩
theorem knB (a:Act) (w:World):∀ l,Qee (fun t v w=>W w/\E t v w) a w l->Qee E a w l
 | [],h=>h
 | _::r,h=>⟨h.1.2,knB a w r h.2⟩
theorem Qni (d:∀ t v w w',R w w'->E t v w->E t v w'):∀ (l:List Oper) (bs:List Bool),Qek E W R P l bs->AllOkC (fun t v w=>W w/\E t v w) W (fun w w'=>R w w'/\W w') (fun _ _=>False) P l bs
 | [],bs,h=>by cases bs<;>trivial
 | o::r,[],h=>trivial
 | o::r,true::bs,h=>⟨fun a w b e K f=>wpq (fun _ _ h=>h) (h.1 a w b (knB a w _ e) K (fun v w' i c g=>f v w' ⟨i,c⟩ c (eoB o.dst c g))),Qni d r bs h.2⟩
 | o::r,false::bs,h=>⟨fun w b=>eoB o.dst b (h.1 w b),Qni d r bs h.2⟩
theorem guB {a:Array Oper}:∀ gs,QaZ E W a gs->ZK (fun t v w=>W w/\E t v w) a gs
 | [],h=>h
 | _::r,h=>⟨fun t c v w b=>h.1 t c v w b.1 b.2,guB r h.2⟩
theorem ouB {a:Act}{w:World}(b:W w):∀ l,Qak E a w l->Qak (fun t v w=>W w/\E t v w) a w l
 | [],h=>h
 | _::r,h=>⟨⟨b,h.1⟩,ouB b r h.2⟩
theorem QaY {l:List Oper}{outs:List Tmp}{gs:List (Nat × Option Bool)}{a:Act}{Q:Exit->Act->World->Prop}
 (E:Tmp->Value->World->Prop) (W:World->Prop) (R:World->World->Prop)
 (i:P.follows .mixedOrders=true)  (j:a.tmps.size=m) (c:n<=m) (k:QaQ l n outs gs bs=true)
 (d:∀ t v w w',R w w'->E t v w->E t v w') (q:QaZ E W l.toArray gs) (e:W w.drew) (r:Qak E a w.drew outs)
 (s:Qek E W R P l bs)
 (b:∀ (vs:Tmp->Value) w',W w'->(∀ t,(Qt l).contains t=true->E t (vs t) w')->Q .normal (QM a vs (Qt l)) w') :
 (Code.region id l.toArray true).wp P Q a w :=
 QcF _ W _ (fun _ _=>False) (fun _ _ _ _ h=>h.elim) i j c k (fun t v w w' f u=>⟨f.2,d t v w w' f.1 u.2⟩) (guB gs q) e (ouB e outs r) (Qni d l bs s) (fun vs w' p g=>b vs w' p (fun t o=>(g t o).2))
end
theorem Qme (w:World) (c:List Value) (t:TypeId):∀ (j:Nat) (u:Value),c[j]?=some u->(w.alloc (.cells c.toArray t)).cell? ((⟨w.heap.size,0,none⟩:Addr).add j)=some u:=by
 intro j u h;have a:c.toArray[j]?=some u:=by simpa using h
 rw[Go.WideShapes.add_plain,XK]
 exact Qb (Qe w c.toArray t) j u a
structure FB where
 c:Nat
 v:Value
structure MG where
 bh:Nat
 O:Nat->Prop
 G:HG
 A:Nat->Prop
 pm:Option Addr
 cm:Nat
 pi:Option Addr
 ci:Nat
 vc:Value
 vb:Value
 vo:Value
 t:FB
 fs:List FB
 lo:Nat
def Qi (i:Nat):Code->Option Code
 | .region k ops d=>if k=i then some (.region k ops d) else none
 | .loop c=>Qi i c
 | .seq a b=>match Qi i a with
   | some c=>some c
   | none=>Qi i b
 | .block _ c=>Qi i c
 | .scope c=>Qi i c
 | .cond _ a b=>match Qi i a with
   | some c=>some c
   | none=>Qi i b
 | _=>none
def Qam (k:Nat):Code->List Oper
 | .region _ ops _=>ops.toList.drop k
 | _=>[]
theorem Qk {p:Addr}(h:w.cell? p=some v) (b:Below w.heap.size w w'):w'.cell? p=some v:=(b.cell (Xi w p h)).trans h
theorem ZP (w:World){rest:List Oper}{o:Oper}{a:Act}{Q:Exit->Act->World->Prop}(y:o.guard=none) (s x:Operand) (t:TypeId)
 (H:o.op=.call { callee:=.builtin .append,args:=#[s,x],argTypes:=#[t,t] })
 (e:TypeId) (i:TypeInfo) (z:Value) (size d:Nat) (F:P.underlying t=some (.slice e)) (hi:P.info? e=some i) (S:i.zero=some z)
 (g:i.size=size) (B:i.bytes=d) (C:z.cells.size=size) (E:0<size)
 (v:Value) (n:Nat) (xs:List Value) (R:a.eval s=v) (p:w.ownsRow 0 e size v n xs)
 (A:Addr) (m c:Nat) (b:List Value) (I:a.eval x=.slice (some A) m c) (O:b.length=m*size) (l:∀ j u,b[j]?=some u->w.cell? (A.add j)=some u) (J:∀ u∈b,u.oneCell'=true)
 (D:n+m<=maxLen) (f:(n+m)*d<=140737488355328)
 (h:∀ v' w',w'.ownsRow 0 e size v' (n+m) (xs++b)->w.grownBy w' v.ownBlock->(∀ k,v'.ownBlock=some k->v.ownBlock=some k\/k=w.heap.size)->wpList P ops Q rest (a.put o.dst v') w'):wpList P ops Q (o::rest) a w:=by
 obtain⟨v',w',N,L,M,_,q⟩:=run_append_own_at (P:=P) w 0 t o.type e i z size d F hi S g B C E v n xs p A m c b O l J D f (Xb _)
 refine wpList_plain y fun K G=>?_;unfold Oper.wp execOp;simp only[H,resolve,invoke,builtin,Sem.run_bind,Sem.run_pure,Result.andThen_ok,List.map_toArray,List.map_cons,List.map_nil,R,I,N]
 refine G _ _ (h v' w' L M (fun k r=>?_));rcases q with q | q
 ·rw[q] at r;exact .inl r
 ·rw[q] at r;exact .inr (by simpa using r.symm)
theorem QaR {z:Nat}{xs:List Value}(h:w.ownsRow 0 e z v n xs):∃ a c,v=.slice a n c:=by
 rcases h.2 with ⟨e,f⟩|⟨g,b,d,e,_⟩
 ·exact⟨none,0,by rw[e,f]⟩
 ·exact⟨_,_,e⟩
abbrev I64 (x:Int):Prop:=-9223372036854775808<=x/\x<=9223372036854775807
structure IP where
 pR:Option Addr
 cR:Nat
 pA:Option Addr
 cA:Nat
structure EP where
 pYR:Option Addr
 cYR:Nat
 pYA:Option Addr
 cYA:Nat
 pNR:Option Addr
 cNR:Nat
 pNA:Option Addr
 cNA:Nat
 pA:Option Addr
 cA:Nat
structure BP where
 pP:Option Addr
 cP:Nat
 pC:Option Addr
 cC:Nat
 e:EP
structure FP where
 pP:Option Addr
 cP:Nat
 pR:Option Addr
 cR:Nat
 pB:Option Addr
 cB:Nat
structure QhB (w:World) (O:Nat->Prop) (x:MTo) (pR:Option Addr) (cR:Nat) (pA:Option Addr) (cA:Nat):Prop where
 regs:intsL.In w O x.regs [.slice pR x.regs.length cR]
 args:intsL.In w O x.args [.slice pA x.args.length cA]
 bnd:I64 x.block
structure IIn (w:World) (O:Nat->Prop) (x:Qs) (i:IP):Prop where
 regs:intsL.In w O x.regs [.slice i.pR x.regs.length i.cR]
 args:intsL.In w O x.args [.slice i.pA x.args.length i.cA]
 bnd:I64 x.op/\I64 x.a/\I64 x.b/\I64 x.c/\I64 x.k/\I64 x.n
structure EIn (w:World) (O:Nat->Prop) (x:ZA) (e:EP):Prop where
 yes:QhB w O x.yes e.pYR e.cYR e.pYA e.cYA
 no:QhB w O x.no e.pNR e.cNR e.pNA e.cNA
 args:intsL.In w O x.args [.slice e.pA x.args.length e.cA]
 bnd:I64 x.op/\I64 x.a
structure BIn (w:World) (O:Nat->Prop){n:Nat}(x:MBlock n) (b:BP):Prop where
 params:(Qp n).In w O x.params [.slice b.pP x.params.length b.cP]
 code:insL.list.In w O x.code [.slice b.pC x.code.length b.cC]
 fin:EIn w O x.fin b.e
 bnd:I64 x.regs
structure FIn (w:World) (O:Nat->Prop){n:Nat}(x:MFunc n) (f:FP):Prop where
 params:(Qp n).In w O x.params [.slice f.pP x.params.length f.cP]
 results:(Qp n).In w O x.results [.slice f.pR x.results.length f.cR]
 blocks:(Zo n).list.In w O x.blocks [.slice f.pB x.blocks.length f.cB]
 bnd:I64 x.regs
section
variable {w w':World}{O O':Nat->Prop}{n:Nat}{cs:List Value}
theorem QhB.keep {x:MTo}(b:∀ k,O k->k<w.heap.size->w'.heap[k]?=w.heap[k]?) (a:∀ k,O k->k<w.heap.size->O' k) (h:QhB w O x pR cR pA cA):QhB w' O' x pR cR pA cA:=⟨Lay.keep _ b a h.regs,Lay.keep _ b a h.args,h.bnd⟩
theorem QhB.below {x:MTo}(h:QhB w O x pR cR pA cA) (a:Below w.heap.size w w'):QhB w' O x pR cR pA cA:=h.keep (fun k _ b=>a.block k b) (fun _ h _=>h)
theorem IIn.keep {x:Qs}{i:IP}(b:∀ k,O k->k<w.heap.size->w'.heap[k]?=w.heap[k]?) (a:∀ k,O k->k<w.heap.size->O' k) (h:IIn w O x i):IIn w' O' x i:=⟨Lay.keep _ b a h.regs,Lay.keep _ b a h.args,h.bnd⟩
theorem IIn.below {x:Qs}{i:IP}(h:IIn w O x i) (a:Below w.heap.size w w'):IIn w' O x i:=h.keep (fun k _ b=>a.block k b) (fun _ h _=>h)
theorem EIn.keep {x:ZA}{e:EP}(b:∀ k,O k->k<w.heap.size->w'.heap[k]?=w.heap[k]?) (a:∀ k,O k->k<w.heap.size->O' k) (h:EIn w O x e):EIn w' O' x e:=⟨h.yes.keep b a,h.no.keep b a,Lay.keep _ b a h.args,h.bnd⟩
theorem EIn.below {x:ZA}{e:EP}(h:EIn w O x e) (a:Below w.heap.size w w'):EIn w' O x e:=h.keep (fun k _ b=>a.block k b) (fun _ h _=>h)
theorem BIn.keep {x:MBlock n}{b:BP}(c:∀ k,O k->k<w.heap.size->w'.heap[k]?=w.heap[k]?) (a:∀ k,O k->k<w.heap.size->O' k) (h:BIn w O x b):BIn w' O' x b:=⟨Lay.keep _ c a h.params,Lay.keep _ c a h.code,h.fin.keep c a,h.bnd⟩
theorem BIn.below {x:MBlock n}{b:BP}(h:BIn w O x b) (a:Below w.heap.size w w'):BIn w' O x b:=h.keep (fun k _ c=>a.block k c) (fun _ h _=>h)
theorem FIn.keep {x:MFunc n}{f:FP}(b:∀ k,O k->k<w.heap.size->w'.heap[k]?=w.heap[k]?) (a:∀ k,O k->k<w.heap.size->O' k) (h:FIn w O x f):FIn w' O' x f:=⟨Lay.keep _ b a h.params,Lay.keep _ b a h.results,Lay.keep _ b a h.blocks,h.bnd⟩
theorem FIn.below {x:MFunc n}{f:FP}(h:FIn w O x f) (a:Below w.heap.size w w'):FIn w' O x f:=h.keep (fun k _ b=>a.block k b) (fun _ h _=>h)
theorem Qig {x:MTo}(h:toL.In w O x cs):∃ pR cR pA cA,cs=[Iv x.block,.slice pR x.regs.length cR,.slice pA x.args.length cA]/\QhB w O x pR cR pA cA:=by
 obtain⟨a,c,b,d,rfl,g,e,f⟩:=Qf5 h
 exact⟨a,c,b,d,Z,g,e,f⟩
theorem QhG {x:MTo}(h:QhB w O x pR cR pA cA):toL.In w O x [Iv x.block,.slice pR x.regs.length cR,.slice pA x.args.length cA]:=Qnd h.regs h.args h.bnd
theorem Qem {x:Qs}(h:insL.In w O x cs):∃ i:IP,cs=[Iv x.op,Iv x.a,Iv x.b,Iv x.c,Iv x.k,Iv x.n,.slice i.pR x.regs.length i.cR,.slice i.pA x.args.length i.cA]/\IIn w O x i:=by
 obtain⟨a,c,b,d,rfl,g,e,f⟩:=QkD h
 exact⟨⟨a,c,b,d⟩,Z,g,e,f⟩
theorem Qev {x:ZA}(h:endL.In w O x cs):∃ e:EP,cs=[Iv x.op,Iv x.a,Iv x.yes.block,.slice e.pYR x.yes.regs.length e.cYR,.slice e.pYA x.yes.args.length e.cYA,Iv x.no.block,.slice e.pNR x.no.regs.length e.cNR,.slice e.pNA x.no.args.length e.cNA,.slice e.pA x.args.length e.cA]/\EIn w O x e:=by
 obtain⟨r,q,a,c,rfl,b,f,g,l⟩:=Qgl h
 obtain⟨i,j,pA,cA,rfl,n⟩:=Qig b
 obtain⟨k,o,p,m,rfl,d⟩:=Qig f
 exact⟨⟨i,j,pA,cA,k,o,p,m,a,c⟩,Z,n,d,g,l⟩
theorem QgG {x:ZA}{e:EP}(h:EIn w O x e):endL.In w O x [Iv x.op,Iv x.a,Iv x.yes.block,.slice e.pYR x.yes.regs.length e.cYR,.slice e.pYA x.yes.args.length e.cYA,Iv x.no.block,.slice e.pNR x.no.regs.length e.cNR,.slice e.pNA x.no.args.length e.cNA,.slice e.pA x.args.length e.cA]:=Qmr (QhG h.yes) (QhG h.no) h.args h.bnd
theorem Qb5 {x:MBlock n}(h:(Zo n).In w O x cs):∃ b:BP,cs=[Iv x.regs,.slice b.pP x.params.length b.cP,.slice b.pC x.code.length b.cC,Iv x.fin.op,Iv x.fin.a,Iv x.fin.yes.block,.slice b.e.pYR x.fin.yes.regs.length b.e.cYR,.slice b.e.pYA x.fin.yes.args.length b.e.cYA,Iv x.fin.no.block,.slice b.e.pNR x.fin.no.regs.length b.e.cNR,.slice b.e.pNA x.fin.no.args.length b.e.cNA,.slice b.e.pA x.fin.args.length b.e.cA]/\BIn w O x b:=by
 obtain⟨a,c,b,d,l,rfl,g,i,j,k⟩:=Qce h
 obtain⟨e,rfl,f⟩:=Qev j
 exact⟨⟨a,c,b,d,e⟩,Z,g,i,f,k⟩
theorem QcW {x:MFunc n}(h:(ZS n).In w O x cs):∃ f:FP,cs=[Iv x.regs,.slice f.pP x.params.length f.cP,.slice f.pR x.results.length f.cR,.slice f.pB x.blocks.length f.cB]/\FIn w O x f:=by
 obtain⟨a,c,b,d,e,f,rfl,j,g,k,i⟩:=Qas h
 exact⟨⟨a,c,b,d,e,f⟩,Z,j,g,k,i⟩
theorem Qi4 {l:List Qs}(h:(insL).list.In w O l [.slice p m c]){x:Qs}(q:l[i]?=some x) :
 ∃ (g o:Nat) (i':IP),p=some ⟨g,o,none⟩/\w.rangeAt g (o+i*8) [Iv x.op,Iv x.a,Iv x.b,Iv x.c,Iv x.k,Iv x.n,.slice i'.pR x.regs.length i'.cR,.slice i'.pA x.args.length i'.cA]/\IIn w O x i':=by
 obtain⟨g,o,z,e,u,y,f,t⟩:=Yf h q
 obtain⟨i',rfl,r⟩:=Qem t
 have s:(insL).size=8:=rfl;rw[s] at f
 exact⟨g,o,i',e,fun j v d=>(f j (by have:=(Zi d).1;simpa using this)).trans d,r⟩
theorem Qen {l:List (MBlock n)}(h:(Zo n).list.In w O l [.slice p m c]){x:MBlock n}(k:l[i]?=some x) :
 ∃ (g o:Nat) (b:BP),p=some ⟨g,o,none⟩/\w.rangeAt g (o+i*12) [Iv x.regs,.slice b.pP x.params.length b.cP,.slice b.pC x.code.length b.cC,Iv x.fin.op,Iv x.fin.a,Iv x.fin.yes.block,.slice b.e.pYR x.fin.yes.regs.length b.e.cYR,.slice b.e.pYA x.fin.yes.args.length b.e.cYA,Iv x.fin.no.block,.slice b.e.pNR x.fin.no.regs.length b.e.cNR,.slice b.e.pNA x.fin.no.args.length b.e.cNA,.slice b.e.pA x.fin.args.length b.e.cA]/\BIn w O x b:=by
 obtain⟨g,o,y,e,t,u,f,s⟩:=Yf h k
 obtain⟨b,rfl,q⟩:=Qb5 s
 have r:(Zo n).size=12:=rfl;rw[r] at f
 exact⟨g,o,b,e,fun j v d=>(f j (by have:=(Zi d).1;simpa using this)).trans d,q⟩
theorem QfB {l:List (MFunc n)}(h:(ZS n).list.In w O l [.slice p m c]){x:MFunc n}(d:l[i]?=some x) :
 ∃ (g o:Nat) (f:FP),p=some ⟨g,o,none⟩/\w.rangeAt g (o+i*4) [Iv x.regs,.slice f.pP x.params.length f.cP,.slice f.pR x.results.length f.cR,.slice f.pB x.blocks.length f.cB]/\FIn w O x f:=by
 obtain⟨g,o,u,e,s,t,b,r⟩:=Yf h d
 obtain⟨f,rfl,k⟩:=QcW r
 have q:(ZS n).size=4:=rfl;rw[q] at b
 exact⟨g,o,f,e,fun j v a=>(b j (by have:=(Zi a).1;simpa using this)).trans a,k⟩
end
theorem Qj3 (op:Int):op=1\/op=2\/op=3\/op=4\/op=5\/op=6\/op=7\/op=8\/op=9\/op=10\/op=11\/op=12\/op=13\/op=14\/(op≠1/\op≠2/\op≠3/\op≠4/\op≠5/\op≠6/\op≠7/\op≠8/\op≠9/\op≠10/\op≠11/\op≠12/\op≠13/\op≠14):=by omega
def Qb9 (funcs:Nat) (op a b c k n:Int) (rl al:Nat):Int :=
 match Q6 op with
 | none=>3
 | some (fa,fb,fc,fk,fn,fr,fs) =>
   if (!fa&&a != 0)||(!fb&&b != 0)||(!fc&&c != 0)||(!fk&&k != 0)||(!fn&&n != 0)||(!fr&&decide (0<rl))||(!fs&&decide (0<al)) then 4
   else if op=2/\(k<1\/9<k) then 1
   else if op=5/\8<al then 2
   else if (op=6\/op=7)/\(k<0\/7<k) then 1
   else if op=14/\(k<0\/(funcs:Int)<=k) then 1
   else if op=14/\(6<rl\/8<al) then 2
   else 0
theorem Qs.form_eq (d:Nat) (x:Qs):x.form d=Qb9 d x.op x.a x.b x.c x.k x.n x.regs.length x.args.length:=by
 unfold Qs.form Qs.formless Qb9
 cases Q6 x.op with
 | none=>rfl
 | some p=>obtain⟨a,b,c,k,n,r,s⟩:=p;rfl
def rangeC (x l m:Int):Int:=if x<l\/m<x then 1 else 0
def manyC (len:Nat) (m:Int):Int:=if m<len then 2 else 0
def handedC (r:Nat) (m:Int) (s:Nat):Int:=if manyC r m≠0 then manyC r m else manyC s 8
def QkK (a b c k n:Int) (rl al:Nat):Bool:=a==0&&b==0&&c==0&&k==0&&n==0&&(rl:Int)==0&&(al:Int)==0
def ZH (funcs:Nat) (op k:Int) (rl al:Nat):Int :=
 if op=2 then rangeC k 1 9 else if op=6\/op=7 then rangeC k 0 7 else if op=5 then manyC al 8
 else if op=14 then (if rangeC k 0 ((funcs:Int) - 1)=0 then handedC rl 6 al else rangeC k 0 ((funcs:Int) - 1)) else 0
theorem fb (f:Bool) (a:Int):(!f&&a != 0)=!((bif f then 0 else a)==0):=by cases f<;>simp[bne]
theorem fbn (f:Bool) (l:Nat):(!f&&decide (0<l))=!(((bif f then 0 else l:Nat):Int)==0):=by
 cases f
 ·by_cases h:l=0
  ·simp[h]
  ·have:0<l:=by omega
   simp[this,h]
 ·simp
theorem Qit (d:Nat) (op k:Int) (rl al:Nat):(if op=2/\(k<1\/9<k) then 1
 else if op=5/\8<al then 2
 else if (op=6\/op=7)/\(k<0\/7<k) then 1
 else if op=14/\(k<0\/(d:Int)<=k) then 1
 else if op=14/\(6<rl\/8<al) then 2
 else 0)=ZH d op k rl al:=by
 unfold ZH;by_cases c:op=2
 ·subst c;simp[rangeC]
 ·by_cases e:op=6\/op=7
  ·have b:¬ op=5:=by omega
   have a:¬ op=14:=by omega
   simp[c,b,e,a,rangeC]
  ·by_cases b:op=5
   ·subst b;simp[manyC];split<;>split<;>omega
   ·by_cases a:op=14
    ·subst a;simp[rangeC,handedC,manyC]
     repeat' split
     all_goals omega
    ·simp[c,b,e,a]
theorem Qfd {i:Nat}{op a b c k n:Int}{g d h f fn fr fs:Bool}(e:Q6 op=some (g,d,h,f,fn,fr,fs)) :
 Qb9 i op a b c k n rl al=if QkK (bif g then 0 else a) (bif d then 0 else b) (bif h then 0 else c) (bif f then 0 else k) (bif fn then 0 else n) (bif fr then 0 else rl) (bif fs then 0 else al)=true then ZH i op k rl al else 4:=by
 simp only[Qb9,e,Qit]
 rw[fb,fb,fb,fb,fb,fbn,fbn]
 unfold QkK;generalize ((bif g then 0 else a)==0)=r;generalize ((bif d then 0 else b)==0)=j;generalize ((bif h then 0 else c)==0)=l;generalize ((bif f then 0 else k)==0)=q;generalize ((bif fn then 0 else n)==0)=o;generalize (((bif fr then 0 else rl:Nat):Int)==0)=p;generalize (((bif fs then 0 else al:Nat):Int)==0)=m
 cases r<;>cases j<;>cases l<;>cases q<;>cases o<;>cases p<;>cases m<;>rfl
theorem Qfx (h:f<1000000):Rd prog 118 #[Iv (f:Int)] w (Iv (10000*(f:Int)+9999)):=by
 unfold Rd;skip
 skip
 go_enter func118,ntmps118
 go_wp2
 go_ret;refine⟨?_,Zr⟩
 show Ending.returned (Iv ((f:Int)*10000+9999))=_;congr 2
 omega
theorem Qfj (h:f<1000000/\b<1000000):Rd prog 181 #[Iv (f:Int),Iv (b:Int)] w (Iv (10000*(f:Int)+100*(b:Int)+90)):=by
 unfold Rd;have c:=h.1;have a:=h.2;skip
 go_enter func181,ntmps181
 go_wp2
 go_ret;refine⟨?_,Zr⟩
 show Ending.returned (Iv ((f:Int)*10000+(b:Int)*100+90))=_;congr 2
 omega
theorem Qdz (h:f<1000000/\b<1000000):Rd prog 131 #[Iv (f:Int),Iv (b:Int)] w (Iv (10000*(f:Int)+100*(b:Int)+91)):=by
 unfold Rd;have c:=h.1;have a:=h.2;skip
 go_enter func131,ntmps131
 go_wp2
 go_ret;refine⟨?_,Zr⟩
 show Ending.returned (Iv ((f:Int)*10000+(b:Int)*100+91))=_;congr 2
 omega
theorem QdM (h:f<1000000/\b<1000000/\i<1000000):Rd prog 130 #[Iv (f:Int),Iv (b:Int),Iv (i:Int)] w (Iv (10000*(f:Int)+100*(b:Int)+(i:Int))):=by
 unfold Rd;have c:=h.1;have a:=h.2;have d:=h.2.1;have e:=h.2.2;go_enter func130,ntmps130
 go_wp2
 go_ret;refine⟨?_,Zr⟩
 show Ending.returned (Iv ((f:Int)*10000+(b:Int)*100+(i:Int)))=_;congr 2
 omega
theorem QaG {l m:Int}:Rd prog 262 #[Iv x,Iv l,Iv m] w (Iv (rangeC x l m)):=by
 unfold Rd rangeC;by_cases b:x<l
 ·rw[Xs (.inl b)]
  go_enter func262,ntmps262
  go_wp2
  go_ret;exact⟨Z,Zr⟩
 ·by_cases a:m<x
  ·rw[Xs (.inr a)]
   go_enter func262,ntmps262
   go_wp2
   go_ret;exact⟨Z,Zr⟩
  ·rw[Xr (by omega)]
   go_enter func262,ntmps262
   go_wp2
   go_ret;exact⟨Z,Zr⟩
theorem QaS {len:Nat}{m:Int}:Rd prog 263 #[.slice p len c,Iv m] w (Iv (manyC len m)):=by
 unfold Rd manyC;by_cases a:m<len
 ·rw[Xs a]
  go_enter func263,ntmps263
  go_wp2
  go_ret;exact⟨Z,Zr⟩
 ·rw[Xr a]
  go_enter func263,ntmps263
  go_wp2
  go_ret;exact⟨Z,Zr⟩
theorem Qbg {q:Option Addr}{r:Nat}{m:Int}:Rd prog 264 #[.slice p r c,Iv m,.slice q s d] w (Iv (handedC r m s)):=by
 have b:Hid (∀ a:World,Calls prog 263 #[.slice p r c,Iv m] a fun e j=>e=.returned (Iv (manyC r m))/\Below a.heap.size a j):=fun a=>QaS;have k:Hid (∀ a:World,Calls prog 263 #[.slice q s d,Iv 8] a fun e j=>e=.returned (Iv (manyC s 8))/\Below a.heap.size a j):=fun a=>QaS;unfold Rd handedC;by_cases h:manyC r m=0
 ·rw[Xr (by simpa using h)]
  rw[h] at b
  go_enter func264,ntmps264
  go_wp2_with fail
  refine(b.out w).mono ?_
  rintro e i ⟨rfl,g⟩;have f:Hid (Below w.heap.size w i):=g;clear g b;go_wp2_with fail
  refine(k.out i).mono ?_
  rintro e t ⟨rfl,l⟩;have n:Hid (Below w.heap.size w t):=f.out.trans (l.mono f.out.size);clear l k f;go_wp2
  go_ret;exact⟨Z,n.out⟩
 ·rw[Xs h]
  have o:(manyC r m==0)=false:=by simpa using h
  generalize manyC r m=v at b o h |-;go_enter func264,ntmps264
  go_wp2_with fail
  refine(b.out w).mono ?_
  rintro e i ⟨rfl,g⟩;have f:Hid (Below w.heap.size w i):=g;clear g b k;go_wp2
  go_ret;exact⟨Z,f.out⟩
theorem QdT {xop:Int}:Rd prog 228 #[.agg #[Iv xop,Iv xa,Iv xb,Iv xc,Iv xk,Iv xn,.slice ra rl rc,.slice aa al ac]] w (.bool (QkK xa xb xc xk xn rl al)):=by
 have D:(xa==0)=false\/xa=0/\((xb==0)=false\/xb=0/\((xc==0)=false\/xc=0/\((xk==0)=false\/xk=0/\((xn==0)=false\/xn=0/\(((rl:Int)==0)=false\/rl=0/\(((al:Int)==0)=false\/al=0)))))):=by
  simp only[beq_eq_false_iff_ne];omega
 unfold Rd;rcases D with g | ⟨rfl,g | ⟨rfl,g | ⟨rfl,g | ⟨rfl,g | ⟨rfl,g | ⟨rfl,g | rfl⟩⟩⟩⟩⟩⟩
 all_goals
  go_enter func228,ntmps228
  go_wp2
  go_ret;exact⟨by first | rfl | simp[QkK,g],Zd _ _⟩
def wfV (xop xa xb xc xk xn:Int) (ra aa:Option Addr) (rl rc al ac:Nat):Value:=match Q6 xop with
 | some (fa,fb,fc,fk,fn,fr,fs)=>.tuple #[.agg #[.int .i64 xop,.int .i64 (bif fa then 0 else xa),.int .i64 (bif fb then 0 else xb),.int .i64 (bif fc then 0 else xc),.int .i64 (bif fk then 0 else xk),.int .i64 (bif fn then 0 else xn),.slice (bif fr then none else ra) (bif fr then 0 else rl) (bif fr then 0 else rc),.slice (bif fs then none else aa) (bif fs then 0 else al) (bif fs then 0 else ac)],.bool true]
 | none=>.tuple #[.agg #[.int .i64 xop,.int .i64 xa,.int .i64 xb,.int .i64 xc,.int .i64 xk,.int .i64 xn,.slice ra rl rc,.slice aa al ac],.bool false]
theorem Qmi {xop:Int}:Rd prog 227 #[.agg #[Iv xop,Iv xa,Iv xb,Iv xc,Iv xk,Iv xn,.slice ra rl rc,.slice aa al ac]] w (wfV xop xa xb xc xk xn ra aa rl rc al ac):=by
 rcases Qj3 xop with rfl | rfl | rfl | rfl | rfl | rfl | rfl | rfl | rfl | rfl | rfl | rfl | rfl | rfl | n
 rotate_right
 obtain⟨l,o,f,k,j,m,h,i,g,a,b,d,e,c⟩:=n
 have E:Q6 xop=none:=by simp[Q6, *]
 rw[<-beq_eq_false_iff_ne] at l o f k j m h i g a b d e c
 all_goals
  unfold Rd;go_enter func227,ntmps227
  go_wp2
  exact Xy (v:=wfV _ xa xb xc xk xn ra aa rl rc al ac) (by simp[results,results227,go_sem,wfV];first | (simp[Q6];done) | rw[E]) Z ⟨Z,QhD _ _ _⟩
theorem Qjo {xop lo hi:Int}{f:Option Addr}{a:Nat}(h:xop=2/\lo=1/\hi=9\/xop=6/\lo=0/\hi=7\/xop=7/\lo=0/\hi=7):Rd prog 229 #[.agg #[.slice f a cm],.agg #[Iv xop,Iv xa,Iv xb,Iv xc,Iv xk,Iv xn,.slice ra rl rc,.slice aa al ac]] w (Iv (ZH a xop xk rl al)):=by
 have C:Hid (∀ c:World,Rd prog 262 #[Iv xk,Iv lo,Iv hi] c (Iv (rangeC xk lo hi))):=fun c=>QaG;unfold Rd;rw[show ZH a xop xk rl al=rangeC xk lo hi by rcases h with ⟨rfl,rfl,rfl⟩|⟨rfl,rfl,rfl⟩|⟨rfl,rfl,rfl⟩<;>rfl]
 generalize rangeC xk lo hi=v at C |-;rcases h with ⟨rfl,rfl,rfl⟩|⟨rfl,rfl,rfl⟩|⟨rfl,rfl,rfl⟩
 all_goals
  go_enter func229,ntmps229
  go_wp2_with fail
  refine(C.out _).mono ?_
  rintro e g ⟨rfl,b⟩;have d:Hid (Below w.heap.size w g):=(QhD _ _ _).trans (b.mono (QhD w _ _).size);clear b C;go_wp2
  go_ret;exact⟨Z,d.out⟩
theorem Qmc {g:Option Addr}{b:Nat}:Rd prog 229 #[.agg #[.slice g b cm],.agg #[Iv 5,Iv xa,Iv xb,Iv xc,Iv xk,Iv xn,.slice ra rl rc,.slice aa al ac]] w (Iv (ZH b 5 xk rl al)):=by
 have C:Hid (∀ a:World,Calls prog 263 #[.slice aa al ac,Iv 8] a fun e d=>e=.returned (Iv (manyC al 8))/\Below a.heap.size a d):=fun a=>QaS;rw[show ZH b 5 xk rl al=manyC al 8 from Z]
 generalize manyC al 8=v at C |-;unfold Rd;go_enter func229,ntmps229
 go_wp2_with fail
 refine(C.out _).mono ?_
 rintro e h ⟨rfl,c⟩;have f:Hid (Below w.heap.size w h):=(QhD _ _ _).trans (c.mono (QhD w _ _).size);clear c C;go_wp2
 go_ret;exact⟨Z,f.out⟩
theorem QjY {g:Option Addr}{a:Nat}(p:a<2305843009213693952):Rd prog 229 #[.agg #[.slice g a cm],.agg #[Iv 14,Iv xa,Iv xb,Iv xc,Iv xk,Iv xn,.slice ra rl rc,.slice aa al ac]] w (Iv (ZH a 14 xk rl al)):=by
 have C:Hid (∀ b:World,Calls prog 262 #[Iv xk,Iv 0,Iv ((a:Int) - 1)] b fun e l=>e=.returned (Iv (rangeC xk 0 ((a:Int) - 1)))/\Below b.heap.size b l):=fun b=>QaG;have i:Hid (∀ b:World,Calls prog 264 #[.slice ra rl rc,Iv 6,.slice aa al ac] b fun e l=>e=.returned (Iv (handedC rl 6 al))/\Below b.heap.size b l):=fun b=>Qbg;rw[show ZH a 14 xk rl al=if rangeC xk 0 ((a:Int) - 1)=0 then handedC rl 6 al else rangeC xk 0 ((a:Int) - 1) from Z]
 generalize rangeC xk 0 ((a:Int) - 1)=v at C |-;generalize handedC rl 6 al=u at i |-;have f:Blk ((w.alloc (.cells #[.slice g a cm] 24)).alloc (.cells #[Iv 14,Iv xa,Iv xb,Iv xc,Iv xk,Iv xn,.slice ra rl rc,.slice aa al ac] 78)) (w.heap.size+1) #[Iv 14,Iv xa,Iv xb,Iv xc,Iv xk,Iv xn,.slice ra rl rc,.slice aa al ac] 78:=Blk.new2 _ _ _ _;have c:Hid (Below w.heap.size w ((w.alloc (.cells #[.slice g a cm] 24)).alloc (.cells #[Iv 14,Iv xa,Iv xb,Iv xc,Iv xk,Iv xn,.slice ra rl rc,.slice aa al ac] 78))):=QhD _ _ _;unfold Rd;by_cases k:v=0
 ·subst k;rw[Xs Z]
  go_enter func229,ntmps229
  go_wp2_with fail
  generalize ((w.alloc (.cells #[.slice g a cm] 24)).alloc (.cells #[Iv 14,Iv xa,Iv xb,Iv xc,Iv xk,Iv xn,.slice ra rl rc,.slice aa al ac] 78))=o at f c |-;refine(C.out _).mono ?_
  rintro e m ⟨rfl,d⟩;have j:=(d.block _ (XC f)).trans f;have h:Hid (Below w.heap.size w m):=c.out.trans (d.mono c.out.size);have x:=Qb j 6 _ Z;have t:=Qb j 7 _ Z;clear d C f c j;go_wp2_with fail
  refine(i.out _).mono ?_
  rintro e s ⟨rfl,n⟩;have r:Hid (Below w.heap.size w s):=h.out.trans (n.mono h.out.size);clear n i h;go_wp2
  go_ret;exact⟨Z,r.out⟩
 ·rw[Xr k]
  have q:(v==0)=false:=by simpa using k
  go_enter func229,ntmps229
  go_wp2_with fail
  generalize ((w.alloc (.cells #[.slice g a cm] 24)).alloc (.cells #[Iv 14,Iv xa,Iv xb,Iv xc,Iv xk,Iv xn,.slice ra rl rc,.slice aa al ac] 78))=o at f c |-;refine(C.out _).mono ?_
  rintro e m ⟨rfl,d⟩;have h:Hid (Below w.heap.size w m):=c.out.trans (d.mono c.out.size);clear d C i f c;go_wp2
  go_ret;exact⟨Z,h.out⟩
theorem QkA {xop:Int}{g:Option Addr}{b:Nat}(h:xop≠2/\xop≠6/\xop≠7/\xop≠5/\xop≠14):Rd prog 229 #[.agg #[.slice g b cm],.agg #[Iv xop,Iv xa,Iv xb,Iv xc,Iv xk,Iv xn,.slice ra rl rc,.slice aa al ac]] w (Iv (ZH b xop xk rl al)):=by
 obtain⟨c,e,f,d,a⟩:=h
 rw[show ZH b xop xk rl al=0 by simp[ZH,c,e,f,d,a]]
 have k:(xop==2)=false:=by simpa using c
 have l:(xop==6)=false:=by simpa using e
 have j:(xop==7)=false:=by simpa using f
 have m:(xop==5)=false:=by simpa using d
 have i:(xop==14)=false:=by simpa using a
 unfold Rd;go_enter func229,ntmps229
 go_wp2
 go_ret;exact⟨Z,QhD _ _ _⟩
theorem QdU {xop:Int}{e:Option Addr}{b:Nat}(c:b<2305843009213693952):Rd prog 229 #[.agg #[.slice e b cm],.agg #[Iv xop,Iv xa,Iv xb,Iv xc,Iv xk,Iv xn,.slice ra rl rc,.slice aa al ac]] w (Iv (ZH b xop xk rl al)):=by
 by_cases d:xop=5
 ·subst d;exact Qmc
 by_cases a:xop=14
 ·subst a;exact QjY c
 by_cases h:xop=2\/xop=6\/xop=7
 ·rcases h with rfl | rfl | rfl
  ·exact Qjo (.inl ⟨Z,Z,Z⟩)
  all_goals exact Qjo (lo:=0) (hi:=7) (by simp)
 ·exact QkA (by omega)
theorem QgL {xop:Int}{o p m:Int}{j i:Option Addr}{f b c g:Nat}{l:Option Addr}{n:Nat}{ok k:Bool}{v:Int}
 (B:Hid (∀ wx:World,Calls prog 227 #[.agg #[Iv xop,Iv xa,Iv xb,Iv xc,Iv xk,Iv xn,.slice ra rl rc,.slice aa al ac]] wx fun e w'=>e=.returned (.tuple #[.agg #[Iv xop,Iv ya,Iv yb,Iv o,Iv p,Iv m,.slice j f b,.slice i c g],.bool ok])/\Below wx.heap.size wx w'))
 (A:Hid (∀ wx:World,Calls prog 228 #[.agg #[Iv xop,Iv ya,Iv yb,Iv o,Iv p,Iv m,.slice j f b,.slice i c g]] wx fun e w'=>e=.returned (.bool k)/\Below wx.heap.size wx w'))
 (u:Hid (∀ wx:World,Calls prog 229 #[.agg #[.slice l n cm],.agg #[Iv xop,Iv xa,Iv xb,Iv xc,Iv xk,Iv xn,.slice ra rl rc,.slice aa al ac]] wx fun e w'=>e=.returned (Iv v)/\Below wx.heap.size wx w')) :
 Rd prog 184 #[.agg #[.slice l n cm],.agg #[Iv xop,Iv xa,Iv xb,Iv xc,Iv xk,Iv xn,.slice ra rl rc,.slice aa al ac]] w (Iv (if ok=false then 3 else if k=true then v else 4)):=by
 have h:Blk ((w.alloc (.cells #[.slice l n cm] 24)).alloc (.cells #[Iv xop,Iv xa,Iv xb,Iv xc,Iv xk,Iv xn,.slice ra rl rc,.slice aa al ac] 78)) w.heap.size #[.slice l n cm] 24:=Blk.new1 _ _ _ _ _;have a:Blk ((w.alloc (.cells #[.slice l n cm] 24)).alloc (.cells #[Iv xop,Iv xa,Iv xb,Iv xc,Iv xk,Iv xn,.slice ra rl rc,.slice aa al ac] 78)) (w.heap.size+1) #[Iv xop,Iv xa,Iv xb,Iv xc,Iv xk,Iv xn,.slice ra rl rc,.slice aa al ac] 78:=Blk.new2 _ _ _ _;have y:Hid (Below w.heap.size w ((w.alloc (.cells #[.slice l n cm] 24)).alloc (.cells #[Iv xop,Iv xa,Iv xb,Iv xc,Iv xk,Iv xn,.slice ra rl rc,.slice aa al ac] 78))):=QhD _ _ _;unfold Rd;go_enter func184,ntmps184
 go_wp2_with fail
 generalize ((w.alloc (.cells #[.slice l n cm] 24)).alloc (.cells #[Iv xop,Iv xa,Iv xb,Iv xc,Iv xk,Iv xn,.slice ra rl rc,.slice aa al ac] 78))=H at h a y |-;refine(B.out _).mono ?_
 rintro e s ⟨rfl,x⟩;replace h:=(x.block _ (XC h)).trans h;replace a:=(x.block _ (XC a)).trans a;have q:Hid (Below w.heap.size w s):=y.out.trans (x.mono y.out.size);clear x y B
 cases ok with
 | false =>
   have r:Hid (Below w.heap.size w (s.alloc (.cells #[Iv xop,Iv ya,Iv yb,Iv o,Iv p,Iv m,.slice j f b,.slice i c g] 78))):=q.out.trans ((Zd _ _).mono q.out.size);clear A u h a q;go_wp2
   go_ret;exact⟨Z,r.out⟩
 | true =>
   replace h:=((Zd s (.cells #[Iv xop,Iv ya,Iv yb,Iv o,Iv p,Iv m,.slice j f b,.slice i c g] 78)).block _ (XC h)).trans h;replace a:=((Zd s (.cells #[Iv xop,Iv ya,Iv yb,Iv o,Iv p,Iv m,.slice j f b,.slice i c g] 78)).block _ (XC a)).trans a;have r:Hid (Below w.heap.size w (s.alloc (.cells #[Iv xop,Iv ya,Iv yb,Iv o,Iv p,Iv m,.slice j f b,.slice i c g] 78))):=q.out.trans ((Zd _ _).mono q.out.size);go_wp2_with fail
   clear q;generalize s.alloc (.cells #[Iv xop,Iv ya,Iv yb,Iv o,Iv p,Iv m,.slice j f b,.slice i c g] 78)=O at h a r |-;refine(A.out _).mono ?_
   rintro e E ⟨rfl,z⟩;replace h:=(z.block _ (XC h)).trans h;replace a:=(z.block _ (XC a)).trans a;have t:Hid (Below w.heap.size w E):=r.out.trans (z.mono r.out.size);clear z r A
   cases k with
   | false =>
     clear u h a;go_wp2
     go_ret;exact⟨Z,t.out⟩
   | true =>
     have d:=Qb h 0 _ Z;have L:=Qb a 0 _ Z;have N:=Qb a 1 _ Z;have J:=Qb a 2 _ Z;have P:=Qb a 3 _ Z;have G:=Qb a 4 _ Z;have I:=Qb a 5 _ Z;have K:=Qb a 6 _ Z;have M:=Qb a 7 _ Z;clear h a;go_wp2_with fail
     refine(u.out _).mono ?_
     rintro e D ⟨rfl,C⟩;have F:Hid (Below w.heap.size w D):=t.out.trans (C.mono t.out.size);clear C t u;go_wp2
     go_ret;exact⟨Z,F.out⟩
theorem Qgv (d:Nat) (x:Qs) (i:IP) (l:Option Addr) (cm:Nat) (w:World) (g:d<2305843009213693952) :
 Rd prog 184 #[.agg #[.slice l d cm],.agg #[Iv x.op,Iv x.a,Iv x.b,Iv x.c,Iv x.k,Iv x.n,.slice i.pR x.regs.length i.cR,.slice i.pA x.args.length i.cA]] w (Iv (x.form d)):=by
 rw[Qs.form_eq]
 have f:=fun h=>Qmi (xop:=x.op) (xa:=x.a) (xb:=x.b) (xc:=x.c) (xk:=x.k) (xn:=x.n) (ra:=i.pR) (aa:=i.pA) (rl:=x.regs.length) (rc:=i.cR) (al:=x.args.length) (ac:=i.cA) (w:=h)
 cases e:Q6 x.op with
 | none =>
   simp only[wfV,e] at f
   rw[show Qb9 d x.op x.a x.b x.c x.k x.n x.regs.length x.args.length=3 by unfold Qb9;rw[e]]
   exact QgL (ok:=false) f (fun _=>QdT) (fun _=>QdU g)
 | some p =>
   obtain⟨o,j,t,m,r,q,s⟩:=p
   simp only[wfV,e] at f
   rw[Qfd e]
   exact QgL (ok:=true) f (fun _=>QdT) (fun _=>QdU g)
def QgR (L:List Bool) (i:Nat):Value:=if i=16 then Iv (L.length:Int) else .bool (L.getD i false)
def Qo (w:World) (b:Nat) (L:List Bool):Prop:=L.length<=16/\w.rowIs b 303 17 (QgR L)
theorem Qo.mark (h:Qo w b L)(a:k<16):w.cell? ⟨b,k,none⟩=some (.bool (L.getD k false)):=by
 have:=h.2.cell (i:=k) (by omega)
 rwa [QgR,Xr (by omega)] at this
theorem Qo.count (h:Qo w b L):w.cell? ⟨b,16,none⟩=some (Iv (L.length:Int)):=by
 have:=h.2.cell (i:=16) (by omega)
 rwa [QgR,Xs Z] at this
theorem Qo.keep (h:Qo w b L) (e:w'.heap[b]?=w.heap[b]?):Qo w' b L:=⟨h.1,h.2.of_block e⟩
theorem Qo.below (h:Qo w b L) (k:Below w.heap.size w w'):Qo w' b L:=h.keep (k.block b h.2.lt)
theorem Qo.lt (h:Qo w b L):b<w.heap.size:=h.2.lt
theorem Qo.setMark (h:Qo w b L)(d:k<L.length) (v:Bool):Qo (w.setCell ⟨b,k,none⟩ (.bool v)) b (L.set k v):=by
 refine⟨by simpa using h.1,(h.2.set k (.bool v)).congr fun i g=>?_⟩
 have f:=h.1;unfold QgR;by_cases a:i=16
 ·subst a;simp;omega
 ·rw[Xr a,Xr a]
  by_cases c:i=k
  ·subst c;simp[List.getD,d]
  ·have:¬ k=i:=fun e=>c e.symm
   simp[c,List.getD,this]
theorem Qo.push (h:Qo w b L) (e:L.length<16):Qo ((w.setCell ⟨b,L.length,none⟩ (.bool true)).setCell ⟨b,16,none⟩ (Iv ((L.length:Int)+1))) b (L++[true]):=by
 refine⟨by simp;omega,((h.2.set L.length (.bool true)).set 16 _).congr fun i f=>?_⟩
 unfold QgR;by_cases a:i=16
 ·subst a;simp
 ·rw[Xr a,Xr a,Xr a]
  by_cases d:i=L.length
  ·subst d;simp[List.getD]
  ·rw[Xr d]
   rcases Nat.lt_or_ge i L.length with c | c
   ·simp[List.getD,List.getElem?_append,c]
   ·rw[Qao L c,Qao (L++[true]) (by simp;omega)]
theorem Qcy (r:Int) (h:Qo w b L) :
 Calls prog 272 #[Pv b 0,Iv r] w fun e w'=>e=.returned (.bool (hHas L r))/\w'=w:=by
 by_cases a:0<=r
 ·by_cases d:r<16
  ·obtain⟨k,rfl⟩:=Xc a
   have c:=h.mark (k:=k) (by omega);have E:Hid (hHas L (k:Int)=L.getD k false):=Qdg L k;have i:k<16:=by omega
   clear h;generalize L.getD k false=q at c E;go_enter func272,ntmps272
   go_wp2
   go_ret;exact⟨by rw[E.out];rfl,Z⟩
  ·have E:Hid (hHas L r=false):=by
    show _=_;obtain⟨k,rfl⟩:=Xc a
    rw[Qdg,Qao L (by have:=h.1;omega)]
   have f:decide (r<16)=false:=by simpa using d
   clear h;go_enter func272,ntmps272
   go_wp2
   go_ret;exact⟨by rw[E.out];rfl,Z⟩
 ·have E:Hid (hHas L r=false):=by show _=_;simp[hHas,a]
  have g:decide (0<=r)=false:=by simpa using a
  clear h;go_enter func272,ntmps272
  go_wp2
  go_ret;exact⟨by rw[E.out];rfl,Z⟩
theorem Qkk (h:Qo w b L) :
 Calls prog 271 #[Pv b 0] w fun e w'=>e=.returned (Iv (L.length:Int))/\w'=w:=by
 have c:=h.count;clear h;generalize L.length=n at c;go_enter func271,ntmps271
 go_wp2
 go_ret;exact⟨Z,Z⟩
theorem Qf0 {a:World}(h:Qz (fun k=>k=b) (fun k=>k=b) a w) (i:Nat) (v:Value):Qz (fun k=>k=b) (fun k=>k=b) a (w.setCell ⟨b,i,none⟩ v):=h.setCell (p:=⟨b,i,none⟩) Z v
theorem QcP (h:Qo w b L) :
 Calls prog 237 #[Pv b 0] w fun e w'=>e=.returned (Iv (QbH L))/\Qo w' b (QcO L)/\Qz (fun k=>k=b) (fun k=>k=b) w w':=by
 have c:=h.count;have l:=h.1;by_cases d:L.length<16
 ·have E:Hid (QbH L=(L.length:Int)/\QcO L=L++[true]):=by show _/\_;simp[QbH,QcO,d]
  have m:=h.mark d;have f:∀ i,w.frozen? ⟨b,i,none⟩=false:=h.2.frozen;have g:Hid (Qo ((w.setCell ⟨b,L.length,none⟩ (.bool true)).setCell ⟨b,16,none⟩ (Iv ((L.length:Int)+1))) b (L++[true])):=h.push d;have j:Hid (Qz (fun k=>k=b) (fun k=>k=b) w ((w.setCell ⟨b,L.length,none⟩ (.bool true)).setCell ⟨b,16,none⟩ (Iv ((L.length:Int)+1)))):=Qf0 (Qf0 (Qz.refl _ _) _ _) _ _;have a:((L.length:Int)==16)=false:=by simp;omega
  clear h;generalize o:L.length=n at c m g j E d a l;generalize L.getD n false=q at m;go_enter func237,ntmps237
  go_wp2_with fail
  go_region;go_wp2
  go_ret;rw[E.out.1,E.out.2]
  exact⟨Z,g.out,j.out.drew⟩
 ·have a:L.length=16:=by omega
  have E:Hid (QbH L=-1/\QcO L=L):=by show _/\_;simp[QbH,QcO,d]
  have g:Hid (Qo w b L):=h;rw[a] at c
  clear h d a l;go_enter func237,ntmps237
  go_wp2
  go_ret;rw[E.out.1,E.out.2]
  exact⟨Z,g.out,Qz.refl _ _⟩
theorem QiY (r:Int) (h:Qo w b L) :
 Calls prog 269 #[Pv b 0,Iv r] w fun e w'=>e=.returned (.bool (hHas L r))/\Qo w' b (Qf8 L r)/\Qz (fun k=>k=b) (fun k=>k=b) w w':=by
 have C:Hid (Calls prog 272 #[Pv b 0,Iv r] w fun e w'=>e=.returned (.bool (hHas L r))/\w'=w):=Qcy r h
 cases hh:hHas L r with
 | false =>
   have E:Hid (Qf8 L r=L):=by show _=_;simp[Qf8,hh]
   have g:Hid (Qo w b L):=h;rw[hh] at C
   clear h hh;go_enter func269,ntmps269
   go_wp2_with (go_at_call 272;refine(C.out).mono ?_;rintro e w' ⟨rfl,a⟩;have a:=a.symm;subst a)
   go_ret;rw[E.out]
   exact⟨Z,g.out,Qz.refl _ _⟩
 | true =>
   obtain⟨k,rfl,j,l⟩:=QaU hh
   have E:Hid (Qf8 L (k:Int)=L.set k false):=by show _=_;simp[Qf8,hh]
   have g:Hid (Qo (w.setCell ⟨b,k,none⟩ (.bool false)) b (L.set k false)):=h.setMark j false;have n:Hid (Qz (fun k=>k=b) (fun k=>k=b) w (w.setCell ⟨b,k,none⟩ (.bool false))):=Qf0 (Qz.refl _ _) _ _;have c:k<16:=by have:=h.1;omega
   have d:(k:Int)<16:=by omega
   have m:=h.mark c;have f:∀ i,w.frozen? ⟨b,i,none⟩=false:=h.2.frozen;rw[hh] at C
   generalize L.getD k false=q at m;clear h hh l;go_enter func269,ntmps269
   go_wp2_with (go_at_call 272;refine(C.out).mono ?_;rintro e w' ⟨rfl,a⟩;have a:=a.symm;subst a)
   go_ret;rw[E.out]
   exact⟨Z,g.out,n.out⟩
theorem Qjp (w:World):Qo (w.alloc (.cells #[.bool false,.bool false,.bool false,.bool false,.bool false,.bool false,.bool false,.bool false,.bool false,.bool false,.bool false,.bool false,.bool false,.bool false,.bool false,.bool false,Iv 0] 303)) w.heap.size []:=by
 refine⟨by simp,World.rowIs_alloc w _ _ _ fun i a=>?_⟩
 have a:i<17:=a;unfold QgR;match i,a with
 | 0,_ | 1,_ | 2,_ | 3,_ | 4,_ | 5,_ | 6,_ | 7,_ | 8,_ | 9,_ | 10,_ | 11,_ | 12,_ | 13,_ | 14,_ | 15,_ | 16,_=>rfl
 | i+17,h=>exact absurd h (by omega)
theorem Qkn (w:World) (n:Int) (x:-9223372036854775808<=n/\n<=9223372036854775807) :
 Calls prog 208 #[Iv n] w fun e w'=>e=.returned (Pv w.heap.size 0)/\Qo w' w.heap.size (QbV n)/\Below w.heap.size w w':=by
 have Z:Hid (Qo (w.alloc (.cells #[.bool false,.bool false,.bool false,.bool false,.bool false,.bool false,.bool false,.bool false,.bool false,.bool false,.bool false,.bool false,.bool false,.bool false,.bool false,.bool false,Iv 0] 303)) w.heap.size []):=Qjp w;obtain⟨M,u⟩:∃ M,(min n 16).toNat=M:=⟨_,Yz⟩
 have E:Hid (QbV n=List.replicate M true):=by show _=_;rw[QbV,u]
 have h:∀ k:Nat,k<M->(k:Int)<n/\(k:Int)<16:=fun k l=>by omega
 have q:∀ k:Nat,¬ k<M->¬ (k:Int)<n\/¬ (k:Int)<16:=fun k l=>by omega
 go_enter func208,ntmps208
 by_cases v:16<n
 ·have p:M=16:=by omega
  go_wp2
  go_loopw [8] (fun i wr=>∃ k:Nat,k<=M/\i=Iv k/\Qo wr w.heap.size (List.replicate k true)/\Below w.heap.size w wr) (fun i _=>M - (intOf i).toNat)
  case atStart=>exact⟨0,Xb _,Yz,Z.out,Zr.alloc Ze _⟩
  case round =>
   obtain⟨k,l,rfl,j,m⟩:=hrel
   have g:Hid (Qo wr w.heap.size (List.replicate k true)):=j;have c:Hid (Below w.heap.size w wr):=m;clear j m Z;by_cases d:k<M
   ·obtain⟨r,s⟩:=h k d
    go_wp2_with fail
    refine(QcP g.out).mono ?_
    rintro e o ⟨rfl,a,b⟩
    have R:Hid (Qo o w.heap.size (List.replicate (k+1) true)/\Below w.heap.size w o):=by
     refine⟨by rw[<-QeT (by omega)];exact a,c.out.trans (b.below c.out.size fun k l=>by omega)⟩
    clear a b g c;go_wp2
    go_roundw
    case rel=>exact⟨k+1,by omega,by go_num,R.out⟩
    case measure=>simp[intOf];omega
   ·have t:¬ (k:Int)<16:=by omega
    have f:k=M:=by omega
    go_wp2
    go_ret;refine⟨Yz,?_,c.out⟩
    rw[E.out,<-f];exact g.out
 ·go_wp2
  go_loopw [8] (fun i wr=>∃ k:Nat,k<=M/\i=Iv k/\Qo wr w.heap.size (List.replicate k true)/\Below w.heap.size w wr) (fun i _=>M - (intOf i).toNat)
  case atStart=>exact⟨0,Xb _,Yz,Z.out,Zr.alloc Ze _⟩
  case round =>
   obtain⟨k,l,rfl,j,m⟩:=hrel
   have g:Hid (Qo wr w.heap.size (List.replicate k true)):=j;have c:Hid (Below w.heap.size w wr):=m;clear j m Z;by_cases d:k<M
   ·obtain⟨r,s⟩:=h k d
    go_wp2_with fail
    refine(QcP g.out).mono ?_
    rintro e o ⟨rfl,a,b⟩
    have R:Hid (Qo o w.heap.size (List.replicate (k+1) true)/\Below w.heap.size w o):=by
     refine⟨by rw[<-QeT (by omega)];exact a,c.out.trans (b.below c.out.size fun k l=>by omega)⟩
    clear a b g c;go_wp2
    go_roundw
    case rel=>exact⟨k+1,by omega,by go_num,R.out⟩
    case measure=>simp[intOf];omega
   ·have t:¬ (k:Int)<n:=by omega
    have f:k=M:=by omega
    go_wp2
    go_ret;refine⟨Yz,?_,c.out⟩
    rw[E.out,<-f];exact g.out
theorem under16:prog.underlying 301=some (.array 16 4):=by kernel_rfl
theorem underB:prog.underlying 4=some .bool:=by kernel_rfl
theorem sizeB:(prog.info? 4).map (·.size)=some 1:=by kernel_rfl
theorem size16:(prog.info? 301).map (·.size)=some 16:=by kernel_rfl
theorem Qgb {b w9:World}{lo:Nat}(p:Qap Lay.int 3 b lo (.slice a xs.length c) xs cs) (i:-9223372036854775808<=x/\x<=9223372036854775807){o:Obj}(d:lo<=b.heap.size)
 (j:w9.ownsRow lo 3 1 (.slice (some ⟨g,0,none⟩) (xs.length+1) cap) (xs.length+1) (cs++[Iv x])) (e:(b.alloc o).grownBy w9 (Value.slice a xs.length c).ownBlock) (l:(Value.slice a xs.length c).ownBlock=some g\/g=b.heap.size+1) :
 Qap Lay.int 3 w9 lo (.slice (some ⟨g,0,none⟩) (xs.length+1) cap) (xs++[x]) (cs++[Iv x])/\∀ w,Below lo w b->Below lo w w9:=by
 have f:=p.below (Zd b o);have m:Lay.int.In (b.alloc o) (fun g=>lo<=g/\(Value.slice a xs.length c).ownBlock≠some g) x [Iv x]:=Lay.int_mk _ _ i;refine⟨Qap.push f m e (by simpa using l) j,fun w n=>(n.alloc d _).grown e (by simp;omega) (fun k h=>(f.lo_le h).1)⟩
def Qin (w:World) (l:List Int) (e:Ending) (w':World):Prop:=∃ a c,e=.returned (.slice a l.length c)/\intsL.In w' (fun g=>w.heap.size<=g) l [.slice a l.length c]/\Below w.heap.size w w'
theorem Qis (h:Qo w b L) :
 Calls prog 278 #[Pv b 0] w fun e w'=>Qin w (Qan L) e w':=by
 obtain⟨i0,hi,K,S,V⟩:=pInfoI
 have O:w.rangeAt b 0 ((List.range 16).map fun i=>Value.bool (L.getD i false)):=fun j v z=>by
  rw[XS] at z
  cases hj:(List.range 16)[j]? with
  | none=>rw[hj] at z;cases z
  | some k =>
    have x:j<16:=by have:=(Zi hj).1;simpa using this
    rw[List.getElem?_range x] at hj
    cases hj
    rw[List.getElem?_range x] at z
    simp only[Option.map_some,Option.some.injEq] at z
    rw[<-z,XK]
    exact h.mark x
 have E:Hid (hTo L 16=Qan L):=QmS L 16 h.1
 have l:∀ (k:Nat) (o:World),k<16->(Instr.index 301 (.agg ((List.range 16).map fun i=>Value.bool (L.getD i false)).toArray) (Iv (k:Int))).run prog o=.ok (.bool (L.getD k false)) o:=fun k o hk=>by
  have hp:(part 4 ((List.range 16).map fun i=>Value.bool (L.getD i false)).toArray (k*1)).run prog o=.ok (.bool (L.getD k false)) o:=by
   have hc:((List.range 16).map fun i=>Value.bool (L.getD i false)).toArray[k*1]?=some (.bool (L.getD k false)):=by
    simp[hk]
   simp only[part,isAgg,Sem.run_bind,run_underlying underB,Result.andThen_ok,Sem.run_pure,Bool.false_eq_true,if_false,hc]
  have y:(sizeOf 4).run prog o=.ok 1 o:=by
   have T:=sizeB
   cases hq:prog.info? 4 with
   | none=>simp[hq] at T
   | some i=>simp[hq] at T;simp[sizeOf,typeInfo,hq,T]
  have Q:(0:Int)<=(k:Int)/\(k:Int)<(16:Nat):=by omega
  simp only[Instr.index,asIntOf,Sem.run_bind,Sem.run_pure,run_underlying under16,Result.andThen_ok,Q,and_self,if_true,y,Int.toNat_natCast,hp]
 have W:Hid ((prog.info? 301).map (·.size)=some ((List.range 16).map fun i=>Value.bool (L.getD i false)).length):=by show _=_;rw[XN,List.length_range];exact size16
 have HR:Hid (w.rangeAt b 0 ((List.range 16).map fun i=>Value.bool (L.getD i false))):=O;generalize ((List.range 16).map fun i=>Value.bool (L.getD i false))=M at O l HR W;clear O;clear h;go_enter func278,ntmps278
 go_wp2_with (refine wpList_load_mid Yz 301 (.tmp 8) Yz b 0 Yz M _ HR.out under16 Yz W.out ?_)
 go_loopw [3,10] (fun v u wr=>∃ k s,u=Iv (k:Nat)/\k<=16/\Qap Lay.int 3 wr w.heap.size v (hTo L k) s/\Below w.heap.size w wr) (fun _ u _=>16 - (intOf u).toNat)
 case atStart=>exact⟨0,[],Yz,by omega,Qap.nil _ _ _ _,Zr⟩
 case round =>
  obtain⟨k,s,rfl,hk,P,R⟩:=hrel
  obtain⟨a,c,rfl⟩:=P.formP
  have A:Hid (Qap Lay.int 3 wr w.heap.size (.slice a (hTo L k).length c) (hTo L k) s):=P;have G:Hid (Below w.heap.size w wr):=R;have r:=QhF L k;have y:w.heap.size<=wr.heap.size:=R.size;clear P R;by_cases N:k<16
  ·have aa:(k:Int)<16:=by omega
   have p:=fun o=>l k o N;clear l
   cases hm:L.getD k false with
   | false =>
     have D:Hid (hTo L (k+1)=hTo L k):=by show _=_;rw[hTo,hm];simp
     rw[hm] at p
     clear hm;go_wp2
     go_roundw
     case rel=>exact⟨k+1,s,by go_num,by omega,by rw[D.out];exact A.out,G.out⟩
     case measure=>simp[intOf];omega
   | true =>
     have D:Hid (hTo L (k+1)=hTo L k++[(k:Int)]):=by show _=_;rw[hTo,hm];simp
     rw[hm] at p
     have d:Hid (wr.ownsRow w.heap.size 3 1 (.slice a (hTo L k).length c) (hTo L k).length s):=A.out.own
     have U:Hid (∀ g t m,m.ownsRow w.heap.size 3 1 (.slice (some ⟨g,0,none⟩) ((hTo L k).length+1) t) ((hTo L k).length+1) (s++[Iv (k:Int)])->(wr.alloc (.cells #[Iv (k:Int)] 3)).grownBy m (Value.slice a (hTo L k).length c).ownBlock->((Value.slice a (hTo L k).length c).ownBlock=some g\/g=wr.heap.size+1) ->
      Qap Lay.int 3 m w.heap.size (.slice (some ⟨g,0,none⟩) ((hTo L k).length+1) t) (hTo L (k+1)) (s++[Iv (k:Int)])/\Below w.heap.size w m):=by
      intro g t m H h2 h3;obtain⟨J,I⟩:=Qgb A.out (by omega) y H h2 h3
      rw[D.out]
      exact⟨J,I w G.out⟩
     have EL:Hid ((hTo L (k+1)).length=(hTo L k).length+1):=by show _=_;rw[D.out];simp
     clear hm A G D;generalize (hTo L k).length=n at d U EL r |-;go_wp2_with (at_builtin;refine wpList_append_lies _ Yz (.tmp 15) (.tmp 17) 76 Yz w.heap.size 3 i0 (Iv 0) 1 8 pUnderI hi K S V Yz (by decide) _ _ _ Yz (d.out.alloc _) ⟨wr.heap.size,0,none⟩ 1 1 [Iv (k:Int)] Yz Yz (QjN _ [_] _) (Qnr _) (by decide) (by unfold maxLen;omega) (by omega) (by simp;omega) (wr.heap.size+1) (by simp) ?_)
     intro X q m H f F C;obtain⟨J,I⟩:=U.out X q m H f F
     have A9:Hid (Qap Lay.int 3 m w.heap.size (.slice (some ⟨X,0,none⟩) (n+1) q) (hTo L (k+1)) (s++[Iv (k:Int)])):=J;have B9:Hid (Below w.heap.size w m):=I;clear H f F C d U J I;go_wp2
     go_roundw
     case rel=>exact⟨k+1,_,by go_num,by omega,A9.out,B9.out⟩
     case measure=>simp[intOf];omega
  ·have B:k=16:=by omega
   subst B
   have Z:Hid (Qin w (Qan L) (.returned (.slice a (hTo L 16).length c)) wr):=by
    rw[E.out]
    refine⟨a,c,Yz,?_,G.out⟩
    have:=A.out.lay
    rw[E.out] at this
    exact this
   clear A G l r;generalize (hTo L 16).length=n at Z;go_wp2
   go_ret;exact Z.out
theorem eqGuard16:prog.eqGuardType prog.depth 301=false:=by kernel_rfl
theorem Qjn (f:Nat->Bool){c:Array Value}(e:c.size=16):((w.alloc (.cells c t)).setCells w.heap.size 0 ((List.range 16).map fun i=>Value.bool (f i)).toArray.toList).rowIs w.heap.size t 16 (fun i=>.bool (f i)):=by
 have b:Blk (w.alloc (.cells c t)) w.heap.size ([]++c.toList).toArray t:=by rw[List.nil_append,Array.toArray_toList];exact Qe w c t
 have d:=Blk.sets ((List.range 16).map fun i=>Value.bool (f i)) [] c.toList (w.alloc (.cells c t)) (by simp[e]) b;refine⟨_,d,by simp,fun i a=>?_⟩
 simp[a]
theorem QfR {f:Nat->Bool}(h:w.rowIs b t 16 (fun i=>.bool (f i))):w.rangeAt b 0 ((List.range 16).map fun i=>Value.bool (f i)):=fun j v c=>by
 rw[XS] at c
 cases hj:(List.range 16)[j]? with
 | none=>rw[hj] at c;cases c
 | some k =>
   have a:j<16:=by have:=(Zi hj).1;simpa using this
   rw[List.getElem?_range a] at hj
   cases hj
   rw[List.getElem?_range a] at c
   simp only[Option.map_some,Option.some.injEq] at c
   rw[<-c,XK]
   exact h.cell a
theorem Qo.marks (h:Qo w b L):w.rangeAt b 0 ((List.range 16).map fun i=>Value.bool (L.getD i false)):=fun j v c=>by
 rw[XS] at c
 cases hj:(List.range 16)[j]? with
 | none=>rw[hj] at c;cases c
 | some k =>
   have a:j<16:=by have:=(Zi hj).1;simpa using this
   rw[List.getElem?_range a] at hj
   cases hj
   rw[List.getElem?_range a] at c
   simp only[Option.map_some,Option.some.injEq] at c
   rw[<-c,XK]
   exact h.mark a
theorem Qib (f:Nat->Bool):((List.range 16).map fun i=>Value.bool (f i)).toArray.all (·.oneCell')=true :=
 all_oneCell_toArray fun v a=>by obtain⟨i,_,rfl⟩:=List.mem_map.1 a;rfl
theorem QjG (w:World) (t:TypeId) (c:Array Value) (n:Nat) (b:n<=c.size):(w.alloc (.cells c t)).there w.heap.size 0 n:=fun j a=>by
 have h:=Qe w c t;rw[XK]
 refine⟨?_,Qj h j⟩
 rw[Qb h j c[j] (by simp)];rfl
theorem Qij (hN:l.length=N) (ad:N<=100000) (hl:intsL.In w Q l [.slice a N c]) (h:Qo w b L) :
 Calls prog 286 #[Pv b 0,.slice a N c] w fun e w'=>e=.returned (Iv (hPass L [] l))/\Below w.heap.size w w':=by
 have HX:Hid (∀ i x,l[i]?=some x->∃ g o,a=some ⟨g,o,none⟩/\g<w.heap.size/\w.cell? ⟨g,o+i,none⟩=some (Iv x)):=fun i x A=>by
  obtain⟨g,o,ds,e1,e2,e3,hc,hd,S⟩:=Yf hl A
  have aa:ds=[Iv x]:=hd;subst aa;refine⟨g,o,e1,e3,?_⟩
  have:=hc 0 (by decide)
  simpa[Lay.int] using this
 have M:Hid (l.length=N):=hN;have HL:Hid (L.length<=16):=h.1;have HH:Hid (Qo w b L):=h
 have s:Hid (w.rangeAt b 0 ((List.range 16).map fun i=>Value.bool (Zz L [] i))):=by
  have:=h.marks
  simp only[<-Qje] at this
  exact this
 have y:Hid ((prog.info? 301).map (·.size)=some ((List.range 16).map fun i=>Value.bool (Zz L [] i)).length):=by show _=_;rw[XN,List.length_range];exact size16
 have T:Hid ((prog.info? 301).map (·.size)=some ((List.range 16).map fun i=>Value.bool (Zz L [] i)).toArray.size):=by show _=_;rw[List.size_toArray,XN,List.length_range];exact size16
 have V:Hid (((List.range 16).map fun i=>Value.bool (Zz L [] i)).toArray.all (·.oneCell')=true):=Qib _
 have X:Hid ((w.alloc (.cells #[.bool false,.bool false,.bool false,.bool false,.bool false,.bool false,.bool false,.bool false,.bool false,.bool false,.bool false,.bool false,.bool false,.bool false,.bool false,.bool false] 301)).there w.heap.size 0 ((List.range 16).map fun i=>Value.bool (Zz L [] i)).toArray.size):=by
  refine QjG w _ _ _ ?_;rw[List.size_toArray,XN,List.length_range]
  exact Ze
 have W:Hid (((w.alloc (.cells #[.bool false,.bool false,.bool false,.bool false,.bool false,.bool false,.bool false,.bool false,.bool false,.bool false,.bool false,.bool false,.bool false,.bool false,.bool false,.bool false] 301)).setCells w.heap.size 0 ((List.range 16).map fun i=>Value.bool (Zz L [] i)).toArray.toList).rowIs w.heap.size 301 16 (fun i=>.bool (Zz L [] i))):=Qjn _ Z
 have R:Hid (Below w.heap.size w ((w.alloc (.cells #[.bool false,.bool false,.bool false,.bool false,.bool false,.bool false,.bool false,.bool false,.bool false,.bool false,.bool false,.bool false,.bool false,.bool false,.bool false,.bool false] 301)).setCells w.heap.size 0 ((List.range 16).map fun i=>Value.bool (Zz L [] i)).toArray.toList)):=by
  have:=Qz.setCells (O:=fun k=>k=w.heap.size) (O':=fun k=>k=w.heap.size) (b:=w.heap.size) Z ((List.range 16).map fun i=>Value.bool (Zz L [] i)).toArray.toList 0 _ ((Qz.refl _ w).alloc (.cells #[.bool false,.bool false,.bool false,.bool false,.bool false,.bool false,.bool false,.bool false,.bool false,.bool false,.bool false,.bool false,.bool false,.bool false,.bool false,.bool false] 301))
  exact this.below Ze (fun k hk=>by omega)
 clear h hl hN;generalize ((List.range 16).map fun i=>Value.bool (Zz L [] i))=m at s y T V X W R;go_enter func286,ntmps286
 go_wp2_with (first | (refine wpList_load_mid Z 301 (.tmp 10) Z b 0 Z m _ s.out under16 Z y.out ?_) | (refine wpList_store_mid Z 301 (.tmp 5) (.tmp 11) Z w.heap.size 0 m.toArray Z Z X.out T.out V.out ?_))
 go_loopw [14] (fun u wr=>∃ k,u=Iv (k:Nat)/\k<=N/\wr.rowIs w.heap.size 301 16 (fun i=>.bool (Zz L (l.take k) i))/\Below w.heap.size w wr/\hPass L [] l=hPass L (l.take k) (l.drop k)) (fun u _=>N - (intOf u).toNat)
 case atStart=>exact⟨0,Z,Xb _,W.out,R.out,Z⟩
 case round =>
  obtain⟨k,rfl,hk,S,hB,hp⟩:=hrel
  have D:Hid (wr.rowIs w.heap.size 301 16 (fun i=>.bool (Zz L (l.take k) i))):=S;have t:Hid (Below w.heap.size w wr):=hB;have I:Hid (hPass L [] l=hPass L (l.take k) (l.drop k)):=hp;clear S hB hp W R s y T V X;by_cases G:k<N
  ·have f:l[k]?=some (l[k]'(by rw[M.out];exact G)):=Zg _;generalize l[k]'(by rw[M.out];exact G)=x at f;obtain⟨g,o,rfl,hg,K⟩:=HX.out k x f
   have ae:wr.cell? ⟨g,o+k,none⟩=some (Iv x):=(t.out.cell (p:=⟨g,o+k,none⟩) hg).trans K;have H:(k:Int)<N:=by omega
   have q:=Qg2 L l f;rw[<-I.out] at q
   have C:Hid (Calls prog 272 #[Pv b 0,Iv x] wr fun e w'=>e=.returned (.bool (hHas L x))/\w'=wr):=Qcy x (HH.out.below t.out)
   cases hh:hHas L x with
   | false =>
     rw[hh] at C q
     have E:Hid (hPass L [] l=10):=by show _=_;simpa using q
     clear q hh K f;go_wp2_with (go_at_call 272;refine(C.out).mono ?_;rintro e w' ⟨rfl,n⟩;have n:=n.symm;subst n)
     go_ret;exact⟨by rw[E.out];rfl,t.out⟩
   | true =>
     obtain⟨j,rfl,hj,hm⟩:=QaU hh
     rw[hh] at C q
     have F:j<16:=by have:=HL.out;omega
     have ab:(j:Int)<16:=by omega
     have U:wr.cell? ⟨w.heap.size,j,none⟩=some (.bool (Zz L (l.take k) j)):=D.out.cell F;have fj:∀ i,wr.frozen? ⟨w.heap.size,i,none⟩=false:=D.out.frozen;have P:Zz L (l.take k) j=!inB (l.take k) (j:Int):=by rw[Zz,hm,Bool.true_and]
     rw[P] at U
     cases A:inB (l.take k) (j:Int) with
     | true =>
       rw[A] at q U
       have E:Hid (hPass L [] l=13):=by show _=_;simpa using q
       clear q hh K f P A hm;go_wp2_with (go_at_call 272;refine(C.out).mono ?_;rintro e w' ⟨rfl,n⟩;have n:=n.symm;subst n)
       go_ret;exact⟨by rw[E.out];rfl,t.out⟩
     | false =>
       rw[A] at q U
       have E:Hid (hPass L [] l=hPass L (l.take (k+1)) (l.drop (k+1))):=by show _=_;simpa using q
       have ET:l.take (k+1)=l.take k++[(j:Int)]:=by rw[XV,f];rfl
       have RN:Hid ((wr.setCell ⟨w.heap.size,j,none⟩ (.bool false)).rowIs w.heap.size 301 16 (fun i=>.bool (Zz L (l.take (k+1)) i))):=by
        refine(D.out.set j (.bool false)).congr fun i A=>?_
        rw[ET,Qha]
        by_cases e:i=j
        ·rw[Xs e,Xs e]
        ·rw[Xr e,Xr e]
       have BN:Hid (Below w.heap.size w (wr.setCell ⟨w.heap.size,j,none⟩ (.bool false))):=t.out.setCell (p:=⟨w.heap.size,j,none⟩) Ze _;clear q hh K f P A hm ET D t I;go_wp2_with (go_at_call 272;refine(C.out).mono ?_;rintro e w' ⟨rfl,n⟩;have n:=n.symm;subst n)
       go_roundw
       case rel=>exact⟨k+1,by go_num,by omega,RN.out,BN.out,E.out⟩
       case measure=>simp[intOf];omega
  ·have H:¬ (k:Int)<N:=by omega
   have z:l.length<=k:=by rw[M.out];omega
   have v:=Qim L l z;rw[<-I.out] at v
   have s:Hid (wr.rangeAt w.heap.size 0 ((List.range 16).map fun i=>Value.bool (Zz L (l.take k) i))):=QfR D.out;rw[XO z] at s
   have y:Hid ((prog.info? 301).map (·.size)=some ((List.range 16).map fun i=>Value.bool (Zz L l i)).length):=by show _=_;rw[XN,List.length_range];exact size16
   have B:∀ J,(Op.equalIn 10000 301 (.agg ((List.range 16).map fun i=>Value.bool (Zz L l i)).toArray) (.agg #[.bool false,.bool false,.bool false,.bool false,.bool false,.bool false,.bool false,.bool false,.bool false,.bool false,.bool false,.bool false,.bool false,.bool false,.bool false,.bool false])).run prog J=.ok ((Qan L).all (fun r=>inB l r)) J:=fun J=>by
    have:=Qb3 (d:=9998) under16 underB sizeB J ((List.range 16).map (Zz L l)) (List.replicate 16 false) (by simp) (by simp)
    rw[List.map_map] at this
    refine Eq.trans this ?_;congr 1
    rw[Bool.eq_iff_iff,beq_iff_eq]
    exact Qhh HL.out
   generalize ((List.range 16).map fun i=>Value.bool (Zz L l i))=m at s y B;have ac:=eqGuard16;clear I D HX z
   cases hq:(Qan L).all (fun r=>inB l r) with
   | true =>
     rw[hq] at B v
     have E:Hid (hPass L [] l=0):=by show _=_;simpa using v
     clear v hq;go_wp2_with (refine wpList_load_mid Z 301 (.tmp 5) Z w.heap.size 0 Z m _ s.out under16 Z y.out ?_)
     go_ret;exact⟨by rw[E.out];rfl,t.out⟩
   | false =>
     rw[hq] at B v
     have E:Hid (hPass L [] l=12):=by show _=_;simpa using v
     clear v hq;go_wp2_with (refine wpList_load_mid Z 301 (.tmp 5) Z w.heap.size 0 Z m _ s.out under16 Z y.out ?_)
     go_ret;exact⟨by rw[E.out];rfl,t.out⟩
theorem QI {a:World}(h:Below B a w) (n:Nat):Below B a (w.drewN n):=⟨h.os,h.tape,h.output,h.size,h.block⟩
theorem Qa {p:Prop}(h:p):Hid p:=h
theorem Qjy (h:intsL.In w Q l [.slice a N c])(hi:i<=l.length) (c':Nat):intsL.In w Q (l.take i) [.slice a i c']:=by
 obtain⟨g,d,e,f⟩:=h
 simp only[List.cons.injEq,Value.slice.injEq,and_true] at e
 obtain⟨rfl,_,rfl⟩:=e
 refine⟨a,c',by simp[Nat.min_eq_left hi],fun j x b=>f j x ?_⟩
 rw[XR] at b
 split at b
 ·exact b
 ·cases b
abbrev Qgi (x:MBlock 6) (b:BP):Array Value:=#[Iv x.regs,.slice b.pP x.params.length b.cP,.slice b.pC x.code.length b.cC,Iv x.fin.op,Iv x.fin.a,Iv x.fin.yes.block,.slice b.e.pYR x.fin.yes.regs.length b.e.cYR,.slice b.e.pYA x.fin.yes.args.length b.e.cYA,Iv x.fin.no.block,.slice b.e.pNR x.fin.no.regs.length b.e.cNR,.slice b.e.pNA x.fin.no.args.length b.e.cNA,.slice b.e.pA x.fin.args.length b.e.cA]
abbrev zeroB:Array Value:=#[Iv 0,Nv,Nv,Iv 0,Iv 0,Iv 0,Nv,Nv,Iv 0,Nv,Nv,Nv]
theorem Qmz (x:MBlock 6) (b:BP):(Qgi x b).all (·.oneCell')=true:=by
 show ([Iv x.regs,.slice b.pP x.params.length b.cP,.slice b.pC x.code.length b.cC,Iv x.fin.op,Iv x.fin.a,Iv x.fin.yes.block,.slice b.e.pYR x.fin.yes.regs.length b.e.cYR,.slice b.e.pYA x.fin.yes.args.length b.e.cYA,Iv x.fin.no.block,.slice b.e.pNR x.fin.no.regs.length b.e.cNR,.slice b.e.pNA x.fin.no.args.length b.e.cNA,.slice b.e.pA x.fin.args.length b.e.cA]:List Value).toArray.all (·.oneCell')=true;exact all_oneCell_toArray (Xe.1 Z)
theorem QjV {c:Array Value}(h:Blk w R c 86) (a:c.size=12) (x:MBlock 6) (b:BP):w.there R 0 (Qgi x b).size:=h.there (by rw[a];exact Nat.le_of_eq Z)
theorem Qmt (h:Blk w R zeroB 86) (x:MBlock 6) (b:BP):Blk (w.setCells R 0 (Qgi x b).toList) R (Qgi x b) 86:=Blk.sets (Qgi x b).toList [] zeroB.toList w Z h
theorem QeM {B:Nat}{a:World}{R:Nat}(b:B<=R):∀ (vs:List Value) (o:Nat){w:World},Below B a w->Below B a (w.setCells R o vs)
 | [],_,_,h=>h
 | v::vs,o,w,h=>QeM b vs (o+1) (h.setCell (p:=⟨R,o,none⟩) b v)
theorem Qfv {l l2:List Oper}{outs:List Tmp}{gs:List (Nat × Option Bool)}{a:Act}{Q:Exit->Act->World->Prop}
 (E:Tmp->Value->World->Prop) (W:World->Prop) (R:World->World->Prop) (PX:List PanicEntry->World->Prop) (J:∀ ch a' w,a'.defers=a.defers->PX ch w->Q (.panic ch) a' w)
 (K:P.follows .mixedOrders=true)  (z:a.tmps.size=m) (c:n<=m) (I:QaQ l n outs gs bs=true)
 (p:(Qcu 0 (l++l2)&&(Qbv l.length l&&QaM (l++l2) l.length l2))=true)
 (B:∀ t v w w',R w w'->E t v w->E t v w') (s:ZK E l.toArray gs) (g:W w.drew) (D:Qak E a w.drew outs)
 (G:AllOkC E W R PX P l bs)
 (b:∀ (vs:Tmp->Value) w',W w'->(∀ t,(Qt l).contains t=true->E t (vs t) w')->wpList P (l++l2).toArray Q l2 (QM a vs (Qt l)) w') :
 (Code.region id (l++l2).toArray true).wp P Q a w:=by
 simp only[Bool.and_eq_true] at p
 obtain⟨f,d,k⟩:=p
 refine wp_region_any K ?_
 have i:wpAny P .any l.toArray (Exit.then (fun a w=>wpList P (l++l2).toArray Q l2 a w) Q) l.length (Array.replicate l.length false) a w.drew:=by
  have u:(fun j=>(Array.replicate l.length false).getD j false)=fun _=>false:=by
   funext j
   rw[Za,Array.getElem?_replicate]
   split<;>rfl
  refine Qbt (E:=fun _=>E) (W:=fun _=>W) (PX:=PX) (Q:=Exit.then (fun a w=>wpList P (l++l2).toArray Q l2 a w) Q) (a0:=a) (outs:=outs) (gs:=gs) (bs:=bs) (fun ch a' w' y A=>J ch a' w' y A) (Qat (z ▸ c) I) (fun _=>s) (QgM B l bs 0 G) (fun vs S w' _ g H=>b vs w' g H) _ _ _ _ (by simp) ?_ ⟨g,(by rw[u];intro j o _ h;cases h),Z,Z,fun _ _=>rfl,fun t r _=>Qa3 outs D t r,?_⟩
  ·simp only[Array.toList_replicate]
   exact Zt (List.length_filter_le _ _) (by simp)
  ·intro j o t N L F;simp[Array.getD] at F
 have:=Qbo (Q:=Q) f d k l.length (Array.replicate l.length false) a w.drew (by simp) (fun q o M x=>by simp[Array.getD] at x) i
 have e:(Array.replicate l.length false++Array.replicate l2.length false:Array Bool)=Array.replicate (l++l2).toArray.size false:=by
  simp
 have C:l.length+l2.length=(l++l2).toArray.size:=by simp
 rw[e,C] at this
 exact this
theorem ZN {lo:List Oper}{outs:List Tmp}{gs:List (Nat × Option Bool)}{a:Act}{Q:Exit->Act->World->Prop}
 (k:Nat) (E:Tmp->Value->World->Prop) (W:World->Prop) (R:World->World->Prop) (PX:List PanicEntry->World->Prop) (d:∀ ch a' w,a'.defers=a.defers->PX ch w->Q (.panic ch) a' w)
 (e:P.follows .mixedOrders=true)  (g:a.tmps.size=m) (c:n<=m) (f:QaQ (lo.take k) n outs gs bs=true)
 (q:(Qcu 0 lo&&(Qbv (lo.take k).length (lo.take k)&&QaM lo (lo.take k).length (lo.drop k)))=true)
 (i:∀ t v w w',R w w'->E t v w->E t v w') (o:ZK E (lo.take k).toArray gs) (j:W w.drew) (p:Qak E a w.drew outs)
 (r:AllOkC E W R PX P (lo.take k) bs)
 (b:∀ ops (vs:Tmp->Value) w',W w'->(∀ t,(Qt (lo.take k)).contains t=true->E t (vs t) w')->wpList P ops Q (lo.drop k) (QM a vs (Qt (lo.take k))) w') :
 (Code.region id lo.toArray true).wp P Q a w:=by
 have h:=Qfv (id:=id) (l:=lo.take k) (l2:=lo.drop k) (Q:=Q) E W R PX d e g c f (by rw[List.take_append_drop];exact q) i o j p r (b _);rwa [List.take_append_drop] at h
section
variable {w w' w2:World}{b most:Nat}{m:List (MFunc 6)}{M M' N:IM}{sc sa:Int}{g g1:MG}{e:Ending}
theorem iInfo64:∃ i,prog.info? 2=some i/\i.zero=some (Iv 0)/\i.size=1/\i.bytes=8:=by
 have h:(prog.info? 2).map (fun i=>(i.zero,i.size,i.bytes))=some (some (Iv 0),1,8):=by kernel_rfl
 cases e:prog.info? 2 with
 | none=>rw[e] at h;cases h
 | some i =>
   rw[e] at h
   simp only[Option.map_some,Option.some.injEq,Prod.mk.injEq] at h
   exact⟨i,Z,h.1,h.2.1,h.2.2⟩
theorem iUnder64:prog.underlying 25=some (.slice 2):=by kernel_rfl
end
theorem Qfq {l:List Oper}{S:Nat->Bool}(a:QgN l S){i:Nat}{o:Oper}(c:l[q]?=some o) (d:QdN l 30 o i=true) (b:S i=false):S q=false:=by
 cases h:S q with
 | false=>rfl
 | true =>
   have:S i=true:=QcY (all:=l) (S:=fun j=>S j=true) a 30 o d (a q o c h)
   rw[b] at this;cases this
theorem Qm7 {i:Nat}{S:Nat->Bool}(h:j≠i):Qcr i S j=S j:=by
 have:(j==i)=false:=by simpa using h
 unfold Qcr;rw[this,Bool.false_or]
theorem QnW {i:Nat}{S:Nat->Bool}:Qcr i S i=true:=by simp[Qcr]
def WY (w6:World) (HP:World->Prop) (hk:Nat) (S:Nat->Bool) (w:World):Prop:=(S hk=false/\Below w6.heap.size w6 w)\/(S hk=true/\HP w)
section
variable {Z:Nat}{w6 w w':World}{HP:World->Prop}{HZ:Nat->World->Prop}{hk st i:Nat}{S:Nat->Bool}{R:Q4->Prop}{v:Value}
theorem WY.pre (h:WY w6 HP hk S w) (a:S hk=false):Below w6.heap.size w6 w:=by
 rcases h with h | h
 ·exact h.2
 ·rw[a] at h;cases h.1
theorem WY.did (p:HP w'):WY w6 HP hk (Qcr hk S) w':=.inr ⟨QnW,p⟩
theorem WY.fin (h:WY w6 HP hk S w) (a:S hk=true):HP w:=by
 rcases h with h | h
 ·rw[a] at h;cases h.1
 ·exact h.2
end
abbrev Zq (x:Qs) (i:IP):Array Value:=#[Iv x.op,Iv x.a,Iv x.b,Iv x.c,Iv x.k,Iv x.n,.slice i.pR x.regs.length i.cR,.slice i.pA x.args.length i.cA]
def TRd (w:World) (Q:Nat->Prop) (a:Option Addr) (L:List (TT 6)):Prop :=
 ∀ i t,L[i]?=some t->∃ g a' c',a=some ⟨g,0,none⟩/\w.cell? ⟨g,i*3,none⟩=some (Iv t.kind)/\w.cell? ⟨g,i*3+1,none⟩=some (Iv t.r)/\w.cell? ⟨g,i*3+2,none⟩=some (.slice a' t.len c')/\TIn w Q t a'/\t.ok
section
variable {w w':World}{O O':Nat->Prop}{v:Value}{L:List (TT 6)}
theorem TRd.below (h:TRd w Q a L) (b:Below w.heap.size w w'):TRd w' Q a L:=fun i t n=>by
 obtain⟨g,k,m,e,d,f,j,l,o⟩:=h i t n
 have c:g<w.heap.size:=Xi w ⟨g,i*3,none⟩ d;exact⟨g,k,m,e,(b.cell (p:=⟨g,i*3,none⟩) c).trans d,(b.cell (p:=⟨g,i*3+1,none⟩) c).trans f,(b.cell (p:=⟨g,i*3+2,none⟩) c).trans j,l.below b,o⟩
end
theorem underTs:prog.underlying 80=some (.slice 105):=by kernel_rfl
theorem infoT:(prog.info? 105).map (fun i=>(i.zero,i.size,i.bytes))=some (some (.agg #[Iv 0,Iv 0,Nv]),3,40):=by kernel_rfl
theorem infoT_parts:∃ i,prog.info? 105=some i/\i.zero=some (.agg #[Iv 0,Iv 0,Nv])/\i.size=3/\i.bytes=40:=by
 have h:=infoT
 cases hi:prog.info? 105 with
 | none=>rw[hi] at h;cases h
 | some i=>rw[hi] at h;simp at h;exact⟨i,Z,h.1,h.2.1,h.2.2⟩
structure Bx2 (w wr:World) (k r:Int) (a:Option Addr) (len c:Nat):Prop where
 bel:Below w.heap.size w wr
 box:wr.heap[w.heap.size]?=some (.cells #[Iv k,Iv r,.slice a len c] 105 (0,0))
 res:wr.heap[w.heap.size+1]?=some (.cells #[Iv 0,Iv 0,Nv] 105 (0,0))
theorem Bx2.start (w:World) (k r:Int) (a:Option Addr) (len c:Nat):Bx2 w ((w.alloc (.cells #[Iv k,Iv r,.slice a len c] 105)).alloc (.cells #[Iv 0,Iv 0,Nv] 105)) k r a len c :=
 ⟨((Below.refl _ w).alloc Ze _).alloc (by simp) _,(Below.heap_alloc _ _ _ (by simp)).trans (Qe w _ _),by have:=Qe (w.alloc (.cells #[Iv k,Iv r,.slice a len c] 105)) #[Iv 0,Iv 0,Nv] 105;simpa using this⟩
theorem Bx2.below {wr:World}{k r:Int}{len:Nat}(h:Bx2 w wr k r a len c) (b:Below wr.heap.size wr w'):Bx2 w w' k r a len c :=
 ⟨h.bel.trans (b.mono h.bel.size),Qa1 h.box b,Qa1 h.res b⟩
theorem Bx2.stored {wr:World}{k r:Int}{len:Nat}(h:Bx2 w wr k r a len c) (d r':Int) (a':Option Addr) (b c':Nat) :
 (((wr.setCell ⟨w.heap.size+1,0,none⟩ (Iv d)).setCell ⟨w.heap.size+1,1,none⟩ (Iv r')).setCell ⟨w.heap.size+1,2,none⟩ (.slice a' b c')).heap[w.heap.size+1]?=some (.cells #[Iv d,Iv r',.slice a' b c'] 105 (0,0)) /\
 Below w.heap.size w (((wr.setCell ⟨w.heap.size+1,0,none⟩ (Iv d)).setCell ⟨w.heap.size+1,1,none⟩ (Iv r')).setCell ⟨w.heap.size+1,2,none⟩ (.slice a' b c')):=by
 refine⟨?_,((h.bel.setCell (by simp) _).setCell (by simp) _).setCell (by simp) _⟩
 have e:=Qh h.res 0 (Iv d);have f:=Qh e 1 (Iv r');have g:=Qh f 2 (.slice a' b c');simpa using g
def Qlf (w:World) (b:Option Addr) (m:Nat) (nm:Nat->Int):Prop:=∀ i,i<m->∃ g o,b=some ⟨g,o,none⟩/\w.cell? ⟨g,o+i,none⟩=some (Iv (nm i))
theorem Qlf.below {b:Option Addr}{a:Nat->Int}(h:Qlf w b m a) (k:Below w.heap.size w w'):Qlf w' b m a:=fun i d=>by
 obtain⟨g,o,e,c⟩:=h i d
 exact⟨g,o,e,(k.cell (p:=⟨g,o+i,none⟩) (Xi w ⟨g,o+i,none⟩ c)).trans c⟩
def Qn0 (o:Option Int) (e:Ending):Prop:=match o with
 | some v=>e=.returned (.tuple #[.int .i64 v,.bool true])
 | none=>e=.returned (.tuple #[.int .i64 0,.bool false])
theorem Qga (k r:Int) (a:Option Addr) (len c:Nat) (b:Option Addr) (m d:Nat) (f:Nat->Int) (w:World) (i:Qlf w b m f) :
 Calls prog 290 #[.agg #[Iv k,Iv r,.slice a len c],.slice b m d] w fun e w'=>Qn0 (ZJ m f k r) e/\Below w.heap.size w w':=by
 have p:Hid (Qlf w b m f):=i;clear i;by_cases h:k=1
 ·subst h;rw[show ZJ m f 1 r=some r by simp[ZJ]]
  go_enter func290,ntmps290
  go_wp2_with fail
  go_ret2;exact⟨Z,(Below.refl _ w).alloc Ze _⟩
 ·have u:(k==1)=false:=by simpa using h
  rcases (show r<0\/(0<=r/\(m:Int)<=r)\/(0<=r/\r<m) by omega) with l | ⟨l,s⟩|⟨l,s⟩
  ·rw[show ZJ m f k r=none by unfold ZJ;rw[Xr h,Xs (Or.inl l)]]
   clear h;go_enter func290,ntmps290
   go_wp2_with fail
   go_ret2;exact⟨Z,(Below.refl _ w).alloc Ze _⟩
  ·rw[show ZJ m f k r=none by unfold ZJ;rw[Xr h,Xs (Or.inr s)]]
   clear h;have t:¬ r<0:=by omega
   go_enter func290,ntmps290
   go_wp2_with fail
   go_ret2;exact⟨Z,(Below.refl _ w).alloc Ze _⟩
  ·obtain⟨j,rfl⟩:=Xc l
   obtain⟨g,o,rfl,q⟩:=p.out j (by omega)
   have x:g<w.heap.size:=Xi w ⟨g,o+j,none⟩ q;have t:¬ (j:Int)<0:=by omega
   have y:¬ (m:Int)<=j:=by omega
   by_cases n:f j<0
   ·rw[show ZJ m f k j=none by unfold ZJ;rw[Xr h,Xr (by omega),Xs (by simpa using n)]]
    clear h;generalize f j=v at q n;go_enter func290,ntmps290
    go_wp2_with fail
    go_ret2;exact⟨Z,(Below.refl _ w).alloc Ze _⟩
   ·rw[show ZJ m f k j=some (f j) by unfold ZJ;rw[Xr h,Xr (by omega),Xr (by simpa using n)];rfl]
    clear h;generalize f j=v at q n |-;go_enter func290,ntmps290
    go_wp2_with fail
    go_ret2;exact⟨Z,(Below.refl _ w).alloc Ze _⟩
structure QcB (w:World) (G len:Nat){n:Nat}(l:List (TT n)):Prop where
 row:∃ cur,w.heap[G]?=some (.cells cur 105 (0,0))/\cur.size=len*3/\∀ (i:Nat) (x:TT n),l[i]?=some x->∃ a c,cur[i*3]?=some (Iv x.kind)/\cur[i*3+1]?=some (Iv x.r)/\cur[i*3+2]?=some (.slice a x.len c)/\TIn w (Qcv (G+1)) x a
theorem QcB.below {len:Nat}{l:List (TT n)}(h:QcB w G len l) (b:Below w.heap.size w w'):QcB w' G len l:=by
 obtain⟨d,e,j,k⟩:=h.row
 refine⟨d,(b.block G (XC e)).trans e,j,fun i x f=>?_⟩
 obtain⟨a,c,m,p,g,o⟩:=k i x f
 exact⟨a,c,m,p,g,o.below b⟩
theorem QcB.lt {len:Nat}{l:List (TT n)}(h:QcB w G len l):G<w.heap.size:=by
 obtain⟨b,a,c,d⟩:=h.row
 exact XC a
theorem QcB.frozen {len:Nat}{l:List (TT n)}(h:QcB w G len l) (i:Nat):w.frozen? ⟨G,i,none⟩=false:=by
 obtain⟨b,a,c,d⟩:=h.row
 exact Qj a i
theorem QcB.has {len:Nat}{l:List (TT n)}(h:QcB w G len l) (i:Nat) (hi:i<len*3):∃ v,w.cell? ⟨G,i,none⟩=some v:=by
 obtain⟨a,b,c,d⟩:=h.row
 exact⟨a[i]'(by omega),Qb b i _ (Xj (by omega))⟩
theorem QcB.lin {len:Nat}{l:List (TT n)}(h:QcB w G len l):LIn w (Qcv G) l (some ⟨G,0,none⟩):=by
 obtain⟨j,b,q,g⟩:=h.row
 intro i x d;obtain⟨a,c,m,o,e,f⟩:=g i x d
 refine⟨G,0,a,c,Z,Ze,?_,?_,?_,f.mono (fun k p _=>by omega)⟩
 ·rw[XK];exact Qb b _ _ m
 ·rw[XK];exact Qb b _ _ o
 ·rw[XK];exact Qb b _ _ e
theorem QcB.set {len:Nat}{l:List (TT n)}(h:QcB w G len l) (C:l.length=q) (E:q<len){x:TT n}(k:TIn w (Qcv (G+1)) x a) :
 QcB (((w.setCell ⟨G,q*3,none⟩ (Iv x.kind)).setCell ⟨G,q*3+1,none⟩ (Iv x.r)).setCell ⟨G,q*3+2,none⟩ (.slice a x.len c)) G len (l++[x]):=by
 obtain⟨u,m,s,v⟩:=h.row
 have B:=Qh m (q*3) (Iv x.kind);have p:=Qh B (q*3+1) (Iv x.r);have j:=Qh p (q*3+2) (.slice a x.len c)
 have f:∀ {y:TT n} {b:Option Addr},TIn w (Qcv (G+1)) y b->TIn (((w.setCell ⟨G,q*3,none⟩ (Iv x.kind)).setCell ⟨G,q*3+1,none⟩ (Iv x.r)).setCell ⟨G,q*3+2,none⟩ (.slice a x.len c)) (Qcv (G+1)) y b :=
  fun e=>((e.setCell (by simp) _).setCell (by simp) _).setCell (by simp) _
 refine⟨_,j,by simp[s],fun i y e=>?_⟩
 rw[List.getElem?_append] at e
 split at e
 ·rename_i A
  obtain⟨b,d,z,D,o,t⟩:=v i y e
  refine⟨b,d,?_,?_,?_,f t⟩
  ·simp only[Array.getElem?_setIfInBounds]
   rw[Xr (by omega),Xr (by omega),Xr (by omega)];exact z
  ·simp only[Array.getElem?_setIfInBounds]
   rw[Xr (by omega),Xr (by omega),Xr (by omega)];exact D
  ·simp only[Array.getElem?_setIfInBounds]
   rw[Xr (by omega),Xr (by omega),Xr (by omega)];exact o
 ·rename_i A
  have g:i=q:=by
   have:=(Zi e).1
   simp at this
   omega
  subst g;simp[C] at e
  subst e;refine⟨a,c,?_,?_,?_,f k⟩
  ·simp only[Array.getElem?_setIfInBounds,Array.size_setIfInBounds]
   rw[Xr (by omega),Xr (by omega),Xs Y,Xs (by omega)]
  ·simp only[Array.getElem?_setIfInBounds,Array.size_setIfInBounds]
   rw[Xr (by omega),Xs Y,Xs (by omega)]
  ·simp only[Array.getElem?_setIfInBounds,Array.size_setIfInBounds]
   rw[Xs Y,Xs (by omega)]
abbrev zeroT:Value:=.agg #[Iv 0,Iv 0,Nv]
def Qgf {n:Nat}(w w':World) (o:Option (TT n)) (e:Ending):Prop:=match o with
 | some u=>∃ a' c',e=.returned (.tuple #[Tv u a' c',.bool true])/\TIn w' (Qcv w.heap.size) u a'/\Below w.heap.size w w'
 | none=>e=.returned (.tuple #[zeroT,.bool false])/\Below w.heap.size w w'
def QmK (f n:Nat):Prop:=∀ (t:TT n) (a:Option Addr) (c:Nat) (b:Option Addr) (m d:Nat) (nm:Nat->Int) (w:World),TIn w All t a->t.count<=2000->Qlf w b m nm ->
 Calls prog f #[Tv t a c,.slice b m d] w fun e w'=>Qgf w w' (t.ren m nm) e
theorem Qh1 (w:World) (len:Nat) (h:len<=2000):(Instr.makeSlice 80 (Iv len) (Iv len)).run prog w=.ok (.slice (some ⟨w.heap.size,0,none⟩) len len) (w.alloc (.cells (madeCells #[Iv 0,Iv 0,Nv] (len*3)) 105)):=by
 obtain⟨e,d,a,b,c⟩:=infoT_parts
 have:=run_make (P:=prog) w 80 105 e _ underTs d a .i64 .i64 len len (by omega) (by omega) (by rw[c];omega) (by omega)
 rw[b] at this
 exact this
structure RnX (w wr:World) (k r:Int) (a:Option Addr) (len c G:Nat){n:Nat}(l:List (TT n)):Prop where
 bx:Bx2 w wr k r a len c
 row:QcB wr G len l
 hG:w.heap.size+1<G
section
variable {w wr w':World}{k r:Int}{a:Option Addr}{len c G n:Nat}{l:List (TT n)}
theorem RnX.start (h:Bx2 w wr k r a len c):RnX w (wr.alloc (.cells (madeCells #[Iv 0,Iv 0,Nv] (len*3)) 105)) k r a len c wr.heap.size ([]:List (TT n)) :=
 ⟨h.below ((Below.refl _ wr).alloc Ze _),⟨_,Qe wr _ _,size_madeCells _ _,fun i x b=>by simp at b⟩,XC h.res⟩
theorem RnX.below (h:RnX w wr k r a len c G l) (b:Below wr.heap.size wr w'):RnX w w' k r a len c G l:=⟨h.bx.below b,h.row.below b,h.hG⟩
theorem Bx2.setG (h:Bx2 w wr k r a len c) (b:w.heap.size+1<G) (i:Nat) (v:Value):Bx2 w (wr.setCell ⟨G,i,none⟩ v) k r a len c :=
 ⟨h.bel.setCell (by simp;omega) _,(Xd _ _ _ _ (by simp;omega)).trans h.box,(Xd _ _ _ _ (by simp;omega)).trans h.res⟩
theorem RnX.set (h:RnX w wr k r a len c G l)(e:l.length=q) (b:q<len){x:TT n}{a':Option Addr}{c':Nat}(d:TIn wr (Qcv (G+1)) x a') :
 RnX w (((wr.setCell ⟨G,q*3,none⟩ (Iv x.kind)).setCell ⟨G,q*3+1,none⟩ (Iv x.r)).setCell ⟨G,q*3+2,none⟩ (.slice a' x.len c')) k r a len c G (l++[x]) :=
 ⟨((h.bx.setG h.hG _ _).setG h.hG _ _).setG h.hG _ _,h.row.set e b d,h.hG⟩
end
theorem Qdm {a:Nat->Int}{n:Nat}{t:TT (n+1)}{r':Int}(d:ZJ m a t.kind t.r=some r'){l':List (TT n)}(c:ZV (TT.ren m a) t.2.2=some l'):t.ren m a=some (mkT t.kind r' l'):=by
 show (match ZJ m a t.1 t.2.1 with | none=>none | some r=>match ZV (TT.ren (n:=n) m a) t.2.2 with | none=>none | some l=>some ((t.1,r,l):Int × Int × List (TT n)))=_;have b:ZJ m a t.1 t.2.1=some r':=d;rw[b,c]
 rfl
theorem Qff {a:Nat->Int}{n:Nat}{t:TT (n+1)}(c:ZJ m a t.kind t.r=none):t.ren m a=none:=by
 show (match ZJ m a t.1 t.2.1 with | none=>none | some r=>match ZV (TT.ren (n:=n) m a) t.2.2 with | none=>none | some l=>some ((t.1,r,l):Int × Int × List (TT n)))=_;have b:ZJ m a t.1 t.2.1=none:=c;rw[b]
 rfl
theorem Qfn {a:Nat->Int}{n:Nat}{t:TT (n+1)}(b:ZV (TT.ren m a) t.2.2=none):t.ren m a=none:=by
 show (match ZJ m a t.1 t.2.1 with | none=>none | some r=>match ZV (TT.ren (n:=n) m a) t.2.2 with | none=>none | some l=>some ((t.1,r,l):Int × Int × List (TT n)))=_;rw[b]
 cases ZJ m a t.1 t.2.1<;>rfl
theorem rename_any:∀ n,QmK 285 n:=by
 intro n
 induction n with
 | zero=>intro t;exact Empty.elim t
 | succ n ih =>
   intro t a c b m d s w ht ae K;have IH:Hid (QmK 285 n):=ih;have aa:Hid (Qlf w b m s):=K;have hT:Hid (LIn w All t.2.2 a):=ht.list;have U:Hid (∀ x∈t.2.2,x.count<=2000):=fun x H=>by have:=t.count_kid H;omega
   have M:t.2.2.length<=2000:=by have:=t.len_lt_count;rw[t.len_eq] at this;omega
   have I:Hid (ZJ m s t.kind t.r=none->t.ren m s=none):=Qff;have S:Hid (ZV (TT.ren m s) t.2.2=none->t.ren m s=none):=Qfn;have J:Hid (∀ B h,ZJ m s t.kind t.r=some B->ZV (TT.ren m s) t.2.2=some h->t.ren m s=some (mkT t.kind B h)):=fun B h h1 h2=>Qdm h1 h2;generalize t.ren m s=R at I S J |-;simp only[Tv,TT.len_eq]
   generalize t.2.2=l at hT U M S J |-;generalize t.kind=k at I J |-;generalize t.r=r at I J |-;clear ht ae K ih t;go_enter func285,ntmps285
   go_wp2_with fail
   have X1:Hid (Bx2 w ((w.alloc (.cells #[Iv k,Iv r,.slice a l.length c] 105)).alloc (.cells #[Iv 0,Iv 0,Nv] 105)) k r a l.length c):=Bx2.start w k r a l.length c;generalize (w.alloc (.cells #[Iv k,Iv r,.slice a l.length c] 105)).alloc (.cells #[Iv 0,Iv 0,Nv] 105)=w1 at X1 |-;refine(Qga k r a l.length c b m d s w1 (aa.out.below X1.out.bel)).mono ?_
   rintro e L ⟨hr,b2⟩;have F:Hid (Bx2 w L k r a l.length c):=X1.out.below b2;clear X1 b2;have e2:L.cell? ⟨w.heap.size,2,none⟩=some (.slice a l.length c):=Qb F.out.box 2 _ Yz
   cases hrr:ZJ m s k r with
   | none =>
     rw[hrr] at hr
     obtain rfl:e=_:=hr;have z:R=none:=I.out hrr;subst z;have D:=F.out.stored 0 0 none 0 0;have DD:Hid (Below w.heap.size w _):=D.2;have g0:=Qb F.out.res 0 _ Yz;have g1:=Qb F.out.res 1 _ Yz;have g2:=Qb F.out.res 2 _ Yz;have z0:=Qj F.out.res 0;have z1:=Qj F.out.res 1;have z2:=Qj F.out.res 2;have x0:=Qb D.1 0 _ Yz;have x1:=Qb D.1 1 _ Yz;have W:=Qb D.1 2 _ Yz;clear D hrr I S J;go_wp2_with fail
     exact Xy (v:=.tuple #[zeroT,.bool false]) (by simp[results,results285,go_sem,x0,x1,W]) Yz ⟨Yz,DD.out⟩
   | some B =>
     rw[hrr] at hr
     obtain rfl:e=_:=hr;have HR:Hid (ZJ m s k r=some B):=hrr;clear hrr;have ad:=Qh1 L l.length M;have ag:w.heap.size<L.heap.size:=XC F.out.box;go_wp2_with fail
     have Y0:Hid (RnX w (L.alloc (.cells (madeCells #[Iv 0,Iv 0,Nv] (l.length*3)) 105)) k r a l.length c L.heap.size ([]:List (TT n))):=RnX.start F.out;generalize L.alloc (.cells (madeCells #[Iv 0,Iv 0,Nv] (l.length*3)) 105)=w3 at Y0 |-;generalize L.heap.size=G at Y0 |-;clear ad e2 F ag;go_loopw [27] (fun i wr=>∃ q:Nat,q<=l.length/\i=Iv q/\∃ h:List (TT n),h.length=q/\(∀ (j:Nat) x,j<q->l[j]?=some x->x.ren m s=h[j]?)/\RnX w wr k r a l.length c G h) (fun i _=>l.length - (intOf i).toNat)
     case atStart=>exact⟨0,Xb _,Yz,[],Yz,fun j x hj=>by omega,Y0.out⟩
     case round =>
      clear Y0;obtain⟨q,hq,rfl,h,V,N,hY⟩:=hrel
      have A:Hid (h.length=q/\∀ (j:Nat) x,j<q->l[j]?=some x->x.ren m s=h[j]?):=⟨V,N⟩;have Y:Hid (RnX w wr k r a l.length c G h):=hY;clear V N hY;by_cases ab:q<l.length
      ·have H:l[q]?=some l[q]:=Zg ab;generalize l[q]=x at H;obtain⟨g,o,a',c',rfl,_,d0,d1,d2,hk⟩:=LIn.at (hT.out.below Y.out.bx.bel) H
       have hg:g<wr.heap.size:=Xi wr ⟨g,o+q*3,none⟩ d0;have P:Hid (l[q]?=some x):=H
       have C:Hid (∀ X,Below wr.heap.size wr X->Calls prog 285 #[Tv x a' c',.slice b m d] X fun e w'=>Qgf X w' (x.ren m s) e) :=
        fun X hb=>IH.out x a' c' b m d s X (hk.below hb) (U.out x (Zm H)) ((aa.out.below Y.out.bx.bel).below hb)
       clear hk H;simp only[Tv] at C
       generalize x.kind=kx at C d0;generalize x.r=rx at C d1;generalize x.len=lx at C d2;have ak:(0:Int)<=q:=by omega
       have ac:(q:Int)<l.length:=by omega
       have al:(q:Int)<2000:=by omega
       go_wp2_with fail
       have T:Below wr.heap.size wr (wr.alloc (.cells #[Iv kx,Iv rx,.slice a' lx c'] 105)):=(Below.refl _ wr).alloc Ze _;refine(C.out _ T).mono ?_
       rintro e w4 h4;clear C d0 d1 d2
       cases hxr:x.ren m s with
       | none =>
         rw[hxr] at h4
         obtain⟨rfl,b4⟩:=h4
         have z:R=none:=S.out (QeO P.out hxr);subst z;have f:=(Y.out.below T).below b4;have Q:q*3+2<l.length*3:=by omega
         obtain⟨v0,r0⟩:=f.row.has (q*3) (by omega)
         obtain⟨v1,r1⟩:=f.row.has (q*3+1) (by omega)
         obtain⟨v2,r2⟩:=f.row.has (q*3+2) (by omega)
         have z0:=f.row.frozen (q*3);have z1:=f.row.frozen (q*3+1);have z2:=f.row.frozen (q*3+2);have X5:=((f.bx.setG f.hG (q*3) (Iv 0)).setG f.hG (q*3+1) (Iv 0)).setG f.hG (q*3+2) (Nv);have D:=X5.stored 0 0 none 0 0;have DD:Hid (Below w.heap.size w _):=D.2;have g0:=Qb f.bx.res 0 _ Yz;have g1:=Qb f.bx.res 1 _ Yz;have g2:=Qb f.bx.res 2 _ Yz;have y0:=Qj f.bx.res 0;have y1:=Qj f.bx.res 1;have y2:=Qj f.bx.res 2;have x0:=Qb D.1 0 _ Yz;have x1:=Qb D.1 1 _ Yz;have W:=Qb D.1 2 _ Yz;have ai:¬ w.heap.size+1=G:=by have:=f.hG;omega
         have ah:¬ G=w.heap.size+1:=by have:=f.hG;omega
         clear D X5 f b4 T hxr A Y I S J Q;go_wp2_with fail
         exact Xy (v:=.tuple #[zeroT,.bool false]) (by simp[results,results285,go_sem,x0,x1,W]) Yz ⟨Yz,DD.out⟩
       | some u =>
         rw[hxr] at h4
         obtain⟨a4,c4,rfl,t4,b4⟩:=h4
         simp only[Tv]
         have f:=(Y.out.below T).below b4;have Q:q*3+2<l.length*3:=by omega
         obtain⟨v0,r0⟩:=f.row.has (q*3) (by omega)
         obtain⟨v1,r1⟩:=f.row.has (q*3+1) (by omega)
         obtain⟨v2,r2⟩:=f.row.has (q*3+2) (by omega)
         have z0:=f.row.frozen (q*3);have z1:=f.row.frozen (q*3+1);have z2:=f.row.frozen (q*3+2);have af:=Y.out.row.lt;have Y5:=f.set A.out.1 ab (x:=u) (a':=a4) (c':=c4) (t4.mono (fun k hk _=>by have:=T.size;simp at hk;omega))
         have Z:Hid (∃ h:List (TT n),h.length=q+1/\(∀ (j:Nat) x,j<q+1->l[j]?=some x->x.ren m s=h[j]?)/\RnX w (((w4.setCell ⟨G,q*3,none⟩ (Iv u.kind)).setCell ⟨G,q*3+1,none⟩ (Iv u.r)).setCell ⟨G,q*3+2,none⟩ (.slice a4 u.len c4)) k r (some ⟨g,o,none⟩) l.length c G h):=by
          refine⟨h++[u],by simp[A.out.1],fun j y hj hy=>?_,Y5⟩
          by_cases e:j=q
          ·subst e;rw[P.out] at hy
           cases hy
           rw[hxr,XQ (by have:=A.out.1;omega),A.out.1,Nat.sub_self]
           rfl
          ·rw[XP (by have:=A.out.1;omega)]
           exact A.out.2 j y (by omega) hy
         clear Y5 f b4 T hxr A Y I S Q t4 P af;generalize u.kind=ku at Z |-;generalize u.r=ru at Z |-;generalize u.len=lu at Z |-;go_wp2
         go_roundw
         case rel=>exact⟨q+1,by omega,by go_num,Z.out⟩
         case measure=>simp[intOf];omega
      ·have ac:¬ (q:Int)<l.length:=by omega
       have E:h.length=l.length:=by have:=A.out.1;omega
       have z:R=some (mkT k B h):=J.out B h HR.out (ZR.2 ⟨E,fun i x H=>A.out.2 i x (by have:=(Zi H).1;omega) H⟩);subst z;have e0:wr.cell? ⟨w.heap.size,0,none⟩=some (Iv k):=Qb Y.out.bx.box 0 _ Yz;have g0:=Qb Y.out.bx.res 0 _ Yz;have g1:=Qb Y.out.bx.res 1 _ Yz;have g2:=Qb Y.out.bx.res 2 _ Yz;have y0:=Qj Y.out.bx.res 0;have y1:=Qj Y.out.bx.res 1;have y2:=Qj Y.out.bx.res 2;have D:=Y.out.bx.stored k B (some ⟨G,0,none⟩) l.length l.length;have x0:=Qb D.1 0 _ Yz;have x1:=Qb D.1 1 _ Yz;have W:=Qb D.1 2 _ Yz;have aj:=Y.out.hG
       have O:Hid (Qgf w (((wr.setCell ⟨w.heap.size+1,0,none⟩ (Iv k)).setCell ⟨w.heap.size+1,1,none⟩ (Iv B)).setCell ⟨w.heap.size+1,2,none⟩ (.slice (some ⟨G,0,none⟩) l.length l.length)) (some (mkT k B h)) (.returned (.tuple #[.agg #[Iv k,Iv B,.slice (some ⟨G,0,none⟩) l.length l.length],.bool true]))):=by
        refine⟨some ⟨G,0,none⟩,l.length,?_,?_,D.2⟩
        ·show _=Ending.returned (.tuple #[.agg #[Iv k,Iv B,.slice (some ⟨G,0,none⟩) h.length l.length],.bool true]);rw[E]
        ·have:=((Y.out.row.lin.setCell (p:=⟨w.heap.size+1,0,none⟩) (by simp;omega) (Iv k)).setCell (p:=⟨w.heap.size+1,1,none⟩) (by simp;omega) (Iv B)).setCell (p:=⟨w.heap.size+1,2,none⟩) (by simp;omega) (.slice (some ⟨G,0,none⟩) l.length l.length)
         exact(LIn.tree this).mono (fun k hk _=>by omega)
       clear D A Y I S J E;go_wp2_with fail
       exact Xy (v:=.tuple #[.agg #[Iv k,Iv B,.slice (some ⟨G,0,none⟩) l.length l.length],.bool true]) (by simp[results,results285,go_sem,x0,x1,W]) Yz O.out
def ZM (e:Ending) (A:Prop):Prop:=∃ q:Bool,e=.returned (.bool q)/\(q=true↔A)
theorem ZM.yes {A:Prop}(h:A):ZM (.returned (.bool true)) A:=⟨true,Z,by simp[h]⟩
theorem ZM.no {A:Prop}(h:¬ A):ZM (.returned (.bool false)) A:=⟨false,Z,by simp[h]⟩
def QjF (f:Nat) (n:Nat):Prop:=∀ (t u:TT n) (a b:Option Addr) (c d:Nat) (w:World),TIn w All t a->TIn w All u b->t.count<=100000 ->
 Calls prog f #[Tv t a c,Tv u b d] w fun e w'=>ZM e (t=u)/\Below w.heap.size w w'
theorem TT.eq_iff {t u:TT (n+1)}:t=u↔t.kind=u.kind/\t.r=u.r/\t.2.2=u.2.2:=by
 obtain⟨a,b,c⟩:=t
 obtain⟨d,e,f⟩:=u
 constructor
 ·intro h;cases h;exact⟨Z,Z,Z⟩
 ·rintro ⟨rfl,rfl,rfl⟩;rfl
abbrev toV (x:MTo) (rg ag:Option Addr) (rc ac:Nat):Value:=.agg #[Iv x.block,.slice rg x.regs.length rc,.slice ag x.args.length ac]
theorem underBk:∃ fs,prog.underlying 86=some (.struct fs):=⟨_,underlying86⟩
theorem sizeBk:(prog.info? 86).map (·.size)=some 12:=by kernel_rfl
theorem Qbn {m:List (MBlock 6)}(h:(Zo 6).list.In w Q m [.slice p n c]){g:MBlock 6}(C:m[k]?=some g) :
 ∃ mg mo a1 c1 es,p=some ⟨mg,mo,none⟩/\w.rangeAt mg (mo+k*12) (Iv g.regs::.slice a1 g.params.length c1::es)/\es.length=10/\(Qp 6).In w Q g.params [.slice a1 g.params.length c1]/\∀ v∈es,v.oneCell'=true:=by
 obtain⟨mg,mo,ds,l,M,e3,f,q⟩:=Yf h C
 obtain⟨a1,c1,J,F,es,rfl,s,L,u,P⟩:=Qce q
 obtain⟨d1,I,S,N,rfl,A,D,U,R⟩:=Qgl u
 obtain⟨V,X,W,K,rfl,-,-,-⟩:=Qf5 A
 obtain⟨O,H,T,G,rfl,-,-,-⟩:=Qf5 D
 have d:∀ a,a.length=12->(∀ v∈a,v.oneCell'=true)->(∀ j,j<12->w.cell? ⟨mg,mo+k*12+j,none⟩=a[j]?)->∀ x y es,a=x::y::es->w.rangeAt mg (mo+k*12) (x::y::es)/\es.length=10/\∀ v∈es,v.oneCell'=true:=by
  intro a B r f x y es e;subst e;refine⟨fun j v i=>?_,by simpa using B,fun v b=>r v (by simp[b])⟩
  have z:=(Zi i).1;rw[f j (by omega),i]
 obtain⟨E,t,o⟩:=d _ Z (fun v b=>by
  simp only[List.mem_cons,List.cons_append,List.nil_append,List.not_mem_nil,or_false] at b
  rcases b with rfl | rfl | rfl | rfl | rfl | rfl | rfl | rfl | rfl | rfl | rfl | rfl<;>rfl) f _ _ _ Z
 exact⟨mg,mo,a1,c1,_,l,E,t,s,o⟩
theorem Z3 {o:Nat}(h:w.rangeAt b o cs) (k:Below w.heap.size w w'):w'.rangeAt b o cs:=fun j v a=>Qk (h j v a) k
theorem Qf {p:Prop}(h:p):Hid p:=h
structure FbS (w wx:World) (R:Nat) (l:List (Nat × Array Value × TypeId)):Prop where
 bel:Below w.heap.size w wx
 ge:w.heap.size<=R
 r:Blk wx R #[Iv 0,Iv 0] 32
 box:∀ (i:Nat) b,l[i]?=some b->Blk wx b.1 b.2.1 b.2.2
section
variable {w wx w':World}{R:Nat}{l:List (Nat × Array Value × TypeId)}
theorem FbS.below (h:FbS w wx R l) (k:Below wx.heap.size wx w'):FbS w w' R l :=
 ⟨h.bel.trans (k.mono h.bel.size),h.ge,h.r.below k,fun i b a=>(h.box i b a).below k⟩
theorem FbS.add (h:FbS w wx R l){c:Array Value}(d:Blk wx B c t):FbS w wx R ((B,c,t)::l) :=
 ⟨h.bel,h.ge,h.r,fun i b a=>by
  cases i with
  | zero=>cases a;exact d
  | succ i=>exact h.box i b a⟩
theorem FbS.new (h:FbS w wx R l) (c:Array Value) (t:TypeId):FbS w (wx.alloc (.cells c t)) R ((wx.heap.size,c,t)::l):=(h.below (Zd _ _)).add (Blk.new _ _ _)
theorem FbS.cells (h:FbS w wx R l):wx.cell? ⟨R,0,none⟩=some (Iv 0)/\wx.cell? ⟨R,1,none⟩=some (Iv 0)/\wx.frozen? ⟨R,0,none⟩=false/\wx.frozen? ⟨R,1,none⟩=false :=
 ⟨Qb h.r 0 _ Z,Qb h.r 1 _ Z,Qj h.r 0,Qj h.r 1⟩
theorem FbS.fin (h:FbS w wx R l) (c a:Int):Blk ((wx.setCell ⟨R,0,none⟩ (Iv c)).setCell ⟨R,1,none⟩ (Iv a)) R #[Iv c,Iv a] 32/\Below w.heap.size w ((wx.setCell ⟨R,0,none⟩ (Iv c)).setCell ⟨R,1,none⟩ (Iv a)) :=
 ⟨by have:=Qh (Qh h.r 0 (Iv c)) 1 (Iv a);simpa using this,(h.bel.setCell (p:=⟨R,0,none⟩) h.ge _).setCell (p:=⟨R,1,none⟩) h.ge _⟩
structure Qm1 (wx:World) (cs:List Value):Prop where
 size:(prog.info? 86).map (·.size)=some cs.length
 size2:(prog.info? 86).map (·.size)=some cs.toArray.size
 there:(wx.alloc (.cells #[Iv 0,Nv,Nv,Iv 0,Iv 0,Iv 0,Nv,Nv,Iv 0,Nv,Nv,Nv] 86)).there wx.heap.size 0 cs.toArray.size
 blk:Blk ((wx.alloc (.cells #[Iv 0,Nv,Nv,Iv 0,Iv 0,Iv 0,Nv,Nv,Iv 0,Nv,Nv,Nv] 86)).setCells wx.heap.size 0 cs) wx.heap.size cs.toArray 86
 bel:Below wx.heap.size wx ((wx.alloc (.cells #[Iv 0,Nv,Nv,Iv 0,Iv 0,Iv 0,Nv,Nv,Iv 0,Nv,Nv,Nv] 86)).setCells wx.heap.size 0 cs)
theorem Qm1.of (a:World)(c:cs.length=12):Qm1 a cs:=by
 have d:=Qe a #[Iv 0,Nv,Nv,Iv 0,Iv 0,Iv 0,Nv,Nv,Iv 0,Nv,Nv,Nv] 86;refine⟨by rw[c];exact pSizeB,by rw[List.size_toArray,c];exact pSizeB,fun j hj=>?_,?_,?_⟩
 ·rw[List.size_toArray,c] at hj
  rw[XK]
  refine⟨?_,Qj d j⟩
  rw[Qb d j ((#[Iv 0,Nv,Nv,Iv 0,Iv 0,Iv 0,Nv,Nv,Iv 0,Nv,Nv,Nv]:Array Value)[j]'hj) (by simp)];rfl
 ·have e:Blk (a.alloc (.cells #[Iv 0,Nv,Nv,Iv 0,Iv 0,Iv 0,Nv,Nv,Iv 0,Nv,Nv,Nv] 86)) a.heap.size ([]++(#[Iv 0,Nv,Nv,Iv 0,Iv 0,Iv 0,Nv,Nv,Iv 0,Nv,Nv,Nv]:Array Value).toList).toArray 86:=d;exact Blk.sets cs [] (#[Iv 0,Nv,Nv,Iv 0,Iv 0,Iv 0,Nv,Nv,Iv 0,Nv,Nv,Nv]:Array Value).toList _ (by rw[c];rfl) e
 ·have:=Qz.setCells (O:=fun k=>k=a.heap.size) (O':=fun k=>k=a.heap.size) (b:=a.heap.size) Z cs 0 _ (Qz.refl _ (a.alloc (.cells #[Iv 0,Nv,Nv,Iv 0,Iv 0,Iv 0,Nv,Nv,Iv 0,Nv,Nv,Nv] 86)))
  exact(Zd a _).trans (this.below (by simp) (fun k f=>by omega))
end
theorem underEnd:∃ fs,prog.underlying 84=some (.struct fs):=⟨_,underlying84⟩
theorem sizeEnd:(prog.info? 84).map (·.size)=some 9:=by kernel_rfl
abbrev QbW (x:ZA) (e:EP):Array Value:=#[Iv x.op,Iv x.a,Iv x.yes.block,.slice e.pYR x.yes.regs.length e.cYR,.slice e.pYA x.yes.args.length e.cYA,Iv x.no.block,.slice e.pNR x.no.regs.length e.cNR,.slice e.pNA x.no.args.length e.cNA,.slice e.pA x.args.length e.cA]
structure Qdq (w:World) (Q:Nat->Prop) (x:ZA) (e:EP):Prop where
 yr:intsL.In w Q x.yes.regs [.slice e.pYR x.yes.regs.length e.cYR]
 ya:intsL.In w Q x.yes.args [.slice e.pYA x.yes.args.length e.cYA]
 nr:intsL.In w Q x.no.regs [.slice e.pNR x.no.regs.length e.cNR]
 na:intsL.In w Q x.no.args [.slice e.pNA x.no.args.length e.cNA]
 ar:intsL.In w Q x.args [.slice e.pA x.args.length e.cA]
theorem Qdq.below {x:ZA}{e:EP}(h:Qdq w Q x e) (k:Below w.heap.size w w'):Qdq w' Q x e :=
 ⟨Ya h.yr k,Ya h.ya k,Ya h.nr k,Ya h.na k,Ya h.ar k⟩
theorem QaF {a:Nat}{t:MTo}(h:t.form a true=0):(0<=t.block/\t.block<a)/\t.regs.length<=16/\t.args.length<=8:=by
 unfold MTo.form at h;rw[Xr (by simp)] at h
 split at h
 ·cases h
 split at h
 ·cases h
 omega
theorem Xt:type_of% @decide_eq_true:=@decide_eq_true
section
variable {w w' w2:World}{b most n:Nat}{m:List (MFunc 6)}{M M' N:IM}{sc sa:Int}{g g1:MG}{e:Ending}
theorem Qer {a:Nat}{t:MTo}(h:t.form a true=0):0<=t.block/\t.block<(a:Int)/\t.regs.length<=16/\t.args.length<=8:=by
 unfold MTo.form at h;rw[Xr (by simp)] at h
 split at h
 ·cases h
 ·split at h
  ·cases h
  ·omega
theorem Qez {a:Nat}{x:ZA}(h:x.form a=0):(1<=x.op/\x.op<=3)/\x.args.length<=8/\(x.op≠3->x.yes.form a true=0)/\(x.op=2->x.no.form a true=0):=by
 unfold ZA.form at h;split at h
 ·cases h
 rename_i c
 split at h
 ·cases h
 split at h
 ·cases h
 rename_i d
 split at h
 ·rename_i b;exact absurd h b
 rename_i b
 refine⟨by omega,by omega,fun e=>?_,fun e=>?_⟩
 ·have:decide (x.op≠3)=true:=Xt e
  rw[this] at b
  exact Xq.1 b
 ·have:decide (x.op=2)=true:=Xt e
  rw[this] at h
  exact h
end
end Go.Proofs.YtjhdpajpibdnaafGreat
