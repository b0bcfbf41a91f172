import Derived.Test.YtjhdpajpibdnaafGreatP1
import Derived.Orders
import Derived.Deep.DeepCutAuto
import Derived.Deep.CutBlock
import Derived.Lib.MinMax
import Derived.Laws.CopyRow
import Derived.Laws.CopyOwn
import Derived.Maps.AppendAt
import Derived.Deep.RegionWith
set_option maxHeartbeats 16000000
set_option maxRecDepth 100000
namespace Go.Proofs.YtjhdpajpibdnaafGreat
open Go.ChangeShapes Go.WideShapes Go.ChangeAt Go.RowKit _root_.Go.Proofs.Tryz
set_option linter.unusedSimpArgs false
set_option linter.unusedVariables false
variable {w w' w6 w1 w2:World}{n b c k m rc ac X j B i cm g N d f fi cap bp q R pages id bi cc funcs s ci rl al ca ri vl most cR cA G:Nat}{O Q O':Nat→Prop}{l xs regs inp:List Int}{p a rg ag pm pi pa pR pA ra aa:Option Addr}{t e:TypeId}{v:Value}{P:Program}{L bs:List Bool}{x ya xc xk fr xa xb xn yb:Int}{ds cs:List Value}{ops:Array Oper}
abbrev rtm (r:List Int) (t:TT 6):Option (TT 6):=t.ren r.length (fun i=>r.getD i 0)
structure FrT (g:Sig) (h:Qd) (s:JSt) (v:List Q1) (r:List Int):Prop where
 rl:r.length=s.H.length
 pos:∀ k∈r,0<=k
 held:∀ k,s.H.getD k false=true->∃ p,h.place (r.getD k 0)=some p
 dist:∀ j k,s.H.getD j false=true->s.H.getD k false=true->r.getD j 0=r.getD k 0->j=k
 vl:v.length=s.L.length
 val:∀ (j:Nat) (t:TT 6) (x:Q1),s.L[j]?=some t->v[j]?=some x->∃ u,rtm r t=some u/\Qea g x u
section
variable {g g':Sig}{h h':Qd}{s:JSt}{v:List Q1}{r:List Int}
theorem FrT.keep (F:FrT g h s v r) (e:g.le g') (b:∀ k,s.H.getD k false=true->∃ p,h'.place (r.getD k 0)=some p):FrT g' h' s v r :=
 ⟨F.rl,F.pos,b,F.dist,F.vl,fun j t x f c=>by obtain⟨u,d,a⟩:=F.val j t x f c;exact⟨u,d,a.mono e⟩⟩
theorem FrT.at (F:FrT g h s v r){k:Int}{t:TT 6}(e:s.at k=some t):∃ x u,QQ v k=some x/\rtm r t=some u/\Qea g x u:=by
 obtain⟨-,i,f,a⟩:=QdA e
 obtain⟨x,b⟩:∃ x,v[k.toNat]?=some x:=⟨_,Zg (by rw[F.vl];omega)⟩
 obtain⟨u,d,c⟩:=F.val _ t x a b
 exact⟨x,u,by unfold QQ;rw[Xr (by omega)];exact b,d,c⟩
theorem Qgp {t u:TT 6}(h:rtm r t=some u):u.kind=t.kind:=(Zn h).1
theorem Ql1 {t u:TT 6}(h:rtm r t=some u) (b:t.kind≠1):0<=t.r/\t.r<r.length/\u.r=r.getD t.r.toNat 0:=by
 have:=(Zn h).2.1
 unfold ZK at this;have a:¬ t.1=1:=b;rw[Xr a] at this
 split at this
 ·cases this
 ·rename_i c
  split at this
  ·cases this
  ·have e:u.2.1=r.getD t.2.1.toNat 0:=(Xn this).symm;show 0<=t.2.1/\t.2.1<r.length/\u.2.1=r.getD t.2.1.toNat 0;exact⟨by omega,by omega,e⟩
theorem Qea.kind {x:Q1}{u:TT 6}(h:Qea g x u):x.kind=u.kind:=by
 rcases h with ⟨b,a⟩|⟨b,a,-⟩|⟨-,a,-⟩
 ·rw[b,a]
 ·rw[b,a]
 ·exact a
theorem FrT.want (F:FrT g h s v r){k d:Int}{e:Bool}(z:s.want k d e=0):∃ x t u,s.at k=some t/\QQ v k=some x/\rtm r t=some u/\Qea g x u/\x.kind=d/\t.kind=d/\u.kind=d/\(e=true->d≠1->∃ p,h.place u.r=some p):=by
 obtain⟨t,l,f,w⟩:=Z7 z
 obtain⟨x,u,o,i,m⟩:=F.at l
 have n:=Qgp i;refine⟨x,t,u,l,o,i,m,by rw[m.kind,n,f],f,by rw[n,f],fun y q=>?_⟩
 obtain⟨a,b,c⟩:=Ql1 i (by rw[f];exact q)
 have j:=w y;unfold hHas at j;simp only[Bool.and_eq_true,decide_eq_true_eq] at j
 rw[c]
 exact F.held _ j.2
theorem FrT.num (F:FrT g h s v r){k:Int}{a:Bool}(c:s.want k 1 a=0):∃ n,QS v k=some n:=by
 obtain⟨x,t,u,-,d,-,-,b,-⟩:=F.want c
 exact⟨x.n,by unfold QS;rw[d];simp[b]⟩
theorem FrT.fields (F:FrT g h s v r):∀ {l:List Int}{ts:List (TT 6)},s.fields l=some ts->∃ xs,Q9 v l=some xs/\xs.length=ts.length/\∀ (j:Nat) (x:Q1) (t:TT 6),xs[j]?=some x->ts[j]?=some t->∃ u,rtm r t=some u/\Qea g x u
 | [],ts,e=>by simp[JSt.fields] at e;subst e;exact⟨[],Z,Z,fun j x t f=>by simp at f⟩
 | k::l,ts,e=>by
   simp only[JSt.fields] at e
   cases h1:s.at k with
   | none=>simp[h1] at e
   | some t =>
     simp only[h1] at e
     cases h2:s.fields l with
     | none=>simp[h2] at e
     | some tl =>
       simp only[h2] at e
       cases e
       obtain⟨x,u,n,i,m⟩:=F.at h1
       obtain⟨xs,o,c,d⟩:=F.fields h2
       refine⟨x::xs,by simp only[Q9,n,o],by simp[c],fun j y w b a=>?_⟩
       cases j with
       | zero=>simp at b a;subst b a;exact⟨u,i,m⟩
       | succ j=>exact d j y w (by simpa using b) (by simpa using a)
theorem FrT.push (F:FrT g h s v r){xs:List Q1}{ts:List (TT 6)}(k:xs.length=ts.length) (i:∀ (j:Nat) (x:Q1) (t:TT 6),xs[j]?=some x->ts[j]?=some t->∃ u,rtm r t=some u/\Qea g x u){d:JSt}(e:d.H=s.H) (f:d.L=s.L++ts):FrT g h d (v++xs) r:=by
 refine⟨by rw[e];exact F.rl,F.pos,by rw[e];exact F.held,by rw[e];exact F.dist,by rw[f];simp[F.vl,k],fun j t x b a=>?_⟩
 rw[f] at b
 rcases Nat.lt_or_ge j s.L.length with c | c
 ·rw[XP c] at b
  rw[XP (by rw[F.vl];exact c)] at a
  exact F.val j t x b a
 ·rw[XQ c] at b
  rw[XQ (by rw[F.vl];exact c),F.vl] at a
  exact i _ x t a b
theorem Qec (n:Int):∃ u,rtm r tInt=some u/\Qea g (Qct n) u:=⟨tInt,Z,.inl ⟨Z,Z⟩⟩
end
def Own (s:JSt) (r:List Int) (k:Int):Prop:=∃ j:Nat,s.H.getD j false=true/\s.f.regs<=j/\r.getD j 0=k
def Stk (m:List (MFunc 6)) (g:Sig) (h:Qd):(Int->Prop)->MFunc 6->Nat->List Int->List IFr->Prop
 | _,_,gi,_,[]=>gi=0
 | A,fn,gi,cr,d::rest=>∃ fd bl x s,m[d.f]?=some fd/\fd.blocks[d.b]?=some bl/\0<d.i/\bl.code[d.i - 1]?=some x/\x.op=14/\x.k=gi/\s=(JSt.start m fd bl).upto (bl.code.take (d.i - 1))/\FrT g h s d.v d.r /\
  (∀ k:Nat,(k:Int)<fn.regs->cr.getD k 0=d.r.getD (x.regs.getD k 0).toNat 0)/\(∀ k,s.H.getD k false=true->¬ A (d.r.getD k 0))/\Stk m g h (fun k=>A k\/Own s d.r k) fd d.f d.r rest
theorem Stk.keep {m:List (MFunc 6)}{g l:Sig}{h n:Qd}(j:g.le l):∀ {rest:List IFr}{A A':Int->Prop}{fn:MFunc 6}{gi:Nat}{cr cr':List Int},(∀ k,¬ A k->(∃ p,h.place k=some p)->∃ p,n.place k=some p)->(∀ k,A' k->A k\/h.place k=none)->(∀ k:Nat,(k:Int)<fn.regs->cr'.getD k 0=cr.getD k 0)->Stk m g h A fn gi cr rest->Stk m l n A' fn gi cr' rest
 | [],_,_,_,_,_,_,_,_,_,S=>S
 | d::rest,A,A',fn,gi,cr,cr',hp,hA,hc,S=>by
   obtain⟨z,q,x,s,t,o,r,B,w,u,y,F,v,i,e⟩:=S
   refine⟨z,q,x,s,t,o,r,B,w,u,y,F.keep j (fun k a=>hp _ (i k a) (F.held k a)),fun k a=>(hc k a).trans (v k a),fun k a f=>?_,?_⟩
   ·rcases hA _ f with b | b
    ·exact i k a b
    ·obtain⟨p,c⟩:=F.held k a;rw[b] at c;cases c
   ·exact Stk.keep j (fun k a=>hp k (fun f=>a (.inl f))) (fun k a=>by
     rcases a with b | b
     ·exact(hA k b).imp .inl id
     ·exact .inl (.inr b)) (fun k a=>rfl) e
structure Inv (m:List (MFunc 6)) (g:Sig) (M:IM) (fn:MFunc 6) (bl:MBlock 6) (s:JSt):Prop where
 hf:m[M.top.f]?=some fn
 hb:fn.blocks[M.top.b]?=some bl
 hi:M.top.i<=bl.code.length
 hs:s=(JSt.start m fn bl).upto (bl.code.take M.top.i)
 fr:FrT g M.h s M.top.v M.top.r
 st:StT g M.h
 stk:Stk m g M.h (Own s M.top.r) fn M.top.f M.top.r M.rest
theorem Qcp {b:Int}{e:ZA}:∀ {l:List Qt}{s:JSt}{i:Nat},(QB b e s i l).1=0->(∀ j x,l[j]?=some x->(s.upto (l.take j)).code x=0)/\(s.upto l).fin e=0
 | [],s,i,h=>by
   refine⟨fun j x d=>by simp at d,?_⟩
   simp only[QB] at h
   by_cases a:s.fin e=0
   ·exact a
   ·rw[Xs a] at h;exact absurd h a
 | x::r,s,i,h=>by
   simp only[QB] at h
   by_cases a:s.code x=0
   ·rw[Xr (by simpa using a)] at h
    obtain⟨g,f⟩:=Qcp h
    refine⟨fun j y c=>?_,f⟩
    cases j with
    | zero=>simp at c;subst c;exact a
    | succ j=>exact g j y (by simpa using c)
   ·rw[Xs a] at h;exact absurd h a
theorem Qb1 {m:List (MFunc 6)}(h:(Qq m).1=0):(modFault m).1=0/\∀ (k:Nat) (f:MFunc 6) (q:Nat) (b:MBlock 6),m[k]?=some f->f.blocks[q]?=some b->(∀ j x,b.code[j]?=some x->((JSt.start m f b).upto (b.code.take j)).code x=0)/\((JSt.start m f b).upto b.code).fin b.fin=0:=by
 unfold Qq at h;by_cases e:(modFault m).1=0
 ·rw[Xr (by simpa using e)] at h
  refine⟨e,fun k f q b c d=>?_⟩
  have a:=QR h k f c;unfold Qaa at a;have g:=QR a q b d;exact Qcp g
 ·rw[Xs e] at h;exact absurd h e
def Qby (m:List (MFunc 6)) (M:IM):Prop:=M.done=true\/∃ g fn bl s,Inv m g M fn bl s
theorem JSt.upto_mf:∀ (l:List Qt) (s:JSt),(s.upto l).m=s.m/\(s.upto l).f=s.f
 | [],s=>⟨Z,Z⟩
 | x::l,s=>by
   have:=JSt.upto_mf l (s.next x)
   exact this
section
variable {m:List (MFunc 6)}{g g':Sig}{M M':IM}{fn:MFunc 6}{bl:MBlock 6}{s:JSt}{x:Qt}{op:Int->Int->Int->Option Int}
theorem Inv.mf (I:Inv m g M fn bl s):s.m=m/\s.f=fn:=by
 have:=JSt.upto_mf (bl.code.take M.top.i) (JSt.start m fn bl)
 rw[I.hs];exact this
theorem Inv.on (I:Inv m g M fn bl s) (a:bl.code[M.top.i]?=some x) (c:M'.top.f=M.top.f) (e:M'.top.b=M.top.b) (hi:M'.top.i=M.top.i+1) (d:M'.rest=M.rest) (F:FrT g' M'.h (s.next x) M'.top.v M'.top.r) (S:StT g' M'.h) (K:Stk m g' M'.h (Own (s.next x) M'.top.r) fn M.top.f M'.top.r M.rest):Inv m g' M' fn bl (s.next x):=by
 have j:=(Zi a).1;refine⟨by rw[c];exact I.hf,by rw[e];exact I.hb,by rw[hi];omega,?_,F,S,by rw[c,d];exact K⟩
 rw[hi,XV,a]
 show s.next x=(JSt.start m fn bl).upto (bl.code.take M.top.i++[x])
 rw[JSt.upto_snoc,<-I.hs]
theorem Inv.val (I:Inv m g M fn bl s) (A:bl.code[M.top.i]?=some x) (q:x.op≠3) (l:x.op≠4) (E:M'.top.f=M.top.f) (G:M'.top.b=M.top.b) (hi:M'.top.i=M.top.i+1) (D:M'.rest=M.rest) (a:M'.top.r=M.top.r) (o:g.le g') (n:∀ k p,M.h.place k=some p->∃ p,M'.h.place k=some p) (S:StT g' M'.h){xs:List Q1}(z:M'.top.v=M.top.v++xs) (C:xs.length=(s.makes x).2.length)
 (c:∀ (j:Nat) (y:Q1) (t:TT 6),xs[j]?=some y->(s.makes x).2[j]?=some t->∃ u,rtm M.top.r t=some u/\Qea g' y u):Qby m M':=by
 refine .inr ⟨g',fn,bl,_,I.on A E G hi D ?_ S ?_⟩
 ·rw[a,z]
  have F:FrT g' M'.h s M.top.v M.top.r:=I.fr.keep o (fun k d=>by obtain⟨p,e⟩:=I.fr.held k d;exact n _ p e);exact F.push C c (Qa9 q l) Z
 ·rw[a]
  refine I.stk.keep o (fun k _ ⟨p,e⟩=>n k p e) (fun k d=>?_) (fun k _=>rfl);obtain⟨j,B,w,H⟩:=d
  exact .inl ⟨j,by rw[<-Qa9 q l (s:=s)];exact B,w,H⟩
theorem Inv.still (I:Inv m g M fn bl s) (n:bl.code[M.top.i]?=some x) (u:x.op≠3) (d:x.op≠4) (w:M'.top.f=M.top.f) (z:M'.top.b=M.top.b) (hi:M'.top.i=M.top.i+1) (o:M'.rest=M.rest) (a:M'.top.r=M.top.r) (c:M'.h=M.h) (l:M'.top.v=M.top.v) (q:(s.makes x).2=[]):Qby m M' :=
 I.val n u d w z hi o a (fun _ _ _ h=>h) (fun k p e=>⟨p,by rw[c];exact e⟩) (by rw[c];exact I.st) (xs:=[]) (by simpa using l) (by rw[q];rfl) (fun j y t A=>by simp at A)
theorem Inv.one (I:Inv m g M fn bl s) (w:bl.code[M.top.i]?=some x) (A:x.op≠3) (o:x.op≠4) (C:M'.top.f=M.top.f) (D:M'.top.b=M.top.b) (hi:M'.top.i=M.top.i+1) (z:M'.rest=M.rest) (a:M'.top.r=M.top.r) (n:M'.h=M.h){y:Q1}{t:TT 6}(q:M'.top.v=M.top.v++[y]) (l:(s.makes x).2=[t]) (B:∃ u,rtm M.top.r t=some u/\Qea g y u):Qby m M' :=
 I.val w A o C D hi z a (fun _ _ _ h=>h) (fun k p e=>⟨p,by rw[n];exact e⟩) (by rw[n];exact I.st) (xs:=[y]) q (by rw[l];rfl) (fun j E F d c=>by
  rw[l] at c
  have:j=0:=by have:=(Zi d).1;simp at this;omega
  subst this;simp at d c;subst d c;exact B)
theorem IM.over_good (m:List (MFunc 6)) (M:IM) (e:Int):Qby m (M.over e):=.inl Z
abbrev IM.one (M:IM):IM:={ M with fuel:=M.fuel+1,top:={ M.top with i:=M.top.i+1 } }
def QbX (m:List (MFunc 6)) (op:Int->Int->Int->Option Int) (M:IM) (x:Qt):Prop:=∃ M',IM.ins m op M.one x=some M'/\Qby m M'
theorem QkI (I:Inv m g M fn bl s) (a:bl.code[M.top.i]?=some x) (b:s.code x=0) (h:x.op=1):QbX m op M x:=by
 refine⟨_,by unfold IM.ins;rw[Xs h],?_⟩
 exact I.one a (by omega) (by omega) Z Z Z Z Z Z Z (by rw[Qaf (.inl h)]) (Qec _)
theorem Qkr (I:Inv m g M fn bl s) (d:bl.code[M.top.i]?=some x) (l:s.code x=0) (h:x.op=2):QbX m op M x:=by
 have c:=(QN l).2.1;rw[QbJ h] at c
 obtain⟨o,p⟩:=QD c
 obtain⟨a,j⟩:=I.fr.num o
 obtain⟨b,f⟩:=I.fr.num p
 unfold QbX IM.ins;rw[Xr (by omega),Xs h]
 show ∃ M',(match QS M.top.v x.a with | none=>none | some a=>match QS M.top.v x.b with | none=>none | some b=>match op x.k a b with | none=>some (M.one.over 1) | some n=>some (M.one.push [Qct n]))=some M'/\Qby m M';rw[j,f]
 cases e:op x.k a b with
 | none=>simp only[e];exact⟨_,Z,IM.over_good _ _ _⟩
 | some n=>simp only[e];exact⟨_,Z,I.one d (by omega) (by omega) Z Z Z Z Z Z Z (by rw[QbJ h]) (Qec _)⟩
theorem Ql0 (I:Inv m g M fn bl s) (a:bl.code[M.top.i]?=some x) (b:s.code x=0) (h:x.op=12):QbX m op M x:=by
 unfold QbX IM.ins;rw[Xr (by omega),Xr (by omega),Xr (by omega),Xs h]
 show ∃ M',(match M.inp with | []=>some (M.one.over 4) | n::l=>some (IM.push { M.one with inp:=l } [Qct n]))=some M'/\Qby m M'
 cases e:M.inp with
 | nil=>exact⟨_,Z,IM.over_good _ _ _⟩
 | cons n l=>exact⟨_,Z,I.one a (by omega) (by omega) Z Z Z Z Z Z Z (by rw[Qaf (.inr h)]) (Qec _)⟩
theorem QkV (I:Inv m g M fn bl s) (d:bl.code[M.top.i]?=some x) (c:s.code x=0) (h:x.op=13):QbX m op M x:=by
 have b:=(QN c).2.1;rw[QbA h] at b
 obtain⟨a,f⟩:=I.fr.num b
 unfold QbX IM.ins;rw[Xr (by omega),Xr (by omega),Xr (by omega),Xr (by omega),Xs h]
 show ∃ M',(match QS M.top.v x.a with | none=>none | some n=>if M.out.length=2000 then some (M.one.over 8) else some { M.one with out:=M.out++[n] })=some M'/\Qby m M';rw[f]
 by_cases e:M.out.length=2000
 ·simp only[e,if_true];exact⟨_,Z,IM.over_good _ _ _⟩
 ·simp only[e,if_false];exact⟨_,Z,I.still d (by omega) (by omega) Z Z Z Z Z Z Z (by rw[QbA h])⟩
theorem Zv (h:x.op=4\/x.op=5\/x.op=6\/x.op=7\/x.op=8\/x.op=9\/x.op=10\/x.op=11):IM.ins m op M x=M.mem x:=by
 unfold IM.ins;rw[Xr (by omega),Xr (by omega),Xr (by omega),Xr (by omega),Xr (by omega),Xr (by omega)]
theorem Qd.get_nat {h:Qd}{v:Q1}{t:Qw}(e:h.thing v=some t){k:Int}(a:0<=k):h.get v k=match t.l[k.toNat]? with | none=>(noV,1) | some x=>(x,0):=by
 unfold Qd.get;rw[e];simp only;rw[Xr (by omega)];first | done | (cases t.l[k.toNat]?<;>rfl)
theorem QjO (I:Inv m g M fn bl s) (f:bl.code[M.top.i]?=some x) (n:s.code x=0) (h:x.op=11):QbX m op M x:=by
 have c:=(QN n).2.1;rw[QbT h] at c
 obtain⟨a,t,u,A,d,D,q,k,B,w,r⟩:=I.fr.want c
 obtain⟨p,e⟩:=r Z (by omega)
 obtain⟨j,y,z,C⟩:=q.thing I.st (.inr w) e
 unfold QbX;rw[Zv (by omega)]
 unfold IM.mem;have b:QQ M.one.top.v x.a=some a:=d;rw[b]
 simp only
 rw[Xr (by omega),Xr (by omega),Xr (by omega),Xr (by omega),Xr (by omega),Xr (by omega),Xr (by omega)]
 have o:M.h.len a=((j.l.length:Int),0):=by unfold Qd.len;rw[y]
 show ∃ M',(if a.kind=4/\(M.h.len a).2=0 then some (M.one.push [Qct (M.h.len a).1]) else none)=some M'/\Qby m M';rw[o,Xs ⟨k,Z⟩]
 exact⟨_,Z,I.one f (by omega) (by omega) Z Z Z Z Z Z Z (by rw[QbT h]) (Qec _)⟩
theorem QiQ (I:Inv m g M fn bl s) (B:bl.code[M.top.i]?=some x) (q:s.code x=0) (h:x.op=9):QbX m op M x:=by
 have f:=(QN q).2.1;rw[Qba h] at f
 obtain⟨z,A⟩:=QD f
 obtain⟨a,t,u,N,j,L,K,C,O,D,w⟩:=I.fr.want z
 obtain⟨n,r⟩:=I.fr.num A
 obtain⟨p,G⟩:=w Z (by omega)
 obtain⟨o,e,F,P⟩:=K.thing I.st (.inr D) G
 unfold QbX;rw[Zv (by omega)]
 unfold IM.mem;have d:QQ M.one.top.v x.a=some a:=j;have c:QS M.one.top.v x.b=some n:=r;rw[d]
 simp only
 rw[Xr (by omega),Xr (by omega),Xr (by omega),Xr (by omega),Xr (by omega),Xs h,c]
 simp only
 rw[Xs C]
 show ∃ M',(if (M.h.get a n).2=1 then some (M.one.over 2) else if (M.h.get a n).2=0 then some (M.one.push [(M.h.get a n).1]) else none)=some M'/\Qby m M';by_cases J:n<0
 ·have:M.h.get a n=(noV,1):=by unfold Qd.get;rw[e];simp only;rw[Xs J]
  rw[this]
  exact⟨_,by rw[Xs Z],IM.over_good _ _ _⟩
 ·rw[Qd.get_nat e (by omega)]
  cases ey:o.l[n.toNat]? with
  | none=>exact⟨M.one.over 2,Z,IM.over_good _ _ _⟩
  | some y =>
    refine⟨M.one.push [y],Z,I.one B (by omega) (by omega) Z Z Z Z Z Z Z (by rw[Qba h]) ⟨tInt,Z,.inl ⟨Z,?_⟩⟩⟩
    rcases F with ⟨E,H,k⟩|⟨E,H,-⟩
    ·exact k y (Zm ey)
    ·omega
theorem QjR (I:Inv m g M fn bl s) (F:bl.code[M.top.i]?=some x) (B:s.code x=0) (h:x.op=6):QbX m op M x:=by
 obtain⟨b,c,-⟩:=QN B
 have f:0<=x.k:=by
  unfold Qt.form at b;repeat' split at b
  all_goals first | omega | cases b
 have d:=Qc7 (s:=s) h;rw[d] at c
 cases et:s.at x.a with
 | none=>rw[et] at c;cases c
 | some t =>
   rw[et] at c d
   simp only at c d
   by_cases e:s.want x.a 3 true=0
   ·rw[Xs e] at c d
    cases ek:t.2.2[x.k.toNat]? with
    | none=>rw[ek] at c;cases c
    | some w =>
      rw[ek] at d
      simp only at d
      obtain⟨a,T,u,o,r,C,Q,H,U,J,D⟩:=I.fr.want e
      rw[et] at o;cases o
      obtain⟨p,N⟩:=D Z (by omega)
      obtain⟨A,S,L,V⟩:=Q.thing I.st (.inl J) N
      rcases L with ⟨K,O,-⟩|⟨K,O,z,R⟩
      ·omega
      ·obtain⟨G,n,E⟩:=Qeg (Zn C).2.2 ek
       obtain⟨y,q⟩:∃ y,A.l[x.k.toNat]?=some y:=⟨_,Zg (by rw[z];exact(Zi n).1)⟩
       have P:M.h.get a x.k=(y,0):=by rw[Qd.get_nat S f,q]
       unfold QbX;rw[Zv (by omega)]
       unfold IM.mem;have j:QQ M.one.top.v x.a=some a:=r;rw[j]
       simp only
       rw[Xr (by omega),Xr (by omega),Xr (by omega),Xs h]
       show ∃ M',(if a.kind=3/\(M.h.get a x.k).2=0 then some (M.one.push [(M.h.get a x.k).1]) else none)=some M'/\Qby m M';rw[P,Xs ⟨H,Z⟩]
       exact⟨_,Z,I.one F (by omega) (by omega) Z Z Z Z Z Z Z (by rw[d]) ⟨_,TT.ren_at 5 E,R _ y G q n⟩⟩
   ·rw[Xr e] at c;exact absurd c e
theorem Qd.set_place {h:Qd}{v y:Q1}{k:Int}{j:Int}{p:Qr}(e:h.place j=some p):∃ p',(h.set v k y).2.place j=some p':=by
 unfold Qd.set;split
 ·rename_i t q d c
  obtain⟨f,a,b⟩:=Qd.place_some c
  split
  ·exact⟨p,e⟩
  ·split
   ·exact⟨p,e⟩
   ·simp only
    rw[Qd.place_set (Zi a).1]
    split
    ·exact⟨_,by first | rw[Xs b] | rfl⟩
    ·exact⟨p,e⟩
 ·exact⟨p,e⟩
theorem Qd.put_place {h:Qd}{v:Q1}{t:Qw}{words:Int}{j:Int}{p:Qr}(e:h.place j=some p):∃ p',(h.put v t words).2.2.place j=some p':=by
 unfold Qd.put;split
 ·exact⟨p,e⟩
 ·rename_i q c
  obtain⟨g,f,i,b,d,a⟩:=Qd.at_some c
  split
  ·exact⟨p,e⟩
  ·simp only
   rw[Qd.place_set (by rw[b];exact(Zi d).1)]
   split
   ·have:(q.more t words).there=true:=by unfold Qr.more;split<;>exact a
    exact⟨_,by rw[Xs this]⟩
   ·exact⟨p,e⟩
theorem Inv.stored (I:Inv m g M fn bl s) (c:bl.code[M.top.i]?=some x) (f:x.op≠3) (b:x.op≠4) (d:(s.makes x).2=[]){a y:Q1}{k:Int}(S:StT g (M.h.set a k y).2):Qby m { M.one with h:=(M.h.set a k y).2 } :=
 I.val (M':={ M.one with h:=(M.h.set a k y).2 }) c f b Z Z Z Z Z (fun _ _ _ h=>h) (fun j p e=>Qd.set_place e) S (xs:=[]) (by simp) (by rw[d];rfl) (fun j y t l=>by simp at l)
theorem QkT (I:Inv m g M fn bl s) (hx:bl.code[M.top.i]?=some x) (n:s.code x=0) (h:x.op=7):QbX m op M x:=by
 obtain⟨d,c,-⟩:=QN n
 have U:0<=x.k:=by
  unfold Qt.form at d;repeat' split at d
  all_goals first | omega | cases d
 have e:=Qc5 (s:=s) h;rw[e] at c
 cases et:s.at x.a with
 | none=>rw[et] at c;cases c
 | some t =>
   rw[et] at c e
   simp only at c e
   by_cases o:s.want x.a 3 true=0
   ·rw[Xs o] at c e
    cases ek:t.2.2[x.k.toNat]? with
    | none=>rw[ek] at c;cases c
    | some w =>
      rw[ek] at e c
      simp only at e c
      cases eb:s.at x.b with
      | none=>rw[eb] at c;cases c
      | some vt =>
        rw[eb] at c e
        simp only at c e
        by_cases D:ZU (w.at 5=vt)=true
        ·rw[Xs D] at e
         have A:w.at 5=vt:=by simpa[ZU] using D
         obtain⟨a,t',u,J,Q,V,P,e5,e6,e7,X⟩:=I.fr.want o
         rw[et] at J;cases J
         obtain⟨p,hp⟩:=X Z (by omega)
         obtain⟨R,f1,f2,f3⟩:=P.thing I.st (.inl e7) hp
         obtain⟨y,L,S,W,T⟩:=I.fr.at eb
         rcases f2 with ⟨E,O,-⟩|⟨E,O,G,b4⟩
         ·omega
         ·obtain⟨wu,H,w2⟩:=Qeg (Zn V).2.2 ek
          have q:x.k.toNat<R.l.length:=by rw[G];exact(Zi H).1
          have B:L=wu.at 5:=by
           have:=TT.ren_at 5 w2
           rw[A] at this
           have f:vt.ren M.top.r.length (fun i=>M.top.r.getD i 0)=some L:=W;rw[this] at f;exact(Xn f).symm
          have hs:g a.region a.thing.toNat=some u:=by
           rcases P with ⟨c1,-⟩|⟨c1,-⟩|⟨-,-,-,-,c5⟩
           ·omega
           ·omega
           ·exact c5
          obtain⟨N,K⟩:=I.st.set (x:=y) f1 (.inr ⟨E,O,G,b4⟩) hs (fun n=>by rw[E] at n;cases n) (fun _ w' j=>by
           rw[H] at j;cases j;rw[<-B];exact T) q
          have z:((x.k.toNat:Nat):Int)=x.k:=by omega
          rw[z] at N K
          unfold QbX;rw[Zv (by omega)]
          unfold IM.mem;have C:QQ M.one.top.v x.a=some a:=Q;have F:QQ M.one.top.v x.b=some y:=S;rw[C]
          simp only
          rw[Xr (by omega),Xr (by omega),Xr (by omega),Xr (by omega),Xs h,F]
          show ∃ M',(if a.kind=3/\(M.h.set a x.k y).1=0 then some { M.one with h:=(M.h.set a x.k y).2 } else none)=some M'/\Qby m M';rw[Xs ⟨e5,N⟩]
          exact⟨_,Z,I.stored hx (by omega) (by omega) (by rw[e]) K⟩
        ·rw[Xr D] at c;cases c
   ·rw[Xr o] at c;exact absurd c o
theorem Qha (I:Inv m g M fn bl s) (R:bl.code[M.top.i]?=some x) (K:s.code x=0) (h:x.op=10):QbX m op M x:=by
 have d:=(QN K).2.1;rw[QaI h] at d
 obtain⟨O,d⟩:=QD d
 obtain⟨P,f⟩:=QD d
 obtain⟨a,t,u,e1,H,e3,G,U,e6,W,N⟩:=I.fr.want O
 obtain⟨n,L⟩:=I.fr.num P
 obtain⟨z,J⟩:=I.fr.num f
 obtain⟨p,hp⟩:=N Z (by omega)
 obtain⟨C,B,F,f3⟩:=G.thing I.st (.inr W) hp
 have T:g a.region a.thing.toNat=some u:=by
  rcases G with ⟨c1,-⟩|⟨c1,-⟩|⟨-,-,-,-,S⟩
  ·omega
  ·omega
  ·exact S
 have y:C.arr=true:=by
  rcases F with ⟨X,-⟩|⟨-,b2,-⟩
  ·exact X
  ·omega
 unfold QbX;rw[Zv (by omega)]
 unfold IM.mem;have w:QQ M.one.top.v x.a=some a:=H;have j:QS M.one.top.v x.b=some n:=L;have o:QS M.one.top.v x.c=some z:=J;rw[w]
 simp only
 rw[Xr (by omega),Xr (by omega),Xr (by omega),Xr (by omega),Xr (by omega),Xr (by omega),Xs h,j]
 simp only
 rw[o]
 simp only
 rw[Xs U]
 show ∃ M',(if (M.h.set a n (Qct z)).1=1 then some (M.one.over 2) else if (M.h.set a n (Qct z)).1=0 then some { M.one with h:=(M.h.set a n (Qct z)).2 } else none)=some M'/\Qby m M';by_cases hn:n<0\/C.l.length<=n.toNat
 ·have:(M.h.set a n (Qct z)).1=1:=by
   obtain⟨Q,q,V,-⟩:=Qd.thing_iff.1 B
   unfold Qd.set;rw[B,V];simp only;rw[Xr (fun e=>e.2 Z),Xs hn]
  rw[Xs this]
  exact⟨_,Z,IM.over_good _ _ _⟩
 ·obtain⟨A,E⟩:=I.st.set (x:=Qct z) (k:=n.toNat) B F T (fun _=>rfl) (fun D=>by rw[y] at D;cases D) (by omega)
  have r:((n.toNat:Nat):Int)=n:=by omega
  rw[r] at A E
  rw[Xr (by rw[A];decide),Xs A]
  exact⟨_,Z,I.stored R (by omega) (by omega) (by rw[QaI h]) E⟩
theorem Inv.made (I:Inv m g M fn bl s) (z:bl.code[M.top.i]?=some x) (B:x.op≠3) (n:x.op≠4){T u:TT 6}(f:(s.makes x).2=[T]){a:Q1}{p:Qr}{t:Qw}{words:Int}(k:M.h.at a=some p) (l:rtm M.top.r T=some u) (v:u.r=a.region) (C:QbB g t u):∃ M',M.one.got (M.h.put a t words)=some M'/\Qby m M':=by
 obtain⟨E,A,S,o⟩:=I.st.put (words:=words) k v C
 rcases Qd.put_code (t:=t) (words:=words) k with b | ⟨D,-⟩
 ·unfold IM.got;rw[Xr (by rw[b];decide),Xs b]
  refine⟨_,Z,?_⟩
  exact I.val z B n Z Z Z Z Z A (fun j q e=>Qd.put_place e) S (xs:=[(M.h.put a t words).1]) Z (by rw[f];rfl) (fun j y w d c=>by
   rw[f] at c
   have:j=0:=by have:=(Zi d).1;simp at this;omega
   subst this;simp at d c;subst d c;exact⟨u,l,o b⟩)
 ·unfold IM.got;rw[Xs D]
  exact⟨_,Z,IM.over_good _ _ _⟩
theorem Qg9 (I:Inv m g M fn bl s) (J:bl.code[M.top.i]?=some x) (B:s.code x=0) (h:x.op=8):QbX m op M x:=by
 have e:=(QN B).2.1;have f:=Qbm (s:=s) h;rw[f] at e
 cases et:s.at x.a with
 | none=>rw[et] at e;cases e
 | some t =>
   rw[et] at e f
   simp only at e f
   obtain⟨G,H⟩:=QD e
   obtain⟨a,Q,u,w,z,q,P,L,E,T,F⟩:=I.fr.want G
   rw[et] at w;cases w
   obtain⟨n,C⟩:=I.fr.num H
   obtain⟨p,O⟩:=F Z (by omega)
   have d:a.region=u.r:=by
    rcases P with ⟨U,-⟩|⟨-,-,c⟩|⟨-,-,c,-⟩
    ·omega
    ·exact c
    ·exact c
   have k:M.h.at a=some p:=by unfold Qd.at;rw[Xs L,d];exact O
   unfold QbX;rw[Zv (by omega)]
   unfold IM.mem;have l:QQ M.one.top.v x.a=some a:=z;have j:QS M.one.top.v x.b=some n:=C;rw[l]
   simp only
   rw[Xr (by omega),Xr (by omega),Xs h,j]
   simp only
   by_cases o:n<0\/15<n
   ·rw[Xs o]
    exact⟨_,Z,IM.over_good _ _ _⟩
   ·rw[Xr o]
    show ∃ M',M.one.got (M.h.array a n)=some M'/\Qby m M';unfold Qd.array;rw[Xr o]
    obtain⟨R,V,S⟩:=Ql1 q (by omega)
    have N:rtm M.top.r (mkT 4 t.r [])=some (mkT 4 u.r []:TT 6):=by
     have K:ZK M.top.r.length (fun i=>M.top.r.getD i 0) 4 t.r=some u.r:=by
      have:=(Zn q).2.1
      have A:t.1=2:=E;rw[A] at this
      exact this
     exact ZV (t:=(mkT 4 t.r []:TT 6)) K Z
    exact I.made J (by omega) (by omega) (by rw[f]) k N d.symm (.inl ⟨Z,Z,fun y D=>by rw[List.eq_of_mem_replicate D];rfl⟩)
theorem Qhn (I:Inv m g M fn bl s) (hx:bl.code[M.top.i]?=some x) (hc:s.code x=0) (h:x.op=5):QbX m op M x:=by
 have d:=(QN hc).2.1;have e:=Qbr (s:=s) h;rw[e] at d
 cases et:s.at x.a with
 | none=>rw[et] at d;cases d
 | some t =>
   rw[et] at d e
   simp only at d e
   by_cases D:s.want x.a 2 true=0
   ·rw[Xs D] at d e
    cases ef:s.fields x.args with
    | none=>rw[ef] at d;cases d
    | some l =>
      rw[ef] at d e
      simp only at d e
      by_cases T:4<TT.height (n:=7) (mkT 3 t.r l)
      ·rw[Xs T] at d;cases d
      ·rw[Xr T] at e
       obtain⟨a,t',u,X,e2,e3,e4,e5,e6,e7,e8⟩:=I.fr.want D
       rw[et] at X;cases X
       obtain⟨p,hp⟩:=e8 Z (by omega)
       have f:a.region=u.r:=by
        rcases e4 with ⟨U,-⟩|⟨-,-,c⟩|⟨-,-,c,-⟩
        ·omega
        ·exact c
        ·exact c
       have L:M.h.at a=some p:=by unfold Qd.at;rw[Xs e5,f];exact hp
       obtain⟨F,b1,b2,W⟩:=I.fr.fields ef
       obtain⟨k,A⟩:∃ k,ZT (TT.ren M.top.r.length (fun i=>M.top.r.getD i 0)) l=some k:=by
        clear e d T
        have Q:∀ (l:List (TT 6)),(∀ t∈l,∃ u,rtm M.top.r t=some u)->∃ k,ZT (TT.ren M.top.r.length (fun i=>M.top.r.getD i 0)) l=some k:=by
         intro l
         induction l with
         | nil=>exact fun _=>⟨[],Z⟩
         | cons z zs ih =>
           intro E;obtain⟨u1,P⟩:=E z (by simp)
           obtain⟨us,V⟩:=ih (fun t ht=>E t (by simp[ht]))
           have C:z.ren M.top.r.length (fun i=>M.top.r.getD i 0)=some u1:=P;exact⟨u1::us,by simp only[ZT,C,V]⟩
        refine Q l (fun z E=>?_);obtain⟨j,hj⟩:=List.mem_iff_getElem?.1 E
        obtain⟨y,J⟩:∃ y,F[j]?=some y:=⟨_,Zg (by rw[b2];exact(Zi hj).1)⟩
        obtain⟨w,w1,-⟩:=W j y z J hj
        exact⟨w,w1⟩
       have hr:ZK M.top.r.length (fun i=>M.top.r.getD i 0) 3 t.r=some u.r:=by
        have:=(Zn e3).2.1
        have ek:t.1=2:=e6;rw[ek] at this
        exact this
       have N:(mkT 3 t.r l:TT 7).ren M.top.r.length (fun i=>M.top.r.getD i 0)=some (mkT 3 u.r k:TT 7):=ZV (t:=(mkT 3 t.r l:TT 7)) hr A;have hT:=TT.ren_at 5 N;unfold QbX;rw[Zv (by omega)]
       unfold IM.mem;have S:QQ M.one.top.v x.a=some a:=e2;have O:Q9 M.one.top.v x.args=some F:=b1;rw[S]
       simp only
       rw[Xr (by omega),Xs h,O]
       show ∃ M',M.one.got (M.h.tuple a F)=some M'/\Qby m M';unfold Qd.tuple;obtain⟨U,c2⟩:=ZS.1 A
       refine I.made hx (by omega) (by omega) (by rw[e]) L hT (show u.r=a.region from f.symm) (.inr ⟨Z,Z,?_,fun j y w J K=>?_⟩)
       ·show F.length=(k.map (TT.at 4)).length;simp[b2,U]
       ·have b:(k.map (TT.at 4))[j]?=some w:=K;rw[XS] at b
        cases eu:k[j]? with
        | none=>rw[eu] at b;cases b
        | some uj =>
          rw[eu] at b
          have G:uj.at 4=w:=Xn b;obtain⟨q,o⟩:∃ q,l[j]?=some q:=⟨_,Zg (by rw[<-U];exact(Zi eu).1)⟩
          obtain⟨w',d1,d2⟩:=W j y q J o
          have R:=c2 j q o;rw[eu] at R
          have B:q.ren M.top.r.length (fun i=>M.top.r.getD i 0)=some w':=d1;rw[R] at B;cases B
          have H:uj.height<=4:=by
           rw[TT.ren_height R]
           have:=(Q8 (t:=(mkT 3 t.r l:TT 7)) (m:=4)).1 (by omega) q (Zm o)
           omega
          rw[<-G,TT.at_back 4 uj H]
          exact d2
   ·rw[Xr D] at d;exact absurd d D
end
section
variable {m:List (MFunc 6)}{op:Int->Int->Int->Option Int}{φ:Int->Nat}{π:Int->Nat->Nat}{M M':IM}{R:RM}{x:Qt}
abbrev RM.one (R:RM):RM:={ R with fuel:=R.fuel+1 }
theorem Sim.next (S:Sim φ π M R) (c:M.done=false){a:Qd}{l:Est}{φ':Int->Nat}{π':Int->Nat->Nat}(H:Qa4 a l φ' π') (k:∀ x n,Rep M.h φ π x n->Rep a φ' π' x n){xs:List Q1}{ns:List Int}(o:ns.length=xs.length) (m:∀ (j:Nat) x n,xs[j]?=some x->ns[j]?=some n->Rep a φ' π' x n) (r':List Int) (d g:List Int) :
 Qex { M with h:=a,top:=⟨M.top.f,M.top.b,M.top.i+1,M.top.v++xs,r'⟩,inp:=d,out:=g,fuel:=M.fuel+1 } { R with e:=l,top:={ R.top with v:=R.top.v++ns,i:=R.top.i+1 },inp:=d,out:=g,fuel:=R.fuel+1 }:=by
 have F:=((S.top c).mono k).push o m (M.top.i+1) (R.top.i+1) (by rw[(S.top c).eI]);exact⟨φ',π',H,S.done,Z,S.back,by show R.fuel+1=M.fuel+1;rw[S.fuel],S.fin,fun _=>rfl,fun _=>⟨F.eF,F.eB,F.eI,F.len,F.val⟩,fun _=>(S.rest c).mono k⟩
theorem Sim.next0 (S:Sim φ π M R) (c:M.done=false){a:Qd}{g:Est}{φ':Int->Nat}{π':Int->Nat->Nat}(H:Qa4 a g φ' π') (d:∀ x n,Rep M.h φ π x n->Rep a φ' π' x n){xs:List Q1}{ns:List Int}(l:ns.length=xs.length) (k:∀ (j:Nat) x n,xs[j]?=some x->ns[j]?=some n->Rep a φ' π' x n) (r':List Int) :
 Qex { M with h:=a,top:=⟨M.top.f,M.top.b,M.top.i+1,M.top.v++xs,r'⟩,fuel:=M.fuel+1 } { R with e:=g,top:={ R.top with v:=R.top.v++ns,i:=R.top.i+1 },fuel:=R.fuel+1 }:=by
 have F:=((S.top c).mono d).push l k (M.top.i+1) (R.top.i+1) (by rw[(S.top c).eI]);exact⟨φ',π',H,S.done,S.out,S.back,by show R.fuel+1=M.fuel+1;rw[S.fuel],S.fin,fun _=>S.inp c,fun _=>⟨F.eF,F.eB,F.eI,F.len,F.val⟩,fun _=>(S.rest c).mono d⟩
theorem Qgj {P:Q1->Int->Prop}{y:Q1}{n:Int}(h:P y n) (j:Nat) (x:Q1) (k:Int) (a:[y][j]?=some x) (b:[n][j]?=some k):P x k:=by
 cases j with
 | zero=>simp at a b;subst a b;exact h
 | succ j=>simp at a
theorem Sim.one1 (S:Sim φ π M R) (a:M.done=false){y:Q1}{n:Int}(b:Rep M.h φ π y n):Qex (M.one.push [y]) (R.one.on [n]) :=
 S.next0 a S.heap (fun _ _ h=>h) (xs:=[y]) (ns:=[n]) Z (Qgj b) M.top.r
theorem Sim.stop (S:Sim φ π M R) (k:Int):Qex (M.one.over k) (R.one.over k):=Sim.over (M:=M.one) (R:=R.one) (H:=S.heap) S.out S.back (by show R.fuel+1=M.fuel+1;rw[S.fuel]) k
def ZC (m:List (MFunc 6)) (op:Int->Int->Int->Option Int) (R:RM) (x:Qt) (M':IM):Prop:=∃ R',RM.ins op R.one x=some R'/\Qex M' R'
theorem Qjl (S:Sim φ π M R) (a:M.done=false) (e:x.op=1) (h:IM.ins m op M.one x=some M'):ZC m op R x M':=by
 simp[IM.ins,e] at h
 subst h;exact⟨_,by simp[RM.ins,e],S.one1 a (Qee x.n)⟩
theorem Qjc (S:Sim φ π M R) (c:M.done=false) (e:x.op=2) (h:IM.ins m op M.one x=some M'):ZC m op R x M':=by
 unfold IM.ins at h;rw[Xr (by omega),Xs e] at h
 have F:=S.top c
 cases ha:QS M.top.v x.a with
 | none=>rw[show QS M.one.top.v x.a=none from ha] at h;cases h
 | some a =>
   rw[show QS M.one.top.v x.a=some a from ha] at h
   simp only at h
   cases hb:QS M.top.v x.b with
   | none=>rw[show QS M.one.top.v x.b=none from hb] at h;cases h
   | some b =>
     rw[show QS M.one.top.v x.b=some b from hb] at h
     simp only at h
     unfold ZC RM.ins;rw[Xr (by omega),Xs e,show iAt R.one.top.v x.a=some a from F.num ha]
     simp only
     rw[show iAt R.one.top.v x.b=some b from F.num hb]
     simp only
     cases ho:op x.k a b with
     | none=>rw[ho] at h;cases h;exact⟨_,Z,S.stop 1⟩
     | some n=>rw[ho] at h;cases h;exact⟨_,Z,S.one1 c (Qee n)⟩
theorem Qkm (S:Sim φ π M R) (a:M.done=false) (e:x.op=12) (h:IM.ins m op M.one x=some M'):ZC m op R x M':=by
 unfold IM.ins at h;rw[Xr (by omega),Xr (by omega),Xr (by omega),Xs e] at h
 unfold ZC RM.ins;rw[Xr (by omega),Xr (by omega),Xr (by omega),Xr (by omega),Xr (by omega),Xr (by omega),Xs e]
 have b:R.one.inp=M.one.inp:=S.inp a;rw[b]
 cases hi:M.one.inp with
 | nil=>rw[hi] at h;cases h;exact⟨_,Z,S.stop 4⟩
 | cons n l =>
   rw[hi] at h
   cases h
   refine⟨_,Z,?_⟩
   have:=S.next a S.heap (fun _ _ h=>h) (xs:=[Qct n]) (ns:=[n]) rfl (Qgj (Qee n)) M.top.r l M.out
   have c:=S.out;show Qex _ { R with inp:=l,top:=_,fuel:=R.fuel+1 };rw[show ({ R with inp:=l,top:={ R.top with v:=R.top.v++[n],i:=R.top.i+1 },fuel:=R.fuel+1 }:RM)={ R with e:=R.e,top:={ R.top with v:=R.top.v++[n],i:=R.top.i+1 },inp:=l,out:=M.out,fuel:=R.fuel+1 } by rw[<-c]]
   exact this
theorem Qib (S:Sim φ π M R) (b:M.done=false) (k:M.out.length<=2000) (e:x.op=13) (h:IM.ins m op M.one x=some M'):ZC m op R x M':=by
 unfold IM.ins at h;rw[Xr (by omega),Xr (by omega),Xr (by omega),Xr (by omega),Xs e] at h
 unfold ZC RM.ins;rw[Xr (by omega),Xr (by omega),Xr (by omega),Xr (by omega),Xr (by omega),Xr (by omega),Xr (by omega),Xs e]
 have F:=S.top b
 cases ha:QS M.top.v x.a with
 | none=>rw[show QS M.one.top.v x.a=none from ha] at h;cases h
 | some n =>
   rw[show QS M.one.top.v x.a=some n from ha] at h
   rw[show iAt R.one.top.v x.a=some n from F.num ha]
   simp only at h |-
   have d:R.one.out=M.one.out:=S.out;by_cases c:M.out.length=2000
   ·rw[Xs (show M.one.out.length=2000 from c)] at h
    cases h
    rw[Xr (by rw[d];show ¬ M.out.length<2000;omega)]
    exact⟨_,Z,S.stop 8⟩
   ·rw[Xr (show ¬ M.one.out.length=2000 from c)] at h
    cases h
    rw[Xs (by rw[d];show M.out.length<2000;omega)]
    refine⟨_,Z,?_⟩
    have:=S.next b S.heap (fun _ _ h=>h) (xs:=[]) (ns:=[]) rfl (fun j x n h=>by simp at h) M.top.r M.inp (M.out++[n])
    have g:=S.inp b;have f:=S.out;simp only[List.append_nil] at this
    unfold RM.on;simp only[List.append_nil]
    show Qex _ { R with out:=R.out++[n],top:={ R.top with i:=R.top.i+1 },fuel:=R.fuel+1 };rw[f,show ({ R with out:=M.out++[n],top:={ R.top with i:=R.top.i+1 },fuel:=R.fuel+1 }:RM)={ R with e:=R.e,top:={ R.top with i:=R.top.i+1 },inp:=M.inp,out:=M.out++[n],fuel:=R.fuel+1 } by rw[<-g]]
    exact this
theorem Qh4 (S:Sim φ π M R) (j:M.done=false) (e:x.op=3) (h:IM.ins m op M.one x=some M'):ZC m op R x M':=by
 unfold IM.ins at h;rw[Xr (by omega),Xr (by omega),Xs e] at h
 unfold ZC RM.ins;rw[Xr (by omega),Xr (by omega),Xs e]
 by_cases a:16<=M.h.live
 ·have d:M.one.h.open_.2.1=false:=by show M.h.open_.2.1=false;unfold Qd.open_;rw[Xs a]
  rw[d] at h
  have f:R.one.e.openK=-1:=(Est.open_no (S.heap.full.1 a)).1;rw[Xr (by rw[f];decide)]
  cases h
  exact⟨_,Z,S.stop 6⟩
 ·have c:M.h.open_=(⟨2,M.h.L.length,0,0⟩,true,{ M.h with L:=M.h.L++[newP] }):=by unfold Qd.open_;rw[Xr a]
  rw[Xs (by show M.h.open_.2.1=true;rw[c])] at h
  cases h
  obtain⟨l,i,g,k⟩:=S.heap.opens a
  rw[Xs (show 0<=R.one.e.openK from l)]
  refine⟨_,Z,?_⟩
  refine S.next0 j i k (xs:=[M.h.open_.1]) (ns:=[R.e.openK]) Z (Qgj ?_) (M.top.r++[M.h.open_.1.region]);rw[c]
  refine⟨fun b=>by simp at b,fun _=>⟨by simp only;omega,by simp;omega,fun p n=>⟨fun _=>?_,fun b=>absurd Z b⟩⟩⟩
  simp only
  rw[g]
  omega
theorem QgW (S:Sim φ π M R) (b:M.done=false) (e:x.op=4) (h:IM.ins m op M.one x=some M'):ZC m op R x M':=by
 rw[Zv (by omega)] at h
 unfold IM.mem at h;unfold ZC RM.ins;rw[Xr (by omega),Xr (by omega),Xr (by omega),Xs e]
 have F:=S.top b
 cases ha:QQ M.top.v x.a with
 | none=>rw[show QQ M.one.top.v x.a=none from ha] at h;cases h
 | some a =>
   obtain⟨n,g,i⟩:=F.at ha
   rw[show QQ M.one.top.v x.a=some a from ha] at h
   rw[show iAt R.one.top.v x.a=some n from g]
   simp only at h |-
   rw[Xs e] at h
   cases hp:M.h.at a with
   | none =>
     have:(M.one.h.shut a).1=false:=by show (M.h.shut a).1=false;unfold Qd.shut;rw[hp]
     rw[this] at h;cases h
   | some p =>
     obtain⟨d,o,f⟩:=S.heap.shuts hp
     rw[Xs (show (M.one.h.shut a).1=true from d)] at h
     cases h
     refine⟨_,Z,?_⟩
     obtain⟨c,k,-⟩:=Qd.at_some hp
     have l:n=φ a.region:=((i.2 (.inl c)).2.2 p k).1 c
     have:=S.next0 b o f (xs:=[]) (ns:=[]) Z (fun j x n h=>by simp at h) M.top.r
     rw[l]
     simp only[List.append_nil] at this
     unfold RM.on;simp only[List.append_nil]
     exact this
theorem QcC {g:Q1 × Int × Qd}(h:IM.got M g=some M'):(g.2.1=14/\M'=M.over 6)\/(g.2.1=0/\M'=IM.push ({ M with h:=g.2.2 }) [g.1]):=by
 unfold IM.got at h;split at h
 ·cases h;exact .inl ⟨by assumption,Z⟩
 ·split at h
  ·cases h;exact .inr ⟨by assumption,Z⟩
  ·cases h
theorem Sim.made (S:Sim φ π M R) (q:M.done=false){a:Q1}{n:Int}(j:Rep M.h φ π a n){t:Qw}(b:t.sz<=16)(v:Qmw M.h φ π t l) (h:M.one.got (M.h.put a t t.sz)=some M'):Qex M' (R.one.thing n t.sz l):=by
 cases hp:M.h.at a with
 | none =>
   have:M.h.put a t t.sz=(noV,20,M.h):=by unfold Qd.put;rw[hp]
   rw[this] at h
   rcases QcC h with ⟨c,-⟩|⟨c,-⟩<;>cases c
 | some p =>
   obtain⟨g,k,-⟩:=Qd.at_some hp
   have u:n=φ a.region:=((j.2 (.inl g)).2.2 p k).1 g;subst u;unfold RM.thing;rcases S.heap.puts hp t b with ⟨f,d⟩|⟨f,d,w,i⟩
   ·rw[Xr (show ¬ R.one.e.getCode (φ a.region) t.sz=0 from f)]
    rcases QcC h with ⟨-,rfl⟩|⟨c,-⟩
    ·exact S.stop 6
    ·rw[d] at c;cases c
   ·rw[Xs (show R.one.e.getCode (φ a.region) t.sz=0 from f)]
    rcases QcC h with ⟨c,-⟩|⟨-,rfl⟩
    ·rw[d] at c;cases c
    ·obtain⟨π',s,m,o⟩:=i l v
     exact S.next0 q s m (xs:=[(M.h.put a t t.sz).1]) (ns:=[R.e.getAt (φ a.region) t.sz]) Z (Qgj o) M.top.r
theorem QfP (S:Sim φ π M R) (f:M.done=false) (u:x.args.length<=16) (e:x.op=5) (h:IM.ins m op M.one x=some M'):ZC m op R x M':=by
 rw[Zv (by omega)] at h
 unfold IM.mem at h;unfold ZC RM.ins;rw[Xr (by omega),Xr (by omega),Xr (by omega),Xr (by omega),Xs e]
 have F:=S.top f
 cases ha:QQ M.top.v x.a with
 | none=>rw[show QQ M.one.top.v x.a=none from ha] at h;cases h
 | some a =>
   obtain⟨n,r,p⟩:=F.at ha
   rw[show QQ M.one.top.v x.a=some a from ha] at h
   rw[show iAt R.one.top.v x.a=some n from r]
   simp only at h |-
   rw[Xr (by omega),Xs e] at h
   cases hl:Q9 M.top.v x.args with
   | none=>rw[show Q9 M.one.top.v x.args=none from hl] at h;cases h
   | some xs =>
     rw[show Q9 M.one.top.v x.args=some xs from hl] at h
     obtain⟨b,l,t,c,s⟩:=F.all hl
     rw[show QaA R.one.top.v x.args=some b from l]
     simp only at h |-
     have d:((⟨false,xs⟩:Qw).sz:Int)=if xs.length=0 then 1 else (xs.length:Int):=by
      unfold Qw.sz;simp only[Bool.false_eq_true,if_false]
      split<;>omega
     unfold Qd.tuple at h;rw[<-d] at h
     have o:(if b.length=0 then 1 else (b.length:Int))=((⟨false,xs⟩:Qw).sz:Int):=by rw[d,c]
     rw[o]
     exact⟨_,Z,S.made f p (by unfold Qw.sz;simp only[Bool.false_eq_true,if_false];omega) ⟨fun _=>⟨c,fun j y g=>by
      obtain⟨k,i⟩:∃ k,b[j]?=some k:=⟨_,Zg (by rw[c];exact(Zi g).1)⟩
      have:=s j y k g i
      rw[List.getD_eq_getElem?_getD,i]
      exact this⟩,fun q=>by cases q⟩ h⟩
theorem QfN (S:Sim φ π M R) (f:M.done=false) (e:x.op=8) (h:IM.ins m op M.one x=some M'):ZC m op R x M':=by
 rw[Zv (by omega)] at h
 unfold IM.mem at h;unfold ZC RM.ins;rw[Xr (by omega),Xr (by omega),Xr (by omega),Xr (by omega),Xr (by omega),Xs e]
 have F:=S.top f
 cases ha:QQ M.top.v x.a with
 | none=>rw[show QQ M.one.top.v x.a=none from ha] at h;cases h
 | some a =>
   obtain⟨n,l,g⟩:=F.at ha
   rw[show QQ M.one.top.v x.a=some a from ha] at h
   rw[show iAt R.one.top.v x.a=some n from l]
   simp only at h |-
   rw[Xr (by omega),Xr (by omega),Xs e] at h
   cases hb:QS M.top.v x.b with
   | none=>rw[show QS M.one.top.v x.b=none from hb] at h;cases h
   | some k =>
     rw[show QS M.one.top.v x.b=some k from hb] at h
     rw[show iAt R.one.top.v x.b=some k from F.num hb]
     simp only at h |-
     by_cases d:k<0\/15<k
     ·rw[Xs d] at h;cases h
      rw[Xr (by omega)]
      exact⟨_,Z,S.stop 3⟩
     ·rw[Xr d] at h
      rw[Xs (by omega)]
      have c:M.one.got (M.h.array a k)=some M':=h;unfold Qd.array at c;rw[Xr d] at c
      have i:((⟨true,List.replicate k.toNat (Qct 0)⟩:Qw).sz:Int)=k+1:=by
       unfold Qw.sz;simp;omega
      rw[<-i] at c |-
      refine⟨_,Z,S.made f g (by omega) ⟨fun o=>(by cases o),fun _=>⟨by simp;omega,fun j y p=>?_⟩⟩ c⟩
      exact List.eq_of_mem_replicate (Zm p)
theorem ZY {n:Int}(b:0<=n) (a:n<2000):wrap64 n=n:=by unfold wrap64;omega
theorem Qax (h:x.op=6\/x.op=7\/x.op=9\/x.op=10\/x.op=11):RM.ins op R x=R.part x:=by
 unfold RM.ins;rw[Xr (by omega),Xr (by omega),Xr (by omega),Xr (by omega),Xr (by omega),Xr (by omega),Xr (by omega),Xr (by omega),Xr (by omega)]
theorem QjA (S:Sim φ π M R) (d:M.done=false) (e:x.op=6) (h:IM.ins m op M.one x=some M'):ZC m op R x M':=by
 rw[Zv (by omega)] at h
 unfold IM.mem at h;unfold ZC;rw[Qax (by omega)]
 unfold RM.part;have F:=S.top d
 cases ha:QQ M.top.v x.a with
 | none=>rw[show QQ M.one.top.v x.a=none from ha] at h;cases h
 | some a =>
   obtain⟨n,g,c⟩:=F.at ha
   rw[show QQ M.one.top.v x.a=some a from ha] at h
   rw[show iAt R.one.top.v x.a=some n from g]
   simp only at h |-
   rw[Xr (by omega),Xr (by omega),Xr (by omega),Xs e] at h
   rw[Xs e]
   split at h
   ·rename_i b
    cases h
    obtain⟨p,o,i⟩:=S.heap.get c b.1 b.2
    have j:0<=n/\n<1024:=by
     cases ht:M.h.thing a with
     | none =>
       have:=b.2
       have f:(M.h.get a x.k).2=20:=by unfold Qd.get;rw[ht]
       rw[show (M.one.h.get a x.k).2=(M.h.get a x.k).2 from Z,f] at this;cases this
     | some t =>
       obtain⟨l,T⟩:=S.heap.at c ht
       have:=T.run.low S.heap.ok
       have:=S.heap.ok.ok.most
       have:=t.sz_pos
       simp only at *
       omega
    rw[ZY (by omega) (by omega)]
    exact⟨_,Z,S.one1 d i⟩
   ·cases h
theorem QhS (S:Sim φ π M R) (d:M.done=false) (e:x.op=11) (h:IM.ins m op M.one x=some M'):ZC m op R x M':=by
 rw[Zv (by omega)] at h
 unfold IM.mem at h;unfold ZC;rw[Qax (by omega)]
 unfold RM.part;have F:=S.top d
 cases ha:QQ M.top.v x.a with
 | none=>rw[show QQ M.one.top.v x.a=none from ha] at h;cases h
 | some a =>
   obtain⟨n,g,f⟩:=F.at ha
   rw[show QQ M.one.top.v x.a=some a from ha] at h
   rw[show iAt R.one.top.v x.a=some n from g]
   simp only at h |-
   rw[Xr (by omega),Xr (by omega),Xr (by omega),Xr (by omega),Xr (by omega),Xr (by omega),Xr (by omega)] at h
   rw[Xr (by omega),Xr (by omega),Xr (by omega),Xr (by omega),Xs e]
   split at h
   ·rename_i b
    cases h
    have c:=S.heap.len f b.1 b.2
    have:=S.one1 d (Qee (h:=M.h) (φ:=φ) (π:=π) (M.h.len a).1)
    rw[<-c] at this
    exact⟨_,Z,by rw[<-c];exact this⟩
   ·cases h
theorem Qhl (S:Sim φ π M R) (i:M.done=false) (e:x.op=9) (h:IM.ins m op M.one x=some M'):ZC m op R x M':=by
 rw[Zv (by omega)] at h
 unfold IM.mem at h;unfold ZC;rw[Qax (by omega)]
 unfold RM.part;have F:=S.top i
 cases ha:QQ M.top.v x.a with
 | none=>rw[show QQ M.one.top.v x.a=none from ha] at h;cases h
 | some a =>
   obtain⟨n,r,f⟩:=F.at ha
   rw[show QQ M.one.top.v x.a=some a from ha] at h
   rw[show iAt R.one.top.v x.a=some n from r]
   simp only at h |-
   rw[Xr (by omega),Xr (by omega),Xr (by omega),Xr (by omega),Xr (by omega),Xs e] at h
   rw[Xr (by omega),Xr (by omega),Xs e]
   cases hb:QS M.top.v x.b with
   | none=>rw[show QS M.one.top.v x.b=none from hb] at h;cases h
   | some k =>
     rw[show QS M.one.top.v x.b=some k from hb] at h
     rw[show iAt R.one.top.v x.b=some k from F.num hb]
     simp only at h |-
     split at h
     ·rename_i j
      split at h
      ·rename_i c
       cases h
       obtain⟨d,-⟩:=S.heap.num f j (.inr c)
       rw[Xr (show ¬ (0<=k/\k<R.one.load n) from d.1 c)]
       exact⟨_,Z,S.stop 2⟩
      ·rename_i c
       split at h
       ·rename_i g
        cases h
        obtain⟨d,t⟩:=S.heap.num f j (.inl g)
        obtain⟨o,s,l,u,w⟩:=t g
        rw[Xs (show 0<=k/\k<R.one.load n from Xq.1 (fun p=>c (d.2 p))),ZY (n:=n+1) (by omega) (by omega),ZY (by omega) l]
        refine⟨_,Z,S.one1 i ⟨fun _=>s,fun q=>?_⟩⟩
        rw[o] at q;omega
       ·cases h
     ·cases h
theorem QiR (S:Sim φ π M R) (w:M.done=false) (e:x.op=7) (h:IM.ins m op M.one x=some M'):ZC m op R x M':=by
 rw[Zv (by omega)] at h
 unfold IM.mem at h;unfold ZC;rw[Qax (by omega)]
 unfold RM.part;have F:=S.top w
 cases ha:QQ M.top.v x.a with
 | none=>rw[show QQ M.one.top.v x.a=none from ha] at h;cases h
 | some a =>
   obtain⟨n,G,A⟩:=F.at ha
   rw[show QQ M.one.top.v x.a=some a from ha] at h
   rw[show iAt R.one.top.v x.a=some n from G]
   simp only at h |-
   rw[Xr (by omega),Xr (by omega),Xr (by omega),Xr (by omega),Xs e] at h
   rw[Xr (by omega),Xs e]
   cases hb:QQ M.top.v x.b with
   | none=>rw[show QQ M.one.top.v x.b=none from hb] at h;cases h
   | some y =>
     obtain⟨z,C,o⟩:=F.at hb
     rw[show QQ M.one.top.v x.b=some y from hb] at h
     rw[show iAt R.one.top.v x.b=some z from C]
     simp only at h |-
     split at h
     ·rename_i u
      cases h
      have f:(M.h.set a x.k y).1=0:=u.2
      cases ht:M.h.thing a with
      | none=>unfold Qd.set at f;rw[ht] at f;cases f
      | some t =>
        obtain⟨-,p,E,-,-,q⟩:=Qd.thing_iff.1 ht
        have d:t.arr=false:=by rw[q];simp[show a.kind=3 from u.1]
        have D:0<=x.k/\x.k.toNat<t.l.length:=by
         unfold Qd.set at f;rw[ht,E] at f
         simp only at f
         rw[Xr (fun c=>by rw[d] at c;cases c.1)] at f
         split at f
         ·cases f
         ·omega
        obtain⟨J,T⟩:=S.heap.at A ht
        have g:=T.run.low S.heap.ok;have I:=S.heap.ok.ok.most;have L:=t.sz_l d;simp only at g
        obtain⟨H,i,B⟩:=S.heap.set A ht D.2 (y:=y) (z:=z) (fun _=>o) (fun c=>by rw[d] at c;cases c)
        have s:((x.k.toNat:Nat):Int)=x.k:=by omega
        rw[s,d] at i
        rw[s] at B
        simp only[Bool.false_eq_true,if_false,Int.add_zero] at i
        rw[ZY (by omega) (by omega)]
        refine⟨_,Z,?_⟩
        exact S.next0 w i B (xs:=[]) (ns:=[]) Z (fun j x n h=>by simp at h) M.top.r |> fun K=>by
         simp only[List.append_nil] at K
         unfold RM.on;simp only[List.append_nil]
         exact K
     ·cases h
theorem Qfx (S:Sim φ π M R) (A:M.done=false) (e:x.op=10) (h:IM.ins m op M.one x=some M'):ZC m op R x M':=by
 rw[Zv (by omega)] at h
 unfold IM.mem at h;unfold ZC;rw[Qax (by omega)]
 unfold RM.part;have F:=S.top A
 cases ha:QQ M.top.v x.a with
 | none=>rw[show QQ M.one.top.v x.a=none from ha] at h;cases h
 | some a =>
   obtain⟨n,E,w⟩:=F.at ha
   rw[show QQ M.one.top.v x.a=some a from ha] at h
   rw[show iAt R.one.top.v x.a=some n from E]
   simp only at h |-
   rw[Xr (by omega),Xr (by omega),Xr (by omega),Xr (by omega),Xr (by omega),Xr (by omega),Xs e] at h
   rw[Xr (by omega),Xr (by omega),Xr (by omega),Xs e]
   cases hb:QS M.top.v x.b with
   | none=>rw[show QS M.one.top.v x.b=none from hb] at h;cases h
   | some k =>
     rw[show QS M.one.top.v x.b=some k from hb] at h
     rw[show iAt R.one.top.v x.b=some k from F.num hb]
     simp only at h |-
     cases hcc:QS M.top.v x.c with
     | none=>rw[show QS M.one.top.v x.c=none from hcc] at h;cases h
     | some z =>
       rw[show QS M.one.top.v x.c=some z from hcc] at h
       rw[show iAt R.one.top.v x.c=some z from F.num hcc]
       simp only at h |-
       split at h
       ·rename_i G
        cases ht:M.h.thing a with
        | none =>
          have:(M.h.set a k (Qct z))=(20,M.h):=by unfold Qd.set;rw[ht]
          rw[show M.one.h=M.h from Z,this] at h
          simp at h
        | some t =>
          obtain⟨-,p,C,-,-,s⟩:=Qd.thing_iff.1 ht
          have d:t.arr=true:=by rw[s];simp[show a.kind=4 from G]
          obtain⟨B,T⟩:=S.heap.at w ht
          have f:R.e.p.load n=t.l.length:=by
           have:=S.heap.load T (m:=0) t.sz_pos
           rw[Nat.add_zero] at this
           rw[B,this,T.len d]
          have g:=T.run.low S.heap.ok;have H:=S.heap.ok.ok.most;have I:=t.sz_a d;simp only at g
          by_cases q:k<0\/t.l.length<=k.toNat
          ·have:(M.h.set a k (Qct z)).1=1:=by
            unfold Qd.set;rw[ht,C];simp only;rw[Xr (fun c=>c.2 Z),Xs q]
           rw[show M.one.h=M.h from Z,Xs this] at h
           cases h
           rw[Xr (show ¬ (0<=k/\k<R.one.load n) from fun c=>by have:k<R.e.p.load n:=c.2;rw[f] at this;omega)]
           exact⟨_,Z,S.stop 2⟩
          ·obtain⟨o,i,u⟩:=S.heap.set w ht (k:=k.toNat) (by omega) (y:=Qct z) (z:=z) (fun c=>by rw[d] at c;cases c) (fun _=>⟨Z,Z⟩)
           have D:((k.toNat:Nat):Int)=k:=by omega
           rw[D] at o i u
           rw[show M.one.h=M.h from Z,Xr (by rw[o];decide),Xs o] at h
           cases h
           rw[d] at i
           simp only[if_true] at i
           rw[Xs (show 0<=k/\k<R.one.load n from ⟨by omega,by show k<R.e.p.load n;rw[f];omega⟩),ZY (n:=n+1) (by omega) (by omega),ZY (by omega) (by omega)]
           refine⟨_,Z,?_⟩
           have K:=S.next0 A i u (xs:=[]) (ns:=[]) Z (fun j x n h=>by simp at h) M.top.r;simp only[List.append_nil] at K
           unfold RM.on RM.stored;simp only[List.append_nil]
           rw[show n+1+k=n+k+1 by omega]
           exact K
       ·cases h
theorem QgT (S:Sim φ π M R) (b:M.done=false) (o:M.rest.length<40) (e:x.op=14) (h:IM.ins m op M.one x=some M'):ZC m op R x M':=by
 unfold IM.ins at h;rw[Xr (by omega),Xr (by omega),Xr (by omega),Xr (by omega),Xr (by omega),Xs e] at h
 unfold IM.call at h;unfold ZC RM.ins;rw[Xr (by omega),Xr (by omega),Xr (by omega),Xr (by omega),Xr (by omega),Xr (by omega),Xr (by omega),Xr (by omega),Xs e]
 have F:=S.top b;have n:=(S.rest b).length
 cases hr:QbM M.one.top.r x.regs with
 | none=>rw[hr] at h;cases h
 | some r =>
   rw[hr] at h
   simp only at h
   cases hv:Q9 M.top.v x.args with
   | none=>rw[show Q9 M.one.top.v x.args=none from hv] at h;cases h
   | some v =>
     rw[show Q9 M.one.top.v x.args=some v from hv] at h
     simp only at h
     obtain⟨d,c,l,j,f⟩:=F.all hv
     cases hg:m[x.k.toNat]? with
     | none=>rw[hg] at h;cases h
     | some g =>
       rw[hg] at h
       simp only at h
       split at h
       ·by_cases a:M.rest.length+1=40
        ·rw[Xs (show M.one.rest.length+1=40 from a)] at h
         cases h
         rw[Xr (show ¬ R.rest.length+1<40 by omega)]
         exact⟨_,Z,S.stop 5⟩
        ·rw[Xr (show ¬ M.one.rest.length+1=40 from a)] at h
         cases h
         rw[Xs (show R.rest.length+1<40 by omega),show QaA R.one.top.v x.args=some d from c]
         refine⟨_,Z,⟨φ,π,S.heap,S.done,S.out,S.back,by show R.fuel+1=M.fuel+1;rw[S.fuel],S.fin,fun _=>S.inp b,fun _=>⟨Z,Z,Z,by simp[j],f⟩,fun _=>⟨⟨F.eF,F.eB,by show R.top.i+1=M.top.i+1;rw[F.eI],F.len,F.val⟩,S.rest b⟩⟩⟩
       ·cases h
theorem Qiz (S:Sim φ π M R) (a:M.done=false) (c:M.rest.length<40) (b:M.out.length<=2000) (f:1<=x.op/\x.op<=14) (d:x.op=5->x.args.length<=16) (h:IM.ins m op M.one x=some M'):ZC m op R x M':=by
 have:x.op=1\/x.op=2\/x.op=3\/x.op=4\/x.op=5\/x.op=6\/x.op=7\/x.op=8\/x.op=9\/x.op=10\/x.op=11\/x.op=12\/x.op=13\/x.op=14:=by omega
 rcases this with e | e | e | e | e | e | e | e | e | e | e | e | e | e
 ·exact Qjl S a e h
 ·exact Qjc S a e h
 ·exact Qh4 S a e h
 ·exact QgW S a e h
 ·exact QfP S a (d e) e h
 ·exact QjA S a e h
 ·exact QiR S a e h
 ·exact QfN S a e h
 ·exact Qhl S a e h
 ·exact Qfx S a e h
 ·exact QhS S a e h
 ·exact Qkm S a e h
 ·exact Qib S a b e h
 ·exact QgT S a c e h
theorem QfA (S:Sim φ π M R) (a:M.done=false){fn:MFunc 6}{t:MTo}(h:IM.to fn { M with fuel:=M.fuel+1 } t=some M'):∃ R',R.one.to t=some R'/\Qex M' R':=by
 unfold IM.to at h;unfold RM.to;have F:=S.top a
 cases hb:fn.blocks[t.block.toNat]? with
 | none=>rw[hb] at h;cases h
 | some b =>
   rw[hb] at h
   simp only at h
   cases hr:QbM M.top.r t.regs with
   | none=>rw[hr] at h;cases h
   | some r =>
     rw[hr] at h
     simp only at h
     cases hv:Q9 M.top.v t.args with
     | none=>rw[hv] at h;cases h
     | some v =>
       rw[hv] at h
       obtain⟨d,c,g,f,e⟩:=F.all hv
       rw[show QaA R.one.top.v t.args=some d from c]
       simp only at h |-
       split at h
       ·cases h
        exact⟨_,Z,⟨φ,π,S.heap,S.done,S.out,S.back,by show R.fuel+1=M.fuel+1;rw[S.fuel],S.fin,fun _=>S.inp a,fun _=>⟨F.eF,Z,Z,by simp[f],e⟩,fun _=>S.rest a⟩⟩
       ·cases h
theorem Qi5 (S:Sim φ π M R) (g:M.done=false){fn:MFunc 6}{e:ZA}(q:1<=e.op/\e.op<=3) (h:IM.endd fn { M with fuel:=M.fuel+1 } e=some M'):∃ R',R.one.endd e=some R'/\Qex M' R':=by
 have F:=S.top g;unfold IM.endd at h;unfold RM.endd
 have:e.op=1\/e.op=2\/e.op=3:=by omega
 rcases this with f | f | f
 ·rw[Xs f] at h
  rw[Xr (by omega),Xr (by omega)]
  exact QfA S g h
 ·rw[Xr (by omega),Xs f] at h
  rw[Xr (by omega),Xs f]
  cases hn:QS M.top.v e.a with
  | none=>simp only[hn] at h;cases h
  | some n =>
    simp only[hn] at h
    rw[show iAt R.one.top.v e.a=some n from F.num hn]
    simp only
    split at h
    ·rename_i j;rw[Xs j];exact QfA S g h
    ·rename_i j;rw[Xr j];exact QfA S g h
 ·rw[Xr (by omega),Xr (by omega)] at h
  rw[Xs f]
  cases hv:Q9 M.top.v e.args with
  | none=>simp only[hv] at h;cases h
  | some v =>
    simp only[hv] at h
    obtain⟨ns,l,p,o,m⟩:=F.all hv
    rw[show QaA R.one.top.v e.args=some ns from l]
    simp only
    split at h
    ·have c:=S.rest g
     cases hm:M.rest with
     | nil =>
       rw[hm] at h c
       cases hr:R.rest with
       | cons b k=>rw[hr] at c;exact c.elim
       | nil =>
         simp only at h
         cases hn:Qcl M.top.v e.args with
         | none=>rw[hn] at h;cases h
         | some n =>
           rw[hn] at h
           cases h
           have:=F.nums hn
           rw[l] at this
           cases this
           exact⟨_,Z,⟨φ,π,S.heap,Z,S.out,Z,by show R.fuel+1=M.fuel+1;rw[S.fuel],Z,fun h=>(by cases h),fun h=>(by cases h),fun h=>(by cases h)⟩⟩
     | cons d rest =>
       rw[hm] at h c
       cases hr:R.rest with
       | nil=>rw[hr] at c;exact c.elim
       | cons b k =>
         rw[hr] at c
         simp only at h
         cases h
         have G:=c.1.push (xs:=v) (ns:=ns) o m d.i b.i c.1.eI;exact⟨_,Z,⟨φ,π,S.heap,S.done,S.out,S.back,by show R.fuel+1=M.fuel+1;rw[S.fuel],S.fin,fun _=>S.inp g,fun _=>⟨G.eF,G.eB,G.eI,G.len,G.val⟩,fun _=>c.2⟩⟩
    ·cases h
def QmU (m:List (MFunc 6)):Prop:=∀ (k:Nat) fn (q:Nat) bl,m[k]?=some fn->fn.blocks[q]?=some bl->(∀ x∈bl.code,(1<=x.op/\x.op<=14)/\(x.op=5->x.args.length<=16))/\1<=bl.fin.op/\bl.fin.op<=3
theorem QgO (H:QmU m) (S:Sim φ π M R) (d:M.done=false) (j:M.rest.length<40) (a:M.out.length<=2000)(h:IM.step m op most M=some M'):∃ R',RM.step m op most R=some R'/\Qex M' R':=by
 have F:=S.top d;unfold IM.step at h;unfold RM.step;rw[S.fuel]
 split at h
 ·rename_i c
  cases h
  rw[Xs c]
  exact⟨_,Z,Sim.over (H:=S.heap) S.out S.back S.fuel 7⟩
 ·rename_i c
  rw[Xr c,F.eF]
  cases hm:m[M.top.f]? with
  | none=>rw[hm] at h;cases h
  | some fn =>
    rw[hm] at h
    simp only at h |-
    rw[F.eB]
    cases hb:fn.blocks[M.top.b]? with
    | none=>rw[hb] at h;cases h
    | some bl =>
      rw[hb] at h
      simp only at h |-
      rw[F.eI]
      obtain⟨l,g⟩:=H _ fn _ bl hm hb
      cases hx:bl.code[M.top.i]? with
      | some x =>
        rw[hx] at h
        simp only at h |-
        obtain⟨k,e⟩:=l x (Zm hx)
        have:=Qiz S d j a k e h
        unfold ZC at this;rw[show R.one={ R with fuel:=M.fuel+1 } by show { R with fuel:=R.fuel+1 }=_;rw[S.fuel]] at this
        exact this
      | none =>
        rw[hx] at h
        simp only at h |-
        have:=Qi5 S d g h
        rw[show R.one={ R with fuel:=M.fuel+1 } by show { R with fuel:=R.fuel+1 }=_;rw[S.fuel]] at this
        exact this
theorem Qhb (inp:List Int)(c:pages<=64):Qex (IM.start inp pages) (RM.start inp pages):=by
 have a:∀ k,(IM.start inp pages).h.place k=none:=fun k=>by
  show (Qd.new pages).place k=none;unfold Qd.place;simp[Qd.new]
 refine⟨fun _=>0,fun _ _=>0,⟨Est.ok_new pages c,?_,fun k p h=>?_,fun j k p q h=>?_,fun i r b=>?_,fun j r b=>?_,fun k p i t h=>?_,fun k p i t g d e f h=>?_⟩,Z,Z,Z,Z,Z,fun _=>rfl,fun _=>⟨Z,Z,Z,Z,fun j x n h=>by simp[IM.start] at h⟩,fun _=>trivial⟩
 ·show (pages:Int)=(PSt.new pages).free;simp[PSt.free,PSt.new]
 ·rw[a] at h;cases h
 ·rw[a] at h;cases h
 ·cases b
 ·cases b
 ·rw[a] at h;cases h
 ·rw[a] at h;cases h
end
theorem Qe8 {α:Type}{f a:α->Option α}:∀ {l l':List α},(∀ x∈l,∀ u,f x=some u->a x=some u)->ZT f l=some l'->ZT a l=some l'
 | [],l',_,h=>by simp[ZT] at h;subst h;rfl
 | x::xs,l',hx,h=>by
   simp only[ZT] at h
   cases h1:f x with
   | none=>simp[h1] at h
   | some y =>
     simp only[h1] at h
     cases h2:ZT f xs with
     | none=>simp[h2] at h
     | some ys =>
       simp only[h2] at h
       cases h
       simp only[ZT,hx x (by simp) y h1,Qe8 (fun z b=>hx z (by simp[b])) h2]
theorem TT.ren_more {m d:Nat}{b a:Nat->Int}(c:∀ k r r',ZK m b k r=some r'->ZK d a k r=some r'):{n:Nat}->{t u:TT n}->t.ren m b=some u->t.ren d a=some u
 | 0,t,_,_=>Empty.elim t
 | n+1,t,u,h=>by
   obtain⟨g,e,i⟩:=Zn h
   rw[ZV (c _ _ _ e) (Qe8 (fun x _ v f=>TT.ren_more c f) i),<-g]
   rfl
section
variable {m:List (MFunc 6)}{g g':Sig}{M M':IM}{fn:MFunc 6}{bl:MBlock 6}{s:JSt}{x:Qt}{op:Int->Int->Int->Option Int}{h:Qd}{v:List Q1}{r:List Int}
theorem Qh1 (I:Inv m g M fn bl s) (hx:bl.code[M.top.i]?=some x) (J:s.code x=0) (z:x.op=4):QbX m op M x:=by
 obtain⟨t,j,Q,tk,U,P,N,S⟩:=QhZ J z
 have E:=(QN J).2.1;rw[Qar z,Q] at E
 simp only at E
 obtain⟨ha,O⟩:=QD E
 have A:s.f.regs<=j:=by
  by_cases e:t.r<s.f.regs
  ·rw[Xs e] at O;cases O
  ·omega
 obtain⟨a,t',u,K,T,V,e4,e5,e6,e7,X⟩:=I.fr.want ha
 rw[Q] at K;cases K
 obtain⟨p,hp⟩:=X Z (by omega)
 have n:a.region=u.r:=by
  rcases e4 with ⟨c1,-⟩|⟨-,-,c⟩|⟨-,-,c,-⟩
  ·omega
  ·exact c
  ·exact c
 obtain⟨q1,q2,q3⟩:=Ql1 V (by omega)
 have w:u.r=M.top.r.getD j 0:=by rw[q3,U];rfl
 have q:M.h.at a=some p:=by unfold Qd.at;rw[Xs e5,n];exact hp
 obtain⟨-,hq,i,R,hL,aa⟩:=Qd.at_some q
 have o:M.h.shut a=(true,⟨M.h.L.set a.region.toNat noP,M.h.left+p.pages⟩):=by unfold Qd.shut;rw[q]
 have y:∀ k:Int,k≠u.r->(M.h.shut a).2.place k=M.h.place k:=fun k b=>by
  rw[o];simp only
  rw[Qd.place_set (by rw[R];exact(Zi hL).1),Xr (fun e=>b (by rw[e,<-n,R];simp))]
 unfold QbX;rw[Zv (by omega)]
 unfold IM.mem;have C:QQ M.one.top.v x.a=some a:=T;rw[C]
 simp only
 rw[Xs z]
 show ∃ M',(if (M.h.shut a).1 then some { M.one with h:=(M.h.shut a).2 } else none)=some M'/\Qby m M';rw[Xs (by rw[o])]
 refine⟨_,Z,.inr ⟨g,fn,bl,_,I.on hx Z Z Z Z ?_ (I.st.shut a) ?_⟩⟩
 ·rw[S]
  have d:∀ k,(s.H.set j false).getD k false=true->k≠j/\s.H.getD k false=true:=fun k b=>by
   by_cases e:k=j
   ·subst e;simp[List.getD,P] at b
   ·refine⟨e,?_⟩
    simpa[List.getD,List.getElem?_set_ne (Ne.symm e)] using b
  refine⟨by simpa using I.fr.rl,I.fr.pos,fun k b=>?_,fun k l b W=>I.fr.dist k l (d k b).2 (d l W).2,I.fr.vl,I.fr.val⟩
  obtain⟨k1,G⟩:=d k b
  obtain⟨p',B⟩:=I.fr.held k G
  exact⟨p',by rw[y _ (fun e=>k1 (I.fr.dist k j G N (by rw[e,w])))];exact B⟩
 ·rw[S]
  refine I.stk.keep (fun _ _ _ h=>h) (fun k b D=>?_) (fun k b=>?_) (fun k _=>rfl)
  ·have:k≠u.r:=fun e=>b ⟨j,N,A,by rw[e,w]⟩
   show ∃ p,(M.h.shut a).2.place k=some p;rw[y k this];exact D
  ·obtain⟨l,F,l2,l3⟩:=b
   refine .inl ⟨l,?_,l2,l3⟩;by_cases e:l=j
   ·subst e;simp[List.getD,P] at F
   ·simpa[List.getD,List.getElem?_set_ne (Ne.symm e)] using F
theorem Qks (I:Inv m g M fn bl s) (hx:bl.code[M.top.i]?=some x) (hc:s.code x=0) (T:x.op=3) (hJ:s.f.regs<=s.H.length):QbX m op M x:=by
 have S:=QbS (s:=s) T;have h0:=(QN hc).2.1;have X:¬ s.H.length=16:=fun e=>by rw[S,Xs e] at h0;cases h0
 rw[Xr X] at S
 unfold QbX IM.ins;rw[Xr (by omega),Xr (by omega),Xs T]
 show ∃ M',(if M.h.open_.2.1 then some (IM.push { M.one with h:=M.h.open_.2.2,top:={ M.one.top with r:=M.top.r++[M.h.open_.1.region] } } [M.h.open_.1]) else some (M.one.over 6))=some M'/\Qby m M';by_cases ho:16<=M.h.live
 ·have:M.h.open_.2.1=false:=by unfold Qd.open_;rw[Xs ho]
  rw[Xr (by rw[this];decide)]
  exact⟨_,Z,IM.over_good _ _ _⟩
 ·have Q:M.h.open_=(⟨2,M.h.L.length,0,0⟩,true,{ M.h with L:=M.h.L++[newP] }):=by unfold Qd.open_;rw[Xr ho]
  rw[Xs (by rw[Q])]
  have E:M.h.open_.1.region=(M.h.L.length:Int):=by rw[Q]
  have N:∀ k:Int,M.h.open_.2.2.place k=if k=M.h.L.length then some newP else M.h.place k:=fun k=>by
   rw[Q];exact Qd.place_push M.h newP k M.h.left
  have l:∀ k p,M.h.place k=some p->∃ p,M.h.open_.2.2.place k=some p:=fun k p e=>by
   rw[N];split
   ·exact⟨_,Z⟩
   ·exact⟨p,e⟩
  have n:M.h.place (M.h.L.length:Int)=none:=by
   rw[Qd.place_nat,Xk Ze]
  have w:(s.next x).H=s.H++[true]:=by unfold JSt.next;simp only;rw[Xs T]
  have K:(s.next x).L=s.L++[mkT 2 s.H.length []]:=by unfold JSt.next;simp only;rw[S]
  have D:=I.fr.rl
  have d:∀ k,k<s.H.length->(M.top.r++[(M.h.L.length:Int)]).getD k 0=M.top.r.getD k 0:=fun k c=>by
   simp[List.getD,List.getElem?_append_left (show k<M.top.r.length by omega)]
  have o:(M.top.r++[(M.h.L.length:Int)]).getD s.H.length 0=M.h.L.length:=by
   simp[List.getD,<-D]
  have A:∀ k,(s.H++[true]).getD k false=true->(k<s.H.length/\s.H.getD k false=true)\/k=s.H.length:=fun k c=>by
   rcases Nat.lt_trichotomy k s.H.length with e | e | e
   ·refine .inl ⟨e,?_⟩;simpa[List.getD,List.getElem?_append_left e] using c
   ·exact .inr e
   ·rw[Qao _ (by simp;omega)] at c;cases c
  have C:∀ {t u:TT 6},rtm M.top.r t=some u->rtm (M.top.r++[(M.h.L.length:Int)]) t=some u:=fun {t u} hu=>by
   refine TT.ren_more (fun k q q' z=>?_) hu;unfold ZK at z |-;by_cases c:k=1
   ·rw[Xs c] at z |-;exact z
   ·rw[Xr c] at z |-
    by_cases hb:q<0\/(M.top.r.length:Int)<=q
    ·rw[Xs hb] at z;cases z
    ·rw[Xr hb] at z
     rw[Xr (by simp;omega)]
     have e:=d q.toNat (by omega);simp only at z |-
     rw[e]
     exact z
  refine⟨_,Z,.inr ⟨g,fn,bl,_,I.on hx Z Z Z Z ?_ I.st.open ?_⟩⟩
  ·show FrT g M.h.open_.2.2 (s.next x) (M.top.v++[M.h.open_.1]) (M.top.r++[M.h.open_.1.region]);rw[E]
   refine⟨by rw[w];simp[D],fun k c=>?_,fun k c=>?_,fun j k hj c e=>?_,by rw[K];simp[I.fr.vl],fun j t y B F=>?_⟩
   ·rcases List.mem_append.1 c with e | e
    ·exact I.fr.pos k e
    ·simp at e;omega
   ·rw[w] at c
    rcases A k c with ⟨e1,e2⟩ | e
    ·rw[d k e1];obtain⟨p,R⟩:=I.fr.held k e2;exact l _ p R
    ·rw[e,o,N,Xs Z];exact⟨_,Z⟩
   ·rw[w] at hj c
    have J:∀ i,s.H.getD i false=true->i<s.H.length->M.top.r.getD i 0≠(M.h.L.length:Int):=fun i hi hl e=>by
     obtain⟨p,R⟩:=I.fr.held i hi
     rw[e,n] at R;cases R
    rcases A j hj with ⟨G,O⟩ | a<;>rcases A k c with ⟨W,b2⟩ | b
    ·rw[d j G,d k W] at e;exact I.fr.dist j k O b2 e
    ·rw[d j G,b,o] at e;exact absurd e (J j O G)
    ·rw[d k W,a,o] at e;exact absurd e.symm (J k b2 W)
    ·rw[a,b]
   ·rw[K] at B
    rcases Nat.lt_or_ge j s.L.length with e | e
    ·rw[XP e] at B
     rw[XP (by rw[I.fr.vl];exact e)] at F
     obtain⟨u,u1,u2⟩:=I.fr.val j t y B F
     exact⟨u,C u1,u2⟩
    ·rw[XQ e] at B
     rw[XQ (by rw[I.fr.vl];exact e),I.fr.vl] at F
     have U:j - s.L.length=0:=by have:=(Zi B).1;simp at this;omega
     rw[U] at B F
     simp at B F
     subst B F;refine⟨mkT 2 (M.h.L.length:Int) [],?_,.inr (.inl ⟨Z,by rw[Q],by rw[E];rfl⟩)⟩
     refine ZV (t:=(mkT 2 (s.H.length:Int) []:TT 6)) ?_ Z;show ZK _ _ 2 (s.H.length:Int)=_;unfold ZK;rw[Xr (by decide),Xr (by simp[D];omega)]
     simp only[Int.toNat_natCast]
     rw[o,Xr (by omega)]
  ·show Stk m g M.h.open_.2.2 (Own (s.next x) (M.top.r++[M.h.open_.1.region])) fn M.top.f (M.top.r++[M.h.open_.1.region]) M.rest;rw[E]
   have V:=I.mf.2;refine I.stk.keep (fun _ _ _ h=>h) (fun k _ ⟨p,e⟩=>l k p e) (fun k c=>?_) (fun k c=>?_)
   ·obtain⟨j,j1,j2,P⟩:=c
    rw[w] at j1
    rcases A j j1 with ⟨G,O⟩ | a
    ·rw[d j G] at P;exact .inl ⟨j,O,j2,P⟩
    ·rw[a,o] at P;exact .inr (by rw[<-P];exact n)
   ·rcases Nat.lt_or_ge k s.H.length with e | e
    ·exact d k e
    ·rw[<-V] at c;omega
theorem QeF (F:FrT g h s v r):∀ {l:List Int},(∀ k∈l,hHas s.H k=true)->∃ r',QbM r l=some r'/\r'.length=l.length/\(∀ j,j<l.length->r'.getD j 0=r.getD (l.getD j 0).toNat 0)/\∀ k∈r',0<=k
 | [],_=>⟨[],Z,Z,fun j d=>by simp at d,fun k b=>by simp at b⟩
 | k::l,hl=>by
   obtain⟨r',i,f,o,n⟩:=QeF F (l:=l) (fun z c=>hl z (by simp[c]))
   have b:=hl k (by simp);unfold hHas at b;simp only[Bool.and_eq_true,decide_eq_true_eq] at b
   have a:k.toNat<r.length:=by
    rw[F.rl]
    rcases Nat.lt_or_ge k.toNat s.H.length with e | e
    ·exact e
    ·rw[Qao _ e] at b;exact absurd b.2 (by decide)
   have m:Ql2 r k=some r[k.toNat]:=by unfold Ql2;rw[Xr (by omega)];exact Zg a
   refine⟨r[k.toNat]::r',by simp only[QbM,m,i],by simp[f],fun j d=>?_,fun z c=>?_⟩
   ·cases j with
    | zero=>simp[List.getD,Zg a]
    | succ j=>have:=o j (by simpa using d);simpa[List.getD] using this
   ·rcases List.mem_cons.1 c with e | e
    ·rw[e];exact F.pos _ (List.getElem_mem a)
    ·exact n z e
theorem Qek {r r':List Int}(w:n<=l.length) (g:n<=r'.length) (h:∀ j,j<n->0<=l.getD j 0/\(l.getD j 0).toNat<r.length) (f:∀ k∈r,0<=k) (s:∀ j,j<n->r'.getD j 0=r.getD (l.getD j 0).toNat 0){t d:TT 6}(p:t.ren n (fun i=>l.getD i 0)=some d):∃ u,rtm r d=some u/\t.ren n (fun i=>r'.getD i 0)=some u:=by
 refine TT.ren_comp (fun k q v a=>?_) p;unfold ZK at a;by_cases b:k=1
 ·rw[Xs b] at a;cases a
  exact⟨q,by unfold ZK;rw[Xs b],by unfold ZK;rw[Xs b]⟩
 ·rw[Xr b] at a
  by_cases c:q<0\/(n:Int)<=q
  ·rw[Xs c] at a;cases a
  ·rw[Xr c] at a
   obtain⟨x,e⟩:=h q.toNat (by omega)
   have m:=s q.toNat (by omega);simp only at a
   rw[Xr (by omega)] at a
   cases a
   have o:0<=r.getD (l.getD q.toNat 0).toNat 0:=by
    have:r.getD (l.getD q.toNat 0).toNat 0=r[(l.getD q.toNat 0).toNat]:=by rw[List.getD_eq_getElem?_getD,Zg e];rfl
    rw[this];exact f _ (List.getElem_mem e)
   refine⟨r.getD (l.getD q.toNat 0).toNat 0,?_,?_⟩
   ·unfold ZK;rw[Xr b,Xr (by omega)]
    simp only
    rw[Xr (by omega)]
   ·unfold ZK;rw[Xr b,Xr c]
    simp only
    rw[m,Xr (by omega)]
theorem Qf6 (F:FrT g h s v r){l:List Int}:∀ {a:List Int}{ts:List (TT 6)},a.length=ts.length->Qu (fun p:Int × TT 6=>s.arg l p.1 p.2) (a.zip ts)=0->∃ xs,Q9 v a=some xs/\xs.length=ts.length/\∀ (j:Nat) (y:Q1) (t:TT 6),xs[j]?=some y->ts[j]?=some t->∃ us u,t.ren l.length (fun i=>l.getD i 0)=some us/\rtm r us=some u/\Qea g y u
 | [],ts,hl,h0=>by
   have:ts=[]:=Xf.1 hl.symm
   subst this;exact⟨[],Z,Z,fun j y t c=>by simp at c⟩
 | k::a,[],hl,h0=>by simp at hl
 | k::a,t::ts,hl,h0=>by
   have f:=QF.1 h0;obtain⟨xs,w,n,C⟩:=Qf6 F (a:=a) (ts:=ts) (by simpa using hl) (QF.2 (fun p o=>f p (by simp[o])))
   have b:s.arg l k t=0:=f (k,t) (by simp);unfold JSt.arg at b
   cases ek:s.at k with
   | none=>rw[ek] at b;cases b
   | some us =>
     rw[ek] at b
     simp only at b
     by_cases m:ZU (t.ren l.length (fun i=>l.getD i 0)=some us)=true
     ·have d:t.ren l.length (fun i=>l.getD i 0)=some us:=by simpa[ZU] using m
      obtain⟨y,u,B,q,x⟩:=F.at ek
      refine⟨y::xs,by simp only[Q9,B,w],by simp[n],fun j z A c e=>?_⟩
      cases j with
      | zero=>simp at c e;subst c e;exact⟨us,u,d,q,x⟩
      | succ j=>exact C j z A (by simpa using c) (by simpa using e)
     ·rw[Xr m] at b;cases b
theorem QbQ (a:n<=16) (k:Nat):(QbW (n:Int)).getD k false=true↔k<n:=by
 unfold QbW
 have:(min (n:Int) 16).toNat=n:=by omega
 rw[this]
 rcases Nat.lt_or_ge k n with e | e
 ·simp[List.getD,e]
 ·simp[List.getD,e]
theorem FrT.hand (F:FrT g h s v r){a:List Int}{ts:List (TT 6)}(p:l.length<=16) (B:∀ k∈l,hHas s.H k=true) (x:l.Nodup) (w:s.args a ts l=0) (K:List (MFunc 6)) (J:MFunc 6) :
 ∃ r' v',QbM r l=some r'/\Q9 v a=some v'/\r'.length=l.length/\v'.length=ts.length/\(∀ j,j<l.length->r'.getD j 0=r.getD (l.getD j 0).toNat 0)/\FrT g h ⟨K,J,QbW (l.length:Int),ts⟩ v' r':=by
 obtain⟨r',M,A,q,R⟩:=QeF F B
 unfold JSt.args at w;by_cases i:a.length=ts.length
 ·rw[Xs i] at w
  obtain⟨v',S,E,T⟩:=Qf6 F i w
  have d:∀ j,j<l.length->0<=l.getD j 0/\s.H.getD (l.getD j 0).toNat false=true/\(l.getD j 0).toNat<r.length:=fun j o=>by
   have I:l.getD j 0∈l:=by simp only[List.getD,Zg o,Option.getD_some];exact List.getElem_mem o
   have m:=B _ I;unfold hHas at m;simp only[Bool.and_eq_true,decide_eq_true_eq] at m
   refine⟨m.1,m.2,?_⟩
   rw[F.rl]
   rcases Nat.lt_or_ge (l.getD j 0).toNat s.H.length with e | e
   ·exact e
   ·have C:=m.2;rw[Qao _ e] at C;cases C
  refine⟨r',v',M,S,A,E,q,⟨?_,R,fun k m=>?_,fun j k o m e=>?_,E,fun j t y N L=>?_⟩⟩
  ·show r'.length=(QbW (l.length:Int)).length
   have:=Qel (n:=(l.length:Int)) ⟨by omega,by omega⟩
   omega
  ·have b:=(QbQ p k).1 m;rw[q k b]
   exact F.held _ (d k b).2.1
  ·have f:=(QbQ p j).1 o;have b:=(QbQ p k).1 m;rw[q j f,q k b] at e
   have:=F.dist _ _ (d j f).2.1 (d k b).2.1 e
   have z:l.getD j 0=l.getD k 0:=by have:=(d j f).1;have:=(d k b).1;omega
   simp only[List.getD,Zg f,Zg b,Option.getD_some] at z
   rcases Nat.lt_trichotomy j k with c | c | c
   ·exact absurd z (List.pairwise_iff_getElem.1 x j k f b c)
   ·exact c
   ·exact absurd z.symm (List.pairwise_iff_getElem.1 x k j b f c)
  ·obtain⟨V,u,Q,D,O⟩:=T j y t L N
   obtain⟨U,G,P⟩:=Qek Ze (by omega) (fun j o=>⟨(d j o).1,(d j o).2.2⟩) F.pos q Q
   rw[G] at D;cases D
   exact⟨_,by show t.ren r'.length _=_;rw[A];exact P,O⟩
 ·rw[Xr i] at w;cases w
theorem Qbg {H:List Bool}:∀ {l ahead:List Int},QL H ahead l=0->l.Nodup/\∀ k∈l,k ∉ ahead
 | [],_,_=>⟨by simp,fun k b=>by simp at b⟩
 | k::l,ahead,h=>by
   simp only[QL] at h
   split at h
   ·split at h
    ·cases h
    ·rename_i g
     obtain⟨d,c⟩:=Qbg h
     refine⟨List.nodup_cons.2 ⟨fun b=>c k b (by simp),d⟩,fun z f=>?_⟩
     rcases List.mem_cons.1 f with e | e
     ·rw[e];exact fun a=>g (inB_iff.2 a)
     ·exact fun a=>c z e (by simp[a])
   ·cases h
theorem QcY {H:List Bool}:∀ {l ahead:List Int},hPass H ahead l=0->l.Nodup/\(∀ k∈l,k ∉ ahead)/\∀ k∈l,hHas H k=true
 | [],_,_=>⟨by simp,fun k a=>by simp at a,fun k a=>by simp at a⟩
 | k::l,ahead,h=>by
   simp only[hPass] at h
   split at h
   ·rename_i d
    split at h
    ·cases h
    ·rename_i i
     obtain⟨g,f,j⟩:=QcY h
     refine⟨List.nodup_cons.2 ⟨fun a=>f k a (by simp),g⟩,fun z c=>?_,fun z c=>?_⟩
     ·rcases List.mem_cons.1 c with e | e
      ·rw[e];exact fun b=>i (inB_iff.2 b)
      ·exact fun b=>f z e (by simp[b])
     ·rcases List.mem_cons.1 c with e | e
      ·rw[e];exact d
      ·exact j z e
   ·cases h
theorem Z2 (g:(modFault m).1=0){f:MFunc 6}(l:m[k]?=some f):∃ b,f.blocks[0]?=some b/\b.regs=f.regs/\b.params=f.params/\f.right m.length/\(k=0->f.regs=0/\f.params.length=0/\∀ t∈f.results,t.kind=1):=by
 have j:=(Zo g).2 f (Zm l);obtain⟨b,n⟩:∃ b,f.blocks[0]?=some b:=⟨_,Zg j.many.1⟩
 unfold modFault at g;split at g
 ·cases g
 have a:=QR g k f l;rw[XK] at a
 unfold MFunc.fault at a;split at a
 ·cases a
 split at a
 ·rename_i c;exact absurd a c
 split at a
 ·rename_i c;exact absurd a c
 split at a
 ·cases a
 split at a
 ·cases a
 rename_i h
 have c:=QR a 0 b n;simp only[Nat.zero_add] at c
 unfold MBlock.fault at c;split at c
 ·cases c
 split at c
 ·rename_i o;exact absurd c o
 split at c
 ·cases c
 rename_i i
 have d:b.regs=f.regs/\QcH b.params f.params=true:=by
  constructor
  ·exact Xq.1 fun e=>i ⟨Z,.inl e⟩
  ·cases e:QcH b.params f.params with
   | true=>rfl
   | false=>exact absurd ⟨Z,.inr e⟩ i
 refine⟨b,n,d.1,QcX.1 d.2,j,fun q=>?_⟩
 have:f.regs=0/\f.params.length=0/\f.results.all (fun t=>t.kind==1)=true:=Xq.1 fun e=>h ⟨q,e⟩
 refine⟨this.1,this.2.1,fun t p=>?_⟩
 have:=Xe.1 this.2.2 t p
 simpa using this
theorem Qij (R:(modFault m).1=0) (I:Inv m g M fn bl s) (C:bl.code[M.top.i]?=some x) (H:s.code x=0) (e:x.op=14):QbX m op M x:=by
 obtain⟨a,l,-⟩:=QN H
 have y:0<=x.k/\x.k<m.length/\x.regs.length<=6:=by
  rw[I.mf.1] at a
  unfold Qt.form at a;repeat' split at a
  all_goals first | omega | cases a
 obtain⟨d,c⟩:∃ d,m[x.k.toNat]?=some d:=⟨_,Zg (by omega)⟩
 rw[Qa8 e,I.mf.1,c] at l
 simp only at l
 by_cases p:(x.regs.length:Int)=d.regs
 ·rw[Xs p] at l
  obtain⟨B,N⟩:=QD l
  obtain⟨f,q,A,L,T,-⟩:=Z2 R c
  obtain⟨u,D,J,E,V,S,P,F⟩:=I.fr.hand (by omega) (ZF B) (Qbg B).1 N m d
  unfold QbX IM.ins;rw[Xr (by omega),Xr (by omega),Xr (by omega),Xr (by omega),Xr (by omega),Xs e]
  unfold IM.call;have t:QbM M.one.top.r x.regs=some u:=J;have w:Q9 M.one.top.v x.args=some D:=E;rw[t,w,c]
  simp only
  rw[Xs ⟨by omega,S⟩]
  by_cases n:M.rest.length+1=40
  ·rw[Xs n];exact⟨_,Z,IM.over_good _ _ _⟩
  ·rw[Xr n]
   refine⟨_,Z,.inr ⟨g,d,f,JSt.start m d f,⟨c,q,Xb _,Z,?_,I.st,?_⟩⟩⟩
   ·show FrT g M.h ⟨m,d,QbW f.regs,f.params⟩ D u;rw[A,L,<-p];exact F
   ·have G:=(Zi C).1
    have b:∀ k,¬ Own (JSt.start m d f) u k:=fun k ⟨j,K,O,U⟩=>by
     have o:(QbW f.regs).getD j false=true:=K;rw[A,<-p] at o
     have:=(QbQ (by omega) j).1 o
     have Q:d.regs<=j:=O;omega
    refine⟨fn,bl,x,s,I.hf,I.hb,Nat.succ_pos _,by simpa using C,e,by show x.k=((x.k.toNat:Nat):Int);omega,by simpa using I.hs,I.fr,fun k y=>P k (by omega),fun k _=>b _,?_⟩
    refine I.stk.keep (fun _ _ _ h=>h) (fun k _ h=>h) (fun k y=>?_) (fun k _=>rfl);rcases y with z | z
    ·exact absurd z (b k)
    ·exact .inl z
 ·rw[Xr p] at l;cases l
end
theorem JSt.next_len (s:JSt) (x:Qt):s.H.length<=(s.next x).H.length:=by
 unfold JSt.next
 simp only
 split
 ·simp
 ·split
  ·simp
  ·exact Ze
theorem JSt.upto_len:∀ (l:List Qt) (s:JSt),s.H.length<=(s.upto l).H.length
 | [],s=>Ze
 | x::l,s=>Zt (s.next_len x) (JSt.upto_len l (s.next x))
section
variable {m:List (MFunc 6)}{g g':Sig}{M M':IM}{fn:MFunc 6}{bl:MBlock 6}{s:JSt}{x:Qt}{op:Int->Int->Int->Option Int}{h:Qd}{v:List Q1}{r:List Int}
theorem Ql7 (c:(modFault m).1=0)(d:m[k]?=some fn) (e:fn.blocks[q]?=some bl) (l:List Qt):fn.regs<=((JSt.start m fn bl).upto l).H.length:=by
 have b:=(Zo c).2 fn (Zm d);have a:=b.blocks bl (Zm e);have h:=JSt.upto_len l (JSt.start m fn bl);have f:=Qel (n:=bl.regs) ⟨by have:=b.regs;have:=a.regs;omega,a.regs.2⟩;have g:(JSt.start m fn bl).H.length=(QbW bl.regs).length:=rfl
 have:=a.regs
 omega
theorem Inv.kept (a:(modFault m).1=0) (I:Inv m g M fn bl s):s.f.regs<=s.H.length:=by
 rw[I.mf.2,I.hs];exact Ql7 a I.hf I.hb _
theorem Qhk (h:Qdt n regs=0):∀ i,i<n->regs.getD i 0=(i:Int):=by
 unfold Qdt at h;split at h
 ·rename_i b
  intro i a
  have:=Xe.1 b i (List.mem_range.2 a)
  simpa using this
 ·cases h
theorem Qft (U:(modFault m).1=0) (I:Inv m g M fn bl s){t:MTo}(a:s.to t=0) (B:0<=t.block/\t.block<fn.blocks.length/\t.regs.length<=16):∃ M',IM.to fn { M with fuel:=M.fuel+1 } t=some M'/\Qby m M':=by
 obtain⟨b,q⟩:∃ b,fn.blocks[t.block.toNat]?=some b:=⟨_,Zg (by omega)⟩
 unfold JSt.to at a;rw[I.mf.2,q] at a
 simp only at a
 by_cases p:(t.regs.length:Int)=b.regs
 ·rw[Xs p] at a
  obtain⟨W,a⟩:=QD a
  obtain⟨P,J⟩:=QD a
  have n:=Qhk W;obtain⟨v,-,E⟩:=QcY P
  obtain⟨y,T,N,G,e3,V,C,F⟩:=I.fr.hand B.2.2 E v J m fn
  have A:=(Zo U).2 fn (Zm I.hf);have L:=A.blocks b (Zm q);have r1:=A.regs;have X:=L.regs;have x:=I.mf.2;unfold IM.to;rw[q]
  simp only
  rw[N,G]
  simp only
  rw[Xs ⟨by omega,V⟩]
  refine⟨_,Z,.inr ⟨g,fn,b,JSt.start m fn b,⟨I.hf,q,Xb _,Z,?_,I.st,?_⟩⟩⟩
  ·show FrT g M.h ⟨m,fn,QbW b.regs,b.params⟩ T y;rw[<-p];exact F
  ·refine I.stk.keep (fun _ _ _ h=>h) (fun k _ h=>h) (fun k f=>?_) (fun k f=>?_)
   ·obtain⟨j,O,Q,K⟩:=f
    have o:(QbW b.regs).getD j false=true:=O;rw[<-p] at o
    have i:=(QbQ B.2.2 j).1 o;have R:fn.regs<=j:=Q;have u:y.getD j 0=k:=K;have w:t.regs.getD j 0∈t.regs:=by rw[List.getD_eq_getElem?_getD,Zg i];exact List.getElem_mem i
    have f:=E _ w;unfold hHas at f;simp only[Bool.and_eq_true,decide_eq_true_eq] at f
    refine .inl ⟨(t.regs.getD j 0).toNat,f.2,?_,by rw[<-C j i];exact u⟩;rw[x]
    refine Int.not_lt.1 fun H=>?_;have S:=n (t.regs.getD j 0).toNat (by omega);have d:(t.regs.getD j 0).toNat<t.regs.length:=by omega
    have e:t.regs.getD (t.regs.getD j 0).toNat 0=t.regs.getD j 0:=by rw[S];omega
    have l:(t.regs.getD j 0).toNat≠j:=by omega
    generalize (t.regs.getD j 0).toNat=z at d e l;rw[List.getD_eq_getElem?_getD,List.getD_eq_getElem?_getD,Zg i,Zg d] at e
    have D:t.regs[z]=t.regs[j]:=e;rcases Nat.lt_trichotomy z j with c | c | c
    ·exact List.pairwise_iff_getElem.1 v z j d i c D
    ·exact l c
    ·exact List.pairwise_iff_getElem.1 v j z i d c D.symm
   ·show y.getD k 0=M.top.r.getD k 0;rw[C k (by omega),n k (by omega)]
    rfl
 ·rw[Xr p] at a;cases a
theorem Qfl {v:List Q1}:∀ {a:List Int}{xs:List Q1},Q9 v a=some xs->(∀ y∈xs,y.kind=1)->∃ ns,Qcl v a=some ns
 | [],xs,_,_=>⟨[],Z⟩
 | k::a,xs,h,hk=>by
   simp only[Q9] at h
   cases h1:QQ v k with
   | none=>rw[h1] at h;cases h
   | some y =>
     rw[h1] at h
     simp only at h
     cases h2:Q9 v a with
     | none=>rw[h2] at h;cases h
     | some ys =>
       rw[h2] at h
       simp only at h
       cases h
       obtain⟨ns,c⟩:=Qfl h2 (fun z b=>hk z (by simp[b]))
       have:QS v k=some y.n:=by unfold QS;rw[h1];simp only;rw[Xs (hk y (by simp))]
       exact⟨y.n::ns,by simp only[Qcl,this,c]⟩
theorem QgM (n:Nat):(QhC n).length=n:=by simp[QhC]
theorem QgK (h:j<n):(QhC n).getD j 0=(j:Int):=by simp[QhC,List.getD,h]
theorem QjZ (R:(Qq m).1=0) (I:Inv m g M fn bl s){e:ZA}(L:s.fin e=0) (h3:e.op=3):∃ M',IM.endd fn { M with fuel:=M.fuel+1 } e=some M'/\Qby m M':=by
 obtain⟨hM,Q⟩:=Qb1 R
 have B:=I.mf.2;unfold JSt.fin at L;split at L
 ·rename_i hn;exact absurd L hn
 rw[Xr (by omega),Xr (by omega)] at L
 obtain⟨E,D⟩:=QD L
 rw[B] at E D
 have ak:∀ k,¬ Own s M.top.r k:=fun k ⟨j,U,j2,j3⟩=>by
  split at D
  ·rename_i hq
   have A:(j:Int)∈Qal s.H:=(QcP s.H _).2 (by unfold hHas;simp only[Int.toNat_natCast,U,Bool.and_true];simp)
   have:=Xe.1 hq _ A
   simp only[decide_eq_true_eq] at this
   rw[B] at j2;omega
  ·cases D
 unfold JSt.args at E;by_cases p:e.args.length=fn.results.length
 ·rw[Xs p] at E
  obtain⟨xs,f1,f2,f3⟩:=Qf6 I.fr p E
  rw[QgM] at f3
  have N:=(Zo hM).2 fn (Zm I.hf);have C:=I.kept hM;rw[B,<-I.fr.rl] at C
  unfold IM.endd;rw[Xr (by omega),Xr (by omega)]
  show ∃ M',(match Q9 M.top.v e.args with | none=>none | some v=>_)=some M'/\Qby m M';rw[f1]
  simp only
  rw[Xs f2]
  cases er:M.rest with
  | nil =>
    have S:=I.stk;rw[er] at S
    have K:M.top.f=0:=S;obtain⟨b0,-,-,-,-,hz⟩:=Z2 hM I.hf
    obtain⟨-,-,hz⟩:=hz K
    obtain⟨ns,af⟩:=Qfl f1 (fun y X=>by
     obtain⟨j,q⟩:=List.mem_iff_getElem?.1 X
     obtain⟨t,ht⟩:∃ t,fn.results[j]?=some t:=⟨_,Zg (by rw[<-f2];exact(Zi q).1)⟩
     obtain⟨us,u,V,T,a3⟩:=f3 j y t q ht
     rw[a3.kind,Qgp T,show us.kind=t.kind from (Zn V).1]
     exact hz t (Zm ht))
    simp only
    rw[af]
    exact⟨_,Z,.inl Z⟩
  | cons d rest =>
    have S:=I.stk;rw[er] at S
    obtain⟨J,a,x,z,d1,d2,d3,d4,d5,d6,d7,F,d8,d9,aa⟩:=S
    simp only
    have P:=JSt.upto_mf (a.code.take (d.i - 1)) (JSt.start m J a);rw[<-d7] at P
    have hc:=(Q _ J _ a d1 d2).1 (d.i - 1) x d4;rw[<-d7] at hc
    have K:=(QN hc).2.1;have A:=Qa8 (s:=z) d5;have O:z.m=m:=P.1;have ae:m[x.k.toNat]?=some fn:=by rw[d6,XT];exact I.hf
    rw[O,ae] at A
    simp only at A
    have ad:(x.regs.length:Int)=fn.regs:=Xq.1 fun ab=>by rw[A,Xr ab] at K;cases K
    rw[Xs ad] at A
    rw[A] at K
    obtain⟨ai,-⟩:=QD K
    have am:=(Zi d4).1
    have w:∀ j,j<x.regs.length->0<=x.regs.getD j 0/\(x.regs.getD j 0).toNat<d.r.length:=fun j q=>by
     have aj:x.regs.getD j 0∈x.regs:=by rw[List.getD_eq_getElem?_getD,Zg q];exact List.getElem_mem q
     have G:=ZF ai _ aj;unfold hHas at G;simp only[Bool.and_eq_true,decide_eq_true_eq] at G
     refine⟨G.1,?_⟩
     rw[F.rl]
     rcases Nat.lt_or_ge (x.regs.getD j 0).toNat z.H.length with c | c
     ·exact c
     ·have h2:=G.2;rw[Qao _ c] at h2;cases h2
    have al:=N.regs;have hn:fn.regs.toNat=x.regs.length:=by omega
    refine⟨_,Z,.inr ⟨g,J,a,z.next x,⟨d1,d2,by show d.i<=_;omega,?_,?_,I.st,?_⟩⟩⟩
    ·show z.next x=(JSt.start m J a).upto (a.code.take d.i)
     have:d.i=d.i - 1+1:=by omega
     rw[this,XV,d4]
     show z.next x=(JSt.start m J a).upto (a.code.take (d.i - 1)++[x])
     rw[JSt.upto_snoc,<-d7]
    ·show FrT g M.h (z.next x) (d.v++xs) d.r;refine F.push (ts:=fn.results.map (Qaj x.regs)) (by simp[f2]) (fun j y t' X o=>?_) (Qa9 (by omega) (by omega)) (by unfold JSt.next;simp only;rw[A]);rw[XS] at o
     cases et:fn.results[j]? with
     | none=>rw[et] at o;cases o
     | some t =>
       rw[et] at o
       have ah:Qaj x.regs t=t':=Xn o;obtain⟨us,u,V,T,a3⟩:=f3 j y t X et
       have ag:=N.results.2 t (Zm et);obtain⟨ac,c1,-⟩:=Qf1 (m:=x.regs.length) (too:=fun i=>x.regs.getD i 0) (b:=(d.r.length:Int)) (by omega) (fun i hi=>⟨(w i hi).1,by have:=(w i hi).1;have:=(w i hi).2;omega⟩) ag
       have W:t'=ac:=by rw[<-ah];unfold Qaj;rw[c1];rfl
       obtain⟨u1,g1,g2⟩:=Qek (l:=x.regs) (r:=d.r) (r':=M.top.r) (n:=x.regs.length) Ze (by omega) w F.pos (fun j q=>d8 j (by omega)) c1
       rw[hn] at V
       obtain⟨u2,g3,g4⟩:=Qek (l:=QhC x.regs.length) (r:=M.top.r) (r':=M.top.r) (n:=x.regs.length) (by rw[QgM];exact Ze) (by omega) (fun j q=>by rw[QgK q];exact⟨by omega,by simp;omega⟩) I.fr.pos (fun j q=>by rw[QgK q];rfl) V
       rw[g3] at T;cases T
       rw[g2] at g4;cases g4
       exact⟨_,by rw[W];exact g1,a3⟩
    ·show Stk m g M.h (Own (z.next x) d.r) J d.f d.r rest;refine aa.keep (fun _ _ _ h=>h) (fun k _ h=>h) (fun k G=>?_) (fun k _=>rfl);obtain⟨j,U,j2,j3⟩:=G
     rw[Qa9 (by omega) (by omega)] at U
     exact .inl (.inr ⟨j,U,j2,j3⟩)
 ·rw[Xr p] at E;cases E
theorem QjQ (R:(Qq m).1=0) (I:Inv m g M fn bl s){e:ZA}(b:s.fin e=0):∃ M',IM.endd fn { M with fuel:=M.fuel+1 } e=some M'/\Qby m M':=by
 have o:=(Qb1 R).1;have i:=b;have k:=I.mf.2;unfold JSt.fin at b;split at b
 ·rename_i p;exact absurd b p
 rename_i a
 have a:=Xq.1 a;rw[k] at a
 have A:(e.op=1\/e.op=2\/e.op=3)/\(e.op≠3->0<=e.yes.block/\e.yes.block<fn.blocks.length/\e.yes.regs.length<=16)/\(e.op=2->0<=e.no.block/\e.no.block<fn.blocks.length/\e.no.regs.length<=16):=by
  unfold ZA.form at a;split at a
  ·cases a
  split at a
  ·cases a
  split at a
  ·cases a
  split at a
  ·rename_i d;exact absurd a d
  rename_i q h r d
  have d:=Xq.1 d
  have f:∀ (t:MTo),t.form fn.blocks.length true=0->0<=t.block/\t.block<fn.blocks.length/\t.regs.length<=16:=fun t c=>by
   unfold MTo.form at c;rw[Xr (by decide)] at c
   split at c
   ·cases c
   split at c
   ·cases c
   omega
  exact⟨by omega,fun j=>f _ (by simpa[j] using d),fun l=>f _ (by simpa[l] using a)⟩
 obtain⟨x,u,p⟩:=A
 rcases x with q | h | r
 ·rw[Xs q] at b
  unfold IM.endd;rw[Xs q]
  exact Qft o I b (u (by omega))
 ·rw[Xr (by omega),Xs h] at b
  obtain⟨B,b⟩:=QD b
  obtain⟨w,z⟩:=QD b
  obtain⟨n,y⟩:=I.fr.num B
  unfold IM.endd;rw[Xr (by omega),Xs h]
  simp only[y]
  by_cases v:n=0
  ·rw[Xs v];exact Qft o I z (p h)
  ·rw[Xr v];exact Qft o I w (u (by omega))
 ·exact QjZ R I i r
theorem Qj8 (R:(Qq m).1=0) (I:Inv m g M fn bl s) (b:bl.code[M.top.i]?=some x):QbX m op M x:=by
 obtain⟨h,c⟩:=Qb1 R
 have a:=(c _ fn _ bl I.hf I.hb).1 M.top.i x b;rw[<-I.hs] at a
 have j:1<=x.op/\x.op<=14:=by
  have f:=(QN a).1;unfold Qt.form at f;split at f
  ·cases f
  rename_i d
  unfold Q5 at d;by_cases e:1<=x.op/\x.op<=14
  ·exact e
  ·exfalso;apply d
   rw[Xr (by omega),Xr (by omega),Xr (by omega),Xr (by omega),Xr (by omega),Xr (by omega),Xr (by omega),Xr (by omega),Xr (by omega)]
   rfl
 have:x.op=1\/x.op=2\/x.op=3\/x.op=4\/x.op=5\/x.op=6\/x.op=7\/x.op=8\/x.op=9\/x.op=10\/x.op=11\/x.op=12\/x.op=13\/x.op=14:=by omega
 rcases this with e | e | e | e | e | e | e | e | e | e | e | e | e | e
 ·exact QkI I b a e
 ·exact Qkr I b a e
 ·exact Qks I b a e (I.kept h)
 ·exact Qh1 I b a e
 ·exact Qhn I b a e
 ·exact QjR I b a e
 ·exact QkT I b a e
 ·exact Qg9 I b a e
 ·exact QiQ I b a e
 ·exact Qha I b a e
 ·exact QjO I b a e
 ·exact Ql0 I b a e
 ·exact QkV I b a e
 ·exact Qij h I b a e
theorem Qif (R:(Qq m).1=0) (I:Inv m g M fn bl s) (most:Nat):∃ M',IM.step m op most M=some M'/\Qby m M':=by
 unfold IM.step;by_cases b:M.fuel=most
 ·rw[Xs b];exact⟨_,Z,IM.over_good _ _ _⟩
 ·rw[Xr b,I.hf]
  simp only
  rw[I.hb]
  simp only
  cases hx:bl.code[M.top.i]? with
  | some x=>exact Qj8 R I hx
  | none =>
    have a:=((Qb1 R).2 _ fn _ bl I.hf I.hb).2;have d:M.top.i=bl.code.length:=by have:=I.hi;have:=List.getElem?_eq_none_iff.1 hx;omega
    have c:=I.hs;rw[d,List.take_length] at c
    rw[<-c] at a
    exact QjQ R I a
theorem Qhu (R:(Qq m).1=0) (inp:List Int) (pages:Nat):Qby m (IM.start inp pages):=by
 obtain⟨c,-⟩:=Qb1 R
 obtain⟨f,d⟩:∃ f,m[0]?=some f:=⟨_,Zg (Zo c).1.1⟩
 obtain⟨b,p,h,n,-,l⟩:=Z2 c d
 obtain⟨r,g,-⟩:=l Z
 refine .inr ⟨_,f,b,JSt.start m f b,⟨d,p,Xb _,Z,?_,StT.new pages,Z⟩⟩;show FrT _ _ ⟨m,f,QbW b.regs,b.params⟩ [] [];have i:QbW b.regs=[]:=by rw[h,r];rfl
 have e:b.params=[]:=by rw[n];exact Xf.1 g
 rw[i,e]
 exact⟨Z,fun k a=>by simp at a,fun k a=>by simp[List.getD] at a,fun j k q=>by simp[List.getD] at q,Z,fun j t y o=>by simp at o⟩
def IM.steps (m:List (MFunc 6)) (op:Int->Int->Int->Option Int) (most:Nat):Nat->IM->Option IM
 | 0,M=>some M
 | n+1,M=>if M.done then some M else match M.step m op most with
   | none=>none
   | some M'=>M'.steps m op most n
end
section
variable {m:List (MFunc 6)}{op:Int->Int->Int->Option Int}{M M':IM}{R:RM}{x:Qt}{most:Nat}
theorem Qmh (R:(Qq m).1=0):QmU m:=fun k o q p i l=>by
 obtain⟨s,c⟩:=Qb1 R
 obtain⟨n,d⟩:=c k o q p i l
 refine⟨fun x g=>?_,?_⟩
 ·obtain⟨j,r⟩:=List.mem_iff_getElem?.1 g
  have b:=(QN (n j x r)).1;unfold Qt.form at b;split at b
  ·cases b
  rename_i h
  split at b
  ·cases b
  split at b
  ·cases b
  split at b
  ·cases b
  rename_i t
  refine⟨?_,fun e=>by omega⟩
  refine Xq.1 fun f=>h ?_;unfold Q5;rw[Xr (by omega),Xr (by omega),Xr (by omega),Xr (by omega),Xr (by omega),Xr (by omega),Xr (by omega),Xr (by omega),Xr (by omega)]
  rfl
 ·unfold JSt.fin at d;split at d
  ·rename_i f;exact absurd d f
  ·rename_i a
   have a:=Xq.1 a;unfold ZA.form at a;split at a
   ·cases a
   ·omega
def QeS (M:IM):Prop:=M.out.length<=2000/\M.rest.length<=39
theorem QkX (D:QeS M){g:Q1 × Int × Qd}(h:IM.got M g=some M'):QeS M':=by
 rcases QcC h with ⟨-,rfl⟩|⟨-,rfl⟩<;>exact D
theorem QkE (D:QeS M) (h:IM.mem M x=some M'):QeS M':=by
 unfold IM.mem at h;repeat' split at h
 all_goals first | exact QkX D h | (cases h;done) | (cases h;exact D)
theorem Qkp (D:QeS M) (h:IM.ins m op M x=some M'):QeS M':=by
 unfold IM.ins at h;split at h
 ·cases h;exact D
 split at h
 ·repeat' split at h
  all_goals first | (cases h;done) | (cases h;exact D)
 split at h
 ·repeat' split at h
  all_goals first | (cases h;done) | (cases h;exact D)
 split at h
 ·repeat' split at h
  all_goals first | (cases h;done) | (cases h;exact D)
 split at h
 ·split at h
  ·cases h
  ·split at h
   ·cases h;exact D
   ·rename_i a
    cases h
    have:=D.1
    exact⟨by simp;omega,D.2⟩
 split at h
 ·unfold IM.call at h;repeat' split at h
  all_goals first | (cases h;done) | (cases h;exact D) | skip
  rename_i a
  cases h
  have:=D.2
  exact⟨D.1,by simp;omega⟩
 ·exact QkE D h
theorem Qia (D:QeS M){fn:MFunc 6}{t:MTo}(h:IM.to fn M t=some M'):QeS M':=by
 unfold IM.to at h;repeat' split at h
 all_goals first | (cases h;done) | (cases h;exact D)
theorem QiH (D:QeS M){fn:MFunc 6}{e:ZA}(h:IM.endd fn M e=some M'):QeS M':=by
 unfold IM.endd at h;split at h
 ·exact Qia D h
 split at h
 ·split at h
  ·cases h
  ·split at h<;>exact Qia D h
 ·split at h
  ·cases h
  ·split at h
   ·split at h
    ·rename_i b
     cases h
     have a:=D.2;rw[b] at a
     exact⟨D.1,by simp at a;simp only[IM.push];omega⟩
    ·split at h
     ·cases h
     ·cases h;exact D
   ·cases h
theorem QhJ (D:QeS M) (h:IM.step m op most M=some M'):QeS M':=by
 unfold IM.step at h;split at h
 ·cases h;exact D
 split at h
 ·cases h
 split at h
 ·cases h
 split at h
 ·exact Qkp (M:={ M with fuel:=M.fuel+1,top:={ M.top with i:=M.top.i+1 } }) D h
 ·exact QiH (M:={ M with fuel:=M.fuel+1 }) D h
theorem Qhy (inp:List Int) (pages:Nat):QeS (IM.start inp pages):=⟨by simp[IM.start],by simp[IM.start]⟩
theorem Qh3 (H:(Qq m).1=0) (a:M.done=false) (G:Qby m M) (D:QeS M) (S:Qex M R):∃ M' R',IM.step m op most M=some M'/\RM.step m op most R=some R'/\Qex M' R'/\Qby m M'/\QeS M':=by
 rcases G with h | ⟨g,f,i,s,I⟩
 ·rw[a] at h;cases h
 ·obtain⟨M',e,d⟩:=Qif (op:=op) H I most
  obtain⟨φ,π,S⟩:=S
  obtain⟨R',c,b⟩:=QgO (Qmh H) S a (by have:=D.2;omega) D.1 e
  exact⟨M',R',e,c,b,d,QhJ D e⟩
theorem QdC (H:(Qq m).1=0):∀ (n:Nat) (M:IM) (R:RM),Qby m M->QeS M->Qex M R->∃ M' R',IM.steps m op most n M=some M'/\RM.steps m op most n R=some R'/\Qex M' R'/\Qby m M'/\QeS M'
 | 0,M,R,G,D,S=>⟨M,R,Z,Z,S,G,D⟩
 | n+1,M,R,G,D,S=>by
   unfold IM.steps RM.steps;have b:R.done=M.done:=by obtain⟨φ,π,S⟩:=S;exact S.done
   by_cases a:M.done=true
   ·rw[Xs a,Xs (by rw[b];exact a)]
    exact⟨M,R,Z,Z,S,G,D⟩
   ·rw[Xr a,Xr (by rw[b];exact a)]
    obtain⟨M',R',d,c,e,g,f⟩:=Qh3 (op:=op) (most:=most) H (by simpa using a) G D S
    rw[d,c]
    exact QdC H n M' R' g f e
theorem QkM (H:(Qq m).1=0) (inp:List Int)(a:pages<=64) (n:Nat):∃ M' R',IM.steps m op most n (IM.start inp pages)=some M'/\RM.steps m op most n (RM.start inp pages)=some R'/\Qex M' R' :=
 let ⟨M',R',h1,h2,h3,_,_⟩:=QdC (op:=op) (most:=most) H n _ _ (Qhu H inp pages) (Qhy inp pages) (Qhb inp a)
 ⟨M',R',h1,h2,h3⟩
end
theorem Xm:type_of% @Calls.mono:=@Calls.mono
def QeT (o:Oper):List Tmp:=o.op.operands.toList.filterMap fun | .tmp t=>some t | _=>none
def Qs (l:List Oper):List Tmp:=l.filterMap (·.dst)
def nodupB:List Tmp->Bool
 | []=>true
 | t::r=>!r.contains t&&nodupB r
def onB (gs:List (Nat × Option Bool)) (o:Oper) (b:Bool):Bool :=
 match o.guard with
 | none=>b
 | some (g,want)=>match gs.lookup g with
   | some c=>b==(c==some want)
   | none=>false
def Qla (gs:List (Nat × Option Bool)):List Oper->List Bool->Bool
 | [],[]=>true
 | o::l,b::bs=>onB gs o b&&Qla gs l bs
 | _,_=>false
def Qmi (ops:Array Oper) (ds outs:List Tmp) (o:Oper):Bool :=
 (o.looksAt ops).all fun t=>(outs.contains t&&!ds.contains t)||o.after.any fun e=>Region.binds .any e&&((ops[e.on]?).bind (·.dst)==some t)
def Qcr (i:Nat):List Oper->Bool
 | []=>true
 | o::l=>(o.after.all fun e=>!Region.binds .any e||decide (e.on<i))&&Qcr (i+1) l
def Qa1 (l:List Oper) (n:Nat) (outs:List Tmp) (gs:List (Nat × Option Bool)) (bs:List Bool):Bool :=
 (gs.all fun g=>((l.toArray[g.1]?).bind (·.dst)).isSome)&&nodupB (Qs l)&&((Qs l).all fun t=>decide (t<n))&&(l.all (Qmi l.toArray (Qs l) outs))&&Qla gs l bs&&Qcr 0 l
section
variable {P:Program}(E:Tmp->Value->World->Prop) (W:World->Prop) (R:World->World->Prop)
def EO:Option Tmp->Value->World->Prop
 | some t=>E t
 | none=>fun _ _=>True
def Qd0 (a:Act) (w:World):List Tmp->Prop
 | []=>True
 | t::r=>E t (a.tmps.getD t undef) w/\Qd0 a w r
def Qlf (P:Program) (o:Oper):Prop :=
 ∀ a w,W w->Qd0 E a w (QeT o)->∀ K:Act->World->Prop,(∀ v w',R w w'->W w'->EO E o.dst v w'->K (a.put o.dst v) w')->o.wp P a w K (fun _ _ _=>False)
def QiB (o:Oper):Prop:=∀ w,W w->EO E o.dst undef w
def Qd2 (P:Program):List Oper->List Bool->Prop
 | o::l,true::bs=>Qlf E W R P o/\Qd2 P l bs
 | o::l,false::bs=>QiB E W o/\Qd2 P l bs
 | _,_=>True
def QaS (ops:Array Oper):List (Nat × Option Bool)->Prop
 | []=>True
 | (g,c)::r=>(∀ t,(ops[g]?).bind (·.dst)=some t->∀ v w,W w->E t v w->match c with | some b=>v=.bool b | none=>v=undef)/\QaS ops r
def Qai (a:Act) (w:World):List Tmp->Prop
 | []=>True
 | t::r=>E t (a.tmps.getD t undef) w/\Qai a w r
def QM (a:Act) (vs:Tmp->Value):List Tmp->Act
 | []=>a
 | t::r=>QM (a.put (some t) (vs t)) vs r
end
theorem wpq {P:Program}{o:Oper}{a:Act}{K d:Act->World->Prop}{Q:Exit->Act->World->Prop}(h:∀ a w,K a w->d a w)
 (c:o.wp P a w K (fun _ _ _=>False)):o.wp P a w d Q:=by
 unfold Oper.wp at *;generalize (execOp a.eval o).run P w=r at *
 cases r with
 | ok n w' =>
   cases n<;>simp only[Oper.upon] at c |- <;>
    first
     | exact h _ _ c
     | exact Xm c (fun e f b=>by cases e<;>first | exact h _ _ b | exact b.elim | (obtain⟨_,_,b⟩:=b;exact b.elim))
     | exact Rows.mono c (fun _ _ b=>h _ _ b)
 | halt x w'=>cases x<;>simp only[Oper.upon] at c |-
theorem Qbs (b:Tmp->Value):∀ (ds:List Tmp) (a:Act),(QM a b ds).defers=a.defers
 | [],_=>rfl
 | _::r,a=>by rw[QM,Qbs b r];rfl
theorem Qdf (b:Tmp->Value):∀ (ds:List Tmp) (a:Act),(QM a b ds).tmps.size=a.tmps.size
 | [],_=>rfl
 | _::r,a=>by rw[QM,Qdf b r];simp[Act.put]
theorem QfY (c:Tmp->Value):∀ (ds:List Tmp) (a:Act) (t:Nat),t<a.tmps.size->(QM a c ds).tmps[t]?=if t∈ds then some (c t) else a.tmps[t]?
 | [],_,_,_=>by simp[QM]
 | d::r,a,t,ht=>by
   rw[QM,QfY c r _ t (by simpa[Act.put] using ht)]
   by_cases b:t∈r
   ·simp[b]
   ·by_cases f:d=t
    ·subst f;simp[b,Act.put,ht]
    ·have:t≠d:=fun e=>f e.symm
     simp[b,this,Act.put,f]
theorem nodup_apart:∀ (l:List Oper) (i j:Nat) (oi oj:Oper) (t:Tmp),nodupB (Qs l)=true->l[i]?=some oi->l[j]?=some oj->oi.dst=some t->oj.dst=some t->i=j
 | [],_,_,_,_,_,_,hi,_,_,_=>by simp at hi
 | o::l,i,j,oi,oj,t,h,hi,hj,di,dj=>by
   have f:∀ {k:Nat} {c:Oper},l[k]?=some c->c.dst=some t->t∈Qs l:=fun {k c} n a=>List.mem_filterMap.2 ⟨c,Zm n,a⟩
   have g:nodupB (Qs l)=true:=by
    unfold Qs at h |-
    cases a:o.dst with
    | none=>simpa[List.filterMap_cons,a] using h
    | some d=>simp[a,nodupB] at h;exact h.2
   have b:o.dst=some t->t ∉ Qs l:=fun a=>by
    unfold Qs at h |-;simp only[List.filterMap_cons,a,nodupB,Bool.and_eq_true,Bool.not_eq_true'] at h
    intro e
    have:=h.1
    simp at this
    simp at e
    obtain⟨x,b,m⟩:=e
    exact this x b m
   cases i with
   | zero =>
     cases j with
     | zero=>rfl
     | succ j=>simp at hi hj;subst hi;exact absurd (f hj dj) (b di)
   | succ i =>
     cases j with
     | zero=>simp at hi hj;subst hj;exact absurd (f hi di) (b dj)
     | succ j=>simp at hi hj;rw[nodup_apart l i j oi oj t g hi hj di dj]
section
variable {P:Program}{E:Tmp->Value->World->Prop}{W:World->Prop}{R:World->World->Prop}
theorem Qer {a:Act}{w:World}:∀ (l:List Tmp),(∀ t∈l,E t (a.tmps.getD t undef) w)->Qd0 E a w l
 | [],_=>trivial
 | t::r,h=>⟨h t (by simp),Qer r fun x b=>h x (by simp[b])⟩
theorem Qa7 {a:Act}{w:World}:∀ (l:List Tmp),Qai E a w l->∀ t∈l,E t (a.tmps.getD t undef) w
 | [],_,_,h=>by simp at h
 | x::r,h,t,b=>by
   rcases List.mem_cons.1 b with rfl | b
   ·exact h.1
   ·exact Qa7 r h.2 t b
theorem QeR {a:Array Oper}:∀ (gs:List (Nat × Option Bool)),QaS E W a gs->∀ g c,gs.lookup g=some c->∀ t,(a[g]?).bind (·.dst)=some t->∀ v w,W w->E t v w->match c with | some b=>v=.bool b | none=>v=undef
 | [],_,_,_,h=>by simp at h
 | (g',c')::r,h,g,c,hl=>by
   by_cases e:g=g'
   ·subst e;simp at hl;subst hl;exact h.1
   ·have d:(g==g')=false:=by simpa using e
    simp[List.lookup_cons,d] at hl;exact QeR r h.2 g c hl
theorem mem_of_lookup:∀ (gs:List (Nat × Option Bool)) (g:Nat) (c:Option Bool),gs.lookup g=some c->(g,c)∈gs
 | [],_,_,h=>by simp at h
 | (g',c')::r,g,c,hl=>by
   by_cases e:g=g'
   ·subst e;simp at hl;subst hl;simp
   ·have a:(g==g')=false:=by simpa using e
    simp[List.lookup_cons,a] at hl;exact List.mem_cons_of_mem _ (mem_of_lookup r g c hl)
theorem filter_set:∀ (l:List Bool) (i:Nat) (h:i<l.length),l[i]=false->((l.set i true).filter (·==false)).length+1=(l.filter (·==false)).length
 | [],_,h,_=>by simp at h
 | x::l,0,_,h=>by simp at h;subst h;simp
 | x::l,i+1,hi,h=>by
   simp at h hi
   have:=filter_set l i hi h
   cases x<;>simp at this |-<;>omega
theorem Qjh (gs:List (Nat × Option Bool)):∀ (l:List Oper) (bs:List Bool),Qla gs l bs=true->Qd2 E W R P l bs->∀ (i:Nat) (o:Oper),l[i]?=some o->(onB gs o true=true/\Qlf E W R P o)\/(onB gs o false=true/\QiB E W o)
 | [],_,_,_,_,_,h=>by simp at h
 | _::_,[],h,_,_,_,_=>by simp[Qla] at h
 | x::l,b::bs,h,ha,i,o,ho=>by
   simp only[Qla,Bool.and_eq_true] at h
   cases i with
   | zero =>
     simp at ho;subst ho
     cases b with
     | true=>exact .inl ⟨h.1,ha.1⟩
     | false=>exact .inr ⟨h.1,ha.1⟩
   | succ i =>
     simp at ho
     cases b with
     | true=>exact Qjh gs l bs h.2 ha.2 i o ho
     | false=>exact Qjh gs l bs h.2 ha.2 i o ho
theorem back_at:∀ (l:List Oper) (k i:Nat) (o:Oper),Qcr k l=true->l[i]?=some o->∀ e∈o.after,Region.binds .any e=true->e.on<k+i
 | [],_,_,_,_,h=>by simp at h
 | x::l,k,i,o,h,ho=>by
   simp only[Qcr,Bool.and_eq_true] at h
   cases i with
   | zero =>
     simp at ho;subst ho
     intro e a b
     have:=Array.all_eq_true_iff_forall_mem.1 h.1 e a
     simpa[b] using this
   | succ i =>
     simp at ho
     intro e a b
     have:=back_at l (k+1) i o h.2 ho e a b
     omega
structure Qm9 (E:Tmp->Value->World->Prop) (W:World->Prop) (l:List Oper) (outs:List Tmp) (a0:Act) (listed:Array Bool) (a:Act) (w:World):Prop where
 world:W w
 defers:a.defers=a0.defers
 size:a.tmps.size=a0.tmps.size
 outer:∀ t,t ∉ Qs l->a.tmps[t]?=a0.tmps[t]?
 outs:∀ t∈outs,t ∉ Qs l->E t (a.tmps.getD t undef) w
 known:∀ j o t,l[j]?=some o->o.dst=some t->listed.getD j false=true->E t (a.tmps.getD t undef) w
theorem QdM {l:List Oper}{outs:List Tmp}{gs:List (Nat × Option Bool)}{a0:Act}{Q:Exit->Act->World->Prop}
 (hB:Qa1 l a0.tmps.size outs gs bs=true) (hR:∀ t v w w',R w w'->E t v w->E t v w') (hG:QaS E W l.toArray gs) (hA:Qd2 E W R P l bs)
 (aa:∀ (vs:Tmp->Value) w',W w'->(∀ t,(Qs l).contains t=true->E t (vs t) w')->Q .normal (QM a0 vs (Qs l)) w') :
 ∀ (fuel:Nat) (listed:Array Bool) (a:Act) (w:World),listed.size=l.length->(listed.toList.filter (·==false)).length<=fuel->Qm9 E W l outs a0 listed a w ->
  wpAny P .any l.toArray Q fuel listed a w:=by
 simp only[Qa1,Bool.and_eq_true] at hB
 obtain⟨⟨⟨⟨⟨au,ar⟩,L⟩,aq⟩,ao⟩,ak⟩:=hB
 have ac:∀ (listed:Array Bool) (a:Act) (w:World),listed.size=l.length->Region.ready .any l.toArray listed=[]->Qm9 E W l outs a0 listed a w->Q .normal a w:=by
  intro listed a w V I f
  have ah:∀ j,j<l.length->listed.getD j false=true:=by
   intro j
   induction j using Nat.strongRecOn with
   | _ j ih =>
     intro z
     cases r:listed.getD j false with
     | true=>rfl
     | false =>
       exfalso
       have:j∈Region.ready .any l.toArray listed:=by
        unfold Region.ready;refine List.mem_filter.2 ⟨by simpa using z,?_⟩
        have U:listed.getD j true=false:=by
         have aj:j<listed.size:=by omega
         simp[Array.getD,aj] at r |-;exact r
        have T:l.toArray[j]?=some l[j]:=by simp[z]
        rw[U,T]
        simp only[Bool.not_false,Bool.true_and,Option.map_some,Option.getD_some]
        rw[Array.all_eq_true_iff_forall_mem]
        intro e he
        cases hbd:Region.binds .any e with
        | false=>rfl
        | true =>
          have:=back_at l 0 j l[j] ak (by simp[z]) e he hbd
          simp only[Bool.not_true,Bool.false_or]
          exact ih e.on (by omega) (by omega)
       rw[I] at this
       cases this
  have ab:∀ t∈Qs l,E t (a.tmps.getD t undef) w/\t<a0.tmps.size:=by
   intro t q;obtain⟨o,ho,s⟩:=List.mem_filterMap.1 q
   obtain⟨j,z⟩:=List.getElem?_of_mem ho
   have A:j<l.length:=by
    rcases Nat.lt_or_ge j l.length with h | h
    ·exact h
    ·rw[Xk h] at z;cases z
   exact⟨f.known j o t z s (ah j A),by simpa using Xe.1 L t q⟩
  have he:a=QM a0 (fun t=>a.tmps.getD t undef) (Qs l):=by
   have U:a.tmps=(QM a0 (fun t=>a.tmps.getD t undef) (Qs l)).tmps:=by
    refine Array.ext (by rw[Qdf,f.size]) fun t S M=>?_;have h3:t<a0.tmps.size:=by rw[<-f.size];exact S
    have:=QfY (fun t=>a.tmps.getD t undef) (Qs l) a0 t h3
    rw[Xj M] at this
    by_cases X:t∈Qs l
    ·rw[Xs X] at this
     simp only[Option.some.injEq] at this
     rw[this];simp[Array.getD,S]
    ·rw[Xr X,<-f.outer t X,Xj S] at this
     exact(Xn this).symm
   have T:a.defers=(QM a0 (fun t=>a.tmps.getD t undef) (Qs l)).defers:=by rw[Qbs,f.defers]
   cases a with
   | mk t d =>
     simp only at U T
     generalize hp:QM a0 (fun x=>t.getD x undef) (Qs l)=p at U T |-
     cases p;simp only at U T;rw[U,T]
  rw[he]
  exact aa _ _ f.world fun t q=>(ab t (by simpa using q)).1
 intro fuel
 induction fuel with
 | zero =>
   intro listed a w V hf f
   have I:Region.ready .any l.toArray listed=[]:=by
    rw[List.eq_nil_iff_forall_not_mem]
    intro i hi;obtain⟨S,M⟩:=List.mem_filter.1 hi
    have A:i<l.length:=by simpa using S
    simp only[Bool.and_eq_true,Bool.not_eq_true'] at M
    have:listed[i]'(by omega)=false:=by
     have:=M.1;simp[Array.getD,show i<listed.size by omega] at this;exact this
    have X:false∈listed.toList.filter (·==false):=List.mem_filter.2 ⟨by rw[<-this];simp,by simp⟩
    have:=List.length_pos_of_mem X
    omega
   exact⟨I,ac listed a w V I f⟩
 | succ fuel ih =>
   intro listed a w V hf f;refine⟨fun I=>ac listed a w V I f,fun i hi=>?_⟩
   obtain⟨S,M⟩:=List.mem_filter.1 hi
   have A:i<l.length:=by simpa using S
   simp only[Bool.and_eq_true,Bool.not_eq_true'] at M
   obtain⟨af,m⟩:=M
   have ag:i<listed.size:=by omega
   have ai:listed[i]=false:=by simp[Array.getD,ag] at af;exact af
   have ho:l.toArray[i]?=some l[i]:=by simp[A]
   have n:l[i]?=some l[i]:=by simp[A]
   generalize az:l[i]=o at ho n;rw[ho] at m
   simp only[Option.map_some,Option.getD_some] at m
   rw[Array.all_eq_true_iff_forall_mem] at m
   have u:∀ t∈o.looksAt l.toArray,E t (a.tmps.getD t undef) w:=by
    intro t q
    have:=Xe.1 (Xe.1 aq o (Zm n)) t q
    rw[Bool.or_eq_true] at this
    rcases this with h | h
    ·simp only[Bool.and_eq_true,Bool.not_eq_true'] at h
     exact f.outs t (by simpa using h.1) (by simpa using h.2)
    ·obtain⟨k,hk,h⟩:=Array.any_eq_true.1 h
     simp only[Bool.and_eq_true,beq_iff_eq] at h
     obtain⟨r,s⟩:=h
     have H:=m _ (Array.getElem_mem hk);rw[r] at H
     simp only[Bool.not_true,Bool.false_or] at H
     generalize o.after[k]=e at *;obtain⟨oj,aw,ap⟩:=Option.bind_eq_some_iff.1 s
     exact f.known e.on oj t (by simpa using aw) ap H
   have am:Qd0 E a w (QeT o):=Qer _ fun t q=>u t (by
    unfold Oper.looksAt;exact List.mem_append_left _ q)
   have hw:∀ b,onB gs o b=true->Region.wanted o (yielded l.toArray a.tmps)=b:=by
    intro b r;unfold onB at r;unfold Region.wanted
    cases hg:o.guard with
    | none=>rw[hg] at r;simp only at r |-;exact r.symm
    | some gw =>
      obtain⟨g,ay⟩:=gw
      rw[hg] at r
      simp only at r |-
      cases H:gs.lookup g with
      | none=>rw[H] at r;cases r
      | some c =>
        rw[H] at r
        simp only[beq_iff_eq] at r
        have hy:yielded l.toArray a.tmps g=c:=by
         unfold yielded;have ax:(g,c)∈gs:=mem_of_lookup gs g c H;have D:=Xe.1 au _ ax
         cases s:(l.toArray[g]?).bind (·.dst) with
         | none=>rw[s] at D;cases D
         | some t =>
           have hE:=u t (by unfold Oper.looksAt;rw[hg];simp only[s];simp);have F:=QeR gs hG g c H t s _ _ f.world hE;obtain⟨og,al,av⟩:=Option.bind_eq_some_iff.1 s
           have O:t<a.tmps.size:=by
            rw[f.size]
            have:=Xe.1 L t (List.mem_filterMap.2 ⟨og,Zm (by simpa using al),av⟩)
            simpa using this
           have q:a.tmps[t]?=some (a.tmps.getD t undef):=by simp[Array.getD,O]
           simp only[Option.bind_some,q]
           cases c with
           | none=>simp only at F;rw[F];rfl
           | some b=>simp only at F;rw[F]
        rw[hy,r]
   have J:((listed.setIfInBounds i true).toList.filter (·==false)).length<=fuel:=by
    have h3:=filter_set listed.toList i (by simpa using ag) (by simpa using ai);rw[Array.toList_setIfInBounds]
    omega
   have G:∀ v w',W w'->(∀ t v,E t v w->E t v w')->EO E o.dst v w'->Qm9 E W l outs a0 (listed.setIfInBounds i true) (a.put o.dst v) w':=by
    intro v w' N y F
    have B:∀ t,o.dst≠some t->(a.put o.dst v).tmps[t]?=a.tmps[t]?:=by
     intro t q
     cases s:o.dst with
     | none=>rfl
     | some d =>
       have:d≠t:=fun e=>q (by rw[s,e])
       simp[Act.put,this]
    have C:∀ (b c:Array Value) (t:Nat),b[t]?=c[t]?->b.getD t undef=c.getD t undef:=by
     intro b c t h;rw[Za,Za,h]
    refine⟨N,?_,?_,?_,?_,?_⟩
    ·rw[<-f.defers];cases o.dst<;>rfl
    ·rw[<-f.size];cases o.dst<;>simp[Act.put]
    ·intro t q;rw[B t (fun e=>q (List.mem_filterMap.2 ⟨o,Zm n,e⟩)),f.outer t q]
    ·intro t q hn;rw[C _ _ t (B t (fun e=>hn (List.mem_filterMap.2 ⟨o,Zm n,e⟩)))]
     exact y _ _ (f.outs t q hn)
    ·intro j oj t z s ad;by_cases K:j=i
     ·subst K;rw[n] at z
      obtain rfl:=Xn z
      have O:t<a.tmps.size:=by
       rw[f.size]
       have:=Xe.1 L t (List.mem_filterMap.2 ⟨o,Zm n,s⟩)
       simpa using this
      rw[s] at F |-
      have:(a.put (some t) v).tmps.getD t undef=v:=by simp[Act.put,Array.getD,O]
      rw[this];exact F
     ·have an:o.dst≠some t:=fun e=>K (nodup_apart l j i oj o t ar z n s e);rw[C _ _ t (B t an)]
      refine y _ _ (f.known j oj t z s ?_);have ae:i≠j:=fun e=>K e.symm;rw[Za,Array.getElem?_setIfInBounds_ne ae] at ad
      rw[Za];exact ad
   unfold wpOp;rw[ho]
   simp only
   rcases Qjh gs l bs ao hA i o n with ⟨h,y⟩|⟨h,y⟩
   ·rw[hw true h,Xs Z]
    refine .inl (wpq (fun a' w' hh=>hh) (y a w f.world am _ fun v w' I N F=>?_));exact ih _ _ _ (by simpa using V) J (G v w' N (fun t v he=>hR t v w w' I he) F)
   ·rw[hw false h]
    simp only[Bool.false_eq_true,if_false]
    exact ih _ _ _ (by simpa using V) J (G undef w f.world (fun _ _ h=>h) (y w f.world))
theorem Qau {l:List Oper}{outs:List Tmp}{gs:List (Nat × Option Bool)}(h:n<=m) (a:Qa1 l n outs gs bs=true):Qa1 l m outs gs bs=true:=by
 simp only[Qa1,Bool.and_eq_true] at a |-
 obtain⟨⟨⟨⟨⟨j,e⟩,b⟩,c⟩,g⟩,k⟩:=a
 refine⟨⟨⟨⟨⟨j,e⟩,?_⟩,c⟩,g⟩,k⟩
 rw[Xe] at b |-
 intro t i;have d:t<n:=by simpa using b t i
 have f:t<m:=Zl d h;simpa using f
theorem Qdv {l:List Oper}{outs:List Tmp}{gs:List (Nat × Option Bool)}{a:Act}{Q:Exit->Act->World->Prop}
 (E:Tmp->Value->World->Prop) (W:World->Prop) (R:World->World->Prop)
 (k:P.follows .mixedOrders=true)  (h:a.tmps.size=m) (c:n<=m) (f:Qa1 l n outs gs bs=true)
 (r:∀ t v w w',R w w'->E t v w->E t v w') (q:QaS E W l.toArray gs) (e:W w.drew) (d:Qai E a w.drew outs)
 (i:Qd2 E W R P l bs)
 (b:∀ (vs:Tmp->Value) w',W w'->(∀ t,(Qs l).contains t=true->E t (vs t) w')->Q .normal (QM a vs (Qs l)) w') :
 (Code.region id l.toArray true).wp P Q a w:=by
 refine wp_region_any k ?_;refine QdM (Qau (h ▸ c) f) r q i b _ _ _ _ (by simp) ?_ ⟨e,Z,Z,fun _ _=>rfl,fun t p _=>Qa7 outs d t p,?_⟩
 ·simp only[Array.toList_replicate]
  exact Zt (List.length_filter_le _ _) (by simp)
 ·intro j o t u s g;simp[Array.getD] at g
end
section
variable {P:Program}{Q:Exit->Act->World->Prop}
theorem Qlw {o:Oper}{a:Act}{K N:Act->World->Prop}(h:o.wp P a w K (Exit.then N Q)):o.wp P a w K Q:=by
 unfold Oper.wp at *;generalize (execOp a.eval o).run P w=r at *
 cases r with
 | ok n w'=>cases n<;>exact h
 | halt x w'=>cases x<;>exact h
def Qbu (n:Nat) (l:List Oper):Bool:=l.all fun o=>match o.guard with | some (g,_)=>decide (g<n) | none=>true
theorem ZE {a:Array Bool}:i∈Region.ready .any ops a↔i<ops.size/\a.getD i true=false/\∃ o,ops[i]?=some o/\∀ e∈o.after,Region.binds .any e=true->a.getD e.on false=true:=by
 unfold Region.ready;rw[List.mem_filter]
 simp only[List.mem_range,Bool.and_eq_true,Bool.not_eq_true']
 refine and_congr_right fun b=>and_congr_right fun d=>?_;rw[Xj b]
 simp only[Option.map_some,Option.getD_some,Option.some.injEq,exists_eq_left']
 rw[Array.all_eq_true_iff_forall_mem]
 refine forall_congr' fun e=>forall_congr' fun c=>?_
 cases Region.binds .any e<;>simp
end
section
variable {P:Program}{Q:Exit->Act->World->Prop}
def QdV (all:List Oper):Nat->Oper->Nat->Bool
 | 0,_,_=>false
 | f+1,o,j=>o.after.any fun e=>Region.binds .any e&&(e.on==j||(match all[e.on]? with | some o'=>QdV all f o' j | none=>false))
def QaL (all:List Oper) (k:Nat):List Oper->Bool
 | []=>true
 | o::l=>((List.range k).all fun j=>QdV all 24 o j)&&QaL all (k+1) l
theorem Qc8 {all:List Oper}{j:Nat}{S:Nat->Prop}(b:∀ (q:Nat) (o':Oper),all[q]?=some o'->S q->∀ e∈o'.after,Region.binds .any e=true->S e.on):∀ (f:Nat) (o:Oper),QdV all f o j=true->(∀ e∈o.after,Region.binds .any e=true->S e.on)->S j
 | 0,_,h,_=>by simp[QdV] at h
 | f+1,o,h,hS=>by
   simp only[QdV] at h
   obtain⟨q,i,c⟩:=Array.any_eq_true.1 h
   rw[Bool.and_eq_true,Bool.or_eq_true] at c
   have g:=Array.getElem_mem i;generalize o.after[q]=d at c g;rcases c.2 with a | a
   ·have:=hS d g c.1
    rwa [beq_iff_eq.1 a] at this
   ·cases ho':all[d.on]? with
    | none=>rw[ho'] at a;simp at a
    | some o' =>
      rw[ho'] at a
      exact Qc8 b f o' a (b _ o' ho' (hS d g c.1))
theorem Qeh (all:List Oper):∀ (l:List Oper) (k i:Nat) (o:Oper),QaL all k l=true->l[i]?=some o->∀ j,j<k+i->∀ S:Nat->Prop,
 (∀ (q:Nat) (o':Oper),all[q]?=some o'->S q->∀ e∈o'.after,Region.binds .any e=true->S e.on)->(∀ e∈o.after,Region.binds .any e=true->S e.on)->S j
 | [],_,_,_,_,h=>by simp at h
 | x::l,k,0,o,h,ho=>by
   simp at ho;subst ho
   simp only[QaL,Bool.and_eq_true] at h
   intro j b S a c;exact Qc8 a 24 x (Xe.1 h.1 j (by simpa using b)) c
 | x::l,k,i+1,o,h,ho=>by
   simp only[QaL,Bool.and_eq_true] at h
   simp at ho
   intro j b;exact Qeh all l (k+1) i o h.2 ho j (by omega)
theorem Qg4 {l:List Oper}(J:Qcr 0 l=true){k0:Nat}(T:QaL l k0 (l.drop k0)=true):∀ (m k fuel:Nat) (listed:Array Bool) (a:Act) (w:World),k+m=l.length->k0<=k->m<=fuel->listed.size=l.length ->
 (∀ j,j<l.length->listed.getD j false=decide (j<k))->wpList P l.toArray Q (l.drop k) a w->wpAny P .any l.toArray Q fuel listed a w:=by
 intro m
 induction m with
 | zero =>
   intro k fuel listed a w V _ _ K c h
   have v:Region.ready .any l.toArray listed=[]:=by
    rw[List.eq_nil_iff_forall_not_mem]
    intro i s;obtain⟨H,r,_⟩:=ZE.1 s
    have g:i<l.length:=by simpa using H
    have:=c i g
    have N:decide (i<k)=true:=by simp;omega
    rw[N] at this
    have n:i<listed.size:=by omega
    simp[Array.getD,n] at this r
    rw[this] at r;cases r
   have u:Q .normal a w:=by
    rw[List.drop_of_length_le (by omega)] at h
    exact h
   cases fuel with
   | zero=>exact⟨v,u⟩
   | succ fuel=>exact⟨fun _=>u,fun i s=>by rw[v] at s;cases s⟩
 | succ m ih =>
   intro k fuel listed a w V R hf K c h;have b:k<l.length:=by omega
   obtain⟨fuel,rfl⟩:∃ f,fuel=f+1:=⟨fuel - 1,by omega⟩
   have t:k<listed.size:=by omega
   have E:k∈Region.ready .any l.toArray listed:=by
    refine ZE.2 ⟨by simpa using b,?_,l[k],by simp[b],fun e C p=>?_⟩
    ·have:=c k b
     simp[Array.getD,t] at this |-;exact this
    ·have:=back_at l 0 k l[k] J (by simp[b]) e C p
     rw[c _ (by omega)];simp;omega
   refine⟨fun v=>absurd (v ▸ E) (by simp),fun i s=>?_⟩
   have A:i=k:=by
    obtain⟨H,r,o,z,M⟩:=ZE.1 s
    have g:i<l.length:=by simpa using H
    have y:listed.getD i false=false:=by
     have n:i<listed.size:=by omega
     simp[Array.getD,n] at r |-;exact r
    have F:k<=i:=by
     have:=c i g
     rw[y] at this
     have:¬ i<k:=by simpa using this.symm
     omega
    rcases Nat.eq_or_lt_of_le F with e | L
    ·exact e.symm
    ·exfalso
     have:=Qeh l (l.drop k0) k0 (i - k0) o T (by rw[List.getElem?_drop,show k0+(i - k0)=i by omega];simpa using z) k (by omega) (fun j=>listed.getD j false=true)
      (fun q S u X e C p=>by
       have G:q<l.length:=(Zi u).1;have O:=back_at l 0 q S J u e C p;have I:listed.getD q false=true:=X;rw[c q G] at I
       have h6:q<k:=by simpa using I
       show listed.getD e.on false=true;rw[c e.on (by omega)];simp;omega) M
     rw[c k b] at this
     simp at this
   subst A;rw[List.drop_eq_getElem_cons b] at h
   have z:l.toArray[i]?=some l[i]:=by simp[b]
   have d:∀ a w,wpList P l.toArray Q (l.drop (i+1)) a w->wpAny P .any l.toArray Q fuel (listed.setIfInBounds i true) a w:=fun a w W =>
    ih (i+1) fuel _ a w (by omega) (by omega) (by omega) (by simpa using K) (fun j U=>by
     by_cases e:j=i
     ·subst e;simp[Array.getD,t]
     ·have B:i≠j:=fun x=>e x.symm;rw[Za,Array.getElem?_setIfInBounds_ne B,<-Za,c j U]
      simp;omega) W
   unfold wpOp;rw[z]
   simp only
   unfold wpList at h;split
   ·rename_i D
    rw[Xs D] at h
    exact h.imp (Oper.wp_mono d) id
   ·rename_i D
    rw[Xr D] at h
    exact d _ _ h
theorem Qbv {l l2:List Oper}(hb:Qcr 0 (l++l2)=true) (hg:Qbu l.length l=true) (ht:QaL (l++l2) l.length l2=true):∀ (fuel:Nat) (listed:Array Bool) (a:Act) (w:World),listed.size=l.length→(∀ (q:Nat) (o:Oper),l[q]?=some o→listed.getD q false=true→∀ e∈o.after,Region.binds .any e=true→listed.getD e.on false=true) →
 wpAny P .any l.toArray (Exit.then (fun a w=>wpList P (l++l2).toArray Q l2 a w) Q) fuel listed a w →
 wpAny P .any (l++l2).toArray Q (fuel+l2.length) (listed++Array.replicate l2.length false) a w:=by
 have z:∀ (i:Nat) (o:Oper),l[i]?=some o→∀ e∈o.after,Region.binds .any e=true→e.on<i:=fun i o p e n c=>by
  have r:i<l.length:=(Zi p).1
  have:=back_at (l++l2) 0 i o hb (by rw[XP r];exact p) e n c
  omega
 have f:∀ (listed:Array Bool) (j:Nat) (d:Bool),listed.size=l.length→j<l.length→(listed++Array.replicate l2.length false).getD j d=listed.getD j d:=fun listed j d m x=>by
  rw[Za,Za,Array.getElem?_append_left (by omega)]
 have B:∀ (listed:Array Bool) (j:Nat),listed.size=l.length→l.length≤j→(listed++Array.replicate l2.length false).getD j false=false:=fun listed j m x=>by
  rw[Za,Array.getElem?_append_right (by omega)]
  cases h:(Array.replicate l2.length false)[j - listed.size]? with
  | none=>rfl
  | some b =>
    have:=Array.mem_of_getElem? h
    simp at this
    simp[this.2]
 -- all of the first part are listed
 have A:∀ (fuel:Nat) (listed:Array Bool) (a:Act) (w:World),listed.size=l.length→(∀ j,j<l.length→listed.getD j false=true)→wpList P (l++l2).toArray Q l2 a w →
  wpAny P .any (l++l2).toArray Q (fuel+l2.length) (listed++Array.replicate l2.length false) a w:=fun fuel listed a w m k h=>by
  refine Qg4 hb (k0:=l.length) (by simpa using ht) l2.length l.length _ _ a w (by simp) Ze (by omega) (by simp[m]) (fun j x=>?_) (by simpa using h);by_cases s:j<l.length
  ·rw[f listed j false m s,k j s];simp[s]
  ·rw[B listed j m (by omega)];simp;omega
 have t:∀ (listed:Array Bool),listed.size=l.length→Region.ready .any l.toArray listed=[]→∀ j,j<l.length→listed.getD j false=true:=fun listed m W j=>by
  induction j using Nat.strongRecOn with
  | _ j ih =>
    intro x
    cases hc:listed.getD j false with
    | true=>rfl
    | false =>
      exfalso
      have s:j<listed.size:=by omega
      have R:listed.getD j true=false:=by simp[Array.getD,s] at hc ⊢;exact hc
      have:j∈Region.ready .any l.toArray listed:=ZE.2 ⟨by simpa using x,R,l[j],by simp[x],fun e n c=>by
       have:=z j l[j] (by simp[x]) e n c
       exact ih e.on this (by omega)⟩
      rw[W] at this;cases this
 intro fuel
 induction fuel with
 | zero =>
   intro listed a w m F h;exact A 0 listed a w m (t listed m h.1) h.2
 | succ fuel ih =>
   intro listed a w m F h;by_cases k:∀ j,j<l.length→listed.getD j false=true
   ·refine A (fuel+1) listed a w m k (h.1 ?_);rw[List.eq_nil_iff_forall_not_mem]
    intro i r;obtain⟨H,D,_⟩:=ZE.1 r
    have V:i<l.length:=by simpa using H
    have:=k i V
    have u:i<listed.size:=by omega
    simp[Array.getD,u] at this D
    rw[this] at D;cases D
   ·have X:Region.ready .any l.toArray listed≠[]:=fun e=>k (t listed m e)
    have C:∀ i,i∈Region.ready .any (l++l2).toArray (listed++Array.replicate l2.length false)↔i∈Region.ready .any l.toArray listed:=fun i=>by
     rw[ZE,ZE]
     by_cases r:i<l.length
     ·have e1:(l++l2).toArray[i]?=l.toArray[i]?:=by simp[List.getElem?_append_left r]
      rw[f listed i true m r,e1]
      constructor
      ·rintro ⟨_,D,o,p,E⟩;refine⟨by simpa using r,D,o,p,fun e n c=>?_⟩
       have:=z i o (by simpa using p) e n c
       have h4:=E e n c;rwa [f listed e.on false m (by omega)] at h4
      ·rintro ⟨_,D,o,p,E⟩;refine⟨by simp;omega,D,o,p,fun e n c=>?_⟩
       have:=z i o (by simpa using p) e n c
       rw[f listed e.on false m (by omega)]
       exact E e n c
     ·constructor
      ·rintro ⟨H,D,o,p,E⟩;exfalso
       refine k fun j x=>?_;have K:(l++l2)[i]?=some o:=by simpa using p
       rw[XQ (by omega)] at K
       have:=Qeh (l++l2) l2 l.length (i - l.length) o ht K j (by omega) (fun q=>(listed++Array.replicate l2.length false).getD q false=true)
        (fun q o' G O e n c=>by
         have N:(listed++Array.replicate l2.length false).getD q false=true:=O;by_cases L:q<l.length
         ·rw[f listed q false m L] at N
          rw[XP L] at G
          have h6:=z q o' G e n c;show (listed++Array.replicate l2.length false).getD e.on false=true;rw[f listed e.on false m (by omega)]
          exact F q o' G N e n c
         ·rw[B listed q m (by omega)] at N
          cases N) E
       rwa [f listed j false m x] at this
      ·rintro ⟨H,_⟩;exact absurd (by simpa using H) r
    rw[show fuel+1+l2.length=(fuel+l2.length)+1 by omega]
    refine⟨fun W=>?_,fun i r=>?_⟩
    ·exfalso
     apply X
     rw[List.eq_nil_iff_forall_not_mem]
     intro i r
     have:=(C i).2 r
     rw[W] at this;cases this
    ·have u:=(C i).1 r;have v:=h.2 i u;obtain⟨H,_⟩:=ZE.1 u
     have y:i<l.length:=by simpa using H
     have p:l.toArray[i]?=some l[i]:=by simp[y]
     have U:(l++l2).toArray[i]?=some l[i]:=by simp[List.getElem?_append_left y,y]
     unfold wpOp at v ⊢;rw[p] at v
     rw[U]
     simp only at v ⊢
     have hy:Region.wanted l[i] (yielded (l++l2).toArray a.tmps)=Region.wanted l[i] (yielded l.toArray a.tmps):=by
      unfold Region.wanted
      cases hgd:(l[i]).guard with
      | none=>rfl
      | some gw =>
        obtain⟨g,aa⟩:=gw
        have:=Xe.1 hg l[i] (List.getElem_mem y)
        rw[hgd] at this
        have S:g<l.length:=by simpa using this
        simp only
        have:yielded (l++l2).toArray a.tmps g=yielded l.toArray a.tmps g:=by
         unfold yielded
         have:(l++l2).toArray[g]?=l.toArray[g]?:=by simp[List.getElem?_append_left S]
         rw[this]
        rw[this]
     rw[hy]
     have nx:∀ a w,wpAny P .any l.toArray (Exit.then (fun a w=>wpList P (l++l2).toArray Q l2 a w) Q) fuel (listed.setIfInBounds i true) a w→wpAny P .any (l++l2).toArray Q (fuel+l2.length) ((listed++Array.replicate l2.length false).setIfInBounds i true) a w:=fun a w hh=>by
      have I:∀ (q:Nat) (o:Oper),l[q]?=some o→(listed.setIfInBounds i true).getD q false=true→∀ e∈o.after,Region.binds .any e=true→(listed.setIfInBounds i true).getD e.on false=true:=fun q o G O e n c=>by
       have up:∀ j,listed.getD j false=true→(listed.setIfInBounds i true).getD j false=true:=fun j x=>by
        by_cases M:i=j
        ·subst M
         have:i<listed.size:=by omega
         simp[Array.getD,this]
        ·rw[Za,Array.getElem?_setIfInBounds_ne M,← Za];exact x
       by_cases M:i=q
       ·subst M;obtain⟨_,_,o2,J,E⟩:=ZE.1 u
        have:o2=o:=by
         have h7:l[i]?=some o2:=by simpa using J
         rw[G] at h7;exact(Xn h7).symm
        subst this;exact up _ (E e n c)
       ·rw[Za,Array.getElem?_setIfInBounds_ne M,← Za] at O
        exact up _ (F q o G O e n c)
      have:=ih (listed.setIfInBounds i true) a w (by simpa using m) I hh
      have e:(listed++Array.replicate l2.length false).setIfInBounds i true=listed.setIfInBounds i true++Array.replicate l2.length false:=by
       rw[Array.setIfInBounds_append_left (by omega)]
      rw[e];exact this
     split
     ·rename_i T
      rw[Xs T] at v
      rcases v with v | v
      ·exact .inl (Oper.wp_mono nx (Qlw v))
      ·exact .inr v
     ·rename_i T
      rw[Xr T] at v
      exact nx _ _ v
end
theorem QgU {P:Program}{l l2:List Oper}{outs:List Tmp}{gs:List (Nat × Option Bool)}{a:Act}{Q:Exit->Act->World->Prop}
 (E:Tmp->Value->World->Prop) (W:World->Prop) (R:World->World->Prop)
 (r:P.follows .mixedOrders=true)  (B:a.tmps.size=m) (c:n<=m) (A:Qa1 l n outs gs bs=true)
 (i:(Qcr 0 (l++l2)&&(Qbu l.length l&&QaL (l++l2) l.length l2))=true)
 (D:∀ t v w w',R w w'->E t v w->E t v w') (x:QaS E W l.toArray gs) (z:W w.drew) (y:Qai E a w.drew outs)
 (p:Qd2 E W R P l bs)
 (b:∀ (vs:Tmp->Value) w',W w'->(∀ t,(Qs l).contains t=true->E t (vs t) w')->wpList P (l++l2).toArray Q l2 (QM a vs (Qs l)) w') :
 (Code.region id (l++l2).toArray true).wp P Q a w:=by
 simp only[Bool.and_eq_true] at i
 obtain⟨g,h,f⟩:=i
 refine wp_region_any r ?_
 have d:wpAny P .any l.toArray (Exit.then (fun a w=>wpList P (l++l2).toArray Q l2 a w) Q) l.length (Array.replicate l.length false) a w.drew:=by
  refine QdM (E:=E) (W:=W) (R:=R) (a0:=a) (outs:=outs) (gs:=gs) (bs:=bs) (Qau (B ▸ c) A) D x p b _ _ _ _ (by simp) ?_ ⟨z,Z,Z,fun _ _=>rfl,fun t u _=>Qa7 outs y t u,?_⟩
  ·simp only[Array.toList_replicate]
   exact Zt (List.length_filter_le _ _) (by simp)
  ·intro j o t G F s;simp[Array.getD] at s
 have:=Qbv (Q:=Q) g h f l.length (Array.replicate l.length false) a w.drew (by simp) (fun q o H C=>by simp[Array.getD] at C) d
 have e:(Array.replicate l.length false++Array.replicate l2.length false:Array Bool)=Array.replicate (l++l2).toArray.size false:=by
  simp
 have k:l.length+l2.length=(l++l2).toArray.size:=by simp
 rw[e,k] at this
 exact this
theorem Qg {P:Program}{lo:List Oper}{outs:List Tmp}{gs:List (Nat × Option Bool)}{a:Act}{Q:Exit->Act->World->Prop}
 (k:Nat) (E:Tmp->Value->World->Prop) (W:World->Prop) (R:World->World->Prop)
 (o:P.follows .mixedOrders=true)  (i:a.tmps.size=m) (c:n<=m) (g:Qa1 (lo.take k) n outs gs bs=true)
 (d:(Qcr 0 lo&&(Qbu (lo.take k).length (lo.take k)&&QaL lo (lo.take k).length (lo.drop k)))=true)
 (q:∀ t v w w',R w w'->E t v w->E t v w') (p:QaS E W (lo.take k).toArray gs) (f:W w.drew) (e:Qai E a w.drew outs)
 (j:Qd2 E W R P (lo.take k) bs)
 (b:∀ ops (vs:Tmp->Value) w',W w'->(∀ t,(Qs (lo.take k)).contains t=true->E t (vs t) w')->wpList P ops Q (lo.drop k) (QM a vs (Qs (lo.take k))) w') :
 (Code.region id lo.toArray true).wp P Q a w:=by
 have h:=QgU (id:=id) (l:=lo.take k) (l2:=lo.drop k) (Q:=Q) E W R o i c g (by rw[List.take_append_drop];exact d) q p f e j (b _);rwa [List.take_append_drop] at h
def QlQ (L:List (Tmp × (Value->World->Prop))) (T:List (Tmp × Value)) (t:Tmp) (v:Value) (w:World):Prop :=
 match L.lookup t with
 | some p=>p v w
 | none=>v=(T.lookup t).getD undef
def QnP (v:Value) (w w':World):List (Tmp × (Value->World->Prop))->Prop
 | []=>True
 | p::l=>(p.2 v w->p.2 v w')/\QnP v w w' l
theorem QlQ.keep {T:List (Tmp × Value)}{t:Tmp}{v:Value}{w w':World}:∀ {L:List (Tmp × (Value->World->Prop))},QlQ L T t v w->QnP v w w' L->QlQ L T t v w'
 | [],h,_=>h
 | (s,p)::l,h,k=>by
   have a:=fun h=>QlQ.keep (T:=T) (t:=t) (L:=l) h k.2;unfold QlQ at h a |-;simp only[List.lookup_cons] at h |-
   cases e:t==s with
   | true=>rw[e] at h;exact k.1 h
   | false=>rw[e] at h;exact a h
def Qmm (S S':Nat->Bool) (t:Tmp) (v:Value) (w w':World):List (Tmp × ((Nat->Bool)->Value->World->Prop))->Prop
 | []=>True
 | p::l=>(t=p.1->p.2 S v w->p.2 S' v w')/\Qmm S S' t v w w' l
theorem QmC {S a:Nat->Bool}{t:Tmp}{v:Value}{w w':World}{R:Prop}:∀ {L:List (Tmp × ((Nat->Bool)->Value->World->Prop))},Qmm S a t v w w' L->(match L.lookup t with | some p=>p S v w | none=>R)->(match L.lookup t with | some p=>p a v w' | none=>R)
 | [],_,h=>h
 | (s,p)::l,k,h=>by
   have b:=QmC (R:=R) (L:=l) k.2;simp only[List.lookup_cons] at h |-
   cases e:t==s with
   | true=>rw[e] at h;exact k.1 (by simpa using e) h
   | false=>rw[e] at h;exact b h
structure Bx (w wr:World) (k r:Int) (a:Option Addr) (len c:Nat):Prop where
 bel:Below w.heap.size w wr
 box:wr.heap[w.heap.size]?=some (.cells #[Iv k,Iv r,.slice a len c] 105 (0,0))
theorem Bx.start (w:World) (k r:Int) (a:Option Addr) (len c:Nat):Bx w (w.alloc (.cells #[Iv k,Iv r,.slice a len c] 105)) k r a len c :=
 ⟨(Below.refl _ w).alloc Ze _,Qe w _ _⟩
theorem Bx.below {wr:World}{k r:Int}{len:Nat}(h:Bx w wr k r a len c) (b:Below wr.heap.size wr w'):Bx w w' k r a len c :=
 ⟨h.bel.trans (b.mono h.bel.size),QaQ h.box b⟩
theorem Bx.alloc {wr:World}{k r:Int}{len:Nat}(h:Bx w wr k r a len c) (o:Obj):Bx w (wr.alloc o) k r a len c :=
 h.below ((Below.refl _ wr).alloc Ze _)
theorem Qen {α:Type}(f:α->Nat) (l:List α) (i:Nat) (x:α) (h:l[i]?=some x):((l.map f).take (i+1)).sum=((l.map f).take i).sum+f x:=by
 rw[XV,XS,h]
 simp
def Qd3 (f:Nat) (n:Nat):Prop:=∀ (t:TT n) (a:Option Addr) (c:Nat) (regs:Int) (w:World),TIn w All t a->t.count<=100000 ->
 Calls prog f #[Tv t a c,Iv regs] w fun e w'=>e=.returned (Iv (t.fault regs))/\Below w.heap.size w w'
section
variable {w0 w w':World}{Bs:List (Nat × Array Value × TypeId)}
def QaE (c:Array Value) (j:Nat) (vs:List Value):Array Value:=(c.toList.take j++(vs++c.toList.drop (j+vs.length))).toArray
theorem Qe4 (c:Array Value) (j:Nat) (v:Value) (b:List Value) (h:j+(v::b).length<=c.size):QaE (c.setIfInBounds j v) (j+1) b=QaE c j (v::b):=by
 unfold QaE;congr 1
 have d:j<c.toList.length:=by simp at h |-;omega
 simp only[Array.toList_setIfInBounds]
 rw[List.take_set,List.drop_set_of_lt (by omega),XV,Zg d]
 simp only[Option.toList,List.length_cons]
 have:(c.toList.take j++[c.toList[j]]).set j v=c.toList.take j++[v]:=by
  rw[List.set_append_right _ _ (by simp;omega)]
  have a:j<c.size:=by simpa using d
  simp[Nat.min_eq_left (Nat.le_of_lt a)]
 rw[this,Nat.add_assoc,Nat.add_comm 1]
 simp
end
section
variable {n:Nat}{a:Act}{L:List (Tmp × Value)}{w0 w:World}{Bs:List (Nat × Array Value × TypeId)}{Q:Exit->Act->World->Prop}{ops:Array Oper}{rest:List Oper}{t:Tmp}{u v:Value}{ty ty2 ty3:TypeId}{pos:String}{aft:Array Edge}{gd:Option (Nat × Bool)}{x y z:Operand}{g tg:Nat}{want b:Bool}
theorem QlC {w:World}{c:Array Value}{t:TypeId}(h:Blk w B c t) (j m:Nat) (e:Nat.ble (j+m) c.size=true):w.rangeAt B j ((c.toList.drop j).take m):=fun k v b=>by
 have a:k<((c.toList.drop j).take m).length:=(Zi b).1;have d:k<m:=by simp at a;omega
 rw[XR,Xs d,List.getElem?_drop] at b
 exact Qb h (j+k) v (by simpa using b)
end
theorem XM:type_of% @Nat.one_mul:=@Nat.one_mul
theorem Qck {B:Nat}{t:TypeId}:∀ (vs:List Value) (w:World) (c:Array Value) (j:Nat),Blk w B c t->j+vs.length<=c.size->Blk (w.setCells B j vs) B (QaE c j vs) t
 | [],w,c,j,h,hs=>by
   have:QaE c j []=c:=by unfold QaE;simp
   rw[this];exact h
 | v::vs,w,c,j,h,hs=>by
   have:=Qck vs (w.setCell ⟨B,j,none⟩ v) (c.setIfInBounds j v) (j+1) (Qh h j v) (by simp at hs |-;omega)
   rw[Qe4 _ _ _ _ hs] at this
   exact this
theorem QJ {B b:Nat}(a:B<=b):∀ (vs:List Value) (w w0:World) (j:Nat),Below B w0 w->Below B w0 (w.setCells b j vs)
 | [],w,w0,j,h=>h
 | v::vs,w,w0,j,h=>QJ a vs _ _ _ (h.setCell a v)
theorem Qdp (w:World) (b j:Nat) (c:List Value):w.grownBy (w.setCells b j c) (some b):=by
 have h:=QJ (Xb b) c w w j (Below.refl 0 w);exact⟨h.os,h.tape,h.output,h.size,fun k d a=>QE (fun e=>a (by rw[e])) c j w⟩
section
variable {α:Type}{A:Lay α}{e:TypeId}{w:World}{lo g n:Nat}{l:List α}{xs:List Value}
theorem Qap.fill (h:Qap A e w lo (.slice (some ⟨g,0,none⟩) l.length n) l xs){x:α}(j:A.In w (fun k=>lo<=k/\k≠g) x ds) (p:l.length<n) :
 Qap A e (w.setCells g (l.length*A.size) ds) lo (.slice (some ⟨g,0,none⟩) (l.length+1) n) (l++[x]) (xs++ds):=by
 have b:=A.len j;refine Qap.push h (Yc j (fun k q _=>⟨q.1,fun e=>q.2 (by simpa[Value.ownBlock] using e.symm)⟩)) (Qdp w g _ ds) (.inl Z) ?_;obtain⟨m,t⟩:=h.own
 rcases t with ⟨d,_⟩|⟨y,o,c,d,v,r,u,f,i,a⟩
 ·simp at d
 ·simp only[Value.slice.injEq,Option.some.injEq,Addr.mk.injEq,and_true,true_and] at d
  obtain⟨rfl,rfl⟩:=d
  have s:(l.length+1)*A.size<=n*A.size:=Xp _ p;rw[Nat.add_mul,XM] at s
  refine⟨by rw[List.length_append,m,b,Nat.add_mul,XM],.inr ⟨g,n,QaE c (l.length*A.size) ds,Z,v,Qck ds w c _ r (by omega),p,f,?_,?_⟩⟩
  ·rw[<-i];unfold QaE;simp;omega
  ·unfold QaE;rw[a,Nat.add_mul,XM]
   rw[show l.length*A.size+A.size=(xs++ds).length by rw[List.length_append,m,b],List.toList_toArray,<-List.append_assoc]
   exact List.take_left' Z
end
section
variable {P:Program}{Q:Exit->Act->World->Prop}
def QgE (l:List Oper) (S:Nat->Bool):Prop:=∀ (j:Nat) (o:Oper),l[j]?=some o->S j=true->∀ e∈o.after,Region.binds .any e=true->S e.on=true
def Qnb (o:Oper) (S:Nat->Bool):Prop:=∀ e∈o.after,Region.binds .any e=true->S e.on=true
def Qcu (i:Nat) (S:Nat->Bool):Nat->Bool:=fun j=>j==i||S j
end
section
variable (E:Tmp->Value->World->Prop) (W:(Nat->Bool)->World->Prop) (R:World->World->Prop) (P:Program) (l:List Oper)
def ZJ (ops:Array Oper):List (Nat × Option Bool)->Prop
 | []=>True
 | (g,c)::r=>(∀ t,(ops[g]?).bind (·.dst)=some t->∀ v w,E t v w->match c with | some b=>v=.bool b | none=>v=undef)/\ZJ ops r
end
section
variable {P:Program}{E:Tmp->Value->World->Prop}{W:(Nat->Bool)->World->Prop}{R:World->World->Prop}
theorem QdN {a:Array Oper}:∀ (gs:List (Nat × Option Bool)),ZJ E a gs->∀ g c,gs.lookup g=some c->∀ t,(a[g]?).bind (·.dst)=some t->∀ v w,E t v w->match c with | some b=>v=.bool b | none=>v=undef
 | [],_,_,_,h=>by simp at h
 | (g',c')::r,h,g,c,hl=>by
   by_cases e:g=g'
   ·subst e;simp at hl;subst hl;exact h.1
   ·have d:(g==g')=false:=by simpa using e
    simp[List.lookup_cons,d] at hl;exact QdN r h.2 g c hl
end
def Qm0 (l:List Oper) (S:Nat->Bool) (t:Tmp):Prop:=t∈Qs l->∃ j o,l[j]?=some o/\o.dst=some t/\S j=true
def PEx (PX:List PanicEntry->World->Prop):Exit->Act->World->Prop:=fun e _ w=>∃ ch,e=.panic ch/\PX ch w
theorem Qoc {o:Oper}{a:Act}{K f:Act->World->Prop}{PX:List PanicEntry->World->Prop}{Q:Exit->Act->World->Prop}(h:∀ a w,K a w->f a w) (d:∀ e w,PEx PX e a w->Q e a w)
 (b:o.wp P a w K (PEx PX)):o.wp P a w f Q:=by
 unfold Oper.wp at *;generalize (execOp a.eval o).run P w=r at *
 cases r with
 | ok n w' =>
   cases n<;>simp only[Oper.upon] at b |- <;>
    first
     | exact h _ _ b
     | exact d _ _ b
     | exact Xm b (fun e g c=>by cases e<;>first | exact h _ _ c | exact d _ _ c | (obtain⟨x,y,i,c,_⟩:=c;cases c))
     | exact Rows.mono b (fun _ _ c=>h _ _ c)
 | halt x w'=>cases x<;>simp only[Oper.upon] at b |-<;>first | exact d _ _ b | exact b
section
variable (E:(Nat->Bool)->Tmp->Value->World->Prop) (W:(Nat->Bool)->World->Prop) (PX:List PanicEntry->World->Prop) (P:Program) (l:List Oper)
def Qjo (i:Nat) (o:Oper):Prop :=
 ∀ (S:Nat->Bool) a w,S i=false->Qnb o S->QgE l S->W S w->Qd0 (E S) a w (QeT o)->∀ K:Act->World->Prop,(∀ v w',(∀ t,Qm0 l S t->E S t (a.tmps.getD t undef) w->E (Qcu i S) t (a.tmps.getD t undef) w')->W (Qcu i S) w'->EO (E (Qcu i S)) o.dst v w'->K (a.put o.dst v) w')->o.wp P a w K (PEx PX)
def Qgx (i:Nat) (o:Oper):Prop:=∀ (S:Nat->Bool) (a:Act) w,S i=false->Qnb o S->QgE l S->W S w->(W (Qcu i S) w/\EO (E (Qcu i S)) o.dst undef w/\∀ t,Qm0 l S t->E S t (a.tmps.getD t undef) w->E (Qcu i S) t (a.tmps.getD t undef) w)
structure Ql5 (outs:List Tmp) (a0:Act) (listed:Array Bool) (a:Act) (w:World):Prop where
 world:W (fun j=>listed.getD j false) w
 closed:QgE l (fun j=>listed.getD j false)
 defers:a.defers=a0.defers
 size:a.tmps.size=a0.tmps.size
 outer:∀ t,t ∉ Qs l->a.tmps[t]?=a0.tmps[t]?
 outs:∀ t∈outs,t ∉ Qs l->E (fun j=>listed.getD j false) t (a.tmps.getD t undef) w
 known:∀ j o t,l[j]?=some o->o.dst=some t->listed.getD j false=true->E (fun j=>listed.getD j false) t (a.tmps.getD t undef) w
def AllOkY:Nat->List Oper->List Bool->Prop
 | i,o::r,true::bs=>Qjo E W PX P l i o/\AllOkY (i+1) r bs
 | i,o::r,false::bs=>Qgx E W l i o/\AllOkY (i+1) r bs
 | _,_,_=>True
end
section
variable {P:Program}{E:(Nat->Bool)->Tmp->Value->World->Prop}{W:(Nat->Bool)->World->Prop}{PX:List PanicEntry->World->Prop}
theorem Qf3 {a:List Oper}(gs:List (Nat × Option Bool)):∀ (l:List Oper) (k:Nat) (bs:List Bool),Qla gs l bs=true->AllOkY E W PX P a k l bs->∀ (i:Nat) (o:Oper),l[i]?=some o->(onB gs o true=true/\Qjo E W PX P a (k+i) o)\/(onB gs o false=true/\Qgx E W a (k+i) o)
 | [],_,_,_,_,_,_,h=>by simp at h
 | _::_,_,[],h,_,_,_,_=>by simp[Qla] at h
 | x::l,k,b::bs,h,ha,i,o,ho=>by
   simp only[Qla,Bool.and_eq_true] at h
   cases i with
   | zero =>
     simp at ho;subst ho
     cases b with
     | true=>exact .inl ⟨h.1,ha.1⟩
     | false=>exact .inr ⟨h.1,ha.1⟩
   | succ i =>
     simp at ho
     have e:k+(i+1)=k+1+i:=by omega
     rw[e]
     cases b with
     | true=>exact Qf3 gs l (k+1) bs h.2 ha.2 i o ho
     | false=>exact Qf3 gs l (k+1) bs h.2 ha.2 i o ho
theorem Qbn {l:List Oper}{outs:List Tmp}{gs:List (Nat × Option Bool)}{a0:Act}{Q:Exit->Act->World->Prop}
 (hX:∀ ch a w,a.defers=a0.defers->PX ch w->Q (.panic ch) a w) (hB:Qa1 l a0.tmps.size outs gs bs=true) (hG:∀ S,ZJ (E S) l.toArray gs) (hA:AllOkY E W PX P l 0 l bs)
 (ae:∀ (vs:Tmp->Value) (S:Nat->Bool) w',(∀ j,j<l.length->S j=true)->W S w'->(∀ t,(Qs l).contains t=true->E S t (vs t) w')->Q .normal (QM a0 vs (Qs l)) w') :
 ∀ (fuel:Nat) (listed:Array Bool) (a:Act) (w:World),listed.size=l.length->(listed.toList.filter (·==false)).length<=fuel->Ql5 E W l outs a0 listed a w ->
  wpAny P .any l.toArray Q fuel listed a w:=by
 simp only[Qa1,Bool.and_eq_true] at hB
 obtain⟨⟨⟨⟨⟨ao,an⟩,ab⟩,au⟩,ar⟩,ax⟩:=hB
 have af:∀ (listed:Array Bool) (a:Act) (w:World),listed.size=l.length->Region.ready .any l.toArray listed=[]->Ql5 E W l outs a0 listed a w->Q .normal a w:=by
  intro listed a w hs M f
  have O:∀ j,j<l.length->listed.getD j false=true:=by
   intro j
   induction j using Nat.strongRecOn with
   | _ j ih =>
     intro s
     cases q:listed.getD j false with
     | true=>rfl
     | false =>
       exfalso
       have:j∈Region.ready .any l.toArray listed:=by
        unfold Region.ready;refine List.mem_filter.2 ⟨by simpa using s,?_⟩
        have e1:listed.getD j true=false:=by
         have aw:j<listed.size:=by omega
         simp[Array.getD,aw] at q |-;exact q
        have e2:l.toArray[j]?=some l[j]:=by simp[s]
        rw[e1,e2]
        simp only[Bool.not_false,Bool.true_and,Option.map_some,Option.getD_some]
        rw[Array.all_eq_true_iff_forall_mem]
        intro e H
        cases J:Region.binds .any e with
        | false=>rfl
        | true =>
          have:=back_at l 0 j l[j] ax (by simp[s]) e H J
          simp only[Bool.not_true,Bool.false_or]
          exact ih e.on (by omega) (by omega)
       rw[M] at this
       cases this
  have ad:∀ t∈Qs l,E (fun j=>listed.getD j false) t (a.tmps.getD t undef) w/\t<a0.tmps.size:=by
   intro t r;obtain⟨o,ho,y⟩:=List.mem_filterMap.1 r
   obtain⟨j,s⟩:=List.getElem?_of_mem ho
   have B:j<l.length:=by
    rcases Nat.lt_or_ge j l.length with h | h
    ·exact h
    ·rw[Xk h] at s;cases s
   exact⟨f.known j o t s y (O j B),by simpa using Xe.1 ab t r⟩
  have H:a=QM a0 (fun t=>a.tmps.getD t undef) (Qs l):=by
   have e1:a.tmps=(QM a0 (fun t=>a.tmps.getD t undef) (Qs l)).tmps:=by
    refine Array.ext (by rw[Qdf,f.size]) fun t h1 h2=>?_;have h3:t<a0.tmps.size:=by rw[<-f.size];exact h1
    have:=QfY (fun t=>a.tmps.getD t undef) (Qs l) a0 t h3
    rw[Xj h2] at this
    by_cases hm:t∈Qs l
    ·rw[Xs hm] at this
     simp only[Option.some.injEq] at this
     rw[this];simp[Array.getD,h1]
    ·rw[Xr hm,<-f.outer t hm,Xj h1] at this
     exact(Xn this).symm
   have e2:a.defers=(QM a0 (fun t=>a.tmps.getD t undef) (Qs l)).defers:=by rw[Qbs,f.defers]
   cases a with
   | mk t d =>
     simp only at e1 e2
     generalize hp:QM a0 (fun x=>t.getD x undef) (Qs l)=p at e1 e2 |-
     cases p;simp only at e1 e2;rw[e1,e2]
  rw[H]
  exact ae _ _ _ O f.world fun t r=>(ad t (by simpa using r)).1
 intro fuel
 induction fuel with
 | zero =>
   intro listed a w hs hf f
   have M:Region.ready .any l.toArray listed=[]:=by
    rw[List.eq_nil_iff_forall_not_mem]
    intro i hi;obtain⟨h1,h2⟩:=List.mem_filter.1 hi
    have B:i<l.length:=by simpa using h1
    simp only[Bool.and_eq_true,Bool.not_eq_true'] at h2
    have:listed[i]'(by omega)=false:=by
     have:=h2.1;simp[Array.getD,show i<listed.size by omega] at this;exact this
    have hm:false∈listed.toList.filter (·==false):=List.mem_filter.2 ⟨by rw[<-this];simp,by simp⟩
    have:=List.length_pos_of_mem hm
    omega
   exact⟨M,af listed a w hs M f⟩
 | succ fuel ih =>
   intro listed a w hs hf f;refine⟨fun M=>af listed a w hs M f,fun i hi=>?_⟩
   obtain⟨h1,h2⟩:=List.mem_filter.1 hi
   have B:i<l.length:=by simpa using h1
   simp only[Bool.and_eq_true,Bool.not_eq_true'] at h2
   obtain⟨ag,m⟩:=h2
   have K:i<listed.size:=by omega
   have T:listed[i]=false:=by simp[Array.getD,K] at ag;exact ag
   have ho:l.toArray[i]?=some l[i]:=by simp[B]
   have n:l[i]?=some l[i]:=by simp[B]
   generalize a1:l[i]=o at ho n;rw[ho] at m
   simp only[Option.map_some,Option.getD_some] at m
   rw[Array.all_eq_true_iff_forall_mem] at m
   have z:∀ t∈o.looksAt l.toArray,E (fun j=>listed.getD j false) t (a.tmps.getD t undef) w:=by
    intro t r
    have:=Xe.1 (Xe.1 au o (Zm n)) t r
    rw[Bool.or_eq_true] at this
    rcases this with h | h
    ·simp only[Bool.and_eq_true,Bool.not_eq_true'] at h
     exact f.outs t (by simpa using h.1) (by simpa using h.2)
    ·obtain⟨k,hk,h⟩:=Array.any_eq_true.1 h
     simp only[Bool.and_eq_true,beq_iff_eq] at h
     obtain⟨q,y⟩:=h
     have L:=m _ (Array.getElem_mem hk);rw[q] at L
     simp only[Bool.not_true,Bool.false_or] at L
     generalize o.after[k]=e at *;obtain⟨V,av,am⟩:=Option.bind_eq_some_iff.1 y
     exact f.known e.on V t (by simpa using av) am L
   have aq:Qd0 (E (fun j=>listed.getD j false)) a w (QeT o):=Qer _ fun t r=>z t (by
    unfold Oper.looksAt;exact List.mem_append_left _ r)
   have hw:∀ b,onB gs o b=true->Region.wanted o (yielded l.toArray a.tmps)=b:=by
    intro b q;unfold onB at q;unfold Region.wanted
    cases hg:o.guard with
    | none=>rw[hg] at q;simp only at q |-;exact q.symm
    | some gw =>
      obtain⟨g,az⟩:=gw
      rw[hg] at q
      simp only at q |-
      cases L:gs.lookup g with
      | none=>rw[L] at q;cases q
      | some c =>
        rw[L] at q
        simp only[beq_iff_eq] at q
        have hy:yielded l.toArray a.tmps g=c:=by
         unfold yielded;have ap:(g,c)∈gs:=mem_of_lookup gs g c L;have D:=Xe.1 ao _ ap
         cases y:(l.toArray[g]?).bind (·.dst) with
         | none=>rw[y] at D;cases D
         | some t =>
           have hE:=z t (by unfold Oper.looksAt;rw[hg];simp only[y];simp);have I:=QdN gs (hG _) g c L t y _ _ hE;obtain⟨og,al,ay⟩:=Option.bind_eq_some_iff.1 y
           have ac:t<a.tmps.size:=by
            rw[f.size]
            have:=Xe.1 ab t (List.mem_filterMap.2 ⟨og,Zm (by simpa using al),ay⟩)
            simpa using this
           have r:a.tmps[t]?=some (a.tmps.getD t undef):=by simp[Array.getD,ac]
           simp only[Option.bind_some,r]
           cases c with
           | none=>simp only at I;rw[I];rfl
           | some b=>simp only at I;rw[I]
        rw[hy,q]
   have N:((listed.setIfInBounds i true).toList.filter (·==false)).length<=fuel:=by
    have h3:=filter_set listed.toList i (by simpa using K) (by simpa using T);rw[Array.toList_setIfInBounds]
    omega
   have u:(fun j=>(listed.setIfInBounds i true).getD j false)=Qcu i (fun j=>listed.getD j false):=by
    funext j
    unfold Qcu;by_cases e:j=i
    ·subst e;simp[Array.getD,K]
    ·have U:i≠j:=fun x=>e x.symm;rw[Za,Array.getElem?_setIfInBounds_ne U,<-Za]
     simp[e]
   have G:Qnb o (fun j=>listed.getD j false):=fun e H q=>by
    have:=m e H
    rw[q] at this
    simpa using this
   have ah:(fun j=>listed.getD j false) i=false:=by simp[Array.getD,K,T]
   have R:∀ v w',W (Qcu i (fun j=>listed.getD j false)) w'->(∀ t,Qm0 l (fun j=>listed.getD j false) t->E (fun j=>listed.getD j false) t (a.tmps.getD t undef) w->E (Qcu i (fun j=>listed.getD j false)) t (a.tmps.getD t undef) w')->EO (E (Qcu i (fun j=>listed.getD j false))) o.dst v w'->Ql5 E W l outs a0 (listed.setIfInBounds i true) (a.put o.dst v) w':=by
    intro v w' aa A I
    have F:∀ t,o.dst≠some t->(a.put o.dst v).tmps[t]?=a.tmps[t]?:=by
     intro t r
     cases y:o.dst with
     | none=>rfl
     | some d =>
       have:d≠t:=fun e=>r (by rw[y,e])
       simp[Act.put,this]
    have C:∀ (b c:Array Value) (t:Nat),b[t]?=c[t]?->b.getD t undef=c.getD t undef:=by
     intro b c t h;rw[Za,Za,h]
    refine⟨by rw[u];exact aa,?_,?_,?_,?_,?_,?_⟩
    ·rw[u]
     intro j V s hS e H J;unfold Qcu at hS |-;by_cases e':j=i
     ·subst e';rw[n] at s
      obtain rfl:=Xn s
      have:=G e H J
      simp only at this
      simp[this]
     ·have:(j==i)=false:=by simpa using e'
      rw[this,Bool.false_or] at hS
      have:=f.closed j V s hS e H J
      simp only at this
      simp[this]
    ·rw[<-f.defers];cases o.dst<;>rfl
    ·rw[<-f.size];cases o.dst<;>simp[Act.put]
    ·intro t r;rw[F t (fun e=>r (List.mem_filterMap.2 ⟨o,Zm n,e⟩)),f.outer t r]
    ·intro t r hn;rw[C _ _ t (F t (fun e=>hn (List.mem_filterMap.2 ⟨o,Zm n,e⟩)))]
     rw[u]
     exact A _ (fun h=>absurd h hn) (f.outs t r hn)
    ·intro j V t s y aj;by_cases X:j=i
     ·subst X;rw[n] at s
      obtain rfl:=Xn s
      have ac:t<a.tmps.size:=by
       rw[f.size]
       have:=Xe.1 ab t (List.mem_filterMap.2 ⟨o,Zm n,y⟩)
       simpa using this
      rw[y] at I |-
      have:(a.put (some t) v).tmps.getD t undef=v:=by simp[Act.put,Array.getD,ac]
      rw[this,u];exact I
     ·have U:o.dst≠some t:=fun e=>X (nodup_apart l j i V o t an s n y e);rw[C _ _ t (F t U)]
      have ak:i≠j:=fun e=>X e.symm
      have ai:listed.getD j false=true:=by
       rw[Za,Array.getElem?_setIfInBounds_ne ak] at aj
       rw[Za];exact aj
      rw[u]
      exact A _ (fun _=>⟨j,V,s,y,ai⟩) (f.known j V t s y ai)
   unfold wpOp;rw[ho]
   simp only
   rcases Qf3 gs l 0 bs ar hA i o n with ⟨h,A⟩|⟨h,A⟩
   ·rw[hw true h,Xs Z]
    refine .inl (Qoc (fun a' w' hh=>hh) (fun e w' H=>by obtain⟨ch,rfl,hp⟩:=H;exact hX ch _ _ f.defers hp) ((XK i ▸ A) (fun j=>listed.getD j false) a w ah G f.closed f.world aq _ fun v w' M aa I=>?_));exact ih _ _ _ (by simpa using hs) N (R v w' aa M I)
   ·rw[hw false h]
    simp only[Bool.false_eq_true,if_false]
    have hO:=(XK i ▸ A) (fun j=>listed.getD j false) a w ah G f.closed f.world;exact ih _ _ _ (by simpa using hs) N (R undef w hO.1 hO.2.2 hO.2.1)
theorem Qde {l:List Oper}{outs:List Tmp}{gs:List (Nat × Option Bool)}{a:Act}{Q:Exit->Act->World->Prop}
 (E:(Nat->Bool)->Tmp->Value->World->Prop) (W:(Nat->Bool)->World->Prop) (PX:List PanicEntry->World->Prop) (v:∀ ch a' w,a'.defers=a.defers->PX ch w->Q (.panic ch) a' w)
 (r:P.follows .mixedOrders=true)  (p:a.tmps.size=m) (d:n<=m) (i:Qa1 l n outs gs bs=true)
 (u:∀ S,ZJ (E S) l.toArray gs) (f:W (fun _=>false) w.drew) (e:Qai (E (fun _=>false)) a w.drew outs)
 (q:AllOkY E W PX P l 0 l bs)
 (b:∀ (vs:Tmp->Value) (S:Nat->Bool) w',(∀ j,j<l.length->S j=true)->W S w'->(∀ t,(Qs l).contains t=true->E S t (vs t) w')->Q .normal (QM a vs (Qs l)) w') :
 (Code.region id l.toArray true).wp P Q a w:=by
 refine wp_region_any r ?_
 have c:(fun j=>(Array.replicate l.length false).getD j false)=fun _=>false:=by
  funext j
  rw[Za,Array.getElem?_replicate]
  split<;>rfl
 have g:l.toArray.size=l.length:=by simp
 rw[g]
 refine Qbn v (Qau (p ▸ d) i) u q b _ _ _ _ (by simp) ?_ ⟨by rw[c];exact f,(by rw[c];intro j o _ h;cases h),Z,Z,fun _ _=>rfl,(fun t s _=>by rw[c];exact Qa7 outs e t s),?_⟩
 ·simp only[Array.toList_replicate]
  exact Zt (List.length_filter_le _ _) (by simp)
 ·intro j o t y x k;simp[Array.getD] at k
end
section
variable (E:Tmp->Value->World->Prop) (W:World->Prop) (R:World->World->Prop) (PX:List PanicEntry->World->Prop) (P:Program)
def Qlx (o:Oper):Prop :=
 ∀ a w,W w->Qd0 E a w (QeT o)->∀ K:Act->World->Prop,(∀ v w',R w w'->W w'->EO E o.dst v w'->K (a.put o.dst v) w')->o.wp P a w K (PEx PX)
def AllOkC:List Oper->List Bool->Prop
 | o::r,true::bs=>Qlx E W R PX P o/\AllOkC r bs
 | o::r,false::bs=>(∀ w,W w->EO E o.dst undef w)/\AllOkC r bs
 | _,_=>True
end
section
variable {P:Program}{E:Tmp->Value->World->Prop}{W:World->Prop}{R:World->World->Prop}{PX:List PanicEntry->World->Prop}
theorem Qgd {g:List Oper}(c:∀ t v w w',R w w'->E t v w->E t v w'):∀ (l:List Oper) (bs:List Bool) (k:Nat),AllOkC E W R PX P l bs->AllOkY (fun _=>E) (fun _=>W) PX P g k l bs
 | [],bs,k,h=>by cases bs<;>trivial
 | o::r,[],k,h=>trivial
 | o::r,true::bs,k,h=>⟨fun S a w _ _ _ b m K e=>h.1 a w b m K (fun v w' f j d=>e v w' (fun t _ i=>c t _ w w' f i) j d),Qgd c r bs (k+1) h.2⟩
 | o::r,false::bs,k,h=>⟨fun S a w _ _ _ b=>⟨b,h.1 w b,fun _ _ h=>h⟩,Qgd c r bs (k+1) h.2⟩
theorem QcV {l:List Oper}{outs:List Tmp}{gs:List (Nat × Option Bool)}{a:Act}{Q:Exit->Act->World->Prop}
 (E:Tmp->Value->World->Prop) (W:World->Prop) (R:World->World->Prop) (PX:List PanicEntry->World->Prop) (o:∀ ch a' w,a'.defers=a.defers->PX ch w->Q (.panic ch) a' w)
 (i:P.follows .mixedOrders=true)  (g:a.tmps.size=m) (d:n<=m) (f:Qa1 l n outs gs bs=true)
 (k:∀ t v w w',R w w'->E t v w->E t v w') (j:ZJ E l.toArray gs) (c:W w.drew) (e:Qai E a w.drew outs)
 (h:AllOkC E W R PX P l bs)
 (b:∀ (vs:Tmp->Value) w',W w'->(∀ t,(Qs l).contains t=true->E t (vs t) w')->Q .normal (QM a vs (Qs l)) w') :
 (Code.region id l.toArray true).wp P Q a w :=
 Qde (fun _=>E) (fun _=>W) PX o i g d f (fun _=>j) c e (Qgd k l bs 0 h) (fun vs _ w' _ c p=>b vs w' c p)
end
section
variable {P:Program}{E:Tmp->Value->World->Prop}{W:World->Prop}{R:World->World->Prop}
theorem eoB (o:Option Tmp)(a:W w) (h:EO E o v w):EO (fun t v w=>W w/\E t v w) o v w:=by
 cases o with
 | none=>exact h
 | some t=>exact⟨a,h⟩
theorem knB (a:Act) (w:World):∀ l,Qd0 (fun t v w=>W w/\E t v w) a w l->Qd0 E a w l
 | [],h=>h
 | _::r,h=>⟨h.1.2,knB a w r h.2⟩
theorem Qnt (d:∀ t v w w',R w w'->E t v w->E t v w'):∀ (l:List Oper) (bs:List Bool),Qd2 E W R P l bs->AllOkC (fun t v w=>W w/\E t v w) W (fun w w'=>R w w'/\W w') (fun _ _=>False) P l bs
 | [],bs,h=>by cases bs<;>trivial
 | o::r,[],h=>trivial
 | o::r,true::bs,h=>⟨fun a w b i K f=>wpq (fun _ _ h=>h) (h.1 a w b (knB a w _ i) K (fun v w' g c e=>f v w' ⟨g,c⟩ c (eoB o.dst c e))),Qnt d r bs h.2⟩
 | o::r,false::bs,h=>⟨fun w b=>eoB o.dst b (h.1 w b),Qnt d r bs h.2⟩
theorem guB {a:Array Oper}:∀ gs,QaS E W a gs->ZJ (fun t v w=>W w/\E t v w) a gs
 | [],h=>h
 | _::r,h=>⟨fun t c v w b=>h.1 t c v w b.1 b.2,guB r h.2⟩
theorem ouB {a:Act}{w:World}(b:W w):∀ l,Qai E a w l->Qai (fun t v w=>W w/\E t v w) a w l
 | [],h=>h
 | _::r,h=>⟨⟨b,h.1⟩,ouB b r h.2⟩
theorem QaY {l:List Oper}{outs:List Tmp}{gs:List (Nat × Option Bool)}{a:Act}{Q:Exit->Act->World->Prop}
 (E:Tmp->Value->World->Prop) (W:World->Prop) (R:World->World->Prop)
 (k:P.follows .mixedOrders=true)  (o:a.tmps.size=m) (c:n<=m) (i:Qa1 l n outs gs bs=true)
 (f:∀ t v w w',R w w'->E t v w->E t v w') (q:QaS E W l.toArray gs) (d:W w.drew) (g:Qai E a w.drew outs)
 (j:Qd2 E W R P l bs)
 (b:∀ (vs:Tmp->Value) w',W w'->(∀ t,(Qs l).contains t=true->E t (vs t) w')->Q .normal (QM a vs (Qs l)) w') :
 (Code.region id l.toArray true).wp P Q a w :=
 QcV _ W _ (fun _ _=>False) (fun _ _ _ _ h=>h.elim) k o c i (fun t v w w' e r=>⟨e.2,f t v w w' e.1 r.2⟩) (guB gs q) d (ouB d outs g) (Qnt f l bs j) (fun vs w' s u=>b vs w' s (fun t p=>(u t p).2))
end
theorem Qmz (w:World) (c:List Value) (t:TypeId):∀ (j:Nat) (u:Value),c[j]?=some u->(w.alloc (.cells c.toArray t)).cell? ((⟨w.heap.size,0,none⟩:Addr).add j)=some u:=by
 intro j u h;have a:c.toArray[j]?=some u:=by simpa using h
 rw[Go.WideShapes.add_plain,XK]
 exact Qb (Qe w c.toArray t) j u a
structure FB where
 c:Nat
 v:Value
structure MG where
 bh:Nat
 O:Nat->Prop
 G:HG
 A:Nat->Prop
 pm:Option Addr
 cm:Nat
 pi:Option Addr
 ci:Nat
 vc:Value
 vb:Value
 vo:Value
 t:FB
 fs:List FB
 lo:Nat
def Qi (i:Nat):Code->Option Code
 | .region k ops d=>if k=i then some (.region k ops d) else none
 | .loop c=>Qi i c
 | .seq a b=>match Qi i a with
   | some c=>some c
   | none=>Qi i b
 | .block _ c=>Qi i c
 | .scope c=>Qi i c
 | .cond _ a b=>match Qi i a with
   | some c=>some c
   | none=>Qi i b
 | _=>none
def Qam (k:Nat):Code->List Oper
 | .region _ ops _=>ops.toList.drop k
 | _=>[]
theorem Qk {p:Addr}(h:w.cell? p=some v) (b:Below w.heap.size w w'):w'.cell? p=some v:=(b.cell (Xi w p h)).trans h
theorem ZO (w:World){rest:List Oper}{o:Oper}{a:Act}{Q:Exit->Act->World->Prop}(D:o.guard=none) (s x:Operand) (t:TypeId)
 (G:o.op=.call { callee:=.builtin .append,args:=#[s,x],argTypes:=#[t,t] })
 (e:TypeId) (i:TypeInfo) (z:Value) (size d:Nat) (J:P.underlying t=some (.slice e)) (hi:P.info? e=some i) (M:i.zero=some z)
 (l:i.size=size) (C:i.bytes=d) (B:z.cells.size=size) (A:0<size)
 (v:Value) (n:Nat) (xs:List Value) (R:a.eval s=v) (q:w.ownsRow 0 e size v n xs)
 (E:Addr) (m c:Nat) (b:List Value) (L:a.eval x=.slice (some E) m c) (H:b.length=m*size) (g:∀ j u,b[j]?=some u->w.cell? (E.add j)=some u) (S:∀ u∈b,u.oneCell'=true)
 (y:n+m<=maxLen) (f:(n+m)*d<=140737488355328)
 (h:∀ v' w',w'.ownsRow 0 e size v' (n+m) (xs++b)->w.grownBy w' v.ownBlock->(∀ k,v'.ownBlock=some k->v.ownBlock=some k\/k=w.heap.size)->wpList P ops Q rest (a.put o.dst v') w'):wpList P ops Q (o::rest) a w:=by
 obtain⟨v',w',N,I,F,_,p⟩:=run_append_own_at (P:=P) w 0 t o.type e i z size d J hi M l C B A v n xs q E m c b H g S y f (Xb _)
 refine wpList_plain D fun K O=>?_;unfold Oper.wp execOp;simp only[G,resolve,invoke,builtin,Sem.run_bind,Sem.run_pure,Result.andThen_ok,List.map_toArray,List.map_cons,List.map_nil,R,L,N]
 refine O _ _ (h v' w' I F (fun k r=>?_));rcases p with p | p
 ·rw[p] at r;exact .inl r
 ·rw[p] at r;exact .inr (by simpa using r.symm)
theorem QaR {z:Nat}{xs:List Value}(h:w.ownsRow 0 e z v n xs):∃ a c,v=.slice a n c:=by
 rcases h.2 with ⟨e,d⟩|⟨g,b,f,e,_⟩
 ·exact⟨none,0,by rw[e,d]⟩
 ·exact⟨_,_,e⟩
abbrev I64 (x:Int):Prop:=-9223372036854775808<=x/\x<=9223372036854775807
structure IP where
 pR:Option Addr
 cR:Nat
 pA:Option Addr
 cA:Nat
structure EP where
 pYR:Option Addr
 cYR:Nat
 pYA:Option Addr
 cYA:Nat
 pNR:Option Addr
 cNR:Nat
 pNA:Option Addr
 cNA:Nat
 pA:Option Addr
 cA:Nat
structure BP where
 pP:Option Addr
 cP:Nat
 pC:Option Addr
 cC:Nat
 e:EP
structure FP where
 pP:Option Addr
 cP:Nat
 pR:Option Addr
 cR:Nat
 pB:Option Addr
 cB:Nat
structure QhB (w:World) (O:Nat->Prop) (x:MTo) (pR:Option Addr) (cR:Nat) (pA:Option Addr) (cA:Nat):Prop where
 regs:intsL.In w O x.regs [.slice pR x.regs.length cR]
 args:intsL.In w O x.args [.slice pA x.args.length cA]
 bnd:I64 x.block
structure IIn (w:World) (O:Nat->Prop) (x:Qt) (i:IP):Prop where
 regs:intsL.In w O x.regs [.slice i.pR x.regs.length i.cR]
 args:intsL.In w O x.args [.slice i.pA x.args.length i.cA]
 bnd:I64 x.op/\I64 x.a/\I64 x.b/\I64 x.c/\I64 x.k/\I64 x.n
structure EIn (w:World) (O:Nat->Prop) (x:ZA) (e:EP):Prop where
 yes:QhB w O x.yes e.pYR e.cYR e.pYA e.cYA
 no:QhB w O x.no e.pNR e.cNR e.pNA e.cNA
 args:intsL.In w O x.args [.slice e.pA x.args.length e.cA]
 bnd:I64 x.op/\I64 x.a
structure BIn (w:World) (O:Nat->Prop){n:Nat}(x:MBlock n) (b:BP):Prop where
 params:(Qp n).In w O x.params [.slice b.pP x.params.length b.cP]
 code:insL.list.In w O x.code [.slice b.pC x.code.length b.cC]
 fin:EIn w O x.fin b.e
 bnd:I64 x.regs
structure FIn (w:World) (O:Nat->Prop){n:Nat}(x:MFunc n) (f:FP):Prop where
 params:(Qp n).In w O x.params [.slice f.pP x.params.length f.cP]
 results:(Qp n).In w O x.results [.slice f.pR x.results.length f.cR]
 blocks:(Zp n).list.In w O x.blocks [.slice f.pB x.blocks.length f.cB]
 bnd:I64 x.regs
section
variable {w w':World}{O O':Nat->Prop}{n:Nat}{cs:List Value}
theorem QhB.keep {x:MTo}(b:∀ k,O k->k<w.heap.size->w'.heap[k]?=w.heap[k]?) (a:∀ k,O k->k<w.heap.size->O' k) (h:QhB w O x pR cR pA cA):QhB w' O' x pR cR pA cA:=⟨Lay.keep _ b a h.regs,Lay.keep _ b a h.args,h.bnd⟩
theorem QhB.below {x:MTo}(h:QhB w O x pR cR pA cA) (a:Below w.heap.size w w'):QhB w' O x pR cR pA cA:=h.keep (fun k _ b=>a.block k b) (fun _ h _=>h)
theorem IIn.keep {x:Qt}{i:IP}(b:∀ k,O k->k<w.heap.size->w'.heap[k]?=w.heap[k]?) (a:∀ k,O k->k<w.heap.size->O' k) (h:IIn w O x i):IIn w' O' x i:=⟨Lay.keep _ b a h.regs,Lay.keep _ b a h.args,h.bnd⟩
theorem IIn.below {x:Qt}{i:IP}(h:IIn w O x i) (a:Below w.heap.size w w'):IIn w' O x i:=h.keep (fun k _ b=>a.block k b) (fun _ h _=>h)
theorem EIn.keep {x:ZA}{e:EP}(b:∀ k,O k->k<w.heap.size->w'.heap[k]?=w.heap[k]?) (a:∀ k,O k->k<w.heap.size->O' k) (h:EIn w O x e):EIn w' O' x e:=⟨h.yes.keep b a,h.no.keep b a,Lay.keep _ b a h.args,h.bnd⟩
theorem EIn.below {x:ZA}{e:EP}(h:EIn w O x e) (a:Below w.heap.size w w'):EIn w' O x e:=h.keep (fun k _ b=>a.block k b) (fun _ h _=>h)
theorem BIn.keep {x:MBlock n}{b:BP}(c:∀ k,O k->k<w.heap.size->w'.heap[k]?=w.heap[k]?) (a:∀ k,O k->k<w.heap.size->O' k) (h:BIn w O x b):BIn w' O' x b:=⟨Lay.keep _ c a h.params,Lay.keep _ c a h.code,h.fin.keep c a,h.bnd⟩
theorem BIn.below {x:MBlock n}{b:BP}(h:BIn w O x b) (a:Below w.heap.size w w'):BIn w' O x b:=h.keep (fun k _ c=>a.block k c) (fun _ h _=>h)
theorem FIn.keep {x:MFunc n}{f:FP}(b:∀ k,O k->k<w.heap.size->w'.heap[k]?=w.heap[k]?) (a:∀ k,O k->k<w.heap.size->O' k) (h:FIn w O x f):FIn w' O' x f:=⟨Lay.keep _ b a h.params,Lay.keep _ b a h.results,Lay.keep _ b a h.blocks,h.bnd⟩
theorem FIn.below {x:MFunc n}{f:FP}(h:FIn w O x f) (a:Below w.heap.size w w'):FIn w' O x f:=h.keep (fun k _ b=>a.block k b) (fun _ h _=>h)
theorem QhE {x:MTo}(h:toL.In w O x cs):∃ pR cR pA cA,cs=[Iv x.block,.slice pR x.regs.length cR,.slice pA x.args.length cA]/\QhB w O x pR cR pA cA:=by
 obtain⟨a,c,b,d,rfl,e,g,f⟩:=QfS h
 exact⟨a,c,b,d,Z,e,g,f⟩
theorem Qiy {x:MTo}(h:QhB w O x pR cR pA cA):toL.In w O x [Iv x.block,.slice pR x.regs.length cR,.slice pA x.args.length cA]:=Qm6 h.regs h.args h.bnd
theorem Qew {x:Qt}(h:insL.In w O x cs):∃ i:IP,cs=[Iv x.op,Iv x.a,Iv x.b,Iv x.c,Iv x.k,Iv x.n,.slice i.pR x.regs.length i.cR,.slice i.pA x.args.length i.cA]/\IIn w O x i:=by
 obtain⟨a,c,b,d,rfl,e,g,f⟩:=Qkc h
 exact⟨⟨a,c,b,d⟩,Z,e,g,f⟩
theorem QdZ {x:ZA}(h:endL.In w O x cs):∃ e:EP,cs=[Iv x.op,Iv x.a,Iv x.yes.block,.slice e.pYR x.yes.regs.length e.cYR,.slice e.pYA x.yes.args.length e.cYA,Iv x.no.block,.slice e.pNR x.no.regs.length e.cNR,.slice e.pNA x.no.args.length e.cNA,.slice e.pA x.args.length e.cA]/\EIn w O x e:=by
 obtain⟨r,q,a,c,rfl,o,k,l,p⟩:=QgI h
 obtain⟨d,b,pA,cA,rfl,m⟩:=QhE o
 obtain⟨i,f,n,j,rfl,g⟩:=QhE k
 exact⟨⟨d,b,pA,cA,i,f,n,j,a,c⟩,Z,m,g,l,p⟩
theorem Qgl {x:ZA}{e:EP}(h:EIn w O x e):endL.In w O x [Iv x.op,Iv x.a,Iv x.yes.block,.slice e.pYR x.yes.regs.length e.cYR,.slice e.pYA x.yes.args.length e.cYA,Iv x.no.block,.slice e.pNR x.no.regs.length e.cNR,.slice e.pNA x.no.args.length e.cNA,.slice e.pA x.args.length e.cA]:=Qmu (Qiy h.yes) (Qiy h.no) h.args h.bnd
theorem Qca {x:MBlock n}(h:(Zp n).In w O x cs):∃ b:BP,cs=[Iv x.regs,.slice b.pP x.params.length b.cP,.slice b.pC x.code.length b.cC,Iv x.fin.op,Iv x.fin.a,Iv x.fin.yes.block,.slice b.e.pYR x.fin.yes.regs.length b.e.cYR,.slice b.e.pYA x.fin.yes.args.length b.e.cYA,Iv x.fin.no.block,.slice b.e.pNR x.fin.no.regs.length b.e.cNR,.slice b.e.pNA x.fin.no.args.length b.e.cNA,.slice b.e.pA x.fin.args.length b.e.cA]/\BIn w O x b:=by
 obtain⟨a,c,b,d,l,rfl,j,g,i,k⟩:=Qcc h
 obtain⟨e,rfl,f⟩:=QdZ i
 exact⟨⟨a,c,b,d,e⟩,Z,j,g,f,k⟩
theorem QcU {x:MFunc n}(h:(ZR n).In w O x cs):∃ f:FP,cs=[Iv x.regs,.slice f.pP x.params.length f.cP,.slice f.pR x.results.length f.cR,.slice f.pB x.blocks.length f.cB]/\FIn w O x f:=by
 obtain⟨a,c,b,d,e,f,rfl,g,k,j,i⟩:=Qas h
 exact⟨⟨a,c,b,d,e,f⟩,Z,g,k,j,i⟩
theorem QhI {l:List Qt}(h:(insL).list.In w O l [.slice p m c]){x:Qt}(r:l[i]?=some x) :
 ∃ (g o:Nat) (i':IP),p=some ⟨g,o,none⟩/\w.rangeAt g (o+i*8) [Iv x.op,Iv x.a,Iv x.b,Iv x.c,Iv x.k,Iv x.n,.slice i'.pR x.regs.length i'.cR,.slice i'.pA x.args.length i'.cA]/\IIn w O x i':=by
 obtain⟨g,o,u,e,z,y,d,q⟩:=Yf h r
 obtain⟨i',rfl,s⟩:=Qew q
 have t:(insL).size=8:=rfl;rw[t] at d
 exact⟨g,o,i',e,fun j v f=>(d j (by have:=(Zi f).1;simpa using this)).trans f,s⟩
theorem Qeu {l:List (MBlock n)}(h:(Zp n).list.In w O l [.slice p m c]){x:MBlock n}(q:l[i]?=some x) :
 ∃ (g o:Nat) (b:BP),p=some ⟨g,o,none⟩/\w.rangeAt g (o+i*12) [Iv x.regs,.slice b.pP x.params.length b.cP,.slice b.pC x.code.length b.cC,Iv x.fin.op,Iv x.fin.a,Iv x.fin.yes.block,.slice b.e.pYR x.fin.yes.regs.length b.e.cYR,.slice b.e.pYA x.fin.yes.args.length b.e.cYA,Iv x.fin.no.block,.slice b.e.pNR x.fin.no.regs.length b.e.cNR,.slice b.e.pNA x.fin.no.args.length b.e.cNA,.slice b.e.pA x.fin.args.length b.e.cA]/\BIn w O x b:=by
 obtain⟨g,o,t,e,y,u,d,k⟩:=Yf h q
 obtain⟨b,rfl,r⟩:=Qca k
 have s:(Zp n).size=12:=rfl;rw[s] at d
 exact⟨g,o,b,e,fun j v f=>(d j (by have:=(Zi f).1;simpa using this)).trans f,r⟩
theorem Qfz {l:List (MFunc n)}(h:(ZR n).list.In w O l [.slice p m c]){x:MFunc n}(k:l[i]?=some x) :
 ∃ (g o:Nat) (f:FP),p=some ⟨g,o,none⟩/\w.rangeAt g (o+i*4) [Iv x.regs,.slice f.pP x.params.length f.cP,.slice f.pR x.results.length f.cR,.slice f.pB x.blocks.length f.cB]/\FIn w O x f:=by
 obtain⟨g,o,s,e,u,t,a,d⟩:=Yf h k
 obtain⟨f,rfl,q⟩:=QcU d
 have r:(ZR n).size=4:=rfl;rw[r] at a
 exact⟨g,o,f,e,fun j v b=>(a j (by have:=(Zi b).1;simpa using this)).trans b,q⟩
end
theorem QjW (op:Int):op=1\/op=2\/op=3\/op=4\/op=5\/op=6\/op=7\/op=8\/op=9\/op=10\/op=11\/op=12\/op=13\/op=14\/(op≠1/\op≠2/\op≠3/\op≠4/\op≠5/\op≠6/\op≠7/\op≠8/\op≠9/\op≠10/\op≠11/\op≠12/\op≠13/\op≠14):=by omega
def Qb7 (funcs:Nat) (op a b c k n:Int) (rl al:Nat):Int :=
 match Q5 op with
 | none=>3
 | some (fa,fb,fc,fk,fn,fr,fs) =>
   if (!fa&&a != 0)||(!fb&&b != 0)||(!fc&&c != 0)||(!fk&&k != 0)||(!fn&&n != 0)||(!fr&&decide (0<rl))||(!fs&&decide (0<al)) then 4
   else if op=2/\(k<1\/9<k) then 1
   else if op=5/\8<al then 2
   else if (op=6\/op=7)/\(k<0\/7<k) then 1
   else if op=14/\(k<0\/(funcs:Int)<=k) then 1
   else if op=14/\(6<rl\/8<al) then 2
   else 0
theorem Qt.form_eq (d:Nat) (x:Qt):x.form d=Qb7 d x.op x.a x.b x.c x.k x.n x.regs.length x.args.length:=by
 unfold Qt.form Qt.formless Qb7
 cases Q5 x.op with
 | none=>rfl
 | some p=>obtain⟨a,b,c,k,n,r,s⟩:=p;rfl
def rangeC (x l m:Int):Int:=if x<l\/m<x then 1 else 0
def manyC (len:Nat) (m:Int):Int:=if m<len then 2 else 0
def handedC (r:Nat) (m:Int) (s:Nat):Int:=if manyC r m≠0 then manyC r m else manyC s 8
def Qk8 (a b c k n:Int) (rl al:Nat):Bool:=a==0&&b==0&&c==0&&k==0&&n==0&&(rl:Int)==0&&(al:Int)==0
def ZH (funcs:Nat) (op k:Int) (rl al:Nat):Int :=
 if op=2 then rangeC k 1 9 else if op=6\/op=7 then rangeC k 0 7 else if op=5 then manyC al 8
 else if op=14 then (if rangeC k 0 ((funcs:Int) - 1)=0 then handedC rl 6 al else rangeC k 0 ((funcs:Int) - 1)) else 0
theorem fb (f:Bool) (a:Int):(!f&&a != 0)=!((bif f then 0 else a)==0):=by cases f<;>simp[bne]
theorem fbn (f:Bool) (l:Nat):(!f&&decide (0<l))=!(((bif f then 0 else l:Nat):Int)==0):=by
 cases f
 ·by_cases h:l=0
  ·simp[h]
  ·have:0<l:=by omega
   simp[this,h]
 ·simp
theorem Qjk (d:Nat) (op k:Int) (rl al:Nat):(if op=2/\(k<1\/9<k) then 1
 else if op=5/\8<al then 2
 else if (op=6\/op=7)/\(k<0\/7<k) then 1
 else if op=14/\(k<0\/(d:Int)<=k) then 1
 else if op=14/\(6<rl\/8<al) then 2
 else 0)=ZH d op k rl al:=by
 unfold ZH;by_cases c:op=2
 ·subst c;simp[rangeC]
 ·by_cases e:op=6\/op=7
  ·have b:¬ op=5:=by omega
   have a:¬ op=14:=by omega
   simp[c,b,e,a,rangeC]
  ·by_cases b:op=5
   ·subst b;simp[manyC];split<;>split<;>omega
   ·by_cases a:op=14
    ·subst a;simp[rangeC,handedC,manyC]
     repeat' split
     all_goals omega
    ·simp[c,b,e,a]
theorem QeV {i:Nat}{op a b c k n:Int}{h d g f fn fr fs:Bool}(e:Q5 op=some (h,d,g,f,fn,fr,fs)) :
 Qb7 i op a b c k n rl al=if Qk8 (bif h then 0 else a) (bif d then 0 else b) (bif g then 0 else c) (bif f then 0 else k) (bif fn then 0 else n) (bif fr then 0 else rl) (bif fs then 0 else al)=true then ZH i op k rl al else 4:=by
 simp only[Qb7,e,Qjk]
 rw[fb,fb,fb,fb,fb,fbn,fbn]
 unfold Qk8;generalize ((bif h then 0 else a)==0)=j;generalize ((bif d then 0 else b)==0)=m;generalize ((bif g then 0 else c)==0)=q;generalize ((bif f then 0 else k)==0)=p;generalize ((bif fn then 0 else n)==0)=r;generalize (((bif fr then 0 else rl:Nat):Int)==0)=o;generalize (((bif fs then 0 else al:Nat):Int)==0)=l
 cases j<;>cases m<;>cases q<;>cases p<;>cases r<;>cases o<;>cases l<;>rfl
theorem Qfs (h:f<1000000):Rd prog 118 #[Iv (f:Int)] w (Iv (10000*(f:Int)+9999)):=by
 unfold Rd;skip
 skip
 go_enter func118,ntmps118
 go_wp2
 go_ret;refine⟨?_,Zr⟩
 show Ending.returned (Iv ((f:Int)*10000+9999))=_;congr 2
 omega
theorem Qe6 (h:f<1000000/\b<1000000):Rd prog 181 #[Iv (f:Int),Iv (b:Int)] w (Iv (10000*(f:Int)+100*(b:Int)+90)):=by
 unfold Rd;have a:=h.1;have c:=h.2;skip
 go_enter func181,ntmps181
 go_wp2
 go_ret;refine⟨?_,Zr⟩
 show Ending.returned (Iv ((f:Int)*10000+(b:Int)*100+90))=_;congr 2
 omega
theorem QdH (h:f<1000000/\b<1000000):Rd prog 131 #[Iv (f:Int),Iv (b:Int)] w (Iv (10000*(f:Int)+100*(b:Int)+91)):=by
 unfold Rd;have a:=h.1;have c:=h.2;skip
 go_enter func131,ntmps131
 go_wp2
 go_ret;refine⟨?_,Zr⟩
 show Ending.returned (Iv ((f:Int)*10000+(b:Int)*100+91))=_;congr 2
 omega
theorem QdS (h:f<1000000/\b<1000000/\i<1000000):Rd prog 130 #[Iv (f:Int),Iv (b:Int),Iv (i:Int)] w (Iv (10000*(f:Int)+100*(b:Int)+(i:Int))):=by
 unfold Rd;have a:=h.1;have c:=h.2;have e:=h.2.1;have d:=h.2.2;go_enter func130,ntmps130
 go_wp2
 go_ret;refine⟨?_,Zr⟩
 show Ending.returned (Iv ((f:Int)*10000+(b:Int)*100+(i:Int)))=_;congr 2
 omega
theorem QaG {l m:Int}:Rd prog 262 #[Iv x,Iv l,Iv m] w (Iv (rangeC x l m)):=by
 unfold Rd rangeC;by_cases a:x<l
 ·rw[Xs (.inl a)]
  go_enter func262,ntmps262
  go_wp2
  go_ret;exact⟨Z,Zr⟩
 ·by_cases b:m<x
  ·rw[Xs (.inr b)]
   go_enter func262,ntmps262
   go_wp2
   go_ret;exact⟨Z,Zr⟩
  ·rw[Xr (by omega)]
   go_enter func262,ntmps262
   go_wp2
   go_ret;exact⟨Z,Zr⟩
theorem QaU {len:Nat}{m:Int}:Rd prog 263 #[.slice p len c,Iv m] w (Iv (manyC len m)):=by
 unfold Rd manyC;by_cases a:m<len
 ·rw[Xs a]
  go_enter func263,ntmps263
  go_wp2
  go_ret;exact⟨Z,Zr⟩
 ·rw[Xr a]
  go_enter func263,ntmps263
  go_wp2
  go_ret;exact⟨Z,Zr⟩
theorem Qbh {q:Option Addr}{r:Nat}{m:Int}:Rd prog 264 #[.slice p r c,Iv m,.slice q s d] w (Iv (handedC r m s)):=by
 have b:Hid (∀ a:World,Calls prog 263 #[.slice p r c,Iv m] a fun e j=>e=.returned (Iv (manyC r m))/\Below a.heap.size a j):=fun a=>QaU;have k:Hid (∀ a:World,Calls prog 263 #[.slice q s d,Iv 8] a fun e j=>e=.returned (Iv (manyC s 8))/\Below a.heap.size a j):=fun a=>QaU;unfold Rd handedC;by_cases h:manyC r m=0
 ·rw[Xr (by simpa using h)]
  rw[h] at b
  go_enter func264,ntmps264
  go_wp2_with fail
  refine(b.out w).mono ?_
  rintro e i ⟨rfl,g⟩;have f:Hid (Below w.heap.size w i):=g;clear g b;go_wp2_with fail
  refine(k.out i).mono ?_
  rintro e t ⟨rfl,l⟩;have n:Hid (Below w.heap.size w t):=f.out.trans (l.mono f.out.size);clear l k f;go_wp2
  go_ret;exact⟨Z,n.out⟩
 ·rw[Xs h]
  have o:(manyC r m==0)=false:=by simpa using h
  generalize manyC r m=v at b o h |-;go_enter func264,ntmps264
  go_wp2_with fail
  refine(b.out w).mono ?_
  rintro e i ⟨rfl,g⟩;have f:Hid (Below w.heap.size w i):=g;clear g b k;go_wp2
  go_ret;exact⟨Z,f.out⟩
theorem QdF {xop:Int}:Rd prog 228 #[.agg #[Iv xop,Iv xa,Iv xb,Iv xc,Iv xk,Iv xn,.slice ra rl rc,.slice aa al ac]] w (.bool (Qk8 xa xb xc xk xn rl al)):=by
 have D:(xa==0)=false\/xa=0/\((xb==0)=false\/xb=0/\((xc==0)=false\/xc=0/\((xk==0)=false\/xk=0/\((xn==0)=false\/xn=0/\(((rl:Int)==0)=false\/rl=0/\(((al:Int)==0)=false\/al=0)))))):=by
  simp only[beq_eq_false_iff_ne];omega
 unfold Rd;rcases D with g | ⟨rfl,g | ⟨rfl,g | ⟨rfl,g | ⟨rfl,g | ⟨rfl,g | ⟨rfl,g | rfl⟩⟩⟩⟩⟩⟩
 all_goals
  go_enter func228,ntmps228
  go_wp2
  go_ret;exact⟨by first | rfl | simp[Qk8,g],Zd _ _⟩
def wfV (xop xa xb xc xk xn:Int) (ra aa:Option Addr) (rl rc al ac:Nat):Value:=match Q5 xop with
 | some (fa,fb,fc,fk,fn,fr,fs)=>.tuple #[.agg #[.int .i64 xop,.int .i64 (bif fa then 0 else xa),.int .i64 (bif fb then 0 else xb),.int .i64 (bif fc then 0 else xc),.int .i64 (bif fk then 0 else xk),.int .i64 (bif fn then 0 else xn),.slice (bif fr then none else ra) (bif fr then 0 else rl) (bif fr then 0 else rc),.slice (bif fs then none else aa) (bif fs then 0 else al) (bif fs then 0 else ac)],.bool true]
 | none=>.tuple #[.agg #[.int .i64 xop,.int .i64 xa,.int .i64 xb,.int .i64 xc,.int .i64 xk,.int .i64 xn,.slice ra rl rc,.slice aa al ac],.bool false]
theorem QmD {xop:Int}:Rd prog 227 #[.agg #[Iv xop,Iv xa,Iv xb,Iv xc,Iv xk,Iv xn,.slice ra rl rc,.slice aa al ac]] w (wfV xop xa xb xc xk xn ra aa rl rc al ac):=by
 rcases QjW xop with rfl | rfl | rfl | rfl | rfl | rfl | rfl | rfl | rfl | rfl | rfl | rfl | rfl | rfl | n
 rotate_right
 obtain⟨f,g,l,o,h,m,k,j,i,a,d,b,e,c⟩:=n
 have E:Q5 xop=none:=by simp[Q5, *]
 rw[<-beq_eq_false_iff_ne] at f g l o h m k j i a d b e c
 all_goals
  unfold Rd;go_enter func227,ntmps227
  go_wp2
  exact Xy (v:=wfV _ xa xb xc xk xn ra aa rl rc al ac) (by simp[results,results227,go_sem,wfV];first | (simp[Q5];done) | rw[E]) Z ⟨Z,QhA _ _ _⟩
theorem Qjz {xop lo hi:Int}{g:Option Addr}{a:Nat}(h:xop=2/\lo=1/\hi=9\/xop=6/\lo=0/\hi=7\/xop=7/\lo=0/\hi=7):Rd prog 229 #[.agg #[.slice g a cm],.agg #[Iv xop,Iv xa,Iv xb,Iv xc,Iv xk,Iv xn,.slice ra rl rc,.slice aa al ac]] w (Iv (ZH a xop xk rl al)):=by
 have C:Hid (∀ c:World,Rd prog 262 #[Iv xk,Iv lo,Iv hi] c (Iv (rangeC xk lo hi))):=fun c=>QaG;unfold Rd;rw[show ZH a xop xk rl al=rangeC xk lo hi by rcases h with ⟨rfl,rfl,rfl⟩|⟨rfl,rfl,rfl⟩|⟨rfl,rfl,rfl⟩<;>rfl]
 generalize rangeC xk lo hi=v at C |-;rcases h with ⟨rfl,rfl,rfl⟩|⟨rfl,rfl,rfl⟩|⟨rfl,rfl,rfl⟩
 all_goals
  go_enter func229,ntmps229
  go_wp2_with fail
  refine(C.out _).mono ?_
  rintro e f ⟨rfl,b⟩;have d:Hid (Below w.heap.size w f):=(QhA _ _ _).trans (b.mono (QhA w _ _).size);clear b C;go_wp2
  go_ret;exact⟨Z,d.out⟩
theorem QlM {h:Option Addr}{b:Nat}:Rd prog 229 #[.agg #[.slice h b cm],.agg #[Iv 5,Iv xa,Iv xb,Iv xc,Iv xk,Iv xn,.slice ra rl rc,.slice aa al ac]] w (Iv (ZH b 5 xk rl al)):=by
 have C:Hid (∀ a:World,Calls prog 263 #[.slice aa al ac,Iv 8] a fun e f=>e=.returned (Iv (manyC al 8))/\Below a.heap.size a f):=fun a=>QaU;rw[show ZH b 5 xk rl al=manyC al 8 from Z]
 generalize manyC al 8=v at C |-;unfold Rd;go_enter func229,ntmps229
 go_wp2_with fail
 refine(C.out _).mono ?_
 rintro e g ⟨rfl,c⟩;have d:Hid (Below w.heap.size w g):=(QhA _ _ _).trans (c.mono (QhA w _ _).size);clear c C;go_wp2
 go_ret;exact⟨Z,d.out⟩
theorem QkP {h:Option Addr}{a:Nat}(q:a<2305843009213693952):Rd prog 229 #[.agg #[.slice h a cm],.agg #[Iv 14,Iv xa,Iv xb,Iv xc,Iv xk,Iv xn,.slice ra rl rc,.slice aa al ac]] w (Iv (ZH a 14 xk rl al)):=by
 have C:Hid (∀ b:World,Calls prog 262 #[Iv xk,Iv 0,Iv ((a:Int) - 1)] b fun e m=>e=.returned (Iv (rangeC xk 0 ((a:Int) - 1)))/\Below b.heap.size b m):=fun b=>QaG;have i:Hid (∀ b:World,Calls prog 264 #[.slice ra rl rc,Iv 6,.slice aa al ac] b fun e m=>e=.returned (Iv (handedC rl 6 al))/\Below b.heap.size b m):=fun b=>Qbh;rw[show ZH a 14 xk rl al=if rangeC xk 0 ((a:Int) - 1)=0 then handedC rl 6 al else rangeC xk 0 ((a:Int) - 1) from Z]
 generalize rangeC xk 0 ((a:Int) - 1)=v at C |-;generalize handedC rl 6 al=u at i |-;have d:Blk ((w.alloc (.cells #[.slice h a cm] 24)).alloc (.cells #[Iv 14,Iv xa,Iv xb,Iv xc,Iv xk,Iv xn,.slice ra rl rc,.slice aa al ac] 78)) (w.heap.size+1) #[Iv 14,Iv xa,Iv xb,Iv xc,Iv xk,Iv xn,.slice ra rl rc,.slice aa al ac] 78:=Blk.new2 _ _ _ _;have c:Hid (Below w.heap.size w ((w.alloc (.cells #[.slice h a cm] 24)).alloc (.cells #[Iv 14,Iv xa,Iv xb,Iv xc,Iv xk,Iv xn,.slice ra rl rc,.slice aa al ac] 78))):=QhA _ _ _;unfold Rd;by_cases l:v=0
 ·subst l;rw[Xs Z]
  go_enter func229,ntmps229
  go_wp2_with fail
  generalize ((w.alloc (.cells #[.slice h a cm] 24)).alloc (.cells #[Iv 14,Iv xa,Iv xb,Iv xc,Iv xk,Iv xn,.slice ra rl rc,.slice aa al ac] 78))=p at d c |-;refine(C.out _).mono ?_
  rintro e k ⟨rfl,f⟩;have j:=(f.block _ (XC d)).trans d;have g:Hid (Below w.heap.size w k):=c.out.trans (f.mono c.out.size);have t:=Qb j 6 _ Z;have x:=Qb j 7 _ Z;clear f C d c j;go_wp2_with fail
  refine(i.out _).mono ?_
  rintro e r ⟨rfl,n⟩;have o:Hid (Below w.heap.size w r):=g.out.trans (n.mono g.out.size);clear n i g;go_wp2
  go_ret;exact⟨Z,o.out⟩
 ·rw[Xr l]
  have s:(v==0)=false:=by simpa using l
  go_enter func229,ntmps229
  go_wp2_with fail
  generalize ((w.alloc (.cells #[.slice h a cm] 24)).alloc (.cells #[Iv 14,Iv xa,Iv xb,Iv xc,Iv xk,Iv xn,.slice ra rl rc,.slice aa al ac] 78))=p at d c |-;refine(C.out _).mono ?_
  rintro e k ⟨rfl,f⟩;have g:Hid (Below w.heap.size w k):=c.out.trans (f.mono c.out.size);clear f C i d c;go_wp2
  go_ret;exact⟨Z,g.out⟩
theorem Qk7 {xop:Int}{i:Option Addr}{b:Nat}(h:xop≠2/\xop≠6/\xop≠7/\xop≠5/\xop≠14):Rd prog 229 #[.agg #[.slice i b cm],.agg #[Iv xop,Iv xa,Iv xb,Iv xc,Iv xk,Iv xn,.slice ra rl rc,.slice aa al ac]] w (Iv (ZH b xop xk rl al)):=by
 obtain⟨d,f,c,e,a⟩:=h
 rw[show ZH b xop xk rl al=0 by simp[ZH,d,f,c,e,a]]
 have j:(xop==2)=false:=by simpa using d
 have k:(xop==6)=false:=by simpa using f
 have m:(xop==7)=false:=by simpa using c
 have l:(xop==5)=false:=by simpa using e
 have g:(xop==14)=false:=by simpa using a
 unfold Rd;go_enter func229,ntmps229
 go_wp2
 go_ret;exact⟨Z,QhA _ _ _⟩
theorem QdT {xop:Int}{e:Option Addr}{c:Nat}(a:c<2305843009213693952):Rd prog 229 #[.agg #[.slice e c cm],.agg #[Iv xop,Iv xa,Iv xb,Iv xc,Iv xk,Iv xn,.slice ra rl rc,.slice aa al ac]] w (Iv (ZH c xop xk rl al)):=by
 by_cases d:xop=5
 ·subst d;exact QlM
 by_cases b:xop=14
 ·subst b;exact QkP a
 by_cases h:xop=2\/xop=6\/xop=7
 ·rcases h with rfl | rfl | rfl
  ·exact Qjz (.inl ⟨Z,Z,Z⟩)
  all_goals exact Qjz (lo:=0) (hi:=7) (by simp)
 ·exact Qk7 (by omega)
theorem QgF {xop:Int}{n m o:Int}{c f:Option Addr}{h j b i:Nat}{p:Option Addr}{l:Nat}{ok k:Bool}{v:Int}
 (C:Hid (∀ wx:World,Calls prog 227 #[.agg #[Iv xop,Iv xa,Iv xb,Iv xc,Iv xk,Iv xn,.slice ra rl rc,.slice aa al ac]] wx fun e w'=>e=.returned (.tuple #[.agg #[Iv xop,Iv ya,Iv yb,Iv n,Iv m,Iv o,.slice c h j,.slice f b i],.bool ok])/\Below wx.heap.size wx w'))
 (A:Hid (∀ wx:World,Calls prog 228 #[.agg #[Iv xop,Iv ya,Iv yb,Iv n,Iv m,Iv o,.slice c h j,.slice f b i]] wx fun e w'=>e=.returned (.bool k)/\Below wx.heap.size wx w'))
 (y:Hid (∀ wx:World,Calls prog 229 #[.agg #[.slice p l cm],.agg #[Iv xop,Iv xa,Iv xb,Iv xc,Iv xk,Iv xn,.slice ra rl rc,.slice aa al ac]] wx fun e w'=>e=.returned (Iv v)/\Below wx.heap.size wx w')) :
 Rd prog 184 #[.agg #[.slice p l cm],.agg #[Iv xop,Iv xa,Iv xb,Iv xc,Iv xk,Iv xn,.slice ra rl rc,.slice aa al ac]] w (Iv (if ok=false then 3 else if k=true then v else 4)):=by
 have g:Blk ((w.alloc (.cells #[.slice p l cm] 24)).alloc (.cells #[Iv xop,Iv xa,Iv xb,Iv xc,Iv xk,Iv xn,.slice ra rl rc,.slice aa al ac] 78)) w.heap.size #[.slice p l cm] 24:=Blk.new1 _ _ _ _ _;have a:Blk ((w.alloc (.cells #[.slice p l cm] 24)).alloc (.cells #[Iv xop,Iv xa,Iv xb,Iv xc,Iv xk,Iv xn,.slice ra rl rc,.slice aa al ac] 78)) (w.heap.size+1) #[Iv xop,Iv xa,Iv xb,Iv xc,Iv xk,Iv xn,.slice ra rl rc,.slice aa al ac] 78:=Blk.new2 _ _ _ _;have x:Hid (Below w.heap.size w ((w.alloc (.cells #[.slice p l cm] 24)).alloc (.cells #[Iv xop,Iv xa,Iv xb,Iv xc,Iv xk,Iv xn,.slice ra rl rc,.slice aa al ac] 78))):=QhA _ _ _;unfold Rd;go_enter func184,ntmps184
 go_wp2_with fail
 generalize ((w.alloc (.cells #[.slice p l cm] 24)).alloc (.cells #[Iv xop,Iv xa,Iv xb,Iv xc,Iv xk,Iv xn,.slice ra rl rc,.slice aa al ac] 78))=H at g a x |-;refine(C.out _).mono ?_
 rintro e s ⟨rfl,u⟩;replace g:=(u.block _ (XC g)).trans g;replace a:=(u.block _ (XC a)).trans a;have r:Hid (Below w.heap.size w s):=x.out.trans (u.mono x.out.size);clear u x C
 cases ok with
 | false =>
   have q:Hid (Below w.heap.size w (s.alloc (.cells #[Iv xop,Iv ya,Iv yb,Iv n,Iv m,Iv o,.slice c h j,.slice f b i] 78))):=r.out.trans ((Zd _ _).mono r.out.size);clear A y g a r;go_wp2
   go_ret;exact⟨Z,q.out⟩
 | true =>
   replace g:=((Zd s (.cells #[Iv xop,Iv ya,Iv yb,Iv n,Iv m,Iv o,.slice c h j,.slice f b i] 78)).block _ (XC g)).trans g;replace a:=((Zd s (.cells #[Iv xop,Iv ya,Iv yb,Iv n,Iv m,Iv o,.slice c h j,.slice f b i] 78)).block _ (XC a)).trans a;have q:Hid (Below w.heap.size w (s.alloc (.cells #[Iv xop,Iv ya,Iv yb,Iv n,Iv m,Iv o,.slice c h j,.slice f b i] 78))):=r.out.trans ((Zd _ _).mono r.out.size);go_wp2_with fail
   clear r;generalize s.alloc (.cells #[Iv xop,Iv ya,Iv yb,Iv n,Iv m,Iv o,.slice c h j,.slice f b i] 78)=J at g a q |-;refine(A.out _).mono ?_
   rintro e D ⟨rfl,z⟩;replace g:=(z.block _ (XC g)).trans g;replace a:=(z.block _ (XC a)).trans a;have t:Hid (Below w.heap.size w D):=q.out.trans (z.mono q.out.size);clear z q A
   cases k with
   | false =>
     clear y g a;go_wp2
     go_ret;exact⟨Z,t.out⟩
   | true =>
     have d:=Qb g 0 _ Z;have N:=Qb a 0 _ Z;have G:=Qb a 1 _ Z;have K:=Qb a 2 _ Z;have I:=Qb a 3 _ Z;have O:=Qb a 4 _ Z;have L:=Qb a 5 _ Z;have P:=Qb a 6 _ Z;have M:=Qb a 7 _ Z;clear g a;go_wp2_with fail
     refine(y.out _).mono ?_
     rintro e F ⟨rfl,B⟩;have E:Hid (Below w.heap.size w F):=t.out.trans (B.mono t.out.size);clear B t y;go_wp2
     go_ret;exact⟨Z,E.out⟩
theorem QgC (d:Nat) (x:Qt) (i:IP) (j:Option Addr) (cm:Nat) (w:World) (g:d<2305843009213693952) :
 Rd prog 184 #[.agg #[.slice j d cm],.agg #[Iv x.op,Iv x.a,Iv x.b,Iv x.c,Iv x.k,Iv x.n,.slice i.pR x.regs.length i.cR,.slice i.pA x.args.length i.cA]] w (Iv (x.form d)):=by
 rw[Qt.form_eq]
 have f:=fun l=>QmD (xop:=x.op) (xa:=x.a) (xb:=x.b) (xc:=x.c) (xk:=x.k) (xn:=x.n) (ra:=i.pR) (aa:=i.pA) (rl:=x.regs.length) (rc:=i.cR) (al:=x.args.length) (ac:=i.cA) (w:=l)
 cases e:Q5 x.op with
 | none =>
   simp only[wfV,e] at f
   rw[show Qb7 d x.op x.a x.b x.c x.k x.n x.regs.length x.args.length=3 by unfold Qb7;rw[e]]
   exact QgF (ok:=false) f (fun _=>QdF) (fun _=>QdT g)
 | some p =>
   obtain⟨t,h,q,m,s,o,r⟩:=p
   simp only[wfV,e] at f
   rw[QeV e]
   exact QgF (ok:=true) f (fun _=>QdF) (fun _=>QdT g)
def QgX (L:List Bool) (i:Nat):Value:=if i=16 then Iv (L.length:Int) else .bool (L.getD i false)
def Qo (w:World) (b:Nat) (L:List Bool):Prop:=L.length<=16/\w.rowIs b 303 17 (QgX L)
theorem Qo.mark (h:Qo w b L)(a:k<16):w.cell? ⟨b,k,none⟩=some (.bool (L.getD k false)):=by
 have:=h.2.cell (i:=k) (by omega)
 rwa [QgX,Xr (by omega)] at this
theorem Qo.count (h:Qo w b L):w.cell? ⟨b,16,none⟩=some (Iv (L.length:Int)):=by
 have:=h.2.cell (i:=16) (by omega)
 rwa [QgX,Xs Z] at this
theorem Qo.keep (h:Qo w b L) (e:w'.heap[b]?=w.heap[b]?):Qo w' b L:=⟨h.1,h.2.of_block e⟩
theorem Qo.below (h:Qo w b L) (k:Below w.heap.size w w'):Qo w' b L:=h.keep (k.block b h.2.lt)
theorem Qo.lt (h:Qo w b L):b<w.heap.size:=h.2.lt
theorem Qo.setMark (h:Qo w b L)(f:k<L.length) (v:Bool):Qo (w.setCell ⟨b,k,none⟩ (.bool v)) b (L.set k v):=by
 refine⟨by simpa using h.1,(h.2.set k (.bool v)).congr fun i g=>?_⟩
 have d:=h.1;unfold QgX;by_cases c:i=16
 ·subst c;simp;omega
 ·rw[Xr c,Xr c]
  by_cases a:i=k
  ·subst a;simp[List.getD,f]
  ·have:¬ k=i:=fun e=>a e.symm
   simp[a,List.getD,this]
theorem Qo.push (h:Qo w b L) (f:L.length<16):Qo ((w.setCell ⟨b,L.length,none⟩ (.bool true)).setCell ⟨b,16,none⟩ (Iv ((L.length:Int)+1))) b (L++[true]):=by
 refine⟨by simp;omega,((h.2.set L.length (.bool true)).set 16 _).congr fun i e=>?_⟩
 unfold QgX;by_cases a:i=16
 ·subst a;simp
 ·rw[Xr a,Xr a,Xr a]
  by_cases d:i=L.length
  ·subst d;simp[List.getD]
  ·rw[Xr d]
   rcases Nat.lt_or_ge i L.length with c | c
   ·simp[List.getD,List.getElem?_append,c]
   ·rw[Qao L c,Qao (L++[true]) (by simp;omega)]
theorem QcA (r:Int) (h:Qo w b L) :
 Calls prog 272 #[Pv b 0,Iv r] w fun e w'=>e=.returned (.bool (hHas L r))/\w'=w:=by
 by_cases a:0<=r
 ·by_cases g:r<16
  ·obtain⟨k,rfl⟩:=Xc a
   have c:=h.mark (k:=k) (by omega);have E:Hid (hHas L (k:Int)=L.getD k false):=QcR L k;have i:k<16:=by omega
   clear h;generalize L.getD k false=q at c E;go_enter func272,ntmps272
   go_wp2
   go_ret;exact⟨by rw[E.out];rfl,Z⟩
  ·have E:Hid (hHas L r=false):=by
    show _=_;obtain⟨k,rfl⟩:=Xc a
    rw[QcR,Qao L (by have:=h.1;omega)]
   have d:decide (r<16)=false:=by simpa using g
   clear h;go_enter func272,ntmps272
   go_wp2
   go_ret;exact⟨by rw[E.out];rfl,Z⟩
 ·have E:Hid (hHas L r=false):=by show _=_;simp[hHas,a]
  have f:decide (0<=r)=false:=by simpa using a
  clear h;go_enter func272,ntmps272
  go_wp2
  go_ret;exact⟨by rw[E.out];rfl,Z⟩
theorem Qj3 (h:Qo w b L) :
 Calls prog 271 #[Pv b 0] w fun e w'=>e=.returned (Iv (L.length:Int))/\w'=w:=by
 have c:=h.count;clear h;generalize L.length=n at c;go_enter func271,ntmps271
 go_wp2
 go_ret;exact⟨Z,Z⟩
theorem QfX {a:World}(h:Qz (fun k=>k=b) (fun k=>k=b) a w) (i:Nat) (v:Value):Qz (fun k=>k=b) (fun k=>k=b) a (w.setCell ⟨b,i,none⟩ v):=h.setCell (p:=⟨b,i,none⟩) Z v
theorem QcS (h:Qo w b L) :
 Calls prog 237 #[Pv b 0] w fun e w'=>e=.returned (Iv (QbN L))/\Qo w' b (QcJ L)/\Qz (fun k=>k=b) (fun k=>k=b) w w':=by
 have c:=h.count;have j:=h.1;by_cases d:L.length<16
 ·have E:Hid (QbN L=(L.length:Int)/\QcJ L=L++[true]):=by show _/\_;simp[QbN,QcJ,d]
  have m:=h.mark d;have f:∀ i,w.frozen? ⟨b,i,none⟩=false:=h.2.frozen;have g:Hid (Qo ((w.setCell ⟨b,L.length,none⟩ (.bool true)).setCell ⟨b,16,none⟩ (Iv ((L.length:Int)+1))) b (L++[true])):=h.push d;have l:Hid (Qz (fun k=>k=b) (fun k=>k=b) w ((w.setCell ⟨b,L.length,none⟩ (.bool true)).setCell ⟨b,16,none⟩ (Iv ((L.length:Int)+1)))):=QfX (QfX (Qz.refl _ _) _ _) _ _;have a:((L.length:Int)==16)=false:=by simp;omega
  clear h;generalize o:L.length=n at c m g l E d a j;generalize L.getD n false=q at m;go_enter func237,ntmps237
  go_wp2_with fail
  go_region;go_wp2
  go_ret;rw[E.out.1,E.out.2]
  exact⟨Z,g.out,l.out.drew⟩
 ·have a:L.length=16:=by omega
  have E:Hid (QbN L=-1/\QcJ L=L):=by show _/\_;simp[QbN,QcJ,d]
  have g:Hid (Qo w b L):=h;rw[a] at c
  clear h d a j;go_enter func237,ntmps237
  go_wp2
  go_ret;rw[E.out.1,E.out.2]
  exact⟨Z,g.out,Qz.refl _ _⟩
theorem Qh0 (r:Int) (h:Qo w b L) :
 Calls prog 269 #[Pv b 0,Iv r] w fun e w'=>e=.returned (.bool (hHas L r))/\Qo w' b (QfC L r)/\Qz (fun k=>k=b) (fun k=>k=b) w w':=by
 have C:Hid (Calls prog 272 #[Pv b 0,Iv r] w fun e w'=>e=.returned (.bool (hHas L r))/\w'=w):=QcA r h
 cases hh:hHas L r with
 | false =>
   have E:Hid (QfC L r=L):=by show _=_;simp[QfC,hh]
   have d:Hid (Qo w b L):=h;rw[hh] at C
   clear h hh;go_enter func269,ntmps269
   go_wp2_with (go_at_call 272;refine(C.out).mono ?_;rintro e w' ⟨rfl,a⟩;have a:=a.symm;subst a)
   go_ret;rw[E.out]
   exact⟨Z,d.out,Qz.refl _ _⟩
 | true =>
   obtain⟨k,rfl,n,j⟩:=QaT hh
   have E:Hid (QfC L (k:Int)=L.set k false):=by show _=_;simp[QfC,hh]
   have d:Hid (Qo (w.setCell ⟨b,k,none⟩ (.bool false)) b (L.set k false)):=h.setMark n false;have l:Hid (Qz (fun k=>k=b) (fun k=>k=b) w (w.setCell ⟨b,k,none⟩ (.bool false))):=QfX (Qz.refl _ _) _ _;have c:k<16:=by have:=h.1;omega
   have g:(k:Int)<16:=by omega
   have m:=h.mark c;have f:∀ i,w.frozen? ⟨b,i,none⟩=false:=h.2.frozen;rw[hh] at C
   generalize L.getD k false=q at m;clear h hh j;go_enter func269,ntmps269
   go_wp2_with (go_at_call 272;refine(C.out).mono ?_;rintro e w' ⟨rfl,a⟩;have a:=a.symm;subst a)
   go_ret;rw[E.out]
   exact⟨Z,d.out,l.out⟩
theorem Qjd (w:World):Qo (w.alloc (.cells #[.bool false,.bool false,.bool false,.bool false,.bool false,.bool false,.bool false,.bool false,.bool false,.bool false,.bool false,.bool false,.bool false,.bool false,.bool false,.bool false,Iv 0] 303)) w.heap.size []:=by
 refine⟨by simp,World.rowIs_alloc w _ _ _ fun i a=>?_⟩
 have a:i<17:=a;unfold QgX;match i,a with
 | 0,_ | 1,_ | 2,_ | 3,_ | 4,_ | 5,_ | 6,_ | 7,_ | 8,_ | 9,_ | 10,_ | 11,_ | 12,_ | 13,_ | 14,_ | 15,_ | 16,_=>rfl
 | i+17,h=>exact absurd h (by omega)
theorem QkR (w:World) (n:Int) (x:-9223372036854775808<=n/\n<=9223372036854775807) :
 Calls prog 208 #[Iv n] w fun e w'=>e=.returned (Pv w.heap.size 0)/\Qo w' w.heap.size (QbW n)/\Below w.heap.size w w':=by
 have Z:Hid (Qo (w.alloc (.cells #[.bool false,.bool false,.bool false,.bool false,.bool false,.bool false,.bool false,.bool false,.bool false,.bool false,.bool false,.bool false,.bool false,.bool false,.bool false,.bool false,Iv 0] 303)) w.heap.size []):=Qjd w;obtain⟨M,s⟩:∃ M,(min n 16).toNat=M:=⟨_,Yz⟩
 have E:Hid (QbW n=List.replicate M true):=by show _=_;rw[QbW,s]
 have j:∀ k:Nat,k<M->(k:Int)<n/\(k:Int)<16:=fun k m=>by omega
 have u:∀ k:Nat,¬ k<M->¬ (k:Int)<n\/¬ (k:Int)<16:=fun k m=>by omega
 go_enter func208,ntmps208
 by_cases t:16<n
 ·have p:M=16:=by omega
  go_wp2
  go_loopw [8] (fun i wr=>∃ k:Nat,k<=M/\i=Iv k/\Qo wr w.heap.size (List.replicate k true)/\Below w.heap.size w wr) (fun i _=>M - (intOf i).toNat)
  case atStart=>exact⟨0,Xb _,Yz,Z.out,Zr.alloc Ze _⟩
  case round =>
   obtain⟨k,m,rfl,h,o⟩:=hrel
   have f:Hid (Qo wr w.heap.size (List.replicate k true)):=h;have c:Hid (Below w.heap.size w wr):=o;clear h o Z;by_cases d:k<M
   ·obtain⟨v,r⟩:=j k d
    go_wp2_with fail
    refine(QcS f.out).mono ?_
    rintro e l ⟨rfl,a,b⟩
    have R:Hid (Qo l w.heap.size (List.replicate (k+1) true)/\Below w.heap.size w l):=by
     refine⟨by rw[<-QeQ (by omega)];exact a,c.out.trans (b.below c.out.size fun k m=>by omega)⟩
    clear a b f c;go_wp2
    go_roundw
    case rel=>exact⟨k+1,by omega,by go_num,R.out⟩
    case measure=>simp[intOf];omega
   ·have q:¬ (k:Int)<16:=by omega
    have g:k=M:=by omega
    go_wp2
    go_ret;refine⟨Yz,?_,c.out⟩
    rw[E.out,<-g];exact f.out
 ·go_wp2
  go_loopw [8] (fun i wr=>∃ k:Nat,k<=M/\i=Iv k/\Qo wr w.heap.size (List.replicate k true)/\Below w.heap.size w wr) (fun i _=>M - (intOf i).toNat)
  case atStart=>exact⟨0,Xb _,Yz,Z.out,Zr.alloc Ze _⟩
  case round =>
   obtain⟨k,m,rfl,h,o⟩:=hrel
   have f:Hid (Qo wr w.heap.size (List.replicate k true)):=h;have c:Hid (Below w.heap.size w wr):=o;clear h o Z;by_cases d:k<M
   ·obtain⟨v,r⟩:=j k d
    go_wp2_with fail
    refine(QcS f.out).mono ?_
    rintro e l ⟨rfl,a,b⟩
    have R:Hid (Qo l w.heap.size (List.replicate (k+1) true)/\Below w.heap.size w l):=by
     refine⟨by rw[<-QeQ (by omega)];exact a,c.out.trans (b.below c.out.size fun k m=>by omega)⟩
    clear a b f c;go_wp2
    go_roundw
    case rel=>exact⟨k+1,by omega,by go_num,R.out⟩
    case measure=>simp[intOf];omega
   ·have q:¬ (k:Int)<n:=by omega
    have g:k=M:=by omega
    go_wp2
    go_ret;refine⟨Yz,?_,c.out⟩
    rw[E.out,<-g];exact f.out
theorem under16:prog.underlying 301=some (.array 16 4):=by kernel_rfl
theorem underB:prog.underlying 4=some .bool:=by kernel_rfl
theorem sizeB:(prog.info? 4).map (·.size)=some 1:=by kernel_rfl
theorem size16:(prog.info? 301).map (·.size)=some 16:=by kernel_rfl
theorem Qfy {b w9:World}{lo:Nat}(i:Qap Lay.int 3 b lo (.slice a xs.length c) xs cs) (h:-9223372036854775808<=x/\x<=9223372036854775807){o:Obj}(d:lo<=b.heap.size)
 (m:w9.ownsRow lo 3 1 (.slice (some ⟨g,0,none⟩) (xs.length+1) cap) (xs.length+1) (cs++[Iv x])) (f:(b.alloc o).grownBy w9 (Value.slice a xs.length c).ownBlock) (j:(Value.slice a xs.length c).ownBlock=some g\/g=b.heap.size+1) :
 Qap Lay.int 3 w9 lo (.slice (some ⟨g,0,none⟩) (xs.length+1) cap) (xs++[x]) (cs++[Iv x])/\∀ w,Below lo w b->Below lo w w9:=by
 have e:=i.below (Zd b o);have n:Lay.int.In (b.alloc o) (fun g=>lo<=g/\(Value.slice a xs.length c).ownBlock≠some g) x [Iv x]:=Lay.int_mk _ _ h;refine⟨Qap.push e n f (by simpa using j) m,fun w l=>(l.alloc d _).grown f (by simp;omega) (fun k p=>(e.lo_le p).1)⟩
def QiU (w:World) (l:List Int) (e:Ending) (w':World):Prop:=∃ a c,e=.returned (.slice a l.length c)/\intsL.In w' (fun g=>w.heap.size<=g) l [.slice a l.length c]/\Below w.heap.size w w'
theorem Qic (h:Qo w b L) :
 Calls prog 278 #[Pv b 0] w fun e w'=>QiU w (Qal L) e w':=by
 obtain⟨i0,hi,S,O,R⟩:=pInfoI
 have T:w.rangeAt b 0 ((List.range 16).map fun i=>Value.bool (L.getD i false)):=fun j v A=>by
  rw[XS] at A
  cases hj:(List.range 16)[j]? with
  | none=>rw[hj] at A;cases A
  | some k =>
    have t:j<16:=by have:=(Zi hj).1;simpa using this
    rw[List.getElem?_range t] at hj
    cases hj
    rw[List.getElem?_range t] at A
    simp only[Option.map_some,Option.some.injEq] at A
    rw[<-A,XK]
    exact h.mark t
 have E:Hid (hTo L 16=Qal L):=Qmq L 16 h.1
 have l:∀ (k:Nat) (o:World),k<16->(Instr.index 301 (.agg ((List.range 16).map fun i=>Value.bool (L.getD i false)).toArray) (Iv (k:Int))).run prog o=.ok (.bool (L.getD k false)) o:=fun k o hk=>by
  have hp:(part 4 ((List.range 16).map fun i=>Value.bool (L.getD i false)).toArray (k*1)).run prog o=.ok (.bool (L.getD k false)) o:=by
   have hc:((List.range 16).map fun i=>Value.bool (L.getD i false)).toArray[k*1]?=some (.bool (L.getD k false)):=by
    simp[hk]
   simp only[part,isAgg,Sem.run_bind,run_underlying underB,Result.andThen_ok,Sem.run_pure,Bool.false_eq_true,if_false,hc]
  have y:(sizeOf 4).run prog o=.ok 1 o:=by
   have V:=sizeB
   cases hq:prog.info? 4 with
   | none=>simp[hq] at V
   | some i=>simp[hq] at V;simp[sizeOf,typeInfo,hq,V]
  have Q:(0:Int)<=(k:Int)/\(k:Int)<(16:Nat):=by omega
  simp only[Instr.index,asIntOf,Sem.run_bind,Sem.run_pure,run_underlying under16,Result.andThen_ok,Q,and_self,if_true,y,Int.toNat_natCast,hp]
 have X:Hid ((prog.info? 301).map (·.size)=some ((List.range 16).map fun i=>Value.bool (L.getD i false)).length):=by show _=_;rw[XN,List.length_range];exact size16
 have HR:Hid (w.rangeAt b 0 ((List.range 16).map fun i=>Value.bool (L.getD i false))):=T;generalize ((List.range 16).map fun i=>Value.bool (L.getD i false))=K at T l HR X;clear T;clear h;go_enter func278,ntmps278
 go_wp2_with (refine wpList_load_mid Yz 301 (.tmp 8) Yz b 0 Yz K _ HR.out under16 Yz X.out ?_)
 go_loopw [3,10] (fun v u wr=>∃ k p,u=Iv (k:Nat)/\k<=16/\Qap Lay.int 3 wr w.heap.size v (hTo L k) p/\Below w.heap.size w wr) (fun _ u _=>16 - (intOf u).toNat)
 case atStart=>exact⟨0,[],Yz,by omega,Qap.nil _ _ _ _,Zr⟩
 case round =>
  obtain⟨k,p,rfl,hk,N,U⟩:=hrel
  obtain⟨a,c,rfl⟩:=N.formP
  have z:Hid (Qap Lay.int 3 wr w.heap.size (.slice a (hTo L k).length c) (hTo L k) p):=N;have B:Hid (Below w.heap.size w wr):=U;have r:=QhW L k;have y:w.heap.size<=wr.heap.size:=U.size;clear N U;by_cases M:k<16
  ·have W:(k:Int)<16:=by omega
   have q:=fun o=>l k o M;clear l
   cases hm:L.getD k false with
   | false =>
     have F:Hid (hTo L (k+1)=hTo L k):=by show _=_;rw[hTo,hm];simp
     rw[hm] at q
     clear hm;go_wp2
     go_roundw
     case rel=>exact⟨k+1,p,by go_num,by omega,by rw[F.out];exact z.out,B.out⟩
     case measure=>simp[intOf];omega
   | true =>
     have F:Hid (hTo L (k+1)=hTo L k++[(k:Int)]):=by show _=_;rw[hTo,hm];simp
     rw[hm] at q
     have f:Hid (wr.ownsRow w.heap.size 3 1 (.slice a (hTo L k).length c) (hTo L k).length p):=z.out.own
     have P:Hid (∀ g x m,m.ownsRow w.heap.size 3 1 (.slice (some ⟨g,0,none⟩) ((hTo L k).length+1) x) ((hTo L k).length+1) (p++[Iv (k:Int)])->(wr.alloc (.cells #[Iv (k:Int)] 3)).grownBy m (Value.slice a (hTo L k).length c).ownBlock->((Value.slice a (hTo L k).length c).ownBlock=some g\/g=wr.heap.size+1) ->
      Qap Lay.int 3 m w.heap.size (.slice (some ⟨g,0,none⟩) ((hTo L k).length+1) x) (hTo L (k+1)) (p++[Iv (k:Int)])/\Below w.heap.size w m):=by
      intro g x m J h2 h3;obtain⟨H,I⟩:=Qfy z.out (by omega) y J h2 h3
      rw[F.out]
      exact⟨H,I w B.out⟩
     have EL:Hid ((hTo L (k+1)).length=(hTo L k).length+1):=by show _=_;rw[F.out];simp
     clear hm z B F;generalize (hTo L k).length=n at f P EL r |-;go_wp2_with (at_builtin;refine wpList_append_lies _ Yz (.tmp 15) (.tmp 17) 76 Yz w.heap.size 3 i0 (Iv 0) 1 8 pUnderI hi S O R Yz (by decide) _ _ _ Yz (f.out.alloc _) ⟨wr.heap.size,0,none⟩ 1 1 [Iv (k:Int)] Yz Yz (Qk2 _ [_] _) (Qm8 _) (by decide) (by unfold maxLen;omega) (by omega) (by simp;omega) (wr.heap.size+1) (by simp) ?_)
     intro g2 s m J d C G;obtain⟨H,I⟩:=P.out g2 s m J d C
     have A9:Hid (Qap Lay.int 3 m w.heap.size (.slice (some ⟨g2,0,none⟩) (n+1) s) (hTo L (k+1)) (p++[Iv (k:Int)])):=H;have B9:Hid (Below w.heap.size w m):=I;clear J d C G f P H I;go_wp2
     go_roundw
     case rel=>exact⟨k+1,_,by go_num,by omega,A9.out,B9.out⟩
     case measure=>simp[intOf];omega
  ·have D:k=16:=by omega
   subst D
   have Z:Hid (QiU w (Qal L) (.returned (.slice a (hTo L 16).length c)) wr):=by
    rw[E.out]
    refine⟨a,c,Yz,?_,B.out⟩
    have:=z.out.lay
    rw[E.out] at this
    exact this
   clear z B l r;generalize (hTo L 16).length=n at Z;go_wp2
   go_ret;exact Z.out
theorem eqGuard16:prog.eqGuardType prog.depth 301=false:=by kernel_rfl
theorem Qh8 (f:Nat->Bool){c:Array Value}(e:c.size=16):((w.alloc (.cells c t)).setCells w.heap.size 0 ((List.range 16).map fun i=>Value.bool (f i)).toArray.toList).rowIs w.heap.size t 16 (fun i=>.bool (f i)):=by
 have b:Blk (w.alloc (.cells c t)) w.heap.size ([]++c.toList).toArray t:=by rw[List.nil_append,Array.toArray_toList];exact Qe w c t
 have a:=Blk.sets ((List.range 16).map fun i=>Value.bool (f i)) [] c.toList (w.alloc (.cells c t)) (by simp[e]) b;refine⟨_,a,by simp,fun i d=>?_⟩
 simp[d]
theorem QfI {f:Nat->Bool}(h:w.rowIs b t 16 (fun i=>.bool (f i))):w.rangeAt b 0 ((List.range 16).map fun i=>Value.bool (f i)):=fun j v c=>by
 rw[XS] at c
 cases hj:(List.range 16)[j]? with
 | none=>rw[hj] at c;cases c
 | some k =>
   have a:j<16:=by have:=(Zi hj).1;simpa using this
   rw[List.getElem?_range a] at hj
   cases hj
   rw[List.getElem?_range a] at c
   simp only[Option.map_some,Option.some.injEq] at c
   rw[<-c,XK]
   exact h.cell a
theorem Qo.marks (h:Qo w b L):w.rangeAt b 0 ((List.range 16).map fun i=>Value.bool (L.getD i false)):=fun j v c=>by
 rw[XS] at c
 cases hj:(List.range 16)[j]? with
 | none=>rw[hj] at c;cases c
 | some k =>
   have a:j<16:=by have:=(Zi hj).1;simpa using this
   rw[List.getElem?_range a] at hj
   cases hj
   rw[List.getElem?_range a] at c
   simp only[Option.map_some,Option.some.injEq] at c
   rw[<-c,XK]
   exact h.mark a
theorem QiL (f:Nat->Bool):((List.range 16).map fun i=>Value.bool (f i)).toArray.all (·.oneCell')=true :=
 all_oneCell_toArray fun v a=>by obtain⟨i,_,rfl⟩:=List.mem_map.1 a;rfl
theorem Qjg (w:World) (t:TypeId) (c:Array Value) (n:Nat) (b:n<=c.size):(w.alloc (.cells c t)).there w.heap.size 0 n:=fun j a=>by
 have h:=Qe w c t;rw[XK]
 refine⟨?_,Qj h j⟩
 rw[Qb h j c[j] (by simp)];rfl
theorem QiX (hN:l.length=N) (ab:N<=100000) (hl:intsL.In w Q l [.slice a N c]) (h:Qo w b L) :
 Calls prog 286 #[Pv b 0,.slice a N c] w fun e w'=>e=.returned (Iv (hPass L [] l))/\Below w.heap.size w w':=by
 have HX:Hid (∀ i x,l[i]?=some x->∃ g o,a=some ⟨g,o,none⟩/\g<w.heap.size/\w.cell? ⟨g,o+i,none⟩=some (Iv x)):=fun i x B=>by
  obtain⟨g,o,ds,e1,e2,e3,hc,hd,U⟩:=Yf hl B
  have V:ds=[Iv x]:=hd;subst V;refine⟨g,o,e1,e3,?_⟩
  have:=hc 0 (by decide)
  simpa[Lay.int] using this
 have HN:Hid (l.length=N):=hN;have HL:Hid (L.length<=16):=h.1;have HH:Hid (Qo w b L):=h
 have t:Hid (w.rangeAt b 0 ((List.range 16).map fun i=>Value.bool (Zz L [] i))):=by
  have:=h.marks
  simp only[<-Qh2] at this
  exact this
 have A:Hid ((prog.info? 301).map (·.size)=some ((List.range 16).map fun i=>Value.bool (Zz L [] i)).length):=by show _=_;rw[XN,List.length_range];exact size16
 have M:Hid ((prog.info? 301).map (·.size)=some ((List.range 16).map fun i=>Value.bool (Zz L [] i)).toArray.size):=by show _=_;rw[List.size_toArray,XN,List.length_range];exact size16
 have HU:Hid (((List.range 16).map fun i=>Value.bool (Zz L [] i)).toArray.all (·.oneCell')=true):=QiL _
 have X:Hid ((w.alloc (.cells #[.bool false,.bool false,.bool false,.bool false,.bool false,.bool false,.bool false,.bool false,.bool false,.bool false,.bool false,.bool false,.bool false,.bool false,.bool false,.bool false] 301)).there w.heap.size 0 ((List.range 16).map fun i=>Value.bool (Zz L [] i)).toArray.size):=by
  refine Qjg w _ _ _ ?_;rw[List.size_toArray,XN,List.length_range]
  exact Ze
 have T:Hid (((w.alloc (.cells #[.bool false,.bool false,.bool false,.bool false,.bool false,.bool false,.bool false,.bool false,.bool false,.bool false,.bool false,.bool false,.bool false,.bool false,.bool false,.bool false] 301)).setCells w.heap.size 0 ((List.range 16).map fun i=>Value.bool (Zz L [] i)).toArray.toList).rowIs w.heap.size 301 16 (fun i=>.bool (Zz L [] i))):=Qh8 _ Z
 have B1:Hid (Below w.heap.size w ((w.alloc (.cells #[.bool false,.bool false,.bool false,.bool false,.bool false,.bool false,.bool false,.bool false,.bool false,.bool false,.bool false,.bool false,.bool false,.bool false,.bool false,.bool false] 301)).setCells w.heap.size 0 ((List.range 16).map fun i=>Value.bool (Zz L [] i)).toArray.toList)):=by
  have:=Qz.setCells (O:=fun k=>k=w.heap.size) (O':=fun k=>k=w.heap.size) (b:=w.heap.size) Z ((List.range 16).map fun i=>Value.bool (Zz L [] i)).toArray.toList 0 _ ((Qz.refl _ w).alloc (.cells #[.bool false,.bool false,.bool false,.bool false,.bool false,.bool false,.bool false,.bool false,.bool false,.bool false,.bool false,.bool false,.bool false,.bool false,.bool false,.bool false] 301))
  exact this.below Ze (fun k hk=>by omega)
 clear h hl hN;generalize ((List.range 16).map fun i=>Value.bool (Zz L [] i))=m at t A M HU X T B1;go_enter func286,ntmps286
 go_wp2_with (first | (refine wpList_load_mid Z 301 (.tmp 10) Z b 0 Z m _ t.out under16 Z A.out ?_) | (refine wpList_store_mid Z 301 (.tmp 5) (.tmp 11) Z w.heap.size 0 m.toArray Z Z X.out M.out HU.out ?_))
 go_loopw [14] (fun u wr=>∃ k,u=Iv (k:Nat)/\k<=N/\wr.rowIs w.heap.size 301 16 (fun i=>.bool (Zz L (l.take k) i))/\Below w.heap.size w wr/\hPass L [] l=hPass L (l.take k) (l.drop k)) (fun u _=>N - (intOf u).toNat)
 case atStart=>exact⟨0,Z,Xb _,T.out,B1.out,Z⟩
 case round =>
  obtain⟨k,rfl,hk,U,hB,hp⟩:=hrel
  have D:Hid (wr.rowIs w.heap.size 301 16 (fun i=>.bool (Zz L (l.take k) i))):=U;have s:Hid (Below w.heap.size w wr):=hB;have I:Hid (hPass L [] l=hPass L (l.take k) (l.drop k)):=hp;clear U hB hp T B1 t A M HU X;by_cases F:k<N
  ·have f:l[k]?=some (l[k]'(by rw[HN.out];exact F)):=Zg _;generalize l[k]'(by rw[HN.out];exact F)=x at f;obtain⟨g,o,rfl,hg,J⟩:=HX.out k x f
   have aa:wr.cell? ⟨g,o+k,none⟩=some (Iv x):=(s.out.cell (p:=⟨g,o+k,none⟩) hg).trans J;have G:(k:Int)<N:=by omega
   have n:=Qhf L l f;rw[<-I.out] at n
   have C:Hid (Calls prog 272 #[Pv b 0,Iv x] wr fun e w'=>e=.returned (.bool (hHas L x))/\w'=wr):=QcA x (HH.out.below s.out)
   cases hh:hHas L x with
   | false =>
     rw[hh] at C n
     have E:Hid (hPass L [] l=10):=by show _=_;simpa using n
     clear n hh J f;go_wp2_with (go_at_call 272;refine(C.out).mono ?_;rintro e w' ⟨rfl,q⟩;have q:=q.symm;subst q)
     go_ret;exact⟨by rw[E.out];rfl,s.out⟩
   | true =>
     obtain⟨j,rfl,hj,P⟩:=QaT hh
     rw[hh] at C n
     have H:j<16:=by have:=HL.out;omega
     have W:(j:Int)<16:=by omega
     have S:wr.cell? ⟨w.heap.size,j,none⟩=some (.bool (Zz L (l.take k) j)):=D.out.cell H;have fj:∀ i,wr.frozen? ⟨w.heap.size,i,none⟩=false:=D.out.frozen;have R:Zz L (l.take k) j=!inB (l.take k) (j:Int):=by rw[Zz,P,Bool.true_and]
     rw[R] at S
     cases B:inB (l.take k) (j:Int) with
     | true =>
       rw[B] at n S
       have E:Hid (hPass L [] l=13):=by show _=_;simpa using n
       clear n hh J f R B P;go_wp2_with (go_at_call 272;refine(C.out).mono ?_;rintro e w' ⟨rfl,q⟩;have q:=q.symm;subst q)
       go_ret;exact⟨by rw[E.out];rfl,s.out⟩
     | false =>
       rw[B] at n S
       have E:Hid (hPass L [] l=hPass L (l.take (k+1)) (l.drop (k+1))):=by show _=_;simpa using n
       have ET:l.take (k+1)=l.take k++[(j:Int)]:=by rw[XV,f];rfl
       have RN:Hid ((wr.setCell ⟨w.heap.size,j,none⟩ (.bool false)).rowIs w.heap.size 301 16 (fun i=>.bool (Zz L (l.take (k+1)) i))):=by
        refine(D.out.set j (.bool false)).congr fun i B=>?_
        rw[ET,Qhm]
        by_cases e:i=j
        ·rw[Xs e,Xs e]
        ·rw[Xr e,Xr e]
       have BN:Hid (Below w.heap.size w (wr.setCell ⟨w.heap.size,j,none⟩ (.bool false))):=s.out.setCell (p:=⟨w.heap.size,j,none⟩) Ze _;clear n hh J f R B P ET D s I;go_wp2_with (go_at_call 272;refine(C.out).mono ?_;rintro e w' ⟨rfl,q⟩;have q:=q.symm;subst q)
       go_roundw
       case rel=>exact⟨k+1,by go_num,by omega,RN.out,BN.out,E.out⟩
       case measure=>simp[intOf];omega
  ·have G:¬ (k:Int)<N:=by omega
   have y:l.length<=k:=by rw[HN.out];omega
   have v:=QiP L l y;rw[<-I.out] at v
   have t:Hid (wr.rangeAt w.heap.size 0 ((List.range 16).map fun i=>Value.bool (Zz L (l.take k) i))):=QfI D.out;rw[XO y] at t
   have A:Hid ((prog.info? 301).map (·.size)=some ((List.range 16).map fun i=>Value.bool (Zz L l i)).length):=by show _=_;rw[XN,List.length_range];exact size16
   have z:∀ K,(Op.equalIn 10000 301 (.agg ((List.range 16).map fun i=>Value.bool (Zz L l i)).toArray) (.agg #[.bool false,.bool false,.bool false,.bool false,.bool false,.bool false,.bool false,.bool false,.bool false,.bool false,.bool false,.bool false,.bool false,.bool false,.bool false,.bool false])).run prog K=.ok ((Qal L).all (fun r=>inB l r)) K:=fun K=>by
    have:=Qcb (d:=9998) under16 underB sizeB K ((List.range 16).map (Zz L l)) (List.replicate 16 false) (by simp) (by simp)
    rw[List.map_map] at this
    refine Eq.trans this ?_;congr 1
    rw[Bool.eq_iff_iff,beq_iff_eq]
    exact Qhz HL.out
   generalize ((List.range 16).map fun i=>Value.bool (Zz L l i))=m at t A z;have ac:=eqGuard16;clear I D HX y
   cases hq:(Qal L).all (fun r=>inB l r) with
   | true =>
     rw[hq] at z v
     have E:Hid (hPass L [] l=0):=by show _=_;simpa using v
     clear v hq;go_wp2_with (refine wpList_load_mid Z 301 (.tmp 5) Z w.heap.size 0 Z m _ t.out under16 Z A.out ?_)
     go_ret;exact⟨by rw[E.out];rfl,s.out⟩
   | false =>
     rw[hq] at z v
     have E:Hid (hPass L [] l=12):=by show _=_;simpa using v
     clear v hq;go_wp2_with (refine wpList_load_mid Z 301 (.tmp 5) Z w.heap.size 0 Z m _ t.out under16 Z A.out ?_)
     go_ret;exact⟨by rw[E.out];rfl,s.out⟩
theorem QI {a:World}(h:Below B a w) (n:Nat):Below B a (w.drewN n):=⟨h.os,h.tape,h.output,h.size,h.block⟩
theorem Qa {p:Prop}(h:p):Hid p:=h
theorem QiG (h:intsL.In w Q l [.slice a N c])(hi:i<=l.length) (c':Nat):intsL.In w Q (l.take i) [.slice a i c']:=by
 obtain⟨g,d,e,f⟩:=h
 simp only[List.cons.injEq,Value.slice.injEq,and_true] at e
 obtain⟨rfl,_,rfl⟩:=e
 refine⟨a,c',by simp[Nat.min_eq_left hi],fun j x b=>f j x ?_⟩
 rw[XR] at b
 split at b
 ·exact b
 ·cases b
abbrev QgL (x:MBlock 6) (b:BP):Array Value:=#[Iv x.regs,.slice b.pP x.params.length b.cP,.slice b.pC x.code.length b.cC,Iv x.fin.op,Iv x.fin.a,Iv x.fin.yes.block,.slice b.e.pYR x.fin.yes.regs.length b.e.cYR,.slice b.e.pYA x.fin.yes.args.length b.e.cYA,Iv x.fin.no.block,.slice b.e.pNR x.fin.no.regs.length b.e.cNR,.slice b.e.pNA x.fin.no.args.length b.e.cNA,.slice b.e.pA x.fin.args.length b.e.cA]
abbrev zeroB:Array Value:=#[Iv 0,Nv,Nv,Iv 0,Iv 0,Iv 0,Nv,Nv,Iv 0,Nv,Nv,Nv]
theorem QmX (x:MBlock 6) (b:BP):(QgL x b).all (·.oneCell')=true:=by
 show ([Iv x.regs,.slice b.pP x.params.length b.cP,.slice b.pC x.code.length b.cC,Iv x.fin.op,Iv x.fin.a,Iv x.fin.yes.block,.slice b.e.pYR x.fin.yes.regs.length b.e.cYR,.slice b.e.pYA x.fin.yes.args.length b.e.cYA,Iv x.fin.no.block,.slice b.e.pNR x.fin.no.regs.length b.e.cNR,.slice b.e.pNA x.fin.no.args.length b.e.cNA,.slice b.e.pA x.fin.args.length b.e.cA]:List Value).toArray.all (·.oneCell')=true;exact all_oneCell_toArray (Xe.1 Z)
theorem QkA {c:Array Value}(h:Blk w R c 86) (a:c.size=12) (x:MBlock 6) (b:BP):w.there R 0 (QgL x b).size:=h.there (by rw[a];exact Nat.le_of_eq Z)
theorem QmW (h:Blk w R zeroB 86) (x:MBlock 6) (b:BP):Blk (w.setCells R 0 (QgL x b).toList) R (QgL x b) 86:=Blk.sets (QgL x b).toList [] zeroB.toList w Z h
theorem Qfe {B:Nat}{a:World}{R:Nat}(b:B<=R):∀ (vs:List Value) (o:Nat){w:World},Below B a w->Below B a (w.setCells R o vs)
 | [],_,_,h=>h
 | v::vs,o,w,h=>Qfe b vs (o+1) (h.setCell (p:=⟨R,o,none⟩) b v)
theorem Qf5 {l l2:List Oper}{outs:List Tmp}{gs:List (Nat × Option Bool)}{a:Act}{Q:Exit->Act->World->Prop}
 (E:Tmp->Value->World->Prop) (W:World->Prop) (R:World->World->Prop) (PX:List PanicEntry->World->Prop) (K:∀ ch a' w,a'.defers=a.defers->PX ch w->Q (.panic ch) a' w)
 (u:P.follows .mixedOrders=true)  (G:a.tmps.size=m) (c:n<=m) (D:Qa1 l n outs gs bs=true)
 (p:(Qcr 0 (l++l2)&&(Qbu l.length l&&QaL (l++l2) l.length l2))=true)
 (I:∀ t v w w',R w w'->E t v w->E t v w') (A:ZJ E l.toArray gs) (g:W w.drew) (C:Qai E a w.drew outs)
 (s:AllOkC E W R PX P l bs)
 (b:∀ (vs:Tmp->Value) w',W w'->(∀ t,(Qs l).contains t=true->E t (vs t) w')->wpList P (l++l2).toArray Q l2 (QM a vs (Qs l)) w') :
 (Code.region id (l++l2).toArray true).wp P Q a w:=by
 simp only[Bool.and_eq_true] at p
 obtain⟨i,k,f⟩:=p
 refine wp_region_any u ?_
 have d:wpAny P .any l.toArray (Exit.then (fun a w=>wpList P (l++l2).toArray Q l2 a w) Q) l.length (Array.replicate l.length false) a w.drew:=by
  have F:(fun j=>(Array.replicate l.length false).getD j false)=fun _=>false:=by
   funext j
   rw[Za,Array.getElem?_replicate]
   split<;>rfl
  refine Qbn (E:=fun _=>E) (W:=fun _=>W) (PX:=PX) (Q:=Exit.then (fun a w=>wpList P (l++l2).toArray Q l2 a w) Q) (a0:=a) (outs:=outs) (gs:=gs) (bs:=bs) (fun ch a' w' J y=>K ch a' w' J y) (Qau (G ▸ c) D) (fun _=>A) (Qgd I l bs 0 s) (fun vs S w' _ g B=>b vs w' g B) _ _ _ _ (by simp) ?_ ⟨g,(by rw[F];intro j o _ h;cases h),Z,Z,fun _ _=>rfl,fun t z _=>Qa7 outs C t z,?_⟩
  ·simp only[Array.toList_replicate]
   exact Zt (List.length_filter_le _ _) (by simp)
  ·intro j o t M L x;simp[Array.getD] at x
 have:=Qbv (Q:=Q) i k f l.length (Array.replicate l.length false) a w.drew (by simp) (fun q o N H=>by simp[Array.getD] at H) d
 have e:(Array.replicate l.length false++Array.replicate l2.length false:Array Bool)=Array.replicate (l++l2).toArray.size false:=by
  simp
 have r:l.length+l2.length=(l++l2).toArray.size:=by simp
 rw[e,r] at this
 exact this
theorem ZL {lo:List Oper}{outs:List Tmp}{gs:List (Nat × Option Bool)}{a:Act}{Q:Exit->Act->World->Prop}
 (k:Nat) (E:Tmp->Value->World->Prop) (W:World->Prop) (R:World->World->Prop) (PX:List PanicEntry->World->Prop) (r:∀ ch a' w,a'.defers=a.defers->PX ch w->Q (.panic ch) a' w)
 (o:P.follows .mixedOrders=true)  (i:a.tmps.size=m) (c:n<=m) (g:Qa1 (lo.take k) n outs gs bs=true)
 (d:(Qcr 0 lo&&(Qbu (lo.take k).length (lo.take k)&&QaL lo (lo.take k).length (lo.drop k)))=true)
 (q:∀ t v w w',R w w'->E t v w->E t v w') (p:ZJ E (lo.take k).toArray gs) (f:W w.drew) (e:Qai E a w.drew outs)
 (j:AllOkC E W R PX P (lo.take k) bs)
 (b:∀ ops (vs:Tmp->Value) w',W w'->(∀ t,(Qs (lo.take k)).contains t=true->E t (vs t) w')->wpList P ops Q (lo.drop k) (QM a vs (Qs (lo.take k))) w') :
 (Code.region id lo.toArray true).wp P Q a w:=by
 have h:=Qf5 (id:=id) (l:=lo.take k) (l2:=lo.drop k) (Q:=Q) E W R PX r o i c g (by rw[List.take_append_drop];exact d) q p f e j (b _);rwa [List.take_append_drop] at h
section
variable {w w' w2:World}{b most:Nat}{m:List (MFunc 6)}{M M' N:IM}{sc sa:Int}{g g1:MG}{e:Ending}
theorem iInfo64:∃ i,prog.info? 2=some i/\i.zero=some (Iv 0)/\i.size=1/\i.bytes=8:=by
 have h:(prog.info? 2).map (fun i=>(i.zero,i.size,i.bytes))=some (some (Iv 0),1,8):=by kernel_rfl
 cases e:prog.info? 2 with
 | none=>rw[e] at h;cases h
 | some i =>
   rw[e] at h
   simp only[Option.map_some,Option.some.injEq,Prod.mk.injEq] at h
   exact⟨i,Z,h.1,h.2.1,h.2.2⟩
theorem iUnder64:prog.underlying 25=some (.slice 2):=by kernel_rfl
end
theorem Qfq {l:List Oper}{S:Nat->Bool}(a:QgE l S){i:Nat}{o:Oper}(b:l[q]?=some o) (d:QdV l 30 o i=true) (c:S i=false):S q=false:=by
 cases h:S q with
 | false=>rfl
 | true =>
   have:S i=true:=Qc8 (all:=l) (S:=fun j=>S j=true) a 30 o d (a q o b h)
   rw[c] at this;cases this
theorem Qnd {i:Nat}{S:Nat->Bool}(h:j≠i):Qcu i S j=S j:=by
 have:(j==i)=false:=by simpa using h
 unfold Qcu;rw[this,Bool.false_or]
theorem QnU {i:Nat}{S:Nat->Bool}:Qcu i S i=true:=by simp[Qcu]
def WY (w6:World) (HP:World->Prop) (hk:Nat) (S:Nat->Bool) (w:World):Prop:=(S hk=false/\Below w6.heap.size w6 w)\/(S hk=true/\HP w)
section
variable {Z:Nat}{w6 w w':World}{HP:World->Prop}{HZ:Nat->World->Prop}{hk st i:Nat}{S:Nat->Bool}{R:Q1->Prop}{v:Value}
theorem WY.pre (h:WY w6 HP hk S w) (a:S hk=false):Below w6.heap.size w6 w:=by
 rcases h with h | h
 ·exact h.2
 ·rw[a] at h;cases h.1
theorem WY.did (p:HP w'):WY w6 HP hk (Qcu hk S) w':=.inr ⟨QnU,p⟩
theorem WY.fin (h:WY w6 HP hk S w) (a:S hk=true):HP w:=by
 rcases h with h | h
 ·rw[a] at h;cases h.1
 ·exact h.2
end
abbrev Zq (x:Qt) (i:IP):Array Value:=#[Iv x.op,Iv x.a,Iv x.b,Iv x.c,Iv x.k,Iv x.n,.slice i.pR x.regs.length i.cR,.slice i.pA x.args.length i.cA]
def TRd (w:World) (Q:Nat->Prop) (a:Option Addr) (L:List (TT 6)):Prop :=
 ∀ i t,L[i]?=some t->∃ g a' c',a=some ⟨g,0,none⟩/\w.cell? ⟨g,i*3,none⟩=some (Iv t.kind)/\w.cell? ⟨g,i*3+1,none⟩=some (Iv t.r)/\w.cell? ⟨g,i*3+2,none⟩=some (.slice a' t.len c')/\TIn w Q t a'/\t.ok
section
variable {w w':World}{O O':Nat->Prop}{v:Value}{L:List (TT 6)}
theorem TRd.below (h:TRd w Q a L) (b:Below w.heap.size w w'):TRd w' Q a L:=fun i t f=>by
 obtain⟨g,n,o,e,d,m,k,l,j⟩:=h i t f
 have c:g<w.heap.size:=Xi w ⟨g,i*3,none⟩ d;exact⟨g,n,o,e,(b.cell (p:=⟨g,i*3,none⟩) c).trans d,(b.cell (p:=⟨g,i*3+1,none⟩) c).trans m,(b.cell (p:=⟨g,i*3+2,none⟩) c).trans k,l.below b,j⟩
end
theorem underTs:prog.underlying 80=some (.slice 105):=by kernel_rfl
theorem infoT:(prog.info? 105).map (fun i=>(i.zero,i.size,i.bytes))=some (some (.agg #[Iv 0,Iv 0,Nv]),3,40):=by kernel_rfl
theorem infoT_parts:∃ i,prog.info? 105=some i/\i.zero=some (.agg #[Iv 0,Iv 0,Nv])/\i.size=3/\i.bytes=40:=by
 have h:=infoT
 cases hi:prog.info? 105 with
 | none=>rw[hi] at h;cases h
 | some i=>rw[hi] at h;simp at h;exact⟨i,Z,h.1,h.2.1,h.2.2⟩
structure Bx2 (w wr:World) (k r:Int) (a:Option Addr) (len c:Nat):Prop where
 bel:Below w.heap.size w wr
 box:wr.heap[w.heap.size]?=some (.cells #[Iv k,Iv r,.slice a len c] 105 (0,0))
 res:wr.heap[w.heap.size+1]?=some (.cells #[Iv 0,Iv 0,Nv] 105 (0,0))
theorem Bx2.start (w:World) (k r:Int) (a:Option Addr) (len c:Nat):Bx2 w ((w.alloc (.cells #[Iv k,Iv r,.slice a len c] 105)).alloc (.cells #[Iv 0,Iv 0,Nv] 105)) k r a len c :=
 ⟨((Below.refl _ w).alloc Ze _).alloc (by simp) _,(Below.heap_alloc _ _ _ (by simp)).trans (Qe w _ _),by have:=Qe (w.alloc (.cells #[Iv k,Iv r,.slice a len c] 105)) #[Iv 0,Iv 0,Nv] 105;simpa using this⟩
theorem Bx2.below {wr:World}{k r:Int}{len:Nat}(h:Bx2 w wr k r a len c) (b:Below wr.heap.size wr w'):Bx2 w w' k r a len c :=
 ⟨h.bel.trans (b.mono h.bel.size),QaQ h.box b,QaQ h.res b⟩
theorem Bx2.stored {wr:World}{k r:Int}{len:Nat}(h:Bx2 w wr k r a len c) (d r':Int) (a':Option Addr) (b c':Nat) :
 (((wr.setCell ⟨w.heap.size+1,0,none⟩ (Iv d)).setCell ⟨w.heap.size+1,1,none⟩ (Iv r')).setCell ⟨w.heap.size+1,2,none⟩ (.slice a' b c')).heap[w.heap.size+1]?=some (.cells #[Iv d,Iv r',.slice a' b c'] 105 (0,0)) /\
 Below w.heap.size w (((wr.setCell ⟨w.heap.size+1,0,none⟩ (Iv d)).setCell ⟨w.heap.size+1,1,none⟩ (Iv r')).setCell ⟨w.heap.size+1,2,none⟩ (.slice a' b c')):=by
 refine⟨?_,((h.bel.setCell (by simp) _).setCell (by simp) _).setCell (by simp) _⟩
 have g:=Qh h.res 0 (Iv d);have e:=Qh g 1 (Iv r');have f:=Qh e 2 (.slice a' b c');simpa using f
def Qli (w:World) (b:Option Addr) (m:Nat) (nm:Nat->Int):Prop:=∀ i,i<m->∃ g o,b=some ⟨g,o,none⟩/\w.cell? ⟨g,o+i,none⟩=some (Iv (nm i))
theorem Qli.below {b:Option Addr}{a:Nat->Int}(h:Qli w b m a) (k:Below w.heap.size w w'):Qli w' b m a:=fun i d=>by
 obtain⟨g,o,e,c⟩:=h i d
 exact⟨g,o,e,(k.cell (p:=⟨g,o+i,none⟩) (Xi w ⟨g,o+i,none⟩ c)).trans c⟩
def QnV (o:Option Int) (e:Ending):Prop:=match o with
 | some v=>e=.returned (.tuple #[.int .i64 v,.bool true])
 | none=>e=.returned (.tuple #[.int .i64 0,.bool false])
theorem QfZ (k r:Int) (a:Option Addr) (len c:Nat) (b:Option Addr) (m d:Nat) (f:Nat->Int) (w:World) (i:Qli w b m f) :
 Calls prog 290 #[.agg #[Iv k,Iv r,.slice a len c],.slice b m d] w fun e w'=>QnV (ZK m f k r) e/\Below w.heap.size w w':=by
 have q:Hid (Qli w b m f):=i;clear i;by_cases h:k=1
 ·subst h;rw[show ZK m f 1 r=some r by simp[ZK]]
  go_enter func290,ntmps290
  go_wp2_with fail
  go_ret2;exact⟨Z,(Below.refl _ w).alloc Ze _⟩
 ·have t:(k==1)=false:=by simpa using h
  rcases (show r<0\/(0<=r/\(m:Int)<=r)\/(0<=r/\r<m) by omega) with n | ⟨n,s⟩|⟨n,s⟩
  ·rw[show ZK m f k r=none by unfold ZK;rw[Xr h,Xs (Or.inl n)]]
   clear h;go_enter func290,ntmps290
   go_wp2_with fail
   go_ret2;exact⟨Z,(Below.refl _ w).alloc Ze _⟩
  ·rw[show ZK m f k r=none by unfold ZK;rw[Xr h,Xs (Or.inr s)]]
   clear h;have u:¬ r<0:=by omega
   go_enter func290,ntmps290
   go_wp2_with fail
   go_ret2;exact⟨Z,(Below.refl _ w).alloc Ze _⟩
  ·obtain⟨j,rfl⟩:=Xc n
   obtain⟨g,o,rfl,p⟩:=q.out j (by omega)
   have y:g<w.heap.size:=Xi w ⟨g,o+j,none⟩ p;have u:¬ (j:Int)<0:=by omega
   have x:¬ (m:Int)<=j:=by omega
   by_cases l:f j<0
   ·rw[show ZK m f k j=none by unfold ZK;rw[Xr h,Xr (by omega),Xs (by simpa using l)]]
    clear h;generalize f j=v at p l;go_enter func290,ntmps290
    go_wp2_with fail
    go_ret2;exact⟨Z,(Below.refl _ w).alloc Ze _⟩
   ·rw[show ZK m f k j=some (f j) by unfold ZK;rw[Xr h,Xr (by omega),Xr (by simpa using l)];rfl]
    clear h;generalize f j=v at p l |-;go_enter func290,ntmps290
    go_wp2_with fail
    go_ret2;exact⟨Z,(Below.refl _ w).alloc Ze _⟩
structure Qcy (w:World) (G len:Nat){n:Nat}(l:List (TT n)):Prop where
 row:∃ cur,w.heap[G]?=some (.cells cur 105 (0,0))/\cur.size=len*3/\∀ (i:Nat) (x:TT n),l[i]?=some x->∃ a c,cur[i*3]?=some (Iv x.kind)/\cur[i*3+1]?=some (Iv x.r)/\cur[i*3+2]?=some (.slice a x.len c)/\TIn w (Qcv (G+1)) x a
theorem Qcy.below {len:Nat}{l:List (TT n)}(h:Qcy w G len l) (b:Below w.heap.size w w'):Qcy w' G len l:=by
 obtain⟨d,e,k,m⟩:=h.row
 refine⟨d,(b.block G (XC e)).trans e,k,fun i x g=>?_⟩
 obtain⟨a,c,p,f,j,o⟩:=m i x g
 exact⟨a,c,p,f,j,o.below b⟩
theorem Qcy.lt {len:Nat}{l:List (TT n)}(h:Qcy w G len l):G<w.heap.size:=by
 obtain⟨b,a,d,c⟩:=h.row
 exact XC a
theorem Qcy.frozen {len:Nat}{l:List (TT n)}(h:Qcy w G len l) (i:Nat):w.frozen? ⟨G,i,none⟩=false:=by
 obtain⟨b,a,d,c⟩:=h.row
 exact Qj a i
theorem Qcy.has {len:Nat}{l:List (TT n)}(h:Qcy w G len l) (i:Nat) (hi:i<len*3):∃ v,w.cell? ⟨G,i,none⟩=some v:=by
 obtain⟨a,b,d,c⟩:=h.row
 exact⟨a[i]'(by omega),Qb b i _ (Xj (by omega))⟩
theorem Qcy.lin {len:Nat}{l:List (TT n)}(h:Qcy w G len l):LIn w (Qcv G) l (some ⟨G,0,none⟩):=by
 obtain⟨g,b,p,m⟩:=h.row
 intro i x e;obtain⟨a,c,j,d,f,o⟩:=m i x e
 refine⟨G,0,a,c,Z,Ze,?_,?_,?_,o.mono (fun k q _=>by omega)⟩
 ·rw[XK];exact Qb b _ _ j
 ·rw[XK];exact Qb b _ _ d
 ·rw[XK];exact Qb b _ _ f
theorem Qcy.set {len:Nat}{l:List (TT n)}(h:Qcy w G len l) (t:l.length=q) (E:q<len){x:TT n}(m:TIn w (Qcv (G+1)) x a) :
 Qcy (((w.setCell ⟨G,q*3,none⟩ (Iv x.kind)).setCell ⟨G,q*3+1,none⟩ (Iv x.r)).setCell ⟨G,q*3+2,none⟩ (.slice a x.len c)) G len (l++[x]):=by
 obtain⟨o,B,v,z⟩:=h.row
 have A:=Qh B (q*3) (Iv x.kind);have p:=Qh A (q*3+1) (Iv x.r);have u:=Qh p (q*3+2) (.slice a x.len c)
 have e:∀ {y:TT n} {b:Option Addr},TIn w (Qcv (G+1)) y b->TIn (((w.setCell ⟨G,q*3,none⟩ (Iv x.kind)).setCell ⟨G,q*3+1,none⟩ (Iv x.r)).setCell ⟨G,q*3+2,none⟩ (.slice a x.len c)) (Qcv (G+1)) y b :=
  fun f=>((f.setCell (by simp) _).setCell (by simp) _).setCell (by simp) _
 refine⟨_,u,by simp[v],fun i y f=>?_⟩
 rw[List.getElem?_append] at f
 split at f
 ·rename_i j
  obtain⟨b,d,D,k,s,C⟩:=z i y f
  refine⟨b,d,?_,?_,?_,e C⟩
  ·simp only[Array.getElem?_setIfInBounds]
   rw[Xr (by omega),Xr (by omega),Xr (by omega)];exact D
  ·simp only[Array.getElem?_setIfInBounds]
   rw[Xr (by omega),Xr (by omega),Xr (by omega)];exact k
  ·simp only[Array.getElem?_setIfInBounds]
   rw[Xr (by omega),Xr (by omega),Xr (by omega)];exact s
 ·rename_i j
  have g:i=q:=by
   have:=(Zi f).1
   simp at this
   omega
  subst g;simp[t] at f
  subst f;refine⟨a,c,?_,?_,?_,e m⟩
  ·simp only[Array.getElem?_setIfInBounds,Array.size_setIfInBounds]
   rw[Xr (by omega),Xr (by omega),Xs Y,Xs (by omega)]
  ·simp only[Array.getElem?_setIfInBounds,Array.size_setIfInBounds]
   rw[Xr (by omega),Xs Y,Xs (by omega)]
  ·simp only[Array.getElem?_setIfInBounds,Array.size_setIfInBounds]
   rw[Xs Y,Xs (by omega)]
abbrev zeroT:Value:=.agg #[Iv 0,Iv 0,Nv]
def QgB {n:Nat}(w w':World) (o:Option (TT n)) (e:Ending):Prop:=match o with
 | some u=>∃ a' c',e=.returned (.tuple #[Tv u a' c',.bool true])/\TIn w' (Qcv w.heap.size) u a'/\Below w.heap.size w w'
 | none=>e=.returned (.tuple #[zeroT,.bool false])/\Below w.heap.size w w'
def QmH (f n:Nat):Prop:=∀ (t:TT n) (a:Option Addr) (c:Nat) (b:Option Addr) (m d:Nat) (nm:Nat->Int) (w:World),TIn w All t a->t.count<=2000->Qli w b m nm ->
 Calls prog f #[Tv t a c,.slice b m d] w fun e w'=>QgB w w' (t.ren m nm) e
theorem QhU (w:World) (len:Nat) (h:len<=2000):(Instr.makeSlice 80 (Iv len) (Iv len)).run prog w=.ok (.slice (some ⟨w.heap.size,0,none⟩) len len) (w.alloc (.cells (madeCells #[Iv 0,Iv 0,Nv] (len*3)) 105)):=by
 obtain⟨e,d,c,b,a⟩:=infoT_parts
 have:=run_make (P:=prog) w 80 105 e _ underTs d c .i64 .i64 len len (by omega) (by omega) (by rw[a];omega) (by omega)
 rw[b] at this
 exact this
structure RnX (w wr:World) (k r:Int) (a:Option Addr) (len c G:Nat){n:Nat}(l:List (TT n)):Prop where
 bx:Bx2 w wr k r a len c
 row:Qcy wr G len l
 hG:w.heap.size+1<G
section
variable {w wr w':World}{k r:Int}{a:Option Addr}{len c G n:Nat}{l:List (TT n)}
theorem RnX.start (h:Bx2 w wr k r a len c):RnX w (wr.alloc (.cells (madeCells #[Iv 0,Iv 0,Nv] (len*3)) 105)) k r a len c wr.heap.size ([]:List (TT n)) :=
 ⟨h.below ((Below.refl _ wr).alloc Ze _),⟨_,Qe wr _ _,size_madeCells _ _,fun i x b=>by simp at b⟩,XC h.res⟩
theorem RnX.below (h:RnX w wr k r a len c G l) (b:Below wr.heap.size wr w'):RnX w w' k r a len c G l:=⟨h.bx.below b,h.row.below b,h.hG⟩
theorem Bx2.setG (h:Bx2 w wr k r a len c) (b:w.heap.size+1<G) (i:Nat) (v:Value):Bx2 w (wr.setCell ⟨G,i,none⟩ v) k r a len c :=
 ⟨h.bel.setCell (by simp;omega) _,(Xd _ _ _ _ (by simp;omega)).trans h.box,(Xd _ _ _ _ (by simp;omega)).trans h.res⟩
theorem RnX.set (h:RnX w wr k r a len c G l)(b:l.length=q) (e:q<len){x:TT n}{a':Option Addr}{c':Nat}(d:TIn wr (Qcv (G+1)) x a') :
 RnX w (((wr.setCell ⟨G,q*3,none⟩ (Iv x.kind)).setCell ⟨G,q*3+1,none⟩ (Iv x.r)).setCell ⟨G,q*3+2,none⟩ (.slice a' x.len c')) k r a len c G (l++[x]) :=
 ⟨((h.bx.setG h.hG _ _).setG h.hG _ _).setG h.hG _ _,h.row.set b e d,h.hG⟩
end
theorem Qdn {a:Nat->Int}{n:Nat}{t:TT (n+1)}{r':Int}(c:ZK m a t.kind t.r=some r'){l':List (TT n)}(d:ZT (TT.ren m a) t.2.2=some l'):t.ren m a=some (mkT t.kind r' l'):=by
 show (match ZK m a t.1 t.2.1 with | none=>none | some r=>match ZT (TT.ren (n:=n) m a) t.2.2 with | none=>none | some l=>some ((t.1,r,l):Int × Int × List (TT n)))=_;have b:ZK m a t.1 t.2.1=some r':=c;rw[b,d]
 rfl
theorem Qff {a:Nat->Int}{n:Nat}{t:TT (n+1)}(c:ZK m a t.kind t.r=none):t.ren m a=none:=by
 show (match ZK m a t.1 t.2.1 with | none=>none | some r=>match ZT (TT.ren (n:=n) m a) t.2.2 with | none=>none | some l=>some ((t.1,r,l):Int × Int × List (TT n)))=_;have b:ZK m a t.1 t.2.1=none:=c;rw[b]
 rfl
theorem Qe0 {a:Nat->Int}{n:Nat}{t:TT (n+1)}(b:ZT (TT.ren m a) t.2.2=none):t.ren m a=none:=by
 show (match ZK m a t.1 t.2.1 with | none=>none | some r=>match ZT (TT.ren (n:=n) m a) t.2.2 with | none=>none | some l=>some ((t.1,r,l):Int × Int × List (TT n)))=_;rw[b]
 cases ZK m a t.1 t.2.1<;>rfl
theorem rename_any:∀ n,QmH 285 n:=by
 intro n
 induction n with
 | zero=>intro t;exact Empty.elim t
 | succ n ih =>
   intro t a c b m d s w ht ae M;have IH:Hid (QmH 285 n):=ih;have ac:Hid (Qli w b m s):=M;have hT:Hid (LIn w All t.2.2 a):=ht.list;have ab:Hid (∀ x∈t.2.2,x.count<=2000):=fun x H=>by have:=t.count_kid H;omega
   have K:t.2.2.length<=2000:=by have:=t.len_lt_count;rw[t.len_eq] at this;omega
   have L:Hid (ZK m s t.kind t.r=none->t.ren m s=none):=Qff;have S:Hid (ZT (TT.ren m s) t.2.2=none->t.ren m s=none):=Qe0;have I:Hid (∀ B h,ZK m s t.kind t.r=some B->ZT (TT.ren m s) t.2.2=some h->t.ren m s=some (mkT t.kind B h)):=fun B h h1 h2=>Qdn h1 h2;generalize t.ren m s=P at L S I |-;simp only[Tv,TT.len_eq]
   generalize t.2.2=l at hT ab K S I |-;generalize t.kind=k at L I |-;generalize t.r=r at L I |-;clear ht ae M ih t;go_enter func285,ntmps285
   go_wp2_with fail
   have X1:Hid (Bx2 w ((w.alloc (.cells #[Iv k,Iv r,.slice a l.length c] 105)).alloc (.cells #[Iv 0,Iv 0,Nv] 105)) k r a l.length c):=Bx2.start w k r a l.length c;generalize (w.alloc (.cells #[Iv k,Iv r,.slice a l.length c] 105)).alloc (.cells #[Iv 0,Iv 0,Nv] 105)=w1 at X1 |-;refine(QfZ k r a l.length c b m d s w1 (ac.out.below X1.out.bel)).mono ?_
   rintro e J ⟨hr,b2⟩;have F:Hid (Bx2 w J k r a l.length c):=X1.out.below b2;clear X1 b2;have e2:J.cell? ⟨w.heap.size,2,none⟩=some (.slice a l.length c):=Qb F.out.box 2 _ Yz
   cases hrr:ZK m s k r with
   | none =>
     rw[hrr] at hr
     obtain rfl:e=_:=hr;have z:P=none:=L.out hrr;subst z;have D:=F.out.stored 0 0 none 0 0;have DD:Hid (Below w.heap.size w _):=D.2;have g0:=Qb F.out.res 0 _ Yz;have g1:=Qb F.out.res 1 _ Yz;have g2:=Qb F.out.res 2 _ Yz;have z0:=Qj F.out.res 0;have z1:=Qj F.out.res 1;have z2:=Qj F.out.res 2;have x0:=Qb D.1 0 _ Yz;have V:=Qb D.1 1 _ Yz;have x2:=Qb D.1 2 _ Yz;clear D hrr L S I;go_wp2_with fail
     exact Xy (v:=.tuple #[zeroT,.bool false]) (by simp[results,results285,go_sem,x0,V,x2]) Yz ⟨Yz,DD.out⟩
   | some B =>
     rw[hrr] at hr
     obtain rfl:e=_:=hr;have HR:Hid (ZK m s k r=some B):=hrr;clear hrr;have af:=QhU J l.length K;have ah:w.heap.size<J.heap.size:=XC F.out.box;go_wp2_with fail
     have Y0:Hid (RnX w (J.alloc (.cells (madeCells #[Iv 0,Iv 0,Nv] (l.length*3)) 105)) k r a l.length c J.heap.size ([]:List (TT n))):=RnX.start F.out;generalize J.alloc (.cells (madeCells #[Iv 0,Iv 0,Nv] (l.length*3)) 105)=w3 at Y0 |-;generalize J.heap.size=G at Y0 |-;clear af e2 F ah;go_loopw [27] (fun i wr=>∃ q:Nat,q<=l.length/\i=Iv q/\∃ h:List (TT n),h.length=q/\(∀ (j:Nat) x,j<q->l[j]?=some x->x.ren m s=h[j]?)/\RnX w wr k r a l.length c G h) (fun i _=>l.length - (intOf i).toNat)
     case atStart=>exact⟨0,Xb _,Yz,[],Yz,fun j x hj=>by omega,Y0.out⟩
     case round =>
      clear Y0;obtain⟨q,hq,rfl,h,aa,N,hY⟩:=hrel
      have A:Hid (h.length=q/\∀ (j:Nat) x,j<q->l[j]?=some x->x.ren m s=h[j]?):=⟨aa,N⟩;have Y:Hid (RnX w wr k r a l.length c G h):=hY;clear aa N hY;by_cases U:q<l.length
      ·have H:l[q]?=some l[q]:=Zg U;generalize l[q]=x at H;obtain⟨g,o,a',c',rfl,_,d0,d1,d2,W⟩:=LIn.at (hT.out.below Y.out.bx.bel) H
       have hg:g<wr.heap.size:=Xi wr ⟨g,o+q*3,none⟩ d0;have Q:Hid (l[q]?=some x):=H
       have C:Hid (∀ wx,Below wr.heap.size wr wx->Calls prog 285 #[Tv x a' c',.slice b m d] wx fun e w'=>QgB wx w' (x.ren m s) e) :=
        fun wx hb=>IH.out x a' c' b m d s wx (W.below hb) (ab.out x (Zm H)) ((ac.out.below Y.out.bx.bel).below hb)
       clear W H;simp only[Tv] at C
       generalize x.kind=kx at C d0;generalize x.r=rx at C d1;generalize x.len=lx at C d2;have al:(0:Int)<=q:=by omega
       have ag:(q:Int)<l.length:=by omega
       have am:(q:Int)<2000:=by omega
       go_wp2_with fail
       have T:Below wr.heap.size wr (wr.alloc (.cells #[Iv kx,Iv rx,.slice a' lx c'] 105)):=(Below.refl _ wr).alloc Ze _;refine(C.out _ T).mono ?_
       rintro e w4 h4;clear C d0 d1 d2
       cases hxr:x.ren m s with
       | none =>
         rw[hxr] at h4
         obtain⟨rfl,X⟩:=h4
         have z:P=none:=S.out (Qfc Q.out hxr);subst z;have f:=(Y.out.below T).below X;have R:q*3+2<l.length*3:=by omega
         obtain⟨v0,r0⟩:=f.row.has (q*3) (by omega)
         obtain⟨v1,r1⟩:=f.row.has (q*3+1) (by omega)
         obtain⟨v2,r2⟩:=f.row.has (q*3+2) (by omega)
         have z0:=f.row.frozen (q*3);have z1:=f.row.frozen (q*3+1);have z2:=f.row.frozen (q*3+2);have X5:=((f.bx.setG f.hG (q*3) (Iv 0)).setG f.hG (q*3+1) (Iv 0)).setG f.hG (q*3+2) (Nv);have D:=X5.stored 0 0 none 0 0;have DD:Hid (Below w.heap.size w _):=D.2;have g0:=Qb f.bx.res 0 _ Yz;have g1:=Qb f.bx.res 1 _ Yz;have g2:=Qb f.bx.res 2 _ Yz;have y0:=Qj f.bx.res 0;have y1:=Qj f.bx.res 1;have y2:=Qj f.bx.res 2;have x0:=Qb D.1 0 _ Yz;have V:=Qb D.1 1 _ Yz;have x2:=Qb D.1 2 _ Yz;have aj:¬ w.heap.size+1=G:=by have:=f.hG;omega
         have ai:¬ G=w.heap.size+1:=by have:=f.hG;omega
         clear D X5 f X T hxr A Y L S I R;go_wp2_with fail
         exact Xy (v:=.tuple #[zeroT,.bool false]) (by simp[results,results285,go_sem,x0,V,x2]) Yz ⟨Yz,DD.out⟩
       | some u =>
         rw[hxr] at h4
         obtain⟨a4,c4,rfl,t4,X⟩:=h4
         simp only[Tv]
         have f:=(Y.out.below T).below X;have R:q*3+2<l.length*3:=by omega
         obtain⟨v0,r0⟩:=f.row.has (q*3) (by omega)
         obtain⟨v1,r1⟩:=f.row.has (q*3+1) (by omega)
         obtain⟨v2,r2⟩:=f.row.has (q*3+2) (by omega)
         have z0:=f.row.frozen (q*3);have z1:=f.row.frozen (q*3+1);have z2:=f.row.frozen (q*3+2);have ad:=Y.out.row.lt;have Y5:=f.set A.out.1 U (x:=u) (a':=a4) (c':=c4) (t4.mono (fun k W _=>by have:=T.size;simp at W;omega))
         have Z:Hid (∃ h:List (TT n),h.length=q+1/\(∀ (j:Nat) x,j<q+1->l[j]?=some x->x.ren m s=h[j]?)/\RnX w (((w4.setCell ⟨G,q*3,none⟩ (Iv u.kind)).setCell ⟨G,q*3+1,none⟩ (Iv u.r)).setCell ⟨G,q*3+2,none⟩ (.slice a4 u.len c4)) k r (some ⟨g,o,none⟩) l.length c G h):=by
          refine⟨h++[u],by simp[A.out.1],fun j y hj hy=>?_,Y5⟩
          by_cases e:j=q
          ·subst e;rw[Q.out] at hy
           cases hy
           rw[hxr,XQ (by have:=A.out.1;omega),A.out.1,Nat.sub_self]
           rfl
          ·rw[XP (by have:=A.out.1;omega)]
           exact A.out.2 j y (by omega) hy
         clear Y5 f X T hxr A Y L S R t4 Q ad;generalize u.kind=ku at Z |-;generalize u.r=ru at Z |-;generalize u.len=lu at Z |-;go_wp2
         go_roundw
         case rel=>exact⟨q+1,by omega,by go_num,Z.out⟩
         case measure=>simp[intOf];omega
      ·have ag:¬ (q:Int)<l.length:=by omega
       have E:h.length=l.length:=by have:=A.out.1;omega
       have z:P=some (mkT k B h):=I.out B h HR.out (ZS.2 ⟨E,fun i x H=>A.out.2 i x (by have:=(Zi H).1;omega) H⟩);subst z;have e0:wr.cell? ⟨w.heap.size,0,none⟩=some (Iv k):=Qb Y.out.bx.box 0 _ Yz;have g0:=Qb Y.out.bx.res 0 _ Yz;have g1:=Qb Y.out.bx.res 1 _ Yz;have g2:=Qb Y.out.bx.res 2 _ Yz;have y0:=Qj Y.out.bx.res 0;have y1:=Qj Y.out.bx.res 1;have y2:=Qj Y.out.bx.res 2;have D:=Y.out.bx.stored k B (some ⟨G,0,none⟩) l.length l.length;have x0:=Qb D.1 0 _ Yz;have V:=Qb D.1 1 _ Yz;have x2:=Qb D.1 2 _ Yz;have ak:=Y.out.hG
       have O:Hid (QgB w (((wr.setCell ⟨w.heap.size+1,0,none⟩ (Iv k)).setCell ⟨w.heap.size+1,1,none⟩ (Iv B)).setCell ⟨w.heap.size+1,2,none⟩ (.slice (some ⟨G,0,none⟩) l.length l.length)) (some (mkT k B h)) (.returned (.tuple #[.agg #[Iv k,Iv B,.slice (some ⟨G,0,none⟩) l.length l.length],.bool true]))):=by
        refine⟨some ⟨G,0,none⟩,l.length,?_,?_,D.2⟩
        ·show _=Ending.returned (.tuple #[.agg #[Iv k,Iv B,.slice (some ⟨G,0,none⟩) h.length l.length],.bool true]);rw[E]
        ·have:=((Y.out.row.lin.setCell (p:=⟨w.heap.size+1,0,none⟩) (by simp;omega) (Iv k)).setCell (p:=⟨w.heap.size+1,1,none⟩) (by simp;omega) (Iv B)).setCell (p:=⟨w.heap.size+1,2,none⟩) (by simp;omega) (.slice (some ⟨G,0,none⟩) l.length l.length)
         exact(LIn.tree this).mono (fun k W _=>by omega)
       clear D A Y L S I E;go_wp2_with fail
       exact Xy (v:=.tuple #[.agg #[Iv k,Iv B,.slice (some ⟨G,0,none⟩) l.length l.length],.bool true]) (by simp[results,results285,go_sem,x0,V,x2]) Yz O.out
def ZM (e:Ending) (A:Prop):Prop:=∃ q:Bool,e=.returned (.bool q)/\(q=true↔A)
theorem ZM.yes {A:Prop}(h:A):ZM (.returned (.bool true)) A:=⟨true,Z,by simp[h]⟩
theorem ZM.no {A:Prop}(h:¬ A):ZM (.returned (.bool false)) A:=⟨false,Z,by simp[h]⟩
def QiD (f:Nat) (n:Nat):Prop:=∀ (t u:TT n) (a b:Option Addr) (c d:Nat) (w:World),TIn w All t a->TIn w All u b->t.count<=100000 ->
 Calls prog f #[Tv t a c,Tv u b d] w fun e w'=>ZM e (t=u)/\Below w.heap.size w w'
theorem TT.eq_iff {t u:TT (n+1)}:t=u↔t.kind=u.kind/\t.r=u.r/\t.2.2=u.2.2:=by
 obtain⟨a,b,c⟩:=t
 obtain⟨d,e,f⟩:=u
 constructor
 ·intro h;cases h;exact⟨Z,Z,Z⟩
 ·rintro ⟨rfl,rfl,rfl⟩;rfl
abbrev toV (x:MTo) (rg ag:Option Addr) (rc ac:Nat):Value:=.agg #[Iv x.block,.slice rg x.regs.length rc,.slice ag x.args.length ac]
theorem underBk:∃ fs,prog.underlying 86=some (.struct fs):=⟨_,underlying86⟩
theorem sizeBk:(prog.info? 86).map (·.size)=some 12:=by kernel_rfl
theorem Qbo {m:List (MBlock 6)}(h:(Zp 6).list.In w Q m [.slice p n c]){g:MBlock 6}(B:m[k]?=some g) :
 ∃ mg mo a1 c1 es,p=some ⟨mg,mo,none⟩/\w.rangeAt mg (mo+k*12) (Iv g.regs::.slice a1 g.params.length c1::es)/\es.length=10/\(Qp 6).In w Q g.params [.slice a1 g.params.length c1]/\∀ v∈es,v.oneCell'=true:=by
 obtain⟨mg,mo,I,u,G,O,d,r⟩:=Yf h B
 obtain⟨a1,c1,J,c2,es,rfl,E,S,q,H⟩:=Qcc r
 obtain⟨K,X,L,M,rfl,l,A,T,h6⟩:=QgI q
 obtain⟨V,F,u3,R,rfl,-,-,-⟩:=QfS l
 obtain⟨W,N,P,U,rfl,-,-,-⟩:=QfS A
 have f:∀ a,a.length=12->(∀ v∈a,v.oneCell'=true)->(∀ j,j<12->w.cell? ⟨mg,mo+k*12+j,none⟩=a[j]?)->∀ x y es,a=x::y::es->w.rangeAt mg (mo+k*12) (x::y::es)/\es.length=10/\∀ v∈es,v.oneCell'=true:=by
  intro a z s d x y es e;subst e;refine⟨fun j v i=>?_,by simpa using z,fun v b=>s v (by simp[b])⟩
  have o:=(Zi i).1;rw[d j (by omega),i]
 obtain⟨t,D,C⟩:=f _ Z (fun v b=>by
  simp only[List.mem_cons,List.cons_append,List.nil_append,List.not_mem_nil,or_false] at b
  rcases b with rfl | rfl | rfl | rfl | rfl | rfl | rfl | rfl | rfl | rfl | rfl | rfl<;>rfl) d _ _ _ Z
 exact⟨mg,mo,a1,c1,_,u,t,D,E,C⟩
theorem Qae {o:Nat}(h:w.rangeAt b o cs) (k:Below w.heap.size w w'):w'.rangeAt b o cs:=fun j v a=>Qk (h j v a) k
theorem Qf {p:Prop}(h:p):Hid p:=h
structure FbS (w wx:World) (R:Nat) (l:List (Nat × Array Value × TypeId)):Prop where
 bel:Below w.heap.size w wx
 ge:w.heap.size<=R
 r:Blk wx R #[Iv 0,Iv 0] 32
 box:∀ (i:Nat) b,l[i]?=some b->Blk wx b.1 b.2.1 b.2.2
section
variable {w wx w':World}{R:Nat}{l:List (Nat × Array Value × TypeId)}
theorem FbS.below (h:FbS w wx R l) (k:Below wx.heap.size wx w'):FbS w w' R l :=
 ⟨h.bel.trans (k.mono h.bel.size),h.ge,h.r.below k,fun i b a=>(h.box i b a).below k⟩
theorem FbS.add (h:FbS w wx R l){c:Array Value}(d:Blk wx B c t):FbS w wx R ((B,c,t)::l) :=
 ⟨h.bel,h.ge,h.r,fun i b a=>by
  cases i with
  | zero=>cases a;exact d
  | succ i=>exact h.box i b a⟩
theorem FbS.new (h:FbS w wx R l) (c:Array Value) (t:TypeId):FbS w (wx.alloc (.cells c t)) R ((wx.heap.size,c,t)::l):=(h.below (Zd _ _)).add (Blk.new _ _ _)
theorem FbS.cells (h:FbS w wx R l):wx.cell? ⟨R,0,none⟩=some (Iv 0)/\wx.cell? ⟨R,1,none⟩=some (Iv 0)/\wx.frozen? ⟨R,0,none⟩=false/\wx.frozen? ⟨R,1,none⟩=false :=
 ⟨Qb h.r 0 _ Z,Qb h.r 1 _ Z,Qj h.r 0,Qj h.r 1⟩
theorem FbS.fin (h:FbS w wx R l) (c a:Int):Blk ((wx.setCell ⟨R,0,none⟩ (Iv c)).setCell ⟨R,1,none⟩ (Iv a)) R #[Iv c,Iv a] 32/\Below w.heap.size w ((wx.setCell ⟨R,0,none⟩ (Iv c)).setCell ⟨R,1,none⟩ (Iv a)) :=
 ⟨by have:=Qh (Qh h.r 0 (Iv c)) 1 (Iv a);simpa using this,(h.bel.setCell (p:=⟨R,0,none⟩) h.ge _).setCell (p:=⟨R,1,none⟩) h.ge _⟩
structure Qm3 (wx:World) (cs:List Value):Prop where
 size:(prog.info? 86).map (·.size)=some cs.length
 size2:(prog.info? 86).map (·.size)=some cs.toArray.size
 there:(wx.alloc (.cells #[Iv 0,Nv,Nv,Iv 0,Iv 0,Iv 0,Nv,Nv,Iv 0,Nv,Nv,Nv] 86)).there wx.heap.size 0 cs.toArray.size
 blk:Blk ((wx.alloc (.cells #[Iv 0,Nv,Nv,Iv 0,Iv 0,Iv 0,Nv,Nv,Iv 0,Nv,Nv,Nv] 86)).setCells wx.heap.size 0 cs) wx.heap.size cs.toArray 86
 bel:Below wx.heap.size wx ((wx.alloc (.cells #[Iv 0,Nv,Nv,Iv 0,Iv 0,Iv 0,Nv,Nv,Iv 0,Nv,Nv,Nv] 86)).setCells wx.heap.size 0 cs)
theorem Qm3.of (a:World)(c:cs.length=12):Qm3 a cs:=by
 have d:=Qe a #[Iv 0,Nv,Nv,Iv 0,Iv 0,Iv 0,Nv,Nv,Iv 0,Nv,Nv,Nv] 86;refine⟨by rw[c];exact pSizeB,by rw[List.size_toArray,c];exact pSizeB,fun j hj=>?_,?_,?_⟩
 ·rw[List.size_toArray,c] at hj
  rw[XK]
  refine⟨?_,Qj d j⟩
  rw[Qb d j ((#[Iv 0,Nv,Nv,Iv 0,Iv 0,Iv 0,Nv,Nv,Iv 0,Nv,Nv,Nv]:Array Value)[j]'hj) (by simp)];rfl
 ·have e:Blk (a.alloc (.cells #[Iv 0,Nv,Nv,Iv 0,Iv 0,Iv 0,Nv,Nv,Iv 0,Nv,Nv,Nv] 86)) a.heap.size ([]++(#[Iv 0,Nv,Nv,Iv 0,Iv 0,Iv 0,Nv,Nv,Iv 0,Nv,Nv,Nv]:Array Value).toList).toArray 86:=d;exact Blk.sets cs [] (#[Iv 0,Nv,Nv,Iv 0,Iv 0,Iv 0,Nv,Nv,Iv 0,Nv,Nv,Nv]:Array Value).toList _ (by rw[c];rfl) e
 ·have:=Qz.setCells (O:=fun k=>k=a.heap.size) (O':=fun k=>k=a.heap.size) (b:=a.heap.size) Z cs 0 _ (Qz.refl _ (a.alloc (.cells #[Iv 0,Nv,Nv,Iv 0,Iv 0,Iv 0,Nv,Nv,Iv 0,Nv,Nv,Nv] 86)))
  exact(Zd a _).trans (this.below (by simp) (fun k f=>by omega))
end
theorem underEnd:∃ fs,prog.underlying 84=some (.struct fs):=⟨_,underlying84⟩
theorem sizeEnd:(prog.info? 84).map (·.size)=some 9:=by kernel_rfl
abbrev QbV (x:ZA) (e:EP):Array Value:=#[Iv x.op,Iv x.a,Iv x.yes.block,.slice e.pYR x.yes.regs.length e.cYR,.slice e.pYA x.yes.args.length e.cYA,Iv x.no.block,.slice e.pNR x.no.regs.length e.cNR,.slice e.pNA x.no.args.length e.cNA,.slice e.pA x.args.length e.cA]
structure Qdl (w:World) (Q:Nat->Prop) (x:ZA) (e:EP):Prop where
 yr:intsL.In w Q x.yes.regs [.slice e.pYR x.yes.regs.length e.cYR]
 ya:intsL.In w Q x.yes.args [.slice e.pYA x.yes.args.length e.cYA]
 nr:intsL.In w Q x.no.regs [.slice e.pNR x.no.regs.length e.cNR]
 na:intsL.In w Q x.no.args [.slice e.pNA x.no.args.length e.cNA]
 ar:intsL.In w Q x.args [.slice e.pA x.args.length e.cA]
theorem Qdl.below {x:ZA}{e:EP}(h:Qdl w Q x e) (k:Below w.heap.size w w'):Qdl w' Q x e :=
 ⟨Ya h.yr k,Ya h.ya k,Ya h.nr k,Ya h.na k,Ya h.ar k⟩
theorem QaB {a:Nat}{t:MTo}(h:t.form a true=0):(0<=t.block/\t.block<a)/\t.regs.length<=16/\t.args.length<=8:=by
 unfold MTo.form at h;rw[Xr (by simp)] at h
 split at h
 ·cases h
 split at h
 ·cases h
 omega
theorem Xt:type_of% @decide_eq_true:=@decide_eq_true
section
variable {w w' w2:World}{b most n:Nat}{m:List (MFunc 6)}{M M' N:IM}{sc sa:Int}{g g1:MG}{e:Ending}
theorem Qet {a:Nat}{t:MTo}(h:t.form a true=0):0<=t.block/\t.block<(a:Int)/\t.regs.length<=16/\t.args.length<=8:=by
 unfold MTo.form at h;rw[Xr (by simp)] at h
 split at h
 ·cases h
 ·split at h
  ·cases h
  ·omega
theorem Qe9 {a:Nat}{x:ZA}(h:x.form a=0):(1<=x.op/\x.op<=3)/\x.args.length<=8/\(x.op≠3->x.yes.form a true=0)/\(x.op=2->x.no.form a true=0):=by
 unfold ZA.form at h;split at h
 ·cases h
 rename_i c
 split at h
 ·cases h
 split at h
 ·cases h
 rename_i d
 split at h
 ·rename_i b;exact absurd h b
 rename_i b
 refine⟨by omega,by omega,fun e=>?_,fun e=>?_⟩
 ·have:decide (x.op≠3)=true:=Xt e
  rw[this] at b
  exact Xq.1 b
 ·have:decide (x.op=2)=true:=Xt e
  rw[this] at h
  exact h
end
end Go.Proofs.YtjhdpajpibdnaafGreat
