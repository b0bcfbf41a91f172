import Derived.Test.YtiebmclhgebhpafGreatP1
import Derived.Maps.OwnSet
import Derived.BigQuiet
import Derived.RegionTactic
import Derived.Deep.Cut
import Derived.Lib.MinMax
import Derived.Laws.CopyRow
import Derived.Laws.CopyOwn
import Derived.Deep.RegionLaw
import Derived.Maps.AppendAt
set_option maxHeartbeats 16000000
set_option maxRecDepth 100000
namespace Go.Proofs.YtiebmclhgebhpafGreat
open Go.ChangeShapes Go.WideShapes Go.ChangeAt Go.RowKit _root_.Go.Proofs.Tryz
set_option linter.unusedSimpArgs false
set_option linter.unusedVariables false
variable {w w' w6 w2 wc wr w1:World}{n b c X k m i B rc ac g cm N j fi bi bh R f q id cap most na ca fm d x fl cR rl al fc fd cA bl pages o ci lm cL fe:Nat}{O O' Q2 OO:Nat→Prop}{a p ag pm pa pR pA ra pi aa fp fq:Option Addr}{v u:Value}{Q:Exit→Act→World→Prop}{l inp:List Int}{t bt e:TypeId}{xa xc xb xk fr words xop xn:Int}{P:Program}{cs xs ds:List Value}{bs:List Bool}{ops:Array Oper}
theorem Qfd {α:Type}{f a:α->Option α}:∀ {l l':List α},(∀ x∈l,∀ u,f x=some u->a x=some u)->Qal f l=some l'->Qal a l=some l'
 | [],l',_,h=>by simp[Qal] at h;subst h;rfl
 | x::xs,l',hx,h=>by
   simp only[Qal] at h
   cases h1:f x with
   | none=>simp[h1] at h
   | some y =>
     simp only[h1] at h
     cases h2:Qal f xs with
     | none=>simp[h2] at h
     | some ys =>
       simp only[h2] at h
       cases h
       simp only[Qal,hx x (by simp) y h1,Qfd (fun z b=>hx z (by simp[b])) h2]
theorem TT.ren_more {m b:Nat}{d a:Nat->Int}(c:∀ k r r',Qah m d k r=some r'->Qah b a k r=some r'):{n:Nat}->{t u:TT n}->t.ren m d=some u->t.ren b a=some u
 | 0,t,_,_=>Empty.elim t
 | n+1,t,u,h=>by
   obtain⟨f,i,g⟩:=Zx h
   rw[Qai (c _ _ _ i) (Qfd (fun x _ v e=>TT.ren_more c e) g),<-f]
   rfl
section
variable {m:List (MFunc 6)}{g g':Sig}{M M':IM}{fn:MFunc 6}{bl:MBlock 6}{s:JSt}{x:Qx}{op:Int->Int->Int->Option Int}{h:Qc}{v:List Qk}{r:List Int}
theorem Qjy (I:Inv m g M fn bl s) (hx:bl.code[M.top.i]?=some x) (G:s.code x=0) (C:x.op=4):Qcf m op M x:=by
 obtain⟨t,j,P,tk,X,N,R,S⟩:=Qi3 G C
 have B:=(Q9 G).2.1;rw[Z2 C,P] at B
 simp only at B
 obtain⟨ha,Q⟩:=QH B
 have E:s.f.regs<=j:=by
  by_cases e:t.r<s.f.regs
  ·rw[Xs e] at Q;cases Q
  ·omega
 obtain⟨a,t',u,J,e2,e3,e4,e5,e6,e7,e8⟩:=I.fr.want ha
 rw[P] at J;cases J
 obtain⟨p,W⟩:=e8 Z (by omega)
 have n:a.region=u.r:=by
  rcases e4 with ⟨c1,-⟩|⟨-,-,c⟩|⟨-,-,c,-⟩
  ·omega
  ·exact c
  ·exact c
 obtain⟨q1,q2,q3⟩:=QlO e3 (by omega)
 have y:u.r=M.top.r.getD j 0:=by rw[q3,X];rfl
 have w:M.h.at a=some p:=by unfold Qc.at;rw[Xs e5,n];exact W
 obtain⟨-,hq,i,K,hL,aa⟩:=Qc.at_some w
 have q:M.h.shut a=(true,⟨M.h.L.set a.region.toNat noP,M.h.left+p.pages⟩):=by unfold Qc.shut;rw[w]
 have o:∀ k:Int,k≠u.r->(M.h.shut a).2.place k=M.h.place k:=fun k b=>by
  rw[q];simp only
  rw[Qc.place_set (by rw[K];exact(Zi hL).1),Xr (fun e=>b (by rw[e,<-n,K];simp))]
 unfold Qcf;rw[Qbn (by omega)]
 unfold IM.mem;have A:QE M.one.top.v x.a=some a:=e2;rw[A]
 simp only
 rw[Xs C]
 show ∃ M',(if (M.h.shut a).1 then some { M.one with h:=(M.h.shut a).2 } else none)=some M'/\Qce m M';rw[Xs (by rw[q])]
 refine⟨_,Z,.inr ⟨g,fn,bl,_,I.on hx Z Z Z Z ?_ (I.st.shut a) ?_⟩⟩
 ·rw[S]
  have d:∀ k,(s.H.set j false).getD k false=true->k≠j/\s.H.getD k false=true:=fun k b=>by
   by_cases e:k=j
   ·subst e;simp[List.getD,N] at b
   ·refine⟨e,?_⟩
    simpa[List.getD,List.getElem?_set_ne (Ne.symm e)] using b
  refine⟨by simpa using I.fr.rl,I.fr.pos,fun k b=>?_,fun k l b U=>I.fr.dist k l (d k b).2 (d l U).2,I.fr.vl,I.fr.val⟩
  obtain⟨k1,F⟩:=d k b
  obtain⟨p',z⟩:=I.fr.held k F
  exact⟨p',by rw[o _ (fun e=>k1 (I.fr.dist k j F R (by rw[e,y])))];exact z⟩
 ·rw[S]
  refine I.stk.keep (fun _ _ _ h=>h) (fun k b D=>?_) (fun k b=>?_) (fun k _=>rfl)
  ·have:k≠u.r:=fun e=>b ⟨j,R,E,by rw[e,y]⟩
   show ∃ p,(M.h.shut a).2.place k=some p;rw[o k this];exact D
  ·obtain⟨l,O,T,V⟩:=b
   refine .inl ⟨l,?_,T,V⟩;by_cases e:l=j
   ·subst e;simp[List.getD,N] at O
   ·simpa[List.getD,List.getElem?_set_ne (Ne.symm e)] using O
theorem Qkn (I:Inv m g M fn bl s) (hx:bl.code[M.top.i]?=some x) (hc:s.code x=0) (W:x.op=3) (hJ:s.f.regs<=s.H.length):Qcf m op M x:=by
 have S:=Qbs (s:=s) W;have h0:=(Q9 hc).2.1;have X:¬ s.H.length=16:=fun e=>by rw[S,Xs e] at h0;cases h0
 rw[Xr X] at S
 unfold Qcf IM.ins;rw[Xr (by omega),Xr (by omega),Xs W]
 show ∃ M',(if M.h.open_.2.1 then some (IM.push { M.one with h:=M.h.open_.2.2,top:={ M.one.top with r:=M.top.r++[M.h.open_.1.region] } } [M.h.open_.1]) else some (M.one.over 6))=some M'/\Qce m M';by_cases ho:16<=M.h.live
 ·have:M.h.open_.2.1=false:=by unfold Qc.open_;rw[Xs ho]
  rw[Xr (by rw[this];decide)]
  exact⟨_,Z,IM.over_good _ _ _⟩
 ·have R:M.h.open_=(⟨2,M.h.L.length,0,0⟩,true,{ M.h with L:=M.h.L++[newP] }):=by unfold Qc.open_;rw[Xr ho]
  rw[Xs (by rw[R])]
  have E:M.h.open_.1.region=(M.h.L.length:Int):=by rw[R]
  have G:∀ k:Int,M.h.open_.2.2.place k=if k=M.h.L.length then some newP else M.h.place k:=fun k=>by
   rw[R];exact Qc.place_push M.h newP k M.h.left
  have o:∀ k p,M.h.place k=some p->∃ p,M.h.open_.2.2.place k=some p:=fun k p e=>by
   rw[G];split
   ·exact⟨_,Z⟩
   ·exact⟨p,e⟩
  have n:M.h.place (M.h.L.length:Int)=none:=by
   rw[Qc.place_nat,Xk Ze]
  have w:(s.next x).H=s.H++[true]:=by unfold JSt.next;simp only;rw[Xs W]
  have K:(s.next x).L=s.L++[mkT 2 s.H.length []]:=by unfold JSt.next;simp only;rw[S]
  have C:=I.fr.rl
  have d:∀ k,k<s.H.length->(M.top.r++[(M.h.L.length:Int)]).getD k 0=M.top.r.getD k 0:=fun k c=>by
   simp[List.getD,List.getElem?_append_left (show k<M.top.r.length by omega)]
  have l:(M.top.r++[(M.h.L.length:Int)]).getD s.H.length 0=M.h.L.length:=by
   simp[List.getD,<-C]
  have z:∀ k,(s.H++[true]).getD k false=true->(k<s.H.length/\s.H.getD k false=true)\/k=s.H.length:=fun k c=>by
   rcases Nat.lt_trichotomy k s.H.length with e | e | e
   ·refine .inl ⟨e,?_⟩;simpa[List.getD,List.getElem?_append_left e] using c
   ·exact .inr e
   ·rw[QbP _ (by simp;omega)] at c;cases c
  have D:∀ {t u:TT 6},rtm M.top.r t=some u->rtm (M.top.r++[(M.h.L.length:Int)]) t=some u:=fun {t u} hu=>by
   refine TT.ren_more (fun k q q' A=>?_) hu;unfold Qah at A |-;by_cases c:k=1
   ·rw[Xs c] at A |-;exact A
   ·rw[Xr c] at A |-
    by_cases hb:q<0\/(M.top.r.length:Int)<=q
    ·rw[Xs hb] at A;cases A
    ·rw[Xr hb] at A
     rw[Xr (by simp;omega)]
     have e:=d q.toNat (by omega);simp only at A |-
     rw[e]
     exact A
  refine⟨_,Z,.inr ⟨g,fn,bl,_,I.on hx Z Z Z Z ?_ I.st.open ?_⟩⟩
  ·show FrT g M.h.open_.2.2 (s.next x) (M.top.v++[M.h.open_.1]) (M.top.r++[M.h.open_.1.region]);rw[E]
   refine⟨by rw[w];simp[C],fun k c=>?_,fun k c=>?_,fun j k hj c e=>?_,by rw[K];simp[I.fr.vl],fun j t y B F=>?_⟩
   ·rcases List.mem_append.1 c with e | e
    ·exact I.fr.pos k e
    ·simp at e;omega
   ·rw[w] at c
    rcases z k c with ⟨e1,e2⟩ | e
    ·rw[d k e1];obtain⟨p,O⟩:=I.fr.held k e2;exact o _ p O
    ·rw[e,l,G,Xs Z];exact⟨_,Z⟩
   ·rw[w] at hj c
    have N:∀ i,s.H.getD i false=true->i<s.H.length->M.top.r.getD i 0≠(M.h.L.length:Int):=fun i hi hl e=>by
     obtain⟨p,O⟩:=I.fr.held i hi
     rw[e,n] at O;cases O
    rcases z j hj with ⟨J,Q⟩ | a<;>rcases z k c with ⟨V,b2⟩ | b
    ·rw[d j J,d k V] at e;exact I.fr.dist j k Q b2 e
    ·rw[d j J,b,l] at e;exact absurd e (N j Q J)
    ·rw[d k V,a,l] at e;exact absurd e.symm (N k b2 V)
    ·rw[a,b]
   ·rw[K] at B
    rcases Nat.lt_or_ge j s.L.length with e | e
    ·rw[XP e] at B
     rw[XP (by rw[I.fr.vl];exact e)] at F
     obtain⟨u,u1,u2⟩:=I.fr.val j t y B F
     exact⟨u,D u1,u2⟩
    ·rw[XQ e] at B
     rw[XQ (by rw[I.fr.vl];exact e),I.fr.vl] at F
     have U:j - s.L.length=0:=by have:=(Zi B).1;simp at this;omega
     rw[U] at B F
     simp at B F
     subst B F;refine⟨mkT 2 (M.h.L.length:Int) [],?_,.inr (.inl ⟨Z,by rw[R],by rw[E];rfl⟩)⟩
     refine Qai (t:=(mkT 2 (s.H.length:Int) []:TT 6)) ?_ Z;show Qah _ _ 2 (s.H.length:Int)=_;unfold Qah;rw[Xr (by decide),Xr (by simp[C];omega)]
     simp only[Int.toNat_natCast]
     rw[l,Xr (by omega)]
  ·show Stk m g M.h.open_.2.2 (Own (s.next x) (M.top.r++[M.h.open_.1.region])) fn M.top.f (M.top.r++[M.h.open_.1.region]) M.rest;rw[E]
   have T:=I.mf.2;refine I.stk.keep (fun _ _ _ h=>h) (fun k _ ⟨p,e⟩=>o k p e) (fun k c=>?_) (fun k c=>?_)
   ·obtain⟨j,j1,j2,P⟩:=c
    rw[w] at j1
    rcases z j j1 with ⟨J,Q⟩ | a
    ·rw[d j J] at P;exact .inl ⟨j,Q,j2,P⟩
    ·rw[a,l] at P;exact .inr (by rw[<-P];exact n)
   ·rcases Nat.lt_or_ge k s.H.length with e | e
    ·exact d k e
    ·rw[<-T] at c;omega
theorem QfS (F:FrT g h s v r):∀ {l:List Int},(∀ k∈l,Qa7 s.H k=true)->∃ r',Zs r l=some r'/\r'.length=l.length/\(∀ j,j<l.length->r'.getD j 0=r.getD (l.getD j 0).toNat 0)/\∀ k∈r',0<=k
 | [],_=>⟨[],Z,Z,fun j c=>by simp at c,fun k b=>by simp at b⟩
 | k::l,hl=>by
   obtain⟨r',i,o,m,f⟩:=QfS F (l:=l) (fun z d=>hl z (by simp[d]))
   have b:=hl k (by simp);unfold Qa7 at b;simp only[Bool.and_eq_true,decide_eq_true_eq] at b
   have a:k.toNat<r.length:=by
    rw[F.rl]
    rcases Nat.lt_or_ge k.toNat s.H.length with e | e
    ·exact e
    ·rw[QbP _ e] at b;exact absurd b.2 (by decide)
   have n:Qge r k=some r[k.toNat]:=by unfold Qge;rw[Xr (by omega)];exact Zg a
   refine⟨r[k.toNat]::r',by simp only[Zs,n,i],by simp[o],fun j c=>?_,fun z d=>?_⟩
   ·cases j with
    | zero=>simp[List.getD,Zg a]
    | succ j=>have:=m j (by simpa using c);simpa[List.getD] using this
   ·rcases List.mem_cons.1 d with e | e
    ·rw[e];exact F.pos _ (List.getElem_mem a)
    ·exact f z e
theorem QeD {r r':List Int}(v:n<=l.length) (g:n<=r'.length) (p:∀ j,j<n->0<=l.getD j 0/\(l.getD j 0).toNat<r.length) (o:∀ k∈r,0<=k) (h:∀ j,j<n->r'.getD j 0=r.getD (l.getD j 0).toNat 0){t d:TT 6}(f:t.ren n (fun i=>l.getD i 0)=some d):∃ u,rtm r d=some u/\t.ren n (fun i=>r'.getD i 0)=some u:=by
 refine TT.ren_comp (fun k q x a=>?_) f;unfold Qah at a;by_cases b:k=1
 ·rw[Xs b] at a;cases a
  exact⟨q,by unfold Qah;rw[Xs b],by unfold Qah;rw[Xs b]⟩
 ·rw[Xr b] at a
  by_cases c:q<0\/(n:Int)<=q
  ·rw[Xs c] at a;cases a
  ·rw[Xr c] at a
   obtain⟨w,e⟩:=p q.toNat (by omega)
   have m:=h q.toNat (by omega);simp only at a
   rw[Xr (by omega)] at a
   cases a
   have s:0<=r.getD (l.getD q.toNat 0).toNat 0:=by
    have:r.getD (l.getD q.toNat 0).toNat 0=r[(l.getD q.toNat 0).toNat]:=by rw[List.getD_eq_getElem?_getD,Zg e];rfl
    rw[this];exact o _ (List.getElem_mem e)
   refine⟨r.getD (l.getD q.toNat 0).toNat 0,?_,?_⟩
   ·unfold Qah;rw[Xr b,Xr (by omega)]
    simp only
    rw[Xr (by omega)]
   ·unfold Qah;rw[Xr b,Xr c]
    simp only
    rw[m,Xr (by omega)]
theorem QgL (F:FrT g h s v r){l:List Int}:∀ {a:List Int}{ts:List (TT 6)},a.length=ts.length->QD (fun p:Int × TT 6=>s.arg l p.1 p.2) (a.zip ts)=0->∃ xs,Qq v a=some xs/\xs.length=ts.length/\∀ (j:Nat) (y:Qk) (t:TT 6),xs[j]?=some y->ts[j]?=some t->∃ us u,t.ren l.length (fun i=>l.getD i 0)=some us/\rtm r us=some u/\Qew g y u
 | [],ts,hl,h0=>by
   have:ts=[]:=Xf.1 hl.symm
   subst this;exact⟨[],Z,Z,fun j y t c=>by simp at c⟩
 | k::a,[],hl,h0=>by simp at hl
 | k::a,t::ts,hl,h0=>by
   have m:=QP.1 h0;obtain⟨xs,n,B,x⟩:=QgL F (a:=a) (ts:=ts) (by simpa using hl) (QP.2 (fun p z=>m p (by simp[z])))
   have b:s.arg l k t=0:=m (k,t) (by simp);unfold JSt.arg at b
   cases ek:s.at k with
   | none=>rw[ek] at b;cases b
   | some us =>
     rw[ek] at b
     simp only at b
     by_cases f:bdec (t.ren l.length (fun i=>l.getD i 0)=some us)=true
     ·have e:t.ren l.length (fun i=>l.getD i 0)=some us:=by simpa[bdec] using f
      obtain⟨y,u,o,q,w⟩:=F.at ek
      refine⟨y::xs,by simp only[Qq,o,n],by simp[B],fun j A C c d=>?_⟩
      cases j with
      | zero=>simp at c d;subst c d;exact⟨us,u,e,q,w⟩
      | succ j=>exact x j A C (by simpa using c) (by simpa using d)
     ·rw[Xr f] at b;cases b
theorem Qcc (hn:n<=16) (k:Nat):(QcT (n:Int)).getD k false=true↔k<n:=by
 unfold QcT
 have:(min (n:Int) 16).toNat=n:=by omega
 rw[this]
 rcases Nat.lt_or_ge k n with e | e
 ·simp[List.getD,e]
 ·simp[List.getD,e]
theorem FrT.hand (F:FrT g h s v r){a:List Int}{ts:List (TT 6)}(o:l.length<=16) (A:∀ k∈l,Qa7 s.H k=true) (q:l.Nodup) (w:s.args a ts l=0) (I:List (MFunc 6)) (O:MFunc 6) :
 ∃ r' v',Zs r l=some r'/\Qq v a=some v'/\r'.length=l.length/\v'.length=ts.length/\(∀ j,j<l.length->r'.getD j 0=r.getD (l.getD j 0).toNat 0)/\FrT g h ⟨I,O,QcT (l.length:Int),ts⟩ v' r':=by
 obtain⟨r',K,C,x,M⟩:=QfS F A
 unfold JSt.args at w;by_cases i:a.length=ts.length
 ·rw[Xs i] at w
  obtain⟨v',N,B,T⟩:=QgL F i w
  have d:∀ j,j<l.length->0<=l.getD j 0/\s.H.getD (l.getD j 0).toNat false=true/\(l.getD j 0).toNat<r.length:=fun j p=>by
   have G:l.getD j 0∈l:=by simp only[List.getD,Zg p,Option.getD_some];exact List.getElem_mem p
   have m:=A _ G;unfold Qa7 at m;simp only[Bool.and_eq_true,decide_eq_true_eq] at m
   refine⟨m.1,m.2,?_⟩
   rw[F.rl]
   rcases Nat.lt_or_ge (l.getD j 0).toNat s.H.length with e | e
   ·exact e
   ·have D:=m.2;rw[QbP _ e] at D;cases D
  refine⟨r',v',K,N,C,B,x,⟨?_,M,fun k m=>?_,fun j k p m e=>?_,B,fun j t y S P=>?_⟩⟩
  ·show r'.length=(QcT (l.length:Int)).length
   have:=Qev (n:=(l.length:Int)) ⟨by omega,by omega⟩
   omega
  ·have b:=(Qcc o k).1 m;rw[x k b]
   exact F.held _ (d k b).2.1
  ·have f:=(Qcc o j).1 p;have b:=(Qcc o k).1 m;rw[x j f,x k b] at e
   have:=F.dist _ _ (d j f).2.1 (d k b).2.1 e
   have z:l.getD j 0=l.getD k 0:=by have:=(d j f).1;have:=(d k b).1;omega
   simp only[List.getD,Zg f,Zg b,Option.getD_some] at z
   rcases Nat.lt_trichotomy j k with c | c | c
   ·exact absurd z (List.pairwise_iff_getElem.1 q j k f b c)
   ·exact c
   ·exact absurd z.symm (List.pairwise_iff_getElem.1 q k j b f c)
  ·obtain⟨V,u,J,E,R⟩:=T j y t P S
   obtain⟨U,L,Q⟩:=QeD Ze (by omega) (fun j p=>⟨(d j p).1,(d j p).2.2⟩) F.pos x J
   rw[L] at E;cases E
   exact⟨_,by show t.ren r'.length _=_;rw[C];exact Q,R⟩
 ·rw[Xr i] at w;cases w
theorem QbF {H:List Bool}:∀ {l ahead:List Int},QW H ahead l=0->l.Nodup/\∀ k∈l,k ∉ ahead
 | [],_,_=>⟨by simp,fun k a=>by simp at a⟩
 | k::l,ahead,h=>by
   simp only[QW] at h
   split at h
   ·split at h
    ·cases h
    ·rename_i f
     obtain⟨d,c⟩:=QbF h
     refine⟨List.nodup_cons.2 ⟨fun a=>c k a (by simp),d⟩,fun z g=>?_⟩
     rcases List.mem_cons.1 g with e | e
     ·rw[e];exact fun b=>f (Qc7.2 b)
     ·exact fun b=>c z e (by simp[b])
   ·cases h
theorem Qdp {H:List Bool}:∀ {l ahead:List Int},Qaa H ahead l=0->l.Nodup/\(∀ k∈l,k ∉ ahead)/\∀ k∈l,Qa7 H k=true
 | [],_,_=>⟨by simp,fun k a=>by simp at a,fun k a=>by simp at a⟩
 | k::l,ahead,h=>by
   simp only[Qaa] at h
   split at h
   ·rename_i b
    split at h
    ·cases h
    ·rename_i j
     obtain⟨g,f,i⟩:=Qdp h
     refine⟨List.nodup_cons.2 ⟨fun a=>f k a (by simp),g⟩,fun z d=>?_,fun z d=>?_⟩
     ·rcases List.mem_cons.1 d with e | e
      ·rw[e];exact fun c=>j (Qc7.2 c)
      ·exact fun c=>f z e (by simp[c])
     ·rcases List.mem_cons.1 d with e | e
      ·rw[e];exact b
      ·exact i z e
   ·cases h
theorem Z5 (d:(modFault m).1=0){f:MFunc 6}(n:m[k]?=some f):∃ b,f.blocks[0]?=some b/\b.regs=f.regs/\b.params=f.params/\f.right m.length/\(k=0->f.regs=0/\f.params.length=0/\∀ t∈f.results,t.kind=1):=by
 have i:=(Zk d).2 f (Zm n);obtain⟨b,j⟩:∃ b,f.blocks[0]?=some b:=⟨_,Zg i.many.1⟩
 unfold modFault at d;split at d
 ·cases d
 have a:=Zq d k f n;rw[XK] at a
 unfold MFunc.fault at a;split at a
 ·cases a
 split at a
 ·rename_i c;exact absurd a c
 split at a
 ·rename_i c;exact absurd a c
 split at a
 ·cases a
 split at a
 ·cases a
 rename_i h
 have c:=Zq a 0 b j;simp only[Nat.zero_add] at c
 unfold MBlock.fault at c;split at c
 ·cases c
 split at c
 ·rename_i q;exact absurd c q
 split at c
 ·cases c
 rename_i l
 have g:b.regs=f.regs/\Qbr b.params f.params=true:=by
  constructor
  ·exact Xq.1 fun e=>l ⟨Z,.inl e⟩
  ·cases e:Qbr b.params f.params with
   | true=>rfl
   | false=>exact absurd ⟨Z,.inr e⟩ l
 refine⟨b,j,g.1,Qbm.1 g.2,i,fun p=>?_⟩
 have:f.regs=0/\f.params.length=0/\f.results.all (fun t=>t.kind==1)=true:=Xq.1 fun e=>h ⟨p,e⟩
 refine⟨this.1,this.2.1,fun t o=>?_⟩
 have:=Xe.1 this.2.2 t o
 simpa using this
theorem QiN (P:(modFault m).1=0) (I:Inv m g M fn bl s) (D:bl.code[M.top.i]?=some x) (H:s.code x=0) (e:x.op=14):Qcf m op M x:=by
 obtain⟨a,l,-⟩:=Q9 H
 have w:0<=x.k/\x.k<m.length/\x.regs.length<=6:=by
  rw[I.mf.1] at a
  unfold Qx.form at a;repeat' split at a
  all_goals first | omega | cases a
 obtain⟨d,c⟩:∃ d,m[x.k.toNat]?=some d:=⟨_,Zg (by omega)⟩
 rw[QaN e,I.mf.1,c] at l
 simp only at l
 by_cases p:(x.regs.length:Int)=d.regs
 ·rw[Xs p] at l
  obtain⟨B,R⟩:=QH l
  obtain⟨f,q,A,O,V,-⟩:=Z5 P c
  obtain⟨z,C,K,J,U,Q,S,F⟩:=I.fr.hand (by omega) (ZS B) (QbF B).1 R m d
  unfold Qcf IM.ins;rw[Xr (by omega),Xr (by omega),Xr (by omega),Xr (by omega),Xr (by omega),Xs e]
  unfold IM.call;have t:Zs M.one.top.r x.regs=some z:=K;have u:Qq M.one.top.v x.args=some C:=J;rw[t,u,c]
  simp only
  rw[Xs ⟨by omega,Q⟩]
  by_cases o:M.rest.length+1=40
  ·rw[Xs o];exact⟨_,Z,IM.over_good _ _ _⟩
  ·rw[Xr o]
   refine⟨_,Z,.inr ⟨g,d,f,JSt.start m d f,⟨c,q,Xb _,Z,?_,I.st,?_⟩⟩⟩
   ·show FrT g M.h ⟨m,d,QcT f.regs,f.params⟩ C z;rw[A,O,<-p];exact F
   ·have G:=(Zi D).1
    have b:∀ k,¬ Own (JSt.start m d f) z k:=fun k ⟨j,L,N,T⟩=>by
     have n:(QcT f.regs).getD j false=true:=L;rw[A,<-p] at n
     have:=(Qcc (by omega) j).1 n
     have E:d.regs<=j:=N;omega
    refine⟨fn,bl,x,s,I.hf,I.hb,Nat.succ_pos _,by simpa using D,e,by show x.k=((x.k.toNat:Nat):Int);omega,by simpa using I.hs,I.fr,fun k w=>S k (by omega),fun k _=>b _,?_⟩
    refine I.stk.keep (fun _ _ _ h=>h) (fun k _ h=>h) (fun k w=>?_) (fun k _=>rfl);rcases w with y | y
    ·exact absurd y (b k)
    ·exact .inl y
 ·rw[Xr p] at l;cases l
end
theorem JSt.next_len (s:JSt) (x:Qx):s.H.length<=(s.next x).H.length:=by
 unfold JSt.next
 simp only
 split
 ·simp
 ·split
  ·simp
  ·exact Ze
theorem JSt.upto_len:∀ (l:List Qx) (s:JSt),s.H.length<=(s.upto l).H.length
 | [],s=>Ze
 | x::l,s=>Zt (s.next_len x) (JSt.upto_len l (s.next x))
section
variable {m:List (MFunc 6)}{g g':Sig}{M M':IM}{fn:MFunc 6}{bl:MBlock 6}{s:JSt}{x:Qx}{op:Int->Int->Int->Option Int}{h:Qc}{v:List Qk}{r:List Int}
theorem QlY (d:(modFault m).1=0)(c:m[k]?=some fn) (hb:fn.blocks[q]?=some bl) (l:List Qx):fn.regs<=((JSt.start m fn bl).upto l).H.length:=by
 have b:=(Zk d).2 fn (Zm c);have a:=b.blocks bl (Zm hb);have e:=JSt.upto_len l (JSt.start m fn bl);have g:=Qev (n:=bl.regs) ⟨by have:=b.regs;have:=a.regs;omega,a.regs.2⟩;have f:(JSt.start m fn bl).H.length=(QcT bl.regs).length:=rfl
 have:=a.regs
 omega
theorem Inv.kept (a:(modFault m).1=0) (I:Inv m g M fn bl s):s.f.regs<=s.H.length:=by
 rw[I.mf.2,I.hs];exact QlY a I.hf I.hb _
theorem QhW {regs:List Int}(h:Qey n regs=0):∀ i,i<n->regs.getD i 0=(i:Int):=by
 unfold Qey at h;split at h
 ·rename_i b
  intro i a
  have:=Xe.1 b i (List.mem_range.2 a)
  simpa using this
 ·cases h
theorem QgE (T:(modFault m).1=0) (I:Inv m g M fn bl s){t:MTo}(d:s.to t=0) (hb:0<=t.block/\t.block<fn.blocks.length/\t.regs.length<=16):∃ M',IM.to fn { M with fuel:=M.fuel+1 } t=some M'/\Qce m M':=by
 obtain⟨b,q⟩:∃ b,fn.blocks[t.block.toNat]?=some b:=⟨_,Zg (by omega)⟩
 unfold JSt.to at d;rw[I.mf.2,q] at d
 simp only at d
 by_cases p:(t.regs.length:Int)=b.regs
 ·rw[Xs p] at d
  obtain⟨Q,d⟩:=QH d
  obtain⟨S,R⟩:=QH d
  have n:=QhW Q;obtain⟨x,-,B⟩:=Qdp S
  obtain⟨y,L,N,J,e3,U,C,F⟩:=I.fr.hand hb.2.2 B x R m fn
  have D:=(Zk T).2 fn (Zm I.hf);have H:=D.blocks b (Zm q);have X:=D.regs;have W:=H.regs;have w:=I.mf.2;unfold IM.to;rw[q]
  simp only
  rw[N,J]
  simp only
  rw[Xs ⟨by omega,U⟩]
  refine⟨_,Z,.inr ⟨g,fn,b,JSt.start m fn b,⟨I.hf,q,Xb _,Z,?_,I.st,?_⟩⟩⟩
  ·show FrT g M.h ⟨m,fn,QcT b.regs,b.params⟩ L y;rw[<-p];exact F
  ·refine I.stk.keep (fun _ _ _ h=>h) (fun k _ h=>h) (fun k f=>?_) (fun k f=>?_)
   ·obtain⟨j,O,P,K⟩:=f
    have l:(QcT b.regs).getD j false=true:=O;rw[<-p] at l
    have i:=(Qcc hb.2.2 j).1 l;have E:fn.regs<=j:=P;have v:y.getD j 0=k:=K;have u:t.regs.getD j 0∈t.regs:=by rw[List.getD_eq_getElem?_getD,Zg i];exact List.getElem_mem i
    have f:=B _ u;unfold Qa7 at f;simp only[Bool.and_eq_true,decide_eq_true_eq] at f
    refine .inl ⟨(t.regs.getD j 0).toNat,f.2,?_,by rw[<-C j i];exact v⟩;rw[w]
    refine Int.not_lt.1 fun G=>?_;have V:=n (t.regs.getD j 0).toNat (by omega);have a:(t.regs.getD j 0).toNat<t.regs.length:=by omega
    have e:t.regs.getD (t.regs.getD j 0).toNat 0=t.regs.getD j 0:=by rw[V];omega
    have o:(t.regs.getD j 0).toNat≠j:=by omega
    generalize (t.regs.getD j 0).toNat=z at a e o;rw[List.getD_eq_getElem?_getD,List.getD_eq_getElem?_getD,Zg i,Zg a] at e
    have A:t.regs[z]=t.regs[j]:=e;rcases Nat.lt_trichotomy z j with c | c | c
    ·exact List.pairwise_iff_getElem.1 x z j a i c A
    ·exact o c
    ·exact List.pairwise_iff_getElem.1 x j z i a c A.symm
   ·show y.getD k 0=M.top.r.getD k 0;rw[C k (by omega),n k (by omega)]
    rfl
 ·rw[Xr p] at d;cases d
theorem QfP {v:List Qk}:∀ {a:List Int}{xs:List Qk},Qq v a=some xs->(∀ y∈xs,y.kind=1)->∃ ns,Qax v a=some ns
 | [],xs,_,_=>⟨[],Z⟩
 | k::a,xs,h,hk=>by
   simp only[Qq] at h
   cases h1:QE v k with
   | none=>rw[h1] at h;cases h
   | some y =>
     rw[h1] at h
     simp only at h
     cases h2:Qq v a with
     | none=>rw[h2] at h;cases h
     | some ys =>
       rw[h2] at h
       simp only at h
       cases h
       obtain⟨ns,b⟩:=QfP h2 (fun z c=>hk z (by simp[c]))
       have:QB v k=some y.n:=by unfold QB;rw[h1];simp only;rw[Xs (hk y (by simp))]
       exact⟨y.n::ns,by simp only[Qax,this,b]⟩
theorem Qhd (n:Nat):(Qa9 n).length=n:=by simp[Qa9]
theorem Qhm (h:j<n):(Qa9 n).getD j 0=(j:Int):=by simp[Qa9,List.getD,h]
theorem Qk6 (R:(QX m).1=0) (I:Inv m g M fn bl s){e:MEnd}(P:s.fin e=0) (h3:e.op=3):∃ M',IM.endd fn { M with fuel:=M.fuel+1 } e=some M'/\Qce m M':=by
 obtain⟨hM,L⟩:=Qcx R
 have C:=I.mf.2;unfold JSt.fin at P;split at P
 ·rename_i hn;exact absurd P hn
 rw[Xr (by omega),Xr (by omega)] at P
 obtain⟨E,D⟩:=QH P
 rw[C] at E D
 have al:∀ k,¬ Own s M.top.r k:=fun k ⟨j,T,j2,j3⟩=>by
  split at D
  ·rename_i hq
   have z:(j:Int)∈hList s.H:=(QiI s.H _).2 (by unfold Qa7;simp only[Int.toNat_natCast,T,Bool.and_true];simp)
   have:=Xe.1 hq _ z
   simp only[decide_eq_true_eq] at this
   rw[C] at j2;omega
  ·cases D
 unfold JSt.args at E;by_cases o:e.args.length=fn.results.length
 ·rw[Xs o] at E
  obtain⟨xs,f1,X,f3⟩:=QgL I.fr o E
  rw[Qhd] at f3
  have N:=(Zk hM).2 fn (Zm I.hf);have B:=I.kept hM;rw[C,<-I.fr.rl] at B
  unfold IM.endd;rw[Xr (by omega),Xr (by omega)]
  show ∃ M',(match Qq M.top.v e.args with | none=>none | some v=>_)=some M'/\Qce m M';rw[f1]
  simp only
  rw[Xs X]
  cases er:M.rest with
  | nil =>
    have Q:=I.stk;rw[er] at Q
    have J:M.top.f=0:=Q;obtain⟨b0,-,-,-,-,hz⟩:=Z5 hM I.hf
    obtain⟨-,-,hz⟩:=hz J
    obtain⟨ns,ac⟩:=QfP f1 (fun y hy=>by
     obtain⟨j,q⟩:=List.mem_iff_getElem?.1 hy
     obtain⟨t,ht⟩:∃ t,fn.results[j]?=some t:=⟨_,Zg (by rw[<-X];exact(Zi q).1)⟩
     obtain⟨us,u,U,V,a3⟩:=f3 j y t q ht
     rw[a3.kind,Qhk V,show us.kind=t.kind from (Zx U).1]
     exact hz t (Zm ht))
    simp only
    rw[ac]
    exact⟨_,Z,.inl Z⟩
  | cons d rest =>
    have Q:=I.stk;rw[er] at Q
    obtain⟨K,a,x,A,d1,d2,d3,d4,d5,d6,d7,F,d8,d9,af⟩:=Q
    simp only
    have S:=JSt.upto_mf (a.code.take (d.i - 1)) (JSt.start m K a);rw[<-d7] at S
    have hc:=(L _ K _ a d1 d2).1 (d.i - 1) x d4;rw[<-d7] at hc
    have J:=(Q9 hc).2.1;have z:=QaN (s:=A) d5;have O:A.m=m:=S.1;have ag:m[x.k.toNat]?=some fn:=by rw[d6,XT];exact I.hf
    rw[O,ag] at z
    simp only at z
    have ab:(x.regs.length:Int)=fn.regs:=Xq.1 fun ah=>by rw[z,Xr ah] at J;cases J
    rw[Xs ab] at z
    rw[z] at J
    obtain⟨aa,-⟩:=QH J
    have am:=(Zi d4).1
    have w:∀ j,j<x.regs.length->0<=x.regs.getD j 0/\(x.regs.getD j 0).toNat<d.r.length:=fun j q=>by
     have ad:x.regs.getD j 0∈x.regs:=by rw[List.getD_eq_getElem?_getD,Zg q];exact List.getElem_mem q
     have G:=ZS aa _ ad;unfold Qa7 at G;simp only[Bool.and_eq_true,decide_eq_true_eq] at G
     refine⟨G.1,?_⟩
     rw[F.rl]
     rcases Nat.lt_or_ge (x.regs.getD j 0).toNat A.H.length with c | c
     ·exact c
     ·have h2:=G.2;rw[QbP _ c] at h2;cases h2
    have ak:=N.regs;have hn:fn.regs.toNat=x.regs.length:=by omega
    refine⟨_,Z,.inr ⟨g,K,a,A.next x,⟨d1,d2,by show d.i<=_;omega,?_,?_,I.st,?_⟩⟩⟩
    ·show A.next x=(JSt.start m K a).upto (a.code.take d.i)
     have:d.i=d.i - 1+1:=by omega
     rw[this,XV,d4]
     show A.next x=(JSt.start m K a).upto (a.code.take (d.i - 1)++[x])
     rw[JSt.upto_snoc,<-d7]
    ·show FrT g M.h (A.next x) (d.v++xs) d.r;refine F.push (ts:=fn.results.map (QfQ x.regs)) (by simp[X]) (fun j y t' hy p=>?_) (Qby (by omega) (by omega)) (by unfold JSt.next;simp only;rw[z]);rw[XS] at p
     cases et:fn.results[j]? with
     | none=>rw[et] at p;cases p
     | some t =>
       rw[et] at p
       have ae:QfQ x.regs t=t':=Xn p;obtain⟨us,u,U,V,a3⟩:=f3 j y t hy et
       have aj:=N.results.2 t (Zm et);obtain⟨W,c1,-⟩:=Qgk (m:=x.regs.length) (too:=fun i=>x.regs.getD i 0) (b:=(d.r.length:Int)) (by omega) (fun i hi=>⟨(w i hi).1,by have:=(w i hi).1;have:=(w i hi).2;omega⟩) aj
       have ai:t'=W:=by rw[<-ae];unfold QfQ;rw[c1];rfl
       obtain⟨u1,g1,g2⟩:=QeD (l:=x.regs) (r:=d.r) (r':=M.top.r) (n:=x.regs.length) Ze (by omega) w F.pos (fun j q=>d8 j (by omega)) c1
       rw[hn] at U
       obtain⟨u2,g3,g4⟩:=QeD (l:=Qa9 x.regs.length) (r:=M.top.r) (r':=M.top.r) (n:=x.regs.length) (by rw[Qhd];exact Ze) (by omega) (fun j q=>by rw[Qhm q];exact⟨by omega,by simp;omega⟩) I.fr.pos (fun j q=>by rw[Qhm q];rfl) U
       rw[g3] at V;cases V
       rw[g2] at g4;cases g4
       exact⟨_,by rw[ai];exact g1,a3⟩
    ·show Stk m g M.h (Own (A.next x) d.r) K d.f d.r rest;refine af.keep (fun _ _ _ h=>h) (fun k _ h=>h) (fun k G=>?_) (fun k _=>rfl);obtain⟨j,T,j2,j3⟩:=G
     rw[Qby (by omega) (by omega)] at T
     exact .inl (.inr ⟨j,T,j2,j3⟩)
 ·rw[Xr o] at E;cases E
theorem QkJ (R:(QX m).1=0) (I:Inv m g M fn bl s){e:MEnd}(b:s.fin e=0):∃ M',IM.endd fn { M with fuel:=M.fuel+1 } e=some M'/\Qce m M':=by
 have k:=(Qcx R).1;have p:=b;have i:=I.mf.2;unfold JSt.fin at b;split at b
 ·rename_i q;exact absurd b q
 rename_i a
 have a:=Xq.1 a;rw[i] at a
 have x:(e.op=1\/e.op=2\/e.op=3)/\(e.op≠3->0<=e.yes.block/\e.yes.block<fn.blocks.length/\e.yes.regs.length<=16)/\(e.op=2->0<=e.no.block/\e.no.block<fn.blocks.length/\e.no.regs.length<=16):=by
  unfold MEnd.form at a;split at a
  ·cases a
  split at a
  ·cases a
  split at a
  ·cases a
  split at a
  ·rename_i d;exact absurd a d
  rename_i j h u d
  have d:=Xq.1 d
  have f:∀ (t:MTo),t.form fn.blocks.length true=0->0<=t.block/\t.block<fn.blocks.length/\t.regs.length<=16:=fun t c=>by
   unfold MTo.form at c;rw[Xr (by decide)] at c
   split at c
   ·cases c
   split at c
   ·cases c
   omega
  exact⟨by omega,fun o=>f _ (by simpa[o] using d),fun l=>f _ (by simpa[l] using a)⟩
 obtain⟨w,v,q⟩:=x
 rcases w with j | h | u
 ·rw[Xs j] at b
  unfold IM.endd;rw[Xs j]
  exact QgE k I b (v (by omega))
 ·rw[Xr (by omega),Xs h] at b
  obtain⟨z,b⟩:=QH b
  obtain⟨B,y⟩:=QH b
  obtain⟨n,A⟩:=I.fr.num z
  unfold IM.endd;rw[Xr (by omega),Xs h]
  simp only[A]
  by_cases r:n=0
  ·rw[Xs r];exact QgE k I y (q h)
  ·rw[Xr r];exact QgE k I B (v (by omega))
 ·exact Qk6 R I p u
theorem Qj4 (R:(QX m).1=0) (I:Inv m g M fn bl s) (b:bl.code[M.top.i]?=some x):Qcf m op M x:=by
 obtain⟨h,c⟩:=Qcx R
 have a:=(c _ fn _ bl I.hf I.hb).1 M.top.i x b;rw[<-I.hs] at a
 have j:1<=x.op/\x.op<=14:=by
  have f:=(Q9 a).1;unfold Qx.form at f;split at f
  ·cases f
  rename_i d
  unfold QJ at d;by_cases e:1<=x.op/\x.op<=14
  ·exact e
  ·exfalso;apply d
   rw[Xr (by omega),Xr (by omega),Xr (by omega),Xr (by omega),Xr (by omega),Xr (by omega),Xr (by omega),Xr (by omega),Xr (by omega)]
   rfl
 have:x.op=1\/x.op=2\/x.op=3\/x.op=4\/x.op=5\/x.op=6\/x.op=7\/x.op=8\/x.op=9\/x.op=10\/x.op=11\/x.op=12\/x.op=13\/x.op=14:=by omega
 rcases this with e | e | e | e | e | e | e | e | e | e | e | e | e | e
 ·exact QkA I b a e
 ·exact Qki I b a e
 ·exact Qkn I b a e (I.kept h)
 ·exact Qjy I b a e
 ·exact QhQ I b a e
 ·exact QkT I b a e
 ·exact Qks I b a e
 ·exact Qh4 I b a e
 ·exact QjM I b a e
 ·exact QhE I b a e
 ·exact QkD I b a e
 ·exact QlE I b a e
 ·exact QkE I b a e
 ·exact QiN h I b a e
theorem QjI (R:(QX m).1=0) (I:Inv m g M fn bl s) (most:Nat):∃ M',IM.step m op most M=some M'/\Qce m M':=by
 unfold IM.step;by_cases a:M.fuel=most
 ·rw[Xs a];exact⟨_,Z,IM.over_good _ _ _⟩
 ·rw[Xr a,I.hf]
  simp only
  rw[I.hb]
  simp only
  cases hx:bl.code[M.top.i]? with
  | some x=>exact Qj4 R I hx
  | none =>
    have c:=((Qcx R).2 _ fn _ bl I.hf I.hb).2;have d:M.top.i=bl.code.length:=by have:=I.hi;have:=List.getElem?_eq_none_iff.1 hx;omega
    have b:=I.hs;rw[d,List.take_length] at b
    rw[<-b] at c
    exact QkJ R I c
theorem QhJ (R:(QX m).1=0) (inp:List Int) (pages:Nat):Qce m (IM.start inp pages):=by
 obtain⟨d,-⟩:=Qcx R
 obtain⟨f,c⟩:∃ f,m[0]?=some f:=⟨_,Zg (Zk d).1.1⟩
 obtain⟨b,g,h,q,-,r⟩:=Z5 d c
 obtain⟨n,o,-⟩:=r Z
 refine .inr ⟨_,f,b,JSt.start m f b,⟨c,g,Xb _,Z,?_,StT.new pages,Z⟩⟩;show FrT _ _ ⟨m,f,QcT b.regs,b.params⟩ [] [];have l:QcT b.regs=[]:=by rw[h,n];rfl
 have p:b.params=[]:=by rw[q];exact Xf.1 o
 rw[l,p]
 exact⟨Z,fun k a=>by simp at a,fun k a=>by simp[List.getD] at a,fun j k i=>by simp[List.getD] at i,Z,fun j t y e=>by simp at e⟩
def IM.steps (m:List (MFunc 6)) (op:Int->Int->Int->Option Int) (most:Nat):Nat->IM->Option IM
 | 0,M=>some M
 | n+1,M=>if M.done then some M else match M.step m op most with
   | none=>none
   | some M'=>M'.steps m op most n
theorem Qdj (R:(QX m).1=0) (most:Nat):∀ (n:Nat) (M:IM),Qce m M->∃ M',IM.steps m op most n M=some M'/\Qce m M'
 | 0,M,G=>⟨M,Z,G⟩
 | n+1,M,G=>by
   unfold IM.steps;by_cases a:M.done=true
   ·rw[Xs a];exact⟨M,Z,G⟩
   ·rw[Xr a]
    rcases G with h | ⟨g,d,c,s,I⟩
    ·exact absurd h a
    ·obtain⟨M',e,b⟩:=QjI (op:=op) R I most
     rw[e]
     exact Qdj R most n M' b
theorem Qi2 (R:(QX m).1=0) (most:Nat) (inp:List Int) (pages:Nat) (n:Nat):∃ M',IM.steps m op most n (IM.start inp pages)=some M'/\Qce m M':=Qdj R most n _ (QhJ R inp pages)
end
def Q5 (M:IM) (o:Option IM):Prop:=∀ N,o=some N->N.fuel=M.fuel/\(∃ l,N.out=M.out++l)/\(N.done=true->M.done=true\/N.out=M.out)
section
variable {k:Nat}{M N:IM}{o o':Option IM}{m:List (MFunc 6)}{op:Int->Int->Int->Option Int}{x:Qx}{fn:MFunc 6}
theorem Q5.no:Q5 M none:=fun N h=>by cases h
theorem Q5.same (b:N.fuel=M.fuel) (a:N.out=M.out):Q5 M (some N):=fun c h=>by
 cases h
 exact⟨b,⟨[],by simp[a]⟩,fun _=>.inr a⟩
theorem Q5.ite {c:Prop}[Decidable c] {a b:Option IM}(f:c->Q5 M a) (e:¬ c->Q5 M b):Q5 M (if c then a else b):=by
 by_cases d:c
 ·rw[Xs d];exact f d
 ·rw[Xr d];exact e d
theorem Qiy {g:Qk × Int × Qc}:Q5 M (M.got g):=Q5.ite (fun _=>Q5.same Z Z) fun _=>Q5.ite (fun _=>Q5.same Z Z) (fun _=>Q5.no)
theorem mem_out:Q5 M (M.mem x):=by
 unfold IM.mem
 cases QE M.top.v x.a with
 | none=>exact Q5.no
 | some a =>
   refine Q5.ite (fun _=>Q5.ite (fun _=>Q5.same Z Z) (fun _=>Q5.no)) fun _=>Q5.ite (fun _=>?_) fun _=>Q5.ite (fun _=>?_) fun _=>Q5.ite (fun _=>Q5.ite (fun _=>Q5.same Z Z) (fun _=>Q5.no)) fun _=>Q5.ite (fun _=>?_) fun _=>Q5.ite (fun _=>?_) fun _=>Q5.ite (fun _=>?_) fun _=>Q5.ite (fun _=>Q5.same Z Z) (fun _=>Q5.no)
   ·cases Qq M.top.v x.args with
    | none=>exact Q5.no
    | some l=>exact Qiy
   ·cases QB M.top.v x.b with
    | none=>exact Q5.no
    | some n=>exact Q5.ite (fun _=>Q5.same Z Z) (fun _=>Qiy)
   ·cases QE M.top.v x.b with
    | none=>exact Q5.no
    | some y=>exact Q5.ite (fun _=>Q5.same Z Z) (fun _=>Q5.no)
   ·cases QB M.top.v x.b with
    | none=>exact Q5.no
    | some n=>exact Q5.ite (fun _=>Q5.ite (fun _=>Q5.same Z Z) fun _=>Q5.ite (fun _=>Q5.same Z Z) (fun _=>Q5.no)) (fun _=>Q5.no)
   ·cases QB M.top.v x.b with
    | none=>exact Q5.no
    | some n=>cases QB M.top.v x.c with
      | none=>exact Q5.no
      | some z=>exact Q5.ite (fun _=>Q5.ite (fun _=>Q5.same Z Z) fun _=>Q5.ite (fun _=>Q5.same Z Z) (fun _=>Q5.no)) (fun _=>Q5.no)
theorem call_out:Q5 M (M.call m x):=by
 unfold IM.call
 cases Zs M.top.r x.regs with
 | none=>exact Q5.no
 | some r=>cases Qq M.top.v x.args with
   | none=>exact Q5.no
   | some v=>cases m[x.k.toNat]? with
     | none=>exact Q5.no
     | some g=>exact Q5.ite (fun _=>Q5.ite (fun _=>Q5.same Z Z) (fun _=>Q5.same Z Z)) (fun _=>Q5.no)
theorem ins_out:Q5 M (IM.ins m op M x):=by
 unfold IM.ins;refine Q5.ite (fun _=>Q5.same Z Z) fun _=>Q5.ite (fun _=>?_) fun _=>Q5.ite (fun _=>Q5.ite (fun _=>Q5.same Z Z) (fun _=>Q5.same Z Z)) fun _=>Q5.ite (fun _=>?_) fun _=>Q5.ite (fun _=>?_) fun _=>Q5.ite (fun _=>call_out) (fun _=>mem_out)
 ·cases QB M.top.v x.a with
  | none=>exact Q5.no
  | some a=>cases QB M.top.v x.b with
    | none=>exact Q5.no
    | some b =>
      simp only
      cases op x.k a b with
      | none=>exact Q5.same Z Z
      | some n=>exact Q5.same Z Z
 ·cases M.inp with
  | nil=>exact Q5.same Z Z
  | cons n l=>exact Q5.same Z Z
 ·cases QB M.top.v x.a with
  | none=>exact Q5.no
  | some n=>exact Q5.ite (fun _=>Q5.same Z Z) (fun _ N h=>by cases h;exact⟨Z,⟨[n],Z⟩,fun c=>.inl c⟩)
theorem Qi5 {t:MTo}:Q5 M (IM.to fn M t):=by
 unfold IM.to
 cases fn.blocks[t.block.toNat]? with
 | none=>exact Q5.no
 | some b=>cases Zs M.top.r t.regs with
   | none=>exact Q5.no
   | some r=>cases Qq M.top.v t.args with
     | none=>exact Q5.no
     | some v=>exact Q5.ite (fun _=>Q5.same Z Z) (fun _=>Q5.no)
theorem Qku {e:MEnd}:Q5 M (IM.endd fn M e):=by
 unfold IM.endd;refine Q5.ite (fun _=>Qi5) fun _=>Q5.ite (fun _=>?_) fun _=>?_
 ·cases QB M.top.v e.a with
  | none=>exact Q5.no
  | some n=>exact Q5.ite (fun _=>Qi5) (fun _=>Qi5)
 ·cases Qq M.top.v e.args with
  | none=>exact Q5.no
  | some v =>
    refine Q5.ite (fun _=>?_) (fun _=>Q5.no)
    cases M.rest with
    | cons d rest=>exact Q5.same Z Z
    | nil=>cases Qax M.top.v e.args with
      | none=>exact Q5.no
      | some n=>exact Q5.same Z Z
theorem QgP (g:M.fuel<=most) (d:IM.step m op most M=some N):(M.fuel=most->N=M.over 7)/\(M.fuel<most->N.fuel=M.fuel+1)/\(∃ l,N.out=M.out++l)/\(N.done=true->M.done=true\/N.out=M.out):=by
 unfold IM.step at d;by_cases e:M.fuel=most
 ·rw[Xs e] at d
  cases d
  exact⟨fun _=>rfl,fun h=>by omega,⟨[],by simp[IM.over]⟩,fun _=>.inr Z⟩
 ·rw[Xr e] at d
  cases e1:m[M.top.f]? with
  | none=>rw[e1] at d;cases d
  | some fn =>
    rw[e1] at d
    simp only at d
    cases e2:fn.blocks[M.top.b]? with
    | none=>rw[e2] at d;cases d
    | some bl =>
      rw[e2] at d
      simp only at d
      cases e3:bl.code[M.top.i]? with
      | none =>
        rw[e3] at d
        obtain⟨a,b,c⟩:=Qku N d
        exact⟨fun h=>absurd h e,fun _=>a,b,c⟩
      | some x =>
        rw[e3] at d
        obtain⟨a,b,c⟩:=ins_out N d
        exact⟨fun h=>absurd h e,fun _=>a,b,c⟩
theorem Qdl {most:Nat}:∀ (n:Nat){M N:IM},M.fuel<=most->IM.steps m op most n M=some N->M.fuel<=N.fuel/\N.fuel<=most/\∃ l,N.out=M.out++l
 | 0,M,N,hf,h=>by cases h;exact⟨Ze,hf,[],by simp⟩
 | n+1,M,N,hf,h=>by
   unfold IM.steps at h;by_cases j:M.done=true
   ·rw[Xs j] at h;cases h;exact⟨Ze,hf,[],by simp⟩
   ·rw[Xr j] at h
    cases e:IM.step m op most M with
    | none=>rw[e] at h;cases h
    | some M' =>
      rw[e] at h
      simp only at h
      obtain⟨a,b,⟨l,c⟩,-⟩:=QgP hf e
      rcases Nat.lt_or_ge M.fuel most with q | q
      ·have:=b q
       obtain⟨k,f,i,g⟩:=Qdl n (by omega) h
       exact⟨by omega,f,l++i,by rw[g,c,List.append_assoc]⟩
      ·have d:=a (by omega);have o:M'.fuel=M.fuel:=by rw[d];rfl
       obtain⟨k,f,i,g⟩:=Qdl n (by omega) h
       exact⟨by omega,f,l++i,by rw[g,c,List.append_assoc]⟩
end
theorem Qb {p:Prop}(h:p):Hid p:=h
def vAt (v:Qk):Nat->Value
 | 0=>.int .i64 v.kind
 | 1=>.int .i64 v.region
 | 2=>.int .i64 v.thing
 | _=>.int .i64 v.n
def Zu (l:List Qk) (j:Nat):Value:=vAt (l.getD (j / 4) noV) (j%4)
abbrev QU (v:Qk):Value:=.agg #[.int .i64 v.kind,.int .i64 v.region,.int .i64 v.thing,.int .i64 v.n]
def ZP (w:World) (v:Value) (l:List Qk):Prop :=
 (∃ a c,v=.slice a l.length c)/\(l≠[]->∃ g c,v=.slice (some ⟨g,0,none⟩) l.length c/\w.rowIs g 211 (l.length*4) (Zu l))
def QcM (v:Value) (t:Qs) (x:Nat):Prop:=t.l≠[]/\v.ownBlock=some x
theorem ZP.keep {w w':World}{t:Qs}(h:ZP w v t.l) (hb:∀ x,QcM v t x->w'.heap[x]?=w.heap[x]?):ZP w' v t.l:=by
 refine⟨h.1,fun a=>?_⟩
 obtain⟨g,c,e,b⟩:=h.2 a
 exact⟨g,c,e,b.of_block (hb g ⟨a,by rw[e];rfl⟩)⟩
theorem ZP.lt {w:World}{t:Qs}(h:ZP w v t.l)(a:QcM v t x):x<w.heap.size:=by
 obtain⟨g,c,e,b⟩:=h.2 a.1
 have:g=x:=by have:=a.2;rw[e] at this;simpa[Value.ownBlock] using this
 subst this;exact b.lt
theorem ZP.type {w:World}{t:Qs}(h:ZP w v t.l)(a:QcM v t x):∃ c,w.heap[x]?=some (.cells c 211 (0,0)):=by
 obtain⟨g,c,e,b⟩:=h.2 a.1
 have:g=x:=by have:=a.2;rw[e] at this;simpa[Value.ownBlock] using this
 subst this;obtain⟨d,f,_⟩:=b;exact⟨d,f⟩
def Qad (pv:Nat->Value):List Qs->Nat->List Value
 | [],_=>[]
 | t::r,s=>.int .i64 t.knd::pv s::Qad pv r (s+1)
theorem Qfa (pv:Nat->Value):∀ (l:List Qs) (s:Nat),(Qad pv l s).length=l.length*2
 | [],_=>rfl
 | t::r,s=>by simp[Qad,Qfa pv r];omega
theorem Qhn (pv:Nat->Value):∀ (l:List Qs) (s i:Nat) (t:Qs),l[i]?=some t->(Qad pv l s)[i*2]?=some (.int .i64 t.knd)/\(Qad pv l s)[i*2+1]?=some (pv (s+i))
 | [],_,_,_,h=>by simp at h
 | t::r,s,0,u,h=>by simp at h;subst h;simp[Qad]
 | t::r,s,i+1,u,h=>by
   have a:=Qhn pv r (s+1) i u (by simpa using h);rw[show (i+1)*2=i*2+2 by omega,show s+(i+1)=s+1+i by omega]
   simpa[Qad] using a
theorem Qd2 (pv:Nat->Value) (t:Qs):∀ (l:List Qs) (s:Nat),Qad pv (l++[t]) s=Qad pv l s++[.int .i64 t.knd,pv (s+l.length)]
 | [],s=>rfl
 | u::r,s=>by simp[Qad,Qd2 pv t r,Nat.add_comm,Nat.add_left_comm]
theorem QdL {pv qv:Nat->Value}:∀ (l:List Qs) (s:Nat),(∀ i,i<l.length->pv (s+i)=qv (s+i))->Qad pv l s=Qad qv l s
 | [],_,_=>rfl
 | t::r,s,h=>by
   have b:pv s=qv s:=by simpa using h 0 (by simp)
   have c:=QdL (pv:=pv) (qv:=qv) r (s+1) (fun i a=>by have:=h (i+1) (by simpa using a);rwa [show s+(i+1)=s+1+i by omega] at this);simp only[Qad]
   rw[b,c]
theorem QeZ (pv:Nat->Value) (t u:Qs) (e:u.knd=t.knd):∀ (l:List Qs) (s i:Nat),l[i]?=some t->Qad pv (l.set i u) s=Qad pv l s
 | [],_,_,h=>by simp at h
 | t'::r,s,0,h=>by simp at h;subst h;simp[Qad,e]
 | t'::r,s,i+1,h=>by simp only[List.set_cons_succ,Qad];rw[QeZ pv t u e r (s+1) i (by simpa using h)]
structure Qaj (w:World) (b k:Nat) (p:Ql) (S:Nat->Prop) (tv:Value) (pv:Nat->Value):Prop where
 box:w.heap[b]?=some (.cells #[.int .i64 k,.int .i64 p.pages,.int .i64 p.used,tv] 261 (0,0))
 row:w.ownsRow 0 294 2 tv p.l.length (Qad pv p.l 0)
 part:∀ i t,p.l[i]?=some t->ZP w (pv i) t.l
 inj:∀ i j t u x,p.l[i]?=some t->p.l[j]?=some u->QcM (pv i) t x->QcM (pv j) u x->i=j
 ob:S b
 ot:∀ x,tv.ownBlock=some x->S x
 op:∀ i t x,p.l[i]?=some t->QcM (pv i) t x->S x
def QdP (w:World) (b k:Nat) (p:Ql) (S:Nat->Prop):Prop:=∃ tv pv,Qaj w b k p S tv pv
theorem QT {w:World}{z:Nat}(h:w.ownsRow 0 e z v n xs)(a:v.ownBlock=some x):∃ c,w.heap[x]?=some (.cells c e (0,0)):=by
 rcases h.2 with ⟨rfl,_⟩|⟨g,f,b,rfl,_,d,_⟩
 ·simp[Value.ownBlock] at a
 ·simp[Value.ownBlock] at a;subst a;exact⟨b,d⟩
theorem QM {w w':World}{z:Nat}(h:w.ownsRow 0 e z v n xs) (hb:∀ x,v.ownBlock=some x->w'.heap[x]?=w.heap[x]?):w'.ownsRow 0 e z v n xs:=by
 refine⟨h.1,?_⟩
 rcases h.2 with f | ⟨g,a,b,rfl,d,c,r⟩
 ·exact .inl f
 ·exact .inr ⟨g,a,b,Z,d,(hb g Z).trans c,r⟩
section
variable {w w':World}{b k:Nat}{p:Ql}{S S':Nat->Prop}{tv:Value}{pv:Nat->Value}
theorem Qaj.keep (h:Qaj w b k p S tv pv) (hb:∀ x,S x->x<w.heap.size->w'.heap[x]?=w.heap[x]?):Qaj w' b k p S tv pv :=
 ⟨(hb b h.ob (XC h.box)).trans h.box,QM h.row (fun x a=>hb x (h.ot x a) (XC (QT h.row a).choose_spec)),fun i t c=>(h.part i t c).keep (fun x a=>hb x (h.op i t x c a) ((h.part i t c).lt a)),h.inj,h.ob,h.ot,h.op⟩
theorem QdP.keep (h:QdP w b k p S) (hb:∀ x,S x->x<w.heap.size->w'.heap[x]?=w.heap[x]?):QdP w' b k p S:=by
 obtain⟨a,c,h⟩:=h
 exact⟨a,c,h.keep hb⟩
end
def pelem:Value->Option (DataW Unit × List MemPlace)
 | .pointer none=>some (.nil,[])
 | .pointer (some ⟨g,0,none⟩)=>some (.lit (.int .i64 g),[])
 | _=>none
theorem QiT {b:List MemPlace}(h:pelem v=some (.lit (.int .i64 (g:Int)),b)):v=.pointer (some ⟨g,0,none⟩):=by
 unfold pelem at h;split at h
 ·simp at h
 ·rename_i a
  simp at h
  obtain⟨h,_⟩:=h
  have:a=g:=by omega
  rw[this]
 ·cases h
theorem QjH {a:List MemPlace}(h:pelem v=some (.nil,a)):v=.pointer none:=by
 unfold pelem at h;split at h
 ·rfl
 ·simp at h
 ·cases h
theorem hKeyed:Maps.Keyed prog 3:=Maps.int_keyed underlying3
theorem Qni {x:Int}(h:ZE x):(Lit.int .i64 x).wf=true:=WalkArith.wf_i64 h
abbrev Qg3 (x:Int):Lit:=.int .i64 x
structure HG where
 bm:Nat
 D:DataW Unit
 g:Nat->Nat
 S:Nat->Nat->Prop
structure HIn (w:World) (b:Nat) (O:Nat->Prop) (h:Qc) (G:HG):Prop where
 top:w.heap[b]?=some (.cells #[.int .i64 h.left,.int .i64 h.L.length,.map (some G.bm)] 119 (0,0))
 map:w.ownsMap prog 3 pelem G.bm (Maps.size G.D) G.D
 size:Maps.size G.D=h.live
 has:∀ k,ZE k->Maps.has G.D (Qg3 k)=(h.place k).isSome
 at_:∀ k p,ZE k->h.place k=some p->G.D.atKey (Qg3 k) .nil=.lit (.int .i64 (G.g k.toNat:Int))
 reg:∀ k p,h.L[k]?=some p->p.there=true->QdP w (G.g k) k p (G.S k)
 dis:∀ j k x,G.S j x->G.S k x->j=k
 ob:O b
 om:O G.bm
 os:∀ k x,G.S k x->O x/\x≠b/\x≠G.bm
 lt:∀ x,O x->x<w.heap.size
theorem Qau {w w':World}{k:TypeId}{R:Value->Option (DataW Unit × List MemPlace)}{b:Nat}{D:DataW Unit}(h:w.ownsMap P k R b n D) (hb:w'.heap[b]?=w.heap[b]?):w'.ownsMap P k R b n D:=by
 obtain⟨a,c,d,r⟩:=h
 exact⟨a,c,hb.trans d,r⟩
theorem Qb1 {w:World}{k:TypeId}{R:Value->Option (DataW Unit × List MemPlace)}{b:Nat}{D:DataW Unit}(h:w.ownsMap P k R b n D):w.ownsMap P k R b (Maps.size D) D:=by
 obtain⟨d,c,e,f,g,a⟩:=h
 exact⟨d,c,e,f,by rw[a];simp[Maps.size,length_sorted],a⟩
section
variable {w w':World}{b:Nat}{O O':Nat->Prop}{h:Qc}{G:HG}
theorem HIn.keep (H:HIn w b O h G) (f:w.heap.size<=w'.heap.size) (hb:∀ x,O x->x<w.heap.size->w'.heap[x]?=w.heap[x]?):HIn w' b O h G :=
 ⟨(hb b H.ob (XC H.top)).trans H.top,Qau H.map (hb _ H.om H.map.lt),H.size,H.has,H.at_,fun k p d e=>(H.reg k p d e).keep (fun x a c=>hb x (H.os k x a).1 c),H.dis,H.ob,H.om,H.os,fun x a=>Zl (H.lt x a) f⟩
theorem HIn.below (H:HIn w b O h G) (hb:Below w.heap.size w w'):HIn w' b O h G:=H.keep hb.size (fun x _ a=>hb.block x a)
theorem HIn.bne (H:HIn w b O h G):b≠G.bm:=by
 intro e;obtain⟨d,c,a,_⟩:=H.map
 have:=H.top
 rw[e,a] at this
 cases this
theorem HIn.drewN (H:HIn w b O h G) (n:Nat):HIn (w.drewN n) b O h G:=H.keep (w':=w.drewN n) Ze (fun _ _ _=>rfl)
theorem HIn.drew (H:HIn w b O h G):HIn w.drew b O h G:=H.keep (w':=w.drew) Ze (fun _ _ _=>rfl)
def hptr (h:Qc) (G:HG) (k:Int):Option Addr:=if (h.place k).isSome then some ⟨G.g k.toNat,0,none⟩ else none
theorem HIn.look (H:HIn w b O h G){k:Int}(a:ZE k):(Instr.lookup 117 (.map (some G.bm)) (.int .i64 k) true).run prog w=.ok (.tuple #[.pointer (hptr h G k),.bool (h.place k).isSome]) w:=by
 obtain⟨v,f,e,c⟩:=H.map.look_ok hKeyed underlying117 (z:=.pointer none) (by kernel_rfl) (zd:=.nil) (zp:=[]) Z (Maps.keyOf_int_mk underlying3 (Qni a))
 rw[e,H.has k a]
 have d:=H.has k a;unfold hptr
 cases hp:h.place k with
 | none =>
   rw[hp] at d
   rw[Maps.atKey_of_not_has d] at c
   rw[QjH c];rfl
 | some p =>
   rw[H.at_ k p a hp] at c
   rw[QiT c];rfl
theorem HIn.lookN (H:HIn w b O h G){k:Int}(a:ZE k) (n:Nat):(Instr.lookup 117 (.map (some G.bm)) (.int .i64 k) true).run prog (w.drewN n)=.ok (.tuple #[.pointer (hptr h G k),.bool (h.place k).isSome]) (w.drewN n):=(H.drewN n).look a
end
section
variable {w w':World}{b k:Nat}{p:Ql}{S S':Nat->Prop}{tv:Value}{pv:Nat->Value}
theorem Qaj.rowNe (h:Qaj w b k p S tv pv)(a:tv.ownBlock=some x):x≠b:=by
 obtain⟨c,d⟩:=QT h.row a
 exact QN d h.box (by decide)
theorem Qaj.partNe (h:Qaj w b k p S tv pv){t:Qs}(d:p.l[i]?=some t)(a:QcM (pv i) t x):x≠b:=by
 obtain⟨c,e⟩:=(h.part i t d).type a
 exact QN e h.box (by decide)
theorem Qaj.partRow (h:Qaj w b k p S tv pv){t:Qs}(g:p.l[i]?=some t)(a:QcM (pv i) t x):tv.ownBlock≠some x:=by
 intro e;obtain⟨c,j⟩:=(h.part i t g).type a
 obtain⟨d,f⟩:=QT h.row e
 exact QN j f (by decide) Z
theorem Qaj.nums (h:Qaj w b k p S tv pv) (p':Ql) (d:p'.l=p.l) (hb:w'.heap[b]?=some (.cells #[.int .i64 k,.int .i64 p'.pages,.int .i64 p'.used,tv] 261 (0,0))) (e:∀ x,S x->x≠b->x<w.heap.size->w'.heap[x]?=w.heap[x]?):Qaj w' b k p' S tv pv :=
 ⟨hb,by rw[d];exact QM h.row (fun x a=>e x (h.ot x a) (h.rowNe a) (XC (QT h.row a).choose_spec)),
  by rw[d];exact fun i t c=>(h.part i t c).keep (fun x a=>e x (h.op i t x c a) (h.partNe c a) ((h.part i t c).lt a)),by rw[d];exact h.inj,h.ob,h.ot,by rw[d];exact h.op⟩
theorem ownBlock_slice :(Value.slice (some ⟨g,0,none⟩) n c).ownBlock=some x↔g=x:=by simp[Value.ownBlock]
theorem Qaj.add (h:Qaj w b k p S tv pv){t:Qs}(G:ZP w v t.l) (hn:∀ x,QcM v t x->¬ S x)
 (J:w1.ownsRow 0 294 2 (.slice (some ⟨g,0,none⟩) (p.l.length+1) c) (p.l.length+1) (Qad pv p.l 0++[.int .i64 t.knd,v])) (B:w.grownBy w1 tv.ownBlock) (H:tv.ownBlock=some g\/w.heap.size<=g) :
 Qaj (w1.setCell ⟨b,3,none⟩ (.slice (some ⟨g,0,none⟩) (p.l.length+1) c)) b k { p with l:=p.l++[t] } (fun x=>S x\/x=g\/QcM v t x) (.slice (some ⟨g,0,none⟩) (p.l.length+1) c) (fun i=>if i=p.l.length then v else pv i):=by
 have E:=XC h.box;have z:w1.heap[b]?=some (.cells #[.int .i64 k,.int .i64 p.pages,.int .i64 p.used,tv] 261 (0,0)):=(B.block b E (fun e=>h.rowNe e.symm Z)).trans h.box
 have I:g≠b:=by
  rcases H with e | e
  ·exact h.rowNe e
  ·omega
 have m:∀ x,x≠b->(w1.setCell ⟨b,3,none⟩ (.slice (some ⟨g,0,none⟩) (p.l.length+1) c)).heap[x]?=w1.heap[x]?:=fun x a=>Xd _ _ _ _ a;have D:∀ i u,p.l[i]?=some u->(if i=p.l.length then v else pv i)=pv i:=fun i u f=>Xr (by have:=(Zi f).1;omega)
 have r:∀ i u,(p.l++[t])[i]?=some u->(p.l[i]?=some u/\(if i=p.l.length then v else pv i)=pv i)\/(i=p.l.length/\u=t):=by
  intro i u f;rcases Nat.lt_or_ge i p.l.length with d | d
  ·rw[XP d] at f;exact .inl ⟨f,D i u f⟩
  ·rw[XQ d] at f
   have y:=(Zi f).1
   have:i - p.l.length=0:=by simp at y;omega
   rw[this] at f;simp at f
   exact .inr ⟨by omega,f.symm⟩
 have F:∀ x,QcM v t x->x≠b/\some x≠tv.ownBlock:=fun x a=>⟨fun e=>hn x a (e ▸ h.ob),fun e=>hn x a (h.ot x e.symm)⟩;refine⟨?_,?_,?_,?_,.inl h.ob,fun x a=>.inr (.inl (ownBlock_slice.1 a).symm),?_⟩
 ·have:=Qm z 3 (.slice (some ⟨g,0,none⟩) (p.l.length+1) c)
  simpa using this
 ·have e:Qad (fun i=>if i=p.l.length then v else pv i) (p.l++[t]) 0=Qad pv p.l 0++[.int .i64 t.knd,v]:=by
   rw[Qd2,QdL (qv:=pv) p.l 0 (fun i K=>Xr (by omega))]
   simp
  rw[e]
  have:=QM (w':=w1.setCell ⟨b,3,none⟩ (.slice (some ⟨g,0,none⟩) (p.l.length+1) c)) J (fun x a=>m x (by rw[ownBlock_slice] at a;omega))
  simpa using this
 ·intro i u f;rcases r i u f with ⟨d,o⟩|⟨d,o⟩
  ·rw[o]
   refine(h.part i u d).keep (fun x a=>(m x (h.partNe d a)).trans (B.block x ((h.part i u d).lt a) (fun e=>h.partRow d a e.symm)))
  ·subst o;rw[Xs d];exact G.keep (fun x a=>(m x (F x a).1).trans (B.block x (G.lt a) (F x a).2))
 ·intro i j u C x f A a n;rcases r i u f with ⟨d,o⟩|⟨d,o⟩<;>rcases r j C A with ⟨q,s⟩|⟨q,s⟩
  ·rw[o] at a;rw[s] at n;exact h.inj i j u C x d q a n
  ·rw[o] at a;rw[Xs q,s] at n;exact absurd (h.op i u x d a) (hn x n)
  ·rw[s] at n;rw[Xs d,o] at a;exact absurd (h.op j C x q n) (hn x a)
  ·omega
 ·intro i u x f a;rcases r i u f with ⟨d,o⟩|⟨d,o⟩
  ·rw[o] at a;exact .inl (h.op i u x d a)
  ·rw[Xs d,o] at a;exact .inr (.inr a)
theorem Qaj.put (h:Qaj w b k p S tv pv){t:Qs}(m:p.l[i]?=some t)(q:QcM (pv i) t g){l:List Qk}(v:l.length=t.l.length) (I:w'.rowIs g 211 (l.length*4) (Zu l)) (A:∀ x,S x->x≠g->x<w.heap.size->w'.heap[x]?=w.heap[x]?) :
 Qaj w' b k { p with l:=p.l.set i { t with l:=l } } S tv pv:=by
 have K:=(Zi m).1
 have r:∀ j u,(p.l.set i { t with l:=l })[j]?=some u->(j≠i/\p.l[j]?=some u)\/(j=i/\u={ t with l:=l }):=by
  intro j u f;by_cases e:j=i
  ·subst e;simp[K] at f;exact .inr ⟨Z,f.symm⟩
  ·rw[List.getElem?_set_ne (Ne.symm e)] at f;exact .inl ⟨e,f⟩
 have s:t.l≠[]:=q.1;have H:l≠[]:=fun e=>s (Xf.1 (by rw[<-v,e];rfl));have D:∀ x,QcM (pv i) { t with l:=l } x->QcM (pv i) t x:=fun x d=>⟨s,d.2⟩;refine⟨(A b h.ob (Ne.symm (h.partNe m q)) (XC h.box)).trans h.box,?_,?_,?_,h.ob,h.ot,?_⟩
 ·show w'.ownsRow 0 _ 2 tv (p.l.set i _).length (Qad pv (p.l.set i _) 0);rw[QeZ pv t { t with l:=l } Z p.l 0 i m,List.length_set]
  exact QM h.row (fun x d=>A x (h.ot x d) (fun e=>h.partRow m q (e ▸ d)) (XC (QT h.row d).choose_spec))
 ·intro j u f;rcases r j u f with ⟨C,n⟩|⟨rfl,rfl⟩
  ·exact(h.part j u n).keep (fun x d=>A x (h.op j u x n d) (fun e=>C (h.inj j i u t x n m d (e ▸ q))) ((h.part j u n).lt d))
  ·obtain⟨⟨a,c,e⟩,-⟩:=h.part j t m
   refine⟨⟨a,c,by rw[e,v]⟩,fun _=>?_⟩
   obtain⟨F,J,E,-⟩:=(h.part j t m).2 s
   have:F=g:=by have:=q.2;rw[E] at this;exact ownBlock_slice.1 this
   subst this;exact⟨F,J,by rw[E,v],I⟩
 ·intro j B u z x f y d o;rcases r j u f with ⟨C,n⟩|⟨rfl,rfl⟩<;>rcases r B z y with ⟨L,G⟩|⟨rfl,rfl⟩
  ·exact h.inj j B u z x n G d o
  ·exact h.inj j _ u t x n m d (D x o)
  ·exact h.inj _ B t z x m G (D x d) o
  ·rfl
 ·intro j u x f d;rcases r j u f with ⟨C,n⟩|⟨rfl,rfl⟩
  ·exact h.op j u x n d
  ·exact h.op j t x m (D x d)
end
section
variable {w w':World}{b:Nat}{O O':Nat->Prop}{h:Qc}{G:HG}
theorem HIn.regTo (H:HIn w b O h G){k:Nat}{p p':Ql}(u:h.L[k]?=some p) (E:p.there=true) (s:p'.there=true){m:Nat->Prop}(J:QdP w' (G.g k) k p' m) (t:∀ x,m x->x<w'.heap.size) (z:QZ (G.S k) m w w') :
 HIn w' b (fun x=>O x\/m x) { h with L:=h.L.set k p' } { G with S:=fun j=>if j=k then m else G.S j }:=by
 have C:=(Zi u).1;have f:∀ x,m x->G.S k x\/w.heap.size<=x:=z.own;have d:∀ x,¬ G.S k x->x<w.heap.size->w'.heap[x]?=w.heap[x]?:=fun x c D=>z.block x D c
 have F:∀ j:Int,(Qc.place { h with L:=h.L.set k p' } j).isSome=(h.place j).isSome:=by
  intro j;rw[Qc.place_set C]
  by_cases e:j=k
  ·subst e;rw[Xs Z,Xs s,Qc.place_of u E];rfl
  ·rw[Xr e]
 refine⟨?_,Qau H.map (d _ (fun e=>(H.os k _ e).2.2 Z) H.map.lt),?_,?_,?_,?_,?_,.inl H.ob,.inl H.om,?_,?_⟩
 ·rw[d b (fun e=>(H.os k _ e).2.1 Z) (XC H.top),H.top];simp
 ·have:=Qc.live_set (h:=h) (q:=p') u h.left
  rw[E,s] at this
  rw[H.size]
  simpa using this.symm
 ·intro j a;rw[H.has j a,F j]
 ·intro j q a A
  have:(h.place j).isSome=true:=by rw[<-F j,A];rfl
  obtain⟨K,v⟩:=Option.isSome_iff_exists.1 this
  exact H.at_ j K a v
 ·intro j q a A;by_cases e:j=k
  ·subst e
   have:q=p':=by simpa[C] using a.symm
   subst this;simpa using J
  ·simp only[e,if_false]
   have B:h.L[j]?=some q:=by simpa[List.getElem?_set_ne (Ne.symm e)] using a
   exact(H.reg j q B A).keep (fun x r I=>d x (fun y=>e (H.dis j k x r y)) I)
 ·intro i j x l a;by_cases o:i=k<;>by_cases n:j=k
  ·rw[o,n]
  ·simp only[o,if_pos,n,if_false] at l a
   rcases f x l with c | c
   ·exact absurd (H.dis k j x c a).symm n
   ·have:=H.lt x (H.os j x a).1;omega
  ·simp only[o,if_pos,n,if_false] at l a
   rcases f x a with c | c
   ·exact absurd (H.dis i k x l c) o
   ·have:=H.lt x (H.os i x l).1;omega
  ·simp only[o,n,if_false] at l a
   exact H.dis i j x l a
 ·intro j x a;by_cases e:j=k
  ·simp only[e,if_pos] at a
   rcases f x a with c | c
   ·exact⟨.inl (H.os k x c).1,(H.os k x c).2⟩
   ·have D:=XC H.top;have M:=H.map.lt;exact⟨.inr a,by omega,by show x≠G.bm;omega⟩
  ·simp only[e,if_false] at a
   exact⟨.inl (H.os j x a).1,(H.os j x a).2⟩
 ·rintro x (r | r)
  ·exact Zl (H.lt x r) z.size
  ·exact t x r
theorem HIn.toLeft (H:HIn w b O h G) (n:Nat):HIn (w.setCell ⟨b,0,none⟩ (.int .i64 n)) b O { h with left:=n } G:=by
 have c:∀ x,x≠b->(w.setCell ⟨b,0,none⟩ (.int .i64 n)).heap[x]?=w.heap[x]?:=fun x a=>Xd _ _ _ _ a;refine⟨?_,Qau H.map (c _ (Ne.symm H.bne)),H.size,H.has,H.at_,fun k p e d=>(H.reg k p e d).keep (fun x a _=>c x (H.os k x a).2.1),H.dis,H.ob,H.om,H.os,fun x a=>by simpa using H.lt x a⟩
 have:=Qm H.top 0 (.int .i64 n)
 simpa using this
theorem HIn.gone (H:HIn w b O h G){k:Nat}{p:Ql}(o:h.L[k]?=some p) (z:p.there=true) (g:ZE k)(B:w1.ownsMap prog 3 pelem G.bm n (G.D.del (Qg3 k))) (F:w.mapTurned w1 G.bm) :
 HIn w1 b O { h with L:=h.L.set k noP } { G with D:=G.D.del (Qg3 k),S:=fun j x=>j≠k/\G.S j x }:=by
 have s:=(Zi o).1;have A:=F.grown;have c:∀ x,x≠G.bm->x<w.heap.size->w1.heap[x]?=w.heap[x]?:=fun x l m=>A.block x m (fun e=>l (by simpa using e));have y:∀ j:Int,j≠k->Qg3 j≠Qg3 (k:Int):=fun j a e=>a (by cases e;rfl);refine⟨?_,Qb1 B,?_,?_,?_,?_,fun i j x v a=>H.dis i j x v.2 a.2,H.ob,H.om,fun j x a=>H.os j x a.2,fun x d=>Zl (H.lt x d) A.size⟩
 ·rw[c b H.bne (XC H.top),H.top];simp
 ·have l:=Maps.size_del (k:=Qg3 (k:Int)) (H.map.tidy hKeyed);have m:=Qc.live_set (h:=h) (q:=noP) o h.left;rw[H.has k g,Qc.place_of o z,H.size] at l
  rw[z] at m
  simp[noP] at l m |-
  omega
 ·intro j a;rw[Qc.place_set s]
  by_cases e:j=k
  ·subst e;rw[Maps.has_del_same,Xs Z];rfl
  ·rw[Xr e,Maps.has_del_other (y j e),H.has j a]
 ·intro j q a f;rw[Qc.place_set s] at f
  by_cases e:j=k
  ·subst e;simp[noP] at f
  ·rw[Xr e] at f
   rw[Maps.atKey_del_other (y j e)];exact H.at_ j q a f
 ·intro j q a f;by_cases e:j=k
  ·subst e
   have:q=noP:=by simpa[s] using a.symm
   subst this;cases f
  ·have u:h.L[j]?=some q:=by simpa[List.getElem?_set_ne (Ne.symm e)] using a
   have R:=(H.reg j q u f).keep (w':=w1) (fun x d C=>c x (H.os j x d).2.2 C);obtain⟨I,E,r⟩:=R
   exact⟨I,E,r.box,r.row,r.part,r.inj,⟨e,r.ob⟩,fun x d=>⟨e,r.ot x d⟩,fun i t x v d=>⟨e,r.op i t x v d⟩⟩
theorem HIn.more (H:HIn w b O h G) (p:ZE h.L.length)(Q:w.heap.size<=g) (o:w1.heap[g]?=some (.cells #[.int .i64 h.L.length,.int .i64 0,.int .i64 0,.slice none 0 0] 261 (0,0)))
 (F:w1.ownsMap prog 3 pelem G.bm n (G.D.put (Qg3 h.L.length) (.lit (.int .i64 (g:Int))))) (E:∀ x,x<w.heap.size->x≠G.bm->w1.heap[x]?=w.heap[x]?) (U:w.heap.size<=w1.heap.size) :
 HIn (w1.setCell ⟨b,1,none⟩ (.int .i64 (h.L.length+1:Nat))) b (fun x=>O x\/x=g) { h with L:=h.L++[newP] } { G with D:=G.D.put (Qg3 h.L.length) (.lit (.int .i64 (g:Int))),g:=fun j=>if j=h.L.length then g else G.g j,S:=fun j x=>if j=h.L.length then x=g else j<h.L.length/\G.S j x }:=by
 have A:∀ x,x≠b->(w1.setCell ⟨b,1,none⟩ (.int .i64 (h.L.length+1:Nat))).heap[x]?=w1.heap[x]?:=fun x c=>Xd _ _ _ _ c;have B:=XC H.top;have P:=H.map.lt;have l:h.place h.L.length=none:=by rw[Qc.place_nat];simp
 have C:∀ j:Int,j≠h.L.length->Qg3 j≠Qg3 (h.L.length:Int):=fun j a e=>a (by cases e;rfl);have s:WideAt.IsKeyLit (Qg3 (h.L.length:Int)):=hKeyed.key (Maps.keyOf_int_mk underlying3 (Qni p));refine⟨?_,Qb1 (Qau F (A _ (Ne.symm H.bne))),?_,?_,?_,?_,?_,.inl H.ob,.inl H.om,?_,?_⟩
 ·have y:w1.heap[b]?=_:=(E b B H.bne).trans H.top
  have:=Qm y 1 (.int .i64 (h.L.length+1:Nat))
  simpa using this
 ·have y:=Maps.size_put (k:=Qg3 (h.L.length:Int)) (H.map.tidy hKeyed) (.lit (.int .i64 (g:Int)));rw[H.has _ p,l,H.size] at y
  show Maps.size (G.D.put (Qg3 (h.L.length:Int)) (.lit (.int .i64 (g:Int))))=_;rw[y,Qc.live_push]
  rfl
 ·intro j a;rw[Qc.place_push]
  by_cases e:j=h.L.length
  ·subst e;rw[Maps.has_put_same H.map.isMap s,Xs Z];rfl
  ·rw[Xr e,Maps.has_put_other (C j e),H.has j a]
 ·intro j q a m;rw[Qc.place_push] at m
  by_cases e:j=h.L.length
  ·subst e;show (G.D.put _ _).atKey _ _=_;rw[Maps.atKey_put_same H.map.isMap s];simp
  ·rw[Xr e] at m
   show (G.D.put _ _).atKey _ _=_;have T:=(Qc.place_some m).1;have M:¬ j.toNat=h.L.length:=by omega
   rw[Maps.atKey_put_other (C j e),H.at_ j q a m]
   simp only[M,if_false]
 ·intro j q a m;by_cases e:j=h.L.length
  ·subst e
   have:q=newP:=by simpa using a.symm
   subst this;simp only[if_pos]
   refine⟨.slice none 0 0,fun _=>.slice none 0 0,?_,⟨Z,.inl ⟨Z,Z⟩⟩,fun i t N=>by simp[newP] at N,fun i j t u x d=>by simp[newP] at d,Z,fun x c=>by simp[Value.ownBlock] at c,fun i t x d=>by simp[newP] at d⟩
   rw[A g (by omega)];exact o
  ·have f:j<h.L.length:=by have:=(Zi a).1;simp at this;omega
   rw[XP f] at a
   simp only[e,if_false]
   have R:=(H.reg j q a m).keep (w':=w1.setCell ⟨b,1,none⟩ (.int .i64 (h.L.length+1:Nat))) (fun x c I=>(A x (H.os j x c).2.1).trans (E x I (H.os j x c).2.2));obtain⟨K,J,r⟩:=R
   exact⟨K,J,r.box,r.row,r.part,r.inj,⟨f,r.ob⟩,fun x c=>⟨f,r.ot x c⟩,fun i t x d c=>⟨f,r.op i t x d c⟩⟩
 ·intro i j x d a;by_cases z:i=h.L.length<;>by_cases v:j=h.L.length
  ·rw[z,v]
  ·simp only[z,if_pos,v,if_false] at d a
   have:=H.lt x (H.os j x a.2).1;omega
  ·simp only[z,if_pos,v,if_false] at d a
   have:=H.lt x (H.os i x d.2).1;omega
  ·simp only[z,v,if_false] at d a
   exact H.dis i j x d.2 a.2
 ·intro j x a;by_cases e:j=h.L.length
  ·simp only[e,if_pos] at a
   exact⟨.inr a,by omega,by show x≠G.bm;omega⟩
  ·simp only[e,if_false] at a
   exact⟨.inl (H.os j x a.2).1,(H.os j x a.2).2⟩
 ·rintro x (c | c)
  ·have:=H.lt x c;simp;omega
  ·subst c;have:=XC o;simpa using this
end
theorem Xt:type_of% @decide_eq_true:=@decide_eq_true
theorem Xu:type_of% @decide_eq_false:=@decide_eq_false
theorem Zb (w:World) (o:Obj):Below w.heap.size w (w.alloc o):=(Below.refl _ w).alloc Ze _
theorem Qaw (h:Below B w w1) (n:Nat):Below B w (w1.drewN n):=⟨h.os,h.tape,h.output,h.size,h.block⟩
theorem QaT (w:World) (o a:Obj):Below w.heap.size w ((w.alloc o).alloc a):=(Zb w o).alloc (by simp) _
theorem Qh1 (w:World) (c:Array Value) (t:TypeId) (a:Obj):((w.alloc (.cells c t)).alloc a).heap[w.heap.size]?=some (.cells c t (0,0)):=by
 rw[Below.heap_alloc _ _ _ (by simp)];exact Qe w c t
theorem Qcr (w:World) (o:Obj) (c:Array Value) (t:TypeId):((w.alloc o).alloc (.cells c t)).heap[w.heap.size+1]?=some (.cells c t (0,0)):=by
 have:=Qe (w.alloc o) c t
 simpa using this
theorem Qac {a0 e f g:Value}(h:w.heap[R]?=some (.cells #[a0,e,f,g] 211 (0,0))) (d c b a:Int) :
 ((((w.setCell ⟨R,0,none⟩ (Iv d)).setCell ⟨R,1,none⟩ (Iv c)).setCell ⟨R,2,none⟩ (Iv b)).setCell ⟨R,3,none⟩ (Iv a)).heap[R]?=some (.cells #[Iv d,Iv c,Iv b,Iv a] 211 (0,0)):=by
 have i:=Qm h 0 (Iv d);have k:=Qm i 1 (Iv c);have j:=Qm k 2 (Iv b);have l:=Qm j 3 (Iv a);simpa using l
theorem Qb6 (a:k≠R) (d c b e:Int):((((w.setCell ⟨R,0,none⟩ (Iv d)).setCell ⟨R,1,none⟩ (Iv c)).setCell ⟨R,2,none⟩ (Iv b)).setCell ⟨R,3,none⟩ (Iv e)).heap[k]?=w.heap[k]?:=by
 rw[Xd _ _ _ _ a,Xd _ _ _ _ a,Xd _ _ _ _ a,Xd _ _ _ _ a]
theorem Qb8 {b:World}(h:Below B b w) (a:B<=R) (e d c f:Int):Below B b ((((w.setCell ⟨R,0,none⟩ (Iv e)).setCell ⟨R,1,none⟩ (Iv d)).setCell ⟨R,2,none⟩ (Iv c)).setCell ⟨R,3,none⟩ (Iv f)) :=
 (((h.setCell (p:=⟨R,0,none⟩) a _).setCell (p:=⟨R,1,none⟩) a _).setCell (p:=⟨R,2,none⟩) a _).setCell (p:=⟨R,3,none⟩) a _
theorem Qep {a:World}(h:QZ O O' a w) (i:a.heap.size<=R) (d c b e:Int):QZ O O' a ((((w.setCell ⟨R,0,none⟩ (Iv d)).setCell ⟨R,1,none⟩ (Iv c)).setCell ⟨R,2,none⟩ (Iv b)).setCell ⟨R,3,none⟩ (Iv e)) :=
 ⟨h.os,h.tape,h.output,by simpa using h.size,fun k f g=>(Qb6 (by omega) d c b e).trans (h.block k f g),h.own⟩
theorem Qi4 (v:Qk):v.bare.kind=v.kind:=by
 unfold Qk.bare;split
 ·rename_i h;exact h.symm
 ·split
  ·rename_i h;exact h.symm
  ·split<;>rfl
theorem QjA (w:World) (a b n:Int):Calls prog 233 #[.agg #[Iv 1,Iv a,Iv b,Iv n]] w fun e w'=>e=.returned (.agg #[Iv 1,Iv 0,Iv 0,Iv n])/\Below w.heap.size w w':=by
 go_enter func233,ntmps233
 go_wp2
 exact Xy (v:=.agg #[Iv 1,Iv 0,Iv 0,Iv n]) (by simp[results,results233,go_sem]) Z ⟨Z,QaT _ _ _⟩
theorem QiC (w:World) (a b n:Int):Calls prog 233 #[.agg #[Iv 2,Iv a,Iv b,Iv n]] w fun e w'=>e=.returned (.agg #[Iv 2,Iv a,Iv 0,Iv 0])/\Below w.heap.size w w':=by
 go_enter func233,ntmps233
 go_wp2
 exact Xy (v:=.agg #[Iv 2,Iv a,Iv 0,Iv 0]) (by simp[results,results233,go_sem]) Z ⟨Z,QaT _ _ _⟩
theorem Qi0 (w:World) (a b n:Int):Calls prog 233 #[.agg #[Iv 3,Iv a,Iv b,Iv n]] w fun e w'=>e=.returned (.agg #[Iv 3,Iv a,Iv b,Iv 0])/\Below w.heap.size w w':=by
 go_enter func233,ntmps233
 go_wp2
 exact Xy (v:=.agg #[Iv 3,Iv a,Iv b,Iv 0]) (by simp[results,results233,go_sem]) Z ⟨Z,QaT _ _ _⟩
theorem Qja (w:World) (a b n:Int):Calls prog 233 #[.agg #[Iv 4,Iv a,Iv b,Iv n]] w fun e w'=>e=.returned (.agg #[Iv 4,Iv a,Iv b,Iv 0])/\Below w.heap.size w w':=by
 go_enter func233,ntmps233
 go_wp2
 exact Xy (v:=.agg #[Iv 4,Iv a,Iv b,Iv 0]) (by simp[results,results233,go_sem]) Z ⟨Z,QaT _ _ _⟩
theorem QiZ (w:World) (a b c n:Int) (d:(a==1)=false) (g:(a==2)=false) (f:(a==3)=false) (h:(a==4)=false):Calls prog 233 #[.agg #[Iv a,Iv b,Iv c,Iv n]] w fun e w'=>e=.returned (.agg #[Iv a,Iv 0,Iv 0,Iv 0])/\Below w.heap.size w w':=by
 go_enter func233,ntmps233
 go_wp2
 exact Xy (v:=.agg #[Iv a,Iv 0,Iv 0,Iv 0]) (by simp[results,results233,go_sem]) Z ⟨Z,QaT _ _ _⟩
theorem QfY (w:World) (v:Qk):Calls prog 233 #[QU v] w fun e w'=>e=.returned (QU v.bare)/\Below w.heap.size w w':=by
 obtain⟨a,b,c,n⟩:=v
 by_cases d:a=1
 ·subst d;exact QjA w b c n
 by_cases g:a=2
 ·subst g;exact QiC w b c n
 by_cases f:a=3
 ·subst f;exact Qi0 w b c n
 by_cases h:a=4
 ·subst h;exact Qja w b c n
 have:=QiZ w a b c n (by simpa using d) (by simpa using g) (by simpa using f) (by simpa using h)
 rw[show Qk.bare ⟨a,b,c,n⟩=⟨a,0,0,0⟩ by unfold Qk.bare;simp[d,g,f,h]]
 exact this
theorem Qdr (w:World) (a:Option Addr) (n c:Nat) (k:Int) (hn:n<=4611686018427387904):Calls prog 236 #[.slice a n c,Iv k] w fun e w'=>e=.returned (.bool (decide (0<=k)&&decide (k<(n:Int))))/\w'=w:=by
 by_cases d:0<=k
 ·have b:decide (0<=k)=true:=Xt d;have f:decide (k>=0)=true:=Xt d;rw[b]
  clear d;go_enter func236,ntmps236
  go_wp2
  go_ret;simp
 ·have b:decide (0<=k)=false:=Xu d;have f:decide (k>=0)=false:=Xu d;rw[b]
  clear d;go_enter func236,ntmps236
  go_wp2
  go_ret;simp
theorem Qmb (h:Qc) (v:Qk):(h.at v).isSome=((h.place v.region).isSome&&(v.kind==2)):=by
 unfold Qc.at;by_cases e:v.kind=2
 ·rw[Xs e,e];simp
 ·rw[Xr e];simp[e]
theorem QaV {h:Qc}{G:HG}(H:HIn w b O h G) (v:Qk) (k:v.ok) :
 Calls prog 196 #[Pv b 0,QU v] w fun e w'=>e=.returned (.tuple #[.pointer (hptr h G v.region),.bool (h.at v).isSome])/\Below w.heap.size w w':=by
 have d:=Qb (Zb w (.cells #[Iv v.kind,Iv v.region,Iv v.thing,Iv v.n] 211));have f:=Qb (Qe w #[Iv v.kind,Iv v.region,Iv v.thing,Iv v.n] 211);have i:=H.below d.out;have c:=i.lookN k.2.1;have j:=Qa i.top 2 _ Z;rw[Qmb h v]
 clear H i k;obtain⟨m,g,l,n⟩:=v
 simp only at *
 generalize hptr h G g=a at c |-;generalize (h.place g).isSome=ok at c |-;generalize G.bm=o at c j;go_enter func196,ntmps196
 go_upto_region 1 with fail
 generalize w.alloc (.cells #[Iv m,Iv g,Iv l,Iv n] 211)=p at d f c j |-;generalize w.heap.size=X at f |-;have q:=Qa f.out 0 _ Z;have r:=Qa f.out 1 _ Z;go_quiet (fail)
 go_wp2
 cases ok with
 | true =>
   go_quiet (fail)
   go_wp2
   go_ret2;exact⟨by simp,Qaw (Qaw d.out _) _⟩
 | false =>
   go_quiet (fail)
   go_wp2
   go_ret2;exact⟨by simp,Qaw (Qaw d.out _) _⟩
theorem Qlz {a:Addr}{o:Obj}(h:w.cell? a=some v):((w.drewN m).alloc o).cell? a=some v:=by
 have c:a.block<w.heap.size:=by
  rcases Nat.lt_or_ge a.block w.heap.size with b | b
  ·exact b
  ·simp[World.cell?,Array.getElem?_eq_none b] at h
 rw[<-h]
 exact XU (w:=w) (Below.heap_alloc (w.drewN m) o _ c)
theorem Qk9 (h:Below B w w1):Below B w w1.drew:=⟨h.os,h.tape,h.output,h.size,h.block⟩
theorem Qc8 {a:Addr}{o:Obj}(h:w.cell? a=some v):(w.alloc o).cell? a=some v:=Qlz (m:=0) h
theorem Qmz {l:List Qs}{pv:Nat->Value}{t:Qs}(h:w.ownsRow 0 294 2 (.slice (some ⟨g,0,none⟩) n c) l.length (Qad pv l 0)) (d:l[i]?=some t) :
 w.cell? ⟨g,i*2,none⟩=some (Iv t.knd)/\w.cell? ⟨g,i*2+1,none⟩=some (pv i):=by
 have p:=(Zi d).1;obtain⟨b,a⟩:=Qhn pv l 0 i t d
 rw[XK] at a
 rcases h.2 with ⟨e,-⟩|⟨o,j,k,e,-,f,-,-,-,m⟩
 ·cases e
 ·cases e
  rw[<-m] at b a
  rw[XR,Xs (by omega)] at b a
  exact⟨Qa f _ _ (by simpa using b),Qa f _ _ (by simpa using a)⟩
theorem Qf8 {h:Qc}{G:HG}(H:HIn w b O h G) (j c i n:Int) (f:ZE c) (o:h.place c=none) :
 Calls prog 235 #[Pv b 0,.agg #[Iv j,Iv c,Iv i,Iv n]] w fun e w'=>e=.returned (.tuple #[Nv,.bool false])/\Below w.heap.size w w':=by
 have l:=Qb (Zb w (.cells #[Iv j,Iv c,Iv i,Iv n] 211));have g:=Qb (Qe w #[Iv j,Iv c,Iv i,Iv n] 211);have k:=H.below l.out;have d:=k.lookN f;have m:=Qa k.top 2 _ Z;rw[o] at d
 clear H k f o;generalize hptr h G c=a at d |-;simp only[Option.isSome_none] at d
 generalize G.bm=p at d m;go_enter func235,ntmps235
 go_upto_region 1 with fail
 generalize w.alloc (.cells #[Iv j,Iv c,Iv i,Iv n] 211)=q at l g d m |-;generalize w.heap.size=X at g |-;have s:=Qa g.out 0 _ Z;have t:=Qa g.out 1 _ Z;have r:=Qa g.out 2 _ Z;go_quiet (fail)
 go_wp2
 go_quiet (fail)
 go_wp2
 go_ret2;exact⟨Z,Qaw (Qaw l.out _) _⟩
theorem Qh9 {h:Qc}{G:HG}(H:HIn w b O h G) (m d i n:Int) (j:ZE d){p:Ql}(t:h.place d=some p) (r:i<0) (B:p.l.length<=4611686018427387904){u:Value}{pv:Nat->Value}(R:Qaj w (G.g d.toNat) d.toNat p (G.S d.toNat) u pv) :
 Calls prog 235 #[Pv b 0,.agg #[Iv m,Iv d,Iv i,Iv n]] w fun e w'=>e=.returned (.tuple #[Nv,.bool false])/\Below w.heap.size w w':=by
 have o:=Qb (Zb w (.cells #[Iv m,Iv d,Iv i,Iv n] 211));have k:=Qb (Qe w #[Iv m,Iv d,Iv i,Iv n] 211);have q:=H.below o.out;have f:=q.lookN j;have v:=Qa q.top 2 _ Z;have y:=R.keep (fun x _ D=>o.out.block x D)
 obtain⟨L,N,rfl⟩:∃ a c,u=.slice a p.l.length c:=by
  rcases R.row.2 with ⟨e,A⟩|⟨g,C,z,e,_⟩
  ·exact⟨none,0,by rw[e,A]⟩
  ·exact⟨_,_,e⟩
 have s:=Qa y.box 3 _ Z;unfold hptr at f;rw[t] at f
 clear H q j t R y;simp only[Option.isSome_some,if_true] at f
 generalize G.bm=K at f v;generalize G.g d.toNat=P at f s;generalize p.l.length=I at *;have E:decide (i<0)=true:=Xt r;go_enter func235,ntmps235
 go_upto_region 1 with fail
 generalize w.alloc (.cells #[Iv m,Iv d,Iv i,Iv n] 211)=F at o k f v s |-;generalize w.heap.size=X at k |-;have Q:=Qa k.out 0 _ Z;have J:=Qa k.out 1 _ Z;have M:=Qa k.out 2 _ Z;go_quiet (fail)
 go_wp2
 go_quiet (fail)
 go_wp2
 go_ret2;exact⟨Z,Qaw (Qaw o.out _) _⟩
theorem Qh0 {h:Qc}{G:HG}(H:HIn w b O h G) (m d f n:Int) (j:ZE d){p:Ql}(t:h.place d=some p) (r:(p.l.length:Int)<=f) (C:p.l.length<=4611686018427387904){u:Value}{pv:Nat->Value}(R:Qaj w (G.g d.toNat) d.toNat p (G.S d.toNat) u pv) :
 Calls prog 235 #[Pv b 0,.agg #[Iv m,Iv d,Iv f,Iv n]] w fun e w'=>e=.returned (.tuple #[Nv,.bool false])/\Below w.heap.size w w':=by
 have o:=Qb (Zb w (.cells #[Iv m,Iv d,Iv f,Iv n] 211));have k:=Qb (Qe w #[Iv m,Iv d,Iv f,Iv n] 211);have q:=H.below o.out;have i:=q.lookN j;have v:=Qa q.top 2 _ Z;have y:=R.keep (fun x _ F=>o.out.block x F)
 obtain⟨M,P,rfl⟩:∃ a c,u=.slice a p.l.length c:=by
  rcases R.row.2 with ⟨e,A⟩|⟨g,E,z,e,_⟩
  ·exact⟨none,0,by rw[e,A]⟩
  ·exact⟨_,_,e⟩
 have s:=Qa y.box 3 _ Z;unfold hptr at i;rw[t] at i
 clear H q j t R y;simp only[Option.isSome_some,if_true] at i
 generalize G.bm=L at i v;generalize G.g d.toNat=Q at i s;generalize p.l.length=D at *;have I:decide (f<0)=false:=Xu (by omega);have B:decide (f>=(D:Int))=true:=Xt r;go_enter func235,ntmps235
 go_upto_region 1 with fail
 generalize w.alloc (.cells #[Iv m,Iv d,Iv f,Iv n] 211)=J at o k i v s |-;generalize w.heap.size=X at k |-;have T:=Qa k.out 0 _ Z;have K:=Qa k.out 1 _ Z;have N:=Qa k.out 2 _ Z;go_quiet (fail)
 go_wp2
 go_quiet (fail)
 go_wp2
 go_ret2;exact⟨Z,Qaw (Qaw o.out _) _⟩
theorem Qgc {h:Qc}{G:HG}(H:HIn w b O h G) (r f n:Int) (i:Nat) (s:ZE f){p:Ql}(hp:h.place f=some p){t:Qs}(E:p.l[i]?=some t) (ad:p.l.length<=4611686018427387904){tv:Value}{pv:Nat->Value}(R:Qaj w (G.g f.toNat) f.toNat p (G.S f.toNat) tv pv) :
 Calls prog 235 #[Pv b 0,.agg #[Iv r,Iv f,Iv (i:Int),Iv n]] w fun e w'=>e=.returned (.tuple #[pv i,.bool (t.knd==r)])/\Below w.heap.size w w':=by
 have u:=Qb (Zb w (.cells #[Iv r,Iv f,Iv (i:Int),Iv n] 211));have m:=Qb (Qe w #[Iv r,Iv f,Iv (i:Int),Iv n] 211);have N:=H.below u.out;have j:=N.lookN s;have T:=Qa N.top 2 _ Z;have R1:=R.keep (fun x _ hx=>u.out.block x hx);have hi:=(Zi E).1
 obtain⟨tg,tc,rfl⟩:∃ g c,tv=.slice (some ⟨g,0,none⟩) p.l.length c:=by
  rcases R.row.2 with ⟨e,e0⟩|⟨g,ae,ab,e,_⟩
  ·omega
  ·exact⟨_,_,e⟩
 obtain⟨W,z⟩:=Qmz R1.row E
 obtain⟨v,C,D,q⟩:∃ a n c,pv i=.slice a n c:=by
  obtain⟨⟨a,c,e⟩,-⟩:=R.part i t E
  exact⟨a,_,c,e⟩
 rw[q] at z |-
 have y:=Qa R1.box 3 _ Z;unfold hptr at j;rw[hp] at j
 clear H N s hp R R1 E q;simp only[Option.isSome_some,if_true] at j
 generalize G.bm=bm at j T;generalize G.g f.toNat=gk at j y;generalize p.l.length=tn at *;generalize t.knd=F at *;have hd:decide ((i:Int)<0)=false:=Xu (by omega);have ac:decide ((i:Int)>=(tn:Int))=false:=Xu (by omega);go_enter func235,ntmps235
 go_upto_region 1 with fail
 generalize w.alloc (.cells #[Iv r,Iv f,Iv (i:Int),Iv n] 211)=k at u m j T y W z |-;generalize w.heap.size=X at m |-;have x0:=Qa m.out 0 _ Z;have x1:=Qa m.out 1 _ Z;have x2:=Qa m.out 2 _ Z;go_quiet (fail)
 go_wp2
 revert nq
 intro d;go_quiet (fail)
 go_wp2_with fail
 have B:=Qb (Qaw (Qaw u.out d) nq);have K:((k.drewN d).drewN nq).cell? ⟨X,0,none⟩=_:=x0;have y2:((k.drewN d).drewN nq).cell? ⟨X,2,none⟩=_:=x2;have U:((k.drewN d).drewN nq).cell? ⟨gk,3,none⟩=_:=y;have M:((k.drewN d).drewN nq).cell? ⟨tg,i*2,none⟩=_:=W;have I:((k.drewN d).drewN nq).cell? ⟨tg,i*2+1,none⟩=_:=z;generalize (k.drewN d).drewN nq=V at B K y2 U M I |-;clear x0 x1 x2 y W z j T m u;have Q:=Qc8 (o:=.cells #[Iv 0,Nv] 294) y2;have P:=Qc8 (o:=.cells #[Iv 0,Nv] 294) U;have aa:=Qc8 (o:=.cells #[Iv 0,Nv] 294) M;have J:=Qc8 (o:=.cells #[Iv 0,Nv] 294) I;have A:=Qb (Qe V #[Iv F,.slice v C D] 294);have B3:=Qb ((B.out.alloc B.out.size (.cells #[Iv F,.slice v C D] 294)));have L:=Qc8 (o:=.cells #[Iv F,.slice v C D] 294) K;go_region;go_wp2_with fail
 generalize V.alloc (.cells #[Iv F,.slice v C D] 294)=w3 at A B3 L |-;generalize V.heap.size=Y at A |-;have n0:=Qa A.out 0 _ Z;have n1:=Qa A.out 1 _ Z;clear B K y2 U M I Q P aa J;go_quiet (fail)
 go_wp2
 go_ret2;exact⟨Z,Qaw (Qk9 B3.out) _⟩
def Qhq (w:World) (h:Qc) (G:HG) (v:Qk) (a:Option Addr) (n c:Nat):Prop :=
 ∀ t,h.thing v=some t->n=t.l.length/\∃ p tv pv,0<=v.thing/\h.place v.region=some p/\p.l[v.thing.toNat]?=some t/\Qaj w (G.g v.region.toNat) v.region.toNat p (G.S v.region.toNat) tv pv/\pv v.thing.toNat=.slice a n c
theorem Qmi (t:Qs) (a:Int):(t.knd==a)=(decide (a=3\/a=4)&&(t.arr==decide (a=4))):=by
 unfold Qs.knd;by_cases b:a=3
 ·subst b;cases t.arr<;>rfl
 ·by_cases c:a=4
  ·subst c;cases t.arr<;>rfl
  ·cases t.arr<;>simp[b,c]<;>omega
theorem Qci {h:Qc}{G:HG}(H:HIn w b O h G) (v:Qk) (u:v.ok) (A:∀ (k:Nat) (p:Ql),h.L[k]?=some p->p.l.length<=4611686018427387904) :
 Calls prog 235 #[Pv b 0,QU v] w fun e w'=>(∃ a n c,e=.returned (.tuple #[.slice a n c,.bool (h.thing v).isSome])/\Qhq w h G v a n c)/\Below w.heap.size w w':=by
 obtain⟨g,o,m,n⟩:=v
 have z:∀ (D:h.thing ⟨g,o,m,n⟩=none) (e:Ending) (w':World),(e=.returned (.tuple #[Nv,.bool false])/\Below w.heap.size w w')->(∃ a n' c,e=.returned (.tuple #[.slice a n' c,.bool (h.thing ⟨g,o,m,n⟩).isSome])/\Qhq w h G ⟨g,o,m,n⟩ a n' c)/\Below w.heap.size w w':=by
  rintro D e w' ⟨rfl,C⟩;exact⟨⟨none,0,0,by rw[D];rfl,fun t q=>by rw[D] at q;cases q⟩,C⟩
 cases hp:h.place o with
 | none=>exact(Qf8 H g o m n u.2.1 hp).mono (z (by unfold Qc.thing;simp[hp]))
 | some p =>
   obtain⟨Q,E,M⟩:=Qc.place_some hp
   obtain⟨N,J,R⟩:=H.reg _ p E M
   have j:=A _ p E;by_cases d:m<0
   ·exact(Qh9 H g o m n u.2.1 hp d j R).mono (z (by unfold Qc.thing;simp[hp,d]))
   by_cases s:(p.l.length:Int)<=m
   ·exact(Qh0 H g o m n u.2.1 hp s j R).mono (z (by unfold Qc.thing;simp[hp,d,List.getElem?_eq_none (show p.l.length<=m.toNat by omega)]))
   obtain⟨i,rfl⟩:=Xc (show 0<=m by omega)
   obtain⟨t,q⟩:∃ t,p.l[i]?=some t:=⟨_,Zg (show i<p.l.length by omega)⟩
   obtain⟨⟨I,K,r⟩,-⟩:=R.part i t q
   refine(Qgc H g o n i u.2.1 hp q j R).mono ?_
   rintro e w' ⟨rfl,C⟩
   have F:(h.thing ⟨g,o,(i:Int),n⟩).isSome=(t.knd==g):=by
    rw[Qmi]
    unfold Qc.thing;simp only[hp,Int.toNat_natCast,q,if_neg d]
    by_cases x:g=3\/g=4
    ·rw[Xs x,Xt x]
     by_cases y:t.arr=decide (g=4)
     ·rw[Xs y,y];simp
     ·have B:(t.arr==decide (g=4))=false:=beq_false_of_ne y;rw[Xr y,B];rfl
    ·rw[Xr x,Xu x];rfl
   refine⟨⟨I,t.l.length,K,by rw[F,r],fun P f=>?_⟩,C⟩
   have:P=t:=by
    unfold Qc.thing at f;simp only[hp,Int.toNat_natCast,q,if_neg d] at f
    split at f
    ·split at f
     ·cases f;rfl
     ·cases f
    ·cases f
   subst this;exact⟨Z,p,N,J,Int.natCast_nonneg i,hp,by simpa using q,R,by simpa using r⟩
theorem Qj2 {h:Qc}{G:HG}(H:HIn w b O h G) (v:Qk) (r:v.ok) (f:∀ (k:Nat) (p:Ql),h.L[k]?=some p->p.l.length<=4611686018427387904) :
 Calls prog 203 #[Pv b 0,QU v] w fun e w'=>e=.returned (.tuple #[Iv (h.len v).1,Iv (h.len v).2])/\Below w.heap.size w w':=by
 have g:=Qb (Zb w (.cells #[Iv v.kind,Iv v.region,Iv v.thing,Iv v.n] 211));have d:=Qb (Qe w #[Iv v.kind,Iv v.region,Iv v.thing,Iv v.n] 211);have C:=Qb (Qci (H.below g.out) v r f);have E:=Qb (show h.len v=match h.thing v with | none=>(0,20) | some t=>(t.l.length,0) from Z);clear H r f;generalize j:h.len v=y at E |-;clear j;go_enter func203,ntmps203
 go_upto_region 1 with fail
 generalize w.alloc (.cells #[Iv v.kind,Iv v.region,Iv v.thing,Iv v.n] 211)=B at g d C |-;have i:=g;generalize w.heap.size=X at d |-;have x:=Qa d.out 0 _ Z;have u:=Qa d.out 1 _ Z;have s:=Qa d.out 2 _ Z;have A:=Qa d.out 3 _ Z;go_wp2_with fail
 refine C.out.mono ?_;rintro e D ⟨⟨a,n,c,rfl,P⟩,o⟩;have q:=Qb (i.out.trans (o.mono i.out.size))
 cases ht:h.thing v with
 | none =>
   have m:Hid (y=(0,20)):=by show _=_;rw[E.out,ht]
   simp only[Option.isSome_none]
   clear E C P ht x u s A d g i o;go_wp2
   go_ret2;exact⟨by rw[m.out];rfl,q.out⟩
 | some t =>
   have z:=(P t ht).1;have m:Hid (y=((n:Int),0)):=by show _=_;rw[E.out,ht,z]
   simp only[Option.isSome_some]
   clear E C P ht x u s A d g i o z;go_wp2
   go_ret2;exact⟨by rw[m.out];rfl,q.out⟩
theorem QgQ {l:List Qk}{x:Qk}(a:l[k]?=some x) (b:j<4):Zu l (k*4+j)=vAt x j:=by
 unfold Zu;rw[show (k*4+j) / 4=k by omega,show (k*4+j)%4=j by omega]
 simp[List.getD,a]
theorem QaH {l:List Qk}(h:w.rowIs g 211 (l.length*4) (Zu l)){x:Qk}(a:l[k]?=some x):w.cell? ⟨g,k*4,none⟩=some (Iv x.kind)/\w.cell? ⟨g,k*4+1,none⟩=some (Iv x.region)/\w.cell? ⟨g,k*4+2,none⟩=some (Iv x.thing)/\w.cell? ⟨g,k*4+3,none⟩=some (Iv x.n):=by
 have d:=(Zi a).1;have c:∀ j,j<4->w.cell? ⟨g,k*4+j,none⟩=some (vAt x j):=fun j b=>by rw[<-QgQ a b];exact h.cell (by omega)
 exact⟨c 0 (by omega),c 1 (by omega),c 2 (by omega),c 3 (by omega)⟩
theorem QkO {h:Qc}{G:HG}(H:HIn w b O h G) (v:Qk) (hv:v.ok) (k:Int) (J:∀ (k:Nat) (p:Ql),h.L[k]?=some p->p.l.length<=4611686018427387904) (N:∀ t,h.thing v=some t->t.l.length<=4611686018427387904) :
 Calls prog 201 #[Pv b 0,QU v,Iv k] w fun e w'=>e=.returned (.tuple #[QU (h.get v k).1,Iv (h.get v k).2])/\Below w.heap.size w w':=by
 have Q:=Qb (QaT w (.cells #[Iv v.kind,Iv v.region,Iv v.thing,Iv v.n] 211) (.cells #[Iv 0,Iv 0,Iv 0,Iv 0] 211));have s:=Qb (Qh1 w #[Iv v.kind,Iv v.region,Iv v.thing,Iv v.n] 211 (.cells #[Iv 0,Iv 0,Iv 0,Iv 0] 211));have o:=Qb (Qcr w (.cells #[Iv v.kind,Iv v.region,Iv v.thing,Iv v.n] 211) #[Iv 0,Iv 0,Iv 0,Iv 0] 211);have H1:=Qb (H.below Q.out);have C:=Qb (Qci H1.out v hv J);have E:=Qb (show h.get v k=match h.thing v with | none=>(noV,20) | some t=>if k<0 then (noV,1) else match t.l[k.toNat]? with | none=>(noV,1) | some x=>(x,0) from Z);have HT:=Qb N;clear H hv J N;generalize aa:h.get v k=lv at E |-;clear aa;go_enter func201,ntmps201
 go_upto_region 1 with fail
 generalize (w.alloc (.cells #[Iv v.kind,Iv v.region,Iv v.thing,Iv v.n] 211)).alloc (.cells #[Iv 0,Iv 0,Iv 0,Iv 0] 211)=w1 at Q s o C H1 |-;obtain⟨X,hX⟩:∃ X,X=w.heap.size:=⟨_,Z⟩
 obtain⟨R,hR⟩:∃ R,R=X+1:=⟨_,Z⟩
 have HR:Hid (w.heap.size<=R):=by show _<=_;omega
 rw[<-hX] at s o |-
 rw[<-hR] at o |-
 clear hX hR;have A:=Qa s.out 0 _ Z;have u:=Qa s.out 1 _ Z;have y:=Qa s.out 2 _ Z;have z:=Qa s.out 3 _ Z;go_wp2_with fail
 refine C.out.mono ?_;rintro e r ⟨⟨a,n,c,rfl,P⟩,U⟩;have BL:=Qb (Q.out.trans (U.mono Q.out.size));have d:=Qb ((U.block R (XC o.out)).trans o.out);clear A u y z C s Q;have r0:=Qa d.out 0 _ Z;have r1:=Qa d.out 1 _ Z;have r2:=Qa d.out 2 _ Z;have r3:=Qa d.out 3 _ Z;have f0:=Qd d.out 0;have f1:=Qd d.out 1;have f2:=Qd d.out 2;have f3:=Qd d.out 3;have j:Hid (∀ A u y z:Int,Below w.heap.size w ((((r.setCell ⟨R,0,none⟩ (Iv A)).setCell ⟨R,1,none⟩ (Iv u)).setCell ⟨R,2,none⟩ (Iv y)).setCell ⟨R,3,none⟩ (Iv z))/\((((r.setCell ⟨R,0,none⟩ (Iv A)).setCell ⟨R,1,none⟩ (Iv u)).setCell ⟨R,2,none⟩ (Iv y)).setCell ⟨R,3,none⟩ (Iv z)).heap[R]?=some (.cells #[Iv A,Iv u,Iv y,Iv z] 211 (0,0))):=fun A u y z=>⟨Qb8 BL.out HR.out _ _ _ _,Qac d.out _ _ _ _⟩
 cases ht:h.thing v with
 | none =>
   have B:Hid (lv=(noV,20)):=by show _=_;rw[E.out,ht]
   simp only[Option.isSome_none]
   clear E P ht U o d BL HR H1 HT;go_wp2
   have f:=j.out 0 0 0 0;generalize ((((r.setCell ⟨R,0,none⟩ (Iv 0)).setCell ⟨R,1,none⟩ (Iv 0)).setCell ⟨R,2,none⟩ (Iv 0)).setCell ⟨R,3,none⟩ (Iv 0))=S at f |-;have F:=Qa f.2 0 _ Z;have m:=Qa f.2 1 _ Z;have I:=Qa f.2 2 _ Z;have T:=Qa f.2 3 _ Z;exact Xy (v:=.tuple #[.agg #[Iv 0,Iv 0,Iv 0,Iv 0],Iv 20]) (by simp[results,results201,go_sem,F,m,I,T]) Z ⟨by rw[B.out]<;>rfl,f.1⟩
 | some t =>
   obtain⟨hn,p,tv,pv,h0,hp,hi,RI,hs⟩:=P t ht
   have M:=RI.keep (w':=r) (fun x _ V=>U.block x V);have ab:n<=4611686018427387904:=by rw[hn];exact HT.out t ht
   have CP:=Qb (fun wx=>Qdr wx a n c k ab);have W:Hid (lv=(if k<0 then (noV,1) else match t.l[k.toNat]? with | none=>(noV,1) | some x=>(x,0):Qk × Int)):=by show _=_;rw[E.out,ht]
   have PA:Hid (ZP r (.slice a n c) t.l):=by show ZP _ _ _;rw[<-hs];exact M.part _ t hi
   have HN:=Qb hn;simp only[Option.isSome_some]
   clear E P ht U o d BL HR H1 HT RI M hs hi hp h0 hn;by_cases K:0<=k/\k<(n:Int)
   ·have D:(decide (0<=k)&&decide (k<(n:Int)))=true:=by simp[K.1,K.2]
    rw[D] at CP
    clear D;obtain⟨kn,rfl⟩:=Xc K.1
    have i:kn<t.l.length:=by rw[<-HN.out];omega
    obtain⟨x,V⟩:∃ x,t.l[kn]?=some x:=⟨_,Zg i⟩
    have B:Hid (lv=(x,0)):=by show _=_;rw[W.out,Xr (by omega),XT,V]
    obtain⟨g,c',e',hr⟩:=PA.out.2 (fun e=>by rw[e] at i;simp at i)
    simp only[Value.slice.injEq] at e'
    obtain⟨rfl,m,rfl⟩:=e'
    obtain⟨q0,q1,q2,q3⟩:=QaH hr V
    have ac:kn<n:=by omega
    have ad:(kn:Int)<n:=by omega
    clear K i hr V W PA HN m;obtain⟨xk,xr,xt,xn⟩:=x
    simp only at q0 q1 q2 q3
    go_wp2_with (go_at_call 236;refine(CP.out _).mono ?_;rintro e w' ⟨rfl,q⟩;have q:=q.symm;subst q)
    have f:=j.out xk xr xt xn;generalize ((((r.setCell ⟨R,0,none⟩ (Iv xk)).setCell ⟨R,1,none⟩ (Iv xr)).setCell ⟨R,2,none⟩ (Iv xt)).setCell ⟨R,3,none⟩ (Iv xn))=S at f |-;have F:=Qa f.2 0 _ Z;have m:=Qa f.2 1 _ Z;have I:=Qa f.2 2 _ Z;have T:=Qa f.2 3 _ Z;exact Xy (v:=.tuple #[.agg #[Iv xk,Iv xr,Iv xt,Iv xn],Iv 0]) (by simp[results,results201,go_sem,F,m,I,T]) Z ⟨by rw[B.out]<;>rfl,f.1⟩
   ·have D:(decide (0<=k)&&decide (k<(n:Int)))=false:=by
     by_cases h1:0<=k
     ·rw[Xu (show ¬ k<(n:Int) by omega)];simp
     ·rw[Xu h1];rfl
    rw[D] at CP
    have B:Hid (lv=(noV,1)):=by
     show _=_;rw[W.out]
     by_cases h1:k<0
     ·rw[Xs h1]
     ·rw[Xr h1,Xk (by rw[<-HN.out];omega)]
    clear K D W PA HN;go_wp2_with (go_at_call 236;refine(CP.out _).mono ?_;rintro e w' ⟨rfl,q⟩;have q:=q.symm;subst q)
    have f:=j.out 0 0 0 0;generalize ((((r.setCell ⟨R,0,none⟩ (Iv 0)).setCell ⟨R,1,none⟩ (Iv 0)).setCell ⟨R,2,none⟩ (Iv 0)).setCell ⟨R,3,none⟩ (Iv 0))=S at f |-;have F:=Qa f.2 0 _ Z;have m:=Qa f.2 1 _ Z;have I:=Qa f.2 2 _ Z;have T:=Qa f.2 3 _ Z;exact Xy (v:=.tuple #[.agg #[Iv 0,Iv 0,Iv 0,Iv 0],Iv 1]) (by simp[results,results201,go_sem,F,m,I,T]) Z ⟨by rw[B.out]<;>rfl,f.1⟩
theorem Xv:type_of% @of_decide_eq_true:=@of_decide_eq_true
theorem HIn.regSame {h:Qc}{G:HG}(H:HIn w b O h G){p p':Ql}(m:h.L[k]?=some p) (f:p.there=true) (a:p'.there=true) (d:QdP w' (G.g k) k p' (G.S k)) (c:QZ (G.S k) (G.S k) w w') :
 HIn w' b O { h with L:=h.L.set k p' } G:=by
 have R:=H.regTo m f a d (fun x n=>Zl (H.lt x (H.os k x n).1) c.size) c;have l:(fun x=>O x\/G.S k x)=O:=funext fun x=>propext ⟨fun h=>h.elim id (fun h=>(H.os k x h).1),Or.inl⟩
 have i:({ G with S:=fun j=>if j=k then G.S k else G.S j }:HG)=G:=by
  have:(fun j=>if j=k then G.S k else G.S j)=G.S:=funext fun j=>by
   by_cases e:j=k
   ·rw[Xs e,e]
   ·rw[Xr e]
  rw[this]
 rwa [l,i] at R
theorem QdI {l:List Qk}(h:w.rowIs g 211 (l.length*4) (Zu l))(n:k<l.length) (c b a d:Int) :
 ((((w.setCell ⟨g,k*4,none⟩ (Iv c)).setCell ⟨g,k*4+1,none⟩ (Iv b)).setCell ⟨g,k*4+2,none⟩ (Iv a)).setCell ⟨g,k*4+3,none⟩ (Iv d)).rowIs g 211 ((l.set k ⟨c,b,a,d⟩).length*4) (Zu (l.set k ⟨c,b,a,d⟩)):=by
 rw[List.length_set]
 refine((((h.set (k*4) (Iv c)).set (k*4+1) (Iv b)).set (k*4+2) (Iv a)).set (k*4+3) (Iv d)).congr fun i p=>?_
 by_cases e:i / 4=k
 ·have o:(l.set k ⟨c,b,a,d⟩)[k]?=some ⟨c,b,a,d⟩:=by simp[n]
  obtain⟨j,f,rfl⟩:∃ j,j<4/\i=k*4+j:=⟨i%4,by omega,by omega⟩
  rw[QgQ o f]
  match j,f with
  | 0,_=>simp[vAt]
  | 1,_=>simp[vAt]
  | 2,_=>simp[vAt]
  | 3,_=>simp[vAt]
  | j+4,f=>omega
 ·rw[Xr (by omega),Xr (by omega),Xr (by omega),Xr (by omega)]
  unfold Zu;simp[List.getD,List.getElem?_set_ne (show k≠i / 4 from fun m=>e m.symm)]
theorem Qhx (hi:i≠g) (d a c b:Int):((((w.setCell ⟨g,k*4,none⟩ (Iv d)).setCell ⟨g,k*4+1,none⟩ (Iv a)).setCell ⟨g,k*4+2,none⟩ (Iv c)).setCell ⟨g,k*4+3,none⟩ (Iv b)).heap[i]?=w.heap[i]?:=by
 rw[Xd _ _ _ _ hi,Xd _ _ _ _ hi,Xd _ _ _ _ hi,Xd _ _ _ _ hi]
theorem Qgz {h:Qc}{v:Qk}{t:Qs}(a:h.thing v=some t):v.kind=t.knd/\(v.kind=3\/v.kind=4)/\(t.arr=decide (v.kind=4)):=by
 unfold Qc.thing at a;split at a
 ·rename_i b
  split at a
  ·cases a
  ·split at a
   ·cases a
   ·split at a
    ·cases a
    ·split at a
     ·rename_i c
      cases a
      refine⟨?_,b,c⟩
      unfold Qs.knd;rw[c]
      rcases b with e | e<;>rw[e]<;>rfl
     ·cases a
 ·cases a
theorem Qj0 {h:Qc}{G:HG}(H:HIn w b O h G) (v:Qk) (hv:v.ok) (k:Int) (x:Qk) (ae:∀ (k:Nat) (p:Ql),h.L[k]?=some p→p.l.length≤4611686018427387904) (ac:∀ t,h.thing v=some t→t.l.length≤4611686018427387904) :
 Calls prog 202 #[Pv b 0,QU v,Iv k,QU x] w fun e w'=>e=.returned (Iv (h.set v k x.bare).1)∧HIn w' b O (h.set v k x.bare).2 G∧QZ O O w w':=by
 have B0:=Qb (QaT w (.cells #[Iv v.kind,Iv v.region,Iv v.thing,Iv v.n] 211) (.cells #[Iv x.kind,Iv x.region,Iv x.thing,Iv x.n] 211));have J:=Qb (Qh1 w #[Iv v.kind,Iv v.region,Iv v.thing,Iv v.n] 211 (.cells #[Iv x.kind,Iv x.region,Iv x.thing,Iv x.n] 211));have BR:=Qb (Qcr w (.cells #[Iv v.kind,Iv v.region,Iv v.thing,Iv v.n] 211) #[Iv x.kind,Iv x.region,Iv x.thing,Iv x.n] 211);have H1:=Qb (H.below B0.out);have H0:=Qb H;have C:=Qb (Qci H1.out v hv ae);have HT:=Qb ac;clear H hv ae ac;go_enter func202,ntmps202
 go_upto_region 1 with fail
 generalize ((w.alloc (.cells #[Iv v.kind,Iv v.region,Iv v.thing,Iv v.n] 211)).alloc (.cells #[Iv x.kind,Iv x.region,Iv x.thing,Iv x.n] 211))=w1 at B0 J BR C H1 ⊢;obtain⟨X,hX⟩:∃ X,X=w.heap.size:=⟨_,Z⟩
 obtain⟨R,hR⟩:∃ R,R=X+1:=⟨_,Z⟩
 rw[← hX] at J BR ⊢
 rw[← hR] at BR ⊢
 clear hX hR;have x0:=Qa J.out 0 _ Z;have x1:=Qa J.out 1 _ Z;have x2:=Qa J.out 2 _ Z;have x3:=Qa J.out 3 _ Z;go_wp2_with fail
 refine C.out.mono ?_;rintro e w2 ⟨⟨a,n,c,rfl,P⟩,U⟩;have BL:=Qb (B0.out.trans (U.mono B0.out.size));have r:=Qb ((U.block X (XC J.out)).trans J.out);have j:=Qb ((U.block R (XC BR.out)).trans BR.out);have V:Hid (HIn w2 b O h G∧QZ O O w w2):=⟨H1.out.below U,QZ.of_below BL.out (fun k I=>.inl I)⟩;clear x0 x1 x2 x3 C J BR B0;have x0:=Qa r.out 0 _ Z;have r0:=Qa j.out 0 _ Z;have r1:=Qa j.out 1 _ Z;have r2:=Qa j.out 2 _ Z;have r3:=Qa j.out 3 _ Z
 cases ht:h.thing v with
 | none =>
   have E:Hid (h.set v k x.bare=(20,h)):=by show _=_;unfold Qc.set;rw[ht]
   simp only[Option.isSome_none]
   clear ht P U H1 HT r j;go_wp2
   go_ret;rw[E.out]
   exact⟨Z,V.out⟩
 | some t =>
   obtain⟨hn,p,tv,pv,h0,hp,hi,RI,hs⟩:=P t ht
   have W:=Qb (RI.keep (w':=w2) (fun x _ s=>U.block x s));have ag:n≤4611686018427387904:=by rw[hn];exact HT.out t ht
   have CP:=Qb (fun wx=>Qdr wx a n c k ag);have CB:=Qb (fun wx=>QfY wx x);obtain⟨af,ad,F⟩:=Qgz ht
   have E:Hid (h.set v k x.bare=if t.arr=true∧x.kind≠1 then (20,h) else if k<0∨n≤k.toNat then (1,h) else (0,{ h with L:=h.L.set v.region.toNat { p with l:=p.l.set v.thing.toNat { t with l:=t.l.set k.toNat x.bare } } })):=by
    show _=_;unfold Qc.set;rw[ht,hp,Qi4,hn]
   have HP:=Qb hp;have HI:=Qb hi;have HS:=Qb hs;have HN:=Qb hn;clear ht P U H1 HT RI hp hi hs hn;simp only[Option.isSome_some]
   -- x may not stand in an array
   by_cases N:t.arr=true∧x.kind≠1
   ·have aa:v.kind=4:=by
     have:=F;rw[N.1] at this;exact Xv this.symm
    rw[Xs N] at E
    rw[aa] at x0
    have aj:(x.kind != 1)=true:=by simpa using N.2
    clear af ad F N aa r j;go_wp2
    go_ret;rw[E.out]
    exact⟨Z,V.out⟩
   rw[Xr N] at E
   -- what the guard comes to
   have gd:Hid ((v.kind==4)=false∨((v.kind==4)=true∧(x.kind != 1)=false)):=by
    by_cases h4:v.kind=4
    ·right
     refine⟨by simpa using h4,?_⟩
     have:t.arr=true:=by rw[F];simpa using h4
     have:x.kind=1:=Classical.byContradiction fun e=>N ⟨this,e⟩
     simpa using this
    ·left;simpa using h4
   clear N af ad F;by_cases I:0≤k∧k<(n:Int)
   ·have hd:(decide (0≤k)&&decide (k<(n:Int)))=true:=by simp[I.1,I.2]
    rw[hd] at CP
    clear hd;obtain⟨d,rfl⟩:=Xc I.1
    have K:d<t.l.length:=by rw[← HN.out];omega
    rw[Xr (by omega),XT] at E
    have PA:ZP w2 (.slice a n c) t.l:=by rw[← HS.out];exact W.out.part _ t HI.out
    have Q:t.l≠[]:=fun e=>by rw[e] at K;simp at K
    obtain⟨g,c',e',hr⟩:=PA.2 Q
    simp only[Value.slice.injEq] at e'
    obtain⟨rfl,e1,rfl⟩:=e'
    have HG:Hid (QcM (pv v.thing.toNat) t g):=⟨Q,by rw[HS.out];rfl⟩;have ah:d<n:=by omega
    have ai:(d:Int)<n:=by omega
    have HR:=Qb hr;have HK:=Qb K
    have HM:Hid (∀ f:World,Below w2.heap.size w2 f→(∀ u A o B:Int,x.bare=⟨u,A,o,B⟩→HIn ((((f.setCell ⟨g,d*4,none⟩ (Iv u)).setCell ⟨g,d*4+1,none⟩ (Iv A)).setCell ⟨g,d*4+2,none⟩ (Iv o)).setCell ⟨g,d*4+3,none⟩ (Iv B)) b O (h.set v (d:Int) x.bare).2 G∧QZ O O w ((((f.setCell ⟨g,d*4,none⟩ (Iv u)).setCell ⟨g,d*4+1,none⟩ (Iv A)).setCell ⟨g,d*4+2,none⟩ (Iv o)).setCell ⟨g,d*4+3,none⟩ (Iv B)))∧(∃ z:Qk,f.cell? ⟨g,d*4,none⟩=some (Iv z.kind)∧f.cell? ⟨g,d*4+1,none⟩=some (Iv z.region)∧f.cell? ⟨g,d*4+2,none⟩=some (Iv z.thing)∧f.cell? ⟨g,d*4+3,none⟩=some (Iv z.n))∧(∀ i,f.frozen? ⟨g,i,none⟩=false)):=by
     intro f D;have T:f.rowIs g 211 (t.l.length*4) (Zu t.l):=HR.out.of_block (D.block g HR.out.lt);refine⟨fun u A o B hy=>?_,⟨_,QaH T (Zg HK.out)⟩,T.frozen⟩
     obtain⟨q1,q2,q3⟩:=Qc.place_some HP.out
     have ab:=W.out.keep (fun x _ s=>D.block x s);have H3:=V.out.1.below D;have gS:G.S v.region.toNat g:=ab.op _ t g HI.out HG.out;have st:QZ (G.S v.region.toNat) (G.S v.region.toNat) f ((((f.setCell ⟨g,d*4,none⟩ (Iv u)).setCell ⟨g,d*4+1,none⟩ (Iv A)).setCell ⟨g,d*4+2,none⟩ (Iv o)).setCell ⟨g,d*4+3,none⟩ (Iv B)):=(((QZ.refl _ f).setCell (p:=⟨g,d*4,none⟩) gS _).setCell (p:=⟨g,d*4+1,none⟩) gS _).setCell (p:=⟨g,d*4+2,none⟩) gS _ |>.setCell (p:=⟨g,d*4+3,none⟩) gS _
     refine⟨?_,(V.out.2.trans (QZ.of_below D (fun k I=>.inl I))).trans ((st.mono (P:=O) (fun x s=>(H3.os _ x s).1)).sub (P:=G.S v.region.toNat) (fun x s=>s) |> fun q=>⟨q.os,q.tape,q.output,q.size,q.block,fun x s=>.inl s⟩)⟩
     rw[E.out,hy]
     refine H3.regSame q2 q3 q3 ⟨tv,pv,?_⟩ st;exact ab.put HI.out HG.out (by simp) (QdI T HK.out u A o B) (fun x _ s _=>Qhx s _ _ _ _)
    obtain⟨u,A,o,B,hy⟩:∃ u A o B,x.bare=(⟨u,A,o,B⟩:Qk):=⟨_,_,_,_,Z⟩
    have HY:=Qb hy;rw[hy] at CB
    have E0:Hid ((h.set v (d:Int) x.bare).1=0):=by show _=_;rw[E.out]
    clear I K hr PA Q e1 hy HK HR HG E V HS HI HP HN W r j;rcases gd.out with g1 | ⟨g1,g2⟩
    ·go_wp2_with (go_at_call 236;refine(CP.out _).mono ?_;rintro e w' ⟨rfl,m⟩;have m:=m.symm;subst m)
     refine(CB.out _).mono ?_
     rintro e f ⟨rfl,D⟩;obtain⟨M1,⟨z,c0,c1,c2,c3⟩,y⟩:=HM.out f D
     have M:=Qb (M1 u A o B HY.out);have f0:=y (d*4);have f1:=y (d*4+1);have f2:=y (d*4+2);have f3:=y (d*4+3);clear M1 y D HM x0 r0 r1 r2 r3 gd;go_wp2
     go_ret;exact⟨by rw[E0.out];rfl,M.out⟩
    ·go_wp2_with (go_at_call 236;refine(CP.out _).mono ?_;rintro e w' ⟨rfl,m⟩;have m:=m.symm;subst m)
     refine(CB.out _).mono ?_
     rintro e f ⟨rfl,D⟩;obtain⟨M1,⟨z,c0,c1,c2,c3⟩,y⟩:=HM.out f D
     have M:=Qb (M1 u A o B HY.out);have f0:=y (d*4);have f1:=y (d*4+1);have f2:=y (d*4+2);have f3:=y (d*4+3);clear M1 y D HM x0 r0 r1 r2 r3 gd;go_wp2
     go_ret;exact⟨by rw[E0.out];rfl,M.out⟩
   ·have hd:(decide (0≤k)&&decide (k<(n:Int)))=false:=by
     by_cases h1:0≤k
     ·rw[Xu (show ¬ k<(n:Int) by omega)];simp
     ·rw[Xu h1];rfl
    rw[hd] at CP
    rw[Xs (by omega)] at E
    clear I hd r j;rcases gd.out with g1 | ⟨g1,g2⟩
    ·go_wp2_with (go_at_call 236;refine(CP.out _).mono ?_;rintro e w' ⟨rfl,m⟩;have m:=m.symm;subst m)
     go_ret;rw[E.out]
     exact⟨Z,V.out⟩
    ·go_wp2_with (go_at_call 236;refine(CP.out _).mono ?_;rintro e w' ⟨rfl,m⟩;have m:=m.symm;subst m)
     go_ret;rw[E.out]
     exact⟨Z,V.out⟩
theorem Qj5 (w:World) (n:Nat):Calls prog 46 #[.int .i64 n] w fun e w'=>e=.returned (.pointer (some ⟨w.heap.size+1,0,none⟩))/\HIn w' (w.heap.size+1) (fun x=>x=w.heap.size\/x=w.heap.size+1) (Qc.new n) ⟨w.heap.size,.map [],fun _=>0,fun _ _=>False⟩/\Below w.heap.size w w':=by
 have d:=@run_makeMap prog
 have Q:Hid (HIn ((w.alloc (.map #[] 0)).alloc (.cells #[.int .i64 n,.int .i64 0,.map (some w.heap.size)] 119)) (w.heap.size+1) (fun x=>x=w.heap.size\/x=w.heap.size+1) (Qc.new n) ⟨w.heap.size,.map [],fun _=>0,fun _ _=>False⟩):=by
  refine⟨Qcr w _ _ _,(World.ownsMap_made w _ _ _).alloc _,Z,fun k a=>?_,fun k p a b=>?_,fun k p a=>by simp[Qc.new] at a,fun _ _ _ h=>h.elim,.inr Z,.inl Z,fun _ _ h=>h.elim,fun x f=>by simp;omega⟩
  ·unfold Qc.place;simp[Qc.new,Maps.has]
  ·unfold Qc.place at b;simp[Qc.new] at b
 have c:=Qb (QaT w (.map #[] 0) (.cells #[.int .i64 n,.int .i64 0,.map (some w.heap.size)] 119));go_enter func46,ntmps46
 go_wp2
 go_ret;exact⟨Z,Q.out,c.out⟩
def HTo (w w':World) (b:Nat) (O:Nat->Prop) (h':Qc):Prop:=∃ O' G',HIn w' b O' h' G'/\QZ O O' w w'/\∀ x,O x->O' x
theorem HTo.same {h:Qc}{G:HG}(H:HIn w' b O h G) (hb:Below w.heap.size w w'):HTo w w' b O h:=⟨O,G,H,QZ.of_below hb (fun k a=>.inl a),fun _ h=>h⟩
theorem HTo.st4 {h:Qc}{G:HG}(H:HIn w' b O' h G) (k:QZ O O' w w') (i:∀ x,O x->O' x) (g:w.heap.size<=R) (hn:¬ O' R) (d c a f:Int):HTo w ((((w'.setCell ⟨R,0,none⟩ (.int .i64 d)).setCell ⟨R,1,none⟩ (.int .i64 c)).setCell ⟨R,2,none⟩ (.int .i64 a)).setCell ⟨R,3,none⟩ (.int .i64 f)) b O h :=
 ⟨O',G,H.keep (by simp) (fun x j _=>Qb6 (fun (e:x=R)=>hn (by rw[<-e];exact j)) d c a f),Qep k g d c a f,i⟩
theorem QjT {h:Qc}{G:HG}(H:HIn w b O h G) (hL:h.L.length<=4611686018427387904) (a:h.live<=16) :
 Calls prog 195 #[.pointer (some ⟨b,0,none⟩)] w fun e w'=>e=.returned (.tuple #[QU h.open_.1,.bool h.open_.2.1])/\HTo w w' b O h.open_.2.2:=by
 have m:=Qb (Zb w (.cells #[.int .i64 0,.int .i64 0,.int .i64 0,.int .i64 0] 211));have j:=Qb (H.below m.out);have y:=fun ty=>j.out.map.len underlying117 ty;rw[j.out.size] at y
 have r:=Qa j.out.top 1 _ Z;have z:=Qa j.out.top 2 _ Z;by_cases n:h.live=16
 ·have E:Hid (h.open_=(noV,false,h)):=by show _=_;unfold Qc.open_;rw[Xs (by omega)]
  have Q:=Qb (HTo.same j.out m.out);rw[n] at y
  clear H j m a n hL r;generalize G.bm=bm at y z;go_enter func195,ntmps195
  go_wp2
  exact Xy (v:=.tuple #[.agg #[.int .i64 0,.int .i64 0,.int .i64 0,.int .i64 0],.bool false]) (by simp[results,results195,go_sem]) Z ⟨by rw[E.out];rfl,by rw[E.out];exact Q.out⟩
 ·have E:Hid (h.open_=(⟨2,h.L.length,0,0⟩,true,{ h with L:=h.L++[newP] })):=by show _=_;unfold Qc.open_;rw[Xr (by omega)]
  have q:=Qb (Qe w #[.int .i64 0,.int .i64 0,.int .i64 0,.int .i64 0] 211);have hd:((h.live:Int)==16)=false:=by simp;omega
  have o:=Qb H;have P:=Qb a;clear H a n;go_enter func195,ntmps195
  go_upto_region 1 with fail
  generalize w.alloc (.cells #[.int .i64 0,.int .i64 0,.int .i64 0,.int .i64 0] 211)=w1 at m j y r z q |-;obtain⟨R,hR⟩:∃ R,R=w.heap.size:=⟨_,Z⟩
  have HR:Hid (w.heap.size<=R):=by show _<=_;omega
  rw[<-hR] at q |-
  clear hR;have T1:=Qb r;go_upto_region 4 with fail
  have d:=Qb (m.out.alloc m.out.size (.cells #[.int .i64 (h.L.length:Int),.int .i64 0,.int .i64 0,.slice none 0 0] 261));have T:=Zb w1 (.cells #[.int .i64 (h.L.length:Int),.int .i64 0,.int .i64 0,.slice none 0 0] 261);have f:=Qb (j.out.below T);have s:=Qb (Qe w1 #[.int .i64 (h.L.length:Int),.int .i64 0,.int .i64 0,.slice none 0 0] 261);have i:=Qb ((T.block R (XC q.out)).trans q.out);have HG:Hid (w.heap.size<=w1.heap.size):=m.out.size;have C:Hid (R<w1.heap.size):=XC q.out;generalize w1.alloc (.cells #[.int .i64 (h.L.length:Int),.int .i64 0,.int .i64 0,.slice none 0 0] 261)=w2 at d f s i |-;generalize w1.heap.size=g at s HG C |-;clear r z y T1 q j m T;have r:=Qa f.out.top 1 _ Z;have z:=Qa f.out.top 2 _ Z;have g0:=Qa s.out 0 _ Z;have p:ZE h.L.length:=⟨by omega,by omega⟩;obtain⟨c,B,m1,m2⟩:=f.out.drew.map.store (val:=.pointer (some ⟨g,0,none⟩)) hKeyed underlying117 (by rw[f.out.size];have:=P.out;unfold maxLen;omega) (Maps.keyOf_int_mk underlying3 (Qni p)) (show pelem _=some (.lit (.int .i64 (g:Int)),[]) from Z)
  have M1:=Qb m1;have M2:=Qb m2;have HL:=Qb hL;have S:=Qb p;clear m1 m2
  have D:Hid (c.cell? ⟨b,1,none⟩=some (.int .i64 (h.L.length:Int))/\c.frozen? ⟨b,1,none⟩=false/\c.cell? ⟨g,0,none⟩=some (.int .i64 (h.L.length:Int))/\c.heap[R]?=some (.cells #[.int .i64 0,.int .i64 0,.int .i64 0,.int .i64 0] 211 (0,0))/\HTo w (((((c.setCell ⟨b,1,none⟩ (.int .i64 ((h.L.length:Int)+1))).setCell ⟨R,0,none⟩ (.int .i64 2)).setCell ⟨R,1,none⟩ (.int .i64 (h.L.length:Int))).setCell ⟨R,2,none⟩ (.int .i64 0)).setCell ⟨R,3,none⟩ (.int .i64 0)) b O { h with L:=h.L++[newP] }/\R≠b/\g≠b/\(((((c.setCell ⟨b,1,none⟩ (.int .i64 ((h.L.length:Int)+1))).setCell ⟨R,0,none⟩ (.int .i64 2)).setCell ⟨R,1,none⟩ (.int .i64 (h.L.length:Int))).setCell ⟨R,2,none⟩ (.int .i64 0)).setCell ⟨R,3,none⟩ (.int .i64 0)).heap[R]?=some (.cells #[.int .i64 2,.int .i64 (h.L.length:Int),.int .i64 0,.int .i64 0] 211 (0,0))):=by
   have t:=M2.out.grown;have A:∀ x,x<w2.heap.size->x≠G.bm->c.heap[x]?=w2.heap[x]?:=fun x U X=>t.block x U (fun e=>X (by simpa using e));have ag:=f.out.map.lt;have ab:=XC f.out.top;have ac:=o.out.map.lt;have ae:=XC o.out.top;have I:c.heap[b]?=_:=(A b ab f.out.bne).trans f.out.top;have af:=HG.out;have W:=HR.out;have ad:=C.out;have F:c.heap[g]?=_:=(A g (XC s.out) (by omega)).trans s.out;have K:c.heap[R]?=_:=(A R (XC i.out) (by omega)).trans i.out;have Q:=o.out.more (w1:=c) S.out HG.out F M1.out (fun x M N=>(A x (Zl M d.out.size) N).trans (d.out.block x M)) (Zt d.out.size t.size);rw[show ((h.L.length+1:Nat):Int)=(h.L.length:Int)+1 by omega] at Q
   refine⟨Qa I 1 _ Z,Qd I 1,Qa F 0 _ Z,K,?_,by omega,by omega,Qac ((Xd _ _ _ _ (show R≠b by omega)).trans K) _ _ _ _⟩
   refine HTo.st4 Q ⟨t.os.trans d.out.os,t.tape.trans d.out.tape,t.output.trans d.out.output,by have U:=t.size;have X:=d.out.size;exact Zt (Zt X U) (by simp),fun k J N=>?_,fun k J=>J.elim .inl (fun e=>.inr (by omega))⟩ (fun x M=>.inl M) W (fun e=>e.elim (fun e=>by have:=o.out.lt R e;omega) (fun e=>by omega)) _ _ _ _;have V:k≠b:=fun e=>N (e ▸ o.out.ob);have aa:k≠G.bm:=fun e=>N (e ▸ o.out.om);rw[Xd _ _ _ _ V]
   exact(A k (Zl J d.out.size) aa).trans (d.out.block k J)
  clear M1 M2 f d o s i p hd;generalize G.bm=bm at *;go_region;clear B r z g0;obtain⟨k1,k2,k3,l,k6,k7,k8,k9⟩:=D.out
  have K6:=Qb k6;have u:=Qb k9;have r0:=Qa l 0 _ Z;have r1:=Qa l 1 _ Z;have r2:=Qa l 2 _ Z;have r3:=Qa l 3 _ Z;have f0:=Qd l 0;have f1:=Qd l 1;have f2:=Qd l 2;have f3:=Qd l 3;clear l k6 k9 D;go_wp2
  generalize (((((c.setCell ⟨b,1,none⟩ (.int .i64 ((h.L.length:Int)+1))).setCell ⟨R,0,none⟩ (.int .i64 2)).setCell ⟨R,1,none⟩ (.int .i64 (h.L.length:Int))).setCell ⟨R,2,none⟩ (.int .i64 0)).setCell ⟨R,3,none⟩ (.int .i64 0))=ah at K6 u |-;have e0:=Qa u.out 0 _ Z;have I:=Qa u.out 1 _ Z;have F:=Qa u.out 2 _ Z;have K:=Qa u.out 3 _ Z;exact Xy (v:=.tuple #[.agg #[.int .i64 2,.int .i64 (h.L.length:Int),.int .i64 0,.int .i64 0],.bool true]) (by simp[results,results195,go_sem,e0,I,F,K]) Z ⟨by rw[E.out],by rw[E.out];exact K6.out⟩
theorem Qix {h:Qc}{G:HG}(H:HIn w b O h G) (v:Qk) (A:v.ok) (t:∀ p,h.at v=some p->h.left+p.pages<=4611686018427387904) :
 Calls prog 139 #[Pv b 0,QU v] w fun e w'=>e=.returned (.bool (h.shut v).1)/\HTo w w' b O (h.shut v).2:=by
 have r:=Qb (Zb w (.cells #[Iv v.kind,Iv v.region,Iv v.thing,Iv v.n] 211));have l:=Qb (Qe w #[Iv v.kind,Iv v.region,Iv v.thing,Iv v.n] 211);have u:=Qb (H.below r.out);have C:=Qb (QaV u.out v A);have U:=Qb t;have HV:=Qb A;clear H A t;go_enter func139,ntmps139
 go_upto_region 1 with fail
 generalize w.alloc (.cells #[Iv v.kind,Iv v.region,Iv v.thing,Iv v.n] 211)=w1 at r l C u |-;generalize w.heap.size=X at l |-;have x0:=Qa l.out 0 _ Z;have x1:=Qa l.out 1 _ Z;have x2:=Qa l.out 2 _ Z;have x3:=Qa l.out 3 _ Z;go_wp2_with fail
 refine C.out.mono ?_;rintro e J ⟨rfl,N⟩;have D:=Qb (r.out.trans (N.mono r.out.size));have m:=Qb (u.out.below N);clear x0 x1 x2 x3 l r N C u
 cases ht:h.at v with
 | none =>
   have E:Hid (h.shut v=(false,h)):=by show _=_;unfold Qc.shut;rw[ht]
   simp only[Option.isSome_none]
   clear ht;go_wp2
   go_ret;rw[E.out]
   exact⟨Z,HTo.same m.out D.out⟩
 | some p =>
   obtain⟨B,R,k,f,F,j⟩:=Qc.at_some ht
   have E:Hid (h.shut v=(true,⟨h.L.set k noP,h.left+p.pages⟩)):=by show _=_;unfold Qc.shut;rw[ht,f,XT]
   have t:=U.out p ht;have T:hptr h G v.region=some ⟨G.g k,0,none⟩:=by unfold hptr;rw[R,f];rfl
   have d:Hid (ZE k):=by show ZE k;rw[<-f];exact HV.out.2.1
   rw[T]
   obtain⟨tv,pv,W⟩:=m.out.reg k p F j
   have t0:=Qa m.out.top 0 _ Z;have f0:=Qd m.out.top 0;have g1:=Qa W.box 1 _ Z;have i:=Qb F;have o:=Qb j;have K:=Qb t;have M:(h.left:Int)+(p.pages:Int)<=4611686018427387904:=by omega
   have I:0<=(h.left:Int)+(p.pages:Int):=by omega
   have S:Hid (HIn (J.setCell ⟨b,0,none⟩ (Iv ((h.left:Int)+(p.pages:Int)))) b O { h with left:=h.left+p.pages } G):=by
    have:=m.out.toLeft (h.left+p.pages)
    rw[show ((h.left+p.pages:Nat):Int)=(h.left:Int)+(p.pages:Int) by omega] at this
    exact this
   have V:Hid (QZ O O w (J.setCell ⟨b,0,none⟩ (Iv ((h.left:Int)+(p.pages:Int))))):=(QZ.of_below D.out (fun k B=>.inl B)).setCell (p:=⟨b,0,none⟩) m.out.ob _;simp only[Option.isSome_some]
   clear ht B R f F j T W U HV m D t;have c:=Qb S.out.drew;have a:=Qb V.out.drew;clear S V;go_wp2_with fail
   go_region;generalize (J.setCell ⟨b,0,none⟩ (Iv ((h.left:Int)+(p.pages:Int)))).drew=w3 at c a |-;clear t0 f0 g1;obtain⟨ab,ac,q⟩:=c.out.reg k p i.out o.out
   have u0:=Qa q.box 0 _ Z;have u2:=Qa c.out.top 2 _ Z;obtain⟨w4,aa,P,z⟩:=c.out.drew.map.drop hKeyed underlying117 (Maps.keyOf_int_mk underlying3 (Qni d.out)) 0
   have Q:Hid (HTo w w4 b O ⟨h.L.set k noP,h.left+p.pages⟩):=by
    have s:=z.grown;refine⟨O,_,c.out.drew.gone i.out o.out d.out P z,⟨s.os.trans a.out.os,s.tape.trans a.out.drew.tape,s.output.trans a.out.output,Zt a.out.size s.size,fun x y hn=>?_,fun x y=>.inl y⟩,fun _ h=>h⟩
    exact(s.block x (Zl y a.out.size) (fun e=>hn (by have e9:x=G.bm:=(by simpa using e);rw[e9];exact c.out.om))).trans (a.out.block x y hn)
   clear P z q c a i o K d M I;generalize G.g k=gk at *;generalize G.bm=bm at *;go_wp2_with fail
   go_region;go_wp2
   go_ret;rw[E.out]
   exact⟨Z,Q.out⟩
theorem Qd3 {h:Qc}{G:HG}(H:HIn w b O h G) (v:Qk) (g:v.ok) (words:Int) (i:h.at v=none) :
 Calls prog 197 #[Pv b 0,QU v,Iv words] w fun e w'=>e=.returned (.tuple #[.pointer none,Iv 20])/\Below w.heap.size w w':=by
 have c:=Qb (Zb w (.cells #[Iv v.kind,Iv v.region,Iv v.thing,Iv v.n] 211));have a:=Qb (Qe w #[Iv v.kind,Iv v.region,Iv v.thing,Iv v.n] 211);have d:=Qb (H.below c.out);have C:=Qb (QaV d.out v g);clear H g;rw[i] at C
 simp only[Option.isSome_none] at C
 go_enter func197,ntmps197
 go_upto_region 1 with fail
 generalize w.alloc (.cells #[Iv v.kind,Iv v.region,Iv v.thing,Iv v.n] 211)=p at c a C d |-;generalize w.heap.size=X at a |-;have l:=Qa a.out 0 _ Z;have m:=Qa a.out 1 _ Z;have k:=Qa a.out 2 _ Z;have o:=Qa a.out 3 _ Z;go_wp2_with fail
 refine C.out.mono ?_;rintro e q ⟨rfl,f⟩;have j:=Qb (c.out.trans (f.mono c.out.size));have r:=Qb (d.out.below f);clear l m k o a c f C d;go_wp2
 go_ret2;exact⟨Z,j.out⟩
theorem Qen {h:Qc}{G:HG}(H:HIn w b O h G) (v:Qk) (B:v.ok) (words:Int){p:Ql}(m:h.at v=some p) (F:p.tight words=true) (x:h.left=0) (hw:0<=words/\words<=1099511627776) (V:0<=p.used/\p.used<=1099511627776) :
 Calls prog 197 #[Pv b 0,QU v,Iv words] w fun e w'=>e=.returned (.tuple #[.pointer none,Iv 14])/\Below w.heap.size w w':=by
 obtain⟨k,s⟩:∃ k:Nat,v.region=k:=by obtain⟨_,_,k,h,_⟩:=Qc.at_some m;exact⟨k,h⟩
 have l:=Qb (Zb w (.cells #[Iv v.kind,Iv v.region,Iv v.thing,Iv v.n] 211));have c:=Qb (Qe w #[Iv v.kind,Iv v.region,Iv v.thing,Iv v.n] 211);have o:=Qb (H.below l.out);have C:=Qb (QaV o.out v B);clear H B;obtain⟨M,z,q,d,E,i⟩:=Qc.at_some m
 have L:q=k:=by have:=d;omega
 subst L;have A:hptr h G v.region=some ⟨G.g q,0,none⟩:=by unfold hptr;rw[z,d];rfl
 rw[m,A] at C
 simp only[Option.isSome_some] at C
 have f:=Qb E;have j:=Qb i;clear M z d E i A m s;have r:=Qb F;clear F;go_enter func197,ntmps197
 go_upto_region 1 with fail
 generalize w.alloc (.cells #[Iv v.kind,Iv v.region,Iv v.thing,Iv v.n] 211)=W at l c C o |-;generalize w.heap.size=X at c |-;have T:=Qa c.out 0 _ Z;have N:=Qa c.out 1 _ Z;have P:=Qa c.out 2 _ Z;have Q:=Qa c.out 3 _ Z;go_wp2_with fail
 refine C.out.mono ?_;rintro e w2 ⟨rfl,y⟩;have D:=Qb (l.out.trans (y.mono l.out.size));have u:=Qb (o.out.below y);clear T N P Q c l y C o;obtain⟨tv,U,t⟩:=u.out.reg q p f.out j.out
 have J:=Qa u.out.top 0 _ Z;rw[x] at J
 have S:=Qa t.box 1 _ Z;have g2:=Qa t.box 2 _ Z;clear t u f j;generalize G.g q=gk at *;by_cases a:p.pages=0
 ·rw[a] at S
  clear r a;go_wp2
  go_ret2;exact⟨Z,D.out⟩
 ·have K:decide (0<(p.pages:Int))=true:=Xt (by omega)
  have I:decide (p.used+words<=16)=false:=by
   have:=r.out
   unfold Ql.tight at this;rw[Xu a,Bool.false_or] at this
   have:=Xv this
   exact Xu (by omega)
  have R:0<p.pages:=by omega
  clear r a;go_wp2
  go_ret2;exact⟨Z,D.out⟩
theorem Qg6 {h:Qc}{G:HG}(H:HIn w b O h G) (v:Qk) (hv:v.ok) (words:Int){p:Ql}(M:h.at v=some p)(N:v.region=k) (B:¬ (p.tight words=true/\h.left=0)) (hw:0<=words/\words<=1099511627776) (hu:0<=p.used/\p.used<=1099511627776) (ab:p.pages<=1099511627776) (aa:h.left<=1099511627776) :
 Calls prog 197 #[Pv b 0,QU v,Iv words] w fun e w'=>e=.returned (.tuple #[Pv (G.g k) 0,Iv 0])/\HIn w' b O ⟨h.L.set k (p.roomed words),h.roomLeft p words⟩ G/\QZ O O w w':=by
 have A:=Qb (Zb w (.cells #[Iv v.kind,Iv v.region,Iv v.thing,Iv v.n] 211));have o:=Qb (Qe w #[Iv v.kind,Iv v.region,Iv v.thing,Iv v.n] 211);have D:=Qb (H.below A.out);have C:=Qb (QaV D.out v hv);clear H hv;obtain⟨P,W,a,q,hL,y⟩:=Qc.at_some M
 have e0:a=k:=by have:=q;omega
 subst e0;have ea:hptr h G v.region=some ⟨G.g a,0,none⟩:=by unfold hptr;rw[W,q];rfl
 rw[M,ea] at C
 simp only[Option.isSome_some] at C
 have d:=Qb hL;have c:=Qb y;clear P W q hL y ea M N;have F:=Qb B;clear B;go_enter func197,ntmps197
 go_upto_region 1 with fail
 generalize w.alloc (.cells #[Iv v.kind,Iv v.region,Iv v.thing,Iv v.n] 211)=w1 at A o C D |-;generalize w.heap.size=X at o |-;have x0:=Qa o.out 0 _ Z;have x1:=Qa o.out 1 _ Z;have x2:=Qa o.out 2 _ Z;have x3:=Qa o.out 3 _ Z;go_wp2_with fail
 refine C.out.mono ?_;rintro e s ⟨rfl,T⟩;have BL:=Qb (A.out.trans (T.mono A.out.size));have f:=Qb (D.out.below T);clear x0 x1 x2 x3 o A T C D;obtain⟨tv,V,m⟩:=f.out.reg a p d.out c.out
 have t0:=Qa f.out.top 0 _ Z;have f0:=Qd f.out.top 0;have g1:=Qa m.box 1 _ Z;have g2:=Qa m.box 2 _ Z;have z1:=Qd m.box 1;have z2:=Qd m.box 2;have R:G.g a≠b:=(f.out.os a _ m.ob).2.1;have i:=Qb m;have u:=Qb (QZ.of_below (O:=O) (O':=O) BL.out (fun k P=>.inl P));clear m BL;have r:=Qb (f.out.os a _ i.out.ob).1
 cases htt:p.tight words with
 | false =>
   have j:p.pages≠0/\p.used+words<=16:=by
    unfold Ql.tight at htt;simp at htt
    omega
   have J:decide (0<(p.pages:Int))=true:=Xt (by omega);have I:decide (p.used+words<=16)=true:=Xt j.2;have E:Hid (p.roomed words={ p with used:=p.used+words }/\h.roomLeft p words=h.left):=by show _/\_;unfold Ql.roomed Qc.roomLeft;rw[htt];exact⟨Z,Z⟩
   have Q:Hid (HIn (s.setCell ⟨G.g a,2,none⟩ (Iv (p.used+words))) b O ⟨h.L.set a { p with used:=p.used+words },h.left⟩ G/\QZ O O w (s.setCell ⟨G.g a,2,none⟩ (Iv (p.used+words)))):=by
    refine⟨f.out.regSame d.out c.out c.out ⟨tv,V,i.out.nums _ Z ?_ (fun x _ t _=>Xd _ _ _ _ t)⟩ ((QZ.refl _ _).setCell (p:=⟨G.g a,2,none⟩) i.out.ob _),u.out.setCell (p:=⟨G.g a,2,none⟩) r.out _⟩
    have:=Qm i.out.box 2 (Iv (p.used+words))
    simpa using this
   have S:0<p.pages:=by omega
   clear htt j i f d c u r F R;go_wp2
   go_ret2;rw[E.out.1,E.out.2]
   exact⟨Z,Q.out⟩
 | true =>
   have ac:h.left≠0:=fun e=>F.out ⟨htt,e⟩;have E:Hid (p.roomed words={ p with pages:=p.pages+1,used:=words }/\h.roomLeft p words=h.left - 1):=by show _/\_;unfold Ql.roomed Qc.roomLeft;rw[htt];exact⟨Z,Z⟩
   have ad:decide ((h.left:Int)<=0)=false:=Xu (by omega)
   have Q:Hid (HIn (((s.setCell ⟨b,0,none⟩ (Iv ((h.left:Int) - 1))).setCell ⟨G.g a,1,none⟩ (Iv ((p.pages:Int)+1))).setCell ⟨G.g a,2,none⟩ (Iv words)) b O ⟨h.L.set a { p with pages:=p.pages+1,used:=words },h.left - 1⟩ G/\QZ O O w (((s.setCell ⟨b,0,none⟩ (Iv ((h.left:Int) - 1))).setCell ⟨G.g a,1,none⟩ (Iv ((p.pages:Int)+1))).setCell ⟨G.g a,2,none⟩ (Iv words))):=by
    have K:=f.out.toLeft (h.left - 1);rw[show ((h.left - 1:Nat):Int)=(h.left:Int) - 1 by omega] at K
    have S3:=u.out.setCell (p:=⟨b,0,none⟩) f.out.ob (Iv ((h.left:Int) - 1));have z:=i.out.keep (w':=s.setCell ⟨b,0,none⟩ (Iv ((h.left:Int) - 1))) (fun x t _=>Xd _ _ _ _ (f.out.os a x t).2.1);generalize s.setCell ⟨b,0,none⟩ (Iv ((h.left:Int) - 1))=w3 at K S3 z |-;refine⟨K.regSame d.out c.out c.out ⟨tv,V,z.nums _ Z ?_ (fun x _ t _=>(Xd _ _ _ _ t).trans (Xd _ _ _ _ t))⟩ (((QZ.refl _ _).setCell (p:=⟨G.g a,1,none⟩) z.ob _).setCell (p:=⟨G.g a,2,none⟩) z.ob _),(S3.setCell (p:=⟨G.g a,1,none⟩) r.out _).setCell (p:=⟨G.g a,2,none⟩) r.out _⟩
    have:=Qm (Qm z.box 1 (Iv ((p.pages:Int)+1))) 2 (Iv words)
    simpa using this
   by_cases l:p.pages=0
   ·rw[l] at g1 Q E
    have U:((0:Nat):Int)=0:=rfl;rw[U] at g1 Q
    simp only[Int.zero_add] at Q
    clear i f d c u r F U;go_wp2
    go_ret2;rw[E.out.1,E.out.2]
    exact⟨Z,Q.out⟩
   ·have J:decide (0<(p.pages:Int))=true:=Xt (by omega)
    have I:decide (p.used+words<=16)=false:=by
     have:=htt
     unfold Ql.tight at this;rw[Xu l,Bool.false_or] at this
     have:=Xv this
     exact Xu (by omega)
    have S:0<p.pages:=by omega
    clear htt i f d c u r F l;go_wp2
    go_ret2;rw[E.out.1,E.out.2]
    exact⟨Z,Q.out⟩
theorem hInfoT:∃ i,prog.info? 294=some i/\i.zero=some (.agg #[Iv 0,Nv])/\i.size=2/\i.bytes=32:=by
 have h:(prog.info? 294).map (fun i=>(i.zero,i.size,i.bytes))=some (some (.agg #[Iv 0,Nv]),2,32):=by kernel_rfl
 obtain⟨i,a,e⟩:=Option.map_eq_some_iff.1 h
 simp only[Prod.mk.injEq] at e
 exact⟨i,a,e⟩
theorem hInfoV:∃ i,prog.info? 211=some i/\i.zero=some (.agg #[Iv 0,Iv 0,Iv 0,Iv 0])/\i.size=4/\i.bytes=32:=by
 have h:(prog.info? 211).map (fun i=>(i.zero,i.size,i.bytes))=some (some (.agg #[Iv 0,Iv 0,Iv 0,Iv 0]),4,32):=by kernel_rfl
 obtain⟨i,a,e⟩:=Option.map_eq_some_iff.1 h
 simp only[Prod.mk.injEq] at e
 exact⟨i,a,e⟩
theorem hUnderTs:prog.underlying 259=some (.slice 294):=by kernel_rfl
theorem hUnderVs:prog.underlying 98=some (.slice 211):=by kernel_rfl
theorem QkM (w:World) (c:List Value) (t:TypeId):∀ (j:Nat) (u:Value),c[j]?=some u->(w.alloc (.cells c.toArray t)).cell? ((⟨w.heap.size,0,none⟩:Addr).add j)=some u:=by
 intro j u h;have a:c.toArray[j]?=some u:=by simpa using h
 rw[Go.WideShapes.add_plain,XK]
 exact Qa (Qe w c.toArray t) j u a
theorem QnA (k:Int) (a:Option Addr) (n c:Nat):∀ u∈[Value.int .i64 k,.slice a n c],u.oneCell'=true:=by
 intro u b;simp at b
 rcases b with rfl | rfl<;>rfl
theorem QgR {f:Nat}{p:Ql}{S:Nat->Prop}{tv:Value}{pv:Nat->Value}(R:Qaj w f k p S tv pv){t:Qs}{va:Option Addr}{vc:Nat}(hv:ZP w (.slice va t.l.length vc) t.l) (hn:∀ x,QcM (.slice va t.l.length vc) t x->¬ S x) (hS:∀ x,S x->x<w.heap.size) (ab:p.l.length<=1099511627776) :
 Calls prog 198 #[Pv f 0,Iv t.knd,.slice va t.l.length vc] w fun e w'=>e=.returned (QU ⟨t.knd,k,p.l.length,0⟩)/\∃ S',QdP w' f k { p with l:=p.l++[t] } S'/\(∀ x,S x->S' x)/\(∀ x,S' x->S x\/w.heap.size<=x\/QcM (.slice va t.l.length vc) t x)/\(∀ x,S' x->x<w'.heap.size)/\QZ S S w w':=by
 obtain⟨i0,hi,ai,ah,ae⟩:=hInfoT
 obtain⟨X,tc,rfl⟩:∃ a c,tv=.slice a p.l.length c:=by
  rcases R.row.2 with ⟨e,e0⟩|⟨g,am,al,e,_⟩
  ·exact⟨none,0,by rw[e,e0]⟩
  ·exact⟨_,_,e⟩
 have B0:=Qb (Zb w (.cells #[Iv 0,Iv 0,Iv 0,Iv 0] 211));have BR:=Qb (Qe w #[Iv 0,Iv 0,Iv 0,Iv 0] 211);have HR:=Qb R;have F:=Qb (R.keep (w':=w.alloc (.cells #[Iv 0,Iv 0,Iv 0,Iv 0] 211)) (fun x _ d=>B0.out.block x d));have N:=Qb hv;have HN:=Qb hn;have H:=Qb hS
 have M:Hid (∀ i j b,i.ownsRow 0 294 2 (.slice (some ⟨j,0,none⟩) (p.l.length+1) b) (p.l.length+1) (Qad pv p.l 0++[Iv t.knd,.slice va t.l.length vc])->((w.alloc (.cells #[Iv 0,Iv 0,Iv 0,Iv 0] 211)).alloc (.cells #[Iv t.knd,.slice va t.l.length vc] 294)).grownBy i (Value.slice X p.l.length tc).ownBlock->((Value.slice X p.l.length tc).ownBlock=some j\/j=w.heap.size+2)->j<i.heap.size ->
  (i.heap[f]?=some (.cells #[Iv k,Iv p.pages,Iv p.used,.slice X p.l.length tc] 261 (0,0)))/\(i.setCell ⟨f,3,none⟩ (.slice (some ⟨j,0,none⟩) (p.l.length+1) b)).heap[f]?=some (.cells #[Iv k,Iv p.pages,Iv p.used,.slice (some ⟨j,0,none⟩) (p.l.length+1) b] 261 (0,0))/\i.heap[w.heap.size]?=some (.cells #[Iv 0,Iv 0,Iv 0,Iv 0] 211 (0,0))/\f≠w.heap.size /\
  ∃ S',QdP (i.setCell ⟨f,3,none⟩ (.slice (some ⟨j,0,none⟩) (p.l.length+1) b)) f k { p with l:=p.l++[t] } S'/\(∀ x,S x->S' x)/\(∀ x,S' x->S x\/w.heap.size<x\/QcM (.slice va t.l.length vc) t x)/\(∀ x,S' x->x<i.heap.size)/\QZ S S w (i.setCell ⟨f,3,none⟩ (.slice (some ⟨j,0,none⟩) (p.l.length+1) b))):=by
  intro i j b r1 m K r4;have z:=QaT w (.cells #[Iv 0,Iv 0,Iv 0,Iv 0] 211) (.cells #[Iv t.knd,.slice va t.l.length vc] 294);have u:=Qh1 w #[Iv 0,Iv 0,Iv 0,Iv 0] 211 (.cells #[Iv t.knd,.slice va t.l.length vc] 294);have ad:((w.alloc (.cells #[Iv 0,Iv 0,Iv 0,Iv 0] 211)).alloc (.cells #[Iv t.knd,.slice va t.l.length vc] 294)).heap.size=w.heap.size+2:=by simp
  generalize (w.alloc (.cells #[Iv 0,Iv 0,Iv 0,Iv 0] 211)).alloc (.cells #[Iv t.knd,.slice va t.l.length vc] 294)=w2 at m z u ad;have y:=HR.out.keep (fun x _ d=>z.block x d);have V2:=N.out.keep (w':=w2) (fun x d=>z.block x (N.out.lt d));have g3:(Value.slice X p.l.length tc).ownBlock=some j\/w2.heap.size<=j:=K.imp id (fun e=>by omega);have A:=y.add V2 HN.out r1 m g3;have aq:f<w.heap.size:=H.out f y.ob;have C:i.heap[f]?=_:=(m.block f (XC y.box) (fun e=>y.rowNe e.symm Z)).trans y.box;refine⟨C,A.box,?_,by omega,_,⟨_,_,A⟩,fun x d=>.inl d,?_,?_,?_⟩
  ·refine(m.block w.heap.size (XC u) (fun e=>?_)).trans u
   have:=H.out _ (y.ot _ e.symm)
   omega
  ·rintro x (d | rfl | d)
   ·exact .inl d
   ·rcases K with e | e
    ·exact .inl (y.ot _ e)
    ·exact .inr (.inl (by omega))
   ·exact .inr (.inr d)
  ·have au:=m.size;rintro x (d | rfl | d)
   ·have:=H.out x d;omega
   ·exact r4
   ·have:=N.out.lt d;omega
  ·refine⟨m.os.trans z.os,m.tape.trans z.tape,m.output.trans z.output,Zt z.size (Zt m.size (by simp)),fun x d O=>?_,fun x d=>.inl d⟩
   have ag:x≠f:=fun e=>O (e ▸ y.ob);rw[Xd _ _ _ _ ag]
   exact(m.block x (by omega) (fun e=>O (y.ot x e.symm))).trans (z.block x d)
 have G:=Qb (F.out.row.alloc (.cells #[Iv t.knd,.slice va t.l.length vc] 294));have E:=Qa F.out.box 3 _ Z;have B:Hid (∀ x,QcM (.slice va t.l.length vc) t x->x<w.heap.size):=fun x d=>N.out.lt d;clear R hv hn hS;have I:=Qb H.out;clear HR F N HN H;have HX:Hid (w.heap.size+1=(w.alloc (.cells #[Iv 0,Iv 0,Iv 0,Iv 0] 211)).heap.size):=by show _=_;simp
 generalize ap:t.knd=D at *;generalize ar:t.l.length=tl at *;generalize ao:p.l.length=n at *;generalize ak:Qad pv p.l 0=xs at *;go_enter func198,ntmps198
 go_upto_region 1 with fail
 generalize w.alloc (.cells #[Iv 0,Iv 0,Iv 0,Iv 0] 211)=w1 at *;have an:n<=1099511627776:=ab;go_wp2_with (at_builtin;refine wpList_append_lies _ Z (.tmp 11) (.tmp 15) 259 Z 0 294 i0 (.agg #[Iv 0,Nv]) 2 32 hUnderTs hi ai ah ae Z (by decide) _ _ _ Z G.out ⟨w1.heap.size,0,none⟩ 1 1 [Iv D,.slice va tl vc] Z Z (QkM _ [_,_] _) (QnA _ _ _ _) (by decide) (by unfold maxLen;omega) (by omega) (Xb _) (w.heap.size+2) (by have:=HX.out;simp;omega) ?_)
 intro j b i r1 m K r4;obtain⟨C,e2,e3,J,QQ⟩:=M.out i j b r1 m K r4
 have E1:=Qb C;have E2:=Qb e2;have q:Hid ((i.setCell ⟨f,3,none⟩ (.slice (some ⟨j,0,none⟩) (n+1) b)).heap[w.heap.size]?=some (.cells #[Iv 0,Iv 0,Iv 0,Iv 0] 211 (0,0))):=(Xd _ _ _ _ (Ne.symm J)).trans e3;have HQ:=Qb QQ;have c9:=Qa C 3 _ Z;have z9:=Qd C 3;have P:Hid (∀ x,QcM (.slice va tl vc) t x->x<w.heap.size):=B.out;clear r1 m K r4 C e2 e3 QQ M G E J B;go_wp2_with fail
 have s:Hid (i.heap.size=(i.setCell ⟨f,3,none⟩ (.slice (some ⟨j,0,none⟩) (n+1) b)).heap.size):=by show _=_;simp
 generalize i.setCell ⟨f,3,none⟩ (.slice (some ⟨j,0,none⟩) (n+1) b)=o at E2 q HQ s |-;obtain⟨R,u⟩:∃ R,R=w.heap.size:=⟨_,Z⟩
 have r:=Qb u;rw[<-u] at q
 have ac:=Qb u.symm;rw[<-u]
 clear u c9 z9 E1 HX;have k0:=Qa E2.out 0 _ Z;have k3:=Qa E2.out 3 _ Z;have s0:=Qa q.out 0 _ Z;have s1:=Qa q.out 1 _ Z;have s2:=Qa q.out 2 _ Z;have s3:=Qa q.out 3 _ Z;have f0:=Qd q.out 0;have f1:=Qd q.out 1;have f2:=Qd q.out 2;have f3:=Qd q.out 3;have Q:=Qb (Qac q.out D (k:Int) (n:Int) 0);obtain⟨S',W,T,E,V,U⟩:=HQ.out
 have L:Hid (∃ S',QdP ((((o.setCell ⟨R,0,none⟩ (Iv D)).setCell ⟨R,1,none⟩ (Iv (k:Int))).setCell ⟨R,2,none⟩ (Iv (n:Int))).setCell ⟨R,3,none⟩ (Iv 0)) f k { p with l:=p.l++[t] } S'/\(∀ x,S x->S' x)/\(∀ x,S' x->S x\/w.heap.size<=x\/QcM (.slice va tl vc) t x)/\(∀ x,S' x->x<((((o.setCell ⟨R,0,none⟩ (Iv D)).setCell ⟨R,1,none⟩ (Iv (k:Int))).setCell ⟨R,2,none⟩ (Iv (n:Int))).setCell ⟨R,3,none⟩ (Iv 0)).heap.size)/\QZ S S w ((((o.setCell ⟨R,0,none⟩ (Iv D)).setCell ⟨R,1,none⟩ (Iv (k:Int))).setCell ⟨R,2,none⟩ (Iv (n:Int))).setCell ⟨R,3,none⟩ (Iv 0))):=by
  have af:∀ x,S' x->x≠R:=fun x d e=>by
   subst e;rcases E _ d with h | h | h
   ·have:=I.out _ h;have:=r.out;omega
   ·have:=r.out;omega
   ·have:=P.out _ h;have:=r.out;omega
  refine⟨S',W.keep (fun x d _=>Qb6 (af x d) _ _ _ _),T,fun x d=>(E x d).imp id (fun h=>h.imp Nat.le_of_lt id),fun x d=>?_,Qep U (by have:=r.out;omega) _ _ _ _⟩
  have:((((o.setCell ⟨R,0,none⟩ (Iv D)).setCell ⟨R,1,none⟩ (Iv (k:Int))).setCell ⟨R,2,none⟩ (Iv (n:Int))).setCell ⟨R,3,none⟩ (Iv 0)).heap.size=o.heap.size:=by simp
  rw[this]
  have h9:=V x d
  have:=s.out
  omega
 clear HQ W T E V U r ac I P s;go_region;have aj:((n:Int)+1 - 1)=(n:Int):=by omega
 go_wp2_with fail
 generalize ((((o.setCell ⟨R,0,none⟩ (Iv D)).setCell ⟨R,1,none⟩ (Iv (k:Int))).setCell ⟨R,2,none⟩ (Iv (n:Int))).setCell ⟨R,3,none⟩ (Iv 0))=aa at Q L |-;have e0:=Qa Q.out 0 _ Z;have C:=Qa Q.out 1 _ Z;have e2:=Qa Q.out 2 _ Z;have e3:=Qa Q.out 3 _ Z;exact Xy (v:=.agg #[Iv D,Iv k,Iv n,Iv 0]) (by simp[results,results198,go_sem,e0,C,e2,e3]) Z ⟨Z,by obtain⟨S',W,T,E,V,U⟩:=L.out;exact⟨S',W.keep (w':=aa.drew) (fun _ _ _=>rfl),T,E,V,U.drew⟩⟩
def VIn (w:World) (a:Option Addr) (l:List Qk):Prop:=∀ i x,l[i]?=some x->∃ g o,a=some ⟨g,o,none⟩/\g<w.heap.size/\w.cell? ⟨g,o+i*4,none⟩=some (Iv x.kind)/\w.cell? ⟨g,o+i*4+1,none⟩=some (Iv x.region)/\w.cell? ⟨g,o+i*4+2,none⟩=some (Iv x.thing)/\w.cell? ⟨g,o+i*4+3,none⟩=some (Iv x.n)
theorem VIn.below {l:List Qk}(h:VIn w a l) (b:Below w.heap.size w w'):VIn w' a l:=fun i x k=>by
 obtain⟨g,o,e,d,j,m,f,n⟩:=h i x k
 have c:=b.block g d;exact⟨g,o,e,Zl d b.size,(XU (w:=w) (a:=⟨g,o+i*4,none⟩) c).trans j,(XU (w:=w) (a:=⟨g,o+i*4+1,none⟩) c).trans m,(XU (w:=w) (a:=⟨g,o+i*4+2,none⟩) c).trans f,(XU (w:=w) (a:=⟨g,o+i*4+3,none⟩) c).trans n⟩
def ZI (l:List Qk) (q:Nat):List Qk:=l.take q++List.replicate (l.length - q) noV
theorem QhY (l:List Qk)(a:q<=l.length):(ZI l q).length=l.length:=by simp[ZI];omega
theorem Qgq (l:List Qk){x:Qk}(b:l[q]?=some x):ZI l (q+1)=(ZI l q).set q x:=by
 have c:=(Zi b).1;have a:(l.take q).length=q:=by simp;omega
 unfold ZI;rw[XV,b,List.set_append_right _ _ (by omega),a,Nat.sub_self,show l.length - q=(l.length - (q+1))+1 by omega,List.replicate_succ,List.set_cons_zero]
 simp
theorem Qed (l:List Qk):ZI l l.length=l:=by simp[ZI]
theorem QcY (l:List Qk):ZI l 0=List.replicate l.length noV:=by simp[ZI]
theorem Qc4 (w:World) (n:Nat):(w.alloc (.cells (madeCells (#[Iv 0,Iv 0,Iv 0,Iv 0]:Array Value) (n*4)) 211)).rowIs w.heap.size 211 ((List.replicate n noV).length*4) (Zu (List.replicate n noV)):=by
 refine⟨_,Qe _ _ _,by simp[size_madeCells],fun i b=>?_⟩
 have a:i<n*4:=by simpa using b
 have e:Zu (List.replicate n noV) i=Iv 0:=by
  unfold Zu;rw[show (List.replicate n noV).getD (i / 4) noV=noV by simp[List.getD,List.getElem?_replicate];split<;>rfl]
  have:i%4=0\/i%4=1\/i%4=2\/i%4=3:=by omega
  rcases this with h | h | h | h<;>rw[h]<;>rfl
 rw[e]
 have:i%4<4:=by omega
 simp[madeCells,a]
 have:i%4=0\/i%4=1\/i%4=2\/i%4=3:=by omega
 rcases this with h | h | h | h<;>simp[h]
theorem Qcj (n:Nat) (hn:n<=1099511627776) (w:World):(Instr.makeSlice 98 (Iv (n:Int)) (Iv (n:Int))).run prog w=.ok (.slice (some ⟨w.heap.size,0,none⟩) n n) (w.alloc (.cells (madeCells (#[Iv 0,Iv 0,Iv 0,Iv 0]:Array Value) (n*4)) 211)):=by
 obtain⟨i,a,d,c,b⟩:=hInfoV
 have:=run_make (P:=prog) w 98 211 i _ hUnderVs a d .i64 .i64 n n (by omega) (Int.le_refl _) (by rw[b];omega) (by omega)
 rw[c] at this
 simpa[Value.cells] using this
theorem Qfj {l:List Qk}(hn:l.length=n) (hb:n<=1099511627776) (M:VIn w a l) :
 Calls prog 199 #[.slice a n c] w fun e w'=>∃ g,e=.returned (.slice (some ⟨g,0,none⟩) n n)/\w.heap.size<=g/\w'.rowIs g 211 (n*4) (Zu (l.map Qk.bare))/\Below w.heap.size w w':=by
 have C:=Qcj n hb w;have F:=Qb (Qc4 w n);have B0:=Qb (Zb w (.cells (madeCells (#[Iv 0,Iv 0,Iv 0,Iv 0]:Array Value) (n*4)) 211));have HL:=Qb M;have B:=Qb hn;clear M hn;go_enter func199,ntmps199
 go_upto_region 2 with fail
 generalize w.alloc (.cells (madeCells (#[Iv 0,Iv 0,Iv 0,Iv 0]:Array Value) (n*4)) 211)=w1 at F B0 |-;clear C;obtain⟨g,Q⟩:∃ g,g=w.heap.size:=⟨_,Z⟩
 have r:Hid (w.heap.size<=g):=by show _<=_;omega
 rw[<-Q] at F |-
 clear Q;go_wp2_with fail
 go_loopw [11] (fun i wr=>∃ q:Nat,q<=n/\i=Iv q/\wr.rowIs g 211 ((ZI (l.map Qk.bare) q).length*4) (Zu (ZI (l.map Qk.bare) q))/\Below w.heap.size w wr) (fun i _=>n - (intOf i).toNat)
 case atStart =>
  refine⟨0,Xb _,Z,?_,B0.out⟩
  rw[QcY,XN,B.out]
  exact F.out
 case round =>
  obtain⟨q,hq,rfl,hR,hB⟩:=hrel
  have A:=Qb hR;have t:=Qb hB;clear hR hB;by_cases o:q<n
  ·have O:(q:Int)<n:=by omega
   obtain⟨x,K⟩:∃ x,l[q]?=some x:=⟨_,Zg (by rw[B.out];exact o)⟩
   obtain⟨g1,o1,rfl,H,c0,R,c2,X⟩:=(VIn.below HL.out t.out) q x K
   have J:=Qb (fun wx=>QfY wx x);have P:=Qb K;obtain⟨h,j,k,m,I⟩:∃ h j k m,x.bare=(⟨h,j,k,m⟩:Qk):=⟨_,_,_,_,Z⟩
   have N:=Qb I;rw[I] at J
   obtain⟨xk,xr,xt,xn⟩:=x
   simp only at c0 R c2 X
   have s:Hid (∀ d,Below wr.heap.size wr d->(d.cell? ⟨g,q*4,none⟩).isSome=true/\(d.cell? ⟨g,q*4+1,none⟩).isSome=true/\(d.cell? ⟨g,q*4+2,none⟩).isSome=true/\(d.cell? ⟨g,q*4+3,none⟩).isSome=true/\(∀ i,d.frozen? ⟨g,i,none⟩=false)/\((((d.setCell ⟨g,q*4,none⟩ (Iv h)).setCell ⟨g,q*4+1,none⟩ (Iv j)).setCell ⟨g,q*4+2,none⟩ (Iv k)).setCell ⟨g,q*4+3,none⟩ (Iv m)).rowIs g 211 ((ZI (l.map Qk.bare) (q+1)).length*4) (Zu (ZI (l.map Qk.bare) (q+1)))/\Below w.heap.size w ((((d.setCell ⟨g,q*4,none⟩ (Iv h)).setCell ⟨g,q*4+1,none⟩ (Iv j)).setCell ⟨g,q*4+2,none⟩ (Iv k)).setCell ⟨g,q*4+3,none⟩ (Iv m))):=by
    intro d y;have G:=A.out.of_block (y.block g A.out.lt);have f:(l.map Qk.bare).length=n:=by rw[XN,B.out]
    have u:q<(ZI (l.map Qk.bare) q).length:=by rw[QhY _ (by omega),f];exact o
    have D:(l.map Qk.bare)[q]?=some ⟨h,j,k,m⟩:=by rw[XS,P.out,<-N.out];rfl
    obtain⟨T,V,W,z3⟩:=QaH G (Zg u)
    refine⟨by rw[T];rfl,by rw[V];rfl,by rw[W];rfl,by rw[z3];rfl,G.frozen,?_,?_⟩
    ·rw[Qgq _ D]
     exact QdI G u h j k m
    ·have b:=t.out.trans (y.mono t.out.size);exact(((b.setCell (p:=⟨g,q*4,none⟩) r.out _).setCell (p:=⟨g,q*4+1,none⟩) r.out _).setCell (p:=⟨g,q*4+2,none⟩) r.out _).setCell (p:=⟨g,q*4+3,none⟩) r.out _
   clear K I H;go_wp2_with fail
   refine(J.out _).mono ?_
   rintro e d ⟨rfl,y⟩;have v:Below wr.heap.size wr d:=(Zb wr _).trans (y.mono (by simp));obtain⟨S,L,U,p3,z,pr,pb⟩:=s.out d v
   obtain⟨T,S⟩:=Option.isSome_iff_exists.1 S
   obtain⟨V,L⟩:=Option.isSome_iff_exists.1 L
   obtain⟨W,U⟩:=Option.isSome_iff_exists.1 U
   obtain⟨z3,p3⟩:=Option.isSome_iff_exists.1 p3
   have f0:=z (q*4);have f1:=z (q*4+1);have f2:=z (q*4+2);have f3:=z (q*4+3);have PR:=Qb pr;have PB:=Qb pb;clear z pr pb s J y v P N A t c0 R c2 X;go_wp2
   go_roundw
   case rel=>exact⟨q+1,by omega,by go_num,PR.out,PB.out⟩
   case measure=>simp[intOf];omega
  ·have E:q=n:=by omega
   subst E;go_wp2
   go_ret;refine⟨g,Z,r.out,?_,t.out⟩
   have:=A.out
   have f:(l.map Qk.bare).length=q:=by rw[XN,B.out]
   rw[show ZI (l.map Qk.bare) q=l.map Qk.bare by rw[<-f];exact Qed _,f] at this
   exact this
theorem HIn.added {j w4:World}{i:Qc}{G:HG}(m:HIn w2 b O i G) (c:Below w2.heap.size w2 j){p:Ql}{t:Qs}(w:i.L[k]?=some p) (o:p.there=true){va:Option Addr}{vc:Nat}(v:∀ x,QcM (.slice va t.l.length vc) t x->w2.heap.size<=x)
 (s:∃ S',QdP w4 (G.g k) k { p with l:=p.l++[t] } S'/\(∀ x,G.S k x->S' x)/\(∀ x,S' x->G.S k x\/j.heap.size<=x\/QcM (.slice va t.l.length vc) t x)/\(∀ x,S' x->x<w4.heap.size)/\QZ (G.S k) (G.S k) j w4) :
 ∃ O' G',HIn w4 b O' { i with L:=i.L.set k { p with l:=p.l++[t] } } G'/\QZ O O' w2 w4/\(∀ x,O x->O' x)/\(∀ x,O' x->O x\/w2.heap.size<=x):=by
 obtain⟨S',y,z,u,r,e⟩:=s
 have f:∀ x,S' x->G.S k x\/w2.heap.size<=x:=fun x a=>by
  rcases u x a with h | h | h
  ·exact .inl h
  ·exact .inr (Zt c.size h)
  ·exact .inr (v x h)
 have d:QZ (G.S k) S' w2 w4:=⟨e.os.trans c.os,e.tape.trans c.tape,e.output.trans c.output,Zt c.size e.size,fun x a n=>(e.block x (Zl a c.size) n).trans (c.block x a),f⟩;have R:=m.regTo w o (p':={ p with l:=p.l++[t] }) o y r d;have q:∀ x,(O x\/S' x)->O x\/w2.heap.size<=x:=fun x a=>a.elim .inl (fun h=>(f x h).imp (fun h=>(m.os k x h).1) id);exact⟨_,_,R,⟨d.os,d.tape,d.output,d.size,fun x a n=>d.block x a (fun h=>n (m.os k x h).1),q⟩,fun x a=>.inl a,q⟩
def QeW (n:Nat):Int:=if n=0 then 1 else n
theorem QeN (n:Nat) (ts:Array TypeId) (t:TypeId) (w:World):(Builtin.max_ ts t #[Iv (n:Int),Iv 1]).run prog w=.ok (Iv (QeW n)) w:=by
 rw[Lib.run_max_ints]
 congr 2
 unfold QeW;split<;>omega
theorem VIn.step {l:List Qk}(h:VIn w a l) (s:QZ O O' w w') (f:∀ g o,a=some ⟨g,o,none⟩->¬ O g):VIn w' a l:=fun i x k=>by
 obtain⟨g,o,e,c,j,m,d,n⟩:=h i x k
 have b:=s.block g c (f g o e);exact⟨g,o,e,Zl c s.size,(XU (w:=w) (a:=⟨g,o+i*4,none⟩) b).trans j,(XU (w:=w) (a:=⟨g,o+i*4+1,none⟩) b).trans m,(XU (w:=w) (a:=⟨g,o+i*4+2,none⟩) b).trans d,(XU (w:=w) (a:=⟨g,o+i*4+3,none⟩) b).trans n⟩
theorem Qjk {h:Qc}{G:HG}(H:HIn w b O h G) (v:Qk) (s:v.ok){l:List Qk}(hn:l.length=n) (hb:n<=1099511627776) (q:VIn w a l) (r:h.at v=none) :
 Calls prog 141 #[Pv b 0,QU v,.slice a n c] w fun e w'=>e=.returned (.tuple #[QU (h.tuple v (l.map Qk.bare)).1,Iv (h.tuple v (l.map Qk.bare)).2.1])/\HTo w w' b O (h.tuple v (l.map Qk.bare)).2.2:=by
 have i:=Qb (QaT w (.cells #[Iv v.kind,Iv v.region,Iv v.thing,Iv v.n] 211) (.cells #[Iv 0,Iv 0,Iv 0,Iv 0] 211));have g:=Qb (Qh1 w #[Iv v.kind,Iv v.region,Iv v.thing,Iv v.n] 211 (.cells #[Iv 0,Iv 0,Iv 0,Iv 0] 211));have f:=Qb (Qcr w (.cells #[Iv v.kind,Iv v.region,Iv v.thing,Iv v.n] 211) #[Iv 0,Iv 0,Iv 0,Iv 0] 211);have u:=Qb H;have m:=Qb (H.below i.out);have z:=Qb (q.below i.out)
 have E:Hid (h.tuple v (l.map Qk.bare)=(noV,20,h)):=by
  show _=_;exact Qc.tuple_none _ r
 have C:=Qb (Qd3 m.out v s (QeW n) r);have B:=QeN n;clear H s q;go_enter func141,ntmps141
 go_upto_region 1 with fail
 generalize ((w.alloc (.cells #[Iv v.kind,Iv v.region,Iv v.thing,Iv v.n] 211)).alloc (.cells #[Iv 0,Iv 0,Iv 0,Iv 0] 211))=w1 at i g f m C z |-;obtain⟨X,x⟩:∃ X,X=w.heap.size:=⟨_,Z⟩
 obtain⟨R,y⟩:∃ R,R=X+1:=⟨_,Z⟩
 have F:Hid (w.heap.size<=R):=by show _<=_;omega
 have I:Hid (¬ O R):=fun e=>by have:=u.out.lt R e;omega
 rw[<-x] at g f |-
 rw[<-y] at f |-
 clear x y;have V:=Qa g.out 0 _ Z;have L:=Qa g.out 1 _ Z;have N:=Qa g.out 2 _ Z;have P:=Qa g.out 3 _ Z;have M:=Qb f.out;go_wp2_with fail
 refine C.out.mono ?_;rintro e t ⟨rfl,o⟩;have Q:=Qb (m.out.below o);have T:Hid (QZ O O w t):=QZ.of_below (i.out.trans (o.mono i.out.size)) (fun k K=>.inl K);have d:=Qb ((o.block R (XC f.out)).trans f.out);clear V L N P M C o g f i m z u;have s0:=Qa d.out 0 _ Z;have s1:=Qa d.out 1 _ Z;have s2:=Qa d.out 2 _ Z;have s3:=Qa d.out 3 _ Z;have f0:=Qd d.out 0;have f1:=Qd d.out 1;have W:=Qd d.out 2;have f3:=Qd d.out 3;have p:=Qb (HTo.st4 (w:=w) Q.out T.out (fun _ h=>h) F.out I.out 0 0 0 0);have j:=Qb (Qac d.out 0 0 0 0);go_wp2
 generalize ((((t.setCell ⟨R,0,none⟩ (Iv 0)).setCell ⟨R,1,none⟩ (Iv 0)).setCell ⟨R,2,none⟩ (Iv 0)).setCell ⟨R,3,none⟩ (Iv 0))=U at p j |-;have A:=Qa j.out 0 _ Z;have J:=Qa j.out 1 _ Z;have D:=Qa j.out 2 _ Z;have S:=Qa j.out 3 _ Z;exact Xy (v:=.tuple #[.agg #[Iv 0,Iv 0,Iv 0,Iv 0],Iv 20]) (by simp[results,results141,go_sem,A,J,D,S]) Z ⟨by rw[E.out]<;>rfl,by rw[E.out];exact p.out⟩
theorem Qij {h:Qc}{G:HG}(H:HIn w b O h G) (v:Qk) (x:v.ok){l:List Qk}(hn:l.length=n) (hb:n<=1099511627776) (t:VIn w a l){p:Ql}(u:h.at v=some p) (q:p.tight (QeW n)=true) (m:h.left=0) (J:0<=p.used/\p.used<=1099511627776) :
 Calls prog 141 #[Pv b 0,QU v,.slice a n c] w fun e w'=>e=.returned (.tuple #[QU (h.tuple v (l.map Qk.bare)).1,Iv (h.tuple v (l.map Qk.bare)).2.1])/\HTo w w' b O (h.tuple v (l.map Qk.bare)).2.2:=by
 have i:=Qb (QaT w (.cells #[Iv v.kind,Iv v.region,Iv v.thing,Iv v.n] 211) (.cells #[Iv 0,Iv 0,Iv 0,Iv 0] 211));have g:=Qb (Qh1 w #[Iv v.kind,Iv v.region,Iv v.thing,Iv v.n] 211 (.cells #[Iv 0,Iv 0,Iv 0,Iv 0] 211));have f:=Qb (Qcr w (.cells #[Iv v.kind,Iv v.region,Iv v.thing,Iv v.n] 211) #[Iv 0,Iv 0,Iv 0,Iv 0] 211);have z:=Qb H;have o:=Qb (H.below i.out);have D:=Qb (t.below i.out)
 have E:Hid (h.tuple v (l.map Qk.bare)=(noV,14,h)):=by
  show _=_;unfold Qc.tuple;rw[XN,hn];exact Qc.put_full _ _ u q m
 have C:=Qb (Qen o.out v x (QeW n) u q m (by unfold QeW;split<;>omega) J);have I:=QeN n;clear H x t;have V:=Qb q;clear q;go_enter func141,ntmps141
 go_upto_region 1 with fail
 generalize ((w.alloc (.cells #[Iv v.kind,Iv v.region,Iv v.thing,Iv v.n] 211)).alloc (.cells #[Iv 0,Iv 0,Iv 0,Iv 0] 211))=w1 at i g f o C D |-;obtain⟨X,A⟩:∃ X,X=w.heap.size:=⟨_,Z⟩
 obtain⟨R,B⟩:∃ R,R=X+1:=⟨_,Z⟩
 have L:Hid (w.heap.size<=R):=by show _<=_;omega
 have M:Hid (¬ O R):=fun e=>by have:=z.out.lt R e;omega
 rw[<-A] at g f |-
 rw[<-B] at f |-
 clear A B;have x0:=Qa g.out 0 _ Z;have Q:=Qa g.out 1 _ Z;have T:=Qa g.out 2 _ Z;have U:=Qa g.out 3 _ Z;have S:=Qb f.out;go_wp2_with fail
 refine C.out.mono ?_;rintro e y ⟨rfl,r⟩;have W:=Qb (o.out.below r);have SZ:Hid (QZ O O w y):=QZ.of_below (i.out.trans (r.mono i.out.size)) (fun k P=>.inl P);have d:=Qb ((r.block R (XC f.out)).trans f.out);clear x0 Q T U S C r g f i o D z;have s0:=Qa d.out 0 _ Z;have s1:=Qa d.out 1 _ Z;have s2:=Qa d.out 2 _ Z;have s3:=Qa d.out 3 _ Z;have f0:=Qd d.out 0;have f1:=Qd d.out 1;have f2:=Qd d.out 2;have f3:=Qd d.out 3;have s:=Qb (HTo.st4 (w:=w) W.out SZ.out (fun _ h=>h) L.out M.out 0 0 0 0);have j:=Qb (Qac d.out 0 0 0 0);go_wp2
 generalize ((((y.setCell ⟨R,0,none⟩ (Iv 0)).setCell ⟨R,1,none⟩ (Iv 0)).setCell ⟨R,2,none⟩ (Iv 0)).setCell ⟨R,3,none⟩ (Iv 0))=aa at s j |-;have F:=Qa j.out 0 _ Z;have N:=Qa j.out 1 _ Z;have K:=Qa j.out 2 _ Z;have e3:=Qa j.out 3 _ Z;exact Xy (v:=.tuple #[.agg #[Iv 0,Iv 0,Iv 0,Iv 0],Iv 14]) (by simp[results,results141,go_sem,F,N,K,e3]) Z ⟨by rw[E.out]<;>rfl,by rw[E.out];exact s.out⟩
theorem QlR {h:Qc}{G:HG}(H:HIn w b O h G) (v:Qk) (hv:v.ok){l:List Qk}(hn:l.length=n) (hb:n<=1099511627776) (hl:VIn w a l){p:Ql}(ha:h.at v=some p)(j:v.region=k) (u:¬ (p.tight (QeW n)=true/\h.left=0)) (hu:0<=p.used/\p.used<=1099511627776) (V:p.pages<=1099511627776) (ae:h.left<=1099511627776) (S:p.l.length<=1099511627776) (af:∀ g o,a=some ⟨g,o,none⟩->¬ O g) :
 Calls prog 141 #[Pv b 0,QU v,.slice a n c] w fun e w'=>e=.returned (.tuple #[QU (h.tuple v (l.map Qk.bare)).1,Iv (h.tuple v (l.map Qk.bare)).2.1])/\HTo w w' b O (h.tuple v (l.map Qk.bare)).2.2:=by
 have B0:=Qb (QaT w (.cells #[Iv v.kind,Iv v.region,Iv v.thing,Iv v.n] 211) (.cells #[Iv 0,Iv 0,Iv 0,Iv 0] 211));have J:=Qb (Qh1 w #[Iv v.kind,Iv v.region,Iv v.thing,Iv v.n] 211 (.cells #[Iv 0,Iv 0,Iv 0,Iv 0] 211));have m:=Qb (Qcr w (.cells #[Iv v.kind,Iv v.region,Iv v.thing,Iv v.n] 211) #[Iv 0,Iv 0,Iv 0,Iv 0] 211);have H0:=Qb H;have H1:=Qb (H.below B0.out);have HL:=Qb (hl.below B0.out)
 have E:Hid (h.tuple v (l.map Qk.bare)=(⟨3,k,p.l.length,0⟩,0,⟨h.L.set k { p.roomed (QeW n) with l:=p.l++[⟨false,l.map Qk.bare⟩] },h.roomLeft p (QeW n)⟩)):=by
  show _=_;unfold Qc.tuple;rw[XN,hn]
  exact Qc.put_ok _ _ ha j u
 have C:=Qb (Qg6 H1.out v hv (QeW n) ha j u (by unfold QeW;split<;>omega) hu V ae);have al:=QeN n;obtain⟨-,-,f,aj,ad,N⟩:=Qc.at_some ha
 have ek:f=k:=by omega
 subst ek;have aa:=Qb ad;have ac:=Qb N;have HN:=Qb hn;have ah:=Qb j;have ag:=Qb af;clear af;clear H hv hl ha u aj ad N hn j;go_enter func141,ntmps141
 go_upto_region 1 with fail
 generalize ((w.alloc (.cells #[Iv v.kind,Iv v.region,Iv v.thing,Iv v.n] 211)).alloc (.cells #[Iv 0,Iv 0,Iv 0,Iv 0] 211))=w1 at B0 J m H1 C HL |-;obtain⟨X,hX⟩:∃ X,X=w.heap.size:=⟨_,Z⟩
 obtain⟨R,hR⟩:∃ R,R=X+1:=⟨_,Z⟩
 have HR:Hid (w.heap.size<=R):=by show _<=_;omega
 have NR:Hid (¬ O R):=fun e=>by have:=H0.out.lt R e;omega
 rw[<-hX] at J m |-
 rw[<-hR] at m |-
 clear hX hR;have x0:=Qa J.out 0 _ Z;have x1:=Qa J.out 1 _ Z;have x2:=Qa J.out 2 _ Z;have x3:=Qa J.out 3 _ Z;have r0:=Qb m.out;go_wp2_with fail
 refine C.out.mono ?_;rintro e w2 ⟨rfl,h2,A⟩;have s:=Qb h2;have SZ:Hid (QZ O O w w2):=(QZ.of_below (O:=O) B0.out (fun k hk=>.inl hk)).trans A;have F:Hid (R<w1.heap.size):=XC m.out;have U:Hid (¬ O R):=NR.out;have z:=Qb ((A.block R (XC m.out) NR.out).trans m.out);have VI:=Qb (VIn.step HL.out A ag.out);clear x0 x1 x2 x3 r0 C h2 J m H1 HL;go_wp2_with fail
 refine(Qfj HN.out hb VI.out).mono ?_
 rintro e w3 ⟨g,rfl,hg,r,b3⟩;have q:=Qb r;have B:=Qb b3;have HG:=Qb hg
 have I:(⟨h.L.set f (p.roomed (QeW n)),h.roomLeft p (QeW n)⟩:Qc).L[f]?=some (p.roomed (QeW n)):=by
  have:=(Zi aa.out).1
  simp[this]
 have y:(p.roomed (QeW n)).there=true:=by rw[Ql.roomed_there];exact ac.out
 obtain⟨tv,pv,RI⟩:=(s.out.below b3).reg f _ I y
 have PA:ZP w3 (.slice (some ⟨g,0,none⟩) (⟨false,l.map Qk.bare⟩:Qs).l.length n) (⟨false,l.map Qk.bare⟩:Qs).l:=by
  have i:(l.map Qk.bare).length=n:=by rw[XN,HN.out]
  refine⟨⟨_,_,Z⟩,fun _=>⟨g,n,Z,?_⟩⟩
  show w3.rowIs g _ ((l.map Qk.bare).length*4) _;rw[i];exact q.out
 have pb:∀ x,QcM (.slice (some ⟨g,0,none⟩) (⟨false,l.map Qk.bare⟩:Qs).l.length n) ⟨false,l.map Qk.bare⟩ x->w2.heap.size<=x:=fun x D=>by
  have:=ownBlock_slice.1 D.2
  have:=HG.out
  omega
 have CA:=QgR RI PA (fun x D hS=>by have:=s.out.lt x (s.out.os f x hS).1;have:=pb x D;omega) (fun x D=>Zl (s.out.lt x (s.out.os f x D).1) B.out.size) (by rw[Ql.roomed_l];exact S);rw[show (⟨false,l.map Qk.bare⟩:Qs).l.length=n by show (l.map Qk.bare).length=n;rw[XN,HN.out],Ql.roomed_l] at CA
 have M:Hid (Calls prog 198 #[Pv (G.g f) 0,Iv 3,.slice (some ⟨g,0,none⟩) n n] w3 fun e w'=>e=.returned (.agg #[Iv 3,Iv f,Iv p.l.length,Iv 0])/\∃ K G',HIn w' b K ⟨h.L.set f { p.roomed (QeW n) with l:=p.l++[⟨false,l.map Qk.bare⟩] },h.roomLeft p (QeW n)⟩ G'/\QZ O K w2 w'/\(∀ x,O x->K x)/\(∀ x,K x->O x\/w2.heap.size<=x)):=by
  refine CA.mono ?_;rintro e w4 ⟨rfl,Q⟩;refine⟨Z,?_⟩
  have i:(⟨false,l.map Qk.bare⟩:Qs).l.length=n:=by show (l.map Qk.bare).length=n;rw[XN,HN.out]
  have AD:=s.out.added (w4:=w4) B.out I y (t:=⟨false,l.map Qk.bare⟩) (va:=some ⟨g,0,none⟩) (vc:=n) pb (by rw[i,Ql.roomed_l];exact Q);rw[Ql.roomed_l] at AD
  simpa only [List.set_set] using AD
 have W:=Qb z.out;have ai:=Qb ((b3.block R (by have:=F.out;have:=A.size;omega)).trans z.out);have ab:Hid (R<w2.heap.size):=Zl F.out A.size;clear r hg b3 RI PA pb CA I y q HG z VI aa ac HN ah ag A s B0 H0 F hb hu V ae S;go_wp2_with fail
 refine M.out.mono ?_;rintro e w4 ⟨rfl,K,G',h4,s4,o4,n4⟩
 have P:¬ K R:=fun e=>by
  rcases n4 R e with h | h
  ·exact U.out h
  ·have:=ab.out;omega
 have d:=Qb ((s4.block R ab.out U.out).trans W.out);have K1:=Qb (HTo.st4 h4 (SZ.out.trans s4) (fun x D=>o4 x D) HR.out P 3 (f:Int) (p.l.length:Int) 0);have T:=Qb (Qac d.out 3 (f:Int) (p.l.length:Int) 0);have s0:=Qa d.out 0 _ Z;have s1:=Qa d.out 1 _ Z;have A:=Qa d.out 2 _ Z;have s3:=Qa d.out 3 _ Z;have f0:=Qd d.out 0;have f1:=Qd d.out 1;have f2:=Qd d.out 2;have f3:=Qd d.out 3;clear h4 s4 o4 n4 P M B ai;go_wp2
 generalize ((((w4.setCell ⟨R,0,none⟩ (Iv 3)).setCell ⟨R,1,none⟩ (Iv (f:Int))).setCell ⟨R,2,none⟩ (Iv (p.l.length:Int))).setCell ⟨R,3,none⟩ (Iv 0))=ak at K1 T |-;have e0:=Qa T.out 0 _ Z;have e1:=Qa T.out 1 _ Z;have e2:=Qa T.out 2 _ Z;have e3:=Qa T.out 3 _ Z;exact Xy (v:=.tuple #[.agg #[Iv 3,Iv f,Iv p.l.length,Iv 0],Iv 0]) (by simp[results,results141,go_sem,e0,e1,e2,e3]) Z ⟨by rw[E.out]<;>rfl,by rw[E.out];exact K1.out⟩
theorem QeA (w:World) (k n ty b:TypeId) (s g o d dCap:Nat) (a:Addr) (sLen sCap:Nat) (c:Array Value) (t:TypeId) (cs:List Value)
 (q:P.underlying k=some (.slice b)) (m:(P.info? b).map (·.size)=some s)
 (p:w.heap[g]?=some (.cells c t (0,0))) (hn:cs.length=Nat.min sLen d*s)
 (e:∀ j v,cs[j]?=some v->w.cell? (a.add j)=some v) (f:o+cs.length<=c.size) (r:∀ v∈cs,v.oneCell'=true) :
 (Builtin.copy_ #[k,n] ty #[.slice (some ⟨g,o,none⟩) d dCap,.slice (some a) sLen sCap]).run P w =
  .ok (goInt (Nat.min sLen d)) (w.setRow g (c.toList.take o++cs++c.toList.drop (o+cs.length)).toArray):=by
 have l:=run_loadCells_list (P:=P) w a cs e;have h:=run_storeCells_at P g o t cs 0 c w p (by simpa using f) r;rw[hn] at l
 cases hq:P.info? b with
 | none=>simp[hq] at m
 | some i =>
   have u:i.size=s:=by simpa[hq] using m
   simp[Builtin.copy_,run_underlying q,Builtin.lenOf,Builtin.firstCells,sizeOf,typeInfo,hq,u,l,h]
theorem QhK {f:Nat->Value}{c:Array Value}(d:w.heap[g]?=some (.cells c t (0,0))) (n:c.size=N) (h:∀ i,i<N->c[i]?=some (f i)) (l:o+cs.length<=N) :
 (w.setRow g (c.toList.take o++cs++c.toList.drop (o+cs.length)).toArray).rowIs g t N (fun j=>if o<=j/\j<o+cs.length then cs.getD (j - o) undef else f j):=by
 refine⟨_,setRow_heap w g c _ t _ d,by simp;omega,fun i k=>?_⟩
 have a:(c.toList.take o).length=o:=by simp;omega
 have b:=h i k;rw[List.getElem?_toArray]
 show _=some (if o<=i/\i<o+cs.length then cs.getD (i - o) undef else f i);by_cases e:i<o
 ·rw[Xr (by omega),List.append_assoc,XP (by omega),XR,Xs e]
  simpa using b
 ·by_cases m:i<o+cs.length
  ·rw[Xs (by omega),XP (by simp;omega),XQ (by omega),a]
   simp[List.getD,show i - o<cs.length by omega]
  ·rw[Xr (by omega),XQ (by simp;omega)]
   simp only[List.length_append,a]
   rw[List.getElem?_drop,show o+cs.length+(i - (o+cs.length))=i by omega]
   simpa using b
def Qay (k:Nat):List Value:=(List.range (k*4)).map fun j=>vAt (Qaz 0) (j%4)
theorem Z0 (k:Nat):(Qay k).length=k*4:=by simp[Qay]
theorem Qcn (k j:Nat) (v:Value) (h:(Qay k)[j]?=some v):j<k*4/\v=vAt (Qaz 0) (j%4):=by
 have a:=(Zi h).1;rw[Z0] at a
 refine⟨a,?_⟩
 simp[Qay,a] at h
 exact h.symm
theorem QfZ (k:Nat):∀ v∈Qay k,v.oneCell'=true:=by
 intro v a;obtain⟨j,b,rfl⟩:=List.mem_map.1 a
 have:j%4=0\/j%4=1\/j%4=2\/j%4=3:=by omega
 rcases this with h | h | h | h<;>rw[h]<;>rfl
abbrev QcL (n:Nat):List Qk:=List.replicate n (Qaz 0)
theorem QeB (b:m<=n) (a:j<n*4):Zu (ZI (QcL n) m) j=if j<m*4 then vAt (Qaz 0) (j%4) else Iv 0:=by
 unfold Zu ZI;simp only[List.getD,List.length_replicate]
 by_cases h:j<m*4
 ·rw[Xs h,XP (by simp;omega)]
  rw[XR,Xs (by omega),List.getElem?_replicate,Xs (by omega)];rfl
 ·rw[Xr h,XQ (by simp;omega)]
  have e:((List.replicate (n - m) noV)[j / 4 - (List.take m (QcL n)).length]?.getD noV)=noV:=by
   rw[List.getElem?_replicate];split<;>rfl
  rw[e]
  have:j%4=0\/j%4=1\/j%4=2\/j%4=3:=by omega
  rcases this with h | h | h | h<;>rw[h]<;>rfl
theorem QfI {sLen sCap dCap:Nat}{a:Addr}(u:m<=n) (s:w.rowIs g 211 (n*4) (Zu (ZI (QcL n) m))) (l:Nat.min sLen (n - m)=k) (d:∀ j v,(Qay k)[j]?=some v->w.cell? (a.add j)=some v) (ty:TypeId) :
 ∃ w',(Builtin.copy_ #[98,98] ty #[.slice (some ⟨g,m*4,none⟩) (n - m) dCap,.slice (some a) sLen sCap]).run prog w=.ok (Iv k) w'/\w'.rowIs g 211 (n*4) (Zu (ZI (QcL n) (m+k)))/\∀ B w0,Below B w0 w->B<=g->Below B w0 w':=by
 obtain⟨c,o,y,x⟩:=s
 have f:m+k<=n:=by have:Nat.min sLen (n - m)<=n - m:=Nat.min_le_right _ _;omega
 have h:(prog.info? 211).map (·.size)=some 4:=by kernel_rfl
 have b:=QeA (P:=prog) w 98 98 ty 211 4 g (m*4) (n - m) dCap a sLen sCap c 211 (Qay k) hUnderVs h o (by rw[Z0,l]) d (by rw[Z0];omega) (QfZ k);rw[l] at b
 refine⟨_,b,(QhK o y x (by rw[Z0];omega)).congr fun j i=>?_,fun B w0 t r=>below_setRow t r _⟩
 rw[Z0,QeB f i,QeB u i]
 by_cases p:j<m*4
 ·rw[Xr (by omega),Xs p,Xs (by omega)]
 ·by_cases q:j<(m+k)*4
  ·rw[Xs (by omega),Xs q]
   have e:j - m*4<(Qay k).length:=by rw[Z0];omega
   rw[List.getD,Zg e,Option.getD_some]
   rw[(Qcn k (j - m*4) _ (Zg e)).2,show (j - m*4)%4=j%4 by omega]
  ·rw[Xr (by omega),Xr p,Xr q]
theorem QmM (w:World) (n:Nat) (hn:n<=15):Calls prog 284 #[.int .u64 1,.int .u64 (n:Int)] w fun e w'=>e=.returned (.tuple #[.int .u64 0,.int .u64 (n:Int)])/\w'=w:=by
 match n,hn with
 | 0,_ | 1,_ | 2,_ | 3,_ | 4,_ | 5,_ | 6,_ | 7,_ | 8,_ | 9,_ | 10,_ | 11,_ | 12,_ | 13,_ | 14,_ | 15,_ =>
   go_enter func284,ntmps284
   go_wp2
   go_ret2;exact⟨Z,Z⟩
 | n+16,h=>omega
theorem QoB (w:World) (n:Nat) (hn:n<=15):Calls prog 265 #[.int .u64 1,.int .u64 (n:Int)] w fun e w'=>e=.returned (.tuple #[.int .u64 0,.int .u64 (n:Int)])/\w'=w:=by
 have C:=Qb (QmM w n hn);go_enter func265,ntmps265
 go_wp2_with (go_at_call 284;refine(C.out).mono ?_;rintro e w' ⟨rfl,a⟩;have a:=a.symm;subst a)
 go_ret2;exact⟨Z,Z⟩
theorem Qe2 (g o j:Nat):(⟨g,o,none⟩:Addr).add j=⟨g,o+j,none⟩:=Go.WideShapes.add_plain g o j
theorem Qgh {t:Nat}(G:w.heap[t]?=some (.cells #[Iv 1,Iv 0,Iv 0,Iv 0] 211 (0,0))) (xc n:Nat) (hn:n<=15) :
 Calls prog 234 #[.slice (some ⟨t,0,none⟩) 1 xc,Iv (n:Int)] w fun e w'=>∃ g,e=.returned (.slice (some ⟨g,0,none⟩) n n)/\w.heap.size<=g/\w'.rowIs g 211 (n*4) (Zu (QcL n))/\Below w.heap.size w w':=by
 have C:=Qb (QoB w n hn);have X:=Qcj n (by omega) w
 have O:Hid ((w.alloc (.cells (madeCells (#[Iv 0,Iv 0,Iv 0,Iv 0]:Array Value) (n*4)) 211)).rowIs w.heap.size 211 (n*4) (Zu (ZI (QcL n) 0))):=by
  have:=Qc4 w n
  rw[QcY,List.length_replicate]
  rw[List.length_replicate] at this
  exact this
 have F:=Qb (Zb w (.cells (madeCells (#[Iv 0,Iv 0,Iv 0,Iv 0]:Array Value) (n*4)) 211))
 have a:∀ j v,(Qay (Nat.min 1 (n - 0)))[j]?=some v->(w.alloc (.cells (madeCells (#[Iv 0,Iv 0,Iv 0,Iv 0]:Array Value) (n*4)) 211)).cell? ((⟨t,0,none⟩:Addr).add j)=some v:=fun j v D=>by
  obtain⟨P,d⟩:=Qcn _ j v D
  have y:j<4:=by have:Nat.min 1 (n - 0)<=1:=Nat.min_le_left _ _;omega
  rw[Qe2,XK,d]
  have r:=(F.out.block t (XC G)).trans G;match j,y with
  | 0,_=>exact Qa r 0 _ Z
  | 1,_=>exact Qa r 1 _ Z
  | 2,_=>exact Qa r 2 _ Z
  | 3,_=>exact Qa r 3 _ Z
  | j+4,h=>omega
 obtain⟨w2,p,M,V⟩:=QfI (sLen:=1) (sCap:=xc) (dCap:=n) (Xb n) O.out Z a 3
 have k:=Qb M;have B2:=Qb (V _ _ F.out Ze);have HN:=Qb hn;have af:0<=(n:Int):=by omega
 have ad:(n:Int)<=15:=by omega
 have ae:IntKind.u64.wrap (n:Int)=(n:Int):=by rw[IntKind.wrap_u64];omega
 have ac:IntKind.i64.wrap (n:Int)=(n:Int):=by rw[IntKind.wrap_i64];omega
 have ab:decide ((n:Int)>9223372036854775807)=false:=Xu (by omega);simp only[Nat.zero_mul,Nat.sub_zero] at p k
 rw[XK] at k
 generalize c:Nat.min 1 n=z at p k
 have f:Hid (z<=n/\(z=0->n=0)):=by
  rw[<-c]
  refine⟨Nat.min_le_right _ _,fun h=>?_⟩
  show n=0
  have:min 1 n=0:=h
  omega
 clear G M V O F a c;go_enter func234,ntmps234
 go_wp2_with (go_at_call 265;refine(C.out).mono ?_;rintro e w' ⟨rfl,B⟩;have B:=B.symm;subst B)
 obtain⟨g,L⟩:∃ g,g=w.heap.size:=⟨_,Z⟩
 have I:Hid (w.heap.size<=g):=by show _<=_;omega
 rw[<-L] at k |-
 clear L;go_loopw [8] (fun i wr=>∃ m:Nat,m<=n/\(m=0->n=0)/\i=Iv m/\wr.rowIs g 211 (n*4) (Zu (ZI (QcL n) m))/\Below w.heap.size w wr) (fun i _=>n - (intOf i).toNat)
 case atStart=>exact⟨z,f.out.1,f.out.2,Z,k.out,B2.out⟩
 case round =>
  obtain⟨m,H,l,rfl,T,U⟩:=hrel
  have q:=Qb T;have N:=Qb U;have A:=Qb l;clear T U l;by_cases aa:m<n
  ·have J:(m:Int)<n:=by omega
   have u:0<m:=by have:=A.out;omega
   have a:∀ j v,(Qay (Nat.min m (n - m)))[j]?=some v->wr.drew.cell? ((⟨g,0,none⟩:Addr).add j)=some v:=fun j v D=>by
    obtain⟨P,d⟩:=Qcn _ j v D
    have hl:Nat.min m (n - m)<=m:=Nat.min_le_left _ _;have K:wr.cell? ⟨g,j,none⟩=some (Zu (ZI (QcL n) m) j):=q.out.cell (by omega);rw[QeB H (by omega),Xs (by omega)] at K
    rw[Qe2,XK,d]
    exact K
   obtain⟨w3,x,S,R⟩:=QfI (w:=wr.drew) (sLen:=m) (sCap:=n) (dCap:=n - m) H q.out Z a 3
   have Q:=Qb S;have B3:=Qb (R _ _ (Qk9 N.out) I.out);generalize o:Nat.min m (n - m)=s at x Q
   have b:Hid (0<s/\m+s<=n):=by
    rw[<-o]
    have P:Nat.min m (n - m)<=n - m:=Nat.min_le_right _ _;have d:0<Nat.min m (n - m):=Nat.lt_min.2 ⟨u,by omega⟩;exact⟨d,by omega⟩
   have W:s<=n:=by have:=b.out;omega
   clear S R a o q;go_wp2_with fail
   go_region;go_wp2
   go_roundw
   case rel=>exact⟨m+s,b.out.2,fun e=>by have:=b.out;omega,by go_num,Q.out,B3.out⟩
   case measure=>have:=b.out;simp[intOf];omega
  ·have E:m=n:=by omega
   subst E;go_wp2
   go_ret;refine⟨g,Z,I.out,?_,N.out⟩
   have:=q.out
   rw[show ZI (QcL m) m=QcL m by have:=Qed (QcL m);rwa [List.length_replicate] at this] at this
   exact this
theorem Qc.array_eq {h:Qc}{v:Qk}(hb:n<=15):h.array v (n:Int)=h.put v ⟨true,QcL n⟩ ((n:Int)+1):=by unfold Qc.array;rw[Xr (by omega),XT]
theorem Qc.array_none {h:Qc}{v:Qk}(hb:n<=15) (a:h.at v=none):h.array v (n:Int)=(noV,20,h):=by rw[Qc.array_eq hb];unfold Qc.put;rw[a]
theorem QjU {h:Qc}{G:HG}(H:HIn w b O h G) (v:Qk) (o:v.ok)(hb:n<=15) (m:h.at v=none) :
 Calls prog 200 #[Pv b 0,QU v,Iv (n:Int)] w fun e w'=>e=.returned (.tuple #[QU (h.array v (n:Int)).1,Iv (h.array v (n:Int)).2.1])/\HTo w w' b O (h.array v (n:Int)).2.2:=by
 have g:=Qb (QaT w (.cells #[Iv v.kind,Iv v.region,Iv v.thing,Iv v.n] 211) (.cells #[Iv 0,Iv 0,Iv 0,Iv 0] 211));have d:=Qb (Qh1 w #[Iv v.kind,Iv v.region,Iv v.thing,Iv v.n] 211 (.cells #[Iv 0,Iv 0,Iv 0,Iv 0] 211));have c:=Qb (Qcr w (.cells #[Iv v.kind,Iv v.region,Iv v.thing,Iv v.n] 211) #[Iv 0,Iv 0,Iv 0,Iv 0] 211);have q:=Qb H;have i:=Qb (H.below g.out)
 have E:Hid (h.array v (n:Int)=(noV,20,h)):=by
  show _=_;exact Qc.array_none hb m
 have C:=Qb (Qd3 i.out v o ((n:Int)+1) m);have t:(n:Int)<=15:=by omega
 have D:decide ((n:Int)>15)=false:=Xu (by omega);have x:decide ((n:Int)<0)=false:=Xu (by omega);clear H o;go_enter func200,ntmps200
 go_upto_region 1 with fail
 generalize ((w.alloc (.cells #[Iv v.kind,Iv v.region,Iv v.thing,Iv v.n] 211)).alloc (.cells #[Iv 0,Iv 0,Iv 0,Iv 0] 211))=W at g d c i C |-;obtain⟨X,r⟩:∃ X,X=w.heap.size:=⟨_,Z⟩
 obtain⟨R,s⟩:∃ R,R=X+1:=⟨_,Z⟩
 have z:Hid (w.heap.size<=R):=by show _<=_;omega
 have A:Hid (¬ O R):=fun e=>by have:=q.out.lt R e;omega
 rw[<-r] at d c |-
 rw[<-s] at c |-
 clear r s;have S:=Qa d.out 0 _ Z;have I:=Qa d.out 1 _ Z;have K:=Qa d.out 2 _ Z;have L:=Qa d.out 3 _ Z;have J:=Qb c.out;go_wp2_with fail
 refine C.out.mono ?_;rintro e p ⟨rfl,j⟩;have M:=Qb (i.out.below j);have P:Hid (QZ O O w p):=QZ.of_below (g.out.trans (j.mono g.out.size)) (fun k F=>.inl F);have a:=Qb ((j.block R (XC c.out)).trans c.out);clear S I K L J C j d c g i q;have s0:=Qa a.out 0 _ Z;have s1:=Qa a.out 1 _ Z;have U:=Qa a.out 2 _ Z;have s3:=Qa a.out 3 _ Z;have V:=Qd a.out 0;have f1:=Qd a.out 1;have T:=Qd a.out 2;have f3:=Qd a.out 3;have l:=Qb (HTo.st4 (w:=w) M.out P.out (fun _ h=>h) z.out A.out 0 0 0 0);have f:=Qb (Qac a.out 0 0 0 0);go_wp2
 generalize ((((p.setCell ⟨R,0,none⟩ (Iv 0)).setCell ⟨R,1,none⟩ (Iv 0)).setCell ⟨R,2,none⟩ (Iv 0)).setCell ⟨R,3,none⟩ (Iv 0))=Q at l f |-;have u:=Qa f.out 0 _ Z;have B:=Qa f.out 1 _ Z;have y:=Qa f.out 2 _ Z;have N:=Qa f.out 3 _ Z;exact Xy (v:=.tuple #[.agg #[Iv 0,Iv 0,Iv 0,Iv 0],Iv 20]) (by simp[results,results200,go_sem,u,B,y,N]) Z ⟨by rw[E.out]<;>rfl,by rw[E.out];exact l.out⟩
theorem Qi9 {h:Qc}{G:HG}(H:HIn w b O h G) (v:Qk) (q:v.ok)(hb:n<=15){p:Ql}(o:h.at v=some p) (x:p.tight ((n:Int)+1)=true) (g:h.left=0) (A:0<=p.used/\p.used<=1099511627776) :
 Calls prog 200 #[Pv b 0,QU v,Iv (n:Int)] w fun e w'=>e=.returned (.tuple #[QU (h.array v (n:Int)).1,Iv (h.array v (n:Int)).2.1])/\HTo w w' b O (h.array v (n:Int)).2.2:=by
 have i:=Qb (QaT w (.cells #[Iv v.kind,Iv v.region,Iv v.thing,Iv v.n] 211) (.cells #[Iv 0,Iv 0,Iv 0,Iv 0] 211));have d:=Qb (Qh1 w #[Iv v.kind,Iv v.region,Iv v.thing,Iv v.n] 211 (.cells #[Iv 0,Iv 0,Iv 0,Iv 0] 211));have c:=Qb (Qcr w (.cells #[Iv v.kind,Iv v.region,Iv v.thing,Iv v.n] 211) #[Iv 0,Iv 0,Iv 0,Iv 0] 211);have s:=Qb H;have j:=Qb (H.below i.out)
 have E:Hid (h.array v (n:Int)=(noV,14,h)):=by
  show _=_;rw[Qc.array_eq hb];exact Qc.put_full _ _ o x g
 have C:=Qb (Qen j.out v q ((n:Int)+1) o x g (by omega) A);have y:(n:Int)<=15:=by omega
 have K:decide ((n:Int)>15)=false:=Xu (by omega);have B:decide ((n:Int)<0)=false:=Xu (by omega);clear H q;go_enter func200,ntmps200
 go_upto_region 1 with fail
 generalize ((w.alloc (.cells #[Iv v.kind,Iv v.region,Iv v.thing,Iv v.n] 211)).alloc (.cells #[Iv 0,Iv 0,Iv 0,Iv 0] 211))=w1 at i d c j C |-;obtain⟨X,t⟩:∃ X,X=w.heap.size:=⟨_,Z⟩
 obtain⟨R,u⟩:∃ R,R=X+1:=⟨_,Z⟩
 have F:Hid (w.heap.size<=R):=by show _<=_;omega
 have I:Hid (¬ O R):=fun e=>by have:=s.out.lt R e;omega
 rw[<-t] at d c |-
 rw[<-u] at c |-
 clear t u;have W:=Qa d.out 0 _ Z;have M:=Qa d.out 1 _ Z;have P:=Qa d.out 2 _ Z;have Q:=Qa d.out 3 _ Z;have N:=Qb c.out;go_wp2_with fail
 refine C.out.mono ?_;rintro e r ⟨rfl,l⟩;have S:=Qb (j.out.below l);have U:Hid (QZ O O w r):=QZ.of_below (i.out.trans (l.mono i.out.size)) (fun k L=>.inl L);have a:=Qb ((l.block R (XC c.out)).trans c.out);clear W M P Q N C l d c i j s;have s0:=Qa a.out 0 _ Z;have s1:=Qa a.out 1 _ Z;have s2:=Qa a.out 2 _ Z;have s3:=Qa a.out 3 _ Z;have f0:=Qd a.out 0;have f1:=Qd a.out 1;have f2:=Qd a.out 2;have f3:=Qd a.out 3;have m:=Qb (HTo.st4 (w:=w) S.out U.out (fun _ h=>h) F.out I.out 0 0 0 0);have f:=Qb (Qac a.out 0 0 0 0);go_wp2
 generalize ((((r.setCell ⟨R,0,none⟩ (Iv 0)).setCell ⟨R,1,none⟩ (Iv 0)).setCell ⟨R,2,none⟩ (Iv 0)).setCell ⟨R,3,none⟩ (Iv 0))=V at m f |-;have z:=Qa f.out 0 _ Z;have J:=Qa f.out 1 _ Z;have D:=Qa f.out 2 _ Z;have T:=Qa f.out 3 _ Z;exact Xy (v:=.tuple #[.agg #[Iv 0,Iv 0,Iv 0,Iv 0],Iv 14]) (by simp[results,results200,go_sem,z,J,D,T]) Z ⟨by rw[E.out]<;>rfl,by rw[E.out];exact m.out⟩
theorem Qlu {h:Qc}{G:HG}(H:HIn w b O h G) (v:Qk) (hv:v.ok)(hb:n<=15){p:Ql}(ha:h.at v=some p)(i:v.region=k) (r:¬ (p.tight ((n:Int)+1)=true/\h.left=0)) (hu:0<=p.used/\p.used<=1099511627776) (U:p.pages<=1099511627776) (ae:h.left<=1099511627776) (Q:p.l.length<=1099511627776) :
 Calls prog 200 #[Pv b 0,QU v,Iv (n:Int)] w fun e w'=>e=.returned (.tuple #[QU (h.array v (n:Int)).1,Iv (h.array v (n:Int)).2.1])/\HTo w w' b O (h.array v (n:Int)).2.2:=by
 have B0:=Qb (QaT w (.cells #[Iv v.kind,Iv v.region,Iv v.thing,Iv v.n] 211) (.cells #[Iv 0,Iv 0,Iv 0,Iv 0] 211));have D:=Qb (Qh1 w #[Iv v.kind,Iv v.region,Iv v.thing,Iv v.n] 211 (.cells #[Iv 0,Iv 0,Iv 0,Iv 0] 211));have j:=Qb (Qcr w (.cells #[Iv v.kind,Iv v.region,Iv v.thing,Iv v.n] 211) #[Iv 0,Iv 0,Iv 0,Iv 0] 211);have H0:=Qb H;have H1:=Qb (H.below B0.out)
 have E:Hid (h.array v (n:Int)=(⟨4,k,p.l.length,0⟩,0,⟨h.L.set k { p.roomed ((n:Int)+1) with l:=p.l++[⟨true,QcL n⟩] },h.roomLeft p ((n:Int)+1)⟩)):=by
  show _=_;rw[Qc.array_eq hb]
  exact Qc.put_ok _ _ ha i r
 have C:=Qb (Qg6 H1.out v hv ((n:Int)+1) ha i r (by omega) hu U ae);have ai:(n:Int)<=15:=by omega
 have aj:decide ((n:Int)>15)=false:=Xu (by omega);have al:decide ((n:Int)<0)=false:=Xu (by omega);obtain⟨-,-,c,ah,ad,K⟩:=Qc.at_some ha
 have ek:c=k:=by omega
 subst ek;have W:=Qb ad;have ac:=Qb K;have af:=Qb i;clear H hv ha r ah ad K i;go_enter func200,ntmps200
 go_upto_region 1 with fail
 generalize ((w.alloc (.cells #[Iv v.kind,Iv v.region,Iv v.thing,Iv v.n] 211)).alloc (.cells #[Iv 0,Iv 0,Iv 0,Iv 0] 211))=w1 at B0 D j H1 C |-;obtain⟨X,hX⟩:∃ X,X=w.heap.size:=⟨_,Z⟩
 obtain⟨R,hR⟩:∃ R,R=X+1:=⟨_,Z⟩
 have HR:Hid (w.heap.size<=R):=by show _<=_;omega
 have NR:Hid (¬ O R):=fun e=>by have:=H0.out.lt R e;omega
 rw[<-hX] at D j |-
 rw[<-hR] at j |-
 clear hX hR;have x0:=Qa D.out 0 _ Z;have x1:=Qa D.out 1 _ Z;have x2:=Qa D.out 2 _ Z;have x3:=Qa D.out 3 _ Z;have r0:=Qb j.out;go_wp2_with fail
 refine C.out.mono ?_;rintro e f ⟨rfl,h2,F⟩;have q:=Qb h2;have SZ:Hid (QZ O O w f):=(QZ.of_below (O:=O) B0.out (fun k hk=>.inl hk)).trans F;have A:Hid (R<w1.heap.size):=XC j.out;have T:Hid (¬ O R):=NR.out;have u:=Qb ((F.block R (XC j.out) NR.out).trans j.out);clear x0 x1 x2 x3 r0 C h2 D j H1;go_wp2_with fail
 refine(Qgh (Qe f #[Iv 1,Iv 0,Iv 0,Iv 0] 211) 1 n hb).mono ?_
 rintro e w3 ⟨g,rfl,aa,o,P⟩;have b3:Below f.heap.size f w3:=(Zb f _).trans (P.mono (by simp));have hg:f.heap.size<=g:=Zt (by simp) aa;clear aa P;have m:=Qb o;have y:=Qb b3;have HG:=Qb hg
 have B:(⟨h.L.set c (p.roomed ((n:Int)+1)),h.roomLeft p ((n:Int)+1)⟩:Qc).L[c]?=some (p.roomed ((n:Int)+1)):=by
  have:=(Zi W.out).1
  simp[this]
 have s:(p.roomed ((n:Int)+1)).there=true:=by rw[Ql.roomed_there];exact ac.out
 obtain⟨tv,pv,RI⟩:=(q.out.below b3).reg c _ B s
 have PA:ZP w3 (.slice (some ⟨g,0,none⟩) (⟨true,QcL n⟩:Qs).l.length n) (⟨true,QcL n⟩:Qs).l:=by
  have d:(QcL n).length=n:=by simp
  refine⟨⟨_,_,Z⟩,fun _=>⟨g,n,Z,?_⟩⟩
  show w3.rowIs g _ ((QcL n).length*4) _;rw[d];exact m.out
 have pb:∀ x,QcM (.slice (some ⟨g,0,none⟩) (⟨true,QcL n⟩:Qs).l.length n) ⟨true,QcL n⟩ x->f.heap.size<=x:=fun x z=>by
  have:=ownBlock_slice.1 z.2
  have:=HG.out
  omega
 have CA:=QgR RI PA (fun x z hS=>by have:=q.out.lt x (q.out.os c x hS).1;have:=pb x z;omega) (fun x z=>Zl (q.out.lt x (q.out.os c x z).1) y.out.size) (by rw[Ql.roomed_l];exact Q);rw[show (⟨true,QcL n⟩:Qs).l.length=n by show (QcL n).length=n;simp,Ql.roomed_l] at CA
 have J:Hid (Calls prog 198 #[Pv (G.g c) 0,Iv 4,.slice (some ⟨g,0,none⟩) n n] w3 fun e w'=>e=.returned (.agg #[Iv 4,Iv c,Iv p.l.length,Iv 0])/\∃ I G',HIn w' b I ⟨h.L.set c { p.roomed ((n:Int)+1) with l:=p.l++[⟨true,QcL n⟩] },h.roomLeft p ((n:Int)+1)⟩ G'/\QZ O I f w'/\(∀ x,O x->I x)/\(∀ x,I x->O x\/f.heap.size<=x)):=by
  refine CA.mono ?_;rintro e w4 ⟨rfl,N⟩;refine⟨Z,?_⟩
  have d:(⟨true,QcL n⟩:Qs).l.length=n:=by show (QcL n).length=n;simp
  have AD:=q.out.added (w4:=w4) y.out B s (t:=⟨true,QcL n⟩) (va:=some ⟨g,0,none⟩) (vc:=n) pb (by rw[d,Ql.roomed_l];exact N);rw[Ql.roomed_l] at AD
  simpa only [List.set_set] using AD
 have V:=Qb u.out;have ag:=Qb ((b3.block R (by have:=A.out;have:=F.size;omega)).trans u.out);have ab:Hid (R<f.heap.size):=Zl A.out F.size;clear o hg b3 RI PA pb CA B s m HG u W ac af F q B0 H0 A hb hu U ae Q;go_wp2_with fail
 refine J.out.mono ?_;rintro e w4 ⟨rfl,I,G',h4,s4,o4,n4⟩
 have M:¬ I R:=fun e=>by
  rcases n4 R e with h | h
  ·exact T.out h
  ·have:=ab.out;omega
 have a:=Qb ((s4.block R ab.out T.out).trans V.out);have K1:=Qb (HTo.st4 h4 (SZ.out.trans s4) (fun x z=>o4 x z) HR.out M 4 (c:Int) (p.l.length:Int) 0);have S:=Qb (Qac a.out 4 (c:Int) (p.l.length:Int) 0);have s0:=Qa a.out 0 _ Z;have s1:=Qa a.out 1 _ Z;have F:=Qa a.out 2 _ Z;have s3:=Qa a.out 3 _ Z;have f0:=Qd a.out 0;have f1:=Qd a.out 1;have f2:=Qd a.out 2;have f3:=Qd a.out 3;clear h4 s4 o4 n4 M J y ag;go_wp2
 generalize ((((w4.setCell ⟨R,0,none⟩ (Iv 4)).setCell ⟨R,1,none⟩ (Iv (c:Int))).setCell ⟨R,2,none⟩ (Iv (p.l.length:Int))).setCell ⟨R,3,none⟩ (Iv 0))=ak at K1 S |-;have e0:=Qa S.out 0 _ Z;have e1:=Qa S.out 1 _ Z;have e2:=Qa S.out 2 _ Z;have e3:=Qa S.out 3 _ Z;exact Xy (v:=.tuple #[.agg #[Iv 4,Iv c,Iv p.l.length,Iv 0],Iv 0]) (by simp[results,results200,go_sem,e0,e1,e2,e3]) Z ⟨by rw[E.out]<;>rfl,by rw[E.out];exact K1.out⟩
structure HB (N:Nat) (h:Qc):Prop where
 ok:HOk N 1000000 h
 len:Qez N h
 live:h.live<=16
theorem HB.mono {N a:Nat}{h:Qc}(B:HB N h) (b:N<=a):HB a h:=⟨B.ok.mono b,B.len.mono b,B.live⟩
section
variable {w0 w w':World}{b N:Nat}{h h':Qc}{K K':Nat->Prop}
theorem HB.pl (B:HB N h) (b:N<=1000000):∀ (k:Nat) (p:Ql),h.L[k]?=some p->p.l.length<=4611686018427387904:=fun k p a=>by have:=B.ok.things k p a;omega
theorem HB.open (B:HB N h):HB (N+1) h.open_.2.2:=⟨B.ok.open,B.len.open.mono (Nat.le_succ _),Qlx B.live⟩
theorem HB.shut (B:HB N h) (v:Qk):HB N (h.shut v).2:=by
 refine⟨B.ok.shut v,B.len.shut v,?_⟩
 unfold Qc.shut
 cases ha:h.at v with
 | none=>exact B.live
 | some p =>
   obtain⟨_,_,j,c,b,a⟩:=Qc.at_some ha
   have:=Qc.live_set (h:=h) (q:=noP) b (h.left+p.pages)
   have d:=B.live;rw[a] at this
   simp only[c,Int.toNat_natCast]
   simp[noP] at this |-
   omega
theorem HB.new (n:Nat) (hn:n<=1000000):HB 0 (Qc.new n):=⟨⟨(HOk.new n).len,(HOk.new n).things,(HOk.new n).used,by have:=(HOk.new n).pages;omega⟩,Qez.new 0 n,by simp[Qc.new,Qc.live]⟩
end
theorem Qc6 {l:List Ql}{r:Nat}{p:Ql}{t:Qs}{x:List Qk}(c:l[r]?=some p){q:Ql}(e:(l.set r { p with l:=p.l.set i { t with l:=x } })[k]?=some q):∃ q0,l[k]?=some q0/\q.used=q0.used/\q.l.length=q0.l.length/\(q=q0\/q={ p with l:=p.l.set i { t with l:=x } }/\q0=p):=by
 rcases QbC e with a | a
 ·by_cases b:k=r
  ·subst b;exact⟨p,c,by rw[a],by rw[a];simp,.inr ⟨a,Z⟩⟩
  ·rw[List.getElem?_set_ne (Ne.symm b)] at e
   exact⟨q,e,Z,Z,.inl Z⟩
 ·exact⟨q,a,Z,Z,.inl Z⟩
theorem HB.set {h:Qc}(B:HB N h) (v:Qk) (k:Int) (x:Qk):HB N (h.set v k x).2:=by
 unfold Qc.set
 cases ht:h.thing v with
 | none=>exact B
 | some t =>
   cases hp:h.place v.region with
   | none=>exact B
   | some p =>
     simp only
     split
     ·exact B
     split
     ·exact B
     obtain⟨-,D,c,C,w,-⟩:=Qc.thing_iff.1 ht
     rw[hp] at c
     cases c
     obtain⟨E,b,A⟩:=Qc.place_some hp
     refine⟨⟨by simpa using B.ok.len,fun j q f=>?_,fun j q f=>?_,?_⟩,fun j q s r f a=>?_,?_⟩
     ·obtain⟨g,d,i,n,-⟩:=Qc6 b f
      rw[n];exact B.ok.things j g d
     ·obtain⟨g,d,i,n,-⟩:=Qc6 b f
      rw[i];exact B.ok.used j g d
     ·have y:=sum_set h.L v.region.toNat p { p with l:=p.l.set v.thing.toNat { t with l:=t.l.set k.toNat x } } b;have z:=B.ok.pages;have m:((h.L.set v.region.toNat { p with l:=p.l.set v.thing.toNat { t with l:=t.l.set k.toNat x } }).map (·.pages)).sum+p.pages=(h.L.map (·.pages)).sum+p.pages:=y;have o:=Nat.add_right_cancel m;show h.left+((h.L.set v.region.toNat { p with l:=p.l.set v.thing.toNat { t with l:=t.l.set k.toNat x } }).map (·.pages)).sum<=1000000;rw[o];exact z
     ·obtain⟨g,d,i,n,e⟩:=Qc6 b f
      rcases e with e | ⟨e,F⟩
      ·subst e;exact B.len j q s r d a
      ·subst e;simp only at a
       by_cases u:s=v.thing.toNat
       ·subst u
        have:=(Zi w).1
        simp[this] at a
        subst a
        have:=B.len _ p _ t b w
        simpa using this
       ·rw[List.getElem?_set_ne (Ne.symm u)] at a
        exact B.len _ p _ r b a
     ·have:=Qc.live_set (h:=h) (q:={ p with l:=p.l.set v.thing.toNat { t with l:=t.l.set k.toNat x } }) b h.left
      have m:Qc.live ⟨h.L.set v.region.toNat { p with l:=p.l.set v.thing.toNat { t with l:=t.l.set k.toNat x } },h.left⟩+(if p.there then 1 else 0)=h.live+(if p.there then 1 else 0):=this;have o:=Nat.add_right_cancel m;show Qc.live ⟨h.L.set v.region.toNat { p with l:=p.l.set v.thing.toNat { t with l:=t.l.set k.toNat x } },h.left⟩<=16;rw[o];exact B.live
abbrev Qif (b:Nat):Value:=Pv b 0
theorem Qag.formP {α:Type}{A:Lay α}{lo:Nat}{l:List α}(h:Qag A t w lo v l xs):∃ a c,v=.slice a l.length c:=by
 obtain⟨a,c,e,_⟩:=h.lay
 simp at e
 exact⟨a,c,e⟩
theorem pUnderI:prog.underlying 76=some (.slice 3):=by kernel_rfl
theorem pInfoI0:(prog.info? 3).map (fun i=>(i.zero,i.size,i.bytes))=some (some (Iv 0),1,8):=by kernel_rfl
theorem pInfoI:∃ i,prog.info? 3=some i/\i.zero=some (Iv 0)/\i.size=1/\i.bytes=8:=by
 have h:=pInfoI0
 cases e:prog.info? 3 with
 | none=>rw[e] at h;cases h
 | some i =>
   rw[e] at h
   simp only[Option.map_some,Option.some.injEq,Prod.mk.injEq] at h
   exact⟨i,Z,h.1,h.2.1,h.2.2⟩
theorem pUnderT:prog.underlying 80=some (.slice 105):=by kernel_rfl
theorem pInfoT0:(prog.info? 105).map (fun i=>(i.zero,i.size,i.bytes))=some (some (.agg #[Iv 0,Iv 0,Nv]),3,40):=by kernel_rfl
theorem pInfoT:∃ i,prog.info? 105=some i/\i.zero=some (.agg #[Iv 0,Iv 0,Nv])/\i.size=3/\i.bytes=40:=by
 have h:=pInfoT0
 cases e:prog.info? 105 with
 | none=>rw[e] at h;cases h
 | some i =>
   rw[e] at h
   simp only[Option.map_some,Option.some.injEq,Prod.mk.injEq] at h
   exact⟨i,Z,h.1,h.2.1,h.2.2⟩
theorem Qkm (w:World) (c:List Value) (t:TypeId):∀ (j:Nat) (u:Value),c[j]?=some u->(w.alloc (.cells c.toArray t)).cell? ((⟨w.heap.size,0,none⟩:Addr).add j)=some u:=by
 intro j u h;have a:c.toArray[j]?=some u:=by simpa using h
 rw[Go.WideShapes.add_plain,XK]
 exact Qa (Qe w c.toArray t) j u a
theorem Qmw (n:Int):∀ u∈[Value.int .i64 n],u.oneCell'=true:=by
 intro u h;simp at h
 subst h;rfl
theorem Qju (k r:Int) (a:Option Addr) (l c:Nat):∀ u∈[Value.int .i64 k,Value.int .i64 r,Value.slice a l c],u.oneCell'=true:=by
 intro u h;simp at h
 rcases h with rfl | rfl | rfl<;>rfl
theorem Blk.set3 {e f g:Value}(h:Blk w R #[e,f,g] t) (a b c:Value):Blk (((w.setCell ⟨R,0,none⟩ a).setCell ⟨R,1,none⟩ b).setCell ⟨R,2,none⟩ c) R #[a,b,c] t:=by
 have d:=Qm (Qm (Qm h 0 a) 1 b) 2 c;simpa using d
theorem Blk.sets {R:Nat}{T:TypeId}:∀ (vs us zs:List Value) (w:World),vs.length=zs.length->Blk w R (us++zs).toArray T->Blk (w.setCells R us.length vs) R (us++vs).toArray T
 | [],us,zs,w,hl,h=>by
   have:zs=[]:=Xf.1 hl.symm
   subst this;exact h
 | v::vs,us,zs,w,hl,h=>by
   cases zs with
   | nil=>simp at hl
   | cons z zs =>
     have a:=Qm h us.length v
     have b:((us++z::zs).toArray.setIfInBounds us.length v)=((us++[v])++zs).toArray:=by
      apply Array.ext'
      simp[List.set_append]
     rw[b] at a
     have:=Blk.sets vs (us++[v]) zs (w.setCell ⟨R,us.length,none⟩ v) (by simpa using hl) a
     simpa[World.setCells] using this
theorem pSizeN:(prog.info? 78).map (·.size)=some 8:=by kernel_rfl
theorem pSizeE:(prog.info? 84).map (·.size)=some 9:=by kernel_rfl
theorem Blk.range {T:TypeId}{c:List Value}(h:Blk w g c.toArray T):w.rangeAt g 0 c:=fun j v a=>by
 rw[XK]
 exact Qa h j v (by simpa using a)
theorem Blk.there {T:TypeId}{c:Array Value}(h:Blk w g c T) (hn:o+n<=c.size):w.there g o n:=fun j a =>
 ⟨by rw[Qa h (o+j) _ (Xj (by omega))];rfl,Qd h (o+j)⟩
theorem pSizeB:(prog.info? 86).map (·.size)=some 12:=by kernel_rfl
def Qdw (F:Nat):Prop:=∀ (args:Array Value) (w:World),(callFunc F args).run prog w=.ok (.enter F args) w
def vFlat:List Qk->List Value
 | []=>[]
 | v::r=>.int .i64 v.kind::.int .i64 v.region::.int .i64 v.thing::.int .i64 v.n::vFlat r
theorem vFlat_len:∀ l:List Qk,(vFlat l).length=l.length*4
 | []=>rfl
 | v::r=>by simp[vFlat,vFlat_len r];omega
theorem vFlat_app:∀ l k:List Qk,vFlat (l++k)=vFlat l++vFlat k
 | [],k=>rfl
 | v::r,k=>by simp[vFlat,vFlat_app r k]
theorem vFlat_at:∀ (l:List Qk) (i j:Nat) (x:Qk),l[i]?=some x->j<4->(vFlat l)[i*4+j]?=some (vAt x j)
 | [],_,_,_,h,_=>by simp at h
 | v::r,0,j,x,h,hj=>by
   simp at h;subst h
   match j,hj with
   | 0,_=>rfl
   | 1,_=>rfl
   | 2,_=>rfl
   | 3,_=>rfl
   | j+4,h=>omega
 | v::r,i+1,j,x,h,hj=>by
   have a:=vFlat_at r i j x (by simpa using h) hj;rw[show (i+1)*4+j=i*4+j+4 by omega]
   simpa[vFlat] using a
theorem vFlat_one:∀ (l:List Qk) (u:Value),u∈vFlat l->u.oneCell'=true
 | [],_,h=>by simp[vFlat] at h
 | v::r,u,h=>by
   simp only[vFlat,List.mem_cons] at h
   rcases h with rfl | rfl | rfl | rfl | h
   ·rfl
   ·rfl
   ·rfl
   ·rfl
   ·exact vFlat_one r u h
def QhN (w:World) (v:Value) (l:List Qk):Prop:=w.ownsRow 0 211 4 v l.length (vFlat l)
theorem QhN.form {w:World}{l:List Qk}(h:QhN w v l):∃ a c,v=.slice a l.length c/\VIn w a l:=by
 rcases h.2 with ⟨e,q⟩|⟨g,f,o,e,_,k,t,s,u,n⟩
 ·refine⟨none,0,by rw[e,q],fun i x d=>?_⟩
  have:=(Zi d).1
  omega
 ·refine⟨some ⟨g,0,none⟩,f,e,fun i x d=>?_⟩
  have r:=(Zi d).1
  have b:∀ j,j<4->w.cell? ⟨g,0+i*4+j,none⟩=some (vAt x j):=fun j p=>by
   have m:=vFlat_at l i j x d p;rw[<-n,XR,Xs (by omega),Array.getElem?_toList] at m
   rw[XK]
   exact Qa k _ _ m
  exact⟨g,0,Z,XC k,b 0 (by omega),b 1 (by omega),b 2 (by omega),b 3 (by omega)⟩
theorem QhN.keep {w w':World}{l:List Qk}(h:QhN w v l) (hb:∀ x,v.ownBlock=some x->w'.heap[x]?=w.heap[x]?):QhN w' v l:=QM h hb
theorem QhN.lt {w:World}{l:List Qk}(h:QhN w v l)(a:v.ownBlock=some x):x<w.heap.size:=XC (QT h a).choose_spec
theorem QhN.of {w:World}{g:Nat}{l:List Qk}(hn:l.length=n) (j:n<=1099511627776) (h:w.rowIs g 211 (n*4) (Zu l)):QhN w (.slice (some ⟨g,0,none⟩) n n) l:=by
 subst hn;obtain⟨c,e,d,f⟩:=h
 refine⟨vFlat_len l,.inr ⟨g,l.length,c,Z,Xb _,e,Ze,by unfold maxLen;omega,d,?_⟩⟩
 rw[XO (by simp[d])]
 refine List.ext_getElem? (fun i=>?_);rw[Array.getElem?_toList]
 rcases Nat.lt_or_ge i (l.length*4) with b | b
 ·rw[f i b]
  have a:l[i / 4]?=some l[i / 4]:=Zg (by omega)
  have:=vFlat_at l (i / 4) (i%4) _ a (by omega)
  rw[show i / 4*4+i%4=i by omega] at this
  rw[this]
  unfold Zu;simp[List.getD,a]
 ·rw[Array.getElem?_eq_none (by omega),Xk (by rw[vFlat_len];omega)]
def QdM (w:World) (c:Nat) (fr:IFr) (v:Value):Prop :=
 w.heap[c]?=some (.cells #[Iv fr.f,Iv fr.b,Iv fr.i,Iv fr.r.length,v] 100 (0,0))/\QhN w v fr.v
theorem QdM.keep {w w':World}{fr:IFr}(h:QdM w c fr v) (b:w'.heap[c]?=w.heap[c]?) (a:∀ x,v.ownBlock=some x->w'.heap[x]?=w.heap[x]?):QdM w' c fr v:=⟨b.trans h.1,h.2.keep a⟩
theorem QdM.below {w w':World}{fr:IFr}(h:QdM w c fr v) (b:Below w.heap.size w w'):QdM w' c fr v:=h.keep (b.block c (XC h.1)) (fun x a=>b.block x (h.2.lt a))
theorem QdM.ne {w:World}{fr:IFr}(h:QdM w c fr v):v.ownBlock≠some c:=fun e=>by
 obtain⟨b,a⟩:=QT h.2 e
 exact QN a h.1 (by decide) Z
structure FB where
 c:Nat
 v:Value
def QaY (w:World) (A O:Nat->Prop):List FB->List IFr->Prop
 | [],[]=>True
 | x::xs,fr::frs=>(QdM w x.c fr x.v/\(A x.c/\¬ O x.c)/\∀ g,x.v.ownBlock=some g->A g/\¬ O g)/\(∀ y∈xs,y.c≠x.c/\∀ g,x.v.ownBlock=some g->y.v.ownBlock≠some g)/\QaY w A O xs frs
 | _,_=>False
section
variable {w w':World}{A A' O O':Nat->Prop}
theorem QaY.mem:∀ {xs:List FB}{frs:List IFr},QaY w A O xs frs->∀ y∈xs,∃ fr,QdM w y.c fr y.v/\(A y.c/\¬ O y.c)/\∀ g,y.v.ownBlock=some g->A g/\¬ O g
 | [],_,_,y,a=>by simp at a
 | x::xs,[],h,_,_=>h.elim
 | x::xs,fr::frs,h,y,a=>by
   rcases List.mem_cons.1 a with rfl | a
   ·exact⟨fr,h.1⟩
   ·exact QaY.mem h.2.2 y a
theorem QaY.keep (d:∀ k,k<w.heap.size->A k->¬ O k->A' k/\¬ O' k):∀ {xs:List FB}{frs:List IFr},QaY w A O xs frs->(∀ y∈xs,w'.heap[y.c]?=w.heap[y.c]?/\∀ g,y.v.ownBlock=some g->w'.heap[g]?=w.heap[g]?)->QaY w' A' O' xs frs
 | [],[],_,_=>trivial
 | [],_::_,h,_=>h.elim
 | x::xs,[],h,_=>h.elim
 | x::xs,fr::frs,h,hb=>by
   obtain⟨⟨b,f,i⟩,m,l⟩:=h
   have e:=hb x (by simp);exact⟨⟨b.keep e.1 e.2,d _ (XC b.1) f.1 f.2,fun g a=>d g (b.2.lt a) (i g a).1 (i g a).2⟩,m,QaY.keep d l (fun y j=>hb y (by simp[j]))⟩
theorem QaY.len:∀ {xs:List FB}{frs:List IFr},QaY w A O xs frs->xs.length=frs.length
 | [],[],_=>rfl
 | [],_::_,h=>h.elim
 | x::xs,[],h=>h.elim
 | x::xs,fr::frs,h=>by simp[QaY.len h.2.2]
end
def Imm (A:Nat->Prop) (b:Nat) (x:Nat):Prop:=¬ A x/\x<b
def Qmq (w:World) (A:Nat->Prop) (lo:Nat) (x:Nat):Prop:=(¬ A x/\lo<=x)/\∃ c,w.heap[x]?=some (.cells c 2 (0,0))
theorem ZB {α:Type}(L:Lay α){w w':World}{A d:Nat->Prop}{b:Nat}{x:α}(hb:∀ k,¬ A k->k<w.heap.size->w'.heap[k]?=w.heap[k]?) (e:∀ k,¬ A k->k<w.heap.size->¬ d k) (h:L.In w (Imm A b) x cs):L.In w' (Imm d b) x cs:=L.keep (fun k a c=>hb k a.1 c) (fun k a c=>⟨e k a.1 c,a.2⟩) h
theorem ZG {w w':World}{A d:Nat->Prop}{lo:Nat}(hb:∀ k,¬ A k->k<w.heap.size->w'.heap[k]?=w.heap[k]?) (f:∀ k,¬ A k->k<w.heap.size->¬ d k) (h:intsL.In w (Qmq w A lo) l cs):intsL.In w' (Qmq w' d lo) l cs:=intsL.keep (fun k a b=>hb k a.1.1 b) (fun k a b=>⟨⟨f k a.1.1 b,a.1.2⟩,by obtain⟨c,e⟩:=a.2;exact⟨c,(hb k a.1.1 b).trans e⟩⟩) h
structure MG where
 bh:Nat
 O:Nat->Prop
 G:HG
 A:Nat->Prop
 pm:Option Addr
 cm:Nat
 pi:Option Addr
 ci:Nat
 vc:Value
 vb:Value
 vo:Value
 t:FB
 fs:List FB
 lo:Nat
abbrev Qob (most:Nat) (ml:Nat) (M:IM) (sc sa:Int) (g:MG):Array Value :=
 #[Pv g.bh 0,.slice g.pm ml g.cm,.slice g.pi M.inp.length g.ci,Iv most,g.vc,Iv M.fin,g.vb,g.vo,Iv M.fuel,.bool M.done,Iv sc,Iv sa]
abbrev Qa4 (l:List FB):List Value:=l.reverse.map fun x=>Pv x.c 0
structure MAt (w:World) (b:Nat) (most:Nat) (m:List (MFunc 6)) (M:IM) (sc sa:Int) (g:MG):Prop where
 box:w.heap[b]?=some (.cells (Qob most m.length M sc sa g) 52 (0,0))
 heap:HIn w g.bh g.O M.h g.G
 mod:(Qar 6).In w (Imm g.A b) m [.slice g.pm m.length g.cm]
 inp:intsL.In w (Imm g.A b) M.inp [.slice g.pi M.inp.length g.ci]
 inpC:M.inp.length<=g.ci
 calls:w.ownsRow 0 97 1 g.vc (M.rest.length+1) (Qa4 (g.t::g.fs))
 back:intsL.In w (Qmq w g.A g.lo) M.back [g.vb]
 out:w.ownsRow 0 2 1 g.vo M.out.length (M.out.map (Value.int .i64))
 frs:QaY w g.A g.O (g.t::g.fs) (M.top::M.rest)
 ob:g.A b/\¬ g.O b
 oc:∀ x,g.vc.ownBlock=some x->g.A x/\¬ g.O x
 oo:∀ x,g.vo.ownBlock=some x->g.A x/\¬ g.O x
 oa:∀ x,g.O x->g.A x
 lt:∀ x,g.A x->x<w.heap.size
 low:g.lo<=w.heap.size
def XTo (g:MG) (w w':World) (b most:Nat) (m:List (MFunc 6)) (M:IM) (sc sa:Int):Prop:=∃ g',MAt w' b most m M sc sa g'/\QZ g.A g'.A w w'/\g'.t.c=g.t.c/\g'.fs=g.fs
def XGo (g:MG) (w w':World) (b most:Nat) (m:List (MFunc 6)) (M:IM) (sc sa:Int):Prop:=∃ g',MAt w' b most m M sc sa g'/\QZ g.A g'.A w w'
section
variable {w w' w2:World}{b most:Nat}{m:List (MFunc 6)}{M M':IM}{sc sa:Int}{g g1:MG}
theorem XTo.go (h:XTo g w w' b most m M sc sa):XGo g w w' b most m M sc sa:=by obtain⟨c,a,s,_⟩:=h;exact⟨c,a,s⟩
theorem XTo.then (s:QZ g.A g1.A w w') (f:g1.t.c=g.t.c) (j:g1.fs=g.fs) (h:XTo g1 w' w2 b most m M sc sa):XTo g w w2 b most m M sc sa:=by
 obtain⟨d,a,k,e,i⟩:=h
 exact⟨d,a,s.trans k,e.trans f,i.trans j⟩
theorem XGo.then (s:QZ g.A g1.A w w') (h:XGo g1 w' w2 b most m M sc sa):XGo g w w2 b most m M sc sa:=by
 obtain⟨c,a,k⟩:=h
 exact⟨c,a,s.trans k⟩
theorem MAt.below (S:MAt w b most m M sc sa g) (k:Below w.heap.size w w'):MAt w' b most m M sc sa g where
 box:=(k.block b (XC S.box)).trans S.box
 heap:=S.heap.below k
 mod:=Ya S.mod k
 inp:=Ya S.inp k
 inpC:=S.inpC
 calls:=QM S.calls (fun x a=>k.block x (S.lt x (S.oc x a).1))
 back:=ZG (fun x _ a=>k.block x a) (fun _ h _=>h) S.back
 out:=QM S.out (fun x a=>k.block x (S.lt x (S.oo x a).1))
 frs:=S.frs.keep (fun _ _ c d=>⟨c,d⟩) (fun y e=>by
  obtain⟨i,c,d,f⟩:=S.frs.mem y e
  exact⟨k.block _ (XC c.1),fun x a=>k.block x (c.2.lt a)⟩)
 ob:=S.ob
 oc:=S.oc
 oo:=S.oo
 oa:=S.oa
 lt:=fun x a=>Zl (S.lt x a) k.size
 low:=Zt S.low k.size
theorem XTo.same (S:MAt w b most m M sc sa g) (k:Below w.heap.size w w'):XTo g w w' b most m M sc sa:=⟨g,S.below k,QZ.of_below k (fun _ h=>.inl h),Z,Z⟩
theorem MAt.stepB (S:MAt w b most m M sc sa g) (k:Below w.heap.size w w'):QZ g.A g.A w w':=QZ.of_below k (fun _ h=>.inl h)
theorem MAt.top (S:MAt w b most m M sc sa g):QdM w g.t.c M.top g.t.v:=S.frs.1.1
theorem MAt.rows (S:MAt w b most m M sc sa g):g.fs.length=M.rest.length:=by have:=S.frs.len;simpa using this
theorem MAt.toHeap (S:MAt w b most m M sc sa g){h':Qc}(T:HTo w w' g.bh g.O h'):XTo g w w' b most m { M with h:=h' } sc sa:=by
 obtain⟨p,u,s,j,v⟩:=T
 have o:∀ x,x<w.heap.size->¬ g.O x->¬ p x:=fun x a c i=>by rcases j.own x i with e | e;exact c e;omega
 have f:∀ x,x<w.heap.size->¬ g.O x->w'.heap[x]?=w.heap[x]?:=fun x a c=>j.block x a c;have l:∀ x,¬ g.A x->¬ g.O x:=fun x c i=>c (S.oa x i);have q:∀ k,¬ g.A k->k<w.heap.size->¬ (g.A k\/p k):=fun k c i r=>by rcases r with e | e;exact c e;exact o k i (l k c) e
 refine⟨{ g with O:=p,G:=u,A:=fun x=>g.A x\/p x },⟨?_,s,?_,?_,S.inpC,?_,?_,?_,?_,?_,?_,?_,fun x a=>.inr a,?_,Zt S.low j.size⟩,?_,Z,Z⟩
 ·exact(f b (XC S.box) S.ob.2).trans S.box
 ·exact ZB (Qar 6) (fun k d n=>f k n (l k d)) q S.mod
 ·exact ZB intsL (fun k d n=>f k n (l k d)) q S.inp
 ·exact QM S.calls (fun x a=>f x (S.lt x (S.oc x a).1) (S.oc x a).2)
 ·exact ZG (fun k d n=>f k n (l k d)) q S.back
 ·exact QM S.out (fun x a=>f x (S.lt x (S.oo x a).1) (S.oo x a).2)
 ·refine S.frs.keep (fun k d c i=>⟨.inl c,o k d i⟩) (fun y t=>?_);obtain⟨z,c,i,r⟩:=S.frs.mem y t
  exact⟨f _ (XC c.1) i.2,fun x a=>f x (c.2.lt a) (r x a).2⟩
 ·exact⟨.inl S.ob.1,o b (XC S.box) S.ob.2⟩
 ·exact fun x a=>⟨.inl (S.oc x a).1,o x (S.lt x (S.oc x a).1) (S.oc x a).2⟩
 ·exact fun x a=>⟨.inl (S.oo x a).1,o x (S.lt x (S.oo x a).1) (S.oo x a).2⟩
 ·rintro x (a | a)
  ·exact Zl (S.lt x a) j.size
  ·exact s.lt x a
 ·refine⟨j.os,j.tape,j.output,j.size,fun k d c=>f k d (l k c),?_⟩
  rintro k (d | d)
  ·exact .inl d
  ·exact(j.own k d).imp (S.oa k) id
theorem MAt.frNe (S:MAt w b most m M sc sa g){y:FB}(k:y∈g.t::g.fs):y.c≠b/\y.v.ownBlock≠some b/\(∀ x,g.vc.ownBlock=some x->y.c≠x/\y.v.ownBlock≠some x)/\∀ x,g.vo.ownBlock=some x->y.c≠x/\y.v.ownBlock≠some x:=by
 obtain⟨o,h,n,l⟩:=S.frs.mem y k
 have i:∀ {x:Nat},y.v.ownBlock=some x->∃ c,w.heap[x]?=some (.cells c 211 (0,0)):=fun e=>QT h.2 e;refine⟨QN h.1 S.box (by decide),fun e=>?_,fun x f=>⟨?_,fun e=>?_⟩,fun x f=>⟨?_,fun e=>?_⟩⟩
 ·obtain⟨c,a⟩:=i e
  exact QN a S.box (by decide) Z
 ·obtain⟨c,a⟩:=QT S.calls f
  exact QN h.1 a (by decide)
 ·obtain⟨c,a⟩:=i e
  obtain⟨d,j⟩:=QT S.calls f
  exact QN a j (by decide) Z
 ·obtain⟨c,a⟩:=QT S.out f
  exact QN h.1 a (by decide)
 ·obtain⟨c,a⟩:=i e
  obtain⟨d,j⟩:=QT S.out f
  exact QN a j (by decide) Z
theorem MAt.callsNe (S:MAt w b most m M sc sa g)(f:g.vc.ownBlock=some x):x≠b/\g.vo.ownBlock≠some x:=by
 obtain⟨c,a⟩:=QT S.calls f
 refine⟨QN a S.box (by decide),fun e=>?_⟩
 obtain⟨d,h⟩:=QT S.out e
 exact QN a h (by decide) Z
theorem MAt.outNe (S:MAt w b most m M sc sa g)(a:g.vo.ownBlock=some x):x≠b:=by
 obtain⟨c,d⟩:=QT S.out a
 exact QN d S.box (by decide)
theorem MAt.setTop (S:MAt w b most m M sc sa g){fr:IFr}(K:w'.os=w.os) (J:w'.tape=w.tape) (L:w'.output=w.output) (p:w.heap.size<=w'.heap.size)
 (j:∀ k,k<w.heap.size->k≠g.t.c->g.t.v.ownBlock≠some k->w'.heap[k]?=w.heap[k]?) (F:QdM w' g.t.c fr v) (u:∀ k,v.ownBlock=some k->g.t.v.ownBlock=some k\/w.heap.size<=k):XTo g w w' b most m { M with top:=fr } sc sa:=by
 have o:∀ k,v.ownBlock=some k->k<w.heap.size->g.A k/\¬ g.O k:=fun k d D=>by
  rcases u k d with e | e
  ·exact S.frs.1.2.2 k e
  ·omega
 have H:∀ k,g.O k->k≠g.t.c/\g.t.v.ownBlock≠some k:=fun k d=>⟨fun e=>S.frs.1.2.1.2 (e ▸ d),fun e=>(S.frs.1.2.2 k e).2 d⟩;have B:∀ k,¬ g.A k->k<w.heap.size->¬ (g.A k\/v.ownBlock=some k):=fun k h i E=>by rcases E with e | e;exact h e;exact h (o k e i).1
 have q:∀ k,¬ g.A k->k<w.heap.size->w'.heap[k]?=w.heap[k]?:=fun k h i=>j k i (fun e=>h (e ▸ S.frs.1.2.1.1)) (fun e=>h (S.frs.1.2.2 k e).1);have f:=S.frNe (y:=g.t) (by simp);refine⟨{ g with t:=⟨g.t.c,v⟩,A:=fun x=>g.A x\/v.ownBlock=some x },⟨?_,?_,?_,?_,S.inpC,?_,?_,?_,?_,⟨.inl S.ob.1,S.ob.2⟩,fun x a=>⟨.inl (S.oc x a).1,(S.oc x a).2⟩,fun x a=>⟨.inl (S.oo x a).1,(S.oo x a).2⟩,fun x a=>.inl (S.oa x a),?_,Zt S.low p⟩,?_,Z,Z⟩
 ·exact(j b (XC S.box) (Ne.symm f.1) f.2.1).trans S.box
 ·exact S.heap.keep p (fun x a D=>j x D (H x a).1 (H x a).2)
 ·exact ZB (Qar 6) q B S.mod
 ·exact ZB intsL q B S.inp
 ·have e:Qa4 (⟨g.t.c,v⟩::g.fs)=Qa4 (g.t::g.fs):=by simp[Qa4]
  show w'.ownsRow 0 _ 1 g.vc _ (Qa4 (⟨g.t.c,v⟩::g.fs));rw[e]
  exact QM S.calls (fun x a=>j x (S.lt x (S.oc x a).1) (Ne.symm (f.2.2.1 x a).1) (f.2.2.1 x a).2)
 ·exact ZG q B S.back
 ·exact QM S.out (fun x a=>j x (S.lt x (S.oo x a).1) (Ne.symm (f.2.2.2 x a).1) (f.2.2.2 x a).2)
 ·obtain⟨⟨h,i,E⟩,r,C⟩:=S.frs
  refine⟨⟨F,⟨.inl i.1,i.2⟩,fun k d=>⟨.inr d,fun e=>?_⟩⟩,fun y l=>⟨(r y l).1,fun k d e=>?_⟩,?_⟩
  ·exact(o k d (S.heap.lt k e)).2 e
  ·obtain⟨z,n,I,N⟩:=QaY.mem C y l
   rcases u k d with G | G
   ·exact(r y l).2 k G e
   ·have:=n.2.lt e;omega
  ·refine QaY.keep (fun k d h i=>⟨.inl h,i⟩) C (fun y l=>?_);obtain⟨z,n,I,N⟩:=QaY.mem C y l
   refine⟨j _ (XC n.1) (r y l).1 (fun e=>?_),fun k d=>j k (n.2.lt d) (fun e=>?_) (fun e=>(r y l).2 k e d)⟩
   ·obtain⟨c,s⟩:=QT h.2 e
    exact QN s n.1 (by decide) Z
   ·obtain⟨c,s⟩:=QT n.2 d
    subst e;exact QN s h.1 (by decide) Z
 ·rintro x (a | a)
  ·exact Zl (S.lt x a) p
  ·exact F.2.lt a
 ·refine⟨K,J,L,p,fun k d h=>q k h d,?_⟩
  rintro k (d | d)
  ·exact .inl d
  ·rcases u k d with e | e
   ·exact .inl (S.frs.1.2.2 k e).1
   ·exact .inr e
theorem MAt.reBox (S:MAt w b most m M sc sa g){sc' sa':Int}(v:w'.os=w.os) (t:w'.tape=w.tape) (C:w'.output=w.output) (j:w.heap.size<=w'.heap.size)
 (c:∀ k,k<w.heap.size->k≠b->w'.heap[k]?=w.heap[k]?) (z:M'.h=M.h/\M'.top=M.top/\M'.rest=M.rest/\M'.out=M.out)   {vb:Value} (hi:intsL.In w (Imm g.A b) M'.inp [.slice pi M'.inp.length ci]/\M'.inp.length<=ci) (d:intsL.In w' (Qmq w' g.A g.lo) M'.back [vb])
 (hb:w'.heap[b]?=some (.cells (Qob most m.length M' sc' sa' { g with pi:=pi,ci:=ci,vb:=vb }) 52 (0,0))):XTo g w w' b most m M' sc' sa':=by
 have n:∀ k,¬ g.A k->k<w.heap.size->w'.heap[k]?=w.heap[k]?:=fun k f l=>c k l (fun e=>f (e ▸ S.ob.1));obtain⟨r,u,q,D⟩:=z
 refine⟨{ g with pi:=pi,ci:=ci,vb:=vb },⟨hb,?_,?_,?_,hi.2,?_,d,?_,?_,S.ob,S.oc,S.oo,S.oa,fun x a=>Zl (S.lt x a) j,Zt S.low j⟩,⟨v,t,C,j,fun k d f=>n k f d,fun k d=>.inl d⟩,Z,Z⟩
 ·rw[r];exact S.heap.keep j (fun x a s=>c x s (fun e=>S.ob.2 (e ▸ a)))
 ·exact ZB (Qar 6) n (fun k h _=>h) S.mod
 ·exact ZB intsL n (fun k h _=>h) hi.1
 ·rw[q];exact QM S.calls (fun x a=>c x (S.lt x (S.oc x a).1) (S.callsNe a).1)
 ·rw[D];exact QM S.out (fun x a=>c x (S.lt x (S.oo x a).1) (S.outNe a))
 ·rw[u,q]
  refine S.frs.keep (fun k d f l=>⟨f,l⟩) (fun y p=>?_);obtain⟨B,o,E,F⟩:=S.frs.mem y p
  have i:=S.frNe p;exact⟨c _ (XC o.1) i.1,fun x a=>c x (o.2.lt a) (fun e=>i.2.1 (e ▸ a))⟩
end
def Qf (i:Nat):Code->Option Code
 | .region k ops d=>if k=i then some (.region k ops d) else none
 | .loop c=>Qf i c
 | .seq a b=>match Qf i a with
   | some c=>some c
   | none=>Qf i b
 | .block _ c=>Qf i c
 | .scope c=>Qf i c
 | .cond _ a b=>match Qf i a with
   | some c=>some c
   | none=>Qf i b
 | _=>none
def QaI (k:Nat):Code->List Oper
 | .region _ ops _=>ops.toList.drop k
 | _=>[]
theorem Qn {p:Addr}(h:w.cell? p=some v) (b:Below w.heap.size w w'):w'.cell? p=some v:=(b.cell (Xi w p h)).trans h
theorem Xh:type_of% @And.intro:=@And.intro
theorem Xz:type_of% @bodyPost_end:=@bodyPost_end
abbrev stuckP:List PanicEntry:=[{ v:=.iface 147 (.agg #[]),recovered:=false }]
abbrev Qld (c:Int):List PanicEntry:=[{ v:=.iface 148 (Iv c),recovered:=false }]
theorem ZM (w:World):Calls prog 138 #[.bool true] w fun e w'=>e=.returned (.tuple #[])/\w'=w:=by
 go_enter func138,ntmps138
 go_wp2
 exact Xz (v:=.tuple #[]) (by simp[results,results138,go_sem]) Z ⟨Z,Z⟩
theorem ZD (w:World):Calls prog 138 #[.bool false] w fun e w'=>e=.panicked stuckP/\w'=w:=by
 go_enter func138,ntmps138
 go_wp2
 exact⟨Z,Z,Z⟩
theorem Qbd (w:World) (c:Int):Calls prog 84 #[.bool true,Iv c] w fun e w'=>e=.returned (.tuple #[])/\w'=w:=by
 go_enter func84,ntmps84
 go_wp2
 exact Xz (v:=.tuple #[]) (by simp[results,results84,go_sem]) Z ⟨Z,Z⟩
theorem QaS (w:World) (c:Int):Calls prog 84 #[.bool false,Iv c] w fun e w'=>e=.panicked (Qld c)/\w'=w:=by
 go_enter func84,ntmps84
 go_wp2
 exact⟨Z,Z,Z⟩
def QoH (k ec en:Int) (e:Ending):Prop:=(k=0/\e=.returned (.tuple #[]))\/(k≠0/\k=ec/\e=.panicked (Qld en))\/(k≠0/\k≠ec/\e=.panicked stuckP)
theorem QaW (w:World) (k d i:Int):Calls prog 143 #[Iv k,Iv d,Iv i] w fun e w'=>w'=w/\QoH k d i e:=by
 by_cases b:k=0
 ·subst b;go_enter func143,ntmps143
  go_wp2_with (first | (go_at_call 138;refine(ZM _).mono ?_;rintro c w' ⟨rfl,a⟩;have a:=a.symm;subst a) | (go_at_call 84;refine(Qbd _ _).mono ?_;rintro c w' ⟨rfl,a⟩;have a:=a.symm;subst a))
  exact Xz (v:=.tuple #[]) (by simp[results,results143,go_sem]) Z ⟨Z,.inl ⟨Z,Z⟩⟩
 ·have j:(k==0)=false:=by simpa using b
  by_cases g:k=d
  ·subst g;have h:(k==k)=true:=by simp
   have f:=Qb b;clear b;go_enter func143,ntmps143
   go_wp2_with (go_at_call 138;refine(ZM _).mono ?_;rintro c w' ⟨rfl,a⟩;have a:=a.symm;subst a)
   refine(QaS _ _).mono ?_
   rintro c w' ⟨rfl,a⟩;subst a;exact⟨Z,Z,.inr (.inl ⟨f.out,Z,Z⟩)⟩
  ·have h:(k==d)=false:=by simpa using g
   have f:=Qb (Xh b g);clear b g;go_enter func143,ntmps143
   go_wp2_with fail
   refine(ZD _).mono ?_
   rintro c w' ⟨rfl,a⟩;subst a;exact⟨Z,Z,.inr (.inr ⟨f.out.1,f.out.2,Z⟩)⟩
def Ask {α:Type}(o:Option α) (V:α->Value) (e:Ending):Prop:=match o with
 | none=>e=.panicked stuckP
 | some x=>e=.returned (V x)
section
variable {w:World}{c:Nat}{fr:IFr}{v:Value}
theorem Z1 (F:QdM w c fr v) (u:fr.v.length<=1000000) (a:Int) :
 Calls prog 140 #[Pv c 0,Iv a] w fun e w'=>Ask (QE fr.v a) QU e/\Below w.heap.size w w':=by
 have j:=Qb (Zb w (.cells #[Iv 0,Iv 0,Iv 0,Iv 0] 211));have b:=Qb (Qe w #[Iv 0,Iv 0,Iv 0,Iv 0] 211);have B:=F.below j.out;obtain⟨va,U,rfl,y⟩:=F.2.form
 have m:=Qa B.1 4 _ Z;have k:=Qb y;have A:=Qb (y.below j.out);clear F B y;go_enter func140,ntmps140
 go_upto_region 1 with fail
 generalize w.alloc (.cells #[Iv 0,Iv 0,Iv 0,Iv 0] 211)=K at m A j b |-;by_cases C:0<=a
 rotate_left
 ·have J:decide (a>=0)=false:=by simpa using C
  have E:Hid (QE fr.v a=none):=by show _=_;unfold QE;rw[Xs (by omega)]
  generalize fr.v.length=D at m u;go_wp2_with fail
  refine(ZD _).mono ?_
  rintro d w' ⟨rfl,f⟩;subst f;exact⟨Z,by rw[E.out];rfl,j.out⟩
 obtain⟨i,rfl⟩:=Xc C
 by_cases z:i<fr.v.length
 rotate_left
 ·have E:Hid (QE fr.v (i:Int)=none):=by
   show _=_;unfold QE;rw[Xr (by omega),XT,Xk (by omega)]
  have s:¬ (i:Int)<fr.v.length:=by omega
  generalize fr.v.length=D at m s z u;go_wp2_with fail
  refine(ZD _).mono ?_
  rintro d w' ⟨rfl,f⟩;subst f;exact⟨Z,by rw[E.out];rfl,j.out⟩
 obtain⟨x,l⟩:∃ x,fr.v[i]?=some x:=⟨_,Zg z⟩
 have E:Hid (QE fr.v (i:Int)=some x):=by show _=_;unfold QE;rw[Xr (by omega),XT,l]
 obtain⟨g,o,rfl,V,I,M,N,O⟩:=A.out i x l
 have P:¬ w.heap.size=g:=fun e=>by
  obtain⟨g',o',d,S,-⟩:=k.out i x l
  injection d with d
  injection d with d
  omega
 have t:(i:Int)<fr.v.length:=by omega
 clear l A k;obtain⟨p,r,q,n⟩:=x
 simp only at I M N O
 have W:=Qa b.out 0 _ Z;have X:=Qa b.out 1 _ Z;have y2:=Qa b.out 2 _ Z;have y3:=Qa b.out 3 _ Z;have z0:=Qd b.out 0;have z1:=Qd b.out 1;have z2:=Qd b.out 2;have z3:=Qd b.out 3;generalize Q:fr.v.length=D at m z t u;go_wp2_with (go_at_call 138;refine(ZM _).mono ?_;rintro d w' ⟨rfl,f⟩;have f:=f.symm;subst f)
 have h:=Xh (Qb8 j.out Ze p r q n) (Qac b.out p r q n);generalize ((((K.setCell ⟨w.heap.size,0,none⟩ (Iv p)).setCell ⟨w.heap.size,1,none⟩ (Iv r)).setCell ⟨w.heap.size,2,none⟩ (Iv q)).setCell ⟨w.heap.size,3,none⟩ (Iv n))=T at h |-;have G:=Qa h.2 0 _ Z;have L:=Qa h.2 1 _ Z;have H:=Qa h.2 2 _ Z;have R:=Qa h.2 3 _ Z;exact Xy (v:=.agg #[Iv p,Iv r,Iv q,Iv n]) (by simp[results,results140,go_sem,G,L,H,R]) Z ⟨by rw[E.out];rfl,h.1⟩
def Q4 (v:List Qk) (a k:Int):Option Qk:=match QE v a with
 | none=>none
 | some x=>if x.kind=k then some x else none
theorem QhD (v:List Qk) (a:Int):QB v a=(Q4 v a 1).map (·.n):=by
 unfold QB Q4
 cases QE v a with
 | none=>rfl
 | some x=>simp only;split<;>rfl
theorem QaJ (F:QdM w c fr v) (I:fr.v.length<=1000000) (a k:Int) :
 Calls prog 190 #[Pv c 0,Iv a,Iv k] w fun e w'=>Ask (Q4 fr.v a k) QU e/\Below w.heap.size w w':=by
 have m:=Qb (Zb w (.cells #[Iv 0,Iv 0,Iv 0,Iv 0] 211));have u:=Qb (Qe w #[Iv 0,Iv 0,Iv 0,Iv 0] 211);have C:=Qb (Z1 (F.below m.out) I a);have E:=Qb (show Q4 fr.v a k=match QE fr.v a with | none=>none | some x=>if x.kind=k then some x else none from Z);clear F;go_enter func190,ntmps190
 go_upto_region 1 with fail
 generalize w.alloc (.cells #[Iv 0,Iv 0,Iv 0,Iv 0] 211)=P at C m u |-
 cases hv:QE fr.v a with
 | none =>
   rw[hv] at C E
   go_wp2_with fail
   refine C.out.mono ?_;rintro q l ⟨j,s⟩;have j:q=.panicked stuckP:=j;subst j;exact⟨Z,by rw[E.out];rfl,m.out.trans (s.mono m.out.size)⟩
 | some x =>
   rw[hv] at C E
   clear hv;obtain⟨d,h,g,f⟩:=x
   have B:Hid (Q4 fr.v a k=if d=k then some ⟨d,h,g,f⟩ else none):=E.out;clear E;go_wp2_with fail
   refine C.out.mono ?_;rintro q l ⟨j,s⟩;have j:q=.returned (.agg #[Iv d,Iv h,Iv g,Iv f]):=j;subst j;have D:=Qb (m.out.trans (s.mono m.out.size));have i:=Qb ((s.block _ (XC u.out)).trans u.out);have p:Hid (w.heap.size<l.heap.size):=XC i.out;clear s u m C;obtain⟨R,A⟩:∃ R,R=w.heap.size:=⟨_,Z⟩
   have o:Hid (w.heap.size<=R):=by show _<=_;omega
   rw[<-A] at i p
   have Y:=Qb (Qe l #[Iv d,Iv h,Iv g,Iv f] 211);have b:=Qb ((Zb l (.cells #[Iv d,Iv h,Iv g,Iv f] 211)).block R (XC i.out) |>.trans i.out);have G:=Qb (D.out.trans ((Zb l (.cells #[Iv d,Iv h,Iv g,Iv f] 211)).mono D.out.size));have O:=Qa Y.out 0 _ Z;have T:=Qa Y.out 1 _ Z;have y2:=Qa Y.out 2 _ Z;have y3:=Qa Y.out 3 _ Z;have U:=Qd b.out 0;have V:=Qd b.out 1;have W:=Qd b.out 2;have z3:=Qd b.out 3;have X:=Qa b.out 0 _ Z;have Q:=Qa b.out 1 _ Z;have u2:=Qa b.out 2 _ Z;have S:=Qa b.out 3 _ Z;have L:¬ R=l.heap.size:=by have:=p.out;omega
   rw[<-A]
   clear A;by_cases t:d=k
   ·subst t;have y:(d==d)=true:=by simp
    have z:Hid (Q4 fr.v a d=some ⟨d,h,g,f⟩):=by show _=_;rw[B.out,Xs Z]
    go_wp2_with (go_at_call 138;refine(ZM _).mono ?_;rintro q w' ⟨rfl,r⟩;have r:=r.symm;subst r)
    have n:=Xh (Qb8 G.out o.out d h g f) (Qac b.out d h g f);generalize (((((l.alloc (.cells #[Iv d,Iv h,Iv g,Iv f] 211)).setCell ⟨R,0,none⟩ (Iv d)).setCell ⟨R,1,none⟩ (Iv h)).setCell ⟨R,2,none⟩ (Iv g)).setCell ⟨R,3,none⟩ (Iv f))=N at n |-;have H:=Qa n.2 0 _ Z;have K:=Qa n.2 1 _ Z;have J:=Qa n.2 2 _ Z;have M:=Qa n.2 3 _ Z;exact Xy (v:=.agg #[Iv d,Iv h,Iv g,Iv f]) (by simp[results,results190,go_sem,H,K,J,M]) Z ⟨by rw[z.out];rfl,n.1⟩
   ·have y:(d==k)=false:=by simpa using t
    have z:Hid (Q4 fr.v a k=none):=by show _=_;rw[B.out,Xr t]
    clear t;go_wp2_with fail
    refine(ZD _).mono ?_
    rintro q w' ⟨rfl,r⟩;subst r;exact⟨Z,by rw[z.out];rfl,G.out⟩
theorem ZN (F:QdM w c fr v) (l:fr.v.length<=1000000) (a:Int) :
 Calls prog 133 #[Pv c 0,Iv a] w fun e w'=>Ask (QB fr.v a) (.int .i64) e/\Below w.heap.size w w':=by
 have C:=Qb (QaJ F l a 1);have g:∀ (k r t n:Int) (w:World),(Instr.field 211 (.agg #[Iv k,Iv r,Iv t,Iv n]) 3).run prog w=.ok (Iv n) w:=fun _ _ _ _ _=>by kernel_rfl
 rw[QhD]
 clear F;go_enter func133,ntmps133
 cases hv:Q4 fr.v a 1 with
 | none =>
   rw[hv] at C
   go_wp2_with fail
   refine C.out.mono ?_;rintro f j ⟨b,d⟩;have b:f=.panicked stuckP:=b;subst b;exact⟨Z,Z,d⟩
 | some x =>
   rw[hv] at C
   obtain⟨m,p,o,i⟩:=x
   go_wp2_with fail
   refine C.out.mono ?_;rintro f j ⟨b,d⟩;have b:f=.returned (.agg #[Iv m,Iv p,Iv o,Iv i]):=b;subst b;have h:=Qb d;clear d C;go_wp2
   go_ret;exact⟨Z,h.out⟩
end
theorem QbT (v:List Qk) (a:Int):∀ l:List Int,Qq v (l++[a])=(match Qq v l with
 | none=>none
 | some ys=>match QE v a with
   | none=>none
   | some x=>some (ys++[x]))
 | []=>by
   simp only[List.nil_append,Qq]
   cases QE v a<;>rfl
 | k::l=>by
   simp only[List.cons_append,Qq]
   cases QE v k with
   | none=>rfl
   | some x =>
     simp only
     rw[QbT v a l]
     cases Qq v l with
     | none=>rfl
     | some ys =>
       simp only
       cases QE v a<;>rfl
theorem Qda (v:List Qk) (r:List Int):∀ l:List Int,Qq v l=none->Qq v (l++r)=none
 | [],h=>by simp[Qq] at h
 | k::l,h=>by
   simp only[List.cons_append,Qq] at h |-
   cases hk:QE v k with
   | none=>rfl
   | some x =>
     rw[hk] at h
     simp only at h |-
     cases hl:Qq v l with
     | none=>rw[Qda v r l hl]
     | some ys=>rw[hl] at h;simp at h
theorem Zp (v:List Qk):∀ (l:List Int){ys:List Qk},Qq v l=some ys->ys.length=l.length
 | [],ys,h=>by simp[Qq] at h;subst h;rfl
 | k::l,ys,h=>by
   simp only[Qq] at h
   cases hk:QE v k with
   | none=>rw[hk] at h;cases h
   | some x =>
     rw[hk] at h
     simp only at h
     cases hl:Qq v l with
     | none=>rw[hl] at h;cases h
     | some zs=>rw[hl] at h;simp at h;subst h;simp[Zp v l hl]
theorem Qfo {α:Type}{l:List α}{a:α}(h:l[q]?=some a):l.take (q+1)=l.take q++[a]:=by
 rw[XV,h];rfl
theorem Qgt {v:List Qk}{a:Int}(h:l[q]?=some a) (b:QE v a=none):Qq v l=none:=by
 rw[<-List.take_append_drop (q+1) l]
 refine Qda v _ _ ?_;rw[Qfo h,QbT,b]
 cases Qq v (l.take q)<;>rfl
def Qh7 (ys:List Qk) (n:Nat):List Qk:=ys++List.replicate (n - ys.length) noV
theorem QkS {a:List Qk}(h:a.length<=n):(Qh7 a n).length=n:=by simp[Qh7];omega
theorem Qkj {a:List Qk}(x:Qk) (h:a.length<n):(Qh7 a n).set a.length x=Qh7 (a++[x]) n:=by
 unfold Qh7;rw[show n - a.length=(n - a.length - 1)+1 by omega,List.replicate_succ,List.set_append_right _ _ Ze,Nat.sub_self]
 simp
 rw[show n - (a.length+1)=n - a.length - 1 by omega]
theorem Qkp (a:List Qk):Qh7 a a.length=a:=by simp[Qh7]
def QcF (w:World) (o:Option (List Qk)) (n:Nat) (e:Ending) (w':World):Prop:=Below w.heap.size w w'/\match o with
 | none=>e=.panicked stuckP
 | some xs=>∃ g,e=.returned (.slice (some ⟨g,0,none⟩) n n)/\w.heap.size<=g/\w'.rowIs g 211 (n*4) (Zu xs)
theorem QcF.split {w:World}{o:Option (List Qk)}{e:Ending}(h:QcF w o n e w'):Below w.heap.size w w'/\((∃ xs g,o=some xs/\e=.returned (.slice (some ⟨g,0,none⟩) n n)/\w.heap.size<=g/\w'.rowIs g 211 (n*4) (Zu xs))\/(o=none/\e=.panicked stuckP)):=by
 obtain⟨b,h⟩:=h
 refine⟨b,?_⟩
 cases o with
 | none=>exact .inr ⟨Z,h⟩
 | some xs =>
   obtain⟨g,d,c,a⟩:=h
   exact .inl ⟨xs,g,Z,d,c,a⟩
section
variable {w:World}{c:Nat}{fr:IFr}{v:Value}
theorem Qeq (F:QdM w c fr v) (S:fr.v.length<=1000000){Q:Nat->Prop}{cp:Nat}(hn:l.length=n) (hb:n<=1000000) (hI:intsL.In w Q l [.slice p n cp]) :
 Calls prog 142 #[Pv c 0,.slice p n cp] w fun e w'=>QcF w (Qq fr.v l) n e w':=by
 have I:=Qcj n (by omega) w;have L:=Qb (Qc4 w n);have B0:=Qb (Zb w (.cells (madeCells (#[Iv 0,Iv 0,Iv 0,Iv 0]:Array Value) (n*4)) 211));have HL:=Qb hI;have G:=Qb hn;have HF:=Qb F;have HH:=Qb S;clear hI hn F S;go_enter func142,ntmps142
 go_upto_region 2 with fail
 generalize w.alloc (.cells (madeCells (#[Iv 0,Iv 0,Iv 0,Iv 0]:Array Value) (n*4)) 211)=w1 at L B0 |-;clear I;obtain⟨g,U⟩:∃ g,g=w.heap.size:=⟨_,Z⟩
 have u:Hid (w.heap.size<=g):=by show _<=_;omega
 rw[<-U] at L |-
 clear U;go_wp2_with fail
 go_loopw [13] (fun i wr=>∃ (q:Nat) (f:List Qk),q<=n/\i=Iv q/\Qq fr.v (l.take q)=some f/\wr.rowIs g 211 ((Qh7 f n).length*4) (Zu (Qh7 f n))/\Below w.heap.size w wr) (fun i _=>n - (intOf i).toNat)
 case atStart =>
  refine⟨0,[],Xb _,Z,by simp[Qq],?_,B0.out⟩
  have:=L.out
  simpa[Qh7] using this
 case round =>
  obtain⟨q,f,hq,rfl,O,hR,hB⟩:=hrel
  have D:=Qb hR;have j:=Qb hB;have J:=Qb O;have t:Hid (f.length=q):=by show _=_;rw[Zp _ _ O,List.length_take,G.out];omega
  clear hR hB O;by_cases k:q<n
  ·have T:(q:Int)<n:=by omega
   obtain⟨a,y⟩:∃ a,l[q]?=some a:=⟨_,Zg (by rw[G.out];exact k)⟩
   have s:q<l.length:=by rw[G.out];exact k
   obtain⟨g1,o1,rfl,-,A,H⟩:=ZW HL.out s
   rw[show l.getD q 0=a by rw[List.getD_eq_getElem?_getD,y];rfl] at H
   have H:=Qn H j.out;have C:=Qb (Z1 (HF.out.below j.out) HH.out a)
   cases hv:QE fr.v a with
   | none =>
     rw[hv] at C
     have E:Hid (Qq fr.v l=none):=Qgt y hv;clear s A y hv;go_wp2_with fail
     refine C.out.mono ?_;rintro e d ⟨o,r⟩;have o:e=.panicked stuckP:=o;subst o;exact⟨Z,j.out.trans (r.mono j.out.size),by rw[E.out]⟩
   | some x =>
     rw[hv] at C
     have N:Hid (Qq fr.v (l.take (q+1))=some (f++[x])):=by show _=_;rw[Qfo y,QbT,J.out,hv]
     have m:Hid (∀ d,Below wr.heap.size wr d->(d.cell? ⟨g,q*4,none⟩).isSome=true/\(d.cell? ⟨g,q*4+1,none⟩).isSome=true/\(d.cell? ⟨g,q*4+2,none⟩).isSome=true/\(d.cell? ⟨g,q*4+3,none⟩).isSome=true/\(∀ i,d.frozen? ⟨g,i,none⟩=false)/\((((d.setCell ⟨g,q*4,none⟩ (Iv x.kind)).setCell ⟨g,q*4+1,none⟩ (Iv x.region)).setCell ⟨g,q*4+2,none⟩ (Iv x.thing)).setCell ⟨g,q*4+3,none⟩ (Iv x.n)).rowIs g 211 ((Qh7 (f++[x]) n).length*4) (Zu (Qh7 (f++[x]) n))/\Below w.heap.size w ((((d.setCell ⟨g,q*4,none⟩ (Iv x.kind)).setCell ⟨g,q*4+1,none⟩ (Iv x.region)).setCell ⟨g,q*4+2,none⟩ (Iv x.thing)).setCell ⟨g,q*4+3,none⟩ (Iv x.n))):=by
      intro d r;have M:=D.out.of_block (r.block g D.out.lt);have h:=t.out;have z:q<(Qh7 f n).length:=by rw[QkS (by omega)];exact k
      obtain⟨X,z1,z2,z3⟩:=QaH M (Zg z)
      refine⟨by rw[X];rfl,by rw[z1];rfl,by rw[z2];rfl,by rw[z3];rfl,M.frozen,?_,?_⟩
      ·rw[<-Qkj x (by omega),h]
       exact QdI M z x.kind x.region x.thing x.n
      ·have b:=j.out.trans (r.mono j.out.size);exact(((b.setCell (p:=⟨g,q*4,none⟩) u.out _).setCell (p:=⟨g,q*4+1,none⟩) u.out _).setCell (p:=⟨g,q*4+2,none⟩) u.out _).setCell (p:=⟨g,q*4+3,none⟩) u.out _
     clear s A y hv;obtain⟨xk,xr,xt,W⟩:=x
     simp only at m
     go_wp2_with fail
     refine C.out.mono ?_;rintro e d ⟨o,r⟩;have o:e=.returned (.agg #[Iv xk,Iv xr,Iv xt,Iv W]):=o;subst o;obtain⟨V,R,p2,p3,B,pr,pb⟩:=m.out d r
     obtain⟨X,V⟩:=Option.isSome_iff_exists.1 V
     obtain⟨z1,R⟩:=Option.isSome_iff_exists.1 R
     obtain⟨z2,p2⟩:=Option.isSome_iff_exists.1 p2
     obtain⟨z3,p3⟩:=Option.isSome_iff_exists.1 p3
     have f0:=B (q*4);have f1:=B (q*4+1);have f2:=B (q*4+2);have f3:=B (q*4+3);have PR:=Qb pr;have PB:=Qb pb;clear B pr pb m C r D j H J;go_wp2
     go_roundw
     case rel=>exact⟨q+1,f++[⟨xk,xr,xt,W⟩],by omega,by go_num,N.out,PR.out,PB.out⟩
     case measure=>simp[intOf];omega
  ·have K:q=n:=by omega
   subst K
   have EV:Hid (Qq fr.v l=some f):=by
    have:=J.out
    rwa [XO (by rw[G.out];exact Ze)] at this
   have h:=t.out
   have P:Hid (wr.rowIs g 211 (q*4) (Zu f)):=by
    have:=D.out
    rw[<-h,Qkp,h] at this
    exact this
   clear h;go_wp2
   go_ret;exact⟨j.out,by rw[EV.out];exact⟨g,Z,u.out,P.out⟩⟩
end
theorem ZL (w:World){rest:List Oper}{o:Oper}{a:Act}(A:o.guard=none) (s x:Operand) (t:TypeId)
 (G:o.op=.call { callee:=.builtin .append,args:=#[s,x],argTypes:=#[t,t] })
 (e:TypeId) (i:TypeInfo) (z:Value) (size d:Nat) (O:P.underlying t=some (.slice e)) (hi:P.info? e=some i) (M:i.zero=some z)
 (l:i.size=size) (D:i.bytes=d) (E:z.cells.size=size) (B:0<size)
 (v:Value) (n:Nat) (xs:List Value) (L:a.eval s=v) (p:w.ownsRow 0 e size v n xs)
 (y:Addr) (m c:Nat) (b:List Value) (S:a.eval x=.slice (some y) m c) (F:b.length=m*size) (g:∀ j u,b[j]?=some u->w.cell? (y.add j)=some u) (H:∀ u∈b,u.oneCell'=true)
 (C:n+m<=maxLen) (f:(n+m)*d<=140737488355328)
 (h:∀ v' w',w'.ownsRow 0 e size v' (n+m) (xs++b)->w.grownBy w' v.ownBlock->(∀ k,v'.ownBlock=some k->v.ownBlock=some k\/k=w.heap.size)->wpList P ops Q rest (a.put o.dst v') w'):wpList P ops Q (o::rest) a w:=by
 obtain⟨v',w',N,J,I,_,q⟩:=run_append_own_at (P:=P) w 0 t o.type e i z size d O hi M l D E B v n xs p y m c b F g H C f (Xb _)
 refine wpList_plain A fun K R=>?_;unfold Oper.wp execOp;simp only[G,resolve,invoke,builtin,Sem.run_bind,Sem.run_pure,Result.andThen_ok,List.map_toArray,List.map_cons,List.map_nil,L,S,N]
 refine R _ _ (h v' w' J I (fun k r=>?_));rcases q with q | q
 ·rw[q] at r;exact .inl r
 ·rw[q] at r;exact .inr (by simpa using r.symm)
theorem Qba {w:World}{z:Nat}(h:w.ownsRow 0 e z v n xs):∃ a c,v=.slice a n c:=by
 rcases h.2 with ⟨e,f⟩|⟨g,b,d,e,_⟩
 ·exact⟨none,0,by rw[e,f]⟩
 ·exact⟨_,_,e⟩
section
variable {w w' w2:World}{b most:Nat}{m:List (MFunc 6)}{M M':IM}{sc sa:Int}{g g1:MG}
theorem MAt.pushed (S:MAt w b most m M sc sa g){l:List Qk}{v9:Value}{w9:World}(o:w9.ownsRow 0 211 4 v9 (M.top.v.length+l.length) (vFlat M.top.v++vFlat l)) (a:w.grownBy w9 g.t.v.ownBlock) (n:∀ k,v9.ownBlock=some k->g.t.v.ownBlock=some k\/k=w.heap.size) :
 XTo g w (w9.setCell ⟨g.t.c,4,none⟩ v9) b most m (M.push l) sc sa:=by
 have F:=S.top;have i:=XC F.1;have j:w9.heap[g.t.c]?=_:=(a.block g.t.c i (fun e=>F.ne e.symm)).trans F.1
 have f:∀ k,v9.ownBlock=some k->k≠g.t.c:=fun k d e=>by
  rcases n k d with h | h
  ·exact F.ne (e ▸ h)
  ·omega
 refine S.setTop a.os a.tape a.output (by simpa using a.size) (fun k d q r=>?_) ⟨?_,?_⟩ (fun k d=>(n k d).imp id (fun e=>by omega))
 ·rw[Xd _ _ _ _ q]
  exact a.block k d (fun e=>r e.symm)
 ·have:=Qm j 4 v9
  simpa using this
 ·show World.ownsRow _ 0 _ 4 v9 (M.top.v++l).length (vFlat (M.top.v++l));rw[List.length_append,vFlat_app]
  exact QM o (fun x p=>Xd _ _ _ _ (f x p))
theorem Z3 (S:MAt w b most m M sc sa g){l:List Qk}{cp:Nat}{a:Addr}(hn:l.length=n) (d:∀ (j:Nat) (u:Value),(vFlat l)[j]?=some u->w.cell? (a.add j)=some u) (hb:M.top.v.length+n<=1000000) :
 Calls prog 144 #[Pv g.t.c 0,.slice (some a) n cp] w fun e w'=>e=.returned (.tuple #[])/\XTo g w w' b most m (M.push l) sc sa:=by
 obtain⟨A,C,p,i,q⟩:=hInfoV
 subst hn;have F:=S.top;obtain⟨J,E,z,-⟩:=F.2.form
 have x:=Qa F.1 4 _ Z;have k:=Qb F.2;have h:=Qb F;have B:=Qb d;have s:=Qb (fun v9 w9=>S.pushed (l:=l) (v9:=v9) (w9:=w9));clear S F d;go_enter func144,ntmps144
 rw[z] at x k s h
 go_wp2_with (at_builtin;refine ZL _ Z _ _ 98 Z 211 A (.agg #[Iv 0,Iv 0,Iv 0,Iv 0]) 4 32 hUnderVs C p i q Z (by decide) _ _ _ Z k.out a l.length cp (vFlat l) Z (vFlat_len l) B.out (vFlat_one l) (by unfold maxLen;omega) (by omega) ?_)
 intro v9 w9 r o y;have R:=Qb (s.out v9 w9 r o y);have f:=(o.block g.t.c (XC h.out.1) (fun e=>h.out.ne e.symm)).trans h.out.1;have G:=Qa f 4 _ Z;have H:=Qd f 4;obtain⟨D,I,rfl⟩:=Qba r
 clear r o y s f h k x;go_wp2
 exact Xz (v:=.tuple #[]) (by simp[results,results144,go_sem]) Z ⟨Z,R.out⟩
theorem Qh2 (w:World) (k r t n:Int):∀ (j:Nat) (u:Value),(vFlat [⟨k,r,t,n⟩])[j]?=some u->(w.alloc (.cells #[Iv k,Iv r,Iv t,Iv n] 211)).cell? ((⟨w.heap.size,0,none⟩:Addr).add j)=some u:=QkM w [Iv k,Iv r,Iv t,Iv n] 211
theorem Qak (S:MAt w b most m M sc sa g) (n:Int) (hb:M.top.v.length+1<=1000000) :
 Calls prog 135 #[Pv g.t.c 0,Iv n] w fun e w'=>e=.returned (.tuple #[])/\XTo g w w' b most m (M.push [Qaz n]) sc sa:=by
 have a:=Zb w (.cells #[Iv 1,Iv 0,Iv 0,Iv n] 211);have C:=Qb (fun cp=>Z3 (S.below a) (l:=[Qaz n]) (cp:=cp) Z (Qh2 w 1 0 0 n) hb);have T:=Qb (S.stepB a);clear S a;go_enter func135,ntmps135
 go_wp2_with fail
 refine(C.out _).mono ?_
 rintro h f ⟨rfl,d⟩;have R:=Qb (XTo.then T.out Z Z d);clear d C T;go_wp2
 exact Xz (v:=.tuple #[]) (by simp[results,results135,go_sem]) Z ⟨Z,R.out⟩
end
abbrev I64 (x:Int):Prop:=-9223372036854775808<=x/\x<=9223372036854775807
structure IP where
 pR:Option Addr
 cR:Nat
 pA:Option Addr
 cA:Nat
structure EP where
 pYR:Option Addr
 cYR:Nat
 pYA:Option Addr
 cYA:Nat
 pNR:Option Addr
 cNR:Nat
 pNA:Option Addr
 cNA:Nat
 pA:Option Addr
 cA:Nat
structure BP where
 pP:Option Addr
 cP:Nat
 pC:Option Addr
 cC:Nat
 e:EP
structure FP where
 pP:Option Addr
 cP:Nat
 pR:Option Addr
 cR:Nat
 pB:Option Addr
 cB:Nat
structure Qig (w:World) (O:Nat->Prop) (x:MTo) (pR:Option Addr) (cR:Nat) (pA:Option Addr) (cA:Nat):Prop where
 regs:intsL.In w O x.regs [.slice pR x.regs.length cR]
 args:intsL.In w O x.args [.slice pA x.args.length cA]
 bnd:I64 x.block
structure IIn (w:World) (O:Nat->Prop) (x:Qx) (i:IP):Prop where
 regs:intsL.In w O x.regs [.slice i.pR x.regs.length i.cR]
 args:intsL.In w O x.args [.slice i.pA x.args.length i.cA]
 bnd:I64 x.op/\I64 x.a/\I64 x.b/\I64 x.c/\I64 x.k/\I64 x.n
structure EIn (w:World) (O:Nat->Prop) (x:MEnd) (e:EP):Prop where
 yes:Qig w O x.yes e.pYR e.cYR e.pYA e.cYA
 no:Qig w O x.no e.pNR e.cNR e.pNA e.cNA
 args:intsL.In w O x.args [.slice e.pA x.args.length e.cA]
 bnd:I64 x.op/\I64 x.a
structure BIn (w:World) (O:Nat->Prop){n:Nat}(x:MBlock n) (b:BP):Prop where
 params:(Qt n).In w O x.params [.slice b.pP x.params.length b.cP]
 code:insL.list.In w O x.code [.slice b.pC x.code.length b.cC]
 fin:EIn w O x.fin b.e
 bnd:I64 x.regs
structure FIn (w:World) (O:Nat->Prop){n:Nat}(x:MFunc n) (f:FP):Prop where
 params:(Qt n).In w O x.params [.slice f.pP x.params.length f.cP]
 results:(Qt n).In w O x.results [.slice f.pR x.results.length f.cR]
 blocks:(ZV n).list.In w O x.blocks [.slice f.pB x.blocks.length f.cB]
 bnd:I64 x.regs
section
variable {w w':World}{O O':Nat->Prop}{n:Nat}{cs:List Value}
theorem Qig.keep {x:MTo}(hb:∀ k,O k->k<w.heap.size->w'.heap[k]?=w.heap[k]?) (a:∀ k,O k->k<w.heap.size->O' k) (h:Qig w O x pR cR pA cA):Qig w' O' x pR cR pA cA:=⟨Lay.keep _ hb a h.regs,Lay.keep _ hb a h.args,h.bnd⟩
theorem Qig.below {x:MTo}(h:Qig w O x pR cR pA cA) (a:Below w.heap.size w w'):Qig w' O x pR cR pA cA:=h.keep (fun k _ b=>a.block k b) (fun _ h _=>h)
theorem IIn.keep {x:Qx}{i:IP}(hb:∀ k,O k->k<w.heap.size->w'.heap[k]?=w.heap[k]?) (a:∀ k,O k->k<w.heap.size->O' k) (h:IIn w O x i):IIn w' O' x i:=⟨Lay.keep _ hb a h.regs,Lay.keep _ hb a h.args,h.bnd⟩
theorem IIn.below {x:Qx}{i:IP}(h:IIn w O x i) (a:Below w.heap.size w w'):IIn w' O x i:=h.keep (fun k _ b=>a.block k b) (fun _ h _=>h)
theorem EIn.keep {x:MEnd}{e:EP}(hb:∀ k,O k->k<w.heap.size->w'.heap[k]?=w.heap[k]?) (a:∀ k,O k->k<w.heap.size->O' k) (h:EIn w O x e):EIn w' O' x e:=⟨h.yes.keep hb a,h.no.keep hb a,Lay.keep _ hb a h.args,h.bnd⟩
theorem EIn.below {x:MEnd}{e:EP}(h:EIn w O x e) (a:Below w.heap.size w w'):EIn w' O x e:=h.keep (fun k _ b=>a.block k b) (fun _ h _=>h)
theorem BIn.keep {x:MBlock n}{b:BP}(hb:∀ k,O k->k<w.heap.size->w'.heap[k]?=w.heap[k]?) (a:∀ k,O k->k<w.heap.size->O' k) (h:BIn w O x b):BIn w' O' x b:=⟨Lay.keep _ hb a h.params,Lay.keep _ hb a h.code,h.fin.keep hb a,h.bnd⟩
theorem BIn.below {x:MBlock n}{b:BP}(h:BIn w O x b) (a:Below w.heap.size w w'):BIn w' O x b:=h.keep (fun k _ c=>a.block k c) (fun _ h _=>h)
theorem BIn.mono {x:MBlock n}{b:BP}(h:BIn w O x b) (a:∀ k,O k->k<w.heap.size->O' k):BIn w O' x b:=h.keep (fun k _ _=>rfl) a
theorem FIn.keep {x:MFunc n}{f:FP}(hb:∀ k,O k->k<w.heap.size->w'.heap[k]?=w.heap[k]?) (a:∀ k,O k->k<w.heap.size->O' k) (h:FIn w O x f):FIn w' O' x f:=⟨Lay.keep _ hb a h.params,Lay.keep _ hb a h.results,Lay.keep _ hb a h.blocks,h.bnd⟩
theorem FIn.below {x:MFunc n}{f:FP}(h:FIn w O x f) (a:Below w.heap.size w w'):FIn w' O x f:=h.keep (fun k _ b=>a.block k b) (fun _ h _=>h)
theorem QiJ {x:MTo}(h:toL.In w O x cs):∃ pR cR pA cA,cs=[Iv x.block,.slice pR x.regs.length cR,.slice pA x.args.length cA]/\Qig w O x pR cR pA cA:=by
 obtain⟨a,c,b,d,rfl,g,e,f⟩:=Qgv h
 exact⟨a,c,b,d,Z,g,e,f⟩
theorem QjB {x:MTo}(h:Qig w O x pR cR pA cA):toL.In w O x [Iv x.block,.slice pR x.regs.length cR,.slice pA x.args.length cA]:=Qnu h.regs h.args h.bnd
theorem Qeu {x:Qx}(h:insL.In w O x cs):∃ i:IP,cs=[Iv x.op,Iv x.a,Iv x.b,Iv x.c,Iv x.k,Iv x.n,.slice i.pR x.regs.length i.cR,.slice i.pA x.args.length i.cA]/\IIn w O x i:=by
 obtain⟨a,c,b,d,rfl,g,e,f⟩:=Qhc h
 exact⟨⟨a,c,b,d⟩,Z,g,e,f⟩
theorem Qha {x:MEnd}(h:endL.In w O x cs):∃ e:EP,cs=[Iv x.op,Iv x.a,Iv x.yes.block,.slice e.pYR x.yes.regs.length e.cYR,.slice e.pYA x.yes.args.length e.cYA,Iv x.no.block,.slice e.pNR x.no.regs.length e.cNR,.slice e.pNA x.no.args.length e.cNA,.slice e.pA x.args.length e.cA]/\EIn w O x e:=by
 obtain⟨q,r,a,c,rfl,m,p,o,l⟩:=Qhe h
 obtain⟨g,b,pA,cA,rfl,k⟩:=QiJ m
 obtain⟨d,i,f,n,rfl,j⟩:=QiJ p
 exact⟨⟨g,b,pA,cA,d,i,f,n,a,c⟩,Z,k,j,o,l⟩
theorem Qg9 {x:MEnd}{e:EP}(h:EIn w O x e):endL.In w O x [Iv x.op,Iv x.a,Iv x.yes.block,.slice e.pYR x.yes.regs.length e.cYR,.slice e.pYA x.yes.args.length e.cYA,Iv x.no.block,.slice e.pNR x.no.regs.length e.cNR,.slice e.pNA x.no.args.length e.cNA,.slice e.pA x.args.length e.cA]:=Qm2 (QjB h.yes) (QjB h.no) h.args h.bnd
theorem Qcm {x:MBlock n}(h:(ZV n).In w O x cs):∃ b:BP,cs=[Iv x.regs,.slice b.pP x.params.length b.cP,.slice b.pC x.code.length b.cC,Iv x.fin.op,Iv x.fin.a,Iv x.fin.yes.block,.slice b.e.pYR x.fin.yes.regs.length b.e.cYR,.slice b.e.pYA x.fin.yes.args.length b.e.cYA,Iv x.fin.no.block,.slice b.e.pNR x.fin.no.regs.length b.e.cNR,.slice b.e.pNA x.fin.no.args.length b.e.cNA,.slice b.e.pA x.fin.args.length b.e.cA]/\BIn w O x b:=by
 obtain⟨a,c,b,d,l,rfl,i,k,j,g⟩:=Qcs h
 obtain⟨e,rfl,f⟩:=Qha j
 exact⟨⟨a,c,b,d,e⟩,Z,i,k,f,g⟩
theorem Qee {x:MBlock n}{b:BP}(h:BIn w O x b):(ZV n).In w O x [Iv x.regs,.slice b.pP x.params.length b.cP,.slice b.pC x.code.length b.cC,Iv x.fin.op,Iv x.fin.a,Iv x.fin.yes.block,.slice b.e.pYR x.fin.yes.regs.length b.e.cYR,.slice b.e.pYA x.fin.yes.args.length b.e.cYA,Iv x.fin.no.block,.slice b.e.pNR x.fin.no.regs.length b.e.cNR,.slice b.e.pNA x.fin.no.args.length b.e.cNA,.slice b.e.pA x.fin.args.length b.e.cA]:=QgU h.params h.code (Qg9 h.fin) h.bnd
theorem QdD {x:MFunc n}(h:(QaF n).In w O x cs):∃ f:FP,cs=[Iv x.regs,.slice f.pP x.params.length f.cP,.slice f.pR x.results.length f.cR,.slice f.pB x.blocks.length f.cB]/\FIn w O x f:=by
 obtain⟨a,c,b,d,e,f,rfl,k,i,g,j⟩:=QaO h
 exact⟨⟨a,c,b,d,e,f⟩,Z,k,i,g,j⟩
theorem Qfy {x:MFunc n}{f:FP}(h:FIn w O x f):(QaF n).In w O x [Iv x.regs,.slice f.pP x.params.length f.cP,.slice f.pR x.results.length f.cR,.slice f.pB x.blocks.length f.cB]:=QiL h.params h.results h.blocks h.bnd
theorem Qho {l:List Qx}(h:(insL).list.In w O l [.slice p m c]){x:Qx}(q:l[i]?=some x) :
 ∃ (g o:Nat) (i':IP),p=some ⟨g,o,none⟩/\w.rangeAt g (o+i*8) [Iv x.op,Iv x.a,Iv x.b,Iv x.c,Iv x.k,Iv x.n,.slice i'.pR x.regs.length i'.cR,.slice i'.pA x.args.length i'.cA]/\IIn w O x i':=by
 obtain⟨g,o,u,e,z,y,f,t⟩:=Yf h q
 obtain⟨i',rfl,s⟩:=Qeu t
 have r:(insL).size=8:=rfl;rw[r] at f
 exact⟨g,o,i',e,fun j v d=>(f j (by have:=(Zi d).1;simpa using this)).trans d,s⟩
theorem Qcb {l:List (MBlock n)}(h:(ZV n).list.In w O l [.slice p m c]){x:MBlock n}(k:l[i]?=some x) :
 ∃ (g o:Nat) (b:BP),p=some ⟨g,o,none⟩/\w.rangeAt g (o+i*12) [Iv x.regs,.slice b.pP x.params.length b.cP,.slice b.pC x.code.length b.cC,Iv x.fin.op,Iv x.fin.a,Iv x.fin.yes.block,.slice b.e.pYR x.fin.yes.regs.length b.e.cYR,.slice b.e.pYA x.fin.yes.args.length b.e.cYA,Iv x.fin.no.block,.slice b.e.pNR x.fin.no.regs.length b.e.cNR,.slice b.e.pNA x.fin.no.args.length b.e.cNA,.slice b.e.pA x.fin.args.length b.e.cA]/\BIn w O x b:=by
 obtain⟨g,o,t,e,y,u,f,s⟩:=Yf h k
 obtain⟨b,rfl,r⟩:=Qcm s
 have q:(ZV n).size=12:=rfl;rw[q] at f
 exact⟨g,o,b,e,fun j v d=>(f j (by have:=(Zi d).1;simpa using this)).trans d,r⟩
theorem QbU {l:List (MFunc n)}(h:(QaF n).list.In w O l [.slice p m c]){x:MFunc n}(d:l[i]?=some x) :
 ∃ (g o:Nat) (f:FP),p=some ⟨g,o,none⟩/\w.rangeAt g (o+i*4) [Iv x.regs,.slice f.pP x.params.length f.cP,.slice f.pR x.results.length f.cR,.slice f.pB x.blocks.length f.cB]/\FIn w O x f:=by
 obtain⟨g,o,s,e,u,t,b,r⟩:=Yf h d
 obtain⟨f,rfl,q⟩:=QdD r
 have k:(QaF n).size=4:=rfl;rw[k] at b
 exact⟨g,o,f,e,fun j v a=>(b j (by have:=(Zi a).1;simpa using this)).trans a,q⟩
end
def QbV (op:Int):Value:=match QJ op with
 | some (a,b,c,k,n,rg,ar)=>.tuple #[.agg #[.bool a,.bool b,.bool c,.bool k,.bool n,.bool rg,.bool ar],.bool true]
 | none=>.tuple #[.agg #[.bool false,.bool false,.bool false,.bool false,.bool false,.bool false,.bool false],.bool false]
theorem QgT (op:Int):op=1\/op=2\/op=3\/op=4\/op=5\/op=6\/op=7\/op=8\/op=9\/op=10\/op=11\/op=12\/op=13\/op=14\/(op≠1/\op≠2/\op≠3/\op≠4/\op≠5/\op≠6/\op≠7/\op≠8/\op≠9/\op≠10/\op≠11/\op≠12/\op≠13/\op≠14):=by omega
theorem QcG (op:Int) (w:World) :
 Calls prog 128 #[Iv op] w fun e w'=>e=.returned (QbV op)/\Below w.heap.size w w':=by
 rcases QgT op with rfl | rfl | rfl | rfl | rfl | rfl | rfl | rfl | rfl | rfl | rfl | rfl | rfl | rfl | n
 rotate_right
 obtain⟨k,p,i,g,o,l,j,h,m,d,f,a,b,c⟩:=n
 have E:QJ op=none:=by simp[QJ, *]
 rw[<-beq_eq_false_iff_ne] at k p i g o l j h m d f a b c
 all_goals
  go_enter func128,ntmps128
  go_wp2_with fail
  exact Xy (v:=QbV _) (by simp[results,results128,go_sem,QbV];first | (simp[QJ];done) | rw[E]) Z ⟨Z,(Below.refl _ w).alloc Ze _⟩
def QL (funcs:Nat) (op a b c k n:Int) (rl al:Nat):Int :=
 match QJ op with
 | none=>3
 | some (fa,fb,fc,fk,fn,fr,fs) =>
   if (!fa&&a != 0)||(!fb&&b != 0)||(!fc&&c != 0)||(!fk&&k != 0)||(!fn&&n != 0)||(!fr&&decide (0<rl))||(!fs&&decide (0<al)) then 4
   else if op=2/\(k<1\/9<k) then 1
   else if op=5/\8<al then 2
   else if (op=6\/op=7)/\(k<0\/7<k) then 1
   else if op=14/\(k<0\/(funcs:Int)<=k) then 1
   else if op=14/\(6<rl\/8<al) then 2
   else 0
theorem Qx.form_eq (d:Nat) (x:Qx):x.form d=QL d x.op x.a x.b x.c x.k x.n x.regs.length x.args.length:=by
 unfold Qx.form Qx.formless QL
 cases QJ x.op with
 | none=>rfl
 | some p=>obtain⟨a,b,c,k,n,r,s⟩:=p;rfl
def rangeC (x l m:Int):Int:=if x<l\/m<x then 1 else 0
def manyC (len:Nat) (m:Int):Int:=if m<len then 2 else 0
def handedC (r:Nat) (m:Int) (s:Nat):Int:=if manyC r m≠0 then manyC r m else manyC s 8
def Qkc (a b c k n:Int) (rl al:Nat):Bool:=a==0&&b==0&&c==0&&k==0&&n==0&&(rl:Int)==0&&(al:Int)==0
def ZY (funcs:Nat) (op k:Int) (rl al:Nat):Int :=
 if op=2 then rangeC k 1 9 else if op=6\/op=7 then rangeC k 0 7 else if op=5 then manyC al 8
 else if op=14 then (if rangeC k 0 ((funcs:Int) - 1)=0 then handedC rl 6 al else rangeC k 0 ((funcs:Int) - 1)) else 0
theorem fb (f:Bool) (a:Int):(!f&&a != 0)=!((bif f then 0 else a)==0):=by cases f<;>simp[bne]
theorem fbn (f:Bool) (l:Nat):(!f&&decide (0<l))=!(((bif f then 0 else l:Nat):Int)==0):=by
 cases f
 ·by_cases h:l=0
  ·simp[h]
  ·have:0<l:=by omega
   simp[this,h]
 ·simp
theorem QiS (lm:Nat) (op k:Int) (rl al:Nat):(if op=2/\(k<1\/9<k) then 1
 else if op=5/\8<al then 2
 else if (op=6\/op=7)/\(k<0\/7<k) then 1
 else if op=14/\(k<0\/(lm:Int)<=k) then 1
 else if op=14/\(6<rl\/8<al) then 2
 else 0)=ZY lm op k rl al:=by
 unfold ZY;by_cases c:op=2
 ·subst c;simp[rangeC]
 ·by_cases d:op=6\/op=7
  ·have b:¬ op=5:=by omega
   have a:¬ op=14:=by omega
   simp[c,b,d,a,rangeC]
  ·by_cases b:op=5
   ·subst b;simp[manyC];split<;>split<;>omega
   ·by_cases a:op=14
    ·subst a;simp[rangeC,handedC,manyC]
     repeat' split
     all_goals omega
    ·simp[c,b,d,a]
theorem Qfs {op a b c k n:Int}{f d fc g fn fr fs:Bool}(e:QJ op=some (f,d,fc,g,fn,fr,fs)) :
 QL lm op a b c k n rl al=if Qkc (bif f then 0 else a) (bif d then 0 else b) (bif fc then 0 else c) (bif g then 0 else k) (bif fn then 0 else n) (bif fr then 0 else rl) (bif fs then 0 else al)=true then ZY lm op k rl al else 4:=by
 simp only[QL,e,QiS]
 rw[fb,fb,fb,fb,fb,fbn,fbn]
 unfold Qkc;generalize ((bif f then 0 else a)==0)=o;generalize ((bif d then 0 else b)==0)=p;generalize ((bif fc then 0 else c)==0)=j;generalize ((bif g then 0 else k)==0)=h;generalize ((bif fn then 0 else n)==0)=i;generalize (((bif fr then 0 else rl:Nat):Int)==0)=m;generalize (((bif fs then 0 else al:Nat):Int)==0)=l
 cases o<;>cases p<;>cases j<;>cases h<;>cases i<;>cases m<;>cases l<;>rfl
theorem Qf0 (h:f<1000000):Rd prog 118 #[Iv (f:Int)] w (Iv (10000*(f:Int)+9999)):=by
 unfold Rd;skip
 skip
 go_enter func118,ntmps118
 go_wp2
 go_ret;refine⟨?_,Zr⟩
 show Ending.returned (Iv ((f:Int)*10000+9999))=_;congr 2
 omega
theorem Qfk (h:f<1000000/\b<1000000):Rd prog 181 #[Iv (f:Int),Iv (b:Int)] w (Iv (10000*(f:Int)+100*(b:Int)+90)):=by
 unfold Rd;have c:=h.1;have a:=h.2;skip
 go_enter func181,ntmps181
 go_wp2
 go_ret;refine⟨?_,Zr⟩
 show Ending.returned (Iv ((f:Int)*10000+(b:Int)*100+90))=_;congr 2
 omega
theorem Qel (h:f<1000000/\b<1000000):Rd prog 131 #[Iv (f:Int),Iv (b:Int)] w (Iv (10000*(f:Int)+100*(b:Int)+91)):=by
 unfold Rd;have c:=h.1;have a:=h.2;skip
 go_enter func131,ntmps131
 go_wp2
 go_ret;refine⟨?_,Zr⟩
 show Ending.returned (Iv ((f:Int)*10000+(b:Int)*100+91))=_;congr 2
 omega
theorem Qei (h:f<1000000/\b<1000000/\i<1000000):Rd prog 130 #[Iv (f:Int),Iv (b:Int),Iv (i:Int)] w (Iv (10000*(f:Int)+100*(b:Int)+(i:Int))):=by
 unfold Rd;have e:=h.1;have c:=h.2;have a:=h.2.1;have d:=h.2.2;go_enter func130,ntmps130
 go_wp2
 go_ret;refine⟨?_,Zr⟩
 show Ending.returned (Iv ((f:Int)*10000+(b:Int)*100+(i:Int)))=_;congr 2
 omega
theorem QaX {x l m:Int}:Rd prog 262 #[Iv x,Iv l,Iv m] w (Iv (rangeC x l m)):=by
 unfold Rd rangeC;by_cases b:x<l
 ·rw[Xs (.inl b)]
  go_enter func262,ntmps262
  go_wp2
  go_ret;exact⟨Z,Zr⟩
 ·by_cases a:m<x
  ·rw[Xs (.inr a)]
   go_enter func262,ntmps262
   go_wp2
   go_ret;exact⟨Z,Zr⟩
  ·rw[Xr (by omega)]
   go_enter func262,ntmps262
   go_wp2
   go_ret;exact⟨Z,Zr⟩
theorem Qbx {len:Nat}{m:Int}:Rd prog 263 #[.slice p len c,Iv m] w (Iv (manyC len m)):=by
 unfold Rd manyC;by_cases a:m<len
 ·rw[Xs a]
  go_enter func263,ntmps263
  go_wp2
  go_ret;exact⟨Z,Zr⟩
 ·rw[Xr a]
  go_enter func263,ntmps263
  go_wp2
  go_ret;exact⟨Z,Zr⟩
theorem QbE {q:Option Addr}{r s:Nat}{m:Int}:Rd prog 264 #[.slice p r c,Iv m,.slice q s d] w (Iv (handedC r m s)):=by
 have b:Hid (∀ a:World,Calls prog 263 #[.slice p r c,Iv m] a fun e j=>e=.returned (Iv (manyC r m))/\Below a.heap.size a j):=fun a=>Qbx;have k:Hid (∀ a:World,Calls prog 263 #[.slice q s d,Iv 8] a fun e j=>e=.returned (Iv (manyC s 8))/\Below a.heap.size a j):=fun a=>Qbx;unfold Rd handedC;by_cases h:manyC r m=0
 ·rw[Xr (by simpa using h)]
  rw[h] at b
  go_enter func264,ntmps264
  go_wp2_with fail
  refine(b.out w).mono ?_
  rintro e i ⟨rfl,f⟩;have g:Hid (Below w.heap.size w i):=f;clear f b;go_wp2_with fail
  refine(k.out i).mono ?_
  rintro e t ⟨rfl,l⟩;have n:Hid (Below w.heap.size w t):=g.out.trans (l.mono g.out.size);clear l k g;go_wp2
  go_ret;exact⟨Z,n.out⟩
 ·rw[Xs h]
  have o:(manyC r m==0)=false:=by simpa using h
  generalize manyC r m=v at b o h |-;go_enter func264,ntmps264
  go_wp2_with fail
  refine(b.out w).mono ?_
  rintro e i ⟨rfl,f⟩;have g:Hid (Below w.heap.size w i):=f;clear f b k;go_wp2
  go_ret;exact⟨Z,g.out⟩
theorem isBare_any :Rd prog 228 #[.agg #[Iv xop,Iv xa,Iv xb,Iv xc,Iv xk,Iv xn,.slice ra rl rc,.slice aa al ac]] w (.bool (Qkc xa xb xc xk xn rl al)):=by
 have D:(xa==0)=false\/xa=0/\((xb==0)=false\/xb=0/\((xc==0)=false\/xc=0/\((xk==0)=false\/xk=0/\((xn==0)=false\/xn=0/\(((rl:Int)==0)=false\/rl=0/\(((al:Int)==0)=false\/al=0)))))):=by
  simp only[beq_eq_false_iff_ne];omega
 unfold Rd;rcases D with g | ⟨rfl,g | ⟨rfl,g | ⟨rfl,g | ⟨rfl,g | ⟨rfl,g | ⟨rfl,g | rfl⟩⟩⟩⟩⟩⟩
 all_goals
  go_enter func228,ntmps228
  go_wp2
  go_ret;exact⟨by first | rfl | simp[Qkc,g],ZR _ _⟩
def wfV (xop xa xb xc xk xn:Int) (ra aa:Option Addr) (rl rc al ac:Nat):Value:=match QJ xop with
 | some (fa,fb,fc,fk,fn,fr,fs)=>.tuple #[.agg #[.int .i64 xop,.int .i64 (bif fa then 0 else xa),.int .i64 (bif fb then 0 else xb),.int .i64 (bif fc then 0 else xc),.int .i64 (bif fk then 0 else xk),.int .i64 (bif fn then 0 else xn),.slice (bif fr then none else ra) (bif fr then 0 else rl) (bif fr then 0 else rc),.slice (bif fs then none else aa) (bif fs then 0 else al) (bif fs then 0 else ac)],.bool true]
 | none=>.tuple #[.agg #[.int .i64 xop,.int .i64 xa,.int .i64 xb,.int .i64 xc,.int .i64 xk,.int .i64 xn,.slice ra rl rc,.slice aa al ac],.bool false]
theorem wf_any :Rd prog 227 #[.agg #[Iv xop,Iv xa,Iv xb,Iv xc,Iv xk,Iv xn,.slice ra rl rc,.slice aa al ac]] w (wfV xop xa xb xc xk xn ra aa rl rc al ac):=by
 rcases QgT xop with rfl | rfl | rfl | rfl | rfl | rfl | rfl | rfl | rfl | rfl | rfl | rfl | rfl | rfl | n
 rotate_right
 obtain⟨j,o,h,f,m,k,i,g,l,d,e,a,b,c⟩:=n
 have E:QJ xop=none:=by simp[QJ, *]
 rw[<-beq_eq_false_iff_ne] at j o h f m k i g l d e a b c
 all_goals
  unfold Rd;go_enter func227,ntmps227
  go_wp2
  exact Xy (v:=wfV _ xa xb xc xk xn ra aa rl rc al ac) (by simp[results,results227,go_sem,wfV];first | (simp[QJ];done) | rw[E]) Z ⟨Z,Qih _ _ _⟩
theorem Qi1 {lo hi:Int}{f:Option Addr}(h:xop=2/\lo=1/\hi=9\/xop=6/\lo=0/\hi=7\/xop=7/\lo=0/\hi=7):Rd prog 229 #[.agg #[.slice f lm cm],.agg #[Iv xop,Iv xa,Iv xb,Iv xc,Iv xk,Iv xn,.slice ra rl rc,.slice aa al ac]] w (Iv (ZY lm xop xk rl al)):=by
 have C:Hid (∀ a:World,Rd prog 262 #[Iv xk,Iv lo,Iv hi] a (Iv (rangeC xk lo hi))):=fun a=>QaX;unfold Rd;rw[show ZY lm xop xk rl al=rangeC xk lo hi by rcases h with ⟨rfl,rfl,rfl⟩|⟨rfl,rfl,rfl⟩|⟨rfl,rfl,rfl⟩<;>rfl]
 generalize rangeC xk lo hi=v at C |-;rcases h with ⟨rfl,rfl,rfl⟩|⟨rfl,rfl,rfl⟩|⟨rfl,rfl,rfl⟩
 all_goals
  go_enter func229,ntmps229
  go_wp2_with fail
  refine(C.out _).mono ?_
  rintro e d ⟨rfl,b⟩;have c:Hid (Below w.heap.size w d):=(Qih _ _ _).trans (b.mono (Qih w _ _).size);clear b C;go_wp2
  go_ret;exact⟨Z,c.out⟩
theorem QlI {g:Option Addr}:Rd prog 229 #[.agg #[.slice g lm cm],.agg #[Iv 5,Iv xa,Iv xb,Iv xc,Iv xk,Iv xn,.slice ra rl rc,.slice aa al ac]] w (Iv (ZY lm 5 xk rl al)):=by
 have C:Hid (∀ a:World,Calls prog 263 #[.slice aa al ac,Iv 8] a fun e f=>e=.returned (Iv (manyC al 8))/\Below a.heap.size a f):=fun a=>Qbx;rw[show ZY lm 5 xk rl al=manyC al 8 from Z]
 generalize manyC al 8=v at C |-;unfold Rd;go_enter func229,ntmps229
 go_wp2_with fail
 refine(C.out _).mono ?_
 rintro e d ⟨rfl,b⟩;have c:Hid (Below w.heap.size w d):=(Qih _ _ _).trans (b.mono (Qih w _ _).size);clear b C;go_wp2
 go_ret;exact⟨Z,c.out⟩
theorem Qk2 {g:Option Addr}(o:lm<2305843009213693952):Rd prog 229 #[.agg #[.slice g lm cm],.agg #[Iv 14,Iv xa,Iv xb,Iv xc,Iv xk,Iv xn,.slice ra rl rc,.slice aa al ac]] w (Iv (ZY lm 14 xk rl al)):=by
 have C:Hid (∀ a:World,Calls prog 262 #[Iv xk,Iv 0,Iv ((lm:Int) - 1)] a fun e l=>e=.returned (Iv (rangeC xk 0 ((lm:Int) - 1)))/\Below a.heap.size a l):=fun a=>QaX;have h:Hid (∀ a:World,Calls prog 264 #[.slice ra rl rc,Iv 6,.slice aa al ac] a fun e l=>e=.returned (Iv (handedC rl 6 al))/\Below a.heap.size a l):=fun a=>QbE;rw[show ZY lm 14 xk rl al=if rangeC xk 0 ((lm:Int) - 1)=0 then handedC rl 6 al else rangeC xk 0 ((lm:Int) - 1) from Z]
 generalize rangeC xk 0 ((lm:Int) - 1)=v at C |-;generalize handedC rl 6 al=u at h |-;have c:Blk ((w.alloc (.cells #[.slice g lm cm] 24)).alloc (.cells #[Iv 14,Iv xa,Iv xb,Iv xc,Iv xk,Iv xn,.slice ra rl rc,.slice aa al ac] 78)) (w.heap.size+1) #[Iv 14,Iv xa,Iv xb,Iv xc,Iv xk,Iv xn,.slice ra rl rc,.slice aa al ac] 78:=Blk.new2 _ _ _ _;have b:Hid (Below w.heap.size w ((w.alloc (.cells #[.slice g lm cm] 24)).alloc (.cells #[Iv 14,Iv xa,Iv xb,Iv xc,Iv xk,Iv xn,.slice ra rl rc,.slice aa al ac] 78))):=Qih _ _ _;unfold Rd;by_cases i:v=0
 ·subst i;rw[Xs Z]
  go_enter func229,ntmps229
  go_wp2_with fail
  generalize ((w.alloc (.cells #[.slice g lm cm] 24)).alloc (.cells #[Iv 14,Iv xa,Iv xb,Iv xc,Iv xk,Iv xn,.slice ra rl rc,.slice aa al ac] 78))=n at c b |-;refine(C.out _).mono ?_
  rintro e k ⟨rfl,d⟩;have j:=(d.block _ (XC c)).trans c;have f:Hid (Below w.heap.size w k):=b.out.trans (d.mono b.out.size);have t:=Qa j 6 _ Z;have s:=Qa j 7 _ Z;clear d C c b j;go_wp2_with fail
  refine(h.out _).mono ?_
  rintro e r ⟨rfl,m⟩;have q:Hid (Below w.heap.size w r):=f.out.trans (m.mono f.out.size);clear m h f;go_wp2
  go_ret;exact⟨Z,q.out⟩
 ·rw[Xr i]
  have p:(v==0)=false:=by simpa using i
  go_enter func229,ntmps229
  go_wp2_with fail
  generalize ((w.alloc (.cells #[.slice g lm cm] 24)).alloc (.cells #[Iv 14,Iv xa,Iv xb,Iv xc,Iv xk,Iv xn,.slice ra rl rc,.slice aa al ac] 78))=n at c b |-;refine(C.out _).mono ?_
  rintro e k ⟨rfl,d⟩;have f:Hid (Below w.heap.size w k):=b.out.trans (d.mono b.out.size);clear d C h c b;go_wp2
  go_ret;exact⟨Z,f.out⟩
theorem QkH {g:Option Addr}(h:xop≠2/\xop≠6/\xop≠7/\xop≠5/\xop≠14):Rd prog 229 #[.agg #[.slice g lm cm],.agg #[Iv xop,Iv xa,Iv xb,Iv xc,Iv xk,Iv xn,.slice ra rl rc,.slice aa al ac]] w (Iv (ZY lm xop xk rl al)):=by
 obtain⟨c,b,d,e,a⟩:=h
 rw[show ZY lm xop xk rl al=0 by simp[ZY,c,b,d,e,a]]
 have j:(xop==2)=false:=by simpa using c
 have k:(xop==6)=false:=by simpa using b
 have i:(xop==7)=false:=by simpa using d
 have l:(xop==5)=false:=by simpa using e
 have f:(xop==14)=false:=by simpa using a
 unfold Rd;go_enter func229,ntmps229
 go_wp2
 go_ret;exact⟨Z,Qih _ _ _⟩
theorem Qeb {d:Option Addr}(b:lm<2305843009213693952):Rd prog 229 #[.agg #[.slice d lm cm],.agg #[Iv xop,Iv xa,Iv xb,Iv xc,Iv xk,Iv xn,.slice ra rl rc,.slice aa al ac]] w (Iv (ZY lm xop xk rl al)):=by
 by_cases c:xop=5
 ·subst c;exact QlI
 by_cases a:xop=14
 ·subst a;exact Qk2 b
 by_cases h:xop=2\/xop=6\/xop=7
 ·rcases h with rfl | rfl | rfl
  ·exact Qi1 (.inl ⟨Z,Z,Z⟩)
  all_goals exact Qi1 (lo:=0) (hi:=7) (by simp)
 ·exact QkH (by omega)
theorem Qg8 {q m l o p:Int}{b j:Option Addr}{g i c h:Nat}{n:Option Addr}{ok k:Bool}{v:Int}
 (D:Hid (∀ wx:World,Calls prog 227 #[.agg #[Iv xop,Iv xa,Iv xb,Iv xc,Iv xk,Iv xn,.slice ra rl rc,.slice aa al ac]] wx fun e w'=>e=.returned (.tuple #[.agg #[Iv xop,Iv q,Iv m,Iv l,Iv o,Iv p,.slice b g i,.slice j c h],.bool ok])/\Below wx.heap.size wx w'))
 (B:Hid (∀ wx:World,Calls prog 228 #[.agg #[Iv xop,Iv q,Iv m,Iv l,Iv o,Iv p,.slice b g i,.slice j c h]] wx fun e w'=>e=.returned (.bool k)/\Below wx.heap.size wx w'))
 (x:Hid (∀ wx:World,Calls prog 229 #[.agg #[.slice n lm cm],.agg #[Iv xop,Iv xa,Iv xb,Iv xc,Iv xk,Iv xn,.slice ra rl rc,.slice aa al ac]] wx fun e w'=>e=.returned (Iv v)/\Below wx.heap.size wx w')) :
 Rd prog 184 #[.agg #[.slice n lm cm],.agg #[Iv xop,Iv xa,Iv xb,Iv xc,Iv xk,Iv xn,.slice ra rl rc,.slice aa al ac]] w (Iv (if ok=false then 3 else if k=true then v else 4)):=by
 have f:Blk ((w.alloc (.cells #[.slice n lm cm] 24)).alloc (.cells #[Iv xop,Iv xa,Iv xb,Iv xc,Iv xk,Iv xn,.slice ra rl rc,.slice aa al ac] 78)) w.heap.size #[.slice n lm cm] 24:=Blk.new1 _ _ _ _ _;have a:Blk ((w.alloc (.cells #[.slice n lm cm] 24)).alloc (.cells #[Iv xop,Iv xa,Iv xb,Iv xc,Iv xk,Iv xn,.slice ra rl rc,.slice aa al ac] 78)) (w.heap.size+1) #[Iv xop,Iv xa,Iv xb,Iv xc,Iv xk,Iv xn,.slice ra rl rc,.slice aa al ac] 78:=Blk.new2 _ _ _ _;have y:Hid (Below w.heap.size w ((w.alloc (.cells #[.slice n lm cm] 24)).alloc (.cells #[Iv xop,Iv xa,Iv xb,Iv xc,Iv xk,Iv xn,.slice ra rl rc,.slice aa al ac] 78))):=Qih _ _ _;unfold Rd;go_enter func184,ntmps184
 go_wp2_with fail
 generalize ((w.alloc (.cells #[.slice n lm cm] 24)).alloc (.cells #[Iv xop,Iv xa,Iv xb,Iv xc,Iv xk,Iv xn,.slice ra rl rc,.slice aa al ac] 78))=I at f a y |-;refine(D.out _).mono ?_
 rintro e s ⟨rfl,A⟩;replace f:=(A.block _ (XC f)).trans f;replace a:=(A.block _ (XC a)).trans a;have r:Hid (Below w.heap.size w s):=y.out.trans (A.mono y.out.size);clear A y D
 cases ok with
 | false =>
   have t:Hid (Below w.heap.size w (s.alloc (.cells #[Iv xop,Iv q,Iv m,Iv l,Iv o,Iv p,.slice b g i,.slice j c h] 78))):=r.out.trans ((ZR _ _).mono r.out.size);clear B x f a r;go_wp2
   go_ret;exact⟨Z,t.out⟩
 | true =>
   replace f:=((ZR s (.cells #[Iv xop,Iv q,Iv m,Iv l,Iv o,Iv p,.slice b g i,.slice j c h] 78)).block _ (XC f)).trans f;replace a:=((ZR s (.cells #[Iv xop,Iv q,Iv m,Iv l,Iv o,Iv p,.slice b g i,.slice j c h] 78)).block _ (XC a)).trans a;have t:Hid (Below w.heap.size w (s.alloc (.cells #[Iv xop,Iv q,Iv m,Iv l,Iv o,Iv p,.slice b g i,.slice j c h] 78))):=r.out.trans ((ZR _ _).mono r.out.size);go_wp2_with fail
   clear r;generalize s.alloc (.cells #[Iv xop,Iv q,Iv m,Iv l,Iv o,Iv p,.slice b g i,.slice j c h] 78)=Q at f a t |-;refine(B.out _).mono ?_
   rintro e E ⟨rfl,u⟩;replace f:=(u.block _ (XC f)).trans f;replace a:=(u.block _ (XC a)).trans a;have z:Hid (Below w.heap.size w E):=t.out.trans (u.mono t.out.size);clear u t B
   cases k with
   | false =>
     clear x f a;go_wp2
     go_ret;exact⟨Z,z.out⟩
   | true =>
     have d:=Qa f 0 _ Z;have H:=Qa a 0 _ Z;have L:=Qa a 1 _ Z;have M:=Qa a 2 _ Z;have N:=Qa a 3 _ Z;have J:=Qa a 4 _ Z;have O:=Qa a 5 _ Z;have P:=Qa a 6 _ Z;have K:=Qa a 7 _ Z;clear f a;go_wp2_with fail
     refine(x.out _).mono ?_
     rintro e G ⟨rfl,C⟩;have F:Hid (Below w.heap.size w G):=z.out.trans (C.mono z.out.size);clear C z x;go_wp2
     go_ret;exact⟨Z,F.out⟩
theorem Qkl (d:Nat) (x:Qx) (i:IP) (m:Option Addr) (h:Nat) (w:World) (g:d<2305843009213693952) :
 Rd prog 184 #[.agg #[.slice m d h],.agg #[Iv x.op,Iv x.a,Iv x.b,Iv x.c,Iv x.k,Iv x.n,.slice i.pR x.regs.length i.cR,.slice i.pA x.args.length i.cA]] w (Iv (x.form d)):=by
 rw[Qx.form_eq]
 have f:=fun j=>wf_any (xop:=x.op) (xa:=x.a) (xb:=x.b) (xc:=x.c) (xk:=x.k) (xn:=x.n) (ra:=i.pR) (aa:=i.pA) (rl:=x.regs.length) (rc:=i.cR) (al:=x.args.length) (ac:=i.cA) (w:=j)
 cases e:QJ x.op with
 | none =>
   simp only[wfV,e] at f
   rw[show QL d x.op x.a x.b x.c x.k x.n x.regs.length x.args.length=3 by unfold QL;rw[e]]
   exact Qg8 (ok:=false) f (fun _=>isBare_any) (fun _=>Qeb g)
 | some p =>
   obtain⟨q,l,r,s,t,u,o⟩:=p
   simp only[wfV,e] at f
   rw[Qfs e]
   exact Qg8 (ok:=true) f (fun _=>isBare_any) (fun _=>Qeb g)
theorem Qdi {w4 w9:World}{lo:Nat}{xs:List Int}{x:Int}(m:Qag Lay.int 3 w4 lo (.slice a xs.length c) xs cs) (f:-9223372036854775808<=x/\x<=9223372036854775807){o:Obj}(b:lo<=w4.heap.size)
 (j:w9.ownsRow lo 3 1 (.slice (some ⟨g,0,none⟩) (xs.length+1) cap) (xs.length+1) (cs++[Iv x])) (e:(w4.alloc o).grownBy w9 (Value.slice a xs.length c).ownBlock) (l:(Value.slice a xs.length c).ownBlock=some g\/g=w4.heap.size+1) :
 Qag Lay.int 3 w9 lo (.slice (some ⟨g,0,none⟩) (xs.length+1) cap) (xs++[x]) (cs++[Iv x])/\∀ w,Below lo w w4->Below lo w w9:=by
 have d:=m.below (ZR w4 o);have n:Lay.int.In (w4.alloc o) (fun g=>lo<=g/\(Value.slice a xs.length c).ownBlock≠some g) x [Iv x]:=Lay.int_mk _ _ f;refine⟨Qag.push d n e (by simpa using l) j,fun w h=>(h.alloc b _).grown e (by simp;omega) (fun k i=>(d.lo_le i).1)⟩
def Qim (w:World) (l:List Int) (e:Ending) (w':World):Prop:=∃ a c,e=.returned (.slice a l.length c)/\intsL.In w' (fun g=>w.heap.size<=g) l [.slice a l.length c]/\Below w.heap.size w w'
end Go.Proofs.YtiebmclhgebhpafGreat
