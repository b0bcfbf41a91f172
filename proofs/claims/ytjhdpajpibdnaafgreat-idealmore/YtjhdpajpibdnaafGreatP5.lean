import Derived.Test.YtjhdpajpibdnaafGreatP4
set_option maxHeartbeats 16000000
set_option maxRecDepth 100000
namespace Go.Proofs.YtjhdpajpibdnaafGreat
open Go.ChangeShapes Go.WideShapes Go.ChangeAt Go.RowKit _root_.Go.Proofs.Tryz
set_option linter.unusedSimpArgs false
set_option linter.unusedVariables false
variable {w w' w6 wc wr w1 w2 w9:World}{b n c k X g m B i N rc ac cm fi bh R bi d j cap most q ca x ci na id f s cR cA rl al G o pages fl fm:Nat}{O A Q O' Q2 OO:Nat→Prop}{v u:Value}{a p ag pm pa pi pR pA ra aa:Option Addr}{t e:TypeId}{l inp:List Int}{P:Program}{xa xb xc xk words fu fr xn pg:Int}{L bs:List Bool}{cs xs ds:List Value}{ops:Array Oper}
theorem Qge (k r:Int) (a:Option Addr) (len c:Nat) (regs:Int) (w:World) :
 Calls prog 282 #[.agg #[Iv k,Iv r,.slice a len c],Iv regs] w fun e w'=>e=.returned (Iv (ownC k r len regs))/\Below w.heap.size w w':=by
 rcases (show k<1\/(¬ k<1/\4<k)\/k=1\/k=2\/k=4\/k=3 by omega) with b | ⟨b,f⟩ | rfl | rfl | rfl | rfl
 ·rw[show ownC _ _ len regs=3 by unfold ownC;repeat' split;all_goals omega]
  go_enter func282,ntmps282
  go_wp2_with fail
  go_ret;exact⟨Z,(Below.refl _ w).alloc Ze _⟩
 ·rw[show ownC _ _ len regs=3 by unfold ownC;repeat' split;all_goals omega]
  go_enter func282,ntmps282
  go_wp2_with fail
  go_ret;exact⟨Z,(Below.refl _ w).alloc Ze _⟩
 ·rcases (show r≠0\/(r=0/\0<len)\/(r=0/\len=0) by omega) with b | ⟨rfl,b⟩|⟨rfl,b⟩
  ·have d:(r != 0)=true:=by simpa using b
   rw[show ownC _ _ len regs=4 by unfold ownC;repeat' split;all_goals omega]
   go_enter func282,ntmps282
   go_wp2_with fail
   go_ret;exact⟨Z,(Below.refl _ w).alloc Ze _⟩
  ·have d:(0:Int)<(len:Int):=by omega
   rw[show ownC _ _ len regs=4 by unfold ownC;repeat' split;all_goals omega]
   go_enter func282,ntmps282
   go_wp2_with fail
   go_ret;exact⟨Z,(Below.refl _ w).alloc Ze _⟩
  ·have d:¬ (0:Int)<(len:Int):=by omega
   have g:¬ (8:Int)<(len:Int):=by omega
   rw[show ownC _ _ len regs=0 by unfold ownC;repeat' split;all_goals omega]
   go_enter func282,ntmps282
   go_wp2_with fail
   go_ret;exact⟨Z,(Below.refl _ w).alloc Ze _⟩
 ·rcases (show 0<len\/(len=0/\r<0)\/(len=0/\0<=r/\regs<=r)\/(len=0/\0<=r/\r<regs) by omega) with b | ⟨b,f⟩|⟨b,f,h⟩|⟨b,f,h⟩
  ·have d:(0:Int)<(len:Int):=by omega
   rw[show ownC _ _ len regs=4 by unfold ownC;repeat' split;all_goals omega]
   go_enter func282,ntmps282
   go_wp2_with fail
   go_ret;exact⟨Z,(Below.refl _ w).alloc Ze _⟩
  ·have d:¬ (0:Int)<(len:Int):=by omega
   have g:¬ (8:Int)<(len:Int):=by omega
   rw[show ownC _ _ len regs=1 by unfold ownC;repeat' split;all_goals omega]
   go_enter func282,ntmps282
   go_wp2_with fail
   go_ret;exact⟨Z,(Below.refl _ w).alloc Ze _⟩
  ·have d:¬ (0:Int)<(len:Int):=by omega
   have g:¬ (8:Int)<(len:Int):=by omega
   rw[show ownC _ _ len regs=1 by unfold ownC;repeat' split;all_goals omega]
   go_enter func282,ntmps282
   go_wp2_with fail
   go_ret;exact⟨Z,(Below.refl _ w).alloc Ze _⟩
  ·have d:¬ (0:Int)<(len:Int):=by omega
   have g:¬ (8:Int)<(len:Int):=by omega
   rw[show ownC _ _ len regs=0 by unfold ownC;repeat' split;all_goals omega]
   go_enter func282,ntmps282
   go_wp2_with fail
   go_ret;exact⟨Z,(Below.refl _ w).alloc Ze _⟩
 ·rcases (show 0<len\/(len=0/\r<0)\/(len=0/\0<=r/\regs<=r)\/(len=0/\0<=r/\r<regs) by omega) with b | ⟨b,f⟩|⟨b,f,h⟩|⟨b,f,h⟩
  ·have d:(0:Int)<(len:Int):=by omega
   rw[show ownC _ _ len regs=4 by unfold ownC;repeat' split;all_goals omega]
   go_enter func282,ntmps282
   go_wp2_with fail
   go_ret;exact⟨Z,(Below.refl _ w).alloc Ze _⟩
  ·have d:¬ (0:Int)<(len:Int):=by omega
   have g:¬ (8:Int)<(len:Int):=by omega
   rw[show ownC _ _ len regs=1 by unfold ownC;repeat' split;all_goals omega]
   go_enter func282,ntmps282
   go_wp2_with fail
   go_ret;exact⟨Z,(Below.refl _ w).alloc Ze _⟩
  ·have d:¬ (0:Int)<(len:Int):=by omega
   have g:¬ (8:Int)<(len:Int):=by omega
   rw[show ownC _ _ len regs=1 by unfold ownC;repeat' split;all_goals omega]
   go_enter func282,ntmps282
   go_wp2_with fail
   go_ret;exact⟨Z,(Below.refl _ w).alloc Ze _⟩
  ·have d:¬ (0:Int)<(len:Int):=by omega
   have g:¬ (8:Int)<(len:Int):=by omega
   rw[show ownC _ _ len regs=0 by unfold ownC;repeat' split;all_goals omega]
   go_enter func282,ntmps282
   go_wp2_with fail
   go_ret;exact⟨Z,(Below.refl _ w).alloc Ze _⟩
 ·rcases (show 8<len\/(len<=8/\r<0)\/(len<=8/\0<=r/\regs<=r)\/(len<=8/\0<=r/\r<regs) by omega) with b | ⟨b,f⟩|⟨b,f,h⟩|⟨b,f,h⟩
  ·have d:(8:Int)<(len:Int):=by omega
   rw[show ownC _ _ len regs=2 by unfold ownC;repeat' split;all_goals omega]
   go_enter func282,ntmps282
   go_wp2_with fail
   go_ret;exact⟨Z,(Below.refl _ w).alloc Ze _⟩
  ·have d:¬ (8:Int)<(len:Int):=by omega
   rw[show ownC _ _ len regs=1 by unfold ownC;repeat' split;all_goals omega]
   go_enter func282,ntmps282
   go_wp2_with fail
   go_ret;exact⟨Z,(Below.refl _ w).alloc Ze _⟩
  ·have d:¬ (8:Int)<(len:Int):=by omega
   rw[show ownC _ _ len regs=1 by unfold ownC;repeat' split;all_goals omega]
   go_enter func282,ntmps282
   go_wp2_with fail
   go_ret;exact⟨Z,(Below.refl _ w).alloc Ze _⟩
  ·have d:¬ (8:Int)<(len:Int):=by omega
   rw[show ownC _ _ len regs=0 by unfold ownC;repeat' split;all_goals omega]
   go_enter func282,ntmps282
   go_wp2_with fail
   go_ret;exact⟨Z,(Below.refl _ w).alloc Ze _⟩
theorem firstCode_any:∀ n,Qi2 258 n:=by
 intro n
 induction n with
 | zero=>intro t;exact Empty.elim t
 | succ n ih =>
   intro t a c b w ht J;have IH:Hid (Qi2 258 n):=ih;clear ih;have hT:Hid (LIn w All t.2.2 a):=ht.list;have D:Hid (∀ x∈t.2.2,x.count<=100000):=fun x p=>by have:=t.count_kid p;omega
   have F:t.2.2.length<=100000:=by have:=t.len_lt_count;rw[t.len_eq] at this;omega
   have f:Hid (t.fault b=if ownC t.kind t.r t.2.2.length b≠0 then ownC t.kind t.r t.2.2.length b else QM (TT.fault b) t.2.2):=rfl;generalize t.fault b=d at f |-;simp only[Tv,TT.len_eq]
   generalize t.2.2=l at hT D f F |-;generalize t.kind=k at f |-;generalize t.r=r at f |-;clear ht J t;go_enter func258,ntmps258
   go_wp2_with fail
   have S:Hid (Bx w (w.alloc (.cells #[Iv k,Iv r,.slice a l.length c] 105)) k r a l.length c):=Bx.start w k r a l.length c;refine(Qge k r a l.length c b _).mono ?_
   rintro e V ⟨rfl,X⟩;have m:Hid (Bx w V k r a l.length c):=S.out.below X;clear S X;by_cases B:ownC k r l.length b=0
   ·have R:Hid (d=QM (TT.fault b) l):=by
     have:=f.out
     rw[B] at this
     show d=QM (TT.fault b) l;simpa using this
    rw[B]
    clear B f;have e2:V.cell? ⟨w.heap.size,2,none⟩=some (.slice a l.length c):=Qa m.out.box 2 _ Z;go_wp2_with fail
    clear e2;go_loopw [18] (fun i wr=>∃ q:Nat,q<=l.length/\i=Iv q/\(∀ (j:Nat) x,j<q->l[j]?=some x->x.fault b=0)/\Bx w wr k r a l.length c) (fun i _=>l.length - (intOf i).toNat)
    case atStart=>exact⟨0,Xb _,Z,fun j x hj=>by omega,m.out⟩
    case round =>
     clear m;obtain⟨q,hq,rfl,h,G⟩:=hrel
     have A:Hid (∀ (j:Nat) x,j<q->l[j]?=some x->x.fault b=0):=h;have m:Hid (Bx w wr k r a l.length c):=G;clear h;by_cases I:q<l.length
     ·have p:l[q]?=some l[q]:=Zg I;generalize l[q]=x at p;obtain⟨g,o,N,M,rfl,_,d0,Q,U,hk⟩:=LIn.at (hT.out.below G.bel) p
      have E:Hid (l[q]?=some x):=p;have aa:(0:Int)<=q:=by omega
      have P:(q:Int)<l.length:=by omega
      have C:Hid (∀ u,Below wr.heap.size wr u->Calls prog 258 #[Tv x N M,Iv b] u fun e w'=>e=.returned (Iv (x.fault b))/\Below u.heap.size u w') :=
       fun u hb=>IH.out x N M b u (hk.below hb) (D.out x (Zm p))
      clear G hk p;simp only[Tv] at C
      generalize x.kind=kx at C d0;generalize x.r=rx at C Q;generalize x.len=lx at C U;go_wp2_with fail
      have O:Below wr.heap.size wr (wr.alloc (.cells #[Iv kx,Iv rx,.slice N lx M] 105)):=(Below.refl _ wr).alloc Ze _;refine(C.out _ O).mono ?_
      rintro e w2 ⟨rfl,T⟩;have W:Hid (Bx w w2 k r (some ⟨g,o,none⟩) l.length c):=(m.out.below O).below T;clear m T O C d0 Q U;by_cases z:x.fault b=0
      ·have A2:Hid (∀ (j:Nat) x,j<q+1->l[j]?=some x->x.fault b=0):=fun j y hj s=>by
        by_cases e:j=q
        ·subst e;rw[E.out] at s
         cases s
         exact z
        ·exact A.out j y (by omega) s
       rw[z]
       clear z A;go_wp2
       go_roundw
       case rel=>exact⟨q+1,by omega,by go_num,A2.out,W.out⟩
       case measure=>simp[intOf];omega
      ·have H:Hid (d=x.fault b):=R.out.trans (QaV E.out A.out z);have L:(x.fault b != 0)=true:=by simpa using z
       generalize x.fault b=v at L H |-;clear z A;go_wp2
       go_ret;exact⟨by rw[H.out];rfl,W.out.bel⟩
     ·have H:Hid (d=0):=R.out.trans (QaG (fun j y s=>A.out j y (by have:=(Zi s).1;omega) s));have P:¬ (q:Int)<l.length:=by omega
      clear G A;go_wp2
      go_ret;exact⟨by rw[H.out];rfl,m.out.bel⟩
   ·have R:Hid (d=ownC k r l.length b):=by
     have:=f.out
     rwa [Xs B] at this
    have K:(ownC k r l.length b != 0)=true:=by simpa using B
    generalize ownC k r l.length b=v at K R |-;clear B f;go_wp2_with fail
    go_ret;exact⟨by rw[R.out];rfl,m.out.bel⟩
theorem QhW {l:List (TT n)}{k r:Int}:m<TT.height (n:=n+1) (mkT k r l)↔∃ (i:Nat) (x:TT n),l[i]?=some x/\m<1+x.height:=by
 rw[<-Nat.not_le,ZB]
 constructor
 ·intro h;simp only[Classical.not_forall] at h
  obtain⟨x,a,b⟩:=h
  obtain⟨i,c,rfl⟩:=List.mem_iff_getElem.1 a
  exact⟨i,_,Zg c,by omega⟩
 ·rintro ⟨i,x,a,b⟩ h
  have:=h x (Zm (l:=l) a)
  omega
theorem deeper_any:∀ (n:Nat) (t:TT n) (a:Option Addr) (c:Nat) (w:World) (m:Nat),TIn w All t a->t.count<=100000->m<=4 ->
 Calls prog 257 #[Tv t a c,Iv m] w fun e w'=>e=.returned (.bool (decide (m<t.height)))/\Below w.heap.size w w':=by
 intro n
 induction n with
 | zero=>intro t;exact Empty.elim t
 | succ n ih =>
   intro t a c w m V I ac
   have IH:Hid (∀ (t:TT n) (a:Option Addr) (c:Nat) (w:World) (m:Nat),TIn w All t a->t.count<=100000->m<=4 ->
    Calls prog 257 #[Tv t a c,Iv m] w fun e w'=>e=.returned (.bool (decide (m<t.height)))/\Below w.heap.size w w'):=ih
   clear ih;have X:Hid (LIn w All t.2.2 a):=V.list;have u:Hid (∀ x∈t.2.2,x.count<=100000):=fun x b=>by have:=t.count_kid b;omega
   have B:t.2.2.length<=100000:=by have:=t.len_lt_count;rw[t.len_eq] at this;omega
   have D:Hid (m<t.height↔∃ (i:Nat) (x:TT n),t.2.2[i]?=some x/\m<1+x.height):=QhW;generalize t.height=h at D |-;simp only[Tv,TT.len_eq]
   generalize t.2.2=l at X u D B |-;generalize t.kind=k;generalize t.r=r;clear V I t;go_enter func257,ntmps257
   go_wp2_with fail
   have J:Hid (Bx w (w.alloc (.cells #[Iv k,Iv r,.slice a l.length c] 105)) k r a l.length c):=Bx.start w k r a l.length c;generalize w.alloc (.cells #[Iv k,Iv r,.slice a l.length c] 105)=w1 at J |-;go_loopw [10] (fun i wr=>∃ q:Nat,q<=l.length/\i=Iv q/\(∀ (j:Nat) x,j<q->l[j]?=some x->1+x.height<=m)/\Bx w wr k r a l.length c) (fun i _=>l.length - (intOf i).toNat)
   case atStart=>exact⟨0,Xb _,Z,fun j x hj=>by omega,J.out⟩
   case round =>
    clear J;obtain⟨q,hq,rfl,d,z⟩:=hrel
    have A:Hid (∀ (j:Nat) x,j<q->l[j]?=some x->1+x.height<=m):=d;have E:Hid (Bx w wr k r a l.length c):=z;clear d;by_cases H:q<l.length
    ·have b:l[q]?=some l[q]:=Zg H;generalize l[q]=x at b;obtain⟨g,o,M,L,rfl,_,O,R,T,Q⟩:=LIn.at (X.out.below z.bel) b
     have hg:g<wr.heap.size:=Xi wr ⟨g,o+q*3,none⟩ O;have v:Hid (l[q]?=some x):=b;have aa:(0:Int)<=q:=by omega
     have P:(q:Int)<l.length:=by omega
     by_cases W:m=0
     ·have s:Hid (m<h):=D.out.2 ⟨q,x,b,by omega⟩;have K:((m:Int)==0)=true:=by simp;omega
      clear z Q b W;go_wp2_with fail
      go_ret;exact⟨by rw[Xt s.out];rfl,(E.out.alloc _).bel⟩
     ·have K:((m:Int)==0)=false:=by simp;omega
      have C:Hid (∀ f,Below wr.heap.size wr f->Calls prog 257 #[Tv x M L,Iv ((m:Int) - 1)] f fun e w'=>e=.returned (.bool (decide (m - 1<x.height)))/\Below f.heap.size f w'):=fun f hb=>by
       have:=IH.out x M L f (m - 1) (Q.below hb) (u.out x (Zm b)) (by omega)
       rw[show ((m - 1:Nat):Int)=(m:Int) - 1 by omega] at this
       exact this
      have ad:(1:Int)<=m:=by omega
      have ab:(m:Int)<=4:=by omega
      have p:Hid (1<=m):=by show 1<=m;omega
      clear z Q b W;simp only[Tv] at C
      generalize x.kind=kx at C O;generalize x.r=rx at C R;generalize x.len=lx at C T;go_wp2_with fail
      have N:Below wr.heap.size wr (wr.alloc (.cells #[Iv kx,Iv rx,.slice M lx L] 105)):=(Below.refl _ wr).alloc Ze _;refine(C.out _ N).mono ?_
      rintro e w2 ⟨rfl,S⟩;have U:Hid (Bx w w2 k r (some ⟨g,o,none⟩) l.length c):=(E.out.below N).below S;clear E S N C O R T;by_cases F:m - 1<x.height
      ·have s:Hid (m<h):=D.out.2 ⟨q,x,v.out,by have:=p.out;omega⟩;rw[Xt F]
       clear F;go_wp2
       go_ret;exact⟨by rw[Xt s.out];rfl,U.out.bel⟩
      ·have A2:Hid (∀ (j:Nat) x,j<q+1->l[j]?=some x->1+x.height<=m):=fun j y hj G=>by
        by_cases e:j=q
        ·subst e;rw[v.out] at G
         cases G
         have:=p.out
         omega
        ·exact A.out j y (by omega) G
       rw[Xu F]
       clear F A;go_wp2
       go_roundw
       case rel=>exact⟨q+1,by omega,by go_num,A2.out,U.out⟩
       case measure=>simp[intOf];omega
    ·have s:Hid (¬ m<h):=fun hc=>by
      obtain⟨i,x,b,h3⟩:=D.out.1 hc
      have:=A.out i x (by have:=(Zi b).1;omega) b
      omega
     have P:¬ (q:Int)<l.length:=by omega
     clear z A;go_wp2
     go_ret;exact⟨by rw[Xu s.out];rfl,E.out.bel⟩
theorem check_any:Qll 223:=by
 intro n t a c b w s p
 have j:Hid (∀ d,Below w.heap.size w d->Calls prog 257 #[Tv t a c,Iv 4] d fun e q=>e=.returned (.bool (decide (4<t.height)))/\Below d.heap.size d q) :=
  fun d o=>deeper_any n t a c d 4 (s.below o) p (by omega)
 have g:Hid (∀ d,Below w.heap.size w d->Calls prog 258 #[Tv t a c,Iv b] d fun e q=>e=.returned (Iv (t.fault b))/\Below d.heap.size d q) :=
  fun d o=>firstCode_any n t a c b d (s.below o) p
 have E:Hid (t.check b=if 4<t.height then 19 else t.fault b):=rfl;generalize t.check b=l at E |-;clear s p;simp only[Tv] at j g |-
 generalize t.kind=k at j g |-;generalize t.r=r at j g |-;generalize t.len=f at j g |-;generalize t.fault b=v at g E;go_enter func223,ntmps223
 go_wp2_with fail
 have m:=Bx.start w k r a f c;generalize w.alloc (.cells #[Iv k,Iv r,.slice a f c] 105)=F at m |-;refine(j.out _ m.bel).mono ?_
 rintro e B ⟨rfl,x⟩;have h:Hid (Bx w B k r a f c):=m.below x;have C:=Qa h.out.box 0 _ Z;have D:=Qa h.out.box 1 _ Z;have z:=Qa h.out.box 2 _ Z;clear m x j;by_cases i:4<t.height
 ·rw[Xt i]
  have R:Hid (l=19):=by have:=E.out;rwa [Xs i] at this
  clear i;go_wp2_with fail
  go_ret;exact⟨by rw[R.out];rfl,h.out.bel⟩
 ·rw[Xu i]
  have R:Hid (l=v):=by have:=E.out;rwa [Xr i] at this
  clear i;go_wp2_with fail
  refine(g.out _ h.out.bel).mono ?_
  rintro e y ⟨rfl,u⟩;have A:Hid (Bx w y k r a f c):=h.out.below u;clear h u g C D z;go_wp2_with fail
  go_ret;exact⟨by rw[R.out];rfl,A.out.bel⟩
abbrev QT (p:Int × Int):Value:=.agg #[Iv p.1,Iv p.2]
def atF (c p:Int):Int × Int:=if c=0 then (0,0) else (c,p)
theorem Qe8 {α:Type}{f:Nat->α->Int × Int}:∀ {l:List α}{j:Nat},firstF (fun i x=>atF (f i x).1 (f i x).2) j l=firstF f j l
 | [],_=>rfl
 | x::xs,j=>by
   simp only[firstF,atF]
   by_cases h:(f j x).1=0
   ·simp only[h,if_true,ne_eq,not_true_eq_false,if_false]
    exact Qe8
   ·simp[h]
def MFunc.code {n:Nat}(f:Nat) (x:MFunc n):Int :=
 if x.regs<0\/6<x.regs then 1 else if listC x.regs x.params≠0 then listC x.regs x.params else if listC x.regs x.results≠0 then listC x.regs x.results
 else if x.blocks.length<1\/12<x.blocks.length then 2 else if f=0/\¬ (x.regs=0/\x.params.length=0/\x.results.all (fun t=>t.kind==1)=true) then 18 else 0
theorem MFunc.fault_eq (a f:Nat) (x:MFunc n):MFunc.fault a f x=if x.code f=0 then firstF (fun b y=>MBlock.fault a f x b y) 0 x.blocks else (x.code f,10000*(f:Int)+9999):=by
 unfold MFunc.fault MFunc.code;generalize listC x.regs x.params=c;generalize listC x.regs x.results=e;generalize firstF (fun b y=>MBlock.fault a f x b y) 0 x.blocks=d;repeat' split
 all_goals first | rfl | (exfalso;omega) | contradiction
def MBlock.code' {n:Nat}(fn:MFunc n) (b:Nat) (x:MBlock n):Int :=
 if x.regs<fn.regs\/16<x.regs then 1 else if listC x.regs x.params≠0 then listC x.regs x.params
 else if b=0/\(x.regs≠fn.regs\/Qdy x.params fn.params=false) then 9 else if 40<x.code.length then 2 else 0
theorem MBlock.fault_eq (a f:Nat) (fn:MFunc n) (b:Nat) (x:MBlock n):MBlock.fault a f fn b x =
 if x.code' fn b=0 then (if (firstF (fun i y=>(Qv.form a y,(10000*f+100*b+i:Int))) 0 x.code).1=0 then atF (x.fin.form fn.blocks.length) (10000*(f:Int)+100*(b:Int)+91)
  else firstF (fun i y=>(Qv.form a y,(10000*f+100*b+i:Int))) 0 x.code) else (x.code' fn b,10000*(f:Int)+100*(b:Int)+90):=by
 unfold MBlock.fault MBlock.code' atF;generalize firstF (fun i y=>(Qv.form a y,(10000*f+100*b+i:Int))) 0 x.code=e;generalize x.fin.form fn.blocks.length=c;generalize listC x.regs x.params=d;repeat' split
 all_goals first | rfl | (exfalso;omega) | contradiction
def idxK {n:Nat}:Nat->List (TT n)->Int
 | _,[]=>-1
 | i,t::ts=>if t.kind=1 then idxK (i+1) ts else (i:Int)
theorem QiZ {l:List (TT n)}{x:TT n}(h:l[q]?=some x):idxK q (l.drop q)=if x.kind=1 then idxK (q+1) (l.drop (q+1)) else (q:Int):=by
 obtain⟨a,rfl⟩:=Zi h
 rw[List.drop_eq_getElem_cons a]
 rfl
theorem Qg4 {n:Nat}:∀ (l:List (TT n)) (j:Nat),(0<=idxK j l)↔¬ l.all (fun t=>t.kind==1)=true
 | [],j=>by simp[idxK]
 | y::ys,j=>by
   by_cases h:y.kind=1
   ·simp only[idxK,h,if_true,List.all_cons,beq_self_eq_true,Bool.true_and]
    exact Qg4 ys (j+1)
   ·simp[idxK,h]
theorem QkK {t:TT n}{regs:Int}(b:TIn w All t a) (d:t.count<=100000):Rd prog 223 #[Tv t a c,Iv regs] w (Iv (t.check regs)):=check_any n t a c regs w b d
theorem QfS {α:Type}{f:α->Int}{l:List α}{x:α}(h:l[q]?=some x):QM f (l.drop q)=if f x≠0 then f x else QM f (l.drop (q+1)):=by
 obtain⟨a,rfl⟩:=Zi h
 rw[List.drop_eq_getElem_cons a]
 rfl
theorem QaP {l:List (TT n)}{regs:Int}(f:(Qx n).In w All l [.slice p l.length c]) (b:QdC l) :
 Rd prog 178 #[.slice p l.length c,Iv regs] w (Iv (listC regs l)):=by
 have F:=Qk (Q7 f).1;have H:=Qk b.2;by_cases m:8<l.length
 ·have E:Hid (listC regs l=2):=Xs m;have d:decide ((l.length:Int)>8)=true:=Xt (by omega);clear m b f;go_enter func178,ntmps178
  go_wp2
  go_ret;exact⟨by rw[E.out];rfl,Zr⟩
 have E:Hid (listC regs l=QM (TT.check regs) (l.drop 0)):=Xr m;have d:decide ((l.length:Int)>8)=false:=Xu (by omega);have m:l.length<=8:=by omega
 generalize listC regs l=V at E |-;clear b f;go_enter func178,ntmps178
 go_wp2
 go_loopw [13] (fun i wr=>∃ q:Nat,q<=l.length/\i=Iv q/\Hid (V=QM (TT.check regs) (l.drop q))/\Hid (Below w.heap.size w wr)) (fun i _=>l.length - (intOf i).toNat)
 case atStart=>exact⟨0,Xb _,Z,E,Zr⟩
 case round =>
  obtain⟨q,M,rfl,e,k⟩:=hrel
  clear E;by_cases h:q<l.length
  ·have s:l[q]?=some l[q]:=Zg h;have A:=Qk (H.out _ (List.getElem_mem h));generalize l[q]=t at s A;obtain⟨g,o,y,z,rfl,-,L,G,K,In⟩:=LIn.at (TIn.below F.out k.out) s
   have N:(q:Int)<l.length:=by omega
   have a:=Qk (e.out.trans (QfS s));have C:Hid (∀ u,Below wr.heap.size wr u->Rd prog 223 #[.agg #[Iv t.kind,Iv t.r,.slice y t.len z],Iv regs] u (Iv (t.check regs))):=fun u J=>QkK (In.below J) A.out;clear s e In;generalize t.check regs=v at a C;have C:=Qk (C.out _ (ZO wr (.cells #[Iv t.kind,Iv t.r,.slice y t.len z] 105)));go_wp2_with fail
   refine C.out.mono ?_;rintro P I ⟨rfl,B⟩;have D:Hid (Below w.heap.size w I):=k.out.trans (((ZO wr _).trans (B.mono (ZO wr _).size)).mono k.out.size);clear B C L G K;by_cases j:v=0
   ·subst j;have a:=Qk (a.out.trans (Xr (by simp)));go_wp2
    go_roundw
    case rel=>exact⟨q+1,by omega,by go_num,a,D⟩
    case measure=>simp[intOf];omega
   ·have a:=Qk (a.out.trans (Xs j));have O:(v != 0)=true:=bne_iff_ne.2 j;clear j;go_wp2
    go_ret;exact⟨by rw[a.out];rfl,D.out⟩
  ·have x:q=l.length:=by omega
   subst x;go_wp2
   go_ret;exact⟨by rw[e.out,List.drop_length];rfl,k.out⟩
theorem Qbp {f:Int}:Rd prog 117 #[Iv xc,Iv f] w (QT (atF xc f)):=by
 have b:=Qk ((Bxs.start w).new #[Iv 0,Iv 0] 32);go_enter func117,ntmps117
 go_upto_region 1 with fail
 generalize w.alloc (.cells #[Iv 0,Iv 0] 32)=i at b |-;generalize w.heap.size=R at b |-;have m:=b.out.cell (a:=[]) 0 _ Z;have j:=b.out.cell (a:=[]) 1 _ Z;have k:=b.out.free (a:=[]) 0;have l:=b.out.free (a:=[]) 1;have g:Hid (∀ c p:Int,_):=fun c p=>(b.out.set (a:=[]) 0 (Iv c)).set (a:=[]) 1 (Iv p);by_cases h:xc=0
 ·subst h;go_wp2
  exact Xy (v:=QT (atF 0 f)) (by simp[results,results117,go_sem,(g.out 0 0).cell (a:=[]) 0 _ Z,(g.out 0 0).cell (a:=[]) 1 _ Z,atF,QT]) Z ⟨Z,(g.out 0 0).bel⟩
 ·have d:(xc==0)=false:=by simpa using h
  have e:=Qk h;clear h;go_wp2
  exact Xy (v:=QT (atF xc f)) (by simp[results,results117,go_sem,(g.out xc f).cell (a:=[]) 0 _ Z,(g.out xc f).cell (a:=[]) 1 _ Z,atF,QT,e.out]) Z ⟨Z,(g.out xc f).bel⟩
theorem Qhx {l:List (TT n)}(d:(Qx n).In w All l [.slice p l.length c]) (s:l.length<=100000) :
 Rd prog 259 #[.slice p l.length c,.func (.func 225) #[] #[]] w (Iv (idxK 0 l)):=by
 have u:=Qk (Q7 d).1;have E:Hid (idxK 0 l=idxK 0 (l.drop 0)):=rfl;have F:∀ (args:Array Value) (w:World),(callFunc 225 args).run prog w=.ok (.enter 225 args) w:=fun _ _=>by kernel_rfl
 generalize idxK 0 l=V at E |-;clear d;go_enter func259,ntmps259
 go_wp2
 go_loopw [8] (fun i wr=>∃ q:Nat,q<=l.length/\i=Iv q/\Hid (V=idxK q (l.drop q))/\Hid (Below w.heap.size w wr)) (fun i _=>l.length - (intOf i).toNat)
 case atStart=>exact⟨0,Xb _,Z,E,Zr⟩
 case round =>
  obtain⟨q,z,rfl,e,k⟩:=hrel
  clear E;by_cases j:q<l.length
  ·have f:l[q]?=some l[q]:=Zg j;generalize l[q]=t at f;obtain⟨g,o,v,x,rfl,-,y,A,C,In⟩:=LIn.at (TIn.below u.out k.out) f
   have D:(q:Int)<l.length:=by omega
   have b:=Qk (e.out.trans (QiZ f));have m:Hid (Below w.heap.size w (wr.alloc (.cells #[Iv t.kind,Iv t.r,.slice v t.len x] 105))):=k.out.trans ((ZO wr _).mono k.out.size);clear f e In;by_cases a:t.kind=1
   ·have b:=Qk (b.out.trans (Xs a));rw[a] at y m
    clear a;go_wp2
    go_roundw
    case rel=>exact⟨q+1,by omega,by go_num,b,m⟩
    case measure=>simp[intOf];omega
   ·have b:=Qk (b.out.trans (Xr a));have B:(t.kind != 1)=true:=bne_iff_ne.2 a;clear a;go_wp2
    go_ret;exact⟨by rw[b.out];rfl,m.out⟩
  ·have h:q=l.length:=by omega
   subst h;go_wp2
   go_ret;exact⟨by rw[e.out,List.drop_length];rfl,k.out⟩
theorem Qex {l:List (TT n)}(a:(Qx n).In w All l [.slice p l.length c]) (b:l.length<=100000) :
 Rd prog 224 #[.slice p l.length c,.func (.func 225) #[] #[]] w (.bool (decide (0<=idxK 0 l))):=by
 have C:=Qk (Qhx a b);clear a;go_enter func224,ntmps224
 go_wp2_with fail
 refine C.out.mono ?_;rintro g f ⟨rfl,d⟩;have e:=Qk d;clear d C;go_wp2
 go_ret;exact⟨Z,e.out⟩
def MFunc.begins {n:Nat}(x:MFunc n):Prop:=x.regs=0/\x.params.length=0/\x.results.all (fun t=>t.kind==1)=true
def MBlock.takes {n:Nat}(fn:MFunc n) (x:MBlock n):Prop:=x.regs=fn.regs/\x.params=fn.params
theorem Qkp {fn:MFunc n}{x:MBlock n}(h:¬ x.takes fn):x.regs≠fn.regs\/Qdy x.params fn.params=false:=by
 by_cases a:x.regs=fn.regs
 ·refine .inr ?_
  cases e:Qdy x.params fn.params with
  | false=>rfl
  | true=>exact absurd ⟨a,QcZ.1 e⟩ h
 ·exact .inl a
theorem QhO {fn:MFunc n}{x:MBlock n}(h:x.takes fn):¬ (x.regs≠fn.regs\/Qdy x.params fn.params=false):=by
 rintro (a | a)
 ·exact a h.1
 ·rw[QcZ.2 h.2] at a;cases a
abbrev bkA {n:Nat}(m:List (MFunc n)) (p:Option Addr) (c:Nat) (x:MFunc n) (fp:FP) (fi:Nat) (y:MBlock n) (bp:BP) (bi:Nat):Array Value:=#[.slice p m.length c,Iv x.regs,.slice fp.pP x.params.length fp.cP,.slice fp.pR x.results.length fp.cR,.slice fp.pB x.blocks.length fp.cB,Iv (fi:Int),Iv y.regs,.slice bp.pP y.params.length bp.cP,.slice bp.pC y.code.length bp.cC,Iv y.fin.op,Iv y.fin.a,Iv y.fin.yes.block,.slice bp.e.pYR y.fin.yes.regs.length bp.e.cYR,.slice bp.e.pYA y.fin.yes.args.length bp.e.cYA,Iv y.fin.no.block,.slice bp.e.pNR y.fin.no.regs.length bp.e.cNR,.slice bp.e.pNA y.fin.no.args.length bp.e.cNA,.slice bp.e.pA y.fin.args.length bp.e.cA,Iv (bi:Int)]
theorem Qe0 {m:List (MFunc n)}{x:MFunc n}{a:FP}(j:FIn w All x a) (i:x.small) :
 Rd prog 179 #[.agg #[.slice p m.length c,Iv x.regs,.slice a.pP x.params.length a.cP,.slice a.pR x.results.length a.cR,.slice a.pB x.blocks.length a.cB,Iv (fi:Int)]] w (.bool (Qam x.begins)):=by
 have f:=Qk (ZO w (.cells #[.slice p m.length c,Iv x.regs,.slice a.pP x.params.length a.cP,.slice a.pR x.results.length a.cR,.slice a.pB x.blocks.length a.cB,Iv (fi:Int)] 139));have g:=Qk (Blk.new w #[.slice p m.length c,Iv x.regs,.slice a.pP x.params.length a.cP,.slice a.pR x.results.length a.cR,.slice a.pB x.blocks.length a.cB,Iv (fi:Int)] 139);have C:=Qk (Qex (Ya j.results f.out) (by have:=i.2.2.1.1;omega));have o:x.begins↔x.regs=0/\x.params.length=0/\¬ 0<=idxK 0 x.results:=by unfold MFunc.begins;rw[Qg4,Classical.not_not]
 have b:=Qk o;clear o;generalize idxK 0 x.results=r at C b;clear j i;go_enter func179,ntmps179
 go_upto_region 1 with fail
 generalize w.alloc (.cells #[.slice p m.length c,Iv x.regs,.slice a.pP x.params.length a.cP,.slice a.pR x.results.length a.cR,.slice a.pB x.blocks.length a.cB,Iv (fi:Int)] 139)=D at f g C |-;generalize s:w.heap.size=X at g |-;have E:=Qk s;clear s;have F:=Qa g.out 1 _ Z;have y:=Qa g.out 2 _ Z;have z:=Qa g.out 3 _ Z;by_cases d:x.regs=0
 ·have t:(x.regs==0)=true:=by simpa using d
  by_cases e:x.params.length=0
  ·have u:((x.params.length:Int)==0)=true:=by simpa using e
   have k:Hid (Qam x.begins=!(decide (0<=r))):=by
    by_cases l:0<=r
    ·exact(QA (fun h=>(b.out.1 h).2.2 l)).trans (by simp[l])
    ·exact(QG (b.out.2 ⟨d,e,l⟩)).trans (by simp[l])
   clear d e b;go_wp2_with fail
   refine C.out.mono ?_;rintro G B ⟨rfl,q⟩;have v:=Qk (f.out.trans (q.mono f.out.size));clear q C;go_wp2
   go_ret;exact⟨by rw[k.out];rfl,v.out⟩
  ·have u:((x.params.length:Int)==0)=false:=by simpa using e
   have k:=Qk (QA (A:=x.begins) (fun h=>e (b.out.1 h).2.1));clear d e b;go_wp2
   go_ret;exact⟨by rw[k.out];rfl,f.out⟩
 ·have t:(x.regs==0)=false:=by simpa using d
  have k:=Qk (QA (A:=x.begins) (fun h=>d (b.out.1 h).1));clear d b;go_wp2
  go_ret;exact⟨by rw[k.out];rfl,f.out⟩
theorem Qe5 {m:List (MFunc n)}{x:MFunc n}{a:FP}(k:FIn w All x a) (i:x.small) :
 Rd prog 116 #[.agg #[.slice p m.length c,Iv x.regs,.slice a.pP x.params.length a.cP,.slice a.pR x.results.length a.cR,.slice a.pB x.blocks.length a.cB,Iv (fi:Int)]] w (Iv (x.code fi)):=by
 have r:=Qk (ZO w (.cells #[.slice p m.length c,Iv x.regs,.slice a.pP x.params.length a.cP,.slice a.pR x.results.length a.cR,.slice a.pB x.blocks.length a.cB,Iv (fi:Int)] 139));have d:=Qk (Blk.new w #[.slice p m.length c,Iv x.regs,.slice a.pP x.params.length a.cP,.slice a.pR x.results.length a.cR,.slice a.pB x.blocks.length a.cB,Iv (fi:Int)] 139);have s:Hid (∀ f,Below w.heap.size w f->Calls prog 178 #[.slice a.pP x.params.length a.cP,Iv x.regs] f fun e v=>e=.returned (Iv (listC x.regs x.params))/\Below f.heap.size f v):=fun f C=>QaP (regs:=x.regs) (Ya k.params C) i.2.1;have q:Hid (∀ f,Below w.heap.size w f->Calls prog 178 #[.slice a.pR x.results.length a.cR,Iv x.regs] f fun e v=>e=.returned (Iv (listC x.regs x.results))/\Below f.heap.size f v):=fun f C=>QaP (regs:=x.regs) (Ya k.results C) i.2.2.1;have g:Hid (∀ f,Below w.heap.size w f->Calls prog 179 #[.agg #[.slice p m.length c,Iv x.regs,.slice a.pP x.params.length a.cP,.slice a.pR x.results.length a.cR,.slice a.pB x.blocks.length a.cB,Iv (fi:Int)]] f fun e v=>e=.returned (.bool (Qam x.begins))/\Below f.heap.size f v):=fun f C=>Qe0 (k.below C) i;have aa:=i.1;have b:Hid (x.code fi=if x.regs<0\/6<x.regs then 1 else if listC x.regs x.params≠0 then listC x.regs x.params else if listC x.regs x.results≠0 then listC x.regs x.results else if x.blocks.length<1\/12<x.blocks.length then 2 else if fi=0/\¬ (x.regs=0/\x.params.length=0/\x.results.all (fun t=>t.kind==1)=true) then 18 else 0):=rfl;generalize x.code fi=V at b |-;generalize listC x.regs x.params=S at b s;generalize listC x.regs x.results=W at b q;clear k i;go_enter func116,ntmps116
 go_upto_region 1 with fail
 generalize w.alloc (.cells #[.slice p m.length c,Iv x.regs,.slice a.pP x.params.length a.cP,.slice a.pR x.results.length a.cR,.slice a.pB x.blocks.length a.cB,Iv (fi:Int)] 139)=w1 at r d |-;generalize U:w.heap.size=X at d |-;have HX:=Qk U;clear U;have L:=Qa d.out 1 _ Z;have G:=Qa d.out 2 _ Z;have I:=Qa d.out 3 _ Z;have J:=Qa d.out 4 _ Z;have K:=Qa d.out 5 _ Z;by_cases z:x.regs<0\/6<x.regs
 ·have E:=Qk (b.out.trans (Xs z));by_cases l:x.regs<0
  ·have H:decide (x.regs<0)=true:=Xt l;clear l z b s q g;go_wp2
   go_ret;exact⟨by rw[E.out];rfl,r.out⟩
  ·have H:decide (x.regs<0)=false:=Xu l;have T:decide (x.regs>6)=true:=Xt (by omega);clear l z b s q g;go_wp2
   go_ret;exact⟨by rw[E.out];rfl,r.out⟩
 replace b:=Qk (b.out.trans (Xr z));have H:decide (x.regs<0)=false:=Xu (by omega);have T:decide (x.regs>6)=false:=Xu (by omega);clear z;go_wp2_with fail
 refine(s.out w1 r.out).mono ?_
 rintro P w2 ⟨rfl,N⟩;have D:=Qk (r.out.trans (N.mono r.out.size));have d:=Qk (d.out.below N);clear N s L G I J K;have L:=Qa d.out 1 _ Z;have G:=Qa d.out 2 _ Z;have I:=Qa d.out 3 _ Z;have J:=Qa d.out 4 _ Z;have K:=Qa d.out 5 _ Z;by_cases y:S=0
 rotate_left
 ·have E:=Qk (b.out.trans (Xs y));have R:(S != 0)=true:=bne_iff_ne.2 y;clear y b q g;go_wp2
  go_ret;exact⟨by rw[E.out];rfl,D.out⟩
 replace b:=Qk (b.out.trans (Xr (fun h=>h y)));subst y;go_wp2_with fail
 refine(q.out w2 D.out).mono ?_
 rintro P Q ⟨rfl,M⟩;have j:=Qk (D.out.trans (M.mono D.out.size));have d:=Qk (d.out.below M);clear M q L G I J K;have x0:=Qa d.out 0 _ Z;have L:=Qa d.out 1 _ Z;have G:=Qa d.out 2 _ Z;have I:=Qa d.out 3 _ Z;have J:=Qa d.out 4 _ Z;have K:=Qa d.out 5 _ Z;by_cases A:W=0
 rotate_left
 ·have E:=Qk (b.out.trans (Xs A));have R:(W != 0)=true:=bne_iff_ne.2 A;clear A b g;go_wp2
  go_ret;exact⟨by rw[E.out];rfl,j.out⟩
 replace b:=Qk (b.out.trans (Xr (fun h=>h A)));subst A;by_cases u:x.blocks.length<1\/12<x.blocks.length
 ·have E:=Qk (b.out.trans (Xs u));by_cases l:x.blocks.length<1
  ·have H:decide ((x.blocks.length:Int)<1)=true:=Xt (by omega);clear l u b g;go_wp2
   go_ret;exact⟨by rw[E.out];rfl,j.out⟩
  ·have H:decide ((x.blocks.length:Int)<1)=false:=Xu (by omega);have T:decide ((x.blocks.length:Int)>12)=true:=Xt (by omega);clear l u b g;go_wp2
   go_ret;exact⟨by rw[E.out];rfl,j.out⟩
 replace b:=Qk (b.out.trans (Xr u));have R:decide ((x.blocks.length:Int)<1)=false:=Xu (by omega);have d4:decide ((x.blocks.length:Int)>12)=false:=Xu (by omega);clear u;by_cases F:fi=0
 rotate_left
 ·have E:=Qk (b.out.trans (Xr (fun h=>F h.1)));have d5:((fi:Int)==0)=false:=by simpa using F
  clear F b g;go_wp2
  go_ret;exact⟨by rw[E.out];rfl,j.out⟩
 subst F;by_cases o:x.begins
 ·have E:=Qk (b.out.trans (Xr (fun h=>h.2 o)));have g:=Qk (g.out Q j.out);rw[QG o] at g
  clear o b;go_wp2_with fail
  refine g.out.mono ?_;rintro P w4 ⟨rfl,B⟩;have O:=Qk (j.out.trans (B.mono j.out.size));clear B g;go_wp2
  go_ret;exact⟨by rw[E.out];rfl,O.out⟩
 ·have E:=Qk (b.out.trans (Xs ⟨Z,o⟩));have g:=Qk (g.out Q j.out);rw[QA o] at g
  clear o b;go_wp2_with fail
  refine g.out.mono ?_;rintro P w4 ⟨rfl,B⟩;have O:=Qk (j.out.trans (B.mono j.out.size));clear B g;go_wp2
  go_ret;exact⟨by rw[E.out];rfl,O.out⟩
theorem ZX {rest:List Oper}{op:Oper}{a:Act}{Q:Exit->Act->World->Prop}(g:Region.wanted op (yielded ops a.tmps)=true) (c:TypeId) (x:Operand) (l:op.op=.load c x)
 (b o:Nat) (i:a.eval x=Pv b o) (cs:List Value) (d:TypeDesc) (k:w.rangeAt b o cs) (e:P.underlying c=some d) (f:d.isRow=true) (hi:(P.info? c).map (·.size)=some cs.length)
 (h:wpList P ops Q rest (a.put op.dst (.agg cs.toArray)) w):wpList P ops Q (op::rest) a w :=
 wpList_step fun K j=>by
  rw[Xs g]
  exact wp_load_mid c x l b o i cs d k e f hi (j _ _ h)
theorem bkSize:(prog.info? 194).map (·.size)=some 19:=by kernel_rfl
theorem Qjd {m:List (MFunc n)}{x:MFunc n}{d:FP}{y:MBlock n}{b:BP}(k:FIn w All x d) (r:x.small) (o:BIn w All y b) (f:y.small) :
 Rd prog 226 #[.agg (bkA m p c x d fi y b bi)] w (.bool (Qam (y.takes x))):=by
 have l:=Qk (ZO w (.cells (bkA m p c x d fi y b bi) 194));have i:=Qk (Blk.new w (bkA m p c x d fi y b bi) 194);have C:Hid (∀ g,Below w.heap.size w g->Calls prog 260 #[.slice b.pP y.params.length b.cP,.slice d.pP x.params.length d.cP,FV] g fun e B=>Q6 e (y.params=x.params)/\Below g.heap.size g B):=fun g v=>QiT n (same_any n) _ _ _ _ _ _ g (Q7 (Ya o.params v)).1 (Q7 (Ya k.params v)).1 (by have:=f.2.1.1;omega) f.2.1.2;clear k r o f;unfold Rd;go_enter func226,ntmps226
 go_upto_region 1 with fail
 generalize w.alloc (.cells #[.slice p m.length c,Iv x.regs,.slice d.pP x.params.length d.cP,.slice d.pR x.results.length d.cR,.slice d.pB x.blocks.length d.cB,Iv (fi:Int),Iv y.regs,.slice b.pP y.params.length b.cP,.slice b.pC y.code.length b.cC,Iv y.fin.op,Iv y.fin.a,Iv y.fin.yes.block,.slice b.e.pYR y.fin.yes.regs.length b.e.cYR,.slice b.e.pYA y.fin.yes.args.length b.e.cYA,Iv y.fin.no.block,.slice b.e.pNR y.fin.no.regs.length b.e.cNR,.slice b.e.pNA y.fin.no.args.length b.e.cNA,.slice b.e.pA y.fin.args.length b.e.cA,Iv (bi:Int)] 194)=D at l i |-;generalize u:w.heap.size=X at i |-;have L:=Qk u;clear u;have M:=Qa i.out 1 _ Z;have I:=Qa i.out 2 _ Z;have H:=Qa i.out 6 _ Z;have K:=Qa i.out 7 _ Z;by_cases j:y.regs=x.regs
 ·have z:(y.regs==x.regs)=true:=by simpa using j
  have G:=Qk j;clear j;go_wp2_with fail
  refine(C.out D l.out).mono ?_
  rintro N J ⟨⟨q,rfl,s⟩,t⟩;have F:=Qk (l.out.trans (t.mono l.out.size));have E:Hid (Qam (y.takes x)=q):=(Qf3 (s.trans ⟨fun h=>⟨G.out,h⟩,fun h=>h.2⟩)).symm;clear t C s;go_wp2
  go_ret;exact⟨by rw[E.out];rfl,F.out⟩
 ·have z:(y.regs==x.regs)=false:=by simpa using j
  have E:=Qk (QA (A:=y.takes x) (fun h=>j h.1));clear j C;go_wp2
  go_ret;exact⟨by rw[E.out];rfl,l.out⟩
theorem Qef {m:List (MFunc n)}{x:MFunc n}{f:FP}{y:MBlock n}{b:BP}(C:FIn w All x f) (A:x.small) (s:BIn w All y b) (q:y.small) :
 Rd prog 180 #[.agg (bkA m p c x f fi y b bi)] w (Iv (y.code' x bi)):=by
 have t:=Qk (ZO w (.cells (bkA m p c x f fi y b bi) 194));have i:=Qk (Blk.new w (bkA m p c x f fi y b bi) 194);have z:Hid (∀ k,Below w.heap.size w k->Calls prog 178 #[.slice b.pP y.params.length b.cP,Iv y.regs] k fun e M=>e=.returned (Iv (listC y.regs y.params))/\Below k.heap.size k M):=fun k J=>QaP (Ya s.params J) q.2.1;have g:Hid (∀ k,Below w.heap.size w k->Calls prog 226 #[.agg #[.slice p m.length c,Iv x.regs,.slice f.pP x.params.length f.cP,.slice f.pR x.results.length f.cR,.slice f.pB x.blocks.length f.cB,Iv (fi:Int),Iv y.regs,.slice b.pP y.params.length b.cP,.slice b.pC y.code.length b.cC,Iv y.fin.op,Iv y.fin.a,Iv y.fin.yes.block,.slice b.e.pYR y.fin.yes.regs.length b.e.cYR,.slice b.e.pYA y.fin.yes.args.length b.e.cYA,Iv y.fin.no.block,.slice b.e.pNR y.fin.no.regs.length b.e.cNR,.slice b.e.pNA y.fin.no.args.length b.e.cNA,.slice b.e.pA y.fin.args.length b.e.cA,Iv (bi:Int)]] k fun e M=>e=.returned (.bool (Qam (y.takes x)))/\Below k.heap.size k M):=fun k J=>Qjd (C.below J) A (s.below J) q;have W:=q.1;have d:Hid (y.code' x bi=if y.regs<x.regs\/16<y.regs then 1 else if listC y.regs y.params≠0 then listC y.regs y.params else if bi=0/\(y.regs≠x.regs\/Qdy y.params x.params=false) then 9 else if 40<y.code.length then 2 else 0):=rfl;generalize y.code' x bi=V at d |-;generalize listC y.regs y.params=R at d z;clear C A s q;unfold Rd;go_enter func180,ntmps180
 go_upto_region 1 with fail
 generalize w.alloc (.cells #[.slice p m.length c,Iv x.regs,.slice f.pP x.params.length f.cP,.slice f.pR x.results.length f.cR,.slice f.pB x.blocks.length f.cB,Iv (fi:Int),Iv y.regs,.slice b.pP y.params.length b.cP,.slice b.pC y.code.length b.cC,Iv y.fin.op,Iv y.fin.a,Iv y.fin.yes.block,.slice b.e.pYR y.fin.yes.regs.length b.e.cYR,.slice b.e.pYA y.fin.yes.args.length b.e.cYA,Iv y.fin.no.block,.slice b.e.pNR y.fin.no.regs.length b.e.cNR,.slice b.e.pNA y.fin.no.args.length b.e.cNA,.slice b.e.pA y.fin.args.length b.e.cA,Iv (bi:Int)] 194)=w1 at t i |-;generalize T:w.heap.size=X at i |-;have HX:=Qk T;clear T;have x1:=Qa i.out 1 _ Z;have U:=Qa i.out 6 _ Z;have x7:=Qa i.out 7 _ Z;have u:=Qa i.out 8 _ Z;have G:=Qa i.out 18 _ Z;by_cases F:y.regs<x.regs\/16<y.regs
 ·have E:=Qk (d.out.trans (Xs F));by_cases H:y.regs<x.regs
  ·have Q:decide (y.regs<x.regs)=true:=Xt H;clear H F d z g;go_wp2
   go_ret;exact⟨by rw[E.out];rfl,t.out⟩
  ·have Q:decide (y.regs<x.regs)=false:=Xu H;have d2:decide (y.regs>16)=true:=Xt (by omega);clear H F d z g;go_wp2
   go_ret;exact⟨by rw[E.out];rfl,t.out⟩
 replace d:=Qk (d.out.trans (Xr F));have Q:decide (y.regs<x.regs)=false:=Xu (by omega);have d2:decide (y.regs>16)=false:=Xu (by omega);clear F;go_wp2_with fail
 refine(z.out w1 t.out).mono ?_
 rintro O S ⟨rfl,L⟩;have j:=Qk (t.out.trans (L.mono t.out.size));replace i:=Qk (i.out.below L);have K:=Qk (Blk.range (c:=(bkA m p c x f fi y b bi).toList) i.out);clear L z x1 U x7 u G;have u:=Qa i.out 8 _ Z;have G:=Qa i.out 18 _ Z;by_cases D:R=0
 rotate_left
 ·have E:=Qk (d.out.trans (Xs D));have d3:(R != 0)=true:=bne_iff_ne.2 D;clear D d g;go_wp2
  go_ret;exact⟨by rw[E.out];rfl,j.out⟩
 replace d:=Qk (d.out.trans (Xr (fun h=>h D)));subst D;by_cases r:bi=0/\¬ y.takes x
 ·have E:=Qk (d.out.trans (Xs ⟨r.1,Qkp r.2⟩));have g:=Qk (g.out S j.out);rw[QA r.2] at g
  have v:=r.1;subst v;clear r d;go_wp2_with (refine ZX Z 194 (.tmp 1) Z X 0 Z (bkA m p c x f fi y b 0).toList _ K.out underlying194 Z bkSize ?_)
  refine g.out.mono ?_;rintro O P ⟨rfl,l⟩;have B:=Qk (j.out.trans (l.mono j.out.size));clear l g;go_wp2
  go_ret;exact⟨by rw[E.out];rfl,B.out⟩
 replace d:=Qk (d.out.trans (Xr (fun h=>r ⟨h.1,fun I=>QhO I h.2⟩)));by_cases v:bi=0
 ·subst v;have I:y.takes x:=Classical.byContradiction (fun h=>r ⟨Z,h⟩);have g:=Qk (g.out S j.out);rw[QG I] at g
  clear r I;by_cases o:40<y.code.length
  ·have N:decide ((y.code.length:Int)>40)=true:=Xt (by omega);have E:=Qk (d.out.trans (Xs o));clear o d;go_wp2_with (refine ZX Z 194 (.tmp 1) Z X 0 Z (bkA m p c x f fi y b 0).toList _ K.out underlying194 Z bkSize ?_)
   refine g.out.mono ?_;rintro O P ⟨rfl,l⟩;have B:=Qk (j.out.trans (l.mono j.out.size));have u:=Qo u l;clear l g;go_wp2
   go_ret;exact⟨by rw[E.out];rfl,B.out⟩
  ·have N:decide ((y.code.length:Int)>40)=false:=Xu (by omega);have E:=Qk (d.out.trans (Xr o));clear o d;go_wp2_with (refine ZX Z 194 (.tmp 1) Z X 0 Z (bkA m p c x f fi y b 0).toList _ K.out underlying194 Z bkSize ?_)
   refine g.out.mono ?_;rintro O P ⟨rfl,l⟩;have B:=Qk (j.out.trans (l.mono j.out.size));have u:=Qo u l;clear l g;go_wp2
   go_ret;exact⟨by rw[E.out];rfl,B.out⟩
 ·have d5:((bi:Int)==0)=false:=by simpa using v
  clear r v g;by_cases o:40<y.code.length
  ·have N:decide ((y.code.length:Int)>40)=true:=Xt (by omega);have E:=Qk (d.out.trans (Xs o));clear o d;go_wp2
   go_ret;exact⟨by rw[E.out];rfl,j.out⟩
  ·have N:decide ((y.code.length:Int)>40)=false:=Xu (by omega);have E:=Qk (d.out.trans (Xr o));clear o d;go_wp2
   go_ret;exact⟨by rw[E.out];rfl,j.out⟩
theorem XG:type_of% @Nat.not_lt_zero:=@Nat.not_lt_zero
theorem FbS.start0 (w:World):FbS w (w.alloc (.cells #[Iv 0,Iv 0] 32)) w.heap.size []:=⟨ZO w _,Ze,Blk.new _ _ _,fun i b a=>by simp at a⟩
theorem Qjv {l:List Qv}{Bc:Nat}(G:Nat->Qv->Int × Int) (J:insL.list.In w All l [.slice p l.length c]) (aa:l.length<=100000)
 (y:∀ (i:Nat) x (z:IP) wx,l[i]?=some x->IIn wx All x z->Below w.heap.size w wx->Rd prog 183 #[Iv (i:Int),.agg #[Iv x.op,Iv x.a,Iv x.b,Iv x.c,Iv x.k,Iv x.n,.slice z.pR x.regs.length z.cR,.slice z.pA x.args.length z.cA],Pv Bc 0] wx (QT (G i x))) :
 Rd prog 182 #[.slice p l.length c,.func (.func 183) #[] #[Pv Bc 0]] w (QT (firstF G 0 l)):=by
 have HL:=Qk J;have HC:=Qk y;have S:=Qk (FbS.start0 w);have hE:∀ (args:Array Value) (w:World),(callFunc 183 args).run prog w=.ok (.enter 183 args) w:=fun _ _=>by kernel_rfl
 clear J y;unfold Rd;go_enter func182,ntmps182
 go_upto_region 1 with fail
 generalize w.alloc (.cells #[Iv 0,Iv 0] 32)=w1 at S |-;generalize w.heap.size=R at S |-;go_wp2_with fail
 go_loopw [10] (fun i wr=>∃ q:Nat,q<=l.length/\i=Iv q/\FbS w wr R []/\∀ (j:Nat) x,j<q->l[j]?=some x->(G j x).1=0) (fun i _=>l.length - (intOf i).toNat)
 case atStart=>exact⟨0,Xb _,Yz,S.out,fun j z C=>absurd C (XG _)⟩
 case round =>
  obtain⟨q,hq,rfl,hs,A⟩:=hrel
  have e:=Qk hs;have B:=Qk A;clear hs A S;obtain⟨L,O⟩:∃ L,L=wr:=⟨_,Yz⟩
  subst O;by_cases W:q<l.length
  rotate_left
  ·have H:¬ (q:Int)<l.length:=by omega
   have E:firstF G 0 l=(0,0):=QaD fun j x C=>by rw[XK];exact B.out j x (by have:=(Zi C).1;omega) C
   obtain⟨r0,r1,z0,z1⟩:=e.out.cells
   have D:=Qk (e.out.fin 0 0);go_wp2_with fail
   generalize World.setCell _ _ _=Q at D |-;exact Xy (v:=.agg #[Iv 0,Iv 0]) (by simp[results,results182,go_sem,Qa D.out.1 0 _ Yz,Qa D.out.1 1 _ Yz]) Yz ⟨by first | rfl | rw[E],D.out.2⟩
  have H:(q:Int)<l.length:=by omega
  have K:l[q]?=some l[q]:=Zg W;generalize l[q]=x at K;have T:=Qk K;obtain⟨g,o,z,rfl,h,I3⟩:=Qh1 HL.out K
  have HI:=Qk I3;have v0:=Qo (show w.cell? ⟨g,o+q*8,none⟩=_ from h 0 _ Yz) e.out.bel;have v1:=Qo (show w.cell? ⟨g,o+q*8+1,none⟩=_ from h 1 _ Yz) e.out.bel;have v2:=Qo (show w.cell? ⟨g,o+q*8+2,none⟩=_ from h 2 _ Yz) e.out.bel;have v3:=Qo (show w.cell? ⟨g,o+q*8+3,none⟩=_ from h 3 _ Yz) e.out.bel;have v4:=Qo (show w.cell? ⟨g,o+q*8+4,none⟩=_ from h 4 _ Yz) e.out.bel;have v5:=Qo (show w.cell? ⟨g,o+q*8+5,none⟩=_ from h 5 _ Yz) e.out.bel;have v6:=Qo (show w.cell? ⟨g,o+q*8+6,none⟩=_ from h 6 _ Yz) e.out.bel;have v7:=Qo (show w.cell? ⟨g,o+q*8+7,none⟩=_ from h 7 _ Yz) e.out.bel;have d:=Qk (e.out.new #[Iv x.op,Iv x.a,Iv x.b,Iv x.c,Iv x.k,Iv x.n,.slice z.pR x.regs.length z.cR,.slice z.pA x.args.length z.cA] 78);clear K h I3;go_upto_region 4 with fail
  generalize L.alloc (.cells #[Iv x.op,Iv x.a,Iv x.b,Iv x.c,Iv x.k,Iv x.n,.slice z.pR x.regs.length z.cR,.slice z.pA x.args.length z.cA] 78)=w3 at d |-;generalize L.heap.size=Z at d |-;clear e v0 v1 v2 v3 v4 v5 v6 v7;have t0:=Qa (d.out.box 0 _ Yz) 0 _ Yz;have t1:=Qa (d.out.box 0 _ Yz) 1 _ Yz;have t2:=Qa (d.out.box 0 _ Yz) 2 _ Yz;have t3:=Qa (d.out.box 0 _ Yz) 3 _ Yz;have t4:=Qa (d.out.box 0 _ Yz) 4 _ Yz;have t5:=Qa (d.out.box 0 _ Yz) 5 _ Yz;have t6:=Qa (d.out.box 0 _ Yz) 6 _ Yz;have t7:=Qa (d.out.box 0 _ Yz) 7 _ Yz;have U:=Qk (HC.out q x z w3 T.out (HI.out.below d.out.bel) d.out.bel);unfold Rd at U;obtain⟨s,F,P⟩:∃ s F,G q x=(s,F):=⟨_,_,Yz⟩
  rw[P] at U
  have M:=Qk P;clear P;go_wp2_with fail
  refine U.out.mono ?_;rintro _ w8 ⟨rfl,b8⟩;have t:=Qk ((d.out.below b8).new #[Iv s,Iv F] 32);clear b8 d;simp only[QT]
  go_upto_region 5 with fail
  generalize w8.alloc (.cells #[Iv s,Iv F] 32)=w9 at t |-;generalize w8.heap.size=F8 at t |-;have f0:=Qa (t.out.box 0 _ Yz) 0 _ Yz;have f1:=Qa (t.out.box 0 _ Yz) 1 _ Yz;have V:Hid (FbS w w9 R []):=⟨t.out.bel,t.out.ge,t.out.r,fun i b hb=>by simp at hb⟩;clear t;by_cases m:s=0
  ·subst m;go_wp2
   go_roundw
   case rel =>
    refine⟨q+1,by omega,by go_num,V.out,fun j u C I=>?_⟩
    by_cases N:j<q
    ·exact B.out j u N I
    ·have:j=q:=by omega
     subst this;rw[T.out] at I
     cases I
     rw[M.out]
   case measure=>simp[intOf];omega
  ·have d9:(s != 0)=true:=by simpa using m
   have E:firstF G 0 l=(s,F):=by
    have X:=QbC (f:=G) (j:=0) T.out (fun j u C I=>by rw[XK];exact B.out j u C I) (by rw[XK,M.out];exact m);rw[XK,M.out] at X
    exact X
   clear m;obtain⟨r0,r1,z0,z1⟩:=V.out.cells
   have D:=Qk (V.out.fin s F);go_wp2_with fail
   generalize World.setCell _ _ _=Q at D |-;exact Xy (v:=.agg #[Iv s,Iv F]) (by simp[results,results182,go_sem,Qa D.out.1 0 _ Yz,Qa D.out.1 1 _ Yz]) Yz ⟨by first | rfl | rw[E],D.out.2⟩
theorem QfH {l:List (MBlock n)}{Bc:Nat}(G:Nat->(MBlock n)->Int × Int) (P:(Zq n).list.In w All l [.slice p l.length c]) (ac:l.length<=100000)
 (y:∀ (i:Nat) x (z:BP) wx,l[i]?=some x->BIn wx All x z->Below w.heap.size w wx->Rd prog 120 #[Iv (i:Int),.agg #[Iv x.regs,.slice z.pP x.params.length z.cP,.slice z.pC x.code.length z.cC,Iv x.fin.op,Iv x.fin.a,Iv x.fin.yes.block,.slice z.e.pYR x.fin.yes.regs.length z.e.cYR,.slice z.e.pYA x.fin.yes.args.length z.e.cYA,Iv x.fin.no.block,.slice z.e.pNR x.fin.no.regs.length z.e.cNR,.slice z.e.pNA x.fin.no.args.length z.e.cNA,.slice z.e.pA x.fin.args.length z.e.cA],Pv Bc 0] wx (QT (G i x))) :
 Rd prog 119 #[.slice p l.length c,.func (.func 120) #[] #[Pv Bc 0]] w (QT (firstF G 0 l)):=by
 have HL:=Qk P;have HC:=Qk y;have S:=Qk (FbS.start0 w);have hE:∀ (args:Array Value) (w:World),(callFunc 120 args).run prog w=.ok (.enter 120 args) w:=fun _ _=>by kernel_rfl
 clear P y;unfold Rd;go_enter func119,ntmps119
 go_upto_region 1 with fail
 generalize w.alloc (.cells #[Iv 0,Iv 0] 32)=w1 at S |-;generalize w.heap.size=R at S |-;go_wp2_with fail
 go_loopw [10] (fun i wr=>∃ q:Nat,q<=l.length/\i=Iv q/\FbS w wr R []/\∀ (j:Nat) x,j<q->l[j]?=some x->(G j x).1=0) (fun i _=>l.length - (intOf i).toNat)
 case atStart=>exact⟨0,Xb _,Yz,S.out,fun j z h=>absurd h (XG _)⟩
 case round =>
  obtain⟨q,hq,rfl,hs,A⟩:=hrel
  have O:=Qk hs;have F:=Qk A;clear hs A S;obtain⟨B,W⟩:∃ B,B=wr:=⟨_,Yz⟩
  subst W;by_cases ab:q<l.length
  rotate_left
  ·have M:¬ (q:Int)<l.length:=by omega
   have E:firstF G 0 l=(0,0):=QaD fun j x h=>by rw[XK];exact F.out j x (by have:=(Zi h).1;omega) h
   obtain⟨r0,r1,z0,z1⟩:=O.out.cells
   have D:=Qk (O.out.fin 0 0);go_wp2_with fail
   generalize World.setCell _ _ _=aa at D |-;exact Xy (v:=.agg #[Iv 0,Iv 0]) (by simp[results,results119,go_sem,Qa D.out.1 0 _ Yz,Qa D.out.1 1 _ Yz]) Yz ⟨by first | rfl | rw[E],D.out.2⟩
  have M:(q:Int)<l.length:=by omega
  have Q:l[q]?=some l[q]:=Zg ab;generalize l[q]=x at Q;have HX:=Qk Q;obtain⟨g,o,z,rfl,T,I3⟩:=Qcz HL.out Q
  have HI:=Qk I3;generalize k:([Iv x.regs,.slice z.pP x.params.length z.cP,.slice z.pC x.code.length z.cC,Iv x.fin.op,Iv x.fin.a,Iv x.fin.yes.block,.slice z.e.pYR x.fin.yes.regs.length z.e.cYR,.slice z.e.pYA x.fin.yes.args.length z.e.cYA,Iv x.fin.no.block,.slice z.e.pNR x.fin.no.regs.length z.e.cNR,.slice z.e.pNA x.fin.no.args.length z.e.cNA,.slice z.e.pA x.fin.args.length z.e.cA]:List Value)=d at T;have hl:d.length=12:=by rw[<-k];rfl
  have I:=Qk (Qm6.of B hl);have TO:Hid (d.toArray.all (·.oneCell')=true):=by show _=_;rw[<-k];exact all_oneCell_toArray (Xe.1 Yz)
  have RG:Hid (B.rangeAt g (o+q*12) d):=fun j v h=>Qo (T j v h) O.out.bel;clear Q T I3 hl;go_upto_region 4 with (first | (refine wpList_load_mid Yz 86 (.tmp 13) Yz g (o+q*12) Yz d _ RG.out underlying86 Yz I.out.size ?_) | (refine wpList_store_mid Yz 86 (.tmp 6) (.tmp 14) Yz B.heap.size 0 d.toArray Yz Yz I.out.there I.out.size2 TO.out ?_))
  have C:=Qk ((O.out.below I.out.bel).add I.out.blk);have TS:=Qk I.out.size;clear O RG TO I;generalize (B.alloc (.cells #[Iv 0,Nv,Nv,Iv 0,Iv 0,Iv 0,Nv,Nv,Iv 0,Nv,Nv,Nv] 86)).setCells B.heap.size 0 d=J at C |-;generalize B.heap.size=Z at C |-;have RZ:Hid (J.rangeAt Z 0 d):=Blk.range (C.out.box 0 _ Yz);have CC:=Qk (HC.out q x z J HX.out (HI.out.below C.out.bel) C.out.bel);unfold Rd at CC;have K:Hid (([Iv x.regs,.slice z.pP x.params.length z.cP,.slice z.pC x.code.length z.cC,Iv x.fin.op,Iv x.fin.a,Iv x.fin.yes.block,.slice z.e.pYR x.fin.yes.regs.length z.e.cYR,.slice z.e.pYA x.fin.yes.args.length z.e.cYA,Iv x.fin.no.block,.slice z.e.pNR x.fin.no.regs.length z.e.cNR,.slice z.e.pNA x.fin.no.args.length z.e.cNA,.slice z.e.pA x.fin.args.length z.e.cA]:List Value)=d):=k;have L:Hid (Calls prog 120 #[Iv (q:Int),.agg d.toArray,Pv Bc 0] J fun e w'=>e=.returned (QT (G q x))/\Below J.heap.size J w'):=by rw[<-K.out];exact CC.out
  clear CC K k;obtain⟨s,H,X⟩:∃ s H,G q x=(s,H):=⟨_,_,Yz⟩
  rw[X] at L
  have U:=Qk X;clear X;go_wp2_with (refine wpList_load_mid Yz 86 (.tmp 6) Yz Z 0 Yz d _ RZ.out underlying86 Yz TS.out ?_)
  refine L.out.mono ?_;rintro _ w8 ⟨rfl,b8⟩;have t:=Qk ((C.out.below b8).new #[Iv s,Iv H] 32);clear b8 C;simp only[QT]
  go_upto_region 5 with fail
  generalize w8.alloc (.cells #[Iv s,Iv H] 32)=w9 at t |-;generalize w8.heap.size=F8 at t |-;have f0:=Qa (t.out.box 0 _ Yz) 0 _ Yz;have f1:=Qa (t.out.box 0 _ Yz) 1 _ Yz;have S8:Hid (FbS w w9 R []):=⟨t.out.bel,t.out.ge,t.out.r,fun i b hb=>by simp at hb⟩;clear t;by_cases m:s=0
  ·subst m;go_wp2
   go_roundw
   case rel =>
    refine⟨q+1,by omega,by go_num,S8.out,fun j u h N=>?_⟩
    by_cases V:j<q
    ·exact F.out j u V N
    ·have:j=q:=by omega
     subst this;rw[HX.out] at N
     cases N
     rw[U.out]
   case measure=>simp[intOf];omega
  ·have d9:(s != 0)=true:=by simpa using m
   have E:firstF G 0 l=(s,H):=by
    have hF:=QbC (f:=G) (j:=0) HX.out (fun j u h N=>by rw[XK];exact F.out j u h N) (by rw[XK,U.out];exact m);rw[XK,U.out] at hF
    exact hF
   clear m;obtain⟨r0,r1,z0,z1⟩:=S8.out.cells
   have D:=Qk (S8.out.fin s H);go_wp2_with fail
   generalize World.setCell _ _ _=aa at D |-;exact Xy (v:=.agg #[Iv s,Iv H]) (by simp[results,results119,go_sem,Qa D.out.1 0 _ Yz,Qa D.out.1 1 _ Yz]) Yz ⟨by first | rfl | rw[E],D.out.2⟩
theorem Qho {l:List (MFunc n)}{Bc:Nat}(G:Nat->(MFunc n)->Int × Int) (H:(ZZ n).In w All l [.slice p l.length c]) (aa:l.length<=100000)
 (k:∀ (i:Nat) x (z:FP) wx,l[i]?=some x->FIn wx All x z->Below w.heap.size w wx->Rd prog 74 #[Iv (i:Int),.agg #[Iv x.regs,.slice z.pP x.params.length z.cP,.slice z.pR x.results.length z.cR,.slice z.pB x.blocks.length z.cB],Pv Bc 0] wx (QT (G i x))) :
 Rd prog 73 #[.slice p l.length c,.func (.func 74) #[] #[Pv Bc 0]] w (QT (firstF G 0 l)):=by
 have HL:=Qk H;have HC:=Qk k;have S:=Qk (FbS.start0 w);have hE:∀ (args:Array Value) (w:World),(callFunc 74 args).run prog w=.ok (.enter 74 args) w:=fun _ _=>by kernel_rfl
 clear H k;unfold Rd;go_enter func73,ntmps73
 go_upto_region 1 with fail
 generalize w.alloc (.cells #[Iv 0,Iv 0] 32)=w1 at S |-;generalize w.heap.size=R at S |-;go_wp2_with fail
 go_loopw [10] (fun i wr=>∃ q:Nat,q<=l.length/\i=Iv q/\FbS w wr R []/\∀ (j:Nat) x,j<q->l[j]?=some x->(G j x).1=0) (fun i _=>l.length - (intOf i).toNat)
 case atStart=>exact⟨0,Xb _,Yz,S.out,fun j z y=>absurd y (XG _)⟩
 case round =>
  obtain⟨q,hq,rfl,W,m⟩:=hrel
  have s:=Qk W;have t:=Qk m;clear W m S;obtain⟨J,M⟩:∃ J,J=wr:=⟨_,Yz⟩
  subst M;by_cases U:q<l.length
  rotate_left
  ·have C:¬ (q:Int)<l.length:=by omega
   have E:firstF G 0 l=(0,0):=QaD fun j x y=>by rw[XK];exact t.out j x (by have:=(Zi y).1;omega) y
   obtain⟨r0,r1,z0,z1⟩:=s.out.cells
   have D:=Qk (s.out.fin 0 0);go_wp2_with fail
   generalize World.setCell _ _ _=O at D |-;exact Xy (v:=.agg #[Iv 0,Iv 0]) (by simp[results,results73,go_sem,Qa D.out.1 0 _ Yz,Qa D.out.1 1 _ Yz]) Yz ⟨by first | rfl | rw[E],D.out.2⟩
  have C:(q:Int)<l.length:=by omega
  have I:l[q]?=some l[q]:=Zg U;generalize l[q]=x at I;have P:=Qk I;obtain⟨g,o,z,rfl,B,I3⟩:=Qdj HL.out I
  have HI:=Qk I3;have v0:=Qo (show w.cell? ⟨g,o+q*4,none⟩=_ from B 0 _ Yz) s.out.bel;have v1:=Qo (show w.cell? ⟨g,o+q*4+1,none⟩=_ from B 1 _ Yz) s.out.bel;have v2:=Qo (show w.cell? ⟨g,o+q*4+2,none⟩=_ from B 2 _ Yz) s.out.bel;have v3:=Qo (show w.cell? ⟨g,o+q*4+3,none⟩=_ from B 3 _ Yz) s.out.bel;have a:=Qk (s.out.new #[Iv x.regs,.slice z.pP x.params.length z.cP,.slice z.pR x.results.length z.cR,.slice z.pB x.blocks.length z.cB] 89);clear I B I3;go_upto_region 4 with fail
  generalize J.alloc (.cells #[Iv x.regs,.slice z.pP x.params.length z.cP,.slice z.pR x.results.length z.cR,.slice z.pB x.blocks.length z.cB] 89)=w3 at a |-;generalize J.heap.size=Z at a |-;clear s v0 v1 v2 v3;have t0:=Qa (a.out.box 0 _ Yz) 0 _ Yz;have t1:=Qa (a.out.box 0 _ Yz) 1 _ Yz;have t2:=Qa (a.out.box 0 _ Yz) 2 _ Yz;have t3:=Qa (a.out.box 0 _ Yz) 3 _ Yz;have Q:=Qk (HC.out q x z w3 P.out (HI.out.below a.out.bel) a.out.bel);unfold Rd at Q;obtain⟨e,A,N⟩:∃ e A,G q x=(e,A):=⟨_,_,Yz⟩
  rw[N] at Q
  have K:=Qk N;clear N;go_wp2_with fail
  refine Q.out.mono ?_;rintro _ w8 ⟨rfl,X⟩;have h:=Qk ((a.out.below X).new #[Iv e,Iv A] 32);clear X a;simp only[QT]
  go_upto_region 5 with fail
  generalize w8.alloc (.cells #[Iv e,Iv A] 32)=w9 at h |-;generalize w8.heap.size=F8 at h |-;have f0:=Qa (h.out.box 0 _ Yz) 0 _ Yz;have f1:=Qa (h.out.box 0 _ Yz) 1 _ Yz;have T:Hid (FbS w w9 R []):=⟨h.out.bel,h.out.ge,h.out.r,fun i b hb=>by simp at hb⟩;clear h;by_cases d:e=0
  ·subst d;go_wp2
   go_roundw
   case rel =>
    refine⟨q+1,by omega,by go_num,T.out,fun j u y F=>?_⟩
    by_cases L:j<q
    ·exact t.out j u L F
    ·have:j=q:=by omega
     subst this;rw[P.out] at F
     cases F
     rw[K.out]
   case measure=>simp[intOf];omega
  ·have d9:(e != 0)=true:=by simpa using d
   have E:firstF G 0 l=(e,A):=by
    have V:=QbC (f:=G) (j:=0) P.out (fun j u y F=>by rw[XK];exact t.out j u y F) (by rw[XK,K.out];exact d);rw[XK,K.out] at V
    exact V
   clear d;obtain⟨r0,r1,z0,z1⟩:=T.out.cells
   have D:=Qk (T.out.fin e A);go_wp2_with fail
   generalize World.setCell _ _ _=O at D |-;exact Xy (v:=.agg #[Iv e,Iv A]) (by simp[results,results73,go_sem,Qa D.out.1 0 _ Yz,Qa D.out.1 1 _ Yz]) Yz ⟨by first | rfl | rw[E],D.out.2⟩
abbrev iA (z:Qv) (zi:IP):Array Value:=#[Iv z.op,Iv z.a,Iv z.b,Iv z.c,Iv z.k,Iv z.n,.slice zi.pR z.regs.length zi.cR,.slice zi.pA z.args.length zi.cA]
abbrev fA {n:Nat}(x:MFunc n) (fp:FP):Array Value:=#[Iv x.regs,.slice fp.pP x.params.length fp.cP,.slice fp.pR x.results.length fp.cR,.slice fp.pB x.blocks.length fp.cB]
abbrev eA {n:Nat}(y:MBlock n) (bp:BP):Array Value:=#[Iv y.fin.op,Iv y.fin.a,Iv y.fin.yes.block,.slice bp.e.pYR y.fin.yes.regs.length bp.e.cYR,.slice bp.e.pYA y.fin.yes.args.length bp.e.cYA,Iv y.fin.no.block,.slice bp.e.pNR y.fin.no.regs.length bp.e.cNR,.slice bp.e.pNA y.fin.no.args.length bp.e.cNA,.slice bp.e.pA y.fin.args.length bp.e.cA]
abbrev bA {n:Nat}(y:MBlock n) (bp:BP):Array Value:=#[Iv y.regs,.slice bp.pP y.params.length bp.cP,.slice bp.pC y.code.length bp.cC,Iv y.fin.op,Iv y.fin.a,Iv y.fin.yes.block,.slice bp.e.pYR y.fin.yes.regs.length bp.e.cYR,.slice bp.e.pYA y.fin.yes.args.length bp.e.cYA,Iv y.fin.no.block,.slice bp.e.pNR y.fin.no.regs.length bp.e.cNR,.slice bp.e.pNA y.fin.no.args.length bp.e.cNA,.slice bp.e.pA y.fin.args.length bp.e.cA]
abbrev lA {n:Nat}(m:List (MFunc n)) (p:Option Addr) (c:Nat) (x:MFunc n) (fp:FP) (fi:Nat):Array Value:=#[.slice p m.length c,Iv x.regs,.slice fp.pP x.params.length fp.cP,.slice fp.pR x.results.length fp.cR,.slice fp.pB x.blocks.length fp.cB,Iv (fi:Int)]
theorem bkSizeE:(prog.info? 84).map (·.size)=some 9:=by kernel_rfl
def Qod (w6:World) (Bc X q N c fi bi:Nat) (p:Option Addr) (z:Qv) (zi:IP) (vf vp v0 v1:Int) (t:Tmp) (v:Value) (w:World):Prop :=
 v=(([(2,Pv Bc 0),(4,Pv X 0),(0,Iv (q:Int)),(6,Pv Bc 0),(7,Pv Bc 0),(8,.agg #[.slice p N c]),(9,.agg (iA z zi)),(10,Iv vf),(11,Pv Bc 0),(12,Pv Bc 5),(13,Iv (fi:Int)),(14,Pv Bc 18),(15,Iv (bi:Int)),(16,Iv (q:Int)),(17,Iv vp),(18,.agg #[Iv v0,Iv v1])]:List (Tmp × Value)).lookup t).getD undef
theorem kd1 {Bc:Nat}{z:Qv}{o:IP}{u s r l:Int}(M:w6.cell? ⟨Bc,0,none⟩=some (.slice p N c)) (J:w6.cell? ⟨Bc,5,none⟩=some (Iv (fi:Int))) (y:w6.cell? ⟨Bc,18,none⟩=some (Iv (bi:Int))) (f:Hid (Blk w6 X (iA z o) 78)) (F:Hid (∀ w,Below w6.heap.size w6 w->Calls prog 184 #[.agg #[.slice p N c],.agg (iA z o)] w fun e w'=>e=.returned (Iv u)/\Below w.heap.size w w')) (L:Hid (∀ w,Below w6.heap.size w6 w->Calls prog 130 #[Iv (fi:Int),Iv (bi:Int),Iv (q:Int)] w fun e w'=>e=.returned (Iv s)/\Below w.heap.size w w')) (C:Hid (∀ w,Below w6.heap.size w6 w->Calls prog 117 #[Iv u,Iv s] w fun e w'=>e=.returned (.agg #[Iv r,Iv l])/\Below w.heap.size w w')){Q:Exit->Act->World->Prop}
 (a:Act) (m:Nat) (hn:a.tmps.size=m) (x:19<=m) (H:a.tmps.getD 2 undef=Pv Bc 0) (E:a.tmps.getD 4 undef=Pv X 0) (D:a.tmps.getD 0 undef=Iv (q:Int))
 (hend:∀ ops vs w',vs 18=.agg #[Iv r,Iv l]->Below w6.heap.size w6 w'->wpList prog ops Q (QaR 13 ((Tryz.f183.body.bind (Qg 1)).getD .skip)) (QI a vs [6,7,8,9,10,11,12,13,14,15,16,17,18]) w') :
 Code.wp prog ((Tryz.f183.body.bind (Qg 1)).getD .skip) Q a w6:=by
 conv=>arg 2;whnf
 refine Qm 13 (Qod w6 Bc X q N c fi bi p z o u s r l) (fun w=>Below w6.heap.size w6 w) (fun w w'=>Below w.heap.size w w') (outs:=[2,4,0]) (gs:=[]) (bs:=[true,true,true,true,true,true,true,true,true,true,true,true,true]) (by kernel_rfl) (n:=19) hn x (by kernel_rfl) (by kernel_rfl) ?hR ?hG (Qs Zr 1) ⟨H,E,D,Y⟩ ?hA ?hend
 case hR=>exact fun t v w w' _ h=>h
 case hG=>exact Y
 case hend=>exact fun ops vs w' b i=>hend ops vs w' (i 18 (by kernel_rfl)) b
 case hA =>
  repeat
   refine⟨fun a w b i K k=>?_,?_⟩
   focus first
    | obtain⟨g,-⟩:=i
      conv at g=>whnf;rhs;whnf
      have O:=Qo M b;have P:=Qo (Qa f.out 0 _ Z) b;have S:=Qo (Qa f.out 1 _ Z) b;have T:=Qo (Qa f.out 2 _ Z) b;have c4:=Qo (Qa f.out 3 _ Z) b;have V:=Qo (Qa f.out 4 _ Z) b;have R:=Qo (Qa f.out 5 _ Z) b;have U:=Qo (Qa f.out 6 _ Z) b;have c8:=Qo (Qa f.out 7 _ Z) b;have W:=Qo J b;have G:=Qo y b;go_simp;exact k _ _ Zr b Z
    | obtain⟨g,j,-⟩:=i
      conv at g=>whnf;rhs;whnf
      conv at j=>whnf;rhs;whnf
      go_simp;refine Xm (F.out w b) ?_;rintro B A ⟨rfl,d⟩;go_simp;exact k _ _ d (b.trans (d.mono b.size)) Z
    | obtain⟨g,j,-⟩:=i
      conv at g=>whnf;rhs;whnf
      conv at j=>whnf;rhs;whnf
      go_simp;refine Xm (C.out w b) ?_;rintro B A ⟨rfl,d⟩;go_simp;exact k _ _ d (b.trans (d.mono b.size)) Z
    | obtain⟨g,j,I,-⟩:=i
      conv at g=>whnf;rhs;whnf
      conv at j=>whnf;rhs;whnf
      conv at I=>whnf;rhs;whnf
      go_simp;refine Xm (L.out w b) ?_;rintro B A ⟨rfl,d⟩;go_simp;exact k _ _ d (b.trans (d.mono b.size)) Z
  trivial
def Qou {n:Nat}(w6:World) (X fi bi:Nat) (x:MFunc n) (fp:FP) (y:MBlock n) (bp:BP) (vf vp v0 v1:Int) (t:Tmp) (v:Value) (w:World):Prop :=
 v=(([(1,Pv X 0),(26,Pv X 0),(27,Pv X 1),(28,.agg (fA x fp)),(29,Pv X 6),(30,Pv X 9),(31,.agg (eA y bp)),(32,Iv vf),(33,Pv X 0),(34,Pv X 5),(35,Iv (fi:Int)),(36,Pv X 18),(37,Iv (bi:Int)),(38,Iv vp),(39,.agg #[Iv v0,Iv v1])]:List (Tmp × Value)).lookup t).getD undef
theorem kd7 {m:List (MFunc n)}{x:MFunc n}{q:FP}{y:MBlock n}{o:BP}{A u s r:Int}(i:Hid (Blk w6 X (bkA m p c x q fi y o bi) 194)) (z:Hid (w6.rangeAt X 9 (eA y o).toList)) (G:Hid (∀ w,Below w6.heap.size w6 w->Calls prog 185 #[.agg (fA x q),.agg (eA y o)] w fun e w'=>e=.returned (Iv A)/\Below w.heap.size w w')) (I:Hid (∀ w,Below w6.heap.size w6 w->Calls prog 131 #[Iv (fi:Int),Iv (bi:Int)] w fun e w'=>e=.returned (Iv u)/\Below w.heap.size w w')) (F:Hid (∀ w,Below w6.heap.size w6 w->Calls prog 117 #[Iv A,Iv u] w fun e w'=>e=.returned (.agg #[Iv s,Iv r])/\Below w.heap.size w w')){Q:Exit->Act->World->Prop}
 (a:Act) (m:Nat) (hn:a.tmps.size=m) (B:40<=m) (H:a.tmps.getD 1 undef=Pv X 0)
 (hend:∀ ops vs w',vs 39=.agg #[Iv s,Iv r]->Below w6.heap.size w6 w'->wpList prog ops Q (QaR 14 ((Tryz.f121.body.bind (Qg 7)).getD .skip)) (QI a vs [26,27,28,29,30,31,32,33,34,35,36,37,38,39]) w') :
 Code.wp prog ((Tryz.f121.body.bind (Qg 7)).getD .skip) Q a w6:=by
 conv=>arg 2;whnf
 refine Qm 14 (Qou w6 X fi bi x q y o A u s r) (fun w=>Below w6.heap.size w6 w) (fun w w'=>Below w.heap.size w w') (outs:=[1]) (gs:=[]) (bs:=[true,true,true,true,true,true,true,true,true,true,true,true,true,true]) (by kernel_rfl) (n:=40) hn B (by kernel_rfl) (by kernel_rfl) ?hR ?hG (Qs Zr 1) ⟨H,Y⟩ ?hA ?hend
 case hR=>exact fun t v w w' _ h=>h
 case hG=>exact Y
 case hend=>exact fun ops vs w' b g=>hend ops vs w' (g 39 (by kernel_rfl)) b
 case hA =>
  repeat
   refine⟨fun a w b g K l=>?_,?_⟩
   focus first
    | obtain⟨d,-⟩:=g
      conv at d=>whnf;rhs;whnf
      have J:=Qo (Qa i.out 1 _ Z) b;have L:=Qo (Qa i.out 2 _ Z) b;have M:=Qo (Qa i.out 3 _ Z) b;have N:=Qo (Qa i.out 4 _ Z) b;have P:=Qo (Qa i.out 5 _ Z) b;have O:=Qo (Qa i.out 18 _ Z) b;go_simp;exact l _ _ Zr b Z
    | obtain⟨d,-⟩:=g
      conv at d=>whnf;rhs;whnf
      exact wp_load_mid 84 (.tmp 30) Z X 9 d (eA y o).toList _ (fun j v E=>Qo (z.out j v E) b) underlying84 Z bkSizeE (l _ _ Zr b Z)
    | obtain⟨d,k,-⟩:=g
      conv at d=>whnf;rhs;whnf
      conv at k=>whnf;rhs;whnf
      go_simp;refine Xm (G.out w b) ?_;rintro D C ⟨rfl,f⟩;go_simp;exact l _ _ f (b.trans (f.mono b.size)) Z
    | obtain⟨d,k,-⟩:=g
      conv at d=>whnf;rhs;whnf
      conv at k=>whnf;rhs;whnf
      go_simp;refine Xm (I.out w b) ?_;rintro D C ⟨rfl,f⟩;go_simp;exact l _ _ f (b.trans (f.mono b.size)) Z
    | obtain⟨d,k,-⟩:=g
      conv at d=>whnf;rhs;whnf
      conv at k=>whnf;rhs;whnf
      go_simp;refine Xm (F.out w b) ?_;rintro D C ⟨rfl,f⟩;go_simp;exact l _ _ f (b.trans (f.mono b.size)) Z
  trivial
theorem Qio {m:List (MFunc n)}{x:MFunc n}{B:FP}{y:MBlock n}{I:BP}{Bc:Nat}{z:Qv}{h:IP}(A:q<1000000) (K:m.length<=100000) (s:fi<1000000) (r:bi<1000000) (d:Blk w Bc (bkA m p c x B fi y I bi) 194) :
 Rd prog 183 #[Iv (q:Int),.agg (iA z h),Pv Bc 0] w (QT (atF (z.form m.length) (10000*(fi:Int)+100*(bi:Int)+(q:Int)))):=by
 have f:=((Bxs.start w).new (iA z h) 78).new #[Iv 0,Iv 0] 32;rw[World.size_alloc] at f
 have f:=Qk f;have F:=Qk d;have D:Hid (∀ b:World,Calls prog 184 #[.agg #[.slice p m.length c],.agg (iA z h)] b fun e i=>e=.returned (Iv (z.form m.length))/\Below b.heap.size b i):=fun b=>QgV m.length z h p c b (by omega);have H:Hid (∀ b:World,Calls prog 130 #[Iv (fi:Int),Iv (bi:Int),Iv (q:Int)] b fun e i=>e=.returned (Iv (10000*(fi:Int)+100*(bi:Int)+(q:Int)))/\Below b.heap.size b i):=fun b=>QdU ⟨s,r,A⟩;have u:Hid (∀ b:World,Calls prog 117 #[Iv (z.form m.length),Iv (10000*(fi:Int)+100*(bi:Int)+(q:Int))] b fun e i=>e=.returned (.agg #[Iv (atF (z.form m.length) (10000*(fi:Int)+100*(bi:Int)+(q:Int))).1,Iv (atF (z.form m.length) (10000*(fi:Int)+100*(bi:Int)+(q:Int))).2])/\Below b.heap.size b i):=fun b=>Qbp;generalize C:atF (z.form m.length) (10000*(fi:Int)+100*(bi:Int)+(q:Int))=v at u |-;clear d C;unfold Rd;go_enter func183,ntmps183
 go_upto_region 1 with fail
 generalize (w.alloc (.cells (iA z h) 78)).alloc (.cells #[Iv 0,Iv 0] 32)=M at f |-;generalize w.heap.size+1=R at f |-;generalize w.heap.size=X at f |-;have g:=Qk (F.out.below f.out.bel);refine kd1 (Qa g.out 0 _ Z) (Qa g.out 5 _ Z) (Qa g.out 18 _ Z) (f.out.at (a:=[_])) (fun b _=>D.out b) (fun b _=>H.out b) (fun b _=>u.out b) _ _ Z (Xg (by kernel_rfl)) Z Z Z ?_;rintro l E G k t;have j:=Qk (f.out.below t);clear t f g;show wpList _ l _ [_] (QI _ E [6,7,8,9,10,11,12,13,14,15,16,17,18]) G;simp only[QI,Act.put,List.setIfInBounds_toArray,List.set_cons_zero,List.set_cons_succ,k]
 have O:=j.out.cell (a:=[]) 0 _ Z;have J:=j.out.cell (a:=[]) 1 _ Z;have L:=j.out.free (a:=[]) 0;have N:=j.out.free (a:=[]) 1;have o:=Qk ((j.out.set (a:=[]) 0 (Iv (v.1))).set (a:=[]) 1 (Iv (v.2)));go_wp2
 exact Xy (v:=QT v) (by simp[results,results183,go_sem,o.out.cell (a:=[]) 0 _ Z,o.out.cell (a:=[]) 1 _ Z]) Z ⟨Z,o.out.bel⟩
theorem QcL {m:List (MFunc n)}{x:MFunc n}{t:FP}{y:MBlock n}{o:BP}(G:FIn w All x t) (A:x.small) (H:BIn w All y o) (q:y.small) (hm:m.length<=100000) (C:fi<1000000) (u:bi<1000000) :
 Rd prog 121 #[.agg (bkA m p c x t fi y o bi)] w (QT (MBlock.fault m.length fi x bi y)):=by
 have r:=((Bxs.start w).new (bkA m p c x t fi y o bi) 194).new #[Iv 0,Iv 0] 32;rw[World.size_alloc] at r
 have r:=Qk r;have HB:=Qk (Xh hm (Xh C u));have I:=Qk (Xh G (Xh A (Xh H q)));have g:=Qk (MBlock.fault_eq m.length fi x bi y);have EI:=Qe8 (f:=fun i z=>(Qv.form m.length z,(10000*(fi:Int)+100*(bi:Int)+(i:Int)))) (l:=y.code) (j:=0);dsimp only at EI
 have CC:Hid (∀ b,Below w.heap.size w b->Calls prog 180 #[.agg (bkA m p c x t fi y o bi)] b fun e B=>e=.returned (Iv (y.code' x bi))/\Below b.heap.size b B):=fun b bx=>Qef (G.below bx) A (H.below bx) q;have CF:Hid (∀ (Q U:Int) (b:World),Calls prog 117 #[Iv Q,Iv U] b fun e B=>e=.returned (.agg #[Iv (atF Q U).1,Iv (atF Q U).2])/\Below b.heap.size b B):=fun Q U b=>Qbp;have CB:Hid (∀ b:World,Calls prog 181 #[Iv (fi:Int),Iv (bi:Int)] b fun e B=>e=.returned (Iv (10000*(fi:Int)+100*(bi:Int)+90))/\Below b.heap.size b B):=fun b=>Qfm ⟨C,u⟩;have CA:Hid (∀ b:World,Calls prog 131 #[Iv (fi:Int),Iv (bi:Int)] b fun e B=>e=.returned (Iv (10000*(fi:Int)+100*(bi:Int)+91))/\Below b.heap.size b B):=fun b=>QdK ⟨C,u⟩;have CE:Hid (∀ b:World,Calls prog 185 #[.agg (fA x t),.agg (eA y o)] b fun e B=>e=.returned (Iv (y.fin.form x.blocks.length))/\Below b.heap.size b B):=fun b=>Qgq (by obtain⟨a1,a2⟩:=q.2.2.1.1;obtain⟨a3,a4⟩:=q.2.2.1.2.1;exact⟨by omega,by omega,by omega,by omega⟩) (by have:=A.1;omega);rw[<-EI] at g
 have g:=Qk g.out;generalize MBlock.fault m.length fi x bi y=V at g |-;generalize y.code' x bi=v at g CC;clear G A H q hm C u EI;unfold Rd;go_enter func121,ntmps121
 go_upto_region 1 with fail
 generalize (w.alloc (.cells (bkA m p c x t fi y o bi) 194)).alloc (.cells #[Iv 0,Iv 0] 32)=w1 at r |-;generalize w.heap.size+1=R at r |-;generalize w.heap.size=X at r |-;have RG:=Qk (Blk.range (c:=(bkA m p c x t fi y o bi).toList) (r.out.at (a:=[_])));go_wp2_with (refine ZX Z 194 (.tmp 1) Z X 0 Z (bkA m p c x t fi y o bi).toList _ RG.out underlying194 Z bkSize ?_)
 refine(CC.out w1 r.out.bel).mono ?_
 rintro e' M ⟨rfl,b2⟩;have s:=Qk (r.out.below b2);clear b2 RG r CC;have x5:M.cell? ⟨X,5,none⟩=some (Iv (fi:Int)):=s.out.cell (a:=[_]) 5 _ Z;have x8:M.cell? ⟨X,8,none⟩=some (.slice o.pC y.code.length o.cC):=s.out.cell (a:=[_]) 8 _ Z;have P:M.cell? ⟨X,18,none⟩=some (Iv (bi:Int)):=s.out.cell (a:=[_]) 18 _ Z;by_cases J:v=0
 rotate_left
 ·have E:=Qk (g.out.trans (Xr J));have dv:(v != 0)=true:=bne_iff_ne.2 J;have HV:=Qk J;clear J g CE CA;go_wp2_with fail
  refine(CB.out M).mono ?_
  rintro e' S ⟨rfl,L⟩;have d:=Qk (s.out.below L);clear L s x5 x8 P;go_wp2_with fail
  refine(CF.out v (10000*(fi:Int)+100*(bi:Int)+90) S).mono ?_
  rintro e' W ⟨rfl,b4⟩;have N:=Qk (d.out.below b4);clear b4 d;have EA:Hid (atF v (10000*(fi:Int)+100*(bi:Int)+90)=V):=(Xr HV.out).trans E.out.symm;rw[EA.out]
  have r0:=N.out.cell (a:=[]) 0 _ Z;have r1:=N.out.cell (a:=[]) 1 _ Z;have z0:=N.out.free (a:=[]) 0;have z1:=N.out.free (a:=[]) 1;have k:=Qk ((N.out.set (a:=[]) 0 (Iv (V.1))).set (a:=[]) 1 (Iv (V.2)));go_wp2
  exact Xy (v:=QT V) (by simp[results,results121,go_sem,k.out.cell (a:=[]) 0 _ Z,k.out.cell (a:=[]) 1 _ Z]) Z ⟨Z,k.out.bel⟩
 replace g:=Qk (g.out.trans (Xs J));subst J;have T:=Qk (Qjv (w:=M) (Bc:=X) (fun i z=>atF (Qv.form m.length z) (10000*(fi:Int)+100*(bi:Int)+(i:Int))) (Ya I.out.2.2.1.code s.out.bel) (by have:=I.out.2.2.2.1;omega) (fun i z zi b hz hi hb=>Qio (y:=y) (by have h8:=I.out.2.2.2.1;have h9:=(Zi hz).1;omega) HB.out.1 HB.out.2.1 HB.out.2.2 ((s.out.at (a:=[_])).below hb)));unfold Rd at T;generalize firstF (fun i z=>atF (Qv.form m.length z) (10000*(fi:Int)+100*(bi:Int)+(i:Int))) 0 y.code=h at g T;go_wp2_with fail
 refine T.out.mono ?_;rintro e' S ⟨rfl,L⟩;have d:=Qk ((s.out.below L).new #[Iv h.1,Iv h.2] 32);clear L s x5 x8 P T;go_upto_region 5 with fail
 generalize S.alloc (.cells #[Iv h.1,Iv h.2] 32)=W at d |-;generalize S.heap.size=F at d |-;have y0:W.cell? ⟨F,0,none⟩=some (Iv h.1):=d.out.cell (a:=[]) 0 _ Z;have y1:W.cell? ⟨F,1,none⟩=some (Iv h.2):=d.out.cell (a:=[]) 1 _ Z;by_cases K:h.1=0
 rotate_left
 ·have E:=Qk (g.out.trans (Xr K));have df:(h.1 != 0)=true:=bne_iff_ne.2 K;clear K g;have r0:=d.out.cell (a:=[_]) 0 _ Z;have r1:=d.out.cell (a:=[_]) 1 _ Z;have z0:=d.out.free (a:=[_]) 0;have z1:=d.out.free (a:=[_]) 1;have k:=Qk ((d.out.set (a:=[_]) 0 (Iv (h.1))).set (a:=[_]) 1 (Iv (h.2)));go_wp2
  exact Xy (v:=QT h) (by simp[results,results121,go_sem,k.out.cell (a:=[_]) 0 _ Z,k.out.cell (a:=[_]) 1 _ Z]) Z ⟨by rw[E.out],k.out.bel⟩
 have E:=Qk (g.out.trans (Xs K));have df:(h.1 != 0)=false:=by simpa using K
 clear K g;go_upto_region 7 with fail
 clear y0 y1;have HX:=Qk (d.out.at (a:=[_,_]));refine kd7 HX (fun j v hj=>by have h8:=(Blk.range (c:=(bkA m p c x t fi y o bi).toList) HX.out) (9+j) v (by rcases j with _ | _ | _ | _ | _ | _ | _ | _ | _ | j<;>first | exact hj | simp at hj);rwa [XK] at h8) (fun b _=>CE.out b) (fun b _=>CA.out b) (fun b _=>CF.out _ _ b) _ _ Z (Xg (by kernel_rfl)) Z ?_;rintro aa vs w5 D b5;have O:=Qk (d.out.below b5);clear b5 d HX;rw[<-E.out] at D
 show wpList _ aa _ [_] (QI _ vs [26,27,28,29,30,31,32,33,34,35,36,37,38,39]) w5;simp only[QI,Act.put,List.setIfInBounds_toArray,List.set_cons_zero,List.set_cons_succ,D]
 have r0:=O.out.cell (a:=[_]) 0 _ Z;have r1:=O.out.cell (a:=[_]) 1 _ Z;have z0:=O.out.free (a:=[_]) 0;have z1:=O.out.free (a:=[_]) 1;have k:=Qk ((O.out.set (a:=[_]) 0 (Iv (V.1))).set (a:=[_]) 1 (Iv (V.2)));go_wp2
 exact Xy (v:=QT V) (by simp[results,results121,go_sem,k.out.cell (a:=[_]) 0 _ Z,k.out.cell (a:=[_]) 1 _ Z]) Z ⟨Z,k.out.bel⟩
theorem QiS {m:List (MFunc n)}{x:MFunc n}{h:FP}{y:MBlock n}{f:BP}(l:FIn w All x h) (k:x.small) (q:BIn w All y f) (r:y.small){Bc:Nat}(u:m.length<=100000) (o:fi<1000000) (j:bi<1000000) (d:Blk w Bc (lA m p c x h fi) 139) :
 Rd prog 120 #[Iv (bi:Int),.agg (bA y f),Pv Bc 0] w (QT (MBlock.fault m.length fi x bi y)):=by
 have b:=((Bxs.start w).new (bA y f) 86).new #[Iv 0,Iv 0] 32;rw[World.size_alloc] at b
 have b:=Qk b;have F:=Qk d;have t:Hid (∀ i,Below w.heap.size w i->Calls prog 121 #[.agg (bkA m p c x h fi y f bi)] i fun e D=>e=.returned (QT (MBlock.fault m.length fi x bi y))/\Below i.heap.size i D):=fun i C=>QcL (l.below C) k (q.below C) r u o j;generalize MBlock.fault m.length fi x bi y=V at t |-;clear l k q r u o j d;unfold Rd;go_enter func120,ntmps120
 go_upto_region 1 with fail
 generalize (w.alloc (.cells (bA y f) 86)).alloc (.cells #[Iv 0,Iv 0] 32)=E at b |-;generalize w.heap.size+1=R at b |-;generalize w.heap.size=X at b |-;have z:=Qk (Blk.range (c:=(bA y f).toList) (b.out.at (a:=[_])));have A:=Qk (Blk.range (c:=(lA m p c x h fi).toList) (F.out.below b.out.bel));go_wp2_with (first | refine ZX Z 139 (.tmp 2) Z Bc 0 Z (lA m p c x h fi).toList _ A.out underlying139 Z (by kernel_rfl) ?_ | refine ZX Z 86 (.tmp 4) Z X 0 Z (bA y f).toList _ z.out underlying86 Z pSizeB ?_)
 refine(t.out E b.out.bel).mono ?_
 rintro L I ⟨rfl,B⟩;have g:=Qk (b.out.below B);clear B z A b t;have K:=g.out.cell (a:=[]) 0 _ Z;have G:=g.out.cell (a:=[]) 1 _ Z;have H:=g.out.free (a:=[]) 0;have J:=g.out.free (a:=[]) 1;have s:=Qk ((g.out.set (a:=[]) 0 (Iv (V.1))).set (a:=[]) 1 (Iv (V.2)));go_wp2
 exact Xy (v:=QT V) (by simp[results,results120,go_sem,s.out.cell (a:=[]) 0 _ Z,s.out.cell (a:=[]) 1 _ Z]) Z ⟨Z,s.out.bel⟩
theorem Qdm {m:List (MFunc n)}{x:MFunc n}{j:FP}(q:FIn w All x j) (o:x.small) (I:m.length<=100000) (r:fi<1000000) :
 Rd prog 75 #[.agg (lA m p c x j fi)] w (QT (MFunc.fault m.length fi x)):=by
 have h:=((Bxs.start w).new (lA m p c x j fi) 139).new #[Iv 0,Iv 0] 32;rw[World.size_alloc] at h
 have h:=Qk h;have M:=Qk (Xh I r);have f:=Qk (Xh q o);have s:=Qk (MFunc.fault_eq m.length fi x);have G:Hid (∀ d,Below w.heap.size w d->Calls prog 116 #[.agg (lA m p c x j fi)] d fun e A=>e=.returned (Iv (x.code fi))/\Below d.heap.size d A):=fun d bx=>Qe5 (q.below bx) o;have U:Hid (∀ (B F:Int) (d:World),Calls prog 117 #[Iv B,Iv F] d fun e A=>e=.returned (.agg #[Iv (atF B F).1,Iv (atF B F).2])/\Below d.heap.size d A):=fun B F d=>Qbp;have CA:Hid (∀ d:World,Calls prog 118 #[Iv (fi:Int)] d fun e A=>e=.returned (Iv (10000*(fi:Int)+9999))/\Below d.heap.size d A):=fun d=>Qgk r;generalize MFunc.fault m.length fi x=V at s |-;generalize x.code fi=v at s G;clear q o I r;unfold Rd;go_enter func75,ntmps75
 go_upto_region 1 with fail
 generalize (w.alloc (.cells (lA m p c x j fi) 139)).alloc (.cells #[Iv 0,Iv 0] 32)=w1 at h |-;generalize w.heap.size+1=R at h |-;generalize w.heap.size=X at h |-;have J:=Qk (Blk.range (c:=(lA m p c x j fi).toList) (h.out.at (a:=[_])));go_wp2_with (refine ZX Z 139 (.tmp 1) Z X 0 Z (lA m p c x j fi).toList _ J.out underlying139 Z (by kernel_rfl) ?_)
 refine(G.out w1 h.out.bel).mono ?_
 rintro H D ⟨rfl,N⟩;have g:=Qk (h.out.below N);clear N J h G;have O:D.cell? ⟨X,4,none⟩=some (.slice j.pB x.blocks.length j.cB):=g.out.cell (a:=[_]) 4 _ Z;have P:D.cell? ⟨X,5,none⟩=some (Iv (fi:Int)):=g.out.cell (a:=[_]) 5 _ Z;by_cases t:v=0
 rotate_left
 ·have E:=Qk (s.out.trans (Xr t));have dv:(v != 0)=true:=bne_iff_ne.2 t;have HV:=Qk t;clear t s;go_wp2_with fail
  refine(CA.out D).mono ?_
  rintro H K ⟨rfl,u⟩;have k:=Qk (g.out.below u);clear u g O P;go_wp2_with fail
  refine(U.out v (10000*(fi:Int)+9999) K).mono ?_
  rintro H w4 ⟨rfl,S⟩;have z:=Qk (k.out.below S);clear S k;have EA:Hid (atF v (10000*(fi:Int)+9999)=V):=(Xr HV.out).trans E.out.symm;rw[EA.out]
  have r0:=z.out.cell (a:=[]) 0 _ Z;have T:=z.out.cell (a:=[]) 1 _ Z;have W:=z.out.free (a:=[]) 0;have z1:=z.out.free (a:=[]) 1;have l:=Qk ((z.out.set (a:=[]) 0 (Iv (V.1))).set (a:=[]) 1 (Iv (V.2)));go_wp2
  exact Xy (v:=QT V) (by simp[results,results75,go_sem,l.out.cell (a:=[]) 0 _ Z,l.out.cell (a:=[]) 1 _ Z]) Z ⟨Z,l.out.bel⟩
 replace s:=Qk (s.out.trans (Xs t));subst t;have C:=Qk (QfH (w:=D) (Bc:=X) (fun b y=>MBlock.fault m.length fi x b y) (Ya f.out.1.blocks g.out.bel) (by have:=f.out.2.1;omega) (fun i y bp d Q hi L=>QiS (f.out.1.below (g.out.bel.trans (L.mono g.out.bel.size))) f.out.2 hi (f.out.2.2.2.2 y (Zm Q)) M.out.1 M.out.2 (by have h8:=f.out.2.1;have h9:=(Zi Q).1;omega) ((g.out.at (a:=[_])).below L)));unfold Rd at C;rw[<-s.out] at C
 go_wp2_with fail
 refine C.out.mono ?_;rintro H K ⟨rfl,u⟩;have k:=Qk (g.out.below u);clear u g O P C;have r0:=k.out.cell (a:=[]) 0 _ Z;have T:=k.out.cell (a:=[]) 1 _ Z;have W:=k.out.free (a:=[]) 0;have z1:=k.out.free (a:=[]) 1;have l:=Qk ((k.out.set (a:=[]) 0 (Iv (V.1))).set (a:=[]) 1 (Iv (V.2)));go_wp2
 exact Xy (v:=QT V) (by simp[results,results75,go_sem,l.out.cell (a:=[]) 0 _ Z,l.out.cell (a:=[]) 1 _ Z]) Z ⟨Z,l.out.bel⟩
theorem QhP {m:List (MFunc n)}{x:MFunc n}{f:FP}(j:FIn w All x f) (i:x.small){Bc:Nat}(q:m.length<=100000) (k:fi<1000000) (d:Blk w Bc #[.slice p m.length c] 24) :
 Rd prog 74 #[Iv (fi:Int),.agg (fA x f),Pv Bc 0] w (QT (MFunc.fault m.length fi x)):=by
 have b:=((Bxs.start w).new (fA x f) 89).new #[Iv 0,Iv 0] 32;rw[World.size_alloc] at b
 have b:=Qk b;have y:=Qk d;have o:Hid (∀ h,Below w.heap.size w h->Calls prog 75 #[.agg (lA m p c x f fi)] h fun e t=>e=.returned (QT (MFunc.fault m.length fi x))/\Below h.heap.size h t):=fun h A=>Qdm (j.below A) i q k;generalize MFunc.fault m.length fi x=V at o |-;clear j i q k d;unfold Rd;go_enter func74,ntmps74
 go_upto_region 1 with fail
 generalize (w.alloc (.cells (fA x f) 89)).alloc (.cells #[Iv 0,Iv 0] 32)=u at b |-;generalize w.heap.size+1=R at b |-;generalize w.heap.size=X at b |-;have z:=Qa (y.out.below b.out.bel) 0 _ Z;have r:=Qk (Blk.range (c:=(fA x f).toList) (b.out.at (a:=[_])));go_wp2_with (refine ZX Z 89 (.tmp 4) Z X 0 Z (fA x f).toList _ r.out underlying89 Z (by kernel_rfl) ?_)
 refine(o.out u b.out.bel).mono ?_
 rintro G D ⟨rfl,s⟩;have g:=Qk (b.out.below s);clear s r b o z;have F:=g.out.cell (a:=[]) 0 _ Z;have B:=g.out.cell (a:=[]) 1 _ Z;have C:=g.out.free (a:=[]) 0;have E:=g.out.free (a:=[]) 1;have l:=Qk ((g.out.set (a:=[]) 0 (Iv (V.1))).set (a:=[]) 1 (Iv (V.2)));go_wp2
 exact Xy (v:=QT V) (by simp[results,results74,go_sem,l.out.cell (a:=[]) 0 _ Z,l.out.cell (a:=[]) 1 _ Z]) Z ⟨Z,l.out.bel⟩
theorem QdL {m:List (MFunc n)}(k:(ZZ n).In w All m [.slice p m.length c]) (e:QcD m) :
 Rd prog 44 #[.agg #[.slice p m.length c]] w (QT (modFault m)):=by
 have b:=((Bxs.start w).new #[.slice p m.length c] 24).new #[Iv 0,Iv 0] 32;rw[World.size_alloc] at b
 have b:=Qk b;have C:=Qk k;have o:=Qk e;have g:Hid (modFault m=if m.length<1\/8<m.length then (2,-1) else firstF (fun f x=>MFunc.fault m.length f x) 0 m):=rfl;have G:=e.1;generalize modFault m=V at g |-;clear k e;unfold Rd;go_enter func44,ntmps44
 go_upto_region 1 with fail
 generalize (w.alloc (.cells #[.slice p m.length c] 24)).alloc (.cells #[Iv 0,Iv 0] 32)=t at b |-;generalize w.heap.size+1=R at b |-;generalize w.heap.size=X at b |-;have D:t.cell? ⟨X,0,none⟩=some (.slice p m.length c):=b.out.cell (a:=[_]) 0 _ Z;by_cases j:m.length<1\/8<m.length
 ·have E:=Qk (g.out.trans (Xs j));clear g;have I:=b.out.cell (a:=[]) 0 _ Z;have y:=b.out.cell (a:=[]) 1 _ Z;have A:=b.out.free (a:=[]) 0;have H:=b.out.free (a:=[]) 1;by_cases s:m.length<1
  ·have r:decide ((m.length:Int)<1)=true:=Xt (by omega);clear s j;have d:=Qk ((b.out.set (a:=[]) 0 (Iv (2))).set (a:=[]) 1 (Iv (-1)));go_wp2
   exact Xy (v:=QT V) (by simp[results,results44,go_sem,d.out.cell (a:=[]) 0 _ Z,d.out.cell (a:=[]) 1 _ Z,E.out]) Z ⟨Z,d.out.bel⟩
  ·have r:decide ((m.length:Int)<1)=false:=Xu (by omega);have B:decide ((m.length:Int)>8)=true:=Xt (by omega);clear s j;have d:=Qk ((b.out.set (a:=[]) 0 (Iv (2))).set (a:=[]) 1 (Iv (-1)));go_wp2
   exact Xy (v:=QT V) (by simp[results,results44,go_sem,d.out.cell (a:=[]) 0 _ Z,d.out.cell (a:=[]) 1 _ Z,E.out]) Z ⟨Z,d.out.bel⟩
 replace g:=Qk (g.out.trans (Xr j));have r:decide ((m.length:Int)<1)=false:=Xu (by omega);have B:decide ((m.length:Int)>8)=false:=Xu (by omega);clear j;have l:=Qk (Qho (w:=t) (Bc:=X) (fun f x=>MFunc.fault m.length f x) (Ya C.out b.out.bel) (by omega) (fun i x K L u F z=>QhP F (o.out.2 x (Zm u)) o.out.1 (by have N:=o.out.1;have J:=(Zi u).1;omega) ((b.out.at (a:=[_])).below z)));unfold Rd at l;rw[<-g.out] at l
 go_wp2_with fail
 refine l.out.mono ?_;rintro O M ⟨rfl,q⟩;have h:=Qk (b.out.below q);clear q b D l;have I:=h.out.cell (a:=[]) 0 _ Z;have y:=h.out.cell (a:=[]) 1 _ Z;have A:=h.out.free (a:=[]) 0;have H:=h.out.free (a:=[]) 1;have d:=Qk ((h.out.set (a:=[]) 0 (Iv (V.1))).set (a:=[]) 1 (Iv (V.2)));go_wp2
 exact Xy (v:=QT V) (by simp[results,results44,go_sem,d.out.cell (a:=[]) 0 _ Z,d.out.cell (a:=[]) 1 _ Z]) Z ⟨Z,d.out.bel⟩
def N43 (lo pages most:Nat) (m:List (MFunc 6)) (inp:List Int) (v:Value) (s:World × Tg):Prop:=∃ b g,v=Pv b 0/\MAt s.1 b most m (IM.start inp pages) 0 0 g/\∀ x,g.A x->lo<=x
def B42 (lo pages most:Nat) (m:List (MFunc 6)) (inp:List Int) (v:Value) (s:World × Tg):Prop:=∃ bm pm cm pi ci vc,v=.agg #[Pv (bm+1) 0,.slice pm m.length cm,.slice pi inp.length ci,Iv (most:Int),vc,Iv 0,Nv,Nv,Iv 0,.bool false,Iv 0,Iv 0]/\H33 lo pages (Pv (bm+1) 0) s/\M35 lo m (.agg #[.slice pm m.length cm]) s/\I37 lo inp (.slice pi inp.length ci) s/\C41 lo vc s
theorem Qj0 {Y:Nat}(h:Blk w Y #[Iv 0,Iv 0] 32):Below w.heap.size w ((w.setCell ⟨Y,0,none⟩ (Iv 0)).setCell ⟨Y,1,none⟩ (Iv 0)):=by
 have b:=((Below.refl 0 w).setCell (p:=⟨Y,0,none⟩) (Xb _) (Iv 0)).setCell (p:=⟨Y,1,none⟩) (Xb _) (Iv 0);refine⟨b.os,b.tape,b.output,b.size,fun k a=>?_⟩
 by_cases e:k=Y
 ·subst e;exact(Zz h (Iv 0) (Iv 0)).trans h.symm
 ·rw[Xd _ _ _ _ e,Xd _ _ _ _ e]
theorem N43.keep {lo:Nat}{m:List (MFunc 6)}{s a:World × Tg}(h:N43 lo pages most m inp v s) (r:RT s a):N43 lo pages most m inp v a:=by
 obtain⟨b,g,c,d,e⟩:=h
 exact⟨b,g,c,d.below r.1,e⟩
theorem B42.keep {lo:Nat}{m:List (MFunc 6)}{s a:World × Tg}(h:B42 lo pages most m inp v s) (r:RT s a):B42 lo pages most m inp v a:=by
 obtain⟨g,b,c,f,d,l,k,e,n,i,j⟩:=h
 exact⟨g,b,c,f,d,l,k,e.keep r,n.keep r,i.keep r,j.keep r⟩
def nwE (lo pages most X Y ci cm:Nat) (m:List (MFunc 6)) (inp:List Int) (pm pi:Option Addr) (t:Tmp) (v:Value) (s:World × Tg):Prop :=
 match ([(33,H33 lo pages),(35,M35 lo m),(37,I37 lo inp),(40,F40 lo),(41,C41 lo),(42,B42 lo pages most m inp),(43,N43 lo pages most m inp),(8,N43 lo pages most m inp)]:List (Tmp × (Value->World × Tg->Prop))).lookup t with
 | some p=>p v s
 | none=>v=(([(3,.int .i64 (pages:Int)),(4,.pointer (some ⟨X,0,none⟩)),(1,.slice pi inp.length ci),(2,.int .i64 (most:Int)),(9,.pointer (some ⟨Y,0,none⟩)),(32,.int .i64 (pages:Int)),(34,.agg #[.slice pm m.length cm]),(36,.slice pi inp.length ci),(38,.int .i64 (most:Int)),(39,.agg frm0),(44,.agg #[.int .i64 0,.int .i64 0])]:List (Tmp × Value)).lookup t).getD undef
theorem nw6 {Y:Nat}{m:List (MFunc 6)}(x0:w6.cell? ⟨X,0,none⟩=some (.slice pm m.length cm)) (BY:Hid (Blk w6 Y #[Iv 0,Iv 0] 32)) (N:Hid (∀ x∈inp,Zp x))
 (R:Hid (∀ wx,Below w6.heap.size w6 wx->Calls prog 47 #[.agg #[.slice pm m.length cm]] wx fun e w'=>∃ v,e=.returned v/\(∃ a' c',v=.agg #[.slice a' m.length c']/\(ZZ 6).In w' (Qb1 wx.heap.size) m [.slice a' m.length c'])/\Below wx.heap.size wx w'))
 (O:Hid (∀ wx,Below w6.heap.size w6 wx->Calls prog 48 #[.slice pi inp.length ci] wx fun e w'=>QbO wx inp e w'))
 (a:Act) (n:Nat) (hn:a.tmps.size=n) (U:45<=n) (S:a.tmps.getD 3 undef=Iv (pages:Int)) (h4:a.tmps.getD 4 undef=Pv X 0) (Q:a.tmps.getD 1 undef=.slice pi inp.length ci) (P:a.tmps.getD 2 undef=Iv (most:Int)) (h9:a.tmps.getD 9 undef=Pv Y 0) :
 Code.wp prog ((Tryz.f13.body.bind (Qg 6)).getD .skip) (fun e a' w'=>e=.normal/\∃ vs b g,a'=QI a vs [32,33,34,35,36,37,38,39,40,41,42,43,44,8]/\vs 8=Pv b 0/\MAt w' b most m (IM.start inp pages) 0 0 g/\(∀ x,g.A x->w6.heap.size<=x)/\Below w6.heap.size w6 w') a w6:=by
 conv=>arg 2;whnf
 refine Qc9 (z:=fun _=>0) (nwE w6.heap.size pages most X Y ci cm m inp pm pi) (fun s=>Below w6.heap.size w6 s.1) RT (outs:=[3,4,1,2,9]) (gs:=[]) (bs:=[true,true,true,true,true,true,true,true,true,true,true,true,true,true,true]) (by kernel_rfl) (n:=45) hn U (by kernel_rfl) ?hR ?hG (Qs Zr 1) ⟨S,h4,Q,P,h9,Yy⟩ ?hA ?hend
 case hR =>
  intro t v w w' hr h;unfold nwE at h |-;split at h
  ·rename_i p G
   simp only[List.lookup_cons,List.lookup_nil] at G
   repeat' split at G
   all_goals first | (cases G;exact h.keep hr) | cases G
  ·exact h
 case hG=>exact Yy
 case hend =>
  intro vs w' d i;obtain⟨b,g,e,W,M⟩:N43 w6.heap.size pages most m inp (vs 8) w':=i 8 (by kernel_rfl)
  exact⟨Z,vs,b,g,Z,e,W,M,d⟩
 case hA =>
  refine⟨fun a s d i K j=>?_,?_⟩
  ·obtain⟨w,z⟩:=s
   have d:Below w6.heap.size w6 w:=d;obtain⟨f,-⟩:=i
   have f:a.tmps.getD 3 undef=Iv (pages:Int):=f;go_simp;exact j _ (w,z) (RT.refl _) d Z
  refine⟨fun a s d i K j=>?_,?_⟩
  ·obtain⟨w,z⟩:=s
   have d:Below w6.heap.size w6 w:=d;obtain⟨f,-⟩:=i
   have f:a.tmps.getD 32 undef=Iv (pages:Int):=f;go_simp;refine Xm (Qkk w pages) ?_;rintro r7 F ⟨rfl,J,q⟩;go_simp;exact j _ (F,mk 33 w z) (RT.mk q) (d.trans (q.mono d.size)) ⟨w.heap.size,Z,J,QdF Ze,QdF (Nat.le_succ _),d.size⟩
  refine⟨fun a s d i K j=>?_,?_⟩
  ·obtain⟨w,z⟩:=s
   have d:Below w6.heap.size w6 w:=d;obtain⟨f,-⟩:=i
   have f:a.tmps.getD 4 undef=Pv X 0:=f;have c0:=Qo x0 d;go_simp;exact j _ (w,z) (RT.refl _) d Z
  refine⟨fun a s d i K j=>?_,?_⟩
  ·obtain⟨w,z⟩:=s
   have d:Below w6.heap.size w6 w:=d;obtain⟨f,-⟩:=i
   have f:a.tmps.getD 34 undef=.agg #[.slice pm m.length cm]:=f;go_simp;refine Xm (R.out w d) ?_;rintro r7 F ⟨v,rfl,⟨H,L,rfl,J⟩,q⟩;go_simp;exact j _ (F,mk 35 w z) (RT.mk q) (d.trans (q.mono d.size)) ⟨H,L,Z,(ZZ 6).keep (fun _ _ _=>rfl) (fun k i hl=>⟨hl,QdF i⟩) J⟩
  refine⟨fun a s d i K j=>?_,?_⟩
  ·obtain⟨w,z⟩:=s
   have d:Below w6.heap.size w6 w:=d;obtain⟨f,-⟩:=i
   have f:a.tmps.getD 1 undef=.slice pi inp.length ci:=f;go_simp;exact j _ (w,z) (RT.refl _) d Z
  refine⟨fun a s d i K j=>?_,?_⟩
  ·obtain⟨w,z⟩:=s
   have d:Below w6.heap.size w6 w:=d;obtain⟨f,-⟩:=i
   have f:a.tmps.getD 36 undef=.slice pi inp.length ci:=f;go_simp;refine Xm (O.out w d) ?_;rintro r7 F ⟨H,L,rfl,Q,P,S,q⟩;go_simp;exact j _ (F,mk 37 w z) (RT.mk q) (d.trans (q.mono d.size)) ⟨H,L,Z,Q,P,fun x hx=>QdF (S x hx)⟩
  refine⟨fun a s d i K j=>?_,?_⟩
  ·obtain⟨w,z⟩:=s
   have d:Below w6.heap.size w6 w:=d;obtain⟨f,-⟩:=i
   have f:a.tmps.getD 2 undef=Iv (most:Int):=f;go_simp;exact j _ (w,z) (RT.refl _) d Z
  refine⟨fun a s d i K j=>?_,?_⟩
  ·obtain⟨w,z⟩:=s
   have d:Below w6.heap.size w6 w:=d;go_simp;exact j _ (w,z) (RT.refl _) d Z
  refine⟨fun a s d i K j=>?_,?_⟩
  ·obtain⟨w,z⟩:=s
   have d:Below w6.heap.size w6 w:=d;obtain⟨f,-⟩:=i
   have f:a.tmps.getD 39 undef=.agg frm0:=f;go_simp;exact j _ (_,mk 40 w z) (RT.mk (QW w (.cells frm0 100))) (d.trans ((QW w _).mono d.size)) ⟨w.heap.size,Z,Qf w frm0 100,d.size,QdF Ze⟩
  refine⟨fun a s d i K j=>?_,?_⟩
  ·obtain⟨w,z⟩:=s
   have d:Below w6.heap.size w6 w:=d;obtain⟨f,-⟩:=i
   have f:F40 w6.heap.size (a.tmps.getD 40 undef) (w,z):=f;obtain⟨c,f,hc,T,I⟩:=f
   have g0:a.tmps[40]?.getD undef=_:=(Za ..).symm.trans f;go_simp;exact j _ (_,mk 41 w z) (RT.mk (QW w (.cells #[Pv c 0] 97))) (d.trans ((QW w _).mono d.size)) ⟨c,w.heap.size,Z,Qf w #[Pv c 0] 97,Blk.below hc (QW w _),T,d.size,((RT.mk (s:=41) (z:=z) (QW w (.cells #[Pv c 0] 97))).2 c (XC hc)).trans I,QdF Ze⟩
  refine⟨fun a s d i K j=>?_,?_⟩
  ·obtain⟨w,z⟩:=s
   have d:Below w6.heap.size w6 w:=d;obtain⟨f,l,B,V,C,-⟩:=i
   have f:H33 w6.heap.size pages (a.tmps.getD 33 undef) (w,z):=f;have l:M35 w6.heap.size m (a.tmps.getD 35 undef) (w,z):=l;have B:I37 w6.heap.size inp (a.tmps.getD 37 undef) (w,z):=B;have V:a.tmps.getD 38 undef=Iv (most:Int):=V;have C:C41 w6.heap.size (a.tmps.getD 41 undef) (w,z):=C;have o:=f;have D:=l;have y:=B;obtain⟨bm,f,-⟩:=f
   obtain⟨am,dm,l,-⟩:=l
   obtain⟨ai,di,B,-⟩:=B
   have u:=C;obtain⟨cc,rr,C,-⟩:=C
   rw[f] at o
   rw[l] at D
   rw[B] at y
   rw[C] at u
   have o:=Qc o;have D:=Qc D;have y:=Qc y;have u:=Qc u;have g0:a.tmps[33]?.getD undef=_:=(Za ..).symm.trans f;have g1:a.tmps[35]?.getD undef=_:=(Za ..).symm.trans l;have g2:a.tmps[37]?.getD undef=_:=(Za ..).symm.trans B;have g3:a.tmps[38]?.getD undef=_:=(Za ..).symm.trans V;have g4:a.tmps[41]?.getD undef=_:=(Za ..).symm.trans C;go_simp;exact j _ (w,z) (RT.refl _) d ⟨bm,am,dm,ai,di,_,Z,o.out,D.out,y.out,u.out⟩
  refine⟨fun a s d i K j=>?_,?_⟩
  ·obtain⟨w,z⟩:=s
   have d:Below w6.heap.size w6 w:=d;obtain⟨f,-⟩:=i
   have f:B42 w6.heap.size pages most m inp (a.tmps.getD 42 undef) (w,z):=f;obtain⟨bm,am,dm,ai,di,vc,f,o,D,y,c,r,rfl,q3,u,q5,q6,q7,q8⟩:=f
   have NA:=Qc (QmE (most:=most) d.size o D y N.out q3 u q5 q6 q7 q8);clear o D y q3 u q5 q6 q7 q8;go_simp;obtain⟨g,W,M⟩:=NA.out
   exact j _ (_,mk 43 w z) (RT.mk (QW w _)) (d.trans ((QW w _).mono d.size)) ⟨w.heap.size,g,Z,W,M⟩
  refine⟨fun a s d i K j=>?_,?_⟩
  ·obtain⟨w,z⟩:=s
   have d:Below w6.heap.size w6 w:=d;go_simp;exact j _ (w,z) (RT.refl _) d Z
  refine⟨fun a s d i K j=>?_,?_⟩
  ·obtain⟨w,z⟩:=s
   have d:Below w6.heap.size w6 w:=d;obtain⟨f,-⟩:=i
   have f:N43 w6.heap.size pages most m inp (a.tmps.getD 43 undef) (w,z):=f;have o:=Qc f;obtain⟨b,g,f,-⟩:=f
   rw[f] at o
   go_simp;exact j _ (w,z) (RT.refl _) d o.out
  refine⟨fun a s d i K j=>?_,?_⟩
  ·obtain⟨w,z⟩:=s
   have d:Below w6.heap.size w6 w:=d;obtain⟨f,l,-⟩:=i
   have f:a.tmps.getD 9 undef=Pv Y 0:=f;have l:a.tmps.getD 44 undef=.agg #[Iv 0,Iv 0]:=l;have E:=Blk.below BY.out d;have c0:=Qa E 0 _ Z;have c1:=Qa E 1 _ Z;have d0:=Qe E 0;have d1:=Qe E 1;have HY:=Qc E;have HB:=Qc (Qj0 HY.out);clear E;go_simp;exact j undef (_,z) ⟨HB.out,fun _ _=>rfl⟩ (d.trans (HB.out.mono d.size)) Yy
  trivial
section
theorem QcG (w:World) (n k:Nat):Calls prog 45 #[Iv (n:Int),Iv (k:Int)] w fun e w'=>e=.returned (.bool (decide (n<=k)))/\w'=w:=by
 go_enter func45,ntmps45
 go_wp2
 all_goals refine Xy (v:=.bool (decide (n<=k))) (by simp[results,results45,go_sem]) Z ⟨Z,Z⟩
theorem Qkr {m:List (MFunc 6)}(T:(ZZ 6).In w All m [.slice pm m.length cm]) (I:QcD m) (Q:intsL.In w All inp [.slice pi inp.length ci]) (H:(modFault m).1=0) (h:∀ x∈inp,Zp x) (hi:inp.length<=200) (G:most<=20000) (y:pages<=64) :
 Calls prog 13 #[.agg #[.slice pm m.length cm],.slice pi inp.length ci,Iv (most:Int),Iv (pages:Int)] w fun e w'=>QnT w m inp most pages e w':=by
 have O:=Qc T;have N:=Qc I;have HI:=Qc Q;have z:=Qc h;have HF:=Qc H;have V:=Qc (Xh hi (Xh G y));have n:=Qc (Qak w (.cells #[.slice pm m.length cm] 24) (.cells #[Iv 0,Iv 0] 32))
 have K:Hid (∀ a,Calls prog 45 #[Iv (inp.length:Int),Iv 200] a fun e w'=>e=.returned (.bool true)/\w'=a):=fun a=>by
  have:=QcG a inp.length 200
  rwa [Xt hi] at this
 have R:Hid (∀ a,Calls prog 45 #[Iv (most:Int),Iv 20000] a fun e w'=>e=.returned (.bool true)/\w'=a):=fun a=>by
  have:=QcG a most 20000
  rwa [Xt G] at this
 have J:Hid (∀ a,Calls prog 45 #[Iv (pages:Int),Iv 64] a fun e w'=>e=.returned (.bool true)/\w'=a):=fun a=>by
  have:=QcG a pages 64
  rwa [Xt y] at this
 clear T I Q h H hi G y;go_enter func13,ntmps13
 go_upto_region 1 with fail
 have r:Hid (Blk ((w.alloc (.cells #[.slice pm m.length cm] 24)).alloc (.cells #[Iv 0,Iv 0] 32)) w.heap.size #[.slice pm m.length cm] 24):=QhC w #[.slice pm m.length cm] 24 _;have l:Hid (Blk ((w.alloc (.cells #[.slice pm m.length cm] 24)).alloc (.cells #[Iv 0,Iv 0] 32)) (w.heap.size+1) #[Iv 0,Iv 0] 32):=Qb7 w _ #[Iv 0,Iv 0] 32;generalize (w.alloc (.cells #[.slice pm m.length cm] 24)).alloc (.cells #[Iv 0,Iv 0] 32)=A at n r l |-;generalize w.heap.size+1=Y at l |-;have P:=Qa r.out 0 _ Z;generalize hX:w.heap.size=X at P r |-;have i:=Qc (QdL (Ya O.out n.out) N.out);obtain⟨d,S⟩:∃ d,modFault m=(0,d):=⟨(modFault m).2,Prod.ext HF.out Z⟩
 rw[S] at i
 have i:Hid (Calls prog 44 #[.agg #[.slice pm m.length cm]] A fun e w'=>e=.returned (Z4 0 d)/\Below A.heap.size A w'):=i.out;clear S;go_upto_region 2 with (go_at_call 44;refine i.out.mono ?_;rintro e' p ⟨rfl,u⟩)
 have s:=Qf p #[Iv 0,Iv d] 32;have c:=Qc (u.trans ((QW p (.cells #[Iv 0,Iv d] 32)).mono u.size));clear u i;generalize p.alloc (.cells #[Iv 0,Iv d] 32)=q at s c |-;generalize p.heap.size=F at s |-;have U:=Qa s 0 _ Z;clear s P;go_upto_region 6 with (go_at_call 45;(first | with_reducible refine(K.out _).mono ?_ | with_reducible refine(R.out _).mono ?_ | with_reducible refine(J.out _).mono ?_);rintro e' w' ⟨rfl,t⟩;have t:=t.symm;subst t)
 clear U K R J;have L:=Qo (Qa r.out 0 _ Z) c.out;have f:=Qc (n.out.trans (c.out.mono n.out.size));have D:Hid (∀ a,Below q.heap.size q a->Calls prog 47 #[.agg #[.slice pm m.length cm]] a fun e w'=>∃ v,e=.returned v/\(∃ a' c',v=.agg #[.slice a' m.length c']/\(ZZ 6).In w' (Qb1 a.heap.size) m [.slice a' m.length c'])/\Below a.heap.size a w'):=fun a E=>Qke m pm cm a (Ya (Ya O.out f.out) E) N.out;have B:Hid (∀ a,Below q.heap.size q a->Calls prog 48 #[.slice pi inp.length ci] a fun e w'=>QbO a inp e w'):=fun a E=>QbV (Ya (Ya HI.out f.out) E) (by have:=V.out.1;omega);refine Code.wp_mono ?_ (nw6 L (Qc (Blk.below l.out c.out)) z D B _ _ Z (Xg (by kernel_rfl)) Z Z Z Z Z);rintro _ _ w5 ⟨rfl,vs,b,g,rfl,k,j,M,o⟩;have C:=Qc (Xh j (Xh M o));have y0:=Qo (Qo (Qa l.out 0 _ Z) c.out) o;have W:=Qo (Qo (Qa l.out 1 _ Z) c.out) o;clear j M o L;simp only[QI,Act.put,List.setIfInBounds_toArray,List.set_cons_zero,List.set_cons_succ,k]
 clear k;go_wp2
 exact Xy (v:=.tuple #[Pv b 0,Z4 0 0]) (by simp[results,results13,go_sem,y0,W]) Z ⟨b,g,Z,C.out.1,fun x hx=>Zt f.out.size (C.out.2.1 x hx),f.out.trans (C.out.2.2.mono f.out.size)⟩
end
section
variable {m:List (MFunc 6)}{op:Int->Int->Int->Option Int}{most most':Nat}{M A B N N':IM}{j k:Nat}
theorem QdR (a:IM.steps m op most j M=some A) (e:A.done=true) (b:IM.steps m op most k M=some B) (c:B.done=true):A=B:=by
 rcases Nat.le_total j k with h | h
 ·obtain⟨d,rfl⟩:=Nat.exists_eq_add_of_le h
  have:=Qbd (j:=d) a e
  rw[b] at this
  exact(Xn this).symm
 ·obtain⟨d,rfl⟩:=Nat.exists_eq_add_of_le h
  have:=Qbd (j:=d) b c
  rw[a] at this
  exact Xn this
theorem QcB (b:IM.steps m op most j M=some A) (e:A.done=true) (c:IM.steps m op most k M=some N) (a:N.done=false) (f:IM.step m op most N=none):False:=by
 rcases Nat.lt_or_ge k j with h | h
 ·have g:IM.steps m op most (k+1) M=none:=by rw[Qew c a];exact f
  obtain⟨d,rfl⟩:=Nat.exists_eq_add_of_le (show k+1<=j from h)
  have:=Qbm (j:=d) g
  rw[b] at this
  cases this
 ·obtain⟨d,rfl⟩:=Nat.exists_eq_add_of_le h
  have:=Qbd (j:=d) b e
  rw[c] at this
  rw[Xn this,e] at a
  cases a
theorem Qig (b:IM.steps m op most k M=some N) (e:N.done=false) (f:IM.step m op most N=none) (a:IM.steps m op most j M=some N') (g:N'.done=false) (c:IM.step m op most N'=none):N=N':=by
 have i:∀ {k j:Nat} {N N':IM},IM.steps m op most k M=some N->N.done=false->IM.step m op most N=none->IM.steps m op most j M=some N'->¬ k<j:=fun {k j N N'} b e f a h=>by
  have l:IM.steps m op most (k+1) M=none:=by rw[Qew b e];exact f
  obtain⟨d,rfl⟩:=Nat.exists_eq_add_of_le (show k+1<=j from h)
  have:=Qbm (j:=d) l
  rw[a] at this
  cases this
 have l:=i b e f a;have n:=i a g c b;obtain rfl:k=j:=by omega
 rw[b] at a
 exact Xn a
theorem QgL (inp:List Int){p p':Nat}(h:p<=p'):IM.start inp p'=(IM.start inp p).up (p' - p):=by
 obtain⟨d,rfl⟩:=Nat.exists_eq_add_of_le h
 rw[Nat.add_sub_cancel_left]
 rfl
theorem Qjs {p p':Nat}(b:most<=most') (l:p<=p') (g:IM.steps m op most j (IM.start inp p)=some A) (a:A.done=true) (n:A.fin≠6) (e:A.fin≠7) :
 (∀ N k,IM.steps m op most' k (IM.start inp p')=some N->N.done=false->IM.step m op most' N≠none)/\∀ B k,IM.steps m op most' k (IM.start inp p')=some B->B.done=true->B.fin=A.fin/\B.back=A.back/\B.out=A.out/\B.fuel=A.fuel:=by
 have h:=(Qc1 (k:=p' - p) b j (Xb _) g a Z).1 n e j Ze;rw[<-QgL inp l] at h
 refine⟨fun N k i c d=>QcB h a i c d,fun B k o f=>?_⟩
 rw[<-QdR h a o f]
 exact⟨Z,Z,Z,Z⟩
theorem QiV {p p':Nat}(b:most<=most') (e:p<=p') (d:IM.steps m op most j (IM.start inp p)=some A) (f:A.done=true) (a:A.fin=6\/A.fin=7) :
 ∀ B k,IM.steps m op most' k (IM.start inp p')=some B->B.done=true->A.fuel<=B.fuel/\∃ l,B.out=A.out++l:=fun B k g c=>by
 have h:=(Qc1 (k:=p' - p) b j (Xb _) d f Z).2 a k B;rw[<-QgL inp e] at h
 exact h g c
end
theorem Lay.flat {α:Type}{A:Lay α}{l:List α}(h:A.list.In w O l [.slice (some ⟨g,o,none⟩) n c]) (e:∀ (x:α) (ds:List Value),A.In w O x ds->∀ u∈ds,u.oneCell'=true) :
 ∃ ds:List Value,ds.length=l.length*A.size/\(∀ (j:Nat) (u:Value),ds[j]?=some u->w.cell? ((⟨g,o,none⟩:Addr).add j)=some u)/\(∀ u∈ds,u.oneCell'=true)/\∀ (i:Nat) (x:α),l[i]?=some x->A.In w O x ((ds.drop (i*A.size)).take A.size):=by
 have C:∀ k,k<=l.length->∃ ds:List Value,ds.length=k*A.size/\(∀ (j:Nat) (u:Value),ds[j]?=some u->w.cell? ⟨g,o+j,none⟩=some u)/\(∀ u∈ds,u.oneCell'=true)/\∀ (i:Nat) (x:α),i<k->l[i]?=some x->A.In w O x ((ds.drop (i*A.size)).take A.size):=by
  intro k
  induction k with
  | zero=>exact fun _=>⟨[],by simp,fun j u a=>by simp at a,fun u b=>by simp at b,fun i x I=>by omega⟩
  | succ k ih =>
    intro L;obtain⟨ds,p,z,B,t⟩:=ih (by omega)
    obtain⟨x,f⟩:∃ x,l[k]?=some x:=⟨_,Zg (by omega)⟩
    obtain⟨K,J,r,m,_,_,H,v⟩:=Yf h f
    injection m with m
    injection m with m e2
    subst m;subst e2;have s:=A.len v;refine⟨ds++r,by rw[List.length_append,p,s,Nat.add_mul];omega,fun j u a=>?_,fun u b=>?_,fun i y I d=>?_⟩
    ·rw[List.getElem?_append] at a
     split at a
     ·exact z j u a
     ·rename_i F
      have G:j - ds.length<r.length:=(Zi a).1;have D:=H (j - ds.length) (by omega);rw[a] at D
      rw[<-D]
      congr 2
      omega
    ·rcases List.mem_append.1 b with b | b
     ·exact B u b
     ·exact e x r v u b
    ·by_cases q:i=k
     ·subst q;rw[f] at d
      injection d with d
      subst d;rw[List.drop_append,List.drop_of_length_le (by omega),p,Nat.sub_self,List.drop_zero,List.nil_append,XO (by omega)]
      exact v
     ·have E:(i+1)*A.size<=k*A.size:=Xp _ (by omega);rw[Nat.add_mul] at E
      rw[List.drop_append_of_le_length (by omega),List.take_append_of_le_length (by simp;omega)]
      exact t i y (by omega) d
 obtain⟨ds,p,z,B,t⟩:=C l.length Ze
 exact⟨ds,p,fun j u a=>by rw[Go.WideShapes.add_plain];exact z j u a,B,fun i x f=>t i x (Zi f).1 f⟩
theorem Qbq {α:Type}{P:α->List Value->Prop}{l l2:List α}(b:xs.length=l.length*s)
 (f:∀ (i:Nat) (x:α),l[i]?=some x->P x ((xs.drop (i*s)).take s)) (e:∀ (i:Nat) (x:α),l2[i]?=some x->P x ((ds.drop (i*s)).take s)) :
 ∀ (i:Nat) (x:α),(l++l2)[i]?=some x->P x (((xs++ds).drop (i*s)).take s):=by
 intro i y a;rw[List.getElem?_append] at a
 split at a
 ·rename_i d
  have c:(i+1)*s<=l.length*s:=Xp _ d;rw[Nat.add_mul] at c
  rw[List.drop_append_of_le_length (by omega),List.take_append_of_le_length (by simp;omega)]
  exact f i y a
 ·rename_i d
  have c:l.length*s<=i*s:=Xp _ (by omega)
  have:=e (i - l.length) y a
  rw[Nat.sub_mul] at this
  rw[List.drop_append,List.drop_of_length_le (by omega),List.nil_append,b]
  exact this
theorem QcI (h:w.ownsRow 0 e s (.slice (some ⟨g,0,none⟩) N cap) N xs) (f:w'.heap[g]?=w.heap[g]?):w'.ownsRow 0 e s (.slice (some ⟨g,0,none⟩) N cap) N xs:=by
 obtain⟨k,i⟩:=h
 refine⟨k,?_⟩
 rcases i with j | ⟨m,c,b,l,a,d,r⟩
 ·exact .inl j
 ·injection l with e1 _ e2
  injection e1 with e1
  injection e1 with e1 _
  subst e1;subst e2;exact .inr ⟨g,cap,b,Z,a,f.trans d,r⟩
def TRq (w:World) (O Q:Nat->Prop) (v:Value) (L:List (TT 6)):Prop :=
 ∃ xs,w.ownsRow 0 105 3 v L.length xs/\(∀ g,v.ownBlock=some g->O g)/\∀ i x,L[i]?=some x->(Lay.tt 6).In w Q x ((xs.drop (i*3)).take 3)
section
variable {w w':World}{O O' Q Q':Nat->Prop}{v:Value}{L:List (TT 6)}
theorem TRq.keep (h:TRq w O Q v L) (hb:∀ k,k<w.heap.size->v.ownBlock=some k\/Q k->w'.heap[k]?=w.heap[k]?) (s:∀ k,v.ownBlock=some k->O' k) (j:∀ k,Q k->k<w.heap.size->Q' k):TRq w' O' Q' v L:=by
 obtain⟨p,⟨o,f⟩,t,m⟩:=h
 refine⟨p,⟨o,?_⟩,s,fun i x d=>(Lay.tt 6).keep (fun k q l=>hb k l (.inr q)) j (m i x d)⟩
 rcases f with n | ⟨g,b,a,rfl,e,c,r⟩
 ·exact Or.inl n
 ·exact Or.inr ⟨g,b,a,Z,e,(hb g (XC c) (.inl Z)).trans c,r⟩
theorem TRq.own (h:TRq w O Q v L)(a:v.ownBlock=some g):O g:=by
 obtain⟨e,c,b,d⟩:=h
 exact b g a
theorem TRq.block (h:TRq w O Q v L)(a:v.ownBlock=some g):∃ c,w.heap[g]?=some (.cells c 105 (0,0)):=by
 obtain⟨m,⟨j,e⟩,l,i⟩:=h
 rcases e with ⟨rfl,_⟩|⟨k,f,b,rfl,_,d,r⟩
 ·simp[Value.ownBlock] at a
 ·simp[Value.ownBlock] at a;subst a;exact⟨b,d⟩
theorem TRq.lt (h:TRq w O Q v L)(b:v.ownBlock=some g):g<w.heap.size:=by
 obtain⟨c,a⟩:=h.block b
 exact XC a
theorem TRq.form (h:TRq w O Q v L):∃ a cap,v=.slice a L.length cap/\L.length<=cap/\TRd w Q a L/\∃ xs,w.ownsRow 0 105 3 (.slice a L.length cap) L.length xs:=by
 obtain⟨xs,d,E,p⟩:=h
 obtain⟨D,x⟩:=id d
 rcases x with ⟨rfl,n⟩|⟨g,cap,m,rfl,_,A,r,B,C,z⟩
 ·have:L=[]:=Xf.1 n
  subst this;exact⟨none,0,Z,Ze,fun i t b=>by simp at b,xs,d⟩
 ·refine⟨some ⟨g,0,none⟩,cap,Z,r,fun i t b=>?_,xs,d⟩
  obtain⟨s,q,e,o,y⟩:=p i t b
  have l:i<L.length:=(Zi b).1
  have c:∀ j u,j<3->((xs.drop (i*3)).take 3)[j]?=some u->w.cell? ⟨g,i*3+j,none⟩=some u:=fun j u k f=>by
   rw[XR,Xs k,List.getElem?_drop,<-z,XR,Xs (by omega),Array.getElem?_toList] at f
   exact Qa A _ u f
  rw[e] at c
  exact⟨g,s,q,Z,c 0 _ (by omega) Z,c 1 _ (by omega) Z,c 2 _ (by omega) Z,o,y⟩
end
abbrev QeZ (c:Int):List PanicEntry:=[{ v:=.iface 304 (Iv c),recovered:=false }]
def SAt (w:World) (b:Nat) (O A:Nat->Prop) (s:JSt):Prop :=
 ∃ pm cm h a1 c1 a2 c2 a3 c3 vL,w.heap[b]?=some (.cells #[.slice pm s.m.length cm,Pv h 0,Iv s.f.regs,.slice a1 s.f.params.length c1,.slice a2 s.f.results.length c2,.slice a3 s.f.blocks.length c3,vL] 279 (0,0)) /\
  (ZZ 6).In w (fun g=>¬ A g) s.m [.slice pm s.m.length cm]/\(ZW 6).In w (fun g=>¬ A g) s.f [Iv s.f.regs,.slice a1 s.f.params.length c1,.slice a2 s.f.results.length c2,.slice a3 s.f.blocks.length c3] /\
  (QC w h s.H/\O h)/\TRq w O (fun g=>¬ A g) vL s.L/\O b/\∀ k,O k->A k
structure SRd (w:World) (b:Nat) (A:Nat->Prop) (s:JSt) (pm:Option Addr) (cm h:Nat) (a1:Option Addr) (c1:Nat) (a2:Option Addr) (c2:Nat) (a3:Option Addr) (c3:Nat) (aL:Option Addr) (cL:Nat):Prop where
 blk:w.heap[b]?=some (.cells #[.slice pm s.m.length cm,Pv h 0,Iv s.f.regs,.slice a1 s.f.params.length c1,.slice a2 s.f.results.length c2,.slice a3 s.f.blocks.length c3,.slice aL s.L.length cL] 279 (0,0))
 mod:(ZZ 6).In w (fun g=>¬ A g) s.m [.slice pm s.m.length cm]
 fn:(ZW 6).In w (fun g=>¬ A g) s.f [Iv s.f.regs,.slice a1 s.f.params.length c1,.slice a2 s.f.results.length c2,.slice a3 s.f.blocks.length c3]
 held:QC w h s.H
 row:TRd w (fun g=>¬ A g) aL s.L
 le:s.L.length<=cL
section
variable {w w':World}{b:Nat}{O O' A A':Nat->Prop}{s:JSt}
theorem SAt.keep (h:SAt w b O A s) (hb:∀ k,k<w.heap.size->O k\/¬ A k->w'.heap[k]?=w.heap[k]?) (l:∀ k,O k->k<w.heap.size->O' k) (g:∀ k,¬ A k->k<w.heap.size->¬ A' k) (p:∀ k,O' k->A' k):SAt w' b O' A' s:=by
 obtain⟨u,t,j,x,o,C,q,y,r,z,f,v,B,⟨i,n⟩,d,m,D⟩:=h
 refine⟨u,t,j,x,o,C,q,y,r,z,(hb b (XC f) (.inl m)).trans f,(ZZ 6).keep (fun k a c=>hb k c (.inr a)) g v,(ZW 6).keep (fun k a c=>hb k c (.inr a)) g B,
  ⟨i.keep (hb j i.lt (.inl n)),l j n i.lt⟩,d.keep (fun k c a=>hb k c (a.imp (fun e=>d.own e) id)) (fun k a=>l k (d.own a) (d.lt a)) g,l b m (XC f),p⟩
theorem SAt.below (h:SAt w b O A s) (k:Below w.heap.size w w'):SAt w' b O A s:=by
 have a:∀ k,O k->A k:=by obtain⟨o,n,r,u,f,z,j,v,l,x,m,p,y,⟨q,t⟩,i,e,d⟩:=h;exact d
 exact h.keep (fun g c _=>k.block g c) (fun _ h _=>h) (fun _ h _=>h) a
theorem SAt.sub (h:SAt w b O A s):∀ k,O k->A k:=by obtain⟨f,m,d,l,g,q,r,n,t,o,v,u,p,⟨e,j⟩,i,c,a⟩:=h;exact a
theorem SAt.lt (h:SAt w b O A s):b<w.heap.size:=by obtain⟨f,m,d,k,g,q,r,n,t,o,a,u,p,⟨e,j⟩,i,c,l⟩:=h;exact XC a
theorem SAt.read (h:SAt w b O A s):∃ pm cm h a1 c1 a2 c2 a3 c3 aL cL,SRd w b A s pm cm h a1 c1 a2 c2 a3 c3 aL cL:=by
 obtain⟨pm,cm,c,a1,c1,a2,c2,a3,c3,m,j,g,f,⟨d,l⟩,e,k,n⟩:=h
 obtain⟨aL,cL,rfl,a,i,_⟩:=e.form
 exact⟨pm,cm,c,a1,c1,a2,c2,a3,c3,aL,cL,j,g,f,d,i,a⟩
variable {pm:Option Addr}{cm h:Nat}{a1:Option Addr}{c1:Nat}{a2:Option Addr}{c2:Nat}{a3:Option Addr}{c3:Nat}{aL:Option Addr}{cL:Nat}
theorem SRd.below (k:SRd w b A s pm cm h a1 c1 a2 c2 a3 c3 aL cL) (e:Below w.heap.size w w'):SRd w' b A s pm cm h a1 c1 a2 c2 a3 c3 aL cL :=
 ⟨(e.block b (XC k.blk)).trans k.blk,Ya k.mod e,Ya k.fn e,k.held.below e,k.row.below e,k.le⟩
theorem SRd.cells (k:SRd w b A s pm cm h a1 c1 a2 c2 a3 c3 aL cL) :
 w.cell? ⟨b,0,none⟩=some (.slice pm s.m.length cm)/\w.cell? ⟨b,1,none⟩=some (Pv h 0)/\w.cell? ⟨b,2,none⟩=some (Iv s.f.regs)/\w.cell? ⟨b,3,none⟩=some (.slice a1 s.f.params.length c1)/\w.cell? ⟨b,4,none⟩=some (.slice a2 s.f.results.length c2)/\w.cell? ⟨b,5,none⟩=some (.slice a3 s.f.blocks.length c3)/\w.cell? ⟨b,6,none⟩=some (.slice aL s.L.length cL) :=
 ⟨Qa k.blk 0 _ Z,Qa k.blk 1 _ Z,Qa k.blk 2 _ Z,Qa k.blk 3 _ Z,Qa k.blk 4 _ Z,Qa k.blk 5 _ Z,Qa k.blk 6 _ Z⟩
end
def STo (wA w:World) (b:Nat) (O A:Nat->Prop) (s:JSt):Prop :=
 ∃ N:Nat->Prop,(∀ k,N k->wA.heap.size<=k/\k<w.heap.size)/\SAt w b (fun k=>O k\/N k) (fun k=>A k\/N k) s/\QE O (fun k=>O k\/N k) wA w
section
variable {w wA wB:World}{b:Nat}{O A:Nat->Prop}{s s':JSt}
theorem STo.same (h:SAt w b O A s):STo w w b O A s :=
 ⟨fun _=>False,fun _ h=>h.elim,h.keep (fun _ _ _=>rfl) (fun _ h _=>.inl h) (fun _ h _=>by simpa using h) (fun k a=>a.imp (h.sub k) id),⟨Z,Z,Z,Ze,fun _ _ _=>rfl,fun k a=>.inl (by simpa using a)⟩⟩
theorem STo.after (h:STo wA w b O A s) (hb:Below wB.heap.size wB wA):STo wB w b O A s:=by
 obtain⟨N,d,f,a⟩:=h
 have:=hb.size
 exact⟨N,fun k c=>⟨Zt hb.size (d k c).1,(d k c).2⟩,f,⟨a.os.trans hb.os,a.tape.trans hb.tape,a.output.trans hb.output,Zt hb.size a.size,fun k c g=>(a.block k (by omega) g).trans (hb.block k c),fun k c=>(a.own k c).imp id fun e=>Zt hb.size e⟩⟩
theorem STo.below (h:STo wA w b O A s) (hb:Below w.heap.size w wB):STo wA wB b O A s:=by
 obtain⟨N,d,e,a⟩:=h
 have:=hb.size
 exact⟨N,fun k c=>⟨(d k c).1,by have:=(d k c).2;omega⟩,e.below hb,⟨hb.os.trans a.os,hb.tape.trans a.tape,hb.output.trans a.output,Zt a.size hb.size,fun k c f=>(hb.block k (by have:=a.size;omega)).trans (a.block k c f),a.own⟩⟩
theorem STo.join {N:Nat->Prop}(f:∀ k,N k->wA.heap.size<=k/\k<w.heap.size) (d:QE O (fun k=>O k\/N k) wA w) (g:STo w wB b (fun k=>O k\/N k) (fun k=>A k\/N k) s'):STo wA wB b O A s':=by
 obtain⟨M,i,h,c⟩:=g
 have j:=d.size;have m:=c.size;refine⟨fun k=>N k\/M k,fun k a=>?_,?_,?_⟩
 ·rcases a with a | a
  ·have:=f k a;omega
  ·have:=i k a;omega
 ·exact h.keep (fun _ _ _=>rfl) (fun k a _=>by simpa[or_assoc] using a) (fun k a _=>by simpa[or_assoc,not_or,and_assoc] using a) (fun k a=>by have:=h.sub k (by simpa[or_assoc] using a);simpa[or_assoc] using this)
 ·refine⟨c.os.trans d.os,c.tape.trans d.tape,c.output.trans d.output,Zt j m,fun k a l=>(c.block k (by omega) (fun e=>?_)).trans (d.block k a l),fun k a=>?_⟩
  ·rcases e with e | e
   ·exact l e
   ·have:=f k e;omega
  ·rcases a with a | a | a
   ·exact .inl a
   ·exact .inr (f k a).1
   ·exact .inr (Zt j (i k a).1)
theorem SAt.setH (L:∀ k,A k->k<w.heap.size) (h:SAt w b O A s):∃ hh,w.cell? ⟨b,1,none⟩=some (Pv hh 0)/\QC w hh s.H/\∀ w' H',QC w' hh H'->QE (fun k=>k=hh) (fun k=>k=hh) w w'->STo w w' b O A { s with H:=H' }:=by
 obtain⟨B,y,hh,E,t,J,u,F,v,G,i,C,I,⟨p,m⟩,l,r,o⟩:=h
 refine⟨hh,Qa i 1 _ Z,p,fun w' H' D d=>?_⟩
 obtain⟨K,g⟩:∃ c,w.heap[hh]?=some (.cells c 303 (0,0)):=by
  obtain⟨-,q⟩:=p
  obtain⟨c,q,-⟩:=q
  exact⟨c,q⟩
 have n:b≠hh:=QK i g (by decide);have j:∀ k,¬ A k->k≠hh:=fun k a e=>a (by subst e;exact o _ m)
 refine⟨fun _=>False,fun _ h=>h.elim,⟨B,y,hh,E,t,J,u,F,v,G,(d.block b (XC i) n).trans i,(ZZ 6).keep (fun k a f=>d.block k f (j k a)) (fun _ h _=>by simpa using h) C,(ZW 6).keep (fun k a f=>d.block k f (j k a)) (fun _ h _=>by simpa using h) I,
  ⟨D,.inl m⟩,l.keep (fun k f a=>d.block k f ?_) (fun k a=>.inl (l.own a)) (fun _ h _=>by simpa using h),.inl r,fun k a=>a.imp (o k) id⟩,⟨d.os,d.tape,d.output,d.size,fun k a z=>d.block k a (fun e=>z (by subst e;exact m)),fun k a=>.inl (by simpa using a)⟩⟩
 rcases a with a | a
 ·obtain⟨c,x⟩:=l.block a
  exact QK x g (by decide)
 ·exact j k a
theorem SAt.pushL (hA:∀ k,A k->k<wA.heap.size) (h:SAt wA b O A s):∃ aL cL xs,wA.cell? ⟨b,6,none⟩=some (.slice aL s.L.length cL)/\wA.frozen? ⟨b,6,none⟩=false/\s.L.length<=cL/\wA.ownsRow 0 105 3 (.slice aL s.L.length cL) s.L.length xs /\
 ∀ w9 g cap2 (l:List (TT 6)) ds,ds.length=l.length*3->w9.ownsRow 0 105 3 (.slice (some ⟨g,0,none⟩) (s.L.length+l.length) cap2) (s.L.length+l.length) (xs++ds)->wA.grownBy w9 (Value.slice aL s.L.length cL).ownBlock->((Value.slice aL s.L.length cL).ownBlock=some g\/g=wA.heap.size)->g<w9.heap.size ->
  (∀ i x,l[i]?=some x->(Lay.tt 6).In wA (fun g=>¬ A g) x ((ds.drop (i*3)).take 3)) ->
  w9.cell? ⟨b,6,none⟩=some (.slice aL s.L.length cL)/\w9.frozen? ⟨b,6,none⟩=false/\STo wA (w9.setCell ⟨b,6,none⟩ (.slice (some ⟨g,0,none⟩) (s.L.length+l.length) cap2)) b O A { s with L:=s.L++l }:=by
 obtain⟨pm,W,v,a1,Q,a2,T,a3,U,vL,o,k2,k3,⟨K,k5⟩,t,F,I⟩:=h
 obtain⟨aL,cL,rfl,E,-,-⟩:=t.form
 have u:∀ {j},(Value.slice aL s.L.length cL).ownBlock=some j->O j/\∃ c,wA.heap[j]?=some (.cells c 105 (0,0)):=fun {j} d=>⟨t.own d,t.block d⟩;obtain⟨xs,M,q2,q3⟩:=t
 obtain⟨ch,m⟩:∃ c,wA.heap[v]?=some (.cells c 303 (0,0)):=by
  obtain⟨-,q⟩:=K
  obtain⟨c,q,-⟩:=q
  exact⟨c,q⟩
 have z:=XC o;have w:=XC m
 have p:∀ j,(Value.slice aL s.L.length cL).ownBlock=some j->b≠j:=fun j d=>by
  obtain⟨c,V⟩:=(u d).2
  exact QK o V (by decide)
 refine⟨aL,cL,xs,Qa o 6 _ Z,Qe o 6,E,M,fun w9 g cap2 l ds R h1 n J X S=>?_⟩
 have aa:=n.size;have C:=(n.block b z (fun e=>p b e.symm Z)).trans o
 have B:b≠g:=by
  rcases J with h | h
  ·exact p g h
  ·omega
 have f:∀ k,¬ A k->k<wA.heap.size->¬ (A k\/(wA.heap.size<=k/\k<w9.heap.size)):=fun k a G e=>by rcases e with e | e;exact a e;omega
 have N:QE O (fun x=>O x\/(wA.heap.size<=x/\x<w9.heap.size)) wA (w9.setCell ⟨b,6,none⟩ (.slice (some ⟨g,0,none⟩) (s.L.length+l.length) cap2)):=by
  refine⟨n.os,n.tape,n.output,by simp;omega,fun k a H=>?_,fun k a=>a.imp id fun h=>h.1⟩
  rw[Xd _ _ _ _ (fun e=>H (by subst e;exact F)),n.block k a (fun e=>H (u e.symm).1)]
 have r:∀ k,¬ A k->k<wA.heap.size->(w9.setCell ⟨b,6,none⟩ (.slice (some ⟨g,0,none⟩) (s.L.length+l.length) cap2)).heap[k]?=wA.heap[k]?:=fun k a G=>N.block k G (fun e=>a (I k e));refine⟨Qa C 6 _ Z,Qe C 6,fun x=>wA.heap.size<=x/\x<w9.heap.size,fun k a=>by rw[World.size_setCell];exact a,⟨pm,W,v,a1,Q,a2,T,a3,U,.slice (some ⟨g,0,none⟩) (s.L.length+l.length) cap2,?_,(ZZ 6).keep r f k2,(ZW 6).keep r f k3,⟨K.keep ?_,.inl k5⟩,?_,.inl F,fun k a=>a.imp (I k) id⟩,N⟩
 ·rw[Qh C];rfl
 ·rw[Xd _ _ _ _ (show v≠b from QK m o (by decide)),n.block v w (fun e=>by obtain⟨c',y⟩:=(u e.symm).2;exact QK m y (by decide) Z)]
 ·refine⟨xs++ds,?_,fun k a=>?_,?_⟩
  ·rw[List.length_append]
   exact QcI h1 (Xd _ _ _ _ (show g≠b from fun e=>B e.symm))
  ·simp[Value.ownBlock] at a
   subst a;rcases J with h | h
   ·exact .inl (u h).1
   ·exact .inr ⟨by omega,X⟩
  ·refine Qbq (s:=3) (P:=fun x cs=>(Lay.tt 6).In _ _ x cs) M.1 (fun i x D=>?_) (fun i x D=>?_)
   ·exact(Lay.tt 6).keep r f (q3 i x D)
   ·exact(Lay.tt 6).keep r f (S i x D)
theorem SAt.same6 {v:Value}(h:SAt w b O A s) (d:w.cell? ⟨b,6,none⟩=some v) (k:Nat):(w.setCell ⟨b,6,none⟩ v).heap[k]?=w.heap[k]?:=by
 obtain⟨g,j,f,l,i,o,p,m,q,n,a,-⟩:=h
 have e:=(Qa a 6 _ Z).symm.trans d;simp only[Option.some.injEq] at e
 by_cases c:k=b
 ·subst c;rw[Qh a,a,<-e];rfl
 ·exact Xd _ _ _ _ c
end
theorem Zd (w:World) (c:Int):Calls prog 268 #[.bool true,Iv c] w fun e w'=>e=.returned (.tuple #[])/\w'=w:=by
 go_enter func268,ntmps268
 go_wp2
 exact Xz (v:=.tuple #[]) (by simp[results,results268,go_sem]) Z ⟨Z,Z⟩
theorem Q9 (w:World) (c:Int):Calls prog 268 #[.bool false,Iv c] w fun e w'=>e=.panicked (QeZ c)/\w'=w:=by
 go_enter func268,ntmps268
 go_wp2
 exact⟨Z,Z,Z⟩
theorem Qbw (w:World) (ok:Bool) (c:Int):Calls prog 268 #[.bool ok,Iv c] w fun e w'=>w'=w/\((ok=true/\e=.returned (.tuple #[]))\/(ok=false/\e=.panicked (QeZ c))):=by
 cases ok
 ·exact(Q9 w c).mono (fun e w' h=>⟨h.2,.inr ⟨Z,h.1⟩⟩)
 ·exact(Zd w c).mono (fun e w' h=>⟨h.2,.inl ⟨Z,h.1⟩⟩)
def ZP (c:Int) (V:Value->Prop) (e:Ending):Prop:=(c=0/\∃ x,e=.returned x/\V x)\/(c≠0/\e=.panicked (QeZ c))
theorem ZP.good {c:Int}{V:Value->Prop}{x:Value}(h:c=0) (a:V x):ZP c V (.returned x):=.inl ⟨h,x,Z,a⟩
theorem ZP.bad {c d:Int}{V:Value->Prop}(h:c=d) (a:d≠0):ZP c V (.panicked (QeZ d)):=.inr ⟨by omega,by rw[h]⟩
def Qml (w:World) (A:Nat->Prop) (s:JSt) (a:Int) (x:Value):Prop:=∃ (t:TT 6) (p:Option Addr) (c:Nat),s.at a=some t/\x=Tv t p c/\TIn w (fun g=>¬ A g) t p/\t.ok
def JSt.has (s:JSt) (a:Int):Int:=match s.at a with | none=>1 | some _=>0
theorem Qca {w:World}{A:Nat->Prop}{s:JSt}(a:Int) (u:s.L.length<=80) (h:SAt w b O A s) :
 Calls prog 270 #[Pv b 0,Iv a] w fun e w'=>ZP (s.has a) (Qml w' A s a) e/\Below w.heap.size w w':=by
 have z:=ZO w (.cells #[Iv 0,Iv 0,Nv] 105);obtain⟨pm,cm,hh,a1,c1,a2,c2,a3,c3,aL,cL,R⟩:=h.read
 obtain⟨-,-,-,-,-,-,m⟩:=(R.below z).cells
 have x:=Qb R.row;have k:=Qb z;have f:Hid (Blk (w.alloc (.cells #[Iv 0,Iv 0,Nv] 105)) w.heap.size #[Iv 0,Iv 0,Nv] 105):=Blk.new _ _ _;clear R h z;go_enter func270,ntmps270
 go_upto_region 1 with fail
 generalize w.alloc (.cells #[Iv 0,Iv 0,Nv] 105)=K at m x k f |-;by_cases I:0<=a
 rotate_left
 ·have Q:decide (a>=0)=false:=by simpa using I
  have E:Hid (s.has a=1):=by show _=_;unfold JSt.has JSt.at;rw[Xs (by omega)]
  generalize s.L.length=M at m u;go_wp2_with fail
  refine(Q9 _ 1).mono ?_
  rintro P w' ⟨rfl,j⟩;subst j;exact⟨Z,ZP.bad E.out (by decide),k.out⟩
 obtain⟨i,rfl⟩:=Xc I
 by_cases y:i<s.L.length
 rotate_left
 ·have E:Hid (s.has (i:Int)=1):=by
   show _=_;unfold JSt.has JSt.at;rw[Xr (by omega),XT,Xk (by omega)]
  have o:¬ (i:Int)<s.L.length:=by omega
  generalize s.L.length=M at m o y u;go_wp2_with fail
  refine(Q9 _ 1).mono ?_
  rintro P w' ⟨rfl,j⟩;subst j;exact⟨Z,ZP.bad E.out (by decide),k.out⟩
 have d:s.L[i]?=some s.L[i]:=Zg y;generalize s.L[i]=t at d;have F:s.at (i:Int)=some t:=by unfold JSt.at;rw[Xr (by omega)];exact d
 obtain⟨g,p,c,rfl,B,H,J,G,N⟩:=x.out i t d
 have E:Hid (s.has (i:Int)=0):=by show _=_;unfold JSt.has;rw[F]
 have l:=Xi w ⟨g,i*3,none⟩ B;have e0:=Qo B k.out;have e1:=Qo H k.out;have e2:=Qo J k.out;have S:¬ w.heap.size=g:=fun e=>by have:g<w.heap.size:=l;omega
 have D:Hid (TIn w (fun g=>¬ A g) t p/\t.ok):=⟨G,N⟩;have V:=Qb F;have q:(i:Int)<s.L.length:=by omega
 clear B H J G N d F x l;have y0:=Qa f.out 0 _ Z;have y1:=Qa f.out 1 _ Z;have y2:=Qa f.out 2 _ Z;have z0:=Qe f.out 0;have z1:=Qe f.out 1;have z2:=Qe f.out 2;generalize W:s.L.length=M at m y q u;go_wp2_with (go_at_call 268;refine(Zd _ _).mono ?_;rintro P w' ⟨rfl,j⟩;have j:=j.symm;subst j)
 have n:=f.out.set3 (Iv t.kind) (Iv t.r) (.slice p t.len c);have C:Below w.heap.size w (((K.setCell ⟨w.heap.size,0,none⟩ (Iv t.kind)).setCell ⟨w.heap.size,1,none⟩ (Iv t.r)).setCell ⟨w.heap.size,2,none⟩ (.slice p t.len c)):=((k.out.setCell Ze _).setCell Ze _).setCell Ze _;generalize ((K.setCell ⟨w.heap.size,0,none⟩ (Iv t.kind)).setCell ⟨w.heap.size,1,none⟩ (Iv t.r)).setCell ⟨w.heap.size,2,none⟩ (.slice p t.len c)=w9 at n C |-;have U:=Qa n 0 _ Z;have X:=Qa n 1 _ Z;have T:=Qa n 2 _ Z;exact Xy (v:=Tv t p c) (by simp[results,results270,go_sem,U,X,T]) Z ⟨ZP.good E.out ⟨t,p,c,V.out,Z,D.out.1.below C,D.out.2⟩,C⟩
theorem QgE {s:JSt}{a b:Int}{c:Bool}(h:s.has a≠0):s.want a b c=s.has a:=by
 unfold JSt.has JSt.want at *
 cases e:s.at a with
 | none=>rfl
 | some t=>rw[e] at h;exact absurd Z h
theorem SAt.more {w:World}{A:Nat->Prop}{s:JSt}(d:∀ k,O k->k<w.heap.size) (h:SAt w b O A s) (k:Below w.heap.size w w'):SAt w' b O (fun k=>A k\/w.heap.size<=k) s :=
 h.keep (fun g c _=>k.block g c) (fun _ h _=>h) (fun k a f e=>by rcases e with e | e;exact a e;omega) (fun k a=>.inl (h.sub k a))
theorem TIn.over {w w9:World}{A:Nat->Prop}{n:Nat}{t:TT n}{p:Option Addr}(h:TIn w2 (fun g=>¬ (A g\/w.heap.size<=g)) t p) (c:Below w.heap.size w w2) (b:Below w.heap.size w w9):TIn w9 (fun g=>¬ (A g\/w.heap.size<=g)) t p :=
 h.keep (fun k a _=>(b.block k (Nat.lt_of_not_le (fun e=>a (.inr e)))).trans (c.block k (Nat.lt_of_not_le (fun e=>a (.inr e)))).symm) (fun _ h _=>h)
theorem TIn.less {w:World}{A:Nat->Prop}{n:Nat}{t:TT n}{p:Option Addr}(h:TIn w2 (fun g=>¬ (A g\/w.heap.size<=g)) t p):TIn w2 (fun g=>¬ A g) t p:=h.mono (fun k a _ e=>a (.inl e))
structure QhM (w wc:World) (R B:Nat) (A:Nat->Prop){n:Nat}(t:TT n) (p:Option Addr) (c:Nat):Prop where
 bel:Below w.heap.size w wc
 res:Blk wc R #[Iv 0,Iv 0,Nv] 105
 box:Blk wc B #[Iv t.kind,Iv t.r,.slice p t.len c] 105
 lay:TIn wc (fun g=>¬ (A g\/w.heap.size<=g)) t p
 farR:w.heap.size<=R
 farB:w.heap.size<=B
 ne:¬ B=R
section
variable {w wc w9:World}{R B:Nat}{A:Nat->Prop}{n:Nat}{t:TT n}{p:Option Addr}{c:Nat}
theorem QhM.below (h:QhM w wc R B A t p c) (k:Below wc.heap.size wc w9):QhM w w9 R B A t p c :=
 ⟨h.bel.trans (k.mono h.bel.size),h.res.below k,h.box.below k,h.lay.below k,h.farR,h.farB,h.ne⟩
theorem QhM.cells (h:QhM w wc R B A t p c):wc.cell? ⟨B,0,none⟩=some (Iv t.kind)/\wc.cell? ⟨B,1,none⟩=some (Iv t.r)/\wc.cell? ⟨B,2,none⟩=some (.slice p t.len c) /\
 wc.cell? ⟨R,0,none⟩=some (Iv 0)/\wc.cell? ⟨R,1,none⟩=some (Iv 0)/\wc.cell? ⟨R,2,none⟩=some (Nv)/\wc.frozen? ⟨R,0,none⟩=false/\wc.frozen? ⟨R,1,none⟩=false/\wc.frozen? ⟨R,2,none⟩=false :=
 ⟨Qa h.box 0 _ Z,Qa h.box 1 _ Z,Qa h.box 2 _ Z,Qa h.res 0 _ Z,Qa h.res 1 _ Z,Qa h.res 2 _ Z,Qe h.res 0,Qe h.res 1,Qe h.res 2⟩
theorem QnQ {k r:Int}{q:Option Addr}{l:Nat}(hb:Below w.heap.size w wc) (b:Blk wc R #[Iv 0,Iv 0,Nv] 105) (a:w.heap.size<=R) :
 Blk (((wc.setCell ⟨R,0,none⟩ (Iv k)).setCell ⟨R,1,none⟩ (Iv r)).setCell ⟨R,2,none⟩ (.slice q l d)) R #[Iv k,Iv r,.slice q l d] 105/\Below w.heap.size w (((wc.setCell ⟨R,0,none⟩ (Iv k)).setCell ⟨R,1,none⟩ (Iv r)).setCell ⟨R,2,none⟩ (.slice q l d)) :=
 ⟨b.set3 _ _ _,((hb.setCell (p:=⟨R,0,none⟩) a _).setCell (p:=⟨R,1,none⟩) a _).setCell (p:=⟨R,2,none⟩) a _⟩
theorem QhM.mk1 (hb:Below w.heap.size w wc) (b:Blk wc R #[Iv 0,Iv 0,Nv] 105) (f:w.heap.size<=R) (e:TIn wc (fun g=>¬ (A g\/w.heap.size<=g)) t p) :
 QhM w (wc.alloc (.cells #[Iv t.kind,Iv t.r,.slice p t.len c] 105)) R wc.heap.size A t p c:=by
 have a:=ZO wc (.cells #[Iv t.kind,Iv t.r,.slice p t.len c] 105);have d:=b.lt;exact⟨hb.trans (a.mono hb.size),b.below a,Blk.new _ _ _,e.alloc _,f,hb.size,by omega⟩
end
theorem QhM.told {w wc:World}{R B:Nat}{A:Nat->Prop}{s:JSt}{a:Int}{t:TT 6}{p:Option Addr}{c:Nat}(h:QhM w wc R B A t p c) (g:s.at a=some t) (e:t.ok) :
 ∃ w9,w9=((wc.setCell ⟨R,0,none⟩ (Iv t.kind)).setCell ⟨R,1,none⟩ (Iv t.r)).setCell ⟨R,2,none⟩ (.slice p t.len c)/\w9.cell? ⟨R,0,none⟩=some (Iv t.kind)/\w9.cell? ⟨R,1,none⟩=some (Iv t.r)/\w9.cell? ⟨R,2,none⟩=some (.slice p t.len c) /\
  Qml w9 A s a (Tv t p c)/\Below w.heap.size w w9:=by
 obtain⟨b,f⟩:=QnQ (k:=t.kind) (r:=t.r) (q:=p) (l:=t.len) (d:=c) h.bel h.res h.farR
 exact⟨_,Z,Qa b 0 _ Z,Qa b 1 _ Z,Qa b 2 _ Z,⟨t,p,c,g,Z,(h.lay.over h.bel f).less,e⟩,f⟩
theorem Qe4 {w:World}{A:Nat->Prop}{s:JSt}(a d:Int) (hL:s.L.length<=80) (J:∀ k,O k->k<w.heap.size) (h:SAt w b O A s) :
 Calls prog 266 #[Pv b 0,Iv a,Iv d] w fun e w'=>ZP (s.want a d false) (Qml w' A s a) e/\Below w.heap.size w w':=by
 have I:=ZO w (.cells #[Iv 0,Iv 0,Nv] 105);have C:=Qb (h.more J I);have u:=Qb I;have n:Hid (Blk (w.alloc (.cells #[Iv 0,Iv 0,Nv] 105)) w.heap.size #[Iv 0,Iv 0,Nv] 105):=Blk.new _ _ _;clear h I;go_enter func266,ntmps266
 go_upto_region 1 with fail
 generalize w.alloc (.cells #[Iv 0,Iv 0,Nv] 105)=w1 at C u n |-;obtain⟨R,H⟩:∃ R,w.heap.size=R:=⟨_,Z⟩
 have HR:=Qb (Nat.le_of_eq H);rw[H] at n |-
 clear H;go_wp2_with fail
 refine(Qca a hL C.out).mono ?_
 rintro V G ⟨J,D⟩;have K:Hid (Below w.heap.size w G):=u.out.trans (D.mono u.out.size);have Q:=Qb (n.out.below D);rcases J with ⟨m,x,rfl,t,p,c,U,rfl,T,i⟩|⟨m,rfl⟩
 rotate_left
 ·exact⟨Z,.inr ⟨by rw[QgE m];exact m,by rw[QgE m]⟩,K.out⟩
 have f:=Qb (QhM.mk1 (c:=c) K.out Q.out HR.out T);have q:=Qb (Xh U i);clear T U i D n u C Q;go_upto_region 2 with fail
 generalize G.alloc (.cells #[Iv t.kind,Iv t.r,.slice p t.len c] 105)=w3 at f |-;generalize G.heap.size=B at f |-;obtain⟨y0,y1,y2,r0,r1,r2,z0,z1,z2⟩:=f.out.cells
 have W:=f.out.ne;by_cases z:t.kind=d
 rotate_left
 ·have j:(t.kind==d)=false:=by simpa using z
  have E:Hid (s.want a d false=9):=by show _=_;unfold JSt.want;rw[q.out.1];simp[z]
  generalize t.kind=tk at y0 z j;go_wp2_with fail
  refine(Q9 _ 9).mono ?_
  rintro V w' ⟨rfl,g⟩;subst g;exact⟨Z,ZP.bad E.out (by decide),f.out.bel⟩
 ·subst z;have j:(t.kind==t.kind)=true:=by simp
  have E:Hid (s.want a t.kind false=0):=by show _=_;unfold JSt.want;rw[q.out.1];simp
  obtain⟨F,M,o,y,l,P,N⟩:=f.out.told q.out.1 q.out.2
  have S:=Qb (Xh P N);have X:Hid (F.cell? ⟨R,0,none⟩=some (Iv t.kind)/\F.cell? ⟨R,1,none⟩=some (Iv t.r)/\F.cell? ⟨R,2,none⟩=some (.slice p t.len c)):=⟨o,y,l⟩;have H9:=Qb M;clear P N o y l M;go_wp2_with (go_at_call 268;refine(Zd _ _).mono ?_;rintro V w' ⟨rfl,g⟩;have g:=g.symm;subst g)
  rw[<-H9.out]
  obtain⟨o,y,l⟩:=X.out
  exact Xy (v:=Tv t p c) (by simp[results,results266,go_sem,o,y,l]) Z ⟨ZP.good E.out S.out.1,S.out.2⟩
theorem Qfw {s:JSt}{a b:Int}(h:s.want a b false≠0):s.want a b true=s.want a b false:=by
 unfold JSt.want at *
 cases e:s.at a with
 | none=>rfl
 | some t =>
   rw[e] at h
   by_cases c:t.kind=b
   ·simp[c] at h
   ·simp[c]
theorem Qhg {s:JSt}{a b:Int}{t:TT 6}(h:s.want a b false=0) (d:s.at a=some t):s.want a b true=if hHas s.H t.r then 0 else 10:=by
 unfold JSt.want at *;rw[d] at h |-
 by_cases c:t.kind=b
 ·simp only[c,if_true,Bool.true_and]
  cases hHas s.H t.r<;>rfl
 ·simp[c] at h
theorem Qab {w:World}{A:Nat->Prop}{s:JSt}(a d:Int) (hL:s.L.length<=80) (n:∀ k,O k->k<w.heap.size) (h:SAt w b O A s) :
 Calls prog 248 #[Pv b 0,Iv a,Iv d] w fun e w'=>ZP (s.want a d true) (Qml w' A s a) e/\Below w.heap.size w w':=by
 have N:=ZO w (.cells #[Iv 0,Iv 0,Nv] 105);have y:=Qb (h.more n N);have l:=Qb N;have F:Hid (Blk (w.alloc (.cells #[Iv 0,Iv 0,Nv] 105)) w.heap.size #[Iv 0,Iv 0,Nv] 105):=Blk.new _ _ _;have HO:=Qb n;clear h N n;go_enter func248,ntmps248
 go_upto_region 1 with fail
 generalize w.alloc (.cells #[Iv 0,Iv 0,Nv] 105)=w1 at y l F |-;obtain⟨R,M⟩:∃ R,w.heap.size=R:=⟨_,Z⟩
 have HR:=Qb (Nat.le_of_eq M);rw[M] at F |-
 clear M;go_wp2_with fail
 refine(Qe4 a d hL (fun k hk=>Zl (HO.out k hk) l.out.size) y.out).mono ?_
 rintro e' D ⟨n,z⟩;have T:Hid (Below w.heap.size w D):=l.out.trans (z.mono l.out.size);have X2:=Qb (F.out.below z);have H2:=Qb (y.out.below z);rcases n with ⟨g,x,rfl,t,p,c,Q,rfl,ht,j⟩|⟨g,rfl⟩
 rotate_left
 ·exact⟨Z,.inr ⟨by rw[Qfw g];exact g,by rw[Qfw g]⟩,T.out⟩
 have i:=Qb (QhM.mk1 (c:=c) T.out X2.out HR.out ht);have HA:=Qb (Xh Q j);have E:=Qb (Qhg g Q);have S:=Qb (H2.out.below (ZO D (.cells #[Iv t.kind,Iv t.r,.slice p t.len c] 105)));clear ht Q j z F l y X2 g H2;go_upto_region 2 with fail
 generalize D.alloc (.cells #[Iv t.kind,Iv t.r,.slice p t.len c] 105)=J at i S |-;generalize D.heap.size=B at i |-;obtain⟨y0,y1,y2,r0,r1,r2,z0,z1,z2⟩:=i.out.cells
 have aa:=i.out.ne;obtain⟨pm,cm,hh,a1,c1,a2,c2,a3,c3,aL,cL,P⟩:=S.out.read
 obtain⟨-,q1,-⟩:=P.cells
 have C:Hid (∀ m,Calls prog 272 #[Pv hh 0,Iv t.r] (J.drewN m) fun e w'=>e=.returned (.bool (hHas s.H t.r))/\w'=J.drewN m):=fun m=>Qcs t.r (show QC (J.drewN m) hh s.H from P.held);clear P;generalize hHas s.H t.r=q at E C;go_region_with (first | (go_at_call 272;refine(C.out _).mono ?_;rintro e' w' ⟨rfl,f⟩;have f:=f.symm;subst f) | (go_at_call 268;refine(Qbw _ _ _).mono ?_;rintro e' w' ⟨f,⟨o,rfl⟩|⟨o,rfl⟩⟩;rotate_left;exact⟨Z,ZP.bad (by rw[E.out,o];rfl) (by decide),by rw[f];exact Qs i.out.bel _⟩;have f:=f.symm;subst f))
 all_goals
  have E9:Hid (s.want a d true=0):=by show _=_;rw[E.out,o];rfl
  clear o S E C;have V:=i.out.below (Qs Zr 1);obtain⟨K,U,G,I,u,hv,W⟩:=V.told HA.out.1 HA.out.2
  have HV:=Qb (Xh hv W);have X:Hid (K.cell? ⟨R,0,none⟩=some (Iv t.kind)/\K.cell? ⟨R,1,none⟩=some (Iv t.r)/\K.cell? ⟨R,2,none⟩=some (.slice p t.len c)):=⟨G,I,u⟩;have H9:=Qb U;clear hv W G I u U V;go_wp2
  rw[<-H9.out]
  obtain⟨G,I,u⟩:=X.out
  exact Xy (v:=Tv t p c) (by simp[results,results248,go_sem,G,I,u]) Z ⟨ZP.good E9.out HV.out.1,HV.out.2⟩
abbrev VNone:Value->Prop:=fun x=>x=.tuple #[]
theorem QbQ {s:JSt}(E:l.length=N) (S:N<=100000) (D:intsL.In w Q l [.slice p N c]) (T:s.L.length<=80) (z:∀ k,O k->k<w.heap.size) (h:SAt w b O A s) :
 Calls prog 240 #[Pv b 0,.slice p N c] w fun e w'=>ZP (QM (fun a=>s.want a 1 false) l) VNone e/\Below w.heap.size w w':=by
 have H:=Qb h;have R:=Qb z;have M:=Qb D;have I:=Qb E;clear h z D E;go_enter func240,ntmps240
 go_wp2
 go_loopw [8] (fun i wr=>∃ k:Nat,k<=N/\i=Iv k/\Below w.heap.size w wr/\∀ (j:Nat) (y:Int),j<k->l[j]?=some y->s.want y 1 false=0) (fun i _=>N - (intOf i).toNat)
 case atStart=>exact⟨0,Xb _,Z,Zr,fun j y P=>by omega⟩
 case round =>
  obtain⟨k,K,rfl,F,J⟩:=hrel
  have n:=Qb F;have u:=Qb J;clear F J;by_cases r:k<N
  ·have t:(k:Int)<N:=by omega
   have f:k<l.length:=by rw[I.out];exact r
   obtain⟨g,o,rfl,-,hg,m⟩:=ZJ M.out f
   obtain⟨y,d⟩:∃ y,l[k]?=some y:=⟨_,Zg f⟩
   rw[show l.getD k 0=y by rw[List.getD_eq_getElem?_getD,d];rfl] at m
   have B:=Qb d;clear d;have X:=Qo m n.out;clear m f;go_wp2_with fail
   refine(Qe4 y 1 T (fun k K=>Zl (R.out k K) n.out.size) (H.out.below n.out)).mono ?_
   rintro e' U ⟨z,G⟩;have C:Hid (Below w.heap.size w U):=n.out.trans (G.mono n.out.size);rcases z with ⟨q,x,rfl,-⟩|⟨q,rfl⟩
   rotate_left
   ·exact⟨Z,.inr ⟨by rw[QaV B.out u.out q];exact q,by rw[QaV B.out u.out q]⟩,C.out⟩
   have V:=Qb q;clear q G X;go_wp2
   go_roundw
   case rel =>
    refine⟨k+1,r,by go_num,C.out,fun j W P d=>?_⟩
    rcases Nat.lt_or_ge j k with h | h
    ·exact u.out j W h d
    ·have:j=k:=by omega
     subst this;have e:=B.out.symm.trans d;injection e with e
     subst e;exact V.out
   case measure=>simp[intOf];omega
  ·have t:¬ (k:Int)<N:=by omega
   go_wp2
   exact Xz (v:=.tuple #[]) (by simp[results,results240,go_sem]) Z ⟨ZP.good (QaG (fun j y d=>u.out j y (by have:=(Zi d).1;rw[I.out] at this;omega) d)) Z,n.out⟩
def Q4 (n m:Nat):Int:=if 80<n+m then 2 else 0
theorem Qe7 {s:JSt}(n:Nat) (hn:n<=1000) (j:s.L.length<=80) (h:SAt w b O A s) :
 Calls prog 267 #[Pv b 0,Iv n] w fun e w'=>ZP (Q4 s.L.length n) VNone e/\w'=w:=by
 obtain⟨q,p,t,u,l,z,m,y,o,r,x,g⟩:=h.read
 obtain⟨-,-,-,-,-,-,i⟩:=g.cells
 clear h g;generalize s.L.length=c at i j |-;by_cases d:80<c+n
 ·have E:Hid (Q4 c n=2):=Xs d;have f:decide ((c:Int)+n<=80)=false:=Xu (by omega);clear d;go_enter func267,ntmps267
  go_wp2_with fail
  refine(Q9 _ 2).mono ?_
  rintro k w' ⟨rfl,a⟩;subst a;exact⟨Z,ZP.bad E.out (by decide),Z⟩
 ·have E:Hid (Q4 c n=0):=Xr d;have f:decide ((c:Int)+n<=80)=true:=Xt (by omega);clear d;go_enter func267,ntmps267
  go_wp2_with (go_at_call 268;refine(Zd _ _).mono ?_;rintro k w' ⟨rfl,a⟩;have a:=a.symm;subst a)
  exact Xz (v:=.tuple #[]) (by simp[results,results267,go_sem]) Z ⟨ZP.good E.out Z,Z⟩
def QU (w:World) (b:Nat) (O A:Nat->Prop) (s s':JSt) (c:Int) (e:Ending) (w':World):Prop :=
 (c=0/\e=.returned (.tuple #[])/\STo w w' b O A s')\/(c≠0/\e=.panicked (QeZ c)/\STo w w' b O A s)
theorem STo.of_below {s:JSt}(h:SAt w b O A s) (hb:Below w.heap.size w w'):STo w w' b O A s:=(STo.same (h.below hb)).after hb
theorem Yh:type_of% @STo.of_below:=@STo.of_below
theorem QU.after {s g:JSt}{c:Int}{e:Ending}(h:QU w1 b O A s g c e w') (hb:Below w.heap.size w w1):QU w b O A s g c e w':=by
 rcases h with ⟨d,a,f⟩|⟨d,a,f⟩
 ·exact .inl ⟨d,a,f.after hb⟩
 ·exact .inr ⟨d,a,f.after hb⟩
theorem QU.bad {s a:JSt}{c d:Int}(h:c=d) (f:d≠0) (e:STo w w' b O A s):QU w b O A s a c (.panicked (QeZ d)) w':=.inr ⟨by omega,by rw[h],e⟩
theorem Qap {s:JSt}{l:List (TT 6)}(hn:l.length=n) (al:n<=8) (hl:(Qx 6).In w (fun g=>¬ A g) l [.slice p n c]) (hL:s.L.length<=80) (hA:∀ k,A k->k<w.heap.size) (h:SAt w b O A s) :
 Calls prog 244 #[Pv b 0,.slice p n c] w fun e w'=>QU w b O A s { s with L:=s.L++l } (Q4 s.L.length n) e w':=by
 obtain⟨i0,hi,ab,aj,ac⟩:=pInfoT
 have H:=Qb h;have z:=Qb hl;have T:=Qb hn;have C:=Qb (Qe7 n (by omega) hL h);have aa:=Qb hA;clear h hl hn hA;by_cases I:80<s.L.length+n
 ·rw[show Q4 s.L.length n=2 from Xs I] at C |-
  clear I;go_enter func244,ntmps244
  go_wp2_with fail
  refine C.out.mono ?_;rintro e' w' ⟨⟨Q,-⟩|⟨Q,rfl⟩,d⟩
  ·cases Q
  subst d;exact⟨Z,.inr ⟨by decide,Z,STo.same H.out⟩⟩
 rw[show Q4 s.L.length n=0 from Xr I] at C |-
 obtain⟨q,r,xs,M,f6,E,J,f⟩:=H.out.pushL aa.out
 have D:=Qb f;have B:=Qb J
 have C2:Hid (Calls prog 267 #[Pv b 0,Iv n] w fun e w'=>e=.returned (.tuple #[])/\w'=w):=C.out.mono (fun e w' h=>by
  rcases h with ⟨⟨-,x,rfl,hx⟩|⟨Q,-⟩,d⟩
  ·exact⟨by rw[hx],d⟩
  ·exact absurd Z Q)
 clear f J C;by_cases V:n=0
 ·subst V;have ah:l=[]:=Xf.1 T.out;subst ah
  have ha:Hid (∀ (t:TypeId) (F:World),(Builtin.append_ #[80,80] t #[.slice q s.L.length r,.slice p 0 c]).run prog F=.ok (.slice q s.L.length r) F):=fun (t:TypeId) (F:World)=>run_append_nothing (P:=prog) F 80 80 t 105 i0 pUnderT hi q s.L.length r E (.slice p 0 c) (by cases p with
   | none=>exact Src.ofNil F pUnderT c
   | some ad=>exact Src.ofSlice F pUnderT ad 0 c [] (by simp) (fun j u h=>by simp at h) (fun u h=>by cases h))
  have HZ:Hid (STo w (w.setCell ⟨b,6,none⟩ (.slice q s.L.length r)) b O A { s with L:=s.L++[] }):=by
   have e:∀ k,(w.setCell ⟨b,6,none⟩ (.slice q s.L.length r)).heap[k]?=w.heap[k]?:=fun k=>H.out.same6 M k;have hb:Below w.heap.size w (w.setCell ⟨b,6,none⟩ (.slice q s.L.length r)):=⟨Z,Z,Z,by simp,fun k _=>e k⟩;rw[List.append_nil]
   exact Yh H.out hb
  clear D B z;generalize s.L.length=nL at M ha HZ hL E I;go_enter func244,ntmps244
  go_wp2_with (first | (go_at_call 267;refine(C2.out).mono ?_;rintro e w' ⟨rfl,d⟩;have d:=d.symm;subst d) | (at_builtin;refine Qcm Z (.tmp 12) (.tmp 13) 80 Z (.slice q nL r) (.slice p 0 c) Z Z (ha.out _ _) ?_))
  exact Xz (v:=.tuple #[]) (by simp[results,results244,go_sem]) Z (.inl ⟨Z,Z,HZ.out⟩)
 ·obtain⟨g0,o0,rfl⟩:∃ g0 o0,p=some ⟨g0,o0,none⟩:=by
   obtain⟨g,o,dd,e,-⟩:=Yf z.out (Zg (show 0<l.length by have:=T.out;omega))
   exact⟨g,o,e⟩
  obtain⟨S,d1,d2,d3,d4⟩:=Lay.flat z.out (fun y cs hy=>by obtain⟨ya,yc,e,-⟩:=hy;subst e;exact QmS _ _ _ _ _)
  have K:S.length=n*3:=by rw[<-T.out];exact d1
  have X:=Qb K;have af:=Qb d2;have W:=Qb d3
  have i:Hid (∀ m g a,m.ownsRow 0 105 3 (.slice (some ⟨g,0,none⟩) (s.L.length+n) a) (s.L.length+n) (xs++S)->w.grownBy m (Value.slice q s.L.length r).ownBlock->((Value.slice q s.L.length r).ownBlock=some g\/g=w.heap.size)->g<m.heap.size->m.cell? ⟨b,6,none⟩=some (.slice q s.L.length r)/\m.frozen? ⟨b,6,none⟩=false/\STo w (m.setCell ⟨b,6,none⟩ (.slice (some ⟨g,0,none⟩) (s.L.length+n) a)) b O A { s with L:=s.L++l }):=by
   intro m g a G N R U;rw[<-T.out] at G |-
   exact D.out m g a l S d1 G N R U d4
  clear D z d1 K d2 d3 d4;have ai:Hid (0<=w.heap.size):=Xb _;have ae:s.L.length+n<=80:=by omega
  have ag:0<n:=by omega
  generalize s.L.length=nL at M B i hL E I ae;go_enter func244,ntmps244
  go_wp2_with (first | (go_at_call 267;refine(C2.out).mono ?_;rintro e w' ⟨rfl,d⟩;have d:=d.symm;subst d) | (at_builtin;refine wpList_append_lies _ Z (.tmp 12) (.tmp 13) 80 Z 0 105 i0 (.agg #[Iv 0,Iv 0,Nv]) 3 40 pUnderT hi ab aj ac Z (by decide) _ _ _ Z B.out ⟨g0,o0,none⟩ n c S Z X.out af.out W.out ag (by unfold maxLen;omega) (by omega) ai.out w.heap.size Z ?_))
  intro g2 a m G N R U;obtain⟨ak,am,z9⟩:=i.out m g2 a G N R U
  have Z9:=Qb z9;clear G N R U i B z9 M f6;go_wp2
  exact Xz (v:=.tuple #[]) (by simp[results,results244,go_sem]) Z (.inl ⟨Z,Z,Z9.out⟩)
theorem Qet (n:∀ k,A k->k<w.heap.size){t:TT 6}(o:TIn w (fun g=>¬ A g) t p) (l:t.ok) :
 (Qx 6).In (w.alloc (.cells #[Iv t.kind,Iv t.r,.slice p t.len c] 105)) (fun g=>¬ A g) [t] [.slice (some ⟨w.heap.size,0,none⟩) 1 d]:=by
 refine⟨some ⟨w.heap.size,0,none⟩,d,Z,fun i x f=>?_⟩
 have q:i<1:=by simpa using (Zi f).1
 have m:i=0:=by omega
 subst m;simp at f
 subst f;have a:=Qf w #[Iv t.kind,Iv t.r,.slice p t.len c] 105;refine⟨w.heap.size,0,[Iv t.kind,Iv t.r,.slice p t.len c],Z,fun e=>by have:=n _ e;omega,XC a,fun j b=>?_,p,c,Z,o.alloc _,l⟩
 have b:j<3:=b;match j,b with
 | 0,_=>exact Qa a 0 _ Z
 | 1,_=>exact Qa a 1 _ Z
 | 2,_=>exact Qa a 2 _ Z
 | j+3,h=>exact absurd h (by omega)
theorem QbM {s:JSt}(j:s.L.length<=80) (f:∀ k,A k->k<w.heap.size) (h:SAt w b O A s) :
 Calls prog 239 #[Pv b 0] w fun e w'=>QU w b O A s { s with L:=s.L++[tInt] } (Q4 s.L.length 1) e w':=by
 have C:Hid (∀ d,Calls prog 244 #[Pv b 0,.slice (some ⟨w.heap.size,0,none⟩) 1 d] (w.alloc (.cells #[Iv 1,Iv 0,Nv] 105)) fun e w'=>QU w b O A s { s with L:=s.L++[tInt] } (Q4 s.L.length 1) e w'):=fun d=>by
  have g:=ZO w (.cells #[Iv 1,Iv 0,Nv] 105);refine(Qap (l:=[tInt]) Z (by decide) (Qet (t:=tInt) (p:=none) (c:=0) (d:=d) f (fun i x q=>by simp[tInt] at q) (by unfold TT.ok;simp[tInt])) j (fun k r=>Zl (f k r) g.size) (h.below g)).mono (fun e w' a=>a.after g)
 clear h j f;go_enter func239,ntmps239
 go_wp2_with fail
 refine(C.out _).mono ?_
 rintro u w' a;have o:=Qb a;rcases a with ⟨m,rfl,n⟩|⟨m,rfl,n⟩
 rotate_left
 ·exact⟨Z,o.out⟩
 clear m n;go_wp2
 exact Xz (v:=.tuple #[]) (by simp[results,results239,go_sem]) Z o.out
theorem Qj6 (w:World) (Q:Nat->Prop) (k r:Int):TIn (n:=6) w Q (mkT k r []) none:=fun i x a=>by simp at a
theorem QjZ {k r:Int}(h:-9223372036854775808<=r/\r<=9223372036854775807) (a:-9223372036854775808<=k/\k<=9223372036854775807):TT.ok (n:=6) (mkT k r []):=by
 unfold TT.ok;simp
 omega
theorem Qc0 {s:JSt}(k r:Int) (m:0<=r/\r<=1000) (g:0<=k/\k<=4) (d:Nat) (j:s.L.length<=80) (f:∀ k,A k->k<w.heap.size) (h:SAt w b O A s) :
 Calls prog 244 #[Pv b 0,.slice (some ⟨w.heap.size,0,none⟩) 1 d] (w.alloc (.cells #[Iv k,Iv r,Nv] 105)) fun e w'=>QU w b O A s { s with L:=s.L++[mkT k r []] } (Q4 s.L.length 1) e w':=by
 have a:=ZO w (.cells #[Iv k,Iv r,Nv] 105);exact(Qap (l:=[mkT k r []]) Z (by simp) (Qet (t:=mkT k r []) (p:=none) (c:=0) (d:=d) f (Qj6 _ _ _ _) (QjZ (by omega) (by omega))) j (fun k g=>Zl (f k g) a.size) (h.below a)).mono (fun e w' i=>i.after a)
def JSt.openC (s:JSt):Int:=if 80<s.L.length+1\/s.H.length=16 then 2 else 0
def JSt.openS (s:JSt):JSt:={ s with H:=s.H++[true],L:=s.L++[mkT 2 s.H.length []] }
theorem Qh9 {s:JSt}(hH:s.H.length<=16) (P:s.L.length<=80) (R:∀ k,A k->k<w.heap.size) (h:SAt w b O A s) :
 Calls prog 241 #[Pv b 0] w fun e w'=>QU w b O A s s.openS s.openC e w':=by
 have H:=Qb h;have Q:=Qb R;have C:=Qb (Qe7 1 (by decide) P h);clear h R;by_cases m:80<s.L.length+1
 ·rw[show Q4 s.L.length 1=2 from Xs m] at C
  have E:Hid (s.openC=2):=Xs (.inl m);clear m;go_enter func241,ntmps241
  go_wp2_with fail
  refine C.out.mono ?_;rintro M w' ⟨⟨q,-⟩|⟨q,rfl⟩,a⟩
  ·cases q
  subst a;exact⟨Yz,QU.bad E.out (by decide) (STo.same H.out)⟩
 rw[show Q4 s.L.length 1=0 from Xr m] at C
 have B:Hid (Calls prog 267 #[Pv b 0,Iv 1] w fun e w'=>e=.returned (.tuple #[])/\w'=w):=C.out.mono (fun e w' h=>by
  rcases h with ⟨⟨-,x,rfl,V⟩|⟨q,-⟩,a⟩
  ·exact⟨by rw[V],a⟩
  ·exact absurd Yz q)
 clear C;obtain⟨hh,q1,f,i⟩:=H.out.setH Q.out
 have n:=Qb (Qi6 f);have u:=Qb i;clear f i;by_cases l:s.H.length=16
 ·have E:Hid (s.openC=2):=Xs (.inr l);rw[show QbG s.H=-1 by unfold QbG;rw[Xr (by omega)],show Qek s.H=s.H by unfold Qek;rw[Xr (by omega)]] at n
  clear l m;go_enter func241,ntmps241
  go_wp2_with (first | (go_at_call 267;refine(B.out).mono ?_;rintro e w' ⟨rfl,a⟩;have a:=a.symm;subst a) | (go_at_call 237;refine(n.out).mono ?_;rintro e z ⟨rfl,g,c⟩;have Z:=Qb (u.out z _ g c);clear g c))
  refine(Q9 _ 2).mono ?_
  rintro M w' ⟨rfl,a⟩;subst a;exact⟨Yz,QU.bad E.out (by decide) Z.out⟩
 ·have E:Hid (s.openC=0):=Xr (by omega);have j:s.H.length<16:=by omega
  rw[show QbG s.H=(s.H.length:Int) by unfold QbG;rw[Xs j],show Qek s.H=s.H++[true] by unfold Qek;rw[Xs j]] at n
  have I:s.H.length<=1000:=by omega
  generalize o:s.H.length=y at n j I;have J:=Qb o;have W:decide ((y:Int)>=0)=true:=Xt (by omega);clear o l;go_enter func241,ntmps241
  go_wp2_with (first | (go_at_call 267;refine(B.out).mono ?_;rintro e w' ⟨rfl,a⟩;have a:=a.symm;subst a) | (go_at_call 237;refine(n.out).mono ?_;rintro e z ⟨rfl,g,c⟩;have Z:=Qb (u.out z _ g c);clear g c))
  refine(Zd _ _).mono ?_
  rintro M w' ⟨rfl,a⟩;have a:=a.symm;subst a;obtain⟨N,K,T,r⟩:=Z.out
  have t:=Qb (Xh K r);have S:=Qb (fun d=>Qc0 2 (y:Int) (by omega) (by decide) d (by exact P) (fun k p=>by rcases p with p | p;exact Zl (Q.out k p) r.size;exact(K k p).2) T);clear K T r Z u n B;go_wp2_with fail
  refine(S.out _).mono ?_
  rintro M X U;rcases U with ⟨D,rfl,G⟩|⟨D,rfl,G⟩
  rotate_left
  ·exact absurd (Xr m) D
  have F:=Qb (STo.join t.out.1 t.out.2 G);clear D G S t;go_wp2
  refine Xz (v:=.tuple #[]) (by simp[results,results241,go_sem]) Yz (.inl ⟨E.out,Yz,?_⟩);have e:s.openS={ ({ s with H:=s.H++[true] }) with L:=({ s with H:=s.H++[true] }).L++[mkT 2 (y:Int) []] }:=by unfold JSt.openS;rw[J.out]
  rw[e]
  exact F.out
def JSt.freeC (s:JSt) (a:Int):Int:=match s.at a with
 | none=>1
 | some t=>Qt (s.want a 2 true) (if t.r<s.f.regs then 11 else 0)
def JSt.freeS (s:JSt) (a:Int):JSt:={ s with H:=s.H.set (match s.at a with | none=>0 | some t=>t.r.toNat) false }
theorem Qhq {s:JSt}{a:Int}(h:s.want a 2 true≠0):s.freeC a=s.want a 2 true:=by
 unfold JSt.freeC
 cases e:s.at a with
 | none=>unfold JSt.want;rw[e]
 | some t=>show Qt _ _=_;unfold Qt;rw[Xr h]
theorem Qjy {s:JSt}(a:Int) (V:s.L.length<=80) (N:∀ k,A k->k<w.heap.size) (h:SAt w b O A s) :
 Calls prog 242 #[Pv b 0,Iv a] w fun e w'=>QU w b O A s (s.freeS a) (s.freeC a) e w':=by
 have H:=Qb h;have M:=Qb N;clear h N;have aa:∀ (k r:Int) (p:Option Addr) (l c:Nat) (w:World),(Instr.field 105 (.agg #[Iv k,Iv r,.slice p l c]) 1).run prog w=.ok (Iv r) w:=fun _ _ _ _ _ _=>by kernel_rfl
 go_enter func242,ntmps242
 go_wp2_with fail
 refine(Qab a 2 V (fun k I=>M.out k (H.out.sub k I)) H.out).mono ?_
 rintro R w2 ⟨hO,D⟩;have z:=Qb D;have Q:=Qb (H.out.below D);clear D;rcases hO with ⟨m,x,rfl,t,p,c,B,rfl,ht,C⟩|⟨m,rfl⟩
 rotate_left
 ·exact⟨Yz,QU.bad (Qhq m) m (Yh H.out z.out)⟩
 have E:Hid (s.freeC a=if t.r<s.f.regs then 11 else 0):=by show _=_;unfold JSt.freeC Qt;rw[B];simp only[m,if_true]
 have j:hHas s.H t.r=true:=by
  obtain⟨t',y,e2,X⟩:=Qau m
  rw[B] at y
  cases y
  exact X Yz
 have J:Hid (s.freeS a={ s with H:=QfT s.H t.r }):=by show _=_;unfold JSt.freeS QfT;rw[B,j];rfl
 obtain⟨pm,cm,hh,a1,c1,a2,c2,a3,c3,aL,cL,P⟩:=Q.out.read
 obtain⟨-,q1,U,-⟩:=P.cells
 clear P ht C B m j;obtain⟨S,q,d,i⟩:=Q.out.setH (fun k I=>Zl (M.out k I) z.out.size)
 have y:=q1.symm.trans q;simp only[Option.some.injEq,Value.pointer.injEq,Addr.mk.injEq,and_true] at y
 subst y;have K:=Qb (Qi7 t.r d);have W:=Qb i;clear d i q;simp only[Tv]
 generalize s.f.regs=F at U E;generalize t.r=G at E K J |-;by_cases g:G<F
 ·rw[Xs g] at E
  have T:decide (G>=F)=false:=Xu (by omega);clear g;go_wp2_with fail
  refine(Q9 _ 11).mono ?_
  rintro R w' ⟨rfl,n⟩;subst n;exact⟨Yz,QU.bad E.out (by decide) (Yh H.out z.out)⟩
 ·rw[Xr g] at E
  have T:decide (G>=F)=true:=Xt (by omega);clear g;go_wp2_with fail
  refine(Zd _ _).mono ?_
  rintro R w' ⟨rfl,n⟩;have n:=n.symm;subst n;go_wp2_with (go_at_call 269;refine(K.out).mono ?_;rintro e w1 ⟨rfl,u,o⟩;have Z:=Qb (W.out w1 _ u o);clear u o)
  exact Xz (v:=.tuple #[]) (by simp[results,results242,go_sem]) Yz (.inl ⟨E.out,Yz,by rw[J.out];exact Z.out.after z.out⟩)
def JSt.arrayC (s:JSt) (a b:Int):Int:=Qt (Qt (s.want a 2 true) (s.want b 1 false)) (Q4 s.L.length 1)
theorem Qr {a b:Int}(h:a≠0):Qt a b=a:=by unfold Qt;rw[Xr h]
theorem Qw {a b:Int}(h:a=0):Qt a b=b:=by unfold Qt;rw[Xs h]
theorem Qk2 (a:Int) (g:-9223372036854775808<=a/\a<=9223372036854775807) (d:Nat):intsL.In (w.alloc (.cells #[Iv a] 3)) All [a] [.slice (some ⟨w.heap.size,0,none⟩) 1 d]:=by
 refine⟨_,d,Z,fun i x c=>?_⟩
 have k:i<1:=by simpa using (Zi c).1
 have e:i=0:=by omega
 subst e;simp at c
 subst c;have f:=Qf w #[Iv a] 3;refine⟨w.heap.size,0,[Iv a],Z,Y,XC f,fun j b=>?_,Z,g⟩
 have b:j<1:=b;match j,b with
 | 0,_=>exact Qa f 0 _ Z
 | j+1,h=>exact absurd h (by omega)
theorem QkE (a b:Int) (k:-9223372036854775808<=a/\a<=9223372036854775807) (hb:-9223372036854775808<=b/\b<=9223372036854775807) (d:Nat):intsL.In (w.alloc (.cells #[Iv a,Iv b] 3)) All [a,b] [.slice (some ⟨w.heap.size,0,none⟩) 2 d]:=by
 refine⟨_,d,Z,fun i x e=>?_⟩
 have g:i<2:=by simpa using (Zi e).1
 have f:=Qf w #[Iv a,Iv b] 3;match i,g with
 | 0,_ =>
   simp at e
   subst e;refine⟨w.heap.size,0,[Iv a],Z,Y,XC f,fun j c=>?_,Z,k⟩
   have c:j<1:=c;match j,c with
   | 0,_=>exact Qa f 0 _ Z
   | j+1,h=>exact absurd h (by omega)
 | 1,_ =>
   simp at e
   subst e;refine⟨w.heap.size,0,[Iv b],Z,Y,XC f,fun j c=>?_,Z,hb⟩
   have c:j<1:=c;match j,c with
   | 0,_=>exact Qa f 1 _ Z
   | j+1,h=>exact absurd h (by omega)
 | i+2,h=>exact absurd h (by omega)
theorem Qfi {s:JSt}{a:Int}:QM (fun a=>s.want a 1 false) [a]=s.want a 1 false:=by
 show (if s.want a 1 false≠0 then s.want a 1 false else 0)=_;split
 ·rfl
 ·rename_i h;exact(Xq.1 h).symm
theorem QjF {s:JSt}{a b:Int}:QM (fun a=>s.want a 1 false) [a,b]=Qt (s.want a 1 false) (s.want b 1 false):=by
 show (if s.want a 1 false≠0 then s.want a 1 false else QM (fun a=>s.want a 1 false) [b])=_;rw[Qfi]
 by_cases h:s.want a 1 false=0
 ·rw[Xr (by simpa using h),Qw h]
 ·rw[Xs h,Qr h]
theorem QbA {s:JSt}(a:Int) (i:-9223372036854775808<=a/\a<=9223372036854775807) (d:Nat) (g:s.L.length<=80) (f:∀ k,O k->k<w.heap.size) (h:SAt w b O A s) :
 Calls prog 240 #[Pv b 0,.slice (some ⟨w.heap.size,0,none⟩) 1 d] (w.alloc (.cells #[Iv a] 3)) fun e w'=>ZP (s.want a 1 false) VNone e/\Below w.heap.size w w':=by
 have c:=ZO w (.cells #[Iv a] 3)
 have:=QbQ (l:=[a]) Z (by simp) (Qk2 a i d) g (fun k j=>Zl (f k j) c.size) (h.below c)
 rw[Qfi] at this
 exact this.mono (fun e w' h=>⟨h.1,c.trans (h.2.mono c.size)⟩)
theorem QfA {s:JSt}(a a':Int) (j:-9223372036854775808<=a/\a<=9223372036854775807) (f:-9223372036854775808<=a'/\a'<=9223372036854775807) (d:Nat) (i:s.L.length<=80) (g:∀ k,O k->k<w.heap.size) (h:SAt w b O A s) :
 Calls prog 240 #[Pv b 0,.slice (some ⟨w.heap.size,0,none⟩) 2 d] (w.alloc (.cells #[Iv a,Iv a'] 3)) fun e w'=>ZP (Qt (s.want a 1 false) (s.want a' 1 false)) VNone e/\Below w.heap.size w w':=by
 have c:=ZO w (.cells #[Iv a,Iv a'] 3)
 have:=QbQ (l:=[a,a']) Z (by simp) (QkE a a' j f d) i (fun k m=>Zl (g k m) c.size) (h.below c)
 rw[QjF] at this
 exact this.mono (fun e w' h=>⟨h.1,c.trans (h.2.mono c.size)⟩)
theorem QhH {s:JSt}(a a':Int) (o:-9223372036854775808<=a'/\a'<=9223372036854775807) (hH:s.H.length<=16) (B:s.L.length<=80) (Q:∀ k,A k->k<w.heap.size) (h:SAt w b O A s) :
 Calls prog 247 #[Pv b 0,Iv a,Iv a'] w fun e w'=>∀ t,(s.at a=some t\/(s.at a=none/\t=tInt))->QU w b O A s { s with L:=s.L++[mkT 4 t.r []] } (s.arrayC a a') e w':=by
 have H:=Qb h;have P:=Qb Q;have HI:=Qb o;clear h Q o;have aa:∀ (k r:Int) (p:Option Addr) (l c:Nat) (w:World),(Instr.field 105 (.agg #[Iv k,Iv r,.slice p l c]) 1).run prog w=.ok (Iv r) w:=fun _ _ _ _ _ _=>by kernel_rfl
 go_enter func247,ntmps247
 go_wp2_with fail
 refine(Qab a 2 B (fun k g=>P.out k (H.out.sub k g)) H.out).mono ?_
 rintro K w2 ⟨G,u⟩;have z:=Qb u;have I:=Qb (H.out.below u);have n:=Qb (fun k g=>Zl (P.out k g) u.size);clear u;rcases G with ⟨f,x,rfl,t,p,c,J,rfl,ht,y⟩|⟨f,rfl⟩
 rotate_left
 ·exact⟨Z,fun t _=>QU.bad (by unfold JSt.arrayC;rw[Qr f,Qr f]) f (Yh H.out z.out)⟩
 have E:Hid (s.arrayC a a'=Qt (s.want a' 1 false) (Q4 s.L.length 1)):=by show _=_;unfold JSt.arrayC;rw[Qw f]
 have M:0<=t.r/\t.r<=1000:=by
  obtain⟨t',U,e2,W⟩:=Qau f
  rw[J] at U
  cases U
  have:=Z3 (W Z)
  omega
 have j:=Qb J;have HR:=Qb M;clear ht y J f M;simp only[Tv]
 have C:=Qb (fun d=>QbA a' HI.out d B (fun k g=>n.out k (I.out.sub k g)) I.out);go_wp2_with fail
 refine(C.out _).mono ?_
 rintro K w3 ⟨G,q⟩;have m:=Qb (z.out.trans (q.mono z.out.size));have H3:=Qb (I.out.below q);have D:=Qb (fun k g=>Zl (n.out k g) q.size);rcases G with ⟨f,x,rfl,hx⟩|⟨f,rfl⟩
 rotate_left
 ·exact⟨Z,fun t _=>QU.bad (by rw[E.out,Qr f]) f (Yh H.out m.out)⟩
 subst hx;have X:Hid (s.arrayC a a'=Q4 s.L.length 1):=by show _=_;rw[E.out,Qw f]
 clear q f E C;have T:=Qb (fun d=>Qc0 4 t.r HR.out (by decide) d B D.out H3.out);go_wp2_with fail
 refine(T.out _).mono ?_
 rintro K V N
 have F:Hid (∀ t,(s.at a=some t\/(s.at a=none/\t=tInt))->QU w b O A s { s with L:=s.L++[mkT 4 t.r []] } (s.arrayC a a') K V):=fun t' i=>by
  rcases i with i | ⟨i,-⟩
  ·have e:=i.symm.trans j.out;injection e with e
   subst e;rw[X.out]
   exact N.after m.out
  ·rw[j.out] at i;cases i
 rcases N with ⟨R,rfl,S⟩|⟨R,rfl,S⟩
 rotate_left
 ·exact⟨Z,F.out⟩
 clear R S T;go_wp2
 exact Xz (v:=.tuple #[]) (by simp[results,results247,go_sem]) Z F.out
theorem QcR {a:World}(h:Below B a w):Below B a w.drew:=⟨h.os,h.tape,h.output,h.size,h.block⟩
theorem ZA (h:Below w.drew.heap.size w.drew w'):Below w.heap.size w w':=⟨h.os,h.tape,h.output,h.size,h.block⟩
noncomputable def JSt.beC (s:JSt) (a:Int) (t:TT 6):Int:=match s.at a with | none=>1 | some v=>if Qam (v=t) then 0 else 9
theorem Qiz {s:JSt}{a:Int}{t:TT 6}(h:s.has a≠0):s.beC a t=s.has a:=by
 unfold JSt.has JSt.beC at *
 cases e:s.at a with
 | none=>rfl
 | some t=>rw[e] at h;exact absurd Z h
theorem QkZ {s:JSt}{a:Int}{t v:TT 6}(h:s.at a=some v):s.beC a t=if Qam (v=t) then 0 else 9:=by unfold JSt.beC;rw[h]
theorem QcV {s:JSt}(a:Int){t:TT 6}(U:TIn w Q t p) (hL:s.L.length<=80) (j:∀ x∈s.L,x.count<=100000) (hO:∀ k,O k->k<w.heap.size) (h:SAt w b O A s) :
 Calls prog 246 #[Pv b 0,Iv a,Tv t p c] w fun e w'=>ZP (s.beC a t) VNone e/\Below w.heap.size w w':=by
 have H:=ZO w (.cells #[Iv t.kind,Iv t.r,.slice p t.len c] 105);have J:=Qb (h.below H);have l:=Qb H;have M:=Qb (U.below H);have n:Hid (Blk (w.alloc (.cells #[Iv t.kind,Iv t.r,.slice p t.len c] 105)) w.heap.size #[Iv t.kind,Iv t.r,.slice p t.len c] 105):=Blk.new _ _ _;have S:=Qb j;clear h H hO U j;go_enter func246,ntmps246
 go_upto_region 1 with fail
 generalize w.alloc (.cells #[Iv t.kind,Iv t.r,.slice p t.len c] 105)=o at J l M n |-;obtain⟨X,T⟩:∃ X,w.heap.size=X:=⟨_,Z⟩
 rw[T] at n |-
 rw[<-T]
 have C:Hid (∀ f,Below o.heap.size o f->Calls prog 270 #[Pv b 0,Iv a] f fun e w'=>ZP (s.has a) (Qml w' A s a) e/\Below f.heap.size f w'):=fun f I=>Qca a hL (J.out.below I)
 have D:Hid (∀ (v:TT 6) (q:Option Addr) (d:Nat) (f:World),s.at a=some v->TIn f (fun g=>¬ A g) v q->Below o.heap.size o f->Calls prog 261 #[Tv v q d,Tv t p c] f fun e w'=>Q6 e (v=t)/\Below f.heap.size f w') :=
  fun v q d f F m I=>same_any 6 v t q p d c f m.all (M.out.below I).all (S.out v (QdE F).1)
 clear J M S;have y0:=Qa n.out 0 _ Z;have y1:=Qa n.out 1 _ Z;have y2:=Qa n.out 2 _ Z;clear n
 go_region_with (first
  | (go_at_call 270;refine(C.out _ (QcR Zr)).mono ?_;rintro W w2 ⟨⟨u,x,rfl,v,q,d,F,rfl,B,-⟩|⟨u,rfl⟩,K⟩;rotate_left;exact⟨Z,.inr ⟨by rw[Qiz u];exact u,by rw[Qiz u]⟩,l.out.trans ((ZA K).mono l.out.size)⟩;have i:Below o.heap.size o w2:=ZA K;have y3:=Qo y0 i;have y4:=Qo y1 i;have y5:=Qo y2 i;have N:=Qb i;have G:=Qb (Xh F B);clear F B u K i)
  | (go_at_call 261;refine(D.out _ _ _ _ G.out.1 G.out.2 N.out).mono ?_;rintro W w3 ⟨⟨V,rfl,z⟩,P⟩;have R:=Qb (N.out.trans (P.mono N.out.size));have y:=Qb z;clear P z)
  | (go_at_call 268;refine(Qbw _ _ _).mono ?_;rintro W w' ⟨E,⟨m,rfl⟩|⟨m,rfl⟩⟩;rotate_left;exact⟨Z,ZP.bad (by rw[QkZ G.out.1,show Qam _=V from Bool.eq_iff_iff.2 (Qbb.trans y.out.symm),m];rfl) (by decide),by rw[E];exact l.out.trans (R.out.mono l.out.size)⟩;have E:=E.symm;subst E))
 all_goals
  have E9:Hid (s.beC a t=0):=by show _=_;rw[QkZ G.out.1,show Qam _=V from Bool.eq_iff_iff.2 (Qbb.trans y.out.symm),m];rfl
  have B9:Hid (Below w.heap.size w w3):=l.out.trans (R.out.mono l.out.size);clear m;go_wp2
  exact Xz (v:=.tuple #[]) (by simp[results,results246,go_sem]) Z ⟨ZP.good E9.out Z,B9.out⟩
theorem Qes {o:Oper}{a:Act}{w:World}{K:Act->World->Prop}{Q:Exit->Act->World->Prop}{E:Prop}(b:o.guard=none) (F:Nat) (x y:Operand) (t u:TypeId)
 (g:o.op=.call { callee:=.value (.func F),args:=#[x,y],argTypes:=#[t,u] }) (k:∀ (args:Array Value) (w:World),(callFunc F args).run P w=.ok (.enter F args) w) (v z:Value) (e:a.eval x=v) (d:a.eval y=z) {R:Ending->World->Prop} (C:Calls P F #[v,z] w R)
 (h:∀ en w',R en w'->QnL K Q o a en w'):if Region.wanted o (yielded ops a.tmps)=true then Oper.wp P o a w K Q else E:=by
 have f:Region.wanted o (yielded ops a.tmps)=true:=by simp[Region.wanted,b]
 rw[Xs f]
 unfold Oper.wp
 have j:(execOp a.eval o).run P w=.ok (.enter F #[v,z]) w:=by
  have i:a.eval (.func F)=.func (.func F) #[] #[]:=rfl;unfold execOp;simp[g,resolve,invoke,Deferred.ofValue,e,d,k,i,Result.andThen]
 rw[j,Oper.upon_enter]
 refine C.mono fun en w' c=>?_
 have:=h en w' c
 cases en<;>exact this
theorem QbT {s:JSt}:∀ {l m:List Int}{x y:List (TT 6)},s.fields l=some x->s.fields m=some y->s.fields (l++m)=some (x++y)
 | [],m,x,y,h1,h2=>by simp[JSt.fields] at h1;subst h1;exact h2
 | k::r,m,x,y,h1,h2=>by
   simp only[JSt.fields] at h1
   show s.fields (k::(r++m))=_;simp only[JSt.fields]
   cases hk:s.at k with
   | none=>simp[hk] at h1
   | some t =>
     simp only[hk] at h1
     cases hr:s.fields r with
     | none=>simp[hr] at h1
     | some l =>
       simp only[hr,Option.some.injEq] at h1
       subst h1;rw[QbT hr h2]
       rfl
theorem QfL {s:JSt}{y:Int}{t:TT 6}{L:List (TT 6)}(b:l[k]?=some y) (a:s.at y=some t) (h:s.fields (l.take k)=some L):s.fields (l.take (k+1))=some (L++[t]):=by
 rw[XV,b]
 exact QbT h (by simp[JSt.fields,a])
theorem Qd0 {s:JSt}:∀ {l:List Int}{y:Int},y∈l->s.at y=none->s.fields l=none
 | k::r,y,a,h=>by
   simp only[JSt.fields]
   rcases List.mem_cons.1 a with rfl | a
   ·rw[h]
   ·rw[Qd0 a h]
    cases s.at k<;>rfl
def JSt.tupleC (s:JSt) (a:Int) (args:List Int):Int:=Qt (s.want a 2 true) (match s.at a with
 | none=>0
 | some t=>match s.fields args with
   | none=>1
   | some l=>if 4<TT.height (n:=7) (mkT 3 t.r l) then 19 else Q4 s.L.length 1)
def JSt.tupleS (s:JSt) (a:Int) (args:List Int):JSt:={ s with L:=s.L++(match s.at a with
 | none=>[]
 | some t=>match s.fields args with
   | none=>[]
   | some l=>[TT.at (n:=7) 5 (mkT 3 t.r l)]) }
theorem Qgg {R:Int}{r:Int}{l:List (TT 6)}(b:0<=r/\r<R) (c:l.length<=8) (h:∀ t∈l,t.check R=0):TT.check (n:=7) R (mkT 3 r l)=if 4<TT.height (n:=7) (mkT 3 r l) then 19 else 0:=by
 show (if 4<TT.height (n:=7) (mkT 3 r l) then 19 else TT.fault (n:=7) R (mkT 3 r l))=_
 have:TT.fault (n:=7) R (mkT 3 r l)=0:=by
  show (if ownC 3 r l.length R≠0 then ownC 3 r l.length R else QM (TT.fault R) l)=0
  have:ownC 3 r l.length R=0:=by
   unfold ownC;rw[Xr (by omega),Xr (by omega),Xr (by omega),Xr (by omega),Xr (by omega)]
  rw[this]
  simp only[ne_eq,not_true_eq_false,if_false]
  exact QP.2 fun y a=>(Q0.1 (h y a)).2
 rw[this]
structure TuS (w wc:World) (B lo:Nat) (A:Nat->Prop) (r:Int) (v:Value) (L:List (TT 6)):Prop where
 bel:Below w.heap.size w wc
 box:Blk wc B #[Iv 3,Iv r,v] 105
 row:TRq wc (fun g=>lo<=g) (fun g=>¬ (A g\/w.heap.size<=g)) v L
 lo1:B<lo
 lo2:lo<=wc.heap.size
 far:w.heap.size<=B
section
variable {w wc w9:World}{B lo:Nat}{A:Nat->Prop}{r:Int}{v:Value}{L:List (TT 6)}
theorem TRq.below {w:World}{v:Value}{L:List (TT 6)}(h:TRq w O Q v L) (k:Below w.heap.size w w'):TRq w' O Q v L:=h.keep (fun g b _=>k.block g b) (fun _ a=>h.own a) (fun _ h _=>h)
theorem TuS.below (h:TuS w wc B lo A r v L) (k:Below wc.heap.size wc w9):TuS w w9 B lo A r v L :=
 ⟨h.bel.trans (k.mono h.bel.size),h.box.below k,h.row.below k,h.lo1,Zt h.lo2 k.size,h.far⟩
theorem TuS.push {t:TT 6}(h:TuS w wc B lo A r (.slice a L.length c) L) (j:wc.ownsRow 0 105 3 (.slice a L.length c) L.length xs) (ht:(Lay.tt 6).In wc (fun g=>¬ (A g\/w.heap.size<=g)) t [Iv t.kind,Iv t.r,.slice p t.len d])
 (h1:w9.ownsRow 0 105 3 (.slice (some ⟨g,0,none⟩) (L.length+1) cap) (L.length+1) (xs++[Iv t.kind,Iv t.r,.slice p t.len d])) (n:wc.grownBy w9 (Value.slice a L.length c).ownBlock) (y:(Value.slice a L.length c).ownBlock=some g\/g=wc.heap.size) :
 w9.cell? ⟨B,2,none⟩=some (.slice a L.length c)/\w9.frozen? ⟨B,2,none⟩=false/\TuS w (w9.setCell ⟨B,2,none⟩ (.slice (some ⟨g,0,none⟩) (L.length+1) cap)) B lo A r (.slice (some ⟨g,0,none⟩) (L.length+1) cap) (L++[t]):=by
 have W:=n.size;have o:=h.lo1;have Q:=h.lo2;have D:=h.box.lt;have T:=h.bel.size;have b:∀ k,(Value.slice a L.length c).ownBlock=some k->lo<=k:=fun k f=>h.row.own f;have H:Blk w9 B #[Iv 3,Iv r,.slice a L.length c] 105:=(n.block B D (fun e=>by have:=b B e.symm;omega)).trans h.box
 have q:lo<=g:=by
  rcases y with y | y
  ·exact b g y
  ·omega
 have G:g≠B:=by omega
 have E:=h.far
 have u:∀ k,k<w.heap.size->(w9.setCell ⟨B,2,none⟩ (.slice (some ⟨g,0,none⟩) (L.length+1) cap)).heap[k]?=wc.heap[k]?:=fun k f=>by
  rw[Xd _ _ _ _ (show k≠B by omega),n.block k (by omega) (fun e=>by have:=b k e.symm;omega)]
 refine⟨Qa H 2 _ Z,Qe H 2,⟨⟨n.os.trans h.bel.os,n.tape.trans h.bel.tape,n.output.trans h.bel.output,by simp;omega,fun k f=>(u k f).trans (h.bel.block k f)⟩,?_,?_,o,by simp;omega,E⟩⟩
 ·have:=Qh H 2 (.slice (some ⟨g,0,none⟩) (L.length+1) cap)
  simpa using this
 ·obtain⟨m,R,q2,V⟩:=h.row
  have e:m=xs:=by
   obtain⟨e1,S⟩:=R
   obtain⟨f1,f2⟩:=j
   rcases S with ⟨v,K⟩|⟨g1,N,I,v,K,e5,e6,e7,e8,U⟩
   ·have:L.length=0:=K
    rw[Xf.1 (show m.length=0 by rw[e1,this]),Xf.1 (show xs.length=0 by rw[f1,this])]
   ·rcases f2 with ⟨z,f4⟩|⟨g2,M,O,z,f4,J,f6,f7,f8,X⟩
    ·rw[z] at v;cases v
    ·rw[v] at z
     cases z
     rw[e5] at J
     cases J
     rw[<-U,<-X]
  subst e;refine⟨m++[Iv t.kind,Iv t.r,.slice p t.len d],?_,fun k f=>?_,?_⟩
  ·rw[List.length_append]
   exact QcI h1 (Xd _ _ _ _ G)
  ·simp[Value.ownBlock] at f
   subst f;exact q
  ·have l:∀ {x:TT 6} {C:List Value},(Lay.tt 6).In wc (fun g=>¬ (A g\/w.heap.size<=g)) x C->(Lay.tt 6).In (w9.setCell ⟨B,2,none⟩ (.slice (some ⟨g,0,none⟩) (L.length+1) cap)) (fun g=>¬ (A g\/w.heap.size<=g)) x C:=fun j=>(Lay.tt 6).keep (fun k f _=>u k (Nat.lt_of_not_le (fun e=>f (.inr e)))) (fun _ h _=>h) j;refine Qbq (s:=3) (P:=fun x C=>(Lay.tt 6).In _ _ x C) R.1 (fun i x j=>l (V i x j)) (fun i x j=>?_);have hi:i<1:=by simpa using (Zi j).1
   have F:i=0:=by omega
   subst F;simp at j
   subst j;exact l ht
end
theorem Qdz {w:World}{v:Value}(h:w.ownsRow 0 e s v n xs) (hb:Below w.heap.size w w'):w'.ownsRow 0 e s v n xs:=by
 obtain⟨j,f⟩:=h
 refine⟨j,?_⟩
 rcases f with i | ⟨g,b,a,k,d,c,r⟩
 ·exact .inl i
 ·exact .inr ⟨g,b,a,k,d,(hb.block g (XC c)).trans c,r⟩
theorem TuS.lin {w wc:World}{B lo:Nat}{A:Nat->Prop}{r:Int}{L:List (TT 6)}(h:TuS w wc B lo A r (.slice a N c) L) (t:∀ k,A k->k<w.heap.size):LIn wc (fun g=>¬ A g) L a/\N=L.length/\∀ x∈L,x.ok:=by
 obtain⟨d,j,e,s,b,-⟩:=h.row.form
 simp only[Value.slice.injEq] at e
 obtain⟨rfl,rfl,rfl⟩:=e
 have v:=h.lo1;have z:=h.far;refine⟨fun i x f=>?_,Z,fun x f=>?_⟩
 ·obtain⟨g,d,j,e,m,o,l,p,n⟩:=b i x f
  subst e;have y:lo<=g:=h.row.own Z;refine⟨g,0,d,j,Z,fun e=>by have:=t g e;omega,?_,?_,?_,p.mono (fun k u _ e=>u (.inl e))⟩
  ·rw[XK];exact m
  ·rw[XK];exact o
  ·rw[XK];exact l
 ·obtain⟨i,q,e⟩:=List.mem_iff_getElem.1 f
  obtain⟨g,d,j,e,m,o,l,p,n⟩:=b i x (by rw[Zg q,e])
  exact n
theorem Qju {r:Int}{l:List (TT 6)}(h:∀ x∈l,x.count<=4681) (c:l.length<=8):TT.count (n:=7) (mkT 3 r l)<=100000:=by
 show 1+(l.map TT.count).sum<=100000;have d:=sum_le_mul (l.map TT.count) 4681 (fun x b=>by obtain⟨y,a,rfl⟩:=List.mem_map.1 b;exact h y a);rw[XN] at d
 have e:l.length*4681<=8*4681:=Xp _ c;omega
theorem QiK {w:World}{A:Nat->Prop}(f:∀ k,A k->k<w.heap.size){r:Int}{L:List (TT 6)}(i:0<=r/\r<=1000) (h:¬ 4<TT.height (n:=7) (mkT 3 r L)) (e:LIn w (fun g=>¬ A g) L p) (a:∀ x∈L,x.ok) :
 (Qx 6).In (w.alloc (.cells #[Iv 3,Iv r,.slice p L.length c] 105)) (fun g=>¬ A g) [TT.at (n:=7) 5 (mkT 3 r L)] [.slice (some ⟨w.heap.size,0,none⟩) 1 d]:=by
 have b:TT.height (n:=7) (mkT 3 r L)<=5:=by omega
 have:=Qet (t:=TT.at (n:=7) 5 (mkT 3 r L)) (p:=p) (c:=c) (d:=d) f (TIn.at 5 b (LIn.tree e)) (TT.at_ok 5 ⟨⟨by show -9223372036854775808<=r;omega,by show r<=9223372036854775807;omega⟩,a⟩)
 rw[TT.at_kind,TT.at_r,TT.at_len 5 _ b] at this
 exact this
theorem enters_value:Qaf 270:=fun _ _=>by kernel_rfl
theorem QhJ {w:World}{A:Nat->Prop}{s:JSt}(a:Int){args:List Int}(hN:args.length=N) (ay:N<=8) (hl:intsL.In w Q args [.slice pa N ca]) (hJ:JOk s) (hA:∀ k,A k->k<w.heap.size) (h:SAt w b O A s) :
 Calls prog 243 #[Pv b 0,Iv a,.slice pa N ca] w fun e w'=>QU w b O A s (s.tupleS a args) (s.tupleC a args) e w':=by
 have aw:∀ (k r:Int) (p:Option Addr) (l c:Nat) (w:World),(Instr.field 105 (.agg #[Iv k,Iv r,.slice p l c]) 1).run prog w=.ok (Iv r) w:=fun _ _ _ _ _ _=>by kernel_rfl
 obtain⟨i0,hi,an,ar,aq⟩:=pInfoT
 have H:=Qb h;have HA:=Qb hA;have HO:Hid (∀ k,O k->k<w.heap.size):=fun k V=>hA k (h.sub k V);have HL:=Qb hl;have HN:=Qb hN;have HJ:=Qb hJ;have hL:=hJ.vals;clear h hA hl hN hJ;go_enter func243,ntmps243
 go_wp2_with fail
 refine(Qab a 2 hL HO.out H.out).mono ?_
 rintro e' X ⟨hO,b2⟩;have HB:=Qb b2;clear b2;rcases hO with ⟨f,x,rfl,t,p,c,ha,rfl,ht,I⟩|⟨f,rfl⟩
 rotate_left
 ·exact⟨Z,QU.bad (by unfold JSt.tupleC;rw[Qr f]) f (Yh H.out HB.out)⟩
 have hr:0<=t.r/\t.r<s.H.length:=by
  obtain⟨t',e1,e2,e3⟩:=Qau f
  rw[ha] at e1
  cases e1
  exact Z3 (e3 Z)
 have HR:=Qb hr;have E:Hid (s.tupleC a args=match s.fields args with | none=>1 | some l=>if 4<TT.height (n:=7) (mkT 3 t.r l) then 19 else Q4 s.L.length 1):=by show _=_;unfold JSt.tupleC;rw[Qw f,ha]
 have ES:Hid (∀ l,s.fields args=some l->s.tupleS a args={ s with L:=s.L++[TT.at (n:=7) 5 (mkT 3 t.r l)] }):=fun l hl=>by unfold JSt.tupleS;rw[ha,hl]
 clear hr f ha ht I;simp only[Tv]
 go_upto_region 1 with fail
 have T0:Hid (TuS w (X.alloc (.cells #[Iv 3,Iv t.r,Nv] 105)) X.heap.size (X.heap.size+1) A t.r (Nv) []) :=
  ⟨HB.out.trans ((ZO _ _).mono HB.out.size),Blk.new _ _ _,⟨[],⟨Z,.inl ⟨Z,Z⟩⟩,fun g hg=>by simp[Value.ownBlock] at hg,fun i x hx=>by simp at hx⟩,Nat.lt_succ_self _,by simp,HB.out.size⟩
 generalize X.alloc (.cells #[Iv 3,Iv t.r,Nv] 105)=w3 at T0 |-;generalize X.heap.size=B at T0 |-;generalize t.r=r at T0 HR E ES |-;clear HB;go_wp2
 go_loopw [16] (fun i wr=>∃ (k:Nat) (v:Value) (L:List (TT 6)),k<=N/\i=Iv k/\TuS w wr B (B+1) A r v L/\s.fields (args.take k)=some L) (fun i _=>N - (intOf i).toNat)
 case atStart=>exact⟨0,_,_,Xb _,Z,T0.out,Z⟩
 case round =>
  clear T0;obtain⟨k,v,L,V,rfl,hT,hf⟩:=hrel
  have HF:=Qb hf
  have ae:Hid (L.length=k):=by
   show _=_
   have:=(QaF hf).1
   rw[List.length_take,HN.out] at this
   omega
  have ai:L.length<=8:=by have:=ae.out;omega
  obtain⟨aL,W,rfl,ax,-,xs,ah⟩:=hT.row.form
  have D:=Qb hT;have ao:=Qb ah;clear hf hT ah;by_cases af:k<N
  ·have aj:(k:Int)<N:=by omega
   have T:k<args.length:=by rw[HN.out];exact af
   obtain⟨g,o,rfl,-,hg,U⟩:=ZJ HL.out T
   obtain⟨y,hy⟩:∃ y,args[k]?=some y:=⟨_,Zg T⟩
   rw[show args.getD k 0=y by rw[List.getD_eq_getElem?_getD,hy];rfl] at U
   have HX:=Qb hy;have y0:=Qo U D.out.bel;have z2:=Qa D.out.box 2 _ Z;clear U T hy;go_upto_region 4 with fail
   have BD:Hid (Below w.heap.size w wr.drew):=QcR D.out.bel
   go_region_law (first
    | (refine Qes Z 270 (.tmp 22) (.tmp 23) 234 3 Z enters_value (.pointer (some ⟨b,0,none⟩)) (.int .i64 y) (by simp[Act.eval,Act.put]) (by simp[Act.eval,Act.put]) (Qca y hL (H.out.more HO.out BD.out)) ?_
       rintro e' K ⟨hO,R⟩;rcases hO with ⟨f,x,rfl,u,q,d,hu,rfl,ag,I⟩|⟨f,rfl⟩
       rotate_left
       ·have ab:s.at y=none:=by
         unfold JSt.has at f
         cases e:s.at y with
         | none=>rfl
         | some t=>rw[e] at f;exact absurd Z f
        exact⟨Z,QU.bad (d:=s.has y) (by rw[E.out,Qd0 (Zm HX.out) ab];unfold JSt.has;rw[ab]) f (Yh H.out (BD.out.trans (R.mono BD.out.size)))⟩
       have T4:=Qb (D.out.below (ZA R));have HU:=Qb hu;have I4:Hid ((Lay.tt 6).In K (fun g=>¬ (A g\/w.heap.size<=g)) u [Iv u.kind,Iv u.r,.slice q u.len d]):=⟨q,d,Z,ag,I⟩;have z4:=Qa T4.out.box 2 _ Z;have al:=T4.out.box.lt;have C:=Qb (Qdz ao.out (ZA R));clear hu ag I R f;dsimp only [QnL])
    | (refine step_append_lies _ Z (.tmp 21) (.tmp 25) 80 Z 0 105 i0 (.agg #[.int .i64 0,.int .i64 0,.slice none 0 0]) 3 40 pUnderT hi an ar aq Z (by decide) (.slice aL L.length W) L.length xs (by simp[Act.eval,Act.put]) (C.out.alloc _) ⟨K.heap.size,0,none⟩ 1 1 [.int .i64 u.kind,.int .i64 u.r,.slice q u.len d] (by simp[Act.eval,Act.put]) Z (Qmh _ _ _) (QmS _ _ _ _ _) (by decide) (by unfold maxLen;omega) (by omega) (Xb _) (K.heap.size+1) (by simp) ?_
       intro g2 aa w9 h1 h2 h3 G;have b5:=ZO K (.cells #[Iv u.kind,Iv u.r,.slice q u.len d] 105);obtain⟨z9,f9,t9⟩:=(T4.out.below b5).push (Qdz C.out b5) (Ya I4.out b5) h1 h2 (by simpa using h3)
       have T9:=Qb t9;clear h1 h2 h3 G b5 t9))
   all_goals
    have FF:=Qb (QfL HX.out HU.out HF.out);clear T4 HU I4 z4 C z9 f9 al;generalize w9.setCell ⟨B,2,none⟩ (.slice (some ⟨g2,0,none⟩) (L.length+1) aa)=av at T9 |-;go_wp2
    go_roundw
    case rel=>exact⟨k+1,_,L++[u],af,by go_num,T9.out,FF.out⟩
    case measure=>simp[intOf];omega
  ·have au:k=N:=by omega
   have aj:¬ (k:Int)<N:=by omega
   have J:s.fields args=some L:=by
    have:=HF.out
    rwa [XO (by rw[HN.out];omega)] at this
   obtain⟨z,-,M⟩:=D.out.lin HA.out
   have S:∀ x∈L,x.check s.H.length=0:=fun x hx=>HJ.out.types x ((QaF J).2 x hx);have EC:Hid (TT.check (n:=7) (s.H.length:Int) (mkT 3 r L)=if 4<TT.height (n:=7) (mkT 3 r L) then 19 else 0):=Qgg HR.out ai S;have E2:Hid (s.tupleC a args=if 4<TT.height (n:=7) (mkT 3 r L) then 19 else Q4 s.L.length 1):=by show _=_;rw[E.out,J]
   have ap:=Qb (ES.out L J);have ac:=Qb (Xh z M);have am:Hid (TT.count (n:=7) (mkT 3 r L)<=100000):=Qju (fun x hx=>Z7 (S x hx)) ai;have H9:=Qb (H.out.below D.out.bel);obtain⟨pm,cm,hh,a1,c1,a2,c2,a3,c3,az,a0,RR⟩:=H9.out.read
   obtain⟨-,q1,-⟩:=RR.cells
   have CL:Hid (∀ m,Calls prog 271 #[Pv hh 0] (wr.drewN m) fun e w'=>e=.returned (Iv (s.H.length:Int))/\w'=wr.drewN m):=fun m=>Qky (show QC (wr.drewN m) hh s.H from RR.held);have CC:Hid (Calls prog 223 #[.agg #[Iv 3,Iv r,.slice aL L.length W],Iv (s.H.length:Int)] wr.drew fun e w'=>e=.returned (Iv (TT.check (n:=7) (s.H.length:Int) (mkT 3 r L)))/\Below wr.drew.heap.size wr.drew w'):=check_any 7 (mkT 3 r L) aL W _ wr.drew (TIn.all (LIn.tree z).drew) am.out;obtain⟨z0,z1,z2⟩:=QkS D.out.box
   clear J z M S RR HF ae;generalize TT.check (n:=7) (s.H.length:Int) (mkT 3 r L)=ck at EC CC;generalize (s.H.length:Int)=nH at CL CC;go_upto_region 6 with fail
   go_region_with (first
    | (go_at_call 271;refine(CL.out _).mono ?_;rintro e w' ⟨rfl,P⟩;have P:=P.symm;subst P)
    | (go_at_call 223;refine(CC.out).mono ?_;rintro e K ⟨rfl,R⟩;have B4:=Qb (ZA R);clear R)
    | (go_at_call 268;refine(Qbw _ _ _).mono ?_;rintro e' w' ⟨P,⟨hq,rfl⟩|⟨hq,rfl⟩⟩;rotate_left;exact⟨Z,QU.bad (d:=19) (by rw[E2.out];have j:ck≠0:=(by simpa using hq);rw[EC.out] at j;by_cases G:4<TT.height (n:=7) (mkT 3 r L);rw[Xs G];rw[Xr G] at j;exact absurd Z j) (by decide) (by rw[P];exact Yh H.out (D.out.bel.trans (B4.out.mono D.out.bel.size)))⟩;have P:=P.symm;subst P))
   all_goals
    have j:ck=0:=by simpa using hq
    have G:¬ 4<TT.height (n:=7) (mkT 3 r L):=fun G=>by
     have:=EC.out
     rw[Xs G,j] at this
     cases this
    have E3:Hid (s.tupleC a args=Q4 s.L.length 1):=by show _=_;rw[E2.out,Xr G]
    have T5:=Qb (D.out.below B4.out);have ad:Hid (∀ k,A k->k<K.heap.size):=fun k V=>Zl (HA.out k V) T5.out.bel.size
    have CM:Hid (∀ d,Calls prog 244 #[Pv b 0,.slice (some ⟨K.heap.size,0,none⟩) 1 d] (K.alloc (.cells #[Iv 3,Iv r,.slice aL L.length W] 105)) fun e w'=>QU w b O A s (s.tupleS a args) (s.tupleC a args) e w'):=fun d=>by
     have b1:=ZO K (.cells #[Iv 3,Iv r,.slice aL L.length W] 105);have ak:=T5.out.bel.trans (b1.mono T5.out.bel.size);rw[ap.out,E3.out]
     exact(Qap (l:=[TT.at (n:=7) 5 (mkT 3 r L)]) Z (by simp) (QiK (c:=W) (d:=d) ad.out (by have:=HR.out;have:=HJ.out.regs;omega) G (ac.out.1.below B4.out) ac.out.2) hL (fun k V=>Zl (ad.out k V) b1.size) (H.out.below ak)).mono (fun e w' hd=>hd.after ak)
    obtain⟨y0,y1,y2⟩:=QkS T5.out.box
    clear hq j G CC CL E3;go_wp2_with fail
    refine(CM.out _).mono ?_
    rintro e' w5 hd;have F:=Qb hd;rcases hd with ⟨h1,rfl,h3⟩|⟨h1,rfl,h3⟩
    rotate_left
    ·exact⟨Z,F.out⟩
    clear h1 h3 CM;go_wp2
    exact Xz (v:=.tuple #[]) (by simp[results,results243,go_sem]) Z F.out
def Lay.listC {α:Type}(A:Lay α):Lay (List α) where
 size:=1
 In:=fun w O l cs=>(∃ a c,cs=[.slice a l.length c]/\l.length<=c)/\A.list.In w O l cs
 len:=fun h=>A.list.len h.2
 keep:=fun hb hl h=>⟨h.1,A.list.keep hb hl h.2⟩
theorem QaH.listC {α:Type}{A:Lay α}(h:P.underlying t=some (.slice e)) (k:P.cellsOf t=1) (y:QaH P e A n) (r:0<A.size):QaH P t A.listC (n+1) :=
 ⟨k,fun {H u w j f o p D x} B i=>by
  obtain⟨l,g⟩:=(QaH.list h k y r).2 B i
  refine⟨l,?_,g⟩
  obtain⟨a,c,e,_⟩:=g
  refine⟨a,c,e,?_⟩
  rcases DataW.trod_slice h i with ⟨b,_⟩|⟨C,s,v,d,m,q,_,b,_,_,z,_⟩
  ·rw[e] at b
   simp at b
   simp[b.2.1]
  ·rw[e] at b
   simp at b
   omega⟩
def Lay.Sub {α:Type}(A B:Lay α):Prop:=A.size=B.size/\∀ {w:World}{O:Nat->Prop}{x:α}{cs:List Value},A.In w O x cs->B.In w O x cs
theorem Lay.Sub.refl {α:Type}(A:Lay α):Lay.Sub A A:=⟨Z,id⟩
theorem Lay.Sub.listC {α:Type}(A:Lay α):Lay.Sub A.listC A.list:=⟨Z,fun h=>h.2⟩
theorem Lay.Sub.pair {α β:Type}{A a:Lay α}{B b:Lay β}(h:Lay.Sub A a) (k:Lay.Sub B b):Lay.Sub (A.pair B) (a.pair b) :=
 ⟨by show A.size+B.size=a.size+b.size;rw[h.1,k.1],fun ⟨c,g,e,f,d⟩=>⟨c,g,e,h.2 f,k.2 d⟩⟩
theorem Lay.Sub.list {α:Type}{A b:Lay α}(h:Lay.Sub A b):Lay.Sub A.list b.list :=
 ⟨Z,fun ⟨a,c,e,k⟩=>⟨a,c,e,fun i x d=>by
  obtain⟨g,o,m,n,p,l,j,f⟩:=k i x d
  exact⟨g,o,m,n,p,l,by rw[<-h.1];exact j,h.2 f⟩⟩⟩
section
open Go.Deep
theorem Lay.Sub.via {α β:Type}{A a:Lay α}(h:Lay.Sub A a) (f:β->α):Lay.Sub (A.via f) (a.via f):=⟨h.1,fun k=>h.2 k⟩
theorem Qy.listC {α:Type}{A:Lay α}{z:α->Prop}(h:P.underlying t=some (.slice e)) (m:P.cellsOf t=1) (D:Qy P e A n z) (v:0<A.size) (g:0<P.bytesOf e):Qy P t A.listC n (fun l=>l.length<1152921504606846976) :=
 ⟨m,fun {H B w k f p r I x} F j s=>by
  obtain⟨l,i,u⟩:=(Qy.list h m D v g).2 F j s
  refine⟨l,⟨?_,i⟩,u⟩
  obtain⟨a,c,e,_⟩:=i
  refine⟨a,c,e,?_⟩
  rcases DataW.trod_slice h j with ⟨b,_⟩|⟨G,y,C,d,o,q,_,b,_,_,E,_⟩
  ·rw[e] at b
   simp at b
   simp[b.2.1]
  ·rw[e] at b
   simp at b
   omega⟩
abbrev intsC:Lay (List Int):=Lay.int.listC
def insC:Lay Qv:=(Lay.int.pair (Lay.int.pair (Lay.int.pair (Lay.int.pair (Lay.int.pair (Lay.int.pair (intsC.pair intsC))))))).via (fun x=>(x.op,x.a,x.b,x.c,x.k,x.n,x.regs,x.args))
def toC:Lay MTo:=(Lay.int.pair (intsC.pair intsC)).via (fun x=>(x.block,x.regs,x.args))
def endC:Lay Z0:=(Lay.int.pair (Lay.int.pair (toC.pair (toC.pair intsC)))).via (fun x=>(x.op,x.a,x.yes,x.no,x.args))
def QeX (n:Nat):Lay (MBlock n):=(Lay.int.pair ((Qx n).pair (insC.list.pair endC))).via (fun x=>(x.regs,x.params,x.code,x.fin))
def Qlz (n:Nat):Lay (MFunc n):=(Lay.int.pair ((Qx n).pair ((Qx n).pair (QeX n).list))).via (fun x=>(x.regs,x.params,x.results,x.blocks))
abbrev Qm2 (n:Nat):Lay (List (MFunc n)):=(Qlz n).list
theorem ints_sub:Lay.Sub intsC intsL:=Lay.Sub.listC _
theorem ins_sub:Lay.Sub insC insL:=.via (.pair (.refl _) (.pair (.refl _) (.pair (.refl _) (.pair (.refl _) (.pair (.refl _) (.pair (.refl _) (.pair ints_sub ints_sub))))))) _
theorem to_sub:Lay.Sub toC toL:=.via (.pair (.refl _) (.pair ints_sub ints_sub)) _
theorem end_sub:Lay.Sub endC endL:=.via (.pair (.refl _) (.pair (.refl _) (.pair to_sub (.pair to_sub ints_sub)))) _
theorem Qix (n:Nat):Lay.Sub (QeX n) (Zq n):=.via (.pair (.refl _) (.pair (.refl _) (.pair (.list ins_sub) end_sub))) _
theorem Qj4 (n:Nat):Lay.Sub (Qlz n) (ZW n):=.via (.pair (.refl _) (.pair (.refl _) (.pair (.refl _) (.list (Qix n))))) _
theorem Qlu (n:Nat):Lay.Sub (Qm2 n) (ZZ n):=.list (Qj4 n)
theorem QbL (n:Nat):Qy prog 76 intsC n (fun l=>l.length<1152921504606846976):=Qy.listC underlying76 (by kernel_rfl) (QaT n) (by decide) (by rw[show prog.bytesOf 3=8 from by kernel_rfl];decide)
theorem Qil (n:Nat):Qy prog 78 insC n (fun x=>x.regs.length<1152921504606846976/\x.args.length<1152921504606846976):=by
 have h:=Qy.struct (n:=n) (A:=Lay.int.pair (Lay.int.pair (Lay.int.pair (Lay.int.pair (Lay.int.pair (Lay.int.pair (intsC.pair intsC))))))) underlying78 (by kernel_rfl) (QF.cons Z Z (QaT n) (QF.cons Z Z (QaT n) (QF.cons Z Z (QaT n) (QF.cons Z Z (QaT n) (QF.cons Z Z (QaT n) (QF.cons Z Z (QlB n) (QF.cons Z Z (QbL n) (QF.last Z Z (QbL n)))))))));have e:=h.via (f:=fun x:Qv=>(x.op,x.a,x.b,x.c,x.k,x.n,x.regs,x.args)) (fun d=>⟨d.1,d.2.1,d.2.2.1,d.2.2.2.1,d.2.2.2.2.1,d.2.2.2.2.2.1,d.2.2.2.2.2.2.1,d.2.2.2.2.2.2.2⟩) (fun d=>rfl);exact⟨e.1,fun j l i=>by obtain⟨d,g,m⟩:=e.2 j l i;exact⟨d,g,m.2.2.2.2.2.2⟩⟩
theorem QgO (n:Nat):Qy prog 82 toC n (fun x=>x.regs.length<1152921504606846976/\x.args.length<1152921504606846976):=by
 have h:=Qy.struct (n:=n) (A:=Lay.int.pair (intsC.pair intsC)) underlying82 (by kernel_rfl) (QF.cons Z Z (QaT n) (QF.cons Z Z (QbL n) (QF.last Z Z (QbL n))));have a:=h.via (f:=fun x:MTo=>(x.block,x.regs,x.args)) (fun d=>⟨d.1,d.2.1,d.2.2⟩) (fun d=>rfl);exact⟨a.1,fun e g c=>by obtain⟨d,b,i⟩:=a.2 e g c;exact⟨d,b,i.2⟩⟩
theorem Qjc (n:Nat):Qy prog 84 endC n (fun x=>(x.yes.regs.length<1152921504606846976/\x.yes.args.length<1152921504606846976)/\(x.no.regs.length<1152921504606846976/\x.no.args.length<1152921504606846976)/\x.args.length<1152921504606846976):=by
 have h:=Qy.struct (n:=n) (A:=Lay.int.pair (Lay.int.pair (toC.pair (toC.pair intsC)))) underlying84 (by kernel_rfl) (QF.cons Z Z (QaT n) (QF.cons Z Z (QaT n) (QF.cons Z Z (QgO n) (QF.cons Z Z (QgO n) (QF.last Z Z (QbL n))))));have b:=h.via (f:=fun x:Z0=>(x.op,x.a,x.yes,x.no,x.args)) (fun d=>⟨d.1,d.2.1,d.2.2.1,d.2.2.2.1,d.2.2.2.2⟩) (fun d=>rfl);exact⟨b.1,fun g i e=>by obtain⟨d,c,j⟩:=b.2 g i e;exact⟨d,c,j.2.2⟩⟩
theorem QhL (n:Nat):Qy prog 79 insC.list n (fun l=>l.length<1152921504606846976):=Qy.list underlying79 (by kernel_rfl) (Qil n) (by decide) (by rw[show prog.bytesOf 78=96 from by kernel_rfl];decide)
theorem Qf8 (n:Nat):Qy prog 86 (QeX n) n (fun _=>True):=by
 have h:=Qy.struct (n:=n) (A:=Lay.int.pair ((Qx n).pair (insC.list.pair endC))) underlying86 (by kernel_rfl) (QF.cons Z Z (QaT n) (QF.cons Z Z (Qgp n) (QF.cons Z Z (QhL n) (QF.last Z Z (Qjc n)))));have a:=h.via (f:=fun x:MBlock n=>(x.regs,x.params,x.code,x.fin)) (fun d=>⟨d.1,d.2.1,d.2.2.1,d.2.2.2⟩) (fun d=>rfl);exact⟨a.1,fun e g c=>by obtain⟨d,b,i⟩:=a.2 e g c;exact⟨d,b,Y⟩⟩
theorem Qfh (n:Nat):Qy prog 87 (QeX n).list n (fun l=>l.length<1152921504606846976):=Qy.list underlying87 (by kernel_rfl) (Qf8 n) (by show 0<12;decide) (by rw[show prog.bytesOf 86=208 from by kernel_rfl];decide)
theorem QhB (n:Nat):Qy prog 89 (Qlz n) n (fun _=>True):=by
 have h:=Qy.struct (n:=n) (A:=Lay.int.pair ((Qx n).pair ((Qx n).pair (QeX n).list))) underlying89 (by kernel_rfl) (QF.cons Z Z (QaT n) (QF.cons Z Z (Qgp n) (QF.cons Z Z (Qgp n) (QF.last Z Z (Qfh n)))));have a:=h.via (f:=fun x:MFunc n=>(x.regs,x.params,x.results,x.blocks)) (fun d=>⟨d.1,d.2.1,d.2.2.1,d.2.2.2⟩) (fun d=>rfl);exact⟨a.1,fun e g c=>by obtain⟨d,b,i⟩:=a.2 e g c;exact⟨d,b,Y⟩⟩
theorem Qf0 (n:Nat):Qy prog 22 (Qm2 n) n (fun l=>l.length<1152921504606846976):=Qy.list underlying22 (by kernel_rfl) (QhB n) (by show 0<4;decide) (by rw[show prog.bytesOf 89=80 from by kernel_rfl];decide)
theorem Qi4 (n:Nat):Qy prog 24 (Qm2 n) n (fun _=>True):=by
 have h:=Qy.struct (n:=n) (A:=Qm2 n) underlying24 (by kernel_rfl) (QF.last Z Z (Qf0 n));exact⟨h.1,fun c e b=>by obtain⟨d,a,f⟩:=h.2 c e b;exact⟨d,a,Y⟩⟩
end
def Qhp (w:World) (O:Nat->Prop) (c:Int) (l:List (TT 6)) (e:Ending) (w':World):Prop :=
 ∃ a n d,e=.returned (.tuple #[.slice a n d,Iv c])/\(c=0->n=l.length/\n<=d/\(Qx 6).In w' (fun g=>¬ O g) l [.slice a n d])/\Below w.heap.size w w'
abbrev Qel (x:Qv) (rg ag:Option Addr) (rc ac:Nat):Value:=.agg #[Iv x.op,Iv x.a,Iv x.b,Iv x.c,Iv x.k,Iv x.n,.slice rg x.regs.length rc,.slice ag x.args.length ac]
theorem Qlm (w:World) (O:Nat->Prop) (n:∀ k,O k->k<w.heap.size){t:TT 6}(h:TIn w (fun g=>¬ O g) t a) (l:t.ok) :
 (Qx 6).In (w.alloc (.cells #[Iv t.kind,Iv t.r,.slice a t.len c] 105)) (fun g=>¬ O g) [t] [.slice (some ⟨w.heap.size,0,none⟩) 1 d]:=by
 refine⟨some ⟨w.heap.size,0,none⟩,d,Z,fun i x b=>?_⟩
 cases i with
 | succ i=>simp at b
 | zero =>
   have b:t=x:=by simpa using b
   subst b;refine⟨w.heap.size,0,[Iv t.kind,Iv t.r,.slice a t.len c],Z,fun e=>by have:=n _ e;omega,by simp,fun j f=>?_,a,c,Z,h.alloc _,l⟩
   have f:j<3:=f;have m:=Qf w #[Iv t.kind,Iv t.r,.slice a t.len c] 105;match j,f with
   | 0,_=>exact Qa m 0 _ Z
   | 1,_=>exact Qa m 1 _ Z
   | 2,_=>exact Qa m 2 _ Z
theorem QlK (w:World) (Q:Nat->Prop) (k r:Int) (a:Option Addr):TIn w Q (mkT k r []:TT 6) a:=fun i x b=>by simp at b
structure MkS (w w2:World) (b X:Nat) (O:Nat->Prop) (s:JSt) (x:Qv) (rg ag:Option Addr) (rc ac:Nat) (na:Option Addr):Prop where
 known:KAt w2 b O s
 box:w2.heap[X]?=some (.cells #[Iv x.op,Iv x.a,Iv x.b,Iv x.c,Iv x.k,Iv x.n,.slice rg x.regs.length rc,.slice ag x.args.length ac] 78 (0,0))
 num:(Qx 6).In w2 (fun g=>¬ O g) [tInt] [.slice na 1 1]
 bel:Below w.heap.size w w2
 own:∀ k,O k->k<w.heap.size
 ok:JOk s
theorem MkS.start {w:World}{b:Nat}{O:Nat->Prop}{s:JSt}(x:Qv) (e f:Option Addr) (rc ac:Nat) (j:∀ k,O k->k<w.heap.size) (m:JOk s) (h:KAt w b O s) :
 MkS w ((w.alloc (.cells #[Iv x.op,Iv x.a,Iv x.b,Iv x.c,Iv x.k,Iv x.n,.slice e x.regs.length rc,.slice f x.args.length ac] 78)).alloc (.cells #[Iv 1,Iv 0,Nv] 105)) b w.heap.size O s x e f rc ac (some ⟨w.heap.size+1,0,none⟩):=by
 have i:=ZO w (.cells #[Iv x.op,Iv x.a,Iv x.b,Iv x.c,Iv x.k,Iv x.n,.slice e x.regs.length rc,.slice f x.args.length ac] 78);have g:=ZO (w.alloc (.cells #[Iv x.op,Iv x.a,Iv x.b,Iv x.c,Iv x.k,Iv x.n,.slice e x.regs.length rc,.slice f x.args.length ac] 78)) (.cells #[Iv 1,Iv 0,Nv] 105);refine⟨(h.below i).below g,(g.block _ (by simp)).trans (Qf _ _ _),?_,i.trans (g.mono i.size),j,m⟩
 have:=Qlm (w.alloc (.cells #[Iv x.op,Iv x.a,Iv x.b,Iv x.c,Iv x.k,Iv x.n,.slice e x.regs.length rc,.slice f x.args.length ac] 78)) O (fun k o=>by have:=j k o;simp;omega) (t:=tInt) (a:=none) (c:=0) (d:=1) (QlK _ _ _ _ _) ⟨by decide,fun x l=>by cases l⟩
 rw[World.size_alloc] at this
 exact this
section
variable {w w2 w3:World}{b X:Nat}{O:Nat->Prop}{s:JSt}{x:Qv}{rg ag:Option Addr}{rc ac:Nat}{na:Option Addr}
theorem MkS.below (h:MkS w w2 b X O s x rg ag rc ac na) (k:Below w2.heap.size w2 w3):MkS w w3 b X O s x rg ag rc ac na :=
 ⟨h.known.below k,(k.block X (XC h.box)).trans h.box,Ya h.num k,h.bel.trans (k.mono h.bel.size),h.own,h.ok⟩
theorem MkS.lt (h:MkS w w2 b X O s x rg ag rc ac na):∀ k,O k->k<w2.heap.size:=fun k a=>Zl (h.own k a) h.bel.size
theorem MkS.cells (h:MkS w w2 b X O s x rg ag rc ac na):w2.cell? ⟨X,0,none⟩=some (Iv x.op)/\w2.cell? ⟨X,1,none⟩=some (Iv x.a)/\w2.cell? ⟨X,2,none⟩=some (Iv x.b)/\w2.cell? ⟨X,3,none⟩=some (Iv x.c)/\w2.cell? ⟨X,4,none⟩=some (Iv x.k)/\w2.cell? ⟨X,6,none⟩=some (.slice rg x.regs.length rc)/\w2.cell? ⟨X,7,none⟩=some (.slice ag x.args.length ac) :=
 ⟨Qa h.box 0 _ Z,Qa h.box 1 _ Z,Qa h.box 2 _ Z,Qa h.box 3 _ Z,Qa h.box 4 _ Z,Qa h.box 6 _ Z,Qa h.box 7 _ Z⟩
theorem Qhp.nil {c:Int}(h:Below w.heap.size w w3):Qhp w O c [] (.returned (.tuple #[Nv,Iv c])) w3 :=
 ⟨none,0,0,Z,fun _=>⟨Z,Ze,Yg _ _ _ _ _⟩,h⟩
theorem Qhp.bad {c:Int}{l:List (TT 6)}(b:c≠0) (h:Below w.heap.size w w3) (a:Option Addr) (n d:Nat):Qhp w O c l (.returned (.tuple #[.slice a n d,Iv c])) w3 :=
 ⟨a,n,d,Z,fun e=>absurd e b,h⟩
theorem Qhp.num {c:Int}(h:MkS w w2 b X O s x rg ag rc ac na) (k:Below w2.heap.size w2 w3):Qhp w O c [tInt] (.returned (.tuple #[.slice na 1 1,Iv c])) w3 :=
 ⟨na,1,1,Z,fun _=>⟨Z,Ze,(h.below k).num⟩,(h.below k).bel⟩
end
def ZM (x:Qv):Prop:=(-9223372036854775808<=x.a/\x.a<=9223372036854775807)/\(-9223372036854775808<=x.b/\x.b<=9223372036854775807)/\(-9223372036854775808<=x.c/\x.c<=9223372036854775807)
noncomputable def JSt.goC (s:JSt) (x:Qv):Int:=Qt (s.makes x).1 (Q4 s.L.length (s.makes x).2.length)
theorem Qk8 {s:JSt}{x:Qv}(a:x.form s.m.length=0):s.code x=s.goC x:=by
 unfold JSt.code JSt.goC Qt Q4;rw[Xr (by rw[a];simp)]
 by_cases h:(s.makes x).1=0
 ·rw[Xr (by rw[h];simp),Xs h]
 ·rw[Xs h,Xr h]
theorem QbI (h:n<=80):Q4 n 0=0:=Xr (by omega)
theorem QfE {a:Int}:Qt a 0=a:=by unfold Qt;split<;>simp_all
theorem QU.to {s a d:JSt}{c g:Int}{e:Ending}(i:QU w b O A s a c e w') (j:g=c) (k:c=0->d=a):QU w b O A s d g e w':=by
 subst j;rcases i with ⟨f,l,m⟩ | h
 ·exact .inl ⟨f,l,by rw[k f];exact m⟩
 ·exact .inr h
theorem QU.none {s a:JSt}{c:Int}(h:SAt w b O A s) (hb:Below w.heap.size w w') (d:c=0) (e:a=s):QU w b O A s a c (.returned (.tuple #[])) w':=.inl ⟨d,Z,by rw[e];exact Yh h hb⟩
theorem QZ {s:JSt}{x:Qv}(a:x.op≠3) (b:x.op≠4):s.next x={ s with L:=s.L++(s.makes x).2 }:=by unfold JSt.next;rw[Xr a,Xr b]
structure QnZ (w:World) (b:Nat) (O A Q:Nat->Prop) (s:JSt) (c:Array Value) (xr xs:List Int) (rg ag:Option Addr) (rc ac:Nat) (w1:World) (X:Nat):Prop where
 HJ:Hid (JOk s)
 H0:Hid (SAt w b O A s)
 HA0:Hid (∀ k,A k->k<w.heap.size)
 H:Hid (SAt w1 b O A s)
 HR:Hid (intsL.In w1 Q xr [.slice rg xr.length rc])
 HG:Hid (intsL.In w1 Q xs [.slice ag xs.length ac])
 HB:Hid (Below w.heap.size w w1)
 HA:Hid (∀ k,A k->k<w1.heap.size)
 HO:Hid (∀ k,O k->k<w1.heap.size)
 X1:Hid (Blk w1 X c 78)
 HRC:Hid (xr.length<=rc)
theorem QgA {s:JSt}{f xs:List Int}{l:Option Addr}(i:∀ k,A k->k<w.heap.size) (m:JOk s) (h:SAt w b O A s) (a:intsL.In w Q f [.slice l f.length rc]) (d:intsL.In w Q xs [.slice ag xs.length ac]) (g:f.length<=rc) (c:Array Value):QnZ w b O A Q s c f xs l ag rc ac (w.alloc (.cells c 78)) w.heap.size :=
 have e:=ZO w (.cells c 78);⟨m,h,i,h.below e,Ya a e,Ya d e,e,fun k j=>Zl (i k j) e.size,fun k j=>Zl (i k (h.sub k j)) e.size,Blk.new _ _ _,g⟩
theorem Q3 {g d e c b a i f:Value}(h:Blk w X #[g,d,e,c,b,a,i,f] t):w.cell? ⟨X,0,none⟩=some g/\w.cell? ⟨X,1,none⟩=some d/\w.cell? ⟨X,2,none⟩=some e/\w.cell? ⟨X,3,none⟩=some c/\w.cell? ⟨X,4,none⟩=some b/\w.cell? ⟨X,5,none⟩=some a/\w.cell? ⟨X,6,none⟩=some i/\w.cell? ⟨X,7,none⟩=some f :=
 ⟨Qa h 0 _ Z,Qa h 1 _ Z,Qa h 2 _ Z,Qa h 3 _ Z,Qa h 4 _ Z,Qa h 5 _ Z,Qa h 6 _ Z,Qa h 7 _ Z⟩
theorem Qk7 {s:JSt}{x:Qv}{y:Option Addr}(I:∀ k,A k->k<w.heap.size) (C:JOk s) (h:SAt w b O A s) (c:intsL.In w Q x.regs [.slice y x.regs.length rc]) (a:intsL.In w Q x.args [.slice ag x.args.length ac]) (p:x.regs.length<=rc) (q:ZM x) (R:x.form s.m.length=0) (d:x.op=1) :
 Calls prog 212 #[Pv b 0,Qel x y ag rc ac] w fun e w'=>QU w b O A s (s.next x) (s.goC x) e w':=by
 have F:=QbP (s:=s) (.inl d);obtain⟨op,g,j,f,o,i,l,n⟩:=x
 have d:op=1:=d;subst d;have D:=Qb F;obtain⟨G,N,S,-⟩:=Q5 R
 have HF:=Qb (Xh G (Xh N S));obtain⟨E,P,t⟩:=q
 have HI:=Qb (Xh E (Xh P t));have W:=C.vals;have B:=Qb (QgA I C h c a p #[Iv 1,Iv g,Iv j,Iv f,Iv o,Iv i,.slice y l.length rc,.slice ag n.length ac]);clear h I C c a F R G N S E P t p;go_enter func212,ntmps212
 go_upto_region 1 with fail
 generalize w.alloc (.cells #[Iv 1,Iv g,Iv j,Iv f,Iv o,Iv i,.slice y l.length rc,.slice ag n.length ac] 78)=w1 at B |-;generalize w.heap.size=X at B |-;obtain⟨HJ,H0,aa,H,HR,HG,V,HA,HO,X1,U⟩:=B.out
 clear B;obtain⟨x0,x1,x2,x3,x4,-,x6,x7⟩:=Q3 X1.out
 have z:Hid (∀ e r,QU w b O A s { s with L:=s.L++[tInt] } (Q4 s.L.length 1) e r->QU w b O A s (s.next ⟨1,g,j,f,o,i,l,n⟩) (s.goC ⟨1,g,j,f,o,i,l,n⟩) e r):=fun e r u=>u.to (by unfold JSt.goC;rw[D.out];rfl) (fun _=>by rw[QZ (by simp) (by simp),D.out]);have M:=Qb (QbM W HA.out H.out);go_wp2_with fail
 refine M.out.mono ?_;rintro e' r u;have T:Hid (QU w b O A s (s.next ⟨1,g,j,f,o,i,l,n⟩) (s.goC ⟨1,g,j,f,o,i,l,n⟩) e' r):=z.out _ _ (u.after V.out);rcases u with ⟨J,rfl,K⟩|⟨J,rfl,K⟩
 rotate_left
 ·exact⟨Z,T.out⟩
 clear J K M;go_wp2
 exact Xz (v:=.tuple #[]) (by simp[results,results212,go_sem]) Z T.out
theorem Ql6 {s:JSt}{x:Qv}{y:Option Addr}(I:∀ k,A k->k<w.heap.size) (C:JOk s) (h:SAt w b O A s) (c:intsL.In w Q x.regs [.slice y x.regs.length rc]) (a:intsL.In w Q x.args [.slice ag x.args.length ac]) (p:x.regs.length<=rc) (q:ZM x) (R:x.form s.m.length=0) (d:x.op=12) :
 Calls prog 212 #[Pv b 0,Qel x y ag rc ac] w fun e w'=>QU w b O A s (s.next x) (s.goC x) e w':=by
 have F:=QbP (s:=s) (.inr d);obtain⟨op,g,j,f,o,i,l,n⟩:=x
 have d:op=12:=d;subst d;have D:=Qb F;obtain⟨G,N,S,-⟩:=Q5 R
 have HF:=Qb (Xh G (Xh N S));obtain⟨E,P,t⟩:=q
 have HI:=Qb (Xh E (Xh P t));have W:=C.vals;have B:=Qb (QgA I C h c a p #[Iv 12,Iv g,Iv j,Iv f,Iv o,Iv i,.slice y l.length rc,.slice ag n.length ac]);clear h I C c a F R G N S E P t p;go_enter func212,ntmps212
 go_upto_region 1 with fail
 generalize w.alloc (.cells #[Iv 12,Iv g,Iv j,Iv f,Iv o,Iv i,.slice y l.length rc,.slice ag n.length ac] 78)=w1 at B |-;generalize w.heap.size=X at B |-;obtain⟨HJ,H0,aa,H,HR,HG,V,HA,HO,X1,U⟩:=B.out
 clear B;obtain⟨x0,x1,x2,x3,x4,-,x6,x7⟩:=Q3 X1.out
 have z:Hid (∀ e r,QU w b O A s { s with L:=s.L++[tInt] } (Q4 s.L.length 1) e r->QU w b O A s (s.next ⟨12,g,j,f,o,i,l,n⟩) (s.goC ⟨12,g,j,f,o,i,l,n⟩) e r):=fun e r u=>u.to (by unfold JSt.goC;rw[D.out];rfl) (fun _=>by rw[QZ (by simp) (by simp),D.out]);have M:=Qb (QbM W HA.out H.out);go_wp2_with fail
 refine M.out.mono ?_;rintro e' r u;have T:Hid (QU w b O A s (s.next ⟨12,g,j,f,o,i,l,n⟩) (s.goC ⟨12,g,j,f,o,i,l,n⟩) e' r):=z.out _ _ (u.after V.out);rcases u with ⟨J,rfl,K⟩|⟨J,rfl,K⟩
 rotate_left
 ·exact⟨Z,T.out⟩
 clear J K M;go_wp2
 exact Xz (v:=.tuple #[]) (by simp[results,results212,go_sem]) Z T.out
theorem Qld {s:JSt}{x:Qv}{E:Option Addr}(V:∀ k,A k->k<w.heap.size) (J:JOk s) (h:SAt w b O A s) (c:intsL.In w Q x.regs [.slice E x.regs.length rc]) (a:intsL.In w Q x.args [.slice ag x.args.length ac]) (r:x.regs.length<=rc) (t:ZM x) (hf:x.form s.m.length=0) (g:x.op=2) :
 Calls prog 212 #[Pv b 0,Qel x E ag rc ac] w fun e w'=>QU w b O A s (s.next x) (s.goC x) e w':=by
 have T:=QeK (s:=s) g;obtain⟨op,f,i,j,q,n,o,p⟩:=x
 have g:op=2:=g;subst g;have N:=Qb T;obtain⟨W,f2,f3,-⟩:=Q5 hf
 have HF:=Qb (Xh W (Xh f2 f3));obtain⟨R,rb,C⟩:=t
 have HI:=Qb (Xh R (Xh rb C));have S:=J.vals;have B:=Qb (QgA V J h c a r #[Iv 2,Iv f,Iv i,Iv j,Iv q,Iv n,.slice E o.length rc,.slice ag p.length ac]);clear h V J c a T hf W f2 f3 R rb C r;go_enter func212,ntmps212
 go_upto_region 1 with fail
 generalize w.alloc (.cells #[Iv 2,Iv f,Iv i,Iv j,Iv q,Iv n,.slice E o.length rc,.slice ag p.length ac] 78)=w1 at B |-;generalize w.heap.size=X at B |-;obtain⟨HJ,H0,ad,H,HR,HG,P,HA,M,X1,aa⟩:=B.out
 clear B;obtain⟨x0,x1,x2,x3,x4,-,x6,x7⟩:=Q3 X1.out
 have EG:Hid (s.goC ⟨2,f,i,j,q,n,o,p⟩=Qt (Qt (s.want f 1 false) (s.want i 1 false)) (Q4 s.L.length 1)):=by show _=_;unfold JSt.goC;rw[N.out];rfl
 have U:=Qb (fun d=>QfA f i HI.out.1 HI.out.2.1 d S M.out H.out);go_wp2_with fail
 refine(U.out _).mono ?_
 rintro e' w2 ⟨hq,u⟩;have z:=Qb (P.out.trans (u.mono P.out.size));have H2:=Qb (H.out.below u);have G:=Qb (fun k K=>Zl (HA.out k K) u.size);have ab:=Qb (fun k K=>Zl (M.out k K) u.size);rcases hq with ⟨l,y2,rfl,hy⟩|⟨l,rfl⟩
 rotate_left
 ·exact⟨Z,QU.bad ((fun l=>by rw[EG.out,Qr l]) l) l (Yh H0.out z.out)⟩
 subst hy;have I:=Qb l;clear l u U;have F:Hid (∀ e y,QU w b O A s { s with L:=s.L++[tInt] } (Q4 s.L.length 1) e y->QU w b O A s (s.next ⟨2,f,i,j,q,n,o,p⟩) (s.goC ⟨2,f,i,j,q,n,o,p⟩) e y):=fun e y D=>D.to (by rw[EG.out,Qw I.out]) (fun _=>by rw[QZ (by simp) (by simp),N.out]);have CM:=Qb (QbM S G.out H2.out);go_wp2_with fail
 refine CM.out.mono ?_;rintro e' y D;have FF:Hid (QU w b O A s (s.next ⟨2,f,i,j,q,n,o,p⟩) (s.goC ⟨2,f,i,j,q,n,o,p⟩) e' y):=F.out _ _ (D.after z.out);rcases D with ⟨h1,rfl,h3⟩|⟨h1,rfl,h3⟩
 rotate_left
 ·exact⟨Z,FF.out⟩
 clear h1 h3 CM;go_wp2
 exact Xz (v:=.tuple #[]) (by simp[results,results212,go_sem]) Z FF.out
theorem Qlx {s:JSt}{x:Qv}{C:Option Addr}(M:∀ k,A k->k<w.heap.size) (F:JOk s) (h:SAt w b O A s) (d:intsL.In w Q x.regs [.slice C x.regs.length rc]) (c:intsL.In w Q x.args [.slice ag x.args.length ac]) (r:x.regs.length<=rc) (t:ZM x) (U:x.form s.m.length=0) (f:x.op=3) :
 Calls prog 212 #[Pv b 0,Qel x C ag rc ac] w fun e w'=>QU w b O A s (s.next x) (s.goC x) e w':=by
 have J:=Qdf (s:=s) f;obtain⟨op,j,n,i,q,l,o,p⟩:=x
 have f:op=3:=f;subst f;have G:=Qb J;obtain⟨K,S,V,-⟩:=Q5 U
 have HF:=Qb (Xh K (Xh S V));obtain⟨I,T,y⟩:=t
 have HI:=Qb (Xh I (Xh T y));have hL:=F.vals;have B:=Qb (QgA M F h d c r #[Iv 3,Iv j,Iv n,Iv i,Iv q,Iv l,.slice C o.length rc,.slice ag p.length ac]);clear h M F d c J U K S V I T y r;go_enter func212,ntmps212
 go_upto_region 1 with fail
 generalize w.alloc (.cells #[Iv 3,Iv j,Iv n,Iv i,Iv q,Iv l,.slice C o.length rc,.slice ag p.length ac] 78)=w1 at B |-;generalize w.heap.size=X at B |-;obtain⟨HJ,H0,ab,H,HR,HG,HB,HA,HO,X1,aa⟩:=B.out
 clear B;obtain⟨x0,x1,x2,x3,x4,-,x6,x7⟩:=Q3 X1.out
 have D:Hid (∀ e u,QU w b O A s s.openS s.openC e u->QU w b O A s (s.next ⟨3,j,n,i,q,l,o,p⟩) (s.goC ⟨3,j,n,i,q,l,o,p⟩) e u):=fun e u z=>z.to (by
  unfold JSt.goC;rw[G.out]
  by_cases a:s.H.length=16
  ·rw[Xs a]
   show Qt 2 _=s.openC;unfold JSt.openC;rw[Xs (Or.inr a)];rfl
  ·rw[Xr a]
   show Qt 0 (Q4 s.L.length 1)=s.openC;rw[Qw Z]
   unfold Q4 JSt.openC;by_cases g:80<s.L.length+1
   ·rw[Xs g,Xs (Or.inl g)]
   ·rw[Xr g,Xr (by omega)]) (fun E=>by
  unfold JSt.openC at E;unfold JSt.next JSt.openS
  rw[G.out]
  by_cases a:s.H.length=16
  ·rw[Xs (Or.inr a)] at E;cases E
  ·rw[Xr a];rfl)
 have R:=Qb (Qh9 HJ.out.regs hL HA.out H.out);go_wp2_with fail
 refine R.out.mono ?_;rintro e' u z;have W:Hid (QU w b O A s (s.next ⟨3,j,n,i,q,l,o,p⟩) (s.goC ⟨3,j,n,i,q,l,o,p⟩) e' u):=D.out _ _ (z.after HB.out);rcases z with ⟨N,rfl,P⟩|⟨N,rfl,P⟩
 rotate_left
 ·exact⟨Z,W.out⟩
 clear N P R;go_wp2
 exact Xz (v:=.tuple #[]) (by simp[results,results212,go_sem]) Z W.out
theorem Qkm {s:JSt}{x:Qv}{D:Option Addr}(N:∀ k,A k->k<w.heap.size) (F:JOk s) (h:SAt w b O A s) (d:intsL.In w Q x.regs [.slice D x.regs.length rc]) (c:intsL.In w Q x.args [.slice ag x.args.length ac]) (q:x.regs.length<=rc) (u:ZM x) (V:x.form s.m.length=0) (g:x.op=4) :
 Calls prog 212 #[Pv b 0,Qel x D ag rc ac] w fun e w'=>QU w b O A s (s.next x) (s.goC x) e w':=by
 have K:=QdZ (s:=s) g;obtain⟨op,a,l,i,p,j,n,o⟩:=x
 have g:op=4:=g;subst g;have G:=Qb K;obtain⟨M,T,W,-⟩:=Q5 V
 have HF:=Qb (Xh M (Xh T W));obtain⟨I,U,z⟩:=u
 have HI:=Qb (Xh I (Xh U z));have J:=F.vals;have B:=Qb (QgA N F h d c q #[Iv 4,Iv a,Iv l,Iv i,Iv p,Iv j,.slice D n.length rc,.slice ag o.length ac]);clear h N F d c K V M T W I U z q;go_enter func212,ntmps212
 go_upto_region 1 with fail
 generalize w.alloc (.cells #[Iv 4,Iv a,Iv l,Iv i,Iv p,Iv j,.slice D n.length rc,.slice ag o.length ac] 78)=w1 at B |-;generalize w.heap.size=X at B |-;obtain⟨HJ,H0,ab,H,HR,HG,HB,HA,HO,X1,aa⟩:=B.out
 clear B;obtain⟨x0,x1,x2,x3,x4,-,x6,x7⟩:=Q3 X1.out
 have E:Hid (∀ e y,QU w b O A s (s.freeS a) (s.freeC a) e y->QU w b O A s (s.next ⟨4,a,l,i,p,j,n,o⟩) (s.goC ⟨4,a,l,i,p,j,n,o⟩) e y):=fun e y C=>C.to (by
  unfold JSt.goC JSt.freeC;rw[G.out]
  show Qt (match s.at a with | none=>(1,[]) | some t=>(Qt (s.want a 2 true) (if t.r<s.f.regs then 11 else 0),[])).1 _=_
  cases s.at a with
  | none=>rfl
  | some t=>show Qt _ (Q4 s.L.length 0)=_;rw[QbI J,QfE]) (fun h0=>by
  unfold JSt.next JSt.freeS
  rw[G.out]
  show ({ s with H:=_,L:=s.L++(match s.at a with | none=>(1,[]) | some t=>(Qt (s.want a 2 true) (if t.r<s.f.regs then 11 else 0),[])).2 }:JSt)=_
  cases s.at a with
  | none=>simp
  | some t=>simp)
 have S:=Qb (Qjy a J HA.out H.out);go_wp2_with fail
 refine S.out.mono ?_;rintro e' y C;have FF:Hid (QU w b O A s (s.next ⟨4,a,l,i,p,j,n,o⟩) (s.goC ⟨4,a,l,i,p,j,n,o⟩) e' y):=E.out _ _ (C.after HB.out);rcases C with ⟨P,rfl,R⟩|⟨P,rfl,R⟩
 rotate_left
 ·exact⟨Z,FF.out⟩
 clear P R S;go_wp2
 exact Xz (v:=.tuple #[]) (by simp[results,results212,go_sem]) Z FF.out
theorem QiO {s:JSt}{x:Qv}{I:Option Addr}(R:∀ k,A k->k<w.heap.size) (K:JOk s) (h:SAt w b O A s) (f:intsL.In w Q x.regs [.slice I x.regs.length rc]) (d:intsL.In w Q x.args [.slice ag x.args.length ac]) (C:x.regs.length<=rc) (D:ZM x) (hf:x.form s.m.length=0) (j:x.op=5) :
 Calls prog 212 #[Pv b 0,Qel x I ag rc ac] w fun e w'=>QU w b O A s (s.next x) (s.goC x) e w':=by
 have N:=Qc7 (s:=s) j;obtain⟨op,a,u,p,z,q,y,i⟩:=x
 have j:op=5:=j;subst j;have L:=Qb N;obtain⟨P,V,f3,-⟩:=Q5 hf
 have HF:=Qb (Xh P (Xh V f3));obtain⟨M,W,F⟩:=D
 have HI:=Qb (Xh M (Xh W F));have hL:=K.vals;have B:=Qb (QgA R K h f d C #[Iv 5,Iv a,Iv u,Iv p,Iv z,Iv q,.slice I y.length rc,.slice ag i.length ac]);clear h R K f d N hf P V f3 M W F C;go_enter func212,ntmps212
 go_upto_region 1 with fail
 generalize w.alloc (.cells #[Iv 5,Iv a,Iv u,Iv p,Iv z,Iv q,.slice I y.length rc,.slice ag i.length ac] 78)=w1 at B |-;generalize w.heap.size=X at B |-;obtain⟨HJ,H0,ab,H,HR,HG,HB,HA,HO,X1,aa⟩:=B.out
 clear B;obtain⟨x0,x1,x2,x3,x4,-,x6,x7⟩:=Q3 X1.out
 have J:Hid (∀ e E,QU w b O A s (s.tupleS a i) (s.tupleC a i) e E->QU w b O A s (s.next ⟨5,a,u,p,z,q,y,i⟩) (s.goC ⟨5,a,u,p,z,q,y,i⟩) e E):=fun e E G=>G.to (by
  unfold JSt.goC JSt.tupleC;rw[L.out]
  simp only
  cases ha:s.at a with
  | none=>unfold JSt.want;rw[ha];rfl
  | some t =>
    simp only
    by_cases g:s.want a 2 true=0
    ·rw[Xs g,Qw g]
     cases s.fields i with
     | none=>rfl
     | some l =>
       simp only
       by_cases o:4<TT.height (n:=7) (mkT 3 t.r l)
       ·rw[Xs o,Xs o];rfl
       ·rw[Xr o,Xr o];rfl
    ·rw[Xr g,Qr g,Qr g]) (fun c=>by
  rw[QZ (by simp) (by simp),L.out]
  unfold JSt.tupleC at c;unfold JSt.tupleS;simp only
  cases ha:s.at a with
  | none=>rfl
  | some t =>
    rw[ha] at c
    simp only at c |-
    by_cases g:s.want a 2 true=0
    ·rw[Qw g] at c
     rw[Xs g]
     cases hl:s.fields i with
     | none=>simp[hl] at c
     | some l =>
       rw[hl] at c
       simp only at c |-
       by_cases o:4<TT.height (n:=7) (mkT 3 t.r l)
       ·rw[Xs o] at c;cases c
       ·rw[Xr o]
    ·rw[Qr g] at c;exact absurd c g)
 have U:=Qb (QhJ a Z (HF.out.2.2 Z) HG.out HJ.out HA.out H.out);go_wp2_with fail
 refine U.out.mono ?_;rintro e' E G;have FF:Hid (QU w b O A s (s.next ⟨5,a,u,p,z,q,y,i⟩) (s.goC ⟨5,a,u,p,z,q,y,i⟩) e' E):=J.out _ _ (G.after HB.out);rcases G with ⟨S,rfl,T⟩|⟨S,rfl,T⟩
 rotate_left
 ·exact⟨Z,FF.out⟩
 clear S T U;go_wp2
 exact Xz (v:=.tuple #[]) (by simp[results,results212,go_sem]) Z FF.out
theorem Qh7 {s:JSt}{x:Qv}{D:Option Addr}(M:∀ k,A k->k<w.heap.size) (G:JOk s) (h:SAt w b O A s) (d:intsL.In w Q x.regs [.slice D x.regs.length rc]) (c:intsL.In w Q x.args [.slice ag x.args.length ac]) (q:x.regs.length<=rc) (u:ZM x) (U:x.form s.m.length=0) (f:x.op=8) :
 Calls prog 212 #[Pv b 0,Qel x D ag rc ac] w fun e w'=>QU w b O A s (s.next x) (s.goC x) e w':=by
 have J:=QcC (s:=s) f;obtain⟨op,a,g,j,p,l,n,o⟩:=x
 have f:op=8:=f;subst f;have F:=Qb J;obtain⟨K,S,V,-⟩:=Q5 U
 have HF:=Qb (Xh K (Xh S V));obtain⟨I,T,z⟩:=u
 have HI:=Qb (Xh I (Xh T z));have hL:=G.vals;have B:=Qb (QgA M G h d c q #[Iv 8,Iv a,Iv g,Iv j,Iv p,Iv l,.slice D n.length rc,.slice ag o.length ac]);clear h M G d c J U K S V I T z q;go_enter func212,ntmps212
 go_upto_region 1 with fail
 generalize w.alloc (.cells #[Iv 8,Iv a,Iv g,Iv j,Iv p,Iv l,.slice D n.length rc,.slice ag o.length ac] 78)=w1 at B |-;generalize w.heap.size=X at B |-;obtain⟨HJ,H0,ab,H,HR,HG,HB,HA,HO,X1,aa⟩:=B.out
 clear B;obtain⟨x0,x1,x2,x3,x4,-,x6,x7⟩:=Q3 X1.out
 have E:Hid (∀ e y,(∀ t,(s.at a=some t\/(s.at a=none/\t=tInt))->QU w b O A s { s with L:=s.L++[mkT 4 t.r []] } (s.arrayC a g) e y)->QU w b O A s (s.next ⟨8,a,g,j,p,l,n,o⟩) (s.goC ⟨8,a,g,j,p,l,n,o⟩) e y):=fun e y i=>by
  cases ha:s.at a with
  | none =>
    refine(i tInt (.inr ⟨ha,Z⟩)).to (by unfold JSt.goC JSt.arrayC;rw[F.out];simp only[ha];unfold JSt.want;rw[ha];rfl) (fun C=>?_)
    unfold JSt.arrayC JSt.want at C;rw[ha] at C
    cases C
  | some t =>
    refine(i t (.inl ha)).to (by unfold JSt.goC JSt.arrayC;rw[F.out];simp only[ha];rfl) (fun C=>?_)
    rw[QZ (by simp) (by simp),F.out]
    simp only[ha]
 have R:=Qb (QhH a g HI.out.2.1 HJ.out.regs hL HA.out H.out);go_wp2_with fail
 refine R.out.mono ?_;rintro e' y i;have W:Hid (QU w b O A s (s.next ⟨8,a,g,j,p,l,n,o⟩) (s.goC ⟨8,a,g,j,p,l,n,o⟩) e' y):=E.out _ _ (fun t ht=>(i t ht).after HB.out);have i:=i ((s.at a).getD tInt) (by cases s.at a with | none=>exact .inr ⟨Z,Z⟩ | some t=>exact .inl Z);rcases i with ⟨N,rfl,P⟩|⟨N,rfl,P⟩
 rotate_left
 ·exact⟨Z,W.out⟩
 clear N P R;go_wp2
 exact Xz (v:=.tuple #[]) (by simp[results,results212,go_sem]) Z W.out
theorem Qkx {s:JSt}{x:Qv}{K:Option Addr}(hA:∀ k,A k->k<w.heap.size) (V:JOk s) (h:SAt w b O A s) (f:intsL.In w Q x.regs [.slice K x.regs.length rc]) (c:intsL.In w Q x.args [.slice ag x.args.length ac]) (y:x.regs.length<=rc) (D:ZM x) (hf:x.form s.m.length=0) (i:x.op=9) :
 Calls prog 212 #[Pv b 0,Qel x K ag rc ac] w fun e w'=>QU w b O A s (s.next x) (s.goC x) e w':=by
 have hE:=QdO (s:=s) i;obtain⟨op,g,j,l,r,n,p,q⟩:=x
 have i:op=9:=i;subst i;have HE:=Qb hE;obtain⟨f1,f2,f3,-⟩:=Q5 hf
 have HF:=Qb (Xh f1 (Xh f2 f3));obtain⟨ra,rb,G⟩:=D
 have HI:=Qb (Xh ra (Xh rb G));have P:=V.vals;have B:=Qb (QgA hA V h f c y #[Iv 9,Iv g,Iv j,Iv l,Iv r,Iv n,.slice K p.length rc,.slice ag q.length ac]);clear h hA V f c hE hf f1 f2 f3 ra rb G y;go_enter func212,ntmps212
 go_upto_region 1 with fail
 generalize w.alloc (.cells #[Iv 9,Iv g,Iv j,Iv l,Iv r,Iv n,.slice K p.length rc,.slice ag q.length ac] 78)=w1 at B |-;generalize w.heap.size=X at B |-;obtain⟨HJ,H0,ab,H,HR,HG,HB,HA,HO,X1,aa⟩:=B.out
 clear B;obtain⟨x0,x1,x2,x3,x4,-,x6,x7⟩:=Q3 X1.out
 have U:Hid (s.goC ⟨9,g,j,l,r,n,p,q⟩=Qt (Qt (s.want g 4 true) (s.want j 1 false)) (Q4 s.L.length 1)):=by show _=_;unfold JSt.goC;rw[HE.out];rfl
 have C1:=Qb (Qab g 4 P HO.out H.out);go_wp2_with fail
 refine(C1.out ).mono ?_
 rintro W w2 ⟨M,u⟩;have o:=Qb (HB.out.trans (u.mono HB.out.size));have H2:=Qb (H.out.below u);have R:=Qb (fun k t=>Zl (HA.out k t) u.size);have F:=Qb (fun k t=>Zl (HO.out k t) u.size);rcases M with ⟨a,y2,rfl,hy⟩|⟨a,rfl⟩
 rotate_left
 ·exact⟨Z,QU.bad ((fun a=>by rw[U.out,Qr (by rw[Qr a];exact a),Qr a]) a) a (Yh H0.out o.out)⟩
 have I:=Qb a;have x2:=Qo x2 u;clear a u C1;have C2:=Qb (fun d=>QbA j HI.out.2.1 d P F.out H2.out);go_wp2_with fail
 refine(C2.out _).mono ?_
 rintro W w3 ⟨M,z⟩;have C:=Qb (o.out.trans (z.mono o.out.size));have H3:=Qb (H2.out.below z);have T:=Qb (fun k t=>Zl (R.out k t) z.size);have ad:=Qb (fun k t=>Zl (F.out k t) z.size);rcases M with ⟨a,y3,rfl,hy⟩|⟨a,rfl⟩
 rotate_left
 ·exact⟨Z,QU.bad ((fun a=>by rw[U.out,Qw I.out,Qr a]) a) a (Yh H0.out C.out)⟩
 subst hy;have S:=Qb a;clear a z C2;have N:Hid (∀ e E,QU w b O A s { s with L:=s.L++[tInt] } (Q4 s.L.length 1) e E->QU w b O A s (s.next ⟨9,g,j,l,r,n,p,q⟩) (s.goC ⟨9,g,j,l,r,n,p,q⟩) e E):=fun e E J=>J.to (by rw[U.out,Qw I.out,Qw S.out]) (fun _=>by rw[QZ (by simp) (by simp),HE.out]);have CM:=Qb (QbM P T.out H3.out);go_wp2_with fail
 refine CM.out.mono ?_;rintro W E J;have FF:Hid (QU w b O A s (s.next ⟨9,g,j,l,r,n,p,q⟩) (s.goC ⟨9,g,j,l,r,n,p,q⟩) W E):=N.out _ _ (J.after C.out);rcases J with ⟨h1,rfl,h3⟩|⟨h1,rfl,h3⟩
 rotate_left
 ·exact⟨Z,FF.out⟩
 clear h1 h3 CM;go_wp2
 exact Xz (v:=.tuple #[]) (by simp[results,results212,go_sem]) Z FF.out
theorem QiM {s:JSt}{x:Qv}{I:Option Addr}(hA:∀ k,A k->k<w.heap.size) (S:JOk s) (h:SAt w b O A s) (f:intsL.In w Q x.regs [.slice I x.regs.length rc]) (c:intsL.In w Q x.args [.slice ag x.args.length ac]) (q:x.regs.length<=rc) (y:ZM x) (hf:x.form s.m.length=0) (g:x.op=10) :
 Calls prog 212 #[Pv b 0,Qel x I ag rc ac] w fun e w'=>QU w b O A s (s.next x) (s.goC x) e w':=by
 have hE:=QcQ (s:=s) g;obtain⟨op,j,o,i,F,t,C,E⟩:=x
 have g:op=10:=g;subst g;have V:=Qb hE;obtain⟨f1,f2,f3,-⟩:=Q5 hf
 have HF:=Qb (Xh f1 (Xh f2 f3));obtain⟨ra,rb,D⟩:=y
 have HI:=Qb (Xh ra (Xh rb D));have M:=S.vals;have B:=Qb (QgA hA S h f c q #[Iv 10,Iv j,Iv o,Iv i,Iv F,Iv t,.slice I C.length rc,.slice ag E.length ac]);clear h hA S f c hE hf f1 f2 f3 ra rb D q;go_enter func212,ntmps212
 go_upto_region 1 with fail
 generalize w.alloc (.cells #[Iv 10,Iv j,Iv o,Iv i,Iv F,Iv t,.slice I C.length rc,.slice ag E.length ac] 78)=w1 at B |-;generalize w.heap.size=X at B |-;obtain⟨HJ,K,ab,H,HR,HG,W,HA,U,X1,aa⟩:=B.out
 clear B;obtain⟨x0,x1,x2,x3,x4,-,x6,x7⟩:=Q3 X1.out
 have R:Hid (s.goC ⟨10,j,o,i,F,t,C,E⟩=Qt (s.want j 4 true) (Qt (s.want o 1 false) (s.want i 1 false))):=by show _=_;unfold JSt.goC;rw[V.out];show Qt _ (Q4 s.L.length 0)=_;rw[QbI M,QfE]
 have C1:=Qb (Qab j 4 M U.out H.out);go_wp2_with fail
 refine(C1.out ).mono ?_
 rintro e' w2 ⟨J,l⟩;have n:=Qb (W.out.trans (l.mono W.out.size));have H2:=Qb (H.out.below l);have N:=Qb (fun k p=>Zl (HA.out k p) l.size);have z:=Qb (fun k p=>Zl (U.out k p) l.size);rcases J with ⟨a,y2,rfl,T⟩|⟨a,rfl⟩
 rotate_left
 ·exact⟨Z,QU.bad ((fun a=>by rw[R.out,Qr a]) a) a (Yh K.out n.out)⟩
 have G:=Qb a;have x2:=Qo x2 l;have x3:=Qo x3 l;clear a l C1;have C2:=Qb (fun d=>QfA o i HI.out.2.1 HI.out.2.2 d M z.out H2.out);go_wp2_with fail
 refine(C2.out _).mono ?_
 rintro e' w3 ⟨J,r⟩;have u:=Qb (n.out.trans (r.mono n.out.size));have H3:=Qb (H2.out.below r);have ad:=Qb (fun k p=>Zl (N.out k p) r.size);have ae:=Qb (fun k p=>Zl (z.out k p) r.size);rcases J with ⟨a,y3,rfl,T⟩|⟨a,rfl⟩
 rotate_left
 ·exact⟨Z,QU.bad ((fun a=>by rw[R.out,Qw G.out]) a) a (Yh K.out u.out)⟩
 subst T;have P:=Qb a;clear a r C2;have FF:Hid (QU w b O A s (s.next ⟨10,j,o,i,F,t,C,E⟩) (s.goC ⟨10,j,o,i,F,t,C,E⟩) (.returned (.tuple #[])) w3):=QU.none K.out u.out (by rw[R.out,Qw G.out,P.out]) (by rw[QZ (by simp) (by simp),V.out];simp);go_wp2
 exact Xz (v:=.tuple #[]) (by simp[results,results212,go_sem]) Z FF.out
theorem Qlg {s:JSt}{x:Qv}{D:Option Addr}(U:∀ k,A k->k<w.heap.size) (I:JOk s) (h:SAt w b O A s) (c:intsL.In w Q x.regs [.slice D x.regs.length rc]) (a:intsL.In w Q x.args [.slice ag x.args.length ac]) (q:x.regs.length<=rc) (r:ZM x) (hf:x.form s.m.length=0) (f:x.op=11) :
 Calls prog 212 #[Pv b 0,Qel x D ag rc ac] w fun e w'=>QU w b O A s (s.next x) (s.goC x) e w':=by
 have S:=Qfc (s:=s) f;obtain⟨op,d,l,g,p,j,n,o⟩:=x
 have f:op=11:=f;subst f;have M:=Qb S;obtain⟨V,f2,f3,-⟩:=Q5 hf
 have HF:=Qb (Xh V (Xh f2 f3));obtain⟨P,rb,z⟩:=r
 have HI:=Qb (Xh P (Xh rb z));have R:=I.vals;have B:=Qb (QgA U I h c a q #[Iv 11,Iv d,Iv l,Iv g,Iv p,Iv j,.slice D n.length rc,.slice ag o.length ac]);clear h U I c a S hf V f2 f3 P rb z q;go_enter func212,ntmps212
 go_upto_region 1 with fail
 generalize w.alloc (.cells #[Iv 11,Iv d,Iv l,Iv g,Iv p,Iv j,.slice D n.length rc,.slice ag o.length ac] 78)=w1 at B |-;generalize w.heap.size=X at B |-;obtain⟨HJ,H0,ad,H,HR,HG,N,HA,K,X1,aa⟩:=B.out
 clear B;obtain⟨x0,x1,x2,x3,x4,-,x6,x7⟩:=Q3 X1.out
 have EG:Hid (s.goC ⟨11,d,l,g,p,j,n,o⟩=Qt (s.want d 4 true) (Q4 s.L.length 1)):=by show _=_;unfold JSt.goC;rw[M.out];rfl
 have T:=Qb (Qab d 4 R K.out H.out);go_wp2_with fail
 refine(T.out ).mono ?_
 rintro e' w2 ⟨hq,t⟩;have y:=Qb (N.out.trans (t.mono N.out.size));have H2:=Qb (H.out.below t);have F:=Qb (fun k J=>Zl (HA.out k J) t.size);have ab:=Qb (fun k J=>Zl (K.out k J) t.size);rcases hq with ⟨i,y2,rfl,hy⟩|⟨i,rfl⟩
 rotate_left
 ·exact⟨Z,QU.bad ((fun i=>by rw[EG.out,Qr i]) i) i (Yh H0.out y.out)⟩
 have G:=Qb i;clear i t T;have E:Hid (∀ e u,QU w b O A s { s with L:=s.L++[tInt] } (Q4 s.L.length 1) e u->QU w b O A s (s.next ⟨11,d,l,g,p,j,n,o⟩) (s.goC ⟨11,d,l,g,p,j,n,o⟩) e u):=fun e u C=>C.to (by rw[EG.out,Qw G.out]) (fun _=>by rw[QZ (by simp) (by simp),M.out]);have CM:=Qb (QbM R F.out H2.out);go_wp2_with fail
 refine CM.out.mono ?_;rintro e' u C;have FF:Hid (QU w b O A s (s.next ⟨11,d,l,g,p,j,n,o⟩) (s.goC ⟨11,d,l,g,p,j,n,o⟩) e' u):=E.out _ _ (C.after y.out);rcases C with ⟨W,rfl,h3⟩|⟨W,rfl,h3⟩
 rotate_left
 ·exact⟨Z,FF.out⟩
 clear W h3 CM;go_wp2
 exact Xz (v:=.tuple #[]) (by simp[results,results212,go_sem]) Z FF.out
theorem Qlh {s:JSt}{x:Qv}{C:Option Addr}(T:∀ k,A k->k<w.heap.size) (E:JOk s) (h:SAt w b O A s) (c:intsL.In w Q x.regs [.slice C x.regs.length rc]) (a:intsL.In w Q x.args [.slice ag x.args.length ac]) (j:x.regs.length<=rc) (o:ZM x) (hf:x.form s.m.length=0) (f:x.op=13) :
 Calls prog 212 #[Pv b 0,Qel x C ag rc ac] w fun e w'=>QU w b O A s (s.next x) (s.goC x) e w':=by
 have P:=QeI (s:=s) f;obtain⟨op,g,r,l,z,n,t,y⟩:=x
 have f:op=13:=f;subst f;have I:=Qb P;obtain⟨S,U,f3,-⟩:=Q5 hf
 have HF:=Qb (Xh S (Xh U f3));obtain⟨M,V,u⟩:=o
 have HI:=Qb (Xh M (Xh V u));have N:=E.vals;have B:=Qb (QgA T E h c a j #[Iv 13,Iv g,Iv r,Iv l,Iv z,Iv n,.slice C t.length rc,.slice ag y.length ac]);clear h T E c a P hf S U f3 M V u j;go_enter func212,ntmps212
 go_upto_region 1 with fail
 generalize w.alloc (.cells #[Iv 13,Iv g,Iv r,Iv l,Iv z,Iv n,.slice C t.length rc,.slice ag y.length ac] 78)=w1 at B |-;generalize w.heap.size=X at B |-;obtain⟨HJ,J,ae,H,HR,HG,K,HA,G,X1,aa⟩:=B.out
 clear B;obtain⟨x0,x1,x2,x3,x4,-,x6,x7⟩:=Q3 X1.out
 have W:Hid (s.goC ⟨13,g,r,l,z,n,t,y⟩=s.want g 1 false):=by show _=_;unfold JSt.goC;rw[I.out];show Qt _ (Q4 s.L.length 0)=_;rw[QbI N,QfE]
 have R:=Qb (fun d=>QbA g HI.out.1 d N G.out H.out);go_wp2_with fail
 refine(R.out _).mono ?_
 rintro e' w2 ⟨hq,p⟩;have q:=Qb (K.out.trans (p.mono K.out.size));have H2:=Qb (H.out.below p);have ad:=Qb (fun k F=>Zl (HA.out k F) p.size);have ab:=Qb (fun k F=>Zl (G.out k F) p.size);rcases hq with ⟨i,y2,rfl,hy⟩|⟨i,rfl⟩
 rotate_left
 ·exact⟨Z,QU.bad ((fun i=>by rw[W.out]) i) i (Yh J.out q.out)⟩
 subst hy;have D:=Qb i;clear i p R;have FF:Hid (QU w b O A s (s.next ⟨13,g,r,l,z,n,t,y⟩) (s.goC ⟨13,g,r,l,z,n,t,y⟩) (.returned (.tuple #[])) w2):=QU.none J.out q.out (by rw[W.out,D.out]) (by rw[QZ (by simp) (by simp),I.out];simp);go_wp2
 exact Xz (v:=.tuple #[]) (by simp[results,results212,go_sem]) Z FF.out
def JSt.fieldC (s:JSt) (a:Int) (k:Nat):Int:=Qt (s.want a 3 true) (match s.at a with | none=>0 | some t=>if k<t.2.2.length then 0 else 9)
def QnU (w:World) (A:Nat->Prop) (s:JSt) (a:Int) (k:Nat) (x:Value):Prop:=∃ (t:TT 6) (u:TT 5) (p:Option Addr) (c:Nat),s.at a=some t/\t.2.2[k]?=some u/\x=Tv u p c/\TIn w (fun g=>¬ A g) u p
theorem QcX {s:JSt}{a:Int}(h:s.want a 3 true≠0):s.fieldC a k=s.want a 3 true:=by unfold JSt.fieldC Qt;rw[Xr h]
theorem Qje {s:JSt}{a:Int}{t:TT 6}(h:s.want a 3 true=0) (b:s.at a=some t):s.fieldC a k=if k<t.2.2.length then 0 else 9:=by unfold JSt.fieldC Qt;rw[Xs h,b]
theorem QdT {s:JSt}(a:Int) (k:Nat) (S:k<=100) (hL:s.L.length<=80) (C:∀ k,O k->k<w.heap.size) (h:SAt w b O A s) :
 Calls prog 245 #[Pv b 0,Iv a,Iv k] w fun e w'=>ZP (s.fieldC a k) (QnU w' A s a k) e/\Below w.heap.size w w':=by
 have U:=ZO w (.cells #[Iv 0,Iv 0,Nv] 105);have K:=Qb (h.more C U);have z:=Qb U;have F:Hid (Blk (w.alloc (.cells #[Iv 0,Iv 0,Nv] 105)) w.heap.size #[Iv 0,Iv 0,Nv] 105):=Blk.new _ _ _;have HO:=Qb C;clear h U C;go_enter func245,ntmps245
 go_upto_region 1 with fail
 generalize w.alloc (.cells #[Iv 0,Iv 0,Nv] 105)=w1 at K z F |-;obtain⟨R,T⟩:∃ R,w.heap.size=R:=⟨_,Z⟩
 have HR:=Qb (Nat.le_of_eq T);rw[T] at F |-
 clear T;go_wp2_with fail
 refine(Qab a 3 hL (fun k hk=>Zl (HO.out k hk) z.out.size) K.out).mono ?_
 rintro e' Q ⟨C,P⟩;have X:Hid (Below w.heap.size w Q):=z.out.trans (P.mono z.out.size);have X2:=Qb (F.out.below P);rcases C with ⟨m,x,rfl,t,p,c,W,rfl,ht,J⟩|⟨m,rfl⟩
 rotate_left
 ·exact⟨Z,.inr ⟨by rw[QcX m];exact m,by rw[QcX m]⟩,X.out⟩
 have f:=Qb (QhM.mk1 (c:=c) X.out X2.out HR.out ht);have HA:=Qb W;have E:=Qb (Qje (k:=k) m W);clear ht W J P F z K X2 m;go_upto_region 2 with fail
 generalize Q.alloc (.cells #[Iv t.kind,Iv t.r,.slice p t.len c] 105)=w3 at f |-;generalize Q.heap.size=B at f |-;obtain⟨y0,y1,y2,r0,r1,r2,z0,z1,z2⟩:=f.out.cells
 have aa:=f.out.ne;have y:Hid (t.len=t.2.2.length):=TT.len_eq t;by_cases i:k<t.2.2.length
 rotate_left
 ·have M:Hid (s.fieldC a k=9):=by show _=_;rw[E.out,Xr i]
  have j:¬ (k:Int)<t.len:=by rw[y.out];omega
  clear i;generalize t.len=tl at y2 j;go_wp2_with fail
  refine(Q9 _ 9).mono ?_
  rintro e' w' ⟨rfl,n⟩;subst n;exact⟨Z,ZP.bad M.out (by decide),f.out.bel⟩
 ·have M:Hid (s.fieldC a k=0):=by show _=_;rw[E.out,Xs i]
  have j:(k:Int)<t.len:=by rw[y.out];omega
  have I:Hid (t.2.2[k]?=some t.2.2[k]):=Zg i;generalize t.2.2[k]=u at I;obtain⟨g,o,D,G,rfl,N,u0,u1,u2,ut⟩:=f.out.lay k u I.out
  have UT:Hid (TIn w3 (fun g=>¬ (A g\/w.heap.size<=g)) u D):=ut;have ab:¬ R=g:=fun e=>by subst e;exact N (.inr f.out.farR)
  have ac:¬ B=g:=fun e=>by subst e;exact N (.inr f.out.farB)
  clear ut i N;obtain⟨x9,b9⟩:=QnQ (k:=u.kind) (r:=u.r) (q:=D) (l:=u.len) (d:=G) f.out.bel f.out.res f.out.farR
  have H:=Qb x9;have V:=Qb b9;clear x9 b9;generalize ad:t.len=tl at y2 j;go_wp2_with (go_at_call 268;refine(Zd _ _).mono ?_;rintro e' w' ⟨rfl,n⟩;have n:=n.symm;subst n)
  generalize ((w3.setCell ⟨R,0,none⟩ (Iv u.kind)).setCell ⟨R,1,none⟩ (Iv u.r)).setCell ⟨R,2,none⟩ (.slice D u.len G)=w9 at H V |-;have x0:=Qa H.out 0 _ Z;have x1:=Qa H.out 1 _ Z;have x2:=Qa H.out 2 _ Z;exact Xy (v:=Tv u D G) (by simp[results,results245,go_sem,x0,x1,x2]) Z ⟨ZP.good M.out ⟨t,u,D,G,HA.out,I.out,Z,(UT.out.over f.out.bel V.out).less⟩,V.out⟩
theorem Qhv (x:Int) (v:l.length=N) (F:N<=100000) (t:intsL.In w Q l [.slice p N c]) :
 Calls prog 288 #[.slice p N c,Iv x] w fun e w'=>(∃ i:Int,e=.returned (Iv i)/\(0<=i↔x∈l))/\w'=w:=by
 have C:=Qb t;have A:=Qb v;clear t v;go_enter func288,ntmps288
 go_wp2
 go_loop [8] (fun i=>∃ k:Nat,k<=N/\i=Iv k/\∀ (j:Nat) (y:Int),j<k->l[j]?=some y->x≠y) (fun i=>N - (intOf i).toNat)
 case atStart=>exact⟨0,Xb _,Z,fun j y q=>by omega⟩
 case round =>
  obtain⟨k,H,rfl,B⟩:=hrel
  have u:=Qb B;clear B;by_cases f:k<N
  ·have n:(k:Int)<N:=by omega
   have b:k<l.length:=by rw[A.out];exact f
   obtain⟨g,o,rfl,-,G,r⟩:=ZJ C.out b
   obtain⟨y,d⟩:∃ y,l[k]?=some y:=⟨_,Zg b⟩
   rw[show l.getD k 0=y by rw[List.getD_eq_getElem?_getD,d];rfl] at r
   have z:=Qb d;clear d b;by_cases a:x=y
   ·have m:(x==y)=true:=by simpa using a
    have D:Hid (x∈l):=by show _;rw[a];exact Zm z.out
    clear a;go_wp2
    go_ret;exact⟨⟨k,Z,by simp[D.out]⟩,Z⟩
   ·have m:(x==y)=false:=by simpa using a
    have s:=Qb a;clear a;go_wp2
    go_round
    case rel =>
     refine⟨k+1,f,by go_num,fun j E q d=>?_⟩
     rcases Nat.lt_or_ge j k with h | h
     ·exact u.out j E h d
     ·have:j=k:=by omega
      subst this;have e:=z.out.symm.trans d;injection e with e
      subst e;exact s.out
    case measure=>simp[intOf];omega
  ·have n:¬ (k:Int)<N:=by omega
   go_wp2
   go_ret;refine⟨⟨-1,Z,by omega,fun hm=>?_⟩,Z⟩
   obtain⟨j,q,e⟩:=List.mem_iff_getElem.1 hm
   exact absurd e.symm (u.out j _ (by have:=A.out;omega) (Zg q))
theorem Qem (x:Int) (g:l.length=N) (b:N<=100000) (f:intsL.In w Q l [.slice p N c]) :
 Calls prog 279 #[.slice p N c,Iv x] w fun e w'=>e=.returned (.bool (inB l x))/\w'=w:=by
 have C:=Qb (Qhv x g b f);clear f g;go_enter func279,ntmps279
 go_wp2_with fail
 refine C.out.mono ?_;rintro e w' ⟨⟨i,rfl,d⟩,a⟩;have a:=a.symm;subst a
 have E:Hid (inB l x=decide (i>=0)):=by
  show _=_;rw[Bool.eq_iff_iff,QfK]
  simp[d]
 clear C d;go_wp2
 go_ret;exact⟨by rw[E.out];rfl,Z⟩
theorem Qgn (H:List Bool) (l:List Int){x:Int}(a:l[k]?=some x):QX H (l.take k) (l.drop k)=if hHas H x then (if inB (l.take k) x then 13 else QX H (l.take (k+1)) (l.drop (k+1))) else 10:=by
 obtain⟨b,e⟩:=Zi a
 rw[List.drop_eq_getElem_cons b,e,QX,XV,a]
 rfl
def QbZ (H:List Bool) (l:List Int) (asked:Int):Int:=if (l.length:Int)=asked then QX H [] l else 2
theorem Qen {s:JSt}(d:Int) (M:l.length=N) (S:N<=100000) (U:N<=c) (K:intsL.In w Q l [.slice p N c]) (h:SAt w b O A s) :
 Calls prog 273 #[Pv b 0,.slice p N c,Iv d] w fun e w'=>ZP (QbZ s.H l d) VNone e/\w'=w:=by
 have J:=Qb K;have z:=Qb M;obtain⟨pm,cm,hh,a1,W,a2,X,a3,c3,aL,cL,G⟩:=h.read
 obtain⟨-,q1,-⟩:=G.cells
 have T:=Qb G.held;clear h K M G;by_cases j:(N:Int)=d
 rotate_left
 ·have r:((N:Int)==d)=false:=by simpa using j
  have E:Hid (QbZ s.H l d=2):=by show _=_;unfold QbZ;rw[z.out,Xr j]
  go_enter func273,ntmps273
  go_wp2_with fail
  refine(Q9 _ 2).mono ?_
  rintro n w' ⟨rfl,a⟩;subst a;exact⟨Z,ZP.bad E.out (by decide),Z⟩
 subst j;have r:((N:Int)==(N:Int))=true:=by simp
 have E:Hid (QbZ s.H l N=QX s.H [] l):=by show _=_;unfold QbZ;rw[z.out,Xs Z]
 go_enter func273,ntmps273
 go_wp2_with (go_at_call 268;refine(Zd _ _).mono ?_;rintro n w' ⟨rfl,a⟩;have a:=a.symm;subst a)
 go_loop [15] (fun i=>∃ k:Nat,k<=N/\i=Iv k/\QX s.H [] l=QX s.H (l.take k) (l.drop k)) (fun i=>N - (intOf i).toNat)
 case atStart=>exact⟨0,Xb _,Z,Z⟩
 case round =>
  obtain⟨k,hk,rfl,P⟩:=hrel
  have L:=Qb P;clear P;by_cases q:k<N
  ·have u:(k:Int)<N:=by omega
   have V:k<=c:=by omega
   have f:k<l.length:=by rw[z.out];exact q
   obtain⟨g,o,rfl,-,hg,I⟩:=ZJ J.out f
   obtain⟨y,x⟩:∃ y,l[k]?=some y:=⟨_,Zg f⟩
   rw[show l.getD k 0=y by rw[List.getD_eq_getElem?_getD,x];rfl] at I
   have B:=Qb (L.out.trans (Qgn s.H l x));have C:=Qb (Qcs y T.out)
   cases hq:hHas s.H y with
   | false =>
     rw[hq] at C
     have m:Hid (QbZ s.H l N=10):=by show _=_;rw[E.out,B.out,hq];rfl
     clear x f hq;go_wp2_with (go_at_call 272;refine(C.out).mono ?_;rintro e w' ⟨rfl,a⟩;have a:=a.symm;subst a)
     refine(Q9 _ 10).mono ?_
     rintro n w' ⟨rfl,a⟩;subst a;exact⟨Z,ZP.bad m.out (by decide),Z⟩
   | true =>
     rw[hq] at C
     have D:Hid (∀ F,Calls prog 279 #[.slice (some ⟨g,o,none⟩) k F,Iv y] w fun e w'=>e=.returned (.bool (inB (l.take k) y))/\w'=w):=fun F=>Qem y (by rw[List.length_take];omega) (by omega) (QhT J.out (Nat.le_of_lt f) F);have t:Hid (QX s.H [] l=if inB (l.take k) y then 13 else QX s.H (l.take (k+1)) (l.drop (k+1))):=by show _=_;rw[B.out,hq];rfl
     clear x f hq B
     cases hi:inB (l.take k) y with
     | true =>
       rw[hi] at D
       have m:Hid (QbZ s.H l N=13):=by show _=_;rw[E.out,t.out,hi];rfl
       clear hi;go_wp2_with (go_at_call 272;refine(C.out).mono ?_;rintro e w' ⟨rfl,a⟩;have a:=a.symm;subst a)
       refine(Zd _ _).mono ?_
       rintro n w' ⟨rfl,a⟩;have a:=a.symm;subst a;go_wp2_with (go_at_call 279;refine(D.out _).mono ?_;rintro e w' ⟨rfl,a⟩;have a:=a.symm;subst a)
       refine(Q9 _ 13).mono ?_
       rintro n w' ⟨rfl,a⟩;subst a;exact⟨Z,ZP.bad m.out (by decide),Z⟩
     | false =>
       rw[hi] at D
       have m:Hid (QX s.H [] l=QX s.H (l.take (k+1)) (l.drop (k+1))):=by show _=_;rw[t.out,hi];rfl
       clear hi;go_wp2_with (go_at_call 272;refine(C.out).mono ?_;rintro e w' ⟨rfl,a⟩;have a:=a.symm;subst a)
       refine(Zd _ _).mono ?_
       rintro n w' ⟨rfl,a⟩;have a:=a.symm;subst a;go_wp2_with (go_at_call 279;refine(D.out _).mono ?_;rintro e w' ⟨rfl,a⟩;have a:=a.symm;subst a)
       refine(Zd _ _).mono ?_
       rintro n w' ⟨rfl,a⟩;have a:=a.symm;subst a;go_wp2
       go_round
       case rel=>exact⟨k+1,q,by go_num,m.out⟩
       case measure=>simp[intOf];omega
  ·have u:¬ (k:Int)<N:=by omega
   have R:k=N:=by omega
   have m:Hid (QbZ s.H l N=0):=by
    show _=_;rw[E.out,L.out,List.drop_of_length_le (by rw[z.out];omega)]
    rfl
   go_wp2
   exact Xz (v:=.tuple #[]) (by simp[results,results273,go_sem]) Z ⟨ZP.good m.out Z,Z⟩
noncomputable def JSt.handC (s:JSt) (l:List Int) (ts:List (TT 6)):Int:=if l.length=ts.length then QM (fun p:Int × TT 6=>s.beC p.1 p.2) (l.zip ts) else 2
theorem QaO {R:Nat->Prop}{s:JSt}{a:List (TT 6)}{pt:Option Addr}{M:Nat}(X:l.length=N) (aa:N<=100000) (hM:a.length=M) (ab:M<=100000) (W:intsL.In w Q l [.slice p N c]) (ht:LIn w R a pt)
 (hL:s.L.length<=80) (q:∀ x∈s.L,x.count<=100000) (S:∀ k,O k->k<w.heap.size) (h:SAt w b O A s) :
 Calls prog 251 #[Pv b 0,.slice p N c,.slice pt M d] w fun e w'=>ZP (s.handC l a) VNone e/\Below w.heap.size w w':=by
 have H:=Qb h;have HO:=Qb S;have HL:=Qb W;have HT:=Qb ht;have P:=Qb X;have K:=Qb hM;have HC:=Qb q;clear h S W X ht hM q;by_cases G:N=M
 rotate_left
 ·have F:((N:Int)==(M:Int))=false:=by simp;omega
  have E:Hid (s.handC l a=2):=by show _=_;unfold JSt.handC;rw[P.out,K.out,Xr G]
  go_enter func251,ntmps251
  go_wp2_with fail
  refine(Q9 _ 2).mono ?_
  rintro e' w' ⟨rfl,C⟩;subst C;exact⟨Z,ZP.bad E.out (by decide),Zr⟩
 subst G;have F:((N:Int)==(N:Int))=true:=by simp
 have E:Hid (s.handC l a=QM (fun p:Int × TT 6=>s.beC p.1 p.2) (l.zip a)):=by show _=_;unfold JSt.handC;rw[P.out,K.out,Xs Z]
 go_enter func251,ntmps251
 go_wp2_with (go_at_call 268;refine(Zd _ _).mono ?_;rintro e' w' ⟨rfl,C⟩;have C:=C.symm;subst C)
 go_loopw [16] (fun i wr=>∃ k:Nat,k<=N/\i=Iv k/\Below w.heap.size w wr/\∀ (j:Nat) (y:Int × TT 6),j<k->(l.zip a)[j]?=some y->s.beC y.1 y.2=0) (fun i _=>N - (intOf i).toNat)
 case atStart=>exact⟨0,Xb _,Z,Zr,fun j y hj=>by omega⟩
 case round =>
  obtain⟨k,hk,rfl,hB,hz⟩:=hrel
  have f:=Qb hB;have T:=Qb hz;clear hB hz;by_cases r:k<N
  ·have J:(k:Int)<N:=by omega
   have z:k<l.length:=by rw[P.out];exact r
   have D:k<a.length:=by rw[K.out];exact r
   obtain⟨g,o,rfl,-,hg,B⟩:=ZJ HL.out z
   obtain⟨y,m⟩:∃ y,l[k]?=some y:=⟨_,Zg z⟩
   obtain⟨t,u⟩:∃ t,a[k]?=some t:=⟨_,Zg D⟩
   rw[show l.getD k 0=y by rw[List.getD_eq_getElem?_getD,m];rfl] at B
   obtain⟨g2,o2,p2,c2,rfl,-,d0,d1,d2,n⟩:=HT.out.at u
   have HX:Hid ((l.zip a)[k]?=some (y,t)):=by show _=_;rw[List.getElem?_zip_eq_some];exact⟨m,u⟩
   have y0:=Qo B f.out;have z0:=Qo d0 f.out;have z1:=Qo d1 f.out;have z2:=Qo d2 f.out;have HK:=Qb (n.below f.out);clear B z D d0 d1 d2 m u n;go_wp2_with fail
   refine(QcV y HK.out hL HC.out (fun k hk=>Zl (HO.out k hk) f.out.size) (H.out.below f.out)).mono ?_
   rintro e' w2 ⟨S,b2⟩;have V:Hid (Below w.heap.size w w2):=f.out.trans (b2.mono f.out.size);rcases S with ⟨I,x,rfl,-⟩|⟨I,rfl⟩
   rotate_left
   ·have e9:s.handC l a=s.beC y t:=by rw[E.out,QaV HX.out T.out I]
    exact⟨Z,.inr ⟨by rw[e9];exact I,by rw[e9]⟩,V.out⟩
   have U:=Qb I;clear I b2 y0 z0 z1 z2;go_wp2
   go_roundw
   case rel =>
    refine⟨k+1,r,by go_num,V.out,fun j y' hj m=>?_⟩
    rcases Nat.lt_or_ge j k with h | h
    ·exact T.out j y' h m
    ·have:j=k:=by omega
     subst this;have e:=HX.out.symm.trans m;injection e with e
     subst e;exact U.out
   case measure=>simp[intOf];omega
  ·have J:¬ (k:Int)<N:=by omega
   go_wp2
   exact Xz (v:=.tuple #[]) (by simp[results,results251,go_sem]) Z ⟨ZP.good (by rw[E.out];exact QaG (fun j y m=>T.out j y (by have:=(Zi m).1;rw[List.length_zip,P.out,K.out] at this;omega) m)) Z,f.out⟩
theorem Qh5 (d:l.length=N) (a:intsL.In w Q l [.slice p N c]):QkQ w p N (fun i=>l.getD i 0):=fun i b=>by
 obtain⟨g,o,e,-,-,h⟩:=ZJ a (show i<l.length by omega)
 exact⟨g,o,e,h⟩
theorem QkB {regs:List Int}{t:TT 6}{e:Ending}(h:QgH w w' (t.ren regs.length (fun i=>regs.getD i 0)) e):∃ a c q,e=.returned (.tuple #[Tv (Qao regs t) a c,.bool q])/\TIn w' (Qb1 w.heap.size) (Qao regs t) a/\Below w.heap.size w w':=by
 unfold Qao
 cases hr:t.ren regs.length (fun i=>regs.getD i 0) with
 | none =>
   rw[hr] at h
   obtain⟨rfl,g⟩:=h
   exact⟨none,0,false,Z,fun i x f=>by simp[zeroTT] at f,g⟩
 | some u =>
   rw[hr] at h
   obtain⟨a,c,rfl,d,b⟩:=h
   exact⟨a,c,true,Z,d,b⟩
theorem QaU {R:Nat->Prop}{a:List (TT 6)}{regs:List Int}{pt:Option Addr}{M:Nat}(F:regs.length=N) (hM:a.length=M) (ab:M<=1000) (P:intsL.In w Q regs [.slice p N c]) (ht:LIn w R a pt) (j:∀ x∈a,x.count<=2000) :
 Calls prog 274 #[.slice pt M d,.slice p N c] w fun e w'=>∃ g,e=.returned (.slice (some ⟨g,0,none⟩) M M)/\w.heap.size<=g/\Qcv w' g M (a.map (Qao regs))/\Below w.heap.size w w':=by
 have HM:=Qb hM;have HI:=Qb (Qh5 F P);have HT:=Qb ht;have HC:=Qb j;have HN:=Qb F;have K:=Qim w M (by omega);have I:Hid (Below w.heap.size w (w.alloc (.cells (madeCells #[Iv 0,Iv 0,Nv] (M*3)) 105))):=ZO _ _;have A:Hid (Qcv (w.alloc (.cells (madeCells #[Iv 0,Iv 0,Nv] (M*3)) 105)) w.heap.size M ([]:List (TT 6))):=⟨_,Qf w _ _,size_madeCells _ _,fun i x hx=>by simp at hx⟩;clear hM P ht j F;go_enter func274,ntmps274
 go_wp2
 generalize w.alloc (.cells (madeCells #[Iv 0,Iv 0,Nv] (M*3)) 105)=w1 at I A |-;obtain⟨G,B⟩:∃ G,G=w.heap.size:=⟨_,Z⟩
 rw[<-B] at A |-
 have z:=Qb (Nat.le_of_eq B.symm);have HE:=Qb B;clear K B;go_loopw [13] (fun i wr=>∃ q:Nat,q<=M/\i=Iv q/\Qcv wr G M ((a.take q).map (Qao regs))/\Below w.heap.size w wr) (fun i _=>M - (intOf i).toNat)
 case atStart=>exact⟨0,Xb _,Z,A.out,I.out⟩
 case round =>
  clear A I;obtain⟨q,hq,rfl,V,T⟩:=hrel
  have m:=Qb T;have Y:=Qb V;clear T V;by_cases n:q<M
  ·have ac:(q:Int)<M:=by omega
   have u:q<a.length:=by rw[HM.out];exact n
   obtain⟨t,b⟩:∃ t,a[q]?=some t:=⟨_,Zg u⟩
   obtain⟨g2,o2,H,D,rfl,-,d0,U,d2,l⟩:=HT.out.at b
   have W:=Qo d0 m.out;have z1:=Qo U m.out;have z2:=Qo d2 m.out
   have C:Hid (∀ o,Below wr.heap.size wr o->Calls prog 285 #[Tv t H D,.slice p N c] o fun e w'=>∃ a' c' qb,e=.returned (.tuple #[Tv (Qao regs t) a' c',.bool qb])/\TIn w' (Qb1 o.heap.size) (Qao regs t) a'/\Below o.heap.size o w'):=fun o hb=>by
    have v:=m.out.trans (hb.mono m.out.size)
    have:=rename_any 6 t H D p N c (fun i=>regs.getD i 0) o (l.below v).all (HC.out t (Zm b)) (HI.out.below v)
    refine this.mono (fun e w' h=>?_);rw[<-HN.out] at h
    exact QkB h
   have HS:Hid ((a.take (q+1)).map (Qao regs)=(a.take q).map (Qao regs)++[Qao regs t]):=by show _=_;rw[XV,b,List.map_append];rfl
   have y:Hid (((a.take q).map (Qao regs)).length=q):=by show _=_;rw[XN,List.length_take];omega
   clear d0 U d2 l b u;simp only[Tv] at C
   generalize t.kind=tk at W C;generalize t.r=tr at z1 C;generalize t.len=tl at z2 C;have ad:q*3+2<M*3:=by omega
   go_wp2_with fail
   have s:Below wr.heap.size wr (wr.alloc (.cells #[Iv tk,Iv tr,.slice H tl D] 105)):=(Below.refl _ wr).alloc Ze _;refine(C.out _ s).mono ?_
   rintro e E ⟨X,c4,qb,rfl,t4,J⟩;have f:=Y.out.below (s.trans (J.mono s.size));have B4:Hid (Below w.heap.size w E):=m.out.trans ((s.trans (J.mono s.size)).mono m.out.size);obtain⟨v0,r0⟩:=f.has (q*3) (by omega)
   obtain⟨v1,r1⟩:=f.has (q*3+1) (by omega)
   obtain⟨v2,r2⟩:=f.has (q*3+2) (by omega)
   have f0:=f.frozen (q*3);have f1:=f.frozen (q*3+1);have f2:=f.frozen (q*3+2);have O:TIn E (Qb1 (G+1)) (Qao regs t) X:=t4.mono (fun k hk _=>by have:=Y.out.lt;have:wr.heap.size<=k:=Zt s.size hk;omega);have S:=Qb (f.set (c:=c4) y.out n O);have L:Hid (Below w.heap.size w (((E.setCell ⟨G,q*3,none⟩ (Iv (Qao regs t).kind)).setCell ⟨G,q*3+1,none⟩ (Iv (Qao regs t).r)).setCell ⟨G,q*3+2,none⟩ (.slice X (Qao regs t).len c4))):=((B4.out.setCell (p:=⟨G,q*3,none⟩) z.out _).setCell (p:=⟨G,q*3+1,none⟩) z.out _).setCell (p:=⟨G,q*3+2,none⟩) z.out _;clear f O t4 J s C W z1 z2;simp only[Tv] at S L |-
   go_wp2
   go_roundw
   case rel=>exact⟨q+1,n,by go_num,by rw[HS.out];exact S.out,L.out⟩
   case measure=>simp[intOf];omega
  ·have aa:¬ (q:Int)<M:=by omega
   have e:a.take q=a:=XO (by rw[HM.out];omega);rw[e] at Y
   go_wp2
   go_ret;exact⟨G,Z,z.out,Y.out,m.out⟩
theorem QbH (b:Nat):∀ (vs:List Value) (w:World) (j:Nat),(w.setCells b j vs).heap.size=w.heap.size
 | [],w,j=>rfl
 | v::vs,w,j=>(QbH b vs _ _).trans (by simp)
abbrev Qm5 (Z:Type):=List (Nat × (Z->World->(Nat->Prop)->Prop))
def Qee {Z:Type}(D:Qm5 Z):Prop:=∀ x∈D,∀ z w w' O,(∀ k,O k->k<w.heap.size->w'.heap[k]?=w.heap[k]?)->x.2 z w O->x.2 z w' O
def QjW (w00:World) (Ai:List (Nat × Tmp × Nat × TypeId)) (S:Nat->Bool) (a:Act) (w:World) (O:Nat->Prop):Prop :=
 (∀ k,O k->w00.heap.size<=k/\k<w.heap.size)/\∀ y∈Ai,S y.1=true->∀ B,a.tmps.getD y.2.1 undef=Pv B 0->¬ O B
def DMz (n:Nat) (a0:Act) (w00:World) (ds:List Tmp) (Ti:List (Nat × Tmp)) (Ai Oi:List (Nat × Tmp × Nat × TypeId)){Z:Type}(M:Z->List (Tmp × Value)) (C:Z->List (Tmp × List Value)) (D:Qm5 Z) (z:Z) (S:Nat->Bool) (a:Act) (w:World):Prop :=
 DI n a0 w00 ds Ti Ai Oi (M z) (C z) S a w/\∀ x∈D,S x.1=true->∃ O,x.2 z w O/\QjW w00 Ai S a w O
def DM (n:Nat) (a0:Act) (w00:World) (ds:List Tmp) (Ti:List (Nat × Tmp)) (Ai Oi:List (Nat × Tmp × Nat × TypeId)){Z:Type}(M:Z->List (Tmp × Value)) (C:Z->List (Tmp × List Value)) (D:Qm5 Z) (S:Nat->Bool) (a:Act) (w:World):Prop :=
 ∃ z,DMz n a0 w00 ds Ti Ai Oi M C D z S a w
section
variable {n i:Nat}{a0 a:Act}{w00 w w':World}{l:List Oper}{Ti:List (Nat × Tmp)}{Ai Oi:List (Nat × Tmp × Nat × TypeId)}{Z:Type}{M:Z->List (Tmp × Value)}{C:Z->List (Tmp × List Value)}{D:Qm5 Z}{z z':Z}{S:Nat->Bool}{t:Tmp}{v:Value}{s:Nat}{ty:TypeId}
theorem QlH (h:((D.map (·.1)).all fun j=>j != i)=true):∀ x∈D,x.1≠i:=fun x a=>by
 have:=Xe.1 h x.1 (List.mem_map.2 ⟨x,a,Yz⟩)
 simpa using this
theorem Qev (d:diB l n Ti Ai Oi=true) (hi:(i,t)∈Ti):∀ x∈Ai,x.2.1≠t:=by
 simp only[diB,Bool.and_eq_true] at d
 obtain⟨f,⟨⟨a,b⟩,c⟩,h⟩:=d
 exact fun x g e=>Qce a (List.mem_map.2 ⟨(i,t),hi,Yz⟩) (e ▸ List.mem_map.2 ⟨x,g,Yz⟩)
theorem QfF (b:diB l n Ti Ai Oi=true) (c:t∈Ti.map (·.2)++Ai.map (·.2.1)):t<n:=by
 simp only[diB,Bool.and_eq_true] at b
 have a:=Xe.1 b.2.1.2 t c;simp only[Bool.and_eq_true,decide_eq_true_eq] at a
 exact a.1
theorem QjW.pure (e:∀ x∈Ai,x.2.1≠t) (c:t<a.tmps.size) (d:(Ai.all fun x=>x.1 != i)=true) (hb:w.heap.size<=w'.heap.size) (h:QjW w00 Ai S a w O):QjW w00 Ai (ZE i S) (a.put (some t) v) w' O :=
 ⟨fun k f=>⟨(h.1 k f).1,Zl (h.1 k f).2 hb⟩,fun y b j B g=>by
  rw[Zk c,Xr (e y b)] at g
  exact h.2 y b (Zb (by have:=Xe.1 d y b;simpa using this) j) B g⟩
theorem DMz.pure (e:Qee D) (m:diB l n Ti Ai Oi=true) (g:DMz n a0 w00 (Qn l) Ti Ai Oi M C D z S a w) (hi:(i,t)∈Ti) (o:(M z).lookup t=some v) (s:S i=false) (hb:Below w.heap.size w w')
 (c:(Ai.all fun x=>x.1 != i)=true) (h:(Oi.all fun x=>x.1 != i)=true) (b:((D.map (·.1)).all fun j=>j != i)=true):DM n a0 w00 (Qn l) Ti Ai Oi M C D (ZE i S) (a.put (some t) v) w':=by
 have d:=QlH b;refine⟨z,DI.pure m g.1 hi o s hb c h,fun x f p=>?_⟩
 obtain⟨O,r,q⟩:=g.2 x f (Zb (d x f) p)
 exact⟨O,e x f z w w' O (fun k _ u=>hb.block k u) r,q.pure (Qev m hi) (by rw[g.1.size];exact QfF m (List.mem_append_left _ (List.mem_map.2 ⟨(i,t),hi,Yz⟩))) c hb.size⟩
theorem DMz.alloc (u:Qee D) (g:diB l n Ti Ai Oi=true) (A:DMz n a0 w00 (Qn l) Ti Ai Oi M C D z S a w) (hi:(i,t,s,ty)∈Ai){c:Array Value}(K:c.size=s) (N:S i=false) (v:Qad l S)
 (p:(Ti.all fun x=>x.1 != i)=true) (r:(Oi.all fun x=>x.1 != i)=true) (d:((D.map (·.1)).all fun j=>j != i)=true):DM n a0 w00 (Qn l) Ti Ai Oi M C D (ZE i S) (a.put (some t) (Pv w.heap.size 0)) (w.alloc (.cells c ty)):=by
 have H:Below w.heap.size w (w.alloc (.cells c ty)):=ZO w _;have o:=QlH d;refine⟨z,DI.alloc g A.1 hi K N v p r,fun x E J=>?_⟩
 obtain⟨O,L,h⟩:=A.2 x E (Zb (o x E) J)
 have F:t<a.tmps.size:=by rw[A.1.size];exact QfF g (List.mem_append_right _ (List.mem_map.2 ⟨(i,t,s,ty),hi,Yz⟩))
 refine⟨O,u x E z w _ O (fun k _ m=>H.block k m) L,fun k m=>⟨(h.1 k m).1,Zl (h.1 k m).2 H.size⟩,fun y G q B b I=>?_⟩
 rw[Zk F] at b
 by_cases e:y.2.1=t
 ·rw[Xs e] at b
  simp at b
  subst b
  have:=(h.1 _ I).2
  omega
 ·rw[Xr e] at b
  refine h.2 y G (Zb (fun P=>e ?_) q) B b I;simp only[diB,Bool.and_eq_true] at g
  exact congrArg (·.2.1) (ZQ (f:=fun x:Nat × Tmp × Nat × TypeId=>x.1) g.1.1.2 y G _ hi P)
theorem DMz.store (p:Qee D) (P:diB l n Ti Ai Oi=true) (L:DMz n a0 w00 (Qn l) Ti Ai Oi M C D z S a w) (hi:(i,t,s,ty)∈Oi){c:Array Value}(I:(j,t,s,ty)∈Ai) (g:S j=true) (K:a.tmps.getD t undef=Pv B 0) (H:Blk w B c ty) (F:c.size=s) (u:w00.heap.size<=B) (V:(C z).lookup t=some cs) (G:cs.length=s) (U:S i=false) (r:Qad l S)
 (m:(Ti.all fun x=>x.1 != i)=true) (f:(Ai.all fun x=>x.1 != i)=true) (d:((D.map (·.1)).all fun j=>j != i)=true):DM n a0 w00 (Qn l) Ti Ai Oi M C D (ZE i S) a (w.setCells B 0 cs):=by
 have h:=QlH d;refine⟨z,DI.store P L.1 hi I g K H F u V G U r m f,fun x E N=>?_⟩
 obtain⟨O,Q,A⟩:=L.2 x E (Zb (h x E) N)
 have W:=Qbk w B 0 cs;have v:(w.setCells B 0 cs).heap.size=w.heap.size:=QbH B cs w 0;refine⟨O,p x E z w _ O (fun k b _=>W k fun e=>?_) Q,fun k b=>by rw[v];exact A.1 k b,fun y J o R q T=>?_⟩
 ·subst e;exact A.2 _ I g k K b
 ·exact A.2 y J (Zb (by have:=Xe.1 f y J;simpa using this) o) R q T
theorem DMz.call (I:Qee D) (q:diB l n Ti Ai Oi=true) (b:DMz n a0 w00 (Qn l) Ti Ai Oi M C D z S a w) (hi:(i,t)∈Ti) (X:(M z').lookup t=some v) (R:S i=false) (J:Qad l S) (hb:Below w.heap.size w w')
 (g:(Ai.all fun x=>x.1 != i)=true) (G:(Oi.all fun x=>x.1 != i)=true)
 (r:List Nat) (Q:(r.all fun j=>match l[j]? with | some o=>QgI o i | none=>false)=true)
 (hM:∀ x∈Ti,x.1∈r\/x.1=i\/(M z).lookup x.2=(M z').lookup x.2) (hC:∀ x∈Oi,x.1∈r\/(C z).lookup x.2.1=(C z').lookup x.2.1)
 (W:∀ x∈D,(x.1=i/\∃ O,x.2 z' w' O/\∀ k,O k->w.heap.size<=k/\k<w'.heap.size)\/(x.1≠i/\∀ w O,x.2 z w O->x.2 z' w O)):DM n a0 w00 (Qn l) Ti Ai Oi M C D (ZE i S) (a.put (some t) v) w':=by
 have m:∀ j∈r,S j=true->False:=fun j U d=>by
  have:=Xe.1 Q j U
  cases ho:l[j]? with
  | none=>rw[ho] at this;simp at this
  | some o =>
    rw[ho] at this
    have:=QkH.at (J j o ho d) i this
    rw[R] at this
    cases this
 have H:DI n a0 w00 (Qn l) Ti Ai Oi (M z') (C z') S a w:=by
  refine⟨b.1.size,b.1.defers,b.1.outer,b.1.bel,fun x f d u hu=>?_,b.1.new,b.1.ne,fun x f d c hc=>?_⟩
  ·rcases hM x f with h | h | h
   ·exact(m _ h d).elim
   ·rw[h,R] at d;cases d
   ·exact b.1.vals x f d u (h.trans hu)
  ·rcases hC x f with h | h
   ·exact(m _ h d).elim
   ·exact b.1.did x f d c (h.trans hc)
 have p:t<a.tmps.size:=by rw[b.1.size];exact QfF q (List.mem_append_left _ (List.mem_map.2 ⟨(i,t),hi,Yz⟩))
 refine⟨z',DI.pure q H hi X R hb g G,fun x f d=>?_⟩
 rcases W x f with ⟨_,O,N,K⟩|⟨E,N⟩
 ·refine⟨O,N,fun k s=>⟨Zt b.1.bel.size (K k s).1,(K k s).2⟩,fun y A F B e hO=>?_⟩
  rw[Zk p,Xr (Qev q hi y A)] at e
  have L:S y.1=true:=Zb (by have:=Xe.1 g y A;simpa using this) F;obtain⟨B',P,T,c,V,h6⟩:=b.1.new y A L
  rw[P] at e
  simp at e
  subst e
  have:=V.lt
  have:=(K _ hO).1
  omega
 ·obtain⟨O,P,T⟩:=b.2 x f (Zb E d)
  exact⟨O,I x f z' w w' O (fun k _ s=>hb.block k s) (N w O P),T.pure (Qev q hi) p g hb.size⟩
end
theorem Qgr {m:Nat}{too:Nat->Int}(c:∀ i,i<m->-9223372036854775808<=too i/\too i<=9223372036854775807):{n:Nat}->{t u:TT n}->t.ok->t.ren m too=some u->u.ok
 | 0,t,_,_,_=>Empty.elim t
 | n+1,t,u,hok,h=>by
   simp only[TT.ren] at h
   cases e1:Qay m too t.1 t.2.1 with
   | none=>simp[e1] at h
   | some r1 =>
     simp only[e1] at h
     cases e2:QbW (TT.ren m too) t.2.2 with
     | none=>simp[e2] at h
     | some l1 =>
       simp only[e2] at h
       have h:=Xn h;subst h;refine⟨?_,fun x d=>?_⟩
       ·show -9223372036854775808<=r1/\r1<=9223372036854775807;unfold Qay at e1;split at e1
        ·cases e1;exact hok.1
        split at e1
        ·cases e1
        rename_i j g
        split at e1
        ·cases e1
        ·cases e1;exact c _ (by omega)
       ·obtain⟨e,f⟩:=Qbz.1 e2
        obtain⟨i,b⟩:=List.getElem?_of_mem d
        have a:i<t.2.2.length:=by rw[<-e];exact(Zi b).1
        have:=f i t.2.2[i] (Zg a)
        rw[b] at this
        exact Qgr c (hok.2 _ (List.getElem_mem a)) this
theorem Qjh (h:intsL.In w Q l [.slice a m c]):∀ x∈l,-9223372036854775808<=x/\x<=9223372036854775807:=fun x e=>by
 obtain⟨i,b⟩:=List.getElem?_of_mem e
 obtain⟨g,o,f,_,_,_,_,_,d⟩:=Yf h b
 exact d
theorem Qhw {m:List (MFunc 6)}(h:(ZZ 6).In w Q m [.slice p n c]){g:MFunc 6}(d:m[k]?=some g) :
 ∃ mg mo a1 c1 a2 c2 a3 c3,p=some ⟨mg,mo,none⟩/\w.cell? ⟨mg,mo+k*4,none⟩=some (Iv g.regs)/\w.cell? ⟨mg,mo+k*4+1,none⟩=some (.slice a1 g.params.length c1)/\w.cell? ⟨mg,mo+k*4+2,none⟩=some (.slice a2 g.results.length c2)/\w.cell? ⟨mg,mo+k*4+3,none⟩=some (.slice a3 g.blocks.length c3) /\
  (Qx 6).In w Q g.params [.slice a1 g.params.length c1]/\(Qx 6).In w Q g.results [.slice a2 g.results.length c2]:=by
 obtain⟨mg,mo,q,i,r,l,a,b⟩:=Yf h d
 obtain⟨a1,c1,a2,c2,a3,c3,rfl,f,e,o,j⟩:=QaY b
 exact⟨mg,mo,a1,c1,a2,c2,a3,c3,i,a 0 (by decide),a 1 (by decide),a 2 (by decide),a 3 (by decide),f,e⟩
end Go.Proofs.YtjhdpajpibdnaafGreat
