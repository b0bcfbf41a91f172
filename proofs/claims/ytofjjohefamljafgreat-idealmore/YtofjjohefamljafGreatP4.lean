import Derived.Test.YtofjjohefamljafGreatP3
import Derived.Defers
import Derived.Recover
import Derived.Deep.Upon
set_option maxHeartbeats 16000000
set_option maxRecDepth 100000
namespace Go.Proofs.YtofjjohefamljafGreat
open Go.ChangeShapes Go.WideShapes Go.ChangeAt Go.RowKit _root_.Go.Proofs.Tryz
set_option linter.unusedSimpArgs false
set_option linter.unusedVariables false
variable {w w' w6 wr wc w1:World}{n c b B g m k i j X cm rc ac rl al fi N bh q R bi cap most lo id d f x ci na ca o lm G pages:Nat}{O O' Q2 OO:Nat→Prop}{a p ra aa pm pi pa:Option Addr}{v u v0:Value}{t bt e:TypeId}{xa xb xc xk xn words fu pg:Int}{Q:Exit→Act→World→Prop}{P:Program}{l:List Oper}{bs:List Bool}{cs xs:List Value}{inp:List Int}{x0:Operand}
def Q4 (e:Ending) (A:Prop):Prop:=∃ q:Bool,e=.returned (.bool q)/\(q=true↔A)
theorem Q4.yes {A:Prop}(h:A):Q4 (.returned (.bool true)) A:=⟨true,Z,by simp[h]⟩
theorem Q4.no {A:Prop}(h:¬ A):Q4 (.returned (.bool false)) A:=⟨false,Z,by simp[h]⟩
def Qdg (f:Nat) (n:Nat):Prop:=∀ (t u:TT n) (a b:Option Addr) (c d:Nat) (w:World),TIn w All t a->TIn w All u b->t.count<=100000 ->
 Calls prog f #[Tv t a c,Tv u b d] w fun e w'=>Q4 e (t=u)/\Below w.heap.size w w'
theorem Qh6 (n:Nat) (J:Qdg 80 n) (l m:List (TT n)) (a b:Option Addr) (c d:Nat) (w:World) (H:LIn w All l a) (M:LIn w All m b) (V:l.length<=100000) (z:∀ x∈l,x.count<=100000) :
 Calls prog 49 #[.slice a l.length c,.slice b m.length d] w fun e w'=>Q4 e (l=m)/\Below w.heap.size w w':=by
 have IH:Hid (Qdg 80 n):=J;have hl:Hid (LIn w All l a):=H;have hm:Hid (LIn w All m b):=M;have S:Hid (∀ x∈l,x.count<=100000):=z;clear J H M z;by_cases u:l.length=m.length
 ·have K:((l.length:Int) != (m.length:Int))=false:=by simp;omega
  have E:Hid (l.length=m.length):=u;clear u;go_enter func49,ntmps49
  go_wp2_with fail
  go_loopw [5] (fun i wr=>∃ q:Nat,q<=l.length/\i=.int .i64 q/\(∀ j,j<q->l[j]?=m[j]?)/\Below w.heap.size w wr) (fun i _=>l.length - (intOf i).toNat)
  case atStart=>exact⟨0,Xb _,Z,fun j hj=>by omega,Zr⟩
  case round =>
   obtain⟨q,hq,rfl,D,hb⟩:=hrel
   have A:Hid (∀ j,j<q->l[j]?=m[j]?):=D;have B:Hid (Below w.heap.size w wr):=hb;clear D hb;by_cases O:q<l.length
   ·have G:l[q]?=some l[q]:=Zg O;have Q:q<m.length:=by have:=E.out;omega
    have N:m[q]?=some m[q]:=Zg Q;generalize l[q]=x at G;generalize m[q]=y at N;obtain⟨g,o,W,X,rfl,_,d0,d1,d2,U⟩:=LIn.at (hl.out.below B.out) G
    obtain⟨g',o',T,d',rfl,_,d3,d4,d5,L⟩:=LIn.at (hm.out.below B.out) N
    have C:Hid (∀ k,Calls prog 80 #[Tv x W X,Tv y T d'] (wr.drewN k) fun e w'=>Q4 e (x=y)/\Below wr.heap.size wr w') :=
     fun k=>(IH.out x y W T X d' _ (U.drewN k) (L.drewN k) (S.out x (Zm G))).mono (fun e w' h=>⟨h.1,QdK h.2⟩)
    have v:Hid (l[q]?=some x):=G;have s:Hid (m[q]?=some y):=N;clear U L G N;have aa:(0:Int)<=q:=by omega
    have P:(q:Int)<l.length:=by omega
    have ab:(q:Int)<m.length:=by omega
    go_upto_region 6 with fail
    go_cut [26] (fun t wx=>∃ p:Bool,t=.bool (!p)/\(p=true↔x=y)/\Below wr.heap.size wr wx)
    case first =>
     go_region_with (go_at_call 80;refine(C.out 1).mono ?_;rintro r w5 ⟨⟨p,rfl,F⟩,I⟩;have HP:Hid (p=true↔x=y):=F;have B5:Hid (Below wr.heap.size wr w5):=I;clear F I)
     all_goals
      go_wp2
      go_meet;exact⟨p,Z,HP.out,B5.out⟩
    case rest =>
     obtain⟨p,rfl,F,I⟩:=hcut
     have HB:Hid (Below w.heap.size w wc):=B.out.trans (I.mono B.out.size);clear C I B d0 d1 d2 d3 d4 d5
     cases p with
     | true =>
       have f:x=y:=F.1 Z
       have A2:Hid (∀ j,j<q+1->l[j]?=m[j]?):=fun j hj=>by
        by_cases e:j=q
        ·subst e;rw[v.out,s.out,f]
        ·exact A.out j (by omega)
       clear F f v s A;go_wp2
       go_roundw
       case rel=>exact⟨q+1,by omega,by go_num,A2.out,HB.out⟩
       case measure=>simp[intOf];omega
     | false =>
       have f:Hid (¬ l=m):=fun h=>by
        have h1:=v.out;rw[h,s.out] at h1
        have:=F.2 (Xn h1).symm
        cases this
       clear F v s A;go_wp2
       go_ret;exact⟨Q4.no f.out,HB.out⟩
   ·have R:Hid (l=m):=by
     have:=E.out
     refine List.ext_getElem? (fun i=>?_);by_cases hi:i<q
     ·exact A.out i hi
     ·rw[Xk (by omega),Xk (by omega)]
    have P:¬ (q:Int)<l.length:=by omega
    clear A;go_wp2
    go_ret;exact⟨Q4.yes R.out,B.out⟩
 ·have K:((l.length:Int) != (m.length:Int))=true:=by simp;omega
  have E:Hid (l.length≠m.length):=u;clear u;go_enter func49,ntmps49
  go_wp2
  go_ret;exact⟨Q4.no (fun h=>E.out (by rw[h])),Zr⟩
theorem TT.eq_iff {t u:TT (n+1)}:t=u↔t.kind=u.kind/\t.r=u.r/\t.2.2=u.2.2:=by
 obtain⟨a,b,c⟩:=t
 obtain⟨d,e,f⟩:=u
 constructor
 ·intro h;cases h;exact⟨Z,Z,Z⟩
 ·rintro ⟨rfl,rfl,rfl⟩;rfl
theorem samet_any:∀ n,Qdg 80 n:=by
 intro n
 induction n with
 | zero=>intro t;exact Empty.elim t
 | succ n ih =>
   intro t u a b c d w z y K;have i:∀ x∈t.2.2,x.count<=100000:=fun x H=>by have:=t.count_kid H;omega
   have f:t.2.2.length<=100000:=by have:=t.len_lt_count;rw[t.len_eq] at this;omega
   have C:Hid (∀ g,Below w.heap.size w g->Calls prog 49 #[.slice a t.2.2.length c,.slice b u.2.2.length d] g fun e L=>Q4 e (t.2.2=u.2.2)/\Below g.heap.size g L) :=
    fun g D=>Qh6 n ih t.2.2 u.2.2 a b c d g (z.below D) (y.below D) f i
   rw[TT.eq_iff]
   simp only[Tv,TT.len_eq] at C |-
   generalize t.2.2.length=p at C |-;generalize u.2.2.length=q at C |-;generalize (t.2.2=u.2.2)=E at C |-;generalize t.kind=k;generalize t.r=r;generalize u.kind=s;generalize u.r=o;clear i f K z y ih t u;by_cases j:k=s
   ·subst j;by_cases l:r=o
    ·subst l;go_enter func80,ntmps80
     go_wp2_with fail
     have m:Below w.heap.size w ((w.alloc (.cells #[.int .i64 k,.int .i64 r,.slice a p c] 92)).alloc (.cells #[.int .i64 k,.int .i64 r,.slice b q d] 92)):=((Below.refl _ w).alloc Ze _).alloc (by simp) _;refine(C.out _ m).mono ?_
     rintro e I ⟨⟨v,rfl,A⟩,F⟩;have B:Hid (Below w.heap.size w I):=m.trans (F.mono m.size);have V:Hid (v=true↔E):=A;clear F C A m
     cases v
     all_goals
      go_wp2
      go_ret
     ·exact⟨Q4.no (fun h=>by have:=V.out.2 h.2.2;cases this),B.out⟩
     ·exact⟨Q4.yes (by have:=V.out;simpa using this),B.out⟩
    ·have G:(r==o)=false:=by simpa using l
     have R:Hid (¬ r=o):=l;clear l;go_enter func80,ntmps80
     go_wp2_with fail
     go_ret;exact⟨Q4.no (fun h=>R.out h.2.1),((Below.refl _ w).alloc Ze _).alloc (by simp) _⟩
   ·have J:(k==s)=false:=by simpa using j
    have R:Hid (¬ k=s):=j;clear j;go_enter func80,ntmps80
    go_wp2_with fail
    go_ret;exact⟨Q4.no (fun h=>R.out h.1),((Below.refl _ w).alloc Ze _).alloc (by simp) _⟩
def IV (w:World) (l:List Int) (v:Value):Prop:=∃ a c,v=.slice a l.length c/\intsL.In w (fun _=>True) l [.slice a l.length c]
theorem IV.below {l:List Int}(h:IV w l v) (k:Below w.heap.size w w'):IV w' l v:=by
 obtain⟨a,c,e,h⟩:=h
 exact⟨a,c,e,Ya h k⟩
def k9E (b X N lc gL nl cL lg lo k j uc vc:Nat) (u y:TT 6) (ua va:Option Addr) (q:Bool) (t:Tmp) (v:Value) (w:World):Prop :=
 v=(([(0,.pointer (some ⟨b,0,none⟩)),(1,.slice (some ⟨lg,lo,none⟩) N lc),(9,.int .i64 (k:Int)),(10,.pointer (some ⟨X,0,none⟩)),(11,.bool true),(49,.bool true),(50,.bool false),(51,.bool false),(52,.agg #[.int .i64 u.kind,.int .i64 u.r,.slice ua u.len uc]),(53,.pointer (some ⟨b,0,none⟩)),(54,.pointer (some ⟨b,0,none⟩)),(55,.pointer (some ⟨b,6,none⟩)),(56,.slice (some ⟨gL,0,none⟩) nl cL),(57,.slice (some ⟨lg,lo,none⟩) N lc),(58,.int .i64 (k:Int)),(59,.pointer (some ⟨lg,lo+k,none⟩)),(60,.int .i64 (j:Int)),(61,.pointer (some ⟨gL,j*3,none⟩)),(62,.agg #[.int .i64 y.kind,.int .i64 y.r,.slice va y.len vc]),(63,.bool q),(64,.bool (!q)),(65,.bool (!q))]:List (Tmp × Value)).lookup t).getD undef
theorem k9 {G l B H A C vc:Nat}{u y:TT 6}{o va:Option Addr}{q:Bool}{Q R:Nat->Prop}
 (U:w6.cell? ⟨X,0,none⟩=some (.int .i64 u.kind)) (x1:w6.cell? ⟨X,1,none⟩=some (.int .i64 u.r)) (x2:w6.cell? ⟨X,2,none⟩=some (.slice o u.len C))
 (V:w6.cell? ⟨b,6,none⟩=some (.slice (some ⟨l,0,none⟩) B H)) (z0:w6.cell? ⟨A,lo+k,none⟩=some (.int .i64 (j:Int)))
 (v0:w6.cell? ⟨l,j*3,none⟩=some (.int .i64 y.kind)) (S:w6.cell? ⟨l,j*3+1,none⟩=some (.int .i64 y.r)) (P:w6.cell? ⟨l,j*3+2,none⟩=some (.slice va y.len vc))
 (O:(k:Int)<N) (aa:(j:Int)<B) (T:Hid (TIn w6 Q u o)) (HV:Hid (TIn w6 R y va)) (W:Hid (u.count<=100000)) (M:Hid (q=true↔u=y))
 (a:Act) (m:Nat) (hn:a.tmps.size=m) (z:66<=m) (h0:a.tmps.getD 0 undef=.pointer (some ⟨b,0,none⟩)) (h1:a.tmps.getD 1 undef=.slice (some ⟨A,lo,none⟩) N G) (L:a.tmps.getD 9 undef=.int .i64 (k:Int)) (x:a.tmps.getD 10 undef=.pointer (some ⟨X,0,none⟩)) (p:a.tmps.getD 11 undef=.bool true) :
 Code.wp prog ((Tryz.f88.body.bind (Qn 9)).getD .skip) (fun e a' w'=>e=.normal/\∃ vs,a'=QT a vs [49,50,51,52,53,54,55,56,57,58,59,60,61,62,63,64,65]/\vs 65=.bool (!q)/\Below w6.heap.size w6 w') a w6:=by
 conv=>arg 2;whnf
 refine Zw (k9E b X N G l B H A lo k j C vc u y o va q) (fun w=>Below w6.heap.size w6 w) (fun w w'=>Below w.heap.size w w') (outs:=[0,1,9,10,11]) (gs:=[(2,some false)]) (bs:=[true,true,true,true,true,true,true,true,true,true,true,true,true,true,true,true,true]) (by kernel_rfl) (n:=66) hn z (by kernel_rfl) ?hR ?hG (QH Zr 1) ⟨h0,h1,L,x,p,Y⟩ ?hA ?hend
 case hR=>exact fun t v w w' _ h=>h
 case hG=>exact⟨fun t I v w _ h=>by cases I;exact h,Y⟩
 case hend=>exact fun vs w' c d=>⟨Z,vs,Z,d 65 (by kernel_rfl),c⟩
 case hA =>
  iterate 10
   refine⟨fun a w c d K g=>?_,?_⟩
   ·obtain⟨f,-⟩:=d
    conv at f=>whnf;rhs;whnf
    have F:=QI U c;have u1:=QI x1 c;have J:=QI x2 c;have u3:=QI V c;go_simp;exact g _ _ Zr c Z
  refine⟨fun a w c d K g=>?_,?_⟩
  ·obtain⟨f,i,-⟩:=d
   conv at f=>whnf;rhs;whnf
   conv at i=>whnf;rhs;whnf
   go_simp;exact g _ _ Zr c Z
  refine⟨fun a w c d K g=>?_,?_⟩
  ·obtain⟨f,-⟩:=d
   conv at f=>whnf;rhs;whnf
   have F:=QI z0 c;go_simp;exact g _ _ Zr c Z
  refine⟨fun a w c d K g=>?_,?_⟩
  ·obtain⟨f,i,-⟩:=d
   conv at f=>whnf;rhs;whnf
   conv at i=>whnf;rhs;whnf
   go_simp;exact g _ _ Zr c Z
  refine⟨fun a w c d K g=>?_,?_⟩
  ·obtain⟨f,-⟩:=d
   conv at f=>whnf;rhs;whnf
   have F:=QI v0 c;have u1:=QI S c;have J:=QI P c;go_simp;exact g _ _ Zr c Z
  refine⟨fun a w c d K g=>?_,?_⟩
  ·obtain⟨f,i,-⟩:=d
   conv at f=>whnf;rhs;whnf
   conv at i=>whnf;rhs;whnf
   go_simp;refine(samet_any 6 u y o va C vc w (T.out.below c).all (HV.out.below c).all W.out).mono ?_;rintro r7 w7 ⟨⟨q7,rfl,s⟩,E⟩
   have D:q7=q:=Bool.eq_iff_iff.2 (s.trans M.out.symm);subst D;go_simp;exact g _ _ E (c.trans (E.mono c.size)) Z
  refine⟨fun a w c d K g=>?_,?_⟩
  ·obtain⟨f,-⟩:=d
   conv at f=>whnf;rhs;whnf
   go_simp;exact g _ _ Zr c Z
  refine⟨fun a w c d K g=>?_,?_⟩
  ·obtain⟨f,i,-⟩:=d
   conv at f=>whnf;rhs;whnf
   conv at i=>whnf;rhs;whnf
   go_simp;exact g _ _ Zr c Z
  trivial
theorem Z6 {p:Prop}(h:p):Hid p:=h
structure FbS (w wx:World) (R:Nat) (l:List (Nat × Array Value × TypeId)):Prop where
 bel:Below w.heap.size w wx
 ge:w.heap.size<=R
 r:Blk wx R #[.int .i64 0,.int .i64 0] 32
 box:∀ (i:Nat) b,l[i]?=some b->Blk wx b.1 b.2.1 b.2.2
section
variable {w wx w':World}{R:Nat}{l:List (Nat × Array Value × TypeId)}
theorem FbS.below (h:FbS w wx R l) (k:Below wx.heap.size wx w'):FbS w w' R l :=
 ⟨h.bel.trans (k.mono h.bel.size),h.ge,h.r.below k,fun i b a=>(h.box i b a).below k⟩
theorem FbS.add (h:FbS w wx R l){c:Array Value}(hb:Blk wx B c t):FbS w wx R ((B,c,t)::l) :=
 ⟨h.bel,h.ge,h.r,fun i b a=>by
  cases i with
  | zero=>cases a;exact hb
  | succ i=>exact h.box i b a⟩
theorem FbS.new (h:FbS w wx R l) (c:Array Value) (t:TypeId):FbS w (wx.alloc (.cells c t)) R ((wx.heap.size,c,t)::l):=(h.below (QbH _ _)).add (Blk.new _ _ _)
theorem FbS.start (w:World) (c:Array Value) (t:TypeId):FbS w ((w.alloc (.cells c t)).alloc (.cells #[.int .i64 0,.int .i64 0] 32)) (w.heap.size+1) [(w.heap.size,c,t)] :=
 FbS.add ⟨(QbH w _).trans ((QbH _ _).mono (QbH w _).size),by omega,Blk.new2 ..,fun i b a=>by simp at a⟩ (Blk.new1 ..)
theorem FbS.cells (h:FbS w wx R l):wx.cell? ⟨R,0,none⟩=some (.int .i64 0)/\wx.cell? ⟨R,1,none⟩=some (.int .i64 0)/\wx.frozen? ⟨R,0,none⟩=false/\wx.frozen? ⟨R,1,none⟩=false :=
 ⟨Qa h.r 0 _ Z,Qa h.r 1 _ Z,Qf h.r 0,Qf h.r 1⟩
theorem FbS.fin (h:FbS w wx R l) (c a:Int):Blk ((wx.setCell ⟨R,0,none⟩ (.int .i64 c)).setCell ⟨R,1,none⟩ (.int .i64 a)) R #[.int .i64 c,.int .i64 a] 32/\Below w.heap.size w ((wx.setCell ⟨R,0,none⟩ (.int .i64 c)).setCell ⟨R,1,none⟩ (.int .i64 a)) :=
 ⟨by have:=Qo (Qo h.r 0 (.int .i64 c)) 1 (.int .i64 a);simpa using this,(h.bel.setCell (p:=⟨R,0,none⟩) h.ge _).setCell (p:=⟨R,1,none⟩) h.ge _⟩
structure QlL (wx:World) (cs:List Value):Prop where
 size:(prog.info? 73).map (·.size)=some cs.length
 size2:(prog.info? 73).map (·.size)=some cs.toArray.size
 there:(wx.alloc (.cells #[.int .i64 0,.slice none 0 0,.slice none 0 0,.int .i64 0,.int .i64 0,.int .i64 0,.slice none 0 0,.slice none 0 0,.int .i64 0,.slice none 0 0,.slice none 0 0,.slice none 0 0] 73)).there wx.heap.size 0 cs.toArray.size
 blk:Blk ((wx.alloc (.cells #[.int .i64 0,.slice none 0 0,.slice none 0 0,.int .i64 0,.int .i64 0,.int .i64 0,.slice none 0 0,.slice none 0 0,.int .i64 0,.slice none 0 0,.slice none 0 0,.slice none 0 0] 73)).setCells wx.heap.size 0 cs) wx.heap.size cs.toArray 73
 bel:Below wx.heap.size wx ((wx.alloc (.cells #[.int .i64 0,.slice none 0 0,.slice none 0 0,.int .i64 0,.int .i64 0,.int .i64 0,.slice none 0 0,.slice none 0 0,.int .i64 0,.slice none 0 0,.slice none 0 0,.slice none 0 0] 73)).setCells wx.heap.size 0 cs)
theorem QlL.of (a:World)(c:cs.length=12):QlL a cs:=by
 have d:=Qh a #[.int .i64 0,.slice none 0 0,.slice none 0 0,.int .i64 0,.int .i64 0,.int .i64 0,.slice none 0 0,.slice none 0 0,.int .i64 0,.slice none 0 0,.slice none 0 0,.slice none 0 0] 73;refine⟨by rw[c];exact pSizeB,by rw[List.size_toArray,c];exact pSizeB,fun j hj=>?_,?_,?_⟩
 ·rw[List.size_toArray,c] at hj
  rw[XK]
  refine⟨?_,Qf d j⟩
  rw[Qa d j ((#[.int .i64 0,.slice none 0 0,.slice none 0 0,.int .i64 0,.int .i64 0,.int .i64 0,.slice none 0 0,.slice none 0 0,.int .i64 0,.slice none 0 0,.slice none 0 0,.slice none 0 0]:Array Value)[j]'hj) (by simp)];rfl
 ·have e:Blk (a.alloc (.cells #[.int .i64 0,.slice none 0 0,.slice none 0 0,.int .i64 0,.int .i64 0,.int .i64 0,.slice none 0 0,.slice none 0 0,.int .i64 0,.slice none 0 0,.slice none 0 0,.slice none 0 0] 73)) a.heap.size ([]++(#[.int .i64 0,.slice none 0 0,.slice none 0 0,.int .i64 0,.int .i64 0,.int .i64 0,.slice none 0 0,.slice none 0 0,.int .i64 0,.slice none 0 0,.slice none 0 0,.slice none 0 0]:Array Value).toList).toArray 73:=d;exact Blk.sets cs [] (#[.int .i64 0,.slice none 0 0,.slice none 0 0,.int .i64 0,.int .i64 0,.int .i64 0,.slice none 0 0,.slice none 0 0,.int .i64 0,.slice none 0 0,.slice none 0 0,.slice none 0 0]:Array Value).toList _ (by rw[c];rfl) e
 ·have:=QN.setCells (O:=fun k=>k=a.heap.size) (O':=fun k=>k=a.heap.size) (b:=a.heap.size) Z cs 0 _ (QN.refl _ (a.alloc (.cells #[.int .i64 0,.slice none 0 0,.slice none 0 0,.int .i64 0,.int .i64 0,.int .i64 0,.slice none 0 0,.slice none 0 0,.int .i64 0,.slice none 0 0,.slice none 0 0,.slice none 0 0] 73)))
  exact(QbH a _).trans (this.below (by simp) (fun k f=>by omega))
end
abbrev Qjd (x:Qax) (e:EP):Array Value:=#[.int .i64 x.op,.int .i64 x.a,.int .i64 x.yes.block,.slice e.pYR x.yes.regs.length e.cYR,.slice e.pYA x.yes.args.length e.cYA,.int .i64 x.no.block,.slice e.pNR x.no.regs.length e.cNR,.slice e.pNA x.no.args.length e.cNA,.slice e.pA x.args.length e.cA]
structure Qim (w:World) (Q:Nat->Prop) (x:Qax) (e:EP):Prop where
 yr:intsL.In w Q x.yes.regs [.slice e.pYR x.yes.regs.length e.cYR]
 ya:intsL.In w Q x.yes.args [.slice e.pYA x.yes.args.length e.cYA]
 nr:intsL.In w Q x.no.regs [.slice e.pNR x.no.regs.length e.cNR]
 na:intsL.In w Q x.no.args [.slice e.pNA x.no.args.length e.cNA]
 ar:intsL.In w Q x.args [.slice e.pA x.args.length e.cA]
theorem Qim.below {Q:Nat->Prop}{x:Qax}{e:EP}(h:Qim w Q x e) (k:Below w.heap.size w w'):Qim w' Q x e :=
 ⟨Ya h.yr k,Ya h.ya k,Ya h.nr k,Ya h.na k,Ya h.ar k⟩
structure EnS (w wc:World) (b X:Nat) (O Q:Nat->Prop) (s:JSt) (x:Qax) (e:EP):Prop where
 known:KAt wc b O s
 box:Blk wc X (Qjd x e) 71
 lists:Qim wc Q x e
 bel:Below w.heap.size w wc
theorem EnS.below {Q:Nat->Prop}{s:JSt}{x:Qax}{e:EP}(h:EnS w wc b X O Q s x e) (k:Below wc.heap.size wc w'):EnS w w' b X O Q s x e :=
 ⟨h.known.below k,(k.block X (XC h.box)).trans h.box,h.lists.below k,h.bel.trans (k.mono h.bel.size)⟩
theorem EnS.range {Q:Nat->Prop}{s:JSt}{x:Qax}{e:EP}(h:EnS w wc b X O Q s x e):wc.rangeAt X 0 (Qjd x e).toList:=fun j v a=>by
 rw[XK]
 rw[Array.getElem?_toList] at a
 exact Qa h.box j v a
theorem EnS.cells {Q:Nat->Prop}{s:JSt}{x:Qax}{e:EP}(h:EnS w wc b X O Q s x e):wc.cell? ⟨X,0,none⟩=some (.int .i64 x.op)/\wc.cell? ⟨X,1,none⟩=some (.int .i64 x.a)/\wc.cell? ⟨X,2,none⟩=some (.int .i64 x.yes.block)/\wc.cell? ⟨X,3,none⟩=some (.slice e.pYR x.yes.regs.length e.cYR)/\wc.cell? ⟨X,4,none⟩=some (.slice e.pYA x.yes.args.length e.cYA)/\wc.cell? ⟨X,5,none⟩=some (.int .i64 x.no.block)/\wc.cell? ⟨X,6,none⟩=some (.slice e.pNR x.no.regs.length e.cNR)/\wc.cell? ⟨X,7,none⟩=some (.slice e.pNA x.no.args.length e.cNA)/\wc.cell? ⟨X,8,none⟩=some (.slice e.pA x.args.length e.cA) :=
 ⟨Qa h.box 0 _ Z,Qa h.box 1 _ Z,Qa h.box 2 _ Z,Qa h.box 3 _ Z,Qa h.box 4 _ Z,Qa h.box 5 _ Z,Qa h.box 6 _ Z,Qa h.box 7 _ Z,Qa h.box 8 _ Z⟩
section
variable {w w' w2:World}{b most n:Nat}{m:List (Qe 6)}{M M' N:IM}{sc sa:Int}{g g1:MG}{e:Ending}
theorem Qbz {a:Nat}{t:MTo}(h:t.form a true=0):0<=t.block/\t.block<(a:Int)/\t.regs.length<=16/\t.args.length<=8:=by
 unfold MTo.form at h;rw[Xr (by simp)] at h
 split at h
 ·cases h
 ·split at h
  ·cases h
  ·omega
theorem QeF {a:Nat}{x:Qax}(h:x.form a=0):(1<=x.op/\x.op<=3)/\x.args.length<=8/\(x.op≠3->x.yes.form a true=0)/\(x.op=2->x.no.form a true=0):=by
 unfold Qax.form at h;split at h
 ·cases h
 rename_i c
 split at h
 ·cases h
 split at h
 ·cases h
 rename_i d
 split at h
 ·rename_i b;exact absurd h b
 rename_i b
 refine⟨by omega,by omega,fun e=>?_,fun e=>?_⟩
 ·have:decide (x.op≠3)=true:=Xt e
  rw[this] at b
  exact Xq.1 b
 ·have:decide (x.op=2)=true:=Xt e
  rw[this] at h
  exact h
theorem QgG (S:MAt w b most m M sc sa g) (I:Qaf n M) (hd:M.rest.length<=39) (aa:∀ d∈M.rest,d.v.length+8<=1000000){fn:Qe 6}(hf:m[M.top.f]?=some fn) (hm:m.length<=8) (hr:fn.right m.length){x:Qax}{j:EP}(EI:EIn w Q2 x j) (hx:x.form fn.blocks.length=0) :
 Calls prog 70 #[.pointer (some ⟨b,0,none⟩),.pointer (some ⟨g.t.c,0,none⟩),.agg (Qjd x j)] w fun e w'=>QcG g w b most m M sc sa (IM.endd fn M x) e w':=by
 obtain⟨ae,ad,K,W⟩:=QeF hx
 have G:=Qb (QY w (.cells (Qjd x j) 71));have B:=Qb (Qh w (Qjd x j) 71);have HS:=Qb S;have S1:=Qb (S.below G.out);have HI:=Qb I;have TB:=Qb (S.stepB G.out)
 have A:Hid (∀ t:MTo,t.form fn.blocks.length true=0->∃ (O:Nat) (bl:Qk 6),t.block=(O:Int)/\fn.blocks[O]?=some bl/\bl.params.length<=1000):=fun t ht=>by
  obtain⟨h0,l,-,-⟩:=Qbz ht
  obtain⟨O,ab⟩:=Xc h0
  have hl:O<fn.blocks.length:=by omega
  exact⟨O,fn.blocks[O],ab,Zg hl,by have:=(hr.blocks _ (List.getElem_mem hl)).params.1;omega⟩
 have Q:Hid (∀ (t:MTo) (pr pa:Option Addr) (cr ca:Nat) u,t.form fn.blocks.length true=0->QdZ w Q2 t pr cr pa ca->Below w.heap.size w u->Calls prog 107 #[.pointer (some ⟨b,0,none⟩),.pointer (some ⟨g.t.c,0,none⟩),.agg #[.int .i64 t.block,.slice pr t.regs.length cr,.slice pa t.args.length ca]] u fun e w'=>Qm g w b most m M sc sa (IM.to fn M t) e w'):=fun t pr pa cr ca u ht hi F=>by
  obtain⟨O,bl,l,s,J⟩:=A.out t ht
  obtain⟨-,-,h4,i⟩:=Qbz ht
  refine(Qhk (S.below F) I hf l s ⟨by omega,by have:=hr.many.2;omega,J⟩ (Ya hi.regs F) (Ya hi.args F) ⟨by omega,by omega⟩).mono (fun e w' h=>?_)
  have T:=S.stepB F
  cases hres:IM.to fn M t with
  | none=>rw[hres] at h;exact⟨h.1,XTo.then T Z Z h.2⟩
  | some M' =>
    rw[hres] at h
    rcases h with ⟨l,s⟩|⟨N,k,l,s,J⟩
    ·exact .inl ⟨l,XTo.then T Z Z s⟩
    ·exact .inr ⟨N,k,l,s,XTo.then T Z Z J⟩
 have CG:Hid (∀ u,Below w.heap.size w u->Calls prog 109 #[.pointer (some ⟨b,0,none⟩),.pointer (some ⟨g.t.c,0,none⟩),.slice j.pA x.args.length j.cA] u fun e w'=>QcG g w b most m M sc sa (IM.ret fn M x.args) e w'):=fun u F=>by
  refine(Qg2 (S.below F) I hd aa hf ⟨by omega,by have:=hr.results.1;omega⟩ (Ya EI.args F) ad).mono (fun e w' h=>?_)
  have T:=S.stepB F
  cases hres:IM.ret fn M x.args with
  | none=>rw[hres] at h;exact⟨h.1,XTo.then T Z Z h.2⟩
  | some M' =>
    rw[hres] at h
    rcases h with ⟨l,s⟩|⟨N,k,l,s,J⟩
    ·exact .inl ⟨l,XGo.then T s⟩
    ·exact .inr ⟨N,k,l,s,XTo.then T Z Z J⟩
 have CN:Hid (∀ u,Below w.heap.size w u->Calls prog 108 #[.pointer (some ⟨g.t.c,0,none⟩),.int .i64 x.a] u fun e w'=>Ask (Qt M.top.v x.a) (.int .i64) e/\Below u.heap.size u w'):=fun u F=>ZC (S.top.below F) (by have:=I.len;omega) x.a;have r:=Qb EI;have P:=Qb (Xh K W);have E:=Qb (show IM.endd fn M x=if x.op=1 then M.to fn x.yes else if x.op=2 then (match Qt M.top.v x.a with | none=>none | some n=>if n=0 then M.to fn x.no else M.to fn x.yes) else IM.ret fn M x.args from Z);generalize IM.endd fn M x=y at E |-;clear S I EI hx K W aa hf hr A;go_enter func70,ntmps70
 go_upto_region 1 with fail
 generalize w.alloc (.cells (Qjd x j) 71)=z at G B S1 TB |-;generalize w.heap.size=X at B |-;have U:z.cell? ⟨X,0,none⟩=some (.int .i64 x.op):=Qa B.out 0 _ Z;have x1:z.cell? ⟨X,1,none⟩=some (.int .i64 x.a):=Qa B.out 1 _ Z;have x2:z.cell? ⟨X,2,none⟩=some (.int .i64 x.yes.block):=Qa B.out 2 _ Z;have x3:z.cell? ⟨X,3,none⟩=some (.slice j.pYR x.yes.regs.length j.cYR):=Qa B.out 3 _ Z;have x4:z.cell? ⟨X,4,none⟩=some (.slice j.pYA x.yes.args.length j.cYA):=Qa B.out 4 _ Z;have x5:z.cell? ⟨X,5,none⟩=some (.int .i64 x.no.block):=Qa B.out 5 _ Z;have x6:z.cell? ⟨X,6,none⟩=some (.slice j.pNR x.no.regs.length j.cNR):=Qa B.out 6 _ Z;have x7:z.cell? ⟨X,7,none⟩=some (.slice j.pNA x.no.args.length j.cNA):=Qa B.out 7 _ Z;have x8:z.cell? ⟨X,8,none⟩=some (.slice j.pA x.args.length j.cA):=Qa B.out 8 _ Z;by_cases l:x.op=1
 ·have p:Hid (y=M.to fn x.yes):=by show _=_;rw[E.out,Xs l]
  have C:=Qb (Q.out x.yes _ _ _ _ z (P.out.1 (by omega)) r.out.yes G.out);rw[l] at U
  clear Q CG CN E x1 x5 x6 x7 x8 P r;generalize M.to fn x.yes=L at p C;go_wp2_with fail
  refine C.out.mono ?_;rintro R w5 i;have i:=Qm.toEnd i;have o:=Qb i
  cases L with
  | none=>rcases i with ⟨rfl,-⟩;exact⟨Z,by rw[p.out];exact o.out⟩
  | some M' =>
    rcases i with ⟨rfl,-⟩|⟨N,k,-,rfl,-⟩
    ·clear C U x2 x3 x4;go_wp2
     exact Xz (v:=.tuple #[]) (by simp[results,results70,go_sem]) Z (by rw[p.out];exact o.out)
    ·exact⟨Z,by rw[p.out];exact o.out⟩
 by_cases s:x.op=2
 ·have p:Hid (y=match Qt M.top.v x.a with | none=>none | some n=>if n=0 then M.to fn x.no else M.to fn x.yes):=by show _=_;rw[E.out,Xr l,Xs s]
  have C:=Qb (CN.out z G.out);rw[s] at U
  clear CG CN E x8;go_upto_region 5 with fail
  cases hn:Qt M.top.v x.a with
  | none =>
    rw[hn] at C p
    go_wp2_with fail
    refine C.out.mono ?_;rintro R w5 ⟨i,D⟩;have i:R=.panicked stuckP:=i;subst i;exact⟨Z,by rw[p.out];exact⟨Z,XTo.same HS.out (G.out.trans (D.mono G.out.size))⟩⟩
  | some q =>
    rw[hn] at C p
    have E3:Hid (y=if q=0 then M.to fn x.no else M.to fn x.yes):=p.out;go_wp2_with fail
    refine C.out.mono ?_;rintro R w5 ⟨i,D⟩;have i:R=.returned (.int .i64 q):=i;subst i;have B5:=Qb (G.out.trans (D.mono G.out.size));have y2:=QI x2 D;have y3:=QI x3 D;have y4:=QI x4 D;have y5:=QI x5 D;have y6:=QI x6 D;have y7:=QI x7 D;clear U x1 x2 x3 x4 x5 x6 x7 D C p;by_cases V:q=0
    ·have ac:(q != 0)=false:=by simpa using V
     have H:Hid (y=M.to fn x.no):=by show _=_;rw[E3.out,Xs V]
     have C:=Qb (Q.out x.no _ _ _ _ w5 (P.out.2 s) r.out.no B5.out);clear Q E3 P r V y2 y3 y4;generalize M.to fn x.no=L at H C;go_wp2_with fail
     refine C.out.mono ?_;rintro R w6 i;have i:=Qm.toEnd i;have o:=Qb i
     cases L with
     | none=>rcases i with ⟨rfl,-⟩;exact⟨Z,by rw[H.out];exact o.out⟩
     | some M' =>
       rcases i with ⟨rfl,-⟩|⟨N,k,-,rfl,-⟩
       ·clear C y5 y6 y7;go_wp2
        exact Xz (v:=.tuple #[]) (by simp[results,results70,go_sem]) Z (by rw[H.out];exact o.out)
       ·exact⟨Z,by rw[H.out];exact o.out⟩
    ·have ac:(q != 0)=true:=by simpa using V
     have H:Hid (y=M.to fn x.yes):=by show _=_;rw[E3.out,Xr V]
     have C:=Qb (Q.out x.yes _ _ _ _ w5 (P.out.1 (by omega)) r.out.yes B5.out);clear Q E3 P r V y5 y6 y7;generalize M.to fn x.yes=L at H C;go_wp2_with fail
     refine C.out.mono ?_;rintro R w6 i;have i:=Qm.toEnd i;have o:=Qb i
     cases L with
     | none=>rcases i with ⟨rfl,-⟩;exact⟨Z,by rw[H.out];exact o.out⟩
     | some M' =>
       rcases i with ⟨rfl,-⟩|⟨N,k,-,rfl,-⟩
       ·clear C y2 y3 y4;go_wp2
        exact Xz (v:=.tuple #[]) (by simp[results,results70,go_sem]) Z (by rw[H.out];exact o.out)
       ·exact⟨Z,by rw[H.out];exact o.out⟩
 have J:x.op=3:=by omega
 have p:Hid (y=IM.ret fn M x.args):=by show _=_;rw[E.out,Xr l,Xr s]
 have C:=Qb (CG.out z G.out);rw[J] at U
 clear Q CG CN E x1 x2 x3 x4 x5 x6 x7 P r l s J;generalize IM.ret fn M x.args=L at p C;go_wp2_with fail
 refine C.out.mono ?_;rintro R w5 i;have o:=Qb i
 cases L with
 | none=>rcases i with ⟨rfl,-⟩;exact⟨Z,by rw[p.out];exact o.out⟩
 | some M' =>
   rcases i with ⟨rfl,-⟩|⟨N,k,-,rfl,-⟩
   ·clear C U x8;go_wp2
    exact Xz (v:=.tuple #[]) (by simp[results,results70,go_sem]) Z (by rw[p.out];exact o.out)
   ·exact⟨Z,by rw[p.out];exact o.out⟩
end
def tru (p:Bool):Int:=if p then 1 else 0
theorem Ql6 (a b:Int) (w:World):Calls prog 111 #[.int .i64 1,.int .i64 a,.int .i64 b] w fun e w'=>e=.returned (.tuple #[.int .i64 (wrap64 (a+b)),.bool true])/\w'=w:=by
 go_enter func111,ntmps111
 go_wp2
 go_ret2;exact⟨Z,Z⟩
theorem Qmd (a b:Int) (w:World):Calls prog 111 #[.int .i64 2,.int .i64 a,.int .i64 b] w fun e w'=>e=.returned (.tuple #[.int .i64 (wrap64 (a - b)),.bool true])/\w'=w:=by
 go_enter func111,ntmps111
 go_wp2
 go_ret2;exact⟨Z,Z⟩
theorem Qms (a b:Int) (w:World):Calls prog 111 #[.int .i64 3,.int .i64 a,.int .i64 b] w fun e w'=>e=.returned (.tuple #[.int .i64 (wrap64 (a*b)),.bool true])/\w'=w:=by
 go_enter func111,ntmps111
 go_wp2
 go_ret2;exact⟨Z,Z⟩
theorem Qmh (a b:Int) (w:World) (hb:(b==0)=false) (hn:¬ b=0):Calls prog 111 #[.int .i64 4,.int .i64 a,.int .i64 b] w fun e w'=>e=.returned (.tuple #[.int .i64 (wrap64 (a.tdiv b)),.bool true])/\w'=w:=by
 go_enter func111,ntmps111
 go_wp2
 go_ret2;exact⟨Z,Z⟩
theorem Qlq (a:Int) (w:World):Calls prog 111 #[.int .i64 4,.int .i64 a,.int .i64 0] w fun e w'=>e=.returned (.tuple #[.int .i64 0,.bool false])/\w'=w:=by
 go_enter func111,ntmps111
 go_wp2
 go_ret2;exact⟨Z,Z⟩
theorem Ql9 (a b:Int) (w:World) (hb:(b==0)=false) (hn:¬ b=0):Calls prog 111 #[.int .i64 5,.int .i64 a,.int .i64 b] w fun e w'=>e=.returned (.tuple #[.int .i64 (a.tmod b),.bool true])/\w'=w:=by
 go_enter func111,ntmps111
 go_wp2
 go_ret2;exact⟨Z,Z⟩
theorem QlF (a:Int) (w:World):Calls prog 111 #[.int .i64 5,.int .i64 a,.int .i64 0] w fun e w'=>e=.returned (.tuple #[.int .i64 0,.bool false])/\w'=w:=by
 go_enter func111,ntmps111
 go_wp2
 go_ret2;exact⟨Z,Z⟩
theorem Ql5 (a b:Int) (w:World):Calls prog 111 #[.int .i64 6,.int .i64 a,.int .i64 b] w fun e w'=>e=.returned (.tuple #[.int .i64 (tru (decide (a<b))),.bool true])/\w'=w:=by
 by_cases h:a<b
 ·have c:tru (decide (a<b))=1:=by simp[tru,h]
  rw[c]
  go_enter func111,ntmps111
  go_wp2
  go_ret2;exact⟨Z,Z⟩
 ·have c:tru (decide (a<b))=0:=by simp[tru,h]
  rw[c]
  go_enter func111,ntmps111
  go_wp2
  go_ret2;exact⟨Z,Z⟩
theorem QmB (a b:Int) (w:World):Calls prog 111 #[.int .i64 7,.int .i64 a,.int .i64 b] w fun e w'=>e=.returned (.tuple #[.int .i64 (tru (a==b)),.bool true])/\w'=w:=by
 cases h:(a==b)
 ·go_enter func111,ntmps111
  go_wp2
  go_ret2;exact⟨Z,Z⟩
 ·go_enter func111,ntmps111
  go_wp2
  go_ret2;exact⟨Z,Z⟩
theorem Qmv (a b:Int) (w:World):Calls prog 111 #[.int .i64 8,.int .i64 a,.int .i64 b] w fun e w'=>e=.returned (.tuple #[.int .i64 (bits .and .i64 a b),.bool true])/\w'=w:=by
 go_enter func111,ntmps111
 go_wp2
 go_ret2;exact⟨Z,Z⟩
theorem Qmn (a b:Int) (w:World):Calls prog 111 #[.int .i64 9,.int .i64 a,.int .i64 b] w fun e w'=>e=.returned (.tuple #[.int .i64 (bits .xor .i64 a b),.bool true])/\w'=w:=by
 go_enter func111,ntmps111
 go_wp2
 go_ret2;exact⟨Z,Z⟩
theorem QmA (k a b:Int) (w:World) (c:k<1\/9<k):Calls prog 111 #[.int .i64 k,.int .i64 a,.int .i64 b] w fun e w'=>e=.returned (.tuple #[.int .i64 0,.bool false])/\w'=w:=by
 rcases c with c | c
 ·go_enter func111,ntmps111
  go_wp2
  go_ret2;exact⟨Z,Z⟩
 ·go_enter func111,ntmps111
  go_wp2
  go_ret2;exact⟨Z,Z⟩
def aOp (k a b:Int):Option Int :=
 if k=1 then some (wrap64 (a+b)) else if k=2 then some (wrap64 (a - b)) else if k=3 then some (wrap64 (a*b))
 else if k=4 then (if b=0 then none else some (wrap64 (a.tdiv b))) else if k=5 then (if b=0 then none else some (a.tmod b))
 else if k=6 then some (tru (decide (a<b))) else if k=7 then some (tru (a==b)) else if k=8 then some (bits .and .i64 a b) else if k=9 then some (bits .xor .i64 a b) else none
theorem QjA (k a b:Int) (w:World):Calls prog 111 #[.int .i64 k,.int .i64 a,.int .i64 b] w fun e w'=>e=.returned (.tuple #[.int .i64 ((aOp k a b).getD 0),.bool (aOp k a b).isSome])/\w'=w:=by
 by_cases l:k=1
 ·subst l;exact Ql6 a b w
 by_cases g:k=2
 ·subst g;exact Qmd a b w
 by_cases i:k=3
 ·subst i;exact Qms a b w
 by_cases f:k=4
 ·subst f;by_cases c:b=0
  ·subst c;exact Qlq a w
  ·have:aOp 4 a b=some (wrap64 (a.tdiv b)):=by simp[aOp,c]
   rw[this];exact Qmh a b w (by simpa using c) c
 by_cases j:k=5
 ·subst j;by_cases c:b=0
  ·subst c;exact QlF a w
  ·have:aOp 5 a b=some (a.tmod b):=by simp[aOp,c]
   rw[this];exact Ql9 a b w (by simpa using c) c
 by_cases n:k=6
 ·subst n;exact Ql5 a b w
 by_cases m:k=7
 ·subst m;exact QmB a b w
 by_cases d:k=8
 ·subst d;exact Qmv a b w
 by_cases h:k=9
 ·subst h;exact Qmn a b w
 ·have:aOp k a b=none:=by simp[aOp,l,g,i,f,j,n,m,d,h]
  rw[this];exact QmA k a b w (by omega)
theorem QbV (x:Int):Zh (wrap64 x):=by unfold Zh wrap64;omega
theorem Qlf (a b:Int):Zh (bits .and .i64 a b):=by
 have:bits .and .i64 a b=wrap64 ((BitVec.ofInt 64 a &&& BitVec.ofInt 64 b).toNat:Int):=by show IntKind.i64.wrap _=_;rw[IntKind.wrap_i64];unfold wrap64;rfl
 rw[this];exact QbV _
theorem Qk5 (a b:Int):Zh (bits .xor .i64 a b):=by
 have:bits .xor .i64 a b=wrap64 ((BitVec.ofInt 64 a ^^^ BitVec.ofInt 64 b).toNat:Int):=by show IntKind.i64.wrap _=_;rw[IntKind.wrap_i64];unfold wrap64;rfl
 rw[this];exact QbV _
theorem Qjh (p:Bool):Zh (tru p):=by cases p<;>exact⟨by decide,by decide⟩
theorem QkP {a b:Int}(hb:Zh b) (c:b≠0):Zh (a.tmod b):=by
 have d:=Int.natAbs_tmod a b;have e:(a.tmod b).natAbs<b.natAbs:=by rw[d];exact Nat.mod_lt _ (Int.natAbs_pos.2 c)
 generalize a.tmod b=x at *;unfold Zh at *;omega
theorem QfG {k a b n:Int}(p:Zh a) (hb:Zh b) (h:aOp k a b=some n):Zh n:=by
 unfold aOp at h;by_cases l:k=1
 ·rw[Xs l] at h;cases h;exact QbV _
 rw[Xr l] at h
 by_cases f:k=2
 ·rw[Xs f] at h;cases h;exact QbV _
 rw[Xr f] at h
 by_cases i:k=3
 ·rw[Xs i] at h;cases h;exact QbV _
 rw[Xr i] at h
 by_cases e:k=4
 ·rw[Xs e] at h
  by_cases c:b=0
  ·rw[Xs c] at h;cases h
  ·rw[Xr c] at h;cases h;exact QbV _
 rw[Xr e] at h
 by_cases j:k=5
 ·rw[Xs j] at h
  by_cases c:b=0
  ·rw[Xs c] at h;cases h
  ·rw[Xr c] at h;cases h;exact QkP hb c
 rw[Xr j] at h
 by_cases o:k=6
 ·rw[Xs o] at h;cases h;exact Qjh _
 rw[Xr o] at h
 by_cases m:k=7
 ·rw[Xs m] at h;cases h;exact Qjh _
 rw[Xr m] at h
 by_cases d:k=8
 ·rw[Xs d] at h;cases h;exact Qlf _ _
 rw[Xr d] at h
 by_cases g:k=9
 ·rw[Xs g] at h;cases h;exact Qk5 _ _
 rw[Xr g] at h
 cases h
def QdY (w w':World) (b:Nat) (O:Nat->Prop) (h':Qc) (Z:Nat):Prop:=∃ O' G',HIn w' b O' h' G'/\QN O O' w w'/\(∀ x,O x->O' x)/\¬ O' Z
theorem Qfx (g:World) (i:Nat) (O:Nat->Prop) (R:Qc->Prop) (n:∀ x,O x->x<g.heap.size):HPs g (fun w=>∃ h',R h'/\HTo g w i O h') (fun Z w=>∃ h',R h'/\QdY g w i O h' Z) where
 down:=fun ⟨h',r,c,d,a,s,k,_⟩=>⟨h',r,c,d,a,s,k⟩
 up:=fun {w} o ⟨h',r,c,d,a,s,k⟩=>⟨h',r,c,d,a.below (QY w o),s.alloc o,k,fun e=>by have:=a.lt _ e;omega⟩
 below:=fun {w l} ⟨h',r,c,d,a,s,k⟩ b=>⟨h',r,c,d,a.below b,⟨b.os.trans s.os,b.tape.trans s.tape,b.output.trans s.output,Zt s.size b.size,fun x f h=>(b.block x (by have:=s.size;omega)).trans (s.block x f h),s.own⟩,k⟩
 belowZ:=fun {Z w l} ⟨h',r,c,d,a,s,k,z⟩ _ b=>⟨h',r,c,d,a.below b,⟨b.os.trans s.os,b.tape.trans s.tape,b.output.trans s.output,Zt s.size b.size,fun x f h=>(b.block x (by have:=s.size;omega)).trans (s.block x f h),s.own⟩,k,z⟩
 fill:=fun {Z w} r ⟨h',m,c,d,a,s,k,z⟩ j=>⟨h',m,c,d,a.keep (by simp) (fun x f _=>QbE (fun (e:x=Z)=>z (e ▸ f)) _ _ _ _),Qdr s j _ _ _ _,k,z⟩
 low:=fun ⟨h',r,c,d,a,s,k⟩=>s.size
theorem HTo.from {w w':World}{b:Nat}{h':Qc}(c:Below w6.heap.size w6 w) (g:∀ x,O x->x<w6.heap.size) (T:HTo w w' b O h'):HTo w6 w' b O h'/\∀ Z,w6.heap.size<=Z->Z<w.heap.size->w'.heap[Z]?=w.heap[Z]?/\QdY w6 w' b O h' Z:=by
 obtain⟨d,i,a,s,k⟩:=T
 have h:QN O d w6 w':=⟨s.os.trans c.os,s.tape.trans c.tape,s.output.trans c.output,Zt c.size s.size,fun x f j=>(s.block x (by have:=c.size;omega) j).trans (c.block x f),fun x f=>(s.own x f).imp id (fun e=>Zt c.size e)⟩;refine⟨⟨d,i,a,h,k⟩,fun Z m l=>⟨s.block Z l (fun e=>by have:=g Z e;omega),d,i,a,h,k,fun e=>?_⟩⟩
 rcases s.own Z e with e | e
 ·have:=g Z e;omega
 ·omega
theorem QfI {h:Qc}{v:Qj}{t:Qq}(a:(h.put v t words).2.1≠0):(h.put v t words).2.2=h:=by
 unfold Qc.put at a |-;split
 ·rfl
 ·rename_i p c
  rw[c] at a
  simp only at a
  split
  ·rfl
  ·rename_i b
   rw[Xr b] at a
   exact absurd Z a
theorem Qf8 {h:Qc}{v:Qj}{l:List Qj}(a:(h.tuple v l).2.1≠0):(h.tuple v l).2.2=h:=QfI a
theorem Qgk {h:Qc}{v:Qj}{n:Int}(a:(h.array v n).2.1≠0):(h.array v n).2.2=h:=by
 unfold Qc.array at a |-;split
 ·rfl
 ·rename_i b
  rw[Xr b] at a
  exact QfI a
section
variable {w w' w2:World}{b most n:Nat}{m:List (Qe 6)}{M M' N:IM}{sc sa:Int}{g g1:MG}{e:Ending}
theorem Qih {l:List Qj}(h:∀ v∈l,gdV v):l.map Qj.bare=l:=by
 induction l with
 | nil=>rfl
 | cons x l ih=>rw[List.map_cons,(h x (by simp)).2,ih (fun v a=>h v (by simp[a]))]
theorem Qaf.tup (I:Qaf n M) (H:HIn w g.bh g.O M.h g.G){y:Qj}(m:y.ok){l:List Qj}(i:l.length=k) (B:k<=1000000) (q:∀ v∈l,gdV v) (d:VIn w a l) (r:∀ g0 o,a=some ⟨g0,o,none⟩->¬ g.O g0) :
 Calls prog 116 #[.pointer (some ⟨g.bh,0,none⟩),QF y,.slice a k c] w fun e w'=>e=.returned (.tuple #[QF (M.h.tuple y l).1,.int .i64 (M.h.tuple y l).2.1])/\HTo w w' g.bh g.O (M.h.tuple y l).2.2:=by
 have j:=Qih q;have A:=I.hn
 cases hat:M.h.at y with
 | none =>
   have:=Qgy H y m (c:=c) i (by omega) d hat
   rw[j] at this
   exact this
 | some p =>
   obtain⟨x,t,z,s⟩:=I.hb.ok.of hat
   obtain⟨-,-,u,b,-,-⟩:=Qc.at_some hat
   by_cases f:p.tight (QdX k)=true/\M.h.left=0
   ·have:=QhW H y m (c:=c) i (by omega) d hat f.1 f.2 (by omega)
    rw[j] at this
    exact this
   ·have:=Qkj H y m (c:=c) i (by omega) d hat b f (by omega) (by omega) (by omega) (by omega) r
    rw[j] at this
    exact this
theorem Qaf.arr (I:Qaf n M) (H:HIn w g.bh g.O M.h g.G){y:Qj}(d:y.ok)(b:k<=15) :
 Calls prog 160 #[.pointer (some ⟨g.bh,0,none⟩),QF y,.int .i64 (k:Int)] w fun e w'=>e=.returned (.tuple #[QF (M.h.array y (k:Int)).1,.int .i64 (M.h.array y (k:Int)).2.1])/\HTo w w' g.bh g.O (M.h.array y (k:Int)).2.2:=by
 have o:=I.hn
 cases hat:M.h.at y with
 | none=>exact QgI H y d b hat
 | some p =>
   obtain⟨l,i,m,f⟩:=I.hb.ok.of hat
   obtain⟨-,-,j,a,-,-⟩:=Qc.at_some hat
   by_cases c:p.tight ((k:Int)+1)=true/\M.h.left=0
   ·exact Qh0 H y d b hat c.1 c.2 (by omega)
   ·exact Qki H y d b hat a c (by omega) (by omega) (by omega) (by omega)
end
def QlT (b c X:Nat) (xa xb xk:Int) (na nb:Option Int) (t:Tmp) (v:Value) (w:World):Prop :=
 match ([(30,fun v w=>∃ y,na=some y/\v=.int .i64 y),(34,fun v w=>∃ y,nb=some y/\v=.int .i64 y),(35,fun v w=>∃ y z,na=some y/\nb=some z/\v=.tuple #[.int .i64 ((aOp xk y z).getD 0),.bool (aOp xk y z).isSome]),(24,fun v w=>∃ y z,na=some y/\nb=some z/\v=.tuple #[.int .i64 ((aOp xk y z).getD 0),.bool (aOp xk y z).isSome]),(36,fun v w=>∃ y z,na=some y/\nb=some z/\v=.int .i64 ((aOp xk y z).getD 0)),(37,fun v w=>∃ y z,na=some y/\nb=some z/\v=.bool (aOp xk y z).isSome),(6,fun v w=>∃ y z,na=some y/\nb=some z/\v=.int .i64 ((aOp xk y z).getD 0)),(7,fun v w=>∃ y z,na=some y/\nb=some z/\v=.bool (aOp xk y z).isSome)]:List (Tmp × (Value->World->Prop))).lookup t with
 | some p=>p v w
 | none=>v=(([(0,.pointer (some ⟨b,0,none⟩)),(1,.pointer (some ⟨c,0,none⟩)),(5,.pointer (some ⟨X,0,none⟩)),(25,.pointer (some ⟨X,4,none⟩)),(26,.int .i64 xk),(27,.pointer (some ⟨c,0,none⟩)),(28,.pointer (some ⟨X,1,none⟩)),(29,.int .i64 xa),(31,.pointer (some ⟨c,0,none⟩)),(32,.pointer (some ⟨X,2,none⟩)),(33,.int .i64 xb)]:List (Tmp × Value)).lookup t).getD undef
theorem in6 {b:Nat}{l k:Option Int}(P:w6.cell? ⟨X,1,none⟩=some (.int .i64 xa)) (T:w6.cell? ⟨X,2,none⟩=some (.int .i64 xb)) (I:w6.cell? ⟨X,4,none⟩=some (.int .i64 xk)) (O:Hid (∀ wx,Below w6.heap.size w6 wx->Calls prog 108 #[.pointer (some ⟨c,0,none⟩),.int .i64 xa] wx fun e w'=>Ask l (.int .i64) e/\Below wx.heap.size wx w')) (M:Hid (∀ wx,Below w6.heap.size w6 wx->Calls prog 108 #[.pointer (some ⟨c,0,none⟩),.int .i64 xb] wx fun e w'=>Ask k (.int .i64) e/\Below wx.heap.size wx w'))
 (a:Act) (m:Nat) (hn:a.tmps.size=m) (C:112<=m) (U:a.tmps.getD 0 undef=.pointer (some ⟨b,0,none⟩)) (W:a.tmps.getD 1 undef=.pointer (some ⟨c,0,none⟩)) (R:a.tmps.getD 5 undef=.pointer (some ⟨X,0,none⟩))
 (J:∀ ch a' w',a'.defers=a.defers->(fun ch w=>ch=stuckP/\(l=none\/k=none)/\Below w6.heap.size w6 w) ch w'->Q (.panic ch) a' w')
 (hend:∀ vs w',(fun v w=>∃ y z,l=some y/\k=some z/\v=.int .i64 ((aOp xk y z).getD 0)) (vs 6) w'->(fun v w=>∃ y z,l=some y/\k=some z/\v=.bool (aOp xk y z).isSome) (vs 7) w'->Below w6.heap.size w6 w'->Q .normal (QT a vs [25,26,27,28,29,30,31,32,33,34,35,24,36,37,6,7]) w') :
 Code.wp prog ((Tryz.f71.body.bind (Qn 6)).getD .skip) Q a w6:=by
 conv=>arg 2;whnf
 refine ZH (QlT b c X xa xb xk l k) (fun w=>Below w6.heap.size w6 w) (fun w w'=>Below w.heap.size w w') (fun ch w=>ch=stuckP/\(l=none\/k=none)/\Below w6.heap.size w6 w) J (outs:=[0,1,5]) (gs:=[]) (bs:=[true,true,true,true,true,true,true,true,true,true,true,true,true,true,true,true]) (by kernel_rfl) (n:=112) hn C (by kernel_rfl) ?hR ?hG (QH Zr 1) ⟨U,W,R,Y⟩ ?hA ?hend
 case hR =>
  intro t v w w' hr h;unfold QlT at h |-;split at h
  ·rename_i p j
   simp only[List.lookup_cons,List.lookup_nil] at j
   split at j
   ·cases j;exact h
   ·split at j
    ·cases j;exact h
    ·split at j
     ·cases j;exact h
     ·split at j
      ·cases j;exact h
      ·split at j
       ·cases j;exact h
       ·split at j
        ·cases j;exact h
        ·split at j
         ·cases j;exact h
         ·split at j
          ·cases j;exact h
          ·cases j
  ·exact h
 case hG=>exact Y
 case hend=>exact fun vs w' f g=>hend vs w' (g 6 (by kernel_rfl)) (g 7 (by kernel_rfl)) f
 case hA =>
  refine⟨fun a w f g K i=>?_,?_⟩
  ·obtain⟨d,-⟩:=g
   have d:a.tmps.getD 5 undef=.pointer (some ⟨X,0,none⟩):=d;go_simp;exact i _ _ Zr f Z
  refine⟨fun a w f g K i=>?_,?_⟩
  ·obtain⟨d,-⟩:=g
   have d:a.tmps.getD 25 undef=.pointer (some ⟨X,4,none⟩):=d;have H:=QI I f;go_simp;exact i _ _ Zr f Z
  refine⟨fun a w f g K i=>?_,?_⟩
  ·obtain⟨d,-⟩:=g
   have d:a.tmps.getD 1 undef=.pointer (some ⟨c,0,none⟩):=d;go_simp;exact i _ _ Zr f Z
  refine⟨fun a w f g K i=>?_,?_⟩
  ·obtain⟨d,-⟩:=g
   have d:a.tmps.getD 5 undef=.pointer (some ⟨X,0,none⟩):=d;go_simp;exact i _ _ Zr f Z
  refine⟨fun a w f g K i=>?_,?_⟩
  ·obtain⟨d,-⟩:=g
   have d:a.tmps.getD 28 undef=.pointer (some ⟨X,1,none⟩):=d;have H:=QI P f;go_simp;exact i _ _ Zr f Z
  refine⟨fun a w f g K i=>?_,?_⟩
  ·obtain⟨d,r,-⟩:=g
   have d:a.tmps.getD 27 undef=.pointer (some ⟨c,0,none⟩):=d;have r:a.tmps.getD 29 undef=.int .i64 xa:=r;go_simp;refine Xm (O.out w f) ?_;rintro G F ⟨E,A⟩;rcases E.split with ⟨D,x,rfl⟩|⟨x,rfl⟩
   rotate_left
   ·exact⟨_,Z,Z,.inl x,f.trans (A.mono f.size)⟩
   go_simp;exact i _ _ A (f.trans (A.mono f.size)) ⟨D,x,Z⟩
  refine⟨fun a w f g K i=>?_,?_⟩
  ·obtain⟨d,-⟩:=g
   have d:a.tmps.getD 1 undef=.pointer (some ⟨c,0,none⟩):=d;go_simp;exact i _ _ Zr f Z
  refine⟨fun a w f g K i=>?_,?_⟩
  ·obtain⟨d,-⟩:=g
   have d:a.tmps.getD 5 undef=.pointer (some ⟨X,0,none⟩):=d;go_simp;exact i _ _ Zr f Z
  refine⟨fun a w f g K i=>?_,?_⟩
  ·obtain⟨d,-⟩:=g
   have d:a.tmps.getD 32 undef=.pointer (some ⟨X,2,none⟩):=d;have H:=QI T f;go_simp;exact i _ _ Zr f Z
  refine⟨fun a w f g K i=>?_,?_⟩
  ·obtain⟨d,r,-⟩:=g
   have d:a.tmps.getD 31 undef=.pointer (some ⟨c,0,none⟩):=d;have r:a.tmps.getD 33 undef=.int .i64 xb:=r;go_simp;refine Xm (M.out w f) ?_;rintro G F ⟨E,A⟩;rcases E.split with ⟨D,x,rfl⟩|⟨x,rfl⟩
   rotate_left
   ·exact⟨_,Z,Z,.inr x,f.trans (A.mono f.size)⟩
   go_simp;exact i _ _ A (f.trans (A.mono f.size)) ⟨D,x,Z⟩
  refine⟨fun a w f g K i=>?_,?_⟩
  ·obtain⟨d,r,B,-⟩:=g
   have d:a.tmps.getD 26 undef=.int .i64 xk:=d;have r:(fun v w=>∃ y,l=some y/\v=.int .i64 y) (a.tmps.getD 30 undef) w:=r;generalize V:a.tmps.getD 30 undef=S at r;have B:(fun v w=>∃ y,k=some y/\v=.int .i64 y) (a.tmps.getD 34 undef) w:=B;generalize N:a.tmps.getD 34 undef=L at B;obtain⟨y,o,rfl⟩:=r
   obtain⟨z,q,rfl⟩:=B
   go_simp;refine Xm (QjA xk y z w) ?_;rintro G F ⟨rfl,rfl⟩;go_simp;exact i _ _ Zr f ⟨y,z,o,q,Z⟩
  refine⟨fun a w f g K i=>?_,?_⟩
  ·obtain⟨d,-⟩:=g
   have d:(fun v w=>∃ y z,l=some y/\k=some z/\v=.tuple #[.int .i64 ((aOp xk y z).getD 0),.bool (aOp xk y z).isSome]) (a.tmps.getD 35 undef) w:=d;generalize s:a.tmps.getD 35 undef=u at d;obtain⟨y,z,o,q,rfl⟩:=d
   go_simp;exact i _ _ Zr f ⟨y,z,o,q,Z⟩
  refine⟨fun a w f g K i=>?_,?_⟩
  ·obtain⟨d,-⟩:=g
   have d:(fun v w=>∃ y z,l=some y/\k=some z/\v=.tuple #[.int .i64 ((aOp xk y z).getD 0),.bool (aOp xk y z).isSome]) (a.tmps.getD 24 undef) w:=d;generalize s:a.tmps.getD 24 undef=u at d;obtain⟨y,z,o,q,rfl⟩:=d
   go_simp;exact i _ _ Zr f ⟨y,z,o,q,Z⟩
  refine⟨fun a w f g K i=>?_,?_⟩
  ·obtain⟨d,-⟩:=g
   have d:(fun v w=>∃ y z,l=some y/\k=some z/\v=.tuple #[.int .i64 ((aOp xk y z).getD 0),.bool (aOp xk y z).isSome]) (a.tmps.getD 24 undef) w:=d;generalize s:a.tmps.getD 24 undef=u at d;obtain⟨y,z,o,q,rfl⟩:=d
   go_simp;exact i _ _ Zr f ⟨y,z,o,q,Z⟩
  refine⟨fun a w f g K i=>?_,?_⟩
  ·obtain⟨d,-⟩:=g
   have d:(fun v w=>∃ y z,l=some y/\k=some z/\v=.int .i64 ((aOp xk y z).getD 0)) (a.tmps.getD 36 undef) w:=d;generalize s:a.tmps.getD 36 undef=u at d;obtain⟨y,z,o,q,rfl⟩:=d
   go_simp;exact i _ _ Zr f ⟨y,z,o,q,Z⟩
  refine⟨fun a w f g K i=>?_,?_⟩
  ·obtain⟨d,-⟩:=g
   have d:(fun v w=>∃ y z,l=some y/\k=some z/\v=.bool (aOp xk y z).isSome) (a.tmps.getD 37 undef) w:=d;generalize s:a.tmps.getD 37 undef=u at d;obtain⟨y,z,o,q,rfl⟩:=d
   go_simp;exact i _ _ Zr f ⟨y,z,o,q,Z⟩
  trivial
def Qk1 (b c X bh:Nat) (xa:Int) (oa:Option Qj) (t:Tmp) (v:Value) (w:World):Prop :=
 match ([(57,fun v w=>∃ y,oa=some y/\v=QF y)]:List (Tmp × (Value->World->Prop))).lookup t with
 | some p=>p v w
 | none=>v=(([(0,.pointer (some ⟨b,0,none⟩)),(1,.pointer (some ⟨c,0,none⟩)),(5,.pointer (some ⟨X,0,none⟩)),(50,.pointer (some ⟨b,0,none⟩)),(51,.pointer (some ⟨b,0,none⟩)),(52,.pointer (some ⟨b,0,none⟩)),(53,.pointer (some ⟨bh,0,none⟩)),(54,.pointer (some ⟨c,0,none⟩)),(55,.pointer (some ⟨X,1,none⟩)),(56,.int .i64 xa)]:List (Tmp × Value)).lookup t).getD undef
theorem Qmx {b:Nat}{oa:Option Qj}(s:w6.cell? ⟨b,0,none⟩=some (.pointer (some ⟨bh,0,none⟩))) (x:w6.cell? ⟨X,1,none⟩=some (.int .i64 xa)) (A:Hid (∀ wx,Below w6.heap.size w6 wx->Calls prog 115 #[.pointer (some ⟨c,0,none⟩),.int .i64 xa] wx fun e w'=>Ask oa QF e/\Below wx.heap.size wx w'))
 (a:Act) (m:Nat) (hn:a.tmps.size=m) (o:112<=m) (C:a.tmps.getD 0 undef=.pointer (some ⟨b,0,none⟩)) (D:a.tmps.getD 1 undef=.pointer (some ⟨c,0,none⟩)) (z:a.tmps.getD 5 undef=.pointer (some ⟨X,0,none⟩))
 (r:∀ ch a' w',a'.defers=a.defers->(fun ch w=>ch=stuckP/\oa=none/\Below w6.heap.size w6 w) ch w'->Q (.panic ch) a' w')
 (hend:∀ ops vs w',vs 53=.pointer (some ⟨bh,0,none⟩)->(fun v w=>∃ y,oa=some y/\v=QF y) (vs 57) w'->Below w6.heap.size w6 w'->wpList prog ops Q (Qb8 8 ((Tryz.f71.body.bind (Qn 12)).getD .skip)) (QT a vs [50,51,52,53,54,55,56,57]) w') :
 Code.wp prog ((Tryz.f71.body.bind (Qn 12)).getD .skip) Q a w6:=by
 conv=>arg 2;whnf
 refine Q0 8 (Qk1 b c X bh xa oa) (fun w=>Below w6.heap.size w6 w) (fun w w'=>Below w.heap.size w w') (fun ch w=>ch=stuckP/\oa=none/\Below w6.heap.size w6 w) r (outs:=[0,1,5]) (gs:=[]) (bs:=[true,true,true,true,true,true,true,true]) (by kernel_rfl) (n:=112) hn o (by kernel_rfl) (by kernel_rfl) ?hR ?hG (QH Zr 1) ⟨C,D,z,Y⟩ ?hA ?hend
 case hR =>
  intro t v w w' H h;unfold Qk1 at h |-;split at h
  ·rename_i p j
   simp only[List.lookup_cons,List.lookup_nil] at j
   split at j
   ·cases j;exact h
   ·cases j
  ·exact h
 case hG=>exact Y
 case hend=>exact fun ops vs w' f g=>hend ops vs w' (g 53 (by kernel_rfl)) (g 57 (by kernel_rfl)) f
 case hA =>
  refine⟨fun a w f g K i=>?_,?_⟩
  ·obtain⟨d,-⟩:=g
   have d:a.tmps.getD 0 undef=.pointer (some ⟨b,0,none⟩):=d;go_simp;exact i _ _ Zr f Z
  refine⟨fun a w f g K i=>?_,?_⟩
  ·obtain⟨d,-⟩:=g
   have d:a.tmps.getD 50 undef=.pointer (some ⟨b,0,none⟩):=d;go_simp;exact i _ _ Zr f Z
  refine⟨fun a w f g K i=>?_,?_⟩
  ·obtain⟨d,-⟩:=g
   have d:a.tmps.getD 51 undef=.pointer (some ⟨b,0,none⟩):=d;go_simp;exact i _ _ Zr f Z
  refine⟨fun a w f g K i=>?_,?_⟩
  ·obtain⟨d,-⟩:=g
   have d:a.tmps.getD 52 undef=.pointer (some ⟨b,0,none⟩):=d;have u:=QI s f;go_simp;exact i _ _ Zr f Z
  refine⟨fun a w f g K i=>?_,?_⟩
  ·obtain⟨d,-⟩:=g
   have d:a.tmps.getD 1 undef=.pointer (some ⟨c,0,none⟩):=d;go_simp;exact i _ _ Zr f Z
  refine⟨fun a w f g K i=>?_,?_⟩
  ·obtain⟨d,-⟩:=g
   have d:a.tmps.getD 5 undef=.pointer (some ⟨X,0,none⟩):=d;go_simp;exact i _ _ Zr f Z
  refine⟨fun a w f g K i=>?_,?_⟩
  ·obtain⟨d,-⟩:=g
   have d:a.tmps.getD 55 undef=.pointer (some ⟨X,1,none⟩):=d;have u:=QI x f;go_simp;exact i _ _ Zr f Z
  refine⟨fun a w f g K i=>?_,?_⟩
  ·obtain⟨d,q,-⟩:=g
   have d:a.tmps.getD 54 undef=.pointer (some ⟨c,0,none⟩):=d;have q:a.tmps.getD 56 undef=.int .i64 xa:=q;go_simp;refine Xm (A.out w f) ?_;rintro G F ⟨E,l⟩;rcases E.split with ⟨B,k,rfl⟩|⟨k,rfl⟩
   rotate_left
   ·exact⟨_,Z,Z,k,f.trans (l.mono f.size)⟩
   go_simp;exact i _ _ l (f.trans (l.mono f.size)) ⟨B,k,Z⟩
  trivial
def QcW (w6:World) (h:Qc) (OO:Nat->Prop) (b c X bh na ca:Nat) (xa:Int) (pa:Option Addr) (oa:Option Qj) (ol:Option (List Qj)) (S:Nat->Bool) (t:Tmp) (v:Value) (w:World):Prop :=
 match ([(70,fun _ v _=>(fun v=>∃ y,oa=some y/\v=QF y) v),(75,fun _ v _=>(fun v=>∃ y xs,oa=some y/\ol=some xs/\v=.tuple #[QF (h.tuple y xs).1,.int .i64 (h.tuple y xs).2.1]) v),(62,fun _ v _=>(fun v=>∃ y xs,oa=some y/\ol=some xs/\v=.tuple #[QF (h.tuple y xs).1,.int .i64 (h.tuple y xs).2.1]) v),(76,fun _ v _=>(fun v=>∃ y xs,oa=some y/\ol=some xs/\v=QF (h.tuple y xs).1) v),(77,fun _ v _=>(fun v=>∃ y xs,oa=some y/\ol=some xs/\v=.int .i64 (h.tuple y xs).2.1) v),(9,fun _ v _=>(fun v=>∃ y xs,oa=some y/\ol=some xs/\v=.int .i64 (h.tuple y xs).2.1) v),(74,fun S v w=>S 12=false->(QjD w6 ol na) v w),(8,Qan w6 (fun Z w=>∃ h',(∃ y xs,oa=some y/\ol=some xs/\h'=(h.tuple y xs).2.2)/\QdY w6 w bh OO h' Z) 12 17 (fun r=>∃ y xs,oa=some y/\ol=some xs/\r=(h.tuple y xs).1))]:List (Tmp × ((Nat->Bool)->Value->World->Prop))).lookup t with
 | some p=>p S v w
 | none=>v=(([(0,.pointer (some ⟨b,0,none⟩)),(1,.pointer (some ⟨c,0,none⟩)),(5,.pointer (some ⟨X,0,none⟩)),(63,.pointer (some ⟨b,0,none⟩)),(64,.pointer (some ⟨b,0,none⟩)),(65,.pointer (some ⟨b,0,none⟩)),(66,.pointer (some ⟨bh,0,none⟩)),(67,.pointer (some ⟨c,0,none⟩)),(68,.pointer (some ⟨X,1,none⟩)),(69,.int .i64 xa),(71,.pointer (some ⟨c,0,none⟩)),(72,.pointer (some ⟨X,7,none⟩)),(73,.slice pa na ca)]:List (Tmp × Value)).lookup t).getD undef
theorem ZY {h:Qc}{b:Nat}{oa:Option Qj}{g:Option (List Qj)}{S:Nat->Bool}{t:Tmp}{w w':World}(l:HPs w6 (fun w=>∃ h',(∃ y xs,oa=some y/\g=some xs/\h'=(h.tuple y xs).2.2)/\HTo w6 w bh OO h') (fun Z w=>∃ h',(∃ y xs,oa=some y/\g=some xs/\h'=(h.tuple y xs).2.2)/\QdY w6 w bh OO h' Z))(j:i≠12) (m:i≠17) (k:Below w.heap.size w w') (d:QcW w6 h OO b c X bh na ca xa pa oa g S t u w):QcW w6 h OO b c X bh na ca xa pa oa g (Zp i S) t u w':=by
 unfold QcW at d |-;split at d
 ·rename_i p a
  simp only[List.lookup_cons,List.lookup_nil] at a
  split at a
  ·rename_i f
   cases a
   exact d
  ·split at a
   ·rename_i f
    cases a
    exact d
   ·split at a
    ·rename_i f
     cases a
     exact d
    ·split at a
     ·rename_i f
      cases a
      exact d
     ·split at a
      ·rename_i f
       cases a
       exact d
      ·split at a
       ·rename_i f
        cases a
        exact d
       ·split at a
        ·rename_i f
         cases a
         exact fun e=>(by have d:=d (by rw[Qic (fun e=>j e.symm)] at e;exact e);exact d.below k)
        ·split at a
         ·rename_i f
          cases a
          exact d.on l j m k
         ·cases a
 ·exact d
theorem QkD {h:Qc}{b:Nat}{oa:Option Qj}{g:Option (List Qj)}{S:Nat->Bool}{t:Tmp}{w w':World}(k:∀ Z,w6.heap.size<=Z->Z<w.heap.size->w'.heap[Z]?=w.heap[Z]?/\(fun Z w=>∃ h',(∃ y xs,oa=some y/\g=some xs/\h'=(h.tuple y xs).2.2)/\QdY w6 w bh OO h' Z) Z w') (d:QcW w6 h OO b c X bh na ca xa pa oa g S t u w):QcW w6 h OO b c X bh na ca xa pa oa g (Zp 12 S) t u w':=by
 unfold QcW at d |-;split at d
 ·rename_i p a
  simp only[List.lookup_cons,List.lookup_nil] at a
  split at a
  ·rename_i f
   cases a
   exact d
  ·split at a
   ·rename_i f
    cases a
    exact d
   ·split at a
    ·rename_i f
     cases a
     exact d
    ·split at a
     ·rename_i f
      cases a
      exact d
     ·split at a
      ·rename_i f
       cases a
       exact d
      ·split at a
       ·rename_i f
        cases a
        exact d
       ·split at a
        ·rename_i f
         cases a
         exact fun e=>(by rw[QlG] at e;cases e)
        ·split at a
         ·rename_i f
          cases a
          exact d.did (by decide) k
         ·cases a
 ·exact d
theorem Qkx {h:Qc}{b:Nat}{oa:Option Qj}{g:Option (List Qj)}{S:Nat->Bool}{t:Tmp}{w:World}(m:HPs w6 (fun w=>∃ h',(∃ y xs,oa=some y/\g=some xs/\h'=(h.tuple y xs).2.2)/\HTo w6 w bh OO h') (fun Z w=>∃ h',(∃ y xs,oa=some y/\g=some xs/\h'=(h.tuple y xs).2.2)/\QdY w6 w bh OO h' Z)){Z:Nat}{r:Qj}(k:S 17=false) (i:S 12=true) (j:(fun r=>∃ y xs,oa=some y/\g=some xs/\r=(h.tuple y xs).1) r) (l:t=8->u=.pointer (some ⟨Z,0,none⟩)) (d:QcW w6 h OO b c X bh na ca xa pa oa g S t u w):QcW w6 h OO b c X bh na ca xa pa oa g (Zp 17 S) t u (Qkb w Z r):=by
 unfold QcW at d |-;split at d
 ·rename_i p a
  simp only[List.lookup_cons,List.lookup_nil] at a
  split at a
  ·rename_i f
   cases a
   exact d
  ·split at a
   ·rename_i f
    cases a
    exact d
   ·split at a
    ·rename_i f
     cases a
     exact d
    ·split at a
     ·rename_i f
      cases a
      exact d
     ·split at a
      ·rename_i f
       cases a
       exact d
      ·split at a
       ·rename_i f
        cases a
        exact d
       ·split at a
        ·rename_i f
         cases a
         exact fun e=>(by rw[Qic (by decide),i] at e;cases e)
        ·split at a
         ·rename_i f
          cases a
          (obtain rfl:=l (by simpa using f);exact d.fill m k (by decide) r j)
         ·cases a
 ·exact d
theorem Qmi {h:Qc}{b:Nat}{oa:Option Qj}{A:Option (List Qj)}(aa:∀ x,OO x->x<w6.heap.size) (q0:w6.cell? ⟨b,0,none⟩=some (.pointer (some ⟨bh,0,none⟩))) (x1:w6.cell? ⟨X,1,none⟩=some (.int .i64 xa)) (x7:w6.cell? ⟨X,7,none⟩=some (.slice pa na ca)) (CV:Hid (∀ wx,Below w6.heap.size w6 wx->Calls prog 115 #[.pointer (some ⟨c,0,none⟩),.int .i64 xa] wx fun e w'=>Ask oa QF e/\Below wx.heap.size wx w')) (CL:Hid (∀ wx,Below w6.heap.size w6 wx->Calls prog 117 #[.pointer (some ⟨c,0,none⟩),.slice pa na ca] wx fun e w'=>Qb1 wx A na e w')) (CT:Hid (∀ y xs g7 wx,oa=some y->A=some xs->w6.heap.size<=g7->wx.rowIs g7 183 (na*4) (Q7 xs)->Below w6.heap.size w6 wx->Calls prog 116 #[.pointer (some ⟨bh,0,none⟩),QF y,.slice (some ⟨g7,0,none⟩) na na] wx fun e w'=>e=.returned (.tuple #[QF (h.tuple y xs).1,.int .i64 (h.tuple y xs).2.1])/\HTo wx w' bh OO (h.tuple y xs).2.2)) (o:HPs w6 (fun w=>∃ h',(∃ y xs,oa=some y/\A=some xs/\h'=(h.tuple y xs).2.2)/\HTo w6 w bh OO h') (fun Z w=>∃ h',(∃ y xs,oa=some y/\A=some xs/\h'=(h.tuple y xs).2.2)/\QdY w6 w bh OO h' Z))
 (a:Act) (m:Nat) (hn:a.tmps.size=m) (W:112<=m) (h0:a.tmps.getD 0 undef=.pointer (some ⟨b,0,none⟩)) (h1:a.tmps.getD 1 undef=.pointer (some ⟨c,0,none⟩)) (h5:a.tmps.getD 5 undef=.pointer (some ⟨X,0,none⟩))
 (hX:∀ ch a' w',a'.defers=a.defers->(fun ch w=>ch=stuckP/\(oa=none\/A=none)/\Below w6.heap.size w6 w) ch w'->Q (.panic ch) a' w')
 (hend:∀ vs w',(fun v=>∃ y xs,oa=some y/\A=some xs/\v=.int .i64 (h.tuple y xs).2.1) (vs 9)->(∃ Z,vs 8=.pointer (some ⟨Z,0,none⟩)/\w6.heap.size<=Z/\(∃ r:Qj,(fun r=>∃ y xs,oa=some y/\A=some xs/\r=(h.tuple y xs).1) r/\Blk w' Z (Qkp r) 183)/\(fun Z w=>∃ h',(∃ y xs,oa=some y/\A=some xs/\h'=(h.tuple y xs).2.2)/\QdY w6 w bh OO h' Z) Z w')->(fun w=>∃ h',(∃ y xs,oa=some y/\A=some xs/\h'=(h.tuple y xs).2.2)/\HTo w6 w bh OO h') w'->Q .normal (QT a vs [63,64,65,66,67,68,69,70,71,72,73,74,75,62,76,77,8,9]) w') :
 Code.wp prog ((Tryz.f71.body.bind (Qn 14)).getD .skip) Q a w6:=by
 conv=>arg 2;whnf
 refine ZK (QcW w6 h OO b c X bh na ca xa pa oa A) (WY w6 (fun w=>∃ h',(∃ y xs,oa=some y/\A=some xs/\h'=(h.tuple y xs).2.2)/\HTo w6 w bh OO h') 12) (fun ch w=>ch=stuckP/\(oa=none\/A=none)/\Below w6.heap.size w6 w) hX (outs:=[0,1,5]) (gs:=[]) (bs:=[true,true,true,true,true,true,true,true,true,true,true,true,true,true,true,true,true,true,true]) (by kernel_rfl) (n:=112) hn W (by kernel_rfl) ?hG (.inl ⟨Yz,QH Zr 1⟩) ⟨h0,h1,h5,Y⟩ ?hA ?hend
 case hG=>exact fun S=>trivial
 case hend=>exact fun vs S w' G f j=>hend vs w' (j 9 (by kernel_rfl)) (Qan.full (show Qan w6 (fun Z w=>∃ h',(∃ y xs,oa=some y/\A=some xs/\h'=(h.tuple y xs).2.2)/\QdY w6 w bh OO h' Z) 12 17 (fun r=>∃ y xs,oa=some y/\A=some xs/\r=(h.tuple y xs).1) S (vs 8) w' from j 8 (by kernel_rfl)) (G 17 (by decide)) (G 12 (by decide))) (f.fin (G 12 (by decide)))
 case hA =>
  refine⟨fun S a w p B s f j K l=>?_,?_⟩
  ·obtain⟨d,-⟩:=j
   have g:S 12=false:=Qah s (q:=12) Yz (by kernel_rfl) p;have z:=f.pre g;have d:a.tmps.getD 0 undef=.pointer (some ⟨b,0,none⟩):=d;go_simp;exact l _ _ (fun t _ k=>ZY o (i:=0) (by decide) (by decide) Zr k) (f.on o (i:=0) (by decide) Zr) Yz
  refine⟨fun S a w p B s f j K l=>?_,?_⟩
  ·obtain⟨d,-⟩:=j
   have g:S 12=false:=Qah s (q:=12) Yz (by kernel_rfl) p;have z:=f.pre g;have d:a.tmps.getD 63 undef=.pointer (some ⟨b,0,none⟩):=d;go_simp;exact l _ _ (fun t _ k=>ZY o (i:=1) (by decide) (by decide) Zr k) (f.on o (i:=1) (by decide) Zr) Yz
  refine⟨fun S a w p B s f j K l=>?_,?_⟩
  ·obtain⟨d,-⟩:=j
   have g:S 12=false:=Qah s (q:=12) Yz (by kernel_rfl) p;have z:=f.pre g;have d:a.tmps.getD 64 undef=.pointer (some ⟨b,0,none⟩):=d;go_simp;exact l _ _ (fun t _ k=>ZY o (i:=2) (by decide) (by decide) Zr k) (f.on o (i:=2) (by decide) Zr) Yz
  refine⟨fun S a w p B s f j K l=>?_,?_⟩
  ·obtain⟨d,-⟩:=j
   have g:S 12=false:=Qah s (q:=12) Yz (by kernel_rfl) p;have z:=f.pre g;have d:a.tmps.getD 65 undef=.pointer (some ⟨b,0,none⟩):=d;have c0:=QI q0 z;go_simp;exact l _ _ (fun t _ k=>ZY o (i:=3) (by decide) (by decide) Zr k) (f.on o (i:=3) (by decide) Zr) Yz
  refine⟨fun S a w p B s f j K l=>?_,?_⟩
  ·obtain⟨d,-⟩:=j
   have g:S 12=false:=Qah s (q:=12) Yz (by kernel_rfl) p;have z:=f.pre g;have d:a.tmps.getD 1 undef=.pointer (some ⟨c,0,none⟩):=d;go_simp;exact l _ _ (fun t _ k=>ZY o (i:=4) (by decide) (by decide) Zr k) (f.on o (i:=4) (by decide) Zr) Yz
  refine⟨fun S a w p B s f j K l=>?_,?_⟩
  ·obtain⟨d,-⟩:=j
   have g:S 12=false:=Qah s (q:=12) Yz (by kernel_rfl) p;have z:=f.pre g;have d:a.tmps.getD 5 undef=.pointer (some ⟨X,0,none⟩):=d;go_simp;exact l _ _ (fun t _ k=>ZY o (i:=5) (by decide) (by decide) Zr k) (f.on o (i:=5) (by decide) Zr) Yz
  refine⟨fun S a w p B s f j K l=>?_,?_⟩
  ·obtain⟨d,-⟩:=j
   have g:S 12=false:=Qah s (q:=12) Yz (by kernel_rfl) p;have z:=f.pre g;have d:a.tmps.getD 68 undef=.pointer (some ⟨X,1,none⟩):=d;have c0:=QI x1 z;go_simp;exact l _ _ (fun t _ k=>ZY o (i:=6) (by decide) (by decide) Zr k) (f.on o (i:=6) (by decide) Zr) Yz
  refine⟨fun S a w p B s f j K l=>?_,?_⟩
  ·obtain⟨d,C,-⟩:=j
   have g:S 12=false:=Qah s (q:=12) Yz (by kernel_rfl) p;have z:=f.pre g;have d:a.tmps.getD 67 undef=.pointer (some ⟨c,0,none⟩):=d;have C:a.tmps.getD 69 undef=.int .i64 xa:=C;go_simp;refine Xm (CV.out w z) ?_;rintro r7 w7 ⟨O,M⟩;rcases O.split with ⟨y7,L,rfl⟩|⟨L,rfl⟩
   rotate_left
   ·exact⟨_,Yz,Yz,.inl L,z.trans (M.mono z.size)⟩
   go_simp;exact l _ _ (fun t _ k=>ZY o (i:=7) (by decide) (by decide) M k) (f.on o (i:=7) (by decide) M) ⟨y7,L,Yz⟩
  refine⟨fun S a w p B s f j K l=>?_,?_⟩
  ·obtain⟨d,-⟩:=j
   have g:S 12=false:=Qah s (q:=12) Yz (by kernel_rfl) p;have z:=f.pre g;have d:a.tmps.getD 1 undef=.pointer (some ⟨c,0,none⟩):=d;go_simp;exact l _ _ (fun t _ k=>ZY o (i:=8) (by decide) (by decide) Zr k) (f.on o (i:=8) (by decide) Zr) Yz
  refine⟨fun S a w p B s f j K l=>?_,?_⟩
  ·obtain⟨d,-⟩:=j
   have g:S 12=false:=Qah s (q:=12) Yz (by kernel_rfl) p;have z:=f.pre g;have d:a.tmps.getD 5 undef=.pointer (some ⟨X,0,none⟩):=d;go_simp;exact l _ _ (fun t _ k=>ZY o (i:=9) (by decide) (by decide) Zr k) (f.on o (i:=9) (by decide) Zr) Yz
  refine⟨fun S a w p B s f j K l=>?_,?_⟩
  ·obtain⟨d,-⟩:=j
   have g:S 12=false:=Qah s (q:=12) Yz (by kernel_rfl) p;have z:=f.pre g;have d:a.tmps.getD 72 undef=.pointer (some ⟨X,7,none⟩):=d;have c0:=QI x7 z;go_simp;exact l _ _ (fun t _ k=>ZY o (i:=10) (by decide) (by decide) Zr k) (f.on o (i:=10) (by decide) Zr) Yz
  refine⟨fun S a w p B s f j K l=>?_,?_⟩
  ·obtain⟨d,C,-⟩:=j
   have g:S 12=false:=Qah s (q:=12) Yz (by kernel_rfl) p;have z:=f.pre g;have d:a.tmps.getD 71 undef=.pointer (some ⟨c,0,none⟩):=d;have C:a.tmps.getD 73 undef=.slice pa na ca:=C;go_simp;refine Xm (CL.out w z) ?_;rintro r7 w7 O;obtain⟨M,O⟩:=O.split
   rcases O with ⟨xs,g7,L,rfl,N,H⟩|⟨L,rfl⟩
   rotate_left
   ·exact⟨_,Yz,Yz,.inr L,z.trans (M.mono z.size)⟩
   go_simp;exact l _ _ (fun t _ k=>ZY o (i:=11) (by decide) (by decide) M k) (f.on o (i:=11) (by decide) M) (fun _=>⟨g7,xs,Yz,Zt z.size N,L,H⟩)
  refine⟨fun S a w p B s f j K l=>?_,?_⟩
  ·obtain⟨d,C,U,-⟩:=j
   have z:=f.pre p;have d:a.tmps.getD 66 undef=.pointer (some ⟨bh,0,none⟩):=d;have C:(fun v=>∃ y,oa=some y/\v=QF y) (a.tmps.getD 70 undef):=C;generalize T:a.tmps.getD 70 undef=ab at C;have U:S 12=false->(QjD w6 A na) (a.tmps.getD 74 undef) w:=U;generalize ad:a.tmps.getD 74 undef=ac at U;obtain⟨y,E,rfl⟩:=C
   obtain⟨g7,xs,rfl,N,D,H⟩:=U p
   go_simp;refine Xm (CT.out y xs g7 w E D N H z) ?_;rintro r7 w7 ⟨rfl,t7⟩;obtain⟨t8,t9⟩:=HTo.from z aa t7
   go_simp;exact l _ _ (fun t _ k=>QkD (fun Z hz hl=>⟨(t9 Z hz hl).1,_,⟨y,xs,E,D,Yz⟩,(t9 Z hz hl).2⟩) k) (WY.did ⟨_,⟨y,xs,E,D,Yz⟩,t8⟩) ⟨y,xs,E,D,Yz⟩
  refine⟨fun S a w p B s f j K l=>?_,?_⟩
  ·obtain⟨d,-⟩:=j
   have d:(fun v=>∃ y xs,oa=some y/\A=some xs/\v=.tuple #[QF (h.tuple y xs).1,.int .i64 (h.tuple y xs).2.1]) (a.tmps.getD 75 undef):=d;generalize F:a.tmps.getD 75 undef=I at d;obtain⟨y,xs,E,D,rfl⟩:=d
   go_simp;exact l _ _ (fun t _ k=>ZY o (i:=13) (by decide) (by decide) Zr k) (f.on o (i:=13) (by decide) Zr) ⟨y,xs,E,D,Yz⟩
  refine⟨fun S a w p B s f j K l=>?_,?_⟩
  ·obtain⟨d,-⟩:=j
   have d:(fun v=>∃ y xs,oa=some y/\A=some xs/\v=.tuple #[QF (h.tuple y xs).1,.int .i64 (h.tuple y xs).2.1]) (a.tmps.getD 62 undef):=d;generalize F:a.tmps.getD 62 undef=I at d;obtain⟨y,xs,E,D,rfl⟩:=d
   go_simp;exact l _ _ (fun t _ k=>ZY o (i:=14) (by decide) (by decide) Zr k) (f.on o (i:=14) (by decide) Zr) ⟨y,xs,E,D,Yz⟩
  refine⟨fun S a w p B s f j K l=>?_,?_⟩
  ·obtain⟨d,-⟩:=j
   have d:(fun v=>∃ y xs,oa=some y/\A=some xs/\v=.tuple #[QF (h.tuple y xs).1,.int .i64 (h.tuple y xs).2.1]) (a.tmps.getD 62 undef):=d;generalize F:a.tmps.getD 62 undef=I at d;obtain⟨y,xs,E,D,rfl⟩:=d
   go_simp;exact l _ _ (fun t _ k=>ZY o (i:=15) (by decide) (by decide) Zr k) (f.on o (i:=15) (by decide) Zr) ⟨y,xs,E,D,Yz⟩
  refine⟨fun S a w p B s f j K l=>?_,?_⟩
  ·clear j;have J:S 17=false:=Qah s (q:=17) Yz (by kernel_rfl) p;go_simp;exact l _ _ (fun t _ k=>ZY o (i:=16) (by decide) (by decide) (QY _ _) k) (f.on o (i:=16) (by decide) (QY _ _)) (Qan.new o f J (i:=16) (by decide) (by decide))
  refine⟨fun S a w p B s f j K l=>?_,?_⟩
  ·obtain⟨d,C,-⟩:=j
   have d:Qan w6 (fun Z w=>∃ h',(∃ y xs,oa=some y/\A=some xs/\h'=(h.tuple y xs).2.2)/\QdY w6 w bh OO h' Z) 12 17 (fun r=>∃ y xs,oa=some y/\A=some xs/\r=(h.tuple y xs).1) S (a.tmps.getD 8 undef) w:=d;generalize F:a.tmps.getD 8 undef=I at d;have C:(fun v=>∃ y xs,oa=some y/\A=some xs/\v=QF (h.tuple y xs).1) (a.tmps.getD 76 undef):=C;generalize T:a.tmps.getD 76 undef=ab at C;have J:S 17=false:=p;have P:S 12=true:=Qi3 s B (by kernel_rfl);have kb:=d;obtain⟨Z,rfl,hZ,V,-,-⟩:=d
   have u:=V J;obtain⟨y,xs,E,D,rfl⟩:=C
   have hr:∃ y0 xs0,oa=some y0/\A=some xs0/\(h.tuple y xs).1=(h.tuple y0 xs0).1:=⟨y,xs,E,D,Yz⟩;obtain⟨r,R⟩:∃ r,(h.tuple y xs).1=r:=⟨_,Yz⟩
   rw[R] at T hr
   clear R;have c0:=Qa u 0 _ Yz;have c1:=Qa u 1 _ Yz;have c2:=Qa u 2 _ Yz;have c3:=Qa u 3 _ Yz;have z0:=Qf u 0;have z1:=Qf u 1;have z2:=Qf u 2;have z3:=Qf u 3;go_simp;exact l undef _ (fun t _ k=>Qkx o J P hr (fun e=>by subst e;exact F) k) (Qan.fillW o kb P (by decide) r) Y
  refine⟨fun S a w p B s f j K l=>?_,?_⟩
  ·obtain⟨d,-⟩:=j
   have d:(fun v=>∃ y xs,oa=some y/\A=some xs/\v=.int .i64 (h.tuple y xs).2.1) (a.tmps.getD 77 undef):=d;generalize F:a.tmps.getD 77 undef=I at d;obtain⟨y,xs,E,D,rfl⟩:=d
   go_simp;exact l _ _ (fun t _ k=>ZY o (i:=18) (by decide) (by decide) Zr k) (f.on o (i:=18) (by decide) Zr) ⟨y,xs,E,D,Yz⟩
  trivial
section
variable {w w' w2:World}{b most n:Nat}{m:List (Qe 6)}{M M' N:IM}{sc sa:Int}{g g1:MG}{e:Ending}
theorem Qm.after {r:Option IM}(T:QN g.A g.A w w2) (h:Qm g w2 b most m M sc sa r e w'):Qm g w b most m M sc sa r e w':=by
 cases r with
 | none=>exact⟨h.1,XTo.then T Z Z h.2⟩
 | some M' =>
   rcases h with ⟨c,a⟩|⟨N,k,c,a,d⟩
   ·exact .inl ⟨c,XTo.then T Z Z a⟩
   ·exact .inr ⟨N,k,c,a,XTo.then T Z Z d⟩
theorem Qa1.after {r:Option IM}(T:QN g.A g.A w w2) (h:Qa1 g w2 b most m M sc sa r e w'):Qa1 g w b most m M sc sa r e w':=by
 cases r with
 | none=>exact⟨h.1,XTo.then T Z Z h.2⟩
 | some M' =>
   rcases h with ⟨d,i,a,c,f⟩|⟨N,k,d,a,c⟩
   ·exact .inl ⟨d,i,a,T.trans c,f⟩
   ·exact .inr ⟨N,k,d,a,XTo.then T Z Z c⟩
theorem QbU {v:List Qj}:∀ {l:List Int}{ys:List Qj},Qp v l=some ys->∀ x∈ys,x∈v
 | [],ys,h,x,a=>by simp[Qp] at h;subst h;simp at a
 | k::l,ys,h,x,a=>by
   simp only[Qp] at h
   cases hk:QA v k with
   | none=>rw[hk] at h;cases h
   | some y =>
     rw[hk] at h
     simp only at h
     cases hl:Qp v l with
     | none=>rw[hl] at h;cases h
     | some zs =>
       rw[hl] at h
       simp at h
       subst h;rcases List.mem_cons.1 a with rfl | a
       ·exact QaV hk
       ·exact QbU hl x a
theorem Qm.cases {r:Option IM}(h:Qm g w b most m M sc sa r e w'):(e=.returned (.tuple #[])\/∃ ch,e=.panicked ch):=by
 cases r with
 | none=>exact .inr ⟨_,h.1⟩
 | some M' =>
   rcases h with ⟨c,a⟩|⟨N,k,c,a,d⟩
   ·exact .inl c
   ·exact .inr ⟨_,a⟩
theorem Qa1.cases {r:Option IM}(h:Qa1 g w b most m M sc sa r e w'):(e=.returned (.tuple #[])\/∃ ch,e=.panicked ch):=by
 cases r with
 | none=>exact .inr ⟨_,h.1⟩
 | some M' =>
   rcases h with ⟨c,a⟩|⟨N,k,c,a,d⟩
   ·exact .inl c
   ·exact .inr ⟨_,a⟩
theorem Qaf.shut (I:Qaf n M) (H:HIn w g.bh g.O M.h g.G){y:Qj}(b:y.ok) :
 Calls prog 114 #[.pointer (some ⟨g.bh,0,none⟩),QF y] w fun e w'=>e=.returned (.bool (M.h.shut y).1)/\HTo w w' g.bh g.O (M.h.shut y).2 :=
 Qg9 H y b (fun p a=>by have:=(I.hb.ok.of a).2.2.2;omega)
theorem QgA {h:Qc}{v:Qj}(a:(h.shut v).1=false):(h.shut v).2=h:=by
 unfold Qc.shut at a |-
 cases e:h.at v with
 | none=>rfl
 | some p=>rw[e] at a;cases a
theorem QlD (S:MAt w b most m M sc sa g) (I:Qaf n M){x:Qz}(f:IP) (i:x.op=1) :
 Calls prog 71 #[.pointer (some ⟨b,0,none⟩),.pointer (some ⟨g.t.c,0,none⟩),.agg (QZ x f)] w fun e w'=>Qm g w b most m M sc sa (IM.ins m aOp M x) e w':=by
 have E:Hid (IM.ins m aOp M x=some (M.push [Qa8 x.n])):=by show _=_;unfold IM.ins;simp[i]
 generalize IM.ins m aOp M x=D at E |-;have j:=Qb (QY w (.cells (QZ x f) 65));have d:=Qb (Qh w (QZ x f) 65);have K:=Qb S;have H:=Qb I;have l:=Qb (S.below j.out);have o:=Qb (S.stepB j.out);have G:=I.len;clear S I;go_enter func71,ntmps71
 go_upto_region 1 with fail
 generalize w.alloc (.cells (QZ x f) 65)=h at j d l o |-;generalize w.heap.size=X at d |-;have y:h.cell? ⟨X,0,none⟩=some (.int .i64 x.op):=Qa d.out 0 _ Z;rw[i] at y
 have A:h.cell? ⟨X,1,none⟩=some (.int .i64 x.a):=Qa d.out 1 _ Z;have B:h.cell? ⟨X,2,none⟩=some (.int .i64 x.b):=Qa d.out 2 _ Z;have u:h.cell? ⟨X,3,none⟩=some (.int .i64 x.c):=Qa d.out 3 _ Z;have r:h.cell? ⟨X,4,none⟩=some (.int .i64 x.k):=Qa d.out 4 _ Z;have q:h.cell? ⟨X,5,none⟩=some (.int .i64 x.n):=Qa d.out 5 _ Z;have z:h.cell? ⟨X,6,none⟩=some (.slice f.pR x.regs.length f.cR):=Qa d.out 6 _ Z;have s:h.cell? ⟨X,7,none⟩=some (.slice f.pA x.args.length f.cA):=Qa d.out 7 _ Z;have C:=Qb (Z3 l.out x.n (by omega));clear A B u r z s;go_wp2_with fail
 refine C.out.mono ?_;rintro J F ⟨rfl,p⟩;have R:=Qb (XTo.then o.out Z Z p);clear p C q;go_wp2
 exact Xz (v:=.tuple #[]) (by simp[results,results71,go_sem]) Z (by rw[E.out];exact Qm.go R.out)
theorem Qlr (S:MAt w b most m M sc sa g) (I:Qaf n M){x:Qz}(f:IP) (j:x.op=3) :
 Calls prog 71 #[.pointer (some ⟨b,0,none⟩),.pointer (some ⟨g.t.c,0,none⟩),.agg (QZ x f)] w fun e w'=>Qm g w b most m M sc sa (IM.ins m aOp M x) e w':=by
 have E:Hid (IM.ins m aOp M x=if M.h.open_.2.1 then some (IM.push { M with h:=M.h.open_.2.2,top:={ M.top with r:=M.top.r++[M.h.open_.1.region] } } [M.h.open_.1]) else some (M.over 6)):=by show _=_;unfold IM.ins;simp[j]
 generalize IM.ins m aOp M x=J at E |-;have p:=Qb (QY w (.cells (QZ x f) 65));have d:=Qb (Qh w (QZ x f) 65);have P:=Qb S;have l:=Qb I;have s:=Qb (S.below p.out);have u:=Qb (S.stepB p.out);have N:=I.len;clear S I;go_enter func71,ntmps71
 go_upto_region 1 with fail
 generalize w.alloc (.cells (QZ x f) 65)=i at p d s u |-;generalize w.heap.size=X at d |-;have D:i.cell? ⟨X,0,none⟩=some (.int .i64 x.op):=Qa d.out 0 _ Z;rw[j] at D
 have G:i.cell? ⟨X,1,none⟩=some (.int .i64 x.a):=Qa d.out 1 _ Z;have H:i.cell? ⟨X,2,none⟩=some (.int .i64 x.b):=Qa d.out 2 _ Z;have B:i.cell? ⟨X,3,none⟩=some (.int .i64 x.c):=Qa d.out 3 _ Z;have z:i.cell? ⟨X,4,none⟩=some (.int .i64 x.k):=Qa d.out 4 _ Z;have y:i.cell? ⟨X,5,none⟩=some (.int .i64 x.n):=Qa d.out 5 _ Z;have F:i.cell? ⟨X,6,none⟩=some (.slice f.pR x.regs.length f.cR):=Qa d.out 6 _ Z;have A:i.cell? ⟨X,7,none⟩=some (.slice f.pA x.args.length f.cA):=Qa d.out 7 _ Z;have C:=Qb (QhG s.out l.out.hb l.out.hn' (by omega) l.out.regs);clear G H B z y F A;go_wp2_with fail
 refine C.out.mono ?_;rintro O L o;have q:=Qb (Qm.after u.out o);rcases o.cases with rfl | ⟨K,rfl⟩
 ·clear o C;go_wp2
  exact Xz (v:=.tuple #[]) (by simp[results,results71,go_sem]) Z (by rw[E.out];exact q.out)
 ·exact⟨Z,by rw[E.out];exact q.out⟩
theorem Qlb (S:MAt w b most m M sc sa g) (I:Qaf n M){x:Qz}(f:IP) (i:x.op=12) :
 Calls prog 71 #[.pointer (some ⟨b,0,none⟩),.pointer (some ⟨g.t.c,0,none⟩),.agg (QZ x f)] w fun e w'=>Qm g w b most m M sc sa (IM.ins m aOp M x) e w':=by
 have E:Hid (IM.ins m aOp M x=match M.inp with | []=>some (M.over 4) | n::l=>some (IM.push { M with inp:=l } [Qa8 n])):=by show _=_;unfold IM.ins;simp[i];cases M.inp<;>rfl
 generalize IM.ins m aOp M x=H at E |-;have o:=Qb (QY w (.cells (QZ x f) 65));have d:=Qb (Qh w (QZ x f) 65);have O:=Qb S;have B:=Qb I;have q:=Qb (S.below o.out);have r:=Qb (S.stepB o.out);have L:=I.len;clear S I;go_enter func71,ntmps71
 go_upto_region 1 with fail
 generalize w.alloc (.cells (QZ x f) 65)=h at o d q r |-;generalize w.heap.size=X at d |-;have A:h.cell? ⟨X,0,none⟩=some (.int .i64 x.op):=Qa d.out 0 _ Z;rw[i] at A
 have F:h.cell? ⟨X,1,none⟩=some (.int .i64 x.a):=Qa d.out 1 _ Z;have G:h.cell? ⟨X,2,none⟩=some (.int .i64 x.b):=Qa d.out 2 _ Z;have z:h.cell? ⟨X,3,none⟩=some (.int .i64 x.c):=Qa d.out 3 _ Z;have u:h.cell? ⟨X,4,none⟩=some (.int .i64 x.k):=Qa d.out 4 _ Z;have s:h.cell? ⟨X,5,none⟩=some (.int .i64 x.n):=Qa d.out 5 _ Z;have D:h.cell? ⟨X,6,none⟩=some (.slice f.pR x.regs.length f.cR):=Qa d.out 6 _ Z;have y:h.cell? ⟨X,7,none⟩=some (.slice f.pA x.args.length f.cA):=Qa d.out 7 _ Z;have C:=Qb (Qfj q.out B.out.inp (by omega));clear F G z u s D y;go_wp2_with fail
 refine C.out.mono ?_;rintro N K j;have p:=Qb (Qm.after r.out j);rcases j.cases with rfl | ⟨J,rfl⟩
 ·clear j C;go_wp2
  exact Xz (v:=.tuple #[]) (by simp[results,results71,go_sem]) Z (by rw[E.out];exact p.out)
 ·exact⟨Z,by rw[E.out];exact p.out⟩
theorem QlO (S:MAt w b most m M sc sa g) (I:Qaf n M){x:Qz}(h:IP) (i:x.op=8) (r:∀ wx,Below w.heap.size w wx->Calls prog 120 #[.pointer (some ⟨b,0,none⟩),.pointer (some ⟨g.t.c,0,none⟩),.int .i64 x.a,.int .i64 x.b] wx fun e w'=>Qm g wx b most m M sc sa (M.mem x) e w') :
 Calls prog 71 #[.pointer (some ⟨b,0,none⟩),.pointer (some ⟨g.t.c,0,none⟩),.agg (QZ x h)] w fun e w'=>Qm g w b most m M sc sa (IM.ins m aOp M x) e w':=by
 have E:Hid (IM.ins m aOp M x=M.mem x):=by show _=_;unfold IM.ins;simp[i]
 generalize IM.ins m aOp M x=F at E |-;have l:=Qb (QY w (.cells (QZ x h) 65));have d:=Qb (Qh w (QZ x h) 65);have N:=Qb S;have K:=Qb I;have y:=Qb (S.below l.out);have q:=Qb (S.stepB l.out);have J:=I.len;have j:=Qb r;clear r;clear S I;go_enter func71,ntmps71
 go_upto_region 1 with fail
 generalize w.alloc (.cells (QZ x h) 65)=f at l d y q |-;generalize w.heap.size=X at d |-;have B:f.cell? ⟨X,0,none⟩=some (.int .i64 x.op):=Qa d.out 0 _ Z;rw[i] at B
 have O:f.cell? ⟨X,1,none⟩=some (.int .i64 x.a):=Qa d.out 1 _ Z;have P:f.cell? ⟨X,2,none⟩=some (.int .i64 x.b):=Qa d.out 2 _ Z;have A:f.cell? ⟨X,3,none⟩=some (.int .i64 x.c):=Qa d.out 3 _ Z;have u:f.cell? ⟨X,4,none⟩=some (.int .i64 x.k):=Qa d.out 4 _ Z;have s:f.cell? ⟨X,5,none⟩=some (.int .i64 x.n):=Qa d.out 5 _ Z;have D:f.cell? ⟨X,6,none⟩=some (.slice h.pR x.regs.length h.cR):=Qa d.out 6 _ Z;have z:f.cell? ⟨X,7,none⟩=some (.slice h.pA x.args.length h.cA):=Qa d.out 7 _ Z;have C:=Qb (j.out f l.out);clear A u s D z j;go_wp2_with fail
 refine C.out.mono ?_;rintro L H o;have p:=Qb (Qm.after q.out o);rcases o.cases with rfl | ⟨G,rfl⟩
 ·clear o C;go_wp2
  exact Xz (v:=.tuple #[]) (by simp[results,results71,go_sem]) Z (by rw[E.out];exact p.out)
 ·exact⟨Z,by rw[E.out];exact p.out⟩
theorem QlE (S:MAt w b most m M sc sa g) (I:Qaf n M){x:Qz}(f:IP) (h:x.op=6) :
 Calls prog 71 #[.pointer (some ⟨b,0,none⟩),.pointer (some ⟨g.t.c,0,none⟩),.agg (QZ x f)] w fun e w'=>Qm g w b most m M sc sa (IM.ins m aOp M x) e w':=by
 have E:Hid (IM.ins m aOp M x=M.mem x):=by show _=_;unfold IM.ins;simp[h]
 generalize IM.ins m aOp M x=y at E |-;have l:=Qb (QY w (.cells (QZ x f) 65));have d:=Qb (Qh w (QZ x f) 65);have K:=Qb S;have u:=Qb I;have p:=Qb (S.below l.out);have q:=Qb (S.stepB l.out);have s:=I.len;clear S I;go_enter func71,ntmps71
 go_upto_region 1 with fail
 generalize w.alloc (.cells (QZ x f) 65)=i at l d p q |-;generalize w.heap.size=X at d |-;have r:i.cell? ⟨X,0,none⟩=some (.int .i64 x.op):=Qa d.out 0 _ Z;rw[h] at r
 have L:i.cell? ⟨X,1,none⟩=some (.int .i64 x.a):=Qa d.out 1 _ Z;have N:i.cell? ⟨X,2,none⟩=some (.int .i64 x.b):=Qa d.out 2 _ Z;have F:i.cell? ⟨X,3,none⟩=some (.int .i64 x.c):=Qa d.out 3 _ Z;have B:i.cell? ⟨X,4,none⟩=some (.int .i64 x.k):=Qa d.out 4 _ Z;have A:i.cell? ⟨X,5,none⟩=some (.int .i64 x.n):=Qa d.out 5 _ Z;have H:i.cell? ⟨X,6,none⟩=some (.slice f.pR x.regs.length f.cR):=Qa d.out 6 _ Z;have D:i.cell? ⟨X,7,none⟩=some (.slice f.pA x.args.length f.cA):=Qa d.out 7 _ Z;have C:=Qb (Qld p.out u.out f h);simp only[QZ,h] at C
 clear s;go_wp2_with fail
 refine C.out.mono ?_;rintro J G j;have o:=Qb (Qm.after q.out j);rcases j.cases with rfl | ⟨z,rfl⟩
 ·clear j C;go_wp2
  exact Xz (v:=.tuple #[]) (by simp[results,results71,go_sem]) Z (by rw[E.out];exact o.out)
 ·exact⟨Z,by rw[E.out];exact o.out⟩
theorem Qly (S:MAt w b most m M sc sa g) (I:Qaf n M){x:Qz}(f:IP) (h:x.op=7) :
 Calls prog 71 #[.pointer (some ⟨b,0,none⟩),.pointer (some ⟨g.t.c,0,none⟩),.agg (QZ x f)] w fun e w'=>Qm g w b most m M sc sa (IM.ins m aOp M x) e w':=by
 have E:Hid (IM.ins m aOp M x=M.mem x):=by show _=_;unfold IM.ins;simp[h]
 generalize IM.ins m aOp M x=y at E |-;have l:=Qb (QY w (.cells (QZ x f) 65));have d:=Qb (Qh w (QZ x f) 65);have K:=Qb S;have u:=Qb I;have p:=Qb (S.below l.out);have q:=Qb (S.stepB l.out);have s:=I.len;clear S I;go_enter func71,ntmps71
 go_upto_region 1 with fail
 generalize w.alloc (.cells (QZ x f) 65)=i at l d p q |-;generalize w.heap.size=X at d |-;have r:i.cell? ⟨X,0,none⟩=some (.int .i64 x.op):=Qa d.out 0 _ Z;rw[h] at r
 have L:i.cell? ⟨X,1,none⟩=some (.int .i64 x.a):=Qa d.out 1 _ Z;have N:i.cell? ⟨X,2,none⟩=some (.int .i64 x.b):=Qa d.out 2 _ Z;have F:i.cell? ⟨X,3,none⟩=some (.int .i64 x.c):=Qa d.out 3 _ Z;have B:i.cell? ⟨X,4,none⟩=some (.int .i64 x.k):=Qa d.out 4 _ Z;have A:i.cell? ⟨X,5,none⟩=some (.int .i64 x.n):=Qa d.out 5 _ Z;have H:i.cell? ⟨X,6,none⟩=some (.slice f.pR x.regs.length f.cR):=Qa d.out 6 _ Z;have D:i.cell? ⟨X,7,none⟩=some (.slice f.pA x.args.length f.cA):=Qa d.out 7 _ Z;have C:=Qb (QkO p.out u.out f h);simp only[QZ,h] at C
 clear s;go_wp2_with fail
 refine C.out.mono ?_;rintro J G j;have o:=Qb (Qm.after q.out j);rcases j.cases with rfl | ⟨z,rfl⟩
 ·clear j C;go_wp2
  exact Xz (v:=.tuple #[]) (by simp[results,results71,go_sem]) Z (by rw[E.out];exact o.out)
 ·exact⟨Z,by rw[E.out];exact o.out⟩
theorem QlP (S:MAt w b most m M sc sa g) (I:Qaf n M){x:Qz}(f:IP) (h:x.op=9) :
 Calls prog 71 #[.pointer (some ⟨b,0,none⟩),.pointer (some ⟨g.t.c,0,none⟩),.agg (QZ x f)] w fun e w'=>Qm g w b most m M sc sa (IM.ins m aOp M x) e w':=by
 have E:Hid (IM.ins m aOp M x=M.mem x):=by show _=_;unfold IM.ins;simp[h]
 generalize IM.ins m aOp M x=y at E |-;have l:=Qb (QY w (.cells (QZ x f) 65));have d:=Qb (Qh w (QZ x f) 65);have K:=Qb S;have u:=Qb I;have p:=Qb (S.below l.out);have q:=Qb (S.stepB l.out);have s:=I.len;clear S I;go_enter func71,ntmps71
 go_upto_region 1 with fail
 generalize w.alloc (.cells (QZ x f) 65)=i at l d p q |-;generalize w.heap.size=X at d |-;have r:i.cell? ⟨X,0,none⟩=some (.int .i64 x.op):=Qa d.out 0 _ Z;rw[h] at r
 have L:i.cell? ⟨X,1,none⟩=some (.int .i64 x.a):=Qa d.out 1 _ Z;have N:i.cell? ⟨X,2,none⟩=some (.int .i64 x.b):=Qa d.out 2 _ Z;have F:i.cell? ⟨X,3,none⟩=some (.int .i64 x.c):=Qa d.out 3 _ Z;have B:i.cell? ⟨X,4,none⟩=some (.int .i64 x.k):=Qa d.out 4 _ Z;have A:i.cell? ⟨X,5,none⟩=some (.int .i64 x.n):=Qa d.out 5 _ Z;have H:i.cell? ⟨X,6,none⟩=some (.slice f.pR x.regs.length f.cR):=Qa d.out 6 _ Z;have D:i.cell? ⟨X,7,none⟩=some (.slice f.pA x.args.length f.cA):=Qa d.out 7 _ Z;have C:=Qb (QkR p.out u.out f h);simp only[QZ,h] at C
 clear s;go_wp2_with fail
 refine C.out.mono ?_;rintro J G j;have o:=Qb (Qm.after q.out j);rcases j.cases with rfl | ⟨z,rfl⟩
 ·clear j C;go_wp2
  exact Xz (v:=.tuple #[]) (by simp[results,results71,go_sem]) Z (by rw[E.out];exact o.out)
 ·exact⟨Z,by rw[E.out];exact o.out⟩
theorem Qk3 (S:MAt w b most m M sc sa g) (I:Qaf n M){x:Qz}(f:IP) (h:x.op=10) :
 Calls prog 71 #[.pointer (some ⟨b,0,none⟩),.pointer (some ⟨g.t.c,0,none⟩),.agg (QZ x f)] w fun e w'=>Qm g w b most m M sc sa (IM.ins m aOp M x) e w':=by
 have E:Hid (IM.ins m aOp M x=M.mem x):=by show _=_;unfold IM.ins;simp[h]
 generalize IM.ins m aOp M x=y at E |-;have l:=Qb (QY w (.cells (QZ x f) 65));have d:=Qb (Qh w (QZ x f) 65);have K:=Qb S;have u:=Qb I;have p:=Qb (S.below l.out);have q:=Qb (S.stepB l.out);have s:=I.len;clear S I;go_enter func71,ntmps71
 go_upto_region 1 with fail
 generalize w.alloc (.cells (QZ x f) 65)=i at l d p q |-;generalize w.heap.size=X at d |-;have r:i.cell? ⟨X,0,none⟩=some (.int .i64 x.op):=Qa d.out 0 _ Z;rw[h] at r
 have L:i.cell? ⟨X,1,none⟩=some (.int .i64 x.a):=Qa d.out 1 _ Z;have N:i.cell? ⟨X,2,none⟩=some (.int .i64 x.b):=Qa d.out 2 _ Z;have F:i.cell? ⟨X,3,none⟩=some (.int .i64 x.c):=Qa d.out 3 _ Z;have B:i.cell? ⟨X,4,none⟩=some (.int .i64 x.k):=Qa d.out 4 _ Z;have A:i.cell? ⟨X,5,none⟩=some (.int .i64 x.n):=Qa d.out 5 _ Z;have H:i.cell? ⟨X,6,none⟩=some (.slice f.pR x.regs.length f.cR):=Qa d.out 6 _ Z;have D:i.cell? ⟨X,7,none⟩=some (.slice f.pA x.args.length f.cA):=Qa d.out 7 _ Z;have C:=Qb (QjZ p.out u.out f h);simp only[QZ,h] at C
 clear s;go_wp2_with fail
 refine C.out.mono ?_;rintro J G j;have o:=Qb (Qm.after q.out j);rcases j.cases with rfl | ⟨z,rfl⟩
 ·clear j C;go_wp2
  exact Xz (v:=.tuple #[]) (by simp[results,results71,go_sem]) Z (by rw[E.out];exact o.out)
 ·exact⟨Z,by rw[E.out];exact o.out⟩
theorem Qkv (S:MAt w b most m M sc sa g) (I:Qaf n M){x:Qz}(f:IP) (h:x.op=11) :
 Calls prog 71 #[.pointer (some ⟨b,0,none⟩),.pointer (some ⟨g.t.c,0,none⟩),.agg (QZ x f)] w fun e w'=>Qm g w b most m M sc sa (IM.ins m aOp M x) e w':=by
 have E:Hid (IM.ins m aOp M x=M.mem x):=by show _=_;unfold IM.ins;simp[h]
 generalize IM.ins m aOp M x=y at E |-;have l:=Qb (QY w (.cells (QZ x f) 65));have d:=Qb (Qh w (QZ x f) 65);have K:=Qb S;have u:=Qb I;have p:=Qb (S.below l.out);have q:=Qb (S.stepB l.out);have s:=I.len;clear S I;go_enter func71,ntmps71
 go_upto_region 1 with fail
 generalize w.alloc (.cells (QZ x f) 65)=i at l d p q |-;generalize w.heap.size=X at d |-;have r:i.cell? ⟨X,0,none⟩=some (.int .i64 x.op):=Qa d.out 0 _ Z;rw[h] at r
 have L:i.cell? ⟨X,1,none⟩=some (.int .i64 x.a):=Qa d.out 1 _ Z;have N:i.cell? ⟨X,2,none⟩=some (.int .i64 x.b):=Qa d.out 2 _ Z;have F:i.cell? ⟨X,3,none⟩=some (.int .i64 x.c):=Qa d.out 3 _ Z;have B:i.cell? ⟨X,4,none⟩=some (.int .i64 x.k):=Qa d.out 4 _ Z;have A:i.cell? ⟨X,5,none⟩=some (.int .i64 x.n):=Qa d.out 5 _ Z;have H:i.cell? ⟨X,6,none⟩=some (.slice f.pR x.regs.length f.cR):=Qa d.out 6 _ Z;have D:i.cell? ⟨X,7,none⟩=some (.slice f.pA x.args.length f.cA):=Qa d.out 7 _ Z;have C:=Qb (Qju p.out u.out f h);simp only[QZ,h] at C
 clear s;go_wp2_with fail
 refine C.out.mono ?_;rintro J G j;have o:=Qb (Qm.after q.out j);rcases j.cases with rfl | ⟨z,rfl⟩
 ·clear j C;go_wp2
  exact Xz (v:=.tuple #[]) (by simp[results,results71,go_sem]) Z (by rw[E.out];exact o.out)
 ·exact⟨Z,by rw[E.out];exact o.out⟩
theorem QkI (S:MAt w b most m M sc sa g) (I:Qaf n M){x:Qz}(d:IP) (i:x.op=14) (A:M.rest.length<=39)(q:x.k=(k:Int)){fn:Qe 6}{bl:Qk 6}(B:m[k]?=some fn) (hb:fn.blocks[0]?=some bl) (F:bl.regs=fn.regs) (z:bl.params=fn.params) (s:m.length<=1000/\fn.blocks.length<=1000/\bl.params.length<=1000)
  (y:intsL.In w Q2 x.regs [.slice d.pR x.regs.length d.cR]) (D:intsL.In w Q2 x.args [.slice d.pA x.args.length d.cA]) (hn:x.regs.length<=1000/\x.args.length<=1000) :
 Calls prog 71 #[.pointer (some ⟨b,0,none⟩),.pointer (some ⟨g.t.c,0,none⟩),.agg (QZ x d)] w fun e w'=>Qa1 g w b most m M sc sa (IM.ins m aOp M x) e w':=by
 have E:Hid (IM.ins m aOp M x=M.call m x):=by show _=_;unfold IM.ins;simp[i]
 generalize IM.ins m aOp M x=J at E |-;have j:=Qb (QY w (.cells (QZ x d) 65));have f:=Qb (Qh w (QZ x d) 65);have V:=Qb S;have R:=Qb I;have r:=Qb (S.below j.out);have u:=Qb (S.stepB j.out);have H:=I.len;have l:=Qb (Qhl r.out I A d q B hb F z s (Ya y j.out) (Ya D j.out) hn);clear B hb F z s y D hn q A;clear S I;go_enter func71,ntmps71
 go_upto_region 1 with fail
 generalize w.alloc (.cells (QZ x d) 65)=h at j f r u l |-;generalize w.heap.size=X at f |-;have G:h.cell? ⟨X,0,none⟩=some (.int .i64 x.op):=Qa f.out 0 _ Z;rw[i] at G
 have W:h.cell? ⟨X,1,none⟩=some (.int .i64 x.a):=Qa f.out 1 _ Z;have x2:h.cell? ⟨X,2,none⟩=some (.int .i64 x.b):=Qa f.out 2 _ Z;have P:h.cell? ⟨X,3,none⟩=some (.int .i64 x.c):=Qa f.out 3 _ Z;have N:h.cell? ⟨X,4,none⟩=some (.int .i64 x.k):=Qa f.out 4 _ Z;have L:h.cell? ⟨X,5,none⟩=some (.int .i64 x.n):=Qa f.out 5 _ Z;have T:h.cell? ⟨X,6,none⟩=some (.slice d.pR x.regs.length d.cR):=Qa f.out 6 _ Z;have O:h.cell? ⟨X,7,none⟩=some (.slice d.pA x.args.length d.cA):=Qa f.out 7 _ Z;have C:=Qb (l.out);simp only[QZ,i] at C
 clear H l;go_wp2_with fail
 refine C.out.mono ?_;rintro U Q o;have p:=Qb (Qa1.after u.out o);rcases o.cases with rfl | ⟨K,rfl⟩
 ·clear o C;go_wp2
  exact Xz (v:=.tuple #[]) (by simp[results,results71,go_sem]) Z (by rw[E.out];exact p.out)
 ·exact⟨Z,by rw[E.out];exact p.out⟩
theorem QkJ (S:MAt w b most m M sc sa g) (I:Qaf n M){x:Qz}(h:IP) (l:x.op=13) :
 Calls prog 71 #[.pointer (some ⟨b,0,none⟩),.pointer (some ⟨g.t.c,0,none⟩),.agg (QZ x h)] w fun e w'=>Qm g w b most m M sc sa (IM.ins m aOp M x) e w':=by
 have E:Hid (IM.ins m aOp M x=match Qt M.top.v x.a with | none=>none | some n=>if M.out.length=2000 then some (M.over 8) else some { M with out:=M.out++[n] }):=by show _=_;unfold IM.ins;simp[l];cases Qt M.top.v x.a<;>rfl
 generalize IM.ins m aOp M x=A at E |-;have o:=Qb (QY w (.cells (QZ x h) 65));have d:=Qb (Qh w (QZ x h) 65);have P:=Qb S;have N:=Qb I;have p:=Qb (S.below o.out);have B:=Qb (S.stepB o.out);have W:=I.len;clear S I;go_enter func71,ntmps71
 go_upto_region 1 with fail
 generalize w.alloc (.cells (QZ x h) 65)=f at o d p B |-;generalize w.heap.size=X at d |-;have L:f.cell? ⟨X,0,none⟩=some (.int .i64 x.op):=Qa d.out 0 _ Z;rw[l] at L
 have Q:f.cell? ⟨X,1,none⟩=some (.int .i64 x.a):=Qa d.out 1 _ Z;have T:f.cell? ⟨X,2,none⟩=some (.int .i64 x.b):=Qa d.out 2 _ Z;have K:f.cell? ⟨X,3,none⟩=some (.int .i64 x.c):=Qa d.out 3 _ Z;have H:f.cell? ⟨X,4,none⟩=some (.int .i64 x.k):=Qa d.out 4 _ Z;have G:f.cell? ⟨X,5,none⟩=some (.int .i64 x.n):=Qa d.out 5 _ Z;have O:f.cell? ⟨X,6,none⟩=some (.slice h.pR x.regs.length h.cR):=Qa d.out 6 _ Z;have J:f.cell? ⟨X,7,none⟩=some (.slice h.pA x.args.length h.cA):=Qa d.out 7 _ Z;have C:=Qb (ZC p.out.top (by omega) x.a);clear T K H G O J;go_upto_region 22 with fail
 cases hq:Qt M.top.v x.a with
 | none =>
   rw[hq] at C E
   go_wp2_with fail
   refine C.out.mono ?_;rintro s D ⟨i,j⟩;have i:s=.panicked stuckP:=i;subst i;exact⟨Z,by rw[E.out];exact Qm.stuck (XTo.same P.out (o.out.trans (j.mono o.out.size)))⟩
 | some q =>
   rw[hq] at C E
   have y:Hid (A=if M.out.length=2000 then some (M.over 8) else some { M with out:=M.out++[q] }):=E.out;have u:Hid (∀ r,Below f.heap.size f r->Calls prog 122 #[.pointer (some ⟨b,0,none⟩),.int .i64 q] r fun e w'=>Qm g r b most m M sc sa (if M.out.length=2000 then some (M.over 8) else some { M with out:=M.out++[q] }) e w'):=fun r R=>QeM (p.out.below R) q N.out.out;clear E;generalize (if M.out.length=2000 then some (M.over 8) else some { M with out:=M.out++[q] })=U at y u;go_wp2_with (go_at_call 108;refine C.out.mono ?_;rintro s D ⟨i,j⟩;have i:s=.returned (.int .i64 q):=i;subst i)
   refine(u.out D j).mono ?_
   rintro s w6 z;have F:=Qb (Qm.after (B.out.trans (p.out.stepB j)) z);rcases z.cases with rfl | ⟨V,rfl⟩
   ·clear z C u j Q;go_wp2
    exact Xz (v:=.tuple #[]) (by simp[results,results71,go_sem]) Z (by rw[y.out];exact F.out)
   ·exact⟨Z,by rw[y.out];exact F.out⟩
theorem Qlp (S:MAt w b most m M sc sa g) (I:Qaf n M){x:Qz}(i:IP) (s:x.op=2) :
 Calls prog 71 #[.pointer (some ⟨b,0,none⟩),.pointer (some ⟨g.t.c,0,none⟩),.agg (QZ x i)] w fun e w'=>Qm g w b most m M sc sa (IM.ins m aOp M x) e w':=by
 have E:Hid (IM.ins m aOp M x=match Qt M.top.v x.a with | none=>none | some a=>match Qt M.top.v x.b with | none=>none | some b=>match aOp x.k a b with | none=>some (M.over 1) | some n=>some (M.push [Qa8 n])):=by show _=_;unfold IM.ins;simp[s];cases Qt M.top.v x.a with | none=>rfl | some a=>(simp only;cases Qt M.top.v x.b with | none=>rfl | some b=>(simp only;cases aOp x.k a b<;>rfl))
 generalize IM.ins m aOp M x=u at E |-;have j:=Qb (QY w (.cells (QZ x i) 65));have h:=Qb (Qh w (QZ x i) 65);have D:=Qb S;have HI:=Qb I;have B:=Qb (S.below j.out);have Q:=Qb (S.stepB j.out);have hl:=I.len;clear S I;go_enter func71,ntmps71
 go_upto_region 1 with fail
 generalize w.alloc (.cells (QZ x i) 65)=d at j h B Q |-;generalize w.heap.size=X at h |-;have U:d.cell? ⟨X,0,none⟩=some (.int .i64 x.op):=Qa h.out 0 _ Z;rw[s] at U
 have x1:d.cell? ⟨X,1,none⟩=some (.int .i64 x.a):=Qa h.out 1 _ Z;have x2:d.cell? ⟨X,2,none⟩=some (.int .i64 x.b):=Qa h.out 2 _ Z;have x3:d.cell? ⟨X,3,none⟩=some (.int .i64 x.c):=Qa h.out 3 _ Z;have P:d.cell? ⟨X,4,none⟩=some (.int .i64 x.k):=Qa h.out 4 _ Z;have x5:d.cell? ⟨X,5,none⟩=some (.int .i64 x.n):=Qa h.out 5 _ Z;have x6:d.cell? ⟨X,6,none⟩=some (.slice i.pR x.regs.length i.cR):=Qa h.out 6 _ Z;have x7:d.cell? ⟨X,7,none⟩=some (.slice i.pA x.args.length i.cA):=Qa h.out 7 _ Z;have V:Hid (∀ f,Below d.heap.size d f->Calls prog 108 #[.pointer (some ⟨g.t.c,0,none⟩),.int .i64 x.a] f fun e w'=>Ask (Qt M.top.v x.a) (.int .i64) e/\Below f.heap.size f w'):=fun f L=>ZC (B.out.top.below L) (by omega) x.a;have T:Hid (∀ f,Below d.heap.size d f->Calls prog 108 #[.pointer (some ⟨g.t.c,0,none⟩),.int .i64 x.b] f fun e w'=>Ask (Qt M.top.v x.b) (.int .i64) e/\Below f.heap.size f w'):=fun f L=>ZC (B.out.top.below L) (by omega) x.b;go_upto_region 6 with fail
 refine in6 x1 x2 P V T _ _ Z (Xg (by kernel_rfl)) Z Z Z ?_ ?_
 ·rintro ch a' w9 H ⟨rfl,K,F⟩;refine⟨H,?_⟩
  have E3:u=none:=by
   rw[E.out]
   rcases K with N | N
   ·rw[N]
   ·cases Qt M.top.v x.a with
    | none=>rfl
    | some y=>simp only;rw[N]
  rw[E3]
  exact Qm.stuck (XTo.same D.out (j.out.trans (F.mono j.out.size)))
 ·rintro vs w9 ⟨y,z,O,J,l⟩ ⟨y',z',o,p,A⟩ F;rw[O] at o
  cases o
  rw[J] at p
  cases p
  simp only[QT,Act.put,List.setIfInBounds_toArray,List.set_cons_zero,List.set_cons_succ,l,A]
  have C:Hid (u=match aOp x.k y z with | none=>some (M.over 1) | some n=>some (M.push [Qa8 n])):=by show _=_;rw[E.out,O];simp only;rw[J]
  have G:=Qb (j.out.trans (F.mono j.out.size));have S9:=Qb (D.out.below G.out);have T9:=Qb (D.out.stepB G.out);clear l A O J F E V T U x1 x2 x3 P x5 x6 x7 B j h Q
  cases ho:aOp x.k y z with
  | none =>
    rw[ho] at C
    simp only[Option.isSome_none,Option.getD_none]
    go_wp2_with fail
    refine(QaG _ _).mono ?_
    rintro W w' ⟨rfl,r⟩;subst r;exact⟨Z,by rw[C.out];exact Qm.end_ (XTo.same D.out G.out)⟩
  | some q =>
    rw[ho] at C
    simp only[Option.isSome_some,Option.getD_some]
    have CM:=Qb (Z3 S9.out q (by omega));go_wp2_with (go_at_call 67;refine(QaY _ _).mono ?_;rintro W w' ⟨rfl,r⟩;have r:=r.symm;subst r)
    refine CM.out.mono ?_;rintro W w6 ⟨rfl,h6⟩;have R:=Qb (XTo.then T9.out Z Z h6);clear h6 CM;go_wp2
    exact Xz (v:=.tuple #[]) (by simp[results,results71,go_sem]) Z (by rw[C.out];exact Qm.go R.out)
theorem QlJ (S:MAt w b most m M sc sa g) (I:Qaf n M){x:Qz}(j:IP) (q:x.op=4) :
 Calls prog 71 #[.pointer (some ⟨b,0,none⟩),.pointer (some ⟨g.t.c,0,none⟩),.agg (QZ x j)] w fun e w'=>Qm g w b most m M sc sa (IM.ins m aOp M x) e w':=by
 have E:Hid (IM.ins m aOp M x=match QA M.top.v x.a with | none=>none | some a=>if (M.h.shut a).1 then some { M with h:=(M.h.shut a).2 } else none):=by show _=_;unfold IM.ins;simp[q];unfold IM.mem;cases QA M.top.v x.a<;>simp[q]
 generalize IM.ins m aOp M x=K at E |-;have o:=Qb (QY w (.cells (QZ x j) 65));have d:=Qb (Qh w (QZ x j) 65);have H:=Qb S;have W:=Qb I;have z:=Qb (S.below o.out);have P:=Qb (S.stepB o.out);have hl:=I.len;clear S I;go_enter func71,ntmps71
 go_upto_region 1 with fail
 generalize w.alloc (.cells (QZ x j) 65)=f at o d z P |-;generalize w.heap.size=X at d |-;have T:f.cell? ⟨X,0,none⟩=some (.int .i64 x.op):=Qa d.out 0 _ Z;rw[q] at T
 have x1:f.cell? ⟨X,1,none⟩=some (.int .i64 x.a):=Qa d.out 1 _ Z;have x2:f.cell? ⟨X,2,none⟩=some (.int .i64 x.b):=Qa d.out 2 _ Z;have x3:f.cell? ⟨X,3,none⟩=some (.int .i64 x.c):=Qa d.out 3 _ Z;have x4:f.cell? ⟨X,4,none⟩=some (.int .i64 x.k):=Qa d.out 4 _ Z;have x5:f.cell? ⟨X,5,none⟩=some (.int .i64 x.n):=Qa d.out 5 _ Z;have x6:f.cell? ⟨X,6,none⟩=some (.slice j.pR x.regs.length j.cR):=Qa d.out 6 _ Z;have x7:f.cell? ⟨X,7,none⟩=some (.slice j.pA x.args.length j.cA):=Qa d.out 7 _ Z;have CV:Hid (∀ r,Below f.heap.size f r->Calls prog 115 #[.pointer (some ⟨g.t.c,0,none⟩),.int .i64 x.a] r fun e w'=>Ask (QA M.top.v x.a) QF e/\Below r.heap.size r w'):=fun r bx=>ZQ (z.out.top.below bx) (by omega) x.a;have V:=z.out.heapC;go_upto_region 12 with fail
 refine Qmx V x1 CV _ _ Z (Xg (by kernel_rfl)) Z Z Z ?_ ?_
 ·rintro ch a' w9 D ⟨rfl,J,b9⟩;refine⟨D,?_⟩
  rw[E.out,J]
  exact Qm.stuck (XTo.same H.out (o.out.trans (b9.mono o.out.size)))
 ·rintro F vs U i ⟨y,L,l⟩ Q;show wpList _ F _ [_,_] (QT _ vs [50,51,52,53,54,55,56,57]) U;simp only[QT,Act.put,List.setIfInBounds_toArray,List.set_cons_zero,List.set_cons_succ,i,l]
  have A:Hid (K=if (M.h.shut y).1 then some { M with h:=(M.h.shut y).2 } else none):=by show _=_;rw[E.out,L]
  have B5:=Qb (o.out.trans (Q.mono o.out.size));have N:=Qb (H.out.below B5.out);have B:=Qb (W.out.shut N.out.heap (W.out.val L).1);have C:=Qb (QgA (h:=M.h) (v:=y));clear i l L Q E CV V T x1 x2 x3 x4 x5 x6 x7 z o d P;generalize M.h.shut y=st at A B C;obtain⟨cd,sh⟩:=st
  simp only at A B C
  have RR:=Qb (fun u (p:HTo U u g.bh g.O sh)=>XTo.then (H.out.stepB B5.out) Z Z (N.out.toHeap p))
  cases cd with
  | true =>
    go_wp2_with (first | (go_at_call 114;refine B.out.mono ?_;rintro G u ⟨rfl,p⟩;have R:=Qb (RR.out u p);clear p) | (go_at_call 113;refine(ZB _).mono ?_;rintro G w' ⟨rfl,s⟩;have s:=s.symm;subst s))
    exact Xz (v:=.tuple #[]) (by simp[results,results71,go_sem]) Z (by rw[A.out];exact Qm.go R.out)
  | false =>
    go_wp2_with (go_at_call 114;refine B.out.mono ?_;rintro G u ⟨rfl,p⟩;have R:=Qb (RR.out u p);clear p)
    refine(Zf _).mono ?_
    rintro G w' ⟨rfl,s⟩;subst s;exact⟨Z,by rw[A.out];exact Qm.stuck (by have:=R.out;rw[C.out (by first | rfl | trivial)] at this;exact this)⟩
theorem QlB (S:MAt w b most m M sc sa g) (I:Qaf n M){x:Qz}(i:IP) (C:x.op=5)(hA:intsL.In w Q2 x.args [.slice i.pA x.args.length i.cA]) (hn:x.args.length<=1000) :
 Calls prog 71 #[.pointer (some ⟨b,0,none⟩),.pointer (some ⟨g.t.c,0,none⟩),.agg (QZ x i)] w fun e w'=>Qm g w b most m M sc sa (IM.ins m aOp M x) e w':=by
 have E:Hid (IM.ins m aOp M x=match QA M.top.v x.a with | none=>none | some a=>match Qp M.top.v x.args with | none=>none | some l=>M.got (M.h.tuple a l)):=by show _=_;unfold IM.ins;simp[C];unfold IM.mem;cases QA M.top.v x.a with | none=>rfl | some a=>(simp[C];cases Qp M.top.v x.args<;>rfl)
 generalize IM.ins m aOp M x=p at E |-;have D:=Qb (QY w (.cells (QZ x i) 65));have q:=Qb (Qh w (QZ x i) 65);have HS:=Qb S;have HI:=Qb I;have s:=Qb (S.below D.out);have T1:=Qb (S.stepB D.out);have hl:=I.len;have HA:=Qb (Ya hA D.out);clear hA;clear S I;go_enter func71,ntmps71
 go_upto_region 1 with fail
 generalize w.alloc (.cells (QZ x i) 65)=f at D q s T1 HA |-;generalize w.heap.size=X at q |-;have x0:f.cell? ⟨X,0,none⟩=some (.int .i64 x.op):=Qa q.out 0 _ Yz;rw[C] at x0
 have x1:f.cell? ⟨X,1,none⟩=some (.int .i64 x.a):=Qa q.out 1 _ Yz;have x2:f.cell? ⟨X,2,none⟩=some (.int .i64 x.b):=Qa q.out 2 _ Yz;have x3:f.cell? ⟨X,3,none⟩=some (.int .i64 x.c):=Qa q.out 3 _ Yz;have x4:f.cell? ⟨X,4,none⟩=some (.int .i64 x.k):=Qa q.out 4 _ Yz;have x5:f.cell? ⟨X,5,none⟩=some (.int .i64 x.n):=Qa q.out 5 _ Yz;have x6:f.cell? ⟨X,6,none⟩=some (.slice i.pR x.regs.length i.cR):=Qa q.out 6 _ Yz;have x7:f.cell? ⟨X,7,none⟩=some (.slice i.pA x.args.length i.cA):=Qa q.out 7 _ Yz;have CV:Hid (∀ d,Below f.heap.size f d->Calls prog 115 #[.pointer (some ⟨g.t.c,0,none⟩),.int .i64 x.a] d fun e w'=>Ask (QA M.top.v x.a) QF e/\Below d.heap.size d w'):=fun d J=>ZQ (s.out.top.below J) (by omega) x.a;have CL:Hid (∀ d,Below f.heap.size f d->Calls prog 117 #[.pointer (some ⟨g.t.c,0,none⟩),.slice i.pA x.args.length i.cA] d fun e w'=>Qb1 d (Qp M.top.v x.args) x.args.length e w'):=fun d J=>QdQ (s.out.top.below J) (by omega) Yz (by omega) (Ya HA.out J)
 have CT:Hid (∀ y u g7 d,QA M.top.v x.a=some y->Qp M.top.v x.args=some u->f.heap.size<=g7->d.rowIs g7 183 (x.args.length*4) (Q7 u)->Below f.heap.size f d->Calls prog 116 #[.pointer (some ⟨g.bh,0,none⟩),QF y,.slice (some ⟨g7,0,none⟩) x.args.length x.args.length] d fun e w'=>e=.returned (.tuple #[QF (M.h.tuple y u).1,.int .i64 (M.h.tuple y u).2.1])/\HTo d w' g.bh g.O (M.h.tuple y u).2.2):=fun y u g7 d W F ag Q J=>by
  have T:=Q1 _ _ F;refine HI.out.tup (s.out.heap.below J) (HI.out.val W).1 T (by omega) (fun v hv=>HI.out.gd v (QbU F v hv)) ?_ (fun g0 o0 e0 hO=>?_)
  ·have:=(Qgu.of T (by omega) Q).form
   obtain⟨a9,c9,e9,o⟩:=this
   rw[Value.slice.injEq] at e9
   rw[<-e9.1] at o
   exact o
  ·injection e0 with e0
   injection e0 with e0
   subst e0
   have:=s.out.heap.lt _ hO
   omega
 have q0:=s.out.heapC;go_upto_region 14 with fail
 refine Qmi (OO:=g.O) (h:=M.h) (s.out.heap.lt) q0 x1 x7 CV CL CT (Qfx _ _ _ _ s.out.heap.lt) _ _ Yz (Xg (by kernel_rfl)) Yz Yz Yz ?_ ?_
 ·rintro ch a' A ac ⟨rfl,ad,b9⟩;refine⟨ac,?_⟩
  have B:p=none:=by
   rw[E.out]
   rcases ad with j | j
   ·rw[j]
   ·cases QA M.top.v x.a with
    | none=>rfl
    | some y=>simp only;rw[j]
  rw[B]
  exact Qm.stuck (XTo.same HS.out (D.out.trans (b9.mono D.out.size)))
 ·rintro vs A ⟨y,u,W,F,o⟩ ⟨Z,P,hZ,⟨r,⟨y',af,U,N,hr⟩,z⟩,-⟩ ⟨h9,⟨y2,ae,ab,aa,hh⟩,t9⟩;rw[W] at U ab
  cases U
  cases ab
  rw[F] at N aa
  cases N
  cases aa
  simp only[QT,Act.put,List.setIfInBounds_toArray,List.set_cons_zero,List.set_cons_succ,o,P]
  have H:Hid (p=M.got (M.h.tuple y u)):=by show _=_;rw[E.out,W];simp only;rw[F]
  subst hr;subst hh;have G:=Qb (XTo.then T1.out Yz Yz (s.out.toHeap t9));have SM:=Qb (Qf8 (h:=M.h) (v:=y) (l:=u));have Y:=Qb z;clear o P W F z t9 E CV CL CT q0 x0 x1 x2 x3 x4 x5 x6 x7 s D q T1 HA;generalize M.h.tuple y u=tu at H G SM Y |-;obtain⟨⟨L,K,rt,V⟩,cd,th⟩:=tu
  simp only at H G SM Y |-
  go_upto_region 15 with fail
  go_wp2_with fail
  refine(QaE _ _ _ _).mono ?_
  rintro e' w' ⟨hw,ha⟩;have hw:=hw.symm;subst hw;rcases ha with ⟨j,rfl⟩|⟨j,h1,rfl⟩|⟨j,h1,rfl⟩
  rotate_left
  ·have B:p=some (M.over 6):=by rw[H.out];unfold IM.got;rw[Xs h1]
   exact⟨Yz,by rw[B];exact Qm.end_ (by have:=G.out;rw[SM.out j] at this;exact this)⟩
  ·have B:p=none:=by rw[H.out];unfold IM.got;rw[Xr h1,Xr j]
   exact⟨Yz,by rw[B];exact Qm.stuck (by have:=G.out;rw[SM.out j] at this;exact this)⟩
  have B:Hid (p=some (IM.push { M with h:=th } [⟨L,K,rt,V⟩])):=by show _=_;rw[H.out];unfold IM.got;simp only;rw[Xr (by omega),Xs j]
  obtain⟨g5,S5,T5,c5,f5⟩:=G.out
  have y0:A.cell? ⟨Z,0,none⟩=some (.int .i64 L):=Qa Y.out 0 _ Yz;have y1:A.cell? ⟨Z,1,none⟩=some (.int .i64 K):=Qa Y.out 1 _ Yz;have y2:A.cell? ⟨Z,2,none⟩=some (.int .i64 rt):=Qa Y.out 2 _ Yz;have y3:A.cell? ⟨Z,3,none⟩=some (.int .i64 V):=Qa Y.out 3 _ Yz;have B5:=QY A (.cells #[.int .i64 L,.int .i64 K,.int .i64 rt,.int .i64 V] 183);have CM:=Qb (fun cp=>ZM (S5.below B5) (l:=[⟨L,K,rt,V⟩]) (cp:=cp) Yz (Qf7 A L K rt V) (by show M.top.v.length+1<=1000000;omega));rw[c5] at CM
  have T6:=Qb (T5.trans (S5.stepB B5));have HC:=Qb (Xh c5 f5);clear B5 Y j H S5 T5 G SM c5 f5;go_wp2_with fail
  refine(CM.out _).mono ?_
  rintro e' w6 ⟨rfl,h6⟩;have R:=Qb (XTo.then T6.out HC.out.1 HC.out.2 h6);clear h6 CM T6 y0 y1 y2 y3;go_wp2
  exact Xz (v:=.tuple #[]) (by simp[results,results71,go_sem]) Yz (by rw[B.out];exact Qm.go R.out)
end
def HGd (h:Qc):Prop:=∀ (k:Nat) (p:Qi) (i:Nat) (t:Qq) (v:Qj),h.L[k]?=some p->p.l[i]?=some t->v∈t.l->gdV v
theorem gd_no:gdV noV:=⟨by unfold Qj.ok Zh noV;decide,Z⟩
theorem one64:Zh 1:=by unfold Zh;decide
theorem two64:Zh 2:=by unfold Zh;decide
theorem zero64:Zh 0:=by unfold Zh;decide
theorem QbT {n:Int}(h:Zh n):gdV (Qa8 n):=⟨⟨one64,zero64,zero64,h⟩,Z⟩
section
variable {h:Qc}{n:Nat}
theorem HGd.new (n:Nat):HGd (Qc.new n):=fun k p i t v h=>by simp[Qc.new] at h
theorem HGd.open (G:HGd h):HGd h.open_.2.2:=by
 unfold Qc.open_;split
 ·exact G
 ·intro k p i t v a c e;simp only at a
  rcases Nat.lt_or_ge k h.L.length with b | b
  ·rw[XP b] at a;exact G k p i t v a c e
  ·rw[XQ b] at a
   have:=(Zi a).1
   have d:k - h.L.length=0:=by simp at this;omega
   rw[d] at a
   simp at a
   subst a;simp[newP] at c
theorem HGd.shut (G:HGd h) (v:Qj):HGd (h.shut v).2:=by
 unfold Qc.shut
 cases h.at v with
 | none=>exact G
 | some p =>
   intro k q i t u a b c;simp only at a
   rcases Qbd a with rfl | a
   ·simp[noP] at b
   ·exact G k q i t u a b c
theorem HGd.put (G:HGd h) (v:Qj){t:Qq}(g:∀ u∈t.l,gdV u) (words:Int):HGd (h.put v t words).2.2:=by
 unfold Qc.put
 cases ha:h.at v with
 | none=>exact G
 | some p =>
   simp only
   split
   ·exact G
   ·intro k q i u x b a c;simp only at b
    rcases Qbd b with rfl | b
    ·have m:(p.more t words).l=p.l++[t]:=by unfold Qi.more;split<;>rfl
     rw[m] at a
     obtain⟨-,-,e,-,f,-⟩:=Qc.at_some ha
     rcases Nat.lt_or_ge i p.l.length with d | d
     ·rw[XP d] at a;exact G e p i u x f a c
     ·rw[XQ d] at a
      have:=(Zi a).1
      have j:i - p.l.length=0:=by simp at this;omega
      rw[j] at a
      simp at a
      subst a;exact g x c
    ·exact G k q i u x b a c
theorem HGd.set (G:HGd h) (v:Qj) (k:Int){x:Qj}(r:gdV x):HGd (h.set v k x).2:=by
 unfold Qc.set;split
 ·rename_i t p o n
  split
  ·exact G
  split
  ·exact G
  intro j q i u y f a m;simp only at f
  obtain⟨-,s,d,w,c,-⟩:=Qc.thing_iff.1 o
  rw[n] at d
  cases d
  have b:=(Qc.place_some n).2.1;rcases Qbd f with rfl | f
  ·simp only at a
   by_cases e:i=v.thing.toNat
   ·subst e;have g:=(Zi c).1;simp[g] at a
    subst a;rcases List.mem_or_eq_of_mem_set m with l | l
    ·exact G _ p _ t y b c l
    ·rw[l];exact r
   ·rw[List.getElem?_set_ne (Ne.symm e)] at a
    exact G _ p i u y b a m
  ·exact G j q i u y f a m
 ·exact G
theorem HGd.get (G:HGd h) (v:Qj) (k:Int):gdV (h.get v k).1:=by
 unfold Qc.get
 cases ht:h.thing v with
 | none=>exact gd_no
 | some t =>
   simp only
   split
   ·exact gd_no
   ·cases hx:t.l[k.toNat]? with
    | none=>exact gd_no
    | some x =>
      obtain⟨-,p,a,-,b,-⟩:=Qc.thing_iff.1 ht
      exact G _ p _ t x (Qc.place_some a).2.1 b (Zm hx)
theorem Qkc (B:HB n h) (hn:n<=900000):gdV h.open_.1:=by
 have:=B.ok.len
 unfold Qc.open_;split
 ·exact gd_no
 ·exact⟨⟨two64,by unfold Zh;simp only;omega,zero64,zero64⟩,Z⟩
theorem Qkw (B:HB n h) (hn:n<=900000){v:Qj}(a:v.ok) (t:Qq) (words:Int):gdV (h.put v t words).1:=by
 unfold Qc.put
 cases ha:h.at v with
 | none=>exact gd_no
 | some p =>
   have:=(B.ok.of ha).1
   simp only
   split
   ·exact gd_no
   ·cases t.arr
    ·exact⟨⟨(by unfold Zh;decide:Zh 3),a.2.1,by unfold Zh;simp only;omega,zero64⟩,Z⟩
    ·exact⟨⟨(by unfold Zh;decide:Zh 4),a.2.1,by unfold Zh;simp only;omega,zero64⟩,Z⟩
theorem HB.put (B:HB n h) (v:Qj) (t:Qq)(a:0<=words/\words<=17) (b:t.l.length<=17):HB (n+20) (h.put v t words).2.2 :=
 ⟨(B.ok.put v t (M:=17) a).mono (by omega),Qc0.put (B.len.mono (by omega)) v t words (by omega),by rw[QfL];exact B.live⟩
end
structure IOk (m:List (Qe 6)) (n:Nat) (M:IM):Prop where
 hb:HB n M.h
 hg:HGd M.h
 fr:∀ d∈M.top::M.rest,(∀ v∈d.v,gdV v)/\d.v.length<=n+8/\d.r.length<=n+16/\∃ fn bl,m[d.f]?=some fn/\fn.blocks[d.b]?=some bl/\d.i<=bl.code.length
 inp:M.inp.length<=1000/\∀ k∈M.inp,Zh k
 out:M.out.length<=2000/\(∀ x∈M.out,Zh x)/\M.back.length<=8
 deep:M.rest.length<=39
def M64 (m:List (Qe 6)):Prop:=∀ fn∈m,∀ bl∈fn.blocks,∀ x∈bl.code,Zh x.n
section
variable {m:List (Qe 6)}{n n':Nat}{M M':IM}{x:Qz}
theorem IOk.mono (I:IOk m n M) (h:n<=n'):IOk m n' M:=⟨I.hb.mono h,I.hg,fun d a=>⟨(I.fr d a).1,by have:=(I.fr d a).2.1;omega,by have:=(I.fr d a).2.2.1;omega,(I.fr d a).2.2.2⟩,I.inp,I.out,I.deep⟩
theorem IOk.sok (I:IOk m n M) (hn:n<=900000):Qaf n M where
 hb:=I.hb
 hn:=hn
 gd:=(I.fr M.top (by simp)).1
 len:=by have:=(I.fr M.top (by simp)).2.1;omega
 regs:=by have:=(I.fr M.top (by simp)).2.2.1;omega
 inp:=by have:=I.inp.1;omega
 out:=I.out.1
theorem IOk.over (I:IOk m n M) (k:Int):IOk m n (M.over k):=⟨I.hb,I.hg,I.fr,I.inp,I.out,I.deep⟩
theorem IOk.push (I:IOk m n M){l:List Qj}(g:∀ v∈l,gdV v) (j:l.length<=8):IOk m (n+8) (M.push l):=by
 refine⟨I.hb.mono (by omega),I.hg,fun d a=>?_,I.inp,I.out,I.deep⟩
 rcases List.mem_cons.1 a with rfl | a
 ·obtain⟨c,f,i,b⟩:=I.fr M.top (by simp)
  refine⟨fun v e=>?_,?_,by show M.top.r.length<=_;omega,b⟩
  ·rcases List.mem_append.1 e with h | h
   ·exact c v h
   ·exact g v h
  ·show (M.top.v++l).length<=_;rw[List.length_append]
   omega
 ·obtain⟨c,f,i,b⟩:=I.fr d (List.mem_cons_of_mem _ a)
  exact⟨c,by omega,by omega,b⟩
theorem IOk.heap (I:IOk m n M){h':Qc}(hb:HB (n+20) h') (a:HGd h'):IOk m (n+20) ({ M with h:=h' }:IM):=⟨hb,a,fun d b=>by have:=I.fr d b;exact⟨this.1,by omega,by omega,this.2.2.2⟩,I.inp,I.out,I.deep⟩
theorem IOk.val (I:IOk m n M){a:Int}{v:Qj}(h:QA M.top.v a=some v):gdV v:=(I.fr M.top (by simp)).1 v (QaV h)
theorem IOk.num (I:IOk m n M){a:Int}{k:Int}(h:Qt M.top.v a=some k):Zh k:=by
 unfold Qt at h
 cases e:QA M.top.v a with
 | none=>rw[e] at h;cases h
 | some v =>
   rw[e] at h
   simp only at h
   split at h
   ·cases h;exact(I.val e).1.2.2.2
   ·cases h
theorem IOk.vals (I:IOk m n M){l:List Int}{xs:List Qj}(h:Qp M.top.v l=some xs):∀ v∈xs,gdV v:=fun v a=>(I.fr M.top (by simp)).1 v (QbU h v a)
def OkO (m:List (Qe 6)) (n:Nat) (o:Option IM):Prop:=∀ N,o=some N->IOk m n N
theorem OkO.no:OkO m n none:=fun N h=>by cases h
theorem OkO.some (I:IOk m n M):OkO m n (some M):=fun N h=>by cases h;exact I
theorem OkO.ite {c:Prop}[Decidable c] {a b:Option IM}(e:c->OkO m n a) (d:¬ c->OkO m n b):OkO m n (if c then a else b):=by
 by_cases h:c
 ·rw[Xs h];exact e h
 ·rw[Xr h];exact d h
theorem Qjj (I:IOk m n M) (hn:n<=900000){v:Qj}(d:v.ok){t:Qq}(c:∀ u∈t.l,gdV u) (e:t.l.length<=17)(b:0<=words/\words<=17):OkO m (n+28) (M.got (M.h.put v t words)) :=
 OkO.ite (fun _=>OkO.some ((I.over 6).mono (by omega))) fun _=>OkO.ite (fun _=>OkO.some (by
  have:=(I.heap (I.hb.put v t b e) (I.hg.put v c words)).push (l:=[(M.h.put v t words).1]) (fun u a=>by simp at a;subst a;exact Qkw I.hb hn d t words) (by simp)
  exact this)) (fun _=>OkO.no)
theorem QjC (I:IOk m n M) (hn:n<=900000) (j:x.op=5->x.args.length<=8):OkO m (n+28) (M.mem x):=by
 unfold IM.mem
 cases ha:QA M.top.v x.a with
 | none=>exact OkO.no
 | some a =>
   have i:=I.val ha;have d:∀ {v:Qj},gdV v->OkO m (n+28) (some (M.push [v])):=fun f=>OkO.some ((I.push (fun u e=>by simp at e;subst e;exact f) (by simp)).mono (by omega));have g:∀ k,OkO m (n+28) (some (M.over k)):=fun k=>OkO.some ((I.over k).mono (by omega));simp only
   refine OkO.ite (fun _=>OkO.ite (fun _=>OkO.some ((I.heap (h':=(M.h.shut a).2) ((I.hb.shut a).mono (by omega)) (I.hg.shut a)).mono (by omega))) (fun _=>OkO.no)) fun _=>OkO.ite (fun p=>?_) fun _=>OkO.ite (fun _=>?_) fun _=>OkO.ite (fun _=>OkO.ite (fun _=>d (I.hg.get a x.k)) (fun _=>OkO.no)) fun _=>OkO.ite (fun _=>?_) fun _=>OkO.ite (fun _=>?_) fun _=>OkO.ite (fun _=>?_) fun _=>OkO.ite (fun _=>d (QbT ?_)) (fun _=>OkO.no)
   ·cases f:Qp M.top.v x.args with
    | none=>exact OkO.no
    | some l =>
      have r:=Q1 _ _ f;have q:=j p;exact Qjj I hn i.1 (t:=⟨false,l⟩) (I.vals f) (by show l.length<=17;omega) (by split<;>omega)
   ·cases hb:Qt M.top.v x.b with
    | none=>exact OkO.no
    | some k =>
      refine OkO.ite (fun _=>g 3) (fun o=>?_);unfold Qc.array;rw[Xr o]
      exact Qjj I hn i.1 (t:=⟨true,List.replicate k.toNat (Qa8 0)⟩) (fun u e=>by have:=List.eq_of_mem_replicate e;subst this;exact QbT (by unfold Zh;decide)) (by show (List.replicate k.toNat (Qa8 0)).length<=17;rw[List.length_replicate];omega) (by omega)
   ·cases hb:QA M.top.v x.b with
    | none=>exact OkO.no
    | some y=>exact OkO.ite (fun _=>OkO.some ((I.heap (h':=(M.h.set a x.k y).2) ((I.hb.set a x.k y).mono (by omega)) (I.hg.set a x.k (I.val hb))).mono (by omega))) (fun _=>OkO.no)
   ·cases hb:Qt M.top.v x.b with
    | none=>exact OkO.no
    | some k=>exact OkO.ite (fun _=>OkO.ite (fun _=>g 2) fun _=>OkO.ite (fun _=>d (I.hg.get a k)) (fun _=>OkO.no)) (fun _=>OkO.no)
   ·cases hb:Qt M.top.v x.b with
    | none=>exact OkO.no
    | some k=>cases hc:Qt M.top.v x.c with
      | none=>exact OkO.no
      | some z=>exact OkO.ite (fun _=>OkO.ite (fun _=>g 2) fun _=>OkO.ite (fun _=>OkO.some ((I.heap (h':=(M.h.set a k (Qa8 z)).2) ((I.hb.set a k (Qa8 z)).mono (by omega)) (I.hg.set a k (QbT (I.num hc)))).mono (by omega))) (fun _=>OkO.no)) (fun _=>OkO.no)
   ·unfold Qc.len
    cases ht:M.h.thing a with
    | none=>unfold Zh;decide
    | some t=>have:=I.hb.len.thing ht;unfold Zh;simp only;omega
end
section
variable {m:List (Qe 6)}{n n':Nat}{M M':IM}{x:Qz}{fn:Qe 6}{bl:Qk 6}{op:Int->Int->Int->Option Int}
theorem Qcy {a:Nat}(h:x.form a=0):(1<=x.op/\x.op<=14)/\(x.op=5->x.args.length<=8)/\(x.op=14->0<=x.k/\x.k<(a:Int)/\x.regs.length<=6/\x.args.length<=8):=by
 unfold Qz.form at h;split at h
 ·cases h
 rename_i b
 split at h
 ·cases h
 split at h
 ·cases h
 split at h
 ·cases h
 rename_i c
 split at h
 ·cases h
 split at h
 ·cases h
 rename_i f
 split at h
 ·cases h
 rename_i d
 refine⟨?_,fun e=>by omega,fun e=>by omega⟩
 unfold QC at b;by_cases e:1<=x.op/\x.op<=14
 ·exact e
 ·exfalso
  apply b
  repeat' rw[Xr (by omega)]
  rfl
theorem Qda {v:List Qj}:∀ {l:List Int}{ns:List Int},Qaw v l=some ns->ns.length=l.length
 | [],ns,h=>by simp[Qaw] at h;subst h;rfl
 | k::l,ns,h=>by
   unfold Qaw at h
   cases hk:Qt v k with
   | none=>rw[hk] at h;cases h
   | some y =>
     rw[hk] at h
     simp only at h
     cases hl:Qaw v l with
     | none=>rw[hl] at h;cases h
     | some zs=>rw[hl] at h;simp at h;subst h;simp[Qda hl]
theorem QiC (I:IOk m n M) (g:(Qr m).1=0) (i:0<=x.k/\x.k<(m.length:Int)/\x.regs.length<=6/\x.args.length<=8):OkO m n (M.call m x):=by
 unfold IM.call
 cases hr:Zb M.top.r x.regs with
 | none=>exact OkO.no
 | some r =>
   cases hv:Qp M.top.v x.args with
   | none=>exact OkO.no
   | some v =>
     cases hf:m[x.k.toNat]? with
     | none=>exact OkO.no
     | some f =>
       refine OkO.ite (fun _=>OkO.ite (fun _=>OkO.some (I.over 5)) (fun e=>OkO.some ?_)) (fun _=>OkO.no);obtain⟨h,a,-⟩:=Qbn g hf
       have j:=Q1 _ _ hv;have c:=Qas hr;refine⟨I.hb,I.hg,fun d b=>?_,I.inp,I.out,by show (M.top::M.rest).length<=39;have:=I.deep;simp;omega⟩
       rcases List.mem_cons.1 b with rfl | b
       ·exact⟨I.vals hv,by show v.length<=_;omega,by show r.length<=_;omega,f,h,hf,a,Xb _⟩
       ·exact I.fr d b
theorem QgB (I:IOk m n M) (hn:n<=900000) (D:(Qr m).1=0) (p:∀ k a b c,op k a b=some c->Zh a->Zh b->Zh c) (A:x.form m.length=0) (q:Zh x.n):OkO m (n+28) (IM.ins m op M x):=by
 obtain⟨-,F,t⟩:=Qcy A
 have i:∀ {v:Qj},gdV v->OkO m (n+28) (some (M.push [v])):=fun B=>OkO.some ((I.push (fun u f=>by simp at f;subst f;exact B) (by simp)).mono (by omega));have o:∀ k,OkO m (n+28) (some (M.over k)):=fun k=>OkO.some ((I.over k).mono (by omega));unfold IM.ins;refine OkO.ite (fun _=>i (QbT q)) fun _=>OkO.ite (fun _=>?_) fun _=>OkO.ite (fun _=>OkO.ite (fun _=>OkO.some ?_) (fun _=>o 6)) fun _=>OkO.ite (fun _=>?_) fun _=>OkO.ite (fun _=>?_) fun _=>OkO.ite (fun e=>fun N h=>(QiC I D (t e) N h).mono (by omega)) (fun _=>QjC I hn F)
 ·cases ha:Qt M.top.v x.a with
  | none=>exact OkO.no
  | some a =>
    cases hb:Qt M.top.v x.b with
    | none=>exact OkO.no
    | some b =>
      simp only
      cases ho:op x.k a b with
      | none=>exact o 1
      | some c=>exact i (QbT (p _ _ _ _ ho (I.num ha) (I.num hb)))
 ·have J:IOk m (n+20) { M with h:=M.h.open_.2.2,top:={ M.top with r:=M.top.r++[M.h.open_.1.region] } }:=by
   refine⟨I.hb.open.mono (by omega),I.hg.open,fun d s=>?_,I.inp,I.out,I.deep⟩
   rcases List.mem_cons.1 s with rfl | s
   ·obtain⟨g,C,E,w⟩:=I.fr M.top (by simp)
    exact⟨g,by show M.top.v.length<=_;omega,by show (M.top.r++[_]).length<=_;rw[List.length_append];simp;omega,w⟩
   ·obtain⟨g,C,E,w⟩:=I.fr d (List.mem_cons_of_mem _ s)
    exact⟨g,by omega,by omega,w⟩
  exact(J.push (l:=[M.h.open_.1]) (fun u f=>by simp at f;subst f;exact Qkc I.hb hn) (by simp)).mono (by omega)
 ·cases hi:M.inp with
  | nil=>exact o 4
  | cons k l =>
    have j:=I.inp;rw[hi] at j
    have J:IOk m n { M with inp:=l }:=⟨I.hb,I.hg,I.fr,⟨by have:=j.1;simp at this;show l.length<=1000;omega,fun y z=>j.2 y (by simp[z])⟩,I.out,I.deep⟩;exact OkO.some ((J.push (l:=[Qa8 k]) (fun u f=>by simp at f;subst f;exact QbT (j.2 k (by simp))) (by simp)).mono (by omega))
 ·cases ha:Qt M.top.v x.a with
  | none=>exact OkO.no
  | some a=>exact OkO.ite (fun _=>o 8) (fun h=>OkO.some (IOk.mono ⟨I.hb,I.hg,I.fr,I.inp,⟨by have:=I.out.1;show (M.out++[a]).length<=2000;simp;omega,fun y z=>by rcases List.mem_append.1 z with g | g;exact I.out.2.1 y g;simp at g;subst g;exact I.num ha,I.out.2.2⟩,I.deep⟩ (by omega)))
theorem QgC (I:IOk m n M) (e:m[M.top.f]?=some fn){t:MTo}(g:t.regs.length<=16/\t.args.length<=8):OkO m n (IM.to fn M t):=by
 unfold IM.to
 cases hb:fn.blocks[t.block.toNat]? with
 | none=>exact OkO.no
 | some b =>
   cases hr:Zb M.top.r t.regs with
   | none=>exact OkO.no
   | some r =>
     cases hv:Qp M.top.v t.args with
     | none=>exact OkO.no
     | some v =>
       refine OkO.ite (fun _=>OkO.some ?_) (fun _=>OkO.no);have h:=Q1 _ _ hv;have c:=Qas hr;refine⟨I.hb,I.hg,fun d a=>?_,I.inp,I.out,I.deep⟩
       rcases List.mem_cons.1 a with rfl | a
       ·exact⟨I.vals hv,by show v.length<=_;omega,by show r.length<=_;omega,fn,b,e,hb,Xb _⟩
       ·exact I.fr d (List.mem_cons_of_mem _ a)
theorem Qif (I:IOk m n M) (g:m[M.top.f]?=some fn){e:Qax}(o:e.form fn.blocks.length=0):OkO m (n+28) (IM.endd fn M e):=by
 obtain⟨r,p,i,b⟩:=QeF o
 unfold IM.endd;refine OkO.ite (fun s=>fun N h=>(QgC I g (by have:=Qbz (i (by omega));omega) N h).mono (by omega)) fun _=>OkO.ite (fun l=>?_) fun _=>?_
 ·cases Qt M.top.v e.a with
  | none=>exact OkO.no
  | some k=>exact OkO.ite (fun _=>fun N h=>(QgC I g (by have:=Qbz (b l);omega) N h).mono (by omega)) (fun _=>fun N h=>(QgC I g (by have:=Qbz (i (by omega));omega) N h).mono (by omega))
 ·cases hv:Qp M.top.v e.args with
  | none=>exact OkO.no
  | some v =>
    refine OkO.ite (fun _=>?_) (fun _=>OkO.no);have q:=Q1 _ _ hv
    cases hr:M.rest with
    | nil =>
      cases hnk:Qaw M.top.v e.args with
      | none=>exact OkO.no
      | some k =>
        have J:IOk m n { M with back:=k }:=⟨I.hb,I.hg,I.fr,I.inp,⟨I.out.1,I.out.2.1,by show k.length<=8;rw[Qda hnk];exact p⟩,I.deep⟩
        have:=J.over 0
        rw[hr] at this
        exact OkO.some (this.mono (by omega))
    | cons d rest =>
      have J:IOk m n { M with top:=d,rest:=rest }:=⟨I.hb,I.hg,fun c j=>I.fr c (by rw[hr];exact List.mem_cons_of_mem _ j),I.inp,I.out,by have:=I.deep;rw[hr] at this;simp at this;show rest.length<=39;omega⟩;exact OkO.some ((J.push (I.vals hv) (by omega)).mono (by omega))
theorem Qi5 (I:IOk m n M) (hn:n<=900000) (p:(Qr m).1=0) (j:M64 m) (h:∀ k a b c,op k a b=some c->Zh a->Zh b->Zh c):OkO m (n+28) (IM.step m op most M):=by
 unfold IM.step;refine OkO.ite (fun _=>OkO.some ((I.over 7).mono (by omega))) fun _=>?_;obtain⟨-,-,-,l,g,e,f,v⟩:=I.fr M.top (by simp)
 rw[e]
 simp only
 rw[f]
 simp only
 have r:=(Zz p).2 l (Zm e);have q:=r.blocks g (Zm f)
 cases hx:g.code[M.top.i]? with
 | none =>
   have J:IOk m n { M with fuel:=M.fuel+1 }:=⟨I.hb,I.hg,I.fr,I.inp,I.out,I.deep⟩;exact Qif J e q.fin
 | some x =>
   have J:IOk m n { M with fuel:=M.fuel+1,top:={ M.top with i:=M.top.i+1 } }:=by
    refine⟨I.hb,I.hg,fun d o=>?_,I.inp,I.out,I.deep⟩
    rcases List.mem_cons.1 o with rfl | o
    ·obtain⟨t,s,u,-⟩:=I.fr M.top (by simp)
     exact⟨t,s,u,l,g,e,f,(Zi hx).1⟩
    ·exact I.fr d (List.mem_cons_of_mem _ o)
   exact QgB J hn p h (q.code x (Zm hx)) (j l (Zm e) g (Zm f) x (Zm hx))
theorem QeA (e:(Qr m).1=0)(j:inp.length<=1000/\∀ k∈inp,Zh k)(l:pages<=1000):IOk m 0 (IM.start inp pages):=by
 have g:=(Zz e).1.1;obtain⟨a,f⟩:∃ a,m[0]?=some a:=⟨_,Zg g⟩
 obtain⟨i,b,-⟩:=Qbn e f
 refine⟨HB.new pages (by omega),HGd.new pages,fun d c=>?_,j,⟨by simp[IM.start],by simp[IM.start],by simp[IM.start]⟩,by simp[IM.start]⟩
 simp only[IM.start,List.mem_cons,List.not_mem_nil,or_false] at c
 subst c;exact⟨fun v h=>by simp at h,by simp,by simp,a,i,f,b,Xb _⟩
def IM.bump (M:IM):IM:={ M with top:={ M.top with i:=M.top.i+1 } }
def BuO (o o':Option IM):Prop:=o'=o.map IM.bump
theorem BuO.eq:BuO (some M) (some M.bump):=rfl
theorem BuO.no:BuO none none:=rfl
theorem BuO.ite {c:Prop}[Decidable c] {a d b e:Option IM}(g:c->BuO a d) (f:¬ c->BuO b e):BuO (if c then a else b) (if c then d else e):=by
 by_cases h:c
 ·rw[Xs h,Xs h];exact g h
 ·rw[Xr h,Xr h];exact f h
theorem QfA {q:Qj × Int × Qc}:BuO (M.got q) (M.bump.got q):=BuO.ite (fun _=>rfl) fun _=>BuO.ite (fun _=>rfl) (fun _=>rfl)
theorem mem_bump:BuO (M.mem x) (M.bump.mem x):=by
 unfold IM.mem;have d:M.bump.top.v=M.top.v:=rfl;have e:M.bump.h=M.h:=rfl;rw[d,e]
 cases QA M.top.v x.a with
 | none=>rfl
 | some a =>
   simp only
   refine BuO.ite (fun _=>BuO.ite (fun _=>rfl) (fun _=>rfl)) fun _=>BuO.ite (fun _=>?_) fun _=>BuO.ite (fun _=>?_) fun _=>BuO.ite (fun _=>BuO.ite (fun _=>rfl) (fun _=>rfl)) fun _=>BuO.ite (fun _=>?_) fun _=>BuO.ite (fun _=>?_) fun _=>BuO.ite (fun _=>?_) fun _=>BuO.ite (fun _=>rfl) (fun _=>rfl)
   ·cases Qp M.top.v x.args with
    | none=>rfl
    | some l=>exact QfA
   ·cases Qt M.top.v x.b with
    | none=>rfl
    | some k=>exact BuO.ite (fun _=>rfl) (fun _=>QfA)
   ·cases QA M.top.v x.b with
    | none=>rfl
    | some y=>exact BuO.ite (fun _=>rfl) (fun _=>rfl)
   ·cases Qt M.top.v x.b with
    | none=>rfl
    | some k=>exact BuO.ite (fun _=>BuO.ite (fun _=>rfl) fun _=>BuO.ite (fun _=>rfl) (fun _=>rfl)) (fun _=>rfl)
   ·cases Qt M.top.v x.b with
    | none=>rfl
    | some k=>cases Qt M.top.v x.c with
      | none=>rfl
      | some z=>exact BuO.ite (fun _=>BuO.ite (fun _=>rfl) fun _=>BuO.ite (fun _=>rfl) (fun _=>rfl)) (fun _=>rfl)
theorem QiK (c:x.op≠14):BuO (IM.ins m op M x) (IM.ins m op M.bump x):=by
 unfold IM.ins;have i:M.bump.top.v=M.top.v:=rfl;have f:M.bump.h=M.h:=rfl;have g:M.bump.inp=M.inp:=rfl;have d:M.bump.out=M.out:=rfl;rw[i,f,g,d]
 refine BuO.ite (fun _=>rfl) fun _=>BuO.ite (fun _=>?_) fun _=>BuO.ite (fun _=>BuO.ite (fun _=>rfl) (fun _=>rfl)) fun _=>BuO.ite (fun _=>?_) fun _=>BuO.ite (fun _=>?_) fun _=>BuO.ite (fun e=>absurd e c) (fun _=>mem_bump)
 ·cases Qt M.top.v x.a with
  | none=>rfl
  | some a=>cases Qt M.top.v x.b with
    | none=>rfl
    | some b =>
      simp only
      cases op x.k a b<;>rfl
 ·cases M.inp<;>rfl
 ·cases Qt M.top.v x.a with
  | none=>rfl
  | some k=>exact BuO.ite (fun _=>rfl) (fun _=>rfl)
theorem Qhy (b:M.done=false):IM.call m M.bump x=(IM.call m M x).map fun N=>if N.done then N.bump else { N with rest:=M.bump.top::M.rest }:=by
 unfold IM.call;have e:M.bump.top.v=M.top.v:=rfl;have c:M.bump.top.r=M.top.r:=rfl;have d:M.bump.rest=M.rest:=rfl;rw[e,c,d]
 cases Zb M.top.r x.regs with
 | none=>rfl
 | some r=>cases Qp M.top.v x.args with
   | none=>rfl
   | some v=>cases m[x.k.toNat]? with
     | none=>rfl
     | some f =>
       simp only
       by_cases h:(r.length:Int)=f.regs/\v.length=f.params.length
       ·rw[Xs h,Xs h]
        by_cases a:M.rest.length+1=40
        ·rw[Xs a,Xs a];rfl
        ·rw[Xr a,Xr a]
         simp[b,IM.bump]
       ·rw[Xr h,Xr h];rfl
end
structure IM.like (N M:IM):Prop where
 h:N.h=M.h
 out:N.out=M.out
 back:N.back=M.back
 fuel:N.fuel=M.fuel
 fin:N.fin=M.fin
 done:N.done=M.done
theorem IM.like.refl (M:IM):M.like M:=⟨Z,Z,Z,Z,Z,Z⟩
def Qjf (g:MG) (w:World) (b most:Nat) (m:List (Qe 6)) (M:IM) (sc sa:Int) (r:Option IM) (e:Ending) (w':World):Prop:=match r with
 | none=>e=.panicked stuckP/\XTo g w w' b most m { M with fuel:=M.fuel+1 } sc sa
 | some M'=>(e=.returned (.tuple #[])/\XGo g w w' b most m M' sc sa)\/(∃ N k,e=.panicked (Qje k)/\XTo g w w' b most m N sc sa/\(N.over k).like M')
def MakeArr:Prop:=∀ {w:World}{b most n:Nat}{m:List (Qe 6)}{M:IM}{sc sa:Int}{g:MG}(x:Qz),MAt w b most m M sc sa g->Qaf n M->x.op=8 ->
 Calls prog 120 #[.pointer (some ⟨b,0,none⟩),.pointer (some ⟨g.t.c,0,none⟩),.int .i64 x.a,.int .i64 x.b] w fun e w'=>Qm g w b most m M sc sa (M.mem x) e w'
def Ql8 (b fu most:Nat) (t:Tmp) (v:Value) (w:World):Prop :=
 v=(([(0,.pointer (some ⟨b,0,none⟩)),(4,.pointer (some ⟨b,0,none⟩)),(5,.pointer (some ⟨b,0,none⟩)),(6,.pointer (some ⟨b,5,none⟩)),(7,.pointer (some ⟨b,8,none⟩)),(8,.int .i64 (fu:Int)),(9,.pointer (some ⟨b,0,none⟩)),(10,.pointer (some ⟨b,0,none⟩)),(11,.pointer (some ⟨b,3,none⟩)),(12,.int .i64 (most:Int)),(13,.bool (decide ((fu:Int)<most)))]:List (Tmp × Value)).lookup t).getD undef
theorem is0 {b g most:Nat}(p:w6.cell? ⟨b,8,none⟩=some (.int .i64 (g:Int))) (l:w6.cell? ⟨b,3,none⟩=some (.int .i64 (most:Int)))
 (a:Act) (m:Nat) (hn:a.tmps.size=m) (i:59<=m) (k:a.tmps.getD 0 undef=.pointer (some ⟨b,0,none⟩))
 (hend:∀ ops vs w',vs 13=.bool (decide ((g:Int)<most))->Below w6.heap.size w6 w'->wpList prog ops Q (Qb8 10 ((Tryz.f42.body.bind (Qn 0)).getD .skip)) (QT a vs [4,5,6,7,8,9,10,11,12,13]) w') :
 Code.wp prog ((Tryz.f42.body.bind (Qn 0)).getD .skip) Q a w6:=by
 conv=>arg 2;whnf
 refine Qu 10 (Ql8 b g most) (fun w=>Below w6.heap.size w6 w) (fun w w'=>Below w.heap.size w w') (outs:=[0]) (gs:=[]) (bs:=[true,true,true,true,true,true,true,true,true,true]) (by kernel_rfl) (n:=59) hn i (by kernel_rfl) (by kernel_rfl) ?hR ?hG (QH Zr 1) ⟨k,Y⟩ ?hA ?hend
 case hR=>exact fun t v w w' _ h=>h
 case hG=>exact Y
 case hend=>exact fun ops vs w' d e=>hend ops vs w' (e 13 (by kernel_rfl)) d
 case hA =>
  refine⟨fun a w d e K f=>?_,?_⟩
  ·obtain⟨c,-⟩:=e
   have c:a.tmps.getD 0 undef=.pointer (some ⟨b,0,none⟩):=c;go_simp;exact f _ _ Zr d Z
  refine⟨fun a w d e K f=>?_,?_⟩
  ·obtain⟨c,-⟩:=e
   have c:a.tmps.getD 4 undef=.pointer (some ⟨b,0,none⟩):=c;go_simp;exact f _ _ Zr d Z
  refine⟨fun a w d e K f=>?_,?_⟩
  ·obtain⟨c,-⟩:=e
   have c:a.tmps.getD 5 undef=.pointer (some ⟨b,0,none⟩):=c;go_simp;exact f _ _ Zr d Z
  refine⟨fun a w d e K f=>?_,?_⟩
  ·obtain⟨c,-⟩:=e
   have c:a.tmps.getD 6 undef=.pointer (some ⟨b,5,none⟩):=c;go_simp;exact f _ _ Zr d Z
  refine⟨fun a w d e K f=>?_,?_⟩
  ·obtain⟨c,-⟩:=e
   have c:a.tmps.getD 7 undef=.pointer (some ⟨b,8,none⟩):=c;have o:=QI p d;go_simp;exact f _ _ Zr d Z
  refine⟨fun a w d e K f=>?_,?_⟩
  ·obtain⟨c,-⟩:=e
   have c:a.tmps.getD 0 undef=.pointer (some ⟨b,0,none⟩):=c;go_simp;exact f _ _ Zr d Z
  refine⟨fun a w d e K f=>?_,?_⟩
  ·obtain⟨c,-⟩:=e
   have c:a.tmps.getD 9 undef=.pointer (some ⟨b,0,none⟩):=c;go_simp;exact f _ _ Zr d Z
  refine⟨fun a w d e K f=>?_,?_⟩
  ·obtain⟨c,-⟩:=e
   have c:a.tmps.getD 10 undef=.pointer (some ⟨b,0,none⟩):=c;go_simp;exact f _ _ Zr d Z
  refine⟨fun a w d e K f=>?_,?_⟩
  ·obtain⟨c,-⟩:=e
   have c:a.tmps.getD 11 undef=.pointer (some ⟨b,3,none⟩):=c;have o:=QI l d;go_simp;exact f _ _ Zr d Z
  refine⟨fun a w d e K f=>?_,?_⟩
  ·obtain⟨c,j,-⟩:=e
   have c:a.tmps.getD 8 undef=.int .i64 (g:Int):=c;have j:a.tmps.getD 12 undef=.int .i64 (most:Int):=j;go_simp;refine f _ _ Zr d ?_;show Value.bool _=Value.bool _;congr 1
   first | rfl | (rw[decide_eq_decide];omega)
  trivial
def Qme (c Z nc cc i:Nat) (pc:Option Addr) (t:Tmp) (v:Value) (w:World):Prop :=
 v=(([(2,.pointer (some ⟨c,0,none⟩)),(3,.pointer (some ⟨Z,0,none⟩)),(28,.pointer (some ⟨c,0,none⟩)),(29,.pointer (some ⟨c,0,none⟩)),(30,.pointer (some ⟨c,2,none⟩)),(31,.int .i64 (i:Int)),(32,.pointer (some ⟨Z,2,none⟩)),(33,.slice pc nc cc),(34,.int .i64 (nc:Int)),(35,.bool ((i:Int)==(nc:Int)))]:List (Tmp × Value)).lookup t).getD undef
theorem is3 {Z j o:Nat}{k:Option Addr}(q:w6.cell? ⟨c,2,none⟩=some (.int .i64 (i:Int))) (r:w6.cell? ⟨Z,2,none⟩=some (.slice k j o))
 (a:Act) (m:Nat) (hn:a.tmps.size=m) (l:59<=m) (s:a.tmps.getD 2 undef=.pointer (some ⟨c,0,none⟩)) (x:a.tmps.getD 3 undef=.pointer (some ⟨Z,0,none⟩)) :
 Code.wp prog ((Tryz.f42.body.bind (Qn 3)).getD .skip) (fun e a' w'=>e=.normal/\∃ vs,a'=QT a vs [28,29,30,31,32,33,34,35]/\vs 35=.bool ((i:Int)==(j:Int))/\Below w6.heap.size w6 w') a w6:=by
 conv=>arg 2;whnf
 refine Zw (Qme c Z j o i k) (fun w=>Below w6.heap.size w6 w) (fun w w'=>Below w.heap.size w w') (outs:=[2,3]) (gs:=[]) (bs:=[true,true,true,true,true,true,true,true]) (by kernel_rfl) (n:=59) hn l (by kernel_rfl) ?hR ?hG (QH Zr 1) ⟨s,x,Y⟩ ?hA ?hend
 case hR=>exact fun t v w w' _ h=>h
 case hG=>exact Y
 case hend=>exact fun vs w' d f=>⟨Yz,vs,Yz,f 35 (by kernel_rfl),d⟩
 case hA =>
  refine⟨fun a w d f K g=>?_,?_⟩
  ·obtain⟨b,-⟩:=f
   have b:a.tmps.getD 2 undef=.pointer (some ⟨c,0,none⟩):=b;go_simp;exact g _ _ Zr d Yz
  refine⟨fun a w d f K g=>?_,?_⟩
  ·obtain⟨b,-⟩:=f
   have b:a.tmps.getD 28 undef=.pointer (some ⟨c,0,none⟩):=b;go_simp;exact g _ _ Zr d Yz
  refine⟨fun a w d f K g=>?_,?_⟩
  ·obtain⟨b,-⟩:=f
   have b:a.tmps.getD 29 undef=.pointer (some ⟨c,0,none⟩):=b;go_simp;exact g _ _ Zr d Yz
  refine⟨fun a w d f K g=>?_,?_⟩
  ·obtain⟨b,-⟩:=f
   have b:a.tmps.getD 30 undef=.pointer (some ⟨c,2,none⟩):=b;have u:=QI q d;go_simp;exact g _ _ Zr d Yz
  refine⟨fun a w d f K g=>?_,?_⟩
  ·obtain⟨b,-⟩:=f
   have b:a.tmps.getD 3 undef=.pointer (some ⟨Z,0,none⟩):=b;go_simp;exact g _ _ Zr d Yz
  refine⟨fun a w d f K g=>?_,?_⟩
  ·obtain⟨b,-⟩:=f
   have b:a.tmps.getD 32 undef=.pointer (some ⟨Z,2,none⟩):=b;have u:=QI r d;go_simp;exact g _ _ Zr d Yz
  refine⟨fun a w d f K g=>?_,?_⟩
  ·obtain⟨b,-⟩:=f
   have b:a.tmps.getD 33 undef=.slice k j o:=b;go_simp;exact g _ _ Zr d Yz
  refine⟨fun a w d f K g=>?_,?_⟩
  ·obtain⟨b,p,-⟩:=f
   have b:a.tmps.getD 31 undef=.int .i64 (i:Int):=b;have p:a.tmps.getD 34 undef=.int .i64 (j:Int):=p;go_simp;exact g _ _ Zr d Yz
  trivial
def Qml (b c Z gc oc nc cc i:Nat) (x:Qz) (ip:IP) (t:Tmp) (v:Value) (w:World):Prop :=
 v=(([(0,.pointer (some ⟨b,0,none⟩)),(2,.pointer (some ⟨c,0,none⟩)),(3,.pointer (some ⟨Z,0,none⟩)),(41,.pointer (some ⟨b,0,none⟩)),(42,.pointer (some ⟨c,0,none⟩)),(43,.pointer (some ⟨Z,2,none⟩)),(44,.slice (some ⟨gc,oc,none⟩) nc cc),(45,.pointer (some ⟨c,0,none⟩)),(46,.pointer (some ⟨c,0,none⟩)),(47,.pointer (some ⟨c,2,none⟩)),(48,.int .i64 (i:Int)),(49,.pointer (some ⟨gc,oc+i*8,none⟩)),(50,.agg (QZ x ip))]:List (Tmp × Value)).lookup t).getD undef
theorem is5 {b Z k oc l q:Nat}{x:Qz}{o:IP}(u:w6.cell? ⟨Z,2,none⟩=some (.slice (some ⟨k,oc,none⟩) l q)) (C:w6.cell? ⟨c,2,none⟩=some (.int .i64 (i:Int))) (s:Hid (w6.rangeAt k (oc+i*8) (QZ x o).toList)) (E:(i:Int)<l)
 (a:Act) (m:Nat) (hn:a.tmps.size=m) (p:59<=m) (D:a.tmps.getD 0 undef=.pointer (some ⟨b,0,none⟩)) (z:a.tmps.getD 2 undef=.pointer (some ⟨c,0,none⟩)) (B:a.tmps.getD 3 undef=.pointer (some ⟨Z,0,none⟩))
 (hend:∀ ops vs w',vs 41=.pointer (some ⟨b,0,none⟩)->vs 42=.pointer (some ⟨c,0,none⟩)->vs 50=.agg (QZ x o)->Below w6.heap.size w6 w'->wpList prog ops Q (Qb8 10 ((Tryz.f42.body.bind (Qn 5)).getD .skip)) (QT a vs [41,42,43,44,45,46,47,48,49,50]) w') :
 Code.wp prog ((Tryz.f42.body.bind (Qn 5)).getD .skip) Q a w6:=by
 conv=>arg 2;whnf
 refine Qu 10 (Qml b c Z k oc l q i x o) (fun w=>Below w6.heap.size w6 w) (fun w w'=>Below w.heap.size w w') (outs:=[0,2,3]) (gs:=[]) (bs:=[true,true,true,true,true,true,true,true,true,true]) (by kernel_rfl) (n:=59) hn p (by kernel_rfl) (by kernel_rfl) ?hR ?hG (QH Zr 1) ⟨D,z,B,Y⟩ ?hA ?hend
 case hR=>exact fun t v w w' _ h=>h
 case hG=>exact Y
 case hend=>exact fun ops vs w' e f=>hend ops vs w' (f 41 (by kernel_rfl)) (f 42 (by kernel_rfl)) (f 50 (by kernel_rfl)) e
 case hA =>
  refine⟨fun a w e f K g=>?_,?_⟩
  ·obtain⟨d,-⟩:=f
   have d:a.tmps.getD 0 undef=.pointer (some ⟨b,0,none⟩):=d;go_simp;exact g _ _ Zr e Yz
  refine⟨fun a w e f K g=>?_,?_⟩
  ·obtain⟨d,-⟩:=f
   have d:a.tmps.getD 2 undef=.pointer (some ⟨c,0,none⟩):=d;go_simp;exact g _ _ Zr e Yz
  refine⟨fun a w e f K g=>?_,?_⟩
  ·obtain⟨d,-⟩:=f
   have d:a.tmps.getD 3 undef=.pointer (some ⟨Z,0,none⟩):=d;go_simp;exact g _ _ Zr e Yz
  refine⟨fun a w e f K g=>?_,?_⟩
  ·obtain⟨d,-⟩:=f
   have d:a.tmps.getD 43 undef=.pointer (some ⟨Z,2,none⟩):=d;have A:=QI u e;go_simp;exact g _ _ Zr e Yz
  refine⟨fun a w e f K g=>?_,?_⟩
  ·obtain⟨d,-⟩:=f
   have d:a.tmps.getD 2 undef=.pointer (some ⟨c,0,none⟩):=d;go_simp;exact g _ _ Zr e Yz
  refine⟨fun a w e f K g=>?_,?_⟩
  ·obtain⟨d,-⟩:=f
   have d:a.tmps.getD 45 undef=.pointer (some ⟨c,0,none⟩):=d;go_simp;exact g _ _ Zr e Yz
  refine⟨fun a w e f K g=>?_,?_⟩
  ·obtain⟨d,-⟩:=f
   have d:a.tmps.getD 46 undef=.pointer (some ⟨c,0,none⟩):=d;go_simp;exact g _ _ Zr e Yz
  refine⟨fun a w e f K g=>?_,?_⟩
  ·obtain⟨d,-⟩:=f
   have d:a.tmps.getD 47 undef=.pointer (some ⟨c,2,none⟩):=d;have A:=QI C e;go_simp;exact g _ _ Zr e Yz
  refine⟨fun a w e f K g=>?_,?_⟩
  ·obtain⟨d,r,-⟩:=f
   have d:a.tmps.getD 44 undef=.slice (some ⟨k,oc,none⟩) l q:=d;have r:a.tmps.getD 48 undef=.int .i64 (i:Int):=r;go_simp;exact g _ _ Zr e Yz
  refine⟨fun a w e f K g=>?_,?_⟩
  ·obtain⟨d,-⟩:=f
   have d:a.tmps.getD 49 undef=.pointer (some ⟨k,oc+i*8,none⟩):=d;refine wp_load_mid 65 (.tmp 49) Yz k (oc+i*8) d (QZ x o).toList _ (fun j v y=>QI (s.out j v y) e) underlying65 Yz pSizeN ?_;exact g _ _ Zr e Yz
  trivial
section
variable {w w' w2:World}{b most n:Nat}{m:List (Qe 6)}{M M' N:IM}{sc sa:Int}{g g1:MG}{e:Ending}
theorem MAt.fuelC (S:MAt w b most m M sc sa g):XTo g w (w.setCell ⟨b,8,none⟩ (.int .i64 ((M.fuel:Int)+1))) b most m { M with fuel:=M.fuel+1 } sc sa:=by
 refine S.reBox (M':={ M with fuel:=M.fuel+1 }) (sc':=sc) (sa':=sa) Z Z Z (by simp) (fun k a c=>Xd _ _ _ _ c) ⟨Z,Z,Z,Z⟩ (pi:=g.pi) (ci:=g.ci) (vb:=g.vb) ⟨S.inp,S.inpC⟩ (Zk (fun k a d=>Xd _ _ _ _ (fun (e:k=b)=>a (e ▸ S.ob.1))) (fun _ h _=>h) S.back) ?_;rw[Qo S.box 8 _]
 simp
theorem Qi6 (d:MakeArr) (S:MAt w b most m M sc sa g) (I:Qaf n M){x:Qz}(a:IP)(k:IIn w Q2 x a) (i:x.form m.length=0) (j:x.op≠14) :
 Calls prog 71 #[.pointer (some ⟨b,0,none⟩),.pointer (some ⟨g.t.c,0,none⟩),.agg (QZ x a)] w fun e w'=>Qm g w b most m M sc sa (IM.ins m aOp M x) e w':=by
 obtain⟨q,l,-⟩:=Qcy i
 have f:x.op=1\/x.op=2\/x.op=3\/x.op=4\/x.op=5\/x.op=6\/x.op=7\/x.op=8\/x.op=9\/x.op=10\/x.op=11\/x.op=12\/x.op=13:=by omega
 rcases f with h | h | h | h | h | h | h | h | h | h | h | h | h
 ·exact QlD S I a h
 ·exact Qlp S I a h
 ·exact Qlr S I a h
 ·exact QlJ S I a h
 ·exact QlB S I a h k.args (by have:=l h;omega)
 ·exact QlE S I a h
 ·exact Qly S I a h
 ·exact QlO S I a h (fun p o=>d x (S.below o) I h)
 ·exact QlP S I a h
 ·exact Qk3 S I a h
 ·exact Qkv S I a h
 ·exact Qlb S I a h
 ·exact QkJ S I a h
end
def Qh7 (w6:World) (hh:Qc) (OO:Nat->Prop) (b Y bh:Nat) (nn yk yr yt yn cd:Int) (rv:Qj) (RR:Qj->Prop) (S:Nat->Bool) (t:Tmp) (v:Value) (w:World):Prop :=
 match ([(32,fun _ v _=>(fun v=>v=.tuple #[QF rv,.int .i64 cd]) v),(25,fun _ v _=>(fun v=>v=.tuple #[QF rv,.int .i64 cd]) v),(33,fun _ v _=>(fun v=>v=QF rv) v),(34,fun _ v _=>(fun v=>v=.int .i64 cd) v),(11,fun _ v _=>(fun v=>v=.int .i64 cd) v),(10,Qan w6 (fun Z w=>∃ h',h'=hh/\QdY w6 w bh OO h' Z) 6 11 (fun r=>RR r))]:List (Tmp × ((Nat->Bool)->Value->World->Prop))).lookup t with
 | some p=>p S v w
 | none=>v=(([(0,.pointer (some ⟨b,0,none⟩)),(8,.pointer (some ⟨Y,0,none⟩)),(9,.int .i64 nn),(26,.pointer (some ⟨b,0,none⟩)),(27,.pointer (some ⟨b,0,none⟩)),(28,.pointer (some ⟨b,0,none⟩)),(29,.pointer (some ⟨bh,0,none⟩)),(30,.agg #[.int .i64 yk,.int .i64 yr,.int .i64 yt,.int .i64 yn]),(31,.int .i64 nn)]:List (Tmp × Value)).lookup t).getD undef
theorem Qcw {e:Qc}{Y:Nat}{l h f g k j:Int}{m:Qj}{RR:Qj->Prop}{S:Nat->Bool}{t:Tmp}(q:HPs w6 (fun w=>∃ h',h'=e/\HTo w6 w bh OO h') (fun Z w=>∃ h',h'=e/\QdY w6 w bh OO h' Z))(r:i≠6) (n:i≠11) (o:Below w.heap.size w w') (c:Qh7 w6 e OO b Y bh l h f g k j m RR S t u w):Qh7 w6 e OO b Y bh l h f g k j m RR (Zp i S) t u w':=by
 unfold Qh7 at c |-;split at c
 ·rename_i p a
  simp only[List.lookup_cons,List.lookup_nil] at a
  split at a
  ·rename_i d
   cases a
   exact c
  ·split at a
   ·rename_i d
    cases a
    exact c
   ·split at a
    ·rename_i d
     cases a
     exact c
    ·split at a
     ·rename_i d
      cases a
      exact c
     ·split at a
      ·rename_i d
       cases a
       exact c
      ·split at a
       ·rename_i d
        cases a
        exact c.on q r n o
       ·cases a
 ·exact c
theorem Qlt {e:Qc}{Y:Nat}{l h f g j i:Int}{m:Qj}{RR:Qj->Prop}{S:Nat->Bool}{t:Tmp}(k:∀ Z,w6.heap.size<=Z->Z<w.heap.size->w'.heap[Z]?=w.heap[Z]?/\(fun Z w=>∃ h',h'=e/\QdY w6 w bh OO h' Z) Z w') (c:Qh7 w6 e OO b Y bh l h f g j i m RR S t u w):Qh7 w6 e OO b Y bh l h f g j i m RR (Zp 6 S) t u w':=by
 unfold Qh7 at c |-;split at c
 ·rename_i p a
  simp only[List.lookup_cons,List.lookup_nil] at a
  split at a
  ·rename_i d
   cases a
   exact c
  ·split at a
   ·rename_i d
    cases a
    exact c
   ·split at a
    ·rename_i d
     cases a
     exact c
    ·split at a
     ·rename_i d
      cases a
      exact c
     ·split at a
      ·rename_i d
       cases a
       exact c
      ·split at a
       ·rename_i d
        cases a
        exact c.did (by decide) k
       ·cases a
 ·exact c
theorem Qlm {e:Qc}{Y:Nat}{k h f g j i:Int}{l:Qj}{RR:Qj->Prop}{S:Nat->Bool}{t:Tmp}(q:HPs w6 (fun w=>∃ h',h'=e/\HTo w6 w bh OO h') (fun Z w=>∃ h',h'=e/\QdY w6 w bh OO h' Z)){Z:Nat}{r:Qj}(o:S 11=false) (s:S 6=true) (m:(fun r=>RR r) r) (n:t=10->u=.pointer (some ⟨Z,0,none⟩)) (c:Qh7 w6 e OO b Y bh k h f g j i l RR S t u w):Qh7 w6 e OO b Y bh k h f g j i l RR (Zp 11 S) t u (Qkb w Z r):=by
 unfold Qh7 at c |-;split at c
 ·rename_i p a
  simp only[List.lookup_cons,List.lookup_nil] at a
  split at a
  ·rename_i d
   cases a
   exact c
  ·split at a
   ·rename_i d
    cases a
    exact c
   ·split at a
    ·rename_i d
     cases a
     exact c
    ·split at a
     ·rename_i d
      cases a
      exact c
     ·split at a
      ·rename_i d
       cases a
       exact c
      ·split at a
       ·rename_i d
        cases a
        (obtain rfl:=n (by simpa using d);exact c.fill q o (by decide) r m)
       ·cases a
 ·exact c
theorem ia2 {E:Qc}{Y:Nat}{G J M N L F:Int}{B:Qj}{RR:Qj->Prop}(O:RR B) (T:∀ x,OO x->x<w6.heap.size) (q0:w6.cell? ⟨b,0,none⟩=some (.pointer (some ⟨bh,0,none⟩))) (y0:w6.cell? ⟨Y,0,none⟩=some (.int .i64 J)) (y1:w6.cell? ⟨Y,1,none⟩=some (.int .i64 M)) (y2:w6.cell? ⟨Y,2,none⟩=some (.int .i64 N)) (y3:w6.cell? ⟨Y,3,none⟩=some (.int .i64 L)) (CT:Hid (∀ wx,Below w6.heap.size w6 wx->Calls prog 160 #[.pointer (some ⟨bh,0,none⟩),.agg #[.int .i64 J,.int .i64 M,.int .i64 N,.int .i64 L],.int .i64 G] wx fun e w'=>e=.returned (.tuple #[QF B,.int .i64 F])/\HTo wx w' bh OO E)) (k:HPs w6 (fun w=>∃ h',h'=E/\HTo w6 w bh OO h') (fun Z w=>∃ h',h'=E/\QdY w6 w bh OO h' Z))
 (a:Act) (m:Nat) (hn:a.tmps.size=m) (R:41<=m) (h0:a.tmps.getD 0 undef=.pointer (some ⟨b,0,none⟩)) (h8:a.tmps.getD 8 undef=.pointer (some ⟨Y,0,none⟩)) (h9:a.tmps.getD 9 undef=.int .i64 G)
 (hX:∀ ch a' w',a'.defers=a.defers->(fun ch w=>False) ch w'->Q (.panic ch) a' w')
 (hend:∀ vs w',(fun v=>v=.int .i64 F) (vs 11)->(∃ Z,vs 10=.pointer (some ⟨Z,0,none⟩)/\w6.heap.size<=Z/\(∃ r:Qj,(fun r=>RR r) r/\Blk w' Z (Qkp r) 183)/\(fun Z w=>∃ h',h'=E/\QdY w6 w bh OO h' Z) Z w')->(fun w=>∃ h',h'=E/\HTo w6 w bh OO h') w'->Q .normal (QT a vs [26,27,28,29,30,31,32,25,33,34,10,11]) w') :
 Code.wp prog ((Tryz.f120.body.bind (Qn 2)).getD .skip) Q a w6:=by
 conv=>arg 2;whnf
 refine ZK (Qh7 w6 E OO b Y bh G J M N L F B RR) (WY w6 (fun w=>∃ h',h'=E/\HTo w6 w bh OO h') 6) (fun ch w=>False) hX (outs:=[0,8,9]) (gs:=[]) (bs:=[true,true,true,true,true,true,true,true,true,true,true,true,true]) (by kernel_rfl) (n:=41) hn R (by kernel_rfl) ?hG (.inl ⟨Yz,QH Zr 1⟩) ⟨h0,h8,h9,Yy⟩ ?hA ?hend
 case hG=>exact fun S=>trivial
 case hend=>exact fun vs S w' z d f=>hend vs w' (f 11 (by kernel_rfl)) (Qan.full (show Qan w6 (fun Z w=>∃ h',h'=E/\QdY w6 w bh OO h' Z) 6 11 (fun r=>RR r) S (vs 10) w' from f 10 (by kernel_rfl)) (z 11 (by decide)) (z 6 (by decide))) (d.fin (z 6 (by decide)))
 case hA =>
  refine⟨fun S a w o s p d f K j=>?_,?_⟩
  ·obtain⟨c,-⟩:=f
   have l:S 6=false:=Qah p (q:=6) Yz (by kernel_rfl) o;have u:=d.pre l;have c:a.tmps.getD 0 undef=.pointer (some ⟨b,0,none⟩):=c;go_simp;exact j _ _ (fun t _ h=>Qcw k (i:=0) (by decide) (by decide) Zr h) (d.on k (i:=0) (by decide) Zr) Yz
  refine⟨fun S a w o s p d f K j=>?_,?_⟩
  ·obtain⟨c,-⟩:=f
   have l:S 6=false:=Qah p (q:=6) Yz (by kernel_rfl) o;have u:=d.pre l;have c:a.tmps.getD 26 undef=.pointer (some ⟨b,0,none⟩):=c;go_simp;exact j _ _ (fun t _ h=>Qcw k (i:=1) (by decide) (by decide) Zr h) (d.on k (i:=1) (by decide) Zr) Yz
  refine⟨fun S a w o s p d f K j=>?_,?_⟩
  ·obtain⟨c,-⟩:=f
   have l:S 6=false:=Qah p (q:=6) Yz (by kernel_rfl) o;have u:=d.pre l;have c:a.tmps.getD 27 undef=.pointer (some ⟨b,0,none⟩):=c;go_simp;exact j _ _ (fun t _ h=>Qcw k (i:=2) (by decide) (by decide) Zr h) (d.on k (i:=2) (by decide) Zr) Yz
  refine⟨fun S a w o s p d f K j=>?_,?_⟩
  ·obtain⟨c,-⟩:=f
   have l:S 6=false:=Qah p (q:=6) Yz (by kernel_rfl) o;have u:=d.pre l;have c:a.tmps.getD 28 undef=.pointer (some ⟨b,0,none⟩):=c;have c0:=QI q0 u;go_simp;exact j _ _ (fun t _ h=>Qcw k (i:=3) (by decide) (by decide) Zr h) (d.on k (i:=3) (by decide) Zr) Yz
  refine⟨fun S a w o s p d f K j=>?_,?_⟩
  ·obtain⟨c,-⟩:=f
   have l:S 6=false:=Qah p (q:=6) Yz (by kernel_rfl) o;have u:=d.pre l;have c:a.tmps.getD 8 undef=.pointer (some ⟨Y,0,none⟩):=c;have c0:=QI y0 u;have c1:=QI y1 u;have c2:=QI y2 u;have c3:=QI y3 u;go_simp;exact j _ _ (fun t _ h=>Qcw k (i:=4) (by decide) (by decide) Zr h) (d.on k (i:=4) (by decide) Zr) Yz
  refine⟨fun S a w o s p d f K j=>?_,?_⟩
  ·obtain⟨c,-⟩:=f
   have l:S 6=false:=Qah p (q:=6) Yz (by kernel_rfl) o;have u:=d.pre l;have c:a.tmps.getD 9 undef=.int .i64 G:=c;go_simp;exact j _ _ (fun t _ h=>Qcw k (i:=5) (by decide) (by decide) Zr h) (d.on k (i:=5) (by decide) Zr) Yz
  refine⟨fun S a w o s p d f K j=>?_,?_⟩
  ·obtain⟨c,D,W,-⟩:=f
   have u:=d.pre o;have c:a.tmps.getD 29 undef=.pointer (some ⟨bh,0,none⟩):=c;have D:a.tmps.getD 30 undef=.agg #[.int .i64 J,.int .i64 M,.int .i64 N,.int .i64 L]:=D;have W:a.tmps.getD 31 undef=.int .i64 G:=W;go_simp;refine Xm (CT.out w u) ?_;rintro r7 w7 ⟨rfl,t7⟩;obtain⟨t8,t9⟩:=HTo.from u T t7
   go_simp;exact j _ _ (fun t _ h=>Qlt (fun Z hz hl=>⟨(t9 Z hz hl).1,_,Yz,(t9 Z hz hl).2⟩) h) (WY.did ⟨_,Yz,t8⟩) Yz
  refine⟨fun S a w o s p d f K j=>?_,?_⟩
  ·obtain⟨c,-⟩:=f
   have c:(fun v=>v=.tuple #[QF B,.int .i64 F]) (a.tmps.getD 32 undef):=c;generalize y:a.tmps.getD 32 undef=A at c;subst c;go_simp;exact j _ _ (fun t _ h=>Qcw k (i:=7) (by decide) (by decide) Zr h) (d.on k (i:=7) (by decide) Zr) Yz
  refine⟨fun S a w o s p d f K j=>?_,?_⟩
  ·obtain⟨c,-⟩:=f
   have c:(fun v=>v=.tuple #[QF B,.int .i64 F]) (a.tmps.getD 25 undef):=c;generalize y:a.tmps.getD 25 undef=A at c;subst c;go_simp;exact j _ _ (fun t _ h=>Qcw k (i:=8) (by decide) (by decide) Zr h) (d.on k (i:=8) (by decide) Zr) Yz
  refine⟨fun S a w o s p d f K j=>?_,?_⟩
  ·obtain⟨c,-⟩:=f
   have c:(fun v=>v=.tuple #[QF B,.int .i64 F]) (a.tmps.getD 25 undef):=c;generalize y:a.tmps.getD 25 undef=A at c;subst c;go_simp;exact j _ _ (fun t _ h=>Qcw k (i:=9) (by decide) (by decide) Zr h) (d.on k (i:=9) (by decide) Zr) Yz
  refine⟨fun S a w o s p d f K j=>?_,?_⟩
  ·clear f;have C:S 11=false:=Qah p (q:=11) Yz (by kernel_rfl) o;go_simp;exact j _ _ (fun t _ h=>Qcw k (i:=10) (by decide) (by decide) (QY _ _) h) (d.on k (i:=10) (by decide) (QY _ _)) (Qan.new k d C (i:=10) (by decide) (by decide))
  refine⟨fun S a w o s p d f K j=>?_,?_⟩
  ·obtain⟨c,D,-⟩:=f
   have c:Qan w6 (fun Z w=>∃ h',h'=E/\QdY w6 w bh OO h' Z) 6 11 (fun r=>RR r) S (a.tmps.getD 10 undef) w:=c;generalize y:a.tmps.getD 10 undef=A at c;have D:(fun v=>v=QF B) (a.tmps.getD 33 undef):=D;generalize V:a.tmps.getD 33 undef=U at D;have C:S 11=false:=o;have H:S 6=true:=Qi3 p s (by kernel_rfl);have kb:=c;obtain⟨Z,rfl,hZ,P,-,-⟩:=c
   have g:=P C;have D:U=QF B:=D;subst D;have X:=O;obtain⟨r,I⟩:∃ r,B=r:=⟨_,Yz⟩
   rw[I] at V X
   clear I;have c0:=Qa g 0 _ Yz;have c1:=Qa g 1 _ Yz;have c2:=Qa g 2 _ Yz;have c3:=Qa g 3 _ Yz;have z0:=Qf g 0;have z1:=Qf g 1;have z2:=Qf g 2;have z3:=Qf g 3;go_simp;exact j undef _ (fun t _ h=>Qlm k C H X (fun e=>by subst e;exact y) h) (Qan.fillW k kb H (by decide) r) Yy
  refine⟨fun S a w o s p d f K j=>?_,?_⟩
  ·obtain⟨c,-⟩:=f
   have c:(fun v=>v=.int .i64 F) (a.tmps.getD 34 undef):=c;generalize y:a.tmps.getD 34 undef=A at c;subst c;go_simp;exact j _ _ (fun t _ h=>Qcw k (i:=12) (by decide) (by decide) Zr h) (d.on k (i:=12) (by decide) Zr) Yz
  trivial
theorem makeArr_any:MakeArr:=by
 intro w b ab n m M sc sa g x S I aa;have E:Hid (M.mem x=match QA M.top.v x.a with | none=>none | some a=>match Qt M.top.v x.b with | none=>none | some k=>if k<0\/15<k then some (M.over 3) else M.got (M.h.array a k)):=by show _=_;unfold IM.mem;cases QA M.top.v x.a<;>simp[aa]<;>cases Qt M.top.v x.b<;>rfl
 generalize M.mem x=u at E |-;have HS:=Qb S;have HI:=Qb I;have hl:=I.len;have X:=Qb (ZQ S.top (by omega) x.a);have U:Hid (∀ D,Below w.heap.size w D->Calls prog 108 #[.pointer (some ⟨g.t.c,0,none⟩),.int .i64 x.b] D fun e T=>Ask (Qt M.top.v x.b) (.int .i64) e/\Below D.heap.size D T):=fun D bx=>ZC (S.top.below bx) (by omega) x.b;clear S I;generalize x.a=xa at X E |-;generalize x.b=xb at U E |-;clear aa;go_enter func120,ntmps120
 cases hq:QA M.top.v xa with
 | none =>
   rw[hq] at X E
   clear hl U hq;go_wp2_with fail
   refine X.out.mono ?_;rintro j w5 ⟨B,H⟩;have B:j=.panicked stuckP:=B;subst B;exact⟨Yz,by rw[E.out];exact Qm.stuck (XTo.same HS.out H)⟩
 | some y =>
 rw[hq] at X E
 have HY:=Qb (HI.out.val hq);clear hq
 cases hq:Qt M.top.v xb with
 | none =>
   rw[hq] at U E
   clear hl hq;go_wp2_with (go_at_call 115;refine X.out.mono ?_;rintro j w5 ⟨B,H⟩;have B:j=.returned (QF y):=B;subst B)
   refine(U.out w5 H).mono ?_
   rintro j w6 ⟨C,b6⟩;have C:j=.panicked stuckP:=C;subst C;exact⟨Yz,by rw[E.out];exact Qm.stuck (XTo.same HS.out (H.trans (b6.mono H.size)))⟩
 | some q =>
 rw[hq] at U E
 clear hq;obtain⟨o,d,i,p⟩:=y
 have E2:Hid (u=if q<0\/15<q then some (M.over 3) else M.got (M.h.array ⟨o,d,i,p⟩ q)):=E.out;clear E
 go_upto_region 1 with (first
  | (go_at_call 115;refine X.out.mono ?_;rintro j w5 ⟨B,H⟩;have B:j=.returned (.agg #[.int .i64 o,.int .i64 d,.int .i64 i,.int .i64 p]):=B;subst B;have K:=Qb H;clear H X)
  | (go_at_call 108;refine(U.out w5 K.out).mono ?_;rintro j w6 ⟨C,b6⟩;have C:j=.returned (.int .i64 q):=C;subst C;have B6:=Qb (K.out.trans (b6.mono K.out.size));clear b6 K U))
 have B7:=Qb (B6.out.trans ((QY w6 (.cells #[.int .i64 o,.int .i64 d,.int .i64 i,.int .i64 p] 183)).mono B6.out.size));have G:=Qb (Qh w6 #[.int .i64 o,.int .i64 d,.int .i64 i,.int .i64 p] 183);generalize w6.alloc (.cells #[.int .i64 o,.int .i64 d,.int .i64 i,.int .i64 p] 183)=w7 at B7 G |-;generalize w6.heap.size=Y at G |-;clear B6;by_cases hb:q<0\/15<q
 ·have F:Hid (u=some (M.over 3)):=by show _=_;rw[E2.out,Xs hb]
  clear E2 HY G HI;by_cases f:q<0
  ·have d0:decide (q>=0)=false:=by simpa using f
   clear hb;go_wp2_with fail
   refine(QaG _ _).mono ?_
   rintro j T ⟨rfl,z⟩;subst z;exact⟨Yz,by rw[F.out];exact Qm.end_ (XTo.same HS.out B7.out)⟩
  ·have A:15<q:=by omega
   have d0:decide (q>=0)=true:=by simpa using f
   have d1:decide (q<=15)=false:=by simpa using A
   clear hb f A;go_wp2_with fail
   refine(QaG _ _).mono ?_
   rintro j T ⟨rfl,z⟩;subst z;exact⟨Yz,by rw[F.out];exact Qm.end_ (XTo.same HS.out B7.out)⟩
 ·have f:0<=q:=by omega
  have A:q<=15:=by omega
  have F:Hid (u=M.got (M.h.array ⟨o,d,i,p⟩ q)):=by show _=_;rw[E2.out,Xr hb]
  obtain⟨k,rfl⟩:∃ k:Nat,q=(k:Int):=⟨q.toNat,by omega⟩
  have hk:k<=15:=by omega
  have S7:=Qb (HS.out.below B7.out);have T7:=Qb (HS.out.stepB B7.out);have CT:Hid (∀ D,Below w7.heap.size w7 D->Calls prog 160 #[.pointer (some ⟨g.bh,0,none⟩),.agg #[.int .i64 o,.int .i64 d,.int .i64 i,.int .i64 p],.int .i64 (k:Int)] D fun e T=>e=.returned (.tuple #[QF (M.h.array ⟨o,d,i,p⟩ k).1,.int .i64 (M.h.array ⟨o,d,i,p⟩ k).2.1])/\HTo D T g.bh g.O (M.h.array ⟨o,d,i,p⟩ k).2.2):=fun D bx=>HI.out.arr (S7.out.heap.below bx) (y:=⟨o,d,i,p⟩) HY.out.1 hk;have SM:=Qb (Qgk (h:=M.h) (v:=⟨o,d,i,p⟩) (n:=(k:Int)));clear hb E2 hk;generalize M.h.array ⟨o,d,i,p⟩ (k:Int)=tu at F CT SM;obtain⟨⟨P,N,W,V⟩,cd,th⟩:=tu
  simp only at F CT SM
  have y0:w7.cell? ⟨Y,0,none⟩=some (.int .i64 o):=Qa G.out 0 _ Yz;have y1:w7.cell? ⟨Y,1,none⟩=some (.int .i64 d):=Qa G.out 1 _ Yz;have y2:w7.cell? ⟨Y,2,none⟩=some (.int .i64 i):=Qa G.out 2 _ Yz;have y3:w7.cell? ⟨Y,3,none⟩=some (.int .i64 p):=Qa G.out 3 _ Yz;have q0:=S7.out.heapC;have d0:decide ((k:Int)>=0)=true:=Xt f;have d1:decide ((k:Int)<=15)=true:=by simpa using A
  clear f A;go_upto_region 2 with (go_at_call 67;refine(QaY _ _).mono ?_;rintro j T ⟨rfl,z⟩;have z:=z.symm;subst z)
  refine ia2 (RR:=fun r=>r=⟨P,N,W,V⟩) Yz S7.out.heap.lt q0 y0 y1 y2 y3 CT (Qfx _ _ _ (fun h'=>h'=th) S7.out.heap.lt) _ _ Yz (Xg (by kernel_rfl)) Yz Yz Yz ?_ ?_
  ·rintro ch a' Q ac ⟨⟩
  ·rintro vs Q s ⟨Z,L,hZ,⟨r,hr,J⟩,-⟩ ⟨h9,hh,t9⟩;have s:vs 11=.int .i64 cd:=s;have hr:r=⟨P,N,W,V⟩:=hr;simp only[QT,Act.put,List.setIfInBounds_toArray,List.set_cons_zero,List.set_cons_succ,s,L]
   subst hr;subst hh;have R9:=Qb (XTo.then T7.out Yz Yz (S7.out.toHeap t9));have Y:=Qb J;clear s L J t9 CT q0 y0 y1 y2 y3 d0 d1 S7 B7 G T7 HY;go_upto_region 3 with fail
   go_wp2_with fail
   refine(QaE _ _ _ _).mono ?_
   rintro j T ⟨z,ha⟩;have z:=z.symm;subst z;rcases ha with ⟨f,rfl⟩|⟨f,h1,rfl⟩|⟨f,h1,rfl⟩
   rotate_left
   ·have E4:u=some (M.over 6):=by rw[F.out];unfold IM.got;rw[Xs h1]
    exact⟨Yz,by rw[E4];exact Qm.end_ (by have:=R9.out;rw[SM.out f] at this;exact this)⟩
   ·have E4:u=none:=by rw[F.out];unfold IM.got;rw[Xr h1,Xr f]
    exact⟨Yz,by rw[E4];exact Qm.stuck (by have:=R9.out;rw[SM.out f] at this;exact this)⟩
   have E4:Hid (u=some (IM.push { M with h:=h9 } [⟨P,N,W,V⟩])):=by show _=_;rw[F.out];unfold IM.got;simp only;rw[Xr (by omega),Xs f]
   obtain⟨g5,S5,T5,c5,f5⟩:=R9.out
   have y0:Q.cell? ⟨Z,0,none⟩=some (.int .i64 P):=Qa Y.out 0 _ Yz;have y1:Q.cell? ⟨Z,1,none⟩=some (.int .i64 N):=Qa Y.out 1 _ Yz;have y2:Q.cell? ⟨Z,2,none⟩=some (.int .i64 W):=Qa Y.out 2 _ Yz;have y3:Q.cell? ⟨Z,3,none⟩=some (.int .i64 V):=Qa Y.out 3 _ Yz;have K:=QY Q (.cells #[.int .i64 P,.int .i64 N,.int .i64 W,.int .i64 V] 183);have CM:=Qb (fun cp=>ZM (S5.below K) (l:=[⟨P,N,W,V⟩]) (cp:=cp) Yz (Qf7 Q P N W V) (by show M.top.v.length+1<=1000000;omega));rw[c5] at CM
   have T6:=Qb (T5.trans (S5.stepB K));have HC:=Qb (Xh c5 f5);clear K Y f F S5 T5 R9 SM c5 f5;go_wp2_with fail
   refine(CM.out _).mono ?_
   rintro j w6 ⟨rfl,C⟩;have R:=Qb (XTo.then T6.out HC.out.1 HC.out.2 C);clear C CM T6 y0 y1 y2 y3;go_wp2
   exact Xz (v:=.tuple #[]) (by simp[results,results120,go_sem]) Yz (by rw[E4.out];exact Qm.go R.out)
section
variable {w w' w2:World}{b most n:Nat}{m:List (Qe 6)}{M M' N:IM}{sc sa:Int}{g g1:MG}{e:Ending}
theorem vsizeE:(prog.info? 71).map (·.size)=some 9:=by kernel_rfl
theorem QcG.stp {i:IM}(n:i={ M with fuel:=M.fuel+1 }) (T:QN g.A g1.A w w2) (j:g1.t.c=g.t.c) (f:g1.fs=g.fs){r:Option IM}(h:QcG g1 w2 b most m i sc sa r e w'):Qjf g w b most m M sc sa r e w':=by
 subst n
 cases r with
 | none=>exact⟨h.1,XTo.then T j f h.2⟩
 | some M' =>
   rcases h with ⟨d,a⟩|⟨N,k,d,a,l⟩
   ·exact .inl ⟨d,XGo.then T a⟩
   ·exact .inr ⟨N,k,a,XTo.then T j f l,d ▸ IM.like.refl _⟩
theorem QgX (CM:MakeArr) (S:MAt w b most m M sc sa g) (K:IOk m n M) (hn:n<=800000) (hm:(Qr m).1=0) (be:M64 m) (bv:M.fuel<=most) (bk:most<=100000) (au:M.done=false) :
 Calls prog 42 #[.pointer (some ⟨b,0,none⟩)] w fun e w'=>Qjf g w b most m M sc sa (IM.step m aOp most M) e w':=by
 obtain⟨-,-,-,fn,o,hf,hb,hi⟩:=K.fr M.top (by simp)
 have hR:=(Zz hm).2 fn (Zm hf);have hB:=hR.blocks o (Zm hb);have bg:=(Zz hm).1.2
 have E:Hid (IM.step m aOp most M=if M.fuel=most then some (M.over 7) else match o.code[M.top.i]? with | some x=>IM.ins m aOp (IM.bump { M with fuel:=M.fuel+1 }) x | none=>IM.endd fn { M with fuel:=M.fuel+1 } o.fin):=by
  show _=_;unfold IM.step;rw[hf]
  simp only
  rw[hb]
  rfl
 have K1:IOk m n { M with fuel:=M.fuel+1 }:=⟨K.hb,K.hg,K.fr,K.inp,K.out,K.deep⟩;have q8:w.cell? ⟨b,8,none⟩=some (.int .i64 M.fuel):=Qa S.box 8 _ Yz;have q3:w.cell? ⟨b,3,none⟩=some (.int .i64 most):=Qa S.box 3 _ Yz;have HS:=Qb S;have HK:=Qb (Xh K K1);have D:=Qb (Xh hf hb);have G:=Qb (Xh hR hB);have HM:=Qb (Xh hm be);have HC:Hid MakeArr:=CM;have HI:=Qb hi;have HN:=Qb (Xh hn bg);have HD:=Qb (Xh au bk);generalize IM.step m aOp most M=y at E |-;clear S K K1 hf hb hR hB hm be hi hn bg CM au;go_enter func42,ntmps42
 go_upto_region 0 with fail
 refine is0 q8 q3 _ _ Yz (Xg (by kernel_rfl)) Yz ?_;rintro am vs w5 V b5;show wpList _ am _ [_] (QT _ vs [4,5,6,7,8,9,10,11,12,13]) w5;simp only[QT,Act.put,List.setIfInBounds_toArray,List.set_cons_zero,List.set_cons_succ,V]
 have B5:=Qb b5;clear V b5 q8 q3;by_cases J:M.fuel=most
 ·have d1:decide ((M.fuel:Int)<most)=false:=Xu (by omega);have E2:Hid (y=some (M.over 7)):=by show _=_;rw[E.out,Xs J]
  rw[d1]
  clear E d1 J;go_wp2_with fail
  refine(QaG _ _).mono ?_
  rintro X w' ⟨rfl,hw⟩;subst hw;exact⟨Yz,by rw[E2.out];exact .inr ⟨M,7,Yz,XTo.same HS.out B5.out,IM.like.refl _⟩⟩
 have d1:decide ((M.fuel:Int)<most)=true:=Xt (by omega);have E2:Hid (y=match o.code[M.top.i]? with | some x=>IM.ins m aOp (IM.bump { M with fuel:=M.fuel+1 }) x | none=>IM.endd fn { M with fuel:=M.fuel+1 } o.fin):=by show _=_;rw[E.out,Xr J]
 rw[d1]
 clear E d1 J;have S5:=Qb (HS.out.below B5.out);have q8:w5.cell? ⟨b,8,none⟩=some (.int .i64 M.fuel):=Qa S5.out.box 8 _ Yz;have z8:=Qf S5.out.box 8;obtain⟨g6,I,T6,c6,f6⟩:=S5.out.fuelC
 have I:=Qb I;have T6:=Qb ((HS.out.stepB B5.out).trans T6);have q:=Qb (Xh c6 f6);have bw:M.fuel<=100000:=by omega
 clear S5 c6 f6 B5;generalize ah:({ M with fuel:=M.fuel+1 }:IM)=f at I E2 HK;have ay:=Qb ah;have l:Hid (f.top=M.top/\f.rest=M.rest/\f.done=false):=by subst ah;exact⟨Yz,Yz,HD.out.1⟩
 clear ah;generalize O:M.fuel=fu at *;have ap:=Qb O;clear O;go_upto_region 2 with (go_at_call 67;refine(QaY _ _).mono ?_;rintro X w' ⟨rfl,hw⟩;have hw:=hw.symm;subst hw)
 generalize w5.setCell ⟨b,8,none⟩ (.int .i64 ((fu:Int)+1))=w6 at I T6 |-;clear q8 z8;have bt:f.rest.length<=39:=HK.out.2.deep;have CT:=Qb (Qca I.out (by omega));have CB:Hid (∀ wx,Below w6.heap.size w6 wx->Calls prog 69 #[.pointer (some ⟨b,0,none⟩)] wx fun e w'=>Qhh g6.A o wx e w'):=fun wx bx=>QcZ (I.out.below bx) (by omega) (fn:=fn) (by rw[l.out.1];exact D.out.1) (by rw[l.out.1];exact D.out.2) ⟨by have:=HN.out.2;omega,by have:=G.out.1.many.2;omega⟩;go_wp2_with (go_at_call 68;refine CT.out.mono ?_;rintro X w7 ⟨rfl,b7⟩)
 refine(CB.out w7 b7).mono ?_
 rintro X w8 ⟨p,rfl,bh,b8⟩;have B8:=Qb (b7.trans (b8.mono b7.size));have a5:=Qb bh;have ac:=Qh w8 zeroB 73;have BZ:=Qb (QgU ac o p);have B9:=Qb (QbB (Nat.le_refl w8.heap.size) (Qbo o p).toList 0 (QY w8 (.cells zeroB 73)));have TH:=Qb (QdM ac Yz o p);have SZ:=Qb (show (prog.info? 73).map (·.size)=some (Qbo o p).size from pSizeB);have ON:=Qb (QhV o p);obtain⟨cs,ae⟩:∃ cs,Qbo o p=cs:=⟨_,Yz⟩
 rw[ae] at BZ B9 TH SZ ON |-
 have EC:=Qb ae;clear ae ac bh b7 b8 CT CB;go_upto_region 3 with (refine wpList_store_mid Yz 73 (.tmp 3) (.tmp 27) Yz w8.heap.size 0 cs Yz Yz TH.out SZ.out ON.out ?_)
 generalize (w8.alloc (.cells zeroB 73)).setCells w8.heap.size 0 cs.toList=w9 at BZ B9 |-;obtain rfl:=EC.out;have S9:=Qb (I.out.below (B8.out.trans (B9.out.mono B8.out.size)));have T9:=Qb (T6.out.trans (I.out.stepB (B8.out.trans (B9.out.mono B8.out.size))));have Q:=Qb (a5.out.below B9.out);generalize w8.heap.size=Z at BZ |-;clear TH SZ ON EC B8 B9 a5 I T6;have H:w9.cell? ⟨g6.t.c,2,none⟩=some (.int .i64 f.top.i):=Qa S9.out.top.1 2 _ Yz;rw[l.out.1] at H
 have z2:w9.cell? ⟨Z,2,none⟩=some (.slice p.pC o.code.length p.cC):=Qa BZ.out 2 _ Yz;refine Code.wp_mono ?_ (is3 H z2 _ _ Yz (Xg (by kernel_rfl)) Yz Yz);rintro _ _ wa ⟨rfl,bu,rfl,aa,ba⟩;simp only[QT,Act.put,List.setIfInBounds_toArray,List.set_cons_zero,List.set_cons_succ,aa]
 have Sa:=Qb (S9.out.below ba);have Ta:=Qb (T9.out.trans (S9.out.stepB ba));have ai:=Qb (Blk.below BZ.out ba);have al:=Qb (Q.out.below ba);clear aa ba H z2 S9 T9 BZ Q;have Ka:Hid (IOk m n f):=HK.out.2;have aq:=HI.out;by_cases ak:M.top.i=o.code.length
 ·have hc:((M.top.i:Int)==(o.code.length:Int))=true:=by simp[ak]
  have W:Hid (y=IM.endd fn f o.fin):=by show _=_;rw[E2.out,Xk (by omega)]
  rw[hc]
  have CE:=Qb (QgG Sa.out (Ka.out.sok (by have:=HN.out.1;omega)) Ka.out.deep (fun d hd=>by have:=(Ka.out.fr d (List.mem_cons_of_mem _ hd)).2.1;have:=HN.out.1;omega) (fn:=fn) (by rw[l.out.1];exact D.out.1) HN.out.2 G.out.1 al.out.fin G.out.2.fin)
  have RE:Hid (wa.rangeAt Z 3 (Qjd o.fin p.e).toList):=fun j v hj=>by
   have:(Qbo o p)[3+j]?=some v:=by
    rw[<-Array.getElem?_toList,Nat.add_comm]
    exact hj
   exact Qa ai.out (3+j) v this
  clear ak hc E2 aq;go_upto_region 4 with fail
  go_wp2_with (refine wpList_load_mid Yz 71 (.tmp 38) Yz Z 3 Yz (Qjd o.fin p.e).toList _ RE.out underlying71 Yz vsizeE ?_)
  refine CE.out.mono ?_;rintro X wb hE;have F:=Qb (QcG.stp (by rw[ap.out];exact ay.out.symm) Ta.out q.out.1 q.out.2 hE);generalize IM.endd fn f o.fin=r2 at W F hE
  have an:X=.returned (.tuple #[])\/∃ ch,X=.panicked ch:=by
   cases r2 with
   | none=>exact .inr ⟨_,hE.1⟩
   | some M' =>
     rcases hE with ⟨L,s⟩|⟨N,k,L,s,B⟩
     ·exact .inl L
     ·exact .inr ⟨_,s⟩
  rcases an with rfl | ⟨ch,rfl⟩
  ·clear hE CE RE;go_wp2
   exact Xz (v:=.tuple #[]) (by simp[results,results42,go_sem]) Yz (by rw[W.out];exact F.out)
  ·exact⟨Yz,by rw[W.out];exact F.out⟩
 have hc:((M.top.i:Int)==(o.code.length:Int))=false:=by simp;omega
 rw[hc]
 have av:M.top.i<o.code.length:=by omega
 obtain⟨x,hx⟩:∃ x,o.code[M.top.i]?=some x:=⟨_,Zg av⟩
 have W:Hid (y=IM.ins m aOp f.bump x):=by show _=_;rw[E2.out,hx]
 have ax:=G.out.2.code x (Zm hx);have T:=HM.out.2 fn (Zm D.out.1) o (Zm D.out.2) x (Zm hx);have bz:=G.out.2.codes;obtain⟨gc,oc,ip,ec,bf,a3⟩:=QfM al.out.code hx
 have z2:wa.cell? ⟨Z,2,none⟩=some (.slice p.pC o.code.length p.cC):=Qa ai.out 2 _ Yz;rw[ec] at z2
 have H:wa.cell? ⟨g6.t.c,2,none⟩=some (.int .i64 f.top.i):=Qa Sa.out.top.1 2 _ Yz;rw[l.out.1] at H
 have a9:Hid (wa.rangeAt gc (oc+M.top.i*8) (QZ x ip).toList):=bf;have az:=Qb a3;have HX:=Qb (Xh ax T);have br:=Qb av;clear hc ak E2 hx bf a3 ax T aq ec;go_upto_region 5 with fail
 refine is5 z2 H a9 (by omega) _ _ Yz (Xg (by kernel_rfl)) Yz Yz Yz ?_;rintro am bo wb U ab P bb;show wpList _ am _ [_] (QT _ bo [41,42,43,44,45,46,47,48,49,50]) wb;simp only[QT,Act.put,List.setIfInBounds_toArray,List.set_cons_zero,List.set_cons_succ,U,ab,P]
 have Sb:=Qb (Sa.out.below bb);have Tb:=Qb (Ta.out.trans (Sa.out.stepB bb));have af:=Qb (az.out.below bb);have bc:Hid (f={ M with fuel:=M.fuel+1 }):=by show _=_;rw[ap.out];exact ay.out.symm
 have KS:=Qb (Ka.out.sok (by have:=HN.out.1;omega));clear U ab P bb z2 H a9 Sa Ta az ai al;by_cases z:x.op=14
 ·obtain⟨-,-,a6⟩:=Qcy HX.out.1
  obtain⟨bd,bj,bp,bq⟩:=a6 z
  obtain⟨k,hk⟩:=Xc bd
  have ar:k<m.length:=by omega
  obtain⟨H,aj⟩:∃ H,m[k]?=some H:=⟨_,Zg ar⟩
  obtain⟨b2,a4,aw,ad,ag,-⟩:=Qbn HM.out.1 aj
  have CI:=Qb (QkI Sb.out KS.out ip z Ka.out.deep hk aj a4 aw ad ⟨by have:=HN.out.2;omega,by have:=ag.many.2;omega,by rw[ad];have:=ag.params.1;omega⟩ af.out.regs af.out.args ⟨by omega,by omega⟩);have ei:∀ N:IM,IM.ins m aOp N x=IM.call m N x:=fun N=>by unfold IM.ins;simp[z]
  have C:Hid (y=(IM.call m f x).map fun N=>if N.done then N.bump else { N with rest:=f.bump.top::f.rest }):=by show _=_;rw[W.out,ei,Qhy l.out.2.2]
  rw[ei] at CI
  have CD:Hid (∀ N,IM.call m f x=some N->N.rest=f.top::f.rest->N.done=false):=by
   intro N u hr
   cases hd:N.done with
   | false=>rfl
   | true =>
     exfalso
     unfold IM.call at u
     cases L:Zb f.top.r x.regs with
     | none=>rw[L] at u;cases u
     | some r =>
       rw[L] at u
       simp only at u
       cases s:Qp f.top.v x.args with
       | none=>rw[s] at u;cases u
       | some v =>
         rw[s] at u
         simp only at u
         cases B:m[x.k.toNat]? with
         | none=>rw[B] at u;cases u
         | some ff =>
           rw[B] at u
           simp only at u
           split at u
           ·split at u
            ·cases u
             have:f.rest.length=(f.top::f.rest).length:=congrArg List.length hr
             simp at this
            ·cases u
             have:=l.out.2.2
             rw[this] at hd
             cases hd
           ·cases u
  generalize bs:IM.call m f x=r2 at C CI CD;have a2:f.top.i<=100:=by rw[l.out.1];have:=br.out;omega
  clear bs aj a4 aw ad ag hk bd bj bp bq ar a6 ei z W;go_wp2_with fail
  refine CI.out.mono ?_;rintro X wc hI
  cases r2 with
  | none =>
    obtain⟨rfl,s⟩:=hI
    refine⟨Yz,?_⟩
    rw[C.out]
    exact⟨Yz,by have:=XTo.then Tb.out q.out.1 q.out.2 s;rw[bc.out] at this;exact this⟩
  | some M0 =>
    rcases hI with ⟨rfl,g',s,B,h4,h5⟩|⟨N,kk,L,rfl,B⟩
    ·have a0:=CD.out M0 Yz h5;have Sc:=Qb s;have F2:=s.frs;rw[h4,h5] at F2
     have fc:=F2.2.2.1.1;have y2:wc.cell? ⟨g6.t.c,2,none⟩=some (.int .i64 f.top.i):=Qa fc.1 2 _ Yz;have ao:=Qf fc.1 2;obtain⟨g8,S8,T8⟩:=s.next2 h4 h5
     have R:Hid (XGo g w (wc.setCell ⟨g6.t.c,2,none⟩ (.int .i64 ((f.top.i:Int)+1))) b most m { M0 with rest:=f.bump.top::f.rest } sc sa):=⟨g8,S8,(Tb.out.trans B).trans T8⟩;have E5:Hid (y=some { M0 with rest:=f.bump.top::f.rest }):=by show _=_;rw[C.out];simp[a0]
     clear CI s B h4 h5 F2 fc S8 T8 a0 C CD;generalize f.top.i=ii at *;go_wp2
     exact Xz (v:=.tuple #[]) (by simp[results,results42,go_sem]) Yz (by rw[E5.out];exact .inl ⟨Yz,R.out⟩)
    ·refine⟨Yz,?_⟩
     rw[C.out]
     subst L;exact .inr ⟨N,kk,Yz,XTo.then Tb.out q.out.1 q.out.2 B,⟨Yz,Yz,Yz,Yz,Yz,Yz⟩⟩
 ·have CI:=Qb (Qi6 HC.out Sb.out KS.out ip af.out HX.out.1 z);have C:Hid (y=(IM.ins m aOp f x).map IM.bump):=by show _=_;rw[W.out];exact QiK z
  have KI:=Qb (QgB (op:=aOp) Ka.out (by have:=HN.out.1;omega) HM.out.1 (fun k a b c h ha hb=>QfG ha hb h) HX.out.1 HX.out.2);generalize IM.ins m aOp f x=r2 at C CI KI;clear z W;go_wp2_with fail
  refine CI.out.mono ?_;rintro X wc hI
  cases r2 with
  | none =>
    obtain⟨rfl,s⟩:=hI
    refine⟨Yz,?_⟩
    rw[C.out]
    exact⟨Yz,by have:=XTo.then Tb.out q.out.1 q.out.2 s;rw[bc.out] at this;exact this⟩
  | some M0 =>
    rcases hI with ⟨rfl,g',s,B,h4,h5⟩|⟨N,kk,L,rfl,B⟩
    ·have K0:=KI.out M0 Yz;obtain⟨-,-,-,bm,bi,a1,a8,bn⟩:=K0.fr M0.top (by simp)
     have a7:=(((Zz HM.out.1).2 bm (Zm a1)).blocks bi (Zm a8)).codes;have a2:M0.top.i<=100:=by omega
     have y2:wc.cell? ⟨g'.t.c,2,none⟩=some (.int .i64 M0.top.i):=Qa s.top.1 2 _ Yz;have ao:=Qf s.top.1 2;have NX:=XTo.then (Tb.out.trans B) (h4.trans q.out.1) (h5.trans q.out.2) s.next
     rw[h4] at y2 ao NX
     have R:=Qb NX;have E5:Hid (y=some M0.bump):=C.out;clear CI s B h4 h5 K0 KI a1 a8 bn a7 NX C;have RR:Hid (XTo g w (wc.setCell ⟨g6.t.c,2,none⟩ (.int .i64 ((M0.top.i:Int)+1))) b most m M0.bump sc sa):=R.out;clear R;generalize M0.top.i=ii at *;go_wp2
     exact Xz (v:=.tuple #[]) (by simp[results,results42,go_sem]) Yz (by rw[E5.out];exact .inl ⟨Yz,RR.out.go⟩)
    ·refine⟨Yz,?_⟩
     rw[C.out]
     subst L;exact .inr ⟨N,kk,Yz,XTo.then Tb.out q.out.1 q.out.2 B,⟨Yz,Yz,Yz,Yz,Yz,Yz⟩⟩
end
def Qmq (X b:Nat) (pl:Int) (t:Tmp) (v:Value) (w:World):Prop :=
 v=(([(0,.pointer (some ⟨X,0,none⟩)),(11,.pointer (some ⟨b,0,none⟩)),(12,.pointer (some ⟨b,0,none⟩)),(13,.int .i64 pl),(14,.agg #[.int .i64 20,.int .i64 pl]),(15,.pointer (some ⟨b,0,none⟩)),(16,.pointer (some ⟨b,10,none⟩))]:List (Tmp × Value)).lookup t).getD undef
theorem it7 {b:Nat}{i:Int}(k:w6.cell? ⟨X,0,none⟩=some (.pointer (some ⟨b,0,none⟩))) (o:Hid (∀ wx,Below w6.heap.size w6 wx->Calls prog 66 #[.pointer (some ⟨b,0,none⟩)] wx fun e w'=>e=.returned (.int .i64 i)/\Below wx.heap.size wx w'))
 (a:Act) (m:Nat) (hn:a.tmps.size=m) (j:28<=m) (p:a.tmps.getD 0 undef=.pointer (some ⟨X,0,none⟩))
 (hend:∀ ops vs w',vs 14=.agg #[.int .i64 20,.int .i64 i]->vs 16=.pointer (some ⟨b,10,none⟩)->Below w6.heap.size w6 w'->wpList prog ops Q (Qb8 6 ((Tryz.f65.body.bind (Qn 7)).getD .skip)) (QT a vs [11,12,13,14,15,16]) w') :
 Code.wp prog ((Tryz.f65.body.bind (Qn 7)).getD .skip) Q a w6:=by
 conv=>arg 2;whnf
 refine Qu 6 (Qmq X b i) (fun w=>Below w6.heap.size w6 w) (fun w w'=>Below w.heap.size w w') (outs:=[0]) (gs:=[]) (bs:=[true,true,true,true,true,true]) (by kernel_rfl) (n:=28) hn j (by kernel_rfl) (by kernel_rfl) ?hR ?hG (QH Zr 1) ⟨p,Y⟩ ?hA ?hend
 case hR=>exact fun t v w w' _ h=>h
 case hG=>exact Y
 case hend=>exact fun ops vs w' d f=>hend ops vs w' (f 14 (by kernel_rfl)) (f 16 (by kernel_rfl)) d
 case hA =>
  refine⟨fun a w d f K g=>?_,?_⟩
  ·obtain⟨c,-⟩:=f
   have c:a.tmps.getD 0 undef=.pointer (some ⟨X,0,none⟩):=c;have q:=QI k d;go_simp;exact g _ _ Zr d Z
  refine⟨fun a w d f K g=>?_,?_⟩
  ·obtain⟨c,-⟩:=f
   have c:a.tmps.getD 0 undef=.pointer (some ⟨X,0,none⟩):=c;have q:=QI k d;go_simp;exact g _ _ Zr d Z
  refine⟨fun a w d f K g=>?_,?_⟩
  ·obtain⟨c,-⟩:=f
   have c:a.tmps.getD 12 undef=.pointer (some ⟨b,0,none⟩):=c;go_simp;refine Xm (o.out w d) ?_;rintro s r ⟨rfl,l⟩;go_simp;exact g _ _ l (d.trans (l.mono d.size)) Z
  refine⟨fun a w d f K g=>?_,?_⟩
  ·obtain⟨c,-⟩:=f
   have c:a.tmps.getD 13 undef=.int .i64 i:=c;rw[Za] at c
   go_simp;exact g _ _ Zr d Z
  refine⟨fun a w d f K g=>?_,?_⟩
  ·obtain⟨c,-⟩:=f
   have c:a.tmps.getD 11 undef=.pointer (some ⟨b,0,none⟩):=c;go_simp;exact g _ _ Zr d Z
  refine⟨fun a w d f K g=>?_,?_⟩
  ·obtain⟨c,-⟩:=f
   have c:a.tmps.getD 15 undef=.pointer (some ⟨b,0,none⟩):=c;go_simp;exact g _ _ Zr d Z
  trivial
section
variable {w w' w2:World}{b most n:Nat}{m:List (Qe 6)}{M M' N:IM}{sc sa:Int}{g g1:MG}{e:Ending}
theorem MAt.stuckC (S:MAt w b most m M sc sa g) (c:Int):XTo g w ((w.setCell ⟨b,10,none⟩ (.int .i64 20)).setCell ⟨b,11,none⟩ (.int .i64 c)) b most m M 20 c:=by
 have d:∀ k,k≠b->((w.setCell ⟨b,10,none⟩ (.int .i64 20)).setCell ⟨b,11,none⟩ (.int .i64 c)).heap[k]?=w.heap[k]?:=fun k a=>by rw[Xd _ _ _ _ a,Xd _ _ _ _ a]
 refine S.reBox (M':=M) (sc':=20) (sa':=c) Z Z Z (by simp) (fun k a f=>d k f) ⟨Z,Z,Z,Z⟩ (pi:=g.pi) (ci:=g.ci) (vb:=g.vb) ⟨S.inp,S.inpC⟩ (Zk (fun k a i=>d k (fun (e:k=b)=>a (e ▸ S.ob.1))) (fun _ h _=>h) S.back) ?_;rw[Qo (Qo S.box 10 _) 11 _]
 simp
theorem MAt.endC (S:MAt w b most m M sc sa g) (k:Int):XTo g w ((w.setCell ⟨b,9,none⟩ (.bool true)).setCell ⟨b,5,none⟩ (.int .i64 k)) b most m (M.over k) sc sa:=by
 have c:∀ x,x≠b->((w.setCell ⟨b,9,none⟩ (.bool true)).setCell ⟨b,5,none⟩ (.int .i64 k)).heap[x]?=w.heap[x]?:=fun x a=>by rw[Xd _ _ _ _ a,Xd _ _ _ _ a]
 refine S.reBox (M':=M.over k) (sc':=sc) (sa':=sa) Z Z Z (by simp) (fun x a d=>c x d) ⟨Z,Z,Z,Z⟩ (pi:=g.pi) (ci:=g.ci) (vb:=g.vb) ⟨S.inp,S.inpC⟩ (Zk (fun x a f=>c x (fun (e:x=b)=>a (e ▸ S.ob.1))) (fun _ h _=>h) S.back) ?_;rw[Qo (Qo S.box 9 _) 5 _]
 simp[IM.over]
theorem QeL {w:World}(X:Nat) :
 CallsD prog 65 #[Qgv X] .returning w fun e u' w'=>e=.returned (.tuple #[])/\u'=.returning/\w'=w:=by
 refine callsD_of_wpS func65 Z fun b c a=>?_;apply wpS_seq
 apply wpS_region
 simp[wpOpsS,go_sem,recoverD,a,ntmps65,Exit.thenS]
 rw[show (#[Qgv X]++(Array.replicate 27 undef).setIfInBounds 4 (Value.nilIface):Array Value)=#[Qgv X,undef,undef,undef,undef,Value.nilIface,undef,undef,undef,undef,undef,undef,undef,undef,undef,undef,undef,undef,undef,undef,undef,undef,undef,undef,undef,undef,undef,undef] from by kernel_rfl]
 refine wpS_of_wp ?_;go_wp2_with fail
 cases b
 simp_all [bodyPostS,results,results65]
theorem Qgj {w:World}(k:Int) (a:Blk w X #[.pointer (some ⟨b,0,none⟩)] 30) (S:MAt w b most m M sc sa g) :
 CallsD prog 65 #[Qgv X] (.panicking (Qje k)) w fun e u' w' =>
  e=.returned (.tuple #[])/\u'=.panicking [{ v:=.iface 128 (.int .i64 k),recovered:=true }]/\XTo g w w' b most m (M.over k) sc sa:=by
 have i:=Qa a 0 _ Z;have n:w.cell? ⟨b,9,none⟩=some (.bool M.done):=Qa S.box 9 _ Z;have j:w.cell? ⟨b,5,none⟩=some (.int .i64 M.fin):=Qa S.box 5 _ Z;have p:=Qf S.box 9;have o:=Qf S.box 5;have R:=Qb (S.endC k);have h:¬ X=b:=fun e=>Q8 a S.box (by decide) e;clear S a;refine callsD_of_wpS func65 Z fun q l d=>?_;apply wpS_seq
 apply wpS_region
 simp[wpOpsS,go_sem,recoverD,d,ntmps65,Exit.thenS]
 rw[show (#[Qgv X]++(Array.replicate 27 undef).setIfInBounds 4 (Value.iface 128 (.int .i64 k)):Array Value)=#[Qgv X,undef,undef,undef,undef,Value.iface 128 (.int .i64 k),undef,undef,undef,undef,undef,undef,undef,undef,undef,undef,undef,undef,undef,undef,undef,undef,undef,undef,undef,undef,undef,undef] from by kernel_rfl]
 refine wpS_of_wp ?_;have c:∀ w:World,(Instr.typeAssert (.iface 128 (.int .i64 k)) 20 127 true).run prog w=.ok (.tuple #[.agg #[],.bool false]) w:=fun _=>by kernel_rfl
 have f:∀ w:World,(Instr.typeAssert (.iface 128 (.int .i64 k)) 20 128 true).run prog w=.ok (.tuple #[.int .i64 k,.bool true]) w:=fun _=>by kernel_rfl
 go_wp2
 exact(show bodyPostS _ _ _ _ _ _ _ _ _ from ⟨Z,_,Z,.tuple #[],by simp[results,results65,go_sem],Z,Z,R.out⟩)
theorem Qep {w:World}{h:Int}(o:Blk w X #[.pointer (some ⟨b,0,none⟩)] 30) (S:MAt w b most m M sc sa g) (q:∀ wx,Below w.heap.size w wx->Calls prog 66 #[.pointer (some ⟨b,0,none⟩)] wx fun e w'=>e=.returned (.int .i64 h)/\Below wx.heap.size wx w') :
 CallsD prog 65 #[Qgv X] (.panicking stuckP) w fun e u' w' =>
  e=.returned (.tuple #[])/\u'=.panicking [{ v:=.iface 127 (.agg #[]),recovered:=true }]/\XTo g w w' b most m M 20 h:=by
 have f:=Qb (QY w (.cells #[] 127));have i:=Qb (S.below f.out);have p:=Qb (S.stepB f.out);have n:(w.alloc (.cells #[] 127)).cell? ⟨X,0,none⟩=some (.pointer (some ⟨b,0,none⟩)):=QI (Qa o 0 _ Z) f.out;have r:Hid (∀ wx,Below (w.alloc (.cells #[] 127)).heap.size (w.alloc (.cells #[] 127)) wx->Calls prog 66 #[.pointer (some ⟨b,0,none⟩)] wx fun e w'=>e=.returned (.int .i64 h)/\Below wx.heap.size wx w'):=fun wx z=>q wx (f.out.trans (z.mono f.out.size));clear S o q;refine callsD_of_wpS func65 Z fun C D s=>?_;apply wpS_seq
 apply wpS_region
 simp[wpOpsS,go_sem,recoverD,s,ntmps65,Exit.thenS]
 rw[show (#[Qgv X]++(Array.replicate 27 undef).setIfInBounds 4 (Value.iface 127 (.agg #[])):Array Value)=#[Qgv X,undef,undef,undef,undef,Value.iface 127 (.agg #[]),undef,undef,undef,undef,undef,undef,undef,undef,undef,undef,undef,undef,undef,undef,undef,undef,undef,undef,undef,undef,undef,undef] from by kernel_rfl]
 refine wpS_of_wp ?_;have t:∀ w:World,(Instr.typeAssert (.iface 127 (.agg #[])) 20 127 true).run prog w=.ok (.tuple #[.agg #[],.bool true]) w:=fun _=>by kernel_rfl
 go_upto_region 7 with fail
 refine it7 n r _ _ Z (Xg (by kernel_rfl)) Z ?_;rintro l B k c a j;show wpList _ l _ [_] (QT _ B [11,12,13,14,15,16]) k;simp only[QT,Act.put,List.setIfInBounds_toArray,List.set_cons_zero,List.set_cons_succ,c,a]
 have d:=Qb (i.out.below j);have R:=Qb (XTo.then (p.out.trans (i.out.stepB j)) Z Z (d.out.stuckC h));have A:k.cell? ⟨b,10,none⟩=some (.int .i64 sc):=Qa d.out.box 10 _ Z;have x:k.cell? ⟨b,11,none⟩=some (.int .i64 sa):=Qa d.out.box 11 _ Z;have u:=Qf d.out.box 10;have y:=Qf d.out.box 11;clear c a j n r d i p f;go_wp2
 exact(show bodyPostS _ _ _ _ _ _ _ _ _ from ⟨Z,_,Z,.tuple #[],by simp[results,results65,go_sem],Z,Z,R.out⟩)
def QkX (g:MG) (w:World) (b most:Nat) (m:List (Qe 6)) (M:IM) (r:Option IM) (e:Ending) (w':World):Prop:=e=.returned (.tuple #[])/\match r with
 | none=>XGo g w w' b most m { M with fuel:=M.fuel+1 } 20 (IM.place m M)
 | some M'=>∃ N,XGo g w w' b most m N 0 0/\N.like M'/\(M'.done=false->N=M')
theorem enters_step:Qjk 42:=fun _ _=>by kernel_rfl
theorem Qd4 (O:MakeArr) (S:MAt w b most m M 0 0 g) (K:IOk m n M) (hn:n<=800000) (v:(Qr m).1=0) (p:M64 m) (o:M.fuel<=most) (d:most<=100000) (z:M.done=false) :
 Calls prog 41 #[.pointer (some ⟨b,0,none⟩),.func (.func 42) #[.pointer (some ⟨b,0,none⟩)] #[]] w fun e w'=>QkX g w b most m M (IM.step m aOp most M) e w':=by
 have U:∀ (r:Fn) (first cap:Array Value) (w:World),(Instr.makeFunc r first cap).run prog w=.ok (.func r first cap) w:=fun _ _ _ _=>rfl;have H:=enters_step;unfold Qjk at H;have Q:=Qb (QY w (.cells #[.pointer (some ⟨b,0,none⟩)] 30));have L:=Qb (Qh w #[.pointer (some ⟨b,0,none⟩)] 30);have V:=Qb (S.below Q.out);have u:=Qb (S.stepB Q.out);have B:=Qb (QgX O V.out K hn v p o d z);have HS:=Qb S;have E:=Qb K;have C:=Qb v;have t:=Qb S.lt;generalize IM.step m aOp most M=y at B |-;clear S K hn v p o d O;go_enter_defers func41,ntmps41
 go_wp2_with fail
 refine B.out.mono ?_;rintro e' c P;have j:¬ g.A w.heap.size:=fun e=>by have:=t.out _ e;omega
 have q:w.heap.size<(w.alloc (.cells #[.pointer (some ⟨b,0,none⟩)] 30)).heap.size:=by simp
 cases y with
 | none =>
   obtain⟨rfl,g2,s,l,W,f2⟩:=P
   have a:Blk c w.heap.size #[.pointer (some ⟨b,0,none⟩)] 30:=(l.block _ q j).trans L.out;obtain⟨-,-,-,r,bl,G,I,hi⟩:=E.out.fr M.top (by simp)
   have F:=(Zz C.out).2 r (Zm G);have hB:=F.blocks bl (Zm I);have aa:=(Zz C.out).1.2
   have X:∀ i,Below c.heap.size c i->Calls prog 66 #[.pointer (some ⟨b,0,none⟩)] i fun e w'=>e=.returned (.int .i64 (IM.place m M))/\Below i.heap.size i w':=fun i bx =>
    Qf6 (M:={ M with fuel:=M.fuel+1 }) (s.below bx) (by have:=E.out.deep;show M.rest.length<=1000;omega) G I ⟨by omega,by have:=F.many.2;omega,by have:=hB.codes;omega⟩ hi
   show bodyPostD _ _ _ _ _ _;refine leaves_cons (f:=65) (args:=#[Qgv w.heap.size]) (by simp) (by simp[go_sem]) ?_;refine(Qep a s X).mono ?_
   rintro D T w5 ⟨rfl,rfl,x⟩;exact⟨.tuple #[],by simp[results,results41,go_sem],Z,XGo.then (u.out.trans l) x.go⟩
 | some M' =>
   rcases P with ⟨rfl,J⟩|⟨N,k,rfl,⟨g2,s,l,W,f2⟩,h⟩
   ·have R:Hid (∃ N,XGo g w c b most m N 0 0/\N.like M'/\(M'.done=false->N=M')):=⟨M',XGo.then u.out J,IM.like.refl _,fun _=>rfl⟩;clear J B H;go_wp2
    refine leaves_cons (f:=65) (args:=#[Qgv w.heap.size]) (by simp) (by simp[go_sem]) ?_;refine(QeL w.heap.size).mono ?_
    rintro D T w6 ⟨rfl,rfl,rfl⟩;exact⟨.tuple #[],by simp[results,results41,go_sem],Z,R.out⟩
   ·have a:Blk c w.heap.size #[.pointer (some ⟨b,0,none⟩)] 30:=(l.block _ q j).trans L.out;show bodyPostD _ _ _ _ _ _;refine leaves_cons (f:=65) (args:=#[Qgv w.heap.size]) (by simp) (by simp[go_sem]) ?_;refine(Qgj k a s).mono ?_
    rintro D T w5 ⟨rfl,rfl,x⟩;refine⟨.tuple #[],by simp[results,results41,go_sem],Z,N.over k,XGo.then (u.out.trans l) x.go,h,fun hd=>?_⟩
    have:(N.over k).done=M'.done:=h.done
    rw[hd] at this
    cases this
end
section
variable {w w' w2:World}{b most n:Nat}{m:List (Qe 6)}{M M' N:IM}{sc sa:Int}{g g1:MG}{e:Ending}
abbrev Z8 (c a:Int):Value:=.agg #[.int .i64 c,.int .i64 a]
def Qls (g:MG) (w:World) (b most:Nat) (m:List (Qe 6)) (M:IM) (r:Option IM) (e:Ending) (w':World):Prop:=match r with
 | none=>e=.returned (Z8 20 (IM.place m M))/\XGo g w w' b most m { M with fuel:=M.fuel+1 } 20 (IM.place m M)
 | some M'=>e=.returned (Z8 0 0)/\∃ N,XGo g w w' b most m N 0 0/\N.like M'/\(M'.done=false->N=M')
theorem Zs {w:World}{a0 c:Value}(h:w.heap[R]?=some (.cells #[a0,c] 32 (0,0))) (b a:Value) :
 ((w.setCell ⟨R,0,none⟩ b).setCell ⟨R,1,none⟩ a).heap[R]?=some (.cells #[b,a] 32 (0,0)):=by
 have:=Qo (Qo h 0 b) 1 a
 simpa using this
theorem MAt.other (S:MAt w b most m M sc sa g)(j:¬ g.A R) (hb:b<=R) (r:∀ c,w.heap[R]?≠some (.cells c 2 (0,0))) (q:w.heap.size<=w'.heap.size) (f:∀ k,k≠R->k<w.heap.size->w'.heap[k]?=w.heap[k]?):MAt w' b most m M sc sa g where
 box:=(f b (fun e=>j (e ▸ S.ob.1)) (XC S.box)).trans S.box
 heap:=S.heap.keep q (fun x a i=>f x (fun e=>j (e ▸ S.oa x a)) i)
 mod:=(Qam 6).keep (fun k d i=>f k (fun e=>by have:=d.2;omega) i) (fun _ h _=>h) S.mod
 inp:=intsL.keep (fun k d i=>f k (fun e=>by have:=d.2;omega) i) (fun _ h _=>h) S.inp
 inpC:=S.inpC
 calls:=QE S.calls (fun x a=>f x (fun e=>j (e ▸ (S.oc x a).1)) (S.lt x (S.oc x a).1))
 back:=by
  have l:∀ k,QkV w g.A g.lo k->k≠R:=fun k d e=>by obtain⟨c,o⟩:=d.2;subst e;exact r c o
  exact intsL.keep (fun k d i=>f k (l k d) i) (fun k d i=>⟨d.1,by obtain⟨c,o⟩:=d.2;exact⟨c,(f k (l k d) i).trans o⟩⟩) S.back
 out:=QE S.out (fun x a=>f x (fun e=>j (e ▸ (S.oo x a).1)) (S.lt x (S.oo x a).1))
 frs:=S.frs.keep (fun _ _ n p=>⟨n,p⟩) (fun y s=>by
  obtain⟨u,n,p,t⟩:=S.frs.mem y s
  exact⟨f _ (fun e=>j (e ▸ p.1)) (XC n.1),fun x a=>f x (fun e=>j (e ▸ (t x a).1)) (n.2.lt a)⟩)
 ob:=S.ob
 oc:=S.oc
 oo:=S.oo
 oa:=S.oa
 lt:=fun x a=>Zl (S.lt x a) q
 low:=Zt S.low q
theorem XGo.fault {a:World}{d:MG}(h:XGo d w1 w2 b most m N sc sa) (r:MAt a b most m M 0 0 d) (u:QN d.A d.A a w1) (g:w1.heap[a.heap.size]?=some (.cells #[.int .i64 0,.int .i64 0] 32 (0,0))) :
 w2.heap[a.heap.size]?=some (.cells #[.int .i64 0,.int .i64 0] 32 (0,0))/\∀ x0 x1:Value,XGo d a ((w2.setCell ⟨a.heap.size,0,none⟩ x0).setCell ⟨a.heap.size,1,none⟩ x1) b most m N sc sa:=by
 obtain⟨q,t,p⟩:=h
 have o:=XC g;have i:¬ d.A a.heap.size:=fun e=>by have:=r.lt _ e;omega
 have n:¬ q.A a.heap.size:=fun e=>by rcases p.own _ e with e | e;exact i e;omega
 have f:=(p.block _ o i).trans g;refine⟨f,fun x0 x1=>⟨q,?_,?_⟩⟩
 ·refine t.other n (Nat.le_of_lt (XC r.box)) (fun c e=>?_) (by simp) (fun k l _=>by rw[Xd _ _ _ _ l,Xd _ _ _ _ l]);rw[f] at e
  simp at e
 ·have T:=u.trans p;refine⟨T.os,T.tape,T.output,by have:=T.size;simp;omega,fun k l s=>?_,T.own⟩
  have j:k≠a.heap.size:=by omega
  rw[Xd _ _ _ _ j,Xd _ _ _ _ j]
  exact T.block k l s
theorem QgE (W:MakeArr) (S:MAt w b most m M 0 0 g) (K:IOk m n M) (hn:n<=800000) (U:(Qr m).1=0) (r:M64 m) (q:M.fuel<=most) (l:most<=100000) (i:M.done=false) :
 Calls prog 14 #[.pointer (some ⟨b,0,none⟩)] w fun e w'=>Qls g w b most m M (IM.step m aOp most M) e w':=by
 have aa:∀ (fn:Fn) (first cap:Array Value) (w:World),(Instr.makeFunc fn first cap).run prog w=.ok (.func fn first cap) w:=fun _ _ _ _=>rfl;have P:=Qb (QY w (.cells #[.int .i64 0,.int .i64 0] 32));have B:=Qb (Qh w #[.int .i64 0,.int .i64 0] 32);have z:=Qb (S.below P.out);have E:=Qb (S.stepB P.out);have A:=Qb (Qd4 W z.out K hn U r q l i);have C:=Qb S.lt;have s:=Qb S;have Q:(w.alloc (.cells #[.int .i64 0,.int .i64 0] 32)).cell? ⟨b,9,none⟩=some (.bool M.done):=Qa z.out.box 9 _ Z;have d:(w.alloc (.cells #[.int .i64 0,.int .i64 0] 32)).cell? ⟨b,10,none⟩=some (.int .i64 0):=Qa z.out.box 10 _ Z;rw[i] at Q
 generalize IM.step m aOp most M=O at A |-;clear S K hn U r q l W i;go_enter func14,ntmps14
 go_upto_region 1 with fail
 have x:w.heap.size<(w.alloc (.cells #[.int .i64 0,.int .i64 0] 32)).heap.size:=by simp
 generalize w.alloc (.cells #[.int .i64 0,.int .i64 0] 32)=w1 at P B z E A Q d x |-;clear x C;generalize T:w.heap.size=R at B |-;have J:=Qb T;clear T;go_upto_region 3 with (go_at_call 41;refine A.out.mono ?_;rintro e' k ⟨rfl,L⟩)
 clear A Q d;have c:w1.heap[w.heap.size]?=some (.cells #[.int .i64 0,.int .i64 0] 32 (0,0)):=by rw[J.out];exact B.out
 cases O with
 | none =>
   obtain⟨a,h⟩:=L.fault s.out E.out c
   rw[J.out] at a h
   obtain⟨g2,j,I⟩:=L
   have d:k.cell? ⟨b,10,none⟩=some (.int .i64 20):=Qa j.box 10 _ Z;have t:k.cell? ⟨b,11,none⟩=some (.int .i64 (IM.place m M)):=Qa j.box 11 _ Z;have r0:=Qa a 0 _ Z;have r1:=Qa a 1 _ Z;have z0:=Qf a 0;have z1:=Qf a 1;have F:=Qb (h (.int .i64 20) (.int .i64 (IM.place m M)));have D:=Qb a;clear a h j I c;obtain⟨y,f⟩:∃ y,IM.place m M=y:=⟨_,Z⟩
   rw[f] at t F
   have o:=Qb f;clear f;go_wp2_with fail
   have X:=Qb (Zs D.out (.int .i64 20) (.int .i64 y));generalize (k.setCell ⟨R,0,none⟩ (.int .i64 20)).setCell ⟨R,1,none⟩ (.int .i64 y)=w3 at F X |-;have H:=Qa X.out 0 _ Z;have G:=Qa X.out 1 _ Z;exact Xy (v:=Z8 20 y) (by simp[results,results14,go_sem,H,G]) Z ⟨by rw[o.out],by rw[o.out];exact F.out⟩
 | some M' =>
   obtain⟨N,V,p,u⟩:=L
   obtain⟨a,h⟩:=V.fault s.out E.out c
   rw[J.out] at a h
   obtain⟨g2,j,I⟩:=V
   have d:k.cell? ⟨b,10,none⟩=some (.int .i64 0):=Qa j.box 10 _ Z;have t:k.cell? ⟨b,11,none⟩=some (.int .i64 0):=Qa j.box 11 _ Z;have r0:=Qa a 0 _ Z;have r1:=Qa a 1 _ Z;have z0:=Qf a 0;have z1:=Qf a 1;have F:=Qb (Xh (h (.int .i64 0) (.int .i64 0)) (Xh p u));have D:=Qb a;clear a h j I c p u;go_wp2_with fail
   have X:=Qb (Zs D.out (.int .i64 0) (.int .i64 0));generalize (k.setCell ⟨R,0,none⟩ (.int .i64 0)).setCell ⟨R,1,none⟩ (.int .i64 0)=w3 at F X |-;have H:=Qa X.out 0 _ Z;have G:=Qa X.out 1 _ Z;exact Xy (v:=Z8 0 0) (by simp[results,results14,go_sem,H,G]) Z ⟨Z,N,F.out.1,F.out.2.1,F.out.2.2⟩
theorem QhP (S:MAt w b most m M sc sa g):Calls prog 16 #[.pointer (some ⟨b,0,none⟩)] w fun e w'=>e=.returned (.bool M.done)/\w'=w:=by
 have c:w.cell? ⟨b,9,none⟩=some (.bool M.done):=Qa S.box 9 _ Z;clear S;generalize M.done=a at *;go_enter func16,ntmps16
 go_wp2
 go_ret;exact⟨Z,Z⟩
end
def Qb0 (w:World) (l:List Int) (e:Ending) (w':World):Prop:=∃ a cap,e=.returned (.slice a l.length cap)/\l.length<=cap/\w'.ownsRow 0 2 1 (.slice a l.length cap) l.length (l.map (Value.int .i64))/\(∀ x,(Value.slice a l.length cap).ownBlock=some x->w.heap.size<=x)/\Below w.heap.size w w'
theorem Qfz {l:List Int}(h:w.ownsRow 0 2 1 (.slice a l.length cap) l.length (l.map (Value.int .i64))) (b:∀ x∈l,Zh x) (m:∀ x,(Value.slice a l.length cap).ownBlock=some x->O x):intsL.In w O l [.slice a l.length cap]:=by
 refine⟨a,cap,Z,fun i x c=>?_⟩
 have u:=(Zi c).1;rcases h.2 with ⟨e,q⟩|⟨g,p,o,e,_,k,r,s,t,n⟩
 ·omega
 ·rw[Value.slice.injEq] at e
  obtain⟨rfl,-,rfl⟩:=e
  refine⟨g,0,[.int .i64 x],Z,m g Z,XC k,fun j f=>?_,Z,b x (Zm c)⟩
  have f:j<1:=f
  have:j=0:=by omega
  subst this;show w.cell? ⟨g,0+i*1+0,none⟩=_;rw[XK,XL,Nat.add_zero]
  have d:(l.map (Value.int .i64))[i]?=some (.int .i64 x):=by rw[XS,c];rfl
  rw[<-n,XR,Xs (by omega),Array.getElem?_toList] at d
  exact Qa k _ _ d
theorem QbS {Q:Nat->Prop}{l:List Int}(h:intsL.In w Q l [.slice p l.length c]) (hn:l.length<=1000000) :
 Calls prog 36 #[.slice p l.length c] w fun e w'=>Qb0 w l e w':=by
 obtain⟨i0,hi,v,F,B⟩:=iInfo64
 have q:∀ (w:World) (a:Option Addr) (n c C G:Nat),(binOp .eql 25 (.slice a n c) (.slice none C G)).run prog w=.ok (.bool a.isNone) w:=fun w a n c C G=>Lib.run_eql_slice_nil w _ _ a n c C G iUnder64
 cases p with
 | none =>
   have D:l=[]:=by
    cases l with
    | nil=>rfl
    | cons y K =>
      obtain⟨g,o,e,-⟩:=QaT h (i:=0) (by simp)
      cases e
   subst D;clear h;go_enter func36,ntmps36
   go_wp2
   go_ret;exact⟨none,0,Z,Ze,⟨Z,.inl ⟨Z,Z⟩⟩,fun x A=>by simp[Value.ownBlock] at A,Zr⟩
 | some ad =>
   have N:Hid (∀ (j:Nat) (u:Value),(l.map (Value.int .i64))[j]?=some u->(w.alloc (.cells #[] 2)).cell? (ad.add j)=some u):=by
    intro j u t;rw[XS] at t
    obtain⟨y,U,rfl⟩:=Option.map_eq_some_iff.1 t
    have hj:=(Zi U).1;obtain⟨g,o,e,-,hg,hc⟩:=QaT h hj
    cases e
    rw[Addr.add_lit]
    refine Lib.cell?_alloc_some _ ?_;rw[hc]
    simp[List.getD,U]
   have M:Hid (∀ u∈l.map (Value.int .i64),u.oneCell'=true):=by intro u t;obtain⟨x,_,rfl⟩:=List.mem_map.1 t;rfl
   have J:Hid ((l.map (Value.int .i64)).length=l.length*1):=by show _=_;simp
   have f:=Qb (QY w (.cells #[] 2));have S:Hid ((w.alloc (.cells #[] 2)).heap.size=w.heap.size+1):=by show _=_;simp
   clear h;generalize r:l.map (Value.int .i64)=K at *;have E:=Qb r;generalize s:l.length=W at *;have I:=Qb s;clear r s;go_enter func36,ntmps36
   go_wp2_with (at_builtin;refine ZA _ Z _ _ 25 Z 2 i0 (.int .i64 0) 1 8 iUnder64 hi v F B Z (by decide) _ _ _ Z (World.ownsRow_made w #[] 0 (Xb _) (Xb _) Z) ad W c K Z J.out N.out M.out (by unfold maxLen;omega) (by omega) ?_)
   intro L T z d P
   have R:Hid (Qb0 w l (.returned L) T):=by
    have b:T.ownsRow 0 2 1 L l.length (l.map (Value.int .i64)):=by rw[E.out,I.out];simpa using z
    obtain⟨O,H,rfl⟩:=QaW b
    have m:l.length<=H:=by
     rcases b.2 with ⟨e,e0⟩|⟨g,cp,aa,e,_,hh,X,_⟩
     ·rw[Value.slice.injEq] at e;omega
     ·rw[Value.slice.injEq] at e;omega
    refine⟨O,H,Z,m,b,fun x A=>?_,?_⟩
    ·rcases P x A with e | e
     ·simp[Value.ownBlock] at e;omega
     ·have:=S.out;omega
    ·refine⟨d.os.trans f.out.os,d.tape.trans f.out.tape,d.output.trans f.out.output,Zt f.out.size d.size,fun k V=>(d.block k (by have:=S.out;omega) (fun e=>by simp[Value.ownBlock] at e;omega)).trans (f.out.block k V)⟩
   obtain⟨O,H,rfl⟩:=QaW z
   clear z d P N M J f;go_wp2
   go_ret;exact R.out
def QhC (lo:Nat) (l:List Int) (v:Value) (w:World):Prop:=∃ a cap,v=.slice a l.length cap/\l.length<=cap/\w.ownsRow 0 2 1 (.slice a l.length cap) l.length (l.map (Value.int .i64))/\∀ x,(Value.slice a l.length cap).ownBlock=some x->lo<=x
theorem QhC.below {l:List Int}{w w':World}(h:QhC lo l v w) (b:Below w.heap.size w w'):QhC lo l v w':=by
 obtain⟨a,c,e,i,d,g⟩:=h
 exact⟨a,c,e,i,QE d (fun x f=>b.block x (XC (QG d f).choose_spec)),g⟩
def Ql4 (w6:World) (Z cb co:Nat) (pb po:Option Addr) (lb lo:List Int) (t:Tmp) (v:Value) (w:World):Prop :=
 match ([(10,QhC w6.heap.size lb),(13,QhC w6.heap.size lo)]:List (Tmp × (Value->World->Prop))).lookup t with
 | some p=>p v w
 | none=>v=(([(3,.pointer (some ⟨Z,0,none⟩)),(8,.pointer (some ⟨Z,1,none⟩)),(9,.slice pb lb.length cb),(11,.pointer (some ⟨Z,2,none⟩)),(12,.slice po lo.length co),(14,.pointer (some ⟨Z,1,none⟩))]:List (Tmp × Value)).lookup t).getD undef
theorem io2 {Z o s:Nat}{r q:Option Addr}{g i:List Int}(H:w6.cell? ⟨Z,1,none⟩=some (.slice r g.length o)) (I:w6.cell? ⟨Z,2,none⟩=some (.slice q i.length s)) (G:Hid (∀ wx,Below w6.heap.size w6 wx->Calls prog 36 #[.slice r g.length o] wx fun e w'=>Qb0 wx g e w')) (J:Hid (∀ wx,Below w6.heap.size w6 wx->Calls prog 36 #[.slice q i.length s] wx fun e w'=>Qb0 wx i e w'))
 (a:Act) (m:Nat) (hn:a.tmps.size=m) (y:17<=m) (l:a.tmps.getD 3 undef=.pointer (some ⟨Z,0,none⟩))
 (hend:∀ ops vs w',(QhC w6.heap.size g) (vs 10) w'->(QhC w6.heap.size i) (vs 13) w'->vs 14=.pointer (some ⟨Z,1,none⟩)->Below w6.heap.size w6 w'->wpList prog ops Q (Qb8 7 ((Tryz.f20.body.bind (Qn 2)).getD .skip)) (QT a vs [8,9,10,11,12,13,14]) w') :
 Code.wp prog ((Tryz.f20.body.bind (Qn 2)).getD .skip) Q a w6:=by
 conv=>arg 2;whnf
 refine Qu 7 (Ql4 w6 Z o s r q g i) (fun w=>Below w6.heap.size w6 w) (fun w w'=>Below w.heap.size w w') (outs:=[3]) (gs:=[]) (bs:=[true,true,true,true,true,true,true]) (by kernel_rfl) (n:=17) hn y (by kernel_rfl) (by kernel_rfl) ?hR ?hG (QH Zr 1) ⟨l,Y⟩ ?hA ?hend
 case hR =>
  intro t v w w' D h;unfold Ql4 at h |-;split at h
  ·rename_i p j
   simp only[List.lookup_cons,List.lookup_nil] at j
   split at j
   ·cases j;exact h.below D
   ·split at j
    ·cases j;exact h.below D
    ·cases j
  ·exact h
 case hG=>exact Y
 case hend=>exact fun ops vs w' b d=>hend ops vs w' (d 10 (by kernel_rfl)) (d 13 (by kernel_rfl)) (d 14 (by kernel_rfl)) b
 case hA =>
  refine⟨fun a w b d K f=>?_,?_⟩
  ·obtain⟨c,-⟩:=d
   have c:a.tmps.getD 3 undef=.pointer (some ⟨Z,0,none⟩):=c;go_simp;exact f _ _ Zr b Yz
  refine⟨fun a w b d K f=>?_,?_⟩
  ·obtain⟨c,-⟩:=d
   have c:a.tmps.getD 8 undef=.pointer (some ⟨Z,1,none⟩):=c;have L:=QI H b;go_simp;exact f _ _ Zr b Yz
  refine⟨fun a w b d K f=>?_,?_⟩
  ·obtain⟨c,-⟩:=d
   have c:a.tmps.getD 9 undef=.slice r g.length o:=c;go_simp;refine Xm (G.out w b) ?_;rintro F E ⟨B,z,rfl,C,A,l,k⟩;go_simp;exact f _ _ k (b.trans (k.mono b.size)) ⟨B,z,Yz,C,A,fun x u=>Zt b.size (l x u)⟩
  refine⟨fun a w b d K f=>?_,?_⟩
  ·obtain⟨c,-⟩:=d
   have c:a.tmps.getD 3 undef=.pointer (some ⟨Z,0,none⟩):=c;go_simp;exact f _ _ Zr b Yz
  refine⟨fun a w b d K f=>?_,?_⟩
  ·obtain⟨c,-⟩:=d
   have c:a.tmps.getD 11 undef=.pointer (some ⟨Z,2,none⟩):=c;have L:=QI I b;go_simp;exact f _ _ Zr b Yz
  refine⟨fun a w b d K f=>?_,?_⟩
  ·obtain⟨c,-⟩:=d
   have c:a.tmps.getD 12 undef=.slice q i.length s:=c;go_simp;refine Xm (J.out w b) ?_;rintro F E ⟨B,z,rfl,C,A,l,k⟩;go_simp;exact f _ _ k (b.trans (k.mono b.size)) ⟨B,z,Yz,C,A,fun x u=>Zt b.size (l x u)⟩
  refine⟨fun a w b d K f=>?_,?_⟩
  ·obtain⟨c,-⟩:=d
   have c:a.tmps.getD 3 undef=.pointer (some ⟨Z,0,none⟩):=c;go_simp;exact f _ _ Zr b Yz
  trivial
section
variable {w w' w2:World}{b most n:Nat}{m:List (Qe 6)}{M M' N:IM}{sc sa:Int}{g g1:MG}{e:Ending}
def Qlw (lo:Nat) (M:IM) (v:Value) (w:World):Prop:=∃ vb vo,v=.agg #[.int .i64 M.fin,vb,vo,.int .i64 M.fuel]/\QhC lo M.back vb w/\QhC lo M.out vo w
theorem Qcj {w:World}{a0 e g f:Value}(h:w.heap[R]?=some (.cells #[a0,e,g,f] 44 (0,0))) (c d b a:Value) :
 ((((w.setCell ⟨R,0,none⟩ c).setCell ⟨R,1,none⟩ d).setCell ⟨R,2,none⟩ b).setCell ⟨R,3,none⟩ a).heap[R]?=some (.cells #[c,d,b,a] 44 (0,0)):=by
 have:=Qo (Qo (Qo (Qo h 0 c) 1 d) 2 b) 3 a
 simpa using this
theorem Qey (S:MAt w b most m M sc sa g) (ho:M.out.length<=1000000) (hb:M.back.length<=1000000) (ae:∀ x∈M.out,Zh x) :
 Calls prog 20 #[.pointer (some ⟨b,0,none⟩)] w fun e w'=>∃ v,e=.returned v/\Qlw w.heap.size M v w'/\Below w.heap.size w w':=by
 obtain⟨po,co,eo⟩:=QaW S.out
 obtain⟨V,U,Q,-⟩:=S.back
 have Q:g.vb=.slice V M.back.length U:=by simpa using Q
 have K:=Qb (QY w (.cells #[.int .i64 0,.slice none 0 0,.slice none 0 0,.int .i64 0] 44));have BR:=Qb (Qh w #[.int .i64 0,.slice none 0 0,.slice none 0 0,.int .i64 0] 44);have E:=S.below K.out;have q5:=Qa E.box 5 _ Yz;have q6:(w.alloc (.cells #[.int .i64 0,.slice none 0 0,.slice none 0 0,.int .i64 0] 44)).cell? ⟨b,6,none⟩=some g.vb:=Qa E.box 6 _ Yz;have q7:(w.alloc (.cells #[.int .i64 0,.slice none 0 0,.slice none 0 0,.int .i64 0] 44)).cell? ⟨b,7,none⟩=some g.vo:=Qa E.box 7 _ Yz;have q8:=Qa E.box 8 _ Yz;rw[Q] at q6
 rw[eo] at q7
 have HB:=Qb E.back;have HO:=Qb E.out;rw[Q] at HB
 rw[eo] at HO
 have ah:=Qb ae;clear S E eo Q ae;go_enter func20,ntmps20
 go_upto_region 1 with fail
 generalize w.alloc (.cells #[.int .i64 0,.slice none 0 0,.slice none 0 0,.int .i64 0] 44)=H at K BR q5 q6 q7 q8 HB HO |-;generalize hR:w.heap.size=R at BR |-;have HR:=Qb hR;clear hR;have I:=Qb (QY H (.cells #[.int .i64 M.fin,.slice V M.back.length U,.slice po M.out.length co,.int .i64 M.fuel] 44));have C:=Qb (Qh H #[.int .i64 M.fin,.slice V M.back.length U,.slice po M.out.length co,.int .i64 M.fuel] 44);go_upto_region 2 with fail
 have y:Hid (R≠H.heap.size):=by show _≠_;have:=XC BR.out;omega
 have F:Hid (w.heap.size<=H.heap.size):=K.out.size;generalize H.alloc (.cells #[.int .i64 M.fin,.slice V M.back.length U,.slice po M.out.length co,.int .i64 M.fuel] 44)=J at I C |-;generalize H.heap.size=Z at C y F |-;have CB:Hid (∀ l,Below J.heap.size J l->Calls prog 36 #[.slice V M.back.length U] l fun e w'=>Qb0 l M.back e w'):=fun l bx=>QbS (Ya (Ya HB.out I.out) bx) hb;have CO:Hid (∀ l,Below J.heap.size J l->Calls prog 36 #[.slice po M.out.length co] l fun e w'=>Qb0 l M.out e w'):=fun l bx=>QbS (Ya (Ya (Qfz (O:=fun _=>True) HO.out ah.out (fun _ _=>trivial)) I.out) bx) ho;have z:=Qb (K.out.trans (I.out.mono K.out.size));have X:=Qb (Blk.below BR.out I.out);refine io2 (Qa C.out 1 _ Yz) (Qa C.out 2 _ Yz) CB CO _ _ Yz (Xg (by kernel_rfl)) Yz ?_;rintro al vs n ⟨h,i,t,aa,af,P⟩ ⟨f,a,r,ag,ac,W⟩ s b5;show wpList _ al _ [_,_,_] (QT _ vs [8,9,10,11,12,13,14]) n;simp only[QT,Act.put,List.setIfInBounds_toArray,List.set_cons_zero,List.set_cons_succ,t,r,s]
 have c:=Blk.below C.out b5;have ai:=Qb (Blk.below X.out b5);have B5:=Qb (z.out.trans (b5.mono z.out.size));have ak:Hid (Z<J.heap.size):=XC C.out;have A:=Qb (Xh af P);have D:=Qb (Xh ac W);have T:=Qb (Xh aa ag);have k0:=Qa c 0 _ Yz;have k1:=Qa c 1 _ Yz;have k2:=Qa c 2 _ Yz;have k3:=Qa c 3 _ Yz;have y0:=Qf c 0;have y1:=Qf c 1;have y2:=Qf c 2;have y3:=Qf c 3;have G:=Qo (Qo c 1 (.slice h M.back.length i)) 2 (.slice f M.out.length a);have G:Hid (((n.setCell ⟨Z,1,none⟩ (.slice h M.back.length i)).setCell ⟨Z,2,none⟩ (.slice f M.out.length a)).heap[Z]?=some (.cells #[.int .i64 M.fin,.slice h M.back.length i,.slice f M.out.length a,.int .i64 M.fuel] 44 (0,0))):=G.trans (by simp);have B:Hid (∀ k,k≠Z->((n.setCell ⟨Z,1,none⟩ (.slice h M.back.length i)).setCell ⟨Z,2,none⟩ (.slice f M.out.length a)).heap[k]?=n.heap[k]?):=fun k u=>by rw[Xd _ _ _ _ u,Xd _ _ _ _ u]
 have aj:Hid (n.heap.size=((n.setCell ⟨Z,1,none⟩ (.slice h M.back.length i)).setCell ⟨Z,2,none⟩ (.slice f M.out.length a)).heap.size):=by show _=_;simp
 have N:Hid (Below w.heap.size w ((n.setCell ⟨Z,1,none⟩ (.slice h M.back.length i)).setCell ⟨Z,2,none⟩ (.slice f M.out.length a))):=(B5.out.setCell (p:=⟨Z,1,none⟩) F.out _).setCell (p:=⟨Z,2,none⟩) F.out _;clear t r s aa af P ag ac W b5 CB CO c C q5 q6 q7 q8 HB HO K I;go_upto_region 3 with fail
 generalize (n.setCell ⟨Z,1,none⟩ (.slice h M.back.length i)).setCell ⟨Z,2,none⟩ (.slice f M.out.length a)=w6 at G B aj N |-;clear k0 k1 k2 k3 y0 y1 y2 y3;have d:=Qb ((B.out R y.out).trans ai.out);have e0:=Qa G.out 0 _ Yz;have e1:=Qa G.out 1 _ Yz;have e2:=Qa G.out 2 _ Yz;have e3:=Qa G.out 3 _ Yz;have r0:=Qa d.out 0 _ Yz;have r1:=Qa d.out 1 _ Yz;have r2:=Qa d.out 2 _ Yz;have r3:=Qa d.out 3 _ Yz;have z0:=Qf d.out 0;have z1:=Qf d.out 1;have z2:=Qf d.out 2;have z3:=Qf d.out 3;have am:¬ R=Z:=y.out;go_wp2_with fail
 have L:=Qcj d.out (.int .i64 M.fin) (.slice h M.back.length i) (.slice f M.out.length a) (.int .i64 M.fuel);have o:w.heap.size<=R:=by rw[HR.out];exact Ze
 have B9:=(((N.out.setCell (p:=⟨R,0,none⟩) o (.int .i64 M.fin)).setCell (p:=⟨R,1,none⟩) o (.slice h M.back.length i)).setCell (p:=⟨R,2,none⟩) o (.slice f M.out.length a)).setCell (p:=⟨R,3,none⟩) o (.int .i64 M.fuel);have O9:∀ k,k≠R->((((w6.setCell ⟨R,0,none⟩ (.int .i64 M.fin)).setCell ⟨R,1,none⟩ (.slice h M.back.length i)).setCell ⟨R,2,none⟩ (.slice f M.out.length a)).setCell ⟨R,3,none⟩ (.int .i64 M.fuel)).heap[k]?=w6.heap[k]?:=fun k u=>by rw[Xd _ _ _ _ u,Xd _ _ _ _ u,Xd _ _ _ _ u,Xd _ _ _ _ u]
 generalize ((((w6.setCell ⟨R,0,none⟩ (.int .i64 M.fin)).setCell ⟨R,1,none⟩ (.slice h M.back.length i)).setCell ⟨R,2,none⟩ (.slice f M.out.length a)).setCell ⟨R,3,none⟩ (.int .i64 M.fuel))=w9 at L B9 O9 |-
 have j:∀ x,J.heap.size<=x->w9.heap[x]?=n.heap[x]?:=fun x q=>by
  have h1:=ak.out;have h2:=XC X.out;exact(O9 x (by omega)).trans (B.out x (by omega))
 have f0:=Qa L 0 _ Yz;have f1:=Qa L 1 _ Yz;have f2:=Qa L 2 _ Yz;have f3:=Qa L 3 _ Yz;have ad:=z.out.size;exact Xy (v:=.agg #[.int .i64 M.fin,.slice h M.back.length i,.slice f M.out.length a,.int .i64 M.fuel]) (by simp[results,results20,go_sem,f0,f1,f2,f3]) Yz ⟨_,Yz,⟨_,_,Yz,⟨h,i,Yz,T.out.1,QE A.out.1 (fun x q=>j x (A.out.2 x q)),fun x q=>Zt ad (A.out.2 x q)⟩,⟨f,a,Yz,T.out.2,QE D.out.1 (fun x q=>j x (D.out.2 x q)),fun x q=>Zt ad (D.out.2 x q)⟩⟩,B9⟩
end
section
variable {m:List (Qe 6)}{op:Int->Int->Int->Option Int}{most:Nat}
theorem steps_snoc:∀ (k:Nat) (M:IM),IM.steps m op most (k+1) M=(match IM.steps m op most k M with | none=>none | some N=>if N.done then some N else N.step m op most)
 | 0,M=>by
   show (if M.done then some M else match M.step m op most with | none=>none | some M'=>some M')=if M.done then some M else M.step m op most
   by_cases h:M.done=true
   ·rw[Xs h,Xs h]
   ·rw[Xr h,Xr h];cases M.step m op most<;>rfl
 | k+1,M=>by
   have a:IM.steps m op most (k+1+1) M=if M.done then some M else match M.step m op most with | none=>none | some M'=>M'.steps m op most (k+1):=rfl
   have b:IM.steps m op most (k+1) M=if M.done then some M else match M.step m op most with | none=>none | some M'=>M'.steps m op most k:=rfl
   rw[a,b]
   by_cases h:M.done=true
   ·rw[Xs h,Xs h];simp[h]
   ·rw[Xr h,Xr h]
    cases M.step m op most with
    | none=>rfl
    | some M'=>exact steps_snoc k M'
theorem QdO {M N:IM}(h:IM.steps m op most k M=some N) (a:N.done=false):IM.steps m op most (k+1) M=N.step m op most:=by
 rw[steps_snoc,h]
 simp[a]
theorem Qbi {M:IM}:∀ {k j:Nat},IM.steps m op most k M=none->IM.steps m op most (k+j) M=none
 | k,0,h=>h
 | k,j+1,h=>by rw[<-Nat.add_assoc,steps_snoc,Qbi (j:=j) h]
theorem Qa7 {M N:IM}:∀ {k j:Nat},IM.steps m op most k M=some N->N.done=true->IM.steps m op most (k+j) M=some N
 | k,0,h,_=>h
 | k,j+1,h,hd=>by rw[<-Nat.add_assoc,steps_snoc,Qa7 (j:=j) h hd];simp[hd]
theorem Qbx (f:(Qr m).1=0) (e:M64 m) (d:∀ k a b c,op k a b=some c->Zh a->Zh b->Zh c){M:IM}(I:IOk m 0 M):∀ (k:Nat){N:IM},k<=30000->IM.steps m op most k M=some N->IOk m (28*k) N
 | 0,N,_,h=>by cases h;exact I
 | k+1,N,hk,h=>by
   rw[steps_snoc] at h
   cases hs:IM.steps m op most k M with
   | none=>rw[hs] at h;cases h
   | some N' =>
     rw[hs] at h
     simp only at h
     have J:=Qbx f e d I k (by omega) hs;by_cases g:N'.done=true
     ·rw[Xs g] at h;cases h;exact J.mono (by omega)
     ·rw[Xr g] at h
      exact(Qi5 J (by omega) f e d N h).mono (by omega)
end
def QlV (w:World) (m:List (Qe 6)) (inp:List Int) (fuel pages:Nat) (e:Ending) (w':World):Prop :=
 ∃ b g,e=.returned (.tuple #[.pointer (some ⟨b,0,none⟩),Z8 0 0])/\MAt w' b fuel m (IM.start inp pages) 0 0 g/\(∀ x,g.A x->w.heap.size<=x)/\Below w.heap.size w w'
def Qdw (m:List (Qe 6)) (most:Nat) (M0:IM) (sa:Int):Prop:=∃ k N,k<=most+1/\IM.steps m aOp most k M0=some N/\N.done=false/\IM.step m aOp most N=none/\sa=IM.place m N
structure QdJ (wL w:World) (b F most:Nat) (m:List (Qe 6)) (M0 N:IM) (sc sa:Int) (g:MG):Prop where
 at_:MAt w b most m N sc sa g
 far:∀ x,g.A x->wL.heap.size<=x
 bel:Below wL.heap.size wL w
 box:Blk w F #[.int .i64 sc,.int .i64 sa] 32
 apart:¬ g.A F
 farF:wL.heap.size<=F/\b<=F
 st:(sc=0/\sa=0/\∃ k M',k<=most+1/\IM.steps m aOp most k M0=some M'/\N.like M'/\(M'.done=false->N=M'/\M'.fuel=k))\/(sc=20/\Qdw m most M0 sa)
def boolOf:Value->Bool
 | .bool b=>b
 | _=>false
def QeV (b F most:Nat) (w:World):Nat:=if boolOf ((w.cell? ⟨b,9,none⟩).getD undef) then 0 else if intOf ((w.cell? ⟨F,0,none⟩).getD undef)=0 then most+1 - (intOf ((w.cell? ⟨b,8,none⟩).getD undef)).toNat+1 else 0
section
variable {wL w w':World}{b F most:Nat}{m:List (Qe 6)}{M0 N:IM}{sc sa:Int}{g:MG}
theorem QdJ.left (R:QdJ wL w b F most m M0 N sc sa g):QeV b F most w=if N.done then 0 else if sc=0 then most+1 - N.fuel+1 else 0:=by
 unfold QeV;have d:w.cell? ⟨b,9,none⟩=some (.bool N.done):=Qa R.at_.box 9 _ Z;have f:w.cell? ⟨b,8,none⟩=some (.int .i64 N.fuel):=Qa R.at_.box 8 _ Z;have e:=Qa R.box 0 _ Z;rw[d,f,e]
 by_cases a:N.done=true
 ·simp[a,boolOf]
 ·by_cases c:sc=0
  ·simp[a,c,intOf,boolOf]
  ·simp[a,c,intOf,boolOf]
def Qd0 (w:World) (m:List (Qe 6)) (inp:List Int) (most pages:Nat) (e:Ending) (w':World):Prop:=Below w.heap.size w w' /\
 ((∃ sa:Int,Qdw m most (IM.start inp pages) sa/\e=.returned (.tuple #[.agg #[.int .i64 0,.slice none 0 0,.slice none 0 0,.int .i64 0],Z8 20 sa])) \/
  ∃ k M',k<=most+1/\IM.steps m aOp most k (IM.start inp pages)=some M'/\M'.done=true/\∃ v,Qlw w.heap.size M' v w'/\e=.returned (.tuple #[v,Z8 0 0]))
theorem QdJ.go (CM:MakeArr) (O:(Qr m).1=0) (s:M64 m) (S:most<=20000) (Q:IOk m 0 M0) (aa:M0.fuel=0) (R:QdJ wL w b F most m M0 N 0 sa g) (z:N.done=false) :
 Calls prog 14 #[.pointer (some ⟨b,0,none⟩)] w fun e w'=>∃ c a,e=.returned (Z8 c a)/\Blk w' F #[.int .i64 0,.int .i64 sa] 32/\(∃ N' g',QdJ wL ((w'.setCell ⟨F,0,none⟩ (.int .i64 c)).setCell ⟨F,1,none⟩ (.int .i64 a)) b F most m M0 N' c a g'/\(N'.done=false->c=0->N'.fuel=N.fuel+1))/\N.fuel<=most:=by
 rcases R.st with ⟨-,D,k,q,v,y,V,U⟩|⟨h,-⟩
 rotate_left
 ·cases h
 subst D;have B:q.done=false:=by rw[<-V.done];exact z
 obtain⟨T,X⟩:=U B
 subst T;have i:=(Qa3 (op:=aOp) (m:=m) k (M:=M0) (by omega) y).2.1;have K:=Qbx O s (fun k a b c h W hb=>QfG W hb h) Q k (by omega) y;refine(QgE CM (R.at_) K (by omega) O s i (by omega) z).mono (fun e w' h=>?_)
 have C:=XC R.box;have H:=QdO y z
 have u:∀ {N':IM} {c a:Int},XGo g w w' b most m N' c a->((c=0/\a=0/\∃ k q,k<=most+1/\IM.steps m aOp most k M0=some q/\N'.like q/\(q.done=false->N'=q/\q.fuel=k))\/(c=20/\Qdw m most M0 a))->Blk w' F #[.int .i64 0,.int .i64 0] 32/\∃ g',QdJ wL ((w'.setCell ⟨F,0,none⟩ (.int .i64 c)).setCell ⟨F,1,none⟩ (.int .i64 a)) b F most m M0 N' c a g':=by
  intro N' c a f d;obtain⟨g',S',l⟩:=f
  have t:¬ g'.A F:=fun e=>by rcases l.own _ e with e | e;exact R.apart e;omega
  have n:=(l.block F C R.apart).trans R.box;refine⟨n,g',⟨?_,?_,?_,Zs n _ _,t,R.farF,d⟩⟩
  ·refine S'.other t R.farF.2 (fun cc L=>?_) (by simp) (fun k v _=>by rw[Xd _ _ _ _ v,Xd _ _ _ _ v]);rw[n] at L
   simp at L
  ·intro x f;rcases l.own x f with e | e
   ·exact R.far x e
   ·have:=R.bel.size;omega
  ·have b1:Below wL.heap.size wL w':=⟨l.os.trans R.bel.os,l.tape.trans R.bel.tape,l.output.trans R.bel.output,Zt R.bel.size l.size,fun x f=>(l.block x (by have:=R.bel.size;omega) (fun e=>by have:=R.far x e;omega)).trans (R.bel.block x f)⟩;exact(b1.setCell (p:=⟨F,0,none⟩) R.farF.1 _).setCell (p:=⟨F,1,none⟩) R.farF.1 _
 cases d:IM.step m aOp most N with
 | none =>
   rw[d] at h H
   obtain⟨rfl,f⟩:=h
   obtain⟨I,g',E⟩:=u f (.inr ⟨Z,k,N,v,y,z,d,Z⟩)
   exact⟨20,_,Z,I,⟨_,g',E,fun _ j=>by cases j⟩,i⟩
 | some M1 =>
   rw[d] at h H
   obtain⟨rfl,N',f,o,G⟩:=h
   have J:=Qce i d
   have r:M1.done=false->M1.fuel=N.fuel+1:=fun j=>by
    rcases Nat.lt_or_ge N.fuel most with P | P
    ·exact J.2.1 P
    ·have:=J.1 (by omega)
     rw[this] at j
     cases j
   obtain⟨I,g',E⟩:=u f (.inl ⟨Z,Z,k+1,M1,by omega,H,o,fun j=>⟨G j,by rw[r j];omega⟩⟩)
   refine⟨0,0,Z,I,⟨N',g',E,fun j _=>?_⟩,i⟩
   rw[o.fuel]
   exact r (by rw[<-o.done];exact j)
theorem Qja {w:World}(CM:MakeArr) (hm:(Qr m).1=0) (av:M64 m) (V:most<=20000) (I0:IOk m 0 (IM.start inp pages))
 (CN:∀ wx,Below w.heap.size w wx->Calls prog 10 #[.agg #[.slice pm m.length cm],.slice pi inp.length ci,.int .i64 (most:Int),.int .i64 (pages:Int)] wx fun e w'=>QlV wx m inp most pages e w') :
 Calls prog 21 #[.agg #[.slice pm m.length cm],.slice pi inp.length ci,.int .i64 (most:Int),.int .i64 (pages:Int)] w fun e w'=>Qd0 w m inp most pages e w':=by
 have a3:Hid MakeArr:=CM;have HM:=Qb (Xh hm av);have HI:=Qb I0;have aj:=Qb V;have az:=Qb CN;have B3:=Qb ((Qai w (.cells #[.slice pm m.length cm] 24) (.cells #[.int .i64 0,.slice none 0 0,.slice none 0 0,.int .i64 0] 44)).alloc (by simp;omega) (.cells #[.int .i64 0,.int .i64 0] 32));clear CM hm av V I0 CN;go_enter func21,ntmps21
 go_upto_region 1 with fail
 have aq:((w.alloc (.cells #[.slice pm m.length cm] 24)).alloc (.cells #[.int .i64 0,.slice none 0 0,.slice none 0 0,.int .i64 0] 44)).heap.size=w.heap.size+1+1:=by simp
 have BX:Hid (Blk (((w.alloc (.cells #[.slice pm m.length cm] 24)).alloc (.cells #[.int .i64 0,.slice none 0 0,.slice none 0 0,.int .i64 0] 44)).alloc (.cells #[.int .i64 0,.int .i64 0] 32)) w.heap.size #[.slice pm m.length cm] 24):=Blk.below (Qf3 w #[.slice pm m.length cm] 24 _) (QY _ _);have L:Hid (Blk (((w.alloc (.cells #[.slice pm m.length cm] 24)).alloc (.cells #[.int .i64 0,.slice none 0 0,.slice none 0 0,.int .i64 0] 44)).alloc (.cells #[.int .i64 0,.int .i64 0] 32)) (w.heap.size+1) #[.int .i64 0,.slice none 0 0,.slice none 0 0,.int .i64 0] 44):=Blk.below (QbI w _ #[.int .i64 0,.slice none 0 0,.slice none 0 0,.int .i64 0] 44) (QY _ _)
 have P:Hid (Blk (((w.alloc (.cells #[.slice pm m.length cm] 24)).alloc (.cells #[.int .i64 0,.slice none 0 0,.slice none 0 0,.int .i64 0] 44)).alloc (.cells #[.int .i64 0,.int .i64 0] 32)) (w.heap.size+1+1) #[.int .i64 0,.int .i64 0] 32):=by
  have:=Qh ((w.alloc (.cells #[.slice pm m.length cm] 24)).alloc (.cells #[.int .i64 0,.slice none 0 0,.slice none 0 0,.int .i64 0] 44)) #[.int .i64 0,.int .i64 0] 32
  rw[aq] at this
  exact this
 clear aq;generalize ((w.alloc (.cells #[.slice pm m.length cm] 24)).alloc (.cells #[.int .i64 0,.slice none 0 0,.slice none 0 0,.int .i64 0] 44)).alloc (.cells #[.int .i64 0,.int .i64 0] 32)=w3 at B3 BX L P |-;have l:Hid (w.heap.size<=w.heap.size+1):=by show _<=_;omega
 have z:Hid (w.heap.size<=w.heap.size+1+1):=by show _<=_;omega
 generalize af:w.heap.size+1+1=f at P z |-;generalize a0:w.heap.size+1=d at L l af |-;have C:Hid (d≠f):=by show _≠_;omega
 clear af a0;have x0:=Qa BX.out 0 _ Z;have CN:=Qb (az.out w3 B3.out);generalize w.heap.size=X at x0 |-;go_upto_region 2 with (go_at_call 10;refine CN.out.mono ?_;rintro e' w4 ⟨b,g,rfl,S4,aa,b4⟩)
 have B5:=QY w4 (.cells #[.int .i64 0,.int .i64 0] 32);have BF:=Qh w4 #[.int .i64 0,.int .i64 0] 32;have RA:Hid (QdJ w3 (w4.alloc (.cells #[.int .i64 0,.int .i64 0] 32)) b w4.heap.size most m (IM.start inp pages) (IM.start inp pages) 0 0 g):=⟨S4.below B5,aa,b4.trans (B5.mono b4.size),BF,fun e=>by have:=S4.lt _ e;omega,⟨b4.size,Nat.le_of_lt (XC S4.box)⟩,.inl ⟨Z,Z,0,_,Xb _,Z,IM.like.refl _,fun _=>⟨Z,Z⟩⟩⟩;clear CN S4 aa b4 B5 BF x0;generalize w4.alloc (.cells #[.int .i64 0,.int .i64 0] 32)=w5 at RA |-;generalize w4.heap.size=F at RA |-;go_loopw [] (fun wr=>∃ N sc q g,QdJ w3 wr b F most m (IM.start inp pages) N sc q g) (fun wr=>QeV b F most wr)
 case atStart=>exact⟨_,_,_,_,RA.out⟩
 case round =>
  obtain⟨N,sc,q,g9,hR⟩:=hrel
  have R:=Qb hR;have c0:=Qa hR.box 0 _ Z;have c1:=Qa hR.box 1 _ Z;have U:=Qb (QhP hR.at_);clear hR RA;by_cases O:sc=0
  ·subst O
   cases hdn:N.done with
   | false =>
     rw[hdn] at U
     have CS:=Qb (QdJ.go a3.out HM.out.1 HM.out.2 aj.out HI.out Z R.out hdn);have au:=Qb R.out.left;rw[hdn] at au
     go_wp2_with (go_at_call 16;refine U.out.mono ?_;rintro e' w' ⟨rfl,Q⟩;have Q:=Q.symm;subst Q)
     refine CS.out.mono ?_;rintro e' w8 ⟨c,a,rfl,s,⟨N',g',ae,al⟩,ad⟩;have R2:=Qb ae;have d0:=Qa s 0 _ Z;have d1:=Qa s 1 _ Z;have z0:=Qf s 0;have z1:=Qf s 1;have ac:=Qb (Xh al ad);clear s ae al CS U c0 c1 ad;go_wp2
     go_roundw
     case rel=>exact⟨_,_,_,_,R2.out⟩
     case measure =>
      have h1:=R2.out.left;have h2:=au.out;rw[h1,h2]
      simp only[Bool.false_eq_true,if_false,if_true]
      by_cases K:N'.done=true
      ·rw[Xs K];omega
      ·rw[Xr K]
       by_cases S:c=0
       ·rw[Xs S]
        have:=ac.out.1 (by simpa using K) S
        have:=ac.out.2
        omega
       ·rw[Xr S];omega
   | true =>
     rw[hdn] at U
     have t:Hid (∃ k M,k<=most+1/\IM.steps m aOp most k (IM.start inp pages)=some M/\N.like M):=by
      rcases R.out.st with ⟨-,-,k,M,r,hs,A,hn⟩|⟨h,-⟩
      ·exact⟨k,M,r,hs,A⟩
      ·cases h
     have HK:Hid (N.out.length<=1000000/\N.back.length<=1000000/\∀ x∈N.out,Zh x):=by
      obtain⟨k,M,r,hs,A⟩:=t.out
      have V:=aj.out;have J:=Qbx HM.out.1 HM.out.2 (fun k a b c h ha hb=>QfG ha hb h) HI.out k (by omega) hs;rw[A.out,A.back]
      exact⟨by have:=J.out.1;omega,by have:=J.out.2.2;omega,J.out.2.1⟩
     have CO:=Qb (Qey R.out.at_ HK.out.1 HK.out.2.1 HK.out.2.2);have i:=Qb ((R.out.bel.block d (XC L.out)).trans L.out);have o:=Qb ((R.out.bel.block f (XC P.out)).trans P.out);go_upto_region 6 with (go_at_call 16;refine U.out.mono ?_;rintro e' w' ⟨rfl,Q⟩;have Q:=Q.symm;subst Q)
     clear c0 c1 U;go_wp2_with fail
     refine CO.out.mono ?_;rintro e' w8 ⟨v,rfl,⟨vb,vo,rfl,⟨ab,W,rfl,ai,ak,ah⟩,⟨T,co,rfl,aw,ar,ap⟩⟩,b8⟩;have n:=Qb (Blk.below i.out b8);have y:=Qb (Blk.below o.out b8);have r0:=Qa n.out 0 _ Z;have r1:=Qa n.out 1 _ Z;have r2:=Qa n.out 2 _ Z;have r3:=Qa n.out 3 _ Z;have z0:=Qf n.out 0;have z1:=Qf n.out 1;have z2:=Qf n.out 2;have z3:=Qf n.out 3;have s0:=Qa y.out 0 _ Z;have s1:=Qa y.out 1 _ Z;have y0:=Qf y.out 0;have y1:=Qf y.out 1;have G:¬ d=f:=C.out;have j:¬ f=d:=fun e=>C.out e.symm;have H:=Qb (Xh ai (Xh ak ah));have D:=Qb (Xh aw (Xh ar ap));have B0:=Qb (B3.out.trans ((R.out.bel.mono Ze).trans (b8.mono R.out.bel.size) |>.mono B3.out.size));have ax:Hid (d<wr.heap.size/\f<wr.heap.size):=⟨XC i.out,XC o.out⟩;have a2:Hid (w.heap.size<=wr.heap.size):=Zt B3.out.size R.out.bel.size;clear ai ak ah aw ar ap b8 CO i o;go_wp2_with fail
     have X8:=Qcj n.out (.int .i64 N.fin) (.slice ab N.back.length W) (.slice T N.out.length co) (.int .i64 N.fuel);have B1:=(((B0.out.setCell (p:=⟨d,0,none⟩) l.out (.int .i64 N.fin)).setCell (p:=⟨d,1,none⟩) l.out (.slice ab N.back.length W)).setCell (p:=⟨d,2,none⟩) l.out (.slice T N.out.length co)).setCell (p:=⟨d,3,none⟩) l.out (.int .i64 N.fuel);have O8:∀ k,k≠d->((((w8.setCell ⟨d,0,none⟩ (.int .i64 N.fin)).setCell ⟨d,1,none⟩ (.slice ab N.back.length W)).setCell ⟨d,2,none⟩ (.slice T N.out.length co)).setCell ⟨d,3,none⟩ (.int .i64 N.fuel)).heap[k]?=w8.heap[k]?:=fun k r=>by rw[Xd _ _ _ _ r,Xd _ _ _ _ r,Xd _ _ _ _ r,Xd _ _ _ _ r]
     generalize ((((w8.setCell ⟨d,0,none⟩ (.int .i64 N.fin)).setCell ⟨d,1,none⟩ (.slice ab N.back.length W)).setCell ⟨d,2,none⟩ (.slice T N.out.length co)).setCell ⟨d,3,none⟩ (.int .i64 N.fuel))=w9 at X8 B1 O8 |-;have X9:=Zs ((O8 f j).trans y.out) (.int .i64 0) (.int .i64 0);have B2:=(B1.setCell (p:=⟨f,0,none⟩) z.out (.int .i64 0)).setCell (p:=⟨f,1,none⟩) z.out (.int .i64 0);have O9:∀ k,k≠f->((w9.setCell ⟨f,0,none⟩ (.int .i64 0)).setCell ⟨f,1,none⟩ (.int .i64 0)).heap[k]?=w9.heap[k]?:=fun k r=>by rw[Xd _ _ _ _ r,Xd _ _ _ _ r]
     generalize (w9.setCell ⟨f,0,none⟩ (.int .i64 0)).setCell ⟨f,1,none⟩ (.int .i64 0)=wz at X9 B2 O9 |-;have B:=(O9 d G).trans X8
     have u:∀ x,wr.heap.size<=x->wz.heap[x]?=w8.heap[x]?:=fun x I=>by
      have h1:=ax.out;exact(O9 x (by omega)).trans (O8 x (by omega))
     have f0:=Qa B 0 _ Z;have f1:=Qa B 1 _ Z;have f2:=Qa B 2 _ Z;have f3:=Qa B 3 _ Z;have g0:=Qa X9 0 _ Z;have g1:=Qa X9 1 _ Z;have ag:=a2.out;refine Xy (v:=.tuple #[.agg #[.int .i64 N.fin,.slice ab N.back.length W,.slice T N.out.length co,.int .i64 N.fuel],Z8 0 0]) (by simp[results,results21,go_sem,f0,f1,f2,f3,g0,g1]) Z ⟨B2,?_⟩;obtain⟨k,M,r,hs,A⟩:=t.out
     refine .inr ⟨k,M,r,hs,?_⟩;refine⟨by rw[<-A.done];exact hdn,_,⟨.slice ab N.back.length W,.slice T N.out.length co,by rw[<-A.fin,<-A.fuel],?_,?_⟩,Z⟩
     ·rw[<-A.back]
      exact⟨ab,W,Z,H.out.1,QE H.out.2.1 (fun x I=>u x (H.out.2.2 x I)),fun x I=>Zt ag (H.out.2.2 x I)⟩
     ·rw[<-A.out]
      exact⟨T,co,Z,D.out.1,QE D.out.2.1 (fun x I=>u x (D.out.2.2 x I)),fun x I=>Zt ag (D.out.2.2 x I)⟩
  ·have t:Hid (sc=20/\Qdw m most (IM.start inp pages) q):=by
    rcases R.out.st with ⟨h,-⟩ | h
    ·exact absurd h O
    ·exact h
   have a1:=t.out.1;subst a1;have i:=Qb ((R.out.bel.block d (XC L.out)).trans L.out);have o:=Qb ((R.out.bel.block f (XC P.out)).trans P.out);have r0:=Qa i.out 0 _ Z;have r1:=Qa i.out 1 _ Z;have r2:=Qa i.out 2 _ Z;have r3:=Qa i.out 3 _ Z;have z0:=Qf i.out 0;have z1:=Qf i.out 1;have z2:=Qf i.out 2;have z3:=Qf i.out 3;have s0:=Qa o.out 0 _ Z;have s1:=Qa o.out 1 _ Z;have y0:=Qf o.out 0;have y1:=Qf o.out 1;have G:¬ d=f:=C.out;have j:¬ f=d:=fun e=>C.out e.symm;have a4:¬ F=d:=fun e=>by have h1:=R.out.farF.1;have h2:=XC L.out;omega
   have a5:¬ F=f:=fun e=>by have h1:=R.out.farF.1;have h2:=XC P.out;omega
   have B0:=Qb (B3.out.trans (R.out.bel.mono B3.out.size));clear U O;go_upto_region 5 with fail
   have ay:Hid (∀ w7:World,(∀ k:Nat,w7.heap[k]?=wr.heap[k]?)->Below wr.heap.size wr w7->Qd0 w m inp most pages (.returned (.tuple #[.agg #[.int .i64 0,.slice none 0 0,.slice none 0 0,.int .i64 0],Z8 20 q])) ((((((w7.setCell ⟨d,0,none⟩ (.int .i64 0)).setCell ⟨d,1,none⟩ (.slice none 0 0)).setCell ⟨d,2,none⟩ (.slice none 0 0)).setCell ⟨d,3,none⟩ (.int .i64 0)).setCell ⟨f,0,none⟩ (.int .i64 20)).setCell ⟨f,1,none⟩ (.int .i64 q))/\((((((w7.setCell ⟨d,0,none⟩ (.int .i64 0)).setCell ⟨d,1,none⟩ (.slice none 0 0)).setCell ⟨d,2,none⟩ (.slice none 0 0)).setCell ⟨d,3,none⟩ (.int .i64 0)).setCell ⟨f,0,none⟩ (.int .i64 20)).setCell ⟨f,1,none⟩ (.int .i64 q)).heap[d]?=some (.cells #[.int .i64 0,.slice none 0 0,.slice none 0 0,.int .i64 0] 44 (0,0))/\((((((w7.setCell ⟨d,0,none⟩ (.int .i64 0)).setCell ⟨d,1,none⟩ (.slice none 0 0)).setCell ⟨d,2,none⟩ (.slice none 0 0)).setCell ⟨d,3,none⟩ (.int .i64 0)).setCell ⟨f,0,none⟩ (.int .i64 20)).setCell ⟨f,1,none⟩ (.int .i64 q)).heap[f]?=some (.cells #[.int .i64 20,.int .i64 q] 32 (0,0))):=fun w7 am b7=>by
    have X8:=Qcj ((am d).trans i.out) (.int .i64 0) (.slice none 0 0) (.slice none 0 0) (.int .i64 0);have b0:=B0.out.trans (b7.mono B0.out.size);have B1:=(((((b0.setCell (p:=⟨d,0,none⟩) l.out (.int .i64 0)).setCell (p:=⟨d,1,none⟩) l.out (.slice none 0 0)).setCell (p:=⟨d,2,none⟩) l.out (.slice none 0 0)).setCell (p:=⟨d,3,none⟩) l.out (.int .i64 0)).setCell (p:=⟨f,0,none⟩) z.out (.int .i64 20)).setCell (p:=⟨f,1,none⟩) z.out (.int .i64 q);have h9:((((w7.setCell ⟨d,0,none⟩ (.int .i64 0)).setCell ⟨d,1,none⟩ (.slice none 0 0)).setCell ⟨d,2,none⟩ (.slice none 0 0)).setCell ⟨d,3,none⟩ (.int .i64 0)).heap[f]?=some (.cells #[.int .i64 0,.int .i64 0] 32 (0,0)):=by rw[Xd _ _ _ _ j,Xd _ _ _ _ j,Xd _ _ _ _ j,Xd _ _ _ _ j,am f];exact o.out
    refine⟨⟨B1,?_⟩,?_,Zs h9 _ _⟩
    ·exact .inl ⟨q,t.out.2,Z⟩
    ·rw[Xd _ _ _ _ G,Xd _ _ _ _ G]
     exact X8
   go_region
   all_goals
    go_wp2_with fail
    have QQ:=ay.out wr (fun _=>rfl) Zr;generalize ((((((wr.setCell ⟨d,0,none⟩ (.int .i64 0)).setCell ⟨d,1,none⟩ (.slice none 0 0)).setCell ⟨d,2,none⟩ (.slice none 0 0)).setCell ⟨d,3,none⟩ (.int .i64 0)).setCell ⟨f,0,none⟩ (.int .i64 20)).setCell ⟨f,1,none⟩ (.int .i64 q))=wq at QQ |-;obtain⟨⟨qb,qs⟩,q8,q9⟩:=QQ
    have E:wq.drew.heap[d]?=some (.cells #[.int .i64 0,.slice none 0 0,.slice none 0 0,.int .i64 0] 44 (0,0)):=q8;have an:wq.drew.heap[f]?=some (.cells #[.int .i64 20,.int .i64 q] 32 (0,0)):=q9;have f0:=Qa E 0 _ Z;have f1:=Qa E 1 _ Z;have f2:=Qa E 2 _ Z;have f3:=Qa E 3 _ Z;have g0:=Qa an 0 _ Z;have g1:=Qa an 1 _ Z;exact Xy (v:=.tuple #[.agg #[.int .i64 0,.slice none 0 0,.slice none 0 0,.int .i64 0],Z8 20 q]) (by simp[results,results21,go_sem,f0,f1,f2,f3,g0,g1]) Z ⟨⟨qb.os,qb.tape,qb.output,qb.size,qb.block⟩,qs⟩
end
section
variable {Z:Type}{P:Program}(E:Tmp->Value->(World × Z)->Prop) (W:(World × Z)->Prop) (R:(World × Z)->(World × Z)->Prop)
def EOG:Option Tmp->Value->(World × Z)->Prop
 | some t=>E t
 | none=>fun _ _=>True
def QfZ (a:Act) (w:(World × Z)):List Tmp->Prop
 | []=>True
 | t::r=>E t (a.tmps.getD t undef) w/\QfZ a w r
def Qg5 (P:Program) (o:Oper):Prop :=
 ∀ a w,W w->QfZ E a w (Qbu o)->∀ K:Act->World->Prop,(∀ v w',R w w'->W w'->EOG E o.dst v w'->K (a.put o.dst v) w'.1)->o.wp P a w.1 K (fun _ _ _=>False)
def QfH (o:Oper):Prop:=∀ w,W w->EOG E o.dst undef w
def QeH (P:Program):List Oper->List Bool->Prop
 | o::l,true::bs=>Qg5 E W R P o/\QeH P l bs
 | o::l,false::bs=>QfH E W o/\QeH P l bs
 | _,_=>True
def Qcb (ops:Array Oper):List (Nat × Option Bool)->Prop
 | []=>True
 | (g,c)::r=>(∀ t,(ops[g]?).bind (·.dst)=some t->∀ v w,W w->E t v w->match c with | some b=>v=.bool b | none=>v=undef)/\Qcb ops r
def Qfh (a:Act) (w:(World × Z)):List Tmp->Prop
 | []=>True
 | t::r=>E t (a.tmps.getD t undef) w/\Qfh a w r
end
section
variable {Z:Type}{P:Program}{E:Tmp->Value->(World × Z)->Prop}{W:(World × Z)->Prop}{R:(World × Z)->(World × Z)->Prop}
theorem Qd6 {a:Act}{w:(World × Z)}:∀ (l:List Tmp),(∀ t∈l,E t (a.tmps.getD t undef) w)->QfZ E a w l
 | [],_=>trivial
 | t::r,h=>⟨h t (by simp),Qd6 r fun x b=>h x (by simp[b])⟩
theorem Qet {a:Act}{w:(World × Z)}:∀ (l:List Tmp),Qfh E a w l->∀ t∈l,E t (a.tmps.getD t undef) w
 | [],_,_,h=>by simp at h
 | x::r,h,t,b=>by
   rcases List.mem_cons.1 b with rfl | b
   ·exact h.1
   ·exact Qet r h.2 t b
theorem Qc2 {a:Array Oper}:∀ (gs:List (Nat × Option Bool)),Qcb E W a gs->∀ g c,gs.lookup g=some c->∀ t,(a[g]?).bind (·.dst)=some t->∀ v w,W w->E t v w->match c with | some b=>v=.bool b | none=>v=undef
 | [],_,_,_,h=>by simp at h
 | (g',c')::r,h,g,c,hl=>by
   by_cases e:g=g'
   ·subst e;simp at hl;subst hl;exact h.1
   ·have d:(g==g')=false:=by simpa using e
    simp[List.lookup_cons,d] at hl;exact Qc2 r h.2 g c hl
theorem QeY (gs:List (Nat × Option Bool)):∀ (l:List Oper) (bs:List Bool),Qfu gs l bs=true->QeH E W R P l bs->∀ (i:Nat) (o:Oper),l[i]?=some o->(onB gs o true=true/\Qg5 E W R P o)\/(onB gs o false=true/\QfH E W o)
 | [],_,_,_,_,_,h=>by simp at h
 | _::_,[],h,_,_,_,_=>by simp[Qfu] at h
 | x::l,b::bs,h,ha,i,o,ho=>by
   simp only[Qfu,Bool.and_eq_true] at h
   cases i with
   | zero =>
     simp at ho;subst ho
     cases b with
     | true=>exact .inl ⟨h.1,ha.1⟩
     | false=>exact .inr ⟨h.1,ha.1⟩
   | succ i =>
     simp at ho
     cases b with
     | true=>exact QeY gs l bs h.2 ha.2 i o ho
     | false=>exact QeY gs l bs h.2 ha.2 i o ho
structure Qj4 (E:Tmp->Value->(World × Z)->Prop) (W:(World × Z)->Prop) (l:List Oper) (outs:List Tmp) (a0:Act) (listed:Array Bool) (a:Act) (w:(World × Z)):Prop where
 world:W w
 defers:a.defers=a0.defers
 size:a.tmps.size=a0.tmps.size
 outer:∀ t,t ∉ Ql l->a.tmps[t]?=a0.tmps[t]?
 outs:∀ t∈outs,t ∉ Ql l->E t (a.tmps.getD t undef) w
 known:∀ j o t,l[j]?=some o->o.dst=some t->listed.getD j false=true->E t (a.tmps.getD t undef) w
theorem Qfm {outs:List Tmp}{gs:List (Nat × Option Bool)}{a0:Act}
 (hB:Qab l a0.tmps.size outs gs bs=true) (hR:∀ t v w w',R w w'->E t v w->E t v w') (hG:Qcb E W l.toArray gs) (hA:QeH E W R P l bs)
 (aa:∀ (vs:Tmp->Value) w',W w'->(∀ t,(Ql l).contains t=true->E t (vs t) w')->Q .normal (QT a0 vs (Ql l)) w'.1) :
 ∀ (fuel:Nat) (listed:Array Bool) (a:Act) (w:(World × Z)),listed.size=l.length->(listed.toList.filter (·==false)).length<=fuel->Qj4 E W l outs a0 listed a w ->
  wpAny P .any l.toArray Q fuel listed a w.1:=by
 simp only[Qab,Bool.and_eq_true] at hB
 obtain⟨⟨⟨⟨⟨aq,au⟩,M⟩,ai⟩,aj⟩,aw⟩:=hB
 have ag:∀ (listed:Array Bool) (a:Act) (w:(World × Z)),listed.size=l.length->Region.ready .any l.toArray listed=[]->Qj4 E W l outs a0 listed a w->Q .normal a w.1:=by
  intro listed a w U J f
  have ah:∀ j,j<l.length->listed.getD j false=true:=by
   intro j
   induction j using Nat.strongRecOn with
   | _ j ih =>
     intro z
     cases r:listed.getD j false with
     | true=>rfl
     | false =>
       exfalso
       have:j∈Region.ready .any l.toArray listed:=by
        unfold Region.ready;refine List.mem_filter.2 ⟨by simpa using z,?_⟩
        have V:listed.getD j true=false:=by
         have ao:j<listed.size:=by omega
         simp[Array.getD,ao] at r |-;exact r
        have T:l.toArray[j]?=some l[j]:=by simp[z]
        rw[V,T]
        simp only[Bool.not_false,Bool.true_and,Option.map_some,Option.getD_some]
        rw[Array.all_eq_true_iff_forall_mem]
        intro e he
        cases hbd:Region.binds .any e with
        | false=>rfl
        | true =>
          have:=back_at l 0 j l[j] aw (by simp[z]) e he hbd
          simp only[Bool.not_true,Bool.false_or]
          exact ih e.on (by omega) (by omega)
       rw[J] at this
       cases this
  have X:∀ t∈Ql l,E t (a.tmps.getD t undef) w/\t<a0.tmps.size:=by
   intro t n;obtain⟨o,ho,s⟩:=List.mem_filterMap.1 n
   obtain⟨j,z⟩:=List.getElem?_of_mem ho
   have A:j<l.length:=by
    rcases Nat.lt_or_ge j l.length with h | h
    ·exact h
    ·rw[Xk h] at z;cases z
   exact⟨f.known j o t z s (ah j A),by simpa using Xe.1 M t n⟩
  have he:a=QT a0 (fun t=>a.tmps.getD t undef) (Ql l):=by
   have V:a.tmps=(QT a0 (fun t=>a.tmps.getD t undef) (Ql l)).tmps:=by
    refine Array.ext (by rw[Qaa,f.size]) fun t N S=>?_;have h3:t<a0.tmps.size:=by rw[<-f.size];exact N
    have:=Qbf (fun t=>a.tmps.getD t undef) (Ql l) a0 t h3
    rw[Xj S] at this
    by_cases hm:t∈Ql l
    ·rw[Xs hm] at this
     simp only[Option.some.injEq] at this
     rw[this];simp[Array.getD,N]
    ·rw[Xr hm,<-f.outer t hm,Xj N] at this
     exact(Xn this).symm
   have T:a.defers=(QT a0 (fun t=>a.tmps.getD t undef) (Ql l)).defers:=by rw[ZN,f.defers]
   cases a with
   | mk t d =>
     simp only at V T
     generalize hp:QT a0 (fun x=>t.getD x undef) (Ql l)=p at V T |-
     cases p;simp only at V T;rw[V,T]
  rw[he]
  exact aa _ _ f.world fun t n=>(X t (by simpa using n)).1
 intro fuel
 induction fuel with
 | zero =>
   intro listed a w U hf f
   have J:Region.ready .any l.toArray listed=[]:=by
    rw[List.eq_nil_iff_forall_not_mem]
    intro i hi;obtain⟨N,S⟩:=List.mem_filter.1 hi
    have A:i<l.length:=by simpa using N
    simp only[Bool.and_eq_true,Bool.not_eq_true'] at S
    have:listed[i]'(by omega)=false:=by
     have:=S.1;simp[Array.getD,show i<listed.size by omega] at this;exact this
    have hm:false∈listed.toList.filter (·==false):=List.mem_filter.2 ⟨by rw[<-this];simp,by simp⟩
    have:=List.length_pos_of_mem hm
    omega
   exact⟨J,ag listed a w U J f⟩
 | succ fuel ih =>
   intro listed a w U hf f;refine⟨fun J=>ag listed a w U J f,fun i hi=>?_⟩
   obtain⟨N,S⟩:=List.mem_filter.1 hi
   have A:i<l.length:=by simpa using N
   simp only[Bool.and_eq_true,Bool.not_eq_true'] at S
   obtain⟨af,m⟩:=S
   have ab:i<listed.size:=by omega
   have ac:listed[i]=false:=by simp[Array.getD,ab] at af;exact af
   have ho:l.toArray[i]?=some l[i]:=by simp[A]
   have q:l[i]?=some l[i]:=by simp[A]
   generalize ay:l[i]=o at ho q;rw[ho] at m
   simp only[Option.map_some,Option.getD_some] at m
   rw[Array.all_eq_true_iff_forall_mem] at m
   have u:∀ t∈o.looksAt l.toArray,E t (a.tmps.getD t undef) w:=by
    intro t n
    have:=Xe.1 (Xe.1 ai o (Zm q)) t n
    rw[Bool.or_eq_true] at this
    rcases this with h | h
    ·simp only[Bool.and_eq_true,Bool.not_eq_true'] at h
     exact f.outs t (by simpa using h.1) (by simpa using h.2)
    ·obtain⟨k,hk,h⟩:=Array.any_eq_true.1 h
     simp only[Bool.and_eq_true,beq_iff_eq] at h
     obtain⟨r,s⟩:=h
     have H:=m _ (Array.getElem_mem hk);rw[r] at H
     simp only[Bool.not_true,Bool.false_or] at H
     generalize o.after[k]=e at *;obtain⟨oj,ap,av⟩:=Option.bind_eq_some_iff.1 s
     exact f.known e.on oj t (by simpa using ap) av H
   have al:QfZ E a w (Qbu o):=Qd6 _ fun t n=>u t (by
    unfold Oper.looksAt;exact List.mem_append_left _ n)
   have hw:∀ b,onB gs o b=true->Region.wanted o (yielded l.toArray a.tmps)=b:=by
    intro b r;unfold onB at r;unfold Region.wanted
    cases hg:o.guard with
    | none=>rw[hg] at r;simp only at r |-;exact r.symm
    | some gw =>
      obtain⟨g,ax⟩:=gw
      rw[hg] at r
      simp only at r |-
      cases H:gs.lookup g with
      | none=>rw[H] at r;cases r
      | some c =>
        rw[H] at r
        simp only[beq_iff_eq] at r
        have hy:yielded l.toArray a.tmps g=c:=by
         unfold yielded;have an:(g,c)∈gs:=mem_of_lookup gs g c H;have D:=Xe.1 aq _ an
         cases s:(l.toArray[g]?).bind (·.dst) with
         | none=>rw[s] at D;cases D
         | some t =>
           have hE:=u t (by unfold Oper.looksAt;rw[hg];simp only[s];simp);have F:=Qc2 gs hG g c H t s _ _ f.world hE;obtain⟨og,ar,ak⟩:=Option.bind_eq_some_iff.1 s
           have L:t<a.tmps.size:=by
            rw[f.size]
            have:=Xe.1 M t (List.mem_filterMap.2 ⟨og,Zm (by simpa using ar),ak⟩)
            simpa using this
           have n:a.tmps[t]?=some (a.tmps.getD t undef):=by simp[Array.getD,L]
           simp only[Option.bind_some,n]
           cases c with
           | none=>simp only at F;rw[F];rfl
           | some b=>simp only at F;rw[F]
        rw[hy,r]
   have G:((listed.setIfInBounds i true).toList.filter (·==false)).length<=fuel:=by
    have h3:=filter_set listed.toList i (by simpa using ab) (by simpa using ac);rw[Array.toList_setIfInBounds]
    omega
   have I:∀ v w',W w'->(∀ t v,E t v w->E t v w')->EOG E o.dst v w'->Qj4 E W l outs a0 (listed.setIfInBounds i true) (a.put o.dst v) w':=by
    intro v w' K y F
    have B:∀ t,o.dst≠some t->(a.put o.dst v).tmps[t]?=a.tmps[t]?:=by
     intro t n
     cases s:o.dst with
     | none=>rfl
     | some d =>
       have:d≠t:=fun e=>n (by rw[s,e])
       simp[Act.put,this]
    have C:∀ (b c:Array Value) (t:Nat),b[t]?=c[t]?->b.getD t undef=c.getD t undef:=by
     intro b c t h;rw[Za,Za,h]
    refine⟨K,?_,?_,?_,?_,?_⟩
    ·rw[<-f.defers];cases o.dst<;>rfl
    ·rw[<-f.size];cases o.dst<;>simp[Act.put]
    ·intro t n;rw[B t (fun e=>n (List.mem_filterMap.2 ⟨o,Zm q,e⟩)),f.outer t n]
    ·intro t n hn;rw[C _ _ t (B t (fun e=>hn (List.mem_filterMap.2 ⟨o,Zm q,e⟩)))]
     exact y _ _ (f.outs t n hn)
    ·intro j oj t z s ae;by_cases O:j=i
     ·subst O;rw[q] at z
      obtain rfl:=Xn z
      have L:t<a.tmps.size:=by
       rw[f.size]
       have:=Xe.1 M t (List.mem_filterMap.2 ⟨o,Zm q,s⟩)
       simpa using this
      rw[s] at F |-
      have:(a.put (some t) v).tmps.getD t undef=v:=by simp[Act.put,Array.getD,L]
      rw[this];exact F
     ·have am:o.dst≠some t:=fun e=>O (nodup_apart l j i oj o t au z q s e);rw[C _ _ t (B t am)]
      refine y _ _ (f.known j oj t z s ?_);have ad:i≠j:=fun e=>O e.symm;rw[Za,Array.getElem?_setIfInBounds_ne ad] at ae
      rw[Za];exact ae
   unfold wpOp;rw[ho]
   simp only
   rcases QeY gs l bs aj hA i o q with ⟨h,y⟩|⟨h,y⟩
   ·rw[hw true h,Xs Yz]
    refine .inl (wpq (fun a' w' hh=>hh) (y a w f.world al _ fun v w' J K F=>?_));exact ih _ _ _ (by simpa using U) G (I v w' K (fun t v he=>hR t v w w' J he) F)
   ·rw[hw false h]
    simp only[Bool.false_eq_true,if_false]
    exact ih _ _ _ (by simpa using U) G (I undef w f.world (fun _ _ h=>h) (y w f.world))
theorem QcL {outs:List Tmp}{gs:List (Nat × Option Bool)}{a:Act}{z:Z}
 (E:Tmp->Value->(World × Z)->Prop) (W:(World × Z)->Prop) (R:(World × Z)->(World × Z)->Prop)
 (i:P.follows .mixedOrders=true)  (hn:a.tmps.size=m) (c:n<=m) (q:Qab l n outs gs bs=true)
 (e:∀ t v w w',R w w'->E t v w->E t v w') (f:Qcb E W l.toArray gs) (g:W (w.drew,z)) (d:Qfh E a (w.drew,z) outs)
 (k:QeH E W R P l bs)
 (b:∀ (vs:Tmp->Value) w',W w'->(∀ t,(Ql l).contains t=true->E t (vs t) w')->Q .normal (QT a vs (Ql l)) w'.1) :
 (Code.region id l.toArray true).wp P Q a w:=by
 refine wp_region_any i ?_;refine Qfm (Z7 (hn ▸ c) q) e f k b _ _ _ (w.drew,z) (by simp) ?_ ⟨g,Yz,Yz,fun _ _=>rfl,fun t h _=>Qet outs d t h,?_⟩
 ·simp only[Array.toList_replicate]
  exact Zt (List.length_filter_le _ _) (by simp)
 ·intro j o t s r p;simp[Array.getD] at p
end
abbrev Tg:=Nat->Nat
def mk (s:Nat) (w:World) (z:Tg):Tg:=fun x=>if x<w.heap.size then z x else s
def RT (s s':World × Tg):Prop:=Below s.1.heap.size s.1 s'.1/\∀ x,x<s.1.heap.size->s'.2 x=s.2 x
theorem RT.mk {s:Nat}{z:Tg}(b:Below w.heap.size w w'):RT (w,z) (w',mk s w z):=⟨b,fun x a=>by simp only[Proofs.YtofjjohefamljafGreat.mk];rw[Xs a]⟩
theorem RT.refl (s:World × Tg):RT s s:=⟨Zr,fun _ _=>rfl⟩
theorem Qdf {s:Nat}{z:Tg}(h:w.heap.size<=x):mk s w z x=s:=by simp only[mk];rw[Xr (by omega)]
def H33 (lo pages:Nat) (v:Value) (s:World × Tg):Prop:=∃ bm,v=.pointer (some ⟨bm+1,0,none⟩)/\HIn s.1 (bm+1) (fun x=>x=bm\/x=bm+1) (Qc.new pages) ⟨bm,.map [],fun _=>0,fun _ _=>False⟩/\s.2 bm=33/\s.2 (bm+1)=33/\lo<=bm
def M35 (lo:Nat) (m:List (Qe 6)) (v:Value) (s:World × Tg):Prop:=∃ a c,v=.agg #[.slice a m.length c]/\(Qam 6).In s.1 (fun x=>x<s.1.heap.size/\s.2 x=35) m [.slice a m.length c]
def I37 (lo:Nat) (l:List Int) (v:Value) (s:World × Tg):Prop:=∃ a c,v=.slice a l.length c/\l.length<=c/\s.1.ownsRow 0 2 1 (.slice a l.length c) l.length (l.map (Value.int .i64))/\∀ x,(Value.slice a l.length c).ownBlock=some x->s.2 x=37
abbrev frm0:Array Value:=#[.int .i64 0,.int .i64 0,.int .i64 0,.int .i64 0,.slice none 0 0]
def F40 (lo:Nat) (v:Value) (s:World × Tg):Prop:=∃ c,v=.pointer (some ⟨c,0,none⟩)/\Blk s.1 c frm0 87/\lo<=c/\s.2 c=40
def C41 (lo:Nat) (v:Value) (s:World × Tg):Prop:=∃ c r,v=.slice (some ⟨r,0,none⟩) 1 1/\Blk s.1 r #[.pointer (some ⟨c,0,none⟩)] 84/\Blk s.1 c frm0 87/\lo<=c/\lo<=r/\s.2 c=40/\s.2 r=41
section
variable {lo pages:Nat}{m:List (Qe 6)}{l:List Int}{v:Value}{s s':World × Tg}
theorem H33.keep (h:H33 lo pages v s) (r:RT s s'):H33 lo pages v s':=by
 obtain⟨b,f,a,d,c,e⟩:=h
 exact⟨b,f,a.below r.1,(r.2 _ (a.lt _ (.inl Z))).trans d,(r.2 _ (a.lt _ (.inr Z))).trans c,e⟩
theorem M35.keep (h:M35 lo m v s) (r:RT s s'):M35 lo m v s':=by
 obtain⟨a,c,f,e⟩:=h
 exact⟨a,c,f,(Qam 6).keep (fun k d b=>r.1.block k b) (fun k d b=>⟨Zl b r.1.size,(r.2 k b).trans d.2⟩) e⟩
theorem I37.keep (h:I37 lo l v s) (r:RT s s'):I37 lo l v s':=by
 obtain⟨a,c,i,g,e,f⟩:=h
 have d:∀ x,(Value.slice a l.length c).ownBlock=some x->x<s.1.heap.size:=fun x b=>XC (QG e b).choose_spec;exact⟨a,c,i,g,QE e (fun x b=>r.1.block x (d x b)),fun x b=>(r.2 x (d x b)).trans (f x b)⟩
theorem F40.keep (h:F40 lo v s) (r:RT s s'):F40 lo v s':=by
 obtain⟨c,e,a,d,b⟩:=h
 exact⟨c,e,Blk.below a r.1,d,(r.2 c (XC a)).trans b⟩
theorem C41.keep (h:C41 lo v s) (r:RT s s'):C41 lo v s':=by
 obtain⟨c,b,g,a,d,e,f,j,i⟩:=h
 exact⟨c,b,g,Blk.below a r.1,Blk.below d r.1,e,f,(r.2 c (XC d)).trans j,(r.2 b (XC a)).trans i⟩
end
theorem Qk8 {d pages:Nat}{m:List (Qe 6)}{z:Tg}{a r:Nat}(ac:d<=w.heap.size)
 (F:H33 d pages (.pointer (some ⟨a+1,0,none⟩)) (w,z)) (I:M35 d m (.agg #[.slice pm m.length cm]) (w,z)) (K:I37 d inp (.slice pi inp.length ci) (w,z)) (s:∀ x∈inp,Zh x)
 (N:Blk w r #[.pointer (some ⟨c,0,none⟩)] 84) (P:Blk w c frm0 87) (ab:d<=c) (aa:d<=r) (G:z c=40) (o:z r=41) :
 ∃ g,MAt (w.alloc (.cells #[.pointer (some ⟨a+1,0,none⟩),.slice pm m.length cm,.slice pi inp.length ci,.int .i64 most,.slice (some ⟨r,0,none⟩) 1 1,.int .i64 0,.slice none 0 0,.slice none 0 0,.int .i64 0,.bool false,.int .i64 0,.int .i64 0] 52)) w.heap.size most m (IM.start inp pages) 0 0 g/\∀ x,g.A x->d<=x:=by
 obtain⟨E,e,H,n,u,Q⟩:=F
 obtain rfl:a=E:=by simpa using e
 obtain⟨p,q,C,R⟩:=I
 obtain⟨rfl,rfl⟩:pm=p/\cm=q:=by simpa using C
 obtain⟨p,q,C,f,M,U⟩:=K
 obtain⟨rfl,rfl⟩:pi=p/\ci=q:=by simpa using C
 have B:=QY w (.cells #[.pointer (some ⟨a+1,0,none⟩),.slice pm m.length cm,.slice pi inp.length ci,.int .i64 most,.slice (some ⟨r,0,none⟩) 1 1,.int .i64 0,.slice none 0 0,.slice none 0 0,.int .i64 0,.bool false,.int .i64 0,.int .i64 0] 52);have J:=Qh w #[.pointer (some ⟨a+1,0,none⟩),.slice pm m.length cm,.slice pi inp.length ci,.int .i64 most,.slice (some ⟨r,0,none⟩) 1 1,.int .i64 0,.slice none 0 0,.slice none 0 0,.int .i64 0,.bool false,.int .i64 0,.int .i64 0] 52;generalize w.alloc (.cells #[.pointer (some ⟨a+1,0,none⟩),.slice pm m.length cm,.slice pi inp.length ci,.int .i64 most,.slice (some ⟨r,0,none⟩) 1 1,.int .i64 0,.slice none 0 0,.slice none 0 0,.int .i64 0,.bool false,.int .i64 0,.int .i64 0] 52)=w' at B J |-;have X:=XC P;have lr:=XC N;have V:a<w.heap.size:=H.lt _ (.inl Z);have T:a+1<w.heap.size:=H.lt _ (.inr Z);have n:z a=33:=n;have u:z (a+1)=33:=u;have Q:d<=a:=Q
 have L:∀ k,k<w.heap.size->z k≠33->z k≠40->z k≠41->¬ (k=a\/k=a+1\/k=c\/k=r\/k=w.heap.size):=fun k j l v W h=>by
  rcases h with rfl | rfl | rfl | rfl | rfl
  ·exact l n
  ·exact l u
  ·exact v G
  ·exact W o
  ·omega
 have D:¬ (c=a\/c=a+1):=fun h=>by rcases h with rfl | rfl<;>omega
 have t:¬ (r=a\/r=a+1):=fun h=>by rcases h with rfl | rfl<;>omega
 refine⟨⟨a+1,fun x=>x=a\/x=a+1,⟨a,.map [],fun _=>0,fun _ _=>False⟩,fun x=>x=a\/x=a+1\/x=c\/x=r\/x=w.heap.size,pm,cm,pi,ci,.slice (some ⟨r,0,none⟩) 1 1,.slice none 0 0,.slice none 0 0,⟨c,.slice none 0 0⟩,[],0⟩,⟨J,H.below B,?_,?_,f,?_,?_,?_,?_,?_,?_,?_,?_,?_,Xb _⟩,?_⟩
 ·exact(Qam 6).keep (fun k j f=>B.block k f) (fun k j f=>⟨L k f (by have:=j.2;simp only at this;omega) (by have:=j.2;simp only at this;omega) (by have:=j.2;simp only at this;omega),f⟩) R
 ·refine Ya (Qfz (O:=Imm _ w.heap.size) M s (fun x b=>?_)) B;have l:=XC (QG M b).choose_spec;have v:z x=37:=U x b;exact⟨L x l (by omega) (by omega) (by omega),l⟩
 ·refine⟨Z,.inr ⟨r,1,_,Z,Xb _,(B.block r lr).trans N,Ze,by unfold maxLen;omega,Z,Z⟩⟩
 ·exact⟨none,0,Z,fun i x b=>by cases b⟩
 ·exact⟨Z,.inl ⟨Z,Z⟩⟩
 ·refine⟨⟨⟨(B.block c X).trans P,?_⟩,⟨.inr (.inr (.inl Z)),D⟩,fun g S=>by cases S⟩,(fun y hy=>by cases hy),Y⟩
  exact⟨Z,.inl ⟨Z,Z⟩⟩
 ·exact⟨.inr (.inr (.inr (.inr Z))),fun h=>by rcases h with h | h<;>omega⟩
 ·intro x b
  cases b
  exact⟨.inr (.inr (.inr (.inl Z))),t⟩
 ·intro x b
  cases b
 ·exact fun x b=>b.elim .inl (fun h=>.inr (.inl h))
 ·have:=B.size
  have v:=XC J;rintro x (rfl | rfl | rfl | rfl | rfl)<;>omega
 ·rintro x (rfl | rfl | rfl | rfl | rfl)<;>omega
section
variable {n:Nat}{a:Act}{L:List (Tmp × Value)}{w0 w:World}{Bs:List (Nat × Array Value × TypeId)}{Q:Exit->Act->World->Prop}{ops:Array Oper}{rest:List Oper}{t:Tmp}{u v:Value}{ty ty2 ty3:TypeId}{pos:String}{aft:Array Edge}{gd:Option (Nat × Bool)}{x y:Operand}
theorem Qir {b:TypeId}{i:TypeInfo}{z:Value}{size:Nat}(l:prog.underlying b=some (.slice e)) (F:prog.info? e=some i) (A:i.zero=some z) (h:i.size=size)
 (f:i.bytes*m<=281474976710656) (C:m<=maxLen) (y:Wd w0 w Bs) (u:Gok ops n L gd) (p:Qs L x=some (.int .i64 (m:Int))) (q:Nat.blt t n=true)
 (k:∀ w' g xs,w.heap.size=g->w'.ownsRow w.heap.size e size (.slice (some ⟨g,0,none⟩) m m) m xs->Below w.heap.size w w'->Wd w0 w' Bs->St n ((t,.slice (some ⟨g,0,none⟩) m m)::L) ops Q rest w') :
 St n L ops Q (⟨some t,.makeSlice b x x,ty,pos,aft,gd⟩::rest) w:=fun a c=>by
 obtain⟨w',B,E,d⟩:=run_make_full (P:=prog) w w.heap.size b e i z size l F A h .i64 .i64 m f C Ze
 have j:Below w.heap.size w w':=(Below.refl _ w).grown d Ze (fun k r=>by cases r);have v:=c.ev p;refine wpList_step fun K D=>?_;rw[Xs (Gok.on (o:=⟨some t,.makeSlice b x x,ty,pos,aft,gd⟩) c u)]
 have s:=D (a.put (some t) (.slice (some ⟨w.heap.size,0,none⟩) m m)) w' (k w' _ _ Z E j (y.below j) _ (c.put q));unfold Oper.wp;simp[execOp,v,B,Result.andThen]
 exact s
theorem Qmm {c:Array Value}{b:List Value}(d:Wd w0 w Bs) (o:w0.heap.size<=g) (m:∀ (i:Nat) x,Bs[i]?=some x->x.1≠g) (t:Blk w g c bt)
 (r:Qs L x=some (.pointer (some ⟨g,j,none⟩))) (h:Qs L y=some (.agg b.toArray)) (v:(prog.info? ty2).map (·.size)=some b.length) (u:b.all (·.oneCell')=true) (s:j+b.length<=c.size)
 (k:Wd w0 (w.setCells g j b) Bs->St n L ops Q rest (w.setCells g j b)):St n L ops Q (⟨none,.store ty2 x y,ty,pos,aft,none⟩::rest) w:=fun a f=>by
 have l:Wd w0 (w.setCells g j b) Bs:=⟨ZU o b w w0 j d.bel,fun i y h=>(Zy (m i y h) b j w).trans (d.blk i y h),d.new,d.nd⟩;refine QdG f Z Z (fun K p=>?_) (k l a f);have e:=f.ev r;have q:=f.ev h
 have:=run_storeAt_mid (P:=prog) w g j ty2 b.toArray (by simpa using Qch t j b.length s) (by simpa using v) (by simpa using u)
 unfold Oper.wp execOp;simp only[e,q,Sem.run_bind,this,Result.andThen_ok,Sem.run_pure]
 rw[Oper.upon_skip];simpa[Act.put] using p
end
def Qe8 {α:Type}(A:Lay α) (w w':World) (l:List α) (e:Ending):Prop:=∃ a' c',e=.returned (.slice a' l.length c')/\A.list.In w' (Qaq w.heap.size) l [.slice a' l.length c']/\Below w.heap.size w w'
def iv (l:List Int):List Value:=l.map (fun x=>Value.int .i64 x)
theorem Qii {l:List Int}(h:w.ownsRow lo e 1 v l.length (iv l)) (hb:∀ x∈l,I64 x):intsL.In w (Qaq lo) l [v] :=
 QaS.lay (A:=Lay.int) (e:=e) (xs:=iv l) ⟨h,fun i x a=>by
  have d:Lay.int.size=1:=rfl;rw[d,XL]
  have b:((iv l).drop i).take 1=[.int .i64 x]:=by
   obtain⟨c,e⟩:=Zi a
   unfold iv;rw[<-List.map_drop,List.drop_eq_getElem_cons c]
   simp[e]
  rw[b]
  exact⟨Z,hb x (Zm a)⟩⟩
theorem QiZ {l:List Int}(h:intsL.In w O l [.slice a m c]):∀ x∈l,I64 x:=by
 intro x d;obtain⟨i,e⟩:=List.mem_iff_getElem?.1 d
 obtain⟨g,o,f,_,_,_,_,b⟩:=Yf h e
 exact b.2
theorem QiB {l:List Int}(h:intsL.In w O l [.slice a m c]) (k:0<l.length) :
 ∃ ad,a=some ad/\ad.block<w.heap.size/\∀ j v,(iv l)[j]?=some v->w.cell? (ad.add j)=some v:=by
 obtain⟨g,o,e,_,d,_⟩:=QaT h k
 refine⟨⟨g,o,none⟩,e,d,fun j v i=>?_⟩
 have b:j<l.length:=by have:=(Zi i).1;simpa[iv] using this
 obtain⟨p,q,f,_,_,n⟩:=QaT h b
 rw[e] at f
 cases f
 rw[show (⟨g,o,none⟩:Addr).add j=⟨g,o+j,none⟩ from by unfold Addr.add;split<;>simp_all,n,<-i]
 simp[iv,List.getD,b]
theorem Qcg (l:List Int):(iv l).length=l.length:=by simp[iv]
theorem QkU (l:List Int):∀ v∈iv l,v.oneCell'=true:=by
 intro v a;obtain⟨x,_,rfl⟩:=List.mem_map.1 a
 rfl
theorem underIs:prog.underlying 63=some (.slice 3):=by kernel_rfl
theorem infoI:(prog.info? 3).map (fun i=>(i.zero,i.size,i.bytes))=some (some (.int .i64 0),1,8):=by kernel_rfl
theorem infoI1:(prog.info? 3).map (·.size)=some 1:=by kernel_rfl
theorem ZX (l:List Int) (p:Option Addr) (c:Nat) (w:World) (i:intsL.In w All l [.slice p l.length c]) (y:l.length<=4294967296) :
 Calls prog 175 #[.slice p l.length c] w fun e w'=>Qe8 Lay.int w w' l e:=by
 have x:Hid _:=i;have s:Hid _:=QiZ i;clear i;have q:=fun u=>run_make_row' (P:=prog) 63 3 (.int .i64 0) 8 underIs infoI Z .i64 .i64 l.length (by omega) (by omega) u
 have g:(w.alloc (.cells (madeCells #[.int .i64 0] l.length) 3)).heap[w.heap.size]?=some (.cells (madeCells #[.int .i64 0] l.length).toList.toArray 3 (0,0)):=by
  rw[Array.toArray_toList];exact Qh w _ _
 have b:(iv l).length=Nat.min l.length l.length:=by rw[Qcg];exact(Nat.min_self _).symm
 have d:Hid (0<(iv l).length->(some ⟨w.heap.size,0,none⟩:Option Addr)=some ⟨w.heap.size,0,none⟩/\∃ m,p=some m/\∀ j v,(iv l)[j]?=some v->(w.alloc (.cells (madeCells #[.int .i64 0] l.length) 3)).cell? (m.add j)=some v):=by
  intro r;rw[Qcg] at r
  obtain⟨m,e,o,A⟩:=QiB x.out r
  exact⟨Z,m,e,fun j v z=>(XU (w:=w) (a:=m.add j) (Below.heap_alloc _ _ _ (by unfold Addr.add;split<;>exact o))).trans (A j v z)⟩
 have f:0+(iv l).length<=(madeCells #[.int .i64 0] l.length).toList.length:=by rw[Qcg,toList_madeCells_one];simp
 have k:Hid (Below w.heap.size w (w.alloc (.cells (madeCells #[.int .i64 0] l.length) 3))):=(Below.refl _ w).alloc Ze _;go_enter func175,ntmps175
 go_wp2_with (refine wpList_copy_splice Z (.tmp 7) (.tmp 8) 63 63 Z 3 underIs infoI1 _ _ l.length l.length l.length c Z Z w.heap.size 0 (madeCells #[.int .i64 0] l.length).toList 3 g (iv l) b d.out f (QkU l) w.heap.size w k.out Ze ?_)
 ·intro w' n h;clear d f k g b
  have R:Hid (Qe8 Lay.int w w' l (.returned (.slice (some ⟨w.heap.size,0,none⟩) l.length l.length))):=by
   have t:splice (madeCells #[.int .i64 0] l.length).toList 0 (iv l)=iv l:=by
    rw[toList_madeCells_one];simp[splice,Qcg]
   rw[t] at n
   refine⟨_,_,Z,Qii ⟨by rw[Qcg,XL],Or.inr ⟨w.heap.size,l.length,(iv l).toArray,Z,Ze,n.out,Ze,by unfold maxLen;omega,by simp[Qcg],?_⟩⟩ s.out,h⟩
   rw[XL,<-Qcg l];simp
  clear n h q;go_wp2
  go_ret;exact R.out
end Go.Proofs.YtofjjohefamljafGreat
