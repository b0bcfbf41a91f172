import Derived.Test.YtlnkdhnibcenbaeGreatRows
import Derived.WalkKit
import Derived.WalkLawsBesides
import Derived.ProofKit
import Derived.OpenShut
import Derived.Deep.OwnRows
import Derived.Deep.AppendLies
import Derived.Deep.Draws
import Derived.Deep.Slices
import Derived.Deep.Strs
import Derived.Below
import Derived.ChangeOld
import Derived.Deep.MidRow
import Derived.Laws.StructEq
import Derived.ChangeKeysEq
import Derived.RowKit
import Derived.Deep.Cut
import Derived.Deep.RegionLaw
import Derived.Deep.QuietTactic
import Derived.BigQuiet
import Derived.RegionTactic
import Derived.Orders
import Derived.Deep.DeepCutAuto
import Derived.Deep.CutBlock
set_option maxHeartbeats 16000000
set_option maxRecDepth 100000
namespace Go.Proofs.YtlnkdhnibcenbaeGreat
open Go.ChangeShapes Go.WideShapes Go.ChangeAt Go.RowKit _root_.Go.Proofs.Tryz
set_option linter.unusedSimpArgs false
set_option linter.unusedVariables false
variable {w w' w2 wc wr w6:World}{b n c rc ac B X m j k g i N rl al lo d cm f q cap s fm fi id fl R cR G fc fd bl o cL cA n1 lm funcs fe d1:Nat}{O Q A O':Nat→Prop}{p ag a ra aa pm pR pA na fp fq p1:Option Addr}{t e bt:TypeId}{l regs:List Int}{v v0:Value}{P:Program}{xc xa xb xk xn fr x:Int}{L:List Bool}{xs cs ds:List Value}{x0:Operand}
theorem Zr {n:Nat}{w:World}:Below n w w:=Below.refl _ _
theorem Zg {α:Type _}{l:List α}{i:Nat}(h:i<l.length):l[i]?=some l[i]:=List.getElem?_eq_getElem h
theorem Zi {α:Type _}{i:Nat}{a:α}{l:List α}(h:l[i]?=some a):∃ h,l[i]=a:=List.getElem?_eq_some_iff.1 h
theorem Za {α:Type _}{xs:Array α}{i:Nat}{d:α}:xs.getD i d=xs[i]?.getD d:=Array.getD_eq_getD_getElem?
theorem Zl {n m k:Nat}:n<m→m≤k→n<k:=Nat.lt_of_lt_of_le
theorem Zm {α:Type _}{l:List α}{i:Nat}{a:α}(h:l[i]?=some a):a∈l:=List.mem_of_getElem? h
theorem Zt {n m k:Nat}:n≤m→m≤k→n≤k:=Nat.le_trans
theorem Ze {n:Nat}:n≤n:=Nat.le_refl _
theorem Z {α:Sort _}{a:α}:a=a:=rfl
theorem Y:True:=trivial
theorem Yz {α:Sort _}{a:α}:a=a:=rfl
theorem Yy:True:=trivial
theorem Xb:type_of% @Nat.zero_le:=@Nat.zero_le
theorem Xd:type_of% @Below.heap_setCell:=@Below.heap_setCell
theorem Xf:type_of% @List.length_eq_zero_iff:=@List.length_eq_zero_iff
theorem Xs:type_of% @if_pos:=@if_pos
theorem XC:type_of% @lt_of_block:=@lt_of_block
theorem XL:type_of% @Nat.mul_one:=@Nat.mul_one
theorem XR:type_of% @List.getElem?_take:=@List.getElem?_take
theorem XS:type_of% @List.getElem?_map:=@List.getElem?_map
structure Zw (O O':Nat->Prop) (w w':World):Prop where
 os:w'.os=w.os
 tape:w'.tape=w.tape
 output:w'.output=w.output
 size:w.heap.size<=w'.heap.size
 block:∀ k,k<w.heap.size->¬ O k->w'.heap[k]?=w.heap[k]?
 own:∀ k,O' k->O k\/w.heap.size<=k
theorem Zw.refl (O:Nat->Prop) (w:World):Zw O O w w:=⟨Z,Z,Z,Ze,fun _ _ _=>rfl,fun _ h=>Or.inl h⟩
theorem Zw.trans {d:Nat->Prop}{a b c:World}(h:Zw O O' a b) (k:Zw O' d b c):Zw O d a c :=
 ⟨k.os.trans h.os,k.tape.trans h.tape,k.output.trans h.output,Zt h.size k.size,
  fun i f g=>(k.block i (Zl f h.size) (fun j=>(h.own i j).elim g (fun e=>by omega))).trans (h.block i f g),
  fun i f=>(k.own i f).elim (h.own i) (fun e=>Or.inr (Zt h.size e))⟩
theorem Zw.mono {P:Nat->Prop}{a b:World}(h:Zw O O' a b) (d:∀ k,O k->P k):Zw P O' a b :=
 ⟨h.os,h.tape,h.output,h.size,fun i c e=>h.block i c (fun f=>e (d i f)),fun i c=>(h.own i c).imp (d i) id⟩
theorem Zw.sub {P:Nat->Prop}{a b:World}(h:Zw O O' a b) (c:∀ k,P k->O' k):Zw O P a b :=
 ⟨h.os,h.tape,h.output,h.size,h.block,fun i d=>h.own i (c i d)⟩
theorem Zw.drewN {a:World}(h:Zw O O' a w) (n:Nat):Zw O O' a (w.drewN n):=⟨h.os,h.tape,h.output,h.size,h.block,h.own⟩
theorem Zw.drew {a:World}(h:Zw O O' a w):Zw O O' a w.drew:=⟨h.os,h.tape,h.output,h.size,h.block,h.own⟩
theorem Zw.alloc {a:World}(h:Zw O O' a w) (o:Obj):Zw O O' a (w.alloc o) :=
 ⟨h.os,h.tape,h.output,by have:=h.size;simp;omega,fun k c b=>(Below.heap_alloc _ _ _ (by have:=h.size;omega)).trans (h.block k c b),h.own⟩
theorem Zw.setCell {a:World}(h:Zw O O' a w){p:Addr}(f:O' p.block) (u:Value):Zw O O' a (w.setCell p u) :=
 ⟨h.os,h.tape,h.output,by have:=h.size;simp;omega,
  fun k d b=>(Xd _ _ _ _ (fun e=>by subst e;rcases h.own _ f with c | c;exact b c;omega)).trans (h.block k d b),h.own⟩
theorem Zw.below {a:World}(h:Zw O O' a w) (d:B<=a.heap.size) (b:∀ k,O k->B<=k):Below B a w :=
 ⟨h.os,h.tape,h.output,h.size,fun k e=>h.block k (by omega) (fun c=>by have:=b k c;omega)⟩
theorem Zw.of_below {a:World}(h:Below a.heap.size a w) (c:∀ k,O' k->O k\/a.heap.size<=k):Zw O O' a w :=
 ⟨h.os,h.tape,h.output,h.size,fun k b _=>h.block k b,c⟩
theorem Zw.keep {a:World}(h:Zw O O' a w){o:Obj}(b:a.heap[k]?=some o) (c:¬ O k):w.heap[k]?=some o :=
 (h.block k (XC b) c).trans b
theorem Qb {c:Array Value}(h:w.heap[b]?=some (.cells c t (0,0))) (i:Nat) (v:Value) (a:c[i]?=some v):w.cell? ⟨b,i,none⟩=some v:=by
 simp[World.cell?,h,a]
theorem Qn {c:Array Value}(h:w.heap[b]?=some (.cells c t (0,0))) (i:Nat):w.frozen? ⟨b,i,none⟩=false:=by
 simp[World.frozen?,h]
theorem Qq {c:Array Value}(h:w.heap[b]?=some (.cells c t (0,0))) (i:Nat) (v:Value) :
 (w.setCell ⟨b,i,none⟩ v).heap[b]?=some (.cells (c.setIfInBounds i v) t (0,0)):=by
 simp[World.setCell,Array.getElem?_modify,h]
theorem Qm (w:World) (c:Array Value) (t:TypeId):(w.alloc (.cells c t)).heap[w.heap.size]?=some (.cells c t (0,0)):=by
 show (w.heap.push _)[w.heap.size]?=_;simp
theorem ZG {c d:Array Value}{u:TypeId}{f:Nat × Nat}(h:w.heap[b]?=some (.cells c t f)) (k:w.heap[g]?=some (.cells d u f)) (a:t≠u):b≠g:=by
 intro e;subst e;rw[h] at k;simp at k;exact a k.2
def Row (w:World) (O:Nat->Prop) (t:TypeId) (v:Value) (xs:List Int):Prop :=
 w.ownsRow 0 t 1 v xs.length (xs.map (Value.int .i64))/\∀ g,v.ownBlock=some g->O g
theorem Row.nil (w:World) (O:Nat->Prop) (t:TypeId):Row w O t (.slice none 0 0) []:=⟨⟨Z,Or.inl ⟨Z,Z⟩⟩,by simp[Value.ownBlock]⟩
theorem Row.form {xs:List Int}(h:Row w O t v xs) :
 ∃ a cap,v=.slice a xs.length cap/\(a=none->xs=[]/\cap=0)/\∀ g,a=some g->g=⟨g.block,0,none⟩/\O g.block/\xs.length<=cap/\cap<=maxLen/\∃ c,w.heap[g.block]?=some (.cells c t (0,0))/\c.size=cap/\∀ i,i<xs.length->c[i]?=some (.int .i64 (xs.getD i 0)):=by
 obtain⟨⟨r,j⟩,o⟩:=h
 rcases j with ⟨rfl,n⟩|⟨g,cap,b,rfl,_,m,k,d,l,p⟩
 ·have:xs=[]:=Xf.1 n
  subst this;exact⟨none,0,Z,(fun _=>⟨Z,Z⟩),(fun g e=>by cases e)⟩
 ·refine⟨some ⟨g,0,none⟩,cap,Z,(fun e=>by cases e),(fun q e=>?_)⟩
  cases e
  refine⟨Z,o g Z,k,d,b,m,by simpa using l,fun i f=>?_⟩
  have:(b.toList.take (xs.length*1))[i]?=(xs.map (Value.int .i64))[i]?:=by rw[p]
  rw[XR,Xs (by omega),XS] at this
  rw[<-Array.getElem?_toList,this]
  simp[List.getD,f]
theorem Row.cell {xs:List Int}(h:Row w O t (.slice (some ⟨g,0,none⟩) n cap) xs) (i:Nat) (j:i<xs.length) :
 w.cell? ⟨g,i,none⟩=some (.int .i64 (xs.getD i 0)):=by
 obtain⟨a,d,e,_,k⟩:=h.form
 cases e
 obtain⟨_,_,_,_,c,f,_,b⟩:=k _ Z
 exact Qb f i _ (b i j)
theorem Row.keep {xs:List Int}(h:Row w O t v xs) (i:∀ g,v.ownBlock=some g->w'.heap[g]?=w.heap[g]?) (e:∀ g,v.ownBlock=some g->O' g):Row w' O' t v xs:=by
 obtain⟨⟨c,d⟩,l⟩:=h
 refine⟨⟨c,?_⟩,e⟩
 rcases d with j | ⟨g,a,b,rfl,k,f,r⟩
 ·exact Or.inl j
 ·exact Or.inr ⟨g,a,b,Z,k,(i g Z).trans f,r⟩
theorem Row.lt {xs:List Int}(h:Row w O t v xs)(a:v.ownBlock=some g):g<w.heap.size:=by
 obtain⟨⟨j,b⟩,i⟩:=h
 rcases b with ⟨rfl,_⟩|⟨f,d,c,rfl,_,e,r⟩
 ·simp[Value.ownBlock] at a
 ·simp[Value.ownBlock] at a;subst a;exact XC e
theorem Row.block {xs:List Int}(h:Row w O t v xs)(a:v.ownBlock=some g):∃ c,w.heap[g]?=some (.cells c t (0,0)):=by
 obtain⟨⟨k,d⟩,j⟩:=h
 rcases d with ⟨rfl,_⟩|⟨i,e,b,rfl,_,f,r⟩
 ·simp[Value.ownBlock] at a
 ·simp[Value.ownBlock] at a;subst a;exact⟨b,f⟩
theorem Row.step {P b:Nat->Prop}{xs:List Int}(h:Row w O t v xs) (k:Zw P b w w') (c:∀ x,O x->¬ P x):Row w' O t v xs :=
 h.keep (fun g a=>k.block g (h.lt a) (c g (h.2 g a))) h.2
theorem Row.drewN {xs:List Int}(h:Row w O t v xs) (n:Nat):Row (w.drewN n) O t v xs:=h
theorem Row.init {xs:List Int}(h:Row w O t (.slice (some ⟨g,0,none⟩) n cap) xs) (m:Nat) (o:m<=xs.length) :
 Row w O t (.slice (some ⟨g,0,none⟩) m cap) (xs.take m):=by
 obtain⟨⟨q,j⟩,i⟩:=h
 rcases j with ⟨e,_⟩|⟨c,f,a,e,s,l,r,b,k,p⟩
 ·cases e
 ·cases e
  have d:(xs.take m).length=m:=by simp;omega
  refine⟨⟨by simp,Or.inr ⟨g,cap,a,by rw[d],Xb _,l,by omega,b,k,?_⟩⟩,fun c e=>i c e⟩
  rw[d,XL,List.map_take,<-p,List.take_take,XL,Nat.min_eq_left o]
theorem ZU {b k:Nat}(a:k≠b):∀ (vs:List Value) (o:Nat) (w:World),(w.setCells b o vs).heap[k]?=w.heap[k]?
 | [],_,_=>rfl
 | v::r,o,w=>by rw[World.setCells,ZU a r];exact Xd _ _ _ _ a
theorem Zw.setCells {O O':Nat->Prop}{a:World}{b:Nat}(c:O' b):∀ (vs:List Value) (o:Nat) (w:World),Zw O O' a w->Zw O O' a (w.setCells b o vs)
 | [],_,_,h=>h
 | v::r,o,w,h=>Zw.setCells c r (o+1) _ (h.setCell (p:=⟨b,o,none⟩) c v)
#print axioms Row.init
theorem Xi:type_of% @World.block_lt_of_cell?:=@World.block_lt_of_cell?
theorem Xj:type_of% @Array.getElem?_eq_getElem:=@Array.getElem?_eq_getElem
theorem Xp:type_of% @Nat.mul_le_mul_right:=@Nat.mul_le_mul_right
theorem XK:type_of% @Nat.zero_add:=@Nat.zero_add
theorem XO:type_of% @List.take_of_length_le:=@List.take_of_length_le
section
open Go.Deep
structure Lay (α:Type) where
 size:Nat
 In:World->(Nat->Prop)->α->List Value->Prop
 len:∀ {w O x cs},In w O x cs->cs.length=size
 keep:∀ {w w':World} {O O':Nat->Prop} {x cs},(∀ k,O k->k<w.heap.size->w'.heap[k]?=w.heap[k]?)->(∀ k,O k->k<w.heap.size->O' k)->In w O x cs->In w' O' x cs
section
variable {α β:Type}{L:Lay α}{w w':World}{O O':Nat->Prop}{x:α}{cs:List Value}
theorem Lay.below (h:L.In w O x cs) (b:Below w.heap.size w w'):L.In w' O x cs:=L.keep (fun k _ a=>b.block k a) (fun _ h _=>h) h
theorem Ya:type_of% @Lay.below:=@Lay.below
theorem Lay.lt (h:L.In w (fun g=>g<B) x cs) (b:Below B w w'):L.In w' (fun g=>g<B) x cs:=L.keep (fun k a _=>b.block k a) (fun _ h _=>h) h
theorem Lay.mono (h:L.In w O x cs) (a:∀ k,O k->k<w.heap.size->O' k):L.In w O' x cs:=L.keep (fun k _ _=>rfl) a h
theorem Yc:type_of% @Lay.mono:=@Lay.mono
theorem Lay.alloc (h:L.In w O x cs) (o:Obj):L.In (w.alloc o) O x cs:=L.keep (fun k _ a=>Below.heap_alloc _ _ _ a) (fun _ h _=>h) h
theorem Lay.setCell (h:L.In w O x cs){p:Addr}(b:¬ O p.block) (v:Value):L.In (w.setCell p v) O x cs :=
 L.keep (fun k a _=>Xd _ _ _ _ (fun e=>by subst e;exact b a)) (fun _ h _=>h) h
theorem Lay.drewN (h:L.In w O x cs) (m:Nat):L.In (w.drewN m) O x cs:=L.keep (w:=w) (w':=w.drewN m) (fun k _ _=>rfl) (fun _ h _=>h) h
end
def Lay.int:Lay Int where
 size:=1
 In:=fun _ _ x cs=>cs=[.int .i64 x]/\-9223372036854775808<=x/\x<=9223372036854775807
 len:=fun h=>by rw[h.1];rfl
 keep:=fun _ _ h=>h
def Lay.pair {α β:Type}(A:Lay α) (B:Lay β):Lay (α × β) where
 size:=A.size+B.size
 In:=fun w O x cs=>∃ c d,cs=c++d/\A.In w O x.1 c/\B.In w O x.2 d
 len:=fun ⟨c,d,e,h1,h2⟩=>by rw[e,List.length_append,A.len h1,B.len h2]
 keep:=fun hb hl ⟨c,d,e,h1,h2⟩=>⟨c,d,e,A.keep hb hl h1,B.keep hb hl h2⟩
def Lay.list {α:Type}(A:Lay α):Lay (List α) where
 size:=1
 In:=fun w O l cs=>∃ a c,cs=[.slice a l.length c]/\∀ (i:Nat) (x:α),l[i]?=some x->∃ g o ds,a=some ⟨g,o,none⟩/\O g/\g<w.heap.size/\(∀ j,j<A.size->w.cell? ⟨g,o+i*A.size+j,none⟩=ds[j]?)/\A.In w O x ds
 len:=fun ⟨_,_,e,_⟩=>by rw[e];rfl
 keep:=fun {w w' O O' l cs} hb hl ⟨a,c,e,h⟩=>⟨a,c,e,fun i x hx=>by
  obtain⟨g,o,ds,e1,hg,hlt,hc,hi⟩:=h i x hx
  have hk:w'.heap[g]?=w.heap[g]?:=hb g hg hlt;refine⟨g,o,ds,e1,hl g hg hlt,?_,fun j hj=>?_,A.keep hb hl hi⟩
  ·rcases Nat.lt_or_ge g w'.heap.size with h' | h'
   ·exact h'
   ·rw[Array.getElem?_eq_none h',Array.getElem?_eq_getElem hlt] at hk;cases hk
  ·exact(World.cell?_of_block (w:=w) (a:=⟨g,o+i*A.size+j,none⟩) hk).trans (hc j hj)⟩
theorem Lay.int_mk (w:World) (O:Nat->Prop)(h:-9223372036854775808<=x/\x<=9223372036854775807):Lay.int.In w O x [.int .i64 x]:=⟨Z,h⟩
theorem Lay.list_nil {α:Type}(A:Lay α) (w:World) (O:Nat->Prop) (a:Option Addr) (c:Nat):A.list.In w O [] [.slice a 0 c]:=⟨a,c,Z,fun i x h=>by simp at h⟩
theorem Yg:type_of% @Lay.list_nil:=@Lay.list_nil
theorem Lay.list_at {α:Type}{A:Lay α}{l:List α}(h:A.list.In w O l [.slice a n c]){x:α}(b:l[i]?=some x) :
 ∃ g o ds,a=some ⟨g,o,none⟩/\O g/\g<w.heap.size/\(∀ j,j<A.size->w.cell? ⟨g,o+i*A.size+j,none⟩=ds[j]?)/\A.In w O x ds:=by
 obtain⟨f,d,e,h⟩:=h
 simp at e
 obtain⟨rfl,_,rfl⟩:=e
 exact h i x b
theorem Yf:type_of% @Lay.list_at:=@Lay.list_at
def QaY (P:Program) (t:TypeId){α:Type}(A:Lay α) (n:Nat):Prop :=
 P.cellsOf t=A.size/\∀ {H:Type} {enc:TypeId × Value->H} {w:World} {base:Nat} {spare:Nat->Bool} {held:Bool} {fuel:Nat} {cs:List Value} {x:DataW H × List MemPlace},
  fuel<=n->DataW.trod enc P w base spare held fuel t cs=some x->∃ d,A.In w (fun _=>True) d cs
theorem QaY.int (n:Nat) (h:P.underlying t=some (.int .i64)) (a:P.cellsOf t=1):QaY P t Lay.int n :=
 ⟨a,fun _ c=>by
  obtain⟨k,e,_,b⟩:=DataW.trod_int h c
  exact⟨k,e,Go.bounds_i64 b⟩⟩
theorem Qgh {α:Type}{P:Nat->α->Prop}(m:Nat) (h:∀ i,i<m->∃ x,P i x):∃ l:List α,l.length=m/\∀ i x,l[i]?=some x->P i x:=by
 induction m with
 | zero=>exact⟨[],Z,fun i x b=>by simp at b⟩
 | succ m ih =>
   obtain⟨l,c,e⟩:=ih (fun i d=>h i (by omega))
   obtain⟨x,b⟩:=h m (by omega)
   refine⟨l++[x],by simp[c],fun i y a=>?_⟩
   rw[List.getElem?_append] at a
   split at a
   ·exact e i y a
   ·rename_i d
    have:i=m:=by
     have:=(Zi a).1
     simp at this
     omega
    subst this;simp[c] at a
    subst a;exact b
theorem QaY.list {α:Type}{A:Lay α}(h:P.underlying t=some (.slice e)) (X:P.cellsOf t=1) (T:QaY P e A n) (y:0<A.size):QaY P t A.list (n+1) :=
 ⟨X,fun {H W w p L U S cs x} hf h'=>by
  rcases DataW.trod_slice h h' with ⟨I,_⟩|⟨a,D,E,B,O,q,rfl,I,_,hb,hl,hm,R,J,_,_⟩
  ·exact⟨[],by rw[I];exact Yg A _ _ _ _⟩
  ·obtain⟨l,K,Q⟩:=Qgh (P:=fun i (d:α)=>∃ c,w.cells? p (a.add (i*A.size)) A.size=some c/\A.In w (fun _=>True) d c) D (fun i G=>by
    have C:=J i G;rw[Zg (by omega),T.1] at C
    rw[Option.bind_eq_some_iff] at C
    obtain⟨c,g,M⟩:=C
    obtain⟨d,v⟩:=T.2 (by omega) M
    exact⟨d,c,g,v⟩)
   refine⟨l,some a,E,by rw[I,K],fun i x N=>?_⟩
   obtain⟨c,g,v⟩:=Q i x N
   obtain⟨_,V,m⟩:=World.cells?_some g
   obtain⟨b,u,o⟩:=a
   have f:o=none:=by
    have G:0<l.length:=Nat.lt_of_le_of_lt (Xb i) (Zi N).1;obtain⟨F,r,z⟩:=Q 0 l[0] (Zg G)
    have k:0<F.length:=by rw[A.len z];exact y
    have:=(World.cells?_some r).2.2 0 y
    rw[Zg k] at this
    simpa[Addr.add] using World.cell?_spot this
   subst f
   have s:∀ j,j<A.size->w.cell? ⟨b,u+i*A.size+j,none⟩=c[j]?:=fun j hj=>by
    have:=m j hj
    rw[Go.WideShapes.add_plain,Go.WideShapes.add_plain] at this
    exact this
   refine⟨b,u,c,Z,Y,?_,s,v⟩
   have k:0<c.length:=by rw[A.len v];exact y
   have:=s 0 y
   rw[Zg k] at this
   exact Xi w _ this⟩
theorem QaY.mono {α:Type}{A:Lay α}(h:QaY P t A n) (c:m<=n):QaY P t A m:=⟨h.1,fun a b=>h.2 (Zt a c) b⟩
def Qaq (P:Program) (fs:Array Field):Nat->Nat->{α:Type}->Lay α->Nat->Prop:=fun i o α A n =>
 ∀ {H:Type} {enc:TypeId × Value->H} {w:World} {base:Nat} {spare:Nat->Bool} {held:Bool} {fuel:Nat} {cs:List Value} {xs:List (DataW H × List MemPlace)},
  fuel<=n->cs.length=o+A.size->xs.length=fs.size->(∀ (j:Nat) (f:Field),fs[j]?=some f->DataW.trod enc P w base spare held fuel f.type ((cs.drop f.offset).take (P.cellsOf f.type))=xs[j]?) ->
  ∃ d,A.In w (fun _=>True) d (cs.drop o)
theorem Qaq.last {a:Array Field}{f:Field}{α:Type}{A:Lay α}(j:a[i]?=some f) (m:f.offset=o) (e:QaY P f.type A n):Qaq P a i o A n:=by
 intro H q w c b k l v s r x u h;have g:=h i f j;have t:i<a.size:=(Array.getElem?_eq_some_iff.1 j).1;rw[Zg (by omega),m,e.1] at g
 obtain⟨d,p⟩:=e.2 r g
 refine⟨d,?_⟩
 rwa [XO (by simp;omega)] at p
theorem Qaq.cons {a:Array Field}{f:Field}{α β:Type}{A:Lay α}{B:Lay β}(j:a[i]?=some f) (v:f.offset=o) (m:QaY P f.type A n) (r:Qaq P a (i+1) (o+A.size) B n):Qaq P a i o (A.pair B) n:=by
 intro H t w c b p l D x k z q h;have g:=h i f j;have C:i<a.size:=(Array.getElem?_eq_some_iff.1 j).1;rw[Zg (by omega),v,m.1] at g
 obtain⟨d,u⟩:=m.2 k g
 have y:(A.pair B).size=A.size+B.size:=rfl;obtain⟨e,s⟩:=r k (by omega) q h
 refine⟨(d,e),_,_,?_,u,s⟩
 rw[<-List.drop_drop,List.take_append_drop]
theorem QaY.struct {g:Array Field}{α:Type}{A:Lay α}(h:P.underlying t=some (.struct g)) (f:P.cellsOf t=A.size) (o:Qaq P g 0 0 A n):QaY P t A (n+1) :=
 ⟨f,fun {H p w i c j k s x} u l=>by
  obtain⟨r,m,rfl,_,e,a,b⟩:=DataW.trod_struct h l
  obtain⟨d,q⟩:=o (by omega) (by rw[e,f];omega) a b
  exact⟨d,by simpa using q⟩⟩
structure ZI {α:Type}(A:Lay α) (e:TypeId) (w:World) (lo:Nat) (v:Value) (l:List α) (xs:List Value):Prop where
 own:w.ownsRow lo e A.size v l.length xs
 kids:∀ (i:Nat) (x:α),l[i]?=some x->A.In w (fun g=>lo<=g/\v.ownBlock≠some g) x ((xs.drop (i*A.size)).take A.size)
section
variable {α:Type}{A:Lay α}{e:TypeId}{w w':World}{lo:Nat}{v:Value}{l:List α}{xs:List Value}
theorem ZI.nil (A:Lay α) (e:TypeId) (w:World) (a:Nat):ZI A e w a (.slice none 0 0) [] []:=⟨⟨by simp,Or.inl ⟨Z,Z⟩⟩,fun i x h=>by simp at h⟩
theorem ZI.lo_le (h:ZI A e w lo v l xs)(a:v.ownBlock=some g):lo<=g/\g<w.heap.size:=by
 obtain⟨⟨k,c⟩,n⟩:=h
 rcases c with ⟨rfl,m⟩|⟨j,f,i,rfl,b,d,r⟩
 ·simp[Value.ownBlock] at a
 ·simp[Value.ownBlock] at a;subst a;exact⟨b,XC d⟩
theorem ZI.below (h:ZI A e w lo v l xs) (b:Below w.heap.size w w'):ZI A e w' lo v l xs:=by
 obtain⟨⟨f,k⟩,n⟩:=h
 refine⟨⟨f,?_⟩,fun i x j=>Ya (n i x j) b⟩
 rcases k with m | ⟨g,a,c,e,o,d,r⟩
 ·exact Or.inl m
 ·exact Or.inr ⟨g,a,c,e,o,(b.block g (XC d)).trans d,r⟩
theorem ZI.setOther (h:ZI A e w lo v l xs){p:Addr}(q:p.block<lo) (y:Value):ZI A e (w.setCell p y) lo v l xs:=by
 obtain⟨⟨c,j⟩,n⟩:=h
 refine⟨⟨c,?_⟩,fun i x d=>Lay.setCell (n i x d) (fun f=>by have:=f.1;omega) _⟩
 rcases j with m | ⟨g,a,b,e,o,k,r⟩
 ·exact Or.inl m
 ·exact Or.inr ⟨g,a,b,e,o,(Xd _ _ _ _ (by omega)).trans k,r⟩
theorem ZI.lay (h:ZI A e w lo v l xs):A.list.In w (fun g=>lo<=g) l [v]:=by
 obtain⟨⟨B,r⟩,o⟩:=h
 rcases r with ⟨rfl,u⟩|⟨g,c,b,rfl,s,m,t,z,C,y⟩
 ·have:l=[]:=Xf.1 u
  subst this;exact Yg A _ _ _ _
 ·refine⟨some ⟨g,0,none⟩,c,Z,fun i x f=>⟨g,0,_,Z,s,XC m,fun j n=>?_,Yc (o i x f) (fun k q _=>q.1)⟩⟩
  have p:i<l.length:=(Zi f).1
  have d:i*A.size+j<l.length*A.size:=by
   have:(i+1)*A.size<=l.length*A.size:=Xp _ p
   rw[Nat.add_mul] at this
   omega
  rw[XR,Xs n,List.getElem?_drop,<-y,XR,Xs d,XK]
  have a:i*A.size+j<b.size:=by
   have:l.length*A.size<=c*A.size:=Xp _ t
   omega
  rw[Array.getElem?_toList]
  exact(Qb m _ b[i*A.size+j] (Xj a)).trans (Xj a).symm
theorem ZI.push (h:ZI A e w lo v l xs){x:α}(o:A.In w (fun g=>lo<=g/\v.ownBlock≠some g) x ds)
  (B:w.grownBy w' v.ownBlock) (f:v.ownBlock=some g\/g=w.heap.size)
 (t:w'.ownsRow lo e A.size (.slice (some ⟨g,0,none⟩) (l.length+1) cap) (l.length+1) (xs++ds)) :
 ZI A e w' lo (.slice (some ⟨g,0,none⟩) (l.length+1) cap) (l++[x]) (xs++ds):=by
 obtain⟨u,s⟩:=h
 have d:=u.1;have r:=A.len o
 have b:∀ {y:α} {es:List Value},A.In w (fun g=>lo<=g/\v.ownBlock≠some g) y es->A.In w' (fun m=>lo<=m/\(Value.slice (some ⟨g,0,none⟩) (l.length+1) cap).ownBlock≠some m) y es:=fun a=>by
  refine A.keep (fun k c q=>?_) (fun k c q=>⟨c.1,?_⟩) a
  ·exact B.block k q (fun e=>c.2 e.symm)
  ·simp only[Value.ownBlock,ne_eq,Option.some.injEq]
   intro e;subst e;rcases f with p | p
   ·exact c.2 p
   ·omega
 refine⟨by rw[List.length_append];exact t,fun i y a=>?_⟩
 rw[List.getElem?_append] at a
 split at a
 ·rename_i n
  have z:(i+1)*A.size<=l.length*A.size:=Xp _ n;rw[Nat.add_mul] at z
  have:=s i y a
  rw[List.drop_append_of_le_length (by omega),List.take_append_of_le_length (by simp;omega)]
  exact b this
 ·rename_i n
  have j:i=l.length:=by
   have:=(Zi a).1
   simp at this
   omega
  subst j;simp at a
  subst a;rw[List.drop_append,List.drop_of_length_le (by omega),<-d,Nat.sub_self,List.drop_zero,List.nil_append,XO (by omega)]
  exact b o
end
end
theorem Xn:type_of% @Option.some.inj:=@Option.some.inj
def TT:Nat->Type
 | 0=>Empty
 | n+1=>Int × Int × List (TT n)
def TT.kind:{n:Nat}->TT n->Int
 | 0,t=>Empty.elim t
 | _+1,t=>t.1
def TT.r:{n:Nat}->TT n->Int
 | 0,t=>Empty.elim t
 | _+1,t=>t.2.1
def TT.len:{n:Nat}->TT n->Nat
 | 0,t=>Empty.elim t
 | _+1,t=>t.2.2.length
def TT.count:{n:Nat}->TT n->Nat
 | 0,t=>Empty.elim t
 | n+1,t=>1+(t.2.2.map (TT.count (n:=n))).sum
def TT.height:{n:Nat}->TT n->Nat
 | 0,t=>Empty.elim t
 | n+1,t=>(t.2.2.map (fun x=>1+TT.height (n:=n) x)).foldl max 0
def ownC (k r:Int) (len:Nat) (regs:Int):Int :=
 if k<1\/4<k then 3
 else if k=1/\r≠0 then 4
 else if k≠3/\0<len then 4
 else if 8<len then 2
 else if k≠1/\(r<0\/regs<=r) then 1
 else 0
def QE {α:Type}(f:α->Int):List α->Int
 | []=>0
 | x::xs=>if f x≠0 then f x else QE f xs
def TT.fault:{n:Nat}->Int->TT n->Int
 | 0,_,t=>Empty.elim t
 | n+1,regs,t=>if ownC t.1 t.2.1 t.2.2.length regs≠0 then ownC t.1 t.2.1 t.2.2.length regs else QE (TT.fault (n:=n) regs) t.2.2
def TT.check {n:Nat}(regs:Int) (t:TT n):Int:=if 4<t.height then 19 else t.fault regs
def Qaz (m:Nat) (too:Nat->Int) (k r:Int):Option Int :=
 if k=1 then some r else if r<0\/(m:Int)<=r then none else if too r.toNat<0 then none else some (too r.toNat)
def Qcz {α:Type}(f:α->Option α):List α->Option (List α)
 | []=>some []
 | x::xs=>match f x with
   | none=>none
   | some y=>match Qcz f xs with
     | none=>none
     | some ys=>some (y::ys)
def TT.ren:{n:Nat}->Nat->(Nat->Int)->TT n->Option (TT n)
 | 0,_,_,t=>Empty.elim t
 | n+1,m,too,t=>match Qaz m too t.1 t.2.1 with
   | none=>none
   | some r=>match Qcz (TT.ren (n:=n) m too) t.2.2 with
     | none=>none
     | some l=>some ((t.1,r,l):Int × Int × List (TT n))
def TT.ok:{n:Nat}->TT n->Prop
 | 0,t=>Empty.elim t
 | n+1,t=>(-9223372036854775808<=t.2.1/\t.2.1<=9223372036854775807)/\∀ x∈t.2.2,TT.ok (n:=n) x
theorem QaC {α:Type}{f:α->Option α}:∀ {l l':List α},Qcz f l=some l'↔(l'.length=l.length/\∀ (i:Nat) x,l[i]?=some x->f x=l'[i]?)
 | [],l'=>by
   simp only[Qcz,Option.some.injEq]
   constructor
   ·intro h;subst h;simp
   ·intro h;exact(Xf.1 h.1).symm
 | x::xs,l'=>by
   simp only[Qcz]
   constructor
   ·intro h
    cases a:f x with
    | none=>simp[a] at h
    | some y =>
      simp only[a] at h
      cases b:Qcz f xs with
      | none=>simp[b] at h
      | some ys =>
        simp only[b,Option.some.injEq] at h
        subst h;obtain⟨d,e⟩:=QaC.1 b
        refine⟨by simp[d],fun i z c=>?_⟩
        cases i with
        | zero=>simp at c;subst c;simpa using a
        | succ i=>simpa using e i z (by simpa using c)
   ·rintro ⟨d,e⟩
    cases l' with
    | nil=>simp at d
    | cons y ys =>
      have a:f x=some y:=by simpa using e 0 x Z
      have b:Qcz f xs=some ys:=QaC.2 ⟨by simpa using d,fun i z c=>by simpa using e (i+1) z (by simpa using c)⟩;simp[a,b]
theorem QbY {α:Type}{f:α->Option α}:∀ {l:List α}{i:Nat}{x:α},l[i]?=some x->f x=none->Qcz f l=none
 | [],i,x,h,_=>by simp at h
 | y::ys,0,x,h,hf=>by simp at h;subst h;simp[Qcz,hf]
 | y::ys,i+1,x,h,hf=>by
   have:=QbY (l:=ys) (i:=i) (by simpa using h) hf
   simp only[Qcz,this]
   cases f y<;>rfl
theorem QaP {α:Type}{f:α->Int}:∀ {l:List α}{i:Nat}{x:α},l[i]?=some x->(∀ (j:Nat) y,j<i->l[j]?=some y->f y=0)->f x≠0->QE f l=f x
 | [],i,x,h,_,_=>by simp at h
 | y::ys,0,x,h,_,hf=>by simp at h;subst h;simp[QE,hf]
 | y::ys,i+1,x,h,hz,hf=>by
   have b:f y=0:=hz 0 y (by omega) Z;simp only[QE,b,ne_eq,not_true_eq_false,if_false]
   exact QaP (by simpa using h) (fun j z c a=>hz (j+1) z (by omega) (by simpa using a)) hf
theorem Qav {α:Type}{f:α->Int}:∀ {l:List α},(∀ (j:Nat) y,l[j]?=some y->f y=0)->QE f l=0
 | [],_=>rfl
 | y::ys,h=>by
   have a:f y=0:=h 0 y Z;simp only[QE,a,ne_eq,not_true_eq_false,if_false]
   exact Qav (fun j z b=>h (j+1) z (by simpa using b))
theorem Q6 {α:Type}{f:α->Int}:∀ {l:List α},QE f l=0↔∀ x∈l,f x=0
 | []=>by simp[QE]
 | y::ys=>by
   simp only[QE]
   by_cases h:f y=0
   ·simp[h,Q6]
   ·simp[h]
theorem Qbf {α β:Type}{f:α->Int}{g:β->Int}:∀ {l:List α}{l':List β},l'.length=l.length->(∀ (i:Nat) x y,l[i]?=some x->l'[i]?=some y->f x=g y)->QE f l=QE g l'
 | [],[],_,_=>rfl
 | [],_::_,h,_=>by simp at h
 | _::_,[],h,_=>by simp at h
 | x::xs,y::ys,h,k=>by
   have d:f x=g y:=k 0 x y Z Z;have e:=Qbf (f:=f) (g:=g) (l:=xs) (l':=ys) (by simpa using h) (fun i a b j c=>k (i+1) a b (by simpa using j) (by simpa using c));simp only[QE,d,e]
theorem TT.count_pos:{n:Nat}->(t:TT n)->1<=t.count
 | 0,t=>Empty.elim t
 | n+1,t=>by simp only[TT.count];omega
theorem QfE (l:List Nat):∀ i,(l.take i).sum<=l.sum:=by
 intro i
 have:=congrArg List.sum (List.take_append_drop i l)
 rw[List.sum_append] at this
 omega
theorem length_le_sum:∀ (l:List Nat),(∀ x∈l,1<=x)->l.length<=l.sum
 | [],_=>by simp
 | x::xs,h=>by
   have b:=h x (by simp);have c:=length_le_sum xs (fun y a=>h y (by simp[a]));simp only[List.length_cons,List.sum_cons]
   omega
theorem TT.len_lt_count:{n:Nat}->(t:TT n)->t.len<t.count
 | 0,t=>Empty.elim t
 | n+1,t=>by
   have:=length_le_sum (t.2.2.map (TT.count (n:=n))) (fun x a=>by simp only[List.mem_map] at a;obtain⟨y,_,rfl⟩:=a;exact y.count_pos)
   simp only[TT.count,TT.len]
   simp at this
   omega
theorem le_sum_of_mem:∀ {l:List Nat}{x:Nat},x∈l->x<=l.sum
 | y::ys,x,h=>by
   rcases List.mem_cons.1 h with rfl | h
   ·simp
   ·have:=le_sum_of_mem h
    simp only[List.sum_cons];omega
theorem TT.count_kid (t:TT (n+1)){x:TT n}(h:x∈t.2.2):x.count<t.count:=by
 have:=le_sum_of_mem (l:=t.2.2.map (TT.count (n:=n))) (List.mem_map_of_mem h)
 simp only[TT.count]
 omega
theorem Qbe {l:List Nat}{a:Nat}:l.foldl max a<=m↔a<=m/\∀ x∈l,x<=m:=by
 induction l generalizing a with
 | nil=>simp
 | cons y ys ih =>
   simp only[List.foldl_cons,ih,List.mem_cons,forall_eq_or_imp,Nat.max_le,and_assoc]
theorem ZT {t:TT (n+1)}:t.height<=m↔∀ x∈t.2.2,1+x.height<=m:=by
 simp only[TT.height,Qbe,List.mem_map,Nat.zero_le,true_and,forall_exists_index,and_imp,forall_apply_eq_imp_iff₂]
theorem TT.ren_height {m:Nat}{too:Nat->Int}:{n:Nat}->{t u:TT n}->t.ren m too=some u->u.height=t.height
 | 0,t,_,_=>Empty.elim t
 | n+1,t,u,h=>by
   simp only[TT.ren] at h
   cases e1:Qaz m too t.1 t.2.1 with
   | none=>simp[e1] at h
   | some r1 =>
     simp only[e1] at h
     cases e2:Qcz (TT.ren m too) t.2.2 with
     | none=>simp[e2] at h
     | some l1 =>
       simp only[e2] at h
       have h:=Xn h;subst h;simp only[TT.height]
       congr 1
       obtain⟨e,d⟩:=QaC.1 e2
       apply List.ext_getElem (by simp[e])
       intro i b c;simp at b c
       have a:=d i t.2.2[i] (Zg c);rw[Zg b] at a
       simp[TT.ren_height a]
theorem TT.fault_zero {t:TT (n+1)}{regs:Int}(h:t.fault regs=0):ownC t.1 t.2.1 t.2.2.length regs=0/\∀ x∈t.2.2,x.fault regs=0:=by
 simp only[TT.fault] at h
 split at h
 ·contradiction
 ·rename_i a
  exact⟨by simpa using a,Q6.1 h⟩
theorem XU:type_of% @World.cell?_of_block:=@World.cell?_of_block
section
open Go.Deep
abbrev All:Nat->Prop:=fun _=>True
abbrev ZJ (lo:Nat):Nat->Prop:=fun g=>lo<=g
abbrev But (lo:Nat) (v:Value):Nat->Prop:=fun g=>lo<=g/\v.ownBlock≠some g
def TIn (w:World) (O:Nat->Prop):{n:Nat}->TT n->Option Addr->Prop
 | 0,t,_=>Empty.elim t
 | n+1,t,a=>∀ (i:Nat) (x:TT n),t.2.2[i]?=some x->∃ g o a' c',a=some ⟨g,o,none⟩/\O g /\
  w.cell? ⟨g,o+i*3,none⟩=some (.int .i64 x.kind)/\w.cell? ⟨g,o+i*3+1,none⟩=some (.int .i64 x.r)/\w.cell? ⟨g,o+i*3+2,none⟩=some (.slice a' x.len c')/\TIn w O (n:=n) x a'
abbrev Tv {n:Nat}(t:TT n) (a:Option Addr) (c:Nat):Value:=.agg #[.int .i64 t.kind,.int .i64 t.r,.slice a t.len c]
abbrev mkT {n:Nat}(k r:Int) (l:List (TT n)):TT (n+1):=(k,r,l)
abbrev LIn (w:World) (O:Nat->Prop){n:Nat}(l:List (TT n)) (a:Option Addr):Prop:=TIn w O (mkT 0 0 l) a
theorem TIn.list {t:TT (n+1)}(h:TIn w O t a):LIn w O t.2.2 a:=h
theorem LIn.tree {k r:Int}{l:List (TT n)}(h:LIn w O l a):TIn w O (mkT k r l) a:=h
theorem LIn.at {l:List (TT n)}(h:LIn w O l a){x:TT n}(b:l[i]?=some x) :
 ∃ g o a' c',a=some ⟨g,o,none⟩/\O g /\
  w.cell? ⟨g,o+i*3,none⟩=some (.int .i64 x.kind)/\w.cell? ⟨g,o+i*3+1,none⟩=some (.int .i64 x.r)/\w.cell? ⟨g,o+i*3+2,none⟩=some (.slice a' x.len c')/\TIn w O x a':=h i x b
theorem LIn.nil :LIn w O ([]:List (TT n)) a:=fun i x h=>by simp at h
theorem TIn.keep {w w':World}{O O':Nat->Prop}(j:∀ k,O k->k<w.heap.size->w'.heap[k]?=w.heap[k]?) (f:∀ k,O k->k<w.heap.size->O' k):{n:Nat}->{t:TT n}->{a:Option Addr}->TIn w O t a->TIn w' O' t a
 | 0,t,_,_=>Empty.elim t
 | n+1,t,a,h=>fun i x m=>by
   obtain⟨g,o,r,q,e,l,d,p,u,s⟩:=h i x m
   have b:g<w.heap.size:=Xi w ⟨g,o+i*3,none⟩ d;have c:w'.heap[g]?=w.heap[g]?:=j g l b;refine⟨g,o,r,q,e,f g l b,?_,?_,?_,TIn.keep j f s⟩
   ·exact(XU (w:=w) (a:=⟨g,o+i*3,none⟩) c).trans d
   ·exact(XU (w:=w) (a:=⟨g,o+i*3+1,none⟩) c).trans p
   ·exact(XU (w:=w) (a:=⟨g,o+i*3+2,none⟩) c).trans u
section
variable {w w':World}{O O':Nat->Prop}{n:Nat}{t:TT n}{a:Option Addr}
theorem TIn.below (h:TIn w O t a) (b:Below w.heap.size w w'):TIn w' O t a:=h.keep (fun k _ c=>b.block k c) (fun _ h _=>h)
theorem TIn.mono (h:TIn w O t a) (b:∀ k,O k->k<w.heap.size->O' k):TIn w O' t a:=h.keep (fun k _ _=>rfl) b
theorem TIn.all (h:TIn w O t a):TIn w All t a:=h.mono (fun _ _ _=>trivial)
theorem TIn.alloc (h:TIn w O t a) (o:Obj):TIn (w.alloc o) O t a:=h.keep (fun k _ b=>Below.heap_alloc _ _ _ b) (fun _ h _=>h)
theorem TIn.setCell (h:TIn w O t a){p:Addr}(c:¬ O p.block) (v:Value):TIn (w.setCell p v) O t a :=
 h.keep (fun k b _=>Xd _ _ _ _ (fun e=>by subst e;exact c b)) (fun _ h _=>h)
theorem TIn.drew (h:TIn w O t a):TIn w.drew O t a:=h.keep (w:=w) (w':=w.drew) (fun k _ _=>rfl) (fun _ h _=>h)
theorem TIn.drewN (h:TIn w O t a) (m:Nat):TIn (w.drewN m) O t a:=h.keep (w:=w) (w':=w.drewN m) (fun k _ _=>rfl) (fun _ h _=>h)
end
theorem TT.len_eq (t:TT (n+1)):t.len=t.2.2.length:=rfl
theorem Qkd {α:Type}{P:Nat->α->Prop}(m:Nat) (h:∀ i,i<m->∃ x,P i x):∃ l:List α,l.length=m/\∀ i x,l[i]?=some x->P i x:=by
 induction m with
 | zero=>exact⟨[],Z,fun i x b=>by simp at b⟩
 | succ m ih =>
   obtain⟨l,c,e⟩:=ih (fun i d=>h i (by omega))
   obtain⟨x,b⟩:=h m (by omega)
   refine⟨l++[x],by simp[c],fun i y a=>?_⟩
   rw[List.getElem?_append] at a
   split at a
   ·exact e i y a
   ·rename_i d
    have:i=m:=by
     have:=(Zi a).1
     simp at this
     omega
    subst this;simp[c] at a
    subst a;exact b
theorem QjQ {H:Type}{enc:TypeId × Value->H}{f:Nat}{p:Nat->Bool}{E:Bool}{I ts ti:TypeId}{D C v:Field}
 (hs:P.underlying ts=some (.slice I)) (ht:P.underlying I=some (.struct #[D,C,v])) (hc:P.cellsOf I=3)
 (U:D.offset=0/\P.cellsOf D.type=1/\P.underlying D.type=some (.int .i64)) (h1:C.offset=1/\P.cellsOf C.type=1/\P.underlying C.type=some (.int .i64))
 (N:v.offset=2/\P.cellsOf v.type=1/\v.type=ts):∀ (n fuel:Nat),fuel<=n->∀ {cs:List Value} {x:DataW H × List MemPlace},
 DataW.trod enc P w f p E fuel I cs=some x->∃ (T:TT n) (a:Option Addr) (c:Nat),cs=[.int .i64 T.kind,.int .i64 T.r,.slice a T.len c]/\TIn w All T a/\T.ok:=by
 intro n
 induction n with
 | zero =>
   intro fuel hf cs x h;obtain rfl:fuel=0:=by omega
   simp[DataW.trod] at h
 | succ n ih =>
   intro fuel hf cs x h;obtain⟨xs,m,rfl,_,z,M,j⟩:=DataW.trod_struct ht h
   have ae:xs.length=3:=M;have g0:=j 0 D Z;have g1:=j 1 C Z;have g2:=j 2 v Z;rw[U.1,U.2.1,Zg (by omega)] at g0
   rw[h1.1,h1.2.1,Zg (by omega)] at g1
   rw[N.1,N.2.1,N.2.2,Zg (by omega)] at g2
   obtain⟨k,e0,_,_⟩:=DataW.trod_int U.2.2 g0
   obtain⟨r,e1,_,S⟩:=DataW.trod_int h1.2.2 g1
   have ew:-9223372036854775808<=r/\r<=9223372036854775807:=by
    have:=Go.bounds_i64 S
    omega
   rw[hc] at z
   obtain⟨L,W,c2,rfl⟩:∃ L W c2,cs=[L,W,c2]:=by
    match cs,z with
    | [L,W,c2],_=>exact⟨_,_,_,Z⟩
   simp at e0 e1
   subst e0 e1;rcases DataW.trod_slice hs g2 with ⟨B,_⟩|⟨a,len,R,J,ab,q,rfl,B,_,hb,hl,hm,ad,V,_,_⟩
   ·simp at B
    subst B;exact⟨mkT k r [],none,0,Z,LIn.nil,ew,fun x s=>by cases s⟩
   ·simp at B
    subst B
    obtain⟨l,X,O⟩:=Qkd (P:=fun i (T:TT n)=>∃ o t,w.cells? f (a.add (i*3)) 3=some [.int .i64 T.kind,.int .i64 T.r,.slice o T.len t]/\TIn w All T o/\T.ok) len (fun i A=>by
     have K:=V i A;rw[Zg (by omega),hc] at K
     rw[Option.bind_eq_some_iff] at K
     obtain⟨af,e,aa⟩:=K
     obtain⟨T,o,t,rfl,F,G⟩:=ih q (by omega) aa
     exact⟨T,o,t,e,F,G⟩)
    refine⟨mkT k r l,some a,R,by simp[TT.kind,TT.r,TT.len,X],fun i x s=>?_,ew,fun x s=>?_⟩
    ·obtain⟨o,t,e,F,G⟩:=O i x s
     obtain⟨_,ac,d⟩:=World.cells?_some e
     have q0:=d 0 (by omega);have q1:=d 1 (by omega);have q2:=d 2 (by omega);obtain⟨b,Q,u⟩:=a
     have g:u=none:=by
      have A:0<l.length:=Nat.lt_of_le_of_lt (Xb i) (Zi s).1;obtain⟨_,_,y,_,_⟩:=O 0 l[0] (Zg A)
      have:=(World.cells?_some y).2.2 0 (by omega)
      simpa[Addr.add] using World.cell?_spot this
     subst g;rw[Go.WideShapes.add_plain,Go.WideShapes.add_plain] at q0 q1 q2
     exact⟨b,Q,o,t,Z,Y,q0,q1,q2,F⟩
    ·obtain⟨i,A,rfl⟩:=List.mem_iff_getElem.1 s
     obtain⟨o,t,e,F,G⟩:=O i l[i] (Zg A)
     exact G
#print axioms QjQ
end
section
open Go.Deep
structure QC where
 op:Int
 a:Int
 b:Int
 c:Int
 k:Int
 n:Int
 regs:List Int
 args:List Int
structure MTo where
 block:Int
 regs:List Int
 args:List Int
structure MEnd where
 op:Int
 a:Int
 yes:MTo
 no:MTo
 args:List Int
structure Qe (n:Nat) where
 regs:Int
 params:List (TT n)
 code:List QC
 fin:MEnd
structure Qf (n:Nat) where
 regs:Int
 params:List (TT n)
 results:List (TT n)
 blocks:List (Qe n)
def Lay.via {α β:Type}(A:Lay α) (f:β->α):Lay β where
 size:=A.size
 In:=fun w O x cs=>A.In w O (f x) cs
 len:=fun h=>A.len h
 keep:=fun hb hl h=>A.keep hb hl h
theorem QaY.via {α β:Type}{A:Lay α}{f:β->α}(h:QaY P t A n) (g:α->β) (c:∀ d,f (g d)=d):QaY P t (A.via f) n :=
 ⟨h.1,fun a e=>by
  obtain⟨d,b⟩:=h.2 a e
  exact⟨g d,by show A.In _ _ (f (g d)) _;rw[c];exact b⟩⟩
def Lay.tt (n:Nat):Lay (TT n) where
 size:=3
 In:=fun w O t cs=>∃ a c,cs=[.int .i64 t.kind,.int .i64 t.r,.slice a t.len c]/\TIn w O t a/\t.ok
 len:=fun ⟨_,_,e,_⟩=>by rw[e];rfl
 keep:=fun hb hl ⟨a,c,e,h1,h2⟩=>⟨a,c,e,h1.keep hb hl,h2⟩
abbrev intsL:Lay (List Int):=Lay.int.list
abbrev Qi (n:Nat):Lay (List (TT n)):=(Lay.tt n).list
def insL:Lay QC:=(Lay.int.pair (Lay.int.pair (Lay.int.pair (Lay.int.pair (Lay.int.pair (Lay.int.pair (intsL.pair intsL))))))).via (fun x=>(x.op,x.a,x.b,x.c,x.k,x.n,x.regs,x.args))
def toL:Lay MTo:=(Lay.int.pair (intsL.pair intsL)).via (fun x=>(x.block,x.regs,x.args))
def endL:Lay MEnd:=(Lay.int.pair (Lay.int.pair (toL.pair (toL.pair intsL)))).via (fun x=>(x.op,x.a,x.yes,x.no,x.args))
def Zy (n:Nat):Lay (Qe n):=(Lay.int.pair ((Qi n).pair (insL.list.pair endL))).via (fun x=>(x.regs,x.params,x.code,x.fin))
def ZR (n:Nat):Lay (Qf n):=(Lay.int.pair ((Qi n).pair ((Qi n).pair (Zy n).list))).via (fun x=>(x.regs,x.params,x.results,x.blocks))
abbrev QaH (n:Nat):Lay (List (Qf n)):=(ZR n).list
section
variable {w:World}{O:Nat->Prop}{n:Nat}{cs:List Value}
theorem QM {α:Type}{A:Lay α}{l:List α}(h:A.list.In w O l cs):∃ a c,cs=[.slice a l.length c]/\A.list.In w O l [.slice a l.length c]:=by
 obtain⟨a,c,e,h⟩:=h
 exact⟨a,c,e,a,c,Z,h⟩
theorem Qf2 {x:MTo}(h:toL.In w O x cs):∃ a c b d,cs=[.int .i64 x.block,.slice a x.regs.length c,.slice b x.args.length d]/\intsL.In w O x.regs [.slice a x.regs.length c]/\intsL.In w O x.args [.slice b x.args.length d]/\(-9223372036854775808<=x.block/\x.block<=9223372036854775807):=by
 obtain⟨_,_,rfl,⟨rfl,g⟩,⟨_,_,rfl,e,f⟩⟩:=h
 obtain⟨a,c,rfl,e⟩:=QM e
 obtain⟨b,d,rfl,f⟩:=QM f
 exact⟨a,c,b,d,Z,e,f,g⟩
theorem Qlj {x:MTo}{b:Option Addr}(e:intsL.In w O x.regs [.slice a x.regs.length c]) (g:intsL.In w O x.args [.slice b x.args.length d]) (f:-9223372036854775808<=x.block/\x.block<=9223372036854775807) :
 toL.In w O x [.int .i64 x.block,.slice a x.regs.length c,.slice b x.args.length d]:=⟨_,_,Z,⟨Z,f⟩,⟨_,_,Z,e,g⟩⟩
theorem Qjt {x:QC}(h:insL.In w O x cs):∃ a c b d,cs=[.int .i64 x.op,.int .i64 x.a,.int .i64 x.b,.int .i64 x.c,.int .i64 x.k,.int .i64 x.n,.slice a x.regs.length c,.slice b x.args.length d]/\intsL.In w O x.regs [.slice a x.regs.length c]/\intsL.In w O x.args [.slice b x.args.length d] /\
 ((-9223372036854775808<=x.op/\x.op<=9223372036854775807)/\(-9223372036854775808<=x.a/\x.a<=9223372036854775807)/\(-9223372036854775808<=x.b/\x.b<=9223372036854775807)/\(-9223372036854775808<=x.c/\x.c<=9223372036854775807)/\(-9223372036854775808<=x.k/\x.k<=9223372036854775807)/\(-9223372036854775808<=x.n/\x.n<=9223372036854775807)):=by
 obtain⟨_,_,rfl,⟨rfl,g⟩,⟨_,_,rfl,⟨rfl,j⟩,⟨_,_,rfl,⟨rfl,l⟩,⟨_,_,rfl,⟨rfl,o⟩,⟨_,_,rfl,⟨rfl,m⟩,⟨_,_,rfl,⟨rfl,i⟩,⟨_,_,rfl,f,e⟩⟩⟩⟩⟩⟩⟩:=h
 obtain⟨a,c,rfl,f⟩:=QM f
 obtain⟨b,d,rfl,e⟩:=QM e
 exact⟨a,c,b,d,Z,f,e,g,j,l,o,m,i⟩
theorem QkY {x:QC}{b:Option Addr}(f:intsL.In w O x.regs [.slice a x.regs.length c]) (g:intsL.In w O x.args [.slice b x.args.length d])
 (e:(-9223372036854775808<=x.op/\x.op<=9223372036854775807)/\(-9223372036854775808<=x.a/\x.a<=9223372036854775807)/\(-9223372036854775808<=x.b/\x.b<=9223372036854775807)/\(-9223372036854775808<=x.c/\x.c<=9223372036854775807)/\(-9223372036854775808<=x.k/\x.k<=9223372036854775807)/\(-9223372036854775808<=x.n/\x.n<=9223372036854775807)) :
 insL.In w O x [.int .i64 x.op,.int .i64 x.a,.int .i64 x.b,.int .i64 x.c,.int .i64 x.k,.int .i64 x.n,.slice a x.regs.length c,.slice b x.args.length d] :=
 ⟨_,_,Z,⟨Z,e.1⟩,⟨_,_,Z,⟨Z,e.2.1⟩,⟨_,_,Z,⟨Z,e.2.2.1⟩,⟨_,_,Z,⟨Z,e.2.2.2.1⟩,⟨_,_,Z,⟨Z,e.2.2.2.2.1⟩,⟨_,_,Z,⟨Z,e.2.2.2.2.2⟩,⟨_,_,Z,f,g⟩⟩⟩⟩⟩⟩⟩
theorem QgH {x:MEnd}(h:endL.In w O x cs):∃ c1 c2 a c,cs=.int .i64 x.op::.int .i64 x.a::(c1++(c2++[.slice a x.args.length c]))/\toL.In w O x.yes c1/\toL.In w O x.no c2/\intsL.In w O x.args [.slice a x.args.length c]/\((-9223372036854775808<=x.op/\x.op<=9223372036854775807)/\(-9223372036854775808<=x.a/\x.a<=9223372036854775807)):=by
 obtain⟨_,_,rfl,⟨rfl,d⟩,⟨_,_,rfl,⟨rfl,e⟩,⟨c1,_,rfl,f,⟨c2,_,rfl,g,b⟩⟩⟩⟩:=h
 obtain⟨a,c,rfl,b⟩:=QM b
 exact⟨c1,c2,a,c,Z,f,g,b,d,e⟩
theorem QkS {x:MEnd}{d b:List Value}(f:toL.In w O x.yes d) (h:toL.In w O x.no b) (g:intsL.In w O x.args [.slice a x.args.length c]) (e:(-9223372036854775808<=x.op/\x.op<=9223372036854775807)/\(-9223372036854775808<=x.a/\x.a<=9223372036854775807)) :
 endL.In w O x (.int .i64 x.op::.int .i64 x.a::(d++(b++[.slice a x.args.length c]))):=⟨[_],_,Z,⟨Z,e.1⟩,⟨[_],_,Z,⟨Z,e.2⟩,⟨d,_,Z,f,⟨b,_,Z,h,g⟩⟩⟩⟩
theorem Qct {x:Qe n}(h:(Zy n).In w O x cs):∃ a c b d es,cs=.int .i64 x.regs::.slice a x.params.length c::.slice b x.code.length d::es/\(Qi n).In w O x.params [.slice a x.params.length c]/\insL.list.In w O x.code [.slice b x.code.length d]/\endL.In w O x.fin es/\(-9223372036854775808<=x.regs/\x.regs<=9223372036854775807):=by
 obtain⟨_,_,rfl,⟨rfl,g⟩,⟨_,_,rfl,e,⟨_,es,rfl,f,i⟩⟩⟩:=h
 obtain⟨a,c,rfl,e⟩:=QM e
 obtain⟨b,d,rfl,f⟩:=QM f
 exact⟨a,c,b,d,es,Z,e,f,i,g⟩
theorem QgG {x:Qe n}{b:Option Addr}{e:List Value}(g:(Qi n).In w O x.params [.slice a x.params.length c]) (h:insL.list.In w O x.code [.slice b x.code.length d]) (i:endL.In w O x.fin e) (f:-9223372036854775808<=x.regs/\x.regs<=9223372036854775807) :
 (Zy n).In w O x (.int .i64 x.regs::.slice a x.params.length c::.slice b x.code.length d::e):=⟨[_],_,Z,⟨Z,f⟩,⟨[_],_,Z,g,⟨[_],e,Z,h,i⟩⟩⟩
theorem Z3 {x:Qf n}(h:(ZR n).In w O x cs):∃ a c b d e f,cs=[.int .i64 x.regs,.slice a x.params.length c,.slice b x.results.length d,.slice e x.blocks.length f]/\(Qi n).In w O x.params [.slice a x.params.length c]/\(Qi n).In w O x.results [.slice b x.results.length d]/\(Zy n).list.In w O x.blocks [.slice e x.blocks.length f]/\(-9223372036854775808<=x.regs/\x.regs<=9223372036854775807):=by
 obtain⟨_,_,rfl,⟨rfl,k⟩,⟨_,_,rfl,g,⟨_,_,rfl,j,i⟩⟩⟩:=h
 obtain⟨a,c,rfl,g⟩:=QM g
 obtain⟨b,d,rfl,j⟩:=QM j
 obtain⟨e,f,rfl,i⟩:=QM i
 exact⟨a,c,b,d,e,f,Z,g,j,i,k⟩
theorem QhM {x:Qf n}{b e:Option Addr}(g:(Qi n).In w O x.params [.slice a x.params.length c]) (j:(Qi n).In w O x.results [.slice b x.results.length d]) (i:(Zy n).list.In w O x.blocks [.slice e x.blocks.length f]) (h:-9223372036854775808<=x.regs/\x.regs<=9223372036854775807) :
 (ZR n).In w O x [.int .i64 x.regs,.slice a x.params.length c,.slice b x.results.length d,.slice e x.blocks.length f]:=⟨[_],_,Z,⟨Z,h⟩,⟨[_],_,Z,g,⟨[_],_,Z,j,i⟩⟩⟩
theorem ZK (h:intsL.In w O l [.slice a m c])(b:i<l.length):∃ g o,a=some ⟨g,o,none⟩/\O g/\g<w.heap.size/\w.cell? ⟨g,o+i,none⟩=some (.int .i64 (l.getD i 0)):=by
 obtain⟨g,o,n,e,d,f,k,rfl,_⟩:=Yf h (Zg b)
 refine⟨g,o,e,d,f,?_⟩
 have:=k 0 (by decide)
 have j:Lay.int.size=1:=rfl;rw[j,XL,Nat.add_zero] at this
 rw[this]
 simp[List.getD,b]
theorem QK {l:List (TT n)}(h:(Qi n).In w O l [.slice a m c]):LIn w O l a/\∀ x∈l,x.ok:=by
 refine⟨fun i x d=>?_,fun x d=>?_⟩
 ·obtain⟨g,o,u,e,f,s,b,k,j,rfl,p,_⟩:=Yf h d
  have t:(Lay.tt n).size=3:=rfl;rw[t] at b
  exact⟨g,o,k,j,e,f,b 0 (by omega),b 1 (by omega),b 2 (by omega),p⟩
 ·obtain⟨i,r,rfl⟩:=List.mem_iff_getElem.1 d
  obtain⟨g,o,u,e,f,s,b,k,j,rfl,p,q⟩:=Yf h (Zg r)
  exact q
theorem QcE {l:List (TT n)}(h:LIn w O l a) (d:∀ x∈l,x.ok):(Qi n).In w O l [.slice a l.length c]:=by
 refine⟨a,c,Z,fun i x f=>?_⟩
 obtain⟨g,o,p,m,e,s,k,v,u,q⟩:=LIn.at h f
 refine⟨g,o,[.int .i64 x.kind,.int .i64 x.r,.slice p x.len m],e,s,Xi w ⟨g,o+i*3,none⟩ k,fun j y=>?_,p,m,Z,q,d x (Zm f)⟩
 have b:j<3:=y;have t:(Lay.tt n).size=3:=rfl;rw[t]
 match j,b with
 | 0,_=>exact k
 | 1,_=>exact v
 | 2,_=>exact u
end
end
def QG (op:Int):Option (Bool × Bool × Bool × Bool × Bool × Bool × Bool) :=
 if op=1 then some (false,false,false,false,true,false,false)
 else if op=2\/op=7 then some (true,true,false,true,false,false,false)
 else if op=3\/op=12 then some (false,false,false,false,false,false,false)
 else if op=4\/op=11\/op=13 then some (true,false,false,false,false,false,false)
 else if op=5 then some (true,false,false,false,false,false,true)
 else if op=6 then some (true,false,false,true,false,false,false)
 else if op=8\/op=9 then some (true,true,false,false,false,false,false)
 else if op=10 then some (true,true,true,false,false,false,false)
 else if op=14 then some (false,false,false,true,false,true,true)
 else none
def QC.formless (x:QC):Bool:=match QG x.op with
 | none=>false
 | some (a,b,c,k,n,rg,ar)=>(!a&&x.a != 0)||(!b&&x.b != 0)||(!c&&x.c != 0)||(!k&&x.k != 0)||(!n&&x.n != 0)||(!rg&&decide (0<x.regs.length))||(!ar&&decide (0<x.args.length))
def QC.form (funcs:Nat) (x:QC):Int :=
 if (QG x.op).isNone then 3
 else if x.formless then 4
 else if x.op=2/\(x.k<1\/9<x.k) then 1
 else if x.op=5/\8<x.args.length then 2
 else if (x.op=6\/x.op=7)/\(x.k<0\/7<x.k) then 1
 else if x.op=14/\(x.k<0\/(funcs:Int)<=x.k) then 1
 else if x.op=14/\(6<x.regs.length\/8<x.args.length) then 2
 else 0
def MTo.form (blocks:Nat) (has:Bool) (t:MTo):Int :=
 if has=false then (if t.block≠0\/0<t.regs.length+t.args.length then 4 else 0)
 else if t.block<0\/(blocks:Int)<=t.block then 1
 else if 16<t.regs.length\/8<t.args.length then 2
 else 0
def MEnd.form (blocks:Nat) (e:MEnd):Int :=
 if e.op<1\/3<e.op then 3
 else if (e.a≠0/\e.op≠2)\/(0<e.args.length/\e.op≠3) then 4
 else if 8<e.args.length then 2
 else if e.yes.form blocks (decide (e.op≠3))≠0 then e.yes.form blocks (decide (e.op≠3))
 else e.no.form blocks (decide (e.op=2))
def listC {n:Nat}(regs:Int) (l:List (TT n)):Int:=if 8<l.length then 2 else QE (TT.check regs) l
def firstF {α:Type}(f:Nat->α->Int × Int):Nat->List α->Int × Int
 | _,[]=>(0,0)
 | i,x::xs=>if (f i x).1≠0 then f i x else firstF f (i+1) xs
def TT.dec:(n:Nat)->DecidableEq (TT n)
 | 0=>fun t _=>Empty.elim t
 | n+1=>fun t u=>match (TT.dec n) with
   | d=>if h1:t.1=u.1 then if h2:t.2.1=u.2.1 then match (@List.hasDecEq _ d t.2.2 u.2.2) with
    | isTrue h3=>isTrue (by obtain⟨a,b,c⟩:=t;obtain⟨a',b',c'⟩:=u;simp only at h1 h2 h3;subst h1 h2 h3;rfl)
    | isFalse h3=>isFalse (fun e=>h3 (by rw[e]))
    else isFalse (fun e=>h2 (by rw[e])) else isFalse (fun e=>h1 (by rw[e]))
def QbK {n:Nat}(l m:List (TT n)):Bool:=match @List.hasDecEq _ (TT.dec n) l m with
 | isTrue _=>true
 | isFalse _=>false
theorem Qcb {l m:List (TT n)}:QbK l m=true↔l=m:=by
 unfold QbK;split
 ·rename_i h _;simp[h]
 ·rename_i h _;simp[h]
def Qe.fault {n:Nat}(funcs:Nat) (f:Nat) (fn:Qf n) (b:Nat) (x:Qe n):Int × Int :=
 if x.regs<fn.regs\/16<x.regs then (1,10000*f+100*b+90)
 else if listC x.regs x.params≠0 then (listC x.regs x.params,10000*f+100*b+90)
 else if b=0/\(x.regs≠fn.regs\/QbK x.params fn.params=false) then (9,10000*f+100*b+90)
 else if 40<x.code.length then (2,10000*f+100*b+90)
 else if (firstF (fun i y=>(QC.form funcs y,(10000*f+100*b+i:Int))) 0 x.code).1≠0 then firstF (fun i y=>(QC.form funcs y,(10000*f+100*b+i:Int))) 0 x.code
 else if x.fin.form fn.blocks.length≠0 then (x.fin.form fn.blocks.length,10000*f+100*b+91)
 else (0,0)
def Qf.fault {n:Nat}(funcs:Nat) (f:Nat) (x:Qf n):Int × Int :=
 if x.regs<0\/6<x.regs then (1,10000*f+9999)
 else if listC x.regs x.params≠0 then (listC x.regs x.params,10000*f+9999)
 else if listC x.regs x.results≠0 then (listC x.regs x.results,10000*f+9999)
 else if x.blocks.length<1\/12<x.blocks.length then (2,10000*f+9999)
 else if f=0/\¬ (x.regs=0/\x.params.length=0/\x.results.all (fun t=>t.kind==1)=true) then (18,10000*f+9999)
 else firstF (fun b y=>Qe.fault funcs f x b y) 0 x.blocks
def Qj {n:Nat}(m:List (Qf n)):Int × Int :=
 if m.length<1\/8<m.length then (2,-1) else firstF (fun f x=>Qf.fault m.length f x) 0 m
def ZX {n:Nat}(l:List (TT n)):Prop:=200<l.length\/∃ t∈l,2000<t.count
def Qe.great {n:Nat}(x:Qe n):Prop:=200<x.code.length\/ZX x.params\/300<x.fin.args.length\/300<x.fin.yes.regs.length\/300<x.fin.yes.args.length\/300<x.fin.no.regs.length\/300<x.fin.no.args.length\/∃ y∈x.code,300<y.regs.length\/300<y.args.length
def Qf.great {n:Nat}(x:Qf n):Prop:=30<x.blocks.length\/ZX x.params\/ZX x.results\/∃ y∈x.blocks,y.great
def Zd {n:Nat}(m:List (Qf n)):Prop:=20<m.length\/∃ x∈m,x.great
theorem Qaa {α:Type}{f:Nat->α->Int × Int}:∀ {l:List α}{i j:Nat}{x:α},l[i]?=some x->(∀ k y,k<i->l[k]?=some y->(f (j+k) y).1=0)->(f (j+i) x).1≠0->firstF f j l=f (j+i) x
 | [],i,j,x,h,_,_=>by simp at h
 | y::ys,0,j,x,h,_,hf=>by
   simp at h;subst h
   simp only[firstF]
   rw[Xs (by simpa using hf)]
   rfl
 | y::ys,i+1,j,x,h,hz,hf=>by
   have b:(f j y).1=0:=by simpa using hz 0 y (by omega) Z
   simp only[firstF,b,ne_eq,not_true_eq_false,if_false]
   have:=Qaa (f:=f) (l:=ys) (i:=i) (j:=j+1) (x:=x) (by simpa using h) (fun k z c a=>by have:=hz (k+1) z (by omega) (by simpa using a);rwa [show j+1+k=j+(k+1) by omega]) (by rwa [show j+1+i=j+(i+1) by omega])
   rw[this,show j+1+i=j+(i+1) by omega]
theorem QT {α:Type}{f:Nat->α->Int × Int}:∀ {l:List α}{j:Nat},(∀ (k:Nat) y,l[k]?=some y->(f (j+k) y).1=0)->firstF f j l=(0,0)
 | [],_,_=>rfl
 | y::ys,j,h=>by
   have a:(f j y).1=0:=by simpa using h 0 y Z
   simp only[firstF,a,ne_eq,not_true_eq_false,if_false]
   exact QT (fun k z b=>by have:=h (k+1) z (by simpa using b);rwa [show j+1+k=j+(k+1) by omega])
theorem Xq:type_of% @Decidable.not_not:=@Decidable.not_not
theorem Xr:type_of% @if_neg:=@if_neg
def QkR {n:Nat}(l:List (TT n)):Prop:=l.length<=8/\∀ t∈l,∃ regs:Int,regs<=16/\t.check regs=0
structure Qe.fine {n:Nat}(x:Qe n) (funcs:Nat):Prop where
 regs:0<=x.regs/\x.regs<=16
 params:QkR x.params
 code:∀ y∈x.code,y.form funcs=0
 fin:∃ nb,nb<=12/\x.fin.form nb=0
structure Qf.fine {n:Nat}(x:Qf n) (funcs:Nat):Prop where
 regs:0<=x.regs/\x.regs<=6
 params:QkR x.params
 results:QkR x.results
 blocks:∀ y∈x.blocks,y.fine funcs
theorem ZQ {α:Type}{f:Nat->α->Int × Int}:∀ {l:List α}{j:Nat},(firstF f j l).1=0->∀ (i:Nat) x,l[i]?=some x->(f (j+i) x).1=0
 | [],j,h,i,x,hx=>by simp at hx
 | y::l,j,h,i,x,hx=>by
   rw[firstF] at h
   by_cases a:(f j y).1=0
   ·rw[Xr (by simpa using a)] at h
    cases i with
    | zero=>simp at hx;subst hx;exact a
    | succ i =>
      have:=ZQ h i x (by simpa using hx)
      rwa [show j+1+i=j+(i+1) by omega] at this
   ·rw[Xs a] at h
    exact absurd h a
theorem Qj4 {regs:Int}{l:List (TT n)}(a:regs<=16) (h:listC regs l=0):QkR l:=by
 unfold listC at h;split at h
 ·cases h
 ·exact⟨by omega,fun t b=>⟨regs,a,Q6.1 h t b⟩⟩
theorem Qjp {fn:Qf n}{x:Qe n}(k:0<=fn.regs) (j:fn.blocks.length<=12) (h:(Qe.fault funcs f fn b x).1=0):x.fine funcs:=by
 unfold Qe.fault at h;split at h
 ·cases h
 rename_i l
 split at h
 ·rename_i c;exact absurd h c
 rename_i c
 split at h
 ·cases h
 split at h
 ·cases h
 split at h
 ·rename_i a;exact absurd h a
 rename_i a
 split at h
 ·rename_i d;exact absurd h d
 rename_i d
 refine⟨by omega,Qj4 (by omega) (Xq.1 c),fun y g=>?_,_,j,Xq.1 d⟩
 obtain⟨i,e⟩:=List.getElem?_of_mem g
 exact ZQ (Xq.1 a) i y e
theorem Qj5 {x:Qf n}(h:(Qf.fault funcs f x).1=0):x.fine funcs:=by
 unfold Qf.fault at h;split at h
 ·cases h
 rename_i e
 split at h
 ·rename_i a;exact absurd h a
 rename_i a
 split at h
 ·rename_i b;exact absurd h b
 rename_i b
 split at h
 ·cases h
 rename_i g
 split at h
 ·cases h
 refine⟨by omega,Qj4 (by omega) (Xq.1 a),Qj4 (by omega) (Xq.1 b),fun y d=>?_⟩
 obtain⟨i,c⟩:=List.getElem?_of_mem d
 exact Qjp (by omega) (by omega) (ZQ h i y c)
theorem Qlb {m:List (Qf n)}(h:(Qj m).1=0):∀ x∈m,x.fine m.length:=by
 unfold Qj at h;split at h
 ·cases h
 intro x a;obtain⟨i,b⟩:=List.getElem?_of_mem a
 exact Qj5 (ZQ h i x b)
theorem QiU {x:QC}(h:x.form funcs=0):(QG x.op).isNone=false/\x.formless=false/\(x.op=2->1<=x.k/\x.k<=9)/\(x.args.length<=8\/x.op≠5/\x.op≠14)/\(x.op=14->x.regs.length<=6):=by
 unfold QC.form at h;split at h
 ·cases h
 split at h
 ·cases h
 split at h
 ·cases h
 split at h
 ·cases h
 split at h
 ·cases h
 split at h
 ·cases h
 split at h
 ·cases h
 rename_i a b f e c g d
 refine⟨Bool.eq_false_iff.2 a,Bool.eq_false_iff.2 b,by omega,by omega,by omega⟩
theorem QgC {b:Nat}{e:MEnd}(g:b<=12) (h:e.form b=0):(e.op=1\/e.op=2\/e.op=3)/\(e.op≠2->e.a=0)/\(e.op≠3->e.args=[])/\e.args.length<=8/\e.yes.form b (decide (e.op≠3))=0/\e.no.form b (decide (e.op=2))=0:=by
 unfold MEnd.form at h;split at h
 ·cases h
 split at h
 ·cases h
 split at h
 ·cases h
 split at h
 ·rename_i c;exact absurd h c
 rename_i c f i d
 refine⟨by omega,by omega,fun j=>Xf.1 (by omega),by omega,Xq.1 d,h⟩
theorem Qdx {t:TT n}{regs:Int}(h:t.check regs=0):t.height<=4/\t.fault regs=0:=by
 unfold TT.check at h;split at h
 ·cases h
 ·exact⟨by omega,h⟩
theorem Qju {a:Int}(h:(QG a).isNone=false):a=1\/a=2\/a=3\/a=4\/a=5\/a=6\/a=7\/a=8\/a=9\/a=10\/a=11\/a=12\/a=13\/a=14:=by
 unfold QG at h;repeat' split at h
 all_goals first | omega | cases h
theorem Xo:type_of% @Nat.le_of_not_lt:=@Nat.le_of_not_lt
def MTo.small (x:MTo):Prop:=x.regs.length<=100000/\x.args.length<=100000
def QC.small (x:QC):Prop:=x.regs.length<=100000/\x.args.length<=100000
def MEnd.small (x:MEnd):Prop:=x.yes.small/\x.no.small/\x.args.length<=100000
def Qb3 {n:Nat}(l:List (TT n)):Prop:=l.length<=100000/\∀ t∈l,t.count<=100000
def Qe.small {n:Nat}(x:Qe n):Prop:=x.code.length<=100000/\Qb3 x.params/\x.fin.small/\∀ y∈x.code,y.small
def Qf.small {n:Nat}(x:Qf n):Prop:=x.blocks.length<=100000/\Qb3 x.params/\Qb3 x.results/\∀ y∈x.blocks,y.small
def Qa7 {n:Nat}(m:List (Qf n)):Prop:=m.length<=100000/\∀ x∈m,x.small
theorem Qdn {l:List (TT n)}(h:¬ ZX l):Qb3 l:=⟨Zt (Xo fun x=>h (.inl x)) (by decide),fun t a=>Zt (Xo fun x=>h (.inr ⟨t,a,x⟩)) (by decide)⟩
theorem Qe.small_of {x:Qe n}(h:¬ x.great):x.small:=by
 unfold Qe.great at h;simp only[not_or,not_exists,not_and,Nat.not_lt] at h
 obtain⟨d,e,i,g,c,j,f,a⟩:=h
 exact⟨Zt d (by decide),Qdn e,⟨⟨Zt g (by decide),Zt c (by decide)⟩,⟨Zt j (by decide),Zt f (by decide)⟩,Zt i (by decide)⟩,fun y b=>⟨Zt (a y b).1 (by decide),Zt (a y b).2 (by decide)⟩⟩
theorem Qf.small_of {x:Qf n}(h:¬ x.great):x.small:=by
 unfold Qf.great at h;simp only[not_or,not_exists,not_and,Nat.not_lt] at h
 obtain⟨a,b,e,d⟩:=h
 exact⟨Zt a (by decide),Qdn b,Qdn e,fun y c=>Qe.small_of (d y c)⟩
theorem Qah {m:List (Qf n)}(h:¬ Zd m):Qa7 m:=by
 unfold Zd at h;simp only[not_or,not_exists,not_and,Nat.not_lt] at h
 exact⟨Zt h.1 (by decide),fun x a=>Qf.small_of (h.2 x a)⟩
theorem XN:type_of% @List.length_map:=@List.length_map
theorem Qdg {α:Type}{f g:α->Nat}:∀ {l:List α},(∀ x∈l,f x<=g x)->(l.map f).sum<=(l.map g).sum
 | [],_=>Ze
 | x::xs,h=>by
   have b:=h x (by simp);have c:=Qdg (f:=f) (g:=g) (l:=xs) (fun y a=>h y (by simp[a]));simp only[List.map_cons,List.sum_cons]
   omega
def TT.at:{n:Nat}->(k:Nat)->TT n->TT (k+1)
 | 0,_,t=>Empty.elim t
 | n+1,0,t=>(t.1,t.2.1,[])
 | n+1,k+1,t=>(t.1,t.2.1,t.2.2.map (TT.at (n:=n) k))
theorem TT.at_kind:{n:Nat}->(k:Nat)->(t:TT n)->(t.at k).kind=t.kind
 | 0,_,t=>Empty.elim t
 | n+1,0,t=>rfl
 | n+1,k+1,t=>rfl
theorem TT.at_r:{n:Nat}->(k:Nat)->(t:TT n)->(t.at k).r=t.r
 | 0,_,t=>Empty.elim t
 | n+1,0,t=>rfl
 | n+1,k+1,t=>rfl
theorem TT.at_len:{n:Nat}->(k:Nat)->(t:TT n)->t.height<=k->(t.at k).len=t.len
 | 0,_,t,_=>Empty.elim t
 | n+1,0,t,h=>by
   have:=(ZT (t:=t)).1 h
   show 0=t.2.2.length
   cases hx:t.2.2 with
   | nil=>rfl
   | cons x l=>have:=this x (by rw[hx];simp);omega
 | n+1,k+1,t,h=>by
   show (t.2.2.map _).length=_;rw[XN];rfl
theorem TIn.at {w:World}{O:Nat->Prop}:{n:Nat}->(k:Nat)->{t:TT n}->{a:Option Addr}->t.height<=k->TIn w O t a->TIn w O (t.at k) a
 | 0,_,t,_,_,_=>Empty.elim t
 | n+1,0,t,a,h,hi=>fun i x c=>by simp[TT.at] at c
 | n+1,k+1,t,a,h,hi=>fun i x c=>by
   have b:(t.2.2.map (TT.at k))[i]?=some x:=c;rw[XS,Option.map_eq_some_iff] at b
   obtain⟨y,d,rfl⟩:=b
   have f:y.height<=k:=by have:=(ZT (t:=t)).1 h y (Zm d);omega
   obtain⟨g,o,p,m,e,s,j,l,r,q⟩:=hi i y d
   refine⟨g,o,p,m,e,s,?_,?_,?_,TIn.at k f q⟩
   ·rw[TT.at_kind];exact j
   ·rw[TT.at_r];exact l
   ·rw[TT.at_len k y f];exact r
theorem TT.at_ok:{n:Nat}->(k:Nat)->{t:TT n}->t.ok->(t.at k).ok
 | 0,_,t,_=>Empty.elim t
 | n+1,0,t,h=>⟨h.1,fun x a=>by cases a⟩
 | n+1,k+1,t,h=>⟨h.1,fun x a=>by
   obtain⟨y,b,rfl⟩:=List.mem_map.1 a
   exact TT.at_ok k (h.2 y b)⟩
theorem TT.at_count:{n:Nat}->(k:Nat)->(t:TT n)->(t.at k).count<=t.count
 | 0,_,t=>Empty.elim t
 | n+1,0,t=>by show 1+0<=1+_;omega
 | n+1,k+1,t=>by
   show 1+((t.2.2.map (TT.at k)).map TT.count).sum<=1+(t.2.2.map TT.count).sum;rw[List.map_map]
   have:=Qdg (l:=t.2.2) (f:=TT.count ∘ TT.at k) (g:=TT.count) fun x a=>TT.at_count k x
   omega
def Qe.at {n:Nat}(k:Nat) (x:Qe n):Qe (k+1):=⟨x.regs,x.params.map (TT.at k),x.code,x.fin⟩
def Qf.at {n:Nat}(k:Nat) (x:Qf n):Qf (k+1):=⟨x.regs,x.params.map (TT.at k),x.results.map (TT.at k),x.blocks.map (Qe.at k)⟩
def Qfo {n:Nat}(k:Nat) (l:List (TT n)):Prop:=∀ t∈l,t.height<=k
def Qe.flat {n:Nat}(k:Nat) (x:Qe n):Prop:=Qfo k x.params
def Qf.flat {n:Nat}(k:Nat) (x:Qf n):Prop:=Qfo k x.params/\Qfo k x.results/\∀ y∈x.blocks,y.flat k
theorem Lay.list_map {α β:Type}{A:Lay α}{B:Lay β}{f:α->β}{l:List α}(p:A.size=B.size) (r:∀ x∈l,∀ ds,A.In w O x ds->B.In w O (f x) ds) (h:A.list.In w O l cs):B.list.In w O (l.map f) cs:=by
 obtain⟨a,c,e,h⟩:=h
 refine⟨a,c,by rw[e,XN],fun i x b=>?_⟩
 rw[XS,Option.map_eq_some_iff] at b
 obtain⟨y,d,rfl⟩:=b
 obtain⟨g,o,ds,m,n,k,q,j⟩:=h i y d
 exact⟨g,o,ds,m,n,k,by rw[<-p];exact q,r y (Zm d) ds j⟩
section
variable {w:World}{O:Nat->Prop}{n:Nat}{cs:List Value}
theorem Qeh {l:List (TT n)}(d:Qfo k l) (h:(Qi n).In w O l cs):(Qi (k+1)).In w O (l.map (TT.at k)) cs :=
 Lay.list_map (A:=Lay.tt n) (B:=Lay.tt (k+1)) Z (fun x b i ⟨a,c,e,f,g⟩=>⟨a,c,by rw[e,TT.at_kind,TT.at_r,TT.at_len k x (d x b)],f.at k (d x b),TT.at_ok k g⟩) h
theorem Qj9 {m:List (Qf n)}(h:(Qj m).1=0):∀ x∈m,x.flat 5:=by
 have a:∀ {l:List (TT n)},QkR l->Qfo 5 l:=fun h t f=>by
  obtain⟨r,_,c⟩:=h.2 t f
  have:=(Qdx c).1
  omega
 intro x d;have b:=Qlb h x d;exact⟨a b.params,a b.results,fun y e=>a (b.blocks y e).params⟩
end
theorem Xc:type_of% @Int.eq_ofNat_of_zero_le:=@Int.eq_ofNat_of_zero_le
theorem Xe:type_of% @List.all_eq_true:=@List.all_eq_true
theorem XV:type_of% @List.take_add_one:=@List.take_add_one
def hHas (L:List Bool) (r:Int):Bool:=decide (0<=r)&&L.getD r.toNat false
def hTo (L:List Bool):Nat->List Int
 | 0=>[]
 | k+1=>hTo L k++(if L.getD k false then [(k:Int)] else [])
def hList (L:List Bool):List Int:=hTo L L.length
def inB (l:List Int) (x:Int):Bool:=l.contains x
def hPass (L:List Bool):List Int->List Int->Int
 | ahead,[]=>if (hList L).all (fun r=>inB ahead r) then 0 else 12
 | ahead,r::rest=>if hHas L r then (if inB ahead r then 13 else hPass L (ahead++[r]) rest) else 10
theorem QbF (L:List Bool)(h:L.length<=k):L.getD k false=false:=by
 simp[List.getD,List.getElem?_eq_none h]
theorem Qk9 (L:List Bool):∀ k,L.length<=k->hTo L k=hList L:=by
 intro k
 induction k with
 | zero=>intro h;rw[hList,Nat.le_zero.1 h]
 | succ k ih =>
   intro h;rcases Nat.lt_or_ge k L.length with a | a
   ·rw[hList,show L.length=k+1 by omega]
   ·rw[hTo,QbF L a,ih a];simp
theorem QfR (L:List Bool):∀ k,(hTo L k).length<=k:=by
 intro k
 induction k with
 | zero=>simp[hTo]
 | succ k ih =>
   rw[hTo]
   split<;>simp<;>omega
theorem Qdu (L:List Bool):(hList L).length<=L.length:=QfR L _
theorem Qkg (L:List Bool) (r:Int):∀ k,r∈hTo L k↔0<=r/\r<k/\L.getD r.toNat false=true:=by
 intro k
 induction k with
 | zero=>simp[hTo];omega
 | succ k ih =>
   rw[hTo,List.mem_append,ih]
   constructor
   ·rintro (⟨b,d,a⟩ | h)
    ·exact⟨b,by omega,a⟩
    ·split at h
     ·rename_i c
      simp at h
      subst h;exact⟨by omega,by omega,by simpa using c⟩
     ·simp at h
   ·rintro ⟨b,d,a⟩;rcases Nat.lt_or_ge r.toNat k with f | f
    ·exact .inl ⟨b,by omega,a⟩
    ·have e:r=(k:Int):=by omega
     subst e;right
     simp only[Int.toNat_natCast] at a
     rw[a];simp
theorem QeM (L:List Bool) (r:Int):r∈hList L↔hHas L r=true:=by
 rw[hList,Qkg,hHas]
 constructor
 ·rintro ⟨b,_,c⟩;rw[c];simp[b]
 ·intro h;simp only[Bool.and_eq_true,decide_eq_true_eq] at h
  refine⟨h.1,?_,h.2⟩
  rcases Nat.lt_or_ge r.toNat L.length with a | a
  ·omega
  ·rw[QbF L a] at h;simp at h
theorem Qbq (L:List Bool) (k:Nat):hHas L (k:Int)=L.getD k false:=by simp[hHas]
theorem QbU {r:Int}(h:hHas L r=true):∃ k:Nat,r=(k:Int)/\k<L.length/\L.getD k false=true:=by
 simp only[hHas,Bool.and_eq_true,decide_eq_true_eq] at h
 obtain⟨k,rfl⟩:=Xc h.1
 have a:L.getD k false=true:=by simpa using h.2
 refine⟨k,Z,?_,a⟩
 rcases Nat.lt_or_ge k L.length with b | b
 ·exact b
 ·rw[QbF L b] at a;cases a
theorem inB_iff :inB l x=true↔x∈l:=by simp[inB]
theorem Qgf (l:List Int) (x y:Int):inB (l++[x]) y=(inB l y||decide (x=y)):=by
 rw[Bool.eq_iff_iff,inB_iff,Bool.or_eq_true,inB_iff,decide_eq_true_eq,List.mem_append,List.mem_singleton]
 exact⟨fun h=>h.imp id Eq.symm,fun h=>h.imp id Eq.symm⟩
theorem Qd6 (L:List Bool) (l:List Int)(a:l[k]?=some x) :
 hPass L (l.take k) (l.drop k)=if hHas L x then (if inB (l.take k) x then 13 else hPass L (l.take (k+1)) (l.drop (k+1))) else 10:=by
 obtain⟨b,e⟩:=Zi a
 rw[List.drop_eq_getElem_cons b,e,hPass,XV,a]
 rfl
theorem Qfr (L:List Bool) (l:List Int)(a:l.length<=k):hPass L (l.take k) (l.drop k)=if (hList L).all (fun r=>inB l r) then 0 else 12:=by
 rw[List.drop_of_length_le a,XO a,hPass]
def Z2 (L:List Bool) (l:List Int) (i:Nat):Bool:=L.getD i false&&!inB l (i:Int)
theorem QiA (L:List Bool) (i:Nat):Z2 L [] i=L.getD i false:=by simp[Z2,inB]
theorem Qhm (L:List Bool) (l:List Int) (k i:Nat):Z2 L (l++[(k:Int)]) i=if i=k then false else Z2 L l i:=by
 unfold Z2;rw[Qgf]
 by_cases h:i=k
 ·subst h;simp
 ·rw[Xr h]
  have:decide ((k:Int)=(i:Int))=false:=by simp;omega
  rw[this];simp
theorem Qhf (h:L.length<=16):((List.range 16).map (Z2 L l)=List.replicate 16 false)↔(hList L).all (fun r=>inB l r)=true:=by
 rw[Xe]
 constructor
 ·intro e r g;obtain⟨k,rfl,d,c⟩:=QbU ((QeM L r).1 g)
  have a:k<16:=by omega
  have:((List.range 16).map (Z2 L l))[k]?=some false:=by rw[e,List.getElem?_replicate,Xs a]
  rw[XS,List.getElem?_range a] at this
  simp only[Option.map_some,Option.some.injEq] at this
  unfold Z2 at this;rw[c] at this
  simpa using this
 ·intro e;rw[List.eq_replicate_iff]
  refine⟨by simp,fun b f=>?_⟩
  obtain⟨k,d,rfl⟩:=List.mem_map.1 f
  unfold Z2
  cases c:L.getD k false with
  | false=>rfl
  | true =>
    have:=e (k:Int) ((QeM L _).2 (by rw[Qbq];exact c))
    rw[this];rfl
def Qb5 (L:List Bool):Int:=if L.length<16 then (L.length:Int) else -1
def Qds (L:List Bool):List Bool:=if L.length<16 then L++[true] else L
def Qfu (L:List Bool) (r:Int):List Bool:=if hHas L r then L.set r.toNat false else L
def QcY (n:Int):List Bool:=List.replicate (min n 16).toNat true
theorem Qfc (a:k<16):Qds (List.replicate k true)=List.replicate (k+1) true:=by
 simp[Qds,a,List.replicate_succ']
theorem QbN (C:P.underlying t=some (.array n e)) (x:P.underlying e=some .bool) (r:(P.info? e).map (·.size)=some 1) (w:World)
 (y:∀ a b,(Op.equalIn d e (.bool a) (.bool b)).run P w=.ok (a==b) w) (xs c:List Bool) (D:xs.length=n) (E:c.length=n) :
 (Op.equalIn (d+1) t (.agg (xs.map Value.bool).toArray) (.agg (c.map Value.bool).toArray)).run P w=.ok (xs==c) w:=by
 have s:(sizeOf e).run P w=.ok 1 w:=by
  cases hq:P.info? e with
  | none=>simp[hq] at r
  | some i=>simp[hq] at r;simp[sizeOf,typeInfo,hq,r]
 have f:∀ (q:List Bool) (i:Nat) (h:i<q.length),(part e (q.map Value.bool).toArray (i*1)).run P w=.ok (.bool q[i]) w:=by
  intro q i h;simp[part,isAgg,run_underlying x,h]
 simp only[Op.equalIn,Sem.run_bind,run_underlying C,Result.andThen_ok,s]
 rw[Std.Legacy.Range.forIn_eq_forIn_range',show Std.Legacy.Range.size [0:n]=n by simp[Std.Legacy.Range.size]]
 have u:∀ (m k:Nat),k+m=n->(xs.take k==c.take k)=true ->
  ((forIn (List.range' k m) ((none,()):Option Bool × Unit) fun i z=>do
    let __do_lift <-part e (xs.map Value.bool).toArray (i*1)
    let __do_lift_1 <-part e (c.map Value.bool).toArray (i*1)
    let __do_lift_2 <-Op.equalIn d e __do_lift __do_lift_1
    if (!__do_lift_2)=true then pure (ForInStep.done (some false,()))
    else pure (ForInStep.yield (none,())):Sem (Option Bool × Unit)).run P w)=.ok (if xs==c then none else some false,()) w:=by
  intro m
  induction m with
  | zero =>
    intro k A p
    have:(xs==c)=true:=by
     rw[XO (by omega),XO (by omega)] at p
     exact p
    simp[this]
  | succ m ih =>
    intro k A p;have l:k<xs.length:=by omega
    have j:k<c.length:=by omega
    simp only[List.range'_succ,List.forIn_cons,Sem.run_bind,f xs k l,f c k j,Result.andThen_ok,y]
    by_cases o:xs[k]=c[k]
    ·have B:(xs.take (k+1)==c.take (k+1))=true:=by
      rw[XV,XV,Zg l,Zg j,o,beq_iff_eq.1 p]
      simp
     have g:(xs[k]==c[k])=true:=by simpa using o
     simp only[g,Bool.not_true,Bool.false_eq_true,if_false,Sem.run_pure,Result.andThen_ok]
     exact ih (k+1) (by omega) B
    ·have g:(xs[k]==c[k])=false:=by simpa using o
     have v:(xs==c)=false:=by
      rw[beq_eq_false_iff_ne]
      intro e;subst e;exact o Z
     simp[g,v]
 have:=u n 0 (by omega) (by simp)
 rw[this]
 cases h:xs==c<;>simp
theorem Qcq (j:P.underlying t=some (.array n e)) (f:P.underlying e=some .bool) (i:(P.info? e).map (·.size)=some 1) (w:World)
 (xs c:List Bool) (g:xs.length=n) (h:c.length=n) :
 (Op.equalIn (d+2) t (.agg (xs.map Value.bool).toArray) (.agg (c.map Value.bool).toArray)).run P w=.ok (xs==c) w :=
 QbN j f i w (fun a b=>by simp[Op.equalIn,run_underlying f]) xs c g h
def Rd (P:Program) (f:FuncId) (args:Array Value) (w:World) (V:Value):Prop:=Calls P f args w fun e w'=>e=.returned V/\Below w.heap.size w w'
noncomputable def bdec (A:Prop):Bool:=@decide A (Classical.propDecidable A)
theorem Zj {A:Prop}:bdec A=true↔A:=by unfold bdec;simp
theorem Qs {A:Prop}(h:A):bdec A=true:=Zj.2 h
theorem Qh {A:Prop}(h:¬ A):bdec A=false:=by
 cases e:bdec A with
 | false=>rfl
 | true=>exact absurd (Zj.1 e) h
theorem Qee {A:Prop}{q:Bool}(h:q=true↔A):q=bdec A:=by
 cases q with
 | false=>exact(Qh fun a=>by have:=h.2 a;cases this).symm
 | true=>exact(Qs (h.1 Z)).symm
structure JSt where
 m:List (Qf 6)
 f:Qf 6
 H:List Bool
 L:List (TT 6)
def JSt.at (s:JSt) (k:Int):Option (TT 6):=if k<0 then none else s.L[k.toNat]?
def JSt.want (s:JSt) (k kind:Int) (held:Bool):Int:=match s.at k with
 | none=>1
 | some t=>if t.kind=kind then (if held&&!hHas s.H t.r then 10 else 0) else 9
def code2 (a b:Int):Int:=if a=0 then b else a
noncomputable def JSt.arg (s:JSt) (regs:List Int) (k:Int) (t:TT 6):Int:=match s.at k with
 | none=>1
 | some u=>if bdec (t.ren regs.length (fun i=>regs.getD i 0)=some u) then 0 else 9
noncomputable def JSt.args (s:JSt) (l:List Int) (ts:List (TT 6)) (regs:List Int):Int :=
 if l.length=ts.length then QE (fun p:Int × TT 6=>s.arg regs p.1 p.2) (l.zip ts) else 2
def zeroTT:TT 6:=mkT 0 0 []
def tInt:TT 6:=mkT 1 0 []
def Qal (regs:List Int) (t:TT 6):TT 6:=(t.ren regs.length (fun i=>regs.getD i 0)).getD zeroTT
def QF (H:List Bool):List Int->List Int->Int
 | _,[]=>0
 | ahead,r::rest=>if hHas H r then (if inB ahead r then 13 else QF H (ahead++[r]) rest) else 10
def JSt.fields (s:JSt):List Int->Option (List (TT 6))
 | []=>some []
 | k::r=>match s.at k with
   | none=>none
   | some t=>match s.fields r with
     | none=>none
     | some l=>some (t::l)
noncomputable def JSt.makes (s:JSt) (x:QC):Int × List (TT 6) :=
 if x.op=1\/x.op=12 then (0,[tInt])
 else if x.op=2 then (code2 (s.want x.a 1 false) (s.want x.b 1 false),[tInt])
 else if x.op=3 then (if s.H.length=16 then (2,[]) else (0,[mkT 2 s.H.length []]))
 else if x.op=4 then (match s.at x.a with
  | none=>(1,[])
  | some t=>(code2 (s.want x.a 2 true) (if t.r<s.f.regs then 11 else 0),[]))
 else if x.op=5 then (match s.at x.a with
  | none=>(1,[])
  | some t=>if s.want x.a 2 true=0 then (match s.fields x.args with
   | none=>(1,[])
   | some l=>if 4<TT.height (n:=7) (mkT 3 t.r l) then (19,[]) else (0,[TT.at (n:=7) 5 (mkT 3 t.r l)]))
   else (s.want x.a 2 true,[]))
 else if x.op=6 then (match s.at x.a with
  | none=>(1,[])
  | some t=>if s.want x.a 3 true=0 then (match t.2.2[x.k.toNat]? with
   | none=>(9,[])
   | some u=>(0,[u.at 5]))
   else (s.want x.a 3 true,[]))
 else if x.op=7 then (match s.at x.a with
  | none=>(1,[])
  | some t=>if s.want x.a 3 true=0 then (match t.2.2[x.k.toNat]? with
   | none=>(9,[])
   | some u=>(match s.at x.b with
     | none=>(1,[])
     | some v=>if bdec (u.at 5=v) then (0,[]) else (9,[])))
   else (s.want x.a 3 true,[]))
 else if x.op=8 then (match s.at x.a with
  | none=>(1,[])
  | some t=>(code2 (s.want x.a 2 true) (s.want x.b 1 false),[mkT 4 t.r []]))
 else if x.op=9 then (code2 (s.want x.a 4 true) (s.want x.b 1 false),[tInt])
 else if x.op=10 then (code2 (s.want x.a 4 true) (code2 (s.want x.b 1 false) (s.want x.c 1 false)),[])
 else if x.op=11 then (s.want x.a 4 true,[tInt])
 else if x.op=13 then (s.want x.a 1 false,[])
 else (match s.m[x.k.toNat]? with
  | none=>(0,[])
  | some g=>if (x.regs.length:Int)=g.regs then
   (code2 (QF s.H [] x.regs) (s.args x.args g.params x.regs),g.results.map (Qal x.regs))
   else (2,[]))
noncomputable def JSt.code (s:JSt) (x:QC):Int :=
 if x.form s.m.length≠0 then x.form s.m.length
 else if (s.makes x).1≠0 then (s.makes x).1
 else if 80<s.L.length+(s.makes x).2.length then 2 else 0
noncomputable def JSt.next (s:JSt) (x:QC):JSt :=
 { s with
  H:=if x.op=3 then s.H++[true] else if x.op=4 then s.H.set (match s.at x.a with | none=>0 | some t=>t.r.toNat) false else s.H
  L:=s.L++(s.makes x).2 }
noncomputable def JSt.ins (s:JSt) (x:QC):JSt:=if s.code x=0 then s.next x else s
def QbX (n:Nat) (regs:List Int):Int:=if (List.range n).all (fun (i:Nat)=>decide (regs.getD i 0=(i:Int))) then 0 else 11
noncomputable def JSt.to (s:JSt) (t:MTo):Int:=match s.f.blocks[t.block.toNat]? with
 | none=>0
 | some b=>if (t.regs.length:Int)=b.regs then
  code2 (QbX s.f.regs.toNat t.regs) (code2 (hPass s.H [] t.regs) (s.args t.args b.params t.regs))
  else 2
def Qba (n:Nat):List Int:=(List.range n).map (fun (i:Nat)=>(i:Int))
noncomputable def JSt.fin (s:JSt) (e:MEnd):Int :=
 if e.form s.f.blocks.length≠0 then e.form s.f.blocks.length
 else if e.op=1 then s.to e.yes
 else if e.op=2 then code2 (s.want e.a 1 false) (code2 (s.to e.yes) (s.to e.no))
 else code2 (s.args e.args s.f.results (Qba s.f.regs.toNat)) (if (hList s.H).all (fun r=>decide (r<s.f.regs)) then 0 else 12)
theorem Z4 {s:JSt}{x:QC}(h:x.op=1\/x.op=12):s.makes x=(0,[tInt]):=by
 unfold JSt.makes;rw[Xs h]
theorem QbV {s:JSt}{x:QC}(h:x.op=2):s.makes x=(code2 (s.want x.a 1 false) (s.want x.b 1 false),[tInt]):=by
 unfold JSt.makes;rw[Xr (by omega),Xs h]
theorem QaQ {s:JSt}{x:QC}(h:x.op=3):s.makes x=(if s.H.length=16 then (2,[]) else (0,[mkT 2 s.H.length []])):=by
 unfold JSt.makes;rw[Xr (by omega),Xr (by omega),Xs h]
theorem Qap {s:JSt}{x:QC}(h:x.op=4):s.makes x=(match s.at x.a with
 | none=>(1,[])
 | some t=>(code2 (s.want x.a 2 true) (if t.r<s.f.regs then 11 else 0),[])):=by
 unfold JSt.makes;rw[Xr (by omega),Xr (by omega),Xr (by omega),Xs h]
theorem Qaw {s:JSt}{x:QC}(h:x.op=5):s.makes x=(match s.at x.a with
 | none=>(1,[])
 | some t=>if s.want x.a 2 true=0 then (match s.fields x.args with
  | none=>(1,[])
  | some l=>if 4<TT.height (n:=7) (mkT 3 t.r l) then (19,[]) else (0,[TT.at (n:=7) 5 (mkT 3 t.r l)]))
  else (s.want x.a 2 true,[])):=by
 unfold JSt.makes;rw[Xr (by omega),Xr (by omega),Xr (by omega),Xr (by omega),Xs h]
theorem Qbh {s:JSt}{x:QC}(h:x.op=6):s.makes x=(match s.at x.a with
 | none=>(1,[])
 | some t=>if s.want x.a 3 true=0 then (match t.2.2[x.k.toNat]? with
  | none=>(9,[])
  | some u=>(0,[u.at 5]))
  else (s.want x.a 3 true,[])):=by
 unfold JSt.makes;rw[Xr (by omega),Xr (by omega),Xr (by omega),Xr (by omega),Xr (by omega),Xs h]
theorem QbR {s:JSt}{x:QC}(h:x.op=7):s.makes x=(match s.at x.a with
 | none=>(1,[])
 | some t=>if s.want x.a 3 true=0 then (match t.2.2[x.k.toNat]? with
  | none=>(9,[])
  | some u=>(match s.at x.b with
    | none=>(1,[])
    | some v=>if bdec (u.at 5=v) then (0,[]) else (9,[])))
  else (s.want x.a 3 true,[])):=by
 unfold JSt.makes;rw[Xr (by omega),Xr (by omega),Xr (by omega),Xr (by omega),Xr (by omega),Xr (by omega),Xs h]
theorem Qa1 {s:JSt}{x:QC}(h:x.op=8):s.makes x=(match s.at x.a with
 | none=>(1,[])
 | some t=>(code2 (s.want x.a 2 true) (s.want x.b 1 false),[mkT 4 t.r []])):=by
 unfold JSt.makes;rw[Xr (by omega),Xr (by omega),Xr (by omega),Xr (by omega),Xr (by omega),Xr (by omega),Xr (by omega),Xs h]
theorem Qbv {s:JSt}{x:QC}(h:x.op=9):s.makes x=(code2 (s.want x.a 4 true) (s.want x.b 1 false),[tInt]):=by
 unfold JSt.makes;rw[Xr (by omega),Xr (by omega),Xr (by omega),Xr (by omega),Xr (by omega),Xr (by omega),Xr (by omega),Xr (by omega),Xs h]
theorem QaV {s:JSt}{x:QC}(h:x.op=10):s.makes x=(code2 (s.want x.a 4 true) (code2 (s.want x.b 1 false) (s.want x.c 1 false)),[]):=by
 unfold JSt.makes;rw[Xr (by omega),Xr (by omega),Xr (by omega),Xr (by omega),Xr (by omega),Xr (by omega),Xr (by omega),Xr (by omega),Xr (by omega),Xs h]
theorem Qci {s:JSt}{x:QC}(h:x.op=11):s.makes x=(s.want x.a 4 true,[tInt]):=by
 unfold JSt.makes;rw[Xr (by omega),Xr (by omega),Xr (by omega),Xr (by omega),Xr (by omega),Xr (by omega),Xr (by omega),Xr (by omega),Xr (by omega),Xr (by omega),Xs h]
theorem Qcc {s:JSt}{x:QC}(h:x.op=13):s.makes x=(s.want x.a 1 false,[]):=by
 unfold JSt.makes;rw[Xr (by omega),Xr (by omega),Xr (by omega),Xr (by omega),Xr (by omega),Xr (by omega),Xr (by omega),Xr (by omega),Xr (by omega),Xr (by omega),Xr (by omega),Xs h]
theorem Qbw {s:JSt}{x:QC}(h:x.op=14):s.makes x=(match s.m[x.k.toNat]? with
 | none=>(0,[])
 | some g=>if (x.regs.length:Int)=g.regs then
  (code2 (QF s.H [] x.regs) (s.args x.args g.params x.regs),g.results.map (Qal x.regs))
  else (2,[])):=by
 unfold JSt.makes;rw[Xr (by omega),Xr (by omega),Xr (by omega),Xr (by omega),Xr (by omega),Xr (by omega),Xr (by omega),Xr (by omega),Xr (by omega),Xr (by omega),Xr (by omega),Xr (by omega)]
def JSt.start (m:List (Qf 6)) (f:Qf 6) (b:Qe 6):JSt:=⟨m,f,QcY b.regs,b.params⟩
theorem Qjx {k r:Int}{c:Nat}{a b:Int}(d:a<=b) (h:ownC k r c a=0):ownC k r c b=0:=by
 unfold ownC at h |-;split at h
 ·cases h
 split at h
 ·cases h
 split at h
 ·cases h
 split at h
 ·cases h
 split at h
 ·cases h
 rename_i e f i g j
 rw[Xr e,Xr f,Xr i,Xr g,Xr (by omega)]
theorem QdT {a b:Int}(c:a<=b):{n:Nat}->{t:TT n}->t.fault a=0->t.fault b=0
 | 0,t,_=>Empty.elim t
 | n+1,t,h=>by
   obtain⟨d,f⟩:=TT.fault_zero h
   simp only[TT.fault,Qjx c d,ne_eq,not_true_eq_false,if_false]
   exact Q6.2 fun x e=>QdT c (f x e)
theorem Zs {t:TT n}{r:Int}:t.check r=0↔t.height<=4/\t.fault r=0:=by
 constructor
 ·exact Qdx
 ·intro h;unfold TT.check;rw[Xr (by omega)];exact h.2
theorem Qby {t:TT n}{a b:Int}(c:a<=b) (h:t.check a=0):t.check b=0:=by
 rw[Zs] at h |-
 exact⟨h.1,QdT c h.2⟩
def capT:Nat->Nat
 | 0=>1
 | h+1=>1+8*capT h
theorem sum_le_mul:∀ (l:List Nat) (c:Nat),(∀ x∈l,x<=c)->l.sum<=l.length*c
 | [],_,_=>by simp
 | x::xs,c,h=>by
   have b:=h x (by simp);have d:=sum_le_mul xs c (fun y a=>h y (by simp[a]));simp only[List.sum_cons,List.length_cons,Nat.add_mul]
   omega
theorem Qit {t:TT (n+1)}{r:Int}(h:t.fault r=0):t.2.2.length<=8:=by
 have:=(TT.fault_zero h).1
 unfold ownC at this;split at this
 ·cases this
 split at this
 ·cases this
 split at this
 ·cases this
 split at this
 ·cases this
 omega
theorem Qfk {r:Int}:{n:Nat}->{t:TT n}->(h:Nat)->t.height<=h->t.fault r=0->t.count<=capT h
 | 0,t,_,_,_=>Empty.elim t
 | n+1,t,0,hh,hf=>by
   have:=ZT.1 hh
   have e:t.2.2=[]:=by
    cases a:t.2.2 with
    | nil=>rfl
    | cons x l=>have:=this x (by rw[a];simp);omega
   simp only[TT.count,e,capT]
   simp
 | n+1,t,h+1,hh,hf=>by
   have d:=ZT.1 hh;have f:=(TT.fault_zero hf).2
   have i:=sum_le_mul (t.2.2.map TT.count) (capT h) (fun c b=>by
    obtain⟨x,a,rfl⟩:=List.mem_map.1 b
    exact Qfk h (by have:=d x a;omega) (f x a))
   have g:=Qit hf;rw[XN] at i
   have j:t.2.2.length*capT h<=8*capT h:=Xp _ g;simp only[TT.count,capT]
   omega
theorem Zz {t:TT n}{r:Int}(h:t.check r=0):t.count<=4681:=by
 have:=Qfk 4 (Zs.1 h).1 (Zs.1 h).2
 have e:capT 4=4681:=rfl;omega
theorem TT.height_lt:{n:Nat}->(t:TT n)->t.height<n
 | 0,t=>Empty.elim t
 | n+1,t=>by
   have:t.height<=n:=ZT.2 fun x a=>by have:=TT.height_lt x;omega
   omega
theorem TT.at_height:{n:Nat}->(k:Nat)->(t:TT n)->t.height<=k->(t.at k).height=t.height
 | 0,_,t,_=>Empty.elim t
 | n+1,0,t,h=>by
   have b:t.height=0:=by omega
   rw[b]
   rfl
 | n+1,k+1,t,h=>by
   have a:=ZT.1 h;show ((t.2.2.map (TT.at k)).map (fun x=>1+TT.height x)).foldl max 0=(t.2.2.map (fun x=>1+TT.height x)).foldl max 0;rw[List.map_map]
   congr 1
   refine List.map_congr_left fun x c=>?_;show 1+(x.at k).height=1+x.height;rw[TT.at_height k x (by have:=a x c;omega)]
theorem TT.at_fault {r:Int}:{n:Nat}->(k:Nat)->(t:TT n)->t.height<=k->(t.at k).fault r=t.fault r
 | 0,_,t,_=>Empty.elim t
 | n+1,0,t,h=>by
   have b:=ZT.1 h
   have e:t.2.2=[]:=by
    cases a:t.2.2 with
    | nil=>rfl
    | cons x l=>have:=b x (by rw[a];simp);omega
   show (if ownC t.1 t.2.1 0 r≠0 then ownC t.1 t.2.1 0 r else QE _ [])=_;simp only[TT.fault,e,List.length_nil,QE]
 | n+1,k+1,t,h=>by
   have b:=ZT.1 h;show (if ownC t.1 t.2.1 (t.2.2.map (TT.at k)).length r≠0 then ownC t.1 t.2.1 (t.2.2.map (TT.at k)).length r else QE (TT.fault r) (t.2.2.map (TT.at k)))=_;rw[XN]
   have:QE (TT.fault r) (t.2.2.map (TT.at k))=QE (TT.fault r) t.2.2:=by
    refine Qbf (by simp) fun i x y a c=>?_;rw[XS,c] at a
    simp only[Option.map_some,Option.some.injEq] at a
    rw[<-a]
    exact TT.at_fault k y (by have:=b y (Zm c);omega)
   rw[this]
   rfl
theorem TT.at_check (k:Nat) (t:TT n) (h:t.height<=k) (r:Int):(t.at k).check r=t.check r:=by
 unfold TT.check;rw[TT.at_height k t h,TT.at_fault k t h]
theorem QhR {m:Nat}{too:Nat->Int}{a b:Int}(r:a<=m) (e:∀ i,i<m->0<=too i/\too i<b):{n:Nat}->{t:TT n}->t.fault a=0->∃ u,t.ren m too=some u/\u.fault b=0
 | 0,t,_=>Empty.elim t
 | n+1,t,h=>by
   obtain⟨c,q⟩:=TT.fault_zero h
   have j:∃ f,Qaz m too t.1 t.2.1=some f/\ownC t.1 f t.2.2.length b=0:=by
    unfold ownC at c;split at c
    ·cases c
    split at c
    ·cases c
    split at c
    ·cases c
    split at c
    ·cases c
    split at c
    ·cases c
    rename_i B I C z L
    by_cases A:t.1=1
    ·refine⟨t.2.1,by rw[Qaz,Xs A],?_⟩
     unfold ownC;rw[Xr B,Xr I,Xr C,Xr z,Xr (by omega)]
    ·obtain⟨M,N⟩:=e t.2.1.toNat (by omega)
     refine⟨too t.2.1.toNat,by rw[Qaz,Xr A,Xr (by omega),Xr (by omega)],?_⟩
     unfold ownC;rw[Xr B,Xr (by omega),Xr C,Xr z,Xr (by omega)]
   obtain⟨f,K,J⟩:=j
   have G:∃ d,Qcz (TT.ren m too) t.2.2=some d/\d.length=t.2.2.length/\∀ x∈d,x.fault b=0:=by
    generalize t.2.2=l at q
    induction l with
    | nil=>exact⟨[],Z,Z,fun x D=>by cases D⟩
    | cons x xs ih =>
      obtain⟨u,H,F⟩:=QhR r e (q x (by simp))
      obtain⟨E,w,k,o⟩:=ih (fun y g=>q y (by simp[g]))
      refine⟨u::E,by simp[Qcz,H,w],by simp[k],fun y g=>?_⟩
      rcases List.mem_cons.1 g with rfl | g
      ·exact F
      ·exact o y g
   obtain⟨d,p,s,v⟩:=G
   refine⟨((t.1,f,d):Int × Int × List (TT n)),by simp only[TT.ren,K,p],?_⟩
   show (if ownC t.1 f d.length b≠0 then ownC t.1 f d.length b else QE (TT.fault b) d)=0;rw[s,J]
   simp only[ne_eq,not_true_eq_false,if_false]
   exact Q6.2 v
theorem Qf4 {too:Nat->Int}{a b:Int}(d:a<=m) (c:∀ i,i<m->0<=too i/\too i<b){t:TT n}(h:t.check a=0):∃ u,t.ren m too=some u/\u.check b=0:=by
 obtain⟨u,e,f⟩:=QhR d c (Zs.1 h).2
 exact⟨u,e,Zs.2 ⟨by rw[TT.ren_height e];exact(Zs.1 h).1,f⟩⟩
structure Qe.right {n:Nat}(x:Qe n) (f:Qf n) (funcs:Nat):Prop where
 regs:f.regs<=x.regs/\x.regs<=16
 params:x.params.length<=8/\∀ t∈x.params,t.check x.regs=0
 code:∀ y∈x.code,y.form funcs=0
 codes:x.code.length<=40
 fin:x.fin.form f.blocks.length=0
structure Qf.right {n:Nat}(x:Qf n) (funcs:Nat):Prop where
 regs:0<=x.regs/\x.regs<=6
 params:x.params.length<=8/\∀ t∈x.params,t.check x.regs=0
 results:x.results.length<=8/\∀ t∈x.results,t.check x.regs=0
 many:0<x.blocks.length/\x.blocks.length<=12
 blocks:∀ y∈x.blocks,y.right x funcs
theorem Qcj {regs:Int}{l:List (TT n)}(h:listC regs l=0):l.length<=8/\∀ t∈l,t.check regs=0:=by
 unfold listC at h;split at h
 ·cases h
 ·exact⟨by omega,fun t a=>Q6.1 h t a⟩
theorem QfW {fn:Qf n}{x:Qe n}(h:(Qe.fault funcs f fn b x).1=0):x.right fn funcs:=by
 unfold Qe.fault at h;split at h
 ·cases h
 rename_i j
 split at h
 ·rename_i c;exact absurd h c
 rename_i c
 split at h
 ·cases h
 split at h
 ·cases h
 rename_i k
 split at h
 ·rename_i a;exact absurd h a
 rename_i a
 split at h
 ·rename_i d;exact absurd h d
 rename_i d
 refine⟨by omega,Qcj (Xq.1 c),fun y g=>?_,by omega,Xq.1 d⟩
 obtain⟨i,e⟩:=List.getElem?_of_mem g
 exact ZQ (Xq.1 a) i y e
theorem QgU {x:Qf n}(h:(Qf.fault funcs f x).1=0):x.right funcs:=by
 unfold Qf.fault at h;split at h
 ·cases h
 rename_i e
 split at h
 ·rename_i a;exact absurd h a
 rename_i a
 split at h
 ·rename_i b;exact absurd h b
 rename_i b
 split at h
 ·cases h
 rename_i g
 split at h
 ·cases h
 refine⟨by omega,Qcj (Xq.1 a),Qcj (Xq.1 b),by omega,fun y d=>?_⟩
 obtain⟨i,c⟩:=List.getElem?_of_mem d
 exact QfW (ZQ h i y c)
theorem QeY {m:List (Qf n)}(h:(Qj m).1=0):(0<m.length/\m.length<=8)/\∀ x∈m,x.right m.length:=by
 unfold Qj at h;split at h
 ·cases h
 rename_i c
 refine⟨by omega,fun x a=>?_⟩
 obtain⟨i,b⟩:=List.getElem?_of_mem a
 exact QgU (ZQ h i x b)
structure JOk (s:JSt):Prop where
 mod:(0<s.m.length/\s.m.length<=8)/\∀ x∈s.m,x.right s.m.length
 tiny:¬ Zd s.m
 fn:s.f∈s.m
 regs:s.H.length<=16
 kept:s.f.regs<=s.H.length
 vals:s.L.length<=80
 types:∀ t∈s.L,t.check s.H.length=0
theorem QaO {s:JSt}{k:Int}{t:TT 6}(h:s.at k=some t):t∈s.L/\0<=k/\k<s.L.length/\s.L[k.toNat]?=some t:=by
 unfold JSt.at at h;split at h
 ·cases h
 ·have:=(Zi h).1
  exact⟨Zm h,by omega,by omega,h⟩
theorem Qay {s:JSt}{k a:Int}{b:Bool}(h:s.want k a b=0):∃ t,s.at k=some t/\t.kind=a/\(b=true->hHas s.H t.r=true):=by
 unfold JSt.want at h;split at h
 ·cases h
 ·rename_i t d
  split at h
  ·rename_i c
   split at h
   ·cases h
   ·rename_i f
    refine⟨t,d,c,fun e=>?_⟩
    subst e;simpa using f
  ·cases h
theorem Qao {a b:Int}(h:code2 a b=0):a=0/\b=0:=by
 unfold code2 at h;split at h
 ·exact⟨by assumption,h⟩
 ·contradiction
theorem Qax {s:JSt}:∀ {l:List Int}{ts:List (TT 6)},s.fields l=some ts->ts.length=l.length/\∀ t∈ts,t∈s.L
 | [],ts,h=>by simp[JSt.fields] at h;subst h;simp
 | k::r,ts,h=>by
   simp only[JSt.fields] at h
   cases hk:s.at k with
   | none=>simp[hk] at h
   | some t =>
     simp only[hk] at h
     cases hr:s.fields r with
     | none=>simp[hr] at h
     | some l =>
       simp only[hr,Option.some.injEq] at h
       subst h;obtain⟨b,c⟩:=Qax hr
       refine⟨by simp[b],fun u a=>?_⟩
       rcases List.mem_cons.1 a with rfl | a
       ·exact(QaO hk).1
       ·exact c u a
theorem Qan {H:List Bool}:∀ {l ahead:List Int},QF H ahead l=0->∀ r∈l,hHas H r=true
 | [],_,_,r,a=>by cases a
 | x::l,ahead,h,r,a=>by
   simp only[QF] at h
   split at h
   ·rename_i b
    split at h
    ·cases h
    ·rcases List.mem_cons.1 a with rfl | a
     ·exact b
     ·exact Qan h r a
   ·cases h
theorem Z0 {H:List Bool}{r:Int}(h:hHas H r=true):0<=r/\r<H.length:=by
 obtain⟨k,rfl,a,_⟩:=QbU h
 omega
theorem Zk {x:QC}(h:x.form funcs=0):((x.op=6\/x.op=7)->0<=x.k/\x.k<=7)/\(x.op=14->0<=x.k/\x.k<funcs/\x.regs.length<=6/\x.args.length<=8)/\(x.op=5->x.args.length<=8)/\(x.op=1\/x.op=2\/x.op=3\/x.op=4\/x.op=5\/x.op=6\/x.op=7\/x.op=8\/x.op=9\/x.op=10\/x.op=11\/x.op=12\/x.op=13\/x.op=14):=by
 have a:=Qju (QiU h).1;unfold QC.form at h;split at h
 ·cases h
 split at h
 ·cases h
 split at h
 ·cases h
 split at h
 ·cases h
 split at h
 ·cases h
 split at h
 ·cases h
 split at h
 ·cases h
 refine⟨by omega,by omega,by omega,a⟩
theorem Qd8 {k r R:Int}(b:k=2\/k=4) (a:0<=r/\r<R):TT.check (n:=6) R (mkT k r [])=0:=by
 refine Zs.2 ⟨by show 0<=4;omega,?_⟩;show (if ownC k r 0 R≠0 then ownC k r 0 R else QE _ [])=0
 have:ownC k r 0 R=0:=by
  unfold ownC;rw[Xr (by omega),Xr (by omega),Xr (by omega),Xr (by omega),Xr (by omega)]
 rw[this];rfl
theorem Qin (R:Int):tInt.check R=0:=by
 refine Zs.2 ⟨by decide,?_⟩;show (if ownC 1 0 0 R≠0 then ownC 1 0 0 R else QE _ [])=0
 have:ownC 1 0 0 R=0:=by unfold ownC;rw[Xr (by omega),Xr (by omega),Xr (by omega),Xr (by omega),Xr (by omega)]
 rw[this];rfl
theorem Qf7 {s:JSt}{x:QC}(h:JOk s) (M:x.form s.m.length=0) (A:(s.makes x).1=0):∀ t∈(s.makes x).2,t.check (s.next x).H.length=0:=by
 obtain⟨f1,W,T,P⟩:=Zk M
 have I:(s.H.length:Int)<=(s.next x).H.length:=by
  simp only[JSt.next]
  split
  ·simp;omega
  split
  ·simp
  ·exact Int.le_refl _
 intro t f
 have j:∀ {c:Int},s.makes x=(c,[tInt])->t.check (s.next x).H.length=0:=fun {c} e=>by
  rw[e] at f
  have f:=List.mem_singleton.1 f;rw[f];exact Qin _
 have d:∀ {c:Int},s.makes x=(c,[])->t.check (s.next x).H.length=0:=fun {c} e=>by
  rw[e] at f;cases f
 rcases P with c | c | c | c | c | c | c | c | c | c | c | c | c | c
 ·exact j (Z4 (.inl c))
 ·exact j (QbV c)
 ·have e:=QaQ (s:=s) c;by_cases B:s.H.length=16
  ·rw[Xs B] at e;exact d e
  ·rw[Xr B] at e
   rw[e] at f
   have f:=List.mem_singleton.1 f;rw[f]
   refine Qd8 (.inl Z) ?_;simp only[JSt.next,c,if_true,List.length_append,List.length_singleton]
   omega
 ·have e:=Qap (s:=s) c
  cases ha:s.at x.a with
  | none=>rw[ha] at e;exact d e
  | some u=>rw[ha] at e;exact d e
 ·have e:=Qaw (s:=s) c
  cases ha:s.at x.a with
  | none=>rw[ha] at e;exact d e
  | some u =>
    rw[ha] at e
    simp only at e
    by_cases q:s.want x.a 2 true=0
    ·rw[Xs q] at e
     cases hl:s.fields x.args with
     | none=>rw[hl] at e;exact d e
     | some l =>
       rw[hl] at e
       simp only at e
       by_cases B:4<TT.height (n:=7) (mkT 3 u.r l)
       ·rw[Xs B] at e;exact d e
       ·rw[Xr B] at e
        rw[e] at f
        have f:=List.mem_singleton.1 f;rw[f]
        obtain⟨N,p,_,o⟩:=Qay q
        rw[ha] at p
        cases p
        have D:=Z0 (o Z);obtain⟨X,R⟩:=Qax hl
        rw[TT.at_check 5 _ (by omega)]
        refine Qby I (Zs.2 ⟨by omega,?_⟩);show (if ownC 3 u.r l.length s.H.length≠0 then ownC 3 u.r l.length s.H.length else QE (TT.fault (s.H.length:Int)) l)=0
        have:ownC 3 u.r l.length s.H.length=0:=by
         have:=T c
         unfold ownC;rw[Xr (by omega),Xr (by omega),Xr (by omega),Xr (by omega),Xr (by omega)]
        rw[this]
        simp only[ne_eq,not_true_eq_false,if_false]
        exact Q6.2 fun y L=>(Zs.1 (h.types y (R y L))).2
    ·rw[Xr q] at e;exact d e
 ·have e:=Qbh (s:=s) c
  cases ha:s.at x.a with
  | none=>rw[ha] at e;exact d e
  | some u =>
    rw[ha] at e
    simp only at e
    by_cases q:s.want x.a 3 true=0
    ·rw[Xs q] at e
     cases z:u.2.2[x.k.toNat]? with
     | none=>rw[z] at e;exact d e
     | some v =>
       rw[z] at e
       rw[e] at f
       have f:=List.mem_singleton.1 f;rw[f]
       have K:=Zs.1 (h.types u (QaO ha).1);have C:=Zm z;have S:=ZT.1 K.1 v C;have V:=TT.height_lt v;rw[TT.at_check 5 _ (by omega)]
       exact Qby I (Zs.2 ⟨by omega,(TT.fault_zero K.2).2 v C⟩)
    ·rw[Xr q] at e;exact d e
 ·have e:=QbR (s:=s) c
  cases ha:s.at x.a with
  | none=>rw[ha] at e;exact d e
  | some u =>
    rw[ha] at e
    simp only at e
    by_cases q:s.want x.a 3 true=0
    ·rw[Xs q] at e
     cases z:u.2.2[x.k.toNat]? with
     | none=>rw[z] at e;exact d e
     | some v =>
       rw[z] at e
       cases hb:s.at x.b with
       | none=>rw[hb] at e;exact d e
       | some w =>
         rw[hb] at e
         simp only at e
         cases hq:bdec (v.at 5=w) with
         | true=>rw[hq] at e;exact d e
         | false=>rw[hq] at e;exact d e
    ·rw[Xr q] at e;exact d e
 ·have e:=Qa1 (s:=s) c
  cases ha:s.at x.a with
  | none=>rw[ha] at e;exact d e
  | some u =>
    rw[ha] at e
    rw[e] at f A
    have f:=List.mem_singleton.1 f;rw[f]
    obtain⟨q,_⟩:=Qao A
    obtain⟨N,p,_,o⟩:=Qay q
    rw[ha] at p
    cases p
    have D:=Z0 (o Z);exact Qd8 (.inr Z) (by omega)
 ·exact j (Qbv c)
 ·exact d (QaV c)
 ·exact j (Qci c)
 ·exact j (Z4 (.inr c))
 ·exact d (Qcc c)
 ·have e:=Qbw (s:=s) c
  cases hg:s.m[x.k.toNat]? with
  | none=>rw[hg] at e;exact d e
  | some g =>
    rw[hg] at e
    simp only at e
    by_cases D:(x.regs.length:Int)=g.regs
    ·rw[Xs D] at e
     rw[e] at f A
     obtain⟨E,U⟩:=Qao A
     obtain⟨u,O,rfl⟩:=List.mem_map.1 f
     have J:=h.mod.2 g (Zm hg);have G:=J.results.2 u O
     obtain⟨v,z,F⟩:=Qf4 (m:=x.regs.length) (too:=fun i=>x.regs.getD i 0) (a:=g.regs) (b:=s.H.length) (by omega) (fun i Q=>by
      have A:=Qan E (x.regs.getD i 0) (by simp[List.getD,Q]);exact Z0 A) G
     unfold Qal;rw[z]
     exact Qby I F
    ·rw[Xr D] at e;exact d e
theorem JOk.next {s:JSt}{x:QC}(h:JOk s) (a:s.code x=0):JOk (s.next x):=by
 unfold JSt.code at a;split at a
 ·rename_i d;exact absurd a d
 rename_i d
 split at a
 ·rename_i f;exact absurd a f
 rename_i f
 split at a
 ·cases a
 rename_i k
 have i:x.form s.m.length=0:=Xq.1 d;have c:(s.makes x).1=0:=Xq.1 f
 have g:(s.H.length:Int)<=(s.next x).H.length:=by
  simp only[JSt.next]
  split
  ·simp;omega
  split
  ·simp
  ·exact Int.le_refl _
 refine⟨h.mod,h.tiny,h.fn,?_,?_,?_,?_⟩
 ·simp only[JSt.next]
  split
  ·rename_i j
   have:s.H.length≠16:=by
    intro e;rw[QaQ j,Xs e] at c
    cases c
   have:=h.regs
   simp
   omega
  split
  ·simpa using h.regs
  ·exact h.regs
 ·exact Int.le_trans h.kept g
 ·show (s.L++(s.makes x).2).length<=80;rw[List.length_append]
  omega
 ·intro t b;rcases List.mem_append.1 b with b | b
  ·exact Qby g (h.types t b)
  ·exact Qf7 h i c t b
theorem JOk.ins {s:JSt}(h:JOk s) (x:QC):JOk (s.ins x):=by
 unfold JSt.ins;split
 ·exact h.next (by assumption)
 ·exact h
theorem Qjv {n:Int}(h:0<=n/\n<=16):((QcY n).length:Int)=n:=by
 unfold QcY;rw[List.length_replicate]
 omega
theorem JOk.start {m:List (Qf 6)}{f:Qf 6}{b:Qe 6}(g:(Qj m).1=0) (k:¬ Zd m) (d:f∈m) (i:b∈f.blocks):JOk (JSt.start m f b):=by
 have e:=QeY g;have c:=e.2 f d;have a:=c.blocks b i;have h:=Qjv (n:=b.regs) (by have:=c.regs;have:=a.regs;omega);have o:=a.regs;have p:=c.regs;have j:=a.params;refine⟨e,k,d,?_,?_,?_,?_⟩
 ·show (QcY b.regs).length<=16;omega
 ·show f.regs<=((QcY b.regs).length:Int);omega
 ·show b.params.length<=80;omega
 ·intro t l;show t.check ((QcY b.regs).length:Int)=0;rw[h]
  exact j.2 t l
noncomputable def QB (at0:Int) (e:MEnd):JSt->Nat->List QC->Int × Int
 | s,_,[]=>if s.fin e≠0 then (s.fin e,at0+91) else (0,0)
 | s,i,x::r=>if s.code x≠0 then (s.code x,at0+i) else QB at0 e (s.next x) (i+1) r
noncomputable def Z7 (m:List (Qf 6)) (k:Nat) (f:Qf 6):Int × Int:=firstF (fun b x=>QB (10000*(k:Int)+100*(b:Int)) x.fin (JSt.start m f x) 0 x.code) 0 f.blocks
noncomputable def QY (m:List (Qf 6)):Int × Int:=if (Qj m).1≠0 then Qj m else firstF (Z7 m) 0 m
noncomputable def JSt.upto (s:JSt) (l:List QC):JSt:=l.foldl (fun s x=>s.next x) s
theorem JSt.upto_snoc (s:JSt) (l:List QC) (x:QC):s.upto (l++[x])=(s.upto l).next x:=by unfold JSt.upto;rw[List.foldl_append];rfl
theorem Qa5 {a:Int}{e:MEnd}:∀ {l:List QC}{s:JSt}{i k:Nat},k<=l.length->(∀ j x,j<k->l[j]?=some x->(s.upto (l.take j)).code x=0)->QB a e s i l=QB a e (s.upto (l.take k)) (i+k) (l.drop k)
 | l,s,i,0,_,_=>by simp[JSt.upto]
 | [],s,i,k+1,hk,_=>by simp at hk
 | x::r,s,i,k+1,hk,h=>by
   have c:s.code x=0:=by have:=h 0 x (by omega) Z;simpa[JSt.upto] using this
   rw[QB,Xr (by rw[c];simp)]
   have b:k<=r.length:=by simpa using hk
   rw[Qa5 (k:=k) b (fun j y g d=>by
    have:=h (j+1) y (by omega) (by simpa using d)
    simpa[JSt.upto] using this)]
   simp only[List.take_succ_cons,List.drop_succ_cons]
   have f:i+1+k=i+(k+1):=by omega
   rw[f]
   rfl
theorem QcK {a:Int}{e:MEnd}{l:List QC}{s:JSt}{x:QC}(b:l[k]?=some x) (h:∀ j y,j<k->l[j]?=some y->(s.upto (l.take j)).code y=0) (d:(s.upto (l.take k)).code x≠0) :
 QB a e s 0 l=((s.upto (l.take k)).code x,a+k):=by
 have c:k<l.length:=(Zi b).1;rw[Qa5 (k:=k) (by omega) h,List.drop_eq_getElem_cons c]
 have:l[k]=x:=by rw[Zg c] at b;exact Xn b
 rw[this,QB,Xs d,XK]
theorem QcF {a:Int}{e:MEnd}{l:List QC}{s:JSt}(h:∀ j y,j<l.length->l[j]?=some y->(s.upto (l.take j)).code y=0) :
 QB a e s 0 l=if (s.upto l).fin e≠0 then ((s.upto l).fin e,a+91) else (0,0):=by
 rw[Qa5 (k:=l.length) Ze h,List.drop_length,List.take_length]
 rfl
theorem JOk.upto {s:JSt}(b:JOk s){l:List QC}:∀ {k:Nat},(∀ j y,j<k->l[j]?=some y->(s.upto (l.take j)).code y=0)->k<=l.length->JOk (s.upto (l.take k))
 | 0,_,_=>by simpa[JSt.upto] using b
 | k+1,h,hk=>by
   have a:l[k]?=some (l[k]'(by omega)):=Zg _;have c:=b.upto (k:=k) (fun j y d=>h j y (by omega)) (by omega);rw[XV,a]
   show JOk (s.upto (l.take k++[_]));rw[JSt.upto_snoc]
   exact c.next (h k _ (by omega) a)
theorem Qa4 {m:List (Qf 6)}{f:Qf 6}{g:Qe 6}(e:(Qj m).1=0) (l:m[k]?=some f) (i:∀ j y,j<k->m[j]?=some y->(Z7 m j y).1=0) (n:f.blocks[q]?=some g)
 (o:∀ j y,j<q->f.blocks[j]?=some y->(QB (10000*(k:Int)+100*(j:Int)) y.fin (JSt.start m f y) 0 y.code).1=0) (h:(QB (10000*(k:Int)+100*(q:Int)) g.fin (JSt.start m f g) 0 g.code).1≠0) :
 QY m=QB (10000*(k:Int)+100*(q:Int)) g.fin (JSt.start m f g) 0 g.code:=by
 have d:Z7 m k f=QB (10000*(k:Int)+100*(q:Int)) g.fin (JSt.start m f g) 0 g.code:=by
  unfold Z7
  have:=Qaa (f:=fun b (x:Qe 6)=>QB (10000*(k:Int)+100*(b:Int)) x.fin (JSt.start m f x) 0 x.code) (j:=0) n (fun j y c a=>by rw[XK];exact o j y c a) (by rw[XK];exact h)
  rw[XK] at this
  exact this
 unfold QY;rw[Xr (by rw[e];simp)]
 have:=Qaa (f:=Z7 m) (j:=0) l (fun j y c a=>by rw[XK];exact i j y c a) (by rw[XK,d];exact h)
 rw[XK,d] at this
 exact this
def retE:MEnd:=⟨3,0,⟨0,[],[]⟩,⟨0,[],[]⟩,[]⟩
def Qe.outl {n:Nat}(b:Qe n):Qe n:=⟨b.regs,b.params,[],retE⟩
def Qf.outl {n:Nat}(f:Qf n):Qf n:=⟨f.regs,f.params,f.results,f.blocks.map Qe.outl⟩
def outl {n:Nat}(m:List (Qf n)):List (Qf n):=m.map Qf.outl
def JSt.outl (s:JSt):JSt:=⟨Go.Proofs.YtlnkdhnibcenbaeGreat.outl s.m,s.f.outl,s.H,s.L⟩
theorem Qbs (m:List (Qf n)):(outl m).length=m.length:=XN _
theorem Qey (m:List (Qf n)) (k:Nat):(outl m)[k]?=(m[k]?).map Qf.outl:=XS
theorem QgK (f:Qf n):f.outl.blocks.length=f.blocks.length:=XN _
theorem Qi5 (f:Qf n) (k:Nat):f.outl.blocks[k]?=(f.blocks[k]?).map Qe.outl:=XS
theorem Qdm (s:JSt) (l:List Int) (a:List (TT 6)) (b:List Int):s.outl.args l a b=s.args l a b:=rfl
theorem Qdl (s:JSt):∀ l,s.outl.fields l=s.fields l
 | []=>rfl
 | k::r=>by
   have a:s.outl.at k=s.at k:=rfl;simp only[JSt.fields,a,Qdl s r]
theorem Qea (s:JSt) (x:QC):s.outl.makes x=s.makes x:=by
 have e:∀ k,s.outl.at k=s.at k:=fun _=>rfl;have d:∀ a b c,s.outl.want a b c=s.want a b c:=fun _ _ _=>rfl;have g:s.outl.H=s.H:=rfl;have h:s.outl.f.regs=s.f.regs:=rfl;have i:s.outl.m[x.k.toNat]?=(s.m[x.k.toNat]?).map Qf.outl:=Qey _ _;unfold JSt.makes;rw[i]
 simp only[e,d,g,h,Qdl,Qdm]
 cases s.m[x.k.toNat]?<;>rfl
theorem Qe4 (s:JSt) (x:QC):s.outl.code x=s.code x:=by
 have a:s.outl.m.length=s.m.length:=Qbs _;have b:s.outl.L=s.L:=rfl;unfold JSt.code;rw[a,Qea,b]
theorem QiR (s:JSt) (x:QC):s.outl.next x=(s.next x).outl:=by
 unfold JSt.next
 rw[Qea]
 rfl
theorem Qjl (s:JSt) (x:QC):s.outl.ins x=(s.ins x).outl:=by
 unfold JSt.ins;rw[Qe4]
 split
 ·exact QiR s x
 ·rfl
theorem Qie (s:JSt) (t:MTo):s.outl.to t=s.to t:=by
 have c:s.outl.f.blocks[t.block.toNat]?=(s.f.blocks[t.block.toNat]?).map Qe.outl:=Qi5 _ _;have b:s.outl.f.regs=s.f.regs:=rfl;have a:s.outl.H=s.H:=rfl;unfold JSt.to;rw[c]
 simp only[b,a,Qdm]
 cases s.f.blocks[t.block.toNat]?<;>rfl
theorem Qjq (s:JSt) (e:MEnd):s.outl.fin e=s.fin e:=by
 have h:s.outl.f.blocks.length=s.f.blocks.length:=QgK _;have i:s.outl.f.regs=s.f.regs:=rfl;have g:s.outl.H=s.H:=rfl;have j:s.outl.f.results=s.f.results:=rfl;have d:∀ a b c,s.outl.want a b c=s.want a b c:=fun _ _ _=>rfl;unfold JSt.fin;rw[h,Qie,Qie,i,g,j,d,Qdm]
theorem QgW (m:List (Qf 6)) (f:Qf 6) (b:Qe 6):JSt.start (outl m) f.outl b.outl=(JSt.start m f b).outl:=rfl
theorem Qha {fn:Qf n}{x:Qe n}(h:(Qe.fault funcs f fn b x).1=0):(Qe.fault funcs f fn.outl b x.outl).1=0:=by
 unfold Qe.fault at h |-;split at h
 ·cases h
 rename_i k
 split at h
 ·rename_i a;exact absurd h a
 rename_i a
 split at h
 ·cases h
 rename_i m
 have c:¬ (x.outl.regs<fn.outl.regs\/16<x.outl.regs):=k;have d:¬ listC x.outl.regs x.outl.params≠0:=a;have g:¬ (b=0/\(x.outl.regs≠fn.outl.regs\/QbK x.outl.params fn.outl.params=false)):=m;have l:¬ 40<x.outl.code.length:=by show ¬ 40<0;omega
 have j:¬ (firstF (fun i y=>(QC.form funcs y,(10000*f+100*b+i:Int))) 0 x.outl.code).1≠0:=fun e=>e Z
 have o:¬ x.outl.fin.form fn.outl.blocks.length≠0:=fun e=>e (by
  show MEnd.form _ retE=0;simp[MEnd.form,retE,MTo.form])
 rw[Xr c,Xr d,Xr g,Xr l,Xr j,Xr o]
theorem Qh4 {x:Qf n}(h:(Qf.fault funcs f x).1=0):(Qf.fault funcs f x.outl).1=0:=by
 unfold Qf.fault at h |-;split at h
 ·cases h
 rename_i m
 split at h
 ·rename_i a;exact absurd h a
 rename_i a
 split at h
 ·rename_i a;exact absurd h a
 rename_i l
 split at h
 ·cases h
 rename_i p
 split at h
 ·cases h
 rename_i j
 have c:¬ (x.outl.regs<0\/6<x.outl.regs):=m;have d:¬ listC x.outl.regs x.outl.params≠0:=a;have g:¬ listC x.outl.regs x.outl.results≠0:=l;have e:¬ (x.outl.blocks.length<1\/12<x.outl.blocks.length):=by rw[QgK];exact p
 have b:¬ (f=0/\¬ (x.outl.regs=0/\x.outl.params.length=0/\x.outl.results.all (fun t=>t.kind==1)=true)):=j;rw[Xr c,Xr d,Xr g,Xr e,Xr b]
 rw[QT]
 intro k y i;rw[Qi5] at i
 obtain⟨z,o,rfl⟩:=Option.map_eq_some_iff.1 i
 exact Qha (ZQ h k z o)
theorem Qge {m:List (Qf n)}(h:(Qj m).1=0):(Qj (outl m)).1=0:=by
 unfold Qj at h |-;split at h
 ·cases h
 rename_i b
 rw[Xr (by rw[Qbs];exact b),QT]
 intro k y a;rw[Qey] at a
 obtain⟨z,c,rfl⟩:=Option.map_eq_some_iff.1 a
 rw[Qbs]
 exact Qh4 (ZQ h k z c)
theorem QdY {m:List (Qf n)}(h:¬ Zd m):¬ Zd (outl m):=by
 rintro (e | ⟨x,a,e⟩)
 ·rw[Qbs] at e;exact h (.inl e)
 ·obtain⟨z,c,rfl⟩:=List.mem_map.1 a
  refine h (.inr ⟨z,c,?_⟩);rcases e with e | e | e | ⟨y,b,e⟩
  ·rw[QgK] at e;exact .inl e
  ·exact .inr (.inl e)
  ·exact .inr (.inr (.inl e))
  ·obtain⟨q,f,rfl⟩:=List.mem_map.1 b
   refine .inr (.inr (.inr ⟨q,f,?_⟩));rcases e with e | e | e | e | e | e | e | ⟨u,d,e⟩
   ·exact absurd e (by show ¬ 200<0;omega)
   ·exact .inr (.inl e)
   ·exact absurd e (by show ¬ 300<0;omega)
   ·exact absurd e (by show ¬ 300<0;omega)
   ·exact absurd e (by show ¬ 300<0;omega)
   ·exact absurd e (by show ¬ 300<0;omega)
   ·exact absurd e (by show ¬ 300<0;omega)
   ·cases d
theorem Qa0 (h:Below B (w.drewN m) w'):Below B w w':=⟨h.os,h.tape,h.output,h.size,h.block⟩
theorem QQ (h:Below B w w'):Below B w (w'.drewN m):=⟨h.os,h.tape,h.output,h.size,h.block⟩
theorem QaN {c:Array Value}{ty:TypeId}(h:wr.heap[B]?=some (.cells c ty (0,0))) (b:Below wr.heap.size wr w):w.heap[B]?=some (.cells c ty (0,0)) :=
 (b.block B (XC h)).trans h
abbrev Blk (w:World) (B:Nat) (c:Array Value) (t:TypeId):Prop:=w.heap[B]?=some (.cells c t (0,0))
theorem Blk.below {c:Array Value}(h:Blk w B c t) (b:Below w.heap.size w w'):Blk w' B c t:=QaN h b
theorem Blk.alloc {c:Array Value}(h:Blk w B c t) (o:Obj):Blk (w.alloc o) B c t:=QaN h ((Below.refl _ w).alloc Ze _)
theorem Blk.new (w:World) (c:Array Value) (t:TypeId):Blk (w.alloc (.cells c t)) w.heap.size c t:=Qm w c t
theorem Blk.drewN {c:Array Value}(h:Blk w B c t) (m:Nat):Blk (w.drewN m) B c t:=h
theorem Blk.lt {c:Array Value}(h:Blk w B c t):B<w.heap.size:=XC h
theorem Blk.setOther {c:Array Value}(h:Blk w B c t){p:Addr}(a:p.block≠B) (v:Value):Blk (w.setCell p v) B c t:=(Xd _ _ _ _ (fun e=>a e.symm)).trans h
theorem QU (w:World) (o:Obj):Below w.heap.size w (w.alloc o):=(Below.refl _ w).alloc Ze _
theorem QaS (w:World) (o p:Obj):Below w.heap.size w ((w.alloc o).alloc p):=(QU w o).alloc (by simp) _
theorem Below.andThen {w1:World}(h:Below w.heap.size w w1) (b:Below w1.heap.size w1 w2):Below w.heap.size w w2:=h.trans (b.mono h.size)
theorem Blk.new1 (w:World) (c d:Array Value) (t u:TypeId):Blk ((w.alloc (.cells c t)).alloc (.cells d u)) w.heap.size c t:=(Blk.new w c t).alloc _
theorem Blk.new2 (w:World) (o:Obj) (d:Array Value) (u:TypeId):Blk ((w.alloc o).alloc (.cells d u)) (w.heap.size+1) d u:=by
 have:=Blk.new (w.alloc o) d u
 simpa using this
abbrev QjW (b:Nat):Value:=.pointer (some ⟨b,0,none⟩)
abbrev Chg (b:Nat) (w w':World):Prop:=Zw (fun k=>k=b) (fun k=>k=b) w w'
section
variable {b:Nat}{w w' w1 w2:World}
theorem Chg.refl (b:Nat) (w:World):Chg b w w:=Zw.refl _ _
theorem Chg.below (h:Below w.heap.size w w'):Chg b w w':=⟨h.os,h.tape,h.output,h.size,fun k a _=>h.block k a,fun k a=>.inl a⟩
theorem Chg.set (w:World) (o:Nat) (v:Value) (h:b<w.heap.size):Chg b w (w.setCell ⟨b,o,none⟩ v) :=
 ⟨Z,Z,Z,by simp,fun k _ a=>Xd _ _ _ _ a,fun k a=>.inl a⟩
theorem Chg.keep {α:Type}{A:Lay α}{x:α}(h:A.In w O x cs) (c:Chg b w w') (e:∀ k,O k->k≠b):A.In w' O x cs :=
 A.keep (fun k d a=>c.block k a (e k d)) (fun _ h _=>h) h
theorem Chg.last (h:Below s w w1) (c:Chg b w1 w2) (e:s<=b) (d:s<=w1.heap.size):Below s w w2 :=
 ⟨c.os.trans h.os,c.tape.trans h.tape,c.output.trans h.output,Zt h.size c.size,fun k a=>(c.block k (by omega) (by omega)).trans (h.block k a)⟩
end
theorem Blk.chg {c:Array Value}(h:Blk w B c t) (k:Chg b w w') (a:B≠b):Blk w' B c t:=(k.block B h.lt a).trans h
abbrev QiW (b B:Nat) (w w':World):Prop:=Zw (fun k=>k=b\/k=B) (fun k=>k=b\/k=B) w w'
section
variable {b B:Nat}{w w' w0:World}
theorem QiW.refl (b B:Nat) (w:World):QiW b B w w:=Zw.refl _ _
theorem QiW.of (h:Chg b w w'):QiW b B w w':=⟨h.os,h.tape,h.output,h.size,fun k a c=>h.block k a (fun e=>c (.inl e)),fun k a=>.inl a⟩
theorem QiW.set (w:World) (o:Nat) (v:Value):QiW b B w (w.setCell ⟨B,o,none⟩ v) :=
 ⟨Z,Z,Z,by simp,fun k _ a=>Xd _ _ _ _ (fun e=>a (.inr e)),fun k a=>.inl a⟩
theorem QiW.new (h:Chg b w0 w) (a:QiW b B w w') (f:w0.heap.size<=B):Chg b w0 w' :=
 ⟨a.os.trans h.os,a.tape.trans h.tape,a.output.trans h.output,Zt h.size a.size,fun k c d=>(a.block k (Zl c h.size) (fun e=>by rcases e with e | e;exact d e;omega)).trans (h.block k c d),fun k c=>.inl c⟩
theorem QiW.keep {α:Type}{A:Lay α}{x:α}(h:A.In w O x cs) (c:QiW b B w w') (f:∀ k,O k->k<w.heap.size->k≠b/\k≠B):A.In w' O x cs :=
 A.keep (fun k d a=>c.block k a (fun e=>by rcases e with e | e;exact(f k d a).1 e;exact(f k d a).2 e)) (fun _ h _=>h) h
end
theorem Chg.allocP (c:Chg b w w') (o:Obj):Chg b w (w'.alloc o):=c.trans (Chg.below (QU _ _))
theorem Chg.grownP {w1:World}{a:Option Nat}(c:Chg b w w1) (g:w1.grownBy w2 a) (h:∀ k,a=some k->w.heap.size<=k):Chg b w w2 :=
 ⟨g.os.trans c.os,g.tape.trans c.tape,g.output.trans c.output,Zt c.size g.size,fun k d f=>(g.block k (Zl d c.size) (fun e=>by have:=h k e.symm;omega)).trans (c.block k d f),fun k d=>.inl d⟩
theorem ZI.formP {α:Type}{A:Lay α}{l:List α}(h:ZI A t w lo v l xs):∃ a c,v=.slice a l.length c:=by
 obtain⟨a,c,e,_⟩:=h.lay
 simp at e
 exact⟨a,c,e⟩
theorem pUnderI:prog.underlying 35=some (.slice 3):=by kernel_rfl
theorem pInfoI0:(prog.info? 3).map (fun i=>(i.zero,i.size,i.bytes))=some (some (.int .i64 0),1,8):=by kernel_rfl
theorem pInfoI:∃ i,prog.info? 3=some i/\i.zero=some (.int .i64 0)/\i.size=1/\i.bytes=8:=by
 have h:=pInfoI0
 cases e:prog.info? 3 with
 | none=>rw[e] at h;cases h
 | some i =>
   rw[e] at h
   simp only[Option.map_some,Option.some.injEq,Prod.mk.injEq] at h
   exact⟨i,Z,h.1,h.2.1,h.2.2⟩
theorem pUnderT:prog.underlying 33=some (.slice 70):=by kernel_rfl
theorem pInfoT0:(prog.info? 70).map (fun i=>(i.zero,i.size,i.bytes))=some (some (.agg #[.int .i64 0,.int .i64 0,.slice none 0 0]),3,40):=by kernel_rfl
theorem pInfoT:∃ i,prog.info? 70=some i/\i.zero=some (.agg #[.int .i64 0,.int .i64 0,.slice none 0 0])/\i.size=3/\i.bytes=40:=by
 have h:=pInfoT0
 cases e:prog.info? 70 with
 | none=>rw[e] at h;cases h
 | some i =>
   rw[e] at h
   simp only[Option.map_some,Option.some.injEq,Prod.mk.injEq] at h
   exact⟨i,Z,h.1,h.2.1,h.2.2⟩
theorem QeJ (w:World) (c:List Value) (t:TypeId):∀ (j:Nat) (u:Value),c[j]?=some u->(w.alloc (.cells c.toArray t)).cell? ((⟨w.heap.size,0,none⟩:Addr).add j)=some u:=by
 intro j u h;have a:c.toArray[j]?=some u:=by simpa using h
 rw[Go.WideShapes.add_plain,XK]
 exact Qb (Qm w c.toArray t) j u a
theorem Qkt (n:Int):∀ u∈[Value.int .i64 n],u.oneCell'=true:=by
 intro u h;simp at h
 subst h;rfl
theorem Qfi (k r:Int) (a:Option Addr) (l c:Nat):∀ u∈[Value.int .i64 k,Value.int .i64 r,Value.slice a l c],u.oneCell'=true:=by
 intro u h;simp at h
 rcases h with rfl | rfl | rfl<;>rfl
theorem Blk.set3 {f p1 e:Value}(h:Blk w R #[f,p1,e] t) (a b c:Value):Blk (((w.setCell ⟨R,0,none⟩ a).setCell ⟨R,1,none⟩ b).setCell ⟨R,2,none⟩ c) R #[a,b,c] t:=by
 have d:=Qq (Qq (Qq h 0 a) 1 b) 2 c;simpa using d
section
variable {w0 w w':World}{b R B:Nat}{α:Type}{A:Lay α}{x:α}{cs:List Value}
def Kid {α:Type}(A:Lay α) (B:Nat) (w:World) (x:α) (cs:List Value):Prop:=A.In w (fun g=>B<g) x cs
theorem Kid.mk (h:A.In w (fun g=>w'.heap.size<=g) x cs) (a:B<w'.heap.size):Kid A B w x cs:=Yc h (fun k b _=>by omega)
theorem Kid.chg (h:Kid A B w x cs) (k:Chg b w w') (a:b<=B):Kid A B w' x cs:=Chg.keep h k (fun k c=>by omega)
theorem Kid.set (h:Kid A B w x cs){q:Addr}(a:q.block<=B) (v:Value):Kid A B (w.setCell q v) x cs:=Lay.setCell h (by omega) v
theorem Kid.alloc (h:Kid A B w x cs) (o:Obj):Kid A B (w.alloc o) x cs:=Lay.alloc h o
theorem Kid.sets (h:Kid A B w x cs)(b:R<=B):∀ (vs:List Value) (o:Nat),Kid A B (w.setCells R o vs) x cs:=fun vs o=>A.keep (fun k a _=>ZU (by omega) vs o w) (fun _ h _=>h) h
theorem Kid.out (h:Kid A B w x cs) (a:w0.heap.size<=B):A.In w (fun g=>w0.heap.size<=g) x cs:=Yc h (fun k b _=>by omega)
end
theorem Blk.sets {R:Nat}{T:TypeId}:∀ (vs us zs:List Value) (w:World),vs.length=zs.length->Blk w R (us++zs).toArray T->Blk (w.setCells R us.length vs) R (us++vs).toArray T
 | [],us,zs,w,hl,h=>by
   have:zs=[]:=Xf.1 hl.symm
   subst this;exact h
 | v::vs,us,zs,w,hl,h=>by
   cases zs with
   | nil=>simp at hl
   | cons z zs =>
     have a:=Qq h us.length v
     have b:((us++z::zs).toArray.setIfInBounds us.length v)=((us++[v])++zs).toArray:=by
      apply Array.ext'
      simp[List.set_append]
     rw[b] at a
     have:=Blk.sets vs (us++[v]) zs (w.setCell ⟨R,us.length,none⟩ v) (by simpa using hl) a
     simpa[World.setCells] using this
theorem QjR {b p1 a:Value}(h:Blk w B #[b,p1,a] t):w.cell? ⟨B,0,none⟩=some b/\w.cell? ⟨B,1,none⟩=some p1/\w.cell? ⟨B,2,none⟩=some a:=⟨Qb h 0 _ Z,Qb h 1 _ Z,Qb h 2 _ Z⟩
theorem QkU {c p1 b a:Value}(h:Blk w B #[c,p1,b,a] t):w.cell? ⟨B,0,none⟩=some c/\w.cell? ⟨B,1,none⟩=some p1/\w.cell? ⟨B,2,none⟩=some b/\w.cell? ⟨B,3,none⟩=some a:=⟨Qb h 0 _ Z,Qb h 1 _ Z,Qb h 2 _ Z,Qb h 3 _ Z⟩
theorem pSizeN:(prog.info? 46).map (·.size)=some 8:=by kernel_rfl
theorem pSizeE:(prog.info? 58).map (·.size)=some 9:=by kernel_rfl
theorem Blk.range {T:TypeId}{c:List Value}(h:Blk w g c.toArray T):w.rangeAt g 0 c:=fun j v a=>by
 rw[XK]
 exact Qb h j v (by simpa using a)
theorem Blk.there {T:TypeId}{c:Array Value}(h:Blk w g c T) (a:o+n<=c.size):w.there g o n:=fun j b =>
 ⟨by rw[Qb h (o+j) _ (Xj (by omega))];rfl,Qn h (o+j)⟩
section
variable {w0 w w':World}{b R B:Nat}{α:Type}{A:Lay α}{x:α}{cs:List Value}{lo:Nat}
def Mid {α:Type}(A:Lay α) (B lo:Nat) (w:World) (x:α) (cs:List Value):Prop:=A.In w (fun g=>B<g/\g<lo) x cs
theorem Mid.chg (h:Mid A B lo w x cs) (k:Chg b w w') (a:b<=B):Mid A B lo w' x cs:=Chg.keep h k (fun k c=>by omega)
theorem Mid.below (h:Mid A B lo w x cs) (k:Below w.heap.size w w'):Mid A B lo w' x cs:=Ya h k
theorem Mid.set (h:Mid A B lo w x cs){q:Addr}(a:q.block<=B) (v:Value):Mid A B lo (w.setCell q v) x cs:=Lay.setCell h (by omega) v
theorem Mid.grown {a:Option Nat}(h:Mid A B lo w x cs) (g:w.grownBy w' a) (c:∀ k,a=some k->lo<=k):Mid A B lo w' x cs :=
 A.keep (fun k d b=>g.block k b (fun e=>by have:=c k e.symm;omega)) (fun _ h _=>h) h
end
theorem pSizeB:(prog.info? 60).map (·.size)=some 12:=by kernel_rfl
theorem pUnderB:prog.underlying 38=some (.slice 60):=by kernel_rfl
theorem pInfoB0:(prog.info? 60).map (fun i=>(i.zero,i.size,i.bytes))=some (some (.agg #[.int .i64 0,.slice none 0 0,.slice none 0 0,.int .i64 0,.int .i64 0,.int .i64 0,.slice none 0 0,.slice none 0 0,.int .i64 0,.slice none 0 0,.slice none 0 0,.slice none 0 0]),12,208):=by kernel_rfl
theorem pInfoB:∃ i,prog.info? 60=some i/\i.zero=some (.agg #[.int .i64 0,.slice none 0 0,.slice none 0 0,.int .i64 0,.int .i64 0,.int .i64 0,.slice none 0 0,.slice none 0 0,.int .i64 0,.slice none 0 0,.slice none 0 0,.slice none 0 0])/\i.size=12/\i.bytes=208:=by
 have h:=pInfoB0
 cases e:prog.info? 60 with
 | none=>rw[e] at h;cases h
 | some i =>
   rw[e] at h
   simp only[Option.map_some,Option.some.injEq,Prod.mk.injEq] at h
   exact⟨i,Z,h.1,h.2.1,h.2.2⟩
theorem pUnderF:prog.underlying 22=some (.slice 40):=by kernel_rfl
theorem pInfoF0:(prog.info? 40).map (fun i=>(i.zero,i.size,i.bytes))=some (some (.agg #[.int .i64 0,.slice none 0 0,.slice none 0 0,.slice none 0 0]),4,80):=by kernel_rfl
theorem pInfoF:∃ i,prog.info? 40=some i/\i.zero=some (.agg #[.int .i64 0,.slice none 0 0,.slice none 0 0,.slice none 0 0])/\i.size=4/\i.bytes=80:=by
 have h:=pInfoF0
 cases e:prog.info? 40 with
 | none=>rw[e] at h;cases h
 | some i =>
   rw[e] at h
   simp only[Option.map_some,Option.some.injEq,Prod.mk.injEq] at h
   exact⟨i,Z,h.1,h.2.1,h.2.2⟩
def QlE (K:Act->World->Prop) (Q:Exit->Act->World->Prop) (o:Oper) (a:Act):Ending->World->Prop
 | .returned u,w=>K (a.put o.dst u) w
 | .panicked chain,w=>Q (.panic chain) a w
 | .outgrown,_=>LetsOut Q
def Qc9 (F:Nat):Prop:=∀ (args:Array Value) (w:World),(callFunc F args).run prog w=.ok (.enter F args) w
def QgR (L:List Bool) (i:Nat):Value:=if i=16 then .int .i64 (L.length:Int) else .bool (L.getD i false)
def Qz (w:World) (b:Nat) (L:List Bool):Prop:=L.length<=16/\w.rowIs b 73 17 (QgR L)
theorem Qz.mark (h:Qz w b L)(a:k<16):w.cell? ⟨b,k,none⟩=some (.bool (L.getD k false)):=by
 have:=h.2.cell (i:=k) (by omega)
 rwa [QgR,Xr (by omega)] at this
theorem Qz.count (h:Qz w b L):w.cell? ⟨b,16,none⟩=some (.int .i64 (L.length:Int)):=by
 have:=h.2.cell (i:=16) (by omega)
 rwa [QgR,Xs Z] at this
theorem Qz.keep (h:Qz w b L) (e:w'.heap[b]?=w.heap[b]?):Qz w' b L:=⟨h.1,h.2.of_block e⟩
theorem Qz.below (h:Qz w b L) (k:Below w.heap.size w w'):Qz w' b L:=h.keep (k.block b h.2.lt)
theorem Qz.step (h:Qz w b L) (k:Zw O O' w w') (a:¬ O b):Qz w' b L:=h.keep (k.block b h.2.lt a)
theorem Qz.lt (h:Qz w b L):b<w.heap.size:=h.2.lt
theorem Qz.setMark (h:Qz w b L)(d:k<L.length) (v:Bool):Qz (w.setCell ⟨b,k,none⟩ (.bool v)) b (L.set k v):=by
 refine⟨by simpa using h.1,(h.2.set k (.bool v)).congr fun i g=>?_⟩
 have f:=h.1;unfold QgR;by_cases a:i=16
 ·subst a;simp;omega
 ·rw[Xr a,Xr a]
  by_cases c:i=k
  ·subst c;simp[List.getD,d]
  ·have:¬ k=i:=fun e=>c e.symm
   simp[c,List.getD,this]
theorem Qz.push (h:Qz w b L) (f:L.length<16):Qz ((w.setCell ⟨b,L.length,none⟩ (.bool true)).setCell ⟨b,16,none⟩ (.int .i64 ((L.length:Int)+1))) b (L++[true]):=by
 refine⟨by simp;omega,((h.2.set L.length (.bool true)).set 16 _).congr fun i e=>?_⟩
 unfold QgR;by_cases a:i=16
 ·subst a;simp
 ·rw[Xr a,Xr a,Xr a]
  by_cases d:i=L.length
  ·subst d;simp[List.getD]
  ·rw[Xr d]
   rcases Nat.lt_or_ge i L.length with c | c
   ·simp[List.getD,List.getElem?_append,c]
   ·rw[QbF L c,QbF (L++[true]) (by simp;omega)]
theorem QcS (r:Int) (h:Qz w b L) :
 Calls prog 115 #[.pointer (some ⟨b,0,none⟩),.int .i64 r] w fun e w'=>e=.returned (.bool (hHas L r))/\w'=w:=by
 by_cases a:0<=r
 ·by_cases d:r<16
  ·obtain⟨k,rfl⟩:=Xc a
   have c:=h.mark (k:=k) (by omega);have E:Hid (hHas L (k:Int)=L.getD k false):=Qbq L k;have i:k<16:=by omega
   clear h;generalize L.getD k false=q at c E;go_enter func115,ntmps115
   go_wp2
   go_ret;exact⟨by rw[E.out];rfl,Z⟩
  ·have E:Hid (hHas L r=false):=by
    show _=_;obtain⟨k,rfl⟩:=Xc a
    rw[Qbq,QbF L (by have:=h.1;omega)]
   have g:decide (r<16)=false:=by simpa using d
   clear h;go_enter func115,ntmps115
   go_wp2
   go_ret;exact⟨by rw[E.out];rfl,Z⟩
 ·have E:Hid (hHas L r=false):=by show _=_;simp[hHas,a]
  have f:decide (0<=r)=false:=by simpa using a
  clear h;go_enter func115,ntmps115
  go_wp2
  go_ret;exact⟨by rw[E.out];rfl,Z⟩
theorem QjD (h:Qz w b L) :
 Calls prog 11 #[.pointer (some ⟨b,0,none⟩)] w fun e w'=>e=.returned (.int .i64 (L.length:Int))/\w'=w:=by
 have c:=h.count;clear h;generalize L.length=n at c;go_enter func11,ntmps11
 go_wp2
 go_ret;exact⟨Z,Z⟩
theorem Qfy {a:World}(h:Zw (fun k=>k=b) (fun k=>k=b) a w) (i:Nat) (v:Value):Zw (fun k=>k=b) (fun k=>k=b) a (w.setCell ⟨b,i,none⟩ v):=h.setCell (p:=⟨b,i,none⟩) Z v
theorem Qc5 (h:Qz w b L) :
 Calls prog 60 #[.pointer (some ⟨b,0,none⟩)] w fun e w'=>e=.returned (.int .i64 (Qb5 L))/\Qz w' b (Qds L)/\Zw (fun k=>k=b) (fun k=>k=b) w w':=by
 have c:=h.count;have j:=h.1;by_cases d:L.length<16
 ·have E:Hid (Qb5 L=(L.length:Int)/\Qds L=L++[true]):=by show _/\_;simp[Qb5,Qds,d]
  have m:=h.mark d;have f:∀ i,w.frozen? ⟨b,i,none⟩=false:=h.2.frozen;have g:Hid (Qz ((w.setCell ⟨b,L.length,none⟩ (.bool true)).setCell ⟨b,16,none⟩ (.int .i64 ((L.length:Int)+1))) b (L++[true])):=h.push d;have l:Hid (Zw (fun k=>k=b) (fun k=>k=b) w ((w.setCell ⟨b,L.length,none⟩ (.bool true)).setCell ⟨b,16,none⟩ (.int .i64 ((L.length:Int)+1)))):=Qfy (Qfy (Zw.refl _ _) _ _) _ _;have a:((L.length:Int)==16)=false:=by simp;omega
  clear h;generalize o:L.length=n at c m g l E d a j;generalize L.getD n false=q at m;go_enter func60,ntmps60
  go_wp2_with fail
  go_region;go_wp2
  go_ret;rw[E.out.1,E.out.2]
  exact⟨Z,g.out,l.out.drew⟩
 ·have a:L.length=16:=by omega
  have E:Hid (Qb5 L=-1/\Qds L=L):=by show _/\_;simp[Qb5,Qds,d]
  have g:Hid (Qz w b L):=h;rw[a] at c
  clear h d a j;go_enter func60,ntmps60
  go_wp2
  go_ret;rw[E.out.1,E.out.2]
  exact⟨Z,g.out,Zw.refl _ _⟩
theorem Qh8 (r:Int) (h:Qz w b L) :
 Calls prog 111 #[.pointer (some ⟨b,0,none⟩),.int .i64 r] w fun e w'=>e=.returned (.bool (hHas L r))/\Qz w' b (Qfu L r)/\Zw (fun k=>k=b) (fun k=>k=b) w w':=by
 have C:Hid (Calls prog 115 #[.pointer (some ⟨b,0,none⟩),.int .i64 r] w fun e w'=>e=.returned (.bool (hHas L r))/\w'=w):=QcS r h
 cases hh:hHas L r with
 | false =>
   have E:Hid (Qfu L r=L):=by show _=_;simp[Qfu,hh]
   have g:Hid (Qz w b L):=h;rw[hh] at C
   clear h hh;go_enter func111,ntmps111
   go_wp2_with (go_at_call 115;refine(C.out).mono ?_;rintro e w' ⟨rfl,a⟩;have a:=a.symm;subst a)
   go_ret;rw[E.out]
   exact⟨Z,g.out,Zw.refl _ _⟩
 | true =>
   obtain⟨k,rfl,j,l⟩:=QbU hh
   have E:Hid (Qfu L (k:Int)=L.set k false):=by show _=_;simp[Qfu,hh]
   have g:Hid (Qz (w.setCell ⟨b,k,none⟩ (.bool false)) b (L.set k false)):=h.setMark j false;have n:Hid (Zw (fun k=>k=b) (fun k=>k=b) w (w.setCell ⟨b,k,none⟩ (.bool false))):=Qfy (Zw.refl _ _) _ _;have c:k<16:=by have:=h.1;omega
   have d:(k:Int)<16:=by omega
   have m:=h.mark c;have f:∀ i,w.frozen? ⟨b,i,none⟩=false:=h.2.frozen;rw[hh] at C
   generalize L.getD k false=q at m;clear h hh l;go_enter func111,ntmps111
   go_wp2_with (go_at_call 115;refine(C.out).mono ?_;rintro e w' ⟨rfl,a⟩;have a:=a.symm;subst a)
   go_ret;rw[E.out]
   exact⟨Z,g.out,n.out⟩
theorem Qiv (w:World):Qz (w.alloc (.cells #[.bool false,.bool false,.bool false,.bool false,.bool false,.bool false,.bool false,.bool false,.bool false,.bool false,.bool false,.bool false,.bool false,.bool false,.bool false,.bool false,.int .i64 0] 73)) w.heap.size []:=by
 refine⟨by simp,World.rowIs_alloc w _ _ _ fun i a=>?_⟩
 have a:i<17:=a;unfold QgR;match i,a with
 | 0,_ | 1,_ | 2,_ | 3,_ | 4,_ | 5,_ | 6,_ | 7,_ | 8,_ | 9,_ | 10,_ | 11,_ | 12,_ | 13,_ | 14,_ | 15,_ | 16,_=>rfl
 | i+17,h=>exact absurd h (by omega)
theorem QjK (w:World) (n:Int) (x:-9223372036854775808<=n/\n<=9223372036854775807) :
 Calls prog 29 #[.int .i64 n] w fun e w'=>e=.returned (.pointer (some ⟨w.heap.size,0,none⟩))/\Qz w' w.heap.size (QcY n)/\Below w.heap.size w w':=by
 have Z:Hid (Qz (w.alloc (.cells #[.bool false,.bool false,.bool false,.bool false,.bool false,.bool false,.bool false,.bool false,.bool false,.bool false,.bool false,.bool false,.bool false,.bool false,.bool false,.bool false,.int .i64 0] 73)) w.heap.size []):=Qiv w;obtain⟨M,u⟩:∃ M,(min n 16).toNat=M:=⟨_,Yz⟩
 have E:Hid (QcY n=List.replicate M true):=by show _=_;rw[QcY,u]
 have l:∀ k:Nat,k<M->(k:Int)<n/\(k:Int)<16:=fun k j=>by omega
 have q:∀ k:Nat,¬ k<M->¬ (k:Int)<n\/¬ (k:Int)<16:=fun k j=>by omega
 go_enter func29,ntmps29
 by_cases r:16<n
 ·have p:M=16:=by omega
  go_wp2
  go_loopw [8] (fun i wr=>∃ k:Nat,k<=M/\i=.int .i64 k/\Qz wr w.heap.size (List.replicate k true)/\Below w.heap.size w wr) (fun i _=>M - (intOf i).toNat)
  case atStart=>exact⟨0,Xb _,Yz,Z.out,Zr.alloc Ze _⟩
  case round =>
   obtain⟨k,j,rfl,o,h⟩:=hrel
   have d:Hid (Qz wr w.heap.size (List.replicate k true)):=o;have c:Hid (Below w.heap.size w wr):=h;clear o h Z;by_cases f:k<M
   ·obtain⟨v,s⟩:=l k f
    go_wp2_with fail
    refine(Qc5 d.out).mono ?_
    rintro e m ⟨rfl,b,a⟩
    have R:Hid (Qz m w.heap.size (List.replicate (k+1) true)/\Below w.heap.size w m):=by
     refine⟨by rw[<-Qfc (by omega)];exact b,c.out.trans (a.below c.out.size fun k j=>by omega)⟩
    clear b a d c;go_wp2
    go_roundw
    case rel=>exact⟨k+1,by omega,by go_num,R.out⟩
    case measure=>simp[intOf];omega
   ·have t:¬ (k:Int)<16:=by omega
    have g:k=M:=by omega
    go_wp2
    go_ret;refine⟨Yz,?_,c.out⟩
    rw[E.out,<-g];exact d.out
 ·go_wp2
  go_loopw [8] (fun i wr=>∃ k:Nat,k<=M/\i=.int .i64 k/\Qz wr w.heap.size (List.replicate k true)/\Below w.heap.size w wr) (fun i _=>M - (intOf i).toNat)
  case atStart=>exact⟨0,Xb _,Yz,Z.out,Zr.alloc Ze _⟩
  case round =>
   obtain⟨k,j,rfl,o,h⟩:=hrel
   have d:Hid (Qz wr w.heap.size (List.replicate k true)):=o;have c:Hid (Below w.heap.size w wr):=h;clear o h Z;by_cases f:k<M
   ·obtain⟨v,s⟩:=l k f
    go_wp2_with fail
    refine(Qc5 d.out).mono ?_
    rintro e m ⟨rfl,b,a⟩
    have R:Hid (Qz m w.heap.size (List.replicate (k+1) true)/\Below w.heap.size w m):=by
     refine⟨by rw[<-Qfc (by omega)];exact b,c.out.trans (a.below c.out.size fun k j=>by omega)⟩
    clear b a d c;go_wp2
    go_roundw
    case rel=>exact⟨k+1,by omega,by go_num,R.out⟩
    case measure=>simp[intOf];omega
   ·have t:¬ (k:Int)<n:=by omega
    have g:k=M:=by omega
    go_wp2
    go_ret;refine⟨Yz,?_,c.out⟩
    rw[E.out,<-g];exact d.out
theorem under16:prog.underlying 71=some (.array 16 4):=by kernel_rfl
theorem underB:prog.underlying 4=some .bool:=by kernel_rfl
theorem sizeB:(prog.info? 4).map (·.size)=some 1:=by kernel_rfl
theorem size16:(prog.info? 71).map (·.size)=some 16:=by kernel_rfl
theorem QbH {b w9:World}{xs:List Int}(l:ZI Lay.int 3 b lo (.slice a xs.length c) xs cs) (h:-9223372036854775808<=x/\x<=9223372036854775807){o:Obj}(d:lo<=b.heap.size)
 (i:w9.ownsRow lo 3 1 (.slice (some ⟨g,0,none⟩) (xs.length+1) cap) (xs.length+1) (cs++[.int .i64 x])) (f:(b.alloc o).grownBy w9 (Value.slice a xs.length c).ownBlock) (p:(Value.slice a xs.length c).ownBlock=some g\/g=b.heap.size+1) :
 ZI Lay.int 3 w9 lo (.slice (some ⟨g,0,none⟩) (xs.length+1) cap) (xs++[x]) (cs++[.int .i64 x])/\∀ w,Below lo w b->Below lo w w9:=by
 have e:=l.below (QU b o);have m:Lay.int.In (b.alloc o) (fun g=>lo<=g/\(Value.slice a xs.length c).ownBlock≠some g) x [.int .i64 x]:=Lay.int_mk _ _ h;refine⟨ZI.push e m f (by simpa using p) i,fun w n=>(n.alloc d _).grown f (by simp;omega) (fun k j=>(e.lo_le j).1)⟩
def Qeo (w:World) (l:List Int) (e:Ending) (w':World):Prop:=∃ a c,e=.returned (.slice a l.length c)/\intsL.In w' (fun g=>w.heap.size<=g) l [.slice a l.length c]/\Below w.heap.size w w'
theorem Qih (h:Qz w b L) :
 Calls prog 10 #[.pointer (some ⟨b,0,none⟩)] w fun e w'=>Qeo w (hList L) e w':=by
 obtain⟨i0,hi,Q,T,R⟩:=pInfoI
 have V:w.rangeAt b 0 ((List.range 16).map fun i=>Value.bool (L.getD i false)):=fun j v A=>by
  rw[XS] at A
  cases hj:(List.range 16)[j]? with
  | none=>rw[hj] at A;cases A
  | some k =>
    have x:j<16:=by have:=(Zi hj).1;simpa using this
    rw[List.getElem?_range x] at hj
    cases hj
    rw[List.getElem?_range x] at A
    simp only[Option.map_some,Option.some.injEq] at A
    rw[<-A,XK]
    exact h.mark x
 have E:Hid (hTo L 16=hList L):=Qk9 L 16 h.1
 have o:∀ (k:Nat) (l:World),k<16->(Instr.index 71 (.agg ((List.range 16).map fun i=>Value.bool (L.getD i false)).toArray) (.int .i64 (k:Int))).run prog l=.ok (.bool (L.getD k false)) l:=fun k l hk=>by
  have hp:(part 4 ((List.range 16).map fun i=>Value.bool (L.getD i false)).toArray (k*1)).run prog l=.ok (.bool (L.getD k false)) l:=by
   have hc:((List.range 16).map fun i=>Value.bool (L.getD i false)).toArray[k*1]?=some (.bool (L.getD k false)):=by
    simp[hk]
   simp only[part,isAgg,Sem.run_bind,run_underlying underB,Result.andThen_ok,Sem.run_pure,Bool.false_eq_true,if_false,hc]
  have t:(sizeOf 4).run prog l=.ok 1 l:=by
   have M:=sizeB
   cases hq:prog.info? 4 with
   | none=>simp[hq] at M
   | some i=>simp[hq] at M;simp[sizeOf,typeInfo,hq,M]
  have O:(0:Int)<=(k:Int)/\(k:Int)<(16:Nat):=by omega
  simp only[Instr.index,asIntOf,Sem.run_bind,Sem.run_pure,run_underlying under16,Result.andThen_ok,O,and_self,if_true,t,Int.toNat_natCast,hp]
 have HS:Hid ((prog.info? 71).map (·.size)=some ((List.range 16).map fun i=>Value.bool (L.getD i false)).length):=by show _=_;rw[XN,List.length_range];exact size16
 have X:Hid (w.rangeAt b 0 ((List.range 16).map fun i=>Value.bool (L.getD i false))):=V;generalize ((List.range 16).map fun i=>Value.bool (L.getD i false))=K at V o X HS;clear V;clear h;go_enter func10,ntmps10
 go_wp2_with (refine wpList_load_mid Yz 71 (.tmp 8) Yz b 0 Yz K _ X.out under16 Yz HS.out ?_)
 go_loopw [3,10] (fun v u wr=>∃ k r,u=.int .i64 (k:Nat)/\k<=16/\ZI Lay.int 3 wr w.heap.size v (hTo L k) r/\Below w.heap.size w wr) (fun _ u _=>16 - (intOf u).toNat)
 case atStart=>exact⟨0,[],Yz,by omega,ZI.nil _ _ _ _,Zr⟩
 case round =>
  obtain⟨k,r,rfl,hk,U,N⟩:=hrel
  obtain⟨a,c,rfl⟩:=U.formP
  have z:Hid (ZI Lay.int 3 wr w.heap.size (.slice a (hTo L k).length c) (hTo L k) r):=U;have B:Hid (Below w.heap.size w wr):=N;have q:=QfR L k;have t:w.heap.size<=wr.heap.size:=N.size;clear U N;by_cases S:k<16
  ·have aa:(k:Int)<16:=by omega
   have p:=fun l=>o k l S;clear o
   cases hm:L.getD k false with
   | false =>
     have D:Hid (hTo L (k+1)=hTo L k):=by show _=_;rw[hTo,hm];simp
     rw[hm] at p
     clear hm;go_wp2
     go_roundw
     case rel=>exact⟨k+1,r,by go_num,by omega,by rw[D.out];exact z.out,B.out⟩
     case measure=>simp[intOf];omega
   | true =>
     have D:Hid (hTo L (k+1)=hTo L k++[(k:Int)]):=by show _=_;rw[hTo,hm];simp
     rw[hm] at p
     have d:Hid (wr.ownsRow w.heap.size 3 1 (.slice a (hTo L k).length c) (hTo L k).length r):=z.out.own
     have P:Hid (∀ g y m,m.ownsRow w.heap.size 3 1 (.slice (some ⟨g,0,none⟩) ((hTo L k).length+1) y) ((hTo L k).length+1) (r++[.int .i64 (k:Int)])->(wr.alloc (.cells #[.int .i64 (k:Int)] 3)).grownBy m (Value.slice a (hTo L k).length c).ownBlock->((Value.slice a (hTo L k).length c).ownBlock=some g\/g=wr.heap.size+1) ->
      ZI Lay.int 3 m w.heap.size (.slice (some ⟨g,0,none⟩) ((hTo L k).length+1) y) (hTo L (k+1)) (r++[.int .i64 (k:Int)])/\Below w.heap.size w m):=by
      intro g y m J h2 h3;obtain⟨H,I⟩:=QbH z.out (by omega) t J h2 h3
      rw[D.out]
      exact⟨H,I w B.out⟩
     have EL:Hid ((hTo L (k+1)).length=(hTo L k).length+1):=by show _=_;rw[D.out];simp
     clear hm z B D;generalize (hTo L k).length=n at d P EL q |-;go_wp2_with (at_builtin;refine wpList_append_lies _ Yz (.tmp 15) (.tmp 17) 35 Yz w.heap.size 3 i0 (.int .i64 0) 1 8 pUnderI hi Q T R Yz (by decide) _ _ _ Yz (d.out.alloc _) ⟨wr.heap.size,0,none⟩ 1 1 [.int .i64 (k:Int)] Yz Yz (QeJ _ [_] _) (Qkt _) (by decide) (by unfold maxLen;omega) (by omega) (by simp;omega) (wr.heap.size+1) (by simp) ?_)
     intro W s m J f C F;obtain⟨H,I⟩:=P.out W s m J f C
     have A9:Hid (ZI Lay.int 3 m w.heap.size (.slice (some ⟨W,0,none⟩) (n+1) s) (hTo L (k+1)) (r++[.int .i64 (k:Int)])):=H;have B9:Hid (Below w.heap.size w m):=I;clear J f C F d P H I;go_wp2
     go_roundw
     case rel=>exact⟨k+1,_,by go_num,by omega,A9.out,B9.out⟩
     case measure=>simp[intOf];omega
  ·have G:k=16:=by omega
   subst G
   have Z:Hid (Qeo w (hList L) (.returned (.slice a (hTo L 16).length c)) wr):=by
    rw[E.out]
    refine⟨a,c,Yz,?_,B.out⟩
    have:=z.out.lay
    rw[E.out] at this
    exact this
   clear z B o q;generalize (hTo L 16).length=n at Z;go_wp2
   go_ret;exact Z.out
theorem eqGuard16:prog.eqGuardType prog.depth 71=false:=by kernel_rfl
theorem QiK (f:Nat->Bool){c:Array Value}(d:c.size=16):((w.alloc (.cells c t)).setCells w.heap.size 0 ((List.range 16).map fun i=>Value.bool (f i)).toArray.toList).rowIs w.heap.size t 16 (fun i=>.bool (f i)):=by
 have b:Blk (w.alloc (.cells c t)) w.heap.size ([]++c.toList).toArray t:=by rw[List.nil_append,Array.toArray_toList];exact Qm w c t
 have a:=Blk.sets ((List.range 16).map fun i=>Value.bool (f i)) [] c.toList (w.alloc (.cells c t)) (by simp[d]) b;refine⟨_,a,by simp,fun i e=>?_⟩
 simp[e]
theorem Qfz {f:Nat->Bool}(h:w.rowIs b t 16 (fun i=>.bool (f i))):w.rangeAt b 0 ((List.range 16).map fun i=>Value.bool (f i)):=fun j v c=>by
 rw[XS] at c
 cases hj:(List.range 16)[j]? with
 | none=>rw[hj] at c;cases c
 | some k =>
   have a:j<16:=by have:=(Zi hj).1;simpa using this
   rw[List.getElem?_range a] at hj
   cases hj
   rw[List.getElem?_range a] at c
   simp only[Option.map_some,Option.some.injEq] at c
   rw[<-c,XK]
   exact h.cell a
theorem Qz.marks (h:Qz w b L):w.rangeAt b 0 ((List.range 16).map fun i=>Value.bool (L.getD i false)):=fun j v c=>by
 rw[XS] at c
 cases hj:(List.range 16)[j]? with
 | none=>rw[hj] at c;cases c
 | some k =>
   have a:j<16:=by have:=(Zi hj).1;simpa using this
   rw[List.getElem?_range a] at hj
   cases hj
   rw[List.getElem?_range a] at c
   simp only[Option.map_some,Option.some.injEq] at c
   rw[<-c,XK]
   exact h.mark a
theorem QiQ (f:Nat->Bool):((List.range 16).map fun i=>Value.bool (f i)).toArray.all (·.oneCell')=true :=
 all_oneCell_toArray fun v a=>by obtain⟨i,_,rfl⟩:=List.mem_map.1 a;rfl
theorem QhT (w:World) (t:TypeId) (c:Array Value) (n:Nat) (a:n<=c.size):(w.alloc (.cells c t)).there w.heap.size 0 n:=fun j b=>by
 have h:=Qm w c t;rw[XK]
 refine⟨?_,Qn h j⟩
 rw[Qb h j c[j] (by simp)];rfl
theorem Qir (hN:l.length=N) (ac:N<=100000) (hl:intsL.In w Q l [.slice a N c]) (h:Qz w b L) :
 Calls prog 144 #[.pointer (some ⟨b,0,none⟩),.slice a N c] w fun e w'=>e=.returned (.int .i64 (hPass L [] l))/\Below w.heap.size w w':=by
 have HX:Hid (∀ i x,l[i]?=some x->∃ g o,a=some ⟨g,o,none⟩/\g<w.heap.size/\w.cell? ⟨g,o+i,none⟩=some (.int .i64 x)):=fun i x A=>by
  obtain⟨g,o,ds,e1,e2,e3,hc,hd,hr⟩:=Yf hl A
  have aa:ds=[.int .i64 x]:=hd;subst aa;refine⟨g,o,e1,e3,?_⟩
  have:=hc 0 (by decide)
  simpa[Lay.int] using this
 have V:Hid (l.length=N):=hN;have HL:Hid (L.length<=16):=h.1;have HH:Hid (Qz w b L):=h
 have t:Hid (w.rangeAt b 0 ((List.range 16).map fun i=>Value.bool (Z2 L [] i))):=by
  have:=h.marks
  simp only[<-QiA] at this
  exact this
 have B:Hid ((prog.info? 71).map (·.size)=some ((List.range 16).map fun i=>Value.bool (Z2 L [] i)).length):=by show _=_;rw[XN,List.length_range];exact size16
 have S:Hid ((prog.info? 71).map (·.size)=some ((List.range 16).map fun i=>Value.bool (Z2 L [] i)).toArray.size):=by show _=_;rw[List.size_toArray,XN,List.length_range];exact size16
 have R:Hid (((List.range 16).map fun i=>Value.bool (Z2 L [] i)).toArray.all (·.oneCell')=true):=QiQ _
 have U:Hid ((w.alloc (.cells #[.bool false,.bool false,.bool false,.bool false,.bool false,.bool false,.bool false,.bool false,.bool false,.bool false,.bool false,.bool false,.bool false,.bool false,.bool false,.bool false] 71)).there w.heap.size 0 ((List.range 16).map fun i=>Value.bool (Z2 L [] i)).toArray.size):=by
  refine QhT w _ _ _ ?_;rw[List.size_toArray,XN,List.length_range]
  exact Ze
 have M:Hid (((w.alloc (.cells #[.bool false,.bool false,.bool false,.bool false,.bool false,.bool false,.bool false,.bool false,.bool false,.bool false,.bool false,.bool false,.bool false,.bool false,.bool false,.bool false] 71)).setCells w.heap.size 0 ((List.range 16).map fun i=>Value.bool (Z2 L [] i)).toArray.toList).rowIs w.heap.size 71 16 (fun i=>.bool (Z2 L [] i))):=QiK _ Z
 have T:Hid (Below w.heap.size w ((w.alloc (.cells #[.bool false,.bool false,.bool false,.bool false,.bool false,.bool false,.bool false,.bool false,.bool false,.bool false,.bool false,.bool false,.bool false,.bool false,.bool false,.bool false] 71)).setCells w.heap.size 0 ((List.range 16).map fun i=>Value.bool (Z2 L [] i)).toArray.toList)):=by
  have:=Zw.setCells (O:=fun k=>k=w.heap.size) (O':=fun k=>k=w.heap.size) (b:=w.heap.size) Z ((List.range 16).map fun i=>Value.bool (Z2 L [] i)).toArray.toList 0 _ ((Zw.refl _ w).alloc (.cells #[.bool false,.bool false,.bool false,.bool false,.bool false,.bool false,.bool false,.bool false,.bool false,.bool false,.bool false,.bool false,.bool false,.bool false,.bool false,.bool false] 71))
  exact this.below Ze (fun k hk=>by omega)
 clear h hl hN;generalize ((List.range 16).map fun i=>Value.bool (Z2 L [] i))=m at t B S R U M T;go_enter func144,ntmps144
 go_wp2_with (first | (refine wpList_load_mid Z 71 (.tmp 10) Z b 0 Z m _ t.out under16 Z B.out ?_) | (refine wpList_store_mid Z 71 (.tmp 5) (.tmp 11) Z w.heap.size 0 m.toArray Z Z U.out S.out R.out ?_))
 go_loopw [14] (fun u wr=>∃ k,u=.int .i64 (k:Nat)/\k<=N/\wr.rowIs w.heap.size 71 16 (fun i=>.bool (Z2 L (l.take k) i))/\Below w.heap.size w wr/\hPass L [] l=hPass L (l.take k) (l.drop k)) (fun u _=>N - (intOf u).toNat)
 case atStart=>exact⟨0,Z,Xb _,M.out,T.out,Z⟩
 case round =>
  obtain⟨k,rfl,hk,hr,hB,hp⟩:=hrel
  have D:Hid (wr.rowIs w.heap.size 71 16 (fun i=>.bool (Z2 L (l.take k) i))):=hr;have s:Hid (Below w.heap.size w wr):=hB;have K:Hid (hPass L [] l=hPass L (l.take k) (l.drop k)):=hp;clear hr hB hp M T t B S R U;by_cases G:k<N
  ·have f:l[k]?=some (l[k]'(by rw[V.out];exact G)):=Zg _;generalize l[k]'(by rw[V.out];exact G)=x at f;obtain⟨g,o,rfl,hg,J⟩:=HX.out k x f
   have ab:wr.cell? ⟨g,o+k,none⟩=some (.int .i64 x):=(s.out.cell (p:=⟨g,o+k,none⟩) hg).trans J;have F:(k:Int)<N:=by omega
   have q:=Qd6 L l f;rw[<-K.out] at q
   have C:Hid (Calls prog 115 #[.pointer (some ⟨b,0,none⟩),.int .i64 x] wr fun e w'=>e=.returned (.bool (hHas L x))/\w'=wr):=QcS x (HH.out.below s.out)
   cases hh:hHas L x with
   | false =>
     rw[hh] at C q
     have E:Hid (hPass L [] l=10):=by show _=_;simpa using q
     clear q hh J f;go_wp2_with (go_at_call 115;refine(C.out).mono ?_;rintro e w' ⟨rfl,n⟩;have n:=n.symm;subst n)
     go_ret;exact⟨by rw[E.out];rfl,s.out⟩
   | true =>
     obtain⟨j,rfl,hj,hm⟩:=QbU hh
     rw[hh] at C q
     have H:j<16:=by have:=HL.out;omega
     have P:(j:Int)<16:=by omega
     have W:wr.cell? ⟨w.heap.size,j,none⟩=some (.bool (Z2 L (l.take k) j)):=D.out.cell H;have fj:∀ i,wr.frozen? ⟨w.heap.size,i,none⟩=false:=D.out.frozen;have X:Z2 L (l.take k) j=!inB (l.take k) (j:Int):=by rw[Z2,hm,Bool.true_and]
     rw[X] at W
     cases A:inB (l.take k) (j:Int) with
     | true =>
       rw[A] at q W
       have E:Hid (hPass L [] l=13):=by show _=_;simpa using q
       clear q hh J f X A hm;go_wp2_with (go_at_call 115;refine(C.out).mono ?_;rintro e w' ⟨rfl,n⟩;have n:=n.symm;subst n)
       go_ret;exact⟨by rw[E.out];rfl,s.out⟩
     | false =>
       rw[A] at q W
       have E:Hid (hPass L [] l=hPass L (l.take (k+1)) (l.drop (k+1))):=by show _=_;simpa using q
       have ET:l.take (k+1)=l.take k++[(j:Int)]:=by rw[XV,f];rfl
       have RN:Hid ((wr.setCell ⟨w.heap.size,j,none⟩ (.bool false)).rowIs w.heap.size 71 16 (fun i=>.bool (Z2 L (l.take (k+1)) i))):=by
        refine(D.out.set j (.bool false)).congr fun i A=>?_
        rw[ET,Qhm]
        by_cases e:i=j
        ·rw[Xs e,Xs e]
        ·rw[Xr e,Xr e]
       have BN:Hid (Below w.heap.size w (wr.setCell ⟨w.heap.size,j,none⟩ (.bool false))):=s.out.setCell (p:=⟨w.heap.size,j,none⟩) Ze _;clear q hh J f X A hm ET D s K;go_wp2_with (go_at_call 115;refine(C.out).mono ?_;rintro e w' ⟨rfl,n⟩;have n:=n.symm;subst n)
       go_roundw
       case rel=>exact⟨k+1,by go_num,by omega,RN.out,BN.out,E.out⟩
       case measure=>simp[intOf];omega
  ·have F:¬ (k:Int)<N:=by omega
   have v:l.length<=k:=by rw[V.out];omega
   have z:=Qfr L l v;rw[<-K.out] at z
   have t:Hid (wr.rangeAt w.heap.size 0 ((List.range 16).map fun i=>Value.bool (Z2 L (l.take k) i))):=Qfz D.out;rw[XO v] at t
   have B:Hid ((prog.info? 71).map (·.size)=some ((List.range 16).map fun i=>Value.bool (Z2 L l i)).length):=by show _=_;rw[XN,List.length_range];exact size16
   have y:∀ I,(Op.equalIn 10000 71 (.agg ((List.range 16).map fun i=>Value.bool (Z2 L l i)).toArray) (.agg #[.bool false,.bool false,.bool false,.bool false,.bool false,.bool false,.bool false,.bool false,.bool false,.bool false,.bool false,.bool false,.bool false,.bool false,.bool false,.bool false])).run prog I=.ok ((hList L).all (fun r=>inB l r)) I:=fun I=>by
    have:=Qcq (d:=9998) under16 underB sizeB I ((List.range 16).map (Z2 L l)) (List.replicate 16 false) (by simp) (by simp)
    rw[List.map_map] at this
    refine Eq.trans this ?_;congr 1
    rw[Bool.eq_iff_iff,beq_iff_eq]
    exact Qhf HL.out
   generalize ((List.range 16).map fun i=>Value.bool (Z2 L l i))=m at t B y;have ad:=eqGuard16;clear K D HX v
   cases hq:(hList L).all (fun r=>inB l r) with
   | true =>
     rw[hq] at y z
     have E:Hid (hPass L [] l=0):=by show _=_;simpa using z
     clear z hq;go_wp2_with (refine wpList_load_mid Z 71 (.tmp 5) Z w.heap.size 0 Z m _ t.out under16 Z B.out ?_)
     go_ret;exact⟨by rw[E.out];rfl,s.out⟩
   | false =>
     rw[hq] at y z
     have E:Hid (hPass L [] l=12):=by show _=_;simpa using z
     clear z hq;go_wp2_with (refine wpList_load_mid Z 71 (.tmp 5) Z w.heap.size 0 Z m _ t.out under16 Z B.out ?_)
     go_ret;exact⟨by rw[E.out];rfl,s.out⟩
theorem Qg {a:World}(h:Below B a w) (n:Nat):Below B a (w.drewN n):=⟨h.os,h.tape,h.output,h.size,h.block⟩
theorem Qa {p:Prop}(h:p):Hid p:=h
def QeI (w:World) (O:Nat->Prop) (t:TypeId) (v:Value) (vs:List Value):Prop:=w.ownsRow 0 t 1 v vs.length vs/\∀ g,v.ownBlock=some g->O g
section
variable {w w':World}{O O':Nat->Prop}{t:TypeId}{v:Value}{vs:List Value}
theorem QeI.nil (w:World) (O:Nat->Prop) (t:TypeId):QeI w O t (.slice none 0 0) []:=⟨⟨Z,Or.inl ⟨Z,Z⟩⟩,by simp[Value.ownBlock]⟩
theorem QeI.form (h:QeI w O t v vs):∃ a cap,v=.slice a vs.length cap/\(∀ i,i<vs.length->∃ g,a=some ⟨g,0,none⟩/\O g/\w.cell? ⟨g,i,none⟩=vs[i]?/\w.frozen? ⟨g,i,none⟩=false):=by
 obtain⟨⟨n,f⟩,k⟩:=h
 rcases f with ⟨rfl,j⟩|⟨g,cap,b,rfl,_,c,o,m,p,l⟩
 ·rw[j]
  exact⟨none,0,Z,fun i e=>by omega⟩
 ·refine⟨some ⟨g,0,none⟩,cap,Z,fun i e=>⟨g,Z,k g Z,?_,Qn c i⟩⟩
  have d:i<b.size:=by omega
  rw[Qb c i b[i] (by simp),<-l,XR,Xs (by omega),Array.getElem?_toList,Xj d]
theorem QeI.keep (h:QeI w O t v vs) (i:∀ g,v.ownBlock=some g->w'.heap[g]?=w.heap[g]?) (e:∀ g,v.ownBlock=some g->O' g):QeI w' O' t v vs:=by
 obtain⟨⟨c,d⟩,l⟩:=h
 refine⟨⟨c,?_⟩,e⟩
 rcases d with j | ⟨g,a,b,rfl,k,f,r⟩
 ·exact Or.inl j
 ·exact Or.inr ⟨g,a,b,Z,k,(i g Z).trans f,r⟩
theorem QeI.block (h:QeI w O t v vs)(a:v.ownBlock=some g):∃ c,w.heap[g]?=some (.cells c t (0,0)):=by
 obtain⟨⟨k,d⟩,j⟩:=h
 rcases d with ⟨rfl,_⟩|⟨i,e,b,rfl,_,f,r⟩
 ·simp[Value.ownBlock] at a
 ·simp[Value.ownBlock] at a;subst a;exact⟨b,f⟩
theorem QeI.lt (h:QeI w O t v vs)(b:v.ownBlock=some g):g<w.heap.size:=by
 obtain⟨c,a⟩:=h.block b
 exact XC a
theorem QeI.set (h:QeI w O t (.slice (some ⟨g,0,none⟩) n cap) vs) (i:Nat) (u:Value):QeI (w.setCell ⟨g,i,none⟩ u) O t (.slice (some ⟨g,0,none⟩) n cap) (vs.set i u):=by
 obtain⟨⟨p,d⟩,c⟩:=h
 rcases d with ⟨e,_⟩|⟨o,b,a,e,q,k,f,l,j,m⟩
 ·cases e
 ·cases e
  refine⟨⟨by simp,Or.inr ⟨g,cap,a.setIfInBounds i u,by simp,Xb _,Qq k i u,by simpa using f,l,by simpa using j,?_⟩⟩,c⟩
  rw[Array.toList_setIfInBounds,List.length_set,List.take_set,m]
end
def Qr (w:World) (b:Nat) (O:Nat->Prop) (L:List Bool):Prop :=
 ∃ v,w.heap[b]?=some (.cells #[v] 119 (0,0))/\QeI w O 4 v (L.map Value.bool)/\O b
section
variable {w w':World}{b:Nat}{O O' P P':Nat->Prop}{L:List Bool}
theorem Qr.keep (h:Qr w b O L) (f:∀ g,O g->g<w.heap.size->w'.heap[g]?=w.heap[g]?) (e:∀ g,O g->g<w.heap.size->O' g):Qr w' b O' L:=by
 obtain⟨v,d,a,i⟩:=h
 exact⟨v,(f b i (XC d)).trans d,a.keep (fun g c=>f g (a.2 g c) (a.lt c)) (fun g c=>e g (a.2 g c) (a.lt c)),e b i (XC d)⟩
theorem Qr.below (h:Qr w b O L) (k:Below w.heap.size w w'):Qr w' b O L:=h.keep (fun g _ a=>k.block g a) (fun g a _=>a)
theorem Qr.step (h:Qr w b O L) (k:Zw P P' w w') (c:∀ x,O x->¬ P x):Qr w' b O L:=h.keep (fun g d a=>k.block g a (c g d)) (fun g a _=>a)
theorem Qr.mono (h:Qr w b O L) (a:∀ g,O g->O' g):Qr w b O' L:=h.keep (fun _ _ _=>rfl) (fun g c _=>a g c)
theorem Qr.lt (h:Qr w b O L):b<w.heap.size:=by obtain⟨v,a,d,c⟩:=h;exact XC a
theorem Qr.cells (h:Qr w b O L):∃ a cap,w.cell? ⟨b,0,none⟩=some (.slice a L.length cap)/\w.frozen? ⟨b,0,none⟩=false/\w.ownsRow 0 4 1 (.slice a L.length cap) L.length (L.map Value.bool) /\
 ∀ i,i<L.length->∃ g,a=some ⟨g,0,none⟩/\O g/\w.cell? ⟨g,i,none⟩=some (.bool (L.getD i false))/\w.frozen? ⟨g,i,none⟩=false/\∀ u,Qr (w.setCell ⟨g,i,none⟩ (.bool u)) b O (L.set i u):=by
 obtain⟨v,d,e,n⟩:=h
 obtain⟨a,cap,rfl,l⟩:=e.form
 rw[XN] at d e l
 have k:=e.1;rw[XN] at k
 refine⟨a,cap,Qb d 0 _ Z,Qn d 0,k,fun i j=>?_⟩
 obtain⟨g,rfl,p,m,o⟩:=l i j
 refine⟨g,Z,p,?_,o,fun u=>⟨.slice (some ⟨g,0,none⟩) L.length cap,?_,?_,n⟩⟩
 ·rw[m,XS,Zg j];simp[List.getD,j]
 ·obtain⟨c,f⟩:=e.block (g:=g) Z
  rw[Xd _ _ _ _ (ZG d f (by decide))];exact d
 ·rw[List.map_set];exact e.set i (.bool u)
theorem Qr.push (h:Qr w b O L){cap2:Nat}{o:Obj}{w9:World}(z:w.cell? ⟨b,0,none⟩=some (.slice a L.length cap))
 (B:w9.ownsRow 0 4 1 (.slice (some ⟨g,0,none⟩) (L.length+1) cap2) (L.length+1) (L.map Value.bool++[.bool true])) (f:(w.alloc o).grownBy w9 (Value.slice a L.length cap).ownBlock) (y:(Value.slice a L.length cap).ownBlock=some g\/g=w.heap.size+1) (C:g<w9.heap.size) :
 w9.cell? ⟨b,0,none⟩=some (.slice a L.length cap)/\w9.frozen? ⟨b,0,none⟩=false /\
 Qr (w9.setCell ⟨b,0,none⟩ (.slice (some ⟨g,0,none⟩) (L.length+1) cap2)) b (fun x=>O x\/(w.heap.size<=x/\x<w9.heap.size)) (L++[true])/\Zw O (fun x=>O x\/(w.heap.size<=x/\x<w9.heap.size)) w (w9.setCell ⟨b,0,none⟩ (.slice (some ⟨g,0,none⟩) (L.length+1) cap2)):=by
 obtain⟨v,l,s,t⟩:=h
 have e:=Qb l 0 _ Z;rw[z] at e
 simp only[Option.some.injEq] at e
 subst e;have n:b<w.heap.size:=XC l
 have j:∀ i,(Value.slice a L.length cap).ownBlock=some i->b≠i:=fun i d=>by
  obtain⟨c,A⟩:=s.block d
  exact ZG l A (by decide)
 have p:w9.heap[b]?=some (.cells #[.slice a L.length cap] 119 (0,0)):=by
  have:=f.block b (by simp;omega) (fun e=>j b e.symm Z)
  rw[this,Below.heap_alloc _ _ _ n];exact l
 have r:b≠g:=by
  rcases y with h | h
  ·exact j g h
  ·omega
 have m:=f.size;simp only[World.size_alloc] at m
 refine⟨Qb p 0 _ Z,Qn p 0,⟨.slice (some ⟨g,0,none⟩) (L.length+1) cap2,?_,⟨?_,fun i d=>?_⟩,.inl t⟩,?_⟩
 ·rw[Qq p];rfl
 ·have:QeI w9 (fun _=>True) 4 (.slice (some ⟨g,0,none⟩) (L.length+1) cap2) ((L++[true]).map Value.bool):=⟨by simpa using B,fun _ _=>trivial⟩
  exact(this.keep (w':=w9.setCell ⟨b,0,none⟩ (.slice (some ⟨g,0,none⟩) (L.length+1) cap2)) (O':=fun _=>True) (fun i d=>Xd _ _ _ _ (by simp[Value.ownBlock] at d;subst d;exact fun e=>r e.symm)) (fun _ _=>trivial)).1
 ·simp[Value.ownBlock] at d
  subst d;rcases y with h | h
  ·exact .inl (s.2 _ h)
  ·exact .inr ⟨by omega,C⟩
 ·refine⟨f.os,f.tape,f.output,by simp;omega,fun k q u=>?_,fun k q=>q.imp id fun h=>h.1⟩
  rw[Xd _ _ _ _ (fun e=>u (by subst e;exact t)),f.block k (by simp;omega) (fun e=>u (s.2 k e.symm)),Below.heap_alloc _ _ _ q]
end
theorem QdC (r:Int) (l:L.length<=100000) (h:Qr w b O L) :
 Calls prog 121 #[.pointer (some ⟨b,0,none⟩),.int .i64 r] w fun e w'=>e=.returned (.bool (hHas L r))/\w'=w:=by
 obtain⟨a,s,f,-,-,c⟩:=h.cells
 by_cases d:0<=r
 ·by_cases i:r<L.length
  ·obtain⟨k,rfl⟩:=Xc d
   obtain⟨g,rfl,-,m,-,-⟩:=c k (by omega)
   have E:Hid (hHas L (k:Int)=L.getD k false):=Qbq L k;have p:k<L.length:=by omega
   clear h c;generalize L.getD k false=q at m E;generalize L.length=n at f i p l;go_enter func121,ntmps121
   go_wp2
   go_ret;exact⟨by rw[E.out];rfl,Z⟩
  ·have E:Hid (hHas L r=false):=by
    show _=_;obtain⟨k,rfl⟩:=Xc d
    rw[Qbq,QbF L (by omega)]
   have j:decide (r<(L.length:Int))=false:=by simpa using i
   clear h c;generalize L.length=n at f i j l;go_enter func121,ntmps121
   go_wp2
   go_ret;exact⟨by rw[E.out];rfl,Z⟩
 ·have E:Hid (hHas L r=false):=by show _=_;simp[hHas,d]
  have o:decide (0<=r)=false:=by simpa using d
  clear h c;generalize L.length=n at f l;go_enter func121,ntmps121
  go_wp2
  go_ret;exact⟨by rw[E.out];rfl,Z⟩
theorem hUnderB:prog.underlying 117=some (.slice 4):=by kernel_rfl
theorem hInfoB0:(prog.info? 4).map (fun i=>(i.zero,i.size,i.bytes))=some (some (.bool false),1,1):=by kernel_rfl
theorem hInfoB:∃ i,prog.info? 4=some i/\i.zero=some (.bool false)/\i.size=1/\i.bytes=1:=by
 have h:=hInfoB0
 cases e:prog.info? 4 with
 | none=>rw[e] at h;cases h
 | some i =>
   rw[e] at h
   simp only[Option.map_some,Option.some.injEq,Prod.mk.injEq] at h
   exact⟨i,Z,h.1,h.2.1,h.2.2⟩
theorem QkV (q:Bool):∀ u∈[Value.bool q],u.oneCell'=true:=by
 intro u h;simp at h
 subst h;rfl
theorem Qfn (w:World) (n:Int) :
 Calls prog 79 #[.int .i64 n] w fun e w'=>e=.returned (.pointer (some ⟨w.heap.size,0,none⟩))/\Qr w' w.heap.size (fun x=>w.heap.size<=x/\x<w'.heap.size) (QcY n)/\Below w.heap.size w w':=by
 obtain⟨P,N,t,v,u⟩:=hInfoB
 have Z:Hid (Qr (w.alloc (.cells #[.slice none 0 0] 119)) w.heap.size (fun x=>w.heap.size<=x/\x<(w.alloc (.cells #[.slice none 0 0] 119)).heap.size) []) :=
  ⟨.slice none 0 0,Qm _ _ _,QeI.nil _ _ _,by simp⟩
 obtain⟨M,Q⟩:∃ M,(min n 16).toNat=M:=⟨_,Yz⟩
 have E:Hid (QcY n=List.replicate M true):=by show _=_;rw[QcY,Q]
 go_enter func79,ntmps79
 go_wp2
 go_loopw [4] (fun i wr=>∃ k:Nat,k<=M/\i=.int .i64 k/\Qr wr w.heap.size (fun x=>w.heap.size<=x/\x<wr.heap.size) (List.replicate k true)/\Below w.heap.size w wr) (fun i _=>M - (intOf i).toNat)
 case atStart=>exact⟨0,Xb _,Yz,Z.out,Zr.alloc Ze _⟩
 case round =>
  obtain⟨k,D,rfl,A,C⟩:=hrel
  have f:Hid (Below w.heap.size w wr):=C;have s:Hid (Qr wr w.heap.size (fun x=>w.heap.size<=x/\x<wr.heap.size) (List.replicate k true)):=A;obtain⟨a,cap,q,U,j,-⟩:=A.cells
  have b:Hid (wr.ownsRow 0 4 1 (.slice a (List.replicate k true).length cap) (List.replicate k true).length ((List.replicate k true).map Value.bool)):=j;clear A C j Z;by_cases S:k<M
  ·have I:(k:Int)<n:=by omega
   have F:(k:Int)<16:=by omega
   have p:Hid (∀ g cap2 w9,w9.ownsRow 0 4 1 (.slice (some ⟨g,0,none⟩) (k+1) cap2) (k+1) ((List.replicate k true).map Value.bool++[.bool true])->(wr.alloc (.cells #[.bool true] 4)).grownBy w9 (Value.slice a k cap).ownBlock->((Value.slice a k cap).ownBlock=some g\/g=wr.heap.size+1)->g<w9.heap.size ->
    w9.cell? ⟨w.heap.size,0,none⟩=some (.slice a k cap)/\w9.frozen? ⟨w.heap.size,0,none⟩=false/\Qr (w9.setCell ⟨w.heap.size,0,none⟩ (.slice (some ⟨g,0,none⟩) (k+1) cap2)) w.heap.size (fun x=>w.heap.size<=x/\x<(w9.setCell ⟨w.heap.size,0,none⟩ (.slice (some ⟨g,0,none⟩) (k+1) cap2)).heap.size) (List.replicate (k+1) true)/\Below w.heap.size w (w9.setCell ⟨w.heap.size,0,none⟩ (.slice (some ⟨g,0,none⟩) (k+1) cap2))):=by
    intro g cap2 w9 l H T K;have r:=f.out.size;have z:=H.size;simp only[World.size_alloc] at z
    have:=s.out.push (a:=a) (cap:=cap) (cap2:=cap2) (g:=g) (o:=.cells #[.bool true] 4) (w9:=w9) q (by simpa using l) (by simpa using H) (by simpa using T) K
    simp only[List.length_replicate] at this
    refine⟨this.1,this.2.1,?_,f.out.trans (this.2.2.2.below r fun k D=>D.1)⟩
    rw[List.replicate_succ']
    refine this.2.2.1.mono fun x m=>?_;rw[World.size_setCell]
    rcases m with m | m<;>omega
   rw[List.length_replicate] at q b
   generalize (List.replicate k true).map Value.bool=X at b p;clear s f;go_wp2_with (at_builtin;refine wpList_append_lies _ Yz (.tmp 20) (.tmp 21) 117 Yz 0 4 P (.bool false) 1 1 hUnderB N t v u Yz (by decide) _ _ _ Yz (b.out.alloc _) ⟨wr.heap.size,0,none⟩ 1 1 [.bool true] Yz Yz (QeJ _ [_] _) (QkV _) (by decide) (by unfold maxLen;omega) (by omega) (by simp) (wr.heap.size+1) (by simp) ?_)
   intro J cap2 w9 l c h d;obtain⟨W,V,B,G⟩:=p.out J cap2 w9 l c h d
   have O:=Qa B;have L:=Qa G;clear l c h d b p B G q U;go_wp2
   go_roundw
   case rel=>exact⟨k+1,by omega,by go_num,O.out,L.out⟩
   case measure=>simp[intOf];omega
  ·have y:k=M:=by omega
   have R:Hid (Qr wr w.heap.size (fun x=>w.heap.size<=x/\x<wr.heap.size) (QcY n)):=by
    show Qr _ _ _ _;rw[E.out,<-y];exact s.out
   by_cases I:(k:Int)<n
   ·have F:decide ((k:Int)<16)=false:=by simp;omega
    go_wp2
    go_ret;exact⟨Yz,R.out,f.out⟩
   ·have F:decide ((k:Int)<n)=false:=by simpa using I
    go_wp2
    go_ret;exact⟨Yz,R.out,f.out⟩
theorem Qd4 (hL:L.length<=100000) (h:Qr w b O L) :
 Calls prog 86 #[.pointer (some ⟨b,0,none⟩)] w fun e w'=>Qeo w (hList L) e w':=by
 obtain⟨i0,R,S,U,T⟩:=pInfoI
 obtain⟨a0,y,P,-,-,X⟩:=h.cells
 have K:=h.lt
 have HC:Hid (∀ i,i<L.length->∃ g,a0=some ⟨g,0,none⟩/\g<w.heap.size/\w.cell? ⟨g,i,none⟩=some (.bool (L.getD i false))):=fun i R=>by
  obtain⟨g,e,-,A,-⟩:=X i R
  exact⟨g,e,Xi w ⟨g,i,none⟩ A,A⟩
 clear h X;go_enter func86,ntmps86
 go_wp2
 go_loopw [3,4] (fun v u wr=>∃ k r,u=.int .i64 (k:Nat)/\k<=L.length/\ZI Lay.int 3 wr w.heap.size v (hTo L k) r/\Below w.heap.size w wr) (fun _ u _=>L.length - (intOf u).toNat)
 case atStart=>exact⟨0,[],Yz,Xb _,ZI.nil _ _ _ _,Zr⟩
 case round =>
  obtain⟨k,r,rfl,hk,W,F⟩:=hrel
  obtain⟨a,c,rfl⟩:=W.formP
  have t:Hid (ZI Lay.int 3 wr w.heap.size (.slice a (hTo L k).length c) (hTo L k) r):=W;have s:Hid (Below w.heap.size w wr):=F;have l:=QfR L k;have Q:w.heap.size<=wr.heap.size:=F.size;have V:wr.cell? ⟨b,0,none⟩=some (.slice a0 L.length y):=(F.cell (p:=⟨b,0,none⟩) K).trans P;clear W F;by_cases C:k<L.length
  ·have j:(k:Int)<L.length:=by omega
   obtain⟨g,rfl,M,A⟩:=HC.out k C
   have x:wr.cell? ⟨g,k,none⟩=some (.bool (L.getD k false)):=(s.out.cell (p:=⟨g,k,none⟩) M).trans A;clear A P
   cases hm:L.getD k false with
   | false =>
     have G:Hid (hTo L (k+1)=hTo L k):=by show _=_;rw[hTo,hm];simp
     rw[hm] at x
     clear hm;go_wp2
     go_roundw
     case rel=>exact⟨k+1,r,by go_num,by omega,by rw[G.out];exact t.out,s.out⟩
     case measure=>simp[intOf];omega
   | true =>
     have G:Hid (hTo L (k+1)=hTo L k++[(k:Int)]):=by show _=_;rw[hTo,hm];simp
     rw[hm] at x
     have d:Hid (wr.ownsRow w.heap.size 3 1 (.slice a (hTo L k).length c) (hTo L k).length r):=t.out.own
     have N:Hid (∀ g q o,o.ownsRow w.heap.size 3 1 (.slice (some ⟨g,0,none⟩) ((hTo L k).length+1) q) ((hTo L k).length+1) (r++[.int .i64 (k:Int)])->(wr.alloc (.cells #[.int .i64 (k:Int)] 3)).grownBy o (Value.slice a (hTo L k).length c).ownBlock->((Value.slice a (hTo L k).length c).ownBlock=some g\/g=wr.heap.size+1) ->
      ZI Lay.int 3 o w.heap.size (.slice (some ⟨g,0,none⟩) ((hTo L k).length+1) q) (hTo L (k+1)) (r++[.int .i64 (k:Int)])/\Below w.heap.size w o):=by
      intro g q o J h2 h3;obtain⟨H,I⟩:=QbH t.out (by omega) Q J h2 h3
      rw[G.out]
      exact⟨H,I w s.out⟩
     clear hm t s G;generalize (hTo L k).length=n at d N l |-;go_wp2_with (at_builtin;refine wpList_append_lies _ Yz (.tmp 21) (.tmp 23) 35 Yz w.heap.size 3 i0 (.int .i64 0) 1 8 pUnderI R S U T Yz (by decide) _ _ _ Yz (d.out.alloc _) ⟨wr.heap.size,0,none⟩ 1 1 [.int .i64 (k:Int)] Yz Yz (QeJ _ [_] _) (Qkt _) (by decide) (by unfold maxLen;omega) (by omega) (by simp;omega) (wr.heap.size+1) (by simp) ?_)
     intro g2 E o J f z B;obtain⟨H,I⟩:=N.out g2 E o J f z
     have A9:=Qa H;have B9:=Qa I;clear J f z B d N H I;go_wp2
     go_roundw
     case rel=>exact⟨k+1,_,by go_num,by omega,A9.out,B9.out⟩
     case measure=>simp[intOf];omega
  ·have D:k=L.length:=by omega
   have Z:Hid (Qeo w (hList L) (.returned (.slice a (hTo L k).length c)) wr):=by
    subst D;exact⟨a,c,Yz,t.out.lay,s.out⟩
   have j:¬ (k:Int)<L.length:=by omega
   clear t s l D P;generalize (hTo L k).length=n at Z;generalize L.length=m at V j C;go_wp2
   go_ret;exact Z.out
theorem QfB (x:Int) (p:l.length=N) (t:N<=100000) (q:intsL.In w Q l [.slice a N c]) :
 Calls prog 122 #[.slice a N c,.int .i64 x] w fun e w'=>e=.returned (.bool (inB l x))/\w'=w:=by
 have B:Hid (∀ i x,l[i]?=some x->∃ g o,a=some ⟨g,o,none⟩/\w.cell? ⟨g,o+i,none⟩=some (.int .i64 x)):=fun i x z=>by
  obtain⟨g,o,s,A,G,F,v,u,I⟩:=Yf q z
  have n:s=[.int .i64 x]:=u;subst n;refine⟨g,o,A,?_⟩
  have:=v 0 (by decide)
  simpa[Lay.int] using this
 have m:Hid (l.length=N):=p;clear q p;go_enter func122,ntmps122
 go_wp2
 go_loop [5] (fun i=>∃ k:Nat,k<=N/\i=.int .i64 k/\inB (l.take k) x=false) (fun i=>N - (intOf i).toNat)
 case atStart=>exact⟨0,Xb _,Z,by simp[inB]⟩
 case round =>
  obtain⟨k,D,rfl,b⟩:=hrel
  by_cases h:k<N
  ·have d:l[k]?=some (l[k]'(by rw[m.out];exact h)):=Zg _;generalize l[k]'(by rw[m.out];exact h)=y at d;obtain⟨g,o,rfl,H⟩:=B.out k y d
   have r:(k:Int)<N:=by omega
   by_cases f:y=x
   ·have E:Hid (inB l x=true):=inB_iff.2 (by rw[<-f];exact Zm d);have j:(y==x)=true:=by simpa using f
    clear f b d;go_wp2
    go_ret;exact⟨by rw[E.out];rfl,Z⟩
   ·have j:(y==x)=false:=by simpa using f
    have C:Hid (inB (l.take (k+1)) x=false):=by
     show _=_;rw[XV,d,Option.toList_some,Qgf,b]
     simpa using f
    clear f b d;go_wp2
    go_round
    case rel=>exact⟨k+1,by omega,by go_num,C.out⟩
    case measure=>simp[intOf];omega
  ·have E:Hid (inB l x=false):=by
    rw[XO (by rw[m.out];omega)] at b
    exact b
   clear b;go_wp2
   go_ret;exact⟨by rw[E.out];rfl,Z⟩
theorem Qc8 (h:intsL.In w Q l [.slice a N c])(g:i<=l.length) (c':Nat):intsL.In w Q (l.take i) [.slice a i c']:=by
 obtain⟨k,d,e,f⟩:=h
 simp only[List.cons.injEq,Value.slice.injEq,and_true] at e
 obtain⟨rfl,_,rfl⟩:=e
 refine⟨a,c',by simp[Nat.min_eq_left g],fun j x b=>f j x ?_⟩
 rw[XR] at b
 split at b
 ·exact b
 ·cases b
theorem Qg4 (hN:l.length=N) (U:N<=100000) (af:N<=c) (hL:L.length<=100000) (T:intsL.In w Q l [.slice a N c]) (h:Qr w b O L) :
 Calls prog 125 #[.pointer (some ⟨b,0,none⟩),.slice a N c] w fun e w'=>e=.returned (.int .i64 (hPass L [] l))/\Below w.heap.size w w':=by
 have HX:Hid (∀ i x,l[i]?=some x->∃ g o,a=some ⟨g,o,none⟩/\g<w.heap.size/\w.cell? ⟨g,o+i,none⟩=some (.int .i64 x)):=fun i x m=>by
  obtain⟨g,o,R,e1,e2,e3,W,V,hr⟩:=Yf T m
  have z:R=[.int .i64 x]:=V;subst z;refine⟨g,o,e1,e3,?_⟩
  have:=W 0 (by decide)
  simpa[Lay.int] using this
 have A:Hid (l.length=N):=hN;have HH:Hid (Qr w b O L):=h;have HI:Hid (intsL.In w Q l [.slice a N c]):=T;clear h T hN;go_enter func125,ntmps125
 go_wp2
 go_loopw [5] (fun u wr=>∃ k,u=.int .i64 (k:Nat)/\k<=N/\(Qr wr b O L/\intsL.In wr Q l [.slice a N c]/\Below w.heap.size w wr)/\hPass L [] l=hPass L (l.take k) (l.drop k)) (fun u _=>N - (intOf u).toNat)
 case atStart=>exact⟨0,Z,Xb _,⟨HH.out,HI.out,Zr⟩,Z⟩
 case round =>
  obtain⟨k,rfl,hk,hA,hp⟩:=hrel
  have q:Hid (Qr wr b O L/\intsL.In wr Q l [.slice a N c]/\Below w.heap.size w wr):=hA;clear HH HI hA;have K:Hid (hPass L [] l=hPass L (l.take k) (l.drop k)):=hp;clear hp;by_cases J:k<N
  ·have d:l[k]?=some (l[k]'(by rw[A.out];exact J)):=Zg _;generalize l[k]'(by rw[A.out];exact J)=x at d;obtain⟨g,o,rfl,hg,yc⟩:=HX.out k x d
   have ab:wr.cell? ⟨g,o+k,none⟩=some (.int .i64 x):=(q.out.2.2.cell (p:=⟨g,o+k,none⟩) hg).trans yc;clear yc;have I:(k:Int)<N:=by omega
   have ac:(0:Int)<=k:=by omega
   have ae:(k:Int)<=c:=by omega
   have s:=Qd6 L l d;rw[<-K.out] at s
   have C:Hid (Calls prog 121 #[.pointer (some ⟨b,0,none⟩),.int .i64 x] wr fun e w'=>e=.returned (.bool (hHas L x))/\w'=wr):=QdC x hL q.out.1
   cases hh:hHas L x with
   | false =>
     rw[hh] at C s
     have E:Hid (hPass L [] l=10):=by show _=_;simpa using s
     clear s hh d;go_wp2_with (go_at_call 121;refine(C.out).mono ?_;rintro e w' ⟨rfl,f⟩;have f:=f.symm;subst f)
     go_ret;exact⟨by rw[E.out];rfl,q.out.2.2⟩
   | true =>
     rw[hh] at C s
     have D:Hid (∀ n,Calls prog 122 #[.slice (some ⟨g,o,none⟩) k c,.int .i64 x] (wr.drewN n) fun e w'=>e=.returned (.bool (inB (l.take k) x))/\w'=wr.drewN n):=fun n =>
      QfB x (by simp;rw[A.out];omega) (by omega) (Lay.drewN (Qc8 q.out.2.1 (by rw[A.out];omega) c) n)
     cases m:inB (l.take k) x with
     | true =>
       rw[m] at s D
       have E:Hid (hPass L [] l=13):=by show _=_;simpa using s
       clear s hh d m;go_wp2_with (go_at_call 121;refine(C.out).mono ?_;rintro e w' ⟨rfl,f⟩;have f:=f.symm;subst f)
       go_quiet ((go_at_call 122;exact Calls.quiet_of_same (D.out _)))
       go_wp2
       go_ret;exact⟨by rw[E.out];rfl,Qg q.out.2.2 _⟩
     | false =>
       rw[m] at s D
       have E:Hid (hPass L [] l=hPass L (l.take (k+1)) (l.drop (k+1))):=by show _=_;simpa using s
       clear s hh d m K;go_wp2_with (go_at_call 121;refine(C.out).mono ?_;rintro e w' ⟨rfl,f⟩;have f:=f.symm;subst f)
       go_quiet ((go_at_call 122;exact Calls.quiet_of_same (D.out _)))
       go_wp2
       go_roundw
       case rel=>exact⟨k+1,by go_num,by omega,⟨q.out.1,Lay.drewN q.out.2.1 _,Qg q.out.2.2 _⟩,E.out⟩
       case measure=>simp[intOf];omega
  ·have I:¬ (k:Int)<N:=by omega
   have F:l.length<=k:=by rw[A.out];omega
   have PE:Hid (hPass L [] l=if (hList L).all (fun r=>inB l r) then 0 else 12):=by
    have:=Qfr L l F
    rw[<-K.out] at this
    exact this
   clear K HX F;go_wp2_with fail
   refine(Qd4 hL q.out.1).mono ?_
   rintro e H ⟨a2,c2,rfl,i2,X⟩;have HB:Hid (Below w.heap.size w H):=q.out.2.2.trans (X.mono q.out.2.2.size);have S:Hid (intsL.In H Q l [.slice a N c]):=Ya q.out.2.1 X
   have aa:Hid (∀ i x,(hList L)[i]?=some x->∃ g o,a2=some ⟨g,o,none⟩/\H.cell? ⟨g,o+i,none⟩=some (.int .i64 x)):=fun i x m=>by
    obtain⟨g,o,R,e1,e2,e3,W,V,hr⟩:=Yf i2 m
    have z:R=[.int .i64 x]:=V;subst z;refine⟨g,o,e1,?_⟩
    have:=W 0 (by decide)
    simpa[Lay.int] using this
   obtain⟨M,hM⟩:∃ M,(hList L).length=M:=⟨_,Z⟩
   have ad:M<=100000:=by have:=Qdu L;omega
   have P:Hid ((hList L).length=M):=hM;rw[hM]
   clear X i2 q hM;go_wp2_with fail
   go_loop [7] (fun i=>∃ j:Nat,j<=M/\i=.int .i64 j/\((hList L).take j).all (fun r=>inB l r)=true) (fun i=>M - (intOf i).toNat)
   case atStart=>exact⟨0,Xb _,Z,by simp⟩
   case round =>
    obtain⟨j,hj,rfl,G⟩:=hrel
    have B:Hid (((hList L).take j).all (fun r=>inB l r)=true):=G;clear G;by_cases t:j<M
    ·have d:(hList L)[j]?=some ((hList L)[j]'(by rw[P.out];exact t)):=Zg _;generalize (hList L)[j]'(by rw[P.out];exact t)=y at d;obtain⟨g,o,rfl,yc⟩:=aa.out j y d
     have v:(j:Int)<M:=by omega
     have D:Hid (Calls prog 122 #[.slice a N c,.int .i64 y] H fun e w'=>e=.returned (.bool (inB l y))/\w'=H):=QfB y A.out U S.out
     cases m:inB l y with
     | true =>
       rw[m] at D
       have N1:Hid (((hList L).take (j+1)).all (fun r=>inB l r)=true):=by
        show _=_;rw[XV,d,Option.toList_some,List.all_append,B.out]
        simp[m]
       clear m d B;go_wp2_with (go_at_call 122;refine(D.out).mono ?_;rintro e w' ⟨rfl,f⟩;have f:=f.symm;subst f)
       go_round
       case rel=>exact⟨j+1,by omega,by go_num,N1.out⟩
       case measure=>simp[intOf];omega
     | false =>
       rw[m] at D
       have E:Hid (hPass L [] l=12):=by
        show _=_
        have hf:(hList L).all (fun r=>inB l r)=false:=by
         rw[Bool.eq_false_iff]
         intro h
         have:=Xe.1 h y (Zm d)
         rw[m] at this
         cases this
        rw[PE.out,hf];rfl
       clear m d B;go_wp2_with (go_at_call 122;refine(D.out).mono ?_;rintro e w' ⟨rfl,f⟩;have f:=f.symm;subst f)
       go_ret;exact⟨by rw[E.out];rfl,HB.out⟩
    ·have E:Hid (hPass L [] l=0):=by
      show _=_
      have:=B.out
      rw[XO (by rw[P.out];omega)] at this
      rw[PE.out,this];rfl
     have v:¬ (j:Int)<M:=by omega
     clear B;go_wp2
     go_ret;exact⟨by rw[E.out];rfl,HB.out⟩
theorem Xk:type_of% @List.getElem?_eq_none:=@List.getElem?_eq_none
theorem XT:type_of% @Int.toNat_natCast:=@Int.toNat_natCast
def TRw (w:World) (O:Nat->Prop) (v:Value) (L:List (TT 6)):Prop :=
 ∃ xs,w.ownsRow 0 70 3 v L.length xs/\(∀ g,v.ownBlock=some g->O g)/\∀ i x,L[i]?=some x->(Lay.tt 6).In w (fun g=>¬ O g) x ((xs.drop (i*3)).take 3)
def TRd (w:World) (Q:Nat->Prop) (a:Option Addr) (L:List (TT 6)):Prop :=
 ∀ i t,L[i]?=some t->∃ g a' c',a=some ⟨g,0,none⟩/\w.cell? ⟨g,i*3,none⟩=some (.int .i64 t.kind)/\w.cell? ⟨g,i*3+1,none⟩=some (.int .i64 t.r)/\w.cell? ⟨g,i*3+2,none⟩=some (.slice a' t.len c')/\TIn w Q t a'/\t.ok
section
variable {w w':World}{O O':Nat->Prop}{v:Value}{L:List (TT 6)}
theorem TRw.keep (h:TRw w O v L) (e:∀ k,k<w.heap.size->v.ownBlock=some k\/¬ O k->w'.heap[k]?=w.heap[k]?) (t:∀ k,v.ownBlock=some k->O' k) (p:∀ k,¬ O k->k<w.heap.size->¬ O' k):TRw w' O' v L:=by
 obtain⟨j,⟨m,o⟩,u,q⟩:=h
 refine⟨j,⟨m,?_⟩,t,fun i x n=>(Lay.tt 6).keep (fun k a b=>e k b (.inr a)) (fun k a b=>p k a b) (q i x n)⟩
 rcases o with l | ⟨g,d,c,rfl,s,f,r⟩
 ·exact Or.inl l
 ·exact Or.inr ⟨g,d,c,Z,s,(e g (XC f) (.inl Z)).trans f,r⟩
theorem TRw.lt (h:TRw w O v L)(a:v.ownBlock=some g):g<w.heap.size:=by
 obtain⟨i,⟨j,b⟩,l,k⟩:=h
 rcases b with ⟨rfl,_⟩|⟨f,d,e,rfl,_,c,r⟩
 ·simp[Value.ownBlock] at a
 ·simp[Value.ownBlock] at a;subst a;exact XC c
theorem TRw.block (h:TRw w O v L)(a:v.ownBlock=some g):∃ c,w.heap[g]?=some (.cells c 70 (0,0)):=by
 obtain⟨j,⟨k,d⟩,m,l⟩:=h
 rcases d with ⟨rfl,_⟩|⟨i,f,b,rfl,_,e,r⟩
 ·simp[Value.ownBlock] at a
 ·simp[Value.ownBlock] at a;subst a;exact⟨b,e⟩
theorem TRw.form (h:TRw w O v L):∃ a cap,v=.slice a L.length cap/\TRd w (fun g=>¬ O g) a L/\∃ xs,w.ownsRow 0 70 3 (.slice a L.length cap) L.length xs:=by
 obtain⟨xs,d,D,q⟩:=h
 obtain⟨E,m⟩:=id d
 rcases m with ⟨rfl,p⟩|⟨g,cap,o,rfl,_,s,B,C,A,z⟩
 ·have:L=[]:=Xf.1 p
  subst this;exact⟨none,0,Z,fun i t c=>by simp at c,xs,d⟩
 ·refine⟨some ⟨g,0,none⟩,cap,Z,fun i t c=>?_,xs,d⟩
  obtain⟨n,k,e,l,r⟩:=q i t c
  have x:i<L.length:=(Zi c).1
  have b:∀ j u,j<3->((xs.drop (i*3)).take 3)[j]?=some u->w.cell? ⟨g,i*3+j,none⟩=some u:=fun j u y f=>by
   rw[XR,Xs y,List.getElem?_drop,<-z,XR,Xs (by omega),Array.getElem?_toList] at f
   exact Qb s _ u f
  rw[e] at b
  exact⟨g,n,k,Z,b 0 _ (by omega) Z,b 1 _ (by omega) Z,b 2 _ (by omega) Z,l,r⟩
theorem TRd.below (h:TRd w Q a L) (b:Below w.heap.size w w'):TRd w' Q a L:=fun i t f=>by
 obtain⟨g,m,l,e,d,j,k,o,n⟩:=h i t f
 have c:g<w.heap.size:=Xi w ⟨g,i*3,none⟩ d;exact⟨g,m,l,e,(b.cell (p:=⟨g,i*3,none⟩) c).trans d,(b.cell (p:=⟨g,i*3+1,none⟩) c).trans j,(b.cell (p:=⟨g,i*3+2,none⟩) c).trans k,o.below b,n⟩
end
def KAt (w:World) (b:Nat) (O:Nat->Prop) (s:JSt):Prop :=
 ∃ pm cm a1 c1 a2 c2 a3 c3 h vL,w.heap[b]?=some (.cells #[.slice pm s.m.length cm,.int .i64 s.f.regs,.slice a1 s.f.params.length c1,.slice a2 s.f.results.length c2,.slice a3 s.f.blocks.length c3,.pointer (some ⟨h,0,none⟩),vL] 114 (0,0)) /\
  (QaH 6).In w (fun g=>¬ O g) s.m [.slice pm s.m.length cm]/\(ZR 6).In w (fun g=>¬ O g) s.f [.int .i64 s.f.regs,.slice a1 s.f.params.length c1,.slice a2 s.f.results.length c2,.slice a3 s.f.blocks.length c3] /\
  Qr w h O s.H/\TRw w O vL s.L/\O b
section
variable {w w':World}{b:Nat}{O O':Nat->Prop}{s:JSt}
theorem KAt.keep (h:KAt w b O s) (i:∀ k,k<w.heap.size->w'.heap[k]?=w.heap[k]?) (d:∀ k,k<w.heap.size->(O k↔O' k)):KAt w' b O' s:=by
 obtain⟨q,B,u,v,n,y,t,C,h,A,m,x,o,p,j,z⟩:=h
 have f:=XC m
 refine⟨q,B,u,v,n,y,t,C,h,A,(i b f).trans m,(QaH 6).keep (fun k _ a=>i k a) (fun k c a e=>c ((d k a).2 e)) x,(ZR 6).keep (fun k _ a=>i k a) (fun k c a e=>c ((d k a).2 e)) o,
  p.keep (fun g _ l=>i g l) (fun g l a=>(d g a).1 l),j.keep (fun k c _=>i k c) (fun k c=>?_) (fun k c a e=>c ((d k a).2 e)),(d b f).1 z⟩
 have a:=j.lt c;obtain⟨D,F,r,E⟩:=j
 exact(d k a).1 (r k c)
theorem KAt.below (h:KAt w b O s) (k:Below w.heap.size w w'):KAt w' b O s:=h.keep (fun g a=>k.block g a) (fun _ _=>Iff.rfl)
theorem KAt.drewN (h:KAt w b O s) (n:Nat):KAt (w.drewN n) b O s:=h
theorem KAt.lt (h:KAt w b O s):b<w.heap.size:=by obtain⟨f,p,l,o,d,j,k,q,h,n,a,e,g,i,c,m⟩:=h;exact XC a
structure KRd (w:World) (b:Nat) (O:Nat->Prop) (s:JSt) (pm:Option Addr) (cm:Nat) (a1:Option Addr) (c1:Nat) (a2:Option Addr) (c2:Nat) (a3:Option Addr) (c3:Nat) (h:Nat) (aL:Option Addr) (cL:Nat):Prop where
 blk:w.heap[b]?=some (.cells #[.slice pm s.m.length cm,.int .i64 s.f.regs,.slice a1 s.f.params.length c1,.slice a2 s.f.results.length c2,.slice a3 s.f.blocks.length c3,.pointer (some ⟨h,0,none⟩),.slice aL s.L.length cL] 114 (0,0))
 mod:(QaH 6).In w (fun g=>¬ O g) s.m [.slice pm s.m.length cm]
 fn:(ZR 6).In w (fun g=>¬ O g) s.f [.int .i64 s.f.regs,.slice a1 s.f.params.length c1,.slice a2 s.f.results.length c2,.slice a3 s.f.blocks.length c3]
 holds:Qr w h O s.H
 row:TRd w (fun g=>¬ O g) aL s.L
theorem KAt.read (h:KAt w b O s):∃ pm cm a1 c1 a2 c2 a3 c3 h aL cL,KRd w b O s pm cm a1 c1 a2 c2 a3 c3 h aL cL:=by
 obtain⟨pm,cm,a1,c1,a2,c2,a3,c3,h,j,d,c,e,f,a,i⟩:=h
 obtain⟨aL,cL,rfl,g,_⟩:=a.form
 exact⟨pm,cm,a1,c1,a2,c2,a3,c3,h,aL,cL,d,c,e,f,g⟩
theorem KRd.below {f:Option Addr}{g:Nat}{a:Option Addr}{c:Nat}{d:Option Addr}{j:Nat}{h:Nat}{i:Option Addr}(k:KRd w b O s pm cm f g a c d j h i cL) (e:Below w.heap.size w w'):KRd w' b O s pm cm f g a c d j h i cL :=
 ⟨(e.block b (XC k.blk)).trans k.blk,Ya k.mod e,Ya k.fn e,k.holds.below e,k.row.below e⟩
theorem KRd.cells {e:Option Addr}{g:Nat}{a:Option Addr}{c:Nat}{d:Option Addr}{j:Nat}{h:Nat}{i:Option Addr}(k:KRd w b O s pm cm e g a c d j h i cL) :
 w.cell? ⟨b,0,none⟩=some (.slice pm s.m.length cm)/\w.cell? ⟨b,1,none⟩=some (.int .i64 s.f.regs)/\w.cell? ⟨b,2,none⟩=some (.slice e s.f.params.length g)/\w.cell? ⟨b,3,none⟩=some (.slice a s.f.results.length c)/\w.cell? ⟨b,4,none⟩=some (.slice d s.f.blocks.length j)/\w.cell? ⟨b,5,none⟩=some (.pointer (some ⟨h,0,none⟩))/\w.cell? ⟨b,6,none⟩=some (.slice i s.L.length cL) :=
 ⟨Qb k.blk 0 _ Z,Qb k.blk 1 _ Z,Qb k.blk 2 _ Z,Qb k.blk 3 _ Z,Qb k.blk 4 _ Z,Qb k.blk 5 _ Z,Qb k.blk 6 _ Z⟩
end
theorem Q9 {s:JSt}(k a:Int) (c:Bool) (W:s.H.length<=16) (hL:s.L.length<=80) (h:KAt w b O s) :
 Calls prog 84 #[.pointer (some ⟨b,0,none⟩),.int .i64 k,.int .i64 a,.bool c] w fun e w'=>e=.returned (.int .i64 (s.want k a c))/\∃ n,w'=w.drewN n:=by
 obtain⟨Q,cm,T,X,M,c2,S,c3,v,K,P,R⟩:=h.read
 obtain⟨-,-,-,-,-,V,x⟩:=R.cells
 have G:Hid (TRd w (fun g=>¬ O g) K s.L):=R.row;have F:Hid (Qr w v O s.H):=R.holds;clear R h;by_cases p:k<0
 ·have E:Hid (s.want k a c=1):=by show _=_;unfold JSt.want JSt.at;rw[Xs p]
  have J:decide (k<0)=true:=by simpa using p
  generalize s.L.length=B at x;go_enter func84,ntmps84
  go_wp2
  go_ret;exact⟨by rw[E.out];rfl,0,Z⟩
 obtain⟨i,rfl⟩:=Xc (show 0<=k by omega)
 by_cases z:i<s.L.length
 ·have d:s.L[i]?=some s.L[i]:=Zg z;generalize s.L[i]=t at d;have o:s.at (i:Int)=some t:=by unfold JSt.at;rw[Xr p];exact d
  obtain⟨g,U,N,rfl,q,A,-,-,-⟩:=G.out i t d
  have y:(i:Int)<s.L.length:=by omega
  have u:¬ (i:Int)<0:=by omega
  have m:¬ (s.L.length:Int)<=i:=by omega
  generalize j:s.L.length=B at x z y m;by_cases f:t.kind=a
  ·have l:(t.kind==a)=true:=by simpa using f
   cases c with
   | false =>
     have E:Hid (s.want (i:Int) a false=0):=by show _=_;unfold JSt.want;rw[o];simp[f]
     generalize t.kind=D at q f l;subst f;clear d o j;go_enter func84,ntmps84
     go_wp2_with fail
     go_quiet (fail)
     go_wp2
     go_ret;exact⟨by rw[E.out];rfl,_,Z⟩
   | true =>
     have C:Hid (∀ n,Calls prog 121 #[.pointer (some ⟨v,0,none⟩),.int .i64 t.r] (w.drewN n) fun e w'=>e=.returned (.bool (hHas s.H t.r))/\w'=w.drewN n):=fun n=>QdC t.r (by omega) (show Qr (w.drewN n) v O s.H from F.out)
     have E:Hid (s.want (i:Int) a true=if hHas s.H t.r then 0 else 10):=by
      show _=_;unfold JSt.want;rw[o]
      simp only[f,if_true,Bool.true_and]
      cases hHas s.H t.r<;>rfl
     generalize t.kind=D at q f l;subst f
     cases hq:hHas s.H t.r with
     | true =>
       rw[hq] at C E
       clear d o j hq;generalize t.r=I at A C;go_enter func84,ntmps84
       go_wp2_with fail
       go_quiet ((go_at_call 121;exact Calls.quiet_of_same (C.out _)))
       go_wp2
       go_ret;exact⟨by rw[E.out];rfl,_,Z⟩
     | false =>
       rw[hq] at C E
       clear d o j hq;generalize t.r=I at A C;go_enter func84,ntmps84
       go_wp2_with fail
       go_quiet ((go_at_call 121;exact Calls.quiet_of_same (C.out _)))
       go_wp2
       go_ret;exact⟨by rw[E.out];rfl,_,Z⟩
  ·have l:(t.kind==a)=false:=by simpa using f
   have E:Hid (s.want (i:Int) a c=9):=by show _=_;unfold JSt.want;rw[o];simp[f]
   generalize t.kind=D at q f l;clear d o j;go_enter func84,ntmps84
   go_wp2
   go_ret;exact⟨by rw[E.out];rfl,0,Z⟩
 ·have E:Hid (s.want (i:Int) a c=1):=by
   show _=_;unfold JSt.want JSt.at;rw[Xr p,XT,Xk (by omega)]
  have m:(s.L.length:Int)<=i:=by omega
  have u:¬ (i:Int)<0:=by omega
  generalize s.L.length=B at x m z;go_enter func84,ntmps84
  go_wp2
  go_ret;exact⟨by rw[E.out];rfl,0,Z⟩
theorem Lay.flat {α:Type}{A:Lay α}{l:List α}(h:A.list.In w O l [.slice (some ⟨g,o,none⟩) n c]) (f:∀ (x:α) (ds:List Value),A.In w O x ds->∀ u∈ds,u.oneCell'=true) :
 ∃ ds:List Value,ds.length=l.length*A.size/\(∀ (j:Nat) (u:Value),ds[j]?=some u->w.cell? ((⟨g,o,none⟩:Addr).add j)=some u)/\(∀ u∈ds,u.oneCell'=true)/\∀ (i:Nat) (x:α),l[i]?=some x->A.In w O x ((ds.drop (i*A.size)).take A.size):=by
 have q:∀ k,k<=l.length->∃ ds:List Value,ds.length=k*A.size/\(∀ (j:Nat) (u:Value),ds[j]?=some u->w.cell? ⟨g,o+j,none⟩=some u)/\(∀ u∈ds,u.oneCell'=true)/\∀ (i:Nat) (x:α),i<k->l[i]?=some x->A.In w O x ((ds.drop (i*A.size)).take A.size):=by
  intro k
  induction k with
  | zero=>exact fun _=>⟨[],by simp,fun j u a=>by simp at a,fun u b=>by simp at b,fun i x H=>by omega⟩
  | succ k ih =>
    intro K;obtain⟨ds,p,r,z,v⟩:=ih (by omega)
    obtain⟨x,d⟩:∃ x,l[k]?=some x:=⟨_,Zg (by omega)⟩
    obtain⟨L,J,B,m,_,_,F,t⟩:=Yf h d
    injection m with m
    injection m with m e2
    subst m;subst e2;have s:=A.len t;refine⟨ds++B,by rw[List.length_append,p,s,Nat.add_mul];omega,fun j u a=>?_,fun u b=>?_,fun i y H e=>?_⟩
    ·rw[List.getElem?_append] at a
     split at a
     ·exact r j u a
     ·rename_i I
      have E:j - ds.length<B.length:=(Zi a).1;have D:=F (j - ds.length) (by omega);rw[a] at D
      rw[<-D]
      congr 2
      omega
    ·rcases List.mem_append.1 b with b | b
     ·exact z u b
     ·exact f x B t u b
    ·by_cases C:i=k
     ·subst C;rw[d] at e
      injection e with e
      subst e;rw[List.drop_append,List.drop_of_length_le (by omega),p,Nat.sub_self,List.drop_zero,List.nil_append,XO (by omega)]
      exact t
     ·have G:(i+1)*A.size<=k*A.size:=Xp _ (by omega);rw[Nat.add_mul] at G
      rw[List.drop_append_of_le_length (by omega),List.take_append_of_le_length (by simp;omega)]
      exact v i y (by omega) e
 obtain⟨ds,p,r,z,v⟩:=q l.length Ze
 exact⟨ds,p,fun j u a=>by rw[Go.WideShapes.add_plain];exact r j u a,z,fun i x d=>v i x (Zi d).1 d⟩
theorem QbL {α:Type}{P:α->List Value->Prop}{l l2:List α}(b:xs.length=l.length*s)
 (e:∀ (i:Nat) (x:α),l[i]?=some x->P x ((xs.drop (i*s)).take s)) (f:∀ (i:Nat) (x:α),l2[i]?=some x->P x ((ds.drop (i*s)).take s)) :
 ∀ (i:Nat) (x:α),(l++l2)[i]?=some x->P x (((xs++ds).drop (i*s)).take s):=by
 intro i y a;rw[List.getElem?_append] at a
 split at a
 ·rename_i c
  have d:(i+1)*s<=l.length*s:=Xp _ c;rw[Nat.add_mul] at d
  rw[List.drop_append_of_le_length (by omega),List.take_append_of_le_length (by simp;omega)]
  exact e i y a
 ·rename_i c
  have d:l.length*s<=i*s:=Xp _ (by omega)
  have:=f (i - l.length) y a
  rw[Nat.sub_mul] at this
  rw[List.drop_append,List.drop_of_length_le (by omega),List.nil_append,b]
  exact this
theorem Qdk (h:w.ownsRow 0 e s (.slice (some ⟨g,0,none⟩) N cap) N xs) (k:w'.heap[g]?=w.heap[g]?):w'.ownsRow 0 e s (.slice (some ⟨g,0,none⟩) N cap) N xs:=by
 obtain⟨f,i⟩:=h
 refine⟨f,?_⟩
 rcases i with j | ⟨m,c,a,d,b,l,r⟩
 ·exact .inl j
 ·injection d with e1 _ e2
  injection e1 with e1
  injection e1 with e1 _
  subst e1;subst e2;exact .inr ⟨g,cap,a,Z,b,k.trans l,r⟩
def TRq (w:World) (O Q:Nat->Prop) (v:Value) (L:List (TT 6)):Prop :=
 ∃ xs,w.ownsRow 0 70 3 v L.length xs/\(∀ g,v.ownBlock=some g->O g)/\∀ i x,L[i]?=some x->(Lay.tt 6).In w Q x ((xs.drop (i*3)).take 3)
section
variable {w w':World}{O O' Q Q':Nat->Prop}{v:Value}{L:List (TT 6)}
theorem TRq.keep (h:TRq w O Q v L) (c:∀ k,k<w.heap.size->v.ownBlock=some k\/Q k->w'.heap[k]?=w.heap[k]?) (t:∀ k,v.ownBlock=some k->O' k) (m:∀ k,Q k->k<w.heap.size->Q' k):TRq w' O' Q' v L:=by
 obtain⟨e,⟨j,o⟩,u,p⟩:=h
 refine⟨e,⟨j,?_⟩,t,fun i x l=>(Lay.tt 6).keep (fun k n s=>c k s (.inr n)) m (p i x l)⟩
 rcases o with f | ⟨g,b,a,rfl,q,d,r⟩
 ·exact Or.inl f
 ·exact Or.inr ⟨g,b,a,Z,q,(c g (XC d) (.inl Z)).trans d,r⟩
theorem TRq.own (h:TRq w O Q v L)(b:v.ownBlock=some g):O g:=by
 obtain⟨c,d,a,e⟩:=h
 exact a g b
theorem TRq.block (h:TRq w O Q v L)(a:v.ownBlock=some g):∃ c,w.heap[g]?=some (.cells c 70 (0,0)):=by
 obtain⟨j,⟨k,d⟩,m,l⟩:=h
 rcases d with ⟨rfl,_⟩|⟨i,f,b,rfl,_,e,r⟩
 ·simp[Value.ownBlock] at a
 ·simp[Value.ownBlock] at a;subst a;exact⟨b,e⟩
theorem TRq.lt (h:TRq w O Q v L)(b:v.ownBlock=some g):g<w.heap.size:=by
 obtain⟨c,a⟩:=h.block b
 exact XC a
theorem TRq.form (h:TRq w O Q v L):∃ a cap,v=.slice a L.length cap/\L.length<=cap/\TRd w Q a L/\∃ xs,w.ownsRow 0 70 3 (.slice a L.length cap) L.length xs:=by
 obtain⟨xs,d,D,r⟩:=h
 obtain⟨E,m⟩:=id d
 rcases m with ⟨rfl,q⟩|⟨g,cap,p,rfl,_,x,n,C,B,A⟩
 ·have:L=[]:=Xf.1 q
  subst this;exact⟨none,0,Z,Ze,fun i t c=>by simp at c,xs,d⟩
 ·refine⟨some ⟨g,0,none⟩,cap,Z,n,fun i t c=>?_,xs,d⟩
  obtain⟨o,k,e,l,s⟩:=r i t c
  have y:i<L.length:=(Zi c).1
  have b:∀ j u,j<3->((xs.drop (i*3)).take 3)[j]?=some u->w.cell? ⟨g,i*3+j,none⟩=some u:=fun j u z f=>by
   rw[XR,Xs z,List.getElem?_drop,<-A,XR,Xs (by omega),Array.getElem?_toList] at f
   exact Qb x _ u f
  rw[e] at b
  exact⟨g,o,k,Z,b 0 _ (by omega) Z,b 1 _ (by omega) Z,b 2 _ (by omega) Z,l,s⟩
theorem TRd.typesL (h:TRd w Q a L):(Qi 6).In w All L [.slice a L.length c]:=by
 refine⟨a,c,Z,fun i x m=>?_⟩
 obtain⟨g,k,f,e,d,l,n,p,o⟩:=h i x m
 refine⟨g,0,[.int .i64 x.kind,.int .i64 x.r,.slice k x.len f],e,Y,Xi w ⟨g,i*3,none⟩ d,fun j b=>?_,k,f,Z,p.mono (fun _ _ _=>trivial),o⟩
 have b:j<3:=b;show w.cell? ⟨g,0+i*3+j,none⟩=_;rw[XK]
 match j,b with
 | 0,_=>exact d
 | 1,_=>exact l
 | 2,_=>exact n
 | j+3,h=>exact absurd h (by omega)
end
abbrev Qfp (c:Int):List PanicEntry:=[{ v:=.iface 101 (.int .i64 c),recovered:=false }]
def SAt (w:World) (b:Nat) (O A:Nat->Prop) (s:JSt):Prop :=
 ∃ pm cm h a1 c1 a2 c2 a3 c3 vL,w.heap[b]?=some (.cells #[.slice pm s.m.length cm,.pointer (some ⟨h,0,none⟩),.int .i64 s.f.regs,.slice a1 s.f.params.length c1,.slice a2 s.f.results.length c2,.slice a3 s.f.blocks.length c3,vL] 42 (0,0)) /\
  (QaH 6).In w (fun g=>¬ A g) s.m [.slice pm s.m.length cm]/\(ZR 6).In w (fun g=>¬ A g) s.f [.int .i64 s.f.regs,.slice a1 s.f.params.length c1,.slice a2 s.f.results.length c2,.slice a3 s.f.blocks.length c3] /\
  (Qz w h s.H/\O h)/\TRq w O (fun g=>¬ A g) vL s.L/\O b/\∀ k,O k->A k
structure SRd (w:World) (b:Nat) (A:Nat->Prop) (s:JSt) (pm:Option Addr) (cm h:Nat) (a1:Option Addr) (c1:Nat) (a2:Option Addr) (c2:Nat) (a3:Option Addr) (c3:Nat) (aL:Option Addr) (cL:Nat):Prop where
 blk:w.heap[b]?=some (.cells #[.slice pm s.m.length cm,.pointer (some ⟨h,0,none⟩),.int .i64 s.f.regs,.slice a1 s.f.params.length c1,.slice a2 s.f.results.length c2,.slice a3 s.f.blocks.length c3,.slice aL s.L.length cL] 42 (0,0))
 mod:(QaH 6).In w (fun g=>¬ A g) s.m [.slice pm s.m.length cm]
 fn:(ZR 6).In w (fun g=>¬ A g) s.f [.int .i64 s.f.regs,.slice a1 s.f.params.length c1,.slice a2 s.f.results.length c2,.slice a3 s.f.blocks.length c3]
 held:Qz w h s.H
 row:TRd w (fun g=>¬ A g) aL s.L
 le:s.L.length<=cL
section
variable {w w':World}{b:Nat}{O O' A A':Nat->Prop}{s:JSt}
theorem SAt.keep (h:SAt w b O A s) (d:∀ k,k<w.heap.size->O k\/¬ A k->w'.heap[k]?=w.heap[k]?) (j:∀ k,O k->k<w.heap.size->O' k) (m:∀ k,¬ A k->k<w.heap.size->¬ A' k) (r:∀ k,O' k->A' k):SAt w' b O' A' s:=by
 obtain⟨t,C,l,v,x,p,z,u,D,B,i,y,q,⟨g,n⟩,f,o,E⟩:=h
 refine⟨t,C,l,v,x,p,z,u,D,B,(d b (XC i) (.inl o)).trans i,(QaH 6).keep (fun k a c=>d k c (.inr a)) m y,(ZR 6).keep (fun k a c=>d k c (.inr a)) m q,
  ⟨g.keep (d l g.lt (.inl n)),j l n g.lt⟩,f.keep (fun k c a=>d k c (a.imp (fun e=>f.own e) id)) (fun k a=>j k (f.own a) (f.lt a)) m,j b o (XC i),r⟩
theorem SAt.below (h:SAt w b O A s) (k:Below w.heap.size w w'):SAt w' b O A s:=by
 have a:∀ k,O k->A k:=by obtain⟨m,y,t,p,q,f,u,o,z,x,n,r,i,⟨j,e⟩,v,l,d⟩:=h;exact d
 exact h.keep (fun g c _=>k.block g c) (fun _ h _=>h) (fun _ h _=>h) a
theorem SAt.sub (h:SAt w b O A s):∀ k,O k->A k:=by obtain⟨f,u,t,o,r,d,l,n,v,q,g,e,i,⟨j,c⟩,p,m,a⟩:=h;exact a
theorem SAt.lt (h:SAt w b O A s):b<w.heap.size:=by obtain⟨g,t,r,n,q,e,k,m,u,p,a,f,i,⟨j,d⟩,o,l,c⟩:=h;exact XC a
theorem SAt.read (h:SAt w b O A s):∃ pm cm h a1 c1 a2 c2 a3 c3 aL cL,SRd w b A s pm cm h a1 c1 a2 c2 a3 c3 aL cL:=by
 obtain⟨pm,cm,j,a1,c1,a2,c2,a3,c3,n,d,c,e,⟨f,l⟩,g,m,k⟩:=h
 obtain⟨aL,cL,rfl,a,i,_⟩:=g.form
 exact⟨pm,cm,j,a1,c1,a2,c2,a3,c3,aL,cL,d,c,e,f,i,a⟩
variable {pm:Option Addr}{cm h:Nat}{a1:Option Addr}{c1:Nat}{a2:Option Addr}{c2:Nat}{a3:Option Addr}{c3:Nat}{aL:Option Addr}{cL:Nat}
theorem SRd.below (k:SRd w b A s pm cm h a1 c1 a2 c2 a3 c3 aL cL) (e:Below w.heap.size w w'):SRd w' b A s pm cm h a1 c1 a2 c2 a3 c3 aL cL :=
 ⟨(e.block b (XC k.blk)).trans k.blk,Ya k.mod e,Ya k.fn e,k.held.below e,k.row.below e,k.le⟩
theorem SRd.cells (k:SRd w b A s pm cm h a1 c1 a2 c2 a3 c3 aL cL) :
 w.cell? ⟨b,0,none⟩=some (.slice pm s.m.length cm)/\w.cell? ⟨b,1,none⟩=some (.pointer (some ⟨h,0,none⟩))/\w.cell? ⟨b,2,none⟩=some (.int .i64 s.f.regs)/\w.cell? ⟨b,3,none⟩=some (.slice a1 s.f.params.length c1)/\w.cell? ⟨b,4,none⟩=some (.slice a2 s.f.results.length c2)/\w.cell? ⟨b,5,none⟩=some (.slice a3 s.f.blocks.length c3)/\w.cell? ⟨b,6,none⟩=some (.slice aL s.L.length cL) :=
 ⟨Qb k.blk 0 _ Z,Qb k.blk 1 _ Z,Qb k.blk 2 _ Z,Qb k.blk 3 _ Z,Qb k.blk 4 _ Z,Qb k.blk 5 _ Z,Qb k.blk 6 _ Z⟩
end
def STo (wA w:World) (b:Nat) (O A:Nat->Prop) (s:JSt):Prop :=
 ∃ N:Nat->Prop,(∀ k,N k->wA.heap.size<=k/\k<w.heap.size)/\SAt w b (fun k=>O k\/N k) (fun k=>A k\/N k) s/\Zw O (fun k=>O k\/N k) wA w
section
variable {w wA wB:World}{b:Nat}{O A:Nat->Prop}{s s':JSt}
theorem STo.same (h:SAt w b O A s):STo w w b O A s :=
 ⟨fun _=>False,fun _ h=>h.elim,h.keep (fun _ _ _=>rfl) (fun _ h _=>.inl h) (fun _ h _=>by simpa using h) (fun k a=>a.imp (h.sub k) id),⟨Z,Z,Z,Ze,fun _ _ _=>rfl,fun k a=>.inl (by simpa using a)⟩⟩
theorem STo.after (h:STo wA w b O A s) (a:Below wB.heap.size wB wA):STo wB w b O A s:=by
 obtain⟨N,f,g,d⟩:=h
 have:=a.size
 exact⟨N,fun k c=>⟨Zt a.size (f k c).1,(f k c).2⟩,g,⟨d.os.trans a.os,d.tape.trans a.tape,d.output.trans a.output,Zt a.size d.size,fun k c i=>(d.block k (by omega) i).trans (a.block k c),fun k c=>(d.own k c).imp id fun e=>Zt a.size e⟩⟩
theorem STo.below (h:STo wA w b O A s) (a:Below w.heap.size w wB):STo wA wB b O A s:=by
 obtain⟨N,e,f,c⟩:=h
 have:=a.size
 exact⟨N,fun k d=>⟨(e k d).1,by have:=(e k d).2;omega⟩,f.below a,⟨a.os.trans c.os,a.tape.trans c.tape,a.output.trans c.output,Zt c.size a.size,fun k d g=>(a.block k (by have:=c.size;omega)).trans (c.block k d g),c.own⟩⟩
theorem STo.join {N:Nat->Prop}(f:∀ k,N k->wA.heap.size<=k/\k<w.heap.size) (d:Zw O (fun k=>O k\/N k) wA w) (g:STo w wB b (fun k=>O k\/N k) (fun k=>A k\/N k) s'):STo wA wB b O A s':=by
 obtain⟨M,h,j,c⟩:=g
 have i:=d.size;have m:=c.size;refine⟨fun k=>N k\/M k,fun k a=>?_,?_,?_⟩
 ·rcases a with a | a
  ·have:=f k a;omega
  ·have:=h k a;omega
 ·exact j.keep (fun _ _ _=>rfl) (fun k a _=>by simpa[or_assoc] using a) (fun k a _=>by simpa[or_assoc,not_or,and_assoc] using a) (fun k a=>by have:=j.sub k (by simpa[or_assoc] using a);simpa[or_assoc] using this)
 ·refine⟨c.os.trans d.os,c.tape.trans d.tape,c.output.trans d.output,Zt i m,fun k a l=>(c.block k (by omega) (fun e=>?_)).trans (d.block k a l),fun k a=>?_⟩
  ·rcases e with e | e
   ·exact l e
   ·have:=f k e;omega
  ·rcases a with a | a | a
   ·exact .inl a
   ·exact .inr (f k a).1
   ·exact .inr (Zt i (h k a).1)
theorem SAt.setH (L:∀ k,A k->k<w.heap.size) (h:SAt w b O A s):∃ hh,w.cell? ⟨b,1,none⟩=some (.pointer (some ⟨hh,0,none⟩))/\Qz w hh s.H/\∀ w' H',Qz w' hh H'->Zw (fun k=>k=hh) (fun k=>k=hh) w w'->STo w w' b O A { s with H:=H' }:=by
 obtain⟨v,I,hh,y,D,r,F,x,J,G,i,E,t,⟨o,j⟩,n,u,p⟩:=h
 refine⟨hh,Qb i 1 _ Z,o,fun w' H' C d=>?_⟩
 obtain⟨K,f⟩:∃ c,w.heap[hh]?=some (.cells c 73 (0,0)):=by
  obtain⟨-,q⟩:=o
  obtain⟨c,q,-⟩:=q
  exact⟨c,q⟩
 have l:b≠hh:=ZG i f (by decide);have m:∀ k,¬ A k->k≠hh:=fun k a e=>a (by subst e;exact p _ j)
 refine⟨fun _=>False,fun _ h=>h.elim,⟨v,I,hh,y,D,r,F,x,J,G,(d.block b (XC i) l).trans i,(QaH 6).keep (fun k a g=>d.block k g (m k a)) (fun _ h _=>by simpa using h) E,(ZR 6).keep (fun k a g=>d.block k g (m k a)) (fun _ h _=>by simpa using h) t,
  ⟨C,.inl j⟩,n.keep (fun k g a=>d.block k g ?_) (fun k a=>.inl (n.own a)) (fun _ h _=>by simpa using h),.inl u,fun k a=>a.imp (p k) id⟩,⟨d.os,d.tape,d.output,d.size,fun k a z=>d.block k a (fun e=>z (by subst e;exact j)),fun k a=>.inl (by simpa using a)⟩⟩
 rcases a with a | a
 ·obtain⟨c,B⟩:=n.block a
  exact ZG B f (by decide)
 ·exact m k a
theorem SAt.pushL (hA:∀ k,A k->k<wA.heap.size) (h:SAt wA b O A s):∃ aL cL xs,wA.cell? ⟨b,6,none⟩=some (.slice aL s.L.length cL)/\wA.frozen? ⟨b,6,none⟩=false/\s.L.length<=cL/\wA.ownsRow 0 70 3 (.slice aL s.L.length cL) s.L.length xs /\
 ∀ w9 g cap2 (l:List (TT 6)) ds,ds.length=l.length*3->w9.ownsRow 0 70 3 (.slice (some ⟨g,0,none⟩) (s.L.length+l.length) cap2) (s.L.length+l.length) (xs++ds)->wA.grownBy w9 (Value.slice aL s.L.length cL).ownBlock->((Value.slice aL s.L.length cL).ownBlock=some g\/g=wA.heap.size)->g<w9.heap.size ->
  (∀ i x,l[i]?=some x->(Lay.tt 6).In wA (fun g=>¬ A g) x ((ds.drop (i*3)).take 3)) ->
  w9.cell? ⟨b,6,none⟩=some (.slice aL s.L.length cL)/\w9.frozen? ⟨b,6,none⟩=false/\STo wA (w9.setCell ⟨b,6,none⟩ (.slice (some ⟨g,0,none⟩) (s.L.length+l.length) cap2)) b O A { s with L:=s.L++l }:=by
 obtain⟨U,cm,t,W,c1,R,c2,V,c3,vL,o,k2,S,⟨F,Q⟩,v,G,N⟩:=h
 obtain⟨aL,cL,rfl,D,-,-⟩:=v.form
 have r:∀ {j},(Value.slice aL s.L.length cL).ownBlock=some j->O j/\∃ c,wA.heap[j]?=some (.cells c 70 (0,0)):=fun {j} d=>⟨v.own d,v.block d⟩;obtain⟨xs,K,q2,q3⟩:=v
 obtain⟨ch,m⟩:∃ c,wA.heap[t]?=some (.cells c 73 (0,0)):=by
  obtain⟨-,q⟩:=F
  obtain⟨c,q,-⟩:=q
  exact⟨c,q⟩
 have w:=XC o;have E:=XC m
 have p:∀ j,(Value.slice aL s.L.length cL).ownBlock=some j->b≠j:=fun j d=>by
  obtain⟨c,X⟩:=(r d).2
  exact ZG o X (by decide)
 refine⟨aL,cL,xs,Qb o 6 _ Z,Qn o 6,D,K,fun w9 g cap2 l ds aa h1 n M h4 h5=>?_⟩
 have T:=n.size;have C:=(n.block b w (fun e=>p b e.symm Z)).trans o
 have z:b≠g:=by
  rcases M with h | h
  ·exact p g h
  ·omega
 have f:∀ k,¬ A k->k<wA.heap.size->¬ (A k\/(wA.heap.size<=k/\k<w9.heap.size)):=fun k a I e=>by rcases e with e | e;exact a e;omega
 have H:Zw O (fun x=>O x\/(wA.heap.size<=x/\x<w9.heap.size)) wA (w9.setCell ⟨b,6,none⟩ (.slice (some ⟨g,0,none⟩) (s.L.length+l.length) cap2)):=by
  refine⟨n.os,n.tape,n.output,by simp;omega,fun k a J=>?_,fun k a=>a.imp id fun h=>h.1⟩
  rw[Xd _ _ _ _ (fun e=>J (by subst e;exact G)),n.block k a (fun e=>J (r e.symm).1)]
 have u:∀ k,¬ A k->k<wA.heap.size->(w9.setCell ⟨b,6,none⟩ (.slice (some ⟨g,0,none⟩) (s.L.length+l.length) cap2)).heap[k]?=wA.heap[k]?:=fun k a I=>H.block k I (fun e=>a (N k e));refine⟨Qb C 6 _ Z,Qn C 6,fun x=>wA.heap.size<=x/\x<w9.heap.size,fun k a=>by rw[World.size_setCell];exact a,⟨U,cm,t,W,c1,R,c2,V,c3,.slice (some ⟨g,0,none⟩) (s.L.length+l.length) cap2,?_,(QaH 6).keep u f k2,(ZR 6).keep u f S,⟨F.keep ?_,.inl Q⟩,?_,.inl G,fun k a=>a.imp (N k) id⟩,H⟩
 ·rw[Qq C];rfl
 ·rw[Xd _ _ _ _ (show t≠b from ZG m o (by decide)),n.block t E (fun e=>by obtain⟨c',B⟩:=(r e.symm).2;exact ZG m B (by decide) Z)]
 ·refine⟨xs++ds,?_,fun k a=>?_,?_⟩
  ·rw[List.length_append]
   exact Qdk h1 (Xd _ _ _ _ (show g≠b from fun e=>z e.symm))
  ·simp[Value.ownBlock] at a
   subst a;rcases M with h | h
   ·exact .inl (r h).1
   ·exact .inr ⟨by omega,h4⟩
  ·refine QbL (s:=3) (P:=fun x cs=>(Lay.tt 6).In _ _ x cs) K.1 (fun i x y=>?_) (fun i x y=>?_)
   ·exact(Lay.tt 6).keep u f (q3 i x y)
   ·exact(Lay.tt 6).keep u f (h5 i x y)
theorem SAt.same6 (h:SAt w b O A s) (d:w.cell? ⟨b,6,none⟩=some v) (k:Nat):(w.setCell ⟨b,6,none⟩ v).heap[k]?=w.heap[k]?:=by
 obtain⟨g,p,o,l,n,f,i,j,q,m,a,-⟩:=h
 have e:=(Qb a 6 _ Z).symm.trans d;simp only[Option.some.injEq] at e
 by_cases c:k=b
 ·subst c;rw[Qq a,a,<-e];rfl
 ·exact Xd _ _ _ _ c
end
theorem Xm:type_of% @Calls.mono:=@Calls.mono
def QjT (o:Oper):List Tmp:=o.op.operands.toList.filterMap fun | .tmp t=>some t | _=>none
def Qu (l:List Oper):List Tmp:=l.filterMap (·.dst)
def nodupB:List Tmp->Bool
 | []=>true
 | t::r=>!r.contains t&&nodupB r
def onB (gs:List (Nat × Option Bool)) (o:Oper) (b:Bool):Bool :=
 match o.guard with
 | none=>b
 | some (g,want)=>match gs.lookup g with
   | some c=>b==(c==some want)
   | none=>false
def Qk4 (gs:List (Nat × Option Bool)):List Oper->List Bool->Bool
 | [],[]=>true
 | o::l,b::bs=>onB gs o b&&Qk4 gs l bs
 | _,_=>false
def QkZ (ops:Array Oper) (ds outs:List Tmp) (o:Oper):Bool :=
 (o.looksAt ops).all fun t=>(outs.contains t&&!ds.contains t)||o.after.any fun e=>Region.binds .any e&&((ops[e.on]?).bind (·.dst)==some t)
def QbI (i:Nat):List Oper->Bool
 | []=>true
 | o::l=>(o.after.all fun e=>!Region.binds .any e||decide (e.on<i))&&QbI (i+1) l
def Qc0 (l:List Oper) (n:Nat) (outs:List Tmp) (gs:List (Nat × Option Bool)) (bs:List Bool):Bool :=
 (gs.all fun g=>((l.toArray[g.1]?).bind (·.dst)).isSome)&&nodupB (Qu l)&&((Qu l).all fun t=>decide (t<n))&&(l.all (QkZ l.toArray (Qu l) outs))&&Qk4 gs l bs&&QbI 0 l
section
variable {P:Program}(E:Tmp->Value->World->Prop) (W:World->Prop) (R:World->World->Prop)
def EO:Option Tmp->Value->World->Prop
 | some t=>E t
 | none=>fun _ _=>True
def Qjg (a:Act) (w:World):List Tmp->Prop
 | []=>True
 | t::r=>E t (a.tmps.getD t undef) w/\Qjg a w r
def QjV (P:Program) (o:Oper):Prop :=
 ∀ a w,W w->Qjg E a w (QjT o)->∀ K:Act->World->Prop,(∀ v w',R w w'->W w'->EO E o.dst v w'->K (a.put o.dst v) w')->o.wp P a w K (fun _ _ _=>False)
def Qim (o:Oper):Prop:=∀ w,W w->EO E o.dst undef w
def Qen (P:Program):List Oper->List Bool->Prop
 | o::l,true::bs=>QjV E W R P o/\Qen P l bs
 | o::l,false::bs=>Qim E W o/\Qen P l bs
 | _,_=>True
def Qbi (ops:Array Oper):List (Nat × Option Bool)->Prop
 | []=>True
 | (g,c)::r=>(∀ t,(ops[g]?).bind (·.dst)=some t->∀ v w,W w->E t v w->match c with | some b=>v=.bool b | none=>v=undef)/\Qbi ops r
def Qdt (a:Act) (w:World):List Tmp->Prop
 | []=>True
 | t::r=>E t (a.tmps.getD t undef) w/\Qdt a w r
def Zn (a:Act) (vs:Tmp->Value):List Tmp->Act
 | []=>a
 | t::r=>Zn (a.put (some t) (vs t)) vs r
end
theorem wpq {o:Oper}{a:Act}{K d:Act->World->Prop}{Q:Exit->Act->World->Prop}(h:∀ a w,K a w->d a w)
 (c:o.wp P a w K (fun _ _ _=>False)):o.wp P a w d Q:=by
 unfold Oper.wp at *;generalize (execOp a.eval o).run P w=r at *
 cases r with
 | ok n w' =>
   cases n<;>simp only[Oper.upon] at c |- <;>
    first
     | exact h _ _ c
     | exact Xm c (fun e f b=>by cases e<;>first | exact h _ _ b | exact b.elim | (obtain⟨_,_,b⟩:=b;exact b.elim))
     | exact Rows.mono c (fun _ _ b=>h _ _ b)
 | halt x w'=>cases x<;>simp only[Oper.upon] at c |-
theorem Qa3 (b:Tmp->Value):∀ (ds:List Tmp) (a:Act),(Zn a b ds).defers=a.defers
 | [],_=>rfl
 | _::r,a=>by rw[Zn,Qa3 b r];rfl
theorem Qbm (b:Tmp->Value):∀ (ds:List Tmp) (a:Act),(Zn a b ds).tmps.size=a.tmps.size
 | [],_=>rfl
 | _::r,a=>by rw[Zn,Qbm b r];simp[Act.put]
theorem Qdb (f:Tmp->Value):∀ (ds:List Tmp) (a:Act) (t:Nat),t<a.tmps.size->(Zn a f ds).tmps[t]?=if t∈ds then some (f t) else a.tmps[t]?
 | [],_,_,_=>by simp[Zn]
 | d::r,a,t,ht=>by
   rw[Zn,Qdb f r _ t (by simpa[Act.put] using ht)]
   by_cases b:t∈r
   ·simp[b]
   ·by_cases c:d=t
    ·subst c;simp[b,Act.put,ht]
    ·have:t≠d:=fun e=>c e.symm
     simp[b,this,Act.put,c]
theorem nodup_apart:∀ (l:List Oper) (i j:Nat) (oi oj:Oper) (t:Tmp),nodupB (Qu l)=true->l[i]?=some oi->l[j]?=some oj->oi.dst=some t->oj.dst=some t->i=j
 | [],_,_,_,_,_,_,hi,_,_,_=>by simp at hi
 | o::l,i,j,oi,oj,t,h,hi,hj,di,dj=>by
   have f:∀ {k:Nat} {c:Oper},l[k]?=some c->c.dst=some t->t∈Qu l:=fun {k c} g a=>List.mem_filterMap.2 ⟨c,Zm g,a⟩
   have m:nodupB (Qu l)=true:=by
    unfold Qu at h |-
    cases a:o.dst with
    | none=>simpa[List.filterMap_cons,a] using h
    | some d=>simp[a,nodupB] at h;exact h.2
   have b:o.dst=some t->t ∉ Qu l:=fun a=>by
    unfold Qu at h |-;simp only[List.filterMap_cons,a,nodupB,Bool.and_eq_true,Bool.not_eq_true'] at h
    intro e
    have:=h.1
    simp at this
    simp at e
    obtain⟨x,b,n⟩:=e
    exact this x b n
   cases i with
   | zero =>
     cases j with
     | zero=>rfl
     | succ j=>simp at hi hj;subst hi;exact absurd (f hj dj) (b di)
   | succ i =>
     cases j with
     | zero=>simp at hi hj;subst hj;exact absurd (f hi di) (b dj)
     | succ j=>simp at hi hj;rw[nodup_apart l i j oi oj t m hi hj di dj]
section
variable {P:Program}{E:Tmp->Value->World->Prop}{W:World->Prop}{R:World->World->Prop}
theorem QgE {a:Act}{w:World}:∀ (l:List Tmp),(∀ t∈l,E t (a.tmps.getD t undef) w)->Qjg E a w l
 | [],_=>trivial
 | t::r,h=>⟨h t (by simp),QgE r fun x b=>h x (by simp[b])⟩
theorem QcR {a:Act}{w:World}:∀ (l:List Tmp),Qdt E a w l->∀ t∈l,E t (a.tmps.getD t undef) w
 | [],_,_,h=>by simp at h
 | x::r,h,t,b=>by
   rcases List.mem_cons.1 b with rfl | b
   ·exact h.1
   ·exact QcR r h.2 t b
theorem QeW {a:Array Oper}:∀ (gs:List (Nat × Option Bool)),Qbi E W a gs->∀ g c,gs.lookup g=some c->∀ t,(a[g]?).bind (·.dst)=some t->∀ v w,W w->E t v w->match c with | some b=>v=.bool b | none=>v=undef
 | [],_,_,_,h=>by simp at h
 | (g',c')::r,h,g,c,hl=>by
   by_cases e:g=g'
   ·subst e;simp at hl;subst hl;exact h.1
   ·have d:(g==g')=false:=by simpa using e
    simp[List.lookup_cons,d] at hl;exact QeW r h.2 g c hl
theorem mem_of_lookup:∀ (gs:List (Nat × Option Bool)) (g:Nat) (c:Option Bool),gs.lookup g=some c->(g,c)∈gs
 | [],_,_,h=>by simp at h
 | (g',c')::r,g,c,hl=>by
   by_cases e:g=g'
   ·subst e;simp at hl;subst hl;simp
   ·have a:(g==g')=false:=by simpa using e
    simp[List.lookup_cons,a] at hl;exact List.mem_cons_of_mem _ (mem_of_lookup r g c hl)
theorem filter_set:∀ (l:List Bool) (i:Nat) (h:i<l.length),l[i]=false->((l.set i true).filter (·==false)).length+1=(l.filter (·==false)).length
 | [],_,h,_=>by simp at h
 | x::l,0,_,h=>by simp at h;subst h;simp
 | x::l,i+1,hi,h=>by
   simp at h hi
   have:=filter_set l i hi h
   cases x<;>simp at this |-<;>omega
theorem Qhw (gs:List (Nat × Option Bool)):∀ (l:List Oper) (bs:List Bool),Qk4 gs l bs=true->Qen E W R P l bs->∀ (i:Nat) (o:Oper),l[i]?=some o->(onB gs o true=true/\QjV E W R P o)\/(onB gs o false=true/\Qim E W o)
 | [],_,_,_,_,_,h=>by simp at h
 | _::_,[],h,_,_,_,_=>by simp[Qk4] at h
 | x::l,b::bs,h,ha,i,o,ho=>by
   simp only[Qk4,Bool.and_eq_true] at h
   cases i with
   | zero =>
     simp at ho;subst ho
     cases b with
     | true=>exact .inl ⟨h.1,ha.1⟩
     | false=>exact .inr ⟨h.1,ha.1⟩
   | succ i =>
     simp at ho
     cases b with
     | true=>exact Qhw gs l bs h.2 ha.2 i o ho
     | false=>exact Qhw gs l bs h.2 ha.2 i o ho
theorem back_at:∀ (l:List Oper) (k i:Nat) (o:Oper),QbI k l=true->l[i]?=some o->∀ e∈o.after,Region.binds .any e=true->e.on<k+i
 | [],_,_,_,_,h=>by simp at h
 | x::l,k,i,o,h,ho=>by
   simp only[QbI,Bool.and_eq_true] at h
   cases i with
   | zero =>
     simp at ho;subst ho
     intro e b a
     have:=Array.all_eq_true_iff_forall_mem.1 h.1 e b
     simpa[a] using this
   | succ i =>
     simp at ho
     intro e b a
     have:=back_at l (k+1) i o h.2 ho e b a
     omega
structure Qlg (E:Tmp->Value->World->Prop) (W:World->Prop) (l:List Oper) (outs:List Tmp) (a0:Act) (listed:Array Bool) (a:Act) (w:World):Prop where
 world:W w
 defers:a.defers=a0.defers
 size:a.tmps.size=a0.tmps.size
 outer:∀ t,t ∉ Qu l->a.tmps[t]?=a0.tmps[t]?
 outs:∀ t∈outs,t ∉ Qu l->E t (a.tmps.getD t undef) w
 known:∀ j o t,l[j]?=some o->o.dst=some t->listed.getD j false=true->E t (a.tmps.getD t undef) w
theorem Qcs {l:List Oper}{outs:List Tmp}{gs:List (Nat × Option Bool)}{bs:List Bool}{a0:Act}{Q:Exit->Act->World->Prop}
 (hB:Qc0 l a0.tmps.size outs gs bs=true) (hR:∀ t v w w',R w w'->E t v w->E t v w') (hG:Qbi E W l.toArray gs) (hA:Qen E W R P l bs)
 (ad:∀ (vs:Tmp->Value) w',W w'->(∀ t,(Qu l).contains t=true->E t (vs t) w')->Q .normal (Zn a0 vs (Qu l)) w') :
 ∀ (fuel:Nat) (listed:Array Bool) (a:Act) (w:World),listed.size=l.length->(listed.toList.filter (·==false)).length<=fuel->Qlg E W l outs a0 listed a w ->
  wpAny P .any l.toArray Q fuel listed a w:=by
 simp only[Qc0,Bool.and_eq_true] at hB
 obtain⟨⟨⟨⟨⟨aq,ax⟩,K⟩,al⟩,am⟩,ao⟩:=hB
 have aa:∀ (listed:Array Bool) (a:Act) (w:World),listed.size=l.length->Region.ready .any l.toArray listed=[]->Qlg E W l outs a0 listed a w->Q .normal a w:=by
  intro listed a w T J f
  have ae:∀ j,j<l.length->listed.getD j false=true:=by
   intro j
   induction j using Nat.strongRecOn with
   | _ j ih =>
     intro z
     cases r:listed.getD j false with
     | true=>rfl
     | false =>
       exfalso
       have:j∈Region.ready .any l.toArray listed:=by
        unfold Region.ready;refine List.mem_filter.2 ⟨by simpa using z,?_⟩
        have V:listed.getD j true=false:=by
         have ar:j<listed.size:=by omega
         simp[Array.getD,ar] at r |-;exact r
        have U:l.toArray[j]?=some l[j]:=by simp[z]
        rw[V,U]
        simp only[Bool.not_false,Bool.true_and,Option.map_some,Option.getD_some]
        rw[Array.all_eq_true_iff_forall_mem]
        intro e X
        cases hbd:Region.binds .any e with
        | false=>rfl
        | true =>
          have:=back_at l 0 j l[j] ao (by simp[z]) e X hbd
          simp only[Bool.not_true,Bool.false_or]
          exact ih e.on (by omega) (by omega)
       rw[J] at this
       cases this
  have af:∀ t∈Qu l,E t (a.tmps.getD t undef) w/\t<a0.tmps.size:=by
   intro t q;obtain⟨o,ho,s⟩:=List.mem_filterMap.1 q
   obtain⟨j,z⟩:=List.getElem?_of_mem ho
   have D:j<l.length:=by
    rcases Nat.lt_or_ge j l.length with h | h
    ·exact h
    ·rw[Xk h] at z;cases z
   exact⟨f.known j o t z s (ae j D),by simpa using Xe.1 K t q⟩
  have X:a=Zn a0 (fun t=>a.tmps.getD t undef) (Qu l):=by
   have V:a.tmps=(Zn a0 (fun t=>a.tmps.getD t undef) (Qu l)).tmps:=by
    refine Array.ext (by rw[Qbm,f.size]) fun t N L=>?_;have h3:t<a0.tmps.size:=by rw[<-f.size];exact N
    have:=Qdb (fun t=>a.tmps.getD t undef) (Qu l) a0 t h3
    rw[Xj L] at this
    by_cases hm:t∈Qu l
    ·rw[Xs hm] at this
     simp only[Option.some.injEq] at this
     rw[this];simp[Array.getD,N]
    ·rw[Xr hm,<-f.outer t hm,Xj N] at this
     exact(Xn this).symm
   have U:a.defers=(Zn a0 (fun t=>a.tmps.getD t undef) (Qu l)).defers:=by rw[Qa3,f.defers]
   cases a with
   | mk t d =>
     simp only at V U
     generalize hp:Zn a0 (fun x=>t.getD x undef) (Qu l)=p at V U |-
     cases p;simp only at V U;rw[V,U]
  rw[X]
  exact ad _ _ f.world fun t q=>(af t (by simpa using q)).1
 intro fuel
 induction fuel with
 | zero =>
   intro listed a w T hf f
   have J:Region.ready .any l.toArray listed=[]:=by
    rw[List.eq_nil_iff_forall_not_mem]
    intro i hi;obtain⟨N,L⟩:=List.mem_filter.1 hi
    have D:i<l.length:=by simpa using N
    simp only[Bool.and_eq_true,Bool.not_eq_true'] at L
    have:listed[i]'(by omega)=false:=by
     have:=L.1;simp[Array.getD,show i<listed.size by omega] at this;exact this
    have hm:false∈listed.toList.filter (·==false):=List.mem_filter.2 ⟨by rw[<-this];simp,by simp⟩
    have:=List.length_pos_of_mem hm
    omega
   exact⟨J,aa listed a w T J f⟩
 | succ fuel ih =>
   intro listed a w T hf f;refine⟨fun J=>aa listed a w T J f,fun i hi=>?_⟩
   obtain⟨N,L⟩:=List.mem_filter.1 hi
   have D:i<l.length:=by simpa using N
   simp only[Bool.and_eq_true,Bool.not_eq_true'] at L
   obtain⟨ac,m⟩:=L
   have ah:i<listed.size:=by omega
   have ab:listed[i]=false:=by simp[Array.getD,ah] at ac;exact ac
   have ho:l.toArray[i]?=some l[i]:=by simp[D]
   have n:l[i]?=some l[i]:=by simp[D]
   generalize az:l[i]=o at ho n;rw[ho] at m
   simp only[Option.map_some,Option.getD_some] at m
   rw[Array.all_eq_true_iff_forall_mem] at m
   have u:∀ t∈o.looksAt l.toArray,E t (a.tmps.getD t undef) w:=by
    intro t q
    have:=Xe.1 (Xe.1 al o (Zm n)) t q
    rw[Bool.or_eq_true] at this
    rcases this with h | h
    ·simp only[Bool.and_eq_true,Bool.not_eq_true'] at h
     exact f.outs t (by simpa using h.1) (by simpa using h.2)
    ·obtain⟨k,hk,h⟩:=Array.any_eq_true.1 h
     simp only[Bool.and_eq_true,beq_iff_eq] at h
     obtain⟨r,s⟩:=h
     have G:=m _ (Array.getElem_mem hk);rw[r] at G
     simp only[Bool.not_true,Bool.false_or] at G
     generalize o.after[k]=e at *;obtain⟨oj,av,an⟩:=Option.bind_eq_some_iff.1 s
     exact f.known e.on oj t (by simpa using av) an G
   have aj:Qjg E a w (QjT o):=QgE _ fun t q=>u t (by
    unfold Oper.looksAt;exact List.mem_append_left _ q)
   have hw:∀ b,onB gs o b=true->Region.wanted o (yielded l.toArray a.tmps)=b:=by
    intro b r;unfold onB at r;unfold Region.wanted
    cases hg:o.guard with
    | none=>rw[hg] at r;simp only at r |-;exact r.symm
    | some gw =>
      obtain⟨g,ay⟩:=gw
      rw[hg] at r
      simp only at r |-
      cases G:gs.lookup g with
      | none=>rw[G] at r;cases r
      | some c =>
        rw[G] at r
        simp only[beq_iff_eq] at r
        have hy:yielded l.toArray a.tmps g=c:=by
         unfold yielded;have aw:(g,c)∈gs:=mem_of_lookup gs g c G;have B:=Xe.1 aq _ aw
         cases s:(l.toArray[g]?).bind (·.dst) with
         | none=>rw[s] at B;cases B
         | some t =>
           have hE:=u t (by unfold Oper.looksAt;rw[hg];simp only[s];simp);have F:=QeW gs hG g c G t s _ _ f.world hE;obtain⟨og,ak,ap⟩:=Option.bind_eq_some_iff.1 s
           have S:t<a.tmps.size:=by
            rw[f.size]
            have:=Xe.1 K t (List.mem_filterMap.2 ⟨og,Zm (by simpa using ak),ap⟩)
            simpa using this
           have q:a.tmps[t]?=some (a.tmps.getD t undef):=by simp[Array.getD,S]
           simp only[Option.bind_some,q]
           cases c with
           | none=>simp only at F;rw[F];rfl
           | some b=>simp only at F;rw[F]
        rw[hy,r]
   have I:((listed.setIfInBounds i true).toList.filter (·==false)).length<=fuel:=by
    have h3:=filter_set listed.toList i (by simpa using ah) (by simpa using ab);rw[Array.toList_setIfInBounds]
    omega
   have H:∀ v w',W w'->(∀ t v,E t v w->E t v w')->EO E o.dst v w'->Qlg E W l outs a0 (listed.setIfInBounds i true) (a.put o.dst v) w':=by
    intro v w' O y F
    have C:∀ t,o.dst≠some t->(a.put o.dst v).tmps[t]?=a.tmps[t]?:=by
     intro t q
     cases s:o.dst with
     | none=>rfl
     | some d =>
       have:d≠t:=fun e=>q (by rw[s,e])
       simp[Act.put,this]
    have A:∀ (b c:Array Value) (t:Nat),b[t]?=c[t]?->b.getD t undef=c.getD t undef:=by
     intro b c t h;rw[Za,Za,h]
    refine⟨O,?_,?_,?_,?_,?_⟩
    ·rw[<-f.defers];cases o.dst<;>rfl
    ·rw[<-f.size];cases o.dst<;>simp[Act.put]
    ·intro t q;rw[C t (fun e=>q (List.mem_filterMap.2 ⟨o,Zm n,e⟩)),f.outer t q]
    ·intro t q hn;rw[A _ _ t (C t (fun e=>hn (List.mem_filterMap.2 ⟨o,Zm n,e⟩)))]
     exact y _ _ (f.outs t q hn)
    ·intro j oj t z s ag;by_cases M:j=i
     ·subst M;rw[n] at z
      obtain rfl:=Xn z
      have S:t<a.tmps.size:=by
       rw[f.size]
       have:=Xe.1 K t (List.mem_filterMap.2 ⟨o,Zm n,s⟩)
       simpa using this
      rw[s] at F |-
      have:(a.put (some t) v).tmps.getD t undef=v:=by simp[Act.put,Array.getD,S]
      rw[this];exact F
     ·have au:o.dst≠some t:=fun e=>M (nodup_apart l j i oj o t ax z n s e);rw[A _ _ t (C t au)]
      refine y _ _ (f.known j oj t z s ?_);have ai:i≠j:=fun e=>M e.symm;rw[Za,Array.getElem?_setIfInBounds_ne ai] at ag
      rw[Za];exact ag
   unfold wpOp;rw[ho]
   simp only
   rcases Qhw gs l bs am hA i o n with ⟨h,y⟩|⟨h,y⟩
   ·rw[hw true h,Xs Z]
    refine .inl (wpq (fun a' w' hh=>hh) (y a w f.world aj _ fun v w' J O F=>?_));exact ih _ _ _ (by simpa using T) I (H v w' O (fun t v X=>hR t v w w' J X) F)
   ·rw[hw false h]
    simp only[Bool.false_eq_true,if_false]
    exact ih _ _ _ (by simpa using T) I (H undef w f.world (fun _ _ h=>h) (y w f.world))
theorem QdR {l:List Oper}{outs:List Tmp}{gs:List (Nat × Option Bool)}{bs:List Bool}(h:n<=m) (a:Qc0 l n outs gs bs=true):Qc0 l m outs gs bs=true:=by
 simp only[Qc0,Bool.and_eq_true] at a |-
 obtain⟨⟨⟨⟨⟨d,f⟩,b⟩,i⟩,c⟩,j⟩:=a
 refine⟨⟨⟨⟨⟨d,f⟩,?_⟩,i⟩,c⟩,j⟩
 rw[Xe] at b |-
 intro t k;have g:t<n:=by simpa using b t k
 have e:t<m:=Zl g h;simpa using e
theorem QD {l:List Oper}{outs:List Tmp}{gs:List (Nat × Option Bool)}{bs:List Bool}{a:Act}{Q:Exit->Act->World->Prop}
 (E:Tmp->Value->World->Prop) (W:World->Prop) (R:World->World->Prop)
 (p:P.follows .mixedOrders=true)  (i:a.tmps.size=m) (c:n<=m) (g:Qc0 l n outs gs bs=true)
 (q:∀ t v w w',R w w'->E t v w->E t v w') (e:Qbi E W l.toArray gs) (d:W w.drew) (f:Qdt E a w.drew outs)
 (k:Qen E W R P l bs)
 (b:∀ (vs:Tmp->Value) w',W w'->(∀ t,(Qu l).contains t=true->E t (vs t) w')->Q .normal (Zn a vs (Qu l)) w') :
 (Code.region id l.toArray true).wp P Q a w:=by
 refine wp_region_any p ?_;refine Qcs (QdR (i ▸ c) g) q e k b _ _ _ _ (by simp) ?_ ⟨d,Z,Z,fun _ _=>rfl,fun t r _=>QcR outs f t r,?_⟩
 ·simp only[Array.toList_replicate]
  exact Zt (List.length_filter_le _ _) (by simp)
 ·intro j o t u s h;simp[Array.getD] at h
end
structure Fr (n:Nat) (a:Act) (L:List (Tmp × Value)):Prop where
 size:a.tmps.size=n
 defers:a.defers=[]
 sl:∀ t v,L.lookup t=some v->a.tmps.getD t undef=v
section
variable {P:Program}{n:Nat}{a:Act}{L:List (Tmp × Value)}{w w':World}{Q:Exit->Act->World->Prop}{ops:Array Oper}{o:Oper}{rest:List Oper}{t:Tmp}{v:Value}
theorem Fr.put (h:Fr n a L) (g:Nat.blt t n=true):Fr n (a.put (some t) v) ((t,v)::L):=by
 have d:t<n:=by simpa[Nat.blt,Nat.ble_eq,Nat.succ_le_iff] using g
 refine⟨by simpa[Act.put] using h.size,h.defers,fun s u b=>?_⟩
 by_cases e:s=t
 ·subst e;simp at b
  subst b
  have:s<a.tmps.size:=by rw[h.size];exact d
  simp[Act.put,Array.getD,this]
 ·have f:(s==t)=false:=by simpa using e
  simp only[List.lookup_cons,f] at b
  have:=h.sl s u b
  have c:t≠s:=fun x=>e x.symm;rw[Za] at this |-
  simp only[Act.put]
  rw[Array.getElem?_setIfInBounds_ne c]
  exact this
theorem Fr.cons (h:Fr n a L) (e:a.tmps.getD t undef=v):Fr n a ((t,v)::L):=by
 refine⟨h.size,h.defers,fun s u b=>?_⟩
 by_cases d:s=t
 ·subst d;simp at b
  subst b;exact e
 ·have c:(s==t)=false:=by simpa using d
  simp only[List.lookup_cons,c] at b
  exact h.sl s u b
theorem Fr.nil (h:Fr n a L):Fr n a []:=⟨h.size,h.defers,fun s u b=>by simp at b⟩
theorem Fr.keep {b:List (Tmp × Value)}(h:Fr n a L) (k:Fr n a b) (e:L.lookup t=some v):Fr n a ((t,v)::b):=k.cons (h.sl t v e)
theorem Q5 {l:List Oper}(h:∀ ops:Array Oper,(∀ g:Nat,(ops[g]?).bind (fun o:Oper=>o.dst)=(l[g]?).bind (fun o:Oper=>o.dst))->wpList P ops Q l a w):(Code.region id l.toArray false).wp P Q a w :=
 wp_region_lit (h _ fun g=>by simp)
theorem Zh (b:Fr n a L) (f:o.dst=some t) (d:o.guard=none) (e:Nat.blt t n=true)
 (h:∀ K:Act->World->Prop,K (a.put (some t) v) w'->o.wp P a w K Q)
 (k:∀ a',Fr n a' ((t,v)::L)->wpList P ops Q rest a' w'):wpList P ops Q (o::rest) a w :=
 wpList_plain d fun K c=>h K (c _ _ (k _ (b.put e)))
theorem Qez (d:Fr n a L) (e:o.dst=none) (c:o.guard=none)
 (h:∀ K:Act->World->Prop,K a w'->o.wp P a w K Q)
 (k:wpList P ops Q rest a w'):wpList P ops Q (o::rest) a w :=
 wpList_plain c fun K b=>h K (b _ _ k)
theorem Qgo {d:Nat}{c:Bool}{u:Value}(h:Fr n a L) (j:o.guard=some (g,c)) (k:(ops[g]?).bind (fun o:Oper=>o.dst)=some d) (f:Nat.blt d n=true) (l:L.lookup d=some u) :
 Region.wanted o (yielded ops a.tmps)=(match u with | .bool b=>b==c | _=>false):=by
 have e:d<a.tmps.size:=by rw[h.size];simpa[Nat.blt,Nat.ble_eq,Nat.succ_le_iff] using f
 have:=h.sl d u l
 have i:a.tmps[d]?=some u:=by rw[<-this];simp[Array.getD,e]
 simp only[Region.wanted,j,yielded,k,Option.bind_some,i]
 cases u<;>simp
theorem Qk6 {e:Nat}{c:Bool}{u:Value}(f:Fr n a L) (l:o.dst=some t) (p:o.guard=some (g,c)) (h:(ops[g]?).bind (fun o:Oper=>o.dst)=some e) (d:Nat.blt e n=true) (i:L.lookup e=some u) (j:(match u with | .bool b=>b==c | _=>false)=false) (q:Nat.blt t n=true)
 (k:∀ a',Fr n a' ((t,undef)::L)->wpList P ops Q rest a' w):wpList P ops Q (o::rest) a w :=
 wpList_step fun K m=>by
  rw[Qgo f p h d i,j]
  simp only[Bool.false_eq_true,if_false,l]
  exact m _ _ (k _ (f.put q))
theorem Qt {x y:Code}{b:Bool}(e:Fr n a L) (c:L.lookup t=some (.bool b)) (f:b=true->x.wp P Q a w) (d:b=false->y.wp P Q a w):(Code.cond (.tmp t) x y).wp P Q a w :=
 wp_cond_split (e.sl t _ c) f d
theorem Qab {x y:Code}(c:Fr n a L) (b:L.lookup t=some (.bool true)) (h:x.wp P Q a w):(Code.cond (.tmp t) x y).wp P Q a w:=wp_cond_true (c.sl t _ b) h
theorem Qgg {x y:Code}(c:Fr n a L) (b:L.lookup t=some (.bool false)) (h:y.wp P Q a w):(Code.cond (.tmp t) x y).wp P Q a w:=wp_cond_false (c.sl t _ b) h
theorem Qef {l1 l2:List Oper}(h:wpList P ops (Exit.then (fun a w=>wpList P ops Q l2 a w) Q) l1 a w):wpList P ops Q (l1++l2) a w:=by
 induction l1 generalizing a w with
 | nil=>exact h
 | cons o l ih =>
   simp only[List.cons_append]
   unfold wpList at h |-;split
   ·rename_i b
    rw[Xs b] at h
    refine h.imp (fun h=>Oper.wp_mono (fun a w c=>ih c) ?_) id;unfold Oper.wp at *;generalize (execOp a.eval o).run P w=r at *
    cases r with
    | ok n w'=>cases n<;>exact h
    | halt x w'=>cases x<;>exact h
   ·rename_i b
    rw[Xr b] at h
    exact ih h
theorem QfX {l:List Oper}(k:Nat) (Φ:Act->World->Prop) (b:∀ K:Act->World->Prop,(∀ a w,Φ a w->K a w)->wpList P ops (Exit.then K Q) (l.take k) a w) (c:∀ a w,Φ a w->wpList P ops Q (l.drop k) a w):wpList P ops Q l a w:=by
 have:=Qef (l1:=l.take k) (l2:=l.drop k) (b _ c)
 rwa [List.take_append_drop] at this
theorem Qd {K:Act->World->Prop}(h:Q .ret a w):Exit.then K Q .ret a w:=h
theorem Qc (h:Q .ret a w):Exit.inBlock id Q .ret a w:=h
open Classical in
theorem ZL {c:Code}(I:Nat->Act->World->Prop) (q:Nat) (m:I q a w)
 (b:∀ q a w,I q a w->∀ K:Act->World->Prop,(∀ a' w' q',q'<q->I q' a' w'->K a' w')->c.wp P (Exit.then K Q) a w):(Code.loop c).wp P Q a w:=by
 have d:∀ {a w},(∃ q,I q a w)->∃ q,I q a w/\∀ r,I r a w->q<=r:=by
  rintro a w ⟨q,p⟩
  induction q using Nat.strongRecOn with
  | _ q ih =>
    by_cases k:∃ r,r<q/\I r a w
    ·obtain⟨r,g,n⟩:=k
     exact ih r g n
    ·exact⟨q,p,fun r g=>Xo fun h=>k ⟨r,h,g⟩⟩
 refine wp_loop (fun a w=>∃ q,I q a w) (fun a w=>if h:∃ q,I q a w then Classical.choose (d h) else 0) ⟨q,m⟩ fun a w l=>?_;have o:=Classical.choose_spec (d l);refine b _ a w o.1 _ fun a' w' q' f e=>⟨⟨q',e⟩,?_⟩;have j:∃ q,I q a' w':=⟨q',e⟩;have i:=Classical.choose_spec (d j);rw[dif_pos j,dif_pos l]
 exact Nat.lt_of_le_of_lt (i.2 q' e) f
theorem Qv {f:FuncId}{fn:Func}{c:Code}{args:Array Value}{R:Ending->World->Prop}(q:P.funcs[f]?=some fn) (p:fn.body=some c) (m:fn.ntmps=n) (i:Nat.ble args.size n=true)
 (h:∀ a,Fr n a (args.toList.zipIdx.map fun x=>(x.2,x.1))->c.wp P (bodyPost P fn R) a w):Calls P f args w R:=by
 have o:args.size<=n:=by simpa[Nat.ble_eq] using i
 refine calls_of_wp q p (h _ ⟨by simp[m];omega,Z,fun t v j=>?_⟩)
 have:∀ (l:List Value) (k t:Nat),((l.zipIdx k).map fun x=>(x.2,x.1)).lookup t=some v->k<=t/\l[t - k]?=some v:=by
  intro l
  induction l with
  | nil=>intro k t h;simp at h
  | cons x l ih =>
    intro k t h;by_cases e:t=k
    ·subst e;simp at h;subst h;simp
    ·have g:(t==k)=false:=by simpa using e
     simp only[List.zipIdx_cons,List.map_cons,List.lookup_cons,g] at h
     obtain⟨r,b⟩:=ih (k+1) t h
     refine⟨by omega,?_⟩
     have:t - k=(t - (k+1))+1:=by omega
     rw[this]
     simpa using b
 obtain⟨_,b⟩:=this _ 0 t j
 simp at b
 have d:t<args.size:=(Array.getElem?_eq_some_iff.1 b).1;rw[Za,Array.getElem?_append_left d,b]
 rfl
end
section
variable {P:Program}{Q:Exit->Act->World->Prop}
theorem Qka {o:Oper}{a:Act}{K N:Act->World->Prop}(h:o.wp P a w K (Exit.then N Q)):o.wp P a w K Q:=by
 unfold Oper.wp at *;generalize (execOp a.eval o).run P w=r at *
 cases r with
 | ok n w'=>cases n<;>exact h
 | halt x w'=>cases x<;>exact h
def QdB (n:Nat) (l:List Oper):Bool:=l.all fun o=>match o.guard with | some (g,_)=>decide (g<n) | none=>true
theorem ZE {b:Array Oper}{a:Array Bool}:i∈Region.ready .any b a↔i<b.size/\a.getD i true=false/\∃ o,b[i]?=some o/\∀ e∈o.after,Region.binds .any e=true->a.getD e.on false=true:=by
 unfold Region.ready;rw[List.mem_filter]
 simp only[List.mem_range,Bool.and_eq_true,Bool.not_eq_true']
 refine and_congr_right fun c=>and_congr_right fun d=>?_;rw[Xj c]
 simp only[Option.map_some,Option.getD_some,Option.some.injEq,exists_eq_left']
 rw[Array.all_eq_true_iff_forall_mem]
 refine forall_congr' fun e=>forall_congr' fun f=>?_
 cases Region.binds .any e<;>simp
end
theorem XP:type_of% @List.getElem?_append_left:=@List.getElem?_append_left
theorem XQ:type_of% @List.getElem?_append_right:=@List.getElem?_append_right
section
variable {P:Program}{Q:Exit->Act->World->Prop}
def Qde (all:List Oper):Nat->Oper->Nat->Bool
 | 0,_,_=>false
 | f+1,o,j=>o.after.any fun e=>Region.binds .any e&&(e.on==j||(match all[e.on]? with | some o'=>Qde all f o' j | none=>false))
def QbA (all:List Oper) (k:Nat):List Oper->Bool
 | []=>true
 | o::l=>((List.range k).all fun j=>Qde all 24 o j)&&QbA all (k+1) l
theorem Qdo {all:List Oper}{j:Nat}{S:Nat->Prop}(c:∀ (q:Nat) (o':Oper),all[q]?=some o'->S q->∀ e∈o'.after,Region.binds .any e=true->S e.on):∀ (f:Nat) (o:Oper),Qde all f o j=true->(∀ e∈o.after,Region.binds .any e=true->S e.on)->S j
 | 0,_,h,_=>by simp[Qde] at h
 | f+1,o,h,hS=>by
   simp only[Qde] at h
   obtain⟨q,i,b⟩:=Array.any_eq_true.1 h
   rw[Bool.and_eq_true,Bool.or_eq_true] at b
   have g:=Array.getElem_mem i;generalize o.after[q]=d at b g;rcases b.2 with a | a
   ·have:=hS d g b.1
    rwa [beq_iff_eq.1 a] at this
   ·cases ho':all[d.on]? with
    | none=>rw[ho'] at a;simp at a
    | some o' =>
      rw[ho'] at a
      exact Qdo c f o' a (c _ o' ho' (hS d g b.1))
theorem QeC (all:List Oper):∀ (l:List Oper) (k i:Nat) (o:Oper),QbA all k l=true->l[i]?=some o->∀ j,j<k+i->∀ S:Nat->Prop,
 (∀ (q:Nat) (o':Oper),all[q]?=some o'->S q->∀ e∈o'.after,Region.binds .any e=true->S e.on)->(∀ e∈o.after,Region.binds .any e=true->S e.on)->S j
 | [],_,_,_,_,h=>by simp at h
 | x::l,k,0,o,h,ho=>by
   simp at ho;subst ho
   simp only[QbA,Bool.and_eq_true] at h
   intro j b S a c;exact Qdo a 24 x (Xe.1 h.1 j (by simpa using b)) c
 | x::l,k,i+1,o,h,ho=>by
   simp only[QbA,Bool.and_eq_true] at h
   simp at ho
   intro j b;exact QeC all l (k+1) i o h.2 ho j (by omega)
theorem Qg5 {l:List Oper}(K:QbI 0 l=true){k0:Nat}(X:QbA l k0 (l.drop k0)=true):∀ (m k fuel:Nat) (listed:Array Bool) (a:Act) (w:World),k+m=l.length->k0<=k->m<=fuel->listed.size=l.length ->
 (∀ j,j<l.length->listed.getD j false=decide (j<k))->wpList P l.toArray Q (l.drop k) a w->wpAny P .any l.toArray Q fuel listed a w:=by
 intro m
 induction m with
 | zero =>
   intro k fuel listed a w O _ _ I c h
   have v:Region.ready .any l.toArray listed=[]:=by
    rw[List.eq_nil_iff_forall_not_mem]
    intro i s;obtain⟨F,r,_⟩:=ZE.1 s
    have p:i<l.length:=by simpa using F
    have:=c i p
    have S:decide (i<k)=true:=by simp;omega
    rw[S] at this
    have n:i<listed.size:=by omega
    simp[Array.getD,n] at this r
    rw[this] at r;cases r
   have t:Q .normal a w:=by
    rw[List.drop_of_length_le (by omega)] at h
    exact h
   cases fuel with
   | zero=>exact⟨v,t⟩
   | succ fuel=>exact⟨fun _=>t,fun i s=>by rw[v] at s;cases s⟩
 | succ m ih =>
   intro k fuel listed a w O N hf I c h;have b:k<l.length:=by omega
   obtain⟨fuel,rfl⟩:∃ f,fuel=f+1:=⟨fuel - 1,by omega⟩
   have u:k<listed.size:=by omega
   have A:k∈Region.ready .any l.toArray listed:=by
    refine ZE.2 ⟨by simpa using b,?_,l[k],by simp[b],fun e y g=>?_⟩
    ·have:=c k b
     simp[Array.getD,u] at this |-;exact this
    ·have:=back_at l 0 k l[k] K (by simp[b]) e y g
     rw[c _ (by omega)];simp;omega
   refine⟨fun v=>absurd (v ▸ A) (by simp),fun i s=>?_⟩
   have H:i=k:=by
    obtain⟨F,r,o,E,V⟩:=ZE.1 s
    have p:i<l.length:=by simpa using F
    have z:listed.getD i false=false:=by
     have n:i<listed.size:=by omega
     simp[Array.getD,n] at r |-;exact r
    have B:k<=i:=by
     have:=c i p
     rw[z] at this
     have:¬ i<k:=by simpa using this.symm
     omega
    rcases Nat.eq_or_lt_of_le B with e | R
    ·exact e.symm
    ·exfalso
     have:=QeC l (l.drop k0) k0 (i - k0) o X (by rw[List.getElem?_drop,show k0+(i - k0)=i by omega];simpa using E) k (by omega) (fun j=>listed.getD j false=true)
      (fun q M t T e y g=>by
       have D:q<l.length:=(Zi t).1;have L:=back_at l 0 q M K t e y g;have J:listed.getD q false=true:=T;rw[c q D] at J
       have h6:q<k:=by simpa using J
       show listed.getD e.on false=true;rw[c e.on (by omega)];simp;omega) V
     rw[c k b] at this
     simp at this
   subst H;rw[List.drop_eq_getElem_cons b] at h
   have E:l.toArray[i]?=some l[i]:=by simp[b]
   have d:∀ a w,wpList P l.toArray Q (l.drop (i+1)) a w->wpAny P .any l.toArray Q fuel (listed.setIfInBounds i true) a w:=fun a w U =>
    ih (i+1) fuel _ a w (by omega) (by omega) (by omega) (by simpa using I) (fun j W=>by
     by_cases e:j=i
     ·subst e;simp[Array.getD,u]
     ·have G:i≠j:=fun x=>e x.symm;rw[Za,Array.getElem?_setIfInBounds_ne G,<-Za,c j W]
      simp;omega) U
   unfold wpOp;rw[E]
   simp only
   unfold wpList at h;split
   ·rename_i C
    rw[Xs C] at h
    exact h.imp (Oper.wp_mono d) id
   ·rename_i C
    rw[Xr C] at h
    exact d _ _ h
theorem Qc2 {l l2:List Oper}(hb:QbI 0 (l++l2)=true) (hg:QdB l.length l=true) (ht:QbA (l++l2) l.length l2=true):∀ (fuel:Nat) (listed:Array Bool) (a:Act) (w:World),listed.size=l.length→(∀ (q:Nat) (o:Oper),l[q]?=some o→listed.getD q false=true→∀ e∈o.after,Region.binds .any e=true→listed.getD e.on false=true) →
 wpAny P .any l.toArray (Exit.then (fun a w=>wpList P (l++l2).toArray Q l2 a w) Q) fuel listed a w →
 wpAny P .any (l++l2).toArray Q (fuel+l2.length) (listed++Array.replicate l2.length false) a w:=by
 have y:∀ (i:Nat) (o:Oper),l[i]?=some o→∀ e∈o.after,Region.binds .any e=true→e.on<i:=fun i o r e n c=>by
  have p:i<l.length:=(Zi r).1
  have:=back_at (l++l2) 0 i o hb (by rw[XP p];exact r) e n c
  omega
 have f:∀ (listed:Array Bool) (j:Nat) (d:Bool),listed.size=l.length→j<l.length→(listed++Array.replicate l2.length false).getD j d=listed.getD j d:=fun listed j d k x=>by
  rw[Za,Za,Array.getElem?_append_left (by omega)]
 have D:∀ (listed:Array Bool) (j:Nat),listed.size=l.length→l.length≤j→(listed++Array.replicate l2.length false).getD j false=false:=fun listed j k x=>by
  rw[Za,Array.getElem?_append_right (by omega)]
  cases h:(Array.replicate l2.length false)[j - listed.size]? with
  | none=>rfl
  | some b =>
    have:=Array.mem_of_getElem? h
    simp at this
    simp[this.2]
 -- all of the first part are listed
 have C:∀ (fuel:Nat) (listed:Array Bool) (a:Act) (w:World),listed.size=l.length→(∀ j,j<l.length→listed.getD j false=true)→wpList P (l++l2).toArray Q l2 a w →
  wpAny P .any (l++l2).toArray Q (fuel+l2.length) (listed++Array.replicate l2.length false) a w:=fun fuel listed a w k m h=>by
  refine Qg5 hb (k0:=l.length) (by simpa using ht) l2.length l.length _ _ a w (by simp) Ze (by omega) (by simp[k]) (fun j x=>?_) (by simpa using h);by_cases v:j<l.length
  ·rw[f listed j false k v,m j v];simp[v]
  ·rw[D listed j k (by omega)];simp;omega
 have s:∀ (listed:Array Bool),listed.size=l.length→Region.ready .any l.toArray listed=[]→∀ j,j<l.length→listed.getD j false=true:=fun listed k W j=>by
  induction j using Nat.strongRecOn with
  | _ j ih =>
    intro x
    cases hc:listed.getD j false with
    | true=>rfl
    | false =>
      exfalso
      have v:j<listed.size:=by omega
      have S:listed.getD j true=false:=by simp[Array.getD,v] at hc ⊢;exact hc
      have:j∈Region.ready .any l.toArray listed:=ZE.2 ⟨by simpa using x,S,l[j],by simp[x],fun e n c=>by
       have:=y j l[j] (by simp[x]) e n c
       exact ih e.on this (by omega)⟩
      rw[W] at this;cases this
 intro fuel
 induction fuel with
 | zero =>
   intro listed a w k E h;exact C 0 listed a w k (s listed k h.1) h.2
 | succ fuel ih =>
   intro listed a w k E h;by_cases m:∀ j,j<l.length→listed.getD j false=true
   ·refine C (fuel+1) listed a w k m (h.1 ?_);rw[List.eq_nil_iff_forall_not_mem]
    intro i p;obtain⟨H,B,_⟩:=ZE.1 p
    have V:i<l.length:=by simpa using H
    have:=m i V
    have t:i<listed.size:=by omega
    simp[Array.getD,t] at this B
    rw[this] at B;cases B
   ·have X:Region.ready .any l.toArray listed≠[]:=fun e=>m (s listed k e)
    have A:∀ i,i∈Region.ready .any (l++l2).toArray (listed++Array.replicate l2.length false)↔i∈Region.ready .any l.toArray listed:=fun i=>by
     rw[ZE,ZE]
     by_cases p:i<l.length
     ·have e1:(l++l2).toArray[i]?=l.toArray[i]?:=by simp[List.getElem?_append_left p]
      rw[f listed i true k p,e1]
      constructor
      ·rintro ⟨_,B,o,r,F⟩;refine⟨by simpa using p,B,o,r,fun e n c=>?_⟩
       have:=y i o (by simpa using r) e n c
       have h4:=F e n c;rwa [f listed e.on false k (by omega)] at h4
      ·rintro ⟨_,B,o,r,F⟩;refine⟨by simp;omega,B,o,r,fun e n c=>?_⟩
       have:=y i o (by simpa using r) e n c
       rw[f listed e.on false k (by omega)]
       exact F e n c
     ·constructor
      ·rintro ⟨H,B,o,r,F⟩;exfalso
       refine m fun j x=>?_;have I:(l++l2)[i]?=some o:=by simpa using r
       rw[XQ (by omega)] at I
       have:=QeC (l++l2) l2 l.length (i - l.length) o ht I j (by omega) (fun q=>(listed++Array.replicate l2.length false).getD q false=true)
        (fun q o' G O e n c=>by
         have N:(listed++Array.replicate l2.length false).getD q false=true:=O;by_cases K:q<l.length
         ·rw[f listed q false k K] at N
          rw[XP K] at G
          have h6:=y q o' G e n c;show (listed++Array.replicate l2.length false).getD e.on false=true;rw[f listed e.on false k (by omega)]
          exact E q o' G N e n c
         ·rw[D listed q k (by omega)] at N
          cases N) F
       rwa [f listed j false k x] at this
      ·rintro ⟨H,_⟩;exact absurd (by simpa using H) p
    rw[show fuel+1+l2.length=(fuel+l2.length)+1 by omega]
    refine⟨fun W=>?_,fun i p=>?_⟩
    ·exfalso
     apply X
     rw[List.eq_nil_iff_forall_not_mem]
     intro i p
     have:=(A i).2 p
     rw[W] at this;cases this
    ·have t:=(A i).1 p;have u:=h.2 i t;obtain⟨H,_⟩:=ZE.1 t
     have z:i<l.length:=by simpa using H
     have r:l.toArray[i]?=some l[i]:=by simp[z]
     have R:(l++l2).toArray[i]?=some l[i]:=by simp[List.getElem?_append_left z,z]
     unfold wpOp at u ⊢;rw[r] at u
     rw[R]
     simp only at u ⊢
     have hy:Region.wanted l[i] (yielded (l++l2).toArray a.tmps)=Region.wanted l[i] (yielded l.toArray a.tmps):=by
      unfold Region.wanted
      cases hgd:(l[i]).guard with
      | none=>rfl
      | some gw =>
        obtain⟨g,aa⟩:=gw
        have:=Xe.1 hg l[i] (List.getElem_mem z)
        rw[hgd] at this
        have T:g<l.length:=by simpa using this
        simp only
        have:yielded (l++l2).toArray a.tmps g=yielded l.toArray a.tmps g:=by
         unfold yielded
         have:(l++l2).toArray[g]?=l.toArray[g]?:=by simp[List.getElem?_append_left T]
         rw[this]
        rw[this]
     rw[hy]
     have nx:∀ a w,wpAny P .any l.toArray (Exit.then (fun a w=>wpList P (l++l2).toArray Q l2 a w) Q) fuel (listed.setIfInBounds i true) a w→wpAny P .any (l++l2).toArray Q (fuel+l2.length) ((listed++Array.replicate l2.length false).setIfInBounds i true) a w:=fun a w hh=>by
      have M:∀ (q:Nat) (o:Oper),l[q]?=some o→(listed.setIfInBounds i true).getD q false=true→∀ e∈o.after,Region.binds .any e=true→(listed.setIfInBounds i true).getD e.on false=true:=fun q o G O e n c=>by
       have up:∀ j,listed.getD j false=true→(listed.setIfInBounds i true).getD j false=true:=fun j x=>by
        by_cases L:i=j
        ·subst L
         have:i<listed.size:=by omega
         simp[Array.getD,this]
        ·rw[Za,Array.getElem?_setIfInBounds_ne L,← Za];exact x
       by_cases L:i=q
       ·subst L;obtain⟨_,_,o2,J,F⟩:=ZE.1 t
        have:o2=o:=by
         have h7:l[i]?=some o2:=by simpa using J
         rw[G] at h7;exact(Xn h7).symm
        subst this;exact up _ (F e n c)
       ·rw[Za,Array.getElem?_setIfInBounds_ne L,← Za] at O
        exact up _ (E q o G O e n c)
      have:=ih (listed.setIfInBounds i true) a w (by simpa using k) M hh
      have e:(listed++Array.replicate l2.length false).setIfInBounds i true=listed.setIfInBounds i true++Array.replicate l2.length false:=by
       rw[Array.setIfInBounds_append_left (by omega)]
      rw[e];exact this
     split
     ·rename_i U
      rw[Xs U] at u
      rcases u with u | u
      ·exact .inl (Oper.wp_mono nx (Qka u))
      ·exact .inr u
     ·rename_i U
      rw[Xr U] at u
      exact nx _ _ u
end
theorem Qg1 {l l2:List Oper}{outs:List Tmp}{gs:List (Nat × Option Bool)}{bs:List Bool}{a:Act}{Q:Exit->Act->World->Prop}
 (E:Tmp->Value->World->Prop) (W:World->Prop) (R:World->World->Prop)
 (y:P.follows .mixedOrders=true)  (s:a.tmps.size=m) (f:n<=m) (k:Qc0 l n outs gs bs=true)
 (i:(QbI 0 (l++l2)&&(QdB l.length l&&QbA (l++l2) l.length l2))=true)
 (A:∀ t v w w',R w w'->E t v w->E t v w') (p:Qbi E W l.toArray gs) (C:W w.drew) (z:Qdt E a w.drew outs)
 (B:Qen E W R P l bs)
 (b:∀ (vs:Tmp->Value) w',W w'->(∀ t,(Qu l).contains t=true->E t (vs t) w')->wpList P (l++l2).toArray Q l2 (Zn a vs (Qu l)) w') :
 (Code.region id (l++l2).toArray true).wp P Q a w:=by
 simp only[Bool.and_eq_true] at i
 obtain⟨h,d,g⟩:=i
 refine wp_region_any y ?_
 have c:wpAny P .any l.toArray (Exit.then (fun a w=>wpList P (l++l2).toArray Q l2 a w) Q) l.length (Array.replicate l.length false) a w.drew:=by
  refine Qcs (E:=E) (W:=W) (R:=R) (a0:=a) (outs:=outs) (gs:=gs) (bs:=bs) (QdR (s ▸ f) k) A p B b _ _ _ _ (by simp) ?_ ⟨C,Z,Z,fun _ _=>rfl,fun t D _=>QcR outs z t D,?_⟩
  ·simp only[Array.toList_replicate]
   exact Zt (List.length_filter_le _ _) (by simp)
  ·intro j o t F H r;simp[Array.getD] at r
 have:=Qc2 (Q:=Q) h d g l.length (Array.replicate l.length false) a w.drew (by simp) (fun q o G u=>by simp[Array.getD] at u) c
 have e:(Array.replicate l.length false++Array.replicate l2.length false:Array Bool)=Array.replicate (l++l2).toArray.size false:=by
  simp
 have x:l.length+l2.length=(l++l2).toArray.size:=by simp
 rw[e,x] at this
 exact this
theorem Qw {b:List Oper}{outs:List Tmp}{gs:List (Nat × Option Bool)}{bs:List Bool}{a:Act}{Q:Exit->Act->World->Prop}
 (k:Nat) (E:Tmp->Value->World->Prop) (W:World->Prop) (R:World->World->Prop)
 (e:P.follows .mixedOrders=true)  (j:a.tmps.size=m) (d:n<=m) (i:Qc0 (b.take k) n outs gs bs=true)
 (r:(QbI 0 b&&(QdB (b.take k).length (b.take k)&&QbA b (b.take k).length (b.drop k)))=true)
 (q:∀ t v w w',R w w'->E t v w->E t v w') (f:Qbi E W (b.take k).toArray gs) (p:W w.drew) (g:Qdt E a w.drew outs)
 (o:Qen E W R P (b.take k) bs)
 (c:∀ ops (vs:Tmp->Value) w',W w'->(∀ t,(Qu (b.take k)).contains t=true->E t (vs t) w')->wpList P ops Q (b.drop k) (Zn a vs (Qu (b.take k))) w') :
 (Code.region id b.toArray true).wp P Q a w:=by
 have h:=Qg1 (id:=id) (l:=b.take k) (l2:=b.drop k) (Q:=Q) E W R e j d i (by rw[List.take_append_drop];exact r) q f p g o (c _);rwa [List.take_append_drop] at h
def Qo (i:Nat):Code->Option Code
 | .region k ops d=>if k=i then some (.region k ops d) else none
 | .loop c=>Qo i c
 | .seq a b=>match Qo i a with
   | some c=>some c
   | none=>Qo i b
 | .block _ c=>Qo i c
 | .scope c=>Qo i c
 | .cond _ a b=>match Qo i a with
   | some c=>some c
   | none=>Qo i b
 | _=>none
def Qdh (k:Nat):Code->List Oper
 | .region _ ops _=>ops.toList.drop k
 | _=>[]
theorem Qp {p:Addr}(h:w.cell? p=some v) (b:Below w.heap.size w w'):w'.cell? p=some v:=(b.cell (Xi w p h)).trans h
theorem Xh:type_of% @And.intro:=@And.intro
theorem Xy:type_of% @bodyPost_ret:=@bodyPost_ret
theorem Xz:type_of% @bodyPost_end:=@bodyPost_end
theorem ZB (w:World) (c:Int):Calls prog 110 #[.bool true,.int .i64 c] w fun e w'=>e=.returned (.tuple #[])/\w'=w:=by
 go_enter func110,ntmps110
 go_wp2
 exact Xz (v:=.tuple #[]) (by simp[results,results110,go_sem]) Z ⟨Z,Z⟩
theorem ZA (w:World) (c:Int):Calls prog 110 #[.bool false,.int .i64 c] w fun e w'=>e=.panicked (Qfp c)/\w'=w:=by
 go_enter func110,ntmps110
 go_wp2
 exact⟨Z,Z,Z⟩
theorem Qb0 (w:World) (ok:Bool) (c:Int):Calls prog 110 #[.bool ok,.int .i64 c] w fun e w'=>w'=w/\((ok=true/\e=.returned (.tuple #[]))\/(ok=false/\e=.panicked (Qfp c))):=by
 cases ok
 ·exact(ZA w c).mono (fun e w' h=>⟨h.2,.inr ⟨Z,h.1⟩⟩)
 ·exact(ZB w c).mono (fun e w' h=>⟨h.2,.inl ⟨Z,h.1⟩⟩)
def Qac (c:Int) (V:Value->Prop) (e:Ending):Prop:=(c=0/\∃ x,e=.returned x/\V x)\/(c≠0/\e=.panicked (Qfp c))
theorem Qac.good {c:Int}{V:Value->Prop}{x:Value}(h:c=0) (a:V x):Qac c V (.returned x):=.inl ⟨h,x,Z,a⟩
theorem Qac.bad {c d:Int}{V:Value->Prop}(h:c=d) (a:d≠0):Qac c V (.panicked (Qfp d)):=.inr ⟨by omega,by rw[h]⟩
def QkO (w:World) (A:Nat->Prop) (s:JSt) (a:Int) (x:Value):Prop:=∃ (t:TT 6) (p:Option Addr) (c:Nat),s.at a=some t/\x=Tv t p c/\TIn w (fun g=>¬ A g) t p/\t.ok
def JSt.has (s:JSt) (a:Int):Int:=match s.at a with | none=>1 | some _=>0
theorem Qck {s:JSt}(a:Int) (F:s.L.length<=80) (h:SAt w b O A s) :
 Calls prog 112 #[.pointer (some ⟨b,0,none⟩),.int .i64 a] w fun e w'=>Qac (s.has a) (QkO w' A s a) e/\Below w.heap.size w w':=by
 have q:=QU w (.cells #[.int .i64 0,.int .i64 0,.slice none 0 0] 70);obtain⟨pm,cm,hh,a1,c1,a2,c2,a3,c3,aL,cL,R⟩:=h.read
 obtain⟨-,-,-,-,-,-,n⟩:=(R.below q).cells
 have x:=Qa R.row;have j:=Qa q;have f:Hid (Blk (w.alloc (.cells #[.int .i64 0,.int .i64 0,.slice none 0 0] 70)) w.heap.size #[.int .i64 0,.int .i64 0,.slice none 0 0] 70):=Blk.new _ _ _;clear R h q;go_enter func112,ntmps112
 go_upto_region 1 with fail
 generalize w.alloc (.cells #[.int .i64 0,.int .i64 0,.slice none 0 0] 70)=N at n x j f |-;by_cases M:0<=a
 rotate_left
 ·have X:decide (a>=0)=false:=by simpa using M
  have E:Hid (s.has a=1):=by show _=_;unfold JSt.has JSt.at;rw[Xs (by omega)]
  generalize s.L.length=J at n F;go_wp2_with fail
  refine(ZA _ 1).mono ?_
  rintro K w' ⟨rfl,k⟩;subst k;exact⟨Z,Qac.bad E.out (by decide),j.out⟩
 obtain⟨i,rfl⟩:=Xc M
 by_cases C:i<s.L.length
 rotate_left
 ·have E:Hid (s.has (i:Int)=1):=by
   show _=_;unfold JSt.has JSt.at;rw[Xr (by omega),XT,Xk (by omega)]
  have y:¬ (i:Int)<s.L.length:=by omega
  generalize s.L.length=J at n y C F;go_wp2_with fail
  refine(ZA _ 1).mono ?_
  rintro K w' ⟨rfl,k⟩;subst k;exact⟨Z,Qac.bad E.out (by decide),j.out⟩
 have d:s.L[i]?=some s.L[i]:=Zg C;generalize s.L[i]=t at d;have z:s.at (i:Int)=some t:=by unfold JSt.at;rw[Xr (by omega)];exact d
 obtain⟨g,p,c,rfl,o,I,P,G,H⟩:=x.out i t d
 have E:Hid (s.has (i:Int)=0):=by show _=_;unfold JSt.has;rw[z]
 have l:=Xi w ⟨g,i*3,none⟩ o;have e0:=Qp o j.out;have e1:=Qp I j.out;have e2:=Qp P j.out;have W:¬ w.heap.size=g:=fun e=>by have:g<w.heap.size:=l;omega
 have D:Hid (TIn w (fun g=>¬ A g) t p/\t.ok):=⟨G,H⟩;have V:=Qa z;have B:(i:Int)<s.L.length:=by omega
 clear o I P G H d z x l;have y0:=Qb f.out 0 _ Z;have y1:=Qb f.out 1 _ Z;have y2:=Qb f.out 2 _ Z;have z0:=Qn f.out 0;have z1:=Qn f.out 1;have z2:=Qn f.out 2;generalize T:s.L.length=J at n C B F;go_wp2_with (go_at_call 110;refine(ZB _ _).mono ?_;rintro K w' ⟨rfl,k⟩;have k:=k.symm;subst k)
 have m:=f.out.set3 (.int .i64 t.kind) (.int .i64 t.r) (.slice p t.len c);have u:Below w.heap.size w (((N.setCell ⟨w.heap.size,0,none⟩ (.int .i64 t.kind)).setCell ⟨w.heap.size,1,none⟩ (.int .i64 t.r)).setCell ⟨w.heap.size,2,none⟩ (.slice p t.len c)):=((j.out.setCell Ze _).setCell Ze _).setCell Ze _;generalize ((N.setCell ⟨w.heap.size,0,none⟩ (.int .i64 t.kind)).setCell ⟨w.heap.size,1,none⟩ (.int .i64 t.r)).setCell ⟨w.heap.size,2,none⟩ (.slice p t.len c)=w9 at m u |-;have S:=Qb m 0 _ Z;have Q:=Qb m 1 _ Z;have U:=Qb m 2 _ Z;exact Xy (v:=Tv t p c) (by simp[results,results112,go_sem,S,Q,U]) Z ⟨Qac.good E.out ⟨t,p,c,V.out,Z,D.out.1.below u,D.out.2⟩,u⟩
theorem Qgp {s:JSt}{a c:Int}{b:Bool}(h:s.has a≠0):s.want a c b=s.has a:=by
 unfold JSt.has JSt.want at *
 cases e:s.at a with
 | none=>rfl
 | some t=>rw[e] at h;exact absurd Z h
theorem SAt.more {s:JSt}(f:∀ k,O k->k<w.heap.size) (h:SAt w b O A s) (k:Below w.heap.size w w'):SAt w' b O (fun k=>A k\/w.heap.size<=k) s :=
 h.keep (fun g c _=>k.block g c) (fun _ h _=>h) (fun k a d e=>by rcases e with e | e;exact a e;omega) (fun k a=>.inl (h.sub k a))
theorem TIn.over {w9:World}{t:TT n}(h:TIn w2 (fun g=>¬ (A g\/w.heap.size<=g)) t p) (b:Below w.heap.size w w2) (c:Below w.heap.size w w9):TIn w9 (fun g=>¬ (A g\/w.heap.size<=g)) t p :=
 h.keep (fun k a _=>(c.block k (Nat.lt_of_not_le (fun e=>a (.inr e)))).trans (b.block k (Nat.lt_of_not_le (fun e=>a (.inr e)))).symm) (fun _ h _=>h)
theorem TIn.less {t:TT n}(h:TIn w2 (fun g=>¬ (A g\/w.heap.size<=g)) t p):TIn w2 (fun g=>¬ A g) t p:=h.mono (fun k a _ e=>a (.inl e))
structure Qhs (w wc:World) (R B:Nat) (A:Nat->Prop){n:Nat}(t:TT n) (p:Option Addr) (c:Nat):Prop where
 bel:Below w.heap.size w wc
 res:Blk wc R #[.int .i64 0,.int .i64 0,.slice none 0 0] 70
 box:Blk wc B #[.int .i64 t.kind,.int .i64 t.r,.slice p t.len c] 70
 lay:TIn wc (fun g=>¬ (A g\/w.heap.size<=g)) t p
 farR:w.heap.size<=R
 farB:w.heap.size<=B
 ne:¬ B=R
section
variable {w wc w9:World}{R B:Nat}{A:Nat->Prop}{n:Nat}{t:TT n}{p:Option Addr}{c:Nat}
theorem Qhs.below (h:Qhs w wc R B A t p c) (k:Below wc.heap.size wc w9):Qhs w w9 R B A t p c :=
 ⟨h.bel.trans (k.mono h.bel.size),h.res.below k,h.box.below k,h.lay.below k,h.farR,h.farB,h.ne⟩
theorem Qhs.cells (h:Qhs w wc R B A t p c):wc.cell? ⟨B,0,none⟩=some (.int .i64 t.kind)/\wc.cell? ⟨B,1,none⟩=some (.int .i64 t.r)/\wc.cell? ⟨B,2,none⟩=some (.slice p t.len c) /\
 wc.cell? ⟨R,0,none⟩=some (.int .i64 0)/\wc.cell? ⟨R,1,none⟩=some (.int .i64 0)/\wc.cell? ⟨R,2,none⟩=some (.slice none 0 0)/\wc.frozen? ⟨R,0,none⟩=false/\wc.frozen? ⟨R,1,none⟩=false/\wc.frozen? ⟨R,2,none⟩=false :=
 ⟨Qb h.box 0 _ Z,Qb h.box 1 _ Z,Qb h.box 2 _ Z,Qb h.res 0 _ Z,Qb h.res 1 _ Z,Qb h.res 2 _ Z,Qn h.res 0,Qn h.res 1,Qn h.res 2⟩
theorem QlD {k r:Int}{q:Option Addr}{l:Nat}(b:Below w.heap.size w wc) (c:Blk wc R #[.int .i64 0,.int .i64 0,.slice none 0 0] 70) (a:w.heap.size<=R) :
 Blk (((wc.setCell ⟨R,0,none⟩ (.int .i64 k)).setCell ⟨R,1,none⟩ (.int .i64 r)).setCell ⟨R,2,none⟩ (.slice q l d)) R #[.int .i64 k,.int .i64 r,.slice q l d] 70/\Below w.heap.size w (((wc.setCell ⟨R,0,none⟩ (.int .i64 k)).setCell ⟨R,1,none⟩ (.int .i64 r)).setCell ⟨R,2,none⟩ (.slice q l d)) :=
 ⟨c.set3 _ _ _,((b.setCell (p:=⟨R,0,none⟩) a _).setCell (p:=⟨R,1,none⟩) a _).setCell (p:=⟨R,2,none⟩) a _⟩
theorem Qhs.mk1 (a:Below w.heap.size w wc) (d:Blk wc R #[.int .i64 0,.int .i64 0,.slice none 0 0] 70) (f:w.heap.size<=R) (h:TIn wc (fun g=>¬ (A g\/w.heap.size<=g)) t p) :
 Qhs w (wc.alloc (.cells #[.int .i64 t.kind,.int .i64 t.r,.slice p t.len c] 70)) R wc.heap.size A t p c:=by
 have b:=QU wc (.cells #[.int .i64 t.kind,.int .i64 t.r,.slice p t.len c] 70);have e:=d.lt;exact⟨a.trans (b.mono a.size),d.below b,Blk.new _ _ _,h.alloc _,f,a.size,by omega⟩
end
theorem Qhs.told {s:JSt}{a:Int}{t:TT 6}(h:Qhs w wc R B A t p c) (g:s.at a=some t) (e:t.ok) :
 ∃ w9,w9=((wc.setCell ⟨R,0,none⟩ (.int .i64 t.kind)).setCell ⟨R,1,none⟩ (.int .i64 t.r)).setCell ⟨R,2,none⟩ (.slice p t.len c)/\w9.cell? ⟨R,0,none⟩=some (.int .i64 t.kind)/\w9.cell? ⟨R,1,none⟩=some (.int .i64 t.r)/\w9.cell? ⟨R,2,none⟩=some (.slice p t.len c) /\
  QkO w9 A s a (Tv t p c)/\Below w.heap.size w w9:=by
 obtain⟨b,f⟩:=QlD (k:=t.kind) (r:=t.r) (q:=p) (l:=t.len) (d:=c) h.bel h.res h.farR
 exact⟨_,Z,Qb b 0 _ Z,Qb b 1 _ Z,Qb b 2 _ Z,⟨t,p,c,g,Z,(h.lay.over h.bel f).less,e⟩,f⟩
theorem Qfa {s:JSt}(a d:Int) (hL:s.L.length<=80) (I:∀ k,O k->k<w.heap.size) (h:SAt w b O A s) :
 Calls prog 108 #[.pointer (some ⟨b,0,none⟩),.int .i64 a,.int .i64 d] w fun e w'=>Qac (s.want a d false) (QkO w' A s a) e/\Below w.heap.size w w':=by
 have C:=QU w (.cells #[.int .i64 0,.int .i64 0,.slice none 0 0] 70);have D:=Qa (h.more I C);have o:=Qa C;have z:Hid (Blk (w.alloc (.cells #[.int .i64 0,.int .i64 0,.slice none 0 0] 70)) w.heap.size #[.int .i64 0,.int .i64 0,.slice none 0 0] 70):=Blk.new _ _ _;clear h C;go_enter func108,ntmps108
 go_upto_region 1 with fail
 generalize w.alloc (.cells #[.int .i64 0,.int .i64 0,.slice none 0 0] 70)=w1 at D o z |-;obtain⟨R,J⟩:∃ R,w.heap.size=R:=⟨_,Z⟩
 have W:=Qa (Nat.le_of_eq J);rw[J] at z |-
 clear J;go_wp2_with fail
 refine(Qck a hL D.out).mono ?_
 rintro N H ⟨I,G⟩;have U:Hid (Below w.heap.size w H):=o.out.trans (G.mono o.out.size);have K:=Qa (z.out.below G);rcases I with ⟨y,x,rfl,t,p,c,T,rfl,V,g⟩|⟨y,rfl⟩
 rotate_left
 ·exact⟨Z,.inr ⟨by rw[Qgp y];exact y,by rw[Qgp y]⟩,U.out⟩
 have f:=Qa (Qhs.mk1 (c:=c) U.out K.out W.out V);have q:=Qa (Xh T g);clear V T g G z o D K;go_upto_region 2 with fail
 generalize H.alloc (.cells #[.int .i64 t.kind,.int .i64 t.r,.slice p t.len c] 70)=w3 at f |-;generalize H.heap.size=B at f |-;obtain⟨y0,y1,y2,r0,r1,r2,z0,z1,z2⟩:=f.out.cells
 have aa:=f.out.ne;by_cases m:t.kind=d
 rotate_left
 ·have j:(t.kind==d)=false:=by simpa using m
  have E:Hid (s.want a d false=9):=by show _=_;unfold JSt.want;rw[q.out.1];simp[m]
  generalize t.kind=tk at y0 m j;go_wp2_with fail
  refine(ZA _ 9).mono ?_
  rintro N w' ⟨rfl,i⟩;subst i;exact⟨Z,Qac.bad E.out (by decide),f.out.bel⟩
 ·subst m;have j:(t.kind==t.kind)=true:=by simp
  have E:Hid (s.want a t.kind false=0):=by show _=_;unfold JSt.want;rw[q.out.1];simp
  obtain⟨F,Q,n,l,u,P,S⟩:=f.out.told q.out.1 q.out.2
  have M:=Qa (Xh P S);have X:Hid (F.cell? ⟨R,0,none⟩=some (.int .i64 t.kind)/\F.cell? ⟨R,1,none⟩=some (.int .i64 t.r)/\F.cell? ⟨R,2,none⟩=some (.slice p t.len c)):=⟨n,l,u⟩;have H9:=Qa Q;clear P S n l u Q;go_wp2_with (go_at_call 110;refine(ZB _ _).mono ?_;rintro N w' ⟨rfl,i⟩;have i:=i.symm;subst i)
  rw[<-H9.out]
  obtain⟨n,l,u⟩:=X.out
  exact Xy (v:=Tv t p c) (by simp[results,results108,go_sem,n,l,u]) Z ⟨Qac.good E.out M.out.1,M.out.2⟩
theorem Qe2 {s:JSt}{a b:Int}(h:s.want a b false≠0):s.want a b true=s.want a b false:=by
 unfold JSt.want at *
 cases e:s.at a with
 | none=>rfl
 | some t =>
   rw[e] at h
   by_cases c:t.kind=b
   ·simp[c] at h
   ·simp[c]
theorem Qhb {s:JSt}{a b:Int}{t:TT 6}(h:s.want a b false=0) (d:s.at a=some t):s.want a b true=if hHas s.H t.r then 0 else 10:=by
 unfold JSt.want at *;rw[d] at h |-
 by_cases c:t.kind=b
 ·simp only[c,if_true,Bool.true_and]
  cases hHas s.H t.r<;>rfl
 ·simp[c] at h
theorem Qar {s:JSt}(a d:Int) (hL:s.L.length<=80) (n:∀ k,O k->k<w.heap.size) (h:SAt w b O A s) :
 Calls prog 74 #[.pointer (some ⟨b,0,none⟩),.int .i64 a,.int .i64 d] w fun e w'=>Qac (s.want a d true) (QkO w' A s a) e/\Below w.heap.size w w':=by
 have K:=QU w (.cells #[.int .i64 0,.int .i64 0,.slice none 0 0] 70);have u:=Qa (h.more n K);have l:=Qa K;have I:Hid (Blk (w.alloc (.cells #[.int .i64 0,.int .i64 0,.slice none 0 0] 70)) w.heap.size #[.int .i64 0,.int .i64 0,.slice none 0 0] 70):=Blk.new _ _ _;have HO:=Qa n;clear h K n;go_enter func74,ntmps74
 go_upto_region 1 with fail
 generalize w.alloc (.cells #[.int .i64 0,.int .i64 0,.slice none 0 0] 70)=w1 at u l I |-;obtain⟨R,Q⟩:∃ R,w.heap.size=R:=⟨_,Z⟩
 have HR:=Qa (Nat.le_of_eq Q);rw[Q] at I |-
 clear Q;go_wp2_with fail
 refine(Qfa a d hL (fun k hk=>Zl (HO.out k hk) l.out.size) u.out).mono ?_
 rintro e' G ⟨n,F⟩;have B2:Hid (Below w.heap.size w G):=l.out.trans (F.mono l.out.size);have X2:=Qa (I.out.below F);have H2:=Qa (u.out.below F);rcases n with ⟨g,x,rfl,t,p,c,S,rfl,U,j⟩|⟨g,rfl⟩
 rotate_left
 ·exact⟨Z,.inr ⟨by rw[Qe2 g];exact g,by rw[Qe2 g]⟩,B2.out⟩
 have i:=Qa (Qhs.mk1 (c:=c) B2.out X2.out HR.out U);have W:=Qa (Xh S j);have E:=Qa (Qhb g S);have J:=Qa (H2.out.below (QU G (.cells #[.int .i64 t.kind,.int .i64 t.r,.slice p t.len c] 70)));clear U S j F I l u X2 g H2;go_upto_region 2 with fail
 generalize G.alloc (.cells #[.int .i64 t.kind,.int .i64 t.r,.slice p t.len c] 70)=P at i J |-;generalize G.heap.size=B at i |-;obtain⟨y0,y1,y2,r0,r1,r2,z0,z1,z2⟩:=i.out.cells
 have aa:=i.out.ne;obtain⟨pm,cm,hh,a1,c1,a2,c2,a3,c3,aL,cL,M⟩:=J.out.read
 obtain⟨-,q1,-⟩:=M.cells
 have C:Hid (∀ m,Calls prog 115 #[.pointer (some ⟨hh,0,none⟩),.int .i64 t.r] (P.drewN m) fun e w'=>e=.returned (.bool (hHas s.H t.r))/\w'=P.drewN m):=fun m=>QcS t.r (show Qz (P.drewN m) hh s.H from M.held);clear M;generalize hHas s.H t.r=q at E C;go_region_with (first | (go_at_call 115;refine(C.out _).mono ?_;rintro e' w' ⟨rfl,f⟩;have f:=f.symm;subst f) | (go_at_call 110;refine(Qb0 _ _ _).mono ?_;rintro e' w' ⟨f,⟨y,rfl⟩|⟨y,rfl⟩⟩;rotate_left;exact⟨Z,Qac.bad (by rw[E.out,y];rfl) (by decide),by rw[f];exact Qg i.out.bel _⟩;have f:=f.symm;subst f))
 all_goals
  have E9:Hid (s.want a d true=0):=by show _=_;rw[E.out,y];rfl
  clear y J E C;have T:=i.out.below (Qg Zr 1);obtain⟨N,h9,z,o,D,hv,hb⟩:=T.told W.out.1 W.out.2
  have V:=Qa (Xh hv hb);have X:Hid (N.cell? ⟨R,0,none⟩=some (.int .i64 t.kind)/\N.cell? ⟨R,1,none⟩=some (.int .i64 t.r)/\N.cell? ⟨R,2,none⟩=some (.slice p t.len c)):=⟨z,o,D⟩;have H9:=Qa h9;clear hv hb z o D h9 T;go_wp2
  rw[<-H9.out]
  obtain⟨z,o,D⟩:=X.out
  exact Xy (v:=Tv t p c) (by simp[results,results74,go_sem,z,o,D]) Z ⟨Qac.good E9.out V.out.1,V.out.2⟩
abbrev VNone:Value->Prop:=fun x=>x=.tuple #[]
theorem QbS {s:JSt}(D:l.length=N) (R:N<=100000) (F:intsL.In w Q l [.slice p N c]) (W:s.L.length<=80) (u:∀ k,O k->k<w.heap.size) (h:SAt w b O A s) :
 Calls prog 66 #[.pointer (some ⟨b,0,none⟩),.slice p N c] w fun e w'=>Qac (QE (fun a=>s.want a 1 false) l) VNone e/\Below w.heap.size w w':=by
 have H:=Qa h;have M:=Qa u;have P:=Qa F;have J:=Qa D;clear h u F D;go_enter func66,ntmps66
 go_wp2
 go_loopw [8] (fun i wr=>∃ k:Nat,k<=N/\i=.int .i64 k/\Below w.heap.size w wr/\∀ (j:Nat) (y:Int),j<k->l[j]?=some y->s.want y 1 false=0) (fun i _=>N - (intOf i).toNat)
 case atStart=>exact⟨0,Xb _,Z,Zr,fun j y X=>by omega⟩
 case round =>
  obtain⟨k,E,rfl,C,G⟩:=hrel
  have n:=Qa C;have z:=Qa G;clear C G;by_cases t:k<N
  ·have r:(k:Int)<N:=by omega
   have m:k<l.length:=by rw[J.out];exact t
   obtain⟨g,o,rfl,-,hg,f⟩:=ZK P.out m
   obtain⟨y,d⟩:∃ y,l[k]?=some y:=⟨_,Zg m⟩
   rw[show l.getD k 0=y by rw[List.getD_eq_getElem?_getD,d];rfl] at f
   have B:=Qa d;clear d;have U:=Qp f n.out;clear f m;go_wp2_with fail
   refine(Qfa y 1 W (fun k E=>Zl (M.out k E) n.out.size) (H.out.below n.out)).mono ?_
   rintro e' S ⟨u,I⟩;have K:Hid (Below w.heap.size w S):=n.out.trans (I.mono n.out.size);rcases u with ⟨q,x,rfl,-⟩|⟨q,rfl⟩
   rotate_left
   ·exact⟨Z,.inr ⟨by rw[QaP B.out z.out q];exact q,by rw[QaP B.out z.out q]⟩,K.out⟩
   have T:=Qa q;clear q I U;go_wp2
   go_roundw
   case rel =>
    refine⟨k+1,t,by go_num,K.out,fun j V X d=>?_⟩
    rcases Nat.lt_or_ge j k with h | h
    ·exact z.out j V h d
    ·have:j=k:=by omega
     subst this;have e:=B.out.symm.trans d;injection e with e
     subst e;exact T.out
   case measure=>simp[intOf];omega
  ·have r:¬ (k:Int)<N:=by omega
   go_wp2
   exact Xz (v:=.tuple #[]) (by simp[results,results66,go_sem]) Z ⟨Qac.good (Qav (fun j y d=>z.out j y (by have:=(Zi d).1;rw[J.out] at this;omega) d)) Z,n.out⟩
structure Bx (w wr:World) (k r:Int) (a:Option Addr) (len c:Nat):Prop where
 bel:Below w.heap.size w wr
 box:wr.heap[w.heap.size]?=some (.cells #[.int .i64 k,.int .i64 r,.slice a len c] 70 (0,0))
theorem Bx.start (w:World) (k r:Int) (a:Option Addr) (b c:Nat):Bx w (w.alloc (.cells #[.int .i64 k,.int .i64 r,.slice a b c] 70)) k r a b c :=
 ⟨(Below.refl _ w).alloc Ze _,Qm w _ _⟩
theorem Bx.lt {k r:Int}{b:Nat}(h:Bx w wr k r a b c):w.heap.size<wr.heap.size:=XC h.box
theorem Bx.below {k r:Int}{d:Nat}(h:Bx w wr k r a d c) (b:Below wr.heap.size wr w'):Bx w w' k r a d c :=
 ⟨h.bel.trans (b.mono h.bel.size),QaN h.box b⟩
theorem Bx.alloc {k r:Int}{b:Nat}(h:Bx w wr k r a b c) (o:Obj):Bx w (wr.alloc o) k r a b c :=
 h.below ((Below.refl _ wr).alloc Ze _)
theorem Bx.drewN {k r:Int}{b:Nat}(h:Bx w wr k r a b c) (m:Nat):Bx w (wr.drewN m) k r a b c:=⟨⟨h.bel.os,h.bel.tape,h.bel.output,h.bel.size,h.bel.block⟩,h.box⟩
theorem Bx.drew {k r:Int}{b:Nat}(h:Bx w wr k r a b c):Bx w wr.drew k r a b c:=h.drewN 1
theorem Qeu {α:Type}(f:α->Nat) (l:List α) (i:Nat) (x:α) (h:l[i]?=some x):((l.map f).take (i+1)).sum=((l.map f).take i).sum+f x:=by
 rw[XV,XS,h]
 simp
def QeA (f:Nat) (n:Nat):Prop:=∀ (t:TT n) (a:Option Addr) (c:Nat) (regs:Int) (w:World),TIn w All t a->t.count<=100000 ->
 Calls prog f #[Tv t a c,.int .i64 regs] w fun e w'=>e=.returned (.int .i64 (t.fault regs))/\Below w.heap.size w w'
end Go.Proofs.YtlnkdhnibcenbaeGreat
