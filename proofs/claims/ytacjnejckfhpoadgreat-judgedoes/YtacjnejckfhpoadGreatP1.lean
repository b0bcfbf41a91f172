import Derived.Test.YtacjnejckfhpoadGreatRows
import Derived.WalkKit
import Derived.WalkLawsBesides
import Derived.ProofKit
import Derived.OpenShut
import Derived.Deep.OwnRows
import Derived.Deep.AppendLies
import Derived.Deep.Draws
import Derived.Deep.Slices
import Derived.Deep.Strs
import Derived.Below
import Derived.ChangeOld
import Derived.Deep.MidRow
import Derived.Laws.StructEq
import Derived.ChangeKeysEq
import Derived.RowKit
import Derived.Deep.Cut
import Derived.Deep.RegionLaw
import Derived.Deep.QuietTactic
import Derived.BigQuiet
import Derived.RegionTactic
import Derived.Orders
import Derived.Deep.DeepCutAuto
import Derived.Deep.CutBlock
set_option maxHeartbeats 16000000
set_option maxRecDepth 100000
namespace Go.Proofs.YtacjnejckfhpoadGreat
open Go.ChangeShapes Go.WideShapes Go.ChangeAt Go.RowKit _root_.Go.Proofs.Tryz
set_option linter.unusedSimpArgs false
set_option linter.unusedVariables false
theorem Zr {n:Nat}{w:World}:Below n w w:=Below.refl _ _
theorem Zg {α:Type _}{l:List α}{i:Nat}(h:i<l.length):l[i]?=some l[i]:=List.getElem?_eq_getElem h
theorem Zi {α:Type _}{i:Nat}{a:α}{l:List α}(h:l[i]?=some a):∃ h,l[i]=a:=List.getElem?_eq_some_iff.1 h
theorem Za {α:Type _}{xs:Array α}{i:Nat}{d:α}:xs.getD i d=xs[i]?.getD d:=Array.getD_eq_getD_getElem?
theorem Zl {n m k:Nat}:n<m→m≤k→n<k:=Nat.lt_of_lt_of_le
theorem Zm {α:Type _}{l:List α}{i:Nat}{a:α}(h:l[i]?=some a):a∈l:=List.mem_of_getElem? h
theorem Zt {n m k:Nat}:n≤m→m≤k→n≤k:=Nat.le_trans
theorem Ze {n:Nat}:n≤n:=Nat.le_refl _
structure Zn (O O':Nat→Prop) (w w':World):Prop where
 os:w'.os=w.os
 tape:w'.tape=w.tape
 output:w'.output=w.output
 size:w.heap.size≤w'.heap.size
 block:∀ k,k<w.heap.size→¬ O k→w'.heap[k]?=w.heap[k]?
 own:∀ k,O' k→O k∨w.heap.size≤k
theorem Zn.refl (O:Nat→Prop) (w:World):Zn O O w w:=⟨rfl,rfl,rfl,Ze,fun _ _ _=>rfl,fun _ h=>Or.inl h⟩
theorem Zn.trans {O O' O'':Nat→Prop}{a b c:World}(h:Zn O O' a b) (k:Zn O' O'' b c):Zn O O'' a c :=
 ⟨k.os.trans h.os,k.tape.trans h.tape,k.output.trans h.output,Zt h.size k.size,
  fun i hi hn=>(k.block i (Zl hi h.size) (fun ho=>(h.own i ho).elim hn (fun hge=>by omega))).trans (h.block i hi hn),
  fun i hi=>(k.own i hi).elim (h.own i) (fun hge=>Or.inr (Zt h.size hge))⟩
theorem Zn.mono {O O' P:Nat→Prop}{a b:World}(h:Zn O O' a b) (hP:∀ k,O k→P k):Zn P O' a b :=
 ⟨h.os,h.tape,h.output,h.size,fun i hi hn=>h.block i hi (fun ho=>hn (hP i ho)),fun i hi=>(h.own i hi).imp (hP i) id⟩
theorem Zn.sub {O O' P:Nat→Prop}{a b:World}(h:Zn O O' a b) (hP:∀ k,P k→O' k):Zn O P a b :=
 ⟨h.os,h.tape,h.output,h.size,h.block,fun i hi=>h.own i (hP i hi)⟩
theorem Zn.drewN {O O':Nat→Prop}{a w:World}(h:Zn O O' a w) (n:Nat):Zn O O' a (w.drewN n):=⟨h.os,h.tape,h.output,h.size,h.block,h.own⟩
theorem Zn.drew {O O':Nat→Prop}{a w:World}(h:Zn O O' a w):Zn O O' a w.drew:=⟨h.os,h.tape,h.output,h.size,h.block,h.own⟩
theorem Zn.alloc {O O':Nat→Prop}{a w:World}(h:Zn O O' a w) (o:Obj):Zn O O' a (w.alloc o) :=
 ⟨h.os,h.tape,h.output,by have:=h.size;simp;omega,fun k hk hn=>(Below.heap_alloc _ _ _ (by have:=h.size;omega)).trans (h.block k hk hn),h.own⟩
theorem Zn.setCell {O O':Nat→Prop}{a w:World}(h:Zn O O' a w){p:Addr}(hp:O' p.block) (u:Value):Zn O O' a (w.setCell p u) :=
 ⟨h.os,h.tape,h.output,by have:=h.size;simp;omega,
  fun k hk hn=>(Below.heap_setCell _ _ _ _ (fun e=>by subst e;rcases h.own _ hp with h' | h';exact hn h';omega)).trans (h.block k hk hn),h.own⟩
theorem Zn.below {O O':Nat→Prop}{a w:World}{B:Nat}(h:Zn O O' a w) (hB:B≤a.heap.size) (hO:∀ k,O k→B≤k):Below B a w :=
 ⟨h.os,h.tape,h.output,h.size,fun k hk=>h.block k (by omega) (fun ho=>by have:=hO k ho;omega)⟩
theorem Zn.of_below {O O':Nat→Prop}{a w:World}(h:Below a.heap.size a w) (hO:∀ k,O' k→O k∨a.heap.size≤k):Zn O O' a w :=
 ⟨h.os,h.tape,h.output,h.size,fun k hk _=>h.block k hk,hO⟩
theorem Zn.keep {O O':Nat→Prop}{a w:World}(h:Zn O O' a w){k:Nat}{o:Obj}(hk:a.heap[k]?=some o) (hn:¬ O k):w.heap[k]?=some o :=
 (h.block k (lt_of_block hk) hn).trans hk
theorem Qb {w:World}{b:Nat}{c:Array Value}{t:TypeId}(h:w.heap[b]?=some (.cells c t (0,0))) (i:Nat) (v:Value) (hv:c[i]?=some v):w.cell? ⟨b,i,none⟩=some v:=by
 simp[World.cell?,h,hv]
theorem Qp {w:World}{b:Nat}{c:Array Value}{t:TypeId}(h:w.heap[b]?=some (.cells c t (0,0))) (i:Nat):w.frozen? ⟨b,i,none⟩=false:=by
 simp[World.frozen?,h]
theorem Qo {w:World}{b:Nat}{c:Array Value}{t:TypeId}(h:w.heap[b]?=some (.cells c t (0,0))) (i:Nat) (v:Value) :
 (w.setCell ⟨b,i,none⟩ v).heap[b]?=some (.cells (c.setIfInBounds i v) t (0,0)):=by
 simp[World.setCell,Array.getElem?_modify,h]
theorem Qe (w:World) (c:Array Value) (t:TypeId):(w.alloc (.cells c t)).heap[w.heap.size]?=some (.cells c t (0,0)):=by
 show (w.heap.push _)[w.heap.size]?=_;simp
theorem QS {w:World}{b g:Nat}{c d:Array Value}{t u:TypeId}{f:Nat × Nat}(h:w.heap[b]?=some (.cells c t f)) (k:w.heap[g]?=some (.cells d u f)) (hn:t≠u):b≠g:=by
 intro e;subst e;rw[h] at k;simp at k;exact hn k.2
def Row (w:World) (O:Nat→Prop) (t:TypeId) (v:Value) (xs:List Int):Prop :=
 w.ownsRow 0 t 1 v xs.length (xs.map (Value.int .i64))∧∀ g,v.ownBlock=some g→O g
theorem Row.nil (w:World) (O:Nat→Prop) (t:TypeId):Row w O t (.slice none 0 0) []:=⟨⟨rfl,Or.inl ⟨rfl,rfl⟩⟩,by simp[Value.ownBlock]⟩
theorem Row.form {w:World}{O:Nat→Prop}{t:TypeId}{v:Value}{xs:List Int}(h:Row w O t v xs) :
 ∃ a cap,v=.slice a xs.length cap∧(a=none→xs=[]∧cap=0)∧∀ g,a=some g→g=⟨g.block,0,none⟩∧O g.block∧xs.length≤cap∧cap≤maxLen∧∃ c,w.heap[g.block]?=some (.cells c t (0,0))∧c.size=cap∧∀ i,i<xs.length→c[i]?=some (.int .i64 (xs.getD i 0)):=by
 obtain⟨⟨h1,h2⟩,h3⟩:=h
 rcases h2 with ⟨rfl,h4⟩|⟨g,cap,cur,rfl,_,hh,hn,hm,hs,ht⟩
 ·have:xs=[]:=List.length_eq_zero_iff.1 h4
  subst this;exact⟨none,0,rfl,(fun _=>⟨rfl,rfl⟩),(fun g e=>by cases e)⟩
 ·refine⟨some ⟨g,0,none⟩,cap,rfl,(fun e=>by cases e),(fun g' e=>?_)⟩
  cases e
  refine⟨rfl,h3 g rfl,hn,hm,cur,hh,by simpa using hs,fun i hi=>?_⟩
  have:(cur.toList.take (xs.length*1))[i]?=(xs.map (Value.int .i64))[i]?:=by rw[ht]
  rw[List.getElem?_take,if_pos (by omega),List.getElem?_map] at this
  rw[← Array.getElem?_toList,this]
  simp[List.getD,hi]
theorem Row.cell {w:World}{O:Nat→Prop}{t:TypeId}{g:Nat}{n cap:Nat}{xs:List Int}(h:Row w O t (.slice (some ⟨g,0,none⟩) n cap) xs) (i:Nat) (hi:i<xs.length) :
 w.cell? ⟨g,i,none⟩=some (.int .i64 (xs.getD i 0)):=by
 obtain⟨a,cap',e,_,h2⟩:=h.form
 cases e
 obtain⟨_,_,_,_,c,hc,_,hi'⟩:=h2 _ rfl
 exact Qb hc i _ (hi' i hi)
theorem Row.keep {w w':World}{O O':Nat→Prop}{t:TypeId}{v:Value}{xs:List Int}(h:Row w O t v xs) (hb:∀ g,v.ownBlock=some g→w'.heap[g]?=w.heap[g]?) (hO:∀ g,v.ownBlock=some g→O' g):Row w' O' t v xs:=by
 obtain⟨⟨h1,h2⟩,h3⟩:=h
 refine⟨⟨h1,?_⟩,hO⟩
 rcases h2 with h4 | ⟨g,cap,cur,rfl,hg,hh,r⟩
 ·exact Or.inl h4
 ·exact Or.inr ⟨g,cap,cur,rfl,hg,(hb g rfl).trans hh,r⟩
theorem Row.lt {w:World}{O:Nat→Prop}{t:TypeId}{v:Value}{xs:List Int}(h:Row w O t v xs){g:Nat}(hg:v.ownBlock=some g):g<w.heap.size:=by
 obtain⟨⟨h1,h2⟩,h3⟩:=h
 rcases h2 with ⟨rfl,_⟩|⟨g',cap,cur,rfl,_,hh,r⟩
 ·simp[Value.ownBlock] at hg
 ·simp[Value.ownBlock] at hg;subst hg;exact lt_of_block hh
theorem Row.block {w:World}{O:Nat→Prop}{t:TypeId}{v:Value}{xs:List Int}(h:Row w O t v xs){g:Nat}(hg:v.ownBlock=some g):∃ c,w.heap[g]?=some (.cells c t (0,0)):=by
 obtain⟨⟨h1,h2⟩,h3⟩:=h
 rcases h2 with ⟨rfl,_⟩|⟨g',cap,cur,rfl,_,hh,r⟩
 ·simp[Value.ownBlock] at hg
 ·simp[Value.ownBlock] at hg;subst hg;exact⟨cur,hh⟩
theorem Row.step {w w':World}{O P P':Nat→Prop}{t:TypeId}{v:Value}{xs:List Int}(h:Row w O t v xs) (k:Zn P P' w w') (hd:∀ x,O x→¬ P x):Row w' O t v xs :=
 h.keep (fun g hg=>k.block g (h.lt hg) (hd g (h.2 g hg))) h.2
theorem Row.drewN {w:World}{O:Nat→Prop}{t:TypeId}{v:Value}{xs:List Int}(h:Row w O t v xs) (n:Nat):Row (w.drewN n) O t v xs:=h
theorem Row.init {w:World}{O:Nat→Prop}{t:TypeId}{g n cap:Nat}{xs:List Int}(h:Row w O t (.slice (some ⟨g,0,none⟩) n cap) xs) (m:Nat) (hm:m≤xs.length) :
 Row w O t (.slice (some ⟨g,0,none⟩) m cap) (xs.take m):=by
 obtain⟨⟨h1,h2⟩,h3⟩:=h
 rcases h2 with ⟨e,_⟩|⟨g',cap',cur,e,hg,hh,hn,hmx,hs,ht⟩
 ·cases e
 ·cases e
  have hl:(xs.take m).length=m:=by simp;omega
  refine⟨⟨by simp,Or.inr ⟨g,cap,cur,by rw[hl],Nat.zero_le _,hh,by omega,hmx,hs,?_⟩⟩,fun g' e=>h3 g' e⟩
  rw[hl,Nat.mul_one,List.map_take,← ht,List.take_take,Nat.mul_one,Nat.min_eq_left hm]
theorem ZI {b k:Nat}(hk:k≠b):∀ (vs:List Value) (o:Nat) (w:World),(w.setCells b o vs).heap[k]?=w.heap[k]?
 | [],_,_=>rfl
 | v::r,o,w=>by rw[World.setCells,ZI hk r];exact Below.heap_setCell _ _ _ _ hk
theorem Zn.setCells {O O':Nat→Prop}{a:World}{b:Nat}(hp:O' b):∀ (vs:List Value) (o:Nat) (w:World),Zn O O' a w→Zn O O' a (w.setCells b o vs)
 | [],_,_,h=>h
 | v::r,o,w,h=>Zn.setCells hp r (o+1) _ (h.setCell (p:=⟨b,o,none⟩) hp v)
#print axioms Row.init
end Go.Proofs.YtacjnejckfhpoadGreat
namespace Go.Proofs.YtacjnejckfhpoadGreat
open Go.ChangeShapes Go.WideShapes Go.ChangeAt Go.RowKit Go.Deep _root_.Go.Proofs.Tryz
set_option linter.unusedVariables false
structure Lay (α:Type) where
 size:Nat
 In:World→(Nat→Prop)→α→List Value→Prop
 len:∀ {w O x cs},In w O x cs→cs.length=size
 keep:∀ {w w':World} {O O':Nat→Prop} {x cs},(∀ k,O k→k<w.heap.size→w'.heap[k]?=w.heap[k]?)→(∀ k,O k→k<w.heap.size→O' k)→In w O x cs→In w' O' x cs
section
variable {α β:Type}{L:Lay α}{w w':World}{O O':Nat→Prop}{x:α}{cs:List Value}
theorem Lay.below (h:L.In w O x cs) (b:Below w.heap.size w w'):L.In w' O x cs:=L.keep (fun k _ hk=>b.block k hk) (fun _ h _=>h) h
theorem Lay.lt {B:Nat}(h:L.In w (fun g=>g<B) x cs) (b:Below B w w'):L.In w' (fun g=>g<B) x cs:=L.keep (fun k hk _=>b.block k hk) (fun _ h _=>h) h
theorem Lay.mono (h:L.In w O x cs) (hl:∀ k,O k→k<w.heap.size→O' k):L.In w O' x cs:=L.keep (fun k _ _=>rfl) hl h
theorem Lay.alloc (h:L.In w O x cs) (o:Obj):L.In (w.alloc o) O x cs:=L.keep (fun k _ hk=>Below.heap_alloc _ _ _ hk) (fun _ h _=>h) h
theorem Lay.setCell (h:L.In w O x cs){p:Addr}(hp:¬ O p.block) (v:Value):L.In (w.setCell p v) O x cs :=
 L.keep (fun k hk _=>Below.heap_setCell _ _ _ _ (fun e=>by subst e;exact hp hk)) (fun _ h _=>h) h
theorem Lay.drewN (h:L.In w O x cs) (m:Nat):L.In (w.drewN m) O x cs:=L.keep (w:=w) (w':=w.drewN m) (fun k _ _=>rfl) (fun _ h _=>h) h
end
def Lay.int:Lay Int where
 size:=1
 In:=fun _ _ x cs=>cs=[.int .i64 x]∧-9223372036854775808≤x∧x≤9223372036854775807
 len:=fun h=>by rw[h.1];rfl
 keep:=fun _ _ h=>h
def Lay.pair {α β:Type}(A:Lay α) (B:Lay β):Lay (α × β) where
 size:=A.size+B.size
 In:=fun w O x cs=>∃ c d,cs=c++d∧A.In w O x.1 c∧B.In w O x.2 d
 len:=fun ⟨c,d,e,h1,h2⟩=>by rw[e,List.length_append,A.len h1,B.len h2]
 keep:=fun hb hl ⟨c,d,e,h1,h2⟩=>⟨c,d,e,A.keep hb hl h1,B.keep hb hl h2⟩
def Lay.list {α:Type}(A:Lay α):Lay (List α) where
 size:=1
 In:=fun w O l cs=>∃ a c,cs=[.slice a l.length c]∧∀ (i:Nat) (x:α),l[i]?=some x→∃ g o ds,a=some ⟨g,o,none⟩∧O g∧g<w.heap.size∧(∀ j,j<A.size→w.cell? ⟨g,o+i*A.size+j,none⟩=ds[j]?)∧A.In w O x ds
 len:=fun ⟨_,_,e,_⟩=>by rw[e];rfl
 keep:=fun {w w' O O' l cs} hb hl ⟨a,c,e,h⟩=>⟨a,c,e,fun i x hx=>by
  obtain⟨g,o,ds,e1,hg,hlt,hc,hi⟩:=h i x hx
  have hk:w'.heap[g]?=w.heap[g]?:=hb g hg hlt;refine⟨g,o,ds,e1,hl g hg hlt,?_,fun j hj=>?_,A.keep hb hl hi⟩
  ·rcases Nat.lt_or_ge g w'.heap.size with h' | h'
   ·exact h'
   ·rw[Array.getElem?_eq_none h',Array.getElem?_eq_getElem hlt] at hk;cases hk
  ·exact(World.cell?_of_block (w:=w) (a:=⟨g,o+i*A.size+j,none⟩) hk).trans (hc j hj)⟩
theorem Lay.int_mk (w:World) (O:Nat→Prop){x:Int}(h:-9223372036854775808≤x∧x≤9223372036854775807):Lay.int.In w O x [.int .i64 x]:=⟨rfl,h⟩
theorem Lay.list_nil {α:Type}(A:Lay α) (w:World) (O:Nat→Prop) (a:Option Addr) (c:Nat):A.list.In w O [] [.slice a 0 c]:=⟨a,c,rfl,fun i x h=>by simp at h⟩
theorem Lay.list_at {α:Type}{A:Lay α}{w:World}{O:Nat→Prop}{l:List α}{a:Option Addr}{n c:Nat}(h:A.list.In w O l [.slice a n c]){i:Nat}{x:α}(hx:l[i]?=some x) :
 ∃ g o ds,a=some ⟨g,o,none⟩∧O g∧g<w.heap.size∧(∀ j,j<A.size→w.cell? ⟨g,o+i*A.size+j,none⟩=ds[j]?)∧A.In w O x ds:=by
 obtain⟨a',c',e,h⟩:=h
 simp at e
 obtain⟨rfl,_,rfl⟩:=e
 exact h i x hx
def QaN (P:Program) (t:TypeId){α:Type}(A:Lay α) (n:Nat):Prop :=
 P.cellsOf t=A.size∧∀ {H:Type} {enc:TypeId × Value→H} {w:World} {base:Nat} {spare:Nat→Bool} {held:Bool} {fuel:Nat} {cs:List Value} {x:DataW H × List MemPlace},
  fuel≤n→DataW.trod enc P w base spare held fuel t cs=some x→∃ d,A.In w (fun _=>True) d cs
theorem QaN.int {P:Program}{t:TypeId}(n:Nat) (h:P.underlying t=some (.int .i64)) (hc:P.cellsOf t=1):QaN P t Lay.int n :=
 ⟨hc,fun _ h'=>by
  obtain⟨k,e,_,wf⟩:=DataW.trod_int h h'
  exact⟨k,e,Go.bounds_i64 wf⟩⟩
theorem Qd2 {α:Type}{P:Nat→α→Prop}(m:Nat) (h:∀ i,i<m→∃ x,P i x):∃ l:List α,l.length=m∧∀ i x,l[i]?=some x→P i x:=by
 induction m with
 | zero=>exact⟨[],rfl,fun i x hx=>by simp at hx⟩
 | succ m ih =>
   obtain⟨l,hl,hp⟩:=ih (fun i hi=>h i (by omega))
   obtain⟨x,hx⟩:=h m (by omega)
   refine⟨l++[x],by simp[hl],fun i y hy=>?_⟩
   rw[List.getElem?_append] at hy
   split at hy
   ·exact hp i y hy
   ·rename_i hi
    have:i=m:=by
     have:=(Zi hy).1
     simp at this
     omega
    subst this;simp[hl] at hy
    subst hy;exact hx
theorem QaN.list {P:Program}{t e:TypeId}{α:Type}{A:Lay α}{n:Nat}(h:P.underlying t=some (.slice e)) (hc:P.cellsOf t=1) (hA:QaN P e A n) (h0:0<A.size):QaN P t A.list (n+1) :=
 ⟨hc,fun {H enc w base spare held fuel cs x} hf h'=>by
  rcases DataW.trod_slice h h' with ⟨e2,_⟩|⟨a,len,cap,elems,rest,q,rfl,e2,_,hb,hl,hm,hlen,hel,_,_⟩
  ·exact⟨[],by rw[e2];exact Lay.list_nil A _ _ _ _⟩
  ·obtain⟨l,hll,hp⟩:=Qd2 (P:=fun i (d:α)=>∃ ds,w.cells? base (a.add (i*A.size)) A.size=some ds∧A.In w (fun _=>True) d ds) len (fun i hi=>by
    have he:=hel i hi;rw[Zg (by omega),hA.1] at he
    rw[Option.bind_eq_some_iff] at he
    obtain⟨ds,hds,htr⟩:=he
    obtain⟨d,hd⟩:=hA.2 (by omega) htr
    exact⟨d,ds,hds,hd⟩)
   refine⟨l,some a,cap,by rw[e2,hll],fun i x hx=>?_⟩
   obtain⟨ds,hds,hd⟩:=hp i x hx
   obtain⟨_,hcl,hcell⟩:=World.cells?_some hds
   obtain⟨b,off,spot⟩:=a
   have hspot:spot=none:=by
    have hi:0<l.length:=Nat.lt_of_le_of_lt (Nat.zero_le i) (Zi hx).1;obtain⟨ds0,hds0,hd0⟩:=hp 0 l[0] (Zg hi)
    have hl0:0<ds0.length:=by rw[A.len hd0];exact h0
    have:=(World.cells?_some hds0).2.2 0 h0
    rw[Zg hl0] at this
    simpa[Addr.add] using World.cell?_spot this
   subst hspot
   have key:∀ j,j<A.size→w.cell? ⟨b,off+i*A.size+j,none⟩=ds[j]?:=fun j hj=>by
    have:=hcell j hj
    rw[Go.WideShapes.add_plain,Go.WideShapes.add_plain] at this
    exact this
   refine⟨b,off,ds,rfl,trivial,?_,key,hd⟩
   have hl0:0<ds.length:=by rw[A.len hd];exact h0
   have:=key 0 h0
   rw[Zg hl0] at this
   exact World.block_lt_of_cell? w _ this⟩
theorem QaN.mono {P:Program}{t:TypeId}{α:Type}{A:Lay α}{n m:Nat}(h:QaN P t A n) (hm:m≤n):QaN P t A m:=⟨h.1,fun hf h'=>h.2 (Zt hf hm) h'⟩
def Qah (P:Program) (fs:Array Field):Nat→Nat→{α:Type}→Lay α→Nat→Prop:=fun i o α A n =>
 ∀ {H:Type} {enc:TypeId × Value→H} {w:World} {base:Nat} {spare:Nat→Bool} {held:Bool} {fuel:Nat} {cs:List Value} {xs:List (DataW H × List MemPlace)},
  fuel≤n→cs.length=o+A.size→xs.length=fs.size→(∀ (j:Nat) (f:Field),fs[j]?=some f→DataW.trod enc P w base spare held fuel f.type ((cs.drop f.offset).take (P.cellsOf f.type))=xs[j]?) →
  ∃ d,A.In w (fun _=>True) d (cs.drop o)
theorem Qah.last {P:Program}{fs:Array Field}{i o n:Nat}{f:Field}{α:Type}{A:Lay α}(hf:fs[i]?=some f) (ho:f.offset=o) (hA:QaN P f.type A n):Qah P fs i o A n:=by
 intro H enc w base spare held fuel cs xs hn hl hx h;have g:=h i f hf;have hi:i<fs.size:=(Array.getElem?_eq_some_iff.1 hf).1;rw[Zg (by omega),ho,hA.1] at g
 obtain⟨d,hd⟩:=hA.2 hn g
 refine⟨d,?_⟩
 rwa [List.take_of_length_le (by simp;omega)] at hd
theorem Qah.cons {P:Program}{fs:Array Field}{i o n:Nat}{f:Field}{α β:Type}{A:Lay α}{B:Lay β}(hf:fs[i]?=some f) (ho:f.offset=o) (hA:QaN P f.type A n) (hB:Qah P fs (i+1) (o+A.size) B n):Qah P fs i o (A.pair B) n:=by
 intro H enc w base spare held fuel cs xs hn hl hx h;have g:=h i f hf;have hi:i<fs.size:=(Array.getElem?_eq_some_iff.1 hf).1;rw[Zg (by omega),ho,hA.1] at g
 obtain⟨d,hd⟩:=hA.2 hn g
 have hs:(A.pair B).size=A.size+B.size:=rfl;obtain⟨e,he⟩:=hB hn (by omega) hx h
 refine⟨(d,e),_,_,?_,hd,he⟩
 rw[← List.drop_drop,List.take_append_drop]
theorem QaN.struct {P:Program}{t:TypeId}{fs:Array Field}{α:Type}{A:Lay α}{n:Nat}(h:P.underlying t=some (.struct fs)) (hc:P.cellsOf t=A.size) (hF:Qah P fs 0 0 A n):QaN P t A (n+1) :=
 ⟨hc,fun {H enc w base spare held fuel cs x} hf h'=>by
  obtain⟨xs,m,rfl,_,hcl,hxl,hfl⟩:=DataW.trod_struct h h'
  obtain⟨d,hd⟩:=hF (by omega) (by rw[hcl,hc];omega) hxl hfl
  exact⟨d,by simpa using hd⟩⟩
structure ZS {α:Type}(A:Lay α) (e:TypeId) (w:World) (lo:Nat) (v:Value) (l:List α) (xs:List Value):Prop where
 own:w.ownsRow lo e A.size v l.length xs
 kids:∀ (i:Nat) (x:α),l[i]?=some x→A.In w (fun g=>lo≤g∧v.ownBlock≠some g) x ((xs.drop (i*A.size)).take A.size)
section
variable {α:Type}{A:Lay α}{e:TypeId}{w w':World}{lo:Nat}{v:Value}{l:List α}{xs:List Value}
theorem ZS.nil (A:Lay α) (e:TypeId) (w:World) (lo:Nat):ZS A e w lo (.slice none 0 0) [] []:=⟨⟨by simp,Or.inl ⟨rfl,rfl⟩⟩,fun i x h=>by simp at h⟩
theorem ZS.lo_le (h:ZS A e w lo v l xs){g:Nat}(hg:v.ownBlock=some g):lo≤g∧g<w.heap.size:=by
 obtain⟨⟨h1,h2⟩,h3⟩:=h
 rcases h2 with ⟨rfl,h4⟩|⟨g',cap,cur,rfl,hg',hh,r⟩
 ·simp[Value.ownBlock] at hg
 ·simp[Value.ownBlock] at hg;subst hg;exact⟨hg',lt_of_block hh⟩
theorem ZS.below (h:ZS A e w lo v l xs) (b:Below w.heap.size w w'):ZS A e w' lo v l xs:=by
 obtain⟨⟨h1,h2⟩,h3⟩:=h
 refine⟨⟨h1,?_⟩,fun i x hx=>Lay.below (h3 i x hx) b⟩
 rcases h2 with h4 | ⟨g,cap,cur,e,hg,hh,r⟩
 ·exact Or.inl h4
 ·exact Or.inr ⟨g,cap,cur,e,hg,(b.block g (lt_of_block hh)).trans hh,r⟩
theorem ZS.setOther (h:ZS A e w lo v l xs){p:Addr}(hp:p.block<lo) (y:Value):ZS A e (w.setCell p y) lo v l xs:=by
 obtain⟨⟨h1,h2⟩,h3⟩:=h
 refine⟨⟨h1,?_⟩,fun i x hx=>Lay.setCell (h3 i x hx) (fun hk=>by have:=hk.1;omega) _⟩
 rcases h2 with h4 | ⟨g,cap,cur,e,hg,hh,r⟩
 ·exact Or.inl h4
 ·exact Or.inr ⟨g,cap,cur,e,hg,(Below.heap_setCell _ _ _ _ (by omega)).trans hh,r⟩
theorem ZS.lay (h:ZS A e w lo v l xs):A.list.In w (fun g=>lo≤g) l [v]:=by
 obtain⟨⟨h1,h2⟩,h3⟩:=h
 rcases h2 with ⟨rfl,h4⟩|⟨g,cap,cur,rfl,hg,hh,hn,hm,hs,ht⟩
 ·have:l=[]:=List.length_eq_zero_iff.1 h4
  subst this;exact Lay.list_nil A _ _ _ _
 ·refine⟨some ⟨g,0,none⟩,cap,rfl,fun i x hx=>⟨g,0,_,rfl,hg,lt_of_block hh,fun j hj=>?_,Lay.mono (h3 i x hx) (fun k hk _=>hk.1)⟩⟩
  have hi:i<l.length:=(Zi hx).1
  have hij:i*A.size+j<l.length*A.size:=by
   have:(i+1)*A.size≤l.length*A.size:=Nat.mul_le_mul_right _ hi
   rw[Nat.add_mul] at this
   omega
  rw[List.getElem?_take,if_pos hj,List.getElem?_drop,← ht,List.getElem?_take,if_pos hij,Nat.zero_add]
  have hcs:i*A.size+j<cur.size:=by
   have:l.length*A.size≤cap*A.size:=Nat.mul_le_mul_right _ hn
   omega
  rw[Array.getElem?_toList]
  exact(Qb hh _ cur[i*A.size+j] (Array.getElem?_eq_getElem hcs)).trans (Array.getElem?_eq_getElem hcs).symm
theorem ZS.push (h:ZS A e w lo v l xs){x:α}{ds:List Value}(hx:A.In w (fun g=>lo≤g∧v.ownBlock≠some g) x ds)
 {g cap:Nat} (hg:w.grownBy w' v.ownBlock) (hat:v.ownBlock=some g∨g=w.heap.size)
 (ho:w'.ownsRow lo e A.size (.slice (some ⟨g,0,none⟩) (l.length+1) cap) (l.length+1) (xs++ds)) :
 ZS A e w' lo (.slice (some ⟨g,0,none⟩) (l.length+1) cap) (l++[x]) (xs++ds):=by
 obtain⟨h1,h3⟩:=h
 have hxl:=h1.1;have hdl:=A.len hx
 have keep:∀ {y:α} {es:List Value},A.In w (fun g=>lo≤g∧v.ownBlock≠some g) y es→A.In w' (fun g'=>lo≤g'∧(Value.slice (some ⟨g,0,none⟩) (l.length+1) cap).ownBlock≠some g') y es:=fun hy=>by
  refine A.keep (fun k hk hl=>?_) (fun k hk hl=>⟨hk.1,?_⟩) hy
  ·exact hg.block k hl (fun e=>hk.2 e.symm)
  ·simp only[Value.ownBlock,ne_eq,Option.some.injEq]
   intro e;subst e;rcases hat with h' | h'
   ·exact hk.2 h'
   ·omega
 refine⟨by rw[List.length_append];exact ho,fun i y hy=>?_⟩
 rw[List.getElem?_append] at hy
 split at hy
 ·rename_i hi
  have hm:(i+1)*A.size≤l.length*A.size:=Nat.mul_le_mul_right _ hi;rw[Nat.add_mul] at hm
  have:=h3 i y hy
  rw[List.drop_append_of_le_length (by omega),List.take_append_of_le_length (by simp;omega)]
  exact keep this
 ·rename_i hi
  have hi2:i=l.length:=by
   have:=(Zi hy).1
   simp at this
   omega
  subst hi2;simp at hy
  subst hy;rw[List.drop_append,List.drop_of_length_le (by omega),← hxl,Nat.sub_self,List.drop_zero,List.nil_append,List.take_of_length_le (by omega)]
  exact keep hx
end
end Go.Proofs.YtacjnejckfhpoadGreat
namespace Go.Proofs.YtacjnejckfhpoadGreat
open Go.ChangeShapes Go.WideShapes Go.ChangeAt Go.RowKit _root_.Go.Proofs.Tryz
set_option linter.unusedSimpArgs false
set_option linter.unusedVariables false
def TT:Nat→Type
 | 0=>Empty
 | n+1=>Int × Int × List (TT n)
def TT.kind:{n:Nat}→TT n→Int
 | 0,t=>Empty.elim t
 | _+1,t=>t.1
def TT.r:{n:Nat}→TT n→Int
 | 0,t=>Empty.elim t
 | _+1,t=>t.2.1
def TT.len:{n:Nat}→TT n→Nat
 | 0,t=>Empty.elim t
 | _+1,t=>t.2.2.length
def TT.count:{n:Nat}→TT n→Nat
 | 0,t=>Empty.elim t
 | n+1,t=>1+(t.2.2.map (TT.count (n:=n))).sum
def TT.height:{n:Nat}→TT n→Nat
 | 0,t=>Empty.elim t
 | n+1,t=>(t.2.2.map (fun x=>1+TT.height (n:=n) x)).foldl max 0
def ownC (k r:Int) (len:Nat) (regs:Int):Int :=
 if k<1∨4<k then 3
 else if k=1∧r≠0 then 4
 else if k≠3∧0<len then 4
 else if 8<len then 2
 else if k≠1∧(r<0∨regs≤r) then 1
 else 0
def Qz {α:Type}(f:α→Int):List α→Int
 | []=>0
 | x::xs=>if f x≠0 then f x else Qz f xs
def TT.fault:{n:Nat}→Int→TT n→Int
 | 0,_,t=>Empty.elim t
 | n+1,regs,t=>if ownC t.1 t.2.1 t.2.2.length regs≠0 then ownC t.1 t.2.1 t.2.2.length regs else Qz (TT.fault (n:=n) regs) t.2.2
def TT.check {n:Nat}(regs:Int) (t:TT n):Int:=if 4<t.height then 19 else t.fault regs
def Qap (m:Nat) (too:Nat→Int) (k r:Int):Option Int :=
 if k=1 then some r else if r<0∨(m:Int)≤r then none else if too r.toNat<0 then none else some (too r.toNat)
def Qcj {α:Type}(f:α→Option α):List α→Option (List α)
 | []=>some []
 | x::xs=>match f x with
   | none=>none
   | some y=>match Qcj f xs with
     | none=>none
     | some ys=>some (y::ys)
def TT.ren:{n:Nat}→Nat→(Nat→Int)→TT n→Option (TT n)
 | 0,_,_,t=>Empty.elim t
 | n+1,m,too,t=>match Qap m too t.1 t.2.1 with
   | none=>none
   | some r=>match Qcj (TT.ren (n:=n) m too) t.2.2 with
     | none=>none
     | some l=>some ((t.1,r,l):Int × Int × List (TT n))
def TT.ok:{n:Nat}→TT n→Prop
 | 0,t=>Empty.elim t
 | n+1,t=>(-9223372036854775808≤t.2.1∧t.2.1≤9223372036854775807)∧∀ x∈t.2.2,TT.ok (n:=n) x
theorem Qar {α:Type}{f:α→Option α}:∀ {l l':List α},Qcj f l=some l'↔(l'.length=l.length∧∀ (i:Nat) x,l[i]?=some x→f x=l'[i]?)
 | [],l'=>by
   simp only[Qcj,Option.some.injEq]
   constructor
   ·intro h;subst h;simp
   ·intro h;exact(List.length_eq_zero_iff.1 h.1).symm
 | x::xs,l'=>by
   simp only[Qcj]
   constructor
   ·intro h
    cases hx:f x with
    | none=>simp[hx] at h
    | some y =>
      simp only[hx] at h
      cases hs:Qcj f xs with
      | none=>simp[hs] at h
      | some ys =>
        simp only[hs,Option.some.injEq] at h
        subst h;obtain⟨h1,h2⟩:=Qar.1 hs
        refine⟨by simp[h1],fun i z hz=>?_⟩
        cases i with
        | zero=>simp at hz;subst hz;simpa using hx
        | succ i=>simpa using h2 i z (by simpa using hz)
   ·rintro ⟨h1,h2⟩
    cases l' with
    | nil=>simp at h1
    | cons y ys =>
      have hx:f x=some y:=by simpa using h2 0 x rfl
      have hs:Qcj f xs=some ys:=Qar.2 ⟨by simpa using h1,fun i z hz=>by simpa using h2 (i+1) z (by simpa using hz)⟩;simp[hx,hs]
theorem QbO {α:Type}{f:α→Option α}:∀ {l:List α}{i:Nat}{x:α},l[i]?=some x→f x=none→Qcj f l=none
 | [],i,x,h,_=>by simp at h
 | y::ys,0,x,h,hf=>by simp at h;subst h;simp[Qcj,hf]
 | y::ys,i+1,x,h,hf=>by
   have:=QbO (l:=ys) (i:=i) (by simpa using h) hf
   simp only[Qcj,this]
   cases f y<;>rfl
theorem QaB {α:Type}{f:α→Int}:∀ {l:List α}{i:Nat}{x:α},l[i]?=some x→(∀ (j:Nat) y,j<i→l[j]?=some y→f y=0)→f x≠0→Qz f l=f x
 | [],i,x,h,_,_=>by simp at h
 | y::ys,0,x,h,_,hf=>by simp at h;subst h;simp[Qz,hf]
 | y::ys,i+1,x,h,hz,hf=>by
   have h0:f y=0:=hz 0 y (by omega) rfl;simp only[Qz,h0,ne_eq,not_true_eq_false,if_false]
   exact QaB (by simpa using h) (fun j z hj hjz=>hz (j+1) z (by omega) (by simpa using hjz)) hf
theorem Qai {α:Type}{f:α→Int}:∀ {l:List α},(∀ (j:Nat) y,l[j]?=some y→f y=0)→Qz f l=0
 | [],_=>rfl
 | y::ys,h=>by
   have h0:f y=0:=h 0 y rfl;simp only[Qz,h0,ne_eq,not_true_eq_false,if_false]
   exact Qai (fun j z hz=>h (j+1) z (by simpa using hz))
theorem QV {α:Type}{f:α→Int}:∀ {l:List α},Qz f l=0↔∀ x∈l,f x=0
 | []=>by simp[Qz]
 | y::ys=>by
   simp only[Qz]
   by_cases h:f y=0
   ·simp[h,QV]
   ·simp[h]
theorem Qbf {α β:Type}{f:α→Int}{g:β→Int}:∀ {l:List α}{l':List β},l'.length=l.length→(∀ (i:Nat) x y,l[i]?=some x→l'[i]?=some y→f x=g y)→Qz f l=Qz g l'
 | [],[],_,_=>rfl
 | [],_::_,h,_=>by simp at h
 | _::_,[],h,_=>by simp at h
 | x::xs,y::ys,h,k=>by
   have h0:f x=g y:=k 0 x y rfl rfl;have h1:=Qbf (f:=f) (g:=g) (l:=xs) (l':=ys) (by simpa using h) (fun i a b ha hb=>k (i+1) a b (by simpa using ha) (by simpa using hb));simp only[Qz,h0,h1]
theorem TT.count_pos:{n:Nat}→(t:TT n)→1≤t.count
 | 0,t=>Empty.elim t
 | n+1,t=>by simp only[TT.count];omega
theorem QfP (l:List Nat):∀ i,(l.take i).sum≤l.sum:=by
 intro i
 have:=congrArg List.sum (List.take_append_drop i l)
 rw[List.sum_append] at this
 omega
theorem length_le_sum:∀ (l:List Nat),(∀ x∈l,1≤x)→l.length≤l.sum
 | [],_=>by simp
 | x::xs,h=>by
   have h1:=h x (by simp);have h2:=length_le_sum xs (fun y hy=>h y (by simp[hy]));simp only[List.length_cons,List.sum_cons]
   omega
theorem TT.len_lt_count:{n:Nat}→(t:TT n)→t.len<t.count
 | 0,t=>Empty.elim t
 | n+1,t=>by
   have:=length_le_sum (t.2.2.map (TT.count (n:=n))) (fun x hx=>by simp only[List.mem_map] at hx;obtain⟨y,_,rfl⟩:=hx;exact y.count_pos)
   simp only[TT.count,TT.len]
   simp at this
   omega
theorem le_sum_of_mem:∀ {l:List Nat}{x:Nat},x∈l→x≤l.sum
 | y::ys,x,h=>by
   rcases List.mem_cons.1 h with rfl | h
   ·simp
   ·have:=le_sum_of_mem h
    simp only[List.sum_cons];omega
theorem TT.count_kid {n:Nat}(t:TT (n+1)){x:TT n}(h:x∈t.2.2):x.count<t.count:=by
 have:=le_sum_of_mem (l:=t.2.2.map (TT.count (n:=n))) (List.mem_map_of_mem h)
 simp only[TT.count]
 omega
theorem Qa8 {l:List Nat}{a m:Nat}:l.foldl max a≤m↔a≤m∧∀ x∈l,x≤m:=by
 induction l generalizing a with
 | nil=>simp
 | cons y ys ih =>
   simp only[List.foldl_cons,ih,List.mem_cons,forall_eq_or_imp,Nat.max_le,and_assoc]
theorem ZG {n:Nat}{t:TT (n+1)}{m:Nat}:t.height≤m↔∀ x∈t.2.2,1+x.height≤m:=by
 simp only[TT.height,Qa8,List.mem_map,Nat.zero_le,true_and,forall_exists_index,and_imp,forall_apply_eq_imp_iff₂]
theorem TT.ren_height {m:Nat}{too:Nat→Int}:{n:Nat}→{t u:TT n}→t.ren m too=some u→u.height=t.height
 | 0,t,_,_=>Empty.elim t
 | n+1,t,u,h=>by
   simp only[TT.ren] at h
   cases e1:Qap m too t.1 t.2.1 with
   | none=>simp[e1] at h
   | some r1 =>
     simp only[e1] at h
     cases e2:Qcj (TT.ren m too) t.2.2 with
     | none=>simp[e2] at h
     | some l1 =>
       simp only[e2] at h
       have h:=Option.some.inj h;subst h;simp only[TT.height]
       congr 1
       obtain⟨a1,a2⟩:=Qar.1 e2
       apply List.ext_getElem (by simp[a1])
       intro i h1 h2;simp at h1 h2
       have ha:=a2 i t.2.2[i] (Zg h2);rw[Zg h1] at ha
       simp[TT.ren_height ha]
theorem TT.fault_zero {n:Nat}{t:TT (n+1)}{regs:Int}(h:t.fault regs=0):ownC t.1 t.2.1 t.2.2.length regs=0∧∀ x∈t.2.2,x.fault regs=0:=by
 simp only[TT.fault] at h
 split at h
 ·contradiction
 ·rename_i h1
  exact⟨by simpa using h1,QV.1 h⟩
end Go.Proofs.YtacjnejckfhpoadGreat
namespace Go.Proofs.YtacjnejckfhpoadGreat
open Go.ChangeShapes Go.WideShapes Go.ChangeAt Go.RowKit Go.Deep _root_.Go.Proofs.Tryz
set_option linter.unusedVariables false
abbrev All:Nat→Prop:=fun _=>True
abbrev Z2 (lo:Nat):Nat→Prop:=fun g=>lo≤g
abbrev But (lo:Nat) (v:Value):Nat→Prop:=fun g=>lo≤g∧v.ownBlock≠some g
def TIn (w:World) (O:Nat→Prop):{n:Nat}→TT n→Option Addr→Prop
 | 0,t,_=>Empty.elim t
 | n+1,t,a=>∀ (i:Nat) (x:TT n),t.2.2[i]?=some x→∃ g o a' c',a=some ⟨g,o,none⟩∧O g ∧
  w.cell? ⟨g,o+i*3,none⟩=some (.int .i64 x.kind)∧w.cell? ⟨g,o+i*3+1,none⟩=some (.int .i64 x.r)∧w.cell? ⟨g,o+i*3+2,none⟩=some (.slice a' x.len c')∧TIn w O (n:=n) x a'
abbrev Tv {n:Nat}(t:TT n) (a:Option Addr) (c:Nat):Value:=.agg #[.int .i64 t.kind,.int .i64 t.r,.slice a t.len c]
abbrev mkT {n:Nat}(k r:Int) (l:List (TT n)):TT (n+1):=(k,r,l)
abbrev LIn (w:World) (O:Nat→Prop){n:Nat}(l:List (TT n)) (a:Option Addr):Prop:=TIn w O (mkT 0 0 l) a
theorem TIn.list {w:World}{O:Nat→Prop}{n:Nat}{t:TT (n+1)}{a:Option Addr}(h:TIn w O t a):LIn w O t.2.2 a:=h
theorem LIn.tree {w:World}{O:Nat→Prop}{n:Nat}{k r:Int}{l:List (TT n)}{a:Option Addr}(h:LIn w O l a):TIn w O (mkT k r l) a:=h
theorem LIn.at {w:World}{O:Nat→Prop}{n:Nat}{l:List (TT n)}{a:Option Addr}(h:LIn w O l a){i:Nat}{x:TT n}(hx:l[i]?=some x) :
 ∃ g o a' c',a=some ⟨g,o,none⟩∧O g ∧
  w.cell? ⟨g,o+i*3,none⟩=some (.int .i64 x.kind)∧w.cell? ⟨g,o+i*3+1,none⟩=some (.int .i64 x.r)∧w.cell? ⟨g,o+i*3+2,none⟩=some (.slice a' x.len c')∧TIn w O x a':=h i x hx
theorem LIn.nil {w:World}{O:Nat→Prop}{n:Nat}{a:Option Addr}:LIn w O ([]:List (TT n)) a:=fun i x h=>by simp at h
theorem TIn.keep {w w':World}{O O':Nat→Prop}(hb:∀ k,O k→k<w.heap.size→w'.heap[k]?=w.heap[k]?) (hl:∀ k,O k→k<w.heap.size→O' k):{n:Nat}→{t:TT n}→{a:Option Addr}→TIn w O t a→TIn w' O' t a
 | 0,t,_,_=>Empty.elim t
 | n+1,t,a,h=>fun i x hx=>by
   obtain⟨g,o,a',c',e,hg,h1,h2,h3,h4⟩:=h i x hx
   have hgl:g<w.heap.size:=World.block_lt_of_cell? w ⟨g,o+i*3,none⟩ h1;have hk:w'.heap[g]?=w.heap[g]?:=hb g hg hgl;refine⟨g,o,a',c',e,hl g hg hgl,?_,?_,?_,TIn.keep hb hl h4⟩
   ·exact(World.cell?_of_block (w:=w) (a:=⟨g,o+i*3,none⟩) hk).trans h1
   ·exact(World.cell?_of_block (w:=w) (a:=⟨g,o+i*3+1,none⟩) hk).trans h2
   ·exact(World.cell?_of_block (w:=w) (a:=⟨g,o+i*3+2,none⟩) hk).trans h3
section
variable {w w':World}{O O':Nat→Prop}{n:Nat}{t:TT n}{a:Option Addr}
theorem TIn.below (h:TIn w O t a) (b:Below w.heap.size w w'):TIn w' O t a:=h.keep (fun k _ hk=>b.block k hk) (fun _ h _=>h)
theorem TIn.mono (h:TIn w O t a) (hl:∀ k,O k→k<w.heap.size→O' k):TIn w O' t a:=h.keep (fun k _ _=>rfl) hl
theorem TIn.all (h:TIn w O t a):TIn w All t a:=h.mono (fun _ _ _=>trivial)
theorem TIn.alloc (h:TIn w O t a) (o:Obj):TIn (w.alloc o) O t a:=h.keep (fun k _ hk=>Below.heap_alloc _ _ _ hk) (fun _ h _=>h)
theorem TIn.setCell (h:TIn w O t a){p:Addr}(hp:¬ O p.block) (v:Value):TIn (w.setCell p v) O t a :=
 h.keep (fun k hk _=>Below.heap_setCell _ _ _ _ (fun e=>by subst e;exact hp hk)) (fun _ h _=>h)
theorem TIn.drew (h:TIn w O t a):TIn w.drew O t a:=h.keep (w:=w) (w':=w.drew) (fun k _ _=>rfl) (fun _ h _=>h)
theorem TIn.drewN (h:TIn w O t a) (m:Nat):TIn (w.drewN m) O t a:=h.keep (w:=w) (w':=w.drewN m) (fun k _ _=>rfl) (fun _ h _=>h)
end
theorem TT.len_eq {n:Nat}(t:TT (n+1)):t.len=t.2.2.length:=rfl
theorem QjI {α:Type}{P:Nat→α→Prop}(m:Nat) (h:∀ i,i<m→∃ x,P i x):∃ l:List α,l.length=m∧∀ i x,l[i]?=some x→P i x:=by
 induction m with
 | zero=>exact⟨[],rfl,fun i x hx=>by simp at hx⟩
 | succ m ih =>
   obtain⟨l,hl,hp⟩:=ih (fun i hi=>h i (by omega))
   obtain⟨x,hx⟩:=h m (by omega)
   refine⟨l++[x],by simp[hl],fun i y hy=>?_⟩
   rw[List.getElem?_append] at hy
   split at hy
   ·exact hp i y hy
   ·rename_i hi
    have:i=m:=by
     have:=(Zi hy).1
     simp at this
     omega
    subst this;simp[hl] at hy
    subst hy;exact hx
theorem Qjw {H:Type}{enc:TypeId × Value→H}{P:Program}{w:World}{base:Nat}{spare:Nat→Bool}{held:Bool}{tt ts ti:TypeId}{f0 f1 f2:Field}
 (hs:P.underlying ts=some (.slice tt)) (ht:P.underlying tt=some (.struct #[f0,f1,f2])) (hc:P.cellsOf tt=3)
 (h0:f0.offset=0∧P.cellsOf f0.type=1∧P.underlying f0.type=some (.int .i64)) (h1:f1.offset=1∧P.cellsOf f1.type=1∧P.underlying f1.type=some (.int .i64))
 (h2:f2.offset=2∧P.cellsOf f2.type=1∧f2.type=ts):∀ (n fuel:Nat),fuel≤n→∀ {cs:List Value} {x:DataW H × List MemPlace},
 DataW.trod enc P w base spare held fuel tt cs=some x→∃ (T:TT n) (a:Option Addr) (c:Nat),cs=[.int .i64 T.kind,.int .i64 T.r,.slice a T.len c]∧TIn w All T a∧T.ok:=by
 intro n
 induction n with
 | zero =>
   intro fuel hf cs x h;obtain rfl:fuel=0:=by omega
   simp[DataW.trod] at h
 | succ n ih =>
   intro fuel hf cs x h;obtain⟨xs,m,rfl,_,hcl,hxl,hfl⟩:=DataW.trod_struct ht h
   have hxl':xs.length=3:=hxl;have g0:=hfl 0 f0 rfl;have g1:=hfl 1 f1 rfl;have g2:=hfl 2 f2 rfl;rw[h0.1,h0.2.1,Zg (by omega)] at g0
   rw[h1.1,h1.2.1,Zg (by omega)] at g1
   rw[h2.1,h2.2.1,h2.2.2,Zg (by omega)] at g2
   obtain⟨k,e0,_,_⟩:=DataW.trod_int h0.2.2 g0
   obtain⟨r,e1,_,wf1⟩:=DataW.trod_int h1.2.2 g1
   have ew:-9223372036854775808≤r∧r≤9223372036854775807:=by
    have:=Go.bounds_i64 wf1
    omega
   rw[hc] at hcl
   obtain⟨c0,c1,c2,rfl⟩:∃ c0 c1 c2,cs=[c0,c1,c2]:=by
    match cs,hcl with
    | [c0,c1,c2],_=>exact⟨_,_,_,rfl⟩
   simp at e0 e1
   subst e0 e1;rcases DataW.trod_slice hs g2 with ⟨e2,_⟩|⟨a,len,cap,elems,rest,q,rfl,e2,_,hb,hl,hm,hlen,hel,_,_⟩
   ·simp at e2
    subst e2;exact⟨mkT k r [],none,0,rfl,LIn.nil,ew,fun x hx=>by cases hx⟩
   ·simp at e2
    subst e2
    obtain⟨l,hll,hp⟩:=QjI (P:=fun i (T:TT n)=>∃ a' c',w.cells? base (a.add (i*3)) 3=some [.int .i64 T.kind,.int .i64 T.r,.slice a' T.len c']∧TIn w All T a'∧T.ok) len (fun i hi=>by
     have he:=hel i hi;rw[Zg (by omega),hc] at he
     rw[Option.bind_eq_some_iff] at he
     obtain⟨cs',hcs,htr⟩:=he
     obtain⟨T,a',c',rfl,t1,t2⟩:=ih q (by omega) htr
     exact⟨T,a',c',hcs,t1,t2⟩)
    refine⟨mkT k r l,some a,cap,by simp[TT.kind,TT.r,TT.len,hll],fun i x hx=>?_,ew,fun x hx=>?_⟩
    ·obtain⟨a',c',hcs,t1,t2⟩:=hp i x hx
     obtain⟨_,hcl',hcell⟩:=World.cells?_some hcs
     have q0:=hcell 0 (by omega);have q1:=hcell 1 (by omega);have q2:=hcell 2 (by omega);obtain⟨b,off,spot⟩:=a
     have hspot:spot=none:=by
      have hi:0<l.length:=Nat.lt_of_le_of_lt (Nat.zero_le i) (Zi hx).1;obtain⟨_,_,hcs0,_,_⟩:=hp 0 l[0] (Zg hi)
      have:=(World.cells?_some hcs0).2.2 0 (by omega)
      simpa[Addr.add] using World.cell?_spot this
     subst hspot;rw[Go.WideShapes.add_plain,Go.WideShapes.add_plain] at q0 q1 q2
     exact⟨b,off,a',c',rfl,trivial,q0,q1,q2,t1⟩
    ·obtain⟨i,hi,rfl⟩:=List.mem_iff_getElem.1 hx
     obtain⟨a',c',hcs,t1,t2⟩:=hp i l[i] (Zg hi)
     exact t2
#print axioms Qjw
structure Qy where
 op:Int
 a:Int
 b:Int
 c:Int
 k:Int
 n:Int
 regs:List Int
 args:List Int
structure MTo where
 block:Int
 regs:List Int
 args:List Int
structure MEnd where
 op:Int
 a:Int
 yes:MTo
 no:MTo
 args:List Int
structure Qh (n:Nat) where
 regs:Int
 params:List (TT n)
 code:List Qy
 fin:MEnd
structure Qg (n:Nat) where
 regs:Int
 params:List (TT n)
 results:List (TT n)
 blocks:List (Qh n)
def Lay.via {α β:Type}(A:Lay α) (f:β→α):Lay β where
 size:=A.size
 In:=fun w O x cs=>A.In w O (f x) cs
 len:=fun h=>A.len h
 keep:=fun hb hl h=>A.keep hb hl h
theorem QaN.via {P:Program}{t:TypeId}{α β:Type}{A:Lay α}{n:Nat}{f:β→α}(h:QaN P t A n) (g:α→β) (hg:∀ d,f (g d)=d):QaN P t (A.via f) n :=
 ⟨h.1,fun hf h'=>by
  obtain⟨d,hd⟩:=h.2 hf h'
  exact⟨g d,by show A.In _ _ (f (g d)) _;rw[hg];exact hd⟩⟩
def Lay.tt (n:Nat):Lay (TT n) where
 size:=3
 In:=fun w O t cs=>∃ a c,cs=[.int .i64 t.kind,.int .i64 t.r,.slice a t.len c]∧TIn w O t a∧t.ok
 len:=fun ⟨_,_,e,_⟩=>by rw[e];rfl
 keep:=fun hb hl ⟨a,c,e,h1,h2⟩=>⟨a,c,e,h1.keep hb hl,h2⟩
abbrev intsL:Lay (List Int):=Lay.int.list
abbrev Qm (n:Nat):Lay (List (TT n)):=(Lay.tt n).list
def insL:Lay Qy:=(Lay.int.pair (Lay.int.pair (Lay.int.pair (Lay.int.pair (Lay.int.pair (Lay.int.pair (intsL.pair intsL))))))).via (fun x=>(x.op,x.a,x.b,x.c,x.k,x.n,x.regs,x.args))
def toL:Lay MTo:=(Lay.int.pair (intsL.pair intsL)).via (fun x=>(x.block,x.regs,x.args))
def endL:Lay MEnd:=(Lay.int.pair (Lay.int.pair (toL.pair (toL.pair intsL)))).via (fun x=>(x.op,x.a,x.yes,x.no,x.args))
def ZD (n:Nat):Lay (Qh n):=(Lay.int.pair ((Qm n).pair (insL.list.pair endL))).via (fun x=>(x.regs,x.params,x.code,x.fin))
def Zy (n:Nat):Lay (Qg n):=(Lay.int.pair ((Qm n).pair ((Qm n).pair (ZD n).list))).via (fun x=>(x.regs,x.params,x.results,x.blocks))
abbrev Qaq (n:Nat):Lay (List (Qg n)):=(Zy n).list
section
variable {w:World}{O:Nat→Prop}{n:Nat}{cs:List Value}
theorem Zs {α:Type}{A:Lay α}{l:List α}(h:A.list.In w O l cs):∃ a c,cs=[.slice a l.length c]∧A.list.In w O l [.slice a l.length c]:=by
 obtain⟨a,c,e,h⟩:=h
 exact⟨a,c,e,a,c,rfl,h⟩
theorem Qfd {x:MTo}(h:toL.In w O x cs):∃ a c b d,cs=[.int .i64 x.block,.slice a x.regs.length c,.slice b x.args.length d]∧intsL.In w O x.regs [.slice a x.regs.length c]∧intsL.In w O x.args [.slice b x.args.length d]∧(-9223372036854775808≤x.block∧x.block≤9223372036854775807):=by
 obtain⟨_,_,rfl,⟨rfl,h0⟩,⟨_,_,rfl,h1,h2⟩⟩:=h
 obtain⟨a,c,rfl,h1⟩:=Zs h1
 obtain⟨b,d,rfl,h2⟩:=Zs h2
 exact⟨a,c,b,d,rfl,h1,h2,h0⟩
theorem Qll {x:MTo}{a b:Option Addr}{c d:Nat}(h1:intsL.In w O x.regs [.slice a x.regs.length c]) (h2:intsL.In w O x.args [.slice b x.args.length d]) (h0:-9223372036854775808≤x.block∧x.block≤9223372036854775807) :
 toL.In w O x [.int .i64 x.block,.slice a x.regs.length c,.slice b x.args.length d]:=⟨_,_,rfl,⟨rfl,h0⟩,⟨_,_,rfl,h1,h2⟩⟩
theorem QiV {x:Qy}(h:insL.In w O x cs):∃ a c b d,cs=[.int .i64 x.op,.int .i64 x.a,.int .i64 x.b,.int .i64 x.c,.int .i64 x.k,.int .i64 x.n,.slice a x.regs.length c,.slice b x.args.length d]∧intsL.In w O x.regs [.slice a x.regs.length c]∧intsL.In w O x.args [.slice b x.args.length d] ∧
 ((-9223372036854775808≤x.op∧x.op≤9223372036854775807)∧(-9223372036854775808≤x.a∧x.a≤9223372036854775807)∧(-9223372036854775808≤x.b∧x.b≤9223372036854775807)∧(-9223372036854775808≤x.c∧x.c≤9223372036854775807)∧(-9223372036854775808≤x.k∧x.k≤9223372036854775807)∧(-9223372036854775808≤x.n∧x.n≤9223372036854775807)):=by
 obtain⟨_,_,rfl,⟨rfl,h0⟩,⟨_,_,rfl,⟨rfl,h1⟩,⟨_,_,rfl,⟨rfl,h2⟩,⟨_,_,rfl,⟨rfl,h3⟩,⟨_,_,rfl,⟨rfl,h4⟩,⟨_,_,rfl,⟨rfl,h5⟩,⟨_,_,rfl,h6,h7⟩⟩⟩⟩⟩⟩⟩:=h
 obtain⟨a,c,rfl,h6⟩:=Zs h6
 obtain⟨b,d,rfl,h7⟩:=Zs h7
 exact⟨a,c,b,d,rfl,h6,h7,h0,h1,h2,h3,h4,h5⟩
theorem QkT {x:Qy}{a b:Option Addr}{c d:Nat}(h1:intsL.In w O x.regs [.slice a x.regs.length c]) (h2:intsL.In w O x.args [.slice b x.args.length d])
 (h0:(-9223372036854775808≤x.op∧x.op≤9223372036854775807)∧(-9223372036854775808≤x.a∧x.a≤9223372036854775807)∧(-9223372036854775808≤x.b∧x.b≤9223372036854775807)∧(-9223372036854775808≤x.c∧x.c≤9223372036854775807)∧(-9223372036854775808≤x.k∧x.k≤9223372036854775807)∧(-9223372036854775808≤x.n∧x.n≤9223372036854775807)) :
 insL.In w O x [.int .i64 x.op,.int .i64 x.a,.int .i64 x.b,.int .i64 x.c,.int .i64 x.k,.int .i64 x.n,.slice a x.regs.length c,.slice b x.args.length d] :=
 ⟨_,_,rfl,⟨rfl,h0.1⟩,⟨_,_,rfl,⟨rfl,h0.2.1⟩,⟨_,_,rfl,⟨rfl,h0.2.2.1⟩,⟨_,_,rfl,⟨rfl,h0.2.2.2.1⟩,⟨_,_,rfl,⟨rfl,h0.2.2.2.2.1⟩,⟨_,_,rfl,⟨rfl,h0.2.2.2.2.2⟩,⟨_,_,rfl,h1,h2⟩⟩⟩⟩⟩⟩⟩
theorem QfX {x:MEnd}(h:endL.In w O x cs):∃ c1 c2 a c,cs=.int .i64 x.op::.int .i64 x.a::(c1++(c2++[.slice a x.args.length c]))∧toL.In w O x.yes c1∧toL.In w O x.no c2∧intsL.In w O x.args [.slice a x.args.length c]∧((-9223372036854775808≤x.op∧x.op≤9223372036854775807)∧(-9223372036854775808≤x.a∧x.a≤9223372036854775807)):=by
 obtain⟨_,_,rfl,⟨rfl,h0⟩,⟨_,_,rfl,⟨rfl,h1⟩,⟨c1,_,rfl,h2,⟨c2,_,rfl,h3,h4⟩⟩⟩⟩:=h
 obtain⟨a,c,rfl,h4⟩:=Zs h4
 exact⟨c1,c2,a,c,rfl,h2,h3,h4,h0,h1⟩
theorem Qk4 {x:MEnd}{c1 c2:List Value}{a:Option Addr}{c:Nat}(h2:toL.In w O x.yes c1) (h3:toL.In w O x.no c2) (h4:intsL.In w O x.args [.slice a x.args.length c]) (h0:(-9223372036854775808≤x.op∧x.op≤9223372036854775807)∧(-9223372036854775808≤x.a∧x.a≤9223372036854775807)) :
 endL.In w O x (.int .i64 x.op::.int .i64 x.a::(c1++(c2++[.slice a x.args.length c]))):=⟨[_],_,rfl,⟨rfl,h0.1⟩,⟨[_],_,rfl,⟨rfl,h0.2⟩,⟨c1,_,rfl,h2,⟨c2,_,rfl,h3,h4⟩⟩⟩⟩
theorem QdE {x:Qh n}(h:(ZD n).In w O x cs):∃ a c b d es,cs=.int .i64 x.regs::.slice a x.params.length c::.slice b x.code.length d::es∧(Qm n).In w O x.params [.slice a x.params.length c]∧insL.list.In w O x.code [.slice b x.code.length d]∧endL.In w O x.fin es∧(-9223372036854775808≤x.regs∧x.regs≤9223372036854775807):=by
 obtain⟨_,_,rfl,⟨rfl,h0⟩,⟨_,_,rfl,h1,⟨_,es,rfl,h2,h3⟩⟩⟩:=h
 obtain⟨a,c,rfl,h1⟩:=Zs h1
 obtain⟨b,d,rfl,h2⟩:=Zs h2
 exact⟨a,c,b,d,es,rfl,h1,h2,h3,h0⟩
theorem Qja {x:Qh n}{a b:Option Addr}{c d:Nat}{es:List Value}(h1:(Qm n).In w O x.params [.slice a x.params.length c]) (h2:insL.list.In w O x.code [.slice b x.code.length d]) (h3:endL.In w O x.fin es) (h0:-9223372036854775808≤x.regs∧x.regs≤9223372036854775807) :
 (ZD n).In w O x (.int .i64 x.regs::.slice a x.params.length c::.slice b x.code.length d::es):=⟨[_],_,rfl,⟨rfl,h0⟩,⟨[_],_,rfl,h1,⟨[_],es,rfl,h2,h3⟩⟩⟩
theorem ZH {x:Qg n}(h:(Zy n).In w O x cs):∃ a c b d e f,cs=[.int .i64 x.regs,.slice a x.params.length c,.slice b x.results.length d,.slice e x.blocks.length f]∧(Qm n).In w O x.params [.slice a x.params.length c]∧(Qm n).In w O x.results [.slice b x.results.length d]∧(ZD n).list.In w O x.blocks [.slice e x.blocks.length f]∧(-9223372036854775808≤x.regs∧x.regs≤9223372036854775807):=by
 obtain⟨_,_,rfl,⟨rfl,h0⟩,⟨_,_,rfl,h1,⟨_,_,rfl,h2,h3⟩⟩⟩:=h
 obtain⟨a,c,rfl,h1⟩:=Zs h1
 obtain⟨b,d,rfl,h2⟩:=Zs h2
 obtain⟨e,f,rfl,h3⟩:=Zs h3
 exact⟨a,c,b,d,e,f,rfl,h1,h2,h3,h0⟩
theorem QjG {x:Qg n}{a b e:Option Addr}{c d f:Nat}(h1:(Qm n).In w O x.params [.slice a x.params.length c]) (h2:(Qm n).In w O x.results [.slice b x.results.length d]) (h3:(ZD n).list.In w O x.blocks [.slice e x.blocks.length f]) (h0:-9223372036854775808≤x.regs∧x.regs≤9223372036854775807) :
 (Zy n).In w O x [.int .i64 x.regs,.slice a x.params.length c,.slice b x.results.length d,.slice e x.blocks.length f]:=⟨[_],_,rfl,⟨rfl,h0⟩,⟨[_],_,rfl,h1,⟨[_],_,rfl,h2,h3⟩⟩⟩
theorem ZC {l:List Int}{a:Option Addr}{m c:Nat}(h:intsL.In w O l [.slice a m c]){i:Nat}(hi:i<l.length):∃ g o,a=some ⟨g,o,none⟩∧O g∧g<w.heap.size∧w.cell? ⟨g,o+i,none⟩=some (.int .i64 (l.getD i 0)):=by
 obtain⟨g,o,ds,e,h1,h2,h3,rfl,_⟩:=Lay.list_at h (Zg hi)
 refine⟨g,o,e,h1,h2,?_⟩
 have:=h3 0 (by decide)
 have hs:Lay.int.size=1:=rfl;rw[hs,Nat.mul_one,Nat.add_zero] at this
 rw[this]
 simp[List.getD,hi]
theorem QJ {l:List (TT n)}{a:Option Addr}{m c:Nat}(h:(Qm n).In w O l [.slice a m c]):LIn w O l a∧∀ x∈l,x.ok:=by
 refine⟨fun i x hx=>?_,fun x hx=>?_⟩
 ·obtain⟨g,o,ds,e,h1,h2,h3,a',c',rfl,h4,_⟩:=Lay.list_at h hx
  have hs:(Lay.tt n).size=3:=rfl;rw[hs] at h3
  exact⟨g,o,a',c',e,h1,h3 0 (by omega),h3 1 (by omega),h3 2 (by omega),h4⟩
 ·obtain⟨i,hi,rfl⟩:=List.mem_iff_getElem.1 hx
  obtain⟨g,o,ds,e,h1,h2,h3,a',c',rfl,h4,h5⟩:=Lay.list_at h (Zg hi)
  exact h5
theorem QeI {l:List (TT n)}{a:Option Addr}{c:Nat}(h:LIn w O l a) (hok:∀ x∈l,x.ok):(Qm n).In w O l [.slice a l.length c]:=by
 refine⟨a,c,rfl,fun i x hx=>?_⟩
 obtain⟨g,o,a',c',e,h1,h2,h3,h4,h5⟩:=LIn.at h hx
 refine⟨g,o,[.int .i64 x.kind,.int .i64 x.r,.slice a' x.len c'],e,h1,World.block_lt_of_cell? w ⟨g,o+i*3,none⟩ h2,fun j hj=>?_,a',c',rfl,h5,hok x (Zm hx)⟩
 have hj':j<3:=hj;have hs:(Lay.tt n).size=3:=rfl;rw[hs]
 match j,hj' with
 | 0,_=>exact h2
 | 1,_=>exact h3
 | 2,_=>exact h4
end
end Go.Proofs.YtacjnejckfhpoadGreat
namespace Go.Proofs.YtacjnejckfhpoadGreat
open Go.ChangeShapes Go.WideShapes Go.ChangeAt Go.RowKit _root_.Go.Proofs.Tryz
set_option linter.unusedSimpArgs false
set_option linter.unusedVariables false
def QD (op:Int):Option (Bool × Bool × Bool × Bool × Bool × Bool × Bool) :=
 if op=1 then some (false,false,false,false,true,false,false)
 else if op=2∨op=7 then some (true,true,false,true,false,false,false)
 else if op=3∨op=12 then some (false,false,false,false,false,false,false)
 else if op=4∨op=11∨op=13 then some (true,false,false,false,false,false,false)
 else if op=5 then some (true,false,false,false,false,false,true)
 else if op=6 then some (true,false,false,true,false,false,false)
 else if op=8∨op=9 then some (true,true,false,false,false,false,false)
 else if op=10 then some (true,true,true,false,false,false,false)
 else if op=14 then some (false,false,false,true,false,true,true)
 else none
def Qy.formless (x:Qy):Bool:=match QD x.op with
 | none=>false
 | some (a,b,c,k,n,rg,ar)=>(!a&&x.a != 0)||(!b&&x.b != 0)||(!c&&x.c != 0)||(!k&&x.k != 0)||(!n&&x.n != 0)||(!rg&&decide (0<x.regs.length))||(!ar&&decide (0<x.args.length))
def Qy.form (funcs:Nat) (x:Qy):Int :=
 if (QD x.op).isNone then 3
 else if x.formless then 4
 else if x.op=2∧(x.k<1∨9<x.k) then 1
 else if x.op=5∧8<x.args.length then 2
 else if (x.op=6∨x.op=7)∧(x.k<0∨7<x.k) then 1
 else if x.op=14∧(x.k<0∨(funcs:Int)≤x.k) then 1
 else if x.op=14∧(6<x.regs.length∨8<x.args.length) then 2
 else 0
def MTo.form (blocks:Nat) (has:Bool) (t:MTo):Int :=
 if has=false then (if t.block≠0∨0<t.regs.length+t.args.length then 4 else 0)
 else if t.block<0∨(blocks:Int)≤t.block then 1
 else if 16<t.regs.length∨8<t.args.length then 2
 else 0
def MEnd.form (blocks:Nat) (e:MEnd):Int :=
 if e.op<1∨3<e.op then 3
 else if (e.a≠0∧e.op≠2)∨(0<e.args.length∧e.op≠3) then 4
 else if 8<e.args.length then 2
 else if e.yes.form blocks (decide (e.op≠3))≠0 then e.yes.form blocks (decide (e.op≠3))
 else e.no.form blocks (decide (e.op=2))
def listC {n:Nat}(regs:Int) (l:List (TT n)):Int:=if 8<l.length then 2 else Qz (TT.check regs) l
def firstF {α:Type}(f:Nat→α→Int × Int):Nat→List α→Int × Int
 | _,[]=>(0,0)
 | i,x::xs=>if (f i x).1≠0 then f i x else firstF f (i+1) xs
def TT.dec:(n:Nat)→DecidableEq (TT n)
 | 0=>fun t _=>Empty.elim t
 | n+1=>fun t u=>match (TT.dec n) with
   | d=>if h1:t.1=u.1 then if h2:t.2.1=u.2.1 then match (@List.hasDecEq _ d t.2.2 u.2.2) with
    | isTrue h3=>isTrue (by obtain⟨a,b,c⟩:=t;obtain⟨a',b',c'⟩:=u;simp only at h1 h2 h3;subst h1 h2 h3;rfl)
    | isFalse h3=>isFalse (fun e=>h3 (by rw[e]))
    else isFalse (fun e=>h2 (by rw[e])) else isFalse (fun e=>h1 (by rw[e]))
def Qbz {n:Nat}(l m:List (TT n)):Bool:=match @List.hasDecEq _ (TT.dec n) l m with
 | isTrue _=>true
 | isFalse _=>false
theorem QbY {n:Nat}{l m:List (TT n)}:Qbz l m=true↔l=m:=by
 unfold Qbz;split
 ·rename_i h _;simp[h]
 ·rename_i h _;simp[h]
def Qh.fault {n:Nat}(funcs:Nat) (f:Nat) (fn:Qg n) (b:Nat) (x:Qh n):Int × Int :=
 if x.regs<fn.regs∨16<x.regs then (1,10000*f+100*b+90)
 else if listC x.regs x.params≠0 then (listC x.regs x.params,10000*f+100*b+90)
 else if b=0∧(x.regs≠fn.regs∨Qbz x.params fn.params=false) then (9,10000*f+100*b+90)
 else if 40<x.code.length then (2,10000*f+100*b+90)
 else if (firstF (fun i y=>(Qy.form funcs y,(10000*f+100*b+i:Int))) 0 x.code).1≠0 then firstF (fun i y=>(Qy.form funcs y,(10000*f+100*b+i:Int))) 0 x.code
 else if x.fin.form fn.blocks.length≠0 then (x.fin.form fn.blocks.length,10000*f+100*b+91)
 else (0,0)
def Qg.fault {n:Nat}(funcs:Nat) (f:Nat) (x:Qg n):Int × Int :=
 if x.regs<0∨6<x.regs then (1,10000*f+9999)
 else if listC x.regs x.params≠0 then (listC x.regs x.params,10000*f+9999)
 else if listC x.regs x.results≠0 then (listC x.regs x.results,10000*f+9999)
 else if x.blocks.length<1∨12<x.blocks.length then (2,10000*f+9999)
 else if f=0∧¬ (x.regs=0∧x.params.length=0∧x.results.all (fun t=>t.kind==1)=true) then (18,10000*f+9999)
 else firstF (fun b y=>Qh.fault funcs f x b y) 0 x.blocks
def modFault {n:Nat}(m:List (Qg n)):Int × Int :=
 if m.length<1∨8<m.length then (2,-1) else firstF (fun f x=>Qg.fault m.length f x) 0 m
def Zz {n:Nat}(l:List (TT n)):Prop:=200<l.length∨∃ t∈l,2000<t.count
def Qh.great {n:Nat}(x:Qh n):Prop:=200<x.code.length∨Zz x.params∨300<x.fin.args.length∨300<x.fin.yes.regs.length∨300<x.fin.yes.args.length∨300<x.fin.no.regs.length∨300<x.fin.no.args.length∨∃ y∈x.code,300<y.regs.length∨300<y.args.length
def Qg.great {n:Nat}(x:Qg n):Prop:=30<x.blocks.length∨Zz x.params∨Zz x.results∨∃ y∈x.blocks,y.great
def QW {n:Nat}(m:List (Qg n)):Prop:=20<m.length∨∃ x∈m,x.great
theorem Qan {α:Type}{f:Nat→α→Int × Int}:∀ {l:List α}{i j:Nat}{x:α},l[i]?=some x→(∀ k y,k<i→l[k]?=some y→(f (j+k) y).1=0)→(f (j+i) x).1≠0→firstF f j l=f (j+i) x
 | [],i,j,x,h,_,_=>by simp at h
 | y::ys,0,j,x,h,_,hf=>by
   simp at h;subst h
   simp only[firstF]
   rw[if_pos (by simpa using hf)]
   rfl
 | y::ys,i+1,j,x,h,hz,hf=>by
   have h0:(f j y).1=0:=by simpa using hz 0 y (by omega) rfl
   simp only[firstF,h0,ne_eq,not_true_eq_false,if_false]
   have:=Qan (f:=f) (l:=ys) (i:=i) (j:=j+1) (x:=x) (by simpa using h) (fun k z hk hkz=>by have:=hz (k+1) z (by omega) (by simpa using hkz);rwa [show j+1+k=j+(k+1) by omega]) (by rwa [show j+1+i=j+(i+1) by omega])
   rw[this,show j+1+i=j+(i+1) by omega]
theorem ZJ {α:Type}{f:Nat→α→Int × Int}:∀ {l:List α}{j:Nat},(∀ (k:Nat) y,l[k]?=some y→(f (j+k) y).1=0)→firstF f j l=(0,0)
 | [],_,_=>rfl
 | y::ys,j,h=>by
   have h0:(f j y).1=0:=by simpa using h 0 y rfl
   simp only[firstF,h0,ne_eq,not_true_eq_false,if_false]
   exact ZJ (fun k z hz=>by have:=h (k+1) z (by simpa using hz);rwa [show j+1+k=j+(k+1) by omega])
def Qkw {n:Nat}(l:List (TT n)):Prop:=l.length≤8∧∀ t∈l,∃ regs:Int,regs≤16∧t.check regs=0
structure Qh.fine {n:Nat}(x:Qh n) (funcs:Nat):Prop where
 regs:0≤x.regs∧x.regs≤16
 params:Qkw x.params
 code:∀ y∈x.code,y.form funcs=0
 fin:∃ nb,nb≤12∧x.fin.form nb=0
structure Qg.fine {n:Nat}(x:Qg n) (funcs:Nat):Prop where
 regs:0≤x.regs∧x.regs≤6
 params:Qkw x.params
 results:Qkw x.results
 blocks:∀ y∈x.blocks,y.fine funcs
theorem ZZ {α:Type}{f:Nat→α→Int × Int}:∀ {l:List α}{j:Nat},(firstF f j l).1=0→∀ (i:Nat) x,l[i]?=some x→(f (j+i) x).1=0
 | [],j,h,i,x,hx=>by simp at hx
 | y::l,j,h,i,x,hx=>by
   rw[firstF] at h
   by_cases h0:(f j y).1=0
   ·rw[if_neg (by simpa using h0)] at h
    cases i with
    | zero=>simp at hx;subst hx;exact h0
    | succ i =>
      have:=ZZ h i x (by simpa using hx)
      rwa [show j+1+i=j+(i+1) by omega] at this
   ·rw[if_pos h0] at h
    exact absurd h h0
theorem Qkg {n:Nat}{regs:Int}{l:List (TT n)}(hr:regs≤16) (h:listC regs l=0):Qkw l:=by
 unfold listC at h;split at h
 ·cases h
 ·exact⟨by omega,fun t ht=>⟨regs,hr,QV.1 h t ht⟩⟩
theorem Qjo {n funcs f b:Nat}{fn:Qg n}{x:Qh n}(h0:0≤fn.regs) (hb:fn.blocks.length≤12) (h:(Qh.fault funcs f fn b x).1=0):x.fine funcs:=by
 unfold Qh.fault at h;split at h
 ·cases h
 rename_i h1
 split at h
 ·rename_i h2;exact absurd h h2
 rename_i h2
 split at h
 ·cases h
 split at h
 ·cases h
 split at h
 ·rename_i h5;exact absurd h h5
 rename_i h5
 split at h
 ·rename_i h6;exact absurd h h6
 rename_i h6
 refine⟨by omega,Qkg (by omega) (Decidable.not_not.1 h2),fun y hy=>?_,_,hb,Decidable.not_not.1 h6⟩
 obtain⟨i,hi⟩:=List.getElem?_of_mem hy
 exact ZZ (Decidable.not_not.1 h5) i y hi
theorem QjO {n funcs f:Nat}{x:Qg n}(h:(Qg.fault funcs f x).1=0):x.fine funcs:=by
 unfold Qg.fault at h;split at h
 ·cases h
 rename_i h1
 split at h
 ·rename_i h2;exact absurd h h2
 rename_i h2
 split at h
 ·rename_i h3;exact absurd h h3
 rename_i h3
 split at h
 ·cases h
 rename_i h4
 split at h
 ·cases h
 refine⟨by omega,Qkg (by omega) (Decidable.not_not.1 h2),Qkg (by omega) (Decidable.not_not.1 h3),fun y hy=>?_⟩
 obtain⟨i,hi⟩:=List.getElem?_of_mem hy
 exact Qjo (by omega) (by omega) (ZZ h i y hi)
theorem QkL {n:Nat}{m:List (Qg n)}(h:(modFault m).1=0):∀ x∈m,x.fine m.length:=by
 unfold modFault at h;split at h
 ·cases h
 intro x hx;obtain⟨i,hi⟩:=List.getElem?_of_mem hx
 exact QjO (ZZ h i x hi)
theorem QiB {funcs:Nat}{x:Qy}(h:x.form funcs=0):(QD x.op).isNone=false∧x.formless=false∧(x.op=2→1≤x.k∧x.k≤9)∧(x.args.length≤8∨x.op≠5∧x.op≠14)∧(x.op=14→x.regs.length≤6):=by
 unfold Qy.form at h;split at h
 ·cases h
 split at h
 ·cases h
 split at h
 ·cases h
 split at h
 ·cases h
 split at h
 ·cases h
 split at h
 ·cases h
 split at h
 ·cases h
 rename_i h1 h2 h3 h4 h5 h6 h7
 refine⟨Bool.eq_false_iff.2 h1,Bool.eq_false_iff.2 h2,by omega,by omega,by omega⟩
theorem Qf9 {nb:Nat}{e:MEnd}(hb:nb≤12) (h:e.form nb=0):(e.op=1∨e.op=2∨e.op=3)∧(e.op≠2→e.a=0)∧(e.op≠3→e.args=[])∧e.args.length≤8∧e.yes.form nb (decide (e.op≠3))=0∧e.no.form nb (decide (e.op=2))=0:=by
 unfold MEnd.form at h;split at h
 ·cases h
 split at h
 ·cases h
 split at h
 ·cases h
 split at h
 ·rename_i h1;exact absurd h h1
 rename_i h1 h2 h3 h4
 refine⟨by omega,by omega,fun hh=>List.length_eq_zero_iff.1 (by omega),by omega,Decidable.not_not.1 h4,h⟩
theorem QcN {n:Nat}{t:TT n}{regs:Int}(h:t.check regs=0):t.height≤4∧t.fault regs=0:=by
 unfold TT.check at h;split at h
 ·cases h
 ·exact⟨by omega,h⟩
theorem QiN {op:Int}(h:(QD op).isNone=false):op=1∨op=2∨op=3∨op=4∨op=5∨op=6∨op=7∨op=8∨op=9∨op=10∨op=11∨op=12∨op=13∨op=14:=by
 unfold QD at h;repeat' split at h
 all_goals first | omega | cases h
def MTo.small (x:MTo):Prop:=x.regs.length≤100000∧x.args.length≤100000
def Qy.small (x:Qy):Prop:=x.regs.length≤100000∧x.args.length≤100000
def MEnd.small (x:MEnd):Prop:=x.yes.small∧x.no.small∧x.args.length≤100000
def Qcm {n:Nat}(l:List (TT n)):Prop:=l.length≤100000∧∀ t∈l,t.count≤100000
def Qh.small {n:Nat}(x:Qh n):Prop:=x.code.length≤100000∧Qcm x.params∧x.fin.small∧∀ y∈x.code,y.small
def Qg.small {n:Nat}(x:Qg n):Prop:=x.blocks.length≤100000∧Qcm x.params∧Qcm x.results∧∀ y∈x.blocks,y.small
def Qc9 {n:Nat}(m:List (Qg n)):Prop:=m.length≤100000∧∀ x∈m,x.small
theorem QcR {n:Nat}{l:List (TT n)}(h:¬ Zz l):Qcm l:=⟨Zt (Nat.le_of_not_lt fun x=>h (.inl x)) (by decide),fun t ht=>Zt (Nat.le_of_not_lt fun x=>h (.inr ⟨t,ht,x⟩)) (by decide)⟩
theorem Qh.small_of {n:Nat}{x:Qh n}(h:¬ x.great):x.small:=by
 unfold Qh.great at h;simp only[not_or,not_exists,not_and,Nat.not_lt] at h
 obtain⟨h1,h2,h3,h4,h5,h6,h7,h8⟩:=h
 exact⟨Zt h1 (by decide),QcR h2,⟨⟨Zt h4 (by decide),Zt h5 (by decide)⟩,⟨Zt h6 (by decide),Zt h7 (by decide)⟩,Zt h3 (by decide)⟩,fun y hy=>⟨Zt (h8 y hy).1 (by decide),Zt (h8 y hy).2 (by decide)⟩⟩
theorem Qg.small_of {n:Nat}{x:Qg n}(h:¬ x.great):x.small:=by
 unfold Qg.great at h;simp only[not_or,not_exists,not_and,Nat.not_lt] at h
 obtain⟨h1,h2,h3,h4⟩:=h
 exact⟨Zt h1 (by decide),QcR h2,QcR h3,fun y hy=>Qh.small_of (h4 y hy)⟩
theorem Qbb {n:Nat}{m:List (Qg n)}(h:¬ QW m):Qc9 m:=by
 unfold QW at h;simp only[not_or,not_exists,not_and,Nat.not_lt] at h
 exact⟨Zt h.1 (by decide),fun x hx=>Qg.small_of (h.2 x hx)⟩
theorem Qc2 {α:Type}{f g:α→Nat}:∀ {l:List α},(∀ x∈l,f x≤g x)→(l.map f).sum≤(l.map g).sum
 | [],_=>Ze
 | x::xs,h=>by
   have h1:=h x (by simp);have h2:=Qc2 (f:=f) (g:=g) (l:=xs) (fun y hy=>h y (by simp[hy]));simp only[List.map_cons,List.sum_cons]
   omega
def TT.at:{n:Nat}→(k:Nat)→TT n→TT (k+1)
 | 0,_,t=>Empty.elim t
 | n+1,0,t=>(t.1,t.2.1,[])
 | n+1,k+1,t=>(t.1,t.2.1,t.2.2.map (TT.at (n:=n) k))
theorem TT.at_kind:{n:Nat}→(k:Nat)→(t:TT n)→(t.at k).kind=t.kind
 | 0,_,t=>Empty.elim t
 | n+1,0,t=>rfl
 | n+1,k+1,t=>rfl
theorem TT.at_r:{n:Nat}→(k:Nat)→(t:TT n)→(t.at k).r=t.r
 | 0,_,t=>Empty.elim t
 | n+1,0,t=>rfl
 | n+1,k+1,t=>rfl
theorem TT.at_len:{n:Nat}→(k:Nat)→(t:TT n)→t.height≤k→(t.at k).len=t.len
 | 0,_,t,_=>Empty.elim t
 | n+1,0,t,h=>by
   have:=(ZG (t:=t)).1 h
   show 0=t.2.2.length
   cases hx:t.2.2 with
   | nil=>rfl
   | cons x l=>have:=this x (by rw[hx];simp);omega
 | n+1,k+1,t,h=>by
   show (t.2.2.map _).length=_;rw[List.length_map];rfl
theorem TIn.at {w:World}{O:Nat→Prop}:{n:Nat}→(k:Nat)→{t:TT n}→{a:Option Addr}→t.height≤k→TIn w O t a→TIn w O (t.at k) a
 | 0,_,t,_,_,_=>Empty.elim t
 | n+1,0,t,a,h,hi=>fun i x hx=>by simp[TT.at] at hx
 | n+1,k+1,t,a,h,hi=>fun i x hx=>by
   have hx':(t.2.2.map (TT.at k))[i]?=some x:=hx;rw[List.getElem?_map,Option.map_eq_some_iff] at hx'
   obtain⟨y,hy,rfl⟩:=hx'
   have hh:y.height≤k:=by have:=(ZG (t:=t)).1 h y (Zm hy);omega
   obtain⟨g,o,a',c',e,hg,h1,h2,h3,h4⟩:=hi i y hy
   refine⟨g,o,a',c',e,hg,?_,?_,?_,TIn.at k hh h4⟩
   ·rw[TT.at_kind];exact h1
   ·rw[TT.at_r];exact h2
   ·rw[TT.at_len k y hh];exact h3
theorem TT.at_ok:{n:Nat}→(k:Nat)→{t:TT n}→t.ok→(t.at k).ok
 | 0,_,t,_=>Empty.elim t
 | n+1,0,t,h=>⟨h.1,fun x hx=>by cases hx⟩
 | n+1,k+1,t,h=>⟨h.1,fun x hx=>by
   obtain⟨y,hy,rfl⟩:=List.mem_map.1 hx
   exact TT.at_ok k (h.2 y hy)⟩
theorem TT.at_count:{n:Nat}→(k:Nat)→(t:TT n)→(t.at k).count≤t.count
 | 0,_,t=>Empty.elim t
 | n+1,0,t=>by show 1+0≤1+_;omega
 | n+1,k+1,t=>by
   show 1+((t.2.2.map (TT.at k)).map TT.count).sum≤1+(t.2.2.map TT.count).sum;rw[List.map_map]
   have:=Qc2 (l:=t.2.2) (f:=TT.count ∘ TT.at k) (g:=TT.count) fun x hx=>TT.at_count k x
   omega
def Qh.at {n:Nat}(k:Nat) (x:Qh n):Qh (k+1):=⟨x.regs,x.params.map (TT.at k),x.code,x.fin⟩
def Qg.at {n:Nat}(k:Nat) (x:Qg n):Qg (k+1):=⟨x.regs,x.params.map (TT.at k),x.results.map (TT.at k),x.blocks.map (Qh.at k)⟩
def QeR {n:Nat}(k:Nat) (l:List (TT n)):Prop:=∀ t∈l,t.height≤k
def Qh.flat {n:Nat}(k:Nat) (x:Qh n):Prop:=QeR k x.params
def Qg.flat {n:Nat}(k:Nat) (x:Qg n):Prop:=QeR k x.params∧QeR k x.results∧∀ y∈x.blocks,y.flat k
theorem Lay.list_map {α β:Type}{A:Lay α}{B:Lay β}{f:α→β}{w:World}{O:Nat→Prop}{l:List α}{cs:List Value}(hs:A.size=B.size) (hf:∀ x∈l,∀ ds,A.In w O x ds→B.In w O (f x) ds) (h:A.list.In w O l cs):B.list.In w O (l.map f) cs:=by
 obtain⟨a,c,e,h⟩:=h
 refine⟨a,c,by rw[e,List.length_map],fun i x hx=>?_⟩
 rw[List.getElem?_map,Option.map_eq_some_iff] at hx
 obtain⟨y,hy,rfl⟩:=hx
 obtain⟨g,o,ds,h1,h2,h3,h4,h5⟩:=h i y hy
 exact⟨g,o,ds,h1,h2,h3,by rw[← hs];exact h4,hf y (Zm hy) ds h5⟩
section
variable {w:World}{O:Nat→Prop}{n:Nat}{cs:List Value}
theorem QdJ {k:Nat}{l:List (TT n)}(hk:QeR k l) (h:(Qm n).In w O l cs):(Qm (k+1)).In w O (l.map (TT.at k)) cs :=
 Lay.list_map (A:=Lay.tt n) (B:=Lay.tt (k+1)) rfl (fun x hx ds ⟨a,c,e,h1,h2⟩=>⟨a,c,by rw[e,TT.at_kind,TT.at_r,TT.at_len k x (hk x hx)],h1.at k (hk x hx),TT.at_ok k h2⟩) h
theorem Qh8 {k:Nat}{x:Qh n}(hk:x.flat k) (h:(ZD n).In w O x cs):(ZD (k+1)).In w O (x.at k) cs:=by
 obtain⟨c0,_,rfl,h0,⟨c1,_,rfl,h1,h2⟩⟩:=h
 exact⟨c0,_,rfl,h0,⟨c1,_,rfl,QdJ hk h1,h2⟩⟩
theorem Qje {k:Nat}{x:Qg n}(hk:x.flat k) (h:(Zy n).In w O x cs):(Zy (k+1)).In w O (x.at k) cs:=by
 obtain⟨c0,_,rfl,h0,⟨c1,_,rfl,h1,⟨c2,_,rfl,h2,h3⟩⟩⟩:=h
 exact⟨c0,_,rfl,h0,⟨c1,_,rfl,QdJ hk.1 h1,⟨c2,_,rfl,QdJ hk.2.1 h2,Lay.list_map (A:=ZD n) (B:=ZD (k+1)) rfl (fun y hy ds=>Qh8 (hk.2.2 y hy)) h3⟩⟩⟩
theorem Qkt {k:Nat}{m:List (Qg n)}(hk:∀ x∈m,x.flat k) (h:(Qaq n).In w O m cs):(Qaq (k+1)).In w O (m.map (Qg.at k)) cs :=
 Lay.list_map (A:=Zy n) (B:=Zy (k+1)) rfl (fun y hy ds=>Qje (hk y hy)) h
theorem Qkj {m:List (Qg n)}(h:(modFault m).1=0):∀ x∈m,x.flat 5:=by
 have hts:∀ {l:List (TT n)},Qkw l→QeR 5 l:=fun h t ht=>by
  obtain⟨r,_,hc⟩:=h.2 t ht
  have:=(QcN hc).1
  omega
 intro x hx;have hf:=QkL h x hx;exact⟨hts hf.params,hts hf.results,fun y hy=>hts (hf.blocks y hy).params⟩
theorem Qcg {k:Nat}{l:List (TT n)}(h:¬ Zz l):¬ Zz (l.map (TT.at k)):=by
 rintro (h1 | ⟨t,ht,h1⟩)
 ·rw[List.length_map] at h1;exact h (.inl h1)
 ·obtain⟨u,hu,rfl⟩:=List.mem_map.1 ht
  have:=TT.at_count k u
  exact h (.inr ⟨u,hu,by omega⟩)
theorem Qjj {k:Nat}{m:List (Qg n)}(h:¬ QW m):¬ QW (m.map (Qg.at k)):=by
 rintro (h1 | ⟨y,hy,h1⟩)
 ·rw[List.length_map] at h1;exact h (.inl h1)
 obtain⟨x,hx,rfl⟩:=List.mem_map.1 hy
 have hxg:¬ x.great:=fun hg=>h (.inr ⟨x,hx,hg⟩);unfold Qg.great at h1 hxg;simp only[not_or,not_exists,not_and] at hxg
 obtain⟨g1,g2,g3,g4⟩:=hxg
 rcases h1 with h1 | h1 | h1 | ⟨y,hy,h1⟩
 ·simp only[Qg.at,List.length_map] at h1;exact g1 h1
 ·exact Qcg g2 h1
 ·exact Qcg g3 h1
 ·obtain⟨b,hb,rfl⟩:=List.mem_map.1 hy
  have g:=g4 b hb;unfold Qh.great at h1 g;rcases h1 with h1 | h1 | h1
  ·exact g (.inl h1)
  ·exact Qcg (fun x=>g (.inr (.inl x))) h1
  ·exact g (.inr (.inr h1))
end
def hHas (L:List Bool) (r:Int):Bool:=decide (0≤r)&&L.getD r.toNat false
def hTo (L:List Bool):Nat→List Int
 | 0=>[]
 | k+1=>hTo L k++(if L.getD k false then [(k:Int)] else [])
def hList (L:List Bool):List Int:=hTo L L.length
def inB (l:List Int) (x:Int):Bool:=l.contains x
def hPass (L:List Bool):List Int→List Int→Int
 | ahead,[]=>if (hList L).all (fun r=>inB ahead r) then 0 else 12
 | ahead,r::rest=>if hHas L r then (if inB ahead r then 13 else hPass L (ahead++[r]) rest) else 10
theorem Qbx (L:List Bool){k:Nat}(h:L.length≤k):L.getD k false=false:=by
 simp[List.getD,List.getElem?_eq_none h]
theorem Qks (L:List Bool):∀ k,L.length≤k→hTo L k=hList L:=by
 intro k
 induction k with
 | zero=>intro h;rw[hList,Nat.le_zero.1 h]
 | succ k ih =>
   intro h;rcases Nat.lt_or_ge k L.length with h' | h'
   ·rw[hList,show L.length=k+1 by omega]
   ·rw[hTo,Qbx L h',ih h'];simp
theorem QfA (L:List Bool):∀ k,(hTo L k).length≤k:=by
 intro k
 induction k with
 | zero=>simp[hTo]
 | succ k ih =>
   rw[hTo]
   split<;>simp<;>omega
theorem QbC (L:List Bool):(hList L).length≤L.length:=QfA L _
theorem Qj2 (L:List Bool) (r:Int):∀ k,r∈hTo L k↔0≤r∧r<k∧L.getD r.toNat false=true:=by
 intro k
 induction k with
 | zero=>simp[hTo];omega
 | succ k ih =>
   rw[hTo,List.mem_append,ih]
   constructor
   ·rintro (⟨h1,h2,h3⟩ | h)
    ·exact⟨h1,by omega,h3⟩
    ·split at h
     ·rename_i hk
      simp at h
      subst h;exact⟨by omega,by omega,by simpa using hk⟩
     ·simp at h
   ·rintro ⟨h1,h2,h3⟩;rcases Nat.lt_or_ge r.toNat k with h' | h'
    ·exact .inl ⟨h1,by omega,h3⟩
    ·have e:r=(k:Int):=by omega
     subst e;right
     simp only[Int.toNat_natCast] at h3
     rw[h3];simp
theorem QeY (L:List Bool) (r:Int):r∈hList L↔hHas L r=true:=by
 rw[hList,Qj2,hHas]
 constructor
 ·rintro ⟨h1,_,h3⟩;rw[h3];simp[h1]
 ·intro h;simp only[Bool.and_eq_true,decide_eq_true_eq] at h
  refine⟨h.1,?_,h.2⟩
  rcases Nat.lt_or_ge r.toNat L.length with h' | h'
  ·omega
  ·rw[Qbx L h'] at h;simp at h
theorem Qa7 (L:List Bool) (k:Nat):hHas L (k:Int)=L.getD k false:=by simp[hHas]
theorem QbJ {L:List Bool}{r:Int}(h:hHas L r=true):∃ k:Nat,r=(k:Int)∧k<L.length∧L.getD k false=true:=by
 simp only[hHas,Bool.and_eq_true,decide_eq_true_eq] at h
 obtain⟨k,rfl⟩:=Int.eq_ofNat_of_zero_le h.1
 have h2:L.getD k false=true:=by simpa using h.2
 refine⟨k,rfl,?_,h2⟩
 rcases Nat.lt_or_ge k L.length with h' | h'
 ·exact h'
 ·rw[Qbx L h'] at h2;cases h2
theorem QdF {l:List Int}{x:Int}:inB l x=true↔x∈l:=by simp[inB]
theorem QfV (l:List Int) (x y:Int):inB (l++[x]) y=(inB l y||decide (x=y)):=by
 rw[Bool.eq_iff_iff,QdF,Bool.or_eq_true,QdF,decide_eq_true_eq,List.mem_append,List.mem_singleton]
 exact⟨fun h=>h.imp id Eq.symm,fun h=>h.imp id Eq.symm⟩
theorem Qdy (L:List Bool) (l:List Int){k:Nat}{x:Int}(hx:l[k]?=some x) :
 hPass L (l.take k) (l.drop k)=if hHas L x then (if inB (l.take k) x then 13 else hPass L (l.take (k+1)) (l.drop (k+1))) else 10:=by
 obtain⟨hk,e⟩:=Zi hx
 rw[List.drop_eq_getElem_cons hk,e,hPass,List.take_add_one,hx]
 rfl
theorem Qeg (L:List Bool) (l:List Int){k:Nat}(hk:l.length≤k):hPass L (l.take k) (l.drop k)=if (hList L).all (fun r=>inB l r) then 0 else 12:=by
 rw[List.drop_of_length_le hk,List.take_of_length_le hk,hPass]
def ZR (L:List Bool) (l:List Int) (i:Nat):Bool:=L.getD i false&&!inB l (i:Int)
theorem QhA (L:List Bool) (i:Nat):ZR L [] i=L.getD i false:=by simp[ZR,inB]
theorem QgF (L:List Bool) (l:List Int) (k i:Nat):ZR L (l++[(k:Int)]) i=if i=k then false else ZR L l i:=by
 unfold ZR;rw[QfV]
 by_cases h:i=k
 ·subst h;simp
 ·rw[if_neg h]
  have:decide ((k:Int)=(i:Int))=false:=by simp;omega
  rw[this];simp
theorem Qg6 {L:List Bool}{l:List Int}(h:L.length≤16):((List.range 16).map (ZR L l)=List.replicate 16 false)↔(hList L).all (fun r=>inB l r)=true:=by
 rw[List.all_eq_true]
 constructor
 ·intro e r hr;obtain⟨k,rfl,hk,h1⟩:=QbJ ((QeY L r).1 hr)
  have hk16:k<16:=by omega
  have:((List.range 16).map (ZR L l))[k]?=some false:=by rw[e,List.getElem?_replicate,if_pos hk16]
  rw[List.getElem?_map,List.getElem?_range hk16] at this
  simp only[Option.map_some,Option.some.injEq] at this
  unfold ZR at this;rw[h1] at this
  simpa using this
 ·intro e;rw[List.eq_replicate_iff]
  refine⟨by simp,fun b hb=>?_⟩
  obtain⟨k,hk,rfl⟩:=List.mem_map.1 hb
  unfold ZR
  cases h1:L.getD k false with
  | false=>rfl
  | true =>
    have:=e (k:Int) ((QeY L _).2 (by rw[Qa7];exact h1))
    rw[this];rfl
def QbQ (L:List Bool):Int:=if L.length<16 then (L.length:Int) else -1
def Qc5 (L:List Bool):List Bool:=if L.length<16 then L++[true] else L
def QfB (L:List Bool) (r:Int):List Bool:=if hHas L r then L.set r.toNat false else L
def Qcy (n:Int):List Bool:=List.replicate (min n 16).toNat true
theorem Qex {k:Nat}(hk:k<16):Qc5 (List.replicate k true)=List.replicate (k+1) true:=by
 simp[Qc5,hk,List.replicate_succ']
theorem QbN {P:Program}{t e:TypeId}{n d:Nat}(ht:P.underlying t=some (.array n e)) (he:P.underlying e=some .bool) (hs:(P.info? e).map (·.size)=some 1) (w:World)
 (hE:∀ a b,(Op.equalIn d e (.bool a) (.bool b)).run P w=.ok (a==b) w) (xs ys:List Bool) (hx:xs.length=n) (hy:ys.length=n) :
 (Op.equalIn (d+1) t (.agg (xs.map Value.bool).toArray) (.agg (ys.map Value.bool).toArray)).run P w=.ok (xs==ys) w:=by
 have hsz:(sizeOf e).run P w=.ok 1 w:=by
  cases hq:P.info? e with
  | none=>simp[hq] at hs
  | some i=>simp[hq] at hs;simp[sizeOf,typeInfo,hq,hs]
 have hpart:∀ (zs:List Bool) (i:Nat) (h:i<zs.length),(part e (zs.map Value.bool).toArray (i*1)).run P w=.ok (.bool zs[i]) w:=by
  intro zs i h;simp[part,isAgg,run_underlying he,h]
 simp only[Op.equalIn,Sem.run_bind,run_underlying ht,Result.andThen_ok,hsz]
 rw[Std.Legacy.Range.forIn_eq_forIn_range',show Std.Legacy.Range.size [0:n]=n by simp[Std.Legacy.Range.size]]
 have key:∀ (m k:Nat),k+m=n→(xs.take k==ys.take k)=true →
  ((forIn (List.range' k m) ((none,()):Option Bool × Unit) fun i __s=>do
    let __do_lift ← part e (xs.map Value.bool).toArray (i*1)
    let __do_lift_1 ← part e (ys.map Value.bool).toArray (i*1)
    let __do_lift_2 ← Op.equalIn d e __do_lift __do_lift_1
    if (!__do_lift_2)=true then pure (ForInStep.done (some false,()))
    else pure (ForInStep.yield (none,())):Sem (Option Bool × Unit)).run P w)=.ok (if xs==ys then none else some false,()) w:=by
  intro m
  induction m with
  | zero =>
    intro k hk hh
    have:(xs==ys)=true:=by
     rw[List.take_of_length_le (by omega),List.take_of_length_le (by omega)] at hh
     exact hh
    simp[this]
  | succ m ih =>
    intro k hk hh;have hkx:k<xs.length:=by omega
    have hky:k<ys.length:=by omega
    simp only[List.range'_succ,List.forIn_cons,Sem.run_bind,hpart xs k hkx,hpart ys k hky,Result.andThen_ok,hE]
    by_cases hb:xs[k]=ys[k]
    ·have h2:(xs.take (k+1)==ys.take (k+1))=true:=by
      rw[List.take_add_one,List.take_add_one,Zg hkx,Zg hky,hb,beq_iff_eq.1 hh]
      simp
     have hb':(xs[k]==ys[k])=true:=by simpa using hb
     simp only[hb',Bool.not_true,Bool.false_eq_true,if_false,Sem.run_pure,Result.andThen_ok]
     exact ih (k+1) (by omega) h2
    ·have hb':(xs[k]==ys[k])=false:=by simpa using hb
     have hne:(xs==ys)=false:=by
      rw[beq_eq_false_iff_ne]
      intro e;subst e;exact hb rfl
     simp[hb',hne]
 have:=key n 0 (by omega) (by simp)
 rw[this]
 cases h:xs==ys<;>simp
theorem Qci {P:Program}{t e:TypeId}{n d:Nat}(ht:P.underlying t=some (.array n e)) (he:P.underlying e=some .bool) (hs:(P.info? e).map (·.size)=some 1) (w:World)
 (xs ys:List Bool) (hx:xs.length=n) (hy:ys.length=n) :
 (Op.equalIn (d+2) t (.agg (xs.map Value.bool).toArray) (.agg (ys.map Value.bool).toArray)).run P w=.ok (xs==ys) w :=
 QbN ht he hs w (fun a b=>by simp[Op.equalIn,run_underlying he]) xs ys hx hy
def Rd (P:Program) (f:FuncId) (args:Array Value) (w:World) (V:Value):Prop:=Calls P f args w fun e w'=>e=.returned V∧Below w.heap.size w w'
noncomputable def bdec (A:Prop):Bool:=@decide A (Classical.propDecidable A)
theorem Qaf {A:Prop}:bdec A=true↔A:=by unfold bdec;simp
theorem QG {A:Prop}(h:A):bdec A=true:=Qaf.2 h
theorem Qx {A:Prop}(h:¬ A):bdec A=false:=by
 cases e:bdec A with
 | false=>rfl
 | true=>exact absurd (Qaf.1 e) h
theorem QdW {A:Prop}{q:Bool}(h:q=true↔A):q=bdec A:=by
 cases q with
 | false=>exact(Qx fun ha=>by have:=h.2 ha;cases this).symm
 | true=>exact(QG (h.1 rfl)).symm
structure JSt where
 m:List (Qg 6)
 f:Qg 6
 H:List Bool
 L:List (TT 6)
def JSt.at (s:JSt) (k:Int):Option (TT 6):=if k<0 then none else s.L[k.toNat]?
def JSt.want (s:JSt) (k kind:Int) (held:Bool):Int:=match s.at k with
 | none=>1
 | some t=>if t.kind=kind then (if held&&!hHas s.H t.r then 10 else 0) else 9
def code2 (a b:Int):Int:=if a=0 then b else a
noncomputable def JSt.arg (s:JSt) (regs:List Int) (k:Int) (t:TT 6):Int:=match s.at k with
 | none=>1
 | some u=>if bdec (t.ren regs.length (fun i=>regs.getD i 0)=some u) then 0 else 9
noncomputable def JSt.args (s:JSt) (l:List Int) (ts:List (TT 6)) (regs:List Int):Int :=
 if l.length=ts.length then Qz (fun p:Int × TT 6=>s.arg regs p.1 p.2) (l.zip ts) else 2
def zeroTT:TT 6:=mkT 0 0 []
def tInt:TT 6:=mkT 1 0 []
def Qad (regs:List Int) (t:TT 6):TT 6:=(t.ren regs.length (fun i=>regs.getD i 0)).getD zeroTT
def QB (H:List Bool):List Int→List Int→Int
 | _,[]=>0
 | ahead,r::rest=>if hHas H r then (if inB ahead r then 13 else QB H (ahead++[r]) rest) else 10
def JSt.fields (s:JSt):List Int→Option (List (TT 6))
 | []=>some []
 | k::r=>match s.at k with
   | none=>none
   | some t=>match s.fields r with
     | none=>none
     | some l=>some (t::l)
noncomputable def JSt.makes (s:JSt) (x:Qy):Int × List (TT 6) :=
 if x.op=1∨x.op=12 then (0,[tInt])
 else if x.op=2 then (code2 (s.want x.a 1 false) (s.want x.b 1 false),[tInt])
 else if x.op=3 then (if s.H.length=16 then (2,[]) else (0,[mkT 2 s.H.length []]))
 else if x.op=4 then (match s.at x.a with
  | none=>(1,[])
  | some t=>(code2 (s.want x.a 2 true) (if t.r<s.f.regs then 11 else 0),[]))
 else if x.op=5 then (match s.at x.a with
  | none=>(1,[])
  | some t=>if s.want x.a 2 true=0 then (match s.fields x.args with
   | none=>(1,[])
   | some l=>if 4<TT.height (n:=7) (mkT 3 t.r l) then (19,[]) else (0,[TT.at (n:=7) 5 (mkT 3 t.r l)]))
   else (s.want x.a 2 true,[]))
 else if x.op=6 then (match s.at x.a with
  | none=>(1,[])
  | some t=>if s.want x.a 3 true=0 then (match t.2.2[x.k.toNat]? with
   | none=>(9,[])
   | some u=>(0,[u.at 5]))
   else (s.want x.a 3 true,[]))
 else if x.op=7 then (match s.at x.a with
  | none=>(1,[])
  | some t=>if s.want x.a 3 true=0 then (match t.2.2[x.k.toNat]? with
   | none=>(9,[])
   | some u=>(match s.at x.b with
     | none=>(1,[])
     | some v=>if bdec (u.at 5=v) then (0,[]) else (9,[])))
   else (s.want x.a 3 true,[]))
 else if x.op=8 then (match s.at x.a with
  | none=>(1,[])
  | some t=>(code2 (s.want x.a 2 true) (s.want x.b 1 false),[mkT 4 t.r []]))
 else if x.op=9 then (code2 (s.want x.a 4 true) (s.want x.b 1 false),[tInt])
 else if x.op=10 then (code2 (s.want x.a 4 true) (code2 (s.want x.b 1 false) (s.want x.c 1 false)),[])
 else if x.op=11 then (s.want x.a 4 true,[tInt])
 else if x.op=13 then (s.want x.a 1 false,[])
 else (match s.m[x.k.toNat]? with
  | none=>(0,[])
  | some g=>if (x.regs.length:Int)=g.regs then
   (code2 (QB s.H [] x.regs) (s.args x.args g.params x.regs),g.results.map (Qad x.regs))
   else (2,[]))
noncomputable def JSt.code (s:JSt) (x:Qy):Int :=
 if x.form s.m.length≠0 then x.form s.m.length
 else if (s.makes x).1≠0 then (s.makes x).1
 else if 80<s.L.length+(s.makes x).2.length then 2 else 0
noncomputable def JSt.next (s:JSt) (x:Qy):JSt :=
 { s with
  H:=if x.op=3 then s.H++[true] else if x.op=4 then s.H.set (match s.at x.a with | none=>0 | some t=>t.r.toNat) false else s.H
  L:=s.L++(s.makes x).2 }
noncomputable def JSt.ins (s:JSt) (x:Qy):JSt:=if s.code x=0 then s.next x else s
def QbG (n:Nat) (regs:List Int):Int:=if (List.range n).all (fun (i:Nat)=>decide (regs.getD i 0=(i:Int))) then 0 else 11
noncomputable def JSt.to (s:JSt) (t:MTo):Int:=match s.f.blocks[t.block.toNat]? with
 | none=>0
 | some b=>if (t.regs.length:Int)=b.regs then
  code2 (QbG s.f.regs.toNat t.regs) (code2 (hPass s.H [] t.regs) (s.args t.args b.params t.regs))
  else 2
def Qa3 (n:Nat):List Int:=(List.range n).map (fun (i:Nat)=>(i:Int))
noncomputable def JSt.fin (s:JSt) (e:MEnd):Int :=
 if e.form s.f.blocks.length≠0 then e.form s.f.blocks.length
 else if e.op=1 then s.to e.yes
 else if e.op=2 then code2 (s.want e.a 1 false) (code2 (s.to e.yes) (s.to e.no))
 else code2 (s.args e.args s.f.results (Qa3 s.f.regs.toNat)) (if (hList s.H).all (fun r=>decide (r<s.f.regs)) then 0 else 12)
theorem Qaa {s:JSt}{x:Qy}(h:x.op=1∨x.op=12):s.makes x=(0,[tInt]):=by
 unfold JSt.makes;rw[if_pos h]
theorem QbH {s:JSt}{x:Qy}(h:x.op=2):s.makes x=(code2 (s.want x.a 1 false) (s.want x.b 1 false),[tInt]):=by
 unfold JSt.makes;rw[if_neg (by omega),if_pos h]
theorem QaF {s:JSt}{x:Qy}(h:x.op=3):s.makes x=(if s.H.length=16 then (2,[]) else (0,[mkT 2 s.H.length []])):=by
 unfold JSt.makes;rw[if_neg (by omega),if_neg (by omega),if_pos h]
theorem Z0 {s:JSt}{x:Qy}(h:x.op=4):s.makes x=(match s.at x.a with
 | none=>(1,[])
 | some t=>(code2 (s.want x.a 2 true) (if t.r<s.f.regs then 11 else 0),[])):=by
 unfold JSt.makes;rw[if_neg (by omega),if_neg (by omega),if_neg (by omega),if_pos h]
theorem QaT {s:JSt}{x:Qy}(h:x.op=5):s.makes x=(match s.at x.a with
 | none=>(1,[])
 | some t=>if s.want x.a 2 true=0 then (match s.fields x.args with
  | none=>(1,[])
  | some l=>if 4<TT.height (n:=7) (mkT 3 t.r l) then (19,[]) else (0,[TT.at (n:=7) 5 (mkT 3 t.r l)]))
  else (s.want x.a 2 true,[])):=by
 unfold JSt.makes;rw[if_neg (by omega),if_neg (by omega),if_neg (by omega),if_neg (by omega),if_pos h]
theorem QbZ {s:JSt}{x:Qy}(h:x.op=6):s.makes x=(match s.at x.a with
 | none=>(1,[])
 | some t=>if s.want x.a 3 true=0 then (match t.2.2[x.k.toNat]? with
  | none=>(9,[])
  | some u=>(0,[u.at 5]))
  else (s.want x.a 3 true,[])):=by
 unfold JSt.makes;rw[if_neg (by omega),if_neg (by omega),if_neg (by omega),if_neg (by omega),if_neg (by omega),if_pos h]
theorem QbB {s:JSt}{x:Qy}(h:x.op=7):s.makes x=(match s.at x.a with
 | none=>(1,[])
 | some t=>if s.want x.a 3 true=0 then (match t.2.2[x.k.toNat]? with
  | none=>(9,[])
  | some u=>(match s.at x.b with
    | none=>(1,[])
    | some v=>if bdec (u.at 5=v) then (0,[]) else (9,[])))
  else (s.want x.a 3 true,[])):=by
 unfold JSt.makes;rw[if_neg (by omega),if_neg (by omega),if_neg (by omega),if_neg (by omega),if_neg (by omega),if_neg (by omega),if_pos h]
theorem QaV {s:JSt}{x:Qy}(h:x.op=8):s.makes x=(match s.at x.a with
 | none=>(1,[])
 | some t=>(code2 (s.want x.a 2 true) (s.want x.b 1 false),[mkT 4 t.r []])):=by
 unfold JSt.makes;rw[if_neg (by omega),if_neg (by omega),if_neg (by omega),if_neg (by omega),if_neg (by omega),if_neg (by omega),if_neg (by omega),if_pos h]
theorem Qbp {s:JSt}{x:Qy}(h:x.op=9):s.makes x=(code2 (s.want x.a 4 true) (s.want x.b 1 false),[tInt]):=by
 unfold JSt.makes;rw[if_neg (by omega),if_neg (by omega),if_neg (by omega),if_neg (by omega),if_neg (by omega),if_neg (by omega),if_neg (by omega),if_neg (by omega),if_pos h]
theorem QaP {s:JSt}{x:Qy}(h:x.op=10):s.makes x=(code2 (s.want x.a 4 true) (code2 (s.want x.b 1 false) (s.want x.c 1 false)),[]):=by
 unfold JSt.makes;rw[if_neg (by omega),if_neg (by omega),if_neg (by omega),if_neg (by omega),if_neg (by omega),if_neg (by omega),if_neg (by omega),if_neg (by omega),if_neg (by omega),if_pos h]
theorem Qbc {s:JSt}{x:Qy}(h:x.op=11):s.makes x=(s.want x.a 4 true,[tInt]):=by
 unfold JSt.makes;rw[if_neg (by omega),if_neg (by omega),if_neg (by omega),if_neg (by omega),if_neg (by omega),if_neg (by omega),if_neg (by omega),if_neg (by omega),if_neg (by omega),if_neg (by omega),if_pos h]
theorem QbF {s:JSt}{x:Qy}(h:x.op=13):s.makes x=(s.want x.a 1 false,[]):=by
 unfold JSt.makes;rw[if_neg (by omega),if_neg (by omega),if_neg (by omega),if_neg (by omega),if_neg (by omega),if_neg (by omega),if_neg (by omega),if_neg (by omega),if_neg (by omega),if_neg (by omega),if_neg (by omega),if_pos h]
theorem Qbl {s:JSt}{x:Qy}(h:x.op=14):s.makes x=(match s.m[x.k.toNat]? with
 | none=>(0,[])
 | some g=>if (x.regs.length:Int)=g.regs then
  (code2 (QB s.H [] x.regs) (s.args x.args g.params x.regs),g.results.map (Qad x.regs))
  else (2,[])):=by
 unfold JSt.makes;rw[if_neg (by omega),if_neg (by omega),if_neg (by omega),if_neg (by omega),if_neg (by omega),if_neg (by omega),if_neg (by omega),if_neg (by omega),if_neg (by omega),if_neg (by omega),if_neg (by omega),if_neg (by omega)]
def JSt.start (m:List (Qg 6)) (f:Qg 6) (b:Qh 6):JSt:=⟨m,f,Qcy b.regs,b.params⟩
theorem Qi4 {k r:Int}{len:Nat}{a b:Int}(hab:a≤b) (h:ownC k r len a=0):ownC k r len b=0:=by
 unfold ownC at h ⊢;split at h
 ·cases h
 split at h
 ·cases h
 split at h
 ·cases h
 split at h
 ·cases h
 split at h
 ·cases h
 rename_i h1 h2 h3 h4 h5
 rw[if_neg h1,if_neg h2,if_neg h3,if_neg h4,if_neg (by omega)]
theorem Qdo {a b:Int}(hab:a≤b):{n:Nat}→{t:TT n}→t.fault a=0→t.fault b=0
 | 0,t,_=>Empty.elim t
 | n+1,t,h=>by
   obtain⟨h1,h2⟩:=TT.fault_zero h
   simp only[TT.fault,Qi4 hab h1,ne_eq,not_true_eq_false,if_false]
   exact QV.2 fun x hx=>Qdo hab (h2 x hx)
theorem Zf {n:Nat}{t:TT n}{r:Int}:t.check r=0↔t.height≤4∧t.fault r=0:=by
 constructor
 ·exact QcN
 ·intro h;unfold TT.check;rw[if_neg (by omega)];exact h.2
theorem Qbn {n:Nat}{t:TT n}{a b:Int}(hab:a≤b) (h:t.check a=0):t.check b=0:=by
 rw[Zf] at h ⊢
 exact⟨h.1,Qdo hab h.2⟩
def capT:Nat→Nat
 | 0=>1
 | h+1=>1+8*capT h
theorem sum_le_mul:∀ (l:List Nat) (c:Nat),(∀ x∈l,x≤c)→l.sum≤l.length*c
 | [],_,_=>by simp
 | x::xs,c,h=>by
   have h1:=h x (by simp);have h2:=sum_le_mul xs c (fun y hy=>h y (by simp[hy]));simp only[List.sum_cons,List.length_cons,Nat.add_mul]
   omega
theorem QhF {n:Nat}{t:TT (n+1)}{r:Int}(h:t.fault r=0):t.2.2.length≤8:=by
 have:=(TT.fault_zero h).1
 unfold ownC at this;split at this
 ·cases this
 split at this
 ·cases this
 split at this
 ·cases this
 split at this
 ·cases this
 omega
theorem QeU {r:Int}:{n:Nat}→{t:TT n}→(h:Nat)→t.height≤h→t.fault r=0→t.count≤capT h
 | 0,t,_,_,_=>Empty.elim t
 | n+1,t,0,hh,hf=>by
   have:=ZG.1 hh
   have e:t.2.2=[]:=by
    cases hx:t.2.2 with
    | nil=>rfl
    | cons x l=>have:=this x (by rw[hx];simp);omega
   simp only[TT.count,e,capT]
   simp
 | n+1,t,h+1,hh,hf=>by
   have h1:=ZG.1 hh;have h2:=(TT.fault_zero hf).2
   have h3:=sum_le_mul (t.2.2.map TT.count) (capT h) (fun c hc=>by
    obtain⟨x,hx,rfl⟩:=List.mem_map.1 hc
    exact QeU h (by have:=h1 x hx;omega) (h2 x hx))
   have h4:=QhF hf;rw[List.length_map] at h3
   have h5:t.2.2.length*capT h≤8*capT h:=Nat.mul_le_mul_right _ h4;simp only[TT.count,capT]
   omega
theorem QZ {n:Nat}{t:TT n}{r:Int}(h:t.check r=0):t.count≤4681:=by
 have:=QeU 4 (Zf.1 h).1 (Zf.1 h).2
 have e:capT 4=4681:=rfl;omega
theorem TT.height_lt:{n:Nat}→(t:TT n)→t.height<n
 | 0,t=>Empty.elim t
 | n+1,t=>by
   have:t.height≤n:=ZG.2 fun x hx=>by have:=TT.height_lt x;omega
   omega
theorem TT.at_height:{n:Nat}→(k:Nat)→(t:TT n)→t.height≤k→(t.at k).height=t.height
 | 0,_,t,_=>Empty.elim t
 | n+1,0,t,h=>by
   have h0:t.height=0:=by omega
   rw[h0]
   rfl
 | n+1,k+1,t,h=>by
   have h1:=ZG.1 h;show ((t.2.2.map (TT.at k)).map (fun x=>1+TT.height x)).foldl max 0=(t.2.2.map (fun x=>1+TT.height x)).foldl max 0;rw[List.map_map]
   congr 1
   refine List.map_congr_left fun x hx=>?_;show 1+(x.at k).height=1+x.height;rw[TT.at_height k x (by have:=h1 x hx;omega)]
theorem TT.at_fault {r:Int}:{n:Nat}→(k:Nat)→(t:TT n)→t.height≤k→(t.at k).fault r=t.fault r
 | 0,_,t,_=>Empty.elim t
 | n+1,0,t,h=>by
   have h1:=ZG.1 h
   have e:t.2.2=[]:=by
    cases hx:t.2.2 with
    | nil=>rfl
    | cons x l=>have:=h1 x (by rw[hx];simp);omega
   show (if ownC t.1 t.2.1 0 r≠0 then ownC t.1 t.2.1 0 r else Qz _ [])=_;simp only[TT.fault,e,List.length_nil,Qz]
 | n+1,k+1,t,h=>by
   have h1:=ZG.1 h;show (if ownC t.1 t.2.1 (t.2.2.map (TT.at k)).length r≠0 then ownC t.1 t.2.1 (t.2.2.map (TT.at k)).length r else Qz (TT.fault r) (t.2.2.map (TT.at k)))=_;rw[List.length_map]
   have:Qz (TT.fault r) (t.2.2.map (TT.at k))=Qz (TT.fault r) t.2.2:=by
    refine Qbf (by simp) fun i x y hx hy=>?_;rw[List.getElem?_map,hy] at hx
    simp only[Option.map_some,Option.some.injEq] at hx
    rw[← hx]
    exact TT.at_fault k y (by have:=h1 y (Zm hy);omega)
   rw[this]
   rfl
theorem TT.at_check {n:Nat}(k:Nat) (t:TT n) (h:t.height≤k) (r:Int):(t.at k).check r=t.check r:=by
 unfold TT.check;rw[TT.at_height k t h,TT.at_fault k t h]
theorem Qig {m:Nat}{too:Nat→Int}{a b:Int}(ham:a≤m) (htoo:∀ i,i<m→0≤too i∧too i<b):{n:Nat}→{t:TT n}→t.fault a=0→∃ u,t.ren m too=some u∧u.fault b=0
 | 0,t,_=>Empty.elim t
 | n+1,t,h=>by
   obtain⟨h1,h2⟩:=TT.fault_zero h
   have hown:∃ r',Qap m too t.1 t.2.1=some r'∧ownC t.1 r' t.2.2.length b=0:=by
    unfold ownC at h1;split at h1
    ·cases h1
    split at h1
    ·cases h1
    split at h1
    ·cases h1
    split at h1
    ·cases h1
    split at h1
    ·cases h1
    rename_i q1 q2 q3 q4 q5
    by_cases hk:t.1=1
    ·refine⟨t.2.1,by rw[Qap,if_pos hk],?_⟩
     unfold ownC;rw[if_neg q1,if_neg q2,if_neg q3,if_neg q4,if_neg (by omega)]
    ·obtain⟨z1,z2⟩:=htoo t.2.1.toNat (by omega)
     refine⟨too t.2.1.toNat,by rw[Qap,if_neg hk,if_neg (by omega),if_neg (by omega)],?_⟩
     unfold ownC;rw[if_neg q1,if_neg (by omega),if_neg q3,if_neg q4,if_neg (by omega)]
   obtain⟨r',hr,ho⟩:=hown
   have hl:∃ l',Qcj (TT.ren m too) t.2.2=some l'∧l'.length=t.2.2.length∧∀ x∈l',x.fault b=0:=by
    generalize t.2.2=l at h2
    induction l with
    | nil=>exact⟨[],rfl,rfl,fun x hx=>by cases hx⟩
    | cons x xs ih =>
      obtain⟨u,hu,hf⟩:=Qig ham htoo (h2 x (by simp))
      obtain⟨us,hus,hlen,hfs⟩:=ih (fun y hy=>h2 y (by simp[hy]))
      refine⟨u::us,by simp[Qcj,hu,hus],by simp[hlen],fun y hy=>?_⟩
      rcases List.mem_cons.1 hy with rfl | hy
      ·exact hf
      ·exact hfs y hy
   obtain⟨l',hl1,hl2,hl3⟩:=hl
   refine⟨((t.1,r',l'):Int × Int × List (TT n)),by simp only[TT.ren,hr,hl1],?_⟩
   show (if ownC t.1 r' l'.length b≠0 then ownC t.1 r' l'.length b else Qz (TT.fault b) l')=0;rw[hl2,ho]
   simp only[ne_eq,not_true_eq_false,if_false]
   exact QV.2 hl3
theorem Qfx {m:Nat}{too:Nat→Int}{a b:Int}(ham:a≤m) (htoo:∀ i,i<m→0≤too i∧too i<b){n:Nat}{t:TT n}(h:t.check a=0):∃ u,t.ren m too=some u∧u.check b=0:=by
 obtain⟨u,hu,hf⟩:=Qig ham htoo (Zf.1 h).2
 exact⟨u,hu,Zf.2 ⟨by rw[TT.ren_height hu];exact(Zf.1 h).1,hf⟩⟩
structure Qh.right {n:Nat}(x:Qh n) (f:Qg n) (funcs:Nat):Prop where
 regs:f.regs≤x.regs∧x.regs≤16
 params:x.params.length≤8∧∀ t∈x.params,t.check x.regs=0
 code:∀ y∈x.code,y.form funcs=0
 codes:x.code.length≤40
 fin:x.fin.form f.blocks.length=0
structure Qg.right {n:Nat}(x:Qg n) (funcs:Nat):Prop where
 regs:0≤x.regs∧x.regs≤6
 params:x.params.length≤8∧∀ t∈x.params,t.check x.regs=0
 results:x.results.length≤8∧∀ t∈x.results,t.check x.regs=0
 many:0<x.blocks.length∧x.blocks.length≤12
 blocks:∀ y∈x.blocks,y.right x funcs
theorem Qb3 {n:Nat}{regs:Int}{l:List (TT n)}(h:listC regs l=0):l.length≤8∧∀ t∈l,t.check regs=0:=by
 unfold listC at h;split at h
 ·cases h
 ·exact⟨by omega,fun t ht=>QV.1 h t ht⟩
theorem Qfn {n funcs f b:Nat}{fn:Qg n}{x:Qh n}(h:(Qh.fault funcs f fn b x).1=0):x.right fn funcs:=by
 unfold Qh.fault at h;split at h
 ·cases h
 rename_i h1
 split at h
 ·rename_i h2;exact absurd h h2
 rename_i h2
 split at h
 ·cases h
 split at h
 ·cases h
 rename_i h4
 split at h
 ·rename_i h5;exact absurd h h5
 rename_i h5
 split at h
 ·rename_i h6;exact absurd h h6
 rename_i h6
 refine⟨by omega,Qb3 (Decidable.not_not.1 h2),fun y hy=>?_,by omega,Decidable.not_not.1 h6⟩
 obtain⟨i,hi⟩:=List.getElem?_of_mem hy
 exact ZZ (Decidable.not_not.1 h5) i y hi
theorem QgM {n funcs f:Nat}{x:Qg n}(h:(Qg.fault funcs f x).1=0):x.right funcs:=by
 unfold Qg.fault at h;split at h
 ·cases h
 rename_i h1
 split at h
 ·rename_i h2;exact absurd h h2
 rename_i h2
 split at h
 ·rename_i h3;exact absurd h h3
 rename_i h3
 split at h
 ·cases h
 rename_i h4
 split at h
 ·cases h
 refine⟨by omega,Qb3 (Decidable.not_not.1 h2),Qb3 (Decidable.not_not.1 h3),by omega,fun y hy=>?_⟩
 obtain⟨i,hi⟩:=List.getElem?_of_mem hy
 exact Qfn (ZZ h i y hi)
theorem Qeo {n:Nat}{m:List (Qg n)}(h:(modFault m).1=0):(0<m.length∧m.length≤8)∧∀ x∈m,x.right m.length:=by
 unfold modFault at h;split at h
 ·cases h
 rename_i h1
 refine⟨by omega,fun x hx=>?_⟩
 obtain⟨i,hi⟩:=List.getElem?_of_mem hx
 exact QgM (ZZ h i x hi)
structure JOk (s:JSt):Prop where
 mod:(0<s.m.length∧s.m.length≤8)∧∀ x∈s.m,x.right s.m.length
 tiny:¬ QW s.m
 fn:s.f∈s.m
 regs:s.H.length≤16
 kept:s.f.regs≤s.H.length
 vals:s.L.length≤80
 types:∀ t∈s.L,t.check s.H.length=0
theorem QaE {s:JSt}{k:Int}{t:TT 6}(h:s.at k=some t):t∈s.L∧0≤k∧k<s.L.length∧s.L[k.toNat]?=some t:=by
 unfold JSt.at at h;split at h
 ·cases h
 ·have:=(Zi h).1
  exact⟨Zm h,by omega,by omega,h⟩
theorem Qaj {s:JSt}{k kind:Int}{held:Bool}(h:s.want k kind held=0):∃ t,s.at k=some t∧t.kind=kind∧(held=true→hHas s.H t.r=true):=by
 unfold JSt.want at h;split at h
 ·cases h
 ·rename_i t ht
  split at h
  ·rename_i hk
   split at h
   ·cases h
   ·rename_i hh
    refine⟨t,ht,hk,fun e=>?_⟩
    subst e;simpa using hh
  ·cases h
theorem Qag {a b:Int}(h:code2 a b=0):a=0∧b=0:=by
 unfold code2 at h;split at h
 ·exact⟨by assumption,h⟩
 ·contradiction
theorem Qal {s:JSt}:∀ {l:List Int}{ts:List (TT 6)},s.fields l=some ts→ts.length=l.length∧∀ t∈ts,t∈s.L
 | [],ts,h=>by simp[JSt.fields] at h;subst h;simp
 | k::r,ts,h=>by
   simp only[JSt.fields] at h
   cases hk:s.at k with
   | none=>simp[hk] at h
   | some t =>
     simp only[hk] at h
     cases hr:s.fields r with
     | none=>simp[hr] at h
     | some l =>
       simp only[hr,Option.some.injEq] at h
       subst h;obtain⟨h1,h2⟩:=Qal hr
       refine⟨by simp[h1],fun u hu=>?_⟩
       rcases List.mem_cons.1 hu with rfl | hu
       ·exact(QaE hk).1
       ·exact h2 u hu
theorem Qae {H:List Bool}:∀ {l ahead:List Int},QB H ahead l=0→∀ r∈l,hHas H r=true
 | [],_,_,r,hr=>by cases hr
 | x::l,ahead,h,r,hr=>by
   simp only[QB] at h
   split at h
   ·rename_i hx
    split at h
    ·cases h
    ·rcases List.mem_cons.1 hr with rfl | hr
     ·exact hx
     ·exact Qae h r hr
   ·cases h
theorem ZQ {H:List Bool}{r:Int}(h:hHas H r=true):0≤r∧r<H.length:=by
 obtain⟨k,rfl,hk,_⟩:=QbJ h
 omega
theorem Zb {x:Qy}{funcs:Nat}(h:x.form funcs=0):((x.op=6∨x.op=7)→0≤x.k∧x.k≤7)∧(x.op=14→0≤x.k∧x.k<funcs∧x.regs.length≤6∧x.args.length≤8)∧(x.op=5→x.args.length≤8)∧(x.op=1∨x.op=2∨x.op=3∨x.op=4∨x.op=5∨x.op=6∨x.op=7∨x.op=8∨x.op=9∨x.op=10∨x.op=11∨x.op=12∨x.op=13∨x.op=14):=by
 have ho:=QiN (QiB h).1;unfold Qy.form at h;split at h
 ·cases h
 split at h
 ·cases h
 split at h
 ·cases h
 split at h
 ·cases h
 split at h
 ·cases h
 split at h
 ·cases h
 split at h
 ·cases h
 refine⟨by omega,by omega,by omega,ho⟩
theorem QdC {k r R:Int}(hk:k=2∨k=4) (hr:0≤r∧r<R):TT.check (n:=6) R (mkT k r [])=0:=by
 refine Zf.2 ⟨by show 0≤4;omega,?_⟩;show (if ownC k r 0 R≠0 then ownC k r 0 R else Qz _ [])=0
 have:ownC k r 0 R=0:=by
  unfold ownC;rw[if_neg (by omega),if_neg (by omega),if_neg (by omega),if_neg (by omega),if_neg (by omega)]
 rw[this];rfl
theorem QhO (R:Int):tInt.check R=0:=by
 refine Zf.2 ⟨by decide,?_⟩;show (if ownC 1 0 0 R≠0 then ownC 1 0 0 R else Qz _ [])=0
 have:ownC 1 0 0 R=0:=by unfold ownC;rw[if_neg (by omega),if_neg (by omega),if_neg (by omega),if_neg (by omega),if_neg (by omega)]
 rw[this];rfl
theorem Qfr {s:JSt}{x:Qy}(h:JOk s) (hf:x.form s.m.length=0) (hm:(s.makes x).1=0):∀ t∈(s.makes x).2,t.check (s.next x).H.length=0:=by
 obtain⟨f1,f2,f3,f4⟩:=Zb hf
 have hH:(s.H.length:Int)≤(s.next x).H.length:=by
  simp only[JSt.next]
  split
  ·simp;omega
  split
  ·simp
  ·exact Int.le_refl _
 intro t ht
 have hint:∀ {c:Int},s.makes x=(c,[tInt])→t.check (s.next x).H.length=0:=fun {c} e=>by
  rw[e] at ht
  have ht:=List.mem_singleton.1 ht;rw[ht];exact QhO _
 have hnil:∀ {c:Int},s.makes x=(c,[])→t.check (s.next x).H.length=0:=fun {c} e=>by
  rw[e] at ht;cases ht
 rcases f4 with c | c | c | c | c | c | c | c | c | c | c | c | c | c
 ·exact hint (Qaa (.inl c))
 ·exact hint (QbH c)
 ·have e:=QaF (s:=s) c;by_cases hh:s.H.length=16
  ·rw[if_pos hh] at e;exact hnil e
  ·rw[if_neg hh] at e
   rw[e] at ht
   have ht:=List.mem_singleton.1 ht;rw[ht]
   refine QdC (.inl rfl) ?_;simp only[JSt.next,c,if_true,List.length_append,List.length_singleton]
   omega
 ·have e:=Z0 (s:=s) c
  cases ha:s.at x.a with
  | none=>rw[ha] at e;exact hnil e
  | some u=>rw[ha] at e;exact hnil e
 ·have e:=QaT (s:=s) c
  cases ha:s.at x.a with
  | none=>rw[ha] at e;exact hnil e
  | some u =>
    rw[ha] at e
    simp only at e
    by_cases hw:s.want x.a 2 true=0
    ·rw[if_pos hw] at e
     cases hl:s.fields x.args with
     | none=>rw[hl] at e;exact hnil e
     | some l =>
       rw[hl] at e
       simp only at e
       by_cases hh:4<TT.height (n:=7) (mkT 3 u.r l)
       ·rw[if_pos hh] at e;exact hnil e
       ·rw[if_neg hh] at e
        rw[e] at ht
        have ht:=List.mem_singleton.1 ht;rw[ht]
        obtain⟨u',hu',_,hheld⟩:=Qaj hw
        rw[ha] at hu'
        cases hu'
        have hr:=ZQ (hheld rfl);obtain⟨q1,q2⟩:=Qal hl
        rw[TT.at_check 5 _ (by omega)]
        refine Qbn hH (Zf.2 ⟨by omega,?_⟩);show (if ownC 3 u.r l.length s.H.length≠0 then ownC 3 u.r l.length s.H.length else Qz (TT.fault (s.H.length:Int)) l)=0
        have:ownC 3 u.r l.length s.H.length=0:=by
         have:=f3 c
         unfold ownC;rw[if_neg (by omega),if_neg (by omega),if_neg (by omega),if_neg (by omega),if_neg (by omega)]
        rw[this]
        simp only[ne_eq,not_true_eq_false,if_false]
        exact QV.2 fun y hy=>(Zf.1 (h.types y (q2 y hy))).2
    ·rw[if_neg hw] at e;exact hnil e
 ·have e:=QbZ (s:=s) c
  cases ha:s.at x.a with
  | none=>rw[ha] at e;exact hnil e
  | some u =>
    rw[ha] at e
    simp only at e
    by_cases hw:s.want x.a 3 true=0
    ·rw[if_pos hw] at e
     cases hv:u.2.2[x.k.toNat]? with
     | none=>rw[hv] at e;exact hnil e
     | some v =>
       rw[hv] at e
       rw[e] at ht
       have ht:=List.mem_singleton.1 ht;rw[ht]
       have hc:=Zf.1 (h.types u (QaE ha).1);have hvm:=Zm hv;have hvh:=ZG.1 hc.1 v hvm;have hv5:=TT.height_lt v;rw[TT.at_check 5 _ (by omega)]
       exact Qbn hH (Zf.2 ⟨by omega,(TT.fault_zero hc.2).2 v hvm⟩)
    ·rw[if_neg hw] at e;exact hnil e
 ·have e:=QbB (s:=s) c
  cases ha:s.at x.a with
  | none=>rw[ha] at e;exact hnil e
  | some u =>
    rw[ha] at e
    simp only at e
    by_cases hw:s.want x.a 3 true=0
    ·rw[if_pos hw] at e
     cases hv:u.2.2[x.k.toNat]? with
     | none=>rw[hv] at e;exact hnil e
     | some v =>
       rw[hv] at e
       cases hb:s.at x.b with
       | none=>rw[hb] at e;exact hnil e
       | some w =>
         rw[hb] at e
         simp only at e
         cases hq:bdec (v.at 5=w) with
         | true=>rw[hq] at e;exact hnil e
         | false=>rw[hq] at e;exact hnil e
    ·rw[if_neg hw] at e;exact hnil e
 ·have e:=QaV (s:=s) c
  cases ha:s.at x.a with
  | none=>rw[ha] at e;exact hnil e
  | some u =>
    rw[ha] at e
    rw[e] at ht hm
    have ht:=List.mem_singleton.1 ht;rw[ht]
    obtain⟨hw,_⟩:=Qag hm
    obtain⟨u',hu',_,hheld⟩:=Qaj hw
    rw[ha] at hu'
    cases hu'
    have hr:=ZQ (hheld rfl);exact QdC (.inr rfl) (by omega)
 ·exact hint (Qbp c)
 ·exact hnil (QaP c)
 ·exact hint (Qbc c)
 ·exact hint (Qaa (.inr c))
 ·exact hnil (QbF c)
 ·have e:=Qbl (s:=s) c
  cases hg:s.m[x.k.toNat]? with
  | none=>rw[hg] at e;exact hnil e
  | some g =>
    rw[hg] at e
    simp only at e
    by_cases hr:(x.regs.length:Int)=g.regs
    ·rw[if_pos hr] at e
     rw[e] at ht hm
     obtain⟨hc1,hc2⟩:=Qag hm
     obtain⟨u,hu,rfl⟩:=List.mem_map.1 ht
     have hgr:=h.mod.2 g (Zm hg);have hck:=hgr.results.2 u hu
     obtain⟨v,hv,hvc⟩:=Qfx (m:=x.regs.length) (too:=fun i=>x.regs.getD i 0) (a:=g.regs) (b:=s.H.length) (by omega) (fun i hi=>by
      have hm:=Qae hc1 (x.regs.getD i 0) (by simp[List.getD,hi]);exact ZQ hm) hck
     unfold Qad;rw[hv]
     exact Qbn hH hvc
    ·rw[if_neg hr] at e;exact hnil e
theorem JOk.next {s:JSt}{x:Qy}(h:JOk s) (hc:s.code x=0):JOk (s.next x):=by
 unfold JSt.code at hc;split at hc
 ·rename_i h1;exact absurd hc h1
 rename_i h1
 split at hc
 ·rename_i h2;exact absurd hc h2
 rename_i h2
 split at hc
 ·cases hc
 rename_i h3
 have hf:x.form s.m.length=0:=Decidable.not_not.1 h1;have hm:(s.makes x).1=0:=Decidable.not_not.1 h2
 have hH:(s.H.length:Int)≤(s.next x).H.length:=by
  simp only[JSt.next]
  split
  ·simp;omega
  split
  ·simp
  ·exact Int.le_refl _
 refine⟨h.mod,h.tiny,h.fn,?_,?_,?_,?_⟩
 ·simp only[JSt.next]
  split
  ·rename_i c3
   have:s.H.length≠16:=by
    intro e;rw[QaF c3,if_pos e] at hm
    cases hm
   have:=h.regs
   simp
   omega
  split
  ·simpa using h.regs
  ·exact h.regs
 ·exact Int.le_trans h.kept hH
 ·show (s.L++(s.makes x).2).length≤80;rw[List.length_append]
  omega
 ·intro t ht;rcases List.mem_append.1 ht with ht | ht
  ·exact Qbn hH (h.types t ht)
  ·exact Qfr h hf hm t ht
theorem JOk.ins {s:JSt}(h:JOk s) (x:Qy):JOk (s.ins x):=by
 unfold JSt.ins;split
 ·exact h.next (by assumption)
 ·exact h
theorem Qjf {n:Int}(h:0≤n∧n≤16):((Qcy n).length:Int)=n:=by
 unfold Qcy;rw[List.length_replicate]
 omega
theorem JOk.start {m:List (Qg 6)}{f:Qg 6}{b:Qh 6}(hm:(modFault m).1=0) (hg:¬ QW m) (hf:f∈m) (hb:b∈f.blocks):JOk (JSt.start m f b):=by
 have hr:=Qeo hm;have hfr:=hr.2 f hf;have hbr:=hfr.blocks b hb;have hl:=Qjf (n:=b.regs) (by have:=hfr.regs;have:=hbr.regs;omega);have h1:=hbr.regs;have h2:=hfr.regs;have h3:=hbr.params;refine⟨hr,hg,hf,?_,?_,?_,?_⟩
 ·show (Qcy b.regs).length≤16;omega
 ·show f.regs≤((Qcy b.regs).length:Int);omega
 ·show b.params.length≤80;omega
 ·intro t ht;show t.check ((Qcy b.regs).length:Int)=0;rw[hl]
  exact h3.2 t ht
theorem QaY {B m:Nat}{w w':World}(h:Below B (w.drewN m) w'):Below B w w':=⟨h.os,h.tape,h.output,h.size,h.block⟩
theorem ZM {B m:Nat}{w w':World}(h:Below B w w'):Below B w (w'.drewN m):=⟨h.os,h.tape,h.output,h.size,h.block⟩
theorem QaA {w wr:World}{B:Nat}{c:Array Value}{ty:TypeId}(h:wr.heap[B]?=some (.cells c ty (0,0))) (b:Below wr.heap.size wr w):w.heap[B]?=some (.cells c ty (0,0)) :=
 (b.block B (lt_of_block h)).trans h
abbrev Blk (w:World) (B:Nat) (c:Array Value) (t:TypeId):Prop:=w.heap[B]?=some (.cells c t (0,0))
theorem Blk.below {w w':World}{B:Nat}{c:Array Value}{t:TypeId}(h:Blk w B c t) (b:Below w.heap.size w w'):Blk w' B c t:=QaA h b
theorem Blk.alloc {w:World}{B:Nat}{c:Array Value}{t:TypeId}(h:Blk w B c t) (o:Obj):Blk (w.alloc o) B c t:=QaA h ((Below.refl _ w).alloc Ze _)
theorem Blk.new (w:World) (c:Array Value) (t:TypeId):Blk (w.alloc (.cells c t)) w.heap.size c t:=Qe w c t
theorem Blk.drewN {w:World}{B:Nat}{c:Array Value}{t:TypeId}(h:Blk w B c t) (m:Nat):Blk (w.drewN m) B c t:=h
theorem Blk.lt {w:World}{B:Nat}{c:Array Value}{t:TypeId}(h:Blk w B c t):B<w.heap.size:=lt_of_block h
theorem Blk.setOther {w:World}{B:Nat}{c:Array Value}{t:TypeId}(h:Blk w B c t){p:Addr}(hp:p.block≠B) (v:Value):Blk (w.setCell p v) B c t:=(Below.heap_setCell _ _ _ _ (fun e=>hp e.symm)).trans h
theorem QN (w:World) (o:Obj):Below w.heap.size w (w.alloc o):=(Below.refl _ w).alloc Ze _
theorem QaX (w:World) (o p:Obj):Below w.heap.size w ((w.alloc o).alloc p):=(QN w o).alloc (by simp) _
theorem Below.andThen {w w1 w2:World}(h:Below w.heap.size w w1) (b:Below w1.heap.size w1 w2):Below w.heap.size w w2:=h.trans (b.mono h.size)
theorem Blk.new1 (w:World) (c d:Array Value) (t u:TypeId):Blk ((w.alloc (.cells c t)).alloc (.cells d u)) w.heap.size c t:=(Blk.new w c t).alloc _
theorem Blk.new2 (w:World) (o:Obj) (d:Array Value) (u:TypeId):Blk ((w.alloc o).alloc (.cells d u)) (w.heap.size+1) d u:=by
 have:=Blk.new (w.alloc o) d u
 simpa using this
abbrev Qjx (b:Nat):Value:=.pointer (some ⟨b,0,none⟩)
abbrev Chg (b:Nat) (w w':World):Prop:=Zn (fun k=>k=b) (fun k=>k=b) w w'
section
variable {b:Nat}{w w' w1 w2:World}
theorem Chg.refl (b:Nat) (w:World):Chg b w w:=Zn.refl _ _
theorem Chg.below (h:Below w.heap.size w w'):Chg b w w':=⟨h.os,h.tape,h.output,h.size,fun k hk _=>h.block k hk,fun k hk=>.inl hk⟩
theorem Chg.set (w:World) (o:Nat) (v:Value) (h:b<w.heap.size):Chg b w (w.setCell ⟨b,o,none⟩ v) :=
 ⟨rfl,rfl,rfl,by simp,fun k _ hk=>Below.heap_setCell _ _ _ _ hk,fun k hk=>.inl hk⟩
theorem Chg.keep {α:Type}{A:Lay α}{O:Nat→Prop}{x:α}{cs:List Value}(h:A.In w O x cs) (c:Chg b w w') (ho:∀ k,O k→k≠b):A.In w' O x cs :=
 A.keep (fun k hO hk=>c.block k hk (ho k hO)) (fun _ h _=>h) h
theorem Chg.last {s:Nat}(h:Below s w w1) (c:Chg b w1 w2) (hs:s≤b) (hs1:s≤w1.heap.size):Below s w w2 :=
 ⟨c.os.trans h.os,c.tape.trans h.tape,c.output.trans h.output,Zt h.size c.size,fun k hk=>(c.block k (by omega) (by omega)).trans (h.block k hk)⟩
end
abbrev QiD (b B:Nat) (w w':World):Prop:=Zn (fun k=>k=b∨k=B) (fun k=>k=b∨k=B) w w'
section
variable {b B:Nat}{w w' w0:World}
theorem QiD.refl (b B:Nat) (w:World):QiD b B w w:=Zn.refl _ _
theorem QiD.of (h:Chg b w w'):QiD b B w w':=⟨h.os,h.tape,h.output,h.size,fun k hk hn=>h.block k hk (fun e=>hn (.inl e)),fun k hk=>.inl hk⟩
theorem QiD.set (w:World) (o:Nat) (v:Value):QiD b B w (w.setCell ⟨B,o,none⟩ v) :=
 ⟨rfl,rfl,rfl,by simp,fun k _ hk=>Below.heap_setCell _ _ _ _ (fun e=>hk (.inr e)),fun k hk=>.inl hk⟩
theorem QiD.new (h:Chg b w0 w) (h2:QiD b B w w') (hB:w0.heap.size≤B):Chg b w0 w' :=
 ⟨h2.os.trans h.os,h2.tape.trans h.tape,h2.output.trans h.output,Zt h.size h2.size,fun k hk hn=>(h2.block k (Zl hk h.size) (fun e=>by rcases e with e | e;exact hn e;omega)).trans (h.block k hk hn),fun k hk=>.inl hk⟩
theorem QiD.keep {α:Type}{A:Lay α}{O:Nat→Prop}{x:α}{cs:List Value}(h:A.In w O x cs) (c:QiD b B w w') (ho:∀ k,O k→k<w.heap.size→k≠b∧k≠B):A.In w' O x cs :=
 A.keep (fun k hO hk=>c.block k hk (fun e=>by rcases e with e | e;exact(ho k hO hk).1 e;exact(ho k hO hk).2 e)) (fun _ h _=>h) h
end
theorem ZS.formP {α:Type}{A:Lay α}{t:TypeId}{w:World}{lo:Nat}{v:Value}{l:List α}{xs:List Value}(h:ZS A t w lo v l xs):∃ a c,v=.slice a l.length c:=by
 obtain⟨a,c,e,_⟩:=h.lay
 simp at e
 exact⟨a,c,e⟩
theorem pUnderI:prog.underlying 43=some (.slice 3):=by kernel_rfl
theorem pInfoI0:(prog.info? 3).map (fun i=>(i.zero,i.size,i.bytes))=some (some (.int .i64 0),1,8):=by kernel_rfl
theorem pInfoI:∃ i,prog.info? 3=some i∧i.zero=some (.int .i64 0)∧i.size=1∧i.bytes=8:=by
 have h:=pInfoI0
 cases e:prog.info? 3 with
 | none=>rw[e] at h;cases h
 | some i =>
   rw[e] at h
   simp only[Option.map_some,Option.some.injEq,Prod.mk.injEq] at h
   exact⟨i,rfl,h.1,h.2.1,h.2.2⟩
theorem pUnderT:prog.underlying 52=some (.slice 79):=by kernel_rfl
theorem pInfoT0:(prog.info? 79).map (fun i=>(i.zero,i.size,i.bytes))=some (some (.agg #[.int .i64 0,.int .i64 0,.slice none 0 0]),3,40):=by kernel_rfl
theorem pInfoT:∃ i,prog.info? 79=some i∧i.zero=some (.agg #[.int .i64 0,.int .i64 0,.slice none 0 0])∧i.size=3∧i.bytes=40:=by
 have h:=pInfoT0
 cases e:prog.info? 79 with
 | none=>rw[e] at h;cases h
 | some i =>
   rw[e] at h
   simp only[Option.map_some,Option.some.injEq,Prod.mk.injEq] at h
   exact⟨i,rfl,h.1,h.2.1,h.2.2⟩
theorem QgV (w:World) (c:List Value) (t:TypeId):∀ (j:Nat) (u:Value),c[j]?=some u→(w.alloc (.cells c.toArray t)).cell? ((⟨w.heap.size,0,none⟩:Addr).add j)=some u:=by
 intro j u h;have h2:c.toArray[j]?=some u:=by simpa using h
 rw[Go.WideShapes.add_plain,Nat.zero_add]
 exact Qb (Qe w c.toArray t) j u h2
theorem Qj0 (n:Int):∀ u∈[Value.int .i64 n],u.oneCell'=true:=by
 intro u h;simp at h
 subst h;rfl
theorem Qes (k r:Int) (a:Option Addr) (l c:Nat):∀ u∈[Value.int .i64 k,Value.int .i64 r,Value.slice a l c],u.oneCell'=true:=by
 intro u h;simp at h
 rcases h with rfl | rfl | rfl<;>rfl
theorem Blk.set3 {w:World}{R:Nat}{p0 p1 p2:Value}{t:TypeId}(h:Blk w R #[p0,p1,p2] t) (a b c:Value):Blk (((w.setCell ⟨R,0,none⟩ a).setCell ⟨R,1,none⟩ b).setCell ⟨R,2,none⟩ c) R #[a,b,c] t:=by
 have h3:=Qo (Qo (Qo h 0 a) 1 b) 2 c;simpa using h3
section
variable {w0 w w':World}{b R B:Nat}{α:Type}{A:Lay α}{x:α}{cs:List Value}
def Kid {α:Type}(A:Lay α) (B:Nat) (w:World) (x:α) (cs:List Value):Prop:=A.In w (fun g=>B<g) x cs
theorem Kid.mk (h:A.In w (fun g=>w'.heap.size≤g) x cs) (hB:B<w'.heap.size):Kid A B w x cs:=Lay.mono h (fun k hk _=>by omega)
theorem Kid.set (h:Kid A B w x cs){q:Addr}(hq:q.block≤B) (v:Value):Kid A B (w.setCell q v) x cs:=Lay.setCell h (by omega) v
theorem Kid.alloc (h:Kid A B w x cs) (o:Obj):Kid A B (w.alloc o) x cs:=Lay.alloc h o
theorem Kid.sets (h:Kid A B w x cs){R:Nat}(hq:R≤B):∀ (vs:List Value) (o:Nat),Kid A B (w.setCells R o vs) x cs:=fun vs o=>A.keep (fun k hk _=>ZI (by omega) vs o w) (fun _ h _=>h) h
theorem Kid.out (h:Kid A B w x cs) (hB:w0.heap.size≤B):A.In w (fun g=>w0.heap.size≤g) x cs:=Lay.mono h (fun k hk _=>by omega)
end
theorem Blk.sets {R:Nat}{T:TypeId}:∀ (vs us zs:List Value) (w:World),vs.length=zs.length→Blk w R (us++zs).toArray T→Blk (w.setCells R us.length vs) R (us++vs).toArray T
 | [],us,zs,w,hl,h=>by
   have:zs=[]:=List.length_eq_zero_iff.1 hl.symm
   subst this;exact h
 | v::vs,us,zs,w,hl,h=>by
   cases zs with
   | nil=>simp at hl
   | cons z zs =>
     have h1:=Qo h us.length v
     have e1:((us++z::zs).toArray.setIfInBounds us.length v)=((us++[v])++zs).toArray:=by
      apply Array.ext'
      simp[List.set_append]
     rw[e1] at h1
     have:=Blk.sets vs (us++[v]) zs (w.setCell ⟨R,us.length,none⟩ v) (by simpa using hl) h1
     simpa[World.setCells] using this
theorem Qjv {w:World}{B:Nat}{t:TypeId}{p0 p1 p2:Value}(h:Blk w B #[p0,p1,p2] t):w.cell? ⟨B,0,none⟩=some p0∧w.cell? ⟨B,1,none⟩=some p1∧w.cell? ⟨B,2,none⟩=some p2:=⟨Qb h 0 _ rfl,Qb h 1 _ rfl,Qb h 2 _ rfl⟩
theorem QkR {w:World}{B:Nat}{t:TypeId}{p0 p1 p2 p3:Value}(h:Blk w B #[p0,p1,p2,p3] t):w.cell? ⟨B,0,none⟩=some p0∧w.cell? ⟨B,1,none⟩=some p1∧w.cell? ⟨B,2,none⟩=some p2∧w.cell? ⟨B,3,none⟩=some p3:=⟨Qb h 0 _ rfl,Qb h 1 _ rfl,Qb h 2 _ rfl,Qb h 3 _ rfl⟩
theorem pSizeN:(prog.info? 59).map (·.size)=some 8:=by kernel_rfl
theorem pSizeE:(prog.info? 47).map (·.size)=some 9:=by kernel_rfl
theorem Blk.range {w:World}{T:TypeId}{g:Nat}{c:List Value}(h:Blk w g c.toArray T):w.rangeAt g 0 c:=fun j v hv=>by
 rw[Nat.zero_add]
 exact Qb h j v (by simpa using hv)
theorem Blk.there {w:World}{T:TypeId}{g o n:Nat}{c:Array Value}(h:Blk w g c T) (hn:o+n≤c.size):w.there g o n:=fun j hj =>
 ⟨by rw[Qb h (o+j) _ (Array.getElem?_eq_getElem (by omega))];rfl,Qp h (o+j)⟩
section
variable {w0 w w':World}{b R B:Nat}{α:Type}{A:Lay α}{x:α}{cs:List Value}{lo:Nat}
def Mid {α:Type}(A:Lay α) (B lo:Nat) (w:World) (x:α) (cs:List Value):Prop:=A.In w (fun g=>B<g∧g<lo) x cs
theorem Mid.below (h:Mid A B lo w x cs) (k:Below w.heap.size w w'):Mid A B lo w' x cs:=Lay.below h k
theorem Mid.set (h:Mid A B lo w x cs){q:Addr}(hq:q.block≤B) (v:Value):Mid A B lo (w.setCell q v) x cs:=Lay.setCell h (by omega) v
theorem Mid.grown {row:Option Nat}(h:Mid A B lo w x cs) (g:w.grownBy w' row) (hr:∀ k,row=some k→lo≤k):Mid A B lo w' x cs :=
 A.keep (fun k hk hl=>g.block k hl (fun e=>by have:=hr k e.symm;omega)) (fun _ h _=>h) h
end
theorem pSizeB:(prog.info? 84).map (·.size)=some 12:=by kernel_rfl
def Qlv (K:Act→World→Prop) (Q:Exit→Act→World→Prop) (o:Oper) (a:Act):Ending→World→Prop
 | .returned u,w=>K (a.put o.dst u) w
 | .panicked chain,w=>Q (.panic chain) a w
 | .outgrown,_=>LetsOut Q
def Qc8 (F:Nat):Prop:=∀ (args:Array Value) (w:World),(callFunc F args).run prog w=.ok (.enter F args) w
def QgS (L:List Bool) (i:Nat):Value:=if i=16 then .int .i64 (L.length:Int) else .bool (L.getD i false)
def Qt (w:World) (b:Nat) (L:List Bool):Prop:=L.length≤16∧w.rowIs b 124 17 (QgS L)
theorem Qt.mark {w:World}{b:Nat}{L:List Bool}(h:Qt w b L){k:Nat}(hk:k<16):w.cell? ⟨b,k,none⟩=some (.bool (L.getD k false)):=by
 have:=h.2.cell (i:=k) (by omega)
 rwa [QgS,if_neg (by omega)] at this
theorem Qt.count {w:World}{b:Nat}{L:List Bool}(h:Qt w b L):w.cell? ⟨b,16,none⟩=some (.int .i64 (L.length:Int)):=by
 have:=h.2.cell (i:=16) (by omega)
 rwa [QgS,if_pos rfl] at this
theorem Qt.keep {w w':World}{b:Nat}{L:List Bool}(h:Qt w b L) (e:w'.heap[b]?=w.heap[b]?):Qt w' b L:=⟨h.1,h.2.of_block e⟩
theorem Qt.below {w w':World}{b:Nat}{L:List Bool}(h:Qt w b L) (k:Below w.heap.size w w'):Qt w' b L:=h.keep (k.block b h.2.lt)
theorem Qt.step {w w':World}{b:Nat}{L:List Bool}{O O':Nat→Prop}(h:Qt w b L) (k:Zn O O' w w') (hn:¬ O b):Qt w' b L:=h.keep (k.block b h.2.lt hn)
theorem Qt.lt {w:World}{b:Nat}{L:List Bool}(h:Qt w b L):b<w.heap.size:=h.2.lt
theorem Qt.setMark {w:World}{b:Nat}{L:List Bool}(h:Qt w b L){k:Nat}(hk:k<L.length) (v:Bool):Qt (w.setCell ⟨b,k,none⟩ (.bool v)) b (L.set k v):=by
 refine⟨by simpa using h.1,(h.2.set k (.bool v)).congr fun i hi=>?_⟩
 have h16:=h.1;unfold QgS;by_cases h1:i=16
 ·subst h1;simp;omega
 ·rw[if_neg h1,if_neg h1]
  by_cases h2:i=k
  ·subst h2;simp[List.getD,hk]
  ·have:¬ k=i:=fun e=>h2 e.symm
   simp[h2,List.getD,this]
theorem Qt.push {w:World}{b:Nat}{L:List Bool}(h:Qt w b L) (hk:L.length<16):Qt ((w.setCell ⟨b,L.length,none⟩ (.bool true)).setCell ⟨b,16,none⟩ (.int .i64 ((L.length:Int)+1))) b (L++[true]):=by
 refine⟨by simp;omega,((h.2.set L.length (.bool true)).set 16 _).congr fun i hi=>?_⟩
 unfold QgS;by_cases h1:i=16
 ·subst h1;simp
 ·rw[if_neg h1,if_neg h1,if_neg h1]
  by_cases h2:i=L.length
  ·subst h2;simp[List.getD]
  ·rw[if_neg h2]
   rcases Nat.lt_or_ge i L.length with h3 | h3
   ·simp[List.getD,List.getElem?_append,h3]
   ·rw[Qbx L h3,Qbx (L++[true]) (by simp;omega)]
theorem QbL {w:World}{b:Nat}{L:List Bool}(r:Int) (h:Qt w b L) :
 Calls prog 33 #[.pointer (some ⟨b,0,none⟩),.int .i64 r] w fun e w'=>e=.returned (.bool (hHas L r))∧w'=w:=by
 by_cases h1:0≤r
 ·by_cases h2:r<16
  ·obtain⟨k,rfl⟩:=Int.eq_ofNat_of_zero_le h1
   have c:=h.mark (k:=k) (by omega);have E:Hid (hHas L (k:Int)=L.getD k false):=Qa7 L k;have h3:k<16:=by omega
   clear h;generalize L.getD k false=q at c E;go_enter func33,ntmps33
   go_wp2
   go_ret;exact⟨by rw[E.out];rfl,rfl⟩
  ·have E:Hid (hHas L r=false):=by
    show _=_;obtain⟨k,rfl⟩:=Int.eq_ofNat_of_zero_le h1
    rw[Qa7,Qbx L (by have:=h.1;omega)]
   have h2':decide (r<16)=false:=by simpa using h2
   clear h;go_enter func33,ntmps33
   go_wp2
   go_ret;exact⟨by rw[E.out];rfl,rfl⟩
 ·have E:Hid (hHas L r=false):=by show _=_;simp[hHas,h1]
  have h1':decide (0≤r)=false:=by simpa using h1
  clear h;go_enter func33,ntmps33
  go_wp2
  go_ret;exact⟨by rw[E.out];rfl,rfl⟩
theorem Qf4 {w:World}{b:Nat}{L:List Bool}(h:Qt w b L) :
 Calls prog 30 #[.pointer (some ⟨b,0,none⟩)] w fun e w'=>e=.returned (.int .i64 (L.length:Int))∧w'=w:=by
 have c:=h.count;clear h;generalize L.length=n at c;go_enter func30,ntmps30
 go_wp2
 go_ret;exact⟨rfl,rfl⟩
theorem Qe6 {b:Nat}{a w:World}(h:Zn (fun k=>k=b) (fun k=>k=b) a w) (i:Nat) (v:Value):Zn (fun k=>k=b) (fun k=>k=b) a (w.setCell ⟨b,i,none⟩ v):=h.setCell (p:=⟨b,i,none⟩) rfl v
theorem Qc6 {w:World}{b:Nat}{L:List Bool}(h:Qt w b L) :
 Calls prog 106 #[.pointer (some ⟨b,0,none⟩)] w fun e w'=>e=.returned (.int .i64 (QbQ L))∧Qt w' b (Qc5 L)∧Zn (fun k=>k=b) (fun k=>k=b) w w':=by
 have c:=h.count;have hl:=h.1;by_cases hk:L.length<16
 ·have E:Hid (QbQ L=(L.length:Int)∧Qc5 L=L++[true]):=by show _∧_;simp[QbQ,Qc5,hk]
  have m:=h.mark hk;have f:∀ i,w.frozen? ⟨b,i,none⟩=false:=h.2.frozen;have P1:Hid (Qt ((w.setCell ⟨b,L.length,none⟩ (.bool true)).setCell ⟨b,16,none⟩ (.int .i64 ((L.length:Int)+1))) b (L++[true])):=h.push hk;have S1:Hid (Zn (fun k=>k=b) (fun k=>k=b) w ((w.setCell ⟨b,L.length,none⟩ (.bool true)).setCell ⟨b,16,none⟩ (.int .i64 ((L.length:Int)+1)))):=Qe6 (Qe6 (Zn.refl _ _) _ _) _ _;have hk':((L.length:Int)==16)=false:=by simp;omega
  clear h;generalize hn:L.length=n at c m P1 S1 E hk hk' hl;generalize L.getD n false=q at m;go_enter func106,ntmps106
  go_wp2_with fail
  go_region;go_wp2
  go_ret;rw[E.out.1,E.out.2]
  exact⟨rfl,P1.out,S1.out.drew⟩
 ·have hk':L.length=16:=by omega
  have E:Hid (QbQ L=-1∧Qc5 L=L):=by show _∧_;simp[QbQ,Qc5,hk]
  have P1:Hid (Qt w b L):=h;rw[hk'] at c
  clear h hk hk' hl;go_enter func106,ntmps106
  go_wp2
  go_ret;rw[E.out.1,E.out.2]
  exact⟨rfl,P1.out,Zn.refl _ _⟩
theorem Qg9 {w:World}{b:Nat}{L:List Bool}(r:Int) (h:Qt w b L) :
 Calls prog 163 #[.pointer (some ⟨b,0,none⟩),.int .i64 r] w fun e w'=>e=.returned (.bool (hHas L r))∧Qt w' b (QfB L r)∧Zn (fun k=>k=b) (fun k=>k=b) w w':=by
 have C:Hid (Calls prog 33 #[.pointer (some ⟨b,0,none⟩),.int .i64 r] w fun e w'=>e=.returned (.bool (hHas L r))∧w'=w):=QbL r h
 cases hh:hHas L r with
 | false =>
   have E:Hid (QfB L r=L):=by show _=_;simp[QfB,hh]
   have P1:Hid (Qt w b L):=h;rw[hh] at C
   clear h hh;go_enter func163,ntmps163
   go_wp2_with (go_at_call 33;refine(C.out).mono ?_;rintro e w' ⟨rfl,hw⟩;have hw:=hw.symm;subst hw)
   go_ret;rw[E.out]
   exact⟨rfl,P1.out,Zn.refl _ _⟩
 | true =>
   obtain⟨k,rfl,hk,hm⟩:=QbJ hh
   have E:Hid (QfB L (k:Int)=L.set k false):=by show _=_;simp[QfB,hh]
   have P1:Hid (Qt (w.setCell ⟨b,k,none⟩ (.bool false)) b (L.set k false)):=h.setMark hk false;have S1:Hid (Zn (fun k=>k=b) (fun k=>k=b) w (w.setCell ⟨b,k,none⟩ (.bool false))):=Qe6 (Zn.refl _ _) _ _;have hk16:k<16:=by have:=h.1;omega
   have hk16':(k:Int)<16:=by omega
   have m:=h.mark hk16;have f:∀ i,w.frozen? ⟨b,i,none⟩=false:=h.2.frozen;rw[hh] at C
   generalize L.getD k false=q at m;clear h hh hm;go_enter func163,ntmps163
   go_wp2_with (go_at_call 33;refine(C.out).mono ?_;rintro e w' ⟨rfl,hw⟩;have hw:=hw.symm;subst hw)
   go_ret;rw[E.out]
   exact⟨rfl,P1.out,S1.out⟩
theorem Qhs (w:World):Qt (w.alloc (.cells #[.bool false,.bool false,.bool false,.bool false,.bool false,.bool false,.bool false,.bool false,.bool false,.bool false,.bool false,.bool false,.bool false,.bool false,.bool false,.bool false,.int .i64 0] 124)) w.heap.size []:=by
 refine⟨by simp,World.rowIs_alloc w _ _ _ fun i hi=>?_⟩
 have hi:i<17:=hi;unfold QgS;match i,hi with
 | 0,_ | 1,_ | 2,_ | 3,_ | 4,_ | 5,_ | 6,_ | 7,_ | 8,_ | 9,_ | 10,_ | 11,_ | 12,_ | 13,_ | 14,_ | 15,_ | 16,_=>rfl
 | i+17,h=>exact absurd h (by omega)
theorem QiG (w:World) (n:Int) (hn:-9223372036854775808≤n∧n≤9223372036854775807) :
 Calls prog 62 #[.int .i64 n] w fun e w'=>e=.returned (.pointer (some ⟨w.heap.size,0,none⟩))∧Qt w' w.heap.size (Qcy n)∧Below w.heap.size w w':=by
 have Z:Hid (Qt (w.alloc (.cells #[.bool false,.bool false,.bool false,.bool false,.bool false,.bool false,.bool false,.bool false,.bool false,.bool false,.bool false,.bool false,.bool false,.bool false,.bool false,.bool false,.int .i64 0] 124)) w.heap.size []):=Qhs w;obtain⟨M,hM⟩:∃ M,(min n 16).toNat=M:=⟨_,rfl⟩
 have E:Hid (Qcy n=List.replicate M true):=by show _=_;rw[Qcy,hM]
 have hM1:∀ k:Nat,k<M→(k:Int)<n∧(k:Int)<16:=fun k hk=>by omega
 have hM2:∀ k:Nat,¬ k<M→¬ (k:Int)<n∨¬ (k:Int)<16:=fun k hk=>by omega
 go_enter func62,ntmps62
 by_cases h16:16<n
 ·have hM16:M=16:=by omega
  go_wp2
  go_loopw [8] (fun i wr=>∃ k:Nat,k≤M∧i=.int .i64 k∧Qt wr w.heap.size (List.replicate k true)∧Below w.heap.size w wr) (fun i _=>M - (intOf i).toNat)
  case atStart=>exact⟨0,Nat.zero_le _,rfl,Z.out,Zr.alloc Ze _⟩
  case round =>
   obtain⟨k,hk,rfl,hA,hB⟩:=hrel
   have HA:Hid (Qt wr w.heap.size (List.replicate k true)):=hA;have HB:Hid (Below w.heap.size w wr):=hB;clear hA hB Z;by_cases hlt:k<M
   ·obtain⟨h1,h2⟩:=hM1 k hlt
    go_wp2_with fail
    refine(Qc6 HA.out).mono ?_
    rintro e w2 ⟨rfl,hA2,hs2⟩
    have R:Hid (Qt w2 w.heap.size (List.replicate (k+1) true)∧Below w.heap.size w w2):=by
     refine⟨by rw[← Qex (by omega)];exact hA2,HB.out.trans (hs2.below HB.out.size fun k hk=>by omega)⟩
    clear hA2 hs2 HA HB;go_wp2
    go_roundw
    case rel=>exact⟨k+1,by omega,by go_num,R.out⟩
    case measure=>simp[intOf];omega
   ·have h3:¬ (k:Int)<16:=by omega
    have hkM:k=M:=by omega
    go_wp2
    go_ret;refine⟨rfl,?_,HB.out⟩
    rw[E.out,← hkM];exact HA.out
 ·go_wp2
  go_loopw [8] (fun i wr=>∃ k:Nat,k≤M∧i=.int .i64 k∧Qt wr w.heap.size (List.replicate k true)∧Below w.heap.size w wr) (fun i _=>M - (intOf i).toNat)
  case atStart=>exact⟨0,Nat.zero_le _,rfl,Z.out,Zr.alloc Ze _⟩
  case round =>
   obtain⟨k,hk,rfl,hA,hB⟩:=hrel
   have HA:Hid (Qt wr w.heap.size (List.replicate k true)):=hA;have HB:Hid (Below w.heap.size w wr):=hB;clear hA hB Z;by_cases hlt:k<M
   ·obtain⟨h1,h2⟩:=hM1 k hlt
    go_wp2_with fail
    refine(Qc6 HA.out).mono ?_
    rintro e w2 ⟨rfl,hA2,hs2⟩
    have R:Hid (Qt w2 w.heap.size (List.replicate (k+1) true)∧Below w.heap.size w w2):=by
     refine⟨by rw[← Qex (by omega)];exact hA2,HB.out.trans (hs2.below HB.out.size fun k hk=>by omega)⟩
    clear hA2 hs2 HA HB;go_wp2
    go_roundw
    case rel=>exact⟨k+1,by omega,by go_num,R.out⟩
    case measure=>simp[intOf];omega
   ·have h3:¬ (k:Int)<n:=by omega
    have hkM:k=M:=by omega
    go_wp2
    go_ret;refine⟨rfl,?_,HB.out⟩
    rw[E.out,← hkM];exact HA.out
theorem under16:prog.underlying 122=some (.array 16 4):=by kernel_rfl
theorem underB:prog.underlying 4=some .bool:=by kernel_rfl
theorem sizeB:(prog.info? 4).map (·.size)=some 1:=by kernel_rfl
theorem size16:(prog.info? 122).map (·.size)=some 16:=by kernel_rfl
theorem Qbw {w4 w9:World}{lo:Nat}{a:Option Addr}{c:Nat}{xs:List Int}{cs:List Value}{x:Int}(hA:ZS Lay.int 3 w4 lo (.slice a xs.length c) xs cs) (hx:-9223372036854775808≤x∧x≤9223372036854775807){o:Obj}{g cap:Nat}(hlo:lo≤w4.heap.size)
 (h1:w9.ownsRow lo 3 1 (.slice (some ⟨g,0,none⟩) (xs.length+1) cap) (xs.length+1) (cs++[.int .i64 x])) (h2:(w4.alloc o).grownBy w9 (Value.slice a xs.length c).ownBlock) (h3:(Value.slice a xs.length c).ownBlock=some g∨g=w4.heap.size+1) :
 ZS Lay.int 3 w9 lo (.slice (some ⟨g,0,none⟩) (xs.length+1) cap) (xs++[x]) (cs++[.int .i64 x])∧∀ w,Below lo w w4→Below lo w w9:=by
 have A5:=hA.below (QN w4 o);have T5:Lay.int.In (w4.alloc o) (fun g=>lo≤g∧(Value.slice a xs.length c).ownBlock≠some g) x [.int .i64 x]:=Lay.int_mk _ _ hx;refine⟨ZS.push A5 T5 h2 (by simpa using h3) h1,fun w hb=>(hb.alloc hlo _).grown h2 (by simp;omega) (fun k hk=>(A5.lo_le hk).1)⟩
def Qce (w:World) (l:List Int) (e:Ending) (w':World):Prop:=∃ a c,e=.returned (.slice a l.length c)∧intsL.In w' (fun g=>w.heap.size≤g) l [.slice a l.length c]∧Below w.heap.size w w'
theorem Qe0 {w:World}{b:Nat}{L:List Bool}(h:Qt w b L) :
 Calls prog 28 #[.pointer (some ⟨b,0,none⟩)] w fun e w'=>Qce w (hList L) e w':=by
 obtain⟨i0,hi,hz0,hz1,hz2⟩:=pInfoI
 have hr:w.rangeAt b 0 ((List.range 16).map fun i=>Value.bool (L.getD i false)):=fun j v hv=>by
  rw[List.getElem?_map] at hv
  cases hj:(List.range 16)[j]? with
  | none=>rw[hj] at hv;cases hv
  | some k =>
    have hjl:j<16:=by have:=(Zi hj).1;simpa using this
    rw[List.getElem?_range hjl] at hj
    cases hj
    rw[List.getElem?_range hjl] at hv
    simp only[Option.map_some,Option.some.injEq] at hv
    rw[← hv,Nat.zero_add]
    exact h.mark hjl
 have E:Hid (hTo L 16=hList L):=Qks L 16 h.1
 have hix:∀ (k:Nat) (wx:World),k<16→(Instr.index 122 (.agg ((List.range 16).map fun i=>Value.bool (L.getD i false)).toArray) (.int .i64 (k:Int))).run prog wx=.ok (.bool (L.getD k false)) wx:=fun k wx hk=>by
  have hp:(part 4 ((List.range 16).map fun i=>Value.bool (L.getD i false)).toArray (k*1)).run prog wx=.ok (.bool (L.getD k false)) wx:=by
   have hc:((List.range 16).map fun i=>Value.bool (L.getD i false)).toArray[k*1]?=some (.bool (L.getD k false)):=by
    simp[hk]
   simp only[part,isAgg,Sem.run_bind,run_underlying underB,Result.andThen_ok,Sem.run_pure,Bool.false_eq_true,if_false,hc]
  have hsz:(sizeOf 4).run prog wx=.ok 1 wx:=by
   have hs:=sizeB
   cases hq:prog.info? 4 with
   | none=>simp[hq] at hs
   | some i=>simp[hq] at hs;simp[sizeOf,typeInfo,hq,hs]
  have hkk:(0:Int)≤(k:Int)∧(k:Int)<(16:Nat):=by omega
  simp only[Instr.index,asIntOf,Sem.run_bind,Sem.run_pure,run_underlying under16,Result.andThen_ok,hkk,and_self,if_true,hsz,Int.toNat_natCast,hp]
 have HS:Hid ((prog.info? 122).map (·.size)=some ((List.range 16).map fun i=>Value.bool (L.getD i false)).length):=by show _=_;rw[List.length_map,List.length_range];exact size16
 have HR:Hid (w.rangeAt b 0 ((List.range 16).map fun i=>Value.bool (L.getD i false))):=hr;generalize ((List.range 16).map fun i=>Value.bool (L.getD i false))=cs0 at hr hix HR HS;clear hr;clear h;go_enter func28,ntmps28
 go_wp2_with (refine wpList_load_mid rfl 122 (.tmp 8) rfl b 0 rfl cs0 _ HR.out under16 rfl HS.out ?_)
 go_loopw [3,10] (fun v u wr=>∃ k cs,u=.int .i64 (k:Nat)∧k≤16∧ZS Lay.int 3 wr w.heap.size v (hTo L k) cs∧Below w.heap.size w wr) (fun _ u _=>16 - (intOf u).toNat)
 case atStart=>exact⟨0,[],rfl,by omega,ZS.nil _ _ _ _,Zr⟩
 case round =>
  obtain⟨k,cs,rfl,hk,hA,hB⟩:=hrel
  obtain⟨a,c,rfl⟩:=hA.formP
  have HA:Hid (ZS Lay.int 3 wr w.heap.size (.slice a (hTo L k).length c) (hTo L k) cs):=hA;have HB:Hid (Below w.heap.size w wr):=hB;have hlen:=QfA L k;have hsz:w.heap.size≤wr.heap.size:=hB.size;clear hA hB;by_cases hlt:k<16
  ·have hlt':(k:Int)<16:=by omega
   have hix':=fun wx=>hix k wx hlt;clear hix
   cases hm:L.getD k false with
   | false =>
     have E2:Hid (hTo L (k+1)=hTo L k):=by show _=_;rw[hTo,hm];simp
     rw[hm] at hix'
     clear hm;go_wp2
     go_roundw
     case rel=>exact⟨k+1,cs,by go_num,by omega,by rw[E2.out];exact HA.out,HB.out⟩
     case measure=>simp[intOf];omega
   | true =>
     have E2:Hid (hTo L (k+1)=hTo L k++[(k:Int)]):=by show _=_;rw[hTo,hm];simp
     rw[hm] at hix'
     have hown:Hid (wr.ownsRow w.heap.size 3 1 (.slice a (hTo L k).length c) (hTo L k).length cs):=HA.out.own
     have PU:Hid (∀ g cap w9,w9.ownsRow w.heap.size 3 1 (.slice (some ⟨g,0,none⟩) ((hTo L k).length+1) cap) ((hTo L k).length+1) (cs++[.int .i64 (k:Int)])→(wr.alloc (.cells #[.int .i64 (k:Int)] 3)).grownBy w9 (Value.slice a (hTo L k).length c).ownBlock→((Value.slice a (hTo L k).length c).ownBlock=some g∨g=wr.heap.size+1) →
      ZS Lay.int 3 w9 w.heap.size (.slice (some ⟨g,0,none⟩) ((hTo L k).length+1) cap) (hTo L (k+1)) (cs++[.int .i64 (k:Int)])∧Below w.heap.size w w9):=by
      intro g cap w9 h1 h2 h3;obtain⟨q1,q2⟩:=Qbw HA.out (by omega) hsz h1 h2 h3
      rw[E2.out]
      exact⟨q1,q2 w HB.out⟩
     have EL:Hid ((hTo L (k+1)).length=(hTo L k).length+1):=by show _=_;rw[E2.out];simp
     clear hm HA HB E2;generalize (hTo L k).length=n at hown PU EL hlen ⊢;go_wp2_with (at_builtin;refine wpList_append_lies _ rfl (.tmp 15) (.tmp 17) 43 rfl w.heap.size 3 i0 (.int .i64 0) 1 8 pUnderI hi hz0 hz1 hz2 rfl (by decide) _ _ _ rfl (hown.out.alloc _) ⟨wr.heap.size,0,none⟩ 1 1 [.int .i64 (k:Int)] rfl rfl (QgV _ [_] _) (Qj0 _) (by decide) (by unfold maxLen;omega) (by omega) (by simp;omega) (wr.heap.size+1) (by simp) ?_)
     intro g2 cap2 w9 h1 hgrow hat hlt1;obtain⟨q1,q2⟩:=PU.out g2 cap2 w9 h1 hgrow hat
     have A9:Hid (ZS Lay.int 3 w9 w.heap.size (.slice (some ⟨g2,0,none⟩) (n+1) cap2) (hTo L (k+1)) (cs++[.int .i64 (k:Int)])):=q1;have B9:Hid (Below w.heap.size w w9):=q2;clear h1 hgrow hat hlt1 hown PU q1 q2;go_wp2
     go_roundw
     case rel=>exact⟨k+1,_,by go_num,by omega,A9.out,B9.out⟩
     case measure=>simp[intOf];omega
  ·have hk16:k=16:=by omega
   subst hk16
   have Z:Hid (Qce w (hList L) (.returned (.slice a (hTo L 16).length c)) wr):=by
    rw[E.out]
    refine⟨a,c,rfl,?_,HB.out⟩
    have:=HA.out.lay
    rw[E.out] at this
    exact this
   clear HA HB hix hlen;generalize (hTo L 16).length=n at Z;go_wp2
   go_ret;exact Z.out
theorem eqGuard16:prog.eqGuardType prog.depth 122=false:=by kernel_rfl
theorem Qix {w:World}{t:TypeId}(f:Nat→Bool){c:Array Value}(hc:c.size=16):((w.alloc (.cells c t)).setCells w.heap.size 0 ((List.range 16).map fun i=>Value.bool (f i)).toArray.toList).rowIs w.heap.size t 16 (fun i=>.bool (f i)):=by
 have h0:Blk (w.alloc (.cells c t)) w.heap.size ([]++c.toList).toArray t:=by rw[List.nil_append,Array.toArray_toList];exact Qe w c t
 have h1:=Blk.sets ((List.range 16).map fun i=>Value.bool (f i)) [] c.toList (w.alloc (.cells c t)) (by simp[hc]) h0;refine⟨_,h1,by simp,fun i hi=>?_⟩
 simp[hi]
theorem QfG {w:World}{b:Nat}{t:TypeId}{f:Nat→Bool}(h:w.rowIs b t 16 (fun i=>.bool (f i))):w.rangeAt b 0 ((List.range 16).map fun i=>Value.bool (f i)):=fun j v hv=>by
 rw[List.getElem?_map] at hv
 cases hj:(List.range 16)[j]? with
 | none=>rw[hj] at hv;cases hv
 | some k =>
   have hjl:j<16:=by have:=(Zi hj).1;simpa using this
   rw[List.getElem?_range hjl] at hj
   cases hj
   rw[List.getElem?_range hjl] at hv
   simp only[Option.map_some,Option.some.injEq] at hv
   rw[← hv,Nat.zero_add]
   exact h.cell hjl
theorem Qt.marks {w:World}{b:Nat}{L:List Bool}(h:Qt w b L):w.rangeAt b 0 ((List.range 16).map fun i=>Value.bool (L.getD i false)):=fun j v hv=>by
 rw[List.getElem?_map] at hv
 cases hj:(List.range 16)[j]? with
 | none=>rw[hj] at hv;cases hv
 | some k =>
   have hjl:j<16:=by have:=(Zi hj).1;simpa using this
   rw[List.getElem?_range hjl] at hj
   cases hj
   rw[List.getElem?_range hjl] at hv
   simp only[Option.map_some,Option.some.injEq] at hv
   rw[← hv,Nat.zero_add]
   exact h.mark hjl
theorem Qid (f:Nat→Bool):((List.range 16).map fun i=>Value.bool (f i)).toArray.all (·.oneCell')=true :=
 all_oneCell_toArray fun v hv=>by obtain⟨i,_,rfl⟩:=List.mem_map.1 hv;rfl
theorem Qiw (w:World) (t:TypeId) (c:Array Value) (n:Nat) (hn:n≤c.size):(w.alloc (.cells c t)).there w.heap.size 0 n:=fun j hj=>by
 have h:=Qe w c t;rw[Nat.zero_add]
 refine⟨?_,Qp h j⟩
 rw[Qb h j c[j] (by simp)];rfl
theorem Qhm {w:World}{b:Nat}{L:List Bool}{Q:Nat→Prop}{l:List Int}{a:Option Addr}{N c:Nat}(hN:l.length=N) (hN2:N≤100000) (hl:intsL.In w Q l [.slice a N c]) (h:Qt w b L) :
 Calls prog 203 #[.pointer (some ⟨b,0,none⟩),.slice a N c] w fun e w'=>e=.returned (.int .i64 (hPass L [] l))∧Below w.heap.size w w':=by
 have HX:Hid (∀ i x,l[i]?=some x→∃ g o,a=some ⟨g,o,none⟩∧g<w.heap.size∧w.cell? ⟨g,o+i,none⟩=some (.int .i64 x)):=fun i x hi=>by
  obtain⟨g,o,ds,e1,e2,e3,hc,hd,hr⟩:=Lay.list_at hl hi
  have hd':ds=[.int .i64 x]:=hd;subst hd';refine⟨g,o,e1,e3,?_⟩
  have:=hc 0 (by decide)
  simpa[Lay.int] using this
 have HN:Hid (l.length=N):=hN;have HL:Hid (L.length≤16):=h.1;have HH:Hid (Qt w b L):=h
 have HR:Hid (w.rangeAt b 0 ((List.range 16).map fun i=>Value.bool (ZR L [] i))):=by
  have:=h.marks
  simp only[← QhA] at this
  exact this
 have HS:Hid ((prog.info? 122).map (·.size)=some ((List.range 16).map fun i=>Value.bool (ZR L [] i)).length):=by show _=_;rw[List.length_map,List.length_range];exact size16
 have HT:Hid ((prog.info? 122).map (·.size)=some ((List.range 16).map fun i=>Value.bool (ZR L [] i)).toArray.size):=by show _=_;rw[List.size_toArray,List.length_map,List.length_range];exact size16
 have HU:Hid (((List.range 16).map fun i=>Value.bool (ZR L [] i)).toArray.all (·.oneCell')=true):=Qid _
 have HV:Hid ((w.alloc (.cells #[.bool false,.bool false,.bool false,.bool false,.bool false,.bool false,.bool false,.bool false,.bool false,.bool false,.bool false,.bool false,.bool false,.bool false,.bool false,.bool false] 122)).there w.heap.size 0 ((List.range 16).map fun i=>Value.bool (ZR L [] i)).toArray.size):=by
  refine Qiw w _ _ _ ?_;rw[List.size_toArray,List.length_map,List.length_range]
  exact Ze
 have W1:Hid (((w.alloc (.cells #[.bool false,.bool false,.bool false,.bool false,.bool false,.bool false,.bool false,.bool false,.bool false,.bool false,.bool false,.bool false,.bool false,.bool false,.bool false,.bool false] 122)).setCells w.heap.size 0 ((List.range 16).map fun i=>Value.bool (ZR L [] i)).toArray.toList).rowIs w.heap.size 122 16 (fun i=>.bool (ZR L [] i))):=Qix _ rfl
 have B1:Hid (Below w.heap.size w ((w.alloc (.cells #[.bool false,.bool false,.bool false,.bool false,.bool false,.bool false,.bool false,.bool false,.bool false,.bool false,.bool false,.bool false,.bool false,.bool false,.bool false,.bool false] 122)).setCells w.heap.size 0 ((List.range 16).map fun i=>Value.bool (ZR L [] i)).toArray.toList)):=by
  have:=Zn.setCells (O:=fun k=>k=w.heap.size) (O':=fun k=>k=w.heap.size) (b:=w.heap.size) rfl ((List.range 16).map fun i=>Value.bool (ZR L [] i)).toArray.toList 0 _ ((Zn.refl _ w).alloc (.cells #[.bool false,.bool false,.bool false,.bool false,.bool false,.bool false,.bool false,.bool false,.bool false,.bool false,.bool false,.bool false,.bool false,.bool false,.bool false,.bool false] 122))
  exact this.below Ze (fun k hk=>by omega)
 clear h hl hN;generalize ((List.range 16).map fun i=>Value.bool (ZR L [] i))=cs0 at HR HS HT HU HV W1 B1;go_enter func203,ntmps203
 go_wp2_with (first | (refine wpList_load_mid rfl 122 (.tmp 10) rfl b 0 rfl cs0 _ HR.out under16 rfl HS.out ?_) | (refine wpList_store_mid rfl 122 (.tmp 5) (.tmp 11) rfl w.heap.size 0 cs0.toArray rfl rfl HV.out HT.out HU.out ?_))
 go_loopw [14] (fun u wr=>∃ k,u=.int .i64 (k:Nat)∧k≤N∧wr.rowIs w.heap.size 122 16 (fun i=>.bool (ZR L (l.take k) i))∧Below w.heap.size w wr∧hPass L [] l=hPass L (l.take k) (l.drop k)) (fun u _=>N - (intOf u).toNat)
 case atStart=>exact⟨0,rfl,Nat.zero_le _,W1.out,B1.out,rfl⟩
 case round =>
  obtain⟨k,rfl,hk,hr,hB,hp⟩:=hrel
  have RR:Hid (wr.rowIs w.heap.size 122 16 (fun i=>.bool (ZR L (l.take k) i))):=hr;have HB:Hid (Below w.heap.size w wr):=hB;have HP:Hid (hPass L [] l=hPass L (l.take k) (l.drop k)):=hp;clear hr hB hp W1 B1 HR HS HT HU HV;by_cases hlt:k<N
  ·have hxi:l[k]?=some (l[k]'(by rw[HN.out];exact hlt)):=Zg _;generalize l[k]'(by rw[HN.out];exact hlt)=x at hxi;obtain⟨g,o,rfl,hg,yc⟩:=HX.out k x hxi
   have yc':wr.cell? ⟨g,o+k,none⟩=some (.int .i64 x):=(HB.out.cell (p:=⟨g,o+k,none⟩) hg).trans yc;have hlt':(k:Int)<N:=by omega
   have PS:=Qdy L l hxi;rw[← HP.out] at PS
   have C:Hid (Calls prog 33 #[.pointer (some ⟨b,0,none⟩),.int .i64 x] wr fun e w'=>e=.returned (.bool (hHas L x))∧w'=wr):=QbL x (HH.out.below HB.out)
   cases hh:hHas L x with
   | false =>
     rw[hh] at C PS
     have E:Hid (hPass L [] l=10):=by show _=_;simpa using PS
     clear PS hh yc hxi;go_wp2_with (go_at_call 33;refine(C.out).mono ?_;rintro e w' ⟨rfl,hw⟩;have hw:=hw.symm;subst hw)
     go_ret;exact⟨by rw[E.out];rfl,HB.out⟩
   | true =>
     obtain⟨j,rfl,hj,hm⟩:=QbJ hh
     rw[hh] at C PS
     have hj16:j<16:=by have:=HL.out;omega
     have hj16':(j:Int)<16:=by omega
     have cj:wr.cell? ⟨w.heap.size,j,none⟩=some (.bool (ZR L (l.take k) j)):=RR.out.cell hj16;have fj:∀ i,wr.frozen? ⟨w.heap.size,i,none⟩=false:=RR.out.frozen;have EJ:ZR L (l.take k) j=!inB (l.take k) (j:Int):=by rw[ZR,hm,Bool.true_and]
     rw[EJ] at cj
     cases hi:inB (l.take k) (j:Int) with
     | true =>
       rw[hi] at PS cj
       have E:Hid (hPass L [] l=13):=by show _=_;simpa using PS
       clear PS hh yc hxi EJ hi hm;go_wp2_with (go_at_call 33;refine(C.out).mono ?_;rintro e w' ⟨rfl,hw⟩;have hw:=hw.symm;subst hw)
       go_ret;exact⟨by rw[E.out];rfl,HB.out⟩
     | false =>
       rw[hi] at PS cj
       have E:Hid (hPass L [] l=hPass L (l.take (k+1)) (l.drop (k+1))):=by show _=_;simpa using PS
       have ET:l.take (k+1)=l.take k++[(j:Int)]:=by rw[List.take_add_one,hxi];rfl
       have RN:Hid ((wr.setCell ⟨w.heap.size,j,none⟩ (.bool false)).rowIs w.heap.size 122 16 (fun i=>.bool (ZR L (l.take (k+1)) i))):=by
        refine(RR.out.set j (.bool false)).congr fun i hi=>?_
        rw[ET,QgF]
        by_cases e:i=j
        ·rw[if_pos e,if_pos e]
        ·rw[if_neg e,if_neg e]
       have BN:Hid (Below w.heap.size w (wr.setCell ⟨w.heap.size,j,none⟩ (.bool false))):=HB.out.setCell (p:=⟨w.heap.size,j,none⟩) Ze _;clear PS hh yc hxi EJ hi hm ET RR HB HP;go_wp2_with (go_at_call 33;refine(C.out).mono ?_;rintro e w' ⟨rfl,hw⟩;have hw:=hw.symm;subst hw)
       go_roundw
       case rel=>exact⟨k+1,by go_num,by omega,RN.out,BN.out,E.out⟩
       case measure=>simp[intOf];omega
  ·have hlt':¬ (k:Int)<N:=by omega
   have hkl:l.length≤k:=by rw[HN.out];omega
   have PE:=Qeg L l hkl;rw[← HP.out] at PE
   have HR:Hid (wr.rangeAt w.heap.size 0 ((List.range 16).map fun i=>Value.bool (ZR L (l.take k) i))):=QfG RR.out;rw[List.take_of_length_le hkl] at HR
   have HS:Hid ((prog.info? 122).map (·.size)=some ((List.range 16).map fun i=>Value.bool (ZR L l i)).length):=by show _=_;rw[List.length_map,List.length_range];exact size16
   have heq:∀ wx,(Op.equalIn 10000 122 (.agg ((List.range 16).map fun i=>Value.bool (ZR L l i)).toArray) (.agg #[.bool false,.bool false,.bool false,.bool false,.bool false,.bool false,.bool false,.bool false,.bool false,.bool false,.bool false,.bool false,.bool false,.bool false,.bool false,.bool false])).run prog wx=.ok ((hList L).all (fun r=>inB l r)) wx:=fun wx=>by
    have:=Qci (d:=9998) under16 underB sizeB wx ((List.range 16).map (ZR L l)) (List.replicate 16 false) (by simp) (by simp)
    rw[List.map_map] at this
    refine Eq.trans this ?_;congr 1
    rw[Bool.eq_iff_iff,beq_iff_eq]
    exact Qg6 HL.out
   generalize ((List.range 16).map fun i=>Value.bool (ZR L l i))=cs0 at HR HS heq;have hgd:=eqGuard16;clear HP RR HX hkl
   cases hq:(hList L).all (fun r=>inB l r) with
   | true =>
     rw[hq] at heq PE
     have E:Hid (hPass L [] l=0):=by show _=_;simpa using PE
     clear PE hq;go_wp2_with (refine wpList_load_mid rfl 122 (.tmp 5) rfl w.heap.size 0 rfl cs0 _ HR.out under16 rfl HS.out ?_)
     go_ret;exact⟨by rw[E.out];rfl,HB.out⟩
   | false =>
     rw[hq] at heq PE
     have E:Hid (hPass L [] l=12):=by show _=_;simpa using PE
     clear PE hq;go_wp2_with (refine wpList_load_mid rfl 122 (.tmp 5) rfl w.heap.size 0 rfl cs0 _ HR.out under16 rfl HS.out ?_)
     go_ret;exact⟨by rw[E.out];rfl,HB.out⟩
theorem Qf {B:Nat}{a w:World}(h:Below B a w) (n:Nat):Below B a (w.drewN n):=⟨h.os,h.tape,h.output,h.size,h.block⟩
theorem Qa {p:Prop}(h:p):Hid p:=h
def Qec (w:World) (O:Nat→Prop) (t:TypeId) (v:Value) (vs:List Value):Prop:=w.ownsRow 0 t 1 v vs.length vs∧∀ g,v.ownBlock=some g→O g
section
variable {w w':World}{O O':Nat→Prop}{t:TypeId}{v:Value}{vs:List Value}
theorem Qec.nil (w:World) (O:Nat→Prop) (t:TypeId):Qec w O t (.slice none 0 0) []:=⟨⟨rfl,Or.inl ⟨rfl,rfl⟩⟩,by simp[Value.ownBlock]⟩
theorem Qec.form (h:Qec w O t v vs):∃ a cap,v=.slice a vs.length cap∧(∀ i,i<vs.length→∃ g,a=some ⟨g,0,none⟩∧O g∧w.cell? ⟨g,i,none⟩=vs[i]?∧w.frozen? ⟨g,i,none⟩=false):=by
 obtain⟨⟨h1,h2⟩,h3⟩:=h
 rcases h2 with ⟨rfl,h4⟩|⟨g,cap,cur,rfl,_,hh,hn,hm,hs,ht⟩
 ·rw[h4]
  exact⟨none,0,rfl,fun i hi=>by omega⟩
 ·refine⟨some ⟨g,0,none⟩,cap,rfl,fun i hi=>⟨g,rfl,h3 g rfl,?_,Qp hh i⟩⟩
  have hc:i<cur.size:=by omega
  rw[Qb hh i cur[i] (by simp),← ht,List.getElem?_take,if_pos (by omega),Array.getElem?_toList,Array.getElem?_eq_getElem hc]
theorem Qec.keep (h:Qec w O t v vs) (hb:∀ g,v.ownBlock=some g→w'.heap[g]?=w.heap[g]?) (hO:∀ g,v.ownBlock=some g→O' g):Qec w' O' t v vs:=by
 obtain⟨⟨h1,h2⟩,h3⟩:=h
 refine⟨⟨h1,?_⟩,hO⟩
 rcases h2 with h4 | ⟨g,cap,cur,rfl,hg,hh,r⟩
 ·exact Or.inl h4
 ·exact Or.inr ⟨g,cap,cur,rfl,hg,(hb g rfl).trans hh,r⟩
theorem Qec.block (h:Qec w O t v vs){g:Nat}(hg:v.ownBlock=some g):∃ c,w.heap[g]?=some (.cells c t (0,0)):=by
 obtain⟨⟨h1,h2⟩,h3⟩:=h
 rcases h2 with ⟨rfl,_⟩|⟨g',cap,cur,rfl,_,hh,r⟩
 ·simp[Value.ownBlock] at hg
 ·simp[Value.ownBlock] at hg;subst hg;exact⟨cur,hh⟩
theorem Qec.lt (h:Qec w O t v vs){g:Nat}(hg:v.ownBlock=some g):g<w.heap.size:=by
 obtain⟨c,hc⟩:=h.block hg
 exact lt_of_block hc
theorem Qec.set {g n cap:Nat}(h:Qec w O t (.slice (some ⟨g,0,none⟩) n cap) vs) (i:Nat) (u:Value):Qec (w.setCell ⟨g,i,none⟩ u) O t (.slice (some ⟨g,0,none⟩) n cap) (vs.set i u):=by
 obtain⟨⟨h1,h2⟩,h3⟩:=h
 rcases h2 with ⟨e,_⟩|⟨g',cap',cur,e,hg,hh,hn,hm,hs,ht⟩
 ·cases e
 ·cases e
  refine⟨⟨by simp,Or.inr ⟨g,cap,cur.setIfInBounds i u,by simp,Nat.zero_le _,Qo hh i u,by simpa using hn,hm,by simpa using hs,?_⟩⟩,h3⟩
  rw[Array.toList_setIfInBounds,List.length_set,List.take_set,ht]
end
def Qk (w:World) (b:Nat) (O:Nat→Prop) (L:List Bool):Prop :=
 ∃ v,w.heap[b]?=some (.cells #[v] 74 (0,0))∧Qec w O 4 v (L.map Value.bool)∧O b
section
variable {w w':World}{b:Nat}{O O' P P':Nat→Prop}{L:List Bool}
theorem Qk.keep (h:Qk w b O L) (hb:∀ g,O g→g<w.heap.size→w'.heap[g]?=w.heap[g]?) (hO:∀ g,O g→g<w.heap.size→O' g):Qk w' b O' L:=by
 obtain⟨v,h1,h2,h3⟩:=h
 exact⟨v,(hb b h3 (lt_of_block h1)).trans h1,h2.keep (fun g hg=>hb g (h2.2 g hg) (h2.lt hg)) (fun g hg=>hO g (h2.2 g hg) (h2.lt hg)),hO b h3 (lt_of_block h1)⟩
theorem Qk.below (h:Qk w b O L) (k:Below w.heap.size w w'):Qk w' b O L:=h.keep (fun g _ hg=>k.block g hg) (fun g hg _=>hg)
theorem Qk.step (h:Qk w b O L) (k:Zn P P' w w') (hd:∀ x,O x→¬ P x):Qk w' b O L:=h.keep (fun g hO hg=>k.block g hg (hd g hO)) (fun g hg _=>hg)
theorem Qk.mono (h:Qk w b O L) (hO:∀ g,O g→O' g):Qk w b O' L:=h.keep (fun _ _ _=>rfl) (fun g hg _=>hO g hg)
theorem Qk.lt (h:Qk w b O L):b<w.heap.size:=by obtain⟨v,h1,h2,h3⟩:=h;exact lt_of_block h1
theorem Qk.cells (h:Qk w b O L):∃ a cap,w.cell? ⟨b,0,none⟩=some (.slice a L.length cap)∧w.frozen? ⟨b,0,none⟩=false∧w.ownsRow 0 4 1 (.slice a L.length cap) L.length (L.map Value.bool) ∧
 ∀ i,i<L.length→∃ g,a=some ⟨g,0,none⟩∧O g∧w.cell? ⟨g,i,none⟩=some (.bool (L.getD i false))∧w.frozen? ⟨g,i,none⟩=false∧∀ u,Qk (w.setCell ⟨g,i,none⟩ (.bool u)) b O (L.set i u):=by
 obtain⟨v,h1,h2,h3⟩:=h
 obtain⟨a,cap,rfl,h4⟩:=h2.form
 rw[List.length_map] at h1 h2 h4
 have h5:=h2.1;rw[List.length_map] at h5
 refine⟨a,cap,Qb h1 0 _ rfl,Qp h1 0,h5,fun i hi=>?_⟩
 obtain⟨g,rfl,hg,hc,hf⟩:=h4 i hi
 refine⟨g,rfl,hg,?_,hf,fun u=>⟨.slice (some ⟨g,0,none⟩) L.length cap,?_,?_,h3⟩⟩
 ·rw[hc,List.getElem?_map,Zg hi];simp[List.getD,hi]
 ·obtain⟨c,hcc⟩:=h2.block (g:=g) rfl
  rw[Below.heap_setCell _ _ _ _ (QS h1 hcc (by decide))];exact h1
 ·rw[List.map_set];exact h2.set i (.bool u)
theorem Qk.push (h:Qk w b O L){a:Option Addr}{cap cap2 g:Nat}{o:Obj}{w9:World}(c0:w.cell? ⟨b,0,none⟩=some (.slice a L.length cap))
 (h1:w9.ownsRow 0 4 1 (.slice (some ⟨g,0,none⟩) (L.length+1) cap2) (L.length+1) (L.map Value.bool++[.bool true])) (h2:(w.alloc o).grownBy w9 (Value.slice a L.length cap).ownBlock) (h3:(Value.slice a L.length cap).ownBlock=some g∨g=w.heap.size+1) (h4:g<w9.heap.size) :
 w9.cell? ⟨b,0,none⟩=some (.slice a L.length cap)∧w9.frozen? ⟨b,0,none⟩=false ∧
 Qk (w9.setCell ⟨b,0,none⟩ (.slice (some ⟨g,0,none⟩) (L.length+1) cap2)) b (fun x=>O x∨(w.heap.size≤x∧x<w9.heap.size)) (L++[true])∧Zn O (fun x=>O x∨(w.heap.size≤x∧x<w9.heap.size)) w (w9.setCell ⟨b,0,none⟩ (.slice (some ⟨g,0,none⟩) (L.length+1) cap2)):=by
 obtain⟨v,k1,k2,k3⟩:=h
 have e:=Qb k1 0 _ rfl;rw[c0] at e
 simp only[Option.some.injEq] at e
 subst e;have hbl:b<w.heap.size:=lt_of_block k1
 have hne:∀ g',(Value.slice a L.length cap).ownBlock=some g'→b≠g':=fun g' hg'=>by
  obtain⟨c,hc⟩:=k2.block hg'
  exact QS k1 hc (by decide)
 have kb:w9.heap[b]?=some (.cells #[.slice a L.length cap] 74 (0,0)):=by
  have:=h2.block b (by simp;omega) (fun e=>hne b e.symm rfl)
  rw[this,Below.heap_alloc _ _ _ hbl];exact k1
 have hgb:b≠g:=by
  rcases h3 with h | h
  ·exact hne g h
  ·omega
 have hsz:=h2.size;simp only[World.size_alloc] at hsz
 refine⟨Qb kb 0 _ rfl,Qp kb 0,⟨.slice (some ⟨g,0,none⟩) (L.length+1) cap2,?_,⟨?_,fun g' hg'=>?_⟩,.inl k3⟩,?_⟩
 ·rw[Qo kb];rfl
 ·have:Qec w9 (fun _=>True) 4 (.slice (some ⟨g,0,none⟩) (L.length+1) cap2) ((L++[true]).map Value.bool):=⟨by simpa using h1,fun _ _=>trivial⟩
  exact(this.keep (w':=w9.setCell ⟨b,0,none⟩ (.slice (some ⟨g,0,none⟩) (L.length+1) cap2)) (O':=fun _=>True) (fun g' hg'=>Below.heap_setCell _ _ _ _ (by simp[Value.ownBlock] at hg';subst hg';exact fun e=>hgb e.symm)) (fun _ _=>trivial)).1
 ·simp[Value.ownBlock] at hg'
  subst hg';rcases h3 with h | h
  ·exact .inl (k2.2 _ h)
  ·exact .inr ⟨by omega,h4⟩
 ·refine⟨h2.os,h2.tape,h2.output,by simp;omega,fun k hk hn=>?_,fun k hk=>hk.imp id fun h=>h.1⟩
  rw[Below.heap_setCell _ _ _ _ (fun e=>hn (by subst e;exact k3)),h2.block k (by simp;omega) (fun e=>hn (k2.2 k e.symm)),Below.heap_alloc _ _ _ hk]
end
theorem QbU {w:World}{b:Nat}{O:Nat→Prop}{L:List Bool}(r:Int) (hL:L.length≤100000) (h:Qk w b O L) :
 Calls prog 34 #[.pointer (some ⟨b,0,none⟩),.int .i64 r] w fun e w'=>e=.returned (.bool (hHas L r))∧w'=w:=by
 obtain⟨a,cap,c0,-,-,hc⟩:=h.cells
 by_cases h1:0≤r
 ·by_cases h2:r<L.length
  ·obtain⟨k,rfl⟩:=Int.eq_ofNat_of_zero_le h1
   obtain⟨g,rfl,-,c1,-,-⟩:=hc k (by omega)
   have E:Hid (hHas L (k:Int)=L.getD k false):=Qa7 L k;have h3:k<L.length:=by omega
   clear h hc;generalize L.getD k false=q at c1 E;generalize L.length=n at c0 h2 h3 hL;go_enter func34,ntmps34
   go_wp2
   go_ret;exact⟨by rw[E.out];rfl,rfl⟩
  ·have E:Hid (hHas L r=false):=by
    show _=_;obtain⟨k,rfl⟩:=Int.eq_ofNat_of_zero_le h1
    rw[Qa7,Qbx L (by omega)]
   have h2':decide (r<(L.length:Int))=false:=by simpa using h2
   clear h hc;generalize L.length=n at c0 h2 h2' hL;go_enter func34,ntmps34
   go_wp2
   go_ret;exact⟨by rw[E.out];rfl,rfl⟩
 ·have E:Hid (hHas L r=false):=by show _=_;simp[hHas,h1]
  have h1':decide (0≤r)=false:=by simpa using h1
  clear h hc;generalize L.length=n at c0 hL;go_enter func34,ntmps34
  go_wp2
  go_ret;exact⟨by rw[E.out];rfl,rfl⟩
theorem hUnderB:prog.underlying 72=some (.slice 4):=by kernel_rfl
theorem hInfoB0:(prog.info? 4).map (fun i=>(i.zero,i.size,i.bytes))=some (some (.bool false),1,1):=by kernel_rfl
theorem hInfoB:∃ i,prog.info? 4=some i∧i.zero=some (.bool false)∧i.size=1∧i.bytes=1:=by
 have h:=hInfoB0
 cases e:prog.info? 4 with
 | none=>rw[e] at h;cases h
 | some i =>
   rw[e] at h
   simp only[Option.map_some,Option.some.injEq,Prod.mk.injEq] at h
   exact⟨i,rfl,h.1,h.2.1,h.2.2⟩
theorem QkG (q:Bool):∀ u∈[Value.bool q],u.oneCell'=true:=by
 intro u h;simp at h
 subst h;rfl
theorem Qef (w:World) (n:Int) :
 Calls prog 67 #[.int .i64 n] w fun e w'=>e=.returned (.pointer (some ⟨w.heap.size,0,none⟩))∧Qk w' w.heap.size (fun x=>w.heap.size≤x∧x<w'.heap.size) (Qcy n)∧Below w.heap.size w w':=by
 obtain⟨i0,hi,hz0,hz1,hz2⟩:=hInfoB
 have Z:Hid (Qk (w.alloc (.cells #[.slice none 0 0] 74)) w.heap.size (fun x=>w.heap.size≤x∧x<(w.alloc (.cells #[.slice none 0 0] 74)).heap.size) []) :=
  ⟨.slice none 0 0,Qe _ _ _,Qec.nil _ _ _,by simp⟩
 obtain⟨M,hM⟩:∃ M,(min n 16).toNat=M:=⟨_,rfl⟩
 have E:Hid (Qcy n=List.replicate M true):=by show _=_;rw[Qcy,hM]
 go_enter func67,ntmps67
 go_wp2
 go_loopw [4] (fun i wr=>∃ k:Nat,k≤M∧i=.int .i64 k∧Qk wr w.heap.size (fun x=>w.heap.size≤x∧x<wr.heap.size) (List.replicate k true)∧Below w.heap.size w wr) (fun i _=>M - (intOf i).toNat)
 case atStart=>exact⟨0,Nat.zero_le _,rfl,Z.out,Zr.alloc Ze _⟩
 case round =>
  obtain⟨k,hk,rfl,hA,hB⟩:=hrel
  have HB:Hid (Below w.heap.size w wr):=hB;have HA:Hid (Qk wr w.heap.size (fun x=>w.heap.size≤x∧x<wr.heap.size) (List.replicate k true)):=hA;obtain⟨a,cap,c0,f0,how,-⟩:=hA.cells
  have hown:Hid (wr.ownsRow 0 4 1 (.slice a (List.replicate k true).length cap) (List.replicate k true).length ((List.replicate k true).map Value.bool)):=how;clear hA hB how Z;by_cases hlt:k<M
  ·have h1:(k:Int)<n:=by omega
   have h2:(k:Int)<16:=by omega
   have PU:Hid (∀ g cap2 w9,w9.ownsRow 0 4 1 (.slice (some ⟨g,0,none⟩) (k+1) cap2) (k+1) ((List.replicate k true).map Value.bool++[.bool true])→(wr.alloc (.cells #[.bool true] 4)).grownBy w9 (Value.slice a k cap).ownBlock→((Value.slice a k cap).ownBlock=some g∨g=wr.heap.size+1)→g<w9.heap.size →
    w9.cell? ⟨w.heap.size,0,none⟩=some (.slice a k cap)∧w9.frozen? ⟨w.heap.size,0,none⟩=false∧Qk (w9.setCell ⟨w.heap.size,0,none⟩ (.slice (some ⟨g,0,none⟩) (k+1) cap2)) w.heap.size (fun x=>w.heap.size≤x∧x<(w9.setCell ⟨w.heap.size,0,none⟩ (.slice (some ⟨g,0,none⟩) (k+1) cap2)).heap.size) (List.replicate (k+1) true)∧Below w.heap.size w (w9.setCell ⟨w.heap.size,0,none⟩ (.slice (some ⟨g,0,none⟩) (k+1) cap2))):=by
    intro g cap2 w9 q1 q2 q3 q4;have hsz:=HB.out.size;have hs9:=q2.size;simp only[World.size_alloc] at hs9
    have:=HA.out.push (a:=a) (cap:=cap) (cap2:=cap2) (g:=g) (o:=.cells #[.bool true] 4) (w9:=w9) c0 (by simpa using q1) (by simpa using q2) (by simpa using q3) q4
    simp only[List.length_replicate] at this
    refine⟨this.1,this.2.1,?_,HB.out.trans (this.2.2.2.below hsz fun k hk=>hk.1)⟩
    rw[List.replicate_succ']
    refine this.2.2.1.mono fun x hx=>?_;rw[World.size_setCell]
    rcases hx with hx | hx<;>omega
   rw[List.length_replicate] at c0 hown
   generalize (List.replicate k true).map Value.bool=cs at hown PU;clear HA HB;go_wp2_with (at_builtin;refine wpList_append_lies _ rfl (.tmp 20) (.tmp 21) 72 rfl 0 4 i0 (.bool false) 1 1 hUnderB hi hz0 hz1 hz2 rfl (by decide) _ _ _ rfl (hown.out.alloc _) ⟨wr.heap.size,0,none⟩ 1 1 [.bool true] rfl rfl (QgV _ [_] _) (QkG _) (by decide) (by unfold maxLen;omega) (by omega) (by simp) (wr.heap.size+1) (by simp) ?_)
   intro g2 cap2 w9 q1 hgrow hat hlt1;obtain⟨c9,f9,r9,b9⟩:=PU.out g2 cap2 w9 q1 hgrow hat hlt1
   have R9:=Qa r9;have B9:=Qa b9;clear q1 hgrow hat hlt1 hown PU r9 b9 c0 f0;go_wp2
   go_roundw
   case rel=>exact⟨k+1,by omega,by go_num,R9.out,B9.out⟩
   case measure=>simp[intOf];omega
  ·have hkM:k=M:=by omega
   have R:Hid (Qk wr w.heap.size (fun x=>w.heap.size≤x∧x<wr.heap.size) (Qcy n)):=by
    show Qk _ _ _ _;rw[E.out,← hkM];exact HA.out
   by_cases h1:(k:Int)<n
   ·have h2:decide ((k:Int)<16)=false:=by simp;omega
    go_wp2
    go_ret;exact⟨rfl,R.out,HB.out⟩
   ·have h2:decide ((k:Int)<n)=false:=by simpa using h1
    go_wp2
    go_ret;exact⟨rfl,R.out,HB.out⟩
theorem Qb5 {w:World}{b:Nat}{O:Nat→Prop}{L:List Bool}(hL:L.length≤100000) (h:Qk w b O L) :
 Calls prog 29 #[.pointer (some ⟨b,0,none⟩)] w fun e w'=>Qce w (hList L) e w':=by
 obtain⟨i0,hi,hz0,hz1,hz2⟩:=pInfoI
 obtain⟨a0,cap0,c0,-,-,hc⟩:=h.cells
 have hbl:=h.lt
 have HC:Hid (∀ i,i<L.length→∃ g,a0=some ⟨g,0,none⟩∧g<w.heap.size∧w.cell? ⟨g,i,none⟩=some (.bool (L.getD i false))):=fun i hi=>by
  obtain⟨g,e,-,c1,-⟩:=hc i hi
  exact⟨g,e,World.block_lt_of_cell? w ⟨g,i,none⟩ c1,c1⟩
 clear h hc;go_enter func29,ntmps29
 go_wp2
 go_loopw [3,4] (fun v u wr=>∃ k cs,u=.int .i64 (k:Nat)∧k≤L.length∧ZS Lay.int 3 wr w.heap.size v (hTo L k) cs∧Below w.heap.size w wr) (fun _ u _=>L.length - (intOf u).toNat)
 case atStart=>exact⟨0,[],rfl,Nat.zero_le _,ZS.nil _ _ _ _,Zr⟩
 case round =>
  obtain⟨k,cs,rfl,hk,hA,hB⟩:=hrel
  obtain⟨a,c,rfl⟩:=hA.formP
  have HA:Hid (ZS Lay.int 3 wr w.heap.size (.slice a (hTo L k).length c) (hTo L k) cs):=hA;have HB:Hid (Below w.heap.size w wr):=hB;have hlen:=QfA L k;have hsz:w.heap.size≤wr.heap.size:=hB.size;have c0':wr.cell? ⟨b,0,none⟩=some (.slice a0 L.length cap0):=(hB.cell (p:=⟨b,0,none⟩) hbl).trans c0;clear hA hB;by_cases hlt:k<L.length
  ·have hlt':(k:Int)<L.length:=by omega
   obtain⟨g,rfl,hgl,c1⟩:=HC.out k hlt
   have c1':wr.cell? ⟨g,k,none⟩=some (.bool (L.getD k false)):=(HB.out.cell (p:=⟨g,k,none⟩) hgl).trans c1;clear c1 c0
   cases hm:L.getD k false with
   | false =>
     have E2:Hid (hTo L (k+1)=hTo L k):=by show _=_;rw[hTo,hm];simp
     rw[hm] at c1'
     clear hm;go_wp2
     go_roundw
     case rel=>exact⟨k+1,cs,by go_num,by omega,by rw[E2.out];exact HA.out,HB.out⟩
     case measure=>simp[intOf];omega
   | true =>
     have E2:Hid (hTo L (k+1)=hTo L k++[(k:Int)]):=by show _=_;rw[hTo,hm];simp
     rw[hm] at c1'
     have hown:Hid (wr.ownsRow w.heap.size 3 1 (.slice a (hTo L k).length c) (hTo L k).length cs):=HA.out.own
     have PU:Hid (∀ g cap w9,w9.ownsRow w.heap.size 3 1 (.slice (some ⟨g,0,none⟩) ((hTo L k).length+1) cap) ((hTo L k).length+1) (cs++[.int .i64 (k:Int)])→(wr.alloc (.cells #[.int .i64 (k:Int)] 3)).grownBy w9 (Value.slice a (hTo L k).length c).ownBlock→((Value.slice a (hTo L k).length c).ownBlock=some g∨g=wr.heap.size+1) →
      ZS Lay.int 3 w9 w.heap.size (.slice (some ⟨g,0,none⟩) ((hTo L k).length+1) cap) (hTo L (k+1)) (cs++[.int .i64 (k:Int)])∧Below w.heap.size w w9):=by
      intro g cap w9 h1 h2 h3;obtain⟨q1,q2⟩:=Qbw HA.out (by omega) hsz h1 h2 h3
      rw[E2.out]
      exact⟨q1,q2 w HB.out⟩
     clear hm HA HB E2;generalize (hTo L k).length=n at hown PU hlen ⊢;go_wp2_with (at_builtin;refine wpList_append_lies _ rfl (.tmp 21) (.tmp 23) 43 rfl w.heap.size 3 i0 (.int .i64 0) 1 8 pUnderI hi hz0 hz1 hz2 rfl (by decide) _ _ _ rfl (hown.out.alloc _) ⟨wr.heap.size,0,none⟩ 1 1 [.int .i64 (k:Int)] rfl rfl (QgV _ [_] _) (Qj0 _) (by decide) (by unfold maxLen;omega) (by omega) (by simp;omega) (wr.heap.size+1) (by simp) ?_)
     intro g2 cap2 w9 h1 hgrow hat hlt1;obtain⟨q1,q2⟩:=PU.out g2 cap2 w9 h1 hgrow hat
     have A9:=Qa q1;have B9:=Qa q2;clear h1 hgrow hat hlt1 hown PU q1 q2;go_wp2
     go_roundw
     case rel=>exact⟨k+1,_,by go_num,by omega,A9.out,B9.out⟩
     case measure=>simp[intOf];omega
  ·have hkL:k=L.length:=by omega
   have Z:Hid (Qce w (hList L) (.returned (.slice a (hTo L k).length c)) wr):=by
    subst hkL;exact⟨a,c,rfl,HA.out.lay,HB.out⟩
   have hlt':¬ (k:Int)<L.length:=by omega
   clear HA HB hlen hkL c0;generalize (hTo L k).length=n at Z;generalize L.length=m at c0' hlt' hlt;go_wp2
   go_ret;exact Z.out
theorem Qfb {w:World}{Q:Nat→Prop}{l:List Int}{a:Option Addr}{N c:Nat}(x:Int) (hN:l.length=N) (hN2:N≤100000) (hl:intsL.In w Q l [.slice a N c]) :
 Calls prog 128 #[.slice a N c,.int .i64 x] w fun e w'=>e=.returned (.bool (inB l x))∧w'=w:=by
 have HX:Hid (∀ i x,l[i]?=some x→∃ g o,a=some ⟨g,o,none⟩∧w.cell? ⟨g,o+i,none⟩=some (.int .i64 x)):=fun i x hi=>by
  obtain⟨g,o,ds,e1,e2,e3,hc,hd,hr⟩:=Lay.list_at hl hi
  have hd':ds=[.int .i64 x]:=hd;subst hd';refine⟨g,o,e1,?_⟩
  have:=hc 0 (by decide)
  simpa[Lay.int] using this
 have HN:Hid (l.length=N):=hN;clear hl hN;go_enter func128,ntmps128
 go_wp2
 go_loop [5] (fun i=>∃ k:Nat,k≤N∧i=.int .i64 k∧inB (l.take k) x=false) (fun i=>N - (intOf i).toNat)
 case atStart=>exact⟨0,Nat.zero_le _,rfl,by simp[inB]⟩
 case round =>
  obtain⟨k,hk,rfl,hno⟩:=hrel
  by_cases hlt:k<N
  ·have hxi:l[k]?=some (l[k]'(by rw[HN.out];exact hlt)):=Zg _;generalize l[k]'(by rw[HN.out];exact hlt)=y at hxi;obtain⟨g,o,rfl,yc⟩:=HX.out k y hxi
   have hlt':(k:Int)<N:=by omega
   by_cases he:y=x
   ·have E:Hid (inB l x=true):=QdF.2 (by rw[← he];exact Zm hxi);have he':(y==x)=true:=by simpa using he
    clear he hno hxi;go_wp2
    go_ret;exact⟨by rw[E.out];rfl,rfl⟩
   ·have he':(y==x)=false:=by simpa using he
    have N1:Hid (inB (l.take (k+1)) x=false):=by
     show _=_;rw[List.take_add_one,hxi,Option.toList_some,QfV,hno]
     simpa using he
    clear he hno hxi;go_wp2
    go_round
    case rel=>exact⟨k+1,by omega,by go_num,N1.out⟩
    case measure=>simp[intOf];omega
  ·have E:Hid (inB l x=false):=by
    rw[List.take_of_length_le (by rw[HN.out];omega)] at hno
    exact hno
   clear hno;go_wp2
   go_ret;exact⟨by rw[E.out];rfl,rfl⟩
theorem Qfp {w:World}{Q R:Nat→Prop}{l:List Int}{a b:Option Addr}{N c d:Nat}(hN:l.length=N) (hN2:N≤100000) (hl:intsL.In w Q l [.slice a N c]) (hm:intsL.In w R l [.slice b N d]) :
 Calls prog 27 #[.slice a N c,.slice b N d] w fun e w'=>e=.returned (.bool true)∧Below w.heap.size w w':=by
 have hX:∀ {Q:Nat→Prop} {a:Option Addr} {c:Nat},intsL.In w Q l [.slice a N c]→∀ i x,l[i]?=some x→∃ g o,a=some ⟨g,o,none⟩∧w.cell? ⟨g,o+i,none⟩=some (.int .i64 x):=fun {Q a c} hl i x hi=>by
  obtain⟨g,o,ds,e1,e2,e3,hc,hd,hr⟩:=Lay.list_at hl hi
  have hd':ds=[.int .i64 x]:=hd;subst hd';refine⟨g,o,e1,?_⟩
  have:=hc 0 (by decide)
  simpa[Lay.int] using this
 have HX:Hid (∀ i x,l[i]?=some x→∃ g o,a=some ⟨g,o,none⟩∧w.cell? ⟨g,o+i,none⟩=some (.int .i64 x)):=hX hl;have HY:Hid (∀ i x,l[i]?=some x→∃ g o,b=some ⟨g,o,none⟩∧w.cell? ⟨g,o+i,none⟩=some (.int .i64 x)):=hX hm;have HN:Hid (l.length=N):=hN;clear hl hm hN hX;go_enter func27,ntmps27
 go_wp2
 go_loopw [5] (fun i wr=>∃ k m:Nat,k≤N∧i=.int .i64 k∧wr=w.drewN m) (fun i _=>N - (intOf i).toNat)
 case atStart=>exact⟨0,0,Nat.zero_le _,rfl,rfl⟩
 case round =>
  obtain⟨k,m,hk,rfl,rfl⟩:=hrel
  by_cases hlt:k<N
  ·have hxi:l[k]?=some (l[k]'(by rw[HN.out];exact hlt)):=Zg _;generalize l[k]'(by rw[HN.out];exact hlt)=y at hxi;obtain⟨g,o,rfl,hg⟩:=HX.out k y hxi
   obtain⟨g',o',rfl,hg'⟩:=HY.out k y hxi
   have hb1:(k:Int)<N:=by omega
   have hb0:(0:Int)≤k:=by omega
   clear hxi;go_wp2_with fail
   go_quiet (fail)
   go_wp2
   go_roundw
   case rel=>exact⟨k+1,_,by omega,by go_num,rfl⟩
   case measure=>simp[intOf];omega
  ·go_wp2
   go_ret;exact⟨rfl,Qf Zr _⟩
theorem QcM {w:World}{Q:Nat→Prop}{l:List Int}{a:Option Addr}{N c:Nat}(h:intsL.In w Q l [.slice a N c]){i:Nat}(hi:i≤l.length) (c':Nat):intsL.In w Q (l.take i) [.slice a i c']:=by
 obtain⟨a',d,e,h1⟩:=h
 simp only[List.cons.injEq,Value.slice.injEq,and_true] at e
 obtain⟨rfl,_,rfl⟩:=e
 refine⟨a,c',by simp[Nat.min_eq_left hi],fun j x hj=>h1 j x ?_⟩
 rw[List.getElem?_take] at hj
 split at hj
 ·exact hj
 ·cases hj
theorem QgD {w:World}{b:Nat}{O:Nat→Prop}{L:List Bool}{Q:Nat→Prop}{l:List Int}{a:Option Addr}{N c:Nat}(hN:l.length=N) (hN2:N≤100000) (hNc:N≤c) (hL:L.length≤100000) (hl:intsL.In w Q l [.slice a N c]) (h:Qk w b O L) :
 Calls prog 135 #[.pointer (some ⟨b,0,none⟩),.slice a N c] w fun e w'=>e=.returned (.int .i64 (hPass L [] l))∧Below w.heap.size w w':=by
 have HX:Hid (∀ i x,l[i]?=some x→∃ g o,a=some ⟨g,o,none⟩∧g<w.heap.size∧w.cell? ⟨g,o+i,none⟩=some (.int .i64 x)):=fun i x hi=>by
  obtain⟨g,o,ds,e1,e2,e3,hc,hd,hr⟩:=Lay.list_at hl hi
  have hd':ds=[.int .i64 x]:=hd;subst hd';refine⟨g,o,e1,e3,?_⟩
  have:=hc 0 (by decide)
  simpa[Lay.int] using this
 have HN:Hid (l.length=N):=hN;have HH:Hid (Qk w b O L):=h;have HI:Hid (intsL.In w Q l [.slice a N c]):=hl;clear h hl hN;go_enter func135,ntmps135
 go_wp2
 go_loopw [5] (fun u wr=>∃ k,u=.int .i64 (k:Nat)∧k≤N∧(Qk wr b O L∧intsL.In wr Q l [.slice a N c]∧Below w.heap.size w wr)∧hPass L [] l=hPass L (l.take k) (l.drop k)) (fun u _=>N - (intOf u).toNat)
 case atStart=>exact⟨0,rfl,Nat.zero_le _,⟨HH.out,HI.out,Zr⟩,rfl⟩
 case round =>
  obtain⟨k,rfl,hk,hA,hp⟩:=hrel
  have HA:Hid (Qk wr b O L∧intsL.In wr Q l [.slice a N c]∧Below w.heap.size w wr):=hA;clear HH HI hA;have HP:Hid (hPass L [] l=hPass L (l.take k) (l.drop k)):=hp;clear hp;by_cases hlt:k<N
  ·have hxi:l[k]?=some (l[k]'(by rw[HN.out];exact hlt)):=Zg _;generalize l[k]'(by rw[HN.out];exact hlt)=x at hxi;obtain⟨g,o,rfl,hg,yc⟩:=HX.out k x hxi
   have yc':wr.cell? ⟨g,o+k,none⟩=some (.int .i64 x):=(HA.out.2.2.cell (p:=⟨g,o+k,none⟩) hg).trans yc;clear yc;have hlt':(k:Int)<N:=by omega
   have hk0:(0:Int)≤k:=by omega
   have hkc:(k:Int)≤c:=by omega
   have PS:=Qdy L l hxi;rw[← HP.out] at PS
   have C:Hid (Calls prog 34 #[.pointer (some ⟨b,0,none⟩),.int .i64 x] wr fun e w'=>e=.returned (.bool (hHas L x))∧w'=wr):=QbU x hL HA.out.1
   cases hh:hHas L x with
   | false =>
     rw[hh] at C PS
     have E:Hid (hPass L [] l=10):=by show _=_;simpa using PS
     clear PS hh hxi;go_wp2_with (go_at_call 34;refine(C.out).mono ?_;rintro e w' ⟨rfl,hw⟩;have hw:=hw.symm;subst hw)
     go_ret;exact⟨by rw[E.out];rfl,HA.out.2.2⟩
   | true =>
     rw[hh] at C PS
     have D:Hid (∀ n,Calls prog 128 #[.slice (some ⟨g,o,none⟩) k c,.int .i64 x] (wr.drewN n) fun e w'=>e=.returned (.bool (inB (l.take k) x))∧w'=wr.drewN n):=fun n =>
      Qfb x (by simp;rw[HN.out];omega) (by omega) (Lay.drewN (QcM HA.out.2.1 (by rw[HN.out];omega) c) n)
     cases hi:inB (l.take k) x with
     | true =>
       rw[hi] at PS D
       have E:Hid (hPass L [] l=13):=by show _=_;simpa using PS
       clear PS hh hxi hi;go_wp2_with (go_at_call 34;refine(C.out).mono ?_;rintro e w' ⟨rfl,hw⟩;have hw:=hw.symm;subst hw)
       go_quiet ((go_at_call 128;exact Calls.quiet_of_same (D.out _)))
       go_wp2
       go_ret;exact⟨by rw[E.out];rfl,Qf HA.out.2.2 _⟩
     | false =>
       rw[hi] at PS D
       have E:Hid (hPass L [] l=hPass L (l.take (k+1)) (l.drop (k+1))):=by show _=_;simpa using PS
       clear PS hh hxi hi HP;go_wp2_with (go_at_call 34;refine(C.out).mono ?_;rintro e w' ⟨rfl,hw⟩;have hw:=hw.symm;subst hw)
       go_quiet ((go_at_call 128;exact Calls.quiet_of_same (D.out _)))
       go_wp2
       go_roundw
       case rel=>exact⟨k+1,by go_num,by omega,⟨HA.out.1,Lay.drewN HA.out.2.1 _,Qf HA.out.2.2 _⟩,E.out⟩
       case measure=>simp[intOf];omega
  ·have hlt':¬ (k:Int)<N:=by omega
   have hkl:l.length≤k:=by rw[HN.out];omega
   have PE:Hid (hPass L [] l=if (hList L).all (fun r=>inB l r) then 0 else 12):=by
    have:=Qeg L l hkl
    rw[← HP.out] at this
    exact this
   clear HP HX hkl;go_wp2_with fail
   refine(Qb5 hL HA.out.1).mono ?_
   rintro e w2 ⟨a2,c2,rfl,i2,b2⟩;have HB:Hid (Below w.heap.size w w2):=HA.out.2.2.trans (b2.mono HA.out.2.2.size);have HI2:Hid (intsL.In w2 Q l [.slice a N c]):=Lay.below HA.out.2.1 b2
   have HX2:Hid (∀ i x,(hList L)[i]?=some x→∃ g o,a2=some ⟨g,o,none⟩∧w2.cell? ⟨g,o+i,none⟩=some (.int .i64 x)):=fun i x hi=>by
    obtain⟨g,o,ds,e1,e2,e3,hc,hd,hr⟩:=Lay.list_at i2 hi
    have hd':ds=[.int .i64 x]:=hd;subst hd';refine⟨g,o,e1,?_⟩
    have:=hc 0 (by decide)
    simpa[Lay.int] using this
   obtain⟨M,hM⟩:∃ M,(hList L).length=M:=⟨_,rfl⟩
   have hM2:M≤100000:=by have:=QbC L;omega
   have HM:Hid ((hList L).length=M):=hM;rw[hM]
   clear b2 i2 HA hM;go_wp2_with fail
   go_loop [7] (fun i=>∃ j:Nat,j≤M∧i=.int .i64 j∧((hList L).take j).all (fun r=>inB l r)=true) (fun i=>M - (intOf i).toNat)
   case atStart=>exact⟨0,Nat.zero_le _,rfl,by simp⟩
   case round =>
    obtain⟨j,hj,rfl,hno⟩:=hrel
    have HO:Hid (((hList L).take j).all (fun r=>inB l r)=true):=hno;clear hno;by_cases hlt2:j<M
    ·have hxi:(hList L)[j]?=some ((hList L)[j]'(by rw[HM.out];exact hlt2)):=Zg _;generalize (hList L)[j]'(by rw[HM.out];exact hlt2)=y at hxi;obtain⟨g,o,rfl,yc⟩:=HX2.out j y hxi
     have hlt2':(j:Int)<M:=by omega
     have D:Hid (Calls prog 128 #[.slice a N c,.int .i64 y] w2 fun e w'=>e=.returned (.bool (inB l y))∧w'=w2):=Qfb y HN.out hN2 HI2.out
     cases hi:inB l y with
     | true =>
       rw[hi] at D
       have N1:Hid (((hList L).take (j+1)).all (fun r=>inB l r)=true):=by
        show _=_;rw[List.take_add_one,hxi,Option.toList_some,List.all_append,HO.out]
        simp[hi]
       clear hi hxi HO;go_wp2_with (go_at_call 128;refine(D.out).mono ?_;rintro e w' ⟨rfl,hw⟩;have hw:=hw.symm;subst hw)
       go_round
       case rel=>exact⟨j+1,by omega,by go_num,N1.out⟩
       case measure=>simp[intOf];omega
     | false =>
       rw[hi] at D
       have E:Hid (hPass L [] l=12):=by
        show _=_
        have hf:(hList L).all (fun r=>inB l r)=false:=by
         rw[Bool.eq_false_iff]
         intro h
         have:=List.all_eq_true.1 h y (Zm hxi)
         rw[hi] at this
         cases this
        rw[PE.out,hf];rfl
       clear hi hxi HO;go_wp2_with (go_at_call 128;refine(D.out).mono ?_;rintro e w' ⟨rfl,hw⟩;have hw:=hw.symm;subst hw)
       go_ret;exact⟨by rw[E.out];rfl,HB.out⟩
    ·have E:Hid (hPass L [] l=0):=by
      show _=_
      have:=HO.out
      rw[List.take_of_length_le (by rw[HM.out];omega)] at this
      rw[PE.out,this];rfl
     have hlt2':¬ (j:Int)<M:=by omega
     clear HO;go_wp2
     go_ret;exact⟨by rw[E.out];rfl,HB.out⟩
def TRw (w:World) (O:Nat→Prop) (v:Value) (L:List (TT 6)):Prop :=
 ∃ xs,w.ownsRow 0 79 3 v L.length xs∧(∀ g,v.ownBlock=some g→O g)∧∀ i x,L[i]?=some x→(Lay.tt 6).In w (fun g=>¬ O g) x ((xs.drop (i*3)).take 3)
def TRd (w:World) (Q:Nat→Prop) (a:Option Addr) (L:List (TT 6)):Prop :=
 ∀ i t,L[i]?=some t→∃ g a' c',a=some ⟨g,0,none⟩∧w.cell? ⟨g,i*3,none⟩=some (.int .i64 t.kind)∧w.cell? ⟨g,i*3+1,none⟩=some (.int .i64 t.r)∧w.cell? ⟨g,i*3+2,none⟩=some (.slice a' t.len c')∧TIn w Q t a'∧t.ok
section
variable {w w':World}{O O':Nat→Prop}{v:Value}{L:List (TT 6)}
theorem TRw.keep (h:TRw w O v L) (hb:∀ k,k<w.heap.size→v.ownBlock=some k∨¬ O k→w'.heap[k]?=w.heap[k]?) (hv:∀ k,v.ownBlock=some k→O' k) (hO:∀ k,¬ O k→k<w.heap.size→¬ O' k):TRw w' O' v L:=by
 obtain⟨xs,⟨h1,h2⟩,h3,h4⟩:=h
 refine⟨xs,⟨h1,?_⟩,hv,fun i x hx=>(Lay.tt 6).keep (fun k hk hl=>hb k hl (.inr hk)) (fun k hk hl=>hO k hk hl) (h4 i x hx)⟩
 rcases h2 with h5 | ⟨g,cap,cur,rfl,hg,hh,r⟩
 ·exact Or.inl h5
 ·exact Or.inr ⟨g,cap,cur,rfl,hg,(hb g (lt_of_block hh) (.inl rfl)).trans hh,r⟩
theorem TRw.lt (h:TRw w O v L){g:Nat}(hg:v.ownBlock=some g):g<w.heap.size:=by
 obtain⟨xs,⟨h1,h2⟩,h3,h4⟩:=h
 rcases h2 with ⟨rfl,_⟩|⟨g',cap,cur,rfl,_,hh,r⟩
 ·simp[Value.ownBlock] at hg
 ·simp[Value.ownBlock] at hg;subst hg;exact lt_of_block hh
theorem TRw.block (h:TRw w O v L){g:Nat}(hg:v.ownBlock=some g):∃ c,w.heap[g]?=some (.cells c 79 (0,0)):=by
 obtain⟨xs,⟨h1,h2⟩,h3,h4⟩:=h
 rcases h2 with ⟨rfl,_⟩|⟨g',cap,cur,rfl,_,hh,r⟩
 ·simp[Value.ownBlock] at hg
 ·simp[Value.ownBlock] at hg;subst hg;exact⟨cur,hh⟩
theorem TRw.form (h:TRw w O v L):∃ a cap,v=.slice a L.length cap∧TRd w (fun g=>¬ O g) a L∧∃ xs,w.ownsRow 0 79 3 (.slice a L.length cap) L.length xs:=by
 obtain⟨xs,h0,h3,h4⟩:=h
 obtain⟨h1,h2⟩:=id h0
 rcases h2 with ⟨rfl,h5⟩|⟨g,cap,cur,rfl,_,hh,hn,hm,hs,ht⟩
 ·have:L=[]:=List.length_eq_zero_iff.1 h5
  subst this;exact⟨none,0,rfl,fun i t hi=>by simp at hi,xs,h0⟩
 ·refine⟨some ⟨g,0,none⟩,cap,rfl,fun i t hi=>?_,xs,h0⟩
  obtain⟨a',c',e,k1,k2⟩:=h4 i t hi
  have hil:i<L.length:=(Zi hi).1
  have hx:∀ j u,j<3→((xs.drop (i*3)).take 3)[j]?=some u→w.cell? ⟨g,i*3+j,none⟩=some u:=fun j u hj hu=>by
   rw[List.getElem?_take,if_pos hj,List.getElem?_drop,← ht,List.getElem?_take,if_pos (by omega),Array.getElem?_toList] at hu
   exact Qb hh _ u hu
  rw[e] at hx
  exact⟨g,a',c',rfl,hx 0 _ (by omega) rfl,hx 1 _ (by omega) rfl,hx 2 _ (by omega) rfl,k1,k2⟩
theorem TRd.below {Q:Nat→Prop}{a:Option Addr}(h:TRd w Q a L) (b:Below w.heap.size w w'):TRd w' Q a L:=fun i t hi=>by
 obtain⟨g,a',c',e,h0,h1,h2,h3,h4⟩:=h i t hi
 have hg:g<w.heap.size:=World.block_lt_of_cell? w ⟨g,i*3,none⟩ h0;exact⟨g,a',c',e,(b.cell (p:=⟨g,i*3,none⟩) hg).trans h0,(b.cell (p:=⟨g,i*3+1,none⟩) hg).trans h1,(b.cell (p:=⟨g,i*3+2,none⟩) hg).trans h2,h3.below b,h4⟩
end
def KAt (w:World) (b:Nat) (O:Nat→Prop) (s:JSt):Prop :=
 ∃ pm cm a1 c1 a2 c2 a3 c3 h vL,w.heap[b]?=some (.cells #[.slice pm s.m.length cm,.int .i64 s.f.regs,.slice a1 s.f.params.length c1,.slice a2 s.f.results.length c2,.slice a3 s.f.blocks.length c3,.pointer (some ⟨h,0,none⟩),vL] 65 (0,0)) ∧
  (Qaq 6).In w (fun g=>¬ O g) s.m [.slice pm s.m.length cm]∧(Zy 6).In w (fun g=>¬ O g) s.f [.int .i64 s.f.regs,.slice a1 s.f.params.length c1,.slice a2 s.f.results.length c2,.slice a3 s.f.blocks.length c3] ∧
  Qk w h O s.H∧TRw w O vL s.L∧O b
section
variable {w w':World}{b:Nat}{O O':Nat→Prop}{s:JSt}
theorem KAt.keep (h:KAt w b O s) (hb:∀ k,k<w.heap.size→w'.heap[k]?=w.heap[k]?) (hO:∀ k,k<w.heap.size→(O k↔O' k)):KAt w' b O' s:=by
 obtain⟨pm,cm,a1,c1,a2,c2,a3,c3,h,vL,k1,k2,k3,k4,k5,k6⟩:=h
 have hbl:=lt_of_block k1
 refine⟨pm,cm,a1,c1,a2,c2,a3,c3,h,vL,(hb b hbl).trans k1,(Qaq 6).keep (fun k _ hl=>hb k hl) (fun k hk hl e=>hk ((hO k hl).2 e)) k2,(Zy 6).keep (fun k _ hl=>hb k hl) (fun k hk hl e=>hk ((hO k hl).2 e)) k3,
  k4.keep (fun g _ hg=>hb g hg) (fun g hg hl=>(hO g hl).1 hg),k5.keep (fun k hk _=>hb k hk) (fun k hk=>?_) (fun k hk hl e=>hk ((hO k hl).2 e)),(hO b hbl).1 k6⟩
 have hl:=k5.lt hk;obtain⟨xs,h1,h2,h3⟩:=k5
 exact(hO k hl).1 (h2 k hk)
theorem KAt.below (h:KAt w b O s) (k:Below w.heap.size w w'):KAt w' b O s:=h.keep (fun g hg=>k.block g hg) (fun _ _=>Iff.rfl)
theorem KAt.drewN (h:KAt w b O s) (n:Nat):KAt (w.drewN n) b O s:=h
theorem KAt.lt (h:KAt w b O s):b<w.heap.size:=by obtain⟨pm,cm,a1,c1,a2,c2,a3,c3,h,vL,k1,k2,k3,k4,k5,k6⟩:=h;exact lt_of_block k1
structure KRd (w:World) (b:Nat) (O:Nat→Prop) (s:JSt) (pm:Option Addr) (cm:Nat) (a1:Option Addr) (c1:Nat) (a2:Option Addr) (c2:Nat) (a3:Option Addr) (c3:Nat) (h:Nat) (aL:Option Addr) (cL:Nat):Prop where
 blk:w.heap[b]?=some (.cells #[.slice pm s.m.length cm,.int .i64 s.f.regs,.slice a1 s.f.params.length c1,.slice a2 s.f.results.length c2,.slice a3 s.f.blocks.length c3,.pointer (some ⟨h,0,none⟩),.slice aL s.L.length cL] 65 (0,0))
 mod:(Qaq 6).In w (fun g=>¬ O g) s.m [.slice pm s.m.length cm]
 fn:(Zy 6).In w (fun g=>¬ O g) s.f [.int .i64 s.f.regs,.slice a1 s.f.params.length c1,.slice a2 s.f.results.length c2,.slice a3 s.f.blocks.length c3]
 holds:Qk w h O s.H
 row:TRd w (fun g=>¬ O g) aL s.L
theorem KAt.read (h:KAt w b O s):∃ pm cm a1 c1 a2 c2 a3 c3 h aL cL,KRd w b O s pm cm a1 c1 a2 c2 a3 c3 h aL cL:=by
 obtain⟨pm,cm,a1,c1,a2,c2,a3,c3,h,vL,k1,k2,k3,k4,k5,k6⟩:=h
 obtain⟨aL,cL,rfl,hr,_⟩:=k5.form
 exact⟨pm,cm,a1,c1,a2,c2,a3,c3,h,aL,cL,k1,k2,k3,k4,hr⟩
theorem KRd.below {pm:Option Addr}{cm:Nat}{a1:Option Addr}{c1:Nat}{a2:Option Addr}{c2:Nat}{a3:Option Addr}{c3:Nat}{h:Nat}{aL:Option Addr}{cL:Nat}(k:KRd w b O s pm cm a1 c1 a2 c2 a3 c3 h aL cL) (e:Below w.heap.size w w'):KRd w' b O s pm cm a1 c1 a2 c2 a3 c3 h aL cL :=
 ⟨(e.block b (lt_of_block k.blk)).trans k.blk,Lay.below k.mod e,Lay.below k.fn e,k.holds.below e,k.row.below e⟩
theorem KRd.cells {pm:Option Addr}{cm:Nat}{a1:Option Addr}{c1:Nat}{a2:Option Addr}{c2:Nat}{a3:Option Addr}{c3:Nat}{h:Nat}{aL:Option Addr}{cL:Nat}(k:KRd w b O s pm cm a1 c1 a2 c2 a3 c3 h aL cL) :
 w.cell? ⟨b,0,none⟩=some (.slice pm s.m.length cm)∧w.cell? ⟨b,1,none⟩=some (.int .i64 s.f.regs)∧w.cell? ⟨b,2,none⟩=some (.slice a1 s.f.params.length c1)∧w.cell? ⟨b,3,none⟩=some (.slice a2 s.f.results.length c2)∧w.cell? ⟨b,4,none⟩=some (.slice a3 s.f.blocks.length c3)∧w.cell? ⟨b,5,none⟩=some (.pointer (some ⟨h,0,none⟩))∧w.cell? ⟨b,6,none⟩=some (.slice aL s.L.length cL) :=
 ⟨Qb k.blk 0 _ rfl,Qb k.blk 1 _ rfl,Qb k.blk 2 _ rfl,Qb k.blk 3 _ rfl,Qb k.blk 4 _ rfl,Qb k.blk 5 _ rfl,Qb k.blk 6 _ rfl⟩
end
theorem Q4 {w:World}{b:Nat}{O:Nat→Prop}{s:JSt}(k kind:Int) (held:Bool) (hH:s.H.length≤16) (hL:s.L.length≤80) (h:KAt w b O s) :
 Calls prog 81 #[.pointer (some ⟨b,0,none⟩),.int .i64 k,.int .i64 kind,.bool held] w fun e w'=>e=.returned (.int .i64 (s.want k kind held))∧∃ n,w'=w.drewN n:=by
 obtain⟨pm,cm,a1,c1,a2,c2,a3,c3,hh,aL,cL,R⟩:=h.read
 obtain⟨-,-,-,-,-,q5,q6⟩:=R.cells
 have HR:Hid (TRd w (fun g=>¬ O g) aL s.L):=R.row;have HO:Hid (Qk w hh O s.H):=R.holds;clear R h;by_cases h0:k<0
 ·have E:Hid (s.want k kind held=1):=by show _=_;unfold JSt.want JSt.at;rw[if_pos h0]
  have h0':decide (k<0)=true:=by simpa using h0
  generalize s.L.length=nl at q6;go_enter func81,ntmps81
  go_wp2
  go_ret;exact⟨by rw[E.out];rfl,0,rfl⟩
 obtain⟨i,rfl⟩:=Int.eq_ofNat_of_zero_le (show 0≤k by omega)
 by_cases h1:i<s.L.length
 ·have hti:s.L[i]?=some s.L[i]:=Zg h1;generalize s.L[i]=t at hti;have ha:s.at (i:Int)=some t:=by unfold JSt.at;rw[if_neg h0];exact hti
  obtain⟨g,a',c',rfl,d0,d1,-,-,-⟩:=HR.out i t hti
  have hlt:(i:Int)<s.L.length:=by omega
  have h0i:¬ (i:Int)<0:=by omega
  have hge:¬ (s.L.length:Int)≤i:=by omega
  generalize hnl:s.L.length=nl at q6 h1 hlt hge;by_cases hk:t.kind=kind
  ·have hk':(t.kind==kind)=true:=by simpa using hk
   cases held with
   | false =>
     have E:Hid (s.want (i:Int) kind false=0):=by show _=_;unfold JSt.want;rw[ha];simp[hk]
     generalize t.kind=tk at d0 hk hk';subst hk;clear hti ha hnl;go_enter func81,ntmps81
     go_wp2_with fail
     go_quiet (fail)
     go_wp2
     go_ret;exact⟨by rw[E.out];rfl,_,rfl⟩
   | true =>
     have C:Hid (∀ n,Calls prog 34 #[.pointer (some ⟨hh,0,none⟩),.int .i64 t.r] (w.drewN n) fun e w'=>e=.returned (.bool (hHas s.H t.r))∧w'=w.drewN n):=fun n=>QbU t.r (by omega) (show Qk (w.drewN n) hh O s.H from HO.out)
     have E:Hid (s.want (i:Int) kind true=if hHas s.H t.r then 0 else 10):=by
      show _=_;unfold JSt.want;rw[ha]
      simp only[hk,if_true,Bool.true_and]
      cases hHas s.H t.r<;>rfl
     generalize t.kind=tk at d0 hk hk';subst hk
     cases hq:hHas s.H t.r with
     | true =>
       rw[hq] at C E
       clear hti ha hnl hq;generalize t.r=tr at d1 C;go_enter func81,ntmps81
       go_wp2_with fail
       go_quiet ((go_at_call 34;exact Calls.quiet_of_same (C.out _)))
       go_wp2
       go_ret;exact⟨by rw[E.out];rfl,_,rfl⟩
     | false =>
       rw[hq] at C E
       clear hti ha hnl hq;generalize t.r=tr at d1 C;go_enter func81,ntmps81
       go_wp2_with fail
       go_quiet ((go_at_call 34;exact Calls.quiet_of_same (C.out _)))
       go_wp2
       go_ret;exact⟨by rw[E.out];rfl,_,rfl⟩
  ·have hk':(t.kind==kind)=false:=by simpa using hk
   have E:Hid (s.want (i:Int) kind held=9):=by show _=_;unfold JSt.want;rw[ha];simp[hk]
   generalize t.kind=tk at d0 hk hk';clear hti ha hnl;go_enter func81,ntmps81
   go_wp2
   go_ret;exact⟨by rw[E.out];rfl,0,rfl⟩
 ·have E:Hid (s.want (i:Int) kind held=1):=by
   show _=_;unfold JSt.want JSt.at;rw[if_neg h0,Int.toNat_natCast,List.getElem?_eq_none (by omega)]
  have hge:(s.L.length:Int)≤i:=by omega
  have h0i:¬ (i:Int)<0:=by omega
  generalize s.L.length=nl at q6 hge h1;go_enter func81,ntmps81
  go_wp2
  go_ret;exact⟨by rw[E.out];rfl,0,rfl⟩
theorem Lay.flat {α:Type}{A:Lay α}{w:World}{O:Nat→Prop}{g o:Nat}{l:List α}{n c:Nat}(h:A.list.In w O l [.slice (some ⟨g,o,none⟩) n c]) (hone:∀ (x:α) (ds:List Value),A.In w O x ds→∀ u∈ds,u.oneCell'=true) :
 ∃ ds:List Value,ds.length=l.length*A.size∧(∀ (j:Nat) (u:Value),ds[j]?=some u→w.cell? ((⟨g,o,none⟩:Addr).add j)=some u)∧(∀ u∈ds,u.oneCell'=true)∧∀ (i:Nat) (x:α),l[i]?=some x→A.In w O x ((ds.drop (i*A.size)).take A.size):=by
 have key:∀ k,k≤l.length→∃ ds:List Value,ds.length=k*A.size∧(∀ (j:Nat) (u:Value),ds[j]?=some u→w.cell? ⟨g,o+j,none⟩=some u)∧(∀ u∈ds,u.oneCell'=true)∧∀ (i:Nat) (x:α),i<k→l[i]?=some x→A.In w O x ((ds.drop (i*A.size)).take A.size):=by
  intro k
  induction k with
  | zero=>exact fun _=>⟨[],by simp,fun j u hj=>by simp at hj,fun u hu=>by simp at hu,fun i x hi=>by omega⟩
  | succ k ih =>
    intro hk;obtain⟨ds,h1,h2,h3,h4⟩:=ih (by omega)
    obtain⟨x,hx⟩:∃ x,l[k]?=some x:=⟨_,Zg (by omega)⟩
    obtain⟨g',o',es,e1,_,_,hc,hd⟩:=Lay.list_at h hx
    injection e1 with e1
    injection e1 with e1 e2
    subst e1;subst e2;have hes:=A.len hd;refine⟨ds++es,by rw[List.length_append,h1,hes,Nat.add_mul];omega,fun j u hj=>?_,fun u hu=>?_,fun i y hi hy=>?_⟩
    ·rw[List.getElem?_append] at hj
     split at hj
     ·exact h2 j u hj
     ·rename_i hlt
      have hjl:j - ds.length<es.length:=(Zi hj).1;have h5:=hc (j - ds.length) (by omega);rw[hj] at h5
      rw[← h5]
      congr 2
      omega
    ·rcases List.mem_append.1 hu with hu | hu
     ·exact h3 u hu
     ·exact hone x es hd u hu
    ·by_cases hik:i=k
     ·subst hik;rw[hx] at hy
      injection hy with hy
      subst hy;rw[List.drop_append,List.drop_of_length_le (by omega),h1,Nat.sub_self,List.drop_zero,List.nil_append,List.take_of_length_le (by omega)]
      exact hd
     ·have hm:(i+1)*A.size≤k*A.size:=Nat.mul_le_mul_right _ (by omega);rw[Nat.add_mul] at hm
      rw[List.drop_append_of_le_length (by omega),List.take_append_of_le_length (by simp;omega)]
      exact h4 i y (by omega) hy
 obtain⟨ds,h1,h2,h3,h4⟩:=key l.length Ze
 exact⟨ds,h1,fun j u hj=>by rw[Go.WideShapes.add_plain];exact h2 j u hj,h3,fun i x hx=>h4 i x (Zi hx).1 hx⟩
theorem Qa0 {α:Type}{P:α→List Value→Prop}{l l2:List α}{xs ds:List Value}{s:Nat}(hxl:xs.length=l.length*s)
 (h3:∀ (i:Nat) (x:α),l[i]?=some x→P x ((xs.drop (i*s)).take s)) (hx:∀ (i:Nat) (x:α),l2[i]?=some x→P x ((ds.drop (i*s)).take s)) :
 ∀ (i:Nat) (x:α),(l++l2)[i]?=some x→P x (((xs++ds).drop (i*s)).take s):=by
 intro i y hy;rw[List.getElem?_append] at hy
 split at hy
 ·rename_i hi
  have hm:(i+1)*s≤l.length*s:=Nat.mul_le_mul_right _ hi;rw[Nat.add_mul] at hm
  rw[List.drop_append_of_le_length (by omega),List.take_append_of_le_length (by simp;omega)]
  exact h3 i y hy
 ·rename_i hi
  have hm:l.length*s≤i*s:=Nat.mul_le_mul_right _ (by omega)
  have:=hx (i - l.length) y hy
  rw[Nat.sub_mul] at this
  rw[List.drop_append,List.drop_of_length_le (by omega),List.nil_append,hxl]
  exact this
theorem Qb2 {w w':World}{e:TypeId}{s g N cap:Nat}{xs:List Value}(h:w.ownsRow 0 e s (.slice (some ⟨g,0,none⟩) N cap) N xs) (hg:w'.heap[g]?=w.heap[g]?):w'.ownsRow 0 e s (.slice (some ⟨g,0,none⟩) N cap) N xs:=by
 obtain⟨h1,h2⟩:=h
 refine⟨h1,?_⟩
 rcases h2 with h4 | ⟨g',cap',cur,e',hg',hh,r⟩
 ·exact .inl h4
 ·injection e' with e1 _ e2
  injection e1 with e1
  injection e1 with e1 _
  subst e1;subst e2;exact .inr ⟨g,cap,cur,rfl,hg',hg.trans hh,r⟩
def TRq (w:World) (O Q:Nat→Prop) (v:Value) (L:List (TT 6)):Prop :=
 ∃ xs,w.ownsRow 0 79 3 v L.length xs∧(∀ g,v.ownBlock=some g→O g)∧∀ i x,L[i]?=some x→(Lay.tt 6).In w Q x ((xs.drop (i*3)).take 3)
section
variable {w w':World}{O O' Q Q':Nat→Prop}{v:Value}{L:List (TT 6)}
theorem TRq.keep (h:TRq w O Q v L) (hb:∀ k,k<w.heap.size→v.ownBlock=some k∨Q k→w'.heap[k]?=w.heap[k]?) (hv:∀ k,v.ownBlock=some k→O' k) (hQ:∀ k,Q k→k<w.heap.size→Q' k):TRq w' O' Q' v L:=by
 obtain⟨xs,⟨h1,h2⟩,h3,h4⟩:=h
 refine⟨xs,⟨h1,?_⟩,hv,fun i x hx=>(Lay.tt 6).keep (fun k hk hl=>hb k hl (.inr hk)) hQ (h4 i x hx)⟩
 rcases h2 with h5 | ⟨g,cap,cur,rfl,hg,hh,r⟩
 ·exact Or.inl h5
 ·exact Or.inr ⟨g,cap,cur,rfl,hg,(hb g (lt_of_block hh) (.inl rfl)).trans hh,r⟩
theorem TRq.own (h:TRq w O Q v L){g:Nat}(hg:v.ownBlock=some g):O g:=by
 obtain⟨xs,h1,h2,h3⟩:=h
 exact h2 g hg
theorem TRq.block (h:TRq w O Q v L){g:Nat}(hg:v.ownBlock=some g):∃ c,w.heap[g]?=some (.cells c 79 (0,0)):=by
 obtain⟨xs,⟨h1,h2⟩,h3,h4⟩:=h
 rcases h2 with ⟨rfl,_⟩|⟨g',cap,cur,rfl,_,hh,r⟩
 ·simp[Value.ownBlock] at hg
 ·simp[Value.ownBlock] at hg;subst hg;exact⟨cur,hh⟩
theorem TRq.lt (h:TRq w O Q v L){g:Nat}(hg:v.ownBlock=some g):g<w.heap.size:=by
 obtain⟨c,hc⟩:=h.block hg
 exact lt_of_block hc
theorem TRq.form (h:TRq w O Q v L):∃ a cap,v=.slice a L.length cap∧L.length≤cap∧TRd w Q a L∧∃ xs,w.ownsRow 0 79 3 (.slice a L.length cap) L.length xs:=by
 obtain⟨xs,h0,h3,h4⟩:=h
 obtain⟨h1,h2⟩:=id h0
 rcases h2 with ⟨rfl,h5⟩|⟨g,cap,cur,rfl,_,hh,hn,hm,hs,ht⟩
 ·have:L=[]:=List.length_eq_zero_iff.1 h5
  subst this;exact⟨none,0,rfl,Ze,fun i t hi=>by simp at hi,xs,h0⟩
 ·refine⟨some ⟨g,0,none⟩,cap,rfl,hn,fun i t hi=>?_,xs,h0⟩
  obtain⟨a',c',e,k1,k2⟩:=h4 i t hi
  have hil:i<L.length:=(Zi hi).1
  have hx:∀ j u,j<3→((xs.drop (i*3)).take 3)[j]?=some u→w.cell? ⟨g,i*3+j,none⟩=some u:=fun j u hj hu=>by
   rw[List.getElem?_take,if_pos hj,List.getElem?_drop,← ht,List.getElem?_take,if_pos (by omega),Array.getElem?_toList] at hu
   exact Qb hh _ u hu
  rw[e] at hx
  exact⟨g,a',c',rfl,hx 0 _ (by omega) rfl,hx 1 _ (by omega) rfl,hx 2 _ (by omega) rfl,k1,k2⟩
theorem TRd.typesL {a:Option Addr}{c:Nat}(h:TRd w Q a L):(Qm 6).In w All L [.slice a L.length c]:=by
 refine⟨a,c,rfl,fun i x hx=>?_⟩
 obtain⟨g,a',c',e,h0,h1,h2,h3,h4⟩:=h i x hx
 refine⟨g,0,[.int .i64 x.kind,.int .i64 x.r,.slice a' x.len c'],e,trivial,World.block_lt_of_cell? w ⟨g,i*3,none⟩ h0,fun j hj=>?_,a',c',rfl,h3.mono (fun _ _ _=>trivial),h4⟩
 have hj:j<3:=hj;show w.cell? ⟨g,0+i*3+j,none⟩=_;rw[Nat.zero_add]
 match j,hj with
 | 0,_=>exact h0
 | 1,_=>exact h1
 | 2,_=>exact h2
 | j+3,h=>exact absurd h (by omega)
end
abbrev Qed (c:Int):List PanicEntry:=[{ v:=.iface 163 (.int .i64 c),recovered:=false }]
def SAt (w:World) (b:Nat) (O A:Nat→Prop) (s:JSt):Prop :=
 ∃ pm cm h a1 c1 a2 c2 a3 c3 vL,w.heap[b]?=some (.cells #[.slice pm s.m.length cm,.pointer (some ⟨h,0,none⟩),.int .i64 s.f.regs,.slice a1 s.f.params.length c1,.slice a2 s.f.results.length c2,.slice a3 s.f.blocks.length c3,vL] 70 (0,0)) ∧
  (Qaq 6).In w (fun g=>¬ A g) s.m [.slice pm s.m.length cm]∧(Zy 6).In w (fun g=>¬ A g) s.f [.int .i64 s.f.regs,.slice a1 s.f.params.length c1,.slice a2 s.f.results.length c2,.slice a3 s.f.blocks.length c3] ∧
  (Qt w h s.H∧O h)∧TRq w O (fun g=>¬ A g) vL s.L∧O b∧∀ k,O k→A k
structure SRd (w:World) (b:Nat) (A:Nat→Prop) (s:JSt) (pm:Option Addr) (cm h:Nat) (a1:Option Addr) (c1:Nat) (a2:Option Addr) (c2:Nat) (a3:Option Addr) (c3:Nat) (aL:Option Addr) (cL:Nat):Prop where
 blk:w.heap[b]?=some (.cells #[.slice pm s.m.length cm,.pointer (some ⟨h,0,none⟩),.int .i64 s.f.regs,.slice a1 s.f.params.length c1,.slice a2 s.f.results.length c2,.slice a3 s.f.blocks.length c3,.slice aL s.L.length cL] 70 (0,0))
 mod:(Qaq 6).In w (fun g=>¬ A g) s.m [.slice pm s.m.length cm]
 fn:(Zy 6).In w (fun g=>¬ A g) s.f [.int .i64 s.f.regs,.slice a1 s.f.params.length c1,.slice a2 s.f.results.length c2,.slice a3 s.f.blocks.length c3]
 held:Qt w h s.H
 row:TRd w (fun g=>¬ A g) aL s.L
 le:s.L.length≤cL
section
variable {w w':World}{b:Nat}{O O' A A':Nat→Prop}{s:JSt}
theorem SAt.keep (h:SAt w b O A s) (hb:∀ k,k<w.heap.size→O k∨¬ A k→w'.heap[k]?=w.heap[k]?) (hO:∀ k,O k→k<w.heap.size→O' k) (hA:∀ k,¬ A k→k<w.heap.size→¬ A' k) (hs:∀ k,O' k→A' k):SAt w' b O' A' s:=by
 obtain⟨pm,cm,hh,a1,c1,a2,c2,a3,c3,vL,k1,k2,k3,⟨k4,k5⟩,k6,k7,k8⟩:=h
 refine⟨pm,cm,hh,a1,c1,a2,c2,a3,c3,vL,(hb b (lt_of_block k1) (.inl k7)).trans k1,(Qaq 6).keep (fun k hk hl=>hb k hl (.inr hk)) hA k2,(Zy 6).keep (fun k hk hl=>hb k hl (.inr hk)) hA k3,
  ⟨k4.keep (hb hh k4.lt (.inl k5)),hO hh k5 k4.lt⟩,k6.keep (fun k hl hk=>hb k hl (hk.imp (fun e=>k6.own e) id)) (fun k hk=>hO k (k6.own hk) (k6.lt hk)) hA,hO b k7 (lt_of_block k1),hs⟩
theorem SAt.below (h:SAt w b O A s) (k:Below w.heap.size w w'):SAt w' b O A s:=by
 have hs:∀ k,O k→A k:=by obtain⟨pm,cm,hh,a1,c1,a2,c2,a3,c3,vL,k1,k2,k3,⟨k4,k5⟩,k6,k7,k8⟩:=h;exact k8
 exact h.keep (fun g hg _=>k.block g hg) (fun _ h _=>h) (fun _ h _=>h) hs
theorem SAt.sub (h:SAt w b O A s):∀ k,O k→A k:=by obtain⟨pm,cm,hh,a1,c1,a2,c2,a3,c3,vL,k1,k2,k3,⟨k4,k5⟩,k6,k7,k8⟩:=h;exact k8
theorem SAt.lt (h:SAt w b O A s):b<w.heap.size:=by obtain⟨pm,cm,hh,a1,c1,a2,c2,a3,c3,vL,k1,k2,k3,⟨k4,k5⟩,k6,k7,k8⟩:=h;exact lt_of_block k1
theorem SAt.read (h:SAt w b O A s):∃ pm cm h a1 c1 a2 c2 a3 c3 aL cL,SRd w b A s pm cm h a1 c1 a2 c2 a3 c3 aL cL:=by
 obtain⟨pm,cm,hh,a1,c1,a2,c2,a3,c3,vL,k1,k2,k3,⟨k4,k5⟩,k6,k7,k8⟩:=h
 obtain⟨aL,cL,rfl,hle,hr,_⟩:=k6.form
 exact⟨pm,cm,hh,a1,c1,a2,c2,a3,c3,aL,cL,k1,k2,k3,k4,hr,hle⟩
variable {pm:Option Addr}{cm h:Nat}{a1:Option Addr}{c1:Nat}{a2:Option Addr}{c2:Nat}{a3:Option Addr}{c3:Nat}{aL:Option Addr}{cL:Nat}
theorem SRd.below (k:SRd w b A s pm cm h a1 c1 a2 c2 a3 c3 aL cL) (e:Below w.heap.size w w'):SRd w' b A s pm cm h a1 c1 a2 c2 a3 c3 aL cL :=
 ⟨(e.block b (lt_of_block k.blk)).trans k.blk,Lay.below k.mod e,Lay.below k.fn e,k.held.below e,k.row.below e,k.le⟩
theorem SRd.cells (k:SRd w b A s pm cm h a1 c1 a2 c2 a3 c3 aL cL) :
 w.cell? ⟨b,0,none⟩=some (.slice pm s.m.length cm)∧w.cell? ⟨b,1,none⟩=some (.pointer (some ⟨h,0,none⟩))∧w.cell? ⟨b,2,none⟩=some (.int .i64 s.f.regs)∧w.cell? ⟨b,3,none⟩=some (.slice a1 s.f.params.length c1)∧w.cell? ⟨b,4,none⟩=some (.slice a2 s.f.results.length c2)∧w.cell? ⟨b,5,none⟩=some (.slice a3 s.f.blocks.length c3)∧w.cell? ⟨b,6,none⟩=some (.slice aL s.L.length cL) :=
 ⟨Qb k.blk 0 _ rfl,Qb k.blk 1 _ rfl,Qb k.blk 2 _ rfl,Qb k.blk 3 _ rfl,Qb k.blk 4 _ rfl,Qb k.blk 5 _ rfl,Qb k.blk 6 _ rfl⟩
end
def STo (wA w:World) (b:Nat) (O A:Nat→Prop) (s:JSt):Prop :=
 ∃ N:Nat→Prop,(∀ k,N k→wA.heap.size≤k∧k<w.heap.size)∧SAt w b (fun k=>O k∨N k) (fun k=>A k∨N k) s∧Zn O (fun k=>O k∨N k) wA w
section
variable {w wA wB:World}{b:Nat}{O A:Nat→Prop}{s s':JSt}
theorem STo.same (h:SAt w b O A s):STo w w b O A s :=
 ⟨fun _=>False,fun _ h=>h.elim,h.keep (fun _ _ _=>rfl) (fun _ h _=>.inl h) (fun _ h _=>by simpa using h) (fun k hk=>hk.imp (h.sub k) id),⟨rfl,rfl,rfl,Ze,fun _ _ _=>rfl,fun k hk=>.inl (by simpa using hk)⟩⟩
theorem STo.after (h:STo wA w b O A s) (hb:Below wB.heap.size wB wA):STo wB w b O A s:=by
 obtain⟨N,h1,h2,h3⟩:=h
 have:=hb.size
 exact⟨N,fun k hk=>⟨Zt hb.size (h1 k hk).1,(h1 k hk).2⟩,h2,⟨h3.os.trans hb.os,h3.tape.trans hb.tape,h3.output.trans hb.output,Zt hb.size h3.size,fun k hk hn=>(h3.block k (by omega) hn).trans (hb.block k hk),fun k hk=>(h3.own k hk).imp id fun e=>Zt hb.size e⟩⟩
theorem STo.below (h:STo wA w b O A s) (hb:Below w.heap.size w wB):STo wA wB b O A s:=by
 obtain⟨N,h1,h2,h3⟩:=h
 have:=hb.size
 exact⟨N,fun k hk=>⟨(h1 k hk).1,by have:=(h1 k hk).2;omega⟩,h2.below hb,⟨hb.os.trans h3.os,hb.tape.trans h3.tape,hb.output.trans h3.output,Zt h3.size hb.size,fun k hk hn=>(hb.block k (by have:=h3.size;omega)).trans (h3.block k hk hn),h3.own⟩⟩
theorem STo.join {N:Nat→Prop}(h1:∀ k,N k→wA.heap.size≤k∧k<w.heap.size) (h3:Zn O (fun k=>O k∨N k) wA w) (g:STo w wB b (fun k=>O k∨N k) (fun k=>A k∨N k) s'):STo wA wB b O A s':=by
 obtain⟨M,g1,g2,g3⟩:=g
 have e1:=h3.size;have e2:=g3.size;refine⟨fun k=>N k∨M k,fun k hk=>?_,?_,?_⟩
 ·rcases hk with hk | hk
  ·have:=h1 k hk;omega
  ·have:=g1 k hk;omega
 ·exact g2.keep (fun _ _ _=>rfl) (fun k hk _=>by simpa[or_assoc] using hk) (fun k hk _=>by simpa[or_assoc,not_or,and_assoc] using hk) (fun k hk=>by have:=g2.sub k (by simpa[or_assoc] using hk);simpa[or_assoc] using this)
 ·refine⟨g3.os.trans h3.os,g3.tape.trans h3.tape,g3.output.trans h3.output,Zt e1 e2,fun k hk hn=>(g3.block k (by omega) (fun e=>?_)).trans (h3.block k hk hn),fun k hk=>?_⟩
  ·rcases e with e | e
   ·exact hn e
   ·have:=h1 k e;omega
  ·rcases hk with hk | hk | hk
   ·exact .inl hk
   ·exact .inr (h1 k hk).1
   ·exact .inr (Zt e1 (g1 k hk).1)
theorem SAt.setH (hA:∀ k,A k→k<w.heap.size) (h:SAt w b O A s):∃ hh,w.cell? ⟨b,1,none⟩=some (.pointer (some ⟨hh,0,none⟩))∧Qt w hh s.H∧∀ w' H',Qt w' hh H'→Zn (fun k=>k=hh) (fun k=>k=hh) w w'→STo w w' b O A { s with H:=H' }:=by
 obtain⟨pm,cm,hh,a1,c1,a2,c2,a3,c3,vL,k1,k2,k3,⟨k4,k5⟩,k6,k7,k8⟩:=h
 refine⟨hh,Qb k1 1 _ rfl,k4,fun w' H' hH st=>?_⟩
 obtain⟨ch,hch⟩:∃ c,w.heap[hh]?=some (.cells c 124 (0,0)):=by
  obtain⟨-,q⟩:=k4
  obtain⟨c,q,-⟩:=q
  exact⟨c,q⟩
 have hbh:b≠hh:=QS k1 hch (by decide);have av:∀ k,¬ A k→k≠hh:=fun k hk e=>hk (by subst e;exact k8 _ k5)
 refine⟨fun _=>False,fun _ h=>h.elim,⟨pm,cm,hh,a1,c1,a2,c2,a3,c3,vL,(st.block b (lt_of_block k1) hbh).trans k1,(Qaq 6).keep (fun k hk hl=>st.block k hl (av k hk)) (fun _ h _=>by simpa using h) k2,(Zy 6).keep (fun k hk hl=>st.block k hl (av k hk)) (fun _ h _=>by simpa using h) k3,
  ⟨hH,.inl k5⟩,k6.keep (fun k hl hk=>st.block k hl ?_) (fun k hk=>.inl (k6.own hk)) (fun _ h _=>by simpa using h),.inl k7,fun k hk=>hk.imp (k8 k) id⟩,⟨st.os,st.tape,st.output,st.size,fun k hk hn=>st.block k hk (fun e=>hn (by subst e;exact k5)),fun k hk=>.inl (by simpa using hk)⟩⟩
 rcases hk with hk | hk
 ·obtain⟨c,hc⟩:=k6.block hk
  exact QS hc hch (by decide)
 ·exact av k hk
theorem SAt.pushL (hA:∀ k,A k→k<wA.heap.size) (h:SAt wA b O A s):∃ aL cL xs,wA.cell? ⟨b,6,none⟩=some (.slice aL s.L.length cL)∧wA.frozen? ⟨b,6,none⟩=false∧s.L.length≤cL∧wA.ownsRow 0 79 3 (.slice aL s.L.length cL) s.L.length xs ∧
 ∀ w9 g cap2 (l:List (TT 6)) ds,ds.length=l.length*3→w9.ownsRow 0 79 3 (.slice (some ⟨g,0,none⟩) (s.L.length+l.length) cap2) (s.L.length+l.length) (xs++ds)→wA.grownBy w9 (Value.slice aL s.L.length cL).ownBlock→((Value.slice aL s.L.length cL).ownBlock=some g∨g=wA.heap.size)→g<w9.heap.size →
  (∀ i x,l[i]?=some x→(Lay.tt 6).In wA (fun g=>¬ A g) x ((ds.drop (i*3)).take 3)) →
  w9.cell? ⟨b,6,none⟩=some (.slice aL s.L.length cL)∧w9.frozen? ⟨b,6,none⟩=false∧STo wA (w9.setCell ⟨b,6,none⟩ (.slice (some ⟨g,0,none⟩) (s.L.length+l.length) cap2)) b O A { s with L:=s.L++l }:=by
 obtain⟨pm,cm,hh,a1,c1,a2,c2,a3,c3,vL,k1,k2,k3,⟨k4,k5⟩,k6,k7,k8⟩:=h
 obtain⟨aL,cL,rfl,hle,-,-⟩:=k6.form
 have hv:∀ {g'},(Value.slice aL s.L.length cL).ownBlock=some g'→O g'∧∃ c,wA.heap[g']?=some (.cells c 79 (0,0)):=fun {g'} hg'=>⟨k6.own hg',k6.block hg'⟩;obtain⟨xs,q1,q2,q3⟩:=k6
 obtain⟨ch,hch⟩:∃ c,wA.heap[hh]?=some (.cells c 124 (0,0)):=by
  obtain⟨-,q⟩:=k4
  obtain⟨c,q,-⟩:=q
  exact⟨c,q⟩
 have hbl:=lt_of_block k1;have hhl:=lt_of_block hch
 have hnb:∀ g',(Value.slice aL s.L.length cL).ownBlock=some g'→b≠g':=fun g' hg'=>by
  obtain⟨c,hc⟩:=(hv hg').2
  exact QS k1 hc (by decide)
 refine⟨aL,cL,xs,Qb k1 6 _ rfl,Qp k1 6,hle,q1,fun w9 g cap2 l ds hdl h1 h2 h3 h4 h5=>?_⟩
 have hsz:=h2.size;have kb:=(h2.block b hbl (fun e=>hnb b e.symm rfl)).trans k1
 have hgb:b≠g:=by
  rcases h3 with h | h
  ·exact hnb g h
  ·omega
 have low:∀ k,¬ A k→k<wA.heap.size→¬ (A k∨(wA.heap.size≤k∧k<w9.heap.size)):=fun k hk hl e=>by rcases e with e | e;exact hk e;omega
 have r4:Zn O (fun x=>O x∨(wA.heap.size≤x∧x<w9.heap.size)) wA (w9.setCell ⟨b,6,none⟩ (.slice (some ⟨g,0,none⟩) (s.L.length+l.length) cap2)):=by
  refine⟨h2.os,h2.tape,h2.output,by simp;omega,fun k hk hn=>?_,fun k hk=>hk.imp id fun h=>h.1⟩
  rw[Below.heap_setCell _ _ _ _ (fun e=>hn (by subst e;exact k7)),h2.block k hk (fun e=>hn (hv e.symm).1)]
 have av:∀ k,¬ A k→k<wA.heap.size→(w9.setCell ⟨b,6,none⟩ (.slice (some ⟨g,0,none⟩) (s.L.length+l.length) cap2)).heap[k]?=wA.heap[k]?:=fun k hk hl=>r4.block k hl (fun e=>hk (k8 k e));refine⟨Qb kb 6 _ rfl,Qp kb 6,fun x=>wA.heap.size≤x∧x<w9.heap.size,fun k hk=>by rw[World.size_setCell];exact hk,⟨pm,cm,hh,a1,c1,a2,c2,a3,c3,.slice (some ⟨g,0,none⟩) (s.L.length+l.length) cap2,?_,(Qaq 6).keep av low k2,(Zy 6).keep av low k3,⟨k4.keep ?_,.inl k5⟩,?_,.inl k7,fun k hk=>hk.imp (k8 k) id⟩,r4⟩
 ·rw[Qo kb];rfl
 ·rw[Below.heap_setCell _ _ _ _ (show hh≠b from QS hch k1 (by decide)),h2.block hh hhl (fun e=>by obtain⟨c',hc'⟩:=(hv e.symm).2;exact QS hch hc' (by decide) rfl)]
 ·refine⟨xs++ds,?_,fun k hk=>?_,?_⟩
  ·rw[List.length_append]
   exact Qb2 h1 (Below.heap_setCell _ _ _ _ (show g≠b from fun e=>hgb e.symm))
  ·simp[Value.ownBlock] at hk
   subst hk;rcases h3 with h | h
   ·exact .inl (hv h).1
   ·exact .inr ⟨by omega,h4⟩
  ·refine Qa0 (s:=3) (P:=fun x cs=>(Lay.tt 6).In _ _ x cs) q1.1 (fun i x hx=>?_) (fun i x hx=>?_)
   ·exact(Lay.tt 6).keep av low (q3 i x hx)
   ·exact(Lay.tt 6).keep av low (h5 i x hx)
theorem SAt.same6 {v:Value}(h:SAt w b O A s) (hv:w.cell? ⟨b,6,none⟩=some v) (k:Nat):(w.setCell ⟨b,6,none⟩ v).heap[k]?=w.heap[k]?:=by
 obtain⟨pm,cm,hh,a1,c1,a2,c2,a3,c3,vL,k1,-⟩:=h
 have e:=(Qb k1 6 _ rfl).symm.trans hv;simp only[Option.some.injEq] at e
 by_cases hk:k=b
 ·subst hk;rw[Qo k1,k1,← e];rfl
 ·exact Below.heap_setCell _ _ _ _ hk
end
def QfU (o:Oper):List Tmp:=o.op.operands.toList.filterMap fun | .tmp t=>some t | _=>none
def Ql (l:List Oper):List Tmp:=l.filterMap (·.dst)
def nodupB:List Tmp→Bool
 | []=>true
 | t::r=>!r.contains t&&nodupB r
def onB (gs:List (Nat × Option Bool)) (o:Oper) (b:Bool):Bool :=
 match o.guard with
 | none=>b
 | some (g,want)=>match gs.lookup g with
   | some c=>b==(c==some want)
   | none=>false
def QjD (gs:List (Nat × Option Bool)):List Oper→List Bool→Bool
 | [],[]=>true
 | o::l,b::bs=>onB gs o b&&QjD gs l bs
 | _,_=>false
def QkS (ops:Array Oper) (ds outs:List Tmp) (o:Oper):Bool :=
 (o.looksAt ops).all fun t=>(outs.contains t&&!ds.contains t)||o.after.any fun e=>Region.binds .any e&&((ops[e.on]?).bind (·.dst)==some t)
def QaO (i:Nat):List Oper→Bool
 | []=>true
 | o::l=>(o.after.all fun e=>!Region.binds .any e||decide (e.on<i))&&QaO (i+1) l
def Qa9 (l:List Oper) (n:Nat) (outs:List Tmp) (gs:List (Nat × Option Bool)) (bs:List Bool):Bool :=
 (gs.all fun g=>((l.toArray[g.1]?).bind (·.dst)).isSome)&&nodupB (Ql l)&&((Ql l).all fun t=>decide (t<n))&&(l.all (QkS l.toArray (Ql l) outs))&&QjD gs l bs&&QaO 0 l
section
variable {P:Program}(E:Tmp→Value→World→Prop) (W:World→Prop) (R:World→World→Prop)
def EO:Option Tmp→Value→World→Prop
 | some t=>E t
 | none=>fun _ _=>True
def Qgx (a:Act) (w:World):List Tmp→Prop
 | []=>True
 | t::r=>E t (a.tmps.getD t undef) w∧Qgx a w r
def Qju (P:Program) (o:Oper):Prop :=
 ∀ a w,W w→Qgx E a w (QfU o)→∀ K:Act→World→Prop,(∀ v w',R w w'→W w'→EO E o.dst v w'→K (a.put o.dst v) w')→o.wp P a w K (fun _ _ _=>False)
def Qhc (o:Oper):Prop:=∀ w,W w→EO E o.dst undef w
def Qc3 (P:Program):List Oper→List Bool→Prop
 | o::l,true::bs=>Qju E W R P o∧Qc3 P l bs
 | o::l,false::bs=>Qhc E W o∧Qc3 P l bs
 | _,_=>True
def Qaz (ops:Array Oper):List (Nat × Option Bool)→Prop
 | []=>True
 | (g,c)::r=>(∀ t,(ops[g]?).bind (·.dst)=some t→∀ v w,W w→E t v w→match c with | some b=>v=.bool b | none=>v=undef)∧Qaz ops r
def Qbr (a:Act) (w:World):List Tmp→Prop
 | []=>True
 | t::r=>E t (a.tmps.getD t undef) w∧Qbr a w r
def Q5 (a:Act) (vs:Tmp→Value):List Tmp→Act
 | []=>a
 | t::r=>Q5 (a.put (some t) (vs t)) vs r
end
theorem wpq {P:Program}{o:Oper}{a:Act}{w:World}{K K':Act→World→Prop}{Q:Exit→Act→World→Prop}(h:∀ a w,K a w→K' a w)
 (hh:o.wp P a w K (fun _ _ _=>False)):o.wp P a w K' Q:=by
 unfold Oper.wp at *;generalize (execOp a.eval o).run P w=r at *
 cases r with
 | ok n w' =>
   cases n<;>simp only[Oper.upon] at hh ⊢ <;>
    first
     | exact h _ _ hh
     | exact Calls.mono hh (fun e w'' he=>by cases e<;>first | exact h _ _ he | exact he.elim | (obtain⟨_,_,he⟩:=he;exact he.elim))
     | exact Rows.mono hh (fun _ _ he=>h _ _ he)
 | halt x w'=>cases x<;>simp only[Oper.upon] at hh ⊢
theorem ZY (vs:Tmp→Value):∀ (ds:List Tmp) (a:Act),(Q5 a vs ds).defers=a.defers
 | [],_=>rfl
 | _::r,a=>by rw[Q5,ZY vs r];rfl
theorem Qac (vs:Tmp→Value):∀ (ds:List Tmp) (a:Act),(Q5 a vs ds).tmps.size=a.tmps.size
 | [],_=>rfl
 | _::r,a=>by rw[Q5,Qac vs r];simp[Act.put]
theorem Qbi (vs:Tmp→Value):∀ (ds:List Tmp) (a:Act) (t:Nat),t<a.tmps.size→(Q5 a vs ds).tmps[t]?=if t∈ds then some (vs t) else a.tmps[t]?
 | [],_,_,_=>by simp[Q5]
 | d::r,a,t,ht=>by
   rw[Q5,Qbi vs r _ t (by simpa[Act.put] using ht)]
   by_cases h1:t∈r
   ·simp[h1]
   ·by_cases h2:d=t
    ·subst h2;simp[h1,Act.put,ht]
    ·have:t≠d:=fun e=>h2 e.symm
     simp[h1,this,Act.put,h2]
theorem nodup_apart:∀ (l:List Oper) (i j:Nat) (oi oj:Oper) (t:Tmp),nodupB (Ql l)=true→l[i]?=some oi→l[j]?=some oj→oi.dst=some t→oj.dst=some t→i=j
 | [],_,_,_,_,_,_,hi,_,_,_=>by simp at hi
 | o::l,i,j,oi,oj,t,h,hi,hj,di,dj=>by
   have hh:∀ {k:Nat} {ok:Oper},l[k]?=some ok→ok.dst=some t→t∈Ql l:=fun {k ok} hk hd=>List.mem_filterMap.2 ⟨ok,Zm hk,hd⟩
   have hn:nodupB (Ql l)=true:=by
    unfold Ql at h ⊢
    cases hd:o.dst with
    | none=>simpa[List.filterMap_cons,hd] using h
    | some d=>simp[hd,nodupB] at h;exact h.2
   have hx:o.dst=some t→t ∉ Ql l:=fun hd=>by
    unfold Ql at h ⊢;simp only[List.filterMap_cons,hd,nodupB,Bool.and_eq_true,Bool.not_eq_true'] at h
    intro hm
    have:=h.1
    simp at this
    simp at hm
    obtain⟨x,hx,he⟩:=hm
    exact this x hx he
   cases i with
   | zero =>
     cases j with
     | zero=>rfl
     | succ j=>simp at hi hj;subst hi;exact absurd (hh hj dj) (hx di)
   | succ i =>
     cases j with
     | zero=>simp at hi hj;subst hj;exact absurd (hh hi di) (hx dj)
     | succ j=>simp at hi hj;rw[nodup_apart l i j oi oj t hn hi hj di dj]
section
variable {P:Program}{E:Tmp→Value→World→Prop}{W:World→Prop}{R:World→World→Prop}
theorem Qd8 {a:Act}{w:World}:∀ (l:List Tmp),(∀ t∈l,E t (a.tmps.getD t undef) w)→Qgx E a w l
 | [],_=>trivial
 | t::r,h=>⟨h t (by simp),Qd8 r fun x hx=>h x (by simp[hx])⟩
theorem Qbj {a:Act}{w:World}:∀ (l:List Tmp),Qbr E a w l→∀ t∈l,E t (a.tmps.getD t undef) w
 | [],_,_,h=>by simp at h
 | x::r,h,t,ht=>by
   rcases List.mem_cons.1 ht with rfl | ht
   ·exact h.1
   ·exact Qbj r h.2 t ht
theorem QeJ {ops:Array Oper}:∀ (gs:List (Nat × Option Bool)),Qaz E W ops gs→∀ g c,gs.lookup g=some c→∀ t,(ops[g]?).bind (·.dst)=some t→∀ v w,W w→E t v w→match c with | some b=>v=.bool b | none=>v=undef
 | [],_,_,_,h=>by simp at h
 | (g',c')::r,h,g,c,hl=>by
   by_cases e:g=g'
   ·subst e;simp at hl;subst hl;exact h.1
   ·have e':(g==g')=false:=by simpa using e
    simp[List.lookup_cons,e'] at hl;exact QeJ r h.2 g c hl
theorem mem_of_lookup:∀ (gs:List (Nat × Option Bool)) (g:Nat) (c:Option Bool),gs.lookup g=some c→(g,c)∈gs
 | [],_,_,h=>by simp at h
 | (g',c')::r,g,c,hl=>by
   by_cases e:g=g'
   ·subst e;simp at hl;subst hl;simp
   ·have e':(g==g')=false:=by simpa using e
    simp[List.lookup_cons,e'] at hl;exact List.mem_cons_of_mem _ (mem_of_lookup r g c hl)
theorem filter_set:∀ (l:List Bool) (i:Nat) (h:i<l.length),l[i]=false→((l.set i true).filter (·==false)).length+1=(l.filter (·==false)).length
 | [],_,h,_=>by simp at h
 | x::l,0,_,h=>by simp at h;subst h;simp
 | x::l,i+1,hi,h=>by
   simp at h hi
   have:=filter_set l i hi h
   cases x<;>simp at this ⊢<;>omega
theorem Qih (gs:List (Nat × Option Bool)):∀ (l:List Oper) (bs:List Bool),QjD gs l bs=true→Qc3 E W R P l bs→∀ (i:Nat) (o:Oper),l[i]?=some o→(onB gs o true=true∧Qju E W R P o)∨(onB gs o false=true∧Qhc E W o)
 | [],_,_,_,_,_,h=>by simp at h
 | _::_,[],h,_,_,_,_=>by simp[QjD] at h
 | x::l,b::bs,h,ha,i,o,ho=>by
   simp only[QjD,Bool.and_eq_true] at h
   cases i with
   | zero =>
     simp at ho;subst ho
     cases b with
     | true=>exact .inl ⟨h.1,ha.1⟩
     | false=>exact .inr ⟨h.1,ha.1⟩
   | succ i =>
     simp at ho
     cases b with
     | true=>exact Qih gs l bs h.2 ha.2 i o ho
     | false=>exact Qih gs l bs h.2 ha.2 i o ho
theorem back_at:∀ (l:List Oper) (k i:Nat) (o:Oper),QaO k l=true→l[i]?=some o→∀ e∈o.after,Region.binds .any e=true→e.on<k+i
 | [],_,_,_,_,h=>by simp at h
 | x::l,k,i,o,h,ho=>by
   simp only[QaO,Bool.and_eq_true] at h
   cases i with
   | zero =>
     simp at ho;subst ho
     intro e he hb
     have:=Array.all_eq_true_iff_forall_mem.1 h.1 e he
     simpa[hb] using this
   | succ i =>
     simp at ho
     intro e he hb
     have:=back_at l (k+1) i o h.2 ho e he hb
     omega
structure Qls (E:Tmp→Value→World→Prop) (W:World→Prop) (l:List Oper) (outs:List Tmp) (a0:Act) (listed:Array Bool) (a:Act) (w:World):Prop where
 world:W w
 defers:a.defers=a0.defers
 size:a.tmps.size=a0.tmps.size
 outer:∀ t,t ∉ Ql l→a.tmps[t]?=a0.tmps[t]?
 outs:∀ t∈outs,t ∉ Ql l→E t (a.tmps.getD t undef) w
 known:∀ j o t,l[j]?=some o→o.dst=some t→listed.getD j false=true→E t (a.tmps.getD t undef) w
theorem Qbk {l:List Oper}{outs:List Tmp}{gs:List (Nat × Option Bool)}{bs:List Bool}{a0:Act}{Q:Exit→Act→World→Prop}
 (hB:Qa9 l a0.tmps.size outs gs bs=true) (hR:∀ t v w w',R w w'→E t v w→E t v w') (hG:Qaz E W l.toArray gs) (hA:Qc3 E W R P l bs)
 (hend:∀ (vs:Tmp→Value) w',W w'→(∀ t,(Ql l).contains t=true→E t (vs t) w')→Q .normal (Q5 a0 vs (Ql l)) w') :
 ∀ (fuel:Nat) (listed:Array Bool) (a:Act) (w:World),listed.size=l.length→(listed.toList.filter (·==false)).length≤fuel→Qls E W l outs a0 listed a w →
  wpAny P .any l.toArray Q fuel listed a w:=by
 simp only[Qa9,Bool.and_eq_true] at hB
 obtain⟨⟨⟨⟨⟨hgd,hnd⟩,hsz⟩,hlk⟩,hon⟩,hbk⟩:=hB
 have fin:∀ (listed:Array Bool) (a:Act) (w:World),listed.size=l.length→Region.ready .any l.toArray listed=[]→Qls E W l outs a0 listed a w→Q .normal a w:=by
  intro listed a w hs hr hc
  have hall:∀ j,j<l.length→listed.getD j false=true:=by
   intro j
   induction j using Nat.strongRecOn with
   | _ j ih =>
     intro hj
     cases hb:listed.getD j false with
     | true=>rfl
     | false =>
       exfalso
       have:j∈Region.ready .any l.toArray listed:=by
        unfold Region.ready;refine List.mem_filter.2 ⟨by simpa using hj,?_⟩
        have e1:listed.getD j true=false:=by
         have hj':j<listed.size:=by omega
         simp[Array.getD,hj'] at hb ⊢;exact hb
        have e2:l.toArray[j]?=some l[j]:=by simp[hj]
        rw[e1,e2]
        simp only[Bool.not_false,Bool.true_and,Option.map_some,Option.getD_some]
        rw[Array.all_eq_true_iff_forall_mem]
        intro e he
        cases hbd:Region.binds .any e with
        | false=>rfl
        | true =>
          have:=back_at l 0 j l[j] hbk (by simp[hj]) e he hbd
          simp only[Bool.not_true,Bool.false_or]
          exact ih e.on (by omega) (by omega)
       rw[hr] at this
       cases this
  have hmem:∀ t∈Ql l,E t (a.tmps.getD t undef) w∧t<a0.tmps.size:=by
   intro t ht;obtain⟨o,ho,hd⟩:=List.mem_filterMap.1 ht
   obtain⟨j,hj⟩:=List.getElem?_of_mem ho
   have hlt:j<l.length:=by
    rcases Nat.lt_or_ge j l.length with h | h
    ·exact h
    ·rw[List.getElem?_eq_none h] at hj;cases hj
   exact⟨hc.known j o t hj hd (hall j hlt),by simpa using List.all_eq_true.1 hsz t ht⟩
  have he:a=Q5 a0 (fun t=>a.tmps.getD t undef) (Ql l):=by
   have e1:a.tmps=(Q5 a0 (fun t=>a.tmps.getD t undef) (Ql l)).tmps:=by
    refine Array.ext (by rw[Qac,hc.size]) fun t h1 h2=>?_;have h3:t<a0.tmps.size:=by rw[← hc.size];exact h1
    have:=Qbi (fun t=>a.tmps.getD t undef) (Ql l) a0 t h3
    rw[Array.getElem?_eq_getElem h2] at this
    by_cases hm:t∈Ql l
    ·rw[if_pos hm] at this
     simp only[Option.some.injEq] at this
     rw[this];simp[Array.getD,h1]
    ·rw[if_neg hm,← hc.outer t hm,Array.getElem?_eq_getElem h1] at this
     exact(Option.some.inj this).symm
   have e2:a.defers=(Q5 a0 (fun t=>a.tmps.getD t undef) (Ql l)).defers:=by rw[ZY,hc.defers]
   cases a with
   | mk t d =>
     simp only at e1 e2
     generalize hp:Q5 a0 (fun x=>t.getD x undef) (Ql l)=p at e1 e2 ⊢
     cases p;simp only at e1 e2;rw[e1,e2]
  rw[he]
  exact hend _ _ hc.world fun t ht=>(hmem t (by simpa using ht)).1
 intro fuel
 induction fuel with
 | zero =>
   intro listed a w hs hf hc
   have hr:Region.ready .any l.toArray listed=[]:=by
    rw[List.eq_nil_iff_forall_not_mem]
    intro i hi;obtain⟨h1,h2⟩:=List.mem_filter.1 hi
    have hlt:i<l.length:=by simpa using h1
    simp only[Bool.and_eq_true,Bool.not_eq_true'] at h2
    have:listed[i]'(by omega)=false:=by
     have:=h2.1;simp[Array.getD,show i<listed.size by omega] at this;exact this
    have hm:false∈listed.toList.filter (·==false):=List.mem_filter.2 ⟨by rw[← this];simp,by simp⟩
    have:=List.length_pos_of_mem hm
    omega
   exact⟨hr,fin listed a w hs hr hc⟩
 | succ fuel ih =>
   intro listed a w hs hf hc;refine⟨fun hr=>fin listed a w hs hr hc,fun i hi=>?_⟩
   obtain⟨h1,h2⟩:=List.mem_filter.1 hi
   have hlt:i<l.length:=by simpa using h1
   simp only[Bool.and_eq_true,Bool.not_eq_true'] at h2
   obtain⟨hun,hdone⟩:=h2
   have hil:i<listed.size:=by omega
   have hun':listed[i]=false:=by simp[Array.getD,hil] at hun;exact hun
   have ho:l.toArray[i]?=some l[i]:=by simp[hlt]
   have ho':l[i]?=some l[i]:=by simp[hlt]
   generalize hoo:l[i]=o at ho ho';rw[ho] at hdone
   simp only[Option.map_some,Option.getD_some] at hdone
   rw[Array.all_eq_true_iff_forall_mem] at hdone
   have hlooks:∀ t∈o.looksAt l.toArray,E t (a.tmps.getD t undef) w:=by
    intro t ht
    have:=List.all_eq_true.1 (List.all_eq_true.1 hlk o (Zm ho')) t ht
    rw[Bool.or_eq_true] at this
    rcases this with h | h
    ·simp only[Bool.and_eq_true,Bool.not_eq_true'] at h
     exact hc.outs t (by simpa using h.1) (by simpa using h.2)
    ·obtain⟨k,hk,h⟩:=Array.any_eq_true.1 h
     simp only[Bool.and_eq_true,beq_iff_eq] at h
     obtain⟨hb,hd⟩:=h
     have hl:=hdone _ (Array.getElem_mem hk);rw[hb] at hl
     simp only[Bool.not_true,Bool.false_or] at hl
     generalize o.after[k]=e at *;obtain⟨oj,hoj,hdj⟩:=Option.bind_eq_some_iff.1 hd
     exact hc.known e.on oj t (by simpa using hoj) hdj hl
   have hkn:Qgx E a w (QfU o):=Qd8 _ fun t ht=>hlooks t (by
    unfold Oper.looksAt;exact List.mem_append_left _ ht)
   have hw:∀ b,onB gs o b=true→Region.wanted o (yielded l.toArray a.tmps)=b:=by
    intro b hb;unfold onB at hb;unfold Region.wanted
    cases hg:o.guard with
    | none=>rw[hg] at hb;simp only at hb ⊢;exact hb.symm
    | some gw =>
      obtain⟨g,want⟩:=gw
      rw[hg] at hb
      simp only at hb ⊢
      cases hl:gs.lookup g with
      | none=>rw[hl] at hb;cases hb
      | some c =>
        rw[hl] at hb
        simp only[beq_iff_eq] at hb
        have hy:yielded l.toArray a.tmps g=c:=by
         unfold yielded;have hmg:(g,c)∈gs:=mem_of_lookup gs g c hl;have hsome:=List.all_eq_true.1 hgd _ hmg
         cases hd:(l.toArray[g]?).bind (·.dst) with
         | none=>rw[hd] at hsome;cases hsome
         | some t =>
           have hE:=hlooks t (by unfold Oper.looksAt;rw[hg];simp only[hd];simp);have hv:=QeJ gs hG g c hl t hd _ _ hc.world hE;obtain⟨og,hog,hdg⟩:=Option.bind_eq_some_iff.1 hd
           have htl:t<a.tmps.size:=by
            rw[hc.size]
            have:=List.all_eq_true.1 hsz t (List.mem_filterMap.2 ⟨og,Zm (by simpa using hog),hdg⟩)
            simpa using this
           have ht:a.tmps[t]?=some (a.tmps.getD t undef):=by simp[Array.getD,htl]
           simp only[Option.bind_some,ht]
           cases c with
           | none=>simp only at hv;rw[hv];rfl
           | some b=>simp only at hv;rw[hv]
        rw[hy,hb]
   have hlen:((listed.setIfInBounds i true).toList.filter (·==false)).length≤fuel:=by
    have h3:=filter_set listed.toList i (by simpa using hil) (by simpa using hun');rw[Array.toList_setIfInBounds]
    omega
   have next:∀ v w',W w'→(∀ t v,E t v w→E t v w')→EO E o.dst v w'→Qls E W l outs a0 (listed.setIfInBounds i true) (a.put o.dst v) w':=by
    intro v w' hw' hst hv
    have hput:∀ t,o.dst≠some t→(a.put o.dst v).tmps[t]?=a.tmps[t]?:=by
     intro t ht
     cases hd:o.dst with
     | none=>rfl
     | some d =>
       have:d≠t:=fun e=>ht (by rw[hd,e])
       simp[Act.put,this]
    have hgetD:∀ (b c:Array Value) (t:Nat),b[t]?=c[t]?→b.getD t undef=c.getD t undef:=by
     intro b c t h;rw[Za,Za,h]
    refine⟨hw',?_,?_,?_,?_,?_⟩
    ·rw[← hc.defers];cases o.dst<;>rfl
    ·rw[← hc.size];cases o.dst<;>simp[Act.put]
    ·intro t ht;rw[hput t (fun e=>ht (List.mem_filterMap.2 ⟨o,Zm ho',e⟩)),hc.outer t ht]
    ·intro t ht hn;rw[hgetD _ _ t (hput t (fun e=>hn (List.mem_filterMap.2 ⟨o,Zm ho',e⟩)))]
     exact hst _ _ (hc.outs t ht hn)
    ·intro j oj t hj hd hlj;by_cases hji:j=i
     ·subst hji;rw[ho'] at hj
      obtain rfl:=Option.some.inj hj
      have htl:t<a.tmps.size:=by
       rw[hc.size]
       have:=List.all_eq_true.1 hsz t (List.mem_filterMap.2 ⟨o,Zm ho',hd⟩)
       simpa using this
      rw[hd] at hv ⊢
      have:(a.put (some t) v).tmps.getD t undef=v:=by simp[Act.put,Array.getD,htl]
      rw[this];exact hv
     ·have hne:o.dst≠some t:=fun e=>hji (nodup_apart l j i oj o t hnd hj ho' hd e);rw[hgetD _ _ t (hput t hne)]
      refine hst _ _ (hc.known j oj t hj hd ?_);have hne':i≠j:=fun e=>hji e.symm;rw[Za,Array.getElem?_setIfInBounds_ne hne'] at hlj
      rw[Za];exact hlj
   unfold wpOp;rw[ho]
   simp only
   rcases Qih gs l bs hon hA i o ho' with ⟨h,hst⟩|⟨h,hst⟩
   ·rw[hw true h,if_pos rfl]
    refine .inl (wpq (fun a' w' hh=>hh) (hst a w hc.world hkn _ fun v w' hr hw' hv=>?_));exact ih _ _ _ (by simpa using hs) hlen (next v w' hw' (fun t v he=>hR t v w w' hr he) hv)
   ·rw[hw false h]
    simp only[Bool.false_eq_true,if_false]
    exact ih _ _ _ (by simpa using hs) hlen (next undef w hc.world (fun _ _ h=>h) (hst w hc.world))
theorem Qca {l:List Oper}{n m:Nat}{outs:List Tmp}{gs:List (Nat × Option Bool)}{bs:List Bool}(h:n≤m) (hB:Qa9 l n outs gs bs=true):Qa9 l m outs gs bs=true:=by
 simp only[Qa9,Bool.and_eq_true] at hB ⊢
 obtain⟨⟨⟨⟨⟨h1,h2⟩,h3⟩,h4⟩,h5⟩,h6⟩:=hB
 refine⟨⟨⟨⟨⟨h1,h2⟩,?_⟩,h4⟩,h5⟩,h6⟩
 rw[List.all_eq_true] at h3 ⊢
 intro t ht;have h7:t<n:=by simpa using h3 t ht
 have h8:t<m:=Zl h7 h;simpa using h8
theorem Qw {id:Nat}{l:List Oper}{outs:List Tmp}{gs:List (Nat × Option Bool)}{bs:List Bool}{a:Act}{w:World}{Q:Exit→Act→World→Prop}
 (E:Tmp→Value→World→Prop) (W:World→Prop) (R:World→World→Prop)
 (hm:P.follows .mixedOrders=true) {n m:Nat} (hn:a.tmps.size=m) (hnm:n≤m) (hB:Qa9 l n outs gs bs=true)
 (hR:∀ t v w w',R w w'→E t v w→E t v w') (hG:Qaz E W l.toArray gs) (hW:W w.drew) (hO:Qbr E a w.drew outs)
 (hA:Qc3 E W R P l bs)
 (hend:∀ (vs:Tmp→Value) w',W w'→(∀ t,(Ql l).contains t=true→E t (vs t) w')→Q .normal (Q5 a vs (Ql l)) w') :
 (Code.region id l.toArray true).wp P Q a w:=by
 refine wp_region_any hm ?_;refine Qbk (Qca (hn ▸ hnm) hB) hR hG hA hend _ _ _ _ (by simp) ?_ ⟨hW,rfl,rfl,fun _ _=>rfl,fun t ht _=>Qbj outs hO t ht,?_⟩
 ·simp only[Array.toList_replicate]
  exact Zt (List.length_filter_le _ _) (by simp)
 ·intro j o t hj hd hl;simp[Array.getD] at hl
end
structure Fr (n:Nat) (a:Act) (L:List (Tmp × Value)):Prop where
 size:a.tmps.size=n
 defers:a.defers=[]
 sl:∀ t v,L.lookup t=some v→a.tmps.getD t undef=v
section
variable {P:Program}{n:Nat}{a:Act}{L:List (Tmp × Value)}{w w':World}{Q:Exit→Act→World→Prop}{ops:Array Oper}{o:Oper}{rest:List Oper}{t:Tmp}{v:Value}
theorem Fr.put (h:Fr n a L) (ht:Nat.blt t n=true):Fr n (a.put (some t) v) ((t,v)::L):=by
 have ht':t<n:=by simpa[Nat.blt,Nat.ble_eq,Nat.succ_le_iff] using ht
 refine⟨by simpa[Act.put] using h.size,h.defers,fun s u hs=>?_⟩
 by_cases e:s=t
 ·subst e;simp at hs
  subst hs
  have:s<a.tmps.size:=by rw[h.size];exact ht'
  simp[Act.put,Array.getD,this]
 ·have e':(s==t)=false:=by simpa using e
  simp only[List.lookup_cons,e'] at hs
  have:=h.sl s u hs
  have hne:t≠s:=fun x=>e x.symm;rw[Za] at this ⊢
  simp only[Act.put]
  rw[Array.getElem?_setIfInBounds_ne hne]
  exact this
theorem Fr.cons (h:Fr n a L) (e:a.tmps.getD t undef=v):Fr n a ((t,v)::L):=by
 refine⟨h.size,h.defers,fun s u hs=>?_⟩
 by_cases e':s=t
 ·subst e';simp at hs
  subst hs;exact e
 ·have e'':(s==t)=false:=by simpa using e'
  simp only[List.lookup_cons,e''] at hs
  exact h.sl s u hs
theorem Fr.nil (h:Fr n a L):Fr n a []:=⟨h.size,h.defers,fun s u hs=>by simp at hs⟩
theorem Fr.keep {L':List (Tmp × Value)}(h:Fr n a L) (k:Fr n a L') (e:L.lookup t=some v):Fr n a ((t,v)::L'):=k.cons (h.sl t v e)
theorem Zv {id:Nat}{l:List Oper}(h:∀ ops:Array Oper,(∀ g:Nat,(ops[g]?).bind (fun o:Oper=>o.dst)=(l[g]?).bind (fun o:Oper=>o.dst))→wpList P ops Q l a w):(Code.region id l.toArray false).wp P Q a w :=
 wp_region_lit (h _ fun g=>by simp)
theorem Q7 (hF:Fr n a L) (hd:o.dst=some t) (hg:o.guard=none) (ht:Nat.blt t n=true)
 (h:∀ K:Act→World→Prop,K (a.put (some t) v) w'→o.wp P a w K Q)
 (k:∀ a',Fr n a' ((t,v)::L)→wpList P ops Q rest a' w'):wpList P ops Q (o::rest) a w :=
 wpList_plain hg fun K hK=>h K (hK _ _ (k _ (hF.put ht)))
theorem QdH (hF:Fr n a L) (hd:o.dst=none) (hg:o.guard=none)
 (h:∀ K:Act→World→Prop,K a w'→o.wp P a w K Q)
 (k:wpList P ops Q rest a w'):wpList P ops Q (o::rest) a w :=
 wpList_plain hg fun K hK=>h K (hK _ _ k)
theorem Qga {g tg:Nat}{want:Bool}{u:Value}(hF:Fr n a L) (hg:o.guard=some (g,want)) (hs:(ops[g]?).bind (fun o:Oper=>o.dst)=some tg) (htg:Nat.blt tg n=true) (hv:L.lookup tg=some u) :
 Region.wanted o (yielded ops a.tmps)=(match u with | .bool b=>b==want | _=>false):=by
 have htg':tg<a.tmps.size:=by rw[hF.size];simpa[Nat.blt,Nat.ble_eq,Nat.succ_le_iff] using htg
 have:=hF.sl tg u hv
 have hx:a.tmps[tg]?=some u:=by rw[← this];simp[Array.getD,htg']
 simp only[Region.wanted,hg,yielded,hs,Option.bind_some,hx]
 cases u<;>simp
theorem Qkp {g tg:Nat}{want:Bool}{u:Value}(hF:Fr n a L) (hd:o.dst=some t) (hg:o.guard=some (g,want)) (hs:(ops[g]?).bind (fun o:Oper=>o.dst)=some tg) (htg:Nat.blt tg n=true) (hv:L.lookup tg=some u) (hu:(match u with | .bool b=>b==want | _=>false)=false) (ht:Nat.blt t n=true)
 (k:∀ a',Fr n a' ((t,undef)::L)→wpList P ops Q rest a' w):wpList P ops Q (o::rest) a w :=
 wpList_step fun K hK=>by
  rw[Qga hF hg hs htg hv,hu]
  simp only[Bool.false_eq_true,if_false,hd]
  exact hK _ _ (k _ (hF.put ht))
theorem QE {x y:Code}{b:Bool}(hF:Fr n a L) (hv:L.lookup t=some (.bool b)) (ht:b=true→x.wp P Q a w) (hf:b=false→y.wp P Q a w):(Code.cond (.tmp t) x y).wp P Q a w :=
 wp_cond_split (hF.sl t _ hv) ht hf
theorem QaW {x y:Code}(hF:Fr n a L) (hv:L.lookup t=some (.bool true)) (h:x.wp P Q a w):(Code.cond (.tmp t) x y).wp P Q a w:=wp_cond_true (hF.sl t _ hv) h
theorem Qf7 {x y:Code}(hF:Fr n a L) (hv:L.lookup t=some (.bool false)) (h:y.wp P Q a w):(Code.cond (.tmp t) x y).wp P Q a w:=wp_cond_false (hF.sl t _ hv) h
theorem Qd5 {l1 l2:List Oper}(h:wpList P ops (Exit.then (fun a w=>wpList P ops Q l2 a w) Q) l1 a w):wpList P ops Q (l1++l2) a w:=by
 induction l1 generalizing a w with
 | nil=>exact h
 | cons o l ih =>
   simp only[List.cons_append]
   unfold wpList at h ⊢;split
   ·rename_i hw
    rw[if_pos hw] at h
    refine h.imp (fun h=>Oper.wp_mono (fun a w h'=>ih h') ?_) id;unfold Oper.wp at *;generalize (execOp a.eval o).run P w=r at *
    cases r with
    | ok n w'=>cases n<;>exact h
    | halt x w'=>cases x<;>exact h
   ·rename_i hw
    rw[if_neg hw] at h
    exact ih h
theorem Qfv {l:List Oper}(k:Nat) (Φ:Act→World→Prop) (h1:∀ K:Act→World→Prop,(∀ a w,Φ a w→K a w)→wpList P ops (Exit.then K Q) (l.take k) a w) (h2:∀ a w,Φ a w→wpList P ops Q (l.drop k) a w):wpList P ops Q l a w:=by
 have:=Qd5 (l1:=l.take k) (l2:=l.drop k) (h1 _ h2)
 rwa [List.take_append_drop] at this
theorem Qd {K:Act→World→Prop}(h:Q .ret a w):Exit.then K Q .ret a w:=h
theorem Qc {id:Nat}(h:Q .ret a w):Exit.inBlock id Q .ret a w:=h
open Classical in
theorem Qay {c:Code}(I:Nat→Act→World→Prop) (q:Nat) (h0:I q a w)
 (round:∀ q a w,I q a w→∀ K:Act→World→Prop,(∀ a' w' q',q'<q→I q' a' w'→K a' w')→c.wp P (Exit.then K Q) a w):(Code.loop c).wp P Q a w:=by
 have hex:∀ {a w},(∃ q,I q a w)→∃ q,I q a w∧∀ r,I r a w→q≤r:=by
  rintro a w ⟨q,hq⟩
  induction q using Nat.strongRecOn with
  | _ q ih =>
    by_cases hl:∃ r,r<q∧I r a w
    ·obtain⟨r,hr,hi⟩:=hl
     exact ih r hr hi
    ·exact⟨q,hq,fun r hr=>Nat.le_of_not_lt fun h=>hl ⟨r,h,hr⟩⟩
 refine wp_loop (fun a w=>∃ q,I q a w) (fun a w=>if h:∃ q,I q a w then Classical.choose (hex h) else 0) ⟨q,h0⟩ fun a w hI=>?_;have hs:=Classical.choose_spec (hex hI);refine round _ a w hs.1 _ fun a' w' q' hq' hI'=>⟨⟨q',hI'⟩,?_⟩;have h':∃ q,I q a' w':=⟨q',hI'⟩;have hs':=Classical.choose_spec (hex h');rw[dif_pos h',dif_pos hI]
 exact Nat.lt_of_le_of_lt (hs'.2 q' hI') hq'
theorem QC {f:FuncId}{fn:Func}{c:Code}{args:Array Value}{R:Ending→World→Prop}(hf:P.funcs[f]?=some fn) (hb:fn.body=some c) (hn:fn.ntmps=n) (ha:Nat.ble args.size n=true)
 (h:∀ a,Fr n a (args.toList.zipIdx.map fun x=>(x.2,x.1))→c.wp P (bodyPost P fn R) a w):Calls P f args w R:=by
 have ha':args.size≤n:=by simpa[Nat.ble_eq] using ha
 refine calls_of_wp hf hb (h _ ⟨by simp[hn];omega,rfl,fun t v hl=>?_⟩)
 have:∀ (l:List Value) (k t:Nat),((l.zipIdx k).map fun x=>(x.2,x.1)).lookup t=some v→k≤t∧l[t - k]?=some v:=by
  intro l
  induction l with
  | nil=>intro k t h;simp at h
  | cons x l ih =>
    intro k t h;by_cases e:t=k
    ·subst e;simp at h;subst h;simp
    ·have e':(t==k)=false:=by simpa using e
     simp only[List.zipIdx_cons,List.map_cons,List.lookup_cons,e'] at h
     obtain⟨h1,h2⟩:=ih (k+1) t h
     refine⟨by omega,?_⟩
     have:t - k=(t - (k+1))+1:=by omega
     rw[this]
     simpa using h2
 obtain⟨_,h2⟩:=this _ 0 t hl
 simp at h2
 have hlt:t<args.size:=(Array.getElem?_eq_some_iff.1 h2).1;rw[Za,Array.getElem?_append_left hlt,h2]
 rfl
end
section
variable {P:Program}{Q:Exit→Act→World→Prop}
theorem Qff {o:Oper}{a:Act}{w:World}{K N:Act→World→Prop}(h:o.wp P a w K (Exit.then N Q)):o.wp P a w K Q:=by
 unfold Oper.wp at *;generalize (execOp a.eval o).run P w=r at *
 cases r with
 | ok n w'=>cases n<;>exact h
 | halt x w'=>cases x<;>exact h
def QkY (k:Nat) (o:Oper):Bool:=(List.range k).all fun j=>o.after.any fun e=>Region.binds .any e&&e.on==j
def QeK (k:Nat):List Oper→Bool
 | []=>true
 | o::l=>QkY k o&&QeK (k+1) l
def QaJ (n:Nat) (l:List Oper):Bool:=l.all fun o=>match o.guard with | some (g,_)=>decide (g<n) | none=>true
theorem tail_at:∀ (l:List Oper) (k i:Nat) (o:Oper),QeK k l=true→l[i]?=some o→∀ j,j<k+i→∃ e∈o.after,Region.binds .any e=true∧e.on=j
 | [],_,_,_,_,h=>by simp at h
 | x::l,k,0,o,h,ho=>by
   simp at ho;subst ho
   simp only[QeK,Bool.and_eq_true] at h
   intro j hj
   have:=List.all_eq_true.1 h.1 j (by simpa using hj)
   obtain⟨q,hq,he⟩:=Array.any_eq_true.1 this
   simp only[Bool.and_eq_true,beq_iff_eq] at he
   exact⟨_,Array.getElem_mem hq,he.1,he.2⟩
 | x::l,k,i+1,o,h,ho=>by
   simp only[QeK,Bool.and_eq_true] at h
   simp at ho
   intro j hj;exact tail_at l (k+1) i o h.2 ho j (by omega)
theorem Qv {ops:Array Oper}{listed:Array Bool}{i:Nat}:i∈Region.ready .any ops listed↔i<ops.size∧listed.getD i true=false∧∃ o,ops[i]?=some o∧∀ e∈o.after,Region.binds .any e=true→listed.getD e.on false=true:=by
 unfold Region.ready;rw[List.mem_filter]
 simp only[List.mem_range,Bool.and_eq_true,Bool.not_eq_true']
 refine and_congr_right fun h1=>and_congr_right fun h2=>?_;rw[Array.getElem?_eq_getElem h1]
 simp only[Option.map_some,Option.getD_some,Option.some.injEq,exists_eq_left']
 rw[Array.all_eq_true_iff_forall_mem]
 refine forall_congr' fun e=>forall_congr' fun he=>?_
 cases Region.binds .any e<;>simp
theorem Qiu {l:List Oper}(hb:QaO 0 l=true){k0:Nat}(ht:QeK k0 (l.drop k0)=true):∀ (m k fuel:Nat) (listed:Array Bool) (a:Act) (w:World),k+m=l.length→k0≤k→m≤fuel→listed.size=l.length →
 (∀ j,j<l.length→listed.getD j false=decide (j<k))→wpList P l.toArray Q (l.drop k) a w→wpAny P .any l.toArray Q fuel listed a w:=by
 intro m
 induction m with
 | zero =>
   intro k fuel listed a w hk _ _ hs hl h
   have hr:Region.ready .any l.toArray listed=[]:=by
    rw[List.eq_nil_iff_forall_not_mem]
    intro i hi;obtain⟨h1,h2,_⟩:=Qv.1 hi
    have h1':i<l.length:=by simpa using h1
    have:=hl i h1'
    have hd:decide (i<k)=true:=by simp;omega
    rw[hd] at this
    have hi':i<listed.size:=by omega
    simp[Array.getD,hi'] at this h2
    rw[this] at h2;cases h2
   have hq:Q .normal a w:=by
    rw[List.drop_of_length_le (by omega)] at h
    exact h
   cases fuel with
   | zero=>exact⟨hr,hq⟩
   | succ fuel=>exact⟨fun _=>hq,fun i hi=>by rw[hr] at hi;cases hi⟩
 | succ m ih =>
   intro k fuel listed a w hk hk0 hf hs hl h;have hlt:k<l.length:=by omega
   obtain⟨fuel,rfl⟩:∃ f,fuel=f+1:=⟨fuel - 1,by omega⟩
   have hks:k<listed.size:=by omega
   have hkr:k∈Region.ready .any l.toArray listed:=by
    refine Qv.2 ⟨by simpa using hlt,?_,l[k],by simp[hlt],fun e he hbd=>?_⟩
    ·have:=hl k hlt
     simp[Array.getD,hks] at this ⊢;exact this
    ·have:=back_at l 0 k l[k] hb (by simp[hlt]) e he hbd
     rw[hl _ (by omega)];simp;omega
   refine⟨fun hr=>absurd (hr ▸ hkr) (by simp),fun i hi=>?_⟩
   have hik:i=k:=by
    obtain⟨h1,h2,o,ho,h3⟩:=Qv.1 hi
    have h1':i<l.length:=by simpa using h1
    have hnl:listed.getD i false=false:=by
     have hi':i<listed.size:=by omega
     simp[Array.getD,hi'] at h2 ⊢;exact h2
    have hge:k≤i:=by
     have:=hl i h1'
     rw[hnl] at this
     have:¬ i<k:=by simpa using this.symm
     omega
    rcases Nat.eq_or_lt_of_le hge with e | hgt
    ·exact e.symm
    ·exfalso
     obtain⟨e,he,hbd,hon⟩:=tail_at (l.drop k0) k0 (i - k0) o ht (by rw[List.getElem?_drop,show k0+(i - k0)=i by omega];simpa using ho) k (by omega)
     have:=h3 e he hbd
     rw[hon,hl k hlt] at this
     simp at this
   subst hik;rw[List.drop_eq_getElem_cons hlt] at h
   have ho:l.toArray[i]?=some l[i]:=by simp[hlt]
   have next:∀ a w,wpList P l.toArray Q (l.drop (i+1)) a w→wpAny P .any l.toArray Q fuel (listed.setIfInBounds i true) a w:=fun a w h' =>
    ih (i+1) fuel _ a w (by omega) (by omega) (by omega) (by simpa using hs) (fun j hj=>by
     by_cases e:j=i
     ·subst e;simp[Array.getD,hks]
     ·have hne:i≠j:=fun x=>e x.symm;rw[Za,Array.getElem?_setIfInBounds_ne hne,← Za,hl j hj]
      simp;omega) h'
   unfold wpOp;rw[ho]
   simp only
   unfold wpList at h;split
   ·rename_i hw
    rw[if_pos hw] at h
    exact h.imp (Oper.wp_mono next) id
   ·rename_i hw
    rw[if_neg hw] at h
    exact next _ _ h
theorem QgY {l l2:List Oper}(hb:QaO 0 (l++l2)=true) (hg:QaJ l.length l=true) (ht:QeK l.length l2=true):∀ (fuel:Nat) (listed:Array Bool) (a:Act) (w:World),listed.size=l.length →
 wpAny P .any l.toArray (Exit.then (fun a w=>wpList P (l++l2).toArray Q l2 a w) Q) fuel listed a w →
 wpAny P .any (l++l2).toArray Q (fuel+l2.length) (listed++Array.replicate l2.length false) a w:=by
 have hbl:∀ (i:Nat) (o:Oper),l[i]?=some o→∀ e∈o.after,Region.binds .any e=true→e.on<i:=fun i o ho e he hbd=>by
  have hi:i<l.length:=(Zi ho).1
  have:=back_at (l++l2) 0 i o hb (by rw[List.getElem?_append_left hi];exact ho) e he hbd
  omega
 have get1:∀ (listed:Array Bool) (j:Nat) (d:Bool),listed.size=l.length→j<l.length→(listed++Array.replicate l2.length false).getD j d=listed.getD j d:=fun listed j d hs hj=>by
  rw[Za,Za,Array.getElem?_append_left (by omega)]
 have get2:∀ (listed:Array Bool) (j:Nat),listed.size=l.length→l.length≤j→(listed++Array.replicate l2.length false).getD j false=false:=fun listed j hs hj=>by
  rw[Za,Array.getElem?_append_right (by omega)]
  cases h:(Array.replicate l2.length false)[j - listed.size]? with
  | none=>rfl
  | some b =>
    have:=Array.mem_of_getElem? h
    simp at this
    simp[this.2]
 -- all of the first part are listed
 have done:∀ (fuel:Nat) (listed:Array Bool) (a:Act) (w:World),listed.size=l.length→(∀ j,j<l.length→listed.getD j false=true)→wpList P (l++l2).toArray Q l2 a w →
  wpAny P .any (l++l2).toArray Q (fuel+l2.length) (listed++Array.replicate l2.length false) a w:=fun fuel listed a w hs hall h=>by
  refine Qiu hb (k0:=l.length) (by simpa using ht) l2.length l.length _ _ a w (by simp) Ze (by omega) (by simp[hs]) (fun j hj=>?_) (by simpa using h);by_cases hj':j<l.length
  ·rw[get1 listed j false hs hj',hall j hj'];simp[hj']
  ·rw[get2 listed j hs (by omega)];simp;omega
 have allOf:∀ (listed:Array Bool),listed.size=l.length→Region.ready .any l.toArray listed=[]→∀ j,j<l.length→listed.getD j false=true:=fun listed hs hr j=>by
  induction j using Nat.strongRecOn with
  | _ j ih =>
    intro hj
    cases hc:listed.getD j false with
    | true=>rfl
    | false =>
      exfalso
      have hj':j<listed.size:=by omega
      have hnt:listed.getD j true=false:=by simp[Array.getD,hj'] at hc ⊢;exact hc
      have:j∈Region.ready .any l.toArray listed:=Qv.2 ⟨by simpa using hj,hnt,l[j],by simp[hj],fun e he hbd=>by
       have:=hbl j l[j] (by simp[hj]) e he hbd
       exact ih e.on this (by omega)⟩
      rw[hr] at this;cases this
 intro fuel
 induction fuel with
 | zero =>
   intro listed a w hs h;exact done 0 listed a w hs (allOf listed hs h.1) h.2
 | succ fuel ih =>
   intro listed a w hs h;by_cases hall:∀ j,j<l.length→listed.getD j false=true
   ·refine done (fuel+1) listed a w hs hall (h.1 ?_);rw[List.eq_nil_iff_forall_not_mem]
    intro i hi;obtain⟨h1,h2,_⟩:=Qv.1 hi
    have h1':i<l.length:=by simpa using h1
    have:=hall i h1'
    have hi':i<listed.size:=by omega
    simp[Array.getD,hi'] at this h2
    rw[this] at h2;cases h2
   ·have hnr:Region.ready .any l.toArray listed≠[]:=fun e=>hall (allOf listed hs e)
    have same:∀ i,i∈Region.ready .any (l++l2).toArray (listed++Array.replicate l2.length false)↔i∈Region.ready .any l.toArray listed:=fun i=>by
     rw[Qv,Qv]
     by_cases hi:i<l.length
     ·have e1:(l++l2).toArray[i]?=l.toArray[i]?:=by simp[List.getElem?_append_left hi]
      rw[get1 listed i true hs hi,e1]
      constructor
      ·rintro ⟨_,h2,o,ho,h3⟩;refine⟨by simpa using hi,h2,o,ho,fun e he hbd=>?_⟩
       have:=hbl i o (by simpa using ho) e he hbd
       have h4:=h3 e he hbd;rwa [get1 listed e.on false hs (by omega)] at h4
      ·rintro ⟨_,h2,o,ho,h3⟩;refine⟨by simp;omega,h2,o,ho,fun e he hbd=>?_⟩
       have:=hbl i o (by simpa using ho) e he hbd
       rw[get1 listed e.on false hs (by omega)]
       exact h3 e he hbd
     ·constructor
      ·rintro ⟨h1,h2,o,ho,h3⟩;exfalso
       refine hall fun j hj=>?_;have ho':(l++l2)[i]?=some o:=by simpa using ho
       rw[List.getElem?_append_right (by omega)] at ho'
       obtain⟨e,he,hbd,hon⟩:=tail_at l2 l.length (i - l.length) o ht ho' j (by omega)
       have:=h3 e he hbd
       rwa [hon,get1 listed j false hs hj] at this
      ·rintro ⟨h1,_⟩;exact absurd (by simpa using h1) hi
    rw[show fuel+1+l2.length=(fuel+l2.length)+1 by omega]
    refine⟨fun hr=>?_,fun i hi=>?_⟩
    ·exfalso
     apply hnr
     rw[List.eq_nil_iff_forall_not_mem]
     intro i hi
     have:=(same i).2 hi
     rw[hr] at this;cases this
    ·have hi':=(same i).1 hi;have h':=h.2 i hi';obtain⟨h1,_⟩:=Qv.1 hi'
     have hlt:i<l.length:=by simpa using h1
     have ho:l.toArray[i]?=some l[i]:=by simp[hlt]
     have ho2:(l++l2).toArray[i]?=some l[i]:=by simp[List.getElem?_append_left hlt,hlt]
     unfold wpOp at h' ⊢;rw[ho] at h'
     rw[ho2]
     simp only at h' ⊢
     have hy:Region.wanted l[i] (yielded (l++l2).toArray a.tmps)=Region.wanted l[i] (yielded l.toArray a.tmps):=by
      unfold Region.wanted
      cases hgd:(l[i]).guard with
      | none=>rfl
      | some gw =>
        obtain⟨g,want⟩:=gw
        have:=List.all_eq_true.1 hg l[i] (List.getElem_mem hlt)
        rw[hgd] at this
        have hgl:g<l.length:=by simpa using this
        simp only
        have:yielded (l++l2).toArray a.tmps g=yielded l.toArray a.tmps g:=by
         unfold yielded
         have:(l++l2).toArray[g]?=l.toArray[g]?:=by simp[List.getElem?_append_left hgl]
         rw[this]
        rw[this]
     rw[hy]
     have nx:∀ a w,wpAny P .any l.toArray (Exit.then (fun a w=>wpList P (l++l2).toArray Q l2 a w) Q) fuel (listed.setIfInBounds i true) a w→wpAny P .any (l++l2).toArray Q (fuel+l2.length) ((listed++Array.replicate l2.length false).setIfInBounds i true) a w:=fun a w hh=>by
      have:=ih (listed.setIfInBounds i true) a w (by simpa using hs) hh
      have e:(listed++Array.replicate l2.length false).setIfInBounds i true=listed.setIfInBounds i true++Array.replicate l2.length false:=by
       rw[Array.setIfInBounds_append_left (by omega)]
      rw[e];exact this
     split
     ·rename_i hw
      rw[if_pos hw] at h'
      rcases h' with h' | h'
      ·exact .inl (Oper.wp_mono nx (Qff h'))
      ·exact .inr h'
     ·rename_i hw
      rw[if_neg hw] at h'
      exact nx _ _ h'
end
section
variable {P:Program}{Q:Exit→Act→World→Prop}
def Qbq (all:List Oper):Nat→Oper→Nat→Bool
 | 0,_,_=>false
 | f+1,o,j=>o.after.any fun e=>Region.binds .any e&&(e.on==j||(match all[e.on]? with | some o'=>Qbq all f o' j | none=>false))
def Qct (all:List Oper) (k:Nat):List Oper→Bool
 | []=>true
 | o::l=>((List.range k).all fun j=>Qbq all 24 o j)&&Qct all (k+1) l
theorem Qa4 {all:List Oper}{j:Nat}{S:Nat→Prop}(hcl:∀ (q:Nat) (o':Oper),all[q]?=some o'→S q→∀ e∈o'.after,Region.binds .any e=true→S e.on):∀ (f:Nat) (o:Oper),Qbq all f o j=true→(∀ e∈o.after,Region.binds .any e=true→S e.on)→S j
 | 0,_,h,_=>by simp[Qbq] at h
 | f+1,o,h,hS=>by
   simp only[Qbq] at h
   obtain⟨q,hq,he⟩:=Array.any_eq_true.1 h
   rw[Bool.and_eq_true,Bool.or_eq_true] at he
   have hm:=Array.getElem_mem hq;generalize o.after[q]=e0 at he hm;rcases he.2 with h1 | h1
   ·have:=hS e0 hm he.1
    rwa [beq_iff_eq.1 h1] at this
   ·cases ho':all[e0.on]? with
    | none=>rw[ho'] at h1;simp at h1
    | some o' =>
      rw[ho'] at h1
      exact Qa4 hcl f o' h1 (hcl _ o' ho' (hS e0 hm he.1))
theorem QdU (all:List Oper):∀ (l:List Oper) (k i:Nat) (o:Oper),Qct all k l=true→l[i]?=some o→∀ j,j<k+i→∀ S:Nat→Prop,
 (∀ (q:Nat) (o':Oper),all[q]?=some o'→S q→∀ e∈o'.after,Region.binds .any e=true→S e.on)→(∀ e∈o.after,Region.binds .any e=true→S e.on)→S j
 | [],_,_,_,_,h=>by simp at h
 | x::l,k,0,o,h,ho=>by
   simp at ho;subst ho
   simp only[Qct,Bool.and_eq_true] at h
   intro j hj S hcl hS;exact Qa4 hcl 24 x (List.all_eq_true.1 h.1 j (by simpa using hj)) hS
 | x::l,k,i+1,o,h,ho=>by
   simp only[Qct,Bool.and_eq_true] at h
   simp at ho
   intro j hj;exact QdU all l (k+1) i o h.2 ho j (by omega)
theorem QgW {l:List Oper}(hb:QaO 0 l=true){k0:Nat}(ht:Qct l k0 (l.drop k0)=true):∀ (m k fuel:Nat) (listed:Array Bool) (a:Act) (w:World),k+m=l.length→k0≤k→m≤fuel→listed.size=l.length →
 (∀ j,j<l.length→listed.getD j false=decide (j<k))→wpList P l.toArray Q (l.drop k) a w→wpAny P .any l.toArray Q fuel listed a w:=by
 intro m
 induction m with
 | zero =>
   intro k fuel listed a w hk _ _ hs hl h
   have hr:Region.ready .any l.toArray listed=[]:=by
    rw[List.eq_nil_iff_forall_not_mem]
    intro i hi;obtain⟨h1,h2,_⟩:=Qv.1 hi
    have h1':i<l.length:=by simpa using h1
    have:=hl i h1'
    have hd:decide (i<k)=true:=by simp;omega
    rw[hd] at this
    have hi':i<listed.size:=by omega
    simp[Array.getD,hi'] at this h2
    rw[this] at h2;cases h2
   have hq:Q .normal a w:=by
    rw[List.drop_of_length_le (by omega)] at h
    exact h
   cases fuel with
   | zero=>exact⟨hr,hq⟩
   | succ fuel=>exact⟨fun _=>hq,fun i hi=>by rw[hr] at hi;cases hi⟩
 | succ m ih =>
   intro k fuel listed a w hk hk0 hf hs hl h;have hlt:k<l.length:=by omega
   obtain⟨fuel,rfl⟩:∃ f,fuel=f+1:=⟨fuel - 1,by omega⟩
   have hks:k<listed.size:=by omega
   have hkr:k∈Region.ready .any l.toArray listed:=by
    refine Qv.2 ⟨by simpa using hlt,?_,l[k],by simp[hlt],fun e he hbd=>?_⟩
    ·have:=hl k hlt
     simp[Array.getD,hks] at this ⊢;exact this
    ·have:=back_at l 0 k l[k] hb (by simp[hlt]) e he hbd
     rw[hl _ (by omega)];simp;omega
   refine⟨fun hr=>absurd (hr ▸ hkr) (by simp),fun i hi=>?_⟩
   have hik:i=k:=by
    obtain⟨h1,h2,o,ho,h3⟩:=Qv.1 hi
    have h1':i<l.length:=by simpa using h1
    have hnl:listed.getD i false=false:=by
     have hi':i<listed.size:=by omega
     simp[Array.getD,hi'] at h2 ⊢;exact h2
    have hge:k≤i:=by
     have:=hl i h1'
     rw[hnl] at this
     have:¬ i<k:=by simpa using this.symm
     omega
    rcases Nat.eq_or_lt_of_le hge with e | hgt
    ·exact e.symm
    ·exfalso
     have:=QdU l (l.drop k0) k0 (i - k0) o ht (by rw[List.getElem?_drop,show k0+(i - k0)=i by omega];simpa using ho) k (by omega) (fun j=>listed.getD j false=true)
      (fun q o' hq hS e he hbd=>by
       have hql:q<l.length:=(Zi hq).1;have hqe:=back_at l 0 q o' hb hq e he hbd;have h5:listed.getD q false=true:=hS;rw[hl q hql] at h5
       have h6:q<k:=by simpa using h5
       show listed.getD e.on false=true;rw[hl e.on (by omega)];simp;omega) h3
     rw[hl k hlt] at this
     simp at this
   subst hik;rw[List.drop_eq_getElem_cons hlt] at h
   have ho:l.toArray[i]?=some l[i]:=by simp[hlt]
   have next:∀ a w,wpList P l.toArray Q (l.drop (i+1)) a w→wpAny P .any l.toArray Q fuel (listed.setIfInBounds i true) a w:=fun a w h' =>
    ih (i+1) fuel _ a w (by omega) (by omega) (by omega) (by simpa using hs) (fun j hj=>by
     by_cases e:j=i
     ·subst e;simp[Array.getD,hks]
     ·have hne:i≠j:=fun x=>e x.symm;rw[Za,Array.getElem?_setIfInBounds_ne hne,← Za,hl j hj]
      simp;omega) h'
   unfold wpOp;rw[ho]
   simp only
   unfold wpList at h;split
   ·rename_i hw
    rw[if_pos hw] at h
    exact h.imp (Oper.wp_mono next) id
   ·rename_i hw
    rw[if_neg hw] at h
    exact next _ _ h
theorem QfF {l l2:List Oper}(hb:QaO 0 (l++l2)=true) (hg:QaJ l.length l=true) (ht:Qct (l++l2) l.length l2=true):∀ (fuel:Nat) (listed:Array Bool) (a:Act) (w:World),listed.size=l.length→(∀ (q:Nat) (o:Oper),l[q]?=some o→listed.getD q false=true→∀ e∈o.after,Region.binds .any e=true→listed.getD e.on false=true) →
 wpAny P .any l.toArray (Exit.then (fun a w=>wpList P (l++l2).toArray Q l2 a w) Q) fuel listed a w →
 wpAny P .any (l++l2).toArray Q (fuel+l2.length) (listed++Array.replicate l2.length false) a w:=by
 have hbl:∀ (i:Nat) (o:Oper),l[i]?=some o→∀ e∈o.after,Region.binds .any e=true→e.on<i:=fun i o ho e he hbd=>by
  have hi:i<l.length:=(Zi ho).1
  have:=back_at (l++l2) 0 i o hb (by rw[List.getElem?_append_left hi];exact ho) e he hbd
  omega
 have get1:∀ (listed:Array Bool) (j:Nat) (d:Bool),listed.size=l.length→j<l.length→(listed++Array.replicate l2.length false).getD j d=listed.getD j d:=fun listed j d hs hj=>by
  rw[Za,Za,Array.getElem?_append_left (by omega)]
 have get2:∀ (listed:Array Bool) (j:Nat),listed.size=l.length→l.length≤j→(listed++Array.replicate l2.length false).getD j false=false:=fun listed j hs hj=>by
  rw[Za,Array.getElem?_append_right (by omega)]
  cases h:(Array.replicate l2.length false)[j - listed.size]? with
  | none=>rfl
  | some b =>
    have:=Array.mem_of_getElem? h
    simp at this
    simp[this.2]
 -- all of the first part are listed
 have done:∀ (fuel:Nat) (listed:Array Bool) (a:Act) (w:World),listed.size=l.length→(∀ j,j<l.length→listed.getD j false=true)→wpList P (l++l2).toArray Q l2 a w →
  wpAny P .any (l++l2).toArray Q (fuel+l2.length) (listed++Array.replicate l2.length false) a w:=fun fuel listed a w hs hall h=>by
  refine QgW hb (k0:=l.length) (by simpa using ht) l2.length l.length _ _ a w (by simp) Ze (by omega) (by simp[hs]) (fun j hj=>?_) (by simpa using h);by_cases hj':j<l.length
  ·rw[get1 listed j false hs hj',hall j hj'];simp[hj']
  ·rw[get2 listed j hs (by omega)];simp;omega
 have allOf:∀ (listed:Array Bool),listed.size=l.length→Region.ready .any l.toArray listed=[]→∀ j,j<l.length→listed.getD j false=true:=fun listed hs hr j=>by
  induction j using Nat.strongRecOn with
  | _ j ih =>
    intro hj
    cases hc:listed.getD j false with
    | true=>rfl
    | false =>
      exfalso
      have hj':j<listed.size:=by omega
      have hnt:listed.getD j true=false:=by simp[Array.getD,hj'] at hc ⊢;exact hc
      have:j∈Region.ready .any l.toArray listed:=Qv.2 ⟨by simpa using hj,hnt,l[j],by simp[hj],fun e he hbd=>by
       have:=hbl j l[j] (by simp[hj]) e he hbd
       exact ih e.on this (by omega)⟩
      rw[hr] at this;cases this
 intro fuel
 induction fuel with
 | zero =>
   intro listed a w hs hcl h;exact done 0 listed a w hs (allOf listed hs h.1) h.2
 | succ fuel ih =>
   intro listed a w hs hcl h;by_cases hall:∀ j,j<l.length→listed.getD j false=true
   ·refine done (fuel+1) listed a w hs hall (h.1 ?_);rw[List.eq_nil_iff_forall_not_mem]
    intro i hi;obtain⟨h1,h2,_⟩:=Qv.1 hi
    have h1':i<l.length:=by simpa using h1
    have:=hall i h1'
    have hi':i<listed.size:=by omega
    simp[Array.getD,hi'] at this h2
    rw[this] at h2;cases h2
   ·have hnr:Region.ready .any l.toArray listed≠[]:=fun e=>hall (allOf listed hs e)
    have same:∀ i,i∈Region.ready .any (l++l2).toArray (listed++Array.replicate l2.length false)↔i∈Region.ready .any l.toArray listed:=fun i=>by
     rw[Qv,Qv]
     by_cases hi:i<l.length
     ·have e1:(l++l2).toArray[i]?=l.toArray[i]?:=by simp[List.getElem?_append_left hi]
      rw[get1 listed i true hs hi,e1]
      constructor
      ·rintro ⟨_,h2,o,ho,h3⟩;refine⟨by simpa using hi,h2,o,ho,fun e he hbd=>?_⟩
       have:=hbl i o (by simpa using ho) e he hbd
       have h4:=h3 e he hbd;rwa [get1 listed e.on false hs (by omega)] at h4
      ·rintro ⟨_,h2,o,ho,h3⟩;refine⟨by simp;omega,h2,o,ho,fun e he hbd=>?_⟩
       have:=hbl i o (by simpa using ho) e he hbd
       rw[get1 listed e.on false hs (by omega)]
       exact h3 e he hbd
     ·constructor
      ·rintro ⟨h1,h2,o,ho,h3⟩;exfalso
       refine hall fun j hj=>?_;have ho':(l++l2)[i]?=some o:=by simpa using ho
       rw[List.getElem?_append_right (by omega)] at ho'
       have:=QdU (l++l2) l2 l.length (i - l.length) o ht ho' j (by omega) (fun q=>(listed++Array.replicate l2.length false).getD q false=true)
        (fun q o' hq hS e he hbd=>by
         have h5:(listed++Array.replicate l2.length false).getD q false=true:=hS;by_cases hql:q<l.length
         ·rw[get1 listed q false hs hql] at h5
          rw[List.getElem?_append_left hql] at hq
          have h6:=hbl q o' hq e he hbd;show (listed++Array.replicate l2.length false).getD e.on false=true;rw[get1 listed e.on false hs (by omega)]
          exact hcl q o' hq h5 e he hbd
         ·rw[get2 listed q hs (by omega)] at h5
          cases h5) h3
       rwa [get1 listed j false hs hj] at this
      ·rintro ⟨h1,_⟩;exact absurd (by simpa using h1) hi
    rw[show fuel+1+l2.length=(fuel+l2.length)+1 by omega]
    refine⟨fun hr=>?_,fun i hi=>?_⟩
    ·exfalso
     apply hnr
     rw[List.eq_nil_iff_forall_not_mem]
     intro i hi
     have:=(same i).2 hi
     rw[hr] at this;cases this
    ·have hi':=(same i).1 hi;have h':=h.2 i hi';obtain⟨h1,_⟩:=Qv.1 hi'
     have hlt:i<l.length:=by simpa using h1
     have ho:l.toArray[i]?=some l[i]:=by simp[hlt]
     have ho2:(l++l2).toArray[i]?=some l[i]:=by simp[List.getElem?_append_left hlt,hlt]
     unfold wpOp at h' ⊢;rw[ho] at h'
     rw[ho2]
     simp only at h' ⊢
     have hy:Region.wanted l[i] (yielded (l++l2).toArray a.tmps)=Region.wanted l[i] (yielded l.toArray a.tmps):=by
      unfold Region.wanted
      cases hgd:(l[i]).guard with
      | none=>rfl
      | some gw =>
        obtain⟨g,want⟩:=gw
        have:=List.all_eq_true.1 hg l[i] (List.getElem_mem hlt)
        rw[hgd] at this
        have hgl:g<l.length:=by simpa using this
        simp only
        have:yielded (l++l2).toArray a.tmps g=yielded l.toArray a.tmps g:=by
         unfold yielded
         have:(l++l2).toArray[g]?=l.toArray[g]?:=by simp[List.getElem?_append_left hgl]
         rw[this]
        rw[this]
     rw[hy]
     have nx:∀ a w,wpAny P .any l.toArray (Exit.then (fun a w=>wpList P (l++l2).toArray Q l2 a w) Q) fuel (listed.setIfInBounds i true) a w→wpAny P .any (l++l2).toArray Q (fuel+l2.length) ((listed++Array.replicate l2.length false).setIfInBounds i true) a w:=fun a w hh=>by
      have hcl2:∀ (q:Nat) (o:Oper),l[q]?=some o→(listed.setIfInBounds i true).getD q false=true→∀ e∈o.after,Region.binds .any e=true→(listed.setIfInBounds i true).getD e.on false=true:=fun q o hq hS e he hbd=>by
       have up:∀ j,listed.getD j false=true→(listed.setIfInBounds i true).getD j false=true:=fun j hj=>by
        by_cases ej:i=j
        ·subst ej
         have:i<listed.size:=by omega
         simp[Array.getD,this]
        ·rw[Za,Array.getElem?_setIfInBounds_ne ej,← Za];exact hj
       by_cases ej:i=q
       ·subst ej;obtain⟨_,_,o2,ho2',h3⟩:=Qv.1 hi'
        have:o2=o:=by
         have h7:l[i]?=some o2:=by simpa using ho2'
         rw[hq] at h7;exact(Option.some.inj h7).symm
        subst this;exact up _ (h3 e he hbd)
       ·rw[Za,Array.getElem?_setIfInBounds_ne ej,← Za] at hS
        exact up _ (hcl q o hq hS e he hbd)
      have:=ih (listed.setIfInBounds i true) a w (by simpa using hs) hcl2 hh
      have e:(listed++Array.replicate l2.length false).setIfInBounds i true=listed.setIfInBounds i true++Array.replicate l2.length false:=by
       rw[Array.setIfInBounds_append_left (by omega)]
      rw[e];exact this
     split
     ·rename_i hw
      rw[if_pos hw] at h'
      rcases h' with h' | h'
      ·exact .inl (Oper.wp_mono nx (Qff h'))
      ·exact .inr h'
     ·rename_i hw
      rw[if_neg hw] at h'
      exact nx _ _ h'
end
theorem Qgq {P:Program}{id:Nat}{l l2:List Oper}{outs:List Tmp}{gs:List (Nat × Option Bool)}{bs:List Bool}{a:Act}{w:World}{Q:Exit→Act→World→Prop}
 (E:Tmp→Value→World→Prop) (W:World→Prop) (R:World→World→Prop)
 (hm:P.follows .mixedOrders=true) {n m:Nat} (hn:a.tmps.size=m) (hnm:n≤m) (hB:Qa9 l n outs gs bs=true)
 (hT:(QaO 0 (l++l2)&&(QaJ l.length l&&Qct (l++l2) l.length l2))=true)
 (hR:∀ t v w w',R w w'→E t v w→E t v w') (hG:Qaz E W l.toArray gs) (hW:W w.drew) (hO:Qbr E a w.drew outs)
 (hA:Qc3 E W R P l bs)
 (hend:∀ (vs:Tmp→Value) w',W w'→(∀ t,(Ql l).contains t=true→E t (vs t) w')→wpList P (l++l2).toArray Q l2 (Q5 a vs (Ql l)) w') :
 (Code.region id (l++l2).toArray true).wp P Q a w:=by
 simp only[Bool.and_eq_true] at hT
 obtain⟨hT1,hT2,hT3⟩:=hT
 refine wp_region_any hm ?_
 have key:wpAny P .any l.toArray (Exit.then (fun a w=>wpList P (l++l2).toArray Q l2 a w) Q) l.length (Array.replicate l.length false) a w.drew:=by
  refine Qbk (E:=E) (W:=W) (R:=R) (a0:=a) (outs:=outs) (gs:=gs) (bs:=bs) (Qca (hn ▸ hnm) hB) hR hG hA hend _ _ _ _ (by simp) ?_ ⟨hW,rfl,rfl,fun _ _=>rfl,fun t ht _=>Qbj outs hO t ht,?_⟩
  ·simp only[Array.toList_replicate]
   exact Zt (List.length_filter_le _ _) (by simp)
  ·intro j o t hj hd hl;simp[Array.getD] at hl
 have:=QfF (Q:=Q) hT1 hT2 hT3 l.length (Array.replicate l.length false) a w.drew (by simp) (fun q o hq hS=>by simp[Array.getD] at hS) key
 have e:(Array.replicate l.length false++Array.replicate l2.length false:Array Bool)=Array.replicate (l++l2).toArray.size false:=by
  simp
 have e2:l.length+l2.length=(l++l2).toArray.size:=by simp
 rw[e,e2] at this
 exact this
theorem Qq {P:Program}{id:Nat}{lo:List Oper}{outs:List Tmp}{gs:List (Nat × Option Bool)}{bs:List Bool}{a:Act}{w:World}{Q:Exit→Act→World→Prop}
 (k:Nat) (E:Tmp→Value→World→Prop) (W:World→Prop) (R:World→World→Prop)
 (hm:P.follows .mixedOrders=true) {n m:Nat} (hn:a.tmps.size=m) (hnm:n≤m) (hB:Qa9 (lo.take k) n outs gs bs=true)
 (hT:(QaO 0 lo&&(QaJ (lo.take k).length (lo.take k)&&Qct lo (lo.take k).length (lo.drop k)))=true)
 (hR:∀ t v w w',R w w'→E t v w→E t v w') (hG:Qaz E W (lo.take k).toArray gs) (hW:W w.drew) (hO:Qbr E a w.drew outs)
 (hA:Qc3 E W R P (lo.take k) bs)
 (hend:∀ ops (vs:Tmp→Value) w',W w'→(∀ t,(Ql (lo.take k)).contains t=true→E t (vs t) w')→wpList P ops Q (lo.drop k) (Q5 a vs (Ql (lo.take k))) w') :
 (Code.region id lo.toArray true).wp P Q a w:=by
 have h:=Qgq (id:=id) (l:=lo.take k) (l2:=lo.drop k) (Q:=Q) E W R hm hn hnm hB (by rw[List.take_append_drop];exact hT) hR hG hW hO hA (hend _);rwa [List.take_append_drop] at h
def Qj (i:Nat):Code→Option Code
 | .region k ops d=>if k=i then some (.region k ops d) else none
 | .loop c=>Qj i c
 | .seq a b=>match Qj i a with
   | some c=>some c
   | none=>Qj i b
 | .block _ c=>Qj i c
 | .scope c=>Qj i c
 | .cond _ a b=>match Qj i a with
   | some c=>some c
   | none=>Qj i b
 | _=>none
def QcP (k:Nat):Code→List Oper
 | .region _ ops _=>ops.toList.drop k
 | _=>[]
theorem Qi {w w':World}{p:Addr}{v:Value}(h:w.cell? p=some v) (b:Below w.heap.size w w'):w'.cell? p=some v:=(b.cell (World.block_lt_of_cell? w p h)).trans h
theorem Zp (w:World) (c:Int):Calls prog 162 #[.bool true,.int .i64 c] w fun e w'=>e=.returned (.tuple #[])∧w'=w:=by
 go_enter func162,ntmps162
 go_wp2
 exact bodyPost_end (v:=.tuple #[]) (by simp[results,results162,go_sem]) rfl ⟨rfl,rfl⟩
theorem Zq (w:World) (c:Int):Calls prog 162 #[.bool false,.int .i64 c] w fun e w'=>e=.panicked (Qed c)∧w'=w:=by
 go_enter func162,ntmps162
 go_wp2
 exact⟨rfl,rfl,rfl⟩
theorem Qb0 (w:World) (ok:Bool) (c:Int):Calls prog 162 #[.bool ok,.int .i64 c] w fun e w'=>w'=w∧((ok=true∧e=.returned (.tuple #[]))∨(ok=false∧e=.panicked (Qed c))):=by
 cases ok
 ·exact(Zq w c).mono (fun e w' h=>⟨h.2,.inr ⟨rfl,h.1⟩⟩)
 ·exact(Zp w c).mono (fun e w' h=>⟨h.2,.inl ⟨rfl,h.1⟩⟩)
def ZW (c:Int) (V:Value→Prop) (e:Ending):Prop:=(c=0∧∃ x,e=.returned x∧V x)∨(c≠0∧e=.panicked (Qed c))
theorem ZW.good {c:Int}{V:Value→Prop}{x:Value}(h:c=0) (hv:V x):ZW c V (.returned x):=.inl ⟨h,x,rfl,hv⟩
theorem ZW.bad {c d:Int}{V:Value→Prop}(h:c=d) (hd:d≠0):ZW c V (.panicked (Qed d)):=.inr ⟨by omega,by rw[h]⟩
def Qkx (w:World) (A:Nat→Prop) (s:JSt) (a:Int) (x:Value):Prop:=∃ (t:TT 6) (p:Option Addr) (c:Nat),s.at a=some t∧x=Tv t p c∧TIn w (fun g=>¬ A g) t p∧t.ok
def JSt.has (s:JSt) (a:Int):Int:=match s.at a with | none=>1 | some _=>0
theorem Qcb {w:World}{b:Nat}{O A:Nat→Prop}{s:JSt}(a:Int) (hL:s.L.length≤80) (h:SAt w b O A s) :
 Calls prog 164 #[.pointer (some ⟨b,0,none⟩),.int .i64 a] w fun e w'=>ZW (s.has a) (Qkx w' A s a) e∧Below w.heap.size w w':=by
 have b1:=QN w (.cells #[.int .i64 0,.int .i64 0,.slice none 0 0] 79);obtain⟨pm,cm,hh,a1,c1,a2,c2,a3,c3,aL,cL,R⟩:=h.read
 obtain⟨-,-,-,-,-,-,q6⟩:=(R.below b1).cells
 have HR:=Qa R.row;have B1:=Qa b1;have X1:Hid (Blk (w.alloc (.cells #[.int .i64 0,.int .i64 0,.slice none 0 0] 79)) w.heap.size #[.int .i64 0,.int .i64 0,.slice none 0 0] 79):=Blk.new _ _ _;clear R h b1;go_enter func164,ntmps164
 go_upto_region 1 with fail
 generalize w.alloc (.cells #[.int .i64 0,.int .i64 0,.slice none 0 0] 79)=w1 at q6 HR B1 X1 ⊢;by_cases h0:0≤a
 rotate_left
 ·have h0':decide (a≥0)=false:=by simpa using h0
  have E:Hid (s.has a=1):=by show _=_;unfold JSt.has JSt.at;rw[if_pos (by omega)]
  generalize s.L.length=nl at q6 hL;go_wp2_with fail
  refine(Zq _ 1).mono ?_
  rintro e' w' ⟨rfl,hw⟩;subst hw;exact⟨rfl,ZW.bad E.out (by decide),B1.out⟩
 obtain⟨i,rfl⟩:=Int.eq_ofNat_of_zero_le h0
 by_cases h1:i<s.L.length
 rotate_left
 ·have E:Hid (s.has (i:Int)=1):=by
   show _=_;unfold JSt.has JSt.at;rw[if_neg (by omega),Int.toNat_natCast,List.getElem?_eq_none (by omega)]
  have hge:¬ (i:Int)<s.L.length:=by omega
  generalize s.L.length=nl at q6 hge h1 hL;go_wp2_with fail
  refine(Zq _ 1).mono ?_
  rintro e' w' ⟨rfl,hw⟩;subst hw;exact⟨rfl,ZW.bad E.out (by decide),B1.out⟩
 have hti:s.L[i]?=some s.L[i]:=Zg h1;generalize s.L[i]=t at hti;have ha:s.at (i:Int)=some t:=by unfold JSt.at;rw[if_neg (by omega)];exact hti
 obtain⟨g,p,c,rfl,d0,d1,d2,d3,d4⟩:=HR.out i t hti
 have E:Hid (s.has (i:Int)=0):=by show _=_;unfold JSt.has;rw[ha]
 have hgl:=World.block_lt_of_cell? w ⟨g,i*3,none⟩ d0;have e0:=Qi d0 B1.out;have e1:=Qi d1 B1.out;have e2:=Qi d2 B1.out;have hne:¬ w.heap.size=g:=fun e=>by have:g<w.heap.size:=hgl;omega
 have D:Hid (TIn w (fun g=>¬ A g) t p∧t.ok):=⟨d3,d4⟩;have HA:=Qa ha;have hlt:(i:Int)<s.L.length:=by omega
 clear d0 d1 d2 d3 d4 hti ha HR hgl;have y0:=Qb X1.out 0 _ rfl;have y1:=Qb X1.out 1 _ rfl;have y2:=Qb X1.out 2 _ rfl;have z0:=Qp X1.out 0;have z1:=Qp X1.out 1;have z2:=Qp X1.out 2;generalize hnl:s.L.length=nl at q6 h1 hlt hL;go_wp2_with (go_at_call 162;refine(Zp _ _).mono ?_;rintro e' w' ⟨rfl,hw⟩;have hw:=hw.symm;subst hw)
 have X9:=X1.out.set3 (.int .i64 t.kind) (.int .i64 t.r) (.slice p t.len c);have B9:Below w.heap.size w (((w1.setCell ⟨w.heap.size,0,none⟩ (.int .i64 t.kind)).setCell ⟨w.heap.size,1,none⟩ (.int .i64 t.r)).setCell ⟨w.heap.size,2,none⟩ (.slice p t.len c)):=((B1.out.setCell Ze _).setCell Ze _).setCell Ze _;generalize ((w1.setCell ⟨w.heap.size,0,none⟩ (.int .i64 t.kind)).setCell ⟨w.heap.size,1,none⟩ (.int .i64 t.r)).setCell ⟨w.heap.size,2,none⟩ (.slice p t.len c)=w9 at X9 B9 ⊢;have x0:=Qb X9 0 _ rfl;have x1:=Qb X9 1 _ rfl;have x2:=Qb X9 2 _ rfl;exact bodyPost_ret (v:=Tv t p c) (by simp[results,results164,go_sem,x0,x1,x2]) rfl ⟨ZW.good E.out ⟨t,p,c,HA.out,rfl,D.out.1.below B9,D.out.2⟩,B9⟩
theorem Qf5 {s:JSt}{a kind:Int}{held:Bool}(h:s.has a≠0):s.want a kind held=s.has a:=by
 unfold JSt.has JSt.want at *
 cases e:s.at a with
 | none=>rfl
 | some t=>rw[e] at h;exact absurd rfl h
theorem SAt.more {w w':World}{b:Nat}{O A:Nat→Prop}{s:JSt}(hO:∀ k,O k→k<w.heap.size) (h:SAt w b O A s) (k:Below w.heap.size w w'):SAt w' b O (fun k=>A k∨w.heap.size≤k) s :=
 h.keep (fun g hg _=>k.block g hg) (fun _ h _=>h) (fun k hk hl e=>by rcases e with e | e;exact hk e;omega) (fun k hk=>.inl (h.sub k hk))
theorem TIn.over {w w2 w9:World}{A:Nat→Prop}{n:Nat}{t:TT n}{p:Option Addr}(h:TIn w2 (fun g=>¬ (A g∨w.heap.size≤g)) t p) (b2:Below w.heap.size w w2) (b9:Below w.heap.size w w9):TIn w9 (fun g=>¬ (A g∨w.heap.size≤g)) t p :=
 h.keep (fun k hk _=>(b9.block k (Nat.lt_of_not_le (fun e=>hk (.inr e)))).trans (b2.block k (Nat.lt_of_not_le (fun e=>hk (.inr e)))).symm) (fun _ h _=>h)
theorem TIn.less {w w2:World}{A:Nat→Prop}{n:Nat}{t:TT n}{p:Option Addr}(h:TIn w2 (fun g=>¬ (A g∨w.heap.size≤g)) t p):TIn w2 (fun g=>¬ A g) t p:=h.mono (fun k hk _ e=>hk (.inl e))
structure Qg7 (w wc:World) (R B:Nat) (A:Nat→Prop){n:Nat}(t:TT n) (p:Option Addr) (c:Nat):Prop where
 bel:Below w.heap.size w wc
 res:Blk wc R #[.int .i64 0,.int .i64 0,.slice none 0 0] 79
 box:Blk wc B #[.int .i64 t.kind,.int .i64 t.r,.slice p t.len c] 79
 lay:TIn wc (fun g=>¬ (A g∨w.heap.size≤g)) t p
 farR:w.heap.size≤R
 farB:w.heap.size≤B
 ne:¬ B=R
section
variable {w wc w9:World}{R B:Nat}{A:Nat→Prop}{n:Nat}{t:TT n}{p:Option Addr}{c:Nat}
theorem Qg7.below (h:Qg7 w wc R B A t p c) (k:Below wc.heap.size wc w9):Qg7 w w9 R B A t p c :=
 ⟨h.bel.trans (k.mono h.bel.size),h.res.below k,h.box.below k,h.lay.below k,h.farR,h.farB,h.ne⟩
theorem Qg7.cells (h:Qg7 w wc R B A t p c):wc.cell? ⟨B,0,none⟩=some (.int .i64 t.kind)∧wc.cell? ⟨B,1,none⟩=some (.int .i64 t.r)∧wc.cell? ⟨B,2,none⟩=some (.slice p t.len c) ∧
 wc.cell? ⟨R,0,none⟩=some (.int .i64 0)∧wc.cell? ⟨R,1,none⟩=some (.int .i64 0)∧wc.cell? ⟨R,2,none⟩=some (.slice none 0 0)∧wc.frozen? ⟨R,0,none⟩=false∧wc.frozen? ⟨R,1,none⟩=false∧wc.frozen? ⟨R,2,none⟩=false :=
 ⟨Qb h.box 0 _ rfl,Qb h.box 1 _ rfl,Qb h.box 2 _ rfl,Qb h.res 0 _ rfl,Qb h.res 1 _ rfl,Qb h.res 2 _ rfl,Qp h.res 0,Qp h.res 1,Qp h.res 2⟩
theorem Qlw {k r:Int}{q:Option Addr}{l d:Nat}(hb:Below w.heap.size w wc) (hr:Blk wc R #[.int .i64 0,.int .i64 0,.slice none 0 0] 79) (hR:w.heap.size≤R) :
 Blk (((wc.setCell ⟨R,0,none⟩ (.int .i64 k)).setCell ⟨R,1,none⟩ (.int .i64 r)).setCell ⟨R,2,none⟩ (.slice q l d)) R #[.int .i64 k,.int .i64 r,.slice q l d] 79∧Below w.heap.size w (((wc.setCell ⟨R,0,none⟩ (.int .i64 k)).setCell ⟨R,1,none⟩ (.int .i64 r)).setCell ⟨R,2,none⟩ (.slice q l d)) :=
 ⟨hr.set3 _ _ _,((hb.setCell (p:=⟨R,0,none⟩) hR _).setCell (p:=⟨R,1,none⟩) hR _).setCell (p:=⟨R,2,none⟩) hR _⟩
theorem Qg7.mk1 (hb:Below w.heap.size w wc) (hr:Blk wc R #[.int .i64 0,.int .i64 0,.slice none 0 0] 79) (hR:w.heap.size≤R) (ht:TIn wc (fun g=>¬ (A g∨w.heap.size≤g)) t p) :
 Qg7 w (wc.alloc (.cells #[.int .i64 t.kind,.int .i64 t.r,.slice p t.len c] 79)) R wc.heap.size A t p c:=by
 have b1:=QN wc (.cells #[.int .i64 t.kind,.int .i64 t.r,.slice p t.len c] 79);have hRl:=hr.lt;exact⟨hb.trans (b1.mono hb.size),hr.below b1,Blk.new _ _ _,ht.alloc _,hR,hb.size,by omega⟩
end
theorem Qg7.told {w wc:World}{R B:Nat}{A:Nat→Prop}{s:JSt}{a:Int}{t:TT 6}{p:Option Addr}{c:Nat}(h:Qg7 w wc R B A t p c) (ha:s.at a=some t) (hok:t.ok) :
 ∃ w9,w9=((wc.setCell ⟨R,0,none⟩ (.int .i64 t.kind)).setCell ⟨R,1,none⟩ (.int .i64 t.r)).setCell ⟨R,2,none⟩ (.slice p t.len c)∧w9.cell? ⟨R,0,none⟩=some (.int .i64 t.kind)∧w9.cell? ⟨R,1,none⟩=some (.int .i64 t.r)∧w9.cell? ⟨R,2,none⟩=some (.slice p t.len c) ∧
  Qkx w9 A s a (Tv t p c)∧Below w.heap.size w w9:=by
 obtain⟨h1,h2⟩:=Qlw (k:=t.kind) (r:=t.r) (q:=p) (l:=t.len) (d:=c) h.bel h.res h.farR
 exact⟨_,rfl,Qb h1 0 _ rfl,Qb h1 1 _ rfl,Qb h1 2 _ rfl,⟨t,p,c,ha,rfl,(h.lay.over h.bel h2).less,hok⟩,h2⟩
theorem Qez {w:World}{b:Nat}{O A:Nat→Prop}{s:JSt}(a kind:Int) (hL:s.L.length≤80) (hO:∀ k,O k→k<w.heap.size) (h:SAt w b O A s) :
 Calls prog 160 #[.pointer (some ⟨b,0,none⟩),.int .i64 a,.int .i64 kind] w fun e w'=>ZW (s.want a kind false) (Qkx w' A s a) e∧Below w.heap.size w w':=by
 have b1:=QN w (.cells #[.int .i64 0,.int .i64 0,.slice none 0 0] 79);have H1:=Qa (h.more hO b1);have B1:=Qa b1;have X1:Hid (Blk (w.alloc (.cells #[.int .i64 0,.int .i64 0,.slice none 0 0] 79)) w.heap.size #[.int .i64 0,.int .i64 0,.slice none 0 0] 79):=Blk.new _ _ _;clear h b1;go_enter func160,ntmps160
 go_upto_region 1 with fail
 generalize w.alloc (.cells #[.int .i64 0,.int .i64 0,.slice none 0 0] 79)=w1 at H1 B1 X1 ⊢;obtain⟨R,hR⟩:∃ R,w.heap.size=R:=⟨_,rfl⟩
 have HR:=Qa (Nat.le_of_eq hR);rw[hR] at X1 ⊢
 clear hR;go_wp2_with fail
 refine(Qcb a hL H1.out).mono ?_
 rintro e' w2 ⟨hO,b2⟩;have B2:Hid (Below w.heap.size w w2):=B1.out.trans (b2.mono B1.out.size);have X2:=Qa (X1.out.below b2);rcases hO with ⟨hc,x,rfl,t,p,c,ha,rfl,ht,hok⟩|⟨hc,rfl⟩
 rotate_left
 ·exact⟨rfl,.inr ⟨by rw[Qf5 hc];exact hc,by rw[Qf5 hc]⟩,B2.out⟩
 have T3:=Qa (Qg7.mk1 (c:=c) B2.out X2.out HR.out ht);have HA:=Qa (And.intro ha hok);clear ht ha hok b2 X1 B1 H1 X2;go_upto_region 2 with fail
 generalize w2.alloc (.cells #[.int .i64 t.kind,.int .i64 t.r,.slice p t.len c] 79)=w3 at T3 ⊢;generalize w2.heap.size=B at T3 ⊢;obtain⟨y0,y1,y2,r0,r1,r2,z0,z1,z2⟩:=T3.out.cells
 have hne:=T3.out.ne;by_cases hk:t.kind=kind
 rotate_left
 ·have hk':(t.kind==kind)=false:=by simpa using hk
  have E:Hid (s.want a kind false=9):=by show _=_;unfold JSt.want;rw[HA.out.1];simp[hk]
  generalize t.kind=tk at y0 hk hk';go_wp2_with fail
  refine(Zq _ 9).mono ?_
  rintro e' w' ⟨rfl,hw⟩;subst hw;exact⟨rfl,ZW.bad E.out (by decide),T3.out.bel⟩
 ·subst hk;have hk':(t.kind==t.kind)=true:=by simp
  have E:Hid (s.want a t.kind false=0):=by show _=_;unfold JSt.want;rw[HA.out.1];simp
  obtain⟨w9,h9,x0,x1,x2,hv,hb⟩:=T3.out.told HA.out.1 HA.out.2
  have HV:=Qa (And.intro hv hb);have X:Hid (w9.cell? ⟨R,0,none⟩=some (.int .i64 t.kind)∧w9.cell? ⟨R,1,none⟩=some (.int .i64 t.r)∧w9.cell? ⟨R,2,none⟩=some (.slice p t.len c)):=⟨x0,x1,x2⟩;have H9:=Qa h9;clear hv hb x0 x1 x2 h9;go_wp2_with (go_at_call 162;refine(Zp _ _).mono ?_;rintro e' w' ⟨rfl,hw⟩;have hw:=hw.symm;subst hw)
  rw[← H9.out]
  obtain⟨x0,x1,x2⟩:=X.out
  exact bodyPost_ret (v:=Tv t p c) (by simp[results,results160,go_sem,x0,x1,x2]) rfl ⟨ZW.good E.out HV.out.1,HV.out.2⟩
theorem QeT {s:JSt}{a kind:Int}(h:s.want a kind false≠0):s.want a kind true=s.want a kind false:=by
 unfold JSt.want at *
 cases e:s.at a with
 | none=>rfl
 | some t =>
   rw[e] at h
   by_cases hk:t.kind=kind
   ·simp[hk] at h
   ·simp[hk]
theorem QgB {s:JSt}{a kind:Int}{t:TT 6}(h:s.want a kind false=0) (ha:s.at a=some t):s.want a kind true=if hHas s.H t.r then 0 else 10:=by
 unfold JSt.want at *;rw[ha] at h ⊢
 by_cases hk:t.kind=kind
 ·simp only[hk,if_true,Bool.true_and]
  cases hHas s.H t.r<;>rfl
 ·simp[hk] at h
theorem Qak {w:World}{b:Nat}{O A:Nat→Prop}{s:JSt}(a kind:Int) (hL:s.L.length≤80) (hO:∀ k,O k→k<w.heap.size) (h:SAt w b O A s) :
 Calls prog 124 #[.pointer (some ⟨b,0,none⟩),.int .i64 a,.int .i64 kind] w fun e w'=>ZW (s.want a kind true) (Qkx w' A s a) e∧Below w.heap.size w w':=by
 have b1:=QN w (.cells #[.int .i64 0,.int .i64 0,.slice none 0 0] 79);have H1:=Qa (h.more hO b1);have B1:=Qa b1;have X1:Hid (Blk (w.alloc (.cells #[.int .i64 0,.int .i64 0,.slice none 0 0] 79)) w.heap.size #[.int .i64 0,.int .i64 0,.slice none 0 0] 79):=Blk.new _ _ _;have HO:=Qa hO;clear h b1 hO;go_enter func124,ntmps124
 go_upto_region 1 with fail
 generalize w.alloc (.cells #[.int .i64 0,.int .i64 0,.slice none 0 0] 79)=w1 at H1 B1 X1 ⊢;obtain⟨R,hR⟩:∃ R,w.heap.size=R:=⟨_,rfl⟩
 have HR:=Qa (Nat.le_of_eq hR);rw[hR] at X1 ⊢
 clear hR;go_wp2_with fail
 refine(Qez a kind hL (fun k hk=>Zl (HO.out k hk) B1.out.size) H1.out).mono ?_
 rintro e' w2 ⟨hO,b2⟩;have B2:Hid (Below w.heap.size w w2):=B1.out.trans (b2.mono B1.out.size);have X2:=Qa (X1.out.below b2);have H2:=Qa (H1.out.below b2);rcases hO with ⟨hc,x,rfl,t,p,c,ha,rfl,ht,hok⟩|⟨hc,rfl⟩
 rotate_left
 ·exact⟨rfl,.inr ⟨by rw[QeT hc];exact hc,by rw[QeT hc]⟩,B2.out⟩
 have T3:=Qa (Qg7.mk1 (c:=c) B2.out X2.out HR.out ht);have HA:=Qa (And.intro ha hok);have E:=Qa (QgB hc ha);have H3:=Qa (H2.out.below (QN w2 (.cells #[.int .i64 t.kind,.int .i64 t.r,.slice p t.len c] 79)));clear ht ha hok b2 X1 B1 H1 X2 hc H2;go_upto_region 2 with fail
 generalize w2.alloc (.cells #[.int .i64 t.kind,.int .i64 t.r,.slice p t.len c] 79)=w3 at T3 H3 ⊢;generalize w2.heap.size=B at T3 ⊢;obtain⟨y0,y1,y2,r0,r1,r2,z0,z1,z2⟩:=T3.out.cells
 have hne:=T3.out.ne;obtain⟨pm,cm,hh,a1,c1,a2,c2,a3,c3,aL,cL,RR⟩:=H3.out.read
 obtain⟨-,q1,-⟩:=RR.cells
 have C:Hid (∀ m,Calls prog 33 #[.pointer (some ⟨hh,0,none⟩),.int .i64 t.r] (w3.drewN m) fun e w'=>e=.returned (.bool (hHas s.H t.r))∧w'=w3.drewN m):=fun m=>QbL t.r (show Qt (w3.drewN m) hh s.H from RR.held);clear RR;generalize hHas s.H t.r=q at E C;go_region_with (first | (go_at_call 33;refine(C.out _).mono ?_;rintro e' w' ⟨rfl,hw⟩;have hw:=hw.symm;subst hw) | (go_at_call 162;refine(Qb0 _ _ _).mono ?_;rintro e' w' ⟨hw,⟨hq,rfl⟩|⟨hq,rfl⟩⟩;rotate_left;exact⟨rfl,ZW.bad (by rw[E.out,hq];rfl) (by decide),by rw[hw];exact Qf T3.out.bel _⟩;have hw:=hw.symm;subst hw))
 all_goals
  have E9:Hid (s.want a kind true=0):=by show _=_;rw[E.out,hq];rfl
  clear hq H3 E C;have T4:=T3.out.below (Qf Zr 1);obtain⟨w9,h9,x0,x1,x2,hv,hb⟩:=T4.told HA.out.1 HA.out.2
  have HV:=Qa (And.intro hv hb);have X:Hid (w9.cell? ⟨R,0,none⟩=some (.int .i64 t.kind)∧w9.cell? ⟨R,1,none⟩=some (.int .i64 t.r)∧w9.cell? ⟨R,2,none⟩=some (.slice p t.len c)):=⟨x0,x1,x2⟩;have H9:=Qa h9;clear hv hb x0 x1 x2 h9 T4;go_wp2
  rw[← H9.out]
  obtain⟨x0,x1,x2⟩:=X.out
  exact bodyPost_ret (v:=Tv t p c) (by simp[results,results124,go_sem,x0,x1,x2]) rfl ⟨ZW.good E9.out HV.out.1,HV.out.2⟩
abbrev VNone:Value→Prop:=fun x=>x=.tuple #[]
theorem QbE {w:World}{b:Nat}{O A Q:Nat→Prop}{s:JSt}{l:List Int}{p:Option Addr}{N c:Nat}(hN:l.length=N) (hN2:N≤100000) (hl:intsL.In w Q l [.slice p N c]) (hL:s.L.length≤80) (hO:∀ k,O k→k<w.heap.size) (h:SAt w b O A s) :
 Calls prog 116 #[.pointer (some ⟨b,0,none⟩),.slice p N c] w fun e w'=>ZW (Qz (fun a=>s.want a 1 false) l) VNone e∧Below w.heap.size w w':=by
 have H:=Qa h;have HO:=Qa hO;have HL:=Qa hl;have HN:=Qa hN;clear h hO hl hN;go_enter func116,ntmps116
 go_wp2
 go_loopw [8] (fun i wr=>∃ k:Nat,k≤N∧i=.int .i64 k∧Below w.heap.size w wr∧∀ (j:Nat) (y:Int),j<k→l[j]?=some y→s.want y 1 false=0) (fun i _=>N - (intOf i).toNat)
 case atStart=>exact⟨0,Nat.zero_le _,rfl,Zr,fun j y hj=>by omega⟩
 case round =>
  obtain⟨k,hk,rfl,hB,hz⟩:=hrel
  have HB:=Qa hB;have HZ:=Qa hz;clear hB hz;by_cases hlt:k<N
  ·have hlt':(k:Int)<N:=by omega
   have hk2:k<l.length:=by rw[HN.out];exact hlt
   obtain⟨g,o,rfl,-,hg,hc0⟩:=ZC HL.out hk2
   obtain⟨y,hy⟩:∃ y,l[k]?=some y:=⟨_,Zg hk2⟩
   rw[show l.getD k 0=y by rw[List.getD_eq_getElem?_getD,hy];rfl] at hc0
   have HX:=Qa hy;clear hy;have y0:=Qi hc0 HB.out;clear hc0 hk2;go_wp2_with fail
   refine(Qez y 1 hL (fun k hk=>Zl (HO.out k hk) HB.out.size) (H.out.below HB.out)).mono ?_
   rintro e' w2 ⟨hO,b2⟩;have B2:Hid (Below w.heap.size w w2):=HB.out.trans (b2.mono HB.out.size);rcases hO with ⟨hc,x,rfl,-⟩|⟨hc,rfl⟩
   rotate_left
   ·exact⟨rfl,.inr ⟨by rw[QaB HX.out HZ.out hc];exact hc,by rw[QaB HX.out HZ.out hc]⟩,B2.out⟩
   have HC:=Qa hc;clear hc b2 y0;go_wp2
   go_roundw
   case rel =>
    refine⟨k+1,hlt,by go_num,B2.out,fun j y' hj hy=>?_⟩
    rcases Nat.lt_or_ge j k with h | h
    ·exact HZ.out j y' h hy
    ·have:j=k:=by omega
     subst this;have e:=HX.out.symm.trans hy;injection e with e
     subst e;exact HC.out
   case measure=>simp[intOf];omega
  ·have hlt':¬ (k:Int)<N:=by omega
   go_wp2
   exact bodyPost_end (v:=.tuple #[]) (by simp[results,results116,go_sem]) rfl ⟨ZW.good (Qai (fun j y hy=>HZ.out j y (by have:=(Zi hy).1;rw[HN.out] at this;omega) hy)) rfl,HB.out⟩
structure Bx (w wr:World) (k r:Int) (a:Option Addr) (len c:Nat):Prop where
 bel:Below w.heap.size w wr
 box:wr.heap[w.heap.size]?=some (.cells #[.int .i64 k,.int .i64 r,.slice a len c] 79 (0,0))
theorem Bx.start (w:World) (k r:Int) (a:Option Addr) (len c:Nat):Bx w (w.alloc (.cells #[.int .i64 k,.int .i64 r,.slice a len c] 79)) k r a len c :=
 ⟨(Below.refl _ w).alloc Ze _,Qe w _ _⟩
theorem Bx.lt {w wr:World}{k r:Int}{a:Option Addr}{len c:Nat}(h:Bx w wr k r a len c):w.heap.size<wr.heap.size:=lt_of_block h.box
theorem Bx.below {w wr w':World}{k r:Int}{a:Option Addr}{len c:Nat}(h:Bx w wr k r a len c) (b:Below wr.heap.size wr w'):Bx w w' k r a len c :=
 ⟨h.bel.trans (b.mono h.bel.size),QaA h.box b⟩
theorem Bx.alloc {w wr:World}{k r:Int}{a:Option Addr}{len c:Nat}(h:Bx w wr k r a len c) (o:Obj):Bx w (wr.alloc o) k r a len c :=
 h.below ((Below.refl _ wr).alloc Ze _)
theorem Bx.drewN {w wr:World}{k r:Int}{a:Option Addr}{len c:Nat}(h:Bx w wr k r a len c) (m:Nat):Bx w (wr.drewN m) k r a len c:=⟨⟨h.bel.os,h.bel.tape,h.bel.output,h.bel.size,h.bel.block⟩,h.box⟩
theorem Bx.drew {w wr:World}{k r:Int}{a:Option Addr}{len c:Nat}(h:Bx w wr k r a len c):Bx w wr.drew k r a len c:=h.drewN 1
theorem QdS {α:Type}(f:α→Nat) (l:List α) (i:Nat) (x:α) (h:l[i]?=some x):((l.map f).take (i+1)).sum=((l.map f).take i).sum+f x:=by
 rw[List.take_add_one,List.getElem?_map,h]
 simp
def QdI (f:Nat) (n:Nat):Prop:=∀ (t:TT n) (a:Option Addr) (c:Nat) (regs:Int) (w:World),TIn w All t a→t.count≤100000 →
 Calls prog f #[Tv t a c,.int .i64 regs] w fun e w'=>e=.returned (.int .i64 (t.fault regs))∧Below w.heap.size w w'
end Go.Proofs.YtacjnejckfhpoadGreat
