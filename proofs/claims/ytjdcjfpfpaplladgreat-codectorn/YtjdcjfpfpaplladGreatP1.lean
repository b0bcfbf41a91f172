import Derived.Test.YtjdcjfpfpaplladGreatRows
import Derived.WalkKit
import Derived.WalkLawsBesides
import Derived.ProofKit
import Derived.OpenShut
import Derived.Deep.OwnRows
import Derived.Deep.AppendLies
import Derived.Deep.Draws
import Derived.Deep.Slices
import Derived.Deep.Strs
import Derived.Below
import Derived.ChangeOld
import Derived.Laws.BitsAllLaws
import Derived.Deep.MidRow
import Derived.Deep.Cut
import Derived.Deep.RegionLaw
import Derived.Deep.QuietTactic
import Derived.BigQuiet
import Derived.RegionTactic
import Derived.Lib.ParseIntB
import Derived.Lib.ItoaLen
set_option maxHeartbeats 16000000
set_option maxRecDepth 100000
namespace Go.Proofs.YtjdcjfpfpaplladGreat
open Go.RowKit
set_option linter.unusedVariables false
structure Step (O O' : Nat → Prop) (w w' : World) : Prop where
  os:w'.os=w.os
  tape:w'.tape=w.tape
  output:w'.output=w.output
  size:w.heap.size≤w'.heap.size
  block:∀ k,k<w.heap.size→¬ O k→w'.heap[k]?=w.heap[k]?
  own:∀ k,O' k→O k∨w.heap.size≤k
theorem Step.refl (O : Nat → Prop) (w : World) : Step O O w w := ⟨rfl, rfl, rfl, Nat.le_refl _, fun _ _ _ => rfl, fun _ h => Or.inl h⟩
theorem Step.trans {O O' O'' : Nat → Prop} {a b c : World} (h : Step O O' a b) (k : Step O' O'' b c) : Step O O'' a c :=
  ⟨k.os.trans h.os,k.tape.trans h.tape,k.output.trans h.output,Nat.le_trans h.size k.size,
   fun i hi hn=>(k.block i (Nat.lt_of_lt_of_le hi h.size) (fun ho=>(h.own i ho).elim hn (fun hge=>by omega))).trans (h.block i hi hn),
   fun i hi=>(k.own i hi).elim (h.own i) (fun hge=>Or.inr (Nat.le_trans h.size hge))⟩
theorem Step.mono {O O' P : Nat → Prop} {a b : World} (h : Step O O' a b) (hP : ∀ k, O k → P k) : Step P O' a b :=
  ⟨h.os,h.tape,h.output,h.size,fun i hi hn=>h.block i hi (fun ho=>hn (hP i ho)),fun i hi=>(h.own i hi).imp (hP i) id⟩
theorem Step.drewN {O O' : Nat → Prop} {a w : World} (h : Step O O' a w) (n : Nat) : Step O O' a (w.drewN n) := ⟨h.os, h.tape, h.output, h.size, h.block, h.own⟩
theorem Step.drew {O O' : Nat → Prop} {a w : World} (h : Step O O' a w) : Step O O' a w.drew := ⟨h.os, h.tape, h.output, h.size, h.block, h.own⟩
theorem Step.alloc {O O' : Nat → Prop} {a w : World} (h : Step O O' a w) (o : Obj) : Step O O' a (w.alloc o) :=
  ⟨h.os,h.tape,h.output,by have:=h.size;simp;omega,fun k hk hn=>(Below.heap_alloc _ _ _ (by have:=h.size;omega)).trans (h.block k hk hn),h.own⟩
theorem Step.setCell {O O' : Nat → Prop} {a w : World} (h : Step O O' a w) {p : Addr} (hp : O' p.block) (u : Value) : Step O O' a (w.setCell p u) :=
  ⟨h.os,h.tape,h.output,by have:=h.size;simp;omega,
   fun k hk hn=>(Below.heap_setCell _ _ _ _ (fun e=>by subst e;rcases h.own _ hp with h' | h';exact hn h';omega)).trans (h.block k hk hn),h.own⟩
theorem Step.below {O O' : Nat → Prop} {a w : World} {B : Nat} (h : Step O O' a w) (hB : B ≤ a.heap.size) (hO : ∀ k, O k → B ≤ k) : Below B a w :=
  ⟨h.os,h.tape,h.output,h.size,fun k hk=>h.block k (by omega) (fun ho=>by have:=hO k ho;omega)⟩
theorem Step.of_below {O O' : Nat → Prop} {a w : World} (h : Below a.heap.size a w) (hO : ∀ k, O' k → O k ∨ a.heap.size ≤ k) : Step O O' a w :=
  ⟨h.os,h.tape,h.output,h.size,fun k hk _=>h.block k hk,hO⟩
theorem Step.keep {O O' : Nat → Prop} {a w : World} (h : Step O O' a w) {k : Nat} {o : Obj} (hk : a.heap[k]? = some o) (hn : ¬ O k) : w.heap[k]? = some o :=
  (h.block k (lt_of_block hk) hn).trans hk
theorem cellOf {w : World} {b : Nat} {c : Array Value} {t : TypeId} (h : w.heap[b]? = some (.cells c t (0, 0))) (i : Nat) (v : Value) (hv : c[i]? = some v) : w.cell? ⟨b, i, none⟩ = some v := by
  simp [World.cell?,h,hv]
theorem freeOf {w : World} {b : Nat} {c : Array Value} {t : TypeId} (h : w.heap[b]? = some (.cells c t (0, 0))) (i : Nat) : w.frozen? ⟨b, i, none⟩ = false := by
  simp [World.frozen?,h]
theorem blockSet {w : World} {b : Nat} {c : Array Value} {t : TypeId} (h : w.heap[b]? = some (.cells c t (0, 0))) (i : Nat) (v : Value) :
    (w.setCell ⟨b,i,none⟩ v).heap[b]?=some (.cells (c.setIfInBounds i v) t (0,0)):=by
  simp [World.setCell,Array.getElem?_modify,h]
theorem blockNew (w : World) (c : Array Value) (t : TypeId) : (w.alloc (.cells c t)).heap[w.heap.size]? = some (.cells c t (0, 0)) := by
  show (w.heap.push _)[w.heap.size]?=_;simp
def Row (w : World) (O : Nat → Prop) (t : TypeId) (v : Value) (xs : List Int) : Prop :=
  w.ownsRow 0 t 1 v xs.length (xs.map (Value.int .i64))∧∀ g,v.ownBlock=some g→O g
theorem Row.nil (w : World) (O : Nat → Prop) (t : TypeId) : Row w O t (.slice none 0 0) [] := ⟨⟨rfl, Or.inl ⟨rfl, rfl⟩⟩, by simp [Value.ownBlock]⟩
theorem Row.form {w : World} {O : Nat → Prop} {t : TypeId} {v : Value} {xs : List Int} (h : Row w O t v xs) :
    ∃ a cap,v=.slice a xs.length cap∧(a=none→xs=[]∧cap=0)∧∀ g,a=some g→g=⟨g.block,0,none⟩∧O g.block∧xs.length≤cap∧cap≤maxLen∧∃ c,w.heap[g.block]?=some (.cells c t (0,0))∧c.size=cap∧∀ i,i<xs.length→c[i]?=some (.int .i64 (xs.getD i 0)):=by
  obtain ⟨⟨h1,h2⟩,h3⟩:=h;rcases h2 with ⟨rfl,h4⟩ | ⟨g,cap,cur,rfl,_,hh,hn,hm,hs,ht⟩
  · have:xs=[]:=List.length_eq_zero_iff.1 h4
    subst this;exact ⟨none,0,rfl,(fun _=>⟨rfl,rfl⟩),(fun g e=>by cases e)⟩
  · refine ⟨some ⟨g,0,none⟩,cap,rfl,(fun e=>by cases e),(fun g' e=>?_)⟩
    cases e
    refine ⟨rfl,h3 g rfl,hn,hm,cur,hh,by simpa using hs,fun i hi=>?_⟩
    have:(cur.toList.take (xs.length*1))[i]?=(xs.map (Value.int .i64))[i]?:=by rw [ht]
    rw [List.getElem?_take,if_pos (by omega),List.getElem?_map] at this;rw [← Array.getElem?_toList,this];simp [List.getD,hi]
theorem Row.cell {w : World} {O : Nat → Prop} {t : TypeId} {g : Nat} {n cap : Nat} {xs : List Int} (h : Row w O t (.slice (some ⟨g, 0, none⟩) n cap) xs) (i : Nat) (hi : i < xs.length) :
    w.cell? ⟨g,i,none⟩=some (.int .i64 (xs.getD i 0)):=by
  obtain ⟨a,cap',e,_,h2⟩:=h.form
  cases e
  obtain ⟨_,_,_,_,c,hc,_,hi'⟩:=h2 _ rfl;exact cellOf hc i _ (hi' i hi)
theorem Row.keep {w w' : World} {O O' : Nat → Prop} {t : TypeId} {v : Value} {xs : List Int} (h : Row w O t v xs) (hb : ∀ g, v.ownBlock = some g → w'.heap[g]? = w.heap[g]?) (hO : ∀ g, v.ownBlock = some g → O' g) : Row w' O' t v xs := by
  obtain ⟨⟨h1,h2⟩,h3⟩:=h;refine ⟨⟨h1,?_⟩,hO⟩;rcases h2 with h4 | ⟨g,cap,cur,rfl,hg,hh,r⟩
  · exact Or.inl h4
  · exact Or.inr ⟨g,cap,cur,rfl,hg,(hb g rfl).trans hh,r⟩
theorem Row.lt {w : World} {O : Nat → Prop} {t : TypeId} {v : Value} {xs : List Int} (h : Row w O t v xs) {g : Nat} (hg : v.ownBlock = some g) : g < w.heap.size := by
  obtain ⟨⟨h1,h2⟩,h3⟩:=h;rcases h2 with ⟨rfl,_⟩ | ⟨g',cap,cur,rfl,_,hh,r⟩
  · simp [Value.ownBlock] at hg
  · simp [Value.ownBlock] at hg;subst hg;exact lt_of_block hh
theorem Row.block {w : World} {O : Nat → Prop} {t : TypeId} {v : Value} {xs : List Int} (h : Row w O t v xs) {g : Nat} (hg : v.ownBlock = some g) : ∃ c, w.heap[g]? = some (.cells c t (0, 0)) := by
  obtain ⟨⟨h1,h2⟩,h3⟩:=h;rcases h2 with ⟨rfl,_⟩ | ⟨g',cap,cur,rfl,_,hh,r⟩
  · simp [Value.ownBlock] at hg
  · simp [Value.ownBlock] at hg;subst hg;exact ⟨cur,hh⟩
theorem Row.step {w w' : World} {O P P' : Nat → Prop} {t : TypeId} {v : Value} {xs : List Int} (h : Row w O t v xs) (k : Step P P' w w') (hd : ∀ x, O x → ¬ P x) : Row w' O t v xs :=
  h.keep (fun g hg=>k.block g (h.lt hg) (hd g (h.2 g hg))) h.2
theorem Row.drewN {w : World} {O : Nat → Prop} {t : TypeId} {v : Value} {xs : List Int} (h : Row w O t v xs) (n : Nat) : Row (w.drewN n) O t v xs := h
theorem Row.init {w : World} {O : Nat → Prop} {t : TypeId} {g n cap : Nat} {xs : List Int} (h : Row w O t (.slice (some ⟨g, 0, none⟩) n cap) xs) (m : Nat) (hm : m ≤ xs.length) :
    Row w O t (.slice (some ⟨g,0,none⟩) m cap) (xs.take m):=by
  obtain ⟨⟨h1,h2⟩,h3⟩:=h;rcases h2 with ⟨e,_⟩ | ⟨g',cap',cur,e,hg,hh,hn,hmx,hs,ht⟩
  · cases e
  · cases e
    have hl:(xs.take m).length=m:=by simp;omega
    refine ⟨⟨by simp,Or.inr ⟨g,cap,cur,by rw [hl],Nat.zero_le _,hh,by omega,hmx,hs,?_⟩⟩,fun g' e=>h3 g' e⟩;rw [hl,Nat.mul_one,List.map_take,← ht,List.take_take,Nat.mul_one,Nat.min_eq_left hm]
theorem Row.head {w : World} {O : Nat → Prop} {t : TypeId} {a : Option Addr} {n cap : Nat} {xs : List Int} (h : Row w O t (.slice a n cap) xs) (hn : 0 < xs.length) :
    ∃ g,a=some ⟨g,0,none⟩∧n=xs.length∧xs.length≤cap∧O g∧g<w.heap.size:=by
  have hlt:=fun g hg=>h.lt (g:=g) hg;obtain ⟨a',cap',e,ha,hs⟩:=h.form;simp only [Value.slice.injEq] at e;obtain ⟨rfl,rfl,rfl⟩:=e
  cases a with
  | none=>rw [(ha rfl).1] at hn;simp at hn
  | some g =>
    have h1:=(hs g rfl).1;exact ⟨g.block,by rw [← h1],rfl,(hs g rfl).2.2.1,(hs g rfl).2.1,hlt _ rfl⟩
theorem setCells_other {b k : Nat} (hk : k ≠ b) : ∀ (vs : List Value) (o : Nat) (w : World), (w.setCells b o vs).heap[k]? = w.heap[k]?
  | [],_,_=>rfl
  | v::r,o,w=>by rw [World.setCells,setCells_other hk r];exact Below.heap_setCell _ _ _ _ hk
theorem Step.setCells {O O' : Nat → Prop} {a : World} {b : Nat} (hp : O' b) : ∀ (vs : List Value) (o : Nat) (w : World), Step O O' a w → Step O O' a (w.setCells b o vs)
  | [],_,_,h=>h
  | v::r,o,w,h=>Step.setCells hp r (o+1) _ (h.setCell (p:=⟨b,o,none⟩) hp v)
#print axioms Row.init
end Go.Proofs.YtjdcjfpfpaplladGreat
namespace Go.Proofs.YtjdcjfpfpaplladGreat
open Go.ChangeShapes Go.WideShapes Go.ChangeAt Go.RowKit Go.Deep
set_option linter.unusedVariables false
structure Lay (α : Type) where
  size:Nat
  In:World→(Nat→Prop)→α→List Value→Prop
  len:∀ {w O x cs},In w O x cs→cs.length=size
  keep:∀ {w w':World} {O O':Nat→Prop} {x cs},(∀ k,O k→k<w.heap.size→w'.heap[k]?=w.heap[k]?)→(∀ k,O k→k<w.heap.size→O' k)→In w O x cs→In w' O' x cs
section
variable {α β : Type} {L : Lay α} {w w' : World} {O O' : Nat → Prop} {x : α} {cs : List Value}
theorem Lay.below (h : L.In w O x cs) (b : Below w.heap.size w w') : L.In w' O x cs := L.keep (fun k _ hk => b.block k hk) (fun _ h _ => h) h
theorem Lay.lt {B : Nat} (h : L.In w (fun g => g < B) x cs) (b : Below B w w') : L.In w' (fun g => g < B) x cs := L.keep (fun k hk _ => b.block k hk) (fun _ h _ => h) h
theorem Lay.mono (h : L.In w O x cs) (hl : ∀ k, O k → k < w.heap.size → O' k) : L.In w O' x cs := L.keep (fun k _ _ => rfl) hl h
theorem Lay.alloc (h : L.In w O x cs) (o : Obj) : L.In (w.alloc o) O x cs := L.keep (fun k _ hk => Below.heap_alloc _ _ _ hk) (fun _ h _ => h) h
theorem Lay.setCell (h : L.In w O x cs) {p : Addr} (hp : ¬ O p.block) (v : Value) : L.In (w.setCell p v) O x cs :=
  L.keep (fun k hk _=>Below.heap_setCell _ _ _ _ (fun e=>by subst e;exact hp hk)) (fun _ h _=>h) h
theorem Lay.drewN (h : L.In w O x cs) (m : Nat) : L.In (w.drewN m) O x cs := L.keep (w := w) (w' := w.drewN m) (fun k _ _ => rfl) (fun _ h _ => h) h
end
def Lay.int : Lay Int where
  size:=1
  In:=fun _ _ x cs=>cs=[.int .i64 x]∧-9223372036854775808≤x∧x≤9223372036854775807
  len:=fun h=>by rw [h.1];rfl
  keep:=fun _ _ h=>h
def Lay.pair {α β : Type} (A : Lay α) (B : Lay β) : Lay (α × β) where
  size:=A.size+B.size
  In:=fun w O x cs=>∃ c d,cs=c++d∧A.In w O x.1 c∧B.In w O x.2 d
  len:=fun ⟨c,d,e,h1,h2⟩=>by rw [e,List.length_append,A.len h1,B.len h2]
  keep:=fun hb hl ⟨c,d,e,h1,h2⟩=>⟨c,d,e,A.keep hb hl h1,B.keep hb hl h2⟩
def Lay.list {α : Type} (A : Lay α) : Lay (List α) where
  size:=1
  In:=fun w O l cs=>∃ a c,cs=[.slice a l.length c]∧∀ (i:Nat) (x:α),l[i]?=some x→∃ g o ds,a=some ⟨g,o,none⟩∧O g∧g<w.heap.size∧(∀ j,j<A.size→w.cell? ⟨g,o+i*A.size+j,none⟩=ds[j]?)∧A.In w O x ds
  len:=fun ⟨_,_,e,_⟩=>by rw [e];rfl
  keep:=fun {w w' O O' l cs} hb hl ⟨a,c,e,h⟩=>⟨a,c,e,fun i x hx=>by
    obtain ⟨g,o,ds,e1,hg,hlt,hc,hi⟩:=h i x hx;have hk:w'.heap[g]?=w.heap[g]?:=hb g hg hlt;refine ⟨g,o,ds,e1,hl g hg hlt,?_,fun j hj=>?_,A.keep hb hl hi⟩
    · rcases Nat.lt_or_ge g w'.heap.size with h' | h'
      · exact h'
      · rw [Array.getElem?_eq_none h',Array.getElem?_eq_getElem hlt] at hk;cases hk
    · exact (World.cell?_of_block (w:=w) (a:=⟨g,o+i*A.size+j,none⟩) hk).trans (hc j hj)⟩
theorem Lay.int_mk (w : World) (O : Nat → Prop) {x : Int} (h : -9223372036854775808 ≤ x ∧ x ≤ 9223372036854775807) : Lay.int.In w O x [.int .i64 x] := ⟨rfl, h⟩
theorem Lay.list_nil {α : Type} (A : Lay α) (w : World) (O : Nat → Prop) (a : Option Addr) (c : Nat) : A.list.In w O [] [.slice a 0 c] := ⟨a, c, rfl, fun i x h => by simp at h⟩
theorem Lay.list_at {α : Type} {A : Lay α} {w : World} {O : Nat → Prop} {l : List α} {a : Option Addr} {n c : Nat} (h : A.list.In w O l [.slice a n c]) {i : Nat} {x : α} (hx : l[i]? = some x) :
    ∃ g o ds,a=some ⟨g,o,none⟩∧O g∧g<w.heap.size∧(∀ j,j<A.size→w.cell? ⟨g,o+i*A.size+j,none⟩=ds[j]?)∧A.In w O x ds:=by
  obtain ⟨a',c',e,h⟩:=h;simp at e
  obtain ⟨rfl,_,rfl⟩:=e;exact h i x hx
def Reads (P : Program) (t : TypeId) {α : Type} (A : Lay α) (n : Nat) : Prop :=
  P.cellsOf t=A.size∧∀ {H:Type} {enc:TypeId × Value→H} {w:World} {base:Nat} {spare:Nat→Bool} {held:Bool} {fuel:Nat} {cs:List Value} {x:DataW H × List MemPlace},
    fuel≤n→DataW.trod enc P w base spare held fuel t cs=some x→∃ d,A.In w (fun _=>True) d cs
theorem Reads.int {P : Program} {t : TypeId} (n : Nat) (h : P.underlying t = some (.int .i64)) (hc : P.cellsOf t = 1) : Reads P t Lay.int n :=
  ⟨hc,fun _ h'=>by
    obtain ⟨k,e,_,wf⟩:=DataW.trod_int h h';exact ⟨k,e,Go.bounds_i64 wf⟩⟩
theorem list_of' {α : Type} {P : Nat → α → Prop} (m : Nat) (h : ∀ i, i < m → ∃ x, P i x) : ∃ l : List α, l.length = m ∧ ∀ i x, l[i]? = some x → P i x := by
  induction m with
  | zero=>exact ⟨[],rfl,fun i x hx=>by simp at hx⟩
  | succ m ih =>
    obtain ⟨l,hl,hp⟩:=ih (fun i hi=>h i (by omega));obtain ⟨x,hx⟩:=h m (by omega);refine ⟨l++[x],by simp [hl],fun i y hy=>?_⟩;rw [List.getElem?_append] at hy;split at hy
    · exact hp i y hy
    · rename_i hi
      have:i=m:=by
        have:=(List.getElem?_eq_some_iff.1 hy).1
        simp at this
        omega
      subst this;simp [hl] at hy;subst hy;exact hx
theorem Reads.list {P : Program} {t e : TypeId} {α : Type} {A : Lay α} {n : Nat} (h : P.underlying t = some (.slice e)) (hc : P.cellsOf t = 1) (hA : Reads P e A n) (h0 : 0 < A.size) : Reads P t A.list (n + 1) :=
  ⟨hc,fun {H enc w base spare held fuel cs x} hf h'=>by
    rcases DataW.trod_slice h h' with ⟨e2,_⟩ | ⟨a,len,cap,elems,rest,q,rfl,e2,_,hb,hl,hm,hlen,hel,_,_⟩
    · exact ⟨[],by rw [e2];exact Lay.list_nil A _ _ _ _⟩
    · obtain ⟨l,hll,hp⟩:=list_of' (P:=fun i (d:α)=>∃ ds,w.cells? base (a.add (i*A.size)) A.size=some ds∧A.In w (fun _=>True) d ds) len (fun i hi=>by
        have he:=hel i hi;rw [List.getElem?_eq_getElem (by omega),hA.1] at he;rw [Option.bind_eq_some_iff] at he;obtain ⟨ds,hds,htr⟩:=he;obtain ⟨d,hd⟩:=hA.2 (by omega) htr;exact ⟨d,ds,hds,hd⟩)
      refine ⟨l,some a,cap,by rw [e2,hll],fun i x hx=>?_⟩;obtain ⟨ds,hds,hd⟩:=hp i x hx;obtain ⟨_,hcl,hcell⟩:=World.cells?_some hds;obtain ⟨b,off,spot⟩:=a
      have hspot:spot=none:=by
        have hi:0<l.length:=Nat.lt_of_le_of_lt (Nat.zero_le i) (List.getElem?_eq_some_iff.1 hx).1;obtain ⟨ds0,hds0,hd0⟩:=hp 0 l[0] (List.getElem?_eq_getElem hi);have hl0:0<ds0.length:=by rw [A.len hd0];exact h0
        have:=(World.cells?_some hds0).2.2 0 h0
        rw [List.getElem?_eq_getElem hl0] at this;simpa [Addr.add] using World.cell?_spot this
      subst hspot
      have key:∀ j,j<A.size→w.cell? ⟨b,off+i*A.size+j,none⟩=ds[j]?:=fun j hj=>by
        have:=hcell j hj
        rw [Go.WideShapes.add_plain,Go.WideShapes.add_plain] at this;exact this
      refine ⟨b,off,ds,rfl,trivial,?_,key,hd⟩;have hl0:0<ds.length:=by rw [A.len hd];exact h0
      have:=key 0 h0
      rw [List.getElem?_eq_getElem hl0] at this;exact World.block_lt_of_cell? w _ this⟩
theorem Reads.mono {P : Program} {t : TypeId} {α : Type} {A : Lay α} {n m : Nat} (h : Reads P t A n) (hm : m ≤ n) : Reads P t A m := ⟨h.1, fun hf h' => h.2 (Nat.le_trans hf hm) h'⟩
def FieldsFrom (P : Program) (fs : Array Field) : Nat → Nat → {α : Type} → Lay α → Nat → Prop := fun i o α A n =>
  ∀ {H:Type} {enc:TypeId × Value→H} {w:World} {base:Nat} {spare:Nat→Bool} {held:Bool} {fuel:Nat} {cs:List Value} {xs:List (DataW H × List MemPlace)},
    fuel≤n→cs.length=o+A.size→xs.length=fs.size→(∀ (j:Nat) (f:Field),fs[j]?=some f→DataW.trod enc P w base spare held fuel f.type ((cs.drop f.offset).take (P.cellsOf f.type))=xs[j]?) →
    ∃ d,A.In w (fun _=>True) d (cs.drop o)
theorem FieldsFrom.last {P : Program} {fs : Array Field} {i o n : Nat} {f : Field} {α : Type} {A : Lay α} (hf : fs[i]? = some f) (ho : f.offset = o) (hA : Reads P f.type A n) : FieldsFrom P fs i o A n := by
  intro H enc w base spare held fuel cs xs hn hl hx h;have g:=h i f hf;have hi:i<fs.size:=(Array.getElem?_eq_some_iff.1 hf).1;rw [List.getElem?_eq_getElem (by omega),ho,hA.1] at g;obtain ⟨d,hd⟩:=hA.2 hn g;refine ⟨d,?_⟩;rwa [List.take_of_length_le (by simp;omega)] at hd
theorem FieldsFrom.cons {P : Program} {fs : Array Field} {i o n : Nat} {f : Field} {α β : Type} {A : Lay α} {B : Lay β} (hf : fs[i]? = some f) (ho : f.offset = o) (hA : Reads P f.type A n) (hB : FieldsFrom P fs (i + 1) (o + A.size) B n) : FieldsFrom P fs i o (A.pair B) n := by
  intro H enc w base spare held fuel cs xs hn hl hx h;have g:=h i f hf;have hi:i<fs.size:=(Array.getElem?_eq_some_iff.1 hf).1;rw [List.getElem?_eq_getElem (by omega),ho,hA.1] at g;obtain ⟨d,hd⟩:=hA.2 hn g;have hs:(A.pair B).size=A.size+B.size:=rfl;obtain ⟨e,he⟩:=hB hn (by omega) hx h;refine ⟨(d,e),_,_,?_,hd,he⟩;rw [← List.drop_drop,List.take_append_drop]
theorem Reads.struct {P : Program} {t : TypeId} {fs : Array Field} {α : Type} {A : Lay α} {n : Nat} (h : P.underlying t = some (.struct fs)) (hc : P.cellsOf t = A.size) (hF : FieldsFrom P fs 0 0 A n) : Reads P t A (n + 1) :=
  ⟨hc,fun {H enc w base spare held fuel cs x} hf h'=>by
    obtain ⟨xs,m,rfl,_,hcl,hxl,hfl⟩:=DataW.trod_struct h h';obtain ⟨d,hd⟩:=hF (by omega) (by rw [hcl,hc];omega) hxl hfl;exact ⟨d,by simpa using hd⟩⟩
structure ARow {α : Type} (A : Lay α) (e : TypeId) (w : World) (lo : Nat) (v : Value) (l : List α) (xs : List Value) : Prop where
  own:w.ownsRow lo e A.size v l.length xs
  kids:∀ (i:Nat) (x:α),l[i]?=some x→A.In w (fun g=>lo≤g∧v.ownBlock≠some g) x ((xs.drop (i*A.size)).take A.size)
section
variable {α : Type} {A : Lay α} {e : TypeId} {w w' : World} {lo : Nat} {v : Value} {l : List α} {xs : List Value}
theorem ARow.nil (A : Lay α) (e : TypeId) (w : World) (lo : Nat) : ARow A e w lo (.slice none 0 0) [] [] := ⟨⟨by simp, Or.inl ⟨rfl, rfl⟩⟩, fun i x h => by simp at h⟩
theorem ARow.lo_le (h : ARow A e w lo v l xs) {g : Nat} (hg : v.ownBlock = some g) : lo ≤ g ∧ g < w.heap.size := by
  obtain ⟨⟨h1,h2⟩,h3⟩:=h;rcases h2 with ⟨rfl,h4⟩ | ⟨g',cap,cur,rfl,hg',hh,r⟩
  · simp [Value.ownBlock] at hg
  · simp [Value.ownBlock] at hg;subst hg;exact ⟨hg',lt_of_block hh⟩
theorem ARow.below (h : ARow A e w lo v l xs) (b : Below w.heap.size w w') : ARow A e w' lo v l xs := by
  obtain ⟨⟨h1,h2⟩,h3⟩:=h;refine ⟨⟨h1,?_⟩,fun i x hx=>Lay.below (h3 i x hx) b⟩;rcases h2 with h4 | ⟨g,cap,cur,e,hg,hh,r⟩
  · exact Or.inl h4
  · exact Or.inr ⟨g,cap,cur,e,hg,(b.block g (lt_of_block hh)).trans hh,r⟩
theorem ARow.setOther (h : ARow A e w lo v l xs) {p : Addr} (hp : p.block < lo) (y : Value) : ARow A e (w.setCell p y) lo v l xs := by
  obtain ⟨⟨h1,h2⟩,h3⟩:=h;refine ⟨⟨h1,?_⟩,fun i x hx=>Lay.setCell (h3 i x hx) (fun hk=>by have:=hk.1;omega) _⟩;rcases h2 with h4 | ⟨g,cap,cur,e,hg,hh,r⟩
  · exact Or.inl h4
  · exact Or.inr ⟨g,cap,cur,e,hg,(Below.heap_setCell _ _ _ _ (by omega)).trans hh,r⟩
theorem ARow.lay (h : ARow A e w lo v l xs) : A.list.In w (fun g => lo ≤ g) l [v] := by
  obtain ⟨⟨h1,h2⟩,h3⟩:=h;rcases h2 with ⟨rfl,h4⟩ | ⟨g,cap,cur,rfl,hg,hh,hn,hm,hs,ht⟩
  · have:l=[]:=List.length_eq_zero_iff.1 h4
    subst this;exact Lay.list_nil A _ _ _ _
  · refine ⟨some ⟨g,0,none⟩,cap,rfl,fun i x hx=>⟨g,0,_,rfl,hg,lt_of_block hh,fun j hj=>?_,Lay.mono (h3 i x hx) (fun k hk _=>hk.1)⟩⟩;have hi:i<l.length:=(List.getElem?_eq_some_iff.1 hx).1
    have hij:i*A.size+j<l.length*A.size:=by
      have:(i+1)*A.size≤l.length*A.size:=Nat.mul_le_mul_right _ hi
      rw [Nat.add_mul] at this;omega
    rw [List.getElem?_take,if_pos hj,List.getElem?_drop,← ht,List.getElem?_take,if_pos hij,Nat.zero_add]
    have hcs:i*A.size+j<cur.size:=by
      have:l.length*A.size≤cap*A.size:=Nat.mul_le_mul_right _ hn
      omega
    rw [Array.getElem?_toList];exact (cellOf hh _ cur[i*A.size+j] (Array.getElem?_eq_getElem hcs)).trans (Array.getElem?_eq_getElem hcs).symm
theorem ARow.push (h : ARow A e w lo v l xs) {x : α} {ds : List Value} (hx : A.In w (fun g => lo ≤ g ∧ v.ownBlock ≠ some g) x ds)
    {g cap:Nat} (hg:w.grownBy w' v.ownBlock) (hat:v.ownBlock=some g∨g=w.heap.size)
    (ho:w'.ownsRow lo e A.size (.slice (some ⟨g,0,none⟩) (l.length+1) cap) (l.length+1) (xs++ds)) :
    ARow A e w' lo (.slice (some ⟨g,0,none⟩) (l.length+1) cap) (l++[x]) (xs++ds):=by
  obtain ⟨h1,h3⟩:=h;have hxl:=h1.1;have hdl:=A.len hx
  have keep:∀ {y:α} {es:List Value},A.In w (fun g=>lo≤g∧v.ownBlock≠some g) y es→A.In w' (fun g'=>lo≤g'∧(Value.slice (some ⟨g,0,none⟩) (l.length+1) cap).ownBlock≠some g') y es:=fun hy=>by
    refine A.keep (fun k hk hl=>?_) (fun k hk hl=>⟨hk.1,?_⟩) hy
    · exact hg.block k hl (fun e=>hk.2 e.symm)
    · simp only [Value.ownBlock,ne_eq,Option.some.injEq];intro e;subst e;rcases hat with h' | h'
      · exact hk.2 h'
      · omega
  refine ⟨by rw [List.length_append];exact ho,fun i y hy=>?_⟩;rw [List.getElem?_append] at hy;split at hy
  · rename_i hi
    have hm:(i+1)*A.size≤l.length*A.size:=Nat.mul_le_mul_right _ hi;rw [Nat.add_mul] at hm
    have:=h3 i y hy
    rw [List.drop_append_of_le_length (by omega),List.take_append_of_le_length (by simp;omega)];exact keep this
  · rename_i hi
    have hi2:i=l.length:=by
      have:=(List.getElem?_eq_some_iff.1 hy).1
      simp at this
      omega
    subst hi2;simp at hy
    subst hy;rw [List.drop_append,List.drop_of_length_le (by omega),← hxl,Nat.sub_self,List.drop_zero,List.nil_append,List.take_of_length_le (by omega)];exact keep hx
end
end Go.Proofs.YtjdcjfpfpaplladGreat
namespace Go.Proofs.YtjdcjfpfpaplladGreat
set_option linter.unusedVariables false
def TT : Nat → Type
  | 0=>Empty
  | n+1=>Int × Int × List (TT n)
def TT.kind : {n : Nat} → TT n → Int
  | 0,t=>Empty.elim t
  | _+1,t=>t.1
def TT.r : {n : Nat} → TT n → Int
  | 0,t=>Empty.elim t
  | _+1,t=>t.2.1
def TT.len : {n : Nat} → TT n → Nat
  | 0,t=>Empty.elim t
  | _+1,t=>t.2.2.length
def TT.count : {n : Nat} → TT n → Nat
  | 0,t=>Empty.elim t
  | n+1,t=>1+(t.2.2.map (TT.count (n:=n))).sum
def TT.height : {n : Nat} → TT n → Nat
  | 0,t=>Empty.elim t
  | n+1,t=>(t.2.2.map (fun x=>1+TT.height (n:=n) x)).foldl max 0
def ownC (k r : Int) (len : Nat) (regs : Int) : Int :=
  if k<1∨4<k then 3
  else if k=1∧r≠0 then 4
  else if k≠3∧0<len then 4
  else if 8<len then 2
  else if k≠1∧(r<0∨regs≤r) then 1
  else 0
def firstL {α : Type} (f : α → Int) : List α → Int
  | []=>0
  | x::xs=>if f x≠0 then f x else firstL f xs
def TT.fault : {n : Nat} → Int → TT n → Int
  | 0,_,t=>Empty.elim t
  | n+1,regs,t=>if ownC t.1 t.2.1 t.2.2.length regs≠0 then ownC t.1 t.2.1 t.2.2.length regs else firstL (TT.fault (n:=n) regs) t.2.2
def TT.check {n : Nat} (regs : Int) (t : TT n) : Int := if 4 < t.height then 19 else t.fault regs
def TT.ok : {n : Nat} → TT n → Prop
  | 0,t=>Empty.elim t
  | n+1,t=>(-9223372036854775808≤t.2.1∧t.2.1≤9223372036854775807)∧∀ x∈t.2.2,TT.ok (n:=n) x
theorem firstL_eq {α : Type} {f : α → Int} : ∀ {l : List α} {i : Nat} {x : α}, l[i]? = some x → (∀ (j : Nat) y, j < i → l[j]? = some y → f y = 0) → f x ≠ 0 → firstL f l = f x
  | [],i,x,h,_,_=>by simp at h
  | y::ys,0,x,h,_,hf=>by simp at h;subst h;simp [firstL,hf]
  | y::ys,i+1,x,h,hz,hf=>by
    have h0:f y=0:=hz 0 y (by omega) rfl;simp only [firstL,h0,ne_eq,not_true_eq_false,if_false];exact firstL_eq (by simpa using h) (fun j z hj hjz=>hz (j+1) z (by omega) (by simpa using hjz)) hf
theorem firstL_zero {α : Type} {f : α → Int} : ∀ {l : List α}, (∀ (j : Nat) y, l[j]? = some y → f y = 0) → firstL f l = 0
  | [],_=>rfl
  | y::ys,h=>by
    have h0:f y=0:=h 0 y rfl;simp only [firstL,h0,ne_eq,not_true_eq_false,if_false];exact firstL_zero (fun j z hz=>h (j+1) z (by simpa using hz))
theorem firstL_zero_iff {α : Type} {f : α → Int} : ∀ {l : List α}, firstL f l = 0 ↔ ∀ x ∈ l, f x = 0
  | []=>by simp [firstL]
  | y::ys=>by
    simp only [firstL];by_cases h:f y=0
    · simp [h,firstL_zero_iff]
    · simp [h]
theorem TT.count_pos : {n : Nat} → (t : TT n) → 1 ≤ t.count
  | 0,t=>Empty.elim t
  | n+1,t=>by simp only [TT.count];omega
theorem sum_take_le (l : List Nat) : ∀ i, (l.take i).sum ≤ l.sum := by
  intro i
  have:=congrArg List.sum (List.take_append_drop i l)
  rw [List.sum_append] at this;omega
theorem length_le_sum : ∀ (l : List Nat), (∀ x ∈ l, 1 ≤ x) → l.length ≤ l.sum
  | [],_=>by simp
  | x::xs,h=>by
    have h1:=h x (by simp);have h2:=length_le_sum xs (fun y hy=>h y (by simp [hy]));simp only [List.length_cons,List.sum_cons];omega
theorem TT.len_lt_count : {n : Nat} → (t : TT n) → t.len < t.count
  | 0,t=>Empty.elim t
  | n+1,t=>by
    have:=length_le_sum (t.2.2.map (TT.count (n:=n))) (fun x hx=>by simp only [List.mem_map] at hx;obtain ⟨y,_,rfl⟩:=hx;exact y.count_pos)
    simp only [TT.count,TT.len];simp at this
    omega
theorem le_sum_of_mem : ∀ {l : List Nat} {x : Nat}, x ∈ l → x ≤ l.sum
  | y::ys,x,h=>by
    rcases List.mem_cons.1 h with rfl | h
    · simp
    · have:=le_sum_of_mem h
      simp only [List.sum_cons];omega
theorem TT.count_kid {n : Nat} (t : TT (n + 1)) {x : TT n} (h : x ∈ t.2.2) : x.count < t.count := by
  have:=le_sum_of_mem (l:=t.2.2.map (TT.count (n:=n))) (List.mem_map_of_mem h)
  simp only [TT.count];omega
theorem foldl_max_le {l : List Nat} {a m : Nat} : l.foldl max a ≤ m ↔ a ≤ m ∧ ∀ x ∈ l, x ≤ m := by
  induction l generalizing a with
  | nil=>simp
  | cons y ys ih =>
    simp only [List.foldl_cons,ih,List.mem_cons,forall_eq_or_imp,Nat.max_le,and_assoc]
theorem height_le {n : Nat} {t : TT (n + 1)} {m : Nat} : t.height ≤ m ↔ ∀ x ∈ t.2.2, 1 + x.height ≤ m := by
  simp only [TT.height,foldl_max_le,List.mem_map,Nat.zero_le,true_and,forall_exists_index,and_imp,forall_apply_eq_imp_iff₂]
theorem TT.fault_zero {n : Nat} {t : TT (n + 1)} {regs : Int} (h : t.fault regs = 0) : ownC t.1 t.2.1 t.2.2.length regs = 0 ∧ ∀ x ∈ t.2.2, x.fault regs = 0 := by
  simp only [TT.fault] at h;split at h
  · contradiction
  · rename_i h1
    exact ⟨by simpa using h1,firstL_zero_iff.1 h⟩
end Go.Proofs.YtjdcjfpfpaplladGreat
namespace Go.Proofs.YtjdcjfpfpaplladGreat
open Go.ChangeShapes Go.WideShapes Go.ChangeAt Go.RowKit Go.Deep
set_option linter.unusedVariables false
abbrev All : Nat → Prop := fun _ => True
def TIn (w : World) (O : Nat → Prop) : {n : Nat} → TT n → Option Addr → Prop
  | 0,t,_=>Empty.elim t
  | n+1,t,a=>∀ (i:Nat) (x:TT n),t.2.2[i]?=some x→∃ g o a' c',a=some ⟨g,o,none⟩∧O g ∧
      w.cell? ⟨g,o+i*3,none⟩=some (.int .i64 x.kind)∧w.cell? ⟨g,o+i*3+1,none⟩=some (.int .i64 x.r)∧w.cell? ⟨g,o+i*3+2,none⟩=some (.slice a' x.len c')∧TIn w O (n:=n) x a'
abbrev Tv {n : Nat} (t : TT n) (a : Option Addr) (c : Nat) : Value := .agg #[.int .i64 t.kind, .int .i64 t.r, .slice a t.len c]
abbrev mkT {n : Nat} (k r : Int) (l : List (TT n)) : TT (n + 1) := (k, r, l)
abbrev LIn (w : World) (O : Nat → Prop) {n : Nat} (l : List (TT n)) (a : Option Addr) : Prop := TIn w O (mkT 0 0 l) a
theorem TIn.list {w : World} {O : Nat → Prop} {n : Nat} {t : TT (n + 1)} {a : Option Addr} (h : TIn w O t a) : LIn w O t.2.2 a := h
theorem LIn.tree {w : World} {O : Nat → Prop} {n : Nat} {k r : Int} {l : List (TT n)} {a : Option Addr} (h : LIn w O l a) : TIn w O (mkT k r l) a := h
theorem LIn.at {w : World} {O : Nat → Prop} {n : Nat} {l : List (TT n)} {a : Option Addr} (h : LIn w O l a) {i : Nat} {x : TT n} (hx : l[i]? = some x) :
    ∃ g o a' c',a=some ⟨g,o,none⟩∧O g ∧
      w.cell? ⟨g,o+i*3,none⟩=some (.int .i64 x.kind)∧w.cell? ⟨g,o+i*3+1,none⟩=some (.int .i64 x.r)∧w.cell? ⟨g,o+i*3+2,none⟩=some (.slice a' x.len c')∧TIn w O x a':=h i x hx
theorem LIn.nil {w : World} {O : Nat → Prop} {n : Nat} {a : Option Addr} : LIn w O ([] : List (TT n)) a := fun i x h => by simp at h
theorem TIn.keep {w w' : World} {O O' : Nat → Prop} (hb : ∀ k, O k → k < w.heap.size → w'.heap[k]? = w.heap[k]?) (hl : ∀ k, O k → k < w.heap.size → O' k) : {n : Nat} → {t : TT n} → {a : Option Addr} → TIn w O t a → TIn w' O' t a
  | 0,t,_,_=>Empty.elim t
  | n+1,t,a,h=>fun i x hx=>by
    obtain ⟨g,o,a',c',e,hg,h1,h2,h3,h4⟩:=h i x hx;have hgl:g<w.heap.size:=World.block_lt_of_cell? w ⟨g,o+i*3,none⟩ h1;have hk:w'.heap[g]?=w.heap[g]?:=hb g hg hgl;refine ⟨g,o,a',c',e,hl g hg hgl,?_,?_,?_,TIn.keep hb hl h4⟩
    · exact (World.cell?_of_block (w:=w) (a:=⟨g,o+i*3,none⟩) hk).trans h1
    · exact (World.cell?_of_block (w:=w) (a:=⟨g,o+i*3+1,none⟩) hk).trans h2
    · exact (World.cell?_of_block (w:=w) (a:=⟨g,o+i*3+2,none⟩) hk).trans h3
section
variable {w w' : World} {O O' : Nat → Prop} {n : Nat} {t : TT n} {a : Option Addr}
theorem TIn.below (h : TIn w O t a) (b : Below w.heap.size w w') : TIn w' O t a := h.keep (fun k _ hk => b.block k hk) (fun _ h _ => h)
theorem TIn.mono (h : TIn w O t a) (hl : ∀ k, O k → k < w.heap.size → O' k) : TIn w O' t a := h.keep (fun k _ _ => rfl) hl
theorem TIn.all (h : TIn w O t a) : TIn w All t a := h.mono (fun _ _ _ => trivial)
theorem TIn.alloc (h : TIn w O t a) (o : Obj) : TIn (w.alloc o) O t a := h.keep (fun k _ hk => Below.heap_alloc _ _ _ hk) (fun _ h _ => h)
theorem TIn.setCell (h : TIn w O t a) {p : Addr} (hp : ¬ O p.block) (v : Value) : TIn (w.setCell p v) O t a :=
  h.keep (fun k hk _=>Below.heap_setCell _ _ _ _ (fun e=>by subst e;exact hp hk)) (fun _ h _=>h)
theorem TIn.drew (h : TIn w O t a) : TIn w.drew O t a := h.keep (w := w) (w' := w.drew) (fun k _ _ => rfl) (fun _ h _ => h)
theorem TIn.drewN (h : TIn w O t a) (m : Nat) : TIn (w.drewN m) O t a := h.keep (w := w) (w' := w.drewN m) (fun k _ _ => rfl) (fun _ h _ => h)
end
theorem TT.len_eq {n : Nat} (t : TT (n + 1)) : t.len = t.2.2.length := rfl
theorem list_of {α : Type} {P : Nat → α → Prop} (m : Nat) (h : ∀ i, i < m → ∃ x, P i x) : ∃ l : List α, l.length = m ∧ ∀ i x, l[i]? = some x → P i x := by
  induction m with
  | zero=>exact ⟨[],rfl,fun i x hx=>by simp at hx⟩
  | succ m ih =>
    obtain ⟨l,hl,hp⟩:=ih (fun i hi=>h i (by omega));obtain ⟨x,hx⟩:=h m (by omega);refine ⟨l++[x],by simp [hl],fun i y hy=>?_⟩;rw [List.getElem?_append] at hy;split at hy
    · exact hp i y hy
    · rename_i hi
      have:i=m:=by
        have:=(List.getElem?_eq_some_iff.1 hy).1
        simp at this
        omega
      subst this;simp [hl] at hy;subst hy;exact hx
theorem tin_of {H : Type} {enc : TypeId × Value → H} {P : Program} {w : World} {base : Nat} {spare : Nat → Bool} {held : Bool} {tt ts ti : TypeId} {f0 f1 f2 : Field}
    (hs:P.underlying ts=some (.slice tt)) (ht:P.underlying tt=some (.struct #[f0,f1,f2])) (hc:P.cellsOf tt=3)
    (h0:f0.offset=0∧P.cellsOf f0.type=1∧P.underlying f0.type=some (.int .i64)) (h1:f1.offset=1∧P.cellsOf f1.type=1∧P.underlying f1.type=some (.int .i64))
    (h2:f2.offset=2∧P.cellsOf f2.type=1∧f2.type=ts):∀ (n fuel:Nat),fuel≤n→∀ {cs:List Value} {x:DataW H × List MemPlace},
    DataW.trod enc P w base spare held fuel tt cs=some x→∃ (T:TT n) (a:Option Addr) (c:Nat),cs=[.int .i64 T.kind,.int .i64 T.r,.slice a T.len c]∧TIn w All T a∧T.ok:=by
  intro n
  induction n with
  | zero =>
    intro fuel hf cs x h;obtain rfl:fuel=0:=by omega
    simp [DataW.trod] at h
  | succ n ih =>
    intro fuel hf cs x h;obtain ⟨xs,m,rfl,_,hcl,hxl,hfl⟩:=DataW.trod_struct ht h;have hxl':xs.length=3:=hxl;have g0:=hfl 0 f0 rfl;have g1:=hfl 1 f1 rfl;have g2:=hfl 2 f2 rfl;rw [h0.1,h0.2.1,List.getElem?_eq_getElem (by omega)] at g0;rw [h1.1,h1.2.1,List.getElem?_eq_getElem (by omega)] at g1;rw [h2.1,h2.2.1,h2.2.2,List.getElem?_eq_getElem (by omega)] at g2;obtain ⟨k,e0,_,_⟩:=DataW.trod_int h0.2.2 g0;obtain ⟨r,e1,_,wf1⟩:=DataW.trod_int h1.2.2 g1
    have ew:-9223372036854775808≤r∧r≤9223372036854775807:=by
      have:=Go.bounds_i64 wf1
      omega
    rw [hc] at hcl
    obtain ⟨c0,c1,c2,rfl⟩:∃ c0 c1 c2,cs=[c0,c1,c2]:=by
      match cs,hcl with
      | [c0,c1,c2],_=>exact ⟨_,_,_,rfl⟩
    simp at e0 e1
    subst e0 e1;rcases DataW.trod_slice hs g2 with ⟨e2,_⟩ | ⟨a,len,cap,elems,rest,q,rfl,e2,_,hb,hl,hm,hlen,hel,_,_⟩
    · simp at e2
      subst e2;exact ⟨mkT k r [],none,0,rfl,LIn.nil,ew,fun x hx=>by cases hx⟩
    · simp at e2
      subst e2
      obtain ⟨l,hll,hp⟩:=list_of (P:=fun i (T:TT n)=>∃ a' c',w.cells? base (a.add (i*3)) 3=some [.int .i64 T.kind,.int .i64 T.r,.slice a' T.len c']∧TIn w All T a'∧T.ok) len (fun i hi=>by
        have he:=hel i hi;rw [List.getElem?_eq_getElem (by omega),hc] at he;rw [Option.bind_eq_some_iff] at he;obtain ⟨cs',hcs,htr⟩:=he;obtain ⟨T,a',c',rfl,t1,t2⟩:=ih q (by omega) htr;exact ⟨T,a',c',hcs,t1,t2⟩)
      refine ⟨mkT k r l,some a,cap,by simp [TT.kind,TT.r,TT.len,hll],fun i x hx=>?_,ew,fun x hx=>?_⟩
      · obtain ⟨a',c',hcs,t1,t2⟩:=hp i x hx;obtain ⟨_,hcl',hcell⟩:=World.cells?_some hcs;have q0:=hcell 0 (by omega);have q1:=hcell 1 (by omega);have q2:=hcell 2 (by omega);obtain ⟨b,off,spot⟩:=a
        have hspot:spot=none:=by
          have hi:0<l.length:=Nat.lt_of_le_of_lt (Nat.zero_le i) (List.getElem?_eq_some_iff.1 hx).1;obtain ⟨_,_,hcs0,_,_⟩:=hp 0 l[0] (List.getElem?_eq_getElem hi)
          have:=(World.cells?_some hcs0).2.2 0 (by omega)
          simpa [Addr.add] using World.cell?_spot this
        subst hspot;rw [Go.WideShapes.add_plain,Go.WideShapes.add_plain] at q0 q1 q2;exact ⟨b,off,a',c',rfl,trivial,q0,q1,q2,t1⟩
      · obtain ⟨i,hi,rfl⟩:=List.mem_iff_getElem.1 hx;obtain ⟨a',c',hcs,t1,t2⟩:=hp i l[i] (List.getElem?_eq_getElem hi);exact t2
#print axioms tin_of
structure MIns where
  op:Int
  a:Int
  b:Int
  c:Int
  k:Int
  n:Int
  regs:List Int
  args:List Int
structure MTo where
  block:Int
  regs:List Int
  args:List Int
structure MEnd where
  op:Int
  a:Int
  yes:MTo
  no:MTo
  args:List Int
structure MBlock (n : Nat) where
  regs:Int
  params:List (TT n)
  code:List MIns
  fin:MEnd
structure MFunc (n : Nat) where
  regs:Int
  params:List (TT n)
  results:List (TT n)
  blocks:List (MBlock n)
def Lay.via {α β : Type} (A : Lay α) (f : β → α) : Lay β where
  size:=A.size
  In:=fun w O x cs=>A.In w O (f x) cs
  len:=fun h=>A.len h
  keep:=fun hb hl h=>A.keep hb hl h
theorem Reads.via {P : Program} {t : TypeId} {α β : Type} {A : Lay α} {n : Nat} {f : β → α} (h : Reads P t A n) (g : α → β) (hg : ∀ d, f (g d) = d) : Reads P t (A.via f) n :=
  ⟨h.1,fun hf h'=>by
    obtain ⟨d,hd⟩:=h.2 hf h';exact ⟨g d,by show A.In _ _ (f (g d)) _;rw [hg];exact hd⟩⟩
def Lay.tt (n : Nat) : Lay (TT n) where
  size:=3
  In:=fun w O t cs=>∃ a c,cs=[.int .i64 t.kind,.int .i64 t.r,.slice a t.len c]∧TIn w O t a∧t.ok
  len:=fun ⟨_,_,e,_⟩=>by rw [e];rfl
  keep:=fun hb hl ⟨a,c,e,h1,h2⟩=>⟨a,c,e,h1.keep hb hl,h2⟩
abbrev intsL : Lay (List Int) := Lay.int.list
abbrev typesL (n : Nat) : Lay (List (TT n)) := (Lay.tt n).list
def insL : Lay MIns := (Lay.int.pair (Lay.int.pair (Lay.int.pair (Lay.int.pair (Lay.int.pair (Lay.int.pair (intsL.pair intsL))))))).via (fun x => (x.op, x.a, x.b, x.c, x.k, x.n, x.regs, x.args))
def toL : Lay MTo := (Lay.int.pair (intsL.pair intsL)).via (fun x => (x.block, x.regs, x.args))
def endL : Lay MEnd := (Lay.int.pair (Lay.int.pair (toL.pair (toL.pair intsL)))).via (fun x => (x.op, x.a, x.yes, x.no, x.args))
def blockL (n : Nat) : Lay (MBlock n) := (Lay.int.pair ((typesL n).pair (insL.list.pair endL))).via (fun x => (x.regs, x.params, x.code, x.fin))
def funcL (n : Nat) : Lay (MFunc n) := (Lay.int.pair ((typesL n).pair ((typesL n).pair (blockL n).list))).via (fun x => (x.regs, x.params, x.results, x.blocks))
abbrev modL (n : Nat) : Lay (List (MFunc n)) := (funcL n).list
section
variable {w : World} {O : Nat → Prop} {n : Nat} {cs : List Value}
theorem list_form {α : Type} {A : Lay α} {l : List α} (h : A.list.In w O l cs) : ∃ a c, cs = [.slice a l.length c] ∧ A.list.In w O l [.slice a l.length c] := by
  obtain ⟨a,c,e,h⟩:=h;exact ⟨a,c,e,a,c,rfl,h⟩
theorem to_form {x : MTo} (h : toL.In w O x cs) : ∃ a c b d, cs = [.int .i64 x.block, .slice a x.regs.length c, .slice b x.args.length d] ∧ intsL.In w O x.regs [.slice a x.regs.length c] ∧ intsL.In w O x.args [.slice b x.args.length d] ∧ (-9223372036854775808 ≤ x.block ∧ x.block ≤ 9223372036854775807) := by
  obtain ⟨_,_,rfl,⟨rfl,h0⟩,⟨_,_,rfl,h1,h2⟩⟩:=h;obtain ⟨a,c,rfl,h1⟩:=list_form h1;obtain ⟨b,d,rfl,h2⟩:=list_form h2;exact ⟨a,c,b,d,rfl,h1,h2,h0⟩
theorem to_mk {x : MTo} {a b : Option Addr} {c d : Nat} (h1 : intsL.In w O x.regs [.slice a x.regs.length c]) (h2 : intsL.In w O x.args [.slice b x.args.length d]) (h0 : -9223372036854775808 ≤ x.block ∧ x.block ≤ 9223372036854775807) :
    toL.In w O x [.int .i64 x.block,.slice a x.regs.length c,.slice b x.args.length d]:=⟨_,_,rfl,⟨rfl,h0⟩,⟨_,_,rfl,h1,h2⟩⟩
theorem ins_form {x : MIns} (h : insL.In w O x cs) : ∃ a c b d, cs = [.int .i64 x.op, .int .i64 x.a, .int .i64 x.b, .int .i64 x.c, .int .i64 x.k, .int .i64 x.n, .slice a x.regs.length c, .slice b x.args.length d] ∧ intsL.In w O x.regs [.slice a x.regs.length c] ∧ intsL.In w O x.args [.slice b x.args.length d] ∧
    ((-9223372036854775808≤x.op∧x.op≤9223372036854775807)∧(-9223372036854775808≤x.a∧x.a≤9223372036854775807)∧(-9223372036854775808≤x.b∧x.b≤9223372036854775807)∧(-9223372036854775808≤x.c∧x.c≤9223372036854775807)∧(-9223372036854775808≤x.k∧x.k≤9223372036854775807)∧(-9223372036854775808≤x.n∧x.n≤9223372036854775807)):=by
  obtain ⟨_,_,rfl,⟨rfl,h0⟩,⟨_,_,rfl,⟨rfl,h1⟩,⟨_,_,rfl,⟨rfl,h2⟩,⟨_,_,rfl,⟨rfl,h3⟩,⟨_,_,rfl,⟨rfl,h4⟩,⟨_,_,rfl,⟨rfl,h5⟩,⟨_,_,rfl,h6,h7⟩⟩⟩⟩⟩⟩⟩:=h;obtain ⟨a,c,rfl,h6⟩:=list_form h6;obtain ⟨b,d,rfl,h7⟩:=list_form h7;exact ⟨a,c,b,d,rfl,h6,h7,h0,h1,h2,h3,h4,h5⟩
theorem ins_mk {x : MIns} {a b : Option Addr} {c d : Nat} (h1 : intsL.In w O x.regs [.slice a x.regs.length c]) (h2 : intsL.In w O x.args [.slice b x.args.length d])
    (h0:(-9223372036854775808≤x.op∧x.op≤9223372036854775807)∧(-9223372036854775808≤x.a∧x.a≤9223372036854775807)∧(-9223372036854775808≤x.b∧x.b≤9223372036854775807)∧(-9223372036854775808≤x.c∧x.c≤9223372036854775807)∧(-9223372036854775808≤x.k∧x.k≤9223372036854775807)∧(-9223372036854775808≤x.n∧x.n≤9223372036854775807)) :
    insL.In w O x [.int .i64 x.op,.int .i64 x.a,.int .i64 x.b,.int .i64 x.c,.int .i64 x.k,.int .i64 x.n,.slice a x.regs.length c,.slice b x.args.length d] :=
  ⟨_,_,rfl,⟨rfl,h0.1⟩,⟨_,_,rfl,⟨rfl,h0.2.1⟩,⟨_,_,rfl,⟨rfl,h0.2.2.1⟩,⟨_,_,rfl,⟨rfl,h0.2.2.2.1⟩,⟨_,_,rfl,⟨rfl,h0.2.2.2.2.1⟩,⟨_,_,rfl,⟨rfl,h0.2.2.2.2.2⟩,⟨_,_,rfl,h1,h2⟩⟩⟩⟩⟩⟩⟩
theorem end_form {x : MEnd} (h : endL.In w O x cs) : ∃ c1 c2 a c, cs = .int .i64 x.op :: .int .i64 x.a :: (c1 ++ (c2 ++ [.slice a x.args.length c])) ∧ toL.In w O x.yes c1 ∧ toL.In w O x.no c2 ∧ intsL.In w O x.args [.slice a x.args.length c] ∧ ((-9223372036854775808 ≤ x.op ∧ x.op ≤ 9223372036854775807) ∧ (-9223372036854775808 ≤ x.a ∧ x.a ≤ 9223372036854775807)) := by
  obtain ⟨_,_,rfl,⟨rfl,h0⟩,⟨_,_,rfl,⟨rfl,h1⟩,⟨c1,_,rfl,h2,⟨c2,_,rfl,h3,h4⟩⟩⟩⟩:=h;obtain ⟨a,c,rfl,h4⟩:=list_form h4;exact ⟨c1,c2,a,c,rfl,h2,h3,h4,h0,h1⟩
theorem end_mk {x : MEnd} {c1 c2 : List Value} {a : Option Addr} {c : Nat} (h2 : toL.In w O x.yes c1) (h3 : toL.In w O x.no c2) (h4 : intsL.In w O x.args [.slice a x.args.length c]) (h0 : (-9223372036854775808 ≤ x.op ∧ x.op ≤ 9223372036854775807) ∧ (-9223372036854775808 ≤ x.a ∧ x.a ≤ 9223372036854775807)) :
    endL.In w O x (.int .i64 x.op::.int .i64 x.a::(c1++(c2++[.slice a x.args.length c]))):=⟨[_],_,rfl,⟨rfl,h0.1⟩,⟨[_],_,rfl,⟨rfl,h0.2⟩,⟨c1,_,rfl,h2,⟨c2,_,rfl,h3,h4⟩⟩⟩⟩
theorem block_form {x : MBlock n} (h : (blockL n).In w O x cs) : ∃ a c b d es, cs = .int .i64 x.regs :: .slice a x.params.length c :: .slice b x.code.length d :: es ∧ (typesL n).In w O x.params [.slice a x.params.length c] ∧ insL.list.In w O x.code [.slice b x.code.length d] ∧ endL.In w O x.fin es ∧ (-9223372036854775808 ≤ x.regs ∧ x.regs ≤ 9223372036854775807) := by
  obtain ⟨_,_,rfl,⟨rfl,h0⟩,⟨_,_,rfl,h1,⟨_,es,rfl,h2,h3⟩⟩⟩:=h;obtain ⟨a,c,rfl,h1⟩:=list_form h1;obtain ⟨b,d,rfl,h2⟩:=list_form h2;exact ⟨a,c,b,d,es,rfl,h1,h2,h3,h0⟩
theorem block_mk {x : MBlock n} {a b : Option Addr} {c d : Nat} {es : List Value} (h1 : (typesL n).In w O x.params [.slice a x.params.length c]) (h2 : insL.list.In w O x.code [.slice b x.code.length d]) (h3 : endL.In w O x.fin es) (h0 : -9223372036854775808 ≤ x.regs ∧ x.regs ≤ 9223372036854775807) :
    (blockL n).In w O x (.int .i64 x.regs::.slice a x.params.length c::.slice b x.code.length d::es):=⟨[_],_,rfl,⟨rfl,h0⟩,⟨[_],_,rfl,h1,⟨[_],es,rfl,h2,h3⟩⟩⟩
theorem func_form {x : MFunc n} (h : (funcL n).In w O x cs) : ∃ a c b d e f, cs = [.int .i64 x.regs, .slice a x.params.length c, .slice b x.results.length d, .slice e x.blocks.length f] ∧ (typesL n).In w O x.params [.slice a x.params.length c] ∧ (typesL n).In w O x.results [.slice b x.results.length d] ∧ (blockL n).list.In w O x.blocks [.slice e x.blocks.length f] ∧ (-9223372036854775808 ≤ x.regs ∧ x.regs ≤ 9223372036854775807) := by
  obtain ⟨_,_,rfl,⟨rfl,h0⟩,⟨_,_,rfl,h1,⟨_,_,rfl,h2,h3⟩⟩⟩:=h;obtain ⟨a,c,rfl,h1⟩:=list_form h1;obtain ⟨b,d,rfl,h2⟩:=list_form h2;obtain ⟨e,f,rfl,h3⟩:=list_form h3;exact ⟨a,c,b,d,e,f,rfl,h1,h2,h3,h0⟩
theorem func_mk {x : MFunc n} {a b e : Option Addr} {c d f : Nat} (h1 : (typesL n).In w O x.params [.slice a x.params.length c]) (h2 : (typesL n).In w O x.results [.slice b x.results.length d]) (h3 : (blockL n).list.In w O x.blocks [.slice e x.blocks.length f]) (h0 : -9223372036854775808 ≤ x.regs ∧ x.regs ≤ 9223372036854775807) :
    (funcL n).In w O x [.int .i64 x.regs,.slice a x.params.length c,.slice b x.results.length d,.slice e x.blocks.length f]:=⟨[_],_,rfl,⟨rfl,h0⟩,⟨[_],_,rfl,h1,⟨[_],_,rfl,h2,h3⟩⟩⟩
theorem ints_at {l : List Int} {a : Option Addr} {m c : Nat} (h : intsL.In w O l [.slice a m c]) {i : Nat} (hi : i < l.length) : ∃ g o, a = some ⟨g, o, none⟩ ∧ O g ∧ g < w.heap.size ∧ w.cell? ⟨g, o + i, none⟩ = some (.int .i64 (l.getD i 0)) := by
  obtain ⟨g,o,ds,e,h1,h2,h3,rfl,_⟩:=Lay.list_at h (List.getElem?_eq_getElem hi);refine ⟨g,o,e,h1,h2,?_⟩
  have:=h3 0 (by decide)
  have hs:Lay.int.size=1:=rfl;rw [hs,Nat.mul_one,Nat.add_zero] at this;rw [this];simp [List.getD,hi]
theorem types_lin {l : List (TT n)} {a : Option Addr} {m c : Nat} (h : (typesL n).In w O l [.slice a m c]) : LIn w O l a ∧ ∀ x ∈ l, x.ok := by
  refine ⟨fun i x hx=>?_,fun x hx=>?_⟩
  · obtain ⟨g,o,ds,e,h1,h2,h3,a',c',rfl,h4,_⟩:=Lay.list_at h hx;have hs:(Lay.tt n).size=3:=rfl;rw [hs] at h3;exact ⟨g,o,a',c',e,h1,h3 0 (by omega),h3 1 (by omega),h3 2 (by omega),h4⟩
  · obtain ⟨i,hi,rfl⟩:=List.mem_iff_getElem.1 hx;obtain ⟨g,o,ds,e,h1,h2,h3,a',c',rfl,h4,h5⟩:=Lay.list_at h (List.getElem?_eq_getElem hi);exact h5
theorem types_of_lin {l : List (TT n)} {a : Option Addr} {c : Nat} (h : LIn w O l a) (hok : ∀ x ∈ l, x.ok) : (typesL n).In w O l [.slice a l.length c] := by
  refine ⟨a,c,rfl,fun i x hx=>?_⟩;obtain ⟨g,o,a',c',e,h1,h2,h3,h4,h5⟩:=LIn.at h hx;refine ⟨g,o,[.int .i64 x.kind,.int .i64 x.r,.slice a' x.len c'],e,h1,World.block_lt_of_cell? w ⟨g,o+i*3,none⟩ h2,fun j hj=>?_,a',c',rfl,h5,hok x (List.mem_of_getElem? hx)⟩;have hj':j<3:=hj;have hs:(Lay.tt n).size=3:=rfl;rw [hs];match j,hj' with
  | 0,_=>exact h2
  | 1,_=>exact h3
  | 2,_=>exact h4
end
end Go.Proofs.YtjdcjfpfpaplladGreat
namespace Go.Proofs.YtjdcjfpfpaplladGreat
set_option linter.unusedVariables false
def fieldsOf (op : Int) : Option (Bool × Bool × Bool × Bool × Bool × Bool × Bool) :=
  if op=1 then some (false,false,false,false,true,false,false)
  else if op=2∨op=7 then some (true,true,false,true,false,false,false)
  else if op=3∨op=12 then some (false,false,false,false,false,false,false)
  else if op=4∨op=11∨op=13 then some (true,false,false,false,false,false,false)
  else if op=5 then some (true,false,false,false,false,false,true)
  else if op=6 then some (true,false,false,true,false,false,false)
  else if op=8∨op=9 then some (true,true,false,false,false,false,false)
  else if op=10 then some (true,true,true,false,false,false,false)
  else if op=14 then some (false,false,false,true,false,true,true)
  else none
def MIns.formless (x : MIns) : Bool := match fieldsOf x.op with
  | none=>false
  | some (a,b,c,k,n,rg,ar)=>(!a && x.a != 0) || (!b && x.b != 0) || (!c && x.c != 0) || (!k && x.k != 0) || (!n && x.n != 0) || (!rg && decide (0<x.regs.length)) || (!ar && decide (0<x.args.length))
def MIns.form (funcs : Nat) (x : MIns) : Int :=
  if (fieldsOf x.op).isNone then 3
  else if x.formless then 4
  else if x.op=2∧(x.k<1∨9<x.k) then 1
  else if x.op=5∧8<x.args.length then 2
  else if (x.op=6∨x.op=7)∧(x.k<0∨7<x.k) then 1
  else if x.op=14∧(x.k<0∨(funcs:Int)≤x.k) then 1
  else if x.op=14∧(6<x.regs.length∨8<x.args.length) then 2
  else 0
def MTo.form (blocks : Nat) (has : Bool) (t : MTo) : Int :=
  if has=false then (if t.block≠0∨0<t.regs.length+t.args.length then 4 else 0)
  else if t.block<0∨(blocks:Int)≤t.block then 1
  else if 16<t.regs.length∨8<t.args.length then 2
  else 0
def MEnd.form (blocks : Nat) (e : MEnd) : Int :=
  if e.op<1∨3<e.op then 3
  else if (e.a≠0∧e.op≠2)∨(0<e.args.length∧e.op≠3) then 4
  else if 8<e.args.length then 2
  else if e.yes.form blocks (decide (e.op≠3))≠0 then e.yes.form blocks (decide (e.op≠3))
  else e.no.form blocks (decide (e.op=2))
def listC {n : Nat} (regs : Int) (l : List (TT n)) : Int := if 8 < l.length then 2 else firstL (TT.check regs) l
def firstF {α : Type} (f : Nat → α → Int × Int) : Nat → List α → Int × Int
  | _,[]=>(0,0)
  | i,x::xs=>if (f i x).1≠0 then f i x else firstF f (i+1) xs
def TT.dec : (n : Nat) → DecidableEq (TT n)
  | 0=>fun t _=>Empty.elim t
  | n+1=>fun t u=>match (TT.dec n) with
    | d=>if h1:t.1=u.1 then if h2:t.2.1=u.2.1 then match (@List.hasDecEq _ d t.2.2 u.2.2) with
        | isTrue h3=>isTrue (by obtain ⟨a,b,c⟩:=t;obtain ⟨a',b',c'⟩:=u;simp only at h1 h2 h3;subst h1 h2 h3;rfl)
        | isFalse h3=>isFalse (fun e=>h3 (by rw [e]))
      else isFalse (fun e=>h2 (by rw [e])) else isFalse (fun e=>h1 (by rw [e]))
def sameL {n : Nat} (l m : List (TT n)) : Bool := match @List.hasDecEq _ (TT.dec n) l m with
  | isTrue _=>true
  | isFalse _=>false
theorem sameL_iff {n : Nat} {l m : List (TT n)} : sameL l m = true ↔ l = m := by
  unfold sameL;split
  · rename_i h _;simp [h]
  · rename_i h _;simp [h]
def MBlock.fault {n : Nat} (funcs : Nat) (f : Nat) (fn : MFunc n) (b : Nat) (x : MBlock n) : Int × Int :=
  if x.regs<fn.regs∨16<x.regs then (1,10000*f+100*b+90)
  else if listC x.regs x.params≠0 then (listC x.regs x.params,10000*f+100*b+90)
  else if b=0∧(x.regs≠fn.regs∨sameL x.params fn.params=false) then (9,10000*f+100*b+90)
  else if 40<x.code.length then (2,10000*f+100*b+90)
  else if (firstF (fun i y=>(MIns.form funcs y,(10000*f+100*b+i:Int))) 0 x.code).1≠0 then firstF (fun i y=>(MIns.form funcs y,(10000*f+100*b+i:Int))) 0 x.code
  else if x.fin.form fn.blocks.length≠0 then (x.fin.form fn.blocks.length,10000*f+100*b+91)
  else (0,0)
def MFunc.fault {n : Nat} (funcs : Nat) (f : Nat) (x : MFunc n) : Int × Int :=
  if x.regs<0∨6<x.regs then (1,10000*f+9999)
  else if listC x.regs x.params≠0 then (listC x.regs x.params,10000*f+9999)
  else if listC x.regs x.results≠0 then (listC x.regs x.results,10000*f+9999)
  else if x.blocks.length<1∨12<x.blocks.length then (2,10000*f+9999)
  else if f=0∧¬ (x.regs=0∧x.params.length=0∧x.results.all (fun t=>t.kind==1)=true) then (18,10000*f+9999)
  else firstF (fun b y=>MBlock.fault funcs f x b y) 0 x.blocks
def modFault {n : Nat} (m : List (MFunc n)) : Int × Int :=
  if m.length<1∨8<m.length then (2,-1) else firstF (fun f x=>MFunc.fault m.length f x) 0 m
def greatTs {n : Nat} (l : List (TT n)) : Prop := 200 < l.length ∨ ∃ t ∈ l, 2000 < t.count
def MBlock.great {n : Nat} (x : MBlock n) : Prop := 200 < x.code.length ∨ greatTs x.params ∨ 300 < x.fin.args.length ∨ 300 < x.fin.yes.regs.length ∨ 300 < x.fin.yes.args.length ∨ 300 < x.fin.no.regs.length ∨ 300 < x.fin.no.args.length ∨ ∃ y ∈ x.code, 300 < y.regs.length ∨ 300 < y.args.length
def MFunc.great {n : Nat} (x : MFunc n) : Prop := 30 < x.blocks.length ∨ greatTs x.params ∨ greatTs x.results ∨ ∃ y ∈ x.blocks, y.great
def greatMod {n : Nat} (m : List (MFunc n)) : Prop := 20 < m.length ∨ ∃ x ∈ m, x.great
theorem firstF_eq {α : Type} {f : Nat → α → Int × Int} : ∀ {l : List α} {i j : Nat} {x : α}, l[i]? = some x → (∀ k y, k < i → l[k]? = some y → (f (j + k) y).1 = 0) → (f (j + i) x).1 ≠ 0 → firstF f j l = f (j + i) x
  | [],i,j,x,h,_,_=>by simp at h
  | y::ys,0,j,x,h,_,hf=>by
    simp at h;subst h
    simp only [firstF];rw [if_pos (by simpa using hf)];rfl
  | y::ys,i+1,j,x,h,hz,hf=>by
    have h0:(f j y).1=0:=by simpa using hz 0 y (by omega) rfl
    simp only [firstF,h0,ne_eq,not_true_eq_false,if_false]
    have:=firstF_eq (f:=f) (l:=ys) (i:=i) (j:=j+1) (x:=x) (by simpa using h) (fun k z hk hkz=>by have:=hz (k+1) z (by omega) (by simpa using hkz);rwa [show j+1+k=j+(k+1) by omega]) (by rwa [show j+1+i=j+(i+1) by omega])
    rw [this,show j+1+i=j+(i+1) by omega]
theorem firstF_zero {α : Type} {f : Nat → α → Int × Int} : ∀ {l : List α} {j : Nat}, (∀ (k : Nat) y, l[k]? = some y → (f (j + k) y).1 = 0) → firstF f j l = (0, 0)
  | [],_,_=>rfl
  | y::ys,j,h=>by
    have h0:(f j y).1=0:=by simpa using h 0 y rfl
    simp only [firstF,h0,ne_eq,not_true_eq_false,if_false];exact firstF_zero (fun k z hz=>by have:=h (k+1) z (by simpa using hz);rwa [show j+1+k=j+(k+1) by omega])
end Go.Proofs.YtjdcjfpfpaplladGreat
namespace Go.Proofs.YtjdcjfpfpaplladGreat
set_option linter.unusedSimpArgs false
set_option linter.unusedVariables false
def zig (n : Int) : Nat := if n < 0 then (-2 * n - 1).toNat else (2 * n).toNat
def unzig (u : Nat) : Int := if u % 2 = 1 then -((u / 2 : Nat) : Int) - 1 else ((u / 2 : Nat) : Int)
def grp : Nat → Nat → List UInt8
  | 0,_=>[]
  | k+1,u=>if u<128 then [UInt8.ofNat u] else UInt8.ofNat (u % 128+128)::grp k (u / 128)
def numY (n : Int) : List UInt8 := grp 10 (zig n)
def listY {α : Type} (f : α → List UInt8) (l : List α) : List UInt8 := numY l.length ++ l.flatMap f
def TT.ybs : {n : Nat} → TT n → List UInt8
  | 0,t=>Empty.elim t
  | n+1,t=>numY t.1++((if t.1=1 then [] else numY t.2.1)++(if t.1=3 then numY t.2.2.length++t.2.2.flatMap (TT.ybs (n:=n)) else []))
def optY (b : Bool) (l : List UInt8) : List UInt8 := if b then l else []
def MIns.ybs (x : MIns) : List UInt8 := match fieldsOf x.op with
  | none=>numY x.op
  | some (a,b,c,k,n,rg,ar)=>numY x.op++(optY a (numY x.a)++(optY b (numY x.b)++(optY c (numY x.c)++(optY k (numY x.k)++(optY n (numY x.n)++(optY rg (listY numY x.regs)++optY ar (listY numY x.args)))))))
def MTo.ybs (t : MTo) : List UInt8 := numY t.block ++ (listY numY t.regs ++ listY numY t.args)
def MEnd.ybs (e : MEnd) : List UInt8 := numY e.op ++ (if e.op = 1 then e.yes.ybs else if e.op = 2 then numY e.a ++ (e.yes.ybs ++ e.no.ybs) else if e.op = 3 then listY numY e.args else [])
def MBlock.ybs {n : Nat} (x : MBlock n) : List UInt8 := numY x.regs ++ (listY TT.ybs x.params ++ (listY MIns.ybs x.code ++ x.fin.ybs))
def MFunc.ybs {n : Nat} (x : MFunc n) : List UInt8 := numY x.regs ++ (listY TT.ybs x.params ++ (listY TT.ybs x.results ++ listY MBlock.ybs x.blocks))
def modY {n : Nat} (m : List (MFunc n)) : List UInt8 := [67, 72, 1] ++ listY MFunc.ybs m
def crcBit (r : Nat) (c : Bool) : Nat := (r >>> 1) ^^^ (if c then 3988292384 else 0)
def crcStep (r : Nat) (b : Bool) : Nat := crcBit r (Bool.xor b (r.testBit 0))
def crcBits (x : Nat) : Nat → Nat → Nat
  | 0,r=>r
  | k+1,r=>crcStep (crcBits x k r) (x.testBit k)
def crcByte (r : Nat) (x : UInt8) : Nat := crcBits x.toNat 8 r
def crcR (r : Nat) (l : List UInt8) : Nat := l.foldl crcByte r
def crcL (l : List UInt8) : Nat := 4294967295 - crcR 4294967295 l
def sumY (s : Nat) : List UInt8 := [UInt8.ofNat s, UInt8.ofNat (s / 256), UInt8.ofNat (s / 65536), UInt8.ofNat (s / 16777216)]
abbrev DR (α : Type) := Except (Int × Int) (α × List UInt8)
def DR.andThen {α β : Type} (x : DR α) (f : α → List UInt8 → DR β) : DR β :=
  match x with
  | .error e=>.error e
  | .ok (a,r)=>f a r
theorem DR.andThen_ok {α β : Type} {x : DR α} {f : α → List UInt8 → DR β} {b : β} {q : List UInt8} (h : x.andThen f = .ok (b, q)) : ∃ a r, x = .ok (a, r) ∧ f a r = .ok (b, q) := by
  unfold DR.andThen at h;split at h
  · cases h
  · exact ⟨_,_,rfl,h⟩
theorem DR.ok_andThen {α β : Type} {f : α → List UInt8 → DR β} {a : α} {r : List UInt8} : DR.andThen (.ok (a, r)) f = f a r := rfl
section
variable (N : Nat)
def longF : Nat → Nat → List UInt8 → DR Int
  | _,_,[]=>.error (5,N)
  | i,u,x::r =>
    if (i=9∧1<x.toNat)∨(0<i∧x.toNat=0) then .error (1,(N:Int) - ((r.length+1:Nat):Int))
    else if x.toNat<128 then .ok (unzig (u+x.toNat % 128*128 ^ i),r)
    else longF (i+1) (u+x.toNat % 128*128 ^ i) r
def numD (l : List UInt8) : DR Int := longF N 0 0 l
def cntD (l : List UInt8) : DR Nat := (numD N l).andThen fun n r => if n < 0 ∨ (r.length : Int) < n then .error (2, (N : Int) - (l.length : Int)) else .ok (n.toNat, r)
def repD {α : Type} (f : List UInt8 → DR α) : Nat → List UInt8 → DR (List α)
  | 0,l=>.ok ([],l)
  | k+1,l=>(f l).andThen fun x r=>(repD f k r).andThen fun xs q=>.ok (x::xs,q)
def lstD {α : Type} (f : List UInt8 → DR α) (l : List UInt8) : DR (List α) := (cntD N l).andThen fun k r => repD f k r
def typD {d : Nat} (rec : List UInt8 → DR (List (TT d))) (l : List UInt8) : DR (TT (d + 1)) :=
  (numD N l).andThen fun k r=>DR.andThen (if k=1 then .ok (0,r) else numD N r) fun g r1=>DR.andThen (if k=3 then rec r1 else .ok ([],r1)) fun ts r2=>.ok ((k,g,ts),r2)
def typsD : (d : Nat) → List UInt8 → DR (List (TT d))
  | 0=>fun l=>.error (19,(N:Int) - (l.length:Int))
  | d+1=>lstD N (typD N (typsD d))
def optD {α : Type} (b : Bool) (f : List UInt8 → DR α) (z : α) (l : List UInt8) : DR α := if b then f l else .ok (z, l)
def insD (l : List UInt8) : DR MIns := (numD N l).andThen fun op r => match fieldsOf op with
  | none=>.ok (⟨op,0,0,0,0,0,[],[]⟩,r)
  | some (a,b,c,k,n,rg,ar)=>(optD a (numD N) 0 r).andThen fun xa r=>(optD b (numD N) 0 r).andThen fun xb r=>(optD c (numD N) 0 r).andThen fun xc r=>(optD k (numD N) 0 r).andThen fun xk r=>(optD n (numD N) 0 r).andThen fun xn r =>
      (optD rg (lstD N (numD N)) [] r).andThen fun xr r=>(optD ar (lstD N (numD N)) [] r).andThen fun xs r=>.ok (⟨op,xa,xb,xc,xk,xn,xr,xs⟩,r)
def toD (l : List UInt8) : DR MTo := (numD N l).andThen fun b r => (lstD N (numD N) r).andThen fun x r => (lstD N (numD N) r).andThen fun y r => .ok (⟨b, x, y⟩, r)
def zTo : MTo := ⟨0, [], []⟩
def endD (l : List UInt8) : DR MEnd := (numD N l).andThen fun op r =>
  if op=1 then (toD N r).andThen fun t r=>.ok (⟨op,0,t,zTo,[]⟩,r)
  else if op=2 then (numD N r).andThen fun a r=>(toD N r).andThen fun t r=>(toD N r).andThen fun u r=>.ok (⟨op,a,t,u,[]⟩,r)
  else if op=3 then (lstD N (numD N) r).andThen fun x r=>.ok (⟨op,0,zTo,zTo,x⟩,r)
  else .ok (⟨op,0,zTo,zTo,[]⟩,r)
def blockD (l : List UInt8) : DR (MBlock 6) := (numD N l).andThen fun g r => (typsD N 6 r).andThen fun ts r => (lstD N (insD N) r).andThen fun c r => (endD N r).andThen fun e r => .ok (⟨g, ts, c, e⟩, r)
def funcD (l : List UInt8) : DR (MFunc 6) := (numD N l).andThen fun g r => (typsD N 6 r).andThen fun ts r => (typsD N 6 r).andThen fun us r => (lstD N (blockD N) r).andThen fun bs r => .ok (⟨g, ts, us, bs⟩, r)
end
def decL (b : List UInt8) : Except (Int × Int) (List (MFunc 6)) :=
  if b.length<7 then .error (5,(b.length:Int))
  else if 20000<b.length then .error (2,20000)
  else if b.take 3≠[67,72,1] then .error (4,0)
  else if b.drop (b.length - 4)≠sumY (crcL (b.take (b.length - 4))) then .error (16,((b.length - 4:Nat):Int))
  else match lstD (b.length - 4) (funcD (b.length - 4)) ((b.take (b.length - 4)).drop 3) with
    | .error e=>.error e
    | .ok (m,r)=>if r≠[] then .error (4,((b.length - 4:Nat):Int) - (r.length:Int)) else if (modFault m).1≠0 then .error (3,((b.length - 4:Nat):Int)) else .ok m
theorem nat_not64 (x : Nat) (h : x < 18446744073709551616) : x ^^^ 18446744073709551615 = 18446744073709551615 - x := by
  have e:(BitVec.ofNat 64 x ^^^ BitVec.allOnes 64).toNat=18446744073709551615 - x:=by
    rw [BitVec.xor_allOnes,BitVec.toNat_not,BitVec.toNat_ofNat,Nat.mod_eq_of_lt (by simpa using h)]
  rw [← e,BitVec.toNat_xor,BitVec.toNat_ofNat,Nat.mod_eq_of_lt (by simpa using h)];rfl
theorem nat_not32 (x : Nat) (h : x < 4294967296) : x ^^^ 4294967295 = 4294967295 - x := by
  have e:(BitVec.ofNat 32 x ^^^ BitVec.allOnes 32).toNat=4294967295 - x:=by
    rw [BitVec.xor_allOnes,BitVec.toNat_not,BitVec.toNat_ofNat,Nat.mod_eq_of_lt (by simpa using h)]
  rw [← e,BitVec.toNat_xor,BitVec.toNat_ofNat,Nat.mod_eq_of_lt (by simpa using h)];rfl
theorem zig_lt64 {n : Int} (h : -9223372036854775808 ≤ n ∧ n ≤ 9223372036854775807) : zig n < 18446744073709551616 := by
  unfold zig;split <;> omega
theorem zig_bits {n : Int} (h : -9223372036854775808 ≤ n ∧ n ≤ 9223372036854775807) : bits .xor .u64 (IntKind.u64.wrap (IntKind.u64.wrap n * 2)) (IntKind.u64.wrap (n / 9223372036854775808)) = (zig n : Int) := by
  rw [IntKind.wrap_u64,IntKind.wrap_u64,IntKind.wrap_u64];unfold zig;split
  · rename_i hn
    have e1:n / 9223372036854775808 % 18446744073709551616=((18446744073709551615:Nat):Int):=by omega
    have e2:n % 18446744073709551616*2 % 18446744073709551616=((2*n+18446744073709551616).toNat:Int):=by omega
    rw [e1,e2,u64_xor_nat _ _ (by omega) (by omega),nat_not64 _ (by omega)];omega
  · rename_i hn
    have e1:n / 9223372036854775808 % 18446744073709551616=((0:Nat):Int):=by omega
    have e2:n % 18446744073709551616*2 % 18446744073709551616=((2*n).toNat:Int):=by omega
    rw [e1,e2,u64_xor_nat _ _ (by omega) (by omega),Nat.xor_zero]
theorem wrap_i64_id {x : Int} (h : -9223372036854775808 ≤ x ∧ x ≤ 9223372036854775807) : IntKind.i64.wrap x = x := by
  simp only [IntKind.wrap,IntKind.bits,IntKind.signed];simp
  omega
theorem unzig_rng {u : Nat} (h : u < 18446744073709551616) : -9223372036854775808 ≤ unzig u ∧ unzig u ≤ 9223372036854775807 := by
  unfold unzig;split <;> omega
theorem xor_i64_zero {x : Nat} (h : x < 9223372036854775808) : bits .xor .i64 (x : Int) 0 = (x : Int) := by
  have:(BitVec.ofInt 64 (x:Int) ^^^ BitVec.ofInt 64 0).toNat=x:=by
    rw [BitVec.toNat_xor,ofInt_u64 x (by omega)];simp
  show IntKind.i64.wrap ((BitVec.ofInt 64 (x:Int) ^^^ BitVec.ofInt 64 0).toNat:Int)=_;rw [this];exact wrap_i64_id (by omega)
theorem xor_i64_ones {x : Nat} (h : x < 9223372036854775808) : bits .xor .i64 (x : Int) (-1) = -(x : Int) - 1 := by
  have:(BitVec.ofInt 64 (x:Int) ^^^ BitVec.ofInt 64 (-1)).toNat=18446744073709551615 - x:=by
    rw [show BitVec.ofInt 64 (-1)=BitVec.allOnes 64 from by decide,BitVec.xor_allOnes,BitVec.toNat_not,ofInt_u64 x (by omega)]
  show IntKind.i64.wrap ((BitVec.ofInt 64 (x:Int) ^^^ BitVec.ofInt 64 (-1)).toNat:Int)=_;rw [this];simp only [IntKind.wrap,IntKind.bits,IntKind.signed];simp
  omega
theorem unzig_bits {u : Nat} (h : u < 18446744073709551616) : bits .xor .i64 (IntKind.i64.wrap ((u : Int) / 2)) (IntKind.i64.wrap (-(IntKind.i64.wrap (bits .and .u64 (u : Int) 1)))) = unzig u := by
  have e0:bits .and .u64 (u:Int) 1=((u % 2:Nat):Int):=by
    rw [show (1:Int)=((1:Nat):Int) from rfl,u64_and_nat u 1 h (by omega),nat_mask1]
  have e1:IntKind.i64.wrap ((u:Int) / 2)=((u / 2:Nat):Int):=by rw [wrap_i64_id (by omega)];omega
  rw [e0,e1,wrap_i64_id (x:=((u % 2:Nat):Int)) (by omega),wrap_i64_id (by omega)];unfold unzig;split
  · rename_i hu
    rw [hu,show (-((1:Nat):Int))=-1 from rfl,xor_i64_ones (by omega)]
  · rename_i hu
    rw [show u % 2=0 by omega,show (-((0:Nat):Int))=0 from rfl,xor_i64_zero (by omega)]
theorem or_groups {u x i : Nat} (hi : i ≤ 9) (hu : u < 128 ^ i) : u ||| x * 128 ^ i = u + x * 128 ^ i := by
  have e:128 ^ i=2 ^ (7*i):=by rw [Nat.pow_mul]
  rw [e] at hu ⊢;rw [Nat.or_comm,nat_join (7*i) _ _ (by simp) hu,Nat.add_comm]
def crcIt : Nat → Nat → Nat
  | 0,s=>s
  | k+1,s=>crcBit (crcIt k s) ((crcIt k s).testBit 0)
theorem crcIt_eq (x r : Nat) : ∀ k, crcIt k (r ^^^ x) = crcBits x k r ^^^ (x >>> k)
  | 0=>by simp [crcIt,crcBits]
  | k+1=>by
    rw [crcIt,crcIt_eq x r k,crcBits,crcStep,crcBit,crcBit]
    have e:(crcBits x k r ^^^ x >>> k).testBit 0=Bool.xor (x.testBit k) ((crcBits x k r).testBit 0):=by
      rw [Nat.testBit_xor,Nat.testBit_shiftRight,Nat.add_zero,Bool.xor_comm]
    rw [e,Nat.shiftRight_xor_distrib,← Nat.shiftRight_add];rw [Nat.xor_assoc,Nat.xor_comm (x >>> (k+1)),← Nat.xor_assoc]
theorem crcByte_it (r : Nat) (x : UInt8) : crcByte r x = crcIt 8 (r ^^^ x.toNat) := by
  rw [crcIt_eq,crcByte]
  have:x.toNat >>> 8=0:=by
    rw [Nat.shiftRight_eq_div_pow];exact Nat.div_eq_of_lt x.toNat_lt
  rw [this,Nat.xor_zero]
theorem crcBit_ltB {r : Nat} {c : Bool} (h : r < 4294967296) : crcBit r c < 4294967296 := by
  have h1:r >>> 1<2 ^ 32:=by rw [Nat.shiftRight_eq_div_pow];omega
  have h2:(if c then 3988292384 else 0)<2 ^ 32:=by split <;> decide
  exact Nat.xor_lt_two_pow h1 h2
theorem crcIt_lt : ∀ (k : Nat) {s : Nat}, s < 4294967296 → crcIt k s < 4294967296
  | 0,s,h=>h
  | k+1,s,h=>crcBit_ltB (crcIt_lt k h)
theorem crcX_lt {s : Nat} {x : UInt8} (h : s < 4294967296) : s ^^^ x.toNat < 4294967296 := Nat.xor_lt_two_pow (n := 32) h (Nat.lt_trans x.toNat_lt (by decide))
theorem crcByte_ltB {r : Nat} {x : UInt8} (h : r < 4294967296) : crcByte r x < 4294967296 := by rw [crcByte_it]; exact crcIt_lt 8 (crcX_lt h)
theorem crcR_ltB : ∀ (l : List UInt8) {r : Nat}, r < 4294967296 → crcR r l < 4294967296
  | [],r,h=>h
  | x::l,r,h=>crcR_ltB l (crcByte_ltB h)
theorem crcR_snoc (r : Nat) (l : List UInt8) (x : UInt8) : crcR r (l ++ [x]) = crcByte (crcR r l) x := by simp [crcR]
theorem crcL_xor (l : List UInt8) : crcL l = crcR 4294967295 l ^^^ 4294967295 := by
  rw [nat_not32 _ (crcR_ltB l (by decide))];rfl
theorem crc_bit_on {s : Nat} (h : s < 4294967296) (hb : s % 2 = 1) : crcBit s (s.testBit 0) = (s / 2) ^^^ 3988292384 := by
  have:s.testBit 0=true:=by simp [Nat.testBit_zero,hb]
  rw [this,crcBit,if_pos rfl,Nat.shiftRight_eq_div_pow]
theorem crc_bit_off {s : Nat} (h : s < 4294967296) (hb : ¬ s % 2 = 1) : crcBit s (s.testBit 0) = s / 2 := by
  have:s.testBit 0=false:=by simp [Nat.testBit_zero];omega
  rw [this,crcBit,if_neg (by simp),Nat.xor_zero,Nat.shiftRight_eq_div_pow]
end Go.Proofs.YtjdcjfpfpaplladGreat
namespace Go.Proofs.YtjdcjfpfpaplladGreat
open Go.ChangeShapes Go.WideShapes Go.ChangeAt Go.RowKit
set_option linter.unusedVariables false
theorem undrewN_below {B m : Nat} {w w' : World} (h : Below B (w.drewN m) w') : Below B w w' := ⟨h.os, h.tape, h.output, h.size, h.block⟩
theorem drewN_below {B m : Nat} {w w' : World} (h : Below B w w') : Below B w (w'.drewN m) := ⟨h.os, h.tape, h.output, h.size, h.block⟩
theorem box_cells {w wr : World} {B : Nat} {c : Array Value} {ty : TypeId} (h : wr.heap[B]? = some (.cells c ty (0, 0))) (b : Below wr.heap.size wr w) : w.heap[B]? = some (.cells c ty (0, 0)) :=
  (b.block B (lt_of_block h)).trans h
abbrev Blk (w : World) (B : Nat) (c : Array Value) (t : TypeId) : Prop := w.heap[B]? = some (.cells c t (0, 0))
theorem Blk.below {w w' : World} {B : Nat} {c : Array Value} {t : TypeId} (h : Blk w B c t) (b : Below w.heap.size w w') : Blk w' B c t := box_cells h b
theorem Blk.alloc {w : World} {B : Nat} {c : Array Value} {t : TypeId} (h : Blk w B c t) (o : Obj) : Blk (w.alloc o) B c t := box_cells h ((Below.refl _ w).alloc (Nat.le_refl _) _)
theorem Blk.new (w : World) (c : Array Value) (t : TypeId) : Blk (w.alloc (.cells c t)) w.heap.size c t := blockNew w c t
theorem Blk.drewN {w : World} {B : Nat} {c : Array Value} {t : TypeId} (h : Blk w B c t) (m : Nat) : Blk (w.drewN m) B c t := h
theorem Blk.lt {w : World} {B : Nat} {c : Array Value} {t : TypeId} (h : Blk w B c t) : B < w.heap.size := lt_of_block h
theorem Blk.setOther {w : World} {B : Nat} {c : Array Value} {t : TypeId} (h : Blk w B c t) {p : Addr} (hp : p.block ≠ B) (v : Value) : Blk (w.setCell p v) B c t := (Below.heap_setCell _ _ _ _ (fun e => hp e.symm)).trans h
theorem bel1 (w : World) (o : Obj) : Below w.heap.size w (w.alloc o) := (Below.refl _ w).alloc (Nat.le_refl _) _
theorem bel2 (w : World) (o p : Obj) : Below w.heap.size w ((w.alloc o).alloc p) := (bel1 w o).alloc (by simp) _
theorem Below.andThen {w w1 w2 : World} (h : Below w.heap.size w w1) (b : Below w1.heap.size w1 w2) : Below w.heap.size w w2 := h.trans (b.mono h.size)
theorem Blk.new1 (w : World) (c d : Array Value) (t u : TypeId) : Blk ((w.alloc (.cells c t)).alloc (.cells d u)) w.heap.size c t := (Blk.new w c t).alloc _
theorem Blk.new2 (w : World) (o : Obj) (d : Array Value) (u : TypeId) : Blk ((w.alloc o).alloc (.cells d u)) (w.heap.size + 1) d u := by
  have:=Blk.new (w.alloc o) d u
  simpa using this
end Go.Proofs.YtjdcjfpfpaplladGreat
namespace Go.Proofs.YtjdcjfpfpaplladGreat
open Go.ChangeShapes Go.WideShapes Go.ChangeAt Go.RowKit
set_option linter.unusedSimpArgs false
set_option linter.unusedVariables false
abbrev ptrP (b : Nat) : Value := .pointer (some ⟨b, 0, none⟩)
abbrev Chg (b : Nat) (w w' : World) : Prop := Step (fun k => k = b) (fun k => k = b) w w'
section
variable {b : Nat} {w w' w1 w2 : World}
theorem Chg.refl (b : Nat) (w : World) : Chg b w w := Step.refl _ _
theorem Chg.below (h : Below w.heap.size w w') : Chg b w w' := ⟨h.os, h.tape, h.output, h.size, fun k hk _ => h.block k hk, fun k hk => .inl hk⟩
theorem Chg.set (w : World) (o : Nat) (v : Value) (h : b < w.heap.size) : Chg b w (w.setCell ⟨b, o, none⟩ v) :=
  ⟨rfl,rfl,rfl,by simp,fun k _ hk=>Below.heap_setCell _ _ _ _ hk,fun k hk=>.inl hk⟩
theorem Chg.keep {α : Type} {A : Lay α} {O : Nat → Prop} {x : α} {cs : List Value} (h : A.In w O x cs) (c : Chg b w w') (ho : ∀ k, O k → k ≠ b) : A.In w' O x cs :=
  A.keep (fun k hO hk=>c.block k hk (ho k hO)) (fun _ h _=>h) h
theorem Chg.last {s : Nat} (h : Below s w w1) (c : Chg b w1 w2) (hs : s ≤ b) (hs1 : s ≤ w1.heap.size) : Below s w w2 :=
  ⟨c.os.trans h.os,c.tape.trans h.tape,c.output.trans h.output,Nat.le_trans h.size c.size,fun k hk=>(c.block k (by omega) (by omega)).trans (h.block k hk)⟩
end
theorem Blk.chg {w w' : World} {b B : Nat} {c : Array Value} {t : TypeId} (h : Blk w B c t) (k : Chg b w w') (hb : B ≠ b) : Blk w' B c t := (k.block B h.lt hb).trans h
abbrev Chg2 (b B : Nat) (w w' : World) : Prop := Step (fun k => k = b ∨ k = B) (fun k => k = b ∨ k = B) w w'
section
variable {b B : Nat} {w w' w0 : World}
theorem Chg2.refl (b B : Nat) (w : World) : Chg2 b B w w := Step.refl _ _
theorem Chg2.of (h : Chg b w w') : Chg2 b B w w' := ⟨h.os, h.tape, h.output, h.size, fun k hk hn => h.block k hk (fun e => hn (.inl e)), fun k hk => .inl hk⟩
theorem Chg2.set (w : World) (o : Nat) (v : Value) : Chg2 b B w (w.setCell ⟨B, o, none⟩ v) :=
  ⟨rfl,rfl,rfl,by simp,fun k _ hk=>Below.heap_setCell _ _ _ _ (fun e=>hk (.inr e)),fun k hk=>.inl hk⟩
theorem Chg2.new (h : Chg b w0 w) (h2 : Chg2 b B w w') (hB : w0.heap.size ≤ B) : Chg b w0 w' :=
  ⟨h2.os.trans h.os,h2.tape.trans h.tape,h2.output.trans h.output,Nat.le_trans h.size h2.size,fun k hk hn=>(h2.block k (Nat.lt_of_lt_of_le hk h.size) (fun e=>by rcases e with e | e;exact hn e;omega)).trans (h.block k hk hn),fun k hk=>.inl hk⟩
theorem Blk.chg2 {g : Nat} {c : Array Value} {t : TypeId} (h : Blk w g c t) (k : Chg2 b B w w') (h1 : g ≠ b) (h2 : g ≠ B) : Blk w' g c t := (k.block g h.lt (fun e => by rcases e with e | e; exact h1 e; exact h2 e)).trans h
theorem Chg2.keep {α : Type} {A : Lay α} {O : Nat → Prop} {x : α} {cs : List Value} (h : A.In w O x cs) (c : Chg2 b B w w') (ho : ∀ k, O k → k < w.heap.size → k ≠ b ∧ k ≠ B) : A.In w' O x cs :=
  A.keep (fun k hO hk=>c.block k hk (fun e=>by rcases e with e | e;exact (ho k hO hk).1 e;exact (ho k hO hk).2 e)) (fun _ h _=>h) h
end
def putAll (cs : Array Value) : List Nat → List Int → Array Value
  | o::os,x::xs=>putAll (cs.setIfInBounds o (.int .i64 x)) os xs
  | _,_=>cs
theorem ARow.chgP {α : Type} {A : Lay α} {t : TypeId} {w w' : World} {lo b : Nat} {v : Value} {l : List α} {xs : List Value} (h : ARow A t w lo v l xs) (c : Chg b w w') (hb : b < lo) : ARow A t w' lo v l xs := by
  obtain ⟨⟨h1,h2⟩,h3⟩:=h;refine ⟨⟨h1,?_⟩,fun i x hx=>Chg.keep (h3 i x hx) c (fun k hk=>by have:=hk.1;omega)⟩;rcases h2 with h4 | ⟨g,cap,cur,e,hg,hh,r⟩
  · exact Or.inl h4
  · exact Or.inr ⟨g,cap,cur,e,hg,(c.block g (lt_of_block hh) (by omega)).trans hh,r⟩
theorem Chg.allocP {b : Nat} {w w' : World} (c : Chg b w w') (o : Obj) : Chg b w (w'.alloc o) := c.trans (Chg.below (bel1 _ _))
theorem Chg.grownP {b : Nat} {w w1 w2 : World} {row : Option Nat} (c : Chg b w w1) (g : w1.grownBy w2 row) (hr : ∀ k, row = some k → w.heap.size ≤ k) : Chg b w w2 :=
  ⟨g.os.trans c.os,g.tape.trans c.tape,g.output.trans c.output,Nat.le_trans c.size g.size,fun k hk hn=>(g.block k (Nat.lt_of_lt_of_le hk c.size) (fun e=>by have:=hr k e.symm;omega)).trans (c.block k hk hn),fun k hk=>.inl hk⟩
theorem ARow.formP {α : Type} {A : Lay α} {t : TypeId} {w : World} {lo : Nat} {v : Value} {l : List α} {xs : List Value} (h : ARow A t w lo v l xs) : ∃ a c, v = .slice a l.length c := by
  obtain ⟨a,c,e,_⟩:=h.lay;simp at e
  exact ⟨a,c,e⟩
theorem pUnderI : Tryz.prog.underlying 49 = some (.slice 3) := by kernel_rfl
theorem pInfoI0 : (Tryz.prog.info? 3).map (fun i => (i.zero, i.size, i.bytes)) = some (some (.int .i64 0), 1, 8) := by kernel_rfl
theorem pInfoI : ∃ i, Tryz.prog.info? 3 = some i ∧ i.zero = some (.int .i64 0) ∧ i.size = 1 ∧ i.bytes = 8 := by
  have h:=pInfoI0
  cases e:Tryz.prog.info? 3 with
  | none=>rw [e] at h;cases h
  | some i =>
    rw [e] at h;simp only [Option.map_some,Option.some.injEq,Prod.mk.injEq] at h;exact ⟨i,rfl,h.1,h.2.1,h.2.2⟩
theorem pUnderT : Tryz.prog.underlying 43 = some (.slice 88) := by kernel_rfl
theorem pInfoT0 : (Tryz.prog.info? 88).map (fun i => (i.zero, i.size, i.bytes)) = some (some (.agg #[.int .i64 0, .int .i64 0, .slice none 0 0]), 3, 40) := by kernel_rfl
theorem pInfoT : ∃ i, Tryz.prog.info? 88 = some i ∧ i.zero = some (.agg #[.int .i64 0, .int .i64 0, .slice none 0 0]) ∧ i.size = 3 ∧ i.bytes = 40 := by
  have h:=pInfoT0
  cases e:Tryz.prog.info? 88 with
  | none=>rw [e] at h;cases h
  | some i =>
    rw [e] at h;simp only [Option.map_some,Option.some.injEq,Prod.mk.injEq] at h;exact ⟨i,rfl,h.1,h.2.1,h.2.2⟩
theorem newsP (w : World) (c : List Value) (t : TypeId) : ∀ (j : Nat) (u : Value), c[j]? = some u → (w.alloc (.cells c.toArray t)).cell? ((⟨w.heap.size, 0, none⟩ : Addr).add j) = some u := by
  intro j u h;have h2:c.toArray[j]?=some u:=by simpa using h
  rw [Go.WideShapes.add_plain,Nat.zero_add];exact cellOf (blockNew w c.toArray t) j u h2
def VInts (w0 : World) : World → List Int → Value → Prop := fun w' xs x => ∃ a c, x = .slice a xs.length c ∧ intsL.In w' (fun g => w0.heap.size ≤ g) xs [.slice a xs.length c]
theorem pOneI (n : Int) : ∀ u ∈ [Value.int .i64 n], u.oneCell' = true := by
  intro u h;simp at h
  subst h;rfl
def VTyp (d : Nat) (w0 : World) : World → TT (d + 1) → Value → Prop := fun w' t x => ∃ a c, x = .agg #[.int .i64 t.kind, .int .i64 t.r, .slice a t.len c] ∧ (Lay.tt (d + 1)).In w' (fun g => w0.heap.size ≤ g) t [.int .i64 t.kind, .int .i64 t.r, .slice a t.len c]
def VTyps (d : Nat) (w0 : World) : World → List (TT (d + 1)) → Value → Prop := fun w' xs x => ∃ a c, x = .slice a xs.length c ∧ (typesL (d + 1)).In w' (fun g => w0.heap.size ≤ g) xs [.slice a xs.length c]
theorem pOneT (k r : Int) (a : Option Addr) (l c : Nat) : ∀ u ∈ [Value.int .i64 k, Value.int .i64 r, Value.slice a l c], u.oneCell' = true := by
  intro u h;simp at h
  rcases h with rfl | rfl | rfl <;> rfl
theorem Chg.setNewP {b : Nat} {w w' : World} (h : Chg b w w') {q : Addr} (hq : w.heap.size ≤ q.block) (v : Value) : Chg b w (w'.setCell q v) :=
  ⟨h.os,h.tape,h.output,by have:=h.size;simp;omega,fun k hk hn=>(Below.heap_setCell _ _ _ _ (by omega)).trans (h.block k hk hn),fun k hk=>.inl hk⟩
section
variable {w0 w w' : World} {b R B : Nat} {α : Type} {A : Lay α} {x : α} {cs : List Value}
def Kid {α : Type} (A : Lay α) (B : Nat) (w : World) (x : α) (cs : List Value) : Prop := A.In w (fun g => B < g) x cs
theorem Kid.mk (h : A.In w (fun g => w'.heap.size ≤ g) x cs) (hB : B < w'.heap.size) : Kid A B w x cs := Lay.mono h (fun k hk _ => by omega)
theorem Kid.chg (h : Kid A B w x cs) (k : Chg b w w') (hb : b ≤ B) : Kid A B w' x cs := Chg.keep h k (fun k hk => by omega)
theorem Kid.chg2 (h : Kid A B w x cs) (k : Chg2 b B w w') (hb : b ≤ B) : Kid A B w' x cs := Chg2.keep h k (fun k hk _ => by omega)
theorem Kid.set (h : Kid A B w x cs) {q : Addr} (hq : q.block ≤ B) (v : Value) : Kid A B (w.setCell q v) x cs := Lay.setCell h (by omega) v
theorem Kid.alloc (h : Kid A B w x cs) (o : Obj) : Kid A B (w.alloc o) x cs := Lay.alloc h o
theorem Kid.sets (h : Kid A B w x cs) {R : Nat} (hq : R ≤ B) : ∀ (vs : List Value) (o : Nat), Kid A B (w.setCells R o vs) x cs := fun vs o => A.keep (fun k hk _ => setCells_other (by omega) vs o w) (fun _ h _ => h) h
theorem Kid.out (h : Kid A B w x cs) (hB : w0.heap.size ≤ B) : A.In w (fun g => w0.heap.size ≤ g) x cs := Lay.mono h (fun k hk _ => by omega)
end
theorem Blk.sets {R : Nat} {T : TypeId} : ∀ (vs us zs : List Value) (w : World), vs.length = zs.length → Blk w R (us ++ zs).toArray T → Blk (w.setCells R us.length vs) R (us ++ vs).toArray T
  | [],us,zs,w,hl,h=>by
    have:zs=[]:=List.length_eq_zero_iff.1 hl.symm
    subst this;exact h
  | v::vs,us,zs,w,hl,h=>by
    cases zs with
    | nil=>simp at hl
    | cons z zs =>
      have h1:=blockSet h us.length v
      have e1:((us++z::zs).toArray.setIfInBounds us.length v)=((us++[v])++zs).toArray:=by
        apply Array.ext'
        simp [List.set_append]
      rw [e1] at h1
      have:=Blk.sets vs (us++[v]) zs (w.setCell ⟨R,us.length,none⟩ v) (by simpa using hl) h1
      simpa [World.setCells] using this
theorem cells3 {w : World} {B : Nat} {t : TypeId} {p0 p1 p2 : Value} (h : Blk w B #[p0, p1, p2] t) : w.cell? ⟨B, 0, none⟩ = some p0 ∧ w.cell? ⟨B, 1, none⟩ = some p1 ∧ w.cell? ⟨B, 2, none⟩ = some p2 := ⟨cellOf h 0 _ rfl, cellOf h 1 _ rfl, cellOf h 2 _ rfl⟩
theorem frees3 {w : World} {B : Nat} {t : TypeId} {c : Array Value} (h : Blk w B c t) : w.frozen? ⟨B, 0, none⟩ = false ∧ w.frozen? ⟨B, 1, none⟩ = false ∧ w.frozen? ⟨B, 2, none⟩ = false := ⟨freeOf h 0, freeOf h 1, freeOf h 2⟩
theorem cells4 {w : World} {B : Nat} {t : TypeId} {p0 p1 p2 p3 : Value} (h : Blk w B #[p0, p1, p2, p3] t) : w.cell? ⟨B, 0, none⟩ = some p0 ∧ w.cell? ⟨B, 1, none⟩ = some p1 ∧ w.cell? ⟨B, 2, none⟩ = some p2 ∧ w.cell? ⟨B, 3, none⟩ = some p3 := ⟨cellOf h 0 _ rfl, cellOf h 1 _ rfl, cellOf h 2 _ rfl, cellOf h 3 _ rfl⟩
theorem frees4 {w : World} {B : Nat} {t : TypeId} {c : Array Value} (h : Blk w B c t) : w.frozen? ⟨B, 0, none⟩ = false ∧ w.frozen? ⟨B, 1, none⟩ = false ∧ w.frozen? ⟨B, 2, none⟩ = false ∧ w.frozen? ⟨B, 3, none⟩ = false := ⟨freeOf h 0, freeOf h 1, freeOf h 2, freeOf h 3⟩
theorem cells8 {w : World} {B : Nat} {t : TypeId} {p0 p1 p2 p3 p4 p5 p6 p7 : Value} (h : Blk w B #[p0, p1, p2, p3, p4, p5, p6, p7] t) : w.cell? ⟨B, 0, none⟩ = some p0 ∧ w.cell? ⟨B, 1, none⟩ = some p1 ∧ w.cell? ⟨B, 2, none⟩ = some p2 ∧ w.cell? ⟨B, 3, none⟩ = some p3 ∧ w.cell? ⟨B, 4, none⟩ = some p4 ∧ w.cell? ⟨B, 5, none⟩ = some p5 ∧ w.cell? ⟨B, 6, none⟩ = some p6 ∧ w.cell? ⟨B, 7, none⟩ = some p7 := ⟨cellOf h 0 _ rfl, cellOf h 1 _ rfl, cellOf h 2 _ rfl, cellOf h 3 _ rfl, cellOf h 4 _ rfl, cellOf h 5 _ rfl, cellOf h 6 _ rfl, cellOf h 7 _ rfl⟩
theorem frees8 {w : World} {B : Nat} {t : TypeId} {c : Array Value} (h : Blk w B c t) : w.frozen? ⟨B, 0, none⟩ = false ∧ w.frozen? ⟨B, 1, none⟩ = false ∧ w.frozen? ⟨B, 2, none⟩ = false ∧ w.frozen? ⟨B, 3, none⟩ = false ∧ w.frozen? ⟨B, 4, none⟩ = false ∧ w.frozen? ⟨B, 5, none⟩ = false ∧ w.frozen? ⟨B, 6, none⟩ = false ∧ w.frozen? ⟨B, 7, none⟩ = false := ⟨freeOf h 0, freeOf h 1, freeOf h 2, freeOf h 3, freeOf h 4, freeOf h 5, freeOf h 6, freeOf h 7⟩
theorem cells9 {w : World} {B : Nat} {t : TypeId} {p0 p1 p2 p3 p4 p5 p6 p7 p8 : Value} (h : Blk w B #[p0, p1, p2, p3, p4, p5, p6, p7, p8] t) : w.cell? ⟨B, 0, none⟩ = some p0 ∧ w.cell? ⟨B, 1, none⟩ = some p1 ∧ w.cell? ⟨B, 2, none⟩ = some p2 ∧ w.cell? ⟨B, 3, none⟩ = some p3 ∧ w.cell? ⟨B, 4, none⟩ = some p4 ∧ w.cell? ⟨B, 5, none⟩ = some p5 ∧ w.cell? ⟨B, 6, none⟩ = some p6 ∧ w.cell? ⟨B, 7, none⟩ = some p7 ∧ w.cell? ⟨B, 8, none⟩ = some p8 := ⟨cellOf h 0 _ rfl, cellOf h 1 _ rfl, cellOf h 2 _ rfl, cellOf h 3 _ rfl, cellOf h 4 _ rfl, cellOf h 5 _ rfl, cellOf h 6 _ rfl, cellOf h 7 _ rfl, cellOf h 8 _ rfl⟩
theorem frees9 {w : World} {B : Nat} {t : TypeId} {c : Array Value} (h : Blk w B c t) : w.frozen? ⟨B, 0, none⟩ = false ∧ w.frozen? ⟨B, 1, none⟩ = false ∧ w.frozen? ⟨B, 2, none⟩ = false ∧ w.frozen? ⟨B, 3, none⟩ = false ∧ w.frozen? ⟨B, 4, none⟩ = false ∧ w.frozen? ⟨B, 5, none⟩ = false ∧ w.frozen? ⟨B, 6, none⟩ = false ∧ w.frozen? ⟨B, 7, none⟩ = false ∧ w.frozen? ⟨B, 8, none⟩ = false := ⟨freeOf h 0, freeOf h 1, freeOf h 2, freeOf h 3, freeOf h 4, freeOf h 5, freeOf h 6, freeOf h 7, freeOf h 8⟩
theorem pSizeE : (Tryz.prog.info? 53).map (·.size) = some 9 := by kernel_rfl
theorem Blk.range {w : World} {T : TypeId} {g : Nat} {c : List Value} (h : Blk w g c.toArray T) : w.rangeAt g 0 c := fun j v hv => by
  rw [Nat.zero_add];exact cellOf h j v (by simpa using hv)
theorem Blk.there {w : World} {T : TypeId} {g o n : Nat} {c : Array Value} (h : Blk w g c T) (hn : o + n ≤ c.size) : w.there g o n := fun j hj =>
  ⟨by rw [cellOf h (o+j) _ (Array.getElem?_eq_getElem (by omega))];rfl,freeOf h (o+j)⟩
section
variable {w0 w w' : World} {b R B : Nat} {α : Type} {A : Lay α} {x : α} {cs : List Value} {lo : Nat}
def Mid {α : Type} (A : Lay α) (B lo : Nat) (w : World) (x : α) (cs : List Value) : Prop := A.In w (fun g => B < g ∧ g < lo) x cs
theorem Mid.chg (h : Mid A B lo w x cs) (k : Chg b w w') (hb : b ≤ B) : Mid A B lo w' x cs := Chg.keep h k (fun k hk => by omega)
theorem Mid.below (h : Mid A B lo w x cs) (k : Below w.heap.size w w') : Mid A B lo w' x cs := Lay.below h k
theorem Mid.set (h : Mid A B lo w x cs) {q : Addr} (hq : q.block ≤ B) (v : Value) : Mid A B lo (w.setCell q v) x cs := Lay.setCell h (by omega) v
theorem Mid.grown {row : Option Nat} (h : Mid A B lo w x cs) (g : w.grownBy w' row) (hr : ∀ k, row = some k → lo ≤ k) : Mid A B lo w' x cs :=
  A.keep (fun k hk hl=>g.block k hl (fun e=>by have:=hr k e.symm;omega)) (fun _ h _=>h) h
end
theorem cells12 {w : World} {B : Nat} {t : TypeId} {p0 p1 p2 p3 p4 p5 p6 p7 p8 p9 p10 p11 : Value} (h : Blk w B #[p0, p1, p2, p3, p4, p5, p6, p7, p8, p9, p10, p11] t) : w.cell? ⟨B, 0, none⟩ = some p0 ∧ w.cell? ⟨B, 1, none⟩ = some p1 ∧ w.cell? ⟨B, 2, none⟩ = some p2 ∧ w.cell? ⟨B, 3, none⟩ = some p3 ∧ w.cell? ⟨B, 4, none⟩ = some p4 ∧ w.cell? ⟨B, 5, none⟩ = some p5 ∧ w.cell? ⟨B, 6, none⟩ = some p6 ∧ w.cell? ⟨B, 7, none⟩ = some p7 ∧ w.cell? ⟨B, 8, none⟩ = some p8 ∧ w.cell? ⟨B, 9, none⟩ = some p9 ∧ w.cell? ⟨B, 10, none⟩ = some p10 ∧ w.cell? ⟨B, 11, none⟩ = some p11 := ⟨cellOf h 0 _ rfl, cellOf h 1 _ rfl, cellOf h 2 _ rfl, cellOf h 3 _ rfl, cellOf h 4 _ rfl, cellOf h 5 _ rfl, cellOf h 6 _ rfl, cellOf h 7 _ rfl, cellOf h 8 _ rfl, cellOf h 9 _ rfl, cellOf h 10 _ rfl, cellOf h 11 _ rfl⟩
theorem pSizeB : (Tryz.prog.info? 55).map (·.size) = some 12 := by kernel_rfl
theorem pUnderN : Tryz.prog.underlying 48 = some (.slice 57) := by kernel_rfl
theorem pInfoN0 : (Tryz.prog.info? 57).map (fun i => (i.zero, i.size, i.bytes)) = some (some (.agg #[.int .i64 0, .int .i64 0, .int .i64 0, .int .i64 0, .int .i64 0, .int .i64 0, .slice none 0 0, .slice none 0 0]), 8, 96) := by kernel_rfl
theorem pInfoN : ∃ i, Tryz.prog.info? 57 = some i ∧ i.zero = some (.agg #[.int .i64 0, .int .i64 0, .int .i64 0, .int .i64 0, .int .i64 0, .int .i64 0, .slice none 0 0, .slice none 0 0]) ∧ i.size = 8 ∧ i.bytes = 96 := by
  have h:=pInfoN0
  cases e:Tryz.prog.info? 57 with
  | none=>rw [e] at h;cases h
  | some i =>
    rw [e] at h;simp only [Option.map_some,Option.some.injEq,Prod.mk.injEq] at h;exact ⟨i,rfl,h.1,h.2.1,h.2.2⟩
theorem pUnderB : Tryz.prog.underlying 44 = some (.slice 55) := by kernel_rfl
theorem pInfoB0 : (Tryz.prog.info? 55).map (fun i => (i.zero, i.size, i.bytes)) = some (some (.agg #[.int .i64 0, .slice none 0 0, .slice none 0 0, .int .i64 0, .int .i64 0, .int .i64 0, .slice none 0 0, .slice none 0 0, .int .i64 0, .slice none 0 0, .slice none 0 0, .slice none 0 0]), 12, 208) := by kernel_rfl
theorem pInfoB : ∃ i, Tryz.prog.info? 55 = some i ∧ i.zero = some (.agg #[.int .i64 0, .slice none 0 0, .slice none 0 0, .int .i64 0, .int .i64 0, .int .i64 0, .slice none 0 0, .slice none 0 0, .int .i64 0, .slice none 0 0, .slice none 0 0, .slice none 0 0]) ∧ i.size = 12 ∧ i.bytes = 208 := by
  have h:=pInfoB0
  cases e:Tryz.prog.info? 55 with
  | none=>rw [e] at h;cases h
  | some i =>
    rw [e] at h;simp only [Option.map_some,Option.some.injEq,Prod.mk.injEq] at h;exact ⟨i,rfl,h.1,h.2.1,h.2.2⟩
theorem pUnderF : Tryz.prog.underlying 22 = some (.slice 46) := by kernel_rfl
theorem pInfoF0 : (Tryz.prog.info? 46).map (fun i => (i.zero, i.size, i.bytes)) = some (some (.agg #[.int .i64 0, .slice none 0 0, .slice none 0 0, .slice none 0 0]), 4, 80) := by kernel_rfl
theorem pInfoF : ∃ i, Tryz.prog.info? 46 = some i ∧ i.zero = some (.agg #[.int .i64 0, .slice none 0 0, .slice none 0 0, .slice none 0 0]) ∧ i.size = 4 ∧ i.bytes = 80 := by
  have h:=pInfoF0
  cases e:Tryz.prog.info? 46 with
  | none=>rw [e] at h;cases h
  | some i =>
    rw [e] at h;simp only [Option.map_some,Option.some.injEq,Prod.mk.injEq] at h;exact ⟨i,rfl,h.1,h.2.1,h.2.2⟩
def Enters (F : Nat) : Prop := ∀ (args : Array Value) (w : World), (callFunc F args).run Tryz.prog w = .ok (.enter F args) w
def VTo (w0 : World) : World → MTo → Value → Prop := fun w' x v => ∃ a c b d, v = .agg #[.int .i64 x.block, .slice a x.regs.length c, .slice b x.args.length d] ∧ toL.In w' (fun g => w0.heap.size ≤ g) x [.int .i64 x.block, .slice a x.regs.length c, .slice b x.args.length d]
def VIns (w0 : World) : World → MIns → Value → Prop := fun w' x v => ∃ a c b d, v = .agg #[.int .i64 x.op, .int .i64 x.a, .int .i64 x.b, .int .i64 x.c, .int .i64 x.k, .int .i64 x.n, .slice a x.regs.length c, .slice b x.args.length d] ∧ insL.In w' (fun g => w0.heap.size ≤ g) x [.int .i64 x.op, .int .i64 x.a, .int .i64 x.b, .int .i64 x.c, .int .i64 x.k, .int .i64 x.n, .slice a x.regs.length c, .slice b x.args.length d]
def VEnd (w0 : World) : World → MEnd → Value → Prop := fun w' x v => ∃ a1 c1 a2 c2 a3 c3 a4 c4 a5 c5, v = .agg #[.int .i64 x.op, .int .i64 x.a, .int .i64 x.yes.block, .slice a1 x.yes.regs.length c1, .slice a2 x.yes.args.length c2, .int .i64 x.no.block, .slice a3 x.no.regs.length c3, .slice a4 x.no.args.length c4, .slice a5 x.args.length c5] ∧ endL.In w' (fun g => w0.heap.size ≤ g) x [.int .i64 x.op, .int .i64 x.a, .int .i64 x.yes.block, .slice a1 x.yes.regs.length c1, .slice a2 x.yes.args.length c2, .int .i64 x.no.block, .slice a3 x.no.regs.length c3, .slice a4 x.no.args.length c4, .slice a5 x.args.length c5]
def VBlock (w0 : World) : World → MBlock 6 → Value → Prop := fun w' x v => ∃ q0 n0 q1 n1 q2 n2 q3 n3 q4 n4 q5 n5 q6 n6, v = .agg #[.int .i64 x.regs, .slice q0 x.params.length n0, .slice q1 x.code.length n1, .int .i64 x.fin.op, .int .i64 x.fin.a, .int .i64 x.fin.yes.block, .slice q2 x.fin.yes.regs.length n2, .slice q3 x.fin.yes.args.length n3, .int .i64 x.fin.no.block, .slice q4 x.fin.no.regs.length n4, .slice q5 x.fin.no.args.length n5, .slice q6 x.fin.args.length n6] ∧ (blockL 6).In w' (fun g => w0.heap.size ≤ g) x [.int .i64 x.regs, .slice q0 x.params.length n0, .slice q1 x.code.length n1, .int .i64 x.fin.op, .int .i64 x.fin.a, .int .i64 x.fin.yes.block, .slice q2 x.fin.yes.regs.length n2, .slice q3 x.fin.yes.args.length n3, .int .i64 x.fin.no.block, .slice q4 x.fin.no.regs.length n4, .slice q5 x.fin.no.args.length n5, .slice q6 x.fin.args.length n6]
def VFunc (w0 : World) : World → MFunc 6 → Value → Prop := fun w' x v => ∃ q1 n1 q2 n2 q3 n3, v = .agg #[.int .i64 x.regs, .slice q1 x.params.length n1, .slice q2 x.results.length n2, .slice q3 x.blocks.length n3] ∧ (funcL 6).In w' (fun g => w0.heap.size ≤ g) x [.int .i64 x.regs, .slice q1 x.params.length n1, .slice q2 x.results.length n2, .slice q3 x.blocks.length n3]
def VMod (w0 : World) : World → List (MFunc 6) → Value → Prop := fun w' m v => ∃ a c, v = .agg #[.slice a m.length c] ∧ (modL 6).In w' (fun g => w0.heap.size ≤ g) m [.slice a m.length c]
theorem tt_leaf {w : World} {O : Nat → Prop} {n : Nat} {k r : Int} {a : Option Addr} {c : Nat} (hk : -9223372036854775808 ≤ k ∧ k ≤ 9223372036854775807) (hr : -9223372036854775808 ≤ r ∧ r ≤ 9223372036854775807) : (Lay.tt (n + 1)).In w O ((k, r, []) : TT (n + 1)) [.int .i64 k, .int .i64 r, .slice a 0 c] :=
  ⟨a,c,rfl,LIn.tree LIn.nil,hr,fun x h=>by simp at h⟩
theorem tt_tree {w : World} {O : Nat → Prop} {n : Nat} {k r : Int} {ts : List (TT n)} {a : Option Addr} {c : Nat} (hk : -9223372036854775808 ≤ k ∧ k ≤ 9223372036854775807) (hr : -9223372036854775808 ≤ r ∧ r ≤ 9223372036854775807) (h : (typesL n).In w O ts [.slice a ts.length c]) : (Lay.tt (n + 1)).In w O ((k, r, ts) : TT (n + 1)) [.int .i64 k, .int .i64 r, .slice a ts.length c] :=
  ⟨a,c,rfl,LIn.tree (types_lin h).1,hr,(types_lin h).2⟩
def byteL : Lay UInt8 where
  size:=1
  In:=fun _ _ x cs=>cs=[.int .u8 (x.toNat:Int)]
  len:=fun h=>by rw [h];rfl
  keep:=fun _ _ h=>h
abbrev bytesL : Lay (List UInt8) := byteL.list
theorem byte_at {w : World} {O : Nat → Prop} {l : List UInt8} {a : Option Addr} {n c : Nat} (h : bytesL.In w O l [.slice a n c]) {i : Nat} {x : UInt8} (hx : l[i]? = some x) :
    ∃ g o,a=some ⟨g,o,none⟩∧O g∧g<w.heap.size∧w.cell? ⟨g,o+i,none⟩=some (.int .u8 (x.toNat:Int)):=by
  obtain ⟨g,o,ds,e1,e2,e3,hc,hd⟩:=Lay.list_at h hx;have hd':ds=[.int .u8 (x.toNat:Int)]:=hd;subst hd';refine ⟨g,o,e1,e2,e3,?_⟩
  have:=hc 0 (by decide)
  simpa [byteL] using this
theorem bytes_take {w : World} {O : Nat → Prop} {l : List UInt8} {a : Option Addr} {n c c' : Nat} (h : bytesL.In w O l [.slice a n c]) (k : Nat) : bytesL.In w O (l.take k) [.slice a (l.take k).length c'] := by
  refine ⟨a,c',rfl,fun i x hx=>?_⟩
  have hx':l[i]?=some x:=by
    rw [List.getElem?_take] at hx;split at hx
    · exact hx
    · cases hx
  exact Lay.list_at h hx'
theorem byte_lt (x : UInt8) : x.toNat < 256 := x.toNat_lt
structure BAt (w : World) (b : Nat) (l : List UInt8) (p : Nat) : Prop where
  blk:∃ a c,Blk w b #[.slice a l.length c,.int .i64 p] 79∧bytesL.In w (fun g=>g<b) l [.slice a l.length c]∧l.length≤c
  le:p≤l.length
  len:l.length≤20000
  pos:0<l.length
section
variable {b p : Nat} {w w' : World} {l : List UInt8}
theorem BAt.lt (h : BAt w b l p) : b < w.heap.size := by obtain ⟨a, c, h1, _⟩ := h.blk; exact h1.lt
theorem BAt.below (h : BAt w b l p) (hb : Below w.heap.size w w') : BAt w' b l p := by
  obtain ⟨a,c,h1,h2,h3⟩:=h.blk;exact ⟨⟨a,c,h1.below hb,Lay.below h2 hb,h3⟩,h.le,h.len,h.pos⟩
theorem BAt.keep (h : BAt w b l p) (hk : ∀ k, k ≤ b → w'.heap[k]? = w.heap[k]?) : BAt w' b l p := by
  obtain ⟨a,c,h1,h2,h3⟩:=h.blk;exact ⟨⟨a,c,(hk b (Nat.le_refl _)).trans h1,Lay.keep _ (fun k hO _=>hk k (Nat.le_of_lt hO)) (fun _ h _=>h) h2,h3⟩,h.le,h.len,h.pos⟩
theorem BAt.set (h : BAt w b l p) {q : Addr} (hq : b < q.block) (v : Value) : BAt (w.setCell q v) b l p :=
  h.keep fun k hk=>Below.heap_setCell _ _ _ _ (by omega)
theorem BAt.grown (h : BAt w b l p) {row : Option Nat} (g : w.grownBy w' row) (hr : ∀ k, row = some k → b < k) : BAt w' b l p :=
  h.keep fun k hk=>g.block k (Nat.lt_of_le_of_lt hk h.lt) (fun e=>by have:=hr k e.symm;omega)
theorem BAt.open_ (h : BAt w b l p) : ∃ g o c, Blk w b #[.slice (some ⟨g, o, none⟩) l.length c, .int .i64 p] 79 ∧ l.length ≤ c ∧ g < b ∧ ∀ i x, l[i]? = some x → w.cell? ⟨g, o + i, none⟩ = some (.int .u8 (x.toNat : Int)) := by
  obtain ⟨a,c,h1,h2,h3⟩:=h.blk;obtain ⟨g,o,rfl,hg,_,_⟩:=byte_at h2 (List.getElem?_eq_getElem h.pos);refine ⟨g,o,c,h1,h3,hg,fun i x hx=>?_⟩;obtain ⟨g',o',e,_,_,hc⟩:=byte_at h2 hx;injection e with e
  injection e with e1 e2
  subst e1;subst e2;exact hc
theorem BAt.on (h : BAt w b l p) {q : Nat} (hq : q ≤ l.length) : BAt (w.setCell ⟨b, 1, none⟩ (.int .i64 q)) b l q := by
  obtain ⟨a,c,h1,h2,h3⟩:=h.blk;refine ⟨⟨a,c,?_,Lay.setCell h2 (by simp) _,h3⟩,hq,h.len,h.pos⟩
  have:=blockSet h1 1 (.int .i64 q)
  simpa using this
end
abbrev gaveC (c a : Int) : List PanicEntry := [{ v := .iface 95 (.agg #[.int .i64 c, .int .i64 a]), recovered := false }]
def Got {α : Type} (b : Nat) (l : List UInt8) (r : DR α) (w : World) (V : World → α → Value → Prop) (en : Ending) (w' : World) : Prop :=
  (∃ v p' x,r=.ok (v,l.drop p')∧en=.returned x∧V w' v x∧BAt w' b l p'∧Chg b w w')∨(∃ y c a,r=.error y∧en=.panicked (gaveC c a)∧c≠0∧Chg b w w')
theorem Got.good {α : Type} {b : Nat} {l : List UInt8} {r : DR α} {w w' : World} {V : World → α → Value → Prop} {v : α} {p' : Nat} {x : Value} (h : r = .ok (v, l.drop p')) (hv : V w' v x) (hp : BAt w' b l p') (hk : Chg b w w') : Got b l r w V (.returned x) w' := .inl ⟨v, p', x, h, rfl, hv, hp, hk⟩
theorem Got.bad {α : Type} {b : Nat} {l : List UInt8} {r : DR α} {w w' : World} {V : World → α → Value → Prop} {y : Int × Int} {c a : Int} (h : r = .error y) (hc : c ≠ 0) (hk : Chg b w w') : Got b l r w V (.panicked (gaveC c a)) w' := .inr ⟨y, c, a, h, rfl, hc, hk⟩
def i64r (v : Int) : Prop := -9223372036854775808 ≤ v ∧ v ≤ 9223372036854775807
def VNum : World → Int → Value → Prop := fun _ v x => x = .int .i64 v ∧ i64r v
theorem longF_rng (N : Nat) : ∀ (i u : Nat) (l : List UInt8), i ≤ 9 → u < 128 ^ i → ∀ {n : Int} {r : List UInt8}, longF N i u l = .ok (n, r) → i64r n
  | i,u,[],_,_,n,r,h=>by simp [longF] at h
  | i,u,x::l,hi,hu,n,r,h=>by
    have hx:=byte_lt x;rw [longF] at h;split at h
    · cases h
    rename_i h1
    have hm:x.toNat % 128<128:=Nat.mod_lt _ (by decide);split at h
    · injection h with h
      injection h with h _
      subst h;refine unzig_rng ?_;rcases Nat.lt_or_ge i 9 with g | g
      · have e:(x.toNat % 128+1)*128 ^ i≤128*128 ^ i:=Nat.mul_le_mul_right _ (by omega);have e2:128*128 ^ i≤128*128 ^ 8:=Nat.mul_le_mul_left _ (Nat.pow_le_pow_right (by decide) (by omega));rw [Nat.add_mul] at e;have e3:(128:Nat)*128 ^ 8=9223372036854775808:=by decide
        omega
      · have:i=9:=by omega
        subst this
        have:x.toNat=1:=by omega
        rw [this];have e3:(128:Nat) ^ 9=9223372036854775808:=by decide
        omega
    · rename_i h2
      have:i<9:=by omega
      refine longF_rng N (i+1) _ l (by omega) ?_ h;have e:(x.toNat % 128+1)*128 ^ i≤128*128 ^ i:=Nat.mul_le_mul_right _ (by omega);rw [Nat.add_mul] at e;rw [Nat.pow_succ];omega
theorem numD_rng {N : Nat} {l : List UInt8} {n : Int} {r : List UInt8} (h : numD N l = .ok (n, r)) : i64r n := longF_rng N 0 0 l (by decide) (by decide) h
structure NumQ (l : List UInt8) (first i u : Nat) : Prop where
  rest:longF l.length i u (l.drop (first+i))=numD l.length (l.drop first)
  le:i≤9
  lt:u<128 ^ i
section
variable {l : List UInt8} {first i u : Nat} {x : UInt8}
theorem NumQ.start : NumQ l first 0 0 := ⟨rfl, by decide, by decide⟩
theorem NumQ.drop (hx : l[first + i]? = some x) : l.drop (first + i) = x :: l.drop (first + i + 1) := by
  obtain ⟨h1,h2⟩:=List.getElem?_eq_some_iff.1 hx;rw [List.drop_eq_getElem_cons h1,h2]
theorem NumQ.short (h : NumQ l first i u) (hx : ¬ first + i < l.length) : numD l.length (l.drop first) = .error (5, (l.length : Int)) := by
  rw [← h.rest,List.drop_of_length_le (by omega),longF]
theorem NumQ.bad (h : NumQ l first i u) (hx : l[first + i]? = some x) (hb : (i = 9 ∧ 1 < x.toNat) ∨ (0 < i ∧ x.toNat = 0)) : ∃ y, numD l.length (l.drop first) = .error y := by
  rw [← h.rest,NumQ.drop hx,longF,if_pos hb];exact ⟨_,rfl⟩
theorem NumQ.stop (h : NumQ l first i u) (hx : l[first + i]? = some x) (hb : ¬ ((i = 9 ∧ 1 < x.toNat) ∨ (0 < i ∧ x.toNat = 0))) (h8 : x.toNat < 128) : numD l.length (l.drop first) = .ok (unzig (u + x.toNat % 128 * 128 ^ i), l.drop (first + i + 1)) := by
  rw [← h.rest,NumQ.drop hx,longF,if_neg hb,if_pos h8]
theorem NumQ.fits (h : NumQ l first i u) (hb : ¬ ((i = 9 ∧ 1 < x.toNat) ∨ (0 < i ∧ x.toNat = 0))) : u + x.toNat % 128 * 128 ^ i < 18446744073709551616 := by
  have hi:=h.le;have hu:=h.lt;have hm:x.toNat % 128<128:=Nat.mod_lt _ (by decide);rcases Nat.lt_or_ge i 9 with g | g
  · have e:(x.toNat % 128+1)*128 ^ i≤128*128 ^ i:=Nat.mul_le_mul_right _ (by omega);have e2:128*128 ^ i≤128*128 ^ 8:=Nat.mul_le_mul_left _ (Nat.pow_le_pow_right (by decide) (by omega));rw [Nat.add_mul] at e;have e3:(128:Nat)*128 ^ 8=9223372036854775808:=by decide
    omega
  · have:i=9:=by omega
    subst this
    have:x.toNat=1:=by omega
    rw [this];have e3:(128:Nat) ^ 9=9223372036854775808:=by decide
    omega
theorem NumQ.go (h : NumQ l first i u) (hx : l[first + i]? = some x) (hb : ¬ ((i = 9 ∧ 1 < x.toNat) ∨ (0 < i ∧ x.toNat = 0))) (h8 : ¬ x.toNat < 128) : NumQ l first (i + 1) (u + x.toNat % 128 * 128 ^ i) := by
  have hi:=h.le;have hu:=h.lt;have h9:i<9:=by omega
  refine ⟨?_,by omega,?_⟩
  · rw [← h.rest,NumQ.drop hx,longF,if_neg hb,if_neg h8];rfl
  · have hm:x.toNat % 128<128:=Nat.mod_lt _ (by decide);have e:(x.toNat % 128+1)*128 ^ i≤128*128 ^ i:=Nat.mul_le_mul_right _ (by omega);rw [Nat.add_mul] at e;rw [Nat.pow_succ];omega
end
def bcells (ys : List UInt8) : List Value := ys.map fun x => .int .u8 (x.toNat : Int)
abbrev WO (b : Nat) (v : Value) : Nat → Prop := fun k => k = b ∨ v.ownBlock = some k
def MRow (w : World) (lo : Nat) (v : Value) (n : Nat) (xs : List Value) : Prop := ∃ g cur fz, v = .slice (some ⟨g, 0, none⟩) n n ∧ lo ≤ g ∧ w.heap[g]? = some (.cells cur 5 fz) ∧ cur.toList = xs ∧ xs.length = n ∧ n ≤ maxLen
def OwnB (w : World) (lo : Nat) (v : Value) (n : Nat) (xs : List Value) : Prop := w.ownsRow lo 5 1 v n xs ∨ MRow w lo v n xs
theorem lt_blockM {w : World} {g : Nat} {o : Obj} (h : w.heap[g]? = some o) : g < w.heap.size := by
  rcases Nat.lt_or_ge g w.heap.size with h' | h'
  · exact h'
  · rw [Array.getElem?_eq_none h'] at h;cases h
theorem OwnB.form {w : World} {lo n : Nat} {v : Value} {xs : List Value} (h : OwnB w lo v n xs) : ∃ a c, v = .slice a n c ∧ (0 < n → n ≤ c) := by
  rcases h with ⟨h1,h2⟩ | ⟨g,cur,fz,e,_⟩
  · rcases h2 with ⟨rfl,h4⟩ | ⟨g,cap,cur,e,_,_,hn,_⟩
    · exact ⟨none,0,by rw [h4],by omega⟩
    · exact ⟨_,_,e,fun _=>hn⟩
  · exact ⟨_,_,e,fun _=>Nat.le_refl _⟩
theorem OwnB.lt {w : World} {lo n : Nat} {v : Value} {xs : List Value} (h : OwnB w lo v n xs) {k : Nat} (hk : v.ownBlock = some k) : lo ≤ k ∧ k < w.heap.size := by
  rcases h with h | ⟨g,cur,fz,rfl,hg,hh,_⟩
  · exact h.lt k hk
  · simp [Value.ownBlock] at hk;subst hk;exact ⟨hg,lt_blockM hh⟩
theorem OwnB.keep {w w' : World} {lo n : Nat} {v : Value} {xs : List Value} (h : OwnB w lo v n xs) (hk : ∀ k, v.ownBlock = some k → w'.heap[k]? = w.heap[k]?) : OwnB w' lo v n xs := by
  rcases h with ⟨h1,h2⟩ | ⟨g,cur,fz,rfl,hg,hh,r⟩
  · refine .inl ⟨h1,?_⟩;rcases h2 with h4 | ⟨g,cap,cur,rfl,hg,hh,r⟩
    · exact Or.inl h4
    · exact Or.inr ⟨g,cap,cur,rfl,hg,(hk g rfl).trans hh,r⟩
  · exact .inr ⟨g,cur,fz,rfl,hg,(hk g rfl).trans hh,r⟩
theorem OwnB.alloc {w : World} {lo n : Nat} {v : Value} {xs : List Value} (h : OwnB w lo v n xs) (o : Obj) : OwnB (w.alloc o) lo v n xs := h.keep fun k hk => Below.heap_alloc _ _ _ (h.lt hk).2
theorem OwnB.cells {w : World} {lo n : Nat} {v : Value} {xs : List Value} (h : OwnB w lo v n xs) {g : Nat} (hg : v.ownBlock = some g) : ∀ j u, xs[j]? = some u → w.cell? ⟨g, j, none⟩ = some u := by
  rcases h with h | ⟨g',cur,fz,rfl,hg',hh,hx,_⟩
  · intro j u hj
    have:=h.cells hg j u hj
    rw [Go.WideShapes.add_plain,Nat.zero_add] at this;exact this
  · intro j u hj;simp [Value.ownBlock] at hg;subst hg
    have:cur[j]?=some u:=by rw [← hx,Array.getElem?_toList] at hj;exact hj
    simp [World.cell?,hh,this]
theorem wpList_append_m {w : World} {ops : Array Oper} {rest : List Oper} {o : Oper} {a : Act} {Q : Exit → Act → World → Prop} (hgd : o.guard = none) (s x : Operand)
    (ho:o.op=.call { callee:=.builtin .append,args:=#[s,x],argTypes:=#[25,25] }) (base:Nat) (i:TypeInfo) (ht:Tryz.prog.underlying 25=some (.slice 5)) (hi:Tryz.prog.info? 5=some i) (hz:i.zero=some (.int .u8 0)) (hsize:i.size=1) (hby:i.bytes=1)
    (v:Value) (n:Nat) (xs:List Value) (hs:a.eval s=v) (hown:OwnB w base v n xs) (ad:Addr) (m c:Nat) (news:List Value) (hx:a.eval x=.slice (some ad) m c) (hl:news.length=m*1) (hnews:∀ j u,news[j]?=some u→w.cell? (ad.add j)=some u) (h1:∀ u∈news,u.oneCell'=true)
    (hm:0<m) (h63:n+m≤maxLen) (hbytes:(n+m)*1≤140737488355328) (hbase:base≤w.heap.size) (H:Nat) (hH:w.heap.size=H)
    (h:∀ g cap w',w'.ownsRow base 5 1 (.slice (some ⟨g,0,none⟩) (n+m) cap) (n+m) (xs++news)→w.grownBy w' v.ownBlock→(v.ownBlock=some g∨g=H)→g<w'.heap.size→wpList Tryz.prog ops Q rest (a.put o.dst (.slice (some ⟨g,0,none⟩) (n+m) cap)) w'):wpList Tryz.prog ops Q (o::rest) a w:=by
  rcases hown with hown | ⟨g,cur,fz,rfl,hg,hh,hc,hxl,hn⟩
  · exact wpList_append_lies _ hgd s x 25 ho base 5 i (.int .u8 0) 1 1 ht hi hz hsize hby rfl (by decide) v n xs hs hown ad m c news hx hl hnews h1 hm h63 hbytes hbase H hH h
  · refine wpList_plain hgd fun K hK=>?_
    have holds:∀ j u,xs[j]?=some u→w.cell? ((⟨g,0,none⟩:Addr).add j)=some u:=fun j u hj=>by
      rw [Go.WideShapes.add_plain,Nat.zero_add]
      have:cur[j]?=some u:=by rw [← hc,Array.getElem?_toList] at hj;exact hj
      simp [World.cell?,hh,this]
    have h63':=h63;simp only [maxLen] at h63';have hr:=run_append_grow (P:=Tryz.prog) w 25 o.type 5 i (.int .u8 0) ht hi hz ⟨g,0,none⟩ n n xs (by rw [hsize,Nat.mul_one];exact hxl) holds ad m c news (by rw [hsize];exact hl) hnews (by omega) (by omega) (by rw [hby];exact growslice_fits (by omega) hbytes);unfold Oper.wp execOp;simp only [ho,resolve,invoke,builtin,Sem.run_bind,Sem.run_pure,Result.andThen_ok,List.map_toArray,List.map_cons,List.map_nil,hs,hx,hr];refine hK _ _ (h w.heap.size _ _ ⟨by rw [List.length_append,hl,hxl];omega,.inr ⟨w.heap.size,_,_,rfl,hbase,heap_alloc_new w.drew _,grownCap_ge w (n+m) n _,grownCap_le_maxLen w (n+m) n _ h63,?_,?_⟩⟩ ⟨rfl,rfl,rfl,by simp,fun k hk _=>heap_alloc_old w.drew _ hk⟩ (.inr hH) (by simp))
    · have:=grownCap_ge w (n+m) n 5
      have hz1:(Value.int IntKind.u8 0).cells.size=1:=rfl;simp only [Array.size_append,List.size_toArray,size_zeroCells,hz1,hxl,hl];omega
    · simp only [Array.toList_append,List.append_assoc];rw [← List.append_assoc];exact List.take_left' (by rw [List.length_append,hl,hxl];omega)
structure WAt (w : World) (b lo : Nat) (v : Value) (ys : List UInt8) : Prop where
  blk:Blk w b #[v] 64
  own:OwnB w lo v ys.length (bcells ys)
  ne:v.ownBlock≠some b
  low:lo≤b
section
variable {w w' : World} {b lo : Nat} {v v' : Value} {ys zs : List UInt8} {O O' : Nat → Prop}
theorem WAt.form (h : WAt w b lo v ys) : ∃ a c, v = .slice a ys.length c := by
  obtain ⟨a,c,e,_⟩:=h.own.form;exact ⟨a,c,e⟩
theorem WAt.lt (h : WAt w b lo v ys) {k : Nat} (hk : WO b v k) : lo ≤ k ∧ k < w.heap.size := by
  rcases hk with rfl | hk
  · exact ⟨h.low,h.blk.lt⟩
  · exact h.own.lt hk
theorem WAt.keep (h : WAt w b lo v ys) (hk : ∀ k, WO b v k → w'.heap[k]? = w.heap[k]?) : WAt w' b lo v ys :=
  ⟨(hk b (.inl rfl)).trans h.blk,h.own.keep fun k e=>hk k (.inr e),h.ne,h.low⟩
theorem WAt.below (h : WAt w b lo v ys) (hb : Below w.heap.size w w') : WAt w' b lo v ys := h.keep fun k hk => hb.block k (h.lt hk).2
theorem WAt.alloc (h : WAt w b lo v ys) (o : Obj) : WAt (w.alloc o) b lo v ys := h.below (bel1 _ _)
theorem WAt.apart (h : WAt w b lo v ys) {k : Nat} (hk : k < lo) : ¬ WO b v k := fun hn => by have := (h.lt hn).1; omega
theorem WAt.apart2 (h : WAt w b lo v ys) {k : Nat} (hk : w.heap.size ≤ k) : ¬ WO b v k := fun hn => by have := (h.lt hn).2; omega
theorem Step.still (h : Step O O' w w') {k : Nat} (hk : k < w.heap.size) (hn : ¬ O k) : ¬ O' k := fun ho => by
  rcases h.own k ho with h1 | h1
  · exact hn h1
  · omega
theorem Step.lays {α : Type} {A : Lay α} {x : α} {cs : List Value} {Q : Nat → Prop} (h : Step O O' w w') (hA : A.In w Q x cs) (hn : ∀ k, Q k → k < w.heap.size → ¬ O k) : A.In w' Q x cs :=
  A.keep (fun k hO hk=>h.block k hk (hn k hO hk)) (fun _ h _=>h) hA
theorem Blk.step {g : Nat} {c : Array Value} {t : TypeId} (h : Blk w g c t) (k : Step O O' w w') (hn : ¬ O g) : Blk w' g c t := k.keep h hn
theorem WAt.push {w9 : World} {x : UInt8} {o : Obj} {g cap : Nat} (h : WAt w b lo v ys) (h1 : w9.ownsRow lo 5 1 (.slice (some ⟨g, 0, none⟩) (ys.length + 1) cap) (ys.length + 1) (bcells ys ++ [.int .u8 (x.toNat : Int)]))
    (h2:(w.alloc o).grownBy w9 v.ownBlock) (h3:v.ownBlock=some g∨g=w.heap.size+1) :
    WAt (w9.setCell ⟨b,0,none⟩ (.slice (some ⟨g,0,none⟩) (ys.length+1) cap)) b lo (.slice (some ⟨g,0,none⟩) (ys.length+1) cap) (ys++[x]) ∧
    Step (WO b v) (WO b (.slice (some ⟨g,0,none⟩) (ys.length+1) cap)) w (w9.setCell ⟨b,0,none⟩ (.slice (some ⟨g,0,none⟩) (ys.length+1) cap)):=by
  have hlt:=h.blk.lt
  have hgb:g≠b:=by
    rcases h3 with h3 | h3
    · intro e;subst e;exact h.ne h3
    · omega
  have hb9:Blk w9 b #[v] 64:=by
    have:=h2.block b (by simp;omega) (fun e=>h.ne e.symm)
    exact this.trans (h.blk.alloc o)
  refine ⟨⟨?_,?_,?_,h.low⟩,⟨h2.os,h2.tape,h2.output,?_,fun k hk hn=>?_,fun k hk=>?_⟩⟩
  · have:=blockSet hb9 0 (.slice (some ⟨g,0,none⟩) (ys.length+1) cap)
    simpa [Blk] using this
  · obtain ⟨q1,q2⟩:=h1;have el:(ys++[x]).length=ys.length+1:=by simp
    have ec:bcells (ys++[x])=bcells ys++[.int .u8 (x.toNat:Int)]:=by simp [bcells]
    rw [el,ec];refine .inl ⟨q1,?_⟩;rcases q2 with h4 | ⟨g',cap',cur,e,hg,hh,r⟩
    · exact Or.inl h4
    · injection e with e1 e2 e3
      injection e1 with e1
      injection e1 with e1
      subst e1;subst e3;exact Or.inr ⟨g,cap,cur,rfl,hg,(Below.heap_setCell _ _ _ _ hgb).trans hh,r⟩
  · simp [Value.ownBlock];exact hgb
  · have:=h2.size;simp at this ⊢;omega
  · have e1:k≠b:=fun e=>hn (.inl e);rw [Below.heap_setCell _ _ _ _ e1,h2.block k (by simp;omega) (fun e=>hn (.inr e.symm)),Below.heap_alloc _ _ _ hk]
  · rcases hk with hk | hk
    · exact .inl (.inl hk)
    · simp [Value.ownBlock] at hk;subst hk;rcases h3 with h3 | h3
      · exact .inl (.inr h3)
      · exact .inr (by omega)
end
def Put (b lo : Nat) (v : Value) (ys zs : List UInt8) (w : World) (en : Ending) (w' : World) : Prop :=
  (∃ v',en=.returned (.tuple #[])∧(ys++zs).length+4≤20000∧WAt w' b lo v' (ys++zs)∧Step (WO b v) (WO b v') w w') ∨
  (∃ c a v',en=.panicked (gaveC c a)∧c≠0∧20000<(ys++zs).length+4∧Step (WO b v) (WO b v') w w')
theorem Put.good {b lo : Nat} {v v' : Value} {ys zs : List UInt8} {w w' : World} (hl : (ys ++ zs).length + 4 ≤ 20000) (h : WAt w' b lo v' (ys ++ zs)) (hs : Step (WO b v) (WO b v') w w') : Put b lo v ys zs w (.returned (.tuple #[])) w' := .inl ⟨v', rfl, hl, h, hs⟩
theorem Put.bad {b lo : Nat} {v v' : Value} {ys zs xs : List UInt8} {w w' : World} {c a : Int} (hc : c ≠ 0) (hl : 20000 < (ys ++ xs).length + 4) (hx : xs.length ≤ zs.length) (hs : Step (WO b v) (WO b v') w w') : Put b lo v ys zs w (.panicked (gaveC c a)) w' :=
  .inr ⟨c,a,v',rfl,hc,by simp at hl ⊢;omega,hs⟩
theorem wrap_eq64 (n : Int) : IntKind.i64.wrap n = wrap64 n := by
  simp only [IntKind.wrap,IntKind.bits,IntKind.signed,wrap64];simp
  omega
theorem unfolded_any {w : World} (u : Nat) (hu : u < 18446744073709551616) :
    Calls Tryz.prog 145 #[.int .u64 u] w fun en w'=>en=.returned (.int .i64 (unzig u))∧w'=w:=by
  have hz:bits .xor .i64 ((u:Int) / 2) (wrap64 (-wrap64 (bits .and .u64 (u:Int) 1)))=unzig u:=by
    have h:=unzig_bits hu;rw [wrap_i64_id (x:=(u:Int) / 2) (by omega),wrap_eq64,wrap_eq64] at h;exact h
  go_enter Tryz.func145,Tryz.ntmps145
  go_wp2
  go_ret;exact ⟨rfl,rfl⟩
theorem folded_any {w : World} (n : Int) (hn : i64r n) :
    Calls Tryz.prog 128 #[.int .i64 n] w fun en w'=>en=.returned (.int .u64 (zig n))∧w'=w:=by
  have hz:=zig_bits hn;go_enter Tryz.func128,Tryz.ntmps128
  go_wp2
  go_ret;exact ⟨rfl,rfl⟩
theorem cgiveUp_any {w : World} (c a : Int) :
    Calls Tryz.prog 64 #[.int .i64 c,.int .i64 a] w fun en w'=>en=.panicked (gaveC c a)∧w'=w:=by
  go_enter Tryz.func64,Tryz.ntmps64
  go_wp2
  exact ⟨rfl,rfl,rfl⟩
structure GrpQ (z j u : Nat) (done : List UInt8) : Prop where
  rest:grp 10 z=done++grp (10 - j) u
  lt:u*128 ^ j<18446744073709551616
  len:done.length=j
  le:j≤9
section
variable {z j u : Nat} {done : List UInt8}
theorem GrpQ.start (h : z < 18446744073709551616) : GrpQ z 0 z [] := ⟨rfl, by simpa using h, rfl, by decide⟩
theorem GrpQ.go (h : GrpQ z j u done) (hu : ¬ u < 128) : GrpQ z (j + 1) (u / 128) (done ++ [UInt8.ofNat (u % 128 + 128)]) := by
  have h1:=h.le;have h2:=h.lt
  have h9:j<9:=by
    rcases Nat.lt_or_ge j 9 with g | g
    · exact g
    · exfalso
      have:j=9:=by omega
      subst this
      have:(128:Nat) ^ 9=9223372036854775808:=by decide
      omega
  refine ⟨?_,?_,by simp [h.len],by omega⟩
  · rw [h.rest,show 10 - j=(10 - (j+1))+1 by omega,grp,if_neg hu,List.append_assoc];rfl
  · have e:u / 128*128 ^ (j+1)=u / 128*128*128 ^ j:=by rw [Nat.pow_succ,Nat.mul_assoc,Nat.mul_comm (128 ^ j)]
    rw [e];exact Nat.lt_of_le_of_lt (Nat.mul_le_mul_right _ (Nat.div_mul_le_self _ _)) h2
theorem GrpQ.stop (h : GrpQ z j u done) (hu : u < 128) : grp 10 z = done ++ [UInt8.ofNat u] := by
  have h1:=h.le;rw [h.rest,show 10 - j=(9 - j)+1 by omega,grp,if_pos hu]
theorem GrpQ.ltu (h : GrpQ z j u done) : u < 18446744073709551616 := Nat.lt_of_le_of_lt (Nat.le_mul_of_pos_right _ (Nat.pow_pos (by decide))) h.lt
end
theorem or128 : ∀ x : Fin 256, x.val ||| 128 = x.val % 128 + 128 := by decide
theorem byte_more (u : Nat) : bits .or .u8 ((u : Int) % 256) 128 = ((UInt8.ofNat (u % 128 + 128)).toNat : Int) := by
  have e:((u:Int) % 256)=((u % 256:Nat):Int):=by omega
  have h1:=or128 ⟨u % 256,Nat.mod_lt _ (by decide)⟩;simp only at h1
  rw [e,show (128:Int)=((128:Nat):Int) from rfl,u8_or_nat _ _ (Nat.mod_lt _ (by decide)) (by decide),h1];show _=(((u % 128+128) % 256:Nat):Int);omega
theorem byte_last {u : Nat} (h : u < 128) : (u : Int) % 256 = ((UInt8.ofNat u).toNat : Int) := by
  show _=((u % 256:Nat):Int);omega
theorem pUnderU : Tryz.prog.underlying 25 = some (.slice 5) := by kernel_rfl
theorem pInfoU0 : (Tryz.prog.info? 5).map (fun i => (i.zero, i.size, i.bytes)) = some (some (.int .u8 0), 1, 1) := by kernel_rfl
theorem pInfoU : ∃ i, Tryz.prog.info? 5 = some i ∧ i.zero = some (.int .u8 0) ∧ i.size = 1 ∧ i.bytes = 1 := by
  have h:=pInfoU0
  cases e:Tryz.prog.info? 5 with
  | none=>rw [e] at h;cases h
  | some i =>
    rw [e] at h;simp only [Option.map_some,Option.some.injEq,Prod.mk.injEq] at h;exact ⟨i,rfl,h.1,h.2.1,h.2.2⟩
theorem pOneU (n : Int) : ∀ u ∈ [Value.int .u8 n], u.oneCell' = true := by
  intro u h;simp at h
  subst h;rfl
def WGo (w : World) (b lo : Nat) (v0 : Value) (ys : List UInt8) (wr : World) : Prop := ∃ v, WAt wr b lo v ys ∧ Step (WO b v0) (WO b v) w wr
theorem WGo.push {w w4 w9 : World} {b lo : Nat} {v0 v : Value} {ys : List UInt8} {x : UInt8} {o : Obj} {g cap : Nat} (hs : Step (WO b v0) (WO b v) w w4) (h : WAt w4 b lo v ys) (h1 : w9.ownsRow lo 5 1 (.slice (some ⟨g, 0, none⟩) (ys.length + 1) cap) (ys.length + 1) (bcells ys ++ [.int .u8 (x.toNat : Int)]))
    (h2:(w4.alloc o).grownBy w9 v.ownBlock) (h3:v.ownBlock=some g∨g=w4.heap.size+1) :
    WGo w b lo v0 (ys++[x]) (w9.setCell ⟨b,0,none⟩ (.slice (some ⟨g,0,none⟩) (ys.length+1) cap)):=by
  obtain ⟨p1,p2⟩:=h.push h1 h2 h3;exact ⟨_,p1,hs.trans p2⟩
theorem w_cells {w4 w9 : World} {b lo : Nat} {v : Value} {ys : List UInt8} {o : Obj} (h : WAt w4 b lo v ys) (h2 : (w4.alloc o).grownBy w9 v.ownBlock) : Blk w9 b #[v] 64 :=
  (h2.block b (by have:=h.blk.lt;simp;omega) (fun e=>h.ne e.symm)).trans (h.blk.alloc o)
theorem wlong_any {w : World} {b lo : Nat} {v : Value} {ys : List UInt8} (n : Int) (hn : i64r n) (hl : ys.length ≤ 100000) (h : WAt w b lo v ys) :
    Calls Tryz.prog 102 #[ptrP b,.int .i64 n] w fun en w'=>Put b lo v ys (numY n) w en w':=by
  have H:Hid (WAt w b lo v ys):=h;have HZ:Hid (zig n<18446744073709551616):=zig_lt64 hn;have HN:Hid (numY n=grp 10 (zig n)):=rfl;have hf:=folded_any (w:=w) n hn;have HF:Hid (Calls Tryz.prog 128 #[.int .i64 n] w fun en w'=>en=.returned (.int .u64 (zig n))∧w'=w):=hf;obtain ⟨i0,hi,hz0,hz1,hz2⟩:=pInfoU;clear h hf;go_enter Tryz.func102,Tryz.ntmps102
  go_wp2_with fail
  refine HF.out.mono ?_;rintro e' w' ⟨rfl,rfl⟩;generalize zig n=z at HZ HN ⊢;clear HF;go_wp2_with fail
  go_loopw [4] (fun r wr=>∃ (u j:Nat) (done:List UInt8),r=.int .u64 u∧GrpQ z j u done∧WGo w' b lo v (ys++done) wr) (fun r _=>(intOf r).toNat)
  case atStart=>exact ⟨z,0,[],rfl,GrpQ.start HZ.out,v,by rw [List.append_nil];exact H.out,Step.refl _ _⟩
  case round =>
    obtain ⟨u,j,done,rfl,hq,v4,h4,s4⟩:=hrel;obtain ⟨a,c,rfl⟩:=h4.form;have Q:Hid (GrpQ z j u done):=hq;have H4:Hid (WAt wr b lo (.slice a (ys++done).length c) (ys++done)):=h4;have S4:Hid (Step (WO b v) (WO b (.slice a (ys++done).length c)) w' wr):=s4;have hown:Hid (OwnB wr lo (.slice a (ys++done).length c) (ys++done).length (bcells (ys++done))):=h4.own;have hlen:(ys++done).length≤100010:=by have:=hq.le;have:=hq.len;simp;omega
    have hlo:lo≤wr.heap.size:=by have:=h4.low;have:=h4.blk.lt;omega
    have y0:=cellOf h4.blk 0 _ rfl;have hu64:=hq.ltu;clear hq h4 s4 H;generalize hL:(ys++done).length=L at hlen hown y0 H4 S4;have HL:Hid ((ys++done).length=L):=hL;clear hL;by_cases hu:u<128
    · have hu':¬ (128:Int)≤u:=by omega
      have G:Hid (grp 10 z=done++[UInt8.ofNat u]):=Q.out.stop hu;have HBX:Hid ((u:Int)=((UInt8.ofNat u).toNat:Int)):=by show _=_;rw [← byte_last hu];omega
      generalize UInt8.ofNat u=x at G HBX;clear Q
      have PU:Hid (∀ g cap w9,w9.ownsRow lo 5 1 (.slice (some ⟨g,0,none⟩) (L+1) cap) (L+1) (bcells (ys++done)++[.int .u8 (u:Int)])→(wr.alloc (.cells #[.int .u8 (u:Int)] 5)).grownBy w9 (Value.slice a L c).ownBlock→((Value.slice a L c).ownBlock=some g∨g=wr.heap.size+1) →
          WGo w' b lo v (ys++(done++[x])) (w9.setCell ⟨b,0,none⟩ (.slice (some ⟨g,0,none⟩) (L+1) cap))∧Blk w9 b #[.slice a L c] 64):=by
        have e:=HL.out;rw [HBX.out];subst e;intro g cap w9 h1 h2 h3;rw [← List.append_assoc];exact ⟨WGo.push S4.out H4.out h1 h2 h3,w_cells H4.out h2⟩
      go_wp2_with (at_builtin;refine wpList_append_m rfl (.tmp 27) (.tmp 30) rfl lo i0 pUnderU hi hz0 hz1 hz2 _ _ _ rfl (hown.out.alloc _) ⟨wr.heap.size,0,none⟩ 1 1 [.int .u8 (u:Int)] rfl rfl (newsP _ [_] _) (pOneU _) (by decide) (by unfold maxLen;omega) (by omega) (by simp;omega) (wr.heap.size+1) (by simp) ?_)
      intro g2 cap2 w9 h1 hgrow hat hlt1;obtain ⟨u1,u2⟩:=PU.out g2 cap2 w9 h1 hgrow hat;have q0:=cellOf u2 0 _ rfl;have f0:=freeOf u2 0;have U1:Hid (WGo w' b lo v (ys++(done++[x])) (w9.setCell ⟨b,0,none⟩ (.slice (some ⟨g2,0,none⟩) (L+1) cap2))):=u1;have B9:Hid (Blk (w9.setCell ⟨b,0,none⟩ (.slice (some ⟨g2,0,none⟩) (L+1) cap2)) b #[.slice (some ⟨g2,0,none⟩) (L+1) cap2] 64):=by show Blk _ _ _ _;simpa [Blk] using blockSet u2 0 (.slice (some ⟨g2,0,none⟩) (L+1) cap2)
      clear h1 hgrow hat hlt1 u1 u2 PU hown H4 S4 y0;have HYS:Hid (ys++(done++[x])=ys++numY n):=by show _=_;rw [HN.out,G.out]
      have HLN:Hid ((ys++numY n).length=L+1):=by show _=_;rw [← HYS.out,← List.append_assoc,List.length_append,HL.out];rfl
      rw [HYS.out] at U1;go_upto_region 5 with fail
      clear q0 f0;generalize w9.setCell ⟨b,0,none⟩ (.slice (some ⟨g2,0,none⟩) (L+1) cap2)=w10 at U1 B9 ⊢;have q0:=cellOf B9.out 0 _ rfl;clear B9;obtain ⟨v9,h9,s9⟩:=U1.out;by_cases hmax:20000<L+1+4
      · have hmax':(20000:Int)<(L:Int)+1+4:=by omega
        have Z:Hid (∀ c a:Int,c≠0→Put b lo v ys (numY n) w' (.panicked (gaveC c a)) w10):=fun c a hc=>Put.bad hc (by rw [HLN.out];exact hmax) (Nat.le_refl _) s9;clear h9 s9 U1;go_wp2_with fail
        refine (cgiveUp_any 2 (-1)).mono ?_;rintro e' w'' ⟨rfl,rfl⟩;exact ⟨rfl,Z.out 2 (-1) (by decide)⟩
      · have hmax':¬ (20000:Int)<(L:Int)+1+4:=by omega
        have Z:Hid (Put b lo v ys (numY n) w' (.returned (.tuple #[])) w10):=Put.good (by rw [HLN.out];omega) h9 s9;clear h9 s9 U1;go_wp2
        exact bodyPost_end (v:=.tuple #[]) (by simp [results,Tryz.results102,go_sem]) rfl Z.out
    · have hu':(128:Int)≤u:=by omega
      have Q2:=Q.out.go hu;have hbx:=byte_more u;generalize UInt8.ofNat (u % 128+128)=x at Q2 hbx;have QQ:Hid (GrpQ z (j+1) (u / 128) (done++[x])):=Q2;clear Q Q2
      have PU:Hid (∀ g cap w9,w9.ownsRow lo 5 1 (.slice (some ⟨g,0,none⟩) (L+1) cap) (L+1) (bcells (ys++done)++[.int .u8 (x.toNat:Int)])→(wr.alloc (.cells #[.int .u8 (x.toNat:Int)] 5)).grownBy w9 (Value.slice a L c).ownBlock→((Value.slice a L c).ownBlock=some g∨g=wr.heap.size+1) →
          WGo w' b lo v (ys++(done++[x])) (w9.setCell ⟨b,0,none⟩ (.slice (some ⟨g,0,none⟩) (L+1) cap))∧Blk w9 b #[.slice a L c] 64):=by
        have e:=HL.out;subst e;intro g cap w9 h1 h2 h3;rw [← List.append_assoc];exact ⟨WGo.push S4.out H4.out h1 h2 h3,w_cells H4.out h2⟩
      go_wp2_with (at_builtin;refine wpList_append_m rfl (.tmp 15) (.tmp 19) rfl lo i0 pUnderU hi hz0 hz1 hz2 _ _ _ rfl (hown.out.alloc _) ⟨wr.heap.size,0,none⟩ 1 1 [.int .u8 (x.toNat:Int)] rfl rfl (newsP _ [_] _) (pOneU _) (by decide) (by unfold maxLen;omega) (by omega) (by simp;omega) (wr.heap.size+1) (by simp) ?_)
      intro g2 cap2 w9 h1 hgrow hat hlt1;obtain ⟨u1,u2⟩:=PU.out g2 cap2 w9 h1 hgrow hat;have q0:=cellOf u2 0 _ rfl;have f0:=freeOf u2 0;have U1:Hid (WGo w' b lo v (ys++(done++[x])) (w9.setCell ⟨b,0,none⟩ (.slice (some ⟨g2,0,none⟩) (L+1) cap2))):=u1;clear h1 hgrow hat hlt1 u1 u2 PU hown H4 S4 y0;go_wp2
      go_roundw
      case rel=>exact ⟨u / 128,j+1,done++[x],by simp,QQ.out,U1.out⟩
      case measure=>simp [intOf];omega
section
variable {b lo : Nat} {v v' : Value} {ys zs acc z : List UInt8} {w w' : World}
theorem Put.fail {c a : Int} (hc : c ≠ 0) (hl : 20000 < (acc ++ z).length + 4) (hL : (acc ++ z).length ≤ (ys ++ zs).length) (hs : Step (WO b v) (WO b v') w w') : Put b lo v ys zs w (.panicked (gaveC c a)) w' :=
  .inr ⟨c,a,v',rfl,hc,by omega,hs⟩
theorem Put.done (e : acc = ys ++ zs) (hl : acc.length + 4 ≤ 20000) (h : WAt w' b lo v' acc) (hs : Step (WO b v) (WO b v') w w') : Put b lo v ys zs w (.returned (.tuple #[])) w' := by
  subst e;exact Put.good hl h hs
theorem Put.from {en : Ending} (k : Below w.heap.size w w') {w'' : World} (hv : ∀ k, WO b v k → k < w.heap.size) (h : Put b lo v ys zs w' en w'') : Put b lo v ys zs w en w'' := by
  have hs:Step (WO b v) (WO b v) w w':=Step.of_below k (fun j hj=>.inl hj);rcases h with ⟨v',e,hl,h,s⟩ | ⟨c,a,v',e,hc,hl,s⟩
  · exact .inl ⟨v',e,hl,h,hs.trans s⟩
  · exact .inr ⟨c,a,v',e,hc,hl,hs.trans s⟩
end
theorem wnums_any {w : World} {b lo : Nat} {v : Value} {ys : List UInt8} {xs : List Int} {Q : Nat → Prop} {a : Option Addr} {N c : Nat} (hN : xs.length = N) (hx : intsL.In w Q xs [.slice a N c]) (hQ : ∀ k, Q k → k < w.heap.size → ¬ WO b v k) (hN3 : N ≤ 100000) (hl : ys.length + 4 ≤ 20000) (h : WAt w b lo v ys) :
    Calls Tryz.prog 77 #[ptrP b,.slice a N c] w fun en w'=>Put b lo v ys (xs.flatMap numY) w en w':=by
  have H:Hid (WAt w b lo v ys):=h
  have HX:Hid (∀ i x,xs[i]?=some x→∃ g o,a=some ⟨g,o,none⟩∧¬ WO b v g∧g<w.heap.size∧w.cell? ⟨g,o+i,none⟩=some (.int .i64 x)∧i64r x):=fun i x hi=>by
    obtain ⟨g,o,ds,e1,e2,e3,hc,hd,hr⟩:=Lay.list_at hx hi;have hd':ds=[.int .i64 x]:=hd;subst hd';refine ⟨g,o,e1,hQ g e2 e3,e3,?_,hr⟩
    have:=hc 0 (by decide)
    simpa [Lay.int] using this
  have HN:Hid (xs.length=N):=hN;have HL:Hid (ys.length+4≤20000):=hl;clear h hx hQ hN hl;go_enter Tryz.func77,Tryz.ntmps77
  go_wp2_with fail
  go_loopw [8] (fun r wr=>∃ i:Nat,r=.int .i64 i∧i≤N∧(ys++(xs.take i).flatMap numY).length+4≤20000∧WGo w b lo v (ys++(xs.take i).flatMap numY) wr) (fun r _=>N - (intOf r).toNat)
  case atStart=>exact ⟨0,rfl,Nat.zero_le _,by simpa using HL.out,v,by simpa using H.out,Step.refl _ _⟩
  case round =>
    obtain ⟨i,rfl,hi,hl,v4,h4,s4⟩:=hrel;have H4:Hid (WAt wr b lo v4 (ys++(xs.take i).flatMap numY)):=h4;have S4:Hid (Step (WO b v) (WO b v4) w wr):=s4;have L4:Hid ((ys++(xs.take i).flatMap numY).length+4≤20000):=hl;clear h4 s4 hl;by_cases hlt:i<N
    · have hxi:xs[i]?=some (xs[i]'(by rw [HN.out];exact hlt)):=List.getElem?_eq_getElem _;generalize xs[i]'(by rw [HN.out];exact hlt)=x at hxi;obtain ⟨g,o,rfl,hg,hgw,yc,hr⟩:=HX.out i x hxi;have yc':wr.cell? ⟨g,o+i,none⟩=some (.int .i64 x):=(World.cell?_of_block (S4.out.block g hgw hg)).trans yc;have hlt':(i:Int)<N:=by omega
      have ET:Hid ((xs.take (i+1)).flatMap numY=(xs.take i).flatMap numY++numY x):=by
        show _=_;rw [List.take_add_one,hxi,Option.toList_some,List.flatMap_append];simp
      have EW:Hid (((xs.take i).flatMap numY++numY x).length≤(xs.flatMap numY).length):=by
        rw [← ET.out];have e:=List.take_append_drop (i+1) xs;have e2:=congrArg (fun l=>(List.flatMap numY l).length) e;simp only [List.flatMap_append,List.length_append] at e2;show (List.flatMap numY (xs.take (i+1))).length≤_;omega
      have RX:Hid (i64r x):=hr;clear yc hxi hr;go_wp2_with fail
      refine (wlong_any x RX.out (by have:=L4.out;omega) H4.out).mono ?_;intro e' w5 hO;rcases hO with ⟨v5,rfl,hl5,h5,s5⟩ | ⟨c',a',v',rfl,hc',hl',s'⟩
      rotate_left
      · exact ⟨rfl,Put.fail hc' hl' (by have:=EW.out;simp only [List.length_append] at this ⊢;omega) (S4.out.trans s')⟩
      have U:Hid ((ys++(xs.take (i+1)).flatMap numY).length+4≤20000∧WGo w b lo v (ys++(xs.take (i+1)).flatMap numY) w5):=by
        show _∧_;rw [ET.out,← List.append_assoc];exact ⟨hl5,v5,h5,S4.out.trans s5⟩
      clear hl5 h5 s5 H4 S4 L4 yc' ET EW;go_wp2
      go_roundw
      case rel=>exact ⟨i+1,by simp,hlt,U.out⟩
      case measure=>simp [intOf];omega
    · have hlt':¬ (i:Int)<N:=by omega
      have e:xs.take i=xs:=List.take_of_length_le (by rw [HN.out];omega)
      have Z:Hid (Put b lo v ys (xs.flatMap numY) w (.returned (.tuple #[])) wr):=by
        have h1:=H4.out;have h2:=L4.out;rw [e] at h1 h2;exact Put.good h2 h1 S4.out
      clear H4 S4 L4;go_wp2
      exact bodyPost_end (v:=.tuple #[]) (by simp [results,Tryz.results77,go_sem]) rfl Z.out
theorem wnum1_any {w : World} {b lo g : Nat} {v : Value} {ys : List UInt8} (x : Int) (hx : i64r x) (hl : ys.length + 4 ≤ 20000) (h : WAt w b lo v ys) (hg : g = w.heap.size) :
    Calls Tryz.prog 77 #[ptrP b,.slice (some ⟨g,0,none⟩) 1 1] (w.alloc (.cells #[.int .i64 x] 3)) fun en w'=>Put b lo v ys (numY x) w en w':=by
  subst hg
  have h1:intsL.In (w.alloc (.cells #[.int .i64 x] 3)) (fun k=>k=w.heap.size) [x] [.slice (some ⟨w.heap.size,0,none⟩) 1 1]:=by
    refine ⟨_,_,rfl,fun i y hy=>?_⟩;have hi:i=0:=by have:=(List.getElem?_eq_some_iff.1 hy).1;simp at this;exact this
    subst hi;simp at hy
    subst hy;refine ⟨w.heap.size,0,[.int .i64 x],rfl,rfl,by simp,fun j hj=>?_,rfl,hx⟩
    have:j=0:=by simp [Lay.int] at hj;exact hj
    subst this;exact cellOf (Blk.new w #[.int .i64 x] 3) 0 _ rfl
  have:=wnums_any (N:=1) (c:=1) rfl h1 (fun k hk _=>by subst hk;exact h.apart2 (Nat.le_refl _)) (by decide) hl (h.alloc _)
  refine this.mono fun en w' hO=>?_;have e:[x].flatMap numY=numY x:=by simp
  rw [e] at hO;exact hO.from (bel1 _ _) (fun k hk=>(h.lt hk).2)
theorem wlist_any {w : World} {b lo : Nat} {v : Value} {ys : List UInt8} {xs : List Int} {Q : Nat → Prop} {a : Option Addr} {c : Nat} (hx : intsL.In w Q xs [.slice a xs.length c]) (hQ : ∀ k, Q k → k < w.heap.size → ¬ WO b v k) (hN3 : xs.length ≤ 100000) (hl : ys.length + 4 ≤ 20000) (h : WAt w b lo v ys) :
    Calls Tryz.prog 131 #[ptrP b,.slice a xs.length c] w fun en w'=>Put b lo v ys (listY numY xs) w en w':=by
  have hbw:=(h.lt (.inl rfl)).2;have H:Hid (WAt w b lo v ys):=h;have HX:Hid (intsL.In w Q xs [.slice a xs.length c]):=hx;have HQ:Hid (∀ k,Q k→k<w.heap.size→¬ WO b v k):=hQ;have HL:Hid (ys.length+4≤20000):=hl;have hr:i64r (xs.length:Int):=⟨by omega,by omega⟩;have HR:Hid (i64r (xs.length:Int)):=hr;generalize hN:xs.length=N at hN3 HR HX;have HN:Hid (xs.length=N):=hN;have HS:Hid (listY numY xs=numY (N:Int)++xs.flatMap numY):=by show _=_;rw [listY,hN]
  clear h hx hQ hl hr hN;go_enter Tryz.func131,Tryz.ntmps131
  go_wp2_with fail
  refine (wnum1_any (N:Int) HR.out HL.out H.out rfl).mono ?_;intro e' w1 hO;rcases hO with ⟨v1,rfl,hl1,h1,s1⟩ | ⟨c',a',v',rfl,hc',hl',s'⟩
  rotate_left
  · exact ⟨rfl,Put.fail hc' hl' (by rw [HS.out];simp only [List.length_append];omega) s'⟩
  have H1:Hid (WAt w1 b lo v1 (ys++numY (N:Int))):=h1;have S1:Hid (Step (WO b v) (WO b v1) w w1):=s1;have L1:Hid ((ys++numY (N:Int)).length+4≤20000):=hl1;clear h1 s1 hl1;go_wp2_with fail
  refine (wnums_any (Q:=fun k=>Q k∧k<w.heap.size) HN.out (Lay.mono (S1.out.lays (Lay.mono (O':=fun k=>Q k∧k<w.heap.size) HX.out (fun k hk hl=>⟨hk,hl⟩)) (fun k hk hl=>HQ.out k hk.1 hl)) (fun _ h _=>h)) (fun k hk _=>S1.out.still hk.2 (HQ.out k hk.1 hk.2)) hN3 L1.out H1.out).mono ?_;intro e' w2 hO;rcases hO with ⟨v2,rfl,hl2,h2,s2⟩ | ⟨c',a',v',rfl,hc',hl',s'⟩
  rotate_left
  · exact ⟨rfl,Put.fail hc' hl' (by rw [HS.out];simp only [List.length_append];omega) (S1.out.trans s')⟩
  have Z:Hid (Put b lo v ys (listY numY xs) w (.returned (.tuple #[])) w2):=Put.done (by rw [HS.out,List.append_assoc]) hl2 h2 (S1.out.trans s2);clear hl2 h2 s2 H1 S1 L1;go_wp2
  exact bodyPost_end (v:=.tuple #[]) (by simp [results,Tryz.results131,go_sem]) rfl Z.out
def NumAt (l : List UInt8) (first : Nat) (r : DR Int) (en : Ending) : Prop :=
  (∃ (n:Int) (q:Nat),r=.ok (n,l.drop q)∧q≤l.length∧first<q∧i64r n∧en=.returned (.tuple #[.int .i64 n,.int .i64 q,.agg #[.int .i64 0,.int .i64 0]])) ∨
  (∃ y c a,r=.error y∧c≠0∧en=.returned (.tuple #[.int .i64 0,.int .i64 0,.agg #[.int .i64 c,.int .i64 a]]))
theorem or_shift {u x i : Nat} (hi : i ≤ 9) (hu : u < 128 ^ i) (hf : u + x * 128 ^ i < 18446744073709551616) : bits .or .u64 (u : Int) (IntKind.u64.wrap ((x : Int) * 2 ^ min (7 * (i : Int)).toNat 64)) = ((u + x * 128 ^ i : Nat) : Int) := by
  have e1:min (7*(i:Int)).toNat 64=7*i:=by omega
  have e2:((x:Int)*2 ^ (7*i))=((x*128 ^ i:Nat):Int):=by
    rw [show (128:Nat)=2 ^ 7 from rfl,← Nat.pow_mul];push_cast
    rfl
  rw [e1,e2,IntKind.wrap_u64,Int.emod_eq_of_lt (by omega) (by omega),u64_or_nat _ _ (by omega) (by omega),or_groups hi hu]
theorem slice_rest {g o N c first : Nat} {w : World} {l : List UInt8} (hf : first ≤ N) (h3 : N ≤ c) (hN : l.length = N) (hcell : ∀ i x, l[i]? = some x → w.cell? ⟨g, o + i, none⟩ = some (.int .u8 (x.toNat : Int))) :
    ∃ q,(∀ wx,(Instr.slice 25 (.slice (some ⟨g,o,none⟩) N c) (some (.int .i64 (first:Int))) none none).run Tryz.prog wx=.ok (.slice (some ⟨g,q,none⟩) (N - first) (c - first)) wx)∧∀ i x,l[first+i]?=some x→w.cell? ⟨g,q+i,none⟩=some (.int .u8 (x.toNat:Int)):=by
  by_cases hc:c=first
  · refine ⟨o,fun wx=>?_,fun i x hx=>?_⟩
    · have h1:(first:Int)≤N:=by omega
      simp [go_sem,hc,Tryz.underlying25,h1]
    · have:=(List.getElem?_eq_some_iff.1 hx).1
      omega
  · refine ⟨o+first,fun wx=>?_,fun i x hx=>?_⟩
    · have h1:(first:Int)≤N:=by omega
      simp [go_sem,hc,Tryz.underlying25,h1]
    · rw [Nat.add_assoc];exact hcell _ _ hx
theorem numberAt_any {w : World} {b p : Nat} {l : List UInt8} (first : Nat) (hf : first ≤ l.length) (h : BAt w b l p) :
    Calls Tryz.prog 133 #[ptrP b,.int .i64 first] w fun en w'=>NumAt l first (numD l.length (l.drop first)) en∧Below w.heap.size w w':=by
  have hbw:=h.lt;have hl2:=h.len;have hpos:=h.pos;obtain ⟨g,o,c,h1,h3,hg,hcell⟩:=h.open_;have y0:=cellOf h1 0 _ rfl;obtain ⟨q,hsl,hcell⟩:=slice_rest (w:=w) hf h3 rfl hcell;have CE:Hid (∀ i x,l[first+i]?=some x→w.cell? ⟨g,q+i,none⟩=some (.int .u8 (x.toNat:Int))):=hcell;generalize hN:l.length=N at hf hl2 hpos h3 y0 hsl;have HN:Hid (l.length=N):=hN;have hgw:g<w.heap.size:=by omega
  have F0:Hid (Blk (w.alloc (.cells #[.int .i64 0,.int .i64 0] 30)) w.heap.size #[.int .i64 0,.int .i64 0] 30):=Blk.new _ _ _;clear h h1 hN;go_enter Tryz.func133,Tryz.ntmps133
  go_wp2_with fail
  have B0:Hid (Below w.heap.size w (w.alloc (.cells #[.int .i64 0,.int .i64 0] 30))):=bel1 _ _;generalize w.alloc (.cells #[.int .i64 0,.int .i64 0] 30)=w1 at F0 B0 ⊢;go_loopw [17,7] (fun v u wr=>∃ (i k:Nat),v=.int .i64 i∧u=.int .u64 k∧i≤N - first∧NumQ l first i k∧Hid (wr=w1)) (fun v _ _=>N - (intOf v).toNat)
  case atStart=>exact ⟨0,0,rfl,rfl,Nat.zero_le _,NumQ.start,(rfl:w1=w1)⟩
  case round =>
    obtain ⟨i,k,rfl,rfl,hi,hq,hw⟩:=hrel;have e:=hw.out;subst e;have Q:Hid (NumQ l first i k):=hq
    have FIN:Hid (∀ c a,Blk ((wr.setCell ⟨w.heap.size,0,none⟩ c).setCell ⟨w.heap.size,1,none⟩ a) w.heap.size #[c,a] 30∧Below w.heap.size w ((wr.setCell ⟨w.heap.size,0,none⟩ c).setCell ⟨w.heap.size,1,none⟩ a)):=fun c a =>
      ⟨by simpa [Blk] using blockSet (blockSet F0.out 0 c) 1 a,(B0.out.setCell (p:=⟨w.heap.size,0,none⟩) (Nat.le_refl _) _).setCell (p:=⟨w.heap.size,1,none⟩) (Nat.le_refl _) _⟩
    have hi9:i≤9:=hq.le;clear hq hw;have hN0:(0:Int)≤(N - first:Nat):=by omega
    by_cases hlt:i<N - first
    · have hx:l[first+i]?=some (l[first+i]'(by rw [HN.out];omega)):=List.getElem?_eq_getElem _;generalize l[first+i]'(by rw [HN.out];omega)=x at hx;have yc:wr.cell? ⟨g,q+i,none⟩=some (.int .u8 (x.toNat:Int)):=(World.cell?_of_block (B0.out.block g hgw)).trans (CE.out i x hx);have hlt':(i:Int)<(N - first:Nat):=by omega
      have HX:Hid (l[first+i]?=some x):=hx;have hz8:x.toNat<256:=byte_lt x;obtain ⟨z,hz⟩:∃ z,x.toNat=z:=⟨_,rfl⟩;rw [hz] at yc hz8;have HZ:Hid (x.toNat=z):=hz;have hgb:¬ w.heap.size=g:=by omega
      clear hx hz;have f0:=cellOf F0.out 0 _ rfl;have f1:=cellOf F0.out 1 _ rfl;have v0:=freeOf F0.out 0;have v1:=freeOf F0.out 1;by_cases hb:(i=9∧1<z)∨(0<i∧z=0)
      · obtain ⟨y,hy⟩:=Q.out.bad HX.out (by rw [HZ.out];exact hb);rw [HN.out] at hy;have Y:Hid (numD N (l.drop first)=.error y):=hy;clear hy Q HX HZ CE F0 B0;rcases hb with ⟨rfl,hz⟩ | ⟨hi0,rfl⟩
        · have hz':(1:Int)<z:=by omega
          go_wp2
          have D:=FIN.out (.int .i64 1) (.int .i64 ((first:Int)+9));generalize (wr.setCell ⟨w.heap.size,0,none⟩ (.int .i64 1)).setCell ⟨w.heap.size,1,none⟩ (.int .i64 ((first:Int)+9))=w9 at D ⊢;have x0:=cellOf D.1 0 _ rfl;have x1:=cellOf D.1 1 _ rfl;exact bodyPost_ret (v:=.tuple #[.int .i64 0,.int .i64 0,.agg #[.int .i64 1,.int .i64 ((first:Int)+9)]]) (by simp [results,Tryz.results133,go_sem,x0,x1]) rfl ⟨.inr ⟨y,1,_,Y.out,by decide,rfl⟩,D.2⟩
        · have hi0':(0:Int)<i:=by omega
          by_cases h9:i=9
          · subst h9;go_wp2
            have D:=FIN.out (.int .i64 1) (.int .i64 ((first:Int)+9));generalize (wr.setCell ⟨w.heap.size,0,none⟩ (.int .i64 1)).setCell ⟨w.heap.size,1,none⟩ (.int .i64 ((first:Int)+9))=w9 at D ⊢;have x0:=cellOf D.1 0 _ rfl;have x1:=cellOf D.1 1 _ rfl;exact bodyPost_ret (v:=.tuple #[.int .i64 0,.int .i64 0,.agg #[.int .i64 1,.int .i64 ((first:Int)+9)]]) (by simp [results,Tryz.results133,go_sem,x0,x1]) rfl ⟨.inr ⟨y,1,_,Y.out,by decide,rfl⟩,D.2⟩
          · have h9':¬ (i:Int)=9:=by omega
            go_wp2
            have D:=FIN.out (.int .i64 1) (.int .i64 ((first:Int)+i));generalize (wr.setCell ⟨w.heap.size,0,none⟩ (.int .i64 1)).setCell ⟨w.heap.size,1,none⟩ (.int .i64 ((first:Int)+i))=w9 at D ⊢;have x0:=cellOf D.1 0 _ rfl;have x1:=cellOf D.1 1 _ rfl;exact bodyPost_ret (v:=.tuple #[.int .i64 0,.int .i64 0,.agg #[.int .i64 1,.int .i64 ((first:Int)+i)]]) (by simp [results,Tryz.results133,go_sem,x0,x1]) rfl ⟨.inr ⟨y,1,_,Y.out,by decide,rfl⟩,D.2⟩
      · have hfit:=Q.out.fits (x:=x) (by rw [HZ.out];exact hb);have hkl:=Q.out.lt;rw [HZ.out] at hfit;have hor:bits .or .u64 (k:Int) (IntKind.u64.wrap (((z % 128:Nat):Int)*2 ^ min (7*(i:Int)).toNat 64))=((k+z % 128*128 ^ i:Nat):Int):=or_shift hi9 hkl hfit;have U:=unfolded_any (w:=wr) (k+z % 128*128 ^ i) hfit
        have GO:Hid (¬ z<128→NumQ l first (i+1) (k+z % 128*128 ^ i)):=fun h8=>by
          have h:=Q.out.go HX.out (by rw [HZ.out];exact hb) (by rw [HZ.out];exact h8);rw [HZ.out] at h;exact h
        have ST:Hid (z<128→numD N (l.drop first)=.ok (unzig (k+z % 128*128 ^ i),l.drop (first+i+1))∧i64r (unzig (k+z % 128*128 ^ i))):=fun h8=>by
          have h:=Q.out.stop HX.out (by rw [HZ.out];exact hb) (by rw [HZ.out];exact h8);rw [HZ.out,HN.out] at h;exact ⟨h,numD_rng h⟩
        generalize k+z % 128*128 ^ i=k2 at hor U GO ST;have UU:Hid (Calls Tryz.prog 145 #[.int .u64 k2] wr fun en w'=>en=.returned (.int .i64 (unzig k2))∧w'=wr):=U;clear U hfit Q HX HZ CE F0 B0;generalize unzig k2=n2 at ST UU;by_cases h9:i=9
        · subst h9;have hz1:z=1:=by omega
          subst hz1;rw [show IntKind.u64.wrap (((1 % 128:Nat):Int)*2 ^ min (7*((9:Nat):Int)).toNat 64)=9223372036854775808 from by decide] at hor;obtain ⟨e2,r2⟩:=ST.out (by decide);have E2:Hid (numD N (l.drop first)=.ok (n2,l.drop (first+9+1))):=e2;have R2:Hid (i64r n2):=r2;clear ST GO e2 r2;go_wp2_with fail
          refine UU.out.mono ?_;rintro e' w' ⟨rfl,rfl⟩;clear UU hor;go_wp2
          have D:=FIN.out (.int .i64 0) (.int .i64 0);generalize (w'.setCell ⟨w.heap.size,0,none⟩ (.int .i64 0)).setCell ⟨w.heap.size,1,none⟩ (.int .i64 0)=w9 at D ⊢;have x0:=cellOf D.1 0 _ rfl;have x1:=cellOf D.1 1 _ rfl;exact bodyPost_ret (v:=.tuple #[.int .i64 n2,.int .i64 ((first:Int)+9+1),.agg #[.int .i64 0,.int .i64 0]]) (by simp [results,Tryz.results133,go_sem,x0,x1]) rfl ⟨.inl ⟨n2,first+9+1,E2.out,by rw [HN.out];omega,by omega,R2.out,rfl⟩,D.2⟩
        · have h9':¬ (i:Int)=9:=by omega
          rcases Nat.eq_zero_or_pos i with h0 | h0
          · subst h0;have hk0:k=0:=by simpa using hkl
            subst hk0;rw [Nat.add_zero] at yc
            have hor0:bits .or .u64 0 ((z:Int) % 128)=(k2:Int):=by
              have e0:IntKind.u64.wrap (((z % 128:Nat):Int)*2 ^ min (7*((0:Nat):Int)).toNat 64)=(z:Int) % 128:=by
                rw [IntKind.wrap_u64];simp
                omega
              rw [e0] at hor;exact hor
            by_cases h8:z<128
            · have h8':(z:Int)<128:=by omega
              obtain ⟨e2,r2⟩:=ST.out h8;have E2:Hid (numD N (l.drop first)=.ok (n2,l.drop (first+0+1))):=e2;have R2:Hid (i64r n2):=r2;clear ST GO e2 r2;go_wp2_with fail
              refine UU.out.mono ?_;rintro e' w' ⟨rfl,rfl⟩;clear UU hor hor0;go_wp2
              have D:=FIN.out (.int .i64 0) (.int .i64 0);generalize (w'.setCell ⟨w.heap.size,0,none⟩ (.int .i64 0)).setCell ⟨w.heap.size,1,none⟩ (.int .i64 0)=w9 at D ⊢;have x0:=cellOf D.1 0 _ rfl;have x1:=cellOf D.1 1 _ rfl;exact bodyPost_ret (v:=.tuple #[.int .i64 n2,.int .i64 ((first:Int)+1),.agg #[.int .i64 0,.int .i64 0]]) (by simp [results,Tryz.results133,go_sem,x0,x1]) rfl ⟨.inl ⟨n2,first+0+1,E2.out,by rw [HN.out];omega,by omega,R2.out,by simp⟩,D.2⟩
            · have h8':¬ (z:Int)<128:=by omega
              have G2:Hid (NumQ l first (0+1) k2):=GO.out h8;clear ST GO UU;go_wp2
              go_roundw
              case rel=>exact ⟨0+1,k2,by simp,rfl,by omega,G2.out,show Hid True from trivial⟩
              case measure=>simp [intOf];omega
          · have h0':(0:Int)<i:=by omega
            have hz0:¬ (z:Int)=0:=by omega
            have hor1:bits .or .u64 (k:Int) (IntKind.u64.wrap ((z:Int) % 128*2 ^ (7*i)))=(k2:Int):=by
              rw [← hor,show min (7*(i:Int)).toNat 64=7*i by omega];congr 1
            by_cases h8:z<128
            · have h8':(z:Int)<128:=by omega
              obtain ⟨e2,r2⟩:=ST.out h8;have E2:Hid (numD N (l.drop first)=.ok (n2,l.drop (first+i+1))):=e2;have R2:Hid (i64r n2):=r2;clear ST GO e2 r2;go_wp2_with fail
              refine UU.out.mono ?_;rintro e' w' ⟨rfl,rfl⟩;clear UU hor hor1;go_wp2
              have D:=FIN.out (.int .i64 0) (.int .i64 0);generalize (w'.setCell ⟨w.heap.size,0,none⟩ (.int .i64 0)).setCell ⟨w.heap.size,1,none⟩ (.int .i64 0)=w9 at D ⊢;have x0:=cellOf D.1 0 _ rfl;have x1:=cellOf D.1 1 _ rfl;exact bodyPost_ret (v:=.tuple #[.int .i64 n2,.int .i64 ((first:Int)+i+1),.agg #[.int .i64 0,.int .i64 0]]) (by simp [results,Tryz.results133,go_sem,x0,x1]) rfl ⟨.inl ⟨n2,first+i+1,E2.out,by rw [HN.out];omega,by omega,R2.out,rfl⟩,D.2⟩
            · have h8':¬ (z:Int)<128:=by omega
              have G2:Hid (NumQ l first (i+1) k2):=GO.out h8;clear ST GO UU;go_wp2
              go_roundw
              case rel=>exact ⟨i+1,k2,by simp,rfl,by omega,G2.out,show Hid True from trivial⟩
              case measure=>simp [intOf];omega
    · have hlt':¬ (i:Int)<(N - first:Nat):=by omega
      have Z:Hid (numD N (l.drop first)=.error (5,(N:Int))):=by
        have h:=Q.out.short (by rw [HN.out];omega);rw [HN.out] at h;exact h
      have yb:wr.cell? ⟨b,0,none⟩=some (.slice (some ⟨g,o,none⟩) N c):=(World.cell?_of_block (B0.out.block b hbw)).trans y0;have f0:=cellOf F0.out 0 _ rfl;have f1:=cellOf F0.out 1 _ rfl;have v0:=freeOf F0.out 0;have v1:=freeOf F0.out 1;go_wp2_with fail
      go_region;have D:=FIN.out (.int .i64 5) (.int .i64 N);generalize (wr.setCell ⟨w.heap.size,0,none⟩ (.int .i64 5)).setCell ⟨w.heap.size,1,none⟩ (.int .i64 N)=w9 at D ⊢;go_wp2
      have x0:w9.drew.cell? ⟨w.heap.size,0,none⟩=_:=cellOf D.1 0 _ rfl;have x1:w9.drew.cell? ⟨w.heap.size,1,none⟩=_:=cellOf D.1 1 _ rfl;exact bodyPost_ret (v:=.tuple #[.int .i64 0,.int .i64 0,.agg #[.int .i64 5,.int .i64 N]]) (by simp [results,Tryz.results133,go_sem,x0,x1]) rfl ⟨.inr ⟨_,5,_,Z.out,by decide,rfl⟩,D.2.drew⟩
def MustOut (b : Nat) (l : List UInt8) (n c a : Int) (q : Nat) (w : World) (en : Ending) (w' : World) : Prop :=
  (c=0∧en=.returned (.int .i64 n)∧BAt w' b l q∧Chg b w w')∨(c≠0∧en=.panicked (gaveC c a)∧Chg b w w')
theorem cmust_any {w : World} {b p q : Nat} {l : List UInt8} (n c a : Int) (hc : c = 0 → q ≤ l.length) (h : BAt w b l p) :
    Calls Tryz.prog 111 #[ptrP b,.int .i64 n,.int .i64 q,.agg #[.int .i64 c,.int .i64 a]] w fun en w'=>MustOut b l n c a q w en w':=by
  have hbw:=h.lt;have H:Hid (BAt (w.alloc (.cells #[.int .i64 c,.int .i64 a] 30)) b l p):=h.below (bel1 _ _);have X:Hid (Blk (w.alloc (.cells #[.int .i64 c,.int .i64 a] 30)) w.heap.size #[.int .i64 c,.int .i64 a] 30):=Blk.new _ _ _;have K:Hid (Chg b w (w.alloc (.cells #[.int .i64 c,.int .i64 a] 30))):=Chg.below (bel1 _ _);by_cases hc0:c=0
  · have hq:=hc hc0;subst hc0;have U:Hid (∀ w1,BAt w1 b l p→Chg b w w1→BAt (w1.setCell ⟨b,1,none⟩ (.int .i64 q)) b l q∧Chg b w (w1.setCell ⟨b,1,none⟩ (.int .i64 q))):=fun w1 h1 k1=>⟨h1.on hq,k1.trans (Chg.set w1 1 _ h1.lt)⟩;clear h hc;go_enter Tryz.func111,Tryz.ntmps111
    go_upto_region 1 with fail
    generalize w.alloc (.cells #[.int .i64 0,.int .i64 a] 30)=w1 at H X K ⊢;have y0:=cellOf X.out 0 _ rfl;obtain ⟨g,o,c',h1,_⟩:=H.out.open_;have z1:=cellOf h1 1 _ rfl;have v1:=freeOf h1 1;have D:Hid (_∧_):=U.out w1 H.out K.out;clear h1 H X K U;go_wp2
    generalize w1.setCell ⟨b,1,none⟩ (.int .i64 q)=w9 at D ⊢;go_ret;exact .inl ⟨rfl,rfl,D.out.1,D.out.2⟩
  · have HC:Hid (c≠0):=hc0;clear h hc;go_enter Tryz.func111,Tryz.ntmps111
    go_upto_region 1 with fail
    generalize w.alloc (.cells #[.int .i64 c,.int .i64 a] 30)=w1 at H X K ⊢;have y0:=cellOf X.out 0 _ rfl;have y1:=cellOf X.out 1 _ rfl;clear H X;go_wp2_with fail
    refine (cgiveUp_any c a).mono ?_;rintro e' w' ⟨rfl,rfl⟩;exact ⟨rfl,.inr ⟨HC.out,rfl,K.out⟩⟩
theorem clong_any {w : World} {b p : Nat} {l : List UInt8} (h : BAt w b l p) :
    Calls Tryz.prog 134 #[ptrP b] w fun en w'=>Got b l (numD l.length (l.drop p)) w VNum en w':=by
  have hbw:=h.lt;have H:Hid (BAt w b l p):=h;obtain ⟨g,o,c',h1,_⟩:=h.open_;have z1:=cellOf h1 1 _ rfl;clear h h1;go_enter Tryz.func134,Tryz.ntmps134
  go_wp2_with fail
  refine (numberAt_any p H.out.le H.out).mono ?_;rintro e' w1 ⟨hO,b1⟩;have H1:Hid (BAt w1 b l p):=H.out.below b1;have K1:Hid (Chg b w w1):=Chg.below b1;clear b1 H z1;rcases hO with ⟨n,q,e1,hq,hpq,hr,rfl⟩ | ⟨y,c,a,e1,hc,rfl⟩
  · have E1:Hid (numD l.length (l.drop p)=.ok (n,l.drop q)):=e1;have R1:Hid (i64r n):=hr;have HQ:Hid (q≤l.length):=hq;clear e1 hr hpq hq;go_wp2_with fail
    refine (cmust_any n 0 0 (fun _=>HQ.out) H1.out).mono ?_;rintro e' w2 (⟨_,rfl,h2,k2⟩ | ⟨hc,_⟩)
    · have Z:Hid (Got b l (numD l.length (l.drop p)) w VNum (.returned (.int .i64 n)) w2):=Got.good E1.out ⟨rfl,R1.out⟩ h2 (K1.out.trans k2);clear E1 R1 HQ h2 k2 H1 K1;go_wp2
      go_ret;exact Z.out
    · exact absurd rfl hc
  · have E1:Hid (numD l.length (l.drop p)=.error y):=e1;have HC:Hid (c≠0):=hc;clear e1 hc;go_wp2_with fail
    refine (cmust_any (q:=0) 0 c a (fun _=>Nat.zero_le _) H1.out).mono ?_;rintro e' w2 (⟨hc,_⟩ | ⟨hc,rfl,k2⟩)
    · exact absurd hc HC.out
    · exact ⟨rfl,Got.bad E1.out hc (K1.out.trans k2)⟩
theorem cnumber_any {w : World} {b p : Nat} {l : List UInt8} (h : BAt w b l p) :
    Calls Tryz.prog 113 #[ptrP b] w fun en w'=>Got b l (numD l.length (l.drop p)) w VNum en w':=by
  have H:Hid (BAt w b l p):=h;clear h;go_enter Tryz.func113,Tryz.ntmps113
  go_wp2_with fail
  refine (clong_any H.out).mono ?_;intro e' w2 hO;have O:Hid (Got b l (numD l.length (l.drop p)) w VNum e' w2):=hO;rcases hO with ⟨v,p1,x,m1,rfl,hv,r1,k1⟩ | ⟨y,c,a,m1,rfl,hc,k1⟩
  · clear m1 hv r1 k1 H;go_wp2
    go_ret;exact O.out
  · exact ⟨rfl,O.out⟩
def CntAt (l : List UInt8) (first : Nat) (r : DR Nat) (en : Ending) : Prop :=
  (∃ (n q:Nat),r=.ok (n,l.drop q)∧q≤l.length∧n≤l.length - q∧en=.returned (.tuple #[.int .i64 n,.int .i64 q,.agg #[.int .i64 0,.int .i64 0]])) ∨
  (∃ y c a,r=.error y∧c≠0∧en=.returned (.tuple #[.int .i64 0,.int .i64 0,.agg #[.int .i64 c,.int .i64 a]]))
theorem countAt_any {w : World} {b p : Nat} {l : List UInt8} (first : Nat) (hf : first ≤ l.length) (h : BAt w b l p) :
    Calls Tryz.prog 112 #[ptrP b,.int .i64 first] w fun en w'=>CntAt l first (cntD l.length (l.drop first)) en∧Below w.heap.size w w':=by
  have hbw:=h.lt;have hl2:=h.len;generalize hN:l.length=N at hf hl2;have HN:Hid (l.length=N):=hN;clear hN;have H:Hid (BAt (w.alloc (.cells #[.int .i64 0,.int .i64 0] 30)) b l p):=h.below (bel1 _ _);have F0:Hid (Blk (w.alloc (.cells #[.int .i64 0,.int .i64 0] 30)) w.heap.size #[.int .i64 0,.int .i64 0] 30):=Blk.new _ _ _;have B0:Hid (Below w.heap.size w (w.alloc (.cells #[.int .i64 0,.int .i64 0] 30))):=bel1 _ _;have hs0:Hid (w.heap.size<(w.alloc (.cells #[.int .i64 0,.int .i64 0] 30)).heap.size):=F0.out.lt;clear h;go_enter Tryz.func112,Tryz.ntmps112
  go_wp2_with fail
  generalize w.alloc (.cells #[.int .i64 0,.int .i64 0] 30)=w1 at H F0 B0 hs0 ⊢;refine (numberAt_any first (by rw [HN.out];exact hf) H.out).mono ?_;rintro e' w2 ⟨hO,b2⟩;rw [HN.out] at hO;have F2:Hid (Blk w2 w.heap.size #[.int .i64 0,.int .i64 0] 30):=F0.out.below b2;have B2:Hid (Below w.heap.size w w2):=B0.out.trans (b2.mono (Nat.le_of_lt hs0.out));obtain ⟨g,o,c',h1,_⟩:=(H.out.below b2).open_;rw [HN.out] at h1
  have FIN:Hid (∀ c a,Blk ((w2.setCell ⟨w.heap.size,0,none⟩ c).setCell ⟨w.heap.size,1,none⟩ a) w.heap.size #[c,a] 30∧Below w.heap.size w ((w2.setCell ⟨w.heap.size,0,none⟩ c).setCell ⟨w.heap.size,1,none⟩ a)∧Blk ((w2.setCell ⟨w.heap.size,0,none⟩ c).setCell ⟨w.heap.size,1,none⟩ a) b #[.slice (some ⟨g,o,none⟩) N c',.int .i64 p] 79):=fun c a =>
      ⟨by simpa [Blk] using blockSet (blockSet F2.out 0 c) 1 a,(B2.out.setCell (p:=⟨w.heap.size,0,none⟩) (Nat.le_refl _) _).setCell (p:=⟨w.heap.size,1,none⟩) (Nat.le_refl _) _,(h1.setOther (p:=⟨w.heap.size,0,none⟩) (by show w.heap.size≠b;omega) _).setOther (p:=⟨w.heap.size,1,none⟩) (by show w.heap.size≠b;omega) _⟩
  have f0:=cellOf F2.out 0 _ rfl;have f1:=cellOf F2.out 1 _ rfl;have v0:=freeOf F2.out 0;have v1:=freeOf F2.out 1;clear H F0 B0 hs0 b2 h1 F2 B2;rcases hO with ⟨n,q,e1,hq,hpq,hr,rfl⟩ | ⟨y,c,a,e1,hc,rfl⟩
  · rw [HN.out] at hq;go_upto_region 2 with fail
    have D:=FIN.out (.int .i64 0) (.int .i64 0);generalize (w2.setCell ⟨w.heap.size,0,none⟩ (.int .i64 0)).setCell ⟨w.heap.size,1,none⟩ (.int .i64 0)=w3 at D ⊢;obtain ⟨D1,D2,D3⟩:=D
    have G3:Hid (∀ c a,Blk ((w3.setCell ⟨w.heap.size,0,none⟩ c).setCell ⟨w.heap.size,1,none⟩ a) w.heap.size #[c,a] 30∧Below w.heap.size w ((w3.setCell ⟨w.heap.size,0,none⟩ c).setCell ⟨w.heap.size,1,none⟩ a)):=fun c a =>
      ⟨by simpa [Blk] using blockSet (blockSet D1 0 c) 1 a,(D2.setCell (p:=⟨w.heap.size,0,none⟩) (Nat.le_refl _) _).setCell (p:=⟨w.heap.size,1,none⟩) (Nat.le_refl _) _⟩
    have y0:=cellOf D3 0 _ rfl;have E1:Hid (numD N (l.drop first)=.ok (n,l.drop q)):=e1;have hld:(l.drop q).length=N - q:=by rw [List.length_drop,HN.out]
    clear f0 f1 v0 v1 FIN e1;have f0:=cellOf D1 0 _ rfl;have f1:=cellOf D1 1 _ rfl;have v0:=freeOf D1 0;have v1:=freeOf D1 1;clear D1 D2 D3;have hr1:-9223372036854775808≤n:=hr.1;have hr2:n≤9223372036854775807:=hr.2;clear hr;by_cases hn0:n<0
    · have Y:Hid (cntD N (l.drop first)=.error (2,(N:Int) - ((l.drop first).length:Int))):=by rw [cntD,E1.out,DR.ok_andThen,if_pos (.inl hn0)];rfl
      clear hld;go_wp2
      have D:=G3.out (.int .i64 2) (.int .i64 first);generalize (w3.setCell ⟨w.heap.size,0,none⟩ (.int .i64 2)).setCell ⟨w.heap.size,1,none⟩ (.int .i64 first)=w9 at D ⊢;have x0:=cellOf D.1 0 _ rfl;have x1:=cellOf D.1 1 _ rfl;exact bodyPost_ret (v:=.tuple #[.int .i64 0,.int .i64 0,.agg #[.int .i64 2,.int .i64 first]]) (by simp [results,Tryz.results112,go_sem,x0,x1]) rfl ⟨.inr ⟨_,2,_,Y.out,by decide,rfl⟩,D.2⟩
    · by_cases hn1:((N - q:Nat):Int)<n
      · have Y:Hid (cntD N (l.drop first)=.error (2,(N:Int) - ((l.drop first).length:Int))):=by rw [cntD,E1.out,DR.ok_andThen,if_pos (.inr (by rw [hld];exact hn1))];rfl
        have hn1':(N:Int) - (q:Int)<n:=by omega
        clear hld hn1;go_wp2
        have D:=G3.out (.int .i64 2) (.int .i64 first);generalize (w3.setCell ⟨w.heap.size,0,none⟩ (.int .i64 2)).setCell ⟨w.heap.size,1,none⟩ (.int .i64 first)=w9 at D ⊢;have x0:=cellOf D.1 0 _ rfl;have x1:=cellOf D.1 1 _ rfl;exact bodyPost_ret (v:=.tuple #[.int .i64 0,.int .i64 0,.agg #[.int .i64 2,.int .i64 first]]) (by simp [results,Tryz.results112,go_sem,x0,x1]) rfl ⟨.inr ⟨_,2,_,Y.out,by decide,rfl⟩,D.2⟩
      · obtain ⟨m,rfl⟩:∃ m:Nat,n=m:=⟨n.toNat,by omega⟩;have Y:Hid (cntD N (l.drop first)=.ok (m,l.drop q)):=by rw [cntD,E1.out,DR.ok_andThen,if_neg (by rw [hld];omega)];rfl
        have hn1':¬ (N:Int) - (q:Int)<m:=by omega
        have hmq:m≤N - q:=by omega
        clear hld hn1;go_wp2_with fail
        go_region;have D:=G3.out (.int .i64 0) (.int .i64 0);generalize (w3.setCell ⟨w.heap.size,0,none⟩ (.int .i64 0)).setCell ⟨w.heap.size,1,none⟩ (.int .i64 0)=w9 at D ⊢;go_wp2
        have x0:w9.drew.cell? ⟨w.heap.size,0,none⟩=_:=cellOf D.1 0 _ rfl;have x1:w9.drew.cell? ⟨w.heap.size,1,none⟩=_:=cellOf D.1 1 _ rfl;exact bodyPost_ret (v:=.tuple #[.int .i64 m,.int .i64 q,.agg #[.int .i64 0,.int .i64 0]]) (by simp [results,Tryz.results112,go_sem,x0,x1]) rfl ⟨.inl ⟨m,q,Y.out,by rw [HN.out];exact hq,by rw [HN.out];exact hmq,rfl⟩,D.2.drew⟩
  · have Y:Hid (cntD N (l.drop first)=.error y):=by rw [cntD,e1];rfl
    have HC:Hid (c≠0):=hc;clear e1;go_upto_region 2 with fail
    have D:=FIN.out (.int .i64 c) (.int .i64 a);generalize (w2.setCell ⟨w.heap.size,0,none⟩ (.int .i64 c)).setCell ⟨w.heap.size,1,none⟩ (.int .i64 a)=w3 at D ⊢;obtain ⟨D1,D2,D3⟩:=D
    have G3:Hid (∀ c a,Blk ((w3.setCell ⟨w.heap.size,0,none⟩ c).setCell ⟨w.heap.size,1,none⟩ a) w.heap.size #[c,a] 30∧Below w.heap.size w ((w3.setCell ⟨w.heap.size,0,none⟩ c).setCell ⟨w.heap.size,1,none⟩ a)):=fun c a =>
      ⟨by simpa [Blk] using blockSet (blockSet D1 0 c) 1 a,(D2.setCell (p:=⟨w.heap.size,0,none⟩) (Nat.le_refl _) _).setCell (p:=⟨w.heap.size,1,none⟩) (Nat.le_refl _) _⟩
    clear f0 f1 v0 v1 FIN;have f0:=cellOf D1 0 _ rfl;have f1:=cellOf D1 1 _ rfl;have v0:=freeOf D1 0;have v1:=freeOf D1 1;clear D1 D2 D3;go_wp2_with fail
    go_region;have D:=G3.out (.int .i64 c) (.int .i64 a);generalize (w3.setCell ⟨w.heap.size,0,none⟩ (.int .i64 c)).setCell ⟨w.heap.size,1,none⟩ (.int .i64 a)=w9 at D ⊢;go_wp2
    have x0:w9.drew.cell? ⟨w.heap.size,0,none⟩=_:=cellOf D.1 0 _ rfl;have x1:w9.drew.cell? ⟨w.heap.size,1,none⟩=_:=cellOf D.1 1 _ rfl;exact bodyPost_ret (v:=.tuple #[.int .i64 0,.int .i64 0,.agg #[.int .i64 c,.int .i64 a]]) (by simp [results,Tryz.results112,go_sem,x0,x1]) rfl ⟨.inr ⟨_,c,_,Y.out,HC.out,rfl⟩,D.2.drew⟩
def DR.pre {α : Type} (xs : List α) (r : DR (List α)) : DR (List α) := r.andThen fun ys q => .ok (xs ++ ys, q)
structure RepQ {α : Type} (f : List UInt8 → DR α) (l : List UInt8) (p0 k i p : Nat) (xs : List α) : Prop where
  rest:repD f k (l.drop p0)=DR.pre xs (repD f (k - i) (l.drop p))
  len:xs.length=i
  le:i≤k
section
variable {α : Type} {f : List UInt8 → DR α} {l : List UInt8} {p0 k i p : Nat} {xs : List α}
theorem RepQ.start : RepQ f l p0 k 0 p0 [] := by
  refine ⟨?_,rfl,Nat.zero_le _⟩;rw [Nat.sub_zero]
  cases repD f k (l.drop p0) with
  | error x=>rfl
  | ok y=>obtain ⟨ys,q⟩:=y;rfl
theorem RepQ.bad {y : Int × Int} (h : RepQ f l p0 k i p xs) (hi : i < k) (hy : f (l.drop p) = .error y) : repD f k (l.drop p0) = .error y := by
  rw [h.rest,show k - i=(k - (i+1))+1 by omega,repD,hy];rfl
theorem RepQ.go {v : α} {p2 : Nat} (h : RepQ f l p0 k i p xs) (hi : i < k) (hv : f (l.drop p) = .ok (v, l.drop p2)) : RepQ f l p0 k (i + 1) p2 (xs ++ [v]) := by
  refine ⟨?_,by simp [h.len],hi⟩;rw [h.rest,show k - i=(k - (i+1))+1 by omega,repD,hv,DR.ok_andThen]
  cases repD f (k - (i+1)) (l.drop p2) with
  | error x=>rfl
  | ok y=>obtain ⟨ys,q⟩:=y;simp [DR.pre,DR.andThen]
theorem RepQ.stop (h : RepQ f l p0 k i p xs) (hi : ¬ i < k) : repD f k (l.drop p0) = .ok (xs, l.drop p) := by
  have:=h.le
  rw [h.rest,show k - i=0 by omega,repD];simp [DR.pre,DR.andThen]
end
def VCnt (l : List UInt8) : World → Nat → Value → Prop := fun _ v x => x = .int .i64 v ∧ v ≤ l.length
theorem ccount_any {w : World} {b p : Nat} {l : List UInt8} (h : BAt w b l p) :
    Calls Tryz.prog 87 #[ptrP b] w fun en w'=>Got b l (cntD l.length (l.drop p)) w (VCnt l) en w':=by
  have hbw:=h.lt;have H:Hid (BAt w b l p):=h;obtain ⟨g,o,c',h1,_⟩:=h.open_;have z1:=cellOf h1 1 _ rfl;clear h h1;go_enter Tryz.func87,Tryz.ntmps87
  go_wp2_with fail
  refine (countAt_any p H.out.le H.out).mono ?_;rintro e' w1 ⟨hO,b1⟩;have H1:Hid (BAt w1 b l p):=H.out.below b1;have K1:Hid (Chg b w w1):=Chg.below b1;clear b1 H z1;rcases hO with ⟨n,q,e1,hq,hr,rfl⟩ | ⟨y,c,a,e1,hc,rfl⟩
  · have E1:Hid (cntD l.length (l.drop p)=.ok (n,l.drop q)):=e1;have R1:Hid (n≤l.length):=by show n≤l.length;omega
    have HQ:Hid (q≤l.length):=hq;clear e1 hr hq;go_wp2_with fail
    refine (cmust_any (n:Int) 0 0 (fun _=>HQ.out) H1.out).mono ?_;rintro e' w2 (⟨_,rfl,h2,k2⟩ | ⟨hc,_⟩)
    · have Z:Hid (Got b l (cntD l.length (l.drop p)) w (VCnt l) (.returned (.int .i64 n)) w2):=Got.good E1.out ⟨rfl,R1.out⟩ h2 (K1.out.trans k2);clear E1 R1 HQ h2 k2 H1 K1;go_wp2
      go_ret;exact Z.out
    · exact absurd rfl hc
  · have E1:Hid (cntD l.length (l.drop p)=.error y):=e1;have HC:Hid (c≠0):=hc;clear e1 hc;go_wp2_with fail
    refine (cmust_any (q:=0) 0 c a (fun _=>Nat.zero_le _) H1.out).mono ?_;rintro e' w2 (⟨hc,_⟩ | ⟨hc,rfl,k2⟩)
    · exact absurd hc HC.out
    · exact ⟨rfl,Got.bad E1.out hc (K1.out.trans k2)⟩
def NumsGot (b B : Nat) (l : List UInt8) (offs : List Nat) (cs : Array Value) (T : TypeId) (p : Nat) (w : World) (en : Ending) (w' : World) : Prop :=
  (∃ xs p',repD (numD l.length) offs.length (l.drop p)=.ok (xs,l.drop p')∧en=.returned (.tuple #[])∧(∀ x∈xs,i64r x)∧Blk w' B (putAll cs offs xs) T∧BAt w' b l p'∧Chg2 b B w w')∨(∃ y c a,repD (numD l.length) offs.length (l.drop p)=.error y∧en=.panicked (gaveC c a)∧c≠0∧Chg2 b B w w')
structure PutQ (offs : List Nat) (cs : Array Value) (i : Nat) (ci : Array Value) (xs : List Int) : Prop where
  put:∀ ys,putAll cs offs (xs++ys)=putAll ci (offs.drop i) ys
  size:ci.size=cs.size
  ok:∀ x∈xs,i64r x
section
variable {offs : List Nat} {cs ci : Array Value} {i : Nat} {xs : List Int}
theorem PutQ.start : PutQ offs cs 0 cs [] := ⟨fun ys => rfl, rfl, fun x h => by simp at h⟩
theorem PutQ.go {o : Nat} {v : Int} (h : PutQ offs cs i ci xs) (ho : offs[i]? = some o) (hv : i64r v) : PutQ offs cs (i + 1) (ci.setIfInBounds o (.int .i64 v)) (xs ++ [v]) := by
  have hi:i<offs.length:=(List.getElem?_eq_some_iff.1 ho).1;refine ⟨fun ys=>?_,by simpa using h.size,fun x hx=>?_⟩
  · rw [List.append_assoc,h.put,List.singleton_append,List.drop_eq_getElem_cons hi,(List.getElem?_eq_some_iff.1 ho).2];rfl
  · rcases List.mem_append.1 hx with hx | hx
    · exact h.ok x hx
    · simp at hx;subst hx;exact hv
theorem PutQ.stop (h : PutQ offs cs i ci xs) (hi : ¬ i < offs.length) : ci = putAll cs offs xs := by
  have:=h.put []
  rw [List.append_nil,List.drop_of_length_le (by omega)] at this;rw [this];cases ci;rfl
end
def PtrRow (w : World) (B : Nat) (offs : List Nat) (a : Option Addr) (b : Nat) : Prop := ∀ i o, offs[i]? = some o → ∃ g q, a = some ⟨g, q, none⟩ ∧ b < g ∧ g ≠ B ∧ g < w.heap.size ∧ w.cell? ⟨g, q + i, none⟩ = some (.pointer (some ⟨B, o, none⟩))
theorem PtrRow.of {w : World} {B g b : Nat} {offs : List Nat} {T : TypeId} (h : Blk w g (offs.map (fun o => Value.pointer (some ⟨B, o, none⟩))).toArray T) (h1 : b < g) (h2 : g ≠ B) : PtrRow w B offs (some ⟨g, 0, none⟩) b := fun i o ho => by
  refine ⟨g,0,rfl,h1,h2,h.lt,?_⟩;rw [Nat.zero_add];exact cellOf h i _ (by simp [ho])
theorem cnums_any {w : World} {b B p : Nat} {l : List UInt8} {offs : List Nat} {cs : Array Value} {T : TypeId} {N c : Nat} {a : Option Addr} (h : BAt w b l p) (hB : Blk w B cs T) (hg : PtrRow w B offs a b) (hbB : b < B) (ho : ∀ o ∈ offs, o < cs.size) (hN : offs.length = N) (hN3 : N ≤ 1000) :
    Calls Tryz.prog 88 #[ptrP b,.slice a N c] w fun en w'=>NumsGot b B l offs cs T p w en w':=by
  have H:Hid (BAt w b l p):=h;have HB:Hid (Blk w B cs T):=hB;have HG:Hid (PtrRow w B offs a b):=hg;have HO:Hid (∀ o∈offs,o<cs.size):=ho;have HN:Hid (offs.length=N):=hN;clear h hB hg ho hN;go_enter Tryz.func88,Tryz.ntmps88
  go_wp2_with fail
  go_loopw [8] (fun v wr=>∃ (i pi:Nat) (ci:Array Value) (xs:List Int),v=.int .i64 i∧i≤N∧RepQ (numD l.length) l p N i pi xs∧PutQ offs cs i ci xs∧BAt wr b l pi∧Blk wr B ci T∧Chg2 b B w wr) (fun v _=>N - (intOf v).toNat)
  case atStart=>exact ⟨0,p,cs,[],rfl,Nat.zero_le _,RepQ.start,PutQ.start,H.out,HB.out,Chg2.refl _ _ _⟩
  case round =>
    obtain ⟨i,pi,ci,xs,rfl,hi,hq,hu,hp,hb,hk⟩:=hrel;have Q:Hid (RepQ (numD l.length) l p N i pi xs):=hq;have U:Hid (PutQ offs cs i ci xs):=hu;have P:Hid (BAt wr b l pi):=hp;have B1:Hid (Blk wr B ci T):=hb;have K:Hid (Chg2 b B w wr):=hk;clear hq hu hp hb hk;by_cases hlt:i<N
    · obtain ⟨o,ho⟩:∃ o,offs[i]?=some o:=⟨_,List.getElem?_eq_getElem (by rw [HN.out];exact hlt)⟩;have HO1:Hid (offs[i]?=some o):=ho;have hoc:Hid (o<ci.size):=by rw [U.out.size];exact HO.out o (List.mem_of_getElem? ho)
      have hlt':(i:Int)<N:=by omega
      obtain ⟨g,q,rfl,hbg,hgB,hgw,yc⟩:=HG.out i o ho;have y:wr.cell? ⟨g,q+i,none⟩=some (.pointer (some ⟨B,o,none⟩)):=(World.cell?_of_block (K.out.block g hgw (by omega))).trans yc;clear ho yc;go_wp2_with fail
      refine (cnumber_any P.out).mono ?_;intro e' w3 hO;rcases hO with ⟨v,p2,x,hr,rfl,⟨rfl,hv⟩,hp2,hk2⟩ | ⟨y,c,a,hr,rfl,hc,hk2⟩
      · have B3:=B1.out.chg hk2 (by omega);obtain ⟨old,hold⟩:∃ u,ci[o]?=some u:=⟨_,Array.getElem?_eq_getElem hoc.out⟩;have y3:=cellOf B3 o _ hold;have z3:=freeOf B3 o
        have U2:Hid (RepQ (numD l.length) l p N (i+1) p2 (xs++[v])∧PutQ offs cs (i+1) (ci.setIfInBounds o (.int .i64 v)) (xs++[v])∧BAt (w3.setCell ⟨B,o,none⟩ (.int .i64 v)) b l p2∧Blk (w3.setCell ⟨B,o,none⟩ (.int .i64 v)) B (ci.setIfInBounds o (.int .i64 v)) T∧Chg2 b B w (w3.setCell ⟨B,o,none⟩ (.int .i64 v))) :=
          ⟨Q.out.go hlt hr,U.out.go HO1.out hv,hp2.set hbB _,blockSet B3 o _,(K.out.trans (Chg2.of hk2)).trans (Chg2.set w3 o _)⟩
        clear Q U P B1 K hr hp2 hk2 B3 hold HO1 y hoc hv;go_wp2
        go_roundw
        case rel=>exact ⟨i+1,p2,_,_,by simp,hlt,U2.out⟩
        case measure=>simp [intOf];omega
      · exact ⟨rfl,.inr ⟨y,c,a,by rw [HN.out];exact Q.out.bad hlt hr,rfl,hc,K.out.trans (Chg2.of hk2)⟩⟩
    · have hlt':¬ (i:Int)<N:=by omega
      have Z:=U.out.stop (by rw [HN.out];exact hlt);have U2:Hid (NumsGot b B l offs cs T p w (.returned (.tuple #[])) wr):=.inl ⟨xs,pi,by rw [HN.out];exact Q.out.stop hlt,rfl,U.out.ok,by rw [← Z];exact B1.out,P.out,K.out⟩;clear Z Q U P B1 K;go_wp2
      exact bodyPost_end (v:=.tuple #[]) (by simp [results,Tryz.results88,go_sem]) rfl U2.out
theorem cdeep_any {w : World} {b p : Nat} {l : List UInt8} (h : BAt w b l p) :
    Calls Tryz.prog 114 #[ptrP b] w fun en w'=>(∃ c a:Int,en=.panicked (gaveC c a)∧c≠0)∧Chg b w w':=by
  have hbw:=h.lt;have H:Hid (BAt w b l p):=h;obtain ⟨g,o,c',h1,_⟩:=h.open_;have z1:=cellOf h1 1 _ rfl;clear h h1;go_enter Tryz.func114,Tryz.ntmps114
  go_wp2_with fail
  refine (countAt_any p H.out.le H.out).mono ?_;rintro e' w1 ⟨hO,b1⟩
  obtain ⟨n,q,c,a,rfl⟩:∃ n q c a:Int,e'=.returned (.tuple #[.int .i64 n,.int .i64 q,.agg #[.int .i64 c,.int .i64 a]]):=by
    rcases hO with ⟨n,q,e1,hq,hr,rfl⟩ | ⟨y,c,a,e1,hc,rfl⟩
    · exact ⟨_,_,_,_,rfl⟩
    · exact ⟨_,_,_,_,rfl⟩
  have H1:Hid (BAt (w1.alloc (.cells #[.int .i64 c,.int .i64 a] 30)) b l p):=(H.out.below b1).below (bel1 _ _);have K1:Hid (Chg b w (w1.alloc (.cells #[.int .i64 c,.int .i64 a] 30))):=(Chg.below b1).trans (Chg.below (bel1 _ _));clear b1 H z1 hO;have X1:Hid (Blk (w1.alloc (.cells #[.int .i64 c,.int .i64 a] 30)) w1.heap.size #[.int .i64 c,.int .i64 a] 30):=Blk.new _ _ _;go_upto_region 1 with fail
  generalize w1.alloc (.cells #[.int .i64 c,.int .i64 a] 30)=w2 at H1 K1 X1 ⊢;obtain ⟨g,o,c',h1,_⟩:=H1.out.open_;have z1:=cellOf h1 1 _ rfl;have x0:=cellOf X1.out 0 _ rfl;have x1:=cellOf X1.out 1 _ rfl;clear h1 H1 X1;by_cases hc:c=0
  · subst hc;go_quiet (fail)
    go_wp2_with fail
    refine (cgiveUp_any 19 p).mono ?_;rintro e' w' ⟨rfl,rfl⟩;exact ⟨rfl,⟨_,_,rfl,by decide⟩,K1.out.drewN _⟩
  · have HC:Hid (c≠0):=hc;by_cases ha:a=p
    · subst ha;go_quiet (fail)
      go_wp2_with fail
      refine (cgiveUp_any c p).mono ?_;rintro e' w' ⟨rfl,rfl⟩;exact ⟨rfl,⟨_,_,rfl,HC.out⟩,K1.out.drewN _⟩
    · have ha3:(a==(p:Int))=false:=by simpa using ha
      clear ha;go_quiet (fail)
      go_wp2_with fail
      refine (cgiveUp_any 19 p).mono ?_;rintro e' w' ⟨rfl,rfl⟩;exact ⟨rfl,⟨_,_,rfl,by decide⟩,K1.out.drewN _⟩
theorem enters_cnumber : Enters 113 := fun _ _ => by kernel_rfl
theorem clistI {w : World} {b p : Nat} {l : List UInt8} (hE0 : Enters 113) (ONE0 : ∀ w' p', Chg b w w' → BAt w' b l p' → Calls Tryz.prog 113 #[ptrP b] w' fun en w'' => Got b l (numD l.length (l.drop p')) w' ((fun _ => VNum) w') en w'') (h : BAt w b l p) :
    Calls Tryz.prog 135 #[ptrP b,.func (.func 113) #[ptrP b] #[]] w fun en w'=>Got b l (lstD l.length (numD l.length) (l.drop p)) w (VInts w) en w':=by
  have hbw:=h.lt;have H:Hid (BAt w b l p):=h;have hl2:=h.len;have hE:=hE0;unfold Enters at hE;have ONE:Hid (∀ w' p',Chg b w w'→BAt w' b l p'→Calls Tryz.prog 113 #[ptrP b] w' fun en w''=>Got b l (numD l.length (l.drop p')) w' ((fun _=>VNum) w') en w''):=ONE0;obtain ⟨i0,hi,hz0,hz1,hz2⟩:=pInfoI;clear h hE0 ONE0;go_enter Tryz.func135,Tryz.ntmps135
  go_wp2_with fail
  refine (ccount_any H.out).mono ?_;intro e' w1 hO;rcases hO with ⟨k,p1,x,m1,rfl,⟨rfl,hkl⟩,r1,k1⟩ | ⟨y,c,a,m1,rfl,hc,k1⟩
  rotate_left
  · exact ⟨rfl,Got.bad (by rw [lstD,m1];rfl) hc k1⟩
  have M1:Hid (cntD l.length (l.drop p)=.ok (k,l.drop p1)):=m1;have R1:Hid (BAt w1 b l p1):=r1;have K1:Hid (Chg b w w1):=k1;have hk2:k≤20000:=by omega
  have HKL:Hid (k≤l.length):=hkl;clear m1 r1 k1 H hkl;go_wp2_with fail
  go_loopw [5,8] (fun v u wr=>∃ xs cs i p2,u=.int .i64 (i:Nat)∧ARow Lay.int 3 wr w.heap.size v xs cs∧BAt wr b l p2∧Chg b w wr∧RepQ (numD l.length) l p1 k i p2 xs) (fun _ u _=>k - (intOf u).toNat)
  case atStart=>exact ⟨[],[],0,p1,rfl,ARow.nil _ _ _ _,R1.out,K1.out,RepQ.start⟩
  case round =>
    obtain ⟨xs,cs,i,p2,rfl,hrow,hr,hk,hq⟩:=hrel;obtain ⟨a,c,rfl⟩:=hrow.formP;have A2:Hid (ARow Lay.int 3 wr w.heap.size (.slice a xs.length c) xs cs):=hrow;have R2:Hid (BAt wr b l p2):=hr;have K2:Hid (Chg b w wr):=hk;have Q2:Hid (RepQ (numD l.length) l p1 k i p2 xs):=hq;have hle:i≤k:=hq.le;have hlen:Hid (xs.length=i):=hq.len;have hxl:xs.length≤20000:=by rw [hq.len];omega
    clear hrow hr hk hq;by_cases hik:i<k
    · have hik':(i:Int)<k:=by omega
      go_wp2_with fail
      refine (ONE.out wr p2 K2.out R2.out).mono ?_;intro e' w4 hO;rcases hO with ⟨v,p3,x,m3,rfl,⟨rfl,hv⟩,r4,k4⟩ | ⟨y,c',a',m3,rfl,hc,k4⟩
      rotate_left
      · exact ⟨rfl,Got.bad (by rw [lstD,M1.out,DR.ok_andThen,Q2.out.bad hik m3]) hc (K2.out.trans k4)⟩
      have Q4:Hid (RepQ (numD l.length) l p1 k (i+1) p3 (xs++[v])):=Q2.out.go hik m3;have T4:Hid (Lay.int.In w4 (fun g=>wr.heap.size≤g) v [.int .i64 v]):=Lay.int_mk _ _ hv;have S2:Hid (w.heap.size≤wr.heap.size):=K2.out.size;have A2':=A2;have A4:Hid (ARow Lay.int 3 w4 w.heap.size (.slice a xs.length c) xs cs):=A2.out.chgP k4 hbw;have R4:Hid (BAt w4 b l p3):=r4;have K4:Hid (Chg b w w4):=K2.out.trans k4;have hsz:=K4.out.size;have hown:Hid (w4.ownsRow w.heap.size 3 1 (.slice a xs.length c) xs.length cs):=A4.out.own
      have PU:Hid (∀ g cap w9,w9.ownsRow w.heap.size 3 1 (.slice (some ⟨g,0,none⟩) (xs.length+1) cap) (xs.length+1) (cs++[.int .i64 v])→(w4.alloc (.cells #[.int .i64 v] 3)).grownBy w9 (Value.slice a xs.length c).ownBlock→((Value.slice a xs.length c).ownBlock=some g∨g=w4.heap.size+1) →
          (∃ cs',ARow Lay.int 3 w9 w.heap.size (.slice (some ⟨g,0,none⟩) (xs.length+1) cap) (xs++[v]) cs')∧BAt w9 b l p3∧Chg b w w9):=by
        intro g cap w9 h1 h2 h3;have b5:Below w4.heap.size w4 (w4.alloc (.cells #[.int .i64 v] 3)):=bel1 _ _;have A5:=A4.out.below b5
        have T5:Lay.int.In (w4.alloc (.cells #[.int .i64 v] 3)) (fun g=>w.heap.size≤g∧(Value.slice a xs.length c).ownBlock≠some g) v [.int .i64 v] :=
          Lay.alloc (Lay.mono T4.out (fun k hk _=>⟨Nat.le_trans S2.out hk,fun e=>by have:=(A2'.out.lo_le e).2;omega⟩)) _
        refine ⟨⟨_,ARow.push A5 T5 h2 (by simpa using h3) h1⟩,(R4.out.below b5).grown h2 (fun k hk=>by have:=(A5.lo_le hk).1;omega),(K4.out.allocP _).grownP h2 (fun k hk=>(A5.lo_le hk).1)⟩
      clear r4 k4 m3 A2 R2 K2 Q2 A4 R4 K4 T4 S2 A2';go_wp2_with (at_builtin;refine wpList_append_lies _ rfl (.tmp 10) (.tmp 13) 49 rfl w.heap.size 3 i0 (.int .i64 0) 1 8 pUnderI hi hz0 hz1 hz2 rfl (by decide) _ _ _ rfl (hown.out.alloc _) ⟨w4.heap.size,0,none⟩ 1 1 [.int .i64 v] rfl rfl (newsP _ [_] _) (pOneI _) (by decide) (by unfold maxLen;omega) (by omega) (by simp;omega) (w4.heap.size+1) (by simp) ?_)
      intro g2 cap2 w9 h1 hgrow hat hlt1;have U2:=PU.out g2 cap2 w9 h1 hgrow hat;obtain ⟨⟨cs',q1⟩,q2,q3⟩:=U2;have A9:Hid (ARow Lay.int 3 w9 w.heap.size (.slice (some ⟨g2,0,none⟩) (xs.length+1) cap2) (xs++[v]) cs'):=q1;have R9:Hid (BAt w9 b l p3):=q2;have K9:Hid (Chg b w w9):=q3;clear h1 hgrow hat hlt1 hown PU q1 q2 q3;go_wp2
      go_roundw
      case rel=>exact ⟨xs++[v],cs',i+1,p3,by simp,A9.out,R9.out,K9.out,Q4.out⟩
      case measure=>simp [intOf];omega
    · have hik':¬ (i:Int)<k:=by omega
      have Z:Hid (Got b l (lstD l.length (numD l.length) (l.drop p)) w (VInts w) (.returned (.slice a xs.length c)) wr) :=
        Got.good (v:=xs) (by rw [lstD,M1.out,DR.ok_andThen];exact Q2.out.stop hik) ⟨a,c,rfl,A2.out.lay⟩ R2.out K2.out
      clear A2 R2 K2 Q2 M1 ONE;go_wp2
      go_ret;exact Z.out
theorem cints_any {w : World} {b p : Nat} {l : List UInt8} (h : BAt w b l p) :
    Calls Tryz.prog 135 #[ptrP b,.func (.func 113) #[ptrP b] #[]] w fun en w'=>Got b l (lstD l.length (numD l.length) (l.drop p)) w (VInts w) en w' :=
  clistI enters_cnumber (fun w' p' _ h'=>cnumber_any h') h
def GinD (w0 : World) (b : Nat) (l : List UInt8) (p R : Nat) (T : TypeId) (c : Array Value) (W : World) : Prop := Blk W R c T ∧ BAt W b l p ∧ Chg b w0 W
structure GB (w0 w : World) (b : Nat) (l : List UInt8) (p R B : Nat) (rc bc : Array Value) (T : TypeId) : Prop where
  rd:BAt w b l p
  res:Blk w R rc T
  box:Blk w B bc T
  chg:Chg b w0 w
  bR:b<R
  RB:R<B
  R0:w0.heap.size≤R
section
variable {w0 w w' : World} {b p p' R B : Nat} {l : List UInt8} {rc bc : Array Value} {T : TypeId}
theorem GB.start {z : Array Value} (h : BAt w b l p) : GB w ((w.alloc (.cells z T)).alloc (.cells z T)) b l p w.heap.size (w.heap.size + 1) z z T :=
  ⟨h.below (bel2 _ _ _),Blk.new1 _ _ _ _ _,Blk.new2 _ _ _ _,Chg.below (bel2 _ _ _),h.lt,Nat.lt_succ_self _,Nat.le_refl _⟩
theorem GB.call (h : GB w0 w b l p R B rc bc T) (hp : BAt w' b l p') (k : Chg b w w') : GB w0 w' b l p' R B rc bc T := by
  have h1:=h.bR;have h2:=h.RB;exact ⟨hp,h.res.chg k (by omega),h.box.chg k (by omega),h.chg.trans k,h1,h2,h.R0⟩
theorem GB.alloc (h : GB w0 w b l p R B rc bc T) (o : Obj) : GB w0 (w.alloc o) b l p R B rc bc T := h.call (h.rd.below (bel1 _ _)) (Chg.below (bel1 _ _))
theorem GB.set (h : GB w0 w b l p R B rc bc T) (o : Nat) (v : Value) : GB w0 (w.setCell ⟨B, o, none⟩ v) b l p R B rc (bc.setIfInBounds o v) T := by
  have h1:=h.bR;have h2:=h.RB;exact ⟨h.rd.set (by show b<B;omega) v,h.res.setOther (by show B≠R;omega) v,blockSet h.box o v,Chg2.new h.chg (Chg2.set w o v) (by have:=h.R0;omega),h1,h2,h.R0⟩
theorem GB.nums {xs : List Int} {offs : List Nat} (h : GB w0 w b l p R B rc bc T) (hb : Blk w' B (putAll bc offs xs) T) (hp : BAt w' b l p') (k : Chg2 b B w w') : GB w0 w' b l p' R B rc (putAll bc offs xs) T := by
  have h1:=h.bR;have h2:=h.RB;exact ⟨hp,h.res.chg2 k (by omega) (by omega),hb,Chg2.new h.chg k (by have:=h.R0;omega),h1,h2,h.R0⟩
theorem GB.lt (h : GB w0 w b l p R B rc bc T) : B < w.heap.size := h.box.lt
variable {α : Type} {A : Lay α} {x : α} {cs : List Value}
theorem GB.fin (h : GB w0 w b l p R B rc bc T) (vs : List Value) (hl : vs.length = rc.size) : GinD w0 b l p R T vs.toArray (w.setCells R 0 vs) := by
  have h1:=h.bR;refine ⟨?_,h.rd.keep fun k hk=>setCells_other (by omega) vs 0 w,?_⟩
  · have:=Blk.sets (T:=T) (R:=R) vs [] rc.toList w (by simpa using hl) (by simpa using h.res)
    simpa using this
  · have hs:Step (fun k=>k=R) (fun k=>k=R) w (w.setCells R 0 vs):=Step.setCells (O:=fun k=>k=R) (O':=fun k=>k=R) (b:=R) rfl vs 0 w (Step.refl _ _);have h3:=h.chg;have h4:=h.R0;exact ⟨hs.os.trans h3.os,hs.tape.trans h3.tape,hs.output.trans h3.output,Nat.le_trans h3.size hs.size,fun k hk hn=>(hs.block k (Nat.lt_of_lt_of_le hk h3.size) (by omega)).trans (h3.block k hk hn),fun k hk=>.inl hk⟩
end
section
variable {α β : Type} {f : List UInt8 → DR α} {r : List UInt8}
theorem rep_len : ∀ {n : Nat} {r : List UInt8} {xs : List α} {q : List UInt8}, repD f n r = .ok (xs, q) → xs.length = n
  | 0,r,xs,q,h=>by injection h with h;injection h with h _;subst h;rfl
  | n+1,r,xs,q,h=>by
    rw [repD] at h;obtain ⟨a,p1,_,h⟩:=DR.andThen_ok h;obtain ⟨ys,p2,h2,h⟩:=DR.andThen_ok h;injection h with h;injection h with h _;subst h
    simp [rep_len h2]
end
section
variable {β : Type} {N : Nat} {r : List UInt8}
theorem rep1_eq (F : Int → List UInt8 → DR β) : DR.andThen (numD N r) F = DR.andThen (repD (numD N) 1 r) fun xs q => F (xs.getD 0 0) q := by
  rw [repD]
  cases h1:numD N r with
  | error x=>rfl
  | ok v=>obtain ⟨a,p1⟩:=v;rfl
end
def NumsC (w0 w1 : World) (b : Nat) (l : List UInt8) (p R B : Nat) (rc bc : Array Value) (T : TypeId) (offs : List Nat) (en : Ending) (w' : World) : Prop :=
  (∃ xs p',repD (numD l.length) offs.length (l.drop p)=.ok (xs,l.drop p')∧en=.returned (.tuple #[])∧(∀ x∈xs,i64r x)∧GB w0 w' b l p' R B rc (putAll bc offs xs) T∧Chg2 b B w1 w')∨(∃ y c a,repD (numD l.length) offs.length (l.drop p)=.error y∧en=.panicked (gaveC c a)∧c≠0∧Chg b w0 w')
theorem GB.callNums {w0 w1 : World} {b p R B g N : Nat} {l : List UInt8} {rc bc : Array Value} {T : TypeId} (h : GB w0 w1 b l p R B rc bc T) (offs : List Nat) (ho : ∀ o ∈ offs, o < bc.size) (hN : offs.length = N) (hN3 : N ≤ 1000) (hg : g = w1.heap.size) :
    Calls Tryz.prog 88 #[ptrP b,.slice (some ⟨g,0,none⟩) N N] (w1.alloc (.cells (offs.map (fun o=>Value.pointer (some ⟨B,o,none⟩))).toArray 134)) fun en w'=>NumsC w0 w1 b l p R B rc bc T offs en w':=by
  subst hg;have h1:=h.bR;have h2:=h.RB;have h3:=h.lt;have ha:=h.alloc (.cells (offs.map (fun o=>Value.pointer (some ⟨B,o,none⟩))).toArray 134);have k1:Chg2 b B w1 (w1.alloc (.cells (offs.map (fun o=>Value.pointer (some ⟨B,o,none⟩))).toArray 134)):=Chg2.of (Chg.below (bel1 _ _));refine (cnums_any ha.rd ha.box (PtrRow.of (Blk.new _ _ _) (by omega) (by omega)) (by omega) ho hN hN3).mono fun en w' hO=>?_;rcases hO with ⟨xs,p',m,he,hx,hb,hp,hk⟩ | ⟨y,c,a,m,he,hc,hk⟩
  · exact .inl ⟨xs,p',m,he,hx,ha.nums hb hp hk,k1.trans hk⟩
  · exact .inr ⟨y,c,a,m,he,hc,Chg2.new ha.chg hk (by have:=h.R0;omega)⟩
section
variable {w0 w w' : World} {b p R B : Nat} {l : List UInt8} {rc bc : Array Value} {T : TypeId}
theorem GB.grown {row : Option Nat} (h : GB w0 w b l p R B rc bc T) (g : w.grownBy w' row) (hr : ∀ k, row = some k → B < k) : GB w0 w' b l p R B rc bc T := by
  have h1:=h.bR;have h2:=h.RB;have h3:=h.R0;have h4:=h.lt;exact ⟨h.rd.grown g (fun k hk=>by have:=hr k hk;omega),(g.block R h.res.lt (fun e=>by have:=hr R e.symm;omega)).trans h.res,(g.block B h4 (fun e=>by have:=hr B e.symm;omega)).trans h.box,h.chg.grownP g (fun k hk=>by have:=hr k hk;omega),h1,h2,h3⟩
theorem GB.tail {us zs : List Value} (vs : List Value) (h : GB w0 w b l p R B rc (us ++ zs).toArray T) (hl : vs.length = zs.length) : GB w0 (w.setCells B us.length vs) b l p R B rc (us ++ vs).toArray T := by
  have h1:=h.bR;have h2:=h.RB;have h3:=h.R0;have hs:Step (fun k=>k=B) (fun k=>k=B) w (w.setCells B us.length vs):=Step.setCells (O:=fun k=>k=B) (O':=fun k=>k=B) (b:=B) rfl vs us.length w (Step.refl _ _);have h4:=h.chg;refine ⟨h.rd.keep fun k hk=>setCells_other (by omega) vs _ w,(setCells_other (by omega) vs _ w).trans h.res,Blk.sets vs us zs w hl h.box,?_,h1,h2,h3⟩;exact ⟨hs.os.trans h4.os,hs.tape.trans h4.tape,hs.output.trans h4.output,Nat.le_trans h4.size hs.size,fun k hk hn=>(hs.block k (Nat.lt_of_lt_of_le hk h4.size) (by omega)).trans (h4.block k hk hn),fun k hk=>.inl hk⟩
end
theorem GB.drew {w0 w : World} {b p R B : Nat} {l : List UInt8} {rc bc : Array Value} {T : TypeId} (h : GB w0 w b l p R B rc bc T) : GB w0 w.drew b l p R B rc bc T :=
  ⟨h.rd.keep fun k _=>rfl,h.res,h.box,h.chg.drew,h.bR,h.RB,h.R0⟩
theorem GB.callNums2 {w0 w1 : World} {b p R B N c : Nat} {a : Option Addr} {l : List UInt8} {rc bc : Array Value} {T : TypeId} (h : GB w0 w1 b l p R B rc bc T) (offs : List Nat) (hP : PtrRow w1 B offs a b) (ho : ∀ o ∈ offs, o < bc.size) (hN : offs.length = N) (hN3 : N ≤ 1000) :
    Calls Tryz.prog 88 #[ptrP b,.slice a N c] w1 fun en w'=>NumsC w0 w1 b l p R B rc bc T offs en w':=by
  have h1:=h.bR;have h2:=h.RB;refine (cnums_any h.rd h.box hP (by omega) ho hN hN3).mono fun en w' hO=>?_;rcases hO with ⟨xs,p',m,he,hx,hb,hp,hk⟩ | ⟨y,c,a,m,he,hc,hk⟩
  · exact .inl ⟨xs,p',m,he,hx,h.nums hb hp hk,hk⟩
  · exact .inr ⟨y,c,a,m,he,hc,Chg2.new h.chg hk (by have:=h.R0;omega)⟩
theorem GB.below {w0 w w' : World} {b p R B : Nat} {l : List UInt8} {rc bc : Array Value} {T : TypeId} (h : GB w0 w b l p R B rc bc T) (k : Below w.heap.size w w') : GB w0 w' b l p R B rc bc T := h.call (h.rd.below k) (Chg.below k)
theorem lit64 (k : Int) (h : decide (-9223372036854775808 ≤ k ∧ k ≤ 9223372036854775807) = true) : -9223372036854775808 ≤ k ∧ k ≤ 9223372036854775807 := by simpa using h
theorem noTo_inC (w : World) (O : Nat → Prop) : toL.In w O zTo [.int .i64 0, .slice none 0 0, .slice none 0 0] := to_mk (Lay.list_nil _ _ _ _ _) (Lay.list_nil _ _ _ _ _) ⟨by decide, by decide⟩
def numOffs (op : Int) : List Nat :=
  if op=4∨op=5∨op=11∨op=13 then [1] else if op=8∨op=9 then [1,2] else if op=10 then [1,2,3] else if op=2∨op=7 then [1,2,4] else if op=6 then [1,4] else if op=14 then [4] else []
def lstOffs (op : Int) : List Nat := if op = 5 then [7] else if op = 14 then [6, 7] else []
theorem numOffs_lt (op : Int) : (∀ o ∈ numOffs op, o < 8) ∧ (numOffs op).length ≤ 3 := by
  unfold numOffs;repeat' split
  all_goals simp
def PlacesOut (B : Nat) (offs : List Nat) (w : World) (en : Ending) (w' : World) : Prop :=
  (offs=[]∧en=.returned (.slice none 0 0)∧Below w.heap.size w w') ∨
  (∃ g T,offs≠[]∧en=.returned (.slice (some ⟨g,0,none⟩) offs.length offs.length)∧w.heap.size≤g∧Blk w' g (offs.map (fun o=>Value.pointer (some ⟨B,o,none⟩))).toArray T∧Below w.heap.size w w')
theorem PlacesOut.mk {B : Nat} {offs : List Nat} {w : World} (T : TypeId) {c : Array Value} (hc : (offs.map (fun o => Value.pointer (some ⟨B, o, none⟩))).toArray = c) {n : Nat} (hn : n = offs.length) (h0 : offs ≠ []) : PlacesOut B offs w (.returned (.slice (some ⟨w.heap.size, 0, none⟩) n n)) (w.alloc (.cells c T)) := by
  subst hc;subst hn;exact .inr ⟨_,T,h0,rfl,Nat.le_refl _,Blk.new _ _ _,bel1 _ _⟩
theorem PlacesOut.mk' {B : Nat} {offs : List Nat} {w : World} (T : TypeId) {c : Array Value} (hc : (offs.map (fun o => Value.pointer (some ⟨B, o, none⟩))).toArray = c) {n : Nat} (hn : n = offs.length) (h0 : offs ≠ []) : PlacesOut B offs w (.returned (.slice (some ⟨w.heap.size, 0, none⟩) n n)) (w.alloc (.cells c T)).drew := by
  subst hc;subst hn;exact .inr ⟨_,T,h0,rfl,Nat.le_refl _,Blk.new _ _ _,(bel1 _ _).drew⟩
theorem numbersOf_any {w : World} {B : Nat} (op : Int) (h : w.cell? ⟨B, 0, none⟩ = some (.int .i64 op)) :
    Calls Tryz.prog 129 #[ptrP B] w fun en w'=>PlacesOut B (numOffs op) w en w':=by
  by_cases h4:op=4
  · subst h4;go_enter Tryz.func129,Tryz.ntmps129
    go_wp2
    go_ret;exact PlacesOut.mk (offs:=[1]) _ rfl rfl (by decide)
  by_cases h5:op=5
  · subst h5;go_enter Tryz.func129,Tryz.ntmps129
    go_wp2
    go_ret;exact PlacesOut.mk (offs:=[1]) _ rfl rfl (by decide)
  by_cases h11:op=11
  · subst h11;go_enter Tryz.func129,Tryz.ntmps129
    go_wp2
    go_ret;exact PlacesOut.mk (offs:=[1]) _ rfl rfl (by decide)
  by_cases h13:op=13
  · subst h13;go_enter Tryz.func129,Tryz.ntmps129
    go_wp2
    go_ret;exact PlacesOut.mk (offs:=[1]) _ rfl rfl (by decide)
  by_cases h8:op=8
  · subst h8;go_enter Tryz.func129,Tryz.ntmps129
    go_wp2_with fail
    go_region;go_wp2
    go_ret;exact PlacesOut.mk' (offs:=[1,2]) _ rfl rfl (by decide)
  by_cases h9:op=9
  · subst h9;go_enter Tryz.func129,Tryz.ntmps129
    go_wp2_with fail
    go_region;go_wp2
    go_ret;exact PlacesOut.mk' (offs:=[1,2]) _ rfl rfl (by decide)
  by_cases h10:op=10
  · subst h10;go_enter Tryz.func129,Tryz.ntmps129
    go_wp2_with fail
    go_region;go_wp2
    go_ret;exact PlacesOut.mk' (offs:=[1,2,3]) _ rfl rfl (by decide)
  by_cases h2:op=2
  · subst h2;go_enter Tryz.func129,Tryz.ntmps129
    go_wp2_with fail
    go_region;go_wp2
    go_ret;exact PlacesOut.mk' (offs:=[1,2,4]) _ rfl rfl (by decide)
  by_cases h7:op=7
  · subst h7;go_enter Tryz.func129,Tryz.ntmps129
    go_wp2_with fail
    go_region;go_wp2
    go_ret;exact PlacesOut.mk' (offs:=[1,2,4]) _ rfl rfl (by decide)
  by_cases h6:op=6
  · subst h6;go_enter Tryz.func129,Tryz.ntmps129
    go_wp2_with fail
    go_region;go_wp2
    go_ret;exact PlacesOut.mk' (offs:=[1,4]) _ rfl rfl (by decide)
  by_cases h14:op=14
  · subst h14;go_enter Tryz.func129,Tryz.ntmps129
    go_wp2
    go_ret;exact PlacesOut.mk (offs:=[4]) _ rfl rfl (by decide)
  have e:numOffs op=[]:=by
    unfold numOffs;rw [if_neg (by omega),if_neg (by omega),if_neg (by omega),if_neg (by omega),if_neg (by omega),if_neg (by omega)]
  rw [e];clear e;go_enter Tryz.func129,Tryz.ntmps129
  go_wp2
  go_ret;exact .inl ⟨rfl,rfl,Below.refl _ _⟩
theorem listsOf_any {w : World} {B : Nat} (op : Int) (h : w.cell? ⟨B, 0, none⟩ = some (.int .i64 op)) :
    Calls Tryz.prog 130 #[ptrP B] w fun en w'=>PlacesOut B (lstOffs op) w en w':=by
  by_cases h5:op=5
  · subst h5;go_enter Tryz.func130,Tryz.ntmps130
    go_wp2
    go_ret;exact PlacesOut.mk (offs:=[7]) _ rfl rfl (by decide)
  by_cases h14:op=14
  · subst h14;go_enter Tryz.func130,Tryz.ntmps130
    go_wp2_with fail
    go_region;go_wp2
    go_ret;exact PlacesOut.mk' (offs:=[6,7]) _ rfl rfl (by decide)
  have e:lstOffs op=[]:=by
    unfold lstOffs;rw [if_neg (by omega),if_neg (by omega)]
  rw [e];clear e;go_enter Tryz.func130,Tryz.ntmps130
  go_wp2
  go_ret;exact .inl ⟨rfl,rfl,Below.refl _ _⟩
def insR (N : Nat) (op : Int) (r : List UInt8) : DR MIns := match fieldsOf op with
  | none=>.ok (⟨op,0,0,0,0,0,[],[]⟩,r)
  | some (a,b,c,k,n,rg,ar)=>(optD a (numD N) 0 r).andThen fun xa r=>(optD b (numD N) 0 r).andThen fun xb r=>(optD c (numD N) 0 r).andThen fun xc r=>(optD k (numD N) 0 r).andThen fun xk r=>(optD n (numD N) 0 r).andThen fun xn r =>
      (optD rg (lstD N (numD N)) [] r).andThen fun xr r=>(optD ar (lstD N (numD N)) [] r).andThen fun xs r=>.ok (⟨op,xa,xb,xc,xk,xn,xr,xs⟩,r)
theorem insD_eq (N : Nat) (l : List UInt8) : insD N l = (numD N l).andThen fun op r => insR N op r := rfl
section
variable {N : Nat} {r : List UInt8} {β : Type}
theorem rep2_eq (F : Int → Int → List UInt8 → DR β) : ((numD N r).andThen fun a r1 => (numD N r1).andThen fun c r2 => F a c r2) = (repD (numD N) 2 r).andThen fun xs q => F (xs.getD 0 0) (xs.getD 1 0) q := by
  rw [repD]
  cases h1:numD N r with
  | error x=>rfl
  | ok v =>
    obtain ⟨a,p1⟩:=v;rw [DR.ok_andThen,DR.ok_andThen,rep1_eq]
    cases repD (numD N) 1 p1 with
    | error x=>rfl
    | ok v=>obtain ⟨xs,p2⟩:=v;rfl
theorem rep3_eq (F : Int → Int → Int → List UInt8 → DR β) : ((numD N r).andThen fun a r1 => (numD N r1).andThen fun c r2 => (numD N r2).andThen fun d r3 => F a c d r3) = (repD (numD N) 3 r).andThen fun xs q => F (xs.getD 0 0) (xs.getD 1 0) (xs.getD 2 0) q := by
  rw [repD]
  cases h1:numD N r with
  | error x=>rfl
  | ok v =>
    obtain ⟨a,p1⟩:=v;rw [DR.ok_andThen,DR.ok_andThen,rep2_eq]
    cases repD (numD N) 2 p1 with
    | error x=>rfl
    | ok v=>obtain ⟨xs,p2⟩:=v;rfl
end
def PlainIns (N : Nat) (op : Int) (r : List UInt8) : Prop := ∀ (xs : List Int) (q : List UInt8), repD (numD N) (numOffs op).length r = .ok (xs, q) → (∀ x ∈ xs, i64r x) →
  ∃ a b c k,i64r a∧i64r b∧i64r c∧i64r k∧putAll #[.int .i64 op,.int .i64 0,.int .i64 0,.int .i64 0,.int .i64 0,.int .i64 0,.slice none 0 0,.slice none 0 0] (numOffs op) xs=#[.int .i64 op,.int .i64 a,.int .i64 b,.int .i64 c,.int .i64 k,.int .i64 0,.slice none 0 0,.slice none 0 0]∧insR N op r=.ok ((⟨op,a,b,c,k,0,[],[]⟩:MIns),q)
theorem z64 : i64r 0 := ⟨by decide, by decide⟩
theorem plain1 {N : Nat} {op : Int} {r : List UInt8} (h1 : numOffs op = [1]) (h2 : insR N op r = (numD N r).andThen fun a r => (.ok ((⟨op, a, 0, 0, 0, 0, [], []⟩ : MIns), r) : DR MIns)) : PlainIns N op r := by
  intro xs q h hx;rw [h1] at h ⊢;match xs,rep_len h with
  | [a],_=>exact ⟨a,0,0,0,hx a (by simp),z64,z64,z64,rfl,by rw [h2,rep1_eq];exact congrArg (fun x=>DR.andThen x _) h⟩
theorem plain2 {N : Nat} {op : Int} {r : List UInt8} (h1 : numOffs op = [1, 2]) (h2 : insR N op r = (numD N r).andThen fun a r => (numD N r).andThen fun b r => (.ok ((⟨op, a, b, 0, 0, 0, [], []⟩ : MIns), r) : DR MIns)) : PlainIns N op r := by
  intro xs q h hx;rw [h1] at h ⊢;match xs,rep_len h with
  | [a,b],_=>exact ⟨a,b,0,0,hx a (by simp),hx b (by simp),z64,z64,rfl,by rw [h2,rep2_eq];exact congrArg (fun x=>DR.andThen x _) h⟩
theorem plain14 {N : Nat} {op : Int} {r : List UInt8} (h1 : numOffs op = [1, 4]) (h2 : insR N op r = (numD N r).andThen fun a r => (numD N r).andThen fun b r => (.ok ((⟨op, a, 0, 0, b, 0, [], []⟩ : MIns), r) : DR MIns)) : PlainIns N op r := by
  intro xs q h hx;rw [h1] at h ⊢;match xs,rep_len h with
  | [a,b],_=>exact ⟨a,0,0,b,hx a (by simp),z64,z64,hx b (by simp),rfl,by rw [h2,rep2_eq];exact congrArg (fun x=>DR.andThen x _) h⟩
theorem plain3 {N : Nat} {op : Int} {r : List UInt8} (h1 : numOffs op = [1, 2, 3]) (h2 : insR N op r = (numD N r).andThen fun a r => (numD N r).andThen fun b r => (numD N r).andThen fun c r => (.ok ((⟨op, a, b, c, 0, 0, [], []⟩ : MIns), r) : DR MIns)) : PlainIns N op r := by
  intro xs q h hx;rw [h1] at h ⊢;match xs,rep_len h with
  | [a,b,c],_=>exact ⟨a,b,c,0,hx a (by simp),hx b (by simp),hx c (by simp),z64,rfl,by rw [h2,rep3_eq];exact congrArg (fun x=>DR.andThen x _) h⟩
theorem plain124 {N : Nat} {op : Int} {r : List UInt8} (h1 : numOffs op = [1, 2, 4]) (h2 : insR N op r = (numD N r).andThen fun a r => (numD N r).andThen fun b r => (numD N r).andThen fun c r => (.ok ((⟨op, a, b, 0, c, 0, [], []⟩ : MIns), r) : DR MIns)) : PlainIns N op r := by
  intro xs q h hx;rw [h1] at h ⊢;match xs,rep_len h with
  | [a,b,c],_=>exact ⟨a,b,0,c,hx a (by simp),hx b (by simp),z64,hx c (by simp),rfl,by rw [h2,rep3_eq];exact congrArg (fun x=>DR.andThen x _) h⟩
theorem plain0 {N : Nat} {op : Int} {r : List UInt8} (h1 : numOffs op = []) (h2 : insR N op r = .ok ((⟨op, 0, 0, 0, 0, 0, [], []⟩ : MIns), r)) : PlainIns N op r := by
  intro xs q h hx;rw [h1] at h ⊢;injection h with h
  injection h with e1 e2
  subst e1;subst e2;exact ⟨0,0,0,0,z64,z64,z64,z64,rfl,h2⟩
theorem fields_none {op : Int} (h : ¬ (1 ≤ op ∧ op ≤ 14)) : fieldsOf op = none := by
  unfold fieldsOf;rw [if_neg (by omega),if_neg (by omega),if_neg (by omega),if_neg (by omega),if_neg (by omega),if_neg (by omega),if_neg (by omega),if_neg (by omega),if_neg (by omega)]
theorem plain_ins (N : Nat) (op : Int) (r : List UInt8) (h1 : op ≠ 1) (h5 : op ≠ 5) (h14 : op ≠ 14) : PlainIns N op r := by
  by_cases h:1≤op∧op≤14
  · have hc:op=2∨op=3∨op=4∨op=6∨op=7∨op=8∨op=9∨op=10∨op=11∨op=12∨op=13:=by omega
    rcases hc with rfl | rfl | rfl | rfl | rfl | rfl | rfl | rfl | rfl | rfl | rfl
    · exact plain124 rfl rfl
    · exact plain0 rfl rfl
    · exact plain1 rfl rfl
    · exact plain14 rfl rfl
    · exact plain124 rfl rfl
    · exact plain2 rfl rfl
    · exact plain2 rfl rfl
    · exact plain3 rfl rfl
    · exact plain1 rfl rfl
    · exact plain0 rfl rfl
    · exact plain1 rfl rfl
  · refine plain0 ?_ ?_
    · unfold numOffs;rw [if_neg (by omega),if_neg (by omega),if_neg (by omega),if_neg (by omega),if_neg (by omega),if_neg (by omega)]
    · unfold insR;rw [fields_none h]
theorem ins_bad {N : Nat} {op : Int} {r : List UInt8} {y : Int × Int} (h : repD (numD N) (numOffs op).length r = .error y) : insR N op r = .error y := by
  by_cases hr:1≤op∧op≤14
  · have hc:op=1∨op=5∨op=14∨op=2∨op=3∨op=4∨op=6∨op=7∨op=8∨op=9∨op=10∨op=11∨op=12∨op=13:=by omega
    rcases hc with rfl | rfl | rfl | rfl | rfl | rfl | rfl | rfl | rfl | rfl | rfl | rfl | rfl | rfl
    · cases h
    · exact (rep1_eq fun a r=>(lstD N (numD N) r).andThen fun xs r=>(.ok ((⟨5,a,0,0,0,0,[],xs⟩:MIns),r):DR MIns)).trans (congrArg (fun x=>DR.andThen x _) h)
    · exact (rep1_eq fun a r=>(lstD N (numD N) r).andThen fun rs r=>(lstD N (numD N) r).andThen fun xs r=>(.ok ((⟨14,0,0,0,a,0,rs,xs⟩:MIns),r):DR MIns)).trans (congrArg (fun x=>DR.andThen x _) h)
    · exact (rep3_eq fun a b c r=>(.ok ((⟨2,a,b,0,c,0,[],[]⟩:MIns),r):DR MIns)).trans (congrArg (fun x=>DR.andThen x _) h)
    · cases h
    · exact (rep1_eq fun a r=>(.ok ((⟨4,a,0,0,0,0,[],[]⟩:MIns),r):DR MIns)).trans (congrArg (fun x=>DR.andThen x _) h)
    · exact (rep2_eq fun a b r=>(.ok ((⟨6,a,0,0,b,0,[],[]⟩:MIns),r):DR MIns)).trans (congrArg (fun x=>DR.andThen x _) h)
    · exact (rep3_eq fun a b c r=>(.ok ((⟨7,a,b,0,c,0,[],[]⟩:MIns),r):DR MIns)).trans (congrArg (fun x=>DR.andThen x _) h)
    · exact (rep2_eq fun a b r=>(.ok ((⟨8,a,b,0,0,0,[],[]⟩:MIns),r):DR MIns)).trans (congrArg (fun x=>DR.andThen x _) h)
    · exact (rep2_eq fun a b r=>(.ok ((⟨9,a,b,0,0,0,[],[]⟩:MIns),r):DR MIns)).trans (congrArg (fun x=>DR.andThen x _) h)
    · exact (rep3_eq fun a b c r=>(.ok ((⟨10,a,b,c,0,0,[],[]⟩:MIns),r):DR MIns)).trans (congrArg (fun x=>DR.andThen x _) h)
    · exact (rep1_eq fun a r=>(.ok ((⟨11,a,0,0,0,0,[],[]⟩:MIns),r):DR MIns)).trans (congrArg (fun x=>DR.andThen x _) h)
    · cases h
    · exact (rep1_eq fun a r=>(.ok ((⟨13,a,0,0,0,0,[],[]⟩:MIns),r):DR MIns)).trans (congrArg (fun x=>DR.andThen x _) h)
  · have e:numOffs op=[]:=by
      unfold numOffs;rw [if_neg (by omega),if_neg (by omega),if_neg (by omega),if_neg (by omega),if_neg (by omega),if_neg (by omega)]
    rw [e] at h
    cases h
end Go.Proofs.YtjdcjfpfpaplladGreat
namespace Go.Proofs.YtjdcjfpfpaplladGreat
set_option linter.unusedSimpArgs false
set_option linter.unusedVariables false
abbrev Y64 (v : Int) : Prop := -9223372036854775808 ≤ v ∧ v ≤ 9223372036854775807
theorem unzig_zig (n : Int) : unzig (zig n) = n := by
  unfold unzig zig;by_cases h:n<0
  · rw [if_pos h];have e:(-2*n - 1).toNat % 2=1:=by omega
    rw [if_pos e];omega
  · rw [if_neg h];have e:¬ (2*n).toNat % 2=1:=by omega
    rw [if_neg e];omega
theorem zig_unzig (u : Nat) : zig (unzig u) = u := by
  unfold unzig zig;by_cases h:u % 2=1
  · rw [if_pos h,if_pos (by omega)];omega
  · rw [if_neg h,if_neg (by omega)];omega
theorem zig_lt {n : Int} (h : Y64 n) : zig n < 18446744073709551616 := by
  unfold zig;split <;> omega
theorem unzig_64 {u : Nat} (h : u < 18446744073709551616) : Y64 (unzig u) := by
  unfold unzig;split <;> constructor <;> omega
theorem ofNat_toNat {u : Nat} (h : u < 256) : (UInt8.ofNat u).toNat = u := by
  rw [UInt8.toNat_ofNat'];omega
theorem pow9 : (128 : Nat) ^ 9 = 9223372036854775808 := by decide
theorem pow10 : (128 : Nat) ^ 10 = 1180591620717411303424 := by decide
theorem long_grp (N : Nat) (r : List UInt8) : ∀ (k i u acc : Nat), i + k = 10 → u * 128 ^ i < 18446744073709551616 → (0 < i → 0 < u) → longF N i acc (grp k u ++ r) = .ok (unzig (acc + u * 128 ^ i), r)
  | 0,i,u,acc,hi,hu,hp=>by
    exfalso
    obtain rfl:i=10:=by omega
    have:=hp (by decide)
    rw [pow10] at hu;omega
  | k+1,i,u,acc,hi,hu,hp=>by
    have h9:i=9→u<2:=fun e=>by subst e;rw [pow9] at hu;omega
    unfold grp;by_cases h:u<128
    · rw [if_pos h];show longF N i acc (UInt8.ofNat u::r)=_;unfold longF;rw [ofNat_toNat (by omega),if_neg (by omega),if_pos h,Nat.mod_eq_of_lt h]
    · rw [if_neg h];show longF N i acc (UInt8.ofNat (u % 128+128)::(grp k (u / 128)++r))=_;unfold longF;rw [ofNat_toNat (by omega),if_neg (by omega),if_neg (by omega)];have hd:u / 128*128+u % 128=u:=by omega
      have he:u / 128*128 ^ (i+1)+u % 128*128 ^ i=u*128 ^ i:=by
        rw [Nat.pow_succ,Nat.mul_comm (128 ^ i) 128,← Nat.mul_assoc,← Nat.add_mul,hd]
      rw [long_grp N r k (i+1) (u / 128) _ (by omega) (by omega) (fun _=>by omega)];have e2:(u % 128+128) % 128=u % 128:=by omega
      rw [e2];congr 3
      omega
theorem numD_back (N : Nat) {n : Int} (h : Y64 n) (r : List UInt8) : numD N (numY n ++ r) = .ok (n, r) := by
  unfold numD numY;rw [long_grp N r 10 0 (zig n) 0 rfl (by have:=zig_lt h;omega) (by omega)];simp [unzig_zig]
theorem long_of (N : Nat) : ∀ (l : List UInt8) (i acc : Nat) (n : Int) (r : List UInt8), i ≤ 9 → acc < 128 ^ i → longF N i acc l = .ok (n, r) → ∃ u, l = grp (10 - i) u ++ r ∧ n = unzig (acc + u * 128 ^ i) ∧ (0 < i → 0 < u) ∧ acc + u * 128 ^ i < 18446744073709551616
  | [],i,acc,n,r,hi,ha,h=>by unfold longF at h;cases h
  | x::l,i,acc,n,r,hi,ha,h=>by
    unfold longF at h;split at h
    · cases h
    rename_i hx
    have hx9:i=9→x.toNat≤1:=fun e=>by
      rcases Nat.lt_or_ge 1 x.toNat with g | g
      · exact absurd (.inl ⟨e,g⟩) hx
      · exact g
    have hx0:0<i→0<x.toNat:=fun e=>by
      rcases Nat.eq_zero_or_pos x.toNat with g | g
      · exact absurd (.inr ⟨e,g⟩) hx
      · exact g
    have hlt:x.toNat<256:=x.toNat_lt;have hofx:UInt8.ofNat x.toNat=x:=UInt8.ofNat_toNat;have hk:10 - i=(9 - i)+1:=by omega
    have hpw:128 ^ i≤9223372036854775808:=by rw [← pow9];exact Nat.pow_le_pow_right (by decide) hi
    split at h
    · rename_i hs
      injection h with h
      injection h with h1 h2
      subst h2;rw [Nat.mod_eq_of_lt hs] at h1;refine ⟨x.toNat,?_,h1.symm,hx0,?_⟩
      · rw [hk];show _=grp ((9 - i)+1) x.toNat++_;unfold grp;rw [if_pos hs,hofx];rfl
      · rcases Nat.lt_or_ge i 9 with g | g
        · have hp8:128 ^ i≤72057594037927936:=by rw [show (72057594037927936:Nat)=128 ^ 8 by decide];exact Nat.pow_le_pow_right (by decide) (by omega)
          have:x.toNat*128 ^ i≤127*72057594037927936:=Nat.mul_le_mul (by omega) hp8
          omega
        · obtain rfl:i=9:=by omega
          have:=hx9 rfl
          have:x.toNat*128 ^ 9≤1*128 ^ 9:=Nat.mul_le_mul_right _ this
          rw [pow9] at this ha ⊢;omega
    · rename_i hs
      have hi9:i≠9:=fun e=>by have:=hx9 e;omega
      have hp1:128 ^ (i+1)=128*128 ^ i:=by rw [Nat.pow_succ,Nat.mul_comm]
      have hm:x.toNat % 128*128 ^ i≤127*128 ^ i:=Nat.mul_le_mul_right _ (by omega);obtain ⟨u,e1,e2,e3,e4⟩:=long_of N l (i+1) _ n r (by omega) (by omega) h;have hu:=e3 (by omega);refine ⟨u*128+x.toNat % 128,?_,?_,fun _=>by omega,?_⟩
      · rw [hk];unfold grp;rw [if_neg (by omega),show (u*128+x.toNat % 128) % 128+128=x.toNat by omega,hofx,show (u*128+x.toNat % 128) / 128=u by omega,e1,show 10 - (i+1)=9 - i by omega];rfl
      · rw [e2,hp1];congr 1
        rw [Nat.add_mul,Nat.mul_assoc];omega
      · rw [hp1] at e4;rw [Nat.add_mul,Nat.mul_assoc];omega
theorem numD_of {N : Nat} {l r : List UInt8} {n : Int} (h : numD N l = .ok (n, r)) : l = numY n ++ r ∧ Y64 n := by
  obtain ⟨u,e1,e2,-,e4⟩:=long_of N l 0 0 n r (by decide) (by decide) h;simp only [Nat.zero_add,Nat.pow_zero,Nat.mul_one] at e2 e4;subst e2;refine ⟨?_,unzig_64 e4⟩;unfold numY;rw [zig_unzig];exact e1
theorem grp_ne (k u : Nat) : grp (k + 1) u ≠ [] := by
  unfold grp;split <;> simp
theorem numY_ne (n : Int) : numY n ≠ [] := grp_ne 9 _
structure Codes {α : Type} (f : List UInt8 → DR α) (e : α → List UInt8) (P : α → Prop) : Prop where
  fwd:∀ x r,P x→f (e x++r)=.ok (x,r)
  bwd:∀ {l x r},f l=.ok (x,r)→l=e x++r∧P x
theorem num_codes (N : Nat) : Codes (numD N) numY Y64 := ⟨fun x r h => numD_back N h r, fun h => numD_of h⟩
section
variable {α : Type} {f : List UInt8 → DR α} {e : α → List UInt8} {P : α → Prop}
theorem rep_fwd (h : Codes f e P) (r : List UInt8) : ∀ (l : List α), (∀ x ∈ l, P x) → repD f l.length (l.flatMap e ++ r) = .ok (l, r)
  | [],_=>rfl
  | x::l,hl=>by
    show (f _).andThen _=_;rw [List.flatMap_cons,List.append_assoc,h.fwd x _ (hl x (by simp)),DR.ok_andThen,rep_fwd h r l (fun y hy=>hl y (by simp [hy])),DR.ok_andThen]
theorem rep_bwd (h : Codes f e P) : ∀ (k : Nat) {s r : List UInt8} {l : List α}, repD f k s = .ok (l, r) → s = l.flatMap e ++ r ∧ l.length = k ∧ ∀ x ∈ l, P x
  | 0,s,r,l,hh=>by
    injection hh with hh
    injection hh with h1 h2
    subst h1 h2;exact ⟨rfl,rfl,fun x hx=>by cases hx⟩
  | k+1,s,r,l,hh=>by
    obtain ⟨x,r1,h1,hh⟩:=DR.andThen_ok hh;obtain ⟨xs,r2,h2,hh⟩:=DR.andThen_ok hh;injection hh with hh
    injection hh with h3 h4
    subst h3 h4;obtain ⟨rfl,p1⟩:=h.bwd h1;obtain ⟨rfl,e2,p2⟩:=rep_bwd h k h2;refine ⟨by rw [List.flatMap_cons,List.append_assoc],by rw [List.length_cons,e2],fun y hy=>?_⟩;rcases List.mem_cons.1 hy with rfl | hy
    · exact p1
    · exact p2 y hy
theorem cnt_fwd (N : Nat) {k : Nat} (r : List UInt8) (h : Y64 (k : Int)) (hr : k ≤ r.length) : cntD N (numY (k : Int) ++ r) = .ok (k, r) := by
  unfold cntD;rw [numD_back N h,DR.ok_andThen,if_neg (by omega)];simp
theorem cnt_bwd {N : Nat} {l r : List UInt8} {k : Nat} (h : cntD N l = .ok (k, r)) : l = numY (k : Int) ++ r ∧ Y64 (k : Int) ∧ k ≤ r.length := by
  obtain ⟨n,r1,h1,h2⟩:=DR.andThen_ok h;split at h2
  · cases h2
  rename_i hn
  injection h2 with h2
  injection h2 with h3 h4
  subst h3 h4;obtain ⟨e1,e2⟩:=numD_of h1;have e:((n.toNat:Nat):Int)=n:=by omega
  rw [e];exact ⟨e1,e2,by omega⟩
theorem flat_ne (h : ∀ x, P x → e x ≠ []) : ∀ (l : List α), (∀ x ∈ l, P x) → l.length ≤ (l.flatMap e).length
  | [],_=>Nat.le_refl _
  | x::l,hl=>by
    have h1:=List.length_pos_iff.2 (h x (hl x (by simp)));have h2:=flat_ne h l (fun y hy=>hl y (by simp [hy]));rw [List.flatMap_cons,List.length_append,List.length_cons];omega
theorem lst_codes (N : Nat) (h : Codes f e P) (hn : ∀ x, P x → e x ≠ []) : Codes (lstD N f) (listY e) (fun l => Y64 (l.length : Int) ∧ ∀ x ∈ l, P x) :=
  ⟨fun l r hl=>by
    unfold lstD listY;rw [List.append_assoc,cnt_fwd N _ hl.1 (by have:=flat_ne hn l hl.2;rw [List.length_append];omega),DR.ok_andThen];exact rep_fwd h r l hl.2,
  fun {l x r} hh=>by
    obtain ⟨k,r1,h1,h2⟩:=DR.andThen_ok hh;obtain ⟨rfl,e2,-⟩:=cnt_bwd h1;obtain ⟨rfl,rfl,p⟩:=rep_bwd h k h2;exact ⟨by unfold listY;rw [List.append_assoc],e2,p⟩⟩
theorem opt_fwd (h : Codes f e P) {b : Bool} {z x : α} (r : List UInt8) (h1 : b = true → P x) (h2 : b = false → x = z) : optD b f z (optY b (e x) ++ r) = .ok (x, r) := by
  cases b with
  | true=>exact h.fwd x r (h1 rfl)
  | false=>rw [h2 rfl];rfl
theorem opt_bwd (h : Codes f e P) {b : Bool} {z x : α} {l r : List UInt8} (hh : optD b f z l = .ok (x, r)) : l = optY b (e x) ++ r ∧ (b = true → P x) ∧ (b = false → x = z) := by
  cases b with
  | true =>
    obtain ⟨h1,h2⟩:=h.bwd (show f l=.ok (x,r) from hh);exact ⟨h1,fun _=>h2,fun h=>(by cases h)⟩
  | false =>
    injection hh with hh
    injection hh with h1 h2
    subst h1 h2;exact ⟨rfl,fun h=>(by cases h),fun _=>rfl⟩
end
def yInts (l : List Int) : Prop := Y64 (l.length : Int) ∧ ∀ x ∈ l, Y64 x
theorem ints_codes (N : Nat) : Codes (lstD N (numD N)) (listY numY) yInts := lst_codes N (num_codes N) (fun x _ => numY_ne x)
def TT.yOk : {n : Nat} → TT n → Prop
  | 0,t=>Empty.elim t
  | n+1,t=>Y64 t.1∧Y64 t.2.1∧(t.1=1→t.2.1=0)∧(t.1≠3→t.2.2=[])∧(t.1=3→0<n∧Y64 (t.2.2.length:Int)∧∀ x∈t.2.2,TT.yOk (n:=n) x)
def yTyps {n : Nat} (l : List (TT n)) : Prop := Y64 (l.length : Int) ∧ ∀ x ∈ l, x.yOk
theorem TT.ybs_ne : {n : Nat} → (t : TT n) → t.ybs ≠ []
  | 0,t=>Empty.elim t
  | n+1,t=>by
    intro h;have h:numY t.1++_=[]:=h;exact numY_ne _ (List.append_eq_nil_iff.1 h).1
theorem typ_codes (N : Nat) {n : Nat} {rec : List UInt8 → DR (List (TT n))} (h : Codes rec (listY TT.ybs) (fun l => 0 < n ∧ yTyps l)) : Codes (typD N rec) (TT.ybs (n := n + 1)) TT.yOk :=
  ⟨fun t r ht=>by
    obtain ⟨k,g,ts⟩:=t;obtain ⟨h1,h2,h3,h4,h5⟩:=ht;simp only at h1 h2 h3 h4 h5
    unfold typD;show (numD N ((numY k++((if k=1 then [] else numY g)++(if k=3 then listY TT.ybs ts else [])))++r)).andThen _=_;rw [List.append_assoc,numD_back N h1,DR.ok_andThen,List.append_assoc]
    have e1:(if k=1 then (.ok (0,(if k=1 then [] else numY g)++((if k=3 then listY TT.ybs ts else [])++r)):DR Int) else numD N ((if k=1 then [] else numY g)++((if k=3 then listY TT.ybs ts else [])++r)))=.ok (g,(if k=3 then listY TT.ybs ts else [])++r):=by
      by_cases hk:k=1
      · rw [if_pos hk,if_pos hk,h3 hk];rfl
      · rw [if_neg hk,if_neg hk,numD_back N h2]
    rw [e1,DR.ok_andThen]
    have e2:(if k=3 then rec ((if k=3 then listY TT.ybs ts else [])++r) else (.ok ([],(if k=3 then listY TT.ybs ts else [])++r):DR (List (TT n))))=.ok (ts,r):=by
      by_cases hk:k=3
      · obtain ⟨a,b⟩:=h5 hk;rw [if_pos hk,if_pos hk];exact h.fwd ts r ⟨a,b⟩
      · rw [if_neg hk,if_neg hk,h4 hk];rfl
    rw [e2];rfl,
  fun {l t r} hh=>by
    obtain ⟨k,r1,h1,hh⟩:=DR.andThen_ok hh;obtain ⟨g,r2,h2,hh⟩:=DR.andThen_ok hh;obtain ⟨ts,r3,h3,hh⟩:=DR.andThen_ok hh;injection hh with hh
    injection hh with e1 e2
    subst e1 e2;obtain ⟨rfl,p1⟩:=numD_of h1
    have q2:r1=(if k=1 then [] else numY g)++r2∧Y64 g∧(k=1→g=0):=by
      by_cases hk:k=1
      · rw [if_pos hk] at h2 ⊢;injection h2 with h2
        injection h2 with a b
        subst a b;exact ⟨rfl,by decide,fun _=>rfl⟩
      · rw [if_neg hk] at h2 ⊢;obtain ⟨a,b⟩:=numD_of h2;exact ⟨a,b,fun h=>absurd h hk⟩
    have q3:r2=(if k=3 then listY TT.ybs ts else [])++r3∧(k≠3→ts=[])∧(k=3→0<n∧yTyps ts):=by
      by_cases hk:k=3
      · rw [if_pos hk] at h3 ⊢;obtain ⟨a,b⟩:=h.bwd h3;exact ⟨a,fun h=>absurd hk h,fun _=>b⟩
      · rw [if_neg hk] at h3 ⊢;injection h3 with h3
        injection h3 with a b
        subst a b;exact ⟨rfl,fun _=>rfl,fun h=>absurd h hk⟩
    obtain ⟨e1,p2,p3⟩:=q2;obtain ⟨e2,p4,p5⟩:=q3;refine ⟨?_,p1,p2,p3,p4,p5⟩;show _=(numY k++((if k=1 then [] else numY g)++(if k=3 then listY TT.ybs ts else [])))++_;rw [List.append_assoc,List.append_assoc,← e2,← e1]⟩
theorem typs_codes (N : Nat) : (d : Nat) → Codes (typsD N d) (listY TT.ybs) (fun l => 0 < d ∧ yTyps l)
  | 0=>⟨fun l r h=>absurd h.1 (by decide),fun {l x r} h=>by cases h⟩
  | d+1=>by
    have h:=lst_codes N (typ_codes N (typs_codes N d)) (fun x _=>TT.ybs_ne x);exact ⟨fun l r hl=>h.fwd l r hl.2,fun {l x r} hh=>by obtain ⟨a,b⟩:=h.bwd hh;exact ⟨a,by omega,b⟩⟩
def MIns.yOk (x : MIns) : Prop := Y64 x.op ∧ match fieldsOf x.op with
  | none=>x=⟨x.op,0,0,0,0,0,[],[]⟩
  | some (a,b,c,k,n,rg,ar)=>((a=true→Y64 x.a)∧(a=false→x.a=0))∧((b=true→Y64 x.b)∧(b=false→x.b=0))∧((c=true→Y64 x.c)∧(c=false→x.c=0))∧((k=true→Y64 x.k)∧(k=false→x.k=0))∧((n=true→Y64 x.n)∧(n=false→x.n=0))∧((rg=true→yInts x.regs)∧(rg=false→x.regs=[]))∧((ar=true→yInts x.args)∧(ar=false→x.args=[]))
theorem ins_codes (N : Nat) : Codes (insD N) MIns.ybs MIns.yOk :=
  ⟨fun x r hx=>by
    obtain ⟨op,xa,xb,xc,xk,xn,xr,xs⟩:=x;obtain ⟨h0,h⟩:=hx;unfold MIns.ybs insD;simp only at h0 h ⊢
    cases hf:fieldsOf op with
    | none =>
      rw [hf] at h;simp only at h ⊢
      rw [numD_back N h0,DR.ok_andThen,hf];simp only
      rw [h]
    | some v =>
      obtain ⟨a,b,c,k,n,rg,ar⟩:=v;rw [hf] at h;simp only at h ⊢
      obtain ⟨ha,hb,hc,hk,hn,hr,hs⟩:=h;simp only [List.append_assoc];rw [numD_back N h0,DR.ok_andThen,hf];simp only
      rw [opt_fwd (num_codes N) _ ha.1 ha.2,DR.ok_andThen,opt_fwd (num_codes N) _ hb.1 hb.2,DR.ok_andThen,opt_fwd (num_codes N) _ hc.1 hc.2,DR.ok_andThen,opt_fwd (num_codes N) _ hk.1 hk.2,DR.ok_andThen,opt_fwd (num_codes N) _ hn.1 hn.2,DR.ok_andThen,opt_fwd (ints_codes N) _ hr.1 hr.2,DR.ok_andThen,opt_fwd (ints_codes N) _ hs.1 hs.2,DR.ok_andThen],
  fun {l x r} h00=>by
    obtain ⟨op,r1,h1,hh⟩:=DR.andThen_ok h00;clear h00;obtain ⟨rfl,p0⟩:=numD_of h1
    cases hf:fieldsOf op with
    | none =>
      rw [hf] at hh;simp only at hh
      injection hh with hh
      injection hh with e1 e2
      subst e1 e2;exact ⟨by unfold MIns.ybs;simp only [hf],p0,by simp only [hf]⟩
    | some v =>
      obtain ⟨a,b,c,k,n,rg,ar⟩:=v;rw [hf] at hh;simp only at hh
      obtain ⟨xa,ra,ha,hh⟩:=DR.andThen_ok hh;obtain ⟨xb,rb,hb,hh⟩:=DR.andThen_ok hh;obtain ⟨xc,rc,hc,hh⟩:=DR.andThen_ok hh;obtain ⟨xk,rk,hk,hh⟩:=DR.andThen_ok hh;obtain ⟨xn,rn,hn,hh⟩:=DR.andThen_ok hh;obtain ⟨xr,rr,hr,hh⟩:=DR.andThen_ok hh;obtain ⟨xs,rs,hs,hh⟩:=DR.andThen_ok hh;injection hh with hh
      injection hh with e1 e2
      subst e1 e2;obtain ⟨rfl,pa⟩:=opt_bwd (num_codes N) ha;obtain ⟨rfl,pb⟩:=opt_bwd (num_codes N) hb;obtain ⟨rfl,pc⟩:=opt_bwd (num_codes N) hc;obtain ⟨rfl,pk⟩:=opt_bwd (num_codes N) hk;obtain ⟨rfl,pn⟩:=opt_bwd (num_codes N) hn;obtain ⟨rfl,pr⟩:=opt_bwd (ints_codes N) hr;obtain ⟨rfl,ps⟩:=opt_bwd (ints_codes N) hs;refine ⟨by unfold MIns.ybs;simp only [hf,List.append_assoc],p0,?_⟩;simp only [hf];exact ⟨pa,pb,pc,pk,pn,pr,ps⟩⟩
def MTo.yOk (t : MTo) : Prop := Y64 t.block ∧ yInts t.regs ∧ yInts t.args
theorem to_codes (N : Nat) : Codes (toD N) MTo.ybs MTo.yOk :=
  ⟨fun t r ht=>by
    obtain ⟨b,x,y⟩:=t;obtain ⟨h1,h2,h3⟩:=ht;unfold toD MTo.ybs;simp only [List.append_assoc] at h1 h2 h3 ⊢;rw [numD_back N h1,DR.ok_andThen,(ints_codes N).fwd _ _ h2,DR.ok_andThen,(ints_codes N).fwd _ _ h3,DR.ok_andThen],
  fun {l x r} hh=>by
    obtain ⟨b,r1,h1,hh⟩:=DR.andThen_ok hh;obtain ⟨y,r2,h2,hh⟩:=DR.andThen_ok hh;obtain ⟨z,r3,h3,hh⟩:=DR.andThen_ok hh;injection hh with hh
    injection hh with e1 e2
    subst e1 e2;obtain ⟨rfl,p1⟩:=numD_of h1;obtain ⟨rfl,p2⟩:=(ints_codes N).bwd h2;obtain ⟨rfl,p3⟩:=(ints_codes N).bwd h3;exact ⟨by unfold MTo.ybs;simp only [List.append_assoc],p1,p2,p3⟩⟩
def MEnd.yOk (e : MEnd) : Prop := Y64 e.op ∧
  ((e.op=1∧e.yes.yOk∧e=⟨e.op,0,e.yes,zTo,[]⟩)∨(e.op=2∧Y64 e.a∧e.yes.yOk∧e.no.yOk∧e=⟨e.op,e.a,e.yes,e.no,[]⟩)∨(e.op=3∧yInts e.args∧e=⟨e.op,0,zTo,zTo,e.args⟩)∨(e.op≠1∧e.op≠2∧e.op≠3∧e=⟨e.op,0,zTo,zTo,[]⟩))
theorem end_codes (N : Nat) : Codes (endD N) MEnd.ybs MEnd.yOk :=
  ⟨fun e r he=>by
    obtain ⟨op,a,t,u,x⟩:=e;obtain ⟨h0,h⟩:=he;unfold endD MEnd.ybs;simp only [List.append_assoc] at h0 h ⊢;rw [numD_back N h0,DR.ok_andThen];rcases h with ⟨rfl,ht,hx⟩ | ⟨rfl,ha,ht,hu,hx⟩ | ⟨rfl,hi,hx⟩ | ⟨n1,n2,n3,hx⟩
    · rw [if_pos rfl,if_pos rfl,(to_codes N).fwd _ _ ht,DR.ok_andThen,← hx]
    · rw [if_neg (by decide),if_pos rfl,if_neg (by decide),if_pos rfl,List.append_assoc,List.append_assoc,numD_back N ha,DR.ok_andThen,(to_codes N).fwd _ _ ht,DR.ok_andThen,(to_codes N).fwd _ _ hu,DR.ok_andThen,← hx]
    · rw [if_neg (by decide),if_neg (by decide),if_pos rfl,if_neg (by decide),if_neg (by decide),if_pos rfl,(ints_codes N).fwd _ _ hi,DR.ok_andThen,← hx]
    · rw [if_neg n1,if_neg n2,if_neg n3,if_neg n1,if_neg n2,if_neg n3,← hx];rfl,
  fun {l x r} h00=>by
    obtain ⟨op,r1,h1,hh⟩:=DR.andThen_ok h00;clear h00;obtain ⟨rfl,p0⟩:=numD_of h1;by_cases k1:op=1
    · subst k1;rw [if_pos rfl] at hh;obtain ⟨t,r2,h2,hh⟩:=DR.andThen_ok hh;injection hh with hh
      injection hh with e1 e2
      subst e1 e2;obtain ⟨rfl,p1⟩:=(to_codes N).bwd h2;exact ⟨by unfold MEnd.ybs;simp,p0,.inl ⟨rfl,p1,rfl⟩⟩
    rw [if_neg k1] at hh;by_cases k2:op=2
    · subst k2;rw [if_pos rfl] at hh;obtain ⟨a,r2,h2,hh⟩:=DR.andThen_ok hh;obtain ⟨t,r3,h3,hh⟩:=DR.andThen_ok hh;obtain ⟨u,r4,h4,hh⟩:=DR.andThen_ok hh;injection hh with hh
      injection hh with e1 e2
      subst e1 e2;obtain ⟨rfl,p1⟩:=numD_of h2;obtain ⟨rfl,p2⟩:=(to_codes N).bwd h3;obtain ⟨rfl,p3⟩:=(to_codes N).bwd h4;exact ⟨by unfold MEnd.ybs;simp,p0,.inr (.inl ⟨rfl,p1,p2,p3,rfl⟩)⟩
    rw [if_neg k2] at hh;by_cases k3:op=3
    · subst k3;rw [if_pos rfl] at hh;obtain ⟨a,r2,h2,hh⟩:=DR.andThen_ok hh;injection hh with hh
      injection hh with e1 e2
      subst e1 e2;obtain ⟨rfl,p1⟩:=(ints_codes N).bwd h2;exact ⟨by unfold MEnd.ybs;simp,p0,.inr (.inr (.inl ⟨rfl,p1,rfl⟩))⟩
    rw [if_neg k3] at hh;injection hh with hh
    injection hh with e1 e2
    subst e1 e2;exact ⟨by unfold MEnd.ybs;simp [k1,k2,k3],p0,.inr (.inr (.inr ⟨k1,k2,k3,rfl⟩))⟩⟩
theorem MIns.ybs_ne (x : MIns) : x.ybs ≠ [] := by
  unfold MIns.ybs;split
  · exact numY_ne _
  · exact fun h=>numY_ne _ (List.append_eq_nil_iff.1 h).1
def MBlock.yOk {n : Nat} (x : MBlock n) : Prop := Y64 x.regs ∧ yTyps x.params ∧ (Y64 (x.code.length : Int) ∧ ∀ y ∈ x.code, y.yOk) ∧ x.fin.yOk
theorem block_codes (N : Nat) : Codes (blockD N) (MBlock.ybs (n := 6)) MBlock.yOk :=
  ⟨fun x r hx=>by
    obtain ⟨g,ts,c,e⟩:=x;obtain ⟨h1,h2,h3,h4⟩:=hx;unfold blockD MBlock.ybs;simp only [List.append_assoc] at h1 h2 h3 h4 ⊢;rw [numD_back N h1,DR.ok_andThen,(typs_codes N 6).fwd _ _ ⟨by decide,h2⟩,DR.ok_andThen,(lst_codes N (ins_codes N) (fun x _=>x.ybs_ne)).fwd _ _ h3,DR.ok_andThen,(end_codes N).fwd _ _ h4,DR.ok_andThen],
  fun {l x r} hh=>by
    obtain ⟨g,r1,h1,hh⟩:=DR.andThen_ok hh;obtain ⟨ts,r2,h2,hh⟩:=DR.andThen_ok hh;obtain ⟨c,r3,h3,hh⟩:=DR.andThen_ok hh;obtain ⟨e,r4,h4,hh⟩:=DR.andThen_ok hh;injection hh with hh
    injection hh with e1 e2
    subst e1 e2;obtain ⟨rfl,p1⟩:=numD_of h1;obtain ⟨rfl,-,p2⟩:=(typs_codes N 6).bwd h2;obtain ⟨rfl,p3⟩:=(lst_codes N (ins_codes N) (fun x _=>x.ybs_ne)).bwd h3;obtain ⟨rfl,p4⟩:=(end_codes N).bwd h4;exact ⟨by unfold MBlock.ybs;simp only [List.append_assoc],p1,p2,p3,p4⟩⟩
theorem MBlock.ybs_ne {n : Nat} (x : MBlock n) : x.ybs ≠ [] := fun h => numY_ne _ (List.append_eq_nil_iff.1 h).1
theorem MFunc.ybs_ne {n : Nat} (x : MFunc n) : x.ybs ≠ [] := fun h => numY_ne _ (List.append_eq_nil_iff.1 h).1
def MFunc.yOk {n : Nat} (x : MFunc n) : Prop := Y64 x.regs ∧ yTyps x.params ∧ yTyps x.results ∧ (Y64 (x.blocks.length : Int) ∧ ∀ y ∈ x.blocks, y.yOk)
theorem func_codes (N : Nat) : Codes (funcD N) (MFunc.ybs (n := 6)) MFunc.yOk :=
  ⟨fun x r hx=>by
    obtain ⟨g,ts,us,bs⟩:=x;obtain ⟨h1,h2,h3,h4⟩:=hx;unfold funcD MFunc.ybs;simp only [List.append_assoc] at h1 h2 h3 h4 ⊢;rw [numD_back N h1,DR.ok_andThen,(typs_codes N 6).fwd _ _ ⟨by decide,h2⟩,DR.ok_andThen,(typs_codes N 6).fwd _ _ ⟨by decide,h3⟩,DR.ok_andThen,(lst_codes N (block_codes N) (fun x _=>x.ybs_ne)).fwd _ _ h4,DR.ok_andThen],
  fun {l x r} hh=>by
    obtain ⟨g,r1,h1,hh⟩:=DR.andThen_ok hh;obtain ⟨ts,r2,h2,hh⟩:=DR.andThen_ok hh;obtain ⟨us,r3,h3,hh⟩:=DR.andThen_ok hh;obtain ⟨bs,r4,h4,hh⟩:=DR.andThen_ok hh;injection hh with hh
    injection hh with e1 e2
    subst e1 e2;obtain ⟨rfl,p1⟩:=numD_of h1;obtain ⟨rfl,-,p2⟩:=(typs_codes N 6).bwd h2;obtain ⟨rfl,-,p3⟩:=(typs_codes N 6).bwd h3;obtain ⟨rfl,p4⟩:=(lst_codes N (block_codes N) (fun x _=>x.ybs_ne)).bwd h4;exact ⟨by unfold MFunc.ybs;simp only [List.append_assoc],p1,p2,p3,p4⟩⟩
def yMod {n : Nat} (m : List (MFunc n)) : Prop := Y64 (m.length : Int) ∧ ∀ x ∈ m, x.yOk
theorem mod_codes (N : Nat) : Codes (lstD N (funcD N)) (listY (MFunc.ybs (n := 6))) yMod := lst_codes N (func_codes N) (fun x _ => x.ybs_ne)
theorem shr1 (r : Nat) : r >>> 1 = r / 2 := by rw [Nat.shiftRight_eq_div_pow]
theorem crc_poly : (3988292384 : Nat).testBit 31 = true := by decide
theorem crcBit_lt {r : Nat} {c : Bool} (h : r < 4294967296) : crcBit r c < 4294967296 := by
  unfold crcBit;refine Nat.xor_lt_two_pow (n:=32) ?_ ?_
  · rw [shr1];omega
  · cases c <;> decide
theorem crcBit_top {r j : Nat} {c : Bool} (hr : r < 4294967296) (hj : j ≤ 31) : (crcBit r c >>> j).testBit (31 - j) = c := by
  rw [Nat.testBit_shiftRight,show j+(31 - j)=31 by omega];unfold crcBit;rw [Nat.testBit_xor,Nat.testBit_shiftRight,Nat.testBit_lt_two_pow (show r<2 ^ (1+31) by omega)]
  cases c
  · simp
  · simp only [if_true,crc_poly];rfl
theorem crcBit_inj {r s j : Nat} {c d : Bool} (hr : r < 4294967296) (hs : s < 4294967296) (hj : j ≤ 31) (h : crcBit r c >>> j = crcBit s d >>> j) : c = d ∧ r >>> (j + 1) = s >>> (j + 1) := by
  have hc:c=d:=by rw [← crcBit_top (c:=c) hr hj,← crcBit_top (c:=d) hs hj,h]
  subst hc;refine ⟨rfl,?_⟩;unfold crcBit at h;rw [Nat.shiftRight_xor_distrib,Nat.shiftRight_xor_distrib,← Nat.shiftRight_add,← Nat.shiftRight_add] at h;have h2:=congrArg (· ^^^ ((if c then 3988292384 else 0) >>> j)) h;simp only [Nat.xor_assoc,Nat.xor_self,Nat.xor_zero] at h2;rwa [Nat.add_comm 1 j] at h2
theorem low_and_rest {r s : Nat} (h0 : r.testBit 0 = s.testBit 0) (h1 : r >>> 1 = s >>> 1) : r = s := by
  rw [Nat.testBit_zero,Nat.testBit_zero] at h0;rw [shr1,shr1] at h1
  have:(r % 2=1) ↔ (s % 2=1):=by
    constructor <;> intro h <;> simpa [h] using h0
  omega
theorem crcStep_lt {r : Nat} {b : Bool} (h : r < 4294967296) : crcStep r b < 4294967296 := crcBit_lt h
theorem crcBits_lt {x : Nat} : ∀ {k r : Nat}, r < 4294967296 → crcBits x k r < 4294967296
  | 0,r,h=>h
  | k+1,r,h=>crcStep_lt (crcBits_lt (k:=k) h)
theorem crcByte_lt {r : Nat} {x : UInt8} (h : r < 4294967296) : crcByte r x < 4294967296 := crcBits_lt h
theorem crcR_lt : ∀ {l : List UInt8} {r : Nat}, r < 4294967296 → crcR r l < 4294967296
  | [],r,h=>h
  | x::l,r,h=>crcR_lt (l:=l) (crcByte_lt h)
theorem crcBits_bits {x y r : Nat} (hr : r < 4294967296) : ∀ (k j : Nat), k + j ≤ 32 → crcBits x k r >>> j = crcBits y k r >>> j → ∀ i, i < k → x.testBit i = y.testBit i
  | 0,j,_,_,i,hi=>by omega
  | k+1,j,hk,h,i,hi=>by
    obtain ⟨h1,h2⟩:=crcBit_inj (crcBits_lt hr) (crcBits_lt hr) (by omega) h;have ih:=crcBits_bits hr k (j+1) (by omega) h2
    have heq:crcBits x k r=crcBits y k r:=by
      clear h1 h2 h hi
      induction k with
      | zero=>rfl
      | succ k ihk =>
        have e:crcBits x k r=crcBits y k r:=ihk (by omega) (fun i hi=>ih i (by omega));show crcStep (crcBits x k r) (x.testBit k)=crcStep (crcBits y k r) (y.testBit k);rw [e,ih k (by omega)]
    rcases Nat.lt_or_ge i k with g | g
    · exact ih i g
    · obtain rfl:i=k:=by omega
      rw [heq] at h1;revert h1
      cases x.testBit i <;> cases y.testBit i <;> cases (crcBits y i r).testBit 0 <;> simp
theorem byte_ext {x y : Nat} (hx : x < 256) (hy : y < 256) (h : ∀ i, i < 8 → x.testBit i = y.testBit i) : x = y := by
  refine Nat.eq_of_testBit_eq fun i=>?_;rcases Nat.lt_or_ge i 8 with g | g
  · exact h i g
  · have:256≤2 ^ i:=by rw [show (256:Nat)=2 ^ 8 by decide];exact Nat.pow_le_pow_right (by decide) g
    rw [Nat.testBit_lt_two_pow (by omega),Nat.testBit_lt_two_pow (by omega)]
theorem crcByte_byte {r : Nat} {x y : UInt8} (hr : r < 4294967296) (h : crcByte r x = crcByte r y) : x = y := by
  refine UInt8.toNat_inj.1 (byte_ext x.toNat_lt y.toNat_lt fun i hi=>crcBits_bits (x:=x.toNat) (y:=y.toNat) hr 8 0 (by decide) (by unfold crcByte at h;rw [h]) i hi)
theorem crcStep_inj {r s : Nat} {b : Bool} (hr : r < 4294967296) (hs : s < 4294967296) (h : crcStep r b = crcStep s b) : r = s := by
  obtain ⟨h1,h2⟩:=crcBit_inj (j:=0) hr hs (by decide) (by rw [Nat.shiftRight_zero,Nat.shiftRight_zero];exact h);refine low_and_rest ?_ h2;revert h1
  cases b <;> cases r.testBit 0 <;> cases s.testBit 0 <;> simp
theorem crcBits_inj {x r s : Nat} (hr : r < 4294967296) (hs : s < 4294967296) : ∀ {k : Nat}, crcBits x k r = crcBits x k s → r = s
  | 0,h=>h
  | k+1,h=>crcBits_inj hr hs (k:=k) (crcStep_inj (crcBits_lt hr) (crcBits_lt hs) h)
theorem crcR_inj : ∀ {l : List UInt8} {r s : Nat}, r < 4294967296 → s < 4294967296 → crcR r l = crcR s l → r = s
  | [],r,s,_,_,h=>h
  | x::l,r,s,hr,hs,h=>crcBits_inj hr hs (crcR_inj (l:=l) (crcByte_lt hr) (crcByte_lt hs) h)
theorem crcR_append (r : Nat) (a b : List UInt8) : crcR r (a ++ b) = crcR (crcR r a) b := List.foldl_append
theorem crc_torn {a c : List UInt8} {x y : UInt8} (h : crcL (a ++ x :: c) = crcL (a ++ y :: c)) : x = y := by
  have hx:=crcR_lt (l:=a++x::c) (r:=4294967295) (by decide);have hy:=crcR_lt (l:=a++y::c) (r:=4294967295) (by decide);have e:crcR 4294967295 (a++x::c)=crcR 4294967295 (a++y::c):=by unfold crcL at h;omega
  rw [crcR_append,crcR_append] at e;have ha:=crcR_lt (l:=a) (r:=4294967295) (by decide);exact crcByte_byte ha (crcR_inj (l:=c) (crcByte_lt ha) (crcByte_lt ha) e)
theorem crcL_lt (l : List UInt8) : crcL l < 4294967296 := by unfold crcL; omega
theorem sumY_inj {s t : Nat} (hs : s < 4294967296) (ht : t < 4294967296) (h : sumY s = sumY t) : s = t := by
  unfold sumY at h;simp only [List.cons.injEq,and_true] at h;obtain ⟨h0,h1,h2,h3⟩:=h
  have f:∀ {a b:Nat},UInt8.ofNat a=UInt8.ofNat b→a % 256=b % 256:=fun h=>by
    have:=congrArg UInt8.toNat h
    rwa [UInt8.toNat_ofNat',UInt8.toNat_ofNat'] at this
  have:=f h0;have:=f h1;have:=f h2;have:=f h3
  omega
def blB (c : UInt8) : Bool := c.toNat == 32 || c.toNat == 9 || c.toNat == 13 || c.toNat == 10
def letB (c : UInt8) : Bool := decide (97 ≤ c.toNat) && decide (c.toNat ≤ 122)
def digB (c : UInt8) : Bool := decide (48 ≤ c.toNat) && decide (c.toNat ≤ 57)
def sigB (c : UInt8) : Bool := ([40, 41, 123, 125, 60, 62, 44, 59] : List Nat).contains c.toNat
def pre (p : UInt8 → Bool) : List UInt8 → Nat
  | []=>0
  | c::l=>if p c then pre p l+1 else 0
theorem pre_le (p : UInt8 → Bool) : ∀ l, pre p l ≤ l.length
  | []=>Nat.le_refl _
  | c::l=>by
    have:=pre_le p l
    simp only [pre,List.length_cons];split <;> omega
theorem pre_yes {p : UInt8 → Bool} {c : UInt8} {l : List UInt8} (h : p c = true) : pre p (c :: l) = pre p l + 1 := by simp [pre, h]
def blk : Bool → List UInt8 → Nat
  | _,[]=>0
  | false,c::l=>if blB c then blk false l+1 else if c.toNat=35 then blk true l+1 else 0
  | true,c::l=>if c.toNat=10 then blk false l+1 else blk true l+1
theorem blk_blank {c : UInt8} {l : List UInt8} (h : blB c = true) : blk false (c :: l) = blk false l + 1 := by simp [blk, h]
theorem blk_none {c : UInt8} {l : List UInt8} (h1 : blB c = false) (h2 : c.toNat ≠ 35) : blk false (c :: l) = 0 := by simp [blk, h1, h2]
structure Tk where
  pos:Nat
  text:List UInt8
  num:Bool
  n:Int
  deriving DecidableEq
def numOf (l : List UInt8) : Option Int :=
  match Lib.parseIntB 64 l with
  | .ok v=>if Lib.itoa v=l then some v else none
  | .syntax=>none
  | .range=>none
def tokLen : List UInt8 → Nat × Bool
  | []=>(0,false)
  | c::l =>
    if letB c then (pre letB (c::l),false)
    else if sigB c then (1,false)
    else if c.toNat=45∧l.head?.any (fun d=>d.toNat==62)=true then (2,false)
    else if digB c=true∨(c.toNat=45∧l.head?.any digB=true) then (pre digB l+1,true)
    else (0,false)
inductive TkR where
  | bad (code:Nat)
  | ok (len:Nat) (num:Bool) (n:Int)
  deriving DecidableEq
def tok (l : List UInt8) : TkR :=
  if (tokLen l).1=0 then .bad 6
  else if (tokLen l).2 then
    match numOf (l.take (tokLen l).1) with
    | some v=>.ok (tokLen l).1 true v
    | none=>.bad 8
  else .ok (tokLen l).1 false 0
inductive Sc where
  | fault (code at_:Nat)
  | ok (l:List Tk)
  deriving DecidableEq
def Sc.app (acc : List Tk) : Sc → Sc
  | .fault c a=>.fault c a
  | .ok l=>.ok (acc++l)
def scanF : Nat → Nat → List UInt8 → Sc
  | 0,_,_=>.ok []
  | f+1,pos,l =>
    if l=[] then .ok []
    else match tok l with
      | .bad c=>.fault c pos
      | .ok k b n=>(scanF f (pos+k+blk false (l.drop k)) ((l.drop k).drop (blk false (l.drop k)))).app [⟨pos,l.take k,b,n⟩]
theorem tokLen_le (l : List UInt8) : (tokLen l).1 ≤ l.length := by
  cases l with
  | nil=>simp [tokLen]
  | cons c l =>
    have h1:=pre_le letB (c::l);have h2:=pre_le digB l;simp only [tokLen];split
    · exact h1
    · split
      · simp
      · split
        · rename_i h
          cases l with
          | nil=>simp at h
          | cons d l=>simp
        · split
          · simpa using h2
          · simp
theorem tok_pos {l : List UInt8} {k : Nat} {b : Bool} {n : Int} (h : tok l = .ok k b n) : 1 ≤ k ∧ k ≤ l.length ∧ k = (tokLen l).1 := by
  have h0:=tokLen_le l;unfold tok at h;split at h
  · cases h
  · split at h
    · split at h
      · injection h;omega
      · cases h
    · injection h;omega
theorem tok_head {c : UInt8} {l : List UInt8} {k : Nat} {b : Bool} {n : Int} (h : tok (c :: l) = .ok k b n) : blB c = false ∧ c.toNat ≠ 35 := by
  have hne:(tokLen (c::l)).1≠0:=by have:=tok_pos h;omega
  have hx:¬ (c.toNat=32∨c.toNat=9∨c.toNat=13∨c.toNat=10∨c.toNat=35):=by
    intro hx;apply hne
    have h1:letB c=false:=by simp [letB];omega
    have h2:sigB c=false:=by simp [sigB];omega
    have h3:digB c=false:=by simp [digB];omega
    have h4:c.toNat≠45:=by omega
    simp [tokLen,h1,h2,h3,h4]
  refine ⟨?_,by omega⟩;simp [blB];omega
def Tk.good (t : Tk) : Prop := ∃ l, tok l = .ok t.text.length t.num t.n ∧ t.text = l.take t.text.length
abbrev PR (α : Type) := Except (Nat × Nat) (α × Nat)
def PR.andThen {α β : Type} (x : PR α) (f : α → Nat → PR β) : PR β :=
  match x with
  | .error e=>.error e
  | .ok (a,p)=>f a p
theorem PR.andThen_ok {α β : Type} {x : PR α} {f : α → Nat → PR β} {b : β} {q : Nat} (h : x.andThen f = .ok (b, q)) : ∃ a p, x = .ok (a, p) ∧ f a p = .ok (b, q) := by
  unfold PR.andThen at h;split at h
  · cases h
  · exact ⟨_,_,rfl,h⟩
theorem PR.ok_andThen {α β : Type} {f : α → Nat → PR β} {a : α} {p : Nat} : PR.andThen (.ok (a, p)) f = f a p := rfl
def opWords : List (List UInt8) := [[110, 117, 109], [98, 105, 110], [110, 101, 119], [102, 114, 101, 101], [116, 117, 112, 108, 101], [103, 101, 116], [115, 101, 116], [97, 114, 114, 97, 121], [108, 111, 97, 100], [115, 116, 111, 114, 101], [108, 101, 110], [105, 110], [111, 117, 116], [99, 97, 108, 108]]
def kindWords : List (List UInt8) := [[97, 100, 100], [115, 117, 98], [109, 117, 108], [100, 105, 118], [109, 111, 100], [108, 101, 115, 115], [101, 113], [97, 110, 100], [120, 111, 114]]
def wordAt (l : List (List UInt8)) (k : Int) : List UInt8 := if k < 1 then [] else l.getD (k.toNat - 1) []
def wInt : List UInt8 := [105, 110, 116]
def wHandle : List UInt8 := [104, 97, 110, 100, 108, 101]
def wArray : List UInt8 := [97, 114, 114, 97, 121]
def wTuple : List UInt8 := [116, 117, 112, 108, 101]
def wJump : List UInt8 := [106, 117, 109, 112]
def wIf : List UInt8 := [105, 102]
def wTo : List UInt8 := [116, 111]
def wElse : List UInt8 := [101, 108, 115, 101]
def wRet : List UInt8 := [114, 101, 116]
def wFunc : List UInt8 := [102, 117, 110, 99]
def wBlock : List UInt8 := [98, 108, 111, 99, 107]
def sArrow : List UInt8 := [45, 62]
section
variable (l : List Tk) (e : Nat)
def wrongAt (c p : Nat) : Nat × Nat :=
  match l[p]? with
  | some t=>(c,t.pos)
  | none=>if c=4 then (5,e) else (c,e)
def isW (s : List UInt8) (p : Nat) : Bool :=
  match l[p]? with
  | some t=>!t.num && decide (t.text=s)
  | none=>false
def mustP (s : List UInt8) (p : Nat) : PR Unit := if isW l s p then .ok ((), p + 1) else .error (wrongAt l e 4 p)
def longP (p : Nat) : PR Int :=
  match l[p]? with
  | some t=>if t.num then .ok (t.n,p+1) else .error (wrongAt l e 4 p)
  | none=>.error (wrongAt l e 4 p)
def numP (p : Nat) : PR Int :=
  match l[p]? with
  | some t=>if t.num=true∧(t.n<0∨1000000<t.n) then .error (wrongAt l e 8 p) else longP l e p
  | none=>longP l e p
def lstP {α : Type} (item : Nat → PR α) (fin : List UInt8) : Nat → Nat → Nat → PR (List α)
  | 0,n,p=>.error (wrongAt l e 2 p)
  | f+1,n,p =>
    if 100<n then .error (wrongAt l e 2 p)
    else if isW l fin p then .ok ([],p)
    else PR.andThen (if 0<n then mustP l e [44] p else .ok ((),p)) fun _ p1=>PR.andThen (item p1) fun x p2=>PR.andThen (lstP item fin f (n+1) p2) fun xs p3=>.ok (x::xs,p3)
def inP {α : Type} (item : Nat → PR α) (beg fin : List UInt8) (p : Nat) : PR (List α) :=
  PR.andThen (mustP l e beg p) fun _ p1=>PR.andThen (lstP l e item fin 102 0 p1) fun xs p2=>PR.andThen (mustP l e fin p2) fun _ p3=>.ok (xs,p3)
def argsP (p : Nat) : PR (List Int) := inP l e (numP l e) [40] [41] p
def regsP (p : Nat) : PR (List Int) := inP l e (numP l e) [60] [62] p
def typP : (d : Nat) → Nat → PR (TT (d + 1))
  | 0,p=>.error (wrongAt l e 19 p)
  | d+1,p =>
    if isW l wInt p then .ok ((1,0,[]),p+1)
    else if isW l wHandle p then PR.andThen (numP l e (p+1)) fun r q=>.ok ((2,r,[]),q)
    else if isW l wArray p then PR.andThen (numP l e (p+1)) fun r q=>.ok ((4,r,[]),q)
    else PR.andThen (mustP l e wTuple p) fun _ p1=>PR.andThen (numP l e p1) fun r p2=>PR.andThen (inP l e (typP d) [40] [41] p2) fun ts p3=>.ok ((3,r,ts),p3)
def typesP (p : Nat) : PR (List (TT 6)) := inP l e (typP l e 5) [40] [41] p
def whichP (ws : List (List UInt8)) (p : Nat) : Nat := if ws.any (fun s => isW l s p) then ws.findIdx (fun s => isW l s p) + 1 else 0
def insFields (op : Nat) (p : Nat) : PR MIns :=
  if op=1 then PR.andThen (longP l e p) fun n q=>.ok (⟨1,0,0,0,0,n,[],[]⟩,q)
  else if op=2 then
    (if whichP l kindWords p=0 then .error (wrongAt l e 4 p)
     else PR.andThen (numP l e (p+1)) fun a p1=>PR.andThen (numP l e p1) fun b p2=>.ok (⟨2,a,b,0,(whichP l kindWords p:Nat),0,[],[]⟩,p2))
  else if op=5 then PR.andThen (numP l e p) fun a p1=>PR.andThen (argsP l e p1) fun x p2=>.ok (⟨5,a,0,0,0,0,[],x⟩,p2)
  else if op=6 then PR.andThen (numP l e p) fun a p1=>PR.andThen (numP l e p1) fun k p2=>.ok (⟨6,a,0,0,k,0,[],[]⟩,p2)
  else if op=7 then PR.andThen (numP l e p) fun a p1=>PR.andThen (numP l e p1) fun k p2=>PR.andThen (numP l e p2) fun b p3=>.ok (⟨7,a,b,0,k,0,[],[]⟩,p3)
  else if op=14 then PR.andThen (numP l e p) fun k p1=>PR.andThen (regsP l e p1) fun x p2=>PR.andThen (argsP l e p2) fun y p3=>.ok (⟨14,0,0,0,k,0,x,y⟩,p3)
  else if op=4∨op=11∨op=13 then PR.andThen (numP l e p) fun a p1=>.ok (⟨op,a,0,0,0,0,[],[]⟩,p1)
  else if op=8∨op=9 then PR.andThen (numP l e p) fun a p1=>PR.andThen (numP l e p1) fun b p2=>.ok (⟨op,a,b,0,0,0,[],[]⟩,p2)
  else if op=10 then PR.andThen (numP l e p) fun a p1=>PR.andThen (numP l e p1) fun b p2=>PR.andThen (numP l e p2) fun c p3=>.ok (⟨10,a,b,c,0,0,[],[]⟩,p3)
  else .ok (⟨op,0,0,0,0,0,[],[]⟩,p)
def insP (op : Nat) (p : Nat) : PR MIns := PR.andThen (insFields l e op p) fun x p1 => PR.andThen (mustP l e [59] p1) fun _ p2 => .ok (x, p2)
def toP (p : Nat) : PR MTo := PR.andThen (numP l e p) fun b p1 => PR.andThen (regsP l e p1) fun x p2 => PR.andThen (argsP l e p2) fun y p3 => .ok (⟨b, x, y⟩, p3)
def noTo : MTo := ⟨0, [], []⟩
def endsP (p : Nat) : PR MEnd :=
  PR.andThen
    (if isW l wJump p then PR.andThen (toP l e (p+1)) fun t q=>.ok (⟨1,0,t,noTo,[]⟩,q)
     else if isW l wIf p then PR.andThen (numP l e (p+1)) fun a p1=>PR.andThen (mustP l e wTo p1) fun _ p2=>PR.andThen (toP l e p2) fun t p3=>PR.andThen (mustP l e wElse p3) fun _ p4=>PR.andThen (toP l e p4) fun u p5=>.ok (⟨2,a,t,u,[]⟩,p5)
     else PR.andThen (mustP l e wRet p) fun _ p1=>PR.andThen (argsP l e p1) fun x p2=>.ok (⟨3,0,noTo,noTo,x⟩,p2))
    fun x p1=>PR.andThen (mustP l e [59] p1) fun _ p2=>.ok (x,p2)
def codeP : Nat → Nat → PR (List MIns × MEnd)
  | 0,p=>.error (wrongAt l e 4 p)
  | f+1,p =>
    if whichP l opWords p=0 then PR.andThen (endsP l e p) fun x q=>.ok (([],x),q)
    else PR.andThen (insP l e (whichP l opWords p) (p+1)) fun x p1=>PR.andThen (codeP f p1) fun y p2=>.ok ((x::y.1,y.2),p2)
def blockP (p : Nat) : PR (MBlock 6) :=
  PR.andThen (numP l e p) fun r p1=>PR.andThen (typesP l e p1) fun ts p2=>PR.andThen (mustP l e [123] p2) fun _ p3=>PR.andThen (codeP l e (l.length+1) p3) fun c p4=>PR.andThen (mustP l e [125] p4) fun _ p5=>.ok (⟨r,ts,c.1,c.2⟩,p5)
def blocksP : Nat → Nat → PR (List (MBlock 6))
  | 0,p=>.error (wrongAt l e 4 p)
  | f+1,p =>
    if isW l wBlock p then PR.andThen (blockP l e (p+1)) fun b p1=>PR.andThen (blocksP f p1) fun bs p2=>.ok (b::bs,p2)
    else PR.andThen (mustP l e [125] p) fun _ q=>.ok ([],q)
def funcP (p : Nat) : PR (MFunc 6) :=
  PR.andThen (mustP l e wFunc p) fun _ p0=>PR.andThen (numP l e p0) fun r p1=>PR.andThen (typesP l e p1) fun ts p2=>PR.andThen (mustP l e sArrow p2) fun _ p3=>PR.andThen (typesP l e p3) fun us p4=>PR.andThen (mustP l e [123] p4) fun _ p5=>PR.andThen (blocksP l e (l.length+1) p5) fun bs p6=>.ok (⟨r,ts,us,bs⟩,p6)
end
end Go.Proofs.YtjdcjfpfpaplladGreat
namespace Go.Proofs.YtjdcjfpfpaplladGreat
set_option linter.unusedVariables false
def catL : List (List UInt8) → List UInt8
  | []=>[]
  | x::xs=>x++xs.flatMap (fun y=>[44,32]++y)
def TT.txt : {n : Nat} → TT n → List UInt8
  | 0,t=>Empty.elim t
  | n+1,t =>
    if t.1=2 then [104,97,110,100,108,101,32]++Lib.itoa t.2.1
    else if t.1=4 then [97,114,114,97,121,32]++Lib.itoa t.2.1
    else if t.1=3 then [116,117,112,108,101,32]++Lib.itoa t.2.1++[32,40]++catL (t.2.2.map (TT.txt (n:=n)))++[41]
    else [105,110,116]
end Go.Proofs.YtjdcjfpfpaplladGreat
namespace Go.Proofs.YtjdcjfpfpaplladGreat
set_option linter.unusedSimpArgs false
set_option linter.unusedVariables false
def numB (n : Int) : Bool := decide (0 ≤ n) && decide (n ≤ 1000000)
def MIns.nums (x : MIns) : Bool := [x.a, x.b, x.c, x.k].all numB && (x.regs.all numB && x.args.all numB)
def MTo.nums (x : MTo) : Bool := x.regs.all numB && x.args.all numB
def MEnd.nums (x : MEnd) : Bool := [x.a].all numB && (x.args.all numB && (x.yes.nums && x.no.nums))
def MBlock.nums {n : Nat} (x : MBlock n) : Bool := x.code.all MIns.nums && x.fin.nums
def MFunc.nums {n : Nat} (x : MFunc n) : Bool := x.blocks.all MBlock.nums
def intsT (b f : UInt8) (l : List Int) : List UInt8 := b :: (catL (l.map Lib.itoa) ++ [f])
def typsT {n : Nat} (l : List (TT n)) : List UInt8 := 40 :: (catL (l.map TT.txt) ++ [41])
def nT (k : Int) : List UInt8 := 32 :: Lib.itoa k
def MTo.txt (t : MTo) : List UInt8 := Lib.itoa t.block ++ (32 :: intsT 60 62 t.regs ++ 32 :: intsT 40 41 t.args)
def MIns.rest (x : MIns) : List UInt8 :=
  if x.op=1 then nT x.n
  else if x.op=2 then 32::wordAt kindWords x.k++(nT x.a++nT x.b)
  else if x.op=5 then nT x.a++32::intsT 40 41 x.args
  else if x.op=6 then nT x.a++nT x.k
  else if x.op=7 then nT x.a++(nT x.k++nT x.b)
  else if x.op=14 then nT x.k++(32::intsT 60 62 x.regs++32::intsT 40 41 x.args)
  else if x.op=4∨x.op=11∨x.op=13 then nT x.a
  else if x.op=8∨x.op=9 then nT x.a++nT x.b
  else if x.op=10 then nT x.a++(nT x.b++nT x.c)
  else []
def MIns.txt (x : MIns) : List UInt8 := wordAt opWords x.op ++ x.rest
def MEnd.txt (e : MEnd) : List UInt8 :=
  if e.op=1 then wJump++32::e.yes.txt
  else if e.op=2 then wIf++(nT e.a++32::(wTo++32::(e.yes.txt++32::(wElse++32::e.no.txt))))
  else wRet++32::intsT 40 41 e.args
def lineT (s : List UInt8) : List UInt8 := 9 :: (s ++ [59, 10])
def codeT (l : List MIns) : List UInt8 := l.flatMap fun x => lineT x.txt
def MBlock.head {n : Nat} (x : MBlock n) : List UInt8 := wBlock ++ (nT x.regs ++ 32 :: (typsT x.params ++ [32, 123, 10]))
def MBlock.txt {n : Nat} (x : MBlock n) : List UInt8 := x.head ++ (codeT x.code ++ (lineT x.fin.txt ++ [125, 10]))
def MFunc.head {n : Nat} (x : MFunc n) : List UInt8 := wFunc ++ (nT x.regs ++ 32 :: (typsT x.params ++ 32 :: 45 :: 62 :: 32 :: (typsT x.results ++ [32, 123, 10])))
def blocksT {n : Nat} (l : List (MBlock n)) : List UInt8 := l.flatMap MBlock.txt
def MFunc.txt {n : Nat} (x : MFunc n) : List UInt8 := x.head ++ (blocksT x.blocks ++ [125, 10])
abbrev N64 (v : Int) : Prop := -9223372036854775808 ≤ v ∧ v ≤ 9223372036854775807
def tsOk {n : Nat} (l : List (TT n)) : Prop := l.length ≤ 8 ∧ ∀ t ∈ l, ∃ regs : Int, regs ≤ 16 ∧ t.check regs = 0
structure MBlock.fine {n : Nat} (x : MBlock n) (funcs : Nat) : Prop where
  regs:0≤x.regs∧x.regs≤16
  params:tsOk x.params
  code:∀ y∈x.code,y.form funcs=0
  fin:∃ nb,nb≤12∧x.fin.form nb=0
structure MFunc.fine {n : Nat} (x : MFunc n) (funcs : Nat) : Prop where
  regs:0≤x.regs∧x.regs≤6
  params:tsOk x.params
  results:tsOk x.results
  blocks:∀ y∈x.blocks,y.fine funcs
theorem firstF_all {α : Type} {f : Nat → α → Int × Int} : ∀ {l : List α} {j : Nat}, (firstF f j l).1 = 0 → ∀ (i : Nat) x, l[i]? = some x → (f (j + i) x).1 = 0
  | [],j,h,i,x,hx=>by simp at hx
  | y::l,j,h,i,x,hx=>by
    rw [firstF] at h;by_cases h0:(f j y).1=0
    · rw [if_neg (by simpa using h0)] at h
      cases i with
      | zero=>simp at hx;subst hx;exact h0
      | succ i =>
        have:=firstF_all h i x (by simpa using hx)
        rwa [show j+1+i=j+(i+1) by omega] at this
    · rw [if_pos h0] at h;exact absurd h h0
theorem ts_of {n : Nat} {regs : Int} {l : List (TT n)} (hr : regs ≤ 16) (h : listC regs l = 0) : tsOk l := by
  unfold listC at h;split at h
  · cases h
  · exact ⟨by omega,fun t ht=>⟨regs,hr,firstL_zero_iff.1 h t ht⟩⟩
theorem block_of {n funcs f b : Nat} {fn : MFunc n} {x : MBlock n} (h0 : 0 ≤ fn.regs) (hb : fn.blocks.length ≤ 12) (h : (MBlock.fault funcs f fn b x).1 = 0) : x.fine funcs := by
  unfold MBlock.fault at h;split at h
  · cases h
  rename_i h1
  split at h
  · rename_i h2;exact absurd h h2
  rename_i h2
  split at h
  · cases h
  split at h
  · cases h
  split at h
  · rename_i h5;exact absurd h h5
  rename_i h5
  split at h
  · rename_i h6;exact absurd h h6
  rename_i h6
  refine ⟨by omega,ts_of (by omega) (Decidable.not_not.1 h2),fun y hy=>?_,_,hb,Decidable.not_not.1 h6⟩;obtain ⟨i,hi⟩:=List.getElem?_of_mem hy;exact firstF_all (Decidable.not_not.1 h5) i y hi
theorem func_of {n funcs f : Nat} {x : MFunc n} (h : (MFunc.fault funcs f x).1 = 0) : x.fine funcs := by
  unfold MFunc.fault at h;split at h
  · cases h
  rename_i h1
  split at h
  · rename_i h2;exact absurd h h2
  rename_i h2
  split at h
  · rename_i h3;exact absurd h h3
  rename_i h3
  split at h
  · cases h
  rename_i h4
  split at h
  · cases h
  refine ⟨by omega,ts_of (by omega) (Decidable.not_not.1 h2),ts_of (by omega) (Decidable.not_not.1 h3),fun y hy=>?_⟩;obtain ⟨i,hi⟩:=List.getElem?_of_mem hy;exact block_of (by omega) (by omega) (firstF_all h i y hi)
theorem mod_of {n : Nat} {m : List (MFunc n)} (h : (modFault m).1 = 0) : ∀ x ∈ m, x.fine m.length := by
  unfold modFault at h;split at h
  · cases h
  intro x hx;obtain ⟨i,hi⟩:=List.getElem?_of_mem hx;exact func_of (firstF_all h i x hi)
theorem form_zero {funcs : Nat} {x : MIns} (h : x.form funcs = 0) : (fieldsOf x.op).isNone = false ∧ x.formless = false ∧ (x.op = 2 → 1 ≤ x.k ∧ x.k ≤ 9) ∧ (x.args.length ≤ 8 ∨ x.op ≠ 5 ∧ x.op ≠ 14) ∧ (x.op = 14 → x.regs.length ≤ 6) := by
  unfold MIns.form at h;split at h
  · cases h
  split at h
  · cases h
  split at h
  · cases h
  split at h
  · cases h
  split at h
  · cases h
  split at h
  · cases h
  split at h
  · cases h
  rename_i h1 h2 h3 h4 h5 h6 h7
  refine ⟨Bool.eq_false_iff.2 h1,Bool.eq_false_iff.2 h2,by omega,by omega,by omega⟩
theorem end_zero {nb : Nat} {e : MEnd} (hb : nb ≤ 12) (h : e.form nb = 0) : (e.op = 1 ∨ e.op = 2 ∨ e.op = 3) ∧ (e.op ≠ 2 → e.a = 0) ∧ (e.op ≠ 3 → e.args = []) ∧ e.args.length ≤ 8 ∧ e.yes.form nb (decide (e.op ≠ 3)) = 0 ∧ e.no.form nb (decide (e.op = 2)) = 0 := by
  unfold MEnd.form at h;split at h
  · cases h
  split at h
  · cases h
  split at h
  · cases h
  split at h
  · rename_i h1;exact absurd h h1
  rename_i h1 h2 h3 h4
  refine ⟨by omega,by omega,fun hh=>List.length_eq_zero_iff.1 (by omega),by omega,Decidable.not_not.1 h4,h⟩
theorem own_zero {k r regs : Int} {len : Nat} (hr : regs ≤ 16) (h : ownC k r len regs = 0) : (k = 1 ∨ k = 2 ∨ k = 3 ∨ k = 4) ∧ (k = 1 → r = 0) ∧ (k ≠ 3 → len = 0) ∧ len ≤ 8 ∧ 0 ≤ r ∧ r ≤ 16 := by
  unfold ownC at h;split at h
  · cases h
  split at h
  · cases h
  split at h
  · cases h
  split at h
  · cases h
  split at h
  · cases h
  omega
theorem check_fault {n : Nat} {t : TT n} {regs : Int} (h : t.check regs = 0) : t.height ≤ 4 ∧ t.fault regs = 0 := by
  unfold TT.check at h;split at h
  · cases h
  · exact ⟨by omega,h⟩
theorem ropcases {op : Int} (h : (fieldsOf op).isNone = false) : op = 1 ∨ op = 2 ∨ op = 3 ∨ op = 4 ∨ op = 5 ∨ op = 6 ∨ op = 7 ∨ op = 8 ∨ op = 9 ∨ op = 10 ∨ op = 11 ∨ op = 12 ∨ op = 13 ∨ op = 14 := by
  unfold fieldsOf at h;repeat' split at h
  all_goals first | omega | cases h
theorem sumY_len (s : Nat) : (sumY s).length = 4 := rfl
theorem modY_len {n : Nat} (m : List (MFunc n)) : 4 ≤ (modY m).length := by
  have:=List.length_pos_iff.2 (numY_ne (m.length:Int))
  unfold modY listY;simp only [List.length_append,List.length_cons,List.length_nil];omega
end Go.Proofs.YtjdcjfpfpaplladGreat
namespace Go.Proofs.YtjdcjfpfpaplladGreat
set_option linter.unusedVariables false
def MTo.small (x : MTo) : Prop := x.regs.length ≤ 100000 ∧ x.args.length ≤ 100000
def MIns.small (x : MIns) : Prop := x.regs.length ≤ 100000 ∧ x.args.length ≤ 100000
def MEnd.small (x : MEnd) : Prop := x.yes.small ∧ x.no.small ∧ x.args.length ≤ 100000
def tsmall {n : Nat} (l : List (TT n)) : Prop := l.length ≤ 100000 ∧ ∀ t ∈ l, t.count ≤ 100000
def MBlock.small {n : Nat} (x : MBlock n) : Prop := x.code.length ≤ 100000 ∧ tsmall x.params ∧ x.fin.small ∧ ∀ y ∈ x.code, y.small
def MFunc.small {n : Nat} (x : MFunc n) : Prop := x.blocks.length ≤ 100000 ∧ tsmall x.params ∧ tsmall x.results ∧ ∀ y ∈ x.blocks, y.small
def msmall {n : Nat} (m : List (MFunc n)) : Prop := m.length ≤ 100000 ∧ ∀ x ∈ m, x.small
theorem tsmall_of {n : Nat} {l : List (TT n)} (h : ¬ greatTs l) : tsmall l := ⟨Nat.le_trans (Nat.le_of_not_lt fun x => h (.inl x)) (by decide), fun t ht => Nat.le_trans (Nat.le_of_not_lt fun x => h (.inr ⟨t, ht, x⟩)) (by decide)⟩
theorem MBlock.small_of {n : Nat} {x : MBlock n} (h : ¬ x.great) : x.small := by
  unfold MBlock.great at h;simp only [not_or,not_exists,not_and,Nat.not_lt] at h;obtain ⟨h1,h2,h3,h4,h5,h6,h7,h8⟩:=h;exact ⟨Nat.le_trans h1 (by decide),tsmall_of h2,⟨⟨Nat.le_trans h4 (by decide),Nat.le_trans h5 (by decide)⟩,⟨Nat.le_trans h6 (by decide),Nat.le_trans h7 (by decide)⟩,Nat.le_trans h3 (by decide)⟩,fun y hy=>⟨Nat.le_trans (h8 y hy).1 (by decide),Nat.le_trans (h8 y hy).2 (by decide)⟩⟩
theorem MFunc.small_of {n : Nat} {x : MFunc n} (h : ¬ x.great) : x.small := by
  unfold MFunc.great at h;simp only [not_or,not_exists,not_and,Nat.not_lt] at h;obtain ⟨h1,h2,h3,h4⟩:=h;exact ⟨Nat.le_trans h1 (by decide),tsmall_of h2,tsmall_of h3,fun y hy=>MBlock.small_of (h4 y hy)⟩
theorem msmall_of {n : Nat} {m : List (MFunc n)} (h : ¬ greatMod m) : msmall m := by
  unfold greatMod at h;simp only [not_or,not_exists,not_and,Nat.not_lt] at h;exact ⟨Nat.le_trans h.1 (by decide),fun x hx=>MFunc.small_of (h.2 x hx)⟩
end Go.Proofs.YtjdcjfpfpaplladGreat
namespace Go.Proofs.YtjdcjfpfpaplladGreat
set_option linter.unusedSimpArgs false
set_option linter.unusedVariables false
theorem yflat_le {α : Type} {e : α → List UInt8} {x : α} : ∀ {l : List α}, x ∈ l → (e x).length ≤ (l.flatMap e).length
  | y::l,h=>by
    rw [List.flatMap_cons,List.length_append];rcases List.mem_cons.1 h with rfl | h
    · omega
    · have:=yflat_le (e:=e) h;omega
theorem flat_many {α : Type} {e : α → List UInt8} (he : ∀ x, e x ≠ []) : ∀ (l : List α), l.length ≤ (l.flatMap e).length
  | []=>by simp
  | x::l=>by
    rw [List.flatMap_cons,List.length_append,List.length_cons];have h1:=flat_many he l;have h2:=List.length_pos_iff.2 (he x);omega
theorem listY_many {α : Type} {e : α → List UInt8} (he : ∀ x, e x ≠ []) (l : List α) : l.length ≤ (listY e l).length := by
  rw [listY,List.length_append]
  have:=flat_many he l
  omega
theorem listY_le {α : Type} {e : α → List UInt8} {x : α} {l : List α} (h : x ∈ l) : (e x).length ≤ (listY e l).length := by
  rw [listY,List.length_append]
  have:=yflat_le (e:=e) h
  omega
theorem sum_le {α : Type} {f : α → Nat} {e : α → List UInt8} : ∀ {l : List α}, (∀ x ∈ l, f x ≤ (e x).length) → (l.map f).sum ≤ (l.flatMap e).length
  | [],_=>by simp
  | x::l,h=>by
    rw [List.map_cons,List.sum_cons,List.flatMap_cons,List.length_append];have h1:=h x (by simp);have h2:=sum_le (l:=l) (fun y hy=>h y (by simp [hy]));omega
theorem TT.count_le : {n : Nat} → {t : TT n} → t.yOk → t.count ≤ t.ybs.length
  | 0,t,_=>Empty.elim t
  | n+1,t,h=>by
    obtain ⟨_,_,_,h4,h5⟩:=h;have hk:=List.length_pos_iff.2 (numY_ne t.1);rw [TT.count,TT.ybs];by_cases h3:t.1=3
    · obtain ⟨_,_,h6⟩:=h5 h3;rw [if_pos h3]
      have:=sum_le (f:=TT.count (n:=n)) (e:=TT.ybs (n:=n)) (l:=t.2.2) (fun x hx=>TT.count_le (h6 x hx))
      simp only [List.length_append];omega
    · rw [h4 h3];simp only [List.length_append,List.map_nil,List.sum_nil];omega
section
variable {n : Nat} {M : Nat}
theorem yts_small {l : List (TT n)} (h : yTyps l) (hl : (listY TT.ybs l).length ≤ 100000) : tsmall l :=
  ⟨Nat.le_trans (listY_many TT.ybs_ne l) hl,fun t ht=>Nat.le_trans (TT.count_le (h.2 t ht)) (Nat.le_trans (listY_le ht) hl)⟩
theorem yints_small {l : List Int} (hl : (listY numY l).length ≤ 100000) : l.length ≤ 100000 := Nat.le_trans (listY_many numY_ne l) hl
theorem yto_small {t : MTo} (hl : t.ybs.length ≤ 100000) : t.small := by
  unfold MTo.ybs at hl;simp only [List.length_append] at hl;exact ⟨yints_small (by omega),yints_small (by omega)⟩
theorem zto_small : zTo.small := ⟨by decide, by decide⟩
theorem yend_small {e : MEnd} (h : e.yOk) (hl : e.ybs.length ≤ 100000) : e.small := by
  unfold MEnd.ybs at hl;rcases h.2 with ⟨h1,_,he⟩ | ⟨h1,_,_,_,he⟩ | ⟨h1,_,he⟩ | ⟨h1,h2,h3,he⟩
  · rw [if_pos h1] at hl;simp only [List.length_append] at hl;rw [he];exact ⟨yto_small (t:=e.yes) (by omega),zto_small,Nat.zero_le _⟩
  · rw [if_neg (by omega),if_pos h1] at hl;simp only [List.length_append] at hl;rw [he];exact ⟨yto_small (t:=e.yes) (by omega),yto_small (t:=e.no) (by omega),Nat.zero_le _⟩
  · rw [if_neg (by omega),if_neg (by omega),if_pos h1] at hl;simp only [List.length_append] at hl;rw [he];exact ⟨zto_small,zto_small,yints_small (l:=e.args) (by omega)⟩
  · rw [he];exact ⟨zto_small,zto_small,Nat.zero_le _⟩
theorem opt_small {b : Bool} {l : List Int} (h0 : b = false → l = []) (hl : (optY b (listY numY l)).length ≤ 100000) : l.length ≤ 100000 := by
  cases b with
  | false=>rw [h0 rfl];exact Nat.zero_le _
  | true=>exact yints_small hl
theorem yins_small {x : MIns} (h : x.yOk) (hl : x.ybs.length ≤ 100000) : x.small := by
  obtain ⟨_,h⟩:=h;unfold MIns.ybs at hl;split at h
  · rw [h];exact ⟨Nat.zero_le _,Nat.zero_le _⟩
  · rename_i a b c k n rg ar hf
    rw [hf] at hl;simp only [List.length_append] at hl;obtain ⟨_,_,_,_,_,h6,h7⟩:=h;exact ⟨opt_small h6.2 (by omega),opt_small h7.2 (by omega)⟩
theorem yblock_small {x : MBlock n} (h : x.yOk) (hl : x.ybs.length ≤ 100000) : x.small := by
  unfold MBlock.ybs at hl;simp only [List.length_append] at hl;obtain ⟨_,h2,h3,h4⟩:=h;refine ⟨?_,yts_small h2 (by omega),yend_small h4 (by omega),fun y hy=>yins_small (h3.2 y hy) ?_⟩
  · have:=listY_many MIns.ybs_ne x.code;omega
  · have:=listY_le (e:=MIns.ybs) hy;omega
theorem yfunc_small {x : MFunc n} (h : x.yOk) (hl : x.ybs.length ≤ 100000) : x.small := by
  unfold MFunc.ybs at hl;simp only [List.length_append] at hl;obtain ⟨_,h2,h3,h4⟩:=h;refine ⟨?_,yts_small h2 (by omega),yts_small h3 (by omega),fun y hy=>yblock_small (h4.2 y hy) ?_⟩
  · have:=listY_many (MBlock.ybs_ne (n:=n)) x.blocks;omega
  · have:=listY_le (e:=MBlock.ybs (n:=n)) hy;omega
theorem ymod_small {m : List (MFunc n)} (h : yMod m) (hl : (listY MFunc.ybs m).length ≤ 100000) : msmall m :=
  ⟨Nat.le_trans (listY_many MFunc.ybs_ne m) hl,fun x hx=>yfunc_small (h.2 x hx) (Nat.le_trans (listY_le hx) hl)⟩
end
theorem read_small {N : Nat} {l r : List UInt8} {m : List (MFunc 6)} (h : lstD N (funcD N) l = .ok (m, r)) (hl : l.length ≤ 20000) : msmall m := by
  obtain ⟨e,p⟩:=(mod_codes N).bwd h;refine ymod_small p ?_
  have:=congrArg List.length e
  rw [List.length_append] at this;omega
end Go.Proofs.YtjdcjfpfpaplladGreat
namespace Go.Proofs.YtjdcjfpfpaplladGreat
open Go.ChangeShapes Go.WideShapes Go.ChangeAt Go.RowKit
set_option linter.unusedSimpArgs false
set_option linter.unusedVariables false
def insNum (x : MIns) (o : Nat) : Int := if o = 1 then x.a else if o = 2 then x.b else if o = 3 then x.c else x.k
def insLst (x : MIns) (o : Nat) : List Int := if o = 6 then x.regs else x.args
theorem ins_ybs (x : MIns) : x.ybs = numY x.op ++ ((numOffs x.op).flatMap (fun o => numY (insNum x o)) ++ ((if x.op = 1 then numY x.n else []) ++ (lstOffs x.op).flatMap (fun o => listY numY (insLst x o)))) := by
  obtain ⟨op,a,b,c,k,n,rs,xs⟩:=x;by_cases hr:1≤op∧op≤14
  · have hc:op=1∨op=5∨op=14∨op=2∨op=3∨op=4∨op=6∨op=7∨op=8∨op=9∨op=10∨op=11∨op=12∨op=13:=by omega
    rcases hc with rfl | rfl | rfl | rfl | rfl | rfl | rfl | rfl | rfl | rfl | rfl | rfl | rfl | rfl <;> simp [MIns.ybs,fieldsOf,optY,numOffs,lstOffs,insNum,insLst]
  · have e1:numOffs op=[]:=by
      unfold numOffs;rw [if_neg (by omega),if_neg (by omega),if_neg (by omega),if_neg (by omega),if_neg (by omega),if_neg (by omega)]
    have e2:lstOffs op=[]:=by
      unfold lstOffs;rw [if_neg (by omega),if_neg (by omega)]
    simp only [MIns.ybs,fields_none hr,e1,e2,if_neg (show ¬ op=1 by omega)];simp
theorem lstOffs_lt (op : Int) : (∀ o ∈ lstOffs op, o = 6 ∨ o = 7) ∧ (lstOffs op).length ≤ 2 := by
  unfold lstOffs;repeat' split
  all_goals simp
theorem numOffs_in (op : Int) : ∀ o ∈ numOffs op, o = 1 ∨ o = 2 ∨ o = 3 ∨ o = 4 := by
  unfold numOffs;repeat' split
  all_goals simp
def PtrW (w : World) (b : Nat) (v : Value) (B : Nat) (offs : List Nat) (a : Option Addr) : Prop := ∀ i o, offs[i]? = some o → ∃ g q, a = some ⟨g, q, none⟩ ∧ ¬ WO b v g ∧ g < w.heap.size ∧ w.cell? ⟨g, q + i, none⟩ = some (.pointer (some ⟨B, o, none⟩))
theorem places_w {B : Nat} {offs : List Nat} {w w' : World} {b lo : Nat} {v : Value} {ys : List UInt8} {en : Ending} (h : WAt w b lo v ys) (hO : PlacesOut B offs w en w') : ∃ a c, en = .returned (.slice a offs.length c) ∧ PtrW w' b v B offs a ∧ Below w.heap.size w w' := by
  rcases hO with ⟨e,rfl,hb⟩ | ⟨g,T,_,rfl,hg,hb,hbl⟩
  · exact ⟨none,0,by rw [e];rfl,by rw [e];exact fun i o ho=>by simp at ho,hb⟩
  · refine ⟨_,_,rfl,fun i o ho=>⟨g,0,rfl,h.apart2 hg,hb.lt,?_⟩,hbl⟩;rw [Nat.zero_add];exact cellOf hb i _ (by simp [ho])
theorem flat_next {α : Type} {f : α → List UInt8} {xs : List α} {i : Nat} {x : α} (h : xs[i]? = some x) : (xs.take (i + 1)).flatMap f = (xs.take i).flatMap f ++ f x := by
  rw [List.take_add_one,h,Option.toList_some,List.flatMap_append];simp
theorem flat_part {α : Type} {f : α → List UInt8} {xs : List α} {i : Nat} {x : α} (h : xs[i]? = some x) : ((xs.take i).flatMap f ++ f x).length ≤ (xs.flatMap f).length := by
  rw [← flat_next h];have e:=List.take_append_drop (i+1) xs;have e2:=congrArg (fun l=>(List.flatMap f l).length) e;simp only [List.flatMap_append,List.length_append] at e2;show (List.flatMap f (xs.take (i+1))).length≤_;omega
theorem wins_any {w : World} {b lo : Nat} {v : Value} {ys : List UInt8} {x : MIns} {cs : List Value} (hx : insL.In w (fun g => g < lo) x cs) (hsm : x.small) (hl : ys.length + 4 ≤ 20000) (h : WAt w b lo v ys) :
    Calls Tryz.prog 106 #[ptrP b,.agg cs.toArray] w fun en w'=>Put b lo v ys (x.ybs) w en w':=by
  have hmf:∀ (fn:Fn) (first cap:Array Value) (w:World),(Instr.makeFunc fn first cap).run Tryz.prog w=.ok (.func fn first cap) w:=fun _ _ _ _=>rfl;have hbw:=(h.lt (.inl rfl)).2;have hlow:=h.low;have H:Hid (WAt w b lo v ys):=h;have HL:Hid (ys.length+4≤20000):=hl;obtain ⟨p6,c6,p7,c7,rfl,i1,i2,r0,r1,r2,r3,r4,r5⟩:=ins_form hx;have I1:Hid (intsL.In w (fun g=>g<lo) x.regs [.slice p6 x.regs.length c6]):=i1;have I2:Hid (intsL.In w (fun g=>g<lo) x.args [.slice p7 x.args.length c7]):=i2;have R0:Hid (i64r x.op):=r0;have R5:Hid (i64r x.n):=r5
  have RN:Hid (∀ o,i64r (insNum x o)):=fun o=>by
    unfold insNum;repeat' split
    · exact r1
    · exact r2
    · exact r3
    · exact r4
  have SM:Hid x.small:=hsm;have HS:Hid (x.ybs=numY x.op++((numOffs x.op).flatMap (fun o=>numY (insNum x o))++((if x.op=1 then numY x.n else [])++(lstOffs x.op).flatMap (fun o=>listY numY (insLst x o))))):=ins_ybs x;clear h hl i1 i2 r0 r1 r2 r3 r4 r5 hsm hx;go_enter Tryz.func106,Tryz.ntmps106
  go_upto_region 1 with fail
  have H0:Hid (WAt (w.alloc (.cells #[.int .i64 x.op,.int .i64 x.a,.int .i64 x.b,.int .i64 x.c,.int .i64 x.k,.int .i64 x.n,.slice p6 x.regs.length c6,.slice p7 x.args.length c7] 57)) b lo v ys):=H.out.alloc _;have S0:Hid (Step (WO b v) (WO b v) w (w.alloc (.cells #[.int .i64 x.op,.int .i64 x.a,.int .i64 x.b,.int .i64 x.c,.int .i64 x.k,.int .i64 x.n,.slice p6 x.regs.length c6,.slice p7 x.args.length c7] 57))):=(Step.refl _ w).alloc _;have X0:Hid (Blk (w.alloc (.cells #[.int .i64 x.op,.int .i64 x.a,.int .i64 x.b,.int .i64 x.c,.int .i64 x.k,.int .i64 x.n,.slice p6 x.regs.length c6,.slice p7 x.args.length c7] 57)) w.heap.size #[.int .i64 x.op,.int .i64 x.a,.int .i64 x.b,.int .i64 x.c,.int .i64 x.k,.int .i64 x.n,.slice p6 x.regs.length c6,.slice p7 x.args.length c7] 57):=Blk.new _ _ _;have N0:Hid (¬ WO b v w.heap.size):=H.out.apart2 (Nat.le_refl _);have L0:Hid (ys.length+4≤20000):=HL.out;clear HL;generalize w.alloc (.cells #[.int .i64 x.op,.int .i64 x.a,.int .i64 x.b,.int .i64 x.c,.int .i64 x.k,.int .i64 x.n,.slice p6 x.regs.length c6,.slice p7 x.args.length c7] 57)=w0 at H0 S0 X0 ⊢;have y0:=cellOf X0.out 0 _ rfl;go_wp2_with fail
  refine (wnum1_any x.op R0.out L0.out H0.out rfl).mono ?_;intro e' w1 hO;rcases hO with ⟨v1,rfl,hl1,h1,s1⟩ | ⟨c',a',v',rfl,hc',hl',s'⟩
  rotate_left
  · exact ⟨rfl,Put.fail hc' hl' (by rw [HS.out];simp only [List.length_append];omega) (S0.out.trans s')⟩
  have H1:Hid (WAt w1 b lo v1 (ys++numY x.op)):=h1;have S1:Hid (Step (WO b v) (WO b v1) w w1):=S0.out.trans s1;have X1:Hid (Blk w1 w.heap.size #[.int .i64 x.op,.int .i64 x.a,.int .i64 x.b,.int .i64 x.c,.int .i64 x.k,.int .i64 x.n,.slice p6 x.regs.length c6,.slice p7 x.args.length c7] 57):=X0.out.step s1 N0.out;have N1:Hid (¬ WO b v1 w.heap.size):=s1.still X0.out.lt N0.out;have L1:Hid ((ys++numY x.op).length+4≤20000):=hl1;clear h1 s1 hl1 H0 S0 X0 N0 L0 y0;have yp:=cellOf X1.out 0 _ rfl;go_wp2_with fail
  refine (numbersOf_any x.op yp).mono ?_;intro e' wA2 hO;obtain ⟨aP,cP,rfl,hP,bP⟩:=places_w H1.out hO;have HA:Hid (WAt wA2 b lo v1 (ys++numY x.op)):=H1.out.below bP;have SA:Hid (Step (WO b v) (WO b v1) w wA2):=S1.out.trans (Step.of_below bP (fun j hj=>.inl hj));have XA:Hid (Blk wA2 w.heap.size #[.int .i64 x.op,.int .i64 x.a,.int .i64 x.b,.int .i64 x.c,.int .i64 x.k,.int .i64 x.n,.slice p6 x.regs.length c6,.slice p7 x.args.length c7] 57):=X1.out.below bP;have PA:Hid (PtrW wA2 b v1 w.heap.size (numOffs x.op) aP):=hP;have hN3:=(numOffs_lt x.op).2;generalize hNn:(numOffs x.op).length=Nn at hN3 ⊢;have HNn:Hid ((numOffs x.op).length=Nn):=hNn;clear hO hP bP yp H1 S1 X1 hNn;go_wp2_with fail
  go_loopw [15] (fun r wr=>∃ i:Nat,r=.int .i64 i∧i≤Nn∧((ys++numY x.op)++((numOffs x.op).take i).flatMap (fun o=>numY (insNum x o))).length+4≤20000∧WGo wA2 b lo v1 ((ys++numY x.op)++((numOffs x.op).take i).flatMap (fun o=>numY (insNum x o))) wr) (fun r _=>Nn - (intOf r).toNat)
  case atStart=>exact ⟨0,rfl,Nat.zero_le _,by simpa using L1.out,v1,by simpa using HA.out,Step.refl _ _⟩
  case round =>
    obtain ⟨i,rfl,hi,hl,v4,h4,s4⟩:=hrel;have H4:Hid (WAt wr b lo v4 ((ys++numY x.op)++((numOffs x.op).take i).flatMap (fun o=>numY (insNum x o)))):=h4;have S4:Hid (Step (WO b v1) (WO b v4) wA2 wr):=s4;have L4:Hid (((ys++numY x.op)++((numOffs x.op).take i).flatMap (fun o=>numY (insNum x o))).length+4≤20000):=hl;clear h4 s4 hl HA L1;by_cases hlt:i<Nn
    · have hoi:(numOffs x.op)[i]?=some ((numOffs x.op)[i]'(by rw [HNn.out];exact hlt)):=List.getElem?_eq_getElem _;generalize (numOffs x.op)[i]'(by rw [HNn.out];exact hlt)=ok at hoi;obtain ⟨g,q,rfl,hg,hgw,yc⟩:=PA.out i ok hoi;have yc':wr.cell? ⟨g,q+i,none⟩=some (.pointer (some ⟨w.heap.size,ok,none⟩)):=(World.cell?_of_block (S4.out.block g hgw hg)).trans yc;have hX4:=XA.out.step S4.out N1.out
      have yv:wr.cell? ⟨w.heap.size,ok,none⟩=some (.int .i64 (insNum x ok)):=by
        rcases numOffs_in x.op ok (List.mem_of_getElem? hoi) with rfl | rfl | rfl | rfl
        · exact cellOf hX4 1 _ rfl
        · exact cellOf hX4 2 _ rfl
        · exact cellOf hX4 3 _ rfl
        · exact cellOf hX4 4 _ rfl
      clear hX4;have hlt':(i:Int)<Nn:=by omega
      have ET:Hid (((numOffs x.op).take (i+1)).flatMap (fun o=>numY (insNum x o))=((numOffs x.op).take i).flatMap (fun o=>numY (insNum x o))++(fun o=>numY (insNum x o)) ok):=flat_next hoi;have EW:Hid ((((numOffs x.op).take i).flatMap (fun o=>numY (insNum x o))++(fun o=>numY (insNum x o)) ok).length≤((numOffs x.op).flatMap (fun o=>numY (insNum x o))).length):=flat_part hoi;clear yc hoi;go_wp2_with fail
      refine (wnum1_any (insNum x ok) (RN.out ok) L4.out H4.out rfl).mono ?_;intro e' w5 hO;rcases hO with ⟨v5,rfl,hl5,h5,s5⟩ | ⟨c',a',v',rfl,hc',hl',s'⟩
      rotate_left
      · exact ⟨rfl,Put.fail hc' hl' (by rw [HS.out];have:=EW.out;simp only [List.length_append] at this ⊢;omega) ((SA.out.trans S4.out).trans s')⟩
      have U:Hid (((ys++numY x.op)++((numOffs x.op).take (i+1)).flatMap (fun o=>numY (insNum x o))).length+4≤20000∧WGo wA2 b lo v1 ((ys++numY x.op)++((numOffs x.op).take (i+1)).flatMap (fun o=>numY (insNum x o))) w5):=by
        show _∧_;rw [ET.out,← List.append_assoc];exact ⟨hl5,v5,h5,S4.out.trans s5⟩
      clear hl5 h5 s5 H4 S4 L4 ET EW yc' yv;go_wp2
      go_roundw
      case rel=>exact ⟨i+1,by simp,hlt,U.out⟩
      case measure=>simp [intOf];omega
    · have hlt':¬ (i:Int)<Nn:=by omega
      have e:(numOffs x.op).take i=numOffs x.op:=List.take_of_length_le (by rw [HNn.out];omega);have h1:=H4.out;have h2:=L4.out;rw [e] at h1 h2;have H2:Hid (WAt wr b lo v4 ((ys++numY x.op)++(numOffs x.op).flatMap (fun o=>numY (insNum x o)))):=h1;have L2:Hid (((ys++numY x.op)++(numOffs x.op).flatMap (fun o=>numY (insNum x o))).length+4≤20000):=h2;have S2:Hid (Step (WO b v) (WO b v4) w wr):=SA.out.trans S4.out;have X2:Hid (Blk wr w.heap.size #[.int .i64 x.op,.int .i64 x.a,.int .i64 x.b,.int .i64 x.c,.int .i64 x.k,.int .i64 x.n,.slice p6 x.regs.length c6,.slice p7 x.args.length c7] 57):=XA.out.step S4.out N1.out;have N2:Hid (¬ WO b v4 w.heap.size):=S4.out.still XA.out.lt N1.out;obtain ⟨v2,hv2⟩:∃ u,u=v4:=⟨_,rfl⟩;subst hv2;obtain ⟨w2,hw2⟩:∃ u,u=wr:=⟨_,rfl⟩;subst hw2;clear H4 L4 S4 SA XA PA N1 h1 h2 e HNn hN3;by_cases e1:x.op=1
      · have y0:=cellOf X2.out 0 _ rfl;have y5:=cellOf X2.out 5 _ rfl;go_wp2_with fail
        refine (wlong_any x.n R5.out (by have:=L2.out;omega) H2.out).mono ?_;intro e' w3 hO;rcases hO with ⟨v3,rfl,hl3,h3,s3⟩ | ⟨c',a',v',rfl,hc',hl',s'⟩
        rotate_left
        · exact ⟨rfl,Put.fail hc' hl' (by rw [HS.out,if_pos e1];simp only [List.length_append];omega) (S2.out.trans s')⟩
        have H3:Hid (WAt w3 b lo v3 ((ys++numY x.op++(numOffs x.op).flatMap (fun o=>numY (insNum x o)))++numY x.n)):=h3;have S3:Hid (Step (WO b v) (WO b v3) w w3):=S2.out.trans s3;have X3:Hid (Blk w3 w.heap.size #[.int .i64 x.op,.int .i64 x.a,.int .i64 x.b,.int .i64 x.c,.int .i64 x.k,.int .i64 x.n,.slice p6 x.regs.length c6,.slice p7 x.args.length c7] 57):=X2.out.step s3 N2.out;have N3:Hid (¬ WO b v3 w.heap.size):=s3.still X2.out.lt N2.out;have L3:Hid (((ys++numY x.op++(numOffs x.op).flatMap (fun o=>numY (insNum x o)))++numY x.n).length+4≤20000):=hl3;clear h3 s3 hl3 H2 S2 X2 N2 L2 y0 y5;have yp:=cellOf X3.out 0 _ rfl;go_wp2_with fail
        refine (listsOf_any x.op yp).mono ?_;intro e' wA6 hO;obtain ⟨aP,cP,rfl,hP,bP⟩:=places_w H3.out hO;have HA:Hid (WAt wA6 b lo v3 ((ys++numY x.op++(numOffs x.op).flatMap (fun o=>numY (insNum x o)))++numY x.n)):=H3.out.below bP;have SA:Hid (Step (WO b v) (WO b v3) w wA6):=S3.out.trans (Step.of_below bP (fun j hj=>.inl hj));have XA:Hid (Blk wA6 w.heap.size #[.int .i64 x.op,.int .i64 x.a,.int .i64 x.b,.int .i64 x.c,.int .i64 x.k,.int .i64 x.n,.slice p6 x.regs.length c6,.slice p7 x.args.length c7] 57):=X3.out.below bP;have PA:Hid (PtrW wA6 b v3 w.heap.size (lstOffs x.op) aP):=hP;have hN3:=(lstOffs_lt x.op).2;generalize hNn:(lstOffs x.op).length=Nn at hN3 ⊢;have HNn:Hid ((lstOffs x.op).length=Nn):=hNn;clear hO hP bP yp H3 S3 X3 hNn;go_wp2_with fail
        go_loopw [35] (fun r wr=>∃ i:Nat,r=.int .i64 i∧i≤Nn∧(((ys++numY x.op++(numOffs x.op).flatMap (fun o=>numY (insNum x o)))++numY x.n)++((lstOffs x.op).take i).flatMap (fun o=>listY numY (insLst x o))).length+4≤20000∧WGo wA6 b lo v3 (((ys++numY x.op++(numOffs x.op).flatMap (fun o=>numY (insNum x o)))++numY x.n)++((lstOffs x.op).take i).flatMap (fun o=>listY numY (insLst x o))) wr) (fun r _=>Nn - (intOf r).toNat)
        case atStart=>exact ⟨0,rfl,Nat.zero_le _,by simpa using L3.out,v3,by simpa using HA.out,Step.refl _ _⟩
        case round =>
          obtain ⟨i,rfl,hi,hl,v4,h4,s4⟩:=hrel;have H4:Hid (WAt wr b lo v4 (((ys++numY x.op++(numOffs x.op).flatMap (fun o=>numY (insNum x o)))++numY x.n)++((lstOffs x.op).take i).flatMap (fun o=>listY numY (insLst x o)))):=h4;have S4:Hid (Step (WO b v3) (WO b v4) wA6 wr):=s4;have L4:Hid ((((ys++numY x.op++(numOffs x.op).flatMap (fun o=>numY (insNum x o)))++numY x.n)++((lstOffs x.op).take i).flatMap (fun o=>listY numY (insLst x o))).length+4≤20000):=hl;clear h4 s4 hl HA L3;by_cases hlt:i<Nn
          · have hoi:(lstOffs x.op)[i]?=some ((lstOffs x.op)[i]'(by rw [HNn.out];exact hlt)):=List.getElem?_eq_getElem _;generalize (lstOffs x.op)[i]'(by rw [HNn.out];exact hlt)=ok at hoi;obtain ⟨g,q,rfl,hg,hgw,yc⟩:=PA.out i ok hoi;have yc':wr.cell? ⟨g,q+i,none⟩=some (.pointer (some ⟨w.heap.size,ok,none⟩)):=(World.cell?_of_block (S4.out.block g hgw hg)).trans yc;have hX4:=XA.out.step S4.out N3.out
            have YL:Hid (∃ pp cc,wr.cell? ⟨w.heap.size,ok,none⟩=some (.slice pp (insLst x ok).length cc)∧intsL.In w (fun g=>g<lo) (insLst x ok) [.slice pp (insLst x ok).length cc]∧(insLst x ok).length≤100000):=by
              rcases (lstOffs_lt x.op).1 ok (List.mem_of_getElem? hoi) with rfl | rfl
              · exact ⟨p6,c6,cellOf hX4 6 _ rfl,I1.out,SM.out.1⟩
              · exact ⟨p7,c7,cellOf hX4 7 _ rfl,I2.out,SM.out.2⟩
            clear hX4;obtain ⟨pp,cc,yv,il,sl⟩:=YL.out;have IL:Hid (intsL.In wr (fun g=>g<lo) (insLst x ok) [.slice pp (insLst x ok).length cc]):=(SA.out.trans S4.out).lays il (fun k hk _=>H.out.apart hk);have SL:Hid ((insLst x ok).length≤100000):=sl;clear YL il sl;have hlt':(i:Int)<Nn:=by omega
            have ET:Hid (((lstOffs x.op).take (i+1)).flatMap (fun o=>listY numY (insLst x o))=((lstOffs x.op).take i).flatMap (fun o=>listY numY (insLst x o))++(fun o=>listY numY (insLst x o)) ok):=flat_next hoi;have EW:Hid ((((lstOffs x.op).take i).flatMap (fun o=>listY numY (insLst x o))++(fun o=>listY numY (insLst x o)) ok).length≤((lstOffs x.op).flatMap (fun o=>listY numY (insLst x o))).length):=flat_part hoi;clear yc hoi;go_wp2_with fail
            refine (wlist_any IL.out (fun k hk _=>H4.out.apart hk) SL.out L4.out H4.out).mono ?_;intro e' w5 hO;rcases hO with ⟨v5,rfl,hl5,h5,s5⟩ | ⟨c',a',v',rfl,hc',hl',s'⟩
            rotate_left
            · exact ⟨rfl,Put.fail hc' hl' (by rw [HS.out,if_pos e1];have:=EW.out;simp only [List.length_append] at this ⊢;omega) ((SA.out.trans S4.out).trans s')⟩
            have U:Hid ((((ys++numY x.op++(numOffs x.op).flatMap (fun o=>numY (insNum x o)))++numY x.n)++((lstOffs x.op).take (i+1)).flatMap (fun o=>listY numY (insLst x o))).length+4≤20000∧WGo wA6 b lo v3 (((ys++numY x.op++(numOffs x.op).flatMap (fun o=>numY (insNum x o)))++numY x.n)++((lstOffs x.op).take (i+1)).flatMap (fun o=>listY numY (insLst x o))) w5):=by
              show _∧_;rw [ET.out,← List.append_assoc];exact ⟨hl5,v5,h5,S4.out.trans s5⟩
            clear hl5 h5 s5 H4 S4 L4 ET EW yc' yv;go_wp2
            go_roundw
            case rel=>exact ⟨i+1,by simp,hlt,U.out⟩
            case measure=>simp [intOf];omega
          · have hlt':¬ (i:Int)<Nn:=by omega
            have e:(lstOffs x.op).take i=lstOffs x.op:=List.take_of_length_le (by rw [HNn.out];omega);have h1:=H4.out;have h2:=L4.out;rw [e] at h1 h2;have H6:Hid (WAt wr b lo v4 (((ys++numY x.op++(numOffs x.op).flatMap (fun o=>numY (insNum x o)))++numY x.n)++(lstOffs x.op).flatMap (fun o=>listY numY (insLst x o)))):=h1;have L6:Hid ((((ys++numY x.op++(numOffs x.op).flatMap (fun o=>numY (insNum x o)))++numY x.n)++(lstOffs x.op).flatMap (fun o=>listY numY (insLst x o))).length+4≤20000):=h2;have S6:Hid (Step (WO b v) (WO b v4) w wr):=SA.out.trans S4.out;have X6:Hid (Blk wr w.heap.size #[.int .i64 x.op,.int .i64 x.a,.int .i64 x.b,.int .i64 x.c,.int .i64 x.k,.int .i64 x.n,.slice p6 x.regs.length c6,.slice p7 x.args.length c7] 57):=XA.out.step S4.out N3.out;have N6:Hid (¬ WO b v4 w.heap.size):=S4.out.still XA.out.lt N3.out;obtain ⟨v6,hv6⟩:∃ u,u=v4:=⟨_,rfl⟩;subst hv6;obtain ⟨w6,hw6⟩:∃ u,u=wr:=⟨_,rfl⟩;subst hw6;clear H4 L4 S4 SA XA PA N3 h1 h2 e HNn hN3;have Z:Hid (Put b lo v ys x.ybs w (.returned (.tuple #[])) w6):=Put.done (by rw [HS.out,if_pos e1];simp only [List.append_assoc,List.append_nil,List.nil_append]) L6.out H6.out S6.out;clear H6 S6 N6 L6 X6;go_wp2
            exact bodyPost_end (v:=.tuple #[]) (by simp [results,Tryz.results106,go_sem]) rfl Z.out
      have y0:=cellOf X2.out 0 _ rfl;have e1':¬ x.op=1:=e1;have yp:=cellOf X2.out 0 _ rfl;go_wp2_with fail
      refine (listsOf_any x.op yp).mono ?_;intro e' wA6 hO;obtain ⟨aP,cP,rfl,hP,bP⟩:=places_w H2.out hO;have HA:Hid (WAt wA6 b lo v2 (ys++numY x.op++(numOffs x.op).flatMap (fun o=>numY (insNum x o)))):=H2.out.below bP;have SA:Hid (Step (WO b v) (WO b v2) w wA6):=S2.out.trans (Step.of_below bP (fun j hj=>.inl hj));have XA:Hid (Blk wA6 w.heap.size #[.int .i64 x.op,.int .i64 x.a,.int .i64 x.b,.int .i64 x.c,.int .i64 x.k,.int .i64 x.n,.slice p6 x.regs.length c6,.slice p7 x.args.length c7] 57):=X2.out.below bP;have PA:Hid (PtrW wA6 b v2 w.heap.size (lstOffs x.op) aP):=hP;have hN3:=(lstOffs_lt x.op).2;generalize hNn:(lstOffs x.op).length=Nn at hN3 ⊢;have HNn:Hid ((lstOffs x.op).length=Nn):=hNn;clear hO hP bP yp H2 S2 X2 hNn;go_wp2_with fail
      go_loopw [35] (fun r wr=>∃ i:Nat,r=.int .i64 i∧i≤Nn∧((ys++numY x.op++(numOffs x.op).flatMap (fun o=>numY (insNum x o)))++((lstOffs x.op).take i).flatMap (fun o=>listY numY (insLst x o))).length+4≤20000∧WGo wA6 b lo v2 ((ys++numY x.op++(numOffs x.op).flatMap (fun o=>numY (insNum x o)))++((lstOffs x.op).take i).flatMap (fun o=>listY numY (insLst x o))) wr) (fun r _=>Nn - (intOf r).toNat)
      case atStart=>exact ⟨0,rfl,Nat.zero_le _,by simpa using L2.out,v2,by simpa using HA.out,Step.refl _ _⟩
      case round =>
        obtain ⟨i,rfl,hi,hl,v4,h4,s4⟩:=hrel;have H4:Hid (WAt wr b lo v4 ((ys++numY x.op++(numOffs x.op).flatMap (fun o=>numY (insNum x o)))++((lstOffs x.op).take i).flatMap (fun o=>listY numY (insLst x o)))):=h4;have S4:Hid (Step (WO b v2) (WO b v4) wA6 wr):=s4;have L4:Hid (((ys++numY x.op++(numOffs x.op).flatMap (fun o=>numY (insNum x o)))++((lstOffs x.op).take i).flatMap (fun o=>listY numY (insLst x o))).length+4≤20000):=hl;clear h4 s4 hl HA L2;by_cases hlt:i<Nn
        · have hoi:(lstOffs x.op)[i]?=some ((lstOffs x.op)[i]'(by rw [HNn.out];exact hlt)):=List.getElem?_eq_getElem _;generalize (lstOffs x.op)[i]'(by rw [HNn.out];exact hlt)=ok at hoi;obtain ⟨g,q,rfl,hg,hgw,yc⟩:=PA.out i ok hoi;have yc':wr.cell? ⟨g,q+i,none⟩=some (.pointer (some ⟨w.heap.size,ok,none⟩)):=(World.cell?_of_block (S4.out.block g hgw hg)).trans yc;have hX4:=XA.out.step S4.out N2.out
          have YL:Hid (∃ pp cc,wr.cell? ⟨w.heap.size,ok,none⟩=some (.slice pp (insLst x ok).length cc)∧intsL.In w (fun g=>g<lo) (insLst x ok) [.slice pp (insLst x ok).length cc]∧(insLst x ok).length≤100000):=by
            rcases (lstOffs_lt x.op).1 ok (List.mem_of_getElem? hoi) with rfl | rfl
            · exact ⟨p6,c6,cellOf hX4 6 _ rfl,I1.out,SM.out.1⟩
            · exact ⟨p7,c7,cellOf hX4 7 _ rfl,I2.out,SM.out.2⟩
          clear hX4;obtain ⟨pp,cc,yv,il,sl⟩:=YL.out;have IL:Hid (intsL.In wr (fun g=>g<lo) (insLst x ok) [.slice pp (insLst x ok).length cc]):=(SA.out.trans S4.out).lays il (fun k hk _=>H.out.apart hk);have SL:Hid ((insLst x ok).length≤100000):=sl;clear YL il sl;have hlt':(i:Int)<Nn:=by omega
          have ET:Hid (((lstOffs x.op).take (i+1)).flatMap (fun o=>listY numY (insLst x o))=((lstOffs x.op).take i).flatMap (fun o=>listY numY (insLst x o))++(fun o=>listY numY (insLst x o)) ok):=flat_next hoi;have EW:Hid ((((lstOffs x.op).take i).flatMap (fun o=>listY numY (insLst x o))++(fun o=>listY numY (insLst x o)) ok).length≤((lstOffs x.op).flatMap (fun o=>listY numY (insLst x o))).length):=flat_part hoi;clear yc hoi;go_wp2_with fail
          refine (wlist_any IL.out (fun k hk _=>H4.out.apart hk) SL.out L4.out H4.out).mono ?_;intro e' w5 hO;rcases hO with ⟨v5,rfl,hl5,h5,s5⟩ | ⟨c',a',v',rfl,hc',hl',s'⟩
          rotate_left
          · exact ⟨rfl,Put.fail hc' hl' (by rw [HS.out,if_neg e1];have:=EW.out;simp only [List.length_append] at this ⊢;omega) ((SA.out.trans S4.out).trans s')⟩
          have U:Hid (((ys++numY x.op++(numOffs x.op).flatMap (fun o=>numY (insNum x o)))++((lstOffs x.op).take (i+1)).flatMap (fun o=>listY numY (insLst x o))).length+4≤20000∧WGo wA6 b lo v2 ((ys++numY x.op++(numOffs x.op).flatMap (fun o=>numY (insNum x o)))++((lstOffs x.op).take (i+1)).flatMap (fun o=>listY numY (insLst x o))) w5):=by
            show _∧_;rw [ET.out,← List.append_assoc];exact ⟨hl5,v5,h5,S4.out.trans s5⟩
          clear hl5 h5 s5 H4 S4 L4 ET EW yc' yv;go_wp2
          go_roundw
          case rel=>exact ⟨i+1,by simp,hlt,U.out⟩
          case measure=>simp [intOf];omega
        · have hlt':¬ (i:Int)<Nn:=by omega
          have e:(lstOffs x.op).take i=lstOffs x.op:=List.take_of_length_le (by rw [HNn.out];omega);have h1:=H4.out;have h2:=L4.out;rw [e] at h1 h2;have H6:Hid (WAt wr b lo v4 ((ys++numY x.op++(numOffs x.op).flatMap (fun o=>numY (insNum x o)))++(lstOffs x.op).flatMap (fun o=>listY numY (insLst x o)))):=h1;have L6:Hid (((ys++numY x.op++(numOffs x.op).flatMap (fun o=>numY (insNum x o)))++(lstOffs x.op).flatMap (fun o=>listY numY (insLst x o))).length+4≤20000):=h2;have S6:Hid (Step (WO b v) (WO b v4) w wr):=SA.out.trans S4.out;have X6:Hid (Blk wr w.heap.size #[.int .i64 x.op,.int .i64 x.a,.int .i64 x.b,.int .i64 x.c,.int .i64 x.k,.int .i64 x.n,.slice p6 x.regs.length c6,.slice p7 x.args.length c7] 57):=XA.out.step S4.out N2.out;have N6:Hid (¬ WO b v4 w.heap.size):=S4.out.still XA.out.lt N2.out;obtain ⟨v6,hv6⟩:∃ u,u=v4:=⟨_,rfl⟩;subst hv6;obtain ⟨w6,hw6⟩:∃ u,u=wr:=⟨_,rfl⟩;subst hw6;clear H4 L4 S4 SA XA PA N2 h1 h2 e HNn hN3;have Z:Hid (Put b lo v ys x.ybs w (.returned (.tuple #[])) w6):=Put.done (by rw [HS.out,if_neg e1];simp only [List.append_assoc,List.append_nil,List.nil_append]) L6.out H6.out S6.out;clear H6 S6 N6 L6 X6;go_wp2
          exact bodyPost_end (v:=.tuple #[]) (by simp [results,Tryz.results106,go_sem]) rfl Z.out
end Go.Proofs.YtjdcjfpfpaplladGreat
