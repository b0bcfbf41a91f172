import Derived.Lib.ParseIntB
import Derived.Lib.ItoaLen
import Derived.Test.YtjodmledadbgeacGreatDoorRows
import Derived.WalkKit
import Derived.WalkLawsBesides
import Derived.ProofKit
import Derived.OpenShut
import Derived.Deep.OwnRows
import Derived.Deep.AppendLies
import Derived.Deep.Draws
import Derived.Deep.Slices
import Derived.Deep.Strs
import Derived.Below
import Derived.ChangeOld
import Derived.Test.YtjodmledadbgeacGreatDoorProg
import Derived.Lib.Bytealg
import Derived.Lib.Strings
import Derived.Lib.Slices
import Derived.Lib.Walk
import Derived.Shelf.Abstract
import Derived.Shelf.LaysM
import Derived.Shelf.LaysC
import Derived.Shelf.Strconv.Itoa4
import Derived.Shelf.Strconv.Clone
import Derived.Shelf.Strconv.ErrVarParseInt
import Derived.Lib.AppendIntMem
import Derived.Lib.AtoiErrMem
import Derived.Lib.ParseIntBTie
import Derived.Deep.RegionWith
import Derived.Deep.QuietTactic
import Derived.BigQuiet
import Derived.Deep.MidRow
import Derived.Deep.Cut
set_option maxHeartbeats 16000000
set_option maxRecDepth 100000
namespace Go.Proofs.YtjodmledadbgeacGreatDoor
set_option linter.unusedSimpArgs false
set_option linter.unusedVariables false
def blB (c : UInt8) : Bool := c.toNat == 32 || c.toNat == 9 || c.toNat == 13 || c.toNat == 10
def rmB (c : UInt8) : Bool := c.toNat != 10
def letB (c : UInt8) : Bool := decide (97 ≤ c.toNat) && decide (c.toNat ≤ 122)
def digB (c : UInt8) : Bool := decide (48 ≤ c.toNat) && decide (c.toNat ≤ 57)
def sigB (c : UInt8) : Bool := ([40, 41, 123, 125, 60, 62, 44, 59] : List Nat).contains c.toNat
def pre (p : UInt8 → Bool) : List UInt8 → Nat
  | []=>0
  | c::l=>if p c then pre p l+1 else 0
theorem pre_le (p : UInt8 → Bool) : ∀ l, pre p l ≤ l.length
  | []=>Nat.le_refl _
  | c::l=>by
    have:=pre_le p l
    simp only [pre,List.length_cons]
    split <;> omega
theorem pre_yes {p : UInt8 → Bool} {c : UInt8} {l : List UInt8} (h : p c = true) : pre p (c :: l) = pre p l + 1 := by simp [pre, h]
theorem pre_no {p : UInt8 → Bool} {c : UInt8} {l : List UInt8} (h : p c = false) : pre p (c :: l) = 0 := by simp [pre, h]
def blk : Bool → List UInt8 → Nat
  | _,[]=>0
  | false,c::l=>if blB c then blk false l+1 else if c.toNat=35 then blk true l+1 else 0
  | true,c::l=>if c.toNat=10 then blk false l+1 else blk true l+1
theorem blk_le : ∀ (l : List UInt8) (b : Bool), blk b l ≤ l.length
  | [],b=>by cases b <;> simp [blk]
  | c::l,b=>by
    have h1:=blk_le l true
    have h2:=blk_le l false
    cases b <;> simp only [blk,List.length_cons] <;> split <;> (try split) <;> omega
theorem blk_rem : ∀ l : List UInt8, blk true l = pre rmB l + blk false (l.drop (pre rmB l))
  | []=>by simp [blk,pre]
  | c::l=>by
    have ih:=blk_rem l
    by_cases h:c.toNat=10
    · have h1:rmB c=false:=by simp [rmB,h]
      have h2:blB c=true:=by simp [blB,h]
      simp [blk,pre,h,h1,h2]
    · have h1:rmB c=true:=by simp [rmB,h]
      simp only [blk,pre,h,h1,if_true,if_false,List.drop_succ_cons,ih]
      omega
theorem blk_blank {c : UInt8} {l : List UInt8} (h : blB c = true) : blk false (c :: l) = blk false l + 1 := by simp [blk, h]
theorem blk_remark {c : UInt8} {l : List UInt8} (h : c.toNat = 35) : blk false (c :: l) = pre rmB (c :: l) + blk false ((c :: l).drop (pre rmB (c :: l))) := by
  have h1:blB c=false:=by simp [blB,h]
  have h2:rmB c=true:=by simp [rmB,h]
  rw [pre_yes h2,List.drop_succ_cons]
  simp only [blk,h1,h,if_true,Bool.false_eq_true,if_false,blk_rem l]
  omega
theorem blk_none {c : UInt8} {l : List UInt8} (h1 : blB c = false) (h2 : c.toNat ≠ 35) : blk false (c :: l) = 0 := by simp [blk, h1, h2]
structure Tk where
  pos:Nat
  text:List UInt8
  num:Bool
  n:Int
  deriving DecidableEq
def numOf (l : List UInt8) : Option Int :=
  match Lib.parseIntB 64 l with
  | .ok v=>if Lib.itoa v=l then some v else none
  | .syntax=>none
  | .range=>none
def tokLen : List UInt8 → Nat × Bool
  | []=>(0,false)
  | c::l =>
    if letB c then (pre letB (c::l),false)
    else if sigB c then (1,false)
    else if c.toNat=45∧l.head?.any (fun d=>d.toNat == 62)=true then (2,false)
    else if digB c=true ∨ (c.toNat=45∧l.head?.any digB=true) then (pre digB l+1,true)
    else (0,false)
inductive TkR where
  | bad (code:Nat)
  | ok (len:Nat) (num:Bool) (n:Int)
  deriving DecidableEq
def tok (l : List UInt8) : TkR :=
  if (tokLen l).1=0 then .bad 6
  else if (tokLen l).2 then
    match numOf (l.take (tokLen l).1) with
    | some v=>.ok (tokLen l).1 true v
    | none=>.bad 8
  else .ok (tokLen l).1 false 0
inductive Sc where
  | fault (code at_:Nat)
  | ok (l:List Tk)
  deriving DecidableEq
def Sc.app (acc : List Tk) : Sc → Sc
  | .fault c a=>.fault c a
  | .ok l=>.ok (acc++l)
theorem Sc.app_nil (r : Sc) : r.app [] = r := by cases r <;> rfl
theorem Sc.app_app (a b : List Tk) (r : Sc) : (r.app b).app a = r.app (a ++ b) := by cases r <;> simp [Sc.app]
def scanF : Nat → Nat → List UInt8 → Sc
  | 0,_,_=>.ok []
  | f+1,pos,l =>
    if l=[] then .ok []
    else match tok l with
      | .bad c=>.fault c pos
      | .ok k b n=>(scanF f (pos+k+blk false (l.drop k)) ((l.drop k).drop (blk false (l.drop k)))).app [⟨pos,l.take k,b,n⟩]
def scanL (l : List UInt8) : Sc := if 40000 < l.length then .fault 2 40000 else scanF (l.length + 1) (blk false l) (l.drop (blk false l))
theorem tokLen_le (l : List UInt8) : (tokLen l).1 ≤ l.length := by
  cases l with
  | nil=>simp [tokLen]
  | cons c l =>
    have h1:=pre_le letB (c::l)
    have h2:=pre_le digB l
    simp only [tokLen]
    split
    · exact h1
    · split
      · simp
      · split
        · rename_i h
          cases l with
          | nil=>simp at h
          | cons d l=>simp
        · split
          · simpa using h2
          · simp
theorem tok_pos {l : List UInt8} {k : Nat} {b : Bool} {n : Int} (h : tok l = .ok k b n) : 1 ≤ k ∧ k ≤ l.length ∧ k = (tokLen l).1 := by
  have h0:=tokLen_le l
  unfold tok at h
  split at h
  · cases h
  · split at h
    · split at h
      · injection h;omega
      · cases h
    · injection h;omega
theorem scanF_fuel : ∀ (f g pos : Nat) (l : List UInt8), l.length < f → l.length < g → scanF f pos l = scanF g pos l
  | 0,g,pos,l,hf,hg=>by omega
  | f+1,0,pos,l,hf,hg=>by omega
  | f+1,g+1,pos,l,hf,hg=>by
    unfold scanF
    split
    · rfl
    · split
      · rfl
      · rename_i k b n e
        have:=tok_pos e
        rw [scanF_fuel f g _ _ (by simp only [List.length_drop];omega) (by simp only [List.length_drop];omega)]
def sameTk (x y : Tk) : Prop := x.text = y.text ∧ x.num = y.num ∧ x.n = y.n
def Tk.good (t : Tk) : Prop := ∃ l, tok l = .ok t.text.length t.num t.n ∧ t.text = l.take t.text.length
end Go.Proofs.YtjodmledadbgeacGreatDoor
namespace Go.Proofs.YtjodmledadbgeacGreatDoor
open Go.RowKit
set_option linter.unusedVariables false
structure Step (O O' : Nat → Prop) (w w' : World) : Prop where
  os:w'.os=w.os
  tape:w'.tape=w.tape
  output:w'.output=w.output
  size:w.heap.size≤w'.heap.size
  block:∀ k,k < w.heap.size→¬ O k→w'.heap[k]?=w.heap[k]?
  own:∀ k,O' k→O k ∨ w.heap.size≤k
theorem Step.refl (O : Nat → Prop) (w : World) : Step O O w w := ⟨rfl, rfl, rfl, Nat.le_refl _, fun _ _ _ => rfl, fun _ h => Or.inl h⟩
theorem Step.trans {O O' O'' : Nat → Prop} {a b c : World} (h : Step O O' a b) (k : Step O' O'' b c) : Step O O'' a c :=
  ⟨k.os.trans h.os,k.tape.trans h.tape,k.output.trans h.output,Nat.le_trans h.size k.size,
   fun i hi hn=>(k.block i (Nat.lt_of_lt_of_le hi h.size) (fun ho=>(h.own i ho).elim hn (fun hge=>by omega))).trans (h.block i hi hn),
   fun i hi=>(k.own i hi).elim (h.own i) (fun hge=>Or.inr (Nat.le_trans h.size hge))⟩
theorem Step.mono {O O' P : Nat → Prop} {a b : World} (h : Step O O' a b) (hP : ∀ k, O k → P k) : Step P O' a b :=
  ⟨h.os,h.tape,h.output,h.size,fun i hi hn=>h.block i hi (fun ho=>hn (hP i ho)),fun i hi=>(h.own i hi).imp (hP i) id⟩
theorem Step.drewN {O O' : Nat → Prop} {a w : World} (h : Step O O' a w) (n : Nat) : Step O O' a (w.drewN n) := ⟨h.os, h.tape, h.output, h.size, h.block, h.own⟩
theorem Step.drew {O O' : Nat → Prop} {a w : World} (h : Step O O' a w) : Step O O' a w.drew := ⟨h.os, h.tape, h.output, h.size, h.block, h.own⟩
theorem Step.alloc {O O' : Nat → Prop} {a w : World} (h : Step O O' a w) (o : Obj) : Step O O' a (w.alloc o) :=
  ⟨h.os,h.tape,h.output,by have:=h.size;simp;omega,fun k hk hn=>(Below.heap_alloc _ _ _ (by have:=h.size;omega)).trans (h.block k hk hn),h.own⟩
theorem Step.setCell {O O' : Nat → Prop} {a w : World} (h : Step O O' a w) {p : Addr} (hp : O' p.block) (u : Value) : Step O O' a (w.setCell p u) :=
  ⟨h.os,h.tape,h.output,by have:=h.size;simp;omega,
   fun k hk hn=>(Below.heap_setCell _ _ _ _ (fun e=>by subst e;rcases h.own _ hp with h' | h';exact hn h';omega)).trans (h.block k hk hn),h.own⟩
theorem Step.below {O O' : Nat → Prop} {a w : World} {B : Nat} (h : Step O O' a w) (hB : B ≤ a.heap.size) (hO : ∀ k, O k → B ≤ k) : Below B a w :=
  ⟨h.os,h.tape,h.output,h.size,fun k hk=>h.block k (by omega) (fun ho=>by have:=hO k ho;omega)⟩
theorem Step.keep {O O' : Nat → Prop} {a w : World} (h : Step O O' a w) {k : Nat} {o : Obj} (hk : a.heap[k]? = some o) (hn : ¬ O k) : w.heap[k]? = some o :=
  (h.block k (lt_of_block hk) hn).trans hk
theorem cellOf {w : World} {b : Nat} {c : Array Value} {t : TypeId} (h : w.heap[b]? = some (.cells c t (0, 0))) (i : Nat) (v : Value) (hv : c[i]? = some v) : w.cell? ⟨b, i, none⟩ = some v := by
  simp [World.cell?,h,hv]
theorem freeOf {w : World} {b : Nat} {c : Array Value} {t : TypeId} (h : w.heap[b]? = some (.cells c t (0, 0))) (i : Nat) : w.frozen? ⟨b, i, none⟩ = false := by
  simp [World.frozen?,h]
theorem blockSet {w : World} {b : Nat} {c : Array Value} {t : TypeId} (h : w.heap[b]? = some (.cells c t (0, 0))) (i : Nat) (v : Value) :
    (w.setCell ⟨b,i,none⟩ v).heap[b]?=some (.cells (c.setIfInBounds i v) t (0,0)):=by
  simp [World.setCell,Array.getElem?_modify,h]
theorem blockNew (w : World) (c : Array Value) (t : TypeId) : (w.alloc (.cells c t)).heap[w.heap.size]? = some (.cells c t (0, 0)) := by
  show (w.heap.push _)[w.heap.size]?=_
  simp
def Row (w : World) (O : Nat → Prop) (t : TypeId) (v : Value) (xs : List Int) : Prop :=
  w.ownsRow 0 t 1 v xs.length (xs.map (Value.int .i64))∧∀ g,v.ownBlock=some g→O g
theorem Row.nil (w : World) (O : Nat → Prop) (t : TypeId) : Row w O t (.slice none 0 0) [] := ⟨⟨rfl, Or.inl ⟨rfl, rfl⟩⟩, by simp [Value.ownBlock]⟩
theorem Row.form {w : World} {O : Nat → Prop} {t : TypeId} {v : Value} {xs : List Int} (h : Row w O t v xs) :
    ∃ a cap,v=.slice a xs.length cap∧(a=none→xs=[]∧cap=0)∧∀ g,a=some g→g=⟨g.block,0,none⟩∧O g.block∧xs.length≤cap∧cap≤maxLen∧∃ c,w.heap[g.block]?=some (.cells c t (0,0))∧c.size=cap∧∀ i,i < xs.length→c[i]?=some (.int .i64 (xs.getD i 0)):=by
  obtain ⟨⟨h1,h2⟩,h3⟩:=h
  rcases h2 with ⟨rfl,h4⟩ | ⟨g,cap,cur,rfl,_,hh,hn,hm,hs,ht⟩
  · have:xs=[]:=List.length_eq_zero_iff.1 h4
    subst this
    exact ⟨none,0,rfl,(fun _=>⟨rfl,rfl⟩),(fun g e=>by cases e)⟩
  · refine ⟨some ⟨g,0,none⟩,cap,rfl,(fun e=>by cases e),(fun g' e=>?_)⟩
    cases e
    refine ⟨rfl,h3 g rfl,hn,hm,cur,hh,by simpa using hs,fun i hi=>?_⟩
    have:(cur.toList.take (xs.length * 1))[i]?=(xs.map (Value.int .i64))[i]?:=by rw [ht]
    rw [List.getElem?_take,if_pos (by omega),List.getElem?_map] at this
    rw [← Array.getElem?_toList,this]
    simp [List.getD,hi]
theorem Row.cell {w : World} {O : Nat → Prop} {t : TypeId} {g : Nat} {n cap : Nat} {xs : List Int} (h : Row w O t (.slice (some ⟨g, 0, none⟩) n cap) xs) (i : Nat) (hi : i < xs.length) :
    w.cell? ⟨g,i,none⟩=some (.int .i64 (xs.getD i 0)):=by
  obtain ⟨a,cap',e,_,h2⟩:=h.form
  cases e
  obtain ⟨_,_,_,_,c,hc,_,hi'⟩:=h2 _ rfl
  exact cellOf hc i _ (hi' i hi)
theorem Row.keep {w w' : World} {O O' : Nat → Prop} {t : TypeId} {v : Value} {xs : List Int} (h : Row w O t v xs) (hb : ∀ g, v.ownBlock = some g → w'.heap[g]? = w.heap[g]?) (hO : ∀ g, v.ownBlock = some g → O' g) : Row w' O' t v xs := by
  obtain ⟨⟨h1,h2⟩,h3⟩:=h
  refine ⟨⟨h1,?_⟩,hO⟩
  rcases h2 with h4 | ⟨g,cap,cur,rfl,hg,hh,r⟩
  · exact Or.inl h4
  · exact Or.inr ⟨g,cap,cur,rfl,hg,(hb g rfl).trans hh,r⟩
theorem Row.lt {w : World} {O : Nat → Prop} {t : TypeId} {v : Value} {xs : List Int} (h : Row w O t v xs) {g : Nat} (hg : v.ownBlock = some g) : g < w.heap.size := by
  obtain ⟨⟨h1,h2⟩,h3⟩:=h
  rcases h2 with ⟨rfl,_⟩ | ⟨g',cap,cur,rfl,_,hh,r⟩
  · simp [Value.ownBlock] at hg
  · simp [Value.ownBlock] at hg;subst hg;exact lt_of_block hh
theorem Row.block {w : World} {O : Nat → Prop} {t : TypeId} {v : Value} {xs : List Int} (h : Row w O t v xs) {g : Nat} (hg : v.ownBlock = some g) : ∃ c, w.heap[g]? = some (.cells c t (0, 0)) := by
  obtain ⟨⟨h1,h2⟩,h3⟩:=h
  rcases h2 with ⟨rfl,_⟩ | ⟨g',cap,cur,rfl,_,hh,r⟩
  · simp [Value.ownBlock] at hg
  · simp [Value.ownBlock] at hg;subst hg;exact ⟨cur,hh⟩
theorem Row.drewN {w : World} {O : Nat → Prop} {t : TypeId} {v : Value} {xs : List Int} (h : Row w O t v xs) (n : Nat) : Row (w.drewN n) O t v xs := h
theorem Row.init {w : World} {O : Nat → Prop} {t : TypeId} {g n cap : Nat} {xs : List Int} (h : Row w O t (.slice (some ⟨g, 0, none⟩) n cap) xs) (m : Nat) (hm : m ≤ xs.length) :
    Row w O t (.slice (some ⟨g,0,none⟩) m cap) (xs.take m):=by
  obtain ⟨⟨h1,h2⟩,h3⟩:=h
  rcases h2 with ⟨e,_⟩ | ⟨g',cap',cur,e,hg,hh,hn,hmx,hs,ht⟩
  · cases e
  · cases e
    have hl:(xs.take m).length=m:=by simp;omega
    refine ⟨⟨by simp,Or.inr ⟨g,cap,cur,by rw [hl],Nat.zero_le _,hh,by omega,hmx,hs,?_⟩⟩,fun g' e=>h3 g' e⟩
    rw [hl,Nat.mul_one,List.map_take,← ht,List.take_take,Nat.mul_one,Nat.min_eq_left hm]
theorem setCells_other {b k : Nat} (hk : k ≠ b) : ∀ (vs : List Value) (o : Nat) (w : World), (w.setCells b o vs).heap[k]? = w.heap[k]?
  | [],_,_=>rfl
  | v::r,o,w=>by rw [World.setCells,setCells_other hk r];exact Below.heap_setCell _ _ _ _ hk
theorem Step.setCells {O O' : Nat → Prop} {a : World} {b : Nat} (hp : O' b) : ∀ (vs : List Value) (o : Nat) (w : World), Step O O' a w → Step O O' a (w.setCells b o vs)
  | [],_,_,h=>h
  | v::r,o,w,h=>Step.setCells hp r (o+1) _ (h.setCell (p:=⟨b,o,none⟩) hp v)
#print axioms Row.init
end Go.Proofs.YtjodmledadbgeacGreatDoor
namespace Go.Proofs.YtjodmledadbgeacGreatDoor
open Go.ChangeShapes Go.WideShapes Go.ChangeAt Go.RowKit Go.Deep
set_option linter.unusedVariables false
structure Lay (α : Type) where
  size:Nat
  In:World→(Nat→Prop)→α→List Value→Prop
  len:∀ {w O x cs},In w O x cs→cs.length=size
  keep:∀ {w w':World} {O O':Nat→Prop} {x cs},(∀ k,O k→k < w.heap.size→w'.heap[k]?=w.heap[k]?)→(∀ k,O k→k < w.heap.size→O' k)→In w O x cs→In w' O' x cs
section
variable {α β : Type} {L : Lay α} {w w' : World} {O O' : Nat → Prop} {x : α} {cs : List Value}
theorem Lay.below (h : L.In w O x cs) (b : Below w.heap.size w w') : L.In w' O x cs := L.keep (fun k _ hk => b.block k hk) (fun _ h _ => h) h
theorem Lay.lt {B : Nat} (h : L.In w (fun g => g < B) x cs) (b : Below B w w') : L.In w' (fun g => g < B) x cs := L.keep (fun k hk _ => b.block k hk) (fun _ h _ => h) h
theorem Lay.mono (h : L.In w O x cs) (hl : ∀ k, O k → k < w.heap.size → O' k) : L.In w O' x cs := L.keep (fun k _ _ => rfl) hl h
theorem Lay.alloc (h : L.In w O x cs) (o : Obj) : L.In (w.alloc o) O x cs := L.keep (fun k _ hk => Below.heap_alloc _ _ _ hk) (fun _ h _ => h) h
theorem Lay.setCell (h : L.In w O x cs) {p : Addr} (hp : ¬ O p.block) (v : Value) : L.In (w.setCell p v) O x cs :=
  L.keep (fun k hk _=>Below.heap_setCell _ _ _ _ (fun e=>by subst e;exact hp hk)) (fun _ h _=>h) h
theorem Lay.drewN (h : L.In w O x cs) (m : Nat) : L.In (w.drewN m) O x cs := L.keep (w := w) (w' := w.drewN m) (fun k _ _ => rfl) (fun _ h _ => h) h
end
def Lay.int : Lay Int where
  size:=1
  In:=fun _ _ x cs=>cs=[.int .i64 x]∧-9223372036854775808≤x∧x≤9223372036854775807
  len:=fun h=>by rw [h.1];rfl
  keep:=fun _ _ h=>h
def Lay.pair {α β : Type} (A : Lay α) (B : Lay β) : Lay (α × β) where
  size:=A.size+B.size
  In:=fun w O x cs=>∃ c d,cs=c++d∧A.In w O x.1 c∧B.In w O x.2 d
  len:=fun ⟨c,d,e,h1,h2⟩=>by rw [e,List.length_append,A.len h1,B.len h2]
  keep:=fun hb hl ⟨c,d,e,h1,h2⟩=>⟨c,d,e,A.keep hb hl h1,B.keep hb hl h2⟩
def Lay.list {α : Type} (A : Lay α) : Lay (List α) where
  size:=1
  In:=fun w O l cs=>∃ a c,cs=[.slice a l.length c]∧∀ (i:Nat) (x:α),l[i]?=some x→∃ g o ds,a=some ⟨g,o,none⟩∧O g∧g < w.heap.size∧(∀ j,j < A.size→w.cell? ⟨g,o+i * A.size+j,none⟩=ds[j]?)∧A.In w O x ds
  len:=fun ⟨_,_,e,_⟩=>by rw [e];rfl
  keep:=fun {w w' O O' l cs} hb hl ⟨a,c,e,h⟩=>⟨a,c,e,fun i x hx=>by
    obtain ⟨g,o,ds,e1,hg,hlt,hc,hi⟩:=h i x hx
    have hk:w'.heap[g]?=w.heap[g]?:=hb g hg hlt
    refine ⟨g,o,ds,e1,hl g hg hlt,?_,fun j hj=>?_,A.keep hb hl hi⟩
    · rcases Nat.lt_or_ge g w'.heap.size with h' | h'
      · exact h'
      · rw [Array.getElem?_eq_none h',Array.getElem?_eq_getElem hlt] at hk;cases hk
    · exact (World.cell?_of_block (w:=w) (a:=⟨g,o+i * A.size+j,none⟩) hk).trans (hc j hj)⟩
theorem Lay.int_mk (w : World) (O : Nat → Prop) {x : Int} (h : -9223372036854775808 ≤ x ∧ x ≤ 9223372036854775807) : Lay.int.In w O x [.int .i64 x] := ⟨rfl, h⟩
theorem Lay.list_nil {α : Type} (A : Lay α) (w : World) (O : Nat → Prop) (a : Option Addr) (c : Nat) : A.list.In w O [] [.slice a 0 c] := ⟨a, c, rfl, fun i x h => by simp at h⟩
theorem Lay.list_at {α : Type} {A : Lay α} {w : World} {O : Nat → Prop} {l : List α} {a : Option Addr} {n c : Nat} (h : A.list.In w O l [.slice a n c]) {i : Nat} {x : α} (hx : l[i]? = some x) :
    ∃ g o ds,a=some ⟨g,o,none⟩∧O g∧g < w.heap.size∧(∀ j,j < A.size→w.cell? ⟨g,o+i * A.size+j,none⟩=ds[j]?)∧A.In w O x ds:=by
  obtain ⟨a',c',e,h⟩:=h
  simp at e
  obtain ⟨rfl,_,rfl⟩:=e
  exact h i x hx
def Reads (P : Program) (t : TypeId) {α : Type} (A : Lay α) (n : Nat) : Prop :=
  P.cellsOf t=A.size∧∀ {H:Type} {enc:TypeId × Value→H} {w:World} {base:Nat} {spare:Nat→Bool} {held:Bool} {fuel:Nat} {cs:List Value} {x:DataW H × List MemPlace},
    fuel≤n→DataW.trod enc P w base spare held fuel t cs=some x→∃ d,A.In w (fun _=>True) d cs
theorem Reads.int {P : Program} {t : TypeId} (n : Nat) (h : P.underlying t = some (.int .i64)) (hc : P.cellsOf t = 1) : Reads P t Lay.int n :=
  ⟨hc,fun _ h'=>by
    obtain ⟨k,e,_,wf⟩:=DataW.trod_int h h'
    exact ⟨k,e,Go.bounds_i64 wf⟩⟩
theorem list_of' {α : Type} {P : Nat → α → Prop} (m : Nat) (h : ∀ i, i < m → ∃ x, P i x) : ∃ l : List α, l.length = m ∧ ∀ i x, l[i]? = some x → P i x := by
  induction m with
  | zero=>exact ⟨[],rfl,fun i x hx=>by simp at hx⟩
  | succ m ih =>
    obtain ⟨l,hl,hp⟩:=ih (fun i hi=>h i (by omega))
    obtain ⟨x,hx⟩:=h m (by omega)
    refine ⟨l++[x],by simp [hl],fun i y hy=>?_⟩
    rw [List.getElem?_append] at hy
    split at hy
    · exact hp i y hy
    · rename_i hi
      have:i=m:=by
        have:=(List.getElem?_eq_some_iff.1 hy).1
        simp at this
        omega
      subst this
      simp [hl] at hy
      subst hy
      exact hx
theorem Reads.list {P : Program} {t e : TypeId} {α : Type} {A : Lay α} {n : Nat} (h : P.underlying t = some (.slice e)) (hc : P.cellsOf t = 1) (hA : Reads P e A n) (h0 : 0 < A.size) : Reads P t A.list (n + 1) :=
  ⟨hc,fun {H enc w base spare held fuel cs x} hf h'=>by
    rcases DataW.trod_slice h h' with ⟨e2,_⟩ | ⟨a,len,cap,elems,rest,q,rfl,e2,_,hb,hl,hm,hlen,hel,_,_⟩
    · exact ⟨[],by rw [e2];exact Lay.list_nil A _ _ _ _⟩
    · obtain ⟨l,hll,hp⟩:=list_of' (P:=fun i (d:α)=>∃ ds,w.cells? base (a.add (i * A.size)) A.size=some ds∧A.In w (fun _=>True) d ds) len (fun i hi=>by
        have he:=hel i hi
        rw [List.getElem?_eq_getElem (by omega),hA.1] at he
        rw [Option.bind_eq_some_iff] at he
        obtain ⟨ds,hds,htr⟩:=he
        obtain ⟨d,hd⟩:=hA.2 (by omega) htr
        exact ⟨d,ds,hds,hd⟩)
      refine ⟨l,some a,cap,by rw [e2,hll],fun i x hx=>?_⟩
      obtain ⟨ds,hds,hd⟩:=hp i x hx
      obtain ⟨_,hcl,hcell⟩:=World.cells?_some hds
      obtain ⟨b,off,spot⟩:=a
      have hspot:spot=none:=by
        have hi:0 < l.length:=Nat.lt_of_le_of_lt (Nat.zero_le i) (List.getElem?_eq_some_iff.1 hx).1
        obtain ⟨ds0,hds0,hd0⟩:=hp 0 l[0] (List.getElem?_eq_getElem hi)
        have hl0:0 < ds0.length:=by rw [A.len hd0];exact h0
        have:=(World.cells?_some hds0).2.2 0 h0
        rw [List.getElem?_eq_getElem hl0] at this
        simpa [Addr.add] using World.cell?_spot this
      subst hspot
      have key:∀ j,j < A.size→w.cell? ⟨b,off+i * A.size+j,none⟩=ds[j]?:=fun j hj=>by
        have:=hcell j hj
        rw [Go.WideShapes.add_plain,Go.WideShapes.add_plain] at this
        exact this
      refine ⟨b,off,ds,rfl,trivial,?_,key,hd⟩
      have hl0:0 < ds.length:=by rw [A.len hd];exact h0
      have:=key 0 h0
      rw [List.getElem?_eq_getElem hl0] at this
      exact World.block_lt_of_cell? w _ this⟩
theorem Reads.mono {P : Program} {t : TypeId} {α : Type} {A : Lay α} {n m : Nat} (h : Reads P t A n) (hm : m ≤ n) : Reads P t A m := ⟨h.1, fun hf h' => h.2 (Nat.le_trans hf hm) h'⟩
def FieldsFrom (P : Program) (fs : Array Field) : Nat → Nat → {α : Type} → Lay α → Nat → Prop := fun i o α A n =>
  ∀ {H:Type} {enc:TypeId × Value→H} {w:World} {base:Nat} {spare:Nat→Bool} {held:Bool} {fuel:Nat} {cs:List Value} {xs:List (DataW H × List MemPlace)},
    fuel≤n→cs.length=o+A.size→xs.length=fs.size→(∀ (j:Nat) (f:Field),fs[j]?=some f→DataW.trod enc P w base spare held fuel f.type ((cs.drop f.offset).take (P.cellsOf f.type))=xs[j]?) →
    ∃ d,A.In w (fun _=>True) d (cs.drop o)
theorem FieldsFrom.last {P : Program} {fs : Array Field} {i o n : Nat} {f : Field} {α : Type} {A : Lay α} (hf : fs[i]? = some f) (ho : f.offset = o) (hA : Reads P f.type A n) : FieldsFrom P fs i o A n := by
  intro H enc w base spare held fuel cs xs hn hl hx h
  have g:=h i f hf
  have hi:i < fs.size:=(Array.getElem?_eq_some_iff.1 hf).1
  rw [List.getElem?_eq_getElem (by omega),ho,hA.1] at g
  obtain ⟨d,hd⟩:=hA.2 hn g
  refine ⟨d,?_⟩
  rwa [List.take_of_length_le (by simp;omega)] at hd
theorem FieldsFrom.cons {P : Program} {fs : Array Field} {i o n : Nat} {f : Field} {α β : Type} {A : Lay α} {B : Lay β} (hf : fs[i]? = some f) (ho : f.offset = o) (hA : Reads P f.type A n) (hB : FieldsFrom P fs (i + 1) (o + A.size) B n) : FieldsFrom P fs i o (A.pair B) n := by
  intro H enc w base spare held fuel cs xs hn hl hx h
  have g:=h i f hf
  have hi:i < fs.size:=(Array.getElem?_eq_some_iff.1 hf).1
  rw [List.getElem?_eq_getElem (by omega),ho,hA.1] at g
  obtain ⟨d,hd⟩:=hA.2 hn g
  have hs:(A.pair B).size=A.size+B.size:=rfl
  obtain ⟨e,he⟩:=hB hn (by omega) hx h
  refine ⟨(d,e),_,_,?_,hd,he⟩
  rw [← List.drop_drop,List.take_append_drop]
theorem Reads.struct {P : Program} {t : TypeId} {fs : Array Field} {α : Type} {A : Lay α} {n : Nat} (h : P.underlying t = some (.struct fs)) (hc : P.cellsOf t = A.size) (hF : FieldsFrom P fs 0 0 A n) : Reads P t A (n + 1) :=
  ⟨hc,fun {H enc w base spare held fuel cs x} hf h'=>by
    obtain ⟨xs,m,rfl,_,hcl,hxl,hfl⟩:=DataW.trod_struct h h'
    obtain ⟨d,hd⟩:=hF (by omega) (by rw [hcl,hc];omega) hxl hfl
    exact ⟨d,by simpa using hd⟩⟩
structure ARow {α : Type} (A : Lay α) (e : TypeId) (w : World) (lo : Nat) (v : Value) (l : List α) (xs : List Value) : Prop where
  own:w.ownsRow lo e A.size v l.length xs
  kids:∀ (i:Nat) (x:α),l[i]?=some x→A.In w (fun g=>lo≤g∧v.ownBlock≠some g) x ((xs.drop (i * A.size)).take A.size)
section
variable {α : Type} {A : Lay α} {e : TypeId} {w w' : World} {lo : Nat} {v : Value} {l : List α} {xs : List Value}
theorem ARow.nil (A : Lay α) (e : TypeId) (w : World) (lo : Nat) : ARow A e w lo (.slice none 0 0) [] [] := ⟨⟨by simp, Or.inl ⟨rfl, rfl⟩⟩, fun i x h => by simp at h⟩
theorem ARow.lo_le (h : ARow A e w lo v l xs) {g : Nat} (hg : v.ownBlock = some g) : lo ≤ g ∧ g < w.heap.size := by
  obtain ⟨⟨h1,h2⟩,h3⟩:=h
  rcases h2 with ⟨rfl,h4⟩ | ⟨g',cap,cur,rfl,hg',hh,r⟩
  · simp [Value.ownBlock] at hg
  · simp [Value.ownBlock] at hg;subst hg;exact ⟨hg',lt_of_block hh⟩
theorem ARow.below (h : ARow A e w lo v l xs) (b : Below w.heap.size w w') : ARow A e w' lo v l xs := by
  obtain ⟨⟨h1,h2⟩,h3⟩:=h
  refine ⟨⟨h1,?_⟩,fun i x hx=>Lay.below (h3 i x hx) b⟩
  rcases h2 with h4 | ⟨g,cap,cur,e,hg,hh,r⟩
  · exact Or.inl h4
  · exact Or.inr ⟨g,cap,cur,e,hg,(b.block g (lt_of_block hh)).trans hh,r⟩
theorem ARow.setOther (h : ARow A e w lo v l xs) {p : Addr} (hp : p.block < lo) (y : Value) : ARow A e (w.setCell p y) lo v l xs := by
  obtain ⟨⟨h1,h2⟩,h3⟩:=h
  refine ⟨⟨h1,?_⟩,fun i x hx=>Lay.setCell (h3 i x hx) (fun hk=>by have:=hk.1;omega) _⟩
  rcases h2 with h4 | ⟨g,cap,cur,e,hg,hh,r⟩
  · exact Or.inl h4
  · exact Or.inr ⟨g,cap,cur,e,hg,(Below.heap_setCell _ _ _ _ (by omega)).trans hh,r⟩
theorem ARow.lay (h : ARow A e w lo v l xs) : A.list.In w (fun g => lo ≤ g) l [v] := by
  obtain ⟨⟨h1,h2⟩,h3⟩:=h
  rcases h2 with ⟨rfl,h4⟩ | ⟨g,cap,cur,rfl,hg,hh,hn,hm,hs,ht⟩
  · have:l=[]:=List.length_eq_zero_iff.1 h4
    subst this
    exact Lay.list_nil A _ _ _ _
  · refine ⟨some ⟨g,0,none⟩,cap,rfl,fun i x hx=>⟨g,0,_,rfl,hg,lt_of_block hh,fun j hj=>?_,Lay.mono (h3 i x hx) (fun k hk _=>hk.1)⟩⟩
    have hi:i < l.length:=(List.getElem?_eq_some_iff.1 hx).1
    have hij:i * A.size+j < l.length * A.size:=by
      have:(i+1) * A.size≤l.length * A.size:=Nat.mul_le_mul_right _ hi
      rw [Nat.add_mul] at this
      omega
    rw [List.getElem?_take,if_pos hj,List.getElem?_drop,← ht,List.getElem?_take,if_pos hij,Nat.zero_add]
    have hcs:i * A.size+j < cur.size:=by
      have:l.length * A.size≤cap * A.size:=Nat.mul_le_mul_right _ hn
      omega
    rw [Array.getElem?_toList]
    exact (cellOf hh _ cur[i * A.size+j] (Array.getElem?_eq_getElem hcs)).trans (Array.getElem?_eq_getElem hcs).symm
theorem ARow.push (h : ARow A e w lo v l xs) {x : α} {ds : List Value} (hx : A.In w (fun g => lo ≤ g ∧ v.ownBlock ≠ some g) x ds)
    {g cap:Nat} (hg:w.grownBy w' v.ownBlock) (hat:v.ownBlock=some g ∨ g=w.heap.size)
    (ho:w'.ownsRow lo e A.size (.slice (some ⟨g,0,none⟩) (l.length+1) cap) (l.length+1) (xs++ds)) :
    ARow A e w' lo (.slice (some ⟨g,0,none⟩) (l.length+1) cap) (l++[x]) (xs++ds):=by
  obtain ⟨h1,h3⟩:=h
  have hxl:=h1.1
  have hdl:=A.len hx
  have keep:∀ {y:α} {es:List Value},A.In w (fun g=>lo≤g∧v.ownBlock≠some g) y es→A.In w' (fun g'=>lo≤g'∧(Value.slice (some ⟨g,0,none⟩) (l.length+1) cap).ownBlock≠some g') y es:=fun hy=>by
    refine A.keep (fun k hk hl=>?_) (fun k hk hl=>⟨hk.1,?_⟩) hy
    · exact hg.block k hl (fun e=>hk.2 e.symm)
    · simp only [Value.ownBlock,ne_eq,Option.some.injEq]
      intro e
      subst e
      rcases hat with h' | h'
      · exact hk.2 h'
      · omega
  refine ⟨by rw [List.length_append];exact ho,fun i y hy=>?_⟩
  rw [List.getElem?_append] at hy
  split at hy
  · rename_i hi
    have hm:(i+1) * A.size≤l.length * A.size:=Nat.mul_le_mul_right _ hi
    rw [Nat.add_mul] at hm
    have:=h3 i y hy
    rw [List.drop_append_of_le_length (by omega),List.take_append_of_le_length (by simp;omega)]
    exact keep this
  · rename_i hi
    have hi2:i=l.length:=by
      have:=(List.getElem?_eq_some_iff.1 hy).1
      simp at this
      omega
    subst hi2
    simp at hy
    subst hy
    rw [List.drop_append,List.drop_of_length_le (by omega),← hxl,Nat.sub_self,List.drop_zero,List.nil_append,List.take_of_length_le (by omega)]
    exact keep hx
end
end Go.Proofs.YtjodmledadbgeacGreatDoor
namespace Go.Proofs.YtjodmledadbgeacGreatDoor
set_option linter.unusedVariables false
def TT : Nat → Type
  | 0=>Empty
  | n+1=>Int × Int × List (TT n)
def TT.kind : {n : Nat} → TT n → Int
  | 0,t=>Empty.elim t
  | _+1,t=>t.1
def TT.r : {n : Nat} → TT n → Int
  | 0,t=>Empty.elim t
  | _+1,t=>t.2.1
def TT.len : {n : Nat} → TT n → Nat
  | 0,t=>Empty.elim t
  | _+1,t=>t.2.2.length
def TT.count : {n : Nat} → TT n → Nat
  | 0,t=>Empty.elim t
  | n+1,t=>1+(t.2.2.map (TT.count (n:=n))).sum
def TT.height : {n : Nat} → TT n → Nat
  | 0,t=>Empty.elim t
  | n+1,t=>(t.2.2.map (fun x=>1+TT.height (n:=n) x)).foldl max 0
def ownC (k r : Int) (len : Nat) (regs : Int) : Int :=
  if k < 1 ∨ 4 < k then 3
  else if k=1∧r≠0 then 4
  else if k≠3∧0 < len then 4
  else if 8 < len then 2
  else if k≠1∧(r < 0 ∨ regs≤r) then 1
  else 0
def firstL {α : Type} (f : α → Int) : List α → Int
  | []=>0
  | x::xs=>if f x≠0 then f x else firstL f xs
def TT.fault : {n : Nat} → Int → TT n → Int
  | 0,_,t=>Empty.elim t
  | n+1,regs,t=>if ownC t.1 t.2.1 t.2.2.length regs≠0 then ownC t.1 t.2.1 t.2.2.length regs else firstL (TT.fault (n:=n) regs) t.2.2
def TT.check {n : Nat} (regs : Int) (t : TT n) : Int := if 4 < t.height then 19 else t.fault regs
def TT.ok : {n : Nat} → TT n → Prop
  | 0,t=>Empty.elim t
  | n+1,t=>(-9223372036854775808≤t.2.1∧t.2.1≤9223372036854775807)∧∀ x ∈ t.2.2,TT.ok (n:=n) x
theorem firstL_eq {α : Type} {f : α → Int} : ∀ {l : List α} {i : Nat} {x : α}, l[i]? = some x → (∀ (j : Nat) y, j < i → l[j]? = some y → f y = 0) → f x ≠ 0 → firstL f l = f x
  | [],i,x,h,_,_=>by simp at h
  | y::ys,0,x,h,_,hf=>by simp at h;subst h;simp [firstL,hf]
  | y::ys,i+1,x,h,hz,hf=>by
    have h0:f y=0:=hz 0 y (by omega) rfl
    simp only [firstL,h0,ne_eq,not_true_eq_false,if_false]
    exact firstL_eq (by simpa using h) (fun j z hj hjz=>hz (j+1) z (by omega) (by simpa using hjz)) hf
theorem firstL_zero {α : Type} {f : α → Int} : ∀ {l : List α}, (∀ (j : Nat) y, l[j]? = some y → f y = 0) → firstL f l = 0
  | [],_=>rfl
  | y::ys,h=>by
    have h0:f y=0:=h 0 y rfl
    simp only [firstL,h0,ne_eq,not_true_eq_false,if_false]
    exact firstL_zero (fun j z hz=>h (j+1) z (by simpa using hz))
theorem TT.count_pos : {n : Nat} → (t : TT n) → 1 ≤ t.count
  | 0,t=>Empty.elim t
  | n+1,t=>by simp only [TT.count];omega
theorem length_le_sum : ∀ (l : List Nat), (∀ x ∈ l, 1 ≤ x) → l.length ≤ l.sum
  | [],_=>by simp
  | x::xs,h=>by
    have h1:=h x (by simp)
    have h2:=length_le_sum xs (fun y hy=>h y (by simp [hy]))
    simp only [List.length_cons,List.sum_cons]
    omega
theorem TT.len_lt_count : {n : Nat} → (t : TT n) → t.len < t.count
  | 0,t=>Empty.elim t
  | n+1,t=>by
    have:=length_le_sum (t.2.2.map (TT.count (n:=n))) (fun x hx=>by simp only [List.mem_map] at hx;obtain ⟨y,_,rfl⟩:=hx;exact y.count_pos)
    simp only [TT.count,TT.len]
    simp at this
    omega
theorem le_sum_of_mem : ∀ {l : List Nat} {x : Nat}, x ∈ l → x ≤ l.sum
  | y::ys,x,h=>by
    rcases List.mem_cons.1 h with rfl | h
    · simp
    · have:=le_sum_of_mem h
      simp only [List.sum_cons];omega
theorem TT.count_kid {n : Nat} (t : TT (n + 1)) {x : TT n} (h : x ∈ t.2.2) : x.count < t.count := by
  have:=le_sum_of_mem (l:=t.2.2.map (TT.count (n:=n))) (List.mem_map_of_mem h)
  simp only [TT.count]
  omega
theorem foldl_max_le {l : List Nat} {a m : Nat} : l.foldl max a ≤ m ↔ a ≤ m ∧ ∀ x ∈ l, x ≤ m := by
  induction l generalizing a with
  | nil=>simp
  | cons y ys ih =>
    simp only [List.foldl_cons,ih,List.mem_cons,forall_eq_or_imp,Nat.max_le,and_assoc]
theorem height_le {n : Nat} {t : TT (n + 1)} {m : Nat} : t.height ≤ m ↔ ∀ x ∈ t.2.2, 1 + x.height ≤ m := by
  simp only [TT.height,foldl_max_le,List.mem_map,Nat.zero_le,true_and,forall_exists_index,and_imp,forall_apply_eq_imp_iff₂]
end Go.Proofs.YtjodmledadbgeacGreatDoor
namespace Go.Proofs.YtjodmledadbgeacGreatDoor
open Go.ChangeShapes Go.WideShapes Go.ChangeAt Go.RowKit Go.Deep
set_option linter.unusedVariables false
abbrev All : Nat → Prop := fun _ => True
def TIn (w : World) (O : Nat → Prop) : {n : Nat} → TT n → Option Addr → Prop
  | 0,t,_=>Empty.elim t
  | n+1,t,a=>∀ (i:Nat) (x:TT n),t.2.2[i]?=some x→∃ g o a' c',a=some ⟨g,o,none⟩∧O g ∧
      w.cell? ⟨g,o+i * 3,none⟩=some (.int .i64 x.kind)∧w.cell? ⟨g,o+i * 3+1,none⟩=some (.int .i64 x.r)∧w.cell? ⟨g,o+i * 3+2,none⟩=some (.slice a' x.len c')∧TIn w O (n:=n) x a'
abbrev Tv {n : Nat} (t : TT n) (a : Option Addr) (c : Nat) : Value := .agg #[.int .i64 t.kind, .int .i64 t.r, .slice a t.len c]
abbrev mkT {n : Nat} (k r : Int) (l : List (TT n)) : TT (n + 1) := (k, r, l)
abbrev LIn (w : World) (O : Nat → Prop) {n : Nat} (l : List (TT n)) (a : Option Addr) : Prop := TIn w O (mkT 0 0 l) a
theorem TIn.list {w : World} {O : Nat → Prop} {n : Nat} {t : TT (n + 1)} {a : Option Addr} (h : TIn w O t a) : LIn w O t.2.2 a := h
theorem LIn.tree {w : World} {O : Nat → Prop} {n : Nat} {k r : Int} {l : List (TT n)} {a : Option Addr} (h : LIn w O l a) : TIn w O (mkT k r l) a := h
theorem LIn.at {w : World} {O : Nat → Prop} {n : Nat} {l : List (TT n)} {a : Option Addr} (h : LIn w O l a) {i : Nat} {x : TT n} (hx : l[i]? = some x) :
    ∃ g o a' c',a=some ⟨g,o,none⟩∧O g ∧
      w.cell? ⟨g,o+i * 3,none⟩=some (.int .i64 x.kind)∧w.cell? ⟨g,o+i * 3+1,none⟩=some (.int .i64 x.r)∧w.cell? ⟨g,o+i * 3+2,none⟩=some (.slice a' x.len c')∧TIn w O x a':=h i x hx
theorem LIn.nil {w : World} {O : Nat → Prop} {n : Nat} {a : Option Addr} : LIn w O ([] : List (TT n)) a := fun i x h => by simp at h
theorem TIn.keep {w w' : World} {O O' : Nat → Prop} (hb : ∀ k, O k → k < w.heap.size → w'.heap[k]? = w.heap[k]?) (hl : ∀ k, O k → k < w.heap.size → O' k) : {n : Nat} → {t : TT n} → {a : Option Addr} → TIn w O t a → TIn w' O' t a
  | 0,t,_,_=>Empty.elim t
  | n+1,t,a,h=>fun i x hx=>by
    obtain ⟨g,o,a',c',e,hg,h1,h2,h3,h4⟩:=h i x hx
    have hgl:g < w.heap.size:=World.block_lt_of_cell? w ⟨g,o+i * 3,none⟩ h1
    have hk:w'.heap[g]?=w.heap[g]?:=hb g hg hgl
    refine ⟨g,o,a',c',e,hl g hg hgl,?_,?_,?_,TIn.keep hb hl h4⟩
    · exact (World.cell?_of_block (w:=w) (a:=⟨g,o+i * 3,none⟩) hk).trans h1
    · exact (World.cell?_of_block (w:=w) (a:=⟨g,o+i * 3+1,none⟩) hk).trans h2
    · exact (World.cell?_of_block (w:=w) (a:=⟨g,o+i * 3+2,none⟩) hk).trans h3
section
variable {w w' : World} {O O' : Nat → Prop} {n : Nat} {t : TT n} {a : Option Addr}
theorem TIn.below (h : TIn w O t a) (b : Below w.heap.size w w') : TIn w' O t a := h.keep (fun k _ hk => b.block k hk) (fun _ h _ => h)
theorem TIn.mono (h : TIn w O t a) (hl : ∀ k, O k → k < w.heap.size → O' k) : TIn w O' t a := h.keep (fun k _ _ => rfl) hl
theorem TIn.all (h : TIn w O t a) : TIn w All t a := h.mono (fun _ _ _ => trivial)
theorem TIn.alloc (h : TIn w O t a) (o : Obj) : TIn (w.alloc o) O t a := h.keep (fun k _ hk => Below.heap_alloc _ _ _ hk) (fun _ h _ => h)
theorem TIn.setCell (h : TIn w O t a) {p : Addr} (hp : ¬ O p.block) (v : Value) : TIn (w.setCell p v) O t a :=
  h.keep (fun k hk _=>Below.heap_setCell _ _ _ _ (fun e=>by subst e;exact hp hk)) (fun _ h _=>h)
theorem TIn.drew (h : TIn w O t a) : TIn w.drew O t a := h.keep (w := w) (w' := w.drew) (fun k _ _ => rfl) (fun _ h _ => h)
theorem TIn.drewN (h : TIn w O t a) (m : Nat) : TIn (w.drewN m) O t a := h.keep (w := w) (w' := w.drewN m) (fun k _ _ => rfl) (fun _ h _ => h)
end
theorem TT.len_eq {n : Nat} (t : TT (n + 1)) : t.len = t.2.2.length := rfl
theorem list_of {α : Type} {P : Nat → α → Prop} (m : Nat) (h : ∀ i, i < m → ∃ x, P i x) : ∃ l : List α, l.length = m ∧ ∀ i x, l[i]? = some x → P i x := by
  induction m with
  | zero=>exact ⟨[],rfl,fun i x hx=>by simp at hx⟩
  | succ m ih =>
    obtain ⟨l,hl,hp⟩:=ih (fun i hi=>h i (by omega))
    obtain ⟨x,hx⟩:=h m (by omega)
    refine ⟨l++[x],by simp [hl],fun i y hy=>?_⟩
    rw [List.getElem?_append] at hy
    split at hy
    · exact hp i y hy
    · rename_i hi
      have:i=m:=by
        have:=(List.getElem?_eq_some_iff.1 hy).1
        simp at this
        omega
      subst this
      simp [hl] at hy
      subst hy
      exact hx
theorem tin_of {H : Type} {enc : TypeId × Value → H} {P : Program} {w : World} {base : Nat} {spare : Nat → Bool} {held : Bool} {tt ts ti : TypeId} {f0 f1 f2 : Field}
    (hs:P.underlying ts=some (.slice tt)) (ht:P.underlying tt=some (.struct #[f0,f1,f2])) (hc:P.cellsOf tt=3)
    (h0:f0.offset=0∧P.cellsOf f0.type=1∧P.underlying f0.type=some (.int .i64)) (h1:f1.offset=1∧P.cellsOf f1.type=1∧P.underlying f1.type=some (.int .i64))
    (h2:f2.offset=2∧P.cellsOf f2.type=1∧f2.type=ts):∀ (n fuel:Nat),fuel≤n→∀ {cs:List Value} {x:DataW H × List MemPlace},
    DataW.trod enc P w base spare held fuel tt cs=some x→∃ (T:TT n) (a:Option Addr) (c:Nat),cs=[.int .i64 T.kind,.int .i64 T.r,.slice a T.len c]∧TIn w All T a∧T.ok:=by
  intro n
  induction n with
  | zero =>
    intro fuel hf cs x h
    obtain rfl:fuel=0:=by omega
    simp [DataW.trod] at h
  | succ n ih =>
    intro fuel hf cs x h
    obtain ⟨xs,m,rfl,_,hcl,hxl,hfl⟩:=DataW.trod_struct ht h
    have hxl':xs.length=3:=hxl
    have g0:=hfl 0 f0 rfl
    have g1:=hfl 1 f1 rfl
    have g2:=hfl 2 f2 rfl
    rw [h0.1,h0.2.1,List.getElem?_eq_getElem (by omega)] at g0
    rw [h1.1,h1.2.1,List.getElem?_eq_getElem (by omega)] at g1
    rw [h2.1,h2.2.1,h2.2.2,List.getElem?_eq_getElem (by omega)] at g2
    obtain ⟨k,e0,_,_⟩:=DataW.trod_int h0.2.2 g0
    obtain ⟨r,e1,_,wf1⟩:=DataW.trod_int h1.2.2 g1
    have ew:-9223372036854775808≤r∧r≤9223372036854775807:=by
      have:=Go.bounds_i64 wf1
      omega
    rw [hc] at hcl
    obtain ⟨c0,c1,c2,rfl⟩:∃ c0 c1 c2,cs=[c0,c1,c2]:=by
      match cs,hcl with
      | [c0,c1,c2],_=>exact ⟨_,_,_,rfl⟩
    simp at e0 e1
    subst e0 e1
    rcases DataW.trod_slice hs g2 with ⟨e2,_⟩ | ⟨a,len,cap,elems,rest,q,rfl,e2,_,hb,hl,hm,hlen,hel,_,_⟩
    · simp at e2
      subst e2
      exact ⟨mkT k r [],none,0,rfl,LIn.nil,ew,fun x hx=>by cases hx⟩
    · simp at e2
      subst e2
      obtain ⟨l,hll,hp⟩:=list_of (P:=fun i (T:TT n)=>∃ a' c',w.cells? base (a.add (i * 3)) 3=some [.int .i64 T.kind,.int .i64 T.r,.slice a' T.len c']∧TIn w All T a'∧T.ok) len (fun i hi=>by
        have he:=hel i hi
        rw [List.getElem?_eq_getElem (by omega),hc] at he
        rw [Option.bind_eq_some_iff] at he
        obtain ⟨cs',hcs,htr⟩:=he
        obtain ⟨T,a',c',rfl,t1,t2⟩:=ih q (by omega) htr
        exact ⟨T,a',c',hcs,t1,t2⟩)
      refine ⟨mkT k r l,some a,cap,by simp [TT.kind,TT.r,TT.len,hll],fun i x hx=>?_,ew,fun x hx=>?_⟩
      · obtain ⟨a',c',hcs,t1,t2⟩:=hp i x hx
        obtain ⟨_,hcl',hcell⟩:=World.cells?_some hcs
        have q0:=hcell 0 (by omega)
        have q1:=hcell 1 (by omega)
        have q2:=hcell 2 (by omega)
        obtain ⟨b,off,spot⟩:=a
        have hspot:spot=none:=by
          have hi:0 < l.length:=Nat.lt_of_le_of_lt (Nat.zero_le i) (List.getElem?_eq_some_iff.1 hx).1
          obtain ⟨_,_,hcs0,_,_⟩:=hp 0 l[0] (List.getElem?_eq_getElem hi)
          have:=(World.cells?_some hcs0).2.2 0 (by omega)
          simpa [Addr.add] using World.cell?_spot this
        subst hspot
        rw [Go.WideShapes.add_plain,Go.WideShapes.add_plain] at q0 q1 q2
        exact ⟨b,off,a',c',rfl,trivial,q0,q1,q2,t1⟩
      · obtain ⟨i,hi,rfl⟩:=List.mem_iff_getElem.1 hx
        obtain ⟨a',c',hcs,t1,t2⟩:=hp i l[i] (List.getElem?_eq_getElem hi)
        exact t2
#print axioms tin_of
structure MIns where
  op:Int
  a:Int
  b:Int
  c:Int
  k:Int
  n:Int
  regs:List Int
  args:List Int
structure MTo where
  block:Int
  regs:List Int
  args:List Int
structure MEnd where
  op:Int
  a:Int
  yes:MTo
  no:MTo
  args:List Int
structure MBlock (n : Nat) where
  regs:Int
  params:List (TT n)
  code:List MIns
  fin:MEnd
structure MFunc (n : Nat) where
  regs:Int
  params:List (TT n)
  results:List (TT n)
  blocks:List (MBlock n)
def Lay.via {α β : Type} (A : Lay α) (f : β → α) : Lay β where
  size:=A.size
  In:=fun w O x cs=>A.In w O (f x) cs
  len:=fun h=>A.len h
  keep:=fun hb hl h=>A.keep hb hl h
theorem Reads.via {P : Program} {t : TypeId} {α β : Type} {A : Lay α} {n : Nat} {f : β → α} (h : Reads P t A n) (g : α → β) (hg : ∀ d, f (g d) = d) : Reads P t (A.via f) n :=
  ⟨h.1,fun hf h'=>by
    obtain ⟨d,hd⟩:=h.2 hf h'
    exact ⟨g d,by show A.In _ _ (f (g d)) _;rw [hg];exact hd⟩⟩
def Lay.tt (n : Nat) : Lay (TT n) where
  size:=3
  In:=fun w O t cs=>∃ a c,cs=[.int .i64 t.kind,.int .i64 t.r,.slice a t.len c]∧TIn w O t a∧t.ok
  len:=fun ⟨_,_,e,_⟩=>by rw [e];rfl
  keep:=fun hb hl ⟨a,c,e,h1,h2⟩=>⟨a,c,e,h1.keep hb hl,h2⟩
abbrev intsL : Lay (List Int) := Lay.int.list
abbrev typesL (n : Nat) : Lay (List (TT n)) := (Lay.tt n).list
def insL : Lay MIns := (Lay.int.pair (Lay.int.pair (Lay.int.pair (Lay.int.pair (Lay.int.pair (Lay.int.pair (intsL.pair intsL))))))).via (fun x => (x.op, x.a, x.b, x.c, x.k, x.n, x.regs, x.args))
def toL : Lay MTo := (Lay.int.pair (intsL.pair intsL)).via (fun x => (x.block, x.regs, x.args))
def endL : Lay MEnd := (Lay.int.pair (Lay.int.pair (toL.pair (toL.pair intsL)))).via (fun x => (x.op, x.a, x.yes, x.no, x.args))
def blockL (n : Nat) : Lay (MBlock n) := (Lay.int.pair ((typesL n).pair (insL.list.pair endL))).via (fun x => (x.regs, x.params, x.code, x.fin))
def funcL (n : Nat) : Lay (MFunc n) := (Lay.int.pair ((typesL n).pair ((typesL n).pair (blockL n).list))).via (fun x => (x.regs, x.params, x.results, x.blocks))
abbrev modL (n : Nat) : Lay (List (MFunc n)) := (funcL n).list
section
variable {w : World} {O : Nat → Prop} {n : Nat} {cs : List Value}
theorem list_form {α : Type} {A : Lay α} {l : List α} (h : A.list.In w O l cs) : ∃ a c, cs = [.slice a l.length c] ∧ A.list.In w O l [.slice a l.length c] := by
  obtain ⟨a,c,e,h⟩:=h
  exact ⟨a,c,e,a,c,rfl,h⟩
theorem to_form {x : MTo} (h : toL.In w O x cs) : ∃ a c b d, cs = [.int .i64 x.block, .slice a x.regs.length c, .slice b x.args.length d] ∧ intsL.In w O x.regs [.slice a x.regs.length c] ∧ intsL.In w O x.args [.slice b x.args.length d] ∧ (-9223372036854775808 ≤ x.block ∧ x.block ≤ 9223372036854775807) := by
  obtain ⟨_,_,rfl,⟨rfl,h0⟩,⟨_,_,rfl,h1,h2⟩⟩:=h
  obtain ⟨a,c,rfl,h1⟩:=list_form h1
  obtain ⟨b,d,rfl,h2⟩:=list_form h2
  exact ⟨a,c,b,d,rfl,h1,h2,h0⟩
theorem to_mk {x : MTo} {a b : Option Addr} {c d : Nat} (h1 : intsL.In w O x.regs [.slice a x.regs.length c]) (h2 : intsL.In w O x.args [.slice b x.args.length d]) (h0 : -9223372036854775808 ≤ x.block ∧ x.block ≤ 9223372036854775807) :
    toL.In w O x [.int .i64 x.block,.slice a x.regs.length c,.slice b x.args.length d]:=⟨_,_,rfl,⟨rfl,h0⟩,⟨_,_,rfl,h1,h2⟩⟩
theorem ins_form {x : MIns} (h : insL.In w O x cs) : ∃ a c b d, cs = [.int .i64 x.op, .int .i64 x.a, .int .i64 x.b, .int .i64 x.c, .int .i64 x.k, .int .i64 x.n, .slice a x.regs.length c, .slice b x.args.length d] ∧ intsL.In w O x.regs [.slice a x.regs.length c] ∧ intsL.In w O x.args [.slice b x.args.length d] ∧
    ((-9223372036854775808≤x.op∧x.op≤9223372036854775807)∧(-9223372036854775808≤x.a∧x.a≤9223372036854775807)∧(-9223372036854775808≤x.b∧x.b≤9223372036854775807)∧(-9223372036854775808≤x.c∧x.c≤9223372036854775807)∧(-9223372036854775808≤x.k∧x.k≤9223372036854775807)∧(-9223372036854775808≤x.n∧x.n≤9223372036854775807)):=by
  obtain ⟨_,_,rfl,⟨rfl,h0⟩,⟨_,_,rfl,⟨rfl,h1⟩,⟨_,_,rfl,⟨rfl,h2⟩,⟨_,_,rfl,⟨rfl,h3⟩,⟨_,_,rfl,⟨rfl,h4⟩,⟨_,_,rfl,⟨rfl,h5⟩,⟨_,_,rfl,h6,h7⟩⟩⟩⟩⟩⟩⟩:=h
  obtain ⟨a,c,rfl,h6⟩:=list_form h6
  obtain ⟨b,d,rfl,h7⟩:=list_form h7
  exact ⟨a,c,b,d,rfl,h6,h7,h0,h1,h2,h3,h4,h5⟩
theorem ins_mk {x : MIns} {a b : Option Addr} {c d : Nat} (h1 : intsL.In w O x.regs [.slice a x.regs.length c]) (h2 : intsL.In w O x.args [.slice b x.args.length d])
    (h0:(-9223372036854775808≤x.op∧x.op≤9223372036854775807)∧(-9223372036854775808≤x.a∧x.a≤9223372036854775807)∧(-9223372036854775808≤x.b∧x.b≤9223372036854775807)∧(-9223372036854775808≤x.c∧x.c≤9223372036854775807)∧(-9223372036854775808≤x.k∧x.k≤9223372036854775807)∧(-9223372036854775808≤x.n∧x.n≤9223372036854775807)) :
    insL.In w O x [.int .i64 x.op,.int .i64 x.a,.int .i64 x.b,.int .i64 x.c,.int .i64 x.k,.int .i64 x.n,.slice a x.regs.length c,.slice b x.args.length d] :=
  ⟨_,_,rfl,⟨rfl,h0.1⟩,⟨_,_,rfl,⟨rfl,h0.2.1⟩,⟨_,_,rfl,⟨rfl,h0.2.2.1⟩,⟨_,_,rfl,⟨rfl,h0.2.2.2.1⟩,⟨_,_,rfl,⟨rfl,h0.2.2.2.2.1⟩,⟨_,_,rfl,⟨rfl,h0.2.2.2.2.2⟩,⟨_,_,rfl,h1,h2⟩⟩⟩⟩⟩⟩⟩
theorem end_form {x : MEnd} (h : endL.In w O x cs) : ∃ c1 c2 a c, cs = .int .i64 x.op :: .int .i64 x.a :: (c1 ++ (c2 ++ [.slice a x.args.length c])) ∧ toL.In w O x.yes c1 ∧ toL.In w O x.no c2 ∧ intsL.In w O x.args [.slice a x.args.length c] ∧ ((-9223372036854775808 ≤ x.op ∧ x.op ≤ 9223372036854775807) ∧ (-9223372036854775808 ≤ x.a ∧ x.a ≤ 9223372036854775807)) := by
  obtain ⟨_,_,rfl,⟨rfl,h0⟩,⟨_,_,rfl,⟨rfl,h1⟩,⟨c1,_,rfl,h2,⟨c2,_,rfl,h3,h4⟩⟩⟩⟩:=h
  obtain ⟨a,c,rfl,h4⟩:=list_form h4
  exact ⟨c1,c2,a,c,rfl,h2,h3,h4,h0,h1⟩
theorem end_mk {x : MEnd} {c1 c2 : List Value} {a : Option Addr} {c : Nat} (h2 : toL.In w O x.yes c1) (h3 : toL.In w O x.no c2) (h4 : intsL.In w O x.args [.slice a x.args.length c]) (h0 : (-9223372036854775808 ≤ x.op ∧ x.op ≤ 9223372036854775807) ∧ (-9223372036854775808 ≤ x.a ∧ x.a ≤ 9223372036854775807)) :
    endL.In w O x (.int .i64 x.op::.int .i64 x.a::(c1++(c2++[.slice a x.args.length c]))):=⟨[_],_,rfl,⟨rfl,h0.1⟩,⟨[_],_,rfl,⟨rfl,h0.2⟩,⟨c1,_,rfl,h2,⟨c2,_,rfl,h3,h4⟩⟩⟩⟩
theorem block_form {x : MBlock n} (h : (blockL n).In w O x cs) : ∃ a c b d es, cs = .int .i64 x.regs :: .slice a x.params.length c :: .slice b x.code.length d :: es ∧ (typesL n).In w O x.params [.slice a x.params.length c] ∧ insL.list.In w O x.code [.slice b x.code.length d] ∧ endL.In w O x.fin es ∧ (-9223372036854775808 ≤ x.regs ∧ x.regs ≤ 9223372036854775807) := by
  obtain ⟨_,_,rfl,⟨rfl,h0⟩,⟨_,_,rfl,h1,⟨_,es,rfl,h2,h3⟩⟩⟩:=h
  obtain ⟨a,c,rfl,h1⟩:=list_form h1
  obtain ⟨b,d,rfl,h2⟩:=list_form h2
  exact ⟨a,c,b,d,es,rfl,h1,h2,h3,h0⟩
theorem block_mk {x : MBlock n} {a b : Option Addr} {c d : Nat} {es : List Value} (h1 : (typesL n).In w O x.params [.slice a x.params.length c]) (h2 : insL.list.In w O x.code [.slice b x.code.length d]) (h3 : endL.In w O x.fin es) (h0 : -9223372036854775808 ≤ x.regs ∧ x.regs ≤ 9223372036854775807) :
    (blockL n).In w O x (.int .i64 x.regs::.slice a x.params.length c::.slice b x.code.length d::es):=⟨[_],_,rfl,⟨rfl,h0⟩,⟨[_],_,rfl,h1,⟨[_],es,rfl,h2,h3⟩⟩⟩
theorem func_form {x : MFunc n} (h : (funcL n).In w O x cs) : ∃ a c b d e f, cs = [.int .i64 x.regs, .slice a x.params.length c, .slice b x.results.length d, .slice e x.blocks.length f] ∧ (typesL n).In w O x.params [.slice a x.params.length c] ∧ (typesL n).In w O x.results [.slice b x.results.length d] ∧ (blockL n).list.In w O x.blocks [.slice e x.blocks.length f] ∧ (-9223372036854775808 ≤ x.regs ∧ x.regs ≤ 9223372036854775807) := by
  obtain ⟨_,_,rfl,⟨rfl,h0⟩,⟨_,_,rfl,h1,⟨_,_,rfl,h2,h3⟩⟩⟩:=h
  obtain ⟨a,c,rfl,h1⟩:=list_form h1
  obtain ⟨b,d,rfl,h2⟩:=list_form h2
  obtain ⟨e,f,rfl,h3⟩:=list_form h3
  exact ⟨a,c,b,d,e,f,rfl,h1,h2,h3,h0⟩
theorem func_mk {x : MFunc n} {a b e : Option Addr} {c d f : Nat} (h1 : (typesL n).In w O x.params [.slice a x.params.length c]) (h2 : (typesL n).In w O x.results [.slice b x.results.length d]) (h3 : (blockL n).list.In w O x.blocks [.slice e x.blocks.length f]) (h0 : -9223372036854775808 ≤ x.regs ∧ x.regs ≤ 9223372036854775807) :
    (funcL n).In w O x [.int .i64 x.regs,.slice a x.params.length c,.slice b x.results.length d,.slice e x.blocks.length f]:=⟨[_],_,rfl,⟨rfl,h0⟩,⟨[_],_,rfl,h1,⟨[_],_,rfl,h2,h3⟩⟩⟩
theorem ints_at {l : List Int} {a : Option Addr} {m c : Nat} (h : intsL.In w O l [.slice a m c]) {i : Nat} (hi : i < l.length) : ∃ g o, a = some ⟨g, o, none⟩ ∧ O g ∧ g < w.heap.size ∧ w.cell? ⟨g, o + i, none⟩ = some (.int .i64 (l.getD i 0)) := by
  obtain ⟨g,o,ds,e,h1,h2,h3,rfl,_⟩:=Lay.list_at h (List.getElem?_eq_getElem hi)
  refine ⟨g,o,e,h1,h2,?_⟩
  have:=h3 0 (by decide)
  have hs:Lay.int.size=1:=rfl
  rw [hs,Nat.mul_one,Nat.add_zero] at this
  rw [this]
  simp [List.getD,hi]
theorem types_lin {l : List (TT n)} {a : Option Addr} {m c : Nat} (h : (typesL n).In w O l [.slice a m c]) : LIn w O l a ∧ ∀ x ∈ l, x.ok := by
  refine ⟨fun i x hx=>?_,fun x hx=>?_⟩
  · obtain ⟨g,o,ds,e,h1,h2,h3,a',c',rfl,h4,_⟩:=Lay.list_at h hx
    have hs:(Lay.tt n).size=3:=rfl
    rw [hs] at h3
    exact ⟨g,o,a',c',e,h1,h3 0 (by omega),h3 1 (by omega),h3 2 (by omega),h4⟩
  · obtain ⟨i,hi,rfl⟩:=List.mem_iff_getElem.1 hx
    obtain ⟨g,o,ds,e,h1,h2,h3,a',c',rfl,h4,h5⟩:=Lay.list_at h (List.getElem?_eq_getElem hi)
    exact h5
end
end Go.Proofs.YtjodmledadbgeacGreatDoor
namespace Go.Proofs.YtjodmledadbgeacGreatDoor
set_option linter.unusedVariables false
def fieldsOf (op : Int) : Option (Bool × Bool × Bool × Bool × Bool × Bool × Bool) :=
  if op=1 then some (false,false,false,false,true,false,false)
  else if op=2 ∨ op=7 then some (true,true,false,true,false,false,false)
  else if op=3 ∨ op=12 then some (false,false,false,false,false,false,false)
  else if op=4 ∨ op=11 ∨ op=13 then some (true,false,false,false,false,false,false)
  else if op=5 then some (true,false,false,false,false,false,true)
  else if op=6 then some (true,false,false,true,false,false,false)
  else if op=8 ∨ op=9 then some (true,true,false,false,false,false,false)
  else if op=10 then some (true,true,true,false,false,false,false)
  else if op=14 then some (false,false,false,true,false,true,true)
  else none
def MIns.formless (x : MIns) : Bool := match fieldsOf x.op with
  | none=>false
  | some (a,b,c,k,n,rg,ar)=>(!a && x.a != 0) || (!b && x.b != 0) || (!c && x.c != 0) || (!k && x.k != 0) || (!n && x.n != 0) || (!rg && decide (0 < x.regs.length)) || (!ar && decide (0 < x.args.length))
def MIns.form (funcs : Nat) (x : MIns) : Int :=
  if (fieldsOf x.op).isNone then 3
  else if x.formless then 4
  else if x.op=2∧(x.k < 1 ∨ 9 < x.k) then 1
  else if x.op=5∧8 < x.args.length then 2
  else if (x.op=6 ∨ x.op=7)∧(x.k < 0 ∨ 7 < x.k) then 1
  else if x.op=14∧(x.k < 0 ∨ (funcs:Int)≤x.k) then 1
  else if x.op=14∧(6 < x.regs.length ∨ 8 < x.args.length) then 2
  else 0
def MTo.form (blocks : Nat) (has : Bool) (t : MTo) : Int :=
  if has=false then (if t.block≠0 ∨ 0 < t.regs.length+t.args.length then 4 else 0)
  else if t.block < 0 ∨ (blocks:Int)≤t.block then 1
  else if 16 < t.regs.length ∨ 8 < t.args.length then 2
  else 0
def MEnd.form (blocks : Nat) (e : MEnd) : Int :=
  if e.op < 1 ∨ 3 < e.op then 3
  else if (e.a≠0∧e.op≠2) ∨ (0 < e.args.length∧e.op≠3) then 4
  else if 8 < e.args.length then 2
  else if e.yes.form blocks (decide (e.op≠3))≠0 then e.yes.form blocks (decide (e.op≠3))
  else e.no.form blocks (decide (e.op=2))
def listC {n : Nat} (regs : Int) (l : List (TT n)) : Int := if 8 < l.length then 2 else firstL (TT.check regs) l
def firstF {α : Type} (f : Nat → α → Int × Int) : Nat → List α → Int × Int
  | _,[]=>(0,0)
  | i,x::xs=>if (f i x).1≠0 then f i x else firstF f (i+1) xs
def TT.dec : (n : Nat) → DecidableEq (TT n)
  | 0=>fun t _=>Empty.elim t
  | n+1=>fun t u=>match (TT.dec n) with
    | d=>if h1:t.1=u.1 then if h2:t.2.1=u.2.1 then match (@List.hasDecEq _ d t.2.2 u.2.2) with
        | isTrue h3=>isTrue (by obtain ⟨a,b,c⟩:=t;obtain ⟨a',b',c'⟩:=u;simp only at h1 h2 h3;subst h1 h2 h3;rfl)
        | isFalse h3=>isFalse (fun e=>h3 (by rw [e]))
      else isFalse (fun e=>h2 (by rw [e])) else isFalse (fun e=>h1 (by rw [e]))
def sameL {n : Nat} (l m : List (TT n)) : Bool := match @List.hasDecEq _ (TT.dec n) l m with
  | isTrue _=>true
  | isFalse _=>false
theorem sameL_iff {n : Nat} {l m : List (TT n)} : sameL l m = true ↔ l = m := by
  unfold sameL
  split
  · rename_i h _;simp [h]
  · rename_i h _;simp [h]
def MBlock.fault {n : Nat} (funcs : Nat) (f : Nat) (fn : MFunc n) (b : Nat) (x : MBlock n) : Int × Int :=
  if x.regs < fn.regs ∨ 16 < x.regs then (1,10000 * f+100 * b+90)
  else if listC x.regs x.params≠0 then (listC x.regs x.params,10000 * f+100 * b+90)
  else if b=0∧(x.regs≠fn.regs ∨ sameL x.params fn.params=false) then (9,10000 * f+100 * b+90)
  else if 40 < x.code.length then (2,10000 * f+100 * b+90)
  else if (firstF (fun i y=>(MIns.form funcs y,(10000 * f+100 * b+i:Int))) 0 x.code).1≠0 then firstF (fun i y=>(MIns.form funcs y,(10000 * f+100 * b+i:Int))) 0 x.code
  else if x.fin.form fn.blocks.length≠0 then (x.fin.form fn.blocks.length,10000 * f+100 * b+91)
  else (0,0)
def MFunc.fault {n : Nat} (funcs : Nat) (f : Nat) (x : MFunc n) : Int × Int :=
  if x.regs < 0 ∨ 6 < x.regs then (1,10000 * f+9999)
  else if listC x.regs x.params≠0 then (listC x.regs x.params,10000 * f+9999)
  else if listC x.regs x.results≠0 then (listC x.regs x.results,10000 * f+9999)
  else if x.blocks.length < 1 ∨ 12 < x.blocks.length then (2,10000 * f+9999)
  else if f=0∧¬ (x.regs=0∧x.params.length=0∧x.results.all (fun t=>t.kind == 1)=true) then (18,10000 * f+9999)
  else firstF (fun b y=>MBlock.fault funcs f x b y) 0 x.blocks
def modFault {n : Nat} (m : List (MFunc n)) : Int × Int :=
  if m.length < 1 ∨ 8 < m.length then (2,-1) else firstF (fun f x=>MFunc.fault m.length f x) 0 m
theorem firstF_eq {α : Type} {f : Nat → α → Int × Int} : ∀ {l : List α} {i j : Nat} {x : α}, l[i]? = some x → (∀ k y, k < i → l[k]? = some y → (f (j + k) y).1 = 0) → (f (j + i) x).1 ≠ 0 → firstF f j l = f (j + i) x
  | [],i,j,x,h,_,_=>by simp at h
  | y::ys,0,j,x,h,_,hf=>by
    simp at h;subst h
    simp only [firstF]
    rw [if_pos (by simpa using hf)]
    rfl
  | y::ys,i+1,j,x,h,hz,hf=>by
    have h0:(f j y).1=0:=by simpa using hz 0 y (by omega) rfl
    simp only [firstF,h0,ne_eq,not_true_eq_false,if_false]
    have:=firstF_eq (f:=f) (l:=ys) (i:=i) (j:=j+1) (x:=x) (by simpa using h) (fun k z hk hkz=>by have:=hz (k+1) z (by omega) (by simpa using hkz);rwa [show j+1+k=j+(k+1) by omega]) (by rwa [show j+1+i=j+(i+1) by omega])
    rw [this,show j+1+i=j+(i+1) by omega]
theorem firstF_zero {α : Type} {f : Nat → α → Int × Int} : ∀ {l : List α} {j : Nat}, (∀ (k : Nat) y, l[k]? = some y → (f (j + k) y).1 = 0) → firstF f j l = (0, 0)
  | [],_,_=>rfl
  | y::ys,j,h=>by
    have h0:(f j y).1=0:=by simpa using h 0 y rfl
    simp only [firstF,h0,ne_eq,not_true_eq_false,if_false]
    exact firstF_zero (fun k z hz=>by have:=h (k+1) z (by simpa using hz);rwa [show j+1+k=j+(k+1) by omega])
end Go.Proofs.YtjodmledadbgeacGreatDoor
namespace Go.Proofs.YtjodmledadbgeacGreatDoor
set_option linter.unusedSimpArgs false
set_option linter.unusedVariables false
abbrev PR (α : Type) := Except (Nat × Nat) (α × Nat)
def PR.andThen {α β : Type} (x : PR α) (f : α → Nat → PR β) : PR β :=
  match x with
  | .error e=>.error e
  | .ok (a,p)=>f a p
theorem PR.andThen_ok {α β : Type} {x : PR α} {f : α → Nat → PR β} {b : β} {q : Nat} (h : x.andThen f = .ok (b, q)) : ∃ a p, x = .ok (a, p) ∧ f a p = .ok (b, q) := by
  unfold PR.andThen at h
  split at h
  · cases h
  · exact ⟨_,_,rfl,h⟩
theorem PR.ok_andThen {α β : Type} {f : α → Nat → PR β} {a : α} {p : Nat} : PR.andThen (.ok (a, p)) f = f a p := rfl
def opWords : List (List UInt8) := [[110, 117, 109], [98, 105, 110], [110, 101, 119], [102, 114, 101, 101], [116, 117, 112, 108, 101], [103, 101, 116], [115, 101, 116], [97, 114, 114, 97, 121], [108, 111, 97, 100], [115, 116, 111, 114, 101], [108, 101, 110], [105, 110], [111, 117, 116], [99, 97, 108, 108]]
def kindWords : List (List UInt8) := [[97, 100, 100], [115, 117, 98], [109, 117, 108], [100, 105, 118], [109, 111, 100], [108, 101, 115, 115], [101, 113], [97, 110, 100], [120, 111, 114]]
def wordAt (l : List (List UInt8)) (k : Int) : List UInt8 := if k < 1 then [] else l.getD (k.toNat - 1) []
def wInt : List UInt8 := [105, 110, 116]
def wHandle : List UInt8 := [104, 97, 110, 100, 108, 101]
def wArray : List UInt8 := [97, 114, 114, 97, 121]
def wTuple : List UInt8 := [116, 117, 112, 108, 101]
def wJump : List UInt8 := [106, 117, 109, 112]
def wIf : List UInt8 := [105, 102]
def wTo : List UInt8 := [116, 111]
def wElse : List UInt8 := [101, 108, 115, 101]
def wRet : List UInt8 := [114, 101, 116]
def wFunc : List UInt8 := [102, 117, 110, 99]
def wBlock : List UInt8 := [98, 108, 111, 99, 107]
def sArrow : List UInt8 := [45, 62]
section
variable (l : List Tk) (e : Nat)
def wrongAt (c p : Nat) : Nat × Nat :=
  match l[p]? with
  | some t=>(c,t.pos)
  | none=>if c=4 then (5,e) else (c,e)
def isW (s : List UInt8) (p : Nat) : Bool :=
  match l[p]? with
  | some t=>!t.num && decide (t.text=s)
  | none=>false
def mustP (s : List UInt8) (p : Nat) : PR Unit := if isW l s p then .ok ((), p + 1) else .error (wrongAt l e 4 p)
def longP (p : Nat) : PR Int :=
  match l[p]? with
  | some t=>if t.num then .ok (t.n,p+1) else .error (wrongAt l e 4 p)
  | none=>.error (wrongAt l e 4 p)
def numP (p : Nat) : PR Int :=
  match l[p]? with
  | some t=>if t.num=true∧(t.n < 0 ∨ 1000000 < t.n) then .error (wrongAt l e 8 p) else longP l e p
  | none=>longP l e p
def lstP {α : Type} (item : Nat → PR α) (fin : List UInt8) : Nat → Nat → Nat → PR (List α)
  | 0,n,p=>.error (wrongAt l e 2 p)
  | f+1,n,p =>
    if 100 < n then .error (wrongAt l e 2 p)
    else if isW l fin p then .ok ([],p)
    else PR.andThen (if 0 < n then mustP l e [44] p else .ok ((),p)) fun _ p1=>PR.andThen (item p1) fun x p2=>PR.andThen (lstP item fin f (n+1) p2) fun xs p3=>.ok (x::xs,p3)
def inP {α : Type} (item : Nat → PR α) (beg fin : List UInt8) (p : Nat) : PR (List α) :=
  PR.andThen (mustP l e beg p) fun _ p1=>PR.andThen (lstP l e item fin 102 0 p1) fun xs p2=>PR.andThen (mustP l e fin p2) fun _ p3=>.ok (xs,p3)
def argsP (p : Nat) : PR (List Int) := inP l e (numP l e) [40] [41] p
def regsP (p : Nat) : PR (List Int) := inP l e (numP l e) [60] [62] p
def typP : (d : Nat) → Nat → PR (TT (d + 1))
  | 0,p=>.error (wrongAt l e 19 p)
  | d+1,p =>
    if isW l wInt p then .ok ((1,0,[]),p+1)
    else if isW l wHandle p then PR.andThen (numP l e (p+1)) fun r q=>.ok ((2,r,[]),q)
    else if isW l wArray p then PR.andThen (numP l e (p+1)) fun r q=>.ok ((4,r,[]),q)
    else PR.andThen (mustP l e wTuple p) fun _ p1=>PR.andThen (numP l e p1) fun r p2=>PR.andThen (inP l e (typP d) [40] [41] p2) fun ts p3=>.ok ((3,r,ts),p3)
def typesP (p : Nat) : PR (List (TT 6)) := inP l e (typP l e 5) [40] [41] p
def whichP (ws : List (List UInt8)) (p : Nat) : Nat := if ws.any (fun s => isW l s p) then ws.findIdx (fun s => isW l s p) + 1 else 0
def insFields (op : Nat) (p : Nat) : PR MIns :=
  if op=1 then PR.andThen (longP l e p) fun n q=>.ok (⟨1,0,0,0,0,n,[],[]⟩,q)
  else if op=2 then
    (if whichP l kindWords p=0 then .error (wrongAt l e 4 p)
     else PR.andThen (numP l e (p+1)) fun a p1=>PR.andThen (numP l e p1) fun b p2=>.ok (⟨2,a,b,0,(whichP l kindWords p:Nat),0,[],[]⟩,p2))
  else if op=5 then PR.andThen (numP l e p) fun a p1=>PR.andThen (argsP l e p1) fun x p2=>.ok (⟨5,a,0,0,0,0,[],x⟩,p2)
  else if op=6 then PR.andThen (numP l e p) fun a p1=>PR.andThen (numP l e p1) fun k p2=>.ok (⟨6,a,0,0,k,0,[],[]⟩,p2)
  else if op=7 then PR.andThen (numP l e p) fun a p1=>PR.andThen (numP l e p1) fun k p2=>PR.andThen (numP l e p2) fun b p3=>.ok (⟨7,a,b,0,k,0,[],[]⟩,p3)
  else if op=14 then PR.andThen (numP l e p) fun k p1=>PR.andThen (regsP l e p1) fun x p2=>PR.andThen (argsP l e p2) fun y p3=>.ok (⟨14,0,0,0,k,0,x,y⟩,p3)
  else if op=4 ∨ op=11 ∨ op=13 then PR.andThen (numP l e p) fun a p1=>.ok (⟨op,a,0,0,0,0,[],[]⟩,p1)
  else if op=8 ∨ op=9 then PR.andThen (numP l e p) fun a p1=>PR.andThen (numP l e p1) fun b p2=>.ok (⟨op,a,b,0,0,0,[],[]⟩,p2)
  else if op=10 then PR.andThen (numP l e p) fun a p1=>PR.andThen (numP l e p1) fun b p2=>PR.andThen (numP l e p2) fun c p3=>.ok (⟨10,a,b,c,0,0,[],[]⟩,p3)
  else .ok (⟨op,0,0,0,0,0,[],[]⟩,p)
def insP (op : Nat) (p : Nat) : PR MIns := PR.andThen (insFields l e op p) fun x p1 => PR.andThen (mustP l e [59] p1) fun _ p2 => .ok (x, p2)
def toP (p : Nat) : PR MTo := PR.andThen (numP l e p) fun b p1 => PR.andThen (regsP l e p1) fun x p2 => PR.andThen (argsP l e p2) fun y p3 => .ok (⟨b, x, y⟩, p3)
def noTo : MTo := ⟨0, [], []⟩
def endsP (p : Nat) : PR MEnd :=
  PR.andThen
    (if isW l wJump p then PR.andThen (toP l e (p+1)) fun t q=>.ok (⟨1,0,t,noTo,[]⟩,q)
     else if isW l wIf p then PR.andThen (numP l e (p+1)) fun a p1=>PR.andThen (mustP l e wTo p1) fun _ p2=>PR.andThen (toP l e p2) fun t p3=>PR.andThen (mustP l e wElse p3) fun _ p4=>PR.andThen (toP l e p4) fun u p5=>.ok (⟨2,a,t,u,[]⟩,p5)
     else PR.andThen (mustP l e wRet p) fun _ p1=>PR.andThen (argsP l e p1) fun x p2=>.ok (⟨3,0,noTo,noTo,x⟩,p2))
    fun x p1=>PR.andThen (mustP l e [59] p1) fun _ p2=>.ok (x,p2)
def codeP : Nat → Nat → PR (List MIns × MEnd)
  | 0,p=>.error (wrongAt l e 4 p)
  | f+1,p =>
    if whichP l opWords p=0 then PR.andThen (endsP l e p) fun x q=>.ok (([],x),q)
    else PR.andThen (insP l e (whichP l opWords p) (p+1)) fun x p1=>PR.andThen (codeP f p1) fun y p2=>.ok ((x::y.1,y.2),p2)
def blockP (p : Nat) : PR (MBlock 6) :=
  PR.andThen (numP l e p) fun r p1=>PR.andThen (typesP l e p1) fun ts p2=>PR.andThen (mustP l e [123] p2) fun _ p3=>PR.andThen (codeP l e (l.length+1) p3) fun c p4=>PR.andThen (mustP l e [125] p4) fun _ p5=>.ok (⟨r,ts,c.1,c.2⟩,p5)
def blocksP : Nat → Nat → PR (List (MBlock 6))
  | 0,p=>.error (wrongAt l e 4 p)
  | f+1,p =>
    if isW l wBlock p then PR.andThen (blockP l e (p+1)) fun b p1=>PR.andThen (blocksP f p1) fun bs p2=>.ok (b::bs,p2)
    else PR.andThen (mustP l e [125] p) fun _ q=>.ok ([],q)
def funcP (p : Nat) : PR (MFunc 6) :=
  PR.andThen (mustP l e wFunc p) fun _ p0=>PR.andThen (numP l e p0) fun r p1=>PR.andThen (typesP l e p1) fun ts p2=>PR.andThen (mustP l e sArrow p2) fun _ p3=>PR.andThen (typesP l e p3) fun us p4=>PR.andThen (mustP l e [123] p4) fun _ p5=>PR.andThen (blocksP l e (l.length+1) p5) fun bs p6=>.ok (⟨r,ts,us,bs⟩,p6)
def funcsP : Nat → Nat → PR (List (MFunc 6))
  | 0,p=>.ok ([],p)
  | f+1,p=>if p < l.length then PR.andThen (funcP l e p) fun x p1=>PR.andThen (funcsP f p1) fun xs p2=>.ok (x::xs,p2) else .ok ([],p)
end
inductive PRes where
  | fault (code at_:Int)
  | ok (m:List (MFunc 6))
def parseL (s : List UInt8) : PRes :=
  match scanL s with
  | .fault c a=>.fault c a
  | .ok l=>match funcsP l s.length (l.length+1) 0 with
    | .error x=>.fault x.1 x.2
    | .ok (m,_)=>if (modFault m).1≠0 then .fault (modFault m).1 (modFault m).2 else .ok m
def Emb (l l2 : List Tk) (k : Nat) : Prop := ∀ (i : Nat) x, l[i]? = some x → ∃ y, l2[k + i]? = some y ∧ sameTk x y
def Loc {α : Type} (k : Nat) (f g : Nat → PR α) : Prop := ∀ p v p', f p = .ok (v, p') → g (k + p) = .ok (v, k + p')
def Needs {α : Type} (l : List Tk) (f : Nat → PR α) : Prop := ∀ p v p', f p = .ok (v, p') → ∃ x, l[p]? = some x
section
variable {l l2 : List Tk} {e e2 k : Nat}
theorem isW_at {s : List UInt8} {p : Nat} {x : Tk} (hE : Emb l l2 k) (hx : l[p]? = some x) : isW l2 s (k + p) = isW l s p := by
  obtain ⟨y,hy,h1,h2,h3⟩:=hE p x hx
  simp [isW,hx,hy,h1,h2]
theorem isW_some {s : List UInt8} {p : Nat} (h : isW l s p = true) : ∃ x, l[p]? = some x := by
  unfold isW at h
  split at h
  · exact ⟨_,by assumption⟩
  · cases h
theorem must_needs {s : List UInt8} : Needs l (mustP l e s) := fun p v p' h => by
  unfold mustP at h
  split at h
  · exact isW_some (by assumption)
  · cases h
theorem must_loc {s : List UInt8} (hE : Emb l l2 k) : Loc k (mustP l e s) (mustP l2 e2 s) := fun p v p' h => by
  obtain ⟨x,hx⟩:=must_needs p v p' h
  unfold mustP at h ⊢
  rw [isW_at hE hx]
  split at h
  · rename_i hw
    injection h with h
    injection h with h1 h2
    rw [if_pos hw,← h2]
    rfl
  · cases h
theorem long_needs : Needs l (longP l e) := fun p v p' h => by
  unfold longP at h
  split at h
  · exact ⟨_,by assumption⟩
  · cases h
theorem long_loc (hE : Emb l l2 k) : Loc k (longP l e) (longP l2 e2) := fun p v p' h => by
  obtain ⟨x,hx⟩:=long_needs p v p' h
  obtain ⟨y,hy,h1,h2,h3⟩:=hE p x hx
  simp only [longP,hx,hy,← h2] at h ⊢
  split at h
  · rename_i hn
    injection h with h
    injection h with h4 h5
    rw [if_pos hn,← h3,h4,← h5]
    rfl
  · cases h
theorem num_needs : Needs l (numP l e) := fun p v p' h => by
  unfold numP at h
  split at h
  · exact ⟨_,by assumption⟩
  · exact long_needs p v p' h
theorem num_loc (hE : Emb l l2 k) : Loc k (numP l e) (numP l2 e2) := fun p v p' h => by
  obtain ⟨x,hx⟩:=num_needs p v p' h
  obtain ⟨y,hy,h1,h2,h3⟩:=hE p x hx
  simp only [numP,hx,hy,← h2,← h3] at h ⊢
  split at h
  · cases h
  · rename_i hn
    rw [if_neg hn]
    exact long_loc hE p v p' h
theorem lst_loc {α : Type} {f g : Nat → PR α} {s : List UInt8} (hE : Emb l l2 k) (hf : Loc k f g) (hn : Needs l f) : ∀ fuel n, Loc k (lstP l e f s fuel n) (lstP l2 e2 g s fuel n) := by
  intro fuel
  induction fuel with
  | zero=>intro n p v p' h;simp [lstP] at h
  | succ fuel ih =>
    intro n p v p' h
    unfold lstP at h ⊢
    split at h
    · cases h
    · rename_i h100
      rw [if_neg h100]
      split at h
      · rename_i hw
        obtain ⟨x,hx⟩:=isW_some hw
        rw [isW_at hE hx,if_pos hw]
        injection h with h
        injection h with h1 h2
        rw [h1,h2]
      · rename_i hw
        obtain ⟨u,p1,h1,h⟩:=PR.andThen_ok h
        obtain ⟨x,p2,h2,h⟩:=PR.andThen_ok h
        obtain ⟨xs,p3,h3,h⟩:=PR.andThen_ok h
        have ht:∃ t,l[p]?=some t:=by
          split at h1
          · exact must_needs p u p1 h1
          · injection h1 with h1
            injection h1 with _ h1
            subst h1
            exact hn p x p2 h2
        obtain ⟨t,ht⟩:=ht
        rw [isW_at hE ht,if_neg hw]
        have g1:(if 0 < n then mustP l2 e2 [44] (k+p) else .ok ((),k+p):PR Unit)=.ok (u,k+p1):=by
          split at h1
          · rename_i h0;rw [if_pos h0];exact must_loc hE p u p1 h1
          · rename_i h0
            rw [if_neg h0]
            injection h1 with h1
            injection h1 with _ h1
            rw [h1]
        rw [g1,PR.ok_andThen,hf _ _ _ h2,PR.ok_andThen,ih (n+1) _ _ _ h3,PR.ok_andThen]
        injection h with h
        injection h with h4 h5
        rw [h4,h5]
theorem in_loc {α : Type} {f g : Nat → PR α} {a b : List UInt8} (hE : Emb l l2 k) (hf : Loc k f g) (hn : Needs l f) : Loc k (inP l e f a b) (inP l2 e2 g a b) := fun p v p' h => by
  obtain ⟨u,p1,h1,h⟩:=PR.andThen_ok h
  obtain ⟨xs,p2,h2,h⟩:=PR.andThen_ok h
  obtain ⟨u',p3,h3,h⟩:=PR.andThen_ok h
  unfold inP
  rw [must_loc hE _ _ _ h1,PR.ok_andThen,lst_loc hE hf hn _ _ _ _ _ h2,PR.ok_andThen,must_loc hE _ _ _ h3,PR.ok_andThen]
  injection h with h
  injection h with h4 h5
  rw [h4,h5]
theorem args_loc (hE : Emb l l2 k) : Loc k (argsP l e) (argsP l2 e2) := in_loc hE (num_loc hE) num_needs
theorem regs_loc (hE : Emb l l2 k) : Loc k (regsP l e) (regsP l2 e2) := in_loc hE (num_loc hE) num_needs
theorem Loc.andThen {α β : Type} {f g : Nat → PR α} {F G : α → Nat → PR β} (hf : Loc k f g) (hF : ∀ a, Loc k (F a) (G a)) : Loc k (fun p => (f p).andThen F) (fun p => (g p).andThen G) := fun p v p' h => by
  obtain ⟨a,p1,h1,h2⟩:=PR.andThen_ok h
  show (g (k+p)).andThen G=_
  rw [hf _ _ _ h1]
  exact hF a _ _ _ h2
theorem Loc.pure {α : Type} (v : α) : Loc k (fun p => (.ok (v, p) : PR α)) (fun p => .ok (v, p)) := fun p w p' h => by
  injection h with h
  injection h with h1 h2
  show (.ok (v,k+p):PR α)=_
  rw [h1,h2]
theorem Loc.next {α : Type} {f g : Nat → PR α} (h : Loc k f g) : Loc k (fun p => f (p + 1)) (fun p => g (p + 1)) := fun p v p' h1 => by
  have:=h _ _ _ h1
  rwa [← Nat.add_assoc] at this
theorem which_at {ws : List (List UInt8)} {p : Nat} {x : Tk} (hE : Emb l l2 k) (hx : l[p]? = some x) : whichP l2 ws (k + p) = whichP l ws p := by
  unfold whichP
  have:(fun s=>isW l2 s (k+p))=(fun s=>isW l s p):=funext fun s=>isW_at hE hx
  rw [this]
theorem which_some {ws : List (List UInt8)} {p : Nat} (h : whichP l ws p ≠ 0) : ∃ x, l[p]? = some x := by
  unfold whichP at h
  split at h
  · rename_i ha
    obtain ⟨s,_,hs⟩:=List.any_eq_true.1 ha
    exact isW_some hs
  · exact absurd rfl h
theorem Loc.ways {α : Type} {a b : List UInt8} {f1 g1 f2 g2 f3 g3 : Nat → PR α} (hE : Emb l l2 k) (h1 : Loc k f1 g1) (h2 : Loc k f2 g2) (h3 : Loc k f3 g3) (hn : Needs l f3) :
    Loc k (fun p=>if isW l a p then f1 p else if isW l b p then f2 p else f3 p) (fun p=>if isW l2 a p then g1 p else if isW l2 b p then g2 p else g3 p):=fun p v p' h=>by
  have h':(if isW l a p then f1 p else if isW l b p then f2 p else f3 p)=.ok (v,p'):=h
  have ht:∃ t,l[p]?=some t:=by
    split at h'
    · exact isW_some (by assumption)
    · split at h'
      · exact isW_some (by assumption)
      · exact hn p v p' h'
  obtain ⟨t,ht⟩:=ht
  show (if isW l2 a (k+p) then g1 (k+p) else if isW l2 b (k+p) then g2 (k+p) else g3 (k+p))=_
  rw [isW_at hE ht,isW_at hE ht]
  split at h'
  · rw [if_pos (by assumption)];exact h1 _ _ _ h'
  · rw [if_neg (by assumption)]
    split at h'
    · rw [if_pos (by assumption)];exact h2 _ _ _ h'
    · rw [if_neg (by assumption)];exact h3 _ _ _ h'
theorem Loc.way {α : Type} {a : List UInt8} {f1 g1 f3 g3 : Nat → PR α} (hE : Emb l l2 k) (h1 : Loc k f1 g1) (h3 : Loc k f3 g3) (hn : Needs l f3) :
    Loc k (fun p=>if isW l a p then f1 p else f3 p) (fun p=>if isW l2 a p then g1 p else g3 p):=fun p v p' h=>by
  have h':(if isW l a p then f1 p else f3 p)=.ok (v,p'):=h
  have ht:∃ t,l[p]?=some t:=by
    split at h'
    · exact isW_some (by assumption)
    · exact hn p v p' h'
  obtain ⟨t,ht⟩:=ht
  show (if isW l2 a (k+p) then g1 (k+p) else g3 (k+p))=_
  rw [isW_at hE ht]
  split at h'
  · rw [if_pos (by assumption)];exact h1 _ _ _ h'
  · rw [if_neg (by assumption)];exact h3 _ _ _ h'
theorem Needs.andThen {α β : Type} {f : Nat → PR α} {F : α → Nat → PR β} (hf : Needs l f) : Needs l (fun p => (f p).andThen F) := fun p v p' h => by
  obtain ⟨a,p1,h1,_⟩:=PR.andThen_ok h
  exact hf p a p1 h1
theorem Needs.way {α : Type} {a : List UInt8} {f1 f3 : Nat → PR α} (hn : Needs l f3) : Needs l (fun p => if isW l a p then f1 p else f3 p) := fun p v p' h => by
  have h':(if isW l a p then f1 p else f3 p)=.ok (v,p'):=h
  split at h'
  · exact isW_some (by assumption)
  · exact hn p v p' h'
theorem typ_needs : ∀ d, Needs l (typP l e d)
  | 0=>fun p v p' h=>by cases h
  | d+1=>by
    have:Needs l (fun p=>(if isW l wInt p then .ok ((1,0,[]),p+1) else if isW l wHandle p then PR.andThen (numP l e (p+1)) fun r q=>.ok ((2,r,[]),q)
      else if isW l wArray p then PR.andThen (numP l e (p+1)) fun r q=>.ok ((4,r,[]),q)
      else PR.andThen (mustP l e wTuple p) fun _ p1=>PR.andThen (numP l e p1) fun r p2=>PR.andThen (inP l e (typP l e d) [40] [41] p2) fun ts p3=>.ok ((3,r,ts),p3):PR (TT (d+2)))) :=
      Needs.way (Needs.way (Needs.way (Needs.andThen must_needs)))
    intro p v p' h
    exact this p v p' (by rw [typP] at h;exact h)
theorem typ_loc (hE : Emb l l2 k) : ∀ d, Loc k (typP l e d) (typP l2 e2 d)
  | 0=>fun p v p' h=>by cases h
  | d+1=>by
    have:Loc k (fun p=>(if isW l wInt p then .ok ((1,0,[]),p+1) else if isW l wHandle p then PR.andThen (numP l e (p+1)) fun r q=>.ok ((2,r,[]),q)
      else if isW l wArray p then PR.andThen (numP l e (p+1)) fun r q=>.ok ((4,r,[]),q)
      else PR.andThen (mustP l e wTuple p) fun _ p1=>PR.andThen (numP l e p1) fun r p2=>PR.andThen (inP l e (typP l e d) [40] [41] p2) fun ts p3=>.ok ((3,r,ts),p3):PR (TT (d+2))))
      (fun p=>(if isW l2 wInt p then .ok ((1,0,[]),p+1) else if isW l2 wHandle p then PR.andThen (numP l2 e2 (p+1)) fun r q=>.ok ((2,r,[]),q)
      else if isW l2 wArray p then PR.andThen (numP l2 e2 (p+1)) fun r q=>.ok ((4,r,[]),q)
      else PR.andThen (mustP l2 e2 wTuple p) fun _ p1=>PR.andThen (numP l2 e2 p1) fun r p2=>PR.andThen (inP l2 e2 (typP l2 e2 d) [40] [41] p2) fun ts p3=>.ok ((3,r,ts),p3):PR (TT (d+2)))):=by
      have q1:Loc k (fun p=>(.ok (((1,0,[]):TT (d+2)),p+1):PR (TT (d+2)))) (fun p=>.ok (((1,0,[]):TT (d+2)),p+1)):=Loc.next (Loc.pure (α:=TT (d+2)) (1,0,[]))
      have q2:∀ c:Int,Loc k (fun p=>PR.andThen (numP l e (p+1)) fun r q=>(.ok (((c,r,[]):TT (d+2)),q):PR (TT (d+2)))) (fun p=>PR.andThen (numP l2 e2 (p+1)) fun r q=>.ok (((c,r,[]):TT (d+2)),q)) :=
        fun c=>Loc.andThen (Loc.next (num_loc hE)) fun r=>Loc.pure (α:=TT (d+2)) (c,r,[])
      have q3:Loc k (fun p=>PR.andThen (mustP l e wTuple p) fun _ p1=>PR.andThen (numP l e p1) fun r p2=>PR.andThen (inP l e (typP l e d) [40] [41] p2) fun ts p3=>(.ok (((3,r,ts):TT (d+2)),p3):PR (TT (d+2))))
        (fun p=>PR.andThen (mustP l2 e2 wTuple p) fun _ p1=>PR.andThen (numP l2 e2 p1) fun r p2=>PR.andThen (inP l2 e2 (typP l2 e2 d) [40] [41] p2) fun ts p3=>.ok (((3,r,ts):TT (d+2)),p3)) :=
        Loc.andThen (must_loc hE) fun _=>Loc.andThen (num_loc hE) fun r=>Loc.andThen (in_loc hE (typ_loc hE d) (typ_needs d)) fun ts=>Loc.pure (α:=TT (d+2)) (3,r,ts)
      exact Loc.way hE q1 (Loc.ways hE (q2 2) (q2 4) q3 (Needs.andThen must_needs)) (Needs.way (Needs.way (Needs.andThen must_needs)))
    intro p v p' h
    rw [typP] at h ⊢
    exact this p v p' h
theorem types_loc (hE : Emb l l2 k) : Loc k (typesP l e) (typesP l2 e2) := in_loc hE (typ_loc hE 5) (typ_needs 5)
theorem fields_loc (hE : Emb l l2 k) (op : Nat) : Loc k (insFields l e op) (insFields l2 e2 op) := by
  unfold insFields
  by_cases h1:op=1
  · simp only [if_pos h1];exact Loc.andThen (long_loc hE) fun n=>Loc.pure _
  simp only [if_neg h1]
  by_cases h2:op=2
  · simp only [if_pos h2]
    intro p v p' h
    have h':(if whichP l kindWords p=0 then .error (wrongAt l e 4 p) else PR.andThen (numP l e (p+1)) fun a p1=>PR.andThen (numP l e p1) fun b p2=>.ok ((⟨2,a,b,0,(whichP l kindWords p:Nat),0,[],[]⟩:MIns),p2):PR MIns)=.ok (v,p'):=h
    split at h'
    · cases h'
    · rename_i hw
      obtain ⟨x,hx⟩:=which_some hw
      show (if whichP l2 kindWords (k+p)=0 then .error (wrongAt l2 e2 4 (k+p)) else PR.andThen (numP l2 e2 (k+p+1)) fun a p1=>PR.andThen (numP l2 e2 p1) fun b p2=>.ok ((⟨2,a,b,0,(whichP l2 kindWords (k+p):Nat),0,[],[]⟩:MIns),p2):PR MIns)=_
      rw [which_at hE hx,if_neg hw]
      exact (Loc.andThen (F:=fun a p1=>PR.andThen (numP l e p1) fun b p2=>.ok ((⟨2,a,b,0,(whichP l kindWords p:Nat),0,[],[]⟩:MIns),p2)) (Loc.next (num_loc hE)) fun a=>Loc.andThen (num_loc hE) fun b=>Loc.pure _) p v p' h'
  simp only [if_neg h2]
  by_cases h3:op=5
  · simp only [if_pos h3];exact Loc.andThen (num_loc hE) fun a=>Loc.andThen (args_loc hE) fun x=>Loc.pure _
  simp only [if_neg h3]
  by_cases h4:op=6
  · simp only [if_pos h4];exact Loc.andThen (num_loc hE) fun a=>Loc.andThen (num_loc hE) fun x=>Loc.pure _
  simp only [if_neg h4]
  by_cases h5:op=7
  · simp only [if_pos h5];exact Loc.andThen (num_loc hE) fun a=>Loc.andThen (num_loc hE) fun x=>Loc.andThen (num_loc hE) fun y=>Loc.pure _
  simp only [if_neg h5]
  by_cases h6:op=14
  · simp only [if_pos h6];exact Loc.andThen (num_loc hE) fun a=>Loc.andThen (regs_loc hE) fun x=>Loc.andThen (args_loc hE) fun y=>Loc.pure _
  simp only [if_neg h6]
  by_cases h7:op=4 ∨ op=11 ∨ op=13
  · simp only [if_pos h7];exact Loc.andThen (num_loc hE) fun a=>Loc.pure _
  simp only [if_neg h7]
  by_cases h8:op=8 ∨ op=9
  · simp only [if_pos h8];exact Loc.andThen (num_loc hE) fun a=>Loc.andThen (num_loc hE) fun b=>Loc.pure _
  simp only [if_neg h8]
  by_cases h9:op=10
  · simp only [if_pos h9];exact Loc.andThen (num_loc hE) fun a=>Loc.andThen (num_loc hE) fun b=>Loc.andThen (num_loc hE) fun c=>Loc.pure _
  simp only [if_neg h9]
  exact Loc.pure _
theorem ins_loc (hE : Emb l l2 k) (op : Nat) : Loc k (insP l e op) (insP l2 e2 op) := Loc.andThen (fields_loc hE op) fun x => Loc.andThen (must_loc hE) fun _ => Loc.pure _
theorem to_loc (hE : Emb l l2 k) : Loc k (toP l e) (toP l2 e2) := Loc.andThen (num_loc hE) fun b => Loc.andThen (regs_loc hE) fun x => Loc.andThen (args_loc hE) fun y => Loc.pure _
theorem ends_loc (hE : Emb l l2 k) : Loc k (endsP l e) (endsP l2 e2) :=
  Loc.andThen (Loc.ways hE (Loc.andThen (Loc.next (to_loc hE)) fun t=>Loc.pure _)
    (Loc.andThen (Loc.next (num_loc hE)) fun a=>Loc.andThen (must_loc hE) fun _=>Loc.andThen (to_loc hE) fun t=>Loc.andThen (must_loc hE) fun _=>Loc.andThen (to_loc hE) fun u=>Loc.pure _)
    (Loc.andThen (must_loc hE) fun _=>Loc.andThen (args_loc hE) fun x=>Loc.pure _) (Needs.andThen must_needs))
    fun x=>Loc.andThen (must_loc hE) fun _=>Loc.pure _
theorem ends_needs : Needs l (endsP l e) := Needs.andThen (Needs.way (Needs.way (Needs.andThen must_needs)))
theorem code_loc (hE : Emb l l2 k) : ∀ f f', f ≤ f' → Loc k (codeP l e f) (codeP l2 e2 f')
  | 0,f',_=>fun p v p' h=>by cases h
  | f+1,0,hf=>by omega
  | f+1,f'+1,hf=>fun p v p' h=>by
    unfold codeP at h ⊢
    split at h
    · rename_i hw
      obtain ⟨x,q,h1,h2⟩:=PR.andThen_ok h
      obtain ⟨t,ht⟩:=ends_needs p x q h1
      rw [which_at hE ht,if_pos hw,ends_loc hE _ _ _ h1]
      exact Loc.pure (k:=k) (([]:List MIns),x) _ _ _ h2
    · rename_i hw
      obtain ⟨t,ht⟩:=which_some hw
      rw [which_at hE ht,if_neg hw]
      obtain ⟨x,p1,h1,h⟩:=PR.andThen_ok h
      obtain ⟨y,p2,h2,h3⟩:=PR.andThen_ok h
      have:=ins_loc (e:=e) (e2:=e2) hE _ _ _ _ h1
      rw [← Nat.add_assoc] at this
      rw [this,PR.ok_andThen,code_loc hE f f' (by omega) _ _ _ h2]
      exact Loc.pure (k:=k) (x::y.1,y.2) _ _ _ h3
theorem block_loc (hE : Emb l l2 k) (hl : l.length ≤ l2.length) : Loc k (blockP l e) (blockP l2 e2) :=
  Loc.andThen (num_loc hE) fun r=>Loc.andThen (types_loc hE) fun ts=>Loc.andThen (must_loc hE) fun _=>Loc.andThen (code_loc hE _ _ (by omega)) fun c=>Loc.andThen (must_loc hE) fun _=>Loc.pure _
theorem blocks_loc (hE : Emb l l2 k) (hl : l.length ≤ l2.length) : ∀ f f', f ≤ f' → Loc k (blocksP l e f) (blocksP l2 e2 f')
  | 0,f',_=>fun p v p' h=>by cases h
  | f+1,0,hf=>by omega
  | f+1,f'+1,hf=>fun p v p' h=>by
    unfold blocksP at h ⊢
    exact Loc.way hE (Loc.andThen (Loc.next (block_loc hE hl)) fun b=>Loc.andThen (blocks_loc hE hl f f' (by omega)) fun bs=>Loc.pure _) (Loc.andThen (must_loc hE) fun _=>Loc.pure _) (Needs.andThen must_needs) p v p' h
theorem func_loc (hE : Emb l l2 k) (hl : l.length ≤ l2.length) : Loc k (funcP l e) (funcP l2 e2) :=
  Loc.andThen (must_loc hE) fun _=>Loc.andThen (num_loc hE) fun r=>Loc.andThen (types_loc hE) fun ts=>Loc.andThen (must_loc hE) fun _=>Loc.andThen (types_loc hE) fun us=>Loc.andThen (must_loc hE) fun _=>Loc.andThen (blocks_loc hE hl _ _ (by omega)) fun bs=>Loc.pure _
end
theorem pre_ext {p : UInt8 → Bool} {d : UInt8} {r : List UInt8} (hd : p d = false) : ∀ l, pre p (l ++ d :: r) = pre p l
  | []=>by simp [pre,hd]
  | c::l=>by
    have:=pre_ext (r:=r) hd l
    simp only [List.cons_append,pre,this]
theorem blk_ext (r : List UInt8) : ∀ (l : List UInt8) (b : Bool), blk b (l ++ 10 :: r) = if blk b l = l.length then l.length + 1 + blk false r else blk b l
  | [],b=>by
    have h:blB 10=true:=rfl
    cases b
    · simp [blk,h];omega
    · simp [blk];omega
  | c::l,b=>by
    have h1:=blk_ext r l true
    have h2:=blk_ext r l false
    cases b
    · simp only [List.cons_append,blk,List.length_cons]
      by_cases hb:blB c=true
      · simp only [hb,if_true,h2]
        split <;> split <;> omega
      · simp only [hb,if_false,Bool.false_eq_true]
        by_cases h35:c.toNat=35
        · simp only [h35,if_true,h1]
          split <;> split <;> omega
        · simp only [h35,if_false]
          rw [if_neg (by omega)]
    · simp only [List.cons_append,blk,List.length_cons]
      by_cases h10:c.toNat=10
      · simp only [h10,if_true,h2]
        split <;> split <;> omega
      · simp only [h10,if_false,h1]
        split <;> split <;> omega
theorem tokLen_ext {c : UInt8} {l r : List UInt8} : tokLen (c :: l ++ 10 :: r) = tokLen (c :: l) := by
  have hl:letB 10=false:=rfl
  have hd:digB 10=false:=rfl
  have h1:pre letB (c::l++10::r)=pre letB (c::l):=pre_ext hl (c::l)
  have h2:pre digB (l++10::r)=pre digB l:=pre_ext hd l
  have h3:(l++10::r).head?.any (fun d=>d.toNat == 62)=l.head?.any (fun d=>d.toNat == 62):=by cases l <;> simp
  have h4:(l++10::r).head?.any digB=l.head?.any digB:=by cases l <;> simp [hd]
  rw [List.cons_append] at h1 ⊢
  simp only [tokLen,h1,h2,h3,h4]
theorem tok_ext {l r : List UInt8} {k : Nat} {b : Bool} {n : Int} (h : tok l = .ok k b n) : tok (l ++ 10 :: r) = .ok k b n := by
  obtain ⟨h1,h2,h3⟩:=tok_pos h
  cases l with
  | nil=>simp at h2;omega
  | cons c l =>
    have e:=tokLen_ext (c:=c) (l:=l) (r:=r)
    rw [← h]
    unfold tok
    rw [e,← h3,List.take_append_of_le_length h2]
def scanB (f pos : Nat) (A : List UInt8) : Sc := scanF f (pos + blk false A) (A.drop (blk false A))
theorem scanB_next {f pos k : Nat} {A : List UInt8} {b : Bool} {n : Int} (h : tok (A.drop (blk false A)) = .ok k b n) :
    scanB (f+1) pos A=(scanB f (pos+blk false A+k) ((A.drop (blk false A)).drop k)).app [⟨pos+blk false A,(A.drop (blk false A)).take k,b,n⟩]:=by
  have hp:=tok_pos h
  unfold scanB
  rw [scanF,if_neg (fun e=>by rw [e] at hp;simp at hp;omega),h]
theorem scanB_join (r : List UInt8) : ∀ (f : Nat) (A : List UInt8) (pos F F2 : Nat) (ts : List Tk), A.length < f → (A ++ 10 :: r).length < F → r.length < F2 → scanB f pos A = .ok ts →
    scanB F pos (A++10::r)=(scanB F2 (pos+A.length+1) r).app ts:=by
  intro f
  induction f with
  | zero=>intro A pos F F2 ts h;omega
  | succ f ih =>
    intro A pos F F2 ts hf hF hF2 h
    have hbl:=blk_le A false
    have hx:=blk_ext r A false
    by_cases hm:blk false A=A.length
    · rw [if_pos hm] at hx
      have hts:ts=[]:=by
        unfold scanB at h
        rw [hm,List.drop_length] at h
        simp [scanF] at h
        exact h
      subst hts
      rw [Sc.app_nil]
      unfold scanB
      rw [hx]
      have e1:(A++10::r).drop (A.length+1+blk false r)=r.drop (blk false r):=by
        rw [Nat.add_assoc,← List.drop_drop,List.drop_left,Nat.add_comm 1,List.drop_succ_cons]
      rw [e1,show pos+(A.length+1+blk false r)=pos+A.length+1+blk false r by omega]
      simp only [List.length_append,List.length_cons] at hF
      exact scanF_fuel _ _ _ _ (by rw [List.length_drop];omega) (by rw [List.length_drop];omega)
    · rw [if_neg hm] at hx
      have hne:A.drop (blk false A)≠[]:=fun e=>by have:=congrArg List.length e;rw [List.length_drop,List.length_nil] at this;omega
      have hdr:(A++10::r).drop (blk false A)=A.drop (blk false A)++10::r:=List.drop_append_of_le_length hbl
      cases ht:tok (A.drop (blk false A)) with
      | bad c =>
        exfalso
        unfold scanB at h
        rw [scanF,if_neg hne,ht] at h
        cases h
      | ok k b n =>
        have hk:=tok_pos ht
        rw [List.length_drop] at hk
        rw [scanB_next ht] at h
        cases hs:scanB f (pos+blk false A+k) ((A.drop (blk false A)).drop k) with
        | fault c a=>rw [hs] at h;cases h
        | ok us =>
          rw [hs] at h
          injection h with h
          obtain ⟨F',rfl⟩:∃ F',F=F'+1:=⟨F - 1,by omega⟩
          have ht2:tok ((A++10::r).drop (blk false (A++10::r)))=.ok k b n:=by rw [hx,hdr];exact tok_ext ht
          rw [scanB_next ht2,hx,hdr,List.drop_append_of_le_length (by rw [List.length_drop];omega),List.take_append_of_le_length (by rw [List.length_drop];omega)]
          simp only [List.length_append,List.length_cons] at hF
          rw [ih _ _ F' F2 us (by simp only [List.length_drop];omega) (by simp only [List.length_append,List.length_drop,List.length_cons];omega) hF2 hs,Sc.app_app]
          simp only [List.length_drop]
          rw [show pos+blk false A+k+(A.length - blk false A - k)+1=pos+A.length+1 by omega,← h]
theorem scanF_pos : ∀ (f pos pos' : Nat) (l : List UInt8) (ts : List Tk), scanF f pos l = .ok ts → ∃ us, scanF f pos' l = .ok us ∧ us.length = ts.length ∧ ∀ (i : Nat) x, ts[i]? = some x → ∃ y, us[i]? = some y ∧ sameTk x y
  | 0,pos,pos',l,ts,h=>by
    injection h with h;subst h;exact ⟨[],rfl,rfl,fun i x hx=>by simp at hx⟩
  | f+1,pos,pos',l,ts,h=>by
    unfold scanF at h
    split at h
    · rename_i hl
      injection h with h;subst h
      exact ⟨[],by rw [scanF,if_pos hl],rfl,fun i x hx=>by simp at hx⟩
    · rename_i hl
      split at h
      · cases h
      · rename_i k b n e
        cases hs:scanF f (pos+k+blk false (l.drop k)) ((l.drop k).drop (blk false (l.drop k))) with
        | fault c a=>rw [hs] at h;cases h
        | ok us =>
          rw [hs] at h
          injection h with h
          subst h
          obtain ⟨vs,h1,h2,h3⟩:=scanF_pos f _ (pos'+k+blk false (l.drop k)) _ us hs
          refine ⟨⟨pos',l.take k,b,n⟩::vs,by rw [scanF,if_neg hl,e];simp only [h1,Sc.app,List.singleton_append],by simp [h2],fun i x hx=>?_⟩
          cases i with
          | zero=>simp at hx;subst hx;exact ⟨_,rfl,rfl,rfl,rfl⟩
          | succ i=>simpa using h3 i x (by simpa using hx)
theorem scanL_join {a b : List UInt8} {la lb : List Tk} (ha : scanL a = .ok la) (hb : scanL b = .ok lb) (hl : a.length + b.length ≤ 39000) :
    ∃ lc,scanL (a++10::b)=.ok (la++lc)∧lc.length=lb.length∧∀ (i:Nat) x,lb[i]?=some x→∃ y,lc[i]?=some y∧sameTk x y:=by
  unfold scanL at ha hb ⊢
  rw [if_neg (by omega)] at ha hb
  rw [if_neg (by simp only [List.length_append,List.length_cons];omega)]
  obtain ⟨lc,h1,h2,h3⟩:=scanF_pos _ _ (a.length+1+blk false b) _ _ hb
  have ha':scanB (a.length+1) 0 a=.ok la:=by unfold scanB;rw [Nat.zero_add];exact ha
  have:=scanB_join b (a.length+1) a 0 ((a++10::b).length+1) (b.length+1) la (by omega) (by omega) (by omega) ha'
  unfold scanB at this
  rw [Nat.zero_add,Nat.zero_add,h1] at this
  exact ⟨lc,this,h2,h3⟩
section
variable {l : List Tk} {e : Nat}
def Mon {α : Type} (l : List Tk) (f : Nat → PR α) : Prop := ∀ p v p', p ≤ l.length → f p = .ok (v, p') → p ≤ p' ∧ p' ≤ l.length
theorem Mon.andThen {α β : Type} {f : Nat → PR α} {F : α → Nat → PR β} (hf : Mon l f) (hF : ∀ a, Mon l (F a)) : Mon l (fun p => (f p).andThen F) := fun p v p' hp h => by
  obtain ⟨a,p1,h1,h2⟩:=PR.andThen_ok h
  obtain ⟨g1,g2⟩:=hf p a p1 hp h1
  obtain ⟨g3,g4⟩:=hF a p1 v p' g2 h2
  exact ⟨by omega,g4⟩
theorem Mon.pure {α : Type} (v : α) : Mon l (fun p => (.ok (v, p) : PR α)) := fun p w p' hp h => by
  injection h with h
  injection h with h1 h2
  omega
theorem lt_of_tok {p : Nat} {x : Tk} (h : l[p]? = some x) : p < l.length := (List.getElem?_eq_some_iff.1 h).1
theorem must_mon {s : List UInt8} : Mon l (mustP l e s) := fun p v p' hp h => by
  obtain ⟨x,hx⟩:=must_needs p v p' h
  have:=lt_of_tok hx
  unfold mustP at h
  split at h
  · injection h with h;injection h with _ h;omega
  · cases h
theorem must_next {s : List UInt8} {p : Nat} {v : Unit} {p' : Nat} (h : mustP l e s p = .ok (v, p')) : p' = p + 1 := by
  unfold mustP at h
  split at h
  · injection h with h;injection h with _ h;omega
  · cases h
theorem long_mon : Mon l (longP l e) := fun p v p' hp h => by
  obtain ⟨x,hx⟩:=long_needs p v p' h
  have:=lt_of_tok hx
  simp only [longP,hx] at h
  split at h
  · injection h with h;injection h with _ h;omega
  · cases h
theorem num_mon : Mon l (numP l e) := fun p v p' hp h => by
  obtain ⟨x,hx⟩:=num_needs p v p' h
  simp only [numP,hx] at h
  split at h
  · cases h
  · exact long_mon p v p' hp h
theorem Mon.way {α : Type} {a : List UInt8} {f1 f3 : Nat → PR α} (h1 : Mon l f1) (h3 : Mon l f3) : Mon l (fun p => if isW l a p then f1 (p + 1) else f3 p) := fun p v p' hp h => by
  have h':(if isW l a p then f1 (p+1) else f3 p)=.ok (v,p'):=h
  split at h'
  · obtain ⟨x,hx⟩:=isW_some (by assumption)
    have:=lt_of_tok hx
    have:=h1 _ _ _ (by omega) h'
    omega
  · exact h3 _ _ _ hp h'
theorem lst_mon {α : Type} {f : Nat → PR α} {s : List UInt8} (hf : Mon l f) : ∀ fuel n, Mon l (lstP l e f s fuel n)
  | 0,n=>fun p v p' hp h=>by cases h
  | fuel+1,n=>fun p v p' hp h=>by
    unfold lstP at h
    split at h
    · cases h
    · split at h
      · injection h with h;injection h with _ h;omega
      · obtain ⟨u,p1,h1,h⟩:=PR.andThen_ok h
        have g1:p≤p1∧p1≤l.length:=by
          split at h1
          · exact must_mon _ _ _ hp h1
          · injection h1 with h1;injection h1 with _ h1;omega
        obtain ⟨x,p2,h2,h⟩:=PR.andThen_ok h
        have g2:=hf _ _ _ g1.2 h2
        obtain ⟨xs,p3,h3,h⟩:=PR.andThen_ok h
        have g3:=lst_mon hf fuel (n+1) _ _ _ g2.2 h3
        injection h with h;injection h with _ h;omega
theorem in_mon {α : Type} {f : Nat → PR α} {a b : List UInt8} (hf : Mon l f) : Mon l (inP l e f a b) :=
  Mon.andThen must_mon fun _=>Mon.andThen (lst_mon hf _ _) fun xs=>Mon.andThen must_mon fun _=>Mon.pure _
theorem args_mon : Mon l (argsP l e) := in_mon num_mon
theorem regs_mon : Mon l (regsP l e) := in_mon num_mon
theorem typ_mon : ∀ d, Mon l (typP l e d)
  | 0=>fun p v p' hp h=>by cases h
  | d+1=>fun p v p' hp h=>by
    rw [typP] at h
    exact Mon.way (Mon.pure (α:=TT (d+2)) (1,0,[])) (Mon.way (Mon.andThen num_mon fun r=>Mon.pure (α:=TT (d+2)) (2,r,[])) (Mon.way (Mon.andThen num_mon fun r=>Mon.pure (α:=TT (d+2)) (4,r,[]))
      (Mon.andThen must_mon fun _=>Mon.andThen num_mon fun r=>Mon.andThen (in_mon (typ_mon d)) fun ts=>Mon.pure (α:=TT (d+2)) (3,r,ts)))) p v p' hp h
theorem types_mon : Mon l (typesP l e) := in_mon (typ_mon 5)
theorem fields_mon (op : Nat) : Mon l (insFields l e op) := by
  unfold insFields
  by_cases h1:op=1
  · simp only [if_pos h1];exact Mon.andThen long_mon fun n=>Mon.pure _
  simp only [if_neg h1]
  by_cases h2:op=2
  · simp only [if_pos h2]
    intro p v p' hp h
    have h':(if whichP l kindWords p=0 then .error (wrongAt l e 4 p) else PR.andThen (numP l e (p+1)) fun a p1=>PR.andThen (numP l e p1) fun b p2=>.ok ((⟨2,a,b,0,(whichP l kindWords p:Nat),0,[],[]⟩:MIns),p2):PR MIns)=.ok (v,p'):=h
    split at h'
    · cases h'
    · rename_i hw
      obtain ⟨x,hx⟩:=which_some hw
      have:=lt_of_tok hx
      have:=(Mon.andThen (F:=fun a p1=>PR.andThen (numP l e p1) fun b p2=>.ok ((⟨2,a,b,0,(whichP l kindWords p:Nat),0,[],[]⟩:MIns),p2)) num_mon fun a=>Mon.andThen num_mon fun b=>Mon.pure _) (p+1) v p' (by omega) h'
      omega
  simp only [if_neg h2]
  by_cases h3:op=5
  · simp only [if_pos h3];exact Mon.andThen num_mon fun a=>Mon.andThen args_mon fun x=>Mon.pure _
  simp only [if_neg h3]
  by_cases h4:op=6
  · simp only [if_pos h4];exact Mon.andThen num_mon fun a=>Mon.andThen num_mon fun x=>Mon.pure _
  simp only [if_neg h4]
  by_cases h5:op=7
  · simp only [if_pos h5];exact Mon.andThen num_mon fun a=>Mon.andThen num_mon fun x=>Mon.andThen num_mon fun y=>Mon.pure _
  simp only [if_neg h5]
  by_cases h6:op=14
  · simp only [if_pos h6];exact Mon.andThen num_mon fun a=>Mon.andThen regs_mon fun x=>Mon.andThen args_mon fun y=>Mon.pure _
  simp only [if_neg h6]
  by_cases h7:op=4 ∨ op=11 ∨ op=13
  · simp only [if_pos h7];exact Mon.andThen num_mon fun a=>Mon.pure _
  simp only [if_neg h7]
  by_cases h8:op=8 ∨ op=9
  · simp only [if_pos h8];exact Mon.andThen num_mon fun a=>Mon.andThen num_mon fun b=>Mon.pure _
  simp only [if_neg h8]
  by_cases h9:op=10
  · simp only [if_pos h9];exact Mon.andThen num_mon fun a=>Mon.andThen num_mon fun b=>Mon.andThen num_mon fun c=>Mon.pure _
  simp only [if_neg h9]
  exact Mon.pure _
theorem ins_mon (op : Nat) : Mon l (insP l e op) := Mon.andThen (fields_mon op) fun x => Mon.andThen must_mon fun _ => Mon.pure _
theorem to_mon : Mon l (toP l e) := Mon.andThen num_mon fun b => Mon.andThen regs_mon fun x => Mon.andThen args_mon fun y => Mon.pure _
theorem ends_mon : Mon l (endsP l e) :=
  Mon.andThen (Mon.way (Mon.andThen to_mon fun t=>Mon.pure _) (Mon.way (Mon.andThen num_mon fun a=>Mon.andThen must_mon fun _=>Mon.andThen to_mon fun t=>Mon.andThen must_mon fun _=>Mon.andThen to_mon fun u=>Mon.pure _)
    (Mon.andThen must_mon fun _=>Mon.andThen args_mon fun x=>Mon.pure _))) fun x=>Mon.andThen must_mon fun _=>Mon.pure _
theorem code_mon : ∀ f, Mon l (codeP l e f)
  | 0=>fun p v p' hp h=>by cases h
  | f+1=>fun p v p' hp h=>by
    unfold codeP at h
    split at h
    · exact (Mon.andThen ends_mon fun x=>Mon.pure (([]:List MIns),x)) p v p' hp h
    · rename_i hw
      obtain ⟨t,ht⟩:=which_some hw
      have:=lt_of_tok ht
      obtain ⟨x,p1,h1,h⟩:=PR.andThen_ok h
      have g1:=ins_mon _ _ _ _ (by omega) h1
      obtain ⟨y,p2,h2,h⟩:=PR.andThen_ok h
      have g2:=code_mon f _ _ _ g1.2 h2
      injection h with h;injection h with _ h;omega
theorem block_mon : Mon l (blockP l e) :=
  Mon.andThen num_mon fun r=>Mon.andThen types_mon fun ts=>Mon.andThen must_mon fun _=>Mon.andThen (code_mon _) fun c=>Mon.andThen must_mon fun _=>Mon.pure _
theorem blocks_mon : ∀ f, Mon l (blocksP l e f)
  | 0=>fun p v p' hp h=>by cases h
  | f+1=>fun p v p' hp h=>by
    unfold blocksP at h
    exact Mon.way (Mon.andThen block_mon fun b=>Mon.andThen (blocks_mon f) fun bs=>Mon.pure _) (Mon.andThen must_mon fun _=>Mon.pure _) p v p' hp h
theorem func_next {p : Nat} {v : MFunc 6} {p' : Nat} (hp : p ≤ l.length) (h : funcP l e p = .ok (v, p')) : p < p' ∧ p' ≤ l.length := by
  obtain ⟨u,p0,h0,h⟩:=PR.andThen_ok h
  have g0:=must_mon _ _ _ hp h0
  have g1:=must_next h0
  have:=(Mon.andThen (F:=fun r p1=>PR.andThen (typesP l e p1) fun ts p2=>PR.andThen (mustP l e sArrow p2) fun _ p3=>PR.andThen (typesP l e p3) fun us p4=>PR.andThen (mustP l e [123] p4) fun _ p5=>PR.andThen (blocksP l e (l.length+1) p5) fun bs p6=>.ok ((⟨r,ts,us,bs⟩:MFunc 6),p6))
    num_mon fun r=>Mon.andThen types_mon fun ts=>Mon.andThen must_mon fun _=>Mon.andThen types_mon fun us=>Mon.andThen must_mon fun _=>Mon.andThen (blocks_mon _) fun bs=>Mon.pure _) p0 v p' g0.2 h
  omega
theorem funcs_fuel : ∀ f g p, p ≤ l.length → l.length < f + p → l.length < g + p → funcsP l e f p = funcsP l e g p
  | 0,g,p,hp,hf,hg=>by omega
  | f+1,0,p,hp,hf,hg=>by omega
  | f+1,g+1,p,hp,hf,hg=>by
    unfold funcsP
    split
    · cases h:funcP l e p with
      | error x=>rfl
      | ok y =>
        obtain ⟨x,p1⟩:=y
        have:=func_next hp h
        rw [PR.ok_andThen,PR.ok_andThen,funcs_fuel f g p1 this.2 (by omega) (by omega)]
    · rfl
end
theorem funcs_front {la L : List Tk} {e e2 : Nat} (hE : Emb la L 0) (hl : la.length ≤ L.length) : ∀ f p m q, p ≤ la.length → la.length < f + p → funcsP la e f p = .ok (m, q) →
    funcsP L e2 (L.length+1) p=PR.andThen (funcsP L e2 (L.length+1) la.length) fun ns q'=>.ok (m++ns,q')
  | 0,p,m,q,hp,hf,h=>by omega
  | f+1,p,m,q,hp,hf,h=>by
    unfold funcsP at h
    split at h
    · rename_i hlt
      obtain ⟨x,p1,h1,h⟩:=PR.andThen_ok h
      have hn:=func_next hp h1
      obtain ⟨xs,p2,h2,h⟩:=PR.andThen_ok h
      have hf1:=func_loc (e:=e) (e2:=e2) hE hl _ _ _ h1
      rw [Nat.zero_add,Nat.zero_add] at hf1
      have ih:=funcs_front (e2:=e2) hE hl f p1 xs p2 hn.2 (by omega) h2
      have hfu:funcsP L e2 L.length p1=funcsP L e2 (L.length+1) p1:=funcs_fuel _ _ p1 (by omega) (by omega) (by omega)
      injection h with h
      injection h with h3 h4
      rw [funcsP.eq_def,← h3]
      simp only
      rw [if_pos (by omega),hf1,PR.ok_andThen,hfu,ih]
      cases funcsP L e2 (L.length+1) la.length with
      | error x=>rfl
      | ok y=>rfl
    · injection h with h
      injection h with h3 h4
      have:p=la.length:=by omega
      subst this
      rw [← h3]
      cases funcsP L e2 (L.length+1) la.length with
      | error x=>rfl
      | ok y=>rfl
theorem funcs_back {lb L : List Tk} {e e2 k : Nat} (hE : Emb lb L k) (hl : L.length = k + lb.length) : ∀ f p m q, funcsP lb e f p = .ok (m, q) → funcsP L e2 f (k + p) = .ok (m, k + q)
  | 0,p,m,q,h=>by
    injection h with h;injection h with h1 h2;rw [← h1,← h2];rfl
  | f+1,p,m,q,h=>by
    unfold funcsP at h ⊢
    split at h
    · rename_i hlt
      rw [if_pos (by omega)]
      obtain ⟨x,p1,h1,h⟩:=PR.andThen_ok h
      obtain ⟨xs,p2,h2,h⟩:=PR.andThen_ok h
      rw [func_loc (e:=e) (e2:=e2) hE (by omega) _ _ _ h1,PR.ok_andThen,funcs_back hE hl f p1 xs p2 h2,PR.ok_andThen]
      injection h with h;injection h with h3 h4;rw [h3,h4]
    · rename_i hlt
      rw [if_neg (by omega)]
      injection h with h;injection h with h3 h4;rw [h3,h4]
end Go.Proofs.YtjodmledadbgeacGreatDoor
namespace Go.Proofs.YtjodmledadbgeacGreatDoor
set_option linter.unusedVariables false
def MTo.small (x : MTo) : Prop := x.regs.length ≤ 300 ∧ x.args.length ≤ 300
def MIns.small (x : MIns) : Prop := x.regs.length ≤ 300 ∧ x.args.length ≤ 300
def MEnd.small (x : MEnd) : Prop := x.yes.small ∧ x.no.small ∧ x.args.length ≤ 300
def tsmall {n : Nat} (l : List (TT n)) : Prop := l.length ≤ 200 ∧ ∀ t ∈ l, t.count ≤ 100000
def MBlock.small {n : Nat} (x : MBlock n) : Prop := x.code.length ≤ 100000 ∧ tsmall x.params ∧ x.fin.small ∧ ∀ y ∈ x.code, y.small
def MFunc.small {n : Nat} (x : MFunc n) : Prop := x.blocks.length ≤ 100000 ∧ tsmall x.params ∧ tsmall x.results ∧ ∀ y ∈ x.blocks, y.small
def msmall {n : Nat} (m : List (MFunc n)) : Prop := m.length ≤ 100000 ∧ ∀ x ∈ m, x.small
end Go.Proofs.YtjodmledadbgeacGreatDoor
namespace Go.Proofs.YtjodmledadbgeacGreatDoor
set_option linter.unusedSimpArgs false
set_option linter.unusedVariables false
def Has {α : Type} (f : Nat → PR α) (Q : α → Prop) : Prop := ∀ p v p', f p = .ok (v, p') → Q v
theorem Has.andThen {α β : Type} {f : Nat → PR α} {F : α → Nat → PR β} {A : α → Prop} {Q : β → Prop} (hf : Has f A) (hF : ∀ a, A a → Has (F a) Q) : Has (fun p => (f p).andThen F) Q := fun p v p' h => by
  obtain ⟨a,p1,h1,h2⟩:=PR.andThen_ok h
  exact hF a (hf _ _ _ h1) _ _ _ h2
theorem Has.any {α : Type} (f : Nat → PR α) : Has f (fun _ => True) := fun _ _ _ _ => trivial
theorem Has.pure {α : Type} {v : α} {Q : α → Prop} (h : Q v) : Has (fun p => (.ok (v, p) : PR α)) Q := fun p w p' h' => by
  injection h' with h'
  injection h' with h1 h2
  rw [← h1];exact h
section
variable {l : List Tk} {e : Nat}
theorem lst_len {α : Type} {f : Nat → PR α} {s : List UInt8} : ∀ fuel n, Has (lstP l e f s fuel n) (fun xs => n + xs.length ≤ 101)
  | 0,n=>fun p v p' h=>by cases h
  | fuel+1,n=>fun p v p' h=>by
    unfold lstP at h
    split at h
    · cases h
    · split at h
      · injection h with h;injection h with h _;subst h;simp;omega
      · obtain ⟨u,p1,h1,h⟩:=PR.andThen_ok h
        obtain ⟨x,p2,h2,h⟩:=PR.andThen_ok h
        obtain ⟨xs,p3,h3,h⟩:=PR.andThen_ok h
        have:=lst_len fuel (n+1) _ _ _ h3
        injection h with h;injection h with h _;subst h
        simp only [List.length_cons];omega
theorem in_len {α : Type} {f : Nat → PR α} {a b : List UInt8} : Has (inP l e f a b) (fun xs => xs.length ≤ 101) :=
  Has.andThen (Has.any _) fun _ _=>Has.andThen (lst_len 102 0) fun xs hx=>Has.andThen (Has.any _) fun _ _=>Has.pure (by omega)
theorem num_has : Has (numP l e) (fun v => 0 ≤ v ∧ v ≤ 1000000) := fun p v p' h => by
  obtain ⟨x,hx⟩:=num_needs p v p' h
  simp only [numP,hx] at h
  split at h
  · cases h
  · rename_i hn
    simp only [longP,hx] at h
    split at h
    · rename_i hnum
      injection h with h;injection h with h _;subst h
      simp only [hnum,true_and] at hn
      omega
    · cases h
theorem lst_sum {α : Type} {f : Nat → PR α} {s : List UInt8} {μ : α → Nat} (hf : ∀ p v p', p ≤ l.length → f p = .ok (v, p') → p + μ v ≤ p') (hm : Mon l f) : ∀ fuel n p xs p', p ≤ l.length → lstP l e f s fuel n p = .ok (xs, p') → p + (xs.map μ).sum ≤ p'
  | 0,n=>fun p v p' hp h=>by cases h
  | fuel+1,n=>fun p v p' hp h=>by
    unfold lstP at h
    split at h
    · cases h
    · split at h
      · injection h with h;injection h with h h';subst h;simp;omega
      · obtain ⟨u,p1,h1,h⟩:=PR.andThen_ok h
        have g1:p≤p1∧p1≤l.length:=by
          split at h1
          · exact must_mon _ _ _ hp h1
          · injection h1 with h1;injection h1 with _ h1;omega
        obtain ⟨x,p2,h2,h⟩:=PR.andThen_ok h
        have g2:=hf _ _ _ g1.2 h2
        have g3:=hm _ _ _ g1.2 h2
        obtain ⟨xs,p3,h3,h⟩:=PR.andThen_ok h
        have g4:=lst_sum hf hm fuel (n+1) _ _ _ g3.2 h3
        injection h with h;injection h with h h';subst h
        simp only [List.map_cons,List.sum_cons];omega
theorem in_sum {α : Type} {f : Nat → PR α} {a b : List UInt8} {μ : α → Nat} (hf : ∀ p v p', p ≤ l.length → f p = .ok (v, p') → p + μ v ≤ p') (hm : Mon l f) {p p' : Nat} {xs : List α} (hp : p ≤ l.length) (h : inP l e f a b p = .ok (xs, p')) : p + 2 + (xs.map μ).sum ≤ p' := by
  obtain ⟨u,p1,h1,h⟩:=PR.andThen_ok h
  have g1:=must_mon _ _ _ hp h1
  have e1:=must_next h1
  obtain ⟨ys,p2,h2,h⟩:=PR.andThen_ok h
  have g2:=lst_sum hf hm _ _ _ _ _ g1.2 h2
  obtain ⟨u',p3,h3,h⟩:=PR.andThen_ok h
  have e3:=must_next h3
  injection h with h;injection h with h h';subst h
  omega
theorem typ_count : ∀ d p (t : TT (d + 1)) p', p ≤ l.length → typP l e d p = .ok (t, p') → p + t.count ≤ p'
  | 0,p,t,p',hp,h=>by cases h
  | d+1,p,t,p',hp,h=>by
    rw [typP] at h
    split at h
    · injection h with h;injection h with h h';subst h;simp [TT.count];omega
    · split at h
      · obtain ⟨x,hx⟩:=isW_some (by assumption)
        have:=lt_of_tok hx
        obtain ⟨r,q,h1,h⟩:=PR.andThen_ok h
        have g:=num_mon _ _ _ (by omega) h1
        injection h with h;injection h with h h';subst h;simp [TT.count];omega
      · split at h
        · obtain ⟨x,hx⟩:=isW_some (by assumption)
          have:=lt_of_tok hx
          obtain ⟨r,q,h1,h⟩:=PR.andThen_ok h
          have g:=num_mon _ _ _ (by omega) h1
          injection h with h;injection h with h h';subst h;simp [TT.count];omega
        · obtain ⟨u,p1,h1,h⟩:=PR.andThen_ok h
          have g1:=must_mon _ _ _ hp h1
          obtain ⟨r,p2,h2,h⟩:=PR.andThen_ok h
          have g2:=num_mon _ _ _ g1.2 h2
          obtain ⟨ts,p3,h3,h⟩:=PR.andThen_ok h
          have g3:=in_sum (μ:=TT.count) (fun p v p' hp h=>typ_count d p v p' hp h) (typ_mon d) g2.2 h3
          injection h with h;injection h with h h';subst h
          show p+(1+(ts.map TT.count).sum)≤p'
          omega
theorem in_each2 {α : Type} {f : Nat → PR α} {a b : List UInt8} {N : Nat} {μ : α → Nat} (hf : ∀ p v p', p ≤ l.length → f p = .ok (v, p') → p + μ v ≤ p') (hm : Mon l f) {p p' : Nat} {xs : List α} (hp : p ≤ l.length) (hN : l.length ≤ N) (h : inP l e f a b p = .ok (xs, p')) : ∀ x ∈ xs, μ x ≤ N := by
  have h1:=in_sum hf hm hp h
  have h2:=(in_mon hm _ _ _ hp h).2
  intro x hx
  have:∀ ys:List α,x ∈ ys→μ x≤(ys.map μ).sum:=by
    intro ys
    induction ys with
    | nil=>intro h;simp at h
    | cons y ys ih =>
      intro h
      simp only [List.map_cons,List.sum_cons]
      rcases List.mem_cons.1 h with rfl | h
      · omega
      · have:=ih h;omega
  have:=this xs hx
  omega
theorem types_small (hN : l.length ≤ 100000) {p p' : Nat} {ts : List (TT 6)} (hp : p ≤ l.length) (h : typesP l e p = .ok (ts, p')) : tsmall ts :=
  ⟨Nat.le_trans (in_len _ _ _ h) (by decide),in_each2 (fun p v p' hp h=>typ_count 5 p v p' hp h) (typ_mon 5) hp hN h⟩
theorem fields_small (op : Nat) : Has (insFields l e op) MIns.small := by
  unfold insFields
  have hz:∀ {x:MIns},x.regs=[]→x.args=[]→x.small:=fun h1 h2=>by unfold MIns.small;rw [h1,h2];simp
  by_cases h1:op=1
  · simp only [if_pos h1];exact Has.andThen (Has.any _) fun n _=>Has.pure (hz rfl rfl)
  simp only [if_neg h1]
  by_cases h2:op=2
  · simp only [if_pos h2]
    intro p v p' h
    have h':(if whichP l kindWords p=0 then .error (wrongAt l e 4 p) else PR.andThen (numP l e (p+1)) fun a p1=>PR.andThen (numP l e p1) fun b p2=>.ok ((⟨2,a,b,0,(whichP l kindWords p:Nat),0,[],[]⟩:MIns),p2):PR MIns)=.ok (v,p'):=h
    split at h'
    · cases h'
    · obtain ⟨a,p1,_,h'⟩:=PR.andThen_ok h'
      obtain ⟨b,p2,_,h'⟩:=PR.andThen_ok h'
      injection h' with h';injection h' with h' _;subst h'
      exact hz rfl rfl
  simp only [if_neg h2]
  by_cases h3:op=5
  · simp only [if_pos h3];exact Has.andThen (Has.any _) fun a _=>Has.andThen in_len fun x hx=>Has.pure ⟨by simp,by show x.length≤300;omega⟩
  simp only [if_neg h3]
  by_cases h4:op=6
  · simp only [if_pos h4];exact Has.andThen (Has.any _) fun a _=>Has.andThen (Has.any _) fun x _=>Has.pure (hz rfl rfl)
  simp only [if_neg h4]
  by_cases h5:op=7
  · simp only [if_pos h5];exact Has.andThen (Has.any _) fun a _=>Has.andThen (Has.any _) fun x _=>Has.andThen (Has.any _) fun y _=>Has.pure (hz rfl rfl)
  simp only [if_neg h5]
  by_cases h6:op=14
  · simp only [if_pos h6];exact Has.andThen (Has.any _) fun a _=>Has.andThen in_len fun x hx=>Has.andThen in_len fun y hy=>Has.pure ⟨by show x.length≤300;omega,by show y.length≤300;omega⟩
  simp only [if_neg h6]
  by_cases h7:op=4 ∨ op=11 ∨ op=13
  · simp only [if_pos h7];exact Has.andThen (Has.any _) fun a _=>Has.pure (hz rfl rfl)
  simp only [if_neg h7]
  by_cases h8:op=8 ∨ op=9
  · simp only [if_pos h8];exact Has.andThen (Has.any _) fun a _=>Has.andThen (Has.any _) fun b _=>Has.pure (hz rfl rfl)
  simp only [if_neg h8]
  by_cases h9:op=10
  · simp only [if_pos h9];exact Has.andThen (Has.any _) fun a _=>Has.andThen (Has.any _) fun b _=>Has.andThen (Has.any _) fun c _=>Has.pure (hz rfl rfl)
  simp only [if_neg h9]
  exact Has.pure (hz rfl rfl)
theorem ins_small (op : Nat) : Has (insP l e op) MIns.small := Has.andThen (fields_small op) fun x hx => Has.andThen (Has.any _) fun _ _ => Has.pure hx
theorem to_small : Has (toP l e) MTo.small := Has.andThen (Has.any _) fun b _ => Has.andThen in_len fun x hx => Has.andThen in_len fun y hy => Has.pure ⟨by show x.length ≤ 300; omega, by show y.length ≤ 300; omega⟩
theorem noTo_small : noTo.small := ⟨by simp [noTo], by simp [noTo]⟩
theorem Has.way {α : Type} {a : List UInt8} {f1 f3 : Nat → PR α} {Q : α → Prop} (h1 : Has f1 Q) (h3 : Has f3 Q) : Has (fun p => if isW l a p then f1 p else f3 p) Q := fun p v p' h => by
  have h':(if isW l a p then f1 p else f3 p)=.ok (v,p'):=h
  split at h'
  · exact h1 _ _ _ h'
  · exact h3 _ _ _ h'
theorem Has.next {α : Type} {f : Nat → PR α} {Q : α → Prop} (h : Has f Q) : Has (fun p => f (p + 1)) Q := fun p v p' h' => h _ _ _ h'
theorem ends_small : Has (endsP l e) MEnd.small :=
  Has.andThen (Has.way (Has.andThen (Has.next to_small) fun t ht=>Has.pure (Q:=MEnd.small) ⟨ht,noTo_small,by simp⟩)
    (Has.way (Has.andThen (Has.any _) fun a _=>Has.andThen (Has.any _) fun _ _=>Has.andThen to_small fun t ht=>Has.andThen (Has.any _) fun _ _=>Has.andThen to_small fun u hu=>Has.pure ⟨ht,hu,by simp⟩)
      (Has.andThen (Has.any _) fun _ _=>Has.andThen in_len fun x hx=>Has.pure ⟨noTo_small,noTo_small,by show x.length≤300;omega⟩))) fun x hx=>Has.andThen (Has.any _) fun _ _=>Has.pure hx
theorem code_small : ∀ f p v p', p ≤ l.length → codeP l e f p = .ok (v, p') → p + v.1.length ≤ p' ∧ p' ≤ l.length ∧ (∀ y ∈ v.1, y.small) ∧ v.2.small
  | 0,p,v,p',hp,h=>by cases h
  | f+1,p,v,p',hp,h=>by
    unfold codeP at h
    split at h
    · obtain ⟨x,q,h1,h⟩:=PR.andThen_ok h
      have g1:=ends_mon _ _ _ hp h1
      have g2:=ends_small _ _ _ h1
      injection h with h;injection h with h h';subst h
      exact ⟨by simp;omega,by omega,by simp,g2⟩
    · rename_i hw
      obtain ⟨t,ht⟩:=which_some hw
      have:=lt_of_tok ht
      obtain ⟨x,p1,h1,h⟩:=PR.andThen_ok h
      have g1:=ins_mon _ _ _ _ (by omega) h1
      have s1:=ins_small _ _ _ _ h1
      obtain ⟨y,p2,h2,h⟩:=PR.andThen_ok h
      have g2:=code_small f _ _ _ g1.2 h2
      injection h with h;injection h with h h';subst h
      refine ⟨by simp only [List.length_cons];omega,by omega,fun z hz=>?_,g2.2.2.2⟩
      rcases List.mem_cons.1 hz with rfl | hz
      · exact s1
      · exact g2.2.2.1 z hz
theorem block_small (hN : l.length ≤ 100000) {p p' : Nat} {b : MBlock 6} (hp : p ≤ l.length) (h : blockP l e p = .ok (b, p')) : b.small := by
  obtain ⟨r,p1,h1,h⟩:=PR.andThen_ok h
  have g1:=num_mon _ _ _ hp h1
  obtain ⟨ts,p2,h2,h⟩:=PR.andThen_ok h
  have g2:=types_mon _ _ _ g1.2 h2
  have s2:=types_small hN g1.2 h2
  obtain ⟨u,p3,h3,h⟩:=PR.andThen_ok h
  have g3:=must_mon _ _ _ g2.2 h3
  obtain ⟨c,p4,h4,h⟩:=PR.andThen_ok h
  have g4:=code_small _ _ _ _ g3.2 h4
  obtain ⟨u',p5,h5,h⟩:=PR.andThen_ok h
  injection h with h;injection h with h h';subst h
  exact ⟨by show c.1.length≤100000;omega,s2,g4.2.2.2,g4.2.2.1⟩
theorem blocks_small (hN : l.length ≤ 100000) : ∀ f p bs p', p ≤ l.length → blocksP l e f p = .ok (bs, p') → p + bs.length ≤ p' ∧ p' ≤ l.length ∧ ∀ b ∈ bs, b.small
  | 0,p,v,p',hp,h=>by cases h
  | f+1,p,v,p',hp,h=>by
    unfold blocksP at h
    split at h
    · obtain ⟨x,hx⟩:=isW_some (by assumption)
      have:=lt_of_tok hx
      obtain ⟨b,p1,h1,h⟩:=PR.andThen_ok h
      have g1:=block_mon _ _ _ (by omega) h1
      have s1:=block_small hN (by omega) h1
      obtain ⟨bs,p2,h2,h⟩:=PR.andThen_ok h
      have g2:=blocks_small hN f _ _ _ g1.2 h2
      injection h with h;injection h with h h';subst h
      refine ⟨by simp only [List.length_cons];omega,by omega,fun z hz=>?_⟩
      rcases List.mem_cons.1 hz with rfl | hz
      · exact s1
      · exact g2.2.2 z hz
    · obtain ⟨u,q,h1,h⟩:=PR.andThen_ok h
      have g1:=must_mon _ _ _ hp h1
      injection h with h;injection h with h h';subst h
      exact ⟨by simp;omega,by omega,by simp⟩
theorem func_small (hN : l.length ≤ 100000) {p p' : Nat} {x : MFunc 6} (hp : p ≤ l.length) (h : funcP l e p = .ok (x, p')) : x.small := by
  obtain ⟨u0,p0,h0,h⟩:=PR.andThen_ok h
  have g0:=must_mon _ _ _ hp h0
  obtain ⟨r,p1,h1,h⟩:=PR.andThen_ok h
  have g1:=num_mon _ _ _ g0.2 h1
  obtain ⟨ts,p2,h2,h⟩:=PR.andThen_ok h
  have g2:=types_mon _ _ _ g1.2 h2
  have s2:=types_small hN g1.2 h2
  obtain ⟨u3,p3,h3,h⟩:=PR.andThen_ok h
  have g3:=must_mon _ _ _ g2.2 h3
  obtain ⟨us,p4,h4,h⟩:=PR.andThen_ok h
  have g4:=types_mon _ _ _ g3.2 h4
  have s4:=types_small hN g3.2 h4
  obtain ⟨u5,p5,h5,h⟩:=PR.andThen_ok h
  have g5:=must_mon _ _ _ g4.2 h5
  obtain ⟨bs,p6,h6,h⟩:=PR.andThen_ok h
  have g6:=blocks_small hN _ _ _ _ g5.2 h6
  injection h with h;injection h with h h';subst h
  exact ⟨by show bs.length≤100000;omega,s2,s4,g6.2.2⟩
theorem funcs_small (hN : l.length ≤ 100000) : ∀ f p m q, p ≤ l.length → funcsP l e f p = .ok (m, q) → p + m.length ≤ q ∧ q ≤ l.length ∧ ∀ x ∈ m, x.small
  | 0,p,m,q,hp,h=>by
    injection h with h;injection h with h h';subst h;exact ⟨by simp;omega,by omega,by simp⟩
  | f+1,p,m,q,hp,h=>by
    unfold funcsP at h
    split at h
    · obtain ⟨x,p1,h1,h⟩:=PR.andThen_ok h
      have g1:=func_next hp h1
      have s1:=func_small hN hp h1
      obtain ⟨xs,p2,h2,h⟩:=PR.andThen_ok h
      have g2:=funcs_small hN f _ _ _ g1.2 h2
      injection h with h;injection h with h h';subst h
      refine ⟨by simp only [List.length_cons];omega,by omega,fun z hz=>?_⟩
      rcases List.mem_cons.1 hz with rfl | hz
      · exact s1
      · exact g2.2.2 z hz
    · injection h with h;injection h with h h';subst h;exact ⟨by simp;omega,by omega,by simp⟩
theorem parsed_small (hN : l.length ≤ 100000) {f q : Nat} {m : List (MFunc 6)} (h : funcsP l e f 0 = .ok (m, q)) : msmall m := by
  have:=funcs_small hN f 0 m q (Nat.zero_le _) h
  exact ⟨by omega,this.2.2⟩
end
section
variable {l : List Tk} {p : Nat}
theorem isW_one {a b : List UInt8} (ha : isW l a p = true) (hb : isW l b p = true) : a = b := by
  unfold isW at ha hb
  split at ha
  · rename_i t ht
    rw [ht] at hb
    simp at ha hb
    rw [← ha.2,hb.2]
  · cases ha
theorem which_le (ws : List (List UInt8)) : whichP l ws p ≤ ws.length := by
  unfold whichP
  split
  · rename_i h
    have:ws.findIdx (fun s=>isW l s p) < ws.length:=by rw [List.findIdx_lt_length];exact List.any_eq_true.1 h
    omega
  · omega
end
end Go.Proofs.YtjodmledadbgeacGreatDoor
namespace Go.Proofs.YtjodmledadbgeacGreatDoor
open Go.ChangeShapes Go.WideShapes Go.ChangeAt Go.RowKit
set_option linter.unusedVariables false
def str (l : List UInt8) : ByteArray := ⟨l.toArray⟩
theorem str_list (l : List UInt8) : (str l).data.toList = l := rfl
theorem str_size (l : List UInt8) : (str l).size = l.length := by simp [str, ByteArray.size]
theorem list_len (s : ByteArray) : s.data.toList.length = s.size := Array.length_toList
theorem ext_list (s : ByteArray) (a b : Nat) : (s.extract a b).data.toList = (s.data.toList.drop a).take (b - a) := by
  simp [ByteArray.extract,ByteArray.copySlice,List.take_drop]
theorem ext_str (s : ByteArray) (a b : Nat) : s.extract a b = str ((s.data.toList.drop a).take (b - a)) := by
  rw [← ext_list];rfl
theorem drop_at (s : ByteArray) (k : Nat) (h : k < s.size) : s.data.toList.drop k = s[k] :: s.data.toList.drop (k + 1) := by
  rw [List.drop_eq_getElem_cons (by rw [list_len];exact h)];rfl
theorem drop_end (s : ByteArray) (k : Nat) (h : ¬ k < s.size) : s.data.toList.drop k = [] := List.drop_of_length_le (by rw [list_len]; omega)
def Tk.cells (t : Tk) : List Value := [.int .i64 t.pos, .string (str t.text), .bool t.num, .int .i64 t.n]
def tkL : Lay Tk where
  size:=4
  In:=fun _ _ x cs=>cs=x.cells
  len:=fun h=>by rw [h];rfl
  keep:=fun _ _ h=>h
def TkR.val (pos : Nat) (l : List UInt8) : TkR → Value
  | .bad c=>.tuple #[.agg #[.int .i64 0,.string (str []),.bool false,.int .i64 0],.int .i64 c]
  | .ok k b n=>.tuple #[.agg #[.int .i64 pos,.string (str (l.take k)),.bool b,.int .i64 n],.int .i64 0]
end Go.Proofs.YtjodmledadbgeacGreatDoor
namespace Go.Proofs.YtjodmledadbgeacGreatDoor
open Go.ChangeShapes Go.WideShapes Go.ChangeAt Go.RowKit Go.Shelf
set_option linter.unusedSimpArgs false
set_option linter.unusedVariables false
theorem ret_bool {a b : Bool} (h : a = b) : Ending.returned (.bool a) = .returned (.bool b) := by rw [h]
theorem ret_int {k : IntKind} {a b : Int} (h : a = b) : Ending.returned (.int k a) = .returned (.int k b) := by rw [h]
def Kind1 (f : FuncId) (p : UInt8 → Bool) : Prop := ∀ (c : UInt8) (w : World), Calls Tryz.prog f #[.int .u8 (c.toNat : Int)] w fun e w' => e = .returned (.bool (p c)) ∧ w' = w
theorem isBlank_any : Kind1 60 blB := by
  intro c w
  go_enter Tryz.func60,Tryz.ntmps60
  go_wp2
  all_goals
    go_ret
    refine ⟨ret_bool ?_,rfl⟩
    rw [Bool.eq_iff_iff]
    simp [blB] <;> omega
theorem isRemark_any : Kind1 62 rmB := by
  intro c w
  go_enter Tryz.func62,Tryz.ntmps62
  go_wp2
  all_goals
    go_ret
    refine ⟨ret_bool ?_,rfl⟩
    rw [Bool.eq_iff_iff]
    simp [rmB] <;> omega
theorem isLetter_any : Kind1 63 letB := by
  intro c w
  go_enter Tryz.func63,Tryz.ntmps63
  go_wp2
  all_goals
    go_ret
    refine ⟨ret_bool ?_,rfl⟩
    rw [Bool.eq_iff_iff]
    simp [letB] <;> omega
theorem isDigit_any : Kind1 67 digB := by
  intro c w
  go_enter Tryz.func67,Tryz.ntmps67
  go_wp2
  all_goals
    go_ret
    refine ⟨ret_bool ?_,rfl⟩
    rw [Bool.eq_iff_iff]
    simp [digB] <;> omega
theorem indexByte_mem (c : UInt8) : ∀ l : List UInt8, 0 ≤ Lib.indexByte l c ↔ c ∈ l
  | []=>by simp [Lib.indexByte]
  | b::l=>by
    have ih:=indexByte_mem c l
    have hge:=Lib.indexByte_ge l c
    simp only [Lib.indexByte,List.mem_cons]
    by_cases h:b=c
    · subst h;simp
    · have h':¬ c=b:=fun e=>h e.symm
      simp only [beq_iff_eq,h,h',if_false,false_or]
      rw [← ih]
      split <;> omega
theorem sign_mem (c : UInt8) : c ∈ ([40, 41, 123, 125, 60, 62, 44, 59] : List UInt8) ↔ sigB c = true := by
  simp [sigB,← UInt8.toNat_inj]
theorem sliteIndexByte (s : ByteArray) (c : Int) (w : World) :
    Calls Tryz.prog 105 #[.string s,.int .u8 c] w fun e w'=>e=.returned (.int .i64 (Lib.indexByte s.data.toList c.toNat.toUInt8))∧w'=w:=by
  go_enter Tryz.func105,Tryz.ntmps105
  go_wp2
  rw [run_callFunc_extern Tryz.func133 (by kernel_rfl) (by kernel_rfl) (by kernel_rfl) (e:=Extern.BytealgIndexByte.indexByte) (by kernel_rfl),Lib.run_indexByteString]
  simp only [Result.andThen]
  rw [Oper.upon_value]
  go_wp2
  go_ret
  exact ⟨rfl,rfl⟩
theorem sIndexByte (s : ByteArray) (c : Int) (w : World) :
    Calls Tryz.prog 85 #[.string s,.int .u8 c] w fun e w'=>e=.returned (.int .i64 (Lib.indexByte s.data.toList c.toNat.toUInt8))∧w'=w:=by
  go_enter Tryz.func85,Tryz.ntmps85
  go_wp2_with (go_at_call 105;refine (sliteIndexByte _ _ _).mono ?_;rintro e w' ⟨rfl,rfl⟩)
  go_ret
  exact ⟨rfl,rfl⟩
theorem isSign_any : Kind1 69 sigB := by
  intro c w
  have h1:=indexByte_mem c [40,41,123,125,60,62,44,59]
  rw [sign_mem] at h1
  have hc:((c.toNat:Int)).toNat.toUInt8=c:=by simp
  have C:Hid (∀ w,Calls Tryz.prog 85 #[.string ⟨#[40,41,123,125,60,62,44,59]⟩,.int .u8 (c.toNat:Int)] w fun e w'=>e=.returned (.int .i64 (Lib.indexByte [40,41,123,125,60,62,44,59] c))∧w'=w):=by
    intro w
    have:=sIndexByte ⟨#[40,41,123,125,60,62,44,59]⟩ (c.toNat:Int) w
    rw [hc] at this
    exact this
  clear hc
  generalize Lib.indexByte [40,41,123,125,60,62,44,59] c=x at h1 C
  have H:Hid (0≤x ↔ sigB c=true):=h1
  clear h1
  go_enter Tryz.func69,Tryz.ntmps69
  go_wp2_with (go_at_call 85;refine (C.out _).mono ?_;rintro e w' ⟨rfl,rfl⟩)
  all_goals
    go_ret
    refine ⟨ret_bool ?_,rfl⟩
    rw [Bool.eq_iff_iff,← H.out]
    simp
theorem isDigitAt_any (s : ByteArray) (i : Nat) (w : World) (hi : i ≤ 1000000) (hs : s.size ≤ maxLen) :
    Calls Tryz.prog 65 #[.string s,.int .i64 i] w fun e w'=>e=.returned (.bool ((s.data.toList.drop i).head?.any digB))∧w'=w:=by
  unfold maxLen at hs
  by_cases hlt:i < s.size
  · rw [drop_at s i hlt]
    have hlt':(i:Int) < s.size:=by omega
    go_enter Tryz.func65,Tryz.ntmps65
    go_wp2_with (go_at_call 67;refine (isDigit_any _ _).mono ?_;rintro e w' ⟨rfl,rfl⟩)
    all_goals
      go_ret
      exact ⟨ret_bool (by simp),rfl⟩
  · rw [drop_end s i hlt]
    have hlt':¬ (i:Int) < s.size:=by omega
    go_enter Tryz.func65,Tryz.ntmps65
    go_wp2_with (go_at_call 67;refine (isDigit_any _ _).mono ?_;rintro e w' ⟨rfl,rfl⟩)
    go_ret
    exact ⟨ret_bool (by simp),rfl⟩
theorem past_any {f : FuncId} {p : UInt8 → Bool} (hk0 : Kind1 f p) (hE0 : Enters Tryz.prog f) (s : ByteArray) (i : Nat) (w : World) (hi : i ≤ s.size) (hs : s.size ≤ 1000000) :
    Calls Tryz.prog 61 #[.string s,.int .i64 i,.func (.func f) #[] #[]] w fun e w'=>e=.returned (.int .i64 ((i+pre p (s.data.toList.drop i):Nat):Int))∧w'=w:=by
  have hk:Hid (Kind1 f p):=hk0
  have hE:∀ args w,(callFunc f args).run Tryz.prog w=.ok (.enter f args) w:=hE0
  clear hk0 hE0
  go_enter Tryz.func61,Tryz.ntmps61
  go_wp2_with fail
  go_loop [1] (fun t=>∃ k:Nat,k≤s.size∧t=.int .i64 k∧k+pre p (s.data.toList.drop k)=i+pre p (s.data.toList.drop i)) (fun t=>s.size - (intOf t).toNat)
  case atStart=>exact ⟨i,hi,rfl,rfl⟩
  case round =>
    obtain ⟨k,hk1,rfl,hrel⟩:=hrel
    have R:Hid (k+pre p (s.data.toList.drop k)=i+pre p (s.data.toList.drop i)):=hrel
    clear hrel
    by_cases hlt:k < s.size
    · have hlt':(k:Int) < s.size:=by omega
      cases hp:p s[k] with
      | true =>
        have R2:Hid (k+1+pre p (s.data.toList.drop (k+1))=i+pre p (s.data.toList.drop i)):=by
          show _=_
          rw [← R.out,drop_at s k hlt,pre_yes hp];omega
        have C:∀ w,Calls Tryz.prog f #[.int .u8 (s[k].toNat:Int)] w fun e w'=>e=.returned (.bool true)∧w'=w:=fun w=>by rw [← hp];exact hk.out _ w
        have HC:Hid _:=C
        clear C hp R
        go_wp2_with (go_at_fn f;refine (HC.out _).mono ?_;rintro e w' ⟨rfl,rfl⟩)
        go_round
        case rel=>exact ⟨k+1,by omega,by go_num,R2.out⟩
        case measure=>simp [intOf];omega
      | false =>
        have R2:Hid (k=i+pre p (s.data.toList.drop i)):=by
          show _=_
          rw [← R.out,drop_at s k hlt,pre_no hp];omega
        have C:∀ w,Calls Tryz.prog f #[.int .u8 (s[k].toNat:Int)] w fun e w'=>e=.returned (.bool false)∧w'=w:=fun w=>by rw [← hp];exact hk.out _ w
        have HC:Hid _:=C
        clear C hp R
        go_wp2_with (go_at_fn f;refine (HC.out _).mono ?_;rintro e w' ⟨rfl,rfl⟩)
        go_ret
        exact ⟨ret_int (by have:=R2.out;omega),rfl⟩
    · have hlt':¬ (k:Int) < s.size:=by omega
      have R2:Hid (k=i+pre p (s.data.toList.drop i)):=by
        show _=_
        rw [← R.out,drop_end s k hlt];simp [pre]
      clear R
      go_wp2_with (go_at_fn f;fail)
      go_ret
      exact ⟨ret_int (by have:=R2.out;omega),rfl⟩
theorem ent_remark : Enters Tryz.prog 62 := enters_of Tryz.func62 (by kernel_rfl) rfl
theorem ent_letter : Enters Tryz.prog 63 := enters_of Tryz.func63 (by kernel_rfl) rfl
theorem ent_digit : Enters Tryz.prog 67 := enters_of Tryz.func67 (by kernel_rfl) rfl
theorem kind_at {f : FuncId} {p : UInt8 → Bool} (h : Kind1 f p) {c : UInt8} {b : Bool} (hp : p c = b) : ∀ w, Calls Tryz.prog f #[.int .u8 (c.toNat : Int)] w fun e w' => e = .returned (.bool b) ∧ w' = w := fun w => by rw [← hp]; exact h _ w
theorem pastBlanks_any (s : ByteArray) (i : Nat) (w : World) (hi : i ≤ s.size) (hs : s.size ≤ 1000000) :
    Calls Tryz.prog 32 #[.string s,.int .i64 i] w fun e w'=>e=.returned (.int .i64 ((i+blk false (s.data.toList.drop i):Nat):Int))∧w'=w:=by
  go_enter Tryz.func32,Tryz.ntmps32
  go_wp2_with fail
  go_loop [1] (fun t=>∃ k:Nat,k≤s.size∧t=.int .i64 k∧k+blk false (s.data.toList.drop k)=i+blk false (s.data.toList.drop i)) (fun t=>s.size - (intOf t).toNat)
  case atStart=>exact ⟨i,hi,rfl,rfl⟩
  case round =>
    obtain ⟨k,hk1,rfl,hrel⟩:=hrel
    have R:Hid (k+blk false (s.data.toList.drop k)=i+blk false (s.data.toList.drop i)):=hrel
    clear hrel
    by_cases hlt:k < s.size
    · have hlt':(k:Int) < s.size:=by omega
      cases hp:blB s[k] with
      | true =>
        have R2:Hid (k+1+blk false (s.data.toList.drop (k+1))=i+blk false (s.data.toList.drop i)):=by
          show _=_
          rw [← R.out,drop_at s k hlt,blk_blank hp];omega
        have C:Hid _:=kind_at isBlank_any hp
        clear hp R
        go_wp2_with (go_at_call 60;refine (C.out _).mono ?_;rintro e w' ⟨rfl,rfl⟩)
        go_round
        case rel=>exact ⟨k+1,by omega,by go_num,R2.out⟩
        case measure=>simp [intOf];omega
      | false =>
        have C:Hid _:=kind_at isBlank_any hp
        by_cases h35:s[k].toNat=35
        · have hn:=pre_le rmB (s.data.toList.drop k)
          rw [List.length_drop,list_len] at hn
          have hy:1≤pre rmB (s.data.toList.drop k):=by
            rw [drop_at s k hlt,pre_yes (by simp [rmB,h35])];omega
          have R2:Hid (k+pre rmB (s.data.toList.drop k)+blk false (s.data.toList.drop (k+pre rmB (s.data.toList.drop k)))=i+blk false (s.data.toList.drop i)):=by
            show _=_
            have hd:=drop_at s k hlt
            have hb:=blk_remark (l:=s.data.toList.drop (k+1)) h35
            rw [← hd] at hb
            rw [← R.out,hb,List.drop_drop];omega
          have D:Hid _:=past_any isRemark_any ent_remark s k
          generalize pre rmB (s.data.toList.drop k)=m at hn hy R2 D
          have h35':(s[k].toNat:Int)=35:=by omega
          have hkm:Hid (k+m≤s.size):=by show _≤_;omega
          have hms:Hid (s.size - (k+m) < s.size - k):=by show _ < _;omega
          have C':=C.out
          rw [h35'] at C'
          have C2:Hid _:=C'
          clear hp R h35 hn hy C C'
          go_wp2_with (first
            | (go_at_call 60;refine (C2.out _).mono ?_;rintro e w' ⟨rfl,rfl⟩)
            | (go_at_call 61;refine (D.out _ hk1 hs).mono ?_;rintro e w' ⟨rfl,rfl⟩))
          go_round
          case rel=>exact ⟨k+m,hkm.out,by refine congrArg (Value.int IntKind.i64) ?_;exact (Int.natCast_add k m).symm,R2.out⟩
          case measure=>have:=hms.out;simp [intOf];omega
        · have R2:Hid (k=i+blk false (s.data.toList.drop i)):=by
            show _=_
            rw [← R.out,drop_at s k hlt,blk_none hp h35];omega
          have h35':¬ (s[k].toNat:Int)=35:=by omega
          clear hp R h35
          go_wp2_with (first
            | (go_at_call 60;refine (C.out _).mono ?_;rintro e w' ⟨rfl,rfl⟩))
          go_ret
          exact ⟨ret_int (by have:=R2.out;omega),rfl⟩
    · have hlt':¬ (k:Int) < s.size:=by omega
      have R2:Hid (k=i+blk false (s.data.toList.drop i)):=by
        show _=_
        rw [← R.out,drop_end s k hlt];simp [blk]
      clear R
      go_wp2_with fail
      go_ret
      exact ⟨ret_int (by have:=R2.out;omega),rfl⟩
end Go.Proofs.YtjodmledadbgeacGreatDoor
namespace Go.Proofs
open Go.Shelf
def Tryz.laysM173_ren : Go.Shelf.Ren := ⟨fun | 173 => 78 | 246 => 103 | 283 => 129 | 284 => 130 | 285 => 131 | 286 => 132 | 129 => 154 | 317 => 153 | 318 => 155 | 319 => 156 | 320 => 157 | 337 => 161 | 338 => 162 | n => n, fun | 2 => 2 | 3 => 3 | 9 => 9 | 4 => 4 | 171 => 154 | 0 => 0 | 53 => 147 | 37 => 157 | 5 => 5 | 173 => 158 | 212 => 172 | 51 => 173 | 20 => 20 | 213 => 174 | 46 => 150 | 232 => 182 | 233 => 183 | n => n, fun | 17 => 2 | 18 => 4 | 19 => 5 | n => n⟩
theorem Tryz.laysM173 : Go.Proofs.LaysM.n173 Tryz.prog Tryz.laysM173_ren := {
  mixed:=by kernel_rfl
  f129:=Tryz.func154.trans (congrArg some (by kernel_rfl))
  f173:=Tryz.func78.trans (congrArg some (by kernel_rfl))
  f246:=Tryz.func103.trans (congrArg some (by kernel_rfl))
  f283:=Tryz.func129.trans (congrArg some (by kernel_rfl))
  f284:=Tryz.func130.trans (congrArg some (by kernel_rfl))
  f285:=Tryz.func131.trans (congrArg some (by kernel_rfl))
  f286:=Tryz.func132.trans (congrArg some (by kernel_rfl))
  f317:=Tryz.func153.trans (congrArg some (by kernel_rfl))
  f318:=Tryz.func155.trans (congrArg some (by kernel_rfl))
  f319:=Tryz.func156.trans (congrArg some (by kernel_rfl))
  f320:=Tryz.func157.trans (congrArg some (by kernel_rfl))
  f337:=Tryz.func161.trans (congrArg some (by kernel_rfl))
  f338:=Tryz.func162.trans (congrArg some (by kernel_rfl))
  t0:=Tryz.underlying0
  a0:=Tryz.isAgg0
  z0:=Tryz.sizeOf0
  v0:=Tryz.zeroValue0
  t2:=Tryz.underlying2
  a2:=Tryz.isAgg2
  z2:=Tryz.sizeOf2
  v2:=Tryz.zeroValue2
  t3:=Tryz.underlying3
  a3:=Tryz.isAgg3
  z3:=Tryz.sizeOf3
  v3:=Tryz.zeroValue3
  t4:=Tryz.underlying4
  a4:=Tryz.isAgg4
  z4:=Tryz.sizeOf4
  v4:=Tryz.zeroValue4
  t5:=Tryz.underlying5
  a5:=Tryz.isAgg5
  z5:=Tryz.sizeOf5
  v5:=Tryz.zeroValue5
  t9:=Tryz.underlying9
  a9:=Tryz.isAgg9
  z9:=Tryz.sizeOf9
  v9:=Tryz.zeroValue9
  t20:=Tryz.underlying20
  a20:=Tryz.isAgg20
  z20:=Tryz.sizeOf20
  v20:=Tryz.zeroValue20
  t37:=Tryz.underlying157
  a37:=Tryz.isAgg157
  z37:=Tryz.sizeOf157
  v37:=Tryz.zeroValue157
  t46:=Tryz.underlying150
  a46:=Tryz.isAgg150
  z46:=Tryz.sizeOf150
  v46:=Tryz.zeroValue150
  t51:=Tryz.underlying173
  a51:=Tryz.isAgg173
  z51:=Tryz.sizeOf173
  v51:=Tryz.zeroValue173
  t53:=Tryz.underlying147
  a53:=Tryz.isAgg147
  z53:=Tryz.sizeOf147
  v53:=Tryz.zeroValue147
  t171:=Tryz.underlying154
  a171:=Tryz.isAgg154
  z171:=Tryz.sizeOf154
  v171:=Tryz.zeroValue154
  t173:=Tryz.underlying158
  a173:=Tryz.isAgg158
  z173:=Tryz.sizeOf158
  v173:=Tryz.zeroValue158
  t212:=Tryz.underlying172
  a212:=Tryz.isAgg172
  z212:=Tryz.sizeOf172
  v212:=Tryz.zeroValue172
  t213:=Tryz.underlying174
  a213:=Tryz.isAgg174
  z213:=Tryz.sizeOf174
  t232:=Tryz.underlying182
  a232:=Tryz.isAgg182
  z232:=Tryz.sizeOf182
  v232:=Tryz.zeroValue182
  t233:=Tryz.underlying183
  a233:=Tryz.isAgg183
  z233:=Tryz.sizeOf183
  v233:=Tryz.zeroValue183
  g17:=by kernel_rfl
  g18:=by kernel_rfl
  g19:=by kernel_rfl
  i0:=by kernel_rfl
  i2:=by kernel_rfl
  i3:=by kernel_rfl
  i4:=by kernel_rfl
  i5:=by kernel_rfl
  i9:=by kernel_rfl
  i20:=by kernel_rfl
  i37:=by kernel_rfl
  i46:=by kernel_rfl
  i51:=by kernel_rfl
  i53:=by kernel_rfl
  i171:=by kernel_rfl
  i173:=by kernel_rfl
  i212:=by kernel_rfl
  i232:=by kernel_rfl
  i233:=by kernel_rfl
  m17:=by kernel_rfl
  m18:=by kernel_rfl
  m19:=by kernel_rfl }
def Tryz.laysM316_ren : Go.Shelf.Ren := ⟨fun | 316 => 104 | n => n, fun | 9 => 9 | 3 => 3 | 4 => 4 | 37 => 157 | 0 => 0 | 127 => 160 | 5 => 5 | n => n, fun | n => n⟩
theorem Tryz.laysM316 : Go.Proofs.LaysM.n316 Tryz.prog Tryz.laysM316_ren := {
  mixed:=by kernel_rfl
  f316:=Tryz.func104.trans (congrArg some (by kernel_rfl))
  t0:=Tryz.underlying0
  a0:=Tryz.isAgg0
  z0:=Tryz.sizeOf0
  v0:=Tryz.zeroValue0
  t3:=Tryz.underlying3
  a3:=Tryz.isAgg3
  z3:=Tryz.sizeOf3
  v3:=Tryz.zeroValue3
  t4:=Tryz.underlying4
  a4:=Tryz.isAgg4
  z4:=Tryz.sizeOf4
  v4:=Tryz.zeroValue4
  t9:=Tryz.underlying9
  a9:=Tryz.isAgg9
  z9:=Tryz.sizeOf9
  v9:=Tryz.zeroValue9
  t37:=Tryz.underlying157
  a37:=Tryz.isAgg157
  z37:=Tryz.sizeOf157
  v37:=Tryz.zeroValue157
  t127:=Tryz.underlying160
  a127:=Tryz.isAgg160
  z127:=Tryz.sizeOf160
  v127:=Tryz.zeroValue160
  t5:=Tryz.underlying5
  a5:=Tryz.isAgg5
  z5:=Tryz.sizeOf5
  v5:=Tryz.zeroValue5
  i0:=by kernel_rfl
  i3:=by kernel_rfl
  i4:=by kernel_rfl
  i5:=by kernel_rfl
  i9:=by kernel_rfl
  i37:=by kernel_rfl
  i127:=by kernel_rfl }
def Tryz.laysC174_ren : Go.Shelf.Ren := ⟨fun | 174 => 77 | 247 => 101 | 245 => 102 | 287 => 124 | 279 => 125 | 280 => 126 | 281 => 127 | 282 => 128 | 321 => 149 | 322 => 150 | 316 => 104 | 171 => 152 | 205 => 151 | 243 => 160 | 246 => 103 | 283 => 129 | 284 => 130 | 285 => 131 | 286 => 132 | 129 => 154 | 317 => 153 | 318 => 155 | 319 => 156 | 320 => 157 | 337 => 161 | 338 => 162 | n => n, fun | 9 => 9 | 3 => 3 | 2 => 2 | 75 => 119 | 85 => 120 | 4 => 4 | 167 => 146 | 5 => 5 | 53 => 147 | 175 => 148 | 46 => 150 | 168 => 151 | 37 => 157 | 0 => 0 | 210 => 169 | 21 => 21 | 127 => 160 | 145 => 180 | 143 => 178 | 171 => 154 | 173 => 158 | 212 => 172 | 51 => 173 | 20 => 20 | 213 => 174 | 232 => 182 | 233 => 183 | 80 => 184 | n => n, fun | 15 => 0 | 16 => 1 | 17 => 2 | 18 => 4 | 19 => 5 | n => n⟩
theorem Tryz.laysC174 : Go.Proofs.LaysC.n174 Tryz.prog Tryz.laysC174_ren := {
  mixed:=by kernel_rfl
  f129:=Tryz.func154.trans (congrArg some (by kernel_rfl))
  f171:=Tryz.func152.trans (congrArg some (by kernel_rfl))
  f174:=Tryz.func77.trans (congrArg some (by kernel_rfl))
  f205:=Tryz.func151.trans (congrArg some (by kernel_rfl))
  f243:=Tryz.func160.trans (congrArg some (by kernel_rfl))
  f245:=Tryz.func102.trans (congrArg some (by kernel_rfl))
  f246:=Tryz.func103.trans (congrArg some (by kernel_rfl))
  f247:=Tryz.func101.trans (congrArg some (by kernel_rfl))
  f279:=Tryz.func125.trans (congrArg some (by kernel_rfl))
  f280:=Tryz.func126.trans (congrArg some (by kernel_rfl))
  f281:=Tryz.func127.trans (congrArg some (by kernel_rfl))
  f282:=Tryz.func128.trans (congrArg some (by kernel_rfl))
  f283:=Tryz.func129.trans (congrArg some (by kernel_rfl))
  f284:=Tryz.func130.trans (congrArg some (by kernel_rfl))
  f285:=Tryz.func131.trans (congrArg some (by kernel_rfl))
  f286:=Tryz.func132.trans (congrArg some (by kernel_rfl))
  f287:=Tryz.func124.trans (congrArg some (by kernel_rfl))
  f316:=Tryz.func104.trans (congrArg some (by kernel_rfl))
  f317:=Tryz.func153.trans (congrArg some (by kernel_rfl))
  f318:=Tryz.func155.trans (congrArg some (by kernel_rfl))
  f319:=Tryz.func156.trans (congrArg some (by kernel_rfl))
  f320:=Tryz.func157.trans (congrArg some (by kernel_rfl))
  f321:=Tryz.func149.trans (congrArg some (by kernel_rfl))
  f322:=Tryz.func150.trans (congrArg some (by kernel_rfl))
  f337:=Tryz.func161.trans (congrArg some (by kernel_rfl))
  f338:=Tryz.func162.trans (congrArg some (by kernel_rfl))
  t0:=Tryz.underlying0
  a0:=Tryz.isAgg0
  z0:=Tryz.sizeOf0
  v0:=Tryz.zeroValue0
  t2:=Tryz.underlying2
  a2:=Tryz.isAgg2
  z2:=Tryz.sizeOf2
  v2:=Tryz.zeroValue2
  t3:=Tryz.underlying3
  a3:=Tryz.isAgg3
  z3:=Tryz.sizeOf3
  v3:=Tryz.zeroValue3
  t4:=Tryz.underlying4
  a4:=Tryz.isAgg4
  z4:=Tryz.sizeOf4
  v4:=Tryz.zeroValue4
  t5:=Tryz.underlying5
  a5:=Tryz.isAgg5
  z5:=Tryz.sizeOf5
  v5:=Tryz.zeroValue5
  t9:=Tryz.underlying9
  a9:=Tryz.isAgg9
  z9:=Tryz.sizeOf9
  v9:=Tryz.zeroValue9
  t20:=Tryz.underlying20
  a20:=Tryz.isAgg20
  z20:=Tryz.sizeOf20
  v20:=Tryz.zeroValue20
  t21:=Tryz.underlying21
  a21:=Tryz.isAgg21
  z21:=Tryz.sizeOf21
  v21:=Tryz.zeroValue21
  t37:=Tryz.underlying157
  a37:=Tryz.isAgg157
  z37:=Tryz.sizeOf157
  v37:=Tryz.zeroValue157
  t46:=Tryz.underlying150
  a46:=Tryz.isAgg150
  z46:=Tryz.sizeOf150
  v46:=Tryz.zeroValue150
  t51:=Tryz.underlying173
  a51:=Tryz.isAgg173
  z51:=Tryz.sizeOf173
  v51:=Tryz.zeroValue173
  t53:=Tryz.underlying147
  a53:=Tryz.isAgg147
  z53:=Tryz.sizeOf147
  v53:=Tryz.zeroValue147
  t75:=Tryz.underlying119
  a75:=Tryz.isAgg119
  z75:=Tryz.sizeOf119
  v75:=Tryz.zeroValue119
  t85:=Tryz.underlying120
  a85:=Tryz.isAgg120
  z85:=Tryz.sizeOf120
  v85:=Tryz.zeroValue120
  t127:=Tryz.underlying160
  a127:=Tryz.isAgg160
  z127:=Tryz.sizeOf160
  v127:=Tryz.zeroValue160
  t143:=Tryz.underlying178
  a143:=Tryz.isAgg178
  z143:=Tryz.sizeOf178
  v143:=Tryz.zeroValue178
  t145:=Tryz.underlying180
  a145:=Tryz.isAgg180
  z145:=Tryz.sizeOf180
  v145:=Tryz.zeroValue180
  t167:=Tryz.underlying146
  a167:=Tryz.isAgg146
  z167:=Tryz.sizeOf146
  v167:=Tryz.zeroValue146
  t168:=Tryz.underlying151
  a168:=Tryz.isAgg151
  z168:=Tryz.sizeOf151
  v168:=Tryz.zeroValue151
  t171:=Tryz.underlying154
  a171:=Tryz.isAgg154
  z171:=Tryz.sizeOf154
  v171:=Tryz.zeroValue154
  t173:=Tryz.underlying158
  a173:=Tryz.isAgg158
  z173:=Tryz.sizeOf158
  v173:=Tryz.zeroValue158
  t175:=Tryz.underlying148
  a175:=Tryz.isAgg148
  z175:=Tryz.sizeOf148
  v175:=Tryz.zeroValue148
  t210:=Tryz.underlying169
  a210:=Tryz.isAgg169
  z210:=Tryz.sizeOf169
  v210:=Tryz.zeroValue169
  t212:=Tryz.underlying172
  a212:=Tryz.isAgg172
  z212:=Tryz.sizeOf172
  v212:=Tryz.zeroValue172
  t213:=Tryz.underlying174
  a213:=Tryz.isAgg174
  z213:=Tryz.sizeOf174
  t232:=Tryz.underlying182
  a232:=Tryz.isAgg182
  z232:=Tryz.sizeOf182
  v232:=Tryz.zeroValue182
  t233:=Tryz.underlying183
  a233:=Tryz.isAgg183
  z233:=Tryz.sizeOf183
  v233:=Tryz.zeroValue183
  g15:=by kernel_rfl
  g16:=by kernel_rfl
  g17:=by kernel_rfl
  g18:=by kernel_rfl
  g19:=by kernel_rfl
  t80:=Tryz.underlying184
  a80:=Tryz.isAgg184
  z80:=Tryz.sizeOf184
  v80:=Tryz.zeroValue184
  i0:=by kernel_rfl
  i2:=by kernel_rfl
  i3:=by kernel_rfl
  i4:=by kernel_rfl
  i5:=by kernel_rfl
  i9:=by kernel_rfl
  i20:=by kernel_rfl
  i21:=by kernel_rfl
  i37:=by kernel_rfl
  i46:=by kernel_rfl
  i51:=by kernel_rfl
  i53:=by kernel_rfl
  i75:=by kernel_rfl
  i80:=by kernel_rfl
  i85:=by kernel_rfl
  i127:=by kernel_rfl
  i143:=by kernel_rfl
  i145:=by kernel_rfl
  i167:=by kernel_rfl
  i168:=by kernel_rfl
  i171:=by kernel_rfl
  i173:=by kernel_rfl
  i175:=by kernel_rfl
  i210:=by kernel_rfl
  i212:=by kernel_rfl
  i232:=by kernel_rfl
  i233:=by kernel_rfl
  m15:=by kernel_rfl
  m16:=by kernel_rfl
  m17:=by kernel_rfl
  m18:=by kernel_rfl
  m19:=by kernel_rfl
  c0:=by kernel_rfl
  c2:=by kernel_rfl
  c3:=by kernel_rfl
  c4:=by kernel_rfl
  c5:=by kernel_rfl
  c9:=by kernel_rfl
  c20:=by kernel_rfl
  c21:=by kernel_rfl
  c37:=by kernel_rfl
  c46:=by kernel_rfl
  c51:=by kernel_rfl
  c53:=by kernel_rfl
  c75:=by kernel_rfl
  c80:=by kernel_rfl
  c85:=by kernel_rfl
  c127:=by kernel_rfl
  c143:=by kernel_rfl
  c145:=by kernel_rfl
  c167:=by kernel_rfl
  c168:=by kernel_rfl
  c171:=by kernel_rfl
  c173:=by kernel_rfl
  c175:=by kernel_rfl
  c210:=by kernel_rfl
  c212:=by kernel_rfl
  c213:=by kernel_rfl
  c232:=by kernel_rfl
  c233:=by kernel_rfl }
end Go.Proofs
namespace Go.Proofs.YtjodmledadbgeacGreatDoor
open Go.ChangeShapes Go.WideShapes Go.ChangeAt Go.RowKit Go.Shelf
set_option linter.unusedSimpArgs false
set_option linter.unusedVariables false
structure Laid (w : World) : Prop where
  pow : Lib.TabIs Tryz.prog w "internal/strconv.uint64pow10" .u64 Lib.pow10Tab
  syn : ∃ tp p, w.var? Tryz.prog "strconv.ErrSyntax" = some #[.iface tp p]
  rng : ∃ tp p, w.var? Tryz.prog "strconv.ErrRange" = some #[.iface tp p]
theorem var_below {w w' : World} {n : String} {cs : Array Value} (h : w.var? Tryz.prog n = some cs) (hb : Below w.heap.size w w') : w'.var? Tryz.prog n = some cs := by
  unfold World.var? at h ⊢
  cases e:Tryz.prog.globalNamed n with
  | none=>rw [e] at h;cases h
  | some g =>
    rw [e] at h
    simp only [Option.bind_some] at h ⊢
    have hlt:g < w.heap.size:=by
      rcases Nat.lt_or_ge g w.heap.size with h' | h'
      · exact h'
      · rw [Array.getElem?_eq_none h'] at h;cases h
    rw [hb.block g hlt]
    exact h
theorem Laid.below {w w' : World} (h : Laid w) (hb : Below w.heap.size w w') : Laid w' :=
  ⟨var_below h.pow hb,let ⟨a,b,c⟩:=h.syn;⟨a,b,var_below c hb⟩,let ⟨a,b,c⟩:=h.rng;⟨a,b,var_below c hb⟩⟩
theorem parse_ok (s : ByteArray) (v : Int) (w : World) (hs : s.size ≤ 1000000) (h : Lib.parseIntB 64 s.data.toList = .ok v) :
    Calls Tryz.prog 77 #[.string s,.int .i64 10,.int .i64 64] w fun e w'=>e=.returned (.tuple #[.int .i64 v,.nilIface])∧Below w.heap.size w w' :=
  (Any.strconv_ParseInt_10_at64_ok Tryz.laysC174 s (by omega) v h w).mono fun e w' h=>⟨h.1,by
    rcases h.2 with rfl | ⟨t,rfl⟩
    · exact Below.refl _ _
    · exact Lib.bytesWorld_below _ _ _⟩
theorem parse_bad (s : ByteArray) (w : World) (hw : Laid w) (hs : s.size ≤ 1000000) (h : ∀ v, Lib.parseIntB 64 s.data.toList ≠ .ok v) :
    Calls Tryz.prog 77 #[.string s,.int .i64 10,.int .i64 64] w fun e w'=>(∃ x N,e=.returned (.tuple #[.int .i64 x,.iface 151 (.pointer (some ⟨N,0,none⟩))]))∧Below w.heap.size w w':=by
  cases e:Lib.parseIntB 64 s.data.toList with
  | ok v=>exact absurd e (h v)
  | «syntax» =>
    obtain ⟨tp,p,hv⟩:=hw.syn
    exact (Any.strconv_ParseInt_10_at64_syntax_var Tryz.laysC174 s (by omega) e tp p w hv).mono fun e w' ⟨N,h1,_,_,h4⟩=>⟨⟨_,N,h1⟩,h4⟩
  | range =>
    obtain ⟨tp,p,hv⟩:=hw.rng
    exact (Any.strconv_ParseInt_10_at64_range_var Tryz.laysC174 s (by omega) e tp p w hv).mono fun e w' ⟨N,h1,_,_,h4⟩=>⟨⟨_,N,h1⟩,h4⟩
theorem format_any (n : Int) (h0 : -9223372036854775808 ≤ n ∧ n ≤ 9223372036854775807) (w : World) (hw : Laid w) :
    Calls Tryz.prog 78 #[.int .i64 n,.int .i64 10] w fun e w'=>e=.returned (.string (str (Lib.itoa n)))∧Below w.heap.size w w' :=
  (Any.strconv_FormatInt_10 Tryz.laysM173 n h0.1 h0.2 w hw.pow).mono fun e w' h=>⟨h.1,by
    obtain ⟨k,os,rfl⟩:=h.2
    exact Lib.below_grow _ w (Nat.le_refl _) k os⟩
theorem clone_any (s : ByteArray) (w : World) (hs : s.size ≤ 1000000) :
    Calls Tryz.prog 83 #[.string s] w fun e w'=>e=.returned (.string s)∧Below w.heap.size w w':=by
  have C:Hid (∀ w,Calls Tryz.prog 104 #[.string s] w fun e w'=>e=.returned (.string s)∧Below w.heap.size w w'):=fun w=>Any.stringslite_Clone Tryz.laysM316 s w (by omega)
  go_enter Tryz.func83,Tryz.ntmps83
  go_wp2_with (go_at_call 104;refine (C.out _).mono ?_;rintro e w' ⟨rfl,hb⟩)
  go_ret
  exact ⟨rfl,hb⟩
theorem prefix_any (s p : ByteArray) (w : World) :
    Calls Tryz.prog 68 #[.string s,.string p] w fun e w'=>e=.returned (.bool (Lib.hasPrefix s.data.toList p.data.toList))∧w'=w:=by
  rw [← Lib.hasPrefix_of_take,← Lib.size_eq,← Lib.size_eq]
  go_enter Tryz.func68,Tryz.ntmps68
  go_wp2
  · rename_i h
    go_ret
    refine ⟨?_,rfl⟩
    show Ending.returned (Value.bool ((s.extract 0 p.size).toList == p.toList))=_
    rw [Lib.extract_toList,Lib.toList_data]
    simp [h]
  · rename_i h
    go_ret
    refine ⟨?_,rfl⟩
    show Ending.returned (Value.bool false)=_
    simp [h]
theorem parse_range {l : List UInt8} {v : Int} (h : Lib.parseIntB 64 l = .ok v) : -9223372036854775808 ≤ v ∧ v ≤ 9223372036854775807 := by
  rw [Lib.parseIntB_64] at h
  exact Lib.atoiAll_bounds h
end Go.Proofs.YtjodmledadbgeacGreatDoor
namespace Go.Proofs.YtjodmledadbgeacGreatDoor
set_option linter.unusedSimpArgs false
set_option linter.unusedVariables false
def numTxt : List UInt8 → Bool
  | []=>false
  | c::l=>digB c || (decide (c.toNat=45) && l.head?.any digB)
structure Tk.fine (x : Tk) : Prop where
  rng:-9223372036854775808≤x.n∧x.n≤9223372036854775807
  txt:x.num=true→numTxt x.text=true
theorem numOf_rng {l : List UInt8} {v : Int} (h : numOf l = some v) : -9223372036854775808 ≤ v ∧ v ≤ 9223372036854775807 := by
  unfold numOf at h
  split at h
  · rename_i u hu
    split at h
    · injection h with h;subst h;exact parse_range hu
    · cases h
  · cases h
  · cases h
theorem tokLen_num {l : List UInt8} (h : (tokLen l).2 = true) : numTxt (l.take (tokLen l).1) = true := by
  cases l with
  | nil=>simp [tokLen] at h
  | cons c l =>
    simp only [tokLen] at h ⊢
    by_cases h1:letB c=true
    · simp [h1] at h
    by_cases h2:sigB c=true
    · simp [h1,h2] at h
    by_cases h3:c.toNat=45∧l.head?.any (fun d=>d.toNat == 62)=true
    · simp [h1,h2,h3] at h
    by_cases h4:digB c=true ∨ (c.toNat=45∧l.head?.any digB=true)
    · rw [if_neg h1,if_neg h2,if_neg h3,if_pos h4]
      rw [List.take_succ_cons]
      simp only [numTxt]
      rcases h4 with h4 | ⟨h4,h5⟩
      · simp [h4]
      · cases l with
        | nil=>simp at h5
        | cons d l =>
          simp at h5
          simp [h4,pre_yes h5,h5]
    · simp [h1,h2,h3,h4] at h
theorem tok_fine {l : List UInt8} {k pos : Nat} {b : Bool} {n : Int} (h : tok l = .ok k b n) : (⟨pos, l.take k, b, n⟩ : Tk).fine := by
  have h3:=(tok_pos h).2.2
  unfold tok at h
  split at h
  · cases h
  · split at h
    · rename_i hb
      split at h
      · rename_i v hv
        injection h with h1 h2 h4
        subst h4
        exact ⟨numOf_rng hv,fun _=>by rw [h3];exact tokLen_num hb⟩
      · cases h
    · injection h with h1 h2 h4
      subst h4;subst h2
      exact ⟨⟨by show (-9223372036854775808:Int)≤0;decide,by show (0:Int)≤9223372036854775807;decide⟩,fun h=>by cases h⟩
theorem Sc.app_ok {r : Sc} {a l : List Tk} (h : r.app a = .ok l) : ∃ l', r = .ok l' ∧ l = a ++ l' := by
  cases r with
  | fault c p=>cases h
  | ok l'=>injection h with h;exact ⟨l',rfl,h.symm⟩
theorem scanF_fine : ∀ (f pos : Nat) (s : List UInt8) (l : List Tk), scanF f pos s = .ok l → (∀ x ∈ l, x.fine) ∧ l.length ≤ s.length
  | 0,pos,s,l,h=>by injection h with h;subst h;simp
  | f+1,pos,s,l,h=>by
    unfold scanF at h
    split at h
    · injection h with h;subst h;simp
    · split at h
      · cases h
      · rename_i k b n e
        obtain ⟨l',h1,rfl⟩:=Sc.app_ok h
        obtain ⟨g1,g2⟩:=scanF_fine f _ _ _ h1
        have hk:=tok_pos e
        refine ⟨fun x hx=>?_,by simp only [List.length_drop,List.length_append,List.length_singleton] at g2 ⊢;omega⟩
        rcases List.mem_append.1 hx with hx | hx
        · simp at hx;subst hx;exact tok_fine e
        · exact g1 x hx
theorem scanL_fine {s : List UInt8} {l : List Tk} (h : scanL s = .ok l) : (∀ x ∈ l, x.fine) ∧ l.length ≤ 40000 := by
  unfold scanL at h
  split at h
  · cases h
  · obtain ⟨h1,h2⟩:=scanF_fine _ _ _ _ h
    exact ⟨h1,by simp only [List.length_drop] at h2;omega⟩
def nextT (l : List Tk) (p : Nat) : List UInt8 := (l[p]?.map Tk.text).getD []
theorem nextT_some {l : List Tk} {p : Nat} {x : Tk} (h : l[p]? = some x) : nextT l p = x.text := by simp [nextT, h]
theorem nextT_none {l : List Tk} {p : Nat} (h : ¬ p < l.length) : nextT l p = [] := by
  have:l[p]?=none:=List.getElem?_eq_none (by omega)
  simp [nextT,this]
def wordly (s : List UInt8) : Bool := !s.isEmpty && !numTxt s
theorem isW_next {l : List Tk} {s : List UInt8} {p : Nat} (hs : wordly s = true) (hl : ∀ x ∈ l, x.fine) : isW l s p = decide (nextT l p = s) := by
  simp [wordly] at hs
  by_cases hp:p < l.length
  · have hx:l[p]?=some l[p]:=List.getElem?_eq_getElem hp
    have hf:=hl l[p] (List.getElem_mem hp)
    generalize l[p]=x at hx hf
    rw [nextT_some hx]
    simp only [isW,hx]
    cases hn:x.num with
    | false=>simp
    | true =>
      have:=hf.txt hn
      have hne:¬ x.text=s:=fun e=>by rw [e,hs.2] at this;cases this
      simp [hne]
  · rw [nextT_none hp]
    have:l[p]?=none:=List.getElem?_eq_none (by omega)
    simp only [isW,this]
    have:¬ ([]:List UInt8)=s:=fun e=>hs.1 (by rw [← e])
    simp [this]
theorem which_hit {l : List Tk} {ws : List (List UInt8)} {p i : Nat} {s : List UInt8} (hi : ws[i]? = some s) (h : isW l s p = true) (hb : ∀ (j : Nat) (t : List UInt8), j < i → ws[j]? = some t → isW l t p = false) : whichP l ws p = i + 1 := by
  have hlt:i < ws.length:=(List.getElem?_eq_some_iff.1 hi).1
  have hgi:ws[i]=s:=(List.getElem?_eq_some_iff.1 hi).2
  unfold whichP
  rw [if_pos (List.any_eq_true.2 ⟨s,List.mem_of_getElem? hi,h⟩)]
  congr 1
  rw [List.findIdx_eq hlt]
  refine ⟨by rw [hgi];exact h,fun j hj=>hb j _ hj (List.getElem?_eq_getElem (by omega))⟩
theorem which_no {l : List Tk} {ws : List (List UInt8)} {p : Nat} (hb : ∀ (j : Nat) (t : List UInt8), ws[j]? = some t → isW l t p = false) : whichP l ws p = 0 := by
  unfold whichP
  rw [if_neg]
  intro h
  obtain ⟨s,hs,hw⟩:=List.any_eq_true.1 h
  obtain ⟨i,hi⟩:=List.getElem?_of_mem hs
  rw [hb i s hi] at hw
  cases hw
section
variable {α : Type} {l : List Tk} {e : Nat} {item : Nat → PR α} {fin beg : List UInt8}
def itP (l : List Tk) (e : Nat) (item : Nat → PR α) (fin : List UInt8) (f n p : Nat) : PR (List α) :=
  PR.andThen (item p) fun x p2=>PR.andThen (lstP l e item fin f (n+1) p2) fun xs p3=>.ok (x::xs,p3)
def PR.behind (xs : List α) : PR (List α) → PR (List α)
  | .ok (ys,q)=>.ok (xs++ys,q)
  | .error x=>.error x
structure LstQ (l : List Tk) (e : Nat) (item : Nat → PR α) (fin : List UInt8) (p1 p : Nat) (xs : List α) : Prop where
  le:xs.length≤100
  rest:lstP l e item fin 102 0 p1=(itP l e item fin (101 - xs.length) xs.length p).behind xs
theorem LstQ.start {p1 : Nat} (h : isW l fin p1 = false) : LstQ l e item fin p1 p1 [] := by
  refine ⟨by simp,?_⟩
  rw [lstP,if_neg (by decide),if_neg (by simp [h]),if_neg (by decide),PR.ok_andThen]
  show itP l e item fin 101 0 p1=_
  simp only [List.length_nil,Nat.sub_zero]
  cases itP l e item fin 101 0 p1 with
  | error x=>rfl
  | ok y=>obtain ⟨ys,q⟩:=y;rfl
variable {p1 p p2 : Nat} {xs : List α} {v : α}
theorem LstQ.bad {x : Nat × Nat} (h : LstQ l e item fin p1 p xs) (h1 : item p = .error x) : lstP l e item fin 102 0 p1 = .error x := by
  rw [h.rest,itP,h1];rfl
theorem LstQ.many (h : LstQ l e item fin p1 p xs) (h1 : item p = .ok (v, p2)) (hn : ¬ xs.length + 1 ≤ 100) : ∃ x, lstP l e item fin 102 0 p1 = .error x := by
  have hl:=h.le
  obtain ⟨f,hf⟩:∃ f,101 - xs.length=f+1:=⟨100 - xs.length,by omega⟩
  rw [h.rest,itP,h1,PR.ok_andThen,hf,lstP,if_pos (by omega)]
  exact ⟨_,rfl⟩
theorem LstQ.stop (h : LstQ l e item fin p1 p xs) (h1 : item p = .ok (v, p2)) (hn : xs.length + 1 ≤ 100) (hw : isW l fin p2 = true) : lstP l e item fin 102 0 p1 = .ok (xs ++ [v], p2) := by
  obtain ⟨f,hf⟩:∃ f,101 - xs.length=f+1:=⟨100 - xs.length,by omega⟩
  rw [h.rest,itP,h1,PR.ok_andThen,hf,lstP,if_neg (by omega),if_pos hw]
  rfl
theorem LstQ.comma {x : Nat × Nat} (h : LstQ l e item fin p1 p xs) (h1 : item p = .ok (v, p2)) (hn : xs.length + 1 ≤ 100) (hw : isW l fin p2 = false) (hm : mustP l e [44] p2 = .error x) : lstP l e item fin 102 0 p1 = .error x := by
  obtain ⟨f,hf⟩:∃ f,101 - xs.length=f+1:=⟨100 - xs.length,by omega⟩
  rw [h.rest,itP,h1,PR.ok_andThen,hf,lstP,if_neg (by omega),if_neg (by simp [hw]),if_pos (by omega),hm]
  rfl
theorem LstQ.go {p3 : Nat} (h : LstQ l e item fin p1 p xs) (h1 : item p = .ok (v, p2)) (hn : xs.length + 1 ≤ 100) (hw : isW l fin p2 = false) (hm : mustP l e [44] p2 = .ok ((), p3)) : LstQ l e item fin p1 p3 (xs ++ [v]) := by
  refine ⟨by simpa using hn,?_⟩
  have hf:101 - xs.length=(101 - (xs.length+1))+1:=by omega
  rw [h.rest,itP,h1,PR.ok_andThen,hf,lstP,if_neg (by omega),if_neg (by simp [hw]),if_pos (by omega),hm,PR.ok_andThen,List.length_append,List.length_singleton]
  show PR.behind xs (PR.andThen (itP l e item fin (101 - (xs.length+1)) (xs.length+1) p3) _)=_
  cases itP l e item fin (101 - (xs.length+1)) (xs.length+1) p3 with
  | error x=>rfl
  | ok y=>obtain ⟨ys,q⟩:=y;simp [PR.behind,PR.andThen]
theorem in_none (h1 : mustP l e beg p = .ok ((), p1)) (hw : isW l fin p1 = true) : inP l e item beg fin p = .ok ([], p1 + 1) := by
  rw [inP,h1,PR.ok_andThen,lstP,if_neg (by decide),if_pos hw,PR.ok_andThen,mustP,if_pos hw]
  rfl
theorem in_some (h1 : mustP l e beg p = .ok ((), p1)) (h2 : lstP l e item fin 102 0 p1 = .ok (xs, p2)) (hw : isW l fin p2 = true) : inP l e item beg fin p = .ok (xs, p2 + 1) := by
  rw [inP,h1,PR.ok_andThen,h2,PR.ok_andThen,mustP,if_pos hw]
  rfl
theorem in_bad {x : Nat × Nat} (h1 : mustP l e beg p = .ok ((), p1)) (h2 : lstP l e item fin 102 0 p1 = .error x) : inP l e item beg fin p = .error x := by
  rw [inP,h1,PR.ok_andThen,h2]
  rfl
theorem in_bad0 {x : Nat × Nat} (h1 : mustP l e beg p = .error x) : inP l e item beg fin p = .error x := by
  rw [inP,h1]
  rfl
end
end Go.Proofs.YtjodmledadbgeacGreatDoor
namespace Go.Proofs.YtjodmledadbgeacGreatDoor
open Go.ChangeShapes Go.WideShapes Go.ChangeAt Go.RowKit
set_option linter.unusedVariables false
theorem undrewN_below {B m : Nat} {w w' : World} (h : Below B (w.drewN m) w') : Below B w w' := ⟨h.os, h.tape, h.output, h.size, h.block⟩
theorem drewN_below {B m : Nat} {w w' : World} (h : Below B w w') : Below B w (w'.drewN m) := ⟨h.os, h.tape, h.output, h.size, h.block⟩
theorem box_cells {w wr : World} {B : Nat} {c : Array Value} {ty : TypeId} (h : wr.heap[B]? = some (.cells c ty (0, 0))) (b : Below wr.heap.size wr w) : w.heap[B]? = some (.cells c ty (0, 0)) :=
  (b.block B (lt_of_block h)).trans h
abbrev Blk (w : World) (B : Nat) (c : Array Value) (t : TypeId) : Prop := w.heap[B]? = some (.cells c t (0, 0))
theorem Blk.below {w w' : World} {B : Nat} {c : Array Value} {t : TypeId} (h : Blk w B c t) (b : Below w.heap.size w w') : Blk w' B c t := box_cells h b
theorem Blk.alloc {w : World} {B : Nat} {c : Array Value} {t : TypeId} (h : Blk w B c t) (o : Obj) : Blk (w.alloc o) B c t := box_cells h ((Below.refl _ w).alloc (Nat.le_refl _) _)
theorem Blk.new (w : World) (c : Array Value) (t : TypeId) : Blk (w.alloc (.cells c t)) w.heap.size c t := blockNew w c t
theorem Blk.drewN {w : World} {B : Nat} {c : Array Value} {t : TypeId} (h : Blk w B c t) (m : Nat) : Blk (w.drewN m) B c t := h
theorem Blk.lt {w : World} {B : Nat} {c : Array Value} {t : TypeId} (h : Blk w B c t) : B < w.heap.size := lt_of_block h
theorem Blk.setOther {w : World} {B : Nat} {c : Array Value} {t : TypeId} (h : Blk w B c t) {p : Addr} (hp : p.block ≠ B) (v : Value) : Blk (w.setCell p v) B c t := (Below.heap_setCell _ _ _ _ (fun e => hp e.symm)).trans h
theorem bel1 (w : World) (o : Obj) : Below w.heap.size w (w.alloc o) := (Below.refl _ w).alloc (Nat.le_refl _) _
theorem bel2 (w : World) (o p : Obj) : Below w.heap.size w ((w.alloc o).alloc p) := (bel1 w o).alloc (by simp) _
theorem Below.andThen {w w1 w2 : World} (h : Below w.heap.size w w1) (b : Below w1.heap.size w1 w2) : Below w.heap.size w w2 := h.trans (b.mono h.size)
theorem Blk.new1 (w : World) (c d : Array Value) (t u : TypeId) : Blk ((w.alloc (.cells c t)).alloc (.cells d u)) w.heap.size c t := (Blk.new w c t).alloc _
theorem Blk.new2 (w : World) (o : Obj) (d : Array Value) (u : TypeId) : Blk ((w.alloc o).alloc (.cells d u)) (w.heap.size + 1) d u := by
  have:=Blk.new (w.alloc o) d u
  simpa using this
end Go.Proofs.YtjodmledadbgeacGreatDoor
namespace Go.Proofs.YtjodmledadbgeacGreatDoor
open Go.ChangeShapes Go.WideShapes Go.ChangeAt Go.RowKit Go.Shelf
set_option linter.unusedSimpArgs false
set_option linter.unusedVariables false
abbrev Z4 : Array Value := #[.int .i64 0, .string ⟨#[]⟩, .bool false, .int .i64 0]
theorem stored4 {w w2 : World} {B : Nat} {p q r u : Value} {t : TypeId} (h : Blk w2 B #[p, q, r, u] t) (hb : Below w.heap.size w w2) (hB : w.heap.size ≤ B) (a b c d : Value) :
    Blk ((((w2.setCell ⟨B,0,none⟩ a).setCell ⟨B,1,none⟩ b).setCell ⟨B,2,none⟩ c).setCell ⟨B,3,none⟩ d) B #[a,b,c,d] t ∧
    Below w.heap.size w ((((w2.setCell ⟨B,0,none⟩ a).setCell ⟨B,1,none⟩ b).setCell ⟨B,2,none⟩ c).setCell ⟨B,3,none⟩ d):=by
  refine ⟨?_,(((hb.setCell hB _).setCell hB _).setCell hB _).setCell hB _⟩
  have h1:=blockSet h 0 a
  have h2:=blockSet h1 1 b
  have h3:=blockSet h2 2 c
  have h4:=blockSet h3 3 d
  simpa using h4
theorem tokenTo_any (s : ByteArray) (i j : Nat) (w : World) (hij : i ≤ j) (hj : j ≤ s.size) (hs : s.size ≤ 1000000) :
    Calls Tryz.prog 64 #[.string s,.int .i64 i,.int .i64 j] w fun e w'=>e=.returned (.agg #[.int .i64 i,.string (str ((s.data.toList.drop i).take (j - i))),.bool false,.int .i64 0])∧Below w.heap.size w w':=by
  have hij':(i:Int)≤j:=by omega
  have hj':(j:Int)≤s.size:=by omega
  go_enter Tryz.func64,Tryz.ntmps64
  go_wp2_with fail
  have X:Hid (Blk (w.alloc (.cells Z4 78)) w.heap.size Z4 78):=Blk.new w _ _
  have B1:Hid (Below w.heap.size w (w.alloc (.cells Z4 78))):=bel1 w _
  have C:Hid (∀ w,Calls Tryz.prog 83 #[.string (s.extract i j)] w fun e w'=>e=.returned (.string (s.extract i j))∧Below w.heap.size w w'):=fun w=>clone_any _ w (by rw [ByteArray.size_extract];omega)
  refine (C.out _).mono ?_
  rintro e w2 ⟨rfl,hb⟩
  have X2:Hid (Blk w2 w.heap.size Z4 78):=X.out.below hb
  have B2:Hid (Below w.heap.size w w2):=Below.andThen B1.out hb
  clear C hb X B1
  have z0:=freeOf X2.out 0
  have z1:=freeOf X2.out 1
  have z2:=freeOf X2.out 2
  have z3:=freeOf X2.out 3
  have y0:=cellOf X2.out 0 _ rfl
  have y1:=cellOf X2.out 1 _ rfl
  have y2:=cellOf X2.out 2 _ rfl
  have y3:=cellOf X2.out 3 _ rfl
  go_wp2
  have D:=stored4 X2.out B2.out (Nat.le_refl _) (.int .i64 i) (.string (s.extract i j)) (.bool false) (.int .i64 0)
  have x0:=cellOf D.1 0 _ rfl
  have x1:=cellOf D.1 1 _ rfl
  have x2:=cellOf D.1 2 _ rfl
  have x3:=cellOf D.1 3 _ rfl
  have DD:Hid _:=D.2
  clear D X2 B2 z0 z1 z2 z3 y0 y1 y2 y3
  generalize (((w2.setCell ⟨w.heap.size,0,none⟩ (.int .i64 i)).setCell ⟨w.heap.size,1,none⟩ (.string (s.extract i j))).setCell ⟨w.heap.size,2,none⟩ (.bool false)).setCell ⟨w.heap.size,3,none⟩ (.int .i64 0)=w9 at DD x0 x1 x2 x3 ⊢
  exact bodyPost_ret (v:=.agg #[.int .i64 i,.string (s.extract i j),.bool false,.int .i64 0]) (by simp [results,Tryz.results64,go_sem,x0,x1,x2,x3]) rfl ⟨by rw [ext_str],DD.out⟩
theorem str_beq (a b : List UInt8) : ((str a).toList == (str b).toList) = decide (a = b) := by
  rw [Lib.toList_data,Lib.toList_data,str_list,str_list,Bool.eq_iff_iff]
  simp
def numVal (i : Nat) (l : List UInt8) : Value :=
  match numOf l with
  | some v=>.tuple #[.agg #[.int .i64 i,.string (str l),.bool true,.int .i64 v],.int .i64 0]
  | none=>.tuple #[.agg #[.int .i64 0,.string (str []),.bool false,.int .i64 0],.int .i64 8]
theorem numVal_bad {i : Nat} {l : List UInt8} (h : ∀ v, Lib.parseIntB 64 l ≠ .ok v) : numVal i l = .tuple #[.agg #[.int .i64 0, .string (str []), .bool false, .int .i64 0], .int .i64 8] := by
  have:numOf l=none:=by
    unfold numOf
    split
    · exact absurd (by assumption) (h _)
    · rfl
    · rfl
  simp [numVal,this]
theorem numVal_ok {i : Nat} {l : List UInt8} {v : Int} (h : Lib.parseIntB 64 l = .ok v) : numVal i l = if Lib.itoa v = l then .tuple #[.agg #[.int .i64 i, .string (str l), .bool true, .int .i64 v], .int .i64 0] else .tuple #[.agg #[.int .i64 0, .string (str []), .bool false, .int .i64 0], .int .i64 8] := by
  unfold numVal numOf
  rw [h]
  simp only
  split
  · rename_i e
    split at e
    · injection e with e;subst e;rw [if_pos (by assumption)]
    · cases e
  · rename_i e
    split at e
    · cases e
    · rw [if_neg (by assumption)]
structure NB (w w' : World) (B i : Nat) (l : List UInt8) : Prop where
  bel:Below w.heap.size w w'
  res:Blk w' w.heap.size Z4 78
  box:Blk w' B #[.int .i64 i,.string (str l),.bool false,.int .i64 0] 78
  lt:w.heap.size < B
  laid:Laid w'
theorem NB.below {w w1 w2 : World} {B i : Nat} {l : List UInt8} (h : NB w w1 B i l) (b : Below w1.heap.size w1 w2) : NB w w2 B i l :=
  ⟨Below.andThen h.bel b,h.res.below b,h.box.below b,h.lt,h.laid.below b⟩
theorem numberTo_any (s : ByteArray) (i j : Nat) (w : World) (hw0 : Laid w) (hij : i ≤ j) (hj : j ≤ s.size) (hs : s.size ≤ 1000000) :
    Calls Tryz.prog 66 #[.string s,.int .i64 i,.int .i64 j] w fun e w'=>e=.returned (numVal i ((s.data.toList.drop i).take (j - i)))∧Below w.heap.size w w':=by
  have hl:Hid (((s.data.toList.drop i).take (j - i)).length≤1000000):=by show _≤_;rw [List.length_take,List.length_drop,list_len];omega
  have C1:Hid (∀ w,Calls Tryz.prog 64 #[.string s,.int .i64 i,.int .i64 j] w fun e w'=>e=.returned (.agg #[.int .i64 i,.string (str ((s.data.toList.drop i).take (j - i))),.bool false,.int .i64 0])∧Below w.heap.size w w'):=fun w=>tokenTo_any s i j w hij hj hs
  have hw:Hid (Laid w):=hw0
  generalize (s.data.toList.drop i).take (j - i)=l at hl C1 ⊢
  clear hij hj hs hw0
  go_enter Tryz.func66,Tryz.ntmps66
  go_wp2_with fail
  have X:Hid (Blk (w.alloc (.cells Z4 78)) w.heap.size Z4 78):=Blk.new w _ _
  have B1:Hid (Below w.heap.size w (w.alloc (.cells Z4 78))):=bel1 w _
  refine (C1.out _).mono ?_
  rintro e w2 ⟨rfl,hb⟩
  have X2:Hid (Blk w2 w.heap.size Z4 78):=X.out.below hb
  have B2:Hid (Below w.heap.size w w2):=Below.andThen B1.out hb
  have hz:w.heap.size < w2.heap.size:=X2.out.lt
  clear C1 hb X B1
  go_wp2_with fail
  have N3:Hid (NB w (w2.alloc (.cells #[.int .i64 i,.string (str l),.bool false,.int .i64 0] 78)) w2.heap.size i l) :=
    ⟨B2.out.alloc B2.out.size _,X2.out.alloc _,Blk.new _ _ _,hz,hw.out.below (B2.out.alloc B2.out.size _)⟩
  generalize w2.alloc (.cells #[.int .i64 i,.string (str l),.bool false,.int .i64 0] 78)=w3 at N3 ⊢
  generalize w2.heap.size=B at N3 hz ⊢
  clear X2 B2 hw
  have hs':Hid ((str l).size≤1000000):=by show _≤_;rw [str_size];exact hl.out
  by_cases hp:∃ v,Lib.parseIntB 64 l=.ok v
  · obtain ⟨v,hv⟩:=hp
    have hr:=parse_range hv
    have V:Hid (numVal i l=_):=numVal_ok (i:=i) hv
    refine (parse_ok (str l) v w3 hs'.out hv).mono ?_
    rintro e w4 ⟨rfl,b4⟩
    have N4:Hid (NB w w4 B i l):=N3.out.below b4
    have C:Hid (∀ m,Calls Tryz.prog 78 #[.int .i64 v,.int .i64 10] (w4.drewN m) fun e w'=>e=.returned (.string (str (Lib.itoa v)))∧NB w w' B i l):=fun m =>
      (format_any v hr (w4.drewN m) (N4.out.laid.below (drewN_below (Below.refl _ _)))).mono fun e w' h=>⟨h.1,N4.out.below (undrewN_below h.2)⟩
    clear hv hs' hl N3 b4
    have e1:=cellOf N4.out.box 1 _ rfl
    by_cases he:Lib.itoa v=l
    · have hq:((str (Lib.itoa v)).toList == (str l).toList)=true:=by rw [str_beq];simpa using he
      have V2:Hid (numVal i l=.tuple #[.agg #[.int .i64 i,.string (str l),.bool true,.int .i64 v],.int .i64 0]):=by
        have:=V.out;rw [if_pos he] at this;exact this
      clear V he
      go_wp2_with fail
      go_region_with (go_at_call 78;refine (C.out _).mono ?_;rintro e w5 ⟨rfl,n5⟩;have N5:Hid (NB w w5 B i l):=n5;clear n5;have f1:=cellOf N5.out.box 1 _ rfl)
      all_goals
        have hn5:w.heap.size≠B:=by omega
        have f0:=cellOf N5.out.box 0 _ rfl
        have f2:=cellOf N5.out.box 2 _ rfl
        have f3:=cellOf N5.out.box 3 _ rfl
        have z2:=freeOf N5.out.box 2
        have z3:=freeOf N5.out.box 3
        have r0:=cellOf N5.out.res 0 _ rfl
        have r1:=cellOf N5.out.res 1 _ rfl
        have r2:=cellOf N5.out.res 2 _ rfl
        have r3:=cellOf N5.out.res 3 _ rfl
        have q0:=freeOf N5.out.res 0
        have q1:=freeOf N5.out.res 1
        have q2:=freeOf N5.out.res 2
        have q3:=freeOf N5.out.res 3
        clear N4 C e1
        go_wp2
        have h1:Blk ((w5.setCell ⟨B,2,none⟩ (.bool true)).setCell ⟨B,3,none⟩ (.int .i64 v)) w.heap.size Z4 78:=(N5.out.res.setOther (fun e=>hn5 e.symm) _).setOther (fun e=>hn5 e.symm) _
        have h2:Below w.heap.size w ((w5.setCell ⟨B,2,none⟩ (.bool true)).setCell ⟨B,3,none⟩ (.int .i64 v)):=(N5.out.bel.setCell (p:=⟨B,2,none⟩) (Nat.le_of_lt hz) _).setCell (p:=⟨B,3,none⟩) (Nat.le_of_lt hz) _
        have D:=stored4 h1 h2 (Nat.le_refl _) (.int .i64 i) (.string (str l)) (.bool true) (.int .i64 v)
        have x0:=cellOf D.1 0 _ rfl
        have x1:=cellOf D.1 1 _ rfl
        have x2:=cellOf D.1 2 _ rfl
        have x3:=cellOf D.1 3 _ rfl
        have DD:Hid _:=D.2
        clear D h1 h2 N5 f0 f1 f2 f3 z2 z3 r0 r1 r2 r3 q0 q1 q2 q3
        generalize (((((w5.setCell ⟨B,2,none⟩ (.bool true)).setCell ⟨B,3,none⟩ (.int .i64 v)).setCell ⟨w.heap.size,0,none⟩ (.int .i64 i)).setCell ⟨w.heap.size,1,none⟩ (.string (str l))).setCell ⟨w.heap.size,2,none⟩ (.bool true)).setCell ⟨w.heap.size,3,none⟩ (.int .i64 v)=w9 at DD x0 x1 x2 x3 ⊢
        exact bodyPost_ret (v:=.tuple #[.agg #[.int .i64 i,.string (str l),.bool true,.int .i64 v],.int .i64 0]) (by simp [results,Tryz.results66,go_sem,x0,x1,x2,x3]) rfl ⟨by rw [V2.out],DD.out⟩
    · have hq:((str (Lib.itoa v)).toList == (str l).toList)=false:=by rw [str_beq];simpa using he
      have V2:Hid (numVal i l=.tuple #[.agg #[.int .i64 0,.string (str []),.bool false,.int .i64 0],.int .i64 8]):=by
        have:=V.out;rw [if_neg he] at this;exact this
      clear V he
      go_wp2_with fail
      go_region_with (go_at_call 78;refine (C.out _).mono ?_;rintro e w5 ⟨rfl,n5⟩;have N5:Hid (NB w w5 B i l):=n5;clear n5;have f1:=cellOf N5.out.box 1 _ rfl)
      all_goals
        have r0:=cellOf N5.out.res 0 _ rfl
        have r1:=cellOf N5.out.res 1 _ rfl
        have r2:=cellOf N5.out.res 2 _ rfl
        have r3:=cellOf N5.out.res 3 _ rfl
        have q0:=freeOf N5.out.res 0
        have q1:=freeOf N5.out.res 1
        have q2:=freeOf N5.out.res 2
        have q3:=freeOf N5.out.res 3
        clear N4 C e1 f1
        go_wp2
        have D:=stored4 N5.out.res N5.out.bel (Nat.le_refl _) (.int .i64 0) (.string ⟨#[]⟩) (.bool false) (.int .i64 0)
        have x0:=cellOf D.1 0 _ rfl
        have x1:=cellOf D.1 1 _ rfl
        have x2:=cellOf D.1 2 _ rfl
        have x3:=cellOf D.1 3 _ rfl
        have DD:Hid _:=D.2
        clear D N5 r0 r1 r2 r3 q0 q1 q2 q3
        generalize (((w5.setCell ⟨w.heap.size,0,none⟩ (.int .i64 0)).setCell ⟨w.heap.size,1,none⟩ (.string ⟨#[]⟩)).setCell ⟨w.heap.size,2,none⟩ (.bool false)).setCell ⟨w.heap.size,3,none⟩ (.int .i64 0)=w9 at DD x0 x1 x2 x3 ⊢
        exact bodyPost_ret (v:=.tuple #[.agg #[.int .i64 0,.string ⟨#[]⟩,.bool false,.int .i64 0],.int .i64 8]) (by simp [results,Tryz.results66,go_sem,x0,x1,x2,x3]) rfl ⟨by rw [V2.out];rfl,DD.out⟩
  · have V2:Hid (numVal i l=.tuple #[.agg #[.int .i64 0,.string (str []),.bool false,.int .i64 0],.int .i64 8]):=numVal_bad (fun v h=>hp ⟨v,h⟩)
    refine (parse_bad (str l) w3 N3.out.laid hs'.out (fun v h=>hp ⟨v,h⟩)).mono ?_
    rintro e w4 ⟨⟨x,N,rfl⟩,b4⟩
    have N4:Hid (NB w w4 B i l):=N3.out.below b4
    clear hp hs' hl N3 b4
    go_wp2_with fail
    go_region
    all_goals
      have N5:Hid (NB w w4.drew B i l):=N4.out.below ⟨rfl,rfl,rfl,Nat.le_refl _,fun _ _=>rfl⟩
      generalize w4.drew=w5 at N5 ⊢
      have r0:=cellOf N5.out.res 0 _ rfl
      have r1:=cellOf N5.out.res 1 _ rfl
      have r2:=cellOf N5.out.res 2 _ rfl
      have r3:=cellOf N5.out.res 3 _ rfl
      have q0:=freeOf N5.out.res 0
      have q1:=freeOf N5.out.res 1
      have q2:=freeOf N5.out.res 2
      have q3:=freeOf N5.out.res 3
      clear N4
      go_wp2
      have D:=stored4 N5.out.res N5.out.bel (Nat.le_refl _) (.int .i64 0) (.string ⟨#[]⟩) (.bool false) (.int .i64 0)
      have x0:=cellOf D.1 0 _ rfl
      have x1:=cellOf D.1 1 _ rfl
      have x2:=cellOf D.1 2 _ rfl
      have x3:=cellOf D.1 3 _ rfl
      have DD:Hid _:=D.2
      clear D N5 r0 r1 r2 r3 q0 q1 q2 q3
      generalize (((w5.setCell ⟨w.heap.size,0,none⟩ (.int .i64 0)).setCell ⟨w.heap.size,1,none⟩ (.string ⟨#[]⟩)).setCell ⟨w.heap.size,2,none⟩ (.bool false)).setCell ⟨w.heap.size,3,none⟩ (.int .i64 0)=w9 at DD x0 x1 x2 x3 ⊢
      exact bodyPost_ret (v:=.tuple #[.agg #[.int .i64 0,.string ⟨#[]⟩,.bool false,.int .i64 0],.int .i64 8]) (by simp [results,Tryz.results66,go_sem,x0,x1,x2,x3]) rfl ⟨by rw [V2.out];rfl,DD.out⟩
section
variable {c : UInt8} {l : List UInt8}
theorem tok_let (h : letB c = true) : tok (c :: l) = .ok (pre letB (c :: l)) false 0 := by
  have h1:tokLen (c::l)=(pre letB (c::l),false):=by simp [tokLen,h]
  simp only [tok,h1]
  rw [if_neg (by rw [pre_yes h];omega)]
  simp
theorem tok_sign (h0 : letB c = false) (h : sigB c = true) : tok (c :: l) = .ok 1 false 0 := by
  have h1:tokLen (c::l)=(1,false):=by simp [tokLen,h,h0]
  simp [tok,h1]
theorem not_sign {k : Nat} (h : c.toNat = k) (hk : ([40, 41, 123, 125, 60, 62, 44, 59] : List Nat).contains k = false) : sigB c = false := by
  unfold sigB;rw [h];exact hk
theorem tok_arrow (h0 : letB c = false) (h : c.toNat = 45) (h2 : l.head?.any (fun d => d.toNat == 62) = true) : tok (c :: l) = .ok 2 false 0 := by
  have h1:tokLen (c::l)=(2,false):=by
    have hs:sigB c=false:=not_sign h rfl
    simp only [tokLen,h0,hs,h,h2]
    simp
  simp [tok,h1]
theorem tok_num (i : Nat) (h0 : letB c = false) (h : digB c = true ∨ (c.toNat = 45 ∧ l.head?.any digB = true)) : (tok (c :: l)).val i (c :: l) = numVal i ((c :: l).take (pre digB l + 1)) := by
  have hs:sigB c=false:=by
    rcases h with h | ⟨h,_⟩
    · simp only [digB,Bool.and_eq_true,decide_eq_true_eq] at h
      simp [sigB];omega
    · exact not_sign h rfl
  have ha:¬ (c.toNat=45∧l.head?.any (fun d=>d.toNat == 62)=true):=by
    rintro ⟨a,b⟩
    rcases h with h | ⟨_,h⟩
    · simp [digB,a] at h
    · cases l with
      | nil=>simp at h
      | cons d l =>
        simp at b h
        simp [digB,b] at h
  have h1:tokLen (c::l)=(pre digB l+1,true):=by simp only [tokLen,h0,hs,if_neg ha,if_pos h];simp
  simp only [tok,h1,numVal]
  rw [if_neg (by omega)]
  simp only [if_true]
  cases e:numOf ((c::l).take (pre digB l+1)) with
  | none=>simp [TkR.val]
  | some v=>simp [TkR.val]
theorem tok_bad (h0 : letB c = false) (h1 : sigB c = false) (h2 : ¬ (c.toNat = 45 ∧ l.head?.any (fun d => d.toNat == 62) = true)) (h3 : ¬ (digB c = true ∨ (c.toNat = 45 ∧ l.head?.any digB = true))) : tok (c :: l) = .bad 6 := by
  have:tokLen (c::l)=(0,false):=by simp only [tokLen,h0,h1,if_neg h2,if_neg h3];simp
  simp [tok,this]
theorem arrow_pre : Lib.hasPrefix (c :: l) [45, 62] = true ↔ (c.toNat = 45 ∧ l.head?.any (fun d => d.toNat == 62) = true) := by
  cases l with
  | nil=>simp [Lib.hasPrefix]
  | cons d l =>
    simp only [Lib.hasPrefix,List.isPrefixOf,List.head?_cons,Option.any_some,beq_iff_eq,Bool.and_true,Bool.and_eq_true,← UInt8.toNat_inj]
    constructor
    · rintro ⟨a,b⟩;exact ⟨a.symm,b.symm⟩
    · rintro ⟨a,b⟩;exact ⟨a.symm,b.symm⟩
end
theorem numVal_form (i : Nat) (l : List UInt8) : ∃ (p : Int) (t : ByteArray) (b : Bool) (n c : Int), numVal i l = .tuple #[.agg #[.int .i64 p, .string t, .bool b, .int .i64 n], .int .i64 c] := by
  unfold numVal
  split
  · exact ⟨_,_,_,_,_,rfl⟩
  · exact ⟨_,_,_,_,_,rfl⟩
structure TB (w w' : World) : Prop where
  bel:Below w.heap.size w w'
  res:Blk w' w.heap.size Z4 78
  laid:Laid w'
theorem TB.below {w w1 w2 : World} (h : TB w w1) (b : Below w1.heap.size w1 w2) : TB w w2 := ⟨Below.andThen h.bel b, h.res.below b, h.laid.below b⟩
theorem TB.start {w : World} (h : Laid w) : TB w (w.alloc (.cells Z4 78)) := ⟨bel1 w _, Blk.new _ _ _, h.below (bel1 w _)⟩
def dgAt (s : ByteArray) (k : Int) : Bool := (s.data.toList.drop k.toNat).head?.any digB
theorem tokenAt_any (s : ByteArray) (i : Nat) (w : World) (hw0 : Laid w) (hi : i < s.size) (hs : s.size ≤ 1000000) :
    Calls Tryz.prog 33 #[.string s,.int .i64 i] w fun e w'=>e=.returned ((tok (s.data.toList.drop i)).val i (s.data.toList.drop i))∧Below w.heap.size w w':=by
  have hi':(i:Int) < s.size:=by omega
  have hw:Hid (Laid w):=hw0
  clear hw0
  cases hlet:letB s[i] with
  | true =>
    have hn:=pre_le letB (s.data.toList.drop i)
    rw [List.length_drop,list_len] at hn
    have hV:Hid ((tok (s.data.toList.drop i)).val i (s.data.toList.drop i)=.tuple #[.agg #[.int .i64 i,.string (str ((s.data.toList.drop i).take (pre letB (s.data.toList.drop i)))),.bool false,.int .i64 0],.int .i64 0]):=by
      have e:=tok_let (l:=s.data.toList.drop (i+1)) hlet
      rw [← drop_at s i hi] at e
      show _=_
      rw [e];rfl
    have C1:Hid _:=kind_at isLetter_any hlet
    have C2:Hid (∀ w,Calls Tryz.prog 61 #[.string s,.int .i64 i,.func (.func 63) #[] #[]] w fun e w'=>e=.returned (.int .i64 ((i+pre letB (s.data.toList.drop i):Nat):Int))∧w'=w):=fun w=>past_any isLetter_any ent_letter s i w (Nat.le_of_lt hi) hs
    generalize pre letB (s.data.toList.drop i)=k at hn hV C2
    have C3:Hid (∀ w,Calls Tryz.prog 64 #[.string s,.int .i64 i,.int .i64 ((i+k:Nat):Int)] w fun e w'=>e=.returned (.agg #[.int .i64 i,.string (str ((s.data.toList.drop i).take k)),.bool false,.int .i64 0])∧Below w.heap.size w w'):=fun w=>by
      have:=tokenTo_any s i (i+k) w (by omega) (by omega) hs
      rwa [Nat.add_sub_cancel_left] at this
    generalize (s.data.toList.drop i).take k=l at hV C3
    generalize i+k=j at C2 C3
    clear hlet hn
    go_enter Tryz.func33,Tryz.ntmps33
    go_wp2_with fail
    have T:Hid _:=TB.start hw.out
    generalize w.alloc (.cells Z4 78)=w1 at T ⊢
    go_wp2_with (first
      | (go_at_call 63;refine (C1.out _).mono ?_;rintro e w' ⟨rfl,rfl⟩)
      | (go_at_call 61;refine (C2.out _).mono ?_;rintro e w' ⟨rfl,rfl⟩)
      | (go_at_call 64;refine (C3.out _).mono ?_;rintro e w5 ⟨rfl,b5⟩;have N5:Hid (TB w w5):=T.out.below b5;clear b5;have r0:=cellOf N5.out.res 0 _ rfl;have r1:=cellOf N5.out.res 1 _ rfl;have r2:=cellOf N5.out.res 2 _ rfl;have r3:=cellOf N5.out.res 3 _ rfl;have q0:=freeOf N5.out.res 0;have q1:=freeOf N5.out.res 1;have q2:=freeOf N5.out.res 2;have q3:=freeOf N5.out.res 3))
    have D:=stored4 N5.out.res N5.out.bel (Nat.le_refl _) (.int .i64 i) (.string (str l)) (.bool false) (.int .i64 0)
    have x0:=cellOf D.1 0 _ rfl
    have x1:=cellOf D.1 1 _ rfl
    have x2:=cellOf D.1 2 _ rfl
    have x3:=cellOf D.1 3 _ rfl
    have DD:Hid _:=D.2
    clear D N5 r0 r1 r2 r3 q0 q1 q2 q3
    generalize (((World.setCell _ ⟨w.heap.size,0,none⟩ (.int .i64 i)).setCell ⟨w.heap.size,1,none⟩ (.string (str l))).setCell ⟨w.heap.size,2,none⟩ (.bool false)).setCell ⟨w.heap.size,3,none⟩ (.int .i64 0)=w9 at DD x0 x1 x2 x3 ⊢
    exact bodyPost_ret (v:=.tuple #[.agg #[.int .i64 i,.string (str l),.bool false,.int .i64 0],.int .i64 0]) (by simp [results,Tryz.results33,go_sem,x0,x1,x2,x3]) rfl ⟨by rw [hV.out],DD.out⟩
  | false =>
    have C1a:=kind_at isLetter_any hlet
    have C4a:=fun w=>isDigitAt_any s i w (by omega) (by unfold maxLen;omega)
    rw [drop_at s i hi] at C4a
    simp only [List.head?_cons,Option.any_some] at C4a
    cases hd:digB s[i] with
    | true =>
      rw [hd] at C4a
      have C1:Hid _:=C1a
      have C4:Hid _:=C4a
      clear C1a C4a
      have hn:=pre_le digB (s.data.toList.drop (i+1))
      rw [List.length_drop,list_len] at hn
      have hV0:(tok (s.data.toList.drop i)).val i (s.data.toList.drop i)=numVal i ((s.data.toList.drop i).take (pre digB (s.data.toList.drop (i+1))+1)):=by
        have e:=tok_num (l:=s.data.toList.drop (i+1)) i hlet (.inl hd)
        rwa [← drop_at s i hi] at e
      have C2:Hid (∀ w,Calls Tryz.prog 61 #[.string s,.int .i64 ((i:Int)+1),.func (.func 67) #[] #[]] w fun e w'=>e=.returned (.int .i64 ((i+1+pre digB (s.data.toList.drop (i+1)):Nat):Int))∧w'=w):=fun w=>past_any isDigit_any ent_digit s (i+1) w hi hs
      generalize pre digB (s.data.toList.drop (i+1))=k at hn hV0 C2
      have C3:Hid (∀ w,Laid w→Calls Tryz.prog 66 #[.string s,.int .i64 i,.int .i64 ((i+1+k:Nat):Int)] w fun e w'=>e=.returned (numVal i ((s.data.toList.drop i).take (k+1)))∧Below w.heap.size w w'):=fun w hl=>by
        have:=numberTo_any s i (i+1+k) w hl (by omega) (by omega) hs
        rwa [show i+1+k - i=k+1 by omega] at this
      obtain ⟨p,tx,b,n,c,hf⟩:=numVal_form i ((s.data.toList.drop i).take (k+1))
      rw [hf] at hV0 C3
      have hV:Hid _:=hV0
      generalize i+1+k=j at C2 C3
      clear hf hV0 hn hlet hd
      go_enter Tryz.func33,Tryz.ntmps33
      go_wp2_with fail
      have T:Hid _:=TB.start hw.out
      generalize w.alloc (.cells Z4 78)=w1 at T ⊢
      go_wp2_with (first
        | (go_at_call 63;refine (C1.out _).mono ?_;rintro e w' ⟨rfl,rfl⟩)
        | (go_at_call 65;refine (C4.out _).mono ?_;rintro e w' ⟨rfl,rfl⟩)
        | (go_at_call 61;refine (C2.out _).mono ?_;rintro e w' ⟨rfl,rfl⟩)
        | (go_at_call 66;refine (C3.out _ T.out.laid).mono ?_;rintro e w5 ⟨rfl,b5⟩;have N5:Hid (TB w w5):=T.out.below b5;clear b5;have r0:=cellOf N5.out.res 0 _ rfl;have r1:=cellOf N5.out.res 1 _ rfl;have r2:=cellOf N5.out.res 2 _ rfl;have r3:=cellOf N5.out.res 3 _ rfl;have q0:=freeOf N5.out.res 0;have q1:=freeOf N5.out.res 1;have q2:=freeOf N5.out.res 2;have q3:=freeOf N5.out.res 3))
      have D:=stored4 N5.out.res N5.out.bel (Nat.le_refl _) (.int .i64 p) (.string tx) (.bool b) (.int .i64 n)
      have x0:=cellOf D.1 0 _ rfl
      have x1:=cellOf D.1 1 _ rfl
      have x2:=cellOf D.1 2 _ rfl
      have x3:=cellOf D.1 3 _ rfl
      have DD:Hid _:=D.2
      clear D N5 r0 r1 r2 r3 q0 q1 q2 q3
      generalize (((World.setCell _ ⟨w.heap.size,0,none⟩ (.int .i64 p)).setCell ⟨w.heap.size,1,none⟩ (.string tx)).setCell ⟨w.heap.size,2,none⟩ (.bool b)).setCell ⟨w.heap.size,3,none⟩ (.int .i64 n)=w9 at DD x0 x1 x2 x3 ⊢
      exact bodyPost_ret (v:=.tuple #[.agg #[.int .i64 p,.string tx,.bool b,.int .i64 n],.int .i64 c]) (by simp [results,Tryz.results33,go_sem,x0,x1,x2,x3]) rfl ⟨by rw [hV.out],DD.out⟩
    | false =>
      by_cases h45:s[i].toNat=45
      · have C4:Hid (∀ (k:Int) w,k=i ∨ k=(i:Int)+1→Calls Tryz.prog 65 #[.string s,.int .i64 k] w fun e w'=>e=.returned (.bool (dgAt s k))∧w'=w):=by
          rintro k w (rfl | rfl)
          · exact isDigitAt_any s i w (by omega) (by unfold maxLen;omega)
          · exact isDigitAt_any s (i+1) w (by omega) (by unfold maxLen;omega)
        have g0:dgAt s (i:Int)=false:=by unfold dgAt;rw [Int.toNat_natCast,drop_at s i hi];simpa using hd
        have h45':(s[i].toNat:Int)=45:=by omega
        rw [h45'] at C1a
        have C1:Hid _:=C1a
        cases hd2:(s.data.toList.drop (i+1)).head?.any digB with
        | true =>
          have g1:dgAt s ((i:Int)+1)=true:=hd2
          clear C1a C4a
          have hn:=pre_le digB (s.data.toList.drop (i+1))
          rw [List.length_drop,list_len] at hn
          have hV0:(tok (s.data.toList.drop i)).val i (s.data.toList.drop i)=numVal i ((s.data.toList.drop i).take (pre digB (s.data.toList.drop (i+1))+1)):=by
            have e:=tok_num (l:=s.data.toList.drop (i+1)) i hlet (.inr ⟨h45,hd2⟩)
            rwa [← drop_at s i hi] at e
          have C2:Hid (∀ w,Calls Tryz.prog 61 #[.string s,.int .i64 ((i:Int)+1),.func (.func 67) #[] #[]] w fun e w'=>e=.returned (.int .i64 ((i+1+pre digB (s.data.toList.drop (i+1)):Nat):Int))∧w'=w):=fun w=>past_any isDigit_any ent_digit s (i+1) w hi hs
          generalize pre digB (s.data.toList.drop (i+1))=k at hn hV0 C2
          have C3:Hid (∀ w,Laid w→Calls Tryz.prog 66 #[.string s,.int .i64 i,.int .i64 ((i+1+k:Nat):Int)] w fun e w'=>e=.returned (numVal i ((s.data.toList.drop i).take (k+1)))∧Below w.heap.size w w'):=fun w hl=>by
            have:=numberTo_any s i (i+1+k) w hl (by omega) (by omega) hs
            rwa [show i+1+k - i=k+1 by omega] at this
          obtain ⟨p,tx,b,n,c,hf⟩:=numVal_form i ((s.data.toList.drop i).take (k+1))
          rw [hf] at hV0 C3
          have hV:Hid _:=hV0
          generalize i+1+k=j at C2 C3
          clear hf hV0 hn hlet hd hd2 h45
          go_enter Tryz.func33,Tryz.ntmps33
          go_wp2_with fail
          have T:Hid _:=TB.start hw.out
          generalize w.alloc (.cells Z4 78)=w1 at T ⊢
          go_wp2_with (first
            | (go_at_call 63;refine (C1.out _).mono ?_;rintro e w' ⟨rfl,rfl⟩)
            | (go_at_call 65;refine (C4.out _ _ (by omega)).mono ?_;rintro e w' ⟨rfl,rfl⟩)
            | (go_at_call 61;refine (C2.out _).mono ?_;rintro e w' ⟨rfl,rfl⟩)
            | (go_at_call 66;refine (C3.out _ T.out.laid).mono ?_;rintro e w5 ⟨rfl,b5⟩;have N5:Hid (TB w w5):=T.out.below b5;clear b5;have r0:=cellOf N5.out.res 0 _ rfl;have r1:=cellOf N5.out.res 1 _ rfl;have r2:=cellOf N5.out.res 2 _ rfl;have r3:=cellOf N5.out.res 3 _ rfl;have q0:=freeOf N5.out.res 0;have q1:=freeOf N5.out.res 1;have q2:=freeOf N5.out.res 2;have q3:=freeOf N5.out.res 3))
          have D:=stored4 N5.out.res N5.out.bel (Nat.le_refl _) (.int .i64 p) (.string tx) (.bool b) (.int .i64 n)
          have x0:=cellOf D.1 0 _ rfl
          have x1:=cellOf D.1 1 _ rfl
          have x2:=cellOf D.1 2 _ rfl
          have x3:=cellOf D.1 3 _ rfl
          have DD:Hid _:=D.2
          clear D N5 r0 r1 r2 r3 q0 q1 q2 q3
          generalize (((World.setCell _ ⟨w.heap.size,0,none⟩ (.int .i64 p)).setCell ⟨w.heap.size,1,none⟩ (.string tx)).setCell ⟨w.heap.size,2,none⟩ (.bool b)).setCell ⟨w.heap.size,3,none⟩ (.int .i64 n)=w9 at DD x0 x1 x2 x3 ⊢
          exact bodyPost_ret (v:=.tuple #[.agg #[.int .i64 p,.string tx,.bool b,.int .i64 n],.int .i64 c]) (by simp [results,Tryz.results33,go_sem,x0,x1,x2,x3]) rfl ⟨by rw [hV.out],DD.out⟩
        | false =>
          have g1:dgAt s ((i:Int)+1)=false:=hd2
          have C6a:=fun w=>prefix_any (s.extract i s.size) ⟨#[45,62]⟩ w
          have hex:(s.extract i s.size).data.toList=s[i]::s.data.toList.drop (i+1):=by rw [ext_list,← drop_at s i hi];rw [List.take_of_length_le (by rw [List.length_drop,list_len];omega)]
          have hap:=arrow_pre (c:=s[i]) (l:=s.data.toList.drop (i+1))
          rw [hex] at C6a
          clear hex C1a C4a
          by_cases h62:(s.data.toList.drop (i+1)).head?.any (fun d=>d.toNat == 62)=true
          · have hpt:Lib.hasPrefix (s[i]::s.data.toList.drop (i+1)) [45,62]=true:=hap.2 ⟨h45,h62⟩
            have C6:Hid (∀ w,Calls Tryz.prog 68 #[.string (s.extract i s.size),.string ⟨#[45,62]⟩] w fun e w'=>e=.returned (.bool true)∧w'=w):=by
              intro w;have:=C6a w;rw [show (⟨#[45,62]⟩:ByteArray).data.toList=[45,62] from rfl,hpt] at this;exact this
            have hV0:=tok_arrow (l:=s.data.toList.drop (i+1)) hlet h45 h62
            rw [← drop_at s i hi] at hV0
            have hV:Hid ((tok (s.data.toList.drop i)).val i (s.data.toList.drop i)=.tuple #[.agg #[.int .i64 i,.string (str ((s.data.toList.drop i).take 2)),.bool false,.int .i64 0],.int .i64 0]):=by show _=_;rw [hV0];rfl
            have hi2:i+2≤s.size:=by
              rcases Nat.lt_or_ge (i+1) s.size with h | h
              · exact h
              · rw [drop_end s (i+1) (by omega)] at h62;simp at h62
            have C3:Hid (∀ w,Calls Tryz.prog 64 #[.string s,.int .i64 i,.int .i64 ((i:Int)+2)] w fun e w'=>e=.returned (.agg #[.int .i64 i,.string (str ((s.data.toList.drop i).take 2)),.bool false,.int .i64 0])∧Below w.heap.size w w'):=fun w=>by
              have:=tokenTo_any s i (i+2) w (by omega) hi2 hs
              rwa [Nat.add_sub_cancel_left] at this
            generalize (s.data.toList.drop i).take 2=l at hV C3
            clear hlet hd hd2 h45 h62 hpt hap C6a hV0
            go_enter Tryz.func33,Tryz.ntmps33
            go_wp2_with fail
            have T:Hid _:=TB.start hw.out
            generalize w.alloc (.cells Z4 78)=w1 at T ⊢
            go_wp2_with (first
              | (go_at_call 63;refine (C1.out _).mono ?_;rintro e w' ⟨rfl,rfl⟩)
              | (go_at_call 65;refine (C4.out _ _ (by omega)).mono ?_;rintro e w' ⟨rfl,rfl⟩)
              | (go_at_call 68;refine (C6.out _).mono ?_;rintro e w' ⟨rfl,rfl⟩)
              | (go_at_call 64;refine (C3.out _).mono ?_;rintro e w5 ⟨rfl,b5⟩;have N5:Hid (TB w w5):=T.out.below b5;clear b5;have r0:=cellOf N5.out.res 0 _ rfl;have r1:=cellOf N5.out.res 1 _ rfl;have r2:=cellOf N5.out.res 2 _ rfl;have r3:=cellOf N5.out.res 3 _ rfl;have q0:=freeOf N5.out.res 0;have q1:=freeOf N5.out.res 1;have q2:=freeOf N5.out.res 2;have q3:=freeOf N5.out.res 3))
            have D:=stored4 N5.out.res N5.out.bel (Nat.le_refl _) (.int .i64 i) (.string (str l)) (.bool false) (.int .i64 0)
            have x0:=cellOf D.1 0 _ rfl
            have x1:=cellOf D.1 1 _ rfl
            have x2:=cellOf D.1 2 _ rfl
            have x3:=cellOf D.1 3 _ rfl
            have DD:Hid _:=D.2
            clear D N5 r0 r1 r2 r3 q0 q1 q2 q3
            generalize (((World.setCell _ ⟨w.heap.size,0,none⟩ (.int .i64 i)).setCell ⟨w.heap.size,1,none⟩ (.string (str l))).setCell ⟨w.heap.size,2,none⟩ (.bool false)).setCell ⟨w.heap.size,3,none⟩ (.int .i64 0)=w9 at DD x0 x1 x2 x3 ⊢
            exact bodyPost_ret (v:=.tuple #[.agg #[.int .i64 i,.string (str l),.bool false,.int .i64 0],.int .i64 0]) (by simp [results,Tryz.results33,go_sem,x0,x1,x2,x3]) rfl ⟨by rw [hV.out],DD.out⟩
          · have hpt:Lib.hasPrefix (s[i]::s.data.toList.drop (i+1)) [45,62]=false:=by
              cases e:Lib.hasPrefix (s[i]::s.data.toList.drop (i+1)) [45,62] with
              | false=>rfl
              | true=>exact absurd (hap.1 e).2 h62
            have C6:Hid (∀ w,Calls Tryz.prog 68 #[.string (s.extract i s.size),.string ⟨#[45,62]⟩] w fun e w'=>e=.returned (.bool false)∧w'=w):=by
              intro w;have:=C6a w;rw [show (⟨#[45,62]⟩:ByteArray).data.toList=[45,62] from rfl,hpt] at this;exact this
            have hsg:sigB s[i]=false:=not_sign h45 rfl
            have C7a:=kind_at isSign_any hsg
            rw [h45'] at C7a
            have C7:Hid _:=C7a
            have hV0:=tok_bad (l:=s.data.toList.drop (i+1)) hlet hsg (fun h=>h62 h.2) (fun h=>h.elim (fun a=>by rw [hd] at a;cases a) (fun a=>by rw [hd2] at a;cases a.2))
            rw [← drop_at s i hi] at hV0
            have hV:Hid ((tok (s.data.toList.drop i)).val i (s.data.toList.drop i)=.tuple #[.agg #[.int .i64 0,.string ⟨#[]⟩,.bool false,.int .i64 0],.int .i64 6]):=by show _=_;rw [hV0];rfl
            clear hlet hd hd2 h45 h62 hpt hap C6a hV0 hsg C7a
            go_enter Tryz.func33,Tryz.ntmps33
            go_wp2_with fail
            have T:Hid _:=TB.start hw.out
            generalize w.alloc (.cells Z4 78)=w1 at T ⊢
            have N5:Hid (TB w w1):=T.out
            have r0:=cellOf N5.out.res 0 _ rfl
            have r1:=cellOf N5.out.res 1 _ rfl
            have r2:=cellOf N5.out.res 2 _ rfl
            have r3:=cellOf N5.out.res 3 _ rfl
            have q0:=freeOf N5.out.res 0
            have q1:=freeOf N5.out.res 1
            have q2:=freeOf N5.out.res 2
            have q3:=freeOf N5.out.res 3
            go_wp2_with (first
              | (go_at_call 63;refine (C1.out _).mono ?_;rintro e w' ⟨rfl,rfl⟩)
              | (go_at_call 65;refine (C4.out _ _ (by omega)).mono ?_;rintro e w' ⟨rfl,rfl⟩)
              | (go_at_call 68;refine (C6.out _).mono ?_;rintro e w' ⟨rfl,rfl⟩)
              | (go_at_call 69;refine (C7.out _).mono ?_;rintro e w' ⟨rfl,rfl⟩))
            have D:=stored4 N5.out.res N5.out.bel (Nat.le_refl _) (.int .i64 0) (.string ⟨#[]⟩) (.bool false) (.int .i64 0)
            have x0:=cellOf D.1 0 _ rfl
            have x1:=cellOf D.1 1 _ rfl
            have x2:=cellOf D.1 2 _ rfl
            have x3:=cellOf D.1 3 _ rfl
            have DD:Hid _:=D.2
            clear D N5 r0 r1 r2 r3 q0 q1 q2 q3
            generalize (((World.setCell _ ⟨w.heap.size,0,none⟩ (.int .i64 0)).setCell ⟨w.heap.size,1,none⟩ (.string ⟨#[]⟩)).setCell ⟨w.heap.size,2,none⟩ (.bool false)).setCell ⟨w.heap.size,3,none⟩ (.int .i64 0)=w9 at DD x0 x1 x2 x3 ⊢
            exact bodyPost_ret (v:=.tuple #[.agg #[.int .i64 0,.string ⟨#[]⟩,.bool false,.int .i64 0],.int .i64 6]) (by simp [results,Tryz.results33,go_sem,x0,x1,x2,x3]) rfl ⟨by rw [hV.out],DD.out⟩
      · have h45':¬ (s[i].toNat:Int)=45:=by omega
        have C1:Hid _:=C1a
        rw [hd] at C4a
        have C4:Hid _:=C4a
        have C6a:=fun w=>prefix_any (s.extract i s.size) ⟨#[45,62]⟩ w
        have hex:(s.extract i s.size).data.toList=s[i]::s.data.toList.drop (i+1):=by rw [ext_list,← drop_at s i hi];rw [List.take_of_length_le (by rw [List.length_drop,list_len];omega)]
        have hap:=arrow_pre (c:=s[i]) (l:=s.data.toList.drop (i+1))
        rw [hex] at C6a
        have hpt:Lib.hasPrefix (s[i]::s.data.toList.drop (i+1)) [45,62]=false:=by
          cases e:Lib.hasPrefix (s[i]::s.data.toList.drop (i+1)) [45,62] with
          | false=>rfl
          | true=>exact absurd (hap.1 e).1 h45
        have C6:Hid (∀ w,Calls Tryz.prog 68 #[.string (s.extract i s.size),.string ⟨#[45,62]⟩] w fun e w'=>e=.returned (.bool false)∧w'=w):=by
          intro w;have:=C6a w;rw [show (⟨#[45,62]⟩:ByteArray).data.toList=[45,62] from rfl,hpt] at this;exact this
        clear hex C1a C4a hap hpt C6a
        cases hsg:sigB s[i] with
        | true =>
          have C7:Hid _:=kind_at isSign_any hsg
          have hV0:=tok_sign (l:=s.data.toList.drop (i+1)) hlet hsg
          rw [← drop_at s i hi] at hV0
          have hV:Hid ((tok (s.data.toList.drop i)).val i (s.data.toList.drop i)=.tuple #[.agg #[.int .i64 i,.string (str ((s.data.toList.drop i).take 1)),.bool false,.int .i64 0],.int .i64 0]):=by show _=_;rw [hV0];rfl
          have C3:Hid (∀ w,Calls Tryz.prog 64 #[.string s,.int .i64 i,.int .i64 ((i:Int)+1)] w fun e w'=>e=.returned (.agg #[.int .i64 i,.string (str ((s.data.toList.drop i).take 1)),.bool false,.int .i64 0])∧Below w.heap.size w w'):=fun w=>by
            have:=tokenTo_any s i (i+1) w (by omega) hi hs
            rwa [Nat.add_sub_cancel_left] at this
          generalize (s.data.toList.drop i).take 1=l at hV C3
          clear hlet hd h45 hsg hV0
          go_enter Tryz.func33,Tryz.ntmps33
          go_wp2_with fail
          have T:Hid _:=TB.start hw.out
          generalize w.alloc (.cells Z4 78)=w1 at T ⊢
          go_wp2_with (first
            | (go_at_call 63;refine (C1.out _).mono ?_;rintro e w' ⟨rfl,rfl⟩)
            | (go_at_call 65;refine (C4.out _).mono ?_;rintro e w' ⟨rfl,rfl⟩)
            | (go_at_call 68;refine (C6.out _).mono ?_;rintro e w' ⟨rfl,rfl⟩)
            | (go_at_call 69;refine (C7.out _).mono ?_;rintro e w' ⟨rfl,rfl⟩)
            | (go_at_call 64;refine (C3.out _).mono ?_;rintro e w5 ⟨rfl,b5⟩;have N5:Hid (TB w w5):=T.out.below b5;clear b5;have r0:=cellOf N5.out.res 0 _ rfl;have r1:=cellOf N5.out.res 1 _ rfl;have r2:=cellOf N5.out.res 2 _ rfl;have r3:=cellOf N5.out.res 3 _ rfl;have q0:=freeOf N5.out.res 0;have q1:=freeOf N5.out.res 1;have q2:=freeOf N5.out.res 2;have q3:=freeOf N5.out.res 3))
          have D:=stored4 N5.out.res N5.out.bel (Nat.le_refl _) (.int .i64 i) (.string (str l)) (.bool false) (.int .i64 0)
          have x0:=cellOf D.1 0 _ rfl
          have x1:=cellOf D.1 1 _ rfl
          have x2:=cellOf D.1 2 _ rfl
          have x3:=cellOf D.1 3 _ rfl
          have DD:Hid _:=D.2
          clear D N5 r0 r1 r2 r3 q0 q1 q2 q3
          generalize (((World.setCell _ ⟨w.heap.size,0,none⟩ (.int .i64 i)).setCell ⟨w.heap.size,1,none⟩ (.string (str l))).setCell ⟨w.heap.size,2,none⟩ (.bool false)).setCell ⟨w.heap.size,3,none⟩ (.int .i64 0)=w9 at DD x0 x1 x2 x3 ⊢
          exact bodyPost_ret (v:=.tuple #[.agg #[.int .i64 i,.string (str l),.bool false,.int .i64 0],.int .i64 0]) (by simp [results,Tryz.results33,go_sem,x0,x1,x2,x3]) rfl ⟨by rw [hV.out],DD.out⟩
        | false =>
          have C7:Hid _:=kind_at isSign_any hsg
          have hV0:=tok_bad (l:=s.data.toList.drop (i+1)) hlet hsg (fun h=>h45 h.1) (fun h=>h.elim (fun a=>by rw [hd] at a;cases a) (fun a=>h45 a.1))
          rw [← drop_at s i hi] at hV0
          have hV:Hid ((tok (s.data.toList.drop i)).val i (s.data.toList.drop i)=.tuple #[.agg #[.int .i64 0,.string ⟨#[]⟩,.bool false,.int .i64 0],.int .i64 6]):=by show _=_;rw [hV0];rfl
          clear hlet hd h45 hsg hV0
          go_enter Tryz.func33,Tryz.ntmps33
          go_wp2_with fail
          have T:Hid _:=TB.start hw.out
          generalize w.alloc (.cells Z4 78)=w1 at T ⊢
          have N5:Hid (TB w w1):=T.out
          have r0:=cellOf N5.out.res 0 _ rfl
          have r1:=cellOf N5.out.res 1 _ rfl
          have r2:=cellOf N5.out.res 2 _ rfl
          have r3:=cellOf N5.out.res 3 _ rfl
          have q0:=freeOf N5.out.res 0
          have q1:=freeOf N5.out.res 1
          have q2:=freeOf N5.out.res 2
          have q3:=freeOf N5.out.res 3
          go_wp2_with (first
            | (go_at_call 63;refine (C1.out _).mono ?_;rintro e w' ⟨rfl,rfl⟩)
            | (go_at_call 65;refine (C4.out _).mono ?_;rintro e w' ⟨rfl,rfl⟩)
            | (go_at_call 68;refine (C6.out _).mono ?_;rintro e w' ⟨rfl,rfl⟩)
            | (go_at_call 69;refine (C7.out _).mono ?_;rintro e w' ⟨rfl,rfl⟩))
          have D:=stored4 N5.out.res N5.out.bel (Nat.le_refl _) (.int .i64 0) (.string ⟨#[]⟩) (.bool false) (.int .i64 0)
          have x0:=cellOf D.1 0 _ rfl
          have x1:=cellOf D.1 1 _ rfl
          have x2:=cellOf D.1 2 _ rfl
          have x3:=cellOf D.1 3 _ rfl
          have DD:Hid _:=D.2
          clear D N5 r0 r1 r2 r3 q0 q1 q2 q3
          generalize (((World.setCell _ ⟨w.heap.size,0,none⟩ (.int .i64 0)).setCell ⟨w.heap.size,1,none⟩ (.string ⟨#[]⟩)).setCell ⟨w.heap.size,2,none⟩ (.bool false)).setCell ⟨w.heap.size,3,none⟩ (.int .i64 0)=w9 at DD x0 x1 x2 x3 ⊢
          exact bodyPost_ret (v:=.tuple #[.agg #[.int .i64 0,.string ⟨#[]⟩,.bool false,.int .i64 0],.int .i64 6]) (by simp [results,Tryz.results33,go_sem,x0,x1,x2,x3]) rfl ⟨by rw [hV.out],DD.out⟩
section
variable {l : List UInt8} {pos k : Nat} {b : Bool} {n : Int} {acc : List Tk} {c : Nat}
theorem sc_start (h : ¬ 40000 < l.length) : (scanF (l.length + 1) (blk false l) (l.drop (blk false l))).app [] = scanL l := by
  rw [Sc.app_nil,scanL,if_neg h]
theorem sc_end (h : (scanF (l.length + 1) pos (l.drop pos)).app acc = scanL l) (hp : ¬ pos < l.length) : scanL l = .ok acc := by
  rw [List.drop_of_length_le (by omega)] at h
  rw [← h];simp [scanF,Sc.app]
theorem sc_bad (h : (scanF (l.length + 1) pos (l.drop pos)).app acc = scanL l) (hp : pos < l.length) (ht : tok (l.drop pos) = .bad c) : scanL l = .fault c pos := by
  rw [← h,scanF,if_neg (fun e=>by have:=congrArg List.length e;simp only [List.length_drop,List.length_nil] at this;omega),ht];rfl
theorem sc_next (h : (scanF (l.length + 1) pos (l.drop pos)).app acc = scanL l) (hp : pos < l.length) (ht : tok (l.drop pos) = .ok k b n) :
    (scanF (l.length+1) (pos+k+blk false (l.drop (pos+k))) (l.drop (pos+k+blk false (l.drop (pos+k))))).app (acc++[⟨pos,(l.drop pos).take k,b,n⟩])=scanL l:=by
  have hk:=tok_pos ht
  rw [List.length_drop] at hk
  rw [← h,scanF.eq_def (l.length+1) pos]
  simp only
  rw [if_neg (fun e=>by have:=congrArg List.length e;simp only [List.length_drop,List.length_nil] at this;omega),ht]
  simp only [List.drop_drop]
  rw [Sc.app_app,scanF_fuel l.length (l.length+1) _ _ (by rw [List.length_drop];omega) (by rw [List.length_drop];omega)]
theorem tok_code (h : tok l = .bad c) : c = 6 ∨ c = 8 := by
  unfold tok at h
  split at h
  · injection h with h;omega
  · split at h
    · split at h
      · cases h
      · injection h with h;omega
    · cases h
end
structure SB (T : TypeId) (w wr : World) (l : List UInt8) (pos : Nat) (v : Value) (acc : List Tk) (xs : List Value) : Prop where
  pos_le:pos≤l.length
  row:ARow tkL T wr (w.heap.size+1) v acc xs
  bel:Below w.heap.size w wr
  flt:Blk wr w.heap.size #[.int .i64 0,.int .i64 0] 27
  sofar:(scanF (l.length+1) pos (l.drop pos)).app acc=scanL l
  len:acc.length≤pos
theorem SB.start {T : TypeId} {w : World} {l : List UInt8} (h : ¬ 40000 < l.length) : SB T w (w.alloc (.cells #[.int .i64 0, .int .i64 0] 27)) l (blk false l) (.slice none 0 0) [] [] :=
  ⟨blk_le l false,ARow.nil _ _ _ _,bel1 w _,Blk.new _ _ _,sc_start h,Nat.zero_le _⟩
theorem SB.push {T : TypeId} {w wr w4 w9 : World} {l : List UInt8} {pos k : Nat} {v : Value} {acc : List Tk} {xs : List Value} {b : Bool} {n : Int} {g cap : Nat} (h : SB T w wr l pos v acc xs) (b4 : Below wr.heap.size wr w4)
    (hp:pos < l.length) (ht:tok (l.drop pos)=.ok k b n)
    (h1:w9.ownsRow (w.heap.size+1) T 4 (.slice (some ⟨g,0,none⟩) (acc.length+1) cap) (acc.length+1) (xs++[.int .i64 pos,.string (str ((l.drop pos).take k)),.bool b,.int .i64 n])) (h2:w4.grownBy w9 v.ownBlock) (h3:v.ownBlock=some g ∨ g=w4.heap.size) :
    SB T w w9 l (pos+k+blk false (l.drop (pos+k))) (.slice (some ⟨g,0,none⟩) (acc.length+1) cap) (acc++[⟨pos,(l.drop pos).take k,b,n⟩]) (xs++[.int .i64 pos,.string (str ((l.drop pos).take k)),.bool b,.int .i64 n]):=by
  have hk:=tok_pos ht
  have hb:=blk_le (l.drop (pos+k)) false
  rw [List.length_drop] at hk hb
  have hrow:=h.row.below b4
  have hsz:w.heap.size < wr.heap.size:=h.flt.lt
  have hsz4:=b4.size
  refine ⟨by omega,?_,?_,?_,sc_next h.sofar hp ht,by simp;have:=h.len;omega⟩
  · exact ARow.push hrow (x:=⟨pos,(l.drop pos).take k,b,n⟩) (A:=tkL) rfl h2 h3 h1
  · exact (Below.andThen h.bel b4).grown h2 (by omega) (fun k hk=>Nat.le_of_succ_le (hrow.lo_le hk).1)
  · exact (h2.block w.heap.size (by omega) (fun e=>by have:=(hrow.lo_le e.symm).1;omega)).trans (h.flt.below b4)
theorem SB.cell {T : TypeId} {w wr : World} {l : List UInt8} {pos : Nat} {v : Value} {acc : List Tk} {xs : List Value} (h : SB T w wr l pos v acc xs) : ∃ a c, v = .slice a acc.length c ∧ tkL.list.In wr (fun g => w.heap.size + 1 ≤ g) acc [.slice a acc.length c] := by
  have hl:=h.row.lay
  obtain ⟨a,c,e,r⟩:=hl
  simp at e
  exact ⟨a,c,e,⟨a,c,rfl,r⟩⟩
theorem news4 (w : World) (T : TypeId) (p q r u : Value) : ∀ j x, [p, q, r, u][j]? = some x → (w.alloc (.cells #[p, q, r, u] T)).cell? ((⟨w.heap.size, 0, none⟩ : Addr).add j) = some x := by
  intro j x h
  match j,h with
  | 0,h=>simp at h;subst h;exact cellOf (blockNew w _ _) 0 _ rfl
  | 1,h=>simp at h;subst h;exact cellOf (blockNew w _ _) 1 _ rfl
  | 2,h=>simp at h;subst h;exact cellOf (blockNew w _ _) 2 _ rfl
  | 3,h=>simp at h;subst h;exact cellOf (blockNew w _ _) 3 _ rfl
  | j+4,h=>simp at h
theorem one4 (p : Int) (t : ByteArray) (b : Bool) (n : Int) : ∀ u ∈ [Value.int .i64 p, Value.string t, Value.bool b, Value.int .i64 n], u.oneCell' = true := by
  intro u h
  simp at h
  rcases h with rfl | rfl | rfl | rfl <;> rfl
theorem stored2 {w w2 : World} {B : Nat} {p q : Value} {t : TypeId} (h : Blk w2 B #[p, q] t) (hb : Below w.heap.size w w2) (hB : w.heap.size ≤ B) (a b : Value) :
    Blk ((w2.setCell ⟨B,0,none⟩ a).setCell ⟨B,1,none⟩ b) B #[a,b] t∧Below w.heap.size w ((w2.setCell ⟨B,0,none⟩ a).setCell ⟨B,1,none⟩ b):=by
  refine ⟨?_,(hb.setCell hB _).setCell hB _⟩
  have h1:=blockSet h 0 a
  have h2:=blockSet h1 1 b
  simpa using h2
end Go.Proofs.YtjodmledadbgeacGreatDoor
namespace Go.Proofs.YtjodmledadbgeacGreatDoor
open Go.ChangeShapes Go.WideShapes Go.ChangeAt Go.RowKit
set_option linter.unusedSimpArgs false
set_option linter.unusedVariables false
inductive RS where
  | ok (p:Nat)
  | bad (p:Nat) (x:Nat × Nat)
def RS.at_ : RS → Nat
  | .ok p=>p
  | .bad p _=>p
def RS.c : RS → Nat
  | .ok _=>0
  | .bad _ x=>x.1
def RS.a : RS → Nat
  | .ok _=>0
  | .bad _ x=>x.2
def RS.isOk : RS → Bool
  | .ok _=>true
  | .bad _ _=>false
def RS.fair (s : RS) : Prop := s.isOk = false → s.c ≠ 0
def Eff {α : Type} (op : Nat → PR α) (s s' : RS) (R : α → Prop) : Prop :=
  match s with
  | .bad p x=>s'=.bad p x
  | .ok p=>match op p with
    | .ok (v,p')=>s'=.ok p'∧R v
    | .error x=>∃ q,s'=.bad q x
theorem Eff.imp {α : Type} {f : Nat → PR α} {s s' : RS} {R Q : α → Prop} (h : Eff f s s' R) (hi : ∀ a, R a → Q a) : Eff f s s' Q := by
  cases s with
  | bad p x=>exact h
  | ok p =>
    simp only [Eff] at h ⊢
    split at h
    · exact ⟨h.1,hi _ h.2⟩
    · exact h
theorem Eff.pure {α : Type} {v : α} (s : RS) : Eff (fun p => (.ok (v, p) : PR α)) s s (fun a => a = v) := by cases s <;> simp [Eff]
theorem Eff.bad {α : Type} {f : Nat → PR α} {p : Nat} {x : Nat × Nat} {R : α → Prop} : Eff f (.bad p x) (.bad p x) R := rfl
abbrev Chg (b : Nat) (w w' : World) : Prop := Step (fun k => k = b) (fun k => k = b) w w'
section
variable {b : Nat} {w w' w1 w2 : World}
theorem Chg.refl (b : Nat) (w : World) : Chg b w w := Step.refl _ _
theorem Chg.below (h : Below w.heap.size w w') : Chg b w w' := ⟨h.os, h.tape, h.output, h.size, fun k hk _ => h.block k hk, fun k hk => .inl hk⟩
theorem Chg.set (w : World) (o : Nat) (v : Value) (h : b < w.heap.size) : Chg b w (w.setCell ⟨b, o, none⟩ v) :=
  ⟨rfl,rfl,rfl,by simp,fun k _ hk=>Below.heap_setCell _ _ _ _ hk,fun k hk=>.inl hk⟩
theorem Chg.keep {α : Type} {A : Lay α} {O : Nat → Prop} {x : α} {cs : List Value} (h : A.In w O x cs) (c : Chg b w w') (ho : ∀ k, O k → k ≠ b) : A.In w' O x cs :=
  A.keep (fun k hO hk=>c.block k hk (ho k hO)) (fun _ h _=>h) h
theorem Chg.last {s : Nat} (h : Below s w w1) (c : Chg b w1 w2) (hs : s ≤ b) (hs1 : s ≤ w1.heap.size) : Below s w w2 :=
  ⟨c.os.trans h.os,c.tape.trans h.tape,c.output.trans h.output,Nat.le_trans h.size c.size,fun k hk=>(c.block k (by omega) (by omega)).trans (h.block k hk)⟩
end
structure RAt (w : World) (b : Nat) (l : List Tk) (e : Nat) (s : RS) : Prop where
  blk:∃ p cap,Blk w b #[.slice p l.length cap,.int .i64 e,.int .i64 s.at_,.int .i64 s.c,.int .i64 s.a] 58∧tkL.list.In w (fun g=>g < b) l [.slice p l.length cap]
  le:s.at_≤l.length
  len:l.length≤40000
  fair:s.fair
  rng:∀ x ∈ l,-9223372036854775808≤x.n∧x.n≤9223372036854775807
section
variable {b e : Nat} {w w' : World} {l : List Tk} {s : RS}
theorem RAt.lt (h : RAt w b l e s) : b < w.heap.size := by obtain ⟨p, cap, h1, _⟩ := h.blk; exact h1.lt
theorem RAt.below (h : RAt w b l e s) (hb : Below w.heap.size w w') : RAt w' b l e s := by
  obtain ⟨p,cap,h1,h2⟩:=h.blk
  exact ⟨⟨p,cap,h1.below hb,Lay.below h2 hb⟩,h.le,h.len,h.fair,h.rng⟩
theorem RAt.on {p : Nat} (h : RAt w b l e (.ok p)) (hp : p < l.length) : RAt (w.setCell ⟨b, 2, none⟩ (.int .i64 ((p : Int) + 1))) b l e (.ok (p + 1)) := by
  obtain ⟨q,cap,h1,h2⟩:=h.blk
  refine ⟨⟨q,cap,?_,Lay.setCell h2 (by simp) _⟩,hp,h.len,fun h0=>(by cases h0),h.rng⟩
  have:=blockSet h1 2 (.int .i64 ((p:Int)+1))
  simpa [RS.at_,RS.c,RS.a] using this
theorem RAt.fault {p : Nat} (h : RAt w b l e (.ok p)) (x : Nat × Nat) (hx : x.1 ≠ 0) : RAt ((w.setCell ⟨b, 3, none⟩ (.int .i64 x.1)).setCell ⟨b, 4, none⟩ (.int .i64 x.2)) b l e (.bad p x) := by
  obtain ⟨q,cap,h1,h2⟩:=h.blk
  refine ⟨⟨q,cap,?_,Lay.setCell (Lay.setCell h2 (by simp) _) (by simp) _⟩,h.le,h.len,fun _=>hx,h.rng⟩
  have:=blockSet (blockSet h1 3 (.int .i64 x.1)) 4 (.int .i64 x.2)
  simpa [RS.at_,RS.c,RS.a] using this
end
abbrev ptrP (b : Nat) : Value := .pointer (some ⟨b, 0, none⟩)
structure PAt (w : World) (b : Nat) (l : List Tk) (e : Nat) (p : Nat) : Prop where
  blk:∃ a c,Blk w b #[.slice a (l.drop p).length c,.int .i64 e] 85∧tkL.list.In w (fun g=>g < b) (l.drop p) [.slice a (l.drop p).length c]∧(l.drop p).length≤c
  le:p≤l.length
  len:l.length≤40000
  fine:∀ x ∈ l,x.fine
section
variable {b e p : Nat} {w w' : World} {l : List Tk}
theorem PAt.lt (h : PAt w b l e p) : b < w.heap.size := by obtain ⟨a, c, h1, _⟩ := h.blk; exact h1.lt
theorem PAt.below (h : PAt w b l e p) (hb : Below w.heap.size w w') : PAt w' b l e p := by
  obtain ⟨a,c,h1,h2,h3⟩:=h.blk
  exact ⟨⟨a,c,h1.below hb,Lay.below h2 hb,h3⟩,h.le,h.len,h.fine⟩
theorem PAt.keep (h : PAt w b l e p) (hk : ∀ k, k ≤ b → w'.heap[k]? = w.heap[k]?) : PAt w' b l e p := by
  obtain ⟨a,c,h1,h2,h3⟩:=h.blk
  exact ⟨⟨a,c,(hk b (Nat.le_refl _)).trans h1,Lay.keep _ (fun k hO _=>hk k (Nat.le_of_lt hO)) (fun _ h _=>h) h2,h3⟩,h.le,h.len,h.fine⟩
theorem PAt.set (h : PAt w b l e p) {q : Addr} (hq : b < q.block) (v : Value) : PAt (w.setCell q v) b l e p :=
  h.keep fun k hk=>Below.heap_setCell _ _ _ _ (by omega)
theorem PAt.grown (h : PAt w b l e p) {row : Option Nat} (g : w.grownBy w' row) (hr : ∀ k, row = some k → b < k) : PAt w' b l e p :=
  h.keep fun k hk=>g.block k (Nat.lt_of_le_of_lt hk h.lt) (fun e=>by have:=hr k e.symm;omega)
theorem PAt.none_left (h : PAt w b l e p) (hp : ¬ p < l.length) : ∃ a c, Blk w b #[.slice a 0 c, .int .i64 e] 85 := by
  obtain ⟨a,c,h1,_⟩:=h.blk
  rw [show (l.drop p).length=0 by simp;omega] at h1
  exact ⟨a,c,h1⟩
theorem PAt.tok (h : PAt w b l e p) {x : Tk} (hx : l[p]? = some x) : ∃ g o n c, Blk w b #[.slice (some ⟨g, o, none⟩) (n + 1) c, .int .i64 e] 85 ∧ n + 1 = l.length - p ∧ n + 1 ≤ c ∧ n < 40000 ∧ g < b ∧ w.cell? ⟨g, o, none⟩ = some (.int .i64 x.pos) ∧ w.cell? ⟨g, o + 1, none⟩ = some (.string (str x.text)) ∧ w.cell? ⟨g, o + 2, none⟩ = some (.bool x.num) ∧ w.cell? ⟨g, o + 3, none⟩ = some (.int .i64 x.n) := by
  obtain ⟨a,c,h1,h2,h3⟩:=h.blk
  have hlt:p < l.length:=(List.getElem?_eq_some_iff.1 hx).1
  have hx':(l.drop p)[0]?=some x:=by rw [List.getElem?_drop,Nat.add_zero];exact hx
  obtain ⟨g,o,ds,e1,e2,e3,hc,hd⟩:=Lay.list_at h2 hx'
  have hd':ds=x.cells:=hd
  subst hd';subst e1
  have hl:=h.len
  obtain ⟨n,hn⟩:∃ n,(l.drop p).length=n+1:=⟨l.length - p - 1,by simp;omega⟩
  rw [hn] at h1 h3
  have hn':n+1=l.length - p:=by rw [← hn];simp
  exact ⟨g,o,n,c,h1,hn',h3,by omega,e2,by simpa [Tk.cells] using hc 0 (by decide),by simpa [Tk.cells] using hc 1 (by decide),by simpa [Tk.cells] using hc 2 (by decide),by simpa [Tk.cells] using hc 3 (by decide)⟩
theorem PAt.on (h : PAt w b l e p) {g o n c : Nat} (hb : Blk w b #[.slice (some ⟨g, o, none⟩) (n + 1) c, .int .i64 e] 85) (hp : p < l.length) (v : Value) (hv : v = .slice (if c = 1 then some ⟨g, o, none⟩ else some ⟨g, o + 4, none⟩) n (c - 1)) : PAt (w.setCell ⟨b, 0, none⟩ v) b l e (p + 1) := by
  obtain ⟨a,c',h1,h2,h3⟩:=h.blk
  rw [Blk] at h1 hb
  rw [h1] at hb
  simp at hb
  obtain ⟨rfl,hn,rfl⟩:=hb
  have hlen:(l.drop p).length=n+1:=by simpa using hn
  have hlen1:(l.drop (p+1)).length=n:=by simp at hlen ⊢;omega
  refine ⟨⟨if c'=1 then some ⟨g,o,none⟩ else some ⟨g,o+4,none⟩,c' - 1,?_,?_,by omega⟩,by omega,h.len,h.fine⟩
  · have:=blockSet h1 0 v
    rw [hlen1]
    subst hv
    simpa [Blk] using this
  · rw [hlen1]
    refine ⟨_,_,by rw [hlen1],fun i x hx=>?_⟩
    have hx1:(l.drop p)[i+1]?=some x:=by rw [List.getElem?_drop] at hx ⊢;rw [← hx];congr 1;omega
    have hi:i+1 < (l.drop p).length:=(List.getElem?_eq_some_iff.1 hx1).1
    obtain ⟨g',o',ds,e1,e2,e3,hc,hd⟩:=Lay.list_at h2 hx1
    injection e1 with e1
    injection e1 with e1 e4
    subst e1;subst e4
    refine ⟨g,o+4,ds,by rw [if_neg (by omega)],e2,by simpa using e3,fun j hj=>?_,hd⟩
    have h5:=hc j hj
    rw [World.cell?_of_block (w:=w) (w':=w.setCell ⟨b,0,none⟩ v) (a:=⟨g,o+4+i * tkL.size+j,none⟩) (Below.heap_setCell _ _ _ _ (by show g≠b;omega)),← h5]
    congr 2
    show o+4+i * 4+j=o+(i+1) * 4+j
    omega
end
abbrev gave (c a : Int) : List PanicEntry := [{ v := .iface 81 (.agg #[.int .i64 c, .int .i64 a]), recovered := false }]
def Out {α : Type} (b e : Nat) (l : List Tk) (r : PR α) (w : World) (V : World → α → Value → Prop) (en : Ending) (w' : World) : Prop :=
  (∃ v p' x,r=.ok (v,p')∧en=.returned x∧V w' v x∧PAt w' b l e p'∧Chg b w w') ∨ (∃ y c a,r=.error y∧en=.panicked (gave c a)∧c≠0∧Chg b w w')
theorem Out.good {α : Type} {b e : Nat} {l : List Tk} {r : PR α} {w w' : World} {V : World → α → Value → Prop} {v : α} {p' : Nat} {x : Value} (h : r = .ok (v, p')) (hv : V w' v x) (hp : PAt w' b l e p') (hk : Chg b w w') : Out b e l r w V (.returned x) w' := .inl ⟨v, p', x, h, rfl, hv, hp, hk⟩
theorem Out.bad {α : Type} {b e : Nat} {l : List Tk} {r : PR α} {w w' : World} {V : World → α → Value → Prop} {y : Nat × Nat} {c a : Int} (h : r = .error y) (hc : c ≠ 0) (hk : Chg b w w') : Out b e l r w V (.panicked (gave c a)) w' := .inr ⟨y, c, a, h, rfl, hc, hk⟩
def VUnit : World → Unit → Value → Prop := fun _ _ x => x = .tuple #[]
def VInt : World → Int → Value → Prop := fun _ v x => x = .int .i64 v ∧ 0 ≤ v ∧ v ≤ 1000000
def VLong : World → Int → Value → Prop := fun _ v x => x = .int .i64 v ∧ -9223372036854775808 ≤ v ∧ v ≤ 9223372036854775807
end Go.Proofs.YtjodmledadbgeacGreatDoor
namespace Go.Proofs.YtjodmledadbgeacGreatDoor
open Go.ChangeShapes Go.WideShapes Go.ChangeAt Go.RowKit Go.Shelf
set_option linter.unusedSimpArgs false
set_option linter.unusedVariables false
def nextTk (l : List Tk) (p : Nat) : Tk := (l[p]?).getD ⟨0, [], false, 0⟩
theorem nextTk_some {l : List Tk} {p : Nat} {x : Tk} (h : l[p]? = some x) : nextTk l p = x := by simp [nextTk, h]
theorem nextTk_none {l : List Tk} {p : Nat} (h : ¬ p < l.length) : nextTk l p = ⟨0, [], false, 0⟩ := by
  have:l[p]?=none:=List.getElem?_eq_none (by omega)
  simp [nextTk,this]
theorem nextTk_text (l : List Tk) (p : Nat) : (nextTk l p).text = nextT l p := by
  unfold nextTk nextT
  cases l[p]? <;> rfl
theorem next_any {w : World} {b e p : Nat} {l : List Tk} (h : PAt w b l e p) :
    Calls Tryz.prog 111 #[ptrP b] w fun en w'=>en=.returned (.agg #[.int .i64 (nextTk l p).pos,.string (str (nextTk l p).text),.bool (nextTk l p).num,.int .i64 (nextTk l p).n])∧Below w.heap.size w w':=by
  have hbw:=h.lt
  by_cases hlt:p < l.length
  · have hx:l[p]?=some l[p]:=List.getElem?_eq_getElem hlt
    generalize l[p]=x at hx
    rw [nextTk_some hx]
    obtain ⟨g,o,n,c,h1,hn,hc,hn4,hg,d0,d1,d2,d3⟩:=h.tok hx
    have hgw:g < w.heap.size:=by omega
    have y0:=cellOf h1 0 _ rfl
    have hpos:(0:Int) < (n:Int)+1:=by omega
    have hne:¬ (n:Int)+1=0:=by omega
    clear h h1 hx hn hc hlt
    go_enter Tryz.func111,Tryz.ntmps111
    go_wp2
    exact bodyPost_ret (v:=.agg #[.int .i64 x.pos,.string (str x.text),.bool x.num,.int .i64 x.n]) (by simp [results,Tryz.results111,go_sem]) rfl ⟨rfl,bel1 _ _⟩
  · rw [nextTk_none hlt]
    obtain ⟨a,c,h1⟩:=h.none_left hlt
    have y0:=cellOf h1 0 _ rfl
    clear h h1 hlt
    go_enter Tryz.func111,Tryz.ntmps111
    go_wp2
    exact bodyPost_ret (v:=.agg #[.int .i64 0,.string ⟨#[]⟩,.bool false,.int .i64 0]) (by simp [results,Tryz.results111,go_sem]) rfl ⟨rfl,bel1 _ _⟩
theorem take_any {w : World} {b e p : Nat} {l : List Tk} (h : PAt w b l e p) (hlt : p < l.length) :
    Calls Tryz.prog 112 #[ptrP b] w fun en w'=>en=.returned (.tuple #[])∧PAt w' b l e (p+1)∧Chg b w w':=by
  have hbw:=h.lt
  have hx:l[p]?=some l[p]:=List.getElem?_eq_getElem hlt
  generalize l[p]=x at hx
  obtain ⟨g,o,n,c,h1,hn,hc,hn4,hg,d0,d1,d2,d3⟩:=h.tok hx
  have O:Hid (∀ v,v=.slice (if c=1 then some ⟨g,o,none⟩ else some ⟨g,o+4,none⟩) n (c - 1)→PAt (w.setCell ⟨b,0,none⟩ v) b l e (p+1)):=fun v hv=>h.on h1 hlt v hv
  have K:Hid (∀ v,Chg b w (w.setCell ⟨b,0,none⟩ v)):=fun v=>Chg.set w 0 v hbw
  have y0:=cellOf h1 0 _ rfl
  have z0:=freeOf h1 0
  clear h h1 hx hn d0 d1 d2 d3 hlt
  go_enter Tryz.func112,Tryz.ntmps112
  go_wp2
  all_goals exact bodyPost_end (v:=.tuple #[]) (by simp [results,Tryz.results112,go_sem]) rfl ⟨rfl,O.out _ (by simp [h]),K.out _⟩
theorem giveUp_any {w : World} {b e p : Nat} {l : List Tk} (c0 : Int) (hc0 : c0 ≠ 0) (h : PAt w b l e p) :
    Calls Tryz.prog 106 #[ptrP b,.int .i64 c0] w fun en w'=>(∃ c a:Int,en=.panicked (gave c a)∧c≠0)∧w'=w:=by
  have hbw:=h.lt
  by_cases hlt:p < l.length
  · have hx:l[p]?=some l[p]:=List.getElem?_eq_getElem hlt
    generalize l[p]=x at hx
    obtain ⟨g,o,n,c,h1,hn,hc,hn4,hg,d0,d1,d2,d3⟩:=h.tok hx
    have y0:=cellOf h1 0 _ rfl
    have hpos:(0:Int) < (n:Int)+1:=by omega
    have hne:¬ (n:Int)+1=0:=by omega
    have HC:Hid (c0≠0):=hc0
    clear h h1 hx hn hc hlt d1 d2 d3 hc0
    go_enter Tryz.func106,Tryz.ntmps106
    go_wp2
    exact ⟨rfl,⟨_,_,rfl,HC.out⟩,rfl⟩
  · obtain ⟨a,c,h1⟩:=h.none_left hlt
    have y0:=cellOf h1 0 _ rfl
    have y1:=cellOf h1 1 _ rfl
    clear h h1 hlt hc0
    go_enter Tryz.func106,Tryz.ntmps106
    go_wp2
    exact ⟨rfl,⟨_,_,rfl,by decide⟩,rfl⟩
theorem fldText (a k : Int) (t : ByteArray) (n : Bool) (w : World) : (Instr.field 78 (.agg #[.int .i64 a, .string t, .bool n, .int .i64 k]) 1).run Tryz.prog w = .ok (.string t) w := by kernel_rfl
def TookOut (b e : Nat) (l : List Tk) (p : Nat) (r : Bool) (w : World) (en : Ending) (w' : World) : Prop := en = .returned (.bool r) ∧ PAt w' b l e (if r = true then p + 1 else p) ∧ Chg b w w'
theorem took_any {w : World} {b e p : Nat} {l : List Tk} (t : List UInt8) (ht : wordly t = true) (h : PAt w b l e p) :
    Calls Tryz.prog 89 #[ptrP b,.string (str t)] w fun en w'=>TookOut b e l p (isW l t p) w en w':=by
  have hi:=isW_next (p:=p) ht h.fine
  have hte:=nextTk_text l p
  have H:Hid (PAt w b l e p):=h
  have C:Hid (Calls Tryz.prog 111 #[ptrP b] w fun en w'=>en=.returned (.agg #[.int .i64 (nextTk l p).pos,.string (str (nextTk l p).text),.bool (nextTk l p).num,.int .i64 (nextTk l p).n])∧Below w.heap.size w w'):=next_any h
  generalize nextTk l p=x at hte C
  by_cases hx:x.text=t
  · have hw:isW l t p=true:=by rw [hi,← hte];simpa using hx
    have hlt:Hid (p < l.length):=by obtain ⟨y,hy⟩:=isW_some hw;exact lt_of_tok hy
    have hq:((str x.text).toList == (str t).toList)=true:=by rw [str_beq];simpa using hx
    rw [hw]
    clear h hi hte ht hx hw
    have hfl:=fldText x.pos x.n (str x.text) x.num
    go_enter Tryz.func89,Tryz.ntmps89
    go_wp2_with fail
    refine C.out.mono ?_
    rintro e' w2 ⟨rfl,b2⟩
    have H2:Hid (PAt w2 b l e p):=H.out.below b2
    have K2:Hid (Chg b w w2):=Chg.below b2
    clear C b2 H
    go_wp2_with (go_at_call 112;refine (take_any H2.out hlt.out).mono ?_;rintro e' w3 ⟨rfl,h3,k3⟩;have H3:Hid _:=h3;have K3:Hid _:=k3;clear h3 k3)
    go_ret
    exact ⟨rfl,H3.out,K2.out.trans K3.out⟩
  · have hw:isW l t p=false:=by rw [hi,← hte];simpa using hx
    have hq:((str x.text).toList == (str t).toList)=false:=by rw [str_beq];simpa using hx
    rw [hw]
    clear h hi hte ht hx hw
    have hfl:=fldText x.pos x.n (str x.text) x.num
    go_enter Tryz.func89,Tryz.ntmps89
    go_wp2_with fail
    refine C.out.mono ?_
    rintro e' w2 ⟨rfl,b2⟩
    have H2:Hid (PAt w2 b l e p):=H.out.below b2
    have K2:Hid (Chg b w w2):=Chg.below b2
    clear C b2 H
    go_wp2
    go_ret
    exact ⟨rfl,H2.out,K2.out⟩
theorem pmust_any {w : World} {b e p : Nat} {l : List Tk} (t : List UInt8) (ht : wordly t = true) (h : PAt w b l e p) :
    Calls Tryz.prog 86 #[ptrP b,.string (str t)] w fun en w'=>Out b e l (mustP l e t p) w VUnit en w':=by
  have C:Hid (Calls Tryz.prog 89 #[ptrP b,.string (str t)] w fun en w'=>TookOut b e l p (isW l t p) w en w'):=took_any t ht h
  cases hw:isW l t p with
  | true =>
    rw [hw] at C
    have hm:Hid (mustP l e t p=.ok ((),p+1)):=by show _=_;simp [mustP,hw]
    clear h ht hw
    go_enter Tryz.func86,Tryz.ntmps86
    go_wp2_with fail
    refine C.out.mono ?_
    rintro e' w2 ⟨rfl,h2,k2⟩
    have H2:Hid (PAt w2 b l e (p+1)):=h2
    have K2:Hid (Chg b w w2):=k2
    clear C h2 k2
    go_wp2
    exact bodyPost_end (v:=.tuple #[]) (by simp [results,Tryz.results86,go_sem]) rfl (Out.good hm.out rfl H2.out K2.out)
  | false =>
    rw [hw] at C
    have hm:Hid (mustP l e t p=.error (wrongAt l e 4 p)):=by show _=_;simp [mustP,hw]
    clear h ht hw
    go_enter Tryz.func86,Tryz.ntmps86
    go_wp2_with fail
    refine C.out.mono ?_
    rintro e' w2 ⟨rfl,h2,k2⟩
    have H2:Hid (PAt w2 b l e p):=h2
    have K2:Hid (Chg b w w2):=k2
    clear C h2 k2
    go_wp2_with (go_at_call 106;refine (giveUp_any 4 (by decide) H2.out).mono ?_;rintro e' w3 ⟨⟨c,a,rfl,hc⟩,rfl⟩)
    exact ⟨rfl,Out.bad hm.out hc K2.out⟩
theorem nextTk_num {l : List Tk} {p : Nat} (h : (nextTk l p).num = true) : l[p]? = some (nextTk l p) := by
  unfold nextTk at h ⊢
  cases hx:l[p]? with
  | none=>rw [hx] at h;cases h
  | some x=>rfl
theorem long_yes {l : List Tk} {e p : Nat} (h : (nextTk l p).num = true) : longP l e p = .ok ((nextTk l p).n, p + 1) := by
  have hx:=nextTk_num h
  simp only [longP,hx,h,if_true]
theorem long_no {l : List Tk} {e p : Nat} (h : (nextTk l p).num = false) : longP l e p = .error (wrongAt l e 4 p) := by
  unfold nextTk at h
  unfold longP
  cases hx:l[p]? with
  | none=>rfl
  | some x=>rw [hx] at h;simp at h;simp [h]
theorem num_out {l : List Tk} {e p : Nat} (h : (nextTk l p).num = true) (hn : (nextTk l p).n < 0 ∨ 1000000 < (nextTk l p).n) : ∃ x, numP l e p = .error x := by
  have hx:=nextTk_num h
  simp only [numP,hx]
  rw [if_pos ⟨h,hn⟩]
  exact ⟨_,rfl⟩
theorem num_in {l : List Tk} {e p : Nat} (h : (nextTk l p).num = false ∨ ¬ ((nextTk l p).n < 0 ∨ 1000000 < (nextTk l p).n)) : numP l e p = longP l e p := by
  unfold numP
  unfold nextTk at h
  cases hx:l[p]? with
  | none=>rfl
  | some x =>
    rw [hx] at h
    simp only [Option.getD_some] at h
    simp only
    rw [if_neg]
    rintro ⟨h1,h2⟩
    rcases h with h | h
    · rw [h] at h1;cases h1
    · exact h h2
theorem Blk.chg {w w' : World} {b B : Nat} {c : Array Value} {t : TypeId} (h : Blk w B c t) (k : Chg b w w') (hb : B ≠ b) : Blk w' B c t := (k.block B h.lt hb).trans h
theorem plong_any {w : World} {b e p : Nat} {l : List Tk} (h : PAt w b l e p) :
    Calls Tryz.prog 134 #[ptrP b] w fun en w'=>Out b e l (longP l e p) w VLong en w':=by
  have H:Hid (PAt w b l e p):=h
  have hbw:=h.lt
  have C:Hid (Calls Tryz.prog 111 #[ptrP b] w fun en w'=>en=.returned (.agg #[.int .i64 (nextTk l p).pos,.string (str (nextTk l p).text),.bool (nextTk l p).num,.int .i64 (nextTk l p).n])∧Below w.heap.size w w'):=next_any h
  cases hn:(nextTk l p).num with
  | true =>
    have hm:Hid (longP l e p=.ok ((nextTk l p).n,p+1)):=long_yes hn
    have hx:=nextTk_num hn
    have hlt:Hid (p < l.length):=lt_of_tok hx
    have hr:Hid (-9223372036854775808≤(nextTk l p).n∧(nextTk l p).n≤9223372036854775807):=(h.fine _ (List.mem_of_getElem? hx)).rng
    generalize nextTk l p=x at hn hm hr C
    rw [hn] at C
    clear h hx
    go_enter Tryz.func134,Tryz.ntmps134
    go_wp2_with fail
    refine C.out.mono ?_
    rintro e' w2 ⟨rfl,b2⟩
    have hs2:=b2.size
    have H2:Hid (PAt w2 b l e p):=H.out.below b2
    have K2:Hid (Chg b w w2):=Chg.below b2
    clear C b2 H
    go_wp2_with fail
    have B3:Hid (Blk (w2.alloc (.cells #[.int .i64 x.pos,.string (str x.text),.bool true,.int .i64 x.n] 78)) w2.heap.size #[.int .i64 x.pos,.string (str x.text),.bool true,.int .i64 x.n] 78):=Blk.new _ _ _
    have H3:Hid (PAt (w2.alloc (.cells #[.int .i64 x.pos,.string (str x.text),.bool true,.int .i64 x.n] 78)) b l e p):=H2.out.below (bel1 _ _)
    have K3:Hid (Chg b w (w2.alloc (.cells #[.int .i64 x.pos,.string (str x.text),.bool true,.int .i64 x.n] 78))):=K2.out.trans (Chg.below (bel1 _ _))
    generalize w2.alloc (.cells #[.int .i64 x.pos,.string (str x.text),.bool true,.int .i64 x.n] 78)=w3 at B3 H3 K3 ⊢
    refine (take_any H3.out hlt.out).mono ?_
    rintro e' w4 ⟨rfl,h4,k4⟩
    have B4:=B3.out.chg k4 (by omega)
    have y3:=cellOf B4 3 _ rfl
    have H4:Hid _:=h4
    have K4:Hid (Chg b w w4):=K3.out.trans k4
    clear B3 H3 K3 h4 k4 H2 K2 B4
    go_wp2
    go_ret
    exact Out.good hm.out ⟨rfl,hr.out⟩ H4.out K4.out
  | false =>
    have hm:Hid (longP l e p=.error (wrongAt l e 4 p)):=long_no hn
    generalize nextTk l p=x at hn C
    rw [hn] at C
    clear h
    go_enter Tryz.func134,Tryz.ntmps134
    go_wp2_with fail
    refine C.out.mono ?_
    rintro e' w2 ⟨rfl,b2⟩
    have hs2:=b2.size
    have H2:Hid (PAt w2 b l e p):=H.out.below b2
    have K2:Hid (Chg b w w2):=Chg.below b2
    clear C b2 H
    go_wp2_with fail
    refine (giveUp_any 4 (by decide) (H2.out.below (bel1 _ _))).mono ?_
    rintro e' w3 ⟨⟨c,a,rfl,hc⟩,rfl⟩
    exact ⟨rfl,Out.bad hm.out hc (K2.out.trans (Chg.below (bel1 _ _)))⟩
theorem pnum_any {w : World} {b e p : Nat} {l : List Tk} (h : PAt w b l e p) :
    Calls Tryz.prog 107 #[ptrP b] w fun en w'=>Out b e l (numP l e p) w VInt en w':=by
  have H:Hid (PAt w b l e p):=h
  have hbw:=h.lt
  have C:Hid (Calls Tryz.prog 111 #[ptrP b] w fun en w'=>en=.returned (.agg #[.int .i64 (nextTk l p).pos,.string (str (nextTk l p).text),.bool (nextTk l p).num,.int .i64 (nextTk l p).n])∧Below w.heap.size w w'):=next_any h
  have inn:(nextTk l p).num=false ∨ ¬ ((nextTk l p).n < 0 ∨ 1000000 < (nextTk l p).n)→∀ {en w1 w'},Chg b w w1→Out b e l (longP l e p) w1 VLong en w'→Out b e l (numP l e p) w VInt en w':=by
    intro hc en w1 w' k hO
    have hne:=num_in (e:=e) hc
    rcases hO with ⟨v,p',x,hr,he,hv,hp,hk⟩ | ⟨y,c,a,hr,he,hc0,hk⟩
    · rw [hr] at hne
      exact .inl ⟨v,p',x,hne,he,⟨hv.1,num_has _ _ _ hne⟩,hp,k.trans hk⟩
    · rw [hr] at hne
      exact .inr ⟨y,c,a,hne,he,hc0,k.trans hk⟩
  cases hn:(nextTk l p).num with
  | true =>
    by_cases h0:(nextTk l p).n < 0
    · obtain ⟨y,hy⟩:=num_out (e:=e) hn (.inl h0)
      have hm:Hid (numP l e p=.error y):=hy
      clear inn hy
      generalize nextTk l p=x at hn C h0
      rw [hn] at C
      clear h
      go_enter Tryz.func107,Tryz.ntmps107
      go_wp2_with fail
      refine C.out.mono ?_
      rintro e' w2 ⟨rfl,b2⟩
      have H2:Hid (PAt w2 b l e p):=H.out.below b2
      have K2:Hid (Chg b w w2):=Chg.below b2
      clear C b2 H
      go_wp2_with fail
      refine (giveUp_any 8 (by decide) (H2.out.below (bel1 _ _))).mono ?_
      rintro e' w3 ⟨⟨c,a,rfl,hc⟩,rfl⟩
      exact ⟨rfl,Out.bad hm.out hc (K2.out.trans (Chg.below (bel1 _ _)))⟩
    · by_cases h1:1000000 < (nextTk l p).n
      · obtain ⟨y,hy⟩:=num_out (e:=e) hn (.inr h1)
        have hm:Hid (numP l e p=.error y):=hy
        clear inn hy
        generalize nextTk l p=x at hn C h0 h1
        rw [hn] at C
        clear h
        go_enter Tryz.func107,Tryz.ntmps107
        go_wp2_with fail
        refine C.out.mono ?_
        rintro e' w2 ⟨rfl,b2⟩
        have H2:Hid (PAt w2 b l e p):=H.out.below b2
        have K2:Hid (Chg b w w2):=Chg.below b2
        clear C b2 H
        go_wp2_with fail
        refine (giveUp_any 8 (by decide) (H2.out.below (bel1 _ _))).mono ?_
        rintro e' w3 ⟨⟨c,a,rfl,hc⟩,rfl⟩
        exact ⟨rfl,Out.bad hm.out hc (K2.out.trans (Chg.below (bel1 _ _)))⟩
      · have I:Hid (∀ {en w1 w'},Chg b w w1→Out b e l (longP l e p) w1 VLong en w'→Out b e l (numP l e p) w VInt en w'):=inn (.inr (fun h=>by rcases h with h | h <;> omega))
        clear inn
        generalize nextTk l p=x at hn C h0 h1
        rw [hn] at C
        clear h
        go_enter Tryz.func107,Tryz.ntmps107
        go_wp2_with fail
        refine C.out.mono ?_
        rintro e' w2 ⟨rfl,b2⟩
        have H2:Hid (PAt w2 b l e p):=H.out.below b2
        have K2:Hid (Chg b w w2):=Chg.below b2
        clear C b2 H
        go_wp2_with fail
        refine (plong_any (H2.out.below (bel1 _ _))).mono ?_
        intro e' w3 hO
        have R:=I.out (K2.out.trans (Chg.below (bel1 _ _))) hO
        rcases hO with ⟨v,p',x',hr,rfl,hv,hp,hk⟩ | ⟨y,c,a,hr,rfl,hc0,hk⟩
        · obtain ⟨rfl,_⟩:=hv
          have R':Hid _:=R
          clear R hp hk hr
          go_wp2
          go_ret
          exact R'.out
        · exact ⟨rfl,R⟩
  | false =>
    have I:Hid (∀ {en w1 w'},Chg b w w1→Out b e l (longP l e p) w1 VLong en w'→Out b e l (numP l e p) w VInt en w'):=inn (.inl hn)
    clear inn
    generalize nextTk l p=x at hn C
    rw [hn] at C
    clear h
    go_enter Tryz.func107,Tryz.ntmps107
    go_wp2_with fail
    refine C.out.mono ?_
    rintro e' w2 ⟨rfl,b2⟩
    have H2:Hid (PAt w2 b l e p):=H.out.below b2
    have K2:Hid (Chg b w w2):=Chg.below b2
    clear C b2 H
    go_wp2_with fail
    refine (plong_any (H2.out.below (bel1 _ _))).mono ?_
    intro e' w3 hO
    have R:=I.out (K2.out.trans (Chg.below (bel1 _ _))) hO
    rcases hO with ⟨v,p',x',hr,rfl,hv,hp,hk⟩ | ⟨y,c,a,hr,rfl,hc0,hk⟩
    · obtain ⟨rfl,_⟩:=hv
      have R':Hid _:=R
      clear R hp hk hr
      go_wp2
      go_ret
      exact R'.out
    · exact ⟨rfl,R⟩
theorem wordAt_low {l : List (List UInt8)} {k : Int} (h : k < 0) : wordAt l k = [] := by rw [wordAt, if_pos (by omega)]
theorem wordAt_high {l : List (List UInt8)} {k : Int} (h : ¬ k < (([] : List UInt8) :: l).length) : wordAt l k = [] := by
  simp at h
  rw [wordAt,if_neg (by omega),List.getD_eq_getElem?_getD,List.getElem?_eq_none (by omega)]
  rfl
theorem wordAt_mid {l : List (List UInt8)} {k : Int} {n : Nat} (h : k = n) (hn : n < (([] : List UInt8) :: l).length) : (([] : List UInt8) :: l)[n]? = some (wordAt l k) := by
  subst h
  cases n with
  | zero=>rfl
  | succ n =>
    simp at hn
    rw [wordAt,if_neg (by omega)]
    simp [List.getElem?_eq_getElem hn,hn]
def StrRow (w : World) (B : Nat) (ws : List (List UInt8)) : Prop := ∀ i t, ws[i]? = some t → w.cell? ⟨B, i, none⟩ = some (.string (str t))
theorem pwordAt_any {w : World} {B N : Nat} {l : List (List UInt8)} (k : Int) (hr : StrRow w B ([] :: l)) (hN : (([] : List UInt8) :: l).length = N) (hsm : N ≤ 1000) :
    Calls Tryz.prog 27 #[.int .i64 k,.slice (some ⟨B,0,none⟩) N N] w fun en w'=>en=.returned (.string (str (wordAt l k)))∧w'=w:=by
  by_cases h0:k < 0
  · rw [wordAt_low h0]
    clear hr hN
    go_enter Tryz.func27,Tryz.ntmps27
    go_wp2
    go_ret
    exact ⟨rfl,rfl⟩
  · by_cases h1:k < N
    · obtain ⟨n,rfl⟩:∃ n:Nat,k=n:=⟨k.toNat,by omega⟩
      have hc:=hr n _ (wordAt_mid (l:=l) rfl (by omega))
      generalize wordAt l (n:Int)=t at hc
      clear hr hN
      go_enter Tryz.func27,Tryz.ntmps27
      go_wp2
      go_ret
      exact ⟨rfl,rfl⟩
    · rw [wordAt_high (by rw [hN];exact h1)]
      clear hr hN
      go_enter Tryz.func27,Tryz.ntmps27
      go_wp2
      go_ret
      exact ⟨rfl,rfl⟩
def Enters (F : Nat) : Prop := ∀ (args : Array Value) (w : World), (callFunc F args).run Tryz.prog w = .ok (.enter F args) w
def WordFn (F : Nat) (ws : List (List UInt8)) : Prop := ∀ (k : Int) (w : World), Calls Tryz.prog F #[.int .i64 k] w fun en w' => en = .returned (.string (str (wordAt ws k))) ∧ Below w.heap.size w w'
def typeWords : List (List UInt8) := [wInt, wHandle, wTuple, wArray]
def endWords : List (List UInt8) := [wJump, wIf, wRet]
theorem strRow_of {w : World} {B : Nat} {ws : List (List UInt8)} {c : Array Value} {t : TypeId} (h : Blk w B c t) (hc : c.toList = ws.map (fun s => .string (str s))) : StrRow w B ws := by
  intro i s hs
  refine cellOf h i _ ?_
  rw [← Array.getElem?_toList,hc,List.getElem?_map,hs]
  rfl
theorem pOp_any : WordFn 9 opWords := by
  intro k w
  go_enter Tryz.func9,Tryz.ntmps9
  go_wp2_with fail
  refine (pwordAt_any (l:=opWords) k (strRow_of (Blk.new _ _ _) rfl) rfl (by decide)).mono ?_
  rintro e' w2 ⟨rfl,rfl⟩
  go_wp2
  go_ret
  exact ⟨rfl,bel1 _ _⟩
theorem pKind_any : WordFn 11 kindWords := by
  intro k w
  go_enter Tryz.func11,Tryz.ntmps11
  go_wp2_with fail
  refine (pwordAt_any (l:=kindWords) k (strRow_of (Blk.new _ _ _) rfl) rfl (by decide)).mono ?_
  rintro e' w2 ⟨rfl,rfl⟩
  go_wp2
  go_ret
  exact ⟨rfl,bel1 _ _⟩
theorem ptypeWord_any : WordFn 136 typeWords := by
  intro k w
  go_enter Tryz.func136,Tryz.ntmps136
  go_wp2_with fail
  refine (pwordAt_any (l:=typeWords) k (strRow_of (Blk.new _ _ _) rfl) rfl (by decide)).mono ?_
  rintro e' w2 ⟨rfl,rfl⟩
  go_wp2
  go_ret
  exact ⟨rfl,bel1 _ _⟩
theorem pendWord_any : WordFn 139 endWords := by
  intro k w
  go_enter Tryz.func139,Tryz.ntmps139
  go_wp2_with fail
  refine (pwordAt_any (l:=endWords) k (strRow_of (Blk.new _ _ _) rfl) rfl (by decide)).mono ?_
  rintro e' w2 ⟨rfl,rfl⟩
  go_wp2
  go_ret
  exact ⟨rfl,bel1 _ _⟩
theorem enters_Op : Enters 9 := fun _ _ => by kernel_rfl
theorem enters_Kind : Enters 11 := fun _ _ => by kernel_rfl
theorem enters_typeWord : Enters 136 := fun _ _ => by kernel_rfl
theorem enters_endWord : Enters 139 := fun _ _ => by kernel_rfl
theorem enters_num : Enters 107 := fun _ _ => by kernel_rfl
theorem enters_types1 : Enters 109 := fun _ _ => by kernel_rfl
theorem str_nil : (str []).toList.isEmpty = true := by rw [Lib.toList_data, str_list]; rfl
theorem str_cons {t : List UInt8} (h : t ≠ []) : (str t).toList.isEmpty = false := by
  rw [Lib.toList_data,str_list]
  simpa using h
theorem pwhich_any {w : World} {b e p : Nat} {l : List Tk} (F : Nat) (ws : List (List UInt8)) (hE : Enters F) (hF0 : WordFn F ws) (hw0 : ∀ t ∈ ws, wordly t = true) (hn : ws.length ≤ 1000) (h : PAt w b l e p) :
    Calls Tryz.prog 113 #[ptrP b,.func (.func F) #[] #[]] w fun en w'=>en=.returned (.int .i64 (whichP l ws p))∧Below w.heap.size w w':=by
  have H:Hid (PAt w b l e p):=h
  have HF:Hid (WordFn F ws):=hF0
  have HW:Hid (∀ t ∈ ws,isW l t p=decide (nextT l p=t)∧t≠[]):=fun t ht=>⟨isW_next (hw0 t ht) h.fine,fun e=>by have:=hw0 t ht;rw [e] at this;cases this⟩
  unfold Enters at hE
  clear h hF0 hw0
  go_enter Tryz.func113,Tryz.ntmps113
  go_wp2_with fail
  go_loopw [5] (fun v wr=>∃ k:Nat,v=.int .i64 ((k:Int)+1)∧k≤ws.length∧Below w.heap.size w wr∧∀ (j:Nat) (t:List UInt8),j < k→ws[j]?=some t→isW l t p=false) (fun v _=>ws.length+1 - (intOf v).toNat)
  case atStart=>exact ⟨0,rfl,Nat.zero_le _,Below.refl _ _,fun j t hj=>by omega⟩
  case round =>
    obtain ⟨k,rfl,hk,hb,hj⟩:=hrel
    have B:Hid (Below w.heap.size w wr):=hb
    have J:Hid (∀ (j:Nat) (t:List UInt8),j < k→ws[j]?=some t→isW l t p=false):=hj
    clear hb hj
    go_wp2_with fail
    refine (HF.out _ wr).mono ?_
    rintro e' w2 ⟨rfl,b2⟩
    have B2:Hid (Below w.heap.size w w2):=Below.andThen B.out b2
    by_cases hlt:k < ws.length
    · obtain ⟨t,ht⟩:∃ t,ws[k]?=some t:=⟨_,List.getElem?_eq_getElem hlt⟩
      have hwa:wordAt ws ((k:Int)+1)=t:=by rw [wordAt,if_neg (by omega),List.getD_eq_getElem?_getD,show ((k:Int)+1).toNat - 1=k by omega,ht];rfl
      have HT:Hid (ws[k]?=some t):=ht
      obtain ⟨hi,hne⟩:=HW.out t (List.mem_of_getElem? ht)
      have hq0:(str t).toList.isEmpty=false:=str_cons hne
      have HWA:Hid (wordAt ws ((k:Int)+1)=t):=hwa
      rw [hwa]
      clear b2 B ht hwa hne
      go_wp2_with fail
      have H2:Hid (PAt w2 b l e p):=H.out.below (B2.out.mono (Nat.le_refl _))
      refine (next_any H2.out).mono ?_
      rintro e' w3 ⟨rfl,b3⟩
      have B3:Hid (Below w.heap.size w w3):=Below.andThen B2.out b3
      have hfl:=fldText (nextTk l p).pos (nextTk l p).n (str (nextTk l p).text) (nextTk l p).num
      have hte:=nextTk_text l p
      clear B2 H2 b3
      generalize nextTk l p=x at hfl hte ⊢
      have HTE:Hid (x.text=nextT l p):=hte
      clear hte
      go_wp2_with fail
      refine (HF.out _ w3).mono ?_
      rintro e' w4 ⟨rfl,b4⟩
      have B4:Hid (Below w.heap.size w w4):=Below.andThen B3.out b4
      rw [HWA.out]
      clear B3 b4
      have hte:=HTE.out
      clear HTE
      by_cases hx:x.text=t
      · have hq:((str x.text).toList == (str t).toList)=true:=by rw [str_beq];simpa using hx
        have Z:Hid (whichP l ws p=k+1):=which_hit HT.out (by rw [hi,← hte];simpa using hx) J.out
        clear hx hte hi
        go_wp2_with fail
        go_ret
        exact ⟨by rw [Z.out];rfl,B4.out⟩
      · have hq:((str x.text).toList == (str t).toList)=false:=by rw [str_beq];simpa using hx
        have Z:Hid (∀ (j:Nat) (s:List UInt8),j < k+1→ws[j]?=some s→isW l s p=false):=fun j s hj hs=>by
          by_cases hjk:j=k
          · subst hjk
            rw [HT.out] at hs
            injection hs with hs
            subst hs
            rw [hi,← hte];simpa using hx
          · exact J.out j s (by omega) hs
        clear hx hte hi
        go_wp2_with fail
        go_roundw
        case rel=>exact ⟨k+1,by simp,hlt,B4.out,Z.out⟩
        case measure=>simp [intOf];omega
    · have hwa:wordAt ws ((k:Int)+1)=[]:=wordAt_high (by simp;omega)
      rw [hwa]
      have hq0:=str_nil
      have Z:Hid (whichP l ws p=0):=which_no fun j t hj=>J.out j t (by have:=(List.getElem?_eq_some_iff.1 hj).1;omega) hj
      clear b2 B hwa
      go_wp2_with fail
      go_ret
      exact ⟨by rw [Z.out];rfl,B2.out⟩
def WhichOut (k : Nat) (w : World) (en : Ending) (w' : World) : Prop := (k ≠ 0 ∧ en = .returned (.int .i64 k) ∧ Below w.heap.size w w') ∨ (k = 0 ∧ (∃ c a : Int, en = .panicked (gave c a) ∧ c ≠ 0) ∧ Below w.heap.size w w')
theorem pmustWhich_any {w : World} {b e p : Nat} {l : List Tk} (F : Nat) (ws : List (List UInt8)) (hE : Enters F) (hF0 : WordFn F ws) (hw0 : ∀ t ∈ ws, wordly t = true) (hn : ws.length ≤ 1000) (h : PAt w b l e p) :
    Calls Tryz.prog 135 #[ptrP b,.func (.func F) #[] #[]] w fun en w'=>WhichOut (whichP l ws p) w en w':=by
  have H:Hid (PAt w b l e p):=h
  have C:Hid (Calls Tryz.prog 113 #[ptrP b,.func (.func F) #[] #[]] w fun en w'=>en=.returned (.int .i64 (whichP l ws p))∧Below w.heap.size w w'):=pwhich_any F ws hE hF0 hw0 hn h
  have hle:whichP l ws p≤ws.length:=which_le ws
  generalize whichP l ws p=k at C hle ⊢
  clear h hF0 hw0 hE
  by_cases hk:k=0
  · subst hk
    go_enter Tryz.func135,Tryz.ntmps135
    go_wp2_with fail
    refine C.out.mono ?_
    rintro e' w2 ⟨rfl,b2⟩
    have B2:Hid (Below w.heap.size w w2):=b2
    clear b2 C
    go_wp2_with (go_at_call 106;refine (giveUp_any 4 (by decide) (H.out.below B2.out)).mono ?_;rintro e' w3 ⟨⟨c,a,rfl,hc⟩,rfl⟩)
    exact ⟨rfl,.inr ⟨rfl,⟨c,a,rfl,hc⟩,B2.out⟩⟩
  · have hk':¬ (k:Int)=0:=by omega
    go_enter Tryz.func135,Tryz.ntmps135
    go_wp2_with fail
    refine C.out.mono ?_
    rintro e' w2 ⟨rfl,b2⟩
    have B2:Hid (Below w.heap.size w w2):=b2
    clear b2 C
    go_wp2
    go_ret
    exact .inl ⟨hk,rfl,B2.out⟩
theorem opWords_wordly : ∀ t ∈ opWords, wordly t = true := by decide
theorem kindWords_wordly : ∀ t ∈ kindWords, wordly t = true := by decide
theorem typeWords_wordly : ∀ t ∈ typeWords, wordly t = true := by decide
theorem endWords_wordly : ∀ t ∈ endWords, wordly t = true := by decide
abbrev Chg2 (b B : Nat) (w w' : World) : Prop := Step (fun k => k = b ∨ k = B) (fun k => k = b ∨ k = B) w w'
section
variable {b B : Nat} {w w' w0 : World}
theorem Chg2.refl (b B : Nat) (w : World) : Chg2 b B w w := Step.refl _ _
theorem Chg2.of (h : Chg b w w') : Chg2 b B w w' := ⟨h.os, h.tape, h.output, h.size, fun k hk hn => h.block k hk (fun e => hn (.inl e)), fun k hk => .inl hk⟩
theorem Chg2.set (w : World) (o : Nat) (v : Value) : Chg2 b B w (w.setCell ⟨B, o, none⟩ v) :=
  ⟨rfl,rfl,rfl,by simp,fun k _ hk=>Below.heap_setCell _ _ _ _ (fun e=>hk (.inr e)),fun k hk=>.inl hk⟩
theorem Chg2.new (h : Chg b w0 w) (h2 : Chg2 b B w w') (hB : w0.heap.size ≤ B) : Chg b w0 w' :=
  ⟨h2.os.trans h.os,h2.tape.trans h.tape,h2.output.trans h.output,Nat.le_trans h.size h2.size,fun k hk hn=>(h2.block k (Nat.lt_of_lt_of_le hk h.size) (fun e=>by rcases e with e | e;exact hn e;omega)).trans (h.block k hk hn),fun k hk=>.inl hk⟩
theorem Blk.chg2 {g : Nat} {c : Array Value} {t : TypeId} (h : Blk w g c t) (k : Chg2 b B w w') (h1 : g ≠ b) (h2 : g ≠ B) : Blk w' g c t := (k.block g h.lt (fun e => by rcases e with e | e; exact h1 e; exact h2 e)).trans h
theorem Chg2.keep {α : Type} {A : Lay α} {O : Nat → Prop} {x : α} {cs : List Value} (h : A.In w O x cs) (c : Chg2 b B w w') (ho : ∀ k, O k → k < w.heap.size → k ≠ b ∧ k ≠ B) : A.In w' O x cs :=
  A.keep (fun k hO hk=>c.block k hk (fun e=>by rcases e with e | e;exact (ho k hO hk).1 e;exact (ho k hO hk).2 e)) (fun _ h _=>h) h
end
def numsP (l : List Tk) (e : Nat) : Nat → Nat → PR (List Int)
  | 0,p=>.ok ([],p)
  | n+1,p=>PR.andThen (numP l e p) fun x p1=>PR.andThen (numsP l e n p1) fun xs p2=>.ok (x::xs,p2)
def putAll (cs : Array Value) : List Nat → List Int → Array Value
  | o::os,x::xs=>putAll (cs.setIfInBounds o (.int .i64 x)) os xs
  | _,_=>cs
theorem PR.behind_nil {α : Type} (r : PR (List α)) : r.behind [] = r := by
  cases r with
  | error x=>rfl
  | ok y=>obtain ⟨ys,q⟩:=y;rfl
structure NumsQ (l : List Tk) (e : Nat) (offs : List Nat) (cs : Array Value) (p : Nat) (i : Nat) (pi : Nat) (ci : Array Value) (xs : List Int) : Prop where
  rest:numsP l e offs.length p=(numsP l e (offs.length - i) pi).behind xs
  put:∀ ys,putAll cs offs (xs++ys)=putAll ci (offs.drop i) ys
  size:ci.size=cs.size
  ok:∀ x ∈ xs,0≤x∧x≤1000000
section
variable {l : List Tk} {e p i pi : Nat} {offs : List Nat} {cs ci : Array Value} {xs : List Int}
theorem NumsQ.start : NumsQ l e offs cs p 0 p cs [] := ⟨by rw [PR.behind_nil]; rfl, fun ys => rfl, rfl, fun x h => by simp at h⟩
theorem NumsQ.bad {y : Nat × Nat} (h : NumsQ l e offs cs p i pi ci xs) (hi : i < offs.length) (hy : numP l e pi = .error y) : numsP l e offs.length p = .error y := by
  rw [h.rest,show offs.length - i=(offs.length - (i+1))+1 by omega,numsP,hy];rfl
theorem NumsQ.go {o : Nat} {v : Int} {p2 : Nat} (h : NumsQ l e offs cs p i pi ci xs) (ho : offs[i]? = some o) (hv : numP l e pi = .ok (v, p2)) : NumsQ l e offs cs p (i + 1) p2 (ci.setIfInBounds o (.int .i64 v)) (xs ++ [v]) := by
  have hi:i < offs.length:=(List.getElem?_eq_some_iff.1 ho).1
  refine ⟨?_,fun ys=>?_,by simpa using h.size,fun x hx=>?_⟩
  · rw [h.rest,show offs.length - i=(offs.length - (i+1))+1 by omega,numsP,hv,PR.ok_andThen]
    cases numsP l e (offs.length - (i+1)) p2 with
    | error x=>rfl
    | ok y=>obtain ⟨ys,q⟩:=y;simp [PR.behind,PR.andThen]
  · rw [List.append_assoc,h.put,List.singleton_append,List.drop_eq_getElem_cons hi,(List.getElem?_eq_some_iff.1 ho).2]
    rfl
  · rcases List.mem_append.1 hx with hx | hx
    · exact h.ok x hx
    · simp at hx;subst hx;exact num_has _ _ _ hv
theorem NumsQ.stop (h : NumsQ l e offs cs p i pi ci xs) (hi : ¬ i < offs.length) : numsP l e offs.length p = .ok (xs, pi) ∧ ci = putAll cs offs xs := by
  have h0:offs.length - i=0:=by omega
  refine ⟨by rw [h.rest,h0];simp [numsP,PR.behind],?_⟩
  have:=h.put []
  rw [List.append_nil,List.drop_of_length_le (by omega)] at this
  rw [this];cases ci;rfl
end
def NumsOut (b B e : Nat) (l : List Tk) (offs : List Nat) (cs : Array Value) (T : TypeId) (p : Nat) (w : World) (en : Ending) (w' : World) : Prop :=
  (∃ xs p',numsP l e offs.length p=.ok (xs,p')∧en=.returned (.tuple #[])∧(∀ x ∈ xs,0≤x∧x≤1000000)∧Blk w' B (putAll cs offs xs) T∧PAt w' b l e p'∧Chg2 b B w w') ∨ (∃ y c a,numsP l e offs.length p=.error y∧en=.panicked (gave c a)∧c≠0∧Chg2 b B w w')
theorem pnums_any {w : World} {b B g e p : Nat} {l : List Tk} {offs : List Nat} {cs : Array Value} {T : TypeId} {N : Nat} (h : PAt w b l e p) (hB : Blk w B cs T) (hg : Blk w g (offs.map (fun o => Value.pointer (some ⟨B, o, none⟩))).toArray 131) (hbB : b < B) (hgB : B ≠ g) (hbg : b < g) (ho : ∀ o ∈ offs, o < cs.size) (hN : offs.length = N) (hN3 : N ≤ 1000) :
    Calls Tryz.prog 87 #[ptrP b,.slice (some ⟨g,0,none⟩) N N] w fun en w'=>NumsOut b B e l offs cs T p w en w':=by
  have H:Hid (PAt w b l e p):=h
  have HB:Hid (Blk w B cs T):=hB
  have HG:Hid (Blk w g (offs.map (fun o=>Value.pointer (some ⟨B,o,none⟩))).toArray 131):=hg
  have HO:Hid (∀ o ∈ offs,o < cs.size):=ho
  have HN:Hid (offs.length=N):=hN
  clear h hB hg ho hN
  go_enter Tryz.func87,Tryz.ntmps87
  go_wp2_with fail
  go_loopw [8] (fun v wr=>∃ (i pi:Nat) (ci:Array Value) (xs:List Int),v=.int .i64 i∧i≤N∧NumsQ l e offs cs p i pi ci xs∧PAt wr b l e pi∧Blk wr B ci T∧Chg2 b B w wr) (fun v _=>N - (intOf v).toNat)
  case atStart=>exact ⟨0,p,cs,[],rfl,Nat.zero_le _,NumsQ.start,H.out,HB.out,Chg2.refl _ _ _⟩
  case round =>
    obtain ⟨i,pi,ci,xs,rfl,hi,hq,hp,hb,hk⟩:=hrel
    have Q:Hid (NumsQ l e offs cs p i pi ci xs):=hq
    have P:Hid (PAt wr b l e pi):=hp
    have B1:Hid (Blk wr B ci T):=hb
    have K:Hid (Chg2 b B w wr):=hk
    clear hq hp hb hk
    by_cases hlt:i < N
    · obtain ⟨o,ho⟩:∃ o,offs[i]?=some o:=⟨_,List.getElem?_eq_getElem (by rw [HN.out];exact hlt)⟩
      have HO1:Hid (offs[i]?=some o):=ho
      have hoc:Hid (o < ci.size):=by rw [Q.out.size];exact HO.out o (List.mem_of_getElem? ho)
      have hlt':(i:Int) < N:=by omega
      have y:wr.cell? ⟨g,i,none⟩=some (.pointer (some ⟨B,o,none⟩)):=cellOf (HG.out.chg2 K.out (by omega) (by omega)) i _ (by simp [ho])
      clear ho
      go_wp2_with fail
      refine (pnum_any P.out).mono ?_
      intro e' w3 hO
      rcases hO with ⟨v,p2,x,hr,rfl,⟨rfl,hv0,hv1⟩,hp2,hk2⟩ | ⟨y,c,a,hr,rfl,hc,hk2⟩
      · have B3:=B1.out.chg hk2 (by omega)
        obtain ⟨old,hold⟩:∃ u,ci[o]?=some u:=⟨_,Array.getElem?_eq_getElem hoc.out⟩
        have y3:=cellOf B3 o _ hold
        have z3:=freeOf B3 o
        have U:Hid (NumsQ l e offs cs p (i+1) p2 (ci.setIfInBounds o (.int .i64 v)) (xs++[v])∧PAt (w3.setCell ⟨B,o,none⟩ (.int .i64 v)) b l e p2∧Blk (w3.setCell ⟨B,o,none⟩ (.int .i64 v)) B (ci.setIfInBounds o (.int .i64 v)) T∧Chg2 b B w (w3.setCell ⟨B,o,none⟩ (.int .i64 v))) :=
          ⟨Q.out.go HO1.out hr,hp2.set hbB _,blockSet B3 o _,(K.out.trans (Chg2.of hk2)).trans (Chg2.set w3 o _)⟩
        clear Q P B1 K hr hp2 hk2 B3 hold HO1 y hoc
        go_wp2
        go_roundw
        case rel=>exact ⟨i+1,p2,_,_,by simp,hlt,U.out⟩
        case measure=>simp [intOf];omega
      · exact ⟨rfl,.inr ⟨y,c,a,Q.out.bad (by rw [HN.out];exact hlt) hr,rfl,hc,K.out.trans (Chg2.of hk2)⟩⟩
    · have hlt':¬ (i:Int) < N:=by omega
      have Z:=Q.out.stop (by rw [HN.out];exact hlt)
      have U:Hid (NumsOut b B e l offs cs T p w (.returned (.tuple #[])) wr):=.inl ⟨xs,pi,Z.1,rfl,Q.out.ok,by rw [← Z.2];exact B1.out,P.out,K.out⟩
      clear Z Q P B1 K
      go_wp2
      exact bodyPost_end (v:=.tuple #[]) (by simp [results,Tryz.results87,go_sem]) rfl U.out
theorem ARow.chgP {α : Type} {A : Lay α} {t : TypeId} {w w' : World} {lo b : Nat} {v : Value} {l : List α} {xs : List Value} (h : ARow A t w lo v l xs) (c : Chg b w w') (hb : b < lo) : ARow A t w' lo v l xs := by
  obtain ⟨⟨h1,h2⟩,h3⟩:=h
  refine ⟨⟨h1,?_⟩,fun i x hx=>Chg.keep (h3 i x hx) c (fun k hk=>by have:=hk.1;omega)⟩
  rcases h2 with h4 | ⟨g,cap,cur,e,hg,hh,r⟩
  · exact Or.inl h4
  · exact Or.inr ⟨g,cap,cur,e,hg,(c.block g (lt_of_block hh) (by omega)).trans hh,r⟩
theorem Chg.allocP {b : Nat} {w w' : World} (c : Chg b w w') (o : Obj) : Chg b w (w'.alloc o) := c.trans (Chg.below (bel1 _ _))
theorem Chg.grownP {b : Nat} {w w1 w2 : World} {row : Option Nat} (c : Chg b w w1) (g : w1.grownBy w2 row) (hr : ∀ k, row = some k → w.heap.size ≤ k) : Chg b w w2 :=
  ⟨g.os.trans c.os,g.tape.trans c.tape,g.output.trans c.output,Nat.le_trans c.size g.size,fun k hk hn=>(g.block k (Nat.lt_of_lt_of_le hk c.size) (fun e=>by have:=hr k e.symm;omega)).trans (c.block k hk hn),fun k hk=>.inl hk⟩
def lenP (v : Value) : Nat :=
  match v with
  | .slice _ n _=>n
  | _=>0
theorem ARow.formP {α : Type} {A : Lay α} {t : TypeId} {w : World} {lo : Nat} {v : Value} {l : List α} {xs : List Value} (h : ARow A t w lo v l xs) : ∃ a c, v = .slice a l.length c := by
  obtain ⟨a,c,e,_⟩:=h.lay
  simp at e
  exact ⟨a,c,e⟩
theorem pUnderI : Tryz.prog.underlying 39 = some (.slice 3) := by kernel_rfl
theorem pInfoI0 : (Tryz.prog.info? 3).map (fun i => (i.zero, i.size, i.bytes)) = some (some (.int .i64 0), 1, 8) := by kernel_rfl
theorem pInfoI : ∃ i, Tryz.prog.info? 3 = some i ∧ i.zero = some (.int .i64 0) ∧ i.size = 1 ∧ i.bytes = 8 := by
  have h:=pInfoI0
  cases e:Tryz.prog.info? 3 with
  | none=>rw [e] at h;cases h
  | some i =>
    rw [e] at h
    simp only [Option.map_some,Option.some.injEq,Prod.mk.injEq] at h
    exact ⟨i,rfl,h.1,h.2.1,h.2.2⟩
theorem pUnderT : Tryz.prog.underlying 35 = some (.slice 74) := by kernel_rfl
theorem pInfoT0 : (Tryz.prog.info? 74).map (fun i => (i.zero, i.size, i.bytes)) = some (some (.agg #[.int .i64 0, .int .i64 0, .slice none 0 0]), 3, 40) := by kernel_rfl
theorem pInfoT : ∃ i, Tryz.prog.info? 74 = some i ∧ i.zero = some (.agg #[.int .i64 0, .int .i64 0, .slice none 0 0]) ∧ i.size = 3 ∧ i.bytes = 40 := by
  have h:=pInfoT0
  cases e:Tryz.prog.info? 74 with
  | none=>rw [e] at h;cases h
  | some i =>
    rw [e] at h
    simp only [Option.map_some,Option.some.injEq,Prod.mk.injEq] at h
    exact ⟨i,rfl,h.1,h.2.1,h.2.2⟩
theorem newsP (w : World) (c : List Value) (t : TypeId) : ∀ (j : Nat) (u : Value), c[j]? = some u → (w.alloc (.cells c.toArray t)).cell? ((⟨w.heap.size, 0, none⟩ : Addr).add j) = some u := by
  intro j u h
  have h2:c.toArray[j]?=some u:=by simpa using h
  rw [Go.WideShapes.add_plain,Nat.zero_add]
  exact cellOf (blockNew w c.toArray t) j u h2
def VInts (w0 : World) : World → List Int → Value → Prop := fun w' xs x => ∃ a c, x = .slice a xs.length c ∧ intsL.In w' (fun g => w0.heap.size ≤ g) xs [.slice a xs.length c]
theorem pOneI (n : Int) : ∀ u ∈ [Value.int .i64 n], u.oneCell' = true := by
  intro u h
  simp at h
  subst h;rfl
theorem plistI_any {w : World} {b e p : Nat} {l : List Tk} (beg fin : List UInt8) (hbeg : wordly beg = true) (hfin : wordly fin = true) (h : PAt w b l e p) :
    Calls Tryz.prog 158 #[ptrP b,.string (str beg),.string (str fin),.func (.func 107) #[ptrP b] #[]] w fun en w'=>Out b e l (inP l e (numP l e) beg fin p) w (VInts w) en w':=by
  have hbw:=h.lt
  have H:Hid (PAt w b l e p):=h
  have hE:=enters_num
  unfold Enters at hE
  obtain ⟨i0,hi,hz0,hz1,hz2⟩:=pInfoI
  clear h
  go_enter Tryz.func158,Tryz.ntmps158
  go_wp2_with fail
  refine (pmust_any beg hbeg H.out).mono ?_
  intro e' w1 hO
  rcases hO with ⟨⟨⟩,p1,x,m1,rfl,rfl,r1,k1⟩ | ⟨y,c,a,m1,rfl,hc,k1⟩
  rotate_left
  · exact ⟨rfl,Out.bad (in_bad0 m1) hc k1⟩
  have M1:Hid (mustP l e beg p=.ok ((),p1)):=m1
  have R1:Hid (PAt w1 b l e p1):=r1
  have K1:Hid (Chg b w w1):=k1
  clear m1 r1 k1 H
  go_wp2_with fail
  refine (took_any fin hfin R1.out).mono ?_
  intro e' w2 hO
  cases hw:isW l fin p1 with
  | true =>
    rw [hw] at hO
    obtain ⟨rfl,r2,k2⟩:=hO
    have Z:Hid (Out b e l (inP l e (numP l e) beg fin p) w (VInts w) (.returned (.slice none 0 0)) w2):=Out.good (in_none M1.out hw) ⟨none,0,rfl,Lay.list_nil _ _ _ _ _⟩ r2 (K1.out.trans k2)
    clear r2 k2 hw M1 R1 K1
    go_wp2
    go_ret
    exact Z.out
  | false =>
    rw [hw] at hO
    obtain ⟨rfl,r2,k2⟩:=hO
    have S2:Hid (LstQ l e (numP l e) fin p1 p1 []):=LstQ.start hw
    have R2:Hid (PAt w2 b l e p1):=r2
    have K2:Hid (Chg b w w2):=K1.out.trans k2
    clear r2 k2 hw R1 K1
    go_wp2_with fail
    go_loopw [9] (fun v wr=>∃ xs cs p2,ARow Lay.int 3 wr w.heap.size v xs cs∧PAt wr b l e p2∧Chg b w wr∧LstQ l e (numP l e) fin p1 p2 xs) (fun v _=>102 - lenP v)
    case atStart=>exact ⟨[],[],p1,ARow.nil _ _ _ _,R2.out,K2.out,S2.out⟩
    case round =>
      obtain ⟨xs,cs,p2,hrow,hr,hk,hl⟩:=hrel
      obtain ⟨a,c,rfl⟩:=hrow.formP
      have A2:Hid (ARow Lay.int 3 wr w.heap.size (.slice a xs.length c) xs cs):=hrow
      have R2:Hid (PAt wr b l e p2):=hr
      have K2:Hid (Chg b w wr):=hk
      have L2:Hid (LstQ l e (numP l e) fin p1 p2 xs):=hl
      have hn:xs.length≤100:=hl.le
      clear hrow hr hk hl S2
      go_wp2_with fail
      refine (pnum_any R2.out).mono ?_
      intro e' w4 hO
      rcases hO with ⟨n,p3,x,m3,rfl,⟨rfl,hn0,hn1⟩,r4,k4⟩ | ⟨y,c',a',m3,rfl,hc,k4⟩
      rotate_left
      · exact ⟨rfl,Out.bad (in_bad M1.out (L2.out.bad m3)) hc (K2.out.trans k4)⟩
      have M3:Hid (numP l e p2=.ok (n,p3)):=m3
      have A4:Hid (ARow Lay.int 3 w4 w.heap.size (.slice a xs.length c) xs cs):=A2.out.chgP k4 hbw
      have R4:Hid (PAt w4 b l e p3):=r4
      have K4:Hid (Chg b w w4):=K2.out.trans k4
      have hsz:=K4.out.size
      have hown:Hid (w4.ownsRow w.heap.size 3 1 (.slice a xs.length c) xs.length cs):=A4.out.own
      have PU:Hid (∀ g cap w9,w9.ownsRow w.heap.size 3 1 (.slice (some ⟨g,0,none⟩) (xs.length+1) cap) (xs.length+1) (cs++[.int .i64 n])→(w4.alloc (.cells #[.int .i64 n] 3)).grownBy w9 (Value.slice a xs.length c).ownBlock→((Value.slice a xs.length c).ownBlock=some g ∨ g=w4.heap.size+1) →
          (∃ cs',ARow Lay.int 3 w9 w.heap.size (.slice (some ⟨g,0,none⟩) (xs.length+1) cap) (xs++[n]) cs')∧PAt w9 b l e p3∧Chg b w w9):=by
        intro g cap w9 h1 h2 h3
        have b5:Below w4.heap.size w4 (w4.alloc (.cells #[.int .i64 n] 3)):=bel1 _ _
        have A5:=A4.out.below b5
        refine ⟨⟨_,ARow.push A5 (x:=n) (Lay.int_mk _ _ ⟨by omega,by omega⟩) h2 (by simpa using h3) h1⟩,(R4.out.below b5).grown h2 (fun k hk=>by have:=(A5.lo_le hk).1;omega),(K4.out.allocP _).grownP h2 (fun k hk=>(A5.lo_le hk).1)⟩
      clear r4 k4 m3 A2 R2 K2 A4 R4 K4
      go_wp2_with (at_builtin;refine wpList_append_lies _ rfl (.tmp 16) (.tmp 19) 39 rfl w.heap.size 3 i0 (.int .i64 0) 1 8 pUnderI hi hz0 hz1 hz2 rfl (by decide) _ _ _ rfl (hown.out.alloc _) ⟨w4.heap.size,0,none⟩ 1 1 [.int .i64 n] rfl rfl (newsP _ [_] _) (pOneI _) (by decide) (by unfold maxLen;omega) (by omega) (by simp;omega) (w4.heap.size+1) (by simp) ?_)
      intro g2 cap2 w9 h1 hgrow hat hlt1
      have U2:=PU.out g2 cap2 w9 h1 hgrow hat
      obtain ⟨⟨cs',q1⟩,q2,q3⟩:=U2
      have A9:Hid (ARow Lay.int 3 w9 w.heap.size (.slice (some ⟨g2,0,none⟩) (xs.length+1) cap2) (xs++[n]) cs'):=q1
      have R9:Hid (PAt w9 b l e p3):=q2
      have K9:Hid (Chg b w w9):=q3
      clear h1 hgrow hat hlt1 hown PU q1 q2 q3
      by_cases h100:xs.length+1≤100
      · have h100':¬ (100:Int) < (xs.length:Int)+1:=by omega
        go_wp2_with fail
        refine (took_any fin hfin R9.out).mono ?_
        intro e' w10 hO
        cases hw:isW l fin p3 with
        | true =>
          rw [hw] at hO
          obtain ⟨rfl,r10,k10⟩:=hO
          have A10:=A9.out.chgP k10 hbw
          have Z:Hid (Out b e l (inP l e (numP l e) beg fin p) w (VInts w) (.returned (.slice (some ⟨g2,0,none⟩) (xs.length+1) cap2)) w10) :=
            Out.good (v:=xs++[n]) (in_some M1.out (L2.out.stop M3.out h100 hw) hw) ⟨some ⟨g2,0,none⟩,cap2,by simp,by simpa using A10.lay⟩ r10 (K9.out.trans k10)
          clear r10 k10 A10 A9 R9 K9 M1 L2 M3
          go_wp2
          go_ret
          exact Z.out
        | false =>
          rw [hw] at hO
          obtain ⟨rfl,r10,k10⟩:=hO
          have A10:Hid (ARow Lay.int 3 w10 w.heap.size (.slice (some ⟨g2,0,none⟩) (xs.length+1) cap2) (xs++[n]) cs'):=A9.out.chgP k10 hbw
          have R10:Hid (PAt w10 b l e p3):=r10
          have K10:Hid (Chg b w w10):=K9.out.trans k10
          have HW:Hid (isW l fin p3=false):=hw
          clear r10 k10 A9 R9 K9 hw
          go_wp2_with fail
          refine (pmust_any [44] (by decide) R10.out).mono ?_
          intro e' w11 hO
          rcases hO with ⟨⟨⟩,p4,x,m4,rfl,rfl,r11,k11⟩ | ⟨y,c',a',m4,rfl,hc,k11⟩
          rotate_left
          · exact ⟨rfl,Out.bad (in_bad M1.out (L2.out.comma M3.out h100 HW.out m4)) hc (K10.out.trans k11)⟩
          have A11:Hid (ARow Lay.int 3 w11 w.heap.size (.slice (some ⟨g2,0,none⟩) (xs.length+1) cap2) (xs++[n]) cs'):=A10.out.chgP k11 hbw
          have R11:Hid (PAt w11 b l e p4):=r11
          have K11:Hid (Chg b w w11):=K10.out.trans k11
          have L11:Hid (LstQ l e (numP l e) fin p1 p4 (xs++[n])):=L2.out.go M3.out h100 HW.out m4
          clear r11 k11 m4 A10 R10 K10
          go_wp2
          go_roundw
          case rel=>exact ⟨xs++[n],cs',p4,A11.out,R11.out,K11.out,L11.out⟩
          case measure=>simp [lenP];omega
      · have h100':(100:Int) < (xs.length:Int)+1:=by omega
        obtain ⟨y,hy⟩:=L2.out.many M3.out h100
        have Y:Hid (inP l e (numP l e) beg fin p=.error y):=in_bad M1.out hy
        clear hy
        go_wp2_with fail
        refine (giveUp_any 2 (by decide) R9.out).mono ?_
        rintro e' w10 ⟨⟨c',a',rfl,hc⟩,rfl⟩
        exact ⟨rfl,Out.bad Y.out hc K9.out⟩
def FinD (w0 : World) (b e : Nat) (l : List Tk) (p R : Nat) (T : TypeId) (c : Array Value) (W : World) : Prop := Blk W R c T ∧ PAt W b l e p ∧ Chg b w0 W
structure FB (w0 w : World) (b e : Nat) (l : List Tk) (p R B : Nat) (rc bc : Array Value) (T : TypeId) : Prop where
  rd:PAt w b l e p
  res:Blk w R rc T
  box:Blk w B bc T
  chg:Chg b w0 w
  bR:b < R
  RB:R < B
  R0:w0.heap.size≤R
section
variable {w0 w w' : World} {b e p p' R B : Nat} {l : List Tk} {rc bc : Array Value} {T : TypeId}
theorem FB.start {z : Array Value} (h : PAt w b l e p) : FB w ((w.alloc (.cells z T)).alloc (.cells z T)) b e l p w.heap.size (w.heap.size + 1) z z T :=
  ⟨h.below (bel2 _ _ _),Blk.new1 _ _ _ _ _,Blk.new2 _ _ _ _,Chg.below (bel2 _ _ _),h.lt,Nat.lt_succ_self _,Nat.le_refl _⟩
theorem FB.call (h : FB w0 w b e l p R B rc bc T) (hp : PAt w' b l e p') (k : Chg b w w') : FB w0 w' b e l p' R B rc bc T := by
  have h1:=h.bR
  have h2:=h.RB
  exact ⟨hp,h.res.chg k (by omega),h.box.chg k (by omega),h.chg.trans k,h1,h2,h.R0⟩
theorem FB.alloc (h : FB w0 w b e l p R B rc bc T) (o : Obj) : FB w0 (w.alloc o) b e l p R B rc bc T := h.call (h.rd.below (bel1 _ _)) (Chg.below (bel1 _ _))
theorem FB.set (h : FB w0 w b e l p R B rc bc T) (o : Nat) (v : Value) : FB w0 (w.setCell ⟨B, o, none⟩ v) b e l p R B rc (bc.setIfInBounds o v) T := by
  have h1:=h.bR
  have h2:=h.RB
  exact ⟨h.rd.set (by show b < B;omega) v,h.res.setOther (by show B≠R;omega) v,blockSet h.box o v,Chg2.new h.chg (Chg2.set w o v) (by have:=h.R0;omega),h1,h2,h.R0⟩
theorem FB.nums {xs : List Int} {offs : List Nat} (h : FB w0 w b e l p R B rc bc T) (hb : Blk w' B (putAll bc offs xs) T) (hp : PAt w' b l e p') (k : Chg2 b B w w') : FB w0 w' b e l p' R B rc (putAll bc offs xs) T := by
  have h1:=h.bR
  have h2:=h.RB
  exact ⟨hp,h.res.chg2 k (by omega) (by omega),hb,Chg2.new h.chg k (by have:=h.R0;omega),h1,h2,h.R0⟩
theorem FB.lt (h : FB w0 w b e l p R B rc bc T) : B < w.heap.size := h.box.lt
def Kid {α : Type} (A : Lay α) (B : Nat) (w : World) (x : α) (cs : List Value) : Prop := A.In w (fun g => B < g) x cs
variable {α : Type} {A : Lay α} {x : α} {cs : List Value}
theorem Kid.mk (h : A.In w (fun g => w'.heap.size ≤ g) x cs) (hB : B < w'.heap.size) : Kid A B w x cs := Lay.mono h (fun k hk _ => by omega)
theorem Kid.chg (h : Kid A B w x cs) (k : Chg b w w') (hb : b ≤ B) : Kid A B w' x cs := Chg.keep h k (fun k hk => by omega)
theorem Kid.chg2 (h : Kid A B w x cs) (k : Chg2 b B w w') (hb : b ≤ B) : Kid A B w' x cs := Chg2.keep h k (fun k hk _ => by omega)
theorem Kid.set (h : Kid A B w x cs) {q : Addr} (hq : q.block ≤ B) (v : Value) : Kid A B (w.setCell q v) x cs := Lay.setCell h (by omega) v
theorem Kid.alloc (h : Kid A B w x cs) (o : Obj) : Kid A B (w.alloc o) x cs := Lay.alloc h o
theorem Kid.sets (h : Kid A B w x cs) {R : Nat} (hq : R ≤ B) : ∀ (vs : List Value) (o : Nat), Kid A B (w.setCells R o vs) x cs := fun vs o => A.keep (fun k hk _ => setCells_other (by omega) vs o w) (fun _ h _ => h) h
theorem Kid.out (h : Kid A B w x cs) (hB : w0.heap.size ≤ B) : A.In w (fun g => w0.heap.size ≤ g) x cs := Lay.mono h (fun k hk _ => by omega)
theorem Blk.sets {R : Nat} {T : TypeId} : ∀ (vs us zs : List Value) (w : World), vs.length = zs.length → Blk w R (us ++ zs).toArray T → Blk (w.setCells R us.length vs) R (us ++ vs).toArray T
  | [],us,zs,w,hl,h=>by
    have:zs=[]:=List.length_eq_zero_iff.1 hl.symm
    subst this
    exact h
  | v::vs,us,zs,w,hl,h=>by
    cases zs with
    | nil=>simp at hl
    | cons z zs =>
      have h1:=blockSet h us.length v
      have e1:((us++z::zs).toArray.setIfInBounds us.length v)=((us++[v])++zs).toArray:=by
        apply Array.ext'
        simp [List.set_append]
      rw [e1] at h1
      have:=Blk.sets vs (us++[v]) zs (w.setCell ⟨R,us.length,none⟩ v) (by simpa using hl) h1
      simpa [World.setCells] using this
theorem FB.fin (h : FB w0 w b e l p R B rc bc T) (vs : List Value) (hl : vs.length = rc.size) : FinD w0 b e l p R T vs.toArray (w.setCells R 0 vs) := by
  have h1:=h.bR
  refine ⟨?_,h.rd.keep fun k hk=>setCells_other (by omega) vs 0 w,?_⟩
  · have:=Blk.sets (T:=T) (R:=R) vs [] rc.toList w (by simpa using hl) (by simpa using h.res)
    simpa using this
  · have hs:Step (fun k=>k=R) (fun k=>k=R) w (w.setCells R 0 vs):=Step.setCells (O:=fun k=>k=R) (O':=fun k=>k=R) (b:=R) rfl vs 0 w (Step.refl _ _)
    have h3:=h.chg
    have h4:=h.R0
    exact ⟨hs.os.trans h3.os,hs.tape.trans h3.tape,hs.output.trans h3.output,Nat.le_trans h3.size hs.size,fun k hk hn=>(hs.block k (Nat.lt_of_lt_of_le hk h3.size) (by omega)).trans (h3.block k hk hn),fun k hk=>.inl hk⟩
end
section
variable {l : List Tk} {e p : Nat} {β : Type}
theorem nums_len : ∀ {n p : Nat} {xs : List Int} {q : Nat}, numsP l e n p = .ok (xs, q) → xs.length = n
  | 0,p,xs,q,h=>by injection h with h;injection h with h _;subst h;rfl
  | n+1,p,xs,q,h=>by
    rw [numsP] at h
    obtain ⟨a,p1,_,h⟩:=PR.andThen_ok h
    obtain ⟨ys,p2,h2,h⟩:=PR.andThen_ok h
    injection h with h;injection h with h _;subst h
    simp [nums_len h2]
theorem nums1_eq (F : Int → Nat → PR β) : PR.andThen (numP l e p) F = PR.andThen (numsP l e 1 p) fun xs q => F (xs.getD 0 0) q := by
  rw [numsP]
  cases h1:numP l e p with
  | error x=>rfl
  | ok v=>obtain ⟨a,p1⟩:=v;rfl
theorem nums2_eq (F : Int → Int → Nat → PR β) : (PR.andThen (numP l e p) fun a p1 => PR.andThen (numP l e p1) fun c p2 => F a c p2) = PR.andThen (numsP l e 2 p) fun xs q => F (xs.getD 0 0) (xs.getD 1 0) q := by
  rw [numsP]
  cases h1:numP l e p with
  | error x=>rfl
  | ok v =>
    obtain ⟨a,p1⟩:=v
    rw [PR.ok_andThen,PR.ok_andThen,nums1_eq]
    cases numsP l e 1 p1 with
    | error x=>rfl
    | ok v=>obtain ⟨xs,p2⟩:=v;rfl
theorem nums3_eq (F : Int → Int → Int → Nat → PR β) : (PR.andThen (numP l e p) fun a p1 => PR.andThen (numP l e p1) fun c p2 => PR.andThen (numP l e p2) fun d p3 => F a c d p3) = PR.andThen (numsP l e 3 p) fun xs q => F (xs.getD 0 0) (xs.getD 1 0) (xs.getD 2 0) q := by
  rw [numsP]
  cases h1:numP l e p with
  | error x=>rfl
  | ok v =>
    obtain ⟨a,p1⟩:=v
    rw [PR.ok_andThen,PR.ok_andThen,nums2_eq]
    cases numsP l e 2 p1 with
    | error x=>rfl
    | ok v=>obtain ⟨xs,p2⟩:=v;rfl
end
theorem cells3 {w : World} {B : Nat} {t : TypeId} {p0 p1 p2 : Value} (h : Blk w B #[p0, p1, p2] t) : w.cell? ⟨B, 0, none⟩ = some p0 ∧ w.cell? ⟨B, 1, none⟩ = some p1 ∧ w.cell? ⟨B, 2, none⟩ = some p2 := ⟨cellOf h 0 _ rfl, cellOf h 1 _ rfl, cellOf h 2 _ rfl⟩
theorem frees3 {w : World} {B : Nat} {t : TypeId} {c : Array Value} (h : Blk w B c t) : w.frozen? ⟨B, 0, none⟩ = false ∧ w.frozen? ⟨B, 1, none⟩ = false ∧ w.frozen? ⟨B, 2, none⟩ = false := ⟨freeOf h 0, freeOf h 1, freeOf h 2⟩
theorem cells4 {w : World} {B : Nat} {t : TypeId} {p0 p1 p2 p3 : Value} (h : Blk w B #[p0, p1, p2, p3] t) : w.cell? ⟨B, 0, none⟩ = some p0 ∧ w.cell? ⟨B, 1, none⟩ = some p1 ∧ w.cell? ⟨B, 2, none⟩ = some p2 ∧ w.cell? ⟨B, 3, none⟩ = some p3 := ⟨cellOf h 0 _ rfl, cellOf h 1 _ rfl, cellOf h 2 _ rfl, cellOf h 3 _ rfl⟩
theorem frees4 {w : World} {B : Nat} {t : TypeId} {c : Array Value} (h : Blk w B c t) : w.frozen? ⟨B, 0, none⟩ = false ∧ w.frozen? ⟨B, 1, none⟩ = false ∧ w.frozen? ⟨B, 2, none⟩ = false ∧ w.frozen? ⟨B, 3, none⟩ = false := ⟨freeOf h 0, freeOf h 1, freeOf h 2, freeOf h 3⟩
theorem cells8 {w : World} {B : Nat} {t : TypeId} {p0 p1 p2 p3 p4 p5 p6 p7 : Value} (h : Blk w B #[p0, p1, p2, p3, p4, p5, p6, p7] t) : w.cell? ⟨B, 0, none⟩ = some p0 ∧ w.cell? ⟨B, 1, none⟩ = some p1 ∧ w.cell? ⟨B, 2, none⟩ = some p2 ∧ w.cell? ⟨B, 3, none⟩ = some p3 ∧ w.cell? ⟨B, 4, none⟩ = some p4 ∧ w.cell? ⟨B, 5, none⟩ = some p5 ∧ w.cell? ⟨B, 6, none⟩ = some p6 ∧ w.cell? ⟨B, 7, none⟩ = some p7 := ⟨cellOf h 0 _ rfl, cellOf h 1 _ rfl, cellOf h 2 _ rfl, cellOf h 3 _ rfl, cellOf h 4 _ rfl, cellOf h 5 _ rfl, cellOf h 6 _ rfl, cellOf h 7 _ rfl⟩
theorem frees8 {w : World} {B : Nat} {t : TypeId} {c : Array Value} (h : Blk w B c t) : w.frozen? ⟨B, 0, none⟩ = false ∧ w.frozen? ⟨B, 1, none⟩ = false ∧ w.frozen? ⟨B, 2, none⟩ = false ∧ w.frozen? ⟨B, 3, none⟩ = false ∧ w.frozen? ⟨B, 4, none⟩ = false ∧ w.frozen? ⟨B, 5, none⟩ = false ∧ w.frozen? ⟨B, 6, none⟩ = false ∧ w.frozen? ⟨B, 7, none⟩ = false := ⟨freeOf h 0, freeOf h 1, freeOf h 2, freeOf h 3, freeOf h 4, freeOf h 5, freeOf h 6, freeOf h 7⟩
theorem cells9 {w : World} {B : Nat} {t : TypeId} {p0 p1 p2 p3 p4 p5 p6 p7 p8 : Value} (h : Blk w B #[p0, p1, p2, p3, p4, p5, p6, p7, p8] t) : w.cell? ⟨B, 0, none⟩ = some p0 ∧ w.cell? ⟨B, 1, none⟩ = some p1 ∧ w.cell? ⟨B, 2, none⟩ = some p2 ∧ w.cell? ⟨B, 3, none⟩ = some p3 ∧ w.cell? ⟨B, 4, none⟩ = some p4 ∧ w.cell? ⟨B, 5, none⟩ = some p5 ∧ w.cell? ⟨B, 6, none⟩ = some p6 ∧ w.cell? ⟨B, 7, none⟩ = some p7 ∧ w.cell? ⟨B, 8, none⟩ = some p8 := ⟨cellOf h 0 _ rfl, cellOf h 1 _ rfl, cellOf h 2 _ rfl, cellOf h 3 _ rfl, cellOf h 4 _ rfl, cellOf h 5 _ rfl, cellOf h 6 _ rfl, cellOf h 7 _ rfl, cellOf h 8 _ rfl⟩
theorem frees9 {w : World} {B : Nat} {t : TypeId} {c : Array Value} (h : Blk w B c t) : w.frozen? ⟨B, 0, none⟩ = false ∧ w.frozen? ⟨B, 1, none⟩ = false ∧ w.frozen? ⟨B, 2, none⟩ = false ∧ w.frozen? ⟨B, 3, none⟩ = false ∧ w.frozen? ⟨B, 4, none⟩ = false ∧ w.frozen? ⟨B, 5, none⟩ = false ∧ w.frozen? ⟨B, 6, none⟩ = false ∧ w.frozen? ⟨B, 7, none⟩ = false ∧ w.frozen? ⟨B, 8, none⟩ = false := ⟨freeOf h 0, freeOf h 1, freeOf h 2, freeOf h 3, freeOf h 4, freeOf h 5, freeOf h 6, freeOf h 7, freeOf h 8⟩
theorem begins {w : World} {b e p : Nat} {l : List Tk} {z : Array Value} {T : TypeId} (h : PAt w b l e p) : PAt (w.alloc (.cells z T)) b l e p ∧ Blk (w.alloc (.cells z T)) w.heap.size z T ∧ Chg b w (w.alloc (.cells z T)) := ⟨h.below (bel1 _ _), Blk.new _ _ _, Chg.below (bel1 _ _)⟩
theorem which_told {w : World} {b e p k : Nat} {l : List Tk} {F : Nat} {ws : List (List UInt8)} (hE : Enters F) (hF0 : WordFn F ws) (hw0 : ∀ t ∈ ws, wordly t = true) (hn : ws.length ≤ 1000) (hk : whichP l ws p = k) (h0 : k ≠ 0) (h : PAt w b l e p) :
    Calls Tryz.prog 135 #[ptrP b,.func (.func F) #[] #[]] w fun en w'=>en=.returned (.int .i64 k)∧Below w.heap.size w w':=by
  have h1:=pmustWhich_any F ws hE hF0 hw0 hn h
  rw [hk] at h1
  refine h1.mono fun en w' hO=>?_
  rcases hO with ⟨_,he,hb⟩ | ⟨h2,_⟩
  · exact ⟨he,hb⟩
  · exact absurd h2 h0
theorem pSizeE : (Tryz.prog.info? 46).map (·.size) = some 9 := by kernel_rfl
theorem Blk.range {w : World} {T : TypeId} {g : Nat} {c : List Value} (h : Blk w g c.toArray T) : w.rangeAt g 0 c := fun j v hv => by
  rw [Nat.zero_add]
  exact cellOf h j v (by simpa using hv)
theorem Blk.there {w : World} {T : TypeId} {g o n : Nat} {c : Array Value} (h : Blk w g c T) (hn : o + n ≤ c.size) : w.there g o n := fun j hj =>
  ⟨by rw [cellOf h (o+j) _ (Array.getElem?_eq_getElem (by omega))];rfl,freeOf h (o+j)⟩
theorem i64_of {x : Int} (h : 0 ≤ x ∧ x ≤ 1000000) : -9223372036854775808 ≤ x ∧ x ≤ 9223372036854775807 := ⟨by omega, by omega⟩
def NumsB (w0 w1 : World) (b e : Nat) (l : List Tk) (p R B : Nat) (rc bc : Array Value) (T : TypeId) (offs : List Nat) (en : Ending) (w' : World) : Prop :=
  (∃ xs p',numsP l e offs.length p=.ok (xs,p')∧en=.returned (.tuple #[])∧(∀ x ∈ xs,0≤x∧x≤1000000)∧FB w0 w' b e l p' R B rc (putAll bc offs xs) T∧Chg2 b B w1 w') ∨ (∃ y c a,numsP l e offs.length p=.error y∧en=.panicked (gave c a)∧c≠0∧Chg b w0 w')
theorem FB.callNums {w0 w1 : World} {b e p R B g N : Nat} {l : List Tk} {rc bc : Array Value} {T : TypeId} (h : FB w0 w1 b e l p R B rc bc T) (offs : List Nat) (ho : ∀ o ∈ offs, o < bc.size) (hN : offs.length = N) (hN3 : N ≤ 1000) (hg : g = w1.heap.size) :
    Calls Tryz.prog 87 #[ptrP b,.slice (some ⟨g,0,none⟩) N N] (w1.alloc (.cells (offs.map (fun o=>Value.pointer (some ⟨B,o,none⟩))).toArray 131)) fun en w'=>NumsB w0 w1 b e l p R B rc bc T offs en w':=by
  subst hg
  have h1:=h.bR
  have h2:=h.RB
  have h3:=h.lt
  have ha:=h.alloc (.cells (offs.map (fun o=>Value.pointer (some ⟨B,o,none⟩))).toArray 131)
  have k1:Chg2 b B w1 (w1.alloc (.cells (offs.map (fun o=>Value.pointer (some ⟨B,o,none⟩))).toArray 131)):=Chg2.of (Chg.below (bel1 _ _))
  refine (pnums_any ha.rd ha.box (Blk.new _ _ _) (by omega) (by omega) (by omega) ho hN hN3).mono fun en w' hO=>?_
  rcases hO with ⟨xs,p',m,he,hx,hb,hp,hk⟩ | ⟨y,c,a,m,he,hc,hk⟩
  · exact .inl ⟨xs,p',m,he,hx,ha.nums hb hp hk,k1.trans hk⟩
  · exact .inr ⟨y,c,a,m,he,hc,Chg2.new ha.chg hk (by have:=h.R0;omega)⟩
theorem pargs_any {w : World} {b e p : Nat} {l : List Tk} (h : PAt w b l e p) :
    Calls Tryz.prog 137 #[ptrP b] w fun en w'=>Out b e l (argsP l e p) w (VInts w) en w':=by
  have hmf:∀ (fn:Fn) (first cap:Array Value) (w:World),(Instr.makeFunc fn first cap).run Tryz.prog w=.ok (.func fn first cap) w:=fun _ _ _ _=>rfl
  have C:Hid (Calls Tryz.prog 158 #[ptrP b,.string (str [40]),.string (str [41]),.func (.func 107) #[ptrP b] #[]] w fun en w'=>Out b e l (argsP l e p) w (VInts w) en w'):=plistI_any [40] [41] (by decide) (by decide) h
  clear h
  go_enter Tryz.func137,Tryz.ntmps137
  go_wp2_with fail
  refine C.out.mono ?_
  intro e' w2 hO
  have O:Hid (Out b e l (argsP l e p) w (VInts w) e' w2):=hO
  rcases hO with ⟨v,p1,x,m1,rfl,hv,r1,k1⟩ | ⟨y,c,a,m1,rfl,hc,k1⟩
  · clear C m1 hv r1 k1
    go_wp2
    go_ret
    exact O.out
  · exact ⟨rfl,O.out⟩
theorem pregs_any {w : World} {b e p : Nat} {l : List Tk} (h : PAt w b l e p) :
    Calls Tryz.prog 138 #[ptrP b] w fun en w'=>Out b e l (regsP l e p) w (VInts w) en w':=by
  have hmf:∀ (fn:Fn) (first cap:Array Value) (w:World),(Instr.makeFunc fn first cap).run Tryz.prog w=.ok (.func fn first cap) w:=fun _ _ _ _=>rfl
  have C:Hid (Calls Tryz.prog 158 #[ptrP b,.string (str [60]),.string (str [62]),.func (.func 107) #[ptrP b] #[]] w fun en w'=>Out b e l (regsP l e p) w (VInts w) en w'):=plistI_any [60] [62] (by decide) (by decide) h
  clear h
  go_enter Tryz.func138,Tryz.ntmps138
  go_wp2_with fail
  refine C.out.mono ?_
  intro e' w2 hO
  have O:Hid (Out b e l (regsP l e p) w (VInts w) e' w2):=hO
  rcases hO with ⟨v,p1,x,m1,rfl,hv,r1,k1⟩ | ⟨y,c,a,m1,rfl,hc,k1⟩
  · clear C m1 hv r1 k1
    go_wp2
    go_ret
    exact O.out
  · exact ⟨rfl,O.out⟩
end Go.Proofs.YtjodmledadbgeacGreatDoor
