import Derived.Shelf.LaysM
import Derived.Shelf.LaysC
import Derived.Shelf.Strings.BuilderK
import Derived.Shelf.Strconv.Itoa3
import Derived.Test.YtalfbnllodhkiacGreatDoorProg
import Derived.Test.YtalfbnllodhkiacGreatDoorRows
import Derived.WalkKit
import Derived.WalkLawsBesides
import Derived.ProofKit
import Derived.OpenShut
import Derived.Deep.OwnRows
import Derived.Deep.AppendLies
import Derived.Deep.Draws
import Derived.Deep.Slices
import Derived.Deep.Strs
import Derived.Below
import Derived.ChangeOld
import Derived.Deep.QuietTactic
import Derived.Deep.DeepCutAuto
import Derived.Deep.CutBlock
import Derived.Lib.AppendIntMem
import Derived.Lib.ItoaLen
import Derived.Shelf.Strings.OnBuilder
import Derived.Shelf.Strings.BuilderF
import Derived.Lib.ParseIntB
import Derived.Orders
import Derived.RowKit
import Derived.Deep.MidRow
set_option maxHeartbeats 16000000
set_option maxRecDepth 100000
namespace Go.Proofs
open Go.Shelf
def Tryz.lays169_ren : Go.Shelf.Ren := ⟨fun | 169 => 47 | n => n, fun | 70 => 85 | 9 => 9 | 0 => 0 | 72 => 88 | 37 => 86 | 127 => 137 | 3 => 3 | 5 => 5 | n => n, fun | n => n⟩
theorem Tryz.lays169 : Go.Proofs.Lays.n169 Tryz.prog Tryz.lays169_ren := {
  mixed:=by kernel_rfl
  f169:=Tryz.func47.trans (congrArg some (by kernel_rfl))
  t0:=Tryz.underlying0
  a0:=Tryz.isAgg0
  z0:=Tryz.sizeOf0
  v0:=Tryz.zeroValue0
  t3:=Tryz.underlying3
  a3:=Tryz.isAgg3
  z3:=Tryz.sizeOf3
  v3:=Tryz.zeroValue3
  t9:=Tryz.underlying9
  a9:=Tryz.isAgg9
  z9:=Tryz.sizeOf9
  v9:=Tryz.zeroValue9
  t37:=Tryz.underlying86
  a37:=Tryz.isAgg86
  z37:=Tryz.sizeOf86
  v37:=Tryz.zeroValue86
  t70:=Tryz.underlying85
  a70:=Tryz.isAgg85
  z70:=Tryz.sizeOf85
  v70:=Tryz.zeroValue85
  t72:=Tryz.underlying88
  a72:=Tryz.isAgg88
  z72:=Tryz.sizeOf88
  v72:=Tryz.zeroValue88
  t127:=Tryz.underlying137
  a127:=Tryz.isAgg137
  z127:=Tryz.sizeOf137
  v127:=Tryz.zeroValue137 }
def Tryz.laysM171_ren : Go.Shelf.Ren := ⟨fun | 171 => 88 | 243 => 123 | 246 => 146 | 283 => 184 | 284 => 185 | 285 => 186 | 286 => 187 | 129 => 215 | 317 => 214 | 318 => 216 | 319 => 217 | 320 => 218 | 337 => 225 | 338 => 226 | n => n, fun | 3 => 3 | 9 => 9 | 2 => 2 | 4 => 4 | 171 => 196 | 0 => 0 | 53 => 189 | 37 => 86 | 5 => 5 | 173 => 199 | 212 => 216 | 51 => 217 | 20 => 20 | 213 => 218 | 46 => 192 | 232 => 229 | 233 => 230 | n => n, fun | 17 => 2 | 18 => 4 | 19 => 5 | n => n⟩
theorem Tryz.laysM171 : Go.Proofs.LaysM.n171 Tryz.prog Tryz.laysM171_ren := {
  mixed:=by kernel_rfl
  f129:=Tryz.func215.trans (congrArg some (by kernel_rfl))
  f171:=Tryz.func88.trans (congrArg some (by kernel_rfl))
  f243:=Tryz.func123.trans (congrArg some (by kernel_rfl))
  f246:=Tryz.func146.trans (congrArg some (by kernel_rfl))
  f283:=Tryz.func184.trans (congrArg some (by kernel_rfl))
  f284:=Tryz.func185.trans (congrArg some (by kernel_rfl))
  f285:=Tryz.func186.trans (congrArg some (by kernel_rfl))
  f286:=Tryz.func187.trans (congrArg some (by kernel_rfl))
  f317:=Tryz.func214.trans (congrArg some (by kernel_rfl))
  f318:=Tryz.func216.trans (congrArg some (by kernel_rfl))
  f319:=Tryz.func217.trans (congrArg some (by kernel_rfl))
  f320:=Tryz.func218.trans (congrArg some (by kernel_rfl))
  f337:=Tryz.func225.trans (congrArg some (by kernel_rfl))
  f338:=Tryz.func226.trans (congrArg some (by kernel_rfl))
  t0:=Tryz.underlying0
  a0:=Tryz.isAgg0
  z0:=Tryz.sizeOf0
  v0:=Tryz.zeroValue0
  t2:=Tryz.underlying2
  a2:=Tryz.isAgg2
  z2:=Tryz.sizeOf2
  v2:=Tryz.zeroValue2
  t3:=Tryz.underlying3
  a3:=Tryz.isAgg3
  z3:=Tryz.sizeOf3
  v3:=Tryz.zeroValue3
  t4:=Tryz.underlying4
  a4:=Tryz.isAgg4
  z4:=Tryz.sizeOf4
  v4:=Tryz.zeroValue4
  t5:=Tryz.underlying5
  a5:=Tryz.isAgg5
  z5:=Tryz.sizeOf5
  v5:=Tryz.zeroValue5
  t9:=Tryz.underlying9
  a9:=Tryz.isAgg9
  z9:=Tryz.sizeOf9
  v9:=Tryz.zeroValue9
  t20:=Tryz.underlying20
  a20:=Tryz.isAgg20
  z20:=Tryz.sizeOf20
  v20:=Tryz.zeroValue20
  t37:=Tryz.underlying86
  a37:=Tryz.isAgg86
  z37:=Tryz.sizeOf86
  v37:=Tryz.zeroValue86
  t46:=Tryz.underlying192
  a46:=Tryz.isAgg192
  z46:=Tryz.sizeOf192
  v46:=Tryz.zeroValue192
  t51:=Tryz.underlying217
  a51:=Tryz.isAgg217
  z51:=Tryz.sizeOf217
  v51:=Tryz.zeroValue217
  t53:=Tryz.underlying189
  a53:=Tryz.isAgg189
  z53:=Tryz.sizeOf189
  v53:=Tryz.zeroValue189
  t171:=Tryz.underlying196
  a171:=Tryz.isAgg196
  z171:=Tryz.sizeOf196
  v171:=Tryz.zeroValue196
  t173:=Tryz.underlying199
  a173:=Tryz.isAgg199
  z173:=Tryz.sizeOf199
  v173:=Tryz.zeroValue199
  t212:=Tryz.underlying216
  a212:=Tryz.isAgg216
  z212:=Tryz.sizeOf216
  v212:=Tryz.zeroValue216
  t213:=Tryz.underlying218
  a213:=Tryz.isAgg218
  z213:=Tryz.sizeOf218
  t232:=Tryz.underlying229
  a232:=Tryz.isAgg229
  z232:=Tryz.sizeOf229
  v232:=Tryz.zeroValue229
  t233:=Tryz.underlying230
  a233:=Tryz.isAgg230
  z233:=Tryz.sizeOf230
  v233:=Tryz.zeroValue230
  g17:=by kernel_rfl
  g18:=by kernel_rfl
  g19:=by kernel_rfl
  i0:=by kernel_rfl
  i2:=by kernel_rfl
  i3:=by kernel_rfl
  i4:=by kernel_rfl
  i5:=by kernel_rfl
  i9:=by kernel_rfl
  i20:=by kernel_rfl
  i37:=by kernel_rfl
  i46:=by kernel_rfl
  i51:=by kernel_rfl
  i53:=by kernel_rfl
  i171:=by kernel_rfl
  i173:=by kernel_rfl
  i212:=by kernel_rfl
  i232:=by kernel_rfl
  i233:=by kernel_rfl
  m17:=by kernel_rfl
  m18:=by kernel_rfl
  m19:=by kernel_rfl }
theorem Tryz.Builder_Extra_169 : Builder.Extra Tryz.prog Tryz.lays169_ren := {
  sizeBuilder:=by kernel_rfl
  liesBuilder:=by kernel_rfl
  t5:=Tryz.underlying5
  a5:=Tryz.isAgg5
  z5:=Tryz.sizeOf5
  v5:=Tryz.zeroValue5
  infoByte:=by kernel_rfl
  cellsByte:=by kernel_rfl
  sizeByte:=by kernel_rfl
  neB5:=by decide }
end Go.Proofs
namespace Go.Proofs.YtalfbnllodhkiacGreatDoor
open Go.RowKit
set_option linter.unusedVariables false
structure Step (O O' : Nat → Prop) (w w' : World) : Prop where
  os:w'.os=w.os
  tape:w'.tape=w.tape
  output:w'.output=w.output
  size:w.heap.size≤w'.heap.size
  block:∀ k,k<w.heap.size→¬ O k→w'.heap[k]?=w.heap[k]?
  own:∀ k,O' k→O k∨w.heap.size≤k
theorem Step.refl (O : Nat → Prop) (w : World) : Step O O w w := ⟨rfl, rfl, rfl, Nat.le_refl _, fun _ _ _ => rfl, fun _ h => Or.inl h⟩
theorem Step.trans {O O' O'' : Nat → Prop} {a b c : World} (h : Step O O' a b) (k : Step O' O'' b c) : Step O O'' a c :=
  ⟨k.os.trans h.os,k.tape.trans h.tape,k.output.trans h.output,Nat.le_trans h.size k.size,
   fun i hi hn=>(k.block i (Nat.lt_of_lt_of_le hi h.size) (fun ho=>(h.own i ho).elim hn (fun hge=>by omega))).trans (h.block i hi hn),
   fun i hi=>(k.own i hi).elim (h.own i) (fun hge=>Or.inr (Nat.le_trans h.size hge))⟩
theorem Step.mono {O O' P : Nat → Prop} {a b : World} (h : Step O O' a b) (hP : ∀ k, O k → P k) : Step P O' a b :=
  ⟨h.os,h.tape,h.output,h.size,fun i hi hn=>h.block i hi (fun ho=>hn (hP i ho)),fun i hi=>(h.own i hi).imp (hP i) id⟩
theorem Step.drewN {O O' : Nat → Prop} {a w : World} (h : Step O O' a w) (n : Nat) : Step O O' a (w.drewN n) := ⟨h.os, h.tape, h.output, h.size, h.block, h.own⟩
theorem Step.drew {O O' : Nat → Prop} {a w : World} (h : Step O O' a w) : Step O O' a w.drew := ⟨h.os, h.tape, h.output, h.size, h.block, h.own⟩
theorem Step.alloc {O O' : Nat → Prop} {a w : World} (h : Step O O' a w) (o : Obj) : Step O O' a (w.alloc o) :=
  ⟨h.os,h.tape,h.output,by have:=h.size;simp;omega,fun k hk hn=>(Below.heap_alloc _ _ _ (by have:=h.size;omega)).trans (h.block k hk hn),h.own⟩
theorem Step.setCell {O O' : Nat → Prop} {a w : World} (h : Step O O' a w) {p : Addr} (hp : O' p.block) (u : Value) : Step O O' a (w.setCell p u) :=
  ⟨h.os,h.tape,h.output,by have:=h.size;simp;omega,
   fun k hk hn=>(Below.heap_setCell _ _ _ _ (fun e=>by subst e;rcases h.own _ hp with h' | h';exact hn h';omega)).trans (h.block k hk hn),h.own⟩
theorem Step.below {O O' : Nat → Prop} {a w : World} {B : Nat} (h : Step O O' a w) (hB : B ≤ a.heap.size) (hO : ∀ k, O k → B ≤ k) : Below B a w :=
  ⟨h.os,h.tape,h.output,h.size,fun k hk=>h.block k (by omega) (fun ho=>by have:=hO k ho;omega)⟩
theorem Step.keep {O O' : Nat → Prop} {a w : World} (h : Step O O' a w) {k : Nat} {o : Obj} (hk : a.heap[k]? = some o) (hn : ¬ O k) : w.heap[k]? = some o :=
  (h.block k (lt_of_block hk) hn).trans hk
theorem cellOf {w : World} {b : Nat} {c : Array Value} {t : TypeId} (h : w.heap[b]? = some (.cells c t (0, 0))) (i : Nat) (v : Value) (hv : c[i]? = some v) : w.cell? ⟨b, i, none⟩ = some v := by
  simp [World.cell?,h,hv]
theorem freeOf {w : World} {b : Nat} {c : Array Value} {t : TypeId} (h : w.heap[b]? = some (.cells c t (0, 0))) (i : Nat) : w.frozen? ⟨b, i, none⟩ = false := by
  simp [World.frozen?,h]
theorem blockSet {w : World} {b : Nat} {c : Array Value} {t : TypeId} (h : w.heap[b]? = some (.cells c t (0, 0))) (i : Nat) (v : Value) :
    (w.setCell ⟨b,i,none⟩ v).heap[b]?=some (.cells (c.setIfInBounds i v) t (0,0)):=by
  simp [World.setCell,Array.getElem?_modify,h]
theorem blockNew (w : World) (c : Array Value) (t : TypeId) : (w.alloc (.cells c t)).heap[w.heap.size]? = some (.cells c t (0, 0)) := by
  show (w.heap.push _)[w.heap.size]?=_;simp
def Row (w : World) (O : Nat → Prop) (t : TypeId) (v : Value) (xs : List Int) : Prop :=
  w.ownsRow 0 t 1 v xs.length (xs.map (Value.int .i64))∧∀ g,v.ownBlock=some g→O g
theorem Row.nil (w : World) (O : Nat → Prop) (t : TypeId) : Row w O t (.slice none 0 0) [] := ⟨⟨rfl, Or.inl ⟨rfl, rfl⟩⟩, by simp [Value.ownBlock]⟩
theorem Row.form {w : World} {O : Nat → Prop} {t : TypeId} {v : Value} {xs : List Int} (h : Row w O t v xs) :
    ∃ a cap,v=.slice a xs.length cap∧(a=none→xs=[]∧cap=0)∧∀ g,a=some g→g=⟨g.block,0,none⟩∧O g.block∧xs.length≤cap∧cap≤maxLen∧∃ c,w.heap[g.block]?=some (.cells c t (0,0))∧c.size=cap∧∀ i,i<xs.length→c[i]?=some (.int .i64 (xs.getD i 0)):=by
  obtain ⟨⟨h1,h2⟩,h3⟩:=h;rcases h2 with ⟨rfl,h4⟩ | ⟨g,cap,cur,rfl,_,hh,hn,hm,hs,ht⟩
  · have:xs=[]:=List.length_eq_zero_iff.1 h4
    subst this;exact ⟨none,0,rfl,(fun _=>⟨rfl,rfl⟩),(fun g e=>by cases e)⟩
  · refine ⟨some ⟨g,0,none⟩,cap,rfl,(fun e=>by cases e),(fun g' e=>?_)⟩
    cases e
    refine ⟨rfl,h3 g rfl,hn,hm,cur,hh,by simpa using hs,fun i hi=>?_⟩
    have:(cur.toList.take (xs.length*1))[i]?=(xs.map (Value.int .i64))[i]?:=by rw [ht]
    rw [List.getElem?_take,if_pos (by omega),List.getElem?_map] at this;rw [← Array.getElem?_toList,this];simp [List.getD,hi]
theorem Row.cell {w : World} {O : Nat → Prop} {t : TypeId} {g : Nat} {n cap : Nat} {xs : List Int} (h : Row w O t (.slice (some ⟨g, 0, none⟩) n cap) xs) (i : Nat) (hi : i < xs.length) :
    w.cell? ⟨g,i,none⟩=some (.int .i64 (xs.getD i 0)):=by
  obtain ⟨a,cap',e,_,h2⟩:=h.form
  cases e
  obtain ⟨_,_,_,_,c,hc,_,hi'⟩:=h2 _ rfl;exact cellOf hc i _ (hi' i hi)
theorem Row.keep {w w' : World} {O O' : Nat → Prop} {t : TypeId} {v : Value} {xs : List Int} (h : Row w O t v xs) (hb : ∀ g, v.ownBlock = some g → w'.heap[g]? = w.heap[g]?) (hO : ∀ g, v.ownBlock = some g → O' g) : Row w' O' t v xs := by
  obtain ⟨⟨h1,h2⟩,h3⟩:=h;refine ⟨⟨h1,?_⟩,hO⟩;rcases h2 with h4 | ⟨g,cap,cur,rfl,hg,hh,r⟩
  · exact Or.inl h4
  · exact Or.inr ⟨g,cap,cur,rfl,hg,(hb g rfl).trans hh,r⟩
theorem Row.lt {w : World} {O : Nat → Prop} {t : TypeId} {v : Value} {xs : List Int} (h : Row w O t v xs) {g : Nat} (hg : v.ownBlock = some g) : g < w.heap.size := by
  obtain ⟨⟨h1,h2⟩,h3⟩:=h;rcases h2 with ⟨rfl,_⟩ | ⟨g',cap,cur,rfl,_,hh,r⟩
  · simp [Value.ownBlock] at hg
  · simp [Value.ownBlock] at hg;subst hg;exact lt_of_block hh
theorem Row.block {w : World} {O : Nat → Prop} {t : TypeId} {v : Value} {xs : List Int} (h : Row w O t v xs) {g : Nat} (hg : v.ownBlock = some g) : ∃ c, w.heap[g]? = some (.cells c t (0, 0)) := by
  obtain ⟨⟨h1,h2⟩,h3⟩:=h;rcases h2 with ⟨rfl,_⟩ | ⟨g',cap,cur,rfl,_,hh,r⟩
  · simp [Value.ownBlock] at hg
  · simp [Value.ownBlock] at hg;subst hg;exact ⟨cur,hh⟩
theorem Row.drewN {w : World} {O : Nat → Prop} {t : TypeId} {v : Value} {xs : List Int} (h : Row w O t v xs) (n : Nat) : Row (w.drewN n) O t v xs := h
theorem Row.init {w : World} {O : Nat → Prop} {t : TypeId} {g n cap : Nat} {xs : List Int} (h : Row w O t (.slice (some ⟨g, 0, none⟩) n cap) xs) (m : Nat) (hm : m ≤ xs.length) :
    Row w O t (.slice (some ⟨g,0,none⟩) m cap) (xs.take m):=by
  obtain ⟨⟨h1,h2⟩,h3⟩:=h;rcases h2 with ⟨e,_⟩ | ⟨g',cap',cur,e,hg,hh,hn,hmx,hs,ht⟩
  · cases e
  · cases e
    have hl:(xs.take m).length=m:=by simp;omega
    refine ⟨⟨by simp,Or.inr ⟨g,cap,cur,by rw [hl],Nat.zero_le _,hh,by omega,hmx,hs,?_⟩⟩,fun g' e=>h3 g' e⟩;rw [hl,Nat.mul_one,List.map_take,← ht,List.take_take,Nat.mul_one,Nat.min_eq_left hm]
theorem Row.head {w : World} {O : Nat → Prop} {t : TypeId} {a : Option Addr} {n cap : Nat} {xs : List Int} (h : Row w O t (.slice a n cap) xs) (hn : 0 < xs.length) :
    ∃ g,a=some ⟨g,0,none⟩∧n=xs.length∧xs.length≤cap∧O g∧g<w.heap.size:=by
  have hlt:=fun g hg=>h.lt (g:=g) hg;obtain ⟨a',cap',e,ha,hs⟩:=h.form;simp only [Value.slice.injEq] at e;obtain ⟨rfl,rfl,rfl⟩:=e
  cases a with
  | none=>rw [(ha rfl).1] at hn;simp at hn
  | some g =>
    have h1:=(hs g rfl).1;exact ⟨g.block,by rw [← h1],rfl,(hs g rfl).2.2.1,(hs g rfl).2.1,hlt _ rfl⟩
theorem setCells_other {b k : Nat} (hk : k ≠ b) : ∀ (vs : List Value) (o : Nat) (w : World), (w.setCells b o vs).heap[k]? = w.heap[k]?
  | [],_,_=>rfl
  | v::r,o,w=>by rw [World.setCells,setCells_other hk r];exact Below.heap_setCell _ _ _ _ hk
theorem Step.setCells {O O' : Nat → Prop} {a : World} {b : Nat} (hp : O' b) : ∀ (vs : List Value) (o : Nat) (w : World), Step O O' a w → Step O O' a (w.setCells b o vs)
  | [],_,_,h=>h
  | v::r,o,w,h=>Step.setCells hp r (o+1) _ (h.setCell (p:=⟨b,o,none⟩) hp v)
#print axioms Row.init
end Go.Proofs.YtalfbnllodhkiacGreatDoor
namespace Go.Proofs.YtalfbnllodhkiacGreatDoor
open Go.ChangeShapes Go.WideShapes Go.ChangeAt Go.RowKit
set_option linter.unusedVariables false
theorem undrewN_below {B m : Nat} {w w' : World} (h : Below B (w.drewN m) w') : Below B w w' := ⟨h.os, h.tape, h.output, h.size, h.block⟩
theorem drewN_below {B m : Nat} {w w' : World} (h : Below B w w') : Below B w (w'.drewN m) := ⟨h.os, h.tape, h.output, h.size, h.block⟩
theorem box_cells {w wr : World} {B : Nat} {c : Array Value} {ty : TypeId} (h : wr.heap[B]? = some (.cells c ty (0, 0))) (b : Below wr.heap.size wr w) : w.heap[B]? = some (.cells c ty (0, 0)) :=
  (b.block B (lt_of_block h)).trans h
abbrev Blk (w : World) (B : Nat) (c : Array Value) (t : TypeId) : Prop := w.heap[B]? = some (.cells c t (0, 0))
theorem Blk.below {w w' : World} {B : Nat} {c : Array Value} {t : TypeId} (h : Blk w B c t) (b : Below w.heap.size w w') : Blk w' B c t := box_cells h b
theorem Blk.alloc {w : World} {B : Nat} {c : Array Value} {t : TypeId} (h : Blk w B c t) (o : Obj) : Blk (w.alloc o) B c t := box_cells h ((Below.refl _ w).alloc (Nat.le_refl _) _)
theorem Blk.new (w : World) (c : Array Value) (t : TypeId) : Blk (w.alloc (.cells c t)) w.heap.size c t := blockNew w c t
theorem Blk.drewN {w : World} {B : Nat} {c : Array Value} {t : TypeId} (h : Blk w B c t) (m : Nat) : Blk (w.drewN m) B c t := h
theorem Blk.lt {w : World} {B : Nat} {c : Array Value} {t : TypeId} (h : Blk w B c t) : B < w.heap.size := lt_of_block h
theorem Blk.setOther {w : World} {B : Nat} {c : Array Value} {t : TypeId} (h : Blk w B c t) {p : Addr} (hp : p.block ≠ B) (v : Value) : Blk (w.setCell p v) B c t := (Below.heap_setCell _ _ _ _ (fun e => hp e.symm)).trans h
theorem bel1 (w : World) (o : Obj) : Below w.heap.size w (w.alloc o) := (Below.refl _ w).alloc (Nat.le_refl _) _
theorem bel2 (w : World) (o p : Obj) : Below w.heap.size w ((w.alloc o).alloc p) := (bel1 w o).alloc (by simp) _
theorem Below.andThen {w w1 w2 : World} (h : Below w.heap.size w w1) (b : Below w1.heap.size w1 w2) : Below w.heap.size w w2 := h.trans (b.mono h.size)
theorem Blk.new1 (w : World) (c d : Array Value) (t u : TypeId) : Blk ((w.alloc (.cells c t)).alloc (.cells d u)) w.heap.size c t := (Blk.new w c t).alloc _
theorem Blk.new2 (w : World) (o : Obj) (d : Array Value) (u : TypeId) : Blk ((w.alloc o).alloc (.cells d u)) (w.heap.size + 1) d u := by
  have:=Blk.new (w.alloc o) d u
  simpa using this
end Go.Proofs.YtalfbnllodhkiacGreatDoor
namespace Go.Proofs.YtalfbnllodhkiacGreatDoor
set_option linter.unusedVariables false
def TT : Nat → Type
  | 0=>Empty
  | n+1=>Int × Int × List (TT n)
def TT.kind : {n : Nat} → TT n → Int
  | 0,t=>Empty.elim t
  | _+1,t=>t.1
def TT.r : {n : Nat} → TT n → Int
  | 0,t=>Empty.elim t
  | _+1,t=>t.2.1
def TT.len : {n : Nat} → TT n → Nat
  | 0,t=>Empty.elim t
  | _+1,t=>t.2.2.length
def TT.count : {n : Nat} → TT n → Nat
  | 0,t=>Empty.elim t
  | n+1,t=>1+(t.2.2.map (TT.count (n:=n))).sum
def TT.height : {n : Nat} → TT n → Nat
  | 0,t=>Empty.elim t
  | n+1,t=>(t.2.2.map (fun x=>1+TT.height (n:=n) x)).foldl max 0
def ownC (k r : Int) (len : Nat) (regs : Int) : Int :=
  if k<1∨4<k then 3
  else if k=1∧r≠0 then 4
  else if k≠3∧0<len then 4
  else if 8<len then 2
  else if k≠1∧(r<0∨regs≤r) then 1
  else 0
def firstL {α : Type} (f : α → Int) : List α → Int
  | []=>0
  | x::xs=>if f x≠0 then f x else firstL f xs
def TT.fault : {n : Nat} → Int → TT n → Int
  | 0,_,t=>Empty.elim t
  | n+1,regs,t=>if ownC t.1 t.2.1 t.2.2.length regs≠0 then ownC t.1 t.2.1 t.2.2.length regs else firstL (TT.fault (n:=n) regs) t.2.2
def TT.check {n : Nat} (regs : Int) (t : TT n) : Int := if 4 < t.height then 19 else t.fault regs
def TT.ok : {n : Nat} → TT n → Prop
  | 0,t=>Empty.elim t
  | n+1,t=>(-9223372036854775808≤t.2.1∧t.2.1≤9223372036854775807)∧∀ x∈t.2.2,TT.ok (n:=n) x
theorem firstL_eq {α : Type} {f : α → Int} : ∀ {l : List α} {i : Nat} {x : α}, l[i]? = some x → (∀ (j : Nat) y, j < i → l[j]? = some y → f y = 0) → f x ≠ 0 → firstL f l = f x
  | [],i,x,h,_,_=>by simp at h
  | y::ys,0,x,h,_,hf=>by simp at h;subst h;simp [firstL,hf]
  | y::ys,i+1,x,h,hz,hf=>by
    have h0:f y=0:=hz 0 y (by omega) rfl;simp only [firstL,h0,ne_eq,not_true_eq_false,if_false];exact firstL_eq (by simpa using h) (fun j z hj hjz=>hz (j+1) z (by omega) (by simpa using hjz)) hf
theorem firstL_zero {α : Type} {f : α → Int} : ∀ {l : List α}, (∀ (j : Nat) y, l[j]? = some y → f y = 0) → firstL f l = 0
  | [],_=>rfl
  | y::ys,h=>by
    have h0:f y=0:=h 0 y rfl;simp only [firstL,h0,ne_eq,not_true_eq_false,if_false];exact firstL_zero (fun j z hz=>h (j+1) z (by simpa using hz))
theorem firstL_zero_iff {α : Type} {f : α → Int} : ∀ {l : List α}, firstL f l = 0 ↔ ∀ x ∈ l, f x = 0
  | []=>by simp [firstL]
  | y::ys=>by
    simp only [firstL];by_cases h:f y=0
    · simp [h,firstL_zero_iff]
    · simp [h]
theorem TT.count_pos : {n : Nat} → (t : TT n) → 1 ≤ t.count
  | 0,t=>Empty.elim t
  | n+1,t=>by simp only [TT.count];omega
theorem sum_take_le (l : List Nat) : ∀ i, (l.take i).sum ≤ l.sum := by
  intro i
  have:=congrArg List.sum (List.take_append_drop i l)
  rw [List.sum_append] at this;omega
theorem length_le_sum : ∀ (l : List Nat), (∀ x ∈ l, 1 ≤ x) → l.length ≤ l.sum
  | [],_=>by simp
  | x::xs,h=>by
    have h1:=h x (by simp);have h2:=length_le_sum xs (fun y hy=>h y (by simp [hy]));simp only [List.length_cons,List.sum_cons];omega
theorem TT.len_lt_count : {n : Nat} → (t : TT n) → t.len < t.count
  | 0,t=>Empty.elim t
  | n+1,t=>by
    have:=length_le_sum (t.2.2.map (TT.count (n:=n))) (fun x hx=>by simp only [List.mem_map] at hx;obtain ⟨y,_,rfl⟩:=hx;exact y.count_pos)
    simp only [TT.count,TT.len];simp at this
    omega
theorem le_sum_of_mem : ∀ {l : List Nat} {x : Nat}, x ∈ l → x ≤ l.sum
  | y::ys,x,h=>by
    rcases List.mem_cons.1 h with rfl | h
    · simp
    · have:=le_sum_of_mem h
      simp only [List.sum_cons];omega
theorem TT.count_kid {n : Nat} (t : TT (n + 1)) {x : TT n} (h : x ∈ t.2.2) : x.count < t.count := by
  have:=le_sum_of_mem (l:=t.2.2.map (TT.count (n:=n))) (List.mem_map_of_mem h)
  simp only [TT.count];omega
theorem foldl_max_le {l : List Nat} {a m : Nat} : l.foldl max a ≤ m ↔ a ≤ m ∧ ∀ x ∈ l, x ≤ m := by
  induction l generalizing a with
  | nil=>simp
  | cons y ys ih =>
    simp only [List.foldl_cons,ih,List.mem_cons,forall_eq_or_imp,Nat.max_le,and_assoc]
theorem height_le {n : Nat} {t : TT (n + 1)} {m : Nat} : t.height ≤ m ↔ ∀ x ∈ t.2.2, 1 + x.height ≤ m := by
  simp only [TT.height,foldl_max_le,List.mem_map,Nat.zero_le,true_and,forall_exists_index,and_imp,forall_apply_eq_imp_iff₂]
end Go.Proofs.YtalfbnllodhkiacGreatDoor
namespace Go.Proofs.YtalfbnllodhkiacGreatDoor
open Go.ChangeShapes Go.WideShapes Go.ChangeAt Go.RowKit Go.Deep
set_option linter.unusedVariables false
abbrev All : Nat → Prop := fun _ => True
abbrev From (lo : Nat) : Nat → Prop := fun g => lo ≤ g
abbrev But (lo : Nat) (v : Value) : Nat → Prop := fun g => lo ≤ g ∧ v.ownBlock ≠ some g
def TIn (w : World) (O : Nat → Prop) : {n : Nat} → TT n → Option Addr → Prop
  | 0,t,_=>Empty.elim t
  | n+1,t,a=>∀ (i:Nat) (x:TT n),t.2.2[i]?=some x→∃ g o a' c',a=some ⟨g,o,none⟩∧O g ∧
      w.cell? ⟨g,o+i*3,none⟩=some (.int .i64 x.kind)∧w.cell? ⟨g,o+i*3+1,none⟩=some (.int .i64 x.r)∧w.cell? ⟨g,o+i*3+2,none⟩=some (.slice a' x.len c')∧TIn w O (n:=n) x a'
abbrev Tv {n : Nat} (t : TT n) (a : Option Addr) (c : Nat) : Value := .agg #[.int .i64 t.kind, .int .i64 t.r, .slice a t.len c]
abbrev mkT {n : Nat} (k r : Int) (l : List (TT n)) : TT (n + 1) := (k, r, l)
abbrev LIn (w : World) (O : Nat → Prop) {n : Nat} (l : List (TT n)) (a : Option Addr) : Prop := TIn w O (mkT 0 0 l) a
theorem TIn.list {w : World} {O : Nat → Prop} {n : Nat} {t : TT (n + 1)} {a : Option Addr} (h : TIn w O t a) : LIn w O t.2.2 a := h
theorem LIn.tree {w : World} {O : Nat → Prop} {n : Nat} {k r : Int} {l : List (TT n)} {a : Option Addr} (h : LIn w O l a) : TIn w O (mkT k r l) a := h
theorem LIn.at {w : World} {O : Nat → Prop} {n : Nat} {l : List (TT n)} {a : Option Addr} (h : LIn w O l a) {i : Nat} {x : TT n} (hx : l[i]? = some x) :
    ∃ g o a' c',a=some ⟨g,o,none⟩∧O g ∧
      w.cell? ⟨g,o+i*3,none⟩=some (.int .i64 x.kind)∧w.cell? ⟨g,o+i*3+1,none⟩=some (.int .i64 x.r)∧w.cell? ⟨g,o+i*3+2,none⟩=some (.slice a' x.len c')∧TIn w O x a':=h i x hx
theorem LIn.nil {w : World} {O : Nat → Prop} {n : Nat} {a : Option Addr} : LIn w O ([] : List (TT n)) a := fun i x h => by simp at h
theorem TIn.keep {w w' : World} {O O' : Nat → Prop} (hb : ∀ k, O k → k < w.heap.size → w'.heap[k]? = w.heap[k]?) (hl : ∀ k, O k → k < w.heap.size → O' k) : {n : Nat} → {t : TT n} → {a : Option Addr} → TIn w O t a → TIn w' O' t a
  | 0,t,_,_=>Empty.elim t
  | n+1,t,a,h=>fun i x hx=>by
    obtain ⟨g,o,a',c',e,hg,h1,h2,h3,h4⟩:=h i x hx;have hgl:g<w.heap.size:=World.block_lt_of_cell? w ⟨g,o+i*3,none⟩ h1;have hk:w'.heap[g]?=w.heap[g]?:=hb g hg hgl;refine ⟨g,o,a',c',e,hl g hg hgl,?_,?_,?_,TIn.keep hb hl h4⟩
    · exact (World.cell?_of_block (w:=w) (a:=⟨g,o+i*3,none⟩) hk).trans h1
    · exact (World.cell?_of_block (w:=w) (a:=⟨g,o+i*3+1,none⟩) hk).trans h2
    · exact (World.cell?_of_block (w:=w) (a:=⟨g,o+i*3+2,none⟩) hk).trans h3
section
variable {w w' : World} {O O' : Nat → Prop} {n : Nat} {t : TT n} {a : Option Addr}
theorem TIn.below (h : TIn w O t a) (b : Below w.heap.size w w') : TIn w' O t a := h.keep (fun k _ hk => b.block k hk) (fun _ h _ => h)
theorem TIn.mono (h : TIn w O t a) (hl : ∀ k, O k → k < w.heap.size → O' k) : TIn w O' t a := h.keep (fun k _ _ => rfl) hl
theorem TIn.all (h : TIn w O t a) : TIn w All t a := h.mono (fun _ _ _ => trivial)
theorem TIn.alloc (h : TIn w O t a) (o : Obj) : TIn (w.alloc o) O t a := h.keep (fun k _ hk => Below.heap_alloc _ _ _ hk) (fun _ h _ => h)
theorem TIn.setCell (h : TIn w O t a) {p : Addr} (hp : ¬ O p.block) (v : Value) : TIn (w.setCell p v) O t a :=
  h.keep (fun k hk _=>Below.heap_setCell _ _ _ _ (fun e=>by subst e;exact hp hk)) (fun _ h _=>h)
theorem TIn.drew (h : TIn w O t a) : TIn w.drew O t a := h.keep (w := w) (w' := w.drew) (fun k _ _ => rfl) (fun _ h _ => h)
theorem TIn.drewN (h : TIn w O t a) (m : Nat) : TIn (w.drewN m) O t a := h.keep (w := w) (w' := w.drewN m) (fun k _ _ => rfl) (fun _ h _ => h)
end
theorem TT.parts {n : Nat} (t : TT (n + 1)) : t = mkT t.kind t.r t.2.2 := rfl
theorem TT.len_eq {n : Nat} (t : TT (n + 1)) : t.len = t.2.2.length := rfl
theorem list_of {α : Type} {P : Nat → α → Prop} (m : Nat) (h : ∀ i, i < m → ∃ x, P i x) : ∃ l : List α, l.length = m ∧ ∀ i x, l[i]? = some x → P i x := by
  induction m with
  | zero=>exact ⟨[],rfl,fun i x hx=>by simp at hx⟩
  | succ m ih =>
    obtain ⟨l,hl,hp⟩:=ih (fun i hi=>h i (by omega));obtain ⟨x,hx⟩:=h m (by omega);refine ⟨l++[x],by simp [hl],fun i y hy=>?_⟩;rw [List.getElem?_append] at hy;split at hy
    · exact hp i y hy
    · rename_i hi
      have:i=m:=by
        have:=(List.getElem?_eq_some_iff.1 hy).1
        simp at this
        omega
      subst this;simp [hl] at hy;subst hy;exact hx
theorem tin_of {H : Type} {enc : TypeId × Value → H} {P : Program} {w : World} {base : Nat} {spare : Nat → Bool} {held : Bool} {tt ts ti : TypeId} {f0 f1 f2 : Field}
    (hs:P.underlying ts=some (.slice tt)) (ht:P.underlying tt=some (.struct #[f0,f1,f2])) (hc:P.cellsOf tt=3)
    (h0:f0.offset=0∧P.cellsOf f0.type=1∧P.underlying f0.type=some (.int .i64)) (h1:f1.offset=1∧P.cellsOf f1.type=1∧P.underlying f1.type=some (.int .i64))
    (h2:f2.offset=2∧P.cellsOf f2.type=1∧f2.type=ts):∀ (n fuel:Nat),fuel≤n→∀ {cs:List Value} {x:DataW H × List MemPlace},
    DataW.trod enc P w base spare held fuel tt cs=some x→∃ (T:TT n) (a:Option Addr) (c:Nat),cs=[.int .i64 T.kind,.int .i64 T.r,.slice a T.len c]∧TIn w All T a∧T.ok:=by
  intro n
  induction n with
  | zero =>
    intro fuel hf cs x h;obtain rfl:fuel=0:=by omega
    simp [DataW.trod] at h
  | succ n ih =>
    intro fuel hf cs x h;obtain ⟨xs,m,rfl,_,hcl,hxl,hfl⟩:=DataW.trod_struct ht h;have hxl':xs.length=3:=hxl;have g0:=hfl 0 f0 rfl;have g1:=hfl 1 f1 rfl;have g2:=hfl 2 f2 rfl;rw [h0.1,h0.2.1,List.getElem?_eq_getElem (by omega)] at g0;rw [h1.1,h1.2.1,List.getElem?_eq_getElem (by omega)] at g1;rw [h2.1,h2.2.1,h2.2.2,List.getElem?_eq_getElem (by omega)] at g2;obtain ⟨k,e0,_,_⟩:=DataW.trod_int h0.2.2 g0;obtain ⟨r,e1,_,wf1⟩:=DataW.trod_int h1.2.2 g1
    have ew:-9223372036854775808≤r∧r≤9223372036854775807:=by
      have:=Go.bounds_i64 wf1
      omega
    rw [hc] at hcl
    obtain ⟨c0,c1,c2,rfl⟩:∃ c0 c1 c2,cs=[c0,c1,c2]:=by
      match cs,hcl with
      | [c0,c1,c2],_=>exact ⟨_,_,_,rfl⟩
    simp at e0 e1
    subst e0 e1;rcases DataW.trod_slice hs g2 with ⟨e2,_⟩ | ⟨a,len,cap,elems,rest,q,rfl,e2,_,hb,hl,hm,hlen,hel,_,_⟩
    · simp at e2
      subst e2;exact ⟨mkT k r [],none,0,rfl,LIn.nil,ew,fun x hx=>by cases hx⟩
    · simp at e2
      subst e2
      obtain ⟨l,hll,hp⟩:=list_of (P:=fun i (T:TT n)=>∃ a' c',w.cells? base (a.add (i*3)) 3=some [.int .i64 T.kind,.int .i64 T.r,.slice a' T.len c']∧TIn w All T a'∧T.ok) len (fun i hi=>by
        have he:=hel i hi;rw [List.getElem?_eq_getElem (by omega),hc] at he;rw [Option.bind_eq_some_iff] at he;obtain ⟨cs',hcs,htr⟩:=he;obtain ⟨T,a',c',rfl,t1,t2⟩:=ih q (by omega) htr;exact ⟨T,a',c',hcs,t1,t2⟩)
      refine ⟨mkT k r l,some a,cap,by simp [TT.kind,TT.r,TT.len,hll],fun i x hx=>?_,ew,fun x hx=>?_⟩
      · obtain ⟨a',c',hcs,t1,t2⟩:=hp i x hx;obtain ⟨_,hcl',hcell⟩:=World.cells?_some hcs;have q0:=hcell 0 (by omega);have q1:=hcell 1 (by omega);have q2:=hcell 2 (by omega);obtain ⟨b,off,spot⟩:=a
        have hspot:spot=none:=by
          have hi:0<l.length:=Nat.lt_of_le_of_lt (Nat.zero_le i) (List.getElem?_eq_some_iff.1 hx).1;obtain ⟨_,_,hcs0,_,_⟩:=hp 0 l[0] (List.getElem?_eq_getElem hi)
          have:=(World.cells?_some hcs0).2.2 0 (by omega)
          simpa [Addr.add] using World.cell?_spot this
        subst hspot;rw [Go.WideShapes.add_plain,Go.WideShapes.add_plain] at q0 q1 q2;exact ⟨b,off,a',c',rfl,trivial,q0,q1,q2,t1⟩
      · obtain ⟨i,hi,rfl⟩:=List.mem_iff_getElem.1 hx;obtain ⟨a',c',hcs,t1,t2⟩:=hp i l[i] (List.getElem?_eq_getElem hi);exact t2
#print axioms tin_of
end Go.Proofs.YtalfbnllodhkiacGreatDoor
namespace Go.Proofs.YtalfbnllodhkiacGreatDoor
open Go.ChangeShapes Go.WideShapes Go.ChangeAt Go.RowKit
set_option linter.unusedVariables false
structure Bx (w wr : World) (k r : Int) (a : Option Addr) (len c : Nat) : Prop where
  bel:Below w.heap.size w wr
  box:wr.heap[w.heap.size]?=some (.cells #[.int .i64 k,.int .i64 r,.slice a len c] 78 (0,0))
theorem Bx.start (w : World) (k r : Int) (a : Option Addr) (len c : Nat) : Bx w (w.alloc (.cells #[.int .i64 k, .int .i64 r, .slice a len c] 78)) k r a len c :=
  ⟨(Below.refl _ w).alloc (Nat.le_refl _) _,blockNew w _ _⟩
theorem Bx.lt {w wr : World} {k r : Int} {a : Option Addr} {len c : Nat} (h : Bx w wr k r a len c) : w.heap.size < wr.heap.size := lt_of_block h.box
theorem Bx.below {w wr w' : World} {k r : Int} {a : Option Addr} {len c : Nat} (h : Bx w wr k r a len c) (b : Below wr.heap.size wr w') : Bx w w' k r a len c :=
  ⟨h.bel.trans (b.mono h.bel.size),box_cells h.box b⟩
theorem Bx.alloc {w wr : World} {k r : Int} {a : Option Addr} {len c : Nat} (h : Bx w wr k r a len c) (o : Obj) : Bx w (wr.alloc o) k r a len c :=
  h.below ((Below.refl _ wr).alloc (Nat.le_refl _) _)
theorem Bx.drewN {w wr : World} {k r : Int} {a : Option Addr} {len c : Nat} (h : Bx w wr k r a len c) (m : Nat) : Bx w (wr.drewN m) k r a len c := ⟨⟨h.bel.os, h.bel.tape, h.bel.output, h.bel.size, h.bel.block⟩, h.box⟩
theorem Bx.drew {w wr : World} {k r : Int} {a : Option Addr} {len c : Nat} (h : Bx w wr k r a len c) : Bx w wr.drew k r a len c := h.drewN 1
theorem sum_take_succ {α : Type} (f : α → Nat) (l : List α) (i : Nat) (x : α) (h : l[i]? = some x) : ((l.map f).take (i + 1)).sum = ((l.map f).take i).sum + f x := by
  rw [List.take_add_one,List.getElem?_map,h];simp
def FaultAt (f : Nat) (n : Nat) : Prop := ∀ (t : TT n) (a : Option Addr) (c : Nat) (regs : Int) (w : World), TIn w All t a → t.count ≤ 100000 →
    Calls Tryz.prog f #[Tv t a c,.int .i64 regs] w fun e w'=>e=.returned (.int .i64 (t.fault regs))∧Below w.heap.size w w'
end Go.Proofs.YtalfbnllodhkiacGreatDoor
namespace Go.Proofs.YtalfbnllodhkiacGreatDoor
open Go.ChangeShapes Go.WideShapes Go.ChangeAt Go.RowKit Go.Shelf
set_option linter.unusedVariables false
theorem sizeB : (Tryz.prog.info? 88).map (·.size) = some 2 := by kernel_rfl
theorem liesB : liesAt Tryz.prog Tryz.prog.depth 88 (2 / Tryz.prog.cellsOf 88) 0 88 1 = true := by kernel_rfl
theorem infoByte : (Tryz.prog.info? 5).map (fun i => (i.zero, i.size, i.bytes)) = some (some (.int .u8 0), 1, 1) := by kernel_rfl
theorem cc_used (b : Nat) (w : World) (h0 : w.cell? ⟨b, 0, none⟩ = some (.pointer (some ⟨b, 0, none⟩))) :
    Calls Tryz.prog 188 #[.pointer (some ⟨b,0,none⟩)] w fun e w'=>e=.returned (.tuple #[])∧w'=w:=by
  obtain ⟨j,hj,_⟩:=Option.map_eq_some_iff.1 sizeB;go_enter Tryz.func188,Tryz.ntmps188
  go_wp2
  rw [Lib.run_neq_ptr_same w _ Tryz.underlying85 hj];go_wp2
  go_end0
  exact ⟨rfl,rfl⟩
theorem cc_fresh (b : Nat) (w : World) (h0 : w.cell? ⟨b, 0, none⟩ = some (.pointer none)) (hsh : w.shape? b = some (88, 2)) (hfz : w.frozen? ⟨b, 0, none⟩ = false) :
    Calls Tryz.prog 188 #[.pointer (some ⟨b,0,none⟩)] w fun e w'=>e=.returned (.tuple #[])∧w'=w.setCell ⟨b,0,none⟩ (.pointer (some ⟨b,0,none⟩)):=by
  obtain ⟨j,hj,hjs⟩:=Option.map_eq_some_iff.1 sizeB;go_enter Tryz.func188,Tryz.ntmps188
  go_wp2
  rw [Lib.run_to_unsafe w ⟨b,0,none⟩ Tryz.underlying85 Tryz.underlying220 hj (by rw [hjs];decide) hsh (Nat.zero_lt_succ 1)];simp only [Result.andThen];rw [Oper.upon_value];go_wp2
  rw [run_callFunc_extern Tryz.func219 (by kernel_rfl) (by kernel_rfl) (by kernel_rfl) (e:=Extern.AbiNoEscape.same) (by kernel_rfl)];rw [Lib.run_noEscape];simp only [Result.andThen];rw [Oper.upon_value];go_wp2
  rw [Lib.run_from_unsafe w ⟨b,0,none⟩ Tryz.underlying220 Tryz.underlying85 hj hsh liesB];simp only [Result.andThen];rw [Oper.upon_value];go_wp2
  go_end0
  exact ⟨rfl,rfl⟩
theorem cc_any (B b : Nat) (bs : List Value) (w : World) (h : Lib.IsBuilderF 88 5 B b bs w) :
    Calls Tryz.prog 188 #[.pointer (some ⟨b,0,none⟩)] w fun e w'=>e=.returned (.tuple #[])∧(Lib.BuilderAtF 88 5 B b (.pointer (some ⟨b,0,none⟩)) bs w'∧Below B w w'∧Lib.OthersKept 5 (some b) w w'):=by
  rcases h with h | h
  · refine (cc_fresh b w h.cell0 h.shape h.frozen0).mono ?_;rintro e w' ⟨rfl,rfl⟩;exact ⟨rfl,h.used _,(Below.refl B w).setCell (p:=⟨b,0,none⟩) h.1 _,(Lib.OthersKept.refl _ _ w).setCell ⟨b,0,none⟩ rfl _⟩
  · refine (cc_used b w h.cell0).mono ?_;rintro e w' ⟨rfl,rfl⟩;exact ⟨rfl,h,Below.refl B _,Lib.OthersKept.refl _ _ _⟩
theorem ws_any (B b : Nat) (bs : List Value) (s : ByteArray) (w : World) (h : Lib.IsBuilderF 88 5 B b bs w) (hlen : bs.length + s.size ≤ 140737488355328) (hBw : B ≤ w.heap.size) :
    Calls Tryz.prog 149 #[.pointer (some ⟨b,0,none⟩),.string s] w fun e w'=>e=.returned (.tuple #[.int .i64 s.size,.nilIface])∧(Lib.BuilderAtF 88 5 B b (.pointer (some ⟨b,0,none⟩)) (bs++Lib.strCells s) w'∧Below B w w'∧Lib.OthersKept 5 (some b) w w'):=by
  obtain ⟨i0,hi,hz0,hz1,hz2⟩:=info_parts infoByte;go_enter Tryz.func149,Tryz.ntmps149
  go_wp2_with fail
  refine (cc_any B b bs _ h).mono ?_;rintro e w1 ⟨rfl,h1,hb1,hk1⟩;obtain ⟨hB,v,hbk,hown,hne⟩:=h1;have c0:w1.cell? ⟨b,0,none⟩=some (.pointer (some ⟨b,0,none⟩)):=by rw [Lib.cell_of_heap hbk];rfl
  have c1:w1.cell? ⟨b,1,none⟩=some v:=by rw [Lib.cell_of_heap hbk];rfl
  go_wp2_with (at_builtin;refine Lib.wpList_append_own_stringF _ rfl _ _ 86 9 rfl B 5 i0 Tryz.underlying86 Tryz.underlying9 hi hz0 hz1 hz2 _ _ _ rfl hown s rfl ?c3 ?c4 ?c5 ?_)
  case c3=>unfold maxLen;omega
  case c4=>omega
  case c5=>have:=hb1.size;omega
  intro v' w2 hown' hgrow _;have hlt:b<w1.heap.size:=lt_of_block hbk
  have hb2:w2.heap[b]?=some (.cells #[.pointer (some ⟨b,0,none⟩),v] 88 (0,0)):=by
    rw [hgrow.block b hlt (fun e=>hne e.symm)];exact hbk
  have d0:w2.cell? ⟨b,0,none⟩=some (.pointer (some ⟨b,0,none⟩)):=by rw [Lib.cell_of_heap hb2];rfl
  have d1:w2.cell? ⟨b,1,none⟩=some v:=by rw [Lib.cell_of_heap hb2];rfl
  have f1:w2.frozen? ⟨b,1,none⟩=false:=Lib.frozen_of_heap hb2 1
  obtain ⟨ao,n',cap,rfl⟩:∃ ao n' cap,v'=.slice ao n' cap:=by
    rcases hown'.2 with ⟨hv,_⟩ | ⟨g,cap,cur,fz,hv,_⟩
    · exact ⟨_,_,_,hv⟩
    · exact ⟨_,_,_,hv⟩
  go_wp2
  go_ret2;refine ⟨rfl,?_,?_,(hk1.grown hgrow (Lib.ownsRowF_kind hown)).setCell ⟨b,1,none⟩ rfl _⟩
  · exact Lib.BuilderAtF.put (T:=88) (e:=5) hB hb2 (bs':=bs++Lib.strCells s) (by simpa [Lib.strCells_length] using hown') (by decide)
  · exact (hb1.grown hgrow (by have:=hb1.size;omega) (fun k hk=>(hown.lt k hk).1)).setCell (p:=⟨b,1,none⟩) hB _
theorem str_any (B b : Nat) (l : List UInt8) (w : World) (h : Lib.IsBuilderF 88 5 B b (Lib.byteCells l) w) (hBw : B ≤ w.heap.size) :
    Calls Tryz.prog 47 #[.pointer (some ⟨b,0,none⟩)] w fun e w'=>e=.returned (.string ⟨l.toArray⟩)∧Below B w w' :=
  (Any.Builder_String_any_k Tryz.lays169 Tryz.Builder_Extra_169 B b l w h hBw).mono fun e w' h=>⟨h.1,h.2.2.1⟩
abbrev powN : String := "internal/strconv.uint64pow10"
abbrev Pows (w : World) : Prop := Lib.TabIs Tryz.prog w powN .u64 Lib.pow10Tab
theorem itoa_any (n : Int) (h0 : -9223372036854775808 ≤ n ∧ n ≤ 9223372036854775807) (w : World) (ht : Pows w) :
    Calls Tryz.prog 88 #[.int .i64 n] w fun e w'=>e=.returned (.string ⟨(Lib.itoa n).toArray⟩)∧Below w.heap.size w w' :=
  (Any.strconv_Itoa Tryz.laysM171 n h0.1 h0.2 w ht).mono fun e w' h=>⟨h.1,by
    obtain ⟨k,os,rfl⟩:=h.2;exact Lib.below_grow _ w (Nat.le_refl _) k os⟩
theorem gvar_below {w w' : World} {n : String} {cs : Array Value} (h : w.var? Tryz.prog n = some cs) (hb : Below w.heap.size w w') : w'.var? Tryz.prog n = some cs := by
  unfold World.var? at h ⊢
  cases e:Tryz.prog.globalNamed n with
  | none=>rw [e] at h;cases h
  | some g =>
    rw [e] at h;simp only [Option.bind_some] at h ⊢
    have hlt:g<w.heap.size:=by
      rcases Nat.lt_or_ge g w.heap.size with h' | h'
      · exact h'
      · rw [Array.getElem?_eq_none h'] at h;cases h
    rw [hb.block g hlt];exact h
theorem Pows.below {w w' : World} (h : Pows w) (hb : Below w.heap.size w w') : Pows w' := gvar_below h hb
theorem bld_below {T e : TypeId} {B b : Nat} {bs : List Value} {w w' : World} (h : Lib.IsBuilderF T e B b bs w) (hb : Below w.heap.size w w') : Lib.IsBuilderF T e B b bs w' := by
  have key:∀ p,Lib.BuilderAtF T e B b p bs w→Lib.BuilderAtF T e B b p bs w':=by
    rintro p ⟨h1,v,h2,⟨h3,h4⟩,h5⟩;refine ⟨h1,v,(hb.block b (lt_of_block h2)).trans h2,⟨h3,?_⟩,h5⟩;rcases h4 with h4 | ⟨g,cap,cur,fz,e1,e2,e3,r⟩
    · exact Or.inl h4
    · exact Or.inr ⟨g,cap,cur,fz,e1,e2,(hb.block g (lt_of_block e3)).trans e3,r⟩
  exact h.elim (fun x=>Or.inl (key _ x)) (fun x=>Or.inr (key _ x))
end Go.Proofs.YtalfbnllodhkiacGreatDoor
namespace Go.Proofs.YtalfbnllodhkiacGreatDoor
set_option linter.unusedVariables false
def catL : List (List UInt8) → List UInt8
  | []=>[]
  | x::xs=>x++xs.flatMap (fun y=>[44,32]++y)
theorem catL_snoc (ls : List (List UInt8)) (x : List UInt8) : catL (ls ++ [x]) = catL ls ++ (if ls.length = 0 then [] else [44, 32]) ++ x := by
  cases ls with
  | nil=>simp [catL]
  | cons y ys=>simp [catL,List.flatMap_append]
def TT.txt : {n : Nat} → TT n → List UInt8
  | 0,t=>Empty.elim t
  | n+1,t =>
    if t.1=2 then [104,97,110,100,108,101,32]++Lib.itoa t.2.1
    else if t.1=4 then [97,114,114,97,121,32]++Lib.itoa t.2.1
    else if t.1=3 then [116,117,112,108,101,32]++Lib.itoa t.2.1++[32,40]++catL (t.2.2.map (TT.txt (n:=n)))++[41]
    else [105,110,116]
theorem catL_len : ∀ (ls : List (List UInt8)), (catL ls).length ≤ (ls.map (fun x => x.length + 2)).sum := by
  intro ls
  cases ls with
  | nil=>simp [catL]
  | cons y ys =>
    have:∀ zs:List (List UInt8),(zs.flatMap (fun y=>[44,32]++y)).length=(zs.map (fun x=>x.length+2)).sum:=by
      intro zs
      induction zs with
      | nil=>rfl
      | cons z zs ih=>rw [List.flatMap_cons,List.length_append,ih,List.map_cons,List.sum_cons];simp
    simp only [catL,List.length_append,this,List.map_cons,List.sum_cons];omega
theorem sum_map_le {α : Type} {f g : α → Nat} : ∀ {l : List α}, (∀ x ∈ l, f x ≤ g x) → (l.map f).sum ≤ (l.map g).sum
  | [],_=>by simp
  | x::xs,h=>by
    have h1:=h x (by simp);have h2:=sum_map_le (l:=xs) (fun y hy=>h y (by simp [hy]));simp only [List.map_cons,List.sum_cons];omega
theorem sum_map_mul {α : Type} {f : α → Nat} (k : Nat) : ∀ {l : List α}, (l.map (fun x => k * f x)).sum = k * (l.map f).sum
  | []=>by simp
  | x::xs=>by simp only [List.map_cons,List.sum_cons,sum_map_mul k (l:=xs),Nat.mul_add]
theorem TT.txt_len : {n : Nat} → {t : TT n} → t.ok → t.txt.length + 8 ≤ 40 * t.count
  | 0,t,_=>Empty.elim t
  | n+1,t,h=>by
    have hi:=Lib.itoa_length_le t.2.1 h.1.1 h.1.2;have h1:=catL_len (t.2.2.map (TT.txt (n:=n)))
    have h2:((t.2.2.map (TT.txt (n:=n))).map (fun x=>x.length+2)).sum≤40*(t.2.2.map (TT.count (n:=n))).sum:=by
      rw [List.map_map,← sum_map_mul];exact sum_map_le (fun x hx=>by have:=TT.txt_len (h.2 x hx);simp only [Function.comp];omega)
    have h3:=Nat.le_trans h1 h2;clear h1 h2;simp only [TT.txt,TT.count];generalize (t.2.2.map (TT.count (n:=n))).sum=s at h3 ⊢;split
    · simp;omega
    · split
      · simp;omega
      · split
        · simp only [List.length_append,List.length_cons,List.length_nil];omega
        · simp;omega
theorem cat_take_len {n : Nat} {l : List (TT n)} (h : ∀ x ∈ l, x.ok) (q : Nat) : (catL ((l.take q).map TT.txt)).length ≤ 40 * ((l.map TT.count).take q).sum := by
  refine Nat.le_trans (catL_len _) ?_;rw [List.map_map,← List.map_take,← sum_map_mul];exact sum_map_le (fun x hx=>by have:=TT.txt_len (h x (List.mem_of_mem_take hx));simp only [Function.comp];omega)
end Go.Proofs.YtalfbnllodhkiacGreatDoor
namespace Go.Proofs.YtalfbnllodhkiacGreatDoor
open Go.ChangeShapes Go.WideShapes Go.ChangeAt Go.RowKit
set_option linter.unusedVariables false
abbrev Lt (B : Nat) : Nat → Prop := fun g => g < B
theorem TIn.lt {w w' : World} {B n : Nat} {t : TT n} {a : Option Addr} (h : TIn w (Lt B) t a) (b : Below B w w') : TIn w' (Lt B) t a := h.keep (fun k hk _ => b.block k hk) (fun _ h _ => h)
def PowB (B : Nat) (w : World) : Prop := ∀ w', Below B w w' → Pows w'
theorem PowB.on {B : Nat} {w w1 : World} (h : PowB B w) (b : Below B w w1) : PowB B w1 := fun w' h' => h w' (b.trans h')
abbrev IsB (B b : Nat) (bs : List UInt8) (w : World) : Prop := Lib.IsBuilderF 88 5 B b (Lib.byteCells bs) w
theorem ws_bytes (B b : Nat) (bs s : List UInt8) (w : World) (h : IsB B b bs w) (hlen : bs.length + s.length ≤ 1000000000) (hBw : B ≤ w.heap.size) :
    Calls Tryz.prog 149 #[.pointer (some ⟨b,0,none⟩),.string ⟨s.toArray⟩] w fun e w'=>(∃ v,e=.returned v)∧IsB B b (bs++s) w'∧Below B w w'∧Lib.OthersKept 5 (some b) w w':=by
  refine (ws_any B b (Lib.byteCells bs) ⟨s.toArray⟩ w h (by rw [Lib.byteCells_length];show _+s.toArray.size≤_;simp;omega) hBw).mono ?_;rintro e w' ⟨rfl,h1,h2,h3⟩;refine ⟨⟨_,rfl⟩,?_,h2,h3⟩;rw [Lib.strCells_toArray,← Lib.byteCells_append] at h1;exact Or.inr h1
theorem bld_lt {B b : Nat} {bs : List UInt8} {w : World} (h : IsB B b bs w) : b < w.heap.size := by
  rcases h with ⟨_,v,h,_⟩ | ⟨_,v,h,_⟩ <;> exact lt_of_block h
def WriteAt (n : Nat) : Prop := ∀ (t : TT n) (a : Option Addr) (c B bb : Nat) (bs : List UInt8) (w : World), IsB B bb bs w → TIn w (Lt B) t a → t.count ≤ 2000 → t.ok → B ≤ w.heap.size → PowB B w → bs.length + 100 * t.count ≤ 1000000000 →
    Calls Tryz.prog 190 #[.pointer (some ⟨bb,0,none⟩),Tv t a c] w fun e w'=>e=.returned (.tuple #[])∧IsB B bb (bs++t.txt) w'∧Below B w w'
def WriteLAt (n : Nat) : Prop := ∀ (l : List (TT n)) (a : Option Addr) (c B bb : Nat) (bs : List UInt8) (w : World), IsB B bb bs w → LIn w (Lt B) l a → (∀ x ∈ l, x.count ≤ 2000) → l.length ≤ 2000 → (∀ x ∈ l, x.ok) → B ≤ w.heap.size → PowB B w → bs.length + 100 * (l.map TT.count).sum ≤ 1000000000 →
    Calls Tryz.prog 221 #[.pointer (some ⟨bb,0,none⟩),.slice a l.length c] w fun e w'=>e=.returned (.tuple #[])∧IsB B bb (bs++catL (l.map TT.txt)) w'∧Below B w w'
theorem writeList_any (n : Nat) (IH0 : WriteAt n) : WriteLAt n := by
  intro l a c B bb bs w hB0 hl0 hco0 hlen hok0 hBw hp0 hbs;have IH:Hid (WriteAt n):=IH0;have hl:Hid (LIn w (Lt B) l a):=hl0;have hco:Hid (∀ x∈l,x.count≤2000):=hco0;have hok:Hid (∀ x∈l,x.ok):=hok0;have hp:Hid (PowB B w):=hp0;have hB:Hid (IsB B bb bs w):=hB0;have hbs':Hid (bs.length+100*(l.map TT.count).sum≤1000000000):=hbs;clear IH0 hl0 hco0 hok0 hp0 hB0 hbs;go_enter Tryz.func221,Tryz.ntmps221
  go_wp2_with fail
  go_loopw [8] (fun i wr=>∃ q:Nat,q≤l.length∧i=.int .i64 q∧IsB B bb (bs++catL ((l.take q).map TT.txt)) wr∧Below B w wr) (fun i _=>l.length - (intOf i).toNat)
  case atStart=>exact ⟨0,Nat.zero_le _,rfl,by simpa [catL] using hB.out,Below.refl _ _⟩
  case round =>
    obtain ⟨q,hq,rfl,hI,hb⟩:=hrel;have I:Hid (IsB B bb (bs++catL ((l.take q).map TT.txt)) wr):=hI;have Bl:Hid (Below B w wr):=hb;clear hI hb;by_cases hlt:q<l.length
    · have hx:l[q]?=some l[q]:=List.getElem?_eq_getElem hlt;generalize l[q]=x at hx;obtain ⟨g,o,a',c',rfl,hgB,d0,d1,d2,hk⟩:=LIn.at (hl.out.lt Bl.out) hx;have hg:g<wr.heap.size:=World.block_lt_of_cell? wr ⟨g,o+q*3,none⟩ d0;have hmem:=List.mem_of_getElem? hx
      have hS:catL ((l.take (q+1)).map TT.txt)=catL ((l.take q).map TT.txt)++(if q=0 then [] else [44,32])++x.txt:=by
        rw [List.take_add_one,hx,Option.toList_some,List.map_append,List.map_cons,List.map_nil,catL_snoc];rw [List.length_map,List.length_take,Nat.min_eq_left (by omega)]
      have hlq:=cat_take_len hok.out q;have hsq:=sum_take_succ TT.count l q x hx;have hsl:=sum_take_le (l.map TT.count) (q+1);have hbs'':=hbs'.out;have hcp:=x.count_pos;have hl0:∀ y∈(l.map TT.count).take q,1≤y:=fun y hy=>by obtain ⟨z,_,rfl⟩:=List.mem_map.1 (List.mem_of_mem_take hy);exact z.count_pos
      have hl3:=length_le_sum _ hl0;rw [List.length_take,List.length_map] at hl3
      have hL:Hid ((bs++catL ((l.take q).map TT.txt)).length+(if q=0 then 0 else 2)+100*x.count≤1000000000):=by
        show _≤_;rw [List.length_append];split <;> omega
      have S:Hid (catL ((l.take (q+1)).map TT.txt)=catL ((l.take q).map TT.txt)++(if q=0 then [] else [44,32])++x.txt):=hS
      have C:Hid (∀ (bs':List UInt8) (wx:World),Below B wr wx→IsB B bb bs' wx→bs'.length+100*x.count≤1000000000→Calls Tryz.prog 190 #[.pointer (some ⟨bb,0,none⟩),Tv x a' c'] wx fun e w'=>e=.returned (.tuple #[])∧IsB B bb (bs'++x.txt) w'∧Below B wx w') :=
        fun bs' wx hb hI hl'=>IH.out x a' c' B bb bs' wx hI (hk.lt hb) (hco.out x hmem) (hok.out x hmem) (by have:=Bl.out.size;have:=hb.size;omega) ((hp.out.on Bl.out).on hb) hl'
      have hk0:(0:Int)≤q:=by omega
      have hk1:(q:Int)<l.length:=by omega
      have hk2:(q:Int)<2000:=by omega
      clear hS hlq hsq hsl hbs'' hcp hl0 hl3 hk hx hmem;simp only [Tv] at C;generalize x.kind=kx at C d0;generalize x.r=rx at C d1;generalize x.len=lx at C d2;have hbw:=Bl.out.size;have b1:Below B wr (wr.alloc (.cells #[.int .i64 kx,.int .i64 rx,.slice a' lx c'] 78)):=(Below.refl B wr).alloc (by omega) _;have I1:Hid (IsB B bb (bs++catL ((l.take q).map TT.txt)) (wr.alloc (.cells #[.int .i64 kx,.int .i64 rx,.slice a' lx c'] 78))):=I.out.alloc _;by_cases hz:q=0
      · have hz':¬ (0:Int)<q:=by omega
        have R:Hid (bs++catL ((l.take (q+1)).map TT.txt)=bs++catL ((l.take q).map TT.txt)++x.txt):=by rw [S.out,if_pos hz];show _=_;simp
        have L2:Hid ((bs++catL ((l.take q).map TT.txt)).length+100*x.count≤1000000000):=by have:=hL.out;rw [if_pos hz] at this;exact this
        clear hz;go_wp2_with fail
        refine (C.out _ _ b1 I1.out L2.out).mono ?_;rintro e w2 ⟨rfl,I2,b2⟩;have I3:Hid (IsB B bb (bs++catL ((l.take (q+1)).map TT.txt)) w2):=by rw [R.out];exact I2
        have B3:Hid (Below B w w2):=Bl.out.trans (b1.trans b2);clear I2 b2 I1 I C b1;go_wp2
        go_roundw
        case rel=>exact ⟨q+1,by omega,by go_num,I3.out,B3.out⟩
        case measure=>simp [intOf];omega
      · have hz':(0:Int)<q:=by omega
        have R:Hid (bs++catL ((l.take (q+1)).map TT.txt)=bs++catL ((l.take q).map TT.txt)++[44,32]++x.txt):=by rw [S.out,if_neg hz];show _=_;simp
        have L2:Hid ((bs++catL ((l.take q).map TT.txt)).length+2+100*x.count≤1000000000):=by have:=hL.out;rw [if_neg hz] at this;exact this
        have hBb:Hid (B≤(wr.alloc (.cells #[.int .i64 kx,.int .i64 rx,.slice a' lx c'] 78)).heap.size):=by show _≤_;simp;omega
        have hne:Hid (wr.heap.size≠bb):=fun e=>by have:=bld_lt I.out;omega
        clear hz;go_wp2_with fail
        refine (ws_bytes B bb _ [44,32] _ I1.out (by have:=L2.out;simp only [List.length_cons,List.length_nil];omega) hBb.out).mono ?_;rintro e w2 ⟨⟨v,rfl⟩,I2,b2,k2⟩;have x2:w2.heap[wr.heap.size]?=some (.cells #[.int .i64 kx,.int .i64 rx,.slice a' lx c'] 78 (0,0)):=k2 _ _ (blockNew wr _ _) (fun e=>hne.out (Option.some.inj e)) (fun _ _ e=>by cases e);have e0:=cellOf x2 0 _ rfl;have e1:=cellOf x2 1 _ rfl;have e2:=cellOf x2 2 _ rfl;have I2':Hid (IsB B bb (bs++catL ((l.take q).map TT.txt)++[44,32]) w2):=I2;have b3:Below B wr w2:=b1.trans b2;clear k2 b2 I2 x2 I1 I b1;go_wp2_with fail
        refine (C.out _ _ b3 I2'.out (by have:=L2.out;rw [List.length_append];simpa using this)).mono ?_;rintro e w3 ⟨rfl,I3,b4⟩;have I4:Hid (IsB B bb (bs++catL ((l.take (q+1)).map TT.txt)) w3):=by rw [R.out];exact I3
        have B4:Hid (Below B w w3):=Bl.out.trans (b3.trans b4);clear I3 b4 b3 C;go_wp2
        go_roundw
        case rel=>exact ⟨q+1,by omega,by go_num,I4.out,B4.out⟩
        case measure=>simp [intOf];omega
    · have hk1:¬ (q:Int)<l.length:=by omega
      have htt:l.take q=l:=List.take_of_length_le (by omega);have I2:=I.out;rw [htt] at I2;have I3:Hid (IsB B bb (bs++catL (l.map TT.txt)) wr):=I2;clear I2 htt I;go_wp2
      go_end0
      exact ⟨rfl,I3.out,Bl.out⟩
theorem write_any : ∀ n, WriteAt n := by
  intro n
  induction n with
  | zero=>intro t;exact Empty.elim t
  | succ n ih =>
    intro t a c B bb bs w hB0 ht hct hok0 hBw hp0 hbs;have hco:∀ x∈t.2.2,x.count≤2000:=fun x hx=>by have:=t.count_kid hx;omega
    have hlen:t.2.2.length≤2000:=by have:=t.len_lt_count;rw [t.len_eq] at this;omega
    have hcnt:t.count=1+(t.2.2.map TT.count).sum:=rfl
    have CL:Hid (∀ (bs':List UInt8) (wx:World),Below B w wx→IsB B bb bs' wx→bs'.length+100*(t.2.2.map TT.count).sum≤1000000000→Calls Tryz.prog 221 #[.pointer (some ⟨bb,0,none⟩),.slice a t.2.2.length c] wx fun e w'=>e=.returned (.tuple #[])∧IsB B bb (bs'++catL (t.2.2.map TT.txt)) w'∧Below B wx w') :=
      fun bs' wx hb hI hl=>writeList_any n ih t.2.2 a c B bb bs' wx hI (ht.lt hb) hco hlen hok0.2 (by have:=hb.size;omega) (hp0.on hb) hl
    have hp:Hid (PowB B w):=hp0;have hB:Hid (IsB B bb bs w):=hB0;have hT:Hid (t.txt=if t.kind=2 then [104,97,110,100,108,101,32]++Lib.itoa t.r else if t.kind=4 then [97,114,114,97,121,32]++Lib.itoa t.r else if t.kind=3 then [116,117,112,108,101,32]++Lib.itoa t.r++[32,40]++catL (t.2.2.map TT.txt)++[41] else [105,110,116]):=rfl;have hr:Hid (-9223372036854775808≤t.r∧t.r≤9223372036854775807):=hok0.1
    have hcl:Hid ((catL (t.2.2.map TT.txt)).length≤40*(t.2.2.map TT.count).sum):=by
      have:=cat_take_len hok0.2 t.2.2.length
      rw [List.take_of_length_le (Nat.le_refl _),List.take_of_length_le (by simp)] at this;exact this
    rw [hcnt] at hbs;have hbs':Hid (bs.length+100*(1+(t.2.2.map TT.count).sum)≤1000000000):=hbs;clear hbs hcnt;generalize t.txt=res at hT ⊢;simp only [Tv,TT.len_eq];generalize (t.2.2.map TT.count).sum=s at CL hbs' hcl;generalize catL (t.2.2.map TT.txt)=cl at CL hT hcl;generalize t.2.2.length=len at CL ⊢;generalize t.kind=k at hT ⊢;generalize t.r=r at hT hr ⊢;clear hct hok0 hp0 hco hlen ih hB0 ht t;have hzl:(Lib.itoa r).length≤21:=Lib.itoa_length_le r hr.out.1 hr.out.2
    have CI:Hid (∀ wx,Below B w wx→Calls Tryz.prog 88 #[.int .i64 r] wx fun e w'=>e=.returned (.string ⟨(Lib.itoa r).toArray⟩)∧Below wx.heap.size wx w') :=
      fun wx hb=>itoa_any r hr.out wx (hp.out wx hb)
    generalize Lib.itoa r=z at hT CI hzl;have X0:=Bx.start w k r a len c;have b0:Below B w (w.alloc (.cells #[.int .i64 k,.int .i64 r,.slice a len c] 78)):=(Below.refl B w).alloc hBw _;have I0:Hid (IsB B bb bs (w.alloc (.cells #[.int .i64 k,.int .i64 r,.slice a len c] 78))):=hB.out.alloc _;have hne:Hid (w.heap.size≠bb):=fun e=>by have:=bld_lt hB.out;omega
    by_cases h2:k=2
    · subst h2;have R:Hid (res=[104,97,110,100,108,101,32]++z):=hT.out.trans (if_pos rfl);go_enter Tryz.func190,Tryz.ntmps190
      go_wp2_with fail
      generalize w.alloc (.cells #[.int .i64 2,.int .i64 r,.slice a len c] 78)=w1 at X0 b0 I0 ⊢;refine (CI.out w1 b0).mono ?_;rintro e w2 ⟨rfl,b2⟩;have I2:Hid (IsB B bb bs w2):=bld_below I0.out b2;have b02:Below B w w2:=b0.trans (b2.mono (by have:=b0.size;omega));have B02:Hid (Below B w w2):=b02;clear b0 b2 b02 X0 I0 CI;go_wp2_with fail
      rw [ByteArray.mk_append_mk [104,97,110,100,108,101,32] z];refine (ws_bytes B bb bs ([104,97,110,100,108,101,32]++z) w2 I2.out (by have:=hbs'.out;rw [List.length_append];simp only [List.length_cons,List.length_nil];omega) (by have:=B02.out.size;omega)).mono ?_;rintro e w3 ⟨⟨v,rfl⟩,I3,b3,_⟩;have I4:Hid (IsB B bb (bs++res) w3):=by rw [R.out];exact I3
      have B4:Hid (Below B w w3):=B02.out.trans b3;clear I3 b3;go_wp2
      go_end0
      exact ⟨rfl,I4.out,B4.out⟩
    by_cases h4:k=4
    · subst h4;have R:Hid (res=[97,114,114,97,121,32]++z):=hT.out.trans ((if_neg (by decide)).trans (if_pos rfl));go_enter Tryz.func190,Tryz.ntmps190
      go_wp2_with fail
      generalize w.alloc (.cells #[.int .i64 4,.int .i64 r,.slice a len c] 78)=w1 at X0 b0 I0 ⊢;refine (CI.out w1 b0).mono ?_;rintro e w2 ⟨rfl,b2⟩;have I2:Hid (IsB B bb bs w2):=bld_below I0.out b2;have b02:Below B w w2:=b0.trans (b2.mono (by have:=b0.size;omega));have B02:Hid (Below B w w2):=b02;clear b0 b2 b02 X0 I0 CI;go_wp2_with fail
      rw [ByteArray.mk_append_mk [97,114,114,97,121,32] z];refine (ws_bytes B bb bs ([97,114,114,97,121,32]++z) w2 I2.out (by have:=hbs'.out;rw [List.length_append];simp only [List.length_cons,List.length_nil];omega) (by have:=B02.out.size;omega)).mono ?_;rintro e w3 ⟨⟨v,rfl⟩,I3,b3,_⟩;have I4:Hid (IsB B bb (bs++res) w3):=by rw [R.out];exact I3
      have B4:Hid (Below B w w3):=B02.out.trans b3;clear I3 b3;go_wp2
      go_end0
      exact ⟨rfl,I4.out,B4.out⟩
    have g2:(k==2)=false:=by simpa using h2
    have g4:(k==4)=false:=by simpa using h4
    by_cases h3:k=3
    · subst h3;clear g2 g4 h2 h4
      have R:Hid (bs++res=bs++([116,117,112,108,101,32]++z++[32,40])++cl++[41]):=by
        show _=_;rw [hT.out,if_neg (by decide),if_neg (by decide),if_pos rfl];simp
      clear hT;go_enter Tryz.func190,Tryz.ntmps190
      go_wp2_with fail
      generalize w.alloc (.cells #[.int .i64 3,.int .i64 r,.slice a len c] 78)=w1 at X0 b0 I0 ⊢;refine (CI.out w1 b0).mono ?_;rintro e w2 ⟨rfl,b2⟩;have I2:Hid (IsB B bb bs w2):=bld_below I0.out b2;have X2:Hid (Bx w w2 3 r a len c):=X0.below b2;have b02:Below B w w2:=b0.trans (b2.mono (by have:=b0.size;omega));have B02:Hid (Below B w w2):=b02;clear b0 b2 b02 X0 I0 CI;go_wp2_with fail
      rw [ByteArray.mk_append_mk [116,117,112,108,101,32] z,ByteArray.mk_append_mk ([116,117,112,108,101,32]++z) [32,40]];refine (ws_bytes B bb bs ([116,117,112,108,101,32]++z++[32,40]) w2 I2.out (by have:=hbs'.out;rw [List.length_append,List.length_append];simp only [List.length_cons,List.length_nil];omega) (by have:=B02.out.size;omega)).mono ?_;rintro e w3 ⟨⟨v,rfl⟩,I3,b3,k3⟩;have x3:w3.heap[w.heap.size]?=some (.cells #[.int .i64 3,.int .i64 r,.slice a len c] 78 (0,0)):=k3 _ _ X2.out.box (fun e=>hne.out (Option.some.inj e)) (fun _ _ e=>by cases e);have e2:w3.cell? ⟨w.heap.size,2,none⟩=some (.slice a len c):=cellOf x3 2 _ rfl;have I3':Hid (IsB B bb (bs++([116,117,112,108,101,32]++z++[32,40])) w3):=I3;have B3:Hid (Below B w w3):=B02.out.trans b3
      have hl3:Hid ((bs++([116,117,112,108,101,32]++z++[32,40])).length+100*s≤1000000000∧(bs++([116,117,112,108,101,32]++z++[32,40])++cl).length+1≤1000000000):=by
        have:=hbs'.out
        have:=hcl.out
        refine ⟨?_,?_⟩
        · simp only [List.length_append,List.length_cons,List.length_nil];omega
        · simp only [List.length_append,List.length_cons,List.length_nil];omega
      clear I3 b3 k3 x3 X2 I2 B02;generalize bs++([116,117,112,108,101,32]++z++[32,40])=bs3 at I3' hl3 R;go_wp2_with fail
      refine (CL.out bs3 w3 B3.out I3'.out hl3.out.1).mono ?_;rintro e w4 ⟨rfl,I4,b4⟩;have I4':Hid (IsB B bb (bs3++cl) w4):=I4;have B4:Hid (Below B w w4):=B3.out.trans b4;clear I4 b4 e2 CL I3' B3;go_wp2_with fail
      refine (ws_bytes B bb (bs3++cl) [41] w4 I4'.out hl3.out.2 (by have:=B4.out.size;omega)).mono ?_;rintro e w5 ⟨⟨v,rfl⟩,I5,b5,_⟩;have I6:Hid (IsB B bb (bs++res) w5):=by rw [R.out];exact I5
      have B6:Hid (Below B w w5):=B4.out.trans b5;clear I5 b5;go_wp2
      go_end0
      exact ⟨rfl,I6.out,B6.out⟩
    · have g3:(k==3)=false:=by simpa using h3
      have R:Hid (res=[105,110,116]):=hT.out.trans ((if_neg h2).trans ((if_neg h4).trans (if_neg h3)));clear h2 h3 h4 hT;go_enter Tryz.func190,Tryz.ntmps190
      go_wp2_with fail
      generalize w.alloc (.cells #[.int .i64 k,.int .i64 r,.slice a len c] 78)=w1 at X0 b0 I0 ⊢;refine (ws_bytes B bb bs [105,110,116] w1 I0.out (by have:=hbs'.out;simp only [List.length_cons,List.length_nil];omega) (by have:=b0.size;omega)).mono ?_;rintro e w3 ⟨⟨v,rfl⟩,I3,b3,_⟩;have I4:Hid (IsB B bb (bs++res) w3):=by rw [R.out];exact I3
      have B4:Hid (Below B w w3):=b0.trans b3;clear I3 b3 b0;go_wp2
      go_end0
      exact ⟨rfl,I4.out,B4.out⟩
def TextAt (f n : Nat) : Prop := ∀ (t : TT n) (a : Option Addr) (c : Nat) (w : World), TIn w All t a → t.count ≤ 2000 → t.ok → Pows w →
    Calls Tryz.prog f #[Tv t a c] w fun e w'=>e=.returned (.string ⟨t.txt.toArray⟩)∧Below w.heap.size w w'
theorem isB_new (w : World) (o : Obj) : IsB w.heap.size (w.heap.size + 1) [] ((w.alloc o).alloc (.cells #[.pointer none, .slice none 0 0] 88)) := by
  refine Or.inl ⟨by omega,.slice none 0 0,?_,⟨rfl,Or.inl ⟨rfl,rfl⟩⟩,by simp [Value.ownBlock]⟩
  have:=blockNew (w.alloc o) #[.pointer none,.slice none 0 0] 88
  simpa using this
theorem text_any (n : Nat) : TextAt 154 n := by
  intro t a c w ht hct hok hp;have hpb:PowB w.heap.size w:=fun w' hb=>hp.below hb;have hct2:([]:List UInt8).length+100*t.count≤1000000000:=by simp;omega
  have C:Hid (∀ wx,Below w.heap.size w wx→IsB w.heap.size (w.heap.size+1) [] wx→Calls Tryz.prog 190 #[.pointer (some ⟨w.heap.size+1,0,none⟩),Tv t a c] wx fun e w'=>e=.returned (.tuple #[])∧IsB w.heap.size (w.heap.size+1) t.txt w'∧Below w.heap.size wx w') :=
    fun wx hb hI=>write_any n t a c w.heap.size (w.heap.size+1) [] wx hI ((ht.mono (O':=Lt w.heap.size) (fun k _ hk=>hk)).lt hb) hct hok hb.size (hpb.on hb) hct2
  clear ht hct hok hp hpb hct2;simp only [Tv] at C ⊢;generalize t.kind=k at C ⊢;generalize t.r=r at C ⊢;generalize t.len=len at C ⊢;generalize t.txt=res at C ⊢;go_enter Tryz.func154,Tryz.ntmps154
  go_wp2_with fail
  have I0:=isB_new w (.cells #[.int .i64 k,.int .i64 r,.slice a len c] 78);have b0:Below w.heap.size w ((w.alloc (.cells #[.int .i64 k,.int .i64 r,.slice a len c] 78)).alloc (.cells #[.pointer none,.slice none 0 0] 88)):=((Below.refl _ w).alloc (Nat.le_refl _) _).alloc (by simp) _;refine (C.out _ b0 I0).mono ?_;rintro e w2 ⟨rfl,I2,b2⟩;have I2':Hid (IsB w.heap.size (w.heap.size+1) res w2):=I2;have B2:Hid (Below w.heap.size w w2):=b0.trans b2;clear C I0 b0 I2 b2;go_wp2_with fail
  refine (str_any w.heap.size (w.heap.size+1) res w2 I2'.out B2.out.size).mono ?_;rintro e w3 ⟨rfl,b3⟩;have B3:Hid (Below w.heap.size w w3):=B2.out.trans b3;clear b3 I2' B2;go_wp2
  go_ret;exact ⟨rfl,B3.out⟩
end Go.Proofs.YtalfbnllodhkiacGreatDoor
namespace Go.Proofs
open Go.Shelf
def Tryz.lays156_ren : Go.Shelf.Ren := ⟨fun | 156 => 189 | 165 => 220 | 166 => 149 | 169 => 47 | 240 => 188 | 241 => 227 | 276 => 219 | 277 => 228 | n => n, fun | 31 => 73 | 9 => 9 | 3 => 3 | 4 => 4 | 0 => 0 | 20 => 20 | 72 => 88 | 76 => 174 | 70 => 85 | 37 => 86 | 75 => 151 | 127 => 137 | 164 => 220 | 5 => 5 | 80 => 91 | n => n, fun | n => n⟩
theorem Tryz.lays156 : Go.Proofs.Lays.n156 Tryz.prog Tryz.lays156_ren := {
  mixed:=by kernel_rfl
  f156:=Tryz.func189.trans (congrArg some (by kernel_rfl))
  f165:=Tryz.func220.trans (congrArg some (by kernel_rfl))
  f166:=Tryz.func149.trans (congrArg some (by kernel_rfl))
  f169:=Tryz.func47.trans (congrArg some (by kernel_rfl))
  f240:=Tryz.func188.trans (congrArg some (by kernel_rfl))
  f241:=Tryz.func227.trans (congrArg some (by kernel_rfl))
  f276:=Tryz.func219.trans (congrArg some (by kernel_rfl))
  f277:=Tryz.func228.trans (congrArg some (by kernel_rfl))
  t0:=Tryz.underlying0
  a0:=Tryz.isAgg0
  z0:=Tryz.sizeOf0
  v0:=Tryz.zeroValue0
  t3:=Tryz.underlying3
  a3:=Tryz.isAgg3
  z3:=Tryz.sizeOf3
  v3:=Tryz.zeroValue3
  t4:=Tryz.underlying4
  a4:=Tryz.isAgg4
  z4:=Tryz.sizeOf4
  v4:=Tryz.zeroValue4
  t9:=Tryz.underlying9
  a9:=Tryz.isAgg9
  z9:=Tryz.sizeOf9
  v9:=Tryz.zeroValue9
  t20:=Tryz.underlying20
  a20:=Tryz.isAgg20
  z20:=Tryz.sizeOf20
  v20:=Tryz.zeroValue20
  t31:=Tryz.underlying73
  a31:=Tryz.isAgg73
  z31:=Tryz.sizeOf73
  v31:=Tryz.zeroValue73
  t37:=Tryz.underlying86
  a37:=Tryz.isAgg86
  z37:=Tryz.sizeOf86
  v37:=Tryz.zeroValue86
  t70:=Tryz.underlying85
  a70:=Tryz.isAgg85
  z70:=Tryz.sizeOf85
  v70:=Tryz.zeroValue85
  t72:=Tryz.underlying88
  a72:=Tryz.isAgg88
  z72:=Tryz.sizeOf88
  v72:=Tryz.zeroValue88
  t75:=Tryz.underlying151
  a75:=Tryz.isAgg151
  z75:=Tryz.sizeOf151
  v75:=Tryz.zeroValue151
  t76:=Tryz.underlying174
  a76:=Tryz.isAgg174
  z76:=Tryz.sizeOf174
  v76:=Tryz.zeroValue174
  t127:=Tryz.underlying137
  a127:=Tryz.isAgg137
  z127:=Tryz.sizeOf137
  v127:=Tryz.zeroValue137
  t164:=Tryz.underlying220
  a164:=Tryz.isAgg220
  z164:=Tryz.sizeOf220
  v164:=Tryz.zeroValue220 }
theorem Tryz.Builder_Extra_156 : Builder.Extra Tryz.prog Tryz.lays156_ren := {
  sizeBuilder:=by kernel_rfl
  liesBuilder:=by kernel_rfl
  t5:=Tryz.underlying5
  a5:=Tryz.isAgg5
  z5:=Tryz.sizeOf5
  v5:=Tryz.zeroValue5
  infoByte:=by kernel_rfl
  cellsByte:=by kernel_rfl
  sizeByte:=by kernel_rfl
  neB5:=by decide }
end Go.Proofs
namespace Go.Proofs.YtalfbnllodhkiacGreatDoor
set_option linter.unusedSimpArgs false
set_option linter.unusedVariables false
def blB (c : UInt8) : Bool := c.toNat == 32 || c.toNat == 9 || c.toNat == 13 || c.toNat == 10
def pre (p : UInt8 → Bool) : List UInt8 → Nat
  | []=>0
  | c::l=>if p c then pre p l+1 else 0
def blk : Bool → List UInt8 → Nat
  | _,[]=>0
  | false,c::l=>if blB c then blk false l+1 else if c.toNat=35 then blk true l+1 else 0
  | true,c::l=>if c.toNat=10 then blk false l+1 else blk true l+1
structure Tk where
  pos:Nat
  text:List UInt8
  num:Bool
  n:Int
  deriving DecidableEq
end Go.Proofs.YtalfbnllodhkiacGreatDoor
namespace Go.Proofs.YtalfbnllodhkiacGreatDoor
open Go.ChangeShapes Go.WideShapes Go.ChangeAt Go.RowKit Go.Deep
set_option linter.unusedVariables false
structure Lay (α : Type) where
  size:Nat
  In:World→(Nat→Prop)→α→List Value→Prop
  len:∀ {w O x cs},In w O x cs→cs.length=size
  keep:∀ {w w':World} {O O':Nat→Prop} {x cs},(∀ k,O k→k<w.heap.size→w'.heap[k]?=w.heap[k]?)→(∀ k,O k→k<w.heap.size→O' k)→In w O x cs→In w' O' x cs
section
variable {α β : Type} {L : Lay α} {w w' : World} {O O' : Nat → Prop} {x : α} {cs : List Value}
theorem Lay.below (h : L.In w O x cs) (b : Below w.heap.size w w') : L.In w' O x cs := L.keep (fun k _ hk => b.block k hk) (fun _ h _ => h) h
theorem Lay.lt {B : Nat} (h : L.In w (fun g => g < B) x cs) (b : Below B w w') : L.In w' (fun g => g < B) x cs := L.keep (fun k hk _ => b.block k hk) (fun _ h _ => h) h
theorem Lay.mono (h : L.In w O x cs) (hl : ∀ k, O k → k < w.heap.size → O' k) : L.In w O' x cs := L.keep (fun k _ _ => rfl) hl h
theorem Lay.alloc (h : L.In w O x cs) (o : Obj) : L.In (w.alloc o) O x cs := L.keep (fun k _ hk => Below.heap_alloc _ _ _ hk) (fun _ h _ => h) h
theorem Lay.setCell (h : L.In w O x cs) {p : Addr} (hp : ¬ O p.block) (v : Value) : L.In (w.setCell p v) O x cs :=
  L.keep (fun k hk _=>Below.heap_setCell _ _ _ _ (fun e=>by subst e;exact hp hk)) (fun _ h _=>h) h
theorem Lay.drewN (h : L.In w O x cs) (m : Nat) : L.In (w.drewN m) O x cs := L.keep (w := w) (w' := w.drewN m) (fun k _ _ => rfl) (fun _ h _ => h) h
end
def Lay.int : Lay Int where
  size:=1
  In:=fun _ _ x cs=>cs=[.int .i64 x]∧-9223372036854775808≤x∧x≤9223372036854775807
  len:=fun h=>by rw [h.1];rfl
  keep:=fun _ _ h=>h
def Lay.pair {α β : Type} (A : Lay α) (B : Lay β) : Lay (α × β) where
  size:=A.size+B.size
  In:=fun w O x cs=>∃ c d,cs=c++d∧A.In w O x.1 c∧B.In w O x.2 d
  len:=fun ⟨c,d,e,h1,h2⟩=>by rw [e,List.length_append,A.len h1,B.len h2]
  keep:=fun hb hl ⟨c,d,e,h1,h2⟩=>⟨c,d,e,A.keep hb hl h1,B.keep hb hl h2⟩
def Lay.list {α : Type} (A : Lay α) : Lay (List α) where
  size:=1
  In:=fun w O l cs=>∃ a c,cs=[.slice a l.length c]∧∀ (i:Nat) (x:α),l[i]?=some x→∃ g o ds,a=some ⟨g,o,none⟩∧O g∧g<w.heap.size∧(∀ j,j<A.size→w.cell? ⟨g,o+i*A.size+j,none⟩=ds[j]?)∧A.In w O x ds
  len:=fun ⟨_,_,e,_⟩=>by rw [e];rfl
  keep:=fun {w w' O O' l cs} hb hl ⟨a,c,e,h⟩=>⟨a,c,e,fun i x hx=>by
    obtain ⟨g,o,ds,e1,hg,hlt,hc,hi⟩:=h i x hx;have hk:w'.heap[g]?=w.heap[g]?:=hb g hg hlt;refine ⟨g,o,ds,e1,hl g hg hlt,?_,fun j hj=>?_,A.keep hb hl hi⟩
    · rcases Nat.lt_or_ge g w'.heap.size with h' | h'
      · exact h'
      · rw [Array.getElem?_eq_none h',Array.getElem?_eq_getElem hlt] at hk;cases hk
    · exact (World.cell?_of_block (w:=w) (a:=⟨g,o+i*A.size+j,none⟩) hk).trans (hc j hj)⟩
theorem Lay.list_nil {α : Type} (A : Lay α) (w : World) (O : Nat → Prop) (a : Option Addr) (c : Nat) : A.list.In w O [] [.slice a 0 c] := ⟨a, c, rfl, fun i x h => by simp at h⟩
theorem Lay.list_at {α : Type} {A : Lay α} {w : World} {O : Nat → Prop} {l : List α} {a : Option Addr} {n c : Nat} (h : A.list.In w O l [.slice a n c]) {i : Nat} {x : α} (hx : l[i]? = some x) :
    ∃ g o ds,a=some ⟨g,o,none⟩∧O g∧g<w.heap.size∧(∀ j,j<A.size→w.cell? ⟨g,o+i*A.size+j,none⟩=ds[j]?)∧A.In w O x ds:=by
  obtain ⟨a',c',e,h⟩:=h;simp at e
  obtain ⟨rfl,_,rfl⟩:=e;exact h i x hx
def Reads (P : Program) (t : TypeId) {α : Type} (A : Lay α) (n : Nat) : Prop :=
  P.cellsOf t=A.size∧∀ {H:Type} {enc:TypeId × Value→H} {w:World} {base:Nat} {spare:Nat→Bool} {held:Bool} {fuel:Nat} {cs:List Value} {x:DataW H × List MemPlace},
    fuel≤n→DataW.trod enc P w base spare held fuel t cs=some x→∃ d,A.In w (fun _=>True) d cs
theorem Reads.int {P : Program} {t : TypeId} (n : Nat) (h : P.underlying t = some (.int .i64)) (hc : P.cellsOf t = 1) : Reads P t Lay.int n :=
  ⟨hc,fun _ h'=>by
    obtain ⟨k,e,_,wf⟩:=DataW.trod_int h h';exact ⟨k,e,Go.bounds_i64 wf⟩⟩
theorem list_of' {α : Type} {P : Nat → α → Prop} (m : Nat) (h : ∀ i, i < m → ∃ x, P i x) : ∃ l : List α, l.length = m ∧ ∀ i x, l[i]? = some x → P i x := by
  induction m with
  | zero=>exact ⟨[],rfl,fun i x hx=>by simp at hx⟩
  | succ m ih =>
    obtain ⟨l,hl,hp⟩:=ih (fun i hi=>h i (by omega));obtain ⟨x,hx⟩:=h m (by omega);refine ⟨l++[x],by simp [hl],fun i y hy=>?_⟩;rw [List.getElem?_append] at hy;split at hy
    · exact hp i y hy
    · rename_i hi
      have:i=m:=by
        have:=(List.getElem?_eq_some_iff.1 hy).1
        simp at this
        omega
      subst this;simp [hl] at hy;subst hy;exact hx
theorem Reads.list {P : Program} {t e : TypeId} {α : Type} {A : Lay α} {n : Nat} (h : P.underlying t = some (.slice e)) (hc : P.cellsOf t = 1) (hA : Reads P e A n) (h0 : 0 < A.size) : Reads P t A.list (n + 1) :=
  ⟨hc,fun {H enc w base spare held fuel cs x} hf h'=>by
    rcases DataW.trod_slice h h' with ⟨e2,_⟩ | ⟨a,len,cap,elems,rest,q,rfl,e2,_,hb,hl,hm,hlen,hel,_,_⟩
    · exact ⟨[],by rw [e2];exact Lay.list_nil A _ _ _ _⟩
    · obtain ⟨l,hll,hp⟩:=list_of' (P:=fun i (d:α)=>∃ ds,w.cells? base (a.add (i*A.size)) A.size=some ds∧A.In w (fun _=>True) d ds) len (fun i hi=>by
        have he:=hel i hi;rw [List.getElem?_eq_getElem (by omega),hA.1] at he;rw [Option.bind_eq_some_iff] at he;obtain ⟨ds,hds,htr⟩:=he;obtain ⟨d,hd⟩:=hA.2 (by omega) htr;exact ⟨d,ds,hds,hd⟩)
      refine ⟨l,some a,cap,by rw [e2,hll],fun i x hx=>?_⟩;obtain ⟨ds,hds,hd⟩:=hp i x hx;obtain ⟨_,hcl,hcell⟩:=World.cells?_some hds;obtain ⟨b,off,spot⟩:=a
      have hspot:spot=none:=by
        have hi:0<l.length:=Nat.lt_of_le_of_lt (Nat.zero_le i) (List.getElem?_eq_some_iff.1 hx).1;obtain ⟨ds0,hds0,hd0⟩:=hp 0 l[0] (List.getElem?_eq_getElem hi);have hl0:0<ds0.length:=by rw [A.len hd0];exact h0
        have:=(World.cells?_some hds0).2.2 0 h0
        rw [List.getElem?_eq_getElem hl0] at this;simpa [Addr.add] using World.cell?_spot this
      subst hspot
      have key:∀ j,j<A.size→w.cell? ⟨b,off+i*A.size+j,none⟩=ds[j]?:=fun j hj=>by
        have:=hcell j hj
        rw [Go.WideShapes.add_plain,Go.WideShapes.add_plain] at this;exact this
      refine ⟨b,off,ds,rfl,trivial,?_,key,hd⟩;have hl0:0<ds.length:=by rw [A.len hd];exact h0
      have:=key 0 h0
      rw [List.getElem?_eq_getElem hl0] at this;exact World.block_lt_of_cell? w _ this⟩
theorem Reads.mono {P : Program} {t : TypeId} {α : Type} {A : Lay α} {n m : Nat} (h : Reads P t A n) (hm : m ≤ n) : Reads P t A m := ⟨h.1, fun hf h' => h.2 (Nat.le_trans hf hm) h'⟩
def FieldsFrom (P : Program) (fs : Array Field) : Nat → Nat → {α : Type} → Lay α → Nat → Prop := fun i o α A n =>
  ∀ {H:Type} {enc:TypeId × Value→H} {w:World} {base:Nat} {spare:Nat→Bool} {held:Bool} {fuel:Nat} {cs:List Value} {xs:List (DataW H × List MemPlace)},
    fuel≤n→cs.length=o+A.size→xs.length=fs.size→(∀ (j:Nat) (f:Field),fs[j]?=some f→DataW.trod enc P w base spare held fuel f.type ((cs.drop f.offset).take (P.cellsOf f.type))=xs[j]?) →
    ∃ d,A.In w (fun _=>True) d (cs.drop o)
theorem FieldsFrom.last {P : Program} {fs : Array Field} {i o n : Nat} {f : Field} {α : Type} {A : Lay α} (hf : fs[i]? = some f) (ho : f.offset = o) (hA : Reads P f.type A n) : FieldsFrom P fs i o A n := by
  intro H enc w base spare held fuel cs xs hn hl hx h;have g:=h i f hf;have hi:i<fs.size:=(Array.getElem?_eq_some_iff.1 hf).1;rw [List.getElem?_eq_getElem (by omega),ho,hA.1] at g;obtain ⟨d,hd⟩:=hA.2 hn g;refine ⟨d,?_⟩;rwa [List.take_of_length_le (by simp;omega)] at hd
theorem FieldsFrom.cons {P : Program} {fs : Array Field} {i o n : Nat} {f : Field} {α β : Type} {A : Lay α} {B : Lay β} (hf : fs[i]? = some f) (ho : f.offset = o) (hA : Reads P f.type A n) (hB : FieldsFrom P fs (i + 1) (o + A.size) B n) : FieldsFrom P fs i o (A.pair B) n := by
  intro H enc w base spare held fuel cs xs hn hl hx h;have g:=h i f hf;have hi:i<fs.size:=(Array.getElem?_eq_some_iff.1 hf).1;rw [List.getElem?_eq_getElem (by omega),ho,hA.1] at g;obtain ⟨d,hd⟩:=hA.2 hn g;have hs:(A.pair B).size=A.size+B.size:=rfl;obtain ⟨e,he⟩:=hB hn (by omega) hx h;refine ⟨(d,e),_,_,?_,hd,he⟩;rw [← List.drop_drop,List.take_append_drop]
theorem Reads.struct {P : Program} {t : TypeId} {fs : Array Field} {α : Type} {A : Lay α} {n : Nat} (h : P.underlying t = some (.struct fs)) (hc : P.cellsOf t = A.size) (hF : FieldsFrom P fs 0 0 A n) : Reads P t A (n + 1) :=
  ⟨hc,fun {H enc w base spare held fuel cs x} hf h'=>by
    obtain ⟨xs,m,rfl,_,hcl,hxl,hfl⟩:=DataW.trod_struct h h';obtain ⟨d,hd⟩:=hF (by omega) (by rw [hcl,hc];omega) hxl hfl;exact ⟨d,by simpa using hd⟩⟩
structure ARow {α : Type} (A : Lay α) (e : TypeId) (w : World) (lo : Nat) (v : Value) (l : List α) (xs : List Value) : Prop where
  own:w.ownsRow lo e A.size v l.length xs
  kids:∀ (i:Nat) (x:α),l[i]?=some x→A.In w (fun g=>lo≤g∧v.ownBlock≠some g) x ((xs.drop (i*A.size)).take A.size)
section
variable {α : Type} {A : Lay α} {e : TypeId} {w w' : World} {lo : Nat} {v : Value} {l : List α} {xs : List Value}
theorem ARow.nil (A : Lay α) (e : TypeId) (w : World) (lo : Nat) : ARow A e w lo (.slice none 0 0) [] [] := ⟨⟨by simp, Or.inl ⟨rfl, rfl⟩⟩, fun i x h => by simp at h⟩
theorem ARow.lo_le (h : ARow A e w lo v l xs) {g : Nat} (hg : v.ownBlock = some g) : lo ≤ g ∧ g < w.heap.size := by
  obtain ⟨⟨h1,h2⟩,h3⟩:=h;rcases h2 with ⟨rfl,h4⟩ | ⟨g',cap,cur,rfl,hg',hh,r⟩
  · simp [Value.ownBlock] at hg
  · simp [Value.ownBlock] at hg;subst hg;exact ⟨hg',lt_of_block hh⟩
theorem ARow.below (h : ARow A e w lo v l xs) (b : Below w.heap.size w w') : ARow A e w' lo v l xs := by
  obtain ⟨⟨h1,h2⟩,h3⟩:=h;refine ⟨⟨h1,?_⟩,fun i x hx=>Lay.below (h3 i x hx) b⟩;rcases h2 with h4 | ⟨g,cap,cur,e,hg,hh,r⟩
  · exact Or.inl h4
  · exact Or.inr ⟨g,cap,cur,e,hg,(b.block g (lt_of_block hh)).trans hh,r⟩
theorem ARow.setOther (h : ARow A e w lo v l xs) {p : Addr} (hp : p.block < lo) (y : Value) : ARow A e (w.setCell p y) lo v l xs := by
  obtain ⟨⟨h1,h2⟩,h3⟩:=h;refine ⟨⟨h1,?_⟩,fun i x hx=>Lay.setCell (h3 i x hx) (fun hk=>by have:=hk.1;omega) _⟩;rcases h2 with h4 | ⟨g,cap,cur,e,hg,hh,r⟩
  · exact Or.inl h4
  · exact Or.inr ⟨g,cap,cur,e,hg,(Below.heap_setCell _ _ _ _ (by omega)).trans hh,r⟩
theorem ARow.lay (h : ARow A e w lo v l xs) : A.list.In w (fun g => lo ≤ g) l [v] := by
  obtain ⟨⟨h1,h2⟩,h3⟩:=h;rcases h2 with ⟨rfl,h4⟩ | ⟨g,cap,cur,rfl,hg,hh,hn,hm,hs,ht⟩
  · have:l=[]:=List.length_eq_zero_iff.1 h4
    subst this;exact Lay.list_nil A _ _ _ _
  · refine ⟨some ⟨g,0,none⟩,cap,rfl,fun i x hx=>⟨g,0,_,rfl,hg,lt_of_block hh,fun j hj=>?_,Lay.mono (h3 i x hx) (fun k hk _=>hk.1)⟩⟩;have hi:i<l.length:=(List.getElem?_eq_some_iff.1 hx).1
    have hij:i*A.size+j<l.length*A.size:=by
      have:(i+1)*A.size≤l.length*A.size:=Nat.mul_le_mul_right _ hi
      rw [Nat.add_mul] at this;omega
    rw [List.getElem?_take,if_pos hj,List.getElem?_drop,← ht,List.getElem?_take,if_pos hij,Nat.zero_add]
    have hcs:i*A.size+j<cur.size:=by
      have:l.length*A.size≤cap*A.size:=Nat.mul_le_mul_right _ hn
      omega
    rw [Array.getElem?_toList];exact (cellOf hh _ cur[i*A.size+j] (Array.getElem?_eq_getElem hcs)).trans (Array.getElem?_eq_getElem hcs).symm
theorem ARow.push (h : ARow A e w lo v l xs) {x : α} {ds : List Value} (hx : A.In w (fun g => lo ≤ g ∧ v.ownBlock ≠ some g) x ds)
    {g cap:Nat} (hg:w.grownBy w' v.ownBlock) (hat:v.ownBlock=some g∨g=w.heap.size)
    (ho:w'.ownsRow lo e A.size (.slice (some ⟨g,0,none⟩) (l.length+1) cap) (l.length+1) (xs++ds)) :
    ARow A e w' lo (.slice (some ⟨g,0,none⟩) (l.length+1) cap) (l++[x]) (xs++ds):=by
  obtain ⟨h1,h3⟩:=h;have hxl:=h1.1;have hdl:=A.len hx
  have keep:∀ {y:α} {es:List Value},A.In w (fun g=>lo≤g∧v.ownBlock≠some g) y es→A.In w' (fun g'=>lo≤g'∧(Value.slice (some ⟨g,0,none⟩) (l.length+1) cap).ownBlock≠some g') y es:=fun hy=>by
    refine A.keep (fun k hk hl=>?_) (fun k hk hl=>⟨hk.1,?_⟩) hy
    · exact hg.block k hl (fun e=>hk.2 e.symm)
    · simp only [Value.ownBlock,ne_eq,Option.some.injEq];intro e;subst e;rcases hat with h' | h'
      · exact hk.2 h'
      · omega
  refine ⟨by rw [List.length_append];exact ho,fun i y hy=>?_⟩;rw [List.getElem?_append] at hy;split at hy
  · rename_i hi
    have hm:(i+1)*A.size≤l.length*A.size:=Nat.mul_le_mul_right _ hi;rw [Nat.add_mul] at hm
    have:=h3 i y hy
    rw [List.drop_append_of_le_length (by omega),List.take_append_of_le_length (by simp;omega)];exact keep this
  · rename_i hi
    have hi2:i=l.length:=by
      have:=(List.getElem?_eq_some_iff.1 hy).1
      simp at this
      omega
    subst hi2;simp at hy
    subst hy;rw [List.drop_append,List.drop_of_length_le (by omega),← hxl,Nat.sub_self,List.drop_zero,List.nil_append,List.take_of_length_le (by omega)];exact keep hx
end
end Go.Proofs.YtalfbnllodhkiacGreatDoor
namespace Go.Proofs.YtalfbnllodhkiacGreatDoor
open Go.ChangeShapes Go.WideShapes Go.ChangeAt Go.RowKit
set_option linter.unusedVariables false
def str (l : List UInt8) : ByteArray := ⟨l.toArray⟩
theorem str_list (l : List UInt8) : (str l).data.toList = l := rfl
theorem str_size (l : List UInt8) : (str l).size = l.length := by simp [str, ByteArray.size]
def Tk.cells (t : Tk) : List Value := [.int .i64 t.pos, .string (str t.text), .bool t.num, .int .i64 t.n]
end Go.Proofs.YtalfbnllodhkiacGreatDoor
namespace Go.Proofs.YtalfbnllodhkiacGreatDoor
open Go.ChangeShapes Go.WideShapes Go.ChangeAt Go.RowKit Go.Deep
set_option linter.unusedVariables false
structure MIns where
  op:Int
  a:Int
  b:Int
  c:Int
  k:Int
  n:Int
  regs:List Int
  args:List Int
structure MTo where
  block:Int
  regs:List Int
  args:List Int
structure MEnd where
  op:Int
  a:Int
  yes:MTo
  no:MTo
  args:List Int
structure MBlock (n : Nat) where
  regs:Int
  params:List (TT n)
  code:List MIns
  fin:MEnd
structure MFunc (n : Nat) where
  regs:Int
  params:List (TT n)
  results:List (TT n)
  blocks:List (MBlock n)
def Lay.via {α β : Type} (A : Lay α) (f : β → α) : Lay β where
  size:=A.size
  In:=fun w O x cs=>A.In w O (f x) cs
  len:=fun h=>A.len h
  keep:=fun hb hl h=>A.keep hb hl h
theorem Reads.via {P : Program} {t : TypeId} {α β : Type} {A : Lay α} {n : Nat} {f : β → α} (h : Reads P t A n) (g : α → β) (hg : ∀ d, f (g d) = d) : Reads P t (A.via f) n :=
  ⟨h.1,fun hf h'=>by
    obtain ⟨d,hd⟩:=h.2 hf h';exact ⟨g d,by show A.In _ _ (f (g d)) _;rw [hg];exact hd⟩⟩
def Lay.tt (n : Nat) : Lay (TT n) where
  size:=3
  In:=fun w O t cs=>∃ a c,cs=[.int .i64 t.kind,.int .i64 t.r,.slice a t.len c]∧TIn w O t a∧t.ok
  len:=fun ⟨_,_,e,_⟩=>by rw [e];rfl
  keep:=fun hb hl ⟨a,c,e,h1,h2⟩=>⟨a,c,e,h1.keep hb hl,h2⟩
abbrev intsL : Lay (List Int) := Lay.int.list
abbrev typesL (n : Nat) : Lay (List (TT n)) := (Lay.tt n).list
def insL : Lay MIns := (Lay.int.pair (Lay.int.pair (Lay.int.pair (Lay.int.pair (Lay.int.pair (Lay.int.pair (intsL.pair intsL))))))).via (fun x => (x.op, x.a, x.b, x.c, x.k, x.n, x.regs, x.args))
def toL : Lay MTo := (Lay.int.pair (intsL.pair intsL)).via (fun x => (x.block, x.regs, x.args))
def endL : Lay MEnd := (Lay.int.pair (Lay.int.pair (toL.pair (toL.pair intsL)))).via (fun x => (x.op, x.a, x.yes, x.no, x.args))
def blockL (n : Nat) : Lay (MBlock n) := (Lay.int.pair ((typesL n).pair (insL.list.pair endL))).via (fun x => (x.regs, x.params, x.code, x.fin))
def funcL (n : Nat) : Lay (MFunc n) := (Lay.int.pair ((typesL n).pair ((typesL n).pair (blockL n).list))).via (fun x => (x.regs, x.params, x.results, x.blocks))
abbrev modL (n : Nat) : Lay (List (MFunc n)) := (funcL n).list
section
variable {w : World} {O : Nat → Prop} {n : Nat} {cs : List Value}
theorem list_form {α : Type} {A : Lay α} {l : List α} (h : A.list.In w O l cs) : ∃ a c, cs = [.slice a l.length c] ∧ A.list.In w O l [.slice a l.length c] := by
  obtain ⟨a,c,e,h⟩:=h;exact ⟨a,c,e,a,c,rfl,h⟩
theorem to_form {x : MTo} (h : toL.In w O x cs) : ∃ a c b d, cs = [.int .i64 x.block, .slice a x.regs.length c, .slice b x.args.length d] ∧ intsL.In w O x.regs [.slice a x.regs.length c] ∧ intsL.In w O x.args [.slice b x.args.length d] ∧ (-9223372036854775808 ≤ x.block ∧ x.block ≤ 9223372036854775807) := by
  obtain ⟨_,_,rfl,⟨rfl,h0⟩,⟨_,_,rfl,h1,h2⟩⟩:=h;obtain ⟨a,c,rfl,h1⟩:=list_form h1;obtain ⟨b,d,rfl,h2⟩:=list_form h2;exact ⟨a,c,b,d,rfl,h1,h2,h0⟩
theorem to_mk {x : MTo} {a b : Option Addr} {c d : Nat} (h1 : intsL.In w O x.regs [.slice a x.regs.length c]) (h2 : intsL.In w O x.args [.slice b x.args.length d]) (h0 : -9223372036854775808 ≤ x.block ∧ x.block ≤ 9223372036854775807) :
    toL.In w O x [.int .i64 x.block,.slice a x.regs.length c,.slice b x.args.length d]:=⟨_,_,rfl,⟨rfl,h0⟩,⟨_,_,rfl,h1,h2⟩⟩
theorem ins_form {x : MIns} (h : insL.In w O x cs) : ∃ a c b d, cs = [.int .i64 x.op, .int .i64 x.a, .int .i64 x.b, .int .i64 x.c, .int .i64 x.k, .int .i64 x.n, .slice a x.regs.length c, .slice b x.args.length d] ∧ intsL.In w O x.regs [.slice a x.regs.length c] ∧ intsL.In w O x.args [.slice b x.args.length d] ∧
    ((-9223372036854775808≤x.op∧x.op≤9223372036854775807)∧(-9223372036854775808≤x.a∧x.a≤9223372036854775807)∧(-9223372036854775808≤x.b∧x.b≤9223372036854775807)∧(-9223372036854775808≤x.c∧x.c≤9223372036854775807)∧(-9223372036854775808≤x.k∧x.k≤9223372036854775807)∧(-9223372036854775808≤x.n∧x.n≤9223372036854775807)):=by
  obtain ⟨_,_,rfl,⟨rfl,h0⟩,⟨_,_,rfl,⟨rfl,h1⟩,⟨_,_,rfl,⟨rfl,h2⟩,⟨_,_,rfl,⟨rfl,h3⟩,⟨_,_,rfl,⟨rfl,h4⟩,⟨_,_,rfl,⟨rfl,h5⟩,⟨_,_,rfl,h6,h7⟩⟩⟩⟩⟩⟩⟩:=h;obtain ⟨a,c,rfl,h6⟩:=list_form h6;obtain ⟨b,d,rfl,h7⟩:=list_form h7;exact ⟨a,c,b,d,rfl,h6,h7,h0,h1,h2,h3,h4,h5⟩
theorem ins_mk {x : MIns} {a b : Option Addr} {c d : Nat} (h1 : intsL.In w O x.regs [.slice a x.regs.length c]) (h2 : intsL.In w O x.args [.slice b x.args.length d])
    (h0:(-9223372036854775808≤x.op∧x.op≤9223372036854775807)∧(-9223372036854775808≤x.a∧x.a≤9223372036854775807)∧(-9223372036854775808≤x.b∧x.b≤9223372036854775807)∧(-9223372036854775808≤x.c∧x.c≤9223372036854775807)∧(-9223372036854775808≤x.k∧x.k≤9223372036854775807)∧(-9223372036854775808≤x.n∧x.n≤9223372036854775807)) :
    insL.In w O x [.int .i64 x.op,.int .i64 x.a,.int .i64 x.b,.int .i64 x.c,.int .i64 x.k,.int .i64 x.n,.slice a x.regs.length c,.slice b x.args.length d] :=
  ⟨_,_,rfl,⟨rfl,h0.1⟩,⟨_,_,rfl,⟨rfl,h0.2.1⟩,⟨_,_,rfl,⟨rfl,h0.2.2.1⟩,⟨_,_,rfl,⟨rfl,h0.2.2.2.1⟩,⟨_,_,rfl,⟨rfl,h0.2.2.2.2.1⟩,⟨_,_,rfl,⟨rfl,h0.2.2.2.2.2⟩,⟨_,_,rfl,h1,h2⟩⟩⟩⟩⟩⟩⟩
theorem end_form {x : MEnd} (h : endL.In w O x cs) : ∃ c1 c2 a c, cs = .int .i64 x.op :: .int .i64 x.a :: (c1 ++ (c2 ++ [.slice a x.args.length c])) ∧ toL.In w O x.yes c1 ∧ toL.In w O x.no c2 ∧ intsL.In w O x.args [.slice a x.args.length c] ∧ ((-9223372036854775808 ≤ x.op ∧ x.op ≤ 9223372036854775807) ∧ (-9223372036854775808 ≤ x.a ∧ x.a ≤ 9223372036854775807)) := by
  obtain ⟨_,_,rfl,⟨rfl,h0⟩,⟨_,_,rfl,⟨rfl,h1⟩,⟨c1,_,rfl,h2,⟨c2,_,rfl,h3,h4⟩⟩⟩⟩:=h;obtain ⟨a,c,rfl,h4⟩:=list_form h4;exact ⟨c1,c2,a,c,rfl,h2,h3,h4,h0,h1⟩
theorem end_mk {x : MEnd} {c1 c2 : List Value} {a : Option Addr} {c : Nat} (h2 : toL.In w O x.yes c1) (h3 : toL.In w O x.no c2) (h4 : intsL.In w O x.args [.slice a x.args.length c]) (h0 : (-9223372036854775808 ≤ x.op ∧ x.op ≤ 9223372036854775807) ∧ (-9223372036854775808 ≤ x.a ∧ x.a ≤ 9223372036854775807)) :
    endL.In w O x (.int .i64 x.op::.int .i64 x.a::(c1++(c2++[.slice a x.args.length c]))):=⟨[_],_,rfl,⟨rfl,h0.1⟩,⟨[_],_,rfl,⟨rfl,h0.2⟩,⟨c1,_,rfl,h2,⟨c2,_,rfl,h3,h4⟩⟩⟩⟩
theorem block_form {x : MBlock n} (h : (blockL n).In w O x cs) : ∃ a c b d es, cs = .int .i64 x.regs :: .slice a x.params.length c :: .slice b x.code.length d :: es ∧ (typesL n).In w O x.params [.slice a x.params.length c] ∧ insL.list.In w O x.code [.slice b x.code.length d] ∧ endL.In w O x.fin es ∧ (-9223372036854775808 ≤ x.regs ∧ x.regs ≤ 9223372036854775807) := by
  obtain ⟨_,_,rfl,⟨rfl,h0⟩,⟨_,_,rfl,h1,⟨_,es,rfl,h2,h3⟩⟩⟩:=h;obtain ⟨a,c,rfl,h1⟩:=list_form h1;obtain ⟨b,d,rfl,h2⟩:=list_form h2;exact ⟨a,c,b,d,es,rfl,h1,h2,h3,h0⟩
theorem block_mk {x : MBlock n} {a b : Option Addr} {c d : Nat} {es : List Value} (h1 : (typesL n).In w O x.params [.slice a x.params.length c]) (h2 : insL.list.In w O x.code [.slice b x.code.length d]) (h3 : endL.In w O x.fin es) (h0 : -9223372036854775808 ≤ x.regs ∧ x.regs ≤ 9223372036854775807) :
    (blockL n).In w O x (.int .i64 x.regs::.slice a x.params.length c::.slice b x.code.length d::es):=⟨[_],_,rfl,⟨rfl,h0⟩,⟨[_],_,rfl,h1,⟨[_],es,rfl,h2,h3⟩⟩⟩
theorem func_form {x : MFunc n} (h : (funcL n).In w O x cs) : ∃ a c b d e f, cs = [.int .i64 x.regs, .slice a x.params.length c, .slice b x.results.length d, .slice e x.blocks.length f] ∧ (typesL n).In w O x.params [.slice a x.params.length c] ∧ (typesL n).In w O x.results [.slice b x.results.length d] ∧ (blockL n).list.In w O x.blocks [.slice e x.blocks.length f] ∧ (-9223372036854775808 ≤ x.regs ∧ x.regs ≤ 9223372036854775807) := by
  obtain ⟨_,_,rfl,⟨rfl,h0⟩,⟨_,_,rfl,h1,⟨_,_,rfl,h2,h3⟩⟩⟩:=h;obtain ⟨a,c,rfl,h1⟩:=list_form h1;obtain ⟨b,d,rfl,h2⟩:=list_form h2;obtain ⟨e,f,rfl,h3⟩:=list_form h3;exact ⟨a,c,b,d,e,f,rfl,h1,h2,h3,h0⟩
theorem func_mk {x : MFunc n} {a b e : Option Addr} {c d f : Nat} (h1 : (typesL n).In w O x.params [.slice a x.params.length c]) (h2 : (typesL n).In w O x.results [.slice b x.results.length d]) (h3 : (blockL n).list.In w O x.blocks [.slice e x.blocks.length f]) (h0 : -9223372036854775808 ≤ x.regs ∧ x.regs ≤ 9223372036854775807) :
    (funcL n).In w O x [.int .i64 x.regs,.slice a x.params.length c,.slice b x.results.length d,.slice e x.blocks.length f]:=⟨[_],_,rfl,⟨rfl,h0⟩,⟨[_],_,rfl,h1,⟨[_],_,rfl,h2,h3⟩⟩⟩
theorem ints_at {l : List Int} {a : Option Addr} {m c : Nat} (h : intsL.In w O l [.slice a m c]) {i : Nat} (hi : i < l.length) : ∃ g o, a = some ⟨g, o, none⟩ ∧ O g ∧ g < w.heap.size ∧ w.cell? ⟨g, o + i, none⟩ = some (.int .i64 (l.getD i 0)) := by
  obtain ⟨g,o,ds,e,h1,h2,h3,rfl,_⟩:=Lay.list_at h (List.getElem?_eq_getElem hi);refine ⟨g,o,e,h1,h2,?_⟩
  have:=h3 0 (by decide)
  have hs:Lay.int.size=1:=rfl;rw [hs,Nat.mul_one,Nat.add_zero] at this;rw [this];simp [List.getD,hi]
theorem types_lin {l : List (TT n)} {a : Option Addr} {m c : Nat} (h : (typesL n).In w O l [.slice a m c]) : LIn w O l a ∧ ∀ x ∈ l, x.ok := by
  refine ⟨fun i x hx=>?_,fun x hx=>?_⟩
  · obtain ⟨g,o,ds,e,h1,h2,h3,a',c',rfl,h4,_⟩:=Lay.list_at h hx;have hs:(Lay.tt n).size=3:=rfl;rw [hs] at h3;exact ⟨g,o,a',c',e,h1,h3 0 (by omega),h3 1 (by omega),h3 2 (by omega),h4⟩
  · obtain ⟨i,hi,rfl⟩:=List.mem_iff_getElem.1 hx;obtain ⟨g,o,ds,e,h1,h2,h3,a',c',rfl,h4,h5⟩:=Lay.list_at h (List.getElem?_eq_getElem hi);exact h5
theorem types_of_lin {l : List (TT n)} {a : Option Addr} {c : Nat} (h : LIn w O l a) (hok : ∀ x ∈ l, x.ok) : (typesL n).In w O l [.slice a l.length c] := by
  refine ⟨a,c,rfl,fun i x hx=>?_⟩;obtain ⟨g,o,a',c',e,h1,h2,h3,h4,h5⟩:=LIn.at h hx;refine ⟨g,o,[.int .i64 x.kind,.int .i64 x.r,.slice a' x.len c'],e,h1,World.block_lt_of_cell? w ⟨g,o+i*3,none⟩ h2,fun j hj=>?_,a',c',rfl,h5,hok x (List.mem_of_getElem? hx)⟩;have hj':j<3:=hj;have hs:(Lay.tt n).size=3:=rfl;rw [hs];match j,hj' with
  | 0,_=>exact h2
  | 1,_=>exact h3
  | 2,_=>exact h4
end
end Go.Proofs.YtalfbnllodhkiacGreatDoor
namespace Go.Proofs.YtalfbnllodhkiacGreatDoor
set_option linter.unusedVariables false
def fieldsOf (op : Int) : Option (Bool × Bool × Bool × Bool × Bool × Bool × Bool) :=
  if op=1 then some (false,false,false,false,true,false,false)
  else if op=2∨op=7 then some (true,true,false,true,false,false,false)
  else if op=3∨op=12 then some (false,false,false,false,false,false,false)
  else if op=4∨op=11∨op=13 then some (true,false,false,false,false,false,false)
  else if op=5 then some (true,false,false,false,false,false,true)
  else if op=6 then some (true,false,false,true,false,false,false)
  else if op=8∨op=9 then some (true,true,false,false,false,false,false)
  else if op=10 then some (true,true,true,false,false,false,false)
  else if op=14 then some (false,false,false,true,false,true,true)
  else none
def MIns.formless (x : MIns) : Bool := match fieldsOf x.op with
  | none=>false
  | some (a,b,c,k,n,rg,ar)=>(!a && x.a != 0) || (!b && x.b != 0) || (!c && x.c != 0) || (!k && x.k != 0) || (!n && x.n != 0) || (!rg && decide (0<x.regs.length)) || (!ar && decide (0<x.args.length))
def MIns.form (funcs : Nat) (x : MIns) : Int :=
  if (fieldsOf x.op).isNone then 3
  else if x.formless then 4
  else if x.op=2∧(x.k<1∨9<x.k) then 1
  else if x.op=5∧8<x.args.length then 2
  else if (x.op=6∨x.op=7)∧(x.k<0∨7<x.k) then 1
  else if x.op=14∧(x.k<0∨(funcs:Int)≤x.k) then 1
  else if x.op=14∧(6<x.regs.length∨8<x.args.length) then 2
  else 0
def MTo.form (blocks : Nat) (has : Bool) (t : MTo) : Int :=
  if has=false then (if t.block≠0∨0<t.regs.length+t.args.length then 4 else 0)
  else if t.block<0∨(blocks:Int)≤t.block then 1
  else if 16<t.regs.length∨8<t.args.length then 2
  else 0
def MEnd.form (blocks : Nat) (e : MEnd) : Int :=
  if e.op<1∨3<e.op then 3
  else if (e.a≠0∧e.op≠2)∨(0<e.args.length∧e.op≠3) then 4
  else if 8<e.args.length then 2
  else if e.yes.form blocks (decide (e.op≠3))≠0 then e.yes.form blocks (decide (e.op≠3))
  else e.no.form blocks (decide (e.op=2))
def listC {n : Nat} (regs : Int) (l : List (TT n)) : Int := if 8 < l.length then 2 else firstL (TT.check regs) l
def firstF {α : Type} (f : Nat → α → Int × Int) : Nat → List α → Int × Int
  | _,[]=>(0,0)
  | i,x::xs=>if (f i x).1≠0 then f i x else firstF f (i+1) xs
def TT.dec : (n : Nat) → DecidableEq (TT n)
  | 0=>fun t _=>Empty.elim t
  | n+1=>fun t u=>match (TT.dec n) with
    | d=>if h1:t.1=u.1 then if h2:t.2.1=u.2.1 then match (@List.hasDecEq _ d t.2.2 u.2.2) with
        | isTrue h3=>isTrue (by obtain ⟨a,b,c⟩:=t;obtain ⟨a',b',c'⟩:=u;simp only at h1 h2 h3;subst h1 h2 h3;rfl)
        | isFalse h3=>isFalse (fun e=>h3 (by rw [e]))
      else isFalse (fun e=>h2 (by rw [e])) else isFalse (fun e=>h1 (by rw [e]))
def sameL {n : Nat} (l m : List (TT n)) : Bool := match @List.hasDecEq _ (TT.dec n) l m with
  | isTrue _=>true
  | isFalse _=>false
theorem sameL_iff {n : Nat} {l m : List (TT n)} : sameL l m = true ↔ l = m := by
  unfold sameL;split
  · rename_i h _;simp [h]
  · rename_i h _;simp [h]
def MBlock.fault {n : Nat} (funcs : Nat) (f : Nat) (fn : MFunc n) (b : Nat) (x : MBlock n) : Int × Int :=
  if x.regs<fn.regs∨16<x.regs then (1,10000*f+100*b+90)
  else if listC x.regs x.params≠0 then (listC x.regs x.params,10000*f+100*b+90)
  else if b=0∧(x.regs≠fn.regs∨sameL x.params fn.params=false) then (9,10000*f+100*b+90)
  else if 40<x.code.length then (2,10000*f+100*b+90)
  else if (firstF (fun i y=>(MIns.form funcs y,(10000*f+100*b+i:Int))) 0 x.code).1≠0 then firstF (fun i y=>(MIns.form funcs y,(10000*f+100*b+i:Int))) 0 x.code
  else if x.fin.form fn.blocks.length≠0 then (x.fin.form fn.blocks.length,10000*f+100*b+91)
  else (0,0)
def MFunc.fault {n : Nat} (funcs : Nat) (f : Nat) (x : MFunc n) : Int × Int :=
  if x.regs<0∨6<x.regs then (1,10000*f+9999)
  else if listC x.regs x.params≠0 then (listC x.regs x.params,10000*f+9999)
  else if listC x.regs x.results≠0 then (listC x.regs x.results,10000*f+9999)
  else if x.blocks.length<1∨12<x.blocks.length then (2,10000*f+9999)
  else if f=0∧¬ (x.regs=0∧x.params.length=0∧x.results.all (fun t=>t.kind==1)=true) then (18,10000*f+9999)
  else firstF (fun b y=>MBlock.fault funcs f x b y) 0 x.blocks
def modFault {n : Nat} (m : List (MFunc n)) : Int × Int :=
  if m.length<1∨8<m.length then (2,-1) else firstF (fun f x=>MFunc.fault m.length f x) 0 m
def greatTs {n : Nat} (l : List (TT n)) : Prop := 200 < l.length ∨ ∃ t ∈ l, 2000 < t.count
def MBlock.great {n : Nat} (x : MBlock n) : Prop := 200 < x.code.length ∨ greatTs x.params ∨ 300 < x.fin.args.length ∨ 300 < x.fin.yes.regs.length ∨ 300 < x.fin.yes.args.length ∨ 300 < x.fin.no.regs.length ∨ 300 < x.fin.no.args.length ∨ ∃ y ∈ x.code, 300 < y.regs.length ∨ 300 < y.args.length
def MFunc.great {n : Nat} (x : MFunc n) : Prop := 30 < x.blocks.length ∨ greatTs x.params ∨ greatTs x.results ∨ ∃ y ∈ x.blocks, y.great
def greatMod {n : Nat} (m : List (MFunc n)) : Prop := 20 < m.length ∨ ∃ x ∈ m, x.great
theorem firstF_eq {α : Type} {f : Nat → α → Int × Int} : ∀ {l : List α} {i j : Nat} {x : α}, l[i]? = some x → (∀ k y, k < i → l[k]? = some y → (f (j + k) y).1 = 0) → (f (j + i) x).1 ≠ 0 → firstF f j l = f (j + i) x
  | [],i,j,x,h,_,_=>by simp at h
  | y::ys,0,j,x,h,_,hf=>by
    simp at h;subst h
    simp only [firstF];rw [if_pos (by simpa using hf)];rfl
  | y::ys,i+1,j,x,h,hz,hf=>by
    have h0:(f j y).1=0:=by simpa using hz 0 y (by omega) rfl
    simp only [firstF,h0,ne_eq,not_true_eq_false,if_false]
    have:=firstF_eq (f:=f) (l:=ys) (i:=i) (j:=j+1) (x:=x) (by simpa using h) (fun k z hk hkz=>by have:=hz (k+1) z (by omega) (by simpa using hkz);rwa [show j+1+k=j+(k+1) by omega]) (by rwa [show j+1+i=j+(i+1) by omega])
    rw [this,show j+1+i=j+(i+1) by omega]
theorem firstF_zero {α : Type} {f : Nat → α → Int × Int} : ∀ {l : List α} {j : Nat}, (∀ (k : Nat) y, l[k]? = some y → (f (j + k) y).1 = 0) → firstF f j l = (0, 0)
  | [],_,_=>rfl
  | y::ys,j,h=>by
    have h0:(f j y).1=0:=by simpa using h 0 y rfl
    simp only [firstF,h0,ne_eq,not_true_eq_false,if_false];exact firstF_zero (fun k z hz=>by have:=h (k+1) z (by simpa using hz);rwa [show j+1+k=j+(k+1) by omega])
end Go.Proofs.YtalfbnllodhkiacGreatDoor
namespace Go.Proofs.YtalfbnllodhkiacGreatDoor
set_option linter.unusedSimpArgs false
set_option linter.unusedVariables false
abbrev PR (α : Type) := Except (Nat × Nat) (α × Nat)
def PR.andThen {α β : Type} (x : PR α) (f : α → Nat → PR β) : PR β :=
  match x with
  | .error e=>.error e
  | .ok (a,p)=>f a p
theorem PR.andThen_ok {α β : Type} {x : PR α} {f : α → Nat → PR β} {b : β} {q : Nat} (h : x.andThen f = .ok (b, q)) : ∃ a p, x = .ok (a, p) ∧ f a p = .ok (b, q) := by
  unfold PR.andThen at h;split at h
  · cases h
  · exact ⟨_,_,rfl,h⟩
def opWords : List (List UInt8) := [[110, 117, 109], [98, 105, 110], [110, 101, 119], [102, 114, 101, 101], [116, 117, 112, 108, 101], [103, 101, 116], [115, 101, 116], [97, 114, 114, 97, 121], [108, 111, 97, 100], [115, 116, 111, 114, 101], [108, 101, 110], [105, 110], [111, 117, 116], [99, 97, 108, 108]]
def kindWords : List (List UInt8) := [[97, 100, 100], [115, 117, 98], [109, 117, 108], [100, 105, 118], [109, 111, 100], [108, 101, 115, 115], [101, 113], [97, 110, 100], [120, 111, 114]]
def wordAt (l : List (List UInt8)) (k : Int) : List UInt8 := if k < 1 then [] else l.getD (k.toNat - 1) []
def wJump : List UInt8 := [106, 117, 109, 112]
def wIf : List UInt8 := [105, 102]
def wTo : List UInt8 := [116, 111]
def wElse : List UInt8 := [101, 108, 115, 101]
def wRet : List UInt8 := [114, 101, 116]
def wFunc : List UInt8 := [102, 117, 110, 99]
def wBlock : List UInt8 := [98, 108, 111, 99, 107]
def numB (n : Int) : Bool := decide (0 ≤ n) && decide (n ≤ 1000000)
def MIns.nums (x : MIns) : Bool := [x.a, x.b, x.c, x.k].all numB && (x.regs.all numB && x.args.all numB)
def MTo.nums (x : MTo) : Bool := x.regs.all numB && x.args.all numB
def MEnd.nums (x : MEnd) : Bool := [x.a].all numB && (x.args.all numB && (x.yes.nums && x.no.nums))
def MBlock.nums {n : Nat} (x : MBlock n) : Bool := x.code.all MIns.nums && x.fin.nums
def MFunc.nums {n : Nat} (x : MFunc n) : Bool := x.blocks.all MBlock.nums
def modNums {n : Nat} (m : List (MFunc n)) : Bool := m.all MFunc.nums
def intsT (b f : UInt8) (l : List Int) : List UInt8 := b :: (catL (l.map Lib.itoa) ++ [f])
def typsT {n : Nat} (l : List (TT n)) : List UInt8 := 40 :: (catL (l.map TT.txt) ++ [41])
def nT (k : Int) : List UInt8 := 32 :: Lib.itoa k
def MTo.txt (t : MTo) : List UInt8 := Lib.itoa t.block ++ (32 :: intsT 60 62 t.regs ++ 32 :: intsT 40 41 t.args)
def MIns.rest (x : MIns) : List UInt8 :=
  if x.op=1 then nT x.n
  else if x.op=2 then 32::wordAt kindWords x.k++(nT x.a++nT x.b)
  else if x.op=5 then nT x.a++32::intsT 40 41 x.args
  else if x.op=6 then nT x.a++nT x.k
  else if x.op=7 then nT x.a++(nT x.k++nT x.b)
  else if x.op=14 then nT x.k++(32::intsT 60 62 x.regs++32::intsT 40 41 x.args)
  else if x.op=4∨x.op=11∨x.op=13 then nT x.a
  else if x.op=8∨x.op=9 then nT x.a++nT x.b
  else if x.op=10 then nT x.a++(nT x.b++nT x.c)
  else []
def MIns.txt (x : MIns) : List UInt8 := wordAt opWords x.op ++ x.rest
def MEnd.txt (e : MEnd) : List UInt8 :=
  if e.op=1 then wJump++32::e.yes.txt
  else if e.op=2 then wIf++(nT e.a++32::(wTo++32::(e.yes.txt++32::(wElse++32::e.no.txt))))
  else wRet++32::intsT 40 41 e.args
def lineT (s : List UInt8) : List UInt8 := 9 :: (s ++ [59, 10])
def codeT (l : List MIns) : List UInt8 := l.flatMap fun x => lineT x.txt
def MBlock.head {n : Nat} (x : MBlock n) : List UInt8 := wBlock ++ (nT x.regs ++ 32 :: (typsT x.params ++ [32, 123, 10]))
def MBlock.txt {n : Nat} (x : MBlock n) : List UInt8 := x.head ++ (codeT x.code ++ (lineT x.fin.txt ++ [125, 10]))
def MFunc.head {n : Nat} (x : MFunc n) : List UInt8 := wFunc ++ (nT x.regs ++ 32 :: (typsT x.params ++ 32 :: 45 :: 62 :: 32 :: (typsT x.results ++ [32, 123, 10])))
def blocksT {n : Nat} (l : List (MBlock n)) : List UInt8 := l.flatMap MBlock.txt
def MFunc.txt {n : Nat} (x : MFunc n) : List UInt8 := x.head ++ (blocksT x.blocks ++ [125, 10])
def modTxt {n : Nat} (m : List (MFunc n)) : List UInt8 := m.flatMap MFunc.txt
def printL {n : Nat} (m : List (MFunc n)) : List UInt8 × Int × Int :=
  if (modFault m).1≠0 then ([],modFault m)
  else if modNums m=false then ([],8,-1)
  else if 40000<(modTxt m).length then ([],2,-1)
  else (modTxt m,0,0)
end Go.Proofs.YtalfbnllodhkiacGreatDoor
namespace Go.Proofs.YtalfbnllodhkiacGreatDoor
open Go.ChangeShapes Go.WideShapes Go.ChangeAt Go.RowKit Go.Shelf
set_option linter.unusedSimpArgs false
set_option linter.unusedVariables false
structure Heads (T : TypeId) : Prop where
  lies:liesAt Tryz.prog Tryz.prog.depth T (2 / Tryz.prog.cellsOf T) 0 88 1=true
  ne:T≠5
theorem headsS : Heads 90 := ⟨by kernel_rfl, by decide⟩
theorem lt_ofG {w : World} {k : Nat} {o : Obj} (h : w.heap[k]? = some o) : k < w.heap.size := by
  rcases Nat.lt_or_ge k w.heap.size with h' | h'
  · exact h'
  · rw [Array.getElem?_eq_none h'] at h;cases h
structure Wr (B b : Nat) (w w' : World) : Prop where
  below:Below B w w'
  kept:Lib.OthersKept 5 (some b) w w'
theorem Wr.refl (B b : Nat) (w : World) : Wr B b w w := ⟨Below.refl _ _, Lib.OthersKept.refl _ _ _⟩
theorem Wr.trans {B b : Nat} {w w1 w2 : World} (h : Wr B b w w1) (k : Wr B b w1 w2) : Wr B b w w2 := ⟨h.below.trans k.below, h.kept.trans k.kept⟩
theorem Wr.of {B b : Nat} {w w' : World} (hB : B ≤ w.heap.size) (h : Below w.heap.size w w') : Wr B b w w' := ⟨h.mono hB, fun k o hk _ _ => by
  rw [h.block k (lt_ofG hk)];exact hk⟩
theorem Wr.size {B b : Nat} {w w' : World} (h : Wr B b w w') : w.heap.size ≤ w'.heap.size := h.below.size
theorem Wr.blk {B b g : Nat} {w w' : World} {c : Array Value} {t : TypeId} (h : Wr B b w w') (hg : Blk w g c t) (hne : g ≠ b) (ht : t ≠ 5) : Blk w' g c t :=
  h.kept g _ hg (fun e=>hne (Option.some.inj e)) (fun c' fz e=>by injection e with _ e;exact ht e)
section
theorem scc_fresh {T : TypeId} (hT : Heads T) (b : Nat) (w : World) (h0 : w.cell? ⟨b, 0, none⟩ = some (.pointer none)) (hsh : w.shape? b = some (T, 2)) (hfz : w.frozen? ⟨b, 0, none⟩ = false) :
    Calls Tryz.prog 188 #[.pointer (some ⟨b,0,none⟩)] w fun e w'=>e=.returned (.tuple #[])∧w'=w.setCell ⟨b,0,none⟩ (.pointer (some ⟨b,0,none⟩)):=by
  obtain ⟨j,hj,hjs⟩:=Option.map_eq_some_iff.1 sizeB;have hl:=hT.lies;clear hT;go_enter Tryz.func188,Tryz.ntmps188
  go_wp2
  rw [Lib.run_to_unsafe w ⟨b,0,none⟩ Tryz.underlying85 Tryz.underlying220 hj (by rw [hjs];decide) hsh (Nat.zero_lt_succ 1)];simp only [Result.andThen];rw [Oper.upon_value];go_wp2
  rw [run_callFunc_extern Tryz.func219 (by kernel_rfl) (by kernel_rfl) (by kernel_rfl) (e:=Extern.AbiNoEscape.same) (by kernel_rfl)];rw [Lib.run_noEscape];simp only [Result.andThen];rw [Oper.upon_value];go_wp2
  rw [Lib.run_from_unsafe w ⟨b,0,none⟩ Tryz.underlying220 Tryz.underlying85 hj hsh hl];simp only [Result.andThen];rw [Oper.upon_value];go_wp2
  go_end0
  exact ⟨rfl,rfl⟩
theorem scc_any {T : TypeId} (hT : Heads T) (B b : Nat) (bs : List Value) (w : World) (h : Lib.IsBuilderF T 5 B b bs w) :
    Calls Tryz.prog 188 #[.pointer (some ⟨b,0,none⟩)] w fun e w'=>e=.returned (.tuple #[])∧(Lib.BuilderAtF T 5 B b (.pointer (some ⟨b,0,none⟩)) bs w'∧Wr B b w w'):=by
  rcases h with h | h
  · refine (scc_fresh hT b w h.cell0 h.shape h.frozen0).mono ?_;rintro e w' ⟨rfl,rfl⟩;exact ⟨rfl,h.used _,(Below.refl B w).setCell (p:=⟨b,0,none⟩) h.1 _,(Lib.OthersKept.refl _ _ w).setCell ⟨b,0,none⟩ rfl _⟩
  · refine (cc_used b w h.cell0).mono ?_;rintro e w' ⟨rfl,rfl⟩;exact ⟨rfl,h,Wr.refl _ _ _⟩
theorem sws_any {T : TypeId} (hT : Heads T) (B b : Nat) (bs : List Value) (s : ByteArray) (w : World) (h : Lib.IsBuilderF T 5 B b bs w) (hlen : bs.length + s.size ≤ 140737488355328) (hBw : B ≤ w.heap.size) :
    Calls Tryz.prog 149 #[.pointer (some ⟨b,0,none⟩),.string s] w fun e w'=>e=.returned (.tuple #[.int .i64 s.size,.nilIface])∧(Lib.BuilderAtF T 5 B b (.pointer (some ⟨b,0,none⟩)) (bs++Lib.strCells s) w'∧Wr B b w w'):=by
  obtain ⟨i0,hi,hz0,hz1,hz2⟩:=info_parts infoByte;have hne5:=hT.ne;go_enter Tryz.func149,Tryz.ntmps149
  go_wp2_with fail
  refine (scc_any hT B b bs _ h).mono ?_;rintro e w1 ⟨rfl,h1,hb1,hk1⟩;obtain ⟨hB,v,hbk,hown,hne⟩:=h1;have c0:w1.cell? ⟨b,0,none⟩=some (.pointer (some ⟨b,0,none⟩)):=by rw [Lib.cell_of_heap hbk];rfl
  have c1:w1.cell? ⟨b,1,none⟩=some v:=by rw [Lib.cell_of_heap hbk];rfl
  go_wp2_with (at_builtin;refine Lib.wpList_append_own_stringF _ rfl _ _ 86 9 rfl B 5 i0 Tryz.underlying86 Tryz.underlying9 hi hz0 hz1 hz2 _ _ _ rfl hown s rfl ?c3 ?c4 ?c5 ?_)
  case c3=>unfold maxLen;omega
  case c4=>omega
  case c5=>have:=hb1.size;omega
  intro v' w2 hown' hgrow _;have hlt:b<w1.heap.size:=lt_of_block hbk
  have hb2:w2.heap[b]?=some (.cells #[.pointer (some ⟨b,0,none⟩),v] T (0,0)):=by
    rw [hgrow.block b hlt (fun e=>hne e.symm)];exact hbk
  have d0:w2.cell? ⟨b,0,none⟩=some (.pointer (some ⟨b,0,none⟩)):=by rw [Lib.cell_of_heap hb2];rfl
  have d1:w2.cell? ⟨b,1,none⟩=some v:=by rw [Lib.cell_of_heap hb2];rfl
  have f1:w2.frozen? ⟨b,1,none⟩=false:=Lib.frozen_of_heap hb2 1
  obtain ⟨ao,n',cap,rfl⟩:∃ ao n' cap,v'=.slice ao n' cap:=by
    rcases hown'.2 with ⟨hv,_⟩ | ⟨g,cap,cur,fz,hv,_⟩
    · exact ⟨_,_,_,hv⟩
    · exact ⟨_,_,_,hv⟩
  go_wp2
  go_ret2;refine ⟨rfl,?_,?_,(hk1.grown hgrow (Lib.ownsRowF_kind hown)).setCell ⟨b,1,none⟩ rfl _⟩
  · exact Lib.BuilderAtF.put (T:=T) (e:=5) hB hb2 (bs':=bs++Lib.strCells s) (by simpa [Lib.strCells_length] using hown') hne5
  · exact (hb1.grown hgrow (by have:=hb1.size;omega) (fun k hk=>(hown.lt k hk).1)).setCell (p:=⟨b,1,none⟩) hB _
theorem swb_any {T : TypeId} (hT : Heads T) (B b : Nat) (bs : List Value) (c : Int) (w : World) (h : Lib.IsBuilderF T 5 B b bs w) (hlen : bs.length + 1 ≤ 140737488355328) (hBw : B ≤ w.heap.size) :
    Calls Tryz.prog 151 #[.pointer (some ⟨b,0,none⟩),.int .u8 c] w fun e w'=>e=.returned .nilIface∧(Lib.BuilderAtF T 5 B b (.pointer (some ⟨b,0,none⟩)) (bs++[.int .u8 c]) w'∧Wr B b w w'):=by
  obtain ⟨i0,hi,hz0,hz1,hz2⟩:=info_parts infoByte;have hne5:=hT.ne;go_enter Tryz.func151,Tryz.ntmps151
  go_wp2_with fail
  refine (scc_any hT B b bs _ h).mono ?_;rintro e w1 ⟨rfl,h1,hb1,hk1⟩;obtain ⟨hB,v,hbk,hown,hne⟩:=h1;have c0:w1.cell? ⟨b,0,none⟩=some (.pointer (some ⟨b,0,none⟩)):=by rw [Lib.cell_of_heap hbk];rfl
  have c1:w1.cell? ⟨b,1,none⟩=some v:=by rw [Lib.cell_of_heap hbk];rfl
  go_wp2_with (at_builtin;refine wpList_append_ownF _ rfl _ _ 86 rfl B 5 i0 (.int .u8 0) 1 1 Tryz.underlying86 hi hz0 hz1 hz2 rfl (by decide) _ _ _ rfl (hown.alloc _) ⟨w1.heap.size,0,none⟩ 1 1 [.int .u8 c] rfl rfl ?c1 ?c2 ?c3 ?c4 ?c5 ?_)
  case c1 =>
    intro j u hj;match j,hj with
    | 0,hj=>simp at hj;subst hj;simp [Addr.add]
  case c2=>intro u hu;simp at hu;subst hu;rfl
  case c3=>unfold maxLen;omega
  case c4=>omega
  case c5=>have:=hb1.size;simp;omega
  intro v' w2 hown' hgrow _;have hlt:b<w1.heap.size:=lt_of_block hbk
  have hb2:w2.heap[b]?=some (.cells #[.pointer (some ⟨b,0,none⟩),v] T (0,0)):=by
    rw [hgrow.block b (by simp;omega) (fun e=>hne e.symm),Lib.alloc_old w1 _ b hlt];exact hbk
  have d0:w2.cell? ⟨b,0,none⟩=some (.pointer (some ⟨b,0,none⟩)):=by rw [Lib.cell_of_heap hb2];rfl
  have d1:w2.cell? ⟨b,1,none⟩=some v:=by rw [Lib.cell_of_heap hb2];rfl
  have f1:w2.frozen? ⟨b,1,none⟩=false:=Lib.frozen_of_heap hb2 1
  obtain ⟨g,cap,rfl⟩:∃ g cap,v'=.slice (some ⟨g,0,none⟩) (bs.length+1) cap:=by
    rcases hown'.2 with ⟨_,h0⟩ | ⟨g,cap,cur,fz,hv,_⟩
    · omega
    · exact ⟨g,cap,hv⟩
  go_wp2
  go_ret;refine ⟨rfl,?_,?_,((hk1.alloc _).grown hgrow (Lib.ownsRowF_kind (hown.alloc _))).setCell ⟨b,1,none⟩ rfl _⟩
  · exact Lib.BuilderAtF.put (T:=T) (e:=5) hB hb2 (bs':=bs++[.int .u8 c]) (by simpa using hown') hne5
  · exact ((hb1.alloc (by have:=hb1.size;omega) _).grown hgrow (by have:=hb1.size;simp;omega) (fun k hk=>(hown.lt k hk).1)).setCell (p:=⟨b,1,none⟩) hB _
theorem slen_any {T : TypeId} (B b : Nat) (bs : List Value) (w : World) (h : Lib.IsBuilderF T 5 B b bs w) :
    Calls Tryz.prog 152 #[.pointer (some ⟨b,0,none⟩)] w fun e w'=>e=.returned (.int .i64 bs.length)∧w'=w:=by
  obtain ⟨p,hB,v,hbk,hown,hne⟩:∃ p,Lib.BuilderAtF T 5 B b p bs w:=by
    rcases h with h | h
    · exact ⟨_,h⟩
    · exact ⟨_,h⟩
  obtain ⟨ao,cap,rfl⟩:∃ ao cap,v=.slice ao bs.length cap:=by
    rcases hown.2 with ⟨hv,h0⟩ | ⟨g,cap,cur,fz,hv,_⟩
    · exact ⟨none,0,by rw [hv,h0]⟩
    · exact ⟨_,_,hv⟩
  have c1:w.cell? ⟨b,1,none⟩=some (.slice ao bs.length cap):=by rw [Lib.cell_of_heap hbk];rfl
  clear hbk hown h hne;go_enter Tryz.func152,Tryz.ntmps152
  go_wp2
  go_ret;exact ⟨rfl,rfl⟩
theorem sstr_any {T : TypeId} (B b : Nat) (l : List UInt8) (w : World) (h : Lib.IsBuilderF T 5 B b (Lib.byteCells l) w) (h0 : l ≠ []) :
    Calls Tryz.prog 47 #[.pointer (some ⟨b,0,none⟩)] w fun e w'=>e=.returned (.string (str l))∧Wr B b w w':=by
  obtain ⟨p,hB,v,hbk,hown,hne⟩:∃ p,Lib.BuilderAtF T 5 B b p (Lib.byteCells l) w:=by
    rcases h with h | h
    · exact ⟨_,h⟩
    · exact ⟨_,h⟩
  have hl0:l.length≠0:=by simpa using h0
  rw [Lib.byteCells_length] at hown
  obtain ⟨g,cap,cur,fz,rfl,hbg,hg,hfz,hnc,hcm,hcs,htake⟩:∃ g cap cur fz,v=.slice (some ⟨g,0,none⟩) l.length cap∧B≤g∧w.heap[g]?=some (.cells cur 5 fz)∧fz.2≤l.length*1∧l.length≤cap∧cap≤maxLen∧cur.size=cap*1∧cur.toList.take (l.length*1)=Lib.byteCells l:=by
    rcases hown.2 with ⟨_,hz⟩ | ⟨g,cap,cur,fz,hv,r⟩
    · exact absurd hz hl0
    · exact ⟨g,cap,cur,fz,hv,r⟩
  have c1:w.drew.cell? ⟨b,1,none⟩=some (.slice (some ⟨g,0,none⟩) l.length cap):=by
    have:w.drew.heap[b]?=some (.cells #[p,.slice (some ⟨g,0,none⟩) l.length cap] T (0,0)):=hbk
    rw [Lib.cell_of_heap this];rfl
  have hSD:(Builtin.unsafeSliceData_ #[86] 137 #[.slice (some ⟨g,0,none⟩) l.length cap]).run Tryz.prog w.drew=.ok (.pointer (some ⟨g,0,none⟩)) w.drew :=
    Lib.run_unsafeSliceData_row _ _ _ _ _ _ (by omega)
  have hUS:(Builtin.unsafeString_ #[137,3] 9 #[.pointer (some ⟨g,0,none⟩),.int .i64 l.length]).run Tryz.prog w.drew=.ok (.string ⟨l.toArray⟩) (w.drew.freeze ⟨g,0,none⟩ l.length):=by
    refine Lib.run_unsafeString_row w.drew 137 3 9 5 Tryz.underlying137 Tryz.Builder_Extra_169.cellsByte g cur.size (by have hg':w.drew.heap[g]?=some (.cells cur 5 fz):=hg;simp [World.shape?,hg']) l h0 (by omega) (by unfold maxLen at hcm;omega) ?_;intro j x hx
    have:=hown.cells (g:=g) rfl j (.int .u8 x.toNat) (by simp [Lib.byteCells,hx])
    exact this
  have HG:Hid (w.heap[g]?=some (.cells cur 5 fz)):=hg;clear hbk hown h hne hg htake;have mixed:=Tryz.lays169.mixed;go_enter Tryz.func47,Tryz.ntmps47
  go_wp2
  go_region_o
  all_goals (go_wp2;go_ret;exact ⟨rfl,Lib.below_freeze (Below.drew (Below.refl B w)) (p:=⟨g,0,none⟩) hbg _,((Lib.OthersKept.refl _ _ w).drew).freeze ⟨g,0,none⟩ _ ⟨cur,fz,HG.out⟩⟩)
end
theorem cat_join (xs : List (List UInt8)) : catL xs = Lib.join xs [44, 32] := by
  cases xs with
  | nil=>rfl
  | cons x xs=>rw [Lib.join_cons,catL,Lib.joinTail,List.flatMap_def]
theorem join_any (bk o c : Nat) (xs : List (List UInt8)) (sep : List UInt8) (w : World)
    (hcells:∀ (j:Nat) x,xs[j]?=some x→w.cell? ⟨bk,o+j,none⟩=some (.string (str x))) (hbk:bk<w.heap.size) (hN:xs.length≤140737488355328) (hcap:xs.length≤c) (hlen:(Lib.join xs sep).length≤140737488355328) :
    Calls Tryz.prog 189 #[.slice (some ⟨bk,o,none⟩) xs.length c,.string (str sep)] w fun e w'=>e=.returned (.string (str (Lib.join xs sep)))∧Below w.heap.size w w':=by
  have e1:(xs.map str).map (·.data.toList)=xs:=by rw [List.map_map];simp [Function.comp_def,str_list]
  have:=Any.strings_Join Tryz.lays156 Tryz.Builder_Extra_156 bk o c (xs.map str) (str sep) w (fun j x hx=>by
    rw [List.getElem?_map,Option.map_eq_some_iff] at hx;obtain ⟨y,hy,rfl⟩:=hx;exact hcells j y hy) hbk (by simpa using hN) (by simpa using hcap) (by rw [e1,str_list];exact hlen)
  rw [e1,str_list,List.length_map] at this;exact this
theorem number_any (n : Int) (h0 : -9223372036854775808 ≤ n ∧ n ≤ 9223372036854775807) (w : World) (hp : Pows w) :
    Calls Tryz.prog 120 #[.int .i64 n] w fun e w'=>e=.returned (.string (str (Lib.itoa n)))∧Below w.heap.size w w':=by
  have C:Hid (Calls Tryz.prog 88 #[.int .i64 n] w fun e w'=>e=.returned (.string (str (Lib.itoa n)))∧Below w.heap.size w w'):=itoa_any n h0 w hp;clear h0 hp;go_enter Tryz.func120,Tryz.ntmps120
  go_wp2_with fail
  refine C.out.mono ?_;rintro e w2 ⟨rfl,b2⟩;have B2:Hid (Below w.heap.size w w2):=b2;clear b2;go_wp2
  go_ret;exact ⟨rfl,B2.out⟩
theorem spaced_any (bk o c : Nat) (xs : List (List UInt8)) (w : World)
    (hcells:∀ (j:Nat) x,xs[j]?=some x→w.cell? ⟨bk,o+j,none⟩=some (.string (str x))) (hbk:bk<w.heap.size) (hN:xs.length≤140737488355328) (hcap:xs.length≤c) (hlen:(Lib.join xs [32]).length≤140737488355328) :
    Calls Tryz.prog 150 #[.slice (some ⟨bk,o,none⟩) xs.length c] w fun e w'=>e=.returned (.string (str (Lib.join xs [32])))∧Below w.heap.size w w':=by
  have C:Hid (Calls Tryz.prog 189 #[.slice (some ⟨bk,o,none⟩) xs.length c,.string (str [32])] w fun e w'=>e=.returned (.string (str (Lib.join xs [32])))∧Below w.heap.size w w'):=join_any bk o c xs [32] w hcells hbk hN hcap hlen;clear hcells hbk hN hcap hlen;go_enter Tryz.func150,Tryz.ntmps150
  go_wp2_with fail
  refine C.out.mono ?_;rintro e w2 ⟨rfl,b2⟩;have B2:Hid (Below w.heap.size w w2):=b2;clear b2;go_wp2
  go_ret;exact ⟨rfl,B2.out⟩
theorem join_two (a b sep : List UInt8) : Lib.join [a, b] sep = a ++ (sep ++ b) := by simp [Lib.join_cons, Lib.joinTail]
theorem strs_new (w : World) (xs : List (List UInt8)) : ∀ (j : Nat) x, xs[j]? = some x → (w.alloc (.cells (xs.map (fun s => Value.string (str s))).toArray 9)).cell? ⟨w.heap.size, 0 + j, none⟩ = some (.string (str x)) := by
  intro j x hx;rw [Nat.zero_add];exact cellOf (blockNew w _ _) j _ (by simp [hx])
theorem ints_i64 {w : World} {O : Nat → Prop} {l : List Int} {cs : List Value} (h : intsL.In w O l cs) : ∀ x ∈ l, -9223372036854775808 ≤ x ∧ x ≤ 9223372036854775807 := by
  intro x hx;obtain ⟨a,c,e,h⟩:=h;obtain ⟨i,hi⟩:=List.getElem?_of_mem hx;obtain ⟨g,o,ds,_,_,_,_,h5⟩:=h i x hi;exact h5.2
theorem nT_len {x : Int} (h : -9223372036854775808 ≤ x ∧ x ≤ 9223372036854775807) : (nT x).length ≤ 22 := by
  have:=Lib.itoa_length_le x h.1 h.2
  simp [nT];omega
theorem flat_len {α : Type} {f : α → List UInt8} {k : Nat} : ∀ {l : List α}, (∀ x ∈ l, (f x).length ≤ k) → (l.flatMap f).length ≤ k * l.length
  | [],_=>by simp
  | x::l,h=>by
    have h1:=h x (by simp);have h2:=flat_len (l:=l) (fun y hy=>h y (by simp [hy]));simp only [List.flatMap_cons,List.length_append,List.length_cons,Nat.mul_add,Nat.mul_one];omega
theorem take_len {w : World} {O : Nat → Prop} {l : List Int} {cs : List Value} (h : intsL.In w O l cs) (q : Nat) : ((l.take q).flatMap nT).length ≤ 22 * l.length := by
  have:=flat_len (f:=nT) (k:=22) (l:=l.take q) (fun x hx=>nT_len (ints_i64 h x (List.mem_of_mem_take hx)))
  have h2:(l.take q).length≤l.length:=List.length_take_le' _ _
  have:=Nat.mul_le_mul_left 22 h2
  omega
theorem numbered_any (s : List UInt8) (l : List Int) (bk c : Nat) (w : World) (hl0 : intsL.In w All l [.slice (some ⟨bk, 0, none⟩) l.length c]) (hp0 : Pows w) (hn : l.length ≤ 10) (hs : s.length ≤ 1000) :
    Calls Tryz.prog 191 #[.string (str s),.slice (some ⟨bk,0,none⟩) l.length c] w fun e w'=>e=.returned (.string (str (s++l.flatMap nT)))∧Below w.heap.size w w':=by
  have hl:Hid (intsL.In w All l [.slice (some ⟨bk,0,none⟩) l.length c]):=hl0;have hp:Hid (Pows w):=hp0;clear hl0 hp0;go_enter Tryz.func191,Tryz.ntmps191
  go_wp2_with fail
  go_loopw [0,9] (fun v i wr=>∃ q:Nat,q≤l.length∧i=.int .i64 q∧v=.string (str (s++(l.take q).flatMap nT))∧Below w.heap.size w wr) (fun _ i _=>l.length - (intOf i).toNat)
  case atStart=>exact ⟨0,Nat.zero_le _,rfl,by simp,Below.refl _ _⟩
  case round =>
    obtain ⟨q,hq,rfl,rfl,hb⟩:=hrel;have Bl:Hid (Below w.heap.size w wr):=hb;clear hb;have hln:=take_len hl.out q;by_cases hlt:q<l.length
    · obtain ⟨g,o,e0,_,hg,hc⟩:=ints_at (Lay.below hl.out Bl.out) hlt;injection e0 with e0
      injection e0 with e0 e1
      subst e0 e1;have hx:l[q]?=some l[q]:=List.getElem?_eq_getElem hlt;have hI:=ints_i64 hl.out _ (List.mem_of_getElem? hx);rw [show l.getD q 0=l[q] by simp [List.getD,hlt],Nat.zero_add] at hc
      have hS:s++(l.take (q+1)).flatMap nT=Lib.join [s++(l.take q).flatMap nT,Lib.itoa l[q]] [32]:=by
        rw [List.take_add_one,hx,Option.toList_some,List.flatMap_append,join_two];simp [nT]
      generalize l[q]=x at hx hc hS hI;have hlx:=Lib.itoa_length_le x hI.1 hI.2;have C:Hid (Calls Tryz.prog 120 #[.int .i64 x] wr fun e w'=>e=.returned (.string (str (Lib.itoa x)))∧Below wr.heap.size wr w'):=number_any x hI wr (hp.out.below Bl.out);have hL:((s++(l.take q).flatMap nT).length≤2000):=by rw [List.length_append];omega
      have R:Hid (s++(l.take (q+1)).flatMap nT=Lib.join [s++(l.take q).flatMap nT,Lib.itoa x] [32]):=hS;generalize s++(l.take q).flatMap nT=t at R hL ⊢;generalize Lib.itoa x=z at R hlx C
      have D:Hid (∀ w2:World,Calls Tryz.prog 150 #[.slice (some ⟨w2.heap.size,0,none⟩) 2 2] (w2.alloc (.cells #[.string (str t),.string (str z)] 9)) fun e w'=>e=.returned (.string (str (Lib.join [t,z] [32])))∧Below w2.heap.size w2 w'):=fun w2=>by
        refine (spaced_any w2.heap.size 0 2 [t,z] _ (strs_new w2 [t,z]) (by simp) (by simp) (by simp) (by rw [join_two];simp;omega)).mono ?_;rintro e w3 ⟨rfl,b3⟩;exact ⟨rfl,(bel1 w2 _).trans (b3.mono (by simp))⟩
      have hk0:(0:Int)≤q:=by omega
      have hk1:(q:Int)<l.length:=by omega
      clear hS hx hI hlx hL hln;go_wp2_with fail
      refine C.out.mono ?_;rintro e w2 ⟨rfl,b2⟩;have B2:Hid (Below w.heap.size w w2):=Bl.out.trans (b2.mono Bl.out.size);clear b2 C Bl;go_wp2_with fail
      refine (D.out w2).mono ?_;rintro e w3 ⟨rfl,b3⟩;have B3:Hid (Below w.heap.size w w3):=B2.out.trans (b3.mono B2.out.size);clear b3 D B2;go_wp2
      go_roundw
      case rel=>exact ⟨q+1,by omega,by go_num,by rw [R.out],B3.out⟩
      case measure=>simp [intOf];omega
    · have hk1:¬ (q:Int)<l.length:=by omega
      have htt:l.take q=l:=List.take_of_length_le (by omega);rw [htt];clear hln htt;go_wp2
      go_ret;exact ⟨rfl,Bl.out⟩
theorem enters_number : ∀ (args : Array Value) (w : World), (callFunc 120 args).run Tryz.prog w = .ok (.enter 120 args) w := fun _ _ => by kernel_rfl
theorem enters_Text : ∀ (args : Array Value) (w : World), (callFunc 154 args).run Tryz.prog w = .ok (.enter 154 args) w := fun _ _ => by kernel_rfl
theorem underStrs : Tryz.prog.underlying 73 = some (.slice 9) := by kernel_rfl
theorem infoStr : (Tryz.prog.info? 9).map (fun i => (i.zero, i.size, i.bytes)) = some (some (.string ⟨#[]⟩), 1, 16) := by kernel_rfl
def SRow (w : World) (g n : Nat) (xs : List (List UInt8)) : Prop := ∃ cs : Array Value, Blk w g cs 9 ∧ cs.size = n ∧ xs.length ≤ n ∧ ∀ (j : Nat) x, xs[j]? = some x → cs[j]? = some (.string (str x))
theorem SRow.start (w : World) (n : Nat) : SRow (w.alloc (.cells (madeCells #[.string ⟨#[]⟩] n) 9)) w.heap.size n [] := ⟨_, Blk.new _ _ _, size_madeCells _ _, Nat.zero_le _, fun j x h => by simp at h⟩
theorem SRow.below {w w' : World} {g n : Nat} {xs : List (List UInt8)} (h : SRow w g n xs) (hb : Below w.heap.size w w') : SRow w' g n xs := by
  obtain ⟨cs,h1,h2⟩:=h;exact ⟨cs,(hb.block g (lt_of_block h1)).trans h1,h2⟩
theorem SRow.lt {w : World} {g n : Nat} {xs : List (List UInt8)} (h : SRow w g n xs) : g < w.heap.size := by
  obtain ⟨cs,h1,_⟩:=h;exact lt_of_block h1
theorem SRow.set {w : World} {g n q : Nat} {xs : List (List UInt8)} (h : SRow w g n xs) (x : List UInt8) (hq : xs.length = q) (hn : q < n) : SRow (w.setCell ⟨g, q, none⟩ (.string (str x))) g n (xs ++ [x]) := by
  subst hq;obtain ⟨cs,h1,h2,h3,h4⟩:=h;refine ⟨cs.setIfInBounds xs.length (.string (str x)),blockSet h1 _ _,by simpa using h2,by simp;omega,fun j y hy=>?_⟩;rw [List.getElem?_append] at hy;split at hy
  · rename_i hj
    rw [Array.getElem?_setIfInBounds_ne (by omega)];exact h4 j y hy
  · rename_i hj
    have:j - xs.length=0:=by
      have:=(List.getElem?_eq_some_iff.1 hy).1
      simp at this;omega
    rw [this] at hy;simp at hy
    subst hy;obtain rfl:j=xs.length:=by omega
    rw [Array.getElem?_setIfInBounds_self_of_lt (by omega)]
theorem SRow.cells {w : World} {g n : Nat} {xs : List (List UInt8)} (h : SRow w g n xs) : ∀ (j : Nat) x, xs[j]? = some x → w.cell? ⟨g, 0 + j, none⟩ = some (.string (str x)) := by
  obtain ⟨cs,h1,h2,h3,h4⟩:=h;intro j x hx;rw [Nat.zero_add];exact cellOf h1 j _ (h4 j x hx)
theorem SRow.at {w : World} {g n q : Nat} {xs : List (List UInt8)} (h : SRow w g n xs) (hq : q < n) : (∃ v, w.cell? ⟨g, q, none⟩ = some v) ∧ w.frozen? ⟨g, q, none⟩ = false := by
  obtain ⟨cs,h1,h2,_⟩:=h;refine ⟨⟨_,cellOf h1 q _ (Array.getElem?_eq_getElem (by omega))⟩,Lib.frozen_of_heap h1 q⟩
theorem cat_len {α : Type} {t : α → List UInt8} {k : Nat} {l : List α} (h : ∀ x ∈ l, (t x).length ≤ k) : (catL (l.map t)).length ≤ (k + 2) * l.length := by
  refine Nat.le_trans (catL_len _) ?_;rw [List.map_map]
  have:=sum_map_le (l:=l) (f:=(fun x=>x.length+2) ∘ t) (g:=fun _=>k+2) (fun x hx=>by have:=h x hx;simp [Function.comp];omega)
  have e:(l.map (fun _=>k+2)).sum=(k+2)*l.length:=by
    clear this h
    induction l with
    | nil=>rfl
    | cons x l ih=>rw [List.map_cons,List.sum_cons,ih,List.length_cons,Nat.mul_add,Nat.mul_one];omega
  omega
theorem listedI_any (l : List Int) (a : Option Addr) (c : Nat) (w : World) (hl0 : intsL.In w All l [.slice a l.length c]) (hp0 : Pows w) (hn : l.length ≤ 300) :
    Calls Tryz.prog 222 #[.slice a l.length c,.func (.func 120) #[] #[]] w fun e w'=>e=.returned (.string (str (catL (l.map Lib.itoa))))∧Below w.heap.size w w':=by
  have hl:Hid (intsL.In w All l [.slice a l.length c]):=hl0;have hE:=enters_number;have hp:Hid (Pows w):=hp0;clear hl0 hp0;have hmk:=run_make_row' (P:=Tryz.prog) 73 9 (.string ⟨#[]⟩) 16 underStrs infoStr rfl .i64 .i64 l.length (by omega) (by omega) w;have r1:Hid (SRow (w.alloc (.cells (madeCells #[.string ⟨#[]⟩] l.length) 9)) w.heap.size l.length []):=SRow.start w _;have B1:Hid (Below w.heap.size w (w.alloc (.cells (madeCells #[.string ⟨#[]⟩] l.length) 9))):=bel1 _ _;go_enter Tryz.func222,Tryz.ntmps222
  go_wp2_with fail
  clear hmk;generalize w.alloc (.cells (madeCells #[.string ⟨#[]⟩] l.length) 9)=w1 at r1 B1 ⊢;generalize hgt:w.heap.size=gt;have GT:Hid (w.heap.size=gt):=hgt;clear hgt;go_loopw [13] (fun i wr=>∃ q:Nat,q≤l.length∧i=.int .i64 q∧SRow wr gt l.length ((l.take q).map Lib.itoa)∧Below w.heap.size w wr) (fun i _=>l.length - (intOf i).toNat)
  case atStart=>exact ⟨0,Nat.zero_le _,rfl,by rw [← GT.out];exact r1.out,B1.out⟩
  case round =>
    obtain ⟨q,hq,rfl,hr,hb⟩:=hrel;have Bl:Hid (Below w.heap.size w wr):=hb;have Rr:Hid (SRow wr gt l.length ((l.take q).map Lib.itoa)):=hr;clear hb hr;by_cases hlt:q<l.length
    · have hx:l[q]?=some l[q]:=List.getElem?_eq_getElem hlt;obtain ⟨g,o,rfl,_,hg,hc⟩:=ints_at (Lay.below hl.out Bl.out) hlt;have hI:=ints_i64 hl.out _ (List.mem_of_getElem? hx);rw [show l.getD q 0=l[q] by simp [List.getD,hlt]] at hc;generalize l[q]=x at hx hc hI;have C:Hid (Calls Tryz.prog 120 #[.int .i64 x] wr fun e w'=>e=.returned (.string (str (Lib.itoa x)))∧Below wr.heap.size wr w'):=number_any x hI wr (hp.out.below Bl.out)
      have S:Hid ((l.take (q+1)).map Lib.itoa=(l.take q).map Lib.itoa++[Lib.itoa x]):=by
        show _=_;rw [List.take_add_one,hx];simp
      have hql:Hid (((l.take q).map Lib.itoa).length=q):=by show _=_;simp;omega
      have hk0:(0:Int)≤q:=by omega
      have hk1:(q:Int)<l.length:=by omega
      clear hx;generalize Lib.itoa x=z at S C;clear hI;go_wp2_with fail
      refine C.out.mono ?_;rintro e w2 ⟨rfl,b2⟩;obtain ⟨⟨v0,hv0⟩,hf0⟩:=(Rr.out.below b2).at hlt
      have R3:Hid (SRow (w2.setCell ⟨gt,q,none⟩ (.string (str z))) gt l.length ((l.take (q+1)).map Lib.itoa)):=by
        have:=(Rr.out.below b2).set z hql.out hlt
        rw [← S.out] at this;exact this
      have B3:Hid (Below w.heap.size w (w2.setCell ⟨gt,q,none⟩ (.string (str z)))):=(Bl.out.trans (b2.mono Bl.out.size)).setCell (p:=⟨gt,q,none⟩) (by show _≤gt;rw [GT.out];exact Nat.le_refl _) _;clear b2 C Bl Rr;go_wp2
      go_roundw
      case rel=>exact ⟨q+1,by omega,by go_num,R3.out,B3.out⟩
      case measure=>simp [intOf];omega
    · have hk1:¬ (q:Int)<l.length:=by omega
      have htt:l.take q=l:=List.take_of_length_le (by omega)
      have D:Hid (Calls Tryz.prog 189 #[.slice (some ⟨gt,0,none⟩) l.length l.length,.string (str [44,32])] wr fun e w'=>e=.returned (.string (str (catL (l.map Lib.itoa))))∧Below wr.heap.size wr w'):=by
        have R:=Rr.out;rw [htt] at R
        have:=join_any gt 0 l.length (l.map Lib.itoa) [44,32] wr R.cells R.lt (by simp;omega) (by simp) (by
          rw [← cat_join];have h1:=cat_len (t:=Lib.itoa) (k:=21) (l:=l) (fun x hx=>Lib.itoa_length_le x (ints_i64 hl.out x hx).1 (ints_i64 hl.out x hx).2);omega)
        rw [← cat_join,List.length_map] at this;exact this
      clear Rr htt;go_wp2_with fail
      refine D.out.mono ?_;rintro e w2 ⟨rfl,b2⟩;have B2:Hid (Below w.heap.size w w2):=Bl.out.trans (b2.mono Bl.out.size);clear D b2 Bl;go_wp2
      go_ret;exact ⟨rfl,B2.out⟩
theorem listedT_any {n : Nat} (l : List (TT n)) (a : Option Addr) (c : Nat) (w : World) (hl0 : (typesL n).In w All l [.slice a l.length c]) (hs0 : ∀ t ∈ l, t.count ≤ 2000) (hp0 : Pows w) (hn : l.length ≤ 300) :
    Calls Tryz.prog 153 #[.slice a l.length c,.func (.func 154) #[] #[]] w fun e w'=>e=.returned (.string (str (catL (l.map TT.txt))))∧Below w.heap.size w w':=by
  have hl:Hid ((typesL n).In w All l [.slice a l.length c]):=hl0;have hs:Hid (∀ t∈l,t.count≤2000):=hs0;have hE:=enters_Text;have hp:Hid (Pows w):=hp0;clear hl0 hs0 hp0;have hmk:=run_make_row' (P:=Tryz.prog) 73 9 (.string ⟨#[]⟩) 16 underStrs infoStr rfl .i64 .i64 l.length (by omega) (by omega) w;have r1:Hid (SRow (w.alloc (.cells (madeCells #[.string ⟨#[]⟩] l.length) 9)) w.heap.size l.length []):=SRow.start w _;have B1:Hid (Below w.heap.size w (w.alloc (.cells (madeCells #[.string ⟨#[]⟩] l.length) 9))):=bel1 _ _;go_enter Tryz.func153,Tryz.ntmps153
  go_wp2_with fail
  clear hmk;generalize w.alloc (.cells (madeCells #[.string ⟨#[]⟩] l.length) 9)=w1 at r1 B1 ⊢;generalize hgt:w.heap.size=gt;have GT:Hid (w.heap.size=gt):=hgt;clear hgt;go_loopw [13] (fun i wr=>∃ q:Nat,q≤l.length∧i=.int .i64 q∧SRow wr gt l.length ((l.take q).map TT.txt)∧Below w.heap.size w wr) (fun i _=>l.length - (intOf i).toNat)
  case atStart=>exact ⟨0,Nat.zero_le _,rfl,by rw [← GT.out];exact r1.out,B1.out⟩
  case round =>
    obtain ⟨q,hq,rfl,hr,hb⟩:=hrel;have Bl:Hid (Below w.heap.size w wr):=hb;have Rr:Hid (SRow wr gt l.length ((l.take q).map TT.txt)):=hr;clear hb hr;by_cases hlt:q<l.length
    · have hx:l[q]?=some l[q]:=List.getElem?_eq_getElem hlt;obtain ⟨g,o,a',c',rfl,_,d0,d1,d2,hk⟩:=LIn.at (types_lin (Lay.below hl.out Bl.out)).1 hx;have hg:g<wr.heap.size:=World.block_lt_of_cell? wr ⟨g,o+q*3,none⟩ d0;have hmem:=List.mem_of_getElem? hx;generalize l[q]=x at hx d0 d1 d2 hk hmem
      have C:Hid (Calls Tryz.prog 154 #[Tv x a' c'] (wr.alloc (.cells #[.int .i64 x.kind,.int .i64 x.r,.slice a' x.len c'] 78)) fun e w'=>e=.returned (.string (str x.txt))∧Below wr.heap.size wr w'):=by
        refine (text_any n x a' c' _ (hk.alloc _) (hs.out x hmem) ((types_lin hl.out).2 x hmem) ((hp.out.below Bl.out).below (bel1 _ _))).mono ?_;rintro e w' ⟨h1,h2⟩;exact ⟨h1,(bel1 wr _).trans (h2.mono (by simp))⟩
      have S:Hid ((l.take (q+1)).map TT.txt=(l.take q).map TT.txt++[x.txt]):=by
        show _=_;rw [List.take_add_one,hx];simp
      have hql:Hid (((l.take q).map TT.txt).length=q):=by show _=_;simp;omega
      have hk0:(0:Int)≤q:=by omega
      have hk1:(q:Int)<l.length:=by omega
      clear hx;clear hmem hk;simp only [Tv] at C;generalize x.kind=kx at C d0;generalize x.r=rx at C d1;generalize x.len=lx at C d2;generalize x.txt=z at S C;go_wp2_with fail
      refine C.out.mono ?_;rintro e w2 ⟨rfl,b2⟩;obtain ⟨⟨v0,hv0⟩,hf0⟩:=(Rr.out.below b2).at hlt
      have R3:Hid (SRow (w2.setCell ⟨gt,q,none⟩ (.string (str z))) gt l.length ((l.take (q+1)).map TT.txt)):=by
        have:=(Rr.out.below b2).set z hql.out hlt
        rw [← S.out] at this;exact this
      have B3:Hid (Below w.heap.size w (w2.setCell ⟨gt,q,none⟩ (.string (str z)))):=(Bl.out.trans (b2.mono Bl.out.size)).setCell (p:=⟨gt,q,none⟩) (by show _≤gt;rw [GT.out];exact Nat.le_refl _) _;clear b2 C Bl Rr;go_wp2
      go_roundw
      case rel=>exact ⟨q+1,by omega,by go_num,R3.out,B3.out⟩
      case measure=>simp [intOf];omega
    · have hk1:¬ (q:Int)<l.length:=by omega
      have htt:l.take q=l:=List.take_of_length_le (by omega)
      have D:Hid (Calls Tryz.prog 189 #[.slice (some ⟨gt,0,none⟩) l.length l.length,.string (str [44,32])] wr fun e w'=>e=.returned (.string (str (catL (l.map TT.txt))))∧Below wr.heap.size wr w'):=by
        have R:=Rr.out;rw [htt] at R
        have:=join_any gt 0 l.length (l.map TT.txt) [44,32] wr R.cells R.lt (by simp;omega) (by simp) (by
          rw [← cat_join]
          have h1:=cat_len (t:=TT.txt) (k:=80000) (l:=l) (fun x hx=>by
            have:=TT.txt_len ((types_lin hl.out).2 x hx)
            have:=hs.out x hx
            omega)
          omega)
        rw [← cat_join,List.length_map] at this;exact this
      clear Rr htt;go_wp2_with fail
      refine D.out.mono ?_;rintro e w2 ⟨rfl,b2⟩;have B2:Hid (Below w.heap.size w w2):=Bl.out.trans (b2.mono Bl.out.size);clear D b2 Bl;go_wp2
      go_ret;exact ⟨rfl,B2.out⟩
theorem args_any (l : List Int) (a : Option Addr) (c : Nat) (w : World) (hl0 : intsL.In w All l [.slice a l.length c]) (hp0 : Pows w) (hn : l.length ≤ 300) :
    Calls Tryz.prog 192 #[.slice a l.length c] w fun e w'=>e=.returned (.string (str (intsT 40 41 l)))∧Below w.heap.size w w':=by
  have hlen:Hid ((catL (l.map Lib.itoa)).length≤30000000):=by
    have h1:=cat_len (t:=Lib.itoa) (k:=21) (l:=l) (fun x hx=>Lib.itoa_length_le x (ints_i64 hl0 x hx).1 (ints_i64 hl0 x hx).2);show _≤_;omega
  have C:Hid (Calls Tryz.prog 222 #[.slice a l.length c,.func (.func 120) #[] #[]] w fun e w'=>e=.returned (.string (str (catL (l.map Lib.itoa))))∧Below w.heap.size w w'):=listedI_any l a c w hl0 hp0 hn;show Calls _ _ _ _ fun e w'=>e=.returned (.string (str (40::(catL (l.map Lib.itoa)++[41]))))∧Below w.heap.size w w';generalize catL (l.map Lib.itoa)=z at C hlen;have hz1:=hlen.out;clear hp0 hn;go_enter Tryz.func192,Tryz.ntmps192
  go_wp2_with fail
  refine C.out.mono ?_;rintro e w2 ⟨rfl,b2⟩;have B2:Hid (Below w.heap.size w w2):=b2;clear b2 C;rw [← str_size] at hz1;go_wp2
  go_ret;refine ⟨?_,B2.out⟩;rw [show str z=⟨z.toArray⟩ from rfl,ByteArray.mk_append_mk [40] z,ByteArray.mk_append_mk ([40]++z) [41]];rfl
theorem regs_any (l : List Int) (a : Option Addr) (c : Nat) (w : World) (hl0 : intsL.In w All l [.slice a l.length c]) (hp0 : Pows w) (hn : l.length ≤ 300) :
    Calls Tryz.prog 193 #[.slice a l.length c] w fun e w'=>e=.returned (.string (str (intsT 60 62 l)))∧Below w.heap.size w w':=by
  have hlen:Hid ((catL (l.map Lib.itoa)).length≤30000000):=by
    have h1:=cat_len (t:=Lib.itoa) (k:=21) (l:=l) (fun x hx=>Lib.itoa_length_le x (ints_i64 hl0 x hx).1 (ints_i64 hl0 x hx).2);show _≤_;omega
  have C:Hid (Calls Tryz.prog 222 #[.slice a l.length c,.func (.func 120) #[] #[]] w fun e w'=>e=.returned (.string (str (catL (l.map Lib.itoa))))∧Below w.heap.size w w'):=listedI_any l a c w hl0 hp0 hn;show Calls _ _ _ _ fun e w'=>e=.returned (.string (str (60::(catL (l.map Lib.itoa)++[62]))))∧Below w.heap.size w w';generalize catL (l.map Lib.itoa)=z at C hlen;have hz1:=hlen.out;clear hp0 hn;go_enter Tryz.func193,Tryz.ntmps193
  go_wp2_with fail
  refine C.out.mono ?_;rintro e w2 ⟨rfl,b2⟩;have B2:Hid (Below w.heap.size w w2):=b2;clear b2 C;rw [← str_size] at hz1;go_wp2
  go_ret;refine ⟨?_,B2.out⟩;rw [show str z=⟨z.toArray⟩ from rfl,ByteArray.mk_append_mk [60] z,ByteArray.mk_append_mk ([60]++z) [62]];rfl
theorem typeList_any {n : Nat} (l : List (TT n)) (a : Option Addr) (c : Nat) (w : World) (hl0 : (typesL n).In w All l [.slice a l.length c]) (hs0 : ∀ t ∈ l, t.count ≤ 2000) (hp0 : Pows w) (hn : l.length ≤ 300) :
    Calls Tryz.prog 121 #[.slice a l.length c] w fun e w'=>e=.returned (.string (str (typsT l)))∧Below w.heap.size w w':=by
  have hlen:Hid ((catL (l.map TT.txt)).length≤30000000):=by
    have h1:=cat_len (t:=TT.txt) (k:=80000) (l:=l) (fun x hx=>by
      have:=TT.txt_len ((types_lin hl0).2 x hx)
      have:=hs0 x hx
      omega)
    show _≤_;omega
  have C:Hid (Calls Tryz.prog 153 #[.slice a l.length c,.func (.func 154) #[] #[]] w fun e w'=>e=.returned (.string (str (catL (l.map TT.txt))))∧Below w.heap.size w w'):=listedT_any l a c w hl0 hs0 hp0 hn;show Calls _ _ _ _ fun e w'=>e=.returned (.string (str (40::(catL (l.map TT.txt)++[41]))))∧Below w.heap.size w w';generalize catL (l.map TT.txt)=z at C hlen;have hz1:=hlen.out;clear hp0 hn;go_enter Tryz.func121,Tryz.ntmps121
  go_wp2_with fail
  refine C.out.mono ?_;rintro e w2 ⟨rfl,b2⟩;have B2:Hid (Below w.heap.size w w2):=b2;clear b2 C;rw [← str_size] at hz1;go_wp2
  go_ret;refine ⟨?_,B2.out⟩;rw [show str z=⟨z.toArray⟩ from rfl,ByteArray.mk_append_mk [40] z,ByteArray.mk_append_mk ([40]++z) [41]];rfl
end Go.Proofs.YtalfbnllodhkiacGreatDoor
namespace Go.Proofs.YtalfbnllodhkiacGreatDoor
set_option linter.unusedVariables false
def MTo.small (x : MTo) : Prop := x.regs.length ≤ 300 ∧ x.args.length ≤ 300
def MIns.small (x : MIns) : Prop := x.regs.length ≤ 300 ∧ x.args.length ≤ 300
def MEnd.small (x : MEnd) : Prop := x.yes.small ∧ x.no.small ∧ x.args.length ≤ 300
def tsmall {n : Nat} (l : List (TT n)) : Prop := l.length ≤ 200 ∧ ∀ t ∈ l, t.count ≤ 100000
def MBlock.small {n : Nat} (x : MBlock n) : Prop := x.code.length ≤ 100000 ∧ tsmall x.params ∧ x.fin.small ∧ ∀ y ∈ x.code, y.small
def MFunc.small {n : Nat} (x : MFunc n) : Prop := x.blocks.length ≤ 100000 ∧ tsmall x.params ∧ tsmall x.results ∧ ∀ y ∈ x.blocks, y.small
def msmall {n : Nat} (m : List (MFunc n)) : Prop := m.length ≤ 100000 ∧ ∀ x ∈ m, x.small
theorem tsmall_of {n : Nat} {l : List (TT n)} (h : ¬ greatTs l) : tsmall l := ⟨Nat.le_of_not_lt fun x => h (.inl x), fun t ht => Nat.le_trans (Nat.le_of_not_lt fun x => h (.inr ⟨t, ht, x⟩)) (by decide)⟩
theorem MBlock.small_of {n : Nat} {x : MBlock n} (h : ¬ x.great) : x.small := by
  unfold MBlock.great at h;simp only [not_or,not_exists,not_and,Nat.not_lt] at h;obtain ⟨h1,h2,h3,h4,h5,h6,h7,h8⟩:=h;exact ⟨Nat.le_trans h1 (by decide),tsmall_of h2,⟨⟨h4,h5⟩,⟨h6,h7⟩,h3⟩,fun y hy=>h8 y hy⟩
theorem MFunc.small_of {n : Nat} {x : MFunc n} (h : ¬ x.great) : x.small := by
  unfold MFunc.great at h;simp only [not_or,not_exists,not_and,Nat.not_lt] at h;obtain ⟨h1,h2,h3,h4⟩:=h;exact ⟨Nat.le_trans h1 (by decide),tsmall_of h2,tsmall_of h3,fun y hy=>MBlock.small_of (h4 y hy)⟩
theorem msmall_of {n : Nat} {m : List (MFunc n)} (h : ¬ greatMod m) : msmall m := by
  unfold greatMod at h;simp only [not_or,not_exists,not_and,Nat.not_lt] at h;exact ⟨Nat.le_trans h.1 (by decide),fun x hx=>MFunc.small_of (h.2 x hx)⟩
end Go.Proofs.YtalfbnllodhkiacGreatDoor
namespace Go.Proofs.YtalfbnllodhkiacGreatDoor
open Go.RowKit
def opTmps (o : Oper) : List Tmp := o.op.operands.toList.filterMap fun | .tmp t => some t | _ => none
def dstsOf (l : List Oper) : List Tmp := l.filterMap (·.dst)
def nodupB : List Tmp → Bool
  | []=>true
  | t::r=>!r.contains t && nodupB r
def onB (gs : List (Nat × Option Bool)) (o : Oper) (b : Bool) : Bool :=
  match o.guard with
  | none=>b
  | some (g,want)=>match gs.lookup g with
    | some c=>b==(c==some want)
    | none=>false
def onsB (gs : List (Nat × Option Bool)) : List Oper → List Bool → Bool
  | [],[]=>true
  | o::l,b::bs=>onB gs o b && onsB gs l bs
  | _,_=>false
def looksB (ops : Array Oper) (ds outs : List Tmp) (o : Oper) : Bool :=
  (o.looksAt ops).all fun t=>(outs.contains t && !ds.contains t) || o.after.any fun e=>Region.binds .any e && ((ops[e.on]?).bind (·.dst)==some t)
def backB (i : Nat) : List Oper → Bool
  | []=>true
  | o::l=>(o.after.all fun e=>!Region.binds .any e || decide (e.on<i)) && backB (i+1) l
def calmB (l : List Oper) (n : Nat) (outs : List Tmp) (gs : List (Nat × Option Bool)) (bs : List Bool) : Bool :=
  (gs.all fun g=>((l.toArray[g.1]?).bind (·.dst)).isSome) && nodupB (dstsOf l) && ((dstsOf l).all fun t=>decide (t<n)) && (l.all (looksB l.toArray (dstsOf l) outs)) && onsB gs l bs && backB 0 l
section
variable {P : Program} (E : Tmp → Value → World → Prop) (W : World → Prop) (R : World → World → Prop)
def EO : Option Tmp → Value → World → Prop
  | some t=>E t
  | none=>fun _ _=>True
def Known (a : Act) (w : World) : List Tmp → Prop
  | []=>True
  | t::r=>E t (a.tmps.getD t undef) w∧Known a w r
def StepOn (P : Program) (o : Oper) : Prop :=
  ∀ a w,W w→Known E a w (opTmps o)→∀ K:Act→World→Prop,(∀ v w',R w w'→W w'→EO E o.dst v w'→K (a.put o.dst v) w')→o.wp P a w K (fun _ _ _=>False)
def StepOff (o : Oper) : Prop := ∀ w, W w → EO E o.dst undef w
def AllOk (P : Program) : List Oper → List Bool → Prop
  | o::l,true::bs=>StepOn E W R P o∧AllOk P l bs
  | o::l,false::bs=>StepOff E W o∧AllOk P l bs
  | _,_=>True
def GuardOk (ops : Array Oper) : List (Nat × Option Bool) → Prop
  | []=>True
  | (g,c)::r=>(∀ t,(ops[g]?).bind (·.dst)=some t→∀ v w,W w→E t v w→match c with | some b=>v=.bool b | none=>v=undef)∧GuardOk ops r
def OutsOk (a : Act) (w : World) : List Tmp → Prop
  | []=>True
  | t::r=>E t (a.tmps.getD t undef) w∧OutsOk a w r
def puts (a : Act) (vs : Tmp → Value) : List Tmp → Act
  | []=>a
  | t::r=>puts (a.put (some t) (vs t)) vs r
end
theorem wpq {P : Program} {o : Oper} {a : Act} {w : World} {K K' : Act → World → Prop} {Q : Exit → Act → World → Prop} (h : ∀ a w, K a w → K' a w)
    (hh:o.wp P a w K (fun _ _ _=>False)):o.wp P a w K' Q:=by
  unfold Oper.wp at *;generalize (execOp a.eval o).run P w=r at *
  cases r with
  | ok n w' =>
    cases n <;> simp only [Oper.upon] at hh ⊢ <;>
      first
        | exact h _ _ hh
        | exact Calls.mono hh (fun e w'' he=>by cases e <;> first | exact h _ _ he | exact he.elim | (obtain ⟨_,_,he⟩:=he;exact he.elim))
        | exact Rows.mono hh (fun _ _ he=>h _ _ he)
  | halt x w'=>cases x <;> simp only [Oper.upon] at hh ⊢
theorem puts_defers (vs : Tmp → Value) : ∀ (ds : List Tmp) (a : Act), (puts a vs ds).defers = a.defers
  | [],_=>rfl
  | _::r,a=>by rw [puts,puts_defers vs r];rfl
theorem puts_size (vs : Tmp → Value) : ∀ (ds : List Tmp) (a : Act), (puts a vs ds).tmps.size = a.tmps.size
  | [],_=>rfl
  | _::r,a=>by rw [puts,puts_size vs r];simp [Act.put]
theorem puts_at (vs : Tmp → Value) : ∀ (ds : List Tmp) (a : Act) (t : Nat), t < a.tmps.size → (puts a vs ds).tmps[t]? = if t ∈ ds then some (vs t) else a.tmps[t]?
  | [],_,_,_=>by simp [puts]
  | d::r,a,t,ht=>by
    rw [puts,puts_at vs r _ t (by simpa [Act.put] using ht)];by_cases h1:t∈r
    · simp [h1]
    · by_cases h2:d=t
      · subst h2;simp [h1,Act.put,ht]
      · have:t≠d:=fun e=>h2 e.symm
        simp [h1,this,Act.put,h2]
theorem nodup_apart : ∀ (l : List Oper) (i j : Nat) (oi oj : Oper) (t : Tmp), nodupB (dstsOf l) = true → l[i]? = some oi → l[j]? = some oj → oi.dst = some t → oj.dst = some t → i = j
  | [],_,_,_,_,_,_,hi,_,_,_=>by simp at hi
  | o::l,i,j,oi,oj,t,h,hi,hj,di,dj=>by
    have hh:∀ {k:Nat} {ok:Oper},l[k]?=some ok→ok.dst=some t→t∈dstsOf l:=fun {k ok} hk hd=>List.mem_filterMap.2 ⟨ok,List.mem_of_getElem? hk,hd⟩
    have hn:nodupB (dstsOf l)=true:=by
      unfold dstsOf at h ⊢
      cases hd:o.dst with
      | none=>simpa [List.filterMap_cons,hd] using h
      | some d=>simp [hd,nodupB] at h;exact h.2
    have hx:o.dst=some t→t ∉ dstsOf l:=fun hd=>by
      unfold dstsOf at h ⊢;simp only [List.filterMap_cons,hd,nodupB,Bool.and_eq_true,Bool.not_eq_true'] at h;intro hm
      have:=h.1
      simp at this
      simp at hm
      obtain ⟨x,hx,he⟩:=hm;exact this x hx he
    cases i with
    | zero =>
      cases j with
      | zero=>rfl
      | succ j=>simp at hi hj;subst hi;exact absurd (hh hj dj) (hx di)
    | succ i =>
      cases j with
      | zero=>simp at hi hj;subst hj;exact absurd (hh hi di) (hx dj)
      | succ j=>simp at hi hj;rw [nodup_apart l i j oi oj t hn hi hj di dj]
section
variable {P : Program} {E : Tmp → Value → World → Prop} {W : World → Prop} {R : World → World → Prop}
theorem known_of {a : Act} {w : World} : ∀ (l : List Tmp), (∀ t ∈ l, E t (a.tmps.getD t undef) w) → Known E a w l
  | [],_=>trivial
  | t::r,h=>⟨h t (by simp),known_of r fun x hx=>h x (by simp [hx])⟩
theorem outs_mem {a : Act} {w : World} : ∀ (l : List Tmp), OutsOk E a w l → ∀ t ∈ l, E t (a.tmps.getD t undef) w
  | [],_,_,h=>by simp at h
  | x::r,h,t,ht=>by
    rcases List.mem_cons.1 ht with rfl | ht
    · exact h.1
    · exact outs_mem r h.2 t ht
theorem guard_mem {ops : Array Oper} : ∀ (gs : List (Nat × Option Bool)), GuardOk E W ops gs → ∀ g c, gs.lookup g = some c → ∀ t, (ops[g]?).bind (·.dst) = some t → ∀ v w, W w → E t v w → match c with | some b => v = .bool b | none => v = undef
  | [],_,_,_,h=>by simp at h
  | (g',c')::r,h,g,c,hl=>by
    by_cases e:g=g'
    · subst e;simp at hl;subst hl;exact h.1
    · have e':(g==g')=false:=by simpa using e
      simp [List.lookup_cons,e'] at hl;exact guard_mem r h.2 g c hl
theorem mem_of_lookup : ∀ (gs : List (Nat × Option Bool)) (g : Nat) (c : Option Bool), gs.lookup g = some c → (g, c) ∈ gs
  | [],_,_,h=>by simp at h
  | (g',c')::r,g,c,hl=>by
    by_cases e:g=g'
    · subst e;simp at hl;subst hl;simp
    · have e':(g==g')=false:=by simpa using e
      simp [List.lookup_cons,e'] at hl;exact List.mem_cons_of_mem _ (mem_of_lookup r g c hl)
theorem filter_set : ∀ (l : List Bool) (i : Nat) (h : i < l.length), l[i] = false → ((l.set i true).filter (· == false)).length + 1 = (l.filter (· == false)).length
  | [],_,h,_=>by simp at h
  | x::l,0,_,h=>by simp at h;subst h;simp
  | x::l,i+1,hi,h=>by
    simp at h hi
    have:=filter_set l i hi h
    cases x <;> simp at this ⊢ <;> omega
theorem all_at (gs : List (Nat × Option Bool)) : ∀ (l : List Oper) (bs : List Bool), onsB gs l bs = true → AllOk E W R P l bs → ∀ (i : Nat) (o : Oper), l[i]? = some o → (onB gs o true = true ∧ StepOn E W R P o) ∨ (onB gs o false = true ∧ StepOff E W o)
  | [],_,_,_,_,_,h=>by simp at h
  | _::_,[],h,_,_,_,_=>by simp [onsB] at h
  | x::l,b::bs,h,ha,i,o,ho=>by
    simp only [onsB,Bool.and_eq_true] at h
    cases i with
    | zero =>
      simp at ho;subst ho
      cases b with
      | true=>exact .inl ⟨h.1,ha.1⟩
      | false=>exact .inr ⟨h.1,ha.1⟩
    | succ i =>
      simp at ho
      cases b with
      | true=>exact all_at gs l bs h.2 ha.2 i o ho
      | false=>exact all_at gs l bs h.2 ha.2 i o ho
theorem back_at : ∀ (l : List Oper) (k i : Nat) (o : Oper), backB k l = true → l[i]? = some o → ∀ e ∈ o.after, Region.binds .any e = true → e.on < k + i
  | [],_,_,_,_,h=>by simp at h
  | x::l,k,i,o,h,ho=>by
    simp only [backB,Bool.and_eq_true] at h
    cases i with
    | zero =>
      simp at ho;subst ho
      intro e he hb
      have:=Array.all_eq_true_iff_forall_mem.1 h.1 e he
      simpa [hb] using this
    | succ i =>
      simp at ho
      intro e he hb
      have:=back_at l (k+1) i o h.2 ho e he hb
      omega
structure Calm (E : Tmp → Value → World → Prop) (W : World → Prop) (l : List Oper) (outs : List Tmp) (a0 : Act) (listed : Array Bool) (a : Act) (w : World) : Prop where
  world:W w
  defers:a.defers=a0.defers
  size:a.tmps.size=a0.tmps.size
  outer:∀ t,t ∉ dstsOf l→a.tmps[t]?=a0.tmps[t]?
  outs:∀ t∈outs,t ∉ dstsOf l→E t (a.tmps.getD t undef) w
  known:∀ j o t,l[j]?=some o→o.dst=some t→listed.getD j false=true→E t (a.tmps.getD t undef) w
theorem wpAny_calm {l : List Oper} {outs : List Tmp} {gs : List (Nat × Option Bool)} {bs : List Bool} {a0 : Act} {Q : Exit → Act → World → Prop}
    (hB:calmB l a0.tmps.size outs gs bs=true) (hR:∀ t v w w',R w w'→E t v w→E t v w') (hG:GuardOk E W l.toArray gs) (hA:AllOk E W R P l bs)
    (hend:∀ (vs:Tmp→Value) w',W w'→(∀ t,(dstsOf l).contains t=true→E t (vs t) w')→Q .normal (puts a0 vs (dstsOf l)) w') :
    ∀ (fuel:Nat) (listed:Array Bool) (a:Act) (w:World),listed.size=l.length→(listed.toList.filter (·==false)).length≤fuel→Calm E W l outs a0 listed a w →
      wpAny P .any l.toArray Q fuel listed a w:=by
  simp only [calmB,Bool.and_eq_true] at hB;obtain ⟨⟨⟨⟨⟨hgd,hnd⟩,hsz⟩,hlk⟩,hon⟩,hbk⟩:=hB
  have fin:∀ (listed:Array Bool) (a:Act) (w:World),listed.size=l.length→Region.ready .any l.toArray listed=[]→Calm E W l outs a0 listed a w→Q .normal a w:=by
    intro listed a w hs hr hc
    have hall:∀ j,j<l.length→listed.getD j false=true:=by
      intro j
      induction j using Nat.strongRecOn with
      | _ j ih =>
        intro hj
        cases hb:listed.getD j false with
        | true=>rfl
        | false =>
          exfalso
          have:j∈Region.ready .any l.toArray listed:=by
            unfold Region.ready;refine List.mem_filter.2 ⟨by simpa using hj,?_⟩
            have e1:listed.getD j true=false:=by
              have hj':j<listed.size:=by omega
              simp [Array.getD,hj'] at hb ⊢;exact hb
            have e2:l.toArray[j]?=some l[j]:=by simp [hj]
            rw [e1,e2];simp only [Bool.not_false,Bool.true_and,Option.map_some,Option.getD_some];rw [Array.all_eq_true_iff_forall_mem];intro e he
            cases hbd:Region.binds .any e with
            | false=>rfl
            | true =>
              have:=back_at l 0 j l[j] hbk (by simp [hj]) e he hbd
              simp only [Bool.not_true,Bool.false_or];exact ih e.on (by omega) (by omega)
          rw [hr] at this
          cases this
    have hmem:∀ t∈dstsOf l,E t (a.tmps.getD t undef) w∧t<a0.tmps.size:=by
      intro t ht;obtain ⟨o,ho,hd⟩:=List.mem_filterMap.1 ht;obtain ⟨j,hj⟩:=List.getElem?_of_mem ho
      have hlt:j<l.length:=by
        rcases Nat.lt_or_ge j l.length with h | h
        · exact h
        · rw [List.getElem?_eq_none h] at hj;cases hj
      exact ⟨hc.known j o t hj hd (hall j hlt),by simpa using List.all_eq_true.1 hsz t ht⟩
    have he:a=puts a0 (fun t=>a.tmps.getD t undef) (dstsOf l):=by
      have e1:a.tmps=(puts a0 (fun t=>a.tmps.getD t undef) (dstsOf l)).tmps:=by
        refine Array.ext (by rw [puts_size,hc.size]) fun t h1 h2=>?_;have h3:t<a0.tmps.size:=by rw [← hc.size];exact h1
        have:=puts_at (fun t=>a.tmps.getD t undef) (dstsOf l) a0 t h3
        rw [Array.getElem?_eq_getElem h2] at this;by_cases hm:t∈dstsOf l
        · rw [if_pos hm] at this;simp only [Option.some.injEq] at this;rw [this];simp [Array.getD,h1]
        · rw [if_neg hm,← hc.outer t hm,Array.getElem?_eq_getElem h1] at this;exact (Option.some.inj this).symm
      have e2:a.defers=(puts a0 (fun t=>a.tmps.getD t undef) (dstsOf l)).defers:=by rw [puts_defers,hc.defers]
      cases a with
      | mk t d =>
        simp only at e1 e2
        generalize hp:puts a0 (fun x=>t.getD x undef) (dstsOf l)=p at e1 e2 ⊢
        cases p;simp only at e1 e2;rw [e1,e2]
    rw [he];exact hend _ _ hc.world fun t ht=>(hmem t (by simpa using ht)).1
  intro fuel
  induction fuel with
  | zero =>
    intro listed a w hs hf hc
    have hr:Region.ready .any l.toArray listed=[]:=by
      rw [List.eq_nil_iff_forall_not_mem];intro i hi;obtain ⟨h1,h2⟩:=List.mem_filter.1 hi;have hlt:i<l.length:=by simpa using h1
      simp only [Bool.and_eq_true,Bool.not_eq_true'] at h2
      have:listed[i]'(by omega)=false:=by
        have:=h2.1;simp [Array.getD,show i<listed.size by omega] at this;exact this
      have hm:false∈listed.toList.filter (·==false):=List.mem_filter.2 ⟨by rw [← this];simp,by simp⟩
      have:=List.length_pos_of_mem hm
      omega
    exact ⟨hr,fin listed a w hs hr hc⟩
  | succ fuel ih =>
    intro listed a w hs hf hc;refine ⟨fun hr=>fin listed a w hs hr hc,fun i hi=>?_⟩;obtain ⟨h1,h2⟩:=List.mem_filter.1 hi;have hlt:i<l.length:=by simpa using h1
    simp only [Bool.and_eq_true,Bool.not_eq_true'] at h2;obtain ⟨hun,hdone⟩:=h2;have hil:i<listed.size:=by omega
    have hun':listed[i]=false:=by simp [Array.getD,hil] at hun;exact hun
    have ho:l.toArray[i]?=some l[i]:=by simp [hlt]
    have ho':l[i]?=some l[i]:=by simp [hlt]
    generalize hoo:l[i]=o at ho ho';rw [ho] at hdone;simp only [Option.map_some,Option.getD_some] at hdone;rw [Array.all_eq_true_iff_forall_mem] at hdone
    have hlooks:∀ t∈o.looksAt l.toArray,E t (a.tmps.getD t undef) w:=by
      intro t ht
      have:=List.all_eq_true.1 (List.all_eq_true.1 hlk o (List.mem_of_getElem? ho')) t ht
      rw [Bool.or_eq_true] at this;rcases this with h | h
      · simp only [Bool.and_eq_true,Bool.not_eq_true'] at h;exact hc.outs t (by simpa using h.1) (by simpa using h.2)
      · obtain ⟨k,hk,h⟩:=Array.any_eq_true.1 h;simp only [Bool.and_eq_true,beq_iff_eq] at h;obtain ⟨hb,hd⟩:=h;have hl:=hdone _ (Array.getElem_mem hk);rw [hb] at hl;simp only [Bool.not_true,Bool.false_or] at hl;generalize o.after[k]=e at *;obtain ⟨oj,hoj,hdj⟩:=Option.bind_eq_some_iff.1 hd;exact hc.known e.on oj t (by simpa using hoj) hdj hl
    have hkn:Known E a w (opTmps o):=known_of _ fun t ht=>hlooks t (by
      unfold Oper.looksAt;exact List.mem_append_left _ ht)
    have hw:∀ b,onB gs o b=true→Region.wanted o (yielded l.toArray a.tmps)=b:=by
      intro b hb;unfold onB at hb;unfold Region.wanted
      cases hg:o.guard with
      | none=>rw [hg] at hb;simp only at hb ⊢;exact hb.symm
      | some gw =>
        obtain ⟨g,want⟩:=gw;rw [hg] at hb;simp only at hb ⊢
        cases hl:gs.lookup g with
        | none=>rw [hl] at hb;cases hb
        | some c =>
          rw [hl] at hb;simp only [beq_iff_eq] at hb
          have hy:yielded l.toArray a.tmps g=c:=by
            unfold yielded;have hmg:(g,c)∈gs:=mem_of_lookup gs g c hl;have hsome:=List.all_eq_true.1 hgd _ hmg
            cases hd:(l.toArray[g]?).bind (·.dst) with
            | none=>rw [hd] at hsome;cases hsome
            | some t =>
              have hE:=hlooks t (by unfold Oper.looksAt;rw [hg];simp only [hd];simp);have hv:=guard_mem gs hG g c hl t hd _ _ hc.world hE;obtain ⟨og,hog,hdg⟩:=Option.bind_eq_some_iff.1 hd
              have htl:t<a.tmps.size:=by
                rw [hc.size]
                have:=List.all_eq_true.1 hsz t (List.mem_filterMap.2 ⟨og,List.mem_of_getElem? (by simpa using hog),hdg⟩)
                simpa using this
              have ht:a.tmps[t]?=some (a.tmps.getD t undef):=by simp [Array.getD,htl]
              simp only [Option.bind_some,ht]
              cases c with
              | none=>simp only at hv;rw [hv];rfl
              | some b=>simp only at hv;rw [hv]
          rw [hy,hb]
    have hlen:((listed.setIfInBounds i true).toList.filter (·==false)).length≤fuel:=by
      have h3:=filter_set listed.toList i (by simpa using hil) (by simpa using hun');rw [Array.toList_setIfInBounds];omega
    have next:∀ v w',W w'→(∀ t v,E t v w→E t v w')→EO E o.dst v w'→Calm E W l outs a0 (listed.setIfInBounds i true) (a.put o.dst v) w':=by
      intro v w' hw' hst hv
      have hput:∀ t,o.dst≠some t→(a.put o.dst v).tmps[t]?=a.tmps[t]?:=by
        intro t ht
        cases hd:o.dst with
        | none=>rfl
        | some d =>
          have:d≠t:=fun e=>ht (by rw [hd,e])
          simp [Act.put,this]
      have hgetD:∀ (b c:Array Value) (t:Nat),b[t]?=c[t]?→b.getD t undef=c.getD t undef:=by
        intro b c t h;rw [Array.getD_eq_getD_getElem?,Array.getD_eq_getD_getElem?,h]
      refine ⟨hw',?_,?_,?_,?_,?_⟩
      · rw [← hc.defers];cases o.dst <;> rfl
      · rw [← hc.size];cases o.dst <;> simp [Act.put]
      · intro t ht;rw [hput t (fun e=>ht (List.mem_filterMap.2 ⟨o,List.mem_of_getElem? ho',e⟩)),hc.outer t ht]
      · intro t ht hn;rw [hgetD _ _ t (hput t (fun e=>hn (List.mem_filterMap.2 ⟨o,List.mem_of_getElem? ho',e⟩)))];exact hst _ _ (hc.outs t ht hn)
      · intro j oj t hj hd hlj;by_cases hji:j=i
        · subst hji;rw [ho'] at hj;obtain rfl:=Option.some.inj hj
          have htl:t<a.tmps.size:=by
            rw [hc.size]
            have:=List.all_eq_true.1 hsz t (List.mem_filterMap.2 ⟨o,List.mem_of_getElem? ho',hd⟩)
            simpa using this
          rw [hd] at hv ⊢
          have:(a.put (some t) v).tmps.getD t undef=v:=by simp [Act.put,Array.getD,htl]
          rw [this];exact hv
        · have hne:o.dst≠some t:=fun e=>hji (nodup_apart l j i oj o t hnd hj ho' hd e);rw [hgetD _ _ t (hput t hne)];refine hst _ _ (hc.known j oj t hj hd ?_);have hne':i≠j:=fun e=>hji e.symm;rw [Array.getD_eq_getD_getElem?,Array.getElem?_setIfInBounds_ne hne'] at hlj;rw [Array.getD_eq_getD_getElem?];exact hlj
    unfold wpOp;rw [ho];simp only
    rcases all_at gs l bs hon hA i o ho' with ⟨h,hst⟩ | ⟨h,hst⟩
    · rw [hw true h,if_pos rfl];refine .inl (wpq (fun a' w' hh=>hh) (hst a w hc.world hkn _ fun v w' hr hw' hv=>?_));exact ih _ _ _ (by simpa using hs) hlen (next v w' hw' (fun t v he=>hR t v w w' hr he) hv)
    · rw [hw false h];simp only [Bool.false_eq_true,if_false];exact ih _ _ _ (by simpa using hs) hlen (next undef w hc.world (fun _ _ h=>h) (hst w hc.world))
theorem calmB_mono {l : List Oper} {n m : Nat} {outs : List Tmp} {gs : List (Nat × Option Bool)} {bs : List Bool} (h : n ≤ m) (hB : calmB l n outs gs bs = true) : calmB l m outs gs bs = true := by
  simp only [calmB,Bool.and_eq_true] at hB ⊢;obtain ⟨⟨⟨⟨⟨h1,h2⟩,h3⟩,h4⟩,h5⟩,h6⟩:=hB;refine ⟨⟨⟨⟨⟨h1,h2⟩,?_⟩,h4⟩,h5⟩,h6⟩;rw [List.all_eq_true] at h3 ⊢;intro t ht;have h7:t<n:=by simpa using h3 t ht
  have h8:t<m:=Nat.lt_of_lt_of_le h7 h;simpa using h8
theorem wp_region_calm {id : Nat} {l : List Oper} {outs : List Tmp} {gs : List (Nat × Option Bool)} {bs : List Bool} {a : Act} {w : World} {Q : Exit → Act → World → Prop}
    (E:Tmp→Value→World→Prop) (W:World→Prop) (R:World→World→Prop)
    (hm:P.follows .mixedOrders=true) {n m:Nat} (hn:a.tmps.size=m) (hnm:n≤m) (hB:calmB l n outs gs bs=true)
    (hR:∀ t v w w',R w w'→E t v w→E t v w') (hG:GuardOk E W l.toArray gs) (hW:W w.drew) (hO:OutsOk E a w.drew outs)
    (hA:AllOk E W R P l bs)
    (hend:∀ (vs:Tmp→Value) w',W w'→(∀ t,(dstsOf l).contains t=true→E t (vs t) w')→Q .normal (puts a vs (dstsOf l)) w') :
    (Code.region id l.toArray true).wp P Q a w:=by
  refine wp_region_any hm ?_;refine wpAny_calm (calmB_mono (hn ▸ hnm) hB) hR hG hA hend _ _ _ _ (by simp) ?_ ⟨hW,rfl,rfl,fun _ _=>rfl,fun t ht _=>outs_mem outs hO t ht,?_⟩
  · simp only [Array.toList_replicate];exact Nat.le_trans (List.length_filter_le _ _) (by simp)
  · intro j o t hj hd hl;simp [Array.getD] at hl
end
end Go.Proofs.YtalfbnllodhkiacGreatDoor
namespace Go.Proofs.YtalfbnllodhkiacGreatDoor
open Go.RowKit
set_option linter.unusedVariables false
structure Fr (n : Nat) (a : Act) (L : List (Tmp × Value)) : Prop where
  size:a.tmps.size=n
  defers:a.defers=[]
  sl:∀ t v,L.lookup t=some v→a.tmps.getD t undef=v
section
variable {P : Program} {n : Nat} {a : Act} {L : List (Tmp × Value)} {w w' : World} {Q : Exit → Act → World → Prop} {ops : Array Oper} {o : Oper} {rest : List Oper} {t : Tmp} {v : Value}
theorem Fr.put (h : Fr n a L) (ht : Nat.blt t n = true) : Fr n (a.put (some t) v) ((t, v) :: L) := by
  have ht':t<n:=by simpa [Nat.blt,Nat.ble_eq,Nat.succ_le_iff] using ht
  refine ⟨by simpa [Act.put] using h.size,h.defers,fun s u hs=>?_⟩;by_cases e:s=t
  · subst e;simp at hs
    subst hs
    have:s<a.tmps.size:=by rw [h.size];exact ht'
    simp [Act.put,Array.getD,this]
  · have e':(s==t)=false:=by simpa using e
    simp only [List.lookup_cons,e'] at hs
    have:=h.sl s u hs
    have hne:t≠s:=fun x=>e x.symm;rw [Array.getD_eq_getD_getElem?] at this ⊢;simp only [Act.put];rw [Array.getElem?_setIfInBounds_ne hne];exact this
theorem Fr.cons (h : Fr n a L) (e : a.tmps.getD t undef = v) : Fr n a ((t, v) :: L) := by
  refine ⟨h.size,h.defers,fun s u hs=>?_⟩;by_cases e':s=t
  · subst e';simp at hs
    subst hs;exact e
  · have e'':(s==t)=false:=by simpa using e'
    simp only [List.lookup_cons,e''] at hs;exact h.sl s u hs
theorem Fr.nil (h : Fr n a L) : Fr n a [] := ⟨h.size, h.defers, fun s u hs => by simp at hs⟩
theorem Fr.keep {L' : List (Tmp × Value)} (h : Fr n a L) (k : Fr n a L') (e : L.lookup t = some v) : Fr n a ((t, v) :: L') := k.cons (h.sl t v e)
theorem fr_region {id : Nat} {l : List Oper} (h : ∀ ops : Array Oper, (∀ g : Nat, (ops[g]?).bind (fun o : Oper => o.dst) = (l[g]?).bind (fun o : Oper => o.dst)) → wpList P ops Q l a w) : (Code.region id l.toArray false).wp P Q a w :=
  wp_region_lit (h _ fun g=>by simp)
theorem fr_pure (hF : Fr n a L) (hd : o.dst = some t) (hg : o.guard = none) (ht : Nat.blt t n = true)
    (h:∀ K:Act→World→Prop,K (a.put (some t) v) w'→o.wp P a w K Q)
    (k:∀ a',Fr n a' ((t,v)::L)→wpList P ops Q rest a' w'):wpList P ops Q (o::rest) a w :=
  wpList_plain hg fun K hK=>h K (hK _ _ (k _ (hF.put ht)))
theorem fr_skip (hF : Fr n a L) (hd : o.dst = none) (hg : o.guard = none)
    (h:∀ K:Act→World→Prop,K a w'→o.wp P a w K Q)
    (k:wpList P ops Q rest a w'):wpList P ops Q (o::rest) a w :=
  wpList_plain hg fun K hK=>h K (hK _ _ k)
theorem wanted_g {g tg : Nat} {want : Bool} {u : Value} (hF : Fr n a L) (hg : o.guard = some (g, want)) (hs : (ops[g]?).bind (fun o : Oper => o.dst) = some tg) (htg : Nat.blt tg n = true) (hv : L.lookup tg = some u) :
    Region.wanted o (yielded ops a.tmps)=(match u with | .bool b=>b==want | _=>false):=by
  have htg':tg<a.tmps.size:=by rw [hF.size];simpa [Nat.blt,Nat.ble_eq,Nat.succ_le_iff] using htg
  have:=hF.sl tg u hv
  have hx:a.tmps[tg]?=some u:=by rw [← this];simp [Array.getD,htg']
  simp only [Region.wanted,hg,yielded,hs,Option.bind_some,hx]
  cases u <;> simp
theorem fr_pure_g {g tg : Nat} {want : Bool} (hF : Fr n a L) (hd : o.dst = some t) (hg : o.guard = some (g, want)) (hs : (ops[g]?).bind (fun o : Oper => o.dst) = some tg) (htg : Nat.blt tg n = true) (hv : L.lookup tg = some (.bool want)) (ht : Nat.blt t n = true)
    (h:∀ K:Act→World→Prop,K (a.put (some t) v) w'→o.wp P a w K Q)
    (k:∀ a',Fr n a' ((t,v)::L)→wpList P ops Q rest a' w'):wpList P ops Q (o::rest) a w :=
  wpList_step fun K hK=>by
    rw [wanted_g hF hg hs htg hv];simp only [beq_self_eq_true,if_true];exact h K (hK _ _ (k _ (hF.put ht)))
theorem fr_off {g tg : Nat} {want : Bool} {u : Value} (hF : Fr n a L) (hd : o.dst = some t) (hg : o.guard = some (g, want)) (hs : (ops[g]?).bind (fun o : Oper => o.dst) = some tg) (htg : Nat.blt tg n = true) (hv : L.lookup tg = some u) (hu : (match u with | .bool b => b == want | _ => false) = false) (ht : Nat.blt t n = true)
    (k:∀ a',Fr n a' ((t,undef)::L)→wpList P ops Q rest a' w):wpList P ops Q (o::rest) a w :=
  wpList_step fun K hK=>by
    rw [wanted_g hF hg hs htg hv,hu];simp only [Bool.false_eq_true,if_false,hd];exact hK _ _ (k _ (hF.put ht))
theorem fr_cond {x y : Code} {b : Bool} (hF : Fr n a L) (hv : L.lookup t = some (.bool b)) (ht : b = true → x.wp P Q a w) (hf : b = false → y.wp P Q a w) : (Code.cond (.tmp t) x y).wp P Q a w :=
  wp_cond_split (hF.sl t _ hv) ht hf
theorem fr_true {x y : Code} (hF : Fr n a L) (hv : L.lookup t = some (.bool true)) (h : x.wp P Q a w) : (Code.cond (.tmp t) x y).wp P Q a w := wp_cond_true (hF.sl t _ hv) h
theorem fr_false {x y : Code} (hF : Fr n a L) (hv : L.lookup t = some (.bool false)) (h : y.wp P Q a w) : (Code.cond (.tmp t) x y).wp P Q a w := wp_cond_false (hF.sl t _ hv) h
theorem wpList_append {l1 l2 : List Oper} (h : wpList P ops (Exit.then (fun a w => wpList P ops Q l2 a w) Q) l1 a w) : wpList P ops Q (l1 ++ l2) a w := by
  induction l1 generalizing a w with
  | nil=>exact h
  | cons o l ih =>
    simp only [List.cons_append];unfold wpList at h ⊢;split
    · rename_i hw
      rw [if_pos hw] at h;refine h.imp (fun h=>Oper.wp_mono (fun a w h'=>ih h') ?_) id;unfold Oper.wp at *;generalize (execOp a.eval o).run P w=r at *
      cases r with
      | ok n w'=>cases n <;> exact h
      | halt x w'=>cases x <;> exact h
    · rename_i hw
      rw [if_neg hw] at h;exact ih h
theorem cut_k {l : List Oper} (k : Nat) (Φ : Act → World → Prop) (h1 : ∀ K : Act → World → Prop, (∀ a w, Φ a w → K a w) → wpList P ops (Exit.then K Q) (l.take k) a w) (h2 : ∀ a w, Φ a w → wpList P ops Q (l.drop k) a w) : wpList P ops Q l a w := by
  have:=wpList_append (l1:=l.take k) (l2:=l.drop k) (h1 _ h2)
  rwa [List.take_append_drop] at this
theorem of_then_ret {K : Act → World → Prop} (h : Q .ret a w) : Exit.then K Q .ret a w := h
theorem of_block_ret {id : Nat} (h : Q .ret a w) : Exit.inBlock id Q .ret a w := h
open Classical in
theorem fr_loop {c : Code} (I : Nat → Act → World → Prop) (q : Nat) (h0 : I q a w)
    (round:∀ q a w,I q a w→∀ K:Act→World→Prop,(∀ a' w' q',q'<q→I q' a' w'→K a' w')→c.wp P (Exit.then K Q) a w):(Code.loop c).wp P Q a w:=by
  have hex:∀ {a w},(∃ q,I q a w)→∃ q,I q a w∧∀ r,I r a w→q≤r:=by
    rintro a w ⟨q,hq⟩
    induction q using Nat.strongRecOn with
    | _ q ih =>
      by_cases hl:∃ r,r<q∧I r a w
      · obtain ⟨r,hr,hi⟩:=hl;exact ih r hr hi
      · exact ⟨q,hq,fun r hr=>Nat.le_of_not_lt fun h=>hl ⟨r,h,hr⟩⟩
  refine wp_loop (fun a w=>∃ q,I q a w) (fun a w=>if h:∃ q,I q a w then Classical.choose (hex h) else 0) ⟨q,h0⟩ fun a w hI=>?_;have hs:=Classical.choose_spec (hex hI);refine round _ a w hs.1 _ fun a' w' q' hq' hI'=>⟨⟨q',hI'⟩,?_⟩;have h':∃ q,I q a' w':=⟨q',hI'⟩;have hs':=Classical.choose_spec (hex h');rw [dif_pos h',dif_pos hI];exact Nat.lt_of_le_of_lt (hs'.2 q' hI') hq'
theorem fr_enter {f : FuncId} {fn : Func} {c : Code} {args : Array Value} {R : Ending → World → Prop} (hf : P.funcs[f]? = some fn) (hb : fn.body = some c) (hn : fn.ntmps = n) (ha : Nat.ble args.size n = true)
    (h:∀ a,Fr n a (args.toList.zipIdx.map fun x=>(x.2,x.1))→c.wp P (bodyPost P fn R) a w):Calls P f args w R:=by
  have ha':args.size≤n:=by simpa [Nat.ble_eq] using ha
  refine calls_of_wp hf hb (h _ ⟨by simp [hn];omega,rfl,fun t v hl=>?_⟩)
  have:∀ (l:List Value) (k t:Nat),((l.zipIdx k).map fun x=>(x.2,x.1)).lookup t=some v→k≤t∧l[t - k]?=some v:=by
    intro l
    induction l with
    | nil=>intro k t h;simp at h
    | cons x l ih =>
      intro k t h;by_cases e:t=k
      · subst e;simp at h;subst h;simp
      · have e':(t==k)=false:=by simpa using e
        simp only [List.zipIdx_cons,List.map_cons,List.lookup_cons,e'] at h;obtain ⟨h1,h2⟩:=ih (k+1) t h;refine ⟨by omega,?_⟩
        have:t - k=(t - (k+1))+1:=by omega
        rw [this];simpa using h2
  obtain ⟨_,h2⟩:=this _ 0 t hl;simp at h2
  have hlt:t<args.size:=(Array.getElem?_eq_some_iff.1 h2).1;rw [Array.getD_eq_getD_getElem?,Array.getElem?_append_left hlt,h2];rfl
end
section
variable {P : Program} {Q : Exit → Act → World → Prop}
theorem wp_then {o : Oper} {a : Act} {w : World} {K N : Act → World → Prop} (h : o.wp P a w K (Exit.then N Q)) : o.wp P a w K Q := by
  unfold Oper.wp at *;generalize (execOp a.eval o).run P w=r at *
  cases r with
  | ok n w'=>cases n <;> exact h
  | halt x w'=>cases x <;> exact h
def waitsB (k : Nat) (o : Oper) : Bool := (List.range k).all fun j => o.after.any fun e => Region.binds .any e && e.on == j
def tailB (k : Nat) : List Oper → Bool
  | []=>true
  | o::l=>waitsB k o && tailB (k+1) l
def guardsB (n : Nat) (l : List Oper) : Bool := l.all fun o => match o.guard with | some (g, _) => decide (g < n) | none => true
theorem tail_at : ∀ (l : List Oper) (k i : Nat) (o : Oper), tailB k l = true → l[i]? = some o → ∀ j, j < k + i → ∃ e ∈ o.after, Region.binds .any e = true ∧ e.on = j
  | [],_,_,_,_,h=>by simp at h
  | x::l,k,0,o,h,ho=>by
    simp at ho;subst ho
    simp only [tailB,Bool.and_eq_true] at h;intro j hj
    have:=List.all_eq_true.1 h.1 j (by simpa using hj)
    obtain ⟨q,hq,he⟩:=Array.any_eq_true.1 this;simp only [Bool.and_eq_true,beq_iff_eq] at he;exact ⟨_,Array.getElem_mem hq,he.1,he.2⟩
  | x::l,k,i+1,o,h,ho=>by
    simp only [tailB,Bool.and_eq_true] at h;simp at ho
    intro j hj;exact tail_at l (k+1) i o h.2 ho j (by omega)
theorem ready_mem {ops : Array Oper} {listed : Array Bool} {i : Nat} : i ∈ Region.ready .any ops listed ↔ i < ops.size ∧ listed.getD i true = false ∧ ∃ o, ops[i]? = some o ∧ ∀ e ∈ o.after, Region.binds .any e = true → listed.getD e.on false = true := by
  unfold Region.ready;rw [List.mem_filter];simp only [List.mem_range,Bool.and_eq_true,Bool.not_eq_true'];refine and_congr_right fun h1=>and_congr_right fun h2=>?_;rw [Array.getElem?_eq_getElem h1];simp only [Option.map_some,Option.getD_some,Option.some.injEq,exists_eq_left'];rw [Array.all_eq_true_iff_forall_mem];refine forall_congr' fun e=>forall_congr' fun he=>?_
  cases Region.binds .any e <;> simp
theorem wpAny_seq {l : List Oper} (hb : backB 0 l = true) {k0 : Nat} (ht : tailB k0 (l.drop k0) = true) : ∀ (m k fuel : Nat) (listed : Array Bool) (a : Act) (w : World), k + m = l.length → k0 ≤ k → m ≤ fuel → listed.size = l.length →
    (∀ j,j<l.length→listed.getD j false=decide (j<k))→wpList P l.toArray Q (l.drop k) a w→wpAny P .any l.toArray Q fuel listed a w:=by
  intro m
  induction m with
  | zero =>
    intro k fuel listed a w hk _ _ hs hl h
    have hr:Region.ready .any l.toArray listed=[]:=by
      rw [List.eq_nil_iff_forall_not_mem];intro i hi;obtain ⟨h1,h2,_⟩:=ready_mem.1 hi;have h1':i<l.length:=by simpa using h1
      have:=hl i h1'
      have hd:decide (i<k)=true:=by simp;omega
      rw [hd] at this;have hi':i<listed.size:=by omega
      simp [Array.getD,hi'] at this h2;rw [this] at h2;cases h2
    have hq:Q .normal a w:=by
      rw [List.drop_of_length_le (by omega)] at h;exact h
    cases fuel with
    | zero=>exact ⟨hr,hq⟩
    | succ fuel=>exact ⟨fun _=>hq,fun i hi=>by rw [hr] at hi;cases hi⟩
  | succ m ih =>
    intro k fuel listed a w hk hk0 hf hs hl h;have hlt:k<l.length:=by omega
    obtain ⟨fuel,rfl⟩:∃ f,fuel=f+1:=⟨fuel - 1,by omega⟩;have hks:k<listed.size:=by omega
    have hkr:k∈Region.ready .any l.toArray listed:=by
      refine ready_mem.2 ⟨by simpa using hlt,?_,l[k],by simp [hlt],fun e he hbd=>?_⟩
      · have:=hl k hlt
        simp [Array.getD,hks] at this ⊢;exact this
      · have:=back_at l 0 k l[k] hb (by simp [hlt]) e he hbd
        rw [hl _ (by omega)];simp;omega
    refine ⟨fun hr=>absurd (hr ▸ hkr) (by simp),fun i hi=>?_⟩
    have hik:i=k:=by
      obtain ⟨h1,h2,o,ho,h3⟩:=ready_mem.1 hi;have h1':i<l.length:=by simpa using h1
      have hnl:listed.getD i false=false:=by
        have hi':i<listed.size:=by omega
        simp [Array.getD,hi'] at h2 ⊢;exact h2
      have hge:k≤i:=by
        have:=hl i h1'
        rw [hnl] at this
        have:¬ i<k:=by simpa using this.symm
        omega
      rcases Nat.eq_or_lt_of_le hge with e | hgt
      · exact e.symm
      · exfalso
        obtain ⟨e,he,hbd,hon⟩:=tail_at (l.drop k0) k0 (i - k0) o ht (by rw [List.getElem?_drop,show k0+(i - k0)=i by omega];simpa using ho) k (by omega)
        have:=h3 e he hbd
        rw [hon,hl k hlt] at this;simp at this
    subst hik;rw [List.drop_eq_getElem_cons hlt] at h;have ho:l.toArray[i]?=some l[i]:=by simp [hlt]
    have next:∀ a w,wpList P l.toArray Q (l.drop (i+1)) a w→wpAny P .any l.toArray Q fuel (listed.setIfInBounds i true) a w:=fun a w h' =>
      ih (i+1) fuel _ a w (by omega) (by omega) (by omega) (by simpa using hs) (fun j hj=>by
        by_cases e:j=i
        · subst e;simp [Array.getD,hks]
        · have hne:i≠j:=fun x=>e x.symm;rw [Array.getD_eq_getD_getElem?,Array.getElem?_setIfInBounds_ne hne,← Array.getD_eq_getD_getElem?,hl j hj];simp;omega) h'
    unfold wpOp;rw [ho];simp only
    unfold wpList at h;split
    · rename_i hw
      rw [if_pos hw] at h;exact h.imp (Oper.wp_mono next) id
    · rename_i hw
      rw [if_neg hw] at h;exact next _ _ h
theorem wpAny_tail {l l2 : List Oper} (hb : backB 0 (l ++ l2) = true) (hg : guardsB l.length l = true) (ht : tailB l.length l2 = true) : ∀ (fuel : Nat) (listed : Array Bool) (a : Act) (w : World), listed.size = l.length →
    wpAny P .any l.toArray (Exit.then (fun a w=>wpList P (l++l2).toArray Q l2 a w) Q) fuel listed a w →
    wpAny P .any (l++l2).toArray Q (fuel+l2.length) (listed++Array.replicate l2.length false) a w:=by
  have hbl:∀ (i:Nat) (o:Oper),l[i]?=some o→∀ e∈o.after,Region.binds .any e=true→e.on<i:=fun i o ho e he hbd=>by
    have hi:i<l.length:=(List.getElem?_eq_some_iff.1 ho).1
    have:=back_at (l++l2) 0 i o hb (by rw [List.getElem?_append_left hi];exact ho) e he hbd
    omega
  have get1:∀ (listed:Array Bool) (j:Nat) (d:Bool),listed.size=l.length→j<l.length→(listed++Array.replicate l2.length false).getD j d=listed.getD j d:=fun listed j d hs hj=>by
    rw [Array.getD_eq_getD_getElem?,Array.getD_eq_getD_getElem?,Array.getElem?_append_left (by omega)]
  have get2:∀ (listed:Array Bool) (j:Nat),listed.size=l.length→l.length≤j→(listed++Array.replicate l2.length false).getD j false=false:=fun listed j hs hj=>by
    rw [Array.getD_eq_getD_getElem?,Array.getElem?_append_right (by omega)]
    cases h:(Array.replicate l2.length false)[j - listed.size]? with
    | none=>rfl
    | some b =>
      have:=Array.mem_of_getElem? h
      simp at this
      simp [this.2]
  -- all of the first part are listed
  have done:∀ (fuel:Nat) (listed:Array Bool) (a:Act) (w:World),listed.size=l.length→(∀ j,j<l.length→listed.getD j false=true)→wpList P (l++l2).toArray Q l2 a w →
      wpAny P .any (l++l2).toArray Q (fuel+l2.length) (listed++Array.replicate l2.length false) a w:=fun fuel listed a w hs hall h=>by
    refine wpAny_seq hb (k0:=l.length) (by simpa using ht) l2.length l.length _ _ a w (by simp) (Nat.le_refl _) (by omega) (by simp [hs]) (fun j hj=>?_) (by simpa using h);by_cases hj':j<l.length
    · rw [get1 listed j false hs hj',hall j hj'];simp [hj']
    · rw [get2 listed j hs (by omega)];simp;omega
  have allOf:∀ (listed:Array Bool),listed.size=l.length→Region.ready .any l.toArray listed=[]→∀ j,j<l.length→listed.getD j false=true:=fun listed hs hr j=>by
    induction j using Nat.strongRecOn with
    | _ j ih =>
      intro hj
      cases hc:listed.getD j false with
      | true=>rfl
      | false =>
        exfalso
        have hj':j<listed.size:=by omega
        have hnt:listed.getD j true=false:=by simp [Array.getD,hj'] at hc ⊢;exact hc
        have:j∈Region.ready .any l.toArray listed:=ready_mem.2 ⟨by simpa using hj,hnt,l[j],by simp [hj],fun e he hbd=>by
          have:=hbl j l[j] (by simp [hj]) e he hbd
          exact ih e.on this (by omega)⟩
        rw [hr] at this;cases this
  intro fuel
  induction fuel with
  | zero =>
    intro listed a w hs h;exact done 0 listed a w hs (allOf listed hs h.1) h.2
  | succ fuel ih =>
    intro listed a w hs h;by_cases hall:∀ j,j<l.length→listed.getD j false=true
    · refine done (fuel+1) listed a w hs hall (h.1 ?_);rw [List.eq_nil_iff_forall_not_mem];intro i hi;obtain ⟨h1,h2,_⟩:=ready_mem.1 hi;have h1':i<l.length:=by simpa using h1
      have:=hall i h1'
      have hi':i<listed.size:=by omega
      simp [Array.getD,hi'] at this h2;rw [this] at h2;cases h2
    · have hnr:Region.ready .any l.toArray listed≠[]:=fun e=>hall (allOf listed hs e)
      have same:∀ i,i∈Region.ready .any (l++l2).toArray (listed++Array.replicate l2.length false) ↔ i∈Region.ready .any l.toArray listed:=fun i=>by
        rw [ready_mem,ready_mem];by_cases hi:i<l.length
        · have e1:(l++l2).toArray[i]?=l.toArray[i]?:=by simp [List.getElem?_append_left hi]
          rw [get1 listed i true hs hi,e1];constructor
          · rintro ⟨_,h2,o,ho,h3⟩;refine ⟨by simpa using hi,h2,o,ho,fun e he hbd=>?_⟩
            have:=hbl i o (by simpa using ho) e he hbd
            have h4:=h3 e he hbd;rwa [get1 listed e.on false hs (by omega)] at h4
          · rintro ⟨_,h2,o,ho,h3⟩;refine ⟨by simp;omega,h2,o,ho,fun e he hbd=>?_⟩
            have:=hbl i o (by simpa using ho) e he hbd
            rw [get1 listed e.on false hs (by omega)];exact h3 e he hbd
        · constructor
          · rintro ⟨h1,h2,o,ho,h3⟩;exfalso
            refine hall fun j hj=>?_;have ho':(l++l2)[i]?=some o:=by simpa using ho
            rw [List.getElem?_append_right (by omega)] at ho';obtain ⟨e,he,hbd,hon⟩:=tail_at l2 l.length (i - l.length) o ht ho' j (by omega)
            have:=h3 e he hbd
            rwa [hon,get1 listed j false hs hj] at this
          · rintro ⟨h1,_⟩;exact absurd (by simpa using h1) hi
      rw [show fuel+1+l2.length=(fuel+l2.length)+1 by omega];refine ⟨fun hr=>?_,fun i hi=>?_⟩
      · exfalso
        apply hnr
        rw [List.eq_nil_iff_forall_not_mem];intro i hi
        have:=(same i).2 hi
        rw [hr] at this;cases this
      · have hi':=(same i).1 hi;have h':=h.2 i hi';obtain ⟨h1,_⟩:=ready_mem.1 hi';have hlt:i<l.length:=by simpa using h1
        have ho:l.toArray[i]?=some l[i]:=by simp [hlt]
        have ho2:(l++l2).toArray[i]?=some l[i]:=by simp [List.getElem?_append_left hlt,hlt]
        unfold wpOp at h' ⊢;rw [ho] at h';rw [ho2];simp only at h' ⊢
        have hy:Region.wanted l[i] (yielded (l++l2).toArray a.tmps)=Region.wanted l[i] (yielded l.toArray a.tmps):=by
          unfold Region.wanted
          cases hgd:(l[i]).guard with
          | none=>rfl
          | some gw =>
            obtain ⟨g,want⟩:=gw
            have:=List.all_eq_true.1 hg l[i] (List.getElem_mem hlt)
            rw [hgd] at this;have hgl:g<l.length:=by simpa using this
            simp only
            have:yielded (l++l2).toArray a.tmps g=yielded l.toArray a.tmps g:=by
              unfold yielded
              have:(l++l2).toArray[g]?=l.toArray[g]?:=by simp [List.getElem?_append_left hgl]
              rw [this]
            rw [this]
        rw [hy]
        have nx:∀ a w,wpAny P .any l.toArray (Exit.then (fun a w=>wpList P (l++l2).toArray Q l2 a w) Q) fuel (listed.setIfInBounds i true) a w→wpAny P .any (l++l2).toArray Q (fuel+l2.length) ((listed++Array.replicate l2.length false).setIfInBounds i true) a w:=fun a w hh=>by
          have:=ih (listed.setIfInBounds i true) a w (by simpa using hs) hh
          have e:(listed++Array.replicate l2.length false).setIfInBounds i true=listed.setIfInBounds i true++Array.replicate l2.length false:=by
            rw [Array.setIfInBounds_append_left (by omega)]
          rw [e];exact this
        split
        · rename_i hw
          rw [if_pos hw] at h';rcases h' with h' | h'
          · exact .inl (Oper.wp_mono nx (wp_then h'))
          · exact .inr h'
        · rename_i hw
          rw [if_neg hw] at h';exact nx _ _ h'
end
end Go.Proofs.YtalfbnllodhkiacGreatDoor
namespace Go.Proofs.YtalfbnllodhkiacGreatDoor
open Go.ChangeShapes Go.WideShapes Go.ChangeAt Go.RowKit
set_option linter.unusedVariables false
end Go.Proofs.YtalfbnllodhkiacGreatDoor
namespace Go.Proofs.YtalfbnllodhkiacGreatDoor
open Go.RowKit
set_option linter.unusedVariables false
def Rd (P : Program) (f : FuncId) (args : Array Value) (w : World) (V : Value) : Prop := Calls P f args w fun e w' => e = .returned V ∧ Below w.heap.size w w'
noncomputable def bdec (A : Prop) : Bool := @decide A (Classical.propDecidable A)
theorem bdec_iff {A : Prop} : bdec A = true ↔ A := by unfold bdec; simp
theorem bdec_true {A : Prop} (h : A) : bdec A = true := bdec_iff.2 h
theorem bdec_false {A : Prop} (h : ¬ A) : bdec A = false := by
  cases e:bdec A with
  | false=>rfl
  | true=>exact absurd (bdec_iff.1 e) h
theorem bdec_of {A : Prop} {q : Bool} (h : q = true ↔ A) : q = bdec A := by
  cases q with
  | false=>exact (bdec_false fun ha=>by have:=h.2 ha;cases this).symm
  | true=>exact (bdec_true (h.1 rfl)).symm
structure Wd (w0 w : World) (Bs : List (Nat × Array Value × TypeId)) : Prop where
  bel:Below w0.heap.size w0 w
  blk:∀ (i:Nat) x,Bs[i]?=some x→Blk w x.1 x.2.1 x.2.2
  new:∀ (i:Nat) x,Bs[i]?=some x→w0.heap.size≤x.1
  nd:∀ (i j:Nat) x y,Bs[i]?=some x→Bs[j]?=some y→x.1=y.1→i=j
section
variable {w0 w w' : World} {Bs : List (Nat × Array Value × TypeId)}
theorem Wd.start (w : World) : Wd w w [] := ⟨Below.refl _ _, fun i x h => by simp at h, fun i x h => by simp at h, fun i j x y h => by simp at h⟩
theorem Wd.below (h : Wd w0 w Bs) (b : Below w.heap.size w w') : Wd w0 w' Bs := ⟨Below.andThen h.bel b, fun i x hx => (h.blk i x hx).below b, h.new, h.nd⟩
theorem Wd.get (h : Wd w0 w Bs) (i : Nat) {B : Nat} {c : Array Value} {t : TypeId} (hi : Bs[i]? = some (B, c, t)) : Blk w B c t := h.blk i _ hi
theorem Wd.new' (h : Wd w0 w Bs) (c : Array Value) (t : TypeId) : Wd w0 (w.alloc (.cells c t)) ((w.heap.size, c, t) :: Bs) := by
  refine ⟨Below.andThen h.bel (bel1 w _),fun i x hx=>?_,fun i x hx=>?_,fun i j x y hx hy e=>?_⟩
  · cases i with
    | zero=>simp at hx;subst hx;exact Blk.new w c t
    | succ i=>exact (h.blk i x (by simpa using hx)).alloc _
  · cases i with
    | zero=>simp at hx;subst hx;exact h.bel.size
    | succ i=>exact h.new i x (by simpa using hx)
  · cases i with
    | zero =>
      cases j with
      | zero=>rfl
      | succ j =>
        simp at hx hy;subst hx
        have:=(h.blk j y hy).lt
        simp at e;omega
    | succ i =>
      cases j with
      | zero =>
        simp at hx hy;subst hy
        have:=(h.blk i x hx).lt
        simp at e;omega
      | succ j=>rw [h.nd i j x y (by simpa using hx) (by simpa using hy) e]
theorem Wd.tail {x : Nat × Array Value × TypeId} (h : Wd w0 w (x :: Bs)) : Wd w0 w Bs :=
  ⟨h.bel,fun i y hy=>h.blk (i+1) y (by simpa using hy),fun i y hy=>h.new (i+1) y (by simpa using hy),fun i j y z hy hz e=>by have:=h.nd (i+1) (j+1) y z (by simpa using hy) (by simpa using hz) e;omega⟩
theorem Wd.set (h : Wd w0 w Bs) (i : Nat) {B : Nat} {c c' : Array Value} {t : TypeId} {Bs' : List (Nat × Array Value × TypeId)} (hi : Bs[i]? = some (B, c, t)) (j : Nat) (v : Value)
    (hc:c.setIfInBounds j v=c') (hB:Bs.set i (B,c',t)=Bs'):Wd w0 (w.setCell ⟨B,j,none⟩ v) Bs':=by
  subst hB;subst hc
  have sp:∀ (k:Nat) x,(Bs.set i (B,c.setIfInBounds j v,t))[k]?=some x→(k=i∧x=(B,c.setIfInBounds j v,t))∨(k≠i∧Bs[k]?=some x):=by
    intro k x hx;rw [List.getElem?_set] at hx;split at hx
    · rename_i e
      subst e;have hil:i<Bs.length:=(List.getElem?_eq_some_iff.1 hi).1;rw [if_pos hil] at hx;exact .inl ⟨rfl,(Option.some.inj hx).symm⟩
    · rename_i e
      exact .inr ⟨fun e'=>e e'.symm,hx⟩
  have key:∀ (k:Nat) x,Bs[k]?=some x→k≠i→x.1≠B:=fun k x hx hk e=>hk (h.nd k i x _ hx hi e);refine ⟨h.bel.setCell (p:=⟨B,j,none⟩) (h.new i _ hi) v,fun k x hx=>?_,fun k x hx=>?_,fun k l x y hx hy e=>?_⟩
  · rcases sp k x hx with ⟨rfl,rfl⟩ | ⟨hk,hx⟩
    · exact blockSet (h.blk k _ hi) j v
    · exact (h.blk k x hx).setOther (fun e=>key k x hx hk e.symm) v
  · rcases sp k x hx with ⟨rfl,rfl⟩ | ⟨hk,hx⟩
    · exact h.new k (B,c,t) hi
    · exact h.new k x hx
  · rcases sp k x hx with ⟨hk,hx1⟩ | ⟨hk,hx1⟩
    · rcases sp l y hy with ⟨hl,hy1⟩ | ⟨hl,hy1⟩
      · rw [hk,hl]
      · rw [hx1] at e;exact absurd e.symm (key l y hy1 hl)
    · rcases sp l y hy with ⟨hl,hy1⟩ | ⟨hl,hy1⟩
      · rw [hy1] at e;exact absurd e (key k x hx1 hk)
      · exact h.nd k l x y hx1 hy1 e
def spliced (c : Array Value) (j : Nat) (vs : List Value) : Array Value := (c.toList.take j ++ (vs ++ c.toList.drop (j + vs.length))).toArray
theorem spliced_cons (c : Array Value) (j : Nat) (v : Value) (vs : List Value) (h : j + (v :: vs).length ≤ c.size) : spliced (c.setIfInBounds j v) (j + 1) vs = spliced c j (v :: vs) := by
  unfold spliced;congr 1
  have hj:j<c.toList.length:=by simp at h ⊢;omega
  simp only [Array.toList_setIfInBounds];rw [List.take_set,List.drop_set_of_lt (by omega),List.take_add_one,List.getElem?_eq_getElem hj];simp only [Option.toList,List.length_cons]
  have:(c.toList.take j++[c.toList[j]]).set j v=c.toList.take j++[v]:=by
    rw [List.set_append_right _ _ (by simp;omega)];have hj':j<c.size:=by simpa using hj
    simp [Nat.min_eq_left (Nat.le_of_lt hj')]
  rw [this,Nat.add_assoc,Nat.add_comm 1];simp
theorem Wd.setAt (h : Wd w0 w Bs) (i : Nat) {B : Nat} {c c' : Array Value} {t : TypeId} {Bs' : List (Nat × Array Value × TypeId)} (hi : Bs[i]? = some (B, c, t)) (j : Nat) (vs : List Value)
    (hs:Nat.ble (j+vs.length) c.size=true) (hc:spliced c j vs=c') (hB:Bs.set i (B,c',t)=Bs'):Wd w0 (w.setCells B j vs) Bs':=by
  have hs':j+vs.length≤c.size:=by simpa [Nat.ble_eq] using hs
  clear hs
  induction vs generalizing w Bs c j with
  | nil =>
    subst hB
    have:c=c':=by rw [← hc];unfold spliced;simp
    subst this
    have:Bs.set i (B,c,t)=Bs:=by
      apply List.ext_getElem?
      intro k;rw [List.getElem?_set];split
      · rename_i e;subst e;rw [hi];simp [(List.getElem?_eq_some_iff.1 hi).1]
      · rfl
    rw [this];exact h
  | cons v vs ih =>
    have hil:i<Bs.length:=(List.getElem?_eq_some_iff.1 hi).1;refine ih (c:=c.setIfInBounds j v) (h.set i hi j v rfl rfl) (by rw [List.getElem?_set];simp [hil]) (j+1) ?_ ?_ ?_
    · rw [← hc,spliced_cons _ _ _ _ hs']
    · rw [List.set_set];exact hB
    · simp at hs' ⊢;omega
theorem Wd.drewN (h : Wd w0 w Bs) (m : Nat) : Wd w0 (w.drewN m) Bs := ⟨drewN_below h.bel, fun i x hx => h.blk i x hx, h.new, h.nd⟩
end
theorem wrap_succ (q : Nat) (h : q < 4611686018427387904) : IntKind.i64.wrap ((q : Int) + 1) = (q : Int) + 1 := by
  have:(q:Int)<4611686018427387904:=by omega
  have e1:((q:Int)+1) % 2 ^ 64=(q:Int)+1:=by omega
  simp only [IntKind.wrap,IntKind.signed,IntKind.bits,e1,Bool.true_and];rw [if_neg (by simp only [decide_eq_true_eq];omega)]
theorem Fr.sl2 {n : Nat} {a : Act} {L : List (Tmp × Value)} (h : Fr n a L) (t : Tmp) (v : Value) (e : L.lookup t = some v) : a.tmps[t]?.getD undef = v := by
  rw [← Array.getD_eq_getD_getElem?];exact h.sl t v e
structure New (w w' : World) (B : Nat) : Prop where
  bel:Below w.heap.size w w'
  at_:B=w.heap.size
  size:w'.heap.size=B+1
theorem bel_cell {w w' : World} (b : Below w.heap.size w w') {p : Addr} {v : Value} (h : w.cell? p = some v) : w'.cell? p = some v :=
  (World.cell?_of_block (w:=w) (a:=p) (b.block p.block (World.block_lt_of_cell? w p h))).trans h
section
variable {P : Program} {n : Nat} {a : Act} {L : List (Tmp × Value)} {w0 w w' : World} {Bs Bs' : List (Nat × Array Value × TypeId)} {Q : Exit → Act → World → Prop} {ops : Array Oper} {o : Oper} {rest : List Oper} {t : Tmp} {v : Value}
theorem fr_row (c : Array Value) (ty : TypeId) (m : Nat) (hF : Fr n a L) (hW : Wd w0 w Bs) (hd : o.dst = some t) (hg : o.guard = none) (ht : Nat.blt t n = true)
    (h:∀ K:Act→World→Prop,K (a.put (some t) (.slice (some ⟨w.heap.size,0,none⟩) m m)) (w.alloc (.cells c ty))→o.wp P a w K Q)
    (k:∀ a' w' B,Wd w0 w' ((B,c,ty)::Bs)→New w w' B→Fr n a' ((t,.slice (some ⟨B,0,none⟩) m m)::L)→wpList P ops Q rest a' w'):wpList P ops Q (o::rest) a w :=
  fr_pure hF hd hg ht h fun a' hF'=>k a' _ _ (hW.new' c ty) ⟨bel1 w _,rfl,by simp⟩ hF'
theorem fr_set (hF : Fr n a L) (hW : Wd w0 w' Bs') (hd : o.dst = none) (hg : o.guard = none)
    (h:∀ K:Act→World→Prop,K a w'→o.wp P a w K Q)
    (k:∀ w',Wd w0 w' Bs'→wpList P ops Q rest a w'):wpList P ops Q (o::rest) a w :=
  fr_skip hF hd hg h (k _ hW)
theorem ret_tmp {fn : Func} {R : Ending → World → Prop} (hF : Fr n a L) (hr : fn.results = #[.tmp t]) (hv : L.lookup t = some v) (hR : R (.returned v) w) : bodyPost P fn R .ret a w :=
  bodyPost_ret ((results_tmp hr _ _ _).trans (by rw [hF.sl t v hv])) hF.defers hR
end
abbrev PTab := List (Tmp × (Value → World → Prop))
def PTab.E (M : PTab) (t : Tmp) (v : Value) (w : World) : Prop := match M.lookup t with | some p => p v w | none => True
def Stable (R : World → World → Prop) : PTab → Prop
  | []=>True
  | x::r=>(∀ v w w',R w w'→x.2 v w→x.2 v w')∧Stable R r
theorem PTab_stable {R : World → World → Prop} : ∀ (M : PTab), Stable R M → ∀ t v w w', R w w' → PTab.E M t v w → PTab.E M t v w'
  | [],_,_,_,_,_,_,h=>h
  | x::r,hs,t,v,w,w',hr,h=>by
    unfold PTab.E at *;obtain ⟨s,p⟩:=x;by_cases e:t=s
    · subst e;simp at h ⊢
      exact hs.1 _ _ _ hr h
    · have e':(t==s)=false:=by simpa using e
      simp only [List.lookup_cons,e'] at h ⊢;exact PTab_stable r hs.2 t v w w' hr h
theorem fr_draw {P : Program} {n id : Nat} {l l2 : List Oper} {outs : List Tmp} {gs : List (Nat × Option Bool)} {bs : List Bool} {a : Act} {w : World} {L : List (Tmp × Value)} {Q : Exit → Act → World → Prop}
    (M:PTab) (W:World→Prop) (R:World→World→Prop)
    (hm:P.follows .mixedOrders=true) (hF:Fr n a L) (hL:(L.all fun p=>!(dstsOf l).contains p.1)=true) (hB:calmB l n outs gs bs=true)
    (hT:(backB 0 (l++l2) && (guardsB l.length l && tailB l.length l2))=true)
    (hR:Stable R M) (hG:GuardOk (PTab.E M) W l.toArray gs) (hW:W w.drew) (hO:OutsOk (PTab.E M) a w.drew outs)
    (hA:AllOk (PTab.E M) W R P l bs)
    (hend:∀ a' w',W w'→(∀ t,(dstsOf l).contains t=true→PTab.E M t (a'.tmps.getD t undef) w')→Fr n a' L→wpList P (l++l2).toArray Q l2 a' w') :
    (Code.region id (l++l2).toArray true).wp P Q a w:=by
  simp only [Bool.and_eq_true] at hT;obtain ⟨hT1,hT2,hT3⟩:=hT;refine wp_region_any hm ?_
  have key:wpAny P .any l.toArray (Exit.then (fun a w=>wpList P (l++l2).toArray Q l2 a w) Q) l.length (Array.replicate l.length false) a w.drew:=by
    refine wpAny_calm (E:=PTab.E M) (W:=W) (R:=R) (a0:=a) (outs:=outs) (gs:=gs) (bs:=bs) (by rw [hF.size];exact hB) (PTab_stable M hR) hG hA ?_ _ _ _ _ (by simp) ?_ ⟨hW,rfl,rfl,fun _ _=>rfl,fun t ht _=>outs_mem outs hO t ht,?_⟩
    · intro vs w' hw' hE
      have hlt:∀ t,(dstsOf l).contains t=true→t<a.tmps.size:=fun t ht=>by
        simp only [calmB,Bool.and_eq_true] at hB
        have:=List.all_eq_true.1 hB.1.1.1.2 t (by simpa using ht)
        rw [hF.size];simpa using this
      have hat:∀ t,(dstsOf l).contains t=true→(puts a vs (dstsOf l)).tmps.getD t undef=vs t:=fun t ht=>by
        have:=puts_at vs (dstsOf l) a t (hlt t ht)
        rw [if_pos (by simpa using ht)] at this;rw [Array.getD_eq_getD_getElem?,this];rfl
      refine hend _ w' hw' (fun t ht=>by rw [hat t ht];exact hE t ht) ⟨by rw [puts_size,hF.size],by rw [puts_defers,hF.defers],fun t v hl=>?_⟩
      have hm:∃ p∈L,p.1=t:=by
        clear hL hO hend
        have:∀ (L:List (Tmp × Value)),L.lookup t=some v→∃ p∈L,p.1=t:=by
          intro L
          induction L with
          | nil=>intro h;simp at h
          | cons x r ih =>
            intro h;by_cases e:t=x.1
            · exact ⟨x,by simp,e.symm⟩
            · have e':(t==x.1)=false:=beq_false_of_ne e;rw [List.lookup_cons,e'] at h;obtain ⟨p,hp,he⟩:=ih h;exact ⟨p,by simp [hp],he⟩
        exact this L hl
      obtain ⟨p,hp,rfl⟩:=hm
      have hn:¬ p.1∈dstsOf l:=by
        have:=List.all_eq_true.1 hL p hp
        simpa using this
      rw [← hF.sl p.1 v hl];by_cases hlt':p.1<a.tmps.size
      · have:=puts_at vs (dstsOf l) a p.1 hlt'
        rw [if_neg hn] at this;rw [Array.getD_eq_getD_getElem?,Array.getD_eq_getD_getElem?,this]
      · have h9:a.tmps.size≤p.1:=Nat.le_of_not_lt hlt';rw [Array.getD_eq_getD_getElem?,Array.getD_eq_getD_getElem?,Array.getElem?_eq_none (by rw [puts_size];exact h9),Array.getElem?_eq_none h9]
    · simp only [Array.toList_replicate];exact Nat.le_trans (List.length_filter_le _ _) (by simp)
    · intro j o t hj hd hl;simp [Array.getD] at hl
  have:=wpAny_tail (Q:=Q) hT1 hT2 hT3 l.length (Array.replicate l.length false) a w.drew (by simp) key
  have e:(Array.replicate l.length false++Array.replicate l2.length false:Array Bool)=Array.replicate (l++l2).toArray.size false:=by
    simp
  have e2:l.length+l2.length=(l++l2).toArray.size:=by simp
  rw [e,e2] at this;exact this
theorem fr_draw_k {P : Program} {n id : Nat} {lo : List Oper} {outs : List Tmp} {gs : List (Nat × Option Bool)} {bs : List Bool} {a : Act} {w : World} {L : List (Tmp × Value)} {Q : Exit → Act → World → Prop}
    (k:Nat) (M:PTab) (W:World→Prop) (R:World→World→Prop)
    (hm:P.follows .mixedOrders=true) (hF:Fr n a L) (hL:(L.all fun p=>!(dstsOf (lo.take k)).contains p.1)=true) (hB:calmB (lo.take k) n outs gs bs=true)
    (hT:(backB 0 lo && (guardsB (lo.take k).length (lo.take k) && tailB (lo.take k).length (lo.drop k)))=true)
    (hR:Stable R M) (hG:GuardOk (PTab.E M) W (lo.take k).toArray gs) (hW:W w.drew) (hO:OutsOk (PTab.E M) a w.drew outs)
    (hA:AllOk (PTab.E M) W R P (lo.take k) bs)
    (hend:∀ ops a' w',W w'→(∀ t,(dstsOf (lo.take k)).contains t=true→PTab.E M t (a'.tmps.getD t undef) w')→Fr n a' L→wpList P ops Q (lo.drop k) a' w') :
    (Code.region id lo.toArray true).wp P Q a w:=by
  have h:=fr_draw (id:=id) (l:=lo.take k) (l2:=lo.drop k) (Q:=Q) M W R hm hF hL hB (by rw [List.take_append_drop];exact hT) hR hG hW hO hA (hend _);rwa [List.take_append_drop] at h
section
variable {w0 w w' w00 : World} {Bs : List (Nat × Array Value × TypeId)}
theorem Wd.add (h : Wd w0 w Bs) {B : Nat} {c : Array Value} {t : TypeId} (hb : Blk w B c t) (h0 : Wd w0 w00 Bs) (hB : w00.heap.size ≤ B) : Wd w0 w ((B, c, t) :: Bs) := by
  refine ⟨h.bel,fun i x hx=>?_,fun i x hx=>?_,fun i j x y hx hy e=>?_⟩
  · cases i with
    | zero=>simp at hx;subst hx;exact hb
    | succ i=>exact h.blk i x (by simpa using hx)
  · cases i with
    | zero=>simp at hx;subst hx;have:=h0.bel.size;simp only;omega
    | succ i=>exact h.new i x (by simpa using hx)
  · cases i with
    | zero =>
      cases j with
      | zero=>rfl
      | succ j =>
        simp at hx hy;subst hx
        have:=(h0.blk j y hy).lt
        simp at e;omega
    | succ i =>
      cases j with
      | zero =>
        simp at hx hy;subst hy
        have:=(h0.blk i x hx).lt
        simp at e;omega
      | succ j=>rw [h.nd i j x y (by simpa using hx) (by simpa using hy) e]
end
section
variable {P : Program} {Q : Exit → Act → World → Prop}
def waits1 (o : Oper) (j : Nat) : Bool := o.after.any fun e => Region.binds .any e && e.on == j
theorem waits1_at {o : Oper} {j : Nat} (h : waits1 o j = true) : ∃ e ∈ o.after, Region.binds .any e = true ∧ e.on = j := by
  obtain ⟨q,hq,he⟩:=Array.any_eq_true.1 h;simp only [Bool.and_eq_true,beq_iff_eq] at he;exact ⟨_,Array.getElem_mem hq,he.1,he.2⟩
end
end Go.Proofs.YtalfbnllodhkiacGreatDoor
namespace Go.Proofs.YtalfbnllodhkiacGreatDoor
open Go.ChangeShapes Go.WideShapes Go.ChangeAt Go.RowKit
set_option linter.unusedSimpArgs false
set_option linter.unusedVariables false
def evalL (L : List (Tmp × Value)) : Operand → Option Value
  | .tmp t=>L.lookup t
  | .const v=>some v
  | .func f=>some (.func (.func f) #[] #[])
  | _=>none
abbrev St (n : Nat) (L : List (Tmp × Value)) (ops : Array Oper) (Q : Exit → Act → World → Prop) (l : List Oper) (w : World) : Prop := ∀ a, Fr n a L → wpList Tryz.prog ops Q l a w
def Gok (ops : Array Oper) (n : Nat) (L : List (Tmp × Value)) : Option (Nat × Bool) → Prop
  | none=>True
  | some (g,want)=>∃ tg,(ops[g]?).bind (fun o:Oper=>o.dst)=some tg∧Nat.blt tg n=true∧L.lookup tg=some (.bool want)
section
variable {n : Nat} {a : Act} {L : List (Tmp × Value)} {w0 w : World} {Bs : List (Nat × Array Value × TypeId)} {Q : Exit → Act → World → Prop} {ops : Array Oper} {rest : List Oper} {t : Tmp} {u v : Value} {ty ty2 ty3 : TypeId} {pos : String} {aft : Array Edge} {gd : Option (Nat × Bool)} {x y z : Operand} {g tg : Nat} {want b : Bool}
theorem Fr.ev (h : Fr n a L) (e : evalL L x = some v) : a.eval x = v := by
  cases x <;> simp only [evalL,Option.some.injEq,reduceCtorEq] at e
  · exact h.sl _ _ e
  · exact e
  · subst e;rfl
theorem Gok.on {o : Oper} (hF : Fr n a L) (h : Gok ops n L o.guard) : Region.wanted o (yielded ops a.tmps) = true := by
  cases hg:o.guard with
  | none=>simp [Region.wanted,hg]
  | some p =>
    obtain ⟨g,want⟩:=p;rw [hg] at h;obtain ⟨tg,h1,h2,h3⟩:=h;rw [wanted_g hF hg h1 h2 h3];simp
theorem St.go {l : List Oper} (hF : Fr n a L) (h : St n L ops Q l w) : wpList Tryz.prog ops Q l a w := h a hF
theorem rg {id : Nat} {l : List Oper} (hF : Fr n a L) (h : ∀ ops, St n L ops Q l w) : (Code.region id l.toArray false).wp Tryz.prog Q a w := fr_region fun ops _ => h ops a hF
theorem St.nil (h : ∀ a, Fr n a L → Q .normal a w) : St n L ops Q [] w := h
theorem s_step {o : Oper} (hg : Gok ops n L o.guard) (hd : o.dst = some t) (ht : Nat.blt t n = true)
    (h:∀ ev:Operand→Value,(∀ x v,evalL L x=some v→ev x=v)→(execOp ev o).run Tryz.prog w=.ok (.value v) w)
    (k:St n ((t,v)::L) ops Q rest w):St n L ops Q (o::rest) w:=fun a hF =>
  wpList_step fun K hK=>by
    rw [if_pos (hg.on hF)];unfold Oper.wp;rw [h a.eval (fun x v e=>hF.ev e),Oper.upon_value,hd];exact hK _ _ (k _ (hF.put ht))
theorem so {op : Op} (hs : (ops[g]?).bind (fun o : Oper => o.dst) = some tg) (htg : Nat.blt tg n = true) (hv : L.lookup tg = some u) (hu : (match u with | .bool b => b == want | _ => false) = false) (ht : Nat.blt t n = true)
    (k:St n ((t,undef)::L) ops Q rest w):St n L ops Q (⟨some t,op,ty,pos,aft,some (g,want)⟩::rest) w:=fun a hF =>
  fr_off hF rfl rfl hs htg hv hu ht k
theorem sm (hg : Gok ops n L gd) (hx : evalL L x = some (v)) (ht : Nat.blt t n = true)
    (k:St n ((t,v)::L) ops Q rest w):St n L ops Q (⟨some t,.move x,ty,pos,aft,gd⟩::rest) w :=
  s_step hg rfl ht (fun ev hev=>by have e:=hev _ _ hx;simp [go_sem,e]) k
theorem sa (hg : Gok ops n L gd) (hx : evalL L x = some (v)) (ht : Nat.blt t n = true)
    (k:St n ((t,v)::L) ops Q rest w):St n L ops Q (⟨some t,.assign x,ty,pos,aft,gd⟩::rest) w :=
  s_step hg rfl ht (fun ev hev=>by have e:=hev _ _ hx;simp [go_sem,e]) k
theorem sn (hg : Gok ops n L gd) (hx : evalL L x = some (.bool b)) (ht : Nat.blt t n = true)
    (k:St n ((t,.bool (!b))::L) ops Q rest w):St n L ops Q (⟨some t,.unOp .not ty2 x,ty,pos,aft,gd⟩::rest) w :=
  s_step hg rfl ht (fun ev hev=>by have e:=hev _ _ hx;simp [go_sem,e]) k
theorem sp (hg : Gok ops n L gd) (hx : evalL L x = some (.bool true)) (hy : evalL L y = some (v)) (ht : Nat.blt t n = true)
    (k:St n ((t,v)::L) ops Q rest w):St n L ops Q (⟨some t,.pick x y z,ty,pos,aft,gd⟩::rest) w :=
  s_step hg rfl ht (fun ev hev=>by have e:=hev _ _ hx;have e2:=hev _ _ hy;simp [go_sem,e,e2]) k
theorem spf (hg : Gok ops n L gd) (hx : evalL L x = some (.bool false)) (hz : evalL L z = some (v)) (ht : Nat.blt t n = true)
    (k:St n ((t,v)::L) ops Q rest w):St n L ops Q (⟨some t,.pick x y z,ty,pos,aft,gd⟩::rest) w :=
  s_step hg rfl ht (fun ev hev=>by have e:=hev _ _ hx;have e2:=hev _ _ hz;simp [go_sem,e,e2]) k
theorem seq {p q : Int} (hg : Gok ops n L gd) (hx : evalL L x = some (.int .i64 p)) (hy : evalL L y = some (.int .i64 q)) (ht : Nat.blt t n = true)
    (k:St n ((t,.bool (p==q))::L) ops Q rest w):St n L ops Q (⟨some t,.binOp .eql 3 x y 3,ty,pos,aft,gd⟩::rest) w :=
  s_step hg rfl ht (fun ev hev=>by have e:=hev _ _ hx;have e2:=hev _ _ hy;simp [go_sem,e,e2]) k
theorem sne {p q : Int} (hg : Gok ops n L gd) (hx : evalL L x = some (.int .i64 p)) (hy : evalL L y = some (.int .i64 q)) (ht : Nat.blt t n = true)
    (k:St n ((t,.bool (p != q))::L) ops Q rest w):St n L ops Q (⟨some t,.binOp .neq 3 x y 3,ty,pos,aft,gd⟩::rest) w :=
  s_step hg rfl ht (fun ev hev=>by have e:=hev _ _ hx;have e2:=hev _ _ hy;simp [go_sem,e,e2]) k
theorem slt {p q : Int} (hg : Gok ops n L gd) (hx : evalL L x = some (.int .i64 p)) (hy : evalL L y = some (.int .i64 q)) (ht : Nat.blt t n = true)
    (k:St n ((t,.bool (decide (p<q)))::L) ops Q rest w):St n L ops Q (⟨some t,.binOp .lss 3 x y 3,ty,pos,aft,gd⟩::rest) w :=
  s_step hg rfl ht (fun ev hev=>by have e:=hev _ _ hx;have e2:=hev _ _ hy;simp [go_sem,e,e2]) k
theorem sgt {p q : Int} (hg : Gok ops n L gd) (hx : evalL L x = some (.int .i64 p)) (hy : evalL L y = some (.int .i64 q)) (ht : Nat.blt t n = true)
    (k:St n ((t,.bool (decide (q<p)))::L) ops Q rest w):St n L ops Q (⟨some t,.binOp .gtr 3 x y 3,ty,pos,aft,gd⟩::rest) w :=
  s_step hg rfl ht (fun ev hev=>by have e:=hev _ _ hx;have e2:=hev _ _ hy;simp [go_sem,e,e2]) k
theorem sge {p q : Int} (hg : Gok ops n L gd) (hx : evalL L x = some (.int .i64 p)) (hy : evalL L y = some (.int .i64 q)) (ht : Nat.blt t n = true)
    (k:St n ((t,.bool (decide (q≤p)))::L) ops Q rest w):St n L ops Q (⟨some t,.binOp .geq 3 x y 3,ty,pos,aft,gd⟩::rest) w :=
  s_step hg rfl ht (fun ev hev=>by have e:=hev _ _ hx;have e2:=hev _ _ hy;simp [go_sem,e,e2]) k
theorem seq6 {p q : Int} (hg : Gok ops n L gd) (hx : evalL L x = some (.int .i64 p)) (hy : evalL L y = some (.int .i64 q)) (ht : Nat.blt t n = true)
    (k:St n ((t,.bool (p==q))::L) ops Q rest w):St n L ops Q (⟨some t,.binOp .eql 2 x y 2,ty,pos,aft,gd⟩::rest) w :=
  s_step hg rfl ht (fun ev hev=>by have e:=hev _ _ hx;have e2:=hev _ _ hy;simp [go_sem,e,e2]) k
theorem sne6 {p q : Int} (hg : Gok ops n L gd) (hx : evalL L x = some (.int .i64 p)) (hy : evalL L y = some (.int .i64 q)) (ht : Nat.blt t n = true)
    (k:St n ((t,.bool (p != q))::L) ops Q rest w):St n L ops Q (⟨some t,.binOp .neq 2 x y 2,ty,pos,aft,gd⟩::rest) w :=
  s_step hg rfl ht (fun ev hev=>by have e:=hev _ _ hx;have e2:=hev _ _ hy;simp [go_sem,e,e2]) k
theorem sad {q : Nat} (hq : q < 4611686018427387904) (hg : Gok ops n L gd) (hx : evalL L x = some (.int .i64 (q : Int))) (hy : evalL L y = some (.int .i64 1)) (ht : Nat.blt t n = true)
    (k:St n ((t,.int .i64 ((q:Int)+1))::L) ops Q rest w):St n L ops Q (⟨some t,.binOp .add 3 x y 3,ty,pos,aft,gd⟩::rest) w :=
  s_step hg rfl ht (fun ev hev=>by have e:=hev _ _ hx;have e2:=hev _ _ hy;have e3:=wrap_succ q hq;simp [go_sem,e,e2,e3]) k
theorem slInts {p : Option Addr} {m c : Nat} (hg : Gok ops n L gd) (hx : evalL L x = some (.slice p m c)) (ht : Nat.blt t n = true)
    (k:St n ((t,.int .i64 (m:Int))::L) ops Q rest w):St n L ops Q (⟨some t,.call { callee:=.builtin .len,args:=#[x],argTypes:=#[43] },3,pos,aft,gd⟩::rest) w :=
  s_step hg rfl ht (fun ev hev=>by have e:=hev _ _ hx;simp [go_sem,e]) k
theorem slTypes {p : Option Addr} {m c : Nat} (hg : Gok ops n L gd) (hx : evalL L x = some (.slice p m c)) (ht : Nat.blt t n = true)
    (k:St n ((t,.int .i64 (m:Int))::L) ops Q rest w):St n L ops Q (⟨some t,.call { callee:=.builtin .len,args:=#[x],argTypes:=#[39] },3,pos,aft,gd⟩::rest) w :=
  s_step hg rfl ht (fun ev hev=>by have e:=hev _ _ hx;simp [go_sem,e]) k
theorem siTypes {p : Option Addr} {m c q B j : Nat} (hp : p = some ⟨B, j, none⟩) (hq : q < m) (hg : Gok ops n L gd) (hx : evalL L x = some (.slice p m c)) (hy : evalL L y = some (.int .i64 (q : Int))) (ht : Nat.blt t n = true)
    (k:St n ((t,.pointer (some ⟨B,j+q*3,none⟩))::L) ops Q rest w):St n L ops Q (⟨some t,.indexAddr 39 x y,ty,pos,aft,gd⟩::rest) w :=
  s_step hg rfl ht (fun ev hev=>by have e:=hev _ _ hx;have e2:=hev _ _ hy;have h0:=Int.natCast_nonneg q;have h1:=Int.ofNat_lt.2 hq;subst hp;simp [go_sem,e,e2,h0,h1,hq]) k
theorem slInss {p : Option Addr} {m c : Nat} (hg : Gok ops n L gd) (hx : evalL L x = some (.slice p m c)) (ht : Nat.blt t n = true)
    (k:St n ((t,.int .i64 (m:Int))::L) ops Q rest w):St n L ops Q (⟨some t,.call { callee:=.builtin .len,args:=#[x],argTypes:=#[46] },3,pos,aft,gd⟩::rest) w :=
  s_step hg rfl ht (fun ev hev=>by have e:=hev _ _ hx;simp [go_sem,e]) k
theorem siInss {p : Option Addr} {m c q B j : Nat} (hp : p = some ⟨B, j, none⟩) (hq : q < m) (hg : Gok ops n L gd) (hx : evalL L x = some (.slice p m c)) (hy : evalL L y = some (.int .i64 (q : Int))) (ht : Nat.blt t n = true)
    (k:St n ((t,.pointer (some ⟨B,j+q*8,none⟩))::L) ops Q rest w):St n L ops Q (⟨some t,.indexAddr 46 x y,ty,pos,aft,gd⟩::rest) w :=
  s_step hg rfl ht (fun ev hev=>by have e:=hev _ _ hx;have e2:=hev _ _ hy;have h0:=Int.natCast_nonneg q;have h1:=Int.ofNat_lt.2 hq;subst hp;simp [go_sem,e,e2,h0,h1,hq]) k
theorem slBlocks {p : Option Addr} {m c : Nat} (hg : Gok ops n L gd) (hx : evalL L x = some (.slice p m c)) (ht : Nat.blt t n = true)
    (k:St n ((t,.int .i64 (m:Int))::L) ops Q rest w):St n L ops Q (⟨some t,.call { callee:=.builtin .len,args:=#[x],argTypes:=#[40] },3,pos,aft,gd⟩::rest) w :=
  s_step hg rfl ht (fun ev hev=>by have e:=hev _ _ hx;simp [go_sem,e]) k
theorem siBlocks {p : Option Addr} {m c q B j : Nat} (hp : p = some ⟨B, j, none⟩) (hq : q < m) (hg : Gok ops n L gd) (hx : evalL L x = some (.slice p m c)) (hy : evalL L y = some (.int .i64 (q : Int))) (ht : Nat.blt t n = true)
    (k:St n ((t,.pointer (some ⟨B,j+q*12,none⟩))::L) ops Q rest w):St n L ops Q (⟨some t,.indexAddr 40 x y,ty,pos,aft,gd⟩::rest) w :=
  s_step hg rfl ht (fun ev hev=>by have e:=hev _ _ hx;have e2:=hev _ _ hy;have h0:=Int.natCast_nonneg q;have h1:=Int.ofNat_lt.2 hq;subst hp;simp [go_sem,e,e2,h0,h1,hq]) k
theorem slFuncs {p : Option Addr} {m c : Nat} (hg : Gok ops n L gd) (hx : evalL L x = some (.slice p m c)) (ht : Nat.blt t n = true)
    (k:St n ((t,.int .i64 (m:Int))::L) ops Q rest w):St n L ops Q (⟨some t,.call { callee:=.builtin .len,args:=#[x],argTypes:=#[23] },3,pos,aft,gd⟩::rest) w :=
  s_step hg rfl ht (fun ev hev=>by have e:=hev _ _ hx;simp [go_sem,e]) k
theorem siFuncs {p : Option Addr} {m c q B j : Nat} (hp : p = some ⟨B, j, none⟩) (hq : q < m) (hg : Gok ops n L gd) (hx : evalL L x = some (.slice p m c)) (hy : evalL L y = some (.int .i64 (q : Int))) (ht : Nat.blt t n = true)
    (k:St n ((t,.pointer (some ⟨B,j+q*4,none⟩))::L) ops Q rest w):St n L ops Q (⟨some t,.indexAddr 23 x y,ty,pos,aft,gd⟩::rest) w :=
  s_step hg rfl ht (fun ev hev=>by have e:=hev _ _ hx;have e2:=hev _ _ hy;have h0:=Int.natCast_nonneg q;have h1:=Int.ofNat_lt.2 hq;subst hp;simp [go_sem,e,e2,h0,h1,hq]) k
theorem sfType0 {B j : Nat} (hg : Gok ops n L gd) (hx : evalL L x = some (.pointer (some ⟨B, j, none⟩))) (ht : Nat.blt t n = true)
    (k:St n ((t,.pointer (some ⟨B,j,none⟩))::L) ops Q rest w):St n L ops Q (⟨some t,.fieldAddr 78 x 0,ty,pos,aft,gd⟩::rest) w :=
  s_step hg rfl ht (fun ev hev=>by have e:=hev _ _ hx;simp [go_sem,e]) k
theorem sfIns0 {B j : Nat} (hg : Gok ops n L gd) (hx : evalL L x = some (.pointer (some ⟨B, j, none⟩))) (ht : Nat.blt t n = true)
    (k:St n ((t,.pointer (some ⟨B,j,none⟩))::L) ops Q rest w):St n L ops Q (⟨some t,.fieldAddr 45 x 0,ty,pos,aft,gd⟩::rest) w :=
  s_step hg rfl ht (fun ev hev=>by have e:=hev _ _ hx;simp [go_sem,e]) k
theorem sfIns1 {B j : Nat} (hg : Gok ops n L gd) (hx : evalL L x = some (.pointer (some ⟨B, j, none⟩))) (ht : Nat.blt t n = true)
    (k:St n ((t,.pointer (some ⟨B,j+1,none⟩))::L) ops Q rest w):St n L ops Q (⟨some t,.fieldAddr 45 x 1,ty,pos,aft,gd⟩::rest) w :=
  s_step hg rfl ht (fun ev hev=>by have e:=hev _ _ hx;simp [go_sem,e]) k
theorem sfIns2 {B j : Nat} (hg : Gok ops n L gd) (hx : evalL L x = some (.pointer (some ⟨B, j, none⟩))) (ht : Nat.blt t n = true)
    (k:St n ((t,.pointer (some ⟨B,j+2,none⟩))::L) ops Q rest w):St n L ops Q (⟨some t,.fieldAddr 45 x 2,ty,pos,aft,gd⟩::rest) w :=
  s_step hg rfl ht (fun ev hev=>by have e:=hev _ _ hx;simp [go_sem,e]) k
theorem sfIns3 {B j : Nat} (hg : Gok ops n L gd) (hx : evalL L x = some (.pointer (some ⟨B, j, none⟩))) (ht : Nat.blt t n = true)
    (k:St n ((t,.pointer (some ⟨B,j+3,none⟩))::L) ops Q rest w):St n L ops Q (⟨some t,.fieldAddr 45 x 3,ty,pos,aft,gd⟩::rest) w :=
  s_step hg rfl ht (fun ev hev=>by have e:=hev _ _ hx;simp [go_sem,e]) k
theorem sfIns4 {B j : Nat} (hg : Gok ops n L gd) (hx : evalL L x = some (.pointer (some ⟨B, j, none⟩))) (ht : Nat.blt t n = true)
    (k:St n ((t,.pointer (some ⟨B,j+4,none⟩))::L) ops Q rest w):St n L ops Q (⟨some t,.fieldAddr 45 x 4,ty,pos,aft,gd⟩::rest) w :=
  s_step hg rfl ht (fun ev hev=>by have e:=hev _ _ hx;simp [go_sem,e]) k
theorem sfIns5 {B j : Nat} (hg : Gok ops n L gd) (hx : evalL L x = some (.pointer (some ⟨B, j, none⟩))) (ht : Nat.blt t n = true)
    (k:St n ((t,.pointer (some ⟨B,j+5,none⟩))::L) ops Q rest w):St n L ops Q (⟨some t,.fieldAddr 45 x 5,ty,pos,aft,gd⟩::rest) w :=
  s_step hg rfl ht (fun ev hev=>by have e:=hev _ _ hx;simp [go_sem,e]) k
theorem sfIns6 {B j : Nat} (hg : Gok ops n L gd) (hx : evalL L x = some (.pointer (some ⟨B, j, none⟩))) (ht : Nat.blt t n = true)
    (k:St n ((t,.pointer (some ⟨B,j+6,none⟩))::L) ops Q rest w):St n L ops Q (⟨some t,.fieldAddr 45 x 6,ty,pos,aft,gd⟩::rest) w :=
  s_step hg rfl ht (fun ev hev=>by have e:=hev _ _ hx;simp [go_sem,e]) k
theorem sfIns7 {B j : Nat} (hg : Gok ops n L gd) (hx : evalL L x = some (.pointer (some ⟨B, j, none⟩))) (ht : Nat.blt t n = true)
    (k:St n ((t,.pointer (some ⟨B,j+7,none⟩))::L) ops Q rest w):St n L ops Q (⟨some t,.fieldAddr 45 x 7,ty,pos,aft,gd⟩::rest) w :=
  s_step hg rfl ht (fun ev hev=>by have e:=hev _ _ hx;simp [go_sem,e]) k
theorem sfTo0 {B j : Nat} (hg : Gok ops n L gd) (hx : evalL L x = some (.pointer (some ⟨B, j, none⟩))) (ht : Nat.blt t n = true)
    (k:St n ((t,.pointer (some ⟨B,j,none⟩))::L) ops Q rest w):St n L ops Q (⟨some t,.fieldAddr 48 x 0,ty,pos,aft,gd⟩::rest) w :=
  s_step hg rfl ht (fun ev hev=>by have e:=hev _ _ hx;simp [go_sem,e]) k
theorem sfTo1 {B j : Nat} (hg : Gok ops n L gd) (hx : evalL L x = some (.pointer (some ⟨B, j, none⟩))) (ht : Nat.blt t n = true)
    (k:St n ((t,.pointer (some ⟨B,j+1,none⟩))::L) ops Q rest w):St n L ops Q (⟨some t,.fieldAddr 48 x 1,ty,pos,aft,gd⟩::rest) w :=
  s_step hg rfl ht (fun ev hev=>by have e:=hev _ _ hx;simp [go_sem,e]) k
theorem sfTo2 {B j : Nat} (hg : Gok ops n L gd) (hx : evalL L x = some (.pointer (some ⟨B, j, none⟩))) (ht : Nat.blt t n = true)
    (k:St n ((t,.pointer (some ⟨B,j+2,none⟩))::L) ops Q rest w):St n L ops Q (⟨some t,.fieldAddr 48 x 2,ty,pos,aft,gd⟩::rest) w :=
  s_step hg rfl ht (fun ev hev=>by have e:=hev _ _ hx;simp [go_sem,e]) k
theorem sfEnd0 {B j : Nat} (hg : Gok ops n L gd) (hx : evalL L x = some (.pointer (some ⟨B, j, none⟩))) (ht : Nat.blt t n = true)
    (k:St n ((t,.pointer (some ⟨B,j,none⟩))::L) ops Q rest w):St n L ops Q (⟨some t,.fieldAddr 50 x 0,ty,pos,aft,gd⟩::rest) w :=
  s_step hg rfl ht (fun ev hev=>by have e:=hev _ _ hx;simp [go_sem,e]) k
theorem sfEnd1 {B j : Nat} (hg : Gok ops n L gd) (hx : evalL L x = some (.pointer (some ⟨B, j, none⟩))) (ht : Nat.blt t n = true)
    (k:St n ((t,.pointer (some ⟨B,j+1,none⟩))::L) ops Q rest w):St n L ops Q (⟨some t,.fieldAddr 50 x 1,ty,pos,aft,gd⟩::rest) w :=
  s_step hg rfl ht (fun ev hev=>by have e:=hev _ _ hx;simp [go_sem,e]) k
theorem sfEnd2 {B j : Nat} (hg : Gok ops n L gd) (hx : evalL L x = some (.pointer (some ⟨B, j, none⟩))) (ht : Nat.blt t n = true)
    (k:St n ((t,.pointer (some ⟨B,j+2,none⟩))::L) ops Q rest w):St n L ops Q (⟨some t,.fieldAddr 50 x 2,ty,pos,aft,gd⟩::rest) w :=
  s_step hg rfl ht (fun ev hev=>by have e:=hev _ _ hx;simp [go_sem,e]) k
theorem sfEnd3 {B j : Nat} (hg : Gok ops n L gd) (hx : evalL L x = some (.pointer (some ⟨B, j, none⟩))) (ht : Nat.blt t n = true)
    (k:St n ((t,.pointer (some ⟨B,j+5,none⟩))::L) ops Q rest w):St n L ops Q (⟨some t,.fieldAddr 50 x 3,ty,pos,aft,gd⟩::rest) w :=
  s_step hg rfl ht (fun ev hev=>by have e:=hev _ _ hx;simp [go_sem,e]) k
theorem sfEnd4 {B j : Nat} (hg : Gok ops n L gd) (hx : evalL L x = some (.pointer (some ⟨B, j, none⟩))) (ht : Nat.blt t n = true)
    (k:St n ((t,.pointer (some ⟨B,j+8,none⟩))::L) ops Q rest w):St n L ops Q (⟨some t,.fieldAddr 50 x 4,ty,pos,aft,gd⟩::rest) w :=
  s_step hg rfl ht (fun ev hev=>by have e:=hev _ _ hx;simp [go_sem,e]) k
theorem sfBlock0 {B j : Nat} (hg : Gok ops n L gd) (hx : evalL L x = some (.pointer (some ⟨B, j, none⟩))) (ht : Nat.blt t n = true)
    (k:St n ((t,.pointer (some ⟨B,j,none⟩))::L) ops Q rest w):St n L ops Q (⟨some t,.fieldAddr 52 x 0,ty,pos,aft,gd⟩::rest) w :=
  s_step hg rfl ht (fun ev hev=>by have e:=hev _ _ hx;simp [go_sem,e]) k
theorem sfBlock1 {B j : Nat} (hg : Gok ops n L gd) (hx : evalL L x = some (.pointer (some ⟨B, j, none⟩))) (ht : Nat.blt t n = true)
    (k:St n ((t,.pointer (some ⟨B,j+1,none⟩))::L) ops Q rest w):St n L ops Q (⟨some t,.fieldAddr 52 x 1,ty,pos,aft,gd⟩::rest) w :=
  s_step hg rfl ht (fun ev hev=>by have e:=hev _ _ hx;simp [go_sem,e]) k
theorem sfBlock2 {B j : Nat} (hg : Gok ops n L gd) (hx : evalL L x = some (.pointer (some ⟨B, j, none⟩))) (ht : Nat.blt t n = true)
    (k:St n ((t,.pointer (some ⟨B,j+2,none⟩))::L) ops Q rest w):St n L ops Q (⟨some t,.fieldAddr 52 x 2,ty,pos,aft,gd⟩::rest) w :=
  s_step hg rfl ht (fun ev hev=>by have e:=hev _ _ hx;simp [go_sem,e]) k
theorem sfBlock3 {B j : Nat} (hg : Gok ops n L gd) (hx : evalL L x = some (.pointer (some ⟨B, j, none⟩))) (ht : Nat.blt t n = true)
    (k:St n ((t,.pointer (some ⟨B,j+3,none⟩))::L) ops Q rest w):St n L ops Q (⟨some t,.fieldAddr 52 x 3,ty,pos,aft,gd⟩::rest) w :=
  s_step hg rfl ht (fun ev hev=>by have e:=hev _ _ hx;simp [go_sem,e]) k
theorem sfFunc0 {B j : Nat} (hg : Gok ops n L gd) (hx : evalL L x = some (.pointer (some ⟨B, j, none⟩))) (ht : Nat.blt t n = true)
    (k:St n ((t,.pointer (some ⟨B,j,none⟩))::L) ops Q rest w):St n L ops Q (⟨some t,.fieldAddr 42 x 0,ty,pos,aft,gd⟩::rest) w :=
  s_step hg rfl ht (fun ev hev=>by have e:=hev _ _ hx;simp [go_sem,e]) k
theorem sfFunc1 {B j : Nat} (hg : Gok ops n L gd) (hx : evalL L x = some (.pointer (some ⟨B, j, none⟩))) (ht : Nat.blt t n = true)
    (k:St n ((t,.pointer (some ⟨B,j+1,none⟩))::L) ops Q rest w):St n L ops Q (⟨some t,.fieldAddr 42 x 1,ty,pos,aft,gd⟩::rest) w :=
  s_step hg rfl ht (fun ev hev=>by have e:=hev _ _ hx;simp [go_sem,e]) k
theorem sfFunc2 {B j : Nat} (hg : Gok ops n L gd) (hx : evalL L x = some (.pointer (some ⟨B, j, none⟩))) (ht : Nat.blt t n = true)
    (k:St n ((t,.pointer (some ⟨B,j+2,none⟩))::L) ops Q rest w):St n L ops Q (⟨some t,.fieldAddr 42 x 2,ty,pos,aft,gd⟩::rest) w :=
  s_step hg rfl ht (fun ev hev=>by have e:=hev _ _ hx;simp [go_sem,e]) k
theorem sfFunc3 {B j : Nat} (hg : Gok ops n L gd) (hx : evalL L x = some (.pointer (some ⟨B, j, none⟩))) (ht : Nat.blt t n = true)
    (k:St n ((t,.pointer (some ⟨B,j+3,none⟩))::L) ops Q rest w):St n L ops Q (⟨some t,.fieldAddr 42 x 3,ty,pos,aft,gd⟩::rest) w :=
  s_step hg rfl ht (fun ev hev=>by have e:=hev _ _ hx;simp [go_sem,e]) k
theorem sfModule0 {B j : Nat} (hg : Gok ops n L gd) (hx : evalL L x = some (.pointer (some ⟨B, j, none⟩))) (ht : Nat.blt t n = true)
    (k:St n ((t,.pointer (some ⟨B,j,none⟩))::L) ops Q rest w):St n L ops Q (⟨some t,.fieldAddr 25 x 0,ty,pos,aft,gd⟩::rest) w :=
  s_step hg rfl ht (fun ev hev=>by have e:=hev _ _ hx;simp [go_sem,e]) k
theorem sfFault0 {B j : Nat} (hg : Gok ops n L gd) (hx : evalL L x = some (.pointer (some ⟨B, j, none⟩))) (ht : Nat.blt t n = true)
    (k:St n ((t,.pointer (some ⟨B,j,none⟩))::L) ops Q rest w):St n L ops Q (⟨some t,.fieldAddr 27 x 0,ty,pos,aft,gd⟩::rest) w :=
  s_step hg rfl ht (fun ev hev=>by have e:=hev _ _ hx;simp [go_sem,e]) k
theorem sfFields0 {B j : Nat} (hg : Gok ops n L gd) (hx : evalL L x = some (.pointer (some ⟨B, j, none⟩))) (ht : Nat.blt t n = true)
    (k:St n ((t,.pointer (some ⟨B,j,none⟩))::L) ops Q rest w):St n L ops Q (⟨some t,.fieldAddr 156 x 0,ty,pos,aft,gd⟩::rest) w :=
  s_step hg rfl ht (fun ev hev=>by have e:=hev _ _ hx;simp [go_sem,e]) k
theorem sfFields1 {B j : Nat} (hg : Gok ops n L gd) (hx : evalL L x = some (.pointer (some ⟨B, j, none⟩))) (ht : Nat.blt t n = true)
    (k:St n ((t,.pointer (some ⟨B,j+1,none⟩))::L) ops Q rest w):St n L ops Q (⟨some t,.fieldAddr 156 x 1,ty,pos,aft,gd⟩::rest) w :=
  s_step hg rfl ht (fun ev hev=>by have e:=hev _ _ hx;simp [go_sem,e]) k
theorem sfFields2 {B j : Nat} (hg : Gok ops n L gd) (hx : evalL L x = some (.pointer (some ⟨B, j, none⟩))) (ht : Nat.blt t n = true)
    (k:St n ((t,.pointer (some ⟨B,j+2,none⟩))::L) ops Q rest w):St n L ops Q (⟨some t,.fieldAddr 156 x 2,ty,pos,aft,gd⟩::rest) w :=
  s_step hg rfl ht (fun ev hev=>by have e:=hev _ _ hx;simp [go_sem,e]) k
theorem sfFields3 {B j : Nat} (hg : Gok ops n L gd) (hx : evalL L x = some (.pointer (some ⟨B, j, none⟩))) (ht : Nat.blt t n = true)
    (k:St n ((t,.pointer (some ⟨B,j+3,none⟩))::L) ops Q rest w):St n L ops Q (⟨some t,.fieldAddr 156 x 3,ty,pos,aft,gd⟩::rest) w :=
  s_step hg rfl ht (fun ev hev=>by have e:=hev _ _ hx;simp [go_sem,e]) k
theorem sfFields4 {B j : Nat} (hg : Gok ops n L gd) (hx : evalL L x = some (.pointer (some ⟨B, j, none⟩))) (ht : Nat.blt t n = true)
    (k:St n ((t,.pointer (some ⟨B,j+4,none⟩))::L) ops Q rest w):St n L ops Q (⟨some t,.fieldAddr 156 x 4,ty,pos,aft,gd⟩::rest) w :=
  s_step hg rfl ht (fun ev hev=>by have e:=hev _ _ hx;simp [go_sem,e]) k
theorem sfFields5 {B j : Nat} (hg : Gok ops n L gd) (hx : evalL L x = some (.pointer (some ⟨B, j, none⟩))) (ht : Nat.blt t n = true)
    (k:St n ((t,.pointer (some ⟨B,j+5,none⟩))::L) ops Q rest w):St n L ops Q (⟨some t,.fieldAddr 156 x 5,ty,pos,aft,gd⟩::rest) w :=
  s_step hg rfl ht (fun ev hev=>by have e:=hev _ _ hx;simp [go_sem,e]) k
theorem sfFields6 {B j : Nat} (hg : Gok ops n L gd) (hx : evalL L x = some (.pointer (some ⟨B, j, none⟩))) (ht : Nat.blt t n = true)
    (k:St n ((t,.pointer (some ⟨B,j+6,none⟩))::L) ops Q rest w):St n L ops Q (⟨some t,.fieldAddr 156 x 6,ty,pos,aft,gd⟩::rest) w :=
  s_step hg rfl ht (fun ev hev=>by have e:=hev _ _ hx;simp [go_sem,e]) k
theorem sffuncLook1 {B j : Nat} (hg : Gok ops n L gd) (hx : evalL L x = some (.pointer (some ⟨B, j, none⟩))) (ht : Nat.blt t n = true)
    (k:St n ((t,.pointer (some ⟨B,j+1,none⟩))::L) ops Q rest w):St n L ops Q (⟨some t,.fieldAddr 106 x 1,ty,pos,aft,gd⟩::rest) w :=
  s_step hg rfl ht (fun ev hev=>by have e:=hev _ _ hx;simp [go_sem,e]) k
theorem sffuncLook2 {B j : Nat} (hg : Gok ops n L gd) (hx : evalL L x = some (.pointer (some ⟨B, j, none⟩))) (ht : Nat.blt t n = true)
    (k:St n ((t,.pointer (some ⟨B,j+5,none⟩))::L) ops Q rest w):St n L ops Q (⟨some t,.fieldAddr 106 x 2,ty,pos,aft,gd⟩::rest) w :=
  s_step hg rfl ht (fun ev hev=>by have e:=hev _ _ hx;simp [go_sem,e]) k
theorem sfblockLook0 {B j : Nat} (hg : Gok ops n L gd) (hx : evalL L x = some (.pointer (some ⟨B, j, none⟩))) (ht : Nat.blt t n = true)
    (k:St n ((t,.pointer (some ⟨B,j,none⟩))::L) ops Q rest w):St n L ops Q (⟨some t,.fieldAddr 148 x 0,ty,pos,aft,gd⟩::rest) w :=
  s_step hg rfl ht (fun ev hev=>by have e:=hev _ _ hx;simp [go_sem,e]) k
theorem sfblockLook1 {B j : Nat} (hg : Gok ops n L gd) (hx : evalL L x = some (.pointer (some ⟨B, j, none⟩))) (ht : Nat.blt t n = true)
    (k:St n ((t,.pointer (some ⟨B,j+6,none⟩))::L) ops Q rest w):St n L ops Q (⟨some t,.fieldAddr 148 x 1,ty,pos,aft,gd⟩::rest) w :=
  s_step hg rfl ht (fun ev hev=>by have e:=hev _ _ hx;simp [go_sem,e]) k
theorem sfblockLook2 {B j : Nat} (hg : Gok ops n L gd) (hx : evalL L x = some (.pointer (some ⟨B, j, none⟩))) (ht : Nat.blt t n = true)
    (k:St n ((t,.pointer (some ⟨B,j+18,none⟩))::L) ops Q rest w):St n L ops Q (⟨some t,.fieldAddr 148 x 2,ty,pos,aft,gd⟩::rest) w :=
  s_step hg rfl ht (fun ev hev=>by have e:=hev _ _ hx;simp [go_sem,e]) k
theorem scInt {B j : Nat} (hc : w.cell? ⟨B, j, none⟩ = some v) (hg : Gok ops n L gd) (hx : evalL L x = some (.pointer (some ⟨B, j, none⟩))) (ht : Nat.blt t n = true)
    (k:St n ((t,v)::L) ops Q rest w):St n L ops Q (⟨some t,.load 3 x,ty,pos,aft,gd⟩::rest) w :=
  s_step hg rfl ht (fun ev hev=>by have e:=hev _ _ hx;simp [go_sem,e,hc]) k
theorem sbInt (i : Nat) {B j : Nat} {c : Array Value} {bt : TypeId} (hW : Wd w0 w Bs) (hg : Gok ops n L gd) (hx : evalL L x = some (.pointer (some ⟨B, j, none⟩))) (hb : Bs[i]? = some (B, c, bt)) (hc : c[j]? = some v) (ht : Nat.blt t n = true)
    (k:St n ((t,v)::L) ops Q rest w):St n L ops Q (⟨some t,.load 3 x,ty,pos,aft,gd⟩::rest) w:=scInt (cellOf (hW.get i hb) j v hc) hg hx ht k
theorem scInt6 {B j : Nat} (hc : w.cell? ⟨B, j, none⟩ = some v) (hg : Gok ops n L gd) (hx : evalL L x = some (.pointer (some ⟨B, j, none⟩))) (ht : Nat.blt t n = true)
    (k:St n ((t,v)::L) ops Q rest w):St n L ops Q (⟨some t,.load 2 x,ty,pos,aft,gd⟩::rest) w :=
  s_step hg rfl ht (fun ev hev=>by have e:=hev _ _ hx;simp [go_sem,e,hc]) k
theorem sbInt6 (i : Nat) {B j : Nat} {c : Array Value} {bt : TypeId} (hW : Wd w0 w Bs) (hg : Gok ops n L gd) (hx : evalL L x = some (.pointer (some ⟨B, j, none⟩))) (hb : Bs[i]? = some (B, c, bt)) (hc : c[j]? = some v) (ht : Nat.blt t n = true)
    (k:St n ((t,v)::L) ops Q rest w):St n L ops Q (⟨some t,.load 2 x,ty,pos,aft,gd⟩::rest) w:=scInt6 (cellOf (hW.get i hb) j v hc) hg hx ht k
theorem scBool {B j : Nat} (hc : w.cell? ⟨B, j, none⟩ = some v) (hg : Gok ops n L gd) (hx : evalL L x = some (.pointer (some ⟨B, j, none⟩))) (ht : Nat.blt t n = true)
    (k:St n ((t,v)::L) ops Q rest w):St n L ops Q (⟨some t,.load 4 x,ty,pos,aft,gd⟩::rest) w :=
  s_step hg rfl ht (fun ev hev=>by have e:=hev _ _ hx;simp [go_sem,e,hc]) k
theorem sbBool (i : Nat) {B j : Nat} {c : Array Value} {bt : TypeId} (hW : Wd w0 w Bs) (hg : Gok ops n L gd) (hx : evalL L x = some (.pointer (some ⟨B, j, none⟩))) (hb : Bs[i]? = some (B, c, bt)) (hc : c[j]? = some v) (ht : Nat.blt t n = true)
    (k:St n ((t,v)::L) ops Q rest w):St n L ops Q (⟨some t,.load 4 x,ty,pos,aft,gd⟩::rest) w:=scBool (cellOf (hW.get i hb) j v hc) hg hx ht k
theorem scInts {B j : Nat} (hc : w.cell? ⟨B, j, none⟩ = some v) (hg : Gok ops n L gd) (hx : evalL L x = some (.pointer (some ⟨B, j, none⟩))) (ht : Nat.blt t n = true)
    (k:St n ((t,v)::L) ops Q rest w):St n L ops Q (⟨some t,.load 43 x,ty,pos,aft,gd⟩::rest) w :=
  s_step hg rfl ht (fun ev hev=>by have e:=hev _ _ hx;simp [go_sem,e,hc]) k
theorem sbInts (i : Nat) {B j : Nat} {c : Array Value} {bt : TypeId} (hW : Wd w0 w Bs) (hg : Gok ops n L gd) (hx : evalL L x = some (.pointer (some ⟨B, j, none⟩))) (hb : Bs[i]? = some (B, c, bt)) (hc : c[j]? = some v) (ht : Nat.blt t n = true)
    (k:St n ((t,v)::L) ops Q rest w):St n L ops Q (⟨some t,.load 43 x,ty,pos,aft,gd⟩::rest) w:=scInts (cellOf (hW.get i hb) j v hc) hg hx ht k
theorem scTypes {B j : Nat} (hc : w.cell? ⟨B, j, none⟩ = some v) (hg : Gok ops n L gd) (hx : evalL L x = some (.pointer (some ⟨B, j, none⟩))) (ht : Nat.blt t n = true)
    (k:St n ((t,v)::L) ops Q rest w):St n L ops Q (⟨some t,.load 39 x,ty,pos,aft,gd⟩::rest) w :=
  s_step hg rfl ht (fun ev hev=>by have e:=hev _ _ hx;simp [go_sem,e,hc]) k
theorem sbTypes (i : Nat) {B j : Nat} {c : Array Value} {bt : TypeId} (hW : Wd w0 w Bs) (hg : Gok ops n L gd) (hx : evalL L x = some (.pointer (some ⟨B, j, none⟩))) (hb : Bs[i]? = some (B, c, bt)) (hc : c[j]? = some v) (ht : Nat.blt t n = true)
    (k:St n ((t,v)::L) ops Q rest w):St n L ops Q (⟨some t,.load 39 x,ty,pos,aft,gd⟩::rest) w:=scTypes (cellOf (hW.get i hb) j v hc) hg hx ht k
theorem scInss {B j : Nat} (hc : w.cell? ⟨B, j, none⟩ = some v) (hg : Gok ops n L gd) (hx : evalL L x = some (.pointer (some ⟨B, j, none⟩))) (ht : Nat.blt t n = true)
    (k:St n ((t,v)::L) ops Q rest w):St n L ops Q (⟨some t,.load 46 x,ty,pos,aft,gd⟩::rest) w :=
  s_step hg rfl ht (fun ev hev=>by have e:=hev _ _ hx;simp [go_sem,e,hc]) k
theorem sbInss (i : Nat) {B j : Nat} {c : Array Value} {bt : TypeId} (hW : Wd w0 w Bs) (hg : Gok ops n L gd) (hx : evalL L x = some (.pointer (some ⟨B, j, none⟩))) (hb : Bs[i]? = some (B, c, bt)) (hc : c[j]? = some v) (ht : Nat.blt t n = true)
    (k:St n ((t,v)::L) ops Q rest w):St n L ops Q (⟨some t,.load 46 x,ty,pos,aft,gd⟩::rest) w:=scInss (cellOf (hW.get i hb) j v hc) hg hx ht k
theorem scBlocks {B j : Nat} (hc : w.cell? ⟨B, j, none⟩ = some v) (hg : Gok ops n L gd) (hx : evalL L x = some (.pointer (some ⟨B, j, none⟩))) (ht : Nat.blt t n = true)
    (k:St n ((t,v)::L) ops Q rest w):St n L ops Q (⟨some t,.load 40 x,ty,pos,aft,gd⟩::rest) w :=
  s_step hg rfl ht (fun ev hev=>by have e:=hev _ _ hx;simp [go_sem,e,hc]) k
theorem sbBlocks (i : Nat) {B j : Nat} {c : Array Value} {bt : TypeId} (hW : Wd w0 w Bs) (hg : Gok ops n L gd) (hx : evalL L x = some (.pointer (some ⟨B, j, none⟩))) (hb : Bs[i]? = some (B, c, bt)) (hc : c[j]? = some v) (ht : Nat.blt t n = true)
    (k:St n ((t,v)::L) ops Q rest w):St n L ops Q (⟨some t,.load 40 x,ty,pos,aft,gd⟩::rest) w:=scBlocks (cellOf (hW.get i hb) j v hc) hg hx ht k
theorem scFuncs {B j : Nat} (hc : w.cell? ⟨B, j, none⟩ = some v) (hg : Gok ops n L gd) (hx : evalL L x = some (.pointer (some ⟨B, j, none⟩))) (ht : Nat.blt t n = true)
    (k:St n ((t,v)::L) ops Q rest w):St n L ops Q (⟨some t,.load 23 x,ty,pos,aft,gd⟩::rest) w :=
  s_step hg rfl ht (fun ev hev=>by have e:=hev _ _ hx;simp [go_sem,e,hc]) k
theorem sbFuncs (i : Nat) {B j : Nat} {c : Array Value} {bt : TypeId} (hW : Wd w0 w Bs) (hg : Gok ops n L gd) (hx : evalL L x = some (.pointer (some ⟨B, j, none⟩))) (hb : Bs[i]? = some (B, c, bt)) (hc : c[j]? = some v) (ht : Nat.blt t n = true)
    (k:St n ((t,v)::L) ops Q rest w):St n L ops Q (⟨some t,.load 23 x,ty,pos,aft,gd⟩::rest) w:=scFuncs (cellOf (hW.get i hb) j v hc) hg hx ht k
theorem rangeOf {w : World} {B : Nat} {c : Array Value} {t : TypeId} (h : Blk w B c t) (j m : Nat) (hn : Nat.ble (j + m) c.size = true) : w.rangeAt B j ((c.toList.drop j).take m) := fun k v hk => by
  have hlt:k<((c.toList.drop j).take m).length:=(List.getElem?_eq_some_iff.1 hk).1;have hm:k<m:=by simp at hlt;omega
  rw [List.getElem?_take,if_pos hm,List.getElem?_drop] at hk;exact cellOf h (j+k) v (by simpa using hk)
theorem thereOf {w : World} {B : Nat} {c : Array Value} {t : TypeId} (h : Blk w B c t) (j n : Nat) (hn : j + n ≤ c.size) : w.there B j n := fun k hk =>
  ⟨by rw [cellOf h (j+k) c[j+k] (by simp [show j+k<c.size by omega])];rfl,freeOf h (j+k)⟩
theorem rangeAt_bel {w w' : World} {B j : Nat} {cs : List Value} (h : w.rangeAt B j cs) (b : Below w.heap.size w w') : w'.rangeAt B j cs := fun k v hk => bel_cell b (h k v hk)
theorem sSE {d : TypeDesc} {B j : Nat} {cs : List Value} (hu : Tryz.prog.underlying ty2 = some d) (hd : d.isRow = true) (hr : w.rangeAt B j cs) (hi : (Tryz.prog.info? ty2).map (·.size) = some cs.length) (hg : Gok ops n L gd) (hx : evalL L x = some (.pointer (some ⟨B, j, none⟩))) (ht : Nat.blt t n = true)
    (k:St n ((t,.agg cs.toArray)::L) ops Q rest w):St n L ops Q (⟨some t,.load ty2 x,ty,pos,aft,gd⟩::rest) w :=
  s_step hg rfl ht (fun ev hev=>by
    have e:=hev _ _ hx;have e2:=run_loadAt_mid (P:=Tryz.prog) w B j ty2 cs d hr hu hd hi;unfold execOp;simp only [e,Sem.run_bind,e2,Result.andThen_ok,Sem.run_pure]) k
theorem sS {d : TypeDesc} (i m : Nat) {B j : Nat} {c : Array Value} {bt : TypeId} (hu : Tryz.prog.underlying ty2 = some d) (hd : d.isRow = true) (hi : (Tryz.prog.info? ty2).map (·.size) = some m) (hW : Wd w0 w Bs) (hg : Gok ops n L gd) (hx : evalL L x = some (.pointer (some ⟨B, j, none⟩))) (hb : Bs[i]? = some (B, c, bt)) (hn : Nat.ble (j + m) c.size = true) (ht : Nat.blt t n = true)
    (k:St n ((t,.agg ((c.toList.drop j).take m).toArray)::L) ops Q rest w):St n L ops Q (⟨some t,.load ty2 x,ty,pos,aft,gd⟩::rest) w :=
  sSE hu hd (rangeOf (hW.get i hb) j m hn) (by rw [hi];have:j+m≤c.size:=by simpa [Nat.ble_eq] using hn
                                               simp;omega) hg hx ht k
theorem s_new {o : Oper} (c : Array Value) (bt : TypeId) (hW : Wd w0 w Bs) (hd : o.dst = some t) (hg : Gok ops n L o.guard) (ht : Nat.blt t n = true)
    (h:∀ ev:Operand→Value,(∀ x v,evalL L x=some v→ev x=v)→(execOp ev o).run Tryz.prog w=.ok (.value (.pointer (some ⟨w.heap.size,0,none⟩))) (w.alloc (.cells c bt)))
    (k:∀ w' B,Wd w0 w' ((B,c,bt)::Bs)→New w w' B→St n ((t,.pointer (some ⟨B,0,none⟩))::L) ops Q rest w'):St n L ops Q (o::rest) w:=fun a hF =>
  wpList_step fun K hK=>by
    rw [if_pos (hg.on hF)];unfold Oper.wp;rw [h a.eval (fun x v e=>hF.ev e),Oper.upon_value,hd];exact hK _ _ (k _ _ (hW.new' c bt) ⟨bel1 w _,rfl,by simp⟩ _ (hF.put ht))
theorem sB {cs : Array Value} (hW : Wd w0 w Bs) (hg : Gok ops n L gd) (hx : evalL L x = some (.agg cs)) (ht : Nat.blt t n = true)
    (k:∀ w' B,Wd w0 w' ((B,cs,ty2)::Bs)→New w w' B→St n ((t,.pointer (some ⟨B,0,none⟩))::L) ops Q rest w'):St n L ops Q (⟨some t,.box ty2 x,ty,pos,aft,gd⟩::rest) w :=
  s_new cs ty2 hW rfl hg ht (fun ev hev=>by have e:=hev _ _ hx;simp [go_sem,e]) k
theorem sAType (hW : Wd w0 w Bs) (hg : Gok ops n L gd) (ht : Nat.blt t n = true)
    (k:∀ w' B,Wd w0 w' ((B,#[.int .i64 0,.int .i64 0,.slice none 0 0],78)::Bs)→New w w' B→St n ((t,.pointer (some ⟨B,0,none⟩))::L) ops Q rest w'):St n L ops Q (⟨some t,.alloc 78,ty,pos,aft,gd⟩::rest) w :=
  s_new #[.int .i64 0,.int .i64 0,.slice none 0 0] 78 hW rfl hg ht (fun ev hev=>by simp [go_sem]) k
theorem sAIns (hW : Wd w0 w Bs) (hg : Gok ops n L gd) (ht : Nat.blt t n = true)
    (k:∀ w' B,Wd w0 w' ((B,#[.int .i64 0,.int .i64 0,.int .i64 0,.int .i64 0,.int .i64 0,.int .i64 0,.slice none 0 0,.slice none 0 0],45)::Bs)→New w w' B→St n ((t,.pointer (some ⟨B,0,none⟩))::L) ops Q rest w'):St n L ops Q (⟨some t,.alloc 45,ty,pos,aft,gd⟩::rest) w :=
  s_new #[.int .i64 0,.int .i64 0,.int .i64 0,.int .i64 0,.int .i64 0,.int .i64 0,.slice none 0 0,.slice none 0 0] 45 hW rfl hg ht (fun ev hev=>by simp [go_sem]) k
theorem sATo (hW : Wd w0 w Bs) (hg : Gok ops n L gd) (ht : Nat.blt t n = true)
    (k:∀ w' B,Wd w0 w' ((B,#[.int .i64 0,.slice none 0 0,.slice none 0 0],48)::Bs)→New w w' B→St n ((t,.pointer (some ⟨B,0,none⟩))::L) ops Q rest w'):St n L ops Q (⟨some t,.alloc 48,ty,pos,aft,gd⟩::rest) w :=
  s_new #[.int .i64 0,.slice none 0 0,.slice none 0 0] 48 hW rfl hg ht (fun ev hev=>by simp [go_sem]) k
theorem sABlock (hW : Wd w0 w Bs) (hg : Gok ops n L gd) (ht : Nat.blt t n = true)
    (k:∀ w' B,Wd w0 w' ((B,#[.int .i64 0,.slice none 0 0,.slice none 0 0,.int .i64 0,.int .i64 0,.int .i64 0,.slice none 0 0,.slice none 0 0,.int .i64 0,.slice none 0 0,.slice none 0 0,.slice none 0 0],52)::Bs)→New w w' B→St n ((t,.pointer (some ⟨B,0,none⟩))::L) ops Q rest w'):St n L ops Q (⟨some t,.alloc 52,ty,pos,aft,gd⟩::rest) w :=
  s_new #[.int .i64 0,.slice none 0 0,.slice none 0 0,.int .i64 0,.int .i64 0,.int .i64 0,.slice none 0 0,.slice none 0 0,.int .i64 0,.slice none 0 0,.slice none 0 0,.slice none 0 0] 52 hW rfl hg ht (fun ev hev=>by simp [go_sem]) k
theorem sAFunc (hW : Wd w0 w Bs) (hg : Gok ops n L gd) (ht : Nat.blt t n = true)
    (k:∀ w' B,Wd w0 w' ((B,#[.int .i64 0,.slice none 0 0,.slice none 0 0,.slice none 0 0],42)::Bs)→New w w' B→St n ((t,.pointer (some ⟨B,0,none⟩))::L) ops Q rest w'):St n L ops Q (⟨some t,.alloc 42,ty,pos,aft,gd⟩::rest) w :=
  s_new #[.int .i64 0,.slice none 0 0,.slice none 0 0,.slice none 0 0] 42 hW rfl hg ht (fun ev hev=>by simp [go_sem]) k
theorem sAModule (hW : Wd w0 w Bs) (hg : Gok ops n L gd) (ht : Nat.blt t n = true)
    (k:∀ w' B,Wd w0 w' ((B,#[.slice none 0 0],25)::Bs)→New w w' B→St n ((t,.pointer (some ⟨B,0,none⟩))::L) ops Q rest w'):St n L ops Q (⟨some t,.alloc 25,ty,pos,aft,gd⟩::rest) w :=
  s_new #[.slice none 0 0] 25 hW rfl hg ht (fun ev hev=>by simp [go_sem]) k
theorem sAFault (hW : Wd w0 w Bs) (hg : Gok ops n L gd) (ht : Nat.blt t n = true)
    (k:∀ w' B,Wd w0 w' ((B,#[.int .i64 0,.int .i64 0],27)::Bs)→New w w' B→St n ((t,.pointer (some ⟨B,0,none⟩))::L) ops Q rest w'):St n L ops Q (⟨some t,.alloc 27,ty,pos,aft,gd⟩::rest) w :=
  s_new #[.int .i64 0,.int .i64 0] 27 hW rfl hg ht (fun ev hev=>by simp [go_sem]) k
theorem sAFields (hW : Wd w0 w Bs) (hg : Gok ops n L gd) (ht : Nat.blt t n = true)
    (k:∀ w' B,Wd w0 w' ((B,#[.bool false,.bool false,.bool false,.bool false,.bool false,.bool false,.bool false],156)::Bs)→New w w' B→St n ((t,.pointer (some ⟨B,0,none⟩))::L) ops Q rest w'):St n L ops Q (⟨some t,.alloc 156,ty,pos,aft,gd⟩::rest) w :=
  s_new #[.bool false,.bool false,.bool false,.bool false,.bool false,.bool false,.bool false] 156 hW rfl hg ht (fun ev hev=>by simp [go_sem]) k
theorem sT (i : Nat) {B j : Nat} {c : Array Value} {bt : TypeId} {cells : List Value} (hW : Wd w0 w Bs)
    (hx:evalL L x=some (.pointer (some ⟨B,j,none⟩))) (hy:evalL L y=some (.agg cells.toArray)) (hi:(Tryz.prog.info? ty2).map (·.size)=some cells.length) (h1:cells.all (·.oneCell')=true)
    (hb:Bs[i]?=some (B,c,bt)) (hs:Nat.ble (j+cells.length) c.size=true)
    (k:∀ w',Wd w0 w' (Bs.set i (B,spliced c j cells,bt))→St n L ops Q rest w'):St n L ops Q (⟨none,.store ty2 x y,ty,pos,aft,none⟩::rest) w:=fun a hF=>by
  have hn:j+cells.length≤c.size:=by simpa [Nat.ble_eq] using hs
  refine fr_set hF (hW.setAt i hb j cells hs rfl rfl) rfl rfl (fun K hK=>?_) (fun w' hW'=>k w' hW' a hF);have e:=hF.ev hx;have e2:=hF.ev hy
  have:=run_storeAt_mid (P:=Tryz.prog) w B j ty2 cells.toArray (by simpa using thereOf (hW.get i hb) j cells.length hn) (by simpa using hi) (by simpa using h1)
  unfold Oper.wp execOp;simp only [e,e2,Sem.run_bind,this,Result.andThen_ok,Sem.run_pure];rw [Oper.upon_skip];simpa [Act.put] using hK
theorem s1 (i : Nat) {B j : Nat} {c : Array Value} {bt : TypeId} (hi : (Tryz.prog.info? ty2).map (·.size) = some 1) (hW : Wd w0 w Bs)
    (hx:evalL L x=some (.pointer (some ⟨B,j,none⟩))) (hy:evalL L y=some v) (hv:v.cells=#[v]) (h1:v.oneCell'=true)
    (hb:Bs[i]?=some (B,c,bt)) (hs:Nat.ble (j+1) c.size=true)
    (k:∀ w',Wd w0 w' (Bs.set i (B,spliced c j [v],bt))→St n L ops Q rest w'):St n L ops Q (⟨none,.store ty2 x y,ty,pos,aft,none⟩::rest) w:=fun a hF=>by
  have hn:j+1≤c.size:=by simpa [Nat.ble_eq] using hs
  refine fr_set hF (hW.setAt i hb j [v] hs rfl rfl) rfl rfl (fun K hK=>?_) (fun w' hW'=>k w' hW' a hF);have e:=hF.ev hx;have e2:=hF.ev hy;have ht:=thereOf (hW.get i hb) j 1 hn;have h2:=run_storeCells_cells (P:=Tryz.prog) B j [v] 0 w (fun k hk=>by simpa using (ht k (by simpa using hk)).1) (fun k hk=>by simpa using (ht k (by simpa using hk)).2) (fun u hu=>by simp at hu;subst hu;exact h1)
  have h3:(Instr.storeAt ty2 (.pointer (some ⟨B,j,none⟩)) v).run Tryz.prog w=.ok () (w.setCells B j [v]):=by
    cases hq:Tryz.prog.info? ty2 with
    | none=>simp [hq] at hi
    | some q =>
      have hs1:q.size=1:=by simpa [hq] using hi
      simp only [Nat.add_zero] at h2;simp [Instr.storeAt,Instr.sureAddr,storeVar,sizeOf,typeInfo,hq,hv,hs1,h2]
  unfold Oper.wp execOp;simp only [e,e2,Sem.run_bind,h3,Result.andThen_ok,Sem.run_pure];rw [Oper.upon_skip];simpa [Act.put] using hK
theorem s_call {o : Oper} {f : FuncId} {args : Array Value} {V : Value} (hW : Wd w0 w Bs) (hg : Gok ops n L o.guard) (hc : Rd Tryz.prog f args w V) (hd : o.dst = some t) (ht : Nat.blt t n = true)
    (h:∀ ev:Operand→Value,(∀ x v,evalL L x=some v→ev x=v)→(execOp ev o).run Tryz.prog w=.ok (.enter f args) w)
    (k:∀ w',Wd w0 w' Bs→St n ((t,V)::L) ops Q rest w'):St n L ops Q (o::rest) w:=fun a hF =>
  wpList_step fun K hK=>by
    rw [if_pos (hg.on hF)];unfold Oper.wp;rw [h a.eval (fun x v e=>hF.ev e),Oper.upon_enter];refine hc.mono ?_;rintro e w9 ⟨rfl,hb⟩;rw [hd];exact hK _ _ (k _ (hW.below hb) _ (hF.put ht))
def CF (f : FuncId) : Prop := ∀ (args : Array Value) (w : World), (callFunc f args).run Tryz.prog w = .ok (.enter f args) w
theorem cf_of {f : FuncId} {fn : Func} (hf : Tryz.prog.funcs[f]? = some fn) (h1 : (fn.name == "runtime.NumGoroutine") = false) (h2 : fn.body.isNone = false) : CF f := fun args w => by
  have h3 : ¬ fn.name = "runtime.NumGoroutine" := by simpa using h1
  have h4:¬ fn.body=none:=by intro h;rw [h] at h2;cases h2
  simp [callFunc,hf,h3,h4]
theorem sc_1 {f : FuncId} {ts : Array TypeId} {x0 : Operand} {v0 : Value} {V : Value} (hcf : CF f) (hW : Wd w0 w Bs) (hc : Rd Tryz.prog f #[v0] w V) (hg : Gok ops n L gd) (h0 : evalL L x0 = some v0) (ht : Nat.blt t n = true)
    (k:∀ w',Wd w0 w' Bs→St n ((t,V)::L) ops Q rest w'):St n L ops Q (⟨some t,.call { callee:=.value (.func f),args:=#[x0],argTypes:=ts },ty,pos,aft,gd⟩::rest) w :=
  s_call hW hg hc rfl ht (fun ev hev=>by have e0:=hev _ _ h0;have ef:=hev (.func f) _ rfl;have ec:=hcf;unfold CF at ec;simp [go_sem,ef,ec,e0]) k
theorem sc_2 {f : FuncId} {ts : Array TypeId} {x0 x1 : Operand} {v0 v1 : Value} {V : Value} (hcf : CF f) (hW : Wd w0 w Bs) (hc : Rd Tryz.prog f #[v0, v1] w V) (hg : Gok ops n L gd) (h0 : evalL L x0 = some v0) (h1 : evalL L x1 = some v1) (ht : Nat.blt t n = true)
    (k:∀ w',Wd w0 w' Bs→St n ((t,V)::L) ops Q rest w'):St n L ops Q (⟨some t,.call { callee:=.value (.func f),args:=#[x0,x1],argTypes:=ts },ty,pos,aft,gd⟩::rest) w :=
  s_call hW hg hc rfl ht (fun ev hev=>by have e0:=hev _ _ h0;have e1:=hev _ _ h1;have ef:=hev (.func f) _ rfl;have ec:=hcf;unfold CF at ec;simp [go_sem,ef,ec,e0,e1]) k
theorem sc_3 {f : FuncId} {ts : Array TypeId} {x0 x1 x2 : Operand} {v0 v1 v2 : Value} {V : Value} (hcf : CF f) (hW : Wd w0 w Bs) (hc : Rd Tryz.prog f #[v0, v1, v2] w V) (hg : Gok ops n L gd) (h0 : evalL L x0 = some v0) (h1 : evalL L x1 = some v1) (h2 : evalL L x2 = some v2) (ht : Nat.blt t n = true)
    (k:∀ w',Wd w0 w' Bs→St n ((t,V)::L) ops Q rest w'):St n L ops Q (⟨some t,.call { callee:=.value (.func f),args:=#[x0,x1,x2],argTypes:=ts },ty,pos,aft,gd⟩::rest) w :=
  s_call hW hg hc rfl ht (fun ev hev=>by have e0:=hev _ _ h0;have e1:=hev _ _ h1;have e2:=hev _ _ h2;have ef:=hev (.func f) _ rfl;have ec:=hcf;unfold CF at ec;simp [go_sem,ef,ec,e0,e1,e2]) k
theorem sv_10 {f : FuncId} {ts : Array TypeId} {xf : Operand} {x0 : Operand} {v0 : Value} {V : Value} (hcf : CF f) (hW : Wd w0 w Bs) (hc : Rd Tryz.prog f #[v0] w V) (hg : Gok ops n L gd) (hf : evalL L xf = some (.func (.func f) #[] #[])) (h0 : evalL L x0 = some v0) (ht : Nat.blt t n = true)
    (k:∀ w',Wd w0 w' Bs→St n ((t,V)::L) ops Q rest w'):St n L ops Q (⟨some t,.call { callee:=.value xf,args:=#[x0],argTypes:=ts },ty,pos,aft,gd⟩::rest) w :=
  s_call hW hg hc rfl ht (fun ev hev=>by have e0:=hev _ _ h0;have ef:=hev _ _ hf;have ec:=hcf;unfold CF at ec;simp [go_sem,ef,ec,e0]) k
theorem sv_21 {f : FuncId} {ts : Array TypeId} {xf : Operand} {x0 x1 : Operand} {v0 v1 cp : Value} {V : Value} (hcf : CF f) (hW : Wd w0 w Bs) (hc : Rd Tryz.prog f #[v0, v1, cp] w V) (hg : Gok ops n L gd) (hf : evalL L xf = some (.func (.func f) #[] #[cp])) (h0 : evalL L x0 = some v0) (h1 : evalL L x1 = some v1) (ht : Nat.blt t n = true)
    (k:∀ w',Wd w0 w' Bs→St n ((t,V)::L) ops Q rest w'):St n L ops Q (⟨some t,.call { callee:=.value xf,args:=#[x0,x1],argTypes:=ts },ty,pos,aft,gd⟩::rest) w :=
  s_call hW hg hc rfl ht (fun ev hev=>by have e0:=hev _ _ h0;have e1:=hev _ _ h1;have ef:=hev _ _ hf;have ec:=hcf;unfold CF at ec;simp [go_sem,ef,ec,e0,e1]) k
theorem cf76 : CF 76 := cf_of Tryz.func76 (by kernel_rfl) (by kernel_rfl)
theorem cf106 : CF 106 := cf_of Tryz.func106 (by kernel_rfl) (by kernel_rfl)
theorem cf37 : CF 37 := cf_of Tryz.func37 (by kernel_rfl) (by kernel_rfl)
theorem cf137 : CF 137 := cf_of Tryz.func137 (by kernel_rfl) (by kernel_rfl)
theorem cf73 : CF 73 := cf_of Tryz.func73 (by kernel_rfl) (by kernel_rfl)
theorem cf77 : CF 77 := cf_of Tryz.func77 (by kernel_rfl) (by kernel_rfl)
theorem cf75 : CF 75 := cf_of Tryz.func75 (by kernel_rfl) (by kernel_rfl)
theorem cf71 : CF 71 := cf_of Tryz.func71 (by kernel_rfl) (by kernel_rfl)
theorem cf41 : CF 41 := cf_of Tryz.func41 (by kernel_rfl) (by kernel_rfl)
theorem cf54 : CF 54 := cf_of Tryz.func54 (by kernel_rfl) (by kernel_rfl)
theorem cf55 : CF 55 := cf_of Tryz.func55 (by kernel_rfl) (by kernel_rfl)
theorem cf56 : CF 56 := cf_of Tryz.func56 (by kernel_rfl) (by kernel_rfl)
theorem cf36 : CF 36 := cf_of Tryz.func36 (by kernel_rfl) (by kernel_rfl)
theorem cf38 : CF 38 := cf_of Tryz.func38 (by kernel_rfl) (by kernel_rfl)
theorem cf39 : CF 39 := cf_of Tryz.func39 (by kernel_rfl) (by kernel_rfl)
theorem cf33 : CF 33 := cf_of Tryz.func33 (by kernel_rfl) (by kernel_rfl)
theorem cf114 : CF 114 := cf_of Tryz.func114 (by kernel_rfl) (by kernel_rfl)
theorem cf115 : CF 115 := cf_of Tryz.func115 (by kernel_rfl) (by kernel_rfl)
theorem cf78 : CF 78 := cf_of Tryz.func78 (by kernel_rfl) (by kernel_rfl)
theorem cf104 : CF 104 := cf_of Tryz.func104 (by kernel_rfl) (by kernel_rfl)
theorem cf105 : CF 105 := cf_of Tryz.func105 (by kernel_rfl) (by kernel_rfl)
theorem cf107 : CF 107 := cf_of Tryz.func107 (by kernel_rfl) (by kernel_rfl)
theorem cf108 : CF 108 := cf_of Tryz.func108 (by kernel_rfl) (by kernel_rfl)
theorem cf109 : CF 109 := cf_of Tryz.func109 (by kernel_rfl) (by kernel_rfl)
theorem cf72 : CF 72 := cf_of Tryz.func72 (by kernel_rfl) (by kernel_rfl)
theorem cf70 : CF 70 := cf_of Tryz.func70 (by kernel_rfl) (by kernel_rfl)
theorem cf206 : CF 206 := cf_of Tryz.func206 (by kernel_rfl) (by kernel_rfl)
theorem cf134 : CF 134 := cf_of Tryz.func134 (by kernel_rfl) (by kernel_rfl)
theorem cf135 : CF 135 := cf_of Tryz.func135 (by kernel_rfl) (by kernel_rfl)
theorem cf136 : CF 136 := cf_of Tryz.func136 (by kernel_rfl) (by kernel_rfl)
theorem cf138 : CF 138 := cf_of Tryz.func138 (by kernel_rfl) (by kernel_rfl)
theorem cf139 : CF 139 := cf_of Tryz.func139 (by kernel_rfl) (by kernel_rfl)
theorem cf171 : CF 171 := cf_of Tryz.func171 (by kernel_rfl) (by kernel_rfl)
theorem cf172 : CF 172 := cf_of Tryz.func172 (by kernel_rfl) (by kernel_rfl)
theorem cf173 : CF 173 := cf_of Tryz.func173 (by kernel_rfl) (by kernel_rfl)
theorem cf174 : CF 174 := cf_of Tryz.func174 (by kernel_rfl) (by kernel_rfl)
theorem cf205 : CF 205 := cf_of Tryz.func205 (by kernel_rfl) (by kernel_rfl)
theorem infType : (Tryz.prog.info? 78).map (·.size) = some 3 := by kernel_rfl
theorem infIns : (Tryz.prog.info? 45).map (·.size) = some 8 := by kernel_rfl
theorem infTo : (Tryz.prog.info? 48).map (·.size) = some 3 := by kernel_rfl
theorem infEnd : (Tryz.prog.info? 50).map (·.size) = some 9 := by kernel_rfl
theorem infBlock : (Tryz.prog.info? 52).map (·.size) = some 12 := by kernel_rfl
theorem infFunc : (Tryz.prog.info? 42).map (·.size) = some 4 := by kernel_rfl
theorem infModule : (Tryz.prog.info? 25).map (·.size) = some 1 := by kernel_rfl
theorem infFault : (Tryz.prog.info? 27).map (·.size) = some 2 := by kernel_rfl
theorem infFields : (Tryz.prog.info? 156).map (·.size) = some 7 := by kernel_rfl
theorem inffuncLook : (Tryz.prog.info? 106).map (·.size) = some 6 := by kernel_rfl
theorem infblockLook : (Tryz.prog.info? 148).map (·.size) = some 19 := by kernel_rfl
theorem inf1Ints : (Tryz.prog.info? 43).map (·.size) = some 1 := by kernel_rfl
theorem inf1Inss : (Tryz.prog.info? 46).map (·.size) = some 1 := by kernel_rfl
theorem inf1Blocks : (Tryz.prog.info? 40).map (·.size) = some 1 := by kernel_rfl
theorem inf1Funcs : (Tryz.prog.info? 23).map (·.size) = some 1 := by kernel_rfl
theorem ret_box {fn : Func} {R : Ending → World → Prop} {d : TypeDesc} (i : Nat) {B : Nat} {c : Array Value} {bt : TypeId} (hF : Fr n a L) (hW : Wd w0 w Bs) (hr : fn.results = #[.cell t ty]) (hv : L.lookup t = some (.pointer (some ⟨B, 0, none⟩))) (hb : Bs[i]? = some (B, c, bt))
    (hu:Tryz.prog.underlying ty=some d) (hd:d.isRow=true) (hi:(Tryz.prog.info? ty).map (·.size)=some c.size) (hR:R (.returned (.agg c)) w):bodyPost Tryz.prog fn R .ret a w:=by
  refine bodyPost_ret ?_ hF.defers hR;have e:=hF.sl2 t _ hv;have e2:=run_loadVar_mid (P:=Tryz.prog) w B 0 ty c.toList d (by have:=rangeOf (hW.get i hb) 0 c.size (by simp [Nat.ble_eq]);rw [List.drop_zero,List.take_of_length_le (by simp)] at this;exact this) hu hd (by simpa using hi);simp only [Array.toArray_toList] at e2;simp [results,hr,e,asAddr,e2]
end
end Go.Proofs.YtalfbnllodhkiacGreatDoor
namespace Go.Proofs.YtalfbnllodhkiacGreatDoor
open Go.ChangeShapes Go.WideShapes Go.ChangeAt Go.RowKit
set_option linter.unusedVariables false
def Keep1 (B : Nat) (w w' : World) : Prop := ∀ k, k ≠ B → w'.heap[k]? = w.heap[k]?
theorem Lay.keep1 {α : Type} {A : Lay α} {w w' : World} {lo B : Nat} {x : α} {cs : List Value} (h : A.In w (fun g => lo ≤ g) x cs) (hk : Keep1 B w w') (hB : B < lo) : A.In w' (fun g => lo ≤ g) x cs :=
  A.keep (fun k hl _=>hk k (by omega)) (fun _ h _=>h) h
theorem keep1_setCells (w : World) (B j : Nat) (vs : List Value) : Keep1 B w (w.setCells B j vs) := fun k hk => setCells_other hk vs j w
section
variable {n : Nat} {a : Act} {L : List (Tmp × Value)} {w0 w : World} {Bs : List (Nat × Array Value × TypeId)} {Q : Exit → Act → World → Prop} {ops : Array Oper} {rest : List Oper} {t : Tmp} {u v : Value} {ty ty2 ty3 : TypeId} {pos : String} {aft : Array Edge} {gd : Option (Nat × Bool)} {x y : Operand}
theorem sTk (i : Nat) {B j : Nat} {c : Array Value} {bt : TypeId} {cells : List Value} (hW : Wd w0 w Bs)
    (hx:evalL L x=some (.pointer (some ⟨B,j,none⟩))) (hy:evalL L y=some (.agg cells.toArray)) (hi:(Tryz.prog.info? ty2).map (·.size)=some cells.length) (h1:cells.all (·.oneCell')=true)
    (hb:Bs[i]?=some (B,c,bt)) (hs:Nat.ble (j+cells.length) c.size=true)
    (k:∀ w',Keep1 B w w'→Wd w0 w' (Bs.set i (B,spliced c j cells,bt))→St n L ops Q rest w'):St n L ops Q (⟨none,.store ty2 x y,ty,pos,aft,none⟩::rest) w:=fun a hF=>by
  have hn:j+cells.length≤c.size:=by simpa [Nat.ble_eq] using hs
  refine fr_skip hF rfl rfl (fun K hK=>?_) (k (w.setCells B j cells) (keep1_setCells w B j cells) (hW.setAt i hb j cells hs rfl rfl) a hF);have e:=hF.ev hx;have e2:=hF.ev hy
  have:=run_storeAt_mid (P:=Tryz.prog) w B j ty2 cells.toArray (by simpa using thereOf (hW.get i hb) j cells.length hn) (by simpa using hi) (by simpa using h1)
  unfold Oper.wp execOp;simp only [e,e2,Sem.run_bind,this,Result.andThen_ok,Sem.run_pure];rw [Oper.upon_skip];simpa [Act.put] using hK
theorem s1k (i : Nat) {B j : Nat} {c : Array Value} {bt : TypeId} (hi : (Tryz.prog.info? ty2).map (·.size) = some 1) (hW : Wd w0 w Bs)
    (hx:evalL L x=some (.pointer (some ⟨B,j,none⟩))) (hy:evalL L y=some v) (hv:v.cells=#[v]) (h1:v.oneCell'=true)
    (hb:Bs[i]?=some (B,c,bt)) (hs:Nat.ble (j+1) c.size=true)
    (k:∀ w',Keep1 B w w'→Wd w0 w' (Bs.set i (B,spliced c j [v],bt))→St n L ops Q rest w'):St n L ops Q (⟨none,.store ty2 x y,ty,pos,aft,none⟩::rest) w:=fun a hF=>by
  have hn:j+1≤c.size:=by simpa [Nat.ble_eq] using hs
  refine fr_skip hF rfl rfl (fun K hK=>?_) (k (w.setCells B j [v]) (keep1_setCells w B j [v]) (hW.setAt i hb j [v] hs rfl rfl) a hF);have e:=hF.ev hx;have e2:=hF.ev hy;have ht:=thereOf (hW.get i hb) j 1 hn;have h2:=run_storeCells_cells (P:=Tryz.prog) B j [v] 0 w (fun k hk=>by simpa using (ht k (by simpa using hk)).1) (fun k hk=>by simpa using (ht k (by simpa using hk)).2) (fun u hu=>by simp at hu;subst hu;exact h1)
  have h3:(Instr.storeAt ty2 (.pointer (some ⟨B,j,none⟩)) v).run Tryz.prog w=.ok () (w.setCells B j [v]):=by
    cases hq:Tryz.prog.info? ty2 with
    | none=>simp [hq] at hi
    | some q =>
      have hs1:q.size=1:=by simpa [hq] using hi
      simp only [Nat.add_zero] at h2;simp [Instr.storeAt,Instr.sureAddr,storeVar,sizeOf,typeInfo,hq,hv,hs1,h2]
  unfold Oper.wp execOp;simp only [e,e2,Sem.run_bind,h3,Result.andThen_ok,Sem.run_pure];rw [Oper.upon_skip];simpa [Act.put] using hK
end
end Go.Proofs.YtalfbnllodhkiacGreatDoor
namespace Go.Proofs.YtalfbnllodhkiacGreatDoor
open Go.RowKit
set_option linter.unusedVariables false
theorem blk_setCells {B : Nat} {t : TypeId} : ∀ (vs : List Value) (w : World) (c : Array Value) (j : Nat), Blk w B c t → j + vs.length ≤ c.size → Blk (w.setCells B j vs) B (spliced c j vs) t
  | [],w,c,j,h,hs=>by
    have:spliced c j []=c:=by unfold spliced;simp
    rw [this];exact h
  | v::vs,w,c,j,h,hs=>by
    have:=blk_setCells vs (w.setCell ⟨B,j,none⟩ v) (c.setIfInBounds j v) (j+1) (blockSet h j v) (by simp at hs ⊢;omega)
    rw [spliced_cons _ _ _ _ hs] at this;exact this
theorem below_setCells {B b : Nat} (hb : B ≤ b) : ∀ (vs : List Value) (w w0 : World) (j : Nat), Below B w0 w → Below B w0 (w.setCells b j vs)
  | [],w,w0,j,h=>h
  | v::vs,w,w0,j,h=>below_setCells hb vs _ _ _ (h.setCell hb v)
end Go.Proofs.YtalfbnllodhkiacGreatDoor
namespace Go.Proofs.YtalfbnllodhkiacGreatDoor
open Go.RowKit
set_option linter.unusedSimpArgs false
set_option linter.unusedVariables false
section
variable {P : Program} {Q : Exit → Act → World → Prop}
def Closed (l : List Oper) (S : Nat → Bool) : Prop := ∀ (j : Nat) (o : Oper), l[j]? = some o → S j = true → ∀ e ∈ o.after, Region.binds .any e = true → S e.on = true
def Deps (o : Oper) (S : Nat → Bool) : Prop := ∀ e ∈ o.after, Region.binds .any e = true → S e.on = true
theorem Deps.at {o : Oper} {S : Nat → Bool} (h : Deps o S) (j : Nat) (hw : waits1 o j = true) : S j = true := by
  obtain ⟨e,he,hb,rfl⟩:=waits1_at hw;exact h e he hb
def plus (i : Nat) (S : Nat → Bool) : Nat → Bool := fun j => j == i || S j
def StepsOk (P : Program) (l : List Oper) (I : (Nat → Bool) → Act → World → Prop) : Nat → List Oper → Prop
  | _,[]=>True
  | i,o::r=>(∀ (S:Nat→Bool) (a:Act) (w:World),S i=false→Deps o S→Closed l S→I S a w→∀ K:Act→World→Prop,(∀ a' w',I (plus i S) a' w'→K a' w')→o.wp P a w K (fun _ _ _=>False))∧StepsOk P l I (i+1) r
theorem steps_at {l : List Oper} {I : (Nat → Bool) → Act → World → Prop} : ∀ (r : List Oper) (k i : Nat) (o : Oper), StepsOk P l I k r → r[i]? = some o →
    ∀ (S:Nat→Bool) (a:Act) (w:World),S (k+i)=false→Deps o S→Closed l S→I S a w→∀ K:Act→World→Prop,(∀ a' w',I (plus (k+i) S) a' w'→K a' w')→o.wp P a w K (fun _ _ _=>False)
  | [],_,_,_,_,h=>by simp at h
  | x::r,k,0,o,h,ho=>by simp at ho;subst ho;exact h.1
  | x::r,k,i+1,o,h,ho=>by
    simp at ho
    have:=steps_at r (k+1) i o h.2 ho
    rwa [show k+1+i=k+(i+1) by omega] at this
theorem wpAny_inv {l : List Oper} (hb : backB 0 l = true) (hg : (l.all fun o => o.guard.isNone) = true) (I : (Nat → Bool) → Act → World → Prop) (hst : StepsOk P l I 0 l)
    (hend:∀ S a w,(∀ j,j<l.length→S j=true)→I S a w→Q .normal a w) :
    ∀ (fuel:Nat) (listed:Array Bool) (a:Act) (w:World),listed.size=l.length→(listed.toList.filter (·==false)).length≤fuel→Closed l (fun j=>listed.getD j false)→I (fun j=>listed.getD j false) a w →
      wpAny P .any l.toArray Q fuel listed a w:=by
  have fin:∀ (listed:Array Bool) (a:Act) (w:World),listed.size=l.length→Region.ready .any l.toArray listed=[]→I (fun j=>listed.getD j false) a w→Q .normal a w:=by
    intro listed a w hs hr hI;refine hend _ a w ?_ hI;intro j
    induction j using Nat.strongRecOn with
    | _ j ih =>
      intro hj
      cases hc:listed.getD j false with
      | true=>rfl
      | false =>
        exfalso
        have hj':j<listed.size:=by omega
        have hnt:listed.getD j true=false:=by simp [Array.getD,hj'] at hc ⊢;exact hc
        have:j∈Region.ready .any l.toArray listed:=ready_mem.2 ⟨by simpa using hj,hnt,l[j],by simp [hj],fun e he hbd=>by
          have:=back_at l 0 j l[j] hb (by simp [hj]) e he hbd
          exact ih e.on (by omega) (by omega)⟩
        rw [hr] at this;cases this
  intro fuel
  induction fuel with
  | zero =>
    intro listed a w hs hf hcl hI
    have hr:Region.ready .any l.toArray listed=[]:=by
      rw [List.eq_nil_iff_forall_not_mem];intro i hi;obtain ⟨h1,h2,_⟩:=ready_mem.1 hi;have hlt:i<l.length:=by simpa using h1
      have:listed[i]'(by omega)=false:=by
        simp [Array.getD,show i<listed.size by omega] at h2;exact h2
      have hm:false∈listed.toList.filter (·==false):=List.mem_filter.2 ⟨by rw [← this];simp,by simp⟩
      have:=List.length_pos_of_mem hm
      omega
    exact ⟨hr,fin listed a w hs hr hI⟩
  | succ fuel ih =>
    intro listed a w hs hf hcl hI;refine ⟨fun hr=>fin listed a w hs hr hI,fun i hi=>?_⟩;obtain ⟨h1,h2,o,ho,hdep⟩:=ready_mem.1 hi;have hlt:i<l.length:=by simpa using h1
    have hil:i<listed.size:=by omega
    have hun':listed[i]=false:=by simp [Array.getD,hil] at h2;exact h2
    have hun:listed.getD i false=false:=by simp [Array.getD,hil,hun']
    have hlen:((listed.setIfInBounds i true).toList.filter (·==false)).length≤fuel:=by
      have h3:=filter_set listed.toList i (by simpa using hil) (by simpa using hun');rw [Array.toList_setIfInBounds];omega
    have hfun:(fun j=>(listed.setIfInBounds i true).getD j false)=plus i (fun j=>listed.getD j false):=by
      funext j
      unfold plus;by_cases e:j=i
      · subst e;simp [Array.getD,hil]
      · have hne:i≠j:=fun x=>e x.symm;rw [Array.getD_eq_getD_getElem?,Array.getElem?_setIfInBounds_ne hne,← Array.getD_eq_getD_getElem?];simp [e]
    unfold wpOp;rw [ho];simp only
    have hgo:o.guard=none:=by
      have:=List.all_eq_true.1 hg o (List.mem_of_getElem? (by simpa using ho))
      simpa using this
    have hw:Region.wanted o (yielded l.toArray a.tmps)=true:=by unfold Region.wanted;rw [hgo]
    rw [hw,if_pos rfl];have hst':=steps_at l 0 i o hst (by simpa using ho) (fun j=>listed.getD j false) a w (by rw [Nat.zero_add];exact hun) hdep hcl hI;rw [Nat.zero_add] at hst';refine .inl (wpq (fun a' w' hh=>hh) (hst' _ fun a' w' hI'=>?_));refine ih _ _ _ (by simpa using hs) hlen ?_ (by rw [hfun];exact hI');rw [hfun];intro j oj hj hS e he hbd;unfold plus at hS ⊢;by_cases e':j=i
    · subst e';have hjo:some oj=some o:=by rw [← hj];simpa using ho
      cases hjo
      have:=hdep e he hbd
      simp [this]
    · have:(j==i)=false:=by simpa using e'
      rw [this,Bool.false_or] at hS
      have:=hcl j oj hj hS e he hbd
      simp only at this
      simp [this]
theorem draw_inv {id : Nat} {l : List Oper} {a : Act} {w : World} (I : (Nat → Bool) → Act → World → Prop) (hm : P.follows .mixedOrders = true) (hB : (backB 0 l && (l.all fun o => o.guard.isNone)) = true) (h0 : I (fun _ => false) a w.drew) (hst : StepsOk P l I 0 l)
    (hend:∀ S a w,(∀ j,j<l.length→S j=true)→I S a w→Q .normal a w):(Code.region id l.toArray true).wp P Q a w:=by
  rw [Bool.and_eq_true] at hB
  have e0:(fun j=>(Array.replicate l.length false).getD j false)=fun _=>false:=by
    funext j
    rw [Array.getD_eq_getD_getElem?,Array.getElem?_replicate];split <;> rfl
  have key:=wpAny_inv (Q:=Q) hB.1 hB.2 I hst hend l.length (Array.replicate l.length false) a w.drew (by simp) (Nat.le_trans (List.length_filter_le _ _) (by simp)) (by rw [e0];intro j o _ h;cases h) (by rw [e0];exact h0);refine wp_region_any hm ?_;simpa using key
end
structure DI (n : Nat) (a0 : Act) (w00 : World) (ds : List Tmp) (Ti : List (Nat × Tmp)) (Ai : List (Nat × Tmp × Nat × TypeId)) (Oi : List (Nat × Tmp × Nat × TypeId)) (M : List (Tmp × Value)) (C : List (Tmp × List Value)) (S : Nat → Bool) (a : Act) (w : World) : Prop where
  size:a.tmps.size=n
  defers:a.defers=[]
  outer:∀ t,ds.contains t=false→a.tmps.getD t undef=a0.tmps.getD t undef
  bel:Below w00.heap.size w00 w
  vals:∀ x∈Ti,S x.1=true→∀ v,M.lookup x.2=some v→a.tmps.getD x.2 undef=v
  new:∀ x∈Ai,S x.1=true→∃ B,a.tmps.getD x.2.1 undef=.pointer (some ⟨B,0,none⟩)∧w00.heap.size≤B∧∃ c,Blk w B c x.2.2.2∧c.size=x.2.2.1
  ne:∀ x∈Ai,∀ y∈Ai,x.2.1≠y.2.1→S x.1=true→S y.1=true→a.tmps.getD x.2.1 undef≠a.tmps.getD y.2.1 undef
  did:∀ x∈Oi,S x.1=true→∀ c,C.lookup x.2.1=some c→∃ B,a.tmps.getD x.2.1 undef=.pointer (some ⟨B,0,none⟩)∧Blk w B c.toArray x.2.2.2
def diB (l : List Oper) (n : Nat) (Ti : List (Nat × Tmp)) (Ai Oi : List (Nat × Tmp × Nat × TypeId)) : Bool :=
  (nodupB (Ti.map (·.1)) && nodupB (Ai.map (·.1)) && nodupB (Oi.map (·.1))) && (nodupB (Ti.map (·.2)++Ai.map (·.2.1)) && nodupB (Oi.map (·.2.1)) && ((Ti.map (·.2)++Ai.map (·.2.1)).all fun t=>decide (t<n) && (dstsOf l).contains t) &&
  (Oi.all fun x=>Ai.any fun y=>y.2.1==x.2.1 && y.2.2.1==x.2.2.1 && y.2.2.2==x.2.2.2 && (match l[x.1]? with | some o=>waits1 o y.1 | none=>false)))
theorem nodupB_mem {l1 l2 : List Tmp} : ∀ {t : Tmp}, nodupB (l1 ++ l2) = true → t ∈ l1 → t ∈ l2 → False := by
  induction l1 with
  | nil=>intro t _ h;cases h
  | cons x r ih =>
    intro t h h1 h2;simp only [List.cons_append,nodupB,Bool.and_eq_true,Bool.not_eq_true'] at h;rcases List.mem_cons.1 h1 with rfl | h1
    · have:=h.1
      simp at this
      exact this.2 h2
    · exact ih h.2 h1 h2
theorem nodupB_map {α : Type} {f : α → Tmp} : ∀ {l : List α}, nodupB (l.map f) = true → ∀ x ∈ l, ∀ y ∈ l, f x = f y → x = y
  | [],_,_,h,_,_,_=>by cases h
  | z::r,h,x,hx,y,hy,e=>by
    simp only [List.map_cons,nodupB,Bool.and_eq_true,Bool.not_eq_true'] at h
    have hz:∀ u∈r,f u≠f z:=fun u hu e=>by
      have:=h.1
      simp at this
      exact this u hu e
    rcases List.mem_cons.1 hx with h1 | h1
    · rcases List.mem_cons.1 hy with h2 | h2
      · rw [h1,h2]
      · exact absurd e.symm (h1 ▸ hz y h2)
    · rcases List.mem_cons.1 hy with h2 | h2
      · exact absurd e (h2 ▸ hz x h1)
      · exact nodupB_map h.2 x h1 y h2 e
theorem nodupB_right {l1 l2 : List Tmp} (h : nodupB (l1 ++ l2) = true) : nodupB l2 = true := by
  induction l1 with
  | nil=>exact h
  | cons x r ih =>
    simp only [List.cons_append,nodupB,Bool.and_eq_true,Bool.not_eq_true'] at h;exact ih h.2
section
variable {n i : Nat} {a0 a : Act} {w00 w w' : World} {l : List Oper} {Ti : List (Nat × Tmp)} {Ai Oi : List (Nat × Tmp × Nat × TypeId)} {M : List (Tmp × Value)} {C : List (Tmp × List Value)} {S : Nat → Bool} {t : Tmp} {v : Value} {s : Nat} {ty : TypeId}
theorem put_at {u : Tmp} (h : t < a.tmps.size) : (a.put (some t) v).tmps.getD u undef = if u = t then v else a.tmps.getD u undef := by
  by_cases e:u=t
  · subst e;simp [Act.put,Array.getD,h]
  · rw [if_neg e];have hne:t≠u:=fun x=>e x.symm;rw [Array.getD_eq_getD_getElem?,Array.getD_eq_getD_getElem?];simp only [Act.put];rw [Array.getElem?_setIfInBounds_ne hne]
theorem plus_of {j : Nat} (hne : j ≠ i) (h : plus i S j = true) : S j = true := by
  have:(j==i)=false:=by simpa using hne
  unfold plus at h;rwa [this,Bool.false_or] at h
theorem DI.pure (hB : diB l n Ti Ai Oi = true) (hI : DI n a0 w00 (dstsOf l) Ti Ai Oi M C S a w) (hi : (i, t) ∈ Ti) (hv : M.lookup t = some v) (hS : S i = false) (hb : Below w.heap.size w w')
    (hiA:(Ai.all fun x=>x.1 != i)=true) (hiO:(Oi.all fun x=>x.1 != i)=true):DI n a0 w00 (dstsOf l) Ti Ai Oi M C (plus i S) (a.put (some t) v) w':=by
  simp only [diB,Bool.and_eq_true] at hB;obtain ⟨hix,⟨⟨hnd,hndO⟩,hall⟩,hO⟩:=hB;have htT:t∈Ti.map (·.2):=List.mem_map.2 ⟨(i,t),hi,rfl⟩;have h9:=List.all_eq_true.1 hall t (List.mem_append_left _ htT);simp only [Bool.and_eq_true,decide_eq_true_eq] at h9;have htn:t<a.tmps.size:=by rw [hI.size];exact h9.1
  have hneA:∀ x∈Ai,x.2.1≠t:=fun x hx e=>nodupB_mem hnd htT (e ▸ List.mem_map.2 ⟨x,hx,rfl⟩)
  have hneO:∀ x∈Oi,x.2.1≠t:=fun x hx e=>by
    obtain ⟨y,hy,hh⟩:=List.any_eq_true.1 (List.all_eq_true.1 hO x hx);simp only [Bool.and_eq_true,beq_iff_eq] at hh;exact hneA y hy (hh.1.1.1.trans e)
  have hA:∀ x∈Ai,plus i S x.1=true→S x.1=true:=fun x hx h=>plus_of (by have:=List.all_eq_true.1 hiA x hx;simpa using this) h;have hO':∀ x∈Oi,plus i S x.1=true→S x.1=true:=fun x hx h=>plus_of (by have:=List.all_eq_true.1 hiO x hx;simpa using this) h;refine ⟨by rw [← hI.size];simp [Act.put],hI.defers,fun u hu=>?_,Below.andThen hI.bel hb,fun x hx hs u hu=>?_,fun x hx hs=>?_,fun x hx y hy hxy hs1 hs2=>?_,fun x hx hs c hc=>?_⟩
  · have:u≠t:=fun e=>by subst e;rw [h9.2] at hu;cases hu
    rw [put_at htn,if_neg this];exact hI.outer u hu
  · rw [put_at htn];by_cases e:x.2=t
    · rw [if_pos e];rw [e,hv] at hu;exact Option.some.inj hu
    · rw [if_neg e];refine hI.vals x hx (plus_of (fun e2=>e ?_) hs) u hu;exact congrArg (·.2) (nodupB_map (f:=fun x:Nat × Tmp=>x.1) hix.1.1 x hx (i,t) hi e2)
  · obtain ⟨B,h1,h2,c,h3,h4⟩:=hI.new x hx (hA x hx hs);exact ⟨B,by rw [put_at htn,if_neg (hneA x hx)];exact h1,h2,c,h3.below hb,h4⟩
  · rw [put_at htn,if_neg (hneA x hx),put_at htn,if_neg (hneA y hy)];exact hI.ne x hx y hy hxy (hA x hx hs1) (hA y hy hs2)
  · obtain ⟨B,h1,h2⟩:=hI.did x hx (hO' x hx hs) c hc;exact ⟨B,by rw [put_at htn,if_neg (hneO x hx)];exact h1,h2.below hb⟩
theorem DI.alloc (hB : diB l n Ti Ai Oi = true) (hI : DI n a0 w00 (dstsOf l) Ti Ai Oi M C S a w) (hi : (i, t, s, ty) ∈ Ai) {c : Array Value} (hc : c.size = s) (hS : S i = false) (hcl : Closed l S)
    (hiT:(Ti.all fun x=>x.1 != i)=true) (hiO:(Oi.all fun x=>x.1 != i)=true):DI n a0 w00 (dstsOf l) Ti Ai Oi M C (plus i S) (a.put (some t) (.pointer (some ⟨w.heap.size,0,none⟩))) (w.alloc (.cells c ty)):=by
  simp only [diB,Bool.and_eq_true] at hB;obtain ⟨hix,⟨⟨hnd,hndO⟩,hall⟩,hO⟩:=hB;have hb:Below w.heap.size w (w.alloc (.cells c ty)):=bel1 w _;have htA:t∈Ai.map (·.2.1):=List.mem_map.2 ⟨(i,t,s,ty),hi,rfl⟩;have h9:=List.all_eq_true.1 hall t (List.mem_append_right _ htA);simp only [Bool.and_eq_true,decide_eq_true_eq] at h9;have htn:t<a.tmps.size:=by rw [hI.size];exact h9.1
  have hneT:∀ x∈Ti,x.2≠t:=fun x hx e=>nodupB_mem hnd (e ▸ List.mem_map.2 ⟨x,hx,rfl⟩) htA;have one:∀ x∈Ai,x.2.1=t→x=(i,t,s,ty):=fun x hx e=>nodupB_map (f:=fun x:Nat × Tmp × Nat × TypeId=>x.2.1) (nodupB_right hnd) x hx _ hi e;have old:∀ x∈Ai,x.2.1≠t→plus i S x.1=true→S x.1=true:=fun x hx hne h=>plus_of (fun e=>hne (congrArg (·.2.1) (nodupB_map (f:=fun x:Nat × Tmp × Nat × TypeId=>x.1) hix.1.2 x hx _ hi e))) h;refine ⟨by rw [← hI.size];simp [Act.put],hI.defers,fun u hu=>?_,Below.andThen hI.bel hb,fun x hx hs u hu=>?_,fun x hx hs=>?_,fun x hx y hy hxy hs1 hs2=>?_,fun x hx hs c' hc'=>?_⟩
  · have:u≠t:=fun e=>by subst e;rw [h9.2] at hu;cases hu
    rw [put_at htn,if_neg this];exact hI.outer u hu
  · rw [put_at htn,if_neg (hneT x hx)];exact hI.vals x hx (plus_of (by have:=List.all_eq_true.1 hiT x hx;simpa using this) hs) u hu
  · by_cases e:x.2.1=t
    · rw [one x hx e];exact ⟨w.heap.size,by rw [put_at htn,if_pos rfl],hI.bel.size,c,Blk.new w c ty,hc⟩
    · obtain ⟨B,h1,h2,c',h3,h4⟩:=hI.new x hx (old x hx e hs);exact ⟨B,by rw [put_at htn,if_neg e];exact h1,h2,c',h3.below hb,h4⟩
  · have lt:∀ x∈Ai,x.2.1≠t→plus i S x.1=true→a.tmps.getD x.2.1 undef≠.pointer (some ⟨w.heap.size,0,none⟩):=fun x hx e hs h=>by
      obtain ⟨B,h1,h2,c',h3,h4⟩:=hI.new x hx (old x hx e hs);rw [h1] at h;simp at h
      have:=h3.lt
      omega
    by_cases e1:x.2.1=t
    · by_cases e2:y.2.1=t
      · exact absurd (e1.trans e2.symm) hxy
      · rw [put_at htn,if_pos e1,put_at htn,if_neg e2];exact fun h=>lt y hy e2 hs2 h.symm
    · by_cases e2:y.2.1=t
      · rw [put_at htn,if_neg e1,put_at htn,if_pos e2];exact lt x hx e1 hs1
      · rw [put_at htn,if_neg e1,put_at htn,if_neg e2];exact hI.ne x hx y hy hxy (old x hx e1 hs1) (old y hy e2 hs2)
  · have hs':S x.1=true:=plus_of (by have:=List.all_eq_true.1 hiO x hx;simpa using this) hs
    have hne:x.2.1≠t:=fun e=>by
      obtain ⟨y,hy,hh⟩:=List.any_eq_true.1 (List.all_eq_true.1 hO x hx);simp only [Bool.and_eq_true,beq_iff_eq] at hh;have hyt:=one y hy (hh.1.1.1.trans e)
      cases ho:l[x.1]? with
      | none=>rw [ho] at hh;simp at hh
      | some o =>
        rw [ho] at hh
        have:=Deps.at (hcl x.1 o ho hs') y.1 hh.2
        rw [hyt] at this;simp only at this
        rw [hS] at this
        cases this
    obtain ⟨B,h1,h2⟩:=hI.did x hx hs' c' hc';exact ⟨B,by rw [put_at htn,if_neg hne];exact h1,h2.below hb⟩
theorem DI.box (hI : DI n a0 w00 (dstsOf l) Ti Ai Oi M C S a w) (hi : (i, t, s, ty) ∈ Ai) (hs : S i = true) : ∃ B, a.tmps.getD t undef = .pointer (some ⟨B, 0, none⟩) ∧ w00.heap.size ≤ B ∧ ∃ c, Blk w B c ty ∧ c.size = s := hI.new _ hi hs
theorem blk_all {w : World} {B : Nat} {c : Array Value} {ty : TypeId} {cs : List Value} (h : Blk w B c ty) (hs : c.size = cs.length) : Blk (w.setCells B 0 cs) B cs.toArray ty := by
  have:=blk_setCells cs w c 0 h (by omega)
  have e:spliced c 0 cs=cs.toArray:=by
    unfold spliced;have h9:c.toList.drop (0+cs.length)=[]:=List.drop_of_length_le (by simp [hs]);rw [h9];simp
  rwa [e] at this
theorem DI.store (hB : diB l n Ti Ai Oi = true) (hI : DI n a0 w00 (dstsOf l) Ti Ai Oi M C S a w) (hi : (i, t, s, ty) ∈ Oi) {B j : Nat} {c : Array Value} {cs : List Value} (hj : (j, t, s, ty) ∈ Ai) (hsj : S j = true) (hv : a.tmps.getD t undef = .pointer (some ⟨B, 0, none⟩)) (hBk : Blk w B c ty) (hcs : c.size = s) (hlo : w00.heap.size ≤ B) (hC : C.lookup t = some cs) (hln : cs.length = s) (hS : S i = false) (hcl : Closed l S)
    (hiT:(Ti.all fun x=>x.1 != i)=true) (hiA:(Ai.all fun x=>x.1 != i)=true):DI n a0 w00 (dstsOf l) Ti Ai Oi M C (plus i S) a (w.setCells B 0 cs):=by
  simp only [diB,Bool.and_eq_true] at hB;obtain ⟨hix,⟨⟨hnd,hndO⟩,hall⟩,hO⟩:=hB;have hk:=keep1_setCells w B 0 cs;have hnew:=blk_all (cs:=cs) hBk (by omega);have hA:∀ x∈Ai,plus i S x.1=true→S x.1=true:=fun x hx h=>plus_of (by have:=List.all_eq_true.1 hiA x hx;simpa using this) h;refine ⟨hI.size,hI.defers,hI.outer,below_setCells hlo cs w w00 0 hI.bel,fun x hx hs u hu=>?_,fun x hx hs=>?_,fun x hx y hy hxy hs1 hs2=>hI.ne x hx y hy hxy (hA x hx hs1) (hA y hy hs2),fun x hx hs c' hc'=>?_⟩
  · exact hI.vals x hx (plus_of (by have:=List.all_eq_true.1 hiT x hx;simpa using this) hs) u hu
  · obtain ⟨B',h1,h2,c',h3,h4⟩:=hI.new x hx (hA x hx hs);by_cases e:B'=B
    · subst e
      have:some (Obj.cells c' x.2.2.2 (0,0))=some (Obj.cells c ty (0,0)):=by rw [← h3,← hBk]
      simp at this
      obtain ⟨rfl,hty⟩:=this;exact ⟨B',h1,h2,_,by rw [hty];exact hnew,by simp;omega⟩
    · exact ⟨B',h1,h2,c',(hk B' e).trans h3,h4⟩
  · by_cases e:x.2.1=t
    · have hx':=nodupB_map (f:=fun x:Nat × Tmp × Nat × TypeId=>x.2.1) hndO x hx _ hi e;subst hx';simp only at hc' ⊢
      rw [hC] at hc'
      cases hc'
      exact ⟨B,hv,hnew⟩
    · have hs':S x.1=true:=plus_of (fun e'=>e (congrArg (·.2.1) (nodupB_map (f:=fun x:Nat × Tmp × Nat × TypeId=>x.1) hix.2 x hx _ hi e'))) hs;obtain ⟨B',h1,h2⟩:=hI.did x hx hs' c' hc'
      have hne:B'≠B:=fun e'=>by
        obtain ⟨y,hy,hh⟩:=List.any_eq_true.1 (List.all_eq_true.1 hO x hx);simp only [Bool.and_eq_true,beq_iff_eq] at hh
        cases ho:l[x.1]? with
        | none=>rw [ho] at hh;simp at hh
        | some o =>
          rw [ho] at hh;exact hI.ne y hy _ hj (by rw [hh.1.1.1];exact e) (Deps.at (hcl x.1 o ho hs') y.1 hh.2) hsj (by rw [hh.1.1.1,h1,e'];exact hv.symm)
      exact ⟨B',h1,(hk B' hne).trans h2⟩
theorem DI.full (hI : DI n a0 w00 (dstsOf l) Ti Ai Oi M C S a w) {i j : Nat} {cs : List Value} (hj : (j, t, s, ty) ∈ Ai) (hsj : S j = true) (hi : (i, t, s, ty) ∈ Oi) (hsi : S i = true) (hC : C.lookup t = some cs) :
    ∃ B,a.tmps.getD t undef=.pointer (some ⟨B,0,none⟩)∧w00.heap.size≤B∧Blk w B cs.toArray ty:=by
  obtain ⟨B,h1,h2⟩:=hI.did _ hi hsi cs hC;obtain ⟨B',h3,h4,_⟩:=hI.new _ hj hsj;simp only at h1 h3
  rw [h1] at h3;simp at h3
  subst h3;exact ⟨B,h1,h4,h2⟩
theorem fr_outer {L : List (Tmp × Value)} (hF : Fr n a0 L) (hL : (L.all fun p => !(dstsOf l).contains p.1) = true) (hI : DI n a0 w00 (dstsOf l) Ti Ai Oi M C S a w) : Fr n a L := by
  refine ⟨hI.size,hI.defers,fun t v hl=>?_⟩
  have hmem:∃ p∈L,p.1=t:=by
    clear hL hF
    induction L with
    | nil=>simp at hl
    | cons x r ih =>
      by_cases e:t=x.1
      · exact ⟨x,by simp,e.symm⟩
      · have e':(t==x.1)=false:=beq_false_of_ne e;rw [List.lookup_cons,e'] at hl;obtain ⟨p,hp,he⟩:=ih hl;exact ⟨p,by simp [hp],he⟩
  obtain ⟨p,hp,rfl⟩:=hmem;have hn:=List.all_eq_true.1 hL p hp;rw [hI.outer p.1 (by simpa using hn)];exact hF.sl _ _ hl
theorem fr_draw3 {P : Program} {Q : Exit → Act → World → Prop} {id : Nat} {L : List (Tmp × Value)} (Ti : List (Nat × Tmp)) (Ai Oi : List (Nat × Tmp × Nat × TypeId)) (M : List (Tmp × Value)) (C : List (Tmp × List Value))
    (hm:P.follows .mixedOrders=true) (hF:Fr n a L) (hL:(L.all fun p=>!(dstsOf l).contains p.1)=true) (hB:((backB 0 l && (l.all fun o=>o.guard.isNone)) && diB l n Ti Ai Oi)=true)
    (hst:diB l n Ti Ai Oi=true→StepsOk P l (DI n a w (dstsOf l) Ti Ai Oi M C) 0 l)
    (hend:∀ S a' w',(∀ j,j<l.length→S j=true)→DI n a w (dstsOf l) Ti Ai Oi M C S a' w'→Fr n a' L→Q .normal a' w'):(Code.region id l.toArray true).wp P Q a w:=by
  rw [Bool.and_eq_true] at hB;refine draw_inv (DI n a w (dstsOf l) Ti Ai Oi M C) hm hB.1 ?_ (hst hB.2) (fun S a' w' hS hI=>hend S a' w' hS hI ?_)
  · exact ⟨hF.size,hF.defers,fun _ _=>rfl,drewN_below (m:=1) (Below.refl _ _),fun _ _ h=>(by cases h),fun _ _ h=>(by cases h),fun _ _ _ _ _ h=>(by cases h),fun _ _ h=>(by cases h)⟩
  · exact fr_outer hF hL hI
theorem wp_fill {Q : Exit → Act → World → Prop} {K : Act → World → Prop} {B : Nat} {c : Array Value} {bt ty2 ty3 : TypeId} {cells : List Value} {x y : Tmp} {pos : String} {aft : Array Edge} (hB : Blk w B c bt)
    (hx:a.tmps.getD x undef=.pointer (some ⟨B,0,none⟩)) (hy:a.tmps.getD y undef=.agg cells.toArray) (hi:(Tryz.prog.info? ty2).map (·.size)=some cells.length) (h1:cells.all (·.oneCell')=true) (hs:cells.length=c.size)
    (hK:K a (w.setCells B 0 cells)):Oper.wp Tryz.prog ⟨none,.store ty2 (.tmp x) (.tmp y),ty3,pos,aft,none⟩ a w K Q:=by
  have e:a.eval (.tmp x)=.pointer (some ⟨B,0,none⟩):=hx;have e2:a.eval (.tmp y)=.agg cells.toArray:=hy
  have:=run_storeAt_mid (P:=Tryz.prog) w B 0 ty2 cells.toArray (by simpa using thereOf hB 0 cells.length (by omega)) (by simpa using hi) (by simpa using h1)
  unfold Oper.wp execOp;simp only [e,e2,Sem.run_bind,this,Result.andThen_ok,Sem.run_pure];rw [Oper.upon_skip];simpa [Act.put] using hK
theorem Wd.add2 {w0 : World} {Bs : List (Nat × Array Value × TypeId)} (h : Wd w0 w Bs) (h0 : Wd w0 w00 Bs) {B B' : Nat} {c c' : Array Value} {t t' : TypeId} (hb : Blk w B c t) (hb' : Blk w B' c' t') (hne : B ≠ B') (hB : w00.heap.size ≤ B) (hB' : w00.heap.size ≤ B') :
    Wd w0 w ((B,c,t)::(B',c',t')::Bs):=by
  have h1:=h.add hb' h0 hB';have h2:=h.add hb h0 hB;refine ⟨h.bel,fun i x hx=>?_,fun i x hx=>?_,fun i j x y hx hy e=>?_⟩
  · cases i with
    | zero=>simp at hx;subst hx;exact hb
    | succ i=>exact h1.blk i x (by simpa using hx)
  · cases i with
    | zero=>exact h2.new 0 x (by simpa using hx)
    | succ i=>exact h1.new i x (by simpa using hx)
  · have key:∀ (k:Nat) (z:Nat × Array Value × TypeId),((B',c',t')::Bs)[k]?=some z→z.1≠B:=fun k z hz e=>by
      cases k with
      | zero=>simp at hz;subst hz;exact hne e.symm
      | succ k =>
        have:=h2.nd (k+1) 0 z (B,c,t) (by simpa using hz) (by simp) e
        omega
    cases i with
    | zero =>
      cases j with
      | zero=>rfl
      | succ j=>simp at hx;subst hx;exact absurd e.symm (key j y (by simpa using hy))
    | succ i =>
      cases j with
      | zero=>simp at hy;subst hy;exact absurd e (key i x (by simpa using hx))
      | succ j=>rw [h1.nd i j x y (by simpa using hx) (by simpa using hy) e]
end
end Go.Proofs.YtalfbnllodhkiacGreatDoor
