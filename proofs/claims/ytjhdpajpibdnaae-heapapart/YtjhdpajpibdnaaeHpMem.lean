/-
  Package heap in memory: regions behind a map, things in rows that grow, parts in rows of their own; what stays, what turns. No function of the program is spoken of.
-/
import Derived.Test.YtjhdpajpibdnaaeHpSpec
import Derived.Maps.OwnSet
import Derived.Deep.QuietTactic
import Derived.BigQuiet
import Derived.RegionTactic
import Derived.Deep.MidRow
namespace Go.Proofs.Ytjhdpajpibdnaae
open Go.ChangeShapes Go.WideShapes Go.ChangeAt Go.RowKit
set_option linter.unusedVariables false
set_option linter.unusedSimpArgs false

theorem hidH {p : Prop} (h : p) : Hid p := h
/-- The cells of values, one behind the other. -/
def vAt (v : HVal) : Nat → Value
  | 0 => .int .i64 v.kind
  | 1 => .int .i64 v.region
  | 2 => .int .i64 v.thing
  | _ => .int .i64 v.n
def vCell (l : List HVal) (j : Nat) : Value := vAt (l.getD (j / 4) noV) (j % 4)
abbrev vAgg (v : HVal) : Value := .agg #[.int .i64 v.kind, .int .i64 v.region, .int .i64 v.thing, .int .i64 v.n]
/-- The slice v holds the values l. -/
def PartsAt (w : World) (v : Value) (l : List HVal) : Prop :=
  (∃ a c, v = .slice a l.length c) ∧ (l ≠ [] → ∃ g c, v = .slice (some ⟨g, 0, none⟩) l.length c ∧ w.rowIs g 37 (l.length * 4) (vCell l))
def pblk (v : Value) (t : HThing) (x : Nat) : Prop := t.l ≠ [] ∧ v.ownBlock = some x
theorem PartsAt.keep {w w' : World} {v : Value} {t : HThing} (h : PartsAt w v t.l) (hb : ∀ x, pblk v t x → w'.heap[x]? = w.heap[x]?) : PartsAt w' v t.l := by
  refine ⟨h.1, fun hl => ?_⟩
  obtain ⟨g, c, e, hr⟩ := h.2 hl
  exact ⟨g, c, e, hr.of_block (hb g ⟨hl, by rw [e]; rfl⟩)⟩
theorem PartsAt.lt {w : World} {v : Value} {t : HThing} (h : PartsAt w v t.l) {x : Nat} (hx : pblk v t x) : x < w.heap.size := by
  obtain ⟨g, c, e, hr⟩ := h.2 hx.1
  have : g = x := by have := hx.2; rw [e] at this; simpa [Value.ownBlock] using this
  subst this; exact hr.lt
theorem PartsAt.type {w : World} {v : Value} {t : HThing} (h : PartsAt w v t.l) {x : Nat} (hx : pblk v t x) : ∃ c, w.heap[x]? = some (.cells c 37 (0, 0)) := by
  obtain ⟨g, c, e, hr⟩ := h.2 hx.1
  have : g = x := by have := hx.2; rw [e] at this; simpa [Value.ownBlock] using this
  subst this; obtain ⟨cs, hc, _⟩ := hr; exact ⟨cs, hc⟩

/-- The cells of a row of things. -/
def tflat (pv : Nat → Value) : List HThing → Nat → List Value
  | [], _ => []
  | t :: r, s => .int .i64 t.knd :: pv s :: tflat pv r (s + 1)
theorem tflat_length (pv : Nat → Value) : ∀ (l : List HThing) (s : Nat), (tflat pv l s).length = l.length * 2
  | [], _ => rfl
  | t :: r, s => by simp [tflat, tflat_length pv r]; omega
theorem tflat_at (pv : Nat → Value) : ∀ (l : List HThing) (s i : Nat) (t : HThing), l[i]? = some t → (tflat pv l s)[i * 2]? = some (.int .i64 t.knd) ∧ (tflat pv l s)[i * 2 + 1]? = some (pv (s + i))
  | [], _, _, _, h => by simp at h
  | t :: r, s, 0, u, h => by simp at h; subst h; simp [tflat]
  | t :: r, s, i + 1, u, h => by
    have ih := tflat_at pv r (s + 1) i u (by simpa using h)
    rw [show (i + 1) * 2 = i * 2 + 2 by omega, show s + (i + 1) = s + 1 + i by omega]
    simpa [tflat] using ih
theorem tflat_snoc (pv : Nat → Value) (t : HThing) : ∀ (l : List HThing) (s : Nat), tflat pv (l ++ [t]) s = tflat pv l s ++ [.int .i64 t.knd, pv (s + l.length)]
  | [], s => rfl
  | u :: r, s => by simp [tflat, tflat_snoc pv t r, Nat.add_comm, Nat.add_left_comm]
theorem tflat_congr {pv qv : Nat → Value} : ∀ (l : List HThing) (s : Nat), (∀ i, i < l.length → pv (s + i) = qv (s + i)) → tflat pv l s = tflat qv l s
  | [], _, _ => rfl
  | t :: r, s, h => by
    have h0 : pv s = qv s := by simpa using h 0 (by simp)
    have ih := tflat_congr (pv := pv) (qv := qv) r (s + 1) (fun i hi => by have := h (i + 1) (by simpa using hi); rwa [show s + (i + 1) = s + 1 + i by omega] at this)
    simp only [tflat]
    rw [h0, ih]
theorem tflat_set (pv : Nat → Value) (t u : HThing) (e : u.knd = t.knd) : ∀ (l : List HThing) (s i : Nat), l[i]? = some t → tflat pv (l.set i u) s = tflat pv l s
  | [], _, _, h => by simp at h
  | t' :: r, s, 0, h => by simp at h; subst h; simp [tflat, e]
  | t' :: r, s, i + 1, h => by simp only [List.set_cons_succ, tflat]; rw [tflat_set pv t u e r (s + 1) i (by simpa using h)]
theorem tflat_one (pv : Nat → Value) (hp : ∀ i, (pv i).oneCell' = true) : ∀ (l : List HThing) (s : Nat) (u : Value), u ∈ tflat pv l s → u.oneCell' = true
  | [], _, _, h => by simp [tflat] at h
  | t :: r, s, u, h => by
    simp only [tflat, List.mem_cons] at h
    rcases h with rfl | rfl | h
    · rfl
    · exact hp s
    · exact tflat_one pv hp r (s + 1) u h

/-- The region k lies at block b, as p; all that it leads to among S. -/
structure RegIn (w : World) (b k : Nat) (p : HPlace) (S : Nat → Prop) (tv : Value) (pv : Nat → Value) : Prop where
  box : w.heap[b]? = some (.cells #[.int .i64 k, .int .i64 p.pages, .int .i64 p.used, tv] 72 (0, 0))
  row : w.ownsRow 0 94 2 tv p.l.length (tflat pv p.l 0)
  part : ∀ i t, p.l[i]? = some t → PartsAt w (pv i) t.l
  inj : ∀ i j t u x, p.l[i]? = some t → p.l[j]? = some u → pblk (pv i) t x → pblk (pv j) u x → i = j
  ob : S b
  ot : ∀ x, tv.ownBlock = some x → S x
  op : ∀ i t x, p.l[i]? = some t → pblk (pv i) t x → S x
def RegAt (w : World) (b k : Nat) (p : HPlace) (S : Nat → Prop) : Prop := ∃ tv pv, RegIn w b k p S tv pv
theorem rowBlock {w : World} {e : TypeId} {z : Nat} {v : Value} {n : Nat} {xs : List Value} (h : w.ownsRow 0 e z v n xs) {x : Nat} (hx : v.ownBlock = some x) : ∃ c, w.heap[x]? = some (.cells c e (0, 0)) := by
  rcases h.2 with ⟨rfl, _⟩ | ⟨g, cap, cur, rfl, _, hh, _⟩
  · simp [Value.ownBlock] at hx
  · simp [Value.ownBlock] at hx; subst hx; exact ⟨cur, hh⟩
theorem rowKeep {w w' : World} {e : TypeId} {z : Nat} {v : Value} {n : Nat} {xs : List Value} (h : w.ownsRow 0 e z v n xs) (hb : ∀ x, v.ownBlock = some x → w'.heap[x]? = w.heap[x]?) : w'.ownsRow 0 e z v n xs := by
  refine ⟨h.1, ?_⟩
  rcases h.2 with h4 | ⟨g, cap, cur, rfl, hg, hh, r⟩
  · exact .inl h4
  · exact .inr ⟨g, cap, cur, rfl, hg, (hb g rfl).trans hh, r⟩
section
variable {w w' : World} {b k : Nat} {p : HPlace} {S S' : Nat → Prop} {tv : Value} {pv : Nat → Value}
theorem RegIn.keep (h : RegIn w b k p S tv pv) (hb : ∀ x, S x → x < w.heap.size → w'.heap[x]? = w.heap[x]?) : RegIn w' b k p S tv pv :=
  ⟨(hb b h.ob (lt_of_block h.box)).trans h.box, rowKeep h.row (fun x hx => hb x (h.ot x hx) (lt_of_block (rowBlock h.row hx).choose_spec)), fun i t ht => (h.part i t ht).keep (fun x hx => hb x (h.op i t x ht hx) ((h.part i t ht).lt hx)), h.inj, h.ob, h.ot, h.op⟩
theorem RegAt.keep (h : RegAt w b k p S) (hb : ∀ x, S x → x < w.heap.size → w'.heap[x]? = w.heap[x]?) : RegAt w' b k p S := by
  obtain ⟨tv, pv, h⟩ := h
  exact ⟨tv, pv, h.keep hb⟩
end

/-- How a pointer to the head of a block reads. -/
def pelem : Value → Option (DataW Unit × List MemPlace)
  | .pointer none => some (.nil, [])
  | .pointer (some ⟨g, 0, none⟩) => some (.lit (.int .i64 g), [])
  | _ => none
theorem pelem_inv {v : Value} {g : Nat} {ps : List MemPlace} (h : pelem v = some (.lit (.int .i64 (g : Int)), ps)) : v = .pointer (some ⟨g, 0, none⟩) := by
  unfold pelem at h
  split at h
  · simp at h
  · rename_i g'
    simp at h
    obtain ⟨h, _⟩ := h
    have : g' = g := by omega
    rw [this]
  · cases h
theorem pelem_nil {v : Value} {ps : List MemPlace} (h : pelem v = some (.nil, ps)) : v = .pointer none := by
  unfold pelem at h
  split at h
  · rfl
  · simp at h
  · cases h
theorem pelem_ptr {v : Value} {d : DataW Unit} {ps : List MemPlace} (h : pelem v = some (d, ps)) : ∃ a, v = .pointer a := by
  unfold pelem at h
  split at h
  · exact ⟨_, rfl⟩
  · exact ⟨_, rfl⟩
  · cases h
theorem hKeyed : Maps.Keyed Try.prog 3 := Maps.int_keyed Try.underlying3
theorem wf64 {x : Int} (h : is64 x) : (Lit.int .i64 x).wf = true := WalkArith.wf_i64 h
abbrev kInt (x : Int) : Lit := .int .i64 x

/-- The ghosts of a heap: the map's block, its reading, the regions' blocks, and what each leads to. -/
structure HG where
  bm : Nat
  D : DataW Unit
  g : Nat → Nat
  S : Nat → Nat → Prop
structure HIn (w : World) (b : Nat) (O : Nat → Prop) (h : HHeap) (G : HG) : Prop where
  top : w.heap[b]? = some (.cells #[.int .i64 h.left, .int .i64 h.L.length, .map (some G.bm)] 68 (0, 0))
  map : w.ownsMap Try.prog 3 pelem G.bm (Maps.size G.D) G.D
  size : Maps.size G.D = h.live
  has : ∀ k, is64 k → Maps.has G.D (kInt k) = (h.place k).isSome
  at_ : ∀ k p, is64 k → h.place k = some p → G.D.atKey (kInt k) .nil = .lit (.int .i64 (G.g k.toNat : Int))
  reg : ∀ k p, h.L[k]? = some p → p.there = true → RegAt w (G.g k) k p (G.S k)
  dis : ∀ j k x, G.S j x → G.S k x → j = k
  ob : O b
  om : O G.bm
  os : ∀ k x, G.S k x → O x ∧ x ≠ b ∧ x ≠ G.bm
  lt : ∀ x, O x → x < w.heap.size
def HeapAt (w : World) (b : Nat) (O : Nat → Prop) (h : HHeap) : Prop := ∃ G, HIn w b O h G
theorem ownsMap_keep {w w' : World} {P : Program} {k : TypeId} {R : Value → Option (DataW Unit × List MemPlace)} {b n : Nat} {D : DataW Unit} (h : w.ownsMap P k R b n D) (hb : w'.heap[b]? = w.heap[b]?) : w'.ownsMap P k R b n D := by
  obtain ⟨es, c, h1, r⟩ := h
  exact ⟨es, c, hb.trans h1, r⟩
theorem ownsMap_tight {w : World} {P : Program} {k : TypeId} {R : Value → Option (DataW Unit × List MemPlace)} {b n : Nat} {D : DataW Unit} (h : w.ownsMap P k R b n D) : w.ownsMap P k R b (Maps.size D) D := by
  obtain ⟨es, c, h1, h2, h3, h4⟩ := h
  exact ⟨es, c, h1, h2, by rw [h4]; simp [Maps.size, length_sorted], h4⟩
section
variable {w w' : World} {b : Nat} {O O' : Nat → Prop} {h : HHeap} {G : HG}
theorem HIn.keep (H : HIn w b O h G) (hs : w.heap.size ≤ w'.heap.size) (hb : ∀ x, O x → x < w.heap.size → w'.heap[x]? = w.heap[x]?) : HIn w' b O h G :=
  ⟨(hb b H.ob (lt_of_block H.top)).trans H.top, ownsMap_keep H.map (hb _ H.om H.map.lt), H.size, H.has, H.at_, fun k p h1 h2 => (H.reg k p h1 h2).keep (fun x hx hl => hb x (H.os k x hx).1 hl), H.dis, H.ob, H.om, H.os, fun x hx => Nat.lt_of_lt_of_le (H.lt x hx) hs⟩
theorem HIn.below (H : HIn w b O h G) (hb : Below w.heap.size w w') : HIn w' b O h G := H.keep hb.size (fun x _ hx => hb.block x hx)
theorem HIn.bne (H : HIn w b O h G) : b ≠ G.bm := by
  intro e
  obtain ⟨es, c, h1, _⟩ := H.map
  have := H.top
  rw [e, h1] at this
  cases this
theorem HeapAt.keep (H : HeapAt w b O h) (hs : w.heap.size ≤ w'.heap.size) (hb : ∀ x, O x → x < w.heap.size → w'.heap[x]? = w.heap[x]?) : HeapAt w' b O h := by
  obtain ⟨G, H⟩ := H
  exact ⟨G, H.keep hs hb⟩
theorem HeapAt.below (H : HeapAt w b O h) (hb : Below w.heap.size w w') : HeapAt w' b O h := H.keep hb.size (fun x _ hx => hb.block x hx)
theorem HIn.drewN (H : HIn w b O h G) (n : Nat) : HIn (w.drewN n) b O h G := H.keep (w' := w.drewN n) (Nat.le_refl _) (fun _ _ _ => rfl)
theorem HIn.drew (H : HIn w b O h G) : HIn w.drew b O h G := H.keep (w' := w.drew) (Nat.le_refl _) (fun _ _ _ => rfl)
/-- What stands in the map. -/
def hptr (h : HHeap) (G : HG) (k : Int) : Option Addr := if (h.place k).isSome then some ⟨G.g k.toNat, 0, none⟩ else none
/-- 'v, ok := h.regions[k]'. -/
theorem HIn.look (H : HIn w b O h G) {k : Int} (hk : is64 k) : (Instr.lookup 66 (.map (some G.bm)) (.int .i64 k) true).run Try.prog w = .ok (.tuple #[.pointer (hptr h G k), .bool (h.place k).isSome]) w := by
  obtain ⟨v, ps, h1, h2⟩ := H.map.look_ok hKeyed Try.underlying66 (z := .pointer none) (by kernel_rfl) (zd := .nil) (zp := []) rfl (Maps.keyOf_int_mk Try.underlying3 (wf64 hk))
  rw [h1, H.has k hk]
  have hh := H.has k hk
  unfold hptr
  cases hp : h.place k with
  | none =>
    rw [hp] at hh
    rw [Maps.atKey_of_not_has hh] at h2
    rw [pelem_nil h2]; rfl
  | some p =>
    rw [H.at_ k p hk hp] at h2
    rw [pelem_inv h2]; rfl
theorem HIn.lookN (H : HIn w b O h G) {k : Int} (hk : is64 k) (n : Nat) : (Instr.lookup 66 (.map (some G.bm)) (.int .i64 k) true).run Try.prog (w.drewN n) = .ok (.tuple #[.pointer (hptr h G k), .bool (h.place k).isSome]) (w.drewN n) := (H.drewN n).look hk
end
end Go.Proofs.Ytjhdpajpibdnaae
