/-
  The loop of a scan: what is so at each round. No function of the program is spoken of.
-/
import Derived.Test.YtlahoehngnebnacDoorTokTok2
namespace Go.Proofs.YtlahoehngnebnacDoor
open Go.ChangeShapes Go.WideShapes Go.ChangeAt Go.RowKit Go.Shelf
set_option linter.unusedVariables false
set_option linter.unusedSimpArgs false

/-! ### the loop on lists -/
section
variable {l : List UInt8} {pos k : Nat} {b : Bool} {n : Int} {acc : List Tk} {c : Nat}
theorem sc_start (h : ¬ 40000 < l.length) : (scanF (l.length + 1) (blk false l) (l.drop (blk false l))).app [] = scanL l := by
  rw [Sc.app_nil, scanL, if_neg h]
theorem sc_end (h : (scanF (l.length + 1) pos (l.drop pos)).app acc = scanL l) (hp : ¬ pos < l.length) : scanL l = .ok acc := by
  rw [List.drop_of_length_le (by omega)] at h
  rw [← h]; simp [scanF, Sc.app]
theorem sc_bad (h : (scanF (l.length + 1) pos (l.drop pos)).app acc = scanL l) (hp : pos < l.length) (ht : tok (l.drop pos) = .bad c) : scanL l = .fault c pos := by
  rw [← h, scanF, if_neg (fun e => by have := congrArg List.length e; simp only [List.length_drop, List.length_nil] at this; omega), ht]; rfl
theorem sc_next (h : (scanF (l.length + 1) pos (l.drop pos)).app acc = scanL l) (hp : pos < l.length) (ht : tok (l.drop pos) = .ok k b n) :
    (scanF (l.length + 1) (pos + k + blk false (l.drop (pos + k))) (l.drop (pos + k + blk false (l.drop (pos + k))))).app (acc ++ [⟨pos, (l.drop pos).take k, b, n⟩]) = scanL l := by
  have hk := tok_pos ht
  rw [List.length_drop] at hk
  rw [← h, scanF.eq_def (l.length + 1) pos]
  simp only
  rw [if_neg (fun e => by have := congrArg List.length e; simp only [List.length_drop, List.length_nil] at this; omega), ht]
  simp only [List.drop_drop]
  rw [Sc.app_app, scanF_fuel l.length (l.length + 1) _ _ (by rw [List.length_drop]; omega) (by rw [List.length_drop]; omega)]
theorem tok_code (h : tok l = .bad c) : c = 6 ∨ c = 8 := by
  unfold tok at h
  split at h
  · injection h with h; omega
  · split at h
    · split at h
      · cases h
      · injection h with h; omega
    · cases h
end

/-! ### in memory -/
/-- At a round: what was read so far, in memory of the call's own. -/
structure SB (T : TypeId) (w wr : World) (l : List UInt8) (pos : Nat) (v : Value) (acc : List Tk) (xs : List Value) : Prop where
  pos_le : pos ≤ l.length
  row : ARow tkL T wr (w.heap.size + 1) v acc xs
  bel : Below w.heap.size w wr
  flt : Blk wr w.heap.size #[.int .i64 0, .int .i64 0] 25
  sofar : (scanF (l.length + 1) pos (l.drop pos)).app acc = scanL l
  len : acc.length ≤ pos
theorem SB.start {T : TypeId} {w : World} {l : List UInt8} (h : ¬ 40000 < l.length) : SB T w (w.alloc (.cells #[.int .i64 0, .int .i64 0] 25)) l (blk false l) (.slice none 0 0) [] [] :=
  ⟨blk_le l false, ARow.nil _ _ _ _, bel1 w _, Blk.new _ _ _, sc_start h, Nat.zero_le _⟩
theorem SB.push {T : TypeId} {w wr w4 w9 : World} {l : List UInt8} {pos k : Nat} {v : Value} {acc : List Tk} {xs : List Value} {b : Bool} {n : Int} {g cap : Nat} (h : SB T w wr l pos v acc xs) (b4 : Below wr.heap.size wr w4)
    (hp : pos < l.length) (ht : tok (l.drop pos) = .ok k b n)
    (h1 : w9.ownsRow (w.heap.size + 1) T 4 (.slice (some ⟨g, 0, none⟩) (acc.length + 1) cap) (acc.length + 1) (xs ++ [.int .i64 pos, .string (str ((l.drop pos).take k)), .bool b, .int .i64 n])) (h2 : w4.grownBy w9 v.ownBlock) (h3 : v.ownBlock = some g ∨ g = w4.heap.size) :
    SB T w w9 l (pos + k + blk false (l.drop (pos + k))) (.slice (some ⟨g, 0, none⟩) (acc.length + 1) cap) (acc ++ [⟨pos, (l.drop pos).take k, b, n⟩]) (xs ++ [.int .i64 pos, .string (str ((l.drop pos).take k)), .bool b, .int .i64 n]) := by
  have hk := tok_pos ht
  have hb := blk_le (l.drop (pos + k)) false
  rw [List.length_drop] at hk hb
  have hrow := h.row.below b4
  have hsz : w.heap.size < wr.heap.size := h.flt.lt
  have hsz4 := b4.size
  refine ⟨by omega, ?_, ?_, ?_, sc_next h.sofar hp ht, by simp; have := h.len; omega⟩
  · exact ARow.push hrow (x := ⟨pos, (l.drop pos).take k, b, n⟩) (A := tkL) rfl h2 h3 h1
  · exact (Below.andThen h.bel b4).grown h2 (by omega) (fun k hk => Nat.le_of_succ_le (hrow.lo_le hk).1)
  · exact (h2.block w.heap.size (by omega) (fun e => by have := (hrow.lo_le e.symm).1; omega)).trans (h.flt.below b4)
theorem SB.cell {T : TypeId} {w wr : World} {l : List UInt8} {pos : Nat} {v : Value} {acc : List Tk} {xs : List Value} (h : SB T w wr l pos v acc xs) : ∃ a c, v = .slice a acc.length c ∧ tkL.list.In wr (fun g => w.heap.size + 1 ≤ g) acc [.slice a acc.length c] := by
  have hl := h.row.lay
  obtain ⟨a, c, e, r⟩ := hl
  simp at e
  exact ⟨a, c, e, ⟨a, c, rfl, r⟩⟩

theorem news4 (w : World) (T : TypeId) (p q r u : Value) : ∀ j x, [p, q, r, u][j]? = some x → (w.alloc (.cells #[p, q, r, u] T)).cell? ((⟨w.heap.size, 0, none⟩ : Addr).add j) = some x := by
  intro j x h
  match j, h with
  | 0, h => simp at h; subst h; exact cellOf (blockNew w _ _) 0 _ rfl
  | 1, h => simp at h; subst h; exact cellOf (blockNew w _ _) 1 _ rfl
  | 2, h => simp at h; subst h; exact cellOf (blockNew w _ _) 2 _ rfl
  | 3, h => simp at h; subst h; exact cellOf (blockNew w _ _) 3 _ rfl
  | j + 4, h => simp at h
theorem one4 (p : Int) (t : ByteArray) (b : Bool) (n : Int) : ∀ u ∈ [Value.int .i64 p, Value.string t, Value.bool b, Value.int .i64 n], u.oneCell' = true := by
  intro u h
  simp at h
  rcases h with rfl | rfl | rfl | rfl <;> rfl
/-- A fault is stored. -/
theorem stored2 {w w2 : World} {B : Nat} {p q : Value} {t : TypeId} (h : Blk w2 B #[p, q] t) (hb : Below w.heap.size w w2) (hB : w.heap.size ≤ B) (a b : Value) :
    Blk ((w2.setCell ⟨B, 0, none⟩ a).setCell ⟨B, 1, none⟩ b) B #[a, b] t ∧ Below w.heap.size w ((w2.setCell ⟨B, 0, none⟩ a).setCell ⟨B, 1, none⟩ b) := by
  refine ⟨?_, (hb.setCell hB _).setCell hB _⟩
  have h1 := blockSet h 0 a
  have h2 := blockSet h1 1 b
  simpa using h2
end Go.Proofs.YtlahoehngnebnacDoor
