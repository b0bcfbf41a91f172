/-
  slices.Repeat of one value, up to fifteen times.
-/
import Derived.Test.YtjhdpajpibdnaaeHpTup
import Derived.Laws.CopyRow
import Derived.Laws.CopyOwn
namespace Go.Proofs.Ytjhdpajpibdnaae
open Go.ChangeShapes Go.WideShapes Go.ChangeAt Go.RowKit
set_option linter.unusedVariables false
set_option linter.unusedSimpArgs false

/-- copy of elements of several cells each. -/
theorem run_copy_rows {P : Program} (w : World) (dT sT ty elem : TypeId) (s g o dLen dCap : Nat) (a : Addr) (sLen sCap : Nat) (cur : Array Value) (t : TypeId) (cs : List Value)
    (hu : P.underlying dT = some (.slice elem)) (hs : (P.info? elem).map (·.size) = some s)
    (hg : w.heap[g]? = some (.cells cur t (0, 0))) (hn : cs.length = Nat.min sLen dLen * s)
    (hsrc : ∀ j v, cs[j]? = some v → w.cell? (a.add j) = some v) (hfit : o + cs.length ≤ cur.size) (h1 : ∀ v ∈ cs, v.oneCell' = true) :
    (Builtin.copy_ #[dT, sT] ty #[.slice (some ⟨g, o, none⟩) dLen dCap, .slice (some a) sLen sCap]).run P w =
      .ok (goInt (Nat.min sLen dLen)) (w.setRow g (cur.toList.take o ++ cs ++ cur.toList.drop (o + cs.length)).toArray) := by
  have hl := run_loadCells_list (P := P) w a cs hsrc
  have hst := run_storeCells_at P g o t cs 0 cur w hg (by simpa using hfit) h1
  rw [hn] at hl
  cases hq : P.info? elem with
  | none => simp [hq] at hs
  | some i =>
    have hi : i.size = s := by simpa [hq] using hs
    simp [Builtin.copy_, run_underlying hu, Builtin.lenOf, Builtin.firstCells, sizeOf, typeInfo, hq, hi, hl, hst]
theorem splice_row {w : World} {g : Nat} {t : TypeId} {N o : Nat} {f : Nat → Value} {c : Array Value} {cs : List Value} (hc : w.heap[g]? = some (.cells c t (0, 0))) (hN : c.size = N) (hf : ∀ i, i < N → c[i]? = some (f i)) (ho : o + cs.length ≤ N) :
    (w.setRow g (c.toList.take o ++ cs ++ c.toList.drop (o + cs.length)).toArray).rowIs g t N (fun j => if o ≤ j ∧ j < o + cs.length then cs.getD (j - o) undef else f j) := by
  refine ⟨_, setRow_heap w g c _ t _ hc, by simp; omega, fun i hi => ?_⟩
  have hlt : (c.toList.take o).length = o := by simp; omega
  have hci := hf i hi
  rw [List.getElem?_toArray]
  show _ = some (if o ≤ i ∧ i < o + cs.length then cs.getD (i - o) undef else f i)
  by_cases h1 : i < o
  · rw [if_neg (by omega), List.append_assoc, List.getElem?_append_left (by omega), List.getElem?_take, if_pos h1]
    simpa using hci
  · by_cases h2 : i < o + cs.length
    · rw [if_pos (by omega), List.getElem?_append_left (by simp; omega), List.getElem?_append_right (by omega), hlt]
      simp [List.getD, show i - o < cs.length by omega]
    · rw [if_neg (by omega), List.getElem?_append_right (by simp; omega)]
      simp only [List.length_append, hlt]
      rw [List.getElem?_drop, show o + cs.length + (i - (o + cs.length)) = i by omega]
      simpa using hci
theorem setRow_other (w : World) (g : Nat) (c : Array Value) {k : Nat} (hk : k ≠ g) : (w.setRow g c).heap[k]? = w.heap[k]? := by
  simp [World.setRow, Array.getElem?_modify, Ne.symm hk]
/-- The cells of so many noughts. -/
def nought4 (k : Nat) : List Value := (List.range (k * 4)).map fun j => vAt (intV 0) (j % 4)
theorem nought4_len (k : Nat) : (nought4 k).length = k * 4 := by simp [nought4]
theorem nought4_at (k j : Nat) (v : Value) (h : (nought4 k)[j]? = some v) : j < k * 4 ∧ v = vAt (intV 0) (j % 4) := by
  have hj := (List.getElem?_eq_some_iff.1 h).1
  rw [nought4_len] at hj
  refine ⟨hj, ?_⟩
  simp [nought4, hj] at h
  exact h.symm
theorem nought4_one (k : Nat) : ∀ v ∈ nought4 k, v.oneCell' = true := by
  intro v hv
  obtain ⟨j, hj, rfl⟩ := List.mem_map.1 hv
  have : j % 4 = 0 ∨ j % 4 = 1 ∨ j % 4 = 2 ∨ j % 4 = 3 := by omega
  rcases this with h | h | h | h <;> rw [h] <;> rfl
abbrev nots (n : Nat) : List HVal := List.replicate n (intV 0)
theorem fillN_len {n m : Nat} (hm : m ≤ n) : (fillTo (nots n) m).length = n := by rw [fillTo_len _ (by simpa using hm)]; simp
theorem fillN_at {n m j : Nat} (hm : m ≤ n) (hj : j < n * 4) : vCell (fillTo (nots n) m) j = if j < m * 4 then vAt (intV 0) (j % 4) else .int .i64 0 := by
  unfold vCell fillTo
  simp only [List.getD, List.length_replicate]
  by_cases h : j < m * 4
  · rw [if_pos h, List.getElem?_append_left (by simp; omega)]
    rw [List.getElem?_take, if_pos (by omega), List.getElem?_replicate, if_pos (by omega)]; rfl
  · rw [if_neg h, List.getElem?_append_right (by simp; omega)]
    have e : ((List.replicate (n - m) noV)[j / 4 - (List.take m (nots n)).length]?.getD noV) = noV := by
      rw [List.getElem?_replicate]; split <;> rfl
    rw [e]
    have : j % 4 = 0 ∨ j % 4 = 1 ∨ j % 4 = 2 ∨ j % 4 = 3 := by omega
    rcases this with h | h | h | h <;> rw [h] <;> rfl
/-- A copy of k noughts behind the first m. -/
theorem copy_nots {w : World} {g n m k sLen sCap dCap : Nat} {a : Addr} (hm : m ≤ n) (hR : w.rowIs g 37 (n * 4) (vCell (fillTo (nots n) m))) (hk : Nat.min sLen (n - m) = k) (hsrc : ∀ j v, (nought4 k)[j]? = some v → w.cell? (a.add j) = some v) (ty : TypeId) :
    ∃ w', (Builtin.copy_ #[45, 45] ty #[.slice (some ⟨g, m * 4, none⟩) (n - m) dCap, .slice (some a) sLen sCap]).run Try.prog w = .ok (.int .i64 k) w' ∧ w'.rowIs g 37 (n * 4) (vCell (fillTo (nots n) (m + k))) ∧ ∀ B w0, Below B w0 w → B ≤ g → Below B w0 w' := by
  obtain ⟨c, hc, hN, hf⟩ := hR
  have hkn : m + k ≤ n := by have : Nat.min sLen (n - m) ≤ n - m := Nat.min_le_right _ _; omega
  have hsz : (Try.prog.info? 37).map (·.size) = some 4 := by kernel_rfl
  have hrun := run_copy_rows (P := Try.prog) w 45 45 ty 37 4 g (m * 4) (n - m) dCap a sLen sCap c 37 (nought4 k) hUnderVs hsz hc (by rw [nought4_len, hk]) hsrc (by rw [nought4_len]; omega) (nought4_one k)
  rw [hk] at hrun
  refine ⟨_, hrun, (splice_row hc hN hf (by rw [nought4_len]; omega)).congr fun j hj => ?_, fun B w0 hb hB => below_setRow hb hB _⟩
  rw [nought4_len, fillN_at hkn hj, fillN_at hm hj]
  by_cases h1 : j < m * 4
  · rw [if_neg (by omega), if_pos h1, if_pos (by omega)]
  · by_cases h2 : j < (m + k) * 4
    · rw [if_pos (by omega), if_pos h2]
      have hj' : j - m * 4 < (nought4 k).length := by rw [nought4_len]; omega
      rw [List.getD, List.getElem?_eq_getElem hj', Option.getD_some]
      rw [(nought4_at k (j - m * 4) _ (List.getElem?_eq_getElem hj')).2, show (j - m * 4) % 4 = j % 4 by omega]
    · rw [if_neg (by omega), if_neg h1, if_neg h2]
set_option maxHeartbeats 1000000 in
set_option maxRecDepth 100000 in
theorem hmul64 (w : World) (n : Nat) (hn : n ≤ 15) : Calls Try.prog 40 #[.int .u64 1, .int .u64 (n : Int)] w fun e w' => e = .returned (.tuple #[.int .u64 0, .int .u64 (n : Int)]) ∧ w' = w := by
  match n, hn with
  | 0, _ | 1, _ | 2, _ | 3, _ | 4, _ | 5, _ | 6, _ | 7, _ | 8, _ | 9, _ | 10, _ | 11, _ | 12, _ | 13, _ | 14, _ | 15, _ =>
    go_enter Try.func40, Try.ntmps40
    go_wp2
    go_ret2
    exact ⟨rfl, rfl⟩
  | n + 16, h => omega
set_option maxHeartbeats 1000000 in
set_option maxRecDepth 100000 in
theorem hmul (w : World) (n : Nat) (hn : n ≤ 15) : Calls Try.prog 38 #[.int .u64 1, .int .u64 (n : Int)] w fun e w' => e = .returned (.tuple #[.int .u64 0, .int .u64 (n : Int)]) ∧ w' = w := by
  have C := hidH (hmul64 w n hn)
  go_enter Try.func38, Try.ntmps38
  go_wp2_with (go_at_call 40; refine (C.out).mono ?_; rintro e w' ⟨rfl, hw⟩; have hw := hw.symm; subst hw)
  go_ret2
  exact ⟨rfl, rfl⟩
theorem cell_add0 (g o j : Nat) : (⟨g, o, none⟩ : Addr).add j = ⟨g, o + j, none⟩ := Go.WideShapes.add_plain g o j
set_option maxHeartbeats 1000000 in
set_option maxRecDepth 100000 in
theorem hrepeat_any {w : World} {bx : Nat} (hx : w.heap[bx]? = some (.cells #[.int .i64 1, .int .i64 0, .int .i64 0, .int .i64 0] 37 (0, 0))) (xc n : Nat) (hn : n ≤ 15) :
    Calls Try.prog 33 #[.slice (some ⟨bx, 0, none⟩) 1 xc, .int .i64 (n : Int)] w fun e w' => ∃ g, e = .returned (.slice (some ⟨g, 0, none⟩) n n) ∧ w.heap.size ≤ g ∧ w'.rowIs g 37 (n * 4) (vCell (nots n)) ∧ Below w.heap.size w w' := by
  have C := hidH (hmul w n hn)
  have hmk := hmake_vals n (by omega) w
  have M0 : Hid ((w.alloc (.cells (madeCells (#[.int .i64 0, .int .i64 0, .int .i64 0, .int .i64 0] : Array Value) (n * 4)) 37)).rowIs w.heap.size 37 (n * 4) (vCell (fillTo (nots n) 0))) := by
    have := made_vals w n
    rw [fillTo_none, List.length_replicate]
    rw [List.length_replicate] at this
    exact this
  have B0 := hidH (belA w (.cells (madeCells (#[.int .i64 0, .int .i64 0, .int .i64 0, .int .i64 0] : Array Value) (n * 4)) 37))
  have hsrc : ∀ j v, (nought4 (Nat.min 1 (n - 0)))[j]? = some v → (w.alloc (.cells (madeCells (#[.int .i64 0, .int .i64 0, .int .i64 0, .int .i64 0] : Array Value) (n * 4)) 37)).cell? ((⟨bx, 0, none⟩ : Addr).add j) = some v := fun j v hj => by
    obtain ⟨h1, h2⟩ := nought4_at _ j v hj
    have hj4 : j < 4 := by have : Nat.min 1 (n - 0) ≤ 1 := Nat.min_le_left _ _; omega
    rw [cell_add0, Nat.zero_add, h2]
    have hb := (B0.out.block bx (lt_of_block hx)).trans hx
    match j, hj4 with
    | 0, _ => exact cellOf hb 0 _ rfl
    | 1, _ => exact cellOf hb 1 _ rfl
    | 2, _ => exact cellOf hb 2 _ rfl
    | 3, _ => exact cellOf hb 3 _ rfl
    | j + 4, h => omega
  obtain ⟨w2, hc1, m2, b2⟩ := copy_nots (sLen := 1) (sCap := xc) (dCap := n) (Nat.zero_le n) M0.out rfl hsrc 3
  have M2 := hidH m2
  have B2 := hidH (b2 _ _ B0.out (Nat.le_refl _))
  have HN := hidH hn
  have hn0 : 0 ≤ (n : Int) := by omega
  have hnb : (n : Int) ≤ 15 := by omega
  have hu1 : IntKind.u64.wrap (n : Int) = (n : Int) := by rw [IntKind.wrap_u64]; omega
  have hu2 : IntKind.i64.wrap (n : Int) = (n : Int) := by rw [IntKind.wrap_i64]; omega
  have hng : decide ((n : Int) > 9223372036854775807) = false := decide_eq_false (by omega)
  simp only [Nat.zero_mul, Nat.sub_zero] at hc1 M2
  rw [Nat.zero_add] at M2
  generalize hk1 : Nat.min 1 n = k1 at hc1 M2
  have HK1 : Hid (k1 ≤ n ∧ (k1 = 0 → n = 0)) := by
    rw [← hk1]
    refine ⟨Nat.min_le_right _ _, fun h => ?_⟩
    show n = 0
    have : min 1 n = 0 := h
    omega
  clear hx m2 b2 M0 B0 hsrc hk1
  go_enter Try.func33, Try.ntmps33
  go_wp2_with (go_at_call 38; refine (C.out).mono ?_; rintro e w' ⟨rfl, hw⟩; have hw := hw.symm; subst hw)
  obtain ⟨g, hg⟩ : ∃ g, g = w.heap.size := ⟨_, rfl⟩
  have HG : Hid (w.heap.size ≤ g) := by show _ ≤ _; omega
  rw [← hg] at M2 ⊢
  clear hg
  go_loopw [8] (fun i wr => ∃ m : Nat, m ≤ n ∧ (m = 0 → n = 0) ∧ i = .int .i64 m ∧ wr.rowIs g 37 (n * 4) (vCell (fillTo (nots n) m)) ∧ Below w.heap.size w wr) (fun i _ => n - (intOf i).toNat)
  case atStart => exact ⟨k1, HK1.out.1, HK1.out.2, rfl, M2.out, B2.out⟩
  case round =>
    obtain ⟨m, hm, hm0, rfl, hR, hB⟩ := hrel
    have HR := hidH hR
    have HB := hidH hB
    have HM0 := hidH hm0
    clear hR hB hm0
    by_cases hlt : m < n
    · have hlt' : (m : Int) < n := by omega
      have hmp : 0 < m := by have := HM0.out; omega
      have hsrc : ∀ j v, (nought4 (Nat.min m (n - m)))[j]? = some v → wr.drew.cell? ((⟨g, 0, none⟩ : Addr).add j) = some v := fun j v hj => by
        obtain ⟨h1, h2⟩ := nought4_at _ j v hj
        have hl : Nat.min m (n - m) ≤ m := Nat.min_le_left _ _
        have hc : wr.cell? ⟨g, j, none⟩ = some (vCell (fillTo (nots n) m) j) := HR.out.cell (by omega)
        rw [fillN_at hm (by omega), if_pos (by omega)] at hc
        rw [cell_add0, Nat.zero_add, h2]
        exact hc
      obtain ⟨w3, hc3, m3, b3⟩ := copy_nots (w := wr.drew) (sLen := m) (sCap := n) (dCap := n - m) hm HR.out rfl hsrc 3
      have M3 := hidH m3
      have B3 := hidH (b3 _ _ (belowD HB.out) HG.out)
      generalize hk3 : Nat.min m (n - m) = k3 at hc3 M3
      have HK3 : Hid (0 < k3 ∧ m + k3 ≤ n) := by
        rw [← hk3]
        have h1 : Nat.min m (n - m) ≤ n - m := Nat.min_le_right _ _
        have h2 : 0 < Nat.min m (n - m) := Nat.lt_min.2 ⟨hmp, by omega⟩
        exact ⟨h2, by omega⟩
      have hk3b : k3 ≤ n := by have := HK3.out; omega
      clear m3 b3 hsrc hk3 HR
      go_wp2_with fail
      go_region
      go_wp2
      go_roundw
      case rel => exact ⟨m + k3, HK3.out.2, fun e => by have := HK3.out; omega, by go_num, M3.out, B3.out⟩
      case measure => have := HK3.out; simp [intOf]; omega
    · have hmn : m = n := by omega
      subst hmn
      go_wp2
      go_ret
      refine ⟨g, rfl, HG.out, ?_, HB.out⟩
      have := HR.out
      rw [show fillTo (nots m) m = nots m by have := fillTo_all (nots m); rwa [List.length_replicate] at this] at this
      exact this
end Go.Proofs.Ytjhdpajpibdnaae
