/-
  copyholdlaw.tokenBegun.
-/
import Derived.Test.YtlahoehngnebnacDoorTokScan
namespace Go.Proofs.YtlahoehngnebnacDoor
open Go.ChangeShapes Go.WideShapes Go.ChangeAt Go.RowKit Go.Shelf
set_option linter.unusedVariables false
set_option linter.unusedSimpArgs false

theorem itoa_m1 : Lib.itoa (-1) = [45, 49] := by
  unfold Lib.itoa
  rw [if_pos (by decide), Lib.decDigits, dif_pos (by decide)]
  rfl
theorem num_m1 : numOf [45, 49] = some (-1) := by
  have h : Lib.parseIntB 64 [45, 49] = .ok (-1) := by kernel_rfl
  unfold numOf
  rw [h]
  simp only [itoa_m1, if_true]
def begT : List UInt8 := [106, 117, 109, 112, 32, 45, 49, 32, 60, 62, 59, 35, 32, 120]
def begL : List Tk := [⟨0, [106, 117, 109, 112], false, 0⟩, ⟨5, [45, 49], true, -1⟩, ⟨8, [60], false, 0⟩, ⟨9, [62], false, 0⟩, ⟨10, [59], false, 0⟩]
theorem beg_tail : scanF 13 8 [60, 62, 59, 35, 32, 120] = .ok [⟨8, [60], false, 0⟩, ⟨9, [62], false, 0⟩, ⟨10, [59], false, 0⟩] := by kernel_rfl
theorem beg_num : tok [45, 49, 32, 60, 62, 59, 35, 32, 120] = .ok 2 true (-1) := by
  have h : tokLen [45, 49, 32, 60, 62, 59, 35, 32, 120] = (2, true) := by kernel_rfl
  unfold tok
  rw [h]
  simp [num_m1]
theorem beg_mid : scanF 14 5 [45, 49, 32, 60, 62, 59, 35, 32, 120] = .ok [⟨5, [45, 49], true, -1⟩, ⟨8, [60], false, 0⟩, ⟨9, [62], false, 0⟩, ⟨10, [59], false, 0⟩] := by
  rw [scanF, if_neg (by simp), beg_num]
  show (scanF 13 8 [60, 62, 59, 35, 32, 120]).app _ = _
  rw [beg_tail]
  rfl
theorem beg_all : scanL begT = .ok begL := by
  show scanF 15 0 [106, 117, 109, 112, 32, 45, 49, 32, 60, 62, 59, 35, 32, 120] = _
  have h : tok [106, 117, 109, 112, 32, 45, 49, 32, 60, 62, 59, 35, 32, 120] = .ok 4 false 0 := by kernel_rfl
  rw [scanF, if_neg (by simp), h]
  show (scanF 14 5 [45, 49, 32, 60, 62, 59, 35, 32, 120]).app _ = _
  rw [beg_mid]
  rfl

/-- A token of a list that lies in memory: its four cells. -/
theorem tk_at {w : World} {O : Nat → Prop} {l : List Tk} {a : Option Addr} {n c : Nat} (h : tkL.list.In w O l [.slice a n c]) {i : Nat} {x : Tk} (hx : l[i]? = some x) :
    ∃ g o, a = some ⟨g, o, none⟩ ∧ O g ∧ g < w.heap.size ∧ w.cell? ⟨g, o + i * 4, none⟩ = some (.int .i64 x.pos) ∧ w.cell? ⟨g, o + i * 4 + 1, none⟩ = some (.string (str x.text)) ∧ w.cell? ⟨g, o + i * 4 + 2, none⟩ = some (.bool x.num) ∧ w.cell? ⟨g, o + i * 4 + 3, none⟩ = some (.int .i64 x.n) := by
  obtain ⟨g, o, ds, e1, e2, e3, hc, hd⟩ := Lay.list_at h hx
  have hd' : ds = x.cells := hd
  subst hd'
  exact ⟨g, o, e1, e2, e3, hc 0 (by decide), hc 1 (by decide), hc 2 (by decide), hc 3 (by decide)⟩

set_option maxHeartbeats 4000000 in
set_option maxRecDepth 100000 in
theorem begun_any (w : World) (hw0 : Laid w) : Calls Tryd.prog 4 #[] w fun e w' => e = .returned (.bool true) ∧ Below w.heap.size w w' := by
  have C : Hid (Calls Tryd.prog 5 #[.string ⟨#[106, 117, 109, 112, 32, 45, 49, 32, 60, 62, 59, 35, 32, 120]⟩] w fun e w' => ∃ a c, e = .returned (.tuple #[.slice a 5 c, .agg #[.int .i64 0, .int .i64 0]]) ∧ tkL.list.In w' (fun g => w.heap.size ≤ g) begL [.slice a 5 c] ∧ Below w.heap.size w w') := by
    have h := scan_any ⟨#[106, 117, 109, 112, 32, 45, 49, 32, 60, 62, 59, 35, 32, 120]⟩ w hw0 (by decide)
    rw [show (⟨#[106, 117, 109, 112, 32, 45, 49, 32, 60, 62, 59, 35, 32, 120]⟩ : ByteArray).data.toList = begT from rfl, beg_all] at h
    exact h
  clear hw0
  go_enter Tryd.func4, Tryd.ntmps4
  go_wp2_with fail
  refine C.out.mono ?_
  rintro e w2 ⟨a, c, rfl, hl, hb⟩
  obtain ⟨g, o, rfl, _, hg, c0, c1, c2, c3⟩ := tk_at hl (i := 1) (x := ⟨5, [45, 49], true, -1⟩) rfl
  obtain ⟨g', o', e', _, _, d0, d1, d2, d3⟩ := tk_at hl (i := 4) (x := ⟨10, [59], false, 0⟩) rfl
  simp only [Option.some.injEq, Addr.mk.injEq, and_true] at e'
  obtain ⟨rfl, rfl⟩ := e'
  have B : Hid (Below w.heap.size w w2) := hb
  clear hl hb C
  simp only [Nat.one_mul, Nat.reduceMul, Nat.add_assoc, Nat.reduceAdd] at c0 c1 c2 c3 d0 d1 d2 d3
  go_wp2
  go_ret
  exact ⟨rfl, B.out.alloc B.out.size _⟩
end Go.Proofs.YtlahoehngnebnacDoor
