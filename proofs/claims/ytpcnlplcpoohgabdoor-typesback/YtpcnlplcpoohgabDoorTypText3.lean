/-
  types.Text: the text of a type.
-/
import Derived.Test.YtpcnlplcpoohgabDoorTypText2
namespace Go.Proofs.YtpcnlplcpoohgabDoor
open Go.ChangeShapes Go.WideShapes Go.ChangeAt Go.RowKit
set_option linter.unusedVariables false

def TextAt (f n : Nat) : Prop := ∀ (t : TT n) (a : Option Addr) (c : Nat) (w : World), TIn w All t a → t.count ≤ 2000 → t.ok → Pows w →
    Calls Tryd.prog f #[Tv t a c] w fun e w' => e = .returned (.string ⟨t.txt.toArray⟩) ∧ Below w.heap.size w w'

theorem isB_new (w : World) (o : Obj) : IsB w.heap.size (w.heap.size + 1) [] ((w.alloc o).alloc (.cells #[.pointer none, .slice none 0 0] 46)) := by
  refine Or.inl ⟨by omega, .slice none 0 0, ?_, ⟨rfl, Or.inl ⟨rfl, rfl⟩⟩, by simp [Value.ownBlock]⟩
  have := blockNew (w.alloc o) #[.pointer none, .slice none 0 0] 46
  simpa using this

set_option maxHeartbeats 4000000 in
set_option maxRecDepth 100000 in
theorem text_any (n : Nat) : TextAt 14 n := by
  intro t a c w ht hct hok hp
  have hpb : PowB w.heap.size w := fun w' hb => hp.below hb
  have hct2 : ([] : List UInt8).length + 100 * t.count ≤ 1000000000 := by simp; omega
  have C : Hid (∀ wx, Below w.heap.size w wx → IsB w.heap.size (w.heap.size + 1) [] wx → Calls Tryd.prog 25 #[.pointer (some ⟨w.heap.size + 1, 0, none⟩), Tv t a c] wx fun e w' => e = .returned (.tuple #[]) ∧ IsB w.heap.size (w.heap.size + 1) t.txt w' ∧ Below w.heap.size wx w') :=
    fun wx hb hI => write_any n t a c w.heap.size (w.heap.size + 1) [] wx hI ((ht.mono (O' := Lt w.heap.size) (fun k _ hk => hk)).lt hb) hct hok hb.size (hpb.on hb) hct2
  clear ht hct hok hp hpb hct2
  simp only [Tv] at C ⊢
  generalize t.kind = k at C ⊢
  generalize t.r = r at C ⊢
  generalize t.len = len at C ⊢
  generalize t.txt = res at C ⊢
  go_enter Tryd.func14, Tryd.ntmps14
  go_wp2_with fail
  have I0 := isB_new w (.cells #[.int .i64 k, .int .i64 r, .slice a len c] 24)
  have b0 : Below w.heap.size w ((w.alloc (.cells #[.int .i64 k, .int .i64 r, .slice a len c] 24)).alloc (.cells #[.pointer none, .slice none 0 0] 46)) := ((Below.refl _ w).alloc (Nat.le_refl _) _).alloc (by simp) _
  refine (C.out _ b0 I0).mono ?_
  rintro e w2 ⟨rfl, I2, b2⟩
  have I2' : Hid (IsB w.heap.size (w.heap.size + 1) res w2) := I2
  have B2 : Hid (Below w.heap.size w w2) := b0.trans b2
  clear C I0 b0 I2 b2
  go_wp2_with fail
  refine (str_any w.heap.size (w.heap.size + 1) res w2 I2'.out B2.out.size).mono ?_
  rintro e w3 ⟨rfl, b3⟩
  have B3 : Hid (Below w.heap.size w w3) := B2.out.trans b3
  clear b3 I2' B2
  go_wp2
  go_ret
  exact ⟨rfl, B3.out⟩
end Go.Proofs.YtpcnlplcpoohgabDoor
