/-
  How tokens lie in memory; strings as lists of bytes. No function of the program is spoken of.
-/
import Derived.Test.YtlahoehngnebnacDoorTokSpec
import Derived.Test.YtlahoehngnebnacDoorLay
namespace Go.Proofs.YtlahoehngnebnacDoor
open Go.ChangeShapes Go.WideShapes Go.ChangeAt Go.RowKit
set_option linter.unusedVariables false

/-- The string of a list of bytes. -/
def str (l : List UInt8) : ByteArray := ⟨l.toArray⟩
theorem str_list (l : List UInt8) : (str l).data.toList = l := rfl
theorem str_size (l : List UInt8) : (str l).size = l.length := by simp [str, ByteArray.size]
theorem str_self (s : ByteArray) : str s.data.toList = s := rfl
theorem list_len (s : ByteArray) : s.data.toList.length = s.size := Array.length_toList
theorem ext_list (s : ByteArray) (a b : Nat) : (s.extract a b).data.toList = (s.data.toList.drop a).take (b - a) := by
  simp [ByteArray.extract, ByteArray.copySlice, List.take_drop]
theorem ext_str (s : ByteArray) (a b : Nat) : s.extract a b = str ((s.data.toList.drop a).take (b - a)) := by
  rw [← ext_list]; rfl
theorem drop_at (s : ByteArray) (k : Nat) (h : k < s.size) : s.data.toList.drop k = s[k] :: s.data.toList.drop (k + 1) := by
  rw [List.drop_eq_getElem_cons (by rw [list_len]; exact h)]; rfl
theorem drop_end (s : ByteArray) (k : Nat) (h : ¬ k < s.size) : s.data.toList.drop k = [] := List.drop_of_length_le (by rw [list_len]; omega)
theorem str_inj {a b : List UInt8} (h : str a = str b) : a = b := by
  exact congrArg (fun s : ByteArray => s.data.toList) h

/-- A token's cells. -/
def Tk.cells (t : Tk) : List Value := [.int .i64 t.pos, .string (str t.text), .bool t.num, .int .i64 t.n]
def tkL : Lay Tk where
  size := 4
  In := fun _ _ x cs => cs = x.cells
  len := fun h => by rw [h]; rfl
  keep := fun _ _ h => h
/-- What a scan answers. -/
def ScOut (w w' : World) (r : Sc) (e : Ending) : Prop :=
  match r with
  | .fault c a => e = .returned (.tuple #[.slice none 0 0, .agg #[.int .i64 c, .int .i64 a]]) ∧ Below w.heap.size w w'
  | .ok l => ∃ a c, e = .returned (.tuple #[.slice a l.length c, .agg #[.int .i64 0, .int .i64 0]]) ∧ tkL.list.In w' (fun g => w.heap.size ≤ g) l [.slice a l.length c] ∧ Below w.heap.size w w'
/-- What one token answers: the struct and the code. -/
def TkR.val (pos : Nat) (l : List UInt8) : TkR → Value
  | .bad c => .tuple #[.agg #[.int .i64 0, .string (str []), .bool false, .int .i64 0], .int .i64 c]
  | .ok k b n => .tuple #[.agg #[.int .i64 pos, .string (str (l.take k)), .bool b, .int .i64 n], .int .i64 0]
end Go.Proofs.YtlahoehngnebnacDoor
