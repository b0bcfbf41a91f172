/-
  NARROWER THAN 'FOR EVERY INPUT', by the rows' own cells (each row's printed sentence says how): CodecDoes: loops · CodecBack: loops · CodecTorn: loops · JudgeDoes: loops · JudgeHeld: loops.
  DERIVED. THE GIVEN ROWS OF THIS SEAT. 5 by the template 'for every input the law returns true; each argument reads behind the call as it read before'; 0 by the template 'total and deterministic' (their statements: YtacjnejckfhpoadGreatTotals.lean).
  GIVEN WITH THE SEED: the statements are not yours to turn. If you find one false, say at which input.
  Laid BY PROGRAM, IN A SANDBOX (cutbox-rows.mjs): the forced cells as the released guide's own fill.sh prints them over the translation 74a25e3c7868357f… (all of the seat's roots in one cut). By AI agents, Wed Nov 11 2026. No macro, syntax, notation, axiom, sorry.
-/
import Derived.Test.YtacjnejckfhpoadGreatChecked
import GoSem.Claim
import GoSem.ClaimJoined
import GoSem.ClaimMapViews
import Derived.JoinedTies
import Derived.KernelRfl
namespace Go.Proofs.YtacjnejckfhpoadGreat
/- THE CELL 'sum', in the pinned program and in every row, IS THE sha256 OF THE DUMP (.gsa) THAT YtacjnejckfhpoadGreatProg.lean LOADS. Nothing in Lean hashes anything: it is a label: what it is worth is what the hold of that sum in a sandbox is worth. -/
noncomputable def Tryz.pinned : Pinned := { name := "ytacjnejckfhpoadgreat", sum := "74a25e3c7868357f5bdf9d40dd3a55f08b27c7fd09b73775d7dc97444311a0e9", checked := Tryz.checked }
namespace Rows
def none {H : Type} : Left H := { results := [], args := [] }

/-- 'copyholdlaw.CodecDoes': WHATEVER THE INPUT: true; the input reads as it did. -/
def codecDoesSpec : ChangeSpec := { name := "codecDoes", fn := fun _ => fun
  | [d1, d2] => { results := [.lit (.bool true)], args := [d1, d2] }
  | _ => none }
def codecDoesRow : OpenClaim := { program := "ytacjnejckfhpoadgreat", sum := "74a25e3c7868357f5bdf9d40dd3a55f08b27c7fd09b73775d7dc97444311a0e9", func := "copyhold/copyholdlaw.CodecDoes", spec := "codecDoes", unfollowed := true, recurses := true, loops := true, apart := false }
def CodecDoesSaid : Prop := codecDoesRow.holds Tryz.pinned (OpenSpec.ofChange codecDoesSpec)

/-- ITS FALSE NEIGHBOUR: 'it returns false'. Refute it at one input. -/
def codecDoesWrong : ChangeSpec := { name := "codecDoes", fn := fun _ => fun
  | [d1, d2] => { results := [.lit (.bool false)], args := [d1, d2] }
  | _ => none }
def CodecDoesWrongFalsely : Prop := codecDoesRow.holds Tryz.pinned (OpenSpec.ofChange codecDoesWrong)

/-- 'copyholdlaw.CodecBack': WHATEVER THE INPUT: true; the input reads as it did. -/
def codecBackSpec : ChangeSpec := { name := "codecBack", fn := fun _ => fun
  | [d1, d2] => { results := [.lit (.bool true)], args := [d1, d2] }
  | _ => none }
def codecBackRow : OpenClaim := { program := "ytacjnejckfhpoadgreat", sum := "74a25e3c7868357f5bdf9d40dd3a55f08b27c7fd09b73775d7dc97444311a0e9", func := "copyhold/copyholdlaw.CodecBack", spec := "codecBack", unfollowed := true, recurses := true, loops := true, apart := false }
def CodecBackSaid : Prop := codecBackRow.holds Tryz.pinned (OpenSpec.ofChange codecBackSpec)

/-- ITS FALSE NEIGHBOUR: 'it returns false'. Refute it at one input. -/
def codecBackWrong : ChangeSpec := { name := "codecBack", fn := fun _ => fun
  | [d1, d2] => { results := [.lit (.bool false)], args := [d1, d2] }
  | _ => none }
def CodecBackWrongFalsely : Prop := codecBackRow.holds Tryz.pinned (OpenSpec.ofChange codecBackWrong)

/-- 'copyholdlaw.CodecTorn': WHATEVER THE INPUT: true; the input reads as it did. -/
def codecTornSpec : ChangeSpec := { name := "codecTorn", fn := fun _ => fun
  | [d1, d2, d3] => { results := [.lit (.bool true)], args := [d1, d2, d3] }
  | _ => none }
def codecTornRow : OpenClaim := { program := "ytacjnejckfhpoadgreat", sum := "74a25e3c7868357f5bdf9d40dd3a55f08b27c7fd09b73775d7dc97444311a0e9", func := "copyhold/copyholdlaw.CodecTorn", spec := "codecTorn", unfollowed := true, recurses := true, loops := true, apart := false }
def CodecTornSaid : Prop := codecTornRow.holds Tryz.pinned (OpenSpec.ofChange codecTornSpec)

/-- ITS FALSE NEIGHBOUR: 'it returns false'. Refute it at one input. -/
def codecTornWrong : ChangeSpec := { name := "codecTorn", fn := fun _ => fun
  | [d1, d2, d3] => { results := [.lit (.bool false)], args := [d1, d2, d3] }
  | _ => none }
def CodecTornWrongFalsely : Prop := codecTornRow.holds Tryz.pinned (OpenSpec.ofChange codecTornWrong)

/-- 'copyholdlaw.JudgeDoes': WHATEVER THE INPUT: true; the input reads as it did. -/
def judgeDoesSpec : ChangeSpec := { name := "judgeDoes", fn := fun _ => fun
  | [d1, d2, d3, d4, d5] => { results := [.lit (.bool true)], args := [d1, d2, d3, d4, d5] }
  | _ => none }
def judgeDoesRow : OpenClaim := { program := "ytacjnejckfhpoadgreat", sum := "74a25e3c7868357f5bdf9d40dd3a55f08b27c7fd09b73775d7dc97444311a0e9", func := "copyhold/copyholdlaw.JudgeDoes", spec := "judgeDoes", unfollowed := true, recurses := true, loops := true, apart := false }
def JudgeDoesSaid : Prop := judgeDoesRow.holds Tryz.pinned (OpenSpec.ofChange judgeDoesSpec)

/-- ITS FALSE NEIGHBOUR: 'it returns false'. Refute it at one input. -/
def judgeDoesWrong : ChangeSpec := { name := "judgeDoes", fn := fun _ => fun
  | [d1, d2, d3, d4, d5] => { results := [.lit (.bool false)], args := [d1, d2, d3, d4, d5] }
  | _ => none }
def JudgeDoesWrongFalsely : Prop := judgeDoesRow.holds Tryz.pinned (OpenSpec.ofChange judgeDoesWrong)

/-- 'copyholdlaw.JudgeHeld': WHATEVER THE INPUT: true; the input reads as it did. -/
def judgeHeldSpec : ChangeSpec := { name := "judgeHeld", fn := fun _ => fun
  | [d1, d2, d3, d4] => { results := [.lit (.bool true)], args := [d1, d2, d3, d4] }
  | _ => none }
def judgeHeldRow : OpenClaim := { program := "ytacjnejckfhpoadgreat", sum := "74a25e3c7868357f5bdf9d40dd3a55f08b27c7fd09b73775d7dc97444311a0e9", func := "copyhold/copyholdlaw.JudgeHeld", spec := "judgeHeld", unfollowed := true, recurses := true, loops := true, apart := false }
def JudgeHeldSaid : Prop := judgeHeldRow.holds Tryz.pinned (OpenSpec.ofChange judgeHeldSpec)

/-- ITS FALSE NEIGHBOUR: 'it returns false'. Refute it at one input. -/
def judgeHeldWrong : ChangeSpec := { name := "judgeHeld", fn := fun _ => fun
  | [d1, d2, d3, d4] => { results := [.lit (.bool false)], args := [d1, d2, d3, d4] }
  | _ => none }
def JudgeHeldWrongFalsely : Prop := judgeHeldRow.holds Tryz.pinned (OpenSpec.ofChange judgeHeldWrong)

/- THE SECOND FORM. 'bulk': how many values and letters a reading holds, each counted each time it is reached (what is shared counts as often as it is met; a slice's spare places count too). A statement '..UptoSaid' is the law's where the arguments, and the package variables that the reading takes, are together of bulk at most 1048576: NARROWER than '..Said'. Prove '..Said' where nothing that the law and all that it calls make is longer than what came in: it says more and counts as full. Else prove '..UptoSaid'. A law counts once. -/
mutual
def uptoBulk {H : Type} : DataW H → Nat
  | .lit (.string bytes) => bytes.length + 1
  | .lit _ => 1
  | .nil => 1
  | .ptr d => uptoBulk d + 1
  | .slice elems spare => uptoBulkAll elems + uptoBulkAll spare + 1
  | .agg parts => uptoBulkAll parts + 1
  | .iface _ d => uptoBulk d + 1
  | .map entries => uptoBulkEntries entries + 1
  | .held _ => 1
def uptoBulkAll {H : Type} : List (DataW H) → Nat
  | [] => 0
  | d :: r => uptoBulk d + uptoBulkAll r
def uptoBulkEntries {H : Type} : List (Lit × DataW H) → Nat
  | [] => 0
  | x :: r => uptoBulkEntry x + uptoBulkEntries r
def uptoBulkEntry {H : Type} : Lit × DataW H → Nat
  | (.string bytes, d) => bytes.length + uptoBulk d + 1
  | (_, d) => uptoBulk d + 1
 end
def uptoSmall : (H : Type) → List (DataW H) → Bool := fun _ ds => decide (uptoBulkAll ds ≤ 1048576)
def OpenSpec.upto (s : _root_.Go.ChangeSpec) : _root_.Go.OpenSpec := { _root_.Go.OpenSpec.ofChange s with cond := some uptoSmall }

/-- 'copyholdlaw.CodecDoes', WHERE WHAT IT READS IS OF BULK AT MOST 1048576: true; the input reads as it did. -/
def codecDoesUptoRow : OpenClaim := { program := "ytacjnejckfhpoadgreat", sum := "74a25e3c7868357f5bdf9d40dd3a55f08b27c7fd09b73775d7dc97444311a0e9", func := "copyhold/copyholdlaw.CodecDoes", spec := "codecDoes", unfollowed := true, recurses := true, loops := true, apart := false, narrowed := true }
def CodecDoesUptoSaid : Prop := codecDoesUptoRow.holds Tryz.pinned (OpenSpec.upto codecDoesSpec)

/-- 'copyholdlaw.CodecBack', WHERE WHAT IT READS IS OF BULK AT MOST 1048576: true; the input reads as it did. -/
def codecBackUptoRow : OpenClaim := { program := "ytacjnejckfhpoadgreat", sum := "74a25e3c7868357f5bdf9d40dd3a55f08b27c7fd09b73775d7dc97444311a0e9", func := "copyhold/copyholdlaw.CodecBack", spec := "codecBack", unfollowed := true, recurses := true, loops := true, apart := false, narrowed := true }
def CodecBackUptoSaid : Prop := codecBackUptoRow.holds Tryz.pinned (OpenSpec.upto codecBackSpec)

/-- 'copyholdlaw.CodecTorn', WHERE WHAT IT READS IS OF BULK AT MOST 1048576: true; the input reads as it did. -/
def codecTornUptoRow : OpenClaim := { program := "ytacjnejckfhpoadgreat", sum := "74a25e3c7868357f5bdf9d40dd3a55f08b27c7fd09b73775d7dc97444311a0e9", func := "copyhold/copyholdlaw.CodecTorn", spec := "codecTorn", unfollowed := true, recurses := true, loops := true, apart := false, narrowed := true }
def CodecTornUptoSaid : Prop := codecTornUptoRow.holds Tryz.pinned (OpenSpec.upto codecTornSpec)

/-- 'copyholdlaw.JudgeDoes', WHERE WHAT IT READS IS OF BULK AT MOST 1048576: true; the input reads as it did. -/
def judgeDoesUptoRow : OpenClaim := { program := "ytacjnejckfhpoadgreat", sum := "74a25e3c7868357f5bdf9d40dd3a55f08b27c7fd09b73775d7dc97444311a0e9", func := "copyhold/copyholdlaw.JudgeDoes", spec := "judgeDoes", unfollowed := true, recurses := true, loops := true, apart := false, narrowed := true }
def JudgeDoesUptoSaid : Prop := judgeDoesUptoRow.holds Tryz.pinned (OpenSpec.upto judgeDoesSpec)

/-- 'copyholdlaw.JudgeHeld', WHERE WHAT IT READS IS OF BULK AT MOST 1048576: true; the input reads as it did. -/
def judgeHeldUptoRow : OpenClaim := { program := "ytacjnejckfhpoadgreat", sum := "74a25e3c7868357f5bdf9d40dd3a55f08b27c7fd09b73775d7dc97444311a0e9", func := "copyhold/copyholdlaw.JudgeHeld", spec := "judgeHeld", unfollowed := true, recurses := true, loops := true, apart := false, narrowed := true }
def JudgeHeldUptoSaid : Prop := judgeHeldUptoRow.holds Tryz.pinned (OpenSpec.upto judgeHeldSpec)

end Rows
end Go.Proofs.YtacjnejckfhpoadGreat
