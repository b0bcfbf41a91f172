/-
  NARROWER THAN 'FOR EVERY INPUT', by the rows' own cells (each row's printed sentence says how): JudgeGrows: loops · VerifyChecks: loops · VerifyEach: loops.
  DERIVED. THE GIVEN ROWS OF THIS SEAT. 3 by the template 'for every input the law returns true; each argument reads behind the call as it read before'; 0 by the template 'total and deterministic' (their statements: YtlnkdhnibcenbaeGreatTotals.lean).
  GIVEN WITH THE SEED: the statements are not yours to turn. If you find one false, say at which input.
  Laid BY PROGRAM, IN A SANDBOX (cutbox-rows.mjs): the forced cells as the released guide's own fill.sh prints them over the translation 425d5587a876d622… (all of the seat's roots in one cut). By AI agents, Wed Nov 11 2026. No macro, syntax, notation, axiom, sorry.
-/
import Derived.Test.YtlnkdhnibcenbaeGreatChecked
import GoSem.Claim
import GoSem.ClaimJoined
import GoSem.ClaimMapViews
import Derived.JoinedTies
import Derived.KernelRfl
namespace Go.Proofs.YtlnkdhnibcenbaeGreat
/- THE CELL 'sum', in the pinned program and in every row, IS THE sha256 OF THE DUMP (.gsa) THAT YtlnkdhnibcenbaeGreatProg.lean LOADS. Nothing in Lean hashes anything: it is a label: what it is worth is what the hold of that sum in a sandbox is worth. -/
noncomputable def Tryz.pinned : Pinned := { name := "ytlnkdhnibcenbaegreat", sum := "425d5587a876d6220250ce18c6b0e421569daface15296f827d9def1f906607e", checked := Tryz.checked }
namespace Rows
def none {H : Type} : Left H := { results := [], args := [] }

/-- 'copyholdlaw.JudgeGrows': WHATEVER THE INPUT: true; the input reads as it did. -/
def judgeGrowsSpec : ChangeSpec := { name := "judgeGrows", fn := fun _ => fun
  | [d1, d2, d3, d4] => { results := [.lit (.bool true)], args := [d1, d2, d3, d4] }
  | _ => none }
def judgeGrowsRow : OpenClaim := { program := "ytlnkdhnibcenbaegreat", sum := "425d5587a876d6220250ce18c6b0e421569daface15296f827d9def1f906607e", func := "copyhold/copyholdlaw.JudgeGrows", spec := "judgeGrows", unfollowed := true, recurses := true, loops := true, apart := false }
def JudgeGrowsSaid : Prop := judgeGrowsRow.holds Tryz.pinned (OpenSpec.ofChange judgeGrowsSpec)

/-- ITS FALSE NEIGHBOUR: 'it returns false'. Refute it at one input. -/
def judgeGrowsWrong : ChangeSpec := { name := "judgeGrows", fn := fun _ => fun
  | [d1, d2, d3, d4] => { results := [.lit (.bool false)], args := [d1, d2, d3, d4] }
  | _ => none }
def JudgeGrowsWrongFalsely : Prop := judgeGrowsRow.holds Tryz.pinned (OpenSpec.ofChange judgeGrowsWrong)

/-- 'copyholdlaw.VerifyChecks': WHATEVER THE INPUT: true; the input reads as it did. -/
def verifyChecksSpec : ChangeSpec := { name := "verifyChecks", fn := fun _ => fun
  | [d] => { results := [.lit (.bool true)], args := [d] }
  | _ => none }
def verifyChecksRow : OpenClaim := { program := "ytlnkdhnibcenbaegreat", sum := "425d5587a876d6220250ce18c6b0e421569daface15296f827d9def1f906607e", func := "copyhold/copyholdlaw.VerifyChecks", spec := "verifyChecks", unfollowed := true, recurses := true, loops := true, apart := false }
def VerifyChecksSaid : Prop := verifyChecksRow.holds Tryz.pinned (OpenSpec.ofChange verifyChecksSpec)

/-- ITS FALSE NEIGHBOUR: 'it returns false'. Refute it at one input. -/
def verifyChecksWrong : ChangeSpec := { name := "verifyChecks", fn := fun _ => fun
  | [d] => { results := [.lit (.bool false)], args := [d] }
  | _ => none }
def VerifyChecksWrongFalsely : Prop := verifyChecksRow.holds Tryz.pinned (OpenSpec.ofChange verifyChecksWrong)

/-- 'copyholdlaw.VerifyEach': WHATEVER THE INPUT: true; the input reads as it did. -/
def verifyEachSpec : ChangeSpec := { name := "verifyEach", fn := fun _ => fun
  | [d1, d2, d3] => { results := [.lit (.bool true)], args := [d1, d2, d3] }
  | _ => none }
def verifyEachRow : OpenClaim := { program := "ytlnkdhnibcenbaegreat", sum := "425d5587a876d6220250ce18c6b0e421569daface15296f827d9def1f906607e", func := "copyhold/copyholdlaw.VerifyEach", spec := "verifyEach", unfollowed := true, recurses := true, loops := true, apart := false }
def VerifyEachSaid : Prop := verifyEachRow.holds Tryz.pinned (OpenSpec.ofChange verifyEachSpec)

/-- ITS FALSE NEIGHBOUR: 'it returns false'. Refute it at one input. -/
def verifyEachWrong : ChangeSpec := { name := "verifyEach", fn := fun _ => fun
  | [d1, d2, d3] => { results := [.lit (.bool false)], args := [d1, d2, d3] }
  | _ => none }
def VerifyEachWrongFalsely : Prop := verifyEachRow.holds Tryz.pinned (OpenSpec.ofChange verifyEachWrong)

/- THE SECOND FORM. 'bulk': how many values and letters a reading holds, each counted each time it is reached (what is shared counts as often as it is met; a slice's spare places count too). A statement '..UptoSaid' is the law's where the arguments, and the package variables that the reading takes, are together of bulk at most 1048576: NARROWER than '..Said'. Prove '..Said' where nothing that the law and all that it calls make is longer than what came in: it says more and counts as full. Else prove '..UptoSaid'. A law counts once. -/
mutual
def uptoBulk {H : Type} : DataW H → Nat
  | .lit (.string bytes) => bytes.length + 1
  | .lit _ => 1
  | .nil => 1
  | .ptr d => uptoBulk d + 1
  | .slice elems spare => uptoBulkAll elems + uptoBulkAll spare + 1
  | .agg parts => uptoBulkAll parts + 1
  | .iface _ d => uptoBulk d + 1
  | .map entries => uptoBulkEntries entries + 1
  | .held _ => 1
def uptoBulkAll {H : Type} : List (DataW H) → Nat
  | [] => 0
  | d :: r => uptoBulk d + uptoBulkAll r
def uptoBulkEntries {H : Type} : List (Lit × DataW H) → Nat
  | [] => 0
  | x :: r => uptoBulkEntry x + uptoBulkEntries r
def uptoBulkEntry {H : Type} : Lit × DataW H → Nat
  | (.string bytes, d) => bytes.length + uptoBulk d + 1
  | (_, d) => uptoBulk d + 1
 end
def uptoSmall : (H : Type) → List (DataW H) → Bool := fun _ ds => decide (uptoBulkAll ds ≤ 1048576)
def OpenSpec.upto (s : _root_.Go.ChangeSpec) : _root_.Go.OpenSpec := { _root_.Go.OpenSpec.ofChange s with cond := some uptoSmall }

/-- 'copyholdlaw.JudgeGrows', WHERE WHAT IT READS IS OF BULK AT MOST 1048576: true; the input reads as it did. -/
def judgeGrowsUptoRow : OpenClaim := { program := "ytlnkdhnibcenbaegreat", sum := "425d5587a876d6220250ce18c6b0e421569daface15296f827d9def1f906607e", func := "copyhold/copyholdlaw.JudgeGrows", spec := "judgeGrows", unfollowed := true, recurses := true, loops := true, apart := false, narrowed := true }
def JudgeGrowsUptoSaid : Prop := judgeGrowsUptoRow.holds Tryz.pinned (OpenSpec.upto judgeGrowsSpec)

/-- 'copyholdlaw.VerifyChecks', WHERE WHAT IT READS IS OF BULK AT MOST 1048576: true; the input reads as it did. -/
def verifyChecksUptoRow : OpenClaim := { program := "ytlnkdhnibcenbaegreat", sum := "425d5587a876d6220250ce18c6b0e421569daface15296f827d9def1f906607e", func := "copyhold/copyholdlaw.VerifyChecks", spec := "verifyChecks", unfollowed := true, recurses := true, loops := true, apart := false, narrowed := true }
def VerifyChecksUptoSaid : Prop := verifyChecksUptoRow.holds Tryz.pinned (OpenSpec.upto verifyChecksSpec)

/-- 'copyholdlaw.VerifyEach', WHERE WHAT IT READS IS OF BULK AT MOST 1048576: true; the input reads as it did. -/
def verifyEachUptoRow : OpenClaim := { program := "ytlnkdhnibcenbaegreat", sum := "425d5587a876d6220250ce18c6b0e421569daface15296f827d9def1f906607e", func := "copyhold/copyholdlaw.VerifyEach", spec := "verifyEach", unfollowed := true, recurses := true, loops := true, apart := false, narrowed := true }
def VerifyEachUptoSaid : Prop := verifyEachUptoRow.holds Tryz.pinned (OpenSpec.upto verifyEachSpec)

end Rows
end Go.Proofs.YtlnkdhnibcenbaeGreat
