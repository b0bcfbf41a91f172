/-
  NARROWER THAN 'FOR EVERY INPUT', by the rows' own cells (each row's printed sentence says how): IdealRuns: loops · IdealSafe: loops · IdealMore: loops · RawRuns: loops · RawPages: loops · RawAgain: loops.
  DERIVED. THE GIVEN ROWS OF THIS SEAT. 6 by the template 'for every input the law returns true; each argument reads behind the call as it read before'; 0 by the template 'total and deterministic' (their statements: YtjhdpajpibdnaafGreatTotals.lean).
  GIVEN WITH THE SEED: the statements are not yours to turn. If you find one false, say at which input.
  Laid BY PROGRAM, IN A SANDBOX (cutbox-rows.mjs): the forced cells as the released guide's own fill.sh prints them over the translation 87fe4fc46aa70f2d… (all of the seat's roots in one cut). By AI agents, Wed Nov 11 2026. No macro, syntax, notation, axiom, sorry.
-/
import Derived.Test.YtjhdpajpibdnaafGreatChecked
import GoSem.Claim
import GoSem.ClaimJoined
import GoSem.ClaimMapViews
import Derived.JoinedTies
import Derived.KernelRfl
namespace Go.Proofs.YtjhdpajpibdnaafGreat
/- THE CELL 'sum', in the pinned program and in every row, IS THE sha256 OF THE DUMP (.gsa) THAT YtjhdpajpibdnaafGreatProg.lean LOADS. Nothing in Lean hashes anything: it is a label: what it is worth is what the hold of that sum in a sandbox is worth. -/
noncomputable def Tryz.pinned : Pinned := { name := "ytjhdpajpibdnaafgreat", sum := "87fe4fc46aa70f2d3d0b7e9e172ac53b239f09ea65fd97a66b73a2c4d476cfe0", checked := Tryz.checked }
namespace Rows
def none {H : Type} : Left H := { results := [], args := [] }

/-- 'copyholdlaw.IdealRuns': WHATEVER THE INPUT: true; the input reads as it did. -/
def idealRunsSpec : ChangeSpec := { name := "idealRuns", fn := fun _ => fun
  | [d1, d2, d3, d4] => { results := [.lit (.bool true)], args := [d1, d2, d3, d4] }
  | _ => none }
def idealRunsRow : OpenClaim := { program := "ytjhdpajpibdnaafgreat", sum := "87fe4fc46aa70f2d3d0b7e9e172ac53b239f09ea65fd97a66b73a2c4d476cfe0", func := "copyhold/copyholdlaw.IdealRuns", spec := "idealRuns", unfollowed := true, recurses := true, loops := true, apart := false }
def IdealRunsSaid : Prop := idealRunsRow.holds Tryz.pinned (OpenSpec.ofChange idealRunsSpec)

/-- ITS FALSE NEIGHBOUR: 'it returns false'. Refute it at one input. -/
def idealRunsWrong : ChangeSpec := { name := "idealRuns", fn := fun _ => fun
  | [d1, d2, d3, d4] => { results := [.lit (.bool false)], args := [d1, d2, d3, d4] }
  | _ => none }
def IdealRunsWrongFalsely : Prop := idealRunsRow.holds Tryz.pinned (OpenSpec.ofChange idealRunsWrong)

/-- 'copyholdlaw.IdealSafe': WHATEVER THE INPUT: true; the input reads as it did. -/
def idealSafeSpec : ChangeSpec := { name := "idealSafe", fn := fun _ => fun
  | [d1, d2, d3, d4] => { results := [.lit (.bool true)], args := [d1, d2, d3, d4] }
  | _ => none }
def idealSafeRow : OpenClaim := { program := "ytjhdpajpibdnaafgreat", sum := "87fe4fc46aa70f2d3d0b7e9e172ac53b239f09ea65fd97a66b73a2c4d476cfe0", func := "copyhold/copyholdlaw.IdealSafe", spec := "idealSafe", unfollowed := true, recurses := true, loops := true, apart := false }
def IdealSafeSaid : Prop := idealSafeRow.holds Tryz.pinned (OpenSpec.ofChange idealSafeSpec)

/-- ITS FALSE NEIGHBOUR: 'it returns false'. Refute it at one input. -/
def idealSafeWrong : ChangeSpec := { name := "idealSafe", fn := fun _ => fun
  | [d1, d2, d3, d4] => { results := [.lit (.bool false)], args := [d1, d2, d3, d4] }
  | _ => none }
def IdealSafeWrongFalsely : Prop := idealSafeRow.holds Tryz.pinned (OpenSpec.ofChange idealSafeWrong)

/-- 'copyholdlaw.IdealMore': WHATEVER THE INPUT: true; the input reads as it did. -/
def idealMoreSpec : ChangeSpec := { name := "idealMore", fn := fun _ => fun
  | [d1, d2, d3, d4, d5] => { results := [.lit (.bool true)], args := [d1, d2, d3, d4, d5] }
  | _ => none }
def idealMoreRow : OpenClaim := { program := "ytjhdpajpibdnaafgreat", sum := "87fe4fc46aa70f2d3d0b7e9e172ac53b239f09ea65fd97a66b73a2c4d476cfe0", func := "copyhold/copyholdlaw.IdealMore", spec := "idealMore", unfollowed := true, recurses := true, loops := true, apart := false }
def IdealMoreSaid : Prop := idealMoreRow.holds Tryz.pinned (OpenSpec.ofChange idealMoreSpec)

/-- ITS FALSE NEIGHBOUR: 'it returns false'. Refute it at one input. -/
def idealMoreWrong : ChangeSpec := { name := "idealMore", fn := fun _ => fun
  | [d1, d2, d3, d4, d5] => { results := [.lit (.bool false)], args := [d1, d2, d3, d4, d5] }
  | _ => none }
def IdealMoreWrongFalsely : Prop := idealMoreRow.holds Tryz.pinned (OpenSpec.ofChange idealMoreWrong)

/-- 'copyholdlaw.RawRuns': WHATEVER THE INPUT: true; the input reads as it did. -/
def rawRunsSpec : ChangeSpec := { name := "rawRuns", fn := fun _ => fun
  | [d1, d2, d3, d4] => { results := [.lit (.bool true)], args := [d1, d2, d3, d4] }
  | _ => none }
def rawRunsRow : OpenClaim := { program := "ytjhdpajpibdnaafgreat", sum := "87fe4fc46aa70f2d3d0b7e9e172ac53b239f09ea65fd97a66b73a2c4d476cfe0", func := "copyhold/copyholdlaw.RawRuns", spec := "rawRuns", unfollowed := true, recurses := true, loops := true, apart := false }
def RawRunsSaid : Prop := rawRunsRow.holds Tryz.pinned (OpenSpec.ofChange rawRunsSpec)

/-- ITS FALSE NEIGHBOUR: 'it returns false'. Refute it at one input. -/
def rawRunsWrong : ChangeSpec := { name := "rawRuns", fn := fun _ => fun
  | [d1, d2, d3, d4] => { results := [.lit (.bool false)], args := [d1, d2, d3, d4] }
  | _ => none }
def RawRunsWrongFalsely : Prop := rawRunsRow.holds Tryz.pinned (OpenSpec.ofChange rawRunsWrong)

/-- 'copyholdlaw.RawPages': WHATEVER THE INPUT: true; the input reads as it did. -/
def rawPagesSpec : ChangeSpec := { name := "rawPages", fn := fun _ => fun
  | [d1, d2, d3, d4] => { results := [.lit (.bool true)], args := [d1, d2, d3, d4] }
  | _ => none }
def rawPagesRow : OpenClaim := { program := "ytjhdpajpibdnaafgreat", sum := "87fe4fc46aa70f2d3d0b7e9e172ac53b239f09ea65fd97a66b73a2c4d476cfe0", func := "copyhold/copyholdlaw.RawPages", spec := "rawPages", unfollowed := true, recurses := true, loops := true, apart := false }
def RawPagesSaid : Prop := rawPagesRow.holds Tryz.pinned (OpenSpec.ofChange rawPagesSpec)

/-- ITS FALSE NEIGHBOUR: 'it returns false'. Refute it at one input. -/
def rawPagesWrong : ChangeSpec := { name := "rawPages", fn := fun _ => fun
  | [d1, d2, d3, d4] => { results := [.lit (.bool false)], args := [d1, d2, d3, d4] }
  | _ => none }
def RawPagesWrongFalsely : Prop := rawPagesRow.holds Tryz.pinned (OpenSpec.ofChange rawPagesWrong)

/-- 'copyholdlaw.RawAgain': WHATEVER THE INPUT: true; the input reads as it did. -/
def rawAgainSpec : ChangeSpec := { name := "rawAgain", fn := fun _ => fun
  | [d1, d2, d3, d4, d5] => { results := [.lit (.bool true)], args := [d1, d2, d3, d4, d5] }
  | _ => none }
def rawAgainRow : OpenClaim := { program := "ytjhdpajpibdnaafgreat", sum := "87fe4fc46aa70f2d3d0b7e9e172ac53b239f09ea65fd97a66b73a2c4d476cfe0", func := "copyhold/copyholdlaw.RawAgain", spec := "rawAgain", unfollowed := true, recurses := true, loops := true, apart := false }
def RawAgainSaid : Prop := rawAgainRow.holds Tryz.pinned (OpenSpec.ofChange rawAgainSpec)

/-- ITS FALSE NEIGHBOUR: 'it returns false'. Refute it at one input. -/
def rawAgainWrong : ChangeSpec := { name := "rawAgain", fn := fun _ => fun
  | [d1, d2, d3, d4, d5] => { results := [.lit (.bool false)], args := [d1, d2, d3, d4, d5] }
  | _ => none }
def RawAgainWrongFalsely : Prop := rawAgainRow.holds Tryz.pinned (OpenSpec.ofChange rawAgainWrong)

/- THE SECOND FORM. 'bulk': how many values and letters a reading holds, each counted each time it is reached (what is shared counts as often as it is met; a slice's spare places count too). A statement '..UptoSaid' is the law's where the arguments, and the package variables that the reading takes, are together of bulk at most 1048576: NARROWER than '..Said'. Prove '..Said' where nothing that the law and all that it calls make is longer than what came in: it says more and counts as full. Else prove '..UptoSaid'. A law counts once. -/
mutual
def uptoBulk {H : Type} : DataW H → Nat
  | .lit (.string bytes) => bytes.length + 1
  | .lit _ => 1
  | .nil => 1
  | .ptr d => uptoBulk d + 1
  | .slice elems spare => uptoBulkAll elems + uptoBulkAll spare + 1
  | .agg parts => uptoBulkAll parts + 1
  | .iface _ d => uptoBulk d + 1
  | .map entries => uptoBulkEntries entries + 1
  | .held _ => 1
def uptoBulkAll {H : Type} : List (DataW H) → Nat
  | [] => 0
  | d :: r => uptoBulk d + uptoBulkAll r
def uptoBulkEntries {H : Type} : List (Lit × DataW H) → Nat
  | [] => 0
  | x :: r => uptoBulkEntry x + uptoBulkEntries r
def uptoBulkEntry {H : Type} : Lit × DataW H → Nat
  | (.string bytes, d) => bytes.length + uptoBulk d + 1
  | (_, d) => uptoBulk d + 1
 end
def uptoSmall : (H : Type) → List (DataW H) → Bool := fun _ ds => decide (uptoBulkAll ds ≤ 1048576)
def OpenSpec.upto (s : _root_.Go.ChangeSpec) : _root_.Go.OpenSpec := { _root_.Go.OpenSpec.ofChange s with cond := some uptoSmall }

/-- 'copyholdlaw.IdealRuns', WHERE WHAT IT READS IS OF BULK AT MOST 1048576: true; the input reads as it did. -/
def idealRunsUptoRow : OpenClaim := { program := "ytjhdpajpibdnaafgreat", sum := "87fe4fc46aa70f2d3d0b7e9e172ac53b239f09ea65fd97a66b73a2c4d476cfe0", func := "copyhold/copyholdlaw.IdealRuns", spec := "idealRuns", unfollowed := true, recurses := true, loops := true, apart := false, narrowed := true }
def IdealRunsUptoSaid : Prop := idealRunsUptoRow.holds Tryz.pinned (OpenSpec.upto idealRunsSpec)

/-- 'copyholdlaw.IdealSafe', WHERE WHAT IT READS IS OF BULK AT MOST 1048576: true; the input reads as it did. -/
def idealSafeUptoRow : OpenClaim := { program := "ytjhdpajpibdnaafgreat", sum := "87fe4fc46aa70f2d3d0b7e9e172ac53b239f09ea65fd97a66b73a2c4d476cfe0", func := "copyhold/copyholdlaw.IdealSafe", spec := "idealSafe", unfollowed := true, recurses := true, loops := true, apart := false, narrowed := true }
def IdealSafeUptoSaid : Prop := idealSafeUptoRow.holds Tryz.pinned (OpenSpec.upto idealSafeSpec)

/-- 'copyholdlaw.IdealMore', WHERE WHAT IT READS IS OF BULK AT MOST 1048576: true; the input reads as it did. -/
def idealMoreUptoRow : OpenClaim := { program := "ytjhdpajpibdnaafgreat", sum := "87fe4fc46aa70f2d3d0b7e9e172ac53b239f09ea65fd97a66b73a2c4d476cfe0", func := "copyhold/copyholdlaw.IdealMore", spec := "idealMore", unfollowed := true, recurses := true, loops := true, apart := false, narrowed := true }
def IdealMoreUptoSaid : Prop := idealMoreUptoRow.holds Tryz.pinned (OpenSpec.upto idealMoreSpec)

/-- 'copyholdlaw.RawRuns', WHERE WHAT IT READS IS OF BULK AT MOST 1048576: true; the input reads as it did. -/
def rawRunsUptoRow : OpenClaim := { program := "ytjhdpajpibdnaafgreat", sum := "87fe4fc46aa70f2d3d0b7e9e172ac53b239f09ea65fd97a66b73a2c4d476cfe0", func := "copyhold/copyholdlaw.RawRuns", spec := "rawRuns", unfollowed := true, recurses := true, loops := true, apart := false, narrowed := true }
def RawRunsUptoSaid : Prop := rawRunsUptoRow.holds Tryz.pinned (OpenSpec.upto rawRunsSpec)

/-- 'copyholdlaw.RawPages', WHERE WHAT IT READS IS OF BULK AT MOST 1048576: true; the input reads as it did. -/
def rawPagesUptoRow : OpenClaim := { program := "ytjhdpajpibdnaafgreat", sum := "87fe4fc46aa70f2d3d0b7e9e172ac53b239f09ea65fd97a66b73a2c4d476cfe0", func := "copyhold/copyholdlaw.RawPages", spec := "rawPages", unfollowed := true, recurses := true, loops := true, apart := false, narrowed := true }
def RawPagesUptoSaid : Prop := rawPagesUptoRow.holds Tryz.pinned (OpenSpec.upto rawPagesSpec)

/-- 'copyholdlaw.RawAgain', WHERE WHAT IT READS IS OF BULK AT MOST 1048576: true; the input reads as it did. -/
def rawAgainUptoRow : OpenClaim := { program := "ytjhdpajpibdnaafgreat", sum := "87fe4fc46aa70f2d3d0b7e9e172ac53b239f09ea65fd97a66b73a2c4d476cfe0", func := "copyhold/copyholdlaw.RawAgain", spec := "rawAgain", unfollowed := true, recurses := true, loops := true, apart := false, narrowed := true }
def RawAgainUptoSaid : Prop := rawAgainUptoRow.holds Tryz.pinned (OpenSpec.upto rawAgainSpec)

end Rows
end Go.Proofs.YtjhdpajpibdnaafGreat
