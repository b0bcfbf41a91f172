import Derived.Test.YtjodmledadbgeacGreatDoorP5
set_option maxHeartbeats 16000000
set_option maxRecDepth 100000
namespace Go.Proofs.YtjodmledadbgeacGreatDoor
open Go.ChangeShapes Go.WideShapes Go.ChangeAt Go.RowKit Go.Shelf
set_option linter.unusedSimpArgs false
set_option linter.unusedVariables false
theorem itoa_0 : Lib.itoa 0 = [48] := by
  unfold Lib.itoa
  rw [if_neg (by decide),Lib.decDigits,dif_pos (by decide)]
  rfl
theorem itoa_5 : Lib.itoa 5 = [53] := by
  unfold Lib.itoa
  rw [if_neg (by decide),Lib.decDigits,dif_pos (by decide)]
  rfl
theorem num_0 : numOf [48] = some 0 := by
  have h:Lib.parseIntB 64 [48]=.ok 0:=by kernel_rfl
  unfold numOf
  rw [h]
  simp only [itoa_0,if_true]
theorem num_5 : numOf [53] = some 5 := by
  have h:Lib.parseIntB 64 [53]=.ok 5:=by kernel_rfl
  unfold numOf
  rw [h]
  simp only [itoa_5,if_true]
def pjT : List UInt8 := [102, 117, 110, 99, 32, 48, 32, 40, 41, 32, 45, 62, 32, 40, 105, 110, 116, 41, 32, 123, 32, 98, 108, 111, 99, 107, 32, 48, 32, 40, 41, 32, 123, 32, 110, 117, 109, 32, 53, 59, 32, 114, 101, 116, 32, 40, 48, 41, 59, 32, 125, 32, 125]
def pjL : List Tk := [⟨0, [102, 117, 110, 99], false, 0⟩, ⟨5, [48], true, 0⟩, ⟨7, [40], false, 0⟩, ⟨8, [41], false, 0⟩, ⟨10, [45, 62], false, 0⟩, ⟨13, [40], false, 0⟩, ⟨14, [105, 110, 116], false, 0⟩, ⟨17, [41], false, 0⟩, ⟨19, [123], false, 0⟩, ⟨21, [98, 108, 111, 99, 107], false, 0⟩, ⟨27, [48], true, 0⟩, ⟨29, [40], false, 0⟩, ⟨30, [41], false, 0⟩, ⟨32, [123], false, 0⟩, ⟨34, [110, 117, 109], false, 0⟩, ⟨38, [53], true, 5⟩, ⟨39, [59], false, 0⟩, ⟨41, [114, 101, 116], false, 0⟩, ⟨45, [40], false, 0⟩, ⟨46, [48], true, 0⟩, ⟨47, [41], false, 0⟩, ⟨48, [59], false, 0⟩, ⟨50, [125], false, 0⟩, ⟨52, [125], false, 0⟩]
theorem pj_20 : scanF 34 47 [41, 59, 32, 125, 32, 125] = .ok [⟨47, [41], false, 0⟩, ⟨48, [59], false, 0⟩, ⟨50, [125], false, 0⟩, ⟨52, [125], false, 0⟩] := by kernel_rfl
theorem pj_t19 : tok [48, 41, 59, 32, 125, 32, 125] = .ok 1 true 0 := by
  have h:tokLen [48,41,59,32,125,32,125]=(1,true):=by kernel_rfl
  unfold tok
  rw [h]
  simp [num_0]
theorem pj_19 : scanF 35 46 [48, 41, 59, 32, 125, 32, 125] = .ok [⟨46, [48], true, 0⟩, ⟨47, [41], false, 0⟩, ⟨48, [59], false, 0⟩, ⟨50, [125], false, 0⟩, ⟨52, [125], false, 0⟩] := by
  rw [scanF,if_neg (by simp),pj_t19]
  show (scanF 34 47 [41,59,32,125,32,125]).app _=_
  rw [pj_20]
  rfl
theorem pj_t18 : tok [40, 48, 41, 59, 32, 125, 32, 125] = .ok 1 false 0 := by kernel_rfl
theorem pj_18 : scanF 36 45 [40, 48, 41, 59, 32, 125, 32, 125] = .ok [⟨45, [40], false, 0⟩, ⟨46, [48], true, 0⟩, ⟨47, [41], false, 0⟩, ⟨48, [59], false, 0⟩, ⟨50, [125], false, 0⟩, ⟨52, [125], false, 0⟩] := by
  rw [scanF,if_neg (by simp),pj_t18]
  show (scanF 35 46 [48,41,59,32,125,32,125]).app _=_
  rw [pj_19]
  rfl
theorem pj_t17 : tok [114, 101, 116, 32, 40, 48, 41, 59, 32, 125, 32, 125] = .ok 3 false 0 := by kernel_rfl
theorem pj_17 : scanF 37 41 [114, 101, 116, 32, 40, 48, 41, 59, 32, 125, 32, 125] = .ok [⟨41, [114, 101, 116], false, 0⟩, ⟨45, [40], false, 0⟩, ⟨46, [48], true, 0⟩, ⟨47, [41], false, 0⟩, ⟨48, [59], false, 0⟩, ⟨50, [125], false, 0⟩, ⟨52, [125], false, 0⟩] := by
  rw [scanF,if_neg (by simp),pj_t17]
  show (scanF 36 45 [40,48,41,59,32,125,32,125]).app _=_
  rw [pj_18]
  rfl
theorem pj_t16 : tok [59, 32, 114, 101, 116, 32, 40, 48, 41, 59, 32, 125, 32, 125] = .ok 1 false 0 := by kernel_rfl
theorem pj_16 : scanF 38 39 [59, 32, 114, 101, 116, 32, 40, 48, 41, 59, 32, 125, 32, 125] = .ok [⟨39, [59], false, 0⟩, ⟨41, [114, 101, 116], false, 0⟩, ⟨45, [40], false, 0⟩, ⟨46, [48], true, 0⟩, ⟨47, [41], false, 0⟩, ⟨48, [59], false, 0⟩, ⟨50, [125], false, 0⟩, ⟨52, [125], false, 0⟩] := by
  rw [scanF,if_neg (by simp),pj_t16]
  show (scanF 37 41 [114,101,116,32,40,48,41,59,32,125,32,125]).app _=_
  rw [pj_17]
  rfl
theorem pj_t15 : tok [53, 59, 32, 114, 101, 116, 32, 40, 48, 41, 59, 32, 125, 32, 125] = .ok 1 true 5 := by
  have h:tokLen [53,59,32,114,101,116,32,40,48,41,59,32,125,32,125]=(1,true):=by kernel_rfl
  unfold tok
  rw [h]
  simp [num_5]
theorem pj_15 : scanF 39 38 [53, 59, 32, 114, 101, 116, 32, 40, 48, 41, 59, 32, 125, 32, 125] = .ok [⟨38, [53], true, 5⟩, ⟨39, [59], false, 0⟩, ⟨41, [114, 101, 116], false, 0⟩, ⟨45, [40], false, 0⟩, ⟨46, [48], true, 0⟩, ⟨47, [41], false, 0⟩, ⟨48, [59], false, 0⟩, ⟨50, [125], false, 0⟩, ⟨52, [125], false, 0⟩] := by
  rw [scanF,if_neg (by simp),pj_t15]
  show (scanF 38 39 [59,32,114,101,116,32,40,48,41,59,32,125,32,125]).app _=_
  rw [pj_16]
  rfl
theorem pj_t14 : tok [110, 117, 109, 32, 53, 59, 32, 114, 101, 116, 32, 40, 48, 41, 59, 32, 125, 32, 125] = .ok 3 false 0 := by kernel_rfl
theorem pj_14 : scanF 40 34 [110, 117, 109, 32, 53, 59, 32, 114, 101, 116, 32, 40, 48, 41, 59, 32, 125, 32, 125] = .ok [⟨34, [110, 117, 109], false, 0⟩, ⟨38, [53], true, 5⟩, ⟨39, [59], false, 0⟩, ⟨41, [114, 101, 116], false, 0⟩, ⟨45, [40], false, 0⟩, ⟨46, [48], true, 0⟩, ⟨47, [41], false, 0⟩, ⟨48, [59], false, 0⟩, ⟨50, [125], false, 0⟩, ⟨52, [125], false, 0⟩] := by
  rw [scanF,if_neg (by simp),pj_t14]
  show (scanF 39 38 [53,59,32,114,101,116,32,40,48,41,59,32,125,32,125]).app _=_
  rw [pj_15]
  rfl
theorem pj_t13 : tok [123, 32, 110, 117, 109, 32, 53, 59, 32, 114, 101, 116, 32, 40, 48, 41, 59, 32, 125, 32, 125] = .ok 1 false 0 := by kernel_rfl
theorem pj_13 : scanF 41 32 [123, 32, 110, 117, 109, 32, 53, 59, 32, 114, 101, 116, 32, 40, 48, 41, 59, 32, 125, 32, 125] = .ok [⟨32, [123], false, 0⟩, ⟨34, [110, 117, 109], false, 0⟩, ⟨38, [53], true, 5⟩, ⟨39, [59], false, 0⟩, ⟨41, [114, 101, 116], false, 0⟩, ⟨45, [40], false, 0⟩, ⟨46, [48], true, 0⟩, ⟨47, [41], false, 0⟩, ⟨48, [59], false, 0⟩, ⟨50, [125], false, 0⟩, ⟨52, [125], false, 0⟩] := by
  rw [scanF,if_neg (by simp),pj_t13]
  show (scanF 40 34 [110,117,109,32,53,59,32,114,101,116,32,40,48,41,59,32,125,32,125]).app _=_
  rw [pj_14]
  rfl
theorem pj_t12 : tok [41, 32, 123, 32, 110, 117, 109, 32, 53, 59, 32, 114, 101, 116, 32, 40, 48, 41, 59, 32, 125, 32, 125] = .ok 1 false 0 := by kernel_rfl
theorem pj_12 : scanF 42 30 [41, 32, 123, 32, 110, 117, 109, 32, 53, 59, 32, 114, 101, 116, 32, 40, 48, 41, 59, 32, 125, 32, 125] = .ok [⟨30, [41], false, 0⟩, ⟨32, [123], false, 0⟩, ⟨34, [110, 117, 109], false, 0⟩, ⟨38, [53], true, 5⟩, ⟨39, [59], false, 0⟩, ⟨41, [114, 101, 116], false, 0⟩, ⟨45, [40], false, 0⟩, ⟨46, [48], true, 0⟩, ⟨47, [41], false, 0⟩, ⟨48, [59], false, 0⟩, ⟨50, [125], false, 0⟩, ⟨52, [125], false, 0⟩] := by
  rw [scanF,if_neg (by simp),pj_t12]
  show (scanF 41 32 [123,32,110,117,109,32,53,59,32,114,101,116,32,40,48,41,59,32,125,32,125]).app _=_
  rw [pj_13]
  rfl
theorem pj_t11 : tok [40, 41, 32, 123, 32, 110, 117, 109, 32, 53, 59, 32, 114, 101, 116, 32, 40, 48, 41, 59, 32, 125, 32, 125] = .ok 1 false 0 := by kernel_rfl
theorem pj_11 : scanF 43 29 [40, 41, 32, 123, 32, 110, 117, 109, 32, 53, 59, 32, 114, 101, 116, 32, 40, 48, 41, 59, 32, 125, 32, 125] = .ok [⟨29, [40], false, 0⟩, ⟨30, [41], false, 0⟩, ⟨32, [123], false, 0⟩, ⟨34, [110, 117, 109], false, 0⟩, ⟨38, [53], true, 5⟩, ⟨39, [59], false, 0⟩, ⟨41, [114, 101, 116], false, 0⟩, ⟨45, [40], false, 0⟩, ⟨46, [48], true, 0⟩, ⟨47, [41], false, 0⟩, ⟨48, [59], false, 0⟩, ⟨50, [125], false, 0⟩, ⟨52, [125], false, 0⟩] := by
  rw [scanF,if_neg (by simp),pj_t11]
  show (scanF 42 30 [41,32,123,32,110,117,109,32,53,59,32,114,101,116,32,40,48,41,59,32,125,32,125]).app _=_
  rw [pj_12]
  rfl
theorem pj_t10 : tok [48, 32, 40, 41, 32, 123, 32, 110, 117, 109, 32, 53, 59, 32, 114, 101, 116, 32, 40, 48, 41, 59, 32, 125, 32, 125] = .ok 1 true 0 := by
  have h:tokLen [48,32,40,41,32,123,32,110,117,109,32,53,59,32,114,101,116,32,40,48,41,59,32,125,32,125]=(1,true):=by kernel_rfl
  unfold tok
  rw [h]
  simp [num_0]
theorem pj_10 : scanF 44 27 [48, 32, 40, 41, 32, 123, 32, 110, 117, 109, 32, 53, 59, 32, 114, 101, 116, 32, 40, 48, 41, 59, 32, 125, 32, 125] = .ok [⟨27, [48], true, 0⟩, ⟨29, [40], false, 0⟩, ⟨30, [41], false, 0⟩, ⟨32, [123], false, 0⟩, ⟨34, [110, 117, 109], false, 0⟩, ⟨38, [53], true, 5⟩, ⟨39, [59], false, 0⟩, ⟨41, [114, 101, 116], false, 0⟩, ⟨45, [40], false, 0⟩, ⟨46, [48], true, 0⟩, ⟨47, [41], false, 0⟩, ⟨48, [59], false, 0⟩, ⟨50, [125], false, 0⟩, ⟨52, [125], false, 0⟩] := by
  rw [scanF,if_neg (by simp),pj_t10]
  show (scanF 43 29 [40,41,32,123,32,110,117,109,32,53,59,32,114,101,116,32,40,48,41,59,32,125,32,125]).app _=_
  rw [pj_11]
  rfl
theorem pj_t9 : tok [98, 108, 111, 99, 107, 32, 48, 32, 40, 41, 32, 123, 32, 110, 117, 109, 32, 53, 59, 32, 114, 101, 116, 32, 40, 48, 41, 59, 32, 125, 32, 125] = .ok 5 false 0 := by kernel_rfl
theorem pj_9 : scanF 45 21 [98, 108, 111, 99, 107, 32, 48, 32, 40, 41, 32, 123, 32, 110, 117, 109, 32, 53, 59, 32, 114, 101, 116, 32, 40, 48, 41, 59, 32, 125, 32, 125] = .ok [⟨21, [98, 108, 111, 99, 107], false, 0⟩, ⟨27, [48], true, 0⟩, ⟨29, [40], false, 0⟩, ⟨30, [41], false, 0⟩, ⟨32, [123], false, 0⟩, ⟨34, [110, 117, 109], false, 0⟩, ⟨38, [53], true, 5⟩, ⟨39, [59], false, 0⟩, ⟨41, [114, 101, 116], false, 0⟩, ⟨45, [40], false, 0⟩, ⟨46, [48], true, 0⟩, ⟨47, [41], false, 0⟩, ⟨48, [59], false, 0⟩, ⟨50, [125], false, 0⟩, ⟨52, [125], false, 0⟩] := by
  rw [scanF,if_neg (by simp),pj_t9]
  show (scanF 44 27 [48,32,40,41,32,123,32,110,117,109,32,53,59,32,114,101,116,32,40,48,41,59,32,125,32,125]).app _=_
  rw [pj_10]
  rfl
theorem pj_t8 : tok [123, 32, 98, 108, 111, 99, 107, 32, 48, 32, 40, 41, 32, 123, 32, 110, 117, 109, 32, 53, 59, 32, 114, 101, 116, 32, 40, 48, 41, 59, 32, 125, 32, 125] = .ok 1 false 0 := by kernel_rfl
theorem pj_8 : scanF 46 19 [123, 32, 98, 108, 111, 99, 107, 32, 48, 32, 40, 41, 32, 123, 32, 110, 117, 109, 32, 53, 59, 32, 114, 101, 116, 32, 40, 48, 41, 59, 32, 125, 32, 125] = .ok [⟨19, [123], false, 0⟩, ⟨21, [98, 108, 111, 99, 107], false, 0⟩, ⟨27, [48], true, 0⟩, ⟨29, [40], false, 0⟩, ⟨30, [41], false, 0⟩, ⟨32, [123], false, 0⟩, ⟨34, [110, 117, 109], false, 0⟩, ⟨38, [53], true, 5⟩, ⟨39, [59], false, 0⟩, ⟨41, [114, 101, 116], false, 0⟩, ⟨45, [40], false, 0⟩, ⟨46, [48], true, 0⟩, ⟨47, [41], false, 0⟩, ⟨48, [59], false, 0⟩, ⟨50, [125], false, 0⟩, ⟨52, [125], false, 0⟩] := by
  rw [scanF,if_neg (by simp),pj_t8]
  show (scanF 45 21 [98,108,111,99,107,32,48,32,40,41,32,123,32,110,117,109,32,53,59,32,114,101,116,32,40,48,41,59,32,125,32,125]).app _=_
  rw [pj_9]
  rfl
theorem pj_t7 : tok [41, 32, 123, 32, 98, 108, 111, 99, 107, 32, 48, 32, 40, 41, 32, 123, 32, 110, 117, 109, 32, 53, 59, 32, 114, 101, 116, 32, 40, 48, 41, 59, 32, 125, 32, 125] = .ok 1 false 0 := by kernel_rfl
theorem pj_7 : scanF 47 17 [41, 32, 123, 32, 98, 108, 111, 99, 107, 32, 48, 32, 40, 41, 32, 123, 32, 110, 117, 109, 32, 53, 59, 32, 114, 101, 116, 32, 40, 48, 41, 59, 32, 125, 32, 125] = .ok [⟨17, [41], false, 0⟩, ⟨19, [123], false, 0⟩, ⟨21, [98, 108, 111, 99, 107], false, 0⟩, ⟨27, [48], true, 0⟩, ⟨29, [40], false, 0⟩, ⟨30, [41], false, 0⟩, ⟨32, [123], false, 0⟩, ⟨34, [110, 117, 109], false, 0⟩, ⟨38, [53], true, 5⟩, ⟨39, [59], false, 0⟩, ⟨41, [114, 101, 116], false, 0⟩, ⟨45, [40], false, 0⟩, ⟨46, [48], true, 0⟩, ⟨47, [41], false, 0⟩, ⟨48, [59], false, 0⟩, ⟨50, [125], false, 0⟩, ⟨52, [125], false, 0⟩] := by
  rw [scanF,if_neg (by simp),pj_t7]
  show (scanF 46 19 [123,32,98,108,111,99,107,32,48,32,40,41,32,123,32,110,117,109,32,53,59,32,114,101,116,32,40,48,41,59,32,125,32,125]).app _=_
  rw [pj_8]
  rfl
theorem pj_t6 : tok [105, 110, 116, 41, 32, 123, 32, 98, 108, 111, 99, 107, 32, 48, 32, 40, 41, 32, 123, 32, 110, 117, 109, 32, 53, 59, 32, 114, 101, 116, 32, 40, 48, 41, 59, 32, 125, 32, 125] = .ok 3 false 0 := by kernel_rfl
theorem pj_6 : scanF 48 14 [105, 110, 116, 41, 32, 123, 32, 98, 108, 111, 99, 107, 32, 48, 32, 40, 41, 32, 123, 32, 110, 117, 109, 32, 53, 59, 32, 114, 101, 116, 32, 40, 48, 41, 59, 32, 125, 32, 125] = .ok [⟨14, [105, 110, 116], false, 0⟩, ⟨17, [41], false, 0⟩, ⟨19, [123], false, 0⟩, ⟨21, [98, 108, 111, 99, 107], false, 0⟩, ⟨27, [48], true, 0⟩, ⟨29, [40], false, 0⟩, ⟨30, [41], false, 0⟩, ⟨32, [123], false, 0⟩, ⟨34, [110, 117, 109], false, 0⟩, ⟨38, [53], true, 5⟩, ⟨39, [59], false, 0⟩, ⟨41, [114, 101, 116], false, 0⟩, ⟨45, [40], false, 0⟩, ⟨46, [48], true, 0⟩, ⟨47, [41], false, 0⟩, ⟨48, [59], false, 0⟩, ⟨50, [125], false, 0⟩, ⟨52, [125], false, 0⟩] := by
  rw [scanF,if_neg (by simp),pj_t6]
  show (scanF 47 17 [41,32,123,32,98,108,111,99,107,32,48,32,40,41,32,123,32,110,117,109,32,53,59,32,114,101,116,32,40,48,41,59,32,125,32,125]).app _=_
  rw [pj_7]
  rfl
theorem pj_t5 : tok [40, 105, 110, 116, 41, 32, 123, 32, 98, 108, 111, 99, 107, 32, 48, 32, 40, 41, 32, 123, 32, 110, 117, 109, 32, 53, 59, 32, 114, 101, 116, 32, 40, 48, 41, 59, 32, 125, 32, 125] = .ok 1 false 0 := by kernel_rfl
theorem pj_5 : scanF 49 13 [40, 105, 110, 116, 41, 32, 123, 32, 98, 108, 111, 99, 107, 32, 48, 32, 40, 41, 32, 123, 32, 110, 117, 109, 32, 53, 59, 32, 114, 101, 116, 32, 40, 48, 41, 59, 32, 125, 32, 125] = .ok [⟨13, [40], false, 0⟩, ⟨14, [105, 110, 116], false, 0⟩, ⟨17, [41], false, 0⟩, ⟨19, [123], false, 0⟩, ⟨21, [98, 108, 111, 99, 107], false, 0⟩, ⟨27, [48], true, 0⟩, ⟨29, [40], false, 0⟩, ⟨30, [41], false, 0⟩, ⟨32, [123], false, 0⟩, ⟨34, [110, 117, 109], false, 0⟩, ⟨38, [53], true, 5⟩, ⟨39, [59], false, 0⟩, ⟨41, [114, 101, 116], false, 0⟩, ⟨45, [40], false, 0⟩, ⟨46, [48], true, 0⟩, ⟨47, [41], false, 0⟩, ⟨48, [59], false, 0⟩, ⟨50, [125], false, 0⟩, ⟨52, [125], false, 0⟩] := by
  rw [scanF,if_neg (by simp),pj_t5]
  show (scanF 48 14 [105,110,116,41,32,123,32,98,108,111,99,107,32,48,32,40,41,32,123,32,110,117,109,32,53,59,32,114,101,116,32,40,48,41,59,32,125,32,125]).app _=_
  rw [pj_6]
  rfl
theorem pj_t4 : tok [45, 62, 32, 40, 105, 110, 116, 41, 32, 123, 32, 98, 108, 111, 99, 107, 32, 48, 32, 40, 41, 32, 123, 32, 110, 117, 109, 32, 53, 59, 32, 114, 101, 116, 32, 40, 48, 41, 59, 32, 125, 32, 125] = .ok 2 false 0 := by kernel_rfl
theorem pj_4 : scanF 50 10 [45, 62, 32, 40, 105, 110, 116, 41, 32, 123, 32, 98, 108, 111, 99, 107, 32, 48, 32, 40, 41, 32, 123, 32, 110, 117, 109, 32, 53, 59, 32, 114, 101, 116, 32, 40, 48, 41, 59, 32, 125, 32, 125] = .ok [⟨10, [45, 62], false, 0⟩, ⟨13, [40], false, 0⟩, ⟨14, [105, 110, 116], false, 0⟩, ⟨17, [41], false, 0⟩, ⟨19, [123], false, 0⟩, ⟨21, [98, 108, 111, 99, 107], false, 0⟩, ⟨27, [48], true, 0⟩, ⟨29, [40], false, 0⟩, ⟨30, [41], false, 0⟩, ⟨32, [123], false, 0⟩, ⟨34, [110, 117, 109], false, 0⟩, ⟨38, [53], true, 5⟩, ⟨39, [59], false, 0⟩, ⟨41, [114, 101, 116], false, 0⟩, ⟨45, [40], false, 0⟩, ⟨46, [48], true, 0⟩, ⟨47, [41], false, 0⟩, ⟨48, [59], false, 0⟩, ⟨50, [125], false, 0⟩, ⟨52, [125], false, 0⟩] := by
  rw [scanF,if_neg (by simp),pj_t4]
  show (scanF 49 13 [40,105,110,116,41,32,123,32,98,108,111,99,107,32,48,32,40,41,32,123,32,110,117,109,32,53,59,32,114,101,116,32,40,48,41,59,32,125,32,125]).app _=_
  rw [pj_5]
  rfl
theorem pj_t3 : tok [41, 32, 45, 62, 32, 40, 105, 110, 116, 41, 32, 123, 32, 98, 108, 111, 99, 107, 32, 48, 32, 40, 41, 32, 123, 32, 110, 117, 109, 32, 53, 59, 32, 114, 101, 116, 32, 40, 48, 41, 59, 32, 125, 32, 125] = .ok 1 false 0 := by kernel_rfl
theorem pj_3 : scanF 51 8 [41, 32, 45, 62, 32, 40, 105, 110, 116, 41, 32, 123, 32, 98, 108, 111, 99, 107, 32, 48, 32, 40, 41, 32, 123, 32, 110, 117, 109, 32, 53, 59, 32, 114, 101, 116, 32, 40, 48, 41, 59, 32, 125, 32, 125] = .ok [⟨8, [41], false, 0⟩, ⟨10, [45, 62], false, 0⟩, ⟨13, [40], false, 0⟩, ⟨14, [105, 110, 116], false, 0⟩, ⟨17, [41], false, 0⟩, ⟨19, [123], false, 0⟩, ⟨21, [98, 108, 111, 99, 107], false, 0⟩, ⟨27, [48], true, 0⟩, ⟨29, [40], false, 0⟩, ⟨30, [41], false, 0⟩, ⟨32, [123], false, 0⟩, ⟨34, [110, 117, 109], false, 0⟩, ⟨38, [53], true, 5⟩, ⟨39, [59], false, 0⟩, ⟨41, [114, 101, 116], false, 0⟩, ⟨45, [40], false, 0⟩, ⟨46, [48], true, 0⟩, ⟨47, [41], false, 0⟩, ⟨48, [59], false, 0⟩, ⟨50, [125], false, 0⟩, ⟨52, [125], false, 0⟩] := by
  rw [scanF,if_neg (by simp),pj_t3]
  show (scanF 50 10 [45,62,32,40,105,110,116,41,32,123,32,98,108,111,99,107,32,48,32,40,41,32,123,32,110,117,109,32,53,59,32,114,101,116,32,40,48,41,59,32,125,32,125]).app _=_
  rw [pj_4]
  rfl
theorem pj_t2 : tok [40, 41, 32, 45, 62, 32, 40, 105, 110, 116, 41, 32, 123, 32, 98, 108, 111, 99, 107, 32, 48, 32, 40, 41, 32, 123, 32, 110, 117, 109, 32, 53, 59, 32, 114, 101, 116, 32, 40, 48, 41, 59, 32, 125, 32, 125] = .ok 1 false 0 := by kernel_rfl
theorem pj_2 : scanF 52 7 [40, 41, 32, 45, 62, 32, 40, 105, 110, 116, 41, 32, 123, 32, 98, 108, 111, 99, 107, 32, 48, 32, 40, 41, 32, 123, 32, 110, 117, 109, 32, 53, 59, 32, 114, 101, 116, 32, 40, 48, 41, 59, 32, 125, 32, 125] = .ok [⟨7, [40], false, 0⟩, ⟨8, [41], false, 0⟩, ⟨10, [45, 62], false, 0⟩, ⟨13, [40], false, 0⟩, ⟨14, [105, 110, 116], false, 0⟩, ⟨17, [41], false, 0⟩, ⟨19, [123], false, 0⟩, ⟨21, [98, 108, 111, 99, 107], false, 0⟩, ⟨27, [48], true, 0⟩, ⟨29, [40], false, 0⟩, ⟨30, [41], false, 0⟩, ⟨32, [123], false, 0⟩, ⟨34, [110, 117, 109], false, 0⟩, ⟨38, [53], true, 5⟩, ⟨39, [59], false, 0⟩, ⟨41, [114, 101, 116], false, 0⟩, ⟨45, [40], false, 0⟩, ⟨46, [48], true, 0⟩, ⟨47, [41], false, 0⟩, ⟨48, [59], false, 0⟩, ⟨50, [125], false, 0⟩, ⟨52, [125], false, 0⟩] := by
  rw [scanF,if_neg (by simp),pj_t2]
  show (scanF 51 8 [41,32,45,62,32,40,105,110,116,41,32,123,32,98,108,111,99,107,32,48,32,40,41,32,123,32,110,117,109,32,53,59,32,114,101,116,32,40,48,41,59,32,125,32,125]).app _=_
  rw [pj_3]
  rfl
theorem pj_t1 : tok [48, 32, 40, 41, 32, 45, 62, 32, 40, 105, 110, 116, 41, 32, 123, 32, 98, 108, 111, 99, 107, 32, 48, 32, 40, 41, 32, 123, 32, 110, 117, 109, 32, 53, 59, 32, 114, 101, 116, 32, 40, 48, 41, 59, 32, 125, 32, 125] = .ok 1 true 0 := by
  have h:tokLen [48,32,40,41,32,45,62,32,40,105,110,116,41,32,123,32,98,108,111,99,107,32,48,32,40,41,32,123,32,110,117,109,32,53,59,32,114,101,116,32,40,48,41,59,32,125,32,125]=(1,true):=by kernel_rfl
  unfold tok
  rw [h]
  simp [num_0]
theorem pj_1 : scanF 53 5 [48, 32, 40, 41, 32, 45, 62, 32, 40, 105, 110, 116, 41, 32, 123, 32, 98, 108, 111, 99, 107, 32, 48, 32, 40, 41, 32, 123, 32, 110, 117, 109, 32, 53, 59, 32, 114, 101, 116, 32, 40, 48, 41, 59, 32, 125, 32, 125] = .ok [⟨5, [48], true, 0⟩, ⟨7, [40], false, 0⟩, ⟨8, [41], false, 0⟩, ⟨10, [45, 62], false, 0⟩, ⟨13, [40], false, 0⟩, ⟨14, [105, 110, 116], false, 0⟩, ⟨17, [41], false, 0⟩, ⟨19, [123], false, 0⟩, ⟨21, [98, 108, 111, 99, 107], false, 0⟩, ⟨27, [48], true, 0⟩, ⟨29, [40], false, 0⟩, ⟨30, [41], false, 0⟩, ⟨32, [123], false, 0⟩, ⟨34, [110, 117, 109], false, 0⟩, ⟨38, [53], true, 5⟩, ⟨39, [59], false, 0⟩, ⟨41, [114, 101, 116], false, 0⟩, ⟨45, [40], false, 0⟩, ⟨46, [48], true, 0⟩, ⟨47, [41], false, 0⟩, ⟨48, [59], false, 0⟩, ⟨50, [125], false, 0⟩, ⟨52, [125], false, 0⟩] := by
  rw [scanF,if_neg (by simp),pj_t1]
  show (scanF 52 7 [40,41,32,45,62,32,40,105,110,116,41,32,123,32,98,108,111,99,107,32,48,32,40,41,32,123,32,110,117,109,32,53,59,32,114,101,116,32,40,48,41,59,32,125,32,125]).app _=_
  rw [pj_2]
  rfl
theorem pj_t0 : tok [102, 117, 110, 99, 32, 48, 32, 40, 41, 32, 45, 62, 32, 40, 105, 110, 116, 41, 32, 123, 32, 98, 108, 111, 99, 107, 32, 48, 32, 40, 41, 32, 123, 32, 110, 117, 109, 32, 53, 59, 32, 114, 101, 116, 32, 40, 48, 41, 59, 32, 125, 32, 125] = .ok 4 false 0 := by kernel_rfl
theorem pj_0 : scanF 54 0 [102, 117, 110, 99, 32, 48, 32, 40, 41, 32, 45, 62, 32, 40, 105, 110, 116, 41, 32, 123, 32, 98, 108, 111, 99, 107, 32, 48, 32, 40, 41, 32, 123, 32, 110, 117, 109, 32, 53, 59, 32, 114, 101, 116, 32, 40, 48, 41, 59, 32, 125, 32, 125] = .ok [⟨0, [102, 117, 110, 99], false, 0⟩, ⟨5, [48], true, 0⟩, ⟨7, [40], false, 0⟩, ⟨8, [41], false, 0⟩, ⟨10, [45, 62], false, 0⟩, ⟨13, [40], false, 0⟩, ⟨14, [105, 110, 116], false, 0⟩, ⟨17, [41], false, 0⟩, ⟨19, [123], false, 0⟩, ⟨21, [98, 108, 111, 99, 107], false, 0⟩, ⟨27, [48], true, 0⟩, ⟨29, [40], false, 0⟩, ⟨30, [41], false, 0⟩, ⟨32, [123], false, 0⟩, ⟨34, [110, 117, 109], false, 0⟩, ⟨38, [53], true, 5⟩, ⟨39, [59], false, 0⟩, ⟨41, [114, 101, 116], false, 0⟩, ⟨45, [40], false, 0⟩, ⟨46, [48], true, 0⟩, ⟨47, [41], false, 0⟩, ⟨48, [59], false, 0⟩, ⟨50, [125], false, 0⟩, ⟨52, [125], false, 0⟩] := by
  rw [scanF,if_neg (by simp),pj_t0]
  show (scanF 53 5 [48,32,40,41,32,45,62,32,40,105,110,116,41,32,123,32,98,108,111,99,107,32,48,32,40,41,32,123,32,110,117,109,32,53,59,32,114,101,116,32,40,48,41,59,32,125,32,125]).app _=_
  rw [pj_1]
  rfl
theorem pj_scan : scanL pjT = .ok pjL := pj_0
def pjM : List (MFunc 6) := [⟨0, [], [(1, 0, [])], [⟨0, [], [⟨1, 0, 0, 0, 0, 5, [], []⟩], ⟨3, 0, noTo, noTo, [0]⟩⟩]⟩]
theorem pj_funcs : funcsP pjL pjT.length (pjL.length + 1) 0 = .ok (pjM, 24) := by kernel_rfl
theorem pj_fault : (modFault pjM).1 = 0 := by kernel_rfl
theorem pj_parse : parseL pjT = .ok pjM := parse_yes pj_scan pj_funcs pj_fault
theorem pbegun_any (w : World) (hw0 : Laid w) : Calls Tryz.prog 5 #[] w fun e w' => e = .returned (.bool true) ∧ Below w.heap.size w w' := by
  have C:Hid (Calls Tryz.prog 6 #[.string ⟨#[102,117,110,99,32,48,32,40,41,32,45,62,32,40,105,110,116,41,32,123,32,98,108,111,99,107,32,48,32,40,41,32,123,32,110,117,109,32,53,59,32,114,101,116,32,40,48,41,59,32,125,32,125]⟩] w fun e w'=>∃ a c,e=.returned (.tuple #[.agg #[.slice a 1 c],.agg #[.int .i64 0,.int .i64 0]])∧(modL 6).In w' (fun g=>w.heap.size≤g) pjM [.slice a 1 c]∧Below w.heap.size w w'):=by
    have h:=parse_any ⟨#[102,117,110,99,32,48,32,40,41,32,45,62,32,40,105,110,116,41,32,123,32,98,108,111,99,107,32,48,32,40,41,32,123,32,110,117,109,32,53,59,32,114,101,116,32,40,48,41,59,32,125,32,125]⟩ w hw0 (by decide)
    rw [show (⟨#[102,117,110,99,32,48,32,40,41,32,45,62,32,40,105,110,116,41,32,123,32,98,108,111,99,107,32,48,32,40,41,32,123,32,110,117,109,32,53,59,32,114,101,116,32,40,48,41,59,32,125,32,125]⟩:ByteArray).data.toList=pjT from rfl] at h
    refine h.mono fun en w' hO=>?_
    rcases hO with ⟨c,a,_,_,_,hno⟩ | ⟨l,m,q,h1,h2,h3,_⟩ | ⟨m,a,c,h1,he,hi,hb⟩
    · exact absurd pj_funcs (hno _ _ _ pj_scan)
    · rw [pj_scan] at h1
      injection h1 with h1
      subst h1
      rw [pj_funcs] at h2
      injection h2 with h2
      injection h2 with h2 _
      subst h2
      exact absurd pj_fault h3
    · rw [pj_parse] at h1
      injection h1 with h1
      subst h1
      exact ⟨a,c,he,hi,hb⟩
  clear hw0
  go_enter Tryz.func5,Tryz.ntmps5
  go_wp2_with fail
  refine C.out.mono ?_
  rintro e w2 ⟨a,c,rfl,hl,hb⟩
  obtain ⟨g,o,ds,rfl,_,hg,hc,hd⟩:=Lay.list_at hl (i:=0) (x:=⟨0,[],[(1,0,[])],[⟨0,[],[⟨1,0,0,0,0,5,[],[]⟩],⟨3,0,noTo,noTo,[0]⟩⟩]⟩) rfl
  obtain ⟨q1,n1,q2,n2,q3,n3,rfl,_,_,hbl,_⟩:=func_form hd
  have f2:w2.cell? ⟨g,o + 2,none⟩=some (.slice q2 1 n2):=by have h:=hc 2 (by decide);simp at h;exact h
  have f3:w2.cell? ⟨g,o + 3,none⟩=some (.slice q3 1 n3):=by have h:=hc 3 (by decide);simp at h;exact h
  obtain ⟨g2,o2,ds2,rfl,_,hg2,hc2,hd2⟩:=Lay.list_at hbl (i:=0) (x:=⟨0,[],[⟨1,0,0,0,0,5,[],[]⟩],⟨3,0,noTo,noTo,[0]⟩⟩) rfl
  obtain ⟨r1,k1,r2,k2,es,rfl,_,hco,_,_⟩:=block_form hd2
  have f4:w2.cell? ⟨g2,o2 + 2,none⟩=some (.slice r2 1 k2):=by have h:=hc2 2 (by decide);simp at h;exact h
  obtain ⟨g3,o3,ds3,rfl,_,hg3,hc3,hd3⟩:=Lay.list_at hco (i:=0) (x:=⟨1,0,0,0,0,5,[],[]⟩) rfl
  obtain ⟨u1,v1,u2,v2,rfl,_,_,_⟩:=ins_form hd3
  have f5:w2.cell? ⟨g3,o3 + 5,none⟩=some (.int .i64 5):=by have h:=hc3 5 (by decide);simp at h;exact h
  have B:Hid (Below w.heap.size w w2):=hb
  have W1:Hid (∀ w',Calls Tryz.prog 9 #[.int .i64 14] w' fun en w''=>en=.returned (.string ⟨#[99,97,108,108]⟩)∧Below w'.heap.size w' w''):=fun w'=>pOp_any 14 w'
  have W2:Hid (∀ w',Calls Tryz.prog 11 #[.int .i64 0] w' fun en w''=>en=.returned (.string ⟨#[]⟩)∧Below w'.heap.size w' w''):=fun w'=>pKind_any 0 w'
  clear hl hb C hc hc2 hc3 hd hd2 hd3 hbl hco
  go_wp2_with fail
  refine (W1.out _).mono ?_
  rintro e w3 ⟨rfl,b3⟩
  have B3:Hid (Below w.heap.size w w3):=Below.andThen (show Below w.heap.size w _ from (B.out.alloc B.out.size _).alloc (by have:=B.out.size;simp;omega) _) b3
  clear b3 B
  go_wp2_with fail
  refine (W2.out _).mono ?_
  rintro e w4 ⟨rfl,b4⟩
  have B4:Hid (Below w.heap.size w w4):=Below.andThen B3.out b4
  clear b4 B3
  go_wp2
  go_ret
  exact ⟨rfl,B4.out⟩
theorem funcs_join {a b : List UInt8} {m n : List (MFunc 6)} (ha : parseL a = .ok m) (hb : parseL b = .ok n) (hl : a.length + b.length ≤ 39000) :
    ∃ L Q,scanL (a ++ 10 :: b)=.ok L∧funcsP L (a ++ 10 :: b).length (L.length + 1) 0=.ok (m ++ n,Q):=by
  have inv:∀ {s:List UInt8} {m:List (MFunc 6)},parseL s=.ok m→∃ l q,scanL s=.ok l∧funcsP l s.length (l.length + 1) 0=.ok (m,q):=by
    intro s m h
    unfold parseL at h
    split at h
    · cases h
    · rename_i l hs
      split at h
      · cases h
      · rename_i m' q hq
        split at h
        · cases h
        · injection h with h
          subst h
          exact ⟨l,q,hs,hq⟩
  obtain ⟨la,qa,sa,fa⟩:=inv ha
  obtain ⟨lb,qb,sb,fb⟩:=inv hb
  obtain ⟨lc,sc,hlc,hsame⟩:=scanL_join sa sb hl
  have hE1:Emb la (la ++ lc) 0:=fun i x hx=>⟨x,by rw [Nat.zero_add,List.getElem?_append_left (lt_of_tok hx)];exact hx,rfl,rfl,rfl⟩
  have hE2:Emb lb (la ++ lc) la.length:=fun i x hx=>by
    obtain ⟨y,hy,hs⟩:=hsame i x hx
    exact ⟨y,by rw [List.getElem?_append_right (by omega),Nat.add_sub_cancel_left];exact hy,hs⟩
  have hll:(la ++ lc).length=la.length + lb.length:=by rw [List.length_append,hlc]
  have h1:=funcs_front (e2:=(a ++ 10 :: b).length) hE1 (by omega) (la.length + 1) 0 m qa (Nat.zero_le _) (by omega) fa
  have h2:funcsP (la ++ lc) (a ++ 10 :: b).length (lb.length + 1) la.length=.ok (n,la.length + qb):=funcs_back (e2:=(a ++ 10 :: b).length) hE2 hll (lb.length + 1) 0 n qb fb
  have h3:funcsP (la ++ lc) (a ++ 10 :: b).length ((la ++ lc).length + 1) la.length=funcsP (la ++ lc) (a ++ 10 :: b).length (lb.length + 1) la.length:=funcs_fuel _ _ _ (by omega) (by omega) (by omega)
  rw [h3,h2,PR.ok_andThen] at h1
  exact ⟨la ++ lc,_,sc,h1⟩
theorem parse_fault {s : List UInt8} {m : List (MFunc 6)} (h : parseL s = .ok m) : (modFault m).1 = 0 := by
  unfold parseL at h
  split at h
  · cases h
  · split at h
    · cases h
    · split at h
      · cases h
      · rename_i h0
        injection h with h
        subst h
        exact Decidable.not_not.1 h0
theorem parse_some {s : List UInt8} {m : List (MFunc 6)} (h : parseL s = .ok m) : 1 ≤ m.length ∧ m.length ≤ 8 := by
  have h0:=parse_fault h
  unfold modFault at h0
  split at h0
  · cases h0
  · omega
theorem ParOut.two {s : List UInt8} {w w' : World} {en : Ending} (h : ParOut s w en w') :
    (∃ c a:Int,c≠0∧en=.returned (.tuple #[.agg #[.slice none 0 0],.agg #[.int .i64 c,.int .i64 a]])∧Below w.heap.size w w') ∨
    (∃ m a c,parseL s=.ok m∧en=.returned (.tuple #[.agg #[.slice a m.length c],.agg #[.int .i64 0,.int .i64 0]])∧(modL 6).In w' (fun g=>w.heap.size≤g) m [.slice a m.length c]∧Below w.heap.size w w'):=by
  rcases h with ⟨c,a,h1,h2,h3,_⟩ | ⟨l,m,q,_,_,h1,h2,h3⟩ | h
  · exact .inl ⟨c,a,h1,h2,h3⟩
  · exact .inl ⟨_,_,h1,h2,h3⟩
  · exact .inr h
theorem ParOut.some_ {s : List UInt8} {w w' : World} {en : Ending} (h : ParOut s w en w') : ∃ p n c, ∃ x y : Int, en = .returned (.tuple #[.agg #[.slice p n c], .agg #[.int .i64 x, .int .i64 y]]) ∧ Below w.heap.size w w' := by
  rcases h.two with ⟨c,a,_,h2,h3⟩ | ⟨m,a,c,_,h2,_,h3⟩
  · exact ⟨_,_,_,_,_,h2,h3⟩
  · exact ⟨_,_,_,_,_,h2,h3⟩
theorem Lay.flat {α : Type} {A : Lay α} {w : World} {O : Nat → Prop} {g o : Nat} {l : List α} {n c : Nat} (h : A.list.In w O l [.slice (some ⟨g, o, none⟩) n c]) (hone : ∀ (x : α) (ds : List Value), A.In w O x ds → ∀ u ∈ ds, u.oneCell' = true) :
    ∃ ds:List Value,ds.length=l.length * A.size∧(∀ (j:Nat) (u:Value),ds[j]?=some u→w.cell? ((⟨g,o,none⟩:Addr).add j)=some u)∧(∀ u ∈ ds,u.oneCell'=true)∧∀ (i:Nat) (x:α),l[i]?=some x→A.In w O x ((ds.drop (i * A.size)).take A.size):=by
  have key:∀ k,k≤l.length→∃ ds:List Value,ds.length=k * A.size∧(∀ (j:Nat) (u:Value),ds[j]?=some u→w.cell? ⟨g,o + j,none⟩=some u)∧(∀ u ∈ ds,u.oneCell'=true)∧∀ (i:Nat) (x:α),i < k→l[i]?=some x→A.In w O x ((ds.drop (i * A.size)).take A.size):=by
    intro k
    induction k with
    | zero=>exact fun _=>⟨[],by simp,fun j u hj=>by simp at hj,fun u hu=>by simp at hu,fun i x hi=>by omega⟩
    | succ k ih =>
      intro hk
      obtain ⟨ds,h1,h2,h3,h4⟩:=ih (by omega)
      obtain ⟨x,hx⟩:∃ x,l[k]?=some x:=⟨_,List.getElem?_eq_getElem (by omega)⟩
      obtain ⟨g',o',es,e1,_,_,hc,hd⟩:=Lay.list_at h hx
      injection e1 with e1
      injection e1 with e1 e2
      subst e1;subst e2
      have hes:=A.len hd
      refine ⟨ds ++ es,by rw [List.length_append,h1,hes,Nat.add_mul];omega,fun j u hj=>?_,fun u hu=>?_,fun i y hi hy=>?_⟩
      · rw [List.getElem?_append] at hj
        split at hj
        · exact h2 j u hj
        · rename_i hlt
          have hjl:j - ds.length < es.length:=(List.getElem?_eq_some_iff.1 hj).1
          have h5:=hc (j - ds.length) (by omega)
          rw [hj] at h5
          rw [← h5]
          congr 2
          omega
      · rcases List.mem_append.1 hu with hu | hu
        · exact h3 u hu
        · exact hone x es hd u hu
      · by_cases hik:i=k
        · subst hik
          rw [hx] at hy
          injection hy with hy
          subst hy
          rw [List.drop_append,List.drop_of_length_le (by omega),h1,Nat.sub_self,List.drop_zero,List.nil_append,List.take_of_length_le (by omega)]
          exact hd
        · have hm:(i + 1) * A.size≤k * A.size:=Nat.mul_le_mul_right _ (by omega)
          rw [Nat.add_mul] at hm
          rw [List.drop_append_of_le_length (by omega),List.take_append_of_le_length (by simp;omega)]
          exact h4 i y (by omega) hy
  obtain ⟨ds,h1,h2,h3,h4⟩:=key l.length (Nat.le_refl _)
  exact ⟨ds,h1,fun j u hj=>by rw [Go.WideShapes.add_plain];exact h2 j u hj,h3,fun i x hx=>h4 i x (List.getElem?_eq_some_iff.1 hx).1 hx⟩
theorem kids_append {α : Type} {P : α → List Value → Prop} {l l2 : List α} {xs ds : List Value} {s : Nat} (hxl : xs.length = l.length * s)
    (h3:∀ (i:Nat) (x:α),l[i]?=some x→P x ((xs.drop (i * s)).take s)) (hx:∀ (i:Nat) (x:α),l2[i]?=some x→P x ((ds.drop (i * s)).take s)) :
    ∀ (i:Nat) (x:α),(l ++ l2)[i]?=some x→P x (((xs ++ ds).drop (i * s)).take s):=by
  intro i y hy
  rw [List.getElem?_append] at hy
  split at hy
  · rename_i hi
    have hm:(i + 1) * s≤l.length * s:=Nat.mul_le_mul_right _ hi
    rw [Nat.add_mul] at hm
    rw [List.drop_append_of_le_length (by omega),List.take_append_of_le_length (by simp;omega)]
    exact h3 i y hy
  · rename_i hi
    have hm:l.length * s≤i * s:=Nat.mul_le_mul_right _ (by omega)
    have:=hx (i - l.length) y hy
    rw [Nat.sub_mul] at this
    rw [List.drop_append,List.drop_of_length_le (by omega),List.nil_append,hxl]
    exact this
theorem list_of_row {α : Type} {A : Lay α} {e : TypeId} {w : World} {O : Nat → Prop} {g N cap : Nat} {l : List α} {xs : List Value} (ho : w.ownsRow 0 e A.size (.slice (some ⟨g, 0, none⟩) N cap) N xs) (hN : l.length = N)
    (hk:∀ (i:Nat) (x:α),l[i]?=some x→A.In w O x ((xs.drop (i * A.size)).take A.size)) (hg:O g):A.list.In w O l [.slice (some ⟨g,0,none⟩) N cap]:=by
  subst hN
  obtain ⟨h1,h2⟩:=ho
  rcases h2 with ⟨h4,_⟩ | ⟨g',cap',cur,e',hg',hh,hn,hm,hs,ht⟩
  · cases h4
  · injection e' with e1 _ e2
    injection e1 with e1
    injection e1 with e1 _
    subst e1;subst e2
    refine ⟨some ⟨g,0,none⟩,cap,rfl,fun i x hx=>⟨g,0,_,rfl,hg,lt_of_block hh,fun j hj=>?_,hk i x hx⟩⟩
    have hi:i < l.length:=(List.getElem?_eq_some_iff.1 hx).1
    have hij:i * A.size + j < l.length * A.size:=by
      have:(i + 1) * A.size≤l.length * A.size:=Nat.mul_le_mul_right _ hi
      rw [Nat.add_mul] at this
      omega
    rw [List.getElem?_take,if_pos hj,List.getElem?_drop,← ht,List.getElem?_take,if_pos hij,Nat.zero_add]
    have hcs:i * A.size + j < cur.size:=by
      have:l.length * A.size≤cap * A.size:=Nat.mul_le_mul_right _ hn
      omega
    rw [Array.getElem?_toList]
    exact (cellOf hh _ cur[i * A.size + j] (Array.getElem?_eq_getElem hcs)).trans (Array.getElem?_eq_getElem hcs).symm
theorem owns_keep {w w' : World} {e : TypeId} {s g N cap : Nat} {xs : List Value} (h : w.ownsRow 0 e s (.slice (some ⟨g, 0, none⟩) N cap) N xs) (hg : w'.heap[g]? = w.heap[g]?) : w'.ownsRow 0 e s (.slice (some ⟨g, 0, none⟩) N cap) N xs := by
  obtain ⟨h1,h2⟩:=h
  refine ⟨h1,?_⟩
  rcases h2 with h4 | ⟨g',cap',cur,e',hg',hh,r⟩
  · exact .inl h4
  · injection e' with e1 _ e2
    injection e1 with e1
    injection e1 with e1 _
    subst e1;subst e2
    exact .inr ⟨g,cap,cur,rfl,hg',hg.trans hh,r⟩
theorem firstF_nil0 {α : Type} {f : Nat → α → Int × Int} : ∀ {l : List α} {i : Nat}, (firstF f i l).1 = 0 → firstF f i l = (0, 0)
  | [],i,h=>rfl
  | x :: xs,i,h=>by
    simp only [firstF] at h ⊢
    split at h
    · rename_i h1;exact absurd h h1
    · rename_i h1
      rw [if_neg h1]
      exact firstF_nil0 h
theorem modFault_zero {m : List (MFunc 6)} (h : (modFault m).1 = 0) : modFault m = (0, 0) := by
  unfold modFault at h ⊢
  split at h
  · cases h
  · rename_i h1
    rw [if_neg h1]
    exact firstF_nil0 h
theorem ParOut.joined {a b : List UInt8} {m n : List (MFunc 6)} {w w' : World} {en : Ending} (ha : parseL a = .ok m) (hb : parseL b = .ok n) (hl : a.length + b.length ≤ 39000) (h : ParOut (a ++ 10 :: b) w en w') :
    (∃ pb nb cb,en=.returned (.tuple #[.agg #[.slice pb nb cb],.agg #[.int .i64 (modFault (m ++ n)).1,.int .i64 (modFault (m ++ n)).2]])∧Below w.heap.size w w'∧((modFault (m ++ n)).1=0→nb=(m ++ n).length∧(modL 6).In w' (fun g=>w.heap.size≤g) (m ++ n) [.slice pb nb cb]))∧msmall (m ++ n):=by
  obtain ⟨L,Q,h1,h2⟩:=funcs_join ha hb hl
  refine ⟨?_,parsed_small (by have:=(scanL_fine h1).2;omega) h2⟩
  rcases h with ⟨c,x,_,_,_,hno⟩ | ⟨l',m',q',h3,h4,h5,h6,h7⟩ | ⟨m',p',c',h3,h4,h5,h6⟩
  · exact absurd h2 (hno _ _ _ h1)
  · rw [h1] at h3
    injection h3 with h3
    subst h3
    rw [h2] at h4
    injection h4 with h4
    injection h4 with h4 _
    subst h4
    exact ⟨_,_,_,h6,h7,fun h0=>absurd h0 h5⟩
  · have hf:=parse_fault h3
    have hm:m'=m ++ n:=by
      unfold parseL at h3
      rw [h1] at h3
      simp only [h2] at h3
      split at h3
      · cases h3
      · injection h3 with h3
        exact h3.symm
    subst hm
    rw [modFault_zero hf]
    exact ⟨p',_,c',h4,h6,fun _=>⟨rfl,h5⟩⟩
theorem func_one {w : World} {O : Nat → Prop} (x : MFunc 6) (ds : List Value) (h : (funcL 6).In w O x ds) : ∀ u ∈ ds, u.oneCell' = true := by
  obtain ⟨a,c,b,d,e,f,rfl,_⟩:=func_form h
  exact pOne4 _ _ _ _ _ _ _ _ _ _
end Go.Proofs.YtjodmledadbgeacGreatDoor
namespace Go.Proofs.YtjodmledadbgeacGreatDoor
open Go.ChangeShapes Go.WideShapes Go.ChangeAt Go.RowKit
set_option linter.unusedSimpArgs false
set_option linter.unusedVariables false
theorem blockFault_any {n : Nat} {m : List (MFunc n)} {p : Option Addr} {c fi bi : Nat} {x : MFunc n} {y : MBlock n} {w : World} (hm0 : (modL n).In w All m [.slice p m.length c]) (hs0 : msmall m) (hx1 : m[fi]? = some x) (hx2 : x.blocks[bi]? = some y) :
    Rd Tryz.prog 31 #[.agg #[.slice p m.length c],.int .i64 (fi:Int),.int .i64 (bi:Int)] w (faultV (MBlock.fault m.length fi x bi y)):=by
  have hlt1:fi < m.length:=(List.getElem?_eq_some_iff.1 hx1).1
  have hlt2:bi < x.blocks.length:=(List.getElem?_eq_some_iff.1 hx2).1
  have hs1:Hid x.small:=hs0.2 _ (List.mem_of_getElem? hx1)
  have hs2:Hid y.small:=hs1.out.2.2.2 _ (List.mem_of_getElem? hx2)
  have hmb:=hs0.1
  have hxb:=hs1.out.1
  have hyb:=hs2.out.1
  obtain ⟨g1,o1,f1,hp1,E1,In1⟩:=func_at hm0 hx1
  obtain ⟨g2,o2,b2,hp2,E2,In2⟩:=block_at In1.blocks hx2
  replace E1:Hid _:=E1
  replace E2:Hid _:=E2
  clear hm0 hs0
  replace In1:Hid _:=In1
  replace In2:Hid _:=In2
  replace hp1:Hid _:=hp1
  replace hp2:Hid _:=hp2
  replace hx1:Hid _:=hx1
  replace hx2:Hid _:=hx2
  refine fr_enter (n:=112) Tryz.func31 rfl rfl rfl ?_
  intro a hF
  have hW:=Wd.start w
  replace hF:Fr 112 a [(0,.agg #[.slice p m.length c]),(1,.int .i64 (fi:Int)),(2,.int .i64 (bi:Int))]:=hF
  refine wp_seq_k fun K1 hK1=>?_
  refine rg hF fun ops=>?_;clear hF a
  refine sB hW trivial rfl rfl ?_
  clear hW;intro w2 B2 hW2 hN;clear hN
  refine sAFault hW2 trivial rfl ?_
  clear hW2;intro w3 B3 hW3 hN;clear hN
  refine St.nil fun a4 h4=>?_
  refine hK1 _ _ ?_
  refine wp_seq_k fun K5 hK5=>?_
  refine rg h4 fun ops=>?_;clear h4 a4
  refine sfModule0 trivial rfl rfl ?_
  refine sbFuncs 1 hW3 trivial rfl rfl rfl rfl ?_
  refine sm trivial rfl rfl ?_
  refine siFuncs hp1.out hlt1 trivial rfl rfl rfl ?_
  refine sSE Tryz.underlying38 rfl (rangeAt_bel E1.out hW3.bel) infFunc trivial rfl rfl ?_
  refine sAFunc hW3 trivial rfl ?_
  clear hW3;intro w6 B6 hW6 hN;clear hN
  refine sT 0 hW6 rfl rfl infFunc rfl rfl rfl ?_
  clear hW6;intro w7 hW7
  refine St.nil fun a8 h8=>?_
  refine hK5 _ _ ?_
  refine wp_seq_k fun K9 hK9=>?_
  refine rg h8 fun ops=>?_;clear h8 a8
  refine sfFunc3 trivial rfl rfl ?_
  refine sbBlocks 0 hW7 trivial rfl rfl rfl rfl ?_
  refine sm trivial rfl rfl ?_
  refine siBlocks hp2.out hlt2 trivial rfl rfl rfl ?_
  refine sSE Tryz.underlying48 rfl (rangeAt_bel E2.out hW7.bel) infBlock trivial rfl rfl ?_
  refine sABlock hW7 trivial rfl ?_
  clear hW7;intro w10 B10 hW10 hN;clear hN
  refine sT 0 hW10 rfl rfl infBlock rfl rfl rfl ?_
  clear hW10;intro w11 hW11
  refine St.nil fun a12 h12=>?_
  refine hK9 _ _ ?_
  refine wp_seq_k fun K13 hK13=>?_
  refine wp_seq_k fun K14 hK14=>?_
  refine fr_region ?_
  intro ops hops
  have hg5:(ops[5]?).bind (fun o:Oper=>o.dst)=some 28:=hops 5
  clear hops
  refine St.go h12 ?_;clear h12 a12
  refine sfBlock0 trivial rfl rfl ?_
  refine sbInt 0 hW11 trivial rfl rfl rfl rfl ?_
  refine sfFunc0 trivial rfl rfl ?_
  refine sbInt 1 hW11 trivial rfl rfl rfl rfl ?_
  refine slt trivial rfl rfl rfl ?_
  refine sm trivial rfl rfl ?_
  intro a15 h15
  rcases Bool.eq_false_or_eq_true (decide (y.regs < x.regs)) with hb | hb
  ·rw [hb] at h15
   have hc16:y.regs < x.regs:=of_decide_eq_true hb
   clear hb
   refine St.go h15 ?_;clear h15 a15
   refine so hg5 rfl rfl rfl rfl ?_
   refine so hg5 rfl rfl rfl rfl ?_
   refine so hg5 rfl rfl rfl rfl ?_
   refine sp trivial rfl rfl rfl ?_
   refine St.nil fun a17 h17=>?_
   refine hK14 _ _ ?_
   refine fr_true (t:=32) h17 rfl ?_
   refine wp_seq_k fun K18 hK18=>?_
   refine rg h17 fun ops=>?_;clear h17 a17
   refine sm trivial rfl rfl ?_
   refine sm trivial rfl rfl ?_
   refine sc_2 cf55 hW11 (atBlock_any (f:=fi) (b:=bi) ⟨by omega,by omega⟩) trivial rfl rfl rfl ?_
   clear hW11;intro w19 hW19
   refine sc_2 cf28 hW19 (fF_any (xc:=1) (xp:=10000 * (fi:Int) + 100 * (bi:Int) + 90)) trivial rfl rfl rfl ?_
   clear hW19;intro w20 hW20
   refine sT 2 hW20 rfl rfl infFault rfl rfl rfl ?_
   clear hW20;intro w21 hW21
   refine St.nil fun a22 h22=>?_
   refine hK18 _ _ ?_
   refine wp_ret ?_;with_reducible repeat first | refine of_then_ret ?_ | refine of_block_ret ?_
   have RC:y.code' x bi=1:=if_pos (by omega)
   have EF:=MBlock.fault_eq m.length fi x bi y
   rw [RC,if_neg (by omega)] at EF
   exact ret_box 2 h22 hW21 rfl rfl rfl Tryz.underlying27 rfl infFault ⟨by show Ending.returned (.agg #[.int .i64 1,.int .i64 (10000 * (fi:Int) + 100 * (bi:Int) + 90)])=_;rw [EF],hW21.bel⟩
  rw [hb] at h15
  have hc23:¬ (y.regs < x.regs):=of_decide_eq_false hb
  clear hb
  refine St.go h15 ?_;clear h15 a15
  refine sfBlock0 ⟨_,hg5,rfl,rfl⟩ rfl rfl ?_
  refine sbInt 0 hW11 ⟨_,hg5,rfl,rfl⟩ rfl rfl rfl rfl ?_
  refine sgt ⟨_,hg5,rfl,rfl⟩ rfl rfl rfl ?_
  refine spf trivial rfl rfl rfl ?_
  refine St.nil fun a24 h24=>?_
  refine hK14 _ _ ?_
  refine fr_cond (t:=32) h24 rfl (fun hb=>?_) (fun hb=>?_)
  ·have hc25:16 < y.regs:=of_decide_eq_true hb
   clear hb
   refine wp_seq_k fun K26 hK26=>?_
   refine rg h24 fun ops=>?_;clear h24 a24
   refine sm trivial rfl rfl ?_
   refine sm trivial rfl rfl ?_
   refine sc_2 cf55 hW11 (atBlock_any (f:=fi) (b:=bi) ⟨by omega,by omega⟩) trivial rfl rfl rfl ?_
   clear hW11;intro w27 hW27
   refine sc_2 cf28 hW27 (fF_any (xc:=1) (xp:=10000 * (fi:Int) + 100 * (bi:Int) + 90)) trivial rfl rfl rfl ?_
   clear hW27;intro w28 hW28
   refine sT 2 hW28 rfl rfl infFault rfl rfl rfl ?_
   clear hW28;intro w29 hW29
   refine St.nil fun a30 h30=>?_
   refine hK26 _ _ ?_
   refine wp_ret ?_;with_reducible repeat first | refine of_then_ret ?_ | refine of_block_ret ?_
   have RC:y.code' x bi=1:=if_pos (by omega)
   have EF:=MBlock.fault_eq m.length fi x bi y
   rw [RC,if_neg (by omega)] at EF
   exact ret_box 2 h30 hW29 rfl rfl rfl Tryz.underlying27 rfl infFault ⟨by show Ending.returned (.agg #[.int .i64 1,.int .i64 (10000 * (fi:Int) + 100 * (bi:Int) + 90)])=_;rw [EF],hW29.bel⟩
  have hc31:¬ (16 < y.regs):=of_decide_eq_false hb
  clear hb
  refine wp_skip ?_
  refine hK13 _ _ ?_
  refine wp_seq_k fun K32 hK32=>?_
  refine wp_seq_k fun K33 hK33=>?_
  refine rg h24 fun ops=>?_;clear h24 a24
  refine sfBlock1 trivial rfl rfl ?_
  refine sbTypes 0 hW11 trivial rfl rfl rfl rfl ?_
  refine sfBlock0 trivial rfl rfl ?_
  refine sbInt 0 hW11 trivial rfl rfl rfl rfl ?_
  refine sc_2 cf30 hW11 (listForm_any (regs:=y.regs) (Lay.below In2.out.params hW11.bel) hs2.out.2.1) trivial rfl rfl rfl ?_
  clear hW11;intro w34 hW34
  refine sa trivial rfl rfl ?_
  refine St.nil fun a35 h35=>?_
  refine hK33 _ _ ?_
  refine wp_seq_k fun K36 hK36=>?_
  refine rg h35 fun ops=>?_;clear h35 a35
  refine sm trivial rfl rfl ?_
  refine sne trivial rfl rfl rfl ?_
  refine St.nil fun a37 h37=>?_
  refine hK36 _ _ ?_
  refine fr_cond (t:=43) h37 rfl (fun hb=>?_) (fun hb=>?_)
  ·have h9:¬ (listC y.regs y.params)=0:=bne_iff_ne.1 hb
   have hc38:¬ (listC y.regs y.params)=0:=h9
   clear h9
   clear hb
   refine wp_seq_k fun K39 hK39=>?_
   refine rg h37 fun ops=>?_;clear h37 a37
   refine sm trivial rfl rfl ?_
   refine sm trivial rfl rfl ?_
   refine sm trivial rfl rfl ?_
   refine sc_2 cf55 hW34 (atBlock_any (f:=fi) (b:=bi) ⟨by omega,by omega⟩) trivial rfl rfl rfl ?_
   clear hW34;intro w40 hW40
   refine sc_2 cf28 hW40 (fF_any (xc:=listC y.regs y.params) (xp:=10000 * (fi:Int) + 100 * (bi:Int) + 90)) trivial rfl rfl rfl ?_
   clear hW40;intro w41 hW41
   refine sT 2 hW41 rfl rfl infFault rfl rfl rfl ?_
   clear hW41;intro w42 hW42
   refine St.nil fun a43 h43=>?_
   refine hK39 _ _ ?_
   refine wp_ret ?_;with_reducible repeat first | refine of_then_ret ?_ | refine of_block_ret ?_
   have RC:y.code' x bi=listC y.regs y.params:=(if_neg (by omega)).trans (if_pos (by omega))
   have EF:=MBlock.fault_eq m.length fi x bi y
   rw [RC,if_neg (by omega)] at EF
   exact ret_box 2 h43 hW42 rfl rfl rfl Tryz.underlying27 rfl infFault ⟨by show Ending.returned (.agg #[.int .i64 (listC y.regs y.params),.int .i64 (10000 * (fi:Int) + 100 * (bi:Int) + 90)])=_;rw [EF],hW42.bel⟩
  have h9:(listC y.regs y.params)=0:=bne_eq_false_iff_eq.1 hb
  have hc44:Hid ((listC y.regs y.params)=0):=h9
  clear h9
  clear hb
  refine wp_skip ?_
  refine hK32 _ _ ?_
  refine wp_seq_k fun K45 hK45=>?_
  refine wp_seq_k fun K46 hK46=>?_
  refine fr_region ?_
  intro ops hops
  have hg2:(ops[2]?).bind (fun o:Oper=>o.dst)=some 51:=hops 2
  have hg8:(ops[8]?).bind (fun o:Oper=>o.dst)=some 57:=hops 8
  clear hops
  refine St.go h37 ?_;clear h37 a37
  refine sm trivial rfl rfl ?_
  refine seq trivial rfl rfl rfl ?_
  refine sm trivial rfl rfl ?_
  intro a47 h47
  rcases Bool.eq_false_or_eq_true ((bi:Int) == 0) with hb | hb
  ·rw [hb] at h47
   have h9:bi=0:=by have h8:=eq_of_beq hb;omega
   have hc48:Hid (bi=0):=h9
   clear h9
   clear hb
   refine St.go h47 ?_;clear h47 a47
   refine sfBlock0 ⟨_,hg2,rfl,rfl⟩ rfl rfl ?_
   refine sbInt 0 hW34 ⟨_,hg2,rfl,rfl⟩ rfl rfl rfl rfl ?_
   refine sfFunc0 ⟨_,hg2,rfl,rfl⟩ rfl rfl ?_
   refine sbInt 1 hW34 ⟨_,hg2,rfl,rfl⟩ rfl rfl rfl rfl ?_
   refine sne ⟨_,hg2,rfl,rfl⟩ rfl rfl rfl ?_
   refine sm ⟨_,hg2,rfl,rfl⟩ rfl rfl ?_
   intro a49 h49
   rcases Bool.eq_false_or_eq_true (y.regs != x.regs) with hb | hb
   ·rw [hb] at h49
    have h9:¬ y.regs=x.regs:=bne_iff_ne.1 hb
    have hc50:¬ y.regs=x.regs:=h9
    clear h9
    clear hb
    refine St.go h49 ?_;clear h49 a49
    refine so hg8 rfl rfl rfl rfl ?_
    refine so hg8 rfl rfl rfl rfl ?_
    refine so hg8 rfl rfl rfl rfl ?_
    refine so hg8 rfl rfl rfl rfl ?_
    refine so hg8 rfl rfl rfl rfl ?_
    refine so hg8 rfl rfl rfl rfl ?_
    refine sp ⟨_,hg2,rfl,rfl⟩ rfl rfl rfl ?_
    refine sp trivial rfl rfl rfl ?_
    refine St.nil fun a51 h51=>?_
    refine hK46 _ _ ?_
    refine fr_true (t:=65) h51 rfl ?_
    refine wp_seq_k fun K52 hK52=>?_
    refine rg h51 fun ops=>?_;clear h51 a51
    refine sm trivial rfl rfl ?_
    refine sm trivial rfl rfl ?_
    refine sc_2 cf55 hW34 (atBlock_any (f:=fi) (b:=bi) ⟨by omega,by omega⟩) trivial rfl rfl rfl ?_
    clear hW34;intro w53 hW53
    refine sc_2 cf28 hW53 (fF_any (xc:=9) (xp:=10000 * (fi:Int) + 100 * (bi:Int) + 90)) trivial rfl rfl rfl ?_
    clear hW53;intro w54 hW54
    refine sT 2 hW54 rfl rfl infFault rfl rfl rfl ?_
    clear hW54;intro w55 hW55
    refine St.nil fun a56 h56=>?_
    refine hK52 _ _ ?_
    refine wp_ret ?_;with_reducible repeat first | refine of_then_ret ?_ | refine of_block_ret ?_
    have:=hc44.out
    have:=hc48.out
    have RC:y.code' x bi=9:=(if_neg (by omega)).trans ((if_neg (by omega)).trans (if_pos (⟨by omega,.inl (by omega)⟩)))
    have EF:=MBlock.fault_eq m.length fi x bi y
    rw [RC,if_neg (by omega)] at EF
    exact ret_box 2 h56 hW55 rfl rfl rfl Tryz.underlying27 rfl infFault ⟨by show Ending.returned (.agg #[.int .i64 9,.int .i64 (10000 * (fi:Int) + 100 * (bi:Int) + 90)])=_;rw [EF],hW55.bel⟩
   rw [hb] at h49
   have h9:y.regs=x.regs:=bne_eq_false_iff_eq.1 hb
   have hc57:Hid (y.regs=x.regs):=h9
   clear h9
   clear hb
   refine St.go h49 ?_;clear h49 a49
   refine sfBlock1 ⟨_,hg8,rfl,rfl⟩ rfl rfl ?_
   refine sbTypes 0 hW34 ⟨_,hg8,rfl,rfl⟩ rfl rfl rfl rfl ?_
   refine sfFunc1 ⟨_,hg8,rfl,rfl⟩ rfl rfl ?_
   refine sbTypes 1 hW34 ⟨_,hg8,rfl,rfl⟩ rfl rfl rfl rfl ?_
   refine sc_2 cf25 hW34 (sameTypes_any (Lay.below In2.out.params hW34.bel) (Lay.below In1.out.params hW34.bel) hs2.out.2.1) ⟨_,hg8,rfl,rfl⟩ rfl rfl rfl ?_
   clear hW34;intro w58 hW58
   refine sn ⟨_,hg8,rfl,rfl⟩ rfl rfl ?_
   refine spf ⟨_,hg2,rfl,rfl⟩ rfl rfl rfl ?_
   refine sp trivial rfl rfl rfl ?_
   refine St.nil fun a59 h59=>?_
   refine hK46 _ _ ?_
   refine fr_cond (t:=65) h59 rfl (fun hb=>?_) (fun hb=>?_)
   ·have hb:(bdec (y.params=x.params))=false:=by simpa using hb
    have hc60:¬ (y.params=x.params):=fun h=>by rw [bdec_true h] at hb;cases hb
    clear hb
    refine wp_seq_k fun K61 hK61=>?_
    refine rg h59 fun ops=>?_;clear h59 a59
    refine sm trivial rfl rfl ?_
    refine sm trivial rfl rfl ?_
    refine sc_2 cf55 hW58 (atBlock_any (f:=fi) (b:=bi) ⟨by omega,by omega⟩) trivial rfl rfl rfl ?_
    clear hW58;intro w62 hW62
    refine sc_2 cf28 hW62 (fF_any (xc:=9) (xp:=10000 * (fi:Int) + 100 * (bi:Int) + 90)) trivial rfl rfl rfl ?_
    clear hW62;intro w63 hW63
    refine sT 2 hW63 rfl rfl infFault rfl rfl rfl ?_
    clear hW63;intro w64 hW64
    refine St.nil fun a65 h65=>?_
    refine hK61 _ _ ?_
    refine wp_ret ?_;with_reducible repeat first | refine of_then_ret ?_ | refine of_block_ret ?_
    have:=hc44.out
    have:=hc48.out
    have:=hc57.out
    have RC:y.code' x bi=9:=(if_neg (by omega)).trans ((if_neg (by omega)).trans (if_pos (⟨by omega,takes_no (fun h9=>hc60 h9.2)⟩)))
    have EF:=MBlock.fault_eq m.length fi x bi y
    rw [RC,if_neg (by omega)] at EF
    exact ret_box 2 h65 hW64 rfl rfl rfl Tryz.underlying27 rfl infFault ⟨by show Ending.returned (.agg #[.int .i64 9,.int .i64 (10000 * (fi:Int) + 100 * (bi:Int) + 90)])=_;rw [EF],hW64.bel⟩
   have hb:(bdec (y.params=x.params))=true:=by simpa using hb
   have hc66:(y.params=x.params):=bdec_iff.1 hb
   clear hb
   refine wp_skip ?_
   refine hK45 _ _ ?_
   refine wp_seq_k fun K67 hK67=>?_
   refine wp_seq_k fun K68 hK68=>?_
   refine rg h59 fun ops=>?_;clear h59 a59
   refine sfBlock2 trivial rfl rfl ?_
   refine sbInss 0 hW58 trivial rfl rfl rfl rfl ?_
   refine slInss trivial rfl rfl ?_
   refine sgt trivial rfl rfl rfl ?_
   refine St.nil fun a69 h69=>?_
   refine hK68 _ _ ?_
   refine fr_cond (t:=73) h69 rfl (fun hb=>?_) (fun hb=>?_)
   ·have hc70:40 < y.code.length:=by have:=of_decide_eq_true hb;omega
    clear hb
    refine wp_seq_k fun K71 hK71=>?_
    refine rg h69 fun ops=>?_;clear h69 a69
    refine sm trivial rfl rfl ?_
    refine sm trivial rfl rfl ?_
    refine sc_2 cf55 hW58 (atBlock_any (f:=fi) (b:=bi) ⟨by omega,by omega⟩) trivial rfl rfl rfl ?_
    clear hW58;intro w72 hW72
    refine sc_2 cf28 hW72 (fF_any (xc:=2) (xp:=10000 * (fi:Int) + 100 * (bi:Int) + 90)) trivial rfl rfl rfl ?_
    clear hW72;intro w73 hW73
    refine sT 2 hW73 rfl rfl infFault rfl rfl rfl ?_
    clear hW73;intro w74 hW74
    refine St.nil fun a75 h75=>?_
    refine hK71 _ _ ?_
    refine wp_ret ?_;with_reducible repeat first | refine of_then_ret ?_ | refine of_block_ret ?_
    have:=hc44.out
    have:=hc48.out
    have:=hc57.out
    have RC:y.code' x bi=2:=(if_neg (by omega)).trans ((if_neg (by omega)).trans ((if_neg (fun h9=>takes_yes ⟨by omega,hc66⟩ h9.2)).trans (if_pos (by omega))))
    have EF:=MBlock.fault_eq m.length fi x bi y
    rw [RC,if_neg (by omega)] at EF
    exact ret_box 2 h75 hW74 rfl rfl rfl Tryz.underlying27 rfl infFault ⟨by show Ending.returned (.agg #[.int .i64 2,.int .i64 (10000 * (fi:Int) + 100 * (bi:Int) + 90)])=_;rw [EF],hW74.bel⟩
   have hc76:¬ (40 < y.code.length):=by have:=of_decide_eq_false hb;omega
   clear hb
   refine wp_skip ?_
   refine hK67 _ _ ?_
   refine wp_seq_k fun K77 hK77=>?_
   refine wp_seq_k fun K78 hK78=>?_
   refine rg h69 fun ops=>?_;clear h69 a69
   refine sa trivial rfl rfl ?_
   refine St.nil fun a79 h79=>?_
   refine hK78 _ _ ?_
   refine wp_block ?_
   refine fr_loop (fun r a w'=>∃ q:Nat,q≤y.code.length∧r=y.code.length - q∧(∀ (j:Nat) z,j < q→y.code[j]?=some z→MIns.form m.length z=0)∧Fr 112 a [(2,.int .i64 (bi:Int)),(1,.int .i64 (fi:Int)),(0,.agg #[.slice p m.length c]),(3,.pointer (some ⟨B2,0,none⟩)),(6,.pointer (some ⟨B3,0,none⟩)),(7,.pointer (some ⟨B6,0,none⟩)),(8,.pointer (some ⟨B10,0,none⟩)),(9,.int .i64 (listC y.regs y.params)),(10,.int .i64 (q:Int))]∧Wd w w' [(B10,#[.int .i64 y.regs,.slice b2.pP y.params.length b2.cP,.slice b2.pC y.code.length b2.cC,.int .i64 y.fin.op,.int .i64 y.fin.a,.int .i64 y.fin.yes.block,.slice b2.e.pYR y.fin.yes.regs.length b2.e.cYR,.slice b2.e.pYA y.fin.yes.args.length b2.e.cYA,.int .i64 y.fin.no.block,.slice b2.e.pNR y.fin.no.regs.length b2.e.cNR,.slice b2.e.pNA y.fin.no.args.length b2.e.cNA,.slice b2.e.pA y.fin.args.length b2.e.cA],48),(B6,#[.int .i64 x.regs,.slice f1.pP x.params.length f1.cP,.slice f1.pR x.results.length f1.cR,.slice f1.pB x.blocks.length f1.cB],38),(B3,#[.int .i64 0,.int .i64 0],27),(B2,#[.slice p m.length c],25)]) (y.code.length) ⟨0,Nat.zero_le _,rfl,(fun j z hj=>by omega),(h79.keep (h79.keep (h79.keep (h79.keep (h79.keep (h79.keep (h79.keep (h79.keep (h79.keep h79.nil (t:=10) rfl) (t:=9) rfl) (t:=8) rfl) (t:=7) rfl) (t:=6) rfl) (t:=3) rfl) (t:=0) rfl) (t:=1) rfl) (t:=2) rfl),hW58⟩ ?_
   clear h79 hW58
   rintro r3 a80 w80 ⟨q,hq3,hr3,hall3,hF80,hW80⟩ KL3 hKL3
   refine wp_seq_k fun K81 hK81=>?_
   refine wp_seq_k fun K82 hK82=>?_
   refine rg hF80 fun ops=>?_;clear hF80 a80
   refine sm trivial rfl rfl ?_
   refine sfBlock2 trivial rfl rfl ?_
   refine sbInss 0 hW80 trivial rfl rfl rfl rfl ?_
   refine slInss trivial rfl rfl ?_
   refine slt trivial rfl rfl rfl ?_
   refine St.nil fun a83 h83=>?_
   refine hK82 _ _ ?_
   refine fr_cond (t:=82) h83 rfl (fun hb=>?_) (fun hb=>?_)
   ·have hlt3:q < y.code.length:=by have:=of_decide_eq_true hb;omega
    clear hb
    obtain ⟨z,hx3⟩:∃ v9,(y.code)[q]?=some v9:=⟨_,List.getElem?_eq_getElem hlt3⟩
    obtain ⟨g3,o3,i3,hp3,E3,In3⟩:=ins_at In2.out.code hx3
    replace In3:Hid _:=In3
    replace hp3:Hid _:=hp3
    replace hx3:Hid _:=hx3
    replace E3:Hid _:=E3
    refine wp_skip ?_
    refine hK81 _ _ ?_
    refine wp_seq_k fun K84 hK84=>?_
    refine wp_block ?_
    refine wp_seq_k fun K85 hK85=>?_
    have hF86:Fr 112 a83 [(2,.int .i64 (bi:Int)),(1,.int .i64 (fi:Int)),(0,.agg #[.slice p m.length c]),(3,.pointer (some ⟨B2,0,none⟩)),(6,.pointer (some ⟨B3,0,none⟩)),(7,.pointer (some ⟨B6,0,none⟩)),(8,.pointer (some ⟨B10,0,none⟩)),(9,.int .i64 (listC y.regs y.params)),(10,.int .i64 (q:Int))]:=(h83.keep (h83.keep (h83.keep (h83.keep (h83.keep (h83.keep (h83.keep (h83.keep (h83.keep h83.nil (t:=10) rfl) (t:=9) rfl) (t:=8) rfl) (t:=7) rfl) (t:=6) rfl) (t:=3) rfl) (t:=0) rfl) (t:=1) rfl) (t:=2) rfl)
    have ho3:a83.tmps.getD 3 undef=.pointer (some ⟨B2,0,none⟩):=h83.sl 3 _ rfl
    have ho8:a83.tmps.getD 8 undef=.pointer (some ⟨B10,0,none⟩):=h83.sl 8 _ rfl
    have ho10:a83.tmps.getD 10 undef=.int .i64 (q:Int):=h83.sl 10 _ rfl
    refine fr_draw_k 8 ([(3,fun v _=>v=.pointer (some ⟨B2,0,none⟩)),(8,fun v _=>v=.pointer (some ⟨B10,0,none⟩)),(10,fun v _=>v=.int .i64 (q:Int)),(85,fun v _=>v=.agg #[.slice p m.length c]),(86,fun v _=>v=.pointer (some ⟨B10,2,none⟩)),(87,fun v _=>v=.slice b2.pC y.code.length b2.cC),(88,fun v _=>v=.int .i64 (q:Int)),(89,fun v _=>v=.pointer (some ⟨g3,o3 + q * 8,none⟩)),(90,fun v _=>v=.agg #[.int .i64 z.op,.int .i64 z.a,.int .i64 z.b,.int .i64 z.c,.int .i64 z.k,.int .i64 z.n,.slice i3.pR z.regs.length i3.cR,.slice i3.pA z.args.length i3.cA]),(91,fun v _=>v=.int .i64 (MIns.form m.length z)),(11,fun v _=>v=.int .i64 (MIns.form m.length z))]:PTab) (fun w'=>Wd w w' [(B10,#[.int .i64 y.regs,.slice b2.pP y.params.length b2.cP,.slice b2.pC y.code.length b2.cC,.int .i64 y.fin.op,.int .i64 y.fin.a,.int .i64 y.fin.yes.block,.slice b2.e.pYR y.fin.yes.regs.length b2.e.cYR,.slice b2.e.pYA y.fin.yes.args.length b2.e.cYA,.int .i64 y.fin.no.block,.slice b2.e.pNR y.fin.no.regs.length b2.e.cNR,.slice b2.e.pNA y.fin.no.args.length b2.e.cNA,.slice b2.e.pA y.fin.args.length b2.e.cA],48),(B6,#[.int .i64 x.regs,.slice f1.pP x.params.length f1.cP,.slice f1.pR x.results.length f1.cR,.slice f1.pB x.blocks.length f1.cB],38),(B3,#[.int .i64 0,.int .i64 0],27),(B2,#[.slice p m.length c],25)]∧Below w80.heap.size w80 w') (fun w w'=>Below w.heap.size w w') (outs:=[3,8,10]) (gs:=[]) (bs:=[true,true,true,true,true,true,true,true]) (by kernel_rfl) hF86 rfl (by kernel_rfl) (by kernel_rfl) ?hR ?hG ⟨hW80.drewN 1,drewN_below (m:=1) (Below.refl _ _)⟩⟨ho3,ho8,ho10,trivial⟩ ?hA ?hend
    case hR=>exact ⟨fun _ _ _ _ h=>h,fun _ _ _ _ h=>h,fun _ _ _ _ h=>h,fun _ _ _ _ h=>h,fun _ _ _ _ h=>h,fun _ _ _ _ h=>h,fun _ _ _ _ h=>h,fun _ _ _ _ h=>h,fun _ _ _ _ h=>h,fun _ _ _ _ h=>h,fun _ _ _ _ h=>h,trivial⟩
    case hG=>exact trivial
    case hA =>
     refine ⟨fun a w hW hk K hK=>?_,?_⟩
     · obtain ⟨k0,-⟩:=hk
       have k0:a.tmps.getD 3 undef=.pointer (some ⟨B2,0,none⟩):=k0
       have c0:w.cell? ⟨B2,0,none⟩=some (.slice p m.length c):=cellOf (hW.1.get 3 rfl) 0 _ rfl
       go_simp
       exact hK _ _ (Below.refl _ _) hW rfl
     refine ⟨fun a w hW hk K hK=>?_,?_⟩
     · obtain ⟨k0,-⟩:=hk
       have k0:a.tmps.getD 8 undef=.pointer (some ⟨B10,0,none⟩):=k0
       go_simp
       exact hK _ _ (Below.refl _ _) hW rfl
     refine ⟨fun a w hW hk K hK=>?_,?_⟩
     · obtain ⟨k0,-⟩:=hk
       have k0:a.tmps.getD 86 undef=.pointer (some ⟨B10,2,none⟩):=k0
       have c2:w.cell? ⟨B10,2,none⟩=some (.slice b2.pC y.code.length b2.cC):=cellOf (hW.1.get 0 rfl) 2 _ rfl
       go_simp
       exact hK _ _ (Below.refl _ _) hW rfl
     refine ⟨fun a w hW hk K hK=>?_,?_⟩
     · obtain ⟨k0,-⟩:=hk
       have k0:a.tmps.getD 10 undef=.int .i64 (q:Int):=k0
       go_simp
       exact hK _ _ (Below.refl _ _) hW rfl
     refine ⟨fun a w hW hk K hK=>?_,?_⟩
     · obtain ⟨k0,k1,-⟩:=hk
       have k0:a.tmps.getD 87 undef=.slice b2.pC y.code.length b2.cC:=k0
       have k1:a.tmps.getD 88 undef=.int .i64 (q:Int):=k1
       have hpq:=hp3.out
       have hk0:(0:Int)≤q:=by omega
       have hk1:(q:Int) < (y.code.length:Int):=by omega
       go_simp
       exact hK _ _ (Below.refl _ _) hW rfl
     refine ⟨fun a w hW hk K hK=>?_,?_⟩
     · obtain ⟨k0,-⟩:=hk
       have k0:a.tmps.getD 89 undef=.pointer (some ⟨g3,o3 + q * 8,none⟩):=k0
       have d0:w.cell? ⟨g3,o3 + q * 8,none⟩=some (.int .i64 z.op):=bel_cell hW.1.bel (E3.out 0 _ rfl)
       have d1:w.cell? ⟨g3,o3 + q * 8 + 1,none⟩=some (.int .i64 z.a):=bel_cell hW.1.bel (E3.out 1 _ rfl)
       have d2:w.cell? ⟨g3,o3 + q * 8 + 2,none⟩=some (.int .i64 z.b):=bel_cell hW.1.bel (E3.out 2 _ rfl)
       have d3:w.cell? ⟨g3,o3 + q * 8 + 3,none⟩=some (.int .i64 z.c):=bel_cell hW.1.bel (E3.out 3 _ rfl)
       have d4:w.cell? ⟨g3,o3 + q * 8 + 4,none⟩=some (.int .i64 z.k):=bel_cell hW.1.bel (E3.out 4 _ rfl)
       have d5:w.cell? ⟨g3,o3 + q * 8 + 5,none⟩=some (.int .i64 z.n):=bel_cell hW.1.bel (E3.out 5 _ rfl)
       have d6:w.cell? ⟨g3,o3 + q * 8 + 6,none⟩=some (.slice i3.pR z.regs.length i3.cR):=bel_cell hW.1.bel (E3.out 6 _ rfl)
       have d7:w.cell? ⟨g3,o3 + q * 8 + 7,none⟩=some (.slice i3.pA z.args.length i3.cA):=bel_cell hW.1.bel (E3.out 7 _ rfl)
       go_simp
       exact hK _ _ (Below.refl _ _) hW rfl
     refine ⟨fun a w hW hk K hK=>?_,?_⟩
     · obtain ⟨k0,k1,-⟩:=hk
       have k0:a.tmps.getD 85 undef=.agg #[.slice p m.length c]:=k0
       have k1:a.tmps.getD 90 undef=.agg #[.int .i64 z.op,.int .i64 z.a,.int .i64 z.b,.int .i64 z.c,.int .i64 z.k,.int .i64 z.n,.slice i3.pR z.regs.length i3.cR,.slice i3.pA z.args.length i3.cA]:=k1
       have hC:Rd Tryz.prog 56 #[.agg #[.slice p m.length c],.agg #[.int .i64 z.op,.int .i64 z.a,.int .i64 z.b,.int .i64 z.c,.int .i64 z.k,.int .i64 z.n,.slice i3.pR z.regs.length i3.cR,.slice i3.pA z.args.length i3.cA]] w (.int .i64 (MIns.form m.length z)):=insForm_any m.length z i3 p c w
       go_simp
       refine hC.mono ?_
       rintro e w9 ⟨rfl,hb⟩
       exact hK _ _ hb ⟨hW.1.below hb,Below.andThen hW.2 hb⟩ rfl
     refine ⟨fun a w hW hk K hK=>?_,?_⟩
     · obtain ⟨k0,-⟩:=hk
       have k0:a.tmps.getD 91 undef=.int .i64 (MIns.form m.length z):=k0
       go_simp
       exact hK _ _ (Below.refl _ _) hW rfl
     trivial
    case hend =>
     intro ops a87 w87 hWD hE hFD
     have hd11:a87.tmps.getD 11 undef=.int .i64 (MIns.form m.length z):=hE 11 rfl
     have hF87:Fr 112 a87 [(11,.int .i64 (MIns.form m.length z)),(2,.int .i64 (bi:Int)),(1,.int .i64 (fi:Int)),(0,.agg #[.slice p m.length c]),(3,.pointer (some ⟨B2,0,none⟩)),(6,.pointer (some ⟨B3,0,none⟩)),(7,.pointer (some ⟨B6,0,none⟩)),(8,.pointer (some ⟨B10,0,none⟩)),(9,.int .i64 (listC y.regs y.params)),(10,.int .i64 (q:Int))]:=(hFD.cons hd11)
     clear hd11
     have hW87:Wd w w87 [(B10,#[.int .i64 y.regs,.slice b2.pP y.params.length b2.cP,.slice b2.pC y.code.length b2.cC,.int .i64 y.fin.op,.int .i64 y.fin.a,.int .i64 y.fin.yes.block,.slice b2.e.pYR y.fin.yes.regs.length b2.e.cYR,.slice b2.e.pYA y.fin.yes.args.length b2.e.cYA,.int .i64 y.fin.no.block,.slice b2.e.pNR y.fin.no.regs.length b2.e.cNR,.slice b2.e.pNA y.fin.no.args.length b2.e.cNA,.slice b2.e.pA y.fin.args.length b2.e.cA],48),(B6,#[.int .i64 x.regs,.slice f1.pP x.params.length f1.cP,.slice f1.pR x.results.length f1.cR,.slice f1.pB x.blocks.length f1.cB],38),(B3,#[.int .i64 0,.int .i64 0],27),(B2,#[.slice p m.length c],25)]:=hWD.1
     clear hFD hWD hE hF86 h83
     clear hW80
     refine wpList_nil ?_
     refine hK85 _ _ ?_
     refine wp_seq_k fun K88 hK88=>?_
     refine rg hF87 fun ops=>?_;clear hF87 a87
     refine sm trivial rfl rfl ?_
     refine sne trivial rfl rfl rfl ?_
     refine St.nil fun a89 h89=>?_
     refine hK88 _ _ ?_
     refine fr_cond (t:=93) h89 rfl (fun hb=>?_) (fun hb=>?_)
     ·have h9:¬ (MIns.form m.length z)=0:=bne_iff_ne.1 hb
      have hc90:¬ (MIns.form m.length z)=0:=h9
      clear h9
      clear hb
      refine wp_seq_k fun K91 hK91=>?_
      refine rg h89 fun ops=>?_;clear h89 a89
      refine sm trivial rfl rfl ?_
      refine sm trivial rfl rfl ?_
      refine sm trivial rfl rfl ?_
      refine sm trivial rfl rfl ?_
      refine sc_3 cf57 hW87 (atIns_any (f:=fi) (b:=bi) (i:=q) ⟨by omega,by omega,by omega⟩) trivial rfl rfl rfl rfl ?_
      clear hW87;intro w92 hW92
      refine sc_2 cf28 hW92 (fF_any (xc:=MIns.form m.length z) (xp:=10000 * (fi:Int) + 100 * (bi:Int) + (q:Int))) trivial rfl rfl rfl ?_
      clear hW92;intro w93 hW93
      refine sT 2 hW93 rfl rfl infFault rfl rfl rfl ?_
      clear hW93;intro w94 hW94
      refine St.nil fun a95 h95=>?_
      refine hK91 _ _ ?_
      refine wp_ret ?_;with_reducible repeat first | refine of_then_ret ?_ | refine of_block_ret ?_
      have:=hc44.out
      have:=hc48.out
      have:=hc57.out
      have RC:y.code' x bi=0:=(if_neg (by omega)).trans ((if_neg (by omega)).trans ((if_neg (fun h9=>takes_yes ⟨by omega,hc66⟩ h9.2)).trans ((if_neg (by omega)).trans (rfl))))
      have EF:=MBlock.fault_eq m.length fi x bi y
      rw [if_pos RC] at EF
      have RI:firstF (fun i z=>(MIns.form m.length z,(10000 * fi + 100 * bi + i:Int))) 0 y.code=(MIns.form m.length z,(10000 * fi + 100 * bi + q:Int)):=by
        have h9:=firstF_eq (f:=fun i z=>(MIns.form m.length z,(10000 * fi + 100 * bi + i:Int))) (j:=0) hx3.out (fun k z hk hz=>hall3 k z hk hz) hc90
        rwa [Nat.zero_add] at h9
      rw [RI,if_neg hc90] at EF
      exact ret_box 2 h95 hW94 rfl rfl rfl Tryz.underlying27 rfl infFault ⟨by show Ending.returned (.agg #[.int .i64 (MIns.form m.length z),.int .i64 (10000 * (fi:Int) + 100 * (bi:Int) + (q:Int))])=_;rw [EF],hW94.bel⟩
     have h9:(MIns.form m.length z)=0:=bne_eq_false_iff_eq.1 hb
     have hc96:Hid ((MIns.form m.length z)=0):=h9
     clear h9
     clear hb
     refine wp_skip ?_
     refine hK84 _ _ ?_
     refine rg h89 fun ops=>?_;clear h89 a89
     refine sm trivial rfl rfl ?_
     refine sad (by omega) trivial rfl rfl rfl ?_
     refine sa trivial rfl rfl ?_
     refine St.nil fun a97 h97=>?_
     refine hKL3 _ _ (y.code.length - (q + 1)) (by omega) ⟨q + 1,by omega,rfl,?_,(h97.keep (h97.keep (h97.keep (h97.keep (h97.keep (h97.keep (h97.keep (h97.keep (h97.keep h97.nil (t:=10) rfl) (t:=9) rfl) (t:=8) rfl) (t:=7) rfl) (t:=6) rfl) (t:=3) rfl) (t:=0) rfl) (t:=1) rfl) (t:=2) rfl),hW87⟩
     ·intro j z hj hz
      by_cases e:j=q
      · subst e;rw [hx3.out] at hz;cases hz;exact hc96.out
      · exact hall3 j z (by omega) hz
   have hge3:q=y.code.length:=by have:=of_decide_eq_false hb;omega
   clear hb
   refine wp_exit ?_
   refine hK77 _ _ ?_
   refine wp_seq_k fun K98 hK98=>?_
   refine wp_seq_k fun K99 hK99=>?_
   refine rg h83 fun ops=>?_;clear h83 a83
   refine sS 1 4 Tryz.underlying38 rfl infFunc hW80 trivial rfl rfl rfl rfl ?_
   refine sfBlock3 trivial rfl rfl ?_
   refine sS 0 9 Tryz.underlying46 rfl infEnd hW80 trivial rfl rfl rfl rfl ?_
   refine sc_2 cf58 hW80 (endForm_any (x:=y.fin) (e:=b2.e) (fr:=x.regs) (fp:=f1.pP) (fl:=x.params.length) (fc:=f1.cP) (fq:=f1.pR) (fm:=x.results.length) (fd:=f1.cR) (fb:=f1.pB) (bl:=x.blocks.length) (fe:=f1.cB) (by have:=hs2.out.2.2.1;exact ⟨by have:=this.1.1;omega,by have:=this.1.2;omega,by have:=this.2.1.1;omega,by have:=this.2.1.2;omega⟩) (by have:=hs1.out.1;omega)) trivial rfl rfl rfl ?_
   clear hW80;intro w100 hW100
   refine sa trivial rfl rfl ?_
   refine St.nil fun a101 h101=>?_
   refine hK99 _ _ ?_
   refine wp_seq_k fun K102 hK102=>?_
   refine rg h101 fun ops=>?_;clear h101 a101
   refine sm trivial rfl rfl ?_
   refine sne trivial rfl rfl rfl ?_
   refine St.nil fun a103 h103=>?_
   refine hK102 _ _ ?_
   refine fr_cond (t:=105) h103 rfl (fun hb=>?_) (fun hb=>?_)
   ·have h9:¬ (y.fin.form x.blocks.length)=0:=bne_iff_ne.1 hb
    have hc104:¬ (y.fin.form x.blocks.length)=0:=h9
    clear h9
    clear hb
    refine wp_seq_k fun K105 hK105=>?_
    refine rg h103 fun ops=>?_;clear h103 a103
    refine sm trivial rfl rfl ?_
    refine sm trivial rfl rfl ?_
    refine sm trivial rfl rfl ?_
    refine sc_2 cf59 hW100 (atEnd_any (f:=fi) (b:=bi) ⟨by omega,by omega⟩) trivial rfl rfl rfl ?_
    clear hW100;intro w106 hW106
    refine sc_2 cf28 hW106 (fF_any (xc:=y.fin.form x.blocks.length) (xp:=10000 * (fi:Int) + 100 * (bi:Int) + 91)) trivial rfl rfl rfl ?_
    clear hW106;intro w107 hW107
    refine sT 2 hW107 rfl rfl infFault rfl rfl rfl ?_
    clear hW107;intro w108 hW108
    refine St.nil fun a109 h109=>?_
    refine hK105 _ _ ?_
    refine wp_ret ?_;with_reducible repeat first | refine of_then_ret ?_ | refine of_block_ret ?_
    have:=hc44.out
    have:=hc48.out
    have:=hc57.out
    have RC:y.code' x bi=0:=(if_neg (by omega)).trans ((if_neg (by omega)).trans ((if_neg (fun h9=>takes_yes ⟨by omega,hc66⟩ h9.2)).trans ((if_neg (by omega)).trans (rfl))))
    have EF:=MBlock.fault_eq m.length fi x bi y
    rw [if_pos RC] at EF
    have RI:firstF (fun i z=>(MIns.form m.length z,(10000 * fi + 100 * bi + i:Int))) 0 y.code=(0,0):=firstF_zero (fun k z hz=>hall3 k z (by have:=(List.getElem?_eq_some_iff.1 hz).1;omega) hz)
    rw [RI,if_pos rfl] at EF
    exact ret_box 2 h109 hW108 rfl rfl rfl Tryz.underlying27 rfl infFault ⟨by show Ending.returned (.agg #[.int .i64 (y.fin.form x.blocks.length),.int .i64 (10000 * (fi:Int) + 100 * (bi:Int) + 91)])=_;rw [EF];simp [atF,hc104],hW108.bel⟩
   have h9:(y.fin.form x.blocks.length)=0:=bne_eq_false_iff_eq.1 hb
   have hc110:Hid ((y.fin.form x.blocks.length)=0):=h9
   clear h9
   clear hb
   refine wp_skip ?_
   refine hK98 _ _ ?_
   refine wp_seq_k fun K111 hK111=>?_
   refine rg h103 fun ops=>?_;clear h103 a103
   intro a112 h112
   refine fr_pure (t:=111) (v:=.agg #[.int .i64 0,.int .i64 0]) (w':=w100) h112 rfl rfl rfl (fun K hK=>?_) ?_
   ·go_simp
    exact hK
   clear h112;intro a113 hF113
   refine St.go hF113 ?_;clear hF113 a113
   refine sT 2 hW100 rfl rfl infFault rfl rfl rfl ?_
   clear hW100;intro w114 hW114
   refine St.nil fun a115 h115=>?_
   refine hK111 _ _ ?_
   refine wp_ret ?_;with_reducible repeat first | refine of_then_ret ?_ | refine of_block_ret ?_
   have:=hc44.out
   have:=hc48.out
   have:=hc57.out
   have:=hc110.out
   have RC:y.code' x bi=0:=(if_neg (by omega)).trans ((if_neg (by omega)).trans ((if_neg (fun h9=>takes_yes ⟨by omega,hc66⟩ h9.2)).trans ((if_neg (by omega)).trans (rfl))))
   have EF:=MBlock.fault_eq m.length fi x bi y
   rw [if_pos RC] at EF
   have RI:firstF (fun i z=>(MIns.form m.length z,(10000 * fi + 100 * bi + i:Int))) 0 y.code=(0,0):=firstF_zero (fun k z hz=>hall3 k z (by have:=(List.getElem?_eq_some_iff.1 hz).1;omega) hz)
   rw [RI,if_pos rfl] at EF
   exact ret_box 2 h115 hW114 rfl rfl rfl Tryz.underlying27 rfl infFault ⟨by show Ending.returned (.agg #[.int .i64 0,.int .i64 0])=_;rw [EF];simp [atF,hc110.out],hW114.bel⟩
  rw [hb] at h47
  have h9:¬ bi=0:=by have h8:=ne_of_beq_false hb;omega
  have hc116:¬ bi=0:=h9
  clear h9
  clear hb
  refine St.go h47 ?_;clear h47 a47
  refine so hg2 rfl rfl rfl rfl ?_
  refine so hg2 rfl rfl rfl rfl ?_
  refine so hg2 rfl rfl rfl rfl ?_
  refine so hg2 rfl rfl rfl rfl ?_
  refine so hg2 rfl rfl rfl rfl ?_
  refine so hg2 rfl rfl rfl rfl ?_
  refine so hg8 rfl rfl rfl rfl ?_
  refine so hg8 rfl rfl rfl rfl ?_
  refine so hg8 rfl rfl rfl rfl ?_
  refine so hg8 rfl rfl rfl rfl ?_
  refine so hg8 rfl rfl rfl rfl ?_
  refine so hg8 rfl rfl rfl rfl ?_
  refine so hg2 rfl rfl rfl rfl ?_
  refine spf trivial rfl rfl rfl ?_
  refine St.nil fun a117 h117=>?_
  refine hK46 _ _ ?_
  refine fr_false (t:=65) h117 rfl ?_
  refine wp_skip ?_
  refine hK45 _ _ ?_
  refine wp_seq_k fun K118 hK118=>?_
  refine wp_seq_k fun K119 hK119=>?_
  refine rg h117 fun ops=>?_;clear h117 a117
  refine sfBlock2 trivial rfl rfl ?_
  refine sbInss 0 hW34 trivial rfl rfl rfl rfl ?_
  refine slInss trivial rfl rfl ?_
  refine sgt trivial rfl rfl rfl ?_
  refine St.nil fun a120 h120=>?_
  refine hK119 _ _ ?_
  refine fr_cond (t:=73) h120 rfl (fun hb=>?_) (fun hb=>?_)
  ·have hc121:40 < y.code.length:=by have:=of_decide_eq_true hb;omega
   clear hb
   refine wp_seq_k fun K122 hK122=>?_
   refine rg h120 fun ops=>?_;clear h120 a120
   refine sm trivial rfl rfl ?_
   refine sm trivial rfl rfl ?_
   refine sc_2 cf55 hW34 (atBlock_any (f:=fi) (b:=bi) ⟨by omega,by omega⟩) trivial rfl rfl rfl ?_
   clear hW34;intro w123 hW123
   refine sc_2 cf28 hW123 (fF_any (xc:=2) (xp:=10000 * (fi:Int) + 100 * (bi:Int) + 90)) trivial rfl rfl rfl ?_
   clear hW123;intro w124 hW124
   refine sT 2 hW124 rfl rfl infFault rfl rfl rfl ?_
   clear hW124;intro w125 hW125
   refine St.nil fun a126 h126=>?_
   refine hK122 _ _ ?_
   refine wp_ret ?_;with_reducible repeat first | refine of_then_ret ?_ | refine of_block_ret ?_
   have:=hc44.out
   have RC:y.code' x bi=2:=(if_neg (by omega)).trans ((if_neg (by omega)).trans ((if_neg (by omega)).trans (if_pos (by omega))))
   have EF:=MBlock.fault_eq m.length fi x bi y
   rw [RC,if_neg (by omega)] at EF
   exact ret_box 2 h126 hW125 rfl rfl rfl Tryz.underlying27 rfl infFault ⟨by show Ending.returned (.agg #[.int .i64 2,.int .i64 (10000 * (fi:Int) + 100 * (bi:Int) + 90)])=_;rw [EF],hW125.bel⟩
  have hc127:¬ (40 < y.code.length):=by have:=of_decide_eq_false hb;omega
  clear hb
  refine wp_skip ?_
  refine hK118 _ _ ?_
  refine wp_seq_k fun K128 hK128=>?_
  refine wp_seq_k fun K129 hK129=>?_
  refine rg h120 fun ops=>?_;clear h120 a120
  refine sa trivial rfl rfl ?_
  refine St.nil fun a130 h130=>?_
  refine hK129 _ _ ?_
  refine wp_block ?_
  refine fr_loop (fun r a w'=>∃ q:Nat,q≤y.code.length∧r=y.code.length - q∧(∀ (j:Nat) z,j < q→y.code[j]?=some z→MIns.form m.length z=0)∧Fr 112 a [(2,.int .i64 (bi:Int)),(1,.int .i64 (fi:Int)),(0,.agg #[.slice p m.length c]),(3,.pointer (some ⟨B2,0,none⟩)),(6,.pointer (some ⟨B3,0,none⟩)),(7,.pointer (some ⟨B6,0,none⟩)),(8,.pointer (some ⟨B10,0,none⟩)),(9,.int .i64 (listC y.regs y.params)),(10,.int .i64 (q:Int))]∧Wd w w' [(B10,#[.int .i64 y.regs,.slice b2.pP y.params.length b2.cP,.slice b2.pC y.code.length b2.cC,.int .i64 y.fin.op,.int .i64 y.fin.a,.int .i64 y.fin.yes.block,.slice b2.e.pYR y.fin.yes.regs.length b2.e.cYR,.slice b2.e.pYA y.fin.yes.args.length b2.e.cYA,.int .i64 y.fin.no.block,.slice b2.e.pNR y.fin.no.regs.length b2.e.cNR,.slice b2.e.pNA y.fin.no.args.length b2.e.cNA,.slice b2.e.pA y.fin.args.length b2.e.cA],48),(B6,#[.int .i64 x.regs,.slice f1.pP x.params.length f1.cP,.slice f1.pR x.results.length f1.cR,.slice f1.pB x.blocks.length f1.cB],38),(B3,#[.int .i64 0,.int .i64 0],27),(B2,#[.slice p m.length c],25)]) (y.code.length) ⟨0,Nat.zero_le _,rfl,(fun j z hj=>by omega),(h130.keep (h130.keep (h130.keep (h130.keep (h130.keep (h130.keep (h130.keep (h130.keep (h130.keep h130.nil (t:=10) rfl) (t:=9) rfl) (t:=8) rfl) (t:=7) rfl) (t:=6) rfl) (t:=3) rfl) (t:=0) rfl) (t:=1) rfl) (t:=2) rfl),hW34⟩ ?_
  clear h130 hW34
  rintro r3 a131 w131 ⟨q,hq3,hr3,hall3,hF131,hW131⟩ KL3 hKL3
  refine wp_seq_k fun K132 hK132=>?_
  refine wp_seq_k fun K133 hK133=>?_
  refine rg hF131 fun ops=>?_;clear hF131 a131
  refine sm trivial rfl rfl ?_
  refine sfBlock2 trivial rfl rfl ?_
  refine sbInss 0 hW131 trivial rfl rfl rfl rfl ?_
  refine slInss trivial rfl rfl ?_
  refine slt trivial rfl rfl rfl ?_
  refine St.nil fun a134 h134=>?_
  refine hK133 _ _ ?_
  refine fr_cond (t:=82) h134 rfl (fun hb=>?_) (fun hb=>?_)
  ·have hlt3:q < y.code.length:=by have:=of_decide_eq_true hb;omega
   clear hb
   obtain ⟨z,hx3⟩:∃ v9,(y.code)[q]?=some v9:=⟨_,List.getElem?_eq_getElem hlt3⟩
   obtain ⟨g3,o3,i3,hp3,E3,In3⟩:=ins_at In2.out.code hx3
   replace In3:Hid _:=In3
   replace hp3:Hid _:=hp3
   replace hx3:Hid _:=hx3
   replace E3:Hid _:=E3
   refine wp_skip ?_
   refine hK132 _ _ ?_
   refine wp_seq_k fun K135 hK135=>?_
   refine wp_block ?_
   refine wp_seq_k fun K136 hK136=>?_
   have hF137:Fr 112 a134 [(2,.int .i64 (bi:Int)),(1,.int .i64 (fi:Int)),(0,.agg #[.slice p m.length c]),(3,.pointer (some ⟨B2,0,none⟩)),(6,.pointer (some ⟨B3,0,none⟩)),(7,.pointer (some ⟨B6,0,none⟩)),(8,.pointer (some ⟨B10,0,none⟩)),(9,.int .i64 (listC y.regs y.params)),(10,.int .i64 (q:Int))]:=(h134.keep (h134.keep (h134.keep (h134.keep (h134.keep (h134.keep (h134.keep (h134.keep (h134.keep h134.nil (t:=10) rfl) (t:=9) rfl) (t:=8) rfl) (t:=7) rfl) (t:=6) rfl) (t:=3) rfl) (t:=0) rfl) (t:=1) rfl) (t:=2) rfl)
   have ho3:a134.tmps.getD 3 undef=.pointer (some ⟨B2,0,none⟩):=h134.sl 3 _ rfl
   have ho8:a134.tmps.getD 8 undef=.pointer (some ⟨B10,0,none⟩):=h134.sl 8 _ rfl
   have ho10:a134.tmps.getD 10 undef=.int .i64 (q:Int):=h134.sl 10 _ rfl
   refine fr_draw_k 8 ([(3,fun v _=>v=.pointer (some ⟨B2,0,none⟩)),(8,fun v _=>v=.pointer (some ⟨B10,0,none⟩)),(10,fun v _=>v=.int .i64 (q:Int)),(85,fun v _=>v=.agg #[.slice p m.length c]),(86,fun v _=>v=.pointer (some ⟨B10,2,none⟩)),(87,fun v _=>v=.slice b2.pC y.code.length b2.cC),(88,fun v _=>v=.int .i64 (q:Int)),(89,fun v _=>v=.pointer (some ⟨g3,o3 + q * 8,none⟩)),(90,fun v _=>v=.agg #[.int .i64 z.op,.int .i64 z.a,.int .i64 z.b,.int .i64 z.c,.int .i64 z.k,.int .i64 z.n,.slice i3.pR z.regs.length i3.cR,.slice i3.pA z.args.length i3.cA]),(91,fun v _=>v=.int .i64 (MIns.form m.length z)),(11,fun v _=>v=.int .i64 (MIns.form m.length z))]:PTab) (fun w'=>Wd w w' [(B10,#[.int .i64 y.regs,.slice b2.pP y.params.length b2.cP,.slice b2.pC y.code.length b2.cC,.int .i64 y.fin.op,.int .i64 y.fin.a,.int .i64 y.fin.yes.block,.slice b2.e.pYR y.fin.yes.regs.length b2.e.cYR,.slice b2.e.pYA y.fin.yes.args.length b2.e.cYA,.int .i64 y.fin.no.block,.slice b2.e.pNR y.fin.no.regs.length b2.e.cNR,.slice b2.e.pNA y.fin.no.args.length b2.e.cNA,.slice b2.e.pA y.fin.args.length b2.e.cA],48),(B6,#[.int .i64 x.regs,.slice f1.pP x.params.length f1.cP,.slice f1.pR x.results.length f1.cR,.slice f1.pB x.blocks.length f1.cB],38),(B3,#[.int .i64 0,.int .i64 0],27),(B2,#[.slice p m.length c],25)]∧Below w131.heap.size w131 w') (fun w w'=>Below w.heap.size w w') (outs:=[3,8,10]) (gs:=[]) (bs:=[true,true,true,true,true,true,true,true]) (by kernel_rfl) hF137 rfl (by kernel_rfl) (by kernel_rfl) ?hR ?hG ⟨hW131.drewN 1,drewN_below (m:=1) (Below.refl _ _)⟩⟨ho3,ho8,ho10,trivial⟩ ?hA ?hend
   case hR=>exact ⟨fun _ _ _ _ h=>h,fun _ _ _ _ h=>h,fun _ _ _ _ h=>h,fun _ _ _ _ h=>h,fun _ _ _ _ h=>h,fun _ _ _ _ h=>h,fun _ _ _ _ h=>h,fun _ _ _ _ h=>h,fun _ _ _ _ h=>h,fun _ _ _ _ h=>h,fun _ _ _ _ h=>h,trivial⟩
   case hG=>exact trivial
   case hA =>
    refine ⟨fun a w hW hk K hK=>?_,?_⟩
    · obtain ⟨k0,-⟩:=hk
      have k0:a.tmps.getD 3 undef=.pointer (some ⟨B2,0,none⟩):=k0
      have c0:w.cell? ⟨B2,0,none⟩=some (.slice p m.length c):=cellOf (hW.1.get 3 rfl) 0 _ rfl
      go_simp
      exact hK _ _ (Below.refl _ _) hW rfl
    refine ⟨fun a w hW hk K hK=>?_,?_⟩
    · obtain ⟨k0,-⟩:=hk
      have k0:a.tmps.getD 8 undef=.pointer (some ⟨B10,0,none⟩):=k0
      go_simp
      exact hK _ _ (Below.refl _ _) hW rfl
    refine ⟨fun a w hW hk K hK=>?_,?_⟩
    · obtain ⟨k0,-⟩:=hk
      have k0:a.tmps.getD 86 undef=.pointer (some ⟨B10,2,none⟩):=k0
      have c2:w.cell? ⟨B10,2,none⟩=some (.slice b2.pC y.code.length b2.cC):=cellOf (hW.1.get 0 rfl) 2 _ rfl
      go_simp
      exact hK _ _ (Below.refl _ _) hW rfl
    refine ⟨fun a w hW hk K hK=>?_,?_⟩
    · obtain ⟨k0,-⟩:=hk
      have k0:a.tmps.getD 10 undef=.int .i64 (q:Int):=k0
      go_simp
      exact hK _ _ (Below.refl _ _) hW rfl
    refine ⟨fun a w hW hk K hK=>?_,?_⟩
    · obtain ⟨k0,k1,-⟩:=hk
      have k0:a.tmps.getD 87 undef=.slice b2.pC y.code.length b2.cC:=k0
      have k1:a.tmps.getD 88 undef=.int .i64 (q:Int):=k1
      have hpq:=hp3.out
      have hk0:(0:Int)≤q:=by omega
      have hk1:(q:Int) < (y.code.length:Int):=by omega
      go_simp
      exact hK _ _ (Below.refl _ _) hW rfl
    refine ⟨fun a w hW hk K hK=>?_,?_⟩
    · obtain ⟨k0,-⟩:=hk
      have k0:a.tmps.getD 89 undef=.pointer (some ⟨g3,o3 + q * 8,none⟩):=k0
      have d0:w.cell? ⟨g3,o3 + q * 8,none⟩=some (.int .i64 z.op):=bel_cell hW.1.bel (E3.out 0 _ rfl)
      have d1:w.cell? ⟨g3,o3 + q * 8 + 1,none⟩=some (.int .i64 z.a):=bel_cell hW.1.bel (E3.out 1 _ rfl)
      have d2:w.cell? ⟨g3,o3 + q * 8 + 2,none⟩=some (.int .i64 z.b):=bel_cell hW.1.bel (E3.out 2 _ rfl)
      have d3:w.cell? ⟨g3,o3 + q * 8 + 3,none⟩=some (.int .i64 z.c):=bel_cell hW.1.bel (E3.out 3 _ rfl)
      have d4:w.cell? ⟨g3,o3 + q * 8 + 4,none⟩=some (.int .i64 z.k):=bel_cell hW.1.bel (E3.out 4 _ rfl)
      have d5:w.cell? ⟨g3,o3 + q * 8 + 5,none⟩=some (.int .i64 z.n):=bel_cell hW.1.bel (E3.out 5 _ rfl)
      have d6:w.cell? ⟨g3,o3 + q * 8 + 6,none⟩=some (.slice i3.pR z.regs.length i3.cR):=bel_cell hW.1.bel (E3.out 6 _ rfl)
      have d7:w.cell? ⟨g3,o3 + q * 8 + 7,none⟩=some (.slice i3.pA z.args.length i3.cA):=bel_cell hW.1.bel (E3.out 7 _ rfl)
      go_simp
      exact hK _ _ (Below.refl _ _) hW rfl
    refine ⟨fun a w hW hk K hK=>?_,?_⟩
    · obtain ⟨k0,k1,-⟩:=hk
      have k0:a.tmps.getD 85 undef=.agg #[.slice p m.length c]:=k0
      have k1:a.tmps.getD 90 undef=.agg #[.int .i64 z.op,.int .i64 z.a,.int .i64 z.b,.int .i64 z.c,.int .i64 z.k,.int .i64 z.n,.slice i3.pR z.regs.length i3.cR,.slice i3.pA z.args.length i3.cA]:=k1
      have hC:Rd Tryz.prog 56 #[.agg #[.slice p m.length c],.agg #[.int .i64 z.op,.int .i64 z.a,.int .i64 z.b,.int .i64 z.c,.int .i64 z.k,.int .i64 z.n,.slice i3.pR z.regs.length i3.cR,.slice i3.pA z.args.length i3.cA]] w (.int .i64 (MIns.form m.length z)):=insForm_any m.length z i3 p c w
      go_simp
      refine hC.mono ?_
      rintro e w9 ⟨rfl,hb⟩
      exact hK _ _ hb ⟨hW.1.below hb,Below.andThen hW.2 hb⟩ rfl
    refine ⟨fun a w hW hk K hK=>?_,?_⟩
    · obtain ⟨k0,-⟩:=hk
      have k0:a.tmps.getD 91 undef=.int .i64 (MIns.form m.length z):=k0
      go_simp
      exact hK _ _ (Below.refl _ _) hW rfl
    trivial
   case hend =>
    intro ops a138 w138 hWD hE hFD
    have hd11:a138.tmps.getD 11 undef=.int .i64 (MIns.form m.length z):=hE 11 rfl
    have hF138:Fr 112 a138 [(11,.int .i64 (MIns.form m.length z)),(2,.int .i64 (bi:Int)),(1,.int .i64 (fi:Int)),(0,.agg #[.slice p m.length c]),(3,.pointer (some ⟨B2,0,none⟩)),(6,.pointer (some ⟨B3,0,none⟩)),(7,.pointer (some ⟨B6,0,none⟩)),(8,.pointer (some ⟨B10,0,none⟩)),(9,.int .i64 (listC y.regs y.params)),(10,.int .i64 (q:Int))]:=(hFD.cons hd11)
    clear hd11
    have hW138:Wd w w138 [(B10,#[.int .i64 y.regs,.slice b2.pP y.params.length b2.cP,.slice b2.pC y.code.length b2.cC,.int .i64 y.fin.op,.int .i64 y.fin.a,.int .i64 y.fin.yes.block,.slice b2.e.pYR y.fin.yes.regs.length b2.e.cYR,.slice b2.e.pYA y.fin.yes.args.length b2.e.cYA,.int .i64 y.fin.no.block,.slice b2.e.pNR y.fin.no.regs.length b2.e.cNR,.slice b2.e.pNA y.fin.no.args.length b2.e.cNA,.slice b2.e.pA y.fin.args.length b2.e.cA],48),(B6,#[.int .i64 x.regs,.slice f1.pP x.params.length f1.cP,.slice f1.pR x.results.length f1.cR,.slice f1.pB x.blocks.length f1.cB],38),(B3,#[.int .i64 0,.int .i64 0],27),(B2,#[.slice p m.length c],25)]:=hWD.1
    clear hFD hWD hE hF137 h134
    clear hW131
    refine wpList_nil ?_
    refine hK136 _ _ ?_
    refine wp_seq_k fun K139 hK139=>?_
    refine rg hF138 fun ops=>?_;clear hF138 a138
    refine sm trivial rfl rfl ?_
    refine sne trivial rfl rfl rfl ?_
    refine St.nil fun a140 h140=>?_
    refine hK139 _ _ ?_
    refine fr_cond (t:=93) h140 rfl (fun hb=>?_) (fun hb=>?_)
    ·have h9:¬ (MIns.form m.length z)=0:=bne_iff_ne.1 hb
     have hc141:¬ (MIns.form m.length z)=0:=h9
     clear h9
     clear hb
     refine wp_seq_k fun K142 hK142=>?_
     refine rg h140 fun ops=>?_;clear h140 a140
     refine sm trivial rfl rfl ?_
     refine sm trivial rfl rfl ?_
     refine sm trivial rfl rfl ?_
     refine sm trivial rfl rfl ?_
     refine sc_3 cf57 hW138 (atIns_any (f:=fi) (b:=bi) (i:=q) ⟨by omega,by omega,by omega⟩) trivial rfl rfl rfl rfl ?_
     clear hW138;intro w143 hW143
     refine sc_2 cf28 hW143 (fF_any (xc:=MIns.form m.length z) (xp:=10000 * (fi:Int) + 100 * (bi:Int) + (q:Int))) trivial rfl rfl rfl ?_
     clear hW143;intro w144 hW144
     refine sT 2 hW144 rfl rfl infFault rfl rfl rfl ?_
     clear hW144;intro w145 hW145
     refine St.nil fun a146 h146=>?_
     refine hK142 _ _ ?_
     refine wp_ret ?_;with_reducible repeat first | refine of_then_ret ?_ | refine of_block_ret ?_
     have:=hc44.out
     have RC:y.code' x bi=0:=(if_neg (by omega)).trans ((if_neg (by omega)).trans ((if_neg (by omega)).trans ((if_neg (by omega)).trans (rfl))))
     have EF:=MBlock.fault_eq m.length fi x bi y
     rw [if_pos RC] at EF
     have RI:firstF (fun i z=>(MIns.form m.length z,(10000 * fi + 100 * bi + i:Int))) 0 y.code=(MIns.form m.length z,(10000 * fi + 100 * bi + q:Int)):=by
       have h9:=firstF_eq (f:=fun i z=>(MIns.form m.length z,(10000 * fi + 100 * bi + i:Int))) (j:=0) hx3.out (fun k z hk hz=>hall3 k z hk hz) hc141
       rwa [Nat.zero_add] at h9
     rw [RI,if_neg hc141] at EF
     exact ret_box 2 h146 hW145 rfl rfl rfl Tryz.underlying27 rfl infFault ⟨by show Ending.returned (.agg #[.int .i64 (MIns.form m.length z),.int .i64 (10000 * (fi:Int) + 100 * (bi:Int) + (q:Int))])=_;rw [EF],hW145.bel⟩
    have h9:(MIns.form m.length z)=0:=bne_eq_false_iff_eq.1 hb
    have hc147:Hid ((MIns.form m.length z)=0):=h9
    clear h9
    clear hb
    refine wp_skip ?_
    refine hK135 _ _ ?_
    refine rg h140 fun ops=>?_;clear h140 a140
    refine sm trivial rfl rfl ?_
    refine sad (by omega) trivial rfl rfl rfl ?_
    refine sa trivial rfl rfl ?_
    refine St.nil fun a148 h148=>?_
    refine hKL3 _ _ (y.code.length - (q + 1)) (by omega) ⟨q + 1,by omega,rfl,?_,(h148.keep (h148.keep (h148.keep (h148.keep (h148.keep (h148.keep (h148.keep (h148.keep (h148.keep h148.nil (t:=10) rfl) (t:=9) rfl) (t:=8) rfl) (t:=7) rfl) (t:=6) rfl) (t:=3) rfl) (t:=0) rfl) (t:=1) rfl) (t:=2) rfl),hW138⟩
    ·intro j z hj hz
     by_cases e:j=q
     · subst e;rw [hx3.out] at hz;cases hz;exact hc147.out
     · exact hall3 j z (by omega) hz
  have hge3:q=y.code.length:=by have:=of_decide_eq_false hb;omega
  clear hb
  refine wp_exit ?_
  refine hK128 _ _ ?_
  refine wp_seq_k fun K149 hK149=>?_
  refine wp_seq_k fun K150 hK150=>?_
  refine rg h134 fun ops=>?_;clear h134 a134
  refine sS 1 4 Tryz.underlying38 rfl infFunc hW131 trivial rfl rfl rfl rfl ?_
  refine sfBlock3 trivial rfl rfl ?_
  refine sS 0 9 Tryz.underlying46 rfl infEnd hW131 trivial rfl rfl rfl rfl ?_
  refine sc_2 cf58 hW131 (endForm_any (x:=y.fin) (e:=b2.e) (fr:=x.regs) (fp:=f1.pP) (fl:=x.params.length) (fc:=f1.cP) (fq:=f1.pR) (fm:=x.results.length) (fd:=f1.cR) (fb:=f1.pB) (bl:=x.blocks.length) (fe:=f1.cB) (by have:=hs2.out.2.2.1;exact ⟨by have:=this.1.1;omega,by have:=this.1.2;omega,by have:=this.2.1.1;omega,by have:=this.2.1.2;omega⟩) (by have:=hs1.out.1;omega)) trivial rfl rfl rfl ?_
  clear hW131;intro w151 hW151
  refine sa trivial rfl rfl ?_
  refine St.nil fun a152 h152=>?_
  refine hK150 _ _ ?_
  refine wp_seq_k fun K153 hK153=>?_
  refine rg h152 fun ops=>?_;clear h152 a152
  refine sm trivial rfl rfl ?_
  refine sne trivial rfl rfl rfl ?_
  refine St.nil fun a154 h154=>?_
  refine hK153 _ _ ?_
  refine fr_cond (t:=105) h154 rfl (fun hb=>?_) (fun hb=>?_)
  ·have h9:¬ (y.fin.form x.blocks.length)=0:=bne_iff_ne.1 hb
   have hc155:¬ (y.fin.form x.blocks.length)=0:=h9
   clear h9
   clear hb
   refine wp_seq_k fun K156 hK156=>?_
   refine rg h154 fun ops=>?_;clear h154 a154
   refine sm trivial rfl rfl ?_
   refine sm trivial rfl rfl ?_
   refine sm trivial rfl rfl ?_
   refine sc_2 cf59 hW151 (atEnd_any (f:=fi) (b:=bi) ⟨by omega,by omega⟩) trivial rfl rfl rfl ?_
   clear hW151;intro w157 hW157
   refine sc_2 cf28 hW157 (fF_any (xc:=y.fin.form x.blocks.length) (xp:=10000 * (fi:Int) + 100 * (bi:Int) + 91)) trivial rfl rfl rfl ?_
   clear hW157;intro w158 hW158
   refine sT 2 hW158 rfl rfl infFault rfl rfl rfl ?_
   clear hW158;intro w159 hW159
   refine St.nil fun a160 h160=>?_
   refine hK156 _ _ ?_
   refine wp_ret ?_;with_reducible repeat first | refine of_then_ret ?_ | refine of_block_ret ?_
   have:=hc44.out
   have RC:y.code' x bi=0:=(if_neg (by omega)).trans ((if_neg (by omega)).trans ((if_neg (by omega)).trans ((if_neg (by omega)).trans (rfl))))
   have EF:=MBlock.fault_eq m.length fi x bi y
   rw [if_pos RC] at EF
   have RI:firstF (fun i z=>(MIns.form m.length z,(10000 * fi + 100 * bi + i:Int))) 0 y.code=(0,0):=firstF_zero (fun k z hz=>hall3 k z (by have:=(List.getElem?_eq_some_iff.1 hz).1;omega) hz)
   rw [RI,if_pos rfl] at EF
   exact ret_box 2 h160 hW159 rfl rfl rfl Tryz.underlying27 rfl infFault ⟨by show Ending.returned (.agg #[.int .i64 (y.fin.form x.blocks.length),.int .i64 (10000 * (fi:Int) + 100 * (bi:Int) + 91)])=_;rw [EF];simp [atF,hc155],hW159.bel⟩
  have h9:(y.fin.form x.blocks.length)=0:=bne_eq_false_iff_eq.1 hb
  have hc161:Hid ((y.fin.form x.blocks.length)=0):=h9
  clear h9
  clear hb
  refine wp_skip ?_
  refine hK149 _ _ ?_
  refine wp_seq_k fun K162 hK162=>?_
  refine rg h154 fun ops=>?_;clear h154 a154
  intro a163 h163
  refine fr_pure (t:=111) (v:=.agg #[.int .i64 0,.int .i64 0]) (w':=w151) h163 rfl rfl rfl (fun K hK=>?_) ?_
  ·go_simp
   exact hK
  clear h163;intro a164 hF164
  refine St.go hF164 ?_;clear hF164 a164
  refine sT 2 hW151 rfl rfl infFault rfl rfl rfl ?_
  clear hW151;intro w165 hW165
  refine St.nil fun a166 h166=>?_
  refine hK162 _ _ ?_
  refine wp_ret ?_;with_reducible repeat first | refine of_then_ret ?_ | refine of_block_ret ?_
  have:=hc44.out
  have:=hc161.out
  have RC:y.code' x bi=0:=(if_neg (by omega)).trans ((if_neg (by omega)).trans ((if_neg (by omega)).trans ((if_neg (by omega)).trans (rfl))))
  have EF:=MBlock.fault_eq m.length fi x bi y
  rw [if_pos RC] at EF
  have RI:firstF (fun i z=>(MIns.form m.length z,(10000 * fi + 100 * bi + i:Int))) 0 y.code=(0,0):=firstF_zero (fun k z hz=>hall3 k z (by have:=(List.getElem?_eq_some_iff.1 hz).1;omega) hz)
  rw [RI,if_pos rfl] at EF
  exact ret_box 2 h166 hW165 rfl rfl rfl Tryz.underlying27 rfl infFault ⟨by show Ending.returned (.agg #[.int .i64 0,.int .i64 0])=_;rw [EF];simp [atF,hc161.out],hW165.bel⟩
def plB {n : Nat} (x : MFunc n) (q : Nat) : Bool := (x.regs == 0 && ((x.params.length : Int) == 0)) && (x.results.take q).all (fun t => t.kind == 1)
theorem plB_zero {n : Nat} (x : MFunc n) : plB x 0 = (x.regs == 0 && ((x.params.length : Int) == 0)) := by simp [plB]
theorem plB_succ {n : Nat} {x : MFunc n} {q : Nat} {t : TT n} (h : x.results[q]? = some t) : plB x (q + 1) = (plB x q && t.kind == 1) := by
  unfold plB
  rw [List.take_add_one,h,List.all_append]
  simp [Bool.and_assoc]
theorem plB_iff {n : Nat} (x : MFunc n) : plB x x.results.length = true ↔ x.begins := by
  unfold plB MFunc.begins
  rw [List.take_length]
  simp only [Bool.and_eq_true,beq_iff_eq]
  constructor
  · rintro ⟨⟨h1,h2⟩,h3⟩;exact ⟨h1,by omega,h3⟩
  · rintro ⟨h1,h2,h3⟩;exact ⟨⟨h1,by omega⟩,h3⟩
theorem codeFault_any {n : Nat} {m : List (MFunc n)} {p : Option Addr} {c : Nat} {w : World} (hm0 : (modL n).In w All m [.slice p m.length c]) (hs0 : msmall m) :
    Rd Tryz.prog 13 #[.agg #[.slice p m.length c]] w (faultV (modFault m)):=by
  have hm:Hid _:=hm0
  have hms:Hid _:=hs0
  have hmb:=hs0.1
  clear hm0 hs0
  refine fr_enter (n:=129) Tryz.func13 rfl rfl rfl ?_
  intro a hF
  have hW:=Wd.start w
  replace hF:Fr 129 a [(0,.agg #[.slice p m.length c])]:=hF
  refine wp_seq_k fun K1 hK1=>?_
  refine rg hF fun ops=>?_;clear hF a
  refine sB hW trivial rfl rfl ?_
  clear hW;intro w2 B2 hW2 hN;clear hN
  refine sAFault hW2 trivial rfl ?_
  clear hW2;intro w3 B3 hW3 hN;clear hN
  refine St.nil fun a4 h4=>?_
  refine hK1 _ _ ?_
  refine wp_seq_k fun K5 hK5=>?_
  refine wp_seq_k fun K6 hK6=>?_
  refine fr_region ?_
  intro ops hops
  have hg4:(ops[4]?).bind (fun o:Oper=>o.dst)=some 15:=hops 4
  clear hops
  refine St.go h4 ?_;clear h4 a4
  refine sfModule0 trivial rfl rfl ?_
  refine sbFuncs 1 hW3 trivial rfl rfl rfl rfl ?_
  refine slFuncs trivial rfl rfl ?_
  refine slt trivial rfl rfl rfl ?_
  refine sm trivial rfl rfl ?_
  intro a7 h7
  rcases Bool.eq_false_or_eq_true (decide ((m.length:Int) < 1)) with hb | hb
  ·rw [hb] at h7
   have hc8:m.length < 1:=by have:=of_decide_eq_true hb;omega
   clear hb
   refine St.go h7 ?_;clear h7 a7
   refine so hg4 rfl rfl rfl rfl ?_
   refine so hg4 rfl rfl rfl rfl ?_
   refine so hg4 rfl rfl rfl rfl ?_
   refine so hg4 rfl rfl rfl rfl ?_
   refine sp trivial rfl rfl rfl ?_
   refine St.nil fun a9 h9=>?_
   refine hK6 _ _ ?_
   refine fr_true (t:=20) h9 rfl ?_
   refine wp_seq_k fun K10 hK10=>?_
   refine rg h9 fun ops=>?_;clear h9 a9
   refine sc_2 cf28 hW3 (fF_any (xc:=2) (xp:=-1)) trivial rfl rfl rfl ?_
   clear hW3;intro w11 hW11
   refine sT 0 hW11 rfl rfl infFault rfl rfl rfl ?_
   clear hW11;intro w12 hW12
   refine St.nil fun a13 h13=>?_
   refine hK10 _ _ ?_
   refine wp_ret ?_;with_reducible repeat first | refine of_then_ret ?_ | refine of_block_ret ?_
   have R:modFault m=(2,-1):=if_pos (by omega)
   exact ret_box 0 h13 hW12 rfl rfl rfl Tryz.underlying27 rfl infFault ⟨by show Ending.returned (.agg #[.int .i64 2,.int .i64 (-1)])=_;rw [R],hW12.bel⟩
  rw [hb] at h7
  have hc14:¬ (m.length < 1):=by have:=of_decide_eq_false hb;omega
  clear hb
  refine St.go h7 ?_;clear h7 a7
  refine sfModule0 ⟨_,hg4,rfl,rfl⟩ rfl rfl ?_
  refine sbFuncs 1 hW3 ⟨_,hg4,rfl,rfl⟩ rfl rfl rfl rfl ?_
  refine slFuncs ⟨_,hg4,rfl,rfl⟩ rfl rfl ?_
  refine sgt ⟨_,hg4,rfl,rfl⟩ rfl rfl rfl ?_
  refine spf trivial rfl rfl rfl ?_
  refine St.nil fun a15 h15=>?_
  refine hK6 _ _ ?_
  refine fr_cond (t:=20) h15 rfl (fun hb=>?_) (fun hb=>?_)
  ·have hc16:8 < m.length:=by have:=of_decide_eq_true hb;omega
   clear hb
   refine wp_seq_k fun K17 hK17=>?_
   refine rg h15 fun ops=>?_;clear h15 a15
   refine sc_2 cf28 hW3 (fF_any (xc:=2) (xp:=-1)) trivial rfl rfl rfl ?_
   clear hW3;intro w18 hW18
   refine sT 0 hW18 rfl rfl infFault rfl rfl rfl ?_
   clear hW18;intro w19 hW19
   refine St.nil fun a20 h20=>?_
   refine hK17 _ _ ?_
   refine wp_ret ?_;with_reducible repeat first | refine of_then_ret ?_ | refine of_block_ret ?_
   have R:modFault m=(2,-1):=if_pos (by omega)
   exact ret_box 0 h20 hW19 rfl rfl rfl Tryz.underlying27 rfl infFault ⟨by show Ending.returned (.agg #[.int .i64 2,.int .i64 (-1)])=_;rw [R],hW19.bel⟩
  have hc21:¬ (8 < m.length):=by have:=of_decide_eq_false hb;omega
  clear hb
  refine wp_skip ?_
  refine hK5 _ _ ?_
  refine wp_seq_k fun K22 hK22=>?_
  refine wp_seq_k fun K23 hK23=>?_
  refine rg h15 fun ops=>?_;clear h15 a15
  refine sa trivial rfl rfl ?_
  refine St.nil fun a24 h24=>?_
  refine hK23 _ _ ?_
  refine wp_block ?_
  refine fr_loop (fun r a w'=>∃ q1:Nat,q1≤m.length∧r=m.length - q1∧(∀ (j:Nat) z,j < q1→m[j]?=some z→(MFunc.fault m.length j z).1=0)∧Fr 129 a [(0,.agg #[.slice p m.length c]),(1,.pointer (some ⟨B2,0,none⟩)),(2,.pointer (some ⟨B3,0,none⟩)),(3,.int .i64 (q1:Int))]∧Wd w w' [(B3,#[.int .i64 0,.int .i64 0],27),(B2,#[.slice p m.length c],25)]) (m.length) ⟨0,Nat.zero_le _,rfl,(fun j z hj=>by omega),(h24.keep (h24.keep (h24.keep (h24.keep h24.nil (t:=3) rfl) (t:=2) rfl) (t:=1) rfl) (t:=0) rfl),hW3⟩ ?_
  clear h24 hW3
  rintro r1 a25 w25 ⟨q1,hq1,hr1,hall1,hF25,hW25⟩ KL1 hKL1
  refine wp_seq_k fun K26 hK26=>?_
  refine wp_seq_k fun K27 hK27=>?_
  refine rg hF25 fun ops=>?_;clear hF25 a25
  refine sm trivial rfl rfl ?_
  refine sfModule0 trivial rfl rfl ?_
  refine sbFuncs 1 hW25 trivial rfl rfl rfl rfl ?_
  refine slFuncs trivial rfl rfl ?_
  refine slt trivial rfl rfl rfl ?_
  refine St.nil fun a28 h28=>?_
  refine hK27 _ _ ?_
  refine fr_cond (t:=26) h28 rfl (fun hb=>?_) (fun hb=>?_)
  ·have hlt1:q1 < m.length:=by have:=of_decide_eq_true hb;omega
   clear hb
   obtain ⟨x,hx1⟩:∃ v9,(m)[q1]?=some v9:=⟨_,List.getElem?_eq_getElem hlt1⟩
   obtain ⟨g1,o1,f1,hp1,E1,In1⟩:=func_at hm.out hx1
   replace In1:Hid _:=In1
   replace hp1:Hid _:=hp1
   replace hx1:Hid _:=hx1
   replace E1:Hid _:=E1
   have hs1:Hid x.small:=hms.out.2 _ (List.mem_of_getElem? hx1.out)
   have hxb:=hs1.out.1
   have hrb:=hs1.out.2.2.1.1
   refine wp_skip ?_
   refine hK26 _ _ ?_
   refine wp_seq_k fun K29 hK29=>?_
   refine wp_block ?_
   refine wp_seq_k fun K30 hK30=>?_
   refine rg h28 fun ops=>?_;clear h28 a28
   refine sfModule0 trivial rfl rfl ?_
   refine sbFuncs 1 hW25 trivial rfl rfl rfl rfl ?_
   refine sm trivial rfl rfl ?_
   refine siFuncs hp1.out hlt1 trivial rfl rfl rfl ?_
   refine sSE Tryz.underlying38 rfl (rangeAt_bel E1.out hW25.bel) infFunc trivial rfl rfl ?_
   refine sAFunc hW25 trivial rfl ?_
   clear hW25;intro w31 B31 hW31 hN;clear hN
   refine sT 0 hW31 rfl rfl infFunc rfl rfl rfl ?_
   clear hW31;intro w32 hW32
   refine St.nil fun a33 h33=>?_
   refine hK30 _ _ ?_
   refine wp_seq_k fun K34 hK34=>?_
   refine wp_seq_k fun K35 hK35=>?_
   refine fr_region ?_
   intro ops hops
   have hg3:(ops[3]?).bind (fun o:Oper=>o.dst)=some 37:=hops 3
   clear hops
   refine St.go h33 ?_;clear h33 a33
   refine sfFunc0 trivial rfl rfl ?_
   refine sbInt 0 hW32 trivial rfl rfl rfl rfl ?_
   refine slt trivial rfl rfl rfl ?_
   refine sm trivial rfl rfl ?_
   intro a36 h36
   rcases Bool.eq_false_or_eq_true (decide (x.regs < 0)) with hb | hb
   ·rw [hb] at h36
    have hc37:x.regs < 0:=of_decide_eq_true hb
    clear hb
    refine St.go h36 ?_;clear h36 a36
    refine so hg3 rfl rfl rfl rfl ?_
    refine so hg3 rfl rfl rfl rfl ?_
    refine so hg3 rfl rfl rfl rfl ?_
    refine sp trivial rfl rfl rfl ?_
    refine St.nil fun a38 h38=>?_
    refine hK35 _ _ ?_
    refine fr_true (t:=41) h38 rfl ?_
    refine wp_seq_k fun K39 hK39=>?_
    refine rg h38 fun ops=>?_;clear h38 a38
    refine sm trivial rfl rfl ?_
    refine sc_1 cf29 hW32 (atFunc_any (f:=q1) (by omega)) trivial rfl rfl ?_
    clear hW32;intro w40 hW40
    refine sc_2 cf28 hW40 (fF_any (xc:=1) (xp:=10000 * (q1:Int) + 9999)) trivial rfl rfl rfl ?_
    clear hW40;intro w41 hW41
    refine sT 1 hW41 rfl rfl infFault rfl rfl rfl ?_
    clear hW41;intro w42 hW42
    refine St.nil fun a43 h43=>?_
    refine hK39 _ _ ?_
    refine wp_ret ?_;with_reducible repeat first | refine of_then_ret ?_ | refine of_block_ret ?_
    have RM:(MFunc.fault m.length q1 x).1≠0→modFault m=MFunc.fault m.length q1 x:=fun hz=>(if_neg (by omega)).trans (by have h9:=firstF_eq (f:=fun f x=>MFunc.fault m.length f x) (j:=0) hx1.out (fun k y hk hy=>by rw [Nat.zero_add];exact hall1 k y hk hy) (by rw [Nat.zero_add];exact hz);rwa [Nat.zero_add] at h9)
    have RC:x.code q1=1:=by exact if_pos (by omega)
    have EF:MFunc.fault m.length q1 x=(1,10000 * (q1:Int) + 9999):=by rw [MFunc.fault_eq,RC,if_neg (by omega)]
    exact ret_box 1 h43 hW42 rfl rfl rfl Tryz.underlying27 rfl infFault ⟨by show Ending.returned (.agg #[.int .i64 1,.int .i64 (10000 * (q1:Int) + 9999)])=_;rw [RM (by rw [EF];show _≠_;omega),EF],hW42.bel⟩
   rw [hb] at h36
   have hc44:¬ (x.regs < 0):=of_decide_eq_false hb
   clear hb
   refine St.go h36 ?_;clear h36 a36
   refine sfFunc0 ⟨_,hg3,rfl,rfl⟩ rfl rfl ?_
   refine sbInt 0 hW32 ⟨_,hg3,rfl,rfl⟩ rfl rfl rfl rfl ?_
   refine sgt ⟨_,hg3,rfl,rfl⟩ rfl rfl rfl ?_
   refine spf trivial rfl rfl rfl ?_
   refine St.nil fun a45 h45=>?_
   refine hK35 _ _ ?_
   refine fr_cond (t:=41) h45 rfl (fun hb=>?_) (fun hb=>?_)
   ·have hc46:6 < x.regs:=of_decide_eq_true hb
    clear hb
    refine wp_seq_k fun K47 hK47=>?_
    refine rg h45 fun ops=>?_;clear h45 a45
    refine sm trivial rfl rfl ?_
    refine sc_1 cf29 hW32 (atFunc_any (f:=q1) (by omega)) trivial rfl rfl ?_
    clear hW32;intro w48 hW48
    refine sc_2 cf28 hW48 (fF_any (xc:=1) (xp:=10000 * (q1:Int) + 9999)) trivial rfl rfl rfl ?_
    clear hW48;intro w49 hW49
    refine sT 1 hW49 rfl rfl infFault rfl rfl rfl ?_
    clear hW49;intro w50 hW50
    refine St.nil fun a51 h51=>?_
    refine hK47 _ _ ?_
    refine wp_ret ?_;with_reducible repeat first | refine of_then_ret ?_ | refine of_block_ret ?_
    have RM:(MFunc.fault m.length q1 x).1≠0→modFault m=MFunc.fault m.length q1 x:=fun hz=>(if_neg (by omega)).trans (by have h9:=firstF_eq (f:=fun f x=>MFunc.fault m.length f x) (j:=0) hx1.out (fun k y hk hy=>by rw [Nat.zero_add];exact hall1 k y hk hy) (by rw [Nat.zero_add];exact hz);rwa [Nat.zero_add] at h9)
    have RC:x.code q1=1:=by exact if_pos (by omega)
    have EF:MFunc.fault m.length q1 x=(1,10000 * (q1:Int) + 9999):=by rw [MFunc.fault_eq,RC,if_neg (by omega)]
    exact ret_box 1 h51 hW50 rfl rfl rfl Tryz.underlying27 rfl infFault ⟨by show Ending.returned (.agg #[.int .i64 1,.int .i64 (10000 * (q1:Int) + 9999)])=_;rw [RM (by rw [EF];show _≠_;omega),EF],hW50.bel⟩
   have hc52:¬ (6 < x.regs):=of_decide_eq_false hb
   clear hb
   refine wp_skip ?_
   refine hK34 _ _ ?_
   refine wp_seq_k fun K53 hK53=>?_
   refine wp_seq_k fun K54 hK54=>?_
   refine rg h45 fun ops=>?_;clear h45 a45
   refine sfFunc1 trivial rfl rfl ?_
   refine sbTypes 0 hW32 trivial rfl rfl rfl rfl ?_
   refine sfFunc0 trivial rfl rfl ?_
   refine sbInt 0 hW32 trivial rfl rfl rfl rfl ?_
   refine sc_2 cf30 hW32 (listForm_any (regs:=x.regs) (Lay.below In1.out.params hW32.bel) hs1.out.2.1) trivial rfl rfl rfl ?_
   clear hW32;intro w55 hW55
   refine sa trivial rfl rfl ?_
   refine St.nil fun a56 h56=>?_
   refine hK54 _ _ ?_
   refine wp_seq_k fun K57 hK57=>?_
   refine rg h56 fun ops=>?_;clear h56 a56
   refine sm trivial rfl rfl ?_
   refine sne trivial rfl rfl rfl ?_
   refine St.nil fun a58 h58=>?_
   refine hK57 _ _ ?_
   refine fr_cond (t:=51) h58 rfl (fun hb=>?_) (fun hb=>?_)
   ·have h9:¬ (listC x.regs x.params)=0:=bne_iff_ne.1 hb
    have hc59:¬ (listC x.regs x.params)=0:=h9
    clear h9
    clear hb
    refine wp_seq_k fun K60 hK60=>?_
    refine rg h58 fun ops=>?_;clear h58 a58
    refine sm trivial rfl rfl ?_
    refine sm trivial rfl rfl ?_
    refine sc_1 cf29 hW55 (atFunc_any (f:=q1) (by omega)) trivial rfl rfl ?_
    clear hW55;intro w61 hW61
    refine sc_2 cf28 hW61 (fF_any (xc:=listC x.regs x.params) (xp:=10000 * (q1:Int) + 9999)) trivial rfl rfl rfl ?_
    clear hW61;intro w62 hW62
    refine sT 1 hW62 rfl rfl infFault rfl rfl rfl ?_
    clear hW62;intro w63 hW63
    refine St.nil fun a64 h64=>?_
    refine hK60 _ _ ?_
    refine wp_ret ?_;with_reducible repeat first | refine of_then_ret ?_ | refine of_block_ret ?_
    have RM:(MFunc.fault m.length q1 x).1≠0→modFault m=MFunc.fault m.length q1 x:=fun hz=>(if_neg (by omega)).trans (by have h9:=firstF_eq (f:=fun f x=>MFunc.fault m.length f x) (j:=0) hx1.out (fun k y hk hy=>by rw [Nat.zero_add];exact hall1 k y hk hy) (by rw [Nat.zero_add];exact hz);rwa [Nat.zero_add] at h9)
    have RC:x.code q1=listC x.regs x.params:=by exact (if_neg (by omega)).trans (if_pos (by omega))
    have EF:MFunc.fault m.length q1 x=(listC x.regs x.params,10000 * (q1:Int) + 9999):=by rw [MFunc.fault_eq,RC,if_neg (by omega)]
    exact ret_box 1 h64 hW63 rfl rfl rfl Tryz.underlying27 rfl infFault ⟨by show Ending.returned (.agg #[.int .i64 (listC x.regs x.params),.int .i64 (10000 * (q1:Int) + 9999)])=_;rw [RM (by rw [EF];show _≠_;omega),EF],hW63.bel⟩
   have h9:(listC x.regs x.params)=0:=bne_eq_false_iff_eq.1 hb
   have hc65:Hid ((listC x.regs x.params)=0):=h9
   clear h9
   clear hb
   refine wp_skip ?_
   refine hK53 _ _ ?_
   refine wp_seq_k fun K66 hK66=>?_
   refine wp_seq_k fun K67 hK67=>?_
   refine rg h58 fun ops=>?_;clear h58 a58
   refine sfFunc2 trivial rfl rfl ?_
   refine sbTypes 0 hW55 trivial rfl rfl rfl rfl ?_
   refine sfFunc0 trivial rfl rfl ?_
   refine sbInt 0 hW55 trivial rfl rfl rfl rfl ?_
   refine sc_2 cf30 hW55 (listForm_any (regs:=x.regs) (Lay.below In1.out.results hW55.bel) hs1.out.2.2.1) trivial rfl rfl rfl ?_
   clear hW55;intro w68 hW68
   refine sa trivial rfl rfl ?_
   refine St.nil fun a69 h69=>?_
   refine hK67 _ _ ?_
   refine wp_seq_k fun K70 hK70=>?_
   refine rg h69 fun ops=>?_;clear h69 a69
   refine sm trivial rfl rfl ?_
   refine sne trivial rfl rfl rfl ?_
   refine St.nil fun a71 h71=>?_
   refine hK70 _ _ ?_
   refine fr_cond (t:=62) h71 rfl (fun hb=>?_) (fun hb=>?_)
   ·have h9:¬ (listC x.regs x.results)=0:=bne_iff_ne.1 hb
    have hc72:¬ (listC x.regs x.results)=0:=h9
    clear h9
    clear hb
    refine wp_seq_k fun K73 hK73=>?_
    refine rg h71 fun ops=>?_;clear h71 a71
    refine sm trivial rfl rfl ?_
    refine sm trivial rfl rfl ?_
    refine sc_1 cf29 hW68 (atFunc_any (f:=q1) (by omega)) trivial rfl rfl ?_
    clear hW68;intro w74 hW74
    refine sc_2 cf28 hW74 (fF_any (xc:=listC x.regs x.results) (xp:=10000 * (q1:Int) + 9999)) trivial rfl rfl rfl ?_
    clear hW74;intro w75 hW75
    refine sT 1 hW75 rfl rfl infFault rfl rfl rfl ?_
    clear hW75;intro w76 hW76
    refine St.nil fun a77 h77=>?_
    refine hK73 _ _ ?_
    refine wp_ret ?_;with_reducible repeat first | refine of_then_ret ?_ | refine of_block_ret ?_
    have RM:(MFunc.fault m.length q1 x).1≠0→modFault m=MFunc.fault m.length q1 x:=fun hz=>(if_neg (by omega)).trans (by have h9:=firstF_eq (f:=fun f x=>MFunc.fault m.length f x) (j:=0) hx1.out (fun k y hk hy=>by rw [Nat.zero_add];exact hall1 k y hk hy) (by rw [Nat.zero_add];exact hz);rwa [Nat.zero_add] at h9)
    have RC:x.code q1=listC x.regs x.results:=by have:=hc65.out;exact (if_neg (by omega)).trans ((if_neg (by omega)).trans (if_pos (by omega)))
    have EF:MFunc.fault m.length q1 x=(listC x.regs x.results,10000 * (q1:Int) + 9999):=by rw [MFunc.fault_eq,RC,if_neg (by omega)]
    exact ret_box 1 h77 hW76 rfl rfl rfl Tryz.underlying27 rfl infFault ⟨by show Ending.returned (.agg #[.int .i64 (listC x.regs x.results),.int .i64 (10000 * (q1:Int) + 9999)])=_;rw [RM (by rw [EF];show _≠_;omega),EF],hW76.bel⟩
   have h9:(listC x.regs x.results)=0:=bne_eq_false_iff_eq.1 hb
   have hc78:Hid ((listC x.regs x.results)=0):=h9
   clear h9
   clear hb
   refine wp_skip ?_
   refine hK66 _ _ ?_
   refine wp_seq_k fun K79 hK79=>?_
   refine wp_seq_k fun K80 hK80=>?_
   refine fr_region ?_
   intro ops hops
   have hg4:(ops[4]?).bind (fun o:Oper=>o.dst)=some 71:=hops 4
   clear hops
   refine St.go h71 ?_;clear h71 a71
   refine sfFunc3 trivial rfl rfl ?_
   refine sbBlocks 0 hW68 trivial rfl rfl rfl rfl ?_
   refine slBlocks trivial rfl rfl ?_
   refine slt trivial rfl rfl rfl ?_
   refine sm trivial rfl rfl ?_
   intro a81 h81
   rcases Bool.eq_false_or_eq_true (decide ((x.blocks.length:Int) < 1)) with hb | hb
   ·rw [hb] at h81
    have hc82:x.blocks.length < 1:=by have:=of_decide_eq_true hb;omega
    clear hb
    refine St.go h81 ?_;clear h81 a81
    refine so hg4 rfl rfl rfl rfl ?_
    refine so hg4 rfl rfl rfl rfl ?_
    refine so hg4 rfl rfl rfl rfl ?_
    refine so hg4 rfl rfl rfl rfl ?_
    refine sp trivial rfl rfl rfl ?_
    refine St.nil fun a83 h83=>?_
    refine hK80 _ _ ?_
    refine fr_true (t:=76) h83 rfl ?_
    refine wp_seq_k fun K84 hK84=>?_
    refine rg h83 fun ops=>?_;clear h83 a83
    refine sm trivial rfl rfl ?_
    refine sc_1 cf29 hW68 (atFunc_any (f:=q1) (by omega)) trivial rfl rfl ?_
    clear hW68;intro w85 hW85
    refine sc_2 cf28 hW85 (fF_any (xc:=2) (xp:=10000 * (q1:Int) + 9999)) trivial rfl rfl rfl ?_
    clear hW85;intro w86 hW86
    refine sT 1 hW86 rfl rfl infFault rfl rfl rfl ?_
    clear hW86;intro w87 hW87
    refine St.nil fun a88 h88=>?_
    refine hK84 _ _ ?_
    refine wp_ret ?_;with_reducible repeat first | refine of_then_ret ?_ | refine of_block_ret ?_
    have RM:(MFunc.fault m.length q1 x).1≠0→modFault m=MFunc.fault m.length q1 x:=fun hz=>(if_neg (by omega)).trans (by have h9:=firstF_eq (f:=fun f x=>MFunc.fault m.length f x) (j:=0) hx1.out (fun k y hk hy=>by rw [Nat.zero_add];exact hall1 k y hk hy) (by rw [Nat.zero_add];exact hz);rwa [Nat.zero_add] at h9)
    have RC:x.code q1=2:=by have:=hc65.out;have:=hc78.out;exact (if_neg (by omega)).trans ((if_neg (by omega)).trans ((if_neg (by omega)).trans (if_pos (by omega))))
    have EF:MFunc.fault m.length q1 x=(2,10000 * (q1:Int) + 9999):=by rw [MFunc.fault_eq,RC,if_neg (by omega)]
    exact ret_box 1 h88 hW87 rfl rfl rfl Tryz.underlying27 rfl infFault ⟨by show Ending.returned (.agg #[.int .i64 2,.int .i64 (10000 * (q1:Int) + 9999)])=_;rw [RM (by rw [EF];show _≠_;omega),EF],hW87.bel⟩
   rw [hb] at h81
   have hc89:¬ (x.blocks.length < 1):=by have:=of_decide_eq_false hb;omega
   clear hb
   refine St.go h81 ?_;clear h81 a81
   refine sfFunc3 ⟨_,hg4,rfl,rfl⟩ rfl rfl ?_
   refine sbBlocks 0 hW68 ⟨_,hg4,rfl,rfl⟩ rfl rfl rfl rfl ?_
   refine slBlocks ⟨_,hg4,rfl,rfl⟩ rfl rfl ?_
   refine sgt ⟨_,hg4,rfl,rfl⟩ rfl rfl rfl ?_
   refine spf trivial rfl rfl rfl ?_
   refine St.nil fun a90 h90=>?_
   refine hK80 _ _ ?_
   refine fr_cond (t:=76) h90 rfl (fun hb=>?_) (fun hb=>?_)
   ·have hc91:12 < x.blocks.length:=by have:=of_decide_eq_true hb;omega
    clear hb
    refine wp_seq_k fun K92 hK92=>?_
    refine rg h90 fun ops=>?_;clear h90 a90
    refine sm trivial rfl rfl ?_
    refine sc_1 cf29 hW68 (atFunc_any (f:=q1) (by omega)) trivial rfl rfl ?_
    clear hW68;intro w93 hW93
    refine sc_2 cf28 hW93 (fF_any (xc:=2) (xp:=10000 * (q1:Int) + 9999)) trivial rfl rfl rfl ?_
    clear hW93;intro w94 hW94
    refine sT 1 hW94 rfl rfl infFault rfl rfl rfl ?_
    clear hW94;intro w95 hW95
    refine St.nil fun a96 h96=>?_
    refine hK92 _ _ ?_
    refine wp_ret ?_;with_reducible repeat first | refine of_then_ret ?_ | refine of_block_ret ?_
    have RM:(MFunc.fault m.length q1 x).1≠0→modFault m=MFunc.fault m.length q1 x:=fun hz=>(if_neg (by omega)).trans (by have h9:=firstF_eq (f:=fun f x=>MFunc.fault m.length f x) (j:=0) hx1.out (fun k y hk hy=>by rw [Nat.zero_add];exact hall1 k y hk hy) (by rw [Nat.zero_add];exact hz);rwa [Nat.zero_add] at h9)
    have RC:x.code q1=2:=by have:=hc65.out;have:=hc78.out;exact (if_neg (by omega)).trans ((if_neg (by omega)).trans ((if_neg (by omega)).trans (if_pos (by omega))))
    have EF:MFunc.fault m.length q1 x=(2,10000 * (q1:Int) + 9999):=by rw [MFunc.fault_eq,RC,if_neg (by omega)]
    exact ret_box 1 h96 hW95 rfl rfl rfl Tryz.underlying27 rfl infFault ⟨by show Ending.returned (.agg #[.int .i64 2,.int .i64 (10000 * (q1:Int) + 9999)])=_;rw [RM (by rw [EF];show _≠_;omega),EF],hW95.bel⟩
   have hc97:¬ (12 < x.blocks.length):=by have:=of_decide_eq_false hb;omega
   clear hb
   refine wp_skip ?_
   refine hK79 _ _ ?_
   refine wp_seq_k fun K98 hK98=>?_
   refine wp_seq_k fun K99 hK99=>?_
   refine rg h90 fun ops=>?_;clear h90 a90
   refine sm trivial rfl rfl ?_
   refine seq trivial rfl rfl rfl ?_
   refine St.nil fun a100 h100=>?_
   refine hK99 _ _ ?_
   refine fr_cond (t:=81) h100 rfl (fun hb=>?_) (fun hb=>?_)
   ·have h9:q1=0:=by have h8:=eq_of_beq hb;omega
    have hc101:Hid (q1=0):=h9
    clear h9
    clear hb
    refine wp_seq_k fun K102 hK102=>?_
    refine fr_region ?_
    intro ops hops
    have hg3:(ops[3]?).bind (fun o:Oper=>o.dst)=some 85:=hops 3
    clear hops
    refine St.go h100 ?_;clear h100 a100
    refine sfFunc0 trivial rfl rfl ?_
    refine sbInt 0 hW68 trivial rfl rfl rfl rfl ?_
    refine seq trivial rfl rfl rfl ?_
    refine sm trivial rfl rfl ?_
    intro a103 h103
    rcases Bool.eq_false_or_eq_true (x.regs == 0) with hb | hb
    ·rw [hb] at h103
     have h9:x.regs=0:=eq_of_beq hb
     have hc104:Hid (x.regs=0):=h9
     clear h9
     clear hb
     refine St.go h103 ?_;clear h103 a103
     refine sfFunc1 ⟨_,hg3,rfl,rfl⟩ rfl rfl ?_
     refine sbTypes 0 hW68 ⟨_,hg3,rfl,rfl⟩ rfl rfl rfl rfl ?_
     refine slTypes ⟨_,hg3,rfl,rfl⟩ rfl rfl ?_
     refine seq ⟨_,hg3,rfl,rfl⟩ rfl rfl rfl ?_
     refine sp trivial rfl rfl rfl ?_
     refine sa trivial rfl rfl ?_
     refine St.nil fun a105 h105=>?_
     refine hK102 _ _ ?_
     refine wp_seq_k fun K106 hK106=>?_
     refine wp_seq_k fun K107 hK107=>?_
     refine rg h105 fun ops=>?_;clear h105 a105
     refine sa trivial rfl rfl ?_
     refine St.nil fun a108 h108=>?_
     refine hK107 _ _ ?_
     refine wp_block ?_
     have eqv:plB x 0=((x.params.length:Int) == 0):=by rw [plB_zero];simp [hc104.out]
     have hF109:=h108.cons (t:=7) (v:=.bool (plB x 0)) (by rw [h108.sl 7 _ rfl,eqv])
     clear eqv h108
     refine fr_loop (fun r a w'=>∃ q5:Nat,q5≤x.results.length∧r=x.results.length - q5∧Fr 129 a [(0,.agg #[.slice p m.length c]),(1,.pointer (some ⟨B2,0,none⟩)),(2,.pointer (some ⟨B3,0,none⟩)),(3,.int .i64 (q1:Int)),(4,.pointer (some ⟨B31,0,none⟩)),(5,.int .i64 (listC x.regs x.params)),(6,.int .i64 (listC x.regs x.results)),(7,.bool (plB x q5)),(8,.int .i64 (q5:Int))]∧Wd w w' [(B31,#[.int .i64 x.regs,.slice f1.pP x.params.length f1.cP,.slice f1.pR x.results.length f1.cR,.slice f1.pB x.blocks.length f1.cB],38),(B3,#[.int .i64 0,.int .i64 0],27),(B2,#[.slice p m.length c],25)]) (x.results.length) ⟨0,Nat.zero_le _,rfl,(hF109.keep (hF109.keep (hF109.keep (hF109.keep (hF109.keep (hF109.keep (hF109.keep (hF109.keep (hF109.keep hF109.nil (t:=8) rfl) (t:=7) rfl) (t:=6) rfl) (t:=5) rfl) (t:=4) rfl) (t:=3) rfl) (t:=2) rfl) (t:=1) rfl) (t:=0) rfl),hW68⟩ ?_
     clear hF109 hW68
     rintro r5 a110 w110 ⟨q5,hq5,hr5,hF110,hW110⟩ KL5 hKL5
     refine wp_seq_k fun K111 hK111=>?_
     refine wp_seq_k fun K112 hK112=>?_
     refine rg hF110 fun ops=>?_;clear hF110 a110
     refine sm trivial rfl rfl ?_
     refine sfFunc2 trivial rfl rfl ?_
     refine sbTypes 0 hW110 trivial rfl rfl rfl rfl ?_
     refine slTypes trivial rfl rfl ?_
     refine slt trivial rfl rfl rfl ?_
     refine St.nil fun a113 h113=>?_
     refine hK112 _ _ ?_
     refine fr_cond (t:=95) h113 rfl (fun hb=>?_) (fun hb=>?_)
     ·have hlt5:q5 < x.results.length:=by have:=of_decide_eq_true hb;omega
      clear hb
      obtain ⟨t,hx5⟩:∃ v9,(x.results)[q5]?=some v9:=⟨_,List.getElem?_eq_getElem hlt5⟩
      obtain ⟨g5,o5,pt5,ct5,hp5,E5,In5⟩:=lin_at (types_lin In1.out.results).1 hx5
      replace In5:Hid _:=In5
      replace hp5:Hid _:=hp5
      replace hx5:Hid _:=hx5
      replace E5:Hid _:=E5
      refine wp_skip ?_
      refine hK111 _ _ ?_
      refine wp_seq_k fun K114 hK114=>?_
      refine wp_block ?_
      refine fr_region ?_
      intro ops hops
      have hg1:(ops[1]?).bind (fun o:Oper=>o.dst)=some 99:=hops 1
      clear hops
      refine St.go h113 ?_;clear h113 a113
      refine sm trivial rfl rfl ?_
      refine sm trivial rfl rfl ?_
      intro a115 h115
      rcases Bool.eq_false_or_eq_true (plB x q5) with hb | hb
      ·rw [hb] at h115
       have hc116:plB x q5=true:=hb
       replace hc116:Hid _:=hc116
       clear hb
       refine St.go h115 ?_;clear h115 a115
       refine sfFunc2 ⟨_,hg1,rfl,rfl⟩ rfl rfl ?_
       refine sbTypes 0 hW110 ⟨_,hg1,rfl,rfl⟩ rfl rfl rfl rfl ?_
       refine sm ⟨_,hg1,rfl,rfl⟩ rfl rfl ?_
       refine siTypes hp5.out hlt5 ⟨_,hg1,rfl,rfl⟩ rfl rfl rfl ?_
       refine sfType0 ⟨_,hg1,rfl,rfl⟩ rfl rfl ?_
       refine scInt (bel_cell hW110.bel (E5.out 0 _ rfl)) ⟨_,hg1,rfl,rfl⟩ rfl rfl ?_
       refine seq ⟨_,hg1,rfl,rfl⟩ rfl rfl rfl ?_
       refine sp trivial rfl rfl rfl ?_
       refine sa trivial rfl rfl ?_
       intro a117 h117
       have eqv:plB x (q5 + 1)=(t.kind == 1):=by rw [plB_succ hx5.out,hc116.out];rfl
       have hF118:=h117.cons (t:=7) (v:=.bool (plB x (q5 + 1))) (by rw [h117.sl 7 _ rfl,eqv])
       clear eqv h117
       refine wpList_nil ?_
       refine hK114 _ _ ?_
       refine rg hF118 fun ops=>?_;clear hF118 a117
       refine sm trivial rfl rfl ?_
       refine sad (by omega) trivial rfl rfl rfl ?_
       refine sa trivial rfl rfl ?_
       refine St.nil fun a119 h119=>?_
       refine hKL5 _ _ (x.results.length - (q5 + 1)) (by omega) ⟨q5 + 1,by omega,rfl,(h119.keep (h119.keep (h119.keep (h119.keep (h119.keep (h119.keep (h119.keep (h119.keep (h119.keep h119.nil (t:=8) rfl) (t:=7) rfl) (t:=6) rfl) (t:=5) rfl) (t:=4) rfl) (t:=3) rfl) (t:=2) rfl) (t:=1) rfl) (t:=0) rfl),hW110⟩
      rw [hb] at h115
      have hc120:plB x q5=false:=hb
      replace hc120:Hid _:=hc120
      clear hb
      refine St.go h115 ?_;clear h115 a115
      refine so hg1 rfl rfl rfl rfl ?_
      refine so hg1 rfl rfl rfl rfl ?_
      refine so hg1 rfl rfl rfl rfl ?_
      refine so hg1 rfl rfl rfl rfl ?_
      refine so hg1 rfl rfl rfl rfl ?_
      refine so hg1 rfl rfl rfl rfl ?_
      refine so hg1 rfl rfl rfl rfl ?_
      refine spf trivial rfl rfl rfl ?_
      refine sa trivial rfl rfl ?_
      intro a121 h121
      have eqv:plB x (q5 + 1)=false:=by rw [plB_succ hx5.out,hc120.out];rfl
      have hF122:=h121.cons (t:=7) (v:=.bool (plB x (q5 + 1))) (by rw [h121.sl 7 _ rfl,eqv])
      clear eqv h121
      refine wpList_nil ?_
      refine hK114 _ _ ?_
      refine rg hF122 fun ops=>?_;clear hF122 a121
      refine sm trivial rfl rfl ?_
      refine sad (by omega) trivial rfl rfl rfl ?_
      refine sa trivial rfl rfl ?_
      refine St.nil fun a123 h123=>?_
      refine hKL5 _ _ (x.results.length - (q5 + 1)) (by omega) ⟨q5 + 1,by omega,rfl,(h123.keep (h123.keep (h123.keep (h123.keep (h123.keep (h123.keep (h123.keep (h123.keep (h123.keep h123.nil (t:=8) rfl) (t:=7) rfl) (t:=6) rfl) (t:=5) rfl) (t:=4) rfl) (t:=3) rfl) (t:=2) rfl) (t:=1) rfl) (t:=0) rfl),hW110⟩
     have hge5:q5=x.results.length:=by have:=of_decide_eq_false hb;omega
     clear hb
     refine wp_exit ?_
     refine hK106 _ _ ?_
     refine wp_seq_k fun K124 hK124=>?_
     refine rg h113 fun ops=>?_;clear h113 a113
     refine sm trivial rfl rfl ?_
     refine sn trivial rfl rfl ?_
     refine St.nil fun a125 h125=>?_
     refine hK124 _ _ ?_
     refine fr_cond (t:=109) h125 rfl (fun hb=>?_) (fun hb=>?_)
     ·have hb:(plB x q5)=false:=by simpa using hb
      have hc126:plB x q5=false:=hb
      replace hc126:Hid _:=hc126
      clear hb
      have hBG:¬ x.begins:=by rw [← plB_iff,← hge5];rw [hc126.out];decide
      refine wp_seq_k fun K127 hK127=>?_
      refine rg h125 fun ops=>?_;clear h125 a125
      refine sm trivial rfl rfl ?_
      refine sc_1 cf29 hW110 (atFunc_any (f:=q1) (by omega)) trivial rfl rfl ?_
      clear hW110;intro w128 hW128
      refine sc_2 cf28 hW128 (fF_any (xc:=18) (xp:=10000 * (q1:Int) + 9999)) trivial rfl rfl rfl ?_
      clear hW128;intro w129 hW129
      refine sT 1 hW129 rfl rfl infFault rfl rfl rfl ?_
      clear hW129;intro w130 hW130
      refine St.nil fun a131 h131=>?_
      refine hK127 _ _ ?_
      refine wp_ret ?_;with_reducible repeat first | refine of_then_ret ?_ | refine of_block_ret ?_
      have RM:(MFunc.fault m.length q1 x).1≠0→modFault m=MFunc.fault m.length q1 x:=fun hz=>(if_neg (by omega)).trans (by have h9:=firstF_eq (f:=fun f x=>MFunc.fault m.length f x) (j:=0) hx1.out (fun k y hk hy=>by rw [Nat.zero_add];exact hall1 k y hk hy) (by rw [Nat.zero_add];exact hz);rwa [Nat.zero_add] at h9)
      have RC:x.code q1=18:=by have:=hc65.out;have:=hc78.out;have:=hc101.out;have:=hc104.out;exact (if_neg (by omega)).trans ((if_neg (by omega)).trans ((if_neg (by omega)).trans ((if_neg (by omega)).trans (if_pos (⟨by omega,hBG⟩)))))
      have EF:MFunc.fault m.length q1 x=(18,10000 * (q1:Int) + 9999):=by rw [MFunc.fault_eq,RC,if_neg (by omega)]
      exact ret_box 1 h131 hW130 rfl rfl rfl Tryz.underlying27 rfl infFault ⟨by show Ending.returned (.agg #[.int .i64 18,.int .i64 (10000 * (q1:Int) + 9999)])=_;rw [RM (by rw [EF];show _≠_;omega),EF],hW130.bel⟩
     have hb:(plB x q5)=true:=by simpa using hb
     have hc132:plB x q5=true:=hb
     replace hc132:Hid _:=hc132
     clear hb
     have hBG:x.begins:=by rw [← plB_iff,← hge5];exact hc132.out
     refine wp_skip ?_
     refine hK98 _ _ ?_
     refine wp_seq_k fun K133 hK133=>?_
     refine rg h125 fun ops=>?_;clear h125 a125
     refine sa trivial rfl rfl ?_
     refine St.nil fun a134 h134=>?_
     refine hK133 _ _ ?_
     refine wp_block ?_
     refine fr_loop (fun r a w'=>∃ q2:Nat,q2≤x.blocks.length∧r=x.blocks.length - q2∧(∀ (j:Nat) z,j < q2→x.blocks[j]?=some z→(MBlock.fault m.length q1 x j z).1=0)∧Fr 129 a [(0,.agg #[.slice p m.length c]),(1,.pointer (some ⟨B2,0,none⟩)),(2,.pointer (some ⟨B3,0,none⟩)),(3,.int .i64 (q1:Int)),(4,.pointer (some ⟨B31,0,none⟩)),(5,.int .i64 (listC x.regs x.params)),(6,.int .i64 (listC x.regs x.results)),(7,.bool (plB x q5)),(8,.int .i64 (q5:Int)),(9,.int .i64 (q2:Int))]∧Wd w w' [(B31,#[.int .i64 x.regs,.slice f1.pP x.params.length f1.cP,.slice f1.pR x.results.length f1.cR,.slice f1.pB x.blocks.length f1.cB],38),(B3,#[.int .i64 0,.int .i64 0],27),(B2,#[.slice p m.length c],25)]) (x.blocks.length) ⟨0,Nat.zero_le _,rfl,(fun j z hj=>by omega),(h134.keep (h134.keep (h134.keep (h134.keep (h134.keep (h134.keep (h134.keep (h134.keep (h134.keep (h134.keep h134.nil (t:=9) rfl) (t:=8) rfl) (t:=7) rfl) (t:=6) rfl) (t:=5) rfl) (t:=4) rfl) (t:=3) rfl) (t:=2) rfl) (t:=1) rfl) (t:=0) rfl),hW110⟩ ?_
     clear h134 hW110
     rintro r2 a135 w135 ⟨q2,hq2,hr2,hall2,hF135,hW135⟩ KL2 hKL2
     refine wp_seq_k fun K136 hK136=>?_
     refine wp_seq_k fun K137 hK137=>?_
     refine rg hF135 fun ops=>?_;clear hF135 a135
     refine sm trivial rfl rfl ?_
     refine sfFunc3 trivial rfl rfl ?_
     refine sbBlocks 0 hW135 trivial rfl rfl rfl rfl ?_
     refine slBlocks trivial rfl rfl ?_
     refine slt trivial rfl rfl rfl ?_
     refine St.nil fun a138 h138=>?_
     refine hK137 _ _ ?_
     refine fr_cond (t:=117) h138 rfl (fun hb=>?_) (fun hb=>?_)
     ·have hlt2:q2 < x.blocks.length:=by have:=of_decide_eq_true hb;omega
      clear hb
      obtain ⟨y,hx2⟩:∃ v9,(x.blocks)[q2]?=some v9:=⟨_,List.getElem?_eq_getElem hlt2⟩
      obtain ⟨g2,o2,b2,hp2,E2,In2⟩:=block_at In1.out.blocks hx2
      replace In2:Hid _:=In2
      replace hp2:Hid _:=hp2
      replace hx2:Hid _:=hx2
      replace E2:Hid _:=E2
      refine wp_skip ?_
      refine hK136 _ _ ?_
      refine wp_seq_k fun K139 hK139=>?_
      refine wp_block ?_
      refine wp_seq_k fun K140 hK140=>?_
      refine rg h138 fun ops=>?_;clear h138 a138
      refine sS 2 1 Tryz.underlying25 rfl infModule hW135 trivial rfl rfl rfl rfl ?_
      refine sm trivial rfl rfl ?_
      refine sm trivial rfl rfl ?_
      refine sc_3 cf31 hW135 (blockFault_any (c:=c) (Lay.below hm.out hW135.bel) hms.out hx1.out hx2.out) trivial rfl rfl rfl rfl ?_
      clear hW135;intro w141 hW141
      refine sAFault hW141 trivial rfl ?_
      clear hW141;intro w142 B142 hW142 hN;clear hN
      refine sT 0 hW142 rfl rfl infFault rfl rfl rfl ?_
      clear hW142;intro w143 hW143
      refine St.nil fun a144 h144=>?_
      refine hK140 _ _ ?_
      refine wp_seq_k fun K145 hK145=>?_
      refine rg h144 fun ops=>?_;clear h144 a144
      refine sfFault0 trivial rfl rfl ?_
      refine sbInt 0 hW143 trivial rfl rfl rfl rfl ?_
      refine sne trivial rfl rfl rfl ?_
      refine St.nil fun a146 h146=>?_
      refine hK145 _ _ ?_
      refine fr_cond (t:=126) h146 rfl (fun hb=>?_) (fun hb=>?_)
      ·have h9:¬ ((MBlock.fault m.length q1 x q2 y).1)=0:=bne_iff_ne.1 hb
       have hc147:¬ ((MBlock.fault m.length q1 x q2 y).1)=0:=h9
       clear h9
       clear hb
       refine wp_seq_k fun K148 hK148=>?_
       refine rg h146 fun ops=>?_;clear h146 a146
       refine sS 0 2 Tryz.underlying27 rfl infFault hW143 trivial rfl rfl rfl rfl ?_
       refine sT 2 hW143 rfl rfl infFault rfl rfl rfl ?_
       clear hW143;intro w149 hW149
       refine St.nil fun a150 h150=>?_
       refine hK148 _ _ ?_
       refine wp_ret ?_;with_reducible repeat first | refine of_then_ret ?_ | refine of_block_ret ?_
       have RM:(MFunc.fault m.length q1 x).1≠0→modFault m=MFunc.fault m.length q1 x:=fun hz=>(if_neg (by omega)).trans (by have h9:=firstF_eq (f:=fun f x=>MFunc.fault m.length f x) (j:=0) hx1.out (fun k y hk hy=>by rw [Nat.zero_add];exact hall1 k y hk hy) (by rw [Nat.zero_add];exact hz);rwa [Nat.zero_add] at h9)
       have RC:x.code q1=0:=by have:=hc65.out;have:=hc78.out;have:=hc101.out;have:=hc104.out;exact (if_neg (by omega)).trans ((if_neg (by omega)).trans ((if_neg (by omega)).trans ((if_neg (by omega)).trans ((if_neg (fun h9=>h9.2 hBG)).trans (rfl)))))
       have EF:MFunc.fault m.length q1 x=MBlock.fault m.length q1 x q2 y:=by
         rw [MFunc.fault_eq,if_pos RC]
         have h9:=firstF_eq (f:=fun b y=>MBlock.fault m.length q1 x b y) (j:=0) hx2.out (fun k y hk hy=>by rw [Nat.zero_add];exact hall2 k y hk hy) (by rw [Nat.zero_add];exact hc147)
         rwa [Nat.zero_add] at h9
       exact ret_box 2 h150 hW149 rfl rfl rfl Tryz.underlying27 rfl infFault ⟨by show Ending.returned (.agg #[.int .i64 ((MBlock.fault m.length q1 x q2 y).1),.int .i64 ((MBlock.fault m.length q1 x q2 y).2)])=_;rw [RM (by rw [EF];exact hc147),EF],hW149.bel⟩
      have h9:((MBlock.fault m.length q1 x q2 y).1)=0:=bne_eq_false_iff_eq.1 hb
      have hc151:Hid (((MBlock.fault m.length q1 x q2 y).1)=0):=h9
      clear h9
      clear hb
      refine wp_skip ?_
      refine hK139 _ _ ?_
      refine rg h146 fun ops=>?_;clear h146 a146
      refine sm trivial rfl rfl ?_
      refine sad (by omega) trivial rfl rfl rfl ?_
      refine sa trivial rfl rfl ?_
      refine St.nil fun a152 h152=>?_
      refine hKL2 _ _ (x.blocks.length - (q2 + 1)) (by omega) ⟨q2 + 1,by omega,rfl,?_,(h152.keep (h152.keep (h152.keep (h152.keep (h152.keep (h152.keep (h152.keep (h152.keep (h152.keep (h152.keep h152.nil (t:=9) rfl) (t:=8) rfl) (t:=7) rfl) (t:=6) rfl) (t:=5) rfl) (t:=4) rfl) (t:=3) rfl) (t:=2) rfl) (t:=1) rfl) (t:=0) rfl),hW143.tail⟩
      ·intro j z hj hz
       by_cases e:j=q2
       · subst e;rw [hx2.out] at hz;cases hz;exact hc151.out
       · exact hall2 j z (by omega) hz
     have hge2:q2=x.blocks.length:=by have:=of_decide_eq_false hb;omega
     clear hb
     have RC:x.code q1=0:=by have:=hc65.out;have:=hc78.out;have:=hc101.out;have:=hc104.out;exact (if_neg (by omega)).trans ((if_neg (by omega)).trans ((if_neg (by omega)).trans ((if_neg (by omega)).trans ((if_neg (fun h9=>h9.2 hBG)).trans (rfl)))))
     have NZ1:(MFunc.fault m.length q1 x).1=0:=by
       rw [MFunc.fault_eq,if_pos RC,firstF_zero (fun k y hy=>by rw [Nat.zero_add];exact hall2 k y (by have:=(List.getElem?_eq_some_iff.1 hy).1;omega) hy)]
     refine wp_exit ?_
     refine hK29 _ _ ?_
     refine rg h138 fun ops=>?_;clear h138 a138
     refine sm trivial rfl rfl ?_
     refine sad (by omega) trivial rfl rfl rfl ?_
     refine sa trivial rfl rfl ?_
     refine St.nil fun a153 h153=>?_
     refine hKL1 _ _ (m.length - (q1 + 1)) (by omega) ⟨q1 + 1,by omega,rfl,?_,(h153.keep (h153.keep (h153.keep (h153.keep h153.nil (t:=3) rfl) (t:=2) rfl) (t:=1) rfl) (t:=0) rfl),hW135.tail⟩
     ·intro j z hj hz
      by_cases e:j=q1
      · subst e;rw [hx1.out] at hz;cases hz;exact NZ1
      · exact hall1 j z (by omega) hz
    rw [hb] at h103
    have h9:¬ x.regs=0:=ne_of_beq_false hb
    have hc154:¬ x.regs=0:=h9
    clear h9
    clear hb
    refine St.go h103 ?_;clear h103 a103
    refine so hg3 rfl rfl rfl rfl ?_
    refine so hg3 rfl rfl rfl rfl ?_
    refine so hg3 rfl rfl rfl rfl ?_
    refine so hg3 rfl rfl rfl rfl ?_
    refine spf trivial rfl rfl rfl ?_
    refine sa trivial rfl rfl ?_
    refine St.nil fun a155 h155=>?_
    refine hK102 _ _ ?_
    refine wp_seq_k fun K156 hK156=>?_
    refine wp_seq_k fun K157 hK157=>?_
    refine rg h155 fun ops=>?_;clear h155 a155
    refine sa trivial rfl rfl ?_
    refine St.nil fun a158 h158=>?_
    refine hK157 _ _ ?_
    refine wp_block ?_
    have eqv:plB x 0=false:=by rw [plB_zero];simp [hc154]
    have hF159:=h158.cons (t:=7) (v:=.bool (plB x 0)) (by rw [h158.sl 7 _ rfl,eqv])
    clear eqv h158
    refine fr_loop (fun r a w'=>∃ q5:Nat,q5≤x.results.length∧r=x.results.length - q5∧Fr 129 a [(0,.agg #[.slice p m.length c]),(1,.pointer (some ⟨B2,0,none⟩)),(2,.pointer (some ⟨B3,0,none⟩)),(3,.int .i64 (q1:Int)),(4,.pointer (some ⟨B31,0,none⟩)),(5,.int .i64 (listC x.regs x.params)),(6,.int .i64 (listC x.regs x.results)),(7,.bool (plB x q5)),(8,.int .i64 (q5:Int))]∧Wd w w' [(B31,#[.int .i64 x.regs,.slice f1.pP x.params.length f1.cP,.slice f1.pR x.results.length f1.cR,.slice f1.pB x.blocks.length f1.cB],38),(B3,#[.int .i64 0,.int .i64 0],27),(B2,#[.slice p m.length c],25)]) (x.results.length) ⟨0,Nat.zero_le _,rfl,(hF159.keep (hF159.keep (hF159.keep (hF159.keep (hF159.keep (hF159.keep (hF159.keep (hF159.keep (hF159.keep hF159.nil (t:=8) rfl) (t:=7) rfl) (t:=6) rfl) (t:=5) rfl) (t:=4) rfl) (t:=3) rfl) (t:=2) rfl) (t:=1) rfl) (t:=0) rfl),hW68⟩ ?_
    clear hF159 hW68
    rintro r5 a160 w160 ⟨q5,hq5,hr5,hF160,hW160⟩ KL5 hKL5
    refine wp_seq_k fun K161 hK161=>?_
    refine wp_seq_k fun K162 hK162=>?_
    refine rg hF160 fun ops=>?_;clear hF160 a160
    refine sm trivial rfl rfl ?_
    refine sfFunc2 trivial rfl rfl ?_
    refine sbTypes 0 hW160 trivial rfl rfl rfl rfl ?_
    refine slTypes trivial rfl rfl ?_
    refine slt trivial rfl rfl rfl ?_
    refine St.nil fun a163 h163=>?_
    refine hK162 _ _ ?_
    refine fr_cond (t:=95) h163 rfl (fun hb=>?_) (fun hb=>?_)
    ·have hlt5:q5 < x.results.length:=by have:=of_decide_eq_true hb;omega
     clear hb
     obtain ⟨t,hx5⟩:∃ v9,(x.results)[q5]?=some v9:=⟨_,List.getElem?_eq_getElem hlt5⟩
     obtain ⟨g5,o5,pt5,ct5,hp5,E5,In5⟩:=lin_at (types_lin In1.out.results).1 hx5
     replace In5:Hid _:=In5
     replace hp5:Hid _:=hp5
     replace hx5:Hid _:=hx5
     replace E5:Hid _:=E5
     refine wp_skip ?_
     refine hK161 _ _ ?_
     refine wp_seq_k fun K164 hK164=>?_
     refine wp_block ?_
     refine fr_region ?_
     intro ops hops
     have hg1:(ops[1]?).bind (fun o:Oper=>o.dst)=some 99:=hops 1
     clear hops
     refine St.go h163 ?_;clear h163 a163
     refine sm trivial rfl rfl ?_
     refine sm trivial rfl rfl ?_
     intro a165 h165
     rcases Bool.eq_false_or_eq_true (plB x q5) with hb | hb
     ·rw [hb] at h165
      have hc166:plB x q5=true:=hb
      replace hc166:Hid _:=hc166
      clear hb
      refine St.go h165 ?_;clear h165 a165
      refine sfFunc2 ⟨_,hg1,rfl,rfl⟩ rfl rfl ?_
      refine sbTypes 0 hW160 ⟨_,hg1,rfl,rfl⟩ rfl rfl rfl rfl ?_
      refine sm ⟨_,hg1,rfl,rfl⟩ rfl rfl ?_
      refine siTypes hp5.out hlt5 ⟨_,hg1,rfl,rfl⟩ rfl rfl rfl ?_
      refine sfType0 ⟨_,hg1,rfl,rfl⟩ rfl rfl ?_
      refine scInt (bel_cell hW160.bel (E5.out 0 _ rfl)) ⟨_,hg1,rfl,rfl⟩ rfl rfl ?_
      refine seq ⟨_,hg1,rfl,rfl⟩ rfl rfl rfl ?_
      refine sp trivial rfl rfl rfl ?_
      refine sa trivial rfl rfl ?_
      intro a167 h167
      have eqv:plB x (q5 + 1)=(t.kind == 1):=by rw [plB_succ hx5.out,hc166.out];rfl
      have hF168:=h167.cons (t:=7) (v:=.bool (plB x (q5 + 1))) (by rw [h167.sl 7 _ rfl,eqv])
      clear eqv h167
      refine wpList_nil ?_
      refine hK164 _ _ ?_
      refine rg hF168 fun ops=>?_;clear hF168 a167
      refine sm trivial rfl rfl ?_
      refine sad (by omega) trivial rfl rfl rfl ?_
      refine sa trivial rfl rfl ?_
      refine St.nil fun a169 h169=>?_
      refine hKL5 _ _ (x.results.length - (q5 + 1)) (by omega) ⟨q5 + 1,by omega,rfl,(h169.keep (h169.keep (h169.keep (h169.keep (h169.keep (h169.keep (h169.keep (h169.keep (h169.keep h169.nil (t:=8) rfl) (t:=7) rfl) (t:=6) rfl) (t:=5) rfl) (t:=4) rfl) (t:=3) rfl) (t:=2) rfl) (t:=1) rfl) (t:=0) rfl),hW160⟩
     rw [hb] at h165
     have hc170:plB x q5=false:=hb
     replace hc170:Hid _:=hc170
     clear hb
     refine St.go h165 ?_;clear h165 a165
     refine so hg1 rfl rfl rfl rfl ?_
     refine so hg1 rfl rfl rfl rfl ?_
     refine so hg1 rfl rfl rfl rfl ?_
     refine so hg1 rfl rfl rfl rfl ?_
     refine so hg1 rfl rfl rfl rfl ?_
     refine so hg1 rfl rfl rfl rfl ?_
     refine so hg1 rfl rfl rfl rfl ?_
     refine spf trivial rfl rfl rfl ?_
     refine sa trivial rfl rfl ?_
     intro a171 h171
     have eqv:plB x (q5 + 1)=false:=by rw [plB_succ hx5.out,hc170.out];rfl
     have hF172:=h171.cons (t:=7) (v:=.bool (plB x (q5 + 1))) (by rw [h171.sl 7 _ rfl,eqv])
     clear eqv h171
     refine wpList_nil ?_
     refine hK164 _ _ ?_
     refine rg hF172 fun ops=>?_;clear hF172 a171
     refine sm trivial rfl rfl ?_
     refine sad (by omega) trivial rfl rfl rfl ?_
     refine sa trivial rfl rfl ?_
     refine St.nil fun a173 h173=>?_
     refine hKL5 _ _ (x.results.length - (q5 + 1)) (by omega) ⟨q5 + 1,by omega,rfl,(h173.keep (h173.keep (h173.keep (h173.keep (h173.keep (h173.keep (h173.keep (h173.keep (h173.keep h173.nil (t:=8) rfl) (t:=7) rfl) (t:=6) rfl) (t:=5) rfl) (t:=4) rfl) (t:=3) rfl) (t:=2) rfl) (t:=1) rfl) (t:=0) rfl),hW160⟩
    have hge5:q5=x.results.length:=by have:=of_decide_eq_false hb;omega
    clear hb
    refine wp_exit ?_
    refine hK156 _ _ ?_
    refine wp_seq_k fun K174 hK174=>?_
    refine rg h163 fun ops=>?_;clear h163 a163
    refine sm trivial rfl rfl ?_
    refine sn trivial rfl rfl ?_
    refine St.nil fun a175 h175=>?_
    refine hK174 _ _ ?_
    refine fr_cond (t:=109) h175 rfl (fun hb=>?_) (fun hb=>?_)
    ·have hb:(plB x q5)=false:=by simpa using hb
     have hc176:plB x q5=false:=hb
     replace hc176:Hid _:=hc176
     clear hb
     have hBG:¬ x.begins:=by rw [← plB_iff,← hge5];rw [hc176.out];decide
     refine wp_seq_k fun K177 hK177=>?_
     refine rg h175 fun ops=>?_;clear h175 a175
     refine sm trivial rfl rfl ?_
     refine sc_1 cf29 hW160 (atFunc_any (f:=q1) (by omega)) trivial rfl rfl ?_
     clear hW160;intro w178 hW178
     refine sc_2 cf28 hW178 (fF_any (xc:=18) (xp:=10000 * (q1:Int) + 9999)) trivial rfl rfl rfl ?_
     clear hW178;intro w179 hW179
     refine sT 1 hW179 rfl rfl infFault rfl rfl rfl ?_
     clear hW179;intro w180 hW180
     refine St.nil fun a181 h181=>?_
     refine hK177 _ _ ?_
     refine wp_ret ?_;with_reducible repeat first | refine of_then_ret ?_ | refine of_block_ret ?_
     have RM:(MFunc.fault m.length q1 x).1≠0→modFault m=MFunc.fault m.length q1 x:=fun hz=>(if_neg (by omega)).trans (by have h9:=firstF_eq (f:=fun f x=>MFunc.fault m.length f x) (j:=0) hx1.out (fun k y hk hy=>by rw [Nat.zero_add];exact hall1 k y hk hy) (by rw [Nat.zero_add];exact hz);rwa [Nat.zero_add] at h9)
     have RC:x.code q1=18:=by have:=hc65.out;have:=hc78.out;have:=hc101.out;exact (if_neg (by omega)).trans ((if_neg (by omega)).trans ((if_neg (by omega)).trans ((if_neg (by omega)).trans (if_pos (⟨by omega,hBG⟩)))))
     have EF:MFunc.fault m.length q1 x=(18,10000 * (q1:Int) + 9999):=by rw [MFunc.fault_eq,RC,if_neg (by omega)]
     exact ret_box 1 h181 hW180 rfl rfl rfl Tryz.underlying27 rfl infFault ⟨by show Ending.returned (.agg #[.int .i64 18,.int .i64 (10000 * (q1:Int) + 9999)])=_;rw [RM (by rw [EF];show _≠_;omega),EF],hW180.bel⟩
    have hb:(plB x q5)=true:=by simpa using hb
    have hc182:plB x q5=true:=hb
    replace hc182:Hid _:=hc182
    clear hb
    have hBG:x.begins:=by rw [← plB_iff,← hge5];exact hc182.out
    refine wp_skip ?_
    refine hK98 _ _ ?_
    refine wp_seq_k fun K183 hK183=>?_
    refine rg h175 fun ops=>?_;clear h175 a175
    refine sa trivial rfl rfl ?_
    refine St.nil fun a184 h184=>?_
    refine hK183 _ _ ?_
    refine wp_block ?_
    refine fr_loop (fun r a w'=>∃ q2:Nat,q2≤x.blocks.length∧r=x.blocks.length - q2∧(∀ (j:Nat) z,j < q2→x.blocks[j]?=some z→(MBlock.fault m.length q1 x j z).1=0)∧Fr 129 a [(0,.agg #[.slice p m.length c]),(1,.pointer (some ⟨B2,0,none⟩)),(2,.pointer (some ⟨B3,0,none⟩)),(3,.int .i64 (q1:Int)),(4,.pointer (some ⟨B31,0,none⟩)),(5,.int .i64 (listC x.regs x.params)),(6,.int .i64 (listC x.regs x.results)),(7,.bool (plB x q5)),(8,.int .i64 (q5:Int)),(9,.int .i64 (q2:Int))]∧Wd w w' [(B31,#[.int .i64 x.regs,.slice f1.pP x.params.length f1.cP,.slice f1.pR x.results.length f1.cR,.slice f1.pB x.blocks.length f1.cB],38),(B3,#[.int .i64 0,.int .i64 0],27),(B2,#[.slice p m.length c],25)]) (x.blocks.length) ⟨0,Nat.zero_le _,rfl,(fun j z hj=>by omega),(h184.keep (h184.keep (h184.keep (h184.keep (h184.keep (h184.keep (h184.keep (h184.keep (h184.keep (h184.keep h184.nil (t:=9) rfl) (t:=8) rfl) (t:=7) rfl) (t:=6) rfl) (t:=5) rfl) (t:=4) rfl) (t:=3) rfl) (t:=2) rfl) (t:=1) rfl) (t:=0) rfl),hW160⟩ ?_
    clear h184 hW160
    rintro r2 a185 w185 ⟨q2,hq2,hr2,hall2,hF185,hW185⟩ KL2 hKL2
    refine wp_seq_k fun K186 hK186=>?_
    refine wp_seq_k fun K187 hK187=>?_
    refine rg hF185 fun ops=>?_;clear hF185 a185
    refine sm trivial rfl rfl ?_
    refine sfFunc3 trivial rfl rfl ?_
    refine sbBlocks 0 hW185 trivial rfl rfl rfl rfl ?_
    refine slBlocks trivial rfl rfl ?_
    refine slt trivial rfl rfl rfl ?_
    refine St.nil fun a188 h188=>?_
    refine hK187 _ _ ?_
    refine fr_cond (t:=117) h188 rfl (fun hb=>?_) (fun hb=>?_)
    ·have hlt2:q2 < x.blocks.length:=by have:=of_decide_eq_true hb;omega
     clear hb
     obtain ⟨y,hx2⟩:∃ v9,(x.blocks)[q2]?=some v9:=⟨_,List.getElem?_eq_getElem hlt2⟩
     obtain ⟨g2,o2,b2,hp2,E2,In2⟩:=block_at In1.out.blocks hx2
     replace In2:Hid _:=In2
     replace hp2:Hid _:=hp2
     replace hx2:Hid _:=hx2
     replace E2:Hid _:=E2
     refine wp_skip ?_
     refine hK186 _ _ ?_
     refine wp_seq_k fun K189 hK189=>?_
     refine wp_block ?_
     refine wp_seq_k fun K190 hK190=>?_
     refine rg h188 fun ops=>?_;clear h188 a188
     refine sS 2 1 Tryz.underlying25 rfl infModule hW185 trivial rfl rfl rfl rfl ?_
     refine sm trivial rfl rfl ?_
     refine sm trivial rfl rfl ?_
     refine sc_3 cf31 hW185 (blockFault_any (c:=c) (Lay.below hm.out hW185.bel) hms.out hx1.out hx2.out) trivial rfl rfl rfl rfl ?_
     clear hW185;intro w191 hW191
     refine sAFault hW191 trivial rfl ?_
     clear hW191;intro w192 B192 hW192 hN;clear hN
     refine sT 0 hW192 rfl rfl infFault rfl rfl rfl ?_
     clear hW192;intro w193 hW193
     refine St.nil fun a194 h194=>?_
     refine hK190 _ _ ?_
     refine wp_seq_k fun K195 hK195=>?_
     refine rg h194 fun ops=>?_;clear h194 a194
     refine sfFault0 trivial rfl rfl ?_
     refine sbInt 0 hW193 trivial rfl rfl rfl rfl ?_
     refine sne trivial rfl rfl rfl ?_
     refine St.nil fun a196 h196=>?_
     refine hK195 _ _ ?_
     refine fr_cond (t:=126) h196 rfl (fun hb=>?_) (fun hb=>?_)
     ·have h9:¬ ((MBlock.fault m.length q1 x q2 y).1)=0:=bne_iff_ne.1 hb
      have hc197:¬ ((MBlock.fault m.length q1 x q2 y).1)=0:=h9
      clear h9
      clear hb
      refine wp_seq_k fun K198 hK198=>?_
      refine rg h196 fun ops=>?_;clear h196 a196
      refine sS 0 2 Tryz.underlying27 rfl infFault hW193 trivial rfl rfl rfl rfl ?_
      refine sT 2 hW193 rfl rfl infFault rfl rfl rfl ?_
      clear hW193;intro w199 hW199
      refine St.nil fun a200 h200=>?_
      refine hK198 _ _ ?_
      refine wp_ret ?_;with_reducible repeat first | refine of_then_ret ?_ | refine of_block_ret ?_
      have RM:(MFunc.fault m.length q1 x).1≠0→modFault m=MFunc.fault m.length q1 x:=fun hz=>(if_neg (by omega)).trans (by have h9:=firstF_eq (f:=fun f x=>MFunc.fault m.length f x) (j:=0) hx1.out (fun k y hk hy=>by rw [Nat.zero_add];exact hall1 k y hk hy) (by rw [Nat.zero_add];exact hz);rwa [Nat.zero_add] at h9)
      have RC:x.code q1=0:=by have:=hc65.out;have:=hc78.out;have:=hc101.out;exact (if_neg (by omega)).trans ((if_neg (by omega)).trans ((if_neg (by omega)).trans ((if_neg (by omega)).trans ((if_neg (fun h9=>h9.2 hBG)).trans (rfl)))))
      have EF:MFunc.fault m.length q1 x=MBlock.fault m.length q1 x q2 y:=by
        rw [MFunc.fault_eq,if_pos RC]
        have h9:=firstF_eq (f:=fun b y=>MBlock.fault m.length q1 x b y) (j:=0) hx2.out (fun k y hk hy=>by rw [Nat.zero_add];exact hall2 k y hk hy) (by rw [Nat.zero_add];exact hc197)
        rwa [Nat.zero_add] at h9
      exact ret_box 2 h200 hW199 rfl rfl rfl Tryz.underlying27 rfl infFault ⟨by show Ending.returned (.agg #[.int .i64 ((MBlock.fault m.length q1 x q2 y).1),.int .i64 ((MBlock.fault m.length q1 x q2 y).2)])=_;rw [RM (by rw [EF];exact hc197),EF],hW199.bel⟩
     have h9:((MBlock.fault m.length q1 x q2 y).1)=0:=bne_eq_false_iff_eq.1 hb
     have hc201:Hid (((MBlock.fault m.length q1 x q2 y).1)=0):=h9
     clear h9
     clear hb
     refine wp_skip ?_
     refine hK189 _ _ ?_
     refine rg h196 fun ops=>?_;clear h196 a196
     refine sm trivial rfl rfl ?_
     refine sad (by omega) trivial rfl rfl rfl ?_
     refine sa trivial rfl rfl ?_
     refine St.nil fun a202 h202=>?_
     refine hKL2 _ _ (x.blocks.length - (q2 + 1)) (by omega) ⟨q2 + 1,by omega,rfl,?_,(h202.keep (h202.keep (h202.keep (h202.keep (h202.keep (h202.keep (h202.keep (h202.keep (h202.keep (h202.keep h202.nil (t:=9) rfl) (t:=8) rfl) (t:=7) rfl) (t:=6) rfl) (t:=5) rfl) (t:=4) rfl) (t:=3) rfl) (t:=2) rfl) (t:=1) rfl) (t:=0) rfl),hW193.tail⟩
     ·intro j z hj hz
      by_cases e:j=q2
      · subst e;rw [hx2.out] at hz;cases hz;exact hc201.out
      · exact hall2 j z (by omega) hz
    have hge2:q2=x.blocks.length:=by have:=of_decide_eq_false hb;omega
    clear hb
    have RC:x.code q1=0:=by have:=hc65.out;have:=hc78.out;have:=hc101.out;exact (if_neg (by omega)).trans ((if_neg (by omega)).trans ((if_neg (by omega)).trans ((if_neg (by omega)).trans ((if_neg (fun h9=>h9.2 hBG)).trans (rfl)))))
    have NZ1:(MFunc.fault m.length q1 x).1=0:=by
      rw [MFunc.fault_eq,if_pos RC,firstF_zero (fun k y hy=>by rw [Nat.zero_add];exact hall2 k y (by have:=(List.getElem?_eq_some_iff.1 hy).1;omega) hy)]
    refine wp_exit ?_
    refine hK29 _ _ ?_
    refine rg h188 fun ops=>?_;clear h188 a188
    refine sm trivial rfl rfl ?_
    refine sad (by omega) trivial rfl rfl rfl ?_
    refine sa trivial rfl rfl ?_
    refine St.nil fun a203 h203=>?_
    refine hKL1 _ _ (m.length - (q1 + 1)) (by omega) ⟨q1 + 1,by omega,rfl,?_,(h203.keep (h203.keep (h203.keep (h203.keep h203.nil (t:=3) rfl) (t:=2) rfl) (t:=1) rfl) (t:=0) rfl),hW185.tail⟩
    ·intro j z hj hz
     by_cases e:j=q1
     · subst e;rw [hx1.out] at hz;cases hz;exact NZ1
     · exact hall1 j z (by omega) hz
   have h9:¬ q1=0:=by have h8:=ne_of_beq_false hb;omega
   have hc204:¬ q1=0:=h9
   clear h9
   clear hb
   refine wp_skip ?_
   refine hK98 _ _ ?_
   refine wp_seq_k fun K205 hK205=>?_
   refine rg h100 fun ops=>?_;clear h100 a100
   refine sa trivial rfl rfl ?_
   refine St.nil fun a206 h206=>?_
   refine hK205 _ _ ?_
   refine wp_block ?_
   refine fr_loop (fun r a w'=>∃ q2:Nat,q2≤x.blocks.length∧r=x.blocks.length - q2∧(∀ (j:Nat) z,j < q2→x.blocks[j]?=some z→(MBlock.fault m.length q1 x j z).1=0)∧Fr 129 a [(0,.agg #[.slice p m.length c]),(1,.pointer (some ⟨B2,0,none⟩)),(2,.pointer (some ⟨B3,0,none⟩)),(3,.int .i64 (q1:Int)),(4,.pointer (some ⟨B31,0,none⟩)),(5,.int .i64 (listC x.regs x.params)),(6,.int .i64 (listC x.regs x.results)),(9,.int .i64 (q2:Int))]∧Wd w w' [(B31,#[.int .i64 x.regs,.slice f1.pP x.params.length f1.cP,.slice f1.pR x.results.length f1.cR,.slice f1.pB x.blocks.length f1.cB],38),(B3,#[.int .i64 0,.int .i64 0],27),(B2,#[.slice p m.length c],25)]) (x.blocks.length) ⟨0,Nat.zero_le _,rfl,(fun j z hj=>by omega),(h206.keep (h206.keep (h206.keep (h206.keep (h206.keep (h206.keep (h206.keep (h206.keep h206.nil (t:=9) rfl) (t:=6) rfl) (t:=5) rfl) (t:=4) rfl) (t:=3) rfl) (t:=2) rfl) (t:=1) rfl) (t:=0) rfl),hW68⟩ ?_
   clear h206 hW68
   rintro r2 a207 w207 ⟨q2,hq2,hr2,hall2,hF207,hW207⟩ KL2 hKL2
   refine wp_seq_k fun K208 hK208=>?_
   refine wp_seq_k fun K209 hK209=>?_
   refine rg hF207 fun ops=>?_;clear hF207 a207
   refine sm trivial rfl rfl ?_
   refine sfFunc3 trivial rfl rfl ?_
   refine sbBlocks 0 hW207 trivial rfl rfl rfl rfl ?_
   refine slBlocks trivial rfl rfl ?_
   refine slt trivial rfl rfl rfl ?_
   refine St.nil fun a210 h210=>?_
   refine hK209 _ _ ?_
   refine fr_cond (t:=117) h210 rfl (fun hb=>?_) (fun hb=>?_)
   ·have hlt2:q2 < x.blocks.length:=by have:=of_decide_eq_true hb;omega
    clear hb
    obtain ⟨y,hx2⟩:∃ v9,(x.blocks)[q2]?=some v9:=⟨_,List.getElem?_eq_getElem hlt2⟩
    obtain ⟨g2,o2,b2,hp2,E2,In2⟩:=block_at In1.out.blocks hx2
    replace In2:Hid _:=In2
    replace hp2:Hid _:=hp2
    replace hx2:Hid _:=hx2
    replace E2:Hid _:=E2
    refine wp_skip ?_
    refine hK208 _ _ ?_
    refine wp_seq_k fun K211 hK211=>?_
    refine wp_block ?_
    refine wp_seq_k fun K212 hK212=>?_
    refine rg h210 fun ops=>?_;clear h210 a210
    refine sS 2 1 Tryz.underlying25 rfl infModule hW207 trivial rfl rfl rfl rfl ?_
    refine sm trivial rfl rfl ?_
    refine sm trivial rfl rfl ?_
    refine sc_3 cf31 hW207 (blockFault_any (c:=c) (Lay.below hm.out hW207.bel) hms.out hx1.out hx2.out) trivial rfl rfl rfl rfl ?_
    clear hW207;intro w213 hW213
    refine sAFault hW213 trivial rfl ?_
    clear hW213;intro w214 B214 hW214 hN;clear hN
    refine sT 0 hW214 rfl rfl infFault rfl rfl rfl ?_
    clear hW214;intro w215 hW215
    refine St.nil fun a216 h216=>?_
    refine hK212 _ _ ?_
    refine wp_seq_k fun K217 hK217=>?_
    refine rg h216 fun ops=>?_;clear h216 a216
    refine sfFault0 trivial rfl rfl ?_
    refine sbInt 0 hW215 trivial rfl rfl rfl rfl ?_
    refine sne trivial rfl rfl rfl ?_
    refine St.nil fun a218 h218=>?_
    refine hK217 _ _ ?_
    refine fr_cond (t:=126) h218 rfl (fun hb=>?_) (fun hb=>?_)
    ·have h9:¬ ((MBlock.fault m.length q1 x q2 y).1)=0:=bne_iff_ne.1 hb
     have hc219:¬ ((MBlock.fault m.length q1 x q2 y).1)=0:=h9
     clear h9
     clear hb
     refine wp_seq_k fun K220 hK220=>?_
     refine rg h218 fun ops=>?_;clear h218 a218
     refine sS 0 2 Tryz.underlying27 rfl infFault hW215 trivial rfl rfl rfl rfl ?_
     refine sT 2 hW215 rfl rfl infFault rfl rfl rfl ?_
     clear hW215;intro w221 hW221
     refine St.nil fun a222 h222=>?_
     refine hK220 _ _ ?_
     refine wp_ret ?_;with_reducible repeat first | refine of_then_ret ?_ | refine of_block_ret ?_
     have RM:(MFunc.fault m.length q1 x).1≠0→modFault m=MFunc.fault m.length q1 x:=fun hz=>(if_neg (by omega)).trans (by have h9:=firstF_eq (f:=fun f x=>MFunc.fault m.length f x) (j:=0) hx1.out (fun k y hk hy=>by rw [Nat.zero_add];exact hall1 k y hk hy) (by rw [Nat.zero_add];exact hz);rwa [Nat.zero_add] at h9)
     have RC:x.code q1=0:=by have:=hc65.out;have:=hc78.out;exact (if_neg (by omega)).trans ((if_neg (by omega)).trans ((if_neg (by omega)).trans ((if_neg (by omega)).trans ((if_neg (by omega)).trans (rfl)))))
     have EF:MFunc.fault m.length q1 x=MBlock.fault m.length q1 x q2 y:=by
       rw [MFunc.fault_eq,if_pos RC]
       have h9:=firstF_eq (f:=fun b y=>MBlock.fault m.length q1 x b y) (j:=0) hx2.out (fun k y hk hy=>by rw [Nat.zero_add];exact hall2 k y hk hy) (by rw [Nat.zero_add];exact hc219)
       rwa [Nat.zero_add] at h9
     exact ret_box 2 h222 hW221 rfl rfl rfl Tryz.underlying27 rfl infFault ⟨by show Ending.returned (.agg #[.int .i64 ((MBlock.fault m.length q1 x q2 y).1),.int .i64 ((MBlock.fault m.length q1 x q2 y).2)])=_;rw [RM (by rw [EF];exact hc219),EF],hW221.bel⟩
    have h9:((MBlock.fault m.length q1 x q2 y).1)=0:=bne_eq_false_iff_eq.1 hb
    have hc223:Hid (((MBlock.fault m.length q1 x q2 y).1)=0):=h9
    clear h9
    clear hb
    refine wp_skip ?_
    refine hK211 _ _ ?_
    refine rg h218 fun ops=>?_;clear h218 a218
    refine sm trivial rfl rfl ?_
    refine sad (by omega) trivial rfl rfl rfl ?_
    refine sa trivial rfl rfl ?_
    refine St.nil fun a224 h224=>?_
    refine hKL2 _ _ (x.blocks.length - (q2 + 1)) (by omega) ⟨q2 + 1,by omega,rfl,?_,(h224.keep (h224.keep (h224.keep (h224.keep (h224.keep (h224.keep (h224.keep (h224.keep h224.nil (t:=9) rfl) (t:=6) rfl) (t:=5) rfl) (t:=4) rfl) (t:=3) rfl) (t:=2) rfl) (t:=1) rfl) (t:=0) rfl),hW215.tail⟩
    ·intro j z hj hz
     by_cases e:j=q2
     · subst e;rw [hx2.out] at hz;cases hz;exact hc223.out
     · exact hall2 j z (by omega) hz
   have hge2:q2=x.blocks.length:=by have:=of_decide_eq_false hb;omega
   clear hb
   have RC:x.code q1=0:=by have:=hc65.out;have:=hc78.out;exact (if_neg (by omega)).trans ((if_neg (by omega)).trans ((if_neg (by omega)).trans ((if_neg (by omega)).trans ((if_neg (by omega)).trans (rfl)))))
   have NZ1:(MFunc.fault m.length q1 x).1=0:=by
     rw [MFunc.fault_eq,if_pos RC,firstF_zero (fun k y hy=>by rw [Nat.zero_add];exact hall2 k y (by have:=(List.getElem?_eq_some_iff.1 hy).1;omega) hy)]
   refine wp_exit ?_
   refine hK29 _ _ ?_
   refine rg h210 fun ops=>?_;clear h210 a210
   refine sm trivial rfl rfl ?_
   refine sad (by omega) trivial rfl rfl rfl ?_
   refine sa trivial rfl rfl ?_
   refine St.nil fun a225 h225=>?_
   refine hKL1 _ _ (m.length - (q1 + 1)) (by omega) ⟨q1 + 1,by omega,rfl,?_,(h225.keep (h225.keep (h225.keep (h225.keep h225.nil (t:=3) rfl) (t:=2) rfl) (t:=1) rfl) (t:=0) rfl),hW207.tail⟩
   ·intro j z hj hz
    by_cases e:j=q1
    · subst e;rw [hx1.out] at hz;cases hz;exact NZ1
    · exact hall1 j z (by omega) hz
  have hge1:q1=m.length:=by have:=of_decide_eq_false hb;omega
  clear hb
  refine wp_exit ?_
  refine hK22 _ _ ?_
  refine wp_seq_k fun K226 hK226=>?_
  refine rg h28 fun ops=>?_;clear h28 a28
  intro a227 h227
  refine fr_pure (t:=128) (v:=.agg #[.int .i64 0,.int .i64 0]) (w':=w25) h227 rfl rfl rfl (fun K hK=>?_) ?_
  ·go_simp
   exact hK
  clear h227;intro a228 hF228
  refine St.go hF228 ?_;clear hF228 a228
  refine sT 0 hW25 rfl rfl infFault rfl rfl rfl ?_
  clear hW25;intro w229 hW229
  refine St.nil fun a230 h230=>?_
  refine hK226 _ _ ?_
  refine wp_ret ?_;with_reducible repeat first | refine of_then_ret ?_ | refine of_block_ret ?_
  have R:modFault m=(0,0):=(if_neg (by omega)).trans (firstF_zero (fun k x hx=>by rw [Nat.zero_add];exact hall1 k x (by have:=(List.getElem?_eq_some_iff.1 hx).1;omega) hx))
  exact ret_box 0 h230 hW229 rfl rfl rfl Tryz.underlying27 rfl infFault ⟨by show Ending.returned (.agg #[.int .i64 0,.int .i64 0])=_;rw [R],hW229.bel⟩
theorem sameBlock_any {n : Nat} {x y : MBlock n} {b d : BP} {w : World} (hx0 : BIn w All x b) (hy0 : BIn w All y d) (hs0 : x.small) :
    Rd Tryz.prog 26 #[.agg #[.int .i64 x.regs,.slice b.pP x.params.length b.cP,.slice b.pC x.code.length b.cC,.int .i64 x.fin.op,.int .i64 x.fin.a,.int .i64 x.fin.yes.block,.slice b.e.pYR x.fin.yes.regs.length b.e.cYR,.slice b.e.pYA x.fin.yes.args.length b.e.cYA,.int .i64 x.fin.no.block,.slice b.e.pNR x.fin.no.regs.length b.e.cNR,.slice b.e.pNA x.fin.no.args.length b.e.cNA,.slice b.e.pA x.fin.args.length b.e.cA],.agg #[.int .i64 y.regs,.slice d.pP y.params.length d.cP,.slice d.pC y.code.length d.cC,.int .i64 y.fin.op,.int .i64 y.fin.a,.int .i64 y.fin.yes.block,.slice d.e.pYR y.fin.yes.regs.length d.e.cYR,.slice d.e.pYA y.fin.yes.args.length d.e.cYA,.int .i64 y.fin.no.block,.slice d.e.pNR y.fin.no.regs.length d.e.cNR,.slice d.e.pNA y.fin.no.args.length d.e.cNA,.slice d.e.pA y.fin.args.length d.e.cA]] w (.bool (bdec (x=y))):=by
  have hcl:=hs0.1
  have hx:Hid _:=hx0
  have hy:Hid _:=hy0
  have hs:Hid _:=hs0
  clear hx0 hy0 hs0
  refine fr_enter (n:=90) Tryz.func26 rfl rfl rfl ?_
  intro a hF
  have hW:=Wd.start w
  replace hF:Fr 90 a [(0,.agg #[.int .i64 x.regs,.slice b.pP x.params.length b.cP,.slice b.pC x.code.length b.cC,.int .i64 x.fin.op,.int .i64 x.fin.a,.int .i64 x.fin.yes.block,.slice b.e.pYR x.fin.yes.regs.length b.e.cYR,.slice b.e.pYA x.fin.yes.args.length b.e.cYA,.int .i64 x.fin.no.block,.slice b.e.pNR x.fin.no.regs.length b.e.cNR,.slice b.e.pNA x.fin.no.args.length b.e.cNA,.slice b.e.pA x.fin.args.length b.e.cA]),(1,.agg #[.int .i64 y.regs,.slice d.pP y.params.length d.cP,.slice d.pC y.code.length d.cC,.int .i64 y.fin.op,.int .i64 y.fin.a,.int .i64 y.fin.yes.block,.slice d.e.pYR y.fin.yes.regs.length d.e.cYR,.slice d.e.pYA y.fin.yes.args.length d.e.cYA,.int .i64 y.fin.no.block,.slice d.e.pNR y.fin.no.regs.length d.e.cNR,.slice d.e.pNA y.fin.no.args.length d.e.cNA,.slice d.e.pA y.fin.args.length d.e.cA])]:=hF
  refine wp_seq_k fun K1 hK1=>?_
  refine rg hF fun ops=>?_;clear hF a
  refine sB hW trivial rfl rfl ?_
  clear hW;intro w2 B2 hW2 hN;clear hN
  refine sB hW2 trivial rfl rfl ?_
  clear hW2;intro w3 B3 hW3 hN;clear hN
  refine sa trivial rfl rfl ?_
  refine St.nil fun a4 h4=>?_
  refine hK1 _ _ ?_
  refine wp_seq_k fun K5 hK5=>?_
  refine wp_seq_k fun K6 hK6=>?_
  refine fr_region ?_
  intro ops hops
  have hg5:(ops[5]?).bind (fun o:Oper=>o.dst)=some 11:=hops 5
  have hg13:(ops[13]?).bind (fun o:Oper=>o.dst)=some 19:=hops 13
  clear hops
  refine St.go h4 ?_;clear h4 a4
  refine sfBlock0 trivial rfl rfl ?_
  refine sbInt 1 hW3 trivial rfl rfl rfl rfl ?_
  refine sfBlock0 trivial rfl rfl ?_
  refine sbInt 0 hW3 trivial rfl rfl rfl rfl ?_
  refine sne trivial rfl rfl rfl ?_
  refine sm trivial rfl rfl ?_
  intro a7 h7
  rcases Bool.eq_false_or_eq_true (x.regs != y.regs) with hb | hb
  ·rw [hb] at h7
   have h9:¬ x.regs=y.regs:=bne_iff_ne.1 hb
   have hc8:¬ x.regs=y.regs:=h9
   clear h9
   clear hb
   refine St.go h7 ?_;clear h7 a7
   refine so hg5 rfl rfl rfl rfl ?_
   refine so hg5 rfl rfl rfl rfl ?_
   refine so hg5 rfl rfl rfl rfl ?_
   refine so hg5 rfl rfl rfl rfl ?_
   refine so hg5 rfl rfl rfl rfl ?_
   refine so hg5 rfl rfl rfl rfl ?_
   refine sp trivial rfl rfl rfl ?_
   refine sm trivial rfl rfl ?_
   refine so hg13 rfl rfl rfl rfl ?_
   refine so hg13 rfl rfl rfl rfl ?_
   refine so hg13 rfl rfl rfl rfl ?_
   refine so hg13 rfl rfl rfl rfl ?_
   refine so hg13 rfl rfl rfl rfl ?_
   refine so hg13 rfl rfl rfl rfl ?_
   refine so hg13 rfl rfl rfl rfl ?_
   refine sp trivial rfl rfl rfl ?_
   refine St.nil fun a9 h9=>?_
   refine hK6 _ _ ?_
   refine fr_true (t:=27) h9 rfl ?_
   refine wp_seq_k fun K10 hK10=>?_
   refine rg h9 fun ops=>?_;clear h9 a9
   refine sa trivial rfl rfl ?_
   refine St.nil fun a11 h11=>?_
   refine hK10 _ _ ?_
   refine wp_ret ?_;with_reducible repeat first | refine of_then_ret ?_ | refine of_block_ret ?_
   have R:¬ x=y:=fun e=>hc8 (by rw [e])
   exact ret_tmp (t:=4) h11 rfl rfl ⟨by rw [bdec_false R],hW3.bel⟩
  rw [hb] at h7
  have h9:x.regs=y.regs:=bne_eq_false_iff_eq.1 hb
  have hc12:Hid (x.regs=y.regs):=h9
  clear h9
  clear hb
  refine St.go h7 ?_;clear h7 a7
  refine sfBlock1 ⟨_,hg5,rfl,rfl⟩ rfl rfl ?_
  refine sbTypes 1 hW3 ⟨_,hg5,rfl,rfl⟩ rfl rfl rfl rfl ?_
  refine sfBlock1 ⟨_,hg5,rfl,rfl⟩ rfl rfl ?_
  refine sbTypes 0 hW3 ⟨_,hg5,rfl,rfl⟩ rfl rfl rfl rfl ?_
  refine sc_2 cf25 hW3 (sameTypes_any (Lay.below hx.out.params hW3.bel) (Lay.below hy.out.params hW3.bel) hs.out.2.1) ⟨_,hg5,rfl,rfl⟩ rfl rfl rfl ?_
  clear hW3;intro w13 hW13
  refine sn ⟨_,hg5,rfl,rfl⟩ rfl rfl ?_
  refine spf trivial rfl rfl rfl ?_
  refine sm trivial rfl rfl ?_
  intro a14 h14
  rcases Bool.eq_false_or_eq_true (!(bdec (x.params=y.params))) with hb | hb
  ·rw [hb] at h14
   have hb:(bdec (x.params=y.params))=false:=by simpa using hb
   have hc15:¬ (x.params=y.params):=fun h=>by rw [bdec_true h] at hb;cases hb
   clear hb
   refine St.go h14 ?_;clear h14 a14
   refine so hg13 rfl rfl rfl rfl ?_
   refine so hg13 rfl rfl rfl rfl ?_
   refine so hg13 rfl rfl rfl rfl ?_
   refine so hg13 rfl rfl rfl rfl ?_
   refine so hg13 rfl rfl rfl rfl ?_
   refine so hg13 rfl rfl rfl rfl ?_
   refine so hg13 rfl rfl rfl rfl ?_
   refine sp trivial rfl rfl rfl ?_
   refine St.nil fun a16 h16=>?_
   refine hK6 _ _ ?_
   refine fr_true (t:=27) h16 rfl ?_
   refine wp_seq_k fun K17 hK17=>?_
   refine rg h16 fun ops=>?_;clear h16 a16
   refine sa trivial rfl rfl ?_
   refine St.nil fun a18 h18=>?_
   refine hK17 _ _ ?_
   refine wp_ret ?_;with_reducible repeat first | refine of_then_ret ?_ | refine of_block_ret ?_
   have R:¬ x=y:=fun e=>hc15 (by rw [e])
   exact ret_tmp (t:=4) h18 rfl rfl ⟨by rw [bdec_false R],hW13.bel⟩
  rw [hb] at h14
  have hb:(bdec (x.params=y.params))=true:=by simpa using hb
  have hc19:(x.params=y.params):=bdec_iff.1 hb
  clear hb
  refine St.go h14 ?_;clear h14 a14
  refine sfBlock2 ⟨_,hg13,rfl,rfl⟩ rfl rfl ?_
  refine sbInss 1 hW13 ⟨_,hg13,rfl,rfl⟩ rfl rfl rfl rfl ?_
  refine slInss ⟨_,hg13,rfl,rfl⟩ rfl rfl ?_
  refine sfBlock2 ⟨_,hg13,rfl,rfl⟩ rfl rfl ?_
  refine sbInss 0 hW13 ⟨_,hg13,rfl,rfl⟩ rfl rfl rfl rfl ?_
  refine slInss ⟨_,hg13,rfl,rfl⟩ rfl rfl ?_
  refine sne ⟨_,hg13,rfl,rfl⟩ rfl rfl rfl ?_
  refine spf trivial rfl rfl rfl ?_
  refine St.nil fun a20 h20=>?_
  refine hK6 _ _ ?_
  refine fr_cond (t:=27) h20 rfl (fun hb=>?_) (fun hb=>?_)
  ·have h9:¬ x.code.length=y.code.length:=by have h8:=bne_iff_ne.1 hb;omega
   have hlen:¬ x.code.length=y.code.length:=h9
   clear h9
   clear hb
   refine wp_seq_k fun K21 hK21=>?_
   refine rg h20 fun ops=>?_;clear h20 a20
   refine sa trivial rfl rfl ?_
   refine St.nil fun a22 h22=>?_
   refine hK21 _ _ ?_
   refine wp_ret ?_;with_reducible repeat first | refine of_then_ret ?_ | refine of_block_ret ?_
   have R:¬ x=y:=fun e=>hlen (by rw [e])
   exact ret_tmp (t:=4) h22 rfl rfl ⟨by rw [bdec_false R],hW13.bel⟩
  have h9:x.code.length=y.code.length:=by have h8:=bne_eq_false_iff_eq.1 hb;omega
  have hlen:Hid (x.code.length=y.code.length):=h9
  clear h9
  clear hb
  refine wp_skip ?_
  refine hK5 _ _ ?_
  refine wp_seq_k fun K23 hK23=>?_
  refine wp_seq_k fun K24 hK24=>?_
  refine rg h20 fun ops=>?_;clear h20 a20
  refine sa trivial rfl rfl ?_
  refine St.nil fun a25 h25=>?_
  refine hK24 _ _ ?_
  refine wp_block ?_
  refine fr_loop (fun r a w'=>∃ q:Nat,q≤x.code.length∧r=x.code.length - q∧(∀ j,j < q→x.code[j]?=y.code[j]?)∧Fr 90 a [(1,.agg #[.int .i64 y.regs,.slice d.pP y.params.length d.cP,.slice d.pC y.code.length d.cC,.int .i64 y.fin.op,.int .i64 y.fin.a,.int .i64 y.fin.yes.block,.slice d.e.pYR y.fin.yes.regs.length d.e.cYR,.slice d.e.pYA y.fin.yes.args.length d.e.cYA,.int .i64 y.fin.no.block,.slice d.e.pNR y.fin.no.regs.length d.e.cNR,.slice d.e.pNA y.fin.no.args.length d.e.cNA,.slice d.e.pA y.fin.args.length d.e.cA]),(0,.agg #[.int .i64 x.regs,.slice b.pP x.params.length b.cP,.slice b.pC x.code.length b.cC,.int .i64 x.fin.op,.int .i64 x.fin.a,.int .i64 x.fin.yes.block,.slice b.e.pYR x.fin.yes.regs.length b.e.cYR,.slice b.e.pYA x.fin.yes.args.length b.e.cYA,.int .i64 x.fin.no.block,.slice b.e.pNR x.fin.no.regs.length b.e.cNR,.slice b.e.pNA x.fin.no.args.length b.e.cNA,.slice b.e.pA x.fin.args.length b.e.cA]),(2,.pointer (some ⟨B2,0,none⟩)),(3,.pointer (some ⟨B3,0,none⟩)),(4,.bool false),(5,.int .i64 (q:Int))]∧Wd w w' [(B3,#[.int .i64 y.regs,.slice d.pP y.params.length d.cP,.slice d.pC y.code.length d.cC,.int .i64 y.fin.op,.int .i64 y.fin.a,.int .i64 y.fin.yes.block,.slice d.e.pYR y.fin.yes.regs.length d.e.cYR,.slice d.e.pYA y.fin.yes.args.length d.e.cYA,.int .i64 y.fin.no.block,.slice d.e.pNR y.fin.no.regs.length d.e.cNR,.slice d.e.pNA y.fin.no.args.length d.e.cNA,.slice d.e.pA y.fin.args.length d.e.cA],48),(B2,#[.int .i64 x.regs,.slice b.pP x.params.length b.cP,.slice b.pC x.code.length b.cC,.int .i64 x.fin.op,.int .i64 x.fin.a,.int .i64 x.fin.yes.block,.slice b.e.pYR x.fin.yes.regs.length b.e.cYR,.slice b.e.pYA x.fin.yes.args.length b.e.cYA,.int .i64 x.fin.no.block,.slice b.e.pNR x.fin.no.regs.length b.e.cNR,.slice b.e.pNA x.fin.no.args.length b.e.cNA,.slice b.e.pA x.fin.args.length b.e.cA],48)]) (x.code.length) ⟨0,Nat.zero_le _,rfl,(fun j hj=>by omega),(h25.keep (h25.keep (h25.keep (h25.keep (h25.keep (h25.keep h25.nil (t:=5) rfl) (t:=4) rfl) (t:=3) rfl) (t:=2) rfl) (t:=0) rfl) (t:=1) rfl),hW13⟩ ?_
  clear h25 hW13
  rintro r a26 w26 ⟨q,hq,hr,hall,hF26,hW26⟩ KL hKL
  refine wp_seq_k fun K27 hK27=>?_
  refine wp_seq_k fun K28 hK28=>?_
  refine rg hF26 fun ops=>?_;clear hF26 a26
  refine sm trivial rfl rfl ?_
  refine sfBlock2 trivial rfl rfl ?_
  refine sbInss 1 hW26 trivial rfl rfl rfl rfl ?_
  refine slInss trivial rfl rfl ?_
  refine slt trivial rfl rfl rfl ?_
  refine St.nil fun a29 h29=>?_
  refine hK28 _ _ ?_
  refine fr_cond (t:=32) h29 rfl (fun hb=>?_) (fun hb=>?_)
  ·have hlt1:q < x.code.length:=by have:=of_decide_eq_true hb;omega
   have hlt2:q < y.code.length:=by have:=hlen.out;omega
   clear hb
   obtain ⟨z,hx1⟩:∃ v9,(x.code)[q]?=some v9:=⟨_,List.getElem?_eq_getElem hlt1⟩
   obtain ⟨g1,o1,i1,hp1,E1,In1⟩:=ins_at hx.out.code hx1
   replace In1:Hid _:=In1
   replace hp1:Hid _:=hp1
   replace hx1:Hid _:=hx1
   replace E1:Hid _:=E1
   obtain ⟨u,hx2⟩:∃ v9,(y.code)[q]?=some v9:=⟨_,List.getElem?_eq_getElem hlt2⟩
   obtain ⟨g2,o2,i2,hp2,E2,In2⟩:=ins_at hy.out.code hx2
   replace In2:Hid _:=In2
   replace hp2:Hid _:=hp2
   replace hx2:Hid _:=hx2
   replace E2:Hid _:=E2
   refine wp_skip ?_
   refine hK27 _ _ ?_
   refine wp_seq_k fun K30 hK30=>?_
   refine wp_block ?_
   refine wp_seq_k fun K31 hK31=>?_
   have hF32:Fr 90 a29 [(1,.agg #[.int .i64 y.regs,.slice d.pP y.params.length d.cP,.slice d.pC y.code.length d.cC,.int .i64 y.fin.op,.int .i64 y.fin.a,.int .i64 y.fin.yes.block,.slice d.e.pYR y.fin.yes.regs.length d.e.cYR,.slice d.e.pYA y.fin.yes.args.length d.e.cYA,.int .i64 y.fin.no.block,.slice d.e.pNR y.fin.no.regs.length d.e.cNR,.slice d.e.pNA y.fin.no.args.length d.e.cNA,.slice d.e.pA y.fin.args.length d.e.cA]),(0,.agg #[.int .i64 x.regs,.slice b.pP x.params.length b.cP,.slice b.pC x.code.length b.cC,.int .i64 x.fin.op,.int .i64 x.fin.a,.int .i64 x.fin.yes.block,.slice b.e.pYR x.fin.yes.regs.length b.e.cYR,.slice b.e.pYA x.fin.yes.args.length b.e.cYA,.int .i64 x.fin.no.block,.slice b.e.pNR x.fin.no.regs.length b.e.cNR,.slice b.e.pNA x.fin.no.args.length b.e.cNA,.slice b.e.pA x.fin.args.length b.e.cA]),(2,.pointer (some ⟨B2,0,none⟩)),(3,.pointer (some ⟨B3,0,none⟩)),(4,.bool false),(5,.int .i64 (q:Int))]:=(h29.keep (h29.keep (h29.keep (h29.keep (h29.keep (h29.keep h29.nil (t:=5) rfl) (t:=4) rfl) (t:=3) rfl) (t:=2) rfl) (t:=0) rfl) (t:=1) rfl)
   have ho2:a29.tmps.getD 2 undef=.pointer (some ⟨B2,0,none⟩):=h29.sl 2 _ rfl
   have ho5:a29.tmps.getD 5 undef=.int .i64 (q:Int):=h29.sl 5 _ rfl
   have ho3:a29.tmps.getD 3 undef=.pointer (some ⟨B3,0,none⟩):=h29.sl 3 _ rfl
   refine fr_draw_k 12 ([(2,fun v _=>v=.pointer (some ⟨B2,0,none⟩)),(5,fun v _=>v=.int .i64 (q:Int)),(3,fun v _=>v=.pointer (some ⟨B3,0,none⟩)),(35,fun v _=>v=.pointer (some ⟨B2,2,none⟩)),(36,fun v _=>v=.slice b.pC x.code.length b.cC),(37,fun v _=>v=.int .i64 (q:Int)),(38,fun v _=>v=.pointer (some ⟨g1,o1 + q * 8,none⟩)),(39,fun v _=>v=.agg #[.int .i64 z.op,.int .i64 z.a,.int .i64 z.b,.int .i64 z.c,.int .i64 z.k,.int .i64 z.n,.slice i1.pR z.regs.length i1.cR,.slice i1.pA z.args.length i1.cA]),(40,fun v _=>v=.pointer (some ⟨B3,2,none⟩)),(41,fun v _=>v=.slice d.pC y.code.length d.cC),(42,fun v _=>v=.int .i64 (q:Int)),(43,fun v _=>v=.pointer (some ⟨g2,o2 + q * 8,none⟩)),(44,fun v _=>v=.agg #[.int .i64 u.op,.int .i64 u.a,.int .i64 u.b,.int .i64 u.c,.int .i64 u.k,.int .i64 u.n,.slice i2.pR u.regs.length i2.cR,.slice i2.pA u.args.length i2.cA]),(45,fun v _=>v=.bool (bdec (z=u))),(46,fun v _=>v=.bool (!(bdec (z=u))))]:PTab) (fun w'=>Wd w w' [(B3,#[.int .i64 y.regs,.slice d.pP y.params.length d.cP,.slice d.pC y.code.length d.cC,.int .i64 y.fin.op,.int .i64 y.fin.a,.int .i64 y.fin.yes.block,.slice d.e.pYR y.fin.yes.regs.length d.e.cYR,.slice d.e.pYA y.fin.yes.args.length d.e.cYA,.int .i64 y.fin.no.block,.slice d.e.pNR y.fin.no.regs.length d.e.cNR,.slice d.e.pNA y.fin.no.args.length d.e.cNA,.slice d.e.pA y.fin.args.length d.e.cA],48),(B2,#[.int .i64 x.regs,.slice b.pP x.params.length b.cP,.slice b.pC x.code.length b.cC,.int .i64 x.fin.op,.int .i64 x.fin.a,.int .i64 x.fin.yes.block,.slice b.e.pYR x.fin.yes.regs.length b.e.cYR,.slice b.e.pYA x.fin.yes.args.length b.e.cYA,.int .i64 x.fin.no.block,.slice b.e.pNR x.fin.no.regs.length b.e.cNR,.slice b.e.pNA x.fin.no.args.length b.e.cNA,.slice b.e.pA x.fin.args.length b.e.cA],48)]∧Below w26.heap.size w26 w') (fun w w'=>Below w.heap.size w w') (outs:=[2,5,3]) (gs:=[]) (bs:=[true,true,true,true,true,true,true,true,true,true,true,true]) (by kernel_rfl) hF32 rfl (by kernel_rfl) (by kernel_rfl) ?hR ?hG ⟨hW26.drewN 1,drewN_below (m:=1) (Below.refl _ _)⟩⟨ho2,ho5,ho3,trivial⟩ ?hA ?hend
   case hR=>exact ⟨fun _ _ _ _ h=>h,fun _ _ _ _ h=>h,fun _ _ _ _ h=>h,fun _ _ _ _ h=>h,fun _ _ _ _ h=>h,fun _ _ _ _ h=>h,fun _ _ _ _ h=>h,fun _ _ _ _ h=>h,fun _ _ _ _ h=>h,fun _ _ _ _ h=>h,fun _ _ _ _ h=>h,fun _ _ _ _ h=>h,fun _ _ _ _ h=>h,fun _ _ _ _ h=>h,fun _ _ _ _ h=>h,trivial⟩
   case hG=>exact trivial
   case hA =>
    refine ⟨fun a w hW hk K hK=>?_,?_⟩
    · obtain ⟨k0,-⟩:=hk
      have k0:a.tmps.getD 2 undef=.pointer (some ⟨B2,0,none⟩):=k0
      go_simp
      exact hK _ _ (Below.refl _ _) hW rfl
    refine ⟨fun a w hW hk K hK=>?_,?_⟩
    · obtain ⟨k0,-⟩:=hk
      have k0:a.tmps.getD 35 undef=.pointer (some ⟨B2,2,none⟩):=k0
      have c2:w.cell? ⟨B2,2,none⟩=some (.slice b.pC x.code.length b.cC):=cellOf (hW.1.get 1 rfl) 2 _ rfl
      go_simp
      exact hK _ _ (Below.refl _ _) hW rfl
    refine ⟨fun a w hW hk K hK=>?_,?_⟩
    · obtain ⟨k0,-⟩:=hk
      have k0:a.tmps.getD 5 undef=.int .i64 (q:Int):=k0
      go_simp
      exact hK _ _ (Below.refl _ _) hW rfl
    refine ⟨fun a w hW hk K hK=>?_,?_⟩
    · obtain ⟨k0,k1,-⟩:=hk
      have k0:a.tmps.getD 36 undef=.slice b.pC x.code.length b.cC:=k0
      have k1:a.tmps.getD 37 undef=.int .i64 (q:Int):=k1
      have hpq:=hp1.out
      have hk0:(0:Int)≤q:=by omega
      have hk1:(q:Int) < (x.code.length:Int):=by omega
      go_simp
      exact hK _ _ (Below.refl _ _) hW rfl
    refine ⟨fun a w hW hk K hK=>?_,?_⟩
    · obtain ⟨k0,-⟩:=hk
      have k0:a.tmps.getD 38 undef=.pointer (some ⟨g1,o1 + q * 8,none⟩):=k0
      have d0:w.cell? ⟨g1,o1 + q * 8,none⟩=some (.int .i64 z.op):=bel_cell hW.1.bel (E1.out 0 _ rfl)
      have d1:w.cell? ⟨g1,o1 + q * 8 + 1,none⟩=some (.int .i64 z.a):=bel_cell hW.1.bel (E1.out 1 _ rfl)
      have d2:w.cell? ⟨g1,o1 + q * 8 + 2,none⟩=some (.int .i64 z.b):=bel_cell hW.1.bel (E1.out 2 _ rfl)
      have d3:w.cell? ⟨g1,o1 + q * 8 + 3,none⟩=some (.int .i64 z.c):=bel_cell hW.1.bel (E1.out 3 _ rfl)
      have d4:w.cell? ⟨g1,o1 + q * 8 + 4,none⟩=some (.int .i64 z.k):=bel_cell hW.1.bel (E1.out 4 _ rfl)
      have d5:w.cell? ⟨g1,o1 + q * 8 + 5,none⟩=some (.int .i64 z.n):=bel_cell hW.1.bel (E1.out 5 _ rfl)
      have d6:w.cell? ⟨g1,o1 + q * 8 + 6,none⟩=some (.slice i1.pR z.regs.length i1.cR):=bel_cell hW.1.bel (E1.out 6 _ rfl)
      have d7:w.cell? ⟨g1,o1 + q * 8 + 7,none⟩=some (.slice i1.pA z.args.length i1.cA):=bel_cell hW.1.bel (E1.out 7 _ rfl)
      go_simp
      exact hK _ _ (Below.refl _ _) hW rfl
    refine ⟨fun a w hW hk K hK=>?_,?_⟩
    · obtain ⟨k0,-⟩:=hk
      have k0:a.tmps.getD 3 undef=.pointer (some ⟨B3,0,none⟩):=k0
      go_simp
      exact hK _ _ (Below.refl _ _) hW rfl
    refine ⟨fun a w hW hk K hK=>?_,?_⟩
    · obtain ⟨k0,-⟩:=hk
      have k0:a.tmps.getD 40 undef=.pointer (some ⟨B3,2,none⟩):=k0
      have c2:w.cell? ⟨B3,2,none⟩=some (.slice d.pC y.code.length d.cC):=cellOf (hW.1.get 0 rfl) 2 _ rfl
      go_simp
      exact hK _ _ (Below.refl _ _) hW rfl
    refine ⟨fun a w hW hk K hK=>?_,?_⟩
    · obtain ⟨k0,-⟩:=hk
      have k0:a.tmps.getD 5 undef=.int .i64 (q:Int):=k0
      go_simp
      exact hK _ _ (Below.refl _ _) hW rfl
    refine ⟨fun a w hW hk K hK=>?_,?_⟩
    · obtain ⟨k0,k1,-⟩:=hk
      have k0:a.tmps.getD 41 undef=.slice d.pC y.code.length d.cC:=k0
      have k1:a.tmps.getD 42 undef=.int .i64 (q:Int):=k1
      have hpq:=hp2.out
      have hk0:(0:Int)≤q:=by omega
      have hk1:(q:Int) < (y.code.length:Int):=by omega
      go_simp
      exact hK _ _ (Below.refl _ _) hW rfl
    refine ⟨fun a w hW hk K hK=>?_,?_⟩
    · obtain ⟨k0,-⟩:=hk
      have k0:a.tmps.getD 43 undef=.pointer (some ⟨g2,o2 + q * 8,none⟩):=k0
      have d0:w.cell? ⟨g2,o2 + q * 8,none⟩=some (.int .i64 u.op):=bel_cell hW.1.bel (E2.out 0 _ rfl)
      have d1:w.cell? ⟨g2,o2 + q * 8 + 1,none⟩=some (.int .i64 u.a):=bel_cell hW.1.bel (E2.out 1 _ rfl)
      have d2:w.cell? ⟨g2,o2 + q * 8 + 2,none⟩=some (.int .i64 u.b):=bel_cell hW.1.bel (E2.out 2 _ rfl)
      have d3:w.cell? ⟨g2,o2 + q * 8 + 3,none⟩=some (.int .i64 u.c):=bel_cell hW.1.bel (E2.out 3 _ rfl)
      have d4:w.cell? ⟨g2,o2 + q * 8 + 4,none⟩=some (.int .i64 u.k):=bel_cell hW.1.bel (E2.out 4 _ rfl)
      have d5:w.cell? ⟨g2,o2 + q * 8 + 5,none⟩=some (.int .i64 u.n):=bel_cell hW.1.bel (E2.out 5 _ rfl)
      have d6:w.cell? ⟨g2,o2 + q * 8 + 6,none⟩=some (.slice i2.pR u.regs.length i2.cR):=bel_cell hW.1.bel (E2.out 6 _ rfl)
      have d7:w.cell? ⟨g2,o2 + q * 8 + 7,none⟩=some (.slice i2.pA u.args.length i2.cA):=bel_cell hW.1.bel (E2.out 7 _ rfl)
      go_simp
      exact hK _ _ (Below.refl _ _) hW rfl
    refine ⟨fun a w hW hk K hK=>?_,?_⟩
    · obtain ⟨k0,k1,-⟩:=hk
      have k0:a.tmps.getD 39 undef=.agg #[.int .i64 z.op,.int .i64 z.a,.int .i64 z.b,.int .i64 z.c,.int .i64 z.k,.int .i64 z.n,.slice i1.pR z.regs.length i1.cR,.slice i1.pA z.args.length i1.cA]:=k0
      have k1:a.tmps.getD 44 undef=.agg #[.int .i64 u.op,.int .i64 u.a,.int .i64 u.b,.int .i64 u.c,.int .i64 u.k,.int .i64 u.n,.slice i2.pR u.regs.length i2.cR,.slice i2.pA u.args.length i2.cA]:=k1
      have hC:Rd Tryz.prog 51 #[.agg #[.int .i64 z.op,.int .i64 z.a,.int .i64 z.b,.int .i64 z.c,.int .i64 z.k,.int .i64 z.n,.slice i1.pR z.regs.length i1.cR,.slice i1.pA z.args.length i1.cA],.agg #[.int .i64 u.op,.int .i64 u.a,.int .i64 u.b,.int .i64 u.c,.int .i64 u.k,.int .i64 u.n,.slice i2.pR u.regs.length i2.cR,.slice i2.pA u.args.length i2.cA]] w (.bool (bdec (z=u))):=sameIns_any (In1.out.below hW.1.bel) (In2.out.below hW.1.bel) (hs.out.2.2.2 _ (List.mem_of_getElem? hx1.out))
      go_simp
      refine hC.mono ?_
      rintro e w9 ⟨rfl,hb⟩
      exact hK _ _ hb ⟨hW.1.below hb,Below.andThen hW.2 hb⟩ rfl
    refine ⟨fun a w hW hk K hK=>?_,?_⟩
    · obtain ⟨k0,-⟩:=hk
      have k0:a.tmps.getD 45 undef=.bool (bdec (z=u)):=k0
      go_simp
      exact hK _ _ (Below.refl _ _) hW rfl
    trivial
   case hend =>
    intro ops a33 w33 hWD hE hFD
    have hd46:a33.tmps.getD 46 undef=.bool (!(bdec (z=u))):=hE 46 rfl
    have hF33:Fr 90 a33 [(46,.bool (!(bdec (z=u)))),(1,.agg #[.int .i64 y.regs,.slice d.pP y.params.length d.cP,.slice d.pC y.code.length d.cC,.int .i64 y.fin.op,.int .i64 y.fin.a,.int .i64 y.fin.yes.block,.slice d.e.pYR y.fin.yes.regs.length d.e.cYR,.slice d.e.pYA y.fin.yes.args.length d.e.cYA,.int .i64 y.fin.no.block,.slice d.e.pNR y.fin.no.regs.length d.e.cNR,.slice d.e.pNA y.fin.no.args.length d.e.cNA,.slice d.e.pA y.fin.args.length d.e.cA]),(0,.agg #[.int .i64 x.regs,.slice b.pP x.params.length b.cP,.slice b.pC x.code.length b.cC,.int .i64 x.fin.op,.int .i64 x.fin.a,.int .i64 x.fin.yes.block,.slice b.e.pYR x.fin.yes.regs.length b.e.cYR,.slice b.e.pYA x.fin.yes.args.length b.e.cYA,.int .i64 x.fin.no.block,.slice b.e.pNR x.fin.no.regs.length b.e.cNR,.slice b.e.pNA x.fin.no.args.length b.e.cNA,.slice b.e.pA x.fin.args.length b.e.cA]),(2,.pointer (some ⟨B2,0,none⟩)),(3,.pointer (some ⟨B3,0,none⟩)),(4,.bool false),(5,.int .i64 (q:Int))]:=(hFD.cons hd46)
    clear hd46
    have hW33:Wd w w33 [(B3,#[.int .i64 y.regs,.slice d.pP y.params.length d.cP,.slice d.pC y.code.length d.cC,.int .i64 y.fin.op,.int .i64 y.fin.a,.int .i64 y.fin.yes.block,.slice d.e.pYR y.fin.yes.regs.length d.e.cYR,.slice d.e.pYA y.fin.yes.args.length d.e.cYA,.int .i64 y.fin.no.block,.slice d.e.pNR y.fin.no.regs.length d.e.cNR,.slice d.e.pNA y.fin.no.args.length d.e.cNA,.slice d.e.pA y.fin.args.length d.e.cA],48),(B2,#[.int .i64 x.regs,.slice b.pP x.params.length b.cP,.slice b.pC x.code.length b.cC,.int .i64 x.fin.op,.int .i64 x.fin.a,.int .i64 x.fin.yes.block,.slice b.e.pYR x.fin.yes.regs.length b.e.cYR,.slice b.e.pYA x.fin.yes.args.length b.e.cYA,.int .i64 x.fin.no.block,.slice b.e.pNR x.fin.no.regs.length b.e.cNR,.slice b.e.pNA x.fin.no.args.length b.e.cNA,.slice b.e.pA x.fin.args.length b.e.cA],48)]:=hWD.1
    clear hFD hWD hE hF32 h29
    clear hW26
    refine wpList_nil ?_
    refine hK31 _ _ ?_
    refine fr_cond (t:=46) hF33 rfl (fun hb=>?_) (fun hb=>?_)
    ·have hb:(bdec (z=u))=false:=by simpa using hb
     have hel:¬ (z=u):=fun h=>by rw [bdec_true h] at hb;cases hb
     clear hb
     refine wp_seq_k fun K34 hK34=>?_
     refine rg hF33 fun ops=>?_;clear hF33 a33
     refine sa trivial rfl rfl ?_
     refine St.nil fun a35 h35=>?_
     refine hK34 _ _ ?_
     refine wp_ret ?_;with_reducible repeat first | refine of_then_ret ?_ | refine of_block_ret ?_
     have R:¬ x=y:=by
       intro e
       have h1:=hx1.out
       rw [e,hx2.out] at h1
       exact hel (Option.some.inj h1).symm
     exact ret_tmp (t:=4) h35 rfl rfl ⟨by rw [bdec_false R],hW33.bel⟩
    have hb:(bdec (z=u))=true:=by simpa using hb
    have hel:(z=u):=bdec_iff.1 hb
    clear hb
    refine wp_skip ?_
    refine hK30 _ _ ?_
    refine rg hF33 fun ops=>?_;clear hF33 a33
    refine sm trivial rfl rfl ?_
    refine sad (by omega) trivial rfl rfl rfl ?_
    refine sa trivial rfl rfl ?_
    refine St.nil fun a36 h36=>?_
    refine hKL _ _ (x.code.length - (q + 1)) (by omega) ⟨q + 1,by omega,rfl,?_,(h36.keep (h36.keep (h36.keep (h36.keep (h36.keep (h36.keep h36.nil (t:=5) rfl) (t:=4) rfl) (t:=3) rfl) (t:=2) rfl) (t:=0) rfl) (t:=1) rfl),hW33⟩
    ·intro j hj
     by_cases e:j=q
     · subst e;rw [hx1.out,hx2.out,hel]
     · exact hall j (by omega)
  have hge:q=x.code.length:=by have:=of_decide_eq_false hb;omega
  clear hb
  refine wp_exit ?_
  refine hK23 _ _ ?_
  refine wp_seq_k fun K37 hK37=>?_
  refine fr_region ?_
  intro ops hops
  have hg7:(ops[7]?).bind (fun o:Oper=>o.dst)=some 54:=hops 7
  have hg16:(ops[16]?).bind (fun o:Oper=>o.dst)=some 63:=hops 16
  have hg25:(ops[25]?).bind (fun o:Oper=>o.dst)=some 72:=hops 25
  have hg34:(ops[34]?).bind (fun o:Oper=>o.dst)=some 81:=hops 34
  clear hops
  refine St.go h29 ?_;clear h29 a29
  refine sfBlock3 trivial rfl rfl ?_
  refine sfEnd0 trivial rfl rfl ?_
  refine sbInt 1 hW26 trivial rfl rfl rfl rfl ?_
  refine sfBlock3 trivial rfl rfl ?_
  refine sfEnd0 trivial rfl rfl ?_
  refine sbInt 0 hW26 trivial rfl rfl rfl rfl ?_
  refine seq trivial rfl rfl rfl ?_
  refine sm trivial rfl rfl ?_
  intro a38 h38
  rcases Bool.eq_false_or_eq_true (x.fin.op == y.fin.op) with hb | hb
  ·rw [hb] at h38
   have h9:x.fin.op=y.fin.op:=eq_of_beq hb
   have hc39:Hid (x.fin.op=y.fin.op):=h9
   clear h9
   clear hb
   refine St.go h38 ?_;clear h38 a38
   refine sfBlock3 ⟨_,hg7,rfl,rfl⟩ rfl rfl ?_
   refine sfEnd1 ⟨_,hg7,rfl,rfl⟩ rfl rfl ?_
   refine sbInt 1 hW26 ⟨_,hg7,rfl,rfl⟩ rfl rfl rfl rfl ?_
   refine sfBlock3 ⟨_,hg7,rfl,rfl⟩ rfl rfl ?_
   refine sfEnd1 ⟨_,hg7,rfl,rfl⟩ rfl rfl ?_
   refine sbInt 0 hW26 ⟨_,hg7,rfl,rfl⟩ rfl rfl rfl rfl ?_
   refine seq ⟨_,hg7,rfl,rfl⟩ rfl rfl rfl ?_
   refine sp trivial rfl rfl rfl ?_
   refine sm trivial rfl rfl ?_
   intro a40 h40
   rcases Bool.eq_false_or_eq_true (x.fin.a == y.fin.a) with hb | hb
   ·rw [hb] at h40
    have h9:x.fin.a=y.fin.a:=eq_of_beq hb
    have hc41:Hid (x.fin.a=y.fin.a):=h9
    clear h9
    clear hb
    refine St.go h40 ?_;clear h40 a40
    refine sfBlock3 ⟨_,hg16,rfl,rfl⟩ rfl rfl ?_
    refine sfEnd2 ⟨_,hg16,rfl,rfl⟩ rfl rfl ?_
    refine sS 1 3 Tryz.underlying44 rfl infTo hW26 ⟨_,hg16,rfl,rfl⟩ rfl rfl rfl rfl ?_
    refine sfBlock3 ⟨_,hg16,rfl,rfl⟩ rfl rfl ?_
    refine sfEnd2 ⟨_,hg16,rfl,rfl⟩ rfl rfl ?_
    refine sS 0 3 Tryz.underlying44 rfl infTo hW26 ⟨_,hg16,rfl,rfl⟩ rfl rfl rfl rfl ?_
    refine sc_2 cf52 hW26 (sameTo_any (hx.out.fin.yes.below hW26.bel) (hy.out.fin.yes.below hW26.bel) hs.out.2.2.1.1) ⟨_,hg16,rfl,rfl⟩ rfl rfl rfl ?_
    clear hW26;intro w42 hW42
    refine sp trivial rfl rfl rfl ?_
    refine sm trivial rfl rfl ?_
    intro a43 h43
    rcases Bool.eq_false_or_eq_true (bdec (x.fin.yes=y.fin.yes)) with hb | hb
    ·rw [hb] at h43
     have hc44:(x.fin.yes=y.fin.yes):=bdec_iff.1 hb
     clear hb
     refine St.go h43 ?_;clear h43 a43
     refine sfBlock3 ⟨_,hg25,rfl,rfl⟩ rfl rfl ?_
     refine sfEnd3 ⟨_,hg25,rfl,rfl⟩ rfl rfl ?_
     refine sS 1 3 Tryz.underlying44 rfl infTo hW42 ⟨_,hg25,rfl,rfl⟩ rfl rfl rfl rfl ?_
     refine sfBlock3 ⟨_,hg25,rfl,rfl⟩ rfl rfl ?_
     refine sfEnd3 ⟨_,hg25,rfl,rfl⟩ rfl rfl ?_
     refine sS 0 3 Tryz.underlying44 rfl infTo hW42 ⟨_,hg25,rfl,rfl⟩ rfl rfl rfl rfl ?_
     refine sc_2 cf52 hW42 (sameTo_any (hx.out.fin.no.below hW42.bel) (hy.out.fin.no.below hW42.bel) hs.out.2.2.1.2.1) ⟨_,hg25,rfl,rfl⟩ rfl rfl rfl ?_
     clear hW42;intro w45 hW45
     refine sp trivial rfl rfl rfl ?_
     refine sm trivial rfl rfl ?_
     intro a46 h46
     rcases Bool.eq_false_or_eq_true (bdec (x.fin.no=y.fin.no)) with hb | hb
     ·rw [hb] at h46
      have hc47:(x.fin.no=y.fin.no):=bdec_iff.1 hb
      clear hb
      refine St.go h46 ?_;clear h46 a46
      refine sfBlock3 ⟨_,hg34,rfl,rfl⟩ rfl rfl ?_
      refine sfEnd4 ⟨_,hg34,rfl,rfl⟩ rfl rfl ?_
      refine sbInts 1 hW45 ⟨_,hg34,rfl,rfl⟩ rfl rfl rfl rfl ?_
      refine sfBlock3 ⟨_,hg34,rfl,rfl⟩ rfl rfl ?_
      refine sfEnd4 ⟨_,hg34,rfl,rfl⟩ rfl rfl ?_
      refine sbInts 0 hW45 ⟨_,hg34,rfl,rfl⟩ rfl rfl rfl rfl ?_
      refine sc_2 cf53 hW45 (sameInts_any x.fin.args y.fin.args b.e.pA d.e.pA b.e.cA d.e.cA w45 (Lay.below hx.out.fin.args hW45.bel) (Lay.below hy.out.fin.args hW45.bel) (by have:=hs.out.2.2.1.2.2;omega)) ⟨_,hg34,rfl,rfl⟩ rfl rfl rfl ?_
      clear hW45;intro w48 hW48
      refine sp trivial rfl rfl rfl ?_
      refine sa trivial rfl rfl ?_
      refine St.nil fun a49 h49=>?_
      refine hK37 _ _ ?_
      refine wp_ret ?_;with_reducible repeat first | refine of_then_ret ?_ | refine of_block_ret ?_
      have RC:x.code=y.code:=by
        have:=hlen.out
        refine List.ext_getElem? fun i=>?_
        by_cases hi:i < q
        · exact hall i hi
        · rw [List.getElem?_eq_none (by omega),List.getElem?_eq_none (by omega)]
      have R:x.fin.args=y.fin.args ↔ x=y:=⟨fun h=>MBlock.eq_of hc12.out hc19 RC (MEnd.eq_of hc39.out hc41.out hc44 hc47 h),fun e=>by rw [e]⟩
      exact ret_tmp (t:=4) h49 rfl rfl ⟨by rw [bdec_congr R],hW48.bel⟩
     rw [hb] at h46
     have hc50:¬ (x.fin.no=y.fin.no):=fun h=>by rw [bdec_true h] at hb;cases hb
     clear hb
     refine St.go h46 ?_;clear h46 a46
     refine so hg34 rfl rfl rfl rfl ?_
     refine so hg34 rfl rfl rfl rfl ?_
     refine so hg34 rfl rfl rfl rfl ?_
     refine so hg34 rfl rfl rfl rfl ?_
     refine so hg34 rfl rfl rfl rfl ?_
     refine so hg34 rfl rfl rfl rfl ?_
     refine so hg34 rfl rfl rfl rfl ?_
     refine spf trivial rfl rfl rfl ?_
     refine sa trivial rfl rfl ?_
     refine St.nil fun a51 h51=>?_
     refine hK37 _ _ ?_
     refine wp_ret ?_;with_reducible repeat first | refine of_then_ret ?_ | refine of_block_ret ?_
     have R:¬ x=y:=fun e=>hc50 (by rw [e])
     exact ret_tmp (t:=4) h51 rfl rfl ⟨by rw [bdec_false R],hW45.bel⟩
    rw [hb] at h43
    have hc52:¬ (x.fin.yes=y.fin.yes):=fun h=>by rw [bdec_true h] at hb;cases hb
    clear hb
    refine St.go h43 ?_;clear h43 a43
    refine so hg25 rfl rfl rfl rfl ?_
    refine so hg25 rfl rfl rfl rfl ?_
    refine so hg25 rfl rfl rfl rfl ?_
    refine so hg25 rfl rfl rfl rfl ?_
    refine so hg25 rfl rfl rfl rfl ?_
    refine so hg25 rfl rfl rfl rfl ?_
    refine so hg25 rfl rfl rfl rfl ?_
    refine spf trivial rfl rfl rfl ?_
    refine sm trivial rfl rfl ?_
    refine so hg34 rfl rfl rfl rfl ?_
    refine so hg34 rfl rfl rfl rfl ?_
    refine so hg34 rfl rfl rfl rfl ?_
    refine so hg34 rfl rfl rfl rfl ?_
    refine so hg34 rfl rfl rfl rfl ?_
    refine so hg34 rfl rfl rfl rfl ?_
    refine so hg34 rfl rfl rfl rfl ?_
    refine spf trivial rfl rfl rfl ?_
    refine sa trivial rfl rfl ?_
    refine St.nil fun a53 h53=>?_
    refine hK37 _ _ ?_
    refine wp_ret ?_;with_reducible repeat first | refine of_then_ret ?_ | refine of_block_ret ?_
    have R:¬ x=y:=fun e=>hc52 (by rw [e])
    exact ret_tmp (t:=4) h53 rfl rfl ⟨by rw [bdec_false R],hW42.bel⟩
   rw [hb] at h40
   have h9:¬ x.fin.a=y.fin.a:=ne_of_beq_false hb
   have hc54:¬ x.fin.a=y.fin.a:=h9
   clear h9
   clear hb
   refine St.go h40 ?_;clear h40 a40
   refine so hg16 rfl rfl rfl rfl ?_
   refine so hg16 rfl rfl rfl rfl ?_
   refine so hg16 rfl rfl rfl rfl ?_
   refine so hg16 rfl rfl rfl rfl ?_
   refine so hg16 rfl rfl rfl rfl ?_
   refine so hg16 rfl rfl rfl rfl ?_
   refine so hg16 rfl rfl rfl rfl ?_
   refine spf trivial rfl rfl rfl ?_
   refine sm trivial rfl rfl ?_
   refine so hg25 rfl rfl rfl rfl ?_
   refine so hg25 rfl rfl rfl rfl ?_
   refine so hg25 rfl rfl rfl rfl ?_
   refine so hg25 rfl rfl rfl rfl ?_
   refine so hg25 rfl rfl rfl rfl ?_
   refine so hg25 rfl rfl rfl rfl ?_
   refine so hg25 rfl rfl rfl rfl ?_
   refine spf trivial rfl rfl rfl ?_
   refine sm trivial rfl rfl ?_
   refine so hg34 rfl rfl rfl rfl ?_
   refine so hg34 rfl rfl rfl rfl ?_
   refine so hg34 rfl rfl rfl rfl ?_
   refine so hg34 rfl rfl rfl rfl ?_
   refine so hg34 rfl rfl rfl rfl ?_
   refine so hg34 rfl rfl rfl rfl ?_
   refine so hg34 rfl rfl rfl rfl ?_
   refine spf trivial rfl rfl rfl ?_
   refine sa trivial rfl rfl ?_
   refine St.nil fun a55 h55=>?_
   refine hK37 _ _ ?_
   refine wp_ret ?_;with_reducible repeat first | refine of_then_ret ?_ | refine of_block_ret ?_
   have R:¬ x=y:=fun e=>hc54 (by rw [e])
   exact ret_tmp (t:=4) h55 rfl rfl ⟨by rw [bdec_false R],hW26.bel⟩
  rw [hb] at h38
  have h9:¬ x.fin.op=y.fin.op:=ne_of_beq_false hb
  have hc56:¬ x.fin.op=y.fin.op:=h9
  clear h9
  clear hb
  refine St.go h38 ?_;clear h38 a38
  refine so hg7 rfl rfl rfl rfl ?_
  refine so hg7 rfl rfl rfl rfl ?_
  refine so hg7 rfl rfl rfl rfl ?_
  refine so hg7 rfl rfl rfl rfl ?_
  refine so hg7 rfl rfl rfl rfl ?_
  refine so hg7 rfl rfl rfl rfl ?_
  refine so hg7 rfl rfl rfl rfl ?_
  refine spf trivial rfl rfl rfl ?_
  refine sm trivial rfl rfl ?_
  refine so hg16 rfl rfl rfl rfl ?_
  refine so hg16 rfl rfl rfl rfl ?_
  refine so hg16 rfl rfl rfl rfl ?_
  refine so hg16 rfl rfl rfl rfl ?_
  refine so hg16 rfl rfl rfl rfl ?_
  refine so hg16 rfl rfl rfl rfl ?_
  refine so hg16 rfl rfl rfl rfl ?_
  refine spf trivial rfl rfl rfl ?_
  refine sm trivial rfl rfl ?_
  refine so hg25 rfl rfl rfl rfl ?_
  refine so hg25 rfl rfl rfl rfl ?_
  refine so hg25 rfl rfl rfl rfl ?_
  refine so hg25 rfl rfl rfl rfl ?_
  refine so hg25 rfl rfl rfl rfl ?_
  refine so hg25 rfl rfl rfl rfl ?_
  refine so hg25 rfl rfl rfl rfl ?_
  refine spf trivial rfl rfl rfl ?_
  refine sm trivial rfl rfl ?_
  refine so hg34 rfl rfl rfl rfl ?_
  refine so hg34 rfl rfl rfl rfl ?_
  refine so hg34 rfl rfl rfl rfl ?_
  refine so hg34 rfl rfl rfl rfl ?_
  refine so hg34 rfl rfl rfl rfl ?_
  refine so hg34 rfl rfl rfl rfl ?_
  refine so hg34 rfl rfl rfl rfl ?_
  refine spf trivial rfl rfl rfl ?_
  refine sa trivial rfl rfl ?_
  refine St.nil fun a57 h57=>?_
  refine hK37 _ _ ?_
  refine wp_ret ?_;with_reducible repeat first | refine of_then_ret ?_ | refine of_block_ret ?_
  have R:¬ x=y:=fun e=>hc56 (by rw [e])
  exact ret_tmp (t:=4) h57 rfl rfl ⟨by rw [bdec_false R],hW26.bel⟩
end Go.Proofs.YtjodmledadbgeacGreatDoor
namespace Go.Proofs.YtjodmledadbgeacGreatDoor
open Go.RowKit
set_option linter.unusedVariables false
section
variable {P : Program} {Q : Exit → Act → World → Prop}
def waits1 (o : Oper) (j : Nat) : Bool := o.after.any fun e => Region.binds .any e && e.on == j
theorem waits1_at {o : Oper} {j : Nat} (h : waits1 o j = true) : ∃ e ∈ o.after, Region.binds .any e = true ∧ e.on = j := by
  obtain ⟨q,hq,he⟩:=Array.any_eq_true.1 h
  simp only [Bool.and_eq_true,beq_iff_eq] at he
  exact ⟨_,Array.getElem_mem hq,he.1,he.2⟩
end
end Go.Proofs.YtjodmledadbgeacGreatDoor
namespace Go.Proofs.YtjodmledadbgeacGreatDoor
open Go.ChangeShapes Go.WideShapes Go.ChangeAt Go.RowKit
set_option linter.unusedVariables false
def Keep1 (B : Nat) (w w' : World) : Prop := ∀ k, k ≠ B → w'.heap[k]? = w.heap[k]?
theorem keep1_setCells (w : World) (B j : Nat) (vs : List Value) : Keep1 B w (w.setCells B j vs) := fun k hk => setCells_other hk vs j w
end Go.Proofs.YtjodmledadbgeacGreatDoor
namespace Go.Proofs.YtjodmledadbgeacGreatDoor
open Go.RowKit
set_option linter.unusedVariables false
theorem blk_setCells {B : Nat} {t : TypeId} : ∀ (vs : List Value) (w : World) (c : Array Value) (j : Nat), Blk w B c t → j + vs.length ≤ c.size → Blk (w.setCells B j vs) B (spliced c j vs) t
  | [],w,c,j,h,hs=>by
    have:spliced c j []=c:=by unfold spliced;simp
    rw [this];exact h
  | v :: vs,w,c,j,h,hs=>by
    have:=blk_setCells vs (w.setCell ⟨B,j,none⟩ v) (c.setIfInBounds j v) (j + 1) (blockSet h j v) (by simp at hs ⊢;omega)
    rw [spliced_cons _ _ _ _ hs] at this
    exact this
theorem below_setCells {B b : Nat} (hb : B ≤ b) : ∀ (vs : List Value) (w w0 : World) (j : Nat), Below B w0 w → Below B w0 (w.setCells b j vs)
  | [],w,w0,j,h=>h
  | v :: vs,w,w0,j,h=>below_setCells hb vs _ _ _ (h.setCell hb v)
end Go.Proofs.YtjodmledadbgeacGreatDoor
namespace Go.Proofs.YtjodmledadbgeacGreatDoor
open Go.RowKit
set_option linter.unusedSimpArgs false
set_option linter.unusedVariables false
section
variable {P : Program} {Q : Exit → Act → World → Prop}
def Closed (l : List Oper) (S : Nat → Bool) : Prop := ∀ (j : Nat) (o : Oper), l[j]? = some o → S j = true → ∀ e ∈ o.after, Region.binds .any e = true → S e.on = true
def Deps (o : Oper) (S : Nat → Bool) : Prop := ∀ e ∈ o.after, Region.binds .any e = true → S e.on = true
theorem Deps.at {o : Oper} {S : Nat → Bool} (h : Deps o S) (j : Nat) (hw : waits1 o j = true) : S j = true := by
  obtain ⟨e,he,hb,rfl⟩:=waits1_at hw
  exact h e he hb
def plus (i : Nat) (S : Nat → Bool) : Nat → Bool := fun j => j == i || S j
def StepsOk (P : Program) (l : List Oper) (I : (Nat → Bool) → Act → World → Prop) : Nat → List Oper → Prop
  | _,[]=>True
  | i,o :: r=>(∀ (S:Nat→Bool) (a:Act) (w:World),S i=false→Deps o S→Closed l S→I S a w→∀ K:Act→World→Prop,(∀ a' w',I (plus i S) a' w'→K a' w')→o.wp P a w K (fun _ _ _=>False))∧StepsOk P l I (i + 1) r
theorem steps_at {l : List Oper} {I : (Nat → Bool) → Act → World → Prop} : ∀ (r : List Oper) (k i : Nat) (o : Oper), StepsOk P l I k r → r[i]? = some o →
    ∀ (S:Nat→Bool) (a:Act) (w:World),S (k + i)=false→Deps o S→Closed l S→I S a w→∀ K:Act→World→Prop,(∀ a' w',I (plus (k + i) S) a' w'→K a' w')→o.wp P a w K (fun _ _ _=>False)
  | [],_,_,_,_,h=>by simp at h
  | x :: r,k,0,o,h,ho=>by simp at ho;subst ho;exact h.1
  | x :: r,k,i + 1,o,h,ho=>by
    simp at ho
    have:=steps_at r (k + 1) i o h.2 ho
    rwa [show k + 1 + i=k + (i + 1) by omega] at this
theorem wpAny_inv {l : List Oper} (hb : backB 0 l = true) (hg : (l.all fun o => o.guard.isNone) = true) (I : (Nat → Bool) → Act → World → Prop) (hst : StepsOk P l I 0 l)
    (hend:∀ S a w,(∀ j,j < l.length→S j=true)→I S a w→Q .normal a w) :
    ∀ (fuel:Nat) (listed:Array Bool) (a:Act) (w:World),listed.size=l.length→(listed.toList.filter (· == false)).length≤fuel→Closed l (fun j=>listed.getD j false)→I (fun j=>listed.getD j false) a w →
      wpAny P .any l.toArray Q fuel listed a w:=by
  have fin:∀ (listed:Array Bool) (a:Act) (w:World),listed.size=l.length→Region.ready .any l.toArray listed=[]→I (fun j=>listed.getD j false) a w→Q .normal a w:=by
    intro listed a w hs hr hI
    refine hend _ a w ?_ hI
    intro j
    induction j using Nat.strongRecOn with
    | _ j ih =>
      intro hj
      cases hc:listed.getD j false with
      | true=>rfl
      | false =>
        exfalso
        have hj':j < listed.size:=by omega
        have hnt:listed.getD j true=false:=by simp [Array.getD,hj'] at hc ⊢;exact hc
        have:j ∈ Region.ready .any l.toArray listed:=ready_mem.2 ⟨by simpa using hj,hnt,l[j],by simp [hj],fun e he hbd=>by
          have:=back_at l 0 j l[j] hb (by simp [hj]) e he hbd
          exact ih e.on (by omega) (by omega)⟩
        rw [hr] at this;cases this
  intro fuel
  induction fuel with
  | zero =>
    intro listed a w hs hf hcl hI
    have hr:Region.ready .any l.toArray listed=[]:=by
      rw [List.eq_nil_iff_forall_not_mem]
      intro i hi
      obtain ⟨h1,h2,_⟩:=ready_mem.1 hi
      have hlt:i < l.length:=by simpa using h1
      have:listed[i]'(by omega)=false:=by
        simp [Array.getD,show i < listed.size by omega] at h2;exact h2
      have hm:false ∈ listed.toList.filter (· == false):=List.mem_filter.2 ⟨by rw [← this];simp,by simp⟩
      have:=List.length_pos_of_mem hm
      omega
    exact ⟨hr,fin listed a w hs hr hI⟩
  | succ fuel ih =>
    intro listed a w hs hf hcl hI
    refine ⟨fun hr=>fin listed a w hs hr hI,fun i hi=>?_⟩
    obtain ⟨h1,h2,o,ho,hdep⟩:=ready_mem.1 hi
    have hlt:i < l.length:=by simpa using h1
    have hil:i < listed.size:=by omega
    have hun':listed[i]=false:=by simp [Array.getD,hil] at h2;exact h2
    have hun:listed.getD i false=false:=by simp [Array.getD,hil,hun']
    have hlen:((listed.setIfInBounds i true).toList.filter (· == false)).length≤fuel:=by
      have h3:=filter_set listed.toList i (by simpa using hil) (by simpa using hun')
      rw [Array.toList_setIfInBounds]
      omega
    have hfun:(fun j=>(listed.setIfInBounds i true).getD j false)=plus i (fun j=>listed.getD j false):=by
      funext j
      unfold plus
      by_cases e:j=i
      · subst e;simp [Array.getD,hil]
      · have hne:i≠j:=fun x=>e x.symm
        rw [Array.getD_eq_getD_getElem?,Array.getElem?_setIfInBounds_ne hne,← Array.getD_eq_getD_getElem?]
        simp [e]
    unfold wpOp
    rw [ho]
    simp only
    have hgo:o.guard=none:=by
      have:=List.all_eq_true.1 hg o (List.mem_of_getElem? (by simpa using ho))
      simpa using this
    have hw:Region.wanted o (yielded l.toArray a.tmps)=true:=by unfold Region.wanted;rw [hgo]
    rw [hw,if_pos rfl]
    have hst':=steps_at l 0 i o hst (by simpa using ho) (fun j=>listed.getD j false) a w (by rw [Nat.zero_add];exact hun) hdep hcl hI
    rw [Nat.zero_add] at hst'
    refine .inl (wpq (fun a' w' hh=>hh) (hst' _ fun a' w' hI'=>?_))
    refine ih _ _ _ (by simpa using hs) hlen ?_ (by rw [hfun];exact hI')
    rw [hfun]
    intro j oj hj hS e he hbd
    unfold plus at hS ⊢
    by_cases e':j=i
    · subst e'
      have hjo:some oj=some o:=by rw [← hj];simpa using ho
      cases hjo
      have:=hdep e he hbd
      simp [this]
    · have:(j == i)=false:=by simpa using e'
      rw [this,Bool.false_or] at hS
      have:=hcl j oj hj hS e he hbd
      simp only at this
      simp [this]
theorem draw_inv {id : Nat} {l : List Oper} {a : Act} {w : World} (I : (Nat → Bool) → Act → World → Prop) (hm : P.follows .mixedOrders = true) (hB : (backB 0 l && (l.all fun o => o.guard.isNone)) = true) (h0 : I (fun _ => false) a w.drew) (hst : StepsOk P l I 0 l)
    (hend:∀ S a w,(∀ j,j < l.length→S j=true)→I S a w→Q .normal a w):(Code.region id l.toArray true).wp P Q a w:=by
  rw [Bool.and_eq_true] at hB
  have e0:(fun j=>(Array.replicate l.length false).getD j false)=fun _=>false:=by
    funext j
    rw [Array.getD_eq_getD_getElem?,Array.getElem?_replicate]
    split <;> rfl
  have key:=wpAny_inv (Q:=Q) hB.1 hB.2 I hst hend l.length (Array.replicate l.length false) a w.drew (by simp) (Nat.le_trans (List.length_filter_le _ _) (by simp)) (by rw [e0];intro j o _ h;cases h) (by rw [e0];exact h0)
  refine wp_region_any hm ?_
  simpa using key
end
structure DI (n : Nat) (a0 : Act) (w00 : World) (ds : List Tmp) (Ti : List (Nat × Tmp)) (Ai : List (Nat × Tmp × Nat × TypeId)) (Oi : List (Nat × Tmp × Nat × TypeId)) (M : List (Tmp × Value)) (C : List (Tmp × List Value)) (S : Nat → Bool) (a : Act) (w : World) : Prop where
  size:a.tmps.size=n
  defers:a.defers=[]
  outer:∀ t,ds.contains t=false→a.tmps.getD t undef=a0.tmps.getD t undef
  bel:Below w00.heap.size w00 w
  vals:∀ x ∈ Ti,S x.1=true→∀ v,M.lookup x.2=some v→a.tmps.getD x.2 undef=v
  new:∀ x ∈ Ai,S x.1=true→∃ B,a.tmps.getD x.2.1 undef=.pointer (some ⟨B,0,none⟩)∧w00.heap.size≤B∧∃ c,Blk w B c x.2.2.2∧c.size=x.2.2.1
  ne:∀ x ∈ Ai,∀ y ∈ Ai,x.2.1≠y.2.1→S x.1=true→S y.1=true→a.tmps.getD x.2.1 undef≠a.tmps.getD y.2.1 undef
  did:∀ x ∈ Oi,S x.1=true→∀ c,C.lookup x.2.1=some c→∃ B,a.tmps.getD x.2.1 undef=.pointer (some ⟨B,0,none⟩)∧Blk w B c.toArray x.2.2.2
def diB (l : List Oper) (n : Nat) (Ti : List (Nat × Tmp)) (Ai Oi : List (Nat × Tmp × Nat × TypeId)) : Bool :=
  (nodupB (Ti.map (·.1)) && nodupB (Ai.map (·.1)) && nodupB (Oi.map (·.1))) && (nodupB (Ti.map (·.2) ++ Ai.map (·.2.1)) && nodupB (Oi.map (·.2.1)) && ((Ti.map (·.2) ++ Ai.map (·.2.1)).all fun t=>decide (t < n) && (dstsOf l).contains t) &&
  (Oi.all fun x=>Ai.any fun y=>y.2.1 == x.2.1 && y.2.2.1 == x.2.2.1 && y.2.2.2 == x.2.2.2 && (match l[x.1]? with | some o=>waits1 o y.1 | none=>false)))
theorem nodupB_mem {l1 l2 : List Tmp} : ∀ {t : Tmp}, nodupB (l1 ++ l2) = true → t ∈ l1 → t ∈ l2 → False := by
  induction l1 with
  | nil=>intro t _ h;cases h
  | cons x r ih =>
    intro t h h1 h2
    simp only [List.cons_append,nodupB,Bool.and_eq_true,Bool.not_eq_true'] at h
    rcases List.mem_cons.1 h1 with rfl | h1
    · have:=h.1
      simp at this
      exact this.2 h2
    · exact ih h.2 h1 h2
theorem nodupB_map {α : Type} {f : α → Tmp} : ∀ {l : List α}, nodupB (l.map f) = true → ∀ x ∈ l, ∀ y ∈ l, f x = f y → x = y
  | [],_,_,h,_,_,_=>by cases h
  | z :: r,h,x,hx,y,hy,e=>by
    simp only [List.map_cons,nodupB,Bool.and_eq_true,Bool.not_eq_true'] at h
    have hz:∀ u ∈ r,f u≠f z:=fun u hu e=>by
      have:=h.1
      simp at this
      exact this u hu e
    rcases List.mem_cons.1 hx with h1 | h1
    · rcases List.mem_cons.1 hy with h2 | h2
      · rw [h1,h2]
      · exact absurd e.symm (h1 ▸ hz y h2)
    · rcases List.mem_cons.1 hy with h2 | h2
      · exact absurd e (h2 ▸ hz x h1)
      · exact nodupB_map h.2 x h1 y h2 e
theorem nodupB_right {l1 l2 : List Tmp} (h : nodupB (l1 ++ l2) = true) : nodupB l2 = true := by
  induction l1 with
  | nil=>exact h
  | cons x r ih =>
    simp only [List.cons_append,nodupB,Bool.and_eq_true,Bool.not_eq_true'] at h
    exact ih h.2
section
variable {n i : Nat} {a0 a : Act} {w00 w w' : World} {l : List Oper} {Ti : List (Nat × Tmp)} {Ai Oi : List (Nat × Tmp × Nat × TypeId)} {M : List (Tmp × Value)} {C : List (Tmp × List Value)} {S : Nat → Bool} {t : Tmp} {v : Value} {s : Nat} {ty : TypeId}
theorem put_at {u : Tmp} (h : t < a.tmps.size) : (a.put (some t) v).tmps.getD u undef = if u = t then v else a.tmps.getD u undef := by
  by_cases e:u=t
  · subst e;simp [Act.put,Array.getD,h]
  · rw [if_neg e]
    have hne:t≠u:=fun x=>e x.symm
    rw [Array.getD_eq_getD_getElem?,Array.getD_eq_getD_getElem?]
    simp only [Act.put]
    rw [Array.getElem?_setIfInBounds_ne hne]
theorem plus_of {j : Nat} (hne : j ≠ i) (h : plus i S j = true) : S j = true := by
  have:(j == i)=false:=by simpa using hne
  unfold plus at h
  rwa [this,Bool.false_or] at h
theorem DI.pure (hB : diB l n Ti Ai Oi = true) (hI : DI n a0 w00 (dstsOf l) Ti Ai Oi M C S a w) (hi : (i, t) ∈ Ti) (hv : M.lookup t = some v) (hS : S i = false) (hb : Below w.heap.size w w')
    (hiA:(Ai.all fun x=>x.1 != i)=true) (hiO:(Oi.all fun x=>x.1 != i)=true):DI n a0 w00 (dstsOf l) Ti Ai Oi M C (plus i S) (a.put (some t) v) w':=by
  simp only [diB,Bool.and_eq_true] at hB
  obtain ⟨hix,⟨⟨hnd,hndO⟩,hall⟩,hO⟩:=hB
  have htT:t ∈ Ti.map (·.2):=List.mem_map.2 ⟨(i,t),hi,rfl⟩
  have h9:=List.all_eq_true.1 hall t (List.mem_append_left _ htT)
  simp only [Bool.and_eq_true,decide_eq_true_eq] at h9
  have htn:t < a.tmps.size:=by rw [hI.size];exact h9.1
  have hneA:∀ x ∈ Ai,x.2.1≠t:=fun x hx e=>nodupB_mem hnd htT (e ▸ List.mem_map.2 ⟨x,hx,rfl⟩)
  have hneO:∀ x ∈ Oi,x.2.1≠t:=fun x hx e=>by
    obtain ⟨y,hy,hh⟩:=List.any_eq_true.1 (List.all_eq_true.1 hO x hx)
    simp only [Bool.and_eq_true,beq_iff_eq] at hh
    exact hneA y hy (hh.1.1.1.trans e)
  have hA:∀ x ∈ Ai,plus i S x.1=true→S x.1=true:=fun x hx h=>plus_of (by have:=List.all_eq_true.1 hiA x hx;simpa using this) h
  have hO':∀ x ∈ Oi,plus i S x.1=true→S x.1=true:=fun x hx h=>plus_of (by have:=List.all_eq_true.1 hiO x hx;simpa using this) h
  refine ⟨by rw [← hI.size];simp [Act.put],hI.defers,fun u hu=>?_,Below.andThen hI.bel hb,fun x hx hs u hu=>?_,fun x hx hs=>?_,fun x hx y hy hxy hs1 hs2=>?_,fun x hx hs c hc=>?_⟩
  · have:u≠t:=fun e=>by subst e;rw [h9.2] at hu;cases hu
    rw [put_at htn,if_neg this];exact hI.outer u hu
  · rw [put_at htn]
    by_cases e:x.2=t
    · rw [if_pos e];rw [e,hv] at hu;exact Option.some.inj hu
    · rw [if_neg e]
      refine hI.vals x hx (plus_of (fun e2=>e ?_) hs) u hu
      exact congrArg (·.2) (nodupB_map (f:=fun x:Nat × Tmp=>x.1) hix.1.1 x hx (i,t) hi e2)
  · obtain ⟨B,h1,h2,c,h3,h4⟩:=hI.new x hx (hA x hx hs)
    exact ⟨B,by rw [put_at htn,if_neg (hneA x hx)];exact h1,h2,c,h3.below hb,h4⟩
  · rw [put_at htn,if_neg (hneA x hx),put_at htn,if_neg (hneA y hy)]
    exact hI.ne x hx y hy hxy (hA x hx hs1) (hA y hy hs2)
  · obtain ⟨B,h1,h2⟩:=hI.did x hx (hO' x hx hs) c hc
    exact ⟨B,by rw [put_at htn,if_neg (hneO x hx)];exact h1,h2.below hb⟩
theorem DI.alloc (hB : diB l n Ti Ai Oi = true) (hI : DI n a0 w00 (dstsOf l) Ti Ai Oi M C S a w) (hi : (i, t, s, ty) ∈ Ai) {c : Array Value} (hc : c.size = s) (hS : S i = false) (hcl : Closed l S)
    (hiT:(Ti.all fun x=>x.1 != i)=true) (hiO:(Oi.all fun x=>x.1 != i)=true):DI n a0 w00 (dstsOf l) Ti Ai Oi M C (plus i S) (a.put (some t) (.pointer (some ⟨w.heap.size,0,none⟩))) (w.alloc (.cells c ty)):=by
  simp only [diB,Bool.and_eq_true] at hB
  obtain ⟨hix,⟨⟨hnd,hndO⟩,hall⟩,hO⟩:=hB
  have hb:Below w.heap.size w (w.alloc (.cells c ty)):=bel1 w _
  have htA:t ∈ Ai.map (·.2.1):=List.mem_map.2 ⟨(i,t,s,ty),hi,rfl⟩
  have h9:=List.all_eq_true.1 hall t (List.mem_append_right _ htA)
  simp only [Bool.and_eq_true,decide_eq_true_eq] at h9
  have htn:t < a.tmps.size:=by rw [hI.size];exact h9.1
  have hneT:∀ x ∈ Ti,x.2≠t:=fun x hx e=>nodupB_mem hnd (e ▸ List.mem_map.2 ⟨x,hx,rfl⟩) htA
  have one:∀ x ∈ Ai,x.2.1=t→x=(i,t,s,ty):=fun x hx e=>nodupB_map (f:=fun x:Nat × Tmp × Nat × TypeId=>x.2.1) (nodupB_right hnd) x hx _ hi e
  have old:∀ x ∈ Ai,x.2.1≠t→plus i S x.1=true→S x.1=true:=fun x hx hne h=>plus_of (fun e=>hne (congrArg (·.2.1) (nodupB_map (f:=fun x:Nat × Tmp × Nat × TypeId=>x.1) hix.1.2 x hx _ hi e))) h
  refine ⟨by rw [← hI.size];simp [Act.put],hI.defers,fun u hu=>?_,Below.andThen hI.bel hb,fun x hx hs u hu=>?_,fun x hx hs=>?_,fun x hx y hy hxy hs1 hs2=>?_,fun x hx hs c' hc'=>?_⟩
  · have:u≠t:=fun e=>by subst e;rw [h9.2] at hu;cases hu
    rw [put_at htn,if_neg this];exact hI.outer u hu
  · rw [put_at htn,if_neg (hneT x hx)]
    exact hI.vals x hx (plus_of (by have:=List.all_eq_true.1 hiT x hx;simpa using this) hs) u hu
  · by_cases e:x.2.1=t
    · rw [one x hx e]
      exact ⟨w.heap.size,by rw [put_at htn,if_pos rfl],hI.bel.size,c,Blk.new w c ty,hc⟩
    · obtain ⟨B,h1,h2,c',h3,h4⟩:=hI.new x hx (old x hx e hs)
      exact ⟨B,by rw [put_at htn,if_neg e];exact h1,h2,c',h3.below hb,h4⟩
  · have lt:∀ x ∈ Ai,x.2.1≠t→plus i S x.1=true→a.tmps.getD x.2.1 undef≠.pointer (some ⟨w.heap.size,0,none⟩):=fun x hx e hs h=>by
      obtain ⟨B,h1,h2,c',h3,h4⟩:=hI.new x hx (old x hx e hs)
      rw [h1] at h
      simp at h
      have:=h3.lt
      omega
    by_cases e1:x.2.1=t
    · by_cases e2:y.2.1=t
      · exact absurd (e1.trans e2.symm) hxy
      · rw [put_at htn,if_pos e1,put_at htn,if_neg e2]
        exact fun h=>lt y hy e2 hs2 h.symm
    · by_cases e2:y.2.1=t
      · rw [put_at htn,if_neg e1,put_at htn,if_pos e2]
        exact lt x hx e1 hs1
      · rw [put_at htn,if_neg e1,put_at htn,if_neg e2]
        exact hI.ne x hx y hy hxy (old x hx e1 hs1) (old y hy e2 hs2)
  · have hs':S x.1=true:=plus_of (by have:=List.all_eq_true.1 hiO x hx;simpa using this) hs
    have hne:x.2.1≠t:=fun e=>by
      obtain ⟨y,hy,hh⟩:=List.any_eq_true.1 (List.all_eq_true.1 hO x hx)
      simp only [Bool.and_eq_true,beq_iff_eq] at hh
      have hyt:=one y hy (hh.1.1.1.trans e)
      cases ho:l[x.1]? with
      | none=>rw [ho] at hh;simp at hh
      | some o =>
        rw [ho] at hh
        have:=Deps.at (hcl x.1 o ho hs') y.1 hh.2
        rw [hyt] at this
        simp only at this
        rw [hS] at this
        cases this
    obtain ⟨B,h1,h2⟩:=hI.did x hx hs' c' hc'
    exact ⟨B,by rw [put_at htn,if_neg hne];exact h1,h2.below hb⟩
theorem DI.box (hI : DI n a0 w00 (dstsOf l) Ti Ai Oi M C S a w) (hi : (i, t, s, ty) ∈ Ai) (hs : S i = true) : ∃ B, a.tmps.getD t undef = .pointer (some ⟨B, 0, none⟩) ∧ w00.heap.size ≤ B ∧ ∃ c, Blk w B c ty ∧ c.size = s := hI.new _ hi hs
theorem blk_all {w : World} {B : Nat} {c : Array Value} {ty : TypeId} {cs : List Value} (h : Blk w B c ty) (hs : c.size = cs.length) : Blk (w.setCells B 0 cs) B cs.toArray ty := by
  have:=blk_setCells cs w c 0 h (by omega)
  have e:spliced c 0 cs=cs.toArray:=by
    unfold spliced
    have h9:c.toList.drop (0 + cs.length)=[]:=List.drop_of_length_le (by simp [hs])
    rw [h9];simp
  rwa [e] at this
theorem DI.store (hB : diB l n Ti Ai Oi = true) (hI : DI n a0 w00 (dstsOf l) Ti Ai Oi M C S a w) (hi : (i, t, s, ty) ∈ Oi) {B j : Nat} {c : Array Value} {cs : List Value} (hj : (j, t, s, ty) ∈ Ai) (hsj : S j = true) (hv : a.tmps.getD t undef = .pointer (some ⟨B, 0, none⟩)) (hBk : Blk w B c ty) (hcs : c.size = s) (hlo : w00.heap.size ≤ B) (hC : C.lookup t = some cs) (hln : cs.length = s) (hS : S i = false) (hcl : Closed l S)
    (hiT:(Ti.all fun x=>x.1 != i)=true) (hiA:(Ai.all fun x=>x.1 != i)=true):DI n a0 w00 (dstsOf l) Ti Ai Oi M C (plus i S) a (w.setCells B 0 cs):=by
  simp only [diB,Bool.and_eq_true] at hB
  obtain ⟨hix,⟨⟨hnd,hndO⟩,hall⟩,hO⟩:=hB
  have hk:=keep1_setCells w B 0 cs
  have hnew:=blk_all (cs:=cs) hBk (by omega)
  have hA:∀ x ∈ Ai,plus i S x.1=true→S x.1=true:=fun x hx h=>plus_of (by have:=List.all_eq_true.1 hiA x hx;simpa using this) h
  refine ⟨hI.size,hI.defers,hI.outer,below_setCells hlo cs w w00 0 hI.bel,fun x hx hs u hu=>?_,fun x hx hs=>?_,fun x hx y hy hxy hs1 hs2=>hI.ne x hx y hy hxy (hA x hx hs1) (hA y hy hs2),fun x hx hs c' hc'=>?_⟩
  · exact hI.vals x hx (plus_of (by have:=List.all_eq_true.1 hiT x hx;simpa using this) hs) u hu
  · obtain ⟨B',h1,h2,c',h3,h4⟩:=hI.new x hx (hA x hx hs)
    by_cases e:B'=B
    · subst e
      have:some (Obj.cells c' x.2.2.2 (0,0))=some (Obj.cells c ty (0,0)):=by rw [← h3,← hBk]
      simp at this
      obtain ⟨rfl,hty⟩:=this
      exact ⟨B',h1,h2,_,by rw [hty];exact hnew,by simp;omega⟩
    · exact ⟨B',h1,h2,c',(hk B' e).trans h3,h4⟩
  · by_cases e:x.2.1=t
    · have hx':=nodupB_map (f:=fun x:Nat × Tmp × Nat × TypeId=>x.2.1) hndO x hx _ hi e
      subst hx'
      simp only at hc' ⊢
      rw [hC] at hc'
      cases hc'
      exact ⟨B,hv,hnew⟩
    · have hs':S x.1=true:=plus_of (fun e'=>e (congrArg (·.2.1) (nodupB_map (f:=fun x:Nat × Tmp × Nat × TypeId=>x.1) hix.2 x hx _ hi e'))) hs
      obtain ⟨B',h1,h2⟩:=hI.did x hx hs' c' hc'
      have hne:B'≠B:=fun e'=>by
        obtain ⟨y,hy,hh⟩:=List.any_eq_true.1 (List.all_eq_true.1 hO x hx)
        simp only [Bool.and_eq_true,beq_iff_eq] at hh
        cases ho:l[x.1]? with
        | none=>rw [ho] at hh;simp at hh
        | some o =>
          rw [ho] at hh
          exact hI.ne y hy _ hj (by rw [hh.1.1.1];exact e) (Deps.at (hcl x.1 o ho hs') y.1 hh.2) hsj (by rw [hh.1.1.1,h1,e'];exact hv.symm)
      exact ⟨B',h1,(hk B' hne).trans h2⟩
theorem DI.full (hI : DI n a0 w00 (dstsOf l) Ti Ai Oi M C S a w) {i j : Nat} {cs : List Value} (hj : (j, t, s, ty) ∈ Ai) (hsj : S j = true) (hi : (i, t, s, ty) ∈ Oi) (hsi : S i = true) (hC : C.lookup t = some cs) :
    ∃ B,a.tmps.getD t undef=.pointer (some ⟨B,0,none⟩)∧w00.heap.size≤B∧Blk w B cs.toArray ty:=by
  obtain ⟨B,h1,h2⟩:=hI.did _ hi hsi cs hC
  obtain ⟨B',h3,h4,_⟩:=hI.new _ hj hsj
  simp only at h1 h3
  rw [h1] at h3
  simp at h3
  subst h3
  exact ⟨B,h1,h4,h2⟩
theorem fr_outer {L : List (Tmp × Value)} (hF : Fr n a0 L) (hL : (L.all fun p => !(dstsOf l).contains p.1) = true) (hI : DI n a0 w00 (dstsOf l) Ti Ai Oi M C S a w) : Fr n a L := by
  refine ⟨hI.size,hI.defers,fun t v hl=>?_⟩
  have hmem:∃ p ∈ L,p.1=t:=by
    clear hL hF
    induction L with
    | nil=>simp at hl
    | cons x r ih =>
      by_cases e:t=x.1
      · exact ⟨x,by simp,e.symm⟩
      · have e':(t == x.1)=false:=beq_false_of_ne e
        rw [List.lookup_cons,e'] at hl
        obtain ⟨p,hp,he⟩:=ih hl
        exact ⟨p,by simp [hp],he⟩
  obtain ⟨p,hp,rfl⟩:=hmem
  have hn:=List.all_eq_true.1 hL p hp
  rw [hI.outer p.1 (by simpa using hn)]
  exact hF.sl _ _ hl
theorem fr_draw3 {P : Program} {Q : Exit → Act → World → Prop} {id : Nat} {L : List (Tmp × Value)} (Ti : List (Nat × Tmp)) (Ai Oi : List (Nat × Tmp × Nat × TypeId)) (M : List (Tmp × Value)) (C : List (Tmp × List Value))
    (hm:P.follows .mixedOrders=true) (hF:Fr n a L) (hL:(L.all fun p=>!(dstsOf l).contains p.1)=true) (hB:((backB 0 l && (l.all fun o=>o.guard.isNone)) && diB l n Ti Ai Oi)=true)
    (hst:diB l n Ti Ai Oi=true→StepsOk P l (DI n a w (dstsOf l) Ti Ai Oi M C) 0 l)
    (hend:∀ S a' w',(∀ j,j < l.length→S j=true)→DI n a w (dstsOf l) Ti Ai Oi M C S a' w'→Fr n a' L→Q .normal a' w'):(Code.region id l.toArray true).wp P Q a w:=by
  rw [Bool.and_eq_true] at hB
  refine draw_inv (DI n a w (dstsOf l) Ti Ai Oi M C) hm hB.1 ?_ (hst hB.2) (fun S a' w' hS hI=>hend S a' w' hS hI ?_)
  · exact ⟨hF.size,hF.defers,fun _ _=>rfl,drewN_below (m:=1) (Below.refl _ _),fun _ _ h=>(by cases h),fun _ _ h=>(by cases h),fun _ _ _ _ _ h=>(by cases h),fun _ _ h=>(by cases h)⟩
  · exact fr_outer hF hL hI
theorem wp_fill {Q : Exit → Act → World → Prop} {K : Act → World → Prop} {B : Nat} {c : Array Value} {bt ty2 ty3 : TypeId} {cells : List Value} {x y : Tmp} {pos : String} {aft : Array Edge} (hB : Blk w B c bt)
    (hx:a.tmps.getD x undef=.pointer (some ⟨B,0,none⟩)) (hy:a.tmps.getD y undef=.agg cells.toArray) (hi:(Tryz.prog.info? ty2).map (·.size)=some cells.length) (h1:cells.all (·.oneCell')=true) (hs:cells.length=c.size)
    (hK:K a (w.setCells B 0 cells)):Oper.wp Tryz.prog ⟨none,.store ty2 (.tmp x) (.tmp y),ty3,pos,aft,none⟩ a w K Q:=by
  have e:a.eval (.tmp x)=.pointer (some ⟨B,0,none⟩):=hx
  have e2:a.eval (.tmp y)=.agg cells.toArray:=hy
  have:=run_storeAt_mid (P:=Tryz.prog) w B 0 ty2 cells.toArray (by simpa using thereOf hB 0 cells.length (by omega)) (by simpa using hi) (by simpa using h1)
  unfold Oper.wp execOp
  simp only [e,e2,Sem.run_bind,this,Result.andThen_ok,Sem.run_pure]
  rw [Oper.upon_skip];simpa [Act.put] using hK
theorem Wd.add2 {w0 : World} {Bs : List (Nat × Array Value × TypeId)} (h : Wd w0 w Bs) (h0 : Wd w0 w00 Bs) {B B' : Nat} {c c' : Array Value} {t t' : TypeId} (hb : Blk w B c t) (hb' : Blk w B' c' t') (hne : B ≠ B') (hB : w00.heap.size ≤ B) (hB' : w00.heap.size ≤ B') :
    Wd w0 w ((B,c,t) :: (B',c',t') :: Bs):=by
  have h1:=h.add hb' h0 hB'
  have h2:=h.add hb h0 hB
  refine ⟨h.bel,fun i x hx=>?_,fun i x hx=>?_,fun i j x y hx hy e=>?_⟩
  · cases i with
    | zero=>simp at hx;subst hx;exact hb
    | succ i=>exact h1.blk i x (by simpa using hx)
  · cases i with
    | zero=>exact h2.new 0 x (by simpa using hx)
    | succ i=>exact h1.new i x (by simpa using hx)
  · have key:∀ (k:Nat) (z:Nat × Array Value × TypeId),((B',c',t') :: Bs)[k]?=some z→z.1≠B:=fun k z hz e=>by
      cases k with
      | zero=>simp at hz;subst hz;exact hne e.symm
      | succ k =>
        have:=h2.nd (k + 1) 0 z (B,c,t) (by simpa using hz) (by simp) e
        omega
    cases i with
    | zero =>
      cases j with
      | zero=>rfl
      | succ j=>simp at hx;subst hx;exact absurd e.symm (key j y (by simpa using hy))
    | succ i =>
      cases j with
      | zero=>simp at hy;subst hy;exact absurd e (key i x (by simpa using hx))
      | succ j=>rw [h1.nd i j x y (by simpa using hx) (by simpa using hy) e]
end
end Go.Proofs.YtjodmledadbgeacGreatDoor
namespace Go.Proofs.YtjodmledadbgeacGreatDoor
open Go.ChangeShapes Go.WideShapes Go.ChangeAt Go.RowKit
set_option linter.unusedSimpArgs false
set_option linter.unusedVariables false
theorem sameModule_any {n : Nat} {m k : List (MFunc n)} {p p2 : Option Addr} {c d : Nat} {w : World} (hm0 : (modL n).In w All m [.slice p m.length c]) (hk0 : (modL n).In w All k [.slice p2 k.length d]) (hs0 : msmall m) :
    Rd Tryz.prog 8 #[.agg #[.slice p m.length c],.agg #[.slice p2 k.length d]] w (.bool (bdec (m=k))):=by
  have hm:Hid _:=hm0
  have hk:Hid _:=hk0
  have hs:Hid _:=hs0
  have hcl:=hs0.1
  clear hm0 hk0 hs0
  refine fr_enter (n:=82) Tryz.func8 rfl rfl rfl ?_
  intro a hF
  have hW:=Wd.start w
  replace hF:Fr 82 a [(0,.agg #[.slice p m.length c]),(1,.agg #[.slice p2 k.length d])]:=hF
  refine wp_seq_k fun K1 hK1=>?_
  refine rg hF fun ops=>?_;clear hF a
  refine sB hW trivial rfl rfl ?_
  clear hW;intro w2 B2 hW2 hN;clear hN
  refine sB hW2 trivial rfl rfl ?_
  clear hW2;intro w3 B3 hW3 hN;clear hN
  refine sa trivial rfl rfl ?_
  refine St.nil fun a4 h4=>?_
  refine hK1 _ _ ?_
  refine wp_seq_k fun K5 hK5=>?_
  refine wp_seq_k fun K6 hK6=>?_
  refine rg h4 fun ops=>?_;clear h4 a4
  refine sfModule0 trivial rfl rfl ?_
  refine sbFuncs 1 hW3 trivial rfl rfl rfl rfl ?_
  refine slFuncs trivial rfl rfl ?_
  refine sfModule0 trivial rfl rfl ?_
  refine sbFuncs 0 hW3 trivial rfl rfl rfl rfl ?_
  refine slFuncs trivial rfl rfl ?_
  refine sne trivial rfl rfl rfl ?_
  refine St.nil fun a7 h7=>?_
  refine hK6 _ _ ?_
  refine fr_cond (t:=15) h7 rfl (fun hb=>?_) (fun hb=>?_)
  ·have h9:¬ m.length=k.length:=by have h8:=bne_iff_ne.1 hb;omega
   have hlen:¬ m.length=k.length:=h9
   clear h9
   clear hb
   refine wp_seq_k fun K8 hK8=>?_
   refine rg h7 fun ops=>?_;clear h7 a7
   refine sa trivial rfl rfl ?_
   refine St.nil fun a9 h9=>?_
   refine hK8 _ _ ?_
   refine wp_ret ?_;with_reducible repeat first | refine of_then_ret ?_ | refine of_block_ret ?_
   have R:¬ m=k:=fun e=>hlen (by rw [e])
   exact ret_tmp (t:=4) h9 rfl rfl ⟨by rw [bdec_false R],hW3.bel⟩
  have h9:m.length=k.length:=by have h8:=bne_eq_false_iff_eq.1 hb;omega
  have hlen:Hid (m.length=k.length):=h9
  clear h9
  clear hb
  refine wp_skip ?_
  refine hK5 _ _ ?_
  refine wp_seq_k fun K10 hK10=>?_
  refine wp_seq_k fun K11 hK11=>?_
  refine rg h7 fun ops=>?_;clear h7 a7
  refine sa trivial rfl rfl ?_
  refine St.nil fun a12 h12=>?_
  refine hK11 _ _ ?_
  refine wp_block ?_
  refine fr_loop (fun r a w'=>∃ q:Nat,q≤m.length∧r=m.length - q∧(∀ j,j < q→m[j]?=k[j]?)∧Fr 82 a [(1,.agg #[.slice p2 k.length d]),(0,.agg #[.slice p m.length c]),(2,.pointer (some ⟨B2,0,none⟩)),(3,.pointer (some ⟨B3,0,none⟩)),(4,.bool false),(5,.int .i64 (q:Int))]∧Wd w w' [(B3,#[.slice p2 k.length d],25),(B2,#[.slice p m.length c],25)]) (m.length) ⟨0,Nat.zero_le _,rfl,(fun j hj=>by omega),(h12.keep (h12.keep (h12.keep (h12.keep (h12.keep (h12.keep h12.nil (t:=5) rfl) (t:=4) rfl) (t:=3) rfl) (t:=2) rfl) (t:=0) rfl) (t:=1) rfl),hW3⟩ ?_
  clear h12 hW3
  rintro r a13 w13 ⟨q,hq,hr,hall,hF13,hW13⟩ KL hKL
  refine wp_seq_k fun K14 hK14=>?_
  refine wp_seq_k fun K15 hK15=>?_
  refine rg hF13 fun ops=>?_;clear hF13 a13
  refine sm trivial rfl rfl ?_
  refine sfModule0 trivial rfl rfl ?_
  refine sbFuncs 1 hW13 trivial rfl rfl rfl rfl ?_
  refine slFuncs trivial rfl rfl ?_
  refine slt trivial rfl rfl rfl ?_
  refine St.nil fun a16 h16=>?_
  refine hK15 _ _ ?_
  refine fr_cond (t:=20) h16 rfl (fun hb=>?_) (fun hb=>?_)
  ·have hlt1:q < m.length:=by have:=of_decide_eq_true hb;omega
   have hlt2:q < k.length:=by have:=hlen.out;omega
   clear hb
   obtain ⟨x,hx1⟩:∃ v9,(m)[q]?=some v9:=⟨_,List.getElem?_eq_getElem hlt1⟩
   obtain ⟨g1,o1,f1,hp1,E1,In1⟩:=func_at hm.out hx1
   replace In1:Hid _:=In1
   replace hp1:Hid _:=hp1
   replace hx1:Hid _:=hx1
   replace E1:Hid _:=E1
   obtain ⟨y,hx2⟩:∃ v9,(k)[q]?=some v9:=⟨_,List.getElem?_eq_getElem hlt2⟩
   obtain ⟨g2,o2,f2,hp2,E2,In2⟩:=func_at hk.out hx2
   replace In2:Hid _:=In2
   replace hp2:Hid _:=hp2
   replace hx2:Hid _:=hx2
   replace E2:Hid _:=E2
   have hs1:Hid _:=hs.out.2 x (List.mem_of_getElem? hx1.out)
   have hbl:=hs1.out.1
   refine wp_skip ?_
   refine hK14 _ _ ?_
   refine wp_seq_k fun K17 hK17=>?_
   refine wp_block ?_
   refine wp_seq_k fun K18 hK18=>?_
   have hF19:Fr 82 a16 [(1,.agg #[.slice p2 k.length d]),(0,.agg #[.slice p m.length c]),(2,.pointer (some ⟨B2,0,none⟩)),(3,.pointer (some ⟨B3,0,none⟩)),(4,.bool false),(5,.int .i64 (q:Int))]:=(h16.keep (h16.keep (h16.keep (h16.keep (h16.keep (h16.keep h16.nil (t:=5) rfl) (t:=4) rfl) (t:=3) rfl) (t:=2) rfl) (t:=0) rfl) (t:=1) rfl)
   have ho2:a16.tmps.getD 2 undef=.pointer (some ⟨B2,0,none⟩):=h16.sl 2 _ rfl
   have ho5:a16.tmps.getD 5 undef=.int .i64 (q:Int):=h16.sl 5 _ rfl
   have ho3:a16.tmps.getD 3 undef=.pointer (some ⟨B3,0,none⟩):=h16.sl 3 _ rfl
   refine fr_draw3 [(0,23),(1,24),(2,25),(3,26),(4,27),(5,28),(6,29),(7,30),(8,31),(9,32)] [(10,6,4,38),(11,7,4,38)] [(12,6,4,38),(13,7,4,38)] [(23,.pointer (some ⟨B2,0,none⟩)),(24,.slice p m.length c),(25,.int .i64 (q:Int)),(26,.pointer (some ⟨g1,o1 + q * 4,none⟩)),(27,.agg #[.int .i64 x.regs,.slice f1.pP x.params.length f1.cP,.slice f1.pR x.results.length f1.cR,.slice f1.pB x.blocks.length f1.cB]),(28,.pointer (some ⟨B3,0,none⟩)),(29,.slice p2 k.length d),(30,.int .i64 (q:Int)),(31,.pointer (some ⟨g2,o2 + q * 4,none⟩)),(32,.agg #[.int .i64 y.regs,.slice f2.pP y.params.length f2.cP,.slice f2.pR y.results.length f2.cR,.slice f2.pB y.blocks.length f2.cB])] [(6,[.int .i64 x.regs,.slice f1.pP x.params.length f1.cP,.slice f1.pR x.results.length f1.cR,.slice f1.pB x.blocks.length f1.cB]),(7,[.int .i64 y.regs,.slice f2.pP y.params.length f2.cP,.slice f2.pR y.results.length f2.cR,.slice f2.pB y.blocks.length f2.cB])] (by kernel_rfl) hF19 (by kernel_rfl) (by kernel_rfl) (fun hDB=>?hst) ?hend
   case hst =>
    refine ⟨fun S a1 w1 hS hd hcl hI K hK=>?_,?_⟩
    · have hWd:=hW13.below hI.bel
      have k0:a1.tmps.getD 2 undef=.pointer (some ⟨B2,0,none⟩):=(hI.outer 2 (by kernel_rfl)).trans ho2
      go_simp
      exact hK _ _ (DI.pure hDB hI (i:=0) (t:=23) (by decide) rfl hS (Below.refl _ _) (by kernel_rfl) (by kernel_rfl))
    refine ⟨fun S a1 w1 hS hd hcl hI K hK=>?_,?_⟩
    · have hWd:=hW13.below hI.bel
      have k0:a1.tmps.getD 23 undef=.pointer (some ⟨B2,0,none⟩):=hI.vals (0,23) (by decide) (hd.at 0 (by kernel_rfl)) _ rfl
      have c0:w1.cell? ⟨B2,0,none⟩=some (.slice p m.length c):=cellOf (hWd.get 1 rfl) 0 _ rfl
      go_simp
      exact hK _ _ (DI.pure hDB hI (i:=1) (t:=24) (by decide) rfl hS (Below.refl _ _) (by kernel_rfl) (by kernel_rfl))
    refine ⟨fun S a1 w1 hS hd hcl hI K hK=>?_,?_⟩
    · have hWd:=hW13.below hI.bel
      have k0:a1.tmps.getD 5 undef=.int .i64 (q:Int):=(hI.outer 5 (by kernel_rfl)).trans ho5
      go_simp
      exact hK _ _ (DI.pure hDB hI (i:=2) (t:=25) (by decide) rfl hS (Below.refl _ _) (by kernel_rfl) (by kernel_rfl))
    refine ⟨fun S a1 w1 hS hd hcl hI K hK=>?_,?_⟩
    · have hWd:=hW13.below hI.bel
      have k0:a1.tmps.getD 24 undef=.slice p m.length c:=hI.vals (1,24) (by decide) (hd.at 1 (by kernel_rfl)) _ rfl
      have k1:a1.tmps.getD 25 undef=.int .i64 (q:Int):=hI.vals (2,25) (by decide) (hd.at 2 (by kernel_rfl)) _ rfl
      have hpq:=hp1.out
      have hk0:(0:Int)≤q:=by omega
      have hk1:(q:Int) < (m.length:Int):=by omega
      go_simp
      exact hK _ _ (DI.pure hDB hI (i:=3) (t:=26) (by decide) rfl hS (Below.refl _ _) (by kernel_rfl) (by kernel_rfl))
    refine ⟨fun S a1 w1 hS hd hcl hI K hK=>?_,?_⟩
    · have hWd:=hW13.below hI.bel
      have k0:a1.tmps.getD 26 undef=.pointer (some ⟨g1,o1 + q * 4,none⟩):=hI.vals (3,26) (by decide) (hd.at 3 (by kernel_rfl)) _ rfl
      have d0:w1.cell? ⟨g1,o1 + q * 4,none⟩=some (.int .i64 x.regs):=bel_cell hWd.bel (E1.out 0 _ rfl)
      have d1:w1.cell? ⟨g1,o1 + q * 4 + 1,none⟩=some (.slice f1.pP x.params.length f1.cP):=bel_cell hWd.bel (E1.out 1 _ rfl)
      have d2:w1.cell? ⟨g1,o1 + q * 4 + 2,none⟩=some (.slice f1.pR x.results.length f1.cR):=bel_cell hWd.bel (E1.out 2 _ rfl)
      have d3:w1.cell? ⟨g1,o1 + q * 4 + 3,none⟩=some (.slice f1.pB x.blocks.length f1.cB):=bel_cell hWd.bel (E1.out 3 _ rfl)
      go_simp
      exact hK _ _ (DI.pure hDB hI (i:=4) (t:=27) (by decide) rfl hS (Below.refl _ _) (by kernel_rfl) (by kernel_rfl))
    refine ⟨fun S a1 w1 hS hd hcl hI K hK=>?_,?_⟩
    · have hWd:=hW13.below hI.bel
      have k0:a1.tmps.getD 3 undef=.pointer (some ⟨B3,0,none⟩):=(hI.outer 3 (by kernel_rfl)).trans ho3
      go_simp
      exact hK _ _ (DI.pure hDB hI (i:=5) (t:=28) (by decide) rfl hS (Below.refl _ _) (by kernel_rfl) (by kernel_rfl))
    refine ⟨fun S a1 w1 hS hd hcl hI K hK=>?_,?_⟩
    · have hWd:=hW13.below hI.bel
      have k0:a1.tmps.getD 28 undef=.pointer (some ⟨B3,0,none⟩):=hI.vals (5,28) (by decide) (hd.at 5 (by kernel_rfl)) _ rfl
      have c0:w1.cell? ⟨B3,0,none⟩=some (.slice p2 k.length d):=cellOf (hWd.get 0 rfl) 0 _ rfl
      go_simp
      exact hK _ _ (DI.pure hDB hI (i:=6) (t:=29) (by decide) rfl hS (Below.refl _ _) (by kernel_rfl) (by kernel_rfl))
    refine ⟨fun S a1 w1 hS hd hcl hI K hK=>?_,?_⟩
    · have hWd:=hW13.below hI.bel
      have k0:a1.tmps.getD 5 undef=.int .i64 (q:Int):=(hI.outer 5 (by kernel_rfl)).trans ho5
      go_simp
      exact hK _ _ (DI.pure hDB hI (i:=7) (t:=30) (by decide) rfl hS (Below.refl _ _) (by kernel_rfl) (by kernel_rfl))
    refine ⟨fun S a1 w1 hS hd hcl hI K hK=>?_,?_⟩
    · have hWd:=hW13.below hI.bel
      have k0:a1.tmps.getD 29 undef=.slice p2 k.length d:=hI.vals (6,29) (by decide) (hd.at 6 (by kernel_rfl)) _ rfl
      have k1:a1.tmps.getD 30 undef=.int .i64 (q:Int):=hI.vals (7,30) (by decide) (hd.at 7 (by kernel_rfl)) _ rfl
      have hpq:=hp2.out
      have hk0:(0:Int)≤q:=by omega
      have hk1:(q:Int) < (k.length:Int):=by omega
      go_simp
      exact hK _ _ (DI.pure hDB hI (i:=8) (t:=31) (by decide) rfl hS (Below.refl _ _) (by kernel_rfl) (by kernel_rfl))
    refine ⟨fun S a1 w1 hS hd hcl hI K hK=>?_,?_⟩
    · have hWd:=hW13.below hI.bel
      have k0:a1.tmps.getD 31 undef=.pointer (some ⟨g2,o2 + q * 4,none⟩):=hI.vals (8,31) (by decide) (hd.at 8 (by kernel_rfl)) _ rfl
      have d0:w1.cell? ⟨g2,o2 + q * 4,none⟩=some (.int .i64 y.regs):=bel_cell hWd.bel (E2.out 0 _ rfl)
      have d1:w1.cell? ⟨g2,o2 + q * 4 + 1,none⟩=some (.slice f2.pP y.params.length f2.cP):=bel_cell hWd.bel (E2.out 1 _ rfl)
      have d2:w1.cell? ⟨g2,o2 + q * 4 + 2,none⟩=some (.slice f2.pR y.results.length f2.cR):=bel_cell hWd.bel (E2.out 2 _ rfl)
      have d3:w1.cell? ⟨g2,o2 + q * 4 + 3,none⟩=some (.slice f2.pB y.blocks.length f2.cB):=bel_cell hWd.bel (E2.out 3 _ rfl)
      go_simp
      exact hK _ _ (DI.pure hDB hI (i:=9) (t:=32) (by decide) rfl hS (Below.refl _ _) (by kernel_rfl) (by kernel_rfl))
    refine ⟨fun S a1 w1 hS hd hcl hI K hK=>?_,?_⟩
    · go_simp
      exact hK _ _ (DI.alloc hDB hI (i:=10) (t:=6) (s:=4) (ty:=38) (by decide) rfl hS hcl (by kernel_rfl) (by kernel_rfl))
    refine ⟨fun S a1 w1 hS hd hcl hI K hK=>?_,?_⟩
    · go_simp
      exact hK _ _ (DI.alloc hDB hI (i:=11) (t:=7) (s:=4) (ty:=38) (by decide) rfl hS hcl (by kernel_rfl) (by kernel_rfl))
    refine ⟨fun S a1 w1 hS hd hcl hI K hK=>?_,?_⟩
    · have k0:a1.tmps.getD 27 undef=.agg #[.int .i64 x.regs,.slice f1.pP x.params.length f1.cP,.slice f1.pR x.results.length f1.cR,.slice f1.pB x.blocks.length f1.cB]:=hI.vals (4,27) (by decide) (hd.at 4 (by kernel_rfl)) _ rfl
      obtain ⟨B,kB,hlo,c0,hBk,hcs⟩:=hI.box (i:=10) (t:=6) (s:=4) (ty:=38) (by decide) (hd.at 10 (by kernel_rfl))
      exact wp_fill hBk kB k0 infFunc rfl hcs.symm (hK _ _ (DI.store hDB hI (i:=12) (t:=6) (s:=4) (ty:=38) (j:=10) (by decide) (by decide) (hd.at 10 (by kernel_rfl)) kB hBk hcs hlo rfl rfl hS hcl (by kernel_rfl) (by kernel_rfl)))
    refine ⟨fun S a1 w1 hS hd hcl hI K hK=>?_,?_⟩
    · have k0:a1.tmps.getD 32 undef=.agg #[.int .i64 y.regs,.slice f2.pP y.params.length f2.cP,.slice f2.pR y.results.length f2.cR,.slice f2.pB y.blocks.length f2.cB]:=hI.vals (9,32) (by decide) (hd.at 9 (by kernel_rfl)) _ rfl
      obtain ⟨B,kB,hlo,c0,hBk,hcs⟩:=hI.box (i:=11) (t:=7) (s:=4) (ty:=38) (by decide) (hd.at 11 (by kernel_rfl))
      exact wp_fill hBk kB k0 infFunc rfl hcs.symm (hK _ _ (DI.store hDB hI (i:=13) (t:=7) (s:=4) (ty:=38) (j:=11) (by decide) (by decide) (hd.at 11 (by kernel_rfl)) kB hBk hcs hlo rfl rfl hS hcl (by kernel_rfl) (by kernel_rfl)))
    trivial
   case hend =>
    intro S a20 w20 hS hD hFD
    obtain ⟨BD6,hd6,hBl6,hBk6⟩:=hD.full (j:=10) (i:=12) (t:=6) (s:=4) (ty:=38) (by decide) (hS _ (by decide)) (by decide) (hS _ (by decide)) rfl
    obtain ⟨BD7,hd7,hBl7,hBk7⟩:=hD.full (j:=11) (i:=13) (t:=7) (s:=4) (ty:=38) (by decide) (hS _ (by decide)) (by decide) (hS _ (by decide)) rfl
    have hF20:Fr 82 a20 [(7,.pointer (some ⟨BD7,0,none⟩)),(6,.pointer (some ⟨BD6,0,none⟩)),(1,.agg #[.slice p2 k.length d]),(0,.agg #[.slice p m.length c]),(2,.pointer (some ⟨B2,0,none⟩)),(3,.pointer (some ⟨B3,0,none⟩)),(4,.bool false),(5,.int .i64 (q:Int))]:=((hFD.cons hd6).cons hd7)
    have hnB:BD6≠BD7:=fun e=>hD.ne (10,6,4,38) (by decide) (11,7,4,38) (by decide) (by decide) (hS _ (by decide)) (hS _ (by decide)) (by rw [hd6,hd7,e])
    have hW20:Wd w w20 [(BD6,#[.int .i64 x.regs,.slice f1.pP x.params.length f1.cP,.slice f1.pR x.results.length f1.cR,.slice f1.pB x.blocks.length f1.cB],38),(BD7,#[.int .i64 y.regs,.slice f2.pP y.params.length f2.cP,.slice f2.pR y.results.length f2.cR,.slice f2.pB y.blocks.length f2.cB],38),(B3,#[.slice p2 k.length d],25),(B2,#[.slice p m.length c],25)]:=Wd.add2 (hW13.below hD.bel) hW13 hBk6 hBk7 hnB hBl6 hBl7
    clear hS hD hFD hnB hW13 hd6 hd7
    clear hBl6 hBk6 hBl7 hBk7
    refine hK18 _ _ ?_
    refine wp_seq_k fun K21 hK21=>?_
    refine wp_seq_k fun K22 hK22=>?_
    refine fr_region ?_
    intro ops hops
    have hg5:(ops[5]?).bind (fun o:Oper=>o.dst)=some 38:=hops 5
    have hg13:(ops[13]?).bind (fun o:Oper=>o.dst)=some 46:=hops 13
    have hg21:(ops[21]?).bind (fun o:Oper=>o.dst)=some 54:=hops 21
    clear hops
    refine St.go hF20 ?_;clear hF20 a20
    refine sfFunc0 trivial rfl rfl ?_
    refine sbInt 0 hW20 trivial rfl rfl rfl rfl ?_
    refine sfFunc0 trivial rfl rfl ?_
    refine sbInt 1 hW20 trivial rfl rfl rfl rfl ?_
    refine sne trivial rfl rfl rfl ?_
    refine sm trivial rfl rfl ?_
    intro a23 h23
    rcases Bool.eq_false_or_eq_true (x.regs != y.regs) with hb | hb
    ·rw [hb] at h23
     have h9:¬ x.regs=y.regs:=bne_iff_ne.1 hb
     have hc24:¬ x.regs=y.regs:=h9
     clear h9
     clear hb
     refine St.go h23 ?_;clear h23 a23
     refine so hg5 rfl rfl rfl rfl ?_
     refine so hg5 rfl rfl rfl rfl ?_
     refine so hg5 rfl rfl rfl rfl ?_
     refine so hg5 rfl rfl rfl rfl ?_
     refine so hg5 rfl rfl rfl rfl ?_
     refine so hg5 rfl rfl rfl rfl ?_
     refine sp trivial rfl rfl rfl ?_
     refine sm trivial rfl rfl ?_
     refine so hg13 rfl rfl rfl rfl ?_
     refine so hg13 rfl rfl rfl rfl ?_
     refine so hg13 rfl rfl rfl rfl ?_
     refine so hg13 rfl rfl rfl rfl ?_
     refine so hg13 rfl rfl rfl rfl ?_
     refine so hg13 rfl rfl rfl rfl ?_
     refine sp trivial rfl rfl rfl ?_
     refine sm trivial rfl rfl ?_
     refine so hg21 rfl rfl rfl rfl ?_
     refine so hg21 rfl rfl rfl rfl ?_
     refine so hg21 rfl rfl rfl rfl ?_
     refine so hg21 rfl rfl rfl rfl ?_
     refine so hg21 rfl rfl rfl rfl ?_
     refine so hg21 rfl rfl rfl rfl ?_
     refine so hg21 rfl rfl rfl rfl ?_
     refine sp trivial rfl rfl rfl ?_
     refine St.nil fun a25 h25=>?_
     refine hK22 _ _ ?_
     refine fr_true (t:=62) h25 rfl ?_
     refine wp_seq_k fun K26 hK26=>?_
     refine rg h25 fun ops=>?_;clear h25 a25
     refine sa trivial rfl rfl ?_
     refine St.nil fun a27 h27=>?_
     refine hK26 _ _ ?_
     refine wp_ret ?_;with_reducible repeat first | refine of_then_ret ?_ | refine of_block_ret ?_
     have RX:¬ x=y:=by
       intro e
       first
         | exact hlb (by rw [e])
         | exact hc24 (by rw [e])
     have R:¬ m=k:=by
       intro e
       have h1:=hx1.out
       rw [e,hx2.out] at h1
       exact RX (Option.some.inj h1).symm
     exact ret_tmp (t:=4) h27 rfl rfl ⟨by rw [bdec_false R],hW20.bel⟩
    rw [hb] at h23
    have h9:x.regs=y.regs:=bne_eq_false_iff_eq.1 hb
    have hc28:Hid (x.regs=y.regs):=h9
    clear h9
    clear hb
    refine St.go h23 ?_;clear h23 a23
    refine sfFunc1 ⟨_,hg5,rfl,rfl⟩ rfl rfl ?_
    refine sbTypes 0 hW20 ⟨_,hg5,rfl,rfl⟩ rfl rfl rfl rfl ?_
    refine sfFunc1 ⟨_,hg5,rfl,rfl⟩ rfl rfl ?_
    refine sbTypes 1 hW20 ⟨_,hg5,rfl,rfl⟩ rfl rfl rfl rfl ?_
    refine sc_2 cf25 hW20 (sameTypes_any (Lay.below In1.out.params hW20.bel) (Lay.below In2.out.params hW20.bel) hs1.out.2.1) ⟨_,hg5,rfl,rfl⟩ rfl rfl rfl ?_
    clear hW20;intro w29 hW29
    refine sn ⟨_,hg5,rfl,rfl⟩ rfl rfl ?_
    refine spf trivial rfl rfl rfl ?_
    refine sm trivial rfl rfl ?_
    intro a30 h30
    rcases Bool.eq_false_or_eq_true (!(bdec (x.params=y.params))) with hb | hb
    ·rw [hb] at h30
     have hb:(bdec (x.params=y.params))=false:=by simpa using hb
     have hc31:¬ (x.params=y.params):=fun h=>by rw [bdec_true h] at hb;cases hb
     clear hb
     refine St.go h30 ?_;clear h30 a30
     refine so hg13 rfl rfl rfl rfl ?_
     refine so hg13 rfl rfl rfl rfl ?_
     refine so hg13 rfl rfl rfl rfl ?_
     refine so hg13 rfl rfl rfl rfl ?_
     refine so hg13 rfl rfl rfl rfl ?_
     refine so hg13 rfl rfl rfl rfl ?_
     refine sp trivial rfl rfl rfl ?_
     refine sm trivial rfl rfl ?_
     refine so hg21 rfl rfl rfl rfl ?_
     refine so hg21 rfl rfl rfl rfl ?_
     refine so hg21 rfl rfl rfl rfl ?_
     refine so hg21 rfl rfl rfl rfl ?_
     refine so hg21 rfl rfl rfl rfl ?_
     refine so hg21 rfl rfl rfl rfl ?_
     refine so hg21 rfl rfl rfl rfl ?_
     refine sp trivial rfl rfl rfl ?_
     refine St.nil fun a32 h32=>?_
     refine hK22 _ _ ?_
     refine fr_true (t:=62) h32 rfl ?_
     refine wp_seq_k fun K33 hK33=>?_
     refine rg h32 fun ops=>?_;clear h32 a32
     refine sa trivial rfl rfl ?_
     refine St.nil fun a34 h34=>?_
     refine hK33 _ _ ?_
     refine wp_ret ?_;with_reducible repeat first | refine of_then_ret ?_ | refine of_block_ret ?_
     have RX:¬ x=y:=by
       intro e
       first
         | exact hlb (by rw [e])
         | exact hc31 (by rw [e])
         | exact hc28 (by rw [e])
     have R:¬ m=k:=by
       intro e
       have h1:=hx1.out
       rw [e,hx2.out] at h1
       exact RX (Option.some.inj h1).symm
     exact ret_tmp (t:=4) h34 rfl rfl ⟨by rw [bdec_false R],hW29.bel⟩
    rw [hb] at h30
    have hb:(bdec (x.params=y.params))=true:=by simpa using hb
    have hc35:(x.params=y.params):=bdec_iff.1 hb
    clear hb
    refine St.go h30 ?_;clear h30 a30
    refine sfFunc2 ⟨_,hg13,rfl,rfl⟩ rfl rfl ?_
    refine sbTypes 0 hW29 ⟨_,hg13,rfl,rfl⟩ rfl rfl rfl rfl ?_
    refine sfFunc2 ⟨_,hg13,rfl,rfl⟩ rfl rfl ?_
    refine sbTypes 1 hW29 ⟨_,hg13,rfl,rfl⟩ rfl rfl rfl rfl ?_
    refine sc_2 cf25 hW29 (sameTypes_any (Lay.below In1.out.results hW29.bel) (Lay.below In2.out.results hW29.bel) hs1.out.2.2.1) ⟨_,hg13,rfl,rfl⟩ rfl rfl rfl ?_
    clear hW29;intro w36 hW36
    refine sn ⟨_,hg13,rfl,rfl⟩ rfl rfl ?_
    refine spf trivial rfl rfl rfl ?_
    refine sm trivial rfl rfl ?_
    intro a37 h37
    rcases Bool.eq_false_or_eq_true (!(bdec (x.results=y.results))) with hb | hb
    ·rw [hb] at h37
     have hb:(bdec (x.results=y.results))=false:=by simpa using hb
     have hc38:¬ (x.results=y.results):=fun h=>by rw [bdec_true h] at hb;cases hb
     clear hb
     refine St.go h37 ?_;clear h37 a37
     refine so hg21 rfl rfl rfl rfl ?_
     refine so hg21 rfl rfl rfl rfl ?_
     refine so hg21 rfl rfl rfl rfl ?_
     refine so hg21 rfl rfl rfl rfl ?_
     refine so hg21 rfl rfl rfl rfl ?_
     refine so hg21 rfl rfl rfl rfl ?_
     refine so hg21 rfl rfl rfl rfl ?_
     refine sp trivial rfl rfl rfl ?_
     refine St.nil fun a39 h39=>?_
     refine hK22 _ _ ?_
     refine fr_true (t:=62) h39 rfl ?_
     refine wp_seq_k fun K40 hK40=>?_
     refine rg h39 fun ops=>?_;clear h39 a39
     refine sa trivial rfl rfl ?_
     refine St.nil fun a41 h41=>?_
     refine hK40 _ _ ?_
     refine wp_ret ?_;with_reducible repeat first | refine of_then_ret ?_ | refine of_block_ret ?_
     have RX:¬ x=y:=by
       intro e
       first
         | exact hlb (by rw [e])
         | exact hc38 (by rw [e])
         | exact hc35 (by rw [e])
         | exact hc28 (by rw [e])
     have R:¬ m=k:=by
       intro e
       have h1:=hx1.out
       rw [e,hx2.out] at h1
       exact RX (Option.some.inj h1).symm
     exact ret_tmp (t:=4) h41 rfl rfl ⟨by rw [bdec_false R],hW36.bel⟩
    rw [hb] at h37
    have hb:(bdec (x.results=y.results))=true:=by simpa using hb
    have hc42:(x.results=y.results):=bdec_iff.1 hb
    clear hb
    refine St.go h37 ?_;clear h37 a37
    refine sfFunc3 ⟨_,hg21,rfl,rfl⟩ rfl rfl ?_
    refine sbBlocks 0 hW36 ⟨_,hg21,rfl,rfl⟩ rfl rfl rfl rfl ?_
    refine slBlocks ⟨_,hg21,rfl,rfl⟩ rfl rfl ?_
    refine sfFunc3 ⟨_,hg21,rfl,rfl⟩ rfl rfl ?_
    refine sbBlocks 1 hW36 ⟨_,hg21,rfl,rfl⟩ rfl rfl rfl rfl ?_
    refine slBlocks ⟨_,hg21,rfl,rfl⟩ rfl rfl ?_
    refine sne ⟨_,hg21,rfl,rfl⟩ rfl rfl rfl ?_
    refine spf trivial rfl rfl rfl ?_
    refine St.nil fun a43 h43=>?_
    refine hK22 _ _ ?_
    refine fr_cond (t:=62) h43 rfl (fun hb=>?_) (fun hb=>?_)
    ·have h9:¬ x.blocks.length=y.blocks.length:=by have h8:=bne_iff_ne.1 hb;omega
     have hlb:¬ x.blocks.length=y.blocks.length:=h9
     clear h9
     clear hb
     refine wp_seq_k fun K44 hK44=>?_
     refine rg h43 fun ops=>?_;clear h43 a43
     refine sa trivial rfl rfl ?_
     refine St.nil fun a45 h45=>?_
     refine hK44 _ _ ?_
     refine wp_ret ?_;with_reducible repeat first | refine of_then_ret ?_ | refine of_block_ret ?_
     have RX:¬ x=y:=by
       intro e
       first
         | exact hlb (by rw [e])
         | exact hc42 (by rw [e])
         | exact hc35 (by rw [e])
         | exact hc28 (by rw [e])
     have R:¬ m=k:=by
       intro e
       have h1:=hx1.out
       rw [e,hx2.out] at h1
       exact RX (Option.some.inj h1).symm
     exact ret_tmp (t:=4) h45 rfl rfl ⟨by rw [bdec_false R],hW36.bel⟩
    have h9:x.blocks.length=y.blocks.length:=by have h8:=bne_eq_false_iff_eq.1 hb;omega
    have hlb:Hid (x.blocks.length=y.blocks.length):=h9
    clear h9
    clear hb
    refine wp_skip ?_
    refine hK21 _ _ ?_
    refine wp_seq_k fun K46 hK46=>?_
    refine rg h43 fun ops=>?_;clear h43 a43
    refine sa trivial rfl rfl ?_
    refine St.nil fun a47 h47=>?_
    refine hK46 _ _ ?_
    refine wp_block ?_
    refine fr_loop (fun r a w'=>∃ qb:Nat,qb≤x.blocks.length∧r=x.blocks.length - qb∧(∀ j,j < qb→x.blocks[j]?=y.blocks[j]?)∧Fr 82 a [(1,.agg #[.slice p2 k.length d]),(0,.agg #[.slice p m.length c]),(2,.pointer (some ⟨B2,0,none⟩)),(3,.pointer (some ⟨B3,0,none⟩)),(4,.bool false),(5,.int .i64 (q:Int)),(6,.pointer (some ⟨BD6,0,none⟩)),(7,.pointer (some ⟨BD7,0,none⟩)),(8,.int .i64 (qb:Int))]∧Wd w w' [(BD6,#[.int .i64 x.regs,.slice f1.pP x.params.length f1.cP,.slice f1.pR x.results.length f1.cR,.slice f1.pB x.blocks.length f1.cB],38),(BD7,#[.int .i64 y.regs,.slice f2.pP y.params.length f2.cP,.slice f2.pR y.results.length f2.cR,.slice f2.pB y.blocks.length f2.cB],38),(B3,#[.slice p2 k.length d],25),(B2,#[.slice p m.length c],25)]) (x.blocks.length) ⟨0,Nat.zero_le _,rfl,(fun j hj=>by omega),(h47.keep (h47.keep (h47.keep (h47.keep (h47.keep (h47.keep (h47.keep (h47.keep (h47.keep h47.nil (t:=8) rfl) (t:=7) rfl) (t:=6) rfl) (t:=5) rfl) (t:=4) rfl) (t:=3) rfl) (t:=2) rfl) (t:=0) rfl) (t:=1) rfl),hW36⟩ ?_
    clear h47 hW36
    rintro rb a48 w48 ⟨qb,hqb,hrb,hal2,hF48,hW48⟩ KLb hKLb
    refine wp_seq_k fun K49 hK49=>?_
    refine wp_seq_k fun K50 hK50=>?_
    refine rg hF48 fun ops=>?_;clear hF48 a48
    refine sm trivial rfl rfl ?_
    refine sfFunc3 trivial rfl rfl ?_
    refine sbBlocks 0 hW48 trivial rfl rfl rfl rfl ?_
    refine slBlocks trivial rfl rfl ?_
    refine slt trivial rfl rfl rfl ?_
    refine St.nil fun a51 h51=>?_
    refine hK50 _ _ ?_
    refine fr_cond (t:=67) h51 rfl (fun hb=>?_) (fun hb=>?_)
    ·have hlt3:qb < x.blocks.length:=by have:=of_decide_eq_true hb;omega
     have hlt4:qb < y.blocks.length:=by have:=hlb.out;omega
     clear hb
     obtain ⟨z,hx3⟩:∃ v9,(x.blocks)[qb]?=some v9:=⟨_,List.getElem?_eq_getElem hlt3⟩
     obtain ⟨g3,o3,b3,hp3,E3,In3⟩:=block_at In1.out.blocks hx3
     replace In3:Hid _:=In3
     replace hp3:Hid _:=hp3
     replace hx3:Hid _:=hx3
     replace E3:Hid _:=E3
     obtain ⟨u,hx4⟩:∃ v9,(y.blocks)[qb]?=some v9:=⟨_,List.getElem?_eq_getElem hlt4⟩
     obtain ⟨g4,o4,b4,hp4,E4,In4⟩:=block_at In2.out.blocks hx4
     replace In4:Hid _:=In4
     replace hp4:Hid _:=hp4
     replace hx4:Hid _:=hx4
     replace E4:Hid _:=E4
     refine wp_skip ?_
     refine hK49 _ _ ?_
     refine wp_seq_k fun K52 hK52=>?_
     refine wp_block ?_
     refine wp_seq_k fun K53 hK53=>?_
     have hF54:Fr 82 a51 [(1,.agg #[.slice p2 k.length d]),(0,.agg #[.slice p m.length c]),(2,.pointer (some ⟨B2,0,none⟩)),(3,.pointer (some ⟨B3,0,none⟩)),(4,.bool false),(5,.int .i64 (q:Int)),(6,.pointer (some ⟨BD6,0,none⟩)),(7,.pointer (some ⟨BD7,0,none⟩)),(8,.int .i64 (qb:Int))]:=(h51.keep (h51.keep (h51.keep (h51.keep (h51.keep (h51.keep (h51.keep (h51.keep (h51.keep h51.nil (t:=8) rfl) (t:=7) rfl) (t:=6) rfl) (t:=5) rfl) (t:=4) rfl) (t:=3) rfl) (t:=2) rfl) (t:=0) rfl) (t:=1) rfl)
     have ho6:a51.tmps.getD 6 undef=.pointer (some ⟨BD6,0,none⟩):=h51.sl 6 _ rfl
     have ho8:a51.tmps.getD 8 undef=.int .i64 (qb:Int):=h51.sl 8 _ rfl
     have ho7:a51.tmps.getD 7 undef=.pointer (some ⟨BD7,0,none⟩):=h51.sl 7 _ rfl
     refine fr_draw_k 12 ([(6,fun v _=>v=.pointer (some ⟨BD6,0,none⟩)),(8,fun v _=>v=.int .i64 (qb:Int)),(7,fun v _=>v=.pointer (some ⟨BD7,0,none⟩)),(70,fun v _=>v=.pointer (some ⟨BD6,3,none⟩)),(71,fun v _=>v=.slice f1.pB x.blocks.length f1.cB),(72,fun v _=>v=.int .i64 (qb:Int)),(73,fun v _=>v=.pointer (some ⟨g3,o3 + qb * 12,none⟩)),(74,fun v _=>v=.agg #[.int .i64 z.regs,.slice b3.pP z.params.length b3.cP,.slice b3.pC z.code.length b3.cC,.int .i64 z.fin.op,.int .i64 z.fin.a,.int .i64 z.fin.yes.block,.slice b3.e.pYR z.fin.yes.regs.length b3.e.cYR,.slice b3.e.pYA z.fin.yes.args.length b3.e.cYA,.int .i64 z.fin.no.block,.slice b3.e.pNR z.fin.no.regs.length b3.e.cNR,.slice b3.e.pNA z.fin.no.args.length b3.e.cNA,.slice b3.e.pA z.fin.args.length b3.e.cA]),(75,fun v _=>v=.pointer (some ⟨BD7,3,none⟩)),(76,fun v _=>v=.slice f2.pB y.blocks.length f2.cB),(77,fun v _=>v=.int .i64 (qb:Int)),(78,fun v _=>v=.pointer (some ⟨g4,o4 + qb * 12,none⟩)),(79,fun v _=>v=.agg #[.int .i64 u.regs,.slice b4.pP u.params.length b4.cP,.slice b4.pC u.code.length b4.cC,.int .i64 u.fin.op,.int .i64 u.fin.a,.int .i64 u.fin.yes.block,.slice b4.e.pYR u.fin.yes.regs.length b4.e.cYR,.slice b4.e.pYA u.fin.yes.args.length b4.e.cYA,.int .i64 u.fin.no.block,.slice b4.e.pNR u.fin.no.regs.length b4.e.cNR,.slice b4.e.pNA u.fin.no.args.length b4.e.cNA,.slice b4.e.pA u.fin.args.length b4.e.cA]),(80,fun v _=>v=.bool (bdec (z=u))),(81,fun v _=>v=.bool (!(bdec (z=u))))]:PTab) (fun w'=>Wd w w' [(BD6,#[.int .i64 x.regs,.slice f1.pP x.params.length f1.cP,.slice f1.pR x.results.length f1.cR,.slice f1.pB x.blocks.length f1.cB],38),(BD7,#[.int .i64 y.regs,.slice f2.pP y.params.length f2.cP,.slice f2.pR y.results.length f2.cR,.slice f2.pB y.blocks.length f2.cB],38),(B3,#[.slice p2 k.length d],25),(B2,#[.slice p m.length c],25)]∧Below w48.heap.size w48 w') (fun w w'=>Below w.heap.size w w') (outs:=[6,8,7]) (gs:=[]) (bs:=[true,true,true,true,true,true,true,true,true,true,true,true]) (by kernel_rfl) hF54 rfl (by kernel_rfl) (by kernel_rfl) ?hR ?hG ⟨hW48.drewN 1,drewN_below (m:=1) (Below.refl _ _)⟩⟨ho6,ho8,ho7,trivial⟩ ?hA ?hend
     case hR=>exact ⟨fun _ _ _ _ h=>h,fun _ _ _ _ h=>h,fun _ _ _ _ h=>h,fun _ _ _ _ h=>h,fun _ _ _ _ h=>h,fun _ _ _ _ h=>h,fun _ _ _ _ h=>h,fun _ _ _ _ h=>h,fun _ _ _ _ h=>h,fun _ _ _ _ h=>h,fun _ _ _ _ h=>h,fun _ _ _ _ h=>h,fun _ _ _ _ h=>h,fun _ _ _ _ h=>h,fun _ _ _ _ h=>h,trivial⟩
     case hG=>exact trivial
     case hA =>
      refine ⟨fun a w hW hk K hK=>?_,?_⟩
      · obtain ⟨k0,-⟩:=hk
        have k0:a.tmps.getD 6 undef=.pointer (some ⟨BD6,0,none⟩):=k0
        go_simp
        exact hK _ _ (Below.refl _ _) hW rfl
      refine ⟨fun a w hW hk K hK=>?_,?_⟩
      · obtain ⟨k0,-⟩:=hk
        have k0:a.tmps.getD 70 undef=.pointer (some ⟨BD6,3,none⟩):=k0
        have c3:w.cell? ⟨BD6,3,none⟩=some (.slice f1.pB x.blocks.length f1.cB):=cellOf (hW.1.get 0 rfl) 3 _ rfl
        go_simp
        exact hK _ _ (Below.refl _ _) hW rfl
      refine ⟨fun a w hW hk K hK=>?_,?_⟩
      · obtain ⟨k0,-⟩:=hk
        have k0:a.tmps.getD 8 undef=.int .i64 (qb:Int):=k0
        go_simp
        exact hK _ _ (Below.refl _ _) hW rfl
      refine ⟨fun a w hW hk K hK=>?_,?_⟩
      · obtain ⟨k0,k1,-⟩:=hk
        have k0:a.tmps.getD 71 undef=.slice f1.pB x.blocks.length f1.cB:=k0
        have k1:a.tmps.getD 72 undef=.int .i64 (qb:Int):=k1
        have hpq:=hp3.out
        have hk0:(0:Int)≤qb:=by omega
        have hk1:(qb:Int) < (x.blocks.length:Int):=by omega
        go_simp
        exact hK _ _ (Below.refl _ _) hW rfl
      refine ⟨fun a w hW hk K hK=>?_,?_⟩
      · obtain ⟨k0,-⟩:=hk
        have k0:a.tmps.getD 73 undef=.pointer (some ⟨g3,o3 + qb * 12,none⟩):=k0
        have d0:w.cell? ⟨g3,o3 + qb * 12,none⟩=some (.int .i64 z.regs):=bel_cell hW.1.bel (E3.out 0 _ rfl)
        have d1:w.cell? ⟨g3,o3 + qb * 12 + 1,none⟩=some (.slice b3.pP z.params.length b3.cP):=bel_cell hW.1.bel (E3.out 1 _ rfl)
        have d2:w.cell? ⟨g3,o3 + qb * 12 + 2,none⟩=some (.slice b3.pC z.code.length b3.cC):=bel_cell hW.1.bel (E3.out 2 _ rfl)
        have d3:w.cell? ⟨g3,o3 + qb * 12 + 3,none⟩=some (.int .i64 z.fin.op):=bel_cell hW.1.bel (E3.out 3 _ rfl)
        have d4:w.cell? ⟨g3,o3 + qb * 12 + 4,none⟩=some (.int .i64 z.fin.a):=bel_cell hW.1.bel (E3.out 4 _ rfl)
        have d5:w.cell? ⟨g3,o3 + qb * 12 + 5,none⟩=some (.int .i64 z.fin.yes.block):=bel_cell hW.1.bel (E3.out 5 _ rfl)
        have d6:w.cell? ⟨g3,o3 + qb * 12 + 6,none⟩=some (.slice b3.e.pYR z.fin.yes.regs.length b3.e.cYR):=bel_cell hW.1.bel (E3.out 6 _ rfl)
        have d7:w.cell? ⟨g3,o3 + qb * 12 + 7,none⟩=some (.slice b3.e.pYA z.fin.yes.args.length b3.e.cYA):=bel_cell hW.1.bel (E3.out 7 _ rfl)
        have d8:w.cell? ⟨g3,o3 + qb * 12 + 8,none⟩=some (.int .i64 z.fin.no.block):=bel_cell hW.1.bel (E3.out 8 _ rfl)
        have d9:w.cell? ⟨g3,o3 + qb * 12 + 9,none⟩=some (.slice b3.e.pNR z.fin.no.regs.length b3.e.cNR):=bel_cell hW.1.bel (E3.out 9 _ rfl)
        have d10:w.cell? ⟨g3,o3 + qb * 12 + 10,none⟩=some (.slice b3.e.pNA z.fin.no.args.length b3.e.cNA):=bel_cell hW.1.bel (E3.out 10 _ rfl)
        have d11:w.cell? ⟨g3,o3 + qb * 12 + 11,none⟩=some (.slice b3.e.pA z.fin.args.length b3.e.cA):=bel_cell hW.1.bel (E3.out 11 _ rfl)
        go_simp
        exact hK _ _ (Below.refl _ _) hW rfl
      refine ⟨fun a w hW hk K hK=>?_,?_⟩
      · obtain ⟨k0,-⟩:=hk
        have k0:a.tmps.getD 7 undef=.pointer (some ⟨BD7,0,none⟩):=k0
        go_simp
        exact hK _ _ (Below.refl _ _) hW rfl
      refine ⟨fun a w hW hk K hK=>?_,?_⟩
      · obtain ⟨k0,-⟩:=hk
        have k0:a.tmps.getD 75 undef=.pointer (some ⟨BD7,3,none⟩):=k0
        have c3:w.cell? ⟨BD7,3,none⟩=some (.slice f2.pB y.blocks.length f2.cB):=cellOf (hW.1.get 1 rfl) 3 _ rfl
        go_simp
        exact hK _ _ (Below.refl _ _) hW rfl
      refine ⟨fun a w hW hk K hK=>?_,?_⟩
      · obtain ⟨k0,-⟩:=hk
        have k0:a.tmps.getD 8 undef=.int .i64 (qb:Int):=k0
        go_simp
        exact hK _ _ (Below.refl _ _) hW rfl
      refine ⟨fun a w hW hk K hK=>?_,?_⟩
      · obtain ⟨k0,k1,-⟩:=hk
        have k0:a.tmps.getD 76 undef=.slice f2.pB y.blocks.length f2.cB:=k0
        have k1:a.tmps.getD 77 undef=.int .i64 (qb:Int):=k1
        have hpq:=hp4.out
        have hk0:(0:Int)≤qb:=by omega
        have hk1:(qb:Int) < (y.blocks.length:Int):=by omega
        go_simp
        exact hK _ _ (Below.refl _ _) hW rfl
      refine ⟨fun a w hW hk K hK=>?_,?_⟩
      · obtain ⟨k0,-⟩:=hk
        have k0:a.tmps.getD 78 undef=.pointer (some ⟨g4,o4 + qb * 12,none⟩):=k0
        have d0:w.cell? ⟨g4,o4 + qb * 12,none⟩=some (.int .i64 u.regs):=bel_cell hW.1.bel (E4.out 0 _ rfl)
        have d1:w.cell? ⟨g4,o4 + qb * 12 + 1,none⟩=some (.slice b4.pP u.params.length b4.cP):=bel_cell hW.1.bel (E4.out 1 _ rfl)
        have d2:w.cell? ⟨g4,o4 + qb * 12 + 2,none⟩=some (.slice b4.pC u.code.length b4.cC):=bel_cell hW.1.bel (E4.out 2 _ rfl)
        have d3:w.cell? ⟨g4,o4 + qb * 12 + 3,none⟩=some (.int .i64 u.fin.op):=bel_cell hW.1.bel (E4.out 3 _ rfl)
        have d4:w.cell? ⟨g4,o4 + qb * 12 + 4,none⟩=some (.int .i64 u.fin.a):=bel_cell hW.1.bel (E4.out 4 _ rfl)
        have d5:w.cell? ⟨g4,o4 + qb * 12 + 5,none⟩=some (.int .i64 u.fin.yes.block):=bel_cell hW.1.bel (E4.out 5 _ rfl)
        have d6:w.cell? ⟨g4,o4 + qb * 12 + 6,none⟩=some (.slice b4.e.pYR u.fin.yes.regs.length b4.e.cYR):=bel_cell hW.1.bel (E4.out 6 _ rfl)
        have d7:w.cell? ⟨g4,o4 + qb * 12 + 7,none⟩=some (.slice b4.e.pYA u.fin.yes.args.length b4.e.cYA):=bel_cell hW.1.bel (E4.out 7 _ rfl)
        have d8:w.cell? ⟨g4,o4 + qb * 12 + 8,none⟩=some (.int .i64 u.fin.no.block):=bel_cell hW.1.bel (E4.out 8 _ rfl)
        have d9:w.cell? ⟨g4,o4 + qb * 12 + 9,none⟩=some (.slice b4.e.pNR u.fin.no.regs.length b4.e.cNR):=bel_cell hW.1.bel (E4.out 9 _ rfl)
        have d10:w.cell? ⟨g4,o4 + qb * 12 + 10,none⟩=some (.slice b4.e.pNA u.fin.no.args.length b4.e.cNA):=bel_cell hW.1.bel (E4.out 10 _ rfl)
        have d11:w.cell? ⟨g4,o4 + qb * 12 + 11,none⟩=some (.slice b4.e.pA u.fin.args.length b4.e.cA):=bel_cell hW.1.bel (E4.out 11 _ rfl)
        go_simp
        exact hK _ _ (Below.refl _ _) hW rfl
      refine ⟨fun a w hW hk K hK=>?_,?_⟩
      · obtain ⟨k0,k1,-⟩:=hk
        have k0:a.tmps.getD 74 undef=.agg #[.int .i64 z.regs,.slice b3.pP z.params.length b3.cP,.slice b3.pC z.code.length b3.cC,.int .i64 z.fin.op,.int .i64 z.fin.a,.int .i64 z.fin.yes.block,.slice b3.e.pYR z.fin.yes.regs.length b3.e.cYR,.slice b3.e.pYA z.fin.yes.args.length b3.e.cYA,.int .i64 z.fin.no.block,.slice b3.e.pNR z.fin.no.regs.length b3.e.cNR,.slice b3.e.pNA z.fin.no.args.length b3.e.cNA,.slice b3.e.pA z.fin.args.length b3.e.cA]:=k0
        have k1:a.tmps.getD 79 undef=.agg #[.int .i64 u.regs,.slice b4.pP u.params.length b4.cP,.slice b4.pC u.code.length b4.cC,.int .i64 u.fin.op,.int .i64 u.fin.a,.int .i64 u.fin.yes.block,.slice b4.e.pYR u.fin.yes.regs.length b4.e.cYR,.slice b4.e.pYA u.fin.yes.args.length b4.e.cYA,.int .i64 u.fin.no.block,.slice b4.e.pNR u.fin.no.regs.length b4.e.cNR,.slice b4.e.pNA u.fin.no.args.length b4.e.cNA,.slice b4.e.pA u.fin.args.length b4.e.cA]:=k1
        have hC:Rd Tryz.prog 26 #[.agg #[.int .i64 z.regs,.slice b3.pP z.params.length b3.cP,.slice b3.pC z.code.length b3.cC,.int .i64 z.fin.op,.int .i64 z.fin.a,.int .i64 z.fin.yes.block,.slice b3.e.pYR z.fin.yes.regs.length b3.e.cYR,.slice b3.e.pYA z.fin.yes.args.length b3.e.cYA,.int .i64 z.fin.no.block,.slice b3.e.pNR z.fin.no.regs.length b3.e.cNR,.slice b3.e.pNA z.fin.no.args.length b3.e.cNA,.slice b3.e.pA z.fin.args.length b3.e.cA],.agg #[.int .i64 u.regs,.slice b4.pP u.params.length b4.cP,.slice b4.pC u.code.length b4.cC,.int .i64 u.fin.op,.int .i64 u.fin.a,.int .i64 u.fin.yes.block,.slice b4.e.pYR u.fin.yes.regs.length b4.e.cYR,.slice b4.e.pYA u.fin.yes.args.length b4.e.cYA,.int .i64 u.fin.no.block,.slice b4.e.pNR u.fin.no.regs.length b4.e.cNR,.slice b4.e.pNA u.fin.no.args.length b4.e.cNA,.slice b4.e.pA u.fin.args.length b4.e.cA]] w (.bool (bdec (z=u))):=sameBlock_any (In3.out.below hW.1.bel) (In4.out.below hW.1.bel) (hs1.out.2.2.2 z (List.mem_of_getElem? hx3.out))
        go_simp
        refine hC.mono ?_
        rintro e w9 ⟨rfl,hb⟩
        exact hK _ _ hb ⟨hW.1.below hb,Below.andThen hW.2 hb⟩ rfl
      refine ⟨fun a w hW hk K hK=>?_,?_⟩
      · obtain ⟨k0,-⟩:=hk
        have k0:a.tmps.getD 80 undef=.bool (bdec (z=u)):=k0
        go_simp
        exact hK _ _ (Below.refl _ _) hW rfl
      trivial
     case hend =>
      intro ops a55 w55 hWD hE hFD
      have hd81:a55.tmps.getD 81 undef=.bool (!(bdec (z=u))):=hE 81 rfl
      have hF55:Fr 82 a55 [(81,.bool (!(bdec (z=u)))),(1,.agg #[.slice p2 k.length d]),(0,.agg #[.slice p m.length c]),(2,.pointer (some ⟨B2,0,none⟩)),(3,.pointer (some ⟨B3,0,none⟩)),(4,.bool false),(5,.int .i64 (q:Int)),(6,.pointer (some ⟨BD6,0,none⟩)),(7,.pointer (some ⟨BD7,0,none⟩)),(8,.int .i64 (qb:Int))]:=(hFD.cons hd81)
      clear hd81
      have hW55:Wd w w55 [(BD6,#[.int .i64 x.regs,.slice f1.pP x.params.length f1.cP,.slice f1.pR x.results.length f1.cR,.slice f1.pB x.blocks.length f1.cB],38),(BD7,#[.int .i64 y.regs,.slice f2.pP y.params.length f2.cP,.slice f2.pR y.results.length f2.cR,.slice f2.pB y.blocks.length f2.cB],38),(B3,#[.slice p2 k.length d],25),(B2,#[.slice p m.length c],25)]:=hWD.1
      clear hFD hWD hE hF54 h51
      clear hW48
      refine wpList_nil ?_
      refine hK53 _ _ ?_
      refine fr_cond (t:=81) hF55 rfl (fun hb=>?_) (fun hb=>?_)
      ·have hb:(bdec (z=u))=false:=by simpa using hb
       have hel:¬ (z=u):=fun h=>by rw [bdec_true h] at hb;cases hb
       clear hb
       refine wp_seq_k fun K56 hK56=>?_
       refine rg hF55 fun ops=>?_;clear hF55 a55
       refine sa trivial rfl rfl ?_
       refine St.nil fun a57 h57=>?_
       refine hK56 _ _ ?_
       refine wp_ret ?_;with_reducible repeat first | refine of_then_ret ?_ | refine of_block_ret ?_
       have RX:¬ x=y:=by
         intro e
         have h1:=hx3.out
         rw [e,hx4.out] at h1
         exact hel (Option.some.inj h1).symm
       have R:¬ m=k:=by
         intro e
         have h1:=hx1.out
         rw [e,hx2.out] at h1
         exact RX (Option.some.inj h1).symm
       exact ret_tmp (t:=4) h57 rfl rfl ⟨by rw [bdec_false R],hW55.bel⟩
      have hb:(bdec (z=u))=true:=by simpa using hb
      have hel:(z=u):=bdec_iff.1 hb
      clear hb
      refine wp_skip ?_
      refine hK52 _ _ ?_
      refine rg hF55 fun ops=>?_;clear hF55 a55
      refine sm trivial rfl rfl ?_
      refine sad (by omega) trivial rfl rfl rfl ?_
      refine sa trivial rfl rfl ?_
      refine St.nil fun a58 h58=>?_
      refine hKLb _ _ (x.blocks.length - (qb + 1)) (by omega) ⟨qb + 1,by omega,rfl,?_,(h58.keep (h58.keep (h58.keep (h58.keep (h58.keep (h58.keep (h58.keep (h58.keep (h58.keep h58.nil (t:=8) rfl) (t:=7) rfl) (t:=6) rfl) (t:=5) rfl) (t:=4) rfl) (t:=3) rfl) (t:=2) rfl) (t:=0) rfl) (t:=1) rfl),hW55⟩
      ·intro j hj
       by_cases e:j=qb
       · subst e;rw [hx3.out,hx4.out,hel]
       · exact hal2 j (by omega)
    have hge2:qb=x.blocks.length:=by have:=of_decide_eq_false hb;omega
    clear hb
    have RB:x.blocks=y.blocks:=by
      have:=hlb.out
      refine List.ext_getElem? fun i=>?_
      by_cases hi:i < qb
      · exact hal2 i hi
      · rw [List.getElem?_eq_none (by omega),List.getElem?_eq_none (by omega)]
    have RX:x=y:=MFunc.eq_of hc28.out hc35 hc42 RB
    refine wp_exit ?_
    refine hK17 _ _ ?_
    refine rg h51 fun ops=>?_;clear h51 a51
    refine sm trivial rfl rfl ?_
    refine sad (by omega) trivial rfl rfl rfl ?_
    refine sa trivial rfl rfl ?_
    refine St.nil fun a59 h59=>?_
    refine hKL _ _ (m.length - (q + 1)) (by omega) ⟨q + 1,by omega,rfl,?_,(h59.keep (h59.keep (h59.keep (h59.keep (h59.keep (h59.keep h59.nil (t:=5) rfl) (t:=4) rfl) (t:=3) rfl) (t:=2) rfl) (t:=0) rfl) (t:=1) rfl),hW48.tail.tail⟩
    ·intro j hj
     by_cases e:j=q
     · subst e;rw [hx1.out,hx2.out,RX]
     · exact hall j (by omega)
  have hge:q=m.length:=by have:=of_decide_eq_false hb;omega
  clear hb
  refine wp_exit ?_
  refine hK10 _ _ ?_
  refine wp_seq_k fun K60 hK60=>?_
  refine rg h16 fun ops=>?_;clear h16 a16
  refine sa trivial rfl rfl ?_
  refine St.nil fun a61 h61=>?_
  refine hK60 _ _ ?_
  refine wp_ret ?_;with_reducible repeat first | refine of_then_ret ?_ | refine of_block_ret ?_
  have R:m=k:=by
    have:=hlen.out
    refine List.ext_getElem? fun i=>?_
    by_cases hi:i < q
    · exact hall i hi
    · rw [List.getElem?_eq_none (by omega),List.getElem?_eq_none (by omega)]
  exact ret_tmp (t:=4) h61 rfl rfl ⟨by rw [bdec_true R],hW13.bel⟩
end Go.Proofs.YtjodmledadbgeacGreatDoor
