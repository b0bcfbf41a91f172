import Derived.Test.YtjdcjfpfpaplladGreatP2
import Derived.Lib.SmallJoins
set_option maxHeartbeats 16000000
set_option maxRecDepth 100000
namespace Go.Proofs.YtjdcjfpfpaplladGreat
open Go.ChangeShapes Go.WideShapes Go.ChangeAt Go.RowKit
set_option linter.unusedSimpArgs false
set_option linter.unusedVariables false
def rangeC (x l m : Int) : Int := if x < l ∨ m < x then 1 else 0
def manyC (len : Nat) (m : Int) : Int := if m < len then 2 else 0
def handedC (r : Nat) (m : Int) (s : Nat) : Int := if manyC r m ≠ 0 then manyC r m else manyC s 8
def bareB (a b c k n : Int) (rl al : Nat) : Bool := a == 0 && b == 0 && c == 0 && k == 0 && n == 0 && (rl : Int) == 0 && (al : Int) == 0
def boundsC (funcs : Nat) (op k : Int) (rl al : Nat) : Int :=
  if op=2 then rangeC k 1 9 else if op=6∨op=7 then rangeC k 0 7 else if op=5 then manyC al 8
  else if op=14 then (if rangeC k 0 ((funcs:Int) - 1)=0 then handedC rl 6 al else rangeC k 0 ((funcs:Int) - 1)) else 0
theorem fb (f : Bool) (a : Int) : (!f && a != 0) = !((bif f then 0 else a) == 0) := by cases f <;> simp [bne]
theorem fbn (f : Bool) (l : Nat) : (!f && decide (0 < l)) = !(((bif f then 0 else l : Nat) : Int) == 0) := by
  cases f
  · by_cases h:l=0
    · simp [h]
    · have:0<l:=by omega
      simp [this,h]
  · simp
theorem bounds_eq (lm : Nat) (op k : Int) (rl al : Nat) : (if op = 2 ∧ (k < 1 ∨ 9 < k) then 1
    else if op=5∧8<al then 2
    else if (op=6∨op=7)∧(k<0∨7<k) then 1
    else if op=14∧(k<0∨(lm:Int)≤k) then 1
    else if op=14∧(6<rl∨8<al) then 2
    else 0)=boundsC lm op k rl al:=by
  unfold boundsC;by_cases h2:op=2
  · subst h2;simp [rangeC]
  · by_cases h6:op=6∨op=7
    · have h5:¬ op=5:=by omega
      have h14:¬ op=14:=by omega
      simp [h2,h5,h6,h14,rangeC]
    · by_cases h5:op=5
      · subst h5;simp [manyC];split <;> split <;> omega
      · by_cases h14:op=14
        · subst h14;simp [rangeC,handedC,manyC];repeat' split
          all_goals omega
        · simp [h2,h5,h6,h14]
theorem insForm_bare {lm : Nat} {op a b c k n : Int} {rl al : Nat} {fa fb' fc fk fn fr fs : Bool} (e : fieldsOf op = some (fa, fb', fc, fk, fn, fr, fs)) :
    insForm lm op a b c k n rl al=if bareB (bif fa then 0 else a) (bif fb' then 0 else b) (bif fc then 0 else c) (bif fk then 0 else k) (bif fn then 0 else n) (bif fr then 0 else rl) (bif fs then 0 else al)=true then boundsC lm op k rl al else 4:=by
  simp only [insForm,e,bounds_eq];rw [fb,fb,fb,fb,fb,fbn,fbn];unfold bareB;generalize ((bif fa then 0 else a)==0)=q1;generalize ((bif fb' then 0 else b)==0)=q2;generalize ((bif fc then 0 else c)==0)=q3;generalize ((bif fk then 0 else k)==0)=q4;generalize ((bif fn then 0 else n)==0)=q5;generalize (((bif fr then 0 else rl:Nat):Int)==0)=q6;generalize (((bif fs then 0 else al:Nat):Int)==0)=q7
  cases q1 <;> cases q2 <;> cases q3 <;> cases q4 <;> cases q5 <;> cases q6 <;> cases q7 <;> rfl
theorem cFuncAt_any {f : Nat} {w : World} (h : f < 1000000) : Rd Tryz.prog 73 #[.int .i64 (f : Int)] w (.int .i64 (10000 * (f : Int) + 9999)) := by
  unfold Rd;skip
  skip
  go_enter Tryz.func73,Tryz.ntmps73
  go_wp2
  go_ret;refine ⟨?_,Below.refl _ _⟩;show Ending.returned (.int .i64 ((f:Int)*10000+9999))=_;congr 2
  omega
theorem cBlockAt_any {f b : Nat} {w : World} (h : f < 1000000 ∧ b < 1000000) : Rd Tryz.prog 95 #[.int .i64 (f : Int), .int .i64 (b : Int)] w (.int .i64 (10000 * (f : Int) + 100 * (b : Int) + 90)) := by
  unfold Rd;have h1:=h.1;have h2:=h.2;skip
  go_enter Tryz.func95,Tryz.ntmps95
  go_wp2
  go_ret;refine ⟨?_,Below.refl _ _⟩;show Ending.returned (.int .i64 ((f:Int)*10000+(b:Int)*100+90))=_;congr 2
  omega
theorem cEndAt_any {f b : Nat} {w : World} (h : f < 1000000 ∧ b < 1000000) : Rd Tryz.prog 101 #[.int .i64 (f : Int), .int .i64 (b : Int)] w (.int .i64 (10000 * (f : Int) + 100 * (b : Int) + 91)) := by
  unfold Rd;have h1:=h.1;have h2:=h.2;skip
  go_enter Tryz.func101,Tryz.ntmps101
  go_wp2
  go_ret;refine ⟨?_,Below.refl _ _⟩;show Ending.returned (.int .i64 ((f:Int)*10000+(b:Int)*100+91))=_;congr 2
  omega
theorem cInsAt_any {f b i : Nat} {w : World} (h : f < 1000000 ∧ b < 1000000 ∧ i < 1000000) : Rd Tryz.prog 99 #[.int .i64 (f : Int), .int .i64 (b : Int), .int .i64 (i : Int)] w (.int .i64 (10000 * (f : Int) + 100 * (b : Int) + (i : Int))) := by
  unfold Rd;have h1:=h.1;have h2:=h.2;have h3:=h.2.1;have h4:=h.2.2;go_enter Tryz.func99,Tryz.ntmps99
  go_wp2
  go_ret;refine ⟨?_,Below.refl _ _⟩;show Ending.returned (.int .i64 ((f:Int)*10000+(b:Int)*100+(i:Int)))=_;congr 2
  omega
theorem rangeCode_any {x l m : Int} {w : World} : Rd Tryz.prog 142 #[.int .i64 x, .int .i64 l, .int .i64 m] w (.int .i64 (rangeC x l m)) := by
  unfold Rd rangeC;by_cases h1:x<l
  · rw [if_pos (.inl h1)];go_enter Tryz.func142,Tryz.ntmps142
    go_wp2
    go_ret;exact ⟨rfl,Below.refl _ _⟩
  · by_cases h2:m<x
    · rw [if_pos (.inr h2)];go_enter Tryz.func142,Tryz.ntmps142
      go_wp2
      go_ret;exact ⟨rfl,Below.refl _ _⟩
    · rw [if_neg (by omega)];go_enter Tryz.func142,Tryz.ntmps142
      go_wp2
      go_ret;exact ⟨rfl,Below.refl _ _⟩
theorem manyCode_any {p : Option Addr} {len c : Nat} {m : Int} {w : World} : Rd Tryz.prog 143 #[.slice p len c, .int .i64 m] w (.int .i64 (manyC len m)) := by
  unfold Rd manyC;by_cases h1:m<len
  · rw [if_pos h1];go_enter Tryz.func143,Tryz.ntmps143
    go_wp2
    go_ret;exact ⟨rfl,Below.refl _ _⟩
  · rw [if_neg h1];go_enter Tryz.func143,Tryz.ntmps143
    go_wp2
    go_ret;exact ⟨rfl,Below.refl _ _⟩
theorem handedCode_any {p q : Option Addr} {r c s d : Nat} {m : Int} {w : World} : Rd Tryz.prog 144 #[.slice p r c, .int .i64 m, .slice q s d] w (.int .i64 (handedC r m s)) := by
  have C1:Hid (∀ wx:World,Calls Tryz.prog 143 #[.slice p r c,.int .i64 m] wx fun e w'=>e=.returned (.int .i64 (manyC r m))∧Below wx.heap.size wx w'):=fun wx=>manyCode_any;have C2:Hid (∀ wx:World,Calls Tryz.prog 143 #[.slice q s d,.int .i64 8] wx fun e w'=>e=.returned (.int .i64 (manyC s 8))∧Below wx.heap.size wx w'):=fun wx=>manyCode_any;unfold Rd handedC;by_cases h:manyC r m=0
  · rw [if_neg (by simpa using h)];rw [h] at C1;go_enter Tryz.func144,Tryz.ntmps144
    go_wp2_with fail
    refine (C1.out w).mono ?_;rintro e w1 ⟨rfl,b1⟩;have B1:Hid (Below w.heap.size w w1):=b1;clear b1 C1;go_wp2_with fail
    refine (C2.out w1).mono ?_;rintro e w2 ⟨rfl,b2⟩;have B2:Hid (Below w.heap.size w w2):=B1.out.trans (b2.mono B1.out.size);clear b2 C2 B1;go_wp2
    go_ret;exact ⟨rfl,B2.out⟩
  · rw [if_pos h];have h':(manyC r m==0)=false:=by simpa using h
    generalize manyC r m=v at C1 h' h ⊢;go_enter Tryz.func144,Tryz.ntmps144
    go_wp2_with fail
    refine (C1.out w).mono ?_;rintro e w1 ⟨rfl,b1⟩;have B1:Hid (Below w.heap.size w w1):=b1;clear b1 C1 C2;go_wp2
    go_ret;exact ⟨rfl,B1.out⟩
theorem isBare_any {xop : Int} {xa xb xc xk xn : Int} {ra aa : Option Addr} {rl rc al ac : Nat} {w : World} : Rd Tryz.prog 125 #[.agg #[.int .i64 xop, .int .i64 xa, .int .i64 xb, .int .i64 xc, .int .i64 xk, .int .i64 xn, .slice ra rl rc, .slice aa al ac]] w (.bool (bareB xa xb xc xk xn rl al)) := by
  unfold Rd
  · by_cases h0:xa=0
    · subst h0
      · by_cases h1:xb=0
        · subst h1
          · by_cases h2:xc=0
            · subst h2
              · by_cases h3:xk=0
                · subst h3
                  · by_cases h4:xn=0
                    · subst h4
                      · by_cases h5:rl=0
                        · subst h5
                          · by_cases h6:al=0
                            · subst h6
                              · rw [show bareB 0 0 0 0 0 0 0=true from rfl];go_enter Tryz.func125,Tryz.ntmps125
                                go_wp2
                                go_ret;exact ⟨rfl,bel1 _ _⟩
                            · have g6:((al:Int)==0)=false:=by simpa using h6
                              rw [show bareB 0 0 0 0 0 0 al=false by simp [bareB,g6]];go_enter Tryz.func125,Tryz.ntmps125
                              go_wp2
                              go_ret;exact ⟨rfl,bel1 _ _⟩
                        · have g5:((rl:Int)==0)=false:=by simpa using h5
                          rw [show bareB 0 0 0 0 0 rl al=false by simp [bareB,g5]];go_enter Tryz.func125,Tryz.ntmps125
                          go_wp2
                          go_ret;exact ⟨rfl,bel1 _ _⟩
                    · have g4:(xn==0)=false:=by simpa using h4
                      rw [show bareB 0 0 0 0 xn rl al=false by simp [bareB,g4]];go_enter Tryz.func125,Tryz.ntmps125
                      go_wp2
                      go_ret;exact ⟨rfl,bel1 _ _⟩
                · have g3:(xk==0)=false:=by simpa using h3
                  rw [show bareB 0 0 0 xk xn rl al=false by simp [bareB,g3]];go_enter Tryz.func125,Tryz.ntmps125
                  go_wp2
                  go_ret;exact ⟨rfl,bel1 _ _⟩
            · have g2:(xc==0)=false:=by simpa using h2
              rw [show bareB 0 0 xc xk xn rl al=false by simp [bareB,g2]];go_enter Tryz.func125,Tryz.ntmps125
              go_wp2
              go_ret;exact ⟨rfl,bel1 _ _⟩
        · have g1:(xb==0)=false:=by simpa using h1
          rw [show bareB 0 xb xc xk xn rl al=false by simp [bareB,g1]];go_enter Tryz.func125,Tryz.ntmps125
          go_wp2
          go_ret;exact ⟨rfl,bel1 _ _⟩
    · have g0:(xa==0)=false:=by simpa using h0
      rw [show bareB xa xb xc xk xn rl al=false by simp [bareB,g0]];go_enter Tryz.func125,Tryz.ntmps125
      go_wp2
      go_ret;exact ⟨rfl,bel1 _ _⟩
theorem wf1 {xa xb xc xk xn : Int} {ra aa : Option Addr} {rl rc al ac : Nat} {w : World} : Rd Tryz.prog 124 #[.agg #[.int .i64 1, .int .i64 xa, .int .i64 xb, .int .i64 xc, .int .i64 xk, .int .i64 xn, .slice ra rl rc, .slice aa al ac]] w (.tuple #[.agg #[.int .i64 1, .int .i64 xa, .int .i64 xb, .int .i64 xc, .int .i64 xk, .int .i64 0, .slice ra rl rc, .slice aa al ac], .bool true]) := by
  unfold Rd;go_enter Tryz.func124,Tryz.ntmps124
  go_wp2
  exact bodyPost_ret (v:=.tuple #[.agg #[.int .i64 1,.int .i64 xa,.int .i64 xb,.int .i64 xc,.int .i64 xk,.int .i64 0,.slice ra rl rc,.slice aa al ac],.bool true]) (by simp [results,Tryz.results124,go_sem]) rfl ⟨rfl,bel2 _ _ _⟩
theorem wf2 {xa xb xc xk xn : Int} {ra aa : Option Addr} {rl rc al ac : Nat} {w : World} : Rd Tryz.prog 124 #[.agg #[.int .i64 2, .int .i64 xa, .int .i64 xb, .int .i64 xc, .int .i64 xk, .int .i64 xn, .slice ra rl rc, .slice aa al ac]] w (.tuple #[.agg #[.int .i64 2, .int .i64 0, .int .i64 0, .int .i64 xc, .int .i64 0, .int .i64 xn, .slice ra rl rc, .slice aa al ac], .bool true]) := by
  unfold Rd;go_enter Tryz.func124,Tryz.ntmps124
  go_wp2
  exact bodyPost_ret (v:=.tuple #[.agg #[.int .i64 2,.int .i64 0,.int .i64 0,.int .i64 xc,.int .i64 0,.int .i64 xn,.slice ra rl rc,.slice aa al ac],.bool true]) (by simp [results,Tryz.results124,go_sem]) rfl ⟨rfl,bel2 _ _ _⟩
theorem wf3 {xa xb xc xk xn : Int} {ra aa : Option Addr} {rl rc al ac : Nat} {w : World} : Rd Tryz.prog 124 #[.agg #[.int .i64 3, .int .i64 xa, .int .i64 xb, .int .i64 xc, .int .i64 xk, .int .i64 xn, .slice ra rl rc, .slice aa al ac]] w (.tuple #[.agg #[.int .i64 3, .int .i64 xa, .int .i64 xb, .int .i64 xc, .int .i64 xk, .int .i64 xn, .slice ra rl rc, .slice aa al ac], .bool true]) := by
  unfold Rd;go_enter Tryz.func124,Tryz.ntmps124
  go_wp2
  exact bodyPost_ret (v:=.tuple #[.agg #[.int .i64 3,.int .i64 xa,.int .i64 xb,.int .i64 xc,.int .i64 xk,.int .i64 xn,.slice ra rl rc,.slice aa al ac],.bool true]) (by simp [results,Tryz.results124,go_sem]) rfl ⟨rfl,bel2 _ _ _⟩
theorem wf4 {xa xb xc xk xn : Int} {ra aa : Option Addr} {rl rc al ac : Nat} {w : World} : Rd Tryz.prog 124 #[.agg #[.int .i64 4, .int .i64 xa, .int .i64 xb, .int .i64 xc, .int .i64 xk, .int .i64 xn, .slice ra rl rc, .slice aa al ac]] w (.tuple #[.agg #[.int .i64 4, .int .i64 0, .int .i64 xb, .int .i64 xc, .int .i64 xk, .int .i64 xn, .slice ra rl rc, .slice aa al ac], .bool true]) := by
  unfold Rd;go_enter Tryz.func124,Tryz.ntmps124
  go_wp2
  exact bodyPost_ret (v:=.tuple #[.agg #[.int .i64 4,.int .i64 0,.int .i64 xb,.int .i64 xc,.int .i64 xk,.int .i64 xn,.slice ra rl rc,.slice aa al ac],.bool true]) (by simp [results,Tryz.results124,go_sem]) rfl ⟨rfl,bel2 _ _ _⟩
theorem wf5 {xa xb xc xk xn : Int} {ra aa : Option Addr} {rl rc al ac : Nat} {w : World} : Rd Tryz.prog 124 #[.agg #[.int .i64 5, .int .i64 xa, .int .i64 xb, .int .i64 xc, .int .i64 xk, .int .i64 xn, .slice ra rl rc, .slice aa al ac]] w (.tuple #[.agg #[.int .i64 5, .int .i64 0, .int .i64 xb, .int .i64 xc, .int .i64 xk, .int .i64 xn, .slice ra rl rc, .slice none 0 0], .bool true]) := by
  unfold Rd;go_enter Tryz.func124,Tryz.ntmps124
  go_wp2
  exact bodyPost_ret (v:=.tuple #[.agg #[.int .i64 5,.int .i64 0,.int .i64 xb,.int .i64 xc,.int .i64 xk,.int .i64 xn,.slice ra rl rc,.slice none 0 0],.bool true]) (by simp [results,Tryz.results124,go_sem]) rfl ⟨rfl,bel2 _ _ _⟩
theorem wf6 {xa xb xc xk xn : Int} {ra aa : Option Addr} {rl rc al ac : Nat} {w : World} : Rd Tryz.prog 124 #[.agg #[.int .i64 6, .int .i64 xa, .int .i64 xb, .int .i64 xc, .int .i64 xk, .int .i64 xn, .slice ra rl rc, .slice aa al ac]] w (.tuple #[.agg #[.int .i64 6, .int .i64 0, .int .i64 xb, .int .i64 xc, .int .i64 0, .int .i64 xn, .slice ra rl rc, .slice aa al ac], .bool true]) := by
  unfold Rd;go_enter Tryz.func124,Tryz.ntmps124
  go_wp2
  exact bodyPost_ret (v:=.tuple #[.agg #[.int .i64 6,.int .i64 0,.int .i64 xb,.int .i64 xc,.int .i64 0,.int .i64 xn,.slice ra rl rc,.slice aa al ac],.bool true]) (by simp [results,Tryz.results124,go_sem]) rfl ⟨rfl,bel2 _ _ _⟩
theorem wf7 {xa xb xc xk xn : Int} {ra aa : Option Addr} {rl rc al ac : Nat} {w : World} : Rd Tryz.prog 124 #[.agg #[.int .i64 7, .int .i64 xa, .int .i64 xb, .int .i64 xc, .int .i64 xk, .int .i64 xn, .slice ra rl rc, .slice aa al ac]] w (.tuple #[.agg #[.int .i64 7, .int .i64 0, .int .i64 0, .int .i64 xc, .int .i64 0, .int .i64 xn, .slice ra rl rc, .slice aa al ac], .bool true]) := by
  unfold Rd;go_enter Tryz.func124,Tryz.ntmps124
  go_wp2
  exact bodyPost_ret (v:=.tuple #[.agg #[.int .i64 7,.int .i64 0,.int .i64 0,.int .i64 xc,.int .i64 0,.int .i64 xn,.slice ra rl rc,.slice aa al ac],.bool true]) (by simp [results,Tryz.results124,go_sem]) rfl ⟨rfl,bel2 _ _ _⟩
theorem wf8 {xa xb xc xk xn : Int} {ra aa : Option Addr} {rl rc al ac : Nat} {w : World} : Rd Tryz.prog 124 #[.agg #[.int .i64 8, .int .i64 xa, .int .i64 xb, .int .i64 xc, .int .i64 xk, .int .i64 xn, .slice ra rl rc, .slice aa al ac]] w (.tuple #[.agg #[.int .i64 8, .int .i64 0, .int .i64 0, .int .i64 xc, .int .i64 xk, .int .i64 xn, .slice ra rl rc, .slice aa al ac], .bool true]) := by
  unfold Rd;go_enter Tryz.func124,Tryz.ntmps124
  go_wp2
  exact bodyPost_ret (v:=.tuple #[.agg #[.int .i64 8,.int .i64 0,.int .i64 0,.int .i64 xc,.int .i64 xk,.int .i64 xn,.slice ra rl rc,.slice aa al ac],.bool true]) (by simp [results,Tryz.results124,go_sem]) rfl ⟨rfl,bel2 _ _ _⟩
theorem wf9 {xa xb xc xk xn : Int} {ra aa : Option Addr} {rl rc al ac : Nat} {w : World} : Rd Tryz.prog 124 #[.agg #[.int .i64 9, .int .i64 xa, .int .i64 xb, .int .i64 xc, .int .i64 xk, .int .i64 xn, .slice ra rl rc, .slice aa al ac]] w (.tuple #[.agg #[.int .i64 9, .int .i64 0, .int .i64 0, .int .i64 xc, .int .i64 xk, .int .i64 xn, .slice ra rl rc, .slice aa al ac], .bool true]) := by
  unfold Rd;go_enter Tryz.func124,Tryz.ntmps124
  go_wp2
  exact bodyPost_ret (v:=.tuple #[.agg #[.int .i64 9,.int .i64 0,.int .i64 0,.int .i64 xc,.int .i64 xk,.int .i64 xn,.slice ra rl rc,.slice aa al ac],.bool true]) (by simp [results,Tryz.results124,go_sem]) rfl ⟨rfl,bel2 _ _ _⟩
theorem wf10 {xa xb xc xk xn : Int} {ra aa : Option Addr} {rl rc al ac : Nat} {w : World} : Rd Tryz.prog 124 #[.agg #[.int .i64 10, .int .i64 xa, .int .i64 xb, .int .i64 xc, .int .i64 xk, .int .i64 xn, .slice ra rl rc, .slice aa al ac]] w (.tuple #[.agg #[.int .i64 10, .int .i64 0, .int .i64 0, .int .i64 0, .int .i64 xk, .int .i64 xn, .slice ra rl rc, .slice aa al ac], .bool true]) := by
  unfold Rd;go_enter Tryz.func124,Tryz.ntmps124
  go_wp2
  exact bodyPost_ret (v:=.tuple #[.agg #[.int .i64 10,.int .i64 0,.int .i64 0,.int .i64 0,.int .i64 xk,.int .i64 xn,.slice ra rl rc,.slice aa al ac],.bool true]) (by simp [results,Tryz.results124,go_sem]) rfl ⟨rfl,bel2 _ _ _⟩
theorem wf11 {xa xb xc xk xn : Int} {ra aa : Option Addr} {rl rc al ac : Nat} {w : World} : Rd Tryz.prog 124 #[.agg #[.int .i64 11, .int .i64 xa, .int .i64 xb, .int .i64 xc, .int .i64 xk, .int .i64 xn, .slice ra rl rc, .slice aa al ac]] w (.tuple #[.agg #[.int .i64 11, .int .i64 0, .int .i64 xb, .int .i64 xc, .int .i64 xk, .int .i64 xn, .slice ra rl rc, .slice aa al ac], .bool true]) := by
  unfold Rd;go_enter Tryz.func124,Tryz.ntmps124
  go_wp2
  exact bodyPost_ret (v:=.tuple #[.agg #[.int .i64 11,.int .i64 0,.int .i64 xb,.int .i64 xc,.int .i64 xk,.int .i64 xn,.slice ra rl rc,.slice aa al ac],.bool true]) (by simp [results,Tryz.results124,go_sem]) rfl ⟨rfl,bel2 _ _ _⟩
theorem wf12 {xa xb xc xk xn : Int} {ra aa : Option Addr} {rl rc al ac : Nat} {w : World} : Rd Tryz.prog 124 #[.agg #[.int .i64 12, .int .i64 xa, .int .i64 xb, .int .i64 xc, .int .i64 xk, .int .i64 xn, .slice ra rl rc, .slice aa al ac]] w (.tuple #[.agg #[.int .i64 12, .int .i64 xa, .int .i64 xb, .int .i64 xc, .int .i64 xk, .int .i64 xn, .slice ra rl rc, .slice aa al ac], .bool true]) := by
  unfold Rd;go_enter Tryz.func124,Tryz.ntmps124
  go_wp2
  exact bodyPost_ret (v:=.tuple #[.agg #[.int .i64 12,.int .i64 xa,.int .i64 xb,.int .i64 xc,.int .i64 xk,.int .i64 xn,.slice ra rl rc,.slice aa al ac],.bool true]) (by simp [results,Tryz.results124,go_sem]) rfl ⟨rfl,bel2 _ _ _⟩
theorem wf13 {xa xb xc xk xn : Int} {ra aa : Option Addr} {rl rc al ac : Nat} {w : World} : Rd Tryz.prog 124 #[.agg #[.int .i64 13, .int .i64 xa, .int .i64 xb, .int .i64 xc, .int .i64 xk, .int .i64 xn, .slice ra rl rc, .slice aa al ac]] w (.tuple #[.agg #[.int .i64 13, .int .i64 0, .int .i64 xb, .int .i64 xc, .int .i64 xk, .int .i64 xn, .slice ra rl rc, .slice aa al ac], .bool true]) := by
  unfold Rd;go_enter Tryz.func124,Tryz.ntmps124
  go_wp2
  exact bodyPost_ret (v:=.tuple #[.agg #[.int .i64 13,.int .i64 0,.int .i64 xb,.int .i64 xc,.int .i64 xk,.int .i64 xn,.slice ra rl rc,.slice aa al ac],.bool true]) (by simp [results,Tryz.results124,go_sem]) rfl ⟨rfl,bel2 _ _ _⟩
theorem wf14 {xa xb xc xk xn : Int} {ra aa : Option Addr} {rl rc al ac : Nat} {w : World} : Rd Tryz.prog 124 #[.agg #[.int .i64 14, .int .i64 xa, .int .i64 xb, .int .i64 xc, .int .i64 xk, .int .i64 xn, .slice ra rl rc, .slice aa al ac]] w (.tuple #[.agg #[.int .i64 14, .int .i64 xa, .int .i64 xb, .int .i64 xc, .int .i64 0, .int .i64 xn, .slice none 0 0, .slice none 0 0], .bool true]) := by
  unfold Rd;go_enter Tryz.func124,Tryz.ntmps124
  go_wp2
  exact bodyPost_ret (v:=.tuple #[.agg #[.int .i64 14,.int .i64 xa,.int .i64 xb,.int .i64 xc,.int .i64 0,.int .i64 xn,.slice none 0 0,.slice none 0 0],.bool true]) (by simp [results,Tryz.results124,go_sem]) rfl ⟨rfl,bel2 _ _ _⟩
theorem wfNo {xop : Int} {xa xb xc xk xn : Int} {ra aa : Option Addr} {rl rc al ac : Nat} {w : World} (h : xop ≠ 1 ∧ xop ≠ 2 ∧ xop ≠ 3 ∧ xop ≠ 4 ∧ xop ≠ 5 ∧ xop ≠ 6 ∧ xop ≠ 7 ∧ xop ≠ 8 ∧ xop ≠ 9 ∧ xop ≠ 10 ∧ xop ≠ 11 ∧ xop ≠ 12 ∧ xop ≠ 13 ∧ xop ≠ 14) : Rd Tryz.prog 124 #[.agg #[.int .i64 xop, .int .i64 xa, .int .i64 xb, .int .i64 xc, .int .i64 xk, .int .i64 xn, .slice ra rl rc, .slice aa al ac]] w (.tuple #[.agg #[.int .i64 xop, .int .i64 xa, .int .i64 xb, .int .i64 xc, .int .i64 xk, .int .i64 xn, .slice ra rl rc, .slice aa al ac], .bool false]) := by
  obtain ⟨h1,h2,h3,h4,h5,h6,h7,h8,h9,h10,h11,h12,h13,h14⟩:=h;have g1:(xop==1)=false:=by simpa using h1
  have g2:(xop==2)=false:=by simpa using h2
  have g3:(xop==3)=false:=by simpa using h3
  have g4:(xop==4)=false:=by simpa using h4
  have g5:(xop==5)=false:=by simpa using h5
  have g6:(xop==6)=false:=by simpa using h6
  have g7:(xop==7)=false:=by simpa using h7
  have g8:(xop==8)=false:=by simpa using h8
  have g9:(xop==9)=false:=by simpa using h9
  have g10:(xop==10)=false:=by simpa using h10
  have g11:(xop==11)=false:=by simpa using h11
  have g12:(xop==12)=false:=by simpa using h12
  have g13:(xop==13)=false:=by simpa using h13
  have g14:(xop==14)=false:=by simpa using h14
  unfold Rd;go_enter Tryz.func124,Tryz.ntmps124
  go_wp2
  exact bodyPost_ret (v:=.tuple #[.agg #[.int .i64 xop,.int .i64 xa,.int .i64 xb,.int .i64 xc,.int .i64 xk,.int .i64 xn,.slice ra rl rc,.slice aa al ac],.bool false]) (by simp [results,Tryz.results124,go_sem]) rfl ⟨rfl,bel2 _ _ _⟩
theorem bounds2 {xa xb xc xk xn : Int} {ra aa : Option Addr} {rl rc al ac : Nat} {am : Option Addr} {lm cm : Nat} {w : World} : Rd Tryz.prog 126 #[.agg #[.slice am lm cm], .agg #[.int .i64 2, .int .i64 xa, .int .i64 xb, .int .i64 xc, .int .i64 xk, .int .i64 xn, .slice ra rl rc, .slice aa al ac]] w (.int .i64 (boundsC lm 2 xk rl al)) := by
  have C:Hid (∀ wx:World,Calls Tryz.prog 142 #[.int .i64 xk,.int .i64 1,.int .i64 9] wx fun e w'=>e=.returned (.int .i64 (rangeC xk 1 9))∧Below wx.heap.size wx w'):=fun wx=>rangeCode_any;rw [show boundsC lm 2 xk rl al=rangeC xk 1 9 from rfl];generalize rangeC xk 1 9=v at C ⊢;unfold Rd;go_enter Tryz.func126,Tryz.ntmps126
  go_wp2_with fail
  refine (C.out _).mono ?_;rintro e w2 ⟨rfl,b2⟩;have B2:Hid (Below w.heap.size w w2):=(bel2 _ _ _).trans (b2.mono (bel2 w _ _).size);clear b2 C;go_wp2
  go_ret;exact ⟨rfl,B2.out⟩
theorem bounds6 {xa xb xc xk xn : Int} {ra aa : Option Addr} {rl rc al ac : Nat} {am : Option Addr} {lm cm : Nat} {w : World} : Rd Tryz.prog 126 #[.agg #[.slice am lm cm], .agg #[.int .i64 6, .int .i64 xa, .int .i64 xb, .int .i64 xc, .int .i64 xk, .int .i64 xn, .slice ra rl rc, .slice aa al ac]] w (.int .i64 (boundsC lm 6 xk rl al)) := by
  have C:Hid (∀ wx:World,Calls Tryz.prog 142 #[.int .i64 xk,.int .i64 0,.int .i64 7] wx fun e w'=>e=.returned (.int .i64 (rangeC xk 0 7))∧Below wx.heap.size wx w'):=fun wx=>rangeCode_any;rw [show boundsC lm 6 xk rl al=rangeC xk 0 7 from rfl];generalize rangeC xk 0 7=v at C ⊢;unfold Rd;go_enter Tryz.func126,Tryz.ntmps126
  go_wp2_with fail
  refine (C.out _).mono ?_;rintro e w2 ⟨rfl,b2⟩;have B2:Hid (Below w.heap.size w w2):=(bel2 _ _ _).trans (b2.mono (bel2 w _ _).size);clear b2 C;go_wp2
  go_ret;exact ⟨rfl,B2.out⟩
theorem bounds7 {xa xb xc xk xn : Int} {ra aa : Option Addr} {rl rc al ac : Nat} {am : Option Addr} {lm cm : Nat} {w : World} : Rd Tryz.prog 126 #[.agg #[.slice am lm cm], .agg #[.int .i64 7, .int .i64 xa, .int .i64 xb, .int .i64 xc, .int .i64 xk, .int .i64 xn, .slice ra rl rc, .slice aa al ac]] w (.int .i64 (boundsC lm 7 xk rl al)) := by
  have C:Hid (∀ wx:World,Calls Tryz.prog 142 #[.int .i64 xk,.int .i64 0,.int .i64 7] wx fun e w'=>e=.returned (.int .i64 (rangeC xk 0 7))∧Below wx.heap.size wx w'):=fun wx=>rangeCode_any;rw [show boundsC lm 7 xk rl al=rangeC xk 0 7 from rfl];generalize rangeC xk 0 7=v at C ⊢;unfold Rd;go_enter Tryz.func126,Tryz.ntmps126
  go_wp2_with fail
  refine (C.out _).mono ?_;rintro e w2 ⟨rfl,b2⟩;have B2:Hid (Below w.heap.size w w2):=(bel2 _ _ _).trans (b2.mono (bel2 w _ _).size);clear b2 C;go_wp2
  go_ret;exact ⟨rfl,B2.out⟩
theorem bounds5 {xa xb xc xk xn : Int} {ra aa : Option Addr} {rl rc al ac : Nat} {am : Option Addr} {lm cm : Nat} {w : World} : Rd Tryz.prog 126 #[.agg #[.slice am lm cm], .agg #[.int .i64 5, .int .i64 xa, .int .i64 xb, .int .i64 xc, .int .i64 xk, .int .i64 xn, .slice ra rl rc, .slice aa al ac]] w (.int .i64 (boundsC lm 5 xk rl al)) := by
  have C:Hid (∀ wx:World,Calls Tryz.prog 143 #[.slice aa al ac,.int .i64 8] wx fun e w'=>e=.returned (.int .i64 (manyC al 8))∧Below wx.heap.size wx w'):=fun wx=>manyCode_any;rw [show boundsC lm 5 xk rl al=manyC al 8 from rfl];generalize manyC al 8=v at C ⊢;unfold Rd;go_enter Tryz.func126,Tryz.ntmps126
  go_wp2_with fail
  refine (C.out _).mono ?_;rintro e w2 ⟨rfl,b2⟩;have B2:Hid (Below w.heap.size w w2):=(bel2 _ _ _).trans (b2.mono (bel2 w _ _).size);clear b2 C;go_wp2
  go_ret;exact ⟨rfl,B2.out⟩
theorem bounds14 {xa xb xc xk xn : Int} {ra aa : Option Addr} {rl rc al ac : Nat} {am : Option Addr} {lm cm : Nat} {w : World} (hlm : lm < 2305843009213693952) : Rd Tryz.prog 126 #[.agg #[.slice am lm cm], .agg #[.int .i64 14, .int .i64 xa, .int .i64 xb, .int .i64 xc, .int .i64 xk, .int .i64 xn, .slice ra rl rc, .slice aa al ac]] w (.int .i64 (boundsC lm 14 xk rl al)) := by
  have C:Hid (∀ wx:World,Calls Tryz.prog 142 #[.int .i64 xk,.int .i64 0,.int .i64 ((lm:Int) - 1)] wx fun e w'=>e=.returned (.int .i64 (rangeC xk 0 ((lm:Int) - 1)))∧Below wx.heap.size wx w'):=fun wx=>rangeCode_any;have C2:Hid (∀ wx:World,Calls Tryz.prog 144 #[.slice ra rl rc,.int .i64 6,.slice aa al ac] wx fun e w'=>e=.returned (.int .i64 (handedC rl 6 al))∧Below wx.heap.size wx w'):=fun wx=>handedCode_any;rw [show boundsC lm 14 xk rl al=if rangeC xk 0 ((lm:Int) - 1)=0 then handedC rl 6 al else rangeC xk 0 ((lm:Int) - 1) from rfl];generalize rangeC xk 0 ((lm:Int) - 1)=v at C ⊢;generalize handedC rl 6 al=u at C2 ⊢;have X2:Blk ((w.alloc (.cells #[.slice am lm cm] 24)).alloc (.cells #[.int .i64 14,.int .i64 xa,.int .i64 xb,.int .i64 xc,.int .i64 xk,.int .i64 xn,.slice ra rl rc,.slice aa al ac] 57)) (w.heap.size+1) #[.int .i64 14,.int .i64 xa,.int .i64 xb,.int .i64 xc,.int .i64 xk,.int .i64 xn,.slice ra rl rc,.slice aa al ac] 57:=Blk.new2 _ _ _ _;have B1:Hid (Below w.heap.size w ((w.alloc (.cells #[.slice am lm cm] 24)).alloc (.cells #[.int .i64 14,.int .i64 xa,.int .i64 xb,.int .i64 xc,.int .i64 xk,.int .i64 xn,.slice ra rl rc,.slice aa al ac] 57))):=bel2 _ _ _;unfold Rd;by_cases hv:v=0
  · subst hv;rw [if_pos rfl];go_enter Tryz.func126,Tryz.ntmps126
    go_wp2_with fail
    generalize ((w.alloc (.cells #[.slice am lm cm] 24)).alloc (.cells #[.int .i64 14,.int .i64 xa,.int .i64 xb,.int .i64 xc,.int .i64 xk,.int .i64 xn,.slice ra rl rc,.slice aa al ac] 57))=w1 at X2 B1 ⊢;refine (C.out _).mono ?_;rintro e w2 ⟨rfl,b2⟩;have X3:=(b2.block _ (lt_of_block X2)).trans X2;have B2:Hid (Below w.heap.size w w2):=B1.out.trans (b2.mono B1.out.size);have c6:=cellOf X3 6 _ rfl;have c7:=cellOf X3 7 _ rfl;clear b2 C X2 B1 X3;go_wp2_with fail
    refine (C2.out _).mono ?_;rintro e w3 ⟨rfl,b3⟩;have B3:Hid (Below w.heap.size w w3):=B2.out.trans (b3.mono B2.out.size);clear b3 C2 B2;go_wp2
    go_ret;exact ⟨rfl,B3.out⟩
  · rw [if_neg hv];have hv':(v==0)=false:=by simpa using hv
    go_enter Tryz.func126,Tryz.ntmps126
    go_wp2_with fail
    generalize ((w.alloc (.cells #[.slice am lm cm] 24)).alloc (.cells #[.int .i64 14,.int .i64 xa,.int .i64 xb,.int .i64 xc,.int .i64 xk,.int .i64 xn,.slice ra rl rc,.slice aa al ac] 57))=w1 at X2 B1 ⊢;refine (C.out _).mono ?_;rintro e w2 ⟨rfl,b2⟩;have B2:Hid (Below w.heap.size w w2):=B1.out.trans (b2.mono B1.out.size);clear b2 C C2 X2 B1;go_wp2
    go_ret;exact ⟨rfl,B2.out⟩
theorem boundsNo {xop : Int} {xa xb xc xk xn : Int} {ra aa : Option Addr} {rl rc al ac : Nat} {am : Option Addr} {lm cm : Nat} {w : World} (h : xop ≠ 2 ∧ xop ≠ 6 ∧ xop ≠ 7 ∧ xop ≠ 5 ∧ xop ≠ 14) : Rd Tryz.prog 126 #[.agg #[.slice am lm cm], .agg #[.int .i64 xop, .int .i64 xa, .int .i64 xb, .int .i64 xc, .int .i64 xk, .int .i64 xn, .slice ra rl rc, .slice aa al ac]] w (.int .i64 (boundsC lm xop xk rl al)) := by
  obtain ⟨h2,h6,h7,h5,h14⟩:=h;rw [show boundsC lm xop xk rl al=0 by simp [boundsC,h2,h6,h7,h5,h14]];have g2:(xop==2)=false:=by simpa using h2
  have g6:(xop==6)=false:=by simpa using h6
  have g7:(xop==7)=false:=by simpa using h7
  have g5:(xop==5)=false:=by simpa using h5
  have g14:(xop==14)=false:=by simpa using h14
  unfold Rd;go_enter Tryz.func126,Tryz.ntmps126
  go_wp2
  go_ret;exact ⟨rfl,bel2 _ _ _⟩
theorem ins_walk {xop : Int} {xa xb xc xk xn : Int} {ra aa : Option Addr} {rl rc al ac : Nat} {ya yb yc yk yn : Int} {yra yaa : Option Addr} {yrl yrc yal yac : Nat} {am : Option Addr} {lm cm : Nat} {w : World} {ok bare : Bool} {v : Int}
    (CW:Hid (∀ wx:World,Calls Tryz.prog 124 #[.agg #[.int .i64 xop,.int .i64 xa,.int .i64 xb,.int .i64 xc,.int .i64 xk,.int .i64 xn,.slice ra rl rc,.slice aa al ac]] wx fun e w'=>e=.returned (.tuple #[.agg #[.int .i64 xop,.int .i64 ya,.int .i64 yb,.int .i64 yc,.int .i64 yk,.int .i64 yn,.slice yra yrl yrc,.slice yaa yal yac],.bool ok])∧Below wx.heap.size wx w'))
    (CB:Hid (∀ wx:World,Calls Tryz.prog 125 #[.agg #[.int .i64 xop,.int .i64 ya,.int .i64 yb,.int .i64 yc,.int .i64 yk,.int .i64 yn,.slice yra yrl yrc,.slice yaa yal yac]] wx fun e w'=>e=.returned (.bool bare)∧Below wx.heap.size wx w'))
    (CD:Hid (∀ wx:World,Calls Tryz.prog 126 #[.agg #[.slice am lm cm],.agg #[.int .i64 xop,.int .i64 xa,.int .i64 xb,.int .i64 xc,.int .i64 xk,.int .i64 xn,.slice ra rl rc,.slice aa al ac]] wx fun e w'=>e=.returned (.int .i64 v)∧Below wx.heap.size wx w')) :
    Rd Tryz.prog 98 #[.agg #[.slice am lm cm],.agg #[.int .i64 xop,.int .i64 xa,.int .i64 xb,.int .i64 xc,.int .i64 xk,.int .i64 xn,.slice ra rl rc,.slice aa al ac]] w (.int .i64 (if ok=false then 3 else if bare=true then v else 4)):=by
  have X1:Blk ((w.alloc (.cells #[.slice am lm cm] 24)).alloc (.cells #[.int .i64 xop,.int .i64 xa,.int .i64 xb,.int .i64 xc,.int .i64 xk,.int .i64 xn,.slice ra rl rc,.slice aa al ac] 57)) w.heap.size #[.slice am lm cm] 24:=Blk.new1 _ _ _ _ _;have X2:Blk ((w.alloc (.cells #[.slice am lm cm] 24)).alloc (.cells #[.int .i64 xop,.int .i64 xa,.int .i64 xb,.int .i64 xc,.int .i64 xk,.int .i64 xn,.slice ra rl rc,.slice aa al ac] 57)) (w.heap.size+1) #[.int .i64 xop,.int .i64 xa,.int .i64 xb,.int .i64 xc,.int .i64 xk,.int .i64 xn,.slice ra rl rc,.slice aa al ac] 57:=Blk.new2 _ _ _ _;have B1:Hid (Below w.heap.size w ((w.alloc (.cells #[.slice am lm cm] 24)).alloc (.cells #[.int .i64 xop,.int .i64 xa,.int .i64 xb,.int .i64 xc,.int .i64 xk,.int .i64 xn,.slice ra rl rc,.slice aa al ac] 57))):=bel2 _ _ _;unfold Rd;go_enter Tryz.func98,Tryz.ntmps98
  go_wp2_with fail
  generalize ((w.alloc (.cells #[.slice am lm cm] 24)).alloc (.cells #[.int .i64 xop,.int .i64 xa,.int .i64 xb,.int .i64 xc,.int .i64 xk,.int .i64 xn,.slice ra rl rc,.slice aa al ac] 57))=w1 at X1 X2 B1 ⊢;refine (CW.out _).mono ?_;rintro e w2 ⟨rfl,b2⟩;replace X1:=(b2.block _ (lt_of_block X1)).trans X1;replace X2:=(b2.block _ (lt_of_block X2)).trans X2;have B2:Hid (Below w.heap.size w w2):=B1.out.trans (b2.mono B1.out.size);clear b2 B1 CW
  cases ok with
  | false =>
    have B3:Hid (Below w.heap.size w (w2.alloc (.cells #[.int .i64 xop,.int .i64 ya,.int .i64 yb,.int .i64 yc,.int .i64 yk,.int .i64 yn,.slice yra yrl yrc,.slice yaa yal yac] 57))):=B2.out.trans ((bel1 _ _).mono B2.out.size);clear CB CD X1 X2 B2;go_wp2
    go_ret;exact ⟨rfl,B3.out⟩
  | true =>
    replace X1:=((bel1 w2 (.cells #[.int .i64 xop,.int .i64 ya,.int .i64 yb,.int .i64 yc,.int .i64 yk,.int .i64 yn,.slice yra yrl yrc,.slice yaa yal yac] 57)).block _ (lt_of_block X1)).trans X1;replace X2:=((bel1 w2 (.cells #[.int .i64 xop,.int .i64 ya,.int .i64 yb,.int .i64 yc,.int .i64 yk,.int .i64 yn,.slice yra yrl yrc,.slice yaa yal yac] 57)).block _ (lt_of_block X2)).trans X2;have B3:Hid (Below w.heap.size w (w2.alloc (.cells #[.int .i64 xop,.int .i64 ya,.int .i64 yb,.int .i64 yc,.int .i64 yk,.int .i64 yn,.slice yra yrl yrc,.slice yaa yal yac] 57))):=B2.out.trans ((bel1 _ _).mono B2.out.size);go_wp2_with fail
    clear B2;generalize w2.alloc (.cells #[.int .i64 xop,.int .i64 ya,.int .i64 yb,.int .i64 yc,.int .i64 yk,.int .i64 yn,.slice yra yrl yrc,.slice yaa yal yac] 57)=w3 at X1 X2 B3 ⊢;refine (CB.out _).mono ?_;rintro e w4 ⟨rfl,b4⟩;replace X1:=(b4.block _ (lt_of_block X1)).trans X1;replace X2:=(b4.block _ (lt_of_block X2)).trans X2;have B4:Hid (Below w.heap.size w w4):=B3.out.trans (b4.mono B3.out.size);clear b4 B3 CB
    cases bare with
    | false =>
      clear CD X1 X2;go_wp2
      go_ret;exact ⟨rfl,B4.out⟩
    | true =>
      have d:=cellOf X1 0 _ rfl;have d0:=cellOf X2 0 _ rfl;have d1:=cellOf X2 1 _ rfl;have d2:=cellOf X2 2 _ rfl;have d3:=cellOf X2 3 _ rfl;have d4:=cellOf X2 4 _ rfl;have d5:=cellOf X2 5 _ rfl;have d6:=cellOf X2 6 _ rfl;have d7:=cellOf X2 7 _ rfl;clear X1 X2;go_wp2_with fail
      refine (CD.out _).mono ?_;rintro e w5 ⟨rfl,b5⟩;have B5:Hid (Below w.heap.size w w5):=B4.out.trans (b5.mono B4.out.size);clear b5 B4 CD;go_wp2
      go_ret;exact ⟨rfl,B5.out⟩
theorem cIns_any (funcs : Nat) (x : MIns) (i : IP) (am : Option Addr) (cm : Nat) (w : World) (hf : funcs < 2305843009213693952) :
    Rd Tryz.prog 98 #[.agg #[.slice am funcs cm],.agg #[.int .i64 x.op,.int .i64 x.a,.int .i64 x.b,.int .i64 x.c,.int .i64 x.k,.int .i64 x.n,.slice i.pR x.regs.length i.cR,.slice i.pA x.args.length i.cA]] w (.int .i64 (x.form funcs)):=by
  rw [MIns.form_eq];have hno:=op_cases x.op;generalize x.op=op at hno ⊢;rcases hno with rfl | rfl | rfl | rfl | rfl | rfl | rfl | rfl | rfl | rfl | rfl | rfl | rfl | rfl | h
  · rw [insForm_bare (show fieldsOf 1=some (false,false,false,false,true,false,false) from rfl)];exact ins_walk (ok:=true) (fun _=>wf1) (fun _=>isBare_any) (fun _=>boundsNo (by decide))
  · rw [insForm_bare (show fieldsOf 2=some (true,true,false,true,false,false,false) from rfl)];exact ins_walk (ok:=true) (fun _=>wf2) (fun _=>isBare_any) (fun _=>bounds2)
  · rw [insForm_bare (show fieldsOf 3=some (false,false,false,false,false,false,false) from rfl)];exact ins_walk (ok:=true) (fun _=>wf3) (fun _=>isBare_any) (fun _=>boundsNo (by decide))
  · rw [insForm_bare (show fieldsOf 4=some (true,false,false,false,false,false,false) from rfl)];exact ins_walk (ok:=true) (fun _=>wf4) (fun _=>isBare_any) (fun _=>boundsNo (by decide))
  · rw [insForm_bare (show fieldsOf 5=some (true,false,false,false,false,false,true) from rfl)];exact ins_walk (ok:=true) (fun _=>wf5) (fun _=>isBare_any) (fun _=>bounds5)
  · rw [insForm_bare (show fieldsOf 6=some (true,false,false,true,false,false,false) from rfl)];exact ins_walk (ok:=true) (fun _=>wf6) (fun _=>isBare_any) (fun _=>bounds6)
  · rw [insForm_bare (show fieldsOf 7=some (true,true,false,true,false,false,false) from rfl)];exact ins_walk (ok:=true) (fun _=>wf7) (fun _=>isBare_any) (fun _=>bounds7)
  · rw [insForm_bare (show fieldsOf 8=some (true,true,false,false,false,false,false) from rfl)];exact ins_walk (ok:=true) (fun _=>wf8) (fun _=>isBare_any) (fun _=>boundsNo (by decide))
  · rw [insForm_bare (show fieldsOf 9=some (true,true,false,false,false,false,false) from rfl)];exact ins_walk (ok:=true) (fun _=>wf9) (fun _=>isBare_any) (fun _=>boundsNo (by decide))
  · rw [insForm_bare (show fieldsOf 10=some (true,true,true,false,false,false,false) from rfl)];exact ins_walk (ok:=true) (fun _=>wf10) (fun _=>isBare_any) (fun _=>boundsNo (by decide))
  · rw [insForm_bare (show fieldsOf 11=some (true,false,false,false,false,false,false) from rfl)];exact ins_walk (ok:=true) (fun _=>wf11) (fun _=>isBare_any) (fun _=>boundsNo (by decide))
  · rw [insForm_bare (show fieldsOf 12=some (false,false,false,false,false,false,false) from rfl)];exact ins_walk (ok:=true) (fun _=>wf12) (fun _=>isBare_any) (fun _=>boundsNo (by decide))
  · rw [insForm_bare (show fieldsOf 13=some (true,false,false,false,false,false,false) from rfl)];exact ins_walk (ok:=true) (fun _=>wf13) (fun _=>isBare_any) (fun _=>boundsNo (by decide))
  · rw [insForm_bare (show fieldsOf 14=some (false,false,false,true,false,true,true) from rfl)];exact ins_walk (ok:=true) (fun _=>wf14) (fun _=>isBare_any) (fun _=>bounds14 hf)
  · have e:fieldsOf op=none:=by
      unfold fieldsOf;obtain ⟨h1,h2,h3,h4,h5,h6,h7,h8,h9,h10,h11,h12,h13,h14⟩:=h;simp [h1,h2,h3,h4,h5,h6,h7,h8,h9,h10,h11,h12,h13,h14]
    rw [show insForm funcs op x.a x.b x.c x.k x.n x.regs.length x.args.length=3 by unfold insForm;rw [e]];exact ins_walk (ok:=false) (bare:=bareB x.a x.b x.c x.k x.n x.regs.length x.args.length) (fun _=>wfNo h) (fun _=>isBare_any) (fun _=>boundsNo ⟨h.2.1,h.2.2.2.2.2.1,h.2.2.2.2.2.2.1,h.2.2.2.2.1,h.2.2.2.2.2.2.2.2.2.2.2.2.2⟩)
theorem toForm_eq (x : MTo) (bl : Nat) : x.form bl true = if rangeC x.block 0 ((bl : Int) - 1) = 0 then handedC x.regs.length 16 x.args.length else rangeC x.block 0 ((bl : Int) - 1) := by
  unfold MTo.form rangeC handedC manyC;simp only [Bool.true_eq_false,if_false];repeat' split
  all_goals omega
theorem toForm_no (x : MTo) (bl : Nat) : x.form bl false = if x.block = 0 ∧ x.regs.length = 0 ∧ x.args.length = 0 then 0 else 4 := by
  unfold MTo.form;simp only [if_true];repeat' split
  all_goals omega
theorem endForm_eq (e : MEnd) (bl : Nat) : e.form bl = if e.op < 1 ∨ 3 < e.op then 3 else if (e.op ≠ 2 ∧ e.a ≠ 0) ∨ (e.op ≠ 3 ∧ 0 < e.args.length) then 4 else if 8 < e.args.length then 2
    else if e.yes.form bl (e.op != 3)=0 then e.no.form bl (e.op==2) else e.yes.form bl (e.op != 3):=by
  unfold MEnd.form;have h1:decide (e.op≠3)=(e.op != 3):=by by_cases h:e.op=3 <;> simp [h]
  have h2:decide (e.op=2)=(e.op==2):=by by_cases h:e.op=2 <;> simp [h]
  rw [h1,h2];by_cases c1:e.op<1∨3<e.op
  · simp [c1]
  · rw [if_neg c1,if_neg c1];by_cases c2:(e.op≠2∧e.a≠0)∨(e.op≠3∧0<e.args.length)
    · rw [if_pos c2,if_pos (c2.imp (fun h=>⟨h.2,h.1⟩) (fun h=>⟨h.2,h.1⟩))]
    · rw [if_neg c2,if_neg (fun h=>c2 (h.imp (fun h=>⟨h.2,h.1⟩) (fun h=>⟨h.2,h.1⟩)))];by_cases c3:8<e.args.length
      · simp [c3]
      · rw [if_neg c3,if_neg c3];by_cases c4:e.yes.form bl (e.op != 3)=0
        · simp [c4]
        · simp [c4]
theorem toCodeF {tb : Int} {pR pA : Option Addr} {n1 cR n2 cA : Nat} {fr : Int} {fp fq fb : Option Addr} {fl fc fm fd bl fe : Nat} {w : World} : Rd Tryz.prog 127 #[.agg #[.int .i64 fr, .slice fp fl fc, .slice fq fm fd, .slice fb bl fe], .agg #[.int .i64 tb, .slice pR n1 cR, .slice pA n2 cA], .bool false] w (.int .i64 (if tb = 0 ∧ n1 = 0 ∧ n2 = 0 then 0 else 4)) := by
  unfold Rd;by_cases h1:tb=0
  · subst h1;by_cases h2:n1=0
    · subst h2;by_cases h3:n2=0
      · subst h3;rw [if_pos ⟨rfl,rfl,rfl⟩];go_enter Tryz.func127,Tryz.ntmps127
        go_wp2
        go_ret;exact ⟨rfl,bel2 _ _ _⟩
      · have g:(0:Int)<n2:=by omega
        rw [if_neg (by omega)];go_enter Tryz.func127,Tryz.ntmps127
        go_wp2
        go_ret;exact ⟨rfl,bel2 _ _ _⟩
    · have g:(0:Int)<n1:=by omega
      rw [if_neg (by omega)];go_enter Tryz.func127,Tryz.ntmps127
      go_wp2
      go_ret;exact ⟨rfl,bel2 _ _ _⟩
  · have g:(tb==0)=false:=by simpa using h1
    rw [if_neg (by omega)];go_enter Tryz.func127,Tryz.ntmps127
    go_wp2
    go_ret;exact ⟨rfl,bel2 _ _ _⟩
theorem toCodeT {tb : Int} {pR pA : Option Addr} {n1 cR n2 cA : Nat} {fr : Int} {fp fq fb : Option Addr} {fl fc fm fd bl fe : Nat} {w : World} (hbl : bl < 2305843009213693952) : Rd Tryz.prog 127 #[.agg #[.int .i64 fr, .slice fp fl fc, .slice fq fm fd, .slice fb bl fe], .agg #[.int .i64 tb, .slice pR n1 cR, .slice pA n2 cA], .bool true] w (.int .i64 (if rangeC tb 0 ((bl : Int) - 1) = 0 then handedC n1 16 n2 else rangeC tb 0 ((bl : Int) - 1))) := by
  have C:Hid (∀ wx:World,Calls Tryz.prog 142 #[.int .i64 tb,.int .i64 0,.int .i64 ((bl:Int) - 1)] wx fun e w'=>e=.returned (.int .i64 (rangeC tb 0 ((bl:Int) - 1)))∧Below wx.heap.size wx w'):=fun wx=>rangeCode_any;have C2:Hid (∀ wx:World,Calls Tryz.prog 144 #[.slice pR n1 cR,.int .i64 16,.slice pA n2 cA] wx fun e w'=>e=.returned (.int .i64 (handedC n1 16 n2))∧Below wx.heap.size wx w'):=fun wx=>handedCode_any;generalize rangeC tb 0 ((bl:Int) - 1)=v at C ⊢;generalize handedC n1 16 n2=u at C2 ⊢;have X2:Blk ((w.alloc (.cells #[.int .i64 fr,.slice fp fl fc,.slice fq fm fd,.slice fb bl fe] 46)).alloc (.cells #[.int .i64 tb,.slice pR n1 cR,.slice pA n2 cA] 51)) (w.heap.size+1) #[.int .i64 tb,.slice pR n1 cR,.slice pA n2 cA] 51:=Blk.new2 _ _ _ _;have B1:Hid (Below w.heap.size w ((w.alloc (.cells #[.int .i64 fr,.slice fp fl fc,.slice fq fm fd,.slice fb bl fe] 46)).alloc (.cells #[.int .i64 tb,.slice pR n1 cR,.slice pA n2 cA] 51))):=bel2 _ _ _;unfold Rd;by_cases hv:v=0
  · subst hv;rw [if_pos rfl];go_enter Tryz.func127,Tryz.ntmps127
    go_wp2_with fail
    generalize ((w.alloc (.cells #[.int .i64 fr,.slice fp fl fc,.slice fq fm fd,.slice fb bl fe] 46)).alloc (.cells #[.int .i64 tb,.slice pR n1 cR,.slice pA n2 cA] 51))=w1 at X2 B1 ⊢;refine (C.out _).mono ?_;rintro e w2 ⟨rfl,b2⟩;have X3:=(b2.block _ (lt_of_block X2)).trans X2;have B2:Hid (Below w.heap.size w w2):=B1.out.trans (b2.mono B1.out.size);have c6:=cellOf X3 1 _ rfl;have c7:=cellOf X3 2 _ rfl;clear b2 C X2 B1 X3;go_wp2_with fail
    refine (C2.out _).mono ?_;rintro e w3 ⟨rfl,b3⟩;have B3:Hid (Below w.heap.size w w3):=B2.out.trans (b3.mono B2.out.size);clear b3 C2 B2;go_wp2
    go_ret;exact ⟨rfl,B3.out⟩
  · rw [if_neg hv];have hv':(v==0)=false:=by simpa using hv
    go_enter Tryz.func127,Tryz.ntmps127
    go_wp2_with fail
    generalize ((w.alloc (.cells #[.int .i64 fr,.slice fp fl fc,.slice fq fm fd,.slice fb bl fe] 46)).alloc (.cells #[.int .i64 tb,.slice pR n1 cR,.slice pA n2 cA] 51))=w1 at X2 B1 ⊢;refine (C.out _).mono ?_;rintro e w2 ⟨rfl,b2⟩;have B2:Hid (Below w.heap.size w w2):=B1.out.trans (b2.mono B1.out.size);clear b2 C C2 X2 B1;go_wp2
    go_ret;exact ⟨rfl,B2.out⟩
theorem toCode_any {x : MTo} {pR pA : Option Addr} {cR cA : Nat} {fr : Int} {fp fq fb : Option Addr} {fl fc fm fd bl fe : Nat} (has : Bool) {w : World} (hbl : bl < 2305843009213693952) :
    Rd Tryz.prog 127 #[.agg #[.int .i64 fr,.slice fp fl fc,.slice fq fm fd,.slice fb bl fe],.agg #[.int .i64 x.block,.slice pR x.regs.length cR,.slice pA x.args.length cA],.bool has] w (.int .i64 (x.form bl has)):=by
  cases has
  · rw [toForm_no];exact toCodeF
  · rw [toForm_eq];exact toCodeT hbl
theorem end_walk {eo ea yb nb : Int} {pyr pya pnr pna pe : Option Addr} {nyr cyr nya cya nnr cnr nna cna ne ce : Nat} {fr : Int} {fp fq fb : Option Addr} {fl fc fm fd bl fe : Nat} {w : World} {vy vn : Int} (h1 : ¬ (eo < 1 ∨ 3 < eo)) (h2 : ¬ ((eo ≠ 2 ∧ ea ≠ 0) ∨ (eo ≠ 3 ∧ 0 < ne))) (h3 : ¬ 8 < ne)
    (CY:Hid (∀ wx:World,Calls Tryz.prog 127 #[.agg #[.int .i64 fr,.slice fp fl fc,.slice fq fm fd,.slice fb bl fe],.agg #[.int .i64 yb,.slice pyr nyr cyr,.slice pya nya cya],.bool (eo != 3)] wx fun e w'=>e=.returned (.int .i64 vy)∧Below wx.heap.size wx w'))
    (CN:Hid (∀ wx:World,Calls Tryz.prog 127 #[.agg #[.int .i64 fr,.slice fp fl fc,.slice fq fm fd,.slice fb bl fe],.agg #[.int .i64 nb,.slice pnr nnr cnr,.slice pna nna cna],.bool (eo==2)] wx fun e w'=>e=.returned (.int .i64 vn)∧Below wx.heap.size wx w')) :
    Rd Tryz.prog 100 #[.agg #[.int .i64 fr,.slice fp fl fc,.slice fq fm fd,.slice fb bl fe],.agg #[.int .i64 eo,.int .i64 ea,.int .i64 yb,.slice pyr nyr cyr,.slice pya nya cya,.int .i64 nb,.slice pnr nnr cnr,.slice pna nna cna,.slice pe ne ce]] w (.int .i64 (if vy=0 then vn else vy)):=by
  have X1:Blk ((w.alloc (.cells #[.int .i64 fr,.slice fp fl fc,.slice fq fm fd,.slice fb bl fe] 46)).alloc (.cells #[.int .i64 eo,.int .i64 ea,.int .i64 yb,.slice pyr nyr cyr,.slice pya nya cya,.int .i64 nb,.slice pnr nnr cnr,.slice pna nna cna,.slice pe ne ce] 53)) w.heap.size #[.int .i64 fr,.slice fp fl fc,.slice fq fm fd,.slice fb bl fe] 46:=Blk.new1 _ _ _ _ _;have X2:Blk ((w.alloc (.cells #[.int .i64 fr,.slice fp fl fc,.slice fq fm fd,.slice fb bl fe] 46)).alloc (.cells #[.int .i64 eo,.int .i64 ea,.int .i64 yb,.slice pyr nyr cyr,.slice pya nya cya,.int .i64 nb,.slice pnr nnr cnr,.slice pna nna cna,.slice pe ne ce] 53)) (w.heap.size+1) #[.int .i64 eo,.int .i64 ea,.int .i64 yb,.slice pyr nyr cyr,.slice pya nya cya,.int .i64 nb,.slice pnr nnr cnr,.slice pna nna cna,.slice pe ne ce] 53:=Blk.new2 _ _ _ _;have B1:Hid (Below w.heap.size w ((w.alloc (.cells #[.int .i64 fr,.slice fp fl fc,.slice fq fm fd,.slice fb bl fe] 46)).alloc (.cells #[.int .i64 eo,.int .i64 ea,.int .i64 yb,.slice pyr nyr cyr,.slice pya nya cya,.int .i64 nb,.slice pnr nnr cnr,.slice pna nna cna,.slice pe ne ce] 53))):=bel2 _ _ _;unfold Rd;have key:∀ {o:Int},eo=o→¬ (o≠2∧ea≠0)→¬ (o≠3∧0<ne)→(o=1∨o=2∨o=3):=fun h _ _=>by omega
  rcases (show eo=1∨eo=2∨eo=3 by omega) with rfl | rfl | rfl
  · obtain rfl:ea=0:=by omega
    obtain rfl:ne=0:=by omega
    clear h1 h2 h3 key;go_enter Tryz.func100,Tryz.ntmps100
    go_wp2_with fail
    generalize ((w.alloc (.cells #[.int .i64 fr,.slice fp fl fc,.slice fq fm fd,.slice fb bl fe] 46)).alloc (.cells #[.int .i64 1,.int .i64 0,.int .i64 yb,.slice pyr nyr cyr,.slice pya nya cya,.int .i64 nb,.slice pnr nnr cnr,.slice pna nna cna,.slice pe 0 ce] 53))=w1 at X1 X2 B1 ⊢;refine (CY.out _).mono ?_;rintro e w2 ⟨rfl,b2⟩;replace X1:=(b2.block _ (lt_of_block X1)).trans X1;replace X2:=(b2.block _ (lt_of_block X2)).trans X2;have B2:Hid (Below w.heap.size w w2):=B1.out.trans (b2.mono B1.out.size);clear b2 CY B1;by_cases hv:vy=0
    · subst hv;have c0:=cellOf X1 0 _ rfl;have c1:=cellOf X1 1 _ rfl;have c2:=cellOf X1 2 _ rfl;have c3:=cellOf X1 3 _ rfl;have d0:=cellOf X2 0 _ rfl;have d5:=cellOf X2 5 _ rfl;have d6:=cellOf X2 6 _ rfl;have d7:=cellOf X2 7 _ rfl;clear X1 X2;go_wp2_with fail
      refine (CN.out _).mono ?_;rintro e w3 ⟨rfl,b3⟩;have B3:Hid (Below w.heap.size w w3):=B2.out.trans (b3.mono B2.out.size);clear b3 CN B2;go_wp2
      go_ret;exact ⟨rfl,B3.out⟩
    · have hv':(vy==0)=false:=by simpa using hv
      clear CN X1 X2;go_wp2
      go_ret;exact ⟨rfl,B2.out⟩
  · obtain rfl:ne=0:=by omega
    clear h1 h2 h3 key;go_enter Tryz.func100,Tryz.ntmps100
    go_wp2_with fail
    generalize ((w.alloc (.cells #[.int .i64 fr,.slice fp fl fc,.slice fq fm fd,.slice fb bl fe] 46)).alloc (.cells #[.int .i64 2,.int .i64 ea,.int .i64 yb,.slice pyr nyr cyr,.slice pya nya cya,.int .i64 nb,.slice pnr nnr cnr,.slice pna nna cna,.slice pe 0 ce] 53))=w1 at X1 X2 B1 ⊢;refine (CY.out _).mono ?_;rintro e w2 ⟨rfl,b2⟩;replace X1:=(b2.block _ (lt_of_block X1)).trans X1;replace X2:=(b2.block _ (lt_of_block X2)).trans X2;have B2:Hid (Below w.heap.size w w2):=B1.out.trans (b2.mono B1.out.size);clear b2 CY B1;by_cases hv:vy=0
    · subst hv;have c0:=cellOf X1 0 _ rfl;have c1:=cellOf X1 1 _ rfl;have c2:=cellOf X1 2 _ rfl;have c3:=cellOf X1 3 _ rfl;have d0:=cellOf X2 0 _ rfl;have d5:=cellOf X2 5 _ rfl;have d6:=cellOf X2 6 _ rfl;have d7:=cellOf X2 7 _ rfl;clear X1 X2;go_wp2_with fail
      refine (CN.out _).mono ?_;rintro e w3 ⟨rfl,b3⟩;have B3:Hid (Below w.heap.size w w3):=B2.out.trans (b3.mono B2.out.size);clear b3 CN B2;go_wp2
      go_ret;exact ⟨rfl,B3.out⟩
    · have hv':(vy==0)=false:=by simpa using hv
      clear CN X1 X2;go_wp2
      go_ret;exact ⟨rfl,B2.out⟩
  · obtain rfl:ea=0:=by omega
    have g8:¬ (8:Int)<ne:=by omega
    clear h1 h2 h3 key;go_enter Tryz.func100,Tryz.ntmps100
    go_wp2_with fail
    generalize ((w.alloc (.cells #[.int .i64 fr,.slice fp fl fc,.slice fq fm fd,.slice fb bl fe] 46)).alloc (.cells #[.int .i64 3,.int .i64 0,.int .i64 yb,.slice pyr nyr cyr,.slice pya nya cya,.int .i64 nb,.slice pnr nnr cnr,.slice pna nna cna,.slice pe ne ce] 53))=w1 at X1 X2 B1 ⊢;refine (CY.out _).mono ?_;rintro e w2 ⟨rfl,b2⟩;replace X1:=(b2.block _ (lt_of_block X1)).trans X1;replace X2:=(b2.block _ (lt_of_block X2)).trans X2;have B2:Hid (Below w.heap.size w w2):=B1.out.trans (b2.mono B1.out.size);clear b2 CY B1;by_cases hv:vy=0
    · subst hv;have c0:=cellOf X1 0 _ rfl;have c1:=cellOf X1 1 _ rfl;have c2:=cellOf X1 2 _ rfl;have c3:=cellOf X1 3 _ rfl;have d0:=cellOf X2 0 _ rfl;have d5:=cellOf X2 5 _ rfl;have d6:=cellOf X2 6 _ rfl;have d7:=cellOf X2 7 _ rfl;clear X1 X2;go_wp2_with fail
      refine (CN.out _).mono ?_;rintro e w3 ⟨rfl,b3⟩;have B3:Hid (Below w.heap.size w w3):=B2.out.trans (b3.mono B2.out.size);clear b3 CN B2;go_wp2
      go_ret;exact ⟨rfl,B3.out⟩
    · have hv':(vy==0)=false:=by simpa using hv
      clear CN X1 X2;go_wp2
      go_ret;exact ⟨rfl,B2.out⟩
theorem end_bad {eo ea yb nb : Int} {pyr pya pnr pna pe : Option Addr} {nyr cyr nya cya nnr cnr nna cna ne ce : Nat} {fr : Int} {fp fq fb : Option Addr} {fl fc fm fd bl fe : Nat} {w : World} {v : Int} (h : (v = 3 ∧ (eo < 1 ∨ 3 < eo)) ∨ (v = 4 ∧ ¬ (eo < 1 ∨ 3 < eo) ∧ ((eo ≠ 2 ∧ ea ≠ 0) ∨ (eo ≠ 3 ∧ 0 < ne))) ∨ (v = 2 ∧ ¬ (eo < 1 ∨ 3 < eo) ∧ ¬ ((eo ≠ 2 ∧ ea ≠ 0) ∨ (eo ≠ 3 ∧ 0 < ne)) ∧ 8 < ne)) :
    Rd Tryz.prog 100 #[.agg #[.int .i64 fr,.slice fp fl fc,.slice fq fm fd,.slice fb bl fe],.agg #[.int .i64 eo,.int .i64 ea,.int .i64 yb,.slice pyr nyr cyr,.slice pya nya cya,.int .i64 nb,.slice pnr nnr cnr,.slice pna nna cna,.slice pe ne ce]] w (.int .i64 v):=by
  unfold Rd;rcases h with ⟨rfl,h | h⟩ | ⟨rfl,h1,h⟩ | ⟨rfl,h1,h2,h3⟩
  · go_enter Tryz.func100,Tryz.ntmps100
    go_wp2
    go_ret;exact ⟨rfl,bel2 _ _ _⟩
  · have g:¬ eo<1:=by omega
    go_enter Tryz.func100,Tryz.ntmps100
    go_wp2
    go_ret;exact ⟨rfl,bel2 _ _ _⟩
  · rcases (show eo=1∨eo=2∨eo=3 by omega) with rfl | rfl | rfl
    · by_cases ha:ea=0
      · subst ha;have g:(0:Int)<ne:=by omega
        clear h h1;go_enter Tryz.func100,Tryz.ntmps100
        go_wp2
        go_ret;exact ⟨rfl,bel2 _ _ _⟩
      · have g:(ea==0)=false:=by simpa using ha
        clear h h1;go_enter Tryz.func100,Tryz.ntmps100
        go_wp2
        go_ret;exact ⟨rfl,bel2 _ _ _⟩
    · have g:(0:Int)<ne:=by omega
      clear h h1;go_enter Tryz.func100,Tryz.ntmps100
      go_wp2
      go_ret;exact ⟨rfl,bel2 _ _ _⟩
    · have g:(ea==0)=false:=by simp;omega
      clear h h1;go_enter Tryz.func100,Tryz.ntmps100
      go_wp2
      go_ret;exact ⟨rfl,bel2 _ _ _⟩
  · obtain rfl:eo=3:=by omega
    obtain rfl:ea=0:=by omega
    have g:(8:Int)<ne:=by omega
    clear h1 h2 h3;go_enter Tryz.func100,Tryz.ntmps100
    go_wp2
    go_ret;exact ⟨rfl,bel2 _ _ _⟩
theorem cEnd_any {x : MEnd} {e : EP} {fr : Int} {fp fq fb : Option Addr} {fl fc fm fd bl fe : Nat} {w : World} (hs : x.yes.regs.length < 2305843009213693952 ∧ x.yes.args.length < 2305843009213693952 ∧ x.no.regs.length < 2305843009213693952 ∧ x.no.args.length < 2305843009213693952) (hbl : bl < 2305843009213693952) : Rd Tryz.prog 100 #[.agg #[.int .i64 fr, .slice fp fl fc, .slice fq fm fd, .slice fb bl fe], .agg #[.int .i64 x.op, .int .i64 x.a, .int .i64 x.yes.block, .slice e.pYR x.yes.regs.length e.cYR, .slice e.pYA x.yes.args.length e.cYA, .int .i64 x.no.block, .slice e.pNR x.no.regs.length e.cNR, .slice e.pNA x.no.args.length e.cNA, .slice e.pA x.args.length e.cA]] w (.int .i64 (x.form bl)) := by
  rw [endForm_eq];by_cases c1:x.op<1∨3<x.op
  · rw [if_pos c1];exact end_bad (.inl ⟨rfl,c1⟩)
  rw [if_neg c1];by_cases c2:(x.op≠2∧x.a≠0)∨(x.op≠3∧0<x.args.length)
  · rw [if_pos c2];exact end_bad (.inr (.inl ⟨rfl,c1,c2⟩))
  rw [if_neg c2];by_cases c3:8<x.args.length
  · rw [if_pos c3];exact end_bad (.inr (.inr ⟨rfl,c1,c2,c3⟩))
  rw [if_neg c3];exact end_walk c1 c2 c3 (fun _=>toCode_any _ hbl) (fun _=>toCode_any _ hbl)
end Go.Proofs.YtjdcjfpfpaplladGreat
namespace Go.Proofs.YtjdcjfpfpaplladGreat
open Go.ChangeShapes Go.WideShapes Go.ChangeAt Go.RowKit
set_option linter.unusedVariables false
def CheckAt (f : Nat) : Prop := ∀ (n : Nat) (t : TT n) (a : Option Addr) (c : Nat) (regs : Int) (w : World), TIn w All t a → t.count ≤ 100000 →
    Calls Tryz.prog f #[Tv t a c,.int .i64 regs] w fun e w'=>e=.returned (.int .i64 (t.check regs))∧Below w.heap.size w w'
theorem ownCode_any (k r : Int) (a : Option Addr) (len c : Nat) (regs : Int) (w : World) :
    Calls Tryz.prog 146 #[.agg #[.int .i64 k,.int .i64 r,.slice a len c],.int .i64 regs] w fun e w'=>e=.returned (.int .i64 (ownC k r len regs))∧Below w.heap.size w w':=by
  rcases (show k<1∨(¬ k<1∧4<k)∨k=1∨k=2∨k=4∨k=3 by omega) with h1 | ⟨h1,h2⟩ | rfl | rfl | rfl | rfl
  · rw [show ownC _ _ len regs=3 by unfold ownC;repeat' split;all_goals omega];go_enter Tryz.func146,Tryz.ntmps146
    go_wp2_with fail
    go_ret;exact ⟨rfl,(Below.refl _ w).alloc (Nat.le_refl _) _⟩
  · rw [show ownC _ _ len regs=3 by unfold ownC;repeat' split;all_goals omega];go_enter Tryz.func146,Tryz.ntmps146
    go_wp2_with fail
    go_ret;exact ⟨rfl,(Below.refl _ w).alloc (Nat.le_refl _) _⟩
  · rcases (show r≠0∨(r=0∧0<len)∨(r=0∧len=0) by omega) with h1 | ⟨rfl,h1⟩ | ⟨rfl,h1⟩
    · have g1:(r != 0)=true:=by simpa using h1
      rw [show ownC _ _ len regs=4 by unfold ownC;repeat' split;all_goals omega];go_enter Tryz.func146,Tryz.ntmps146
      go_wp2_with fail
      go_ret;exact ⟨rfl,(Below.refl _ w).alloc (Nat.le_refl _) _⟩
    · have g1:(0:Int)<(len:Int):=by omega
      rw [show ownC _ _ len regs=4 by unfold ownC;repeat' split;all_goals omega];go_enter Tryz.func146,Tryz.ntmps146
      go_wp2_with fail
      go_ret;exact ⟨rfl,(Below.refl _ w).alloc (Nat.le_refl _) _⟩
    · have g1:¬ (0:Int)<(len:Int):=by omega
      have g2:¬ (8:Int)<(len:Int):=by omega
      rw [show ownC _ _ len regs=0 by unfold ownC;repeat' split;all_goals omega];go_enter Tryz.func146,Tryz.ntmps146
      go_wp2_with fail
      go_ret;exact ⟨rfl,(Below.refl _ w).alloc (Nat.le_refl _) _⟩
  · rcases (show 0<len∨(len=0∧r<0)∨(len=0∧0≤r∧regs≤r)∨(len=0∧0≤r∧r<regs) by omega) with h1 | ⟨h1,h2⟩ | ⟨h1,h2,h3⟩ | ⟨h1,h2,h3⟩
    · have g1:(0:Int)<(len:Int):=by omega
      rw [show ownC _ _ len regs=4 by unfold ownC;repeat' split;all_goals omega];go_enter Tryz.func146,Tryz.ntmps146
      go_wp2_with fail
      go_ret;exact ⟨rfl,(Below.refl _ w).alloc (Nat.le_refl _) _⟩
    · have g1:¬ (0:Int)<(len:Int):=by omega
      have g2:¬ (8:Int)<(len:Int):=by omega
      rw [show ownC _ _ len regs=1 by unfold ownC;repeat' split;all_goals omega];go_enter Tryz.func146,Tryz.ntmps146
      go_wp2_with fail
      go_ret;exact ⟨rfl,(Below.refl _ w).alloc (Nat.le_refl _) _⟩
    · have g1:¬ (0:Int)<(len:Int):=by omega
      have g2:¬ (8:Int)<(len:Int):=by omega
      rw [show ownC _ _ len regs=1 by unfold ownC;repeat' split;all_goals omega];go_enter Tryz.func146,Tryz.ntmps146
      go_wp2_with fail
      go_ret;exact ⟨rfl,(Below.refl _ w).alloc (Nat.le_refl _) _⟩
    · have g1:¬ (0:Int)<(len:Int):=by omega
      have g2:¬ (8:Int)<(len:Int):=by omega
      rw [show ownC _ _ len regs=0 by unfold ownC;repeat' split;all_goals omega];go_enter Tryz.func146,Tryz.ntmps146
      go_wp2_with fail
      go_ret;exact ⟨rfl,(Below.refl _ w).alloc (Nat.le_refl _) _⟩
  · rcases (show 0<len∨(len=0∧r<0)∨(len=0∧0≤r∧regs≤r)∨(len=0∧0≤r∧r<regs) by omega) with h1 | ⟨h1,h2⟩ | ⟨h1,h2,h3⟩ | ⟨h1,h2,h3⟩
    · have g1:(0:Int)<(len:Int):=by omega
      rw [show ownC _ _ len regs=4 by unfold ownC;repeat' split;all_goals omega];go_enter Tryz.func146,Tryz.ntmps146
      go_wp2_with fail
      go_ret;exact ⟨rfl,(Below.refl _ w).alloc (Nat.le_refl _) _⟩
    · have g1:¬ (0:Int)<(len:Int):=by omega
      have g2:¬ (8:Int)<(len:Int):=by omega
      rw [show ownC _ _ len regs=1 by unfold ownC;repeat' split;all_goals omega];go_enter Tryz.func146,Tryz.ntmps146
      go_wp2_with fail
      go_ret;exact ⟨rfl,(Below.refl _ w).alloc (Nat.le_refl _) _⟩
    · have g1:¬ (0:Int)<(len:Int):=by omega
      have g2:¬ (8:Int)<(len:Int):=by omega
      rw [show ownC _ _ len regs=1 by unfold ownC;repeat' split;all_goals omega];go_enter Tryz.func146,Tryz.ntmps146
      go_wp2_with fail
      go_ret;exact ⟨rfl,(Below.refl _ w).alloc (Nat.le_refl _) _⟩
    · have g1:¬ (0:Int)<(len:Int):=by omega
      have g2:¬ (8:Int)<(len:Int):=by omega
      rw [show ownC _ _ len regs=0 by unfold ownC;repeat' split;all_goals omega];go_enter Tryz.func146,Tryz.ntmps146
      go_wp2_with fail
      go_ret;exact ⟨rfl,(Below.refl _ w).alloc (Nat.le_refl _) _⟩
  · rcases (show 8<len∨(len≤8∧r<0)∨(len≤8∧0≤r∧regs≤r)∨(len≤8∧0≤r∧r<regs) by omega) with h1 | ⟨h1,h2⟩ | ⟨h1,h2,h3⟩ | ⟨h1,h2,h3⟩
    · have g1:(8:Int)<(len:Int):=by omega
      rw [show ownC _ _ len regs=2 by unfold ownC;repeat' split;all_goals omega];go_enter Tryz.func146,Tryz.ntmps146
      go_wp2_with fail
      go_ret;exact ⟨rfl,(Below.refl _ w).alloc (Nat.le_refl _) _⟩
    · have g1:¬ (8:Int)<(len:Int):=by omega
      rw [show ownC _ _ len regs=1 by unfold ownC;repeat' split;all_goals omega];go_enter Tryz.func146,Tryz.ntmps146
      go_wp2_with fail
      go_ret;exact ⟨rfl,(Below.refl _ w).alloc (Nat.le_refl _) _⟩
    · have g1:¬ (8:Int)<(len:Int):=by omega
      rw [show ownC _ _ len regs=1 by unfold ownC;repeat' split;all_goals omega];go_enter Tryz.func146,Tryz.ntmps146
      go_wp2_with fail
      go_ret;exact ⟨rfl,(Below.refl _ w).alloc (Nat.le_refl _) _⟩
    · have g1:¬ (8:Int)<(len:Int):=by omega
      rw [show ownC _ _ len regs=0 by unfold ownC;repeat' split;all_goals omega];go_enter Tryz.func146,Tryz.ntmps146
      go_wp2_with fail
      go_ret;exact ⟨rfl,(Below.refl _ w).alloc (Nat.le_refl _) _⟩
theorem firstCode_any : ∀ n, FaultAt 138 n := by
  intro n
  induction n with
  | zero=>intro t;exact Empty.elim t
  | succ n ih =>
    intro t a c regs w ht hct;have IH:Hid (FaultAt 138 n):=ih;clear ih;have hT:Hid (LIn w All t.2.2 a):=ht.list;have hco:Hid (∀ x∈t.2.2,x.count≤100000):=fun x hx=>by have:=t.count_kid hx;omega
    have hlen:t.2.2.length≤100000:=by have:=t.len_lt_count;rw [t.len_eq] at this;omega
    have hF:Hid (t.fault regs=if ownC t.kind t.r t.2.2.length regs≠0 then ownC t.kind t.r t.2.2.length regs else firstL (TT.fault regs) t.2.2):=rfl;generalize t.fault regs=res at hF ⊢;simp only [Tv,TT.len_eq];generalize t.2.2=l at hT hco hF hlen ⊢;generalize t.kind=k at hF ⊢;generalize t.r=r at hF ⊢;clear ht hct t;go_enter Tryz.func138,Tryz.ntmps138
    go_wp2_with fail
    have X0:Hid (Bx w (w.alloc (.cells #[.int .i64 k,.int .i64 r,.slice a l.length c] 88)) k r a l.length c):=Bx.start w k r a l.length c;refine (ownCode_any k r a l.length c regs _).mono ?_;rintro e w1 ⟨rfl,b1⟩;have X1:Hid (Bx w w1 k r a l.length c):=X0.out.below b1;clear X0 b1;by_cases hz:ownC k r l.length regs=0
    · have R:Hid (res=firstL (TT.fault regs) l):=by
        have:=hF.out
        rw [hz] at this;show res=firstL (TT.fault regs) l;simpa using this
      rw [hz];clear hz hF;have e2:w1.cell? ⟨w.heap.size,2,none⟩=some (.slice a l.length c):=cellOf X1.out.box 2 _ rfl;go_wp2_with fail
      clear e2;go_loopw [18] (fun i wr=>∃ q:Nat,q≤l.length∧i=.int .i64 q∧(∀ (j:Nat) x,j<q→l[j]?=some x→x.fault regs=0)∧Bx w wr k r a l.length c) (fun i _=>l.length - (intOf i).toNat)
      case atStart=>exact ⟨0,Nat.zero_le _,rfl,fun j x hj=>by omega,X1.out⟩
      case round =>
        clear X1;obtain ⟨q,hq,rfl,hall,hX⟩:=hrel;have A:Hid (∀ (j:Nat) x,j<q→l[j]?=some x→x.fault regs=0):=hall;have X1:Hid (Bx w wr k r a l.length c):=hX;clear hall;by_cases hlt:q<l.length
        · have hx:l[q]?=some l[q]:=List.getElem?_eq_getElem hlt;generalize l[q]=x at hx;obtain ⟨g,o,a',c',rfl,_,d0,d1,d2,hk⟩:=LIn.at (hT.out.below hX.bel) hx;have hx':Hid (l[q]?=some x):=hx;have hk0:(0:Int)≤q:=by omega
          have hk1:(q:Int)<l.length:=by omega
          have C:Hid (∀ wx,Below wr.heap.size wr wx→Calls Tryz.prog 138 #[Tv x a' c',.int .i64 regs] wx fun e w'=>e=.returned (.int .i64 (x.fault regs))∧Below wx.heap.size wx w') :=
            fun wx hb=>IH.out x a' c' regs wx (hk.below hb) (hco.out x (List.mem_of_getElem? hx))
          clear hX hk hx;simp only [Tv] at C;generalize x.kind=kx at C d0;generalize x.r=rx at C d1;generalize x.len=lx at C d2;go_wp2_with fail
          have B1:Below wr.heap.size wr (wr.alloc (.cells #[.int .i64 kx,.int .i64 rx,.slice a' lx c'] 88)):=(Below.refl _ wr).alloc (Nat.le_refl _) _;refine (C.out _ B1).mono ?_;rintro e w2 ⟨rfl,b2⟩;have X2:Hid (Bx w w2 k r (some ⟨g,o,none⟩) l.length c):=(X1.out.below B1).below b2;clear X1 b2 B1 C d0 d1 d2;by_cases hd:x.fault regs=0
          · have A2:Hid (∀ (j:Nat) x,j<q+1→l[j]?=some x→x.fault regs=0):=fun j y hj hy=>by
              by_cases e:j=q
              · subst e;rw [hx'.out] at hy
                cases hy
                exact hd
              · exact A.out j y (by omega) hy
            rw [hd];clear hd A;go_wp2
            go_roundw
            case rel=>exact ⟨q+1,by omega,by go_num,A2.out,X2.out⟩
            case measure=>simp [intOf];omega
          · have Rv:Hid (res=x.fault regs):=R.out.trans (firstL_eq hx'.out A.out hd);have hd':(x.fault regs != 0)=true:=by simpa using hd
            generalize x.fault regs=v at hd' Rv ⊢;clear hd A;go_wp2
            go_ret;exact ⟨by rw [Rv.out];rfl,X2.out.bel⟩
        · have Rv:Hid (res=0):=R.out.trans (firstL_zero (fun j y hy=>A.out j y (by have:=(List.getElem?_eq_some_iff.1 hy).1;omega) hy));have hk1:¬ (q:Int)<l.length:=by omega
          clear hX A;go_wp2
          go_ret;exact ⟨by rw [Rv.out];rfl,X1.out.bel⟩
    · have R:Hid (res=ownC k r l.length regs):=by
        have:=hF.out
        rwa [if_pos hz] at this
      have hz':(ownC k r l.length regs != 0)=true:=by simpa using hz
      generalize ownC k r l.length regs=v at hz' R ⊢;clear hz hF;go_wp2_with fail
      go_ret;exact ⟨by rw [R.out];rfl,X1.out.bel⟩
theorem lt_height {n : Nat} {l : List (TT n)} {k r : Int} {m : Nat} : m < TT.height (n := n + 1) (mkT k r l) ↔ ∃ (i : Nat) (x : TT n), l[i]? = some x ∧ m < 1 + x.height := by
  rw [← Nat.not_le,height_le];constructor
  · intro h;simp only [Classical.not_forall] at h;obtain ⟨x,hx,h2⟩:=h;obtain ⟨i,hi,rfl⟩:=List.mem_iff_getElem.1 hx;exact ⟨i,_,List.getElem?_eq_getElem hi,by omega⟩
  · rintro ⟨i,x,hx,h2⟩ h
    have:=h x (List.mem_of_getElem? (l:=l) hx)
    omega
theorem deeper_any : ∀ (n : Nat) (t : TT n) (a : Option Addr) (c : Nat) (w : World) (m : Nat), TIn w All t a → t.count ≤ 100000 → m ≤ 4 →
    Calls Tryz.prog 137 #[Tv t a c,.int .i64 m] w fun e w'=>e=.returned (.bool (decide (m<t.height)))∧Below w.heap.size w w':=by
  intro n
  induction n with
  | zero=>intro t;exact Empty.elim t
  | succ n ih =>
    intro t a c w m ht hct hm4
    have IH:Hid (∀ (t:TT n) (a:Option Addr) (c:Nat) (w:World) (m:Nat),TIn w All t a→t.count≤100000→m≤4 →
      Calls Tryz.prog 137 #[Tv t a c,.int .i64 m] w fun e w'=>e=.returned (.bool (decide (m<t.height)))∧Below w.heap.size w w'):=ih
    clear ih;have hT:Hid (LIn w All t.2.2 a):=ht.list;have hco:Hid (∀ x∈t.2.2,x.count≤100000):=fun x hx=>by have:=t.count_kid hx;omega
    have hlen:t.2.2.length≤100000:=by have:=t.len_lt_count;rw [t.len_eq] at this;omega
    have hh:Hid (m<t.height ↔ ∃ (i:Nat) (x:TT n),t.2.2[i]?=some x∧m<1+x.height):=lt_height;generalize t.height=h at hh ⊢;simp only [Tv,TT.len_eq];generalize t.2.2=l at hT hco hh hlen ⊢;generalize t.kind=k;generalize t.r=r;clear ht hct t;go_enter Tryz.func137,Tryz.ntmps137
    go_wp2_with fail
    have X0:Hid (Bx w (w.alloc (.cells #[.int .i64 k,.int .i64 r,.slice a l.length c] 88)) k r a l.length c):=Bx.start w k r a l.length c;generalize w.alloc (.cells #[.int .i64 k,.int .i64 r,.slice a l.length c] 88)=w1 at X0 ⊢;go_loopw [10] (fun i wr=>∃ q:Nat,q≤l.length∧i=.int .i64 q∧(∀ (j:Nat) x,j<q→l[j]?=some x→1+x.height≤m)∧Bx w wr k r a l.length c) (fun i _=>l.length - (intOf i).toNat)
    case atStart=>exact ⟨0,Nat.zero_le _,rfl,fun j x hj=>by omega,X0.out⟩
    case round =>
      clear X0;obtain ⟨q,hq,rfl,hall,hX⟩:=hrel;have A:Hid (∀ (j:Nat) x,j<q→l[j]?=some x→1+x.height≤m):=hall;have X1:Hid (Bx w wr k r a l.length c):=hX;clear hall;by_cases hlt:q<l.length
      · have hx:l[q]?=some l[q]:=List.getElem?_eq_getElem hlt;generalize l[q]=x at hx;obtain ⟨g,o,a',c',rfl,_,d0,d1,d2,hk⟩:=LIn.at (hT.out.below hX.bel) hx;have hg:g<wr.heap.size:=World.block_lt_of_cell? wr ⟨g,o+q*3,none⟩ d0;have hx':Hid (l[q]?=some x):=hx;have hk0:(0:Int)≤q:=by omega
        have hk1:(q:Int)<l.length:=by omega
        by_cases hz:m=0
        · have hD:Hid (m<h):=hh.out.2 ⟨q,x,hx,by omega⟩;have hz':((m:Int)==0)=true:=by simp;omega
          clear hX hk hx hz;go_wp2_with fail
          go_ret;exact ⟨by rw [decide_eq_true hD.out];rfl,(X1.out.alloc _).bel⟩
        · have hz':((m:Int)==0)=false:=by simp;omega
          have C:Hid (∀ wx,Below wr.heap.size wr wx→Calls Tryz.prog 137 #[Tv x a' c',.int .i64 ((m:Int) - 1)] wx fun e w'=>e=.returned (.bool (decide (m - 1<x.height)))∧Below wx.heap.size wx w'):=fun wx hb=>by
            have:=IH.out x a' c' wx (m - 1) (hk.below hb) (hco.out x (List.mem_of_getElem? hx)) (by omega)
            rw [show ((m - 1:Nat):Int)=(m:Int) - 1 by omega] at this;exact this
          have hm0:(1:Int)≤m:=by omega
          have hm1:(m:Int)≤4:=by omega
          have hm5:Hid (1≤m):=by show 1≤m;omega
          clear hX hk hx hz;simp only [Tv] at C;generalize x.kind=kx at C d0;generalize x.r=rx at C d1;generalize x.len=lx at C d2;go_wp2_with fail
          have B1:Below wr.heap.size wr (wr.alloc (.cells #[.int .i64 kx,.int .i64 rx,.slice a' lx c'] 88)):=(Below.refl _ wr).alloc (Nat.le_refl _) _;refine (C.out _ B1).mono ?_;rintro e w2 ⟨rfl,b2⟩;have X2:Hid (Bx w w2 k r (some ⟨g,o,none⟩) l.length c):=(X1.out.below B1).below b2;clear X1 b2 B1 C d0 d1 d2;by_cases hd:m - 1<x.height
          · have hD:Hid (m<h):=hh.out.2 ⟨q,x,hx'.out,by have:=hm5.out;omega⟩;rw [decide_eq_true hd];clear hd;go_wp2
            go_ret;exact ⟨by rw [decide_eq_true hD.out];rfl,X2.out.bel⟩
          · have A2:Hid (∀ (j:Nat) x,j<q+1→l[j]?=some x→1+x.height≤m):=fun j y hj hy=>by
              by_cases e:j=q
              · subst e;rw [hx'.out] at hy
                cases hy
                have:=hm5.out
                omega
              · exact A.out j y (by omega) hy
            rw [decide_eq_false hd];clear hd A;go_wp2
            go_roundw
            case rel=>exact ⟨q+1,by omega,by go_num,A2.out,X2.out⟩
            case measure=>simp [intOf];omega
      · have hD:Hid (¬ m<h):=fun hc=>by
          obtain ⟨i,x,hx,h3⟩:=hh.out.1 hc
          have:=A.out i x (by have:=(List.getElem?_eq_some_iff.1 hx).1;omega) hx
          omega
        have hk1:¬ (q:Int)<l.length:=by omega
        clear hX A;go_wp2
        go_ret;exact ⟨by rw [decide_eq_false hD.out];rfl,X1.out.bel⟩
theorem check_any : CheckAt 120 := by
  intro n t a c regs w ht hc
  have C1:Hid (∀ wx,Below w.heap.size w wx→Calls Tryz.prog 137 #[Tv t a c,.int .i64 4] wx fun e w'=>e=.returned (.bool (decide (4<t.height)))∧Below wx.heap.size wx w') :=
    fun wx hb=>deeper_any n t a c wx 4 (ht.below hb) hc (by omega)
  have C2:Hid (∀ wx,Below w.heap.size w wx→Calls Tryz.prog 138 #[Tv t a c,.int .i64 regs] wx fun e w'=>e=.returned (.int .i64 (t.fault regs))∧Below wx.heap.size wx w') :=
    fun wx hb=>firstCode_any n t a c regs wx (ht.below hb) hc
  have E:Hid (t.check regs=if 4<t.height then 19 else t.fault regs):=rfl;generalize t.check regs=res at E ⊢;clear ht hc;simp only [Tv] at C1 C2 ⊢;generalize t.kind=k at C1 C2 ⊢;generalize t.r=r at C1 C2 ⊢;generalize t.len=len at C1 C2 ⊢;generalize t.fault regs=v at C2 E;go_enter Tryz.func120,Tryz.ntmps120
  go_wp2_with fail
  have X0:=Bx.start w k r a len c;generalize w.alloc (.cells #[.int .i64 k,.int .i64 r,.slice a len c] 88)=w1 at X0 ⊢;refine (C1.out _ X0.bel).mono ?_;rintro e w2 ⟨rfl,b2⟩;have X2:Hid (Bx w w2 k r a len c):=X0.below b2;have e0:=cellOf X2.out.box 0 _ rfl;have e1:=cellOf X2.out.box 1 _ rfl;have e2:=cellOf X2.out.box 2 _ rfl;clear X0 b2 C1;by_cases hd:4<t.height
  · rw [decide_eq_true hd];have R:Hid (res=19):=by have:=E.out;rwa [if_pos hd] at this
    clear hd;go_wp2_with fail
    go_ret;exact ⟨by rw [R.out];rfl,X2.out.bel⟩
  · rw [decide_eq_false hd];have R:Hid (res=v):=by have:=E.out;rwa [if_neg hd] at this
    clear hd;go_wp2_with fail
    refine (C2.out _ X2.out.bel).mono ?_;rintro e w3 ⟨rfl,b3⟩;have X3:Hid (Bx w w3 k r a len c):=X2.out.below b3;clear X2 b3 C2 e0 e1 e2;go_wp2_with fail
    go_ret;exact ⟨by rw [R.out];rfl,X3.out.bel⟩
end Go.Proofs.YtjdcjfpfpaplladGreat
namespace Go.Proofs.YtjdcjfpfpaplladGreat
open Go.ChangeShapes Go.WideShapes Go.ChangeAt Go.RowKit
set_option linter.unusedSimpArgs false
set_option linter.unusedVariables false
abbrev faultV (p : Int × Int) : Value := .agg #[.int .i64 p.1, .int .i64 p.2]
def atF (c p : Int) : Int × Int := if c = 0 then (0, 0) else (c, p)
theorem firstF_at {α : Type} {f : Nat → α → Int × Int} : ∀ {l : List α} {j : Nat}, firstF (fun i x => atF (f i x).1 (f i x).2) j l = firstF f j l
  | [],_=>rfl
  | x::xs,j=>by
    simp only [firstF,atF];by_cases h:(f j x).1=0
    · simp only [h,if_true,ne_eq,not_true_eq_false,if_false];exact firstF_at
    · simp [h]
def MFunc.code {n : Nat} (f : Nat) (x : MFunc n) : Int :=
  if x.regs<0∨6<x.regs then 1 else if listC x.regs x.params≠0 then listC x.regs x.params else if listC x.regs x.results≠0 then listC x.regs x.results
  else if x.blocks.length<1∨12<x.blocks.length then 2 else if f=0∧¬ (x.regs=0∧x.params.length=0∧x.results.all (fun t=>t.kind==1)=true) then 18 else 0
theorem MFunc.fault_eq {n : Nat} (funcs f : Nat) (x : MFunc n) : MFunc.fault funcs f x = if x.code f = 0 then firstF (fun b y => MBlock.fault funcs f x b y) 0 x.blocks else (x.code f, 10000 * (f : Int) + 9999) := by
  unfold MFunc.fault MFunc.code;generalize listC x.regs x.params=lp;generalize listC x.regs x.results=lr;generalize firstF (fun b y=>MBlock.fault funcs f x b y) 0 x.blocks=ff;repeat' split
  all_goals first | rfl | (exfalso;omega) | contradiction
def MBlock.code' {n : Nat} (fn : MFunc n) (b : Nat) (x : MBlock n) : Int :=
  if x.regs<fn.regs∨16<x.regs then 1 else if listC x.regs x.params≠0 then listC x.regs x.params
  else if b=0∧(x.regs≠fn.regs∨sameL x.params fn.params=false) then 9 else if 40<x.code.length then 2 else 0
theorem MBlock.fault_eq {n : Nat} (funcs f : Nat) (fn : MFunc n) (b : Nat) (x : MBlock n) : MBlock.fault funcs f fn b x =
    if x.code' fn b=0 then (if (firstF (fun i y=>(MIns.form funcs y,(10000*f+100*b+i:Int))) 0 x.code).1=0 then atF (x.fin.form fn.blocks.length) (10000*(f:Int)+100*(b:Int)+91)
      else firstF (fun i y=>(MIns.form funcs y,(10000*f+100*b+i:Int))) 0 x.code) else (x.code' fn b,10000*(f:Int)+100*(b:Int)+90):=by
  unfold MBlock.fault MBlock.code' atF;generalize firstF (fun i y=>(MIns.form funcs y,(10000*f+100*b+i:Int))) 0 x.code=ff;generalize x.fin.form fn.blocks.length=ef;generalize listC x.regs x.params=lp;repeat' split
  all_goals first | rfl | (exfalso;omega) | contradiction
def idxK {n : Nat} : Nat → List (TT n) → Int
  | _,[]=>-1
  | i,t::ts=>if t.kind=1 then idxK (i+1) ts else (i:Int)
theorem idxK_at {n : Nat} : ∀ (l : List (TT n)) (i j : Nat) (x : TT n), l[i]? = some x → (∀ k y, k < i → l[k]? = some y → y.kind = 1) → ¬ x.kind = 1 → idxK j l = ((j + i : Nat) : Int)
  | [],i,j,x,h,_,_=>by simp at h
  | y::ys,0,j,x,h,_,hx=>by
    simp at h;subst h
    simp [idxK,hx]
  | y::ys,i+1,j,x,h,hz,hx=>by
    have h0:y.kind=1:=hz 0 y (by omega) rfl;simp only [idxK,h0,if_true];rw [idxK_at ys i (j+1) x (by simpa using h) (fun k z hk hkz=>hz (k+1) z (by omega) (by simpa using hkz)) hx];congr 1;omega
theorem idxK_no {n : Nat} : ∀ (l : List (TT n)) (j : Nat), (∀ (k : Nat) y, l[k]? = some y → y.kind = 1) → idxK j l = -1
  | [],_,_=>rfl
  | y::ys,j,h=>by
    have h0:y.kind=1:=h 0 y rfl;simp only [idxK,h0,if_true];exact idxK_no ys (j+1) (fun k z hz=>h (k+1) z (by simpa using hz))
theorem idxK_iff {n : Nat} : ∀ (l : List (TT n)) (j : Nat), (0 ≤ idxK j l) ↔ ¬ l.all (fun t => t.kind == 1) = true
  | [],j=>by simp [idxK]
  | y::ys,j=>by
    by_cases h:y.kind=1
    · simp only [idxK,h,if_true,List.all_cons,beq_self_eq_true,Bool.true_and];exact idxK_iff ys (j+1)
    · simp [idxK,h]
theorem rd_check {n : Nat} {t : TT n} {a : Option Addr} {c : Nat} {regs : Int} {w : World} (ht : TIn w All t a) (hc : t.count ≤ 100000) : Rd Tryz.prog 120 #[Tv t a c, .int .i64 regs] w (.int .i64 (t.check regs)) := check_any n t a c regs w ht hc
theorem firstL_at {α : Type} {f : α → Int} : ∀ {l : List α} {i : Nat} {x : α}, l[i]? = some x → (∀ k y, k < i → l[k]? = some y → f y = 0) → f x ≠ 0 → firstL f l = f x
  | [],i,x,h,_,_=>by simp at h
  | y::ys,0,x,h,_,hf=>by
    simp at h;subst h
    simp [firstL,hf]
  | y::ys,i+1,x,h,hz,hf=>by
    have h0:f y=0:=hz 0 y (by omega) rfl;simp only [firstL,h0,ne_eq,not_true_eq_false,if_false];exact firstL_at (by simpa using h) (fun k z hk hkz=>hz (k+1) z (by omega) (by simpa using hkz)) hf
theorem firstL_no {α : Type} {f : α → Int} : ∀ {l : List α}, (∀ (k : Nat) y, l[k]? = some y → f y = 0) → firstL f l = 0
  | [],_=>rfl
  | y::ys,h=>by
    have h0:f y=0:=h 0 y rfl;simp only [firstL,h0,ne_eq,not_true_eq_false,if_false];exact firstL_no (fun k z hz=>h (k+1) z (by simpa using hz))
theorem typesCode_any {n : Nat} {l : List (TT n)} {p : Option Addr} {c : Nat} {regs : Int} {w : World} (hl0 : (typesL n).In w All l [.slice p l.length c]) (hs0 : tsmall l) :
    Rd Tryz.prog 92 #[.slice p l.length c,.int .i64 regs] w (.int .i64 (listC regs l)):=by
  have hl:Hid _:=hl0;have hs:Hid _:=hs0;have hsb:=hs0.1;clear hl0 hs0;refine fr_enter (n:=24) Tryz.func92 rfl rfl rfl ?_;intro a hF;have hW:=Wd.start w;replace hF:Fr 24 a [(0,.slice p l.length c),(1,.int .i64 regs)]:=hF;refine wp_seq_k fun K1 hK1=>?_;refine rg hF fun ops=>?_;clear hF a;refine sa trivial rfl rfl ?_;refine St.nil fun a2 h2=>?_;refine hK1 _ _ ?_;refine wp_seq_k fun K3 hK3=>?_;refine wp_seq_k fun K4 hK4=>?_;refine rg h2 fun ops=>?_;clear h2 a2;refine sm trivial rfl rfl ?_;refine slTypes trivial rfl rfl ?_;refine sgt trivial rfl rfl rfl ?_;refine St.nil fun a5 h5=>?_;refine hK4 _ _ ?_;refine fr_cond (t:=10) h5 rfl (fun hb=>?_) (fun hb=>?_)
  ·have hbig:8<l.length:=by have:=of_decide_eq_true hb;omega
   clear hb;refine wp_seq_k fun K6 hK6=>?_;refine rg h5 fun ops=>?_;clear h5 a5;refine sa trivial rfl rfl ?_;refine St.nil fun a7 h7=>?_;refine hK6 _ _ ?_;refine wp_ret ?_;with_reducible repeat first | refine of_then_ret ?_ | refine of_block_ret ?_
   have R:listC regs l=2:=by unfold listC;rw [if_pos hbig]
   exact ret_tmp (t:=4) h7 rfl rfl ⟨by rw [R],hW.bel⟩
  have hbig:¬ (8<l.length):=by have:=of_decide_eq_false hb;omega
  clear hb;refine wp_skip ?_;refine hK3 _ _ ?_;refine wp_seq_k fun K8 hK8=>?_;refine wp_seq_k fun K9 hK9=>?_;refine rg h5 fun ops=>?_;clear h5 a5;refine sm trivial rfl rfl ?_;refine slTypes trivial rfl rfl ?_;refine sm trivial rfl rfl ?_;refine St.nil fun a10 h10=>?_;refine hK9 _ _ ?_;refine wp_block ?_;refine fr_loop (fun r a w'=>∃ q:Nat,q≤l.length∧r=l.length - q∧(∀ (j:Nat) y,j<q→l[j]?=some y→y.check regs=0)∧Fr 24 a [(1,.int .i64 regs),(0,.slice p l.length c),(4,.int .i64 0),(11,.slice p l.length c),(12,.int .i64 (l.length:Int)),(13,.int .i64 (q:Int))]∧Wd w w' []) (l.length) ⟨0,Nat.zero_le _,rfl,(fun j y hj=>by omega),(h10.keep (h10.keep (h10.keep (h10.keep (h10.keep (h10.keep h10.nil (t:=13) rfl) (t:=12) rfl) (t:=11) rfl) (t:=4) rfl) (t:=0) rfl) (t:=1) rfl),hW⟩ ?_;clear h10 hW;rintro r a11 w11 ⟨q,hq,hr,hall,hF11,hW11⟩ KL hKL;refine wp_seq_k fun K12 hK12=>?_;refine rg hF11 fun ops=>?_;clear hF11 a11;refine slt trivial rfl rfl rfl ?_;refine St.nil fun a13 h13=>?_;refine hK12 _ _ ?_;refine wp_seq_k fun K14 hK14=>?_;refine fr_cond (t:=14) h13 rfl (fun hb=>?_) (fun hb=>?_)
  ·have hlt1:q<l.length:=by have:=of_decide_eq_true hb;omega
   clear hb;obtain ⟨t,hx1⟩:∃ v9,(l)[q]?=some v9:=⟨_,List.getElem?_eq_getElem hlt1⟩;obtain ⟨g1,o1,pt1,ct1,hp1,E1,In1⟩:=lin_at (types_lin hl.out).1 hx1;replace In1:Hid _:=In1;replace hp1:Hid _:=hp1;replace hx1:Hid _:=hx1;replace E1:Hid _:=E1;refine wp_skip ?_;refine hK14 _ _ ?_;refine wp_seq_k fun K15 hK15=>?_;refine wp_block ?_;refine wp_seq_k fun K16 hK16=>?_;refine rg h13 fun ops=>?_;clear h13 a13;refine siTypes hp1.out hlt1 trivial rfl rfl rfl ?_;refine sSE Tryz.underlying88 rfl (rangeAt_bel E1.out hW11.bel) infType trivial rfl rfl ?_;refine sAType hW11 trivial rfl ?_;clear hW11;intro w17 B17 hW17 hN;clear hN;refine sT 0 hW17 rfl rfl infType rfl rfl rfl ?_;clear hW17;intro w18 hW18;refine St.nil fun a19 h19=>?_;refine hK16 _ _ ?_;refine wp_seq_k fun K20 hK20=>?_;refine rg h19 fun ops=>?_;clear h19 a19;refine sS 0 3 Tryz.underlying88 rfl infType hW18 trivial rfl rfl rfl rfl ?_;refine sm trivial rfl rfl ?_;refine sc_2 cf120 hW18 (rd_check (c:=ct1) (regs:=regs) (TIn.below In1.out hW18.bel) (hs.out.2 _ (List.mem_of_getElem? hx1.out))) trivial rfl rfl rfl ?_;clear hW18;intro w21 hW21;refine sa trivial rfl rfl ?_;refine St.nil fun a22 h22=>?_;refine hK20 _ _ ?_;refine wp_seq_k fun K23 hK23=>?_;refine rg h22 fun ops=>?_;clear h22 a22;refine sm trivial rfl rfl ?_;refine sne trivial rfl rfl rfl ?_;refine St.nil fun a24 h24=>?_;refine hK23 _ _ ?_;refine fr_cond (t:=21) h24 rfl (fun hb=>?_) (fun hb=>?_)
   ·have h9:¬ (t.check regs)=0:=bne_iff_ne.1 hb
    have hne:¬ (t.check regs)=0:=h9;clear h9;clear hb;refine wp_seq_k fun K25 hK25=>?_;refine rg h24 fun ops=>?_;clear h24 a24;refine sm trivial rfl rfl ?_;refine sa trivial rfl rfl ?_;refine St.nil fun a26 h26=>?_;refine hK25 _ _ ?_;refine wp_ret ?_;with_reducible repeat first | refine of_then_ret ?_ | refine of_block_ret ?_
    have R:listC regs l=t.check regs:=by unfold listC;rw [if_neg hbig];exact firstL_at hx1.out (fun k y hk hy=>hall k y hk hy) hne
    exact ret_tmp (t:=4) h26 rfl rfl ⟨by rw [R],hW21.bel⟩
   have h9:(t.check regs)=0:=bne_eq_false_iff_eq.1 hb;have hne:Hid ((t.check regs)=0):=h9;clear h9;clear hb;refine wp_skip ?_;refine hK15 _ _ ?_;refine rg h24 fun ops=>?_;clear h24 a24;refine sad (by omega) trivial rfl rfl rfl ?_;refine sm trivial rfl rfl ?_;refine St.nil fun a27 h27=>?_;refine hKL _ _ (l.length - (q+1)) (by omega) ⟨q+1,by omega,rfl,?_,(h27.keep (h27.keep (h27.keep (h27.keep (h27.keep (h27.keep h27.nil (t:=13) rfl) (t:=12) rfl) (t:=11) rfl) (t:=4) rfl) (t:=0) rfl) (t:=1) rfl),hW21.tail⟩
   ·intro j y hj hy
    by_cases e:j=q
    · subst e;rw [hx1.out] at hy;cases hy;exact hne.out
    · exact hall j y (by omega) hy
  have hge:q=l.length:=by have:=of_decide_eq_false hb;omega
  clear hb;refine wp_exit ?_;refine hK8 _ _ ?_;refine wp_seq_k fun K28 hK28=>?_;refine rg h13 fun ops=>?_;clear h13 a13;refine sa trivial rfl rfl ?_;refine St.nil fun a29 h29=>?_;refine hK28 _ _ ?_;refine wp_ret ?_;with_reducible repeat first | refine of_then_ret ?_ | refine of_block_ret ?_
  have R:listC regs l=0:=by unfold listC;rw [if_neg hbig];exact firstL_no (fun k y hy=>hall k y (by have:=(List.getElem?_eq_some_iff.1 hy).1;omega) hy)
  exact ret_tmp (t:=4) h29 rfl rfl ⟨by rw [R],hW11.bel⟩
theorem faultAt_any {xc xp : Int} {w : World} :
    Rd Tryz.prog 72 #[.int .i64 xc,.int .i64 xp] w (faultV (atF xc xp)):=by
  refine fr_enter (n:=11) Tryz.func72 rfl rfl rfl ?_;intro a hF;have hW:=Wd.start w;replace hF:Fr 11 a [(0,.int .i64 xc),(1,.int .i64 xp)]:=hF;refine wp_seq_k fun K1 hK1=>?_;refine rg hF fun ops=>?_;clear hF a;refine sAFault hW trivial rfl ?_;clear hW;intro w2 B2 hW2 hN;clear hN;refine St.nil fun a3 h3=>?_;refine hK1 _ _ ?_;refine wp_seq_k fun K4 hK4=>?_;refine wp_seq_k fun K5 hK5=>?_;refine rg h3 fun ops=>?_;clear h3 a3;refine sm trivial rfl rfl ?_;refine seq trivial rfl rfl rfl ?_;refine St.nil fun a6 h6=>?_;refine hK5 _ _ ?_;refine fr_cond (t:=6) h6 rfl (fun hb=>?_) (fun hb=>?_)
  ·have h9:xc=0:=eq_of_beq hb
   have hc7:Hid (xc=0):=h9;clear h9;clear hb;refine wp_seq_k fun K8 hK8=>?_;refine rg h6 fun ops=>?_;clear h6 a6;intro a9 h9;refine fr_pure (t:=7) (v:=.agg #[.int .i64 0,.int .i64 0]) (w':=w2) h9 rfl rfl rfl (fun K hK=>?_) ?_
   ·go_simp
    exact hK
   clear h9;intro a10 hF10;refine St.go hF10 ?_;clear hF10 a10;refine sT 0 hW2 rfl rfl infFault rfl rfl rfl ?_;clear hW2;intro w11 hW11;refine St.nil fun a12 h12=>?_;refine hK8 _ _ ?_;refine wp_ret ?_;with_reducible repeat first | refine of_then_ret ?_ | refine of_block_ret ?_
   have R:atF xc xp=(0,0):=by simp [atF,hc7.out]
   exact ret_box 0 h12 hW11 rfl rfl rfl Tryz.underlying30 rfl infFault ⟨by show Ending.returned (.agg #[.int .i64 0,.int .i64 0])=_;rw [R],hW11.bel⟩
  have h9:¬ xc=0:=ne_of_beq_false hb;have hc13:¬ xc=0:=h9;clear h9;clear hb;refine wp_skip ?_;refine hK4 _ _ ?_;refine wp_seq_k fun K14 hK14=>?_;refine rg h6 fun ops=>?_;clear h6 a6;refine sm trivial rfl rfl ?_;refine sm trivial rfl rfl ?_;intro a15 h15;refine fr_pure (t:=10) (v:=.agg #[.int .i64 xc,.int .i64 xp]) (w':=w2) h15 rfl rfl rfl (fun K hK=>?_) ?_
  ·have k0:a15.tmps[8]?.getD undef=.int .i64 xc:=h15.sl2 8 _ rfl
   have k1:a15.tmps[9]?.getD undef=.int .i64 xp:=h15.sl2 9 _ rfl;go_simp;exact hK
  clear h15;intro a16 hF16;refine St.go hF16 ?_;clear hF16 a16;refine sT 0 hW2 rfl rfl infFault rfl rfl rfl ?_;clear hW2;intro w17 hW17;refine St.nil fun a18 h18=>?_;refine hK14 _ _ ?_;refine wp_ret ?_;with_reducible repeat first | refine of_then_ret ?_ | refine of_block_ret ?_
  have R:atF xc xp=(xc,xp):=by simp [atF,hc13]
  exact ret_box 0 h18 hW17 rfl rfl rfl Tryz.underlying30 rfl infFault ⟨by show Ending.returned (.agg #[.int .i64 xc,.int .i64 xp])=_;rw [R],hW17.bel⟩
theorem canB1_any {tk tr : Int} {tp : Option Addr} {tl tc : Nat} {w : World} :
    Rd Tryz.prog 122 #[.agg #[.int .i64 tk,.int .i64 tr,.slice tp tl tc]] w (.bool (tk != 1)):=by
  refine fr_enter (n:=6) Tryz.func122 rfl rfl rfl ?_;intro a hF;have hW:=Wd.start w;replace hF:Fr 6 a [(0,.agg #[.int .i64 tk,.int .i64 tr,.slice tp tl tc])]:=hF;refine wp_seq_k fun K1 hK1=>?_;refine rg hF fun ops=>?_;clear hF a;refine sB hW trivial rfl rfl ?_;clear hW;intro w2 B2 hW2 hN;clear hN;refine sa trivial rfl rfl ?_;refine St.nil fun a3 h3=>?_;refine hK1 _ _ ?_;refine wp_seq_k fun K4 hK4=>?_;refine rg h3 fun ops=>?_;clear h3 a3;refine sfType0 trivial rfl rfl ?_;refine sbInt 0 hW2 trivial rfl rfl rfl rfl ?_;refine sne trivial rfl rfl rfl ?_;refine sa trivial rfl rfl ?_;refine St.nil fun a5 h5=>?_;refine hK4 _ _ ?_;refine wp_ret ?_;with_reducible repeat first | refine of_then_ret ?_ | refine of_block_ret ?_
  exact ret_tmp (t:=2) h5 rfl rfl ⟨rfl,hW2.bel⟩
theorem indexF_any {n : Nat} {l : List (TT n)} {p : Option Addr} {c : Nat} {w : World} (hl0 : (typesL n).In w All l [.slice p l.length c]) (hsb : l.length ≤ 100000) :
    Rd Tryz.prog 139 #[.slice p l.length c,.func (.func 122) #[] #[]] w (.int .i64 (idxK 0 l)):=by
  have hl:Hid _:=hl0;clear hl0;refine fr_enter (n:=19) Tryz.func139 rfl rfl rfl ?_;intro a hF;have hW:=Wd.start w;replace hF:Fr 19 a [(0,.slice p l.length c),(1,.func (.func 122) #[] #[])]:=hF;refine wp_seq_k fun K1 hK1=>?_;refine rg hF fun ops=>?_;clear hF a;refine sa trivial rfl rfl ?_;refine St.nil fun a2 h2=>?_;refine hK1 _ _ ?_;refine wp_seq_k fun K3 hK3=>?_;refine wp_seq_k fun K4 hK4=>?_;refine rg h2 fun ops=>?_;clear h2 a2;refine sm trivial rfl rfl ?_;refine slTypes trivial rfl rfl ?_;refine sm trivial rfl rfl ?_;refine St.nil fun a5 h5=>?_;refine hK4 _ _ ?_;refine wp_block ?_;refine fr_loop (fun r a w'=>∃ q:Nat,q≤l.length∧r=l.length - q∧(∀ (j:Nat) y,j<q→l[j]?=some y→y.kind=1)∧Fr 19 a [(1,.func (.func 122) #[] #[]),(0,.slice p l.length c),(4,.int .i64 0),(7,.int .i64 (l.length:Int)),(8,.int .i64 (q:Int))]∧Wd w w' []) (l.length) ⟨0,Nat.zero_le _,rfl,(fun j y hj=>by omega),(h5.keep (h5.keep (h5.keep (h5.keep (h5.keep h5.nil (t:=8) rfl) (t:=7) rfl) (t:=4) rfl) (t:=0) rfl) (t:=1) rfl),hW⟩ ?_;clear h5 hW;rintro r a6 w6 ⟨q,hq,hr,hall,hF6,hW6⟩ KL hKL;refine wp_seq_k fun K7 hK7=>?_;refine rg hF6 fun ops=>?_;clear hF6 a6;refine slt trivial rfl rfl rfl ?_;refine St.nil fun a8 h8=>?_;refine hK7 _ _ ?_;refine wp_seq_k fun K9 hK9=>?_;refine fr_cond (t:=9) h8 rfl (fun hb=>?_) (fun hb=>?_)
  ·have hlt1:q<l.length:=by have:=of_decide_eq_true hb;omega
   clear hb;obtain ⟨t,hx1⟩:∃ v9,(l)[q]?=some v9:=⟨_,List.getElem?_eq_getElem hlt1⟩;obtain ⟨g1,o1,pt1,ct1,hp1,E1,In1⟩:=lin_at (types_lin hl.out).1 hx1;replace In1:Hid _:=In1;replace hp1:Hid _:=hp1;replace hx1:Hid _:=hx1;replace E1:Hid _:=E1;refine wp_skip ?_;refine hK9 _ _ ?_;refine wp_seq_k fun K10 hK10=>?_;refine wp_block ?_;refine wp_seq_k fun K11 hK11=>?_;refine rg h8 fun ops=>?_;clear h8 a8;refine sm trivial rfl rfl ?_;refine sa trivial rfl rfl ?_;refine St.nil fun a12 h12=>?_;refine hK11 _ _ ?_;refine wp_seq_k fun K13 hK13=>?_;refine rg h12 fun ops=>?_;clear h12 a12;refine sm trivial rfl rfl ?_;refine sm trivial rfl rfl ?_;refine sm trivial rfl rfl ?_;refine siTypes hp1.out hlt1 trivial rfl rfl rfl ?_;refine sSE Tryz.underlying88 rfl (rangeAt_bel E1.out hW6.bel) infType trivial rfl rfl ?_;refine sv_10 cf122 hW6 (canB1_any) trivial rfl rfl rfl ?_;clear hW6;intro w14 hW14;refine St.nil fun a15 h15=>?_;refine hK13 _ _ ?_;refine fr_cond (t:=16) h15 rfl (fun hb=>?_) (fun hb=>?_)
   ·have h9:¬ t.kind=1:=bne_iff_ne.1 hb
    have hne:¬ t.kind=1:=h9;clear h9;clear hb;refine wp_seq_k fun K16 hK16=>?_;refine rg h15 fun ops=>?_;clear h15 a15;refine sm trivial rfl rfl ?_;refine sa trivial rfl rfl ?_;refine St.nil fun a17 h17=>?_;refine hK16 _ _ ?_;refine wp_ret ?_;with_reducible repeat first | refine of_then_ret ?_ | refine of_block_ret ?_
    have R:idxK 0 l=(q:Int):=by have:=idxK_at l q 0 t hx1.out (fun k y hk hy=>hall k y hk hy) hne;rwa [Nat.zero_add] at this
    exact ret_tmp (t:=4) h17 rfl rfl ⟨by rw [R],hW14.bel⟩
   have h9:t.kind=1:=bne_eq_false_iff_eq.1 hb;have hne:Hid (t.kind=1):=h9;clear h9;clear hb;refine wp_skip ?_;refine hK10 _ _ ?_;refine rg h15 fun ops=>?_;clear h15 a15;refine sad (by omega) trivial rfl rfl rfl ?_;refine sm trivial rfl rfl ?_;refine St.nil fun a18 h18=>?_;refine hKL _ _ (l.length - (q+1)) (by omega) ⟨q+1,by omega,rfl,?_,(h18.keep (h18.keep (h18.keep (h18.keep (h18.keep h18.nil (t:=8) rfl) (t:=7) rfl) (t:=4) rfl) (t:=0) rfl) (t:=1) rfl),hW14⟩
   ·intro j y hj hy
    by_cases e:j=q
    · subst e;rw [hx1.out] at hy;cases hy;exact hne.out
    · exact hall j y (by omega) hy
  have hge:q=l.length:=by have:=of_decide_eq_false hb;omega
  clear hb;refine wp_exit ?_;refine hK3 _ _ ?_;refine wp_seq_k fun K19 hK19=>?_;refine rg h8 fun ops=>?_;clear h8 a8;refine sa trivial rfl rfl ?_;refine St.nil fun a20 h20=>?_;refine hK19 _ _ ?_;refine wp_ret ?_;with_reducible repeat first | refine of_then_ret ?_ | refine of_block_ret ?_
  have R:idxK 0 l=-1:=idxK_no l 0 (fun k y hy=>hall k y (by have:=(List.getElem?_eq_some_iff.1 hy).1;omega) hy);exact ret_tmp (t:=4) h20 rfl rfl ⟨by rw [R],hW6.bel⟩
theorem containsF_any {n : Nat} {l : List (TT n)} {p : Option Addr} {c : Nat} {w : World} (hl0 : (typesL n).In w All l [.slice p l.length c]) (hsb : l.length ≤ 100000) :
    Rd Tryz.prog 121 #[.slice p l.length c,.func (.func 122) #[] #[]] w (.bool (decide (0≤idxK 0 l))):=by
  have hl:Hid _:=hl0;clear hl0;refine fr_enter (n:=9) Tryz.func121 rfl rfl rfl ?_;intro a hF;have hW:=Wd.start w;replace hF:Fr 9 a [(0,.slice p l.length c),(1,.func (.func 122) #[] #[])]:=hF;refine wp_seq_k fun K1 hK1=>?_;refine rg hF fun ops=>?_;clear hF a;refine sa trivial rfl rfl ?_;refine St.nil fun a2 h2=>?_;refine hK1 _ _ ?_;refine wp_seq_k fun K3 hK3=>?_;refine rg h2 fun ops=>?_;clear h2 a2;refine sm trivial rfl rfl ?_;refine sm trivial rfl rfl ?_;refine sc_2 cf139 hW (indexF_any (Lay.below hl.out hW.bel) hsb) trivial rfl rfl rfl ?_;clear hW;intro w4 hW4;refine sge trivial rfl rfl rfl ?_;refine sa trivial rfl rfl ?_;refine St.nil fun a5 h5=>?_;refine hK3 _ _ ?_;refine wp_ret ?_;with_reducible repeat first | refine of_then_ret ?_ | refine of_block_ret ?_
  exact ret_tmp (t:=4) h5 rfl rfl ⟨rfl,hW4.bel⟩
def MFunc.begins {n : Nat} (x : MFunc n) : Prop := x.regs = 0 ∧ x.params.length = 0 ∧ x.results.all (fun t => t.kind == 1) = true
def MBlock.takes {n : Nat} (fn : MFunc n) (x : MBlock n) : Prop := x.regs = fn.regs ∧ x.params = fn.params
theorem takes_no {n : Nat} {fn : MFunc n} {x : MBlock n} (h : ¬ x.takes fn) : x.regs ≠ fn.regs ∨ sameL x.params fn.params = false := by
  by_cases h1:x.regs=fn.regs
  · refine .inr ?_
    cases e:sameL x.params fn.params with
    | false=>rfl
    | true=>exact absurd ⟨h1,sameL_iff.1 e⟩ h
  · exact .inl h1
theorem takes_yes {n : Nat} {fn : MFunc n} {x : MBlock n} (h : x.takes fn) : ¬ (x.regs ≠ fn.regs ∨ sameL x.params fn.params = false) := by
  rintro (h1 | h1)
  · exact h1 h.1
  · rw [sameL_iff.2 h.2] at h1;cases h1
theorem canBegin_any {n : Nat} {m : List (MFunc n)} {p : Option Addr} {c : Nat} {x : MFunc n} {fp : FP} {fi : Nat} {w : World} (hx0 : FIn w All x fp) (hs0 : x.small) :
    Rd Tryz.prog 93 #[.agg #[.slice p m.length c,.int .i64 x.regs,.slice fp.pP x.params.length fp.cP,.slice fp.pR x.results.length fp.cR,.slice fp.pB x.blocks.length fp.cB,.int .i64 (fi:Int)]] w (.bool (bdec x.begins)):=by
  have hx:Hid _:=hx0;have hs:Hid _:=hs0;clear hx0 hs0;refine fr_enter (n:=21) Tryz.func93 rfl rfl rfl ?_;intro a hF;have hW:=Wd.start w;replace hF:Fr 21 a [(0,.agg #[.slice p m.length c,.int .i64 x.regs,.slice fp.pP x.params.length fp.cP,.slice fp.pR x.results.length fp.cR,.slice fp.pB x.blocks.length fp.cB,.int .i64 (fi:Int)])]:=hF;refine wp_seq_k fun K1 hK1=>?_;refine rg hF fun ops=>?_;clear hF a;refine sB hW trivial rfl rfl ?_;clear hW;intro w2 B2 hW2 hN;clear hN;refine sa trivial rfl rfl ?_;refine St.nil fun a3 h3=>?_;refine hK1 _ _ ?_;refine wp_seq_k fun K4 hK4=>?_;refine fr_region ?_;intro ops hops;have hg4:(ops[4]?).bind (fun o:Oper=>o.dst)=some 7:=hops 4;have hg11:(ops[11]?).bind (fun o:Oper=>o.dst)=some 14:=hops 11;clear hops;refine St.go h3 ?_;clear h3 a3;refine sffuncLook1 trivial rfl rfl ?_;refine sfFunc0 trivial rfl rfl ?_;refine sbInt 0 hW2 trivial rfl rfl rfl rfl ?_;refine seq trivial rfl rfl rfl ?_;refine sm trivial rfl rfl ?_;intro a5 h5;rcases Bool.eq_false_or_eq_true (x.regs==0) with hb | hb
  ·rw [hb] at h5
   have h9:x.regs=0:=eq_of_beq hb;have hc6:Hid (x.regs=0):=h9;clear h9;clear hb;refine St.go h5 ?_;clear h5 a5;refine sffuncLook1 ⟨_,hg4,rfl,rfl⟩ rfl rfl ?_;refine sfFunc1 ⟨_,hg4,rfl,rfl⟩ rfl rfl ?_;refine sbTypes 0 hW2 ⟨_,hg4,rfl,rfl⟩ rfl rfl rfl rfl ?_;refine slTypes ⟨_,hg4,rfl,rfl⟩ rfl rfl ?_;refine seq ⟨_,hg4,rfl,rfl⟩ rfl rfl rfl ?_;refine sp trivial rfl rfl rfl ?_;refine sm trivial rfl rfl ?_;intro a7 h7;rcases Bool.eq_false_or_eq_true ((x.params.length:Int)==0) with hb | hb
   ·rw [hb] at h7
    have h9:x.params.length=0:=by have h8:=eq_of_beq hb;omega
    have hc8:Hid (x.params.length=0):=h9;clear h9;clear hb;refine St.go h7 ?_;clear h7 a7;refine sffuncLook1 ⟨_,hg11,rfl,rfl⟩ rfl rfl ?_;refine sfFunc2 ⟨_,hg11,rfl,rfl⟩ rfl rfl ?_;refine sbTypes 0 hW2 ⟨_,hg11,rfl,rfl⟩ rfl rfl rfl rfl ?_;refine sc_2 cf121 hW2 (containsF_any (Lay.below hx.out.results hW2.bel) (by have:=hs.out.2.2.1.1;omega)) ⟨_,hg11,rfl,rfl⟩ rfl rfl rfl ?_;clear hW2;intro w9 hW9;refine sn ⟨_,hg11,rfl,rfl⟩ rfl rfl ?_;refine sp trivial rfl rfl rfl ?_;refine sa trivial rfl rfl ?_;refine St.nil fun a10 h10=>?_;refine hK4 _ _ ?_;refine wp_ret ?_;with_reducible repeat first | refine of_then_ret ?_ | refine of_block_ret ?_
    have R:(!(decide (0≤idxK 0 x.results)))=true ↔ x.begins:=by
      have e1:=hc6.out;have e2:=hc8.out;have e3:=idxK_iff x.results 0;by_cases hz:0≤idxK 0 x.results
      · simp only [hz,decide_true,Bool.not_true,Bool.false_eq_true,false_iff];exact fun h=>e3.1 hz h.2.2
      · simp only [hz,decide_false,Bool.not_false,true_iff];refine ⟨e1,e2,?_⟩
        cases e:x.results.all (fun t=>t.kind==1) with
        | true=>rfl
        | false=>exact absurd (e3.2 (by rw [e];decide)) hz
    exact ret_tmp (t:=2) h10 rfl rfl ⟨by rw [← bdec_of R],hW9.bel⟩
   rw [hb] at h7;have h9:¬ x.params.length=0:=by have h8:=ne_of_beq_false hb;omega
   have hc11:¬ x.params.length=0:=h9;clear h9;clear hb;refine St.go h7 ?_;clear h7 a7;refine so hg11 rfl rfl rfl rfl ?_;refine so hg11 rfl rfl rfl rfl ?_;refine so hg11 rfl rfl rfl rfl ?_;refine so hg11 rfl rfl rfl rfl ?_;refine so hg11 rfl rfl rfl rfl ?_;refine spf trivial rfl rfl rfl ?_;refine sa trivial rfl rfl ?_;refine St.nil fun a12 h12=>?_;refine hK4 _ _ ?_;refine wp_ret ?_;with_reducible repeat first | refine of_then_ret ?_ | refine of_block_ret ?_
   have R:¬ x.begins:=fun h=>hc11 h.2.1;exact ret_tmp (t:=2) h12 rfl rfl ⟨by rw [bdec_false R],hW2.bel⟩
  rw [hb] at h5;have h9:¬ x.regs=0:=ne_of_beq_false hb;have hc13:¬ x.regs=0:=h9;clear h9;clear hb;refine St.go h5 ?_;clear h5 a5;refine so hg4 rfl rfl rfl rfl ?_;refine so hg4 rfl rfl rfl rfl ?_;refine so hg4 rfl rfl rfl rfl ?_;refine so hg4 rfl rfl rfl rfl ?_;refine so hg4 rfl rfl rfl rfl ?_;refine spf trivial rfl rfl rfl ?_;refine sm trivial rfl rfl ?_;refine so hg11 rfl rfl rfl rfl ?_;refine so hg11 rfl rfl rfl rfl ?_;refine so hg11 rfl rfl rfl rfl ?_;refine so hg11 rfl rfl rfl rfl ?_;refine so hg11 rfl rfl rfl rfl ?_;refine spf trivial rfl rfl rfl ?_;refine sa trivial rfl rfl ?_;refine St.nil fun a14 h14=>?_;refine hK4 _ _ ?_;refine wp_ret ?_;with_reducible repeat first | refine of_then_ret ?_ | refine of_block_ret ?_
  have R:¬ x.begins:=fun h=>hc13 h.1;exact ret_tmp (t:=2) h14 rfl rfl ⟨by rw [bdec_false R],hW2.bel⟩
theorem takes_any {n : Nat} {m : List (MFunc n)} {p : Option Addr} {c : Nat} {x : MFunc n} {fp : FP} {fi : Nat} {y : MBlock n} {bp : BP} {bi : Nat} {w : World} (hx0 : FIn w All x fp) (hs0 : x.small) (hy0 : BIn w All y bp) (ht0 : y.small) :
    Rd Tryz.prog 123 #[.agg #[.slice p m.length c,.int .i64 x.regs,.slice fp.pP x.params.length fp.cP,.slice fp.pR x.results.length fp.cR,.slice fp.pB x.blocks.length fp.cB,.int .i64 (fi:Int),.int .i64 y.regs,.slice bp.pP y.params.length bp.cP,.slice bp.pC y.code.length bp.cC,.int .i64 y.fin.op,.int .i64 y.fin.a,.int .i64 y.fin.yes.block,.slice bp.e.pYR y.fin.yes.regs.length bp.e.cYR,.slice bp.e.pYA y.fin.yes.args.length bp.e.cYA,.int .i64 y.fin.no.block,.slice bp.e.pNR y.fin.no.regs.length bp.e.cNR,.slice bp.e.pNA y.fin.no.args.length bp.e.cNA,.slice bp.e.pA y.fin.args.length bp.e.cA,.int .i64 (bi:Int)]] w (.bool (bdec (y.takes x))):=by
  have hx:Hid _:=hx0;have hs:Hid _:=hs0;have hy:Hid _:=hy0;have ht:Hid _:=ht0;clear hx0 hs0 hy0 ht0;refine fr_enter (n:=21) Tryz.func123 rfl rfl rfl ?_;intro a hF;have hW:=Wd.start w;replace hF:Fr 21 a [(0,.agg #[.slice p m.length c,.int .i64 x.regs,.slice fp.pP x.params.length fp.cP,.slice fp.pR x.results.length fp.cR,.slice fp.pB x.blocks.length fp.cB,.int .i64 (fi:Int),.int .i64 y.regs,.slice bp.pP y.params.length bp.cP,.slice bp.pC y.code.length bp.cC,.int .i64 y.fin.op,.int .i64 y.fin.a,.int .i64 y.fin.yes.block,.slice bp.e.pYR y.fin.yes.regs.length bp.e.cYR,.slice bp.e.pYA y.fin.yes.args.length bp.e.cYA,.int .i64 y.fin.no.block,.slice bp.e.pNR y.fin.no.regs.length bp.e.cNR,.slice bp.e.pNA y.fin.no.args.length bp.e.cNA,.slice bp.e.pA y.fin.args.length bp.e.cA,.int .i64 (bi:Int)])]:=hF;refine wp_seq_k fun K1 hK1=>?_;refine rg hF fun ops=>?_;clear hF a;refine sB hW trivial rfl rfl ?_;clear hW;intro w2 B2 hW2 hN;clear hN;refine sa trivial rfl rfl ?_;refine St.nil fun a3 h3=>?_;refine hK1 _ _ ?_;refine wp_seq_k fun K4 hK4=>?_;refine fr_region ?_;intro ops hops;have hg8:(ops[8]?).bind (fun o:Oper=>o.dst)=some 11:=hops 8;clear hops;refine St.go h3 ?_;clear h3 a3;refine sfblockLook1 trivial rfl rfl ?_;refine sfBlock0 trivial rfl rfl ?_;refine sbInt 0 hW2 trivial rfl rfl rfl rfl ?_;refine sfblockLook0 trivial rfl rfl ?_;refine sffuncLook1 trivial rfl rfl ?_;refine sfFunc0 trivial rfl rfl ?_;refine sbInt 0 hW2 trivial rfl rfl rfl rfl ?_;refine seq trivial rfl rfl rfl ?_;refine sm trivial rfl rfl ?_;intro a5 h5;rcases Bool.eq_false_or_eq_true (y.regs==x.regs) with hb | hb
  ·rw [hb] at h5
   have h9:y.regs=x.regs:=eq_of_beq hb;have hc6:Hid (y.regs=x.regs):=h9;clear h9;clear hb;refine St.go h5 ?_;clear h5 a5;refine sfblockLook1 ⟨_,hg8,rfl,rfl⟩ rfl rfl ?_;refine sfBlock1 ⟨_,hg8,rfl,rfl⟩ rfl rfl ?_;refine sbTypes 0 hW2 ⟨_,hg8,rfl,rfl⟩ rfl rfl rfl rfl ?_;refine sfblockLook0 ⟨_,hg8,rfl,rfl⟩ rfl rfl ?_;refine sffuncLook1 ⟨_,hg8,rfl,rfl⟩ rfl rfl ?_;refine sfFunc1 ⟨_,hg8,rfl,rfl⟩ rfl rfl ?_;refine sbTypes 0 hW2 ⟨_,hg8,rfl,rfl⟩ rfl rfl rfl rfl ?_;refine sc_3 cf140 hW2 (eqTypes_any (Lay.below hy.out.params hW2.bel) (Lay.below hx.out.params hW2.bel) ht.out.2.1) ⟨_,hg8,rfl,rfl⟩ rfl rfl rfl rfl ?_;clear hW2;intro w7 hW7;refine sp trivial rfl rfl rfl ?_;refine sa trivial rfl rfl ?_;refine St.nil fun a8 h8=>?_;refine hK4 _ _ ?_;refine wp_ret ?_;with_reducible repeat first | refine of_then_ret ?_ | refine of_block_ret ?_
   have R:y.params=x.params ↔ y.takes x:=⟨fun h=>⟨hc6.out,h⟩,fun h=>h.2⟩;exact ret_tmp (t:=2) h8 rfl rfl ⟨by rw [bdec_congr R],hW7.bel⟩
  rw [hb] at h5;have h9:¬ y.regs=x.regs:=ne_of_beq_false hb;have hc9:¬ y.regs=x.regs:=h9;clear h9;clear hb;refine St.go h5 ?_;clear h5 a5;refine so hg8 rfl rfl rfl rfl ?_;refine so hg8 rfl rfl rfl rfl ?_;refine so hg8 rfl rfl rfl rfl ?_;refine so hg8 rfl rfl rfl rfl ?_;refine so hg8 rfl rfl rfl rfl ?_;refine so hg8 rfl rfl rfl rfl ?_;refine so hg8 rfl rfl rfl rfl ?_;refine so hg8 rfl rfl rfl rfl ?_;refine spf trivial rfl rfl rfl ?_;refine sa trivial rfl rfl ?_;refine St.nil fun a10 h10=>?_;refine hK4 _ _ ?_;refine wp_ret ?_;with_reducible repeat first | refine of_then_ret ?_ | refine of_block_ret ?_
  have R:¬ y.takes x:=fun h=>hc9 h.1;exact ret_tmp (t:=2) h10 rfl rfl ⟨by rw [bdec_false R],hW2.bel⟩
theorem funcCode_any {n : Nat} {m : List (MFunc n)} {p : Option Addr} {c : Nat} {x : MFunc n} {fp : FP} {fi : Nat} {w : World} (hx0 : FIn w All x fp) (hs0 : x.small) :
    Rd Tryz.prog 71 #[.agg #[.slice p m.length c,.int .i64 x.regs,.slice fp.pP x.params.length fp.cP,.slice fp.pR x.results.length fp.cR,.slice fp.pB x.blocks.length fp.cB,.int .i64 (fi:Int)]] w (.int .i64 (x.code fi)):=by
  have hx:Hid _:=hx0;have hs:Hid _:=hs0;clear hx0 hs0;refine fr_enter (n:=55) Tryz.func71 rfl rfl rfl ?_;intro a hF;have hW:=Wd.start w;replace hF:Fr 55 a [(0,.agg #[.slice p m.length c,.int .i64 x.regs,.slice fp.pP x.params.length fp.cP,.slice fp.pR x.results.length fp.cR,.slice fp.pB x.blocks.length fp.cB,.int .i64 (fi:Int)])]:=hF;refine wp_seq_k fun K1 hK1=>?_;refine rg hF fun ops=>?_;clear hF a;refine sB hW trivial rfl rfl ?_;clear hW;intro w2 B2 hW2 hN;clear hN;refine sa trivial rfl rfl ?_;refine St.nil fun a3 h3=>?_;refine hK1 _ _ ?_;refine wp_seq_k fun K4 hK4=>?_;refine wp_seq_k fun K5 hK5=>?_;refine fr_region ?_;intro ops hops;have hg4:(ops[4]?).bind (fun o:Oper=>o.dst)=some 9:=hops 4;clear hops;refine St.go h3 ?_;clear h3 a3;refine sffuncLook1 trivial rfl rfl ?_;refine sfFunc0 trivial rfl rfl ?_;refine sbInt 0 hW2 trivial rfl rfl rfl rfl ?_;refine slt trivial rfl rfl rfl ?_;refine sm trivial rfl rfl ?_;intro a6 h6;rcases Bool.eq_false_or_eq_true (decide (x.regs<0)) with hb | hb
  ·rw [hb] at h6
   have hc7:x.regs<0:=of_decide_eq_true hb;clear hb;refine St.go h6 ?_;clear h6 a6;refine so hg4 rfl rfl rfl rfl ?_;refine so hg4 rfl rfl rfl rfl ?_;refine so hg4 rfl rfl rfl rfl ?_;refine so hg4 rfl rfl rfl rfl ?_;refine sp trivial rfl rfl rfl ?_;refine St.nil fun a8 h8=>?_;refine hK5 _ _ ?_;refine fr_true (t:=14) h8 rfl ?_;refine wp_seq_k fun K9 hK9=>?_;refine rg h8 fun ops=>?_;clear h8 a8;refine sa trivial rfl rfl ?_;refine St.nil fun a10 h10=>?_;refine hK9 _ _ ?_;refine wp_ret ?_;with_reducible repeat first | refine of_then_ret ?_ | refine of_block_ret ?_
   have R:x.code fi=1:=if_pos (by omega);exact ret_tmp (t:=2) h10 rfl rfl ⟨by rw [R],hW2.bel⟩
  rw [hb] at h6;have hc11:¬ (x.regs<0):=of_decide_eq_false hb;clear hb;refine St.go h6 ?_;clear h6 a6;refine sffuncLook1 ⟨_,hg4,rfl,rfl⟩ rfl rfl ?_;refine sfFunc0 ⟨_,hg4,rfl,rfl⟩ rfl rfl ?_;refine sbInt 0 hW2 ⟨_,hg4,rfl,rfl⟩ rfl rfl rfl rfl ?_;refine sgt ⟨_,hg4,rfl,rfl⟩ rfl rfl rfl ?_;refine spf trivial rfl rfl rfl ?_;refine St.nil fun a12 h12=>?_;refine hK5 _ _ ?_;refine fr_cond (t:=14) h12 rfl (fun hb=>?_) (fun hb=>?_)
  ·have hc13:6<x.regs:=of_decide_eq_true hb
   clear hb;refine wp_seq_k fun K14 hK14=>?_;refine rg h12 fun ops=>?_;clear h12 a12;refine sa trivial rfl rfl ?_;refine St.nil fun a15 h15=>?_;refine hK14 _ _ ?_;refine wp_ret ?_;with_reducible repeat first | refine of_then_ret ?_ | refine of_block_ret ?_
   have R:x.code fi=1:=if_pos (by omega);exact ret_tmp (t:=2) h15 rfl rfl ⟨by rw [R],hW2.bel⟩
  have hc16:¬ (6<x.regs):=of_decide_eq_false hb;clear hb;refine wp_skip ?_;refine hK4 _ _ ?_;refine wp_seq_k fun K17 hK17=>?_;refine wp_seq_k fun K18 hK18=>?_;refine rg h12 fun ops=>?_;clear h12 a12;refine sffuncLook1 trivial rfl rfl ?_;refine sfFunc1 trivial rfl rfl ?_;refine sbTypes 0 hW2 trivial rfl rfl rfl rfl ?_;refine sffuncLook1 trivial rfl rfl ?_;refine sfFunc0 trivial rfl rfl ?_;refine sbInt 0 hW2 trivial rfl rfl rfl rfl ?_;refine sc_2 cf92 hW2 (typesCode_any (regs:=x.regs) (Lay.below hx.out.params hW2.bel) hs.out.2.1) trivial rfl rfl rfl ?_;clear hW2;intro w19 hW19;refine sa trivial rfl rfl ?_;refine St.nil fun a20 h20=>?_;refine hK18 _ _ ?_;refine wp_seq_k fun K21 hK21=>?_;refine rg h20 fun ops=>?_;clear h20 a20;refine sm trivial rfl rfl ?_;refine sne trivial rfl rfl rfl ?_;refine St.nil fun a22 h22=>?_;refine hK21 _ _ ?_;refine fr_cond (t:=23) h22 rfl (fun hb=>?_) (fun hb=>?_)
  ·have h9:¬ (listC x.regs x.params)=0:=bne_iff_ne.1 hb
   have hc23:¬ (listC x.regs x.params)=0:=h9;clear h9;clear hb;refine wp_seq_k fun K24 hK24=>?_;refine rg h22 fun ops=>?_;clear h22 a22;refine sm trivial rfl rfl ?_;refine sa trivial rfl rfl ?_;refine St.nil fun a25 h25=>?_;refine hK24 _ _ ?_;refine wp_ret ?_;with_reducible repeat first | refine of_then_ret ?_ | refine of_block_ret ?_
   have R:x.code fi=listC x.regs x.params:=(if_neg (by omega)).trans (if_pos (by omega));exact ret_tmp (t:=2) h25 rfl rfl ⟨by rw [R],hW19.bel⟩
  have h9:(listC x.regs x.params)=0:=bne_eq_false_iff_eq.1 hb;have hc26:Hid ((listC x.regs x.params)=0):=h9;clear h9;clear hb;refine wp_skip ?_;refine hK17 _ _ ?_;refine wp_seq_k fun K27 hK27=>?_;refine wp_seq_k fun K28 hK28=>?_;refine rg h22 fun ops=>?_;clear h22 a22;refine sffuncLook1 trivial rfl rfl ?_;refine sfFunc2 trivial rfl rfl ?_;refine sbTypes 0 hW19 trivial rfl rfl rfl rfl ?_;refine sffuncLook1 trivial rfl rfl ?_;refine sfFunc0 trivial rfl rfl ?_;refine sbInt 0 hW19 trivial rfl rfl rfl rfl ?_;refine sc_2 cf92 hW19 (typesCode_any (regs:=x.regs) (Lay.below hx.out.results hW19.bel) hs.out.2.2.1) trivial rfl rfl rfl ?_;clear hW19;intro w29 hW29;refine sa trivial rfl rfl ?_;refine St.nil fun a30 h30=>?_;refine hK28 _ _ ?_;refine wp_seq_k fun K31 hK31=>?_;refine rg h30 fun ops=>?_;clear h30 a30;refine sm trivial rfl rfl ?_;refine sne trivial rfl rfl rfl ?_;refine St.nil fun a32 h32=>?_;refine hK31 _ _ ?_;refine fr_cond (t:=33) h32 rfl (fun hb=>?_) (fun hb=>?_)
  ·have h9:¬ (listC x.regs x.results)=0:=bne_iff_ne.1 hb
   have hc33:¬ (listC x.regs x.results)=0:=h9;clear h9;clear hb;refine wp_seq_k fun K34 hK34=>?_;refine rg h32 fun ops=>?_;clear h32 a32;refine sm trivial rfl rfl ?_;refine sa trivial rfl rfl ?_;refine St.nil fun a35 h35=>?_;refine hK34 _ _ ?_;refine wp_ret ?_;with_reducible repeat first | refine of_then_ret ?_ | refine of_block_ret ?_
   have:=hc26.out
   have R:x.code fi=listC x.regs x.results:=(if_neg (by omega)).trans ((if_neg (by omega)).trans (if_pos (by omega)));exact ret_tmp (t:=2) h35 rfl rfl ⟨by rw [R],hW29.bel⟩
  have h9:(listC x.regs x.results)=0:=bne_eq_false_iff_eq.1 hb;have hc36:Hid ((listC x.regs x.results)=0):=h9;clear h9;clear hb;refine wp_skip ?_;refine hK27 _ _ ?_;refine wp_seq_k fun K37 hK37=>?_;refine wp_seq_k fun K38 hK38=>?_;refine fr_region ?_;intro ops hops;have hg5:(ops[5]?).bind (fun o:Oper=>o.dst)=some 40:=hops 5;clear hops;refine St.go h32 ?_;clear h32 a32;refine sffuncLook1 trivial rfl rfl ?_;refine sfFunc3 trivial rfl rfl ?_;refine sbBlocks 0 hW29 trivial rfl rfl rfl rfl ?_;refine slBlocks trivial rfl rfl ?_;refine slt trivial rfl rfl rfl ?_;refine sm trivial rfl rfl ?_;intro a39 h39;rcases Bool.eq_false_or_eq_true (decide ((x.blocks.length:Int)<1)) with hb | hb
  ·rw [hb] at h39
   have hc40:x.blocks.length<1:=by have:=of_decide_eq_true hb;omega
   clear hb;refine St.go h39 ?_;clear h39 a39;refine so hg5 rfl rfl rfl rfl ?_;refine so hg5 rfl rfl rfl rfl ?_;refine so hg5 rfl rfl rfl rfl ?_;refine so hg5 rfl rfl rfl rfl ?_;refine so hg5 rfl rfl rfl rfl ?_;refine sp trivial rfl rfl rfl ?_;refine St.nil fun a41 h41=>?_;refine hK38 _ _ ?_;refine fr_true (t:=46) h41 rfl ?_;refine wp_seq_k fun K42 hK42=>?_;refine rg h41 fun ops=>?_;clear h41 a41;refine sa trivial rfl rfl ?_;refine St.nil fun a43 h43=>?_;refine hK42 _ _ ?_;refine wp_ret ?_;with_reducible repeat first | refine of_then_ret ?_ | refine of_block_ret ?_
   have:=hc26.out
   have:=hc36.out
   have R:x.code fi=2:=(if_neg (by omega)).trans ((if_neg (by omega)).trans ((if_neg (by omega)).trans (if_pos (by omega))));exact ret_tmp (t:=2) h43 rfl rfl ⟨by rw [R],hW29.bel⟩
  rw [hb] at h39;have hc44:¬ (x.blocks.length<1):=by have:=of_decide_eq_false hb;omega
  clear hb;refine St.go h39 ?_;clear h39 a39;refine sffuncLook1 ⟨_,hg5,rfl,rfl⟩ rfl rfl ?_;refine sfFunc3 ⟨_,hg5,rfl,rfl⟩ rfl rfl ?_;refine sbBlocks 0 hW29 ⟨_,hg5,rfl,rfl⟩ rfl rfl rfl rfl ?_;refine slBlocks ⟨_,hg5,rfl,rfl⟩ rfl rfl ?_;refine sgt ⟨_,hg5,rfl,rfl⟩ rfl rfl rfl ?_;refine spf trivial rfl rfl rfl ?_;refine St.nil fun a45 h45=>?_;refine hK38 _ _ ?_;refine fr_cond (t:=46) h45 rfl (fun hb=>?_) (fun hb=>?_)
  ·have hc46:12<x.blocks.length:=by have:=of_decide_eq_true hb;omega
   clear hb;refine wp_seq_k fun K47 hK47=>?_;refine rg h45 fun ops=>?_;clear h45 a45;refine sa trivial rfl rfl ?_;refine St.nil fun a48 h48=>?_;refine hK47 _ _ ?_;refine wp_ret ?_;with_reducible repeat first | refine of_then_ret ?_ | refine of_block_ret ?_
   have:=hc26.out
   have:=hc36.out
   have R:x.code fi=2:=(if_neg (by omega)).trans ((if_neg (by omega)).trans ((if_neg (by omega)).trans (if_pos (by omega))));exact ret_tmp (t:=2) h48 rfl rfl ⟨by rw [R],hW29.bel⟩
  have hc49:¬ (12<x.blocks.length):=by have:=of_decide_eq_false hb;omega
  clear hb;refine wp_skip ?_;refine hK37 _ _ ?_;refine wp_seq_k fun K50 hK50=>?_;refine wp_seq_k fun K51 hK51=>?_;refine fr_region ?_;intro ops hops;have hg3:(ops[3]?).bind (fun o:Oper=>o.dst)=some 50:=hops 3;clear hops;refine St.go h45 ?_;clear h45 a45;refine sffuncLook2 trivial rfl rfl ?_;refine sbInt 0 hW29 trivial rfl rfl rfl rfl ?_;refine seq trivial rfl rfl rfl ?_;refine sm trivial rfl rfl ?_;intro a52 h52;rcases Bool.eq_false_or_eq_true ((fi:Int)==0) with hb | hb
  ·rw [hb] at h52
   have h9:fi=0:=by have h8:=eq_of_beq hb;omega
   have hc53:Hid (fi=0):=h9;clear h9;clear hb;refine St.go h52 ?_;clear h52 a52;refine sS 0 6 Tryz.underlying92 rfl inffuncLook hW29 ⟨_,hg3,rfl,rfl⟩ rfl rfl rfl rfl ?_;refine sc_1 cf93 hW29 (canBegin_any (m:=m) (p:=p) (c:=c) (fi:=fi) (hx.out.below hW29.bel) hs.out) ⟨_,hg3,rfl,rfl⟩ rfl rfl ?_;clear hW29;intro w54 hW54;refine sn ⟨_,hg3,rfl,rfl⟩ rfl rfl ?_;refine sp trivial rfl rfl rfl ?_;refine St.nil fun a55 h55=>?_;refine hK51 _ _ ?_;refine fr_cond (t:=54) h55 rfl (fun hb=>?_) (fun hb=>?_)
   ·have hb:(bdec (x.begins))=false:=by simpa using hb
    have hc56:¬ (x.begins):=fun h=>by rw [bdec_true h] at hb;cases hb
    clear hb;refine wp_seq_k fun K57 hK57=>?_;refine rg h55 fun ops=>?_;clear h55 a55;refine sa trivial rfl rfl ?_;refine St.nil fun a58 h58=>?_;refine hK57 _ _ ?_;refine wp_ret ?_;with_reducible repeat first | refine of_then_ret ?_ | refine of_block_ret ?_
    have:=hc26.out
    have:=hc36.out
    have:=hc53.out
    have R:x.code fi=18:=(if_neg (by omega)).trans ((if_neg (by omega)).trans ((if_neg (by omega)).trans ((if_neg (by omega)).trans (if_pos (⟨by omega,hc56⟩)))));exact ret_tmp (t:=2) h58 rfl rfl ⟨by rw [R],hW54.bel⟩
   have hb:(bdec (x.begins))=true:=by simpa using hb
   have hc59:(x.begins):=bdec_iff.1 hb;clear hb;refine wp_skip ?_;refine hK50 _ _ ?_;refine wp_seq_k fun K60 hK60=>?_;refine rg h55 fun ops=>?_;clear h55 a55;refine sa trivial rfl rfl ?_;refine St.nil fun a61 h61=>?_;refine hK60 _ _ ?_;refine wp_ret ?_;with_reducible repeat first | refine of_then_ret ?_ | refine of_block_ret ?_
   have:=hc26.out
   have:=hc36.out
   have:=hc53.out
   have R:x.code fi=0:=(if_neg (by omega)).trans ((if_neg (by omega)).trans ((if_neg (by omega)).trans ((if_neg (by omega)).trans ((if_neg (fun h=>h.2 hc59)).trans (rfl)))));exact ret_tmp (t:=2) h61 rfl rfl ⟨by rw [R],hW54.bel⟩
  rw [hb] at h52;have h9:¬ fi=0:=by have h8:=ne_of_beq_false hb;omega
  have hc62:¬ fi=0:=h9;clear h9;clear hb;refine St.go h52 ?_;clear h52 a52;refine so hg3 rfl rfl rfl rfl ?_;refine so hg3 rfl rfl rfl rfl ?_;refine so hg3 rfl rfl rfl rfl ?_;refine spf trivial rfl rfl rfl ?_;refine St.nil fun a63 h63=>?_;refine hK51 _ _ ?_;refine fr_false (t:=54) h63 rfl ?_;refine wp_skip ?_;refine hK50 _ _ ?_;refine wp_seq_k fun K64 hK64=>?_;refine rg h63 fun ops=>?_;clear h63 a63;refine sa trivial rfl rfl ?_;refine St.nil fun a65 h65=>?_;refine hK64 _ _ ?_;refine wp_ret ?_;with_reducible repeat first | refine of_then_ret ?_ | refine of_block_ret ?_
  have:=hc26.out
  have:=hc36.out
  have R:x.code fi=0:=(if_neg (by omega)).trans ((if_neg (by omega)).trans ((if_neg (by omega)).trans ((if_neg (by omega)).trans ((if_neg (by omega)).trans (rfl)))));exact ret_tmp (t:=2) h65 rfl rfl ⟨by rw [R],hW29.bel⟩
theorem blockCode_any {n : Nat} {m : List (MFunc n)} {p : Option Addr} {c : Nat} {x : MFunc n} {fp : FP} {fi : Nat} {y : MBlock n} {bp : BP} {bi : Nat} {w : World} (hx0 : FIn w All x fp) (hs0 : x.small) (hy0 : BIn w All y bp) (ht0 : y.small) :
    Rd Tryz.prog 94 #[.agg #[.slice p m.length c,.int .i64 x.regs,.slice fp.pP x.params.length fp.cP,.slice fp.pR x.results.length fp.cR,.slice fp.pB x.blocks.length fp.cB,.int .i64 (fi:Int),.int .i64 y.regs,.slice bp.pP y.params.length bp.cP,.slice bp.pC y.code.length bp.cC,.int .i64 y.fin.op,.int .i64 y.fin.a,.int .i64 y.fin.yes.block,.slice bp.e.pYR y.fin.yes.regs.length bp.e.cYR,.slice bp.e.pYA y.fin.yes.args.length bp.e.cYA,.int .i64 y.fin.no.block,.slice bp.e.pNR y.fin.no.regs.length bp.e.cNR,.slice bp.e.pNA y.fin.no.args.length bp.e.cNA,.slice bp.e.pA y.fin.args.length bp.e.cA,.int .i64 (bi:Int)]] w (.int .i64 (y.code' x bi)):=by
  have hx:Hid _:=hx0;have hs:Hid _:=hs0;have hy:Hid _:=hy0;have ht:Hid _:=ht0;clear hx0 hs0 hy0 ht0;refine fr_enter (n:=41) Tryz.func94 rfl rfl rfl ?_;intro a hF;have hW:=Wd.start w;replace hF:Fr 41 a [(0,.agg #[.slice p m.length c,.int .i64 x.regs,.slice fp.pP x.params.length fp.cP,.slice fp.pR x.results.length fp.cR,.slice fp.pB x.blocks.length fp.cB,.int .i64 (fi:Int),.int .i64 y.regs,.slice bp.pP y.params.length bp.cP,.slice bp.pC y.code.length bp.cC,.int .i64 y.fin.op,.int .i64 y.fin.a,.int .i64 y.fin.yes.block,.slice bp.e.pYR y.fin.yes.regs.length bp.e.cYR,.slice bp.e.pYA y.fin.yes.args.length bp.e.cYA,.int .i64 y.fin.no.block,.slice bp.e.pNR y.fin.no.regs.length bp.e.cNR,.slice bp.e.pNA y.fin.no.args.length bp.e.cNA,.slice bp.e.pA y.fin.args.length bp.e.cA,.int .i64 (bi:Int)])]:=hF;refine wp_seq_k fun K1 hK1=>?_;refine rg hF fun ops=>?_;clear hF a;refine sB hW trivial rfl rfl ?_;clear hW;intro w2 B2 hW2 hN;clear hN;refine sa trivial rfl rfl ?_;refine St.nil fun a3 h3=>?_;refine hK1 _ _ ?_;refine wp_seq_k fun K4 hK4=>?_;refine wp_seq_k fun K5 hK5=>?_;refine fr_region ?_;intro ops hops;have hg8:(ops[8]?).bind (fun o:Oper=>o.dst)=some 12:=hops 8;clear hops;refine St.go h3 ?_;clear h3 a3;refine sfblockLook1 trivial rfl rfl ?_;refine sfBlock0 trivial rfl rfl ?_;refine sbInt 0 hW2 trivial rfl rfl rfl rfl ?_;refine sfblockLook0 trivial rfl rfl ?_;refine sffuncLook1 trivial rfl rfl ?_;refine sfFunc0 trivial rfl rfl ?_;refine sbInt 0 hW2 trivial rfl rfl rfl rfl ?_;refine slt trivial rfl rfl rfl ?_;refine sm trivial rfl rfl ?_;intro a6 h6;rcases Bool.eq_false_or_eq_true (decide (y.regs<x.regs)) with hb | hb
  ·rw [hb] at h6
   have hc7:y.regs<x.regs:=of_decide_eq_true hb;clear hb;refine St.go h6 ?_;clear h6 a6;refine so hg8 rfl rfl rfl rfl ?_;refine so hg8 rfl rfl rfl rfl ?_;refine so hg8 rfl rfl rfl rfl ?_;refine so hg8 rfl rfl rfl rfl ?_;refine sp trivial rfl rfl rfl ?_;refine St.nil fun a8 h8=>?_;refine hK5 _ _ ?_;refine fr_true (t:=17) h8 rfl ?_;refine wp_seq_k fun K9 hK9=>?_;refine rg h8 fun ops=>?_;clear h8 a8;refine sa trivial rfl rfl ?_;refine St.nil fun a10 h10=>?_;refine hK9 _ _ ?_;refine wp_ret ?_;with_reducible repeat first | refine of_then_ret ?_ | refine of_block_ret ?_
   have R:y.code' x bi=1:=if_pos (by omega);exact ret_tmp (t:=2) h10 rfl rfl ⟨by rw [R],hW2.bel⟩
  rw [hb] at h6;have hc11:¬ (y.regs<x.regs):=of_decide_eq_false hb;clear hb;refine St.go h6 ?_;clear h6 a6;refine sfblockLook1 ⟨_,hg8,rfl,rfl⟩ rfl rfl ?_;refine sfBlock0 ⟨_,hg8,rfl,rfl⟩ rfl rfl ?_;refine sbInt 0 hW2 ⟨_,hg8,rfl,rfl⟩ rfl rfl rfl rfl ?_;refine sgt ⟨_,hg8,rfl,rfl⟩ rfl rfl rfl ?_;refine spf trivial rfl rfl rfl ?_;refine St.nil fun a12 h12=>?_;refine hK5 _ _ ?_;refine fr_cond (t:=17) h12 rfl (fun hb=>?_) (fun hb=>?_)
  ·have hc13:16<y.regs:=of_decide_eq_true hb
   clear hb;refine wp_seq_k fun K14 hK14=>?_;refine rg h12 fun ops=>?_;clear h12 a12;refine sa trivial rfl rfl ?_;refine St.nil fun a15 h15=>?_;refine hK14 _ _ ?_;refine wp_ret ?_;with_reducible repeat first | refine of_then_ret ?_ | refine of_block_ret ?_
   have R:y.code' x bi=1:=if_pos (by omega);exact ret_tmp (t:=2) h15 rfl rfl ⟨by rw [R],hW2.bel⟩
  have hc16:¬ (16<y.regs):=of_decide_eq_false hb;clear hb;refine wp_skip ?_;refine hK4 _ _ ?_;refine wp_seq_k fun K17 hK17=>?_;refine wp_seq_k fun K18 hK18=>?_;refine rg h12 fun ops=>?_;clear h12 a12;refine sfblockLook1 trivial rfl rfl ?_;refine sfBlock1 trivial rfl rfl ?_;refine sbTypes 0 hW2 trivial rfl rfl rfl rfl ?_;refine sfblockLook1 trivial rfl rfl ?_;refine sfBlock0 trivial rfl rfl ?_;refine sbInt 0 hW2 trivial rfl rfl rfl rfl ?_;refine sc_2 cf92 hW2 (typesCode_any (regs:=y.regs) (Lay.below hy.out.params hW2.bel) ht.out.2.1) trivial rfl rfl rfl ?_;clear hW2;intro w19 hW19;refine sa trivial rfl rfl ?_;refine St.nil fun a20 h20=>?_;refine hK18 _ _ ?_;refine wp_seq_k fun K21 hK21=>?_;refine rg h20 fun ops=>?_;clear h20 a20;refine sm trivial rfl rfl ?_;refine sne trivial rfl rfl rfl ?_;refine St.nil fun a22 h22=>?_;refine hK21 _ _ ?_;refine fr_cond (t:=26) h22 rfl (fun hb=>?_) (fun hb=>?_)
  ·have h9:¬ (listC y.regs y.params)=0:=bne_iff_ne.1 hb
   have hc23:¬ (listC y.regs y.params)=0:=h9;clear h9;clear hb;refine wp_seq_k fun K24 hK24=>?_;refine rg h22 fun ops=>?_;clear h22 a22;refine sm trivial rfl rfl ?_;refine sa trivial rfl rfl ?_;refine St.nil fun a25 h25=>?_;refine hK24 _ _ ?_;refine wp_ret ?_;with_reducible repeat first | refine of_then_ret ?_ | refine of_block_ret ?_
   have R:y.code' x bi=listC y.regs y.params:=(if_neg (by omega)).trans (if_pos (by omega));exact ret_tmp (t:=2) h25 rfl rfl ⟨by rw [R],hW19.bel⟩
  have h9:(listC y.regs y.params)=0:=bne_eq_false_iff_eq.1 hb;have hc26:Hid ((listC y.regs y.params)=0):=h9;clear h9;clear hb;refine wp_skip ?_;refine hK17 _ _ ?_;refine wp_seq_k fun K27 hK27=>?_;refine wp_seq_k fun K28 hK28=>?_;refine fr_region ?_;intro ops hops;have hg3:(ops[3]?).bind (fun o:Oper=>o.dst)=some 31:=hops 3;clear hops;refine St.go h22 ?_;clear h22 a22;refine sfblockLook2 trivial rfl rfl ?_;refine sbInt 0 hW19 trivial rfl rfl rfl rfl ?_;refine seq trivial rfl rfl rfl ?_;refine sm trivial rfl rfl ?_;intro a29 h29;rcases Bool.eq_false_or_eq_true ((bi:Int)==0) with hb | hb
  ·rw [hb] at h29
   have h9:bi=0:=by have h8:=eq_of_beq hb;omega
   have hc30:Hid (bi=0):=h9;clear h9;clear hb;refine St.go h29 ?_;clear h29 a29;refine sS 0 19 Tryz.underlying122 rfl infblockLook hW19 ⟨_,hg3,rfl,rfl⟩ rfl rfl rfl rfl ?_;refine sc_1 cf123 hW19 (takes_any (m:=m) (p:=p) (c:=c) (fi:=fi) (bi:=bi) (hx.out.below hW19.bel) hs.out (hy.out.below hW19.bel) ht.out) ⟨_,hg3,rfl,rfl⟩ rfl rfl ?_;clear hW19;intro w31 hW31;refine sn ⟨_,hg3,rfl,rfl⟩ rfl rfl ?_;refine sp trivial rfl rfl rfl ?_;refine St.nil fun a32 h32=>?_;refine hK28 _ _ ?_;refine fr_cond (t:=35) h32 rfl (fun hb=>?_) (fun hb=>?_)
   ·have hb:(bdec (y.takes x))=false:=by simpa using hb
    have hc33:¬ (y.takes x):=fun h=>by rw [bdec_true h] at hb;cases hb
    clear hb;refine wp_seq_k fun K34 hK34=>?_;refine rg h32 fun ops=>?_;clear h32 a32;refine sa trivial rfl rfl ?_;refine St.nil fun a35 h35=>?_;refine hK34 _ _ ?_;refine wp_ret ?_;with_reducible repeat first | refine of_then_ret ?_ | refine of_block_ret ?_
    have:=hc26.out
    have:=hc30.out
    have R:y.code' x bi=9:=(if_neg (by omega)).trans ((if_neg (by omega)).trans (if_pos (⟨by omega,takes_no hc33⟩)));exact ret_tmp (t:=2) h35 rfl rfl ⟨by rw [R],hW31.bel⟩
   have hb:(bdec (y.takes x))=true:=by simpa using hb
   have hc36:(y.takes x):=bdec_iff.1 hb;clear hb;refine wp_skip ?_;refine hK27 _ _ ?_;refine wp_seq_k fun K37 hK37=>?_;refine wp_seq_k fun K38 hK38=>?_;refine rg h32 fun ops=>?_;clear h32 a32;refine sfblockLook1 trivial rfl rfl ?_;refine sfBlock2 trivial rfl rfl ?_;refine sbInss 0 hW31 trivial rfl rfl rfl rfl ?_;refine slInss trivial rfl rfl ?_;refine sgt trivial rfl rfl rfl ?_;refine St.nil fun a39 h39=>?_;refine hK38 _ _ ?_;refine fr_cond (t:=40) h39 rfl (fun hb=>?_) (fun hb=>?_)
   ·have hc40:40<y.code.length:=by have:=of_decide_eq_true hb;omega
    clear hb;refine wp_seq_k fun K41 hK41=>?_;refine rg h39 fun ops=>?_;clear h39 a39;refine sa trivial rfl rfl ?_;refine St.nil fun a42 h42=>?_;refine hK41 _ _ ?_;refine wp_ret ?_;with_reducible repeat first | refine of_then_ret ?_ | refine of_block_ret ?_
    have:=hc26.out
    have:=hc30.out
    have R:y.code' x bi=2:=(if_neg (by omega)).trans ((if_neg (by omega)).trans ((if_neg (fun h=>takes_yes hc36 h.2)).trans (if_pos (by omega))));exact ret_tmp (t:=2) h42 rfl rfl ⟨by rw [R],hW31.bel⟩
   have hc43:¬ (40<y.code.length):=by have:=of_decide_eq_false hb;omega
   clear hb;refine wp_skip ?_;refine hK37 _ _ ?_;refine wp_seq_k fun K44 hK44=>?_;refine rg h39 fun ops=>?_;clear h39 a39;refine sa trivial rfl rfl ?_;refine St.nil fun a45 h45=>?_;refine hK44 _ _ ?_;refine wp_ret ?_;with_reducible repeat first | refine of_then_ret ?_ | refine of_block_ret ?_
   have:=hc26.out
   have:=hc30.out
   have R:y.code' x bi=0:=(if_neg (by omega)).trans ((if_neg (by omega)).trans ((if_neg (fun h=>takes_yes hc36 h.2)).trans ((if_neg (by omega)).trans (rfl))));exact ret_tmp (t:=2) h45 rfl rfl ⟨by rw [R],hW31.bel⟩
  rw [hb] at h29;have h9:¬ bi=0:=by have h8:=ne_of_beq_false hb;omega
  have hc46:¬ bi=0:=h9;clear h9;clear hb;refine St.go h29 ?_;clear h29 a29;refine so hg3 rfl rfl rfl rfl ?_;refine so hg3 rfl rfl rfl rfl ?_;refine so hg3 rfl rfl rfl rfl ?_;refine spf trivial rfl rfl rfl ?_;refine St.nil fun a47 h47=>?_;refine hK28 _ _ ?_;refine fr_false (t:=35) h47 rfl ?_;refine wp_skip ?_;refine hK27 _ _ ?_;refine wp_seq_k fun K48 hK48=>?_;refine wp_seq_k fun K49 hK49=>?_;refine rg h47 fun ops=>?_;clear h47 a47;refine sfblockLook1 trivial rfl rfl ?_;refine sfBlock2 trivial rfl rfl ?_;refine sbInss 0 hW19 trivial rfl rfl rfl rfl ?_;refine slInss trivial rfl rfl ?_;refine sgt trivial rfl rfl rfl ?_;refine St.nil fun a50 h50=>?_;refine hK49 _ _ ?_;refine fr_cond (t:=40) h50 rfl (fun hb=>?_) (fun hb=>?_)
  ·have hc51:40<y.code.length:=by have:=of_decide_eq_true hb;omega
   clear hb;refine wp_seq_k fun K52 hK52=>?_;refine rg h50 fun ops=>?_;clear h50 a50;refine sa trivial rfl rfl ?_;refine St.nil fun a53 h53=>?_;refine hK52 _ _ ?_;refine wp_ret ?_;with_reducible repeat first | refine of_then_ret ?_ | refine of_block_ret ?_
   have:=hc26.out
   have R:y.code' x bi=2:=(if_neg (by omega)).trans ((if_neg (by omega)).trans ((if_neg (by omega)).trans (if_pos (by omega))));exact ret_tmp (t:=2) h53 rfl rfl ⟨by rw [R],hW19.bel⟩
  have hc54:¬ (40<y.code.length):=by have:=of_decide_eq_false hb;omega
  clear hb;refine wp_skip ?_;refine hK48 _ _ ?_;refine wp_seq_k fun K55 hK55=>?_;refine rg h50 fun ops=>?_;clear h50 a50;refine sa trivial rfl rfl ?_;refine St.nil fun a56 h56=>?_;refine hK55 _ _ ?_;refine wp_ret ?_;with_reducible repeat first | refine of_then_ret ?_ | refine of_block_ret ?_
  have:=hc26.out
  have R:y.code' x bi=0:=(if_neg (by omega)).trans ((if_neg (by omega)).trans ((if_neg (by omega)).trans ((if_neg (by omega)).trans (rfl))));exact ret_tmp (t:=2) h56 rfl rfl ⟨by rw [R],hW19.bel⟩
theorem ffIns_any {l : List MIns} {p : Option Addr} {c Bc : Nat} {w : World} (G : Nat → MIns → Int × Int) (hl0 : insL.list.In w All l [.slice p l.length c]) (hsb : l.length ≤ 100000)
    (hcl0:∀ (i:Nat) x (z:IP) wx,l[i]?=some x→IIn wx All x z→Below w.heap.size w wx→Rd Tryz.prog 97 #[.int .i64 (i:Int),.agg #[.int .i64 x.op,.int .i64 x.a,.int .i64 x.b,.int .i64 x.c,.int .i64 x.k,.int .i64 x.n,.slice z.pR x.regs.length z.cR,.slice z.pA x.args.length z.cA],.pointer (some ⟨Bc,0,none⟩)] wx (faultV (G i x))) :
    Rd Tryz.prog 96 #[.slice p l.length c,.func (.func 97) #[] #[.pointer (some ⟨Bc,0,none⟩)]] w (faultV (firstF G 0 l)):=by
  have hl:Hid _:=hl0;have hcl:Hid _:=hcl0;clear hl0 hcl0;refine fr_enter (n:=25) Tryz.func96 rfl rfl rfl ?_;intro a hF;have hW:=Wd.start w;replace hF:Fr 25 a [(0,.slice p l.length c),(1,.func (.func 97) #[] #[.pointer (some ⟨Bc,0,none⟩)])]:=hF;refine wp_seq_k fun K1 hK1=>?_;refine rg hF fun ops=>?_;clear hF a;refine sAFault hW trivial rfl ?_;clear hW;intro w2 B2 hW2 hN;clear hN;refine St.nil fun a3 h3=>?_;refine hK1 _ _ ?_;refine wp_seq_k fun K4 hK4=>?_;refine wp_seq_k fun K5 hK5=>?_;refine rg h3 fun ops=>?_;clear h3 a3;refine sm trivial rfl rfl ?_;refine slInss trivial rfl rfl ?_;refine sm trivial rfl rfl ?_;refine St.nil fun a6 h6=>?_;refine hK5 _ _ ?_;refine wp_block ?_;refine fr_loop (fun r a w'=>∃ q:Nat,q≤l.length∧r=l.length - q∧(∀ (j:Nat) y,j<q→l[j]?=some y→(G j y).1=0)∧Fr 25 a [(1,.func (.func 97) #[] #[.pointer (some ⟨Bc,0,none⟩)]),(0,.slice p l.length c),(4,.pointer (some ⟨B2,0,none⟩)),(8,.slice p l.length c),(9,.int .i64 (l.length:Int)),(10,.int .i64 (q:Int))]∧Wd w w' [(B2,#[.int .i64 0,.int .i64 0],30)]) (l.length) ⟨0,Nat.zero_le _,rfl,(fun j y hj=>by omega),(h6.keep (h6.keep (h6.keep (h6.keep (h6.keep (h6.keep h6.nil (t:=10) rfl) (t:=9) rfl) (t:=8) rfl) (t:=4) rfl) (t:=0) rfl) (t:=1) rfl),hW2⟩ ?_;clear h6 hW2;rintro r a7 w7 ⟨q,hq,hr,hall,hF7,hW7⟩ KL hKL;refine wp_seq_k fun K8 hK8=>?_;refine rg hF7 fun ops=>?_;clear hF7 a7;refine slt trivial rfl rfl rfl ?_;refine St.nil fun a9 h9=>?_;refine hK8 _ _ ?_;refine wp_seq_k fun K10 hK10=>?_;refine fr_cond (t:=11) h9 rfl (fun hb=>?_) (fun hb=>?_)
  ·have hlt1:q<l.length:=by have:=of_decide_eq_true hb;omega
   clear hb;obtain ⟨x,hx1⟩:∃ v9,(l)[q]?=some v9:=⟨_,List.getElem?_eq_getElem hlt1⟩;obtain ⟨g1,o1,i1,hp1,E1,In1⟩:=ins_at hl.out hx1;replace In1:Hid _:=In1;replace hp1:Hid _:=hp1;replace hx1:Hid _:=hx1;replace E1:Hid _:=E1;refine wp_skip ?_;refine hK10 _ _ ?_;refine wp_seq_k fun K11 hK11=>?_;refine wp_block ?_;refine wp_seq_k fun K12 hK12=>?_;refine rg h9 fun ops=>?_;clear h9 a9;refine sm trivial rfl rfl ?_;refine siInss hp1.out hlt1 trivial rfl rfl rfl ?_;refine sSE Tryz.underlying57 rfl (rangeAt_bel E1.out hW7.bel) infIns trivial rfl rfl ?_;refine sAIns hW7 trivial rfl ?_;clear hW7;intro w13 B13 hW13 hN;clear hN;refine sa trivial rfl rfl ?_;refine sT 0 hW13 rfl rfl infIns rfl rfl rfl ?_;clear hW13;intro w14 hW14;refine St.nil fun a15 h15=>?_;refine hK12 _ _ ?_;refine wp_seq_k fun K16 hK16=>?_;refine rg h15 fun ops=>?_;clear h15 a15;refine sm trivial rfl rfl ?_;refine sm trivial rfl rfl ?_;refine sS 0 8 Tryz.underlying57 rfl infIns hW14 trivial rfl rfl rfl rfl ?_;refine sv_21 cf97 hW14 (hcl.out q x i1 w14 hx1.out (In1.out.below hW14.bel) hW14.bel) trivial rfl rfl rfl rfl ?_;clear hW14;intro w17 hW17;refine sAFault hW17 trivial rfl ?_;clear hW17;intro w18 B18 hW18 hN;clear hN;refine sT 0 hW18 rfl rfl infFault rfl rfl rfl ?_;clear hW18;intro w19 hW19;refine St.nil fun a20 h20=>?_;refine hK16 _ _ ?_;refine wp_seq_k fun K21 hK21=>?_;refine rg h20 fun ops=>?_;clear h20 a20;refine sfFault0 trivial rfl rfl ?_;refine sbInt 0 hW19 trivial rfl rfl rfl rfl ?_;refine sne trivial rfl rfl rfl ?_;refine St.nil fun a22 h22=>?_;refine hK21 _ _ ?_;refine fr_cond (t:=21) h22 rfl (fun hb=>?_) (fun hb=>?_)
   ·have h9:¬ ((G q x).1)=0:=bne_iff_ne.1 hb
    have hne:¬ ((G q x).1)=0:=h9;clear h9;clear hb;refine wp_seq_k fun K23 hK23=>?_;refine rg h22 fun ops=>?_;clear h22 a22;refine sS 0 2 Tryz.underlying30 rfl infFault hW19 trivial rfl rfl rfl rfl ?_;refine sT 2 hW19 rfl rfl infFault rfl rfl rfl ?_;clear hW19;intro w24 hW24;refine St.nil fun a25 h25=>?_;refine hK23 _ _ ?_;refine wp_ret ?_;with_reducible repeat first | refine of_then_ret ?_ | refine of_block_ret ?_
    have R:firstF G 0 l=G q x:=by have h9:=firstF_eq (f:=G) (j:=0) hx1.out (fun k y hk hy=>by rw [Nat.zero_add];exact hall k y hk hy) (by rw [Nat.zero_add];exact hne);rwa [Nat.zero_add] at h9
    exact ret_box 2 h25 hW24 rfl rfl rfl Tryz.underlying30 rfl infFault ⟨by show Ending.returned (.agg #[.int .i64 ((G q x).1),.int .i64 ((G q x).2)])=_;rw [R],hW24.bel⟩
   have h9:((G q x).1)=0:=bne_eq_false_iff_eq.1 hb;have hne:Hid (((G q x).1)=0):=h9;clear h9;clear hb;refine wp_skip ?_;refine hK11 _ _ ?_;refine rg h22 fun ops=>?_;clear h22 a22;refine sad (by omega) trivial rfl rfl rfl ?_;refine sm trivial rfl rfl ?_;refine St.nil fun a26 h26=>?_;refine hKL _ _ (l.length - (q+1)) (by omega) ⟨q+1,by omega,rfl,?_,(h26.keep (h26.keep (h26.keep (h26.keep (h26.keep (h26.keep h26.nil (t:=10) rfl) (t:=9) rfl) (t:=8) rfl) (t:=4) rfl) (t:=0) rfl) (t:=1) rfl),hW19.tail.tail⟩
   ·intro j y hj hy
    by_cases e:j=q
    · subst e;rw [hx1.out] at hy;cases hy;exact hne.out
    · exact hall j y (by omega) hy
  have hge:q=l.length:=by have:=of_decide_eq_false hb;omega
  clear hb;refine wp_exit ?_;refine hK4 _ _ ?_;refine wp_seq_k fun K27 hK27=>?_;refine rg h9 fun ops=>?_;clear h9 a9;intro a28 h28;refine fr_pure (t:=24) (v:=.agg #[.int .i64 0,.int .i64 0]) (w':=w7) h28 rfl rfl rfl (fun K hK=>?_) ?_
  ·go_simp
   exact hK
  clear h28;intro a29 hF29;refine St.go hF29 ?_;clear hF29 a29;refine sT 0 hW7 rfl rfl infFault rfl rfl rfl ?_;clear hW7;intro w30 hW30;refine St.nil fun a31 h31=>?_;refine hK27 _ _ ?_;refine wp_ret ?_;with_reducible repeat first | refine of_then_ret ?_ | refine of_block_ret ?_
  have R:firstF G 0 l=(0,0):=firstF_zero (fun k y hy=>by rw [Nat.zero_add];exact hall k y (by have:=(List.getElem?_eq_some_iff.1 hy).1;omega) hy);exact ret_box 0 h31 hW30 rfl rfl rfl Tryz.underlying30 rfl infFault ⟨by show Ending.returned (.agg #[.int .i64 0,.int .i64 0])=_;rw [R],hW30.bel⟩
theorem ffBlock_any {n : Nat} {l : List (MBlock n)} {p : Option Addr} {c Bc : Nat} {w : World} (G : Nat → (MBlock n) → Int × Int) (hl0 : (blockL n).list.In w All l [.slice p l.length c]) (hsb : l.length ≤ 100000)
    (hcl0:∀ (i:Nat) x (z:BP) wx,l[i]?=some x→BIn wx All x z→Below w.heap.size w wx→Rd Tryz.prog 75 #[.int .i64 (i:Int),.agg #[.int .i64 x.regs,.slice z.pP x.params.length z.cP,.slice z.pC x.code.length z.cC,.int .i64 x.fin.op,.int .i64 x.fin.a,.int .i64 x.fin.yes.block,.slice z.e.pYR x.fin.yes.regs.length z.e.cYR,.slice z.e.pYA x.fin.yes.args.length z.e.cYA,.int .i64 x.fin.no.block,.slice z.e.pNR x.fin.no.regs.length z.e.cNR,.slice z.e.pNA x.fin.no.args.length z.e.cNA,.slice z.e.pA x.fin.args.length z.e.cA],.pointer (some ⟨Bc,0,none⟩)] wx (faultV (G i x))) :
    Rd Tryz.prog 74 #[.slice p l.length c,.func (.func 75) #[] #[.pointer (some ⟨Bc,0,none⟩)]] w (faultV (firstF G 0 l)):=by
  have hl:Hid _:=hl0;have hcl:Hid _:=hcl0;clear hl0 hcl0;refine fr_enter (n:=25) Tryz.func74 rfl rfl rfl ?_;intro a hF;have hW:=Wd.start w;replace hF:Fr 25 a [(0,.slice p l.length c),(1,.func (.func 75) #[] #[.pointer (some ⟨Bc,0,none⟩)])]:=hF;refine wp_seq_k fun K1 hK1=>?_;refine rg hF fun ops=>?_;clear hF a;refine sAFault hW trivial rfl ?_;clear hW;intro w2 B2 hW2 hN;clear hN;refine St.nil fun a3 h3=>?_;refine hK1 _ _ ?_;refine wp_seq_k fun K4 hK4=>?_;refine wp_seq_k fun K5 hK5=>?_;refine rg h3 fun ops=>?_;clear h3 a3;refine sm trivial rfl rfl ?_;refine slBlocks trivial rfl rfl ?_;refine sm trivial rfl rfl ?_;refine St.nil fun a6 h6=>?_;refine hK5 _ _ ?_;refine wp_block ?_;refine fr_loop (fun r a w'=>∃ q:Nat,q≤l.length∧r=l.length - q∧(∀ (j:Nat) y,j<q→l[j]?=some y→(G j y).1=0)∧Fr 25 a [(1,.func (.func 75) #[] #[.pointer (some ⟨Bc,0,none⟩)]),(0,.slice p l.length c),(4,.pointer (some ⟨B2,0,none⟩)),(8,.slice p l.length c),(9,.int .i64 (l.length:Int)),(10,.int .i64 (q:Int))]∧Wd w w' [(B2,#[.int .i64 0,.int .i64 0],30)]) (l.length) ⟨0,Nat.zero_le _,rfl,(fun j y hj=>by omega),(h6.keep (h6.keep (h6.keep (h6.keep (h6.keep (h6.keep h6.nil (t:=10) rfl) (t:=9) rfl) (t:=8) rfl) (t:=4) rfl) (t:=0) rfl) (t:=1) rfl),hW2⟩ ?_;clear h6 hW2;rintro r a7 w7 ⟨q,hq,hr,hall,hF7,hW7⟩ KL hKL;refine wp_seq_k fun K8 hK8=>?_;refine rg hF7 fun ops=>?_;clear hF7 a7;refine slt trivial rfl rfl rfl ?_;refine St.nil fun a9 h9=>?_;refine hK8 _ _ ?_;refine wp_seq_k fun K10 hK10=>?_;refine fr_cond (t:=11) h9 rfl (fun hb=>?_) (fun hb=>?_)
  ·have hlt1:q<l.length:=by have:=of_decide_eq_true hb;omega
   clear hb;obtain ⟨x,hx1⟩:∃ v9,(l)[q]?=some v9:=⟨_,List.getElem?_eq_getElem hlt1⟩;obtain ⟨g1,o1,b1,hp1,E1,In1⟩:=block_at hl.out hx1;replace In1:Hid _:=In1;replace hp1:Hid _:=hp1;replace hx1:Hid _:=hx1;replace E1:Hid _:=E1;refine wp_skip ?_;refine hK10 _ _ ?_;refine wp_seq_k fun K11 hK11=>?_;refine wp_block ?_;refine wp_seq_k fun K12 hK12=>?_;refine rg h9 fun ops=>?_;clear h9 a9;refine sm trivial rfl rfl ?_;refine siBlocks hp1.out hlt1 trivial rfl rfl rfl ?_;refine sSE Tryz.underlying55 rfl (rangeAt_bel E1.out hW7.bel) infBlock trivial rfl rfl ?_;refine sABlock hW7 trivial rfl ?_;clear hW7;intro w13 B13 hW13 hN;clear hN;refine sa trivial rfl rfl ?_;refine sT 0 hW13 rfl rfl infBlock rfl rfl rfl ?_;clear hW13;intro w14 hW14;refine St.nil fun a15 h15=>?_;refine hK12 _ _ ?_;refine wp_seq_k fun K16 hK16=>?_;refine rg h15 fun ops=>?_;clear h15 a15;refine sm trivial rfl rfl ?_;refine sm trivial rfl rfl ?_;refine sS 0 12 Tryz.underlying55 rfl infBlock hW14 trivial rfl rfl rfl rfl ?_;refine sv_21 cf75 hW14 (hcl.out q x b1 w14 hx1.out (In1.out.below hW14.bel) hW14.bel) trivial rfl rfl rfl rfl ?_;clear hW14;intro w17 hW17;refine sAFault hW17 trivial rfl ?_;clear hW17;intro w18 B18 hW18 hN;clear hN;refine sT 0 hW18 rfl rfl infFault rfl rfl rfl ?_;clear hW18;intro w19 hW19;refine St.nil fun a20 h20=>?_;refine hK16 _ _ ?_;refine wp_seq_k fun K21 hK21=>?_;refine rg h20 fun ops=>?_;clear h20 a20;refine sfFault0 trivial rfl rfl ?_;refine sbInt 0 hW19 trivial rfl rfl rfl rfl ?_;refine sne trivial rfl rfl rfl ?_;refine St.nil fun a22 h22=>?_;refine hK21 _ _ ?_;refine fr_cond (t:=21) h22 rfl (fun hb=>?_) (fun hb=>?_)
   ·have h9:¬ ((G q x).1)=0:=bne_iff_ne.1 hb
    have hne:¬ ((G q x).1)=0:=h9;clear h9;clear hb;refine wp_seq_k fun K23 hK23=>?_;refine rg h22 fun ops=>?_;clear h22 a22;refine sS 0 2 Tryz.underlying30 rfl infFault hW19 trivial rfl rfl rfl rfl ?_;refine sT 2 hW19 rfl rfl infFault rfl rfl rfl ?_;clear hW19;intro w24 hW24;refine St.nil fun a25 h25=>?_;refine hK23 _ _ ?_;refine wp_ret ?_;with_reducible repeat first | refine of_then_ret ?_ | refine of_block_ret ?_
    have R:firstF G 0 l=G q x:=by have h9:=firstF_eq (f:=G) (j:=0) hx1.out (fun k y hk hy=>by rw [Nat.zero_add];exact hall k y hk hy) (by rw [Nat.zero_add];exact hne);rwa [Nat.zero_add] at h9
    exact ret_box 2 h25 hW24 rfl rfl rfl Tryz.underlying30 rfl infFault ⟨by show Ending.returned (.agg #[.int .i64 ((G q x).1),.int .i64 ((G q x).2)])=_;rw [R],hW24.bel⟩
   have h9:((G q x).1)=0:=bne_eq_false_iff_eq.1 hb;have hne:Hid (((G q x).1)=0):=h9;clear h9;clear hb;refine wp_skip ?_;refine hK11 _ _ ?_;refine rg h22 fun ops=>?_;clear h22 a22;refine sad (by omega) trivial rfl rfl rfl ?_;refine sm trivial rfl rfl ?_;refine St.nil fun a26 h26=>?_;refine hKL _ _ (l.length - (q+1)) (by omega) ⟨q+1,by omega,rfl,?_,(h26.keep (h26.keep (h26.keep (h26.keep (h26.keep (h26.keep h26.nil (t:=10) rfl) (t:=9) rfl) (t:=8) rfl) (t:=4) rfl) (t:=0) rfl) (t:=1) rfl),hW19.tail.tail⟩
   ·intro j y hj hy
    by_cases e:j=q
    · subst e;rw [hx1.out] at hy;cases hy;exact hne.out
    · exact hall j y (by omega) hy
  have hge:q=l.length:=by have:=of_decide_eq_false hb;omega
  clear hb;refine wp_exit ?_;refine hK4 _ _ ?_;refine wp_seq_k fun K27 hK27=>?_;refine rg h9 fun ops=>?_;clear h9 a9;intro a28 h28;refine fr_pure (t:=24) (v:=.agg #[.int .i64 0,.int .i64 0]) (w':=w7) h28 rfl rfl rfl (fun K hK=>?_) ?_
  ·go_simp
   exact hK
  clear h28;intro a29 hF29;refine St.go hF29 ?_;clear hF29 a29;refine sT 0 hW7 rfl rfl infFault rfl rfl rfl ?_;clear hW7;intro w30 hW30;refine St.nil fun a31 h31=>?_;refine hK27 _ _ ?_;refine wp_ret ?_;with_reducible repeat first | refine of_then_ret ?_ | refine of_block_ret ?_
  have R:firstF G 0 l=(0,0):=firstF_zero (fun k y hy=>by rw [Nat.zero_add];exact hall k y (by have:=(List.getElem?_eq_some_iff.1 hy).1;omega) hy);exact ret_box 0 h31 hW30 rfl rfl rfl Tryz.underlying30 rfl infFault ⟨by show Ending.returned (.agg #[.int .i64 0,.int .i64 0])=_;rw [R],hW30.bel⟩
theorem ffFunc_any {n : Nat} {l : List (MFunc n)} {p : Option Addr} {c Bc : Nat} {w : World} (G : Nat → (MFunc n) → Int × Int) (hl0 : (modL n).In w All l [.slice p l.length c]) (hsb : l.length ≤ 100000)
    (hcl0:∀ (i:Nat) x (z:FP) wx,l[i]?=some x→FIn wx All x z→Below w.heap.size w wx→Rd Tryz.prog 47 #[.int .i64 (i:Int),.agg #[.int .i64 x.regs,.slice z.pP x.params.length z.cP,.slice z.pR x.results.length z.cR,.slice z.pB x.blocks.length z.cB],.pointer (some ⟨Bc,0,none⟩)] wx (faultV (G i x))) :
    Rd Tryz.prog 46 #[.slice p l.length c,.func (.func 47) #[] #[.pointer (some ⟨Bc,0,none⟩)]] w (faultV (firstF G 0 l)):=by
  have hl:Hid _:=hl0;have hcl:Hid _:=hcl0;clear hl0 hcl0;refine fr_enter (n:=25) Tryz.func46 rfl rfl rfl ?_;intro a hF;have hW:=Wd.start w;replace hF:Fr 25 a [(0,.slice p l.length c),(1,.func (.func 47) #[] #[.pointer (some ⟨Bc,0,none⟩)])]:=hF;refine wp_seq_k fun K1 hK1=>?_;refine rg hF fun ops=>?_;clear hF a;refine sAFault hW trivial rfl ?_;clear hW;intro w2 B2 hW2 hN;clear hN;refine St.nil fun a3 h3=>?_;refine hK1 _ _ ?_;refine wp_seq_k fun K4 hK4=>?_;refine wp_seq_k fun K5 hK5=>?_;refine rg h3 fun ops=>?_;clear h3 a3;refine sm trivial rfl rfl ?_;refine slFuncs trivial rfl rfl ?_;refine sm trivial rfl rfl ?_;refine St.nil fun a6 h6=>?_;refine hK5 _ _ ?_;refine wp_block ?_;refine fr_loop (fun r a w'=>∃ q:Nat,q≤l.length∧r=l.length - q∧(∀ (j:Nat) y,j<q→l[j]?=some y→(G j y).1=0)∧Fr 25 a [(1,.func (.func 47) #[] #[.pointer (some ⟨Bc,0,none⟩)]),(0,.slice p l.length c),(4,.pointer (some ⟨B2,0,none⟩)),(8,.slice p l.length c),(9,.int .i64 (l.length:Int)),(10,.int .i64 (q:Int))]∧Wd w w' [(B2,#[.int .i64 0,.int .i64 0],30)]) (l.length) ⟨0,Nat.zero_le _,rfl,(fun j y hj=>by omega),(h6.keep (h6.keep (h6.keep (h6.keep (h6.keep (h6.keep h6.nil (t:=10) rfl) (t:=9) rfl) (t:=8) rfl) (t:=4) rfl) (t:=0) rfl) (t:=1) rfl),hW2⟩ ?_;clear h6 hW2;rintro r a7 w7 ⟨q,hq,hr,hall,hF7,hW7⟩ KL hKL;refine wp_seq_k fun K8 hK8=>?_;refine rg hF7 fun ops=>?_;clear hF7 a7;refine slt trivial rfl rfl rfl ?_;refine St.nil fun a9 h9=>?_;refine hK8 _ _ ?_;refine wp_seq_k fun K10 hK10=>?_;refine fr_cond (t:=11) h9 rfl (fun hb=>?_) (fun hb=>?_)
  ·have hlt1:q<l.length:=by have:=of_decide_eq_true hb;omega
   clear hb;obtain ⟨x,hx1⟩:∃ v9,(l)[q]?=some v9:=⟨_,List.getElem?_eq_getElem hlt1⟩;obtain ⟨g1,o1,f1,hp1,E1,In1⟩:=func_at hl.out hx1;replace In1:Hid _:=In1;replace hp1:Hid _:=hp1;replace hx1:Hid _:=hx1;replace E1:Hid _:=E1;refine wp_skip ?_;refine hK10 _ _ ?_;refine wp_seq_k fun K11 hK11=>?_;refine wp_block ?_;refine wp_seq_k fun K12 hK12=>?_;refine rg h9 fun ops=>?_;clear h9 a9;refine sm trivial rfl rfl ?_;refine siFuncs hp1.out hlt1 trivial rfl rfl rfl ?_;refine sSE Tryz.underlying46 rfl (rangeAt_bel E1.out hW7.bel) infFunc trivial rfl rfl ?_;refine sAFunc hW7 trivial rfl ?_;clear hW7;intro w13 B13 hW13 hN;clear hN;refine sa trivial rfl rfl ?_;refine sT 0 hW13 rfl rfl infFunc rfl rfl rfl ?_;clear hW13;intro w14 hW14;refine St.nil fun a15 h15=>?_;refine hK12 _ _ ?_;refine wp_seq_k fun K16 hK16=>?_;refine rg h15 fun ops=>?_;clear h15 a15;refine sm trivial rfl rfl ?_;refine sm trivial rfl rfl ?_;refine sS 0 4 Tryz.underlying46 rfl infFunc hW14 trivial rfl rfl rfl rfl ?_;refine sv_21 cf47 hW14 (hcl.out q x f1 w14 hx1.out (In1.out.below hW14.bel) hW14.bel) trivial rfl rfl rfl rfl ?_;clear hW14;intro w17 hW17;refine sAFault hW17 trivial rfl ?_;clear hW17;intro w18 B18 hW18 hN;clear hN;refine sT 0 hW18 rfl rfl infFault rfl rfl rfl ?_;clear hW18;intro w19 hW19;refine St.nil fun a20 h20=>?_;refine hK16 _ _ ?_;refine wp_seq_k fun K21 hK21=>?_;refine rg h20 fun ops=>?_;clear h20 a20;refine sfFault0 trivial rfl rfl ?_;refine sbInt 0 hW19 trivial rfl rfl rfl rfl ?_;refine sne trivial rfl rfl rfl ?_;refine St.nil fun a22 h22=>?_;refine hK21 _ _ ?_;refine fr_cond (t:=21) h22 rfl (fun hb=>?_) (fun hb=>?_)
   ·have h9:¬ ((G q x).1)=0:=bne_iff_ne.1 hb
    have hne:¬ ((G q x).1)=0:=h9;clear h9;clear hb;refine wp_seq_k fun K23 hK23=>?_;refine rg h22 fun ops=>?_;clear h22 a22;refine sS 0 2 Tryz.underlying30 rfl infFault hW19 trivial rfl rfl rfl rfl ?_;refine sT 2 hW19 rfl rfl infFault rfl rfl rfl ?_;clear hW19;intro w24 hW24;refine St.nil fun a25 h25=>?_;refine hK23 _ _ ?_;refine wp_ret ?_;with_reducible repeat first | refine of_then_ret ?_ | refine of_block_ret ?_
    have R:firstF G 0 l=G q x:=by have h9:=firstF_eq (f:=G) (j:=0) hx1.out (fun k y hk hy=>by rw [Nat.zero_add];exact hall k y hk hy) (by rw [Nat.zero_add];exact hne);rwa [Nat.zero_add] at h9
    exact ret_box 2 h25 hW24 rfl rfl rfl Tryz.underlying30 rfl infFault ⟨by show Ending.returned (.agg #[.int .i64 ((G q x).1),.int .i64 ((G q x).2)])=_;rw [R],hW24.bel⟩
   have h9:((G q x).1)=0:=bne_eq_false_iff_eq.1 hb;have hne:Hid (((G q x).1)=0):=h9;clear h9;clear hb;refine wp_skip ?_;refine hK11 _ _ ?_;refine rg h22 fun ops=>?_;clear h22 a22;refine sad (by omega) trivial rfl rfl rfl ?_;refine sm trivial rfl rfl ?_;refine St.nil fun a26 h26=>?_;refine hKL _ _ (l.length - (q+1)) (by omega) ⟨q+1,by omega,rfl,?_,(h26.keep (h26.keep (h26.keep (h26.keep (h26.keep (h26.keep h26.nil (t:=10) rfl) (t:=9) rfl) (t:=8) rfl) (t:=4) rfl) (t:=0) rfl) (t:=1) rfl),hW19.tail.tail⟩
   ·intro j y hj hy
    by_cases e:j=q
    · subst e;rw [hx1.out] at hy;cases hy;exact hne.out
    · exact hall j y (by omega) hy
  have hge:q=l.length:=by have:=of_decide_eq_false hb;omega
  clear hb;refine wp_exit ?_;refine hK4 _ _ ?_;refine wp_seq_k fun K27 hK27=>?_;refine rg h9 fun ops=>?_;clear h9 a9;intro a28 h28;refine fr_pure (t:=24) (v:=.agg #[.int .i64 0,.int .i64 0]) (w':=w7) h28 rfl rfl rfl (fun K hK=>?_) ?_
  ·go_simp
   exact hK
  clear h28;intro a29 hF29;refine St.go hF29 ?_;clear hF29 a29;refine sT 0 hW7 rfl rfl infFault rfl rfl rfl ?_;clear hW7;intro w30 hW30;refine St.nil fun a31 h31=>?_;refine hK27 _ _ ?_;refine wp_ret ?_;with_reducible repeat first | refine of_then_ret ?_ | refine of_block_ret ?_
  have R:firstF G 0 l=(0,0):=firstF_zero (fun k y hy=>by rw [Nat.zero_add];exact hall k y (by have:=(List.getElem?_eq_some_iff.1 hy).1;omega) hy);exact ret_box 0 h31 hW30 rfl rfl rfl Tryz.underlying30 rfl infFault ⟨by show Ending.returned (.agg #[.int .i64 0,.int .i64 0])=_;rw [R],hW30.bel⟩
theorem clo97_any {n : Nat} {m : List (MFunc n)} {p : Option Addr} {c : Nat} {x : MFunc n} {fp : FP} {fi : Nat} {y : MBlock n} {bp : BP} {bi : Nat} {Bc : Nat} {w : World} {z : MIns} {zi : IP} {q : Nat} (hq : q < 1000000) (hm : m.length ≤ 100000) (hfi : fi < 1000000) (hbi : bi < 1000000) (hcap0 : Blk w Bc #[.slice p m.length c, .int .i64 x.regs, .slice fp.pP x.params.length fp.cP, .slice fp.pR x.results.length fp.cR, .slice fp.pB x.blocks.length fp.cB, .int .i64 (fi : Int), .int .i64 y.regs, .slice bp.pP y.params.length bp.cP, .slice bp.pC y.code.length bp.cC, .int .i64 y.fin.op, .int .i64 y.fin.a, .int .i64 y.fin.yes.block, .slice bp.e.pYR y.fin.yes.regs.length bp.e.cYR, .slice bp.e.pYA y.fin.yes.args.length bp.e.cYA, .int .i64 y.fin.no.block, .slice bp.e.pNR y.fin.no.regs.length bp.e.cNR, .slice bp.e.pNA y.fin.no.args.length bp.e.cNA, .slice bp.e.pA y.fin.args.length bp.e.cA, .int .i64 (bi : Int)] 122) :
    Rd Tryz.prog 97 #[.int .i64 (q:Int),.agg #[.int .i64 z.op,.int .i64 z.a,.int .i64 z.b,.int .i64 z.c,.int .i64 z.k,.int .i64 z.n,.slice zi.pR z.regs.length zi.cR,.slice zi.pA z.args.length zi.cA],.pointer (some ⟨Bc,0,none⟩)] w (faultV (atF (z.form m.length) (10000*(fi:Int)+100*(bi:Int)+(q:Int)))):=by
  have hcap:Hid _:=hcap0;clear hcap0;refine fr_enter (n:=19) Tryz.func97 rfl rfl rfl ?_;intro a hF;have hW:=Wd.start w;replace hF:Fr 19 a [(0,.int .i64 (q:Int)),(1,.agg #[.int .i64 z.op,.int .i64 z.a,.int .i64 z.b,.int .i64 z.c,.int .i64 z.k,.int .i64 z.n,.slice zi.pR z.regs.length zi.cR,.slice zi.pA z.args.length zi.cA]),(2,.pointer (some ⟨Bc,0,none⟩))]:=hF;refine wp_seq_k fun K1 hK1=>?_;refine rg hF fun ops=>?_;clear hF a;refine sB hW trivial rfl rfl ?_;clear hW;intro w2 B2 hW2 hN;clear hN;refine sAFault hW2 trivial rfl ?_;clear hW2;intro w3 B3 hW3 hN;clear hN;refine St.nil fun a4 h4=>?_;refine hK1 _ _ ?_;refine wp_seq_k fun K5 hK5=>?_;have hF6:Fr 19 a4 [(2,.pointer (some ⟨Bc,0,none⟩)),(1,.agg #[.int .i64 z.op,.int .i64 z.a,.int .i64 z.b,.int .i64 z.c,.int .i64 z.k,.int .i64 z.n,.slice zi.pR z.regs.length zi.cR,.slice zi.pA z.args.length zi.cA]),(0,.int .i64 (q:Int)),(4,.pointer (some ⟨B2,0,none⟩)),(5,.pointer (some ⟨B3,0,none⟩))]:=(h4.keep (h4.keep (h4.keep (h4.keep (h4.keep h4.nil (t:=5) rfl) (t:=4) rfl) (t:=0) rfl) (t:=1) rfl) (t:=2) rfl);have ho2:a4.tmps.getD 2 undef=.pointer (some ⟨Bc,0,none⟩):=h4.sl 2 _ rfl;have ho4:a4.tmps.getD 4 undef=.pointer (some ⟨B2,0,none⟩):=h4.sl 4 _ rfl;have ho0:a4.tmps.getD 0 undef=.int .i64 (q:Int):=h4.sl 0 _ rfl;refine fr_draw_k 13 ([(2,fun v _=>v=.pointer (some ⟨Bc,0,none⟩)),(4,fun v _=>v=.pointer (some ⟨B2,0,none⟩)),(0,fun v _=>v=.int .i64 (q:Int)),(6,fun v _=>v=.pointer (some ⟨Bc,0,none⟩)),(7,fun v _=>v=.pointer (some ⟨Bc,0,none⟩)),(8,fun v _=>v=.agg #[.slice p m.length c]),(9,fun v _=>v=.agg #[.int .i64 z.op,.int .i64 z.a,.int .i64 z.b,.int .i64 z.c,.int .i64 z.k,.int .i64 z.n,.slice zi.pR z.regs.length zi.cR,.slice zi.pA z.args.length zi.cA]),(10,fun v _=>v=.int .i64 (z.form m.length)),(11,fun v _=>v=.pointer (some ⟨Bc,0,none⟩)),(12,fun v _=>v=.pointer (some ⟨Bc,5,none⟩)),(13,fun v _=>v=.int .i64 (fi:Int)),(14,fun v _=>v=.pointer (some ⟨Bc,18,none⟩)),(15,fun v _=>v=.int .i64 (bi:Int)),(16,fun v _=>v=.int .i64 (q:Int)),(17,fun v _=>v=.int .i64 (10000*(fi:Int)+100*(bi:Int)+(q:Int))),(18,fun v _=>v=.agg #[.int .i64 ((atF (z.form m.length) (10000*(fi:Int)+100*(bi:Int)+(q:Int))).1),.int .i64 ((atF (z.form m.length) (10000*(fi:Int)+100*(bi:Int)+(q:Int))).2)])]:PTab) (fun w'=>Wd w w' [(B3,#[.int .i64 0,.int .i64 0],30),(B2,#[.int .i64 z.op,.int .i64 z.a,.int .i64 z.b,.int .i64 z.c,.int .i64 z.k,.int .i64 z.n,.slice zi.pR z.regs.length zi.cR,.slice zi.pA z.args.length zi.cA],57)]∧Below w3.heap.size w3 w') (fun w w'=>Below w.heap.size w w') (outs:=[2,4,0]) (gs:=[]) (bs:=[true,true,true,true,true,true,true,true,true,true,true,true,true]) (by kernel_rfl) hF6 rfl (by kernel_rfl) (by kernel_rfl) ?hR ?hG ⟨hW3.drewN 1,drewN_below (m:=1) (Below.refl _ _)⟩ ⟨ho2,ho4,ho0,trivial⟩ ?hA ?hend
  case hR=>exact ⟨fun _ _ _ _ h=>h,fun _ _ _ _ h=>h,fun _ _ _ _ h=>h,fun _ _ _ _ h=>h,fun _ _ _ _ h=>h,fun _ _ _ _ h=>h,fun _ _ _ _ h=>h,fun _ _ _ _ h=>h,fun _ _ _ _ h=>h,fun _ _ _ _ h=>h,fun _ _ _ _ h=>h,fun _ _ _ _ h=>h,fun _ _ _ _ h=>h,fun _ _ _ _ h=>h,fun _ _ _ _ h=>h,fun _ _ _ _ h=>h,trivial⟩
  case hG=>exact trivial
  case hA =>
   refine ⟨fun a w hW hk K hK=>?_,?_⟩
   · obtain ⟨k0,-⟩:=hk;have k0:a.tmps.getD 2 undef=.pointer (some ⟨Bc,0,none⟩):=k0;go_simp;exact hK _ _ (Below.refl _ _) hW rfl
   refine ⟨fun a w hW hk K hK=>?_,?_⟩
   · obtain ⟨k0,-⟩:=hk;have k0:a.tmps.getD 6 undef=.pointer (some ⟨Bc,0,none⟩):=k0;go_simp;exact hK _ _ (Below.refl _ _) hW rfl
   refine ⟨fun a w hW hk K hK=>?_,?_⟩
   · obtain ⟨k0,-⟩:=hk;have k0:a.tmps.getD 7 undef=.pointer (some ⟨Bc,0,none⟩):=k0;have d0:w.cell? ⟨Bc,0,none⟩=some (.slice p m.length c):=bel_cell hW.1.bel (cellOf hcap.out 0 _ rfl);go_simp;exact hK _ _ (Below.refl _ _) hW rfl
   refine ⟨fun a w hW hk K hK=>?_,?_⟩
   · obtain ⟨k0,-⟩:=hk;have k0:a.tmps.getD 4 undef=.pointer (some ⟨B2,0,none⟩):=k0;have c0:w.cell? ⟨B2,0,none⟩=some (.int .i64 z.op):=cellOf (hW.1.get 1 rfl) 0 _ rfl;have c1:w.cell? ⟨B2,1,none⟩=some (.int .i64 z.a):=cellOf (hW.1.get 1 rfl) 1 _ rfl;have c2:w.cell? ⟨B2,2,none⟩=some (.int .i64 z.b):=cellOf (hW.1.get 1 rfl) 2 _ rfl;have c3:w.cell? ⟨B2,3,none⟩=some (.int .i64 z.c):=cellOf (hW.1.get 1 rfl) 3 _ rfl;have c4:w.cell? ⟨B2,4,none⟩=some (.int .i64 z.k):=cellOf (hW.1.get 1 rfl) 4 _ rfl;have c5:w.cell? ⟨B2,5,none⟩=some (.int .i64 z.n):=cellOf (hW.1.get 1 rfl) 5 _ rfl;have c6:w.cell? ⟨B2,6,none⟩=some (.slice zi.pR z.regs.length zi.cR):=cellOf (hW.1.get 1 rfl) 6 _ rfl;have c7:w.cell? ⟨B2,7,none⟩=some (.slice zi.pA z.args.length zi.cA):=cellOf (hW.1.get 1 rfl) 7 _ rfl;go_simp;exact hK _ _ (Below.refl _ _) hW rfl
   refine ⟨fun a w hW hk K hK=>?_,?_⟩
   · obtain ⟨k0,k1,-⟩:=hk;have k0:a.tmps.getD 8 undef=.agg #[.slice p m.length c]:=k0;have k1:a.tmps.getD 9 undef=.agg #[.int .i64 z.op,.int .i64 z.a,.int .i64 z.b,.int .i64 z.c,.int .i64 z.k,.int .i64 z.n,.slice zi.pR z.regs.length zi.cR,.slice zi.pA z.args.length zi.cA]:=k1;have hC:Rd Tryz.prog 98 #[.agg #[.slice p m.length c],.agg #[.int .i64 z.op,.int .i64 z.a,.int .i64 z.b,.int .i64 z.c,.int .i64 z.k,.int .i64 z.n,.slice zi.pR z.regs.length zi.cR,.slice zi.pA z.args.length zi.cA]] w (.int .i64 (z.form m.length)):=cIns_any m.length z zi p c w (by omega);go_simp;refine hC.mono ?_;rintro e w9 ⟨rfl,hb⟩;exact hK _ _ hb ⟨hW.1.below hb,Below.andThen hW.2 hb⟩ rfl
   refine ⟨fun a w hW hk K hK=>?_,?_⟩
   · obtain ⟨k0,-⟩:=hk;have k0:a.tmps.getD 2 undef=.pointer (some ⟨Bc,0,none⟩):=k0;go_simp;exact hK _ _ (Below.refl _ _) hW rfl
   refine ⟨fun a w hW hk K hK=>?_,?_⟩
   · obtain ⟨k0,-⟩:=hk;have k0:a.tmps.getD 11 undef=.pointer (some ⟨Bc,0,none⟩):=k0;go_simp;exact hK _ _ (Below.refl _ _) hW rfl
   refine ⟨fun a w hW hk K hK=>?_,?_⟩
   · obtain ⟨k0,-⟩:=hk;have k0:a.tmps.getD 12 undef=.pointer (some ⟨Bc,5,none⟩):=k0;have d5:w.cell? ⟨Bc,5,none⟩=some (.int .i64 (fi:Int)):=bel_cell hW.1.bel (cellOf hcap.out 5 _ rfl);go_simp;exact hK _ _ (Below.refl _ _) hW rfl
   refine ⟨fun a w hW hk K hK=>?_,?_⟩
   · obtain ⟨k0,-⟩:=hk;have k0:a.tmps.getD 2 undef=.pointer (some ⟨Bc,0,none⟩):=k0;go_simp;exact hK _ _ (Below.refl _ _) hW rfl
   refine ⟨fun a w hW hk K hK=>?_,?_⟩
   · obtain ⟨k0,-⟩:=hk;have k0:a.tmps.getD 14 undef=.pointer (some ⟨Bc,18,none⟩):=k0;have d18:w.cell? ⟨Bc,18,none⟩=some (.int .i64 (bi:Int)):=bel_cell hW.1.bel (cellOf hcap.out 18 _ rfl);go_simp;exact hK _ _ (Below.refl _ _) hW rfl
   refine ⟨fun a w hW hk K hK=>?_,?_⟩
   · obtain ⟨k0,-⟩:=hk;have k0:a.tmps.getD 0 undef=.int .i64 (q:Int):=k0;go_simp;exact hK _ _ (Below.refl _ _) hW rfl
   refine ⟨fun a w hW hk K hK=>?_,?_⟩
   · obtain ⟨k0,k1,k2,-⟩:=hk;have k0:a.tmps.getD 13 undef=.int .i64 (fi:Int):=k0;have k1:a.tmps.getD 15 undef=.int .i64 (bi:Int):=k1;have k2:a.tmps.getD 16 undef=.int .i64 (q:Int):=k2;have hC:Rd Tryz.prog 99 #[.int .i64 (fi:Int),.int .i64 (bi:Int),.int .i64 (q:Int)] w (.int .i64 (10000*(fi:Int)+100*(bi:Int)+(q:Int))):=cInsAt_any (f:=fi) (b:=bi) (i:=q) ⟨by omega,by omega,by omega⟩;go_simp;refine hC.mono ?_;rintro e w9 ⟨rfl,hb⟩;exact hK _ _ hb ⟨hW.1.below hb,Below.andThen hW.2 hb⟩ rfl
   refine ⟨fun a w hW hk K hK=>?_,?_⟩
   · obtain ⟨k0,k1,-⟩:=hk;have k0:a.tmps.getD 10 undef=.int .i64 (z.form m.length):=k0;have k1:a.tmps.getD 17 undef=.int .i64 (10000*(fi:Int)+100*(bi:Int)+(q:Int)):=k1;have hC:Rd Tryz.prog 72 #[.int .i64 (z.form m.length),.int .i64 (10000*(fi:Int)+100*(bi:Int)+(q:Int))] w (.agg #[.int .i64 ((atF (z.form m.length) (10000*(fi:Int)+100*(bi:Int)+(q:Int))).1),.int .i64 ((atF (z.form m.length) (10000*(fi:Int)+100*(bi:Int)+(q:Int))).2)]):=faultAt_any (xc:=z.form m.length) (xp:=10000*(fi:Int)+100*(bi:Int)+(q:Int));go_simp;refine hC.mono ?_;rintro e w9 ⟨rfl,hb⟩;exact hK _ _ hb ⟨hW.1.below hb,Below.andThen hW.2 hb⟩ rfl
   trivial
  case hend =>
   intro ops a7 w7 hWD hE hFD;have hd18:a7.tmps.getD 18 undef=.agg #[.int .i64 ((atF (z.form m.length) (10000*(fi:Int)+100*(bi:Int)+(q:Int))).1),.int .i64 ((atF (z.form m.length) (10000*(fi:Int)+100*(bi:Int)+(q:Int))).2)]:=hE 18 rfl;have hF7:Fr 19 a7 [(18,.agg #[.int .i64 ((atF (z.form m.length) (10000*(fi:Int)+100*(bi:Int)+(q:Int))).1),.int .i64 ((atF (z.form m.length) (10000*(fi:Int)+100*(bi:Int)+(q:Int))).2)]),(2,.pointer (some ⟨Bc,0,none⟩)),(1,.agg #[.int .i64 z.op,.int .i64 z.a,.int .i64 z.b,.int .i64 z.c,.int .i64 z.k,.int .i64 z.n,.slice zi.pR z.regs.length zi.cR,.slice zi.pA z.args.length zi.cA]),(0,.int .i64 (q:Int)),(4,.pointer (some ⟨B2,0,none⟩)),(5,.pointer (some ⟨B3,0,none⟩))]:=(hFD.cons hd18);clear hd18;have hW7:Wd w w7 [(B3,#[.int .i64 0,.int .i64 0],30),(B2,#[.int .i64 z.op,.int .i64 z.a,.int .i64 z.b,.int .i64 z.c,.int .i64 z.k,.int .i64 z.n,.slice zi.pR z.regs.length zi.cR,.slice zi.pA z.args.length zi.cA],57)]:=hWD.1;clear hFD hWD hE hF6 h4;clear hW3;refine St.go hF7 ?_;clear hF7 a7;refine sT 0 hW7 rfl rfl infFault rfl rfl rfl ?_;clear hW7;intro w8 hW8;refine St.nil fun a9 h9=>?_;refine hK5 _ _ ?_;refine wp_ret ?_;with_reducible repeat first | refine of_then_ret ?_ | refine of_block_ret ?_
   exact ret_box 0 h9 hW8 rfl rfl rfl Tryz.underlying30 rfl infFault ⟨rfl,hW8.bel⟩
theorem cBlockFault_any {n : Nat} {m : List (MFunc n)} {p : Option Addr} {c : Nat} {x : MFunc n} {fp : FP} {fi : Nat} {y : MBlock n} {bp : BP} {bi : Nat} {w : World} (hx0 : FIn w All x fp) (hs0 : x.small) (hy0 : BIn w All y bp) (ht0 : y.small) (hm : m.length ≤ 100000) (hfi : fi < 1000000) (hbi : bi < 1000000) :
    Rd Tryz.prog 76 #[.agg #[.slice p m.length c,.int .i64 x.regs,.slice fp.pP x.params.length fp.cP,.slice fp.pR x.results.length fp.cR,.slice fp.pB x.blocks.length fp.cB,.int .i64 (fi:Int),.int .i64 y.regs,.slice bp.pP y.params.length bp.cP,.slice bp.pC y.code.length bp.cC,.int .i64 y.fin.op,.int .i64 y.fin.a,.int .i64 y.fin.yes.block,.slice bp.e.pYR y.fin.yes.regs.length bp.e.cYR,.slice bp.e.pYA y.fin.yes.args.length bp.e.cYA,.int .i64 y.fin.no.block,.slice bp.e.pNR y.fin.no.regs.length bp.e.cNR,.slice bp.e.pNA y.fin.no.args.length bp.e.cNA,.slice bp.e.pA y.fin.args.length bp.e.cA,.int .i64 (bi:Int)]] w (faultV (MBlock.fault m.length fi x bi y)):=by
  have hx:Hid _:=hx0;have hs:Hid _:=hs0;have hy:Hid _:=hy0;have ht:Hid _:=ht0;clear hx0 hs0 hy0 ht0;refine fr_enter (n:=40) Tryz.func76 rfl rfl rfl ?_;intro a hF;have hW:=Wd.start w;replace hF:Fr 40 a [(0,.agg #[.slice p m.length c,.int .i64 x.regs,.slice fp.pP x.params.length fp.cP,.slice fp.pR x.results.length fp.cR,.slice fp.pB x.blocks.length fp.cB,.int .i64 (fi:Int),.int .i64 y.regs,.slice bp.pP y.params.length bp.cP,.slice bp.pC y.code.length bp.cC,.int .i64 y.fin.op,.int .i64 y.fin.a,.int .i64 y.fin.yes.block,.slice bp.e.pYR y.fin.yes.regs.length bp.e.cYR,.slice bp.e.pYA y.fin.yes.args.length bp.e.cYA,.int .i64 y.fin.no.block,.slice bp.e.pNR y.fin.no.regs.length bp.e.cNR,.slice bp.e.pNA y.fin.no.args.length bp.e.cNA,.slice bp.e.pA y.fin.args.length bp.e.cA,.int .i64 (bi:Int)])]:=hF;refine wp_seq_k fun K1 hK1=>?_;refine rg hF fun ops=>?_;clear hF a;refine sB hW trivial rfl rfl ?_;clear hW;intro w2 B2 hW2 hN;clear hN;refine sAFault hW2 trivial rfl ?_;clear hW2;intro w3 B3 hW3 hN;clear hN;refine St.nil fun a4 h4=>?_;refine hK1 _ _ ?_;refine wp_seq_k fun K5 hK5=>?_;refine wp_seq_k fun K6 hK6=>?_;refine rg h4 fun ops=>?_;clear h4 a4;refine sS 1 19 Tryz.underlying122 rfl infblockLook hW3 trivial rfl rfl rfl rfl ?_;refine sc_1 cf94 hW3 (blockCode_any (m:=m) (p:=p) (c:=c) (fi:=fi) (bi:=bi) (hx.out.below hW3.bel) hs.out (hy.out.below hW3.bel) ht.out) trivial rfl rfl ?_;clear hW3;intro w7 hW7;refine sa trivial rfl rfl ?_;refine St.nil fun a8 h8=>?_;refine hK6 _ _ ?_;refine wp_seq_k fun K9 hK9=>?_;refine rg h8 fun ops=>?_;clear h8 a8;refine sm trivial rfl rfl ?_;refine sne trivial rfl rfl rfl ?_;refine St.nil fun a10 h10=>?_;refine hK9 _ _ ?_;refine fr_cond (t:=8) h10 rfl (fun hb=>?_) (fun hb=>?_)
  ·have h9:¬ (y.code' x bi)=0:=bne_iff_ne.1 hb
   have hc11:¬ (y.code' x bi)=0:=h9;clear h9;clear hb;refine wp_seq_k fun K12 hK12=>?_;refine rg h10 fun ops=>?_;clear h10 a10;refine sm trivial rfl rfl ?_;refine sfblockLook0 trivial rfl rfl ?_;refine sffuncLook2 trivial rfl rfl ?_;refine sbInt 1 hW7 trivial rfl rfl rfl rfl ?_;refine sfblockLook2 trivial rfl rfl ?_;refine sbInt 1 hW7 trivial rfl rfl rfl rfl ?_;refine sc_2 cf95 hW7 (cBlockAt_any (f:=fi) (b:=bi) ⟨by omega,by omega⟩) trivial rfl rfl rfl ?_;clear hW7;intro w13 hW13;refine sc_2 cf72 hW13 (faultAt_any (xc:=y.code' x bi) (xp:=10000*(fi:Int)+100*(bi:Int)+90)) trivial rfl rfl rfl ?_;clear hW13;intro w14 hW14;refine sT 0 hW14 rfl rfl infFault rfl rfl rfl ?_;clear hW14;intro w15 hW15;refine St.nil fun a16 h16=>?_;refine hK12 _ _ ?_;refine wp_ret ?_;with_reducible repeat first | refine of_then_ret ?_ | refine of_block_ret ?_
   have e0:=hc11;have EF:=MBlock.fault_eq m.length fi x bi y;have EI:=firstF_at (f:=fun i z=>(MIns.form m.length z,(10000*(fi:Int)+100*(bi:Int)+(i:Int)))) (l:=y.code) (j:=0);dsimp only at EI
   rw [if_neg e0] at EF;exact ret_box 0 h16 hW15 rfl rfl rfl Tryz.underlying30 rfl infFault ⟨by show Ending.returned (.agg #[.int .i64 ((atF (y.code' x bi) (10000*(fi:Int)+100*(bi:Int)+90)).1),.int .i64 ((atF (y.code' x bi) (10000*(fi:Int)+100*(bi:Int)+90)).2)])=_;rw [EF] ;simp [atF,e0],hW15.bel⟩
  have h9:(y.code' x bi)=0:=bne_eq_false_iff_eq.1 hb;have hc17:Hid ((y.code' x bi)=0):=h9;clear h9;clear hb;refine wp_skip ?_;refine hK5 _ _ ?_;refine wp_seq_k fun K18 hK18=>?_;refine rg h10 fun ops=>?_;clear h10 a10;refine sfblockLook1 trivial rfl rfl ?_;refine sfBlock2 trivial rfl rfl ?_;refine sbInss 1 hW7 trivial rfl rfl rfl rfl ?_;intro a19 h19;refine fr_pure (t:=20) (v:=.func (.func 97) #[] #[.pointer (some ⟨B2,0,none⟩)]) (w':=w7) h19 rfl rfl rfl (fun K hK=>?_) ?_
  ·have k0:a19.tmps.getD 1 undef=.pointer (some ⟨B2,0,none⟩):=h19.sl 1 _ rfl
   go_simp;exact hK
  clear h19;intro a20 hF20;refine St.go hF20 ?_;clear hF20 a20;refine sc_2 cf96 hW7 (ffIns_any (Bc:=B2) (fun i z=>atF (MIns.form m.length z) (10000*(fi:Int)+100*(bi:Int)+(i:Int))) (Lay.below hy.out.code hW7.bel) ht.out.1 (fun i z zi wx hz hi hb=>clo97_any (y:=y) (by have h9:=(List.getElem?_eq_some_iff.1 hz).1;have:=ht.out.1;omega) hm hfi hbi ((hW7.get 1 rfl).below hb))) trivial rfl rfl rfl ?_;clear hW7;intro w21 hW21;refine sAFault hW21 trivial rfl ?_;clear hW21;intro w22 B22 hW22 hN;clear hN;refine sT 0 hW22 rfl rfl infFault rfl rfl rfl ?_;clear hW22;intro w23 hW23;refine St.nil fun a24 h24=>?_;refine hK18 _ _ ?_;refine wp_seq_k fun K25 hK25=>?_;refine wp_seq_k fun K26 hK26=>?_;refine rg h24 fun ops=>?_;clear h24 a24;refine sfFault0 trivial rfl rfl ?_;refine sbInt 0 hW23 trivial rfl rfl rfl rfl ?_;refine sne trivial rfl rfl rfl ?_;refine St.nil fun a27 h27=>?_;refine hK26 _ _ ?_;refine fr_cond (t:=24) h27 rfl (fun hb=>?_) (fun hb=>?_)
  ·have h9:¬ ((firstF (fun i z=>atF (MIns.form m.length z) (10000*(fi:Int)+100*(bi:Int)+(i:Int))) 0 y.code).1)=0:=bne_iff_ne.1 hb
   have hc28:¬ ((firstF (fun i z=>atF (MIns.form m.length z) (10000*(fi:Int)+100*(bi:Int)+(i:Int))) 0 y.code).1)=0:=h9;clear h9;clear hb;refine wp_seq_k fun K29 hK29=>?_;refine rg h27 fun ops=>?_;clear h27 a27;refine sS 0 2 Tryz.underlying30 rfl infFault hW23 trivial rfl rfl rfl rfl ?_;refine sT 1 hW23 rfl rfl infFault rfl rfl rfl ?_;clear hW23;intro w30 hW30;refine St.nil fun a31 h31=>?_;refine hK29 _ _ ?_;refine wp_ret ?_;with_reducible repeat first | refine of_then_ret ?_ | refine of_block_ret ?_
   have e0:=hc17.out;have e1:=hc28;have EF:=MBlock.fault_eq m.length fi x bi y;have EI:=firstF_at (f:=fun i z=>(MIns.form m.length z,(10000*(fi:Int)+100*(bi:Int)+(i:Int)))) (l:=y.code) (j:=0);dsimp only at EI
   rw [if_pos e0,if_neg (by rw [← EI];exact e1),← EI] at EF;exact ret_box 1 h31 hW30 rfl rfl rfl Tryz.underlying30 rfl infFault ⟨by show Ending.returned (.agg #[.int .i64 ((firstF (fun i z=>atF (MIns.form m.length z) (10000*(fi:Int)+100*(bi:Int)+(i:Int))) 0 y.code).1),.int .i64 ((firstF (fun i z=>atF (MIns.form m.length z) (10000*(fi:Int)+100*(bi:Int)+(i:Int))) 0 y.code).2)])=_;rw [EF],hW30.bel⟩
  have h9:((firstF (fun i z=>atF (MIns.form m.length z) (10000*(fi:Int)+100*(bi:Int)+(i:Int))) 0 y.code).1)=0:=bne_eq_false_iff_eq.1 hb;have hc32:Hid (((firstF (fun i z=>atF (MIns.form m.length z) (10000*(fi:Int)+100*(bi:Int)+(i:Int))) 0 y.code).1)=0):=h9;clear h9;clear hb;refine wp_skip ?_;refine hK25 _ _ ?_;refine wp_seq_k fun K33 hK33=>?_;have hF34:Fr 40 a27 [(0,.agg #[.slice p m.length c,.int .i64 x.regs,.slice fp.pP x.params.length fp.cP,.slice fp.pR x.results.length fp.cR,.slice fp.pB x.blocks.length fp.cB,.int .i64 (fi:Int),.int .i64 y.regs,.slice bp.pP y.params.length bp.cP,.slice bp.pC y.code.length bp.cC,.int .i64 y.fin.op,.int .i64 y.fin.a,.int .i64 y.fin.yes.block,.slice bp.e.pYR y.fin.yes.regs.length bp.e.cYR,.slice bp.e.pYA y.fin.yes.args.length bp.e.cYA,.int .i64 y.fin.no.block,.slice bp.e.pNR y.fin.no.regs.length bp.e.cNR,.slice bp.e.pNA y.fin.no.args.length bp.e.cNA,.slice bp.e.pA y.fin.args.length bp.e.cA,.int .i64 (bi:Int)]),(1,.pointer (some ⟨B2,0,none⟩)),(2,.pointer (some ⟨B3,0,none⟩)),(3,.int .i64 (y.code' x bi)),(4,.pointer (some ⟨B22,0,none⟩))]:=(h27.keep (h27.keep (h27.keep (h27.keep (h27.keep h27.nil (t:=4) rfl) (t:=3) rfl) (t:=2) rfl) (t:=1) rfl) (t:=0) rfl);have ho1:a27.tmps.getD 1 undef=.pointer (some ⟨B2,0,none⟩):=h27.sl 1 _ rfl;refine fr_draw_k 14 ([(1,fun v _=>v=.pointer (some ⟨B2,0,none⟩)),(26,fun v _=>v=.pointer (some ⟨B2,0,none⟩)),(27,fun v _=>v=.pointer (some ⟨B2,1,none⟩)),(28,fun v _=>v=.agg #[.int .i64 x.regs,.slice fp.pP x.params.length fp.cP,.slice fp.pR x.results.length fp.cR,.slice fp.pB x.blocks.length fp.cB]),(29,fun v _=>v=.pointer (some ⟨B2,6,none⟩)),(30,fun v _=>v=.pointer (some ⟨B2,9,none⟩)),(31,fun v _=>v=.agg #[.int .i64 y.fin.op,.int .i64 y.fin.a,.int .i64 y.fin.yes.block,.slice bp.e.pYR y.fin.yes.regs.length bp.e.cYR,.slice bp.e.pYA y.fin.yes.args.length bp.e.cYA,.int .i64 y.fin.no.block,.slice bp.e.pNR y.fin.no.regs.length bp.e.cNR,.slice bp.e.pNA y.fin.no.args.length bp.e.cNA,.slice bp.e.pA y.fin.args.length bp.e.cA]),(32,fun v _=>v=.int .i64 (y.fin.form x.blocks.length)),(33,fun v _=>v=.pointer (some ⟨B2,0,none⟩)),(34,fun v _=>v=.pointer (some ⟨B2,5,none⟩)),(35,fun v _=>v=.int .i64 (fi:Int)),(36,fun v _=>v=.pointer (some ⟨B2,18,none⟩)),(37,fun v _=>v=.int .i64 (bi:Int)),(38,fun v _=>v=.int .i64 (10000*(fi:Int)+100*(bi:Int)+91)),(39,fun v _=>v=.agg #[.int .i64 ((atF (y.fin.form x.blocks.length) (10000*(fi:Int)+100*(bi:Int)+91)).1),.int .i64 ((atF (y.fin.form x.blocks.length) (10000*(fi:Int)+100*(bi:Int)+91)).2)])]:PTab) (fun w'=>Wd w w' [(B22,#[.int .i64 ((firstF (fun i z=>atF (MIns.form m.length z) (10000*(fi:Int)+100*(bi:Int)+(i:Int))) 0 y.code).1),.int .i64 ((firstF (fun i z=>atF (MIns.form m.length z) (10000*(fi:Int)+100*(bi:Int)+(i:Int))) 0 y.code).2)],30),(B3,#[.int .i64 0,.int .i64 0],30),(B2,#[.slice p m.length c,.int .i64 x.regs,.slice fp.pP x.params.length fp.cP,.slice fp.pR x.results.length fp.cR,.slice fp.pB x.blocks.length fp.cB,.int .i64 (fi:Int),.int .i64 y.regs,.slice bp.pP y.params.length bp.cP,.slice bp.pC y.code.length bp.cC,.int .i64 y.fin.op,.int .i64 y.fin.a,.int .i64 y.fin.yes.block,.slice bp.e.pYR y.fin.yes.regs.length bp.e.cYR,.slice bp.e.pYA y.fin.yes.args.length bp.e.cYA,.int .i64 y.fin.no.block,.slice bp.e.pNR y.fin.no.regs.length bp.e.cNR,.slice bp.e.pNA y.fin.no.args.length bp.e.cNA,.slice bp.e.pA y.fin.args.length bp.e.cA,.int .i64 (bi:Int)],122)]∧Below w23.heap.size w23 w') (fun w w'=>Below w.heap.size w w') (outs:=[1]) (gs:=[]) (bs:=[true,true,true,true,true,true,true,true,true,true,true,true,true,true]) (by kernel_rfl) hF34 rfl (by kernel_rfl) (by kernel_rfl) ?hR ?hG ⟨hW23.drewN 1,drewN_below (m:=1) (Below.refl _ _)⟩ ⟨ho1,trivial⟩ ?hA ?hend
  case hR=>exact ⟨fun _ _ _ _ h=>h,fun _ _ _ _ h=>h,fun _ _ _ _ h=>h,fun _ _ _ _ h=>h,fun _ _ _ _ h=>h,fun _ _ _ _ h=>h,fun _ _ _ _ h=>h,fun _ _ _ _ h=>h,fun _ _ _ _ h=>h,fun _ _ _ _ h=>h,fun _ _ _ _ h=>h,fun _ _ _ _ h=>h,fun _ _ _ _ h=>h,fun _ _ _ _ h=>h,fun _ _ _ _ h=>h,trivial⟩
  case hG=>exact trivial
  case hA =>
   refine ⟨fun a w hW hk K hK=>?_,?_⟩
   · obtain ⟨k0,-⟩:=hk;have k0:a.tmps.getD 1 undef=.pointer (some ⟨B2,0,none⟩):=k0;go_simp;exact hK _ _ (Below.refl _ _) hW rfl
   refine ⟨fun a w hW hk K hK=>?_,?_⟩
   · obtain ⟨k0,-⟩:=hk;have k0:a.tmps.getD 26 undef=.pointer (some ⟨B2,0,none⟩):=k0;go_simp;exact hK _ _ (Below.refl _ _) hW rfl
   refine ⟨fun a w hW hk K hK=>?_,?_⟩
   · obtain ⟨k0,-⟩:=hk;have k0:a.tmps.getD 27 undef=.pointer (some ⟨B2,1,none⟩):=k0;have c1:w.cell? ⟨B2,1,none⟩=some (.int .i64 x.regs):=cellOf (hW.1.get 2 rfl) 1 _ rfl;have c2:w.cell? ⟨B2,2,none⟩=some (.slice fp.pP x.params.length fp.cP):=cellOf (hW.1.get 2 rfl) 2 _ rfl;have c3:w.cell? ⟨B2,3,none⟩=some (.slice fp.pR x.results.length fp.cR):=cellOf (hW.1.get 2 rfl) 3 _ rfl;have c4:w.cell? ⟨B2,4,none⟩=some (.slice fp.pB x.blocks.length fp.cB):=cellOf (hW.1.get 2 rfl) 4 _ rfl;go_simp;exact hK _ _ (Below.refl _ _) hW rfl
   refine ⟨fun a w hW hk K hK=>?_,?_⟩
   · obtain ⟨k0,-⟩:=hk;have k0:a.tmps.getD 1 undef=.pointer (some ⟨B2,0,none⟩):=k0;go_simp;exact hK _ _ (Below.refl _ _) hW rfl
   refine ⟨fun a w hW hk K hK=>?_,?_⟩
   · obtain ⟨k0,-⟩:=hk;have k0:a.tmps.getD 29 undef=.pointer (some ⟨B2,6,none⟩):=k0;go_simp;exact hK _ _ (Below.refl _ _) hW rfl
   refine ⟨fun a w hW hk K hK=>?_,?_⟩
   · obtain ⟨k0,-⟩:=hk;have k0:a.tmps.getD 30 undef=.pointer (some ⟨B2,9,none⟩):=k0;have c9:w.cell? ⟨B2,9,none⟩=some (.int .i64 y.fin.op):=cellOf (hW.1.get 2 rfl) 9 _ rfl;have c10:w.cell? ⟨B2,10,none⟩=some (.int .i64 y.fin.a):=cellOf (hW.1.get 2 rfl) 10 _ rfl;have c11:w.cell? ⟨B2,11,none⟩=some (.int .i64 y.fin.yes.block):=cellOf (hW.1.get 2 rfl) 11 _ rfl;have c12:w.cell? ⟨B2,12,none⟩=some (.slice bp.e.pYR y.fin.yes.regs.length bp.e.cYR):=cellOf (hW.1.get 2 rfl) 12 _ rfl;have c13:w.cell? ⟨B2,13,none⟩=some (.slice bp.e.pYA y.fin.yes.args.length bp.e.cYA):=cellOf (hW.1.get 2 rfl) 13 _ rfl;have c14:w.cell? ⟨B2,14,none⟩=some (.int .i64 y.fin.no.block):=cellOf (hW.1.get 2 rfl) 14 _ rfl;have c15:w.cell? ⟨B2,15,none⟩=some (.slice bp.e.pNR y.fin.no.regs.length bp.e.cNR):=cellOf (hW.1.get 2 rfl) 15 _ rfl;have c16:w.cell? ⟨B2,16,none⟩=some (.slice bp.e.pNA y.fin.no.args.length bp.e.cNA):=cellOf (hW.1.get 2 rfl) 16 _ rfl;have c17:w.cell? ⟨B2,17,none⟩=some (.slice bp.e.pA y.fin.args.length bp.e.cA):=cellOf (hW.1.get 2 rfl) 17 _ rfl;go_simp;exact hK _ _ (Below.refl _ _) hW rfl
   refine ⟨fun a w hW hk K hK=>?_,?_⟩
   · obtain ⟨k0,k1,-⟩:=hk;have k0:a.tmps.getD 28 undef=.agg #[.int .i64 x.regs,.slice fp.pP x.params.length fp.cP,.slice fp.pR x.results.length fp.cR,.slice fp.pB x.blocks.length fp.cB]:=k0;have k1:a.tmps.getD 31 undef=.agg #[.int .i64 y.fin.op,.int .i64 y.fin.a,.int .i64 y.fin.yes.block,.slice bp.e.pYR y.fin.yes.regs.length bp.e.cYR,.slice bp.e.pYA y.fin.yes.args.length bp.e.cYA,.int .i64 y.fin.no.block,.slice bp.e.pNR y.fin.no.regs.length bp.e.cNR,.slice bp.e.pNA y.fin.no.args.length bp.e.cNA,.slice bp.e.pA y.fin.args.length bp.e.cA]:=k1;have hC:Rd Tryz.prog 100 #[.agg #[.int .i64 x.regs,.slice fp.pP x.params.length fp.cP,.slice fp.pR x.results.length fp.cR,.slice fp.pB x.blocks.length fp.cB],.agg #[.int .i64 y.fin.op,.int .i64 y.fin.a,.int .i64 y.fin.yes.block,.slice bp.e.pYR y.fin.yes.regs.length bp.e.cYR,.slice bp.e.pYA y.fin.yes.args.length bp.e.cYA,.int .i64 y.fin.no.block,.slice bp.e.pNR y.fin.no.regs.length bp.e.cNR,.slice bp.e.pNA y.fin.no.args.length bp.e.cNA,.slice bp.e.pA y.fin.args.length bp.e.cA]] w (.int .i64 (y.fin.form x.blocks.length)):=cEnd_any (x:=y.fin) (e:=bp.e) (fr:=x.regs) (fp:=fp.pP) (fl:=x.params.length) (fc:=fp.cP) (fq:=fp.pR) (fm:=x.results.length) (fd:=fp.cR) (fb:=fp.pB) (bl:=x.blocks.length) (fe:=fp.cB) (by have:=ht.out.2.2.1;exact ⟨by have:=this.1.1;omega,by have:=this.1.2;omega,by have:=this.2.1.1;omega,by have:=this.2.1.2;omega⟩) (by have:=hs.out.1;omega);go_simp;refine hC.mono ?_;rintro e w9 ⟨rfl,hb⟩;exact hK _ _ hb ⟨hW.1.below hb,Below.andThen hW.2 hb⟩ rfl
   refine ⟨fun a w hW hk K hK=>?_,?_⟩
   · obtain ⟨k0,-⟩:=hk;have k0:a.tmps.getD 1 undef=.pointer (some ⟨B2,0,none⟩):=k0;go_simp;exact hK _ _ (Below.refl _ _) hW rfl
   refine ⟨fun a w hW hk K hK=>?_,?_⟩
   · obtain ⟨k0,-⟩:=hk;have k0:a.tmps.getD 33 undef=.pointer (some ⟨B2,0,none⟩):=k0;go_simp;exact hK _ _ (Below.refl _ _) hW rfl
   refine ⟨fun a w hW hk K hK=>?_,?_⟩
   · obtain ⟨k0,-⟩:=hk;have k0:a.tmps.getD 34 undef=.pointer (some ⟨B2,5,none⟩):=k0;have c5:w.cell? ⟨B2,5,none⟩=some (.int .i64 (fi:Int)):=cellOf (hW.1.get 2 rfl) 5 _ rfl;go_simp;exact hK _ _ (Below.refl _ _) hW rfl
   refine ⟨fun a w hW hk K hK=>?_,?_⟩
   · obtain ⟨k0,-⟩:=hk;have k0:a.tmps.getD 1 undef=.pointer (some ⟨B2,0,none⟩):=k0;go_simp;exact hK _ _ (Below.refl _ _) hW rfl
   refine ⟨fun a w hW hk K hK=>?_,?_⟩
   · obtain ⟨k0,-⟩:=hk;have k0:a.tmps.getD 36 undef=.pointer (some ⟨B2,18,none⟩):=k0;have c18:w.cell? ⟨B2,18,none⟩=some (.int .i64 (bi:Int)):=cellOf (hW.1.get 2 rfl) 18 _ rfl;go_simp;exact hK _ _ (Below.refl _ _) hW rfl
   refine ⟨fun a w hW hk K hK=>?_,?_⟩
   · obtain ⟨k0,k1,-⟩:=hk;have k0:a.tmps.getD 35 undef=.int .i64 (fi:Int):=k0;have k1:a.tmps.getD 37 undef=.int .i64 (bi:Int):=k1;have hC:Rd Tryz.prog 101 #[.int .i64 (fi:Int),.int .i64 (bi:Int)] w (.int .i64 (10000*(fi:Int)+100*(bi:Int)+91)):=cEndAt_any (f:=fi) (b:=bi) ⟨by omega,by omega⟩;go_simp;refine hC.mono ?_;rintro e w9 ⟨rfl,hb⟩;exact hK _ _ hb ⟨hW.1.below hb,Below.andThen hW.2 hb⟩ rfl
   refine ⟨fun a w hW hk K hK=>?_,?_⟩
   · obtain ⟨k0,k1,-⟩:=hk;have k0:a.tmps.getD 32 undef=.int .i64 (y.fin.form x.blocks.length):=k0;have k1:a.tmps.getD 38 undef=.int .i64 (10000*(fi:Int)+100*(bi:Int)+91):=k1;have hC:Rd Tryz.prog 72 #[.int .i64 (y.fin.form x.blocks.length),.int .i64 (10000*(fi:Int)+100*(bi:Int)+91)] w (.agg #[.int .i64 ((atF (y.fin.form x.blocks.length) (10000*(fi:Int)+100*(bi:Int)+91)).1),.int .i64 ((atF (y.fin.form x.blocks.length) (10000*(fi:Int)+100*(bi:Int)+91)).2)]):=faultAt_any (xc:=y.fin.form x.blocks.length) (xp:=10000*(fi:Int)+100*(bi:Int)+91);go_simp;refine hC.mono ?_;rintro e w9 ⟨rfl,hb⟩;exact hK _ _ hb ⟨hW.1.below hb,Below.andThen hW.2 hb⟩ rfl
   trivial
  case hend =>
   intro ops a35 w35 hWD hE hFD;have hd39:a35.tmps.getD 39 undef=.agg #[.int .i64 ((atF (y.fin.form x.blocks.length) (10000*(fi:Int)+100*(bi:Int)+91)).1),.int .i64 ((atF (y.fin.form x.blocks.length) (10000*(fi:Int)+100*(bi:Int)+91)).2)]:=hE 39 rfl;have hF35:Fr 40 a35 [(39,.agg #[.int .i64 ((atF (y.fin.form x.blocks.length) (10000*(fi:Int)+100*(bi:Int)+91)).1),.int .i64 ((atF (y.fin.form x.blocks.length) (10000*(fi:Int)+100*(bi:Int)+91)).2)]),(0,.agg #[.slice p m.length c,.int .i64 x.regs,.slice fp.pP x.params.length fp.cP,.slice fp.pR x.results.length fp.cR,.slice fp.pB x.blocks.length fp.cB,.int .i64 (fi:Int),.int .i64 y.regs,.slice bp.pP y.params.length bp.cP,.slice bp.pC y.code.length bp.cC,.int .i64 y.fin.op,.int .i64 y.fin.a,.int .i64 y.fin.yes.block,.slice bp.e.pYR y.fin.yes.regs.length bp.e.cYR,.slice bp.e.pYA y.fin.yes.args.length bp.e.cYA,.int .i64 y.fin.no.block,.slice bp.e.pNR y.fin.no.regs.length bp.e.cNR,.slice bp.e.pNA y.fin.no.args.length bp.e.cNA,.slice bp.e.pA y.fin.args.length bp.e.cA,.int .i64 (bi:Int)]),(1,.pointer (some ⟨B2,0,none⟩)),(2,.pointer (some ⟨B3,0,none⟩)),(3,.int .i64 (y.code' x bi)),(4,.pointer (some ⟨B22,0,none⟩))]:=(hFD.cons hd39);clear hd39;have hW35:Wd w w35 [(B22,#[.int .i64 ((firstF (fun i z=>atF (MIns.form m.length z) (10000*(fi:Int)+100*(bi:Int)+(i:Int))) 0 y.code).1),.int .i64 ((firstF (fun i z=>atF (MIns.form m.length z) (10000*(fi:Int)+100*(bi:Int)+(i:Int))) 0 y.code).2)],30),(B3,#[.int .i64 0,.int .i64 0],30),(B2,#[.slice p m.length c,.int .i64 x.regs,.slice fp.pP x.params.length fp.cP,.slice fp.pR x.results.length fp.cR,.slice fp.pB x.blocks.length fp.cB,.int .i64 (fi:Int),.int .i64 y.regs,.slice bp.pP y.params.length bp.cP,.slice bp.pC y.code.length bp.cC,.int .i64 y.fin.op,.int .i64 y.fin.a,.int .i64 y.fin.yes.block,.slice bp.e.pYR y.fin.yes.regs.length bp.e.cYR,.slice bp.e.pYA y.fin.yes.args.length bp.e.cYA,.int .i64 y.fin.no.block,.slice bp.e.pNR y.fin.no.regs.length bp.e.cNR,.slice bp.e.pNA y.fin.no.args.length bp.e.cNA,.slice bp.e.pA y.fin.args.length bp.e.cA,.int .i64 (bi:Int)],122)]:=hWD.1;clear hFD hWD hE hF34 h27;clear hW23;refine St.go hF35 ?_;clear hF35 a35;refine sT 1 hW35 rfl rfl infFault rfl rfl rfl ?_;clear hW35;intro w36 hW36;refine St.nil fun a37 h37=>?_;refine hK33 _ _ ?_;refine wp_ret ?_;with_reducible repeat first | refine of_then_ret ?_ | refine of_block_ret ?_
   have e0:=hc17.out;have e1:=hc32.out;have EF:=MBlock.fault_eq m.length fi x bi y;have EI:=firstF_at (f:=fun i z=>(MIns.form m.length z,(10000*(fi:Int)+100*(bi:Int)+(i:Int)))) (l:=y.code) (j:=0);dsimp only at EI
   rw [if_pos e0,if_pos (by rw [← EI];exact e1)] at EF;exact ret_box 1 h37 hW36 rfl rfl rfl Tryz.underlying30 rfl infFault ⟨by show Ending.returned (.agg #[.int .i64 ((atF (y.fin.form x.blocks.length) (10000*(fi:Int)+100*(bi:Int)+91)).1),.int .i64 ((atF (y.fin.form x.blocks.length) (10000*(fi:Int)+100*(bi:Int)+91)).2)])=_;rw [EF],hW36.bel⟩
theorem clo72_any {n : Nat} {m : List (MFunc n)} {p : Option Addr} {c : Nat} {x : MFunc n} {fp : FP} {fi : Nat} {y : MBlock n} {bp : BP} {bi : Nat} {w : World} (hx0 : FIn w All x fp) (hs0 : x.small) (hy0 : BIn w All y bp) (ht0 : y.small) {Bc : Nat} (hm : m.length ≤ 100000) (hfi : fi < 1000000) (hbi : bi < 1000000) (hcap0 : Blk w Bc #[.slice p m.length c, .int .i64 x.regs, .slice fp.pP x.params.length fp.cP, .slice fp.pR x.results.length fp.cR, .slice fp.pB x.blocks.length fp.cB, .int .i64 (fi : Int)] 92) :
    Rd Tryz.prog 75 #[.int .i64 (bi:Int),.agg #[.int .i64 y.regs,.slice bp.pP y.params.length bp.cP,.slice bp.pC y.code.length bp.cC,.int .i64 y.fin.op,.int .i64 y.fin.a,.int .i64 y.fin.yes.block,.slice bp.e.pYR y.fin.yes.regs.length bp.e.cYR,.slice bp.e.pYA y.fin.yes.args.length bp.e.cYA,.int .i64 y.fin.no.block,.slice bp.e.pNR y.fin.no.regs.length bp.e.cNR,.slice bp.e.pNA y.fin.no.args.length bp.e.cNA,.slice bp.e.pA y.fin.args.length bp.e.cA],.pointer (some ⟨Bc,0,none⟩)] w (faultV (MBlock.fault m.length fi x bi y)):=by
  have hx:Hid _:=hx0;have hs:Hid _:=hs0;have hy:Hid _:=hy0;have ht:Hid _:=ht0;clear hx0 hs0 hy0 ht0;have hcap:Hid _:=hcap0;clear hcap0;refine fr_enter (n:=11) Tryz.func75 rfl rfl rfl ?_;intro a hF;have hW:=Wd.start w;replace hF:Fr 11 a [(0,.int .i64 (bi:Int)),(1,.agg #[.int .i64 y.regs,.slice bp.pP y.params.length bp.cP,.slice bp.pC y.code.length bp.cC,.int .i64 y.fin.op,.int .i64 y.fin.a,.int .i64 y.fin.yes.block,.slice bp.e.pYR y.fin.yes.regs.length bp.e.cYR,.slice bp.e.pYA y.fin.yes.args.length bp.e.cYA,.int .i64 y.fin.no.block,.slice bp.e.pNR y.fin.no.regs.length bp.e.cNR,.slice bp.e.pNA y.fin.no.args.length bp.e.cNA,.slice bp.e.pA y.fin.args.length bp.e.cA]),(2,.pointer (some ⟨Bc,0,none⟩))]:=hF;refine wp_seq_k fun K1 hK1=>?_;refine rg hF fun ops=>?_;clear hF a;refine sB hW trivial rfl rfl ?_;clear hW;intro w2 B2 hW2 hN;clear hN;refine sAFault hW2 trivial rfl ?_;clear hW2;intro w3 B3 hW3 hN;clear hN;refine St.nil fun a4 h4=>?_;refine hK1 _ _ ?_;refine wp_seq_k fun K5 hK5=>?_;refine rg h4 fun ops=>?_;clear h4 a4;refine sSE Tryz.underlying92 rfl (rangeAt_bel (rangeOf hcap.out 0 6 rfl) hW3.bel) inffuncLook trivial rfl rfl ?_;refine sS 1 12 Tryz.underlying55 rfl infBlock hW3 trivial rfl rfl rfl rfl ?_;refine sm trivial rfl rfl ?_;intro a6 h6;refine fr_pure (t:=9) (v:=.agg #[.slice p m.length c,.int .i64 x.regs,.slice fp.pP x.params.length fp.cP,.slice fp.pR x.results.length fp.cR,.slice fp.pB x.blocks.length fp.cB,.int .i64 (fi:Int),.int .i64 y.regs,.slice bp.pP y.params.length bp.cP,.slice bp.pC y.code.length bp.cC,.int .i64 y.fin.op,.int .i64 y.fin.a,.int .i64 y.fin.yes.block,.slice bp.e.pYR y.fin.yes.regs.length bp.e.cYR,.slice bp.e.pYA y.fin.yes.args.length bp.e.cYA,.int .i64 y.fin.no.block,.slice bp.e.pNR y.fin.no.regs.length bp.e.cNR,.slice bp.e.pNA y.fin.no.args.length bp.e.cNA,.slice bp.e.pA y.fin.args.length bp.e.cA,.int .i64 (bi:Int)]) (w':=w3) h6 rfl rfl rfl (fun K hK=>?_) ?_
  ·have k0:a6.tmps[6]?.getD undef=.agg #[.slice p m.length c,.int .i64 x.regs,.slice fp.pP x.params.length fp.cP,.slice fp.pR x.results.length fp.cR,.slice fp.pB x.blocks.length fp.cB,.int .i64 (fi:Int)]:=h6.sl2 6 _ rfl
   have k1:a6.tmps[7]?.getD undef=.agg #[.int .i64 y.regs,.slice bp.pP y.params.length bp.cP,.slice bp.pC y.code.length bp.cC,.int .i64 y.fin.op,.int .i64 y.fin.a,.int .i64 y.fin.yes.block,.slice bp.e.pYR y.fin.yes.regs.length bp.e.cYR,.slice bp.e.pYA y.fin.yes.args.length bp.e.cYA,.int .i64 y.fin.no.block,.slice bp.e.pNR y.fin.no.regs.length bp.e.cNR,.slice bp.e.pNA y.fin.no.args.length bp.e.cNA,.slice bp.e.pA y.fin.args.length bp.e.cA]:=h6.sl2 7 _ rfl;have k2:a6.tmps[8]?.getD undef=.int .i64 (bi:Int):=h6.sl2 8 _ rfl;go_simp;exact hK
  clear h6;intro a7 hF7;refine St.go hF7 ?_;clear hF7 a7;refine sc_1 cf76 hW3 (cBlockFault_any (m:=m) (p:=p) (c:=c) (x:=x) (fp:=fp) (fi:=fi) (y:=y) (bp:=bp) (bi:=bi) (hx.out.below hW3.bel) hs.out (hy.out.below hW3.bel) ht.out hm hfi hbi) trivial rfl rfl ?_;clear hW3;intro w8 hW8;refine sT 0 hW8 rfl rfl infFault rfl rfl rfl ?_;clear hW8;intro w9 hW9;refine St.nil fun a10 h10=>?_;refine hK5 _ _ ?_;refine wp_ret ?_;with_reducible repeat first | refine of_then_ret ?_ | refine of_block_ret ?_
  exact ret_box 0 h10 hW9 rfl rfl rfl Tryz.underlying30 rfl infFault ⟨rfl,hW9.bel⟩
theorem cFuncFault_any {n : Nat} {m : List (MFunc n)} {p : Option Addr} {c : Nat} {x : MFunc n} {fp : FP} {fi : Nat} {w : World} (hx0 : FIn w All x fp) (hs0 : x.small) (hm : m.length ≤ 100000) (hfi : fi < 1000000) :
    Rd Tryz.prog 48 #[.agg #[.slice p m.length c,.int .i64 x.regs,.slice fp.pP x.params.length fp.cP,.slice fp.pR x.results.length fp.cR,.slice fp.pB x.blocks.length fp.cB,.int .i64 (fi:Int)]] w (faultV (MFunc.fault m.length fi x)):=by
  have hx:Hid _:=hx0;have hs:Hid _:=hs0;clear hx0 hs0;refine fr_enter (n:=18) Tryz.func48 rfl rfl rfl ?_;intro a hF;have hW:=Wd.start w;replace hF:Fr 18 a [(0,.agg #[.slice p m.length c,.int .i64 x.regs,.slice fp.pP x.params.length fp.cP,.slice fp.pR x.results.length fp.cR,.slice fp.pB x.blocks.length fp.cB,.int .i64 (fi:Int)])]:=hF;refine wp_seq_k fun K1 hK1=>?_;refine rg hF fun ops=>?_;clear hF a;refine sB hW trivial rfl rfl ?_;clear hW;intro w2 B2 hW2 hN;clear hN;refine sAFault hW2 trivial rfl ?_;clear hW2;intro w3 B3 hW3 hN;clear hN;refine St.nil fun a4 h4=>?_;refine hK1 _ _ ?_;refine wp_seq_k fun K5 hK5=>?_;refine wp_seq_k fun K6 hK6=>?_;refine rg h4 fun ops=>?_;clear h4 a4;refine sS 1 6 Tryz.underlying92 rfl inffuncLook hW3 trivial rfl rfl rfl rfl ?_;refine sc_1 cf71 hW3 (funcCode_any (m:=m) (p:=p) (c:=c) (fi:=fi) (hx.out.below hW3.bel) hs.out) trivial rfl rfl ?_;clear hW3;intro w7 hW7;refine sa trivial rfl rfl ?_;refine St.nil fun a8 h8=>?_;refine hK6 _ _ ?_;refine wp_seq_k fun K9 hK9=>?_;refine rg h8 fun ops=>?_;clear h8 a8;refine sm trivial rfl rfl ?_;refine sne trivial rfl rfl rfl ?_;refine St.nil fun a10 h10=>?_;refine hK9 _ _ ?_;refine fr_cond (t:=7) h10 rfl (fun hb=>?_) (fun hb=>?_)
  ·have h9:¬ (x.code fi)=0:=bne_iff_ne.1 hb
   have hc11:¬ (x.code fi)=0:=h9;clear h9;clear hb;refine wp_seq_k fun K12 hK12=>?_;refine rg h10 fun ops=>?_;clear h10 a10;refine sm trivial rfl rfl ?_;refine sffuncLook2 trivial rfl rfl ?_;refine sbInt 1 hW7 trivial rfl rfl rfl rfl ?_;refine sc_1 cf73 hW7 (cFuncAt_any (f:=fi) (by omega)) trivial rfl rfl ?_;clear hW7;intro w13 hW13;refine sc_2 cf72 hW13 (faultAt_any (xc:=x.code fi) (xp:=10000*(fi:Int)+9999)) trivial rfl rfl rfl ?_;clear hW13;intro w14 hW14;refine sT 0 hW14 rfl rfl infFault rfl rfl rfl ?_;clear hW14;intro w15 hW15;refine St.nil fun a16 h16=>?_;refine hK12 _ _ ?_;refine wp_ret ?_;with_reducible repeat first | refine of_then_ret ?_ | refine of_block_ret ?_
   have e0:=hc11;have EF:=MFunc.fault_eq m.length fi x;rw [if_neg e0] at EF;exact ret_box 0 h16 hW15 rfl rfl rfl Tryz.underlying30 rfl infFault ⟨by show Ending.returned (.agg #[.int .i64 ((atF (x.code fi) (10000*(fi:Int)+9999)).1),.int .i64 ((atF (x.code fi) (10000*(fi:Int)+9999)).2)])=_;rw [EF] ;simp [atF,e0],hW15.bel⟩
  have h9:(x.code fi)=0:=bne_eq_false_iff_eq.1 hb;have hc17:Hid ((x.code fi)=0):=h9;clear h9;clear hb;refine wp_skip ?_;refine hK5 _ _ ?_;refine wp_seq_k fun K18 hK18=>?_;refine rg h10 fun ops=>?_;clear h10 a10;refine sffuncLook1 trivial rfl rfl ?_;refine sfFunc3 trivial rfl rfl ?_;refine sbBlocks 1 hW7 trivial rfl rfl rfl rfl ?_;intro a19 h19;refine fr_pure (t:=16) (v:=.func (.func 75) #[] #[.pointer (some ⟨B2,0,none⟩)]) (w':=w7) h19 rfl rfl rfl (fun K hK=>?_) ?_
  ·have k0:a19.tmps.getD 1 undef=.pointer (some ⟨B2,0,none⟩):=h19.sl 1 _ rfl
   go_simp;exact hK
  clear h19;intro a20 hF20;refine St.go hF20 ?_;clear hF20 a20;refine sc_2 cf74 hW7 (ffBlock_any (Bc:=B2) (fun b y=>MBlock.fault m.length fi x b y) (Lay.below hx.out.blocks hW7.bel) (by have:=hs.out.1;omega) (fun b y yi wx hz hi hb=>clo72_any ((hx.out.below hW7.bel).below hb) hs.out hi (hs.out.2.2.2 _ (List.mem_of_getElem? hz)) hm hfi (by have h9:=(List.getElem?_eq_some_iff.1 hz).1;have:=hs.out.1;omega) ((hW7.get 1 rfl).below hb))) trivial rfl rfl rfl ?_;clear hW7;intro w21 hW21;refine sT 0 hW21 rfl rfl infFault rfl rfl rfl ?_;clear hW21;intro w22 hW22;refine St.nil fun a23 h23=>?_;refine hK18 _ _ ?_;refine wp_ret ?_;with_reducible repeat first | refine of_then_ret ?_ | refine of_block_ret ?_
  have e0:=hc17.out;have EF:=MFunc.fault_eq m.length fi x;rw [if_pos e0] at EF;exact ret_box 0 h23 hW22 rfl rfl rfl Tryz.underlying30 rfl infFault ⟨by show Ending.returned (.agg #[.int .i64 ((firstF (fun b y=>MBlock.fault m.length fi x b y) 0 x.blocks).1),.int .i64 ((firstF (fun b y=>MBlock.fault m.length fi x b y) 0 x.blocks).2)])=_;rw [EF],hW22.bel⟩
theorem clo46_any {n : Nat} {m : List (MFunc n)} {p : Option Addr} {c : Nat} {x : MFunc n} {fp : FP} {fi : Nat} {w : World} (hx0 : FIn w All x fp) (hs0 : x.small) {Bc : Nat} (hm : m.length ≤ 100000) (hfi : fi < 1000000) (hcap0 : Blk w Bc #[.slice p m.length c] 24) :
    Rd Tryz.prog 47 #[.int .i64 (fi:Int),.agg #[.int .i64 x.regs,.slice fp.pP x.params.length fp.cP,.slice fp.pR x.results.length fp.cR,.slice fp.pB x.blocks.length fp.cB],.pointer (some ⟨Bc,0,none⟩)] w (faultV (MFunc.fault m.length fi x)):=by
  have hx:Hid _:=hx0;have hs:Hid _:=hs0;clear hx0 hs0;have hcap:Hid _:=hcap0;clear hcap0;refine fr_enter (n:=11) Tryz.func47 rfl rfl rfl ?_;intro a hF;have hW:=Wd.start w;replace hF:Fr 11 a [(0,.int .i64 (fi:Int)),(1,.agg #[.int .i64 x.regs,.slice fp.pP x.params.length fp.cP,.slice fp.pR x.results.length fp.cR,.slice fp.pB x.blocks.length fp.cB]),(2,.pointer (some ⟨Bc,0,none⟩))]:=hF;refine wp_seq_k fun K1 hK1=>?_;refine rg hF fun ops=>?_;clear hF a;refine sB hW trivial rfl rfl ?_;clear hW;intro w2 B2 hW2 hN;clear hN;refine sAFault hW2 trivial rfl ?_;clear hW2;intro w3 B3 hW3 hN;clear hN;refine St.nil fun a4 h4=>?_;refine hK1 _ _ ?_;refine wp_seq_k fun K5 hK5=>?_;refine rg h4 fun ops=>?_;clear h4 a4;refine sSE Tryz.underlying24 rfl (rangeAt_bel (rangeOf hcap.out 0 1 rfl) hW3.bel) infModule trivial rfl rfl ?_;refine sS 1 4 Tryz.underlying46 rfl infFunc hW3 trivial rfl rfl rfl rfl ?_;refine sm trivial rfl rfl ?_;intro a6 h6;refine fr_pure (t:=9) (v:=.agg #[.slice p m.length c,.int .i64 x.regs,.slice fp.pP x.params.length fp.cP,.slice fp.pR x.results.length fp.cR,.slice fp.pB x.blocks.length fp.cB,.int .i64 (fi:Int)]) (w':=w3) h6 rfl rfl rfl (fun K hK=>?_) ?_
  ·have k0:a6.tmps[6]?.getD undef=.agg #[.slice p m.length c]:=h6.sl2 6 _ rfl
   have k1:a6.tmps[7]?.getD undef=.agg #[.int .i64 x.regs,.slice fp.pP x.params.length fp.cP,.slice fp.pR x.results.length fp.cR,.slice fp.pB x.blocks.length fp.cB]:=h6.sl2 7 _ rfl;have k2:a6.tmps[8]?.getD undef=.int .i64 (fi:Int):=h6.sl2 8 _ rfl;go_simp;exact hK
  clear h6;intro a7 hF7;refine St.go hF7 ?_;clear hF7 a7;refine sc_1 cf48 hW3 (cFuncFault_any (m:=m) (p:=p) (c:=c) (x:=x) (fp:=fp) (fi:=fi) (hx.out.below hW3.bel) hs.out hm hfi) trivial rfl rfl ?_;clear hW3;intro w8 hW8;refine sT 0 hW8 rfl rfl infFault rfl rfl rfl ?_;clear hW8;intro w9 hW9;refine St.nil fun a10 h10=>?_;refine hK5 _ _ ?_;refine wp_ret ?_;with_reducible repeat first | refine of_then_ret ?_ | refine of_block_ret ?_
  exact ret_box 0 h10 hW9 rfl rfl rfl Tryz.underlying30 rfl infFault ⟨rfl,hW9.bel⟩
theorem cCheck_any {n : Nat} {m : List (MFunc n)} {p : Option Addr} {c : Nat} {w : World} (hm0 : (modL n).In w All m [.slice p m.length c]) (hs0 : msmall m) :
    Rd Tryz.prog 22 #[.agg #[.slice p m.length c]] w (faultV (modFault m)):=by
  have hmm:Hid _:=hm0;have hms:Hid _:=hs0;clear hm0 hs0;refine fr_enter (n:=18) Tryz.func22 rfl rfl rfl ?_;intro a hF;have hW:=Wd.start w;replace hF:Fr 18 a [(0,.agg #[.slice p m.length c])]:=hF;refine wp_seq_k fun K1 hK1=>?_;refine rg hF fun ops=>?_;clear hF a;refine sB hW trivial rfl rfl ?_;clear hW;intro w2 B2 hW2 hN;clear hN;refine sAFault hW2 trivial rfl ?_;clear hW2;intro w3 B3 hW3 hN;clear hN;refine St.nil fun a4 h4=>?_;refine hK1 _ _ ?_;refine wp_seq_k fun K5 hK5=>?_;refine wp_seq_k fun K6 hK6=>?_;refine fr_region ?_;intro ops hops;have hg4:(ops[4]?).bind (fun o:Oper=>o.dst)=some 7:=hops 4;clear hops;refine St.go h4 ?_;clear h4 a4;refine sfModule0 trivial rfl rfl ?_;refine sbFuncs 1 hW3 trivial rfl rfl rfl rfl ?_;refine slFuncs trivial rfl rfl ?_;refine slt trivial rfl rfl rfl ?_;refine sm trivial rfl rfl ?_;intro a7 h7;rcases Bool.eq_false_or_eq_true (decide ((m.length:Int)<1)) with hb | hb
  ·rw [hb] at h7
   have hc8:m.length<1:=by have:=of_decide_eq_true hb;omega
   clear hb;refine St.go h7 ?_;clear h7 a7;refine so hg4 rfl rfl rfl rfl ?_;refine so hg4 rfl rfl rfl rfl ?_;refine so hg4 rfl rfl rfl rfl ?_;refine so hg4 rfl rfl rfl rfl ?_;refine sp trivial rfl rfl rfl ?_;refine St.nil fun a9 h9=>?_;refine hK6 _ _ ?_;refine fr_true (t:=12) h9 rfl ?_;refine wp_seq_k fun K10 hK10=>?_;refine rg h9 fun ops=>?_;clear h9 a9;intro a11 h11;refine fr_pure (t:=13) (v:=.agg #[.int .i64 2,.int .i64 (-1)]) (w':=w3) h11 rfl rfl rfl (fun K hK=>?_) ?_
   ·go_simp
    exact hK
   clear h11;intro a12 hF12;refine St.go hF12 ?_;clear hF12 a12;refine sT 0 hW3 rfl rfl infFault rfl rfl rfl ?_;clear hW3;intro w13 hW13;refine St.nil fun a14 h14=>?_;refine hK10 _ _ ?_;refine wp_ret ?_;with_reducible repeat first | refine of_then_ret ?_ | refine of_block_ret ?_
   have R:modFault m=(2,-1):=if_pos (by omega);exact ret_box 0 h14 hW13 rfl rfl rfl Tryz.underlying30 rfl infFault ⟨by show Ending.returned (.agg #[.int .i64 2,.int .i64 (-1)])=_;rw [R],hW13.bel⟩
  rw [hb] at h7;have hc15:¬ (m.length<1):=by have:=of_decide_eq_false hb;omega
  clear hb;refine St.go h7 ?_;clear h7 a7;refine sfModule0 ⟨_,hg4,rfl,rfl⟩ rfl rfl ?_;refine sbFuncs 1 hW3 ⟨_,hg4,rfl,rfl⟩ rfl rfl rfl rfl ?_;refine slFuncs ⟨_,hg4,rfl,rfl⟩ rfl rfl ?_;refine sgt ⟨_,hg4,rfl,rfl⟩ rfl rfl rfl ?_;refine spf trivial rfl rfl rfl ?_;refine St.nil fun a16 h16=>?_;refine hK6 _ _ ?_;refine fr_cond (t:=12) h16 rfl (fun hb=>?_) (fun hb=>?_)
  ·have hc17:8<m.length:=by have:=of_decide_eq_true hb;omega
   clear hb;refine wp_seq_k fun K18 hK18=>?_;refine rg h16 fun ops=>?_;clear h16 a16;intro a19 h19;refine fr_pure (t:=13) (v:=.agg #[.int .i64 2,.int .i64 (-1)]) (w':=w3) h19 rfl rfl rfl (fun K hK=>?_) ?_
   ·go_simp
    exact hK
   clear h19;intro a20 hF20;refine St.go hF20 ?_;clear hF20 a20;refine sT 0 hW3 rfl rfl infFault rfl rfl rfl ?_;clear hW3;intro w21 hW21;refine St.nil fun a22 h22=>?_;refine hK18 _ _ ?_;refine wp_ret ?_;with_reducible repeat first | refine of_then_ret ?_ | refine of_block_ret ?_
   have R:modFault m=(2,-1):=if_pos (by omega);exact ret_box 0 h22 hW21 rfl rfl rfl Tryz.underlying30 rfl infFault ⟨by show Ending.returned (.agg #[.int .i64 2,.int .i64 (-1)])=_;rw [R],hW21.bel⟩
  have hc23:¬ (8<m.length):=by have:=of_decide_eq_false hb;omega
  clear hb;refine wp_skip ?_;refine hK5 _ _ ?_;refine wp_seq_k fun K24 hK24=>?_;refine rg h16 fun ops=>?_;clear h16 a16;refine sfModule0 trivial rfl rfl ?_;refine sbFuncs 1 hW3 trivial rfl rfl rfl rfl ?_;intro a25 h25;refine fr_pure (t:=16) (v:=.func (.func 47) #[] #[.pointer (some ⟨B2,0,none⟩)]) (w':=w3) h25 rfl rfl rfl (fun K hK=>?_) ?_
  ·have k0:a25.tmps.getD 1 undef=.pointer (some ⟨B2,0,none⟩):=h25.sl 1 _ rfl
   go_simp;exact hK
  clear h25;intro a26 hF26;refine St.go hF26 ?_;clear hF26 a26;refine sc_2 cf46 hW3 (ffFunc_any (Bc:=B2) (fun f x=>MFunc.fault m.length f x) (Lay.below hmm.out hW3.bel) (by have:=hms.out.1;omega) (fun f x xi wx hz hi hb=>clo46_any hi (hms.out.2 _ (List.mem_of_getElem? hz)) (by have:=hms.out.1;omega) (by have h9:=(List.getElem?_eq_some_iff.1 hz).1;have:=hms.out.1;omega) ((hW3.get 1 rfl).below hb))) trivial rfl rfl rfl ?_;clear hW3;intro w27 hW27;refine sT 0 hW27 rfl rfl infFault rfl rfl rfl ?_;clear hW27;intro w28 hW28;refine St.nil fun a29 h29=>?_;refine hK24 _ _ ?_;refine wp_ret ?_;with_reducible repeat first | refine of_then_ret ?_ | refine of_block_ret ?_
  have R:modFault m=firstF (fun f x=>MFunc.fault m.length f x) 0 m:=if_neg (by omega);exact ret_box 0 h29 hW28 rfl rfl rfl Tryz.underlying30 rfl infFault ⟨by show Ending.returned (.agg #[.int .i64 ((firstF (fun f x=>MFunc.fault m.length f x) 0 m).1),.int .i64 ((firstF (fun f x=>MFunc.fault m.length f x) 0 m).2)])=_;rw [R],hW28.bel⟩
abbrev RO (v : Value) : Nat → Prop := fun k => v.ownBlock = some k
abbrev BRow (w : World) (lo : Nat) (v : Value) (ys : List UInt8) : Prop := w.ownsRow lo 5 1 v ys.length (bcells ys)
theorem BRow.form {w : World} {lo : Nat} {v : Value} {ys : List UInt8} (h : BRow w lo v ys) : ∃ a c, v = .slice a ys.length c ∧ (0 < ys.length → ys.length ≤ c) := by
  obtain ⟨h1,h2⟩:=h;rcases h2 with ⟨rfl,h4⟩ | ⟨g,cap,cur,e,_,_,hn,_⟩
  · exact ⟨none,0,by rw [h4],by omega⟩
  · exact ⟨_,_,e,fun _=>hn⟩
theorem bcells_at {ys : List UInt8} {i : Nat} {x : UInt8} (h : ys[i]? = some x) : (bcells ys)[i]? = some (.int .u8 (x.toNat : Int)) := by simp [bcells, h]
theorem BRow.lay {w : World} {lo : Nat} {v : Value} {ys : List UInt8} (h : BRow w lo v ys) : bytesL.In w (fun g => lo ≤ g) ys [v] := by
  obtain ⟨h1,h2⟩:=h;rcases h2 with ⟨rfl,h4⟩ | ⟨g,cap,cur,rfl,hg,hh,hn,hm,hs,ht⟩
  · have:ys=[]:=List.length_eq_zero_iff.1 h4
    subst this;exact Lay.list_nil _ _ _ _ _
  · refine ⟨some ⟨g,0,none⟩,cap,rfl,fun i x hx=>⟨g,0,[.int .u8 (x.toNat:Int)],rfl,hg,lt_of_block hh,fun j hj=>?_,rfl⟩⟩;have hj0:j=0:=by have:j<1:=hj;omega
    subst hj0;have hi:i<ys.length:=(List.getElem?_eq_some_iff.1 hx).1
    have e:cur[i]?=some (.int .u8 (x.toNat:Int)):=by
      have h3:=bcells_at hx;rw [← ht,List.getElem?_take,if_pos (by omega)] at h3;rw [Array.getElem?_toList] at h3;exact h3
    show w.cell? ⟨g,0+i*1+0,none⟩=_;rw [show 0+i*1+0=i by omega];exact cellOf hh i _ e
theorem BRow.grown {w w9 : World} {lo g cap : Nat} {v : Value} {ys : List UInt8} {x : UInt8} {o : Obj} (h1 : w9.ownsRow lo 5 1 (.slice (some ⟨g, 0, none⟩) (ys.length + 1) cap) (ys.length + 1) (bcells ys ++ [.int .u8 (x.toNat : Int)]))
    (h2:(w.alloc o).grownBy w9 v.ownBlock) (h3:v.ownBlock=some g∨g=w.heap.size+1) :
    BRow w9 lo (.slice (some ⟨g,0,none⟩) (ys.length+1) cap) (ys++[x])∧Step (RO v) (RO (.slice (some ⟨g,0,none⟩) (ys.length+1) cap)) w w9:=by
  refine ⟨?_,⟨h2.os,h2.tape,h2.output,?_,fun k hk hn=>?_,fun k hk=>?_⟩⟩
  · have el:(ys++[x]).length=ys.length+1:=by simp
    have ec:bcells (ys++[x])=bcells ys++[.int .u8 (x.toNat:Int)]:=by simp [bcells]
    rw [BRow,el,ec];exact h1
  · have:=h2.size;simp at this ⊢;omega
  · rw [h2.block k (by simp;omega) (fun e=>hn e.symm),Below.heap_alloc _ _ _ hk]
  · have hk':g=k:=by simpa [RO,Value.ownBlock] using hk
    subst hk';rcases h3 with h3 | h3
    · exact .inl h3
    · exact .inr (by omega)
theorem ownB_bytes {w : World} {lo : Nat} {a : Option Addr} {c : Nat} {ys : List UInt8} (h : OwnB w lo (.slice a ys.length c) ys.length (bcells ys)) : BytesAt w a ys := fun i x hx => by
  have hi:i<ys.length:=(List.getElem?_eq_some_iff.1 hx).1
  obtain ⟨g,rfl⟩:∃ g,a=some ⟨g,0,none⟩:=by
    rcases h with ⟨_,⟨_,h4⟩ | ⟨g,cap,cur,e,_⟩⟩ | ⟨g,cur,fz,e,_⟩
    · omega
    · injection e with e;exact ⟨g,e⟩
    · injection e with e;exact ⟨g,e⟩
  refine ⟨g,0,rfl,(h.lt rfl).2,?_⟩;rw [Nat.zero_add];exact h.cells rfl i _ (bcells_at hx)
theorem take_snoc {α : Type} {l : List α} {i : Nat} {x : α} (h : l[i]? = some x) : l.take (i + 1) = l.take i ++ [x] := by rw [List.take_add_one, h]; rfl
theorem wsum_any {w : World} {lo : Nat} {v : Value} {ys : List UInt8} (h : OwnB w lo v ys.length (bcells ys)) (hl : ys.length ≤ 20000) (hlo : lo ≤ w.heap.size) :
    Calls Tryz.prog 26 #[v] w fun en w'=>∃ v',en=.returned v'∧BRow w' lo v' (ys++sumY (crcL ys))∧Step (RO v) (RO v') w w':=by
  obtain ⟨i0,hi,hz0,hz1,hz2⟩:=pInfoU;obtain ⟨a,c,rfl,hc⟩:=h.form;have H:Hid (OwnB w lo (.slice a ys.length c) ys.length (bcells ys)):=h;have hcs:crcL ys<4294967296:=crcL_ltB ys;have C:Hid (Calls Tryz.prog 15 #[.slice a ys.length c] w fun en w'=>en=.returned (.int .u32 (crcL ys))∧w'=w):=csum_any (ownB_bytes h) (by omega);generalize crcL ys=s at hcs C ⊢;have SB:Hid (∀ i,i<4→(sumY s)[i]?=some (UInt8.ofNat (s / 256 ^ i))):=fun i hi=>sum_bytes s hcs i hi;clear h hc;go_enter Tryz.func26,Tryz.ntmps26
  go_wp2_with fail
  refine C.out.mono ?_;rintro e' w' ⟨rfl,rfl⟩;clear C;go_wp2_with fail
  go_loopw [0,3,6] (fun v u r wr=>∃ i:Nat,r=.int .i64 i∧i≤4∧u=.int .u32 (s / 256 ^ i:Nat)∧OwnB wr lo v (ys++(sumY s).take i).length (bcells (ys++(sumY s).take i))∧(0<i→BRow wr lo v (ys++(sumY s).take i))∧Step (RO (.slice a ys.length c)) (RO v) w' wr) (fun _ _ r _=>4 - (intOf r).toNat)
  case atStart=>exact ⟨0,rfl,by decide,by simp,by simpa using H.out,fun h=>absurd h (Nat.lt_irrefl _),Step.refl _ _⟩
  case round =>
    obtain ⟨i,rfl,hi4,rfl,hb,hb2,hs⟩:=hrel;obtain ⟨a4,c4,rfl,hc4⟩:=hb.form;have B4:Hid (OwnB wr lo (.slice a4 (ys++(sumY s).take i).length c4) (ys++(sumY s).take i).length (bcells (ys++(sumY s).take i))):=hb;have C4:Hid (0<i→BRow wr lo (.slice a4 (ys++(sumY s).take i).length c4) (ys++(sumY s).take i)):=hb2;have S4:Hid (Step (RO (.slice a ys.length c)) (RO (.slice a4 (ys++(sumY s).take i).length c4)) w' wr):=hs;have hlen:(ys++(sumY s).take i).length≤20004:=by simp [sumY];omega
    have hlo4:lo≤wr.heap.size:=Nat.le_trans hlo hs.size;clear hb hb2 hs hc4 H;generalize hL:(ys++(sumY s).take i).length=L at hlen B4 C4 S4;have HL:Hid ((ys++(sumY s).take i).length=L):=hL;clear hL;by_cases hlt:i<4
    · have hlt':(i:Int)<4:=by omega
      have hx:=SB.out i hlt;have hd:s / 256 ^ i<4294967296:=Nat.lt_of_le_of_lt (Nat.div_le_self _ _) hcs;have hnx:Hid (s / 256 ^ (i+1)=s / 256 ^ i / 256):=by show _=_;rw [Nat.pow_succ,Nat.div_div_eq_div_mul]
      have hbx:((s / 256 ^ i:Nat):Int) % 256=((UInt8.ofNat (s / 256 ^ i)).toNat:Int):=by show _=((s / 256 ^ i % 256:Nat):Int);omega
      generalize UInt8.ofNat (s / 256 ^ i)=x at hx hbx;generalize s / 256 ^ i=t at hd hnx hbx;have ET:Hid ((sumY s).take (i+1)=(sumY s).take i++[x]):=take_snoc hx;have hown:Hid (OwnB wr lo (.slice a4 L c4) L (bcells (ys++(sumY s).take i))):=B4.out
      have PU:Hid (∀ g cap w9,w9.ownsRow lo 5 1 (.slice (some ⟨g,0,none⟩) (L+1) cap) (L+1) (bcells (ys++(sumY s).take i)++[.int .u8 (x.toNat:Int)])→(wr.alloc (.cells #[.int .u8 (x.toNat:Int)] 5)).grownBy w9 (Value.slice a4 L c4).ownBlock→((Value.slice a4 L c4).ownBlock=some g∨g=wr.heap.size+1) →
          BRow w9 lo (.slice (some ⟨g,0,none⟩) (L+1) cap) (ys++(sumY s).take (i+1))∧Step (RO (.slice a ys.length c)) (RO (.slice (some ⟨g,0,none⟩) (L+1) cap)) w' w9):=by
        have e:=HL.out;subst e;intro g cap w9 h1 h2 h3;rw [ET.out,← List.append_assoc]
        have:=BRow.grown h1 h2 h3
        exact ⟨this.1,S4.out.trans this.2⟩
      clear hx B4 S4 C4;go_wp2_with (at_builtin;refine wpList_append_m rfl (.tmp 8) (.tmp 11) rfl lo i0 pUnderU hi hz0 hz1 hz2 _ _ _ rfl (hown.out.alloc _) ⟨wr.heap.size,0,none⟩ 1 1 [.int .u8 (x.toNat:Int)] rfl rfl (newsP _ [_] _) (pOneU _) (by decide) (by unfold maxLen;omega) (by omega) (by simp;omega) (wr.heap.size+1) (by simp) ?_)
      intro g2 cap2 w9 h1 hgrow hat hlt1;have U:Hid (_∧_):=PU.out g2 cap2 w9 h1 hgrow hat;clear h1 hgrow hat hlt1 PU hown;go_wp2
      go_roundw
      case rel=>exact ⟨i+1,by simp,hlt,by rw [hnx.out];simp,.inl U.out.1,fun _=>U.out.1,U.out.2⟩
      case measure=>simp [intOf];omega
    · have hlt':¬ (i:Int)<4:=by omega
      have e:(sumY s).take i=sumY s:=List.take_of_length_le (by show 4≤i;omega)
      have B5:Hid (BRow wr lo (.slice a4 L c4) (ys++sumY s)):=by
        have h:=C4.out (by omega);rw [e] at h;exact h
      clear B4 C4;go_wp2
      go_ret;exact ⟨_,rfl,B5.out,S4.out⟩
theorem BRow.mono {w : World} {lo lo' : Nat} {v : Value} {ys : List UInt8} (h : BRow w lo v ys) (hl : lo' ≤ lo) : BRow w lo' v ys := by
  obtain ⟨h1,h2⟩:=h;refine ⟨h1,?_⟩;rcases h2 with h4 | ⟨g,cap,cur,e,hg,r⟩
  · exact .inl h4
  · exact .inr ⟨g,cap,cur,e,Nat.le_trans hl hg,r⟩
theorem enters_enc1 : Enters 24 := fun _ _ => by kernel_rfl
theorem cenc1_any {w : World} {b lo pb mb : Nat} {v : Value} {ys : List UInt8} {n : Nat} {m : List (MFunc n)} {p : Option Addr} {c : Nat} {TP TM : TypeId} (hp : Blk w pb #[ptrP b] TP) (hm : Blk w mb #[.slice p m.length c] TM) (hx : (modL n).In w (fun g => g < lo) m [.slice p m.length c]) (hsm : msmall m) (hy : yMod m) (hl : ys.length + 4 ≤ 20000) (h : WAt w b lo v ys) :
    Calls Tryz.prog 24 #[ptrP pb,ptrP mb] w fun en w'=>Put b lo v ys (listY MFunc.ybs m) w en w':=by
  have C:Hid (Calls Tryz.prog 25 #[ptrP b,.agg #[.slice p m.length c]] w fun en w'=>Put b lo v ys (listY MFunc.ybs m) w en w'):=wmod_any hx hsm hy hl h;have q0:=cellOf hp 0 _ rfl;have q1:=cellOf hm 0 _ rfl;clear h hl hx hsm hy hp hm;go_enter Tryz.func24,Tryz.ntmps24
  go_wp2_with fail
  refine C.out.mono ?_;intro e' w2 hO;have O:Hid (Put b lo v ys (listY MFunc.ybs m) w e' w2):=hO;rcases hO with ⟨v1,rfl,hl1,h1,s1⟩ | ⟨c',a',v',rfl,hc',hl',s'⟩
  rotate_left
  · exact ⟨rfl,O.out⟩
  clear hl1 h1 s1 C;go_wp2
  exact bodyPost_end (v:=.tuple #[]) (by simp [results,Tryz.results24,go_sem]) rfl O.out
def EncOut {n : Nat} (m : List (MFunc n)) (w : World) (en : Ending) (w' : World) : Prop :=
  ((∃ v,(modFault m).1=0∧(modY m).length+4≤20000∧en=.returned (.tuple #[v,.agg #[.int .i64 0,.int .i64 0]])∧BRow w' w.heap.size v (modY m++sumY (crcL (modY m)))) ∨
   (∃ c a:Int,c≠0∧((modFault m).1≠0∨20000<(modY m).length+4)∧en=.returned (.tuple #[.slice none 0 0,.agg #[.int .i64 c,.int .i64 a]])))∧Below w.heap.size w w'
theorem enc_result {w w3 : World} {f0 f1 : Value} {h : Nat} (B3 : Below w.heap.size w w3) (Y3 : Blk w3 (w.heap.size + 1) #[f0, f1] 30) (c a : Value) :
    Blk ((w3.setCell ⟨w.heap.size+1,0,none⟩ c).setCell ⟨w.heap.size+1,1,none⟩ a) (w.heap.size+1) #[c,a] 30∧Below w.heap.size w ((w3.setCell ⟨w.heap.size+1,0,none⟩ c).setCell ⟨w.heap.size+1,1,none⟩ a):=by
  refine ⟨?_,(B3.setCell (p:=⟨w.heap.size+1,0,none⟩) (Nat.le_succ _) c).setCell (p:=⟨w.heap.size+1,1,none⟩) (Nat.le_succ _) a⟩
  have:=blockSet (blockSet Y3 0 c) 1 a
  simpa [Blk] using this
theorem cencode_any {w : World} {n : Nat} {m : List (MFunc n)} {p : Option Addr} {c : Nat} (hx : (modL n).In w (fun _ => True) m [.slice p m.length c]) (hsm : msmall m) (hy : (modFault m).1 = 0 → yMod m) :
    Calls Tryz.prog 9 #[.agg #[.slice p m.length c]] w fun en w'=>EncOut m w en w':=by
  have hmf:∀ (fn:Fn) (first cap:Array Value) (w:World),(Instr.makeFunc fn first cap).run Tryz.prog w=.ok (.func fn first cap) w:=fun _ _ _ _=>rfl;have hfl:∀ (c a:Int) (w:World),(Instr.field 30 (.agg #[.int .i64 c,.int .i64 a]) 0).run Tryz.prog w=.ok (.int .i64 c) w:=fun _ _ _=>by kernel_rfl
  have SM:Hid (msmall m):=hsm;have HY:Hid ((modFault m).1=0→yMod m):=hy;have B0:Hid (Below w.heap.size w ((w.alloc (.cells #[.slice p m.length c] 24)).alloc (.cells #[.int .i64 0,.int .i64 0] 30))):=bel2 _ _ _;have X0:Hid (Blk ((w.alloc (.cells #[.slice p m.length c] 24)).alloc (.cells #[.int .i64 0,.int .i64 0] 30)) w.heap.size #[.slice p m.length c] 24):=Blk.new1 _ _ _ _ _;have Y0:Hid (Blk ((w.alloc (.cells #[.slice p m.length c] 24)).alloc (.cells #[.int .i64 0,.int .i64 0] 30)) (w.heap.size+1) #[.int .i64 0,.int .i64 0] 30):=Blk.new2 _ _ _ _;have I0:Hid ((modL n).In ((w.alloc (.cells #[.slice p m.length c] 24)).alloc (.cells #[.int .i64 0,.int .i64 0] 30)) (fun g=>g<w.heap.size) m [.slice p m.length c]):=Lay.alloc (Lay.alloc (Lay.mono hx (fun k _ hk=>hk)) _) _;clear hx hsm hy;go_enter Tryz.func9,Tryz.ntmps9
  go_upto_region 1 with fail
  generalize (w.alloc (.cells #[.slice p m.length c] 24)).alloc (.cells #[.int .i64 0,.int .i64 0] 30)=w1 at B0 X0 Y0 I0 ⊢;have x0:=cellOf X0.out 0 _ rfl;go_wp2_with fail
  refine Calls.mono (cCheck_any (Lay.mono I0.out (fun _ _ _=>trivial)) SM.out) ?_;rintro e' w2 ⟨rfl,b2⟩;have hw1:=Y0.out.lt;have B2:Hid (Below w.heap.size w w2):=B0.out.trans (b2.mono (by omega));have X2:Hid (Blk w2 w.heap.size #[.slice p m.length c] 24):=X0.out.below b2;have Y2:Hid (Blk w2 (w.heap.size+1) #[.int .i64 0,.int .i64 0] 30):=Y0.out.below b2;have I2:Hid ((modL n).In w2 (fun g=>g<w.heap.size) m [.slice p m.length c]):=Lay.below I0.out b2;have hw2:w.heap.size+1<w2.heap.size:=Y2.out.lt;clear B0 X0 Y0 I0 b2 hw1 x0;unfold faultV;generalize hfm:modFault m=fm;obtain ⟨fc,fa⟩:=fm;have FM:Hid (modFault m=(fc,fa)):=hfm;clear hfm;simp only
  by_cases hf:fc=0
  · subst hf;have YM:Hid (yMod m):=HY.out (by rw [FM.out]);generalize hB:w2.heap.size=B at hw2;have HB:Hid (w2.heap.size=B):=hB;clear hB;have W0:Hid (Below w.heap.size w ((((w2.alloc (.cells #[.int .i64 0,.int .i64 fa] 30)).alloc (.cells #[.int .u8 67,.int .u8 72,.int .u8 1] 5 (3,4))).alloc (.cells #[.slice (some ⟨B+1,0,none⟩) 3 3] 64)).alloc (.cells #[ptrP (B+1+1)] 62))):=(((B2.out.alloc (by have:=HB.out;omega) _).alloc (by simp [HB.out];omega) _).alloc (by simp [HB.out];omega) _).alloc (by simp [HB.out];omega) _;have X5:Hid (Blk ((((w2.alloc (.cells #[.int .i64 0,.int .i64 fa] 30)).alloc (.cells #[.int .u8 67,.int .u8 72,.int .u8 1] 5 (3,4))).alloc (.cells #[.slice (some ⟨B+1,0,none⟩) 3 3] 64)).alloc (.cells #[ptrP (B+1+1)] 62)) w.heap.size #[.slice p m.length c] 24):=(((X2.out.alloc _).alloc _).alloc _).alloc _;have Y5:Hid (Blk ((((w2.alloc (.cells #[.int .i64 0,.int .i64 fa] 30)).alloc (.cells #[.int .u8 67,.int .u8 72,.int .u8 1] 5 (3,4))).alloc (.cells #[.slice (some ⟨B+1,0,none⟩) 3 3] 64)).alloc (.cells #[ptrP (B+1+1)] 62)) (w.heap.size+1) #[.int .i64 0,.int .i64 0] 30):=(((Y2.out.alloc _).alloc _).alloc _).alloc _;have I5:Hid ((modL n).In ((((w2.alloc (.cells #[.int .i64 0,.int .i64 fa] 30)).alloc (.cells #[.int .u8 67,.int .u8 72,.int .u8 1] 5 (3,4))).alloc (.cells #[.slice (some ⟨B+1,0,none⟩) 3 3] 64)).alloc (.cells #[ptrP (B+1+1)] 62)) (fun g=>g<B+1) m [.slice p m.length c]):=Lay.alloc (Lay.alloc (Lay.alloc (Lay.alloc (Lay.mono I2.out (fun k hk _=>by omega)) _) _) _) _
    have A5:Hid (WAt ((((w2.alloc (.cells #[.int .i64 0,.int .i64 fa] 30)).alloc (.cells #[.int .u8 67,.int .u8 72,.int .u8 1] 5 (3,4))).alloc (.cells #[.slice (some ⟨B+1,0,none⟩) 3 3] 64)).alloc (.cells #[ptrP (B+1+1)] 62)) (B+1+1) (B+1) (.slice (some ⟨B+1,0,none⟩) 3 3) [67,72,1]):=by
      have e1:(w2.alloc (.cells #[.int .i64 0,.int .i64 fa] 30)).heap.size=B+1:=by simp [HB.out]
      have e2:((w2.alloc (.cells #[.int .i64 0,.int .i64 fa] 30)).alloc (.cells #[.int .u8 67,.int .u8 72,.int .u8 1] 5 (3,4))).heap.size=B+1+1:=by simp [HB.out]
      have hr:(((w2.alloc (.cells #[.int .i64 0,.int .i64 fa] 30)).alloc (.cells #[.int .u8 67,.int .u8 72,.int .u8 1] 5 (3,4)))).heap[(w2.alloc (.cells #[.int .i64 0,.int .i64 fa] 30)).heap.size]?=some (.cells #[.int .u8 67,.int .u8 72,.int .u8 1] 5 (3,4)):=heap_alloc_new _ _;have hw:=Blk.new ((w2.alloc (.cells #[.int .i64 0,.int .i64 fa] 30)).alloc (.cells #[.int .u8 67,.int .u8 72,.int .u8 1] 5 (3,4))) #[.slice (some ⟨B+1,0,none⟩) 3 3] 64;rw [e1] at hr;rw [e2] at hw;exact ⟨hw.alloc _,.inr ⟨B+1,#[.int .u8 67,.int .u8 72,.int .u8 1],(3,4),rfl,Nat.le_refl _,(Below.heap_alloc _ _ _ (by simp [HB.out])).trans ((Below.heap_alloc _ _ _ (by simp [HB.out])).trans hr),rfl,rfl,by decide⟩,by simp [Value.ownBlock],by omega⟩
    have P5:Hid (Blk ((((w2.alloc (.cells #[.int .i64 0,.int .i64 fa] 30)).alloc (.cells #[.int .u8 67,.int .u8 72,.int .u8 1] 5 (3,4))).alloc (.cells #[.slice (some ⟨B+1,0,none⟩) 3 3] 64)).alloc (.cells #[ptrP (B+1+1)] 62)) (B+1+1+1) #[ptrP (B+1+1)] 62):=by
      have h:=Blk.new (((w2.alloc (.cells #[.int .i64 0,.int .i64 fa] 30)).alloc (.cells #[.int .u8 67,.int .u8 72,.int .u8 1] 5 (3,4))).alloc (.cells #[.slice (some ⟨B+1,0,none⟩) 3 3] 64)) #[ptrP (B+1+1)] 62;have e:(((w2.alloc (.cells #[.int .i64 0,.int .i64 fa] 30)).alloc (.cells #[.int .u8 67,.int .u8 72,.int .u8 1] 5 (3,4))).alloc (.cells #[.slice (some ⟨B+1,0,none⟩) 3 3] 64)).heap.size=B+1+1+1:=by simp [HB.out]
      rw [e] at h;exact h
    have S5:Hid (((((w2.alloc (.cells #[.int .i64 0,.int .i64 fa] 30)).alloc (.cells #[.int .u8 67,.int .u8 72,.int .u8 1] 5 (3,4))).alloc (.cells #[.slice (some ⟨B+1,0,none⟩) 3 3] 64)).alloc (.cells #[ptrP (B+1+1)] 62)).heap.size=B+1+1+1+1):=by show _=_;simp [HB.out]
    have kc:(convert 25 25 (.slice (some ⟨w2.heap.size+1,0,none⟩) 3 3)).run Tryz.prog ((w2.alloc (.cells #[.int .i64 0,.int .i64 fa] 30)).alloc (.cells #[.int .u8 67,.int .u8 72,.int .u8 1] 5))=.ok (.slice (some ⟨w2.heap.size+1,0,none⟩) 3 3) ((w2.alloc (.cells #[.int .i64 0,.int .i64 fa] 30)).alloc (.cells #[.int .u8 67,.int .u8 72,.int .u8 1] 5 (3,4))) :=
      Go.Joins.run_convert_bytes_const_at (P:=Tryz.prog) (w2.alloc (.cells #[.int .i64 0,.int .i64 fa] 30)) 25 5 #[.int .u8 67,.int .u8 72,.int .u8 1] 3 3 (w2.heap.size+1) (by simp) Tryz.underlying25 Tryz.underlying5
    clear B2 X2 Y2 I2;go_upto_region 5 with fail
    rw [HB.out];clear kc;generalize ((((w2.alloc (.cells #[.int .i64 0,.int .i64 fa] 30)).alloc (.cells #[.int .u8 67,.int .u8 72,.int .u8 1] 5 (3,4))).alloc (.cells #[.slice (some ⟨B+1,0,none⟩) 3 3] 64)).alloc (.cells #[ptrP (B+1+1)] 62))=w5 at W0 X5 Y5 I5 A5 P5 S5 ⊢;have hs5:=S5.out;have NF:Hid (¬ WO (B+1+1) (.slice (some ⟨B+1,0,none⟩) 3 3) w5.heap.size):=A5.out.apart2 (Nat.le_refl _)
    have NP:Hid (¬ WO (B+1+1) (.slice (some ⟨B+1,0,none⟩) 3 3) (B+1+1+1)):=by
      show ¬ _;simp [WO,Value.ownBlock]
    go_wp2_with fail
    refine (caught_any 24 #[ptrP (B+1+1+1),ptrP w.heap.size] enters_enc1
      (fun w6=>∃ v,(modY m).length+4≤20000∧WAt w6 (B+1+1) (B+1) v (modY m)∧¬ WO (B+1+1) v w5.heap.size∧Blk w6 (B+1+1+1) #[ptrP (B+1+1)] 62∧Below (B+1) w5 w6)
      (fun w6=>20000<(modY m).length+4∧Below (B+1) w5 w6) ?_).mono ?_
    · refine (cenc1_any (P5.out.alloc _) (X5.out.alloc _) (Lay.alloc I5.out _) SM.out YM.out (by decide) (A5.out.alloc _)).mono ?_;intro e' w6 hO;have hwz:Blk (w5.alloc (.cells #[.int .i64 0,.int .i64 0] 30)) w5.heap.size #[.int .i64 0,.int .i64 0] 30:=Blk.new _ _ _
      have key:∀ v',Step (WO (B+1+1) (.slice (some ⟨B+1,0,none⟩) 3 3)) (WO (B+1+1) v') (w5.alloc (.cells #[.int .i64 0,.int .i64 0] 30)) w6→Below (B+1) w5 w6∧Blk w6 w5.heap.size #[.int .i64 0,.int .i64 0] 30∧¬ WO (B+1+1) v' w5.heap.size∧Blk w6 (B+1+1+1) #[ptrP (B+1+1)] 62:=fun v' st =>
        ⟨⟨st.os,st.tape,st.output,by have:=st.size;simp at this;omega,fun j hj=>(st.block j (by simp;omega) (A5.out.apart hj)).trans (Below.heap_alloc _ _ _ (by omega))⟩,hwz.step st NF.out,st.still hwz.lt NF.out,(P5.out.alloc _).step st NP.out⟩
      rcases hO with ⟨v',rfl,hl6,h6,s6⟩ | ⟨c',a',v',rfl,hc',hl',s6⟩
      · obtain ⟨k1,k2,k3,k4⟩:=key v' s6;exact ⟨k2,.inl ⟨rfl,v',hl6,h6,k3,k4,k1⟩⟩
      · obtain ⟨k1,k2,k3,k4⟩:=key v' s6;exact ⟨k2,.inr ⟨c',a',rfl,hc',hl',k1⟩⟩
    intro e' w7 hO;rcases hO with ⟨w6,⟨v6,hl6,h6,n6,p6,b6⟩,rfl,k7⟩ | ⟨w6,c6,a6,⟨hl6,b6⟩,rfl,hc6,k7⟩
    · have b7:Below (B+1) w5 w7:=⟨k7.os.trans b6.os,k7.tape.trans b6.tape,k7.output.trans b6.output,Nat.le_trans b6.size k7.size,fun j hj=>(k7.block j (by have:=b6.size;omega) (by omega)).trans (b6.block j hj)⟩;have hs7:w5.heap.size≤w7.heap.size:=b7.size;have W8:Hid (Below w.heap.size w (w7.alloc (.cells #[.int .i64 0,.int .i64 0] 30))):=(W0.out.trans (b7.mono (by omega))).alloc (by omega) _;have Y8:Hid (Blk (w7.alloc (.cells #[.int .i64 0,.int .i64 0] 30)) (w.heap.size+1) #[.int .i64 0,.int .i64 0] 30):=Blk.alloc ((b7.block _ (by omega)).trans Y5.out) _;have A8:Hid (WAt (w7.alloc (.cells #[.int .i64 0,.int .i64 0] 30)) (B+1+1) (B+1) v6 (modY m)):=(h6.keep (w':=w7) fun k hk=>k7.block k (h6.lt hk).2 (fun e=>by subst e;exact n6 hk)).alloc _;have P8:Hid (Blk (w7.alloc (.cells #[.int .i64 0,.int .i64 0] 30)) (B+1+1+1) #[ptrP (B+1+1)] 62):=(p6.chg k7 (by omega)).alloc _;have F8:Hid (Blk (w7.alloc (.cells #[.int .i64 0,.int .i64 0] 30)) w7.heap.size #[.int .i64 0,.int .i64 0] 30):=Blk.new _ _ _;have ML:Hid ((modY m).length+4≤20000):=hl6;clear k7 b6 b7 h6 n6 p6 hl6 W0 X5 Y5 I5 A5 P5 S5 NF NP;go_upto_region 6 with fail
      generalize hC:w7.heap.size=C at F8 hs7 ⊢;clear hC;generalize w7.alloc (.cells #[.int .i64 0,.int .i64 0] 30)=w8 at W8 Y8 A8 P8 F8 ⊢;obtain ⟨a8,c8,rfl⟩:=A8.out.form;have z0:=cellOf F8.out 0 _ rfl;have q0:=cellOf P8.out 0 _ rfl;have r0:=cellOf A8.out.blk 0 _ rfl;have hb8:=A8.out.blk.lt;go_wp2_with fail
      refine (wsum_any A8.out.own (by have:=ML.out;omega) (by omega)).mono ?_;rintro e' w9 ⟨v9,rfl,hr9,st9⟩;have R9:Hid (BRow w9 (B+1) v9 (modY m++sumY (crcL (modY m)))):=hr9;have nb:∀ k,k<B+1→¬ RO (.slice a8 (modY m).length c8) k:=fun k hk e=>by have:=(A8.out.lt (.inr e)).1;omega
      have Y9:Hid (Blk w9 (w.heap.size+1) #[.int .i64 0,.int .i64 0] 30):=Y8.out.step st9 (nb _ (by omega));have W9:Hid (Below w.heap.size w w9):=⟨st9.os.trans W8.out.os,st9.tape.trans W8.out.tape,st9.output.trans W8.out.output,Nat.le_trans W8.out.size st9.size,fun k hk=>(st9.block k (by have:=W8.out.size;omega) (nb k (by omega))).trans (W8.out.block k hk)⟩;have y0:=cellOf Y9.out 0 _ rfl;have y1:=cellOf Y9.out 1 _ rfl;have y2:=freeOf Y9.out 0;have y3:=freeOf Y9.out 1;have D1:=enc_result (h:=0) W9.out Y9.out (.int .i64 0) (.int .i64 0)
      have DR9:BRow ((w9.setCell ⟨w.heap.size+1,0,none⟩ (.int .i64 0)).setCell ⟨w.heap.size+1,1,none⟩ (.int .i64 0)) w.heap.size v9 (modY m++sumY (crcL (modY m))):=by
        obtain ⟨q1,q2⟩:=BRow.mono R9.out (lo':=w.heap.size) (by omega);refine ⟨q1,?_⟩;rcases q2 with h4 | ⟨g,cap,cur,e,hg,hh,r⟩
        · exact .inl h4
        · have hgB:B+1≤g:=by
            have:=World.ownsRow.lt R9.out g (by rw [e];rfl)
            exact this.1
          exact .inr ⟨g,cap,cur,e,hg,(Below.heap_setCell _ _ _ _ (by show g≠w.heap.size+1;omega)).trans ((Below.heap_setCell _ _ _ _ (by show g≠w.heap.size+1;omega)).trans hh),r⟩
      clear z0 q0 r0 hr9 st9 R9 A8 P8 F8 W8 Y8;go_wp2
      generalize (w9.setCell ⟨w.heap.size+1,0,none⟩ (.int .i64 0)).setCell ⟨w.heap.size+1,1,none⟩ (.int .i64 0)=w10 at D1 DR9 ⊢;have x1:=cellOf D1.1 0 _ rfl;have x2:=cellOf D1.1 1 _ rfl;exact bodyPost_ret (v:=.tuple #[v9,.agg #[.int .i64 0,.int .i64 0]]) (by simp [results,Tryz.results9,go_sem,x1,x2]) rfl ⟨.inl ⟨v9,by rw [FM.out],ML.out,rfl,DR9⟩,D1.2⟩
    · have b7:Below (B+1) w5 w7:=⟨k7.os.trans b6.os,k7.tape.trans b6.tape,k7.output.trans b6.output,Nat.le_trans b6.size k7.size,fun j hj=>(k7.block j (by have:=b6.size;omega) (by omega)).trans (b6.block j hj)⟩;have hs7:w5.heap.size≤w7.heap.size:=b7.size;have W8:Hid (Below w.heap.size w (w7.alloc (.cells #[.int .i64 c6,.int .i64 a6] 30))):=(W0.out.trans (b7.mono (by omega))).alloc (by omega) _;have Y8:Hid (Blk (w7.alloc (.cells #[.int .i64 c6,.int .i64 a6] 30)) (w.heap.size+1) #[.int .i64 0,.int .i64 0] 30):=Blk.alloc ((b7.block _ (by omega)).trans Y5.out) _;have F8:Hid (Blk (w7.alloc (.cells #[.int .i64 c6,.int .i64 a6] 30)) w7.heap.size #[.int .i64 c6,.int .i64 a6] 30):=Blk.new _ _ _;have ML:Hid (20000<(modY m).length+4):=hl6;have HC6:Hid (c6≠0):=hc6;clear k7 b6 b7 hl6 W0 X5 Y5 I5 A5 P5 S5 NF NP;go_upto_region 6 with fail
      generalize hC:w7.heap.size=C at F8 hs7 ⊢;clear hC;generalize w7.alloc (.cells #[.int .i64 c6,.int .i64 a6] 30)=w8 at W8 Y8 F8 ⊢;have y0:=cellOf Y8.out 0 _ rfl;have y1:=cellOf Y8.out 1 _ rfl;have y2:=freeOf Y8.out 0;have y3:=freeOf Y8.out 1;have z0:=cellOf F8.out 0 _ rfl;have z1:=cellOf F8.out 1 _ rfl;have n2:¬ w.heap.size+1=C:=by omega
      have D1:=enc_result (h:=0) W8.out Y8.out (.int .i64 c6) (.int .i64 a6);go_wp2_with fail
      go_region;generalize (w8.setCell ⟨w.heap.size+1,0,none⟩ (.int .i64 c6)).setCell ⟨w.heap.size+1,1,none⟩ (.int .i64 a6)=w9 at D1 ⊢;clear y0 y1 y2 y3 z0 z1 n2;go_wp2
      have x1:w9.drew.cell? ⟨w.heap.size+1,0,none⟩=_:=cellOf D1.1 0 _ rfl;have x2:w9.drew.cell? ⟨w.heap.size+1,1,none⟩=_:=cellOf D1.1 1 _ rfl;exact bodyPost_ret (v:=.tuple #[.slice none 0 0,.agg #[.int .i64 c6,.int .i64 a6]]) (by simp [results,Tryz.results9,go_sem,x1,x2]) rfl ⟨.inr ⟨c6,a6,HC6.out,.inr ML.out,rfl⟩,D1.2.drew⟩
  · have B3:Hid (Below w.heap.size w (w2.alloc (.cells #[.int .i64 fc,.int .i64 fa] 30))):=B2.out.alloc (by omega) _;have Y3:Hid (Blk (w2.alloc (.cells #[.int .i64 fc,.int .i64 fa] 30)) (w.heap.size+1) #[.int .i64 0,.int .i64 0] 30):=Y2.out.alloc _;have Z3:Hid (Blk (w2.alloc (.cells #[.int .i64 fc,.int .i64 fa] 30)) w2.heap.size #[.int .i64 fc,.int .i64 fa] 30):=Blk.new _ _ _;clear B2 X2 Y2 I2;go_upto_region 2 with fail
    generalize hB:w2.heap.size=B at Z3 hw2 ⊢;clear hB;generalize w2.alloc (.cells #[.int .i64 fc,.int .i64 fa] 30)=w3 at B3 Y3 Z3 ⊢;have y0:=cellOf Y3.out 0 _ rfl;have y1:=cellOf Y3.out 1 _ rfl;have y2:=freeOf Y3.out 0;have y3:=freeOf Y3.out 1;have z0:=cellOf Z3.out 0 _ rfl;have z1:=cellOf Z3.out 1 _ rfl;have n2:¬ w.heap.size+1=B:=by omega
    have D1:=enc_result (h:=0) B3.out Y3.out (.int .i64 fc) (.int .i64 fa);go_wp2_with fail
    go_region;generalize (w3.setCell ⟨w.heap.size+1,0,none⟩ (.int .i64 fc)).setCell ⟨w.heap.size+1,1,none⟩ (.int .i64 fa)=w9 at D1 ⊢;clear y0 y1 y2 y3 z0 z1 n2;go_wp2
    have x1:w9.drew.cell? ⟨w.heap.size+1,0,none⟩=_:=cellOf D1.1 0 _ rfl;have x2:w9.drew.cell? ⟨w.heap.size+1,1,none⟩=_:=cellOf D1.1 1 _ rfl;exact bodyPost_ret (v:=.tuple #[.slice none 0 0,.agg #[.int .i64 fc,.int .i64 fa]]) (by simp [results,Tryz.results9,go_sem,x1,x2]) rfl ⟨.inr ⟨fc,fa,hf,.inl (by rw [FM.out];exact hf),rfl⟩,D1.2.drew⟩
def InsQ1 (w : World) (b : Nat) (l : List UInt8) (p R B g : Nat) (z bc : Array Value) (T TP : TypeId) (o0 : Nat) (v : Value) (wr : World) : Prop :=
  Blk wr g #[.pointer (some ⟨B,o0,none⟩)] TP∧B<g∧((v=.int .i64 0∧GB w wr b l p R B z bc T)∨(v=.int .i64 1∧∃ x0 a0 c0 q0,lstD l.length (numD l.length) (l.drop p)=.ok (x0,l.drop q0)∧GB w wr b l q0 R B z (bc.setIfInBounds o0 (.slice a0 x0.length c0)) T∧Kid intsL B wr x0 [.slice a0 x0.length c0]))
def InsQ2 (w : World) (b : Nat) (l : List UInt8) (p R B g : Nat) (z bc : Array Value) (T TP : TypeId) (o0 o1 : Nat) (v : Value) (wr : World) : Prop :=
  Blk wr g #[.pointer (some ⟨B,o0,none⟩),.pointer (some ⟨B,o1,none⟩)] TP∧B<g∧((v=.int .i64 0∧GB w wr b l p R B z bc T)∨(v=.int .i64 1∧∃ x0 a0 c0 q0,lstD l.length (numD l.length) (l.drop p)=.ok (x0,l.drop q0)∧GB w wr b l q0 R B z (bc.setIfInBounds o0 (.slice a0 x0.length c0)) T∧Kid intsL B wr x0 [.slice a0 x0.length c0])∨(v=.int .i64 2∧∃ x0 a0 c0 q0 x1 a1 c1 q1,lstD l.length (numD l.length) (l.drop p)=.ok (x0,l.drop q0)∧lstD l.length (numD l.length) (l.drop q0)=.ok (x1,l.drop q1)∧GB w wr b l q1 R B z ((bc.setIfInBounds o0 (.slice a0 x0.length c0)).setIfInBounds o1 (.slice a1 x1.length c1)) T∧Kid intsL B wr x0 [.slice a0 x0.length c0]∧Kid intsL B wr x1 [.slice a1 x1.length c1]))
theorem cins_any {w : World} {b p : Nat} {l : List UInt8} (h : BAt w b l p) :
    Calls Tryz.prog 118 #[ptrP b] w fun en w'=>Got b l (insD l.length (l.drop p)) w (VIns w) en w':=by
  have hmf:∀ (fn:Fn) (first cap:Array Value) (w:World),(Instr.makeFunc fn first cap).run Tryz.prog w=.ok (.func fn first cap) w:=fun _ _ _ _=>rfl;have hbw:=h.lt;have F0:Hid (GB w ((w.alloc (.cells #[.int .i64 0,.int .i64 0,.int .i64 0,.int .i64 0,.int .i64 0,.int .i64 0,.slice none 0 0,.slice none 0 0] 57)).alloc (.cells #[.int .i64 0,.int .i64 0,.int .i64 0,.int .i64 0,.int .i64 0,.int .i64 0,.slice none 0 0,.slice none 0 0] 57)) b l p w.heap.size (w.heap.size+1) #[.int .i64 0,.int .i64 0,.int .i64 0,.int .i64 0,.int .i64 0,.int .i64 0,.slice none 0 0,.slice none 0 0] #[.int .i64 0,.int .i64 0,.int .i64 0,.int .i64 0,.int .i64 0,.int .i64 0,.slice none 0 0,.slice none 0 0] 57):=GB.start h;clear h;go_enter Tryz.func118,Tryz.ntmps118
  go_wp2_with fail
  refine (GB.callNums F0.out [0] (by simp) rfl (by decide) (by simp)).mono ?_;intro e' w1 hO;rcases hO with ⟨ns,p1,m1,rfl,hx1,r1,k1⟩ | ⟨y,c',a',m1,rfl,hc',k1⟩
  rotate_left
  · exact ⟨rfl,Got.bad (by rw [insD_eq,rep1_eq,show repD (numD l.length) 1 (l.drop p)=_ from m1];rfl) hc' k1⟩
  have hl1:=rep_len m1
  obtain ⟨op,rfl⟩:∃ op,ns=[op]:=by
    match ns,hl1 with
    | [op],_=>exact ⟨op,rfl⟩
  have Bop:Hid (i64r op):=hx1 op (by simp);have E1:Hid (repD (numD l.length) 1 (l.drop p)=.ok ([op],l.drop p1)):=m1;have G1:Hid (GB _ _ _ _ _ _ _ _ #[.int .i64 op,.int .i64 0,.int .i64 0,.int .i64 0,.int .i64 0,.int .i64 0,.slice none 0 0,.slice none 0 0] _):=r1;clear m1 r1 k1 hx1 hl1 F0;have HI:Hid (insD l.length (l.drop p)=insR l.length op (l.drop p1)):=by rw [insD_eq,rep1_eq,E1.out,DR.ok_andThen];rfl
  have yy:=cellOf G1.out.box 0 _ rfl;clear E1;go_wp2_with fail
  refine (numbersOf_any op yy).mono ?_;intro e' w2 hO
  have PR2:Hid (∃ a c,e'=.returned (.slice a (numOffs op).length c)∧PtrRow w2 (w.heap.size+1) (numOffs op) a b∧Below w1.heap.size w1 w2):=by
    have hbB:=G1.out.bR;have hBB:=G1.out.lt;rcases hO with ⟨e,rfl,hb⟩ | ⟨g,T,_,rfl,hg,hb,hbl⟩
    · exact ⟨none,0,by rw [e];rfl,by rw [e];exact fun i o ho=>by simp at ho,hb⟩
    · exact ⟨_,_,rfl,PtrRow.of hb (by omega) (by omega),hbl⟩
  obtain ⟨an,cn,rfl,pr2,b2⟩:=PR2.out;have G2:Hid (GB w w2 b l p1 w.heap.size (w.heap.size+1) #[.int .i64 0,.int .i64 0,.int .i64 0,.int .i64 0,.int .i64 0,.int .i64 0,.slice none 0 0,.slice none 0 0] #[.int .i64 op,.int .i64 0,.int .i64 0,.int .i64 0,.int .i64 0,.int .i64 0,.slice none 0 0,.slice none 0 0] 57):=G1.out.below b2;have P2:Hid (PtrRow w2 (w.heap.size+1) (numOffs op) an b):=pr2;have hN3:=(numOffs_lt op).2;generalize hNn:(numOffs op).length=Nn at hN3 ⊢;have HNn:Hid ((numOffs op).length=Nn):=hNn;clear PR2 hO b2 pr2 yy hNn G1;go_wp2_with fail
  refine (GB.callNums2 G2.out (numOffs op) P2.out (by simpa using (numOffs_lt op).1) HNn.out (by omega)).mono ?_;intro e' w3 hO;rcases hO with ⟨ns,p3,m3,rfl,hx3,r3,k3⟩ | ⟨y,c',a',m3,rfl,hc',k3⟩
  rotate_left
  · exact ⟨rfl,Got.bad (by rw [HI.out];exact ins_bad m3) hc' k3⟩
  have M3:Hid (repD (numD l.length) (numOffs op).length (l.drop p1)=.ok (ns,l.drop p3)):=m3;have X3:Hid (∀ x∈ns,i64r x):=hx3;have G3:Hid (GB w w3 b l p3 w.heap.size (w.heap.size+1) #[.int .i64 0,.int .i64 0,.int .i64 0,.int .i64 0,.int .i64 0,.int .i64 0,.slice none 0 0,.slice none 0 0] (putAll #[.int .i64 op,.int .i64 0,.int .i64 0,.int .i64 0,.int .i64 0,.int .i64 0,.slice none 0 0,.slice none 0 0] (numOffs op) ns) 57):=r3;clear P2 G2 m3 hx3 r3 k3 HNn hN3;by_cases h1:op=1
  · subst h1;have hl:=rep_len M3.out;obtain rfl:ns=[]:=List.length_eq_zero_iff.1 hl
    have hd:l.drop p1=l.drop p3:=by
      have h:=M3.out;injection h with h
      injection h with _ h
    have HE:Hid (insD l.length (l.drop p)=(numD l.length (l.drop p3)).andThen fun n r=>(.ok ((⟨1,0,0,0,0,n,[],[]⟩:MIns),r):DR MIns)):=by rw [HI.out,hd];rfl
    have G4:Hid (GB w w3 b l p3 w.heap.size (w.heap.size+1) #[.int .i64 0,.int .i64 0,.int .i64 0,.int .i64 0,.int .i64 0,.int .i64 0,.slice none 0 0,.slice none 0 0] #[.int .i64 1,.int .i64 0,.int .i64 0,.int .i64 0,.int .i64 0,.int .i64 0,.slice none 0 0,.slice none 0 0] 57):=G3.out;have yk:=cellOf G4.out.box 0 _ rfl;clear G3 M3 X3 hl hd HI;go_wp2_with fail
    refine (clong_any G4.out.rd).mono ?_;intro e' w4 hO;rcases hO with ⟨nv,p4,x4,m4,rfl,⟨rfl,hv4⟩,r4,k4⟩ | ⟨y,c',a',m4,rfl,hc',k4⟩
    rotate_left
    · exact ⟨rfl,Got.bad (by rw [HE.out,m4];rfl) hc' (G4.out.chg.trans k4)⟩
    have E4:Hid (numD l.length (l.drop p3)=.ok (nv,l.drop p4)):=m4;have V4:Hid (i64r nv):=hv4;have H4:=G4.out.call r4 k4;have G6:Hid (GB w (w4.setCell ⟨w.heap.size+1,5,none⟩ (.int .i64 nv)) b l p4 w.heap.size (w.heap.size+1) #[.int .i64 0,.int .i64 0,.int .i64 0,.int .i64 0,.int .i64 0,.int .i64 0,.slice none 0 0,.slice none 0 0] #[.int .i64 1,.int .i64 0,.int .i64 0,.int .i64 0,.int .i64 0,.int .i64 nv,.slice none 0 0,.slice none 0 0] 57):=GB.set H4 5 (.int .i64 nv);have yb:=cellOf H4.box 5 _ rfl;have zb:=freeOf H4.box 5;clear m4 r4 k4 H4 G4 yk hv4;go_upto_region 6 with fail
    clear yb zb;generalize w4.setCell ⟨w.heap.size+1,5,none⟩ (.int .i64 nv)=w7 at G6 ⊢;have yl:=cellOf G6.out.box 0 _ rfl;go_wp2_with fail
    refine (listsOf_any 1 yl).mono ?_;intro e' w5 hO
    have PR5:Hid (e'=.returned (.slice none 0 0)∧Below w7.heap.size w7 w5):=by
      rcases hO with ⟨_,rfl,hb⟩ | ⟨g,T,h0,_⟩
      · exact ⟨rfl,hb⟩
      · exact absurd (by decide:lstOffs 1=[]) h0
    obtain ⟨rfl,b5⟩:=PR5.out;have G5:Hid (GB w w5 b l p4 w.heap.size (w.heap.size+1) #[.int .i64 0,.int .i64 0,.int .i64 0,.int .i64 0,.int .i64 0,.int .i64 0,.slice none 0 0,.slice none 0 0] #[.int .i64 1,.int .i64 0,.int .i64 0,.int .i64 0,.int .i64 0,.int .i64 nv,.slice none 0 0,.slice none 0 0] 57):=G6.out.below b5;clear PR5 hO b5 yl G6;go_wp2_with fail
    go_loopw [21] (fun v wr=>v=.int .i64 0∧Hid (wr=w5)) (fun _ _=>0)
    case atStart=>exact ⟨rfl,(rfl:w5=w5)⟩
    case round =>
      obtain ⟨rfl,hw⟩:=hrel;have e:=hw.out;subst e;clear hw;obtain ⟨y0,y1,y2,y3,y4,y5,y6,y7⟩:=cells8 G5.out.box;obtain ⟨u0,u1,u2,u3,u4,u5,u6,u7⟩:=cells8 G5.out.res;obtain ⟨v0,v1,v2,v3,v4,v5,v6,v7⟩:=frees8 G5.out.res;have hne:¬ (w.heap.size+1)=w.heap.size:=by omega
      go_wp2
      have DD:Hid (GinD _ _ _ _ _ _ #[.int .i64 1,.int .i64 0,.int .i64 0,.int .i64 0,.int .i64 0,.int .i64 nv,.slice none 0 0,.slice none 0 0] ((((((((wr.setCell ⟨w.heap.size,0,none⟩ (.int .i64 1)).setCell ⟨w.heap.size,1,none⟩ (.int .i64 0)).setCell ⟨w.heap.size,2,none⟩ (.int .i64 0)).setCell ⟨w.heap.size,3,none⟩ (.int .i64 0)).setCell ⟨w.heap.size,4,none⟩ (.int .i64 0)).setCell ⟨w.heap.size,5,none⟩ (.int .i64 nv)).setCell ⟨w.heap.size,6,none⟩ (.slice none 0 0)).setCell ⟨w.heap.size,7,none⟩ (.slice none 0 0))):=GB.fin G5.out [.int .i64 1,.int .i64 0,.int .i64 0,.int .i64 0,.int .i64 0,.int .i64 nv,.slice none 0 0,.slice none 0 0] rfl;clear y0 u0 v0 y1 u1 v1 y2 u2 v2 y3 u3 v3 y4 u4 v4 y5 u5 v5 y6 u6 v6 y7 u7 v7;generalize ((((((((wr.setCell ⟨w.heap.size,0,none⟩ (.int .i64 1)).setCell ⟨w.heap.size,1,none⟩ (.int .i64 0)).setCell ⟨w.heap.size,2,none⟩ (.int .i64 0)).setCell ⟨w.heap.size,3,none⟩ (.int .i64 0)).setCell ⟨w.heap.size,4,none⟩ (.int .i64 0)).setCell ⟨w.heap.size,5,none⟩ (.int .i64 nv)).setCell ⟨w.heap.size,6,none⟩ (.slice none 0 0)).setCell ⟨w.heap.size,7,none⟩ (.slice none 0 0))=w9 at DD ⊢;obtain ⟨D1,D2,D3⟩:=DD.out;obtain ⟨x0,x1,x2,x3,x4,x5,x6,x7⟩:=cells8 D1;exact bodyPost_ret (v:=.agg #[.int .i64 1,.int .i64 0,.int .i64 0,.int .i64 0,.int .i64 0,.int .i64 nv,.slice none 0 0,.slice none 0 0]) (by simp [results,Tryz.results118,go_sem,x0,x1,x2,x3,x4,x5,x6,x7]) rfl (Got.good (by rw [HE.out,E4.out,DR.ok_andThen]) (⟨none,0,none,0,rfl,ins_mk (x:=⟨1,0,0,0,0,nv,[],[]⟩) (Lay.list_nil _ _ _ _ _) (Lay.list_nil _ _ _ _ _) ⟨lit64 1 rfl,lit64 0 rfl,lit64 0 rfl,lit64 0 rfl,lit64 0 rfl,V4.out⟩⟩) D2 D3)
  by_cases h5:op=5
  · subst h5;have hl:=rep_len M3.out
    obtain ⟨na,rfl⟩:∃ na,ns=[na]:=by
      match ns,hl with
      | [na],_=>exact ⟨na,rfl⟩
    have HE:Hid (insD l.length (l.drop p)=(lstD l.length (numD l.length) (l.drop p3)).andThen fun xs r=>(.ok ((⟨5,na,0,0,0,0,[],xs⟩:MIns),r):DR MIns)):=by
      rw [HI.out];exact (rep1_eq fun a r=>(lstD l.length (numD l.length) r).andThen fun xs r=>(.ok ((⟨5,a,0,0,0,0,[],xs⟩:MIns),r):DR MIns)).trans (congrArg (fun x=>DR.andThen x _) M3.out)
    have Bna:Hid (i64r na):=X3.out na (by simp);have G4:Hid (GB w w3 b l p3 w.heap.size (w.heap.size+1) #[.int .i64 0,.int .i64 0,.int .i64 0,.int .i64 0,.int .i64 0,.int .i64 0,.slice none 0 0,.slice none 0 0] #[.int .i64 5,.int .i64 na,.int .i64 0,.int .i64 0,.int .i64 0,.int .i64 0,.slice none 0 0,.slice none 0 0] 57):=G3.out;clear G3 M3 X3 hl HI h1;have yl:=cellOf G4.out.box 0 _ rfl;go_wp2_with fail
    refine (listsOf_any 5 yl).mono ?_;intro e' w5 hO
    have PR5:Hid (∃ g T,e'=.returned (.slice (some ⟨g,0,none⟩) 1 1)∧w3.heap.size≤g∧Blk w5 g #[.pointer (some ⟨w.heap.size+1,7,none⟩)] T∧Below w3.heap.size w3 w5):=by
      rcases hO with ⟨h0,_⟩ | ⟨g,T,_,rfl,hg,hb,hbl⟩
      · exact absurd h0 (by decide)
      · exact ⟨g,T,rfl,hg,hb,hbl⟩
    obtain ⟨gl,TP,rfl,hgl,hP5,b5⟩:=PR5.out;have G5:Hid (GB w w5 b l p3 w.heap.size (w.heap.size+1) #[.int .i64 0,.int .i64 0,.int .i64 0,.int .i64 0,.int .i64 0,.int .i64 0,.slice none 0 0,.slice none 0 0] #[.int .i64 5,.int .i64 na,.int .i64 0,.int .i64 0,.int .i64 0,.int .i64 0,.slice none 0 0,.slice none 0 0] 57):=G4.out.below b5;have P5:Hid (Blk w5 gl #[.pointer (some ⟨w.heap.size+1,7,none⟩)] TP):=hP5;have hgB:w.heap.size+1<gl:=by have:=G4.out.lt;omega
    clear PR5 hO b5 yl hP5 hgl G4;go_wp2_with fail
    go_loopw [21] (fun v wr=>InsQ1 w b l p3 w.heap.size (w.heap.size+1) gl #[.int .i64 0,.int .i64 0,.int .i64 0,.int .i64 0,.int .i64 0,.int .i64 0,.slice none 0 0,.slice none 0 0] #[.int .i64 5,.int .i64 na,.int .i64 0,.int .i64 0,.int .i64 0,.int .i64 0,.slice none 0 0,.slice none 0 0] 57 TP 7 v wr) (fun v _=>1 - (intOf v).toNat)
    case atStart=>exact ⟨P5.out,hgB,.inl ⟨rfl,G5.out⟩⟩
    case round =>
      obtain ⟨hP,_,hrel⟩:=hrel;have PP:Hid (Blk wr gl _ TP):=hP;clear hP P5 G5;rcases hrel with ⟨rfl,hG⟩ | ⟨rfl,xa,axa,cxa,q0,e0,hG,k0⟩
      · have GG:Hid (GB w wr b l p3 w.heap.size (w.heap.size+1) #[.int .i64 0,.int .i64 0,.int .i64 0,.int .i64 0,.int .i64 0,.int .i64 0,.slice none 0 0,.slice none 0 0] #[.int .i64 5,.int .i64 na,.int .i64 0,.int .i64 0,.int .i64 0,.int .i64 0,.slice none 0 0,.slice none 0 0] 57):=hG;clear hG;have yp:=cellOf PP.out 0 _ rfl;have hbB:=GG.out.lt;go_wp2_with fail
        refine (cints_any GG.out.rd).mono ?_;intro e' w6 hO;rcases hO with ⟨xa,p6,x6,m6,rfl,⟨axa,cxa,rfl,hi6⟩,r6,k6⟩ | ⟨y,c',a',m6,rfl,hc',k6⟩
        rotate_left
        · exact ⟨rfl,Got.bad (by rw [HE.out,m6];rfl) hc' (GG.out.chg.trans k6)⟩
        have E6:Hid (lstD l.length (numD l.length) (l.drop p3)=.ok (xa,l.drop p6)):=m6;have G6:=GG.out.call r6 k6;have K6:Hid (Kid intsL (w.heap.size+1) (w6.setCell ⟨w.heap.size+1,7,none⟩ (.slice axa xa.length cxa)) xa [.slice axa xa.length cxa]):=Kid.set (Kid.mk hi6 GG.out.lt) (q:=⟨w.heap.size+1,7,none⟩) (Nat.le_refl _) _;have G7:Hid (GB w (w6.setCell ⟨w.heap.size+1,7,none⟩ (.slice axa xa.length cxa)) b l p6 w.heap.size (w.heap.size+1) #[.int .i64 0,.int .i64 0,.int .i64 0,.int .i64 0,.int .i64 0,.int .i64 0,.slice none 0 0,.slice none 0 0] #[.int .i64 5,.int .i64 na,.int .i64 0,.int .i64 0,.int .i64 0,.int .i64 0,.slice none 0 0,.slice axa xa.length cxa] 57):=GB.set G6 7 (.slice axa xa.length cxa);have P7:Hid (Blk (w6.setCell ⟨w.heap.size+1,7,none⟩ (.slice axa xa.length cxa)) gl _ TP):=(PP.out.chg k6 (by omega)).setOther (p:=⟨w.heap.size+1,7,none⟩) (by show w.heap.size+1≠gl;omega) _;have yb:=cellOf G6.box 7 _ rfl;have zb:=freeOf G6.box 7;clear m6 hi6 r6 k6 G6 GG PP yp;go_wp2
        go_roundw
        case rel=>exact ⟨P7.out,hgB,.inr (⟨rfl,xa,axa,cxa,p6,E6.out,G7.out,K6.out⟩)⟩
        case measure=>simp [intOf]
      · have GG:Hid (GB w wr b l q0 w.heap.size (w.heap.size+1) #[.int .i64 0,.int .i64 0,.int .i64 0,.int .i64 0,.int .i64 0,.int .i64 0,.slice none 0 0,.slice none 0 0] #[.int .i64 5,.int .i64 na,.int .i64 0,.int .i64 0,.int .i64 0,.int .i64 0,.slice none 0 0,.slice axa xa.length cxa] 57):=hG;have EE0:Hid (lstD l.length (numD l.length) (l.drop p3)=.ok (xa,l.drop q0)):=e0;have Kxa:Hid (Kid intsL (w.heap.size+1) wr xa [.slice axa xa.length cxa]):=k0;clear hG e0 k0;obtain ⟨y0,y1,y2,y3,y4,y5,y6,y7⟩:=cells8 GG.out.box;obtain ⟨u0,u1,u2,u3,u4,u5,u6,u7⟩:=cells8 GG.out.res;obtain ⟨v0,v1,v2,v3,v4,v5,v6,v7⟩:=frees8 GG.out.res;have hne:¬ (w.heap.size+1)=w.heap.size:=by omega
        go_wp2
        have DD:Hid (GinD _ _ _ _ _ _ #[.int .i64 5,.int .i64 na,.int .i64 0,.int .i64 0,.int .i64 0,.int .i64 0,.slice none 0 0,.slice axa xa.length cxa] ((((((((wr.setCell ⟨w.heap.size,0,none⟩ (.int .i64 5)).setCell ⟨w.heap.size,1,none⟩ (.int .i64 na)).setCell ⟨w.heap.size,2,none⟩ (.int .i64 0)).setCell ⟨w.heap.size,3,none⟩ (.int .i64 0)).setCell ⟨w.heap.size,4,none⟩ (.int .i64 0)).setCell ⟨w.heap.size,5,none⟩ (.int .i64 0)).setCell ⟨w.heap.size,6,none⟩ (.slice none 0 0)).setCell ⟨w.heap.size,7,none⟩ (.slice axa xa.length cxa))):=GB.fin GG.out [.int .i64 5,.int .i64 na,.int .i64 0,.int .i64 0,.int .i64 0,.int .i64 0,.slice none 0 0,.slice axa xa.length cxa] rfl;have DKxa:Hid (Kid _ _ ((((((((wr.setCell ⟨w.heap.size,0,none⟩ (.int .i64 5)).setCell ⟨w.heap.size,1,none⟩ (.int .i64 na)).setCell ⟨w.heap.size,2,none⟩ (.int .i64 0)).setCell ⟨w.heap.size,3,none⟩ (.int .i64 0)).setCell ⟨w.heap.size,4,none⟩ (.int .i64 0)).setCell ⟨w.heap.size,5,none⟩ (.int .i64 0)).setCell ⟨w.heap.size,6,none⟩ (.slice none 0 0)).setCell ⟨w.heap.size,7,none⟩ (.slice axa xa.length cxa)) _ _):=Kid.sets Kxa.out (by omega) [.int .i64 5,.int .i64 na,.int .i64 0,.int .i64 0,.int .i64 0,.int .i64 0,.slice none 0 0,.slice axa xa.length cxa] 0;clear Kxa;clear y0 u0 v0 y1 u1 v1 y2 u2 v2 y3 u3 v3 y4 u4 v4 y5 u5 v5 y6 u6 v6 y7 u7 v7;generalize ((((((((wr.setCell ⟨w.heap.size,0,none⟩ (.int .i64 5)).setCell ⟨w.heap.size,1,none⟩ (.int .i64 na)).setCell ⟨w.heap.size,2,none⟩ (.int .i64 0)).setCell ⟨w.heap.size,3,none⟩ (.int .i64 0)).setCell ⟨w.heap.size,4,none⟩ (.int .i64 0)).setCell ⟨w.heap.size,5,none⟩ (.int .i64 0)).setCell ⟨w.heap.size,6,none⟩ (.slice none 0 0)).setCell ⟨w.heap.size,7,none⟩ (.slice axa xa.length cxa))=w9 at DD DKxa ⊢;obtain ⟨D1,D2,D3⟩:=DD.out;obtain ⟨x0,x1,x2,x3,x4,x5,x6,x7⟩:=cells8 D1;exact bodyPost_ret (v:=.agg #[.int .i64 5,.int .i64 na,.int .i64 0,.int .i64 0,.int .i64 0,.int .i64 0,.slice none 0 0,.slice axa xa.length cxa]) (by simp [results,Tryz.results118,go_sem,x0,x1,x2,x3,x4,x5,x6,x7]) rfl (Got.good (by rw [HE.out,EE0.out,DR.ok_andThen]) (⟨none,0,axa,cxa,rfl,ins_mk (x:=⟨5,na,0,0,0,0,[],xa⟩) (Lay.list_nil _ _ _ _ _) (Kid.out DKxa.out (by omega)) ⟨lit64 5 rfl,Bna.out,lit64 0 rfl,lit64 0 rfl,lit64 0 rfl,lit64 0 rfl⟩⟩) D2 D3)
  by_cases h14:op=14
  · subst h14;have hl:=rep_len M3.out
    obtain ⟨na,rfl⟩:∃ na,ns=[na]:=by
      match ns,hl with
      | [na],_=>exact ⟨na,rfl⟩
    have HE:Hid (insD l.length (l.drop p)=(lstD l.length (numD l.length) (l.drop p3)).andThen fun rs r=>(lstD l.length (numD l.length) r).andThen fun xs r=>(.ok ((⟨14,0,0,0,na,0,rs,xs⟩:MIns),r):DR MIns)):=by
      rw [HI.out];exact (rep1_eq fun a r=>(lstD l.length (numD l.length) r).andThen fun rs r=>(lstD l.length (numD l.length) r).andThen fun xs r=>(.ok ((⟨14,0,0,0,a,0,rs,xs⟩:MIns),r):DR MIns)).trans (congrArg (fun x=>DR.andThen x _) M3.out)
    have Bna:Hid (i64r na):=X3.out na (by simp);have G4:Hid (GB w w3 b l p3 w.heap.size (w.heap.size+1) #[.int .i64 0,.int .i64 0,.int .i64 0,.int .i64 0,.int .i64 0,.int .i64 0,.slice none 0 0,.slice none 0 0] #[.int .i64 14,.int .i64 0,.int .i64 0,.int .i64 0,.int .i64 na,.int .i64 0,.slice none 0 0,.slice none 0 0] 57):=G3.out;clear G3 M3 X3 hl HI h1 h5;have yl:=cellOf G4.out.box 0 _ rfl;go_wp2_with fail
    refine (listsOf_any 14 yl).mono ?_;intro e' w5 hO
    have PR5:Hid (∃ g T,e'=.returned (.slice (some ⟨g,0,none⟩) 2 2)∧w3.heap.size≤g∧Blk w5 g #[.pointer (some ⟨w.heap.size+1,6,none⟩),.pointer (some ⟨w.heap.size+1,7,none⟩)] T∧Below w3.heap.size w3 w5):=by
      rcases hO with ⟨h0,_⟩ | ⟨g,T,_,rfl,hg,hb,hbl⟩
      · exact absurd h0 (by decide)
      · exact ⟨g,T,rfl,hg,hb,hbl⟩
    obtain ⟨gl,TP,rfl,hgl,hP5,b5⟩:=PR5.out;have G5:Hid (GB w w5 b l p3 w.heap.size (w.heap.size+1) #[.int .i64 0,.int .i64 0,.int .i64 0,.int .i64 0,.int .i64 0,.int .i64 0,.slice none 0 0,.slice none 0 0] #[.int .i64 14,.int .i64 0,.int .i64 0,.int .i64 0,.int .i64 na,.int .i64 0,.slice none 0 0,.slice none 0 0] 57):=G4.out.below b5;have P5:Hid (Blk w5 gl #[.pointer (some ⟨w.heap.size+1,6,none⟩),.pointer (some ⟨w.heap.size+1,7,none⟩)] TP):=hP5;have hgB:w.heap.size+1<gl:=by have:=G4.out.lt;omega
    clear PR5 hO b5 yl hP5 hgl G4;go_wp2_with fail
    go_loopw [21] (fun v wr=>InsQ2 w b l p3 w.heap.size (w.heap.size+1) gl #[.int .i64 0,.int .i64 0,.int .i64 0,.int .i64 0,.int .i64 0,.int .i64 0,.slice none 0 0,.slice none 0 0] #[.int .i64 14,.int .i64 0,.int .i64 0,.int .i64 0,.int .i64 na,.int .i64 0,.slice none 0 0,.slice none 0 0] 57 TP 6 7 v wr) (fun v _=>2 - (intOf v).toNat)
    case atStart=>exact ⟨P5.out,hgB,.inl ⟨rfl,G5.out⟩⟩
    case round =>
      obtain ⟨hP,_,hrel⟩:=hrel;have PP:Hid (Blk wr gl _ TP):=hP;clear hP P5 G5;rcases hrel with ⟨rfl,hG⟩ | ⟨rfl,xr,axr,cxr,q0,e0,hG,k0⟩ | ⟨rfl,xr,axr,cxr,q0,xa,axa,cxa,q1,e0,e1,hG,k0,k1⟩
      · have GG:Hid (GB w wr b l p3 w.heap.size (w.heap.size+1) #[.int .i64 0,.int .i64 0,.int .i64 0,.int .i64 0,.int .i64 0,.int .i64 0,.slice none 0 0,.slice none 0 0] #[.int .i64 14,.int .i64 0,.int .i64 0,.int .i64 0,.int .i64 na,.int .i64 0,.slice none 0 0,.slice none 0 0] 57):=hG;clear hG;have yp:=cellOf PP.out 0 _ rfl;have hbB:=GG.out.lt;go_wp2_with fail
        refine (cints_any GG.out.rd).mono ?_;intro e' w6 hO;rcases hO with ⟨xr,p6,x6,m6,rfl,⟨axr,cxr,rfl,hi6⟩,r6,k6⟩ | ⟨y,c',a',m6,rfl,hc',k6⟩
        rotate_left
        · exact ⟨rfl,Got.bad (by rw [HE.out,m6];rfl) hc' (GG.out.chg.trans k6)⟩
        have E6:Hid (lstD l.length (numD l.length) (l.drop p3)=.ok (xr,l.drop p6)):=m6;have G6:=GG.out.call r6 k6;have K6:Hid (Kid intsL (w.heap.size+1) (w6.setCell ⟨w.heap.size+1,6,none⟩ (.slice axr xr.length cxr)) xr [.slice axr xr.length cxr]):=Kid.set (Kid.mk hi6 GG.out.lt) (q:=⟨w.heap.size+1,6,none⟩) (Nat.le_refl _) _;have G7:Hid (GB w (w6.setCell ⟨w.heap.size+1,6,none⟩ (.slice axr xr.length cxr)) b l p6 w.heap.size (w.heap.size+1) #[.int .i64 0,.int .i64 0,.int .i64 0,.int .i64 0,.int .i64 0,.int .i64 0,.slice none 0 0,.slice none 0 0] #[.int .i64 14,.int .i64 0,.int .i64 0,.int .i64 0,.int .i64 na,.int .i64 0,.slice axr xr.length cxr,.slice none 0 0] 57):=GB.set G6 6 (.slice axr xr.length cxr);have P7:Hid (Blk (w6.setCell ⟨w.heap.size+1,6,none⟩ (.slice axr xr.length cxr)) gl _ TP):=(PP.out.chg k6 (by omega)).setOther (p:=⟨w.heap.size+1,6,none⟩) (by show w.heap.size+1≠gl;omega) _;have yb:=cellOf G6.box 6 _ rfl;have zb:=freeOf G6.box 6;clear m6 hi6 r6 k6 G6 GG PP yp;go_wp2
        go_roundw
        case rel=>exact ⟨P7.out,hgB,.inr (.inl ⟨rfl,xr,axr,cxr,p6,E6.out,G7.out,K6.out⟩)⟩
        case measure=>simp [intOf]
      · have GG:Hid (GB w wr b l q0 w.heap.size (w.heap.size+1) #[.int .i64 0,.int .i64 0,.int .i64 0,.int .i64 0,.int .i64 0,.int .i64 0,.slice none 0 0,.slice none 0 0] #[.int .i64 14,.int .i64 0,.int .i64 0,.int .i64 0,.int .i64 na,.int .i64 0,.slice axr xr.length cxr,.slice none 0 0] 57):=hG;have EE0:Hid (lstD l.length (numD l.length) (l.drop p3)=.ok (xr,l.drop q0)):=e0;have Kxr:Hid (Kid intsL (w.heap.size+1) wr xr [.slice axr xr.length cxr]):=k0;clear hG e0 k0;have yp:=cellOf PP.out 1 _ rfl;have hbB:=GG.out.lt;go_wp2_with fail
        refine (cints_any GG.out.rd).mono ?_;intro e' w6 hO;rcases hO with ⟨xa,p6,x6,m6,rfl,⟨axa,cxa,rfl,hi6⟩,r6,k6⟩ | ⟨y,c',a',m6,rfl,hc',k6⟩
        rotate_left
        · exact ⟨rfl,Got.bad (by rw [HE.out,EE0.out,DR.ok_andThen,m6];rfl) hc' (GG.out.chg.trans k6)⟩
        have E6:Hid (lstD l.length (numD l.length) (l.drop q0)=.ok (xa,l.drop p6)):=m6;have G6:=GG.out.call r6 k6;have K6:Hid (Kid intsL (w.heap.size+1) (w6.setCell ⟨w.heap.size+1,7,none⟩ (.slice axa xa.length cxa)) xa [.slice axa xa.length cxa]):=Kid.set (Kid.mk hi6 GG.out.lt) (q:=⟨w.heap.size+1,7,none⟩) (Nat.le_refl _) _;have Kxr':Hid (Kid intsL (w.heap.size+1) (w6.setCell ⟨w.heap.size+1,7,none⟩ (.slice axa xa.length cxa)) xr [.slice axr xr.length cxr]):=Kid.set (Kxr.out.chg k6 (by omega)) (q:=⟨w.heap.size+1,7,none⟩) (Nat.le_refl _) _;have G7:Hid (GB w (w6.setCell ⟨w.heap.size+1,7,none⟩ (.slice axa xa.length cxa)) b l p6 w.heap.size (w.heap.size+1) #[.int .i64 0,.int .i64 0,.int .i64 0,.int .i64 0,.int .i64 0,.int .i64 0,.slice none 0 0,.slice none 0 0] #[.int .i64 14,.int .i64 0,.int .i64 0,.int .i64 0,.int .i64 na,.int .i64 0,.slice axr xr.length cxr,.slice axa xa.length cxa] 57):=GB.set G6 7 (.slice axa xa.length cxa);have P7:Hid (Blk (w6.setCell ⟨w.heap.size+1,7,none⟩ (.slice axa xa.length cxa)) gl _ TP):=(PP.out.chg k6 (by omega)).setOther (p:=⟨w.heap.size+1,7,none⟩) (by show w.heap.size+1≠gl;omega) _;have yb:=cellOf G6.box 7 _ rfl;have zb:=freeOf G6.box 7;clear m6 hi6 r6 k6 G6 GG PP yp Kxr;go_wp2
        go_roundw
        case rel=>exact ⟨P7.out,hgB,.inr (.inr (⟨rfl,xr,axr,cxr,q0,xa,axa,cxa,p6,EE0.out,E6.out,G7.out,Kxr'.out,K6.out⟩))⟩
        case measure=>simp [intOf]
      · have GG:Hid (GB w wr b l q1 w.heap.size (w.heap.size+1) #[.int .i64 0,.int .i64 0,.int .i64 0,.int .i64 0,.int .i64 0,.int .i64 0,.slice none 0 0,.slice none 0 0] #[.int .i64 14,.int .i64 0,.int .i64 0,.int .i64 0,.int .i64 na,.int .i64 0,.slice axr xr.length cxr,.slice axa xa.length cxa] 57):=hG;have EE0:Hid (lstD l.length (numD l.length) (l.drop p3)=.ok (xr,l.drop q0)):=e0;have Kxr:Hid (Kid intsL (w.heap.size+1) wr xr [.slice axr xr.length cxr]):=k0;have EE1:Hid (lstD l.length (numD l.length) (l.drop q0)=.ok (xa,l.drop q1)):=e1;have Kxa:Hid (Kid intsL (w.heap.size+1) wr xa [.slice axa xa.length cxa]):=k1;clear hG e0 k0 e1 k1;obtain ⟨y0,y1,y2,y3,y4,y5,y6,y7⟩:=cells8 GG.out.box;obtain ⟨u0,u1,u2,u3,u4,u5,u6,u7⟩:=cells8 GG.out.res;obtain ⟨v0,v1,v2,v3,v4,v5,v6,v7⟩:=frees8 GG.out.res;have hne:¬ (w.heap.size+1)=w.heap.size:=by omega
        go_wp2
        have DD:Hid (GinD _ _ _ _ _ _ #[.int .i64 14,.int .i64 0,.int .i64 0,.int .i64 0,.int .i64 na,.int .i64 0,.slice axr xr.length cxr,.slice axa xa.length cxa] ((((((((wr.setCell ⟨w.heap.size,0,none⟩ (.int .i64 14)).setCell ⟨w.heap.size,1,none⟩ (.int .i64 0)).setCell ⟨w.heap.size,2,none⟩ (.int .i64 0)).setCell ⟨w.heap.size,3,none⟩ (.int .i64 0)).setCell ⟨w.heap.size,4,none⟩ (.int .i64 na)).setCell ⟨w.heap.size,5,none⟩ (.int .i64 0)).setCell ⟨w.heap.size,6,none⟩ (.slice axr xr.length cxr)).setCell ⟨w.heap.size,7,none⟩ (.slice axa xa.length cxa))):=GB.fin GG.out [.int .i64 14,.int .i64 0,.int .i64 0,.int .i64 0,.int .i64 na,.int .i64 0,.slice axr xr.length cxr,.slice axa xa.length cxa] rfl;have DKxr:Hid (Kid _ _ ((((((((wr.setCell ⟨w.heap.size,0,none⟩ (.int .i64 14)).setCell ⟨w.heap.size,1,none⟩ (.int .i64 0)).setCell ⟨w.heap.size,2,none⟩ (.int .i64 0)).setCell ⟨w.heap.size,3,none⟩ (.int .i64 0)).setCell ⟨w.heap.size,4,none⟩ (.int .i64 na)).setCell ⟨w.heap.size,5,none⟩ (.int .i64 0)).setCell ⟨w.heap.size,6,none⟩ (.slice axr xr.length cxr)).setCell ⟨w.heap.size,7,none⟩ (.slice axa xa.length cxa)) _ _):=Kid.sets Kxr.out (by omega) [.int .i64 14,.int .i64 0,.int .i64 0,.int .i64 0,.int .i64 na,.int .i64 0,.slice axr xr.length cxr,.slice axa xa.length cxa] 0;clear Kxr;have DKxa:Hid (Kid _ _ ((((((((wr.setCell ⟨w.heap.size,0,none⟩ (.int .i64 14)).setCell ⟨w.heap.size,1,none⟩ (.int .i64 0)).setCell ⟨w.heap.size,2,none⟩ (.int .i64 0)).setCell ⟨w.heap.size,3,none⟩ (.int .i64 0)).setCell ⟨w.heap.size,4,none⟩ (.int .i64 na)).setCell ⟨w.heap.size,5,none⟩ (.int .i64 0)).setCell ⟨w.heap.size,6,none⟩ (.slice axr xr.length cxr)).setCell ⟨w.heap.size,7,none⟩ (.slice axa xa.length cxa)) _ _):=Kid.sets Kxa.out (by omega) [.int .i64 14,.int .i64 0,.int .i64 0,.int .i64 0,.int .i64 na,.int .i64 0,.slice axr xr.length cxr,.slice axa xa.length cxa] 0;clear Kxa;clear y0 u0 v0 y1 u1 v1 y2 u2 v2 y3 u3 v3 y4 u4 v4 y5 u5 v5 y6 u6 v6 y7 u7 v7;generalize ((((((((wr.setCell ⟨w.heap.size,0,none⟩ (.int .i64 14)).setCell ⟨w.heap.size,1,none⟩ (.int .i64 0)).setCell ⟨w.heap.size,2,none⟩ (.int .i64 0)).setCell ⟨w.heap.size,3,none⟩ (.int .i64 0)).setCell ⟨w.heap.size,4,none⟩ (.int .i64 na)).setCell ⟨w.heap.size,5,none⟩ (.int .i64 0)).setCell ⟨w.heap.size,6,none⟩ (.slice axr xr.length cxr)).setCell ⟨w.heap.size,7,none⟩ (.slice axa xa.length cxa))=w9 at DD DKxr DKxa ⊢;obtain ⟨D1,D2,D3⟩:=DD.out;obtain ⟨x0,x1,x2,x3,x4,x5,x6,x7⟩:=cells8 D1;exact bodyPost_ret (v:=.agg #[.int .i64 14,.int .i64 0,.int .i64 0,.int .i64 0,.int .i64 na,.int .i64 0,.slice axr xr.length cxr,.slice axa xa.length cxa]) (by simp [results,Tryz.results118,go_sem,x0,x1,x2,x3,x4,x5,x6,x7]) rfl (Got.good (by rw [HE.out,EE0.out,DR.ok_andThen,EE1.out,DR.ok_andThen]) (⟨axr,cxr,axa,cxa,rfl,ins_mk (x:=⟨14,0,0,0,na,0,xr,xa⟩) (Kid.out DKxr.out (by omega)) (Kid.out DKxa.out (by omega)) ⟨lit64 14 rfl,lit64 0 rfl,lit64 0 rfl,lit64 0 rfl,Bna.out,lit64 0 rfl⟩⟩) D2 D3)
  obtain ⟨ka,kb,kc,kk,ra,rb,rc,rk,eb,ei⟩:=plain_ins l.length op (l.drop p1) h1 h5 h14 ns (l.drop p3) M3.out X3.out;have HE:Hid (insD l.length (l.drop p)=.ok ((⟨op,ka,kb,kc,kk,0,[],[]⟩:MIns),l.drop p3)):=by rw [HI.out];exact ei
  have RR:Hid (i64r ka∧i64r kb∧i64r kc∧i64r kk):=⟨ra,rb,rc,rk⟩;have G4:Hid (GB w w3 b l p3 w.heap.size (w.heap.size+1) #[.int .i64 0,.int .i64 0,.int .i64 0,.int .i64 0,.int .i64 0,.int .i64 0,.slice none 0 0,.slice none 0 0] #[.int .i64 op,.int .i64 ka,.int .i64 kb,.int .i64 kc,.int .i64 kk,.int .i64 0,.slice none 0 0,.slice none 0 0] 57):=by rw [← eb];exact G3.out
  have h1':¬ op=1:=h1
  have hlo:lstOffs op=[]:=by
    unfold lstOffs;rw [if_neg h5,if_neg h14]
  have HLO:Hid (lstOffs op=[]):=hlo;clear G3 M3 X3 HI ra rb rc rk eb ei hlo h1 h5 h14;have yl:=cellOf G4.out.box 0 _ rfl;go_wp2_with fail
  refine (listsOf_any op yl).mono ?_;intro e' w5 hO
  have PR5:Hid (e'=.returned (.slice none 0 0)∧Below w3.heap.size w3 w5):=by
    rcases hO with ⟨_,rfl,hb⟩ | ⟨g,T,h0,_⟩
    · exact ⟨rfl,hb⟩
    · exact absurd HLO.out h0
  obtain ⟨rfl,b5⟩:=PR5.out;have G5:Hid (GB w w5 b l p3 w.heap.size (w.heap.size+1) #[.int .i64 0,.int .i64 0,.int .i64 0,.int .i64 0,.int .i64 0,.int .i64 0,.slice none 0 0,.slice none 0 0] #[.int .i64 op,.int .i64 ka,.int .i64 kb,.int .i64 kc,.int .i64 kk,.int .i64 0,.slice none 0 0,.slice none 0 0] 57):=G4.out.below b5;clear PR5 hO b5 yl G4;go_wp2_with fail
  go_loopw [21] (fun v wr=>v=.int .i64 0∧Hid (wr=w5)) (fun _ _=>0)
  case atStart=>exact ⟨rfl,(rfl:w5=w5)⟩
  case round =>
    obtain ⟨rfl,hw⟩:=hrel;have e:=hw.out;subst e;clear hw;obtain ⟨y0,y1,y2,y3,y4,y5,y6,y7⟩:=cells8 G5.out.box;obtain ⟨u0,u1,u2,u3,u4,u5,u6,u7⟩:=cells8 G5.out.res;obtain ⟨v0,v1,v2,v3,v4,v5,v6,v7⟩:=frees8 G5.out.res;have hne:¬ (w.heap.size+1)=w.heap.size:=by omega
    go_wp2
    have DD:Hid (GinD _ _ _ _ _ _ #[.int .i64 op,.int .i64 ka,.int .i64 kb,.int .i64 kc,.int .i64 kk,.int .i64 0,.slice none 0 0,.slice none 0 0] ((((((((wr.setCell ⟨w.heap.size,0,none⟩ (.int .i64 op)).setCell ⟨w.heap.size,1,none⟩ (.int .i64 ka)).setCell ⟨w.heap.size,2,none⟩ (.int .i64 kb)).setCell ⟨w.heap.size,3,none⟩ (.int .i64 kc)).setCell ⟨w.heap.size,4,none⟩ (.int .i64 kk)).setCell ⟨w.heap.size,5,none⟩ (.int .i64 0)).setCell ⟨w.heap.size,6,none⟩ (.slice none 0 0)).setCell ⟨w.heap.size,7,none⟩ (.slice none 0 0))):=GB.fin G5.out [.int .i64 op,.int .i64 ka,.int .i64 kb,.int .i64 kc,.int .i64 kk,.int .i64 0,.slice none 0 0,.slice none 0 0] rfl;clear y0 u0 v0 y1 u1 v1 y2 u2 v2 y3 u3 v3 y4 u4 v4 y5 u5 v5 y6 u6 v6 y7 u7 v7;generalize ((((((((wr.setCell ⟨w.heap.size,0,none⟩ (.int .i64 op)).setCell ⟨w.heap.size,1,none⟩ (.int .i64 ka)).setCell ⟨w.heap.size,2,none⟩ (.int .i64 kb)).setCell ⟨w.heap.size,3,none⟩ (.int .i64 kc)).setCell ⟨w.heap.size,4,none⟩ (.int .i64 kk)).setCell ⟨w.heap.size,5,none⟩ (.int .i64 0)).setCell ⟨w.heap.size,6,none⟩ (.slice none 0 0)).setCell ⟨w.heap.size,7,none⟩ (.slice none 0 0))=w9 at DD ⊢;obtain ⟨D1,D2,D3⟩:=DD.out;obtain ⟨x0,x1,x2,x3,x4,x5,x6,x7⟩:=cells8 D1;exact bodyPost_ret (v:=.agg #[.int .i64 op,.int .i64 ka,.int .i64 kb,.int .i64 kc,.int .i64 kk,.int .i64 0,.slice none 0 0,.slice none 0 0]) (by simp [results,Tryz.results118,go_sem,x0,x1,x2,x3,x4,x5,x6,x7]) rfl (Got.good (by rw [HE.out]) (⟨none,0,none,0,rfl,ins_mk (x:=⟨op,ka,kb,kc,kk,0,[],[]⟩) (Lay.list_nil _ _ _ _ _) (Lay.list_nil _ _ _ _ _) ⟨Bop.out,RR.out.1,RR.out.2.1,RR.out.2.2.1,RR.out.2.2.2,lit64 0 rfl⟩⟩) D2 D3)
theorem cto_any {w : World} {b p : Nat} {l : List UInt8} (h : BAt w b l p) :
    Calls Tryz.prog 136 #[ptrP b] w fun en w'=>Got b l (toD l.length (l.drop p)) w (VTo w) en w':=by
  have hmf:∀ (fn:Fn) (first cap:Array Value) (w:World),(Instr.makeFunc fn first cap).run Tryz.prog w=.ok (.func fn first cap) w:=fun _ _ _ _=>rfl;have hbw:=h.lt;have F0:Hid (GB w ((w.alloc (.cells #[.int .i64 0,.slice none 0 0,.slice none 0 0] 51)).alloc (.cells #[.int .i64 0,.slice none 0 0,.slice none 0 0] 51)) b l p w.heap.size (w.heap.size+1) #[.int .i64 0,.slice none 0 0,.slice none 0 0] #[.int .i64 0,.slice none 0 0,.slice none 0 0] 51):=GB.start h;clear h;go_enter Tryz.func136,Tryz.ntmps136
  go_wp2_with fail
  refine (GB.callNums F0.out [0] (by simp) rfl (by decide) (by simp)).mono ?_;intro e' w1 hO;rcases hO with ⟨ns,p1,m1,rfl,hx1,r1,k1⟩ | ⟨y,c',a',m1,rfl,hc',k1⟩
  rotate_left
  · exact ⟨rfl,Got.bad (by rw [toD,rep1_eq,show repD (numD l.length) 1 (l.drop p)=_ from m1];rfl) hc' k1⟩
  have hl1:=rep_len m1
  obtain ⟨nb,rfl⟩:∃ nb,ns=[nb]:=by
    match ns,hl1 with
    | [nb],_=>exact ⟨nb,rfl⟩
  have Bnb:Hid (i64r nb):=hx1 nb (by simp);have E1:Hid (repD (numD l.length) 1 (l.drop p)=.ok ([nb],l.drop p1)):=m1;have G1:Hid (GB _ _ _ _ _ _ _ _ #[.int .i64 nb,.slice none 0 0,.slice none 0 0] _):=r1;clear m1 r1 k1 hx1 hl1 F0;go_wp2_with fail
  refine (cints_any G1.out.rd).mono ?_;intro e' w2 hO;rcases hO with ⟨xs,p2,x2,m2,rfl,⟨ax,cx,rfl,hi2⟩,r2,k2⟩ | ⟨y,c',a',m2,rfl,hc',k2⟩
  rotate_left
  · exact ⟨rfl,Got.bad (by rw [toD,rep1_eq,E1.out,DR.ok_andThen,m2];rfl) hc' (G1.out.chg.trans k2)⟩
  have E2:Hid (lstD l.length (numD l.length) (l.drop p1)=.ok (xs,l.drop p2)):=m2;have G2:Hid (GB _ _ _ _ _ _ _ _ _ _):=G1.out.call r2 k2;have Kxs:Hid (Kid intsL (w.heap.size+1) w2 xs [.slice ax xs.length cx]):=Kid.mk hi2 G1.out.lt;clear hi2;clear m2 r2 k2 G1;have y1:=cellOf G2.out.box 1 _ rfl;have z1:=freeOf G2.out.box 1;go_wp2_with fail
  have G3:Hid (GB _ (w2.setCell ⟨(w.heap.size+1),1,none⟩ (.slice ax xs.length cx)) _ _ _ _ _ _ #[.int .i64 nb,.slice ax xs.length cx,.slice none 0 0] _):=(GB.set G2.out 1 (.slice ax xs.length cx));have KxsG3:Hid (Kid _ _ (w2.setCell ⟨(w.heap.size+1),1,none⟩ (.slice ax xs.length cx)) _ _):=(Kid.set Kxs.out (q:=⟨(w.heap.size+1),1,none⟩) (Nat.le_refl _) _);clear Kxs;generalize (w2.setCell ⟨(w.heap.size+1),1,none⟩ (.slice ax xs.length cx))=w3 at G3 KxsG3 ⊢;clear y1 z1 G2;refine (cints_any G3.out.rd).mono ?_;intro e' w4 hO;rcases hO with ⟨ys,p4,x4,m4,rfl,⟨ay,cy,rfl,hi4⟩,r4,k4⟩ | ⟨y,c',a',m4,rfl,hc',k4⟩
  rotate_left
  · exact ⟨rfl,Got.bad (by rw [toD,rep1_eq,E1.out,DR.ok_andThen,E2.out,DR.ok_andThen,m4];rfl) hc' (G3.out.chg.trans k4)⟩
  have E4:Hid (lstD l.length (numD l.length) (l.drop p2)=.ok (ys,l.drop p4)):=m4;have G4:Hid (GB _ _ _ _ _ _ _ _ _ _):=G3.out.call r4 k4;have KxsG35_:Hid (Kid _ _ _ _ _):=KxsG3.out.chg k4 (by omega);clear KxsG3;have Kys:Hid (Kid intsL (w.heap.size+1) w4 ys [.slice ay ys.length cy]):=Kid.mk hi4 G3.out.lt;clear hi4;clear m4 r4 k4 G3;obtain ⟨y0,y1,y2⟩:=cells3 G4.out.box;obtain ⟨u0,u1,u2⟩:=cells3 G4.out.res;obtain ⟨v0,v1,v2⟩:=frees3 G4.out.res;have z2:=freeOf G4.out.box 2;have hne:¬ (w.heap.size+1)=w.heap.size:=by omega
  go_wp2
  have DD:Hid (GinD _ _ _ _ _ _ #[.int .i64 nb,.slice ax xs.length cx,.slice ay ys.length cy] ((((w4.setCell ⟨(w.heap.size+1),2,none⟩ (.slice ay ys.length cy)).setCell ⟨w.heap.size,0,none⟩ (.int .i64 nb)).setCell ⟨w.heap.size,1,none⟩ (.slice ax xs.length cx)).setCell ⟨w.heap.size,2,none⟩ (.slice ay ys.length cy))):=GB.fin (GB.set G4.out 2 (.slice ay ys.length cy)) [.int .i64 nb,.slice ax xs.length cx,.slice ay ys.length cy] rfl;have DKxsG35_:Hid (Kid _ _ ((((w4.setCell ⟨(w.heap.size+1),2,none⟩ (.slice ay ys.length cy)).setCell ⟨w.heap.size,0,none⟩ (.int .i64 nb)).setCell ⟨w.heap.size,1,none⟩ (.slice ax xs.length cx)).setCell ⟨w.heap.size,2,none⟩ (.slice ay ys.length cy)) _ _):=Kid.sets (Kid.set KxsG35_.out (q:=⟨(w.heap.size+1),2,none⟩) (Nat.le_refl _) _) (by omega) [.int .i64 nb,.slice ax xs.length cx,.slice ay ys.length cy] 0;clear KxsG35_;have DKys:Hid (Kid _ _ ((((w4.setCell ⟨(w.heap.size+1),2,none⟩ (.slice ay ys.length cy)).setCell ⟨w.heap.size,0,none⟩ (.int .i64 nb)).setCell ⟨w.heap.size,1,none⟩ (.slice ax xs.length cx)).setCell ⟨w.heap.size,2,none⟩ (.slice ay ys.length cy)) _ _):=Kid.sets (Kid.set Kys.out (q:=⟨(w.heap.size+1),2,none⟩) (Nat.le_refl _) _) (by omega) [.int .i64 nb,.slice ax xs.length cx,.slice ay ys.length cy] 0;clear Kys;clear y0 u0 v0 y1 u1 v1 y2 u2 v2;generalize ((((w4.setCell ⟨(w.heap.size+1),2,none⟩ (.slice ay ys.length cy)).setCell ⟨w.heap.size,0,none⟩ (.int .i64 nb)).setCell ⟨w.heap.size,1,none⟩ (.slice ax xs.length cx)).setCell ⟨w.heap.size,2,none⟩ (.slice ay ys.length cy))=w9 at DD DKxsG35_ DKys ⊢;obtain ⟨D1,D2,D3⟩:=DD.out;obtain ⟨x0,x1,x2⟩:=cells3 D1;exact bodyPost_ret (v:=.agg #[.int .i64 nb,.slice ax xs.length cx,.slice ay ys.length cy]) (by simp [results,Tryz.results136,go_sem,x0,x1,x2]) rfl (Got.good (by rw [toD,rep1_eq,E1.out,DR.ok_andThen,E2.out,DR.ok_andThen,E4.out,DR.ok_andThen];rfl) (⟨ax,cx,ay,cy,rfl,to_mk (x:=⟨nb,xs,ys⟩) (Kid.out DKxsG35_.out (by omega)) (Kid.out DKys.out (by omega)) Bnb.out⟩) D2 D3)
end Go.Proofs.YtjdcjfpfpaplladGreat
