/-
  The chapter on tokens as plain functions on lists of bytes.
-/
import Derived.Lib.ParseIntB
import Derived.Lib.ItoaLen
namespace Go.Proofs.YtlahoehngnebnacDoor
set_option linter.unusedVariables false
set_option linter.unusedSimpArgs false

def blB (c : UInt8) : Bool := c.toNat == 32 || c.toNat == 9 || c.toNat == 13 || c.toNat == 10
def rmB (c : UInt8) : Bool := c.toNat != 10
def letB (c : UInt8) : Bool := decide (97 ≤ c.toNat) && decide (c.toNat ≤ 122)
def digB (c : UInt8) : Bool := decide (48 ≤ c.toNat) && decide (c.toNat ≤ 57)
def sigB (c : UInt8) : Bool := ([40, 41, 123, 125, 60, 62, 44, 59] : List Nat).contains c.toNat

/-- How many bytes of a kind a list begins with. -/
def pre (p : UInt8 → Bool) : List UInt8 → Nat
  | [] => 0
  | c :: l => if p c then pre p l + 1 else 0

theorem pre_le (p : UInt8 → Bool) : ∀ l, pre p l ≤ l.length
  | [] => Nat.le_refl _
  | c :: l => by
    have := pre_le p l
    simp only [pre, List.length_cons]
    split <;> omega
theorem pre_yes {p : UInt8 → Bool} {c : UInt8} {l : List UInt8} (h : p c = true) : pre p (c :: l) = pre p l + 1 := by simp [pre, h]
theorem pre_no {p : UInt8 → Bool} {c : UInt8} {l : List UInt8} (h : p c = false) : pre p (c :: l) = 0 := by simp [pre, h]
/-- The first bytes of a kind, then one of another. -/
theorem pre_cut {p : UInt8 → Bool} {d : UInt8} {r : List UInt8} (hd : p d = false) : ∀ l, pre p (l.take (pre p l) ++ d :: r) = pre p l
  | [] => by simp [pre, hd]
  | c :: l => by
    cases h : p c with
    | true =>
      rw [pre_yes h, List.take_succ_cons, List.cons_append, pre_yes h, pre_cut hd l]
    | false => rw [pre_no h]; simp [pre, hd]

/-- How many bytes of blanks and remarks a list begins with (true: within a remark). -/
def blk : Bool → List UInt8 → Nat
  | _, [] => 0
  | false, c :: l => if blB c then blk false l + 1 else if c.toNat = 35 then blk true l + 1 else 0
  | true, c :: l => if c.toNat = 10 then blk false l + 1 else blk true l + 1

theorem blk_le : ∀ (l : List UInt8) (b : Bool), blk b l ≤ l.length
  | [], b => by cases b <;> simp [blk]
  | c :: l, b => by
    have h1 := blk_le l true
    have h2 := blk_le l false
    cases b <;> simp only [blk, List.length_cons] <;> split <;> (try split) <;> omega
theorem blk_rem : ∀ l : List UInt8, blk true l = pre rmB l + blk false (l.drop (pre rmB l))
  | [] => by simp [blk, pre]
  | c :: l => by
    have ih := blk_rem l
    by_cases h : c.toNat = 10
    · have h1 : rmB c = false := by simp [rmB, h]
      have h2 : blB c = true := by simp [blB, h]
      simp [blk, pre, h, h1, h2]
    · have h1 : rmB c = true := by simp [rmB, h]
      simp only [blk, pre, h, h1, if_true, if_false, List.drop_succ_cons, ih]
      omega
theorem blk_blank {c : UInt8} {l : List UInt8} (h : blB c = true) : blk false (c :: l) = blk false l + 1 := by simp [blk, h]
/-- A remark: behind its bytes up to the line's end. -/
theorem blk_remark {c : UInt8} {l : List UInt8} (h : c.toNat = 35) : blk false (c :: l) = pre rmB (c :: l) + blk false ((c :: l).drop (pre rmB (c :: l))) := by
  have h1 : blB c = false := by simp [blB, h]
  have h2 : rmB c = true := by simp [rmB, h]
  rw [pre_yes h2, List.drop_succ_cons]
  simp only [blk, h1, h, if_true, Bool.false_eq_true, if_false, blk_rem l]
  omega
theorem blk_none {c : UInt8} {l : List UInt8} (h1 : blB c = false) (h2 : c.toNat ≠ 35) : blk false (c :: l) = 0 := by simp [blk, h1, h2]

structure Tk where
  pos : Nat
  text : List UInt8
  num : Bool
  n : Int
  deriving DecidableEq

/-- A number, as short as can be. -/
def numOf (l : List UInt8) : Option Int :=
  match Lib.parseIntB 64 l with
  | .ok v => if Lib.itoa v = l then some v else none
  | .syntax => none
  | .range => none

/-- Of the token that begins here: its length (0: none begins), and whether it is a number. -/
def tokLen : List UInt8 → Nat × Bool
  | [] => (0, false)
  | c :: l =>
    if letB c then (pre letB (c :: l), false)
    else if sigB c then (1, false)
    else if c.toNat = 45 ∧ l.head?.any (fun d => d.toNat == 62) = true then (2, false)
    else if digB c = true ∨ (c.toNat = 45 ∧ l.head?.any digB = true) then (pre digB l + 1, true)
    else (0, false)

inductive TkR where
  | bad (code : Nat)
  | ok (len : Nat) (num : Bool) (n : Int)
  deriving DecidableEq

def tok (l : List UInt8) : TkR :=
  if (tokLen l).1 = 0 then .bad 6
  else if (tokLen l).2 then
    match numOf (l.take (tokLen l).1) with
    | some v => .ok (tokLen l).1 true v
    | none => .bad 8
  else .ok (tokLen l).1 false 0

inductive Sc where
  | fault (code at_ : Nat)
  | ok (l : List Tk)
  deriving DecidableEq

def Sc.app (acc : List Tk) : Sc → Sc
  | .fault c a => .fault c a
  | .ok l => .ok (acc ++ l)
theorem Sc.app_nil (r : Sc) : r.app [] = r := by cases r <;> rfl
theorem Sc.app_app (a b : List Tk) (r : Sc) : (r.app b).app a = r.app (a ++ b) := by cases r <;> simp [Sc.app]

/-- The tokens from a place on at which no blank stands. -/
def scanF : Nat → Nat → List UInt8 → Sc
  | 0, _, _ => .ok []
  | f + 1, pos, l =>
    if l = [] then .ok []
    else match tok l with
      | .bad c => .fault c pos
      | .ok k b n => (scanF f (pos + k + blk false (l.drop k)) ((l.drop k).drop (blk false (l.drop k)))).app [⟨pos, l.take k, b, n⟩]

def scanL (l : List UInt8) : Sc := if 40000 < l.length then .fault 2 40000 else scanF (l.length + 1) (blk false l) (l.drop (blk false l))

theorem tokLen_le (l : List UInt8) : (tokLen l).1 ≤ l.length := by
  cases l with
  | nil => simp [tokLen]
  | cons c l =>
    have h1 := pre_le letB (c :: l)
    have h2 := pre_le digB l
    simp only [tokLen]
    split
    · exact h1
    · split
      · simp
      · split
        · rename_i h
          cases l with
          | nil => simp at h
          | cons d l => simp
        · split
          · simpa using h2
          · simp
theorem tok_pos {l : List UInt8} {k : Nat} {b : Bool} {n : Int} (h : tok l = .ok k b n) : 1 ≤ k ∧ k ≤ l.length ∧ k = (tokLen l).1 := by
  have h0 := tokLen_le l
  unfold tok at h
  split at h
  · cases h
  · split at h
    · split at h
      · injection h; omega
      · cases h
    · injection h; omega
/-- The scan does not hang on how much fuel there is. -/
theorem scanF_fuel : ∀ (f g pos : Nat) (l : List UInt8), l.length < f → l.length < g → scanF f pos l = scanF g pos l
  | 0, g, pos, l, hf, hg => by omega
  | f + 1, 0, pos, l, hf, hg => by omega
  | f + 1, g + 1, pos, l, hf, hg => by
    unfold scanF
    split
    · rfl
    · split
      · rfl
      · rename_i k b n e
        have := tok_pos e
        rw [scanF_fuel f g _ _ (by simp only [List.length_drop]; omega) (by simp only [List.length_drop]; omega)]

/-! ### There and back -/
/-- What a token's text begins with is no blank and no remark. -/
theorem tok_head {c : UInt8} {l : List UInt8} {k : Nat} {b : Bool} {n : Int} (h : tok (c :: l) = .ok k b n) : blB c = false ∧ c.toNat ≠ 35 := by
  have hne : (tokLen (c :: l)).1 ≠ 0 := by have := tok_pos h; omega
  have hx : ¬ (c.toNat = 32 ∨ c.toNat = 9 ∨ c.toNat = 13 ∨ c.toNat = 10 ∨ c.toNat = 35) := by
    intro hx
    apply hne
    have h1 : letB c = false := by simp [letB]; omega
    have h2 : sigB c = false := by simp [sigB]; omega
    have h3 : digB c = false := by simp [digB]; omega
    have h4 : c.toNat ≠ 45 := by omega
    simp [tokLen, h1, h2, h3, h4]
  refine ⟨?_, by omega⟩
  simp [blB]; omega
theorem tok_cut {l r : List UInt8} {k : Nat} {b : Bool} {n : Int} (h : tok l = .ok k b n) : tok (l.take k ++ 32 :: r) = .ok k b n := by
  obtain ⟨h1, h2, h3⟩ := tok_pos h
  have hl : letB 32 = false := rfl
  have hd : digB 32 = false := rfl
  have key : tokLen (l.take k ++ 32 :: r) = tokLen l := by
    subst h3
    cases l with
    | nil => simp at h2; omega
    | cons c l =>
      by_cases e1 : letB c = true
      · have : tokLen (c :: l) = (pre letB (c :: l), false) := by simp [tokLen, e1]
        rw [this]
        have e := pre_cut (r := r) hl (c :: l)
        rw [pre_yes e1, List.take_succ_cons, List.cons_append] at *
        simp only [tokLen, e1, if_true, e]
      · have e1' : letB c = false := by simpa using e1
        by_cases e2 : sigB c = true
        · have : tokLen (c :: l) = (1, false) := by simp [tokLen, e1', e2]
          rw [this]; simp [tokLen, e1', e2]
        · have e2' : sigB c = false := by simpa using e2
          by_cases e3 : c.toNat = 45 ∧ l.head?.any (fun d => d.toNat == 62) = true
          · have : tokLen (c :: l) = (2, false) := by simp only [tokLen, e1', e2', e3]; simp
            rw [this]
            cases l with
            | nil => simp at e3
            | cons d l =>
              have e4 : d.toNat = 62 := by simpa using e3.2
              simp [tokLen, e1', e2', e3.1, e4]
          · by_cases e4 : digB c = true ∨ (c.toNat = 45 ∧ l.head?.any digB = true)
            · have : tokLen (c :: l) = (pre digB l + 1, true) := by simp only [tokLen, e1', e2', if_neg e3, if_pos e4]; simp
              rw [this]
              have e := pre_cut (r := r) hd l
              rw [List.take_succ_cons, List.cons_append]
              have e5 : ¬ (c.toNat = 45 ∧ (l.take (pre digB l) ++ 32 :: r).head?.any (fun d => d.toNat == 62) = true) := by
                rintro ⟨a, b⟩
                rcases e4 with e4 | ⟨_, e4⟩
                · simp [digB, a] at e4
                · cases l with
                  | nil => simp at e4
                  | cons d l =>
                    have e4' : digB d = true := by simpa using e4
                    rw [pre_yes e4', List.take_succ_cons] at b
                    simp at b
                    simp [digB, b] at e4'
              have e6 : digB c = true ∨ (c.toNat = 45 ∧ (l.take (pre digB l) ++ 32 :: r).head?.any digB = true) := by
                rcases e4 with e4 | ⟨a, e4⟩
                · exact .inl e4
                · refine .inr ⟨a, ?_⟩
                  cases l with
                  | nil => simp at e4
                  | cons d l =>
                    have e4' : digB d = true := by simpa using e4
                    rw [pre_yes e4', List.take_succ_cons]
                    simpa using e4'
              simp only [tokLen, e1', e2', if_neg e5, if_pos e6, e]
              simp
            · exfalso
              have : tokLen (c :: l) = (0, false) := by simp only [tokLen, e1', e2', if_neg e3, if_neg e4, Bool.false_eq_true, if_false]
              rw [this] at h1; simp at h1
  have ht : (l.take k ++ 32 :: r).take k = l.take k := by rw [List.take_append_of_le_length (by rw [List.length_take]; omega), List.take_take, Nat.min_self]
  rw [← h]
  unfold tok
  rw [key]
  by_cases e0 : (tokLen l).1 = 0
  · omega
  · rw [← h3, ht]

/-- The texts of tokens, a remark behind each. -/
def backL : List Tk → List UInt8
  | [] => []
  | t :: ts => t.text ++ [32, 35, 32, 45, 10] ++ backL ts
/-- But for the places, the same tokens. -/
def sameTk (x y : Tk) : Prop := x.text = y.text ∧ x.num = y.num ∧ x.n = y.n
/-- A token that can be read. -/
def Tk.good (t : Tk) : Prop := ∃ l, tok l = .ok t.text.length t.num t.n ∧ t.text = l.take t.text.length
theorem scanF_good : ∀ (f pos : Nat) (l : List UInt8) (ts : List Tk), l.length < f → scanF f pos l = .ok ts → (∀ t ∈ ts, t.good) ∧ (ts.map (fun t => t.text.length)).sum ≤ l.length ∧ (∀ t ∈ ts, 1 ≤ t.text.length)
  | 0, pos, l, ts, hf, h => by omega
  | f + 1, pos, l, ts, hf, h => by
    unfold scanF at h
    split at h
    · injection h with h; subst h; simp
    · split at h
      · cases h
      · rename_i k b n e
        have hp := tok_pos e
        cases e2 : scanF f (pos + k + blk false (l.drop k)) ((l.drop k).drop (blk false (l.drop k))) with
        | fault c a => rw [e2] at h; cases h
        | ok us =>
          rw [e2] at h
          injection h with h
          subst h
          obtain ⟨h1, h2, h3⟩ := scanF_good f _ _ us (by simp only [List.length_drop]; omega) e2
          have hk : (l.take k).length = k := by simp; omega
          refine ⟨?_, ?_, ?_⟩
          · intro t ht
            simp at ht
            rcases ht with rfl | ht
            · exact ⟨l, by simpa [hk] using e, by simp [hk]⟩
            · exact h1 t ht
          · simp only [List.length_drop] at h2
            simp only [List.cons_append, List.nil_append, List.map_cons, List.sum_cons, hk]
            omega
          · intro t ht
            simp at ht
            rcases ht with rfl | ht
            · simp only [hk]; omega
            · exact h3 t ht
theorem back_blk (ts : List Tk) (h : ∀ t ∈ ts, t.good) : blk false (backL ts) = 0 := by
  cases ts with
  | nil => rfl
  | cons t ts =>
    obtain ⟨l, h1, h2⟩ := h t (by simp)
    have hp := tok_pos h1
    cases l with
    | nil => have := tokLen_le []; simp at this; omega
    | cons c l =>
      obtain ⟨a, b⟩ := tok_head h1
      obtain ⟨m, hm⟩ : ∃ m, t.text.length = m + 1 := ⟨t.text.length - 1, by omega⟩
      rw [hm, List.take_succ_cons] at h2
      simp only [backL, h2, List.cons_append, blk_none a b]
theorem scan_back : ∀ (ts : List Tk) (f pos : Nat), (∀ t ∈ ts, t.good) → (backL ts).length < f →
    ∃ us, scanF f pos (backL ts) = .ok us ∧ us.length = ts.length ∧ ∀ (i : Nat) x y, ts[i]? = some x → us[i]? = some y → sameTk x y
  | [], f, pos, h, hf => by
    obtain ⟨g, rfl⟩ : ∃ g, f = g + 1 := ⟨f - 1, by omega⟩
    exact ⟨[], by simp [scanF, backL], rfl, fun i x y hx => by simp at hx⟩
  | t :: ts, f, pos, h, hf => by
    obtain ⟨g, rfl⟩ : ∃ g, f = g + 1 := ⟨f - 1, by omega⟩
    obtain ⟨l, h1, h2⟩ := h t (by simp)
    have hp := tok_pos h1
    have hc := tok_cut (r := [35, 32, 45, 10] ++ backL ts) h1
    rw [← h2] at hc
    have hbb := back_blk ts (fun x hx => h x (by simp [hx]))
    have e1 : backL (t :: ts) = t.text ++ 32 :: ([35, 32, 45, 10] ++ backL ts) := by simp [backL]
    have hdrop : (t.text ++ 32 :: ([35, 32, 45, 10] ++ backL ts)).drop t.text.length = 32 :: ([35, 32, 45, 10] ++ backL ts) := by simp
    have htake : (t.text ++ 32 :: ([35, 32, 45, 10] ++ backL ts)).take t.text.length = t.text := by simp
    have hblk : blk false (32 :: ([35, 32, 45, 10] ++ backL ts)) = 5 := by
      have q1 : blB 32 = true := rfl
      have q2 : blB 35 = false := rfl
      simp [blk, q1, q2, hbb]
    have hne : t.text ++ 32 :: ([35, 32, 45, 10] ++ backL ts) ≠ [] := by simp
    have hlen : (backL ts).length < g := by
      rw [e1] at hf; simp at hf; omega
    obtain ⟨us, hu, hul, hus⟩ := scan_back ts g (pos + t.text.length + 5) (fun x hx => h x (by simp [hx])) hlen
    refine ⟨⟨pos, t.text, t.num, t.n⟩ :: us, ?_, by simp [hul], ?_⟩
    · rw [e1, scanF, if_neg hne, hc]
      simp only [hdrop, htake, hblk]
      have : (32 :: ([35, 32, 45, 10] ++ backL ts) : List UInt8).drop 5 = backL ts := by simp
      rw [this, hu]
      simp [Sc.app]
    · intro i x y hx hy
      cases i with
      | zero => simp at hx hy; subst hx hy; exact ⟨rfl, rfl, rfl⟩
      | succ i => exact hus i x y (by simpa using hx) (by simpa using hy)
theorem back_len (ts : List Tk) : (backL ts).length = (ts.map (fun t => t.text.length)).sum + 5 * ts.length := by
  induction ts with
  | nil => rfl
  | cons t ts ih => simp only [backL, List.length_append, ih, List.map_cons, List.sum_cons, List.length_cons, List.length_nil]; omega
theorem sum_ge (ts : List Tk) (h : ∀ t ∈ ts, 1 ≤ t.text.length) : ts.length ≤ (ts.map (fun t => t.text.length)).sum := by
  induction ts with
  | nil => simp
  | cons t ts ih =>
    have := ih (fun x hx => h x (by simp [hx]))
    have := h t (by simp)
    simp only [List.map_cons, List.sum_cons, List.length_cons]; omega
/-- THERE AND BACK. -/
theorem scanL_back {s : List UInt8} {ts : List Tk} (hs : s.length ≤ 3000) (h : scanL s = .ok ts) :
    ts.length ≤ 3000 ∧ (backL ts).length ≤ 18000 ∧ (∀ t ∈ ts, t.text.length ≤ 3000) ∧ ∃ us, scanL (backL ts) = .ok us ∧ us.length = ts.length ∧ ∀ (i : Nat) x y, ts[i]? = some x → us[i]? = some y → sameTk x y := by
  unfold scanL at h
  rw [if_neg (by omega)] at h
  obtain ⟨h1, h2, h3⟩ := scanF_good _ _ _ ts (by simp only [List.length_drop]; omega) h
  simp only [List.length_drop] at h2
  have h4 := sum_ge ts h3
  have h5 := back_len ts
  have h6 : ∀ t ∈ ts, t.text.length ≤ (ts.map (fun t => t.text.length)).sum := by
    intro t ht
    clear h h1 h2 h3 h4 h5
    induction ts with
    | nil => simp at ht
    | cons a ts ih =>
      simp at ht
      simp only [List.map_cons, List.sum_cons]
      rcases ht with rfl | ht
      · omega
      · have := ih ht; omega
  refine ⟨by omega, by omega, fun t ht => by have := h6 t ht; omega, ?_⟩
  have hb := back_blk ts h1
  obtain ⟨us, hu, r⟩ := scan_back ts ((backL ts).length + 1) 0 h1 (by omega)
  refine ⟨us, ?_, r⟩
  unfold scanL
  rw [if_neg (by omega), hb]
  exact hu
end Go.Proofs.YtlahoehngnebnacDoor
