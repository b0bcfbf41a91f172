/-
  The text of a type, as plain lists of bytes.
-/
import Derived.Test.YtpcnlplcpoohgabDoorTypMem
import Derived.Lib.ItoaLen
namespace Go.Proofs.YtpcnlplcpoohgabDoor
set_option linter.unusedVariables false

/-- One behind the other, a comma and a blank between them. -/
def catL : List (List UInt8) → List UInt8
  | [] => []
  | x :: xs => x ++ xs.flatMap (fun y => [44, 32] ++ y)

theorem catL_snoc (ls : List (List UInt8)) (x : List UInt8) : catL (ls ++ [x]) = catL ls ++ (if ls.length = 0 then [] else [44, 32]) ++ x := by
  cases ls with
  | nil => simp [catL]
  | cons y ys => simp [catL, List.flatMap_append]

def TT.txt : {n : Nat} → TT n → List UInt8
  | 0, t => Empty.elim t
  | n + 1, t =>
    if t.1 = 2 then [104, 97, 110, 100, 108, 101, 32] ++ Lib.itoa t.2.1
    else if t.1 = 4 then [97, 114, 114, 97, 121, 32] ++ Lib.itoa t.2.1
    else if t.1 = 3 then [116, 117, 112, 108, 101, 32] ++ Lib.itoa t.2.1 ++ [32, 40] ++ catL (t.2.2.map (TT.txt (n := n))) ++ [41]
    else [105, 110, 116]

theorem catL_len : ∀ (ls : List (List UInt8)), (catL ls).length ≤ (ls.map (fun x => x.length + 2)).sum := by
  intro ls
  cases ls with
  | nil => simp [catL]
  | cons y ys =>
    have : ∀ zs : List (List UInt8), (zs.flatMap (fun y => [44, 32] ++ y)).length = (zs.map (fun x => x.length + 2)).sum := by
      intro zs
      induction zs with
      | nil => rfl
      | cons z zs ih => rw [List.flatMap_cons, List.length_append, ih, List.map_cons, List.sum_cons]; simp
    simp only [catL, List.length_append, this, List.map_cons, List.sum_cons]
    omega

theorem sum_map_le {α : Type} {f g : α → Nat} : ∀ {l : List α}, (∀ x ∈ l, f x ≤ g x) → (l.map f).sum ≤ (l.map g).sum
  | [], _ => by simp
  | x :: xs, h => by
    have h1 := h x (by simp)
    have h2 := sum_map_le (l := xs) (fun y hy => h y (by simp [hy]))
    simp only [List.map_cons, List.sum_cons]
    omega

theorem sum_map_mul {α : Type} {f : α → Nat} (k : Nat) : ∀ {l : List α}, (l.map (fun x => k * f x)).sum = k * (l.map f).sum
  | [] => by simp
  | x :: xs => by simp only [List.map_cons, List.sum_cons, sum_map_mul k (l := xs), Nat.mul_add]

theorem TT.txt_len : {n : Nat} → {t : TT n} → t.ok → t.txt.length + 8 ≤ 40 * t.count
  | 0, t, _ => Empty.elim t
  | n + 1, t, h => by
    have hi := Lib.itoa_length_le t.2.1 h.1.1 h.1.2
    have h1 := catL_len (t.2.2.map (TT.txt (n := n)))
    have h2 : ((t.2.2.map (TT.txt (n := n))).map (fun x => x.length + 2)).sum ≤ 40 * (t.2.2.map (TT.count (n := n))).sum := by
      rw [List.map_map, ← sum_map_mul]
      exact sum_map_le (fun x hx => by have := TT.txt_len (h.2 x hx); simp only [Function.comp]; omega)
    have h3 := Nat.le_trans h1 h2
    clear h1 h2
    simp only [TT.txt, TT.count]
    generalize (t.2.2.map (TT.count (n := n))).sum = s at h3 ⊢
    split
    · simp; omega
    · split
      · simp; omega
      · split
        · simp only [List.length_append, List.length_cons, List.length_nil]; omega
        · simp; omega

/-- The first q of a list's texts are no longer than so. -/
theorem cat_take_len {n : Nat} {l : List (TT n)} (h : ∀ x ∈ l, x.ok) (q : Nat) : (catL ((l.take q).map TT.txt)).length ≤ 40 * ((l.map TT.count).take q).sum := by
  refine Nat.le_trans (catL_len _) ?_
  rw [List.map_map, ← List.map_take, ← sum_map_mul]
  exact sum_map_le (fun x hx => by have := TT.txt_len (h x (List.mem_of_mem_take hx)); simp only [Function.comp]; omega)
end Go.Proofs.YtpcnlplcpoohgabDoor
