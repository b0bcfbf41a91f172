/-
  Rows that grow by append beside boxes: the step of append, worlds joined, what is kept but for one box.
-/
import Derived.Test.YtmnmnokkojcodabFrJ
import Derived.Test.YtmnmnokkojcodabCodRow
namespace Go.Proofs.Ytmnmnokkojcodab
open Go.ChangeShapes Go.WideShapes Go.ChangeAt Go.RowKit
set_option linter.unusedVariables false
set_option linter.unusedSimpArgs false

theorem Wd.join {w0 w1 w2 : World} {Bs Bs' : List (Nat × Array Value × TypeId)} (h1 : Wd w0 w1 Bs) (h2 : Wd w1 w2 Bs') : Wd w0 w2 (Bs' ++ Bs) := by
  have sp : ∀ (i : Nat) x, (Bs' ++ Bs)[i]? = some x → (Bs'[i]? = some x ∧ i < Bs'.length) ∨ (Bs[i - Bs'.length]? = some x ∧ Bs'.length ≤ i) := fun i x hx => by
    rcases Nat.lt_or_ge i Bs'.length with h | h
    · rw [List.getElem?_append_left h] at hx; exact .inl ⟨hx, h⟩
    · rw [List.getElem?_append_right h] at hx; exact .inr ⟨hx, h⟩
  refine ⟨Below.andThen h1.bel h2.bel, fun i x hx => ?_, fun i x hx => ?_, fun i j x y hx hy e => ?_⟩
  · rcases sp i x hx with ⟨h, _⟩ | ⟨h, _⟩
    · exact h2.blk i x h
    · exact (h1.blk _ x h).below h2.bel
  · rcases sp i x hx with ⟨h, _⟩ | ⟨h, _⟩
    · exact Nat.le_trans h1.bel.size (h2.new i x h)
    · exact h1.new _ x h
  · rcases sp i x hx with ⟨h, hi⟩ | ⟨h, hi⟩ <;> rcases sp j y hy with ⟨h', hj⟩ | ⟨h', hj⟩
    · exact h2.nd i j x y h h' e
    · have := h2.new i x h; have := (h1.blk _ y h').lt; omega
    · have := h2.new j y h'; have := (h1.blk _ x h).lt; omega
    · have := h1.nd _ _ x y h h' e; omega

/-- Of what lies below lo nothing but the block B has turned. -/
def KeepBut (lo B : Nat) (w w' : World) : Prop := ∀ k, k < lo → k ≠ B → w'.heap[k]? = w.heap[k]?
section
variable {lo B s : Nat} {w w1 w2 : World}
theorem KeepBut.refl (lo B : Nat) (w : World) : KeepBut lo B w w := fun _ _ _ => rfl
theorem KeepBut.below (h : KeepBut lo B w w1) (b : Below s w1 w2) (hs : lo ≤ s) : KeepBut lo B w w2 := fun k hk hne => (b.block k (by omega)).trans (h k hk hne)
theorem KeepBut.grown {row : Option Nat} (h : KeepBut lo B w w1) (b : w1.grownBy w2 row) (hs : lo ≤ w1.heap.size) (hr : ∀ k, row = some k → lo ≤ k) : KeepBut lo B w w2 := fun k hk hne => (b.block k (by omega) (fun e => by have := hr k e.symm; omega)).trans (h k hk hne)
theorem KeepBut.keep1 (h : KeepBut lo B w w1) (b : Keep1 B w1 w2) : KeepBut lo B w w2 := fun k hk hne => (b k hne).trans (h k hk hne)
theorem Lay.keepBut {α : Type} {A : Lay α} {O O' : Nat → Prop} {x : α} {cs : List Value} (h : A.In w O x cs) (hk : KeepBut lo B w w1) (ho : ∀ k, O k → k < w.heap.size → k < lo ∧ k ≠ B) (ho' : ∀ k, O k → k < w.heap.size → O' k) : A.In w1 O' x cs :=
  A.keep (fun k hO hl => hk k (ho k hO hl).1 (ho k hO hl).2) ho' h
end

section
variable {α : Type} {A : Lay α} {e : TypeId} {w w' : World} {lo B : Nat} {v : Value} {l : List α} {xs : List Value}
theorem ARow.keep1 (h : ARow A e w lo v l xs) (hk : Keep1 B w w') (hB : B < lo) : ARow A e w' lo v l xs := by
  obtain ⟨⟨h1, h2⟩, h3⟩ := h
  refine ⟨⟨h1, ?_⟩, fun i x hx => A.keep (fun k hO _ => hk k (by have := hO.1; omega)) (fun _ h _ => h) (h3 i x hx)⟩
  rcases h2 with h4 | ⟨g, cap, cur, e, hg, hh, r⟩
  · exact Or.inl h4
  · exact Or.inr ⟨g, cap, cur, e, hg, (hk g (by omega)).trans hh, r⟩
theorem ARow.form (h : ARow A e w lo v l xs) : ∃ a c, v = .slice a l.length c := by
  rcases h.own.2 with ⟨rfl, h4⟩ | ⟨g, cap, cur, rfl, _⟩
  · exact ⟨none, 0, by rw [h4]⟩
  · exact ⟨_, _, rfl⟩
theorem ARow.nil' (A : Lay α) (e : TypeId) (w : World) (lo : Nat) : ARow A e w lo (.slice none 0 0) (l.take 0) [] := ARow.nil A e w lo
theorem ARow.own_lt (h : ARow A e w lo v l xs) {k : Nat} (hk : w.heap.size ≤ k) : v.ownBlock ≠ some k := fun e => by have := (h.lo_le e).2; omega
theorem ARow.one (h : ARow A e w lo v l xs) : v.cells = #[v] ∧ v.oneCell' = true := by
  obtain ⟨a, c, rfl⟩ := h.form
  exact ⟨rfl, rfl⟩
end

section
variable {n : Nat} {a : Act} {L : List (Tmp × Value)} {w0 w : World} {Bs : List (Nat × Array Value × TypeId)} {Q : Exit → Act → World → Prop} {ops : Array Oper} {rest : List Oper} {t : Tmp} {u v : Value} {ty ty2 ty3 : TypeId} {pos : String} {aft : Array Edge} {x y : Operand}
/-- append of one. -/
theorem sApp {α : Type} {A : Lay α} {tS e bt : TypeId} {i0 : TypeInfo} {z : Value} {s bytes lo G : Nat} {l : List α} {xs ds : List Value} {xd : α}
    (hu : Try.prog.underlying tS = some (.slice e)) (hi : Try.prog.info? e = some i0) (hz : i0.zero = some z) (hsz : i0.size = s) (hby : i0.bytes = bytes) (hzs : z.cells.size = s) (h0 : 0 < s) (hs : A.size = s)
    (hW : Wd w0 w Bs) (hlo : w0.heap.size ≤ lo) (hBlo : ∀ (i : Nat) x, Bs[i]? = some x → x.1 < lo) (hR : ARow A e w lo u l xs) (hlow : lo ≤ w.heap.size) (hG : Blk w G ds.toArray bt)
    (hIn : A.In w (fun k => lo ≤ k ∧ u.ownBlock ≠ some k) xd ds) (hone : ds.all (·.oneCell') = true) (hlen : l.length < 4294967296) (hbyt : bytes ≤ 1000)
    (hx : evalL L x = some u) (hy : evalL L y = some (.slice (some ⟨G, 0, none⟩) 1 1)) (ht : Nat.blt t n = true)
    (k : ∀ g cap w', ARow A e w' lo (.slice (some ⟨g, 0, none⟩) (l.length + 1) cap) (l ++ [xd]) (xs ++ ds) → w.grownBy w' u.ownBlock → Wd w0 w' Bs → St n ((t, .slice (some ⟨g, 0, none⟩) (l.length + 1) cap) :: L) ops Q rest w') :
    St n L ops Q (⟨some t, .call { callee := .builtin .append, args := #[x, y], argTypes := #[tS, tS] }, ty, pos, aft, none⟩ :: rest) w := fun a hF => by
  subst hs
  have hdl := A.len hIn
  have hmul : (l.length + 1) * bytes ≤ 4294967296 * 1000 := Nat.mul_le_mul (by omega) hbyt
  refine wpList_append_lies (P := Try.prog) w rfl x y tS rfl lo e i0 z A.size bytes hu hi hz hsz hby hzs h0 u l.length xs (hF.ev hx) hR.own ⟨G, 0, none⟩ 1 1 ds (hF.ev hy) (by rw [hdl, Nat.one_mul]) ?_ (by simpa using hone) (by decide) (by unfold maxLen; omega) (by omega) hlow w.heap.size rfl ?_
  · intro j v hj
    rw [show (⟨G, 0, none⟩ : Addr).add j = ⟨G, j, none⟩ from by unfold Addr.add; split <;> simp_all]
    exact cellOf hG j v (by simpa using hj)
  · intro g cap w' h1 hgrow hat hlt
    have hA := ARow.push hR hIn hgrow hat h1
    refine k g cap w' hA hgrow ⟨hW.bel.grown hgrow hW.bel.size (fun k hk => Nat.le_trans hlo (hR.lo_le hk).1), fun i y hy => ?_, hW.new, hW.nd⟩ _ (hF.put ht)
    have h9 := hBlo i y hy
    exact (hgrow.block y.1 (by omega) (fun e => by have := (hR.lo_le e.symm).1; omega)).trans (hW.blk i y hy)
end
theorem KeepBut.keep1t {lo B : Nat} {w w1 w2 : World} (h : KeepBut lo B w w1) (b : Keep1 B w1 w2) (hB : B < lo) : KeepBut lo B w w2 := h.keep1 b
theorem Lay.keepNe {α : Type} {A : Lay α} {O : Nat → Prop} {w w1 : World} {B : Nat} {x : α} {cs : List Value} (h : A.In w O x cs) (hk : Keep1 B w w1) (ho : ∀ k, O k → k ≠ B) : A.In w1 O x cs :=
  A.keep (fun k hO _ => hk k (ho k hO)) (fun _ h _ => h) h
theorem lts2 {x1 x2 : Nat × Array Value × TypeId} {lo : Nat} (h1 : x1.1 < lo) (h2 : x2.1 < lo) : ∀ (i : Nat) x, [x1, x2][i]? = some x → x.1 < lo := fun i x h => by
  match i, h with
  | 0, h => cases h; exact h1
  | 1, h => cases h; exact h2
  | i + 2, h => simp at h
theorem lts3 {x1 x2 x3 : Nat × Array Value × TypeId} {lo : Nat} (h1 : x1.1 < lo) (h2 : x2.1 < lo) (h3 : x3.1 < lo) : ∀ (i : Nat) x, [x1, x2, x3][i]? = some x → x.1 < lo := fun i x h => by
  match i, h with
  | 0, h => cases h; exact h1
  | 1, h => cases h; exact h2
  | 2, h => cases h; exact h3
  | i + 3, h => simp at h
theorem rOwnTypes_any {n : Nat} {l : List (TT n)} {p : Option Addr} {c : Nat} {w : World} (h : (typesL n).In w All l [.slice p l.length c]) (hs : tsmall l) : Calls Try.prog 42 #[.slice p l.length c] w fun e w' => LyOut (Lay.tt n) w w' l e :=
  (owns_any n (own_any n) l p c w (types_lin h).1 (by have := hs.1; omega) hs.2).mono fun e w' ⟨a', c', h1, h2, h3⟩ => ⟨a', c', h1, types_of_lin h2 (types_lin h).2, h3⟩
theorem ARow.next {α : Type} {A : Lay α} {e : TypeId} {w : World} {lo q : Nat} {v : Value} {l : List α} {xs : List Value} {x : α} (h : ARow A e w lo v (l.take q ++ [x]) xs) (hx : l[q]? = some x) : ARow A e w lo v (l.take (q + 1)) xs := by
  rw [List.take_add_one, hx]; exact h
theorem ARow.full {α : Type} {A : Lay α} {e : TypeId} {w : World} {lo q : Nat} {v : Value} {l : List α} {xs : List Value} (h : ARow A e w lo v (l.take q) xs) (hq : q = l.length) : ARow A e w lo v l xs := by
  rwa [List.take_of_length_le (by omega)] at h
end Go.Proofs.Ytmnmnokkojcodab
