/-
  Package heap, plain: what bounds a heap, when a part was set. No function of the program is spoken of.
-/
import Derived.Test.YtjhdpajpibdnaaeHpLaw
namespace Go.Proofs.Ytjhdpajpibdnaae
set_option linter.unusedVariables false
set_option linter.unusedSimpArgs false

theorem set_place {l : List HPlace} {r i : Nat} {p : HPlace} {t : HThing} {x : List HVal} (hp : l[r]? = some p) {k : Nat} {q : HPlace} (e : (l.set r { p with l := p.l.set i { t with l := x } })[k]? = some q) : ∃ q0, l[k]? = some q0 ∧ q.used = q0.used ∧ q.l.length = q0.l.length ∧ (q = q0 ∨ q = { p with l := p.l.set i { t with l := x } } ∧ q0 = p) := by
  rcases set_or e with e' | e'
  · by_cases hk : k = r
    · subst hk
      exact ⟨p, hp, by rw [e'], by rw [e']; simp, .inr ⟨e', rfl⟩⟩
    · rw [List.getElem?_set_ne (Ne.symm hk)] at e
      exact ⟨q, e, rfl, rfl, .inl rfl⟩
  · exact ⟨q, e', rfl, rfl, .inl rfl⟩
theorem HB.set {N : Nat} {h : HHeap} (B : HB N h) (v : HVal) (k : Int) (x : HVal) : HB N (h.set v k x).2 := by
  unfold HHeap.set
  cases ht : h.thing v with
  | none => exact B
  | some t =>
    cases hp : h.place v.region with
    | none => exact B
    | some p =>
      simp only
      split
      · exact B
      split
      · exact B
      obtain ⟨-, p', hp', h0, hi, -⟩ := HHeap.thing_iff.1 ht
      rw [hp] at hp'
      cases hp'
      obtain ⟨q0, q1, q2⟩ := HHeap.place_some hp
      refine ⟨⟨by simpa using B.ok.len, fun j q hq => ?_, fun j q hq => ?_, ?_⟩, fun j q i' t' hq hi' => ?_, ?_⟩
      · obtain ⟨r0, e1, e2, e3, -⟩ := set_place q1 hq
        rw [e3]; exact B.ok.things j r0 e1
      · obtain ⟨r0, e1, e2, e3, -⟩ := set_place q1 hq
        rw [e2]; exact B.ok.used j r0 e1
      · have h1 := sum_set h.L v.region.toNat p { p with l := p.l.set v.thing.toNat { t with l := t.l.set k.toNat x } } q1
        have h2 := B.ok.pages
        have h3 : ((h.L.set v.region.toNat { p with l := p.l.set v.thing.toNat { t with l := t.l.set k.toNat x } }).map (·.pages)).sum + p.pages = (h.L.map (·.pages)).sum + p.pages := h1
        have h4 := Nat.add_right_cancel h3
        show h.left + ((h.L.set v.region.toNat { p with l := p.l.set v.thing.toNat { t with l := t.l.set k.toNat x } }).map (·.pages)).sum ≤ 1000000
        rw [h4]; exact h2
      · obtain ⟨r0, e1, e2, e3, e4⟩ := set_place q1 hq
        rcases e4 with e4 | ⟨e4, e5⟩
        · subst e4; exact B.len j q i' t' e1 hi'
        · subst e4
          simp only at hi'
          by_cases he : i' = v.thing.toNat
          · subst he
            have := (List.getElem?_eq_some_iff.1 hi).1
            simp [this] at hi'
            subst hi'
            have := B.len _ p _ t q1 hi
            simpa using this
          · rw [List.getElem?_set_ne (Ne.symm he)] at hi'
            exact B.len _ p _ t' q1 hi'
      · have := HHeap.live_set (h := h) (q := { p with l := p.l.set v.thing.toNat { t with l := t.l.set k.toNat x } }) q1 h.left
        have h3 : HHeap.live ⟨h.L.set v.region.toNat { p with l := p.l.set v.thing.toNat { t with l := t.l.set k.toNat x } }, h.left⟩ + (if p.there then 1 else 0) = h.live + (if p.there then 1 else 0) := this
        have h4 := Nat.add_right_cancel h3
        show HHeap.live ⟨h.L.set v.region.toNat { p with l := p.l.set v.thing.toNat { t with l := t.l.set k.toNat x } }, h.left⟩ ≤ 16
        rw [h4]; exact B.live
end Go.Proofs.Ytjhdpajpibdnaae
