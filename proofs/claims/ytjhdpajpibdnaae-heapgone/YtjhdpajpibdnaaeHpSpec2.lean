/-
  Things that know what they are, plain: what an operation leaves as it was, what bounds a heap. No function of the program is spoken of.
-/
import Derived.Test.YtjhdpajpibdnaaeHpSpec
namespace Go.Proofs.Ytjhdpajpibdnaae
set_option linter.unusedVariables false
set_option linter.unusedSimpArgs false

theorem HHeap.at_some {h : HHeap} {v : HVal} {p : HPlace} (e : h.at v = some p) : v.kind = 2 ∧ h.place v.region = some p ∧ ∃ k : Nat, v.region = k ∧ h.L[k]? = some p ∧ p.there = true := by
  unfold HHeap.at at e
  split at e
  · rename_i hk
    obtain ⟨h0, h1, h2⟩ := HHeap.place_some e
    obtain ⟨k, hk'⟩ := Int.eq_ofNat_of_zero_le h0
    exact ⟨hk, e, k, hk', by rwa [hk', Int.toNat_natCast] at h1, h2⟩
  · cases e
/-- So many words more are in use. -/
def HPlace.roomed (p : HPlace) (words : Int) : HPlace := if p.tight words then { p with pages := p.pages + 1, used := words } else { p with used := p.used + words }
def HHeap.roomLeft (h : HHeap) (p : HPlace) (words : Int) : Nat := if p.tight words then h.left - 1 else h.left
theorem HPlace.roomed_l (p : HPlace) (words : Int) : (p.roomed words).l = p.l := by unfold HPlace.roomed; split <;> rfl
theorem HPlace.roomed_there (p : HPlace) (words : Int) : (p.roomed words).there = p.there := by unfold HPlace.roomed; split <;> rfl
theorem HPlace.more_eq (p : HPlace) (t : HThing) (words : Int) : p.more t words = { p.roomed words with l := (p.roomed words).l ++ [t] } := by unfold HPlace.more HPlace.roomed; split <;> rfl
theorem HOk.of {N T : Nat} {h : HHeap} (K : HOk N T h) {v : HVal} {p : HPlace} (ha : h.at v = some p) : p.l.length ≤ N ∧ 0 ≤ p.used ∧ p.used ≤ N ∧ h.left + p.pages ≤ T := by
  obtain ⟨_, _, k, _, hL, _⟩ := HHeap.at_some ha
  have := sum_mem hL
  have := K.pages
  have := K.used k p hL
  exact ⟨K.things k p hL, this.1, this.2, by omega⟩
theorem HHeap.tuple_none {h : HHeap} {v : HVal} (l : List HVal) (ha : h.at v = none) : h.tuple v l = (noV, 20, h) := by unfold HHeap.tuple HHeap.put; rw [ha]
theorem HHeap.put_full {h : HHeap} {v : HVal} {p : HPlace} (t : HThing) (words : Int) (ha : h.at v = some p) (ht : p.tight words = true) (hl : h.left = 0) : h.put v t words = (noV, 14, h) := by unfold HHeap.put; rw [ha]; simp [ht, hl]
theorem HHeap.put_ok {h : HHeap} {v : HVal} {p : HPlace} {k : Nat} (t : HThing) (words : Int) (ha : h.at v = some p) (hk : v.region = k) (ht : ¬ (p.tight words = true ∧ h.left = 0)) :
    h.put v t words = (⟨t.knd, k, p.l.length, 0⟩, 0, ⟨h.L.set k { p.roomed words with l := p.l ++ [t] }, h.roomLeft p words⟩) := by
  unfold HHeap.put
  rw [ha]
  simp only
  rw [if_neg ht, hk, Int.toNat_natCast, HPlace.more_eq, HPlace.roomed_l]
  rfl
theorem HHeap.thing_iff {h : HHeap} {v : HVal} {t : HThing} : h.thing v = some t ↔ (v.kind = 3 ∨ v.kind = 4) ∧ ∃ p, h.place v.region = some p ∧ 0 ≤ v.thing ∧ p.l[v.thing.toNat]? = some t ∧ t.arr = decide (v.kind = 4) := by
  unfold HHeap.thing
  constructor
  · intro e
    split at e
    · rename_i hk
      split at e
      · cases e
      · rename_i p hp
        split at e
        · cases e
        · rename_i h0
          split at e
          · cases e
          · rename_i u hu
            split at e
            · rename_i ha; cases e; exact ⟨hk, p, hp, by omega, hu, ha⟩
            · cases e
    · cases e
  · rintro ⟨hk, p, hp, h0, hu, ha⟩
    rw [if_pos hk]
    simp only [hp, hu]
    rw [if_neg (by omega), if_pos ha]
/-- All regions that were there are there, with all things that they had. -/
def HGrows (h h' : HHeap) : Prop := ∀ (k : Int) (p : HPlace), h.place k = some p → ∃ p' : HPlace, h'.place k = some p' ∧ ∀ (i : Nat) (t : HThing), p.l[i]? = some t → p'.l[i]? = some t
theorem HGrows.thing {h h' : HHeap} (g : HGrows h h') {v : HVal} {t : HThing} (e : h.thing v = some t) : h'.thing v = some t := by
  obtain ⟨hk, p, hp, h0, hu, ha⟩ := HHeap.thing_iff.1 e
  obtain ⟨p', hp', hi⟩ := g _ p hp
  exact HHeap.thing_iff.2 ⟨hk, p', hp', h0, hi _ t hu, ha⟩
theorem HGrows.at {h h' : HHeap} (g : HGrows h h') {v : HVal} {p : HPlace} (e : h.at v = some p) : ∃ p', h'.at v = some p' := by
  obtain ⟨hk, hp, -⟩ := HHeap.at_some e
  obtain ⟨p', hp', -⟩ := g _ p hp
  exact ⟨p', by unfold HHeap.at; rw [if_pos hk]; exact hp'⟩
theorem HGrows.refl (h : HHeap) : HGrows h h := fun k p hp => ⟨p, hp, fun _ _ h => h⟩
theorem HGrows.open (h : HHeap) : HGrows h h.open_.2.2 := by
  intro k p hp
  unfold HHeap.open_
  split
  · exact ⟨p, hp, fun _ _ h => h⟩
  · refine ⟨p, ?_, fun _ _ h => h⟩
    rw [HHeap.place_push]
    obtain ⟨h0, h1, h2⟩ := HHeap.place_some hp
    have := (List.getElem?_eq_some_iff.1 h1).1
    rw [if_neg (by omega)]
    exact hp
theorem HHeap.open_at {h : HHeap} (e : h.open_.2.1 = true) : ∃ p, h.open_.2.2.at h.open_.1 = some p ∧ p = newP := by
  unfold HHeap.open_ at e ⊢
  split at e
  · cases e
  · rename_i h16
    rw [if_neg h16]
    refine ⟨newP, ?_, rfl⟩
    unfold HHeap.at
    simp only [if_true]
    rw [HHeap.place_push, if_pos rfl]
    rfl
theorem HGrows.put (h : HHeap) (v : HVal) (t : HThing) (words : Int) : HGrows h (h.put v t words).2.2 := by
  intro k p hp
  unfold HHeap.put
  cases ha : h.at v with
  | none => exact ⟨p, hp, fun _ _ h => h⟩
  | some q =>
    simp only
    split
    · exact ⟨p, hp, fun _ _ h => h⟩
    · obtain ⟨hk, hq, j, hj, hLj, hth⟩ := HHeap.at_some ha
      have hlt := (List.getElem?_eq_some_iff.1 hLj).1
      rw [hj, Int.toNat_natCast, HHeap.place_set hlt]
      by_cases e : k = j
      · rw [if_pos e]
        have hpq : p = q := by rw [e, ← hj, hq] at hp; exact (Option.some.inj hp).symm
        subst hpq
        have ht' : (p.more t words).there = true := by unfold HPlace.more; split <;> exact hth
        rw [if_pos ht']
        refine ⟨_, rfl, fun i u hu => ?_⟩
        have hl : (p.more t words).l = p.l ++ [t] := by unfold HPlace.more; split <;> rfl
        rw [hl, List.getElem?_append_left (List.getElem?_eq_some_iff.1 hu).1]
        exact hu
      · rw [if_neg e]; exact ⟨p, hp, fun _ _ h => h⟩
theorem HGrows.tuple (h : HHeap) (v : HVal) (l : List HVal) : HGrows h (h.tuple v l).2.2 := HGrows.put h v _ _
/-- What a thing more is: new, and there. -/
theorem HHeap.put_new {h : HHeap} {v : HVal} {t : HThing} {words : Int} {p : HPlace} (ha : h.at v = some p) (ok : (h.put v t words).2.1 = 0) : (h.put v t words).1 = ⟨t.knd, v.region, p.l.length, 0⟩ ∧ (h.put v t words).2.2.thing (h.put v t words).1 = some t ∧ ∀ u x, h.thing u = some x → ¬ (u.region = v.region ∧ u.thing = p.l.length) := by
  obtain ⟨hk, hq, j, hj, hLj, hth⟩ := HHeap.at_some ha
  have hlt := (List.getElem?_eq_some_iff.1 hLj).1
  have hno : ¬ (p.tight words = true ∧ h.left = 0) := fun e => by
    have := HHeap.put_full (v := v) t words ha e.1 e.2
    rw [this] at ok; cases ok
  rw [HHeap.put_ok t words ha hj hno]
  refine ⟨by rw [hj], ?_, fun u x hu hc => ?_⟩
  · refine HHeap.thing_iff.2 ⟨by unfold HThing.knd; cases t.arr <;> simp, { p.roomed words with l := p.l ++ [t] }, ?_, by simp, by simp, by unfold HThing.knd; cases t.arr <;> rfl⟩
    rw [HHeap.place_set hlt, if_pos rfl]
    have : (p.roomed words).there = true := by rw [HPlace.roomed_there]; exact hth
    simp [this]
  · obtain ⟨-, p', hp', h0, hx, -⟩ := HHeap.thing_iff.1 hu
    rw [hc.1, hq] at hp'
    cases hp'
    have := (List.getElem?_eq_some_iff.1 hx).1
    omega
theorem HHeap.put_code {h : HHeap} {v : HVal} {t : HThing} {words : Int} {p : HPlace} (ha : h.at v = some p) : (h.put v t words).2.1 = 0 ∨ ((h.put v t words).2.1 = 14 ∧ (h.put v t words).2.2 = h ∧ (h.put v t words).1 = noV) := by
  by_cases e : p.tight words = true ∧ h.left = 0
  · rw [HHeap.put_full t words ha e.1 e.2]; exact .inr ⟨rfl, rfl, rfl⟩
  · obtain ⟨hk, hq, j, hj, hLj, hth⟩ := HHeap.at_some ha
    rw [HHeap.put_ok t words ha hj e]; exact .inl rfl
/-- What Set leaves. -/
theorem HHeap.set_ok {h : HHeap} {v x : HVal} {t : HThing} {k : Nat} (ht : h.thing v = some t) (hx : t.arr = true → x.kind = 1) (hk : k < t.l.length) : (h.set v (k : Int) x).1 = 0 ∧ ∀ u y, h.thing u = some y → (h.set v (k : Int) x).2.thing u = some (if u.region = v.region ∧ u.thing = v.thing then { y with l := y.l.set k x } else y) := by
  obtain ⟨hkd, p, hp, h0, hi, ha⟩ := HHeap.thing_iff.1 ht
  obtain ⟨q0, q1, q2⟩ := HHeap.place_some hp
  have hlt := (List.getElem?_eq_some_iff.1 q1).1
  have e : h.set v (k : Int) x = (0, { h with L := h.L.set v.region.toNat { p with l := p.l.set v.thing.toNat { t with l := t.l.set k x } } }) := by
    unfold HHeap.set
    rw [ht, hp]
    simp only
    rw [if_neg (fun e => e.2 (hx e.1)), if_neg (by omega), Int.toNat_natCast]
  rw [e]
  refine ⟨rfl, fun u y hu => ?_⟩
  obtain ⟨ukd, p', hp', u0, ui, ua⟩ := HHeap.thing_iff.1 hu
  have hreg : ((v.region.toNat : Nat) : Int) = v.region := by omega
  by_cases hr : u.region = v.region
  · rw [hr, hp] at hp'
    cases hp'
    by_cases hth : u.thing = v.thing
    · rw [if_pos ⟨hr, hth⟩]
      rw [hth, hi] at ui
      cases ui
      refine HHeap.thing_iff.2 ⟨ukd, { p with l := p.l.set v.thing.toNat { t with l := t.l.set k x } }, ?_, u0, ?_, ua⟩
      · rw [hr, HHeap.place_set hlt, if_pos hreg.symm, if_pos q2]
      · have := (List.getElem?_eq_some_iff.1 hi).1
        rw [hth]; simp [this]
    · rw [if_neg (fun e => hth e.2)]
      refine HHeap.thing_iff.2 ⟨ukd, { p with l := p.l.set v.thing.toNat { t with l := t.l.set k x } }, ?_, u0, ?_, ua⟩
      · rw [hr, HHeap.place_set hlt, if_pos hreg.symm, if_pos q2]
      · show (p.l.set _ _)[_]? = _
        rw [List.getElem?_set_ne (by omega)]; exact ui
  · rw [if_neg (fun e => hr e.1)]
    refine HHeap.thing_iff.2 ⟨ukd, p', ?_, u0, ui, ua⟩
    rw [HHeap.place_set hlt, if_neg (by omega)]; exact hp'
/-- So long are all things at most. -/
def HLen (N : Nat) (h : HHeap) : Prop := ∀ (k : Nat) (p : HPlace) (i : Nat) (t : HThing), h.L[k]? = some p → p.l[i]? = some t → t.l.length ≤ N
theorem HOk.mono {N N' T : Nat} {h : HHeap} (K : HOk N T h) (hN : N ≤ N') : HOk N' T h := ⟨Nat.le_trans K.len hN, fun k p hp => Nat.le_trans (K.things k p hp) hN, fun k p hp => ⟨(K.used k p hp).1, by have := (K.used k p hp).2; omega⟩, K.pages⟩
theorem HOk.new (n : Nat) : HOk 0 n (HHeap.new n) := ⟨by simp [HHeap.new], fun k p h => by simp [HHeap.new] at h, fun k p h => by simp [HHeap.new] at h, by simp [HHeap.new]⟩
theorem push_or {l : List HPlace} {j : Nat} {q p : HPlace} (e : (l ++ [q])[j]? = some p) : p = q ∨ l[j]? = some p := by
  rcases Nat.lt_or_ge j l.length with h | h
  · rw [List.getElem?_append_left h] at e; exact .inr e
  · rw [List.getElem?_append_right h] at e
    have := (List.getElem?_eq_some_iff.1 e).1
    have : j - l.length = 0 := by simp at this; omega
    rw [this] at e; simp at e; exact .inl e.symm
theorem HOk.open {N T : Nat} {h : HHeap} (K : HOk N T h) : HOk (N + 1) T h.open_.2.2 := by
  unfold HHeap.open_
  split
  · exact K.mono (Nat.le_succ _)
  · refine ⟨by simp; exact K.len, fun k p hp => ?_, fun k p hp => ?_, ?_⟩
    · rcases push_or hp with e | e
      · subst e; simp [newP]
      · exact Nat.le_succ_of_le (K.things k p e)
    · rcases push_or hp with e | e
      · subst e; simp [newP]; omega
      · have := K.used k p e; omega
    · have := K.pages; simp [newP]; exact this
theorem HOk.shut {N T : Nat} {h : HHeap} (K : HOk N T h) (v : HVal) : HOk N T (h.shut v).2 := by
  unfold HHeap.shut
  cases ha : h.at v with
  | none => exact K
  | some p =>
    obtain ⟨hk, hq, j, hj, hLj, hth⟩ := HHeap.at_some ha
    simp only [hj, Int.toNat_natCast]
    refine ⟨by simpa using K.len, fun k q hq => ?_, fun k q hq => ?_, ?_⟩
    · rcases set_or hq with e | e
      · subst e; simp [noP]
      · exact K.things k q e
    · rcases set_or hq with e | e
      · subst e; simp [noP]
      · exact K.used k q e
    · have h1 := sum_set h.L j p noP hLj
      have h2 := K.pages
      have h3 : noP.pages = 0 := rfl
      show h.left + p.pages + ((h.L.set j noP).map (·.pages)).sum ≤ T
      omega
theorem HOk.put {N T : Nat} {h : HHeap} (K : HOk N T h) (v : HVal) (t : HThing) {words : Int} {M : Nat} (hw : 0 ≤ words ∧ words ≤ M) : HOk (N + M + 1) T (h.put v t words).2.2 := by
  cases ha : h.at v with
  | none => rw [show h.put v t words = (noV, 20, h) by unfold HHeap.put; rw [ha]]; exact K.mono (by omega)
  | some p =>
    obtain ⟨hk, hq, j, hj, hLj, hth⟩ := HHeap.at_some ha
    by_cases e : p.tight words = true ∧ h.left = 0
    · rw [HHeap.put_full t words ha e.1 e.2]; exact K.mono (by omega)
    · rw [HHeap.put_ok t words ha hj e]
      have hu := K.used j p hLj
      refine ⟨by simp; have := K.len; omega, fun k q hq => ?_, fun k q hq => ?_, ?_⟩
      · rcases set_or hq with e' | e'
        · subst e'; simp; have := K.things j p hLj; omega
        · have := K.things k q e'; omega
      · rcases set_or hq with e' | e'
        · subst e'
          show 0 ≤ (p.roomed words).used ∧ (p.roomed words).used ≤ _
          unfold HPlace.roomed
          split
          · simp only; omega
          · simp only; omega
        · have := K.used k q e'; omega
      · have h1 := sum_set h.L j p { p.roomed words with l := p.l ++ [t] } hLj
        have h2 := K.pages
        have h4 := sum_mem hLj
        show h.roomLeft p words + ((h.L.set j { p.roomed words with l := p.l ++ [t] }).map (·.pages)).sum ≤ T
        have h3 : ({ p.roomed words with l := p.l ++ [t] } : HPlace).pages = (p.roomed words).pages := rfl
        rw [h3] at h1
        unfold HHeap.roomLeft HPlace.roomed at *
        cases htt : p.tight words with
        | true =>
          rw [htt] at h1
          simp only [if_true] at h1 ⊢
          have : h.left ≠ 0 := fun e' => e ⟨htt, e'⟩
          omega
        | false =>
          rw [htt] at h1
          simp only [Bool.false_eq_true, if_false] at h1 ⊢
          omega
theorem HLen.mono {N N' : Nat} {h : HHeap} (K : HLen N h) (hN : N ≤ N') : HLen N' h := fun k p i t h1 h2 => Nat.le_trans (K k p i t h1 h2) hN
theorem HLen.new (N n : Nat) : HLen N (HHeap.new n) := fun k p i t h => by simp [HHeap.new] at h
theorem HLen.open {N : Nat} {h : HHeap} (K : HLen N h) : HLen N h.open_.2.2 := by
  unfold HHeap.open_
  split
  · exact K
  · intro k p i t hp hi
    rcases push_or hp with e | e
    · subst e; simp [newP] at hi
    · exact K k p i t e hi
theorem HLen.shut {N : Nat} {h : HHeap} (K : HLen N h) (v : HVal) : HLen N (h.shut v).2 := by
  unfold HHeap.shut
  cases ha : h.at v with
  | none => exact K
  | some q =>
    intro k p i t hp hi
    rcases set_or hp with e | e
    · subst e; simp [noP] at hi
    · exact K k p i t e hi
theorem HLen.put {N : Nat} {h : HHeap} (K : HLen N h) (v : HVal) (t : HThing) (words : Int) (ht : t.l.length ≤ N) : HLen N (h.put v t words).2.2 := by
  cases ha : h.at v with
  | none => rw [show h.put v t words = (noV, 20, h) by unfold HHeap.put; rw [ha]]; exact K
  | some p =>
    obtain ⟨hk, hq, j, hj, hLj, hth⟩ := HHeap.at_some ha
    by_cases e : p.tight words = true ∧ h.left = 0
    · rw [HHeap.put_full t words ha e.1 e.2]; exact K
    · rw [HHeap.put_ok t words ha hj e]
      intro k q i u hq hi
      rcases set_or hq with e' | e'
      · subst e'
        simp only at hi
        rcases Nat.lt_or_ge i p.l.length with hl | hl
        · rw [List.getElem?_append_left hl] at hi; exact K j p i u hLj hi
        · rw [List.getElem?_append_right hl] at hi
          have := (List.getElem?_eq_some_iff.1 hi).1
          have : i - p.l.length = 0 := by simp at this; omega
          rw [this] at hi; simp at hi; subst hi; exact ht
      · exact K k q i u e' hi
theorem HLen.thing {N : Nat} {h : HHeap} (K : HLen N h) {v : HVal} {t : HThing} (e : h.thing v = some t) : t.l.length ≤ N := by
  obtain ⟨-, p, hp, -, hi, -⟩ := HHeap.thing_iff.1 e
  exact K _ p _ t (HHeap.place_some hp).2.1 hi
theorem live_le {h : HHeap} (hl : h.live ≤ 16) : h.open_.2.2.live ≤ 16 := by
  unfold HHeap.open_
  split
  · exact hl
  · rw [HHeap.live_push]; omega
theorem live_put {h : HHeap} (v : HVal) (t : HThing) (words : Int) : (h.put v t words).2.2.live = h.live := by
  cases ha : h.at v with
  | none => rw [show h.put v t words = (noV, 20, h) by unfold HHeap.put; rw [ha]]
  | some p =>
    obtain ⟨hk, hq, j, hj, hLj, hth⟩ := HHeap.at_some ha
    by_cases e : p.tight words = true ∧ h.left = 0
    · rw [HHeap.put_full t words ha e.1 e.2]
    · rw [HHeap.put_ok t words ha hj e]
      have h1 := HHeap.live_set (h := h) (q := { p.roomed words with l := p.l ++ [t] }) hLj (h.roomLeft p words)
      have h2 : ({ p.roomed words with l := p.l ++ [t] } : HPlace).there = true := by show (p.roomed words).there = true; rw [HPlace.roomed_there]; exact hth
      rw [hth, h2] at h1
      simpa using h1
end Go.Proofs.Ytjhdpajpibdnaae
