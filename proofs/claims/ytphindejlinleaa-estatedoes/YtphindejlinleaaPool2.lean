/-
  More contracts: copies of words (slices.Clone, Words), the comparing of words (SameLongs).
-/
import Derived.Test.YtphindejlinleaaPoolNew
import Derived.Test.YtphindejlinleaaPoolWords
import Derived.Test.YtphindejlinleaaIn
namespace Go.Proofs.Ytphindejlinleaa
open Go.ChangeShapes Go.WideShapes Go.ChangeAt Go.RowKit
set_option linter.unusedVariables false

set_option maxHeartbeats 400000 in
theorem same_any (w : World) (v u : Value) (xs : List Int) (hv : Longs w v xs) (hu : Longs w u xs) (hx : xs.length ≤ 1000000) :
    Calls Try.prog 22 #[v, u] w fun e w' => e = .returned (.bool true) ∧ ∃ m, w' = w.drewN m := by
  obtain ⟨a, cap, rfl, ha⟩ := hv
  obtain ⟨b, bap, rfl, hb⟩ := hu
  obtain ⟨len, hlen⟩ : ∃ len, xs.length = len := ⟨_, rfl⟩
  rw [hlen] at hx ha hb ⊢
  clear hlen
  go_enter Try.func22, Try.ntmps22
  go_wp2
  go_loopw [5] (fun i wr => ∃ k m : Nat, k ≤ len ∧ i = .int .i64 k ∧ wr = w.drewN m) (fun i _ => len - (intOf i).toNat)
  case atStart => exact ⟨0, 0, Nat.zero_le _, rfl, rfl⟩
  case round =>
    obtain ⟨k, m, hk, rfl, rfl⟩ := hrel
    by_cases hlt : k < len
    · obtain ⟨g, o, rfl, hg⟩ := ha k hlt
      obtain ⟨g', o', rfl, hg'⟩ := hb k hlt
      clear ha hb
      obtain ⟨y, hy⟩ : ∃ y, y = xs.getD k 0 := ⟨_, rfl⟩
      rw [← hy] at hg hg'
      clear hy
      have hb1 : (k : Int) < len := by omega
      have hb0 : (0 : Int) ≤ k := by omega
      go_wp2_with fail
      go_quiet (fail)
      go_wp2
      go_roundw
      case rel => exact ⟨k + 1, _, by omega, by go_num, rfl⟩
      case measure => simp [intOf]; omega
    · clear ha hb
      go_wp2
      go_ret
      exact ⟨rfl, _, rfl⟩

theorem clone_any (w : World) (g n cap : Nat) (f : Nat → Int) (h : w.rowIs g 2 n (fun i => .int .i64 (f i))) (hn : n ≤ 1000000) :
    Calls Try.prog 50 #[.slice (some ⟨g, 0, none⟩) n cap] w fun e w' => ∃ v, e = .returned v ∧ Row w' (fun x => w.heap.size ≤ x) 2 v ((List.range n).map f) ∧ Below w.heap.size w w' := by
  obtain ⟨i0, hi, hz0, hz1, hz2⟩ := info_parts info_int64
  have hlt := h.lt
  have H : Hid (w.rowIs g 2 n (fun i => .int .i64 (f i))) := h
  have q : ∀ (w : World) (a : Option Addr) (n c n' c' : Nat), (binOp .eql 38 (.slice a n c) (.slice none n' c')).run Try.prog w = .ok (.bool a.isNone) w := fun w a n c n' c' => Lib.run_eql_slice_nil w _ _ a n c n' c' under_int64s
  clear h
  go_enter Try.func50, Try.ntmps50
  go_wp2_with (at_builtin; refine wpList_append_own _ rfl _ _ 38 rfl w.heap.size 2 i0 (.int .i64 0) 1 8 under_int64s hi hz0 hz1 hz2 rfl (by decide) _ _ _ rfl (World.ownsRow_made w #[] 0 (Nat.le_refl _) (Nat.zero_le _) rfl) ⟨g, 0, none⟩ n cap (((List.range n).map f).map (Value.int .i64)) rfl ?qc1 ?qc2 ?qc3 ?qc4 ?qc5 ?qc6 ?_)
  case qc1 => simp
  case qc2 =>
    intro j u hj
    have hjn : j < n := by
      have := (List.getElem?_eq_some_iff.1 hj).1
      simpa using this
    rw [Addr.add_lit, Nat.zero_add]
    refine Lib.cell?_alloc_some _ ?_
    rw [H.out.cell hjn]
    rw [← hj]; simp [hjn]
  case qc3 => intro u hu; obtain ⟨x, _, rfl⟩ := List.mem_map.1 hu; rfl
  case qc4 => unfold maxLen; omega
  case qc5 => omega
  case qc6 => simp
  intro v' w1 hown hgrow hnil
  go_wp2
  go_ret
  refine ⟨v', rfl, ?_, ?_⟩
  · refine ⟨?_, fun x hx => ?_⟩
    · have e : ((List.range n).map f).length = n := by simp
      rw [e]
      obtain ⟨h1, h2⟩ := hown
      refine ⟨by simp, ?_⟩
      rcases h2 with h2 | ⟨g', cap', cur, hv, hg, hh, r⟩
      · exact Or.inl h2
      · exact Or.inr ⟨g', cap', cur, hv, Nat.zero_le _, hh, by simpa using r⟩
    · obtain ⟨h1, h2⟩ := hown
      rcases h2 with h2 | ⟨g', cap', cur, hv, hg, hh, r⟩
      · rw [h2.1] at hx; simp [Value.ownBlock] at hx
      · rw [hv] at hx; simp [Value.ownBlock] at hx; omega
  · exact ((Below.refl _ w).alloc (Nat.le_refl _) _).grown hgrow (by simp) (by intro k hk; simp [Value.ownBlock] at hk; omega)

theorem words_any (w : World) (b : Nat) (O : Nat → Prop) (s : St) (h : PoolAt w b O s) :
    Calls Try.prog 23 #[.pointer (some ⟨b, 0, none⟩)] w fun e w' => ∃ v, e = .returned v ∧ Row w' (fun x => w.heap.size ≤ x) 2 v ((List.range (16 * s.pages)).map s.ws) ∧ Below w.heap.size w w' := by
  have h64 := h.ok.most
  obtain ⟨gw, n, vg, hb, hr, hg, ho, how, hn, hok⟩ := h
  have c0 : w.cell? ⟨b, 0, none⟩ = some (.slice (some ⟨gw, 0, none⟩) n n) := cellOf hb 0 _ rfl
  have C : Hid (Calls Try.prog 50 #[.slice (some ⟨gw, 0, none⟩) n n] w fun e w' => ∃ v, e = .returned v ∧ Row w' (fun x => w.heap.size ≤ x) 2 v ((List.range n).map s.ws) ∧ Below w.heap.size w w') := clone_any w gw n n s.ws hr (by omega)
  rw [← hn]
  clear hb hr hg hn
  go_enter Try.func23, Try.ntmps23
  go_wp2_with fail
  refine (C.out).mono ?_
  rintro e w' ⟨v, rfl, h1, h2⟩
  go_wp2
  go_ret
  exact ⟨v, rfl, h1, h2⟩

end Go.Proofs.Ytphindejlinleaa
