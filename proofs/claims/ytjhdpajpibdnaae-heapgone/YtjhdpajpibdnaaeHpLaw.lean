/-
  Package heap, for the laws: an object whose blocks are all newer than a base world and none of those that are kept.
-/
import Derived.Test.YtjhdpajpibdnaaeHpArr
import Derived.Test.YtjhdpajpibdnaaeHpSpec2
namespace Go.Proofs.Ytjhdpajpibdnaae
open Go.ChangeShapes Go.WideShapes Go.ChangeAt Go.RowKit
set_option linter.unusedVariables false
set_option linter.unusedSimpArgs false

def HS (w0 w : World) (b : Nat) (h : HHeap) (K : Nat → Prop) : Prop := ∃ O G, HIn w b O h G ∧ (∀ x, O x → w0.heap.size ≤ x ∧ ¬ K x) ∧ Below w0.heap.size w0 w
/-- Behind a call: the state, what is kept as it was. -/
structure HNext (w0 w w' : World) (b : Nat) (h' : HHeap) (K : Nat → Prop) : Prop where
  st : HS w0 w' b h' K
  keep : ∀ x, K x → w'.heap[x]? = w.heap[x]?
  size : w.heap.size ≤ w'.heap.size
structure HB (N : Nat) (h : HHeap) : Prop where
  ok : HOk N 1000000 h
  len : HLen N h
  live : h.live ≤ 16
theorem HB.mono {N N' : Nat} {h : HHeap} (B : HB N h) (hN : N ≤ N') : HB N' h := ⟨B.ok.mono hN, B.len.mono hN, B.live⟩
section
variable {w0 w w' : World} {b N : Nat} {h h' : HHeap} {K K' : Nat → Prop}
theorem HS.below (S : HS w0 w b h K) : Below w0.heap.size w0 w := by obtain ⟨_, _, _, _, b⟩ := S; exact b
theorem HNext.of {O : Nat → Prop} (hO : ∀ x, O x → w0.heap.size ≤ x ∧ ¬ K x) (hb : Below w0.heap.size w0 w) (hK : ∀ x, K x → x < w.heap.size) (T : HTo w w' b O h') : HNext w0 w w' b h' K := by
  obtain ⟨O', G', H', st, ho⟩ := T
  have hs := hb.size
  refine ⟨⟨O', G', H', fun x hx => ?_, st.os.trans hb.os, st.tape.trans hb.tape, st.output.trans hb.output, Nat.le_trans hs st.size, fun k hk => (st.block k (by omega) (fun e => by have := (hO k e).1; omega)).trans (hb.block k hk)⟩, fun x hx => st.block x (hK x hx) (fun e => (hO x e).2 hx), st.size⟩
  rcases st.own x hx with e | e
  · exact hO x e
  · exact ⟨by omega, fun k => by have := hK x k; omega⟩
theorem HNext.same (S : HS w0 w b h K) (hK : ∀ x, K x → x < w.heap.size) (c : Below w.heap.size w w') : HNext w0 w w' b h K := by
  obtain ⟨O, G, H, hO, hb⟩ := S
  exact HNext.of hO hb hK (HTo.same (H.below c) c)
theorem HS.alloc (S : HS w0 w b h K) (o : Obj) : HS w0 (w.alloc o) b h (fun x => K x ∨ x = w.heap.size) := by
  obtain ⟨O, G, H, hO, hb⟩ := S
  have c := belA w o
  refine ⟨O, G, H.below c, fun x hx => ⟨(hO x hx).1, fun e => ?_⟩, hb.trans (c.mono hb.size)⟩
  rcases e with e | e
  · exact (hO x hx).2 e
  · have := H.lt x hx; omega
theorem HS.set (S : HS w0 w b h K) {X : Nat} (hX : K X) (h0 : w0.heap.size ≤ X) (i : Nat) (v : Value) : HS w0 (w.setCell ⟨X, i, none⟩ v) b h K := by
  obtain ⟨O, G, H, hO, hb⟩ := S
  exact ⟨O, G, H.keep (by simp) (fun x hx _ => Below.heap_setCell _ _ _ _ (fun e => (hO x hx).2 (e ▸ hX))), hO, hb.setCell (p := ⟨X, i, none⟩) h0 _⟩
theorem HS.grown (S : HS w0 w b h K) {row : Option Nat} (g : w.grownBy w' row) (hr : ∀ x, row = some x → K x ∧ w0.heap.size ≤ x) (hK' : ∀ x, K' x → K x ∨ w.heap.size ≤ x) : HS w0 w' b h K' := by
  obtain ⟨O, G, H, hO, hb⟩ := S
  refine ⟨O, G, H.keep g.size (fun x hx hl => g.block x hl (fun e => (hO x hx).2 (hr x e.symm).1)), fun x hx => ⟨(hO x hx).1, fun e => ?_⟩, g.os.trans hb.os, g.tape.trans hb.tape, g.output.trans hb.output, Nat.le_trans hb.size g.size, fun k hk => (g.block k (by have := hb.size; omega) (fun e => by have := (hr k e.symm).2; omega)).trans (hb.block k hk)⟩
  rcases hK' x e with e | e
  · exact (hO x hx).2 e
  · have := H.lt x hx; omega
theorem HS.mono (S : HS w0 w b h K) (hK' : ∀ x, K' x → K x) : HS w0 w b h K' := by
  obtain ⟨O, G, H, hO, hb⟩ := S
  exact ⟨O, G, H, fun x hx => ⟨(hO x hx).1, fun e => (hO x hx).2 (hK' x e)⟩, hb⟩
theorem HB.pl (B : HB N h) (hN : N ≤ 1000000) : ∀ (k : Nat) (p : HPlace), h.L[k]? = some p → p.l.length ≤ 4611686018427387904 := fun k p hp => by have := B.ok.things k p hp; omega
theorem sopen (S : HS w0 w b h K) (B : HB N h) (hN : N ≤ 1000000) (hK : ∀ x, K x → x < w.heap.size) :
    Calls Try.prog 9 #[.pointer (some ⟨b, 0, none⟩)] w fun e w' => e = .returned (.tuple #[vAgg h.open_.1, .bool h.open_.2.1]) ∧ HNext w0 w w' b h.open_.2.2 K := by
  obtain ⟨O, G, H, hO, hb⟩ := S
  exact (hopen_any H (by have := B.ok.len; omega) B.live).mono fun e w' ⟨h1, h2⟩ => ⟨h1, HNext.of hO hb hK h2⟩
theorem HB.open (B : HB N h) : HB (N + 1) h.open_.2.2 := ⟨B.ok.open, B.len.open.mono (Nat.le_succ _), live_le B.live⟩
theorem sshut (S : HS w0 w b h K) (B : HB N h) (hN : N ≤ 1000000) (hK : ∀ x, K x → x < w.heap.size) (v : HVal) (hv : v.ok) :
    Calls Try.prog 11 #[.pointer (some ⟨b, 0, none⟩), vAgg v] w fun e w' => e = .returned (.bool (h.shut v).1) ∧ HNext w0 w w' b (h.shut v).2 K := by
  obtain ⟨O, G, H, hO, hb⟩ := S
  exact (hshut_any H v hv (fun p hp => by have := (B.ok.of hp).2.2.2; omega)).mono fun e w' ⟨h1, h2⟩ => ⟨h1, HNext.of hO hb hK h2⟩
theorem HB.shut (B : HB N h) (v : HVal) : HB N (h.shut v).2 := by
  refine ⟨B.ok.shut v, B.len.shut v, ?_⟩
  unfold HHeap.shut
  cases ha : h.at v with
  | none => exact B.live
  | some p =>
    obtain ⟨_, _, j, hj, hLj, hth⟩ := HHeap.at_some ha
    have := HHeap.live_set (h := h) (q := noP) hLj (h.left + p.pages)
    have hl := B.live
    rw [hth] at this
    simp only [hj, Int.toNat_natCast]
    simp [noP] at this ⊢
    omega
theorem stuple (S : HS w0 w b h K) (B : HB N h) (hN : N ≤ 1000000) (hK : ∀ x, K x → x < w.heap.size) (v : HVal) (hv : v.ok) {a : Option Addr} {n c : Nat} {l : List HVal} (hn : l.length = n) (hb1 : n ≤ 1000000) (hl : VIn w a l) (ha : ∀ g o, a = some ⟨g, o, none⟩ → K g ∨ g < w0.heap.size) :
    Calls Try.prog 14 #[.pointer (some ⟨b, 0, none⟩), vAgg v, .slice a n c] w fun e w' => e = .returned (.tuple #[vAgg (h.tuple v (l.map HVal.bare)).1, .int .i64 (h.tuple v (l.map HVal.bare)).2.1]) ∧ HNext w0 w w' b (h.tuple v (l.map HVal.bare)).2.2 K := by
  obtain ⟨O, G, H, hO, hb⟩ := S
  have fin : ∀ (e : Ending) (w' : World), (e = .returned (.tuple #[vAgg (h.tuple v (l.map HVal.bare)).1, .int .i64 (h.tuple v (l.map HVal.bare)).2.1]) ∧ HTo w w' b O (h.tuple v (l.map HVal.bare)).2.2) → (e = .returned (.tuple #[vAgg (h.tuple v (l.map HVal.bare)).1, .int .i64 (h.tuple v (l.map HVal.bare)).2.1]) ∧ HNext w0 w w' b (h.tuple v (l.map HVal.bare)).2.2 K) := fun e w' ⟨h1, h2⟩ => ⟨h1, HNext.of hO hb hK h2⟩
  cases hat : h.at v with
  | none => exact (htup_none H v hv hn (by omega) hl hat).mono fin
  | some p =>
    obtain ⟨k1, k2, k3, k4⟩ := B.ok.of hat
    obtain ⟨-, -, k, hkv, -, -⟩ := HHeap.at_some hat
    by_cases hf : p.tight (tupW n) = true ∧ h.left = 0
    · exact (htup_full H v hv hn (by omega) hl hat hf.1 hf.2 (by omega)).mono fin
    · refine (htup_ok H v hv hn (by omega) hl hat hkv hf (by omega) (by omega) (by omega) (by omega) (fun g o e hg => ?_)).mono fin
      rcases ha g o e with h1 | h1
      · exact (hO g hg).2 h1
      · have := (hO g hg).1; omega
theorem HB.tuple (B : HB N h) (v : HVal) (l : List HVal) {M : Nat} (hM : l.length ≤ M) : HB (N + M + 2) (h.tuple v l).2.2 := by
  refine ⟨?_, (HLen.put (B.len.mono (show N ≤ N + M + 2 by omega)) v ⟨false, l⟩ _ (by show l.length ≤ _; omega)), by rw [show h.tuple v l = h.put v ⟨false, l⟩ (if l.length = 0 then 1 else l.length) from rfl, live_put]; exact B.live⟩
  exact (B.ok.put v ⟨false, l⟩ (words := if l.length = 0 then 1 else l.length) (M := M + 1) (by split <;> omega)).mono (by omega)
theorem sarray (S : HS w0 w b h K) (B : HB N h) (hN : N ≤ 1000000) (hK : ∀ x, K x → x < w.heap.size) (v : HVal) (hv : v.ok) {n : Nat} (hn : n ≤ 15) :
    Calls Try.prog 16 #[.pointer (some ⟨b, 0, none⟩), vAgg v, .int .i64 (n : Int)] w fun e w' => e = .returned (.tuple #[vAgg (h.array v (n : Int)).1, .int .i64 (h.array v (n : Int)).2.1]) ∧ HNext w0 w w' b (h.array v (n : Int)).2.2 K := by
  obtain ⟨O, G, H, hO, hb⟩ := S
  have fin : ∀ (e : Ending) (w' : World), (e = .returned (.tuple #[vAgg (h.array v (n : Int)).1, .int .i64 (h.array v (n : Int)).2.1]) ∧ HTo w w' b O (h.array v (n : Int)).2.2) → (e = .returned (.tuple #[vAgg (h.array v (n : Int)).1, .int .i64 (h.array v (n : Int)).2.1]) ∧ HNext w0 w w' b (h.array v (n : Int)).2.2 K) := fun e w' ⟨h1, h2⟩ => ⟨h1, HNext.of hO hb hK h2⟩
  cases hat : h.at v with
  | none => exact (harr_none H v hv hn hat).mono fin
  | some p =>
    obtain ⟨k1, k2, k3, k4⟩ := B.ok.of hat
    obtain ⟨-, -, k, hkv, -, -⟩ := HHeap.at_some hat
    by_cases hf : p.tight ((n : Int) + 1) = true ∧ h.left = 0
    · exact (harr_full H v hv hn hat hf.1 hf.2 (by omega)).mono fin
    · exact (harr_ok H v hv hn hat hkv hf (by omega) (by omega) (by omega) (by omega)).mono fin
theorem sget (S : HS w0 w b h K) (B : HB N h) (hN : N ≤ 1000000) (hK : ∀ x, K x → x < w.heap.size) (v : HVal) (hv : v.ok) (k : Int) :
    Calls Try.prog 18 #[.pointer (some ⟨b, 0, none⟩), vAgg v, .int .i64 k] w fun e w' => e = .returned (.tuple #[vAgg (h.get v k).1, .int .i64 (h.get v k).2]) ∧ HNext w0 w w' b h K := by
  have S0 := S
  obtain ⟨O, G, H, hO, hb⟩ := S
  exact (hget_any H v hv k (B.pl hN) (fun t ht => by have := B.len.thing ht; omega)).mono fun e w' ⟨h1, h2⟩ => ⟨h1, HNext.same S0 hK h2⟩
theorem slen (S : HS w0 w b h K) (B : HB N h) (hN : N ≤ 1000000) (hK : ∀ x, K x → x < w.heap.size) (v : HVal) (hv : v.ok) :
    Calls Try.prog 22 #[.pointer (some ⟨b, 0, none⟩), vAgg v] w fun e w' => e = .returned (.tuple #[.int .i64 (h.len v).1, .int .i64 (h.len v).2]) ∧ HNext w0 w w' b h K := by
  have S0 := S
  obtain ⟨O, G, H, hO, hb⟩ := S
  exact (hlen_any H v hv (B.pl hN)).mono fun e w' ⟨h1, h2⟩ => ⟨h1, HNext.same S0 hK h2⟩
theorem sset (S : HS w0 w b h K) (B : HB N h) (hN : N ≤ 1000000) (hK : ∀ x, K x → x < w.heap.size) (v : HVal) (hv : v.ok) (k : Int) (x : HVal) :
    Calls Try.prog 20 #[.pointer (some ⟨b, 0, none⟩), vAgg v, .int .i64 k, vAgg x] w fun e w' => e = .returned (.int .i64 (h.set v k x.bare).1) ∧ HNext w0 w w' b (h.set v k x.bare).2 K := by
  obtain ⟨O, G, H, hO, hb⟩ := S
  exact (hset_any H v hv k x (B.pl hN) (fun t ht => by have := B.len.thing ht; omega)).mono fun e w' ⟨h1, h2, h3⟩ => ⟨h1, HNext.of hO hb hK ⟨O, G, h2, h3, fun _ h => h⟩⟩
theorem spages (S : HS w0 w b h K) : Calls Try.prog 24 #[.pointer (some ⟨b, 0, none⟩)] w fun e w' => e = .returned (.int .i64 h.left) ∧ w' = w := by
  obtain ⟨O, G, H, hO, hb⟩ := S
  exact hpages_any H
theorem slive (S : HS w0 w b h K) : Calls Try.prog 25 #[.pointer (some ⟨b, 0, none⟩)] w fun e w' => e = .returned (.int .i64 h.live) ∧ w' = w := by
  obtain ⟨O, G, H, hO, hb⟩ := S
  exact hlive_any H
theorem snewH (hb : Below w0.heap.size w0 w) (n : Nat) (hK : ∀ x, K x → x < w.heap.size) : Calls Try.prog 7 #[.int .i64 (n : Int)] w fun e w' => e = .returned (.pointer (some ⟨w.heap.size + 1, 0, none⟩)) ∧ HNext w0 w w' (w.heap.size + 1) (HHeap.new n) K := by
  refine (hnew_any w n).mono fun e w' ⟨h1, h2, h3⟩ => ⟨h1, ⟨_, _, h2, fun x hx => ?_, hb.trans (h3.mono hb.size)⟩, fun x hx => h3.block x (hK x hx), h3.size⟩
  have hs := hb.size
  refine ⟨by omega, fun k => ?_⟩
  have := hK x k
  omega
theorem HB.new (n : Nat) (hn : n ≤ 1000000) : HB 0 (HHeap.new n) := ⟨⟨(HOk.new n).len, (HOk.new n).things, (HOk.new n).used, by have := (HOk.new n).pages; omega⟩, HLen.new 0 n, by simp [HHeap.new, HHeap.live]⟩
end
end Go.Proofs.Ytjhdpajpibdnaae
