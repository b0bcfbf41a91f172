/-
  types.write, writeList, Text.
-/
import Derived.Test.YtpcnlplcpoohgabDoorTypBld
import Derived.Test.YtpcnlplcpoohgabDoorTypTxt
namespace Go.Proofs.YtpcnlplcpoohgabDoor
open Go.ChangeShapes Go.WideShapes Go.ChangeAt Go.RowKit
set_option linter.unusedVariables false

abbrev Lt (B : Nat) : Nat → Prop := fun g => g < B
theorem TIn.lt {w w' : World} {B n : Nat} {t : TT n} {a : Option Addr} (h : TIn w (Lt B) t a) (b : Below B w w') : TIn w' (Lt B) t a := h.keep (fun k hk _ => b.block k hk) (fun _ h _ => h)
/-- The table of powers stands below B. -/
def PowB (B : Nat) (w : World) : Prop := ∀ w', Below B w w' → Pows w'
theorem PowB.on {B : Nat} {w w1 : World} (h : PowB B w) (b : Below B w w1) : PowB B w1 := fun w' h' => h w' (b.trans h')
abbrev IsB (B b : Nat) (bs : List UInt8) (w : World) : Prop := Lib.IsBuilderF 46 5 B b (Lib.byteCells bs) w

/-- WriteString, in bytes. -/
theorem ws_bytes (B b : Nat) (bs s : List UInt8) (w : World) (h : IsB B b bs w) (hlen : bs.length + s.length ≤ 1000000000) (hBw : B ≤ w.heap.size) :
    Calls Tryd.prog 30 #[.pointer (some ⟨b, 0, none⟩), .string ⟨s.toArray⟩] w fun e w' => (∃ v, e = .returned v) ∧ IsB B b (bs ++ s) w' ∧ Below B w w' ∧ Lib.OthersKept 5 (some b) w w' := by
  refine (ws_any B b (Lib.byteCells bs) ⟨s.toArray⟩ w h (by rw [Lib.byteCells_length]; show _ + s.toArray.size ≤ _; simp; omega) hBw).mono ?_
  rintro e w' ⟨rfl, h1, h2, h3⟩
  refine ⟨⟨_, rfl⟩, ?_, h2, h3⟩
  rw [Lib.strCells_toArray, ← Lib.byteCells_append] at h1
  exact Or.inr h1

theorem bld_lt {B b : Nat} {bs : List UInt8} {w : World} (h : IsB B b bs w) : b < w.heap.size := by
  rcases h with ⟨_, v, h, _⟩ | ⟨_, v, h, _⟩ <;> exact lt_of_block h

def WriteAt (n : Nat) : Prop := ∀ (t : TT n) (a : Option Addr) (c B bb : Nat) (bs : List UInt8) (w : World), IsB B bb bs w → TIn w (Lt B) t a → t.count ≤ 2000 → t.ok → B ≤ w.heap.size → PowB B w → bs.length + 100 * t.count ≤ 1000000000 →
    Calls Tryd.prog 25 #[.pointer (some ⟨bb, 0, none⟩), Tv t a c] w fun e w' => e = .returned (.tuple #[]) ∧ IsB B bb (bs ++ t.txt) w' ∧ Below B w w'
def WriteLAt (n : Nat) : Prop := ∀ (l : List (TT n)) (a : Option Addr) (c B bb : Nat) (bs : List UInt8) (w : World), IsB B bb bs w → LIn w (Lt B) l a → (∀ x ∈ l, x.count ≤ 2000) → l.length ≤ 2000 → (∀ x ∈ l, x.ok) → B ≤ w.heap.size → PowB B w → bs.length + 100 * (l.map TT.count).sum ≤ 1000000000 →
    Calls Tryd.prog 31 #[.pointer (some ⟨bb, 0, none⟩), .slice a l.length c] w fun e w' => e = .returned (.tuple #[]) ∧ IsB B bb (bs ++ catL (l.map TT.txt)) w' ∧ Below B w w'

set_option maxHeartbeats 4000000 in
set_option maxRecDepth 100000 in
theorem writeList_any (n : Nat) (IH0 : WriteAt n) : WriteLAt n := by
  intro l a c B bb bs w hB0 hl0 hco0 hlen hok0 hBw hp0 hbs
  have IH : Hid (WriteAt n) := IH0
  have hl : Hid (LIn w (Lt B) l a) := hl0
  have hco : Hid (∀ x ∈ l, x.count ≤ 2000) := hco0
  have hok : Hid (∀ x ∈ l, x.ok) := hok0
  have hp : Hid (PowB B w) := hp0
  have hB : Hid (IsB B bb bs w) := hB0
  have hbs' : Hid (bs.length + 100 * (l.map TT.count).sum ≤ 1000000000) := hbs
  clear IH0 hl0 hco0 hok0 hp0 hB0 hbs
  go_enter Tryd.func31, Tryd.ntmps31
  go_wp2_with fail
  go_loopw [8] (fun i wr => ∃ q : Nat, q ≤ l.length ∧ i = .int .i64 q ∧ IsB B bb (bs ++ catL ((l.take q).map TT.txt)) wr ∧ Below B w wr) (fun i _ => l.length - (intOf i).toNat)
  case atStart => exact ⟨0, Nat.zero_le _, rfl, by simpa [catL] using hB.out, Below.refl _ _⟩
  case round =>
    obtain ⟨q, hq, rfl, hI, hb⟩ := hrel
    have I : Hid (IsB B bb (bs ++ catL ((l.take q).map TT.txt)) wr) := hI
    have Bl : Hid (Below B w wr) := hb
    clear hI hb
    by_cases hlt : q < l.length
    · have hx : l[q]? = some l[q] := List.getElem?_eq_getElem hlt
      generalize l[q] = x at hx
      obtain ⟨g, o, a', c', rfl, hgB, d0, d1, d2, hk⟩ := LIn.at (hl.out.lt Bl.out) hx
      have hg : g < wr.heap.size := World.block_lt_of_cell? wr ⟨g, o + q * 3, none⟩ d0
      have hmem := List.mem_of_getElem? hx
      have hS : catL ((l.take (q + 1)).map TT.txt) = catL ((l.take q).map TT.txt) ++ (if q = 0 then [] else [44, 32]) ++ x.txt := by
        rw [List.take_add_one, hx, Option.toList_some, List.map_append, List.map_cons, List.map_nil, catL_snoc]
        rw [List.length_map, List.length_take, Nat.min_eq_left (by omega)]
      have hlq := cat_take_len hok.out q
      have hsq := sum_take_succ TT.count l q x hx
      have hsl := sum_take_le (l.map TT.count) (q + 1)
      have hbs'' := hbs'.out
      have hcp := x.count_pos
      have hl0 : ∀ y ∈ (l.map TT.count).take q, 1 ≤ y := fun y hy => by obtain ⟨z, _, rfl⟩ := List.mem_map.1 (List.mem_of_mem_take hy); exact z.count_pos
      have hl3 := length_le_sum _ hl0
      rw [List.length_take, List.length_map] at hl3
      have hL : Hid ((bs ++ catL ((l.take q).map TT.txt)).length + (if q = 0 then 0 else 2) + 100 * x.count ≤ 1000000000) := by
        show _ ≤ _
        rw [List.length_append]
        split <;> omega
      have S : Hid (catL ((l.take (q + 1)).map TT.txt) = catL ((l.take q).map TT.txt) ++ (if q = 0 then [] else [44, 32]) ++ x.txt) := hS
      have C : Hid (∀ (bs' : List UInt8) (wx : World), Below B wr wx → IsB B bb bs' wx → bs'.length + 100 * x.count ≤ 1000000000 → Calls Tryd.prog 25 #[.pointer (some ⟨bb, 0, none⟩), Tv x a' c'] wx fun e w' => e = .returned (.tuple #[]) ∧ IsB B bb (bs' ++ x.txt) w' ∧ Below B wx w') :=
        fun bs' wx hb hI hl' => IH.out x a' c' B bb bs' wx hI (hk.lt hb) (hco.out x hmem) (hok.out x hmem) (by have := Bl.out.size; have := hb.size; omega) ((hp.out.on Bl.out).on hb) hl'
      have hk0 : (0 : Int) ≤ q := by omega
      have hk1 : (q : Int) < l.length := by omega
      have hk2 : (q : Int) < 2000 := by omega
      clear hS hlq hsq hsl hbs'' hcp hl0 hl3 hk hx hmem
      simp only [Tv] at C
      generalize x.kind = kx at C d0
      generalize x.r = rx at C d1
      generalize x.len = lx at C d2
      have hbw := Bl.out.size
      have b1 : Below B wr (wr.alloc (.cells #[.int .i64 kx, .int .i64 rx, .slice a' lx c'] 24)) := (Below.refl B wr).alloc (by omega) _
      have I1 : Hid (IsB B bb (bs ++ catL ((l.take q).map TT.txt)) (wr.alloc (.cells #[.int .i64 kx, .int .i64 rx, .slice a' lx c'] 24))) := I.out.alloc _
      by_cases hz : q = 0
      · have hz' : ¬ (0 : Int) < q := by omega
        have R : Hid (bs ++ catL ((l.take (q + 1)).map TT.txt) = bs ++ catL ((l.take q).map TT.txt) ++ x.txt) := by rw [S.out, if_pos hz]; show _ = _; simp
        have L2 : Hid ((bs ++ catL ((l.take q).map TT.txt)).length + 100 * x.count ≤ 1000000000) := by have := hL.out; rw [if_pos hz] at this; exact this
        clear hz
        go_wp2_with fail
        refine (C.out _ _ b1 I1.out L2.out).mono ?_
        rintro e w2 ⟨rfl, I2, b2⟩
        have I3 : Hid (IsB B bb (bs ++ catL ((l.take (q + 1)).map TT.txt)) w2) := by rw [R.out]; exact I2
        have B3 : Hid (Below B w w2) := Bl.out.trans (b1.trans b2)
        clear I2 b2 I1 I C b1
        go_wp2
        go_roundw
        case rel => exact ⟨q + 1, by omega, by go_num, I3.out, B3.out⟩
        case measure => simp [intOf]; omega
      · have hz' : (0 : Int) < q := by omega
        have R : Hid (bs ++ catL ((l.take (q + 1)).map TT.txt) = bs ++ catL ((l.take q).map TT.txt) ++ [44, 32] ++ x.txt) := by rw [S.out, if_neg hz]; show _ = _; simp
        have L2 : Hid ((bs ++ catL ((l.take q).map TT.txt)).length + 2 + 100 * x.count ≤ 1000000000) := by have := hL.out; rw [if_neg hz] at this; exact this
        have hBb : Hid (B ≤ (wr.alloc (.cells #[.int .i64 kx, .int .i64 rx, .slice a' lx c'] 24)).heap.size) := by show _ ≤ _; simp; omega
        have hne : Hid (wr.heap.size ≠ bb) := fun e => by have := bld_lt I.out; omega
        clear hz
        go_wp2_with fail
        refine (ws_bytes B bb _ [44, 32] _ I1.out (by have := L2.out; simp only [List.length_cons, List.length_nil]; omega) hBb.out).mono ?_
        rintro e w2 ⟨⟨v, rfl⟩, I2, b2, k2⟩
        have x2 : w2.heap[wr.heap.size]? = some (.cells #[.int .i64 kx, .int .i64 rx, .slice a' lx c'] 24 (0, 0)) := k2 _ _ (blockNew wr _ _) (fun e => hne.out (Option.some.inj e)) (fun _ _ e => by cases e)
        have e0 := cellOf x2 0 _ rfl
        have e1 := cellOf x2 1 _ rfl
        have e2 := cellOf x2 2 _ rfl
        have I2' : Hid (IsB B bb (bs ++ catL ((l.take q).map TT.txt) ++ [44, 32]) w2) := I2
        have b3 : Below B wr w2 := b1.trans b2
        clear k2 b2 I2 x2 I1 I b1
        go_wp2_with fail
        refine (C.out _ _ b3 I2'.out (by have := L2.out; rw [List.length_append]; simpa using this)).mono ?_
        rintro e w3 ⟨rfl, I3, b4⟩
        have I4 : Hid (IsB B bb (bs ++ catL ((l.take (q + 1)).map TT.txt)) w3) := by rw [R.out]; exact I3
        have B4 : Hid (Below B w w3) := Bl.out.trans (b3.trans b4)
        clear I3 b4 b3 C
        go_wp2
        go_roundw
        case rel => exact ⟨q + 1, by omega, by go_num, I4.out, B4.out⟩
        case measure => simp [intOf]; omega
    · have hk1 : ¬ (q : Int) < l.length := by omega
      have htt : l.take q = l := List.take_of_length_le (by omega)
      have I2 := I.out
      rw [htt] at I2
      have I3 : Hid (IsB B bb (bs ++ catL (l.map TT.txt)) wr) := I2
      clear I2 htt I
      go_wp2
      go_end0
      exact ⟨rfl, I3.out, Bl.out⟩
end Go.Proofs.YtpcnlplcpoohgabDoor
