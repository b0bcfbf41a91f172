import Derived.Test.YtalfbnllodhkiacGreatDoorP6
import Derived.SizedLaws
import Derived.Lib.LaidTab
import Derived.Stop.LaidErr
import Derived.Stop.Joined
import Derived.LaidMore
import Derived.ChangeMaps5
set_option maxHeartbeats 16000000
set_option maxRecDepth 100000
namespace Go.Proofs.YtalfbnllodhkiacGreatDoor
open Go.ChangeShapes Go.WideShapes Go.ChangeAt Go.RowKit Go.Shelf
set_option linter.unusedSimpArgs false
set_option linter.unusedVariables false
theorem parse_of {t : List UInt8} {m : List (MFunc 6)} (h : parseL t = .ok m) (hl : t.length ≤ 40000) (w : World) (hw : Laid w) :
    Calls Tryz.prog 9 #[.string (str t)] w fun e w'=>∃ a c,e=.returned (.tuple #[.agg #[.slice a m.length c],.agg #[.int .i64 0,.int .i64 0]])∧(modL 6).In w' All m [.slice a m.length c]∧Below w.heap.size w w':=by
  refine (parse_any (str t) w hw (by rw [str_size];unfold maxLen;omega)).mono ?_
  rintro e w' (⟨c,a,-,-,-,hno⟩ | ⟨l,m',q,h1,h2,h3,-,-⟩ | ⟨m',a,c,h1,rfl,h2,h3⟩)
  · rw [str_list] at hno
    exact absurd h (parse_no hno m)
  · rw [str_list] at h1 h2
    unfold parseL at h
    rw [h1] at h
    simp only [h2] at h
    rw [if_pos h3] at h
    cases h
  · rw [str_list,h] at h1
    injection h1 with h1
    subst h1
    exact ⟨a,c,rfl,Lay.mono h2 (fun _ _ _=>trivial),h3⟩
theorem back_walk {n1 c : Nat} {p : Option Addr} {w : World} {g1 : Bool} {s : List UInt8} {f a : Int} {P4 : Option Addr → Nat → World → Prop}
    (CB:Hid (∀ wx,Below w.heap.size w wx→Calls Tryz.prog 17 #[] wx fun e w'=>e=.returned (.bool true)∧Below wx.heap.size wx w'))
    (C1:Hid (∀ wx,Below w.heap.size w wx→Calls Tryz.prog 18 #[.agg #[.slice p n1 c]] wx fun e w'=>e=.returned (.bool g1)∧Below wx.heap.size wx w'))
    (C3:Hid (g1=false→∀ wx,Below w.heap.size w wx→Calls Tryz.prog 20 #[.agg #[.slice p n1 c]] wx (Prints wx (s,f,a))))
    (HS:Hid (f≠0→s=[]))
    (C4:Hid (g1=false→f=0→∀ wx,Below w.heap.size w wx→Calls Tryz.prog 9 #[.string (str s)] wx fun e w'=>∃ a4 c4,e=.returned (.tuple #[.agg #[.slice a4 n1 c4],.agg #[.int .i64 0,.int .i64 0]])∧P4 a4 c4 w'∧Below wx.heap.size wx w'))
    (C5:Hid (g1=false→f=0→∀ a4 c4 wx,Below w.heap.size w wx→P4 a4 c4 wx→Calls Tryz.prog 20 #[.agg #[.slice a4 n1 c4]] wx (Prints wx (s,0,0))))
    (C6:Hid (g1=false→f=0→∀ a4 c4 wx,Below w.heap.size w wx→P4 a4 c4 wx→Calls Tryz.prog 11 #[.agg #[.slice p n1 c],.agg #[.slice a4 n1 c4]] wx fun e w'=>e=.returned (.bool true)∧Below wx.heap.size wx w'))
    (SP:Hid (∀ a4 c4 wx wy,P4 a4 c4 wx→Below wx.heap.size wx wy→P4 a4 c4 wy)) :
    Calls Tryz.prog 6 #[.agg #[.slice p n1 c]] w fun e w'=>e=.returned (.bool true)∧Below w.heap.size w w':=by
  have X1:Blk (w.alloc (.cells #[.slice p n1 c] 25)) w.heap.size #[.slice p n1 c] 25:=Blk.new _ _ _
  have B1:Hid (Below w.heap.size w (w.alloc (.cells #[.slice p n1 c] 25))):=bel1 _ _
  go_enter Tryz.func6,Tryz.ntmps6
  go_wp2_with fail
  generalize w.alloc (.cells #[.slice p n1 c] 25)=w1 at X1 B1 ⊢
  refine (CB.out _ B1.out).mono ?_
  rintro e w2 ⟨rfl,b2⟩
  replace X1:=(b2.block _ (lt_of_block X1)).trans X1
  have B2:Hid (Below w.heap.size w w2):=B1.out.trans (b2.mono B1.out.size)
  clear b2 B1 CB
  have c1:=cellOf X1 0 _ rfl
  go_wp2_with fail
  refine (C1.out _ B2.out).mono ?_
  rintro e w3 ⟨rfl,b3⟩
  replace X1:=(b3.block _ (lt_of_block X1)).trans X1
  have B3:Hid (Below w.heap.size w w3):=B2.out.trans (b3.mono B2.out.size)
  clear b3 B2 C1 c1
  cases g1 with
  | true =>
    clear C3 C4 C5 C6 HS SP X1
    go_wp2
    go_ret
    exact ⟨rfl,B3.out⟩
  | false =>
    replace C3:Hid (∀ wx,Below w.heap.size w wx→Calls Tryz.prog 20 #[.agg #[.slice p n1 c]] wx (Prints wx (s,f,a))):=C3.out rfl
    replace C4:Hid (f=0→∀ wx,Below w.heap.size w wx→Calls Tryz.prog 9 #[.string (str s)] wx fun e w'=>∃ a4 c4,e=.returned (.tuple #[.agg #[.slice a4 n1 c4],.agg #[.int .i64 0,.int .i64 0]])∧P4 a4 c4 w'∧Below wx.heap.size wx w'):=C4.out rfl
    replace C5:Hid (f=0→∀ a4 c4 wx,Below w.heap.size w wx→P4 a4 c4 wx→Calls Tryz.prog 20 #[.agg #[.slice a4 n1 c4]] wx (Prints wx (s,0,0))):=C5.out rfl
    replace C6:Hid (f=0→∀ a4 c4 wx,Below w.heap.size w wx→P4 a4 c4 wx→Calls Tryz.prog 11 #[.agg #[.slice p n1 c],.agg #[.slice a4 n1 c4]] wx fun e w'=>e=.returned (.bool true)∧Below wx.heap.size wx w'):=C6.out rfl
    have c1:=cellOf X1 0 _ rfl
    go_wp2_with fail
    refine (C3.out _ B3.out).mono ?_
    rintro e w5 ⟨rfl,b5⟩
    replace X1:=(b5.block _ (lt_of_block X1)).trans X1
    have B5:Hid (Below w.heap.size w w5):=B3.out.trans (b5.mono B3.out.size)
    clear b5 B3 C3 c1
    unfold PrintV
    replace X1:=((bel1 w5 (.cells #[.int .i64 f,.int .i64 a] 27)).block _ (lt_of_block X1)).trans X1
    have B6:Hid (Below w.heap.size w (w5.alloc (.cells #[.int .i64 f,.int .i64 a] 27))):=B5.out.trans ((bel1 _ _).mono B5.out.size)
    by_cases hf:f=0
    · subst hf
      replace C4:=C4.out rfl
      replace C5:=C5.out rfl
      replace C6:=C6.out rfl
      have H4:Hid (∀ wx,Below w.heap.size w wx→Calls Tryz.prog 9 #[.string (str s)] wx fun e w'=>∃ a4 c4,e=.returned (.tuple #[.agg #[.slice a4 n1 c4],.agg #[.int .i64 0,.int .i64 0]])∧P4 a4 c4 w'∧Below wx.heap.size wx w'):=C4
      have H5:Hid (∀ a4 c4 wx,Below w.heap.size w wx→P4 a4 c4 wx→Calls Tryz.prog 20 #[.agg #[.slice a4 n1 c4]] wx (Prints wx (s,0,0))):=C5
      have H6:Hid (∀ a4 c4 wx,Below w.heap.size w wx→P4 a4 c4 wx→Calls Tryz.prog 11 #[.agg #[.slice p n1 c],.agg #[.slice a4 n1 c4]] wx fun e w'=>e=.returned (.bool true)∧Below wx.heap.size wx w'):=C6
      clear C4 C5 C6 HS
      go_wp2_with fail
      clear B5
      generalize w5.alloc (.cells #[.int .i64 0,.int .i64 a] 27)=w6 at X1 B6 ⊢
      refine (H4.out _ B6.out).mono ?_
      rintro e w7 ⟨a4,c4,rfl,p7,b7⟩
      have b8:Below w7.heap.size w7 ((w7.alloc (.cells #[.slice a4 n1 c4] 25)).alloc (.cells #[.int .i64 0,.int .i64 0] 27)):=bel2 _ _ _
      replace X1:=((b7.trans (b8.mono b7.size)).block _ (lt_of_block X1)).trans X1
      have B8:Hid (Below w.heap.size w ((w7.alloc (.cells #[.slice a4 n1 c4] 25)).alloc (.cells #[.int .i64 0,.int .i64 0] 27))):=B6.out.trans ((b7.trans (b8.mono b7.size)).mono B6.out.size)
      have P8:Hid (P4 a4 c4 ((w7.alloc (.cells #[.slice a4 n1 c4] 25)).alloc (.cells #[.int .i64 0,.int .i64 0] 27))):=SP.out _ _ _ _ p7 b8
      have X2:Blk ((w7.alloc (.cells #[.slice a4 n1 c4] 25)).alloc (.cells #[.int .i64 0,.int .i64 0] 27)) w7.heap.size #[.slice a4 n1 c4] 25:=Blk.new1 _ _ _ _ _
      have X3:Blk ((w7.alloc (.cells #[.slice a4 n1 c4] 25)).alloc (.cells #[.int .i64 0,.int .i64 0] 27)) (w7.heap.size+1) #[.int .i64 0,.int .i64 0] 27:=Blk.new2 _ _ _ _
      clear b7 b8 p7 B6 H4
      go_wp2_with fail
      generalize (w7.alloc (.cells #[.slice a4 n1 c4] 25)).alloc (.cells #[.int .i64 0,.int .i64 0] 27)=w8 at X1 X2 X3 B8 P8 ⊢
      generalize w7.heap.size=G at X2 X3 ⊢
      refine (H5.out _ _ _ B8.out P8.out).mono ?_
      rintro e w9 ⟨rfl,b9⟩
      unfold PrintV
      have b0:Below w8.heap.size w8 (w9.alloc (.cells #[.int .i64 0,.int .i64 0] 27)):=b9.trans ((bel1 _ _).mono b9.size)
      replace X1:=(b0.block _ (lt_of_block X1)).trans X1
      replace X2:=(b0.block _ (lt_of_block X2)).trans X2
      replace X3:=(b0.block _ (lt_of_block X3)).trans X3
      have X4:=Blk.new w9 #[.int .i64 0,.int .i64 0] 27
      have B0:Hid (Below w.heap.size w (w9.alloc (.cells #[.int .i64 0,.int .i64 0] 27))):=B8.out.trans (b0.mono B8.out.size)
      have P0:Hid (P4 a4 c4 (w9.alloc (.cells #[.int .i64 0,.int .i64 0] 27))):=SP.out _ _ _ _ P8.out b0
      clear b0 b9 B8 P8 H5
      go_upto_region 10 with fail
      generalize w9.alloc (.cells #[.int .i64 0,.int .i64 0] 27)=wa at X1 X2 X3 X4 B0 P0 ⊢
      generalize w9.heap.size=F2 at X4 ⊢
      have d1:=cellOf X1 0 _ rfl
      have d2:=cellOf X2 0 _ rfl
      have d3:=cellOf X3 0 _ rfl
      have d4:=cellOf X4 0 _ rfl
      have hq:((str s).toList == (str s).toList)=true:=by simp
      clear X1 X2 X3 X4
      go_wp2_with fail
      refine (H6.out _ _ _ B0.out P0.out).mono ?_
      rintro e wb ⟨rfl,bb⟩
      have BB:Hid (Below w.heap.size w wb):=B0.out.trans (bb.mono B0.out.size)
      clear bb H6 d1 d2 d3 d4 B0 P0
      go_wp2
      go_ret
      exact ⟨rfl,BB.out⟩
    · have hne:(f == 0)=false:=by simpa using hf
      obtain rfl:=HS.out hf
      have hq:Hid ((str []).toList.isEmpty=true):=by show _=_;rw [Lib.toList_data];rfl
      clear C4 C5 C6 HS SP
      go_wp2
      go_ret
      exact ⟨by show Ending.returned (.bool (str []).toList.isEmpty)=_;rw [hq.out],B6.out⟩
theorem print_empty {n : Nat} {m : List (MFunc n)} (h : (printL m).2.1 ≠ 0) : (printL m).1 = [] := by
  unfold printL at h ⊢
  repeat' split
  all_goals first | rfl | (rename_i h1 h2 h3;rw [if_neg h1,if_neg h2,if_neg h3] at h;exact absurd rfl h)
theorem back_any {n : Nat} {m : List (MFunc n)} {p : Option Addr} {c : Nat} {w : World} (hm : (modL n).In w All m [.slice p m.length c]) (hw : Laid w) :
    Calls Tryz.prog 6 #[.agg #[.slice p m.length c]] w fun e w'=>e=.returned (.bool true)∧Below w.heap.size w w':=by
  have hp:Pows w:=hw.pow
  have key:∀ {j:Nat} {a:List (MFunc j)},a.length=m.length→(modL j).In w All a [.slice p a.length c]→((printL a).2.1=0→j=6) →
      Calls Tryz.prog 6 #[.agg #[.slice p m.length c]] w fun e w'=>e=.returned (.bool true)∧Below w.heap.size w w':=by
    intro j a ea ha hh
    rw [← ea]
    have hng:∀ {x:List (MFunc j)},bdec (greatMod x)=false→¬ greatMod x:=fun h hg=>by rw [bdec_true hg] at h;cases h
    refine back_walk (g1:=bdec (greatMod a)) (s:=(printL a).1) (f:=(printL a).2.1) (a:=(printL a).2.2) (P4:=fun a4 c4 wx=>(modL j).In wx All a [.slice a4 a.length c4])
      (fun wx hx=>rBegun_any wx (hp.below hx)) (fun wx hx=>greatModule_any _ _ _ _ _ (Lay.below ha hx))
      (fun g1 wx hx=>print_any a p c wx (Lay.below ha hx) (hp.below hx) (msmall_of (hng g1)) (tiny_of (hng g1))) print_empty
      (fun g1 f0 wx hx=>?_) (fun g1 f0 a4 c4 wx hx h4=>?_) (fun g1 f0 a4 c4 wx hx h4=>?_) (fun a4 c4 wx wy h4 hb=>Lay.below h4 hb)
    · obtain rfl:=hh f0
      obtain ⟨a1,a2,a3,a4⟩:=print_ok f0
      rw [a4]
      exact parse_of (parse_print a1 (nOk_of ha) a2 a3) a3 wx (hw.below hx)
    · have:=print_any a a4 c4 wx h4 (hp.below hx) (msmall_of (hng g1)) (tiny_of (hng g1))
      obtain ⟨-,-,-,e⟩:=print_ok f0
      rw [e] at this ⊢
      exact this
    · have:=sameModule_any (Lay.below ha hx) h4 (msmall_of (hng g1))
      rwa [bdec_true rfl] at this
  by_cases fm:(modFault m).1=0
  · exact key (a:=m.map (MFunc.at 5)) (by simp) (by rw [List.length_map];exact mod_at (flat_of fm) hm) fun _=>rfl
  · exact key rfl hm fun h=>absurd h (print_bad fm)
end Go.Proofs.YtalfbnllodhkiacGreatDoor
namespace Go.Proofs.YtalfbnllodhkiacGreatDoor
open Go.ChangeShapes Go.WideShapes Go.ChangeAt Go.RowKit Go.Deep
set_option linter.unusedVariables false
def Wt {H : Type} (P : Program) (t : TypeId) (d : DataW H) : Prop := ∀ n ∈ d.weights P t, n ≤ reachBytes
def ReadsB (P : Program) (t : TypeId) {α : Type} (A : Lay α) (n : Nat) (Bd : α → Prop) : Prop :=
  P.cellsOf t=A.size∧∀ {H:Type} {enc:TypeId × Value→H} {w:World} {base:Nat} {spare:Nat→Bool} {held:Bool} {fuel:Nat} {cs:List Value} {x:DataW H × List MemPlace},
    fuel≤n→DataW.trod enc P w base spare held fuel t cs=some x→Wt P t x.1→∃ d,A.In w (fun _=>True) d cs∧Bd d
theorem ReadsB.int {P : Program} {t : TypeId} (n : Nat) (h : P.underlying t = some (.int .i64)) (hc : P.cellsOf t = 1) : ReadsB P t Lay.int n (fun _ => True) :=
  ⟨hc,fun _ h' _=>by
    obtain ⟨k,e,_,wf⟩:=DataW.trod_int h h'
    exact ⟨k,⟨e,Go.bounds_i64 wf⟩,trivial⟩⟩
theorem weightsAll_mem {H : Type} {P : Program} {e : TypeId} : ∀ {l : List (DataW H)} {d : DataW H}, d ∈ l → ∀ n ∈ d.weights P e, n ∈ DataW.weightsAll P e l
  | d0::l,d,h,n,hn=>by
    simp only [DataW.weightsAll,List.mem_append]
    rcases List.mem_cons.1 h with rfl | h
    · exact .inl hn
    · exact .inr (weightsAll_mem h n hn)
theorem ReadsB.list {P : Program} {t e : TypeId} {α : Type} {A : Lay α} {n : Nat} {Bd : α → Prop} (h : P.underlying t = some (.slice e)) (hc : P.cellsOf t = 1) (hA : ReadsB P e A n Bd) (h0 : 0 < A.size) (hbe : 0 < P.bytesOf e) : ReadsB P t A.list n (fun l => l.length < 1152921504606846976) :=
  ⟨hc,fun {H enc w base spare held fuel cs x} hf h' hw=>by
    rcases DataW.trod_slice h h' with ⟨e2,_⟩ | ⟨a,len,cap,elems,rest,q,rfl,e2,ex,hb,hl,hm,hlen,hel,_,_⟩
    · exact ⟨[],by rw [e2];exact Lay.list_nil A _ _ _ _,by simp⟩
    · have hlw:(elems.length+rest.length) * P.bytesOf e≤reachBytes:=hw _ (by rw [ex];simp [DataW.weights,h])
      have hlb:len < 1152921504606846976:=by
        have h1:elems.length * 1≤(elems.length+rest.length) * P.bytesOf e:=Nat.mul_le_mul (by omega) hbe
        have h2:reachBytes < 1152921504606846976:=by decide
        omega
      have hel':∀ i,i < len→∃ y,elems[i]?=some y∧Wt P e y.1:=fun i hi=>by
        refine ⟨elems[i]'(by omega),List.getElem?_eq_getElem (by omega),fun k hk=>hw k ?_⟩
        rw [ex]
        simp only [DataW.weights,h,List.mem_cons,List.mem_append]
        exact .inr (.inl (weightsAll_mem (List.mem_map_of_mem (List.getElem_mem (by omega))) k hk))
      obtain ⟨l,hll,hp⟩:=list_of' (P:=fun i (d:α)=>∃ ds,w.cells? base (a.add (i * A.size)) A.size=some ds∧A.In w (fun _=>True) d ds) len (fun i hi=>by
        have he:=hel i hi
        obtain ⟨y,hy,hwy⟩:=hel' i hi
        rw [hy,hA.1] at he
        rw [Option.bind_eq_some_iff] at he
        obtain ⟨ds,hds,htr⟩:=he
        obtain ⟨d,hd,_⟩:=hA.2 (by omega) htr hwy
        exact ⟨d,ds,hds,hd⟩)
      refine ⟨l,⟨some a,cap,by rw [e2,hll],fun i x hx=>?_⟩,by omega⟩
      obtain ⟨ds,hds,hd⟩:=hp i x hx
      obtain ⟨_,hcl,hcell⟩:=World.cells?_some hds
      obtain ⟨b,off,spot⟩:=a
      have hspot:spot=none:=by
        have hi:0 < l.length:=Nat.lt_of_le_of_lt (Nat.zero_le i) (List.getElem?_eq_some_iff.1 hx).1
        obtain ⟨ds0,hds0,hd0⟩:=hp 0 l[0] (List.getElem?_eq_getElem hi)
        have hl0:0 < ds0.length:=by rw [A.len hd0];exact h0
        have:=(World.cells?_some hds0).2.2 0 h0
        rw [List.getElem?_eq_getElem hl0] at this
        simpa [Addr.add] using World.cell?_spot this
      subst hspot
      have key:∀ j,j < A.size→w.cell? ⟨b,off+i * A.size+j,none⟩=ds[j]?:=fun j hj=>by
        have:=hcell j hj
        rw [Go.WideShapes.add_plain,Go.WideShapes.add_plain] at this
        exact this
      refine ⟨b,off,ds,rfl,trivial,?_,key,hd⟩
      have hl0:0 < ds.length:=by rw [A.len hd];exact h0
      have:=key 0 h0
      rw [List.getElem?_eq_getElem hl0] at this
      exact World.block_lt_of_cell? w _ this⟩
def FieldsB (P : Program) (fs : Array Field) : Nat → Nat → {α : Type} → Lay α → Nat → (α → Prop) → Prop := fun i o α A n Bd =>
  ∀ (H:Type) (enc:TypeId × Value→H) (w:World) (base:Nat) (spare:Nat→Bool) (held:Bool) (fuel:Nat) (cs:List Value) (xs:List (DataW H × List MemPlace)),
    fuel≤n→cs.length=o+A.size→xs.length=fs.size→(∀ (j:Nat) (f:Field),fs[j]?=some f→DataW.trod enc P w base spare held fuel f.type ((cs.drop f.offset).take (P.cellsOf f.type))=xs[j]?) →
    (∀ (j:Nat) (f:Field) x,fs[j]?=some f→xs[j]?=some x→Wt P f.type x.1)→∃ d,A.In w (fun _=>True) d (cs.drop o)∧Bd d
theorem FieldsB.last {P : Program} {fs : Array Field} {i o n : Nat} {f : Field} {α : Type} {A : Lay α} {Bd : α → Prop} (hf : fs[i]? = some f) (ho : f.offset = o) (hA : ReadsB P f.type A n Bd) : FieldsB P fs i o A n Bd := by
  intro H enc w base spare held fuel cs xs hn hl hx h hw
  have g:=h i f hf
  have hi:i < fs.size:=(Array.getElem?_eq_some_iff.1 hf).1
  rw [List.getElem?_eq_getElem (by omega),ho,hA.1] at g
  obtain ⟨d,hd,hb⟩:=hA.2 hn g (hw i f _ hf (List.getElem?_eq_getElem (by omega)))
  refine ⟨d,?_,hb⟩
  rwa [List.take_of_length_le (by simp;omega)] at hd
theorem FieldsB.cons {P : Program} {fs : Array Field} {i o n : Nat} {f : Field} {α β : Type} {A : Lay α} {B : Lay β} {Bd : α → Prop} {Be : β → Prop} (hf : fs[i]? = some f) (ho : f.offset = o) (hA : ReadsB P f.type A n Bd) (hB : FieldsB P fs (i + 1) (o + A.size) B n Be) : FieldsB P fs i o (A.pair B) n (fun x => Bd x.1 ∧ Be x.2) := by
  intro H enc w base spare held fuel cs xs hn hl hx h hw
  have g:=h i f hf
  have hi:i < fs.size:=(Array.getElem?_eq_some_iff.1 hf).1
  rw [List.getElem?_eq_getElem (by omega),ho,hA.1] at g
  obtain ⟨d,hd,hb⟩:=hA.2 hn g (hw i f _ hf (List.getElem?_eq_getElem (by omega)))
  have hs:(A.pair B).size=A.size+B.size:=rfl
  obtain ⟨e,he,hb2⟩:=hB _ _ _ _ _ _ _ _ _ hn (by omega) hx h hw
  refine ⟨(d,e),⟨_,_,?_,hd,he⟩,hb,hb2⟩
  rw [← List.drop_drop,List.take_append_drop]
theorem ReadsB.struct {P : Program} {t : TypeId} {fs : Array Field} {α : Type} {A : Lay α} {n : Nat} {Bd : α → Prop} (h : P.underlying t = some (.struct fs)) (hc : P.cellsOf t = A.size) (hF : FieldsB P fs 0 0 A n Bd) : ReadsB P t A n Bd :=
  ⟨hc,fun {H enc w base spare held fuel cs x} hf h' hw=>by
    obtain ⟨xs,m,rfl,ex,hcl,hxl,hfl⟩:=DataW.trod_struct h h'
    obtain ⟨d,hd,hb⟩:=hF _ _ _ _ _ _ _ _ _ (by omega) (by rw [hcl,hc];omega) hxl hfl (fun j f y hj hy k hk=>hw k (by
      rw [ex]
      simp only [DataW.weights,h]
      exact DataW.weights_mem_each (j:=j) (t:=f.type) (d:=y.1) (by simp [hj]) (by simp [hy]) k hk))
    exact ⟨d,by simpa using hd,hb⟩⟩
theorem ReadsB.via {P : Program} {t : TypeId} {α β : Type} {A : Lay α} {n : Nat} {f : β → α} {Bd : α → Prop} (h : ReadsB P t A n Bd) (g : α → β) (hg : ∀ d, f (g d) = d) : ReadsB P t (A.via f) n (fun x => Bd (f x)) :=
  ⟨h.1,fun hf h' hw=>by
    obtain ⟨d,hd,hb⟩:=h.2 hf h' hw
    exact ⟨g d,by show A.In _ _ (f (g d)) _;rw [hg];exact hd,by show Bd (f (g d));rw [hg];exact hb⟩⟩
theorem own : ownKnob Tryz.prog.godebug = none := by kernel_rfl
theorem laidOut : laidOutB Tryz.prog = true := by kernel_rfl
theorem fieldsT : ∃ f0 f1 f2 : Field, Tryz.prog.underlying 78 = some (.struct #[f0, f1, f2]) ∧
    (f0.offset=0∧Tryz.prog.cellsOf f0.type=1∧Tryz.prog.underlying f0.type=some (.int .i64))∧(f1.offset=1∧Tryz.prog.cellsOf f1.type=1∧Tryz.prog.underlying f1.type=some (.int .i64)) ∧
    (f2.offset=2∧Tryz.prog.cellsOf f2.type=1∧f2.type=39) :=
  ⟨_,_,_,Tryz.underlying78,⟨rfl,by kernel_rfl,by kernel_rfl⟩,⟨rfl,by kernel_rfl,by kernel_rfl⟩,⟨rfl,by kernel_rfl,rfl⟩⟩
theorem readsT (n : Nat) : ReadsB Tryz.prog 78 (Lay.tt n) n (fun _ => True) :=
  ⟨by kernel_rfl,fun {H enc w base spare held fuel cs x} hf h' hw=>by
    obtain ⟨f0,f1,f2,e,h0,h1,h2⟩:=fieldsT
    obtain ⟨t,a,c,hc,h3,h4⟩:=tin_of (ti:=0) Tryz.underlying39 e (by kernel_rfl) h0 h1 h2 n fuel hf h'
    exact ⟨t,⟨a,c,hc,h3,h4⟩,trivial⟩⟩
theorem readsI (n : Nat) : ReadsB Tryz.prog 3 Lay.int n (fun _ => True) := ReadsB.int n Tryz.underlying3 (by kernel_rfl)
theorem readsI6 (n : Nat) : ReadsB Tryz.prog 2 Lay.int n (fun _ => True) := ReadsB.int n Tryz.underlying2 (by kernel_rfl)
theorem readsIs (n : Nat) : ReadsB Tryz.prog 43 intsL n (fun l => l.length < 1152921504606846976) := ReadsB.list Tryz.underlying43 (by kernel_rfl) (readsI n) (by decide) (by rw [show Tryz.prog.bytesOf 3 = 8 from by kernel_rfl]; decide)
theorem readsTs (n : Nat) : ReadsB Tryz.prog 39 (typesL n) n (fun l => l.length < 1152921504606846976) := ReadsB.list Tryz.underlying39 (by kernel_rfl) (readsT n) (by show 0 < 3; decide) (by rw [show Tryz.prog.bytesOf 78 = 40 from by kernel_rfl]; decide)
theorem readsIns (n : Nat) : ReadsB Tryz.prog 45 insL n (fun x => x.regs.length < 1152921504606846976 ∧ x.args.length < 1152921504606846976) := by
  have h:=ReadsB.struct (n:=n) (A:=Lay.int.pair (Lay.int.pair (Lay.int.pair (Lay.int.pair (Lay.int.pair (Lay.int.pair (intsL.pair intsL))))))) Tryz.underlying45 (by kernel_rfl) (FieldsB.cons rfl rfl (readsI n) (FieldsB.cons rfl rfl (readsI n) (FieldsB.cons rfl rfl (readsI n) (FieldsB.cons rfl rfl (readsI n) (FieldsB.cons rfl rfl (readsI n) (FieldsB.cons rfl rfl (readsI6 n) (FieldsB.cons rfl rfl (readsIs n) (FieldsB.last rfl rfl (readsIs n)))))))))
  have h2:=h.via (f:=fun x:MIns=>(x.op,x.a,x.b,x.c,x.k,x.n,x.regs,x.args)) (fun d=>⟨d.1,d.2.1,d.2.2.1,d.2.2.2.1,d.2.2.2.2.1,d.2.2.2.2.2.1,d.2.2.2.2.2.2.1,d.2.2.2.2.2.2.2⟩) (fun d=>rfl)
  exact ⟨h2.1,fun hf h' hw=>by obtain ⟨d,hd,hb⟩:=h2.2 hf h' hw;exact ⟨d,hd,hb.2.2.2.2.2.2⟩⟩
theorem readsTo (n : Nat) : ReadsB Tryz.prog 48 toL n (fun x => x.regs.length < 1152921504606846976 ∧ x.args.length < 1152921504606846976) := by
  have h:=ReadsB.struct (n:=n) (A:=Lay.int.pair (intsL.pair intsL)) Tryz.underlying48 (by kernel_rfl) (FieldsB.cons rfl rfl (readsI n) (FieldsB.cons rfl rfl (readsIs n) (FieldsB.last rfl rfl (readsIs n))))
  have h2:=h.via (f:=fun x:MTo=>(x.block,x.regs,x.args)) (fun d=>⟨d.1,d.2.1,d.2.2⟩) (fun d=>rfl)
  exact ⟨h2.1,fun hf h' hw=>by obtain ⟨d,hd,hb⟩:=h2.2 hf h' hw;exact ⟨d,hd,hb.2⟩⟩
theorem readsEnd (n : Nat) : ReadsB Tryz.prog 50 endL n (fun x => (x.yes.regs.length < 1152921504606846976 ∧ x.yes.args.length < 1152921504606846976) ∧ (x.no.regs.length < 1152921504606846976 ∧ x.no.args.length < 1152921504606846976) ∧ x.args.length < 1152921504606846976) := by
  have h:=ReadsB.struct (n:=n) (A:=Lay.int.pair (Lay.int.pair (toL.pair (toL.pair intsL)))) Tryz.underlying50 (by kernel_rfl) (FieldsB.cons rfl rfl (readsI n) (FieldsB.cons rfl rfl (readsI n) (FieldsB.cons rfl rfl (readsTo n) (FieldsB.cons rfl rfl (readsTo n) (FieldsB.last rfl rfl (readsIs n))))))
  have h2:=h.via (f:=fun x:MEnd=>(x.op,x.a,x.yes,x.no,x.args)) (fun d=>⟨d.1,d.2.1,d.2.2.1,d.2.2.2.1,d.2.2.2.2⟩) (fun d=>rfl)
  exact ⟨h2.1,fun hf h' hw=>by obtain ⟨d,hd,hb⟩:=h2.2 hf h' hw;exact ⟨d,hd,hb.2.2⟩⟩
theorem readsInss (n : Nat) : ReadsB Tryz.prog 46 insL.list n (fun l => l.length < 1152921504606846976) := ReadsB.list Tryz.underlying46 (by kernel_rfl) (readsIns n) (by decide) (by rw [show Tryz.prog.bytesOf 45 = 96 from by kernel_rfl]; decide)
theorem readsBlock (n : Nat) : ReadsB Tryz.prog 52 (blockL n) n (fun _ => True) := by
  have h:=ReadsB.struct (n:=n) (A:=Lay.int.pair ((typesL n).pair (insL.list.pair endL))) Tryz.underlying52 (by kernel_rfl) (FieldsB.cons rfl rfl (readsI n) (FieldsB.cons rfl rfl (readsTs n) (FieldsB.cons rfl rfl (readsInss n) (FieldsB.last rfl rfl (readsEnd n)))))
  have h2:=h.via (f:=fun x:MBlock n=>(x.regs,x.params,x.code,x.fin)) (fun d=>⟨d.1,d.2.1,d.2.2.1,d.2.2.2⟩) (fun d=>rfl)
  exact ⟨h2.1,fun hf h' hw=>by obtain ⟨d,hd,hb⟩:=h2.2 hf h' hw;exact ⟨d,hd,trivial⟩⟩
theorem readsBlocks (n : Nat) : ReadsB Tryz.prog 40 (blockL n).list n (fun l => l.length < 1152921504606846976) := ReadsB.list Tryz.underlying40 (by kernel_rfl) (readsBlock n) (by show 0 < 12; decide) (by rw [show Tryz.prog.bytesOf 52 = 208 from by kernel_rfl]; decide)
theorem readsFunc (n : Nat) : ReadsB Tryz.prog 42 (funcL n) n (fun _ => True) := by
  have h:=ReadsB.struct (n:=n) (A:=Lay.int.pair ((typesL n).pair ((typesL n).pair (blockL n).list))) Tryz.underlying42 (by kernel_rfl) (FieldsB.cons rfl rfl (readsI n) (FieldsB.cons rfl rfl (readsTs n) (FieldsB.cons rfl rfl (readsTs n) (FieldsB.last rfl rfl (readsBlocks n)))))
  have h2:=h.via (f:=fun x:MFunc n=>(x.regs,x.params,x.results,x.blocks)) (fun d=>⟨d.1,d.2.1,d.2.2.1,d.2.2.2⟩) (fun d=>rfl)
  exact ⟨h2.1,fun hf h' hw=>by obtain ⟨d,hd,hb⟩:=h2.2 hf h' hw;exact ⟨d,hd,trivial⟩⟩
theorem readsFuncs (n : Nat) : ReadsB Tryz.prog 23 (modL n) n (fun l => l.length < 1152921504606846976) := ReadsB.list Tryz.underlying23 (by kernel_rfl) (readsFunc n) (by show 0 < 4; decide) (by rw [show Tryz.prog.bytesOf 42 = 80 from by kernel_rfl]; decide)
theorem readsMod (n : Nat) : ReadsB Tryz.prog 25 (modL n) n (fun _ => True) := by
  have h:=ReadsB.struct (n:=n) (A:=modL n) Tryz.underlying25 (by kernel_rfl) (FieldsB.last rfl rfl (readsFuncs n))
  exact ⟨h.1,fun hf h' hw=>by obtain ⟨d,hd,hb⟩:=h.2 hf h' hw;exact ⟨d,hd,trivial⟩⟩
theorem powG : Tryz.prog.globalNamed "internal/strconv.uint64pow10" = some 2 := by kernel_rfl
theorem powT : (Tryz.prog.globals[2]?).map (·.type) = some 216 := by kernel_rfl
theorem powD : (Rows.laid_internal_strconv_uint64pow10 : DataW Unit) = Lib.tabData .u64 Lib.pow10Tab := by kernel_rfl
theorem synG : Tryz.prog.globalNamed "strconv.ErrSyntax" = some 0 := by kernel_rfl
theorem synT : (Tryz.prog.globals[0]?).map (·.type) = some 151 := by kernel_rfl
theorem rngG : Tryz.prog.globalNamed "strconv.ErrRange" = some 1 := by kernel_rfl
theorem rngT : (Tryz.prog.globals[1]?).map (·.type) = some 151 := by kernel_rfl
theorem cellsE : Tryz.prog.cellsOf 227 = 1 := by kernel_rfl
theorem cellsS : Tryz.prog.cellsOf 9 = 1 := by kernel_rfl
theorem starE : "*" ++ "errors.errorString" = "*errors.errorString" := by decide
theorem rowE (u : TypeId) (h : Tryz.prog.typeName? 3 u = some "*errors.errorString") : u = 225 :=
  typeName_ptr_named (nm := "errors.errorString") (by rw [starE]; kernel_rfl) (by kernel_rfl) (by decide) u (by rw [starE]; exact h)
theorem laid_all {W : World} {a b : String × DataW Unit} (h : laidMet Tryz.prog [a, b, ("internal/strconv.uint64pow10", Rows.laid_internal_strconv_uint64pow10), ("strconv.ErrRange", Rows.laid_strconv_ErrRange), ("strconv.ErrSyntax", Rows.laid_strconv_ErrSyntax)] W) : Laid W := by
  have h3:=h.tail.tail
  have h4:=h3.tail
  have h5:=h4.tail
  rw [powD] at h3
  obtain ⟨a1,s1,hv1,-,-,-⟩:=laid_sentinel h4 rngG rngT Tryz.underlying151 rowE Tryz.underlying225 Tryz.underlying227 rfl rfl Tryz.underlying9 cellsE cellsS
  obtain ⟨a0,s0,hv0,-,-,-⟩:=laid_sentinel h5 synG synT Tryz.underlying151 rowE Tryz.underlying225 Tryz.underlying227 rfl rfl Tryz.underlying9 cellsE cellsS
  exact ⟨Lib.tabIs_of_head powG powT Tryz.underlying216 Tryz.underlying189 (by kernel_rfl) (by kernel_rfl) h3,⟨_,_,hv0⟩,⟨_,_,hv1⟩⟩
theorem ragg_of {v : Value} {l : List Value} (hv : ∃ cs : Array Value, v = .agg cs ∧ True) (h : v.cells.toList = l) : v = .agg l.toArray := by
  obtain ⟨⟨cs⟩,rfl,_⟩:=hv
  simp only [Value.cells] at h
  rw [← h]
end Go.Proofs.YtalfbnllodhkiacGreatDoor
