import Derived.Test.YtalfbnllodhkiacGreatDoorP5
set_option maxHeartbeats 16000000
set_option maxRecDepth 100000
namespace Go.Proofs.YtalfbnllodhkiacGreatDoor
open Go.ChangeShapes Go.WideShapes Go.ChangeAt Go.RowKit Go.Shelf
set_option linter.unusedSimpArgs false
set_option linter.unusedVariables false
theorem blk_on {w w' : World} {B : Nat} {c : Array Value} {t : TypeId} (h : Blk w B c t) (b : Below w.heap.size w w') : Blk w' B c t := (b.block _ (lt_of_block h)).trans h
theorem blocks_take {n : Nat} {l : List (MBlock n)} {i : Nat} {x : MBlock n} (hx : l[i]? = some x) : blocksT (l.take (i + 1)) = blocksT (l.take i) ++ x.txt := flat_take hx
theorem code_take {l : List MIns} {i : Nat} {x : MIns} (hx : l[i]? = some x) : codeT (l.take (i + 1)) = codeT (l.take i) ++ lineT x.txt := flat_take (t := fun x : MIns => lineT x.txt) hx
theorem mod_take {n : Nat} {l : List (MFunc n)} {i : Nat} {x : MFunc n} (hx : l[i]? = some x) : modTxt (l.take (i + 1)) = modTxt (l.take i) ++ x.txt := flat_take hx
theorem str3 {S L a t b : List UInt8} (h : L = S ++ (a ++ t ++ b)) : str L = str S ++ (str a ++ str t ++ str b) := by rw [str_app, str_app, str_app, h]
theorem str4 {S L a t b : List UInt8} (h : L = S ++ (a ++ t) ++ b) : str L = str S ++ (str a ++ str t) ++ str b := by rw [str_app, str_app, str_app, h]
theorem str2 {S L a : List UInt8} (h : L = S ++ a) : str L = str S ++ str a := by rw [str_app, h]
theorem moduleText_any {n : Nat} {m : List (MFunc n)} {p : Option Addr} {c : Nat} {w : World} (hm0 : (modL n).In w All m [.slice p m.length c]) (hp0 : Pows w) (hg0 : ¬ greatMod m) (hf0 : ∀ x ∈ m, x.fine m.length) :
    Calls Tryz.prog 49 #[.agg #[.slice p m.length c]] w fun e w'=>e=.returned (.string (str (modTxt m)))∧Below w.heap.size w w':=by
  have M:Hid ((funcL n).list.In w All m [.slice p m.length c]):=hm0
  have P:Hid (Pows w):=hp0
  have G:Hid (¬ greatMod m):=hg0
  have F:Hid (∀ x∈m,x.fine m.length):=hf0
  have LM:Hid ((modTxt m).length≤20000000000):=mod_len hm0 hg0
  have gl:m.length≤20:=Nat.le_of_not_lt fun x=>hg0 (.inl x)
  clear hm0 hp0 hg0 hf0
  have X1:Hid (Blk (w.alloc (.cells #[.slice p m.length c] 25)) w.heap.size #[.slice p m.length c] 25):=Blk.new _ _ _
  have B1:Hid (Below w.heap.size w (w.alloc (.cells #[.slice p m.length c] 25))):=bel1 _ _
  go_enter Tryz.func49,Tryz.ntmps49
  go_wp2_with fail
  generalize w.alloc (.cells #[.slice p m.length c] 25)=w1 at X1 B1 ⊢
  go_loopw [3,4] (fun v i wr=>∃ q:Nat,q≤m.length∧i=.int .i64 q∧v=.string (str (modTxt (m.take q)))∧Below w1.heap.size w1 wr) (fun _ i _=>m.length - (intOf i).toNat)
  case atStart=>exact ⟨0,Nat.zero_le _,rfl,rfl,Below.refl _ _⟩
  case round =>
    obtain ⟨q,hq,rfl,rfl,hb⟩:=hrel
    have Bl:Hid (Below w1.heap.size w1 wr):=hb
    clear hb
    have Bw:Hid (Below w.heap.size w wr):=B1.out.trans (Bl.out.mono B1.out.size)
    have c0:=cellOf (blk_on X1.out Bl.out) 0 _ rfl
    by_cases hlt:q<m.length
    rotate_left
    · have hk1:¬ (q:Int)<m.length:=by omega
      have E:Hid (m.take q=m):=List.take_of_length_le (by omega)
      go_wp2
      go_ret
      exact ⟨by rw [E.out];rfl,Bw.out⟩
    have hx:m[q]?=some m[q]:=List.getElem?_eq_getElem hlt
    obtain ⟨g,o,ds,rfl,_,hg,hc,hds⟩:=Lay.list_at (Lay.below M.out Bw.out) hx
    generalize m[q]=x at hx hds
    obtain ⟨a1,k1,a2,k2,a3,k3,rfl,u1,u2,u3,i1⟩:=func_form hds
    have d0:=hc 0 (show 0<4 by omega)
    have d1:=hc 1 (show 1<4 by omega)
    have d2:=hc 2 (show 2<4 by omega)
    have d3:=hc 3 (show 3<4 by omega)
    rw [show (funcL n).size=4 from rfl] at d0 d1 d2 d3
    simp only [List.getElem?_cons_zero,List.getElem?_cons_succ,Nat.add_zero] at d0 d1 d2 d3
    have hk0:(0:Int)≤q:=by omega
    have hk1:(q:Int)<m.length:=by omega
    have hmem:=List.mem_of_getElem? hx
    have gx:¬ x.great:=fun h=>G.out (.inr ⟨x,hmem,h⟩)
    have fx:x.fine m.length:=F.out x hmem
    have S:Hid (modTxt (m.take (q+1))=modTxt (m.take q)++x.txt):=mod_take hx
    have l0:=Lib.itoa_length_le _ i1.1 i1.2
    have l1:=rtyps_len (types_lin u1).2 (fun h=>gx (.inr (.inl h)))
    have l2:=rtyps_len (types_lin u2).2 (fun h=>gx (.inr (.inr (.inl h))))
    have l3:(modTxt (m.take q)).length≤20000000000:=Nat.le_trans (flat_le MFunc.txt m q) LM.out
    have bb0:Below wr.heap.size wr (wr.alloc (.cells #[.int .i64 x.regs,.slice a1 x.params.length k1,.slice a2 x.results.length k2,.slice a3 x.blocks.length k3] 42)):=bel1 _ _
    have C0:Hid (∀ wx,Below (wr.alloc (.cells #[.int .i64 x.regs,.slice a1 x.params.length k1,.slice a2 x.results.length k2,.slice a3 x.blocks.length k3] 42)).heap.size (wr.alloc (.cells #[.int .i64 x.regs,.slice a1 x.params.length k1,.slice a2 x.results.length k2,.slice a3 x.blocks.length k3] 42)) wx→Calls Tryz.prog 88 #[.int .i64 x.regs] wx fun e w'=>e=.returned (.string (str (Lib.itoa x.regs)))∧Below wx.heap.size wx w'):=fun wx hb=>itoa_any _ i1 wx (P.out.below ((Bw.out.trans (bb0.mono Bw.out.size)).trans (hb.mono (Nat.le_trans Bw.out.size bb0.size))))
    have C1:Hid (∀ wx,Below (wr.alloc (.cells #[.int .i64 x.regs,.slice a1 x.params.length k1,.slice a2 x.results.length k2,.slice a3 x.blocks.length k3] 42)).heap.size (wr.alloc (.cells #[.int .i64 x.regs,.slice a1 x.params.length k1,.slice a2 x.results.length k2,.slice a3 x.blocks.length k3] 42)) wx→Calls Tryz.prog 89 #[.slice a1 x.params.length k1] wx fun e w'=>e=.returned (.string (str (typsT x.params)))∧Below wx.heap.size wx w'):=fun wx hb=>typesTextR_any _ _ _ wx (Lay.below (Lay.below u1 bb0) hb) (P.out.below ((Bw.out.trans (bb0.mono Bw.out.size)).trans (hb.mono (Nat.le_trans Bw.out.size bb0.size)))) (fun h=>gx (.inr (.inl h)))
    have C2:Hid (∀ wx,Below (wr.alloc (.cells #[.int .i64 x.regs,.slice a1 x.params.length k1,.slice a2 x.results.length k2,.slice a3 x.blocks.length k3] 42)).heap.size (wr.alloc (.cells #[.int .i64 x.regs,.slice a1 x.params.length k1,.slice a2 x.results.length k2,.slice a3 x.blocks.length k3] 42)) wx→Calls Tryz.prog 89 #[.slice a2 x.results.length k2] wx fun e w'=>e=.returned (.string (str (typsT x.results)))∧Below wx.heap.size wx w'):=fun wx hb=>typesTextR_any _ _ _ wx (Lay.below (Lay.below u2 bb0) hb) (P.out.below ((Bw.out.trans (bb0.mono Bw.out.size)).trans (hb.mono (Nat.le_trans Bw.out.size bb0.size)))) (fun h=>gx (.inr (.inr (.inl h))))
    have U3:Hid ((blockL n).list.In (wr.alloc (.cells #[.int .i64 x.regs,.slice a1 x.params.length k1,.slice a2 x.results.length k2,.slice a3 x.blocks.length k3] 42)) All x.blocks [.slice a3 x.blocks.length k3]):=Lay.below u3 bb0
    have l4:(blocksT x.blocks).length≤800000000:=blocks_len u3 (fun y hy h=>gx (.inr (.inr (.inr ⟨y,hy,h⟩)))) (Nat.le_of_not_lt fun h=>gx (.inl h))
    have gl2:x.blocks.length≤30:=Nat.le_of_not_lt fun h=>gx (.inl h)
    have FB:Hid (∀ y∈x.blocks,y.fine m.length):=fx.blocks
    have GB:Hid (∀ y∈x.blocks,¬ y.great):=fun y hy h=>gx (.inr (.inr (.inr ⟨y,hy,h⟩)))
    have P2:Hid (Pows (wr.alloc (.cells #[.int .i64 x.regs,.slice a1 x.params.length k1,.slice a2 x.results.length k2,.slice a3 x.blocks.length k3] 42))):=P.out.below (Bw.out.trans (bb0.mono Bw.out.size))
    have Bx:Hid (Below w1.heap.size w1 (wr.alloc (.cells #[.int .i64 x.regs,.slice a1 x.params.length k1,.slice a2 x.results.length k2,.slice a3 x.blocks.length k3] 42))):=Bl.out.trans (bb0.mono Bl.out.size)
    have hT:Hid (x.txt=[102,117,110,99,32]++Lib.itoa x.regs++[32]++typsT x.params++[32,45,62,32]++typsT x.results++[32,123,10]++blocksT x.blocks++[125,10]):=by show _=_;simp [MFunc.txt,MFunc.head,nT,wFunc]
    have X2:Hid (Blk (wr.alloc (.cells #[.int .i64 x.regs,.slice a1 x.params.length k1,.slice a2 x.results.length k2,.slice a3 x.blocks.length k3] 42)) wr.heap.size #[.int .i64 x.regs,.slice a1 x.params.length k1,.slice a2 x.results.length k2,.slice a3 x.blocks.length k3] 42):=Blk.new _ _ _
    clear hc hds hx hmem u1 u2 u3 i1 gx fx bb0 F G LM
    go_upto_region 6 with fail
    clear d0 d1 d2 d3 hg c0
    generalize wr.alloc (.cells #[.int .i64 x.regs,.slice a1 x.params.length k1,.slice a2 x.results.length k2,.slice a3 x.blocks.length k3] 42)=w2 at X2 Bx P2 U3 C0 C1 C2 ⊢
    generalize hGb:wr.heap.size=Gb at X2 ⊢
    clear hGb
    generalize modTxt (m.take q)=s at l3 S ⊢
    generalize Lib.itoa x.regs=z0 at C0 l0 hT
    generalize typsT x.params=z1 at C1 l1 hT
    generalize typsT x.results=z2 at C2 l2 hT
    generalize x.txt=tx at hT S
    generalize hxb:x.blocks=xs at U3 X2 l4 FB GB hT gl2 ⊢
    generalize x.regs=kr at C0 X2 ⊢
    generalize x.params.length=n1 at C1 X2 ⊢
    generalize x.results.length=n2 at C2 X2 ⊢
    clear hxb
    obtain ⟨y25,Ey25,ly25⟩:=cat_letter [102,117,110,99,32] z0
    replace ly25:y25.length=5+z0.length:=ly25
    obtain ⟨y26,Ey26,ly26⟩:=cat_letter y25 [32]
    replace ly26:y26.length=y25.length+1:=ly26
    obtain ⟨y30,Ey30,ly30⟩:=cat_letter y26 z1
    replace ly30:y30.length=y26.length+z1.length:=ly30
    obtain ⟨y31,Ey31,ly31⟩:=cat_letter y30 [32,45,62,32]
    replace ly31:y31.length=y30.length+4:=ly31
    obtain ⟨y35,Ey35,ly35⟩:=cat_letter y31 z2
    replace ly35:y35.length=y31.length+z2.length:=ly35
    obtain ⟨y36,Ey36,ly36⟩:=cat_letter y35 [32,123,10]
    replace ly36:y36.length=y35.length+3:=ly36
    obtain ⟨y37,Ey37,ly37⟩:=cat_letter s y36
    replace ly37:y37.length=s.length+y36.length:=ly37
    have T:Hid (s++tx=y37++blocksT xs++[125,10]):=by show _=_;rw [hT.out,Ey25.out,Ey26.out,Ey30.out,Ey31.out,Ey35.out,Ey36.out,← Ey37.out];simp
    refine wp_region_calm_tail 17 (PTab.E ([(3,fun v _=>v=.string (str s)),(5,fun v _=>v=.pointer (some ⟨Gb,0,none⟩)),(21,fun v _=>v=.string (str s)),(22,fun v _=>v=.pointer (some ⟨Gb,0,none⟩)),(23,fun v _=>v=.int .i64 kr),(24,fun v _=>v=.string (str z0)),(25,fun v _=>v=.string (str y25)),(26,fun v _=>v=.string (str y26)),(27,fun v _=>v=.pointer (some ⟨Gb,1,none⟩)),(28,fun v _=>v=.slice a1 n1 k1),(29,fun v _=>v=.string (str z1)),(30,fun v _=>v=.string (str y30)),(31,fun v _=>v=.string (str y31)),(32,fun v _=>v=.pointer (some ⟨Gb,2,none⟩)),(33,fun v _=>v=.slice a2 n2 k2),(34,fun v _=>v=.string (str z2)),(35,fun v _=>v=.string (str y35)),(36,fun v _=>v=.string (str y36)),(37,fun v _=>v=.string (str y37))]:PTab)) (fun wx=>Below w2.heap.size w2 wx) (fun w w'=>Below w.heap.size w w') (outs:=[3,5]) (gs:=[]) (bs:=[true,true,true,true,true,true,true,true,true,true,true,true,true,true,true,true,true]) (by kernel_rfl) (n:=124) rfl (Nat.le_refl _) (by kernel_rfl) (by kernel_rfl) (PTab_stable _ ⟨fun _ _ _ _ h=>h,fun _ _ _ _ h=>h,fun _ _ _ _ h=>h,fun _ _ _ _ h=>h,fun _ _ _ _ h=>h,fun _ _ _ _ h=>h,fun _ _ _ _ h=>h,fun _ _ _ _ h=>h,fun _ _ _ _ h=>h,fun _ _ _ _ h=>h,fun _ _ _ _ h=>h,fun _ _ _ _ h=>h,fun _ _ _ _ h=>h,fun _ _ _ _ h=>h,fun _ _ _ _ h=>h,fun _ _ _ _ h=>h,fun _ _ _ _ h=>h,fun _ _ _ _ h=>h,fun _ _ _ _ h=>h,trivial⟩) ?hG (drewN_below (m:=1) (Below.refl _ _)) ⟨rfl,rfl,trivial⟩ ?hA ?hend
    case hG=>exact trivial
    case hA =>
      show AllOk _ _ _ _ [_,_,_,_,_,_,_,_,_,_,_,_,_,_,_,_,_] _
      refine ⟨fun ac wc hW hk K hK=>?_,?_⟩
      · obtain ⟨q0,-⟩:=hk
        have q0:ac.tmps.getD 3 undef=.string (str s):=q0
        go_simp
        exact hK _ _ (Below.refl _ _) hW rfl
      refine ⟨fun ac wc hW hk K hK=>?_,?_⟩
      · obtain ⟨q0,-⟩:=hk
        have q0:ac.tmps.getD 5 undef=.pointer (some ⟨Gb,0,none⟩):=q0
        go_simp
        exact hK _ _ (Below.refl _ _) hW rfl
      refine ⟨fun ac wc hW hk K hK=>?_,?_⟩
      · obtain ⟨q0,-⟩:=hk
        have q0:ac.tmps.getD 22 undef=.pointer (some ⟨Gb,0,none⟩):=q0
        have e0:=cellOf (blk_on X2.out hW) 0 _ rfl
        go_simp
        exact hK _ _ (Below.refl _ _) hW rfl
      refine ⟨fun ac wc hW hk K hK=>?_,?_⟩
      · obtain ⟨q0,-⟩:=hk
        have q0:ac.tmps.getD 23 undef=.int .i64 kr:=q0
        go_simp
        refine (C0.out wc hW).mono ?_
        rintro r7 w7 ⟨rfl,b7⟩
        go_simp
        exact hK _ _ b7 (hW.trans (b7.mono hW.size)) rfl
      refine ⟨fun ac wc hW hk K hK=>?_,?_⟩
      · obtain ⟨q0,-⟩:=hk
        have q0:ac.tmps.getD 24 undef=.string (str z0):=q0
        have n0:¬ 9223372036854775807<5+(str z0).size:=by simp only [str_size];omega
        go_simp
        exact hK _ _ (Below.refl _ _) hW (by rw [← Ey25.out];exact str_add [102,117,110,99,32] z0)
      refine ⟨fun ac wc hW hk K hK=>?_,?_⟩
      · obtain ⟨q0,-⟩:=hk
        have q0:ac.tmps.getD 25 undef=.string (str y25):=q0
        have n0:¬ 9223372036854775807<(str y25).size+1:=by simp only [str_size];omega
        go_simp
        exact hK _ _ (Below.refl _ _) hW (by rw [← Ey26.out];exact str_add y25 [32])
      refine ⟨fun ac wc hW hk K hK=>?_,?_⟩
      · obtain ⟨q0,-⟩:=hk
        have q0:ac.tmps.getD 5 undef=.pointer (some ⟨Gb,0,none⟩):=q0
        go_simp
        exact hK _ _ (Below.refl _ _) hW rfl
      refine ⟨fun ac wc hW hk K hK=>?_,?_⟩
      · obtain ⟨q0,-⟩:=hk
        have q0:ac.tmps.getD 27 undef=.pointer (some ⟨Gb,1,none⟩):=q0
        have e0:=cellOf (blk_on X2.out hW) 1 _ rfl
        go_simp
        exact hK _ _ (Below.refl _ _) hW rfl
      refine ⟨fun ac wc hW hk K hK=>?_,?_⟩
      · obtain ⟨q0,-⟩:=hk
        have q0:ac.tmps.getD 28 undef=.slice a1 n1 k1:=q0
        go_simp
        refine (C1.out wc hW).mono ?_
        rintro r7 w7 ⟨rfl,b7⟩
        go_simp
        exact hK _ _ b7 (hW.trans (b7.mono hW.size)) rfl
      refine ⟨fun ac wc hW hk K hK=>?_,?_⟩
      · obtain ⟨q0,q1,-⟩:=hk
        have q0:ac.tmps.getD 26 undef=.string (str y26):=q0
        have q1:ac.tmps.getD 29 undef=.string (str z1):=q1
        have n0:¬ 9223372036854775807<(str y26).size+(str z1).size:=by simp only [str_size];omega
        go_simp
        exact hK _ _ (Below.refl _ _) hW (by rw [← Ey30.out];exact str_add y26 z1)
      refine ⟨fun ac wc hW hk K hK=>?_,?_⟩
      · obtain ⟨q0,-⟩:=hk
        have q0:ac.tmps.getD 30 undef=.string (str y30):=q0
        have n0:¬ 9223372036854775807<(str y30).size+4:=by simp only [str_size];omega
        go_simp
        exact hK _ _ (Below.refl _ _) hW (by rw [← Ey31.out];exact str_add y30 [32,45,62,32])
      refine ⟨fun ac wc hW hk K hK=>?_,?_⟩
      · obtain ⟨q0,-⟩:=hk
        have q0:ac.tmps.getD 5 undef=.pointer (some ⟨Gb,0,none⟩):=q0
        go_simp
        exact hK _ _ (Below.refl _ _) hW rfl
      refine ⟨fun ac wc hW hk K hK=>?_,?_⟩
      · obtain ⟨q0,-⟩:=hk
        have q0:ac.tmps.getD 32 undef=.pointer (some ⟨Gb,2,none⟩):=q0
        have e0:=cellOf (blk_on X2.out hW) 2 _ rfl
        go_simp
        exact hK _ _ (Below.refl _ _) hW rfl
      refine ⟨fun ac wc hW hk K hK=>?_,?_⟩
      · obtain ⟨q0,-⟩:=hk
        have q0:ac.tmps.getD 33 undef=.slice a2 n2 k2:=q0
        go_simp
        refine (C2.out wc hW).mono ?_
        rintro r7 w7 ⟨rfl,b7⟩
        go_simp
        exact hK _ _ b7 (hW.trans (b7.mono hW.size)) rfl
      refine ⟨fun ac wc hW hk K hK=>?_,?_⟩
      · obtain ⟨q0,q1,-⟩:=hk
        have q0:ac.tmps.getD 31 undef=.string (str y31):=q0
        have q1:ac.tmps.getD 34 undef=.string (str z2):=q1
        have n0:¬ 9223372036854775807<(str y31).size+(str z2).size:=by simp only [str_size];omega
        go_simp
        exact hK _ _ (Below.refl _ _) hW (by rw [← Ey35.out];exact str_add y31 z2)
      refine ⟨fun ac wc hW hk K hK=>?_,?_⟩
      · obtain ⟨q0,-⟩:=hk
        have q0:ac.tmps.getD 35 undef=.string (str y35):=q0
        have n0:¬ 9223372036854775807<(str y35).size+3:=by simp only [str_size];omega
        go_simp
        exact hK _ _ (Below.refl _ _) hW (by rw [← Ey36.out];exact str_add y35 [32,123,10])
      refine ⟨fun ac wc hW hk K hK=>?_,?_⟩
      · obtain ⟨q0,q1,-⟩:=hk
        have q0:ac.tmps.getD 21 undef=.string (str s):=q0
        have q1:ac.tmps.getD 36 undef=.string (str y36):=q1
        have n0:¬ 9223372036854775807<(str s).size+(str y36).size:=by simp only [str_size];omega
        go_simp
        exact hK _ _ (Below.refl _ _) hW (by rw [← Ey37.out];exact str_add s y36)
      trivial
    case hend =>
      intro ops vs wt hW hk
      have hv0:vs 37=.string (str y37):=hk 37 (by kernel_rfl)
      show wpList _ ops _ [_] (puts _ vs [21,22,23,24,25,26,27,28,29,30,31,32,33,34,35,36,37]) wt
      simp only [puts,Act.put,List.setIfInBounds_toArray,List.set_cons_zero,List.set_cons_succ,hv0]
      clear hk hv0
      have W3:Hid (Below w2.heap.size w2 wt):=hW
      clear hW C0 C1 C2
      have ly:y37.length≤20100000000:=by omega
      clear ly25 ly26 ly30 ly31 ly35 ly36 ly37 Ey25 Ey26 Ey30 Ey31 Ey35 Ey36 Ey37 l0 l1 l2 l3 hT
      go_wp2_with fail
      go_loopw [3,6] (fun v i wq=>∃ b:Nat,b≤xs.length∧i=.int .i64 b∧v=.string (str (y37++blocksT (xs.take b)))∧Below wt.heap.size wt wq) (fun _ i _=>xs.length - (intOf i).toNat)
      case atStart=>exact ⟨0,Nat.zero_le _,rfl,by simp [blocksT],Below.refl _ _⟩
      case round =>
        obtain ⟨b,hb,rfl,rfl,hbl⟩:=hrel
        have W4:Hid (Below w2.heap.size w2 wr):=W3.out.trans (hbl.mono W3.out.size)
        have W5:Hid (Below wt.heap.size wt wr):=hbl
        clear hbl
        have e3:=cellOf (blk_on X2.out W4.out) 3 _ rfl
        by_cases hlb:b<xs.length
        rotate_left
        · have hk2:¬ (b:Int)<xs.length:=by omega
          have E:Hid (xs.take b=xs):=List.take_of_length_le (by omega)
          have l5:(y37++blocksT (xs.take b)).length≤30000000000:=by rw [List.length_append,E.out];omega
          have R:Hid (str (modTxt (m.take (q+1)))=str (y37++blocksT (xs.take b))++str [125,10]):=str2 (by rw [S.out,T.out,E.out])
          generalize y37++blocksT (xs.take b)=s1 at l5 R ⊢
          have f1:¬ 9223372036854775807<(str s1).size+2:=by rw [str_size];omega
          have B9:Hid (Below w1.heap.size w1 wr):=Bx.out.trans (W4.out.mono Bx.out.size)
          go_wp2
          go_roundw
          case rel=>exact ⟨q+1,by omega,by go_num,by rw [R.out];rfl,B9.out⟩
          case measure=>simp [intOf];omega
        have hy:xs[b]?=some xs[b]:=List.getElem?_eq_getElem hlb
        obtain ⟨h,o2,dt,rfl,_,hh,hc,hdt⟩:=Lay.list_at (Lay.below U3.out W4.out) hy
        generalize xs[b]=y at hy hdt
        have lb0:=bhead_len hdt (GB.out y (List.mem_of_getElem? hy))
        obtain ⟨p1,j1,p2,j2,es,rfl,v1,v2,he,i4⟩:=block_form hdt
        obtain ⟨t1,t2,p3,j3,rfl,hy1,hy2,v3,i5,i6⟩:=end_form he
        have hy1':=hy1
        have hy2':=hy2
        obtain ⟨p4,j4,p5,j5,rfl,-,-,-⟩:=to_form hy1
        obtain ⟨p6,j6,p7,j7,rfl,-,-,-⟩:=to_form hy2
        clear he hy1 hy2
        simp only [List.cons_append,List.nil_append] at hc
        have d0:=hc 0 (show 0<12 by omega)
        have d1:=hc 1 (show 1<12 by omega)
        have d2:=hc 2 (show 2<12 by omega)
        have d3:=hc 3 (show 3<12 by omega)
        have d4:=hc 4 (show 4<12 by omega)
        have d5:=hc 5 (show 5<12 by omega)
        have d6:=hc 6 (show 6<12 by omega)
        have d7:=hc 7 (show 7<12 by omega)
        have d8:=hc 8 (show 8<12 by omega)
        have d9:=hc 9 (show 9<12 by omega)
        have d10:=hc 10 (show 10<12 by omega)
        have d11:=hc 11 (show 11<12 by omega)
        rw [show (blockL n).size=12 from rfl] at d0 d1 d2 d3 d4 d5 d6 d7 d8 d9 d10 d11
        simp only [List.getElem?_cons_zero,List.getElem?_cons_succ,Nat.add_zero] at d0 d1 d2 d3 d4 d5 d6 d7 d8 d9 d10 d11
        have hk2:(0:Int)≤b:=by omega
        have hk3:(b:Int)<xs.length:=by omega
        have hmem:=List.mem_of_getElem? hy
        have gy:¬ y.great:=GB.out y hmem
        have fy:y.fine m.length:=FB.out y hmem
        have sy:=MBlock.small_of gy
        obtain ⟨nb,hnb,hfin⟩:=fy.fin
        have op:=(end_zero hnb hfin).1
        have O:Hid (y.fin.op=1∨y.fin.op=2∨y.fin.op=3):=op
        have SB:Hid (blocksT (xs.take (b+1))=blocksT (xs.take b)++y.txt):=blocks_take hy
        have lb1:=Lib.itoa_length_le _ i4.1 i4.2
        have lb2:=rtyps_len (types_lin v1).2 (fun h=>gy (.inr (.inl h)))
        have lb3:(y37++blocksT (xs.take b)).length≤30000000000:=by
          have:=flat_le MBlock.txt xs b
          rw [List.length_append]
          unfold blocksT at l4 ⊢
          omega
        have bb1:Below wr.heap.size wr (wr.alloc (.cells #[.int .i64 y.regs,.slice p1 y.params.length j1,.slice p2 y.code.length j2,.int .i64 y.fin.op,.int .i64 y.fin.a,.int .i64 y.fin.yes.block,.slice p4 y.fin.yes.regs.length j4,.slice p5 y.fin.yes.args.length j5,.int .i64 y.fin.no.block,.slice p6 y.fin.no.regs.length j6,.slice p7 y.fin.no.args.length j7,.slice p3 y.fin.args.length j3] 52)):=bel1 _ _
        have C0:Hid (∀ wx,Below (wr.alloc (.cells #[.int .i64 y.regs,.slice p1 y.params.length j1,.slice p2 y.code.length j2,.int .i64 y.fin.op,.int .i64 y.fin.a,.int .i64 y.fin.yes.block,.slice p4 y.fin.yes.regs.length j4,.slice p5 y.fin.yes.args.length j5,.int .i64 y.fin.no.block,.slice p6 y.fin.no.regs.length j6,.slice p7 y.fin.no.args.length j7,.slice p3 y.fin.args.length j3] 52)).heap.size (wr.alloc (.cells #[.int .i64 y.regs,.slice p1 y.params.length j1,.slice p2 y.code.length j2,.int .i64 y.fin.op,.int .i64 y.fin.a,.int .i64 y.fin.yes.block,.slice p4 y.fin.yes.regs.length j4,.slice p5 y.fin.yes.args.length j5,.int .i64 y.fin.no.block,.slice p6 y.fin.no.regs.length j6,.slice p7 y.fin.no.args.length j7,.slice p3 y.fin.args.length j3] 52)) wx→Calls Tryz.prog 88 #[.int .i64 y.regs] wx fun e w'=>e=.returned (.string (str (Lib.itoa y.regs)))∧Below wx.heap.size wx w'):=fun wx hb=>itoa_any _ i4 wx (P2.out.below ((W4.out.trans (bb1.mono W4.out.size)).trans (hb.mono (Nat.le_trans W4.out.size bb1.size))))
        have C1:Hid (∀ wx,Below (wr.alloc (.cells #[.int .i64 y.regs,.slice p1 y.params.length j1,.slice p2 y.code.length j2,.int .i64 y.fin.op,.int .i64 y.fin.a,.int .i64 y.fin.yes.block,.slice p4 y.fin.yes.regs.length j4,.slice p5 y.fin.yes.args.length j5,.int .i64 y.fin.no.block,.slice p6 y.fin.no.regs.length j6,.slice p7 y.fin.no.args.length j7,.slice p3 y.fin.args.length j3] 52)).heap.size (wr.alloc (.cells #[.int .i64 y.regs,.slice p1 y.params.length j1,.slice p2 y.code.length j2,.int .i64 y.fin.op,.int .i64 y.fin.a,.int .i64 y.fin.yes.block,.slice p4 y.fin.yes.regs.length j4,.slice p5 y.fin.yes.args.length j5,.int .i64 y.fin.no.block,.slice p6 y.fin.no.regs.length j6,.slice p7 y.fin.no.args.length j7,.slice p3 y.fin.args.length j3] 52)) wx→Calls Tryz.prog 89 #[.slice p1 y.params.length j1] wx fun e w'=>e=.returned (.string (str (typsT y.params)))∧Below wx.heap.size wx w'):=fun wx hb=>typesTextR_any _ _ _ wx (Lay.below (Lay.below v1 bb1) hb) (P2.out.below ((W4.out.trans (bb1.mono W4.out.size)).trans (hb.mono (Nat.le_trans W4.out.size bb1.size)))) (fun h=>gy (.inr (.inl h)))
        have C2:Hid (∀ wx,Below (wr.alloc (.cells #[.int .i64 y.regs,.slice p1 y.params.length j1,.slice p2 y.code.length j2,.int .i64 y.fin.op,.int .i64 y.fin.a,.int .i64 y.fin.yes.block,.slice p4 y.fin.yes.regs.length j4,.slice p5 y.fin.yes.args.length j5,.int .i64 y.fin.no.block,.slice p6 y.fin.no.regs.length j6,.slice p7 y.fin.no.args.length j7,.slice p3 y.fin.args.length j3] 52)).heap.size (wr.alloc (.cells #[.int .i64 y.regs,.slice p1 y.params.length j1,.slice p2 y.code.length j2,.int .i64 y.fin.op,.int .i64 y.fin.a,.int .i64 y.fin.yes.block,.slice p4 y.fin.yes.regs.length j4,.slice p5 y.fin.yes.args.length j5,.int .i64 y.fin.no.block,.slice p6 y.fin.no.regs.length j6,.slice p7 y.fin.no.args.length j7,.slice p3 y.fin.args.length j3] 52)) wx→Calls Tryz.prog 88 #[.int .i64 y.fin.a] wx fun e w'=>e=.returned (.string (str (Lib.itoa y.fin.a)))∧Below wx.heap.size wx w'):=fun wx hb=>itoa_any _ i6 wx (P2.out.below ((W4.out.trans (bb1.mono W4.out.size)).trans (hb.mono (Nat.le_trans W4.out.size bb1.size))))
        have C3:Hid (∀ wx,Below (wr.alloc (.cells #[.int .i64 y.regs,.slice p1 y.params.length j1,.slice p2 y.code.length j2,.int .i64 y.fin.op,.int .i64 y.fin.a,.int .i64 y.fin.yes.block,.slice p4 y.fin.yes.regs.length j4,.slice p5 y.fin.yes.args.length j5,.int .i64 y.fin.no.block,.slice p6 y.fin.no.regs.length j6,.slice p7 y.fin.no.args.length j7,.slice p3 y.fin.args.length j3] 52)).heap.size (wr.alloc (.cells #[.int .i64 y.regs,.slice p1 y.params.length j1,.slice p2 y.code.length j2,.int .i64 y.fin.op,.int .i64 y.fin.a,.int .i64 y.fin.yes.block,.slice p4 y.fin.yes.regs.length j4,.slice p5 y.fin.yes.args.length j5,.int .i64 y.fin.no.block,.slice p6 y.fin.no.regs.length j6,.slice p7 y.fin.no.args.length j7,.slice p3 y.fin.args.length j3] 52)) wx→Calls Tryz.prog 91 #[.agg #[.int .i64 y.fin.yes.block,.slice p4 y.fin.yes.regs.length j4,.slice p5 y.fin.yes.args.length j5]] wx fun e w'=>e=.returned (.string (str y.fin.yes.txt))∧Below wx.heap.size wx w'):=fun wx hb=>toTextR_any _ _ wx (Lay.below (Lay.below hy1' bb1) hb) (P2.out.below ((W4.out.trans (bb1.mono W4.out.size)).trans (hb.mono (Nat.le_trans W4.out.size bb1.size)))) sy.2.2.1.1
        have C4:Hid (∀ wx,Below (wr.alloc (.cells #[.int .i64 y.regs,.slice p1 y.params.length j1,.slice p2 y.code.length j2,.int .i64 y.fin.op,.int .i64 y.fin.a,.int .i64 y.fin.yes.block,.slice p4 y.fin.yes.regs.length j4,.slice p5 y.fin.yes.args.length j5,.int .i64 y.fin.no.block,.slice p6 y.fin.no.regs.length j6,.slice p7 y.fin.no.args.length j7,.slice p3 y.fin.args.length j3] 52)).heap.size (wr.alloc (.cells #[.int .i64 y.regs,.slice p1 y.params.length j1,.slice p2 y.code.length j2,.int .i64 y.fin.op,.int .i64 y.fin.a,.int .i64 y.fin.yes.block,.slice p4 y.fin.yes.regs.length j4,.slice p5 y.fin.yes.args.length j5,.int .i64 y.fin.no.block,.slice p6 y.fin.no.regs.length j6,.slice p7 y.fin.no.args.length j7,.slice p3 y.fin.args.length j3] 52)) wx→Calls Tryz.prog 91 #[.agg #[.int .i64 y.fin.no.block,.slice p6 y.fin.no.regs.length j6,.slice p7 y.fin.no.args.length j7]] wx fun e w'=>e=.returned (.string (str y.fin.no.txt))∧Below wx.heap.size wx w'):=fun wx hb=>toTextR_any _ _ wx (Lay.below (Lay.below hy2' bb1) hb) (P2.out.below ((W4.out.trans (bb1.mono W4.out.size)).trans (hb.mono (Nat.le_trans W4.out.size bb1.size)))) sy.2.2.1.2.1
        have C5:Hid (∀ wx,Below (wr.alloc (.cells #[.int .i64 y.regs,.slice p1 y.params.length j1,.slice p2 y.code.length j2,.int .i64 y.fin.op,.int .i64 y.fin.a,.int .i64 y.fin.yes.block,.slice p4 y.fin.yes.regs.length j4,.slice p5 y.fin.yes.args.length j5,.int .i64 y.fin.no.block,.slice p6 y.fin.no.regs.length j6,.slice p7 y.fin.no.args.length j7,.slice p3 y.fin.args.length j3] 52)).heap.size (wr.alloc (.cells #[.int .i64 y.regs,.slice p1 y.params.length j1,.slice p2 y.code.length j2,.int .i64 y.fin.op,.int .i64 y.fin.a,.int .i64 y.fin.yes.block,.slice p4 y.fin.yes.regs.length j4,.slice p5 y.fin.yes.args.length j5,.int .i64 y.fin.no.block,.slice p6 y.fin.no.regs.length j6,.slice p7 y.fin.no.args.length j7,.slice p3 y.fin.args.length j3] 52)) wx→Calls Tryz.prog 92 #[.string ⟨#[40]⟩,.slice p3 y.fin.args.length j3,.string ⟨#[41]⟩] wx fun e w'=>e=.returned (.string (str (intsT 40 41 y.fin.args)))∧Below wx.heap.size wx w'):=fun wx hb=>intsText_any 40 41 _ _ _ wx (Lay.below (Lay.below v3 bb1) hb) (P2.out.below ((W4.out.trans (bb1.mono W4.out.size)).trans (hb.mono (Nat.le_trans W4.out.size bb1.size)))) sy.2.2.1.2.2
        have V2:Hid (insL.list.In (wr.alloc (.cells #[.int .i64 y.regs,.slice p1 y.params.length j1,.slice p2 y.code.length j2,.int .i64 y.fin.op,.int .i64 y.fin.a,.int .i64 y.fin.yes.block,.slice p4 y.fin.yes.regs.length j4,.slice p5 y.fin.yes.args.length j5,.int .i64 y.fin.no.block,.slice p6 y.fin.no.regs.length j6,.slice p7 y.fin.no.args.length j7,.slice p3 y.fin.args.length j3] 52)) All y.code [.slice p2 y.code.length j2]):=Lay.below v2 bb1
        have FC:Hid (∀ z∈y.code,(fieldsOf z.op).isNone=false):=fun z hz=>(form_zero (fy.code z hz)).1
        have GC:Hid (∀ z∈y.code,z.small):=sy.2.2.2
        have P3:Hid (Pows (wr.alloc (.cells #[.int .i64 y.regs,.slice p1 y.params.length j1,.slice p2 y.code.length j2,.int .i64 y.fin.op,.int .i64 y.fin.a,.int .i64 y.fin.yes.block,.slice p4 y.fin.yes.regs.length j4,.slice p5 y.fin.yes.args.length j5,.int .i64 y.fin.no.block,.slice p6 y.fin.no.regs.length j6,.slice p7 y.fin.no.args.length j7,.slice p3 y.fin.args.length j3] 52))):=P2.out.below (W4.out.trans (bb1.mono W4.out.size))
        have W6:Hid (Below wt.heap.size wt (wr.alloc (.cells #[.int .i64 y.regs,.slice p1 y.params.length j1,.slice p2 y.code.length j2,.int .i64 y.fin.op,.int .i64 y.fin.a,.int .i64 y.fin.yes.block,.slice p4 y.fin.yes.regs.length j4,.slice p5 y.fin.yes.args.length j5,.int .i64 y.fin.no.block,.slice p6 y.fin.no.regs.length j6,.slice p7 y.fin.no.args.length j7,.slice p3 y.fin.args.length j3] 52))):=W5.out.trans (bb1.mono W5.out.size)
        have lb4:(codeT y.code).length≤5000000:=code_len v2 sy.2.2.2 (Nat.le_of_not_lt fun h=>gy (.inl h))
        have gl3:y.code.length≤200:=Nat.le_of_not_lt fun h=>gy (.inl h)
        have lb5:=Lib.itoa_length_le _ i6.1 i6.2
        have lb6:=to_len hy1' sy.2.2.1.1
        have lb7:=to_len hy2' sy.2.2.1.2.1
        have lb8:=ints_len 40 41 v3 sy.2.2.1.2.2
        have hU:Hid (y.txt=[98,108,111,99,107,32]++Lib.itoa y.regs++[32]++typsT y.params++[32,123,10]++codeT y.code++lineT y.fin.txt++[125,10]):=by show _=_;simp [MBlock.txt,MBlock.head,nT,wBlock]
        have E1:Hid (y.fin.op=1→lineT y.fin.txt=[9,106,117,109,112,32]++y.fin.yes.txt++[59,10]):=fun h=>by simp [MEnd.txt,lineT,h,wJump]
        have E2:Hid (y.fin.op=2→lineT y.fin.txt=[9,105,102,32]++Lib.itoa y.fin.a++[32,116,111,32]++y.fin.yes.txt++[32,101,108,115,101,32]++y.fin.no.txt++[59,10]):=fun h=>by simp [MEnd.txt,lineT,h,wIf,wTo,wElse,nT]
        have E3:Hid (y.fin.op=3→lineT y.fin.txt=[9,114,101,116,32]++intsT 40 41 y.fin.args++[59,10]):=fun h=>by simp [MEnd.txt,lineT,h,wRet]
        have X3:Hid (Blk (wr.alloc (.cells #[.int .i64 y.regs,.slice p1 y.params.length j1,.slice p2 y.code.length j2,.int .i64 y.fin.op,.int .i64 y.fin.a,.int .i64 y.fin.yes.block,.slice p4 y.fin.yes.regs.length j4,.slice p5 y.fin.yes.args.length j5,.int .i64 y.fin.no.block,.slice p6 y.fin.no.regs.length j6,.slice p7 y.fin.no.args.length j7,.slice p3 y.fin.args.length j3] 52)) wr.heap.size #[.int .i64 y.regs,.slice p1 y.params.length j1,.slice p2 y.code.length j2,.int .i64 y.fin.op,.int .i64 y.fin.a,.int .i64 y.fin.yes.block,.slice p4 y.fin.yes.regs.length j4,.slice p5 y.fin.yes.args.length j5,.int .i64 y.fin.no.block,.slice p6 y.fin.no.regs.length j6,.slice p7 y.fin.no.args.length j7,.slice p3 y.fin.args.length j3] 52):=Blk.new _ _ _
        clear hc hdt hy hmem v1 v2 v3 hy1' hy2' i4 i5 i6 gy fy sy nb hnb hfin op bb1 lb0
        go_upto_region 11 with fail
        clear d0 d1 d2 d3 d4 d5 d6 d7 d8 d9 d10 d11 hh e3
        generalize wr.alloc (.cells #[.int .i64 y.regs,.slice p1 y.params.length j1,.slice p2 y.code.length j2,.int .i64 y.fin.op,.int .i64 y.fin.a,.int .i64 y.fin.yes.block,.slice p4 y.fin.yes.regs.length j4,.slice p5 y.fin.yes.args.length j5,.int .i64 y.fin.no.block,.slice p6 y.fin.no.regs.length j6,.slice p7 y.fin.no.args.length j7,.slice p3 y.fin.args.length j3] 52)=w4 at X3 V2 P3 W6 C0 C1 C2 C3 C4 C5 ⊢
        generalize hHb:wr.heap.size=Hb at X3 ⊢
        clear hHb
        generalize hs0:y37++blocksT (xs.take b)=s1 at lb3 ⊢
        have hs1:Hid (y37++blocksT (xs.take b)=s1):=hs0
        clear hs0
        generalize Lib.itoa y.regs=z0 at C0 lb1 hU
        generalize typsT y.params=z1 at C1 lb2 hU
        generalize Lib.itoa y.fin.a=z2 at C2 lb5 E2
        generalize y.fin.yes.txt=z3 at C3 lb6 E1 E2
        generalize y.fin.no.txt=z4 at C4 lb7 E2
        generalize intsT 40 41 y.fin.args=z5 at C5 lb8 E3
        generalize lineT y.fin.txt=zl at hU E1 E2 E3
        generalize y.code=ys at V2 X3 lb4 FC GC hU gl3 ⊢
        generalize y.fin.op=jo at O X3 E1 E2 E3 ⊢
        generalize y.fin.a=ja at C2 X3 ⊢
        generalize y.regs=jr at C0 X3 ⊢
        generalize y.params.length=n4 at C1 X3 ⊢
        generalize y.fin.yes.block=q1 at C3 X3 ⊢
        generalize y.fin.yes.regs.length=n6 at C3 X3 ⊢
        generalize y.fin.yes.args.length=n7 at C3 X3 ⊢
        generalize y.fin.no.block=q2 at C4 X3 ⊢
        generalize y.fin.no.regs.length=n8 at C4 X3 ⊢
        generalize y.fin.no.args.length=n9 at C4 X3 ⊢
        generalize y.fin.args.length=n10 at C5 X3 ⊢
        obtain ⟨y54,Ey54,ly54⟩:=cat_letter [98,108,111,99,107,32] z0
        replace ly54:y54.length=6+z0.length:=ly54
        obtain ⟨y55,Ey55,ly55⟩:=cat_letter y54 [32]
        replace ly55:y55.length=y54.length+1:=ly55
        obtain ⟨y59,Ey59,ly59⟩:=cat_letter y55 z1
        replace ly59:y59.length=y55.length+z1.length:=ly59
        obtain ⟨y60,Ey60,ly60⟩:=cat_letter y59 [32,123,10]
        replace ly60:y60.length=y59.length+3:=ly60
        obtain ⟨y61,Ey61,ly61⟩:=cat_letter s1 y60
        replace ly61:y61.length=s1.length+y60.length:=ly61
        have T2:Hid (str (y37++blocksT (xs.take (b+1)))=str (y61++codeT ys++zl++[125,10])):=by show _=_;rw [SB.out,← List.append_assoc,hs1.out,hU.out,Ey54.out,Ey55.out,Ey59.out,Ey60.out,← Ey61.out];simp
        refine wp_region_calm_tail 12 (PTab.E ([(3,fun v _=>v=.string (str s1)),(7,fun v _=>v=.pointer (some ⟨Hb,0,none⟩)),(50,fun v _=>v=.string (str s1)),(51,fun v _=>v=.pointer (some ⟨Hb,0,none⟩)),(52,fun v _=>v=.int .i64 jr),(53,fun v _=>v=.string (str z0)),(54,fun v _=>v=.string (str y54)),(55,fun v _=>v=.string (str y55)),(56,fun v _=>v=.pointer (some ⟨Hb,1,none⟩)),(57,fun v _=>v=.slice p1 n4 j1),(58,fun v _=>v=.string (str z1)),(59,fun v _=>v=.string (str y59)),(60,fun v _=>v=.string (str y60)),(61,fun v _=>v=.string (str y61))]:PTab)) (fun wx=>Below w4.heap.size w4 wx) (fun w w'=>Below w.heap.size w w') (outs:=[3,7]) (gs:=[]) (bs:=[true,true,true,true,true,true,true,true,true,true,true,true]) (by kernel_rfl) (n:=124) rfl (Nat.le_refl _) (by kernel_rfl) (by kernel_rfl) (PTab_stable _ ⟨fun _ _ _ _ h=>h,fun _ _ _ _ h=>h,fun _ _ _ _ h=>h,fun _ _ _ _ h=>h,fun _ _ _ _ h=>h,fun _ _ _ _ h=>h,fun _ _ _ _ h=>h,fun _ _ _ _ h=>h,fun _ _ _ _ h=>h,fun _ _ _ _ h=>h,fun _ _ _ _ h=>h,fun _ _ _ _ h=>h,fun _ _ _ _ h=>h,fun _ _ _ _ h=>h,trivial⟩) ?hG (drewN_below (m:=1) (Below.refl _ _)) ⟨rfl,rfl,trivial⟩ ?hA ?hend
        case hG=>exact trivial
        case hA =>
          show AllOk _ _ _ _ [_,_,_,_,_,_,_,_,_,_,_,_] _
          refine ⟨fun ac wc hW hk K hK=>?_,?_⟩
          · obtain ⟨q0,-⟩:=hk
            have q0:ac.tmps.getD 3 undef=.string (str s1):=q0
            go_simp
            exact hK _ _ (Below.refl _ _) hW rfl
          refine ⟨fun ac wc hW hk K hK=>?_,?_⟩
          · obtain ⟨q0,-⟩:=hk
            have q0:ac.tmps.getD 7 undef=.pointer (some ⟨Hb,0,none⟩):=q0
            go_simp
            exact hK _ _ (Below.refl _ _) hW rfl
          refine ⟨fun ac wc hW hk K hK=>?_,?_⟩
          · obtain ⟨q0,-⟩:=hk
            have q0:ac.tmps.getD 51 undef=.pointer (some ⟨Hb,0,none⟩):=q0
            have e0:=cellOf (blk_on X3.out hW) 0 _ rfl
            go_simp
            exact hK _ _ (Below.refl _ _) hW rfl
          refine ⟨fun ac wc hW hk K hK=>?_,?_⟩
          · obtain ⟨q0,-⟩:=hk
            have q0:ac.tmps.getD 52 undef=.int .i64 jr:=q0
            go_simp
            refine (C0.out wc hW).mono ?_
            rintro r7 w7 ⟨rfl,b7⟩
            go_simp
            exact hK _ _ b7 (hW.trans (b7.mono hW.size)) rfl
          refine ⟨fun ac wc hW hk K hK=>?_,?_⟩
          · obtain ⟨q0,-⟩:=hk
            have q0:ac.tmps.getD 53 undef=.string (str z0):=q0
            have n0:¬ 9223372036854775807<6+(str z0).size:=by simp only [str_size];omega
            go_simp
            exact hK _ _ (Below.refl _ _) hW (by rw [← Ey54.out];exact str_add [98,108,111,99,107,32] z0)
          refine ⟨fun ac wc hW hk K hK=>?_,?_⟩
          · obtain ⟨q0,-⟩:=hk
            have q0:ac.tmps.getD 54 undef=.string (str y54):=q0
            have n0:¬ 9223372036854775807<(str y54).size+1:=by simp only [str_size];omega
            go_simp
            exact hK _ _ (Below.refl _ _) hW (by rw [← Ey55.out];exact str_add y54 [32])
          refine ⟨fun ac wc hW hk K hK=>?_,?_⟩
          · obtain ⟨q0,-⟩:=hk
            have q0:ac.tmps.getD 7 undef=.pointer (some ⟨Hb,0,none⟩):=q0
            go_simp
            exact hK _ _ (Below.refl _ _) hW rfl
          refine ⟨fun ac wc hW hk K hK=>?_,?_⟩
          · obtain ⟨q0,-⟩:=hk
            have q0:ac.tmps.getD 56 undef=.pointer (some ⟨Hb,1,none⟩):=q0
            have e0:=cellOf (blk_on X3.out hW) 1 _ rfl
            go_simp
            exact hK _ _ (Below.refl _ _) hW rfl
          refine ⟨fun ac wc hW hk K hK=>?_,?_⟩
          · obtain ⟨q0,-⟩:=hk
            have q0:ac.tmps.getD 57 undef=.slice p1 n4 j1:=q0
            go_simp
            refine (C1.out wc hW).mono ?_
            rintro r7 w7 ⟨rfl,b7⟩
            go_simp
            exact hK _ _ b7 (hW.trans (b7.mono hW.size)) rfl
          refine ⟨fun ac wc hW hk K hK=>?_,?_⟩
          · obtain ⟨q0,q1,-⟩:=hk
            have q0:ac.tmps.getD 55 undef=.string (str y55):=q0
            have q1:ac.tmps.getD 58 undef=.string (str z1):=q1
            have n0:¬ 9223372036854775807<(str y55).size+(str z1).size:=by simp only [str_size];omega
            go_simp
            exact hK _ _ (Below.refl _ _) hW (by rw [← Ey59.out];exact str_add y55 z1)
          refine ⟨fun ac wc hW hk K hK=>?_,?_⟩
          · obtain ⟨q0,-⟩:=hk
            have q0:ac.tmps.getD 59 undef=.string (str y59):=q0
            have n0:¬ 9223372036854775807<(str y59).size+3:=by simp only [str_size];omega
            go_simp
            exact hK _ _ (Below.refl _ _) hW (by rw [← Ey60.out];exact str_add y59 [32,123,10])
          refine ⟨fun ac wc hW hk K hK=>?_,?_⟩
          · obtain ⟨q0,q1,-⟩:=hk
            have q0:ac.tmps.getD 50 undef=.string (str s1):=q0
            have q1:ac.tmps.getD 60 undef=.string (str y60):=q1
            have n0:¬ 9223372036854775807<(str s1).size+(str y60).size:=by simp only [str_size];omega
            go_simp
            exact hK _ _ (Below.refl _ _) hW (by rw [← Ey61.out];exact str_add s1 y60)
          trivial
        case hend =>
          intro ops vs wu hW hk
          have hv0:vs 61=.string (str y61):=hk 61 (by kernel_rfl)
          show wpList _ ops _ [_] (puts _ vs [50,51,52,53,54,55,56,57,58,59,60,61]) wu
          simp only [puts,Act.put,List.setIfInBounds_toArray,List.set_cons_zero,List.set_cons_succ,hv0]
          clear hk hv0
          have W7:Hid (Below w4.heap.size w4 wu):=hW
          clear hW C0 C1
          have ly:y61.length≤30100000000:=by omega
          clear ly54 ly55 ly59 ly60 ly61 Ey54 Ey55 Ey59 Ey60 Ey61 lb1 lb2 hU hs1 SB lb3
          go_wp2_with fail
          go_loopw [3,8] (fun v i wq=>∃ j:Nat,j≤ys.length∧i=.int .i64 j∧v=.string (str (y61++codeT (ys.take j)))∧Below wu.heap.size wu wq) (fun _ i _=>ys.length - (intOf i).toNat)
          case atStart=>exact ⟨0,Nat.zero_le _,rfl,by simp [codeT],Below.refl _ _⟩
          case round =>
            obtain ⟨j,hj,rfl,rfl,hbl⟩:=hrel
            have W8:Hid (Below w4.heap.size w4 wr):=W7.out.trans (hbl.mono W7.out.size)
            have W9:Hid (Below wu.heap.size wu wr):=hbl
            clear hbl
            have lc0:(y61++codeT (ys.take j)).length≤31000000000:=by
              have:=flat_le (fun x:MIns=>lineT x.txt) ys j
              rw [List.length_append]
              unfold codeT at lb4 ⊢
              omega
            by_cases hlj:j<ys.length
            · have hz:ys[j]?=some ys[j]:=List.getElem?_eq_getElem hlj
              obtain ⟨h,o3,du,rfl,_,hh,hc,hdu⟩:=Lay.list_at (Lay.below V2.out W8.out) hz
              generalize ys[j]=z at hz hdu
              have hdu':=hdu
              obtain ⟨pa,ja1,pb,jb1,rfl,-,-,-⟩:=ins_form hdu'
              clear hdu'
              have d0:=hc 0 (show 0<8 by omega)
              have d1:=hc 1 (show 1<8 by omega)
              have d2:=hc 2 (show 2<8 by omega)
              have d3:=hc 3 (show 3<8 by omega)
              have d4:=hc 4 (show 4<8 by omega)
              have d5:=hc 5 (show 5<8 by omega)
              have d6:=hc 6 (show 6<8 by omega)
              have d7:=hc 7 (show 7<8 by omega)
              rw [show insL.size=8 from rfl] at d0 d1 d2 d3 d4 d5 d6 d7
              simp only [List.getElem?_cons_zero,List.getElem?_cons_succ,Nat.add_zero] at d0 d1 d2 d3 d4 d5 d6 d7
              have e2:=cellOf (blk_on X3.out W8.out) 2 _ rfl
              have hk4:(0:Int)≤j:=by omega
              have hk5:(j:Int)<ys.length:=by omega
              have hmem:=List.mem_of_getElem? hz
              have CI:Hid (Calls Tryz.prog 90 _ wr fun e w'=>e=.returned (.string (str z.txt))∧Below wr.heap.size wr w'):=insTextR_any z _ wr hdu (P3.out.below W8.out) (GC.out z hmem) (FC.out z hmem)
              have lc1:=ins_len hdu (GC.out z hmem)
              have SC:Hid (str (y61++codeT (ys.take (j+1)))=str (y61++codeT (ys.take j))++(str [9]++str z.txt++str [59,10])):=str3 (by rw [code_take hz,lineT];simp)
              generalize y61++codeT (ys.take j)=s2 at lc0 SC ⊢
              clear hc hdu hz hmem
              generalize z.txt=zt at CI lc1 SC
              have f1:¬ 9223372036854775807<1+(str zt).size:=by rw [str_size];omega
              have f2:¬ 9223372036854775807<1+(str zt).size+2:=by rw [str_size];omega
              have f3:¬ 9223372036854775807<(str s2).size+(1+(str zt).size+2):=by rw [str_size,str_size];omega
              go_wp2_with fail
              refine CI.out.mono ?_
              rintro e wv ⟨rfl,bv⟩
              have W10:Hid (Below wu.heap.size wu wv):=W9.out.trans (bv.mono W9.out.size)
              clear bv CI d0 d1 d2 d3 d4 d5 d6 d7 hh e2
              go_wp2
              go_roundw
              case rel=>exact ⟨j+1,by omega,by go_num,by rw [SC.out];rfl,W10.out⟩
              case measure=>simp [intOf];omega
            · have hk4:¬ (j:Int)<ys.length:=by omega
              have e2:=cellOf (blk_on X3.out W8.out) 2 _ rfl
              have g3:=cellOf (blk_on X3.out W8.out) 3 _ rfl
              have E:Hid (ys.take j=ys):=List.take_of_length_le (by omega)
              have T3:Hid (str (y37++blocksT (xs.take (b+1)))=str (y61++codeT (ys.take j)++zl++[125,10])):=by show _=_;rw [T2.out,E.out]
              have Wz:Hid (Below wt.heap.size wt wr):=W6.out.trans (W8.out.mono W6.out.size)
              generalize y61++codeT (ys.take j)=s2 at lc0 T3 ⊢
              clear E T2
              rcases O.out with h1 | h1 | h1
              · have TT:Hid (str (y37++blocksT (xs.take (b+1)))=str s2++(str [9,106,117,109,112,32]++str z3)++str [59,10,125,10]):=T3.out.trans (str4 (by rw [E1.out h1];simp))
                obtain rfl:=h1
                have g5:=cellOf (blk_on X3.out W8.out) 5 _ rfl
                have g6:=cellOf (blk_on X3.out W8.out) 6 _ rfl
                have g7:=cellOf (blk_on X3.out W8.out) 7 _ rfl
                have f1:¬ 9223372036854775807<6+(str z3).size:=by rw [str_size];omega
                have f2:¬ 9223372036854775807<(str s2).size+(6+(str z3).size):=by rw [str_size,str_size];omega
                have f3:¬ 9223372036854775807<(str s2).size+(6+(str z3).size)+4:=by rw [str_size,str_size];omega
                clear T3 E1 E2 E3 O
                go_wp2_with fail
                refine (C3.out _ W8.out).mono ?_
                rintro e wv ⟨rfl,bv⟩
                have Wy:Hid (Below wt.heap.size wt wv):=Wz.out.trans (bv.mono Wz.out.size)
                clear bv C2 C3 C4 C5 e2 g3 g5 g6 g7
                go_wp2
                go_roundw
                case rel=>exact ⟨b+1,by omega,by go_num,by rw [TT.out];rfl,Wy.out⟩
                case measure=>simp [intOf];omega
              · obtain ⟨y105,Ey105,ly105⟩:=cat_letter [9,105,102,32] z2
                replace ly105:y105.length=4+z2.length:=ly105
                obtain ⟨y106,Ey106,ly106⟩:=cat_letter y105 [32,116,111,32]
                replace ly106:y106.length=y105.length+4:=ly106
                obtain ⟨y111,Ey111,ly111⟩:=cat_letter y106 z3
                replace ly111:y111.length=y106.length+z3.length:=ly111
                obtain ⟨y112,Ey112,ly112⟩:=cat_letter y111 [32,101,108,115,101,32]
                replace ly112:y112.length=y111.length+6:=ly112
                obtain ⟨y117,Ey117,ly117⟩:=cat_letter y112 z4
                replace ly117:y117.length=y112.length+z4.length:=ly117
                obtain ⟨y118,Ey118,ly118⟩:=cat_letter s2 y117
                replace ly118:y118.length=s2.length+y117.length:=ly118
                have TT:Hid (str (y37++blocksT (xs.take (b+1)))=str y118++str [59,10,125,10]):=T3.out.trans (str2 (by rw [E2.out h1,Ey105.out,Ey106.out,Ey111.out,Ey112.out,Ey117.out,← Ey118.out];simp))
                obtain rfl:=h1
                clear T3 E1 E2 E3 O
                go_upto_region 21 with fail
                clear e2 g3
                refine wp_region_calm_tail 19 (PTab.E ([(3,fun v _=>v=.string (str s2)),(7,fun v _=>v=.pointer (some ⟨Hb,0,none⟩)),(100,fun v _=>v=.string (str s2)),(101,fun v _=>v=.pointer (some ⟨Hb,3,none⟩)),(102,fun v _=>v=.pointer (some ⟨Hb,4,none⟩)),(103,fun v _=>v=.int .i64 ja),(104,fun v _=>v=.string (str z2)),(105,fun v _=>v=.string (str y105)),(106,fun v _=>v=.string (str y106)),(107,fun v _=>v=.pointer (some ⟨Hb,3,none⟩)),(108,fun v _=>v=.pointer (some ⟨Hb,5,none⟩)),(109,fun v _=>v=.agg #[.int .i64 q1,.slice p4 n6 j4,.slice p5 n7 j5]),(110,fun v _=>v=.string (str z3)),(111,fun v _=>v=.string (str y111)),(112,fun v _=>v=.string (str y112)),(113,fun v _=>v=.pointer (some ⟨Hb,3,none⟩)),(114,fun v _=>v=.pointer (some ⟨Hb,8,none⟩)),(115,fun v _=>v=.agg #[.int .i64 q2,.slice p6 n8 j6,.slice p7 n9 j7]),(116,fun v _=>v=.string (str z4)),(117,fun v _=>v=.string (str y117)),(118,fun v _=>v=.string (str y118))]:PTab)) (fun wx=>Below wr.heap.size wr wx) (fun w w'=>Below w.heap.size w w') (outs:=[3,7]) (gs:=[]) (bs:=[true,true,true,true,true,true,true,true,true,true,true,true,true,true,true,true,true,true,true]) (by kernel_rfl) (n:=124) rfl (Nat.le_refl _) (by kernel_rfl) (by kernel_rfl) (PTab_stable _ ⟨fun _ _ _ _ h=>h,fun _ _ _ _ h=>h,fun _ _ _ _ h=>h,fun _ _ _ _ h=>h,fun _ _ _ _ h=>h,fun _ _ _ _ h=>h,fun _ _ _ _ h=>h,fun _ _ _ _ h=>h,fun _ _ _ _ h=>h,fun _ _ _ _ h=>h,fun _ _ _ _ h=>h,fun _ _ _ _ h=>h,fun _ _ _ _ h=>h,fun _ _ _ _ h=>h,fun _ _ _ _ h=>h,fun _ _ _ _ h=>h,fun _ _ _ _ h=>h,fun _ _ _ _ h=>h,fun _ _ _ _ h=>h,fun _ _ _ _ h=>h,fun _ _ _ _ h=>h,trivial⟩) ?hG (drewN_below (m:=1) (Below.refl _ _)) ⟨rfl,rfl,trivial⟩ ?hA ?hend
                case hG=>exact trivial
                case hA =>
                  show AllOk _ _ _ _ [_,_,_,_,_,_,_,_,_,_,_,_,_,_,_,_,_,_,_] _
                  refine ⟨fun ac wc hW hk K hK=>?_,?_⟩
                  · obtain ⟨q0,-⟩:=hk
                    have q0:ac.tmps.getD 3 undef=.string (str s2):=q0
                    go_simp
                    exact hK _ _ (Below.refl _ _) hW rfl
                  refine ⟨fun ac wc hW hk K hK=>?_,?_⟩
                  · obtain ⟨q0,-⟩:=hk
                    have q0:ac.tmps.getD 7 undef=.pointer (some ⟨Hb,0,none⟩):=q0
                    go_simp
                    exact hK _ _ (Below.refl _ _) hW rfl
                  refine ⟨fun ac wc hW hk K hK=>?_,?_⟩
                  · obtain ⟨q0,-⟩:=hk
                    have q0:ac.tmps.getD 101 undef=.pointer (some ⟨Hb,3,none⟩):=q0
                    go_simp
                    exact hK _ _ (Below.refl _ _) hW rfl
                  refine ⟨fun ac wc hW hk K hK=>?_,?_⟩
                  · obtain ⟨q0,-⟩:=hk
                    have q0:ac.tmps.getD 102 undef=.pointer (some ⟨Hb,4,none⟩):=q0
                    have e4:=cellOf (blk_on X3.out (W8.out.trans (hW.mono W8.out.size))) 4 _ rfl
                    go_simp
                    exact hK _ _ (Below.refl _ _) hW rfl
                  refine ⟨fun ac wc hW hk K hK=>?_,?_⟩
                  · obtain ⟨q0,-⟩:=hk
                    have q0:ac.tmps.getD 103 undef=.int .i64 ja:=q0
                    go_simp
                    refine (C2.out wc (W8.out.trans (hW.mono W8.out.size))).mono ?_
                    rintro r7 w7 ⟨rfl,b7⟩
                    go_simp
                    exact hK _ _ b7 (hW.trans (b7.mono hW.size)) rfl
                  refine ⟨fun ac wc hW hk K hK=>?_,?_⟩
                  · obtain ⟨q0,-⟩:=hk
                    have q0:ac.tmps.getD 104 undef=.string (str z2):=q0
                    have n0:¬ 9223372036854775807<4+(str z2).size:=by simp only [str_size];omega
                    go_simp
                    exact hK _ _ (Below.refl _ _) hW (by rw [← Ey105.out];exact str_add [9,105,102,32] z2)
                  refine ⟨fun ac wc hW hk K hK=>?_,?_⟩
                  · obtain ⟨q0,-⟩:=hk
                    have q0:ac.tmps.getD 105 undef=.string (str y105):=q0
                    have n0:¬ 9223372036854775807<(str y105).size+4:=by simp only [str_size];omega
                    go_simp
                    exact hK _ _ (Below.refl _ _) hW (by rw [← Ey106.out];exact str_add y105 [32,116,111,32])
                  refine ⟨fun ac wc hW hk K hK=>?_,?_⟩
                  · obtain ⟨q0,-⟩:=hk
                    have q0:ac.tmps.getD 7 undef=.pointer (some ⟨Hb,0,none⟩):=q0
                    go_simp
                    exact hK _ _ (Below.refl _ _) hW rfl
                  refine ⟨fun ac wc hW hk K hK=>?_,?_⟩
                  · obtain ⟨q0,-⟩:=hk
                    have q0:ac.tmps.getD 107 undef=.pointer (some ⟨Hb,3,none⟩):=q0
                    go_simp
                    exact hK _ _ (Below.refl _ _) hW rfl
                  refine ⟨fun ac wc hW hk K hK=>?_,?_⟩
                  · obtain ⟨q0,-⟩:=hk
                    have q0:ac.tmps.getD 108 undef=.pointer (some ⟨Hb,5,none⟩):=q0
                    have e5:=cellOf (blk_on X3.out (W8.out.trans (hW.mono W8.out.size))) 5 _ rfl
                    have e6:=cellOf (blk_on X3.out (W8.out.trans (hW.mono W8.out.size))) 6 _ rfl
                    have e7:=cellOf (blk_on X3.out (W8.out.trans (hW.mono W8.out.size))) 7 _ rfl
                    go_simp
                    exact hK _ _ (Below.refl _ _) hW rfl
                  refine ⟨fun ac wc hW hk K hK=>?_,?_⟩
                  · obtain ⟨q0,-⟩:=hk
                    have q0:ac.tmps.getD 109 undef=.agg #[.int .i64 q1,.slice p4 n6 j4,.slice p5 n7 j5]:=q0
                    go_simp
                    refine (C3.out wc (W8.out.trans (hW.mono W8.out.size))).mono ?_
                    rintro r7 w7 ⟨rfl,b7⟩
                    go_simp
                    exact hK _ _ b7 (hW.trans (b7.mono hW.size)) rfl
                  refine ⟨fun ac wc hW hk K hK=>?_,?_⟩
                  · obtain ⟨q0,q1,-⟩:=hk
                    have q0:ac.tmps.getD 106 undef=.string (str y106):=q0
                    have q1:ac.tmps.getD 110 undef=.string (str z3):=q1
                    have n0:¬ 9223372036854775807<(str y106).size+(str z3).size:=by simp only [str_size];omega
                    go_simp
                    exact hK _ _ (Below.refl _ _) hW (by rw [← Ey111.out];exact str_add y106 z3)
                  refine ⟨fun ac wc hW hk K hK=>?_,?_⟩
                  · obtain ⟨q0,-⟩:=hk
                    have q0:ac.tmps.getD 111 undef=.string (str y111):=q0
                    have n0:¬ 9223372036854775807<(str y111).size+6:=by simp only [str_size];omega
                    go_simp
                    exact hK _ _ (Below.refl _ _) hW (by rw [← Ey112.out];exact str_add y111 [32,101,108,115,101,32])
                  refine ⟨fun ac wc hW hk K hK=>?_,?_⟩
                  · obtain ⟨q0,-⟩:=hk
                    have q0:ac.tmps.getD 7 undef=.pointer (some ⟨Hb,0,none⟩):=q0
                    go_simp
                    exact hK _ _ (Below.refl _ _) hW rfl
                  refine ⟨fun ac wc hW hk K hK=>?_,?_⟩
                  · obtain ⟨q0,-⟩:=hk
                    have q0:ac.tmps.getD 113 undef=.pointer (some ⟨Hb,3,none⟩):=q0
                    go_simp
                    exact hK _ _ (Below.refl _ _) hW rfl
                  refine ⟨fun ac wc hW hk K hK=>?_,?_⟩
                  · obtain ⟨q0,-⟩:=hk
                    have q0:ac.tmps.getD 114 undef=.pointer (some ⟨Hb,8,none⟩):=q0
                    have e8:=cellOf (blk_on X3.out (W8.out.trans (hW.mono W8.out.size))) 8 _ rfl
                    have e9:=cellOf (blk_on X3.out (W8.out.trans (hW.mono W8.out.size))) 9 _ rfl
                    have e10:=cellOf (blk_on X3.out (W8.out.trans (hW.mono W8.out.size))) 10 _ rfl
                    go_simp
                    exact hK _ _ (Below.refl _ _) hW rfl
                  refine ⟨fun ac wc hW hk K hK=>?_,?_⟩
                  · obtain ⟨q0,-⟩:=hk
                    have q0:ac.tmps.getD 115 undef=.agg #[.int .i64 q2,.slice p6 n8 j6,.slice p7 n9 j7]:=q0
                    go_simp
                    refine (C4.out wc (W8.out.trans (hW.mono W8.out.size))).mono ?_
                    rintro r7 w7 ⟨rfl,b7⟩
                    go_simp
                    exact hK _ _ b7 (hW.trans (b7.mono hW.size)) rfl
                  refine ⟨fun ac wc hW hk K hK=>?_,?_⟩
                  · obtain ⟨q0,q1,-⟩:=hk
                    have q0:ac.tmps.getD 112 undef=.string (str y112):=q0
                    have q1:ac.tmps.getD 116 undef=.string (str z4):=q1
                    have n0:¬ 9223372036854775807<(str y112).size+(str z4).size:=by simp only [str_size];omega
                    go_simp
                    exact hK _ _ (Below.refl _ _) hW (by rw [← Ey117.out];exact str_add y112 z4)
                  refine ⟨fun ac wc hW hk K hK=>?_,?_⟩
                  · obtain ⟨q0,q1,-⟩:=hk
                    have q0:ac.tmps.getD 100 undef=.string (str s2):=q0
                    have q1:ac.tmps.getD 117 undef=.string (str y117):=q1
                    have n0:¬ 9223372036854775807<(str s2).size+(str y117).size:=by simp only [str_size];omega
                    go_simp
                    exact hK _ _ (Below.refl _ _) hW (by rw [← Ey118.out];exact str_add s2 y117)
                  trivial
                case hend =>
                  intro ops vs wv hW hk
                  have hv0:vs 118=.string (str y118):=hk 118 (by kernel_rfl)
                  show wpList _ ops _ [_] (puts _ vs [100,101,102,103,104,105,106,107,108,109,110,111,112,113,114,115,116,117,118]) wv
                  simp only [puts,Act.put,List.setIfInBounds_toArray,List.set_cons_zero,List.set_cons_succ,hv0]
                  clear hk hv0
                  have f1:¬ 9223372036854775807<(str y118).size+4:=by rw [str_size];omega
                  have Wy:Hid (Below wt.heap.size wt wv):=Wz.out.trans (hW.mono Wz.out.size)
                  clear hW C2 C3 C4 C5
                  go_wp2
                  go_roundw
                  case rel=>exact ⟨b+1,by omega,by go_num,by rw [TT.out];rfl,Wy.out⟩
                  case measure=>simp [intOf];omega
              · have TT:Hid (str (y37++blocksT (xs.take (b+1)))=str s2++(str [9,114,101,116,32]++str z5)++str [59,10,125,10]):=T3.out.trans (str4 (by rw [E3.out h1];simp))
                obtain rfl:=h1
                have g11:=cellOf (blk_on X3.out W8.out) 11 _ rfl
                have f1:¬ 9223372036854775807<5+(str z5).size:=by rw [str_size];omega
                have f2:¬ 9223372036854775807<(str s2).size+(5+(str z5).size):=by rw [str_size,str_size];omega
                have f3:¬ 9223372036854775807<(str s2).size+(5+(str z5).size)+4:=by rw [str_size,str_size];omega
                clear T3 E1 E2 E3 O
                go_wp2_with fail
                refine (C5.out _ W8.out).mono ?_
                rintro e wv ⟨rfl,bv⟩
                have Wy:Hid (Below wt.heap.size wt wv):=Wz.out.trans (bv.mono Wz.out.size)
                clear bv C2 C3 C4 C5 e2 g3 g11
                go_wp2
                go_roundw
                case rel=>exact ⟨b+1,by omega,by go_num,by rw [TT.out];rfl,Wy.out⟩
                case measure=>simp [intOf];omega
end Go.Proofs.YtalfbnllodhkiacGreatDoor
namespace Go.Proofs.YtalfbnllodhkiacGreatDoor
open Go.ChangeShapes Go.WideShapes Go.ChangeAt Go.RowKit
set_option linter.unusedSimpArgs false
set_option linter.unusedVariables false
theorem rdFieldsSome {op : Int} {fa fb fc fk fn fr fs : Bool} (hop : fieldsOf op = some (fa, fb, fc, fk, fn, fr, fs)) (w : World) : Rd Tryz.prog 114 #[.int .i64 op] w (.tuple #[.agg #[.bool fa, .bool fb, .bool fc, .bool fk, .bool fn, .bool fr, .bool fs], .bool true]) := by
  have:=fieldsOf_any op w
  rwa [show fieldsV op=.tuple #[.agg #[.bool fa,.bool fb,.bool fc,.bool fk,.bool fn,.bool fr,.bool fs],.bool true] from by unfold fieldsV;rw [hop]] at this
theorem rdFieldsNo {op : Int} (hop : fieldsOf op = none) (w : World) : Rd Tryz.prog 114 #[.int .i64 op] w (.tuple #[.agg #[.bool false, .bool false, .bool false, .bool false, .bool false, .bool false, .bool false], .bool false]) := by
  have:=fieldsOf_any op w
  rwa [show fieldsV op=.tuple #[.agg #[.bool false,.bool false,.bool false,.bool false,.bool false,.bool false,.bool false],.bool false] from by unfold fieldsV;rw [hop]] at this
theorem insForm_d {lm : Nat} {op a b c k n : Int} {rl al : Nat} {fa fb fc fk fn fr fs d1 d2 d3 d4 d5 d6 d7 : Bool} (e : fieldsOf op = some (fa, fb, fc, fk, fn, fr, fs))
    (h1:d1=(!fa && a != 0)) (h2:d2=(d1 || (!fb && b != 0))) (h3:d3=(d2 || (!fc && c != 0))) (h4:d4=(d3 || (!fk && k != 0))) (h5:d5=(d4 || (!fn && n != 0))) (h6:d6=(d5 || (!fr && decide ((0:Int)<(rl:Int))))) (h7:d7=(d6 || (!fs && decide ((0:Int)<(al:Int))))) :
    insForm lm op a b c k n rl al=if d7 then 4
    else if op=2∧(k<1∨9<k) then 1
    else if op=5∧8<al then 2
    else if (op=6∨op=7)∧(k<0∨7<k) then 1
    else if op=14∧(k<0∨(lm:Int)≤k) then 1
    else if op=14∧(6<rl∨8<al) then 2
    else 0:=by
  subst h1 h2 h3 h4 h5 h6 h7
  simp only [insForm,e]
  have e1:decide ((0:Int)<(rl:Int))=decide (0<rl):=by simp
  have e2:decide ((0:Int)<(al:Int))=decide (0<al):=by simp
  rw [e1,e2]
theorem wrap_add (p q : Nat) (h : p + q < 4611686018427387904) : IntKind.i64.wrap ((p : Int) + (q : Int)) = (p : Int) + (q : Int) := by
  have e1:((p:Int)+(q:Int)) % 2 ^ 64=(p:Int)+(q:Int):=by omega
  simp only [IntKind.wrap,IntKind.signed,IntKind.bits,e1,Bool.true_and]
  rw [if_neg (by simp only [decide_eq_true_eq];omega)]
theorem toFormF {x : MTo} {pR pA : Option Addr} {cR cA : Nat} {fr : Int} {fp fq fb : Option Addr} {fl fc fm fd bl fe : Nat} {w : World} (hr : x.regs.length < 2305843009213693952) (ha : x.args.length < 2305843009213693952) (hbl : bl < 2305843009213693952) :
    Rd Tryz.prog 115 #[.agg #[.int .i64 fr,.slice fp fl fc,.slice fq fm fd,.slice fb bl fe],.agg #[.int .i64 x.block,.slice pR x.regs.length cR,.slice pA x.args.length cA],.bool false] w (.int .i64 (x.form bl false)):=by
  refine fr_enter (n:=43) Tryz.func115 rfl rfl rfl ?_
  intro a hF
  have hW:=Wd.start w
  replace hF:Fr 43 a [(0,.agg #[.int .i64 fr,.slice fp fl fc,.slice fq fm fd,.slice fb bl fe]),(1,.agg #[.int .i64 x.block,.slice pR x.regs.length cR,.slice pA x.args.length cA]),(2,.bool false)]:=hF
  refine wp_seq_k fun K1 hK1=>?_
  refine rg hF fun ops=>?_;clear hF a
  refine sB hW trivial rfl rfl ?_
  clear hW;intro w2 B2 hW2 hN;clear hN
  refine sB hW2 trivial rfl rfl ?_
  clear hW2;intro w3 B3 hW3 hN;clear hN
  refine sa trivial rfl rfl ?_
  refine St.nil fun a4 h4=>?_
  refine hK1 _ _ ?_
  refine wp_seq_k fun K5 hK5=>?_
  refine wp_seq_k fun K6 hK6=>?_
  refine rg h4 fun ops=>?_;clear h4 a4
  refine sm trivial rfl rfl ?_
  refine sn trivial rfl rfl ?_
  refine St.nil fun a7 h7=>?_
  refine hK6 _ _ ?_
  refine fr_true (t:=8) h7 rfl ?_
  refine wp_seq_k fun K8 hK8=>?_
  refine wp_seq_k fun K9 hK9=>?_
  refine fr_region ?_
  intro ops hops
  have hg3:(ops[3]?).bind (fun o:Oper=>o.dst)=some 12:=hops 3
  clear hops
  refine St.go h7 ?_;clear h7 a7
  refine sfTo0 trivial rfl rfl ?_
  refine sbInt 0 hW3 trivial rfl rfl rfl rfl ?_
  refine sne trivial rfl rfl rfl ?_
  refine sm trivial rfl rfl ?_
  intro a10 h10
  rcases Bool.eq_false_or_eq_true (x.block != 0) with hb | hb
  ·rw [hb] at h10
   have h9:¬ x.block=0:=bne_iff_ne.1 hb
   have hc11:¬ x.block=0:=h9
   clear h9
   clear hb
   refine St.go h10 ?_;clear h10 a10
   refine so hg3 rfl rfl rfl rfl ?_
   refine so hg3 rfl rfl rfl rfl ?_
   refine so hg3 rfl rfl rfl rfl ?_
   refine so hg3 rfl rfl rfl rfl ?_
   refine so hg3 rfl rfl rfl rfl ?_
   refine so hg3 rfl rfl rfl rfl ?_
   refine so hg3 rfl rfl rfl rfl ?_
   refine so hg3 rfl rfl rfl rfl ?_
   refine sp trivial rfl rfl rfl ?_
   refine St.nil fun a12 h12=>?_
   refine hK9 _ _ ?_
   refine fr_true (t:=21) h12 rfl ?_
   refine wp_seq_k fun K13 hK13=>?_
   refine rg h12 fun ops=>?_;clear h12 a12
   refine sa trivial rfl rfl ?_
   refine St.nil fun a14 h14=>?_
   refine hK13 _ _ ?_
   refine wp_ret ?_;with_reducible repeat first | refine of_then_ret ?_ | refine of_block_ret ?_
   have R:x.form bl false=4:=by have:=hc11;rw [toForm_no];split <;> omega
   exact ret_tmp (t:=6) h14 rfl rfl ⟨by rw [R],hW3.bel⟩
  rw [hb] at h10
  have h9:x.block=0:=bne_eq_false_iff_eq.1 hb
  have hc15:Hid (x.block=0):=h9
  clear h9
  clear hb
  refine St.go h10 ?_;clear h10 a10
  refine sfTo1 ⟨_,hg3,rfl,rfl⟩ rfl rfl ?_
  refine sbInts 0 hW3 ⟨_,hg3,rfl,rfl⟩ rfl rfl rfl rfl ?_
  refine slInts ⟨_,hg3,rfl,rfl⟩ rfl rfl ?_
  refine sfTo2 ⟨_,hg3,rfl,rfl⟩ rfl rfl ?_
  refine sbInts 0 hW3 ⟨_,hg3,rfl,rfl⟩ rfl rfl rfl rfl ?_
  refine slInts ⟨_,hg3,rfl,rfl⟩ rfl rfl ?_
  intro a16 h16
  refine fr_pure_g (t:=19) (g:=3) (tg:=12) (want:=false) (v:=.int .i64 ((x.regs.length+x.args.length:Nat):Int)) (w':=w3) h16 rfl rfl hg3 rfl rfl rfl (fun K hK=>?_) ?_
  ·have k0:a16.tmps.getD 15 undef=.int .i64 (x.regs.length:Int):=h16.sl 15 _ rfl
   have k1:a16.tmps.getD 18 undef=.int .i64 (x.args.length:Int):=h16.sl 18 _ rfl
   have hwr:IntKind.i64.wrap ((x.regs.length:Int)+(x.args.length:Int))=(x.regs.length:Int)+(x.args.length:Int):=wrap_add _ _ (by omega)
   go_simp
   exact hK
  clear h16;intro a17 hF17
  refine St.go hF17 ?_;clear hF17 a17
  refine sgt ⟨_,hg3,rfl,rfl⟩ rfl rfl rfl ?_
  refine spf trivial rfl rfl rfl ?_
  refine St.nil fun a18 h18=>?_
  refine hK9 _ _ ?_
  refine fr_cond (t:=21) h18 rfl (fun hb=>?_) (fun hb=>?_)
  ·have hc19:0<((x.regs.length+x.args.length:Nat):Int):=of_decide_eq_true hb
   clear hb
   refine wp_seq_k fun K20 hK20=>?_
   refine rg h18 fun ops=>?_;clear h18 a18
   refine sa trivial rfl rfl ?_
   refine St.nil fun a21 h21=>?_
   refine hK20 _ _ ?_
   refine wp_ret ?_;with_reducible repeat first | refine of_then_ret ?_ | refine of_block_ret ?_
   have R:x.form bl false=4:=by have:=hc15.out;have:=hc19;rw [toForm_no];split <;> omega
   exact ret_tmp (t:=6) h21 rfl rfl ⟨by rw [R],hW3.bel⟩
  have hc22:¬ (0<((x.regs.length+x.args.length:Nat):Int)):=of_decide_eq_false hb
  clear hb
  refine wp_skip ?_
  refine hK8 _ _ ?_
  refine wp_seq_k fun K23 hK23=>?_
  refine rg h18 fun ops=>?_;clear h18 a18
  refine sa trivial rfl rfl ?_
  refine St.nil fun a24 h24=>?_
  refine hK23 _ _ ?_
  refine wp_ret ?_;with_reducible repeat first | refine of_then_ret ?_ | refine of_block_ret ?_
  have R:x.form bl false=0:=by have:=hc15.out;have:=hc22;rw [toForm_no];split <;> omega
  exact ret_tmp (t:=6) h24 rfl rfl ⟨by rw [R],hW3.bel⟩
theorem toFormT {x : MTo} {pR pA : Option Addr} {cR cA : Nat} {fr : Int} {fp fq fb : Option Addr} {fl fc fm fd bl fe : Nat} {w : World} (hr : x.regs.length < 2305843009213693952) (ha : x.args.length < 2305843009213693952) (hbl : bl < 2305843009213693952) :
    Rd Tryz.prog 115 #[.agg #[.int .i64 fr,.slice fp fl fc,.slice fq fm fd,.slice fb bl fe],.agg #[.int .i64 x.block,.slice pR x.regs.length cR,.slice pA x.args.length cA],.bool true] w (.int .i64 (x.form bl true)):=by
  refine fr_enter (n:=43) Tryz.func115 rfl rfl rfl ?_
  intro a hF
  have hW:=Wd.start w
  replace hF:Fr 43 a [(0,.agg #[.int .i64 fr,.slice fp fl fc,.slice fq fm fd,.slice fb bl fe]),(1,.agg #[.int .i64 x.block,.slice pR x.regs.length cR,.slice pA x.args.length cA]),(2,.bool true)]:=hF
  refine wp_seq_k fun K1 hK1=>?_
  refine rg hF fun ops=>?_;clear hF a
  refine sB hW trivial rfl rfl ?_
  clear hW;intro w2 B2 hW2 hN;clear hN
  refine sB hW2 trivial rfl rfl ?_
  clear hW2;intro w3 B3 hW3 hN;clear hN
  refine sa trivial rfl rfl ?_
  refine St.nil fun a4 h4=>?_
  refine hK1 _ _ ?_
  refine wp_seq_k fun K5 hK5=>?_
  refine wp_seq_k fun K6 hK6=>?_
  refine rg h4 fun ops=>?_;clear h4 a4
  refine sm trivial rfl rfl ?_
  refine sn trivial rfl rfl ?_
  refine St.nil fun a7 h7=>?_
  refine hK6 _ _ ?_
  refine fr_false (t:=8) h7 rfl ?_
  refine wp_skip ?_
  refine hK5 _ _ ?_
  refine wp_seq_k fun K8 hK8=>?_
  refine wp_seq_k fun K9 hK9=>?_
  refine fr_region ?_
  intro ops hops
  have hg3:(ops[3]?).bind (fun o:Oper=>o.dst)=some 25:=hops 3
  clear hops
  refine St.go h7 ?_;clear h7 a7
  refine sfTo0 trivial rfl rfl ?_
  refine sbInt 0 hW3 trivial rfl rfl rfl rfl ?_
  refine slt trivial rfl rfl rfl ?_
  refine sm trivial rfl rfl ?_
  intro a10 h10
  rcases Bool.eq_false_or_eq_true (decide (x.block<0)) with hb | hb
  ·rw [hb] at h10
   have hc11:x.block<0:=of_decide_eq_true hb
   clear hb
   refine St.go h10 ?_;clear h10 a10
   refine so hg3 rfl rfl rfl rfl ?_
   refine so hg3 rfl rfl rfl rfl ?_
   refine so hg3 rfl rfl rfl rfl ?_
   refine so hg3 rfl rfl rfl rfl ?_
   refine so hg3 rfl rfl rfl rfl ?_
   refine so hg3 rfl rfl rfl rfl ?_
   refine sp trivial rfl rfl rfl ?_
   refine St.nil fun a12 h12=>?_
   refine hK9 _ _ ?_
   refine fr_true (t:=32) h12 rfl ?_
   refine wp_seq_k fun K13 hK13=>?_
   refine rg h12 fun ops=>?_;clear h12 a12
   refine sa trivial rfl rfl ?_
   refine St.nil fun a14 h14=>?_
   refine hK13 _ _ ?_
   refine wp_ret ?_;with_reducible repeat first | refine of_then_ret ?_ | refine of_block_ret ?_
   have R:x.form bl true=1:=by simp [MTo.form,hc11]
   exact ret_tmp (t:=6) h14 rfl rfl ⟨by rw [R],hW3.bel⟩
  rw [hb] at h10
  have hc15:¬ (x.block<0):=of_decide_eq_false hb
  clear hb
  refine St.go h10 ?_;clear h10 a10
  refine sfTo0 ⟨_,hg3,rfl,rfl⟩ rfl rfl ?_
  refine sbInt 0 hW3 ⟨_,hg3,rfl,rfl⟩ rfl rfl rfl rfl ?_
  refine sfFunc3 ⟨_,hg3,rfl,rfl⟩ rfl rfl ?_
  refine sbBlocks 1 hW3 ⟨_,hg3,rfl,rfl⟩ rfl rfl rfl rfl ?_
  refine slBlocks ⟨_,hg3,rfl,rfl⟩ rfl rfl ?_
  refine sge ⟨_,hg3,rfl,rfl⟩ rfl rfl rfl ?_
  refine spf trivial rfl rfl rfl ?_
  refine St.nil fun a16 h16=>?_
  refine hK9 _ _ ?_
  refine fr_cond (t:=32) h16 rfl (fun hb=>?_) (fun hb=>?_)
  ·have hc17:(bl:Int)≤x.block:=of_decide_eq_true hb
   clear hb
   refine wp_seq_k fun K18 hK18=>?_
   refine rg h16 fun ops=>?_;clear h16 a16
   refine sa trivial rfl rfl ?_
   refine St.nil fun a19 h19=>?_
   refine hK18 _ _ ?_
   refine wp_ret ?_;with_reducible repeat first | refine of_then_ret ?_ | refine of_block_ret ?_
   have R:x.form bl true=1:=by simp [MTo.form,hc15,hc17]
   exact ret_tmp (t:=6) h19 rfl rfl ⟨by rw [R],hW3.bel⟩
  have hc20:¬ ((bl:Int)≤x.block):=of_decide_eq_false hb
  clear hb
  refine wp_skip ?_
  refine hK8 _ _ ?_
  refine wp_seq_k fun K21 hK21=>?_
  refine wp_seq_k fun K22 hK22=>?_
  refine fr_region ?_
  intro ops hops
  have hg4:(ops[4]?).bind (fun o:Oper=>o.dst)=some 37:=hops 4
  clear hops
  refine St.go h16 ?_;clear h16 a16
  refine sfTo1 trivial rfl rfl ?_
  refine sbInts 0 hW3 trivial rfl rfl rfl rfl ?_
  refine slInts trivial rfl rfl ?_
  refine sgt trivial rfl rfl rfl ?_
  refine sm trivial rfl rfl ?_
  intro a23 h23
  rcases Bool.eq_false_or_eq_true (decide (16<(x.regs.length:Int))) with hb | hb
  ·rw [hb] at h23
   have hc24:16<x.regs.length:=by have:=of_decide_eq_true hb;omega
   clear hb
   refine St.go h23 ?_;clear h23 a23
   refine so hg4 rfl rfl rfl rfl ?_
   refine so hg4 rfl rfl rfl rfl ?_
   refine so hg4 rfl rfl rfl rfl ?_
   refine so hg4 rfl rfl rfl rfl ?_
   refine sp trivial rfl rfl rfl ?_
   refine St.nil fun a25 h25=>?_
   refine hK22 _ _ ?_
   refine fr_true (t:=42) h25 rfl ?_
   refine wp_seq_k fun K26 hK26=>?_
   refine rg h25 fun ops=>?_;clear h25 a25
   refine sa trivial rfl rfl ?_
   refine St.nil fun a27 h27=>?_
   refine hK26 _ _ ?_
   refine wp_ret ?_;with_reducible repeat first | refine of_then_ret ?_ | refine of_block_ret ?_
   have R:x.form bl true=2:=by simp [MTo.form,hc15,hc20,hc24]
   exact ret_tmp (t:=6) h27 rfl rfl ⟨by rw [R],hW3.bel⟩
  rw [hb] at h23
  have hc28:¬ (16<x.regs.length):=by have:=of_decide_eq_false hb;omega
  clear hb
  refine St.go h23 ?_;clear h23 a23
  refine sfTo2 ⟨_,hg4,rfl,rfl⟩ rfl rfl ?_
  refine sbInts 0 hW3 ⟨_,hg4,rfl,rfl⟩ rfl rfl rfl rfl ?_
  refine slInts ⟨_,hg4,rfl,rfl⟩ rfl rfl ?_
  refine sgt ⟨_,hg4,rfl,rfl⟩ rfl rfl rfl ?_
  refine spf trivial rfl rfl rfl ?_
  refine St.nil fun a29 h29=>?_
  refine hK22 _ _ ?_
  refine fr_cond (t:=42) h29 rfl (fun hb=>?_) (fun hb=>?_)
  ·have hc30:8<x.args.length:=by have:=of_decide_eq_true hb;omega
   clear hb
   refine wp_seq_k fun K31 hK31=>?_
   refine rg h29 fun ops=>?_;clear h29 a29
   refine sa trivial rfl rfl ?_
   refine St.nil fun a32 h32=>?_
   refine hK31 _ _ ?_
   refine wp_ret ?_;with_reducible repeat first | refine of_then_ret ?_ | refine of_block_ret ?_
   have R:x.form bl true=2:=by simp [MTo.form,hc15,hc20,hc28,hc30]
   exact ret_tmp (t:=6) h32 rfl rfl ⟨by rw [R],hW3.bel⟩
  have hc33:¬ (8<x.args.length):=by have:=of_decide_eq_false hb;omega
  clear hb
  refine wp_skip ?_
  refine hK21 _ _ ?_
  refine wp_seq_k fun K34 hK34=>?_
  refine rg h29 fun ops=>?_;clear h29 a29
  refine sa trivial rfl rfl ?_
  refine St.nil fun a35 h35=>?_
  refine hK34 _ _ ?_
  refine wp_ret ?_;with_reducible repeat first | refine of_then_ret ?_ | refine of_block_ret ?_
  have R:x.form bl true=0:=by simp [MTo.form,hc15,hc20,hc28,hc33]
  exact ret_tmp (t:=6) h35 rfl rfl ⟨by rw [R],hW3.bel⟩
theorem toForm_any {x : MTo} {pR pA : Option Addr} {cR cA : Nat} {fr : Int} {fp fq fb : Option Addr} {fl fc fm fd bl fe : Nat} (has : Bool) {w : World} (hr : x.regs.length < 2305843009213693952) (ha : x.args.length < 2305843009213693952) (hbl : bl < 2305843009213693952) :
    Rd Tryz.prog 115 #[.agg #[.int .i64 fr,.slice fp fl fc,.slice fq fm fd,.slice fb bl fe],.agg #[.int .i64 x.block,.slice pR x.regs.length cR,.slice pA x.args.length cA],.bool has] w (.int .i64 (x.form bl has)):=by
  cases has
  · exact toFormF hr ha hbl
  · exact toFormT hr ha hbl
theorem endForm_any {x : MEnd} {e : EP} {fr : Int} {fp fq fb : Option Addr} {fl fc fm fd bl fe : Nat} {w : World} (hs : x.yes.regs.length < 2305843009213693952 ∧ x.yes.args.length < 2305843009213693952 ∧ x.no.regs.length < 2305843009213693952 ∧ x.no.args.length < 2305843009213693952) (hbl : bl < 2305843009213693952) :
    Rd Tryz.prog 76 #[.agg #[.int .i64 fr,.slice fp fl fc,.slice fq fm fd,.slice fb bl fe],.agg #[.int .i64 x.op,.int .i64 x.a,.int .i64 x.yes.block,.slice e.pYR x.yes.regs.length e.cYR,.slice e.pYA x.yes.args.length e.cYA,.int .i64 x.no.block,.slice e.pNR x.no.regs.length e.cNR,.slice e.pNA x.no.args.length e.cNA,.slice e.pA x.args.length e.cA]] w (.int .i64 (x.form bl)):=by
  refine fr_enter (n:=54) Tryz.func76 rfl rfl rfl ?_
  intro a hF
  have hW:=Wd.start w
  replace hF:Fr 54 a [(0,.agg #[.int .i64 fr,.slice fp fl fc,.slice fq fm fd,.slice fb bl fe]),(1,.agg #[.int .i64 x.op,.int .i64 x.a,.int .i64 x.yes.block,.slice e.pYR x.yes.regs.length e.cYR,.slice e.pYA x.yes.args.length e.cYA,.int .i64 x.no.block,.slice e.pNR x.no.regs.length e.cNR,.slice e.pNA x.no.args.length e.cNA,.slice e.pA x.args.length e.cA])]:=hF
  refine wp_seq_k fun K1 hK1=>?_
  refine rg hF fun ops=>?_;clear hF a
  refine sB hW trivial rfl rfl ?_
  clear hW;intro w2 B2 hW2 hN;clear hN
  refine sB hW2 trivial rfl rfl ?_
  clear hW2;intro w3 B3 hW3 hN;clear hN
  refine sa trivial rfl rfl ?_
  refine St.nil fun a4 h4=>?_
  refine hK1 _ _ ?_
  refine wp_seq_k fun K5 hK5=>?_
  refine wp_seq_k fun K6 hK6=>?_
  refine fr_region ?_
  intro ops hops
  have hg3:(ops[3]?).bind (fun o:Oper=>o.dst)=some 9:=hops 3
  clear hops
  refine St.go h4 ?_;clear h4 a4
  refine sfEnd0 trivial rfl rfl ?_
  refine sbInt 0 hW3 trivial rfl rfl rfl rfl ?_
  refine slt trivial rfl rfl rfl ?_
  refine sm trivial rfl rfl ?_
  intro a7 h7
  rcases Bool.eq_false_or_eq_true (decide (x.op<1)) with hb | hb
  ·rw [hb] at h7
   have hc8:x.op<1:=of_decide_eq_true hb
   clear hb
   refine St.go h7 ?_;clear h7 a7
   refine so hg3 rfl rfl rfl rfl ?_
   refine so hg3 rfl rfl rfl rfl ?_
   refine so hg3 rfl rfl rfl rfl ?_
   refine sp trivial rfl rfl rfl ?_
   refine St.nil fun a9 h9=>?_
   refine hK6 _ _ ?_
   refine fr_true (t:=13) h9 rfl ?_
   refine wp_seq_k fun K10 hK10=>?_
   refine rg h9 fun ops=>?_;clear h9 a9
   refine sa trivial rfl rfl ?_
   refine St.nil fun a11 h11=>?_
   refine hK10 _ _ ?_
   refine wp_ret ?_;with_reducible repeat first | refine of_then_ret ?_ | refine of_block_ret ?_
   have R:x.form bl=3:=by
    rw [endForm_eq]
    generalize x.yes.form bl (x.op != 3)=yv
    generalize x.no.form bl (x.op==2)=zv
    first | (simp [hc8];done) | (exfalso;have:=hc8;omega)
   exact ret_tmp (t:=4) h11 rfl rfl ⟨by rw [R],hW3.bel⟩
  rw [hb] at h7
  have hc12:¬ (x.op<1):=of_decide_eq_false hb
  clear hb
  refine St.go h7 ?_;clear h7 a7
  refine sfEnd0 ⟨_,hg3,rfl,rfl⟩ rfl rfl ?_
  refine sbInt 0 hW3 ⟨_,hg3,rfl,rfl⟩ rfl rfl rfl rfl ?_
  refine sgt ⟨_,hg3,rfl,rfl⟩ rfl rfl rfl ?_
  refine spf trivial rfl rfl rfl ?_
  refine St.nil fun a13 h13=>?_
  refine hK6 _ _ ?_
  refine fr_cond (t:=13) h13 rfl (fun hb=>?_) (fun hb=>?_)
  ·have hc14:3<x.op:=of_decide_eq_true hb
   clear hb
   refine wp_seq_k fun K15 hK15=>?_
   refine rg h13 fun ops=>?_;clear h13 a13
   refine sa trivial rfl rfl ?_
   refine St.nil fun a16 h16=>?_
   refine hK15 _ _ ?_
   refine wp_ret ?_;with_reducible repeat first | refine of_then_ret ?_ | refine of_block_ret ?_
   have R:x.form bl=3:=by
    rw [endForm_eq]
    generalize x.yes.form bl (x.op != 3)=yv
    generalize x.no.form bl (x.op==2)=zv
    first | (simp [hc12,hc14];done) | (exfalso;have:=hc12;have:=hc14;omega)
   exact ret_tmp (t:=4) h16 rfl rfl ⟨by rw [R],hW3.bel⟩
  have hc17:¬ (3<x.op):=of_decide_eq_false hb
  clear hb
  refine wp_skip ?_
  refine hK5 _ _ ?_
  refine wp_seq_k fun K18 hK18=>?_
  refine wp_seq_k fun K19 hK19=>?_
  refine fr_region ?_
  intro ops hops
  have hg3:(ops[3]?).bind (fun o:Oper=>o.dst)=some 17:=hops 3
  have hg8:(ops[8]?).bind (fun o:Oper=>o.dst)=some 22:=hops 8
  have hg13:(ops[13]?).bind (fun o:Oper=>o.dst)=some 27:=hops 13
  clear hops
  refine St.go h13 ?_;clear h13 a13
  refine sfEnd1 trivial rfl rfl ?_
  refine sbInt 0 hW3 trivial rfl rfl rfl rfl ?_
  refine sne trivial rfl rfl rfl ?_
  refine sm trivial rfl rfl ?_
  intro a20 h20
  rcases Bool.eq_false_or_eq_true (x.a != 0) with hb | hb
  ·rw [hb] at h20
   have h9:¬ x.a=0:=bne_iff_ne.1 hb
   have hc21:¬ x.a=0:=h9
   clear h9
   clear hb
   refine St.go h20 ?_;clear h20 a20
   refine sfEnd0 ⟨_,hg3,rfl,rfl⟩ rfl rfl ?_
   refine sbInt 0 hW3 ⟨_,hg3,rfl,rfl⟩ rfl rfl rfl rfl ?_
   refine sne ⟨_,hg3,rfl,rfl⟩ rfl rfl rfl ?_
   refine sp trivial rfl rfl rfl ?_
   refine sm trivial rfl rfl ?_
   intro a22 h22
   rcases Bool.eq_false_or_eq_true (x.op != 2) with hb | hb
   ·rw [hb] at h22
    have h9:¬ x.op=2:=bne_iff_ne.1 hb
    have hc23:¬ x.op=2:=h9
    clear h9
    clear hb
    refine St.go h22 ?_;clear h22 a22
    refine so hg8 rfl rfl rfl rfl ?_
    refine so hg8 rfl rfl rfl rfl ?_
    refine so hg8 rfl rfl rfl rfl ?_
    refine so hg8 rfl rfl rfl rfl ?_
    refine so hg8 rfl rfl rfl rfl ?_
    refine so hg13 rfl rfl rfl rfl ?_
    refine so hg13 rfl rfl rfl rfl ?_
    refine so hg13 rfl rfl rfl rfl ?_
    refine so hg8 rfl rfl rfl rfl ?_
    refine sp trivial rfl rfl rfl ?_
    refine St.nil fun a24 h24=>?_
    refine hK19 _ _ ?_
    refine fr_true (t:=32) h24 rfl ?_
    refine wp_seq_k fun K25 hK25=>?_
    refine rg h24 fun ops=>?_;clear h24 a24
    refine sa trivial rfl rfl ?_
    refine St.nil fun a26 h26=>?_
    refine hK25 _ _ ?_
    refine wp_ret ?_;with_reducible repeat first | refine of_then_ret ?_ | refine of_block_ret ?_
    have R:x.form bl=4:=by
     rw [endForm_eq]
     generalize x.yes.form bl (x.op != 3)=yv
     generalize x.no.form bl (x.op==2)=zv
     first | (simp [hc12,hc17,hc21,hc23];done) | (exfalso;have:=hc12;have:=hc17;have:=hc21;have:=hc23;omega)
    exact ret_tmp (t:=4) h26 rfl rfl ⟨by rw [R],hW3.bel⟩
   rw [hb] at h22
   have h9:x.op=2:=bne_eq_false_iff_eq.1 hb
   have hc27:Hid (x.op=2):=h9
   clear h9
   clear hb
   refine St.go h22 ?_;clear h22 a22
   refine sfEnd4 ⟨_,hg8,rfl,rfl⟩ rfl rfl ?_
   refine sbInts 0 hW3 ⟨_,hg8,rfl,rfl⟩ rfl rfl rfl rfl ?_
   refine slInts ⟨_,hg8,rfl,rfl⟩ rfl rfl ?_
   refine sgt ⟨_,hg8,rfl,rfl⟩ rfl rfl rfl ?_
   refine sm ⟨_,hg8,rfl,rfl⟩ rfl rfl ?_
   intro a28 h28
   rcases Bool.eq_false_or_eq_true (decide (0<(x.args.length:Int))) with hb | hb
   ·rw [hb] at h28
    have hc29:0<x.args.length:=by have:=of_decide_eq_true hb;omega
    clear hb
    refine St.go h28 ?_;clear h28 a28
    refine sfEnd0 ⟨_,hg13,rfl,rfl⟩ rfl rfl ?_
    refine sbInt 0 hW3 ⟨_,hg13,rfl,rfl⟩ rfl rfl rfl rfl ?_
    refine sne ⟨_,hg13,rfl,rfl⟩ rfl rfl rfl ?_
    refine sp ⟨_,hg8,rfl,rfl⟩ rfl rfl rfl ?_
    refine spf trivial rfl rfl rfl ?_
    refine St.nil fun a30 h30=>?_
    refine hK19 _ _ ?_
    refine fr_cond (t:=32) h30 rfl (fun hb=>?_) (fun hb=>?_)
    ·have h9:¬ x.op=3:=bne_iff_ne.1 hb
     have hc31:¬ x.op=3:=h9
     clear h9
     clear hb
     refine wp_seq_k fun K32 hK32=>?_
     refine rg h30 fun ops=>?_;clear h30 a30
     refine sa trivial rfl rfl ?_
     refine St.nil fun a33 h33=>?_
     refine hK32 _ _ ?_
     refine wp_ret ?_;with_reducible repeat first | refine of_then_ret ?_ | refine of_block_ret ?_
     have R:x.form bl=4:=by
      rw [endForm_eq]
      generalize x.yes.form bl (x.op != 3)=yv
      generalize x.no.form bl (x.op==2)=zv
      first | (simp [hc12,hc17,hc21,hc27.out,hc29,hc31];done) | (exfalso;have:=hc12;have:=hc17;have:=hc21;have:=hc27.out;have:=hc29;have:=hc31;omega)
     exact ret_tmp (t:=4) h33 rfl rfl ⟨by rw [R],hW3.bel⟩
    have h9:x.op=3:=bne_eq_false_iff_eq.1 hb
    have hc34:Hid (x.op=3):=h9
    clear h9
    clear hb
    refine wp_skip ?_
    refine hK18 _ _ ?_
    refine wp_seq_k fun K35 hK35=>?_
    refine wp_seq_k fun K36 hK36=>?_
    refine rg h30 fun ops=>?_;clear h30 a30
    refine sfEnd4 trivial rfl rfl ?_
    refine sbInts 0 hW3 trivial rfl rfl rfl rfl ?_
    refine slInts trivial rfl rfl ?_
    refine sgt trivial rfl rfl rfl ?_
    refine St.nil fun a37 h37=>?_
    refine hK36 _ _ ?_
    refine fr_cond (t:=36) h37 rfl (fun hb=>?_) (fun hb=>?_)
    ·have hc38:8<x.args.length:=by have:=of_decide_eq_true hb;omega
     clear hb
     refine wp_seq_k fun K39 hK39=>?_
     refine rg h37 fun ops=>?_;clear h37 a37
     refine sa trivial rfl rfl ?_
     refine St.nil fun a40 h40=>?_
     refine hK39 _ _ ?_
     refine wp_ret ?_;with_reducible repeat first | refine of_then_ret ?_ | refine of_block_ret ?_
     have R:x.form bl=2:=by
      rw [endForm_eq]
      generalize x.yes.form bl (x.op != 3)=yv
      generalize x.no.form bl (x.op==2)=zv
      first | (simp [hc12,hc17,hc21,hc27.out,hc29,hc34.out,hc38];done) | (exfalso;have:=hc12;have:=hc17;have:=hc21;have:=hc27.out;have:=hc29;have:=hc34.out;have:=hc38;omega)
     exact ret_tmp (t:=4) h40 rfl rfl ⟨by rw [R],hW3.bel⟩
    have hc41:¬ (8<x.args.length):=by have:=of_decide_eq_false hb;omega
    clear hb
    refine wp_skip ?_
    refine hK35 _ _ ?_
    refine wp_seq_k fun K42 hK42=>?_
    refine wp_seq_k fun K43 hK43=>?_
    refine rg h37 fun ops=>?_;clear h37 a37
    refine sS 1 4 Tryz.underlying42 rfl infFunc hW3 trivial rfl rfl rfl rfl ?_
    refine sfEnd2 trivial rfl rfl ?_
    refine sS 0 3 Tryz.underlying48 rfl infTo hW3 trivial rfl rfl rfl rfl ?_
    refine sfEnd0 trivial rfl rfl ?_
    refine sbInt 0 hW3 trivial rfl rfl rfl rfl ?_
    refine sne trivial rfl rfl rfl ?_
    refine sc_3 cf115 hW3 (toForm_any (x.op != 3) hs.1 hs.2.1 hbl) trivial rfl rfl rfl rfl ?_
    clear hW3;intro w44 hW44
    refine sa trivial rfl rfl ?_
    refine St.nil fun a45 h45=>?_
    refine hK43 _ _ ?_
    refine wp_seq_k fun K46 hK46=>?_
    refine rg h45 fun ops=>?_;clear h45 a45
    refine sm trivial rfl rfl ?_
    refine sne trivial rfl rfl rfl ?_
    refine St.nil fun a47 h47=>?_
    refine hK46 _ _ ?_
    refine fr_cond (t:=45) h47 rfl (fun hb=>?_) (fun hb=>?_)
    ·have h9:¬ (x.yes.form bl (x.op != 3))=0:=bne_iff_ne.1 hb
     have hc48:¬ (x.yes.form bl (x.op != 3))=0:=h9
     clear h9
     clear hb
     refine wp_seq_k fun K49 hK49=>?_
     refine rg h47 fun ops=>?_;clear h47 a47
     refine sm trivial rfl rfl ?_
     refine sa trivial rfl rfl ?_
     refine St.nil fun a50 h50=>?_
     refine hK49 _ _ ?_
     refine wp_ret ?_;with_reducible repeat first | refine of_then_ret ?_ | refine of_block_ret ?_
     have R:x.form bl=x.yes.form bl (x.op != 3):=by
      rw [endForm_eq]
      have hY:=hc48
      generalize x.yes.form bl (x.op != 3)=yv at hY ⊢
      generalize x.no.form bl (x.op==2)=zv
      first | (simp [hc12,hc17,hc21,hc27.out,hc29,hc34.out,hc41,hY];done) | (exfalso;have:=hc12;have:=hc17;have:=hc21;have:=hc27.out;have:=hc29;have:=hc34.out;have:=hc41;omega)
     exact ret_tmp (t:=4) h50 rfl rfl ⟨by rw [R],hW44.bel⟩
    have h9:(x.yes.form bl (x.op != 3))=0:=bne_eq_false_iff_eq.1 hb
    have hc51:Hid ((x.yes.form bl (x.op != 3))=0):=h9
    clear h9
    clear hb
    refine wp_skip ?_
    refine hK42 _ _ ?_
    refine wp_seq_k fun K52 hK52=>?_
    refine rg h47 fun ops=>?_;clear h47 a47
    refine sS 1 4 Tryz.underlying42 rfl infFunc hW44 trivial rfl rfl rfl rfl ?_
    refine sfEnd3 trivial rfl rfl ?_
    refine sS 0 3 Tryz.underlying48 rfl infTo hW44 trivial rfl rfl rfl rfl ?_
    refine sfEnd0 trivial rfl rfl ?_
    refine sbInt 0 hW44 trivial rfl rfl rfl rfl ?_
    refine seq trivial rfl rfl rfl ?_
    refine sc_3 cf115 hW44 (toForm_any (x.op==2) hs.2.2.1 hs.2.2.2 hbl) trivial rfl rfl rfl rfl ?_
    clear hW44;intro w53 hW53
    refine sa trivial rfl rfl ?_
    refine St.nil fun a54 h54=>?_
    refine hK52 _ _ ?_
    refine wp_ret ?_;with_reducible repeat first | refine of_then_ret ?_ | refine of_block_ret ?_
    have R:x.form bl=x.no.form bl (x.op==2):=by
     rw [endForm_eq]
     have hY:=hc51.out
     generalize x.yes.form bl (x.op != 3)=yv at hY ⊢
     generalize x.no.form bl (x.op==2)=zv
     first | (simp [hc12,hc17,hc21,hc27.out,hc29,hc34.out,hc41,hY];done) | (exfalso;have:=hc12;have:=hc17;have:=hc21;have:=hc27.out;have:=hc29;have:=hc34.out;have:=hc41;omega)
    exact ret_tmp (t:=4) h54 rfl rfl ⟨by rw [R],hW53.bel⟩
   rw [hb] at h28
   have hc55:¬ (0<x.args.length):=by have:=of_decide_eq_false hb;omega
   clear hb
   refine St.go h28 ?_;clear h28 a28
   refine so hg13 rfl rfl rfl rfl ?_
   refine so hg13 rfl rfl rfl rfl ?_
   refine so hg13 rfl rfl rfl rfl ?_
   refine spf ⟨_,hg8,rfl,rfl⟩ rfl rfl rfl ?_
   refine spf trivial rfl rfl rfl ?_
   refine St.nil fun a56 h56=>?_
   refine hK19 _ _ ?_
   refine fr_false (t:=32) h56 rfl ?_
   refine wp_skip ?_
   refine hK18 _ _ ?_
   refine wp_seq_k fun K57 hK57=>?_
   refine wp_seq_k fun K58 hK58=>?_
   refine rg h56 fun ops=>?_;clear h56 a56
   refine sfEnd4 trivial rfl rfl ?_
   refine sbInts 0 hW3 trivial rfl rfl rfl rfl ?_
   refine slInts trivial rfl rfl ?_
   refine sgt trivial rfl rfl rfl ?_
   refine St.nil fun a59 h59=>?_
   refine hK58 _ _ ?_
   refine fr_cond (t:=36) h59 rfl (fun hb=>?_) (fun hb=>?_)
   ·have hc60:8<x.args.length:=by have:=of_decide_eq_true hb;omega
    clear hb
    refine wp_seq_k fun K61 hK61=>?_
    refine rg h59 fun ops=>?_;clear h59 a59
    refine sa trivial rfl rfl ?_
    refine St.nil fun a62 h62=>?_
    refine hK61 _ _ ?_
    refine wp_ret ?_;with_reducible repeat first | refine of_then_ret ?_ | refine of_block_ret ?_
    have R:x.form bl=2:=by
     rw [endForm_eq]
     generalize x.yes.form bl (x.op != 3)=yv
     generalize x.no.form bl (x.op==2)=zv
     first | (simp [hc12,hc17,hc21,hc27.out,hc55,hc60];done) | (exfalso;have:=hc12;have:=hc17;have:=hc21;have:=hc27.out;have:=hc55;have:=hc60;omega)
    exact ret_tmp (t:=4) h62 rfl rfl ⟨by rw [R],hW3.bel⟩
   have hc63:¬ (8<x.args.length):=by have:=of_decide_eq_false hb;omega
   clear hb
   refine wp_skip ?_
   refine hK57 _ _ ?_
   refine wp_seq_k fun K64 hK64=>?_
   refine wp_seq_k fun K65 hK65=>?_
   refine rg h59 fun ops=>?_;clear h59 a59
   refine sS 1 4 Tryz.underlying42 rfl infFunc hW3 trivial rfl rfl rfl rfl ?_
   refine sfEnd2 trivial rfl rfl ?_
   refine sS 0 3 Tryz.underlying48 rfl infTo hW3 trivial rfl rfl rfl rfl ?_
   refine sfEnd0 trivial rfl rfl ?_
   refine sbInt 0 hW3 trivial rfl rfl rfl rfl ?_
   refine sne trivial rfl rfl rfl ?_
   refine sc_3 cf115 hW3 (toForm_any (x.op != 3) hs.1 hs.2.1 hbl) trivial rfl rfl rfl rfl ?_
   clear hW3;intro w66 hW66
   refine sa trivial rfl rfl ?_
   refine St.nil fun a67 h67=>?_
   refine hK65 _ _ ?_
   refine wp_seq_k fun K68 hK68=>?_
   refine rg h67 fun ops=>?_;clear h67 a67
   refine sm trivial rfl rfl ?_
   refine sne trivial rfl rfl rfl ?_
   refine St.nil fun a69 h69=>?_
   refine hK68 _ _ ?_
   refine fr_cond (t:=45) h69 rfl (fun hb=>?_) (fun hb=>?_)
   ·have h9:¬ (x.yes.form bl (x.op != 3))=0:=bne_iff_ne.1 hb
    have hc70:¬ (x.yes.form bl (x.op != 3))=0:=h9
    clear h9
    clear hb
    refine wp_seq_k fun K71 hK71=>?_
    refine rg h69 fun ops=>?_;clear h69 a69
    refine sm trivial rfl rfl ?_
    refine sa trivial rfl rfl ?_
    refine St.nil fun a72 h72=>?_
    refine hK71 _ _ ?_
    refine wp_ret ?_;with_reducible repeat first | refine of_then_ret ?_ | refine of_block_ret ?_
    have R:x.form bl=x.yes.form bl (x.op != 3):=by
     rw [endForm_eq]
     have hY:=hc70
     generalize x.yes.form bl (x.op != 3)=yv at hY ⊢
     generalize x.no.form bl (x.op==2)=zv
     first | (simp [hc12,hc17,hc21,hc27.out,hc55,hc63,hY];done) | (exfalso;have:=hc12;have:=hc17;have:=hc21;have:=hc27.out;have:=hc55;have:=hc63;omega)
    exact ret_tmp (t:=4) h72 rfl rfl ⟨by rw [R],hW66.bel⟩
   have h9:(x.yes.form bl (x.op != 3))=0:=bne_eq_false_iff_eq.1 hb
   have hc73:Hid ((x.yes.form bl (x.op != 3))=0):=h9
   clear h9
   clear hb
   refine wp_skip ?_
   refine hK64 _ _ ?_
   refine wp_seq_k fun K74 hK74=>?_
   refine rg h69 fun ops=>?_;clear h69 a69
   refine sS 1 4 Tryz.underlying42 rfl infFunc hW66 trivial rfl rfl rfl rfl ?_
   refine sfEnd3 trivial rfl rfl ?_
   refine sS 0 3 Tryz.underlying48 rfl infTo hW66 trivial rfl rfl rfl rfl ?_
   refine sfEnd0 trivial rfl rfl ?_
   refine sbInt 0 hW66 trivial rfl rfl rfl rfl ?_
   refine seq trivial rfl rfl rfl ?_
   refine sc_3 cf115 hW66 (toForm_any (x.op==2) hs.2.2.1 hs.2.2.2 hbl) trivial rfl rfl rfl rfl ?_
   clear hW66;intro w75 hW75
   refine sa trivial rfl rfl ?_
   refine St.nil fun a76 h76=>?_
   refine hK74 _ _ ?_
   refine wp_ret ?_;with_reducible repeat first | refine of_then_ret ?_ | refine of_block_ret ?_
   have R:x.form bl=x.no.form bl (x.op==2):=by
    rw [endForm_eq]
    have hY:=hc73.out
    generalize x.yes.form bl (x.op != 3)=yv at hY ⊢
    generalize x.no.form bl (x.op==2)=zv
    first | (simp [hc12,hc17,hc21,hc27.out,hc55,hc63,hY];done) | (exfalso;have:=hc12;have:=hc17;have:=hc21;have:=hc27.out;have:=hc55;have:=hc63;omega)
   exact ret_tmp (t:=4) h76 rfl rfl ⟨by rw [R],hW75.bel⟩
  rw [hb] at h20
  have h9:x.a=0:=bne_eq_false_iff_eq.1 hb
  have hc77:Hid (x.a=0):=h9
  clear h9
  clear hb
  refine St.go h20 ?_;clear h20 a20
  refine so hg3 rfl rfl rfl rfl ?_
  refine so hg3 rfl rfl rfl rfl ?_
  refine so hg3 rfl rfl rfl rfl ?_
  refine spf trivial rfl rfl rfl ?_
  refine sm trivial rfl rfl ?_
  refine sfEnd4 ⟨_,hg8,rfl,rfl⟩ rfl rfl ?_
  refine sbInts 0 hW3 ⟨_,hg8,rfl,rfl⟩ rfl rfl rfl rfl ?_
  refine slInts ⟨_,hg8,rfl,rfl⟩ rfl rfl ?_
  refine sgt ⟨_,hg8,rfl,rfl⟩ rfl rfl rfl ?_
  refine sm ⟨_,hg8,rfl,rfl⟩ rfl rfl ?_
  intro a78 h78
  rcases Bool.eq_false_or_eq_true (decide (0<(x.args.length:Int))) with hb | hb
  ·rw [hb] at h78
   have hc79:0<x.args.length:=by have:=of_decide_eq_true hb;omega
   clear hb
   refine St.go h78 ?_;clear h78 a78
   refine sfEnd0 ⟨_,hg13,rfl,rfl⟩ rfl rfl ?_
   refine sbInt 0 hW3 ⟨_,hg13,rfl,rfl⟩ rfl rfl rfl rfl ?_
   refine sne ⟨_,hg13,rfl,rfl⟩ rfl rfl rfl ?_
   refine sp ⟨_,hg8,rfl,rfl⟩ rfl rfl rfl ?_
   refine spf trivial rfl rfl rfl ?_
   refine St.nil fun a80 h80=>?_
   refine hK19 _ _ ?_
   refine fr_cond (t:=32) h80 rfl (fun hb=>?_) (fun hb=>?_)
   ·have h9:¬ x.op=3:=bne_iff_ne.1 hb
    have hc81:¬ x.op=3:=h9
    clear h9
    clear hb
    refine wp_seq_k fun K82 hK82=>?_
    refine rg h80 fun ops=>?_;clear h80 a80
    refine sa trivial rfl rfl ?_
    refine St.nil fun a83 h83=>?_
    refine hK82 _ _ ?_
    refine wp_ret ?_;with_reducible repeat first | refine of_then_ret ?_ | refine of_block_ret ?_
    have R:x.form bl=4:=by
     rw [endForm_eq]
     generalize x.yes.form bl (x.op != 3)=yv
     generalize x.no.form bl (x.op==2)=zv
     first | (simp [hc12,hc17,hc77.out,hc79,hc81];done) | (exfalso;have:=hc12;have:=hc17;have:=hc77.out;have:=hc79;have:=hc81;omega)
    exact ret_tmp (t:=4) h83 rfl rfl ⟨by rw [R],hW3.bel⟩
   have h9:x.op=3:=bne_eq_false_iff_eq.1 hb
   have hc84:Hid (x.op=3):=h9
   clear h9
   clear hb
   refine wp_skip ?_
   refine hK18 _ _ ?_
   refine wp_seq_k fun K85 hK85=>?_
   refine wp_seq_k fun K86 hK86=>?_
   refine rg h80 fun ops=>?_;clear h80 a80
   refine sfEnd4 trivial rfl rfl ?_
   refine sbInts 0 hW3 trivial rfl rfl rfl rfl ?_
   refine slInts trivial rfl rfl ?_
   refine sgt trivial rfl rfl rfl ?_
   refine St.nil fun a87 h87=>?_
   refine hK86 _ _ ?_
   refine fr_cond (t:=36) h87 rfl (fun hb=>?_) (fun hb=>?_)
   ·have hc88:8<x.args.length:=by have:=of_decide_eq_true hb;omega
    clear hb
    refine wp_seq_k fun K89 hK89=>?_
    refine rg h87 fun ops=>?_;clear h87 a87
    refine sa trivial rfl rfl ?_
    refine St.nil fun a90 h90=>?_
    refine hK89 _ _ ?_
    refine wp_ret ?_;with_reducible repeat first | refine of_then_ret ?_ | refine of_block_ret ?_
    have R:x.form bl=2:=by
     rw [endForm_eq]
     generalize x.yes.form bl (x.op != 3)=yv
     generalize x.no.form bl (x.op==2)=zv
     first | (simp [hc12,hc17,hc77.out,hc79,hc84.out,hc88];done) | (exfalso;have:=hc12;have:=hc17;have:=hc77.out;have:=hc79;have:=hc84.out;have:=hc88;omega)
    exact ret_tmp (t:=4) h90 rfl rfl ⟨by rw [R],hW3.bel⟩
   have hc91:¬ (8<x.args.length):=by have:=of_decide_eq_false hb;omega
   clear hb
   refine wp_skip ?_
   refine hK85 _ _ ?_
   refine wp_seq_k fun K92 hK92=>?_
   refine wp_seq_k fun K93 hK93=>?_
   refine rg h87 fun ops=>?_;clear h87 a87
   refine sS 1 4 Tryz.underlying42 rfl infFunc hW3 trivial rfl rfl rfl rfl ?_
   refine sfEnd2 trivial rfl rfl ?_
   refine sS 0 3 Tryz.underlying48 rfl infTo hW3 trivial rfl rfl rfl rfl ?_
   refine sfEnd0 trivial rfl rfl ?_
   refine sbInt 0 hW3 trivial rfl rfl rfl rfl ?_
   refine sne trivial rfl rfl rfl ?_
   refine sc_3 cf115 hW3 (toForm_any (x.op != 3) hs.1 hs.2.1 hbl) trivial rfl rfl rfl rfl ?_
   clear hW3;intro w94 hW94
   refine sa trivial rfl rfl ?_
   refine St.nil fun a95 h95=>?_
   refine hK93 _ _ ?_
   refine wp_seq_k fun K96 hK96=>?_
   refine rg h95 fun ops=>?_;clear h95 a95
   refine sm trivial rfl rfl ?_
   refine sne trivial rfl rfl rfl ?_
   refine St.nil fun a97 h97=>?_
   refine hK96 _ _ ?_
   refine fr_cond (t:=45) h97 rfl (fun hb=>?_) (fun hb=>?_)
   ·have h9:¬ (x.yes.form bl (x.op != 3))=0:=bne_iff_ne.1 hb
    have hc98:¬ (x.yes.form bl (x.op != 3))=0:=h9
    clear h9
    clear hb
    refine wp_seq_k fun K99 hK99=>?_
    refine rg h97 fun ops=>?_;clear h97 a97
    refine sm trivial rfl rfl ?_
    refine sa trivial rfl rfl ?_
    refine St.nil fun a100 h100=>?_
    refine hK99 _ _ ?_
    refine wp_ret ?_;with_reducible repeat first | refine of_then_ret ?_ | refine of_block_ret ?_
    have R:x.form bl=x.yes.form bl (x.op != 3):=by
     rw [endForm_eq]
     have hY:=hc98
     generalize x.yes.form bl (x.op != 3)=yv at hY ⊢
     generalize x.no.form bl (x.op==2)=zv
     first | (simp [hc12,hc17,hc77.out,hc79,hc84.out,hc91,hY];done) | (exfalso;have:=hc12;have:=hc17;have:=hc77.out;have:=hc79;have:=hc84.out;have:=hc91;omega)
    exact ret_tmp (t:=4) h100 rfl rfl ⟨by rw [R],hW94.bel⟩
   have h9:(x.yes.form bl (x.op != 3))=0:=bne_eq_false_iff_eq.1 hb
   have hc101:Hid ((x.yes.form bl (x.op != 3))=0):=h9
   clear h9
   clear hb
   refine wp_skip ?_
   refine hK92 _ _ ?_
   refine wp_seq_k fun K102 hK102=>?_
   refine rg h97 fun ops=>?_;clear h97 a97
   refine sS 1 4 Tryz.underlying42 rfl infFunc hW94 trivial rfl rfl rfl rfl ?_
   refine sfEnd3 trivial rfl rfl ?_
   refine sS 0 3 Tryz.underlying48 rfl infTo hW94 trivial rfl rfl rfl rfl ?_
   refine sfEnd0 trivial rfl rfl ?_
   refine sbInt 0 hW94 trivial rfl rfl rfl rfl ?_
   refine seq trivial rfl rfl rfl ?_
   refine sc_3 cf115 hW94 (toForm_any (x.op==2) hs.2.2.1 hs.2.2.2 hbl) trivial rfl rfl rfl rfl ?_
   clear hW94;intro w103 hW103
   refine sa trivial rfl rfl ?_
   refine St.nil fun a104 h104=>?_
   refine hK102 _ _ ?_
   refine wp_ret ?_;with_reducible repeat first | refine of_then_ret ?_ | refine of_block_ret ?_
   have R:x.form bl=x.no.form bl (x.op==2):=by
    rw [endForm_eq]
    have hY:=hc101.out
    generalize x.yes.form bl (x.op != 3)=yv at hY ⊢
    generalize x.no.form bl (x.op==2)=zv
    first | (simp [hc12,hc17,hc77.out,hc79,hc84.out,hc91,hY];done) | (exfalso;have:=hc12;have:=hc17;have:=hc77.out;have:=hc79;have:=hc84.out;have:=hc91;omega)
   exact ret_tmp (t:=4) h104 rfl rfl ⟨by rw [R],hW103.bel⟩
  rw [hb] at h78
  have hc105:¬ (0<x.args.length):=by have:=of_decide_eq_false hb;omega
  clear hb
  refine St.go h78 ?_;clear h78 a78
  refine so hg13 rfl rfl rfl rfl ?_
  refine so hg13 rfl rfl rfl rfl ?_
  refine so hg13 rfl rfl rfl rfl ?_
  refine spf ⟨_,hg8,rfl,rfl⟩ rfl rfl rfl ?_
  refine spf trivial rfl rfl rfl ?_
  refine St.nil fun a106 h106=>?_
  refine hK19 _ _ ?_
  refine fr_false (t:=32) h106 rfl ?_
  refine wp_skip ?_
  refine hK18 _ _ ?_
  refine wp_seq_k fun K107 hK107=>?_
  refine wp_seq_k fun K108 hK108=>?_
  refine rg h106 fun ops=>?_;clear h106 a106
  refine sfEnd4 trivial rfl rfl ?_
  refine sbInts 0 hW3 trivial rfl rfl rfl rfl ?_
  refine slInts trivial rfl rfl ?_
  refine sgt trivial rfl rfl rfl ?_
  refine St.nil fun a109 h109=>?_
  refine hK108 _ _ ?_
  refine fr_cond (t:=36) h109 rfl (fun hb=>?_) (fun hb=>?_)
  ·have hc110:8<x.args.length:=by have:=of_decide_eq_true hb;omega
   clear hb
   refine wp_seq_k fun K111 hK111=>?_
   refine rg h109 fun ops=>?_;clear h109 a109
   refine sa trivial rfl rfl ?_
   refine St.nil fun a112 h112=>?_
   refine hK111 _ _ ?_
   refine wp_ret ?_;with_reducible repeat first | refine of_then_ret ?_ | refine of_block_ret ?_
   have R:x.form bl=2:=by
    rw [endForm_eq]
    generalize x.yes.form bl (x.op != 3)=yv
    generalize x.no.form bl (x.op==2)=zv
    first | (simp [hc12,hc17,hc77.out,hc105,hc110];done) | (exfalso;have:=hc12;have:=hc17;have:=hc77.out;have:=hc105;have:=hc110;omega)
   exact ret_tmp (t:=4) h112 rfl rfl ⟨by rw [R],hW3.bel⟩
  have hc113:¬ (8<x.args.length):=by have:=of_decide_eq_false hb;omega
  clear hb
  refine wp_skip ?_
  refine hK107 _ _ ?_
  refine wp_seq_k fun K114 hK114=>?_
  refine wp_seq_k fun K115 hK115=>?_
  refine rg h109 fun ops=>?_;clear h109 a109
  refine sS 1 4 Tryz.underlying42 rfl infFunc hW3 trivial rfl rfl rfl rfl ?_
  refine sfEnd2 trivial rfl rfl ?_
  refine sS 0 3 Tryz.underlying48 rfl infTo hW3 trivial rfl rfl rfl rfl ?_
  refine sfEnd0 trivial rfl rfl ?_
  refine sbInt 0 hW3 trivial rfl rfl rfl rfl ?_
  refine sne trivial rfl rfl rfl ?_
  refine sc_3 cf115 hW3 (toForm_any (x.op != 3) hs.1 hs.2.1 hbl) trivial rfl rfl rfl rfl ?_
  clear hW3;intro w116 hW116
  refine sa trivial rfl rfl ?_
  refine St.nil fun a117 h117=>?_
  refine hK115 _ _ ?_
  refine wp_seq_k fun K118 hK118=>?_
  refine rg h117 fun ops=>?_;clear h117 a117
  refine sm trivial rfl rfl ?_
  refine sne trivial rfl rfl rfl ?_
  refine St.nil fun a119 h119=>?_
  refine hK118 _ _ ?_
  refine fr_cond (t:=45) h119 rfl (fun hb=>?_) (fun hb=>?_)
  ·have h9:¬ (x.yes.form bl (x.op != 3))=0:=bne_iff_ne.1 hb
   have hc120:¬ (x.yes.form bl (x.op != 3))=0:=h9
   clear h9
   clear hb
   refine wp_seq_k fun K121 hK121=>?_
   refine rg h119 fun ops=>?_;clear h119 a119
   refine sm trivial rfl rfl ?_
   refine sa trivial rfl rfl ?_
   refine St.nil fun a122 h122=>?_
   refine hK121 _ _ ?_
   refine wp_ret ?_;with_reducible repeat first | refine of_then_ret ?_ | refine of_block_ret ?_
   have R:x.form bl=x.yes.form bl (x.op != 3):=by
    rw [endForm_eq]
    have hY:=hc120
    generalize x.yes.form bl (x.op != 3)=yv at hY ⊢
    generalize x.no.form bl (x.op==2)=zv
    first | (simp [hc12,hc17,hc77.out,hc105,hc113,hY];done) | (exfalso;have:=hc12;have:=hc17;have:=hc77.out;have:=hc105;have:=hc113;omega)
   exact ret_tmp (t:=4) h122 rfl rfl ⟨by rw [R],hW116.bel⟩
  have h9:(x.yes.form bl (x.op != 3))=0:=bne_eq_false_iff_eq.1 hb
  have hc123:Hid ((x.yes.form bl (x.op != 3))=0):=h9
  clear h9
  clear hb
  refine wp_skip ?_
  refine hK114 _ _ ?_
  refine wp_seq_k fun K124 hK124=>?_
  refine rg h119 fun ops=>?_;clear h119 a119
  refine sS 1 4 Tryz.underlying42 rfl infFunc hW116 trivial rfl rfl rfl rfl ?_
  refine sfEnd3 trivial rfl rfl ?_
  refine sS 0 3 Tryz.underlying48 rfl infTo hW116 trivial rfl rfl rfl rfl ?_
  refine sfEnd0 trivial rfl rfl ?_
  refine sbInt 0 hW116 trivial rfl rfl rfl rfl ?_
  refine seq trivial rfl rfl rfl ?_
  refine sc_3 cf115 hW116 (toForm_any (x.op==2) hs.2.2.1 hs.2.2.2 hbl) trivial rfl rfl rfl rfl ?_
  clear hW116;intro w125 hW125
  refine sa trivial rfl rfl ?_
  refine St.nil fun a126 h126=>?_
  refine hK124 _ _ ?_
  refine wp_ret ?_;with_reducible repeat first | refine of_then_ret ?_ | refine of_block_ret ?_
  have R:x.form bl=x.no.form bl (x.op==2):=by
   rw [endForm_eq]
   have hY:=hc123.out
   generalize x.yes.form bl (x.op != 3)=yv at hY ⊢
   generalize x.no.form bl (x.op==2)=zv
   first | (simp [hc12,hc17,hc77.out,hc105,hc113,hY];done) | (exfalso;have:=hc12;have:=hc17;have:=hc77.out;have:=hc105;have:=hc113;omega)
  exact ret_tmp (t:=4) h126 rfl rfl ⟨by rw [R],hW125.bel⟩
theorem wrap_small (x : Int) (h : -4611686018427387904 ≤ x ∧ x < 4611686018427387904) : IntKind.i64.wrap x = x := by
  by_cases hx:0≤x
  · have e1:x % 2 ^ 64=x:=by omega
    simp only [IntKind.wrap,IntKind.signed,IntKind.bits,e1,Bool.true_and]
    rw [if_neg (by simp only [decide_eq_true_eq];omega)]
  · have e1:x % 2 ^ 64=x+2 ^ 64:=by omega
    simp only [IntKind.wrap,IntKind.signed,IntKind.bits,e1,Bool.true_and]
    rw [if_pos (by simp only [decide_eq_true_eq];omega)]
    omega
theorem atFunc_any {f : Nat} {w : World} (h : f < 1000000) :
    Rd Tryz.prog 37 #[.int .i64 (f:Int)] w (.int .i64 (10000*(f:Int)+9999)):=by
  refine fr_enter (n:=6) Tryz.func37 rfl rfl rfl ?_
  intro a hF
  have hW:=Wd.start w
  replace hF:Fr 6 a [(0,.int .i64 (f:Int))]:=hF
  refine wp_seq_k fun K1 hK1=>?_
  refine rg hF fun ops=>?_;clear hF a
  refine sa trivial rfl rfl ?_
  refine St.nil fun a2 h2=>?_
  refine hK1 _ _ ?_
  refine wp_seq_k fun K3 hK3=>?_
  refine rg h2 fun ops=>?_;clear h2 a2
  refine sm trivial rfl rfl ?_
  intro a4 h4
  refine fr_pure (t:=4) (v:=.int .i64 (10000*(f:Int))) (w':=w) h4 rfl rfl rfl (fun K hK=>?_) ?_
  ·have k0:a4.tmps.getD 3 undef=.int .i64 (f:Int):=h4.sl 3 _ rfl
   have hwr:IntKind.i64.wrap (10000*(f:Int))=10000*(f:Int):=wrap_small _ (by omega)
   go_simp
   exact hK
  clear h4;intro a5 hF5
  refine fr_pure (t:=5) (v:=.int .i64 ((10000*(f:Int))+9999)) (w':=w) hF5 rfl rfl rfl (fun K hK=>?_) ?_
  ·have k0:a5.tmps.getD 4 undef=.int .i64 (10000*(f:Int)):=hF5.sl 4 _ rfl
   have hwr:IntKind.i64.wrap ((10000*(f:Int))+9999)=(10000*(f:Int))+9999:=wrap_small _ (by omega)
   go_simp
   exact hK
  clear hF5;intro a6 hF6
  refine St.go hF6 ?_;clear hF6 a6
  refine sa trivial rfl rfl ?_
  refine St.nil fun a7 h7=>?_
  refine hK3 _ _ ?_
  refine wp_ret ?_;with_reducible repeat first | refine of_then_ret ?_ | refine of_block_ret ?_
  have R:10000*(f:Int)+9999=((10000*(f:Int))+9999):=by omega
  exact ret_tmp (t:=2) h7 rfl rfl ⟨by rw [R],hW.bel⟩
theorem atBlock_any {f b : Nat} {w : World} (h : f < 1000000 ∧ b < 1000000) :
    Rd Tryz.prog 73 #[.int .i64 (f:Int),.int .i64 (b:Int)] w (.int .i64 (10000*(f:Int)+100*(b:Int)+90)):=by
  refine fr_enter (n:=11) Tryz.func73 rfl rfl rfl ?_
  intro a hF
  have hW:=Wd.start w
  replace hF:Fr 11 a [(0,.int .i64 (f:Int)),(1,.int .i64 (b:Int))]:=hF
  refine wp_seq_k fun K1 hK1=>?_
  refine rg hF fun ops=>?_;clear hF a
  refine sa trivial rfl rfl ?_
  refine St.nil fun a2 h2=>?_
  refine hK1 _ _ ?_
  refine wp_seq_k fun K3 hK3=>?_
  refine rg h2 fun ops=>?_;clear h2 a2
  refine sm trivial rfl rfl ?_
  intro a4 h4
  refine fr_pure (t:=6) (v:=.int .i64 (10000*(f:Int))) (w':=w) h4 rfl rfl rfl (fun K hK=>?_) ?_
  ·have k0:a4.tmps.getD 5 undef=.int .i64 (f:Int):=h4.sl 5 _ rfl
   have hwr:IntKind.i64.wrap (10000*(f:Int))=10000*(f:Int):=wrap_small _ (by omega)
   go_simp
   exact hK
  clear h4;intro a5 hF5
  refine St.go hF5 ?_;clear hF5 a5
  refine sm trivial rfl rfl ?_
  intro a6 h6
  refine fr_pure (t:=8) (v:=.int .i64 (100*(b:Int))) (w':=w) h6 rfl rfl rfl (fun K hK=>?_) ?_
  ·have k0:a6.tmps.getD 7 undef=.int .i64 (b:Int):=h6.sl 7 _ rfl
   have hwr:IntKind.i64.wrap (100*(b:Int))=100*(b:Int):=wrap_small _ (by omega)
   go_simp
   exact hK
  clear h6;intro a7 hF7
  refine fr_pure (t:=9) (v:=.int .i64 ((10000*(f:Int))+(100*(b:Int)))) (w':=w) hF7 rfl rfl rfl (fun K hK=>?_) ?_
  ·have k0:a7.tmps.getD 6 undef=.int .i64 (10000*(f:Int)):=hF7.sl 6 _ rfl
   have k1:a7.tmps.getD 8 undef=.int .i64 (100*(b:Int)):=hF7.sl 8 _ rfl
   have hwr:IntKind.i64.wrap ((10000*(f:Int))+(100*(b:Int)))=(10000*(f:Int))+(100*(b:Int)):=wrap_small _ (by omega)
   go_simp
   exact hK
  clear hF7;intro a8 hF8
  refine fr_pure (t:=10) (v:=.int .i64 (((10000*(f:Int))+(100*(b:Int)))+90)) (w':=w) hF8 rfl rfl rfl (fun K hK=>?_) ?_
  ·have k0:a8.tmps.getD 9 undef=.int .i64 ((10000*(f:Int))+(100*(b:Int))):=hF8.sl 9 _ rfl
   have hwr:IntKind.i64.wrap (((10000*(f:Int))+(100*(b:Int)))+90)=((10000*(f:Int))+(100*(b:Int)))+90:=wrap_small _ (by omega)
   go_simp
   exact hK
  clear hF8;intro a9 hF9
  refine St.go hF9 ?_;clear hF9 a9
  refine sa trivial rfl rfl ?_
  refine St.nil fun a10 h10=>?_
  refine hK3 _ _ ?_
  refine wp_ret ?_;with_reducible repeat first | refine of_then_ret ?_ | refine of_block_ret ?_
  have R:10000*(f:Int)+100*(b:Int)+90=(((10000*(f:Int))+(100*(b:Int)))+90):=by omega
  exact ret_tmp (t:=4) h10 rfl rfl ⟨by rw [R],hW.bel⟩
theorem atEnd_any {f b : Nat} {w : World} (h : f < 1000000 ∧ b < 1000000) :
    Rd Tryz.prog 77 #[.int .i64 (f:Int),.int .i64 (b:Int)] w (.int .i64 (10000*(f:Int)+100*(b:Int)+91)):=by
  refine fr_enter (n:=11) Tryz.func77 rfl rfl rfl ?_
  intro a hF
  have hW:=Wd.start w
  replace hF:Fr 11 a [(0,.int .i64 (f:Int)),(1,.int .i64 (b:Int))]:=hF
  refine wp_seq_k fun K1 hK1=>?_
  refine rg hF fun ops=>?_;clear hF a
  refine sa trivial rfl rfl ?_
  refine St.nil fun a2 h2=>?_
  refine hK1 _ _ ?_
  refine wp_seq_k fun K3 hK3=>?_
  refine rg h2 fun ops=>?_;clear h2 a2
  refine sm trivial rfl rfl ?_
  intro a4 h4
  refine fr_pure (t:=6) (v:=.int .i64 (10000*(f:Int))) (w':=w) h4 rfl rfl rfl (fun K hK=>?_) ?_
  ·have k0:a4.tmps.getD 5 undef=.int .i64 (f:Int):=h4.sl 5 _ rfl
   have hwr:IntKind.i64.wrap (10000*(f:Int))=10000*(f:Int):=wrap_small _ (by omega)
   go_simp
   exact hK
  clear h4;intro a5 hF5
  refine St.go hF5 ?_;clear hF5 a5
  refine sm trivial rfl rfl ?_
  intro a6 h6
  refine fr_pure (t:=8) (v:=.int .i64 (100*(b:Int))) (w':=w) h6 rfl rfl rfl (fun K hK=>?_) ?_
  ·have k0:a6.tmps.getD 7 undef=.int .i64 (b:Int):=h6.sl 7 _ rfl
   have hwr:IntKind.i64.wrap (100*(b:Int))=100*(b:Int):=wrap_small _ (by omega)
   go_simp
   exact hK
  clear h6;intro a7 hF7
  refine fr_pure (t:=9) (v:=.int .i64 ((10000*(f:Int))+(100*(b:Int)))) (w':=w) hF7 rfl rfl rfl (fun K hK=>?_) ?_
  ·have k0:a7.tmps.getD 6 undef=.int .i64 (10000*(f:Int)):=hF7.sl 6 _ rfl
   have k1:a7.tmps.getD 8 undef=.int .i64 (100*(b:Int)):=hF7.sl 8 _ rfl
   have hwr:IntKind.i64.wrap ((10000*(f:Int))+(100*(b:Int)))=(10000*(f:Int))+(100*(b:Int)):=wrap_small _ (by omega)
   go_simp
   exact hK
  clear hF7;intro a8 hF8
  refine fr_pure (t:=10) (v:=.int .i64 (((10000*(f:Int))+(100*(b:Int)))+91)) (w':=w) hF8 rfl rfl rfl (fun K hK=>?_) ?_
  ·have k0:a8.tmps.getD 9 undef=.int .i64 ((10000*(f:Int))+(100*(b:Int))):=hF8.sl 9 _ rfl
   have hwr:IntKind.i64.wrap (((10000*(f:Int))+(100*(b:Int)))+91)=((10000*(f:Int))+(100*(b:Int)))+91:=wrap_small _ (by omega)
   go_simp
   exact hK
  clear hF8;intro a9 hF9
  refine St.go hF9 ?_;clear hF9 a9
  refine sa trivial rfl rfl ?_
  refine St.nil fun a10 h10=>?_
  refine hK3 _ _ ?_
  refine wp_ret ?_;with_reducible repeat first | refine of_then_ret ?_ | refine of_block_ret ?_
  have R:10000*(f:Int)+100*(b:Int)+91=(((10000*(f:Int))+(100*(b:Int)))+91):=by omega
  exact ret_tmp (t:=4) h10 rfl rfl ⟨by rw [R],hW.bel⟩
theorem atIns_any {f b i : Nat} {w : World} (h : f < 1000000 ∧ b < 1000000 ∧ i < 1000000) :
    Rd Tryz.prog 75 #[.int .i64 (f:Int),.int .i64 (b:Int),.int .i64 (i:Int)] w (.int .i64 (10000*(f:Int)+100*(b:Int)+(i:Int))):=by
  refine fr_enter (n:=14) Tryz.func75 rfl rfl rfl ?_
  intro a hF
  have hW:=Wd.start w
  replace hF:Fr 14 a [(0,.int .i64 (f:Int)),(1,.int .i64 (b:Int)),(2,.int .i64 (i:Int))]:=hF
  refine wp_seq_k fun K1 hK1=>?_
  refine rg hF fun ops=>?_;clear hF a
  refine sa trivial rfl rfl ?_
  refine St.nil fun a2 h2=>?_
  refine hK1 _ _ ?_
  refine wp_seq_k fun K3 hK3=>?_
  refine rg h2 fun ops=>?_;clear h2 a2
  refine sm trivial rfl rfl ?_
  intro a4 h4
  refine fr_pure (t:=8) (v:=.int .i64 (10000*(f:Int))) (w':=w) h4 rfl rfl rfl (fun K hK=>?_) ?_
  ·have k0:a4.tmps.getD 7 undef=.int .i64 (f:Int):=h4.sl 7 _ rfl
   have hwr:IntKind.i64.wrap (10000*(f:Int))=10000*(f:Int):=wrap_small _ (by omega)
   go_simp
   exact hK
  clear h4;intro a5 hF5
  refine St.go hF5 ?_;clear hF5 a5
  refine sm trivial rfl rfl ?_
  intro a6 h6
  refine fr_pure (t:=10) (v:=.int .i64 (100*(b:Int))) (w':=w) h6 rfl rfl rfl (fun K hK=>?_) ?_
  ·have k0:a6.tmps.getD 9 undef=.int .i64 (b:Int):=h6.sl 9 _ rfl
   have hwr:IntKind.i64.wrap (100*(b:Int))=100*(b:Int):=wrap_small _ (by omega)
   go_simp
   exact hK
  clear h6;intro a7 hF7
  refine fr_pure (t:=11) (v:=.int .i64 ((10000*(f:Int))+(100*(b:Int)))) (w':=w) hF7 rfl rfl rfl (fun K hK=>?_) ?_
  ·have k0:a7.tmps.getD 8 undef=.int .i64 (10000*(f:Int)):=hF7.sl 8 _ rfl
   have k1:a7.tmps.getD 10 undef=.int .i64 (100*(b:Int)):=hF7.sl 10 _ rfl
   have hwr:IntKind.i64.wrap ((10000*(f:Int))+(100*(b:Int)))=(10000*(f:Int))+(100*(b:Int)):=wrap_small _ (by omega)
   go_simp
   exact hK
  clear hF7;intro a8 hF8
  refine St.go hF8 ?_;clear hF8 a8
  refine sm trivial rfl rfl ?_
  intro a9 h9
  refine fr_pure (t:=13) (v:=.int .i64 (((10000*(f:Int))+(100*(b:Int)))+(i:Int))) (w':=w) h9 rfl rfl rfl (fun K hK=>?_) ?_
  ·have k0:a9.tmps.getD 11 undef=.int .i64 ((10000*(f:Int))+(100*(b:Int))):=h9.sl 11 _ rfl
   have k1:a9.tmps.getD 12 undef=.int .i64 (i:Int):=h9.sl 12 _ rfl
   have hwr:IntKind.i64.wrap (((10000*(f:Int))+(100*(b:Int)))+(i:Int))=((10000*(f:Int))+(100*(b:Int)))+(i:Int):=wrap_small _ (by omega)
   go_simp
   exact hK
  clear h9;intro a10 hF10
  refine St.go hF10 ?_;clear hF10 a10
  refine sa trivial rfl rfl ?_
  refine St.nil fun a11 h11=>?_
  refine hK3 _ _ ?_
  refine wp_ret ?_;with_reducible repeat first | refine of_then_ret ?_ | refine of_block_ret ?_
  have R:10000*(f:Int)+100*(b:Int)+(i:Int)=(((10000*(f:Int))+(100*(b:Int)))+(i:Int)):=by omega
  exact ret_tmp (t:=6) h11 rfl rfl ⟨by rw [R],hW.bel⟩
theorem insFSome {xop : Int} {fa fb fc fk fn fr fs : Bool} (hop : fieldsOf xop = some (fa, fb, fc, fk, fn, fr, fs)) (xa xb xc xk xn : Int) (am ra aa : Option Addr) (lm cm rl rc al ac : Nat) (w : World) :
    Rd Tryz.prog 74 #[.agg #[.slice am lm cm],.agg #[.int .i64 xop,.int .i64 xa,.int .i64 xb,.int .i64 xc,.int .i64 xk,.int .i64 xn,.slice ra rl rc,.slice aa al ac]] w (.int .i64 (insForm lm xop xa xb xc xk xn rl al)):=by
  refine fr_enter (n:=137) Tryz.func74 rfl rfl rfl ?_
  intro a hF
  have hW:=Wd.start w
  replace hF:Fr 137 a [(0,.agg #[.slice am lm cm]),(1,.agg #[.int .i64 xop,.int .i64 xa,.int .i64 xb,.int .i64 xc,.int .i64 xk,.int .i64 xn,.slice ra rl rc,.slice aa al ac])]:=hF
  refine wp_seq_k fun K1 hK1=>?_
  refine rg hF fun ops=>?_;clear hF a
  refine sB hW trivial rfl rfl ?_
  clear hW;intro w2 B2 hW2 hN;clear hN
  refine sB hW2 trivial rfl rfl ?_
  clear hW2;intro w3 B3 hW3 hN;clear hN
  refine sa trivial rfl rfl ?_
  refine St.nil fun a4 h4=>?_
  refine hK1 _ _ ?_
  refine wp_seq_k fun K5 hK5=>?_
  refine rg h4 fun ops=>?_;clear h4 a4
  refine sfIns0 trivial rfl rfl ?_
  refine sbInt 0 hW3 trivial rfl rfl rfl rfl ?_
  refine sc_1 cf114 hW3 (rdFieldsSome hop w3) trivial rfl rfl ?_
  clear hW3;intro w6 hW6
  refine sm trivial rfl rfl ?_
  intro a7 h7
  refine fr_pure (t:=11) (v:=.agg #[.bool fa,.bool fb,.bool fc,.bool fk,.bool fn,.bool fr,.bool fs]) (w':=w6) h7 rfl rfl rfl (fun K hK=>?_) ?_
  ·have k0:a7.tmps.getD 7 undef=.tuple #[.agg #[.bool fa,.bool fb,.bool fc,.bool fk,.bool fn,.bool fr,.bool fs],.bool true]:=h7.sl 7 _ rfl
   go_simp
   exact hK
  clear h7;intro a8 hF8
  refine fr_pure (t:=12) (v:=.bool true) (w':=w6) hF8 rfl rfl rfl (fun K hK=>?_) ?_
  ·have k0:a8.tmps.getD 7 undef=.tuple #[.agg #[.bool fa,.bool fb,.bool fc,.bool fk,.bool fn,.bool fr,.bool fs],.bool true]:=hF8.sl 7 _ rfl
   go_simp
   exact hK
  clear hF8;intro a9 hF9
  refine St.go hF9 ?_;clear hF9 a9
  refine sAFields hW6 trivial rfl ?_
  clear hW6;intro w10 B10 hW10 hN;clear hN
  refine sT 0 hW10 rfl rfl infFields rfl rfl rfl ?_
  clear hW10;intro w11 hW11
  refine sa trivial rfl rfl ?_
  refine St.nil fun a12 h12=>?_
  refine hK5 _ _ ?_
  refine wp_seq_k fun K13 hK13=>?_
  refine wp_seq_k fun K14 hK14=>?_
  refine rg h12 fun ops=>?_;clear h12 a12
  refine sm trivial rfl rfl ?_
  refine sn trivial rfl rfl ?_
  refine St.nil fun a15 h15=>?_
  refine hK14 _ _ ?_
  refine fr_false (t:=14) h15 rfl ?_
  refine wp_skip ?_
  refine hK13 _ _ ?_
  refine wp_seq_k fun K16 hK16=>?_
  refine wp_seq_k fun K17 hK17=>?_
  refine fr_region ?_
  intro ops hops
  have hg3:(ops[3]?).bind (fun o:Oper=>o.dst)=some 18:=hops 3
  have hg8:(ops[8]?).bind (fun o:Oper=>o.dst)=some 23:=hops 8
  have hg12:(ops[12]?).bind (fun o:Oper=>o.dst)=some 27:=hops 12
  have hg18:(ops[18]?).bind (fun o:Oper=>o.dst)=some 33:=hops 18
  have hg22:(ops[22]?).bind (fun o:Oper=>o.dst)=some 37:=hops 22
  have hg28:(ops[28]?).bind (fun o:Oper=>o.dst)=some 43:=hops 28
  have hg32:(ops[32]?).bind (fun o:Oper=>o.dst)=some 47:=hops 32
  have hg38:(ops[38]?).bind (fun o:Oper=>o.dst)=some 53:=hops 38
  have hg42:(ops[42]?).bind (fun o:Oper=>o.dst)=some 57:=hops 42
  have hg48:(ops[48]?).bind (fun o:Oper=>o.dst)=some 63:=hops 48
  have hg52:(ops[52]?).bind (fun o:Oper=>o.dst)=some 67:=hops 52
  have hg59:(ops[59]?).bind (fun o:Oper=>o.dst)=some 74:=hops 59
  have hg63:(ops[63]?).bind (fun o:Oper=>o.dst)=some 78:=hops 63
  clear hops
  refine cut_k 9 (fun a' w'=>(∃ d1:Bool,d1=(!fa && xa != 0)∧Fr 137 a' [(23,.bool d1),(1,.agg #[.int .i64 xop,.int .i64 xa,.int .i64 xb,.int .i64 xc,.int .i64 xk,.int .i64 xn,.slice ra rl rc,.slice aa al ac]),(0,.agg #[.slice am lm cm]),(2,.pointer (some ⟨B2,0,none⟩)),(3,.pointer (some ⟨B3,0,none⟩)),(4,.int .i64 0),(5,.pointer (some ⟨B10,0,none⟩)),(6,.bool true)])∧w11=w') (fun KC hKC=>?_) ?_
  ·refine St.go h15 ?_;clear h15 a15
   refine sfFields0 trivial rfl rfl ?_
   refine sbBool 0 hW11 trivial rfl rfl rfl rfl ?_
   refine sn trivial rfl rfl ?_
   refine sm trivial rfl rfl ?_
   intro a18 h18
   rcases Bool.eq_false_or_eq_true (!fa) with hb | hb
   ·rw [hb] at h18
    have hc19:fa=false:=by simpa using hb
    clear hb
    refine St.go h18 ?_;clear h18 a18
    refine sfIns1 ⟨_,hg3,rfl,rfl⟩ rfl rfl ?_
    refine sbInt 1 hW11 ⟨_,hg3,rfl,rfl⟩ rfl rfl rfl rfl ?_
    refine sne ⟨_,hg3,rfl,rfl⟩ rfl rfl rfl ?_
    refine sp trivial rfl rfl rfl ?_
    refine sm trivial rfl rfl ?_
    refine St.nil fun a20 h20=>?_
    exact hKC _ _ ⟨⟨xa != 0,by simp [hc19],(h20.keep (h20.keep (h20.keep (h20.keep (h20.keep (h20.keep (h20.keep (h20.keep h20.nil (t:=6) rfl) (t:=5) rfl) (t:=4) rfl) (t:=3) rfl) (t:=2) rfl) (t:=0) rfl) (t:=1) rfl) (t:=23) rfl)⟩,rfl⟩
   rw [hb] at h18
   have hc21:fa=true:=by simpa using hb
   clear hb
   refine St.go h18 ?_;clear h18 a18
   refine so hg3 rfl rfl rfl rfl ?_
   refine so hg3 rfl rfl rfl rfl ?_
   refine so hg3 rfl rfl rfl rfl ?_
   refine spf trivial rfl rfl rfl ?_
   refine sm trivial rfl rfl ?_
   refine St.nil fun a22 h22=>?_
   exact hKC _ _ ⟨⟨false,by simp [hc21],(h22.keep (h22.keep (h22.keep (h22.keep (h22.keep (h22.keep (h22.keep (h22.keep h22.nil (t:=6) rfl) (t:=5) rfl) (t:=4) rfl) (t:=3) rfl) (t:=2) rfl) (t:=0) rfl) (t:=1) rfl) (t:=23) rfl)⟩,rfl⟩
  ·clear h15;rintro a23 _ ⟨⟨d1,hdd1,h23⟩,rfl⟩;replace hdd1:Hid _:=hdd1
   refine cut_k 10 (fun a' w'=>(∃ d2:Bool,d2=(d1 || (!fb && xb != 0))∧Fr 137 a' [(33,.bool d2),(1,.agg #[.int .i64 xop,.int .i64 xa,.int .i64 xb,.int .i64 xc,.int .i64 xk,.int .i64 xn,.slice ra rl rc,.slice aa al ac]),(0,.agg #[.slice am lm cm]),(2,.pointer (some ⟨B2,0,none⟩)),(3,.pointer (some ⟨B3,0,none⟩)),(4,.int .i64 0),(5,.pointer (some ⟨B10,0,none⟩)),(6,.bool true)])∧w11=w') (fun KC hKC=>?_) ?_
   ·rcases Bool.eq_false_or_eq_true d1 with hb | hb
    ·rw [hb] at h23
     have hc24:=hb
     clear hb
     refine St.go h23 ?_;clear h23 a23
     refine so hg8 rfl rfl rfl rfl ?_
     refine so hg8 rfl rfl rfl rfl ?_
     refine so hg8 rfl rfl rfl rfl ?_
     refine so hg8 rfl rfl rfl rfl ?_
     refine so hg12 rfl rfl rfl rfl ?_
     refine so hg12 rfl rfl rfl rfl ?_
     refine so hg12 rfl rfl rfl rfl ?_
     refine so hg8 rfl rfl rfl rfl ?_
     refine sp trivial rfl rfl rfl ?_
     refine sm trivial rfl rfl ?_
     refine St.nil fun a25 h25=>?_
     exact hKC _ _ ⟨⟨true,by simp [hc24],(h25.keep (h25.keep (h25.keep (h25.keep (h25.keep (h25.keep (h25.keep (h25.keep h25.nil (t:=6) rfl) (t:=5) rfl) (t:=4) rfl) (t:=3) rfl) (t:=2) rfl) (t:=0) rfl) (t:=1) rfl) (t:=33) rfl)⟩,rfl⟩
    rw [hb] at h23
    have hc26:=hb
    clear hb
    refine St.go h23 ?_;clear h23 a23
    refine sfFields1 ⟨_,hg8,rfl,rfl⟩ rfl rfl ?_
    refine sbBool 0 hW11 ⟨_,hg8,rfl,rfl⟩ rfl rfl rfl rfl ?_
    refine sn ⟨_,hg8,rfl,rfl⟩ rfl rfl ?_
    refine sm ⟨_,hg8,rfl,rfl⟩ rfl rfl ?_
    intro a27 h27
    rcases Bool.eq_false_or_eq_true (!fb) with hb | hb
    ·rw [hb] at h27
     have hc28:fb=false:=by simpa using hb
     clear hb
     refine St.go h27 ?_;clear h27 a27
     refine sfIns2 ⟨_,hg12,rfl,rfl⟩ rfl rfl ?_
     refine sbInt 1 hW11 ⟨_,hg12,rfl,rfl⟩ rfl rfl rfl rfl ?_
     refine sne ⟨_,hg12,rfl,rfl⟩ rfl rfl rfl ?_
     refine sp ⟨_,hg8,rfl,rfl⟩ rfl rfl rfl ?_
     refine spf trivial rfl rfl rfl ?_
     refine sm trivial rfl rfl ?_
     refine St.nil fun a29 h29=>?_
     exact hKC _ _ ⟨⟨xb != 0,by simp [hc26,hc28],(h29.keep (h29.keep (h29.keep (h29.keep (h29.keep (h29.keep (h29.keep (h29.keep h29.nil (t:=6) rfl) (t:=5) rfl) (t:=4) rfl) (t:=3) rfl) (t:=2) rfl) (t:=0) rfl) (t:=1) rfl) (t:=33) rfl)⟩,rfl⟩
    rw [hb] at h27
    have hc30:fb=true:=by simpa using hb
    clear hb
    refine St.go h27 ?_;clear h27 a27
    refine so hg12 rfl rfl rfl rfl ?_
    refine so hg12 rfl rfl rfl rfl ?_
    refine so hg12 rfl rfl rfl rfl ?_
    refine spf ⟨_,hg8,rfl,rfl⟩ rfl rfl rfl ?_
    refine spf trivial rfl rfl rfl ?_
    refine sm trivial rfl rfl ?_
    refine St.nil fun a31 h31=>?_
    exact hKC _ _ ⟨⟨false,by simp [hc26,hc30],(h31.keep (h31.keep (h31.keep (h31.keep (h31.keep (h31.keep (h31.keep (h31.keep h31.nil (t:=6) rfl) (t:=5) rfl) (t:=4) rfl) (t:=3) rfl) (t:=2) rfl) (t:=0) rfl) (t:=1) rfl) (t:=33) rfl)⟩,rfl⟩
   ·clear h23;rintro a32 _ ⟨⟨d2,hdd2,h32⟩,rfl⟩;replace hdd2:Hid _:=hdd2
    refine cut_k 10 (fun a' w'=>(∃ d3:Bool,d3=(d2 || (!fc && xc != 0))∧Fr 137 a' [(43,.bool d3),(1,.agg #[.int .i64 xop,.int .i64 xa,.int .i64 xb,.int .i64 xc,.int .i64 xk,.int .i64 xn,.slice ra rl rc,.slice aa al ac]),(0,.agg #[.slice am lm cm]),(2,.pointer (some ⟨B2,0,none⟩)),(3,.pointer (some ⟨B3,0,none⟩)),(4,.int .i64 0),(5,.pointer (some ⟨B10,0,none⟩)),(6,.bool true)])∧w11=w') (fun KC hKC=>?_) ?_
    ·rcases Bool.eq_false_or_eq_true d2 with hb | hb
     ·rw [hb] at h32
      have hc33:=hb
      clear hb
      refine St.go h32 ?_;clear h32 a32
      refine so hg18 rfl rfl rfl rfl ?_
      refine so hg18 rfl rfl rfl rfl ?_
      refine so hg18 rfl rfl rfl rfl ?_
      refine so hg18 rfl rfl rfl rfl ?_
      refine so hg22 rfl rfl rfl rfl ?_
      refine so hg22 rfl rfl rfl rfl ?_
      refine so hg22 rfl rfl rfl rfl ?_
      refine so hg18 rfl rfl rfl rfl ?_
      refine sp trivial rfl rfl rfl ?_
      refine sm trivial rfl rfl ?_
      refine St.nil fun a34 h34=>?_
      exact hKC _ _ ⟨⟨true,by simp [hc33],(h34.keep (h34.keep (h34.keep (h34.keep (h34.keep (h34.keep (h34.keep (h34.keep h34.nil (t:=6) rfl) (t:=5) rfl) (t:=4) rfl) (t:=3) rfl) (t:=2) rfl) (t:=0) rfl) (t:=1) rfl) (t:=43) rfl)⟩,rfl⟩
     rw [hb] at h32
     have hc35:=hb
     clear hb
     refine St.go h32 ?_;clear h32 a32
     refine sfFields2 ⟨_,hg18,rfl,rfl⟩ rfl rfl ?_
     refine sbBool 0 hW11 ⟨_,hg18,rfl,rfl⟩ rfl rfl rfl rfl ?_
     refine sn ⟨_,hg18,rfl,rfl⟩ rfl rfl ?_
     refine sm ⟨_,hg18,rfl,rfl⟩ rfl rfl ?_
     intro a36 h36
     rcases Bool.eq_false_or_eq_true (!fc) with hb | hb
     ·rw [hb] at h36
      have hc37:fc=false:=by simpa using hb
      clear hb
      refine St.go h36 ?_;clear h36 a36
      refine sfIns3 ⟨_,hg22,rfl,rfl⟩ rfl rfl ?_
      refine sbInt 1 hW11 ⟨_,hg22,rfl,rfl⟩ rfl rfl rfl rfl ?_
      refine sne ⟨_,hg22,rfl,rfl⟩ rfl rfl rfl ?_
      refine sp ⟨_,hg18,rfl,rfl⟩ rfl rfl rfl ?_
      refine spf trivial rfl rfl rfl ?_
      refine sm trivial rfl rfl ?_
      refine St.nil fun a38 h38=>?_
      exact hKC _ _ ⟨⟨xc != 0,by simp [hc35,hc37],(h38.keep (h38.keep (h38.keep (h38.keep (h38.keep (h38.keep (h38.keep (h38.keep h38.nil (t:=6) rfl) (t:=5) rfl) (t:=4) rfl) (t:=3) rfl) (t:=2) rfl) (t:=0) rfl) (t:=1) rfl) (t:=43) rfl)⟩,rfl⟩
     rw [hb] at h36
     have hc39:fc=true:=by simpa using hb
     clear hb
     refine St.go h36 ?_;clear h36 a36
     refine so hg22 rfl rfl rfl rfl ?_
     refine so hg22 rfl rfl rfl rfl ?_
     refine so hg22 rfl rfl rfl rfl ?_
     refine spf ⟨_,hg18,rfl,rfl⟩ rfl rfl rfl ?_
     refine spf trivial rfl rfl rfl ?_
     refine sm trivial rfl rfl ?_
     refine St.nil fun a40 h40=>?_
     exact hKC _ _ ⟨⟨false,by simp [hc35,hc39],(h40.keep (h40.keep (h40.keep (h40.keep (h40.keep (h40.keep (h40.keep (h40.keep h40.nil (t:=6) rfl) (t:=5) rfl) (t:=4) rfl) (t:=3) rfl) (t:=2) rfl) (t:=0) rfl) (t:=1) rfl) (t:=43) rfl)⟩,rfl⟩
    ·clear h32;rintro a41 _ ⟨⟨d3,hdd3,h41⟩,rfl⟩;replace hdd3:Hid _:=hdd3
     refine cut_k 10 (fun a' w'=>(∃ d4:Bool,d4=(d3 || (!fk && xk != 0))∧Fr 137 a' [(53,.bool d4),(1,.agg #[.int .i64 xop,.int .i64 xa,.int .i64 xb,.int .i64 xc,.int .i64 xk,.int .i64 xn,.slice ra rl rc,.slice aa al ac]),(0,.agg #[.slice am lm cm]),(2,.pointer (some ⟨B2,0,none⟩)),(3,.pointer (some ⟨B3,0,none⟩)),(4,.int .i64 0),(5,.pointer (some ⟨B10,0,none⟩)),(6,.bool true)])∧w11=w') (fun KC hKC=>?_) ?_
     ·rcases Bool.eq_false_or_eq_true d3 with hb | hb
      ·rw [hb] at h41
       have hc42:=hb
       clear hb
       refine St.go h41 ?_;clear h41 a41
       refine so hg28 rfl rfl rfl rfl ?_
       refine so hg28 rfl rfl rfl rfl ?_
       refine so hg28 rfl rfl rfl rfl ?_
       refine so hg28 rfl rfl rfl rfl ?_
       refine so hg32 rfl rfl rfl rfl ?_
       refine so hg32 rfl rfl rfl rfl ?_
       refine so hg32 rfl rfl rfl rfl ?_
       refine so hg28 rfl rfl rfl rfl ?_
       refine sp trivial rfl rfl rfl ?_
       refine sm trivial rfl rfl ?_
       refine St.nil fun a43 h43=>?_
       exact hKC _ _ ⟨⟨true,by simp [hc42],(h43.keep (h43.keep (h43.keep (h43.keep (h43.keep (h43.keep (h43.keep (h43.keep h43.nil (t:=6) rfl) (t:=5) rfl) (t:=4) rfl) (t:=3) rfl) (t:=2) rfl) (t:=0) rfl) (t:=1) rfl) (t:=53) rfl)⟩,rfl⟩
      rw [hb] at h41
      have hc44:=hb
      clear hb
      refine St.go h41 ?_;clear h41 a41
      refine sfFields3 ⟨_,hg28,rfl,rfl⟩ rfl rfl ?_
      refine sbBool 0 hW11 ⟨_,hg28,rfl,rfl⟩ rfl rfl rfl rfl ?_
      refine sn ⟨_,hg28,rfl,rfl⟩ rfl rfl ?_
      refine sm ⟨_,hg28,rfl,rfl⟩ rfl rfl ?_
      intro a45 h45
      rcases Bool.eq_false_or_eq_true (!fk) with hb | hb
      ·rw [hb] at h45
       have hc46:fk=false:=by simpa using hb
       clear hb
       refine St.go h45 ?_;clear h45 a45
       refine sfIns4 ⟨_,hg32,rfl,rfl⟩ rfl rfl ?_
       refine sbInt 1 hW11 ⟨_,hg32,rfl,rfl⟩ rfl rfl rfl rfl ?_
       refine sne ⟨_,hg32,rfl,rfl⟩ rfl rfl rfl ?_
       refine sp ⟨_,hg28,rfl,rfl⟩ rfl rfl rfl ?_
       refine spf trivial rfl rfl rfl ?_
       refine sm trivial rfl rfl ?_
       refine St.nil fun a47 h47=>?_
       exact hKC _ _ ⟨⟨xk != 0,by simp [hc44,hc46],(h47.keep (h47.keep (h47.keep (h47.keep (h47.keep (h47.keep (h47.keep (h47.keep h47.nil (t:=6) rfl) (t:=5) rfl) (t:=4) rfl) (t:=3) rfl) (t:=2) rfl) (t:=0) rfl) (t:=1) rfl) (t:=53) rfl)⟩,rfl⟩
      rw [hb] at h45
      have hc48:fk=true:=by simpa using hb
      clear hb
      refine St.go h45 ?_;clear h45 a45
      refine so hg32 rfl rfl rfl rfl ?_
      refine so hg32 rfl rfl rfl rfl ?_
      refine so hg32 rfl rfl rfl rfl ?_
      refine spf ⟨_,hg28,rfl,rfl⟩ rfl rfl rfl ?_
      refine spf trivial rfl rfl rfl ?_
      refine sm trivial rfl rfl ?_
      refine St.nil fun a49 h49=>?_
      exact hKC _ _ ⟨⟨false,by simp [hc44,hc48],(h49.keep (h49.keep (h49.keep (h49.keep (h49.keep (h49.keep (h49.keep (h49.keep h49.nil (t:=6) rfl) (t:=5) rfl) (t:=4) rfl) (t:=3) rfl) (t:=2) rfl) (t:=0) rfl) (t:=1) rfl) (t:=53) rfl)⟩,rfl⟩
     ·clear h41;rintro a50 _ ⟨⟨d4,hdd4,h50⟩,rfl⟩;replace hdd4:Hid _:=hdd4
      refine cut_k 10 (fun a' w'=>(∃ d5:Bool,d5=(d4 || (!fn && xn != 0))∧Fr 137 a' [(63,.bool d5),(1,.agg #[.int .i64 xop,.int .i64 xa,.int .i64 xb,.int .i64 xc,.int .i64 xk,.int .i64 xn,.slice ra rl rc,.slice aa al ac]),(0,.agg #[.slice am lm cm]),(2,.pointer (some ⟨B2,0,none⟩)),(3,.pointer (some ⟨B3,0,none⟩)),(4,.int .i64 0),(5,.pointer (some ⟨B10,0,none⟩)),(6,.bool true)])∧w11=w') (fun KC hKC=>?_) ?_
      ·rcases Bool.eq_false_or_eq_true d4 with hb | hb
       ·rw [hb] at h50
        have hc51:=hb
        clear hb
        refine St.go h50 ?_;clear h50 a50
        refine so hg38 rfl rfl rfl rfl ?_
        refine so hg38 rfl rfl rfl rfl ?_
        refine so hg38 rfl rfl rfl rfl ?_
        refine so hg38 rfl rfl rfl rfl ?_
        refine so hg42 rfl rfl rfl rfl ?_
        refine so hg42 rfl rfl rfl rfl ?_
        refine so hg42 rfl rfl rfl rfl ?_
        refine so hg38 rfl rfl rfl rfl ?_
        refine sp trivial rfl rfl rfl ?_
        refine sm trivial rfl rfl ?_
        refine St.nil fun a52 h52=>?_
        exact hKC _ _ ⟨⟨true,by simp [hc51],(h52.keep (h52.keep (h52.keep (h52.keep (h52.keep (h52.keep (h52.keep (h52.keep h52.nil (t:=6) rfl) (t:=5) rfl) (t:=4) rfl) (t:=3) rfl) (t:=2) rfl) (t:=0) rfl) (t:=1) rfl) (t:=63) rfl)⟩,rfl⟩
       rw [hb] at h50
       have hc53:=hb
       clear hb
       refine St.go h50 ?_;clear h50 a50
       refine sfFields4 ⟨_,hg38,rfl,rfl⟩ rfl rfl ?_
       refine sbBool 0 hW11 ⟨_,hg38,rfl,rfl⟩ rfl rfl rfl rfl ?_
       refine sn ⟨_,hg38,rfl,rfl⟩ rfl rfl ?_
       refine sm ⟨_,hg38,rfl,rfl⟩ rfl rfl ?_
       intro a54 h54
       rcases Bool.eq_false_or_eq_true (!fn) with hb | hb
       ·rw [hb] at h54
        have hc55:fn=false:=by simpa using hb
        clear hb
        refine St.go h54 ?_;clear h54 a54
        refine sfIns5 ⟨_,hg42,rfl,rfl⟩ rfl rfl ?_
        refine sbInt6 1 hW11 ⟨_,hg42,rfl,rfl⟩ rfl rfl rfl rfl ?_
        refine sne6 ⟨_,hg42,rfl,rfl⟩ rfl rfl rfl ?_
        refine sp ⟨_,hg38,rfl,rfl⟩ rfl rfl rfl ?_
        refine spf trivial rfl rfl rfl ?_
        refine sm trivial rfl rfl ?_
        refine St.nil fun a56 h56=>?_
        exact hKC _ _ ⟨⟨xn != 0,by simp [hc53,hc55],(h56.keep (h56.keep (h56.keep (h56.keep (h56.keep (h56.keep (h56.keep (h56.keep h56.nil (t:=6) rfl) (t:=5) rfl) (t:=4) rfl) (t:=3) rfl) (t:=2) rfl) (t:=0) rfl) (t:=1) rfl) (t:=63) rfl)⟩,rfl⟩
       rw [hb] at h54
       have hc57:fn=true:=by simpa using hb
       clear hb
       refine St.go h54 ?_;clear h54 a54
       refine so hg42 rfl rfl rfl rfl ?_
       refine so hg42 rfl rfl rfl rfl ?_
       refine so hg42 rfl rfl rfl rfl ?_
       refine spf ⟨_,hg38,rfl,rfl⟩ rfl rfl rfl ?_
       refine spf trivial rfl rfl rfl ?_
       refine sm trivial rfl rfl ?_
       refine St.nil fun a58 h58=>?_
       exact hKC _ _ ⟨⟨false,by simp [hc53,hc57],(h58.keep (h58.keep (h58.keep (h58.keep (h58.keep (h58.keep (h58.keep (h58.keep h58.nil (t:=6) rfl) (t:=5) rfl) (t:=4) rfl) (t:=3) rfl) (t:=2) rfl) (t:=0) rfl) (t:=1) rfl) (t:=63) rfl)⟩,rfl⟩
      ·clear h50;rintro a59 _ ⟨⟨d5,hdd5,h59⟩,rfl⟩;replace hdd5:Hid _:=hdd5
       refine cut_k 11 (fun a' w'=>(∃ d6:Bool,d6=(d5 || (!fr && decide ((0:Int)<(rl:Int))))∧Fr 137 a' [(74,.bool d6),(1,.agg #[.int .i64 xop,.int .i64 xa,.int .i64 xb,.int .i64 xc,.int .i64 xk,.int .i64 xn,.slice ra rl rc,.slice aa al ac]),(0,.agg #[.slice am lm cm]),(2,.pointer (some ⟨B2,0,none⟩)),(3,.pointer (some ⟨B3,0,none⟩)),(4,.int .i64 0),(5,.pointer (some ⟨B10,0,none⟩)),(6,.bool true)])∧w11=w') (fun KC hKC=>?_) ?_
       ·rcases Bool.eq_false_or_eq_true d5 with hb | hb
        ·rw [hb] at h59
         have hc60:=hb
         clear hb
         refine St.go h59 ?_;clear h59 a59
         refine so hg48 rfl rfl rfl rfl ?_
         refine so hg48 rfl rfl rfl rfl ?_
         refine so hg48 rfl rfl rfl rfl ?_
         refine so hg48 rfl rfl rfl rfl ?_
         refine so hg52 rfl rfl rfl rfl ?_
         refine so hg52 rfl rfl rfl rfl ?_
         refine so hg52 rfl rfl rfl rfl ?_
         refine so hg52 rfl rfl rfl rfl ?_
         refine so hg48 rfl rfl rfl rfl ?_
         refine sp trivial rfl rfl rfl ?_
         refine sm trivial rfl rfl ?_
         refine St.nil fun a61 h61=>?_
         exact hKC _ _ ⟨⟨true,by simp [hc60],(h61.keep (h61.keep (h61.keep (h61.keep (h61.keep (h61.keep (h61.keep (h61.keep h61.nil (t:=6) rfl) (t:=5) rfl) (t:=4) rfl) (t:=3) rfl) (t:=2) rfl) (t:=0) rfl) (t:=1) rfl) (t:=74) rfl)⟩,rfl⟩
        rw [hb] at h59
        have hc62:=hb
        clear hb
        refine St.go h59 ?_;clear h59 a59
        refine sfFields5 ⟨_,hg48,rfl,rfl⟩ rfl rfl ?_
        refine sbBool 0 hW11 ⟨_,hg48,rfl,rfl⟩ rfl rfl rfl rfl ?_
        refine sn ⟨_,hg48,rfl,rfl⟩ rfl rfl ?_
        refine sm ⟨_,hg48,rfl,rfl⟩ rfl rfl ?_
        intro a63 h63
        rcases Bool.eq_false_or_eq_true (!fr) with hb | hb
        ·rw [hb] at h63
         have hc64:fr=false:=by simpa using hb
         clear hb
         refine St.go h63 ?_;clear h63 a63
         refine sfIns6 ⟨_,hg52,rfl,rfl⟩ rfl rfl ?_
         refine sbInts 1 hW11 ⟨_,hg52,rfl,rfl⟩ rfl rfl rfl rfl ?_
         refine slInts ⟨_,hg52,rfl,rfl⟩ rfl rfl ?_
         refine sgt ⟨_,hg52,rfl,rfl⟩ rfl rfl rfl ?_
         refine sp ⟨_,hg48,rfl,rfl⟩ rfl rfl rfl ?_
         refine spf trivial rfl rfl rfl ?_
         refine sm trivial rfl rfl ?_
         refine St.nil fun a65 h65=>?_
         exact hKC _ _ ⟨⟨decide (0<(rl:Int)),by simp [hc62,hc64],(h65.keep (h65.keep (h65.keep (h65.keep (h65.keep (h65.keep (h65.keep (h65.keep h65.nil (t:=6) rfl) (t:=5) rfl) (t:=4) rfl) (t:=3) rfl) (t:=2) rfl) (t:=0) rfl) (t:=1) rfl) (t:=74) rfl)⟩,rfl⟩
        rw [hb] at h63
        have hc66:fr=true:=by simpa using hb
        clear hb
        refine St.go h63 ?_;clear h63 a63
        refine so hg52 rfl rfl rfl rfl ?_
        refine so hg52 rfl rfl rfl rfl ?_
        refine so hg52 rfl rfl rfl rfl ?_
        refine so hg52 rfl rfl rfl rfl ?_
        refine spf ⟨_,hg48,rfl,rfl⟩ rfl rfl rfl ?_
        refine spf trivial rfl rfl rfl ?_
        refine sm trivial rfl rfl ?_
        refine St.nil fun a67 h67=>?_
        exact hKC _ _ ⟨⟨false,by simp [hc62,hc66],(h67.keep (h67.keep (h67.keep (h67.keep (h67.keep (h67.keep (h67.keep (h67.keep h67.nil (t:=6) rfl) (t:=5) rfl) (t:=4) rfl) (t:=3) rfl) (t:=2) rfl) (t:=0) rfl) (t:=1) rfl) (t:=74) rfl)⟩,rfl⟩
       ·clear h59;rintro a68 _ ⟨⟨d6,hdd6,h68⟩,rfl⟩;replace hdd6:Hid _:=hdd6
        refine cut_k 10 (fun a' w'=>(∃ d7:Bool,d7=(d6 || (!fs && decide ((0:Int)<(al:Int))))∧Fr 137 a' [(84,.bool d7),(1,.agg #[.int .i64 xop,.int .i64 xa,.int .i64 xb,.int .i64 xc,.int .i64 xk,.int .i64 xn,.slice ra rl rc,.slice aa al ac]),(0,.agg #[.slice am lm cm]),(2,.pointer (some ⟨B2,0,none⟩)),(3,.pointer (some ⟨B3,0,none⟩)),(4,.int .i64 0),(5,.pointer (some ⟨B10,0,none⟩)),(6,.bool true)])∧w11=w') (fun KC hKC=>?_) ?_
        ·rcases Bool.eq_false_or_eq_true d6 with hb | hb
         ·rw [hb] at h68
          have hc69:=hb
          clear hb
          refine St.go h68 ?_;clear h68 a68
          refine so hg59 rfl rfl rfl rfl ?_
          refine so hg59 rfl rfl rfl rfl ?_
          refine so hg59 rfl rfl rfl rfl ?_
          refine so hg59 rfl rfl rfl rfl ?_
          refine so hg63 rfl rfl rfl rfl ?_
          refine so hg63 rfl rfl rfl rfl ?_
          refine so hg63 rfl rfl rfl rfl ?_
          refine so hg63 rfl rfl rfl rfl ?_
          refine so hg59 rfl rfl rfl rfl ?_
          refine sp trivial rfl rfl rfl ?_
          refine St.nil fun a70 h70=>?_
          exact hKC _ _ ⟨⟨true,by simp [hc69],(h70.keep (h70.keep (h70.keep (h70.keep (h70.keep (h70.keep (h70.keep (h70.keep h70.nil (t:=6) rfl) (t:=5) rfl) (t:=4) rfl) (t:=3) rfl) (t:=2) rfl) (t:=0) rfl) (t:=1) rfl) (t:=84) rfl)⟩,rfl⟩
         rw [hb] at h68
         have hc71:=hb
         clear hb
         refine St.go h68 ?_;clear h68 a68
         refine sfFields6 ⟨_,hg59,rfl,rfl⟩ rfl rfl ?_
         refine sbBool 0 hW11 ⟨_,hg59,rfl,rfl⟩ rfl rfl rfl rfl ?_
         refine sn ⟨_,hg59,rfl,rfl⟩ rfl rfl ?_
         refine sm ⟨_,hg59,rfl,rfl⟩ rfl rfl ?_
         intro a72 h72
         rcases Bool.eq_false_or_eq_true (!fs) with hb | hb
         ·rw [hb] at h72
          have hc73:fs=false:=by simpa using hb
          clear hb
          refine St.go h72 ?_;clear h72 a72
          refine sfIns7 ⟨_,hg63,rfl,rfl⟩ rfl rfl ?_
          refine sbInts 1 hW11 ⟨_,hg63,rfl,rfl⟩ rfl rfl rfl rfl ?_
          refine slInts ⟨_,hg63,rfl,rfl⟩ rfl rfl ?_
          refine sgt ⟨_,hg63,rfl,rfl⟩ rfl rfl rfl ?_
          refine sp ⟨_,hg59,rfl,rfl⟩ rfl rfl rfl ?_
          refine spf trivial rfl rfl rfl ?_
          refine St.nil fun a74 h74=>?_
          exact hKC _ _ ⟨⟨decide (0<(al:Int)),by simp [hc71,hc73],(h74.keep (h74.keep (h74.keep (h74.keep (h74.keep (h74.keep (h74.keep (h74.keep h74.nil (t:=6) rfl) (t:=5) rfl) (t:=4) rfl) (t:=3) rfl) (t:=2) rfl) (t:=0) rfl) (t:=1) rfl) (t:=84) rfl)⟩,rfl⟩
         rw [hb] at h72
         have hc75:fs=true:=by simpa using hb
         clear hb
         refine St.go h72 ?_;clear h72 a72
         refine so hg63 rfl rfl rfl rfl ?_
         refine so hg63 rfl rfl rfl rfl ?_
         refine so hg63 rfl rfl rfl rfl ?_
         refine so hg63 rfl rfl rfl rfl ?_
         refine spf ⟨_,hg59,rfl,rfl⟩ rfl rfl rfl ?_
         refine spf trivial rfl rfl rfl ?_
         refine St.nil fun a76 h76=>?_
         exact hKC _ _ ⟨⟨false,by simp [hc71,hc75],(h76.keep (h76.keep (h76.keep (h76.keep (h76.keep (h76.keep (h76.keep (h76.keep h76.nil (t:=6) rfl) (t:=5) rfl) (t:=4) rfl) (t:=3) rfl) (t:=2) rfl) (t:=0) rfl) (t:=1) rfl) (t:=84) rfl)⟩,rfl⟩
        ·clear h68;rintro a77 _ ⟨⟨d7,hdd7,h77⟩,rfl⟩;replace hdd7:Hid _:=hdd7
         refine wpList_nil ?_
         refine hK17 _ _ ?_
         refine fr_cond (t:=84) h77 rfl (fun hb=>?_) (fun hb=>?_)
         ·have hc78:=hb
          clear hb
          refine wp_seq_k fun K79 hK79=>?_
          refine rg h77 fun ops=>?_;clear h77 a77
          refine sa trivial rfl rfl ?_
          refine St.nil fun a80 h80=>?_
          refine hK79 _ _ ?_
          refine wp_ret ?_;with_reducible repeat first | refine of_then_ret ?_ | refine of_block_ret ?_
          have e7:=insForm_d hop hdd1.out hdd2.out hdd3.out hdd4.out hdd5.out hdd6.out hdd7.out (lm:=lm)
          have R:insForm lm xop xa xb xc xk xn rl al=4:=by rw [e7];simp [hc78]
          exact ret_tmp (t:=4) h80 rfl rfl ⟨by rw [R],hW11.bel⟩
         have hc81:=hb
         clear hb
         refine wp_skip ?_
         refine hK16 _ _ ?_
         refine wp_seq_k fun K82 hK82=>?_
         refine wp_seq_k fun K83 hK83=>?_
         refine rg h77 fun ops=>?_;clear h77 a77
         refine sfIns0 trivial rfl rfl ?_
         refine sbInt 1 hW11 trivial rfl rfl rfl rfl ?_
         refine St.nil fun a84 h84=>?_
         refine hK83 _ _ ?_
         refine wp_block ?_
         refine wp_seq_k fun K85 hK85=>?_
         refine rg h84 fun ops=>?_;clear h84 a84
         refine seq trivial rfl rfl rfl ?_
         refine sa trivial rfl rfl ?_
         refine St.nil fun a86 h86=>?_
         refine hK85 _ _ ?_
         refine fr_cond (t:=87) h86 rfl (fun hb=>?_) (fun hb=>?_)
         ·have h9:xop=2:=eq_of_beq hb
          have hc87:Hid (xop=2):=h9
          clear h9
          clear hb
          refine wp_seq_k fun K88 hK88=>?_
          refine fr_region ?_
          intro ops hops
          have hg3:(ops[3]?).bind (fun o:Oper=>o.dst)=some 92:=hops 3
          clear hops
          refine St.go h86 ?_;clear h86 a86
          refine sfIns4 trivial rfl rfl ?_
          refine sbInt 1 hW11 trivial rfl rfl rfl rfl ?_
          refine slt trivial rfl rfl rfl ?_
          refine sm trivial rfl rfl ?_
          intro a89 h89
          rcases Bool.eq_false_or_eq_true (decide (xk<1)) with hb | hb
          ·rw [hb] at h89
           have hc90:xk<1:=of_decide_eq_true hb
           clear hb
           refine St.go h89 ?_;clear h89 a89
           refine so hg3 rfl rfl rfl rfl ?_
           refine so hg3 rfl rfl rfl rfl ?_
           refine so hg3 rfl rfl rfl rfl ?_
           refine sp trivial rfl rfl rfl ?_
           refine St.nil fun a91 h91=>?_
           refine hK88 _ _ ?_
           refine fr_true (t:=96) h91 rfl ?_
           refine wp_seq_k fun K92 hK92=>?_
           refine rg h91 fun ops=>?_;clear h91 a91
           refine sa trivial rfl rfl ?_
           refine St.nil fun a93 h93=>?_
           refine hK92 _ _ ?_
           refine wp_ret ?_;with_reducible repeat first | refine of_then_ret ?_ | refine of_block_ret ?_
           have e7:=insForm_d hop hdd1.out hdd2.out hdd3.out hdd4.out hdd5.out hdd6.out hdd7.out (lm:=lm)
           have R:insForm lm xop xa xb xc xk xn rl al=1:=by rw [e7];simp [hc81,hc87.out,hc90]
           exact ret_tmp (t:=4) h93 rfl rfl ⟨by rw [R],hW11.bel⟩
          rw [hb] at h89
          have hc94:¬ (xk<1):=of_decide_eq_false hb
          clear hb
          refine St.go h89 ?_;clear h89 a89
          refine sfIns4 ⟨_,hg3,rfl,rfl⟩ rfl rfl ?_
          refine sbInt 1 hW11 ⟨_,hg3,rfl,rfl⟩ rfl rfl rfl rfl ?_
          refine sgt ⟨_,hg3,rfl,rfl⟩ rfl rfl rfl ?_
          refine spf trivial rfl rfl rfl ?_
          refine St.nil fun a95 h95=>?_
          refine hK88 _ _ ?_
          refine fr_cond (t:=96) h95 rfl (fun hb=>?_) (fun hb=>?_)
          ·have hc96:9<xk:=of_decide_eq_true hb
           clear hb
           refine wp_seq_k fun K97 hK97=>?_
           refine rg h95 fun ops=>?_;clear h95 a95
           refine sa trivial rfl rfl ?_
           refine St.nil fun a98 h98=>?_
           refine hK97 _ _ ?_
           refine wp_ret ?_;with_reducible repeat first | refine of_then_ret ?_ | refine of_block_ret ?_
           have e7:=insForm_d hop hdd1.out hdd2.out hdd3.out hdd4.out hdd5.out hdd6.out hdd7.out (lm:=lm)
           have R:insForm lm xop xa xb xc xk xn rl al=1:=by rw [e7];simp [hc81,hc87.out,hc94,hc96]
           exact ret_tmp (t:=4) h98 rfl rfl ⟨by rw [R],hW11.bel⟩
          have hc99:¬ (9<xk):=of_decide_eq_false hb
          clear hb
          refine wp_skip ?_
          refine hK82 _ _ ?_
          refine wp_seq_k fun K100 hK100=>?_
          refine rg h95 fun ops=>?_;clear h95 a95
          refine sa trivial rfl rfl ?_
          refine St.nil fun a101 h101=>?_
          refine hK100 _ _ ?_
          refine wp_ret ?_;with_reducible repeat first | refine of_then_ret ?_ | refine of_block_ret ?_
          have e7:=insForm_d hop hdd1.out hdd2.out hdd3.out hdd4.out hdd5.out hdd6.out hdd7.out (lm:=lm)
          have R:insForm lm xop xa xb xc xk xn rl al=0:=by rw [e7];simp [hc81,hc87.out,hc94,hc99]
          exact ret_tmp (t:=4) h101 rfl rfl ⟨by rw [R],hW11.bel⟩
         have h9:¬ xop=2:=ne_of_beq_false hb
         have hc102:¬ xop=2:=h9
         clear h9
         clear hb
         refine wp_seq_k fun K103 hK103=>?_
         refine rg h86 fun ops=>?_;clear h86 a86
         refine seq trivial rfl rfl rfl ?_
         refine sa trivial rfl rfl ?_
         refine St.nil fun a104 h104=>?_
         refine hK103 _ _ ?_
         refine fr_cond (t:=97) h104 rfl (fun hb=>?_) (fun hb=>?_)
         ·have h9:xop=5:=eq_of_beq hb
          have hc105:Hid (xop=5):=h9
          clear h9
          clear hb
          refine wp_seq_k fun K106 hK106=>?_
          refine rg h104 fun ops=>?_;clear h104 a104
          refine sfIns7 trivial rfl rfl ?_
          refine sbInts 1 hW11 trivial rfl rfl rfl rfl ?_
          refine slInts trivial rfl rfl ?_
          refine sgt trivial rfl rfl rfl ?_
          refine St.nil fun a107 h107=>?_
          refine hK106 _ _ ?_
          refine fr_cond (t:=102) h107 rfl (fun hb=>?_) (fun hb=>?_)
          ·have hc108:8<al:=by have:=of_decide_eq_true hb;omega
           clear hb
           refine wp_seq_k fun K109 hK109=>?_
           refine rg h107 fun ops=>?_;clear h107 a107
           refine sa trivial rfl rfl ?_
           refine St.nil fun a110 h110=>?_
           refine hK109 _ _ ?_
           refine wp_ret ?_;with_reducible repeat first | refine of_then_ret ?_ | refine of_block_ret ?_
           have e7:=insForm_d hop hdd1.out hdd2.out hdd3.out hdd4.out hdd5.out hdd6.out hdd7.out (lm:=lm)
           have R:insForm lm xop xa xb xc xk xn rl al=2:=by rw [e7];simp [hc81,hc102,hc105.out,hc108]
           exact ret_tmp (t:=4) h110 rfl rfl ⟨by rw [R],hW11.bel⟩
          have hc111:¬ (8<al):=by have:=of_decide_eq_false hb;omega
          clear hb
          refine wp_skip ?_
          refine hK82 _ _ ?_
          refine wp_seq_k fun K112 hK112=>?_
          refine rg h107 fun ops=>?_;clear h107 a107
          refine sa trivial rfl rfl ?_
          refine St.nil fun a113 h113=>?_
          refine hK112 _ _ ?_
          refine wp_ret ?_;with_reducible repeat first | refine of_then_ret ?_ | refine of_block_ret ?_
          have e7:=insForm_d hop hdd1.out hdd2.out hdd3.out hdd4.out hdd5.out hdd6.out hdd7.out (lm:=lm)
          have R:insForm lm xop xa xb xc xk xn rl al=0:=by rw [e7];simp [hc81,hc102,hc105.out,hc111]
          exact ret_tmp (t:=4) h113 rfl rfl ⟨by rw [R],hW11.bel⟩
         have h9:¬ xop=5:=ne_of_beq_false hb
         have hc114:¬ xop=5:=h9
         clear h9
         clear hb
         refine wp_seq_k fun K115 hK115=>?_
         refine wp_seq_k fun K116 hK116=>?_
         refine rg h104 fun ops=>?_;clear h104 a104
         refine seq trivial rfl rfl rfl ?_
         refine sa trivial rfl rfl ?_
         refine St.nil fun a117 h117=>?_
         refine hK116 _ _ ?_
         refine fr_cond (t:=103) h117 rfl (fun hb=>?_) (fun hb=>?_)
         ·rw [hb] at h117
          have h9:xop=6:=eq_of_beq hb
          have hc118:Hid (xop=6):=h9
          clear h9
          clear hb
          refine wp_skip ?_
          refine hK115 _ _ ?_
          refine fr_true (t:=103) h117 rfl ?_
          refine wp_seq_k fun K119 hK119=>?_
          refine fr_region ?_
          intro ops hops
          have hg3:(ops[3]?).bind (fun o:Oper=>o.dst)=some 109:=hops 3
          clear hops
          refine St.go h117 ?_;clear h117 a117
          refine sfIns4 trivial rfl rfl ?_
          refine sbInt 1 hW11 trivial rfl rfl rfl rfl ?_
          refine slt trivial rfl rfl rfl ?_
          refine sm trivial rfl rfl ?_
          intro a120 h120
          rcases Bool.eq_false_or_eq_true (decide (xk<0)) with hb | hb
          ·rw [hb] at h120
           have hc121:xk<0:=of_decide_eq_true hb
           clear hb
           refine St.go h120 ?_;clear h120 a120
           refine so hg3 rfl rfl rfl rfl ?_
           refine so hg3 rfl rfl rfl rfl ?_
           refine so hg3 rfl rfl rfl rfl ?_
           refine sp trivial rfl rfl rfl ?_
           refine St.nil fun a122 h122=>?_
           refine hK119 _ _ ?_
           refine fr_true (t:=113) h122 rfl ?_
           refine wp_seq_k fun K123 hK123=>?_
           refine rg h122 fun ops=>?_;clear h122 a122
           refine sa trivial rfl rfl ?_
           refine St.nil fun a124 h124=>?_
           refine hK123 _ _ ?_
           refine wp_ret ?_;with_reducible repeat first | refine of_then_ret ?_ | refine of_block_ret ?_
           have e7:=insForm_d hop hdd1.out hdd2.out hdd3.out hdd4.out hdd5.out hdd6.out hdd7.out (lm:=lm)
           have R:insForm lm xop xa xb xc xk xn rl al=1:=by rw [e7];simp [hc81,hc102,hc114,hc118.out,hc121]
           exact ret_tmp (t:=4) h124 rfl rfl ⟨by rw [R],hW11.bel⟩
          rw [hb] at h120
          have hc125:¬ (xk<0):=of_decide_eq_false hb
          clear hb
          refine St.go h120 ?_;clear h120 a120
          refine sfIns4 ⟨_,hg3,rfl,rfl⟩ rfl rfl ?_
          refine sbInt 1 hW11 ⟨_,hg3,rfl,rfl⟩ rfl rfl rfl rfl ?_
          refine sgt ⟨_,hg3,rfl,rfl⟩ rfl rfl rfl ?_
          refine spf trivial rfl rfl rfl ?_
          refine St.nil fun a126 h126=>?_
          refine hK119 _ _ ?_
          refine fr_cond (t:=113) h126 rfl (fun hb=>?_) (fun hb=>?_)
          ·have hc127:7<xk:=of_decide_eq_true hb
           clear hb
           refine wp_seq_k fun K128 hK128=>?_
           refine rg h126 fun ops=>?_;clear h126 a126
           refine sa trivial rfl rfl ?_
           refine St.nil fun a129 h129=>?_
           refine hK128 _ _ ?_
           refine wp_ret ?_;with_reducible repeat first | refine of_then_ret ?_ | refine of_block_ret ?_
           have e7:=insForm_d hop hdd1.out hdd2.out hdd3.out hdd4.out hdd5.out hdd6.out hdd7.out (lm:=lm)
           have R:insForm lm xop xa xb xc xk xn rl al=1:=by rw [e7];simp [hc81,hc102,hc114,hc118.out,hc125,hc127]
           exact ret_tmp (t:=4) h129 rfl rfl ⟨by rw [R],hW11.bel⟩
          have hc130:¬ (7<xk):=of_decide_eq_false hb
          clear hb
          refine wp_skip ?_
          refine hK82 _ _ ?_
          refine wp_seq_k fun K131 hK131=>?_
          refine rg h126 fun ops=>?_;clear h126 a126
          refine sa trivial rfl rfl ?_
          refine St.nil fun a132 h132=>?_
          refine hK131 _ _ ?_
          refine wp_ret ?_;with_reducible repeat first | refine of_then_ret ?_ | refine of_block_ret ?_
          have e7:=insForm_d hop hdd1.out hdd2.out hdd3.out hdd4.out hdd5.out hdd6.out hdd7.out (lm:=lm)
          have R:insForm lm xop xa xb xc xk xn rl al=0:=by rw [e7];simp [hc81,hc102,hc114,hc118.out,hc125,hc130]
          exact ret_tmp (t:=4) h132 rfl rfl ⟨by rw [R],hW11.bel⟩
         rw [hb] at h117
         have h9:¬ xop=6:=ne_of_beq_false hb
         have hc133:¬ xop=6:=h9
         clear h9
         clear hb
         refine rg h117 fun ops=>?_;clear h117 a117
         refine seq trivial rfl rfl rfl ?_
         refine sa trivial rfl rfl ?_
         refine St.nil fun a134 h134=>?_
         refine hK115 _ _ ?_
         refine fr_cond (t:=103) h134 rfl (fun hb=>?_) (fun hb=>?_)
         ·rw [hb] at h134
          have h9:xop=7:=eq_of_beq hb
          have hc135:Hid (xop=7):=h9
          clear h9
          clear hb
          refine wp_seq_k fun K136 hK136=>?_
          refine fr_region ?_
          intro ops hops
          have hg3:(ops[3]?).bind (fun o:Oper=>o.dst)=some 109:=hops 3
          clear hops
          refine St.go h134 ?_;clear h134 a134
          refine sfIns4 trivial rfl rfl ?_
          refine sbInt 1 hW11 trivial rfl rfl rfl rfl ?_
          refine slt trivial rfl rfl rfl ?_
          refine sm trivial rfl rfl ?_
          intro a137 h137
          rcases Bool.eq_false_or_eq_true (decide (xk<0)) with hb | hb
          ·rw [hb] at h137
           have hc138:xk<0:=of_decide_eq_true hb
           clear hb
           refine St.go h137 ?_;clear h137 a137
           refine so hg3 rfl rfl rfl rfl ?_
           refine so hg3 rfl rfl rfl rfl ?_
           refine so hg3 rfl rfl rfl rfl ?_
           refine sp trivial rfl rfl rfl ?_
           refine St.nil fun a139 h139=>?_
           refine hK136 _ _ ?_
           refine fr_true (t:=113) h139 rfl ?_
           refine wp_seq_k fun K140 hK140=>?_
           refine rg h139 fun ops=>?_;clear h139 a139
           refine sa trivial rfl rfl ?_
           refine St.nil fun a141 h141=>?_
           refine hK140 _ _ ?_
           refine wp_ret ?_;with_reducible repeat first | refine of_then_ret ?_ | refine of_block_ret ?_
           have e7:=insForm_d hop hdd1.out hdd2.out hdd3.out hdd4.out hdd5.out hdd6.out hdd7.out (lm:=lm)
           have R:insForm lm xop xa xb xc xk xn rl al=1:=by rw [e7];simp [hc81,hc102,hc114,hc133,hc135.out,hc138]
           exact ret_tmp (t:=4) h141 rfl rfl ⟨by rw [R],hW11.bel⟩
          rw [hb] at h137
          have hc142:¬ (xk<0):=of_decide_eq_false hb
          clear hb
          refine St.go h137 ?_;clear h137 a137
          refine sfIns4 ⟨_,hg3,rfl,rfl⟩ rfl rfl ?_
          refine sbInt 1 hW11 ⟨_,hg3,rfl,rfl⟩ rfl rfl rfl rfl ?_
          refine sgt ⟨_,hg3,rfl,rfl⟩ rfl rfl rfl ?_
          refine spf trivial rfl rfl rfl ?_
          refine St.nil fun a143 h143=>?_
          refine hK136 _ _ ?_
          refine fr_cond (t:=113) h143 rfl (fun hb=>?_) (fun hb=>?_)
          ·have hc144:7<xk:=of_decide_eq_true hb
           clear hb
           refine wp_seq_k fun K145 hK145=>?_
           refine rg h143 fun ops=>?_;clear h143 a143
           refine sa trivial rfl rfl ?_
           refine St.nil fun a146 h146=>?_
           refine hK145 _ _ ?_
           refine wp_ret ?_;with_reducible repeat first | refine of_then_ret ?_ | refine of_block_ret ?_
           have e7:=insForm_d hop hdd1.out hdd2.out hdd3.out hdd4.out hdd5.out hdd6.out hdd7.out (lm:=lm)
           have R:insForm lm xop xa xb xc xk xn rl al=1:=by rw [e7];simp [hc81,hc102,hc114,hc133,hc135.out,hc142,hc144]
           exact ret_tmp (t:=4) h146 rfl rfl ⟨by rw [R],hW11.bel⟩
          have hc147:¬ (7<xk):=of_decide_eq_false hb
          clear hb
          refine wp_skip ?_
          refine hK82 _ _ ?_
          refine wp_seq_k fun K148 hK148=>?_
          refine rg h143 fun ops=>?_;clear h143 a143
          refine sa trivial rfl rfl ?_
          refine St.nil fun a149 h149=>?_
          refine hK148 _ _ ?_
          refine wp_ret ?_;with_reducible repeat first | refine of_then_ret ?_ | refine of_block_ret ?_
          have e7:=insForm_d hop hdd1.out hdd2.out hdd3.out hdd4.out hdd5.out hdd6.out hdd7.out (lm:=lm)
          have R:insForm lm xop xa xb xc xk xn rl al=0:=by rw [e7];simp [hc81,hc102,hc114,hc133,hc135.out,hc142,hc147]
          exact ret_tmp (t:=4) h149 rfl rfl ⟨by rw [R],hW11.bel⟩
         rw [hb] at h134
         have h9:¬ xop=7:=ne_of_beq_false hb
         have hc150:¬ xop=7:=h9
         clear h9
         clear hb
         refine wp_seq_k fun K151 hK151=>?_
         refine rg h134 fun ops=>?_;clear h134 a134
         refine seq trivial rfl rfl rfl ?_
         refine sa trivial rfl rfl ?_
         refine St.nil fun a152 h152=>?_
         refine hK151 _ _ ?_
         refine fr_cond (t:=114) h152 rfl (fun hb=>?_) (fun hb=>?_)
         ·have h9:xop=14:=eq_of_beq hb
          have hc153:Hid (xop=14):=h9
          clear h9
          clear hb
          refine wp_seq_k fun K154 hK154=>?_
          refine wp_seq_k fun K155 hK155=>?_
          refine fr_region ?_
          intro ops hops
          have hg3:(ops[3]?).bind (fun o:Oper=>o.dst)=some 119:=hops 3
          clear hops
          refine St.go h152 ?_;clear h152 a152
          refine sfIns4 trivial rfl rfl ?_
          refine sbInt 1 hW11 trivial rfl rfl rfl rfl ?_
          refine slt trivial rfl rfl rfl ?_
          refine sm trivial rfl rfl ?_
          intro a156 h156
          rcases Bool.eq_false_or_eq_true (decide (xk<0)) with hb | hb
          ·rw [hb] at h156
           have hc157:xk<0:=of_decide_eq_true hb
           clear hb
           refine St.go h156 ?_;clear h156 a156
           refine so hg3 rfl rfl rfl rfl ?_
           refine so hg3 rfl rfl rfl rfl ?_
           refine so hg3 rfl rfl rfl rfl ?_
           refine so hg3 rfl rfl rfl rfl ?_
           refine so hg3 rfl rfl rfl rfl ?_
           refine so hg3 rfl rfl rfl rfl ?_
           refine sp trivial rfl rfl rfl ?_
           refine St.nil fun a158 h158=>?_
           refine hK155 _ _ ?_
           refine fr_true (t:=126) h158 rfl ?_
           refine wp_seq_k fun K159 hK159=>?_
           refine rg h158 fun ops=>?_;clear h158 a158
           refine sa trivial rfl rfl ?_
           refine St.nil fun a160 h160=>?_
           refine hK159 _ _ ?_
           refine wp_ret ?_;with_reducible repeat first | refine of_then_ret ?_ | refine of_block_ret ?_
           have e7:=insForm_d hop hdd1.out hdd2.out hdd3.out hdd4.out hdd5.out hdd6.out hdd7.out (lm:=lm)
           have R:insForm lm xop xa xb xc xk xn rl al=1:=by rw [e7];simp [hc81,hc102,hc114,hc133,hc150,hc153.out,hc157]
           exact ret_tmp (t:=4) h160 rfl rfl ⟨by rw [R],hW11.bel⟩
          rw [hb] at h156
          have hc161:¬ (xk<0):=of_decide_eq_false hb
          clear hb
          refine St.go h156 ?_;clear h156 a156
          refine sfIns4 ⟨_,hg3,rfl,rfl⟩ rfl rfl ?_
          refine sbInt 1 hW11 ⟨_,hg3,rfl,rfl⟩ rfl rfl rfl rfl ?_
          refine sfModule0 ⟨_,hg3,rfl,rfl⟩ rfl rfl ?_
          refine sbFuncs 2 hW11 ⟨_,hg3,rfl,rfl⟩ rfl rfl rfl rfl ?_
          refine slFuncs ⟨_,hg3,rfl,rfl⟩ rfl rfl ?_
          refine sge ⟨_,hg3,rfl,rfl⟩ rfl rfl rfl ?_
          refine spf trivial rfl rfl rfl ?_
          refine St.nil fun a162 h162=>?_
          refine hK155 _ _ ?_
          refine fr_cond (t:=126) h162 rfl (fun hb=>?_) (fun hb=>?_)
          ·have hc163:(lm:Int)≤xk:=of_decide_eq_true hb
           clear hb
           refine wp_seq_k fun K164 hK164=>?_
           refine rg h162 fun ops=>?_;clear h162 a162
           refine sa trivial rfl rfl ?_
           refine St.nil fun a165 h165=>?_
           refine hK164 _ _ ?_
           refine wp_ret ?_;with_reducible repeat first | refine of_then_ret ?_ | refine of_block_ret ?_
           have e7:=insForm_d hop hdd1.out hdd2.out hdd3.out hdd4.out hdd5.out hdd6.out hdd7.out (lm:=lm)
           have R:insForm lm xop xa xb xc xk xn rl al=1:=by rw [e7];simp [hc81,hc102,hc114,hc133,hc150,hc153.out,hc161,hc163]
           exact ret_tmp (t:=4) h165 rfl rfl ⟨by rw [R],hW11.bel⟩
          have hc166:¬ ((lm:Int)≤xk):=of_decide_eq_false hb
          clear hb
          refine wp_skip ?_
          refine hK154 _ _ ?_
          refine wp_seq_k fun K167 hK167=>?_
          refine fr_region ?_
          intro ops hops
          have hg4:(ops[4]?).bind (fun o:Oper=>o.dst)=some 131:=hops 4
          clear hops
          refine St.go h162 ?_;clear h162 a162
          refine sfIns6 trivial rfl rfl ?_
          refine sbInts 1 hW11 trivial rfl rfl rfl rfl ?_
          refine slInts trivial rfl rfl ?_
          refine sgt trivial rfl rfl rfl ?_
          refine sm trivial rfl rfl ?_
          intro a168 h168
          rcases Bool.eq_false_or_eq_true (decide (6<(rl:Int))) with hb | hb
          ·rw [hb] at h168
           have hc169:6<rl:=by have:=of_decide_eq_true hb;omega
           clear hb
           refine St.go h168 ?_;clear h168 a168
           refine so hg4 rfl rfl rfl rfl ?_
           refine so hg4 rfl rfl rfl rfl ?_
           refine so hg4 rfl rfl rfl rfl ?_
           refine so hg4 rfl rfl rfl rfl ?_
           refine sp trivial rfl rfl rfl ?_
           refine St.nil fun a170 h170=>?_
           refine hK167 _ _ ?_
           refine fr_true (t:=136) h170 rfl ?_
           refine wp_seq_k fun K171 hK171=>?_
           refine rg h170 fun ops=>?_;clear h170 a170
           refine sa trivial rfl rfl ?_
           refine St.nil fun a172 h172=>?_
           refine hK171 _ _ ?_
           refine wp_ret ?_;with_reducible repeat first | refine of_then_ret ?_ | refine of_block_ret ?_
           have e7:=insForm_d hop hdd1.out hdd2.out hdd3.out hdd4.out hdd5.out hdd6.out hdd7.out (lm:=lm)
           have R:insForm lm xop xa xb xc xk xn rl al=2:=by rw [e7];simp [hc81,hc102,hc114,hc133,hc150,hc153.out,hc161,hc166,hc169]
           exact ret_tmp (t:=4) h172 rfl rfl ⟨by rw [R],hW11.bel⟩
          rw [hb] at h168
          have hc173:¬ (6<rl):=by have:=of_decide_eq_false hb;omega
          clear hb
          refine St.go h168 ?_;clear h168 a168
          refine sfIns7 ⟨_,hg4,rfl,rfl⟩ rfl rfl ?_
          refine sbInts 1 hW11 ⟨_,hg4,rfl,rfl⟩ rfl rfl rfl rfl ?_
          refine slInts ⟨_,hg4,rfl,rfl⟩ rfl rfl ?_
          refine sgt ⟨_,hg4,rfl,rfl⟩ rfl rfl rfl ?_
          refine spf trivial rfl rfl rfl ?_
          refine St.nil fun a174 h174=>?_
          refine hK167 _ _ ?_
          refine fr_cond (t:=136) h174 rfl (fun hb=>?_) (fun hb=>?_)
          ·have hc175:8<al:=by have:=of_decide_eq_true hb;omega
           clear hb
           refine wp_seq_k fun K176 hK176=>?_
           refine rg h174 fun ops=>?_;clear h174 a174
           refine sa trivial rfl rfl ?_
           refine St.nil fun a177 h177=>?_
           refine hK176 _ _ ?_
           refine wp_ret ?_;with_reducible repeat first | refine of_then_ret ?_ | refine of_block_ret ?_
           have e7:=insForm_d hop hdd1.out hdd2.out hdd3.out hdd4.out hdd5.out hdd6.out hdd7.out (lm:=lm)
           have R:insForm lm xop xa xb xc xk xn rl al=2:=by rw [e7];simp [hc81,hc102,hc114,hc133,hc150,hc153.out,hc161,hc166,hc173,hc175]
           exact ret_tmp (t:=4) h177 rfl rfl ⟨by rw [R],hW11.bel⟩
          have hc178:¬ (8<al):=by have:=of_decide_eq_false hb;omega
          clear hb
          refine wp_skip ?_
          refine hK82 _ _ ?_
          refine wp_seq_k fun K179 hK179=>?_
          refine rg h174 fun ops=>?_;clear h174 a174
          refine sa trivial rfl rfl ?_
          refine St.nil fun a180 h180=>?_
          refine hK179 _ _ ?_
          refine wp_ret ?_;with_reducible repeat first | refine of_then_ret ?_ | refine of_block_ret ?_
          have e7:=insForm_d hop hdd1.out hdd2.out hdd3.out hdd4.out hdd5.out hdd6.out hdd7.out (lm:=lm)
          have R:insForm lm xop xa xb xc xk xn rl al=0:=by rw [e7];simp [hc81,hc102,hc114,hc133,hc150,hc153.out,hc161,hc166,hc173,hc178]
          exact ret_tmp (t:=4) h180 rfl rfl ⟨by rw [R],hW11.bel⟩
         have h9:¬ xop=14:=ne_of_beq_false hb
         have hc181:¬ xop=14:=h9
         clear h9
         clear hb
         refine wp_skip ?_
         refine hK82 _ _ ?_
         refine wp_seq_k fun K182 hK182=>?_
         refine rg h152 fun ops=>?_;clear h152 a152
         refine sa trivial rfl rfl ?_
         refine St.nil fun a183 h183=>?_
         refine hK182 _ _ ?_
         refine wp_ret ?_;with_reducible repeat first | refine of_then_ret ?_ | refine of_block_ret ?_
         have e7:=insForm_d hop hdd1.out hdd2.out hdd3.out hdd4.out hdd5.out hdd6.out hdd7.out (lm:=lm)
         have R:insForm lm xop xa xb xc xk xn rl al=0:=by rw [e7];simp [hc81,hc102,hc114,hc133,hc150,hc181]
         exact ret_tmp (t:=4) h183 rfl rfl ⟨by rw [R],hW11.bel⟩
theorem insFNo {xop : Int} (hop : fieldsOf xop = none) (xa xb xc xk xn : Int) (am ra aa : Option Addr) (lm cm rl rc al ac : Nat) (w : World) :
    Rd Tryz.prog 74 #[.agg #[.slice am lm cm],.agg #[.int .i64 xop,.int .i64 xa,.int .i64 xb,.int .i64 xc,.int .i64 xk,.int .i64 xn,.slice ra rl rc,.slice aa al ac]] w (.int .i64 (insForm lm xop xa xb xc xk xn rl al)):=by
  refine fr_enter (n:=137) Tryz.func74 rfl rfl rfl ?_
  intro a hF
  have hW:=Wd.start w
  replace hF:Fr 137 a [(0,.agg #[.slice am lm cm]),(1,.agg #[.int .i64 xop,.int .i64 xa,.int .i64 xb,.int .i64 xc,.int .i64 xk,.int .i64 xn,.slice ra rl rc,.slice aa al ac])]:=hF
  refine wp_seq_k fun K1 hK1=>?_
  refine rg hF fun ops=>?_;clear hF a
  refine sB hW trivial rfl rfl ?_
  clear hW;intro w2 B2 hW2 hN;clear hN
  refine sB hW2 trivial rfl rfl ?_
  clear hW2;intro w3 B3 hW3 hN;clear hN
  refine sa trivial rfl rfl ?_
  refine St.nil fun a4 h4=>?_
  refine hK1 _ _ ?_
  refine wp_seq_k fun K5 hK5=>?_
  refine rg h4 fun ops=>?_;clear h4 a4
  refine sfIns0 trivial rfl rfl ?_
  refine sbInt 0 hW3 trivial rfl rfl rfl rfl ?_
  refine sc_1 cf114 hW3 (rdFieldsNo hop w3) trivial rfl rfl ?_
  clear hW3;intro w6 hW6
  refine sm trivial rfl rfl ?_
  intro a7 h7
  refine fr_pure (t:=11) (v:=.agg #[.bool false,.bool false,.bool false,.bool false,.bool false,.bool false,.bool false]) (w':=w6) h7 rfl rfl rfl (fun K hK=>?_) ?_
  ·have k0:a7.tmps.getD 7 undef=.tuple #[.agg #[.bool false,.bool false,.bool false,.bool false,.bool false,.bool false,.bool false],.bool false]:=h7.sl 7 _ rfl
   go_simp
   exact hK
  clear h7;intro a8 hF8
  refine fr_pure (t:=12) (v:=.bool false) (w':=w6) hF8 rfl rfl rfl (fun K hK=>?_) ?_
  ·have k0:a8.tmps.getD 7 undef=.tuple #[.agg #[.bool false,.bool false,.bool false,.bool false,.bool false,.bool false,.bool false],.bool false]:=hF8.sl 7 _ rfl
   go_simp
   exact hK
  clear hF8;intro a9 hF9
  refine St.go hF9 ?_;clear hF9 a9
  refine sAFields hW6 trivial rfl ?_
  clear hW6;intro w10 B10 hW10 hN;clear hN
  refine sT 0 hW10 rfl rfl infFields rfl rfl rfl ?_
  clear hW10;intro w11 hW11
  refine sa trivial rfl rfl ?_
  refine St.nil fun a12 h12=>?_
  refine hK5 _ _ ?_
  refine wp_seq_k fun K13 hK13=>?_
  refine wp_seq_k fun K14 hK14=>?_
  refine rg h12 fun ops=>?_;clear h12 a12
  refine sm trivial rfl rfl ?_
  refine sn trivial rfl rfl ?_
  refine St.nil fun a15 h15=>?_
  refine hK14 _ _ ?_
  refine fr_true (t:=14) h15 rfl ?_
  refine wp_seq_k fun K16 hK16=>?_
  refine rg h15 fun ops=>?_;clear h15 a15
  refine sa trivial rfl rfl ?_
  refine St.nil fun a17 h17=>?_
  refine hK16 _ _ ?_
  refine wp_ret ?_;with_reducible repeat first | refine of_then_ret ?_ | refine of_block_ret ?_
  have R:insForm lm xop xa xb xc xk xn rl al=3:=by simp [insForm,hop]
  exact ret_tmp (t:=4) h17 rfl rfl ⟨by rw [R],hW11.bel⟩
theorem insForm_any (funcs : Nat) (x : MIns) (i : IP) (am : Option Addr) (cm : Nat) (w : World) :
    Rd Tryz.prog 74 #[.agg #[.slice am funcs cm],.agg #[.int .i64 x.op,.int .i64 x.a,.int .i64 x.b,.int .i64 x.c,.int .i64 x.k,.int .i64 x.n,.slice i.pR x.regs.length i.cR,.slice i.pA x.args.length i.cA]] w (.int .i64 (x.form funcs)):=by
  rw [MIns.form_eq]
  cases h:fieldsOf x.op with
  | none=>exact insFNo h _ _ _ _ _ _ _ _ _ _ _ _ _ _ _
  | some p=>obtain ⟨a,b,c,k,n,r,s⟩:=p;exact insFSome h _ _ _ _ _ _ _ _ _ _ _ _ _ _ _
theorem blockFault_any {n : Nat} {m : List (MFunc n)} {p : Option Addr} {c fi bi : Nat} {x : MFunc n} {y : MBlock n} {w : World} (hm0 : (modL n).In w All m [.slice p m.length c]) (hs0 : msmall m) (hx1 : m[fi]? = some x) (hx2 : x.blocks[bi]? = some y) :
    Rd Tryz.prog 39 #[.agg #[.slice p m.length c],.int .i64 (fi:Int),.int .i64 (bi:Int)] w (faultV (MBlock.fault m.length fi x bi y)):=by
  have hlt1:fi<m.length:=(List.getElem?_eq_some_iff.1 hx1).1
  have hlt2:bi<x.blocks.length:=(List.getElem?_eq_some_iff.1 hx2).1
  have hs1:Hid x.small:=hs0.2 _ (List.mem_of_getElem? hx1)
  have hs2:Hid y.small:=hs1.out.2.2.2 _ (List.mem_of_getElem? hx2)
  have hmb:=hs0.1
  have hxb:=hs1.out.1
  have hyb:=hs2.out.1
  obtain ⟨g1,o1,f1,hp1,E1,In1⟩:=func_at hm0 hx1
  obtain ⟨g2,o2,b2,hp2,E2,In2⟩:=block_at In1.blocks hx2
  replace E1:Hid _:=E1
  replace E2:Hid _:=E2
  clear hm0 hs0
  replace In1:Hid _:=In1
  replace In2:Hid _:=In2
  replace hp1:Hid _:=hp1
  replace hp2:Hid _:=hp2
  replace hx1:Hid _:=hx1
  replace hx2:Hid _:=hx2
  refine fr_enter (n:=112) Tryz.func39 rfl rfl rfl ?_
  intro a hF
  have hW:=Wd.start w
  replace hF:Fr 112 a [(0,.agg #[.slice p m.length c]),(1,.int .i64 (fi:Int)),(2,.int .i64 (bi:Int))]:=hF
  refine wp_seq_k fun K1 hK1=>?_
  refine rg hF fun ops=>?_;clear hF a
  refine sB hW trivial rfl rfl ?_
  clear hW;intro w2 B2 hW2 hN;clear hN
  refine sAFault hW2 trivial rfl ?_
  clear hW2;intro w3 B3 hW3 hN;clear hN
  refine St.nil fun a4 h4=>?_
  refine hK1 _ _ ?_
  refine wp_seq_k fun K5 hK5=>?_
  refine rg h4 fun ops=>?_;clear h4 a4
  refine sfModule0 trivial rfl rfl ?_
  refine sbFuncs 1 hW3 trivial rfl rfl rfl rfl ?_
  refine sm trivial rfl rfl ?_
  refine siFuncs hp1.out hlt1 trivial rfl rfl rfl ?_
  refine sSE Tryz.underlying42 rfl (rangeAt_bel E1.out hW3.bel) infFunc trivial rfl rfl ?_
  refine sAFunc hW3 trivial rfl ?_
  clear hW3;intro w6 B6 hW6 hN;clear hN
  refine sT 0 hW6 rfl rfl infFunc rfl rfl rfl ?_
  clear hW6;intro w7 hW7
  refine St.nil fun a8 h8=>?_
  refine hK5 _ _ ?_
  refine wp_seq_k fun K9 hK9=>?_
  refine rg h8 fun ops=>?_;clear h8 a8
  refine sfFunc3 trivial rfl rfl ?_
  refine sbBlocks 0 hW7 trivial rfl rfl rfl rfl ?_
  refine sm trivial rfl rfl ?_
  refine siBlocks hp2.out hlt2 trivial rfl rfl rfl ?_
  refine sSE Tryz.underlying52 rfl (rangeAt_bel E2.out hW7.bel) infBlock trivial rfl rfl ?_
  refine sABlock hW7 trivial rfl ?_
  clear hW7;intro w10 B10 hW10 hN;clear hN
  refine sT 0 hW10 rfl rfl infBlock rfl rfl rfl ?_
  clear hW10;intro w11 hW11
  refine St.nil fun a12 h12=>?_
  refine hK9 _ _ ?_
  refine wp_seq_k fun K13 hK13=>?_
  refine wp_seq_k fun K14 hK14=>?_
  refine fr_region ?_
  intro ops hops
  have hg5:(ops[5]?).bind (fun o:Oper=>o.dst)=some 28:=hops 5
  clear hops
  refine St.go h12 ?_;clear h12 a12
  refine sfBlock0 trivial rfl rfl ?_
  refine sbInt 0 hW11 trivial rfl rfl rfl rfl ?_
  refine sfFunc0 trivial rfl rfl ?_
  refine sbInt 1 hW11 trivial rfl rfl rfl rfl ?_
  refine slt trivial rfl rfl rfl ?_
  refine sm trivial rfl rfl ?_
  intro a15 h15
  rcases Bool.eq_false_or_eq_true (decide (y.regs<x.regs)) with hb | hb
  ·rw [hb] at h15
   have hc16:y.regs<x.regs:=of_decide_eq_true hb
   clear hb
   refine St.go h15 ?_;clear h15 a15
   refine so hg5 rfl rfl rfl rfl ?_
   refine so hg5 rfl rfl rfl rfl ?_
   refine so hg5 rfl rfl rfl rfl ?_
   refine sp trivial rfl rfl rfl ?_
   refine St.nil fun a17 h17=>?_
   refine hK14 _ _ ?_
   refine fr_true (t:=32) h17 rfl ?_
   refine wp_seq_k fun K18 hK18=>?_
   refine rg h17 fun ops=>?_;clear h17 a17
   refine sm trivial rfl rfl ?_
   refine sm trivial rfl rfl ?_
   refine sc_2 cf73 hW11 (atBlock_any (f:=fi) (b:=bi) ⟨by omega,by omega⟩) trivial rfl rfl rfl ?_
   clear hW11;intro w19 hW19
   refine sc_2 cf36 hW19 (fF_any (xc:=1) (xp:=10000*(fi:Int)+100*(bi:Int)+90)) trivial rfl rfl rfl ?_
   clear hW19;intro w20 hW20
   refine sT 2 hW20 rfl rfl infFault rfl rfl rfl ?_
   clear hW20;intro w21 hW21
   refine St.nil fun a22 h22=>?_
   refine hK18 _ _ ?_
   refine wp_ret ?_;with_reducible repeat first | refine of_then_ret ?_ | refine of_block_ret ?_
   have RC:y.code' x bi=1:=if_pos (by omega)
   have EF:=MBlock.fault_eq m.length fi x bi y
   rw [RC,if_neg (by omega)] at EF
   exact ret_box 2 h22 hW21 rfl rfl rfl Tryz.underlying27 rfl infFault ⟨by show Ending.returned (.agg #[.int .i64 1,.int .i64 (10000*(fi:Int)+100*(bi:Int)+90)])=_;rw [EF],hW21.bel⟩
  rw [hb] at h15
  have hc23:¬ (y.regs<x.regs):=of_decide_eq_false hb
  clear hb
  refine St.go h15 ?_;clear h15 a15
  refine sfBlock0 ⟨_,hg5,rfl,rfl⟩ rfl rfl ?_
  refine sbInt 0 hW11 ⟨_,hg5,rfl,rfl⟩ rfl rfl rfl rfl ?_
  refine sgt ⟨_,hg5,rfl,rfl⟩ rfl rfl rfl ?_
  refine spf trivial rfl rfl rfl ?_
  refine St.nil fun a24 h24=>?_
  refine hK14 _ _ ?_
  refine fr_cond (t:=32) h24 rfl (fun hb=>?_) (fun hb=>?_)
  ·have hc25:16<y.regs:=of_decide_eq_true hb
   clear hb
   refine wp_seq_k fun K26 hK26=>?_
   refine rg h24 fun ops=>?_;clear h24 a24
   refine sm trivial rfl rfl ?_
   refine sm trivial rfl rfl ?_
   refine sc_2 cf73 hW11 (atBlock_any (f:=fi) (b:=bi) ⟨by omega,by omega⟩) trivial rfl rfl rfl ?_
   clear hW11;intro w27 hW27
   refine sc_2 cf36 hW27 (fF_any (xc:=1) (xp:=10000*(fi:Int)+100*(bi:Int)+90)) trivial rfl rfl rfl ?_
   clear hW27;intro w28 hW28
   refine sT 2 hW28 rfl rfl infFault rfl rfl rfl ?_
   clear hW28;intro w29 hW29
   refine St.nil fun a30 h30=>?_
   refine hK26 _ _ ?_
   refine wp_ret ?_;with_reducible repeat first | refine of_then_ret ?_ | refine of_block_ret ?_
   have RC:y.code' x bi=1:=if_pos (by omega)
   have EF:=MBlock.fault_eq m.length fi x bi y
   rw [RC,if_neg (by omega)] at EF
   exact ret_box 2 h30 hW29 rfl rfl rfl Tryz.underlying27 rfl infFault ⟨by show Ending.returned (.agg #[.int .i64 1,.int .i64 (10000*(fi:Int)+100*(bi:Int)+90)])=_;rw [EF],hW29.bel⟩
  have hc31:¬ (16<y.regs):=of_decide_eq_false hb
  clear hb
  refine wp_skip ?_
  refine hK13 _ _ ?_
  refine wp_seq_k fun K32 hK32=>?_
  refine wp_seq_k fun K33 hK33=>?_
  refine rg h24 fun ops=>?_;clear h24 a24
  refine sfBlock1 trivial rfl rfl ?_
  refine sbTypes 0 hW11 trivial rfl rfl rfl rfl ?_
  refine sfBlock0 trivial rfl rfl ?_
  refine sbInt 0 hW11 trivial rfl rfl rfl rfl ?_
  refine sc_2 cf38 hW11 (listForm_any (regs:=y.regs) (Lay.below In2.out.params hW11.bel) hs2.out.2.1) trivial rfl rfl rfl ?_
  clear hW11;intro w34 hW34
  refine sa trivial rfl rfl ?_
  refine St.nil fun a35 h35=>?_
  refine hK33 _ _ ?_
  refine wp_seq_k fun K36 hK36=>?_
  refine rg h35 fun ops=>?_;clear h35 a35
  refine sm trivial rfl rfl ?_
  refine sne trivial rfl rfl rfl ?_
  refine St.nil fun a37 h37=>?_
  refine hK36 _ _ ?_
  refine fr_cond (t:=43) h37 rfl (fun hb=>?_) (fun hb=>?_)
  ·have h9:¬ (listC y.regs y.params)=0:=bne_iff_ne.1 hb
   have hc38:¬ (listC y.regs y.params)=0:=h9
   clear h9
   clear hb
   refine wp_seq_k fun K39 hK39=>?_
   refine rg h37 fun ops=>?_;clear h37 a37
   refine sm trivial rfl rfl ?_
   refine sm trivial rfl rfl ?_
   refine sm trivial rfl rfl ?_
   refine sc_2 cf73 hW34 (atBlock_any (f:=fi) (b:=bi) ⟨by omega,by omega⟩) trivial rfl rfl rfl ?_
   clear hW34;intro w40 hW40
   refine sc_2 cf36 hW40 (fF_any (xc:=listC y.regs y.params) (xp:=10000*(fi:Int)+100*(bi:Int)+90)) trivial rfl rfl rfl ?_
   clear hW40;intro w41 hW41
   refine sT 2 hW41 rfl rfl infFault rfl rfl rfl ?_
   clear hW41;intro w42 hW42
   refine St.nil fun a43 h43=>?_
   refine hK39 _ _ ?_
   refine wp_ret ?_;with_reducible repeat first | refine of_then_ret ?_ | refine of_block_ret ?_
   have RC:y.code' x bi=listC y.regs y.params:=(if_neg (by omega)).trans (if_pos (by omega))
   have EF:=MBlock.fault_eq m.length fi x bi y
   rw [RC,if_neg (by omega)] at EF
   exact ret_box 2 h43 hW42 rfl rfl rfl Tryz.underlying27 rfl infFault ⟨by show Ending.returned (.agg #[.int .i64 (listC y.regs y.params),.int .i64 (10000*(fi:Int)+100*(bi:Int)+90)])=_;rw [EF],hW42.bel⟩
  have h9:(listC y.regs y.params)=0:=bne_eq_false_iff_eq.1 hb
  have hc44:Hid ((listC y.regs y.params)=0):=h9
  clear h9
  clear hb
  refine wp_skip ?_
  refine hK32 _ _ ?_
  refine wp_seq_k fun K45 hK45=>?_
  refine wp_seq_k fun K46 hK46=>?_
  refine fr_region ?_
  intro ops hops
  have hg2:(ops[2]?).bind (fun o:Oper=>o.dst)=some 51:=hops 2
  have hg8:(ops[8]?).bind (fun o:Oper=>o.dst)=some 57:=hops 8
  clear hops
  refine St.go h37 ?_;clear h37 a37
  refine sm trivial rfl rfl ?_
  refine seq trivial rfl rfl rfl ?_
  refine sm trivial rfl rfl ?_
  intro a47 h47
  rcases Bool.eq_false_or_eq_true ((bi:Int)==0) with hb | hb
  ·rw [hb] at h47
   have h9:bi=0:=by have h8:=eq_of_beq hb;omega
   have hc48:Hid (bi=0):=h9
   clear h9
   clear hb
   refine St.go h47 ?_;clear h47 a47
   refine sfBlock0 ⟨_,hg2,rfl,rfl⟩ rfl rfl ?_
   refine sbInt 0 hW34 ⟨_,hg2,rfl,rfl⟩ rfl rfl rfl rfl ?_
   refine sfFunc0 ⟨_,hg2,rfl,rfl⟩ rfl rfl ?_
   refine sbInt 1 hW34 ⟨_,hg2,rfl,rfl⟩ rfl rfl rfl rfl ?_
   refine sne ⟨_,hg2,rfl,rfl⟩ rfl rfl rfl ?_
   refine sm ⟨_,hg2,rfl,rfl⟩ rfl rfl ?_
   intro a49 h49
   rcases Bool.eq_false_or_eq_true (y.regs != x.regs) with hb | hb
   ·rw [hb] at h49
    have h9:¬ y.regs=x.regs:=bne_iff_ne.1 hb
    have hc50:¬ y.regs=x.regs:=h9
    clear h9
    clear hb
    refine St.go h49 ?_;clear h49 a49
    refine so hg8 rfl rfl rfl rfl ?_
    refine so hg8 rfl rfl rfl rfl ?_
    refine so hg8 rfl rfl rfl rfl ?_
    refine so hg8 rfl rfl rfl rfl ?_
    refine so hg8 rfl rfl rfl rfl ?_
    refine so hg8 rfl rfl rfl rfl ?_
    refine sp ⟨_,hg2,rfl,rfl⟩ rfl rfl rfl ?_
    refine sp trivial rfl rfl rfl ?_
    refine St.nil fun a51 h51=>?_
    refine hK46 _ _ ?_
    refine fr_true (t:=65) h51 rfl ?_
    refine wp_seq_k fun K52 hK52=>?_
    refine rg h51 fun ops=>?_;clear h51 a51
    refine sm trivial rfl rfl ?_
    refine sm trivial rfl rfl ?_
    refine sc_2 cf73 hW34 (atBlock_any (f:=fi) (b:=bi) ⟨by omega,by omega⟩) trivial rfl rfl rfl ?_
    clear hW34;intro w53 hW53
    refine sc_2 cf36 hW53 (fF_any (xc:=9) (xp:=10000*(fi:Int)+100*(bi:Int)+90)) trivial rfl rfl rfl ?_
    clear hW53;intro w54 hW54
    refine sT 2 hW54 rfl rfl infFault rfl rfl rfl ?_
    clear hW54;intro w55 hW55
    refine St.nil fun a56 h56=>?_
    refine hK52 _ _ ?_
    refine wp_ret ?_;with_reducible repeat first | refine of_then_ret ?_ | refine of_block_ret ?_
    have:=hc44.out
    have:=hc48.out
    have RC:y.code' x bi=9:=(if_neg (by omega)).trans ((if_neg (by omega)).trans (if_pos (⟨by omega,.inl (by omega)⟩)))
    have EF:=MBlock.fault_eq m.length fi x bi y
    rw [RC,if_neg (by omega)] at EF
    exact ret_box 2 h56 hW55 rfl rfl rfl Tryz.underlying27 rfl infFault ⟨by show Ending.returned (.agg #[.int .i64 9,.int .i64 (10000*(fi:Int)+100*(bi:Int)+90)])=_;rw [EF],hW55.bel⟩
   rw [hb] at h49
   have h9:y.regs=x.regs:=bne_eq_false_iff_eq.1 hb
   have hc57:Hid (y.regs=x.regs):=h9
   clear h9
   clear hb
   refine St.go h49 ?_;clear h49 a49
   refine sfBlock1 ⟨_,hg8,rfl,rfl⟩ rfl rfl ?_
   refine sbTypes 0 hW34 ⟨_,hg8,rfl,rfl⟩ rfl rfl rfl rfl ?_
   refine sfFunc1 ⟨_,hg8,rfl,rfl⟩ rfl rfl ?_
   refine sbTypes 1 hW34 ⟨_,hg8,rfl,rfl⟩ rfl rfl rfl rfl ?_
   refine sc_2 cf33 hW34 (sameTypes_any (Lay.below In2.out.params hW34.bel) (Lay.below In1.out.params hW34.bel) hs2.out.2.1) ⟨_,hg8,rfl,rfl⟩ rfl rfl rfl ?_
   clear hW34;intro w58 hW58
   refine sn ⟨_,hg8,rfl,rfl⟩ rfl rfl ?_
   refine spf ⟨_,hg2,rfl,rfl⟩ rfl rfl rfl ?_
   refine sp trivial rfl rfl rfl ?_
   refine St.nil fun a59 h59=>?_
   refine hK46 _ _ ?_
   refine fr_cond (t:=65) h59 rfl (fun hb=>?_) (fun hb=>?_)
   ·have hb:(bdec (y.params=x.params))=false:=by simpa using hb
    have hc60:¬ (y.params=x.params):=fun h=>by rw [bdec_true h] at hb;cases hb
    clear hb
    refine wp_seq_k fun K61 hK61=>?_
    refine rg h59 fun ops=>?_;clear h59 a59
    refine sm trivial rfl rfl ?_
    refine sm trivial rfl rfl ?_
    refine sc_2 cf73 hW58 (atBlock_any (f:=fi) (b:=bi) ⟨by omega,by omega⟩) trivial rfl rfl rfl ?_
    clear hW58;intro w62 hW62
    refine sc_2 cf36 hW62 (fF_any (xc:=9) (xp:=10000*(fi:Int)+100*(bi:Int)+90)) trivial rfl rfl rfl ?_
    clear hW62;intro w63 hW63
    refine sT 2 hW63 rfl rfl infFault rfl rfl rfl ?_
    clear hW63;intro w64 hW64
    refine St.nil fun a65 h65=>?_
    refine hK61 _ _ ?_
    refine wp_ret ?_;with_reducible repeat first | refine of_then_ret ?_ | refine of_block_ret ?_
    have:=hc44.out
    have:=hc48.out
    have:=hc57.out
    have RC:y.code' x bi=9:=(if_neg (by omega)).trans ((if_neg (by omega)).trans (if_pos (⟨by omega,takes_no (fun h9=>hc60 h9.2)⟩)))
    have EF:=MBlock.fault_eq m.length fi x bi y
    rw [RC,if_neg (by omega)] at EF
    exact ret_box 2 h65 hW64 rfl rfl rfl Tryz.underlying27 rfl infFault ⟨by show Ending.returned (.agg #[.int .i64 9,.int .i64 (10000*(fi:Int)+100*(bi:Int)+90)])=_;rw [EF],hW64.bel⟩
   have hb:(bdec (y.params=x.params))=true:=by simpa using hb
   have hc66:(y.params=x.params):=bdec_iff.1 hb
   clear hb
   refine wp_skip ?_
   refine hK45 _ _ ?_
   refine wp_seq_k fun K67 hK67=>?_
   refine wp_seq_k fun K68 hK68=>?_
   refine rg h59 fun ops=>?_;clear h59 a59
   refine sfBlock2 trivial rfl rfl ?_
   refine sbInss 0 hW58 trivial rfl rfl rfl rfl ?_
   refine slInss trivial rfl rfl ?_
   refine sgt trivial rfl rfl rfl ?_
   refine St.nil fun a69 h69=>?_
   refine hK68 _ _ ?_
   refine fr_cond (t:=73) h69 rfl (fun hb=>?_) (fun hb=>?_)
   ·have hc70:40<y.code.length:=by have:=of_decide_eq_true hb;omega
    clear hb
    refine wp_seq_k fun K71 hK71=>?_
    refine rg h69 fun ops=>?_;clear h69 a69
    refine sm trivial rfl rfl ?_
    refine sm trivial rfl rfl ?_
    refine sc_2 cf73 hW58 (atBlock_any (f:=fi) (b:=bi) ⟨by omega,by omega⟩) trivial rfl rfl rfl ?_
    clear hW58;intro w72 hW72
    refine sc_2 cf36 hW72 (fF_any (xc:=2) (xp:=10000*(fi:Int)+100*(bi:Int)+90)) trivial rfl rfl rfl ?_
    clear hW72;intro w73 hW73
    refine sT 2 hW73 rfl rfl infFault rfl rfl rfl ?_
    clear hW73;intro w74 hW74
    refine St.nil fun a75 h75=>?_
    refine hK71 _ _ ?_
    refine wp_ret ?_;with_reducible repeat first | refine of_then_ret ?_ | refine of_block_ret ?_
    have:=hc44.out
    have:=hc48.out
    have:=hc57.out
    have RC:y.code' x bi=2:=(if_neg (by omega)).trans ((if_neg (by omega)).trans ((if_neg (fun h9=>takes_yes ⟨by omega,hc66⟩ h9.2)).trans (if_pos (by omega))))
    have EF:=MBlock.fault_eq m.length fi x bi y
    rw [RC,if_neg (by omega)] at EF
    exact ret_box 2 h75 hW74 rfl rfl rfl Tryz.underlying27 rfl infFault ⟨by show Ending.returned (.agg #[.int .i64 2,.int .i64 (10000*(fi:Int)+100*(bi:Int)+90)])=_;rw [EF],hW74.bel⟩
   have hc76:¬ (40<y.code.length):=by have:=of_decide_eq_false hb;omega
   clear hb
   refine wp_skip ?_
   refine hK67 _ _ ?_
   refine wp_seq_k fun K77 hK77=>?_
   refine wp_seq_k fun K78 hK78=>?_
   refine rg h69 fun ops=>?_;clear h69 a69
   refine sa trivial rfl rfl ?_
   refine St.nil fun a79 h79=>?_
   refine hK78 _ _ ?_
   refine wp_block ?_
   refine fr_loop (fun r a w'=>∃ q:Nat,q≤y.code.length∧r=y.code.length - q∧(∀ (j:Nat) z,j<q→y.code[j]?=some z→MIns.form m.length z=0)∧Fr 112 a [(2,.int .i64 (bi:Int)),(1,.int .i64 (fi:Int)),(0,.agg #[.slice p m.length c]),(3,.pointer (some ⟨B2,0,none⟩)),(6,.pointer (some ⟨B3,0,none⟩)),(7,.pointer (some ⟨B6,0,none⟩)),(8,.pointer (some ⟨B10,0,none⟩)),(9,.int .i64 (listC y.regs y.params)),(10,.int .i64 (q:Int))]∧Wd w w' [(B10,#[.int .i64 y.regs,.slice b2.pP y.params.length b2.cP,.slice b2.pC y.code.length b2.cC,.int .i64 y.fin.op,.int .i64 y.fin.a,.int .i64 y.fin.yes.block,.slice b2.e.pYR y.fin.yes.regs.length b2.e.cYR,.slice b2.e.pYA y.fin.yes.args.length b2.e.cYA,.int .i64 y.fin.no.block,.slice b2.e.pNR y.fin.no.regs.length b2.e.cNR,.slice b2.e.pNA y.fin.no.args.length b2.e.cNA,.slice b2.e.pA y.fin.args.length b2.e.cA],52),(B6,#[.int .i64 x.regs,.slice f1.pP x.params.length f1.cP,.slice f1.pR x.results.length f1.cR,.slice f1.pB x.blocks.length f1.cB],42),(B3,#[.int .i64 0,.int .i64 0],27),(B2,#[.slice p m.length c],25)]) (y.code.length) ⟨0,Nat.zero_le _,rfl,(fun j z hj=>by omega),(h79.keep (h79.keep (h79.keep (h79.keep (h79.keep (h79.keep (h79.keep (h79.keep (h79.keep h79.nil (t:=10) rfl) (t:=9) rfl) (t:=8) rfl) (t:=7) rfl) (t:=6) rfl) (t:=3) rfl) (t:=0) rfl) (t:=1) rfl) (t:=2) rfl),hW58⟩ ?_
   clear h79 hW58
   rintro r3 a80 w80 ⟨q,hq3,hr3,hall3,hF80,hW80⟩ KL3 hKL3
   refine wp_seq_k fun K81 hK81=>?_
   refine wp_seq_k fun K82 hK82=>?_
   refine rg hF80 fun ops=>?_;clear hF80 a80
   refine sm trivial rfl rfl ?_
   refine sfBlock2 trivial rfl rfl ?_
   refine sbInss 0 hW80 trivial rfl rfl rfl rfl ?_
   refine slInss trivial rfl rfl ?_
   refine slt trivial rfl rfl rfl ?_
   refine St.nil fun a83 h83=>?_
   refine hK82 _ _ ?_
   refine fr_cond (t:=82) h83 rfl (fun hb=>?_) (fun hb=>?_)
   ·have hlt3:q<y.code.length:=by have:=of_decide_eq_true hb;omega
    clear hb
    obtain ⟨z,hx3⟩:∃ v9,(y.code)[q]?=some v9:=⟨_,List.getElem?_eq_getElem hlt3⟩
    obtain ⟨g3,o3,i3,hp3,E3,In3⟩:=ins_at In2.out.code hx3
    replace In3:Hid _:=In3
    replace hp3:Hid _:=hp3
    replace hx3:Hid _:=hx3
    replace E3:Hid _:=E3
    refine wp_skip ?_
    refine hK81 _ _ ?_
    refine wp_seq_k fun K84 hK84=>?_
    refine wp_block ?_
    refine wp_seq_k fun K85 hK85=>?_
    have hF86:Fr 112 a83 [(2,.int .i64 (bi:Int)),(1,.int .i64 (fi:Int)),(0,.agg #[.slice p m.length c]),(3,.pointer (some ⟨B2,0,none⟩)),(6,.pointer (some ⟨B3,0,none⟩)),(7,.pointer (some ⟨B6,0,none⟩)),(8,.pointer (some ⟨B10,0,none⟩)),(9,.int .i64 (listC y.regs y.params)),(10,.int .i64 (q:Int))]:=(h83.keep (h83.keep (h83.keep (h83.keep (h83.keep (h83.keep (h83.keep (h83.keep (h83.keep h83.nil (t:=10) rfl) (t:=9) rfl) (t:=8) rfl) (t:=7) rfl) (t:=6) rfl) (t:=3) rfl) (t:=0) rfl) (t:=1) rfl) (t:=2) rfl)
    have ho3:a83.tmps.getD 3 undef=.pointer (some ⟨B2,0,none⟩):=h83.sl 3 _ rfl
    have ho8:a83.tmps.getD 8 undef=.pointer (some ⟨B10,0,none⟩):=h83.sl 8 _ rfl
    have ho10:a83.tmps.getD 10 undef=.int .i64 (q:Int):=h83.sl 10 _ rfl
    refine fr_draw_k 8 ([(3,fun v _=>v=.pointer (some ⟨B2,0,none⟩)),(8,fun v _=>v=.pointer (some ⟨B10,0,none⟩)),(10,fun v _=>v=.int .i64 (q:Int)),(85,fun v _=>v=.agg #[.slice p m.length c]),(86,fun v _=>v=.pointer (some ⟨B10,2,none⟩)),(87,fun v _=>v=.slice b2.pC y.code.length b2.cC),(88,fun v _=>v=.int .i64 (q:Int)),(89,fun v _=>v=.pointer (some ⟨g3,o3+q*8,none⟩)),(90,fun v _=>v=.agg #[.int .i64 z.op,.int .i64 z.a,.int .i64 z.b,.int .i64 z.c,.int .i64 z.k,.int .i64 z.n,.slice i3.pR z.regs.length i3.cR,.slice i3.pA z.args.length i3.cA]),(91,fun v _=>v=.int .i64 (MIns.form m.length z)),(11,fun v _=>v=.int .i64 (MIns.form m.length z))]:PTab) (fun w'=>Wd w w' [(B10,#[.int .i64 y.regs,.slice b2.pP y.params.length b2.cP,.slice b2.pC y.code.length b2.cC,.int .i64 y.fin.op,.int .i64 y.fin.a,.int .i64 y.fin.yes.block,.slice b2.e.pYR y.fin.yes.regs.length b2.e.cYR,.slice b2.e.pYA y.fin.yes.args.length b2.e.cYA,.int .i64 y.fin.no.block,.slice b2.e.pNR y.fin.no.regs.length b2.e.cNR,.slice b2.e.pNA y.fin.no.args.length b2.e.cNA,.slice b2.e.pA y.fin.args.length b2.e.cA],52),(B6,#[.int .i64 x.regs,.slice f1.pP x.params.length f1.cP,.slice f1.pR x.results.length f1.cR,.slice f1.pB x.blocks.length f1.cB],42),(B3,#[.int .i64 0,.int .i64 0],27),(B2,#[.slice p m.length c],25)]∧Below w80.heap.size w80 w') (fun w w'=>Below w.heap.size w w') (outs:=[3,8,10]) (gs:=[]) (bs:=[true,true,true,true,true,true,true,true]) (by kernel_rfl) hF86 rfl (by kernel_rfl) (by kernel_rfl) ?hR ?hG ⟨hW80.drewN 1,drewN_below (m:=1) (Below.refl _ _)⟩ ⟨ho3,ho8,ho10,trivial⟩ ?hA ?hend
    case hR=>exact ⟨fun _ _ _ _ h=>h,fun _ _ _ _ h=>h,fun _ _ _ _ h=>h,fun _ _ _ _ h=>h,fun _ _ _ _ h=>h,fun _ _ _ _ h=>h,fun _ _ _ _ h=>h,fun _ _ _ _ h=>h,fun _ _ _ _ h=>h,fun _ _ _ _ h=>h,fun _ _ _ _ h=>h,trivial⟩
    case hG=>exact trivial
    case hA =>
     refine ⟨fun a w hW hk K hK=>?_,?_⟩
     · obtain ⟨k0,-⟩:=hk
       have k0:a.tmps.getD 3 undef=.pointer (some ⟨B2,0,none⟩):=k0
       have c0:w.cell? ⟨B2,0,none⟩=some (.slice p m.length c):=cellOf (hW.1.get 3 rfl) 0 _ rfl
       go_simp
       exact hK _ _ (Below.refl _ _) hW rfl
     refine ⟨fun a w hW hk K hK=>?_,?_⟩
     · obtain ⟨k0,-⟩:=hk
       have k0:a.tmps.getD 8 undef=.pointer (some ⟨B10,0,none⟩):=k0
       go_simp
       exact hK _ _ (Below.refl _ _) hW rfl
     refine ⟨fun a w hW hk K hK=>?_,?_⟩
     · obtain ⟨k0,-⟩:=hk
       have k0:a.tmps.getD 86 undef=.pointer (some ⟨B10,2,none⟩):=k0
       have c2:w.cell? ⟨B10,2,none⟩=some (.slice b2.pC y.code.length b2.cC):=cellOf (hW.1.get 0 rfl) 2 _ rfl
       go_simp
       exact hK _ _ (Below.refl _ _) hW rfl
     refine ⟨fun a w hW hk K hK=>?_,?_⟩
     · obtain ⟨k0,-⟩:=hk
       have k0:a.tmps.getD 10 undef=.int .i64 (q:Int):=k0
       go_simp
       exact hK _ _ (Below.refl _ _) hW rfl
     refine ⟨fun a w hW hk K hK=>?_,?_⟩
     · obtain ⟨k0,k1,-⟩:=hk
       have k0:a.tmps.getD 87 undef=.slice b2.pC y.code.length b2.cC:=k0
       have k1:a.tmps.getD 88 undef=.int .i64 (q:Int):=k1
       have hpq:=hp3.out
       have hk0:(0:Int)≤q:=by omega
       have hk1:(q:Int)<(y.code.length:Int):=by omega
       go_simp
       exact hK _ _ (Below.refl _ _) hW rfl
     refine ⟨fun a w hW hk K hK=>?_,?_⟩
     · obtain ⟨k0,-⟩:=hk
       have k0:a.tmps.getD 89 undef=.pointer (some ⟨g3,o3+q*8,none⟩):=k0
       have d0:w.cell? ⟨g3,o3+q*8,none⟩=some (.int .i64 z.op):=bel_cell hW.1.bel (E3.out 0 _ rfl)
       have d1:w.cell? ⟨g3,o3+q*8+1,none⟩=some (.int .i64 z.a):=bel_cell hW.1.bel (E3.out 1 _ rfl)
       have d2:w.cell? ⟨g3,o3+q*8+2,none⟩=some (.int .i64 z.b):=bel_cell hW.1.bel (E3.out 2 _ rfl)
       have d3:w.cell? ⟨g3,o3+q*8+3,none⟩=some (.int .i64 z.c):=bel_cell hW.1.bel (E3.out 3 _ rfl)
       have d4:w.cell? ⟨g3,o3+q*8+4,none⟩=some (.int .i64 z.k):=bel_cell hW.1.bel (E3.out 4 _ rfl)
       have d5:w.cell? ⟨g3,o3+q*8+5,none⟩=some (.int .i64 z.n):=bel_cell hW.1.bel (E3.out 5 _ rfl)
       have d6:w.cell? ⟨g3,o3+q*8+6,none⟩=some (.slice i3.pR z.regs.length i3.cR):=bel_cell hW.1.bel (E3.out 6 _ rfl)
       have d7:w.cell? ⟨g3,o3+q*8+7,none⟩=some (.slice i3.pA z.args.length i3.cA):=bel_cell hW.1.bel (E3.out 7 _ rfl)
       go_simp
       exact hK _ _ (Below.refl _ _) hW rfl
     refine ⟨fun a w hW hk K hK=>?_,?_⟩
     · obtain ⟨k0,k1,-⟩:=hk
       have k0:a.tmps.getD 85 undef=.agg #[.slice p m.length c]:=k0
       have k1:a.tmps.getD 90 undef=.agg #[.int .i64 z.op,.int .i64 z.a,.int .i64 z.b,.int .i64 z.c,.int .i64 z.k,.int .i64 z.n,.slice i3.pR z.regs.length i3.cR,.slice i3.pA z.args.length i3.cA]:=k1
       have hC:Rd Tryz.prog 74 #[.agg #[.slice p m.length c],.agg #[.int .i64 z.op,.int .i64 z.a,.int .i64 z.b,.int .i64 z.c,.int .i64 z.k,.int .i64 z.n,.slice i3.pR z.regs.length i3.cR,.slice i3.pA z.args.length i3.cA]] w (.int .i64 (MIns.form m.length z)):=insForm_any m.length z i3 p c w
       go_simp
       refine hC.mono ?_
       rintro e w9 ⟨rfl,hb⟩
       exact hK _ _ hb ⟨hW.1.below hb,Below.andThen hW.2 hb⟩ rfl
     refine ⟨fun a w hW hk K hK=>?_,?_⟩
     · obtain ⟨k0,-⟩:=hk
       have k0:a.tmps.getD 91 undef=.int .i64 (MIns.form m.length z):=k0
       go_simp
       exact hK _ _ (Below.refl _ _) hW rfl
     trivial
    case hend =>
     intro ops a87 w87 hWD hE hFD
     have hd11:a87.tmps.getD 11 undef=.int .i64 (MIns.form m.length z):=hE 11 rfl
     have hF87:Fr 112 a87 [(11,.int .i64 (MIns.form m.length z)),(2,.int .i64 (bi:Int)),(1,.int .i64 (fi:Int)),(0,.agg #[.slice p m.length c]),(3,.pointer (some ⟨B2,0,none⟩)),(6,.pointer (some ⟨B3,0,none⟩)),(7,.pointer (some ⟨B6,0,none⟩)),(8,.pointer (some ⟨B10,0,none⟩)),(9,.int .i64 (listC y.regs y.params)),(10,.int .i64 (q:Int))]:=(hFD.cons hd11)
     clear hd11
     have hW87:Wd w w87 [(B10,#[.int .i64 y.regs,.slice b2.pP y.params.length b2.cP,.slice b2.pC y.code.length b2.cC,.int .i64 y.fin.op,.int .i64 y.fin.a,.int .i64 y.fin.yes.block,.slice b2.e.pYR y.fin.yes.regs.length b2.e.cYR,.slice b2.e.pYA y.fin.yes.args.length b2.e.cYA,.int .i64 y.fin.no.block,.slice b2.e.pNR y.fin.no.regs.length b2.e.cNR,.slice b2.e.pNA y.fin.no.args.length b2.e.cNA,.slice b2.e.pA y.fin.args.length b2.e.cA],52),(B6,#[.int .i64 x.regs,.slice f1.pP x.params.length f1.cP,.slice f1.pR x.results.length f1.cR,.slice f1.pB x.blocks.length f1.cB],42),(B3,#[.int .i64 0,.int .i64 0],27),(B2,#[.slice p m.length c],25)]:=hWD.1
     clear hFD hWD hE hF86 h83
     clear hW80
     refine wpList_nil ?_
     refine hK85 _ _ ?_
     refine wp_seq_k fun K88 hK88=>?_
     refine rg hF87 fun ops=>?_;clear hF87 a87
     refine sm trivial rfl rfl ?_
     refine sne trivial rfl rfl rfl ?_
     refine St.nil fun a89 h89=>?_
     refine hK88 _ _ ?_
     refine fr_cond (t:=93) h89 rfl (fun hb=>?_) (fun hb=>?_)
     ·have h9:¬ (MIns.form m.length z)=0:=bne_iff_ne.1 hb
      have hc90:¬ (MIns.form m.length z)=0:=h9
      clear h9
      clear hb
      refine wp_seq_k fun K91 hK91=>?_
      refine rg h89 fun ops=>?_;clear h89 a89
      refine sm trivial rfl rfl ?_
      refine sm trivial rfl rfl ?_
      refine sm trivial rfl rfl ?_
      refine sm trivial rfl rfl ?_
      refine sc_3 cf75 hW87 (atIns_any (f:=fi) (b:=bi) (i:=q) ⟨by omega,by omega,by omega⟩) trivial rfl rfl rfl rfl ?_
      clear hW87;intro w92 hW92
      refine sc_2 cf36 hW92 (fF_any (xc:=MIns.form m.length z) (xp:=10000*(fi:Int)+100*(bi:Int)+(q:Int))) trivial rfl rfl rfl ?_
      clear hW92;intro w93 hW93
      refine sT 2 hW93 rfl rfl infFault rfl rfl rfl ?_
      clear hW93;intro w94 hW94
      refine St.nil fun a95 h95=>?_
      refine hK91 _ _ ?_
      refine wp_ret ?_;with_reducible repeat first | refine of_then_ret ?_ | refine of_block_ret ?_
      have:=hc44.out
      have:=hc48.out
      have:=hc57.out
      have RC:y.code' x bi=0:=(if_neg (by omega)).trans ((if_neg (by omega)).trans ((if_neg (fun h9=>takes_yes ⟨by omega,hc66⟩ h9.2)).trans ((if_neg (by omega)).trans (rfl))))
      have EF:=MBlock.fault_eq m.length fi x bi y
      rw [if_pos RC] at EF
      have RI:firstF (fun i z=>(MIns.form m.length z,(10000*fi+100*bi+i:Int))) 0 y.code=(MIns.form m.length z,(10000*fi+100*bi+q:Int)):=by
        have h9:=firstF_eq (f:=fun i z=>(MIns.form m.length z,(10000*fi+100*bi+i:Int))) (j:=0) hx3.out (fun k z hk hz=>hall3 k z hk hz) hc90
        rwa [Nat.zero_add] at h9
      rw [RI,if_neg hc90] at EF
      exact ret_box 2 h95 hW94 rfl rfl rfl Tryz.underlying27 rfl infFault ⟨by show Ending.returned (.agg #[.int .i64 (MIns.form m.length z),.int .i64 (10000*(fi:Int)+100*(bi:Int)+(q:Int))])=_;rw [EF],hW94.bel⟩
     have h9:(MIns.form m.length z)=0:=bne_eq_false_iff_eq.1 hb
     have hc96:Hid ((MIns.form m.length z)=0):=h9
     clear h9
     clear hb
     refine wp_skip ?_
     refine hK84 _ _ ?_
     refine rg h89 fun ops=>?_;clear h89 a89
     refine sm trivial rfl rfl ?_
     refine sad (by omega) trivial rfl rfl rfl ?_
     refine sa trivial rfl rfl ?_
     refine St.nil fun a97 h97=>?_
     refine hKL3 _ _ (y.code.length - (q+1)) (by omega) ⟨q+1,by omega,rfl,?_,(h97.keep (h97.keep (h97.keep (h97.keep (h97.keep (h97.keep (h97.keep (h97.keep (h97.keep h97.nil (t:=10) rfl) (t:=9) rfl) (t:=8) rfl) (t:=7) rfl) (t:=6) rfl) (t:=3) rfl) (t:=0) rfl) (t:=1) rfl) (t:=2) rfl),hW87⟩
     ·intro j z hj hz
      by_cases e:j=q
      · subst e;rw [hx3.out] at hz;cases hz;exact hc96.out
      · exact hall3 j z (by omega) hz
   have hge3:q=y.code.length:=by have:=of_decide_eq_false hb;omega
   clear hb
   refine wp_exit ?_
   refine hK77 _ _ ?_
   refine wp_seq_k fun K98 hK98=>?_
   refine wp_seq_k fun K99 hK99=>?_
   refine rg h83 fun ops=>?_;clear h83 a83
   refine sS 1 4 Tryz.underlying42 rfl infFunc hW80 trivial rfl rfl rfl rfl ?_
   refine sfBlock3 trivial rfl rfl ?_
   refine sS 0 9 Tryz.underlying50 rfl infEnd hW80 trivial rfl rfl rfl rfl ?_
   refine sc_2 cf76 hW80 (endForm_any (x:=y.fin) (e:=b2.e) (fr:=x.regs) (fp:=f1.pP) (fl:=x.params.length) (fc:=f1.cP) (fq:=f1.pR) (fm:=x.results.length) (fd:=f1.cR) (fb:=f1.pB) (bl:=x.blocks.length) (fe:=f1.cB) (by have:=hs2.out.2.2.1;exact ⟨by have:=this.1.1;omega,by have:=this.1.2;omega,by have:=this.2.1.1;omega,by have:=this.2.1.2;omega⟩) (by have:=hs1.out.1;omega)) trivial rfl rfl rfl ?_
   clear hW80;intro w100 hW100
   refine sa trivial rfl rfl ?_
   refine St.nil fun a101 h101=>?_
   refine hK99 _ _ ?_
   refine wp_seq_k fun K102 hK102=>?_
   refine rg h101 fun ops=>?_;clear h101 a101
   refine sm trivial rfl rfl ?_
   refine sne trivial rfl rfl rfl ?_
   refine St.nil fun a103 h103=>?_
   refine hK102 _ _ ?_
   refine fr_cond (t:=105) h103 rfl (fun hb=>?_) (fun hb=>?_)
   ·have h9:¬ (y.fin.form x.blocks.length)=0:=bne_iff_ne.1 hb
    have hc104:¬ (y.fin.form x.blocks.length)=0:=h9
    clear h9
    clear hb
    refine wp_seq_k fun K105 hK105=>?_
    refine rg h103 fun ops=>?_;clear h103 a103
    refine sm trivial rfl rfl ?_
    refine sm trivial rfl rfl ?_
    refine sm trivial rfl rfl ?_
    refine sc_2 cf77 hW100 (atEnd_any (f:=fi) (b:=bi) ⟨by omega,by omega⟩) trivial rfl rfl rfl ?_
    clear hW100;intro w106 hW106
    refine sc_2 cf36 hW106 (fF_any (xc:=y.fin.form x.blocks.length) (xp:=10000*(fi:Int)+100*(bi:Int)+91)) trivial rfl rfl rfl ?_
    clear hW106;intro w107 hW107
    refine sT 2 hW107 rfl rfl infFault rfl rfl rfl ?_
    clear hW107;intro w108 hW108
    refine St.nil fun a109 h109=>?_
    refine hK105 _ _ ?_
    refine wp_ret ?_;with_reducible repeat first | refine of_then_ret ?_ | refine of_block_ret ?_
    have:=hc44.out
    have:=hc48.out
    have:=hc57.out
    have RC:y.code' x bi=0:=(if_neg (by omega)).trans ((if_neg (by omega)).trans ((if_neg (fun h9=>takes_yes ⟨by omega,hc66⟩ h9.2)).trans ((if_neg (by omega)).trans (rfl))))
    have EF:=MBlock.fault_eq m.length fi x bi y
    rw [if_pos RC] at EF
    have RI:firstF (fun i z=>(MIns.form m.length z,(10000*fi+100*bi+i:Int))) 0 y.code=(0,0):=firstF_zero (fun k z hz=>hall3 k z (by have:=(List.getElem?_eq_some_iff.1 hz).1;omega) hz)
    rw [RI,if_pos rfl] at EF
    exact ret_box 2 h109 hW108 rfl rfl rfl Tryz.underlying27 rfl infFault ⟨by show Ending.returned (.agg #[.int .i64 (y.fin.form x.blocks.length),.int .i64 (10000*(fi:Int)+100*(bi:Int)+91)])=_;rw [EF];simp [atF,hc104],hW108.bel⟩
   have h9:(y.fin.form x.blocks.length)=0:=bne_eq_false_iff_eq.1 hb
   have hc110:Hid ((y.fin.form x.blocks.length)=0):=h9
   clear h9
   clear hb
   refine wp_skip ?_
   refine hK98 _ _ ?_
   refine wp_seq_k fun K111 hK111=>?_
   refine rg h103 fun ops=>?_;clear h103 a103
   intro a112 h112
   refine fr_pure (t:=111) (v:=.agg #[.int .i64 0,.int .i64 0]) (w':=w100) h112 rfl rfl rfl (fun K hK=>?_) ?_
   ·go_simp
    exact hK
   clear h112;intro a113 hF113
   refine St.go hF113 ?_;clear hF113 a113
   refine sT 2 hW100 rfl rfl infFault rfl rfl rfl ?_
   clear hW100;intro w114 hW114
   refine St.nil fun a115 h115=>?_
   refine hK111 _ _ ?_
   refine wp_ret ?_;with_reducible repeat first | refine of_then_ret ?_ | refine of_block_ret ?_
   have:=hc44.out
   have:=hc48.out
   have:=hc57.out
   have:=hc110.out
   have RC:y.code' x bi=0:=(if_neg (by omega)).trans ((if_neg (by omega)).trans ((if_neg (fun h9=>takes_yes ⟨by omega,hc66⟩ h9.2)).trans ((if_neg (by omega)).trans (rfl))))
   have EF:=MBlock.fault_eq m.length fi x bi y
   rw [if_pos RC] at EF
   have RI:firstF (fun i z=>(MIns.form m.length z,(10000*fi+100*bi+i:Int))) 0 y.code=(0,0):=firstF_zero (fun k z hz=>hall3 k z (by have:=(List.getElem?_eq_some_iff.1 hz).1;omega) hz)
   rw [RI,if_pos rfl] at EF
   exact ret_box 2 h115 hW114 rfl rfl rfl Tryz.underlying27 rfl infFault ⟨by show Ending.returned (.agg #[.int .i64 0,.int .i64 0])=_;rw [EF];simp [atF,hc110.out],hW114.bel⟩
  rw [hb] at h47
  have h9:¬ bi=0:=by have h8:=ne_of_beq_false hb;omega
  have hc116:¬ bi=0:=h9
  clear h9
  clear hb
  refine St.go h47 ?_;clear h47 a47
  refine so hg2 rfl rfl rfl rfl ?_
  refine so hg2 rfl rfl rfl rfl ?_
  refine so hg2 rfl rfl rfl rfl ?_
  refine so hg2 rfl rfl rfl rfl ?_
  refine so hg2 rfl rfl rfl rfl ?_
  refine so hg2 rfl rfl rfl rfl ?_
  refine so hg8 rfl rfl rfl rfl ?_
  refine so hg8 rfl rfl rfl rfl ?_
  refine so hg8 rfl rfl rfl rfl ?_
  refine so hg8 rfl rfl rfl rfl ?_
  refine so hg8 rfl rfl rfl rfl ?_
  refine so hg8 rfl rfl rfl rfl ?_
  refine so hg2 rfl rfl rfl rfl ?_
  refine spf trivial rfl rfl rfl ?_
  refine St.nil fun a117 h117=>?_
  refine hK46 _ _ ?_
  refine fr_false (t:=65) h117 rfl ?_
  refine wp_skip ?_
  refine hK45 _ _ ?_
  refine wp_seq_k fun K118 hK118=>?_
  refine wp_seq_k fun K119 hK119=>?_
  refine rg h117 fun ops=>?_;clear h117 a117
  refine sfBlock2 trivial rfl rfl ?_
  refine sbInss 0 hW34 trivial rfl rfl rfl rfl ?_
  refine slInss trivial rfl rfl ?_
  refine sgt trivial rfl rfl rfl ?_
  refine St.nil fun a120 h120=>?_
  refine hK119 _ _ ?_
  refine fr_cond (t:=73) h120 rfl (fun hb=>?_) (fun hb=>?_)
  ·have hc121:40<y.code.length:=by have:=of_decide_eq_true hb;omega
   clear hb
   refine wp_seq_k fun K122 hK122=>?_
   refine rg h120 fun ops=>?_;clear h120 a120
   refine sm trivial rfl rfl ?_
   refine sm trivial rfl rfl ?_
   refine sc_2 cf73 hW34 (atBlock_any (f:=fi) (b:=bi) ⟨by omega,by omega⟩) trivial rfl rfl rfl ?_
   clear hW34;intro w123 hW123
   refine sc_2 cf36 hW123 (fF_any (xc:=2) (xp:=10000*(fi:Int)+100*(bi:Int)+90)) trivial rfl rfl rfl ?_
   clear hW123;intro w124 hW124
   refine sT 2 hW124 rfl rfl infFault rfl rfl rfl ?_
   clear hW124;intro w125 hW125
   refine St.nil fun a126 h126=>?_
   refine hK122 _ _ ?_
   refine wp_ret ?_;with_reducible repeat first | refine of_then_ret ?_ | refine of_block_ret ?_
   have:=hc44.out
   have RC:y.code' x bi=2:=(if_neg (by omega)).trans ((if_neg (by omega)).trans ((if_neg (by omega)).trans (if_pos (by omega))))
   have EF:=MBlock.fault_eq m.length fi x bi y
   rw [RC,if_neg (by omega)] at EF
   exact ret_box 2 h126 hW125 rfl rfl rfl Tryz.underlying27 rfl infFault ⟨by show Ending.returned (.agg #[.int .i64 2,.int .i64 (10000*(fi:Int)+100*(bi:Int)+90)])=_;rw [EF],hW125.bel⟩
  have hc127:¬ (40<y.code.length):=by have:=of_decide_eq_false hb;omega
  clear hb
  refine wp_skip ?_
  refine hK118 _ _ ?_
  refine wp_seq_k fun K128 hK128=>?_
  refine wp_seq_k fun K129 hK129=>?_
  refine rg h120 fun ops=>?_;clear h120 a120
  refine sa trivial rfl rfl ?_
  refine St.nil fun a130 h130=>?_
  refine hK129 _ _ ?_
  refine wp_block ?_
  refine fr_loop (fun r a w'=>∃ q:Nat,q≤y.code.length∧r=y.code.length - q∧(∀ (j:Nat) z,j<q→y.code[j]?=some z→MIns.form m.length z=0)∧Fr 112 a [(2,.int .i64 (bi:Int)),(1,.int .i64 (fi:Int)),(0,.agg #[.slice p m.length c]),(3,.pointer (some ⟨B2,0,none⟩)),(6,.pointer (some ⟨B3,0,none⟩)),(7,.pointer (some ⟨B6,0,none⟩)),(8,.pointer (some ⟨B10,0,none⟩)),(9,.int .i64 (listC y.regs y.params)),(10,.int .i64 (q:Int))]∧Wd w w' [(B10,#[.int .i64 y.regs,.slice b2.pP y.params.length b2.cP,.slice b2.pC y.code.length b2.cC,.int .i64 y.fin.op,.int .i64 y.fin.a,.int .i64 y.fin.yes.block,.slice b2.e.pYR y.fin.yes.regs.length b2.e.cYR,.slice b2.e.pYA y.fin.yes.args.length b2.e.cYA,.int .i64 y.fin.no.block,.slice b2.e.pNR y.fin.no.regs.length b2.e.cNR,.slice b2.e.pNA y.fin.no.args.length b2.e.cNA,.slice b2.e.pA y.fin.args.length b2.e.cA],52),(B6,#[.int .i64 x.regs,.slice f1.pP x.params.length f1.cP,.slice f1.pR x.results.length f1.cR,.slice f1.pB x.blocks.length f1.cB],42),(B3,#[.int .i64 0,.int .i64 0],27),(B2,#[.slice p m.length c],25)]) (y.code.length) ⟨0,Nat.zero_le _,rfl,(fun j z hj=>by omega),(h130.keep (h130.keep (h130.keep (h130.keep (h130.keep (h130.keep (h130.keep (h130.keep (h130.keep h130.nil (t:=10) rfl) (t:=9) rfl) (t:=8) rfl) (t:=7) rfl) (t:=6) rfl) (t:=3) rfl) (t:=0) rfl) (t:=1) rfl) (t:=2) rfl),hW34⟩ ?_
  clear h130 hW34
  rintro r3 a131 w131 ⟨q,hq3,hr3,hall3,hF131,hW131⟩ KL3 hKL3
  refine wp_seq_k fun K132 hK132=>?_
  refine wp_seq_k fun K133 hK133=>?_
  refine rg hF131 fun ops=>?_;clear hF131 a131
  refine sm trivial rfl rfl ?_
  refine sfBlock2 trivial rfl rfl ?_
  refine sbInss 0 hW131 trivial rfl rfl rfl rfl ?_
  refine slInss trivial rfl rfl ?_
  refine slt trivial rfl rfl rfl ?_
  refine St.nil fun a134 h134=>?_
  refine hK133 _ _ ?_
  refine fr_cond (t:=82) h134 rfl (fun hb=>?_) (fun hb=>?_)
  ·have hlt3:q<y.code.length:=by have:=of_decide_eq_true hb;omega
   clear hb
   obtain ⟨z,hx3⟩:∃ v9,(y.code)[q]?=some v9:=⟨_,List.getElem?_eq_getElem hlt3⟩
   obtain ⟨g3,o3,i3,hp3,E3,In3⟩:=ins_at In2.out.code hx3
   replace In3:Hid _:=In3
   replace hp3:Hid _:=hp3
   replace hx3:Hid _:=hx3
   replace E3:Hid _:=E3
   refine wp_skip ?_
   refine hK132 _ _ ?_
   refine wp_seq_k fun K135 hK135=>?_
   refine wp_block ?_
   refine wp_seq_k fun K136 hK136=>?_
   have hF137:Fr 112 a134 [(2,.int .i64 (bi:Int)),(1,.int .i64 (fi:Int)),(0,.agg #[.slice p m.length c]),(3,.pointer (some ⟨B2,0,none⟩)),(6,.pointer (some ⟨B3,0,none⟩)),(7,.pointer (some ⟨B6,0,none⟩)),(8,.pointer (some ⟨B10,0,none⟩)),(9,.int .i64 (listC y.regs y.params)),(10,.int .i64 (q:Int))]:=(h134.keep (h134.keep (h134.keep (h134.keep (h134.keep (h134.keep (h134.keep (h134.keep (h134.keep h134.nil (t:=10) rfl) (t:=9) rfl) (t:=8) rfl) (t:=7) rfl) (t:=6) rfl) (t:=3) rfl) (t:=0) rfl) (t:=1) rfl) (t:=2) rfl)
   have ho3:a134.tmps.getD 3 undef=.pointer (some ⟨B2,0,none⟩):=h134.sl 3 _ rfl
   have ho8:a134.tmps.getD 8 undef=.pointer (some ⟨B10,0,none⟩):=h134.sl 8 _ rfl
   have ho10:a134.tmps.getD 10 undef=.int .i64 (q:Int):=h134.sl 10 _ rfl
   refine fr_draw_k 8 ([(3,fun v _=>v=.pointer (some ⟨B2,0,none⟩)),(8,fun v _=>v=.pointer (some ⟨B10,0,none⟩)),(10,fun v _=>v=.int .i64 (q:Int)),(85,fun v _=>v=.agg #[.slice p m.length c]),(86,fun v _=>v=.pointer (some ⟨B10,2,none⟩)),(87,fun v _=>v=.slice b2.pC y.code.length b2.cC),(88,fun v _=>v=.int .i64 (q:Int)),(89,fun v _=>v=.pointer (some ⟨g3,o3+q*8,none⟩)),(90,fun v _=>v=.agg #[.int .i64 z.op,.int .i64 z.a,.int .i64 z.b,.int .i64 z.c,.int .i64 z.k,.int .i64 z.n,.slice i3.pR z.regs.length i3.cR,.slice i3.pA z.args.length i3.cA]),(91,fun v _=>v=.int .i64 (MIns.form m.length z)),(11,fun v _=>v=.int .i64 (MIns.form m.length z))]:PTab) (fun w'=>Wd w w' [(B10,#[.int .i64 y.regs,.slice b2.pP y.params.length b2.cP,.slice b2.pC y.code.length b2.cC,.int .i64 y.fin.op,.int .i64 y.fin.a,.int .i64 y.fin.yes.block,.slice b2.e.pYR y.fin.yes.regs.length b2.e.cYR,.slice b2.e.pYA y.fin.yes.args.length b2.e.cYA,.int .i64 y.fin.no.block,.slice b2.e.pNR y.fin.no.regs.length b2.e.cNR,.slice b2.e.pNA y.fin.no.args.length b2.e.cNA,.slice b2.e.pA y.fin.args.length b2.e.cA],52),(B6,#[.int .i64 x.regs,.slice f1.pP x.params.length f1.cP,.slice f1.pR x.results.length f1.cR,.slice f1.pB x.blocks.length f1.cB],42),(B3,#[.int .i64 0,.int .i64 0],27),(B2,#[.slice p m.length c],25)]∧Below w131.heap.size w131 w') (fun w w'=>Below w.heap.size w w') (outs:=[3,8,10]) (gs:=[]) (bs:=[true,true,true,true,true,true,true,true]) (by kernel_rfl) hF137 rfl (by kernel_rfl) (by kernel_rfl) ?hR ?hG ⟨hW131.drewN 1,drewN_below (m:=1) (Below.refl _ _)⟩ ⟨ho3,ho8,ho10,trivial⟩ ?hA ?hend
   case hR=>exact ⟨fun _ _ _ _ h=>h,fun _ _ _ _ h=>h,fun _ _ _ _ h=>h,fun _ _ _ _ h=>h,fun _ _ _ _ h=>h,fun _ _ _ _ h=>h,fun _ _ _ _ h=>h,fun _ _ _ _ h=>h,fun _ _ _ _ h=>h,fun _ _ _ _ h=>h,fun _ _ _ _ h=>h,trivial⟩
   case hG=>exact trivial
   case hA =>
    refine ⟨fun a w hW hk K hK=>?_,?_⟩
    · obtain ⟨k0,-⟩:=hk
      have k0:a.tmps.getD 3 undef=.pointer (some ⟨B2,0,none⟩):=k0
      have c0:w.cell? ⟨B2,0,none⟩=some (.slice p m.length c):=cellOf (hW.1.get 3 rfl) 0 _ rfl
      go_simp
      exact hK _ _ (Below.refl _ _) hW rfl
    refine ⟨fun a w hW hk K hK=>?_,?_⟩
    · obtain ⟨k0,-⟩:=hk
      have k0:a.tmps.getD 8 undef=.pointer (some ⟨B10,0,none⟩):=k0
      go_simp
      exact hK _ _ (Below.refl _ _) hW rfl
    refine ⟨fun a w hW hk K hK=>?_,?_⟩
    · obtain ⟨k0,-⟩:=hk
      have k0:a.tmps.getD 86 undef=.pointer (some ⟨B10,2,none⟩):=k0
      have c2:w.cell? ⟨B10,2,none⟩=some (.slice b2.pC y.code.length b2.cC):=cellOf (hW.1.get 0 rfl) 2 _ rfl
      go_simp
      exact hK _ _ (Below.refl _ _) hW rfl
    refine ⟨fun a w hW hk K hK=>?_,?_⟩
    · obtain ⟨k0,-⟩:=hk
      have k0:a.tmps.getD 10 undef=.int .i64 (q:Int):=k0
      go_simp
      exact hK _ _ (Below.refl _ _) hW rfl
    refine ⟨fun a w hW hk K hK=>?_,?_⟩
    · obtain ⟨k0,k1,-⟩:=hk
      have k0:a.tmps.getD 87 undef=.slice b2.pC y.code.length b2.cC:=k0
      have k1:a.tmps.getD 88 undef=.int .i64 (q:Int):=k1
      have hpq:=hp3.out
      have hk0:(0:Int)≤q:=by omega
      have hk1:(q:Int)<(y.code.length:Int):=by omega
      go_simp
      exact hK _ _ (Below.refl _ _) hW rfl
    refine ⟨fun a w hW hk K hK=>?_,?_⟩
    · obtain ⟨k0,-⟩:=hk
      have k0:a.tmps.getD 89 undef=.pointer (some ⟨g3,o3+q*8,none⟩):=k0
      have d0:w.cell? ⟨g3,o3+q*8,none⟩=some (.int .i64 z.op):=bel_cell hW.1.bel (E3.out 0 _ rfl)
      have d1:w.cell? ⟨g3,o3+q*8+1,none⟩=some (.int .i64 z.a):=bel_cell hW.1.bel (E3.out 1 _ rfl)
      have d2:w.cell? ⟨g3,o3+q*8+2,none⟩=some (.int .i64 z.b):=bel_cell hW.1.bel (E3.out 2 _ rfl)
      have d3:w.cell? ⟨g3,o3+q*8+3,none⟩=some (.int .i64 z.c):=bel_cell hW.1.bel (E3.out 3 _ rfl)
      have d4:w.cell? ⟨g3,o3+q*8+4,none⟩=some (.int .i64 z.k):=bel_cell hW.1.bel (E3.out 4 _ rfl)
      have d5:w.cell? ⟨g3,o3+q*8+5,none⟩=some (.int .i64 z.n):=bel_cell hW.1.bel (E3.out 5 _ rfl)
      have d6:w.cell? ⟨g3,o3+q*8+6,none⟩=some (.slice i3.pR z.regs.length i3.cR):=bel_cell hW.1.bel (E3.out 6 _ rfl)
      have d7:w.cell? ⟨g3,o3+q*8+7,none⟩=some (.slice i3.pA z.args.length i3.cA):=bel_cell hW.1.bel (E3.out 7 _ rfl)
      go_simp
      exact hK _ _ (Below.refl _ _) hW rfl
    refine ⟨fun a w hW hk K hK=>?_,?_⟩
    · obtain ⟨k0,k1,-⟩:=hk
      have k0:a.tmps.getD 85 undef=.agg #[.slice p m.length c]:=k0
      have k1:a.tmps.getD 90 undef=.agg #[.int .i64 z.op,.int .i64 z.a,.int .i64 z.b,.int .i64 z.c,.int .i64 z.k,.int .i64 z.n,.slice i3.pR z.regs.length i3.cR,.slice i3.pA z.args.length i3.cA]:=k1
      have hC:Rd Tryz.prog 74 #[.agg #[.slice p m.length c],.agg #[.int .i64 z.op,.int .i64 z.a,.int .i64 z.b,.int .i64 z.c,.int .i64 z.k,.int .i64 z.n,.slice i3.pR z.regs.length i3.cR,.slice i3.pA z.args.length i3.cA]] w (.int .i64 (MIns.form m.length z)):=insForm_any m.length z i3 p c w
      go_simp
      refine hC.mono ?_
      rintro e w9 ⟨rfl,hb⟩
      exact hK _ _ hb ⟨hW.1.below hb,Below.andThen hW.2 hb⟩ rfl
    refine ⟨fun a w hW hk K hK=>?_,?_⟩
    · obtain ⟨k0,-⟩:=hk
      have k0:a.tmps.getD 91 undef=.int .i64 (MIns.form m.length z):=k0
      go_simp
      exact hK _ _ (Below.refl _ _) hW rfl
    trivial
   case hend =>
    intro ops a138 w138 hWD hE hFD
    have hd11:a138.tmps.getD 11 undef=.int .i64 (MIns.form m.length z):=hE 11 rfl
    have hF138:Fr 112 a138 [(11,.int .i64 (MIns.form m.length z)),(2,.int .i64 (bi:Int)),(1,.int .i64 (fi:Int)),(0,.agg #[.slice p m.length c]),(3,.pointer (some ⟨B2,0,none⟩)),(6,.pointer (some ⟨B3,0,none⟩)),(7,.pointer (some ⟨B6,0,none⟩)),(8,.pointer (some ⟨B10,0,none⟩)),(9,.int .i64 (listC y.regs y.params)),(10,.int .i64 (q:Int))]:=(hFD.cons hd11)
    clear hd11
    have hW138:Wd w w138 [(B10,#[.int .i64 y.regs,.slice b2.pP y.params.length b2.cP,.slice b2.pC y.code.length b2.cC,.int .i64 y.fin.op,.int .i64 y.fin.a,.int .i64 y.fin.yes.block,.slice b2.e.pYR y.fin.yes.regs.length b2.e.cYR,.slice b2.e.pYA y.fin.yes.args.length b2.e.cYA,.int .i64 y.fin.no.block,.slice b2.e.pNR y.fin.no.regs.length b2.e.cNR,.slice b2.e.pNA y.fin.no.args.length b2.e.cNA,.slice b2.e.pA y.fin.args.length b2.e.cA],52),(B6,#[.int .i64 x.regs,.slice f1.pP x.params.length f1.cP,.slice f1.pR x.results.length f1.cR,.slice f1.pB x.blocks.length f1.cB],42),(B3,#[.int .i64 0,.int .i64 0],27),(B2,#[.slice p m.length c],25)]:=hWD.1
    clear hFD hWD hE hF137 h134
    clear hW131
    refine wpList_nil ?_
    refine hK136 _ _ ?_
    refine wp_seq_k fun K139 hK139=>?_
    refine rg hF138 fun ops=>?_;clear hF138 a138
    refine sm trivial rfl rfl ?_
    refine sne trivial rfl rfl rfl ?_
    refine St.nil fun a140 h140=>?_
    refine hK139 _ _ ?_
    refine fr_cond (t:=93) h140 rfl (fun hb=>?_) (fun hb=>?_)
    ·have h9:¬ (MIns.form m.length z)=0:=bne_iff_ne.1 hb
     have hc141:¬ (MIns.form m.length z)=0:=h9
     clear h9
     clear hb
     refine wp_seq_k fun K142 hK142=>?_
     refine rg h140 fun ops=>?_;clear h140 a140
     refine sm trivial rfl rfl ?_
     refine sm trivial rfl rfl ?_
     refine sm trivial rfl rfl ?_
     refine sm trivial rfl rfl ?_
     refine sc_3 cf75 hW138 (atIns_any (f:=fi) (b:=bi) (i:=q) ⟨by omega,by omega,by omega⟩) trivial rfl rfl rfl rfl ?_
     clear hW138;intro w143 hW143
     refine sc_2 cf36 hW143 (fF_any (xc:=MIns.form m.length z) (xp:=10000*(fi:Int)+100*(bi:Int)+(q:Int))) trivial rfl rfl rfl ?_
     clear hW143;intro w144 hW144
     refine sT 2 hW144 rfl rfl infFault rfl rfl rfl ?_
     clear hW144;intro w145 hW145
     refine St.nil fun a146 h146=>?_
     refine hK142 _ _ ?_
     refine wp_ret ?_;with_reducible repeat first | refine of_then_ret ?_ | refine of_block_ret ?_
     have:=hc44.out
     have RC:y.code' x bi=0:=(if_neg (by omega)).trans ((if_neg (by omega)).trans ((if_neg (by omega)).trans ((if_neg (by omega)).trans (rfl))))
     have EF:=MBlock.fault_eq m.length fi x bi y
     rw [if_pos RC] at EF
     have RI:firstF (fun i z=>(MIns.form m.length z,(10000*fi+100*bi+i:Int))) 0 y.code=(MIns.form m.length z,(10000*fi+100*bi+q:Int)):=by
       have h9:=firstF_eq (f:=fun i z=>(MIns.form m.length z,(10000*fi+100*bi+i:Int))) (j:=0) hx3.out (fun k z hk hz=>hall3 k z hk hz) hc141
       rwa [Nat.zero_add] at h9
     rw [RI,if_neg hc141] at EF
     exact ret_box 2 h146 hW145 rfl rfl rfl Tryz.underlying27 rfl infFault ⟨by show Ending.returned (.agg #[.int .i64 (MIns.form m.length z),.int .i64 (10000*(fi:Int)+100*(bi:Int)+(q:Int))])=_;rw [EF],hW145.bel⟩
    have h9:(MIns.form m.length z)=0:=bne_eq_false_iff_eq.1 hb
    have hc147:Hid ((MIns.form m.length z)=0):=h9
    clear h9
    clear hb
    refine wp_skip ?_
    refine hK135 _ _ ?_
    refine rg h140 fun ops=>?_;clear h140 a140
    refine sm trivial rfl rfl ?_
    refine sad (by omega) trivial rfl rfl rfl ?_
    refine sa trivial rfl rfl ?_
    refine St.nil fun a148 h148=>?_
    refine hKL3 _ _ (y.code.length - (q+1)) (by omega) ⟨q+1,by omega,rfl,?_,(h148.keep (h148.keep (h148.keep (h148.keep (h148.keep (h148.keep (h148.keep (h148.keep (h148.keep h148.nil (t:=10) rfl) (t:=9) rfl) (t:=8) rfl) (t:=7) rfl) (t:=6) rfl) (t:=3) rfl) (t:=0) rfl) (t:=1) rfl) (t:=2) rfl),hW138⟩
    ·intro j z hj hz
     by_cases e:j=q
     · subst e;rw [hx3.out] at hz;cases hz;exact hc147.out
     · exact hall3 j z (by omega) hz
  have hge3:q=y.code.length:=by have:=of_decide_eq_false hb;omega
  clear hb
  refine wp_exit ?_
  refine hK128 _ _ ?_
  refine wp_seq_k fun K149 hK149=>?_
  refine wp_seq_k fun K150 hK150=>?_
  refine rg h134 fun ops=>?_;clear h134 a134
  refine sS 1 4 Tryz.underlying42 rfl infFunc hW131 trivial rfl rfl rfl rfl ?_
  refine sfBlock3 trivial rfl rfl ?_
  refine sS 0 9 Tryz.underlying50 rfl infEnd hW131 trivial rfl rfl rfl rfl ?_
  refine sc_2 cf76 hW131 (endForm_any (x:=y.fin) (e:=b2.e) (fr:=x.regs) (fp:=f1.pP) (fl:=x.params.length) (fc:=f1.cP) (fq:=f1.pR) (fm:=x.results.length) (fd:=f1.cR) (fb:=f1.pB) (bl:=x.blocks.length) (fe:=f1.cB) (by have:=hs2.out.2.2.1;exact ⟨by have:=this.1.1;omega,by have:=this.1.2;omega,by have:=this.2.1.1;omega,by have:=this.2.1.2;omega⟩) (by have:=hs1.out.1;omega)) trivial rfl rfl rfl ?_
  clear hW131;intro w151 hW151
  refine sa trivial rfl rfl ?_
  refine St.nil fun a152 h152=>?_
  refine hK150 _ _ ?_
  refine wp_seq_k fun K153 hK153=>?_
  refine rg h152 fun ops=>?_;clear h152 a152
  refine sm trivial rfl rfl ?_
  refine sne trivial rfl rfl rfl ?_
  refine St.nil fun a154 h154=>?_
  refine hK153 _ _ ?_
  refine fr_cond (t:=105) h154 rfl (fun hb=>?_) (fun hb=>?_)
  ·have h9:¬ (y.fin.form x.blocks.length)=0:=bne_iff_ne.1 hb
   have hc155:¬ (y.fin.form x.blocks.length)=0:=h9
   clear h9
   clear hb
   refine wp_seq_k fun K156 hK156=>?_
   refine rg h154 fun ops=>?_;clear h154 a154
   refine sm trivial rfl rfl ?_
   refine sm trivial rfl rfl ?_
   refine sm trivial rfl rfl ?_
   refine sc_2 cf77 hW151 (atEnd_any (f:=fi) (b:=bi) ⟨by omega,by omega⟩) trivial rfl rfl rfl ?_
   clear hW151;intro w157 hW157
   refine sc_2 cf36 hW157 (fF_any (xc:=y.fin.form x.blocks.length) (xp:=10000*(fi:Int)+100*(bi:Int)+91)) trivial rfl rfl rfl ?_
   clear hW157;intro w158 hW158
   refine sT 2 hW158 rfl rfl infFault rfl rfl rfl ?_
   clear hW158;intro w159 hW159
   refine St.nil fun a160 h160=>?_
   refine hK156 _ _ ?_
   refine wp_ret ?_;with_reducible repeat first | refine of_then_ret ?_ | refine of_block_ret ?_
   have:=hc44.out
   have RC:y.code' x bi=0:=(if_neg (by omega)).trans ((if_neg (by omega)).trans ((if_neg (by omega)).trans ((if_neg (by omega)).trans (rfl))))
   have EF:=MBlock.fault_eq m.length fi x bi y
   rw [if_pos RC] at EF
   have RI:firstF (fun i z=>(MIns.form m.length z,(10000*fi+100*bi+i:Int))) 0 y.code=(0,0):=firstF_zero (fun k z hz=>hall3 k z (by have:=(List.getElem?_eq_some_iff.1 hz).1;omega) hz)
   rw [RI,if_pos rfl] at EF
   exact ret_box 2 h160 hW159 rfl rfl rfl Tryz.underlying27 rfl infFault ⟨by show Ending.returned (.agg #[.int .i64 (y.fin.form x.blocks.length),.int .i64 (10000*(fi:Int)+100*(bi:Int)+91)])=_;rw [EF];simp [atF,hc155],hW159.bel⟩
  have h9:(y.fin.form x.blocks.length)=0:=bne_eq_false_iff_eq.1 hb
  have hc161:Hid ((y.fin.form x.blocks.length)=0):=h9
  clear h9
  clear hb
  refine wp_skip ?_
  refine hK149 _ _ ?_
  refine wp_seq_k fun K162 hK162=>?_
  refine rg h154 fun ops=>?_;clear h154 a154
  intro a163 h163
  refine fr_pure (t:=111) (v:=.agg #[.int .i64 0,.int .i64 0]) (w':=w151) h163 rfl rfl rfl (fun K hK=>?_) ?_
  ·go_simp
   exact hK
  clear h163;intro a164 hF164
  refine St.go hF164 ?_;clear hF164 a164
  refine sT 2 hW151 rfl rfl infFault rfl rfl rfl ?_
  clear hW151;intro w165 hW165
  refine St.nil fun a166 h166=>?_
  refine hK162 _ _ ?_
  refine wp_ret ?_;with_reducible repeat first | refine of_then_ret ?_ | refine of_block_ret ?_
  have:=hc44.out
  have:=hc161.out
  have RC:y.code' x bi=0:=(if_neg (by omega)).trans ((if_neg (by omega)).trans ((if_neg (by omega)).trans ((if_neg (by omega)).trans (rfl))))
  have EF:=MBlock.fault_eq m.length fi x bi y
  rw [if_pos RC] at EF
  have RI:firstF (fun i z=>(MIns.form m.length z,(10000*fi+100*bi+i:Int))) 0 y.code=(0,0):=firstF_zero (fun k z hz=>hall3 k z (by have:=(List.getElem?_eq_some_iff.1 hz).1;omega) hz)
  rw [RI,if_pos rfl] at EF
  exact ret_box 2 h166 hW165 rfl rfl rfl Tryz.underlying27 rfl infFault ⟨by show Ending.returned (.agg #[.int .i64 0,.int .i64 0])=_;rw [EF];simp [atF,hc161.out],hW165.bel⟩
end Go.Proofs.YtalfbnllodhkiacGreatDoor
