import Derived.Test.YtalfbnllodhkiacGreatDoorP4
set_option maxHeartbeats 16000000
set_option maxRecDepth 100000
namespace Go.Proofs.YtalfbnllodhkiacGreatDoor
open Go.ChangeShapes Go.WideShapes Go.ChangeAt Go.RowKit
set_option linter.unusedSimpArgs false
set_option linter.unusedVariables false
theorem ownModule_any {n : Nat} (m : List (MFunc n)) (p : Option Addr) (c : Nat) (w : World) (h : (modL n).In w All m [.slice p m.length c]) (hs0 : msmall m) :
    Calls Tryz.prog 19 #[.agg #[.slice p m.length c]] w fun e w'=>∃ v,e=.returned v∧(∃ a' c',v=.agg #[.slice a' m.length c']∧(modL n).In w' (From w.heap.size) m [.slice a' m.length c'])∧Below w.heap.size w w':=by
  have hm:Hid _:=h;have hs:Hid _:=hs0;have hn1:=hs0.1;clear h hs0;obtain ⟨iF,hiF,hzF0,hzF1,hzF2⟩:=parts_of infoFunc;obtain ⟨iB,hiB,hzB0,hzB1,hzB2⟩:=parts_of infoBlock;obtain ⟨iI,hiI,hzI0,hzI1,hzI2⟩:=parts_of infoIns;refine fr_enter (n:=110) Tryz.func19 rfl rfl rfl ?_;intro a hF;have hW:=Wd.start w;replace hF:Fr 110 a [(0,.agg #[.slice p m.length c])]:=hF;refine wp_seq_k fun K1 hK1=>?_;refine rg hF fun ops=>?_;clear hF a;refine sB hW trivial rfl rfl ?_;clear hW;intro w2 B2 hW2 hN;clear hN;refine sAModule hW2 trivial rfl ?_;clear hW2;intro w3 B3 hW3 hN;clear hN;refine St.nil fun a4 h4=>?_;refine hK1 _ _ ?_;refine wp_seq_k fun K5 hK5=>?_;refine rg h4 fun ops=>?_;clear h4 a4;refine sAModule hW3 trivial rfl ?_;clear hW3;intro w6 B6 hW6 hN;clear hN;refine St.nil fun a7 h7=>?_;refine hK5 _ _ ?_;refine wp_seq_k fun K8 hK8=>?_;refine wp_seq_k fun K9 hK9=>?_;refine rg h7 fun ops=>?_;clear h7 a7;refine sa trivial rfl rfl ?_;refine St.nil fun a10 h10=>?_;refine hK9 _ _ ?_;refine wp_block ?_;have hlo1:w.heap.size≤w6.heap.size:=hW6.bel.size;have hlB6:B6<w6.heap.size:=(hW6.get 0 rfl).lt;have hlB3:B3<w6.heap.size:=(hW6.get 1 rfl).lt;have hlB2:B2<w6.heap.size:=(hW6.get 2 rfl).lt;refine fr_loop (fun r a w'=>∃ q1:Nat,q1≤m.length∧r=m.length - q1∧∃ v1 xs,ARow (funcL n) 42 w' w6.heap.size v1 (m.take q1) xs∧KeepBut w6.heap.size B6 w6 w'∧w6.heap.size≤w'.heap.size∧Fr 110 a [(0,.agg #[.slice p m.length c]),(1,.pointer (some ⟨B2,0,none⟩)),(2,.pointer (some ⟨B3,0,none⟩)),(3,.pointer (some ⟨B6,0,none⟩)),(4,.int .i64 (q1:Int))]∧Wd w w' [(B6,#[v1],25),(B3,#[.slice none 0 0],25),(B2,#[.slice p m.length c],25)]) (m.length) ⟨0,Nat.zero_le _,rfl,.slice none 0 0,[],ARow.nil' _ _ _ _,KeepBut.refl _ _ _,Nat.le_refl _,(h10.keep (h10.keep (h10.keep (h10.keep (h10.keep h10.nil (t:=4) rfl) (t:=3) rfl) (t:=2) rfl) (t:=1) rfl) (t:=0) rfl),hW6⟩ ?_;clear h10 hW6;rintro r1 a11 w11 ⟨q1,hq1,hr1,v1,xs1,hA0,hK0,hz1,hF11,hWo1⟩ KL1 hKL1;have hA1:Hid _:=hA0;have hK1:Hid _:=hK0;clear hA0 hK0;have hW11:=Wd.start w11;have hkB6:Hid (Blk w11 B6 #[v1] 25):=hWo1.get 0 rfl;have hkB3:Hid (Blk w11 B3 #[.slice none 0 0] 25):=hWo1.get 1 rfl;have hkB2:Hid (Blk w11 B2 #[.slice p m.length c] 25):=hWo1.get 2 rfl;refine wp_seq_k fun K12 hK12=>?_;refine wp_seq_k fun K13 hK13=>?_;refine rg hF11 fun ops=>?_;clear hF11 a11;refine sm trivial rfl rfl ?_;refine sfModule0 trivial rfl rfl ?_;refine scFuncs (bel_cell hW11.bel (cellOf hkB2.out 0 _ rfl)) trivial rfl rfl ?_;refine slFuncs trivial rfl rfl ?_;refine slt trivial rfl rfl rfl ?_;refine St.nil fun a14 h14=>?_;refine hK13 _ _ ?_;refine fr_cond (t:=16) h14 rfl (fun hb=>?_) (fun hb=>?_)
  ·have hlt1:q1<m.length:=by have:=of_decide_eq_true hb;omega
   clear hb;obtain ⟨x,hx1⟩:∃ v9,(m)[q1]?=some v9:=⟨_,List.getElem?_eq_getElem hlt1⟩;obtain ⟨g1,o1,f1,hp1,E1,In1⟩:=func_at (Lay.below hm.out hWo1.bel) hx1;replace In1:Hid _:=In1;replace hp1:Hid _:=hp1;replace hx1:Hid _:=hx1;replace E1:Hid _:=E1;have hs1:Hid _:=hs.out.2 x (List.mem_of_getElem? hx1.out);have hn2:=hs1.out.1;refine wp_skip ?_;refine hK12 _ _ ?_;refine wp_seq_k fun K15 hK15=>?_;refine wp_block ?_;refine wp_seq_k fun K16 hK16=>?_;refine rg h14 fun ops=>?_;clear h14 a14;refine sfModule0 trivial rfl rfl ?_;refine scFuncs (bel_cell hW11.bel (cellOf hkB2.out 0 _ rfl)) trivial rfl rfl ?_;refine sm trivial rfl rfl ?_;refine siFuncs hp1.out hlt1 trivial rfl rfl rfl ?_;refine sSE Tryz.underlying42 rfl (rangeAt_bel E1.out hW11.bel) infFunc trivial rfl rfl ?_;refine sAFunc hW11 trivial rfl ?_;clear hW11;intro w17 B17 hW17 hN;clear hN;refine sT 0 hW17 rfl rfl infFunc rfl rfl rfl ?_;clear hW17;intro w18 hW18;refine St.nil fun a19 h19=>?_;refine hK16 _ _ ?_;refine wp_seq_k fun K20 hK20=>?_;have hF21:Fr 110 a19 [(0,.agg #[.slice p m.length c]),(1,.pointer (some ⟨B2,0,none⟩)),(2,.pointer (some ⟨B3,0,none⟩)),(3,.pointer (some ⟨B6,0,none⟩)),(4,.int .i64 (q1:Int)),(5,.pointer (some ⟨B17,0,none⟩))]:=(h19.keep (h19.keep (h19.keep (h19.keep (h19.keep (h19.keep h19.nil (t:=5) rfl) (t:=4) rfl) (t:=3) rfl) (t:=2) rfl) (t:=1) rfl) (t:=0) rfl);have ho5:a19.tmps.getD 5 undef=.pointer (some ⟨B17,0,none⟩):=h19.sl 5 _ rfl
   have hDS:DStable (Z:=Option Addr × Nat × Option Addr × Nat) [(4,fun z w O=>(typesL n).In w O x.params [.slice z.1 x.params.length z.2.1]),(7,fun z w O=>(typesL n).In w O x.results [.slice z.2.2.1 x.results.length z.2.2.2])]:=by
     intro x hx;simp only [List.mem_cons,List.not_mem_nil,or_false] at hx;rcases hx with rfl | rfl
     · intro z w w9 O hk h;exact (typesL n).keep hk (fun _ h _=>h) h
     · intro z w w9 O hk h;exact (typesL n).keep hk (fun _ h _=>h) h
   refine fr_draw4 (Z:=Option Addr × Nat × Option Addr × Nat) [(0,24),(1,25),(2,26),(3,27),(4,28),(5,29),(6,30),(7,31),(8,32)] [(9,6,4,42)] [(10,6,4,42)] (fun z=>[(24,.pointer (some ⟨B17,0,none⟩)),(25,.int .i64 x.regs),(26,.pointer (some ⟨B17,1,none⟩)),(27,.slice f1.pP x.params.length f1.cP),(28,.slice z.1 x.params.length z.2.1),(29,.pointer (some ⟨B17,2,none⟩)),(30,.slice f1.pR x.results.length f1.cR),(31,.slice z.2.2.1 x.results.length z.2.2.2),(32,.agg #[.int .i64 x.regs,.slice z.1 x.params.length z.2.1,.slice z.2.2.1 x.results.length z.2.2.2,.slice none 0 0])]) (fun z=>[(6,[.int .i64 x.regs,.slice z.1 x.params.length z.2.1,.slice z.2.2.1 x.results.length z.2.2.2,.slice none 0 0])]) [(4,fun z w O=>(typesL n).In w O x.params [.slice z.1 x.params.length z.2.1]),(7,fun z w O=>(typesL n).In w O x.results [.slice z.2.2.1 x.results.length z.2.2.2])] (none,0,none,0) (by kernel_rfl) hF21 (by kernel_rfl) (by kernel_rfl) (fun hDB=>?hst) ?hend
   case hst =>
    refine ⟨fun S a1 w1 hS hd hcl hI0 K hK=>?_,?_⟩
    · obtain ⟨⟨p28,c28,p31,c31⟩,hI⟩:=hI0;have hWd:=hW18.below hI.1.bel;have k0:a1.tmps.getD 5 undef=.pointer (some ⟨B17,0,none⟩):=((hI.1.outer 5 (by kernel_rfl)).trans ho5);go_simp;exact hK _ _ (DMz.pure hDS hDB hI (i:=0) (t:=24) (by decide) rfl hS (Below.refl _ _) (by kernel_rfl) (by kernel_rfl) rfl)
    refine ⟨fun S a1 w1 hS hd hcl hI0 K hK=>?_,?_⟩
    · obtain ⟨⟨p28,c28,p31,c31⟩,hI⟩:=hI0;have hWd:=hW18.below hI.1.bel;have k0:a1.tmps.getD 24 undef=.pointer (some ⟨B17,0,none⟩):=(hI.1.vals (0,24) (by decide) (hd.at 0 (by kernel_rfl)) _ rfl);have c0:w1.cell? ⟨B17,0,none⟩=some (.int .i64 x.regs):=cellOf (hWd.get 0 rfl) 0 _ rfl;go_simp;exact hK _ _ (DMz.pure hDS hDB hI (i:=1) (t:=25) (by decide) rfl hS (Below.refl _ _) (by kernel_rfl) (by kernel_rfl) rfl)
    refine ⟨fun S a1 w1 hS hd hcl hI0 K hK=>?_,?_⟩
    · obtain ⟨⟨p28,c28,p31,c31⟩,hI⟩:=hI0;have hWd:=hW18.below hI.1.bel;have k0:a1.tmps.getD 5 undef=.pointer (some ⟨B17,0,none⟩):=((hI.1.outer 5 (by kernel_rfl)).trans ho5);go_simp;exact hK _ _ (DMz.pure hDS hDB hI (i:=2) (t:=26) (by decide) rfl hS (Below.refl _ _) (by kernel_rfl) (by kernel_rfl) rfl)
    refine ⟨fun S a1 w1 hS hd hcl hI0 K hK=>?_,?_⟩
    · obtain ⟨⟨p28,c28,p31,c31⟩,hI⟩:=hI0;have hWd:=hW18.below hI.1.bel;have k0:a1.tmps.getD 26 undef=.pointer (some ⟨B17,1,none⟩):=(hI.1.vals (2,26) (by decide) (hd.at 2 (by kernel_rfl)) _ rfl);have c1:w1.cell? ⟨B17,1,none⟩=some (.slice f1.pP x.params.length f1.cP):=cellOf (hWd.get 0 rfl) 1 _ rfl;go_simp;exact hK _ _ (DMz.pure hDS hDB hI (i:=3) (t:=27) (by decide) rfl hS (Below.refl _ _) (by kernel_rfl) (by kernel_rfl) rfl)
    refine ⟨fun S a1 w1 hS hd hcl hI0 K hK=>?_,?_⟩
    · obtain ⟨⟨p28,c28,p31,c31⟩,hI⟩:=hI0;have hWd:=hW18.below hI.1.bel;have k0:a1.tmps.getD 27 undef=.slice f1.pP x.params.length f1.cP:=(hI.1.vals (3,27) (by decide) (hd.at 3 (by kernel_rfl)) _ rfl);go_simp;refine (rOwnTypes_any (Lay.below In1.out.params hWd.bel) hs1.out.2.1).mono ?_;rintro e w9 ⟨p28n,c28n,rfl,h9,hb⟩;refine hK _ _ (DMz.call hDS hDB hI (z':=(p28n,c28n,p31,c31)) (i:=4) (t:=28) (by decide) rfl hS hcl hb (by kernel_rfl) (by kernel_rfl) [7,8,10] (by kernel_rfl) ?_ ?_ ?_)
      · intro x hx;simp only [List.mem_cons,List.not_mem_nil,or_false] at hx;rcases hx with rfl | rfl | rfl | rfl | rfl | rfl | rfl | rfl | rfl
        all_goals first | exact .inr (.inr rfl) | exact .inl (by decide) | exact .inr (.inl rfl)
      · intro x hx;simp only [List.mem_cons,List.not_mem_nil,or_false] at hx;rcases hx with rfl
        all_goals exact .inl (by decide)
      · intro x hx;simp only [List.mem_cons,List.not_mem_nil,or_false] at hx;rcases hx with rfl | rfl
        · exact .inl ⟨rfl,fun k=>w1.heap.size≤k∧k<w9.heap.size,Lay.mono h9 (fun k hk hl=>⟨hk,hl⟩),fun k hk=>hk⟩
        · exact .inr ⟨show (7:Nat)≠4 from by decide,fun w O h=>h⟩
    refine ⟨fun S a1 w1 hS hd hcl hI0 K hK=>?_,?_⟩
    · obtain ⟨⟨p28,c28,p31,c31⟩,hI⟩:=hI0;have hWd:=hW18.below hI.1.bel;have k0:a1.tmps.getD 5 undef=.pointer (some ⟨B17,0,none⟩):=((hI.1.outer 5 (by kernel_rfl)).trans ho5);go_simp;exact hK _ _ (DMz.pure hDS hDB hI (i:=5) (t:=29) (by decide) rfl hS (Below.refl _ _) (by kernel_rfl) (by kernel_rfl) rfl)
    refine ⟨fun S a1 w1 hS hd hcl hI0 K hK=>?_,?_⟩
    · obtain ⟨⟨p28,c28,p31,c31⟩,hI⟩:=hI0;have hWd:=hW18.below hI.1.bel;have k0:a1.tmps.getD 29 undef=.pointer (some ⟨B17,2,none⟩):=(hI.1.vals (5,29) (by decide) (hd.at 5 (by kernel_rfl)) _ rfl);have c2:w1.cell? ⟨B17,2,none⟩=some (.slice f1.pR x.results.length f1.cR):=cellOf (hWd.get 0 rfl) 2 _ rfl;go_simp;exact hK _ _ (DMz.pure hDS hDB hI (i:=6) (t:=30) (by decide) rfl hS (Below.refl _ _) (by kernel_rfl) (by kernel_rfl) rfl)
    refine ⟨fun S a1 w1 hS hd hcl hI0 K hK=>?_,?_⟩
    · obtain ⟨⟨p28,c28,p31,c31⟩,hI⟩:=hI0;have hWd:=hW18.below hI.1.bel;have k0:a1.tmps.getD 30 undef=.slice f1.pR x.results.length f1.cR:=(hI.1.vals (6,30) (by decide) (hd.at 6 (by kernel_rfl)) _ rfl);go_simp;refine (rOwnTypes_any (Lay.below In1.out.results hWd.bel) hs1.out.2.2.1).mono ?_;rintro e w9 ⟨p31n,c31n,rfl,h9,hb⟩;refine hK _ _ (DMz.call hDS hDB hI (z':=(p28,c28,p31n,c31n)) (i:=7) (t:=31) (by decide) rfl hS hcl hb (by kernel_rfl) (by kernel_rfl) [8,10] (by kernel_rfl) ?_ ?_ ?_)
      · intro x hx;simp only [List.mem_cons,List.not_mem_nil,or_false] at hx;rcases hx with rfl | rfl | rfl | rfl | rfl | rfl | rfl | rfl | rfl
        all_goals first | exact .inr (.inr rfl) | exact .inl (by decide) | exact .inr (.inl rfl)
      · intro x hx;simp only [List.mem_cons,List.not_mem_nil,or_false] at hx;rcases hx with rfl
        all_goals exact .inl (by decide)
      · intro x hx;simp only [List.mem_cons,List.not_mem_nil,or_false] at hx;rcases hx with rfl | rfl
        · exact .inr ⟨show (4:Nat)≠7 from by decide,fun w O h=>h⟩
        · exact .inl ⟨rfl,fun k=>w1.heap.size≤k∧k<w9.heap.size,Lay.mono h9 (fun k hk hl=>⟨hk,hl⟩),fun k hk=>hk⟩
    refine ⟨fun S a1 w1 hS hd hcl hI0 K hK=>?_,?_⟩
    · obtain ⟨⟨p28,c28,p31,c31⟩,hI⟩:=hI0;have hWd:=hW18.below hI.1.bel;have k0:a1.tmps[25]?.getD undef=.int .i64 x.regs:=by rw [← Array.getD_eq_getD_getElem?];exact (hI.1.vals (1,25) (by decide) (hd.at 1 (by kernel_rfl)) _ rfl)
      have k1:a1.tmps[28]?.getD undef=.slice p28 x.params.length c28:=by rw [← Array.getD_eq_getD_getElem?];exact (hI.1.vals (4,28) (by decide) (hd.at 4 (by kernel_rfl)) _ rfl)
      have k2:a1.tmps[31]?.getD undef=.slice p31 x.results.length c31:=by rw [← Array.getD_eq_getD_getElem?];exact (hI.1.vals (7,31) (by decide) (hd.at 7 (by kernel_rfl)) _ rfl)
      go_simp;exact hK _ _ (DMz.pure hDS hDB hI (i:=8) (t:=32) (by decide) rfl hS (Below.refl _ _) (by kernel_rfl) (by kernel_rfl) rfl)
    refine ⟨fun S a1 w1 hS hd hcl hI0 K hK=>?_,?_⟩
    · obtain ⟨⟨p28,c28,p31,c31⟩,hI⟩:=hI0;go_simp;exact hK _ _ (DMz.alloc hDS hDB hI (i:=9) (t:=6) (s:=4) (ty:=42) (by decide) rfl hS hcl (by kernel_rfl) (by kernel_rfl) rfl)
    refine ⟨fun S a1 w1 hS hd hcl hI0 K hK=>?_,?_⟩
    · obtain ⟨⟨p28,c28,p31,c31⟩,hI⟩:=hI0;have k0:a1.tmps.getD 32 undef=.agg #[.int .i64 x.regs,.slice p28 x.params.length c28,.slice p31 x.results.length c31,.slice none 0 0]:=(hI.1.vals (8,32) (by decide) (hd.at 8 (by kernel_rfl)) _ rfl);obtain ⟨B,kB,hlo,c0,hBk,hcs⟩:=hI.1.box (i:=9) (t:=6) (s:=4) (ty:=42) (by decide) (hd.at 9 (by kernel_rfl));exact wp_fill hBk kB k0 infFunc rfl hcs.symm (hK _ _ (DMz.store hDS hDB hI (i:=10) (t:=6) (s:=4) (ty:=42) (j:=9) (by decide) (by decide) (hd.at 9 (by kernel_rfl)) kB hBk hcs hlo rfl rfl hS hcl (by kernel_rfl) (by kernel_rfl) rfl))
    trivial
   case hend =>
    rintro ⟨p28,c28,p31,c31⟩ S a22 w22 hS hD hFD;obtain ⟨BD6,hd6,hBl6,hBk6⟩:=hD.1.full (j:=9) (i:=10) (t:=6) (s:=4) (ty:=42) (by decide) (hS _ (by decide)) (by decide) (hS _ (by decide)) rfl;have hF22:Fr 110 a22 [(6,.pointer (some ⟨BD6,0,none⟩)),(0,.agg #[.slice p m.length c]),(1,.pointer (some ⟨B2,0,none⟩)),(2,.pointer (some ⟨B3,0,none⟩)),(3,.pointer (some ⟨B6,0,none⟩)),(4,.int .i64 (q1:Int)),(5,.pointer (some ⟨B17,0,none⟩))]:=(hFD.cons hd6);obtain ⟨O9,hN28,hO9⟩:=hD.2 _ List.mem_cons_self (hS 4 (by decide));replace hN28:=Lay.mono (show (typesL n).In _ _ x.params [.slice p28 x.params.length c28] from hN28) (O':=fun k=>w18.heap.size≤k∧k<w22.heap.size∧k≠BD6) (fun k hk _=>⟨(hO9.1 k hk).1,(hO9.1 k hk).2,fun e=>hO9.2 (9,6,4,42) (by decide) (hS _ (by decide)) BD6 hd6 (e ▸ hk)⟩);clear hO9;obtain ⟨O9,hN31,hO9⟩:=hD.2 _ (List.mem_cons_of_mem _ List.mem_cons_self) (hS 7 (by decide));replace hN31:=Lay.mono (show (typesL n).In _ _ x.results [.slice p31 x.results.length c31] from hN31) (O':=fun k=>w18.heap.size≤k∧k<w22.heap.size∧k≠BD6) (fun k hk _=>⟨(hO9.1 k hk).1,(hO9.1 k hk).2,fun e=>hO9.2 (9,6,4,42) (by decide) (hS _ (by decide)) BD6 hd6 (e ▸ hk)⟩);clear hO9;have hsD:w18.heap.size≤w22.heap.size:=hD.1.bel.size;have hW22:Wd w11 w22 [(BD6,#[.int .i64 x.regs,.slice p28 x.params.length c28,.slice p31 x.results.length c31,.slice none 0 0],42),(B17,#[.int .i64 x.regs,.slice f1.pP x.params.length f1.cP,.slice f1.pR x.results.length f1.cR,.slice f1.pB x.blocks.length f1.cB],42)]:=Wd.add (hW18.below hD.1.bel) hBk6 hW18 hBl6;have hsd2:w11.heap.size≤w18.heap.size:=hW18.bel.size;clear hS hD hFD hDS hW18 hd6;clear hBk6;refine hK20 _ _ ?_;refine wp_seq_k fun K23 hK23=>?_;refine wp_seq_k fun K24 hK24=>?_;refine rg hF22 fun ops=>?_;clear hF22 a22;refine sa trivial rfl rfl ?_;refine St.nil fun a25 h25=>?_;refine hK24 _ _ ?_;refine wp_block ?_;have hlo2:w11.heap.size≤w22.heap.size:=hW22.bel.size;have hlBD6:BD6<w22.heap.size:=(hW22.get 0 rfl).lt;have hlB17:B17<w22.heap.size:=(hW22.get 1 rfl).lt;refine fr_loop (fun r a w'=>∃ q2:Nat,q2≤x.blocks.length∧r=x.blocks.length - q2∧∃ v2 xs,ARow (blockL n) 52 w' w22.heap.size v2 (x.blocks.take q2) xs∧KeepBut w22.heap.size BD6 w22 w'∧w22.heap.size≤w'.heap.size∧Fr 110 a [(0,.agg #[.slice p m.length c]),(1,.pointer (some ⟨B2,0,none⟩)),(2,.pointer (some ⟨B3,0,none⟩)),(3,.pointer (some ⟨B6,0,none⟩)),(4,.int .i64 (q1:Int)),(5,.pointer (some ⟨B17,0,none⟩)),(6,.pointer (some ⟨BD6,0,none⟩)),(7,.int .i64 (q2:Int))]∧Wd w11 w' [(BD6,#[.int .i64 x.regs,.slice p28 x.params.length c28,.slice p31 x.results.length c31,v2],42),(B17,#[.int .i64 x.regs,.slice f1.pP x.params.length f1.cP,.slice f1.pR x.results.length f1.cR,.slice f1.pB x.blocks.length f1.cB],42)]) (x.blocks.length) ⟨0,Nat.zero_le _,rfl,.slice none 0 0,[],ARow.nil' _ _ _ _,KeepBut.refl _ _ _,Nat.le_refl _,(h25.keep (h25.keep (h25.keep (h25.keep (h25.keep (h25.keep (h25.keep (h25.keep h25.nil (t:=7) rfl) (t:=6) rfl) (t:=5) rfl) (t:=4) rfl) (t:=3) rfl) (t:=2) rfl) (t:=1) rfl) (t:=0) rfl),hW22⟩ ?_;clear h25 hW22;rintro r2 a26 w26 ⟨q2,hq2,hr2,v2,xs2,hA0,hK0,hz2,hF26,hWo2⟩ KL2 hKL2;have hA2:Hid _:=hA0;have hK2:Hid _:=hK0;clear hA0 hK0;have hW26:=Wd.start w26;have hkBD6:Hid (Blk w26 BD6 #[.int .i64 x.regs,.slice p28 x.params.length c28,.slice p31 x.results.length c31,v2] 42):=hWo2.get 0 rfl;have hkB17:Hid (Blk w26 B17 #[.int .i64 x.regs,.slice f1.pP x.params.length f1.cP,.slice f1.pR x.results.length f1.cR,.slice f1.pB x.blocks.length f1.cB] 42):=hWo2.get 1 rfl;refine wp_seq_k fun K27 hK27=>?_;refine wp_seq_k fun K28 hK28=>?_;refine rg hF26 fun ops=>?_;clear hF26 a26;refine sm trivial rfl rfl ?_;refine sfFunc3 trivial rfl rfl ?_;refine scBlocks (bel_cell hW26.bel (cellOf hkB17.out 3 _ rfl)) trivial rfl rfl ?_;refine slBlocks trivial rfl rfl ?_;refine slt trivial rfl rfl rfl ?_;refine St.nil fun a29 h29=>?_;refine hK28 _ _ ?_;refine fr_cond (t:=37) h29 rfl (fun hb=>?_) (fun hb=>?_)
    ·have hlt2:q2<x.blocks.length:=by have:=of_decide_eq_true hb;omega
     clear hb;obtain ⟨y,hx2⟩:∃ v9,(x.blocks)[q2]?=some v9:=⟨_,List.getElem?_eq_getElem hlt2⟩;obtain ⟨g2,o2,b2,hp2,E2,In2⟩:=block_at (Lay.below In1.out.blocks hWo2.bel) hx2;replace In2:Hid _:=In2;replace hp2:Hid _:=hp2;replace hx2:Hid _:=hx2;replace E2:Hid _:=E2;have hs2:Hid _:=hs1.out.2.2.2 y (List.mem_of_getElem? hx2.out);have hn3:=hs2.out.1;refine wp_skip ?_;refine hK27 _ _ ?_;refine wp_seq_k fun K30 hK30=>?_;refine wp_block ?_;refine wp_seq_k fun K31 hK31=>?_;refine rg h29 fun ops=>?_;clear h29 a29;refine sfFunc3 trivial rfl rfl ?_;refine scBlocks (bel_cell hW26.bel (cellOf hkB17.out 3 _ rfl)) trivial rfl rfl ?_;refine sm trivial rfl rfl ?_;refine siBlocks hp2.out hlt2 trivial rfl rfl rfl ?_;refine sSE Tryz.underlying52 rfl (rangeAt_bel E2.out hW26.bel) infBlock trivial rfl rfl ?_;refine sABlock hW26 trivial rfl ?_;clear hW26;intro w32 B32 hW32 hN;clear hN;refine sT 0 hW32 rfl rfl infBlock rfl rfl rfl ?_;clear hW32;intro w33 hW33;refine St.nil fun a34 h34=>?_;refine hK31 _ _ ?_;refine wp_seq_k fun K35 hK35=>?_;have hF36:Fr 110 a34 [(0,.agg #[.slice p m.length c]),(1,.pointer (some ⟨B2,0,none⟩)),(2,.pointer (some ⟨B3,0,none⟩)),(3,.pointer (some ⟨B6,0,none⟩)),(4,.int .i64 (q1:Int)),(5,.pointer (some ⟨B17,0,none⟩)),(6,.pointer (some ⟨BD6,0,none⟩)),(7,.int .i64 (q2:Int)),(8,.pointer (some ⟨B32,0,none⟩))]:=(h34.keep (h34.keep (h34.keep (h34.keep (h34.keep (h34.keep (h34.keep (h34.keep (h34.keep h34.nil (t:=8) rfl) (t:=7) rfl) (t:=6) rfl) (t:=5) rfl) (t:=4) rfl) (t:=3) rfl) (t:=2) rfl) (t:=1) rfl) (t:=0) rfl);have ho8:a34.tmps.getD 8 undef=.pointer (some ⟨B32,0,none⟩):=h34.sl 8 _ rfl
     have hDS:DStable (Z:=Option Addr × Nat) [(4,fun z w O=>(typesL n).In w O y.params [.slice z.1 y.params.length z.2])]:=by
       intro x hx;simp only [List.mem_cons,List.not_mem_nil,or_false] at hx;rcases hx with rfl
       · intro z w w9 O hk h;exact (typesL n).keep hk (fun _ h _=>h) h
     refine fr_draw4 (Z:=Option Addr × Nat) [(0,45),(1,46),(2,47),(3,48),(4,49),(5,50)] [(6,9,12,52)] [(7,9,12,52)] (fun z=>[(45,.pointer (some ⟨B32,0,none⟩)),(46,.int .i64 y.regs),(47,.pointer (some ⟨B32,1,none⟩)),(48,.slice b2.pP y.params.length b2.cP),(49,.slice z.1 y.params.length z.2),(50,.agg #[.int .i64 y.regs,.slice z.1 y.params.length z.2,.slice none 0 0,.int .i64 0,.int .i64 0,.int .i64 0,.slice none 0 0,.slice none 0 0,.int .i64 0,.slice none 0 0,.slice none 0 0,.slice none 0 0])]) (fun z=>[(9,[.int .i64 y.regs,.slice z.1 y.params.length z.2,.slice none 0 0,.int .i64 0,.int .i64 0,.int .i64 0,.slice none 0 0,.slice none 0 0,.int .i64 0,.slice none 0 0,.slice none 0 0,.slice none 0 0])]) [(4,fun z w O=>(typesL n).In w O y.params [.slice z.1 y.params.length z.2])] (none,0) (by kernel_rfl) hF36 (by kernel_rfl) (by kernel_rfl) (fun hDB=>?hst) ?hend
     case hst =>
      refine ⟨fun S a1 w1 hS hd hcl hI0 K hK=>?_,?_⟩
      · obtain ⟨⟨p49,c49⟩,hI⟩:=hI0;have hWd:=hW33.below hI.1.bel;have k0:a1.tmps.getD 8 undef=.pointer (some ⟨B32,0,none⟩):=((hI.1.outer 8 (by kernel_rfl)).trans ho8);go_simp;exact hK _ _ (DMz.pure hDS hDB hI (i:=0) (t:=45) (by decide) rfl hS (Below.refl _ _) (by kernel_rfl) (by kernel_rfl) rfl)
      refine ⟨fun S a1 w1 hS hd hcl hI0 K hK=>?_,?_⟩
      · obtain ⟨⟨p49,c49⟩,hI⟩:=hI0;have hWd:=hW33.below hI.1.bel;have k0:a1.tmps.getD 45 undef=.pointer (some ⟨B32,0,none⟩):=(hI.1.vals (0,45) (by decide) (hd.at 0 (by kernel_rfl)) _ rfl);have c0:w1.cell? ⟨B32,0,none⟩=some (.int .i64 y.regs):=cellOf (hWd.get 0 rfl) 0 _ rfl;go_simp;exact hK _ _ (DMz.pure hDS hDB hI (i:=1) (t:=46) (by decide) rfl hS (Below.refl _ _) (by kernel_rfl) (by kernel_rfl) rfl)
      refine ⟨fun S a1 w1 hS hd hcl hI0 K hK=>?_,?_⟩
      · obtain ⟨⟨p49,c49⟩,hI⟩:=hI0;have hWd:=hW33.below hI.1.bel;have k0:a1.tmps.getD 8 undef=.pointer (some ⟨B32,0,none⟩):=((hI.1.outer 8 (by kernel_rfl)).trans ho8);go_simp;exact hK _ _ (DMz.pure hDS hDB hI (i:=2) (t:=47) (by decide) rfl hS (Below.refl _ _) (by kernel_rfl) (by kernel_rfl) rfl)
      refine ⟨fun S a1 w1 hS hd hcl hI0 K hK=>?_,?_⟩
      · obtain ⟨⟨p49,c49⟩,hI⟩:=hI0;have hWd:=hW33.below hI.1.bel;have k0:a1.tmps.getD 47 undef=.pointer (some ⟨B32,1,none⟩):=(hI.1.vals (2,47) (by decide) (hd.at 2 (by kernel_rfl)) _ rfl);have c1:w1.cell? ⟨B32,1,none⟩=some (.slice b2.pP y.params.length b2.cP):=cellOf (hWd.get 0 rfl) 1 _ rfl;go_simp;exact hK _ _ (DMz.pure hDS hDB hI (i:=3) (t:=48) (by decide) rfl hS (Below.refl _ _) (by kernel_rfl) (by kernel_rfl) rfl)
      refine ⟨fun S a1 w1 hS hd hcl hI0 K hK=>?_,?_⟩
      · obtain ⟨⟨p49,c49⟩,hI⟩:=hI0;have hWd:=hW33.below hI.1.bel;have k0:a1.tmps.getD 48 undef=.slice b2.pP y.params.length b2.cP:=(hI.1.vals (3,48) (by decide) (hd.at 3 (by kernel_rfl)) _ rfl);go_simp;refine (rOwnTypes_any (Lay.below In2.out.params hWd.bel) hs2.out.2.1).mono ?_;rintro e w9 ⟨p49n,c49n,rfl,h9,hb⟩;refine hK _ _ (DMz.call hDS hDB hI (z':=(p49n,c49n)) (i:=4) (t:=49) (by decide) rfl hS hcl hb (by kernel_rfl) (by kernel_rfl) [5,7] (by kernel_rfl) ?_ ?_ ?_)
        · intro x hx;simp only [List.mem_cons,List.not_mem_nil,or_false] at hx;rcases hx with rfl | rfl | rfl | rfl | rfl | rfl
          all_goals first | exact .inr (.inr rfl) | exact .inl (by decide) | exact .inr (.inl rfl)
        · intro x hx;simp only [List.mem_cons,List.not_mem_nil,or_false] at hx;rcases hx with rfl
          all_goals exact .inl (by decide)
        · intro x hx;simp only [List.mem_cons,List.not_mem_nil,or_false] at hx;rcases hx with rfl
          · exact .inl ⟨rfl,fun k=>w1.heap.size≤k∧k<w9.heap.size,Lay.mono h9 (fun k hk hl=>⟨hk,hl⟩),fun k hk=>hk⟩
      refine ⟨fun S a1 w1 hS hd hcl hI0 K hK=>?_,?_⟩
      · obtain ⟨⟨p49,c49⟩,hI⟩:=hI0;have hWd:=hW33.below hI.1.bel;have k0:a1.tmps[46]?.getD undef=.int .i64 y.regs:=by rw [← Array.getD_eq_getD_getElem?];exact (hI.1.vals (1,46) (by decide) (hd.at 1 (by kernel_rfl)) _ rfl)
        have k1:a1.tmps[49]?.getD undef=.slice p49 y.params.length c49:=by rw [← Array.getD_eq_getD_getElem?];exact (hI.1.vals (4,49) (by decide) (hd.at 4 (by kernel_rfl)) _ rfl)
        go_simp;exact hK _ _ (DMz.pure hDS hDB hI (i:=5) (t:=50) (by decide) rfl hS (Below.refl _ _) (by kernel_rfl) (by kernel_rfl) rfl)
      refine ⟨fun S a1 w1 hS hd hcl hI0 K hK=>?_,?_⟩
      · obtain ⟨⟨p49,c49⟩,hI⟩:=hI0;go_simp;exact hK _ _ (DMz.alloc hDS hDB hI (i:=6) (t:=9) (s:=12) (ty:=52) (by decide) rfl hS hcl (by kernel_rfl) (by kernel_rfl) rfl)
      refine ⟨fun S a1 w1 hS hd hcl hI0 K hK=>?_,?_⟩
      · obtain ⟨⟨p49,c49⟩,hI⟩:=hI0;have k0:a1.tmps.getD 50 undef=.agg #[.int .i64 y.regs,.slice p49 y.params.length c49,.slice none 0 0,.int .i64 0,.int .i64 0,.int .i64 0,.slice none 0 0,.slice none 0 0,.int .i64 0,.slice none 0 0,.slice none 0 0,.slice none 0 0]:=(hI.1.vals (5,50) (by decide) (hd.at 5 (by kernel_rfl)) _ rfl);obtain ⟨B,kB,hlo,c0,hBk,hcs⟩:=hI.1.box (i:=6) (t:=9) (s:=12) (ty:=52) (by decide) (hd.at 6 (by kernel_rfl));exact wp_fill hBk kB k0 infBlock rfl hcs.symm (hK _ _ (DMz.store hDS hDB hI (i:=7) (t:=9) (s:=12) (ty:=52) (j:=6) (by decide) (by decide) (hd.at 6 (by kernel_rfl)) kB hBk hcs hlo rfl rfl hS hcl (by kernel_rfl) (by kernel_rfl) rfl))
      trivial
     case hend =>
      rintro ⟨p49,c49⟩ S a37 w37 hS hD hFD;obtain ⟨BD9,hd9,hBl9,hBk9⟩:=hD.1.full (j:=6) (i:=7) (t:=9) (s:=12) (ty:=52) (by decide) (hS _ (by decide)) (by decide) (hS _ (by decide)) rfl;have hF37:Fr 110 a37 [(9,.pointer (some ⟨BD9,0,none⟩)),(0,.agg #[.slice p m.length c]),(1,.pointer (some ⟨B2,0,none⟩)),(2,.pointer (some ⟨B3,0,none⟩)),(3,.pointer (some ⟨B6,0,none⟩)),(4,.int .i64 (q1:Int)),(5,.pointer (some ⟨B17,0,none⟩)),(6,.pointer (some ⟨BD6,0,none⟩)),(7,.int .i64 (q2:Int)),(8,.pointer (some ⟨B32,0,none⟩))]:=(hFD.cons hd9);obtain ⟨O9,hN49,hO9⟩:=hD.2 _ List.mem_cons_self (hS 4 (by decide));replace hN49:=Lay.mono (show (typesL n).In _ _ y.params [.slice p49 y.params.length c49] from hN49) (O':=fun k=>w33.heap.size≤k∧k<w37.heap.size∧k≠BD9) (fun k hk _=>⟨(hO9.1 k hk).1,(hO9.1 k hk).2,fun e=>hO9.2 (6,9,12,52) (by decide) (hS _ (by decide)) BD9 hd9 (e ▸ hk)⟩);clear hO9;have hsD:w33.heap.size≤w37.heap.size:=hD.1.bel.size;have hW37:Wd w26 w37 [(BD9,#[.int .i64 y.regs,.slice p49 y.params.length c49,.slice none 0 0,.int .i64 0,.int .i64 0,.int .i64 0,.slice none 0 0,.slice none 0 0,.int .i64 0,.slice none 0 0,.slice none 0 0,.slice none 0 0],52),(B32,#[.int .i64 y.regs,.slice b2.pP y.params.length b2.cP,.slice b2.pC y.code.length b2.cC,.int .i64 y.fin.op,.int .i64 y.fin.a,.int .i64 y.fin.yes.block,.slice b2.e.pYR y.fin.yes.regs.length b2.e.cYR,.slice b2.e.pYA y.fin.yes.args.length b2.e.cYA,.int .i64 y.fin.no.block,.slice b2.e.pNR y.fin.no.regs.length b2.e.cNR,.slice b2.e.pNA y.fin.no.args.length b2.e.cNA,.slice b2.e.pA y.fin.args.length b2.e.cA],52)]:=Wd.add (hW33.below hD.1.bel) hBk9 hW33 hBl9;have hsd3:w26.heap.size≤w33.heap.size:=hW33.bel.size;clear hS hD hFD hDS hW33 hd9;clear hBk9;refine hK35 _ _ ?_;refine wp_seq_k fun K38 hK38=>?_;refine wp_seq_k fun K39 hK39=>?_;refine rg hF37 fun ops=>?_;clear hF37 a37;refine sa trivial rfl rfl ?_;refine St.nil fun a40 h40=>?_;refine hK39 _ _ ?_;refine wp_block ?_;have hlo3:w26.heap.size≤w37.heap.size:=hW37.bel.size;have hlBD9:BD9<w37.heap.size:=(hW37.get 0 rfl).lt;have hlB32:B32<w37.heap.size:=(hW37.get 1 rfl).lt;refine fr_loop (fun r a w'=>∃ q3:Nat,q3≤y.code.length∧r=y.code.length - q3∧∃ v3 xs,ARow insL 45 w' w37.heap.size v3 (y.code.take q3) xs∧KeepBut w37.heap.size BD9 w37 w'∧w37.heap.size≤w'.heap.size∧Fr 110 a [(0,.agg #[.slice p m.length c]),(1,.pointer (some ⟨B2,0,none⟩)),(2,.pointer (some ⟨B3,0,none⟩)),(3,.pointer (some ⟨B6,0,none⟩)),(4,.int .i64 (q1:Int)),(5,.pointer (some ⟨B17,0,none⟩)),(6,.pointer (some ⟨BD6,0,none⟩)),(7,.int .i64 (q2:Int)),(8,.pointer (some ⟨B32,0,none⟩)),(9,.pointer (some ⟨BD9,0,none⟩)),(10,.int .i64 (q3:Int))]∧Wd w26 w' [(BD9,#[.int .i64 y.regs,.slice p49 y.params.length c49,v3,.int .i64 0,.int .i64 0,.int .i64 0,.slice none 0 0,.slice none 0 0,.int .i64 0,.slice none 0 0,.slice none 0 0,.slice none 0 0],52),(B32,#[.int .i64 y.regs,.slice b2.pP y.params.length b2.cP,.slice b2.pC y.code.length b2.cC,.int .i64 y.fin.op,.int .i64 y.fin.a,.int .i64 y.fin.yes.block,.slice b2.e.pYR y.fin.yes.regs.length b2.e.cYR,.slice b2.e.pYA y.fin.yes.args.length b2.e.cYA,.int .i64 y.fin.no.block,.slice b2.e.pNR y.fin.no.regs.length b2.e.cNR,.slice b2.e.pNA y.fin.no.args.length b2.e.cNA,.slice b2.e.pA y.fin.args.length b2.e.cA],52)]) (y.code.length) ⟨0,Nat.zero_le _,rfl,.slice none 0 0,[],ARow.nil' _ _ _ _,KeepBut.refl _ _ _,Nat.le_refl _,(h40.keep (h40.keep (h40.keep (h40.keep (h40.keep (h40.keep (h40.keep (h40.keep (h40.keep (h40.keep (h40.keep h40.nil (t:=10) rfl) (t:=9) rfl) (t:=8) rfl) (t:=7) rfl) (t:=6) rfl) (t:=5) rfl) (t:=4) rfl) (t:=3) rfl) (t:=2) rfl) (t:=1) rfl) (t:=0) rfl),hW37⟩ ?_;clear h40 hW37;rintro r3 a41 w41 ⟨q3,hq3,hr3,v3,xs3,hA0,hK0,hz3,hF41,hWo3⟩ KL3 hKL3;have hA3:Hid _:=hA0;have hK3:Hid _:=hK0;clear hA0 hK0;have hW41:=Wd.start w41;have hkBD9:Hid (Blk w41 BD9 #[.int .i64 y.regs,.slice p49 y.params.length c49,v3,.int .i64 0,.int .i64 0,.int .i64 0,.slice none 0 0,.slice none 0 0,.int .i64 0,.slice none 0 0,.slice none 0 0,.slice none 0 0] 52):=hWo3.get 0 rfl;have hkB32:Hid (Blk w41 B32 #[.int .i64 y.regs,.slice b2.pP y.params.length b2.cP,.slice b2.pC y.code.length b2.cC,.int .i64 y.fin.op,.int .i64 y.fin.a,.int .i64 y.fin.yes.block,.slice b2.e.pYR y.fin.yes.regs.length b2.e.cYR,.slice b2.e.pYA y.fin.yes.args.length b2.e.cYA,.int .i64 y.fin.no.block,.slice b2.e.pNR y.fin.no.regs.length b2.e.cNR,.slice b2.e.pNA y.fin.no.args.length b2.e.cNA,.slice b2.e.pA y.fin.args.length b2.e.cA] 52):=hWo3.get 1 rfl;refine wp_seq_k fun K42 hK42=>?_;refine wp_seq_k fun K43 hK43=>?_;refine rg hF41 fun ops=>?_;clear hF41 a41;refine sm trivial rfl rfl ?_;refine sfBlock2 trivial rfl rfl ?_;refine scInss (bel_cell hW41.bel (cellOf hkB32.out 2 _ rfl)) trivial rfl rfl ?_;refine slInss trivial rfl rfl ?_;refine slt trivial rfl rfl rfl ?_;refine St.nil fun a44 h44=>?_;refine hK43 _ _ ?_;refine fr_cond (t:=55) h44 rfl (fun hb=>?_) (fun hb=>?_)
      ·have hlt3:q3<y.code.length:=by have:=of_decide_eq_true hb;omega
       clear hb;obtain ⟨z,hx3⟩:∃ v9,(y.code)[q3]?=some v9:=⟨_,List.getElem?_eq_getElem hlt3⟩;obtain ⟨g3,o3,i3,hp3,E3,In3⟩:=ins_at (Lay.below In2.out.code hWo3.bel) hx3;replace In3:Hid _:=In3;replace hp3:Hid _:=hp3;replace hx3:Hid _:=hx3;replace E3:Hid _:=E3;have hs3:Hid _:=hs2.out.2.2.2 z (List.mem_of_getElem? hx3.out);refine wp_skip ?_;refine hK42 _ _ ?_;refine wp_seq_k fun K45 hK45=>?_;refine wp_block ?_;refine wp_seq_k fun K46 hK46=>?_;refine rg h44 fun ops=>?_;clear h44 a44;refine sfBlock2 trivial rfl rfl ?_;refine scInss (bel_cell hW41.bel (cellOf hkB32.out 2 _ rfl)) trivial rfl rfl ?_;refine sm trivial rfl rfl ?_;refine siInss hp3.out hlt3 trivial rfl rfl rfl ?_;refine sSE Tryz.underlying45 rfl (rangeAt_bel E3.out hW41.bel) infIns trivial rfl rfl ?_;refine sAIns hW41 trivial rfl ?_;clear hW41;intro w47 B47 hW47 hN;clear hN;refine sT 0 hW47 rfl rfl infIns rfl rfl rfl ?_;clear hW47;intro w48 hW48;refine St.nil fun a49 h49=>?_;refine hK46 _ _ ?_;refine wp_seq_k fun K50 hK50=>?_;have hF51:Fr 110 a49 [(0,.agg #[.slice p m.length c]),(1,.pointer (some ⟨B2,0,none⟩)),(2,.pointer (some ⟨B3,0,none⟩)),(3,.pointer (some ⟨B6,0,none⟩)),(4,.int .i64 (q1:Int)),(5,.pointer (some ⟨B17,0,none⟩)),(6,.pointer (some ⟨BD6,0,none⟩)),(7,.int .i64 (q2:Int)),(8,.pointer (some ⟨B32,0,none⟩)),(9,.pointer (some ⟨BD9,0,none⟩)),(10,.int .i64 (q3:Int)),(11,.pointer (some ⟨B47,0,none⟩))]:=(h49.keep (h49.keep (h49.keep (h49.keep (h49.keep (h49.keep (h49.keep (h49.keep (h49.keep (h49.keep (h49.keep (h49.keep h49.nil (t:=11) rfl) (t:=10) rfl) (t:=9) rfl) (t:=8) rfl) (t:=7) rfl) (t:=6) rfl) (t:=5) rfl) (t:=4) rfl) (t:=3) rfl) (t:=2) rfl) (t:=1) rfl) (t:=0) rfl);have ho11:a49.tmps.getD 11 undef=.pointer (some ⟨B47,0,none⟩):=h49.sl 11 _ rfl;refine fr_draw_k 7 ([(11,fun v _=>v=.pointer (some ⟨B47,0,none⟩)),(63,fun v _=>v=.pointer (some ⟨B47,6,none⟩)),(64,fun v _=>v=.slice i3.pR z.regs.length i3.cR),(65,fun v w'=>∃ p c,v=.slice p z.regs.length c∧intsL.In w' (From w48.heap.size) z.regs [.slice p z.regs.length c]),(66,fun v _=>v=.pointer (some ⟨B47,7,none⟩)),(67,fun v _=>v=.slice i3.pA z.args.length i3.cA),(68,fun v w'=>∃ p c,v=.slice p z.args.length c∧intsL.In w' (From w48.heap.size) z.args [.slice p z.args.length c]),(69,fun v _=>v=.pointer (some ⟨B47,6,none⟩))]:PTab) (fun w'=>Wd w41 w' [(B47,#[.int .i64 z.op,.int .i64 z.a,.int .i64 z.b,.int .i64 z.c,.int .i64 z.k,.int .i64 z.n,.slice i3.pR z.regs.length i3.cR,.slice i3.pA z.args.length i3.cA],45)]∧Below w48.heap.size w48 w') (fun w w'=>Below w.heap.size w w') (outs:=[11]) (gs:=[]) (bs:=[true,true,true,true,true,true,true]) (by kernel_rfl) hF51 rfl (by kernel_rfl) (by kernel_rfl) ?hR ?hG ⟨hW48.drewN 1,drewN_below (m:=1) (Below.refl _ _)⟩ ⟨ho11,trivial⟩ ?hA ?hend
       case hR=>exact ⟨fun _ _ _ _ h=>h,fun _ _ _ _ h=>h,fun _ _ _ _ h=>h,fun v w w' hr h=>by obtain ⟨p,c,h1,h2⟩:=h;exact ⟨p,c,h1,Lay.below h2 hr⟩,fun _ _ _ _ h=>h,fun _ _ _ _ h=>h,fun v w w' hr h=>by obtain ⟨p,c,h1,h2⟩:=h;exact ⟨p,c,h1,Lay.below h2 hr⟩,fun _ _ _ _ h=>h,trivial⟩
       case hG=>exact trivial
       case hA =>
        refine ⟨fun a w hW hk K hK=>?_,?_⟩
        · obtain ⟨k0,-⟩:=hk;have k0:a.tmps.getD 11 undef=.pointer (some ⟨B47,0,none⟩):=k0;go_simp;exact hK _ _ (Below.refl _ _) hW rfl
        refine ⟨fun a w hW hk K hK=>?_,?_⟩
        · obtain ⟨k0,-⟩:=hk;have k0:a.tmps.getD 63 undef=.pointer (some ⟨B47,6,none⟩):=k0;have c6:w.cell? ⟨B47,6,none⟩=some (.slice i3.pR z.regs.length i3.cR):=cellOf (hW.1.get 0 rfl) 6 _ rfl;go_simp;exact hK _ _ (Below.refl _ _) hW rfl
        refine ⟨fun a w hW hk K hK=>?_,?_⟩
        · obtain ⟨k0,-⟩:=hk;have k0:a.tmps.getD 64 undef=.slice i3.pR z.regs.length i3.cR:=k0;go_simp;refine (rOwnInts_any _ _ _ w (Lay.below In3.out.regs hW.1.bel) (by have:=hs3.out.1;omega)).mono ?_;rintro e w9 ⟨p9,c9,rfl,h9,hb⟩;exact hK _ _ hb ⟨hW.1.below hb,Below.andThen hW.2 hb⟩ ⟨p9,c9,rfl,Lay.mono h9 (fun k hk _=>Nat.le_trans hW.2.size hk)⟩
        refine ⟨fun a w hW hk K hK=>?_,?_⟩
        · obtain ⟨k0,-⟩:=hk;have k0:a.tmps.getD 11 undef=.pointer (some ⟨B47,0,none⟩):=k0;go_simp;exact hK _ _ (Below.refl _ _) hW rfl
        refine ⟨fun a w hW hk K hK=>?_,?_⟩
        · obtain ⟨k0,-⟩:=hk;have k0:a.tmps.getD 66 undef=.pointer (some ⟨B47,7,none⟩):=k0;have c7:w.cell? ⟨B47,7,none⟩=some (.slice i3.pA z.args.length i3.cA):=cellOf (hW.1.get 0 rfl) 7 _ rfl;go_simp;exact hK _ _ (Below.refl _ _) hW rfl
        refine ⟨fun a w hW hk K hK=>?_,?_⟩
        · obtain ⟨k0,-⟩:=hk;have k0:a.tmps.getD 67 undef=.slice i3.pA z.args.length i3.cA:=k0;go_simp;refine (rOwnInts_any _ _ _ w (Lay.below In3.out.args hW.1.bel) (by have:=hs3.out.2;omega)).mono ?_;rintro e w9 ⟨p9,c9,rfl,h9,hb⟩;exact hK _ _ hb ⟨hW.1.below hb,Below.andThen hW.2 hb⟩ ⟨p9,c9,rfl,Lay.mono h9 (fun k hk _=>Nat.le_trans hW.2.size hk)⟩
        refine ⟨fun a w hW hk K hK=>?_,?_⟩
        · obtain ⟨k0,-⟩:=hk;have k0:a.tmps.getD 11 undef=.pointer (some ⟨B47,0,none⟩):=k0;go_simp;exact hK _ _ (Below.refl _ _) hW rfl
        trivial
       case hend =>
        intro ops a52 w52 hWD hE hFD;obtain ⟨p65,c65,hd65,hN65⟩:=hE 65 rfl;replace hd65:a52.tmps.getD 65 undef=.slice p65 z.regs.length c65:=hd65;obtain ⟨p68,c68,hd68,hN68⟩:=hE 68 rfl;replace hd68:a52.tmps.getD 68 undef=.slice p68 z.args.length c68:=hd68;have hd69:a52.tmps.getD 69 undef=.pointer (some ⟨B47,6,none⟩):=hE 69 rfl;have hF52:Fr 110 a52 [(69,.pointer (some ⟨B47,6,none⟩)),(68,.slice p68 z.args.length c68),(65,.slice p65 z.regs.length c65),(0,.agg #[.slice p m.length c]),(1,.pointer (some ⟨B2,0,none⟩)),(2,.pointer (some ⟨B3,0,none⟩)),(3,.pointer (some ⟨B6,0,none⟩)),(4,.int .i64 (q1:Int)),(5,.pointer (some ⟨B17,0,none⟩)),(6,.pointer (some ⟨BD6,0,none⟩)),(7,.int .i64 (q2:Int)),(8,.pointer (some ⟨B32,0,none⟩)),(9,.pointer (some ⟨BD9,0,none⟩)),(10,.int .i64 (q3:Int)),(11,.pointer (some ⟨B47,0,none⟩))]:=(((hFD.cons hd65).cons hd68).cons hd69);clear hd65 hd68 hd69;have hW52:Wd w41 w52 [(B47,#[.int .i64 z.op,.int .i64 z.a,.int .i64 z.b,.int .i64 z.c,.int .i64 z.k,.int .i64 z.n,.slice i3.pR z.regs.length i3.cR,.slice i3.pA z.args.length i3.cA],45)]:=hWD.1;have hsa3:w41.heap.size≤w48.heap.size:=hW48.bel.size;have hmB47:B47<w48.heap.size:=(hW48.get 0 rfl).lt;clear hFD hWD hE hF51 h49;clear hW48;refine St.go hF52 ?_;clear hF52 a52;refine s1k 0 inf1Ints hW52 rfl rfl rfl rfl rfl rfl ?_;intro w53 hKp hW53;replace hN65:=Lay.keep1 hN65 hKp hmB47;replace hN68:=Lay.keep1 hN68 hKp hmB47;clear hKp hW52;refine sfIns7 trivial rfl rfl ?_;refine s1k 0 inf1Ints hW53 rfl rfl rfl rfl rfl rfl ?_;intro w54 hKp hW54;replace hN65:=Lay.keep1 hN65 hKp hmB47;replace hN68:=Lay.keep1 hN68 hKp hmB47;clear hKp hW53;refine St.nil fun a55 h55=>?_;refine hK50 _ _ ?_;refine rg h55 fun ops=>?_;clear h55 a55;refine sfBlock2 trivial rfl rfl ?_;refine scInss (bel_cell hW54.bel (cellOf hkBD9.out 2 _ rfl)) trivial rfl rfl ?_;refine sS 0 8 Tryz.underlying45 rfl infIns hW54 trivial rfl rfl rfl rfl ?_;intro a56 h56;refine fr_row (t:=74) #[.int .i64 z.op,.int .i64 z.a,.int .i64 z.b,.int .i64 z.c,.int .i64 z.k,.int .i64 z.n,.slice p65 z.regs.length c65,.slice p68 z.args.length c68] 45 1 h56 hW54 rfl rfl rfl (fun K hK=>?_) ?_
        ·have k0:a56.tmps[73]?.getD undef=.agg #[.int .i64 z.op,.int .i64 z.a,.int .i64 z.b,.int .i64 z.c,.int .i64 z.k,.int .i64 z.n,.slice p65 z.regs.length c65,.slice p68 z.args.length c68]:=h56.sl2 73 _ rfl
         go_simp;exact hK
        clear h56 hW54;intro a57 w58 B58 hW58 hN hF57;replace hN65:=Lay.below hN65 hN.bel;replace hN68:=Lay.below hN68 hN.bel;clear hN;refine St.go hF57 ?_;clear hF57 a57;have hI9:insL.In w58 (From w41.heap.size) z [.int .i64 z.op,.int .i64 z.a,.int .i64 z.b,.int .i64 z.c,.int .i64 z.k,.int .i64 z.n,.slice p65 z.regs.length c65,.slice p68 z.args.length c68]:=ins_shut (x:=z) (i:=⟨p65,c65,p68,c68⟩) ⟨Lay.mono hN65 (fun k hk _=>Nat.le_trans hsa3 hk),Lay.mono hN68 (fun k hk _=>Nat.le_trans hsa3 hk),In3.out.bnd⟩;have hAx:=hA3.out.below hW58.bel;have hzx:w37.heap.size≤w58.heap.size:=Nat.le_trans hz3 hW58.bel.size;have hKx:=KeepBut.below hK3.out hW58.bel hz3;refine sApp underIns hiI hzI0 hzI1 hzI2 rfl (by decide) rfl (hWo3.below hW58.bel) hlo3 (lts2 hlBD9 hlB32) hAx hzx (hW58.get 0 rfl) (Lay.mono hI9 (fun k hk _=>⟨Nat.le_trans hz3 hk,hA3.out.own_lt hk⟩)) rfl (by rw [List.length_take];omega) (by decide) rfl rfl rfl ?_;intro g59 cp59 w59 hA9 hgr hW59;have hK9:=hKx.grown hgr hzx (fun k hk=>(hAx.lo_le hk).1);clear hAx hzx hKx hgr hI9 hW58;refine sfBlock2 trivial rfl rfl ?_;refine s1k 0 inf1Inss hW59 rfl rfl rfl rfl rfl rfl ?_;intro w60 hKp hW60;replace hA9:=ARow.keep1 hA9 hKp hlBD9;replace hK9:=KeepBut.keep1t hK9 hKp hlBD9;clear hKp hW59;refine St.nil fun a61 h61=>?_;refine hK45 _ _ ?_;refine rg h61 fun ops=>?_;clear h61 a61;refine sm trivial rfl rfl ?_;refine sad (by omega) trivial rfl rfl rfl ?_;refine sa trivial rfl rfl ?_;refine St.nil fun a62 h62=>?_;have hA8:=hA9.next hx3.out
        exact hKL3 _ _ (y.code.length - (q3+1)) (by omega) ⟨q3+1,by omega,rfl,_,_,hA8,hK9,Nat.le_of_lt (Nat.lt_of_le_of_lt (hA8.lo_le (g:=g59) rfl).1 (hA8.lo_le (g:=g59) rfl).2),(h62.keep (h62.keep (h62.keep (h62.keep (h62.keep (h62.keep (h62.keep (h62.keep (h62.keep (h62.keep (h62.keep h62.nil (t:=10) rfl) (t:=9) rfl) (t:=8) rfl) (t:=7) rfl) (t:=6) rfl) (t:=5) rfl) (t:=4) rfl) (t:=3) rfl) (t:=2) rfl) (t:=1) rfl) (t:=0) rfl),hW60⟩
      have hge3:q3=y.code.length:=by have:=of_decide_eq_false hb;omega
      clear hb hW41;have hAx:=hA3.out.full hge3;obtain ⟨pL3,cL3,hv9⟩:=hAx.form;subst hv9;have hL3:=hAx.lay;clear hAx;replace hL3:=Lay.mono hL3 (O':=fun k=>w26.heap.size≤k∧k≠BD9) (fun k hk _=>⟨by have h9:w37.heap.size≤k:=hk;omega,by have h9:w37.heap.size≤k:=hk;omega⟩);replace hN49:=Lay.keepBut hN49 hK3.out (O':=fun k=>w26.heap.size≤k∧k≠BD9) (fun k hk _=>⟨hk.2.1,hk.2.2⟩) (fun k hk _=>⟨Nat.le_trans hsd3 hk.1,hk.2.2⟩);refine wp_exit ?_;refine hK38 _ _ ?_;refine wp_seq_k fun K63 hK63=>?_;have hF64:Fr 110 a44 [(0,.agg #[.slice p m.length c]),(1,.pointer (some ⟨B2,0,none⟩)),(2,.pointer (some ⟨B3,0,none⟩)),(3,.pointer (some ⟨B6,0,none⟩)),(4,.int .i64 (q1:Int)),(5,.pointer (some ⟨B17,0,none⟩)),(6,.pointer (some ⟨BD6,0,none⟩)),(7,.int .i64 (q2:Int)),(8,.pointer (some ⟨B32,0,none⟩)),(9,.pointer (some ⟨BD9,0,none⟩)),(10,.int .i64 (q3:Int))]:=(h44.keep (h44.keep (h44.keep (h44.keep (h44.keep (h44.keep (h44.keep (h44.keep (h44.keep (h44.keep (h44.keep h44.nil (t:=10) rfl) (t:=9) rfl) (t:=8) rfl) (t:=7) rfl) (t:=6) rfl) (t:=5) rfl) (t:=4) rfl) (t:=3) rfl) (t:=2) rfl) (t:=1) rfl) (t:=0) rfl);have ho8:a44.tmps.getD 8 undef=.pointer (some ⟨B32,0,none⟩):=h44.sl 8 _ rfl;have ho9:a44.tmps.getD 9 undef=.pointer (some ⟨BD9,0,none⟩):=h44.sl 9 _ rfl;refine fr_draw_k 20 ([(8,fun v _=>v=.pointer (some ⟨B32,0,none⟩)),(9,fun v _=>v=.pointer (some ⟨BD9,0,none⟩)),(77,fun v _=>v=.pointer (some ⟨B32,3,none⟩)),(78,fun v _=>v=.pointer (some ⟨B32,3,none⟩)),(79,fun v _=>v=.int .i64 y.fin.op),(80,fun v _=>v=.pointer (some ⟨B32,3,none⟩)),(81,fun v _=>v=.pointer (some ⟨B32,4,none⟩)),(82,fun v _=>v=.int .i64 y.fin.a),(83,fun v _=>v=.pointer (some ⟨B32,3,none⟩)),(84,fun v _=>v=.pointer (some ⟨B32,5,none⟩)),(85,fun v _=>v=.agg #[.int .i64 y.fin.yes.block,.slice b2.e.pYR y.fin.yes.regs.length b2.e.cYR,.slice b2.e.pYA y.fin.yes.args.length b2.e.cYA]),(86,fun v w'=>∃ p c p2 c2,v=.agg #[.int .i64 y.fin.yes.block,.slice p y.fin.yes.regs.length c,.slice p2 y.fin.yes.args.length c2]∧TIn2 w' (From w41.heap.size) y.fin.yes p c p2 c2),(87,fun v _=>v=.pointer (some ⟨B32,3,none⟩)),(88,fun v _=>v=.pointer (some ⟨B32,8,none⟩)),(89,fun v _=>v=.agg #[.int .i64 y.fin.no.block,.slice b2.e.pNR y.fin.no.regs.length b2.e.cNR,.slice b2.e.pNA y.fin.no.args.length b2.e.cNA]),(90,fun v w'=>∃ p c p2 c2,v=.agg #[.int .i64 y.fin.no.block,.slice p y.fin.no.regs.length c,.slice p2 y.fin.no.args.length c2]∧TIn2 w' (From w41.heap.size) y.fin.no p c p2 c2),(91,fun v _=>v=.pointer (some ⟨B32,3,none⟩)),(92,fun v _=>v=.pointer (some ⟨B32,11,none⟩)),(93,fun v _=>v=.slice b2.e.pA y.fin.args.length b2.e.cA),(94,fun v w'=>∃ p c,v=.slice p y.fin.args.length c∧intsL.In w' (From w41.heap.size) y.fin.args [.slice p y.fin.args.length c]),(95,fun v w'=>∃ e:EP,v=.agg #[.int .i64 y.fin.op,.int .i64 y.fin.a,.int .i64 y.fin.yes.block,.slice e.pYR y.fin.yes.regs.length e.cYR,.slice e.pYA y.fin.yes.args.length e.cYA,.int .i64 y.fin.no.block,.slice e.pNR y.fin.no.regs.length e.cNR,.slice e.pNA y.fin.no.args.length e.cNA,.slice e.pA y.fin.args.length e.cA]∧EIn w' (From w41.heap.size) y.fin e),(96,fun v _=>v=.pointer (some ⟨BD9,3,none⟩))]:PTab) (fun w'=>Wd w26 w' [(BD9,#[.int .i64 y.regs,.slice p49 y.params.length c49,.slice pL3 y.code.length cL3,.int .i64 0,.int .i64 0,.int .i64 0,.slice none 0 0,.slice none 0 0,.int .i64 0,.slice none 0 0,.slice none 0 0,.slice none 0 0],52),(B32,#[.int .i64 y.regs,.slice b2.pP y.params.length b2.cP,.slice b2.pC y.code.length b2.cC,.int .i64 y.fin.op,.int .i64 y.fin.a,.int .i64 y.fin.yes.block,.slice b2.e.pYR y.fin.yes.regs.length b2.e.cYR,.slice b2.e.pYA y.fin.yes.args.length b2.e.cYA,.int .i64 y.fin.no.block,.slice b2.e.pNR y.fin.no.regs.length b2.e.cNR,.slice b2.e.pNA y.fin.no.args.length b2.e.cNA,.slice b2.e.pA y.fin.args.length b2.e.cA],52)]∧Below w41.heap.size w41 w') (fun w w'=>Below w.heap.size w w') (outs:=[8,9]) (gs:=[]) (bs:=[true,true,true,true,true,true,true,true,true,true,true,true,true,true,true,true,true,true,true,true]) (by kernel_rfl) hF64 rfl (by kernel_rfl) (by kernel_rfl) ?hR ?hG ⟨hWo3.drewN 1,drewN_below (m:=1) (Below.refl _ _)⟩ ⟨ho8,ho9,trivial⟩ ?hA ?hend
      case hR=>exact ⟨fun _ _ _ _ h=>h,fun _ _ _ _ h=>h,fun _ _ _ _ h=>h,fun _ _ _ _ h=>h,fun _ _ _ _ h=>h,fun _ _ _ _ h=>h,fun _ _ _ _ h=>h,fun _ _ _ _ h=>h,fun _ _ _ _ h=>h,fun _ _ _ _ h=>h,fun _ _ _ _ h=>h,fun v w w' hr h=>by obtain ⟨p,c,p2,c2,h1,h2⟩:=h;exact ⟨p,c,p2,c2,h1,h2.below hr⟩,fun _ _ _ _ h=>h,fun _ _ _ _ h=>h,fun _ _ _ _ h=>h,fun v w w' hr h=>by obtain ⟨p,c,p2,c2,h1,h2⟩:=h;exact ⟨p,c,p2,c2,h1,h2.below hr⟩,fun _ _ _ _ h=>h,fun _ _ _ _ h=>h,fun _ _ _ _ h=>h,fun v w w' hr h=>by obtain ⟨p,c,h1,h2⟩:=h;exact ⟨p,c,h1,Lay.below h2 hr⟩,fun v w w' hr h=>by obtain ⟨e,h1,h2⟩:=h;exact ⟨e,h1,h2.below hr⟩,fun _ _ _ _ h=>h,trivial⟩
      case hG=>exact trivial
      case hA =>
       refine ⟨fun a w hW hk K hK=>?_,?_⟩
       · obtain ⟨k0,-⟩:=hk;have k0:a.tmps.getD 8 undef=.pointer (some ⟨B32,0,none⟩):=k0;go_simp;exact hK _ _ (Below.refl _ _) hW rfl
       refine ⟨fun a w hW hk K hK=>?_,?_⟩
       · obtain ⟨k0,-⟩:=hk;have k0:a.tmps.getD 77 undef=.pointer (some ⟨B32,3,none⟩):=k0;go_simp;exact hK _ _ (Below.refl _ _) hW rfl
       refine ⟨fun a w hW hk K hK=>?_,?_⟩
       · obtain ⟨k0,-⟩:=hk;have k0:a.tmps.getD 78 undef=.pointer (some ⟨B32,3,none⟩):=k0;have c3:w.cell? ⟨B32,3,none⟩=some (.int .i64 y.fin.op):=cellOf (hW.1.get 1 rfl) 3 _ rfl;go_simp;exact hK _ _ (Below.refl _ _) hW rfl
       refine ⟨fun a w hW hk K hK=>?_,?_⟩
       · obtain ⟨k0,-⟩:=hk;have k0:a.tmps.getD 8 undef=.pointer (some ⟨B32,0,none⟩):=k0;go_simp;exact hK _ _ (Below.refl _ _) hW rfl
       refine ⟨fun a w hW hk K hK=>?_,?_⟩
       · obtain ⟨k0,-⟩:=hk;have k0:a.tmps.getD 80 undef=.pointer (some ⟨B32,3,none⟩):=k0;go_simp;exact hK _ _ (Below.refl _ _) hW rfl
       refine ⟨fun a w hW hk K hK=>?_,?_⟩
       · obtain ⟨k0,-⟩:=hk;have k0:a.tmps.getD 81 undef=.pointer (some ⟨B32,4,none⟩):=k0;have c4:w.cell? ⟨B32,4,none⟩=some (.int .i64 y.fin.a):=cellOf (hW.1.get 1 rfl) 4 _ rfl;go_simp;exact hK _ _ (Below.refl _ _) hW rfl
       refine ⟨fun a w hW hk K hK=>?_,?_⟩
       · obtain ⟨k0,-⟩:=hk;have k0:a.tmps.getD 8 undef=.pointer (some ⟨B32,0,none⟩):=k0;go_simp;exact hK _ _ (Below.refl _ _) hW rfl
       refine ⟨fun a w hW hk K hK=>?_,?_⟩
       · obtain ⟨k0,-⟩:=hk;have k0:a.tmps.getD 83 undef=.pointer (some ⟨B32,3,none⟩):=k0;go_simp;exact hK _ _ (Below.refl _ _) hW rfl
       refine ⟨fun a w hW hk K hK=>?_,?_⟩
       · obtain ⟨k0,-⟩:=hk;have k0:a.tmps.getD 84 undef=.pointer (some ⟨B32,5,none⟩):=k0;have c5:w.cell? ⟨B32,5,none⟩=some (.int .i64 y.fin.yes.block):=cellOf (hW.1.get 1 rfl) 5 _ rfl;have c6:w.cell? ⟨B32,6,none⟩=some (.slice b2.e.pYR y.fin.yes.regs.length b2.e.cYR):=cellOf (hW.1.get 1 rfl) 6 _ rfl;have c7:w.cell? ⟨B32,7,none⟩=some (.slice b2.e.pYA y.fin.yes.args.length b2.e.cYA):=cellOf (hW.1.get 1 rfl) 7 _ rfl;go_simp;exact hK _ _ (Below.refl _ _) hW rfl
       refine ⟨fun a w hW hk K hK=>?_,?_⟩
       · obtain ⟨k0,-⟩:=hk;have k0:a.tmps.getD 85 undef=.agg #[.int .i64 y.fin.yes.block,.slice b2.e.pYR y.fin.yes.regs.length b2.e.cYR,.slice b2.e.pYA y.fin.yes.args.length b2.e.cYA]:=k0;go_simp;refine (rOwnTo_any _ _ _ _ _ w (In2.out.fin.yes.below hW.1.bel) (by have:=hs2.out.2.2.1.1.1;omega) (by have:=hs2.out.2.2.1.1.2;omega)).mono ?_;rintro e w9 ⟨p9,c9,p8,c8,rfl,h9,hb⟩;exact hK _ _ hb ⟨hW.1.below hb,Below.andThen hW.2 hb⟩ ⟨p9,c9,p8,c8,rfl,h9.mono (fun k hk _=>Nat.le_trans hW.2.size hk)⟩
       refine ⟨fun a w hW hk K hK=>?_,?_⟩
       · obtain ⟨k0,-⟩:=hk;have k0:a.tmps.getD 8 undef=.pointer (some ⟨B32,0,none⟩):=k0;go_simp;exact hK _ _ (Below.refl _ _) hW rfl
       refine ⟨fun a w hW hk K hK=>?_,?_⟩
       · obtain ⟨k0,-⟩:=hk;have k0:a.tmps.getD 87 undef=.pointer (some ⟨B32,3,none⟩):=k0;go_simp;exact hK _ _ (Below.refl _ _) hW rfl
       refine ⟨fun a w hW hk K hK=>?_,?_⟩
       · obtain ⟨k0,-⟩:=hk;have k0:a.tmps.getD 88 undef=.pointer (some ⟨B32,8,none⟩):=k0;have c8:w.cell? ⟨B32,8,none⟩=some (.int .i64 y.fin.no.block):=cellOf (hW.1.get 1 rfl) 8 _ rfl;have c9:w.cell? ⟨B32,9,none⟩=some (.slice b2.e.pNR y.fin.no.regs.length b2.e.cNR):=cellOf (hW.1.get 1 rfl) 9 _ rfl;have c10:w.cell? ⟨B32,10,none⟩=some (.slice b2.e.pNA y.fin.no.args.length b2.e.cNA):=cellOf (hW.1.get 1 rfl) 10 _ rfl;go_simp;exact hK _ _ (Below.refl _ _) hW rfl
       refine ⟨fun a w hW hk K hK=>?_,?_⟩
       · obtain ⟨k0,-⟩:=hk;have k0:a.tmps.getD 89 undef=.agg #[.int .i64 y.fin.no.block,.slice b2.e.pNR y.fin.no.regs.length b2.e.cNR,.slice b2.e.pNA y.fin.no.args.length b2.e.cNA]:=k0;go_simp;refine (rOwnTo_any _ _ _ _ _ w (In2.out.fin.no.below hW.1.bel) (by have:=hs2.out.2.2.1.2.1.1;omega) (by have:=hs2.out.2.2.1.2.1.2;omega)).mono ?_;rintro e w9 ⟨p9,c9,p8,c8,rfl,h9,hb⟩;exact hK _ _ hb ⟨hW.1.below hb,Below.andThen hW.2 hb⟩ ⟨p9,c9,p8,c8,rfl,h9.mono (fun k hk _=>Nat.le_trans hW.2.size hk)⟩
       refine ⟨fun a w hW hk K hK=>?_,?_⟩
       · obtain ⟨k0,-⟩:=hk;have k0:a.tmps.getD 8 undef=.pointer (some ⟨B32,0,none⟩):=k0;go_simp;exact hK _ _ (Below.refl _ _) hW rfl
       refine ⟨fun a w hW hk K hK=>?_,?_⟩
       · obtain ⟨k0,-⟩:=hk;have k0:a.tmps.getD 91 undef=.pointer (some ⟨B32,3,none⟩):=k0;go_simp;exact hK _ _ (Below.refl _ _) hW rfl
       refine ⟨fun a w hW hk K hK=>?_,?_⟩
       · obtain ⟨k0,-⟩:=hk;have k0:a.tmps.getD 92 undef=.pointer (some ⟨B32,11,none⟩):=k0;have c11:w.cell? ⟨B32,11,none⟩=some (.slice b2.e.pA y.fin.args.length b2.e.cA):=cellOf (hW.1.get 1 rfl) 11 _ rfl;go_simp;exact hK _ _ (Below.refl _ _) hW rfl
       refine ⟨fun a w hW hk K hK=>?_,?_⟩
       · obtain ⟨k0,-⟩:=hk;have k0:a.tmps.getD 93 undef=.slice b2.e.pA y.fin.args.length b2.e.cA:=k0;go_simp;refine (rOwnInts_any _ _ _ w (Lay.below In2.out.fin.args hW.1.bel) (by have:=hs2.out.2.2.1.2.2;omega)).mono ?_;rintro e w9 ⟨p9,c9,rfl,h9,hb⟩;exact hK _ _ hb ⟨hW.1.below hb,Below.andThen hW.2 hb⟩ ⟨p9,c9,rfl,Lay.mono h9 (fun k hk _=>Nat.le_trans hW.2.size hk)⟩
       refine ⟨fun a w hW hk K hK=>?_,?_⟩
       · obtain ⟨k0,k1,k2,k3,k4,-⟩:=hk;have k0:a.tmps[79]?.getD undef=.int .i64 y.fin.op:=by rw [← Array.getD_eq_getD_getElem?];exact k0
         have k1:a.tmps[82]?.getD undef=.int .i64 y.fin.a:=by rw [← Array.getD_eq_getD_getElem?];exact k1
         obtain ⟨r86,rc86,a86x,ac86,k2,hT86⟩:=k2;have k2:a.tmps[86]?.getD undef=.agg #[.int .i64 y.fin.yes.block,.slice r86 y.fin.yes.regs.length rc86,.slice a86x y.fin.yes.args.length ac86]:=by rw [← Array.getD_eq_getD_getElem?];exact k2
         obtain ⟨r90,rc90,a90x,ac90,k3,hT90⟩:=k3;have k3:a.tmps[90]?.getD undef=.agg #[.int .i64 y.fin.no.block,.slice r90 y.fin.no.regs.length rc90,.slice a90x y.fin.no.args.length ac90]:=by rw [← Array.getD_eq_getD_getElem?];exact k3
         obtain ⟨p94,c94,k4,hN94⟩:=k4;have k4:a.tmps[94]?.getD undef=.slice p94 y.fin.args.length c94:=by rw [← Array.getD_eq_getD_getElem?];exact k4
         go_simp;exact hK _ _ (Below.refl _ _) hW ⟨⟨r86,rc86,a86x,ac86,r90,rc90,a90x,ac90,p94,c94⟩,rfl,⟨hT86,hT90,hN94,In2.out.fin.bnd⟩⟩
       refine ⟨fun a w hW hk K hK=>?_,?_⟩
       · obtain ⟨k0,-⟩:=hk;have k0:a.tmps.getD 9 undef=.pointer (some ⟨BD9,0,none⟩):=k0;go_simp;exact hK _ _ (Below.refl _ _) hW rfl
       trivial
      case hend =>
       intro ops a65 w65 hWD hE hFD;obtain ⟨e95,hd95,hE95⟩:=hE 95 rfl;replace hd95:a65.tmps.getD 95 undef=.agg #[.int .i64 y.fin.op,.int .i64 y.fin.a,.int .i64 y.fin.yes.block,.slice e95.pYR y.fin.yes.regs.length e95.cYR,.slice e95.pYA y.fin.yes.args.length e95.cYA,.int .i64 y.fin.no.block,.slice e95.pNR y.fin.no.regs.length e95.cNR,.slice e95.pNA y.fin.no.args.length e95.cNA,.slice e95.pA y.fin.args.length e95.cA]:=hd95;have hd96:a65.tmps.getD 96 undef=.pointer (some ⟨BD9,3,none⟩):=hE 96 rfl;have hF65:Fr 110 a65 [(96,.pointer (some ⟨BD9,3,none⟩)),(95,.agg #[.int .i64 y.fin.op,.int .i64 y.fin.a,.int .i64 y.fin.yes.block,.slice e95.pYR y.fin.yes.regs.length e95.cYR,.slice e95.pYA y.fin.yes.args.length e95.cYA,.int .i64 y.fin.no.block,.slice e95.pNR y.fin.no.regs.length e95.cNR,.slice e95.pNA y.fin.no.args.length e95.cNA,.slice e95.pA y.fin.args.length e95.cA]),(0,.agg #[.slice p m.length c]),(1,.pointer (some ⟨B2,0,none⟩)),(2,.pointer (some ⟨B3,0,none⟩)),(3,.pointer (some ⟨B6,0,none⟩)),(4,.int .i64 (q1:Int)),(5,.pointer (some ⟨B17,0,none⟩)),(6,.pointer (some ⟨BD6,0,none⟩)),(7,.int .i64 (q2:Int)),(8,.pointer (some ⟨B32,0,none⟩)),(9,.pointer (some ⟨BD9,0,none⟩)),(10,.int .i64 (q3:Int))]:=((hFD.cons hd95).cons hd96);clear hd95 hd96;have hW65:Wd w26 w65 [(BD9,#[.int .i64 y.regs,.slice p49 y.params.length c49,.slice pL3 y.code.length cL3,.int .i64 0,.int .i64 0,.int .i64 0,.slice none 0 0,.slice none 0 0,.int .i64 0,.slice none 0 0,.slice none 0 0,.slice none 0 0],52),(B32,#[.int .i64 y.regs,.slice b2.pP y.params.length b2.cP,.slice b2.pC y.code.length b2.cC,.int .i64 y.fin.op,.int .i64 y.fin.a,.int .i64 y.fin.yes.block,.slice b2.e.pYR y.fin.yes.regs.length b2.e.cYR,.slice b2.e.pYA y.fin.yes.args.length b2.e.cYA,.int .i64 y.fin.no.block,.slice b2.e.pNR y.fin.no.regs.length b2.e.cNR,.slice b2.e.pNA y.fin.no.args.length b2.e.cNA,.slice b2.e.pA y.fin.args.length b2.e.cA],52)]:=hWD.1;have hsa2:w26.heap.size≤w41.heap.size:=hWo3.bel.size;have hmBD9:BD9<w41.heap.size:=(hWo3.get 0 rfl).lt;have hmB32:B32<w41.heap.size:=(hWo3.get 1 rfl).lt;replace hN49:=Lay.below hN49 hWD.2;replace hL3:=Lay.below hL3 hWD.2;clear hFD hWD hE hF64 h44;clear hWo3;refine St.go hF65 ?_;clear hF65 a65;refine sTk 0 hW65 rfl rfl infEnd rfl rfl rfl ?_;intro w66 hKp hW66;replace hN49:=Lay.keepNe hN49 hKp (fun k hk=>hk.2);replace hL3:=Lay.keepNe hL3 hKp (fun k hk=>hk.2);replace hE95:=EIn.keep1 hE95 hKp hmBD9;clear hKp hW65;refine St.nil fun a67 h67=>?_;refine hK63 _ _ ?_;refine rg h67 fun ops=>?_;clear h67 a67;refine sfFunc3 trivial rfl rfl ?_;refine scBlocks (bel_cell hW66.bel (cellOf hkBD6.out 3 _ rfl)) trivial rfl rfl ?_;refine sS 0 12 Tryz.underlying52 rfl infBlock hW66 trivial rfl rfl rfl rfl ?_;intro a68 h68;refine fr_row (t:=100) #[.int .i64 y.regs,.slice p49 y.params.length c49,.slice pL3 y.code.length cL3,.int .i64 y.fin.op,.int .i64 y.fin.a,.int .i64 y.fin.yes.block,.slice e95.pYR y.fin.yes.regs.length e95.cYR,.slice e95.pYA y.fin.yes.args.length e95.cYA,.int .i64 y.fin.no.block,.slice e95.pNR y.fin.no.regs.length e95.cNR,.slice e95.pNA y.fin.no.args.length e95.cNA,.slice e95.pA y.fin.args.length e95.cA] 52 1 h68 hW66 rfl rfl rfl (fun K hK=>?_) ?_
       ·have k0:a68.tmps[99]?.getD undef=.agg #[.int .i64 y.regs,.slice p49 y.params.length c49,.slice pL3 y.code.length cL3,.int .i64 y.fin.op,.int .i64 y.fin.a,.int .i64 y.fin.yes.block,.slice e95.pYR y.fin.yes.regs.length e95.cYR,.slice e95.pYA y.fin.yes.args.length e95.cYA,.int .i64 y.fin.no.block,.slice e95.pNR y.fin.no.regs.length e95.cNR,.slice e95.pNA y.fin.no.args.length e95.cNA,.slice e95.pA y.fin.args.length e95.cA]:=h68.sl2 99 _ rfl
        go_simp;exact hK
       clear h68 hW66;intro a69 w70 B70 hW70 hN hF69;replace hN49:=Lay.below hN49 hN.bel;replace hL3:=Lay.below hL3 hN.bel;replace hE95:=EIn.below hE95 hN.bel;clear hN;refine St.go hF69 ?_;clear hF69 a69;have hI9:(blockL n).In w70 (From w26.heap.size) y [.int .i64 y.regs,.slice p49 y.params.length c49,.slice pL3 y.code.length cL3,.int .i64 y.fin.op,.int .i64 y.fin.a,.int .i64 y.fin.yes.block,.slice e95.pYR y.fin.yes.regs.length e95.cYR,.slice e95.pYA y.fin.yes.args.length e95.cYA,.int .i64 y.fin.no.block,.slice e95.pNR y.fin.no.regs.length e95.cNR,.slice e95.pNA y.fin.no.args.length e95.cNA,.slice e95.pA y.fin.args.length e95.cA]:=block_shut (x:=y) (b:=⟨p49,c49,pL3,cL3,e95⟩) ⟨Lay.mono hN49 (fun k hk _=>hk.1),Lay.mono hL3 (fun k hk _=>hk.1),EIn.mono hE95 (fun k hk _=>Nat.le_trans hsa2 hk),In2.out.bnd⟩;have hAx:=hA2.out.below hW70.bel;have hzx:w22.heap.size≤w70.heap.size:=Nat.le_trans hz2 hW70.bel.size;have hKx:=KeepBut.below hK2.out hW70.bel hz2;refine sApp underBlocks hiB hzB0 hzB1 hzB2 rfl (by decide) rfl (hWo2.below hW70.bel) hlo2 (lts2 hlBD6 hlB17) hAx hzx (hW70.get 0 rfl) (Lay.mono hI9 (fun k hk _=>⟨Nat.le_trans hz2 hk,hA2.out.own_lt hk⟩)) rfl (by rw [List.length_take];omega) (by decide) rfl rfl rfl ?_;intro g71 cp71 w71 hA9 hgr hW71;have hK9:=hKx.grown hgr hzx (fun k hk=>(hAx.lo_le hk).1);clear hAx hzx hKx hgr hI9 hW70;refine sfFunc3 trivial rfl rfl ?_;refine s1k 0 inf1Blocks hW71 rfl rfl rfl rfl rfl rfl ?_;intro w72 hKp hW72;replace hA9:=ARow.keep1 hA9 hKp hlBD6;replace hK9:=KeepBut.keep1t hK9 hKp hlBD6;clear hKp hW71;refine St.nil fun a73 h73=>?_;refine hK30 _ _ ?_;refine rg h73 fun ops=>?_;clear h73 a73;refine sm trivial rfl rfl ?_;refine sad (by omega) trivial rfl rfl rfl ?_;refine sa trivial rfl rfl ?_;refine St.nil fun a74 h74=>?_;have hA8:=hA9.next hx2.out
       exact hKL2 _ _ (x.blocks.length - (q2+1)) (by omega) ⟨q2+1,by omega,rfl,_,_,hA8,hK9,Nat.le_of_lt (Nat.lt_of_le_of_lt (hA8.lo_le (g:=g71) rfl).1 (hA8.lo_le (g:=g71) rfl).2),(h74.keep (h74.keep (h74.keep (h74.keep (h74.keep (h74.keep (h74.keep (h74.keep h74.nil (t:=7) rfl) (t:=6) rfl) (t:=5) rfl) (t:=4) rfl) (t:=3) rfl) (t:=2) rfl) (t:=1) rfl) (t:=0) rfl),hW72⟩
    have hge2:q2=x.blocks.length:=by have:=of_decide_eq_false hb;omega
    clear hb hW26;have hAx:=hA2.out.full hge2;obtain ⟨pL2,cL2,hv9⟩:=hAx.form;subst hv9;have hL2:=hAx.lay;clear hAx;replace hL2:=Lay.mono hL2 (O':=fun k=>w11.heap.size≤k∧k≠BD6) (fun k hk _=>⟨by have h9:w22.heap.size≤k:=hk;omega,by have h9:w22.heap.size≤k:=hk;omega⟩);replace hN28:=Lay.keepBut hN28 hK2.out (O':=fun k=>w11.heap.size≤k∧k≠BD6) (fun k hk _=>⟨hk.2.1,hk.2.2⟩) (fun k hk _=>⟨Nat.le_trans hsd2 hk.1,hk.2.2⟩);replace hN31:=Lay.keepBut hN31 hK2.out (O':=fun k=>w11.heap.size≤k∧k≠BD6) (fun k hk _=>⟨hk.2.1,hk.2.2⟩) (fun k hk _=>⟨Nat.le_trans hsd2 hk.1,hk.2.2⟩);refine wp_exit ?_;refine hK23 _ _ ?_;refine rg h29 fun ops=>?_;clear h29 a29;refine sfModule0 trivial rfl rfl ?_;refine scFuncs (bel_cell hWo2.bel (cellOf hkB6.out 0 _ rfl)) trivial rfl rfl ?_;refine sS 0 4 Tryz.underlying42 rfl infFunc hWo2 trivial rfl rfl rfl rfl ?_;intro a75 h75;refine fr_row (t:=106) #[.int .i64 x.regs,.slice p28 x.params.length c28,.slice p31 x.results.length c31,.slice pL2 x.blocks.length cL2] 42 1 h75 hWo2 rfl rfl rfl (fun K hK=>?_) ?_
    ·have k0:a75.tmps[105]?.getD undef=.agg #[.int .i64 x.regs,.slice p28 x.params.length c28,.slice p31 x.results.length c31,.slice pL2 x.blocks.length cL2]:=h75.sl2 105 _ rfl
     go_simp;exact hK
    clear h75 hWo2;intro a76 w77 B77 hW77 hN hF76;replace hN28:=Lay.below hN28 hN.bel;replace hN31:=Lay.below hN31 hN.bel;replace hL2:=Lay.below hL2 hN.bel;clear hN;refine St.go hF76 ?_;clear hF76 a76;have hI9:(funcL n).In w77 (From w11.heap.size) x [.int .i64 x.regs,.slice p28 x.params.length c28,.slice p31 x.results.length c31,.slice pL2 x.blocks.length cL2]:=func_shut (x:=x) (f:=⟨p28,c28,p31,c31,pL2,cL2⟩) ⟨Lay.mono hN28 (fun k hk _=>hk.1),Lay.mono hN31 (fun k hk _=>hk.1),Lay.mono hL2 (fun k hk _=>hk.1),In1.out.bnd⟩;have hAx:=hA1.out.below hW77.bel;have hzx:w6.heap.size≤w77.heap.size:=Nat.le_trans hz1 hW77.bel.size;have hKx:=KeepBut.below hK1.out hW77.bel hz1;refine sApp underFuncs hiF hzF0 hzF1 hzF2 rfl (by decide) rfl (hWo1.below hW77.bel) hlo1 (lts3 hlB6 hlB3 hlB2) hAx hzx (hW77.get 0 rfl) (Lay.mono hI9 (fun k hk _=>⟨Nat.le_trans hz1 hk,hA1.out.own_lt hk⟩)) rfl (by rw [List.length_take];omega) (by decide) rfl rfl rfl ?_;intro g78 cp78 w78 hA9 hgr hW78;have hK9:=hKx.grown hgr hzx (fun k hk=>(hAx.lo_le hk).1);clear hAx hzx hKx hgr hI9 hW77;refine sfModule0 trivial rfl rfl ?_;refine s1k 0 inf1Funcs hW78 rfl rfl rfl rfl rfl rfl ?_;intro w79 hKp hW79;replace hA9:=ARow.keep1 hA9 hKp hlB6;replace hK9:=KeepBut.keep1t hK9 hKp hlB6;clear hKp hW78;refine St.nil fun a80 h80=>?_;refine hK15 _ _ ?_;refine rg h80 fun ops=>?_;clear h80 a80;refine sm trivial rfl rfl ?_;refine sad (by omega) trivial rfl rfl rfl ?_;refine sa trivial rfl rfl ?_;refine St.nil fun a81 h81=>?_;have hA8:=hA9.next hx1.out
    exact hKL1 _ _ (m.length - (q1+1)) (by omega) ⟨q1+1,by omega,rfl,_,_,hA8,hK9,Nat.le_of_lt (Nat.lt_of_le_of_lt (hA8.lo_le (g:=g78) rfl).1 (hA8.lo_le (g:=g78) rfl).2),(h81.keep (h81.keep (h81.keep (h81.keep (h81.keep h81.nil (t:=4) rfl) (t:=3) rfl) (t:=2) rfl) (t:=1) rfl) (t:=0) rfl),hW79⟩
  have hge1:q1=m.length:=by have:=of_decide_eq_false hb;omega
  clear hb hW11;have hAx:=hA1.out.full hge1;obtain ⟨pL1,cL1,hv9⟩:=hAx.form;subst hv9;have hL1:=hAx.lay;clear hAx;refine wp_exit ?_;refine hK8 _ _ ?_;refine wp_seq_k fun K82 hK82=>?_;refine rg h14 fun ops=>?_;clear h14 a14;refine sS 0 1 Tryz.underlying25 rfl infModule hWo1 trivial rfl rfl rfl rfl ?_;refine sTk 1 hWo1 rfl rfl infModule rfl rfl rfl ?_;intro w83 hKp hW83;replace hL1:=Lay.keep1 hL1 hKp hlB3;clear hKp hWo1;refine St.nil fun a84 h84=>?_;refine hK82 _ _ ?_;refine wp_ret ?_;with_reducible repeat first | refine of_then_ret ?_ | refine of_block_ret ?_
  exact ret_box 1 h84 hW83 rfl rfl rfl Tryz.underlying25 rfl infModule ⟨_,rfl,⟨pL1,cL1,rfl,Lay.mono hL1 (fun k hk _=>Nat.le_trans hlo1 hk)⟩,hW83.bel⟩
end Go.Proofs.YtalfbnllodhkiacGreatDoor
namespace Go.Proofs.YtalfbnllodhkiacGreatDoor
open Go.ChangeShapes Go.WideShapes Go.ChangeAt Go.RowKit
set_option linter.unusedVariables false
theorem typesText_any (n : Nat) (IH0 : TextAt 124 n) (l : List (TT n)) (a : Option Addr) (c : Nat) (w : World) (hl0 : LIn w All l a) (hco0 : ∀ x ∈ l, x.count ≤ 2000) (hlen : l.length ≤ 2000) (hok0 : ∀ x ∈ l, x.ok) (hp0 : Pows w) (hbs0 : (l.map TT.count).sum ≤ 400000) :
    Calls Tryz.prog 89 #[.slice a l.length c] w fun e w'=>e=.returned (.string ⟨([40]++catL (l.map TT.txt)++[41]).toArray⟩)∧Below w.heap.size w w':=by
  have IH:Hid (TextAt 124 n):=IH0;have hl:Hid (LIn w All l a):=hl0;have hco:Hid (∀ x∈l,x.count≤2000):=hco0;have hok:Hid (∀ x∈l,x.ok):=hok0;have hp:Hid (Pows w):=hp0;have hbs:Hid ((l.map TT.count).sum≤400000):=hbs0;clear IH0 hl0 hco0 hok0 hp0 hbs0;go_enter Tryz.func89,Tryz.ntmps89
  go_wp2_with fail
  go_loopw [3,4] (fun v i wr=>∃ q:Nat,q≤l.length∧i=.int .i64 q∧v=.string ⟨([40]++catL ((l.take q).map TT.txt)).toArray⟩∧Below w.heap.size w wr) (fun _ i _=>l.length - (intOf i).toNat)
  case atStart=>exact ⟨0,Nat.zero_le _,rfl,rfl,Below.refl _ _⟩
  case round =>
    obtain ⟨q,hq,rfl,rfl,hb⟩:=hrel;have Bl:Hid (Below w.heap.size w wr):=hb;clear hb;have hlq:=cat_take_len hok.out q;have hsl:=sum_take_le (l.map TT.count) q;have hbs':=hbs.out;have hcl:(catL ((l.take q).map TT.txt)).length≤16000000:=by omega
    by_cases hlt:q<l.length
    · have hx:l[q]?=some l[q]:=List.getElem?_eq_getElem hlt;generalize l[q]=x at hx;obtain ⟨g,o,a',c',rfl,_,d0,d1,d2,hk⟩:=LIn.at (hl.out.below Bl.out) hx;have hmem:=List.mem_of_getElem? hx
      have hS:catL ((l.take (q+1)).map TT.txt)=catL ((l.take q).map TT.txt)++(if q=0 then [] else [44,32])++x.txt:=by
        rw [List.take_add_one,hx,Option.toList_some,List.map_append,List.map_cons,List.map_nil,catL_snoc];rw [List.length_map,List.length_take,Nat.min_eq_left (by omega)]
      have S:Hid (catL ((l.take (q+1)).map TT.txt)=catL ((l.take q).map TT.txt)++(if q=0 then [] else [44,32])++x.txt):=hS
      have C:Hid (Calls Tryz.prog 124 #[Tv x a' c'] wr fun e w'=>e=.returned (.string ⟨x.txt.toArray⟩)∧Below wr.heap.size wr w') :=
        IH.out x a' c' wr hk (hco.out x hmem) (hok.out x hmem) (hp.out.below Bl.out)
      have hxl:x.txt.length≤80000:=by have:=TT.txt_len (hok.out x hmem);have:=hco.out x hmem;omega
      have hk0:(0:Int)≤q:=by omega
      have hk1:(q:Int)<l.length:=by omega
      have hk2:(q:Int)<2000:=by omega
      clear hS hlq hsl hbs' hk hx hmem;simp only [Tv] at C;generalize x.kind=kx at C d0;generalize x.r=rx at C d1;generalize x.len=lx at C d2;generalize x.txt=tx at C S hxl;generalize catL ((l.take q).map TT.txt)=cq at S hcl ⊢;by_cases hz:q=0
      · have hz':¬ (0:Int)<q:=by omega
        have R:Hid (catL ((l.take (q+1)).map TT.txt)=cq++tx):=by rw [S.out,if_pos hz];show _=_;simp
        clear hz S;go_wp2_with fail
        refine C.out.mono ?_;rintro e w2 ⟨rfl,b2⟩;have B3:Hid (Below w.heap.size w w2):=Bl.out.trans (b2.mono Bl.out.size);clear b2 C;go_wp2
        go_roundw
        case rel=>exact ⟨q+1,by omega,by go_num,by rw [ByteArray.mk_append_mk,R.out];rfl,B3.out⟩
        case measure=>simp [intOf];omega
      · have hz':(0:Int)<q:=by omega
        have R:Hid (catL ((l.take (q+1)).map TT.txt)=cq++[44,32]++tx):=by show _=_;rw [S.out,if_neg hz]
        clear hz S;go_wp2_with fail
        refine C.out.mono ?_;rintro e w2 ⟨rfl,b2⟩;have B3:Hid (Below w.heap.size w w2):=Bl.out.trans (b2.mono Bl.out.size);clear b2 C;go_wp2
        go_roundw
        case rel=>exact ⟨q+1,by omega,by go_num,by rw [ByteArray.mk_append_mk (40::cq) [44,32],ByteArray.mk_append_mk,R.out];simp,B3.out⟩
        case measure=>simp [intOf];omega
    · have hk1:¬ (q:Int)<l.length:=by omega
      have htt:l.take q=l:=List.take_of_length_le (by omega);rw [htt] at hcl ⊢;clear hlq hsl hbs' htt;generalize hcq:catL (l.map TT.txt)=cq at hcl ⊢;have E:Hid (catL (l.map TT.txt)=cq):=hcq;clear hcq;go_wp2
      go_ret;exact ⟨by show Ending.returned (.string (⟨(40::cq).toArray⟩++⟨#[41]⟩))=_;rw [ByteArray.mk_append_mk (40::cq) [41],E.out];rfl,Bl.out⟩
theorem typeText_any : ∀ n, TextAt 124 n := by
  intro n
  induction n with
  | zero=>intro t;exact Empty.elim t
  | succ n ih =>
    intro t a c w ht hct hok0 hp0;have hco:∀ x∈t.2.2,x.count≤2000:=fun x hx=>by have:=t.count_kid hx;omega
    have hlen:t.2.2.length≤2000:=by have:=t.len_lt_count;rw [t.len_eq] at this;omega
    have hcnt:t.count=1+(t.2.2.map TT.count).sum:=rfl
    have CL:Hid (∀ wx,Below w.heap.size w wx→Calls Tryz.prog 89 #[.slice a t.2.2.length c] wx fun e w'=>e=.returned (.string ⟨([40]++catL (t.2.2.map TT.txt)++[41]).toArray⟩)∧Below wx.heap.size wx w') :=
      fun wx hb=>typesText_any n ih t.2.2 a c wx (ht.below hb) hco hlen hok0.2 (hp0.below hb) (by omega)
    have hr:Hid (-9223372036854775808≤t.r∧t.r≤9223372036854775807):=hok0.1;have hT:Hid (t.txt=if t.kind=2 then [104,97,110,100,108,101,32]++Lib.itoa t.r else if t.kind=4 then [97,114,114,97,121,32]++Lib.itoa t.r else if t.kind=3 then [116,117,112,108,101,32]++Lib.itoa t.r++[32,40]++catL (t.2.2.map TT.txt)++[41] else [105,110,116]):=rfl
    have hcl:(catL (t.2.2.map TT.txt)).length≤80000:=by
      have:=cat_take_len hok0.2 t.2.2.length
      rw [List.take_of_length_le (Nat.le_refl _),List.take_of_length_le (by simp)] at this;omega
    have hzl:(Lib.itoa t.r).length≤21:=Lib.itoa_length_le t.r hr.out.1 hr.out.2
    have CI:Hid (∀ wx,Below w.heap.size w wx→Calls Tryz.prog 88 #[.int .i64 t.r] wx fun e w'=>e=.returned (.string ⟨(Lib.itoa t.r).toArray⟩)∧Below wx.heap.size wx w') :=
      fun wx hb=>itoa_any t.r hr.out wx (hp0.below hb)
    generalize t.txt=res at hT ⊢;simp only [Tv,TT.len_eq];generalize catL (t.2.2.map TT.txt)=cl at CL hT hcl;generalize t.2.2.length=len at CL ⊢;generalize t.kind=k at hT ⊢;generalize Lib.itoa t.r=z at hT CI hzl;generalize t.r=r at CI ⊢;clear hct hok0 hp0 hco hlen ih ht hcnt hr t;have X0:=Bx.start w k r a len c;by_cases h2:k=2
    · subst h2;have R:Hid (res=[104,97,110,100,108,101,32]++z):=hT.out.trans (if_pos rfl);clear hT;go_enter Tryz.func124,Tryz.ntmps124
      go_wp2_with fail
      generalize w.alloc (.cells #[.int .i64 2,.int .i64 r,.slice a len c] 78)=w1 at X0 ⊢;refine (CI.out w1 X0.bel).mono ?_;rintro e w2 ⟨rfl,b2⟩;have X2:Hid (Bx w w2 2 r a len c):=X0.below b2;clear b2 X0 CI;go_wp2
      go_ret;exact ⟨by rw [R.out,← ByteArray.mk_append_mk];rfl,X2.out.bel⟩
    by_cases h4:k=4
    · subst h4;have R:Hid (res=[97,114,114,97,121,32]++z):=hT.out.trans ((if_neg (by decide)).trans (if_pos rfl));clear hT;go_enter Tryz.func124,Tryz.ntmps124
      go_wp2_with fail
      generalize w.alloc (.cells #[.int .i64 4,.int .i64 r,.slice a len c] 78)=w1 at X0 ⊢;refine (CI.out w1 X0.bel).mono ?_;rintro e w2 ⟨rfl,b2⟩;have X2:Hid (Bx w w2 4 r a len c):=X0.below b2;clear b2 X0 CI;go_wp2
      go_ret;exact ⟨by rw [R.out,← ByteArray.mk_append_mk];rfl,X2.out.bel⟩
    have g2:(k==2)=false:=by simpa using h2
    have g4:(k==4)=false:=by simpa using h4
    by_cases h3:k=3
    · subst h3;clear g2 g4 h2 h4
      have R:Hid (res=[116,117,112,108,101,32]++z++[32]++([40]++cl++[41])):=by
        show _=_;rw [hT.out,if_neg (by decide),if_neg (by decide),if_pos rfl];simp
      clear hT;have hql:([40]++cl++[41]).length≤80002:=by simp;omega
      generalize [40]++cl++[41]=cq at CL R hql;clear hcl;go_enter Tryz.func124,Tryz.ntmps124
      go_wp2_with fail
      generalize w.alloc (.cells #[.int .i64 3,.int .i64 r,.slice a len c] 78)=w1 at X0 ⊢;have X1:Hid (Bx w w1 3 r a len c):=X0;have e1:w1.cell? ⟨w.heap.size,1,none⟩=some (.int .i64 r):=cellOf X0.box 1 _ rfl;have e2:w1.cell? ⟨w.heap.size,2,none⟩=some (.slice a len c):=cellOf X0.box 2 _ rfl
      have CI':Hid (∀ wx,Bx w wx 3 r a len c→Calls Tryz.prog 88 #[.int .i64 r] wx fun e w'=>e=.returned (.string ⟨z.toArray⟩)∧Bx w w' 3 r a len c) :=
        fun wx hX=>(CI.out wx hX.bel).mono (fun e w' h=>⟨h.1,hX.below h.2⟩)
      have CL':Hid (∀ wx,Bx w wx 3 r a len c→Calls Tryz.prog 89 #[.slice a len c] wx fun e w'=>e=.returned (.string ⟨cq.toArray⟩)∧Bx w w' 3 r a len c) :=
        fun wx hX=>(CL.out wx hX.bel).mono (fun e w' h=>⟨h.1,hX.below h.2⟩)
      clear X0 CI CL
      go_region_with (first
        | (go_at_call 88;refine (CI'.out _ (by first | exact X1.out.drewN 1 | exact XL.out)).mono ?_;rintro e w5 ⟨rfl,x5⟩;have f2:=cellOf x5.box 2 _ rfl;have XI:Hid (Bx w w5 3 r a len c):=x5;clear x5)
        | (go_at_call 89;refine (CL'.out _ (by first | exact X1.out.drewN 1 | exact XI.out)).mono ?_;rintro e w6 ⟨rfl,x6⟩;have f1:=cellOf x6.box 1 _ rfl;have XL:Hid (Bx w w6 3 r a len c):=x6;clear x6))
      all_goals
        go_wp2
        go_ret;refine ⟨by rw [R.out,ByteArray.mk_append_mk [116,117,112,108,101,32] z,ByteArray.mk_append_mk ([116,117,112,108,101,32]++z) [32],ByteArray.mk_append_mk];rfl,?_⟩;first | exact XL.out.bel | exact XI.out.bel
    · have g3:(k==3)=false:=by simpa using h3
      have R:Hid (res=[105,110,116]):=hT.out.trans ((if_neg h2).trans ((if_neg h4).trans (if_neg h3)));clear h2 h3 h4 hT;go_enter Tryz.func124,Tryz.ntmps124
      go_wp2_with fail
      go_ret;exact ⟨by rw [R.out];rfl,X0.bel⟩
end Go.Proofs.YtalfbnllodhkiacGreatDoor
namespace Go.Proofs.YtalfbnllodhkiacGreatDoor
open Go.ChangeShapes Go.WideShapes Go.ChangeAt Go.RowKit Go.Shelf
set_option linter.unusedSimpArgs false
set_option linter.unusedVariables false
theorem intsText_any (b f : UInt8) (l : List Int) (a : Option Addr) (c : Nat) (w : World) (hl0 : intsL.In w All l [.slice a l.length c]) (hp0 : Pows w) (hn : l.length ≤ 300) :
    Calls Tryz.prog 92 #[.string ⟨#[b]⟩,.slice a l.length c,.string ⟨#[f]⟩] w fun e w'=>e=.returned (.string (str (intsT b f l)))∧Below w.heap.size w w':=by
  have hl:Hid (intsL.In w All l [.slice a l.length c]):=hl0;have hp:Hid (Pows w):=hp0;clear hl0 hp0;go_enter Tryz.func92,Tryz.ntmps92
  go_wp2_with fail
  go_loopw [7,8] (fun v i wr=>∃ q:Nat,q≤l.length∧i=.int .i64 q∧v=.string ⟨(b::catL ((l.take q).map Lib.itoa)).toArray⟩∧Below w.heap.size w wr) (fun _ i _=>l.length - (intOf i).toNat)
  case atStart=>exact ⟨0,Nat.zero_le _,rfl,rfl,Below.refl _ _⟩
  case round =>
    obtain ⟨q,hq,rfl,rfl,hb⟩:=hrel;have Bl:Hid (Below w.heap.size w wr):=hb;clear hb
    have hcl:(catL ((l.take q).map Lib.itoa)).length≤7000:=by
      have h1:=cat_len (t:=Lib.itoa) (k:=21) (l:=l.take q) (fun x hx=>have:=List.mem_of_mem_take hx;Lib.itoa_length_le x (ints_i64 hl.out x this).1 (ints_i64 hl.out x this).2);rw [List.length_take] at h1;omega
    by_cases hlt:q<l.length
    · have hx:l[q]?=some l[q]:=List.getElem?_eq_getElem hlt;obtain ⟨g,o,rfl,_,hg,hc⟩:=ints_at (Lay.below hl.out Bl.out) hlt;have hI:=ints_i64 hl.out _ (List.mem_of_getElem? hx);rw [show l.getD q 0=l[q] by simp [List.getD,hlt]] at hc;generalize l[q]=x at hx hc hI;have C:Hid (Calls Tryz.prog 88 #[.int .i64 x] wr fun e w'=>e=.returned (.string ⟨(Lib.itoa x).toArray⟩)∧Below wr.heap.size wr w'):=itoa_any x hI wr (hp.out.below Bl.out)
      have S:Hid (catL ((l.take (q+1)).map Lib.itoa)=catL ((l.take q).map Lib.itoa)++(if q=0 then [] else [44,32])++Lib.itoa x):=by
        show _=_;rw [List.take_add_one,hx,Option.toList_some,List.map_append,List.map_cons,List.map_nil,catL_snoc];rw [List.length_map,List.length_take,Nat.min_eq_left (by omega)]
      have hxl:(Lib.itoa x).length≤21:=Lib.itoa_length_le x hI.1 hI.2;have hk0:(0:Int)≤q:=by omega
      have hk1:(q:Int)<l.length:=by omega
      clear hx hI;generalize Lib.itoa x=tx at C S hxl;generalize catL ((l.take q).map Lib.itoa)=cq at S hcl ⊢;by_cases hz:q=0
      · have hz':¬ (0:Int)<q:=by omega
        have R:Hid (catL ((l.take (q+1)).map Lib.itoa)=cq++tx):=by rw [S.out,if_pos hz];show _=_;simp
        clear hz S;go_wp2_with fail
        refine C.out.mono ?_;rintro e w2 ⟨rfl,b2⟩;have B3:Hid (Below w.heap.size w w2):=Bl.out.trans (b2.mono Bl.out.size);clear b2 C;go_wp2
        go_roundw
        case rel=>exact ⟨q+1,by omega,by go_num,by rw [ByteArray.mk_append_mk,R.out];rfl,B3.out⟩
        case measure=>simp [intOf];omega
      · have hz':(0:Int)<q:=by omega
        have R:Hid (catL ((l.take (q+1)).map Lib.itoa)=cq++[44,32]++tx):=by show _=_;rw [S.out,if_neg hz]
        clear hz S;go_wp2_with fail
        refine C.out.mono ?_;rintro e w2 ⟨rfl,b2⟩;have B3:Hid (Below w.heap.size w w2):=Bl.out.trans (b2.mono Bl.out.size);clear b2 C;go_wp2
        go_roundw
        case rel=>exact ⟨q+1,by omega,by go_num,by rw [ByteArray.mk_append_mk (b::cq) [44,32],ByteArray.mk_append_mk,R.out];simp,B3.out⟩
        case measure=>simp [intOf];omega
    · have hk1:¬ (q:Int)<l.length:=by omega
      have htt:l.take q=l:=List.take_of_length_le (by omega);rw [htt] at hcl ⊢;clear htt
      have E:Hid (str (intsT b f l)=⟨(b::catL (l.map Lib.itoa)).toArray⟩++⟨#[f]⟩):=by
        show _=_;rw [ByteArray.mk_append_mk _ [f]];rfl
      generalize catL (l.map Lib.itoa)=cq at hcl E ⊢;go_wp2
      go_ret;exact ⟨by rw [E.out];rfl,Bl.out⟩
theorem small_any (l : List Int) (a : Option Addr) (c : Nat) (w : World) (hl0 : intsL.In w All l [.slice a l.length c]) (hn : l.length ≤ 300) :
    Calls Tryz.prog 48 #[.slice a l.length c] w fun e w'=>e=.returned (.bool (l.all numB))∧Below w.heap.size w w':=by
  have hl:Hid (intsL.In w All l [.slice a l.length c]):=hl0;clear hl0;go_enter Tryz.func48,Tryz.ntmps48
  go_wp2_with fail
  go_loopw [3] (fun i wr=>∃ q:Nat,q≤l.length∧i=.int .i64 q∧(l.take q).all numB=true∧Below w.heap.size w wr) (fun i _=>l.length - (intOf i).toNat)
  case atStart=>exact ⟨0,Nat.zero_le _,rfl,rfl,Below.refl _ _⟩
  case round =>
    obtain ⟨q,hq,rfl,ha,hb⟩:=hrel;have Bl:Hid (Below w.heap.size w wr):=hb;have A:Hid ((l.take q).all numB=true):=ha;clear hb ha;by_cases hlt:q<l.length
    · have hx:l[q]?=some l[q]:=List.getElem?_eq_getElem hlt;obtain ⟨g,o,rfl,_,hg,hc⟩:=ints_at (Lay.below hl.out Bl.out) hlt;rw [show l.getD q 0=l[q] by simp [List.getD,hlt]] at hc;generalize l[q]=x at hx hc;have hk0:(0:Int)≤q:=by omega
      have hk1:(q:Int)<l.length:=by omega
      have M:Hid (x∈l):=List.mem_of_getElem? hx
      have S:Hid ((l.take (q+1)).all numB=numB x):=by
        show _=_;rw [List.take_add_one,hx,Option.toList_some,List.all_append,A.out];simp
      clear hx A;by_cases hn:numB x=true
      · have h1:¬ x<0:=by simp [numB] at hn;omega
        have h2:¬ 1000000<x:=by simp [numB] at hn;omega
        have S2:Hid ((l.take (q+1)).all numB=true):=S.out.trans hn;clear hn S M;go_wp2
        go_roundw
        case rel=>exact ⟨q+1,by omega,by go_num,S2.out,Bl.out⟩
        case measure=>simp [intOf];omega
      · have F:Hid (l.all numB=false):=by
          show _=_;rw [List.all_eq_false];exact ⟨x,M.out,hn⟩
        by_cases h1:x<0
        · clear hn S M;go_wp2
          go_ret;exact ⟨by rw [F.out];rfl,Bl.out⟩
        · have h2:1000000<x:=by simp [numB] at hn;omega
          clear hn S M;go_wp2
          go_ret;exact ⟨by rw [F.out];rfl,Bl.out⟩
    · have hk1:¬ (q:Int)<l.length:=by omega
      have htt:l.take q=l:=List.take_of_length_le (by omega);rw [htt] at A;go_wp2
      go_ret;exact ⟨by rw [A.out];rfl,Bl.out⟩
theorem cat_letter (a b : List UInt8) : ∃ y, Hid (a ++ b = y) ∧ y.length = a.length + b.length := ⟨a ++ b, (rfl : a ++ b = a ++ b), List.length_append⟩
theorem str_add (a b : List UInt8) : Value.string (str a ++ str b) = .string (str (a ++ b)) := congrArg Value.string (ByteArray.mk_append_mk a b)
theorem toTextR_any (t : MTo) (cs : List Value) (w : World) (h0 : toL.In w All t cs) (hp0 : Pows w) (hs : t.small) :
    Calls Tryz.prog 91 #[.agg cs.toArray] w fun e w'=>e=.returned (.string (str t.txt))∧Below w.heap.size w w':=by
  obtain ⟨a,c,b,d,rfl,h1,h2,h3⟩:=to_form h0;obtain ⟨s1,s2⟩:=hs;have l1:=ints_len 60 62 h1 s1;have l2:=ints_len 40 41 h2 s2;have l0:=Lib.itoa_length_le _ h3.1 h3.2
  have T:Hid (t.txt=Lib.itoa t.block++[32]++intsT 60 62 t.regs++[32]++intsT 40 41 t.args):=by
    show _=_;simp [MTo.txt]
  have C0:Hid (∀ wx,Below w.heap.size w wx→Calls Tryz.prog 88 #[.int .i64 t.block] wx fun e w'=>e=.returned (.string (str (Lib.itoa t.block)))∧Below wx.heap.size wx w'):=fun wx hb=>itoa_any _ h3 wx (hp0.below hb);have C1:Hid (∀ wx,Below w.heap.size w wx→Calls Tryz.prog 92 #[.string ⟨#[60]⟩,.slice a t.regs.length c,.string ⟨#[62]⟩] wx fun e w'=>e=.returned (.string (str (intsT 60 62 t.regs)))∧Below wx.heap.size wx w'):=fun wx hb=>intsText_any _ _ _ _ _ wx (Lay.below h1 hb) (hp0.below hb) s1;have C2:Hid (∀ wx,Below w.heap.size w wx→Calls Tryz.prog 92 #[.string ⟨#[40]⟩,.slice b t.args.length d,.string ⟨#[41]⟩] wx fun e w'=>e=.returned (.string (str (intsT 40 41 t.args)))∧Below wx.heap.size wx w'):=fun wx hb=>intsText_any _ _ _ _ _ wx (Lay.below h2 hb) (hp0.below hb) s2;rw [T.out];clear T h0 h1 h2 h3 hp0 s1 s2;generalize Lib.itoa t.block=z0 at C0 l0 ⊢;generalize intsT 60 62 t.regs=z1 at C1 l1 ⊢;generalize intsT 40 41 t.args=z2 at C2 l2 ⊢;generalize t.block=k0 at C0 ⊢;generalize t.regs.length=k1 at C1 ⊢;generalize t.args.length=k2 at C2 ⊢;have X1:Hid (Blk (w.alloc (.cells #[.int .i64 k0,.slice a k1 c,.slice b k2 d] 48)) w.heap.size #[.int .i64 k0,.slice a k1 c,.slice b k2 d] 48):=Blk.new _ _ _;have X1l:Hid (w.heap.size<(w.alloc (.cells #[.int .i64 k0,.slice a k1 c,.slice b k2 d] 48)).heap.size):=by show _<_;simp
  have B1:Hid (Below w.heap.size w (w.alloc (.cells #[.int .i64 k0,.slice a k1 c,.slice b k2 d] 48))):=bel1 _ _;obtain ⟨y6,Ey6,ly6⟩:=cat_letter z0 [32];rw [Ey6.out];obtain ⟨y10,Ey10,ly10⟩:=cat_letter y6 z1;rw [Ey10.out];obtain ⟨y11,Ey11,ly11⟩:=cat_letter y10 [32];rw [Ey11.out];obtain ⟨y15,Ey15,ly15⟩:=cat_letter y11 z2;rw [Ey15.out];go_enter Tryz.func91,Tryz.ntmps91
  go_wp2_with fail
  generalize w.alloc (.cells #[.int .i64 k0,.slice a k1 c,.slice b k2 d] 48)=w1 at X1 X1l B1 ⊢;refine wp_puts [3,4,5,6,7,8,9,10,11,12,13,14,15,2] (fun vs w'=>vs 2=.string (str y15)∧Below w1.heap.size w1 w') ?_ ?_
  · refine wp_region_calm (PTab.E ([(1,fun v _=>v=.pointer (some ⟨w.heap.size,0,none⟩)),(3,fun v _=>v=.pointer (some ⟨w.heap.size,0,none⟩)),(4,fun v _=>v=.int .i64 k0),(5,fun v _=>v=.string (str z0)),(6,fun v _=>v=.string (str y6)),(7,fun v _=>v=.pointer (some ⟨w.heap.size,1,none⟩)),(8,fun v _=>v=.slice a k1 c),(9,fun v _=>v=.string (str z1)),(10,fun v _=>v=.string (str y10)),(11,fun v _=>v=.string (str y11)),(12,fun v _=>v=.pointer (some ⟨w.heap.size,2,none⟩)),(13,fun v _=>v=.slice b k2 d),(14,fun v _=>v=.string (str z2)),(15,fun v _=>v=.string (str y15)),(2,fun v _=>v=.string (str y15))]:PTab)) (fun wx=>Below w1.heap.size w1 wx) (fun w w'=>Below w.heap.size w w') (outs:=[1]) (gs:=[]) (bs:=[true,true,true,true,true,true,true,true,true,true,true,true,true,true]) (by kernel_rfl) (n:=16) rfl (Nat.le_refl _) (by kernel_rfl) (PTab_stable _ ⟨fun _ _ _ _ h=>h,fun _ _ _ _ h=>h,fun _ _ _ _ h=>h,fun _ _ _ _ h=>h,fun _ _ _ _ h=>h,fun _ _ _ _ h=>h,fun _ _ _ _ h=>h,fun _ _ _ _ h=>h,fun _ _ _ _ h=>h,fun _ _ _ _ h=>h,fun _ _ _ _ h=>h,fun _ _ _ _ h=>h,fun _ _ _ _ h=>h,fun _ _ _ _ h=>h,fun _ _ _ _ h=>h,trivial⟩) ?hG (drewN_below (m:=1) (Below.refl _ _)) ⟨rfl,trivial⟩ ?hA ?hend
    case hG=>exact trivial
    case hend=>exact fun vs w' hW hk=>⟨rfl,vs,rfl,hk 2 (by kernel_rfl),hW⟩
    case hA =>
      refine ⟨fun ac wc hW hk K hK=>?_,?_⟩
      · obtain ⟨q0,-⟩:=hk;have q0:ac.tmps.getD 1 undef=.pointer (some ⟨w.heap.size,0,none⟩):=q0;go_simp;exact hK _ _ (Below.refl _ _) hW rfl
      refine ⟨fun ac wc hW hk K hK=>?_,?_⟩
      · obtain ⟨q0,-⟩:=hk;have q0:ac.tmps.getD 3 undef=.pointer (some ⟨w.heap.size,0,none⟩):=q0;have c0:=cellOf ((hW.block _ X1l.out).trans X1.out) 0 _ rfl;go_simp;exact hK _ _ (Below.refl _ _) hW rfl
      refine ⟨fun ac wc hW hk K hK=>?_,?_⟩
      · obtain ⟨q0,-⟩:=hk;have q0:ac.tmps.getD 4 undef=.int .i64 k0:=q0;go_simp;refine (C0.out wc (B1.out.trans (hW.mono B1.out.size))).mono ?_;rintro r7 w7 ⟨rfl,b7⟩;go_simp;exact hK _ _ b7 (hW.trans (b7.mono hW.size)) rfl
      refine ⟨fun ac wc hW hk K hK=>?_,?_⟩
      · obtain ⟨q0,-⟩:=hk;have q0:ac.tmps.getD 5 undef=.string (str z0):=q0;have n0:¬ 9223372036854775807<(str z0).size+1:=by simp only [str_size];simp only [List.length_cons,List.length_nil] at *;omega
        go_simp;exact hK _ _ (Below.refl _ _) hW (by rw [← Ey6.out];exact str_add z0 [32])
      refine ⟨fun ac wc hW hk K hK=>?_,?_⟩
      · obtain ⟨q0,-⟩:=hk;have q0:ac.tmps.getD 1 undef=.pointer (some ⟨w.heap.size,0,none⟩):=q0;go_simp;exact hK _ _ (Below.refl _ _) hW rfl
      refine ⟨fun ac wc hW hk K hK=>?_,?_⟩
      · obtain ⟨q0,-⟩:=hk;have q0:ac.tmps.getD 7 undef=.pointer (some ⟨w.heap.size,1,none⟩):=q0;have c0:=cellOf ((hW.block _ X1l.out).trans X1.out) 1 _ rfl;go_simp;exact hK _ _ (Below.refl _ _) hW rfl
      refine ⟨fun ac wc hW hk K hK=>?_,?_⟩
      · obtain ⟨q0,-⟩:=hk;have q0:ac.tmps.getD 8 undef=.slice a k1 c:=q0;go_simp;refine (C1.out wc (B1.out.trans (hW.mono B1.out.size))).mono ?_;rintro r7 w7 ⟨rfl,b7⟩;go_simp;exact hK _ _ b7 (hW.trans (b7.mono hW.size)) rfl
      refine ⟨fun ac wc hW hk K hK=>?_,?_⟩
      · obtain ⟨q0,q1,-⟩:=hk;have q0:ac.tmps.getD 6 undef=.string (str y6):=q0;have q1:ac.tmps.getD 9 undef=.string (str z1):=q1;have n0:¬ 9223372036854775807<(str y6).size+(str z1).size:=by simp only [str_size];simp only [List.length_cons,List.length_nil] at *;omega
        go_simp;exact hK _ _ (Below.refl _ _) hW (by rw [← Ey10.out];exact str_add y6 z1)
      refine ⟨fun ac wc hW hk K hK=>?_,?_⟩
      · obtain ⟨q0,-⟩:=hk;have q0:ac.tmps.getD 10 undef=.string (str y10):=q0;have n0:¬ 9223372036854775807<(str y10).size+1:=by simp only [str_size];simp only [List.length_cons,List.length_nil] at *;omega
        go_simp;exact hK _ _ (Below.refl _ _) hW (by rw [← Ey11.out];exact str_add y10 [32])
      refine ⟨fun ac wc hW hk K hK=>?_,?_⟩
      · obtain ⟨q0,-⟩:=hk;have q0:ac.tmps.getD 1 undef=.pointer (some ⟨w.heap.size,0,none⟩):=q0;go_simp;exact hK _ _ (Below.refl _ _) hW rfl
      refine ⟨fun ac wc hW hk K hK=>?_,?_⟩
      · obtain ⟨q0,-⟩:=hk;have q0:ac.tmps.getD 12 undef=.pointer (some ⟨w.heap.size,2,none⟩):=q0;have c0:=cellOf ((hW.block _ X1l.out).trans X1.out) 2 _ rfl;go_simp;exact hK _ _ (Below.refl _ _) hW rfl
      refine ⟨fun ac wc hW hk K hK=>?_,?_⟩
      · obtain ⟨q0,-⟩:=hk;have q0:ac.tmps.getD 13 undef=.slice b k2 d:=q0;go_simp;refine (C2.out wc (B1.out.trans (hW.mono B1.out.size))).mono ?_;rintro r7 w7 ⟨rfl,b7⟩;go_simp;exact hK _ _ b7 (hW.trans (b7.mono hW.size)) rfl
      refine ⟨fun ac wc hW hk K hK=>?_,?_⟩
      · obtain ⟨q0,q1,-⟩:=hk;have q0:ac.tmps.getD 11 undef=.string (str y11):=q0;have q1:ac.tmps.getD 14 undef=.string (str z2):=q1;have n0:¬ 9223372036854775807<(str y11).size+(str z2).size:=by simp only [str_size];simp only [List.length_cons,List.length_nil] at *;omega
        go_simp;exact hK _ _ (Below.refl _ _) hW (by rw [← Ey15.out];exact str_add y11 z2)
      refine ⟨fun ac wc hW hk K hK=>?_,?_⟩
      · obtain ⟨q0,-⟩:=hk;have q0:ac.tmps.getD 15 undef=.string (str y15):=q0;go_simp;exact hK _ _ (Below.refl _ _) hW rfl
      trivial
  rintro vs wx ⟨hv0,hb⟩;simp only [puts,Act.put,List.setIfInBounds_toArray,List.set_cons_zero,List.set_cons_succ,hv0];have B2:Hid (Below w.heap.size w wx):=B1.out.trans (hb.mono B1.out.size);clear hb;go_wp2
  go_ret;exact ⟨rfl,B2.out⟩
theorem typesTextR_any {n : Nat} (l : List (TT n)) (a : Option Addr) (c : Nat) (w : World) (h : (typesL n).In w All l [.slice a l.length c]) (hp : Pows w) (hs : ¬ greatTs l) :
    Calls Tryz.prog 89 #[.slice a l.length c] w fun e w'=>e=.returned (.string (str (typsT l)))∧Below w.heap.size w w':=by
  obtain ⟨h1,h2⟩:l.length≤200∧∀ t∈l,t.count≤2000:=⟨Nat.le_of_not_lt fun x=>hs (.inl x),fun t ht=>Nat.le_of_not_lt fun x=>hs (.inr ⟨t,ht,x⟩)⟩;obtain ⟨h3,h4⟩:=types_lin h;refine (typesText_any n (typeText_any n) l a c w h3 h2 (by omega) h4 hp ?_).mono fun e w' h=>⟨by rw [h.1];simp [typsT,str],h.2⟩
  have:=sum_map_le (l:=l) (f:=TT.count) (g:=fun _=>2000) h2
  have e:(l.map (fun _=>2000)).sum=2000*l.length:=by
    clear this h h1 h2 h3 h4 hs
    induction l with
    | nil=>rfl
    | cons x l ih=>rw [List.map_cons,List.sum_cons,ih,List.length_cons];omega
  omega
theorem str_app (a b : List UInt8) : str a ++ str b = str (a ++ b) := ByteArray.mk_append_mk a b
theorem flatm_len {α : Type} {t : α → List UInt8} {k : Nat} : ∀ {l : List α}, (∀ x ∈ l, (t x).length ≤ k) → (l.flatMap t).length ≤ k * l.length
  | [],_=>by simp
  | x::l,h=>by
    have h1:=h x (by simp);have h2:=flatm_len (l:=l) (fun y hy=>h y (by simp [hy]));rw [List.flatMap_cons,List.length_append,List.length_cons,Nat.mul_succ];omega
theorem list_mem {α : Type} {A : Lay α} {w : World} {O : Nat → Prop} {l : List α} {cs : List Value} {x : α} (h : A.list.In w O l cs) (hx : x ∈ l) : ∃ ds, A.In w O x ds := by
  obtain ⟨a,c,rfl,h1⟩:=list_form h;obtain ⟨i,hi⟩:=List.getElem?_of_mem hx;obtain ⟨g,o,ds,_,_,_,_,hds⟩:=Lay.list_at h1 hi;exact ⟨ds,hds⟩
theorem rtyps_len {n : Nat} {l : List (TT n)} (ho : ∀ x ∈ l, x.ok) (h : ¬ greatTs l) : (typsT l).length ≤ 20000000 := by
  obtain ⟨h1,h2⟩:l.length≤200∧∀ t∈l,t.count≤2000:=⟨Nat.le_of_not_lt fun x=>h (.inl x),fun t ht=>Nat.le_of_not_lt fun x=>h (.inr ⟨t,ht,x⟩)⟩
  have:=cat_len (t:=TT.txt) (k:=80000) (l:=l) (fun x hx=>by have:=TT.txt_len (ho x hx);have:=h2 x hx;omega)
  simp only [typsT,List.length_cons,List.length_append,List.length_nil];omega
theorem code_len {l : List MIns} {w : World} {O : Nat → Prop} {cs : List Value} (h : insL.list.In w O l cs) (hs : ∀ y ∈ l, y.small) (hn : l.length ≤ 200) : (codeT l).length ≤ 5000000 := by
  have:=flatm_len (t:=fun x:MIns=>lineT x.txt) (k:=20003) (l:=l) (fun x hx=>by
    obtain ⟨ds,hd⟩:=list_mem h hx
    have:=ins_len hd (hs x hx)
    simp only [lineT,List.length_cons,List.length_append,List.length_nil];omega)
  unfold codeT;omega
theorem bhead_len {n : Nat} {x : MBlock n} {w : World} {O : Nat → Prop} {cs : List Value} (h : (blockL n).In w O x cs) (hg : ¬ x.great) : x.head.length ≤ 20000100 := by
  obtain ⟨a1,k1,a2,k2,es,rfl,u1,u2,he,hr⟩:=block_form h;have l1:=rtyps_len (types_lin u1).2 (fun h=>hg (.inr (.inl h)));have l0:=Lib.itoa_length_le _ hr.1 hr.2;simp only [MBlock.head,nT,wBlock,List.length_cons,List.length_append,List.length_nil];omega
theorem block_len {n : Nat} {x : MBlock n} {w : World} {O : Nat → Prop} {cs : List Value} (h : (blockL n).In w O x cs) (hg : ¬ x.great) : x.txt.length ≤ 26000000 := by
  have hs:=MBlock.small_of hg;have l0:=bhead_len h hg;obtain ⟨a1,k1,a2,k2,es,rfl,u1,u2,he,hr⟩:=block_form h;have l1:=code_len u2 hs.2.2.2 (Nat.le_of_not_lt fun h=>hg (.inl h));have l2:=end_len he hs.2.2.1;simp only [MBlock.txt,lineT,List.length_cons,List.length_append,List.length_nil];omega
theorem blocks_len {n : Nat} {l : List (MBlock n)} {w : World} {O : Nat → Prop} {cs : List Value} (h : (blockL n).list.In w O l cs) (hg : ∀ y ∈ l, ¬ y.great) (hn : l.length ≤ 30) : (blocksT l).length ≤ 800000000 := by
  have:=flatm_len (t:=MBlock.txt) (k:=26000000) (l:=l) (fun x hx=>by
    obtain ⟨ds,hd⟩:=list_mem h hx;exact block_len hd (hg x hx))
  unfold blocksT;omega
theorem func_len {n : Nat} {x : MFunc n} {w : World} {O : Nat → Prop} {cs : List Value} (h : (funcL n).In w O x cs) (hg : ¬ x.great) : x.txt.length ≤ 900000000 := by
  obtain ⟨a1,k1,a2,k2,a3,k3,rfl,u1,u2,u3,hr⟩:=func_form h;have l0:=Lib.itoa_length_le _ hr.1 hr.2;have l1:=rtyps_len (types_lin u1).2 (fun h=>hg (.inr (.inl h)));have l2:=rtyps_len (types_lin u2).2 (fun h=>hg (.inr (.inr (.inl h))));have l3:=blocks_len u3 (fun y hy h=>hg (.inr (.inr (.inr ⟨y,hy,h⟩)))) (Nat.le_of_not_lt fun h=>hg (.inl h));simp only [MFunc.txt,MFunc.head,nT,wFunc,List.length_cons,List.length_append,List.length_nil];omega
theorem mod_len {n : Nat} {m : List (MFunc n)} {w : World} {O : Nat → Prop} {cs : List Value} (h : (modL n).In w O m cs) (hg : ¬ greatMod m) : (modTxt m).length ≤ 20000000000 := by
  have hn:m.length≤20:=Nat.le_of_not_lt fun x=>hg (.inl x)
  have:=flatm_len (t:=MFunc.txt) (k:=900000000) (l:=m) (fun x hx=>by
    obtain ⟨ds,hd⟩:=list_mem (A:=funcL n) h hx;exact func_len hd (fun h=>hg (.inr ⟨x,hx,h⟩)))
  unfold modTxt;omega
structure InsSt (w wx : World) (cx ch : Array Value) (S H : Nat) (z : List UInt8) : Prop where
  bel:Below w.heap.size w wx
  x:Blk wx w.heap.size cx 45
  s:Blk wx S #[.string (str z)] 9
  h:Blk wx H ch 156
  lt:w.heap.size<S∧S<H
section
variable {w wx wy : World} {cx ch : Array Value} {S H : Nat} {z : List UInt8}
theorem InsSt.below (h : InsSt w wx cx ch S H z) (b : Below wx.heap.size wx wy) : InsSt w wy cx ch S H z :=
  ⟨h.bel.trans (b.mono h.bel.size),(b.block _ (lt_of_block h.x)).trans h.x,(b.block _ (lt_of_block h.s)).trans h.s,(b.block _ (lt_of_block h.h)).trans h.h,h.lt⟩
theorem InsSt.set (h : InsSt w wx cx ch S H z) (y : List UInt8) : InsSt w (wx.setCell ⟨S, 0, none⟩ (.string (str y))) cx ch S H y :=
  ⟨h.bel.setCell (p:=⟨S,0,none⟩) (Nat.le_of_lt h.lt.1) _,h.x.setOther (p:=⟨S,0,none⟩) (by have:=h.lt;show S≠_;omega) _,by have:=blockSet h.s 0 (.string (str y));simpa using this,h.h.setOther (p:=⟨S,0,none⟩) (by have:=h.lt;show S≠_;omega) _,h.lt⟩
end
theorem enters_insText1 : ∀ (args : Array Value) (w : World), (callFunc 125 args).run Tryz.prog w = .ok (.enter 125 args) w := fun _ _ => by kernel_rfl
theorem addNum_any {w wx : World} {cx ch : Array Value} {S H : Nat} {z : List UInt8} (k : Int) (hI : -9223372036854775808 ≤ k ∧ k ≤ 9223372036854775807) (h0 : InsSt w wx cx ch S H z) (hp : Pows wx) (hz : z.length ≤ 100000) :
    Calls Tryz.prog 125 #[.int .i64 k,.pointer (some ⟨S,0,none⟩)] wx fun e w'=>e=.returned (.tuple #[])∧InsSt w w' cx ch S H (z++nT k):=by
  have I:Hid (InsSt w wx cx ch S H z):=h0;have c0:=cellOf h0.s 0 _ rfl;have C:Hid (∀ m,Calls Tryz.prog 88 #[.int .i64 k] (wx.drewN m) fun e w'=>e=.returned (.string (str (Lib.itoa k)))∧InsSt w w' cx ch S H z):=fun m=>(itoa_any k hI _ (hp.below (drewN_below (Below.refl _ _)))).mono fun e w' h=>⟨h.1,h0.below ((drewN_below (Below.refl _ _)).trans h.2)⟩;have hl:=Lib.itoa_length_le k hI.1 hI.2
  have T:Hid (str (z++nT k)=str z++(⟨#[32]⟩++str (Lib.itoa k))):=by
    show _=_;rw [show (⟨#[32]⟩:ByteArray)++str (Lib.itoa k)=str (32::Lib.itoa k) from ByteArray.mk_append_mk [32] _];exact (ByteArray.mk_append_mk z _).symm
  have G:Hid (∀ w',InsSt w w' cx ch S H z→InsSt w (w'.setCell ⟨S,0,none⟩ (.string (str (z++nT k)))) cx ch S H (z++nT k)):=fun w' h=>h.set _;rw [← str_size] at hz hl;clear hp hI h0;have f0:=freeOf I.out.s 0;generalize str (Lib.itoa k)=t at C hl T;generalize z++nT k=y at T G ⊢;have n1:¬ 9223372036854775807<1+t.size:=by omega
  have n2:¬ 9223372036854775807<(str z).size+(1+t.size):=by omega
  go_enter Tryz.func125,Tryz.ntmps125
  go_region_with (go_at_call 88;refine (C.out _).mono ?_;rintro e w5 ⟨rfl,n5⟩;have N5:Hid (InsSt w w5 cx ch S H z):=n5;clear n5;have f1:=cellOf N5.out.s 0 _ rfl;have f2:=freeOf N5.out.s 0)
  all_goals
    go_wp2
    rw [← T.out];exact bodyPost_end (v:=.tuple #[]) (by simp [results,Tryz.results125,go_sem]) rfl ⟨rfl,G.out _ N5.out⟩
theorem opWord_any (k : Int) (w : World) : Calls Tryz.prog 13 #[.int .i64 k] w fun v w' => v = .returned (.string (str (wordAt opWords k))) ∧ Below w.heap.size w w' := by
  by_cases h1:k<1
  · have hw:Hid (wordAt opWords k=[]):=by show _=_;simp [wordAt,h1]
    go_enter Tryz.func13,Tryz.ntmps13
    go_wp2
    go_ret;exact ⟨by rw [hw.out];rfl,Below.refl _ _⟩
  · by_cases h2:14<k
    · have hw:Hid (wordAt opWords k=[]):=by
        show _=_;rw [wordAt,if_neg h1,List.getD,List.getElem?_eq_none (by simp [opWords];omega)];rfl
      go_enter Tryz.func13,Tryz.ntmps13
      go_wp2
      go_ret;exact ⟨by rw [hw.out];rfl,Below.refl _ _⟩
    · have hk:k=1∨k=2∨k=3∨k=4∨k=5∨k=6∨k=7∨k=8∨k=9∨k=10∨k=11∨k=12∨k=13∨k=14:=by omega
      clear h1 h2;rcases hk with rfl | rfl | rfl | rfl | rfl | rfl | rfl | rfl | rfl | rfl | rfl | rfl | rfl | rfl
      all_goals
        go_enter Tryz.func13,Tryz.ntmps13
        go_wp2
        go_ret;exact ⟨rfl,bel1 _ _⟩
theorem kindWord_any (k : Int) (w : World) : Calls Tryz.prog 15 #[.int .i64 k] w fun v w' => v = .returned (.string (str (wordAt kindWords k))) ∧ Below w.heap.size w w' := by
  by_cases h1:k<1
  · have hw:Hid (wordAt kindWords k=[]):=by show _=_;simp [wordAt,h1]
    go_enter Tryz.func15,Tryz.ntmps15
    go_wp2
    go_ret;exact ⟨by rw [hw.out];rfl,Below.refl _ _⟩
  · by_cases h2:9<k
    · have hw:Hid (wordAt kindWords k=[]):=by
        show _=_;rw [wordAt,if_neg h1,List.getD,List.getElem?_eq_none (by simp [kindWords];omega)];rfl
      go_enter Tryz.func15,Tryz.ntmps15
      go_wp2
      go_ret;exact ⟨by rw [hw.out];rfl,Below.refl _ _⟩
    · have hk:k=1∨k=2∨k=3∨k=4∨k=5∨k=6∨k=7∨k=8∨k=9:=by omega
      clear h1 h2;rcases hk with rfl | rfl | rfl | rfl | rfl | rfl | rfl | rfl | rfl
      all_goals
        go_enter Tryz.func15,Tryz.ntmps15
        go_wp2
        go_ret;exact ⟨rfl,bel1 _ _⟩
structure InsH (w : World) (cx ch : Array Value) (op ka kb kc kk kn : Int) (z zr zs zk : List UInt8) (a b : Option Addr) (nr c ns d : Nat) : Prop where
  CW:Hid (∀ wx,Below w.heap.size w wx→Calls Tryz.prog 13 #[.int .i64 op] wx fun e w'=>e=.returned (.string (str z))∧Below wx.heap.size wx w')
  CF:Hid (∀ wx,Calls Tryz.prog 114 #[.int .i64 op] wx fun e w'=>e=.returned (.tuple #[.agg ch,.bool true])∧Below wx.heap.size wx w')
  CK:Hid (∀ wx,Calls Tryz.prog 15 #[.int .i64 kk] wx fun e w'=>e=.returned (.string (str zk))∧Below wx.heap.size wx w')
  CN:Hid (∀ wx,Below w.heap.size w wx→Calls Tryz.prog 111 #[.int .i64 kn,.int .i64 10] wx fun e w'=>e=.returned (.string (str (Lib.itoa kn)))∧Below wx.heap.size wx w')
  CR:Hid (∀ wx,Below w.heap.size w wx→Calls Tryz.prog 92 #[.string ⟨#[60]⟩,.slice a nr c,.string ⟨#[62]⟩] wx fun e w'=>e=.returned (.string (str zr))∧Below wx.heap.size wx w')
  CS:Hid (∀ wx,Below w.heap.size w wx→Calls Tryz.prog 92 #[.string ⟨#[40]⟩,.slice b ns d,.string ⟨#[41]⟩] wx fun e w'=>e=.returned (.string (str zs))∧Below wx.heap.size wx w')
  CA:Hid (∀ k,k=ka∨k=kb∨k=kc∨k=kk→∀ wx S H y,InsSt w wx cx ch S H y→y.length≤100000→Calls Tryz.prog 125 #[.int .i64 k,.pointer (some ⟨S,0,none⟩)] wx fun e w'=>e=.returned (.tuple #[])∧InsSt w w' cx ch S H (y++nT k))
  lz:z.length≤20
  lk:zk.length≤20
  lr:zr.length≤7000
  ls:zs.length≤7000
  ln:(Lib.itoa kn).length≤21
  la:(nT ka).length≤22
  lb:(nT kb).length≤22
  lc:(nT kc).length≤22
  ld:(nT kk).length≤22
theorem InsSt.cells {w wx : World} {S H : Nat} {z : List UInt8} {op ka kb kc kk kn : Int} {a b : Option Addr} {nr c ns d : Nat} {f0 f1 f2 f3 f4 f5 f6 : Bool} (h : InsSt w wx #[.int .i64 op, .int .i64 ka, .int .i64 kb, .int .i64 kc, .int .i64 kk, .int .i64 kn, .slice a nr c, .slice b ns d] #[.bool f0, .bool f1, .bool f2, .bool f3, .bool f4, .bool f5, .bool f6] S H z) :
    wx.cell? ⟨w.heap.size,0,none⟩=some (.int .i64 op)∧wx.cell? ⟨w.heap.size,1,none⟩=some (.int .i64 ka)∧wx.cell? ⟨w.heap.size,2,none⟩=some (.int .i64 kb)∧wx.cell? ⟨w.heap.size,3,none⟩=some (.int .i64 kc)∧wx.cell? ⟨w.heap.size,4,none⟩=some (.int .i64 kk)∧wx.cell? ⟨w.heap.size,5,none⟩=some (.int .i64 kn)∧wx.cell? ⟨w.heap.size,6,none⟩=some (.slice a nr c)∧wx.cell? ⟨w.heap.size,7,none⟩=some (.slice b ns d)∧wx.cell? ⟨S,0,none⟩=some (.string (str z))∧wx.frozen? ⟨S,0,none⟩=false∧wx.cell? ⟨H,0,none⟩=some (.bool f0)∧wx.cell? ⟨H,1,none⟩=some (.bool f1)∧wx.cell? ⟨H,2,none⟩=some (.bool f2)∧wx.cell? ⟨H,5,none⟩=some (.bool f5)∧wx.cell? ⟨H,6,none⟩=some (.bool f6) :=
  ⟨cellOf h.x 0 _ rfl,cellOf h.x 1 _ rfl,cellOf h.x 2 _ rfl,cellOf h.x 3 _ rfl,cellOf h.x 4 _ rfl,cellOf h.x 5 _ rfl,cellOf h.x 6 _ rfl,cellOf h.x 7 _ rfl,cellOf h.s 0 _ rfl,freeOf h.s 0,cellOf h.h 0 _ rfl,cellOf h.h 1 _ rfl,cellOf h.h 2 _ rfl,cellOf h.h 5 _ rfl,cellOf h.h 6 _ rfl⟩
theorem InsSt.start {w w1 w2 : World} {cx ch : Array Value} {z : List UInt8} (b1 : Below (w.alloc (.cells cx 45)).heap.size (w.alloc (.cells cx 45)) w1) (b2 : Below (w1.alloc (.cells #[.string (str z)] 9)).heap.size (w1.alloc (.cells #[.string (str z)] 9)) w2) :
    InsSt w (w2.alloc (.cells ch 156)) cx ch w1.heap.size w2.heap.size z:=by
  have s1:=b1.size;have s2:=b2.size;simp only [World.size_alloc] at s1 s2;have B1:Below w.heap.size w w1:=(bel1 _ _).trans (b1.mono (by simp));have B2:Below w1.heap.size w1 w2:=(bel1 _ _).trans (b2.mono (by simp));have x1:Blk w1 w.heap.size cx 45:=(b1.block _ (by simp)).trans (Blk.new _ _ _);have y1:Blk w2 w1.heap.size #[.string (str z)] 9:=(b2.block _ (by simp)).trans (Blk.new _ _ _);have x2:Blk w2 w.heap.size cx 45:=(B2.block _ (lt_of_block x1)).trans x1;have B3:Below w2.heap.size w2 (w2.alloc (.cells ch 156)):=bel1 _ _;exact ⟨B1.trans ((B2.mono (by omega)).trans (B3.mono (by omega))),(B3.block _ (lt_of_block x2)).trans x2,(B3.block _ (lt_of_block y1)).trans y1,Blk.new _ _ _,by omega,by omega⟩
theorem InsSt.set' {w wx : World} {cx ch : Array Value} {S H : Nat} {z y : List UInt8} {v : ByteArray} (h : InsSt w wx cx ch S H z) (e : str y = v) : InsSt w (wx.setCell ⟨S, 0, none⟩ (.string v)) cx ch S H y := e ▸ h.set y
theorem str_put (z t : List UInt8) : str (z ++ 32 :: t) = str z ++ (⟨#[32]⟩ ++ str t) := by
  rw [show (⟨#[32]⟩:ByteArray)++str t=str (32::t) from ByteArray.mk_append_mk [32] _];exact (ByteArray.mk_append_mk z _).symm
theorem ins_none {w : World} {ka kb kc kk kn : Int} {z zr zs zk : List UInt8} {a b : Option Addr} {nr c ns d : Nat} (op : Int) (ho : op = 3 ∨ op = 12) (h : InsH w #[.int .i64 op, .int .i64 ka, .int .i64 kb, .int .i64 kc, .int .i64 kk, .int .i64 kn, .slice a nr c, .slice b ns d] #[.bool false, .bool false, .bool false, .bool false, .bool false, .bool false, .bool false] op ka kb kc kk kn z zr zs zk a b nr c ns d) :
    Calls Tryz.prog 90 #[.agg #[.int .i64 op,.int .i64 ka,.int .i64 kb,.int .i64 kc,.int .i64 kk,.int .i64 kn,.slice a nr c,.slice b ns d]] w fun e w'=>e=.returned (.string (str z))∧Below w.heap.size w w':=by
  obtain ⟨CW,CF,CK,CN,CR,CS,CA,lz,lk,lr,ls,ln,la,lb,lc,ld⟩:=h;have hE:=enters_insText1;rcases ho with rfl | rfl
  all_goals
    go_enter Tryz.func90,Tryz.ntmps90
    go_wp2_with fail
    refine (CW.out _ (bel1 _ _)).mono ?_;rintro e w1 ⟨rfl,b1⟩;have B1:Hid (Below (w.alloc (.cells _ 45)).heap.size (w.alloc (.cells _ 45)) w1):=b1;have v0:=cellOf (((bel1 w1 (.cells #[.string (str z)] 9)).block w.heap.size (by have:=b1.size;simp at this;omega)).trans ((b1.block _ (by simp)).trans (Blk.new _ _ _))) 0 _ rfl;clear b1;go_wp2_with fail
    refine (CF.out _).mono ?_;rintro e w2 ⟨rfl,b2⟩;have I0:Hid (InsSt w _ _ #[.bool false,.bool false,.bool false,.bool false,.bool false,.bool false,.bool false] w1.heap.size w2.heap.size z):=InsSt.start B1.out b2;obtain ⟨x0,x1,x2,x3,x4,x5,x6,x7,s0,s1,h0,h1,h2,h5,h6⟩:=I0.out.cells;clear b2 B1 v0;go_wp2_with fail
    generalize w2.alloc (.cells #[.bool false,.bool false,.bool false,.bool false,.bool false,.bool false,.bool false] 156)=v at I0 x0 x1 x2 x3 x4 x5 x6 x7 s0 s1 h0 h1 h2 h5 h6 ⊢;go_ret;exact ⟨rfl,I0.out.bel⟩
theorem ins_a {w : World} {ka kb kc kk kn : Int} {z zr zs zk : List UInt8} {a b : Option Addr} {nr c ns d : Nat} (op : Int) (ho : op = 4 ∨ op = 11 ∨ op = 13) (h : InsH w #[.int .i64 op, .int .i64 ka, .int .i64 kb, .int .i64 kc, .int .i64 kk, .int .i64 kn, .slice a nr c, .slice b ns d] #[.bool true, .bool false, .bool false, .bool false, .bool false, .bool false, .bool false] op ka kb kc kk kn z zr zs zk a b nr c ns d) :
    Calls Tryz.prog 90 #[.agg #[.int .i64 op,.int .i64 ka,.int .i64 kb,.int .i64 kc,.int .i64 kk,.int .i64 kn,.slice a nr c,.slice b ns d]] w fun e w'=>e=.returned (.string (str (z++nT ka)))∧Below w.heap.size w w':=by
  obtain ⟨CW,CF,CK,CN,CR,CS,CA,lz,lk,lr,ls,ln,la,lb,lc,ld⟩:=h;have hE:=enters_insText1;obtain ⟨y0,E0,m0⟩:=cat_letter z (nT ka);rw [E0.out];rcases ho with rfl | rfl | rfl
  all_goals
    go_enter Tryz.func90,Tryz.ntmps90
    go_wp2_with fail
    refine (CW.out _ (bel1 _ _)).mono ?_;rintro e w1 ⟨rfl,b1⟩;have B1:Hid (Below (w.alloc (.cells _ 45)).heap.size (w.alloc (.cells _ 45)) w1):=b1;have v0:=cellOf (((bel1 w1 (.cells #[.string (str z)] 9)).block w.heap.size (by have:=b1.size;simp at this;omega)).trans ((b1.block _ (by simp)).trans (Blk.new _ _ _))) 0 _ rfl;clear b1;go_wp2_with fail
    refine (CF.out _).mono ?_;rintro e w2 ⟨rfl,b2⟩;have I0:Hid (InsSt w _ _ #[.bool true,.bool false,.bool false,.bool false,.bool false,.bool false,.bool false] w1.heap.size w2.heap.size z):=InsSt.start B1.out b2;obtain ⟨x0,x1,x2,x3,x4,x5,x6,x7,s0,s1,h0,h1,h2,h5,h6⟩:=I0.out.cells;clear b2 B1 v0;go_wp2_with fail
    generalize w2.alloc (.cells #[.bool true,.bool false,.bool false,.bool false,.bool false,.bool false,.bool false] 156)=v at I0 x0 x1 x2 x3 x4 x5 x6 x7 s0 s1 h0 h1 h2 h5 h6 ⊢;have n0:=m0;refine (CA.out ka (by simp) _ _ _ _ I0.out (by first | omega | (simp only [List.length_cons] at *;omega))).mono ?_;rintro e v0 ⟨rfl,i0⟩;rw [E0.out] at i0;have I1:Hid (InsSt w v0 #[.int .i64 _,.int .i64 ka,.int .i64 kb,.int .i64 kc,.int .i64 kk,.int .i64 kn,.slice a nr c,.slice b ns d] #[.bool true,.bool false,.bool false,.bool false,.bool false,.bool false,.bool false] w1.heap.size w2.heap.size y0):=i0;clear I0 i0 x0 x1 x2 x3 x4 x5 x6 x7 s0 s1 h0 h1 h2 h5 h6;obtain ⟨x0,x1,x2,x3,x4,x5,x6,x7,s0,s1,h0,h1,h2,h5,h6⟩:=I1.out.cells;go_wp2_with fail
    go_ret;exact ⟨rfl,I1.out.bel⟩
theorem ins_ab {w : World} {ka kb kc kk kn : Int} {z zr zs zk : List UInt8} {a b : Option Addr} {nr c ns d : Nat} (op : Int) (ho : op = 8 ∨ op = 9) (h : InsH w #[.int .i64 op, .int .i64 ka, .int .i64 kb, .int .i64 kc, .int .i64 kk, .int .i64 kn, .slice a nr c, .slice b ns d] #[.bool true, .bool true, .bool false, .bool false, .bool false, .bool false, .bool false] op ka kb kc kk kn z zr zs zk a b nr c ns d) :
    Calls Tryz.prog 90 #[.agg #[.int .i64 op,.int .i64 ka,.int .i64 kb,.int .i64 kc,.int .i64 kk,.int .i64 kn,.slice a nr c,.slice b ns d]] w fun e w'=>e=.returned (.string (str ((z++nT ka)++nT kb)))∧Below w.heap.size w w':=by
  obtain ⟨CW,CF,CK,CN,CR,CS,CA,lz,lk,lr,ls,ln,la,lb,lc,ld⟩:=h;have hE:=enters_insText1;obtain ⟨y0,E0,m0⟩:=cat_letter z (nT ka);rw [E0.out];obtain ⟨y1,E1,m1⟩:=cat_letter y0 (nT kb);rw [E1.out];rcases ho with rfl | rfl
  all_goals
    go_enter Tryz.func90,Tryz.ntmps90
    go_wp2_with fail
    refine (CW.out _ (bel1 _ _)).mono ?_;rintro e w1 ⟨rfl,b1⟩;have B1:Hid (Below (w.alloc (.cells _ 45)).heap.size (w.alloc (.cells _ 45)) w1):=b1;have v0:=cellOf (((bel1 w1 (.cells #[.string (str z)] 9)).block w.heap.size (by have:=b1.size;simp at this;omega)).trans ((b1.block _ (by simp)).trans (Blk.new _ _ _))) 0 _ rfl;clear b1;go_wp2_with fail
    refine (CF.out _).mono ?_;rintro e w2 ⟨rfl,b2⟩;have I0:Hid (InsSt w _ _ #[.bool true,.bool true,.bool false,.bool false,.bool false,.bool false,.bool false] w1.heap.size w2.heap.size z):=InsSt.start B1.out b2;obtain ⟨x0,x1,x2,x3,x4,x5,x6,x7,s0,s1,h0,h1,h2,h5,h6⟩:=I0.out.cells;clear b2 B1 v0;go_wp2_with fail
    generalize w2.alloc (.cells #[.bool true,.bool true,.bool false,.bool false,.bool false,.bool false,.bool false] 156)=v at I0 x0 x1 x2 x3 x4 x5 x6 x7 s0 s1 h0 h1 h2 h5 h6 ⊢;have n0:=m0;refine (CA.out ka (by simp) _ _ _ _ I0.out (by first | omega | (simp only [List.length_cons] at *;omega))).mono ?_;rintro e v0 ⟨rfl,i0⟩;rw [E0.out] at i0;have I1:Hid (InsSt w v0 #[.int .i64 _,.int .i64 ka,.int .i64 kb,.int .i64 kc,.int .i64 kk,.int .i64 kn,.slice a nr c,.slice b ns d] #[.bool true,.bool true,.bool false,.bool false,.bool false,.bool false,.bool false] w1.heap.size w2.heap.size y0):=i0;clear I0 i0 x0 x1 x2 x3 x4 x5 x6 x7 s0 s1 h0 h1 h2 h5 h6;obtain ⟨x0,x1,x2,x3,x4,x5,x6,x7,s0,s1,h0,h1,h2,h5,h6⟩:=I1.out.cells;go_wp2_with fail
    have n1:=m1;refine (CA.out kb (by simp) _ _ _ _ I1.out (by first | omega | (simp only [List.length_cons] at *;omega))).mono ?_;rintro e v1 ⟨rfl,i1⟩;rw [E1.out] at i1;have I2:Hid (InsSt w v1 #[.int .i64 _,.int .i64 ka,.int .i64 kb,.int .i64 kc,.int .i64 kk,.int .i64 kn,.slice a nr c,.slice b ns d] #[.bool true,.bool true,.bool false,.bool false,.bool false,.bool false,.bool false] w1.heap.size w2.heap.size y1):=i1;clear I1 i1 x0 x1 x2 x3 x4 x5 x6 x7 s0 s1 h0 h1 h2 h5 h6;obtain ⟨x0,x1,x2,x3,x4,x5,x6,x7,s0,s1,h0,h1,h2,h5,h6⟩:=I2.out.cells;go_wp2_with fail
    go_ret;exact ⟨rfl,I2.out.bel⟩
theorem ins_abc {w : World} {ka kb kc kk kn : Int} {z zr zs zk : List UInt8} {a b : Option Addr} {nr c ns d : Nat} (op : Int) (ho : op = 10) (h : InsH w #[.int .i64 op, .int .i64 ka, .int .i64 kb, .int .i64 kc, .int .i64 kk, .int .i64 kn, .slice a nr c, .slice b ns d] #[.bool true, .bool true, .bool true, .bool false, .bool false, .bool false, .bool false] op ka kb kc kk kn z zr zs zk a b nr c ns d) :
    Calls Tryz.prog 90 #[.agg #[.int .i64 op,.int .i64 ka,.int .i64 kb,.int .i64 kc,.int .i64 kk,.int .i64 kn,.slice a nr c,.slice b ns d]] w fun e w'=>e=.returned (.string (str (((z++nT ka)++nT kb)++nT kc)))∧Below w.heap.size w w':=by
  obtain ⟨CW,CF,CK,CN,CR,CS,CA,lz,lk,lr,ls,ln,la,lb,lc,ld⟩:=h;have hE:=enters_insText1;obtain ⟨y0,E0,m0⟩:=cat_letter z (nT ka);rw [E0.out];obtain ⟨y1,E1,m1⟩:=cat_letter y0 (nT kb);rw [E1.out];obtain ⟨y2,E2,m2⟩:=cat_letter y1 (nT kc);rw [E2.out];obtain rfl:=ho;go_enter Tryz.func90,Tryz.ntmps90
  go_wp2_with fail
  refine (CW.out _ (bel1 _ _)).mono ?_;rintro e w1 ⟨rfl,b1⟩;have B1:Hid (Below (w.alloc (.cells _ 45)).heap.size (w.alloc (.cells _ 45)) w1):=b1;have v0:=cellOf (((bel1 w1 (.cells #[.string (str z)] 9)).block w.heap.size (by have:=b1.size;simp at this;omega)).trans ((b1.block _ (by simp)).trans (Blk.new _ _ _))) 0 _ rfl;clear b1;go_wp2_with fail
  refine (CF.out _).mono ?_;rintro e w2 ⟨rfl,b2⟩;have I0:Hid (InsSt w _ _ #[.bool true,.bool true,.bool true,.bool false,.bool false,.bool false,.bool false] w1.heap.size w2.heap.size z):=InsSt.start B1.out b2;obtain ⟨x0,x1,x2,x3,x4,x5,x6,x7,s0,s1,h0,h1,h2,h5,h6⟩:=I0.out.cells;clear b2 B1 v0;go_wp2_with fail
  generalize w2.alloc (.cells #[.bool true,.bool true,.bool true,.bool false,.bool false,.bool false,.bool false] 156)=v at I0 x0 x1 x2 x3 x4 x5 x6 x7 s0 s1 h0 h1 h2 h5 h6 ⊢;have n0:=m0;refine (CA.out ka (by simp) _ _ _ _ I0.out (by first | omega | (simp only [List.length_cons] at *;omega))).mono ?_;rintro e v0 ⟨rfl,i0⟩;rw [E0.out] at i0;have I1:Hid (InsSt w v0 #[.int .i64 10,.int .i64 ka,.int .i64 kb,.int .i64 kc,.int .i64 kk,.int .i64 kn,.slice a nr c,.slice b ns d] #[.bool true,.bool true,.bool true,.bool false,.bool false,.bool false,.bool false] w1.heap.size w2.heap.size y0):=i0;clear I0 i0 x0 x1 x2 x3 x4 x5 x6 x7 s0 s1 h0 h1 h2 h5 h6;obtain ⟨x0,x1,x2,x3,x4,x5,x6,x7,s0,s1,h0,h1,h2,h5,h6⟩:=I1.out.cells;go_wp2_with fail
  have n1:=m1;refine (CA.out kb (by simp) _ _ _ _ I1.out (by first | omega | (simp only [List.length_cons] at *;omega))).mono ?_;rintro e v1 ⟨rfl,i1⟩;rw [E1.out] at i1;have I2:Hid (InsSt w v1 #[.int .i64 10,.int .i64 ka,.int .i64 kb,.int .i64 kc,.int .i64 kk,.int .i64 kn,.slice a nr c,.slice b ns d] #[.bool true,.bool true,.bool true,.bool false,.bool false,.bool false,.bool false] w1.heap.size w2.heap.size y1):=i1;clear I1 i1 x0 x1 x2 x3 x4 x5 x6 x7 s0 s1 h0 h1 h2 h5 h6;obtain ⟨x0,x1,x2,x3,x4,x5,x6,x7,s0,s1,h0,h1,h2,h5,h6⟩:=I2.out.cells;go_wp2_with fail
  have n2:=m2;refine (CA.out kc (by simp) _ _ _ _ I2.out (by first | omega | (simp only [List.length_cons] at *;omega))).mono ?_;rintro e v2 ⟨rfl,i2⟩;rw [E2.out] at i2;have I3:Hid (InsSt w v2 #[.int .i64 10,.int .i64 ka,.int .i64 kb,.int .i64 kc,.int .i64 kk,.int .i64 kn,.slice a nr c,.slice b ns d] #[.bool true,.bool true,.bool true,.bool false,.bool false,.bool false,.bool false] w1.heap.size w2.heap.size y2):=i2;clear I2 i2 x0 x1 x2 x3 x4 x5 x6 x7 s0 s1 h0 h1 h2 h5 h6;obtain ⟨x0,x1,x2,x3,x4,x5,x6,x7,s0,s1,h0,h1,h2,h5,h6⟩:=I3.out.cells;go_wp2_with fail
  go_ret;exact ⟨rfl,I3.out.bel⟩
theorem ins_num {w : World} {ka kb kc kk kn : Int} {z zr zs zk : List UInt8} {a b : Option Addr} {nr c ns d : Nat} (op : Int) (ho : op = 1) (h : InsH w #[.int .i64 op, .int .i64 ka, .int .i64 kb, .int .i64 kc, .int .i64 kk, .int .i64 kn, .slice a nr c, .slice b ns d] #[.bool false, .bool false, .bool false, .bool false, .bool true, .bool false, .bool false] op ka kb kc kk kn z zr zs zk a b nr c ns d) :
    Calls Tryz.prog 90 #[.agg #[.int .i64 op,.int .i64 ka,.int .i64 kb,.int .i64 kc,.int .i64 kk,.int .i64 kn,.slice a nr c,.slice b ns d]] w fun e w'=>e=.returned (.string (str (z++32::(Lib.itoa kn))))∧Below w.heap.size w w':=by
  obtain ⟨CW,CF,CK,CN,CR,CS,CA,lz,lk,lr,ls,ln,la,lb,lc,ld⟩:=h;have hE:=enters_insText1;obtain ⟨y0,E0,m0⟩:=cat_letter z ((32::(Lib.itoa kn)));rw [E0.out];obtain rfl:=ho;go_enter Tryz.func90,Tryz.ntmps90
  go_wp2_with fail
  refine (CW.out _ (bel1 _ _)).mono ?_;rintro e w1 ⟨rfl,b1⟩;have B1:Hid (Below (w.alloc (.cells _ 45)).heap.size (w.alloc (.cells _ 45)) w1):=b1;have v0:=cellOf (((bel1 w1 (.cells #[.string (str z)] 9)).block w.heap.size (by have:=b1.size;simp at this;omega)).trans ((b1.block _ (by simp)).trans (Blk.new _ _ _))) 0 _ rfl;clear b1;go_wp2_with fail
  refine (CF.out _).mono ?_;rintro e w2 ⟨rfl,b2⟩;have I0:Hid (InsSt w _ _ #[.bool false,.bool false,.bool false,.bool false,.bool true,.bool false,.bool false] w1.heap.size w2.heap.size z):=InsSt.start B1.out b2;obtain ⟨x0,x1,x2,x3,x4,x5,x6,x7,s0,s1,h0,h1,h2,h5,h6⟩:=I0.out.cells;clear b2 B1 v0;go_wp2_with fail
  generalize w2.alloc (.cells #[.bool false,.bool false,.bool false,.bool false,.bool true,.bool false,.bool false] 156)=v at I0 x0 x1 x2 x3 x4 x5 x6 x7 s0 s1 h0 h1 h2 h5 h6 ⊢;have n0:=m0;have D0:Hid (∀ m,Calls Tryz.prog 111 #[.int .i64 kn,.int .i64 10] (v.drewN m) fun e w'=>e=.returned (.string (str (Lib.itoa kn)))∧InsSt w w' _ _ _ _ z):=fun m=>(CN.out _ (I0.out.bel.trans ((drewN_below (Below.refl _ _)).mono I0.out.bel.size))).mono fun e w' h=>⟨h.1,I0.out.below ((drewN_below (Below.refl _ _)).trans h.2)⟩;have k0:¬ 9223372036854775807<1+(str (Lib.itoa kn)).size:=by rw [str_size];omega
  have j0:¬ 9223372036854775807<(str z).size+(1+(str (Lib.itoa kn)).size):=by rw [str_size,str_size];first | omega | (simp only [List.length_cons] at *;omega)
  go_region_with (go_at_call 111;refine (D0.out _).mono ?_;rintro e u0 ⟨rfl,q0⟩;have J0:Hid (InsSt w u0 #[.int .i64 1,.int .i64 ka,.int .i64 kb,.int .i64 kc,.int .i64 kk,.int .i64 kn,.slice a nr c,.slice b ns d] #[.bool false,.bool false,.bool false,.bool false,.bool true,.bool false,.bool false] w1.heap.size w2.heap.size z):=q0;clear q0;have g0:=cellOf J0.out.s 0 _ rfl;have f0:=freeOf J0.out.s 0)
  all_goals
    have I1:Hid (InsSt w (u0.setCell ⟨w1.heap.size,0,none⟩ (.string (str z++(⟨#[32]⟩++str (Lib.itoa kn))))) #[.int .i64 1,.int .i64 ka,.int .i64 kb,.int .i64 kc,.int .i64 kk,.int .i64 kn,.slice a nr c,.slice b ns d] #[.bool false,.bool false,.bool false,.bool false,.bool true,.bool false,.bool false] w1.heap.size w2.heap.size y0):=J0.out.set' (by rw [← E0.out];exact str_put _ _);generalize u0.setCell ⟨w1.heap.size,0,none⟩ (.string (str z++(⟨#[32]⟩++str (Lib.itoa kn))))=v0 at I1 ⊢;clear I0 J0 D0 k0 j0 g0 f0 x0 x1 x2 x3 x4 x5 x6 x7 s0 s1 h0 h1 h2 h5 h6;obtain ⟨x0,x1,x2,x3,x4,x5,x6,x7,s0,s1,h0,h1,h2,h5,h6⟩:=I1.out.cells;go_wp2_with fail
    go_ret;exact ⟨rfl,I1.out.bel⟩
theorem ins_bin {w : World} {ka kb kc kk kn : Int} {z zr zs zk : List UInt8} {a b : Option Addr} {nr c ns d : Nat} (op : Int) (ho : op = 2) (h : InsH w #[.int .i64 op, .int .i64 ka, .int .i64 kb, .int .i64 kc, .int .i64 kk, .int .i64 kn, .slice a nr c, .slice b ns d] #[.bool true, .bool true, .bool false, .bool true, .bool false, .bool false, .bool false] op ka kb kc kk kn z zr zs zk a b nr c ns d) :
    Calls Tryz.prog 90 #[.agg #[.int .i64 op,.int .i64 ka,.int .i64 kb,.int .i64 kc,.int .i64 kk,.int .i64 kn,.slice a nr c,.slice b ns d]] w fun e w'=>e=.returned (.string (str (((z++32::zk)++nT ka)++nT kb)))∧Below w.heap.size w w':=by
  obtain ⟨CW,CF,CK,CN,CR,CS,CA,lz,lk,lr,ls,ln,la,lb,lc,ld⟩:=h;have hE:=enters_insText1;obtain ⟨y0,E0,m0⟩:=cat_letter z ((32::zk));rw [E0.out];obtain ⟨y1,E1,m1⟩:=cat_letter y0 (nT ka);rw [E1.out];obtain ⟨y2,E2,m2⟩:=cat_letter y1 (nT kb);rw [E2.out];obtain rfl:=ho;go_enter Tryz.func90,Tryz.ntmps90
  go_wp2_with fail
  refine (CW.out _ (bel1 _ _)).mono ?_;rintro e w1 ⟨rfl,b1⟩;have B1:Hid (Below (w.alloc (.cells _ 45)).heap.size (w.alloc (.cells _ 45)) w1):=b1;have v0:=cellOf (((bel1 w1 (.cells #[.string (str z)] 9)).block w.heap.size (by have:=b1.size;simp at this;omega)).trans ((b1.block _ (by simp)).trans (Blk.new _ _ _))) 0 _ rfl;clear b1;go_wp2_with fail
  refine (CF.out _).mono ?_;rintro e w2 ⟨rfl,b2⟩;have I0:Hid (InsSt w _ _ #[.bool true,.bool true,.bool false,.bool true,.bool false,.bool false,.bool false] w1.heap.size w2.heap.size z):=InsSt.start B1.out b2;obtain ⟨x0,x1,x2,x3,x4,x5,x6,x7,s0,s1,h0,h1,h2,h5,h6⟩:=I0.out.cells;clear b2 B1 v0;go_wp2_with fail
  generalize w2.alloc (.cells #[.bool true,.bool true,.bool false,.bool true,.bool false,.bool false,.bool false] 156)=v at I0 x0 x1 x2 x3 x4 x5 x6 x7 s0 s1 h0 h1 h2 h5 h6 ⊢;have n0:=m0;have D0:Hid (∀ m,Calls Tryz.prog 15 #[.int .i64 kk] (v.drewN m) fun e w'=>e=.returned (.string (str zk))∧InsSt w w' _ _ _ _ z):=fun m=>(CK.out _).mono fun e w' h=>⟨h.1,I0.out.below ((drewN_below (Below.refl _ _)).trans h.2)⟩;have k0:¬ 9223372036854775807<1+(str zk).size:=by rw [str_size];omega
  have j0:¬ 9223372036854775807<(str z).size+(1+(str zk).size):=by rw [str_size,str_size];first | omega | (simp only [List.length_cons] at *;omega)
  go_region_with (go_at_call 15;refine (D0.out _).mono ?_;rintro e u0 ⟨rfl,q0⟩;have J0:Hid (InsSt w u0 #[.int .i64 2,.int .i64 ka,.int .i64 kb,.int .i64 kc,.int .i64 kk,.int .i64 kn,.slice a nr c,.slice b ns d] #[.bool true,.bool true,.bool false,.bool true,.bool false,.bool false,.bool false] w1.heap.size w2.heap.size z):=q0;clear q0;have g0:=cellOf J0.out.s 0 _ rfl;have f0:=freeOf J0.out.s 0)
  all_goals
    have I1:Hid (InsSt w (u0.setCell ⟨w1.heap.size,0,none⟩ (.string (str z++(⟨#[32]⟩++str zk)))) #[.int .i64 2,.int .i64 ka,.int .i64 kb,.int .i64 kc,.int .i64 kk,.int .i64 kn,.slice a nr c,.slice b ns d] #[.bool true,.bool true,.bool false,.bool true,.bool false,.bool false,.bool false] w1.heap.size w2.heap.size y0):=J0.out.set' (by rw [← E0.out];exact str_put _ _);generalize u0.setCell ⟨w1.heap.size,0,none⟩ (.string (str z++(⟨#[32]⟩++str zk)))=v0 at I1 ⊢;clear I0 J0 D0 k0 j0 g0 f0 x0 x1 x2 x3 x4 x5 x6 x7 s0 s1 h0 h1 h2 h5 h6;obtain ⟨x0,x1,x2,x3,x4,x5,x6,x7,s0,s1,h0,h1,h2,h5,h6⟩:=I1.out.cells;go_wp2_with fail
    have n1:=m1;refine (CA.out ka (by simp) _ _ _ _ I1.out (by first | omega | (simp only [List.length_cons] at *;omega))).mono ?_;rintro e v1 ⟨rfl,i1⟩;rw [E1.out] at i1;have I2:Hid (InsSt w v1 #[.int .i64 2,.int .i64 ka,.int .i64 kb,.int .i64 kc,.int .i64 kk,.int .i64 kn,.slice a nr c,.slice b ns d] #[.bool true,.bool true,.bool false,.bool true,.bool false,.bool false,.bool false] w1.heap.size w2.heap.size y1):=i1;clear I1 i1 x0 x1 x2 x3 x4 x5 x6 x7 s0 s1 h0 h1 h2 h5 h6;obtain ⟨x0,x1,x2,x3,x4,x5,x6,x7,s0,s1,h0,h1,h2,h5,h6⟩:=I2.out.cells;go_wp2_with fail
    have n2:=m2;refine (CA.out kb (by simp) _ _ _ _ I2.out (by first | omega | (simp only [List.length_cons] at *;omega))).mono ?_;rintro e v2 ⟨rfl,i2⟩;rw [E2.out] at i2;have I3:Hid (InsSt w v2 #[.int .i64 2,.int .i64 ka,.int .i64 kb,.int .i64 kc,.int .i64 kk,.int .i64 kn,.slice a nr c,.slice b ns d] #[.bool true,.bool true,.bool false,.bool true,.bool false,.bool false,.bool false] w1.heap.size w2.heap.size y2):=i2;clear I2 i2 x0 x1 x2 x3 x4 x5 x6 x7 s0 s1 h0 h1 h2 h5 h6;obtain ⟨x0,x1,x2,x3,x4,x5,x6,x7,s0,s1,h0,h1,h2,h5,h6⟩:=I3.out.cells;go_wp2_with fail
    go_ret;exact ⟨rfl,I3.out.bel⟩
theorem ins_tup {w : World} {ka kb kc kk kn : Int} {z zr zs zk : List UInt8} {a b : Option Addr} {nr c ns d : Nat} (op : Int) (ho : op = 5) (h : InsH w #[.int .i64 op, .int .i64 ka, .int .i64 kb, .int .i64 kc, .int .i64 kk, .int .i64 kn, .slice a nr c, .slice b ns d] #[.bool true, .bool false, .bool false, .bool false, .bool false, .bool false, .bool true] op ka kb kc kk kn z zr zs zk a b nr c ns d) :
    Calls Tryz.prog 90 #[.agg #[.int .i64 op,.int .i64 ka,.int .i64 kb,.int .i64 kc,.int .i64 kk,.int .i64 kn,.slice a nr c,.slice b ns d]] w fun e w'=>e=.returned (.string (str ((z++nT ka)++32::zs)))∧Below w.heap.size w w':=by
  obtain ⟨CW,CF,CK,CN,CR,CS,CA,lz,lk,lr,ls,ln,la,lb,lc,ld⟩:=h;have hE:=enters_insText1;obtain ⟨y0,E0,m0⟩:=cat_letter z (nT ka);rw [E0.out];obtain ⟨y1,E1,m1⟩:=cat_letter y0 ((32::zs));rw [E1.out];obtain rfl:=ho;go_enter Tryz.func90,Tryz.ntmps90
  go_wp2_with fail
  refine (CW.out _ (bel1 _ _)).mono ?_;rintro e w1 ⟨rfl,b1⟩;have B1:Hid (Below (w.alloc (.cells _ 45)).heap.size (w.alloc (.cells _ 45)) w1):=b1;have v0:=cellOf (((bel1 w1 (.cells #[.string (str z)] 9)).block w.heap.size (by have:=b1.size;simp at this;omega)).trans ((b1.block _ (by simp)).trans (Blk.new _ _ _))) 0 _ rfl;clear b1;go_wp2_with fail
  refine (CF.out _).mono ?_;rintro e w2 ⟨rfl,b2⟩;have I0:Hid (InsSt w _ _ #[.bool true,.bool false,.bool false,.bool false,.bool false,.bool false,.bool true] w1.heap.size w2.heap.size z):=InsSt.start B1.out b2;obtain ⟨x0,x1,x2,x3,x4,x5,x6,x7,s0,s1,h0,h1,h2,h5,h6⟩:=I0.out.cells;clear b2 B1 v0;go_wp2_with fail
  generalize w2.alloc (.cells #[.bool true,.bool false,.bool false,.bool false,.bool false,.bool false,.bool true] 156)=v at I0 x0 x1 x2 x3 x4 x5 x6 x7 s0 s1 h0 h1 h2 h5 h6 ⊢;have n0:=m0;refine (CA.out ka (by simp) _ _ _ _ I0.out (by first | omega | (simp only [List.length_cons] at *;omega))).mono ?_;rintro e v0 ⟨rfl,i0⟩;rw [E0.out] at i0;have I1:Hid (InsSt w v0 #[.int .i64 5,.int .i64 ka,.int .i64 kb,.int .i64 kc,.int .i64 kk,.int .i64 kn,.slice a nr c,.slice b ns d] #[.bool true,.bool false,.bool false,.bool false,.bool false,.bool false,.bool true] w1.heap.size w2.heap.size y0):=i0;clear I0 i0 x0 x1 x2 x3 x4 x5 x6 x7 s0 s1 h0 h1 h2 h5 h6;obtain ⟨x0,x1,x2,x3,x4,x5,x6,x7,s0,s1,h0,h1,h2,h5,h6⟩:=I1.out.cells;go_wp2_with fail
  have n1:=m1;have D1:Hid (∀ m,Calls Tryz.prog 92 #[.string ⟨#[40]⟩,.slice b ns d,.string ⟨#[41]⟩] (v0.drewN m) fun e w'=>e=.returned (.string (str zs))∧InsSt w w' _ _ _ _ y0):=fun m=>(CS.out _ (I1.out.bel.trans ((drewN_below (Below.refl _ _)).mono I1.out.bel.size))).mono fun e w' h=>⟨h.1,I1.out.below ((drewN_below (Below.refl _ _)).trans h.2)⟩;have k1:¬ 9223372036854775807<1+(str zs).size:=by rw [str_size];omega
  have j1:¬ 9223372036854775807<(str y0).size+(1+(str zs).size):=by rw [str_size,str_size];first | omega | (simp only [List.length_cons] at *;omega)
  go_region_with (go_at_call 92;refine (D1.out _).mono ?_;rintro e u1 ⟨rfl,q1⟩;have J1:Hid (InsSt w u1 #[.int .i64 5,.int .i64 ka,.int .i64 kb,.int .i64 kc,.int .i64 kk,.int .i64 kn,.slice a nr c,.slice b ns d] #[.bool true,.bool false,.bool false,.bool false,.bool false,.bool false,.bool true] w1.heap.size w2.heap.size y0):=q1;clear q1;have g1:=cellOf J1.out.s 0 _ rfl;have f1:=freeOf J1.out.s 0)
  all_goals
    have I2:Hid (InsSt w (u1.setCell ⟨w1.heap.size,0,none⟩ (.string (str y0++(⟨#[32]⟩++str zs)))) #[.int .i64 5,.int .i64 ka,.int .i64 kb,.int .i64 kc,.int .i64 kk,.int .i64 kn,.slice a nr c,.slice b ns d] #[.bool true,.bool false,.bool false,.bool false,.bool false,.bool false,.bool true] w1.heap.size w2.heap.size y1):=J1.out.set' (by rw [← E1.out];exact str_put _ _);generalize u1.setCell ⟨w1.heap.size,0,none⟩ (.string (str y0++(⟨#[32]⟩++str zs)))=v1 at I2 ⊢;clear I1 J1 D1 k1 j1 g1 f1 x0 x1 x2 x3 x4 x5 x6 x7 s0 s1 h0 h1 h2 h5 h6;obtain ⟨x0,x1,x2,x3,x4,x5,x6,x7,s0,s1,h0,h1,h2,h5,h6⟩:=I2.out.cells;go_wp2_with fail
    go_ret;exact ⟨rfl,I2.out.bel⟩
theorem ins_get {w : World} {ka kb kc kk kn : Int} {z zr zs zk : List UInt8} {a b : Option Addr} {nr c ns d : Nat} (op : Int) (ho : op = 6) (h : InsH w #[.int .i64 op, .int .i64 ka, .int .i64 kb, .int .i64 kc, .int .i64 kk, .int .i64 kn, .slice a nr c, .slice b ns d] #[.bool true, .bool false, .bool false, .bool true, .bool false, .bool false, .bool false] op ka kb kc kk kn z zr zs zk a b nr c ns d) :
    Calls Tryz.prog 90 #[.agg #[.int .i64 op,.int .i64 ka,.int .i64 kb,.int .i64 kc,.int .i64 kk,.int .i64 kn,.slice a nr c,.slice b ns d]] w fun e w'=>e=.returned (.string (str ((z++nT ka)++nT kk)))∧Below w.heap.size w w':=by
  obtain ⟨CW,CF,CK,CN,CR,CS,CA,lz,lk,lr,ls,ln,la,lb,lc,ld⟩:=h;have hE:=enters_insText1;obtain ⟨y0,E0,m0⟩:=cat_letter z (nT ka);rw [E0.out];obtain ⟨y1,E1,m1⟩:=cat_letter y0 (nT kk);rw [E1.out];obtain rfl:=ho;go_enter Tryz.func90,Tryz.ntmps90
  go_wp2_with fail
  refine (CW.out _ (bel1 _ _)).mono ?_;rintro e w1 ⟨rfl,b1⟩;have B1:Hid (Below (w.alloc (.cells _ 45)).heap.size (w.alloc (.cells _ 45)) w1):=b1;have v0:=cellOf (((bel1 w1 (.cells #[.string (str z)] 9)).block w.heap.size (by have:=b1.size;simp at this;omega)).trans ((b1.block _ (by simp)).trans (Blk.new _ _ _))) 0 _ rfl;clear b1;go_wp2_with fail
  refine (CF.out _).mono ?_;rintro e w2 ⟨rfl,b2⟩;have I0:Hid (InsSt w _ _ #[.bool true,.bool false,.bool false,.bool true,.bool false,.bool false,.bool false] w1.heap.size w2.heap.size z):=InsSt.start B1.out b2;obtain ⟨x0,x1,x2,x3,x4,x5,x6,x7,s0,s1,h0,h1,h2,h5,h6⟩:=I0.out.cells;clear b2 B1 v0;go_wp2_with fail
  generalize w2.alloc (.cells #[.bool true,.bool false,.bool false,.bool true,.bool false,.bool false,.bool false] 156)=v at I0 x0 x1 x2 x3 x4 x5 x6 x7 s0 s1 h0 h1 h2 h5 h6 ⊢;have n0:=m0;refine (CA.out ka (by simp) _ _ _ _ I0.out (by first | omega | (simp only [List.length_cons] at *;omega))).mono ?_;rintro e v0 ⟨rfl,i0⟩;rw [E0.out] at i0;have I1:Hid (InsSt w v0 #[.int .i64 6,.int .i64 ka,.int .i64 kb,.int .i64 kc,.int .i64 kk,.int .i64 kn,.slice a nr c,.slice b ns d] #[.bool true,.bool false,.bool false,.bool true,.bool false,.bool false,.bool false] w1.heap.size w2.heap.size y0):=i0;clear I0 i0 x0 x1 x2 x3 x4 x5 x6 x7 s0 s1 h0 h1 h2 h5 h6;obtain ⟨x0,x1,x2,x3,x4,x5,x6,x7,s0,s1,h0,h1,h2,h5,h6⟩:=I1.out.cells;go_wp2_with fail
  have n1:=m1;refine (CA.out kk (by simp) _ _ _ _ I1.out (by first | omega | (simp only [List.length_cons] at *;omega))).mono ?_;rintro e v1 ⟨rfl,i1⟩;rw [E1.out] at i1;have I2:Hid (InsSt w v1 #[.int .i64 6,.int .i64 ka,.int .i64 kb,.int .i64 kc,.int .i64 kk,.int .i64 kn,.slice a nr c,.slice b ns d] #[.bool true,.bool false,.bool false,.bool true,.bool false,.bool false,.bool false] w1.heap.size w2.heap.size y1):=i1;clear I1 i1 x0 x1 x2 x3 x4 x5 x6 x7 s0 s1 h0 h1 h2 h5 h6;obtain ⟨x0,x1,x2,x3,x4,x5,x6,x7,s0,s1,h0,h1,h2,h5,h6⟩:=I2.out.cells;go_wp2_with fail
  go_ret;exact ⟨rfl,I2.out.bel⟩
theorem ins_set {w : World} {ka kb kc kk kn : Int} {z zr zs zk : List UInt8} {a b : Option Addr} {nr c ns d : Nat} (op : Int) (ho : op = 7) (h : InsH w #[.int .i64 op, .int .i64 ka, .int .i64 kb, .int .i64 kc, .int .i64 kk, .int .i64 kn, .slice a nr c, .slice b ns d] #[.bool true, .bool true, .bool false, .bool true, .bool false, .bool false, .bool false] op ka kb kc kk kn z zr zs zk a b nr c ns d) :
    Calls Tryz.prog 90 #[.agg #[.int .i64 op,.int .i64 ka,.int .i64 kb,.int .i64 kc,.int .i64 kk,.int .i64 kn,.slice a nr c,.slice b ns d]] w fun e w'=>e=.returned (.string (str (((z++nT ka)++nT kk)++nT kb)))∧Below w.heap.size w w':=by
  obtain ⟨CW,CF,CK,CN,CR,CS,CA,lz,lk,lr,ls,ln,la,lb,lc,ld⟩:=h;have hE:=enters_insText1;obtain ⟨y0,E0,m0⟩:=cat_letter z (nT ka);rw [E0.out];obtain ⟨y1,E1,m1⟩:=cat_letter y0 (nT kk);rw [E1.out];obtain ⟨y2,E2,m2⟩:=cat_letter y1 (nT kb);rw [E2.out];obtain rfl:=ho;go_enter Tryz.func90,Tryz.ntmps90
  go_wp2_with fail
  refine (CW.out _ (bel1 _ _)).mono ?_;rintro e w1 ⟨rfl,b1⟩;have B1:Hid (Below (w.alloc (.cells _ 45)).heap.size (w.alloc (.cells _ 45)) w1):=b1;have v0:=cellOf (((bel1 w1 (.cells #[.string (str z)] 9)).block w.heap.size (by have:=b1.size;simp at this;omega)).trans ((b1.block _ (by simp)).trans (Blk.new _ _ _))) 0 _ rfl;clear b1;go_wp2_with fail
  refine (CF.out _).mono ?_;rintro e w2 ⟨rfl,b2⟩;have I0:Hid (InsSt w _ _ #[.bool true,.bool true,.bool false,.bool true,.bool false,.bool false,.bool false] w1.heap.size w2.heap.size z):=InsSt.start B1.out b2;obtain ⟨x0,x1,x2,x3,x4,x5,x6,x7,s0,s1,h0,h1,h2,h5,h6⟩:=I0.out.cells;clear b2 B1 v0;go_wp2_with fail
  generalize w2.alloc (.cells #[.bool true,.bool true,.bool false,.bool true,.bool false,.bool false,.bool false] 156)=v at I0 x0 x1 x2 x3 x4 x5 x6 x7 s0 s1 h0 h1 h2 h5 h6 ⊢;have n0:=m0;refine (CA.out ka (by simp) _ _ _ _ I0.out (by first | omega | (simp only [List.length_cons] at *;omega))).mono ?_;rintro e v0 ⟨rfl,i0⟩;rw [E0.out] at i0;have I1:Hid (InsSt w v0 #[.int .i64 7,.int .i64 ka,.int .i64 kb,.int .i64 kc,.int .i64 kk,.int .i64 kn,.slice a nr c,.slice b ns d] #[.bool true,.bool true,.bool false,.bool true,.bool false,.bool false,.bool false] w1.heap.size w2.heap.size y0):=i0;clear I0 i0 x0 x1 x2 x3 x4 x5 x6 x7 s0 s1 h0 h1 h2 h5 h6;obtain ⟨x0,x1,x2,x3,x4,x5,x6,x7,s0,s1,h0,h1,h2,h5,h6⟩:=I1.out.cells;go_wp2_with fail
  have n1:=m1;refine (CA.out kk (by simp) _ _ _ _ I1.out (by first | omega | (simp only [List.length_cons] at *;omega))).mono ?_;rintro e v1 ⟨rfl,i1⟩;rw [E1.out] at i1;have I2:Hid (InsSt w v1 #[.int .i64 7,.int .i64 ka,.int .i64 kb,.int .i64 kc,.int .i64 kk,.int .i64 kn,.slice a nr c,.slice b ns d] #[.bool true,.bool true,.bool false,.bool true,.bool false,.bool false,.bool false] w1.heap.size w2.heap.size y1):=i1;clear I1 i1 x0 x1 x2 x3 x4 x5 x6 x7 s0 s1 h0 h1 h2 h5 h6;obtain ⟨x0,x1,x2,x3,x4,x5,x6,x7,s0,s1,h0,h1,h2,h5,h6⟩:=I2.out.cells;go_wp2_with fail
  have n2:=m2;refine (CA.out kb (by simp) _ _ _ _ I2.out (by first | omega | (simp only [List.length_cons] at *;omega))).mono ?_;rintro e v2 ⟨rfl,i2⟩;rw [E2.out] at i2;have I3:Hid (InsSt w v2 #[.int .i64 7,.int .i64 ka,.int .i64 kb,.int .i64 kc,.int .i64 kk,.int .i64 kn,.slice a nr c,.slice b ns d] #[.bool true,.bool true,.bool false,.bool true,.bool false,.bool false,.bool false] w1.heap.size w2.heap.size y2):=i2;clear I2 i2 x0 x1 x2 x3 x4 x5 x6 x7 s0 s1 h0 h1 h2 h5 h6;obtain ⟨x0,x1,x2,x3,x4,x5,x6,x7,s0,s1,h0,h1,h2,h5,h6⟩:=I3.out.cells;go_wp2_with fail
  go_ret;exact ⟨rfl,I3.out.bel⟩
theorem ins_call {w : World} {ka kb kc kk kn : Int} {z zr zs zk : List UInt8} {a b : Option Addr} {nr c ns d : Nat} (op : Int) (ho : op = 14) (h : InsH w #[.int .i64 op, .int .i64 ka, .int .i64 kb, .int .i64 kc, .int .i64 kk, .int .i64 kn, .slice a nr c, .slice b ns d] #[.bool false, .bool false, .bool false, .bool true, .bool false, .bool true, .bool true] op ka kb kc kk kn z zr zs zk a b nr c ns d) :
    Calls Tryz.prog 90 #[.agg #[.int .i64 op,.int .i64 ka,.int .i64 kb,.int .i64 kc,.int .i64 kk,.int .i64 kn,.slice a nr c,.slice b ns d]] w fun e w'=>e=.returned (.string (str (((z++nT kk)++32::zr)++32::zs)))∧Below w.heap.size w w':=by
  obtain ⟨CW,CF,CK,CN,CR,CS,CA,lz,lk,lr,ls,ln,la,lb,lc,ld⟩:=h;have hE:=enters_insText1;obtain ⟨y0,E0,m0⟩:=cat_letter z (nT kk);rw [E0.out];obtain ⟨y1,E1,m1⟩:=cat_letter y0 ((32::zr));rw [E1.out];obtain ⟨y2,E2,m2⟩:=cat_letter y1 ((32::zs));rw [E2.out];obtain rfl:=ho;go_enter Tryz.func90,Tryz.ntmps90
  go_wp2_with fail
  refine (CW.out _ (bel1 _ _)).mono ?_;rintro e w1 ⟨rfl,b1⟩;have B1:Hid (Below (w.alloc (.cells _ 45)).heap.size (w.alloc (.cells _ 45)) w1):=b1;have v0:=cellOf (((bel1 w1 (.cells #[.string (str z)] 9)).block w.heap.size (by have:=b1.size;simp at this;omega)).trans ((b1.block _ (by simp)).trans (Blk.new _ _ _))) 0 _ rfl;clear b1;go_wp2_with fail
  refine (CF.out _).mono ?_;rintro e w2 ⟨rfl,b2⟩;have I0:Hid (InsSt w _ _ #[.bool false,.bool false,.bool false,.bool true,.bool false,.bool true,.bool true] w1.heap.size w2.heap.size z):=InsSt.start B1.out b2;obtain ⟨x0,x1,x2,x3,x4,x5,x6,x7,s0,s1,h0,h1,h2,h5,h6⟩:=I0.out.cells;clear b2 B1 v0;go_wp2_with fail
  generalize w2.alloc (.cells #[.bool false,.bool false,.bool false,.bool true,.bool false,.bool true,.bool true] 156)=v at I0 x0 x1 x2 x3 x4 x5 x6 x7 s0 s1 h0 h1 h2 h5 h6 ⊢;have n0:=m0;refine (CA.out kk (by simp) _ _ _ _ I0.out (by first | omega | (simp only [List.length_cons] at *;omega))).mono ?_;rintro e v0 ⟨rfl,i0⟩;rw [E0.out] at i0;have I1:Hid (InsSt w v0 #[.int .i64 14,.int .i64 ka,.int .i64 kb,.int .i64 kc,.int .i64 kk,.int .i64 kn,.slice a nr c,.slice b ns d] #[.bool false,.bool false,.bool false,.bool true,.bool false,.bool true,.bool true] w1.heap.size w2.heap.size y0):=i0;clear I0 i0 x0 x1 x2 x3 x4 x5 x6 x7 s0 s1 h0 h1 h2 h5 h6;obtain ⟨x0,x1,x2,x3,x4,x5,x6,x7,s0,s1,h0,h1,h2,h5,h6⟩:=I1.out.cells;go_wp2_with fail
  have n1:=m1;have D1:Hid (∀ m,Calls Tryz.prog 92 #[.string ⟨#[60]⟩,.slice a nr c,.string ⟨#[62]⟩] (v0.drewN m) fun e w'=>e=.returned (.string (str zr))∧InsSt w w' _ _ _ _ y0):=fun m=>(CR.out _ (I1.out.bel.trans ((drewN_below (Below.refl _ _)).mono I1.out.bel.size))).mono fun e w' h=>⟨h.1,I1.out.below ((drewN_below (Below.refl _ _)).trans h.2)⟩;have k1:¬ 9223372036854775807<1+(str zr).size:=by rw [str_size];omega
  have j1:¬ 9223372036854775807<(str y0).size+(1+(str zr).size):=by rw [str_size,str_size];first | omega | (simp only [List.length_cons] at *;omega)
  go_region_with (go_at_call 92;refine (D1.out _).mono ?_;rintro e u1 ⟨rfl,q1⟩;have J1:Hid (InsSt w u1 #[.int .i64 14,.int .i64 ka,.int .i64 kb,.int .i64 kc,.int .i64 kk,.int .i64 kn,.slice a nr c,.slice b ns d] #[.bool false,.bool false,.bool false,.bool true,.bool false,.bool true,.bool true] w1.heap.size w2.heap.size y0):=q1;clear q1;have g1:=cellOf J1.out.s 0 _ rfl;have f1:=freeOf J1.out.s 0)
  all_goals
    have I2:Hid (InsSt w (u1.setCell ⟨w1.heap.size,0,none⟩ (.string (str y0++(⟨#[32]⟩++str zr)))) #[.int .i64 14,.int .i64 ka,.int .i64 kb,.int .i64 kc,.int .i64 kk,.int .i64 kn,.slice a nr c,.slice b ns d] #[.bool false,.bool false,.bool false,.bool true,.bool false,.bool true,.bool true] w1.heap.size w2.heap.size y1):=J1.out.set' (by rw [← E1.out];exact str_put _ _);generalize u1.setCell ⟨w1.heap.size,0,none⟩ (.string (str y0++(⟨#[32]⟩++str zr)))=v1 at I2 ⊢;clear I1 J1 D1 k1 j1 g1 f1 x0 x1 x2 x3 x4 x5 x6 x7 s0 s1 h0 h1 h2 h5 h6;obtain ⟨x0,x1,x2,x3,x4,x5,x6,x7,s0,s1,h0,h1,h2,h5,h6⟩:=I2.out.cells;go_wp2_with fail
    have n2:=m2;have D2:Hid (∀ m,Calls Tryz.prog 92 #[.string ⟨#[40]⟩,.slice b ns d,.string ⟨#[41]⟩] (v1.drewN m) fun e w'=>e=.returned (.string (str zs))∧InsSt w w' _ _ _ _ y1):=fun m=>(CS.out _ (I2.out.bel.trans ((drewN_below (Below.refl _ _)).mono I2.out.bel.size))).mono fun e w' h=>⟨h.1,I2.out.below ((drewN_below (Below.refl _ _)).trans h.2)⟩;have k2:¬ 9223372036854775807<1+(str zs).size:=by rw [str_size];omega
    have j2:¬ 9223372036854775807<(str y1).size+(1+(str zs).size):=by rw [str_size,str_size];first | omega | (simp only [List.length_cons] at *;omega)
    go_region_with (go_at_call 92;refine (D2.out _).mono ?_;rintro e u2 ⟨rfl,q2⟩;have J2:Hid (InsSt w u2 #[.int .i64 14,.int .i64 ka,.int .i64 kb,.int .i64 kc,.int .i64 kk,.int .i64 kn,.slice a nr c,.slice b ns d] #[.bool false,.bool false,.bool false,.bool true,.bool false,.bool true,.bool true] w1.heap.size w2.heap.size y1):=q2;clear q2;have g2:=cellOf J2.out.s 0 _ rfl;have f2:=freeOf J2.out.s 0)
    all_goals
      have I3:Hid (InsSt w (u2.setCell ⟨w1.heap.size,0,none⟩ (.string (str y1++(⟨#[32]⟩++str zs)))) #[.int .i64 14,.int .i64 ka,.int .i64 kb,.int .i64 kc,.int .i64 kk,.int .i64 kn,.slice a nr c,.slice b ns d] #[.bool false,.bool false,.bool false,.bool true,.bool false,.bool true,.bool true] w1.heap.size w2.heap.size y2):=J2.out.set' (by rw [← E2.out];exact str_put _ _);generalize u2.setCell ⟨w1.heap.size,0,none⟩ (.string (str y1++(⟨#[32]⟩++str zs)))=v2 at I3 ⊢;clear I2 J2 D2 k2 j2 g2 f2 x0 x1 x2 x3 x4 x5 x6 x7 s0 s1 h0 h1 h2 h5 h6;obtain ⟨x0,x1,x2,x3,x4,x5,x6,x7,s0,s1,h0,h1,h2,h5,h6⟩:=I3.out.cells;go_wp2_with fail
      go_ret;exact ⟨rfl,I3.out.bel⟩
theorem rword_len {ws : List (List UInt8)} (h : ∀ s ∈ ws, s.length ≤ 20) (k : Int) : (wordAt ws k).length ≤ 20 := by
  unfold wordAt;split
  · simp
  · rw [List.getD]
    cases hx:ws[k.toNat - 1]? with
    | none=>simp
    | some s=>exact h s (List.mem_of_getElem? hx)
theorem rnT_len {k : Int} (h : -9223372036854775808 ≤ k ∧ k ≤ 9223372036854775807) : (nT k).length ≤ 22 := by
  have:=Lib.itoa_length_le k h.1 h.2
  simp [nT];omega
theorem insTextR_any (x : MIns) (cs : List Value) (w : World) (h0 : insL.In w All x cs) (hp : Pows w) (hs : x.small) (hf : (fieldsOf x.op).isNone = false) :
    Calls Tryz.prog 90 #[.agg cs.toArray] w fun e w'=>e=.returned (.string (str x.txt))∧Below w.heap.size w w':=by
  obtain ⟨a,c,b,d,rfl,h1,h2,i0,i1,i2,i3,i4,i5⟩:=ins_form h0
  have H:∀ ch,fieldsV x.op=.tuple #[.agg ch,.bool true]→InsH w #[.int .i64 x.op,.int .i64 x.a,.int .i64 x.b,.int .i64 x.c,.int .i64 x.k,.int .i64 x.n,.slice a x.regs.length c,.slice b x.args.length d] ch x.op x.a x.b x.c x.k x.n (wordAt opWords x.op) (intsT 60 62 x.regs) (intsT 40 41 x.args) (wordAt kindWords x.k) a b x.regs.length c x.args.length d:=fun ch hc =>
    { CW:=fun wx _=>opWord_any x.op wx
      CF:=fun wx=>by have:=fieldsOf_any x.op wx;rw [hc] at this;exact this
      CK:=fun wx=>kindWord_any x.k wx
      CN:=fun wx hb=>fmt_any x.n i5 wx (hp.below hb)
      CR:=fun wx hb=>intsText_any 60 62 _ _ _ wx (Lay.below h1 hb) (hp.below hb) hs.1
      CS:=fun wx hb=>intsText_any 40 41 _ _ _ wx (Lay.below h2 hb) (hp.below hb) hs.2
      CA:=fun k hk wx S H y hI hy=>addNum_any k (by rcases hk with rfl | rfl | rfl | rfl <;> assumption) hI (hp.below hI.bel) hy
      lz:=rword_len (by decide) _
      lk:=rword_len (by decide) _
      lr:=ints_len 60 62 h1 hs.1
      ls:=ints_len 40 41 h2 hs.2
      ln:=Lib.itoa_length_le _ i5.1 i5.2
      la:=rnT_len i1
      lb:=rnT_len i2
      lc:=rnT_len i3
      ld:=rnT_len i4 }
  rcases op_cases x.op with h | h | h | h | h | h | h | h | h | h | h | h | h | h | ⟨n1,n2,n3,n4,n5,n6,n7,n8,n9,n10,n11,n12,n13,n14⟩
  · exact (ins_num _ h (H _ (by rw [h];rfl))).mono fun e w' k=>⟨k.1.trans (congrArg (fun s=>Ending.returned (.string (str s))) (by simp [MIns.txt,MIns.rest,h,nT])),k.2⟩
  · exact (ins_bin _ h (H _ (by rw [h];rfl))).mono fun e w' k=>⟨k.1.trans (congrArg (fun s=>Ending.returned (.string (str s))) (by simp [MIns.txt,MIns.rest,h])),k.2⟩
  · exact (ins_none _ (by simp [h]) (H _ (by rw [h];rfl))).mono fun e w' k=>⟨k.1.trans (congrArg (fun s=>Ending.returned (.string (str s))) (by simp [MIns.txt,MIns.rest,h])),k.2⟩
  · exact (ins_a _ (by simp [h]) (H _ (by rw [h];rfl))).mono fun e w' k=>⟨k.1.trans (congrArg (fun s=>Ending.returned (.string (str s))) (by simp [MIns.txt,MIns.rest,h])),k.2⟩
  · exact (ins_tup _ h (H _ (by rw [h];rfl))).mono fun e w' k=>⟨k.1.trans (congrArg (fun s=>Ending.returned (.string (str s))) (by simp [MIns.txt,MIns.rest,h])),k.2⟩
  · exact (ins_get _ h (H _ (by rw [h];rfl))).mono fun e w' k=>⟨k.1.trans (congrArg (fun s=>Ending.returned (.string (str s))) (by simp [MIns.txt,MIns.rest,h])),k.2⟩
  · exact (ins_set _ h (H _ (by rw [h];rfl))).mono fun e w' k=>⟨k.1.trans (congrArg (fun s=>Ending.returned (.string (str s))) (by simp [MIns.txt,MIns.rest,h])),k.2⟩
  · exact (ins_ab _ (by simp [h]) (H _ (by rw [h];rfl))).mono fun e w' k=>⟨k.1.trans (congrArg (fun s=>Ending.returned (.string (str s))) (by simp [MIns.txt,MIns.rest,h])),k.2⟩
  · exact (ins_ab _ (by simp [h]) (H _ (by rw [h];rfl))).mono fun e w' k=>⟨k.1.trans (congrArg (fun s=>Ending.returned (.string (str s))) (by simp [MIns.txt,MIns.rest,h])),k.2⟩
  · exact (ins_abc _ h (H _ (by rw [h];rfl))).mono fun e w' k=>⟨k.1.trans (congrArg (fun s=>Ending.returned (.string (str s))) (by simp [MIns.txt,MIns.rest,h])),k.2⟩
  · exact (ins_a _ (by simp [h]) (H _ (by rw [h];rfl))).mono fun e w' k=>⟨k.1.trans (congrArg (fun s=>Ending.returned (.string (str s))) (by simp [MIns.txt,MIns.rest,h])),k.2⟩
  · exact (ins_none _ (by simp [h]) (H _ (by rw [h];rfl))).mono fun e w' k=>⟨k.1.trans (congrArg (fun s=>Ending.returned (.string (str s))) (by simp [MIns.txt,MIns.rest,h])),k.2⟩
  · exact (ins_a _ (by simp [h]) (H _ (by rw [h];rfl))).mono fun e w' k=>⟨k.1.trans (congrArg (fun s=>Ending.returned (.string (str s))) (by simp [MIns.txt,MIns.rest,h])),k.2⟩
  · exact (ins_call _ h (H _ (by rw [h];rfl))).mono fun e w' k=>⟨k.1.trans (congrArg (fun s=>Ending.returned (.string (str s))) (by simp [MIns.txt,MIns.rest,h])),k.2⟩
  · exfalso
    have e:fieldsOf x.op=none:=by
      unfold fieldsOf;simp [n1,n2,n3,n4,n5,n6,n7,n8,n9,n10,n11,n12,n13,n14]
    rw [e] at hf
    cases hf
end Go.Proofs.YtalfbnllodhkiacGreatDoor
namespace Go.Proofs.YtalfbnllodhkiacGreatDoor
open Go.ChangeShapes Go.WideShapes Go.ChangeAt Go.RowKit
set_option linter.unusedVariables false
theorem calm_tail {P : Program} {id : Nat} {l l2 : List Oper} {outs : List Tmp} {gs : List (Nat × Option Bool)} {bs : List Bool} {a : Act} {w : World} {Q : Exit → Act → World → Prop}
    (E:Tmp→Value→World→Prop) (W:World→Prop) (R:World→World→Prop)
    (hm:P.follows .mixedOrders=true) {n m:Nat} (hn:a.tmps.size=m) (hnm:n≤m) (hB:calmB l n outs gs bs=true)
    (hT:(backB 0 (l++l2) && (guardsB l.length l && tailB l.length l2))=true)
    (hR:∀ t v w w',R w w'→E t v w→E t v w') (hG:GuardOk E W l.toArray gs) (hW:W w.drew) (hO:OutsOk E a w.drew outs)
    (hA:AllOk E W R P l bs)
    (hend:∀ (vs:Tmp→Value) w',W w'→(∀ t,(dstsOf l).contains t=true→E t (vs t) w')→wpList P (l++l2).toArray Q l2 (puts a vs (dstsOf l)) w') :
    (Code.region id (l++l2).toArray true).wp P Q a w:=by
  simp only [Bool.and_eq_true] at hT;obtain ⟨hT1,hT2,hT3⟩:=hT;refine wp_region_any hm ?_
  have key:wpAny P .any l.toArray (Exit.then (fun a w=>wpList P (l++l2).toArray Q l2 a w) Q) l.length (Array.replicate l.length false) a w.drew:=by
    refine wpAny_calm (E:=E) (W:=W) (R:=R) (a0:=a) (outs:=outs) (gs:=gs) (bs:=bs) (calmB_mono (hn ▸ hnm) hB) hR hG hA hend _ _ _ _ (by simp) ?_ ⟨hW,rfl,rfl,fun _ _=>rfl,fun t ht _=>outs_mem outs hO t ht,?_⟩
    · simp only [Array.toList_replicate];exact Nat.le_trans (List.length_filter_le _ _) (by simp)
    · intro j o t hj hd hl;simp [Array.getD] at hl
  have:=wpAny_tail (Q:=Q) hT1 hT2 hT3 l.length (Array.replicate l.length false) a w.drew (by simp) key
  have e:(Array.replicate l.length false++Array.replicate l2.length false:Array Bool)=Array.replicate (l++l2).toArray.size false:=by
    simp
  have e2:l.length+l2.length=(l++l2).toArray.size:=by simp
  rw [e,e2] at this;exact this
theorem wp_region_calm_tail {P : Program} {id : Nat} {lo : List Oper} {outs : List Tmp} {gs : List (Nat × Option Bool)} {bs : List Bool} {a : Act} {w : World} {Q : Exit → Act → World → Prop}
    (k:Nat) (E:Tmp→Value→World→Prop) (W:World→Prop) (R:World→World→Prop)
    (hm:P.follows .mixedOrders=true) {n m:Nat} (hn:a.tmps.size=m) (hnm:n≤m) (hB:calmB (lo.take k) n outs gs bs=true)
    (hT:(backB 0 lo && (guardsB (lo.take k).length (lo.take k) && tailB (lo.take k).length (lo.drop k)))=true)
    (hR:∀ t v w w',R w w'→E t v w→E t v w') (hG:GuardOk E W (lo.take k).toArray gs) (hW:W w.drew) (hO:OutsOk E a w.drew outs)
    (hA:AllOk E W R P (lo.take k) bs)
    (hend:∀ ops (vs:Tmp→Value) w',W w'→(∀ t,(dstsOf (lo.take k)).contains t=true→E t (vs t) w')→wpList P ops Q (lo.drop k) (puts a vs (dstsOf (lo.take k))) w') :
    (Code.region id lo.toArray true).wp P Q a w:=by
  have h:=calm_tail (id:=id) (l:=lo.take k) (l2:=lo.drop k) (Q:=Q) E W R hm hn hnm hB (by rw [List.take_append_drop];exact hT) hR hG hW hO hA (hend _);rwa [List.take_append_drop] at h
end Go.Proofs.YtalfbnllodhkiacGreatDoor
namespace Go.Proofs.YtalfbnllodhkiacGreatDoor
open Go.ChangeShapes Go.WideShapes Go.ChangeAt Go.RowKit Go.Shelf
set_option linter.unusedSimpArgs false
set_option linter.unusedVariables false
theorem blk_on {w w' : World} {B : Nat} {c : Array Value} {t : TypeId} (h : Blk w B c t) (b : Below w.heap.size w w') : Blk w' B c t := (b.block _ (lt_of_block h)).trans h
theorem blocks_take {n : Nat} {l : List (MBlock n)} {i : Nat} {x : MBlock n} (hx : l[i]? = some x) : blocksT (l.take (i + 1)) = blocksT (l.take i) ++ x.txt := flat_take hx
theorem code_take {l : List MIns} {i : Nat} {x : MIns} (hx : l[i]? = some x) : codeT (l.take (i + 1)) = codeT (l.take i) ++ lineT x.txt := flat_take (t := fun x : MIns => lineT x.txt) hx
theorem mod_take {n : Nat} {l : List (MFunc n)} {i : Nat} {x : MFunc n} (hx : l[i]? = some x) : modTxt (l.take (i + 1)) = modTxt (l.take i) ++ x.txt := flat_take hx
theorem str3 {S L a t b : List UInt8} (h : L = S ++ (a ++ t ++ b)) : str L = str S ++ (str a ++ str t ++ str b) := by rw [str_app, str_app, str_app, h]
theorem str4 {S L a t b : List UInt8} (h : L = S ++ (a ++ t) ++ b) : str L = str S ++ (str a ++ str t) ++ str b := by rw [str_app, str_app, str_app, h]
theorem str2 {S L a : List UInt8} (h : L = S ++ a) : str L = str S ++ str a := by rw [str_app, h]
theorem moduleText_any {n : Nat} {m : List (MFunc n)} {p : Option Addr} {c : Nat} {w : World} (hm0 : (modL n).In w All m [.slice p m.length c]) (hp0 : Pows w) (hg0 : ¬ greatMod m) (hf0 : ∀ x ∈ m, x.fine m.length) :
    Calls Tryz.prog 49 #[.agg #[.slice p m.length c]] w fun e w'=>e=.returned (.string (str (modTxt m)))∧Below w.heap.size w w':=by
  have M:Hid ((funcL n).list.In w All m [.slice p m.length c]):=hm0;have P:Hid (Pows w):=hp0;have G:Hid (¬ greatMod m):=hg0;have F:Hid (∀ x∈m,x.fine m.length):=hf0;have LM:Hid ((modTxt m).length≤20000000000):=mod_len hm0 hg0;have gl:m.length≤20:=Nat.le_of_not_lt fun x=>hg0 (.inl x);clear hm0 hp0 hg0 hf0;have X1:Hid (Blk (w.alloc (.cells #[.slice p m.length c] 25)) w.heap.size #[.slice p m.length c] 25):=Blk.new _ _ _;have B1:Hid (Below w.heap.size w (w.alloc (.cells #[.slice p m.length c] 25))):=bel1 _ _;go_enter Tryz.func49,Tryz.ntmps49
  go_wp2_with fail
  generalize w.alloc (.cells #[.slice p m.length c] 25)=w1 at X1 B1 ⊢;go_loopw [3,4] (fun v i wr=>∃ q:Nat,q≤m.length∧i=.int .i64 q∧v=.string (str (modTxt (m.take q)))∧Below w1.heap.size w1 wr) (fun _ i _=>m.length - (intOf i).toNat)
  case atStart=>exact ⟨0,Nat.zero_le _,rfl,rfl,Below.refl _ _⟩
  case round =>
    obtain ⟨q,hq,rfl,rfl,hb⟩:=hrel;have Bl:Hid (Below w1.heap.size w1 wr):=hb;clear hb;have Bw:Hid (Below w.heap.size w wr):=B1.out.trans (Bl.out.mono B1.out.size);have c0:=cellOf (blk_on X1.out Bl.out) 0 _ rfl;by_cases hlt:q<m.length
    rotate_left
    · have hk1:¬ (q:Int)<m.length:=by omega
      have E:Hid (m.take q=m):=List.take_of_length_le (by omega);go_wp2
      go_ret;exact ⟨by rw [E.out];rfl,Bw.out⟩
    have hx:m[q]?=some m[q]:=List.getElem?_eq_getElem hlt;obtain ⟨g,o,ds,rfl,_,hg,hc,hds⟩:=Lay.list_at (Lay.below M.out Bw.out) hx;generalize m[q]=x at hx hds;obtain ⟨a1,k1,a2,k2,a3,k3,rfl,u1,u2,u3,i1⟩:=func_form hds;have d0:=hc 0 (show 0<4 by omega);have d1:=hc 1 (show 1<4 by omega);have d2:=hc 2 (show 2<4 by omega);have d3:=hc 3 (show 3<4 by omega);rw [show (funcL n).size=4 from rfl] at d0 d1 d2 d3;simp only [List.getElem?_cons_zero,List.getElem?_cons_succ,Nat.add_zero] at d0 d1 d2 d3;have hk0:(0:Int)≤q:=by omega
    have hk1:(q:Int)<m.length:=by omega
    have hmem:=List.mem_of_getElem? hx;have gx:¬ x.great:=fun h=>G.out (.inr ⟨x,hmem,h⟩);have fx:x.fine m.length:=F.out x hmem;have S:Hid (modTxt (m.take (q+1))=modTxt (m.take q)++x.txt):=mod_take hx;have l0:=Lib.itoa_length_le _ i1.1 i1.2;have l1:=rtyps_len (types_lin u1).2 (fun h=>gx (.inr (.inl h)));have l2:=rtyps_len (types_lin u2).2 (fun h=>gx (.inr (.inr (.inl h))));have l3:(modTxt (m.take q)).length≤20000000000:=Nat.le_trans (flat_le MFunc.txt m q) LM.out;have bb0:Below wr.heap.size wr (wr.alloc (.cells #[.int .i64 x.regs,.slice a1 x.params.length k1,.slice a2 x.results.length k2,.slice a3 x.blocks.length k3] 42)):=bel1 _ _;have C0:Hid (∀ wx,Below (wr.alloc (.cells #[.int .i64 x.regs,.slice a1 x.params.length k1,.slice a2 x.results.length k2,.slice a3 x.blocks.length k3] 42)).heap.size (wr.alloc (.cells #[.int .i64 x.regs,.slice a1 x.params.length k1,.slice a2 x.results.length k2,.slice a3 x.blocks.length k3] 42)) wx→Calls Tryz.prog 88 #[.int .i64 x.regs] wx fun e w'=>e=.returned (.string (str (Lib.itoa x.regs)))∧Below wx.heap.size wx w'):=fun wx hb=>itoa_any _ i1 wx (P.out.below ((Bw.out.trans (bb0.mono Bw.out.size)).trans (hb.mono (Nat.le_trans Bw.out.size bb0.size))));have C1:Hid (∀ wx,Below (wr.alloc (.cells #[.int .i64 x.regs,.slice a1 x.params.length k1,.slice a2 x.results.length k2,.slice a3 x.blocks.length k3] 42)).heap.size (wr.alloc (.cells #[.int .i64 x.regs,.slice a1 x.params.length k1,.slice a2 x.results.length k2,.slice a3 x.blocks.length k3] 42)) wx→Calls Tryz.prog 89 #[.slice a1 x.params.length k1] wx fun e w'=>e=.returned (.string (str (typsT x.params)))∧Below wx.heap.size wx w'):=fun wx hb=>typesTextR_any _ _ _ wx (Lay.below (Lay.below u1 bb0) hb) (P.out.below ((Bw.out.trans (bb0.mono Bw.out.size)).trans (hb.mono (Nat.le_trans Bw.out.size bb0.size)))) (fun h=>gx (.inr (.inl h)));have C2:Hid (∀ wx,Below (wr.alloc (.cells #[.int .i64 x.regs,.slice a1 x.params.length k1,.slice a2 x.results.length k2,.slice a3 x.blocks.length k3] 42)).heap.size (wr.alloc (.cells #[.int .i64 x.regs,.slice a1 x.params.length k1,.slice a2 x.results.length k2,.slice a3 x.blocks.length k3] 42)) wx→Calls Tryz.prog 89 #[.slice a2 x.results.length k2] wx fun e w'=>e=.returned (.string (str (typsT x.results)))∧Below wx.heap.size wx w'):=fun wx hb=>typesTextR_any _ _ _ wx (Lay.below (Lay.below u2 bb0) hb) (P.out.below ((Bw.out.trans (bb0.mono Bw.out.size)).trans (hb.mono (Nat.le_trans Bw.out.size bb0.size)))) (fun h=>gx (.inr (.inr (.inl h))));have U3:Hid ((blockL n).list.In (wr.alloc (.cells #[.int .i64 x.regs,.slice a1 x.params.length k1,.slice a2 x.results.length k2,.slice a3 x.blocks.length k3] 42)) All x.blocks [.slice a3 x.blocks.length k3]):=Lay.below u3 bb0;have l4:(blocksT x.blocks).length≤800000000:=blocks_len u3 (fun y hy h=>gx (.inr (.inr (.inr ⟨y,hy,h⟩)))) (Nat.le_of_not_lt fun h=>gx (.inl h));have gl2:x.blocks.length≤30:=Nat.le_of_not_lt fun h=>gx (.inl h);have FB:Hid (∀ y∈x.blocks,y.fine m.length):=fx.blocks;have GB:Hid (∀ y∈x.blocks,¬ y.great):=fun y hy h=>gx (.inr (.inr (.inr ⟨y,hy,h⟩)));have P2:Hid (Pows (wr.alloc (.cells #[.int .i64 x.regs,.slice a1 x.params.length k1,.slice a2 x.results.length k2,.slice a3 x.blocks.length k3] 42))):=P.out.below (Bw.out.trans (bb0.mono Bw.out.size));have Bx:Hid (Below w1.heap.size w1 (wr.alloc (.cells #[.int .i64 x.regs,.slice a1 x.params.length k1,.slice a2 x.results.length k2,.slice a3 x.blocks.length k3] 42))):=Bl.out.trans (bb0.mono Bl.out.size);have hT:Hid (x.txt=[102,117,110,99,32]++Lib.itoa x.regs++[32]++typsT x.params++[32,45,62,32]++typsT x.results++[32,123,10]++blocksT x.blocks++[125,10]):=by show _=_;simp [MFunc.txt,MFunc.head,nT,wFunc]
    have X2:Hid (Blk (wr.alloc (.cells #[.int .i64 x.regs,.slice a1 x.params.length k1,.slice a2 x.results.length k2,.slice a3 x.blocks.length k3] 42)) wr.heap.size #[.int .i64 x.regs,.slice a1 x.params.length k1,.slice a2 x.results.length k2,.slice a3 x.blocks.length k3] 42):=Blk.new _ _ _;clear hc hds hx hmem u1 u2 u3 i1 gx fx bb0 F G LM;go_upto_region 6 with fail
    clear d0 d1 d2 d3 hg c0;generalize wr.alloc (.cells #[.int .i64 x.regs,.slice a1 x.params.length k1,.slice a2 x.results.length k2,.slice a3 x.blocks.length k3] 42)=w2 at X2 Bx P2 U3 C0 C1 C2 ⊢;generalize hGb:wr.heap.size=Gb at X2 ⊢;clear hGb;generalize modTxt (m.take q)=s at l3 S ⊢;generalize Lib.itoa x.regs=z0 at C0 l0 hT;generalize typsT x.params=z1 at C1 l1 hT;generalize typsT x.results=z2 at C2 l2 hT;generalize x.txt=tx at hT S;generalize hxb:x.blocks=xs at U3 X2 l4 FB GB hT gl2 ⊢;generalize x.regs=kr at C0 X2 ⊢;generalize x.params.length=n1 at C1 X2 ⊢;generalize x.results.length=n2 at C2 X2 ⊢;clear hxb;obtain ⟨y25,Ey25,ly25⟩:=cat_letter [102,117,110,99,32] z0;replace ly25:y25.length=5+z0.length:=ly25;obtain ⟨y26,Ey26,ly26⟩:=cat_letter y25 [32];replace ly26:y26.length=y25.length+1:=ly26;obtain ⟨y30,Ey30,ly30⟩:=cat_letter y26 z1;replace ly30:y30.length=y26.length+z1.length:=ly30;obtain ⟨y31,Ey31,ly31⟩:=cat_letter y30 [32,45,62,32];replace ly31:y31.length=y30.length+4:=ly31;obtain ⟨y35,Ey35,ly35⟩:=cat_letter y31 z2;replace ly35:y35.length=y31.length+z2.length:=ly35;obtain ⟨y36,Ey36,ly36⟩:=cat_letter y35 [32,123,10];replace ly36:y36.length=y35.length+3:=ly36;obtain ⟨y37,Ey37,ly37⟩:=cat_letter s y36;replace ly37:y37.length=s.length+y36.length:=ly37;have T:Hid (s++tx=y37++blocksT xs++[125,10]):=by show _=_;rw [hT.out,Ey25.out,Ey26.out,Ey30.out,Ey31.out,Ey35.out,Ey36.out,← Ey37.out];simp
    refine wp_region_calm_tail 17 (PTab.E ([(3,fun v _=>v=.string (str s)),(5,fun v _=>v=.pointer (some ⟨Gb,0,none⟩)),(21,fun v _=>v=.string (str s)),(22,fun v _=>v=.pointer (some ⟨Gb,0,none⟩)),(23,fun v _=>v=.int .i64 kr),(24,fun v _=>v=.string (str z0)),(25,fun v _=>v=.string (str y25)),(26,fun v _=>v=.string (str y26)),(27,fun v _=>v=.pointer (some ⟨Gb,1,none⟩)),(28,fun v _=>v=.slice a1 n1 k1),(29,fun v _=>v=.string (str z1)),(30,fun v _=>v=.string (str y30)),(31,fun v _=>v=.string (str y31)),(32,fun v _=>v=.pointer (some ⟨Gb,2,none⟩)),(33,fun v _=>v=.slice a2 n2 k2),(34,fun v _=>v=.string (str z2)),(35,fun v _=>v=.string (str y35)),(36,fun v _=>v=.string (str y36)),(37,fun v _=>v=.string (str y37))]:PTab)) (fun wx=>Below w2.heap.size w2 wx) (fun w w'=>Below w.heap.size w w') (outs:=[3,5]) (gs:=[]) (bs:=[true,true,true,true,true,true,true,true,true,true,true,true,true,true,true,true,true]) (by kernel_rfl) (n:=124) rfl (Nat.le_refl _) (by kernel_rfl) (by kernel_rfl) (PTab_stable _ ⟨fun _ _ _ _ h=>h,fun _ _ _ _ h=>h,fun _ _ _ _ h=>h,fun _ _ _ _ h=>h,fun _ _ _ _ h=>h,fun _ _ _ _ h=>h,fun _ _ _ _ h=>h,fun _ _ _ _ h=>h,fun _ _ _ _ h=>h,fun _ _ _ _ h=>h,fun _ _ _ _ h=>h,fun _ _ _ _ h=>h,fun _ _ _ _ h=>h,fun _ _ _ _ h=>h,fun _ _ _ _ h=>h,fun _ _ _ _ h=>h,fun _ _ _ _ h=>h,fun _ _ _ _ h=>h,fun _ _ _ _ h=>h,trivial⟩) ?hG (drewN_below (m:=1) (Below.refl _ _)) ⟨rfl,rfl,trivial⟩ ?hA ?hend
    case hG=>exact trivial
    case hA =>
      show AllOk _ _ _ _ [_,_,_,_,_,_,_,_,_,_,_,_,_,_,_,_,_] _;refine ⟨fun ac wc hW hk K hK=>?_,?_⟩
      · obtain ⟨q0,-⟩:=hk;have q0:ac.tmps.getD 3 undef=.string (str s):=q0;go_simp;exact hK _ _ (Below.refl _ _) hW rfl
      refine ⟨fun ac wc hW hk K hK=>?_,?_⟩
      · obtain ⟨q0,-⟩:=hk;have q0:ac.tmps.getD 5 undef=.pointer (some ⟨Gb,0,none⟩):=q0;go_simp;exact hK _ _ (Below.refl _ _) hW rfl
      refine ⟨fun ac wc hW hk K hK=>?_,?_⟩
      · obtain ⟨q0,-⟩:=hk;have q0:ac.tmps.getD 22 undef=.pointer (some ⟨Gb,0,none⟩):=q0;have e0:=cellOf (blk_on X2.out hW) 0 _ rfl;go_simp;exact hK _ _ (Below.refl _ _) hW rfl
      refine ⟨fun ac wc hW hk K hK=>?_,?_⟩
      · obtain ⟨q0,-⟩:=hk;have q0:ac.tmps.getD 23 undef=.int .i64 kr:=q0;go_simp;refine (C0.out wc hW).mono ?_;rintro r7 w7 ⟨rfl,b7⟩;go_simp;exact hK _ _ b7 (hW.trans (b7.mono hW.size)) rfl
      refine ⟨fun ac wc hW hk K hK=>?_,?_⟩
      · obtain ⟨q0,-⟩:=hk;have q0:ac.tmps.getD 24 undef=.string (str z0):=q0;have n0:¬ 9223372036854775807<5+(str z0).size:=by simp only [str_size];omega
        go_simp;exact hK _ _ (Below.refl _ _) hW (by rw [← Ey25.out];exact str_add [102,117,110,99,32] z0)
      refine ⟨fun ac wc hW hk K hK=>?_,?_⟩
      · obtain ⟨q0,-⟩:=hk;have q0:ac.tmps.getD 25 undef=.string (str y25):=q0;have n0:¬ 9223372036854775807<(str y25).size+1:=by simp only [str_size];omega
        go_simp;exact hK _ _ (Below.refl _ _) hW (by rw [← Ey26.out];exact str_add y25 [32])
      refine ⟨fun ac wc hW hk K hK=>?_,?_⟩
      · obtain ⟨q0,-⟩:=hk;have q0:ac.tmps.getD 5 undef=.pointer (some ⟨Gb,0,none⟩):=q0;go_simp;exact hK _ _ (Below.refl _ _) hW rfl
      refine ⟨fun ac wc hW hk K hK=>?_,?_⟩
      · obtain ⟨q0,-⟩:=hk;have q0:ac.tmps.getD 27 undef=.pointer (some ⟨Gb,1,none⟩):=q0;have e0:=cellOf (blk_on X2.out hW) 1 _ rfl;go_simp;exact hK _ _ (Below.refl _ _) hW rfl
      refine ⟨fun ac wc hW hk K hK=>?_,?_⟩
      · obtain ⟨q0,-⟩:=hk;have q0:ac.tmps.getD 28 undef=.slice a1 n1 k1:=q0;go_simp;refine (C1.out wc hW).mono ?_;rintro r7 w7 ⟨rfl,b7⟩;go_simp;exact hK _ _ b7 (hW.trans (b7.mono hW.size)) rfl
      refine ⟨fun ac wc hW hk K hK=>?_,?_⟩
      · obtain ⟨q0,q1,-⟩:=hk;have q0:ac.tmps.getD 26 undef=.string (str y26):=q0;have q1:ac.tmps.getD 29 undef=.string (str z1):=q1;have n0:¬ 9223372036854775807<(str y26).size+(str z1).size:=by simp only [str_size];omega
        go_simp;exact hK _ _ (Below.refl _ _) hW (by rw [← Ey30.out];exact str_add y26 z1)
      refine ⟨fun ac wc hW hk K hK=>?_,?_⟩
      · obtain ⟨q0,-⟩:=hk;have q0:ac.tmps.getD 30 undef=.string (str y30):=q0;have n0:¬ 9223372036854775807<(str y30).size+4:=by simp only [str_size];omega
        go_simp;exact hK _ _ (Below.refl _ _) hW (by rw [← Ey31.out];exact str_add y30 [32,45,62,32])
      refine ⟨fun ac wc hW hk K hK=>?_,?_⟩
      · obtain ⟨q0,-⟩:=hk;have q0:ac.tmps.getD 5 undef=.pointer (some ⟨Gb,0,none⟩):=q0;go_simp;exact hK _ _ (Below.refl _ _) hW rfl
      refine ⟨fun ac wc hW hk K hK=>?_,?_⟩
      · obtain ⟨q0,-⟩:=hk;have q0:ac.tmps.getD 32 undef=.pointer (some ⟨Gb,2,none⟩):=q0;have e0:=cellOf (blk_on X2.out hW) 2 _ rfl;go_simp;exact hK _ _ (Below.refl _ _) hW rfl
      refine ⟨fun ac wc hW hk K hK=>?_,?_⟩
      · obtain ⟨q0,-⟩:=hk;have q0:ac.tmps.getD 33 undef=.slice a2 n2 k2:=q0;go_simp;refine (C2.out wc hW).mono ?_;rintro r7 w7 ⟨rfl,b7⟩;go_simp;exact hK _ _ b7 (hW.trans (b7.mono hW.size)) rfl
      refine ⟨fun ac wc hW hk K hK=>?_,?_⟩
      · obtain ⟨q0,q1,-⟩:=hk;have q0:ac.tmps.getD 31 undef=.string (str y31):=q0;have q1:ac.tmps.getD 34 undef=.string (str z2):=q1;have n0:¬ 9223372036854775807<(str y31).size+(str z2).size:=by simp only [str_size];omega
        go_simp;exact hK _ _ (Below.refl _ _) hW (by rw [← Ey35.out];exact str_add y31 z2)
      refine ⟨fun ac wc hW hk K hK=>?_,?_⟩
      · obtain ⟨q0,-⟩:=hk;have q0:ac.tmps.getD 35 undef=.string (str y35):=q0;have n0:¬ 9223372036854775807<(str y35).size+3:=by simp only [str_size];omega
        go_simp;exact hK _ _ (Below.refl _ _) hW (by rw [← Ey36.out];exact str_add y35 [32,123,10])
      refine ⟨fun ac wc hW hk K hK=>?_,?_⟩
      · obtain ⟨q0,q1,-⟩:=hk;have q0:ac.tmps.getD 21 undef=.string (str s):=q0;have q1:ac.tmps.getD 36 undef=.string (str y36):=q1;have n0:¬ 9223372036854775807<(str s).size+(str y36).size:=by simp only [str_size];omega
        go_simp;exact hK _ _ (Below.refl _ _) hW (by rw [← Ey37.out];exact str_add s y36)
      trivial
    case hend =>
      intro ops vs wt hW hk;have hv0:vs 37=.string (str y37):=hk 37 (by kernel_rfl);show wpList _ ops _ [_] (puts _ vs [21,22,23,24,25,26,27,28,29,30,31,32,33,34,35,36,37]) wt;simp only [puts,Act.put,List.setIfInBounds_toArray,List.set_cons_zero,List.set_cons_succ,hv0];clear hk hv0;have W3:Hid (Below w2.heap.size w2 wt):=hW;clear hW C0 C1 C2;have ly:y37.length≤20100000000:=by omega
      clear ly25 ly26 ly30 ly31 ly35 ly36 ly37 Ey25 Ey26 Ey30 Ey31 Ey35 Ey36 Ey37 l0 l1 l2 l3 hT;go_wp2_with fail
      go_loopw [3,6] (fun v i wq=>∃ b:Nat,b≤xs.length∧i=.int .i64 b∧v=.string (str (y37++blocksT (xs.take b)))∧Below wt.heap.size wt wq) (fun _ i _=>xs.length - (intOf i).toNat)
      case atStart=>exact ⟨0,Nat.zero_le _,rfl,by simp [blocksT],Below.refl _ _⟩
      case round =>
        obtain ⟨b,hb,rfl,rfl,hbl⟩:=hrel;have W4:Hid (Below w2.heap.size w2 wr):=W3.out.trans (hbl.mono W3.out.size);have W5:Hid (Below wt.heap.size wt wr):=hbl;clear hbl;have e3:=cellOf (blk_on X2.out W4.out) 3 _ rfl;by_cases hlb:b<xs.length
        rotate_left
        · have hk2:¬ (b:Int)<xs.length:=by omega
          have E:Hid (xs.take b=xs):=List.take_of_length_le (by omega);have l5:(y37++blocksT (xs.take b)).length≤30000000000:=by rw [List.length_append,E.out];omega
          have R:Hid (str (modTxt (m.take (q+1)))=str (y37++blocksT (xs.take b))++str [125,10]):=str2 (by rw [S.out,T.out,E.out]);generalize y37++blocksT (xs.take b)=s1 at l5 R ⊢;have f1:¬ 9223372036854775807<(str s1).size+2:=by rw [str_size];omega
          have B9:Hid (Below w1.heap.size w1 wr):=Bx.out.trans (W4.out.mono Bx.out.size);go_wp2
          go_roundw
          case rel=>exact ⟨q+1,by omega,by go_num,by rw [R.out];rfl,B9.out⟩
          case measure=>simp [intOf];omega
        have hy:xs[b]?=some xs[b]:=List.getElem?_eq_getElem hlb;obtain ⟨h,o2,dt,rfl,_,hh,hc,hdt⟩:=Lay.list_at (Lay.below U3.out W4.out) hy;generalize xs[b]=y at hy hdt;have lb0:=bhead_len hdt (GB.out y (List.mem_of_getElem? hy));obtain ⟨p1,j1,p2,j2,es,rfl,v1,v2,he,i4⟩:=block_form hdt;obtain ⟨t1,t2,p3,j3,rfl,hy1,hy2,v3,i5,i6⟩:=end_form he;have hy1':=hy1;have hy2':=hy2;obtain ⟨p4,j4,p5,j5,rfl,-,-,-⟩:=to_form hy1;obtain ⟨p6,j6,p7,j7,rfl,-,-,-⟩:=to_form hy2;clear he hy1 hy2;simp only [List.cons_append,List.nil_append] at hc;have d0:=hc 0 (show 0<12 by omega);have d1:=hc 1 (show 1<12 by omega);have d2:=hc 2 (show 2<12 by omega);have d3:=hc 3 (show 3<12 by omega);have d4:=hc 4 (show 4<12 by omega);have d5:=hc 5 (show 5<12 by omega);have d6:=hc 6 (show 6<12 by omega);have d7:=hc 7 (show 7<12 by omega);have d8:=hc 8 (show 8<12 by omega);have d9:=hc 9 (show 9<12 by omega);have d10:=hc 10 (show 10<12 by omega);have d11:=hc 11 (show 11<12 by omega);rw [show (blockL n).size=12 from rfl] at d0 d1 d2 d3 d4 d5 d6 d7 d8 d9 d10 d11;simp only [List.getElem?_cons_zero,List.getElem?_cons_succ,Nat.add_zero] at d0 d1 d2 d3 d4 d5 d6 d7 d8 d9 d10 d11;have hk2:(0:Int)≤b:=by omega
        have hk3:(b:Int)<xs.length:=by omega
        have hmem:=List.mem_of_getElem? hy;have gy:¬ y.great:=GB.out y hmem;have fy:y.fine m.length:=FB.out y hmem;have sy:=MBlock.small_of gy;obtain ⟨nb,hnb,hfin⟩:=fy.fin;have op:=(end_zero hnb hfin).1;have O:Hid (y.fin.op=1∨y.fin.op=2∨y.fin.op=3):=op;have SB:Hid (blocksT (xs.take (b+1))=blocksT (xs.take b)++y.txt):=blocks_take hy;have lb1:=Lib.itoa_length_le _ i4.1 i4.2;have lb2:=rtyps_len (types_lin v1).2 (fun h=>gy (.inr (.inl h)))
        have lb3:(y37++blocksT (xs.take b)).length≤30000000000:=by
          have:=flat_le MBlock.txt xs b
          rw [List.length_append];unfold blocksT at l4 ⊢;omega
        have bb1:Below wr.heap.size wr (wr.alloc (.cells #[.int .i64 y.regs,.slice p1 y.params.length j1,.slice p2 y.code.length j2,.int .i64 y.fin.op,.int .i64 y.fin.a,.int .i64 y.fin.yes.block,.slice p4 y.fin.yes.regs.length j4,.slice p5 y.fin.yes.args.length j5,.int .i64 y.fin.no.block,.slice p6 y.fin.no.regs.length j6,.slice p7 y.fin.no.args.length j7,.slice p3 y.fin.args.length j3] 52)):=bel1 _ _;have C0:Hid (∀ wx,Below (wr.alloc (.cells #[.int .i64 y.regs,.slice p1 y.params.length j1,.slice p2 y.code.length j2,.int .i64 y.fin.op,.int .i64 y.fin.a,.int .i64 y.fin.yes.block,.slice p4 y.fin.yes.regs.length j4,.slice p5 y.fin.yes.args.length j5,.int .i64 y.fin.no.block,.slice p6 y.fin.no.regs.length j6,.slice p7 y.fin.no.args.length j7,.slice p3 y.fin.args.length j3] 52)).heap.size (wr.alloc (.cells #[.int .i64 y.regs,.slice p1 y.params.length j1,.slice p2 y.code.length j2,.int .i64 y.fin.op,.int .i64 y.fin.a,.int .i64 y.fin.yes.block,.slice p4 y.fin.yes.regs.length j4,.slice p5 y.fin.yes.args.length j5,.int .i64 y.fin.no.block,.slice p6 y.fin.no.regs.length j6,.slice p7 y.fin.no.args.length j7,.slice p3 y.fin.args.length j3] 52)) wx→Calls Tryz.prog 88 #[.int .i64 y.regs] wx fun e w'=>e=.returned (.string (str (Lib.itoa y.regs)))∧Below wx.heap.size wx w'):=fun wx hb=>itoa_any _ i4 wx (P2.out.below ((W4.out.trans (bb1.mono W4.out.size)).trans (hb.mono (Nat.le_trans W4.out.size bb1.size))));have C1:Hid (∀ wx,Below (wr.alloc (.cells #[.int .i64 y.regs,.slice p1 y.params.length j1,.slice p2 y.code.length j2,.int .i64 y.fin.op,.int .i64 y.fin.a,.int .i64 y.fin.yes.block,.slice p4 y.fin.yes.regs.length j4,.slice p5 y.fin.yes.args.length j5,.int .i64 y.fin.no.block,.slice p6 y.fin.no.regs.length j6,.slice p7 y.fin.no.args.length j7,.slice p3 y.fin.args.length j3] 52)).heap.size (wr.alloc (.cells #[.int .i64 y.regs,.slice p1 y.params.length j1,.slice p2 y.code.length j2,.int .i64 y.fin.op,.int .i64 y.fin.a,.int .i64 y.fin.yes.block,.slice p4 y.fin.yes.regs.length j4,.slice p5 y.fin.yes.args.length j5,.int .i64 y.fin.no.block,.slice p6 y.fin.no.regs.length j6,.slice p7 y.fin.no.args.length j7,.slice p3 y.fin.args.length j3] 52)) wx→Calls Tryz.prog 89 #[.slice p1 y.params.length j1] wx fun e w'=>e=.returned (.string (str (typsT y.params)))∧Below wx.heap.size wx w'):=fun wx hb=>typesTextR_any _ _ _ wx (Lay.below (Lay.below v1 bb1) hb) (P2.out.below ((W4.out.trans (bb1.mono W4.out.size)).trans (hb.mono (Nat.le_trans W4.out.size bb1.size)))) (fun h=>gy (.inr (.inl h)));have C2:Hid (∀ wx,Below (wr.alloc (.cells #[.int .i64 y.regs,.slice p1 y.params.length j1,.slice p2 y.code.length j2,.int .i64 y.fin.op,.int .i64 y.fin.a,.int .i64 y.fin.yes.block,.slice p4 y.fin.yes.regs.length j4,.slice p5 y.fin.yes.args.length j5,.int .i64 y.fin.no.block,.slice p6 y.fin.no.regs.length j6,.slice p7 y.fin.no.args.length j7,.slice p3 y.fin.args.length j3] 52)).heap.size (wr.alloc (.cells #[.int .i64 y.regs,.slice p1 y.params.length j1,.slice p2 y.code.length j2,.int .i64 y.fin.op,.int .i64 y.fin.a,.int .i64 y.fin.yes.block,.slice p4 y.fin.yes.regs.length j4,.slice p5 y.fin.yes.args.length j5,.int .i64 y.fin.no.block,.slice p6 y.fin.no.regs.length j6,.slice p7 y.fin.no.args.length j7,.slice p3 y.fin.args.length j3] 52)) wx→Calls Tryz.prog 88 #[.int .i64 y.fin.a] wx fun e w'=>e=.returned (.string (str (Lib.itoa y.fin.a)))∧Below wx.heap.size wx w'):=fun wx hb=>itoa_any _ i6 wx (P2.out.below ((W4.out.trans (bb1.mono W4.out.size)).trans (hb.mono (Nat.le_trans W4.out.size bb1.size))));have C3:Hid (∀ wx,Below (wr.alloc (.cells #[.int .i64 y.regs,.slice p1 y.params.length j1,.slice p2 y.code.length j2,.int .i64 y.fin.op,.int .i64 y.fin.a,.int .i64 y.fin.yes.block,.slice p4 y.fin.yes.regs.length j4,.slice p5 y.fin.yes.args.length j5,.int .i64 y.fin.no.block,.slice p6 y.fin.no.regs.length j6,.slice p7 y.fin.no.args.length j7,.slice p3 y.fin.args.length j3] 52)).heap.size (wr.alloc (.cells #[.int .i64 y.regs,.slice p1 y.params.length j1,.slice p2 y.code.length j2,.int .i64 y.fin.op,.int .i64 y.fin.a,.int .i64 y.fin.yes.block,.slice p4 y.fin.yes.regs.length j4,.slice p5 y.fin.yes.args.length j5,.int .i64 y.fin.no.block,.slice p6 y.fin.no.regs.length j6,.slice p7 y.fin.no.args.length j7,.slice p3 y.fin.args.length j3] 52)) wx→Calls Tryz.prog 91 #[.agg #[.int .i64 y.fin.yes.block,.slice p4 y.fin.yes.regs.length j4,.slice p5 y.fin.yes.args.length j5]] wx fun e w'=>e=.returned (.string (str y.fin.yes.txt))∧Below wx.heap.size wx w'):=fun wx hb=>toTextR_any _ _ wx (Lay.below (Lay.below hy1' bb1) hb) (P2.out.below ((W4.out.trans (bb1.mono W4.out.size)).trans (hb.mono (Nat.le_trans W4.out.size bb1.size)))) sy.2.2.1.1;have C4:Hid (∀ wx,Below (wr.alloc (.cells #[.int .i64 y.regs,.slice p1 y.params.length j1,.slice p2 y.code.length j2,.int .i64 y.fin.op,.int .i64 y.fin.a,.int .i64 y.fin.yes.block,.slice p4 y.fin.yes.regs.length j4,.slice p5 y.fin.yes.args.length j5,.int .i64 y.fin.no.block,.slice p6 y.fin.no.regs.length j6,.slice p7 y.fin.no.args.length j7,.slice p3 y.fin.args.length j3] 52)).heap.size (wr.alloc (.cells #[.int .i64 y.regs,.slice p1 y.params.length j1,.slice p2 y.code.length j2,.int .i64 y.fin.op,.int .i64 y.fin.a,.int .i64 y.fin.yes.block,.slice p4 y.fin.yes.regs.length j4,.slice p5 y.fin.yes.args.length j5,.int .i64 y.fin.no.block,.slice p6 y.fin.no.regs.length j6,.slice p7 y.fin.no.args.length j7,.slice p3 y.fin.args.length j3] 52)) wx→Calls Tryz.prog 91 #[.agg #[.int .i64 y.fin.no.block,.slice p6 y.fin.no.regs.length j6,.slice p7 y.fin.no.args.length j7]] wx fun e w'=>e=.returned (.string (str y.fin.no.txt))∧Below wx.heap.size wx w'):=fun wx hb=>toTextR_any _ _ wx (Lay.below (Lay.below hy2' bb1) hb) (P2.out.below ((W4.out.trans (bb1.mono W4.out.size)).trans (hb.mono (Nat.le_trans W4.out.size bb1.size)))) sy.2.2.1.2.1;have C5:Hid (∀ wx,Below (wr.alloc (.cells #[.int .i64 y.regs,.slice p1 y.params.length j1,.slice p2 y.code.length j2,.int .i64 y.fin.op,.int .i64 y.fin.a,.int .i64 y.fin.yes.block,.slice p4 y.fin.yes.regs.length j4,.slice p5 y.fin.yes.args.length j5,.int .i64 y.fin.no.block,.slice p6 y.fin.no.regs.length j6,.slice p7 y.fin.no.args.length j7,.slice p3 y.fin.args.length j3] 52)).heap.size (wr.alloc (.cells #[.int .i64 y.regs,.slice p1 y.params.length j1,.slice p2 y.code.length j2,.int .i64 y.fin.op,.int .i64 y.fin.a,.int .i64 y.fin.yes.block,.slice p4 y.fin.yes.regs.length j4,.slice p5 y.fin.yes.args.length j5,.int .i64 y.fin.no.block,.slice p6 y.fin.no.regs.length j6,.slice p7 y.fin.no.args.length j7,.slice p3 y.fin.args.length j3] 52)) wx→Calls Tryz.prog 92 #[.string ⟨#[40]⟩,.slice p3 y.fin.args.length j3,.string ⟨#[41]⟩] wx fun e w'=>e=.returned (.string (str (intsT 40 41 y.fin.args)))∧Below wx.heap.size wx w'):=fun wx hb=>intsText_any 40 41 _ _ _ wx (Lay.below (Lay.below v3 bb1) hb) (P2.out.below ((W4.out.trans (bb1.mono W4.out.size)).trans (hb.mono (Nat.le_trans W4.out.size bb1.size)))) sy.2.2.1.2.2;have V2:Hid (insL.list.In (wr.alloc (.cells #[.int .i64 y.regs,.slice p1 y.params.length j1,.slice p2 y.code.length j2,.int .i64 y.fin.op,.int .i64 y.fin.a,.int .i64 y.fin.yes.block,.slice p4 y.fin.yes.regs.length j4,.slice p5 y.fin.yes.args.length j5,.int .i64 y.fin.no.block,.slice p6 y.fin.no.regs.length j6,.slice p7 y.fin.no.args.length j7,.slice p3 y.fin.args.length j3] 52)) All y.code [.slice p2 y.code.length j2]):=Lay.below v2 bb1;have FC:Hid (∀ z∈y.code,(fieldsOf z.op).isNone=false):=fun z hz=>(form_zero (fy.code z hz)).1;have GC:Hid (∀ z∈y.code,z.small):=sy.2.2.2;have P3:Hid (Pows (wr.alloc (.cells #[.int .i64 y.regs,.slice p1 y.params.length j1,.slice p2 y.code.length j2,.int .i64 y.fin.op,.int .i64 y.fin.a,.int .i64 y.fin.yes.block,.slice p4 y.fin.yes.regs.length j4,.slice p5 y.fin.yes.args.length j5,.int .i64 y.fin.no.block,.slice p6 y.fin.no.regs.length j6,.slice p7 y.fin.no.args.length j7,.slice p3 y.fin.args.length j3] 52))):=P2.out.below (W4.out.trans (bb1.mono W4.out.size));have W6:Hid (Below wt.heap.size wt (wr.alloc (.cells #[.int .i64 y.regs,.slice p1 y.params.length j1,.slice p2 y.code.length j2,.int .i64 y.fin.op,.int .i64 y.fin.a,.int .i64 y.fin.yes.block,.slice p4 y.fin.yes.regs.length j4,.slice p5 y.fin.yes.args.length j5,.int .i64 y.fin.no.block,.slice p6 y.fin.no.regs.length j6,.slice p7 y.fin.no.args.length j7,.slice p3 y.fin.args.length j3] 52))):=W5.out.trans (bb1.mono W5.out.size);have lb4:(codeT y.code).length≤5000000:=code_len v2 sy.2.2.2 (Nat.le_of_not_lt fun h=>gy (.inl h));have gl3:y.code.length≤200:=Nat.le_of_not_lt fun h=>gy (.inl h);have lb5:=Lib.itoa_length_le _ i6.1 i6.2;have lb6:=to_len hy1' sy.2.2.1.1;have lb7:=to_len hy2' sy.2.2.1.2.1;have lb8:=ints_len 40 41 v3 sy.2.2.1.2.2;have hU:Hid (y.txt=[98,108,111,99,107,32]++Lib.itoa y.regs++[32]++typsT y.params++[32,123,10]++codeT y.code++lineT y.fin.txt++[125,10]):=by show _=_;simp [MBlock.txt,MBlock.head,nT,wBlock]
        have E1:Hid (y.fin.op=1→lineT y.fin.txt=[9,106,117,109,112,32]++y.fin.yes.txt++[59,10]):=fun h=>by simp [MEnd.txt,lineT,h,wJump]
        have E2:Hid (y.fin.op=2→lineT y.fin.txt=[9,105,102,32]++Lib.itoa y.fin.a++[32,116,111,32]++y.fin.yes.txt++[32,101,108,115,101,32]++y.fin.no.txt++[59,10]):=fun h=>by simp [MEnd.txt,lineT,h,wIf,wTo,wElse,nT]
        have E3:Hid (y.fin.op=3→lineT y.fin.txt=[9,114,101,116,32]++intsT 40 41 y.fin.args++[59,10]):=fun h=>by simp [MEnd.txt,lineT,h,wRet]
        have X3:Hid (Blk (wr.alloc (.cells #[.int .i64 y.regs,.slice p1 y.params.length j1,.slice p2 y.code.length j2,.int .i64 y.fin.op,.int .i64 y.fin.a,.int .i64 y.fin.yes.block,.slice p4 y.fin.yes.regs.length j4,.slice p5 y.fin.yes.args.length j5,.int .i64 y.fin.no.block,.slice p6 y.fin.no.regs.length j6,.slice p7 y.fin.no.args.length j7,.slice p3 y.fin.args.length j3] 52)) wr.heap.size #[.int .i64 y.regs,.slice p1 y.params.length j1,.slice p2 y.code.length j2,.int .i64 y.fin.op,.int .i64 y.fin.a,.int .i64 y.fin.yes.block,.slice p4 y.fin.yes.regs.length j4,.slice p5 y.fin.yes.args.length j5,.int .i64 y.fin.no.block,.slice p6 y.fin.no.regs.length j6,.slice p7 y.fin.no.args.length j7,.slice p3 y.fin.args.length j3] 52):=Blk.new _ _ _;clear hc hdt hy hmem v1 v2 v3 hy1' hy2' i4 i5 i6 gy fy sy nb hnb hfin op bb1 lb0;go_upto_region 11 with fail
        clear d0 d1 d2 d3 d4 d5 d6 d7 d8 d9 d10 d11 hh e3;generalize wr.alloc (.cells #[.int .i64 y.regs,.slice p1 y.params.length j1,.slice p2 y.code.length j2,.int .i64 y.fin.op,.int .i64 y.fin.a,.int .i64 y.fin.yes.block,.slice p4 y.fin.yes.regs.length j4,.slice p5 y.fin.yes.args.length j5,.int .i64 y.fin.no.block,.slice p6 y.fin.no.regs.length j6,.slice p7 y.fin.no.args.length j7,.slice p3 y.fin.args.length j3] 52)=w4 at X3 V2 P3 W6 C0 C1 C2 C3 C4 C5 ⊢;generalize hHb:wr.heap.size=Hb at X3 ⊢;clear hHb;generalize hs0:y37++blocksT (xs.take b)=s1 at lb3 ⊢;have hs1:Hid (y37++blocksT (xs.take b)=s1):=hs0;clear hs0;generalize Lib.itoa y.regs=z0 at C0 lb1 hU;generalize typsT y.params=z1 at C1 lb2 hU;generalize Lib.itoa y.fin.a=z2 at C2 lb5 E2;generalize y.fin.yes.txt=z3 at C3 lb6 E1 E2;generalize y.fin.no.txt=z4 at C4 lb7 E2;generalize intsT 40 41 y.fin.args=z5 at C5 lb8 E3;generalize lineT y.fin.txt=zl at hU E1 E2 E3;generalize y.code=ys at V2 X3 lb4 FC GC hU gl3 ⊢;generalize y.fin.op=jo at O X3 E1 E2 E3 ⊢;generalize y.fin.a=ja at C2 X3 ⊢;generalize y.regs=jr at C0 X3 ⊢;generalize y.params.length=n4 at C1 X3 ⊢;generalize y.fin.yes.block=q1 at C3 X3 ⊢;generalize y.fin.yes.regs.length=n6 at C3 X3 ⊢;generalize y.fin.yes.args.length=n7 at C3 X3 ⊢;generalize y.fin.no.block=q2 at C4 X3 ⊢;generalize y.fin.no.regs.length=n8 at C4 X3 ⊢;generalize y.fin.no.args.length=n9 at C4 X3 ⊢;generalize y.fin.args.length=n10 at C5 X3 ⊢;obtain ⟨y54,Ey54,ly54⟩:=cat_letter [98,108,111,99,107,32] z0;replace ly54:y54.length=6+z0.length:=ly54;obtain ⟨y55,Ey55,ly55⟩:=cat_letter y54 [32];replace ly55:y55.length=y54.length+1:=ly55;obtain ⟨y59,Ey59,ly59⟩:=cat_letter y55 z1;replace ly59:y59.length=y55.length+z1.length:=ly59;obtain ⟨y60,Ey60,ly60⟩:=cat_letter y59 [32,123,10];replace ly60:y60.length=y59.length+3:=ly60;obtain ⟨y61,Ey61,ly61⟩:=cat_letter s1 y60;replace ly61:y61.length=s1.length+y60.length:=ly61;have T2:Hid (str (y37++blocksT (xs.take (b+1)))=str (y61++codeT ys++zl++[125,10])):=by show _=_;rw [SB.out,← List.append_assoc,hs1.out,hU.out,Ey54.out,Ey55.out,Ey59.out,Ey60.out,← Ey61.out];simp
        refine wp_region_calm_tail 12 (PTab.E ([(3,fun v _=>v=.string (str s1)),(7,fun v _=>v=.pointer (some ⟨Hb,0,none⟩)),(50,fun v _=>v=.string (str s1)),(51,fun v _=>v=.pointer (some ⟨Hb,0,none⟩)),(52,fun v _=>v=.int .i64 jr),(53,fun v _=>v=.string (str z0)),(54,fun v _=>v=.string (str y54)),(55,fun v _=>v=.string (str y55)),(56,fun v _=>v=.pointer (some ⟨Hb,1,none⟩)),(57,fun v _=>v=.slice p1 n4 j1),(58,fun v _=>v=.string (str z1)),(59,fun v _=>v=.string (str y59)),(60,fun v _=>v=.string (str y60)),(61,fun v _=>v=.string (str y61))]:PTab)) (fun wx=>Below w4.heap.size w4 wx) (fun w w'=>Below w.heap.size w w') (outs:=[3,7]) (gs:=[]) (bs:=[true,true,true,true,true,true,true,true,true,true,true,true]) (by kernel_rfl) (n:=124) rfl (Nat.le_refl _) (by kernel_rfl) (by kernel_rfl) (PTab_stable _ ⟨fun _ _ _ _ h=>h,fun _ _ _ _ h=>h,fun _ _ _ _ h=>h,fun _ _ _ _ h=>h,fun _ _ _ _ h=>h,fun _ _ _ _ h=>h,fun _ _ _ _ h=>h,fun _ _ _ _ h=>h,fun _ _ _ _ h=>h,fun _ _ _ _ h=>h,fun _ _ _ _ h=>h,fun _ _ _ _ h=>h,fun _ _ _ _ h=>h,fun _ _ _ _ h=>h,trivial⟩) ?hG (drewN_below (m:=1) (Below.refl _ _)) ⟨rfl,rfl,trivial⟩ ?hA ?hend
        case hG=>exact trivial
        case hA =>
          show AllOk _ _ _ _ [_,_,_,_,_,_,_,_,_,_,_,_] _;refine ⟨fun ac wc hW hk K hK=>?_,?_⟩
          · obtain ⟨q0,-⟩:=hk;have q0:ac.tmps.getD 3 undef=.string (str s1):=q0;go_simp;exact hK _ _ (Below.refl _ _) hW rfl
          refine ⟨fun ac wc hW hk K hK=>?_,?_⟩
          · obtain ⟨q0,-⟩:=hk;have q0:ac.tmps.getD 7 undef=.pointer (some ⟨Hb,0,none⟩):=q0;go_simp;exact hK _ _ (Below.refl _ _) hW rfl
          refine ⟨fun ac wc hW hk K hK=>?_,?_⟩
          · obtain ⟨q0,-⟩:=hk;have q0:ac.tmps.getD 51 undef=.pointer (some ⟨Hb,0,none⟩):=q0;have e0:=cellOf (blk_on X3.out hW) 0 _ rfl;go_simp;exact hK _ _ (Below.refl _ _) hW rfl
          refine ⟨fun ac wc hW hk K hK=>?_,?_⟩
          · obtain ⟨q0,-⟩:=hk;have q0:ac.tmps.getD 52 undef=.int .i64 jr:=q0;go_simp;refine (C0.out wc hW).mono ?_;rintro r7 w7 ⟨rfl,b7⟩;go_simp;exact hK _ _ b7 (hW.trans (b7.mono hW.size)) rfl
          refine ⟨fun ac wc hW hk K hK=>?_,?_⟩
          · obtain ⟨q0,-⟩:=hk;have q0:ac.tmps.getD 53 undef=.string (str z0):=q0;have n0:¬ 9223372036854775807<6+(str z0).size:=by simp only [str_size];omega
            go_simp;exact hK _ _ (Below.refl _ _) hW (by rw [← Ey54.out];exact str_add [98,108,111,99,107,32] z0)
          refine ⟨fun ac wc hW hk K hK=>?_,?_⟩
          · obtain ⟨q0,-⟩:=hk;have q0:ac.tmps.getD 54 undef=.string (str y54):=q0;have n0:¬ 9223372036854775807<(str y54).size+1:=by simp only [str_size];omega
            go_simp;exact hK _ _ (Below.refl _ _) hW (by rw [← Ey55.out];exact str_add y54 [32])
          refine ⟨fun ac wc hW hk K hK=>?_,?_⟩
          · obtain ⟨q0,-⟩:=hk;have q0:ac.tmps.getD 7 undef=.pointer (some ⟨Hb,0,none⟩):=q0;go_simp;exact hK _ _ (Below.refl _ _) hW rfl
          refine ⟨fun ac wc hW hk K hK=>?_,?_⟩
          · obtain ⟨q0,-⟩:=hk;have q0:ac.tmps.getD 56 undef=.pointer (some ⟨Hb,1,none⟩):=q0;have e0:=cellOf (blk_on X3.out hW) 1 _ rfl;go_simp;exact hK _ _ (Below.refl _ _) hW rfl
          refine ⟨fun ac wc hW hk K hK=>?_,?_⟩
          · obtain ⟨q0,-⟩:=hk;have q0:ac.tmps.getD 57 undef=.slice p1 n4 j1:=q0;go_simp;refine (C1.out wc hW).mono ?_;rintro r7 w7 ⟨rfl,b7⟩;go_simp;exact hK _ _ b7 (hW.trans (b7.mono hW.size)) rfl
          refine ⟨fun ac wc hW hk K hK=>?_,?_⟩
          · obtain ⟨q0,q1,-⟩:=hk;have q0:ac.tmps.getD 55 undef=.string (str y55):=q0;have q1:ac.tmps.getD 58 undef=.string (str z1):=q1;have n0:¬ 9223372036854775807<(str y55).size+(str z1).size:=by simp only [str_size];omega
            go_simp;exact hK _ _ (Below.refl _ _) hW (by rw [← Ey59.out];exact str_add y55 z1)
          refine ⟨fun ac wc hW hk K hK=>?_,?_⟩
          · obtain ⟨q0,-⟩:=hk;have q0:ac.tmps.getD 59 undef=.string (str y59):=q0;have n0:¬ 9223372036854775807<(str y59).size+3:=by simp only [str_size];omega
            go_simp;exact hK _ _ (Below.refl _ _) hW (by rw [← Ey60.out];exact str_add y59 [32,123,10])
          refine ⟨fun ac wc hW hk K hK=>?_,?_⟩
          · obtain ⟨q0,q1,-⟩:=hk;have q0:ac.tmps.getD 50 undef=.string (str s1):=q0;have q1:ac.tmps.getD 60 undef=.string (str y60):=q1;have n0:¬ 9223372036854775807<(str s1).size+(str y60).size:=by simp only [str_size];omega
            go_simp;exact hK _ _ (Below.refl _ _) hW (by rw [← Ey61.out];exact str_add s1 y60)
          trivial
        case hend =>
          intro ops vs wu hW hk;have hv0:vs 61=.string (str y61):=hk 61 (by kernel_rfl);show wpList _ ops _ [_] (puts _ vs [50,51,52,53,54,55,56,57,58,59,60,61]) wu;simp only [puts,Act.put,List.setIfInBounds_toArray,List.set_cons_zero,List.set_cons_succ,hv0];clear hk hv0;have W7:Hid (Below w4.heap.size w4 wu):=hW;clear hW C0 C1;have ly:y61.length≤30100000000:=by omega
          clear ly54 ly55 ly59 ly60 ly61 Ey54 Ey55 Ey59 Ey60 Ey61 lb1 lb2 hU hs1 SB lb3;go_wp2_with fail
          go_loopw [3,8] (fun v i wq=>∃ j:Nat,j≤ys.length∧i=.int .i64 j∧v=.string (str (y61++codeT (ys.take j)))∧Below wu.heap.size wu wq) (fun _ i _=>ys.length - (intOf i).toNat)
          case atStart=>exact ⟨0,Nat.zero_le _,rfl,by simp [codeT],Below.refl _ _⟩
          case round =>
            obtain ⟨j,hj,rfl,rfl,hbl⟩:=hrel;have W8:Hid (Below w4.heap.size w4 wr):=W7.out.trans (hbl.mono W7.out.size);have W9:Hid (Below wu.heap.size wu wr):=hbl;clear hbl
            have lc0:(y61++codeT (ys.take j)).length≤31000000000:=by
              have:=flat_le (fun x:MIns=>lineT x.txt) ys j
              rw [List.length_append];unfold codeT at lb4 ⊢;omega
            by_cases hlj:j<ys.length
            · have hz:ys[j]?=some ys[j]:=List.getElem?_eq_getElem hlj;obtain ⟨h,o3,du,rfl,_,hh,hc,hdu⟩:=Lay.list_at (Lay.below V2.out W8.out) hz;generalize ys[j]=z at hz hdu;have hdu':=hdu;obtain ⟨pa,ja1,pb,jb1,rfl,-,-,-⟩:=ins_form hdu';clear hdu';have d0:=hc 0 (show 0<8 by omega);have d1:=hc 1 (show 1<8 by omega);have d2:=hc 2 (show 2<8 by omega);have d3:=hc 3 (show 3<8 by omega);have d4:=hc 4 (show 4<8 by omega);have d5:=hc 5 (show 5<8 by omega);have d6:=hc 6 (show 6<8 by omega);have d7:=hc 7 (show 7<8 by omega);rw [show insL.size=8 from rfl] at d0 d1 d2 d3 d4 d5 d6 d7;simp only [List.getElem?_cons_zero,List.getElem?_cons_succ,Nat.add_zero] at d0 d1 d2 d3 d4 d5 d6 d7;have e2:=cellOf (blk_on X3.out W8.out) 2 _ rfl;have hk4:(0:Int)≤j:=by omega
              have hk5:(j:Int)<ys.length:=by omega
              have hmem:=List.mem_of_getElem? hz;have CI:Hid (Calls Tryz.prog 90 _ wr fun e w'=>e=.returned (.string (str z.txt))∧Below wr.heap.size wr w'):=insTextR_any z _ wr hdu (P3.out.below W8.out) (GC.out z hmem) (FC.out z hmem);have lc1:=ins_len hdu (GC.out z hmem);have SC:Hid (str (y61++codeT (ys.take (j+1)))=str (y61++codeT (ys.take j))++(str [9]++str z.txt++str [59,10])):=str3 (by rw [code_take hz,lineT];simp);generalize y61++codeT (ys.take j)=s2 at lc0 SC ⊢;clear hc hdu hz hmem;generalize z.txt=zt at CI lc1 SC;have f1:¬ 9223372036854775807<1+(str zt).size:=by rw [str_size];omega
              have f2:¬ 9223372036854775807<1+(str zt).size+2:=by rw [str_size];omega
              have f3:¬ 9223372036854775807<(str s2).size+(1+(str zt).size+2):=by rw [str_size,str_size];omega
              go_wp2_with fail
              refine CI.out.mono ?_;rintro e wv ⟨rfl,bv⟩;have W10:Hid (Below wu.heap.size wu wv):=W9.out.trans (bv.mono W9.out.size);clear bv CI d0 d1 d2 d3 d4 d5 d6 d7 hh e2;go_wp2
              go_roundw
              case rel=>exact ⟨j+1,by omega,by go_num,by rw [SC.out];rfl,W10.out⟩
              case measure=>simp [intOf];omega
            · have hk4:¬ (j:Int)<ys.length:=by omega
              have e2:=cellOf (blk_on X3.out W8.out) 2 _ rfl;have g3:=cellOf (blk_on X3.out W8.out) 3 _ rfl;have E:Hid (ys.take j=ys):=List.take_of_length_le (by omega);have T3:Hid (str (y37++blocksT (xs.take (b+1)))=str (y61++codeT (ys.take j)++zl++[125,10])):=by show _=_;rw [T2.out,E.out]
              have Wz:Hid (Below wt.heap.size wt wr):=W6.out.trans (W8.out.mono W6.out.size);generalize y61++codeT (ys.take j)=s2 at lc0 T3 ⊢;clear E T2;rcases O.out with h1 | h1 | h1
              · have TT:Hid (str (y37++blocksT (xs.take (b+1)))=str s2++(str [9,106,117,109,112,32]++str z3)++str [59,10,125,10]):=T3.out.trans (str4 (by rw [E1.out h1];simp));obtain rfl:=h1;have g5:=cellOf (blk_on X3.out W8.out) 5 _ rfl;have g6:=cellOf (blk_on X3.out W8.out) 6 _ rfl;have g7:=cellOf (blk_on X3.out W8.out) 7 _ rfl;have f1:¬ 9223372036854775807<6+(str z3).size:=by rw [str_size];omega
                have f2:¬ 9223372036854775807<(str s2).size+(6+(str z3).size):=by rw [str_size,str_size];omega
                have f3:¬ 9223372036854775807<(str s2).size+(6+(str z3).size)+4:=by rw [str_size,str_size];omega
                clear T3 E1 E2 E3 O;go_wp2_with fail
                refine (C3.out _ W8.out).mono ?_;rintro e wv ⟨rfl,bv⟩;have Wy:Hid (Below wt.heap.size wt wv):=Wz.out.trans (bv.mono Wz.out.size);clear bv C2 C3 C4 C5 e2 g3 g5 g6 g7;go_wp2
                go_roundw
                case rel=>exact ⟨b+1,by omega,by go_num,by rw [TT.out];rfl,Wy.out⟩
                case measure=>simp [intOf];omega
              · obtain ⟨y105,Ey105,ly105⟩:=cat_letter [9,105,102,32] z2;replace ly105:y105.length=4+z2.length:=ly105;obtain ⟨y106,Ey106,ly106⟩:=cat_letter y105 [32,116,111,32];replace ly106:y106.length=y105.length+4:=ly106;obtain ⟨y111,Ey111,ly111⟩:=cat_letter y106 z3;replace ly111:y111.length=y106.length+z3.length:=ly111;obtain ⟨y112,Ey112,ly112⟩:=cat_letter y111 [32,101,108,115,101,32];replace ly112:y112.length=y111.length+6:=ly112;obtain ⟨y117,Ey117,ly117⟩:=cat_letter y112 z4;replace ly117:y117.length=y112.length+z4.length:=ly117;obtain ⟨y118,Ey118,ly118⟩:=cat_letter s2 y117;replace ly118:y118.length=s2.length+y117.length:=ly118;have TT:Hid (str (y37++blocksT (xs.take (b+1)))=str y118++str [59,10,125,10]):=T3.out.trans (str2 (by rw [E2.out h1,Ey105.out,Ey106.out,Ey111.out,Ey112.out,Ey117.out,← Ey118.out];simp));obtain rfl:=h1;clear T3 E1 E2 E3 O;go_upto_region 21 with fail
                clear e2 g3;refine wp_region_calm_tail 19 (PTab.E ([(3,fun v _=>v=.string (str s2)),(7,fun v _=>v=.pointer (some ⟨Hb,0,none⟩)),(100,fun v _=>v=.string (str s2)),(101,fun v _=>v=.pointer (some ⟨Hb,3,none⟩)),(102,fun v _=>v=.pointer (some ⟨Hb,4,none⟩)),(103,fun v _=>v=.int .i64 ja),(104,fun v _=>v=.string (str z2)),(105,fun v _=>v=.string (str y105)),(106,fun v _=>v=.string (str y106)),(107,fun v _=>v=.pointer (some ⟨Hb,3,none⟩)),(108,fun v _=>v=.pointer (some ⟨Hb,5,none⟩)),(109,fun v _=>v=.agg #[.int .i64 q1,.slice p4 n6 j4,.slice p5 n7 j5]),(110,fun v _=>v=.string (str z3)),(111,fun v _=>v=.string (str y111)),(112,fun v _=>v=.string (str y112)),(113,fun v _=>v=.pointer (some ⟨Hb,3,none⟩)),(114,fun v _=>v=.pointer (some ⟨Hb,8,none⟩)),(115,fun v _=>v=.agg #[.int .i64 q2,.slice p6 n8 j6,.slice p7 n9 j7]),(116,fun v _=>v=.string (str z4)),(117,fun v _=>v=.string (str y117)),(118,fun v _=>v=.string (str y118))]:PTab)) (fun wx=>Below wr.heap.size wr wx) (fun w w'=>Below w.heap.size w w') (outs:=[3,7]) (gs:=[]) (bs:=[true,true,true,true,true,true,true,true,true,true,true,true,true,true,true,true,true,true,true]) (by kernel_rfl) (n:=124) rfl (Nat.le_refl _) (by kernel_rfl) (by kernel_rfl) (PTab_stable _ ⟨fun _ _ _ _ h=>h,fun _ _ _ _ h=>h,fun _ _ _ _ h=>h,fun _ _ _ _ h=>h,fun _ _ _ _ h=>h,fun _ _ _ _ h=>h,fun _ _ _ _ h=>h,fun _ _ _ _ h=>h,fun _ _ _ _ h=>h,fun _ _ _ _ h=>h,fun _ _ _ _ h=>h,fun _ _ _ _ h=>h,fun _ _ _ _ h=>h,fun _ _ _ _ h=>h,fun _ _ _ _ h=>h,fun _ _ _ _ h=>h,fun _ _ _ _ h=>h,fun _ _ _ _ h=>h,fun _ _ _ _ h=>h,fun _ _ _ _ h=>h,fun _ _ _ _ h=>h,trivial⟩) ?hG (drewN_below (m:=1) (Below.refl _ _)) ⟨rfl,rfl,trivial⟩ ?hA ?hend
                case hG=>exact trivial
                case hA =>
                  show AllOk _ _ _ _ [_,_,_,_,_,_,_,_,_,_,_,_,_,_,_,_,_,_,_] _;refine ⟨fun ac wc hW hk K hK=>?_,?_⟩
                  · obtain ⟨q0,-⟩:=hk;have q0:ac.tmps.getD 3 undef=.string (str s2):=q0;go_simp;exact hK _ _ (Below.refl _ _) hW rfl
                  refine ⟨fun ac wc hW hk K hK=>?_,?_⟩
                  · obtain ⟨q0,-⟩:=hk;have q0:ac.tmps.getD 7 undef=.pointer (some ⟨Hb,0,none⟩):=q0;go_simp;exact hK _ _ (Below.refl _ _) hW rfl
                  refine ⟨fun ac wc hW hk K hK=>?_,?_⟩
                  · obtain ⟨q0,-⟩:=hk;have q0:ac.tmps.getD 101 undef=.pointer (some ⟨Hb,3,none⟩):=q0;go_simp;exact hK _ _ (Below.refl _ _) hW rfl
                  refine ⟨fun ac wc hW hk K hK=>?_,?_⟩
                  · obtain ⟨q0,-⟩:=hk;have q0:ac.tmps.getD 102 undef=.pointer (some ⟨Hb,4,none⟩):=q0;have e4:=cellOf (blk_on X3.out (W8.out.trans (hW.mono W8.out.size))) 4 _ rfl;go_simp;exact hK _ _ (Below.refl _ _) hW rfl
                  refine ⟨fun ac wc hW hk K hK=>?_,?_⟩
                  · obtain ⟨q0,-⟩:=hk;have q0:ac.tmps.getD 103 undef=.int .i64 ja:=q0;go_simp;refine (C2.out wc (W8.out.trans (hW.mono W8.out.size))).mono ?_;rintro r7 w7 ⟨rfl,b7⟩;go_simp;exact hK _ _ b7 (hW.trans (b7.mono hW.size)) rfl
                  refine ⟨fun ac wc hW hk K hK=>?_,?_⟩
                  · obtain ⟨q0,-⟩:=hk;have q0:ac.tmps.getD 104 undef=.string (str z2):=q0;have n0:¬ 9223372036854775807<4+(str z2).size:=by simp only [str_size];omega
                    go_simp;exact hK _ _ (Below.refl _ _) hW (by rw [← Ey105.out];exact str_add [9,105,102,32] z2)
                  refine ⟨fun ac wc hW hk K hK=>?_,?_⟩
                  · obtain ⟨q0,-⟩:=hk;have q0:ac.tmps.getD 105 undef=.string (str y105):=q0;have n0:¬ 9223372036854775807<(str y105).size+4:=by simp only [str_size];omega
                    go_simp;exact hK _ _ (Below.refl _ _) hW (by rw [← Ey106.out];exact str_add y105 [32,116,111,32])
                  refine ⟨fun ac wc hW hk K hK=>?_,?_⟩
                  · obtain ⟨q0,-⟩:=hk;have q0:ac.tmps.getD 7 undef=.pointer (some ⟨Hb,0,none⟩):=q0;go_simp;exact hK _ _ (Below.refl _ _) hW rfl
                  refine ⟨fun ac wc hW hk K hK=>?_,?_⟩
                  · obtain ⟨q0,-⟩:=hk;have q0:ac.tmps.getD 107 undef=.pointer (some ⟨Hb,3,none⟩):=q0;go_simp;exact hK _ _ (Below.refl _ _) hW rfl
                  refine ⟨fun ac wc hW hk K hK=>?_,?_⟩
                  · obtain ⟨q0,-⟩:=hk;have q0:ac.tmps.getD 108 undef=.pointer (some ⟨Hb,5,none⟩):=q0;have e5:=cellOf (blk_on X3.out (W8.out.trans (hW.mono W8.out.size))) 5 _ rfl;have e6:=cellOf (blk_on X3.out (W8.out.trans (hW.mono W8.out.size))) 6 _ rfl;have e7:=cellOf (blk_on X3.out (W8.out.trans (hW.mono W8.out.size))) 7 _ rfl;go_simp;exact hK _ _ (Below.refl _ _) hW rfl
                  refine ⟨fun ac wc hW hk K hK=>?_,?_⟩
                  · obtain ⟨q0,-⟩:=hk;have q0:ac.tmps.getD 109 undef=.agg #[.int .i64 q1,.slice p4 n6 j4,.slice p5 n7 j5]:=q0;go_simp;refine (C3.out wc (W8.out.trans (hW.mono W8.out.size))).mono ?_;rintro r7 w7 ⟨rfl,b7⟩;go_simp;exact hK _ _ b7 (hW.trans (b7.mono hW.size)) rfl
                  refine ⟨fun ac wc hW hk K hK=>?_,?_⟩
                  · obtain ⟨q0,q1,-⟩:=hk;have q0:ac.tmps.getD 106 undef=.string (str y106):=q0;have q1:ac.tmps.getD 110 undef=.string (str z3):=q1;have n0:¬ 9223372036854775807<(str y106).size+(str z3).size:=by simp only [str_size];omega
                    go_simp;exact hK _ _ (Below.refl _ _) hW (by rw [← Ey111.out];exact str_add y106 z3)
                  refine ⟨fun ac wc hW hk K hK=>?_,?_⟩
                  · obtain ⟨q0,-⟩:=hk;have q0:ac.tmps.getD 111 undef=.string (str y111):=q0;have n0:¬ 9223372036854775807<(str y111).size+6:=by simp only [str_size];omega
                    go_simp;exact hK _ _ (Below.refl _ _) hW (by rw [← Ey112.out];exact str_add y111 [32,101,108,115,101,32])
                  refine ⟨fun ac wc hW hk K hK=>?_,?_⟩
                  · obtain ⟨q0,-⟩:=hk;have q0:ac.tmps.getD 7 undef=.pointer (some ⟨Hb,0,none⟩):=q0;go_simp;exact hK _ _ (Below.refl _ _) hW rfl
                  refine ⟨fun ac wc hW hk K hK=>?_,?_⟩
                  · obtain ⟨q0,-⟩:=hk;have q0:ac.tmps.getD 113 undef=.pointer (some ⟨Hb,3,none⟩):=q0;go_simp;exact hK _ _ (Below.refl _ _) hW rfl
                  refine ⟨fun ac wc hW hk K hK=>?_,?_⟩
                  · obtain ⟨q0,-⟩:=hk;have q0:ac.tmps.getD 114 undef=.pointer (some ⟨Hb,8,none⟩):=q0;have e8:=cellOf (blk_on X3.out (W8.out.trans (hW.mono W8.out.size))) 8 _ rfl;have e9:=cellOf (blk_on X3.out (W8.out.trans (hW.mono W8.out.size))) 9 _ rfl;have e10:=cellOf (blk_on X3.out (W8.out.trans (hW.mono W8.out.size))) 10 _ rfl;go_simp;exact hK _ _ (Below.refl _ _) hW rfl
                  refine ⟨fun ac wc hW hk K hK=>?_,?_⟩
                  · obtain ⟨q0,-⟩:=hk;have q0:ac.tmps.getD 115 undef=.agg #[.int .i64 q2,.slice p6 n8 j6,.slice p7 n9 j7]:=q0;go_simp;refine (C4.out wc (W8.out.trans (hW.mono W8.out.size))).mono ?_;rintro r7 w7 ⟨rfl,b7⟩;go_simp;exact hK _ _ b7 (hW.trans (b7.mono hW.size)) rfl
                  refine ⟨fun ac wc hW hk K hK=>?_,?_⟩
                  · obtain ⟨q0,q1,-⟩:=hk;have q0:ac.tmps.getD 112 undef=.string (str y112):=q0;have q1:ac.tmps.getD 116 undef=.string (str z4):=q1;have n0:¬ 9223372036854775807<(str y112).size+(str z4).size:=by simp only [str_size];omega
                    go_simp;exact hK _ _ (Below.refl _ _) hW (by rw [← Ey117.out];exact str_add y112 z4)
                  refine ⟨fun ac wc hW hk K hK=>?_,?_⟩
                  · obtain ⟨q0,q1,-⟩:=hk;have q0:ac.tmps.getD 100 undef=.string (str s2):=q0;have q1:ac.tmps.getD 117 undef=.string (str y117):=q1;have n0:¬ 9223372036854775807<(str s2).size+(str y117).size:=by simp only [str_size];omega
                    go_simp;exact hK _ _ (Below.refl _ _) hW (by rw [← Ey118.out];exact str_add s2 y117)
                  trivial
                case hend =>
                  intro ops vs wv hW hk;have hv0:vs 118=.string (str y118):=hk 118 (by kernel_rfl);show wpList _ ops _ [_] (puts _ vs [100,101,102,103,104,105,106,107,108,109,110,111,112,113,114,115,116,117,118]) wv;simp only [puts,Act.put,List.setIfInBounds_toArray,List.set_cons_zero,List.set_cons_succ,hv0];clear hk hv0;have f1:¬ 9223372036854775807<(str y118).size+4:=by rw [str_size];omega
                  have Wy:Hid (Below wt.heap.size wt wv):=Wz.out.trans (hW.mono Wz.out.size);clear hW C2 C3 C4 C5;go_wp2
                  go_roundw
                  case rel=>exact ⟨b+1,by omega,by go_num,by rw [TT.out];rfl,Wy.out⟩
                  case measure=>simp [intOf];omega
              · have TT:Hid (str (y37++blocksT (xs.take (b+1)))=str s2++(str [9,114,101,116,32]++str z5)++str [59,10,125,10]):=T3.out.trans (str4 (by rw [E3.out h1];simp));obtain rfl:=h1;have g11:=cellOf (blk_on X3.out W8.out) 11 _ rfl;have f1:¬ 9223372036854775807<5+(str z5).size:=by rw [str_size];omega
                have f2:¬ 9223372036854775807<(str s2).size+(5+(str z5).size):=by rw [str_size,str_size];omega
                have f3:¬ 9223372036854775807<(str s2).size+(5+(str z5).size)+4:=by rw [str_size,str_size];omega
                clear T3 E1 E2 E3 O;go_wp2_with fail
                refine (C5.out _ W8.out).mono ?_;rintro e wv ⟨rfl,bv⟩;have Wy:Hid (Below wt.heap.size wt wv):=Wz.out.trans (bv.mono Wz.out.size);clear bv C2 C3 C4 C5 e2 g3 g11;go_wp2
                go_roundw
                case rel=>exact ⟨b+1,by omega,by go_num,by rw [TT.out];rfl,Wy.out⟩
                case measure=>simp [intOf];omega
end Go.Proofs.YtalfbnllodhkiacGreatDoor
namespace Go.Proofs.YtalfbnllodhkiacGreatDoor
open Go.ChangeShapes Go.WideShapes Go.ChangeAt Go.RowKit
set_option linter.unusedSimpArgs false
set_option linter.unusedVariables false
theorem rdFieldsSome {op : Int} {fa fb fc fk fn fr fs : Bool} (hop : fieldsOf op = some (fa, fb, fc, fk, fn, fr, fs)) (w : World) : Rd Tryz.prog 114 #[.int .i64 op] w (.tuple #[.agg #[.bool fa, .bool fb, .bool fc, .bool fk, .bool fn, .bool fr, .bool fs], .bool true]) := by
  have:=fieldsOf_any op w
  rwa [show fieldsV op=.tuple #[.agg #[.bool fa,.bool fb,.bool fc,.bool fk,.bool fn,.bool fr,.bool fs],.bool true] from by unfold fieldsV;rw [hop]] at this
theorem rdFieldsNo {op : Int} (hop : fieldsOf op = none) (w : World) : Rd Tryz.prog 114 #[.int .i64 op] w (.tuple #[.agg #[.bool false, .bool false, .bool false, .bool false, .bool false, .bool false, .bool false], .bool false]) := by
  have:=fieldsOf_any op w
  rwa [show fieldsV op=.tuple #[.agg #[.bool false,.bool false,.bool false,.bool false,.bool false,.bool false,.bool false],.bool false] from by unfold fieldsV;rw [hop]] at this
theorem insForm_d {lm : Nat} {op a b c k n : Int} {rl al : Nat} {fa fb fc fk fn fr fs d1 d2 d3 d4 d5 d6 d7 : Bool} (e : fieldsOf op = some (fa, fb, fc, fk, fn, fr, fs))
    (h1:d1=(!fa && a != 0)) (h2:d2=(d1 || (!fb && b != 0))) (h3:d3=(d2 || (!fc && c != 0))) (h4:d4=(d3 || (!fk && k != 0))) (h5:d5=(d4 || (!fn && n != 0))) (h6:d6=(d5 || (!fr && decide ((0:Int)<(rl:Int))))) (h7:d7=(d6 || (!fs && decide ((0:Int)<(al:Int))))) :
    insForm lm op a b c k n rl al=if d7 then 4
    else if op=2∧(k<1∨9<k) then 1
    else if op=5∧8<al then 2
    else if (op=6∨op=7)∧(k<0∨7<k) then 1
    else if op=14∧(k<0∨(lm:Int)≤k) then 1
    else if op=14∧(6<rl∨8<al) then 2
    else 0:=by
  subst h1 h2 h3 h4 h5 h6 h7;simp only [insForm,e];have e1:decide ((0:Int)<(rl:Int))=decide (0<rl):=by simp
  have e2:decide ((0:Int)<(al:Int))=decide (0<al):=by simp
  rw [e1,e2]
theorem wrap_add (p q : Nat) (h : p + q < 4611686018427387904) : IntKind.i64.wrap ((p : Int) + (q : Int)) = (p : Int) + (q : Int) := by
  have e1:((p:Int)+(q:Int)) % 2 ^ 64=(p:Int)+(q:Int):=by omega
  simp only [IntKind.wrap,IntKind.signed,IntKind.bits,e1,Bool.true_and];rw [if_neg (by simp only [decide_eq_true_eq];omega)]
theorem toFormF {x : MTo} {pR pA : Option Addr} {cR cA : Nat} {fr : Int} {fp fq fb : Option Addr} {fl fc fm fd bl fe : Nat} {w : World} (hr : x.regs.length < 2305843009213693952) (ha : x.args.length < 2305843009213693952) (hbl : bl < 2305843009213693952) :
    Rd Tryz.prog 115 #[.agg #[.int .i64 fr,.slice fp fl fc,.slice fq fm fd,.slice fb bl fe],.agg #[.int .i64 x.block,.slice pR x.regs.length cR,.slice pA x.args.length cA],.bool false] w (.int .i64 (x.form bl false)):=by
  refine fr_enter (n:=43) Tryz.func115 rfl rfl rfl ?_;intro a hF;have hW:=Wd.start w;replace hF:Fr 43 a [(0,.agg #[.int .i64 fr,.slice fp fl fc,.slice fq fm fd,.slice fb bl fe]),(1,.agg #[.int .i64 x.block,.slice pR x.regs.length cR,.slice pA x.args.length cA]),(2,.bool false)]:=hF;refine wp_seq_k fun K1 hK1=>?_;refine rg hF fun ops=>?_;clear hF a;refine sB hW trivial rfl rfl ?_;clear hW;intro w2 B2 hW2 hN;clear hN;refine sB hW2 trivial rfl rfl ?_;clear hW2;intro w3 B3 hW3 hN;clear hN;refine sa trivial rfl rfl ?_;refine St.nil fun a4 h4=>?_;refine hK1 _ _ ?_;refine wp_seq_k fun K5 hK5=>?_;refine wp_seq_k fun K6 hK6=>?_;refine rg h4 fun ops=>?_;clear h4 a4;refine sm trivial rfl rfl ?_;refine sn trivial rfl rfl ?_;refine St.nil fun a7 h7=>?_;refine hK6 _ _ ?_;refine fr_true (t:=8) h7 rfl ?_;refine wp_seq_k fun K8 hK8=>?_;refine wp_seq_k fun K9 hK9=>?_;refine fr_region ?_;intro ops hops;have hg3:(ops[3]?).bind (fun o:Oper=>o.dst)=some 12:=hops 3;clear hops;refine St.go h7 ?_;clear h7 a7;refine sfTo0 trivial rfl rfl ?_;refine sbInt 0 hW3 trivial rfl rfl rfl rfl ?_;refine sne trivial rfl rfl rfl ?_;refine sm trivial rfl rfl ?_;intro a10 h10;rcases Bool.eq_false_or_eq_true (x.block != 0) with hb | hb
  ·rw [hb] at h10
   have h9:¬ x.block=0:=bne_iff_ne.1 hb;have hc11:¬ x.block=0:=h9;clear h9;clear hb;refine St.go h10 ?_;clear h10 a10;refine so hg3 rfl rfl rfl rfl ?_;refine so hg3 rfl rfl rfl rfl ?_;refine so hg3 rfl rfl rfl rfl ?_;refine so hg3 rfl rfl rfl rfl ?_;refine so hg3 rfl rfl rfl rfl ?_;refine so hg3 rfl rfl rfl rfl ?_;refine so hg3 rfl rfl rfl rfl ?_;refine so hg3 rfl rfl rfl rfl ?_;refine sp trivial rfl rfl rfl ?_;refine St.nil fun a12 h12=>?_;refine hK9 _ _ ?_;refine fr_true (t:=21) h12 rfl ?_;refine wp_seq_k fun K13 hK13=>?_;refine rg h12 fun ops=>?_;clear h12 a12;refine sa trivial rfl rfl ?_;refine St.nil fun a14 h14=>?_;refine hK13 _ _ ?_;refine wp_ret ?_;with_reducible repeat first | refine of_then_ret ?_ | refine of_block_ret ?_
   have R:x.form bl false=4:=by have:=hc11;rw [toForm_no];split <;> omega
   exact ret_tmp (t:=6) h14 rfl rfl ⟨by rw [R],hW3.bel⟩
  rw [hb] at h10;have h9:x.block=0:=bne_eq_false_iff_eq.1 hb;have hc15:Hid (x.block=0):=h9;clear h9;clear hb;refine St.go h10 ?_;clear h10 a10;refine sfTo1 ⟨_,hg3,rfl,rfl⟩ rfl rfl ?_;refine sbInts 0 hW3 ⟨_,hg3,rfl,rfl⟩ rfl rfl rfl rfl ?_;refine slInts ⟨_,hg3,rfl,rfl⟩ rfl rfl ?_;refine sfTo2 ⟨_,hg3,rfl,rfl⟩ rfl rfl ?_;refine sbInts 0 hW3 ⟨_,hg3,rfl,rfl⟩ rfl rfl rfl rfl ?_;refine slInts ⟨_,hg3,rfl,rfl⟩ rfl rfl ?_;intro a16 h16;refine fr_pure_g (t:=19) (g:=3) (tg:=12) (want:=false) (v:=.int .i64 ((x.regs.length+x.args.length:Nat):Int)) (w':=w3) h16 rfl rfl hg3 rfl rfl rfl (fun K hK=>?_) ?_
  ·have k0:a16.tmps.getD 15 undef=.int .i64 (x.regs.length:Int):=h16.sl 15 _ rfl
   have k1:a16.tmps.getD 18 undef=.int .i64 (x.args.length:Int):=h16.sl 18 _ rfl;have hwr:IntKind.i64.wrap ((x.regs.length:Int)+(x.args.length:Int))=(x.regs.length:Int)+(x.args.length:Int):=wrap_add _ _ (by omega);go_simp;exact hK
  clear h16;intro a17 hF17;refine St.go hF17 ?_;clear hF17 a17;refine sgt ⟨_,hg3,rfl,rfl⟩ rfl rfl rfl ?_;refine spf trivial rfl rfl rfl ?_;refine St.nil fun a18 h18=>?_;refine hK9 _ _ ?_;refine fr_cond (t:=21) h18 rfl (fun hb=>?_) (fun hb=>?_)
  ·have hc19:0<((x.regs.length+x.args.length:Nat):Int):=of_decide_eq_true hb
   clear hb;refine wp_seq_k fun K20 hK20=>?_;refine rg h18 fun ops=>?_;clear h18 a18;refine sa trivial rfl rfl ?_;refine St.nil fun a21 h21=>?_;refine hK20 _ _ ?_;refine wp_ret ?_;with_reducible repeat first | refine of_then_ret ?_ | refine of_block_ret ?_
   have R:x.form bl false=4:=by have:=hc15.out;have:=hc19;rw [toForm_no];split <;> omega
   exact ret_tmp (t:=6) h21 rfl rfl ⟨by rw [R],hW3.bel⟩
  have hc22:¬ (0<((x.regs.length+x.args.length:Nat):Int)):=of_decide_eq_false hb;clear hb;refine wp_skip ?_;refine hK8 _ _ ?_;refine wp_seq_k fun K23 hK23=>?_;refine rg h18 fun ops=>?_;clear h18 a18;refine sa trivial rfl rfl ?_;refine St.nil fun a24 h24=>?_;refine hK23 _ _ ?_;refine wp_ret ?_;with_reducible repeat first | refine of_then_ret ?_ | refine of_block_ret ?_
  have R:x.form bl false=0:=by have:=hc15.out;have:=hc22;rw [toForm_no];split <;> omega
  exact ret_tmp (t:=6) h24 rfl rfl ⟨by rw [R],hW3.bel⟩
theorem toFormT {x : MTo} {pR pA : Option Addr} {cR cA : Nat} {fr : Int} {fp fq fb : Option Addr} {fl fc fm fd bl fe : Nat} {w : World} (hr : x.regs.length < 2305843009213693952) (ha : x.args.length < 2305843009213693952) (hbl : bl < 2305843009213693952) :
    Rd Tryz.prog 115 #[.agg #[.int .i64 fr,.slice fp fl fc,.slice fq fm fd,.slice fb bl fe],.agg #[.int .i64 x.block,.slice pR x.regs.length cR,.slice pA x.args.length cA],.bool true] w (.int .i64 (x.form bl true)):=by
  refine fr_enter (n:=43) Tryz.func115 rfl rfl rfl ?_;intro a hF;have hW:=Wd.start w;replace hF:Fr 43 a [(0,.agg #[.int .i64 fr,.slice fp fl fc,.slice fq fm fd,.slice fb bl fe]),(1,.agg #[.int .i64 x.block,.slice pR x.regs.length cR,.slice pA x.args.length cA]),(2,.bool true)]:=hF;refine wp_seq_k fun K1 hK1=>?_;refine rg hF fun ops=>?_;clear hF a;refine sB hW trivial rfl rfl ?_;clear hW;intro w2 B2 hW2 hN;clear hN;refine sB hW2 trivial rfl rfl ?_;clear hW2;intro w3 B3 hW3 hN;clear hN;refine sa trivial rfl rfl ?_;refine St.nil fun a4 h4=>?_;refine hK1 _ _ ?_;refine wp_seq_k fun K5 hK5=>?_;refine wp_seq_k fun K6 hK6=>?_;refine rg h4 fun ops=>?_;clear h4 a4;refine sm trivial rfl rfl ?_;refine sn trivial rfl rfl ?_;refine St.nil fun a7 h7=>?_;refine hK6 _ _ ?_;refine fr_false (t:=8) h7 rfl ?_;refine wp_skip ?_;refine hK5 _ _ ?_;refine wp_seq_k fun K8 hK8=>?_;refine wp_seq_k fun K9 hK9=>?_;refine fr_region ?_;intro ops hops;have hg3:(ops[3]?).bind (fun o:Oper=>o.dst)=some 25:=hops 3;clear hops;refine St.go h7 ?_;clear h7 a7;refine sfTo0 trivial rfl rfl ?_;refine sbInt 0 hW3 trivial rfl rfl rfl rfl ?_;refine slt trivial rfl rfl rfl ?_;refine sm trivial rfl rfl ?_;intro a10 h10;rcases Bool.eq_false_or_eq_true (decide (x.block<0)) with hb | hb
  ·rw [hb] at h10
   have hc11:x.block<0:=of_decide_eq_true hb;clear hb;refine St.go h10 ?_;clear h10 a10;refine so hg3 rfl rfl rfl rfl ?_;refine so hg3 rfl rfl rfl rfl ?_;refine so hg3 rfl rfl rfl rfl ?_;refine so hg3 rfl rfl rfl rfl ?_;refine so hg3 rfl rfl rfl rfl ?_;refine so hg3 rfl rfl rfl rfl ?_;refine sp trivial rfl rfl rfl ?_;refine St.nil fun a12 h12=>?_;refine hK9 _ _ ?_;refine fr_true (t:=32) h12 rfl ?_;refine wp_seq_k fun K13 hK13=>?_;refine rg h12 fun ops=>?_;clear h12 a12;refine sa trivial rfl rfl ?_;refine St.nil fun a14 h14=>?_;refine hK13 _ _ ?_;refine wp_ret ?_;with_reducible repeat first | refine of_then_ret ?_ | refine of_block_ret ?_
   have R:x.form bl true=1:=by simp [MTo.form,hc11]
   exact ret_tmp (t:=6) h14 rfl rfl ⟨by rw [R],hW3.bel⟩
  rw [hb] at h10;have hc15:¬ (x.block<0):=of_decide_eq_false hb;clear hb;refine St.go h10 ?_;clear h10 a10;refine sfTo0 ⟨_,hg3,rfl,rfl⟩ rfl rfl ?_;refine sbInt 0 hW3 ⟨_,hg3,rfl,rfl⟩ rfl rfl rfl rfl ?_;refine sfFunc3 ⟨_,hg3,rfl,rfl⟩ rfl rfl ?_;refine sbBlocks 1 hW3 ⟨_,hg3,rfl,rfl⟩ rfl rfl rfl rfl ?_;refine slBlocks ⟨_,hg3,rfl,rfl⟩ rfl rfl ?_;refine sge ⟨_,hg3,rfl,rfl⟩ rfl rfl rfl ?_;refine spf trivial rfl rfl rfl ?_;refine St.nil fun a16 h16=>?_;refine hK9 _ _ ?_;refine fr_cond (t:=32) h16 rfl (fun hb=>?_) (fun hb=>?_)
  ·have hc17:(bl:Int)≤x.block:=of_decide_eq_true hb
   clear hb;refine wp_seq_k fun K18 hK18=>?_;refine rg h16 fun ops=>?_;clear h16 a16;refine sa trivial rfl rfl ?_;refine St.nil fun a19 h19=>?_;refine hK18 _ _ ?_;refine wp_ret ?_;with_reducible repeat first | refine of_then_ret ?_ | refine of_block_ret ?_
   have R:x.form bl true=1:=by simp [MTo.form,hc15,hc17]
   exact ret_tmp (t:=6) h19 rfl rfl ⟨by rw [R],hW3.bel⟩
  have hc20:¬ ((bl:Int)≤x.block):=of_decide_eq_false hb;clear hb;refine wp_skip ?_;refine hK8 _ _ ?_;refine wp_seq_k fun K21 hK21=>?_;refine wp_seq_k fun K22 hK22=>?_;refine fr_region ?_;intro ops hops;have hg4:(ops[4]?).bind (fun o:Oper=>o.dst)=some 37:=hops 4;clear hops;refine St.go h16 ?_;clear h16 a16;refine sfTo1 trivial rfl rfl ?_;refine sbInts 0 hW3 trivial rfl rfl rfl rfl ?_;refine slInts trivial rfl rfl ?_;refine sgt trivial rfl rfl rfl ?_;refine sm trivial rfl rfl ?_;intro a23 h23;rcases Bool.eq_false_or_eq_true (decide (16<(x.regs.length:Int))) with hb | hb
  ·rw [hb] at h23
   have hc24:16<x.regs.length:=by have:=of_decide_eq_true hb;omega
   clear hb;refine St.go h23 ?_;clear h23 a23;refine so hg4 rfl rfl rfl rfl ?_;refine so hg4 rfl rfl rfl rfl ?_;refine so hg4 rfl rfl rfl rfl ?_;refine so hg4 rfl rfl rfl rfl ?_;refine sp trivial rfl rfl rfl ?_;refine St.nil fun a25 h25=>?_;refine hK22 _ _ ?_;refine fr_true (t:=42) h25 rfl ?_;refine wp_seq_k fun K26 hK26=>?_;refine rg h25 fun ops=>?_;clear h25 a25;refine sa trivial rfl rfl ?_;refine St.nil fun a27 h27=>?_;refine hK26 _ _ ?_;refine wp_ret ?_;with_reducible repeat first | refine of_then_ret ?_ | refine of_block_ret ?_
   have R:x.form bl true=2:=by simp [MTo.form,hc15,hc20,hc24]
   exact ret_tmp (t:=6) h27 rfl rfl ⟨by rw [R],hW3.bel⟩
  rw [hb] at h23;have hc28:¬ (16<x.regs.length):=by have:=of_decide_eq_false hb;omega
  clear hb;refine St.go h23 ?_;clear h23 a23;refine sfTo2 ⟨_,hg4,rfl,rfl⟩ rfl rfl ?_;refine sbInts 0 hW3 ⟨_,hg4,rfl,rfl⟩ rfl rfl rfl rfl ?_;refine slInts ⟨_,hg4,rfl,rfl⟩ rfl rfl ?_;refine sgt ⟨_,hg4,rfl,rfl⟩ rfl rfl rfl ?_;refine spf trivial rfl rfl rfl ?_;refine St.nil fun a29 h29=>?_;refine hK22 _ _ ?_;refine fr_cond (t:=42) h29 rfl (fun hb=>?_) (fun hb=>?_)
  ·have hc30:8<x.args.length:=by have:=of_decide_eq_true hb;omega
   clear hb;refine wp_seq_k fun K31 hK31=>?_;refine rg h29 fun ops=>?_;clear h29 a29;refine sa trivial rfl rfl ?_;refine St.nil fun a32 h32=>?_;refine hK31 _ _ ?_;refine wp_ret ?_;with_reducible repeat first | refine of_then_ret ?_ | refine of_block_ret ?_
   have R:x.form bl true=2:=by simp [MTo.form,hc15,hc20,hc28,hc30]
   exact ret_tmp (t:=6) h32 rfl rfl ⟨by rw [R],hW3.bel⟩
  have hc33:¬ (8<x.args.length):=by have:=of_decide_eq_false hb;omega
  clear hb;refine wp_skip ?_;refine hK21 _ _ ?_;refine wp_seq_k fun K34 hK34=>?_;refine rg h29 fun ops=>?_;clear h29 a29;refine sa trivial rfl rfl ?_;refine St.nil fun a35 h35=>?_;refine hK34 _ _ ?_;refine wp_ret ?_;with_reducible repeat first | refine of_then_ret ?_ | refine of_block_ret ?_
  have R:x.form bl true=0:=by simp [MTo.form,hc15,hc20,hc28,hc33]
  exact ret_tmp (t:=6) h35 rfl rfl ⟨by rw [R],hW3.bel⟩
theorem toForm_any {x : MTo} {pR pA : Option Addr} {cR cA : Nat} {fr : Int} {fp fq fb : Option Addr} {fl fc fm fd bl fe : Nat} (has : Bool) {w : World} (hr : x.regs.length < 2305843009213693952) (ha : x.args.length < 2305843009213693952) (hbl : bl < 2305843009213693952) :
    Rd Tryz.prog 115 #[.agg #[.int .i64 fr,.slice fp fl fc,.slice fq fm fd,.slice fb bl fe],.agg #[.int .i64 x.block,.slice pR x.regs.length cR,.slice pA x.args.length cA],.bool has] w (.int .i64 (x.form bl has)):=by
  cases has
  · exact toFormF hr ha hbl
  · exact toFormT hr ha hbl
theorem endForm_any {x : MEnd} {e : EP} {fr : Int} {fp fq fb : Option Addr} {fl fc fm fd bl fe : Nat} {w : World} (hs : x.yes.regs.length < 2305843009213693952 ∧ x.yes.args.length < 2305843009213693952 ∧ x.no.regs.length < 2305843009213693952 ∧ x.no.args.length < 2305843009213693952) (hbl : bl < 2305843009213693952) :
    Rd Tryz.prog 76 #[.agg #[.int .i64 fr,.slice fp fl fc,.slice fq fm fd,.slice fb bl fe],.agg #[.int .i64 x.op,.int .i64 x.a,.int .i64 x.yes.block,.slice e.pYR x.yes.regs.length e.cYR,.slice e.pYA x.yes.args.length e.cYA,.int .i64 x.no.block,.slice e.pNR x.no.regs.length e.cNR,.slice e.pNA x.no.args.length e.cNA,.slice e.pA x.args.length e.cA]] w (.int .i64 (x.form bl)):=by
  refine fr_enter (n:=54) Tryz.func76 rfl rfl rfl ?_;intro a hF;have hW:=Wd.start w;replace hF:Fr 54 a [(0,.agg #[.int .i64 fr,.slice fp fl fc,.slice fq fm fd,.slice fb bl fe]),(1,.agg #[.int .i64 x.op,.int .i64 x.a,.int .i64 x.yes.block,.slice e.pYR x.yes.regs.length e.cYR,.slice e.pYA x.yes.args.length e.cYA,.int .i64 x.no.block,.slice e.pNR x.no.regs.length e.cNR,.slice e.pNA x.no.args.length e.cNA,.slice e.pA x.args.length e.cA])]:=hF;refine wp_seq_k fun K1 hK1=>?_;refine rg hF fun ops=>?_;clear hF a;refine sB hW trivial rfl rfl ?_;clear hW;intro w2 B2 hW2 hN;clear hN;refine sB hW2 trivial rfl rfl ?_;clear hW2;intro w3 B3 hW3 hN;clear hN;refine sa trivial rfl rfl ?_;refine St.nil fun a4 h4=>?_;refine hK1 _ _ ?_;refine wp_seq_k fun K5 hK5=>?_;refine wp_seq_k fun K6 hK6=>?_;refine fr_region ?_;intro ops hops;have hg3:(ops[3]?).bind (fun o:Oper=>o.dst)=some 9:=hops 3;clear hops;refine St.go h4 ?_;clear h4 a4;refine sfEnd0 trivial rfl rfl ?_;refine sbInt 0 hW3 trivial rfl rfl rfl rfl ?_;refine slt trivial rfl rfl rfl ?_;refine sm trivial rfl rfl ?_;intro a7 h7;rcases Bool.eq_false_or_eq_true (decide (x.op<1)) with hb | hb
  ·rw [hb] at h7
   have hc8:x.op<1:=of_decide_eq_true hb;clear hb;refine St.go h7 ?_;clear h7 a7;refine so hg3 rfl rfl rfl rfl ?_;refine so hg3 rfl rfl rfl rfl ?_;refine so hg3 rfl rfl rfl rfl ?_;refine sp trivial rfl rfl rfl ?_;refine St.nil fun a9 h9=>?_;refine hK6 _ _ ?_;refine fr_true (t:=13) h9 rfl ?_;refine wp_seq_k fun K10 hK10=>?_;refine rg h9 fun ops=>?_;clear h9 a9;refine sa trivial rfl rfl ?_;refine St.nil fun a11 h11=>?_;refine hK10 _ _ ?_;refine wp_ret ?_;with_reducible repeat first | refine of_then_ret ?_ | refine of_block_ret ?_
   have R:x.form bl=3:=by
    rw [endForm_eq];generalize x.yes.form bl (x.op != 3)=yv;generalize x.no.form bl (x.op==2)=zv;first | (simp [hc8];done) | (exfalso;have:=hc8;omega)
   exact ret_tmp (t:=4) h11 rfl rfl ⟨by rw [R],hW3.bel⟩
  rw [hb] at h7;have hc12:¬ (x.op<1):=of_decide_eq_false hb;clear hb;refine St.go h7 ?_;clear h7 a7;refine sfEnd0 ⟨_,hg3,rfl,rfl⟩ rfl rfl ?_;refine sbInt 0 hW3 ⟨_,hg3,rfl,rfl⟩ rfl rfl rfl rfl ?_;refine sgt ⟨_,hg3,rfl,rfl⟩ rfl rfl rfl ?_;refine spf trivial rfl rfl rfl ?_;refine St.nil fun a13 h13=>?_;refine hK6 _ _ ?_;refine fr_cond (t:=13) h13 rfl (fun hb=>?_) (fun hb=>?_)
  ·have hc14:3<x.op:=of_decide_eq_true hb
   clear hb;refine wp_seq_k fun K15 hK15=>?_;refine rg h13 fun ops=>?_;clear h13 a13;refine sa trivial rfl rfl ?_;refine St.nil fun a16 h16=>?_;refine hK15 _ _ ?_;refine wp_ret ?_;with_reducible repeat first | refine of_then_ret ?_ | refine of_block_ret ?_
   have R:x.form bl=3:=by
    rw [endForm_eq];generalize x.yes.form bl (x.op != 3)=yv;generalize x.no.form bl (x.op==2)=zv;first | (simp [hc12,hc14];done) | (exfalso;have:=hc12;have:=hc14;omega)
   exact ret_tmp (t:=4) h16 rfl rfl ⟨by rw [R],hW3.bel⟩
  have hc17:¬ (3<x.op):=of_decide_eq_false hb;clear hb;refine wp_skip ?_;refine hK5 _ _ ?_;refine wp_seq_k fun K18 hK18=>?_;refine wp_seq_k fun K19 hK19=>?_;refine fr_region ?_;intro ops hops;have hg3:(ops[3]?).bind (fun o:Oper=>o.dst)=some 17:=hops 3;have hg8:(ops[8]?).bind (fun o:Oper=>o.dst)=some 22:=hops 8;have hg13:(ops[13]?).bind (fun o:Oper=>o.dst)=some 27:=hops 13;clear hops;refine St.go h13 ?_;clear h13 a13;refine sfEnd1 trivial rfl rfl ?_;refine sbInt 0 hW3 trivial rfl rfl rfl rfl ?_;refine sne trivial rfl rfl rfl ?_;refine sm trivial rfl rfl ?_;intro a20 h20;rcases Bool.eq_false_or_eq_true (x.a != 0) with hb | hb
  ·rw [hb] at h20
   have h9:¬ x.a=0:=bne_iff_ne.1 hb;have hc21:¬ x.a=0:=h9;clear h9;clear hb;refine St.go h20 ?_;clear h20 a20;refine sfEnd0 ⟨_,hg3,rfl,rfl⟩ rfl rfl ?_;refine sbInt 0 hW3 ⟨_,hg3,rfl,rfl⟩ rfl rfl rfl rfl ?_;refine sne ⟨_,hg3,rfl,rfl⟩ rfl rfl rfl ?_;refine sp trivial rfl rfl rfl ?_;refine sm trivial rfl rfl ?_;intro a22 h22;rcases Bool.eq_false_or_eq_true (x.op != 2) with hb | hb
   ·rw [hb] at h22
    have h9:¬ x.op=2:=bne_iff_ne.1 hb;have hc23:¬ x.op=2:=h9;clear h9;clear hb;refine St.go h22 ?_;clear h22 a22;refine so hg8 rfl rfl rfl rfl ?_;refine so hg8 rfl rfl rfl rfl ?_;refine so hg8 rfl rfl rfl rfl ?_;refine so hg8 rfl rfl rfl rfl ?_;refine so hg8 rfl rfl rfl rfl ?_;refine so hg13 rfl rfl rfl rfl ?_;refine so hg13 rfl rfl rfl rfl ?_;refine so hg13 rfl rfl rfl rfl ?_;refine so hg8 rfl rfl rfl rfl ?_;refine sp trivial rfl rfl rfl ?_;refine St.nil fun a24 h24=>?_;refine hK19 _ _ ?_;refine fr_true (t:=32) h24 rfl ?_;refine wp_seq_k fun K25 hK25=>?_;refine rg h24 fun ops=>?_;clear h24 a24;refine sa trivial rfl rfl ?_;refine St.nil fun a26 h26=>?_;refine hK25 _ _ ?_;refine wp_ret ?_;with_reducible repeat first | refine of_then_ret ?_ | refine of_block_ret ?_
    have R:x.form bl=4:=by
     rw [endForm_eq];generalize x.yes.form bl (x.op != 3)=yv;generalize x.no.form bl (x.op==2)=zv;first | (simp [hc12,hc17,hc21,hc23];done) | (exfalso;have:=hc12;have:=hc17;have:=hc21;have:=hc23;omega)
    exact ret_tmp (t:=4) h26 rfl rfl ⟨by rw [R],hW3.bel⟩
   rw [hb] at h22;have h9:x.op=2:=bne_eq_false_iff_eq.1 hb;have hc27:Hid (x.op=2):=h9;clear h9;clear hb;refine St.go h22 ?_;clear h22 a22;refine sfEnd4 ⟨_,hg8,rfl,rfl⟩ rfl rfl ?_;refine sbInts 0 hW3 ⟨_,hg8,rfl,rfl⟩ rfl rfl rfl rfl ?_;refine slInts ⟨_,hg8,rfl,rfl⟩ rfl rfl ?_;refine sgt ⟨_,hg8,rfl,rfl⟩ rfl rfl rfl ?_;refine sm ⟨_,hg8,rfl,rfl⟩ rfl rfl ?_;intro a28 h28;rcases Bool.eq_false_or_eq_true (decide (0<(x.args.length:Int))) with hb | hb
   ·rw [hb] at h28
    have hc29:0<x.args.length:=by have:=of_decide_eq_true hb;omega
    clear hb;refine St.go h28 ?_;clear h28 a28;refine sfEnd0 ⟨_,hg13,rfl,rfl⟩ rfl rfl ?_;refine sbInt 0 hW3 ⟨_,hg13,rfl,rfl⟩ rfl rfl rfl rfl ?_;refine sne ⟨_,hg13,rfl,rfl⟩ rfl rfl rfl ?_;refine sp ⟨_,hg8,rfl,rfl⟩ rfl rfl rfl ?_;refine spf trivial rfl rfl rfl ?_;refine St.nil fun a30 h30=>?_;refine hK19 _ _ ?_;refine fr_cond (t:=32) h30 rfl (fun hb=>?_) (fun hb=>?_)
    ·have h9:¬ x.op=3:=bne_iff_ne.1 hb
     have hc31:¬ x.op=3:=h9;clear h9;clear hb;refine wp_seq_k fun K32 hK32=>?_;refine rg h30 fun ops=>?_;clear h30 a30;refine sa trivial rfl rfl ?_;refine St.nil fun a33 h33=>?_;refine hK32 _ _ ?_;refine wp_ret ?_;with_reducible repeat first | refine of_then_ret ?_ | refine of_block_ret ?_
     have R:x.form bl=4:=by
      rw [endForm_eq];generalize x.yes.form bl (x.op != 3)=yv;generalize x.no.form bl (x.op==2)=zv;first | (simp [hc12,hc17,hc21,hc27.out,hc29,hc31];done) | (exfalso;have:=hc12;have:=hc17;have:=hc21;have:=hc27.out;have:=hc29;have:=hc31;omega)
     exact ret_tmp (t:=4) h33 rfl rfl ⟨by rw [R],hW3.bel⟩
    have h9:x.op=3:=bne_eq_false_iff_eq.1 hb;have hc34:Hid (x.op=3):=h9;clear h9;clear hb;refine wp_skip ?_;refine hK18 _ _ ?_;refine wp_seq_k fun K35 hK35=>?_;refine wp_seq_k fun K36 hK36=>?_;refine rg h30 fun ops=>?_;clear h30 a30;refine sfEnd4 trivial rfl rfl ?_;refine sbInts 0 hW3 trivial rfl rfl rfl rfl ?_;refine slInts trivial rfl rfl ?_;refine sgt trivial rfl rfl rfl ?_;refine St.nil fun a37 h37=>?_;refine hK36 _ _ ?_;refine fr_cond (t:=36) h37 rfl (fun hb=>?_) (fun hb=>?_)
    ·have hc38:8<x.args.length:=by have:=of_decide_eq_true hb;omega
     clear hb;refine wp_seq_k fun K39 hK39=>?_;refine rg h37 fun ops=>?_;clear h37 a37;refine sa trivial rfl rfl ?_;refine St.nil fun a40 h40=>?_;refine hK39 _ _ ?_;refine wp_ret ?_;with_reducible repeat first | refine of_then_ret ?_ | refine of_block_ret ?_
     have R:x.form bl=2:=by
      rw [endForm_eq];generalize x.yes.form bl (x.op != 3)=yv;generalize x.no.form bl (x.op==2)=zv;first | (simp [hc12,hc17,hc21,hc27.out,hc29,hc34.out,hc38];done) | (exfalso;have:=hc12;have:=hc17;have:=hc21;have:=hc27.out;have:=hc29;have:=hc34.out;have:=hc38;omega)
     exact ret_tmp (t:=4) h40 rfl rfl ⟨by rw [R],hW3.bel⟩
    have hc41:¬ (8<x.args.length):=by have:=of_decide_eq_false hb;omega
    clear hb;refine wp_skip ?_;refine hK35 _ _ ?_;refine wp_seq_k fun K42 hK42=>?_;refine wp_seq_k fun K43 hK43=>?_;refine rg h37 fun ops=>?_;clear h37 a37;refine sS 1 4 Tryz.underlying42 rfl infFunc hW3 trivial rfl rfl rfl rfl ?_;refine sfEnd2 trivial rfl rfl ?_;refine sS 0 3 Tryz.underlying48 rfl infTo hW3 trivial rfl rfl rfl rfl ?_;refine sfEnd0 trivial rfl rfl ?_;refine sbInt 0 hW3 trivial rfl rfl rfl rfl ?_;refine sne trivial rfl rfl rfl ?_;refine sc_3 cf115 hW3 (toForm_any (x.op != 3) hs.1 hs.2.1 hbl) trivial rfl rfl rfl rfl ?_;clear hW3;intro w44 hW44;refine sa trivial rfl rfl ?_;refine St.nil fun a45 h45=>?_;refine hK43 _ _ ?_;refine wp_seq_k fun K46 hK46=>?_;refine rg h45 fun ops=>?_;clear h45 a45;refine sm trivial rfl rfl ?_;refine sne trivial rfl rfl rfl ?_;refine St.nil fun a47 h47=>?_;refine hK46 _ _ ?_;refine fr_cond (t:=45) h47 rfl (fun hb=>?_) (fun hb=>?_)
    ·have h9:¬ (x.yes.form bl (x.op != 3))=0:=bne_iff_ne.1 hb
     have hc48:¬ (x.yes.form bl (x.op != 3))=0:=h9;clear h9;clear hb;refine wp_seq_k fun K49 hK49=>?_;refine rg h47 fun ops=>?_;clear h47 a47;refine sm trivial rfl rfl ?_;refine sa trivial rfl rfl ?_;refine St.nil fun a50 h50=>?_;refine hK49 _ _ ?_;refine wp_ret ?_;with_reducible repeat first | refine of_then_ret ?_ | refine of_block_ret ?_
     have R:x.form bl=x.yes.form bl (x.op != 3):=by
      rw [endForm_eq];have hY:=hc48;generalize x.yes.form bl (x.op != 3)=yv at hY ⊢;generalize x.no.form bl (x.op==2)=zv;first | (simp [hc12,hc17,hc21,hc27.out,hc29,hc34.out,hc41,hY];done) | (exfalso;have:=hc12;have:=hc17;have:=hc21;have:=hc27.out;have:=hc29;have:=hc34.out;have:=hc41;omega)
     exact ret_tmp (t:=4) h50 rfl rfl ⟨by rw [R],hW44.bel⟩
    have h9:(x.yes.form bl (x.op != 3))=0:=bne_eq_false_iff_eq.1 hb;have hc51:Hid ((x.yes.form bl (x.op != 3))=0):=h9;clear h9;clear hb;refine wp_skip ?_;refine hK42 _ _ ?_;refine wp_seq_k fun K52 hK52=>?_;refine rg h47 fun ops=>?_;clear h47 a47;refine sS 1 4 Tryz.underlying42 rfl infFunc hW44 trivial rfl rfl rfl rfl ?_;refine sfEnd3 trivial rfl rfl ?_;refine sS 0 3 Tryz.underlying48 rfl infTo hW44 trivial rfl rfl rfl rfl ?_;refine sfEnd0 trivial rfl rfl ?_;refine sbInt 0 hW44 trivial rfl rfl rfl rfl ?_;refine seq trivial rfl rfl rfl ?_;refine sc_3 cf115 hW44 (toForm_any (x.op==2) hs.2.2.1 hs.2.2.2 hbl) trivial rfl rfl rfl rfl ?_;clear hW44;intro w53 hW53;refine sa trivial rfl rfl ?_;refine St.nil fun a54 h54=>?_;refine hK52 _ _ ?_;refine wp_ret ?_;with_reducible repeat first | refine of_then_ret ?_ | refine of_block_ret ?_
    have R:x.form bl=x.no.form bl (x.op==2):=by
     rw [endForm_eq];have hY:=hc51.out;generalize x.yes.form bl (x.op != 3)=yv at hY ⊢;generalize x.no.form bl (x.op==2)=zv;first | (simp [hc12,hc17,hc21,hc27.out,hc29,hc34.out,hc41,hY];done) | (exfalso;have:=hc12;have:=hc17;have:=hc21;have:=hc27.out;have:=hc29;have:=hc34.out;have:=hc41;omega)
    exact ret_tmp (t:=4) h54 rfl rfl ⟨by rw [R],hW53.bel⟩
   rw [hb] at h28;have hc55:¬ (0<x.args.length):=by have:=of_decide_eq_false hb;omega
   clear hb;refine St.go h28 ?_;clear h28 a28;refine so hg13 rfl rfl rfl rfl ?_;refine so hg13 rfl rfl rfl rfl ?_;refine so hg13 rfl rfl rfl rfl ?_;refine spf ⟨_,hg8,rfl,rfl⟩ rfl rfl rfl ?_;refine spf trivial rfl rfl rfl ?_;refine St.nil fun a56 h56=>?_;refine hK19 _ _ ?_;refine fr_false (t:=32) h56 rfl ?_;refine wp_skip ?_;refine hK18 _ _ ?_;refine wp_seq_k fun K57 hK57=>?_;refine wp_seq_k fun K58 hK58=>?_;refine rg h56 fun ops=>?_;clear h56 a56;refine sfEnd4 trivial rfl rfl ?_;refine sbInts 0 hW3 trivial rfl rfl rfl rfl ?_;refine slInts trivial rfl rfl ?_;refine sgt trivial rfl rfl rfl ?_;refine St.nil fun a59 h59=>?_;refine hK58 _ _ ?_;refine fr_cond (t:=36) h59 rfl (fun hb=>?_) (fun hb=>?_)
   ·have hc60:8<x.args.length:=by have:=of_decide_eq_true hb;omega
    clear hb;refine wp_seq_k fun K61 hK61=>?_;refine rg h59 fun ops=>?_;clear h59 a59;refine sa trivial rfl rfl ?_;refine St.nil fun a62 h62=>?_;refine hK61 _ _ ?_;refine wp_ret ?_;with_reducible repeat first | refine of_then_ret ?_ | refine of_block_ret ?_
    have R:x.form bl=2:=by
     rw [endForm_eq];generalize x.yes.form bl (x.op != 3)=yv;generalize x.no.form bl (x.op==2)=zv;first | (simp [hc12,hc17,hc21,hc27.out,hc55,hc60];done) | (exfalso;have:=hc12;have:=hc17;have:=hc21;have:=hc27.out;have:=hc55;have:=hc60;omega)
    exact ret_tmp (t:=4) h62 rfl rfl ⟨by rw [R],hW3.bel⟩
   have hc63:¬ (8<x.args.length):=by have:=of_decide_eq_false hb;omega
   clear hb;refine wp_skip ?_;refine hK57 _ _ ?_;refine wp_seq_k fun K64 hK64=>?_;refine wp_seq_k fun K65 hK65=>?_;refine rg h59 fun ops=>?_;clear h59 a59;refine sS 1 4 Tryz.underlying42 rfl infFunc hW3 trivial rfl rfl rfl rfl ?_;refine sfEnd2 trivial rfl rfl ?_;refine sS 0 3 Tryz.underlying48 rfl infTo hW3 trivial rfl rfl rfl rfl ?_;refine sfEnd0 trivial rfl rfl ?_;refine sbInt 0 hW3 trivial rfl rfl rfl rfl ?_;refine sne trivial rfl rfl rfl ?_;refine sc_3 cf115 hW3 (toForm_any (x.op != 3) hs.1 hs.2.1 hbl) trivial rfl rfl rfl rfl ?_;clear hW3;intro w66 hW66;refine sa trivial rfl rfl ?_;refine St.nil fun a67 h67=>?_;refine hK65 _ _ ?_;refine wp_seq_k fun K68 hK68=>?_;refine rg h67 fun ops=>?_;clear h67 a67;refine sm trivial rfl rfl ?_;refine sne trivial rfl rfl rfl ?_;refine St.nil fun a69 h69=>?_;refine hK68 _ _ ?_;refine fr_cond (t:=45) h69 rfl (fun hb=>?_) (fun hb=>?_)
   ·have h9:¬ (x.yes.form bl (x.op != 3))=0:=bne_iff_ne.1 hb
    have hc70:¬ (x.yes.form bl (x.op != 3))=0:=h9;clear h9;clear hb;refine wp_seq_k fun K71 hK71=>?_;refine rg h69 fun ops=>?_;clear h69 a69;refine sm trivial rfl rfl ?_;refine sa trivial rfl rfl ?_;refine St.nil fun a72 h72=>?_;refine hK71 _ _ ?_;refine wp_ret ?_;with_reducible repeat first | refine of_then_ret ?_ | refine of_block_ret ?_
    have R:x.form bl=x.yes.form bl (x.op != 3):=by
     rw [endForm_eq];have hY:=hc70;generalize x.yes.form bl (x.op != 3)=yv at hY ⊢;generalize x.no.form bl (x.op==2)=zv;first | (simp [hc12,hc17,hc21,hc27.out,hc55,hc63,hY];done) | (exfalso;have:=hc12;have:=hc17;have:=hc21;have:=hc27.out;have:=hc55;have:=hc63;omega)
    exact ret_tmp (t:=4) h72 rfl rfl ⟨by rw [R],hW66.bel⟩
   have h9:(x.yes.form bl (x.op != 3))=0:=bne_eq_false_iff_eq.1 hb;have hc73:Hid ((x.yes.form bl (x.op != 3))=0):=h9;clear h9;clear hb;refine wp_skip ?_;refine hK64 _ _ ?_;refine wp_seq_k fun K74 hK74=>?_;refine rg h69 fun ops=>?_;clear h69 a69;refine sS 1 4 Tryz.underlying42 rfl infFunc hW66 trivial rfl rfl rfl rfl ?_;refine sfEnd3 trivial rfl rfl ?_;refine sS 0 3 Tryz.underlying48 rfl infTo hW66 trivial rfl rfl rfl rfl ?_;refine sfEnd0 trivial rfl rfl ?_;refine sbInt 0 hW66 trivial rfl rfl rfl rfl ?_;refine seq trivial rfl rfl rfl ?_;refine sc_3 cf115 hW66 (toForm_any (x.op==2) hs.2.2.1 hs.2.2.2 hbl) trivial rfl rfl rfl rfl ?_;clear hW66;intro w75 hW75;refine sa trivial rfl rfl ?_;refine St.nil fun a76 h76=>?_;refine hK74 _ _ ?_;refine wp_ret ?_;with_reducible repeat first | refine of_then_ret ?_ | refine of_block_ret ?_
   have R:x.form bl=x.no.form bl (x.op==2):=by
    rw [endForm_eq];have hY:=hc73.out;generalize x.yes.form bl (x.op != 3)=yv at hY ⊢;generalize x.no.form bl (x.op==2)=zv;first | (simp [hc12,hc17,hc21,hc27.out,hc55,hc63,hY];done) | (exfalso;have:=hc12;have:=hc17;have:=hc21;have:=hc27.out;have:=hc55;have:=hc63;omega)
   exact ret_tmp (t:=4) h76 rfl rfl ⟨by rw [R],hW75.bel⟩
  rw [hb] at h20;have h9:x.a=0:=bne_eq_false_iff_eq.1 hb;have hc77:Hid (x.a=0):=h9;clear h9;clear hb;refine St.go h20 ?_;clear h20 a20;refine so hg3 rfl rfl rfl rfl ?_;refine so hg3 rfl rfl rfl rfl ?_;refine so hg3 rfl rfl rfl rfl ?_;refine spf trivial rfl rfl rfl ?_;refine sm trivial rfl rfl ?_;refine sfEnd4 ⟨_,hg8,rfl,rfl⟩ rfl rfl ?_;refine sbInts 0 hW3 ⟨_,hg8,rfl,rfl⟩ rfl rfl rfl rfl ?_;refine slInts ⟨_,hg8,rfl,rfl⟩ rfl rfl ?_;refine sgt ⟨_,hg8,rfl,rfl⟩ rfl rfl rfl ?_;refine sm ⟨_,hg8,rfl,rfl⟩ rfl rfl ?_;intro a78 h78;rcases Bool.eq_false_or_eq_true (decide (0<(x.args.length:Int))) with hb | hb
  ·rw [hb] at h78
   have hc79:0<x.args.length:=by have:=of_decide_eq_true hb;omega
   clear hb;refine St.go h78 ?_;clear h78 a78;refine sfEnd0 ⟨_,hg13,rfl,rfl⟩ rfl rfl ?_;refine sbInt 0 hW3 ⟨_,hg13,rfl,rfl⟩ rfl rfl rfl rfl ?_;refine sne ⟨_,hg13,rfl,rfl⟩ rfl rfl rfl ?_;refine sp ⟨_,hg8,rfl,rfl⟩ rfl rfl rfl ?_;refine spf trivial rfl rfl rfl ?_;refine St.nil fun a80 h80=>?_;refine hK19 _ _ ?_;refine fr_cond (t:=32) h80 rfl (fun hb=>?_) (fun hb=>?_)
   ·have h9:¬ x.op=3:=bne_iff_ne.1 hb
    have hc81:¬ x.op=3:=h9;clear h9;clear hb;refine wp_seq_k fun K82 hK82=>?_;refine rg h80 fun ops=>?_;clear h80 a80;refine sa trivial rfl rfl ?_;refine St.nil fun a83 h83=>?_;refine hK82 _ _ ?_;refine wp_ret ?_;with_reducible repeat first | refine of_then_ret ?_ | refine of_block_ret ?_
    have R:x.form bl=4:=by
     rw [endForm_eq];generalize x.yes.form bl (x.op != 3)=yv;generalize x.no.form bl (x.op==2)=zv;first | (simp [hc12,hc17,hc77.out,hc79,hc81];done) | (exfalso;have:=hc12;have:=hc17;have:=hc77.out;have:=hc79;have:=hc81;omega)
    exact ret_tmp (t:=4) h83 rfl rfl ⟨by rw [R],hW3.bel⟩
   have h9:x.op=3:=bne_eq_false_iff_eq.1 hb;have hc84:Hid (x.op=3):=h9;clear h9;clear hb;refine wp_skip ?_;refine hK18 _ _ ?_;refine wp_seq_k fun K85 hK85=>?_;refine wp_seq_k fun K86 hK86=>?_;refine rg h80 fun ops=>?_;clear h80 a80;refine sfEnd4 trivial rfl rfl ?_;refine sbInts 0 hW3 trivial rfl rfl rfl rfl ?_;refine slInts trivial rfl rfl ?_;refine sgt trivial rfl rfl rfl ?_;refine St.nil fun a87 h87=>?_;refine hK86 _ _ ?_;refine fr_cond (t:=36) h87 rfl (fun hb=>?_) (fun hb=>?_)
   ·have hc88:8<x.args.length:=by have:=of_decide_eq_true hb;omega
    clear hb;refine wp_seq_k fun K89 hK89=>?_;refine rg h87 fun ops=>?_;clear h87 a87;refine sa trivial rfl rfl ?_;refine St.nil fun a90 h90=>?_;refine hK89 _ _ ?_;refine wp_ret ?_;with_reducible repeat first | refine of_then_ret ?_ | refine of_block_ret ?_
    have R:x.form bl=2:=by
     rw [endForm_eq];generalize x.yes.form bl (x.op != 3)=yv;generalize x.no.form bl (x.op==2)=zv;first | (simp [hc12,hc17,hc77.out,hc79,hc84.out,hc88];done) | (exfalso;have:=hc12;have:=hc17;have:=hc77.out;have:=hc79;have:=hc84.out;have:=hc88;omega)
    exact ret_tmp (t:=4) h90 rfl rfl ⟨by rw [R],hW3.bel⟩
   have hc91:¬ (8<x.args.length):=by have:=of_decide_eq_false hb;omega
   clear hb;refine wp_skip ?_;refine hK85 _ _ ?_;refine wp_seq_k fun K92 hK92=>?_;refine wp_seq_k fun K93 hK93=>?_;refine rg h87 fun ops=>?_;clear h87 a87;refine sS 1 4 Tryz.underlying42 rfl infFunc hW3 trivial rfl rfl rfl rfl ?_;refine sfEnd2 trivial rfl rfl ?_;refine sS 0 3 Tryz.underlying48 rfl infTo hW3 trivial rfl rfl rfl rfl ?_;refine sfEnd0 trivial rfl rfl ?_;refine sbInt 0 hW3 trivial rfl rfl rfl rfl ?_;refine sne trivial rfl rfl rfl ?_;refine sc_3 cf115 hW3 (toForm_any (x.op != 3) hs.1 hs.2.1 hbl) trivial rfl rfl rfl rfl ?_;clear hW3;intro w94 hW94;refine sa trivial rfl rfl ?_;refine St.nil fun a95 h95=>?_;refine hK93 _ _ ?_;refine wp_seq_k fun K96 hK96=>?_;refine rg h95 fun ops=>?_;clear h95 a95;refine sm trivial rfl rfl ?_;refine sne trivial rfl rfl rfl ?_;refine St.nil fun a97 h97=>?_;refine hK96 _ _ ?_;refine fr_cond (t:=45) h97 rfl (fun hb=>?_) (fun hb=>?_)
   ·have h9:¬ (x.yes.form bl (x.op != 3))=0:=bne_iff_ne.1 hb
    have hc98:¬ (x.yes.form bl (x.op != 3))=0:=h9;clear h9;clear hb;refine wp_seq_k fun K99 hK99=>?_;refine rg h97 fun ops=>?_;clear h97 a97;refine sm trivial rfl rfl ?_;refine sa trivial rfl rfl ?_;refine St.nil fun a100 h100=>?_;refine hK99 _ _ ?_;refine wp_ret ?_;with_reducible repeat first | refine of_then_ret ?_ | refine of_block_ret ?_
    have R:x.form bl=x.yes.form bl (x.op != 3):=by
     rw [endForm_eq];have hY:=hc98;generalize x.yes.form bl (x.op != 3)=yv at hY ⊢;generalize x.no.form bl (x.op==2)=zv;first | (simp [hc12,hc17,hc77.out,hc79,hc84.out,hc91,hY];done) | (exfalso;have:=hc12;have:=hc17;have:=hc77.out;have:=hc79;have:=hc84.out;have:=hc91;omega)
    exact ret_tmp (t:=4) h100 rfl rfl ⟨by rw [R],hW94.bel⟩
   have h9:(x.yes.form bl (x.op != 3))=0:=bne_eq_false_iff_eq.1 hb;have hc101:Hid ((x.yes.form bl (x.op != 3))=0):=h9;clear h9;clear hb;refine wp_skip ?_;refine hK92 _ _ ?_;refine wp_seq_k fun K102 hK102=>?_;refine rg h97 fun ops=>?_;clear h97 a97;refine sS 1 4 Tryz.underlying42 rfl infFunc hW94 trivial rfl rfl rfl rfl ?_;refine sfEnd3 trivial rfl rfl ?_;refine sS 0 3 Tryz.underlying48 rfl infTo hW94 trivial rfl rfl rfl rfl ?_;refine sfEnd0 trivial rfl rfl ?_;refine sbInt 0 hW94 trivial rfl rfl rfl rfl ?_;refine seq trivial rfl rfl rfl ?_;refine sc_3 cf115 hW94 (toForm_any (x.op==2) hs.2.2.1 hs.2.2.2 hbl) trivial rfl rfl rfl rfl ?_;clear hW94;intro w103 hW103;refine sa trivial rfl rfl ?_;refine St.nil fun a104 h104=>?_;refine hK102 _ _ ?_;refine wp_ret ?_;with_reducible repeat first | refine of_then_ret ?_ | refine of_block_ret ?_
   have R:x.form bl=x.no.form bl (x.op==2):=by
    rw [endForm_eq];have hY:=hc101.out;generalize x.yes.form bl (x.op != 3)=yv at hY ⊢;generalize x.no.form bl (x.op==2)=zv;first | (simp [hc12,hc17,hc77.out,hc79,hc84.out,hc91,hY];done) | (exfalso;have:=hc12;have:=hc17;have:=hc77.out;have:=hc79;have:=hc84.out;have:=hc91;omega)
   exact ret_tmp (t:=4) h104 rfl rfl ⟨by rw [R],hW103.bel⟩
  rw [hb] at h78;have hc105:¬ (0<x.args.length):=by have:=of_decide_eq_false hb;omega
  clear hb;refine St.go h78 ?_;clear h78 a78;refine so hg13 rfl rfl rfl rfl ?_;refine so hg13 rfl rfl rfl rfl ?_;refine so hg13 rfl rfl rfl rfl ?_;refine spf ⟨_,hg8,rfl,rfl⟩ rfl rfl rfl ?_;refine spf trivial rfl rfl rfl ?_;refine St.nil fun a106 h106=>?_;refine hK19 _ _ ?_;refine fr_false (t:=32) h106 rfl ?_;refine wp_skip ?_;refine hK18 _ _ ?_;refine wp_seq_k fun K107 hK107=>?_;refine wp_seq_k fun K108 hK108=>?_;refine rg h106 fun ops=>?_;clear h106 a106;refine sfEnd4 trivial rfl rfl ?_;refine sbInts 0 hW3 trivial rfl rfl rfl rfl ?_;refine slInts trivial rfl rfl ?_;refine sgt trivial rfl rfl rfl ?_;refine St.nil fun a109 h109=>?_;refine hK108 _ _ ?_;refine fr_cond (t:=36) h109 rfl (fun hb=>?_) (fun hb=>?_)
  ·have hc110:8<x.args.length:=by have:=of_decide_eq_true hb;omega
   clear hb;refine wp_seq_k fun K111 hK111=>?_;refine rg h109 fun ops=>?_;clear h109 a109;refine sa trivial rfl rfl ?_;refine St.nil fun a112 h112=>?_;refine hK111 _ _ ?_;refine wp_ret ?_;with_reducible repeat first | refine of_then_ret ?_ | refine of_block_ret ?_
   have R:x.form bl=2:=by
    rw [endForm_eq];generalize x.yes.form bl (x.op != 3)=yv;generalize x.no.form bl (x.op==2)=zv;first | (simp [hc12,hc17,hc77.out,hc105,hc110];done) | (exfalso;have:=hc12;have:=hc17;have:=hc77.out;have:=hc105;have:=hc110;omega)
   exact ret_tmp (t:=4) h112 rfl rfl ⟨by rw [R],hW3.bel⟩
  have hc113:¬ (8<x.args.length):=by have:=of_decide_eq_false hb;omega
  clear hb;refine wp_skip ?_;refine hK107 _ _ ?_;refine wp_seq_k fun K114 hK114=>?_;refine wp_seq_k fun K115 hK115=>?_;refine rg h109 fun ops=>?_;clear h109 a109;refine sS 1 4 Tryz.underlying42 rfl infFunc hW3 trivial rfl rfl rfl rfl ?_;refine sfEnd2 trivial rfl rfl ?_;refine sS 0 3 Tryz.underlying48 rfl infTo hW3 trivial rfl rfl rfl rfl ?_;refine sfEnd0 trivial rfl rfl ?_;refine sbInt 0 hW3 trivial rfl rfl rfl rfl ?_;refine sne trivial rfl rfl rfl ?_;refine sc_3 cf115 hW3 (toForm_any (x.op != 3) hs.1 hs.2.1 hbl) trivial rfl rfl rfl rfl ?_;clear hW3;intro w116 hW116;refine sa trivial rfl rfl ?_;refine St.nil fun a117 h117=>?_;refine hK115 _ _ ?_;refine wp_seq_k fun K118 hK118=>?_;refine rg h117 fun ops=>?_;clear h117 a117;refine sm trivial rfl rfl ?_;refine sne trivial rfl rfl rfl ?_;refine St.nil fun a119 h119=>?_;refine hK118 _ _ ?_;refine fr_cond (t:=45) h119 rfl (fun hb=>?_) (fun hb=>?_)
  ·have h9:¬ (x.yes.form bl (x.op != 3))=0:=bne_iff_ne.1 hb
   have hc120:¬ (x.yes.form bl (x.op != 3))=0:=h9;clear h9;clear hb;refine wp_seq_k fun K121 hK121=>?_;refine rg h119 fun ops=>?_;clear h119 a119;refine sm trivial rfl rfl ?_;refine sa trivial rfl rfl ?_;refine St.nil fun a122 h122=>?_;refine hK121 _ _ ?_;refine wp_ret ?_;with_reducible repeat first | refine of_then_ret ?_ | refine of_block_ret ?_
   have R:x.form bl=x.yes.form bl (x.op != 3):=by
    rw [endForm_eq];have hY:=hc120;generalize x.yes.form bl (x.op != 3)=yv at hY ⊢;generalize x.no.form bl (x.op==2)=zv;first | (simp [hc12,hc17,hc77.out,hc105,hc113,hY];done) | (exfalso;have:=hc12;have:=hc17;have:=hc77.out;have:=hc105;have:=hc113;omega)
   exact ret_tmp (t:=4) h122 rfl rfl ⟨by rw [R],hW116.bel⟩
  have h9:(x.yes.form bl (x.op != 3))=0:=bne_eq_false_iff_eq.1 hb;have hc123:Hid ((x.yes.form bl (x.op != 3))=0):=h9;clear h9;clear hb;refine wp_skip ?_;refine hK114 _ _ ?_;refine wp_seq_k fun K124 hK124=>?_;refine rg h119 fun ops=>?_;clear h119 a119;refine sS 1 4 Tryz.underlying42 rfl infFunc hW116 trivial rfl rfl rfl rfl ?_;refine sfEnd3 trivial rfl rfl ?_;refine sS 0 3 Tryz.underlying48 rfl infTo hW116 trivial rfl rfl rfl rfl ?_;refine sfEnd0 trivial rfl rfl ?_;refine sbInt 0 hW116 trivial rfl rfl rfl rfl ?_;refine seq trivial rfl rfl rfl ?_;refine sc_3 cf115 hW116 (toForm_any (x.op==2) hs.2.2.1 hs.2.2.2 hbl) trivial rfl rfl rfl rfl ?_;clear hW116;intro w125 hW125;refine sa trivial rfl rfl ?_;refine St.nil fun a126 h126=>?_;refine hK124 _ _ ?_;refine wp_ret ?_;with_reducible repeat first | refine of_then_ret ?_ | refine of_block_ret ?_
  have R:x.form bl=x.no.form bl (x.op==2):=by
   rw [endForm_eq];have hY:=hc123.out;generalize x.yes.form bl (x.op != 3)=yv at hY ⊢;generalize x.no.form bl (x.op==2)=zv;first | (simp [hc12,hc17,hc77.out,hc105,hc113,hY];done) | (exfalso;have:=hc12;have:=hc17;have:=hc77.out;have:=hc105;have:=hc113;omega)
  exact ret_tmp (t:=4) h126 rfl rfl ⟨by rw [R],hW125.bel⟩
theorem wrap_small (x : Int) (h : -4611686018427387904 ≤ x ∧ x < 4611686018427387904) : IntKind.i64.wrap x = x := by
  by_cases hx:0≤x
  · have e1:x % 2 ^ 64=x:=by omega
    simp only [IntKind.wrap,IntKind.signed,IntKind.bits,e1,Bool.true_and];rw [if_neg (by simp only [decide_eq_true_eq];omega)]
  · have e1:x % 2 ^ 64=x+2 ^ 64:=by omega
    simp only [IntKind.wrap,IntKind.signed,IntKind.bits,e1,Bool.true_and];rw [if_pos (by simp only [decide_eq_true_eq];omega)];omega
theorem atFunc_any {f : Nat} {w : World} (h : f < 1000000) :
    Rd Tryz.prog 37 #[.int .i64 (f:Int)] w (.int .i64 (10000*(f:Int)+9999)):=by
  refine fr_enter (n:=6) Tryz.func37 rfl rfl rfl ?_;intro a hF;have hW:=Wd.start w;replace hF:Fr 6 a [(0,.int .i64 (f:Int))]:=hF;refine wp_seq_k fun K1 hK1=>?_;refine rg hF fun ops=>?_;clear hF a;refine sa trivial rfl rfl ?_;refine St.nil fun a2 h2=>?_;refine hK1 _ _ ?_;refine wp_seq_k fun K3 hK3=>?_;refine rg h2 fun ops=>?_;clear h2 a2;refine sm trivial rfl rfl ?_;intro a4 h4;refine fr_pure (t:=4) (v:=.int .i64 (10000*(f:Int))) (w':=w) h4 rfl rfl rfl (fun K hK=>?_) ?_
  ·have k0:a4.tmps.getD 3 undef=.int .i64 (f:Int):=h4.sl 3 _ rfl
   have hwr:IntKind.i64.wrap (10000*(f:Int))=10000*(f:Int):=wrap_small _ (by omega);go_simp;exact hK
  clear h4;intro a5 hF5;refine fr_pure (t:=5) (v:=.int .i64 ((10000*(f:Int))+9999)) (w':=w) hF5 rfl rfl rfl (fun K hK=>?_) ?_
  ·have k0:a5.tmps.getD 4 undef=.int .i64 (10000*(f:Int)):=hF5.sl 4 _ rfl
   have hwr:IntKind.i64.wrap ((10000*(f:Int))+9999)=(10000*(f:Int))+9999:=wrap_small _ (by omega);go_simp;exact hK
  clear hF5;intro a6 hF6;refine St.go hF6 ?_;clear hF6 a6;refine sa trivial rfl rfl ?_;refine St.nil fun a7 h7=>?_;refine hK3 _ _ ?_;refine wp_ret ?_;with_reducible repeat first | refine of_then_ret ?_ | refine of_block_ret ?_
  have R:10000*(f:Int)+9999=((10000*(f:Int))+9999):=by omega
  exact ret_tmp (t:=2) h7 rfl rfl ⟨by rw [R],hW.bel⟩
theorem atBlock_any {f b : Nat} {w : World} (h : f < 1000000 ∧ b < 1000000) :
    Rd Tryz.prog 73 #[.int .i64 (f:Int),.int .i64 (b:Int)] w (.int .i64 (10000*(f:Int)+100*(b:Int)+90)):=by
  refine fr_enter (n:=11) Tryz.func73 rfl rfl rfl ?_;intro a hF;have hW:=Wd.start w;replace hF:Fr 11 a [(0,.int .i64 (f:Int)),(1,.int .i64 (b:Int))]:=hF;refine wp_seq_k fun K1 hK1=>?_;refine rg hF fun ops=>?_;clear hF a;refine sa trivial rfl rfl ?_;refine St.nil fun a2 h2=>?_;refine hK1 _ _ ?_;refine wp_seq_k fun K3 hK3=>?_;refine rg h2 fun ops=>?_;clear h2 a2;refine sm trivial rfl rfl ?_;intro a4 h4;refine fr_pure (t:=6) (v:=.int .i64 (10000*(f:Int))) (w':=w) h4 rfl rfl rfl (fun K hK=>?_) ?_
  ·have k0:a4.tmps.getD 5 undef=.int .i64 (f:Int):=h4.sl 5 _ rfl
   have hwr:IntKind.i64.wrap (10000*(f:Int))=10000*(f:Int):=wrap_small _ (by omega);go_simp;exact hK
  clear h4;intro a5 hF5;refine St.go hF5 ?_;clear hF5 a5;refine sm trivial rfl rfl ?_;intro a6 h6;refine fr_pure (t:=8) (v:=.int .i64 (100*(b:Int))) (w':=w) h6 rfl rfl rfl (fun K hK=>?_) ?_
  ·have k0:a6.tmps.getD 7 undef=.int .i64 (b:Int):=h6.sl 7 _ rfl
   have hwr:IntKind.i64.wrap (100*(b:Int))=100*(b:Int):=wrap_small _ (by omega);go_simp;exact hK
  clear h6;intro a7 hF7;refine fr_pure (t:=9) (v:=.int .i64 ((10000*(f:Int))+(100*(b:Int)))) (w':=w) hF7 rfl rfl rfl (fun K hK=>?_) ?_
  ·have k0:a7.tmps.getD 6 undef=.int .i64 (10000*(f:Int)):=hF7.sl 6 _ rfl
   have k1:a7.tmps.getD 8 undef=.int .i64 (100*(b:Int)):=hF7.sl 8 _ rfl;have hwr:IntKind.i64.wrap ((10000*(f:Int))+(100*(b:Int)))=(10000*(f:Int))+(100*(b:Int)):=wrap_small _ (by omega);go_simp;exact hK
  clear hF7;intro a8 hF8;refine fr_pure (t:=10) (v:=.int .i64 (((10000*(f:Int))+(100*(b:Int)))+90)) (w':=w) hF8 rfl rfl rfl (fun K hK=>?_) ?_
  ·have k0:a8.tmps.getD 9 undef=.int .i64 ((10000*(f:Int))+(100*(b:Int))):=hF8.sl 9 _ rfl
   have hwr:IntKind.i64.wrap (((10000*(f:Int))+(100*(b:Int)))+90)=((10000*(f:Int))+(100*(b:Int)))+90:=wrap_small _ (by omega);go_simp;exact hK
  clear hF8;intro a9 hF9;refine St.go hF9 ?_;clear hF9 a9;refine sa trivial rfl rfl ?_;refine St.nil fun a10 h10=>?_;refine hK3 _ _ ?_;refine wp_ret ?_;with_reducible repeat first | refine of_then_ret ?_ | refine of_block_ret ?_
  have R:10000*(f:Int)+100*(b:Int)+90=(((10000*(f:Int))+(100*(b:Int)))+90):=by omega
  exact ret_tmp (t:=4) h10 rfl rfl ⟨by rw [R],hW.bel⟩
theorem atEnd_any {f b : Nat} {w : World} (h : f < 1000000 ∧ b < 1000000) :
    Rd Tryz.prog 77 #[.int .i64 (f:Int),.int .i64 (b:Int)] w (.int .i64 (10000*(f:Int)+100*(b:Int)+91)):=by
  refine fr_enter (n:=11) Tryz.func77 rfl rfl rfl ?_;intro a hF;have hW:=Wd.start w;replace hF:Fr 11 a [(0,.int .i64 (f:Int)),(1,.int .i64 (b:Int))]:=hF;refine wp_seq_k fun K1 hK1=>?_;refine rg hF fun ops=>?_;clear hF a;refine sa trivial rfl rfl ?_;refine St.nil fun a2 h2=>?_;refine hK1 _ _ ?_;refine wp_seq_k fun K3 hK3=>?_;refine rg h2 fun ops=>?_;clear h2 a2;refine sm trivial rfl rfl ?_;intro a4 h4;refine fr_pure (t:=6) (v:=.int .i64 (10000*(f:Int))) (w':=w) h4 rfl rfl rfl (fun K hK=>?_) ?_
  ·have k0:a4.tmps.getD 5 undef=.int .i64 (f:Int):=h4.sl 5 _ rfl
   have hwr:IntKind.i64.wrap (10000*(f:Int))=10000*(f:Int):=wrap_small _ (by omega);go_simp;exact hK
  clear h4;intro a5 hF5;refine St.go hF5 ?_;clear hF5 a5;refine sm trivial rfl rfl ?_;intro a6 h6;refine fr_pure (t:=8) (v:=.int .i64 (100*(b:Int))) (w':=w) h6 rfl rfl rfl (fun K hK=>?_) ?_
  ·have k0:a6.tmps.getD 7 undef=.int .i64 (b:Int):=h6.sl 7 _ rfl
   have hwr:IntKind.i64.wrap (100*(b:Int))=100*(b:Int):=wrap_small _ (by omega);go_simp;exact hK
  clear h6;intro a7 hF7;refine fr_pure (t:=9) (v:=.int .i64 ((10000*(f:Int))+(100*(b:Int)))) (w':=w) hF7 rfl rfl rfl (fun K hK=>?_) ?_
  ·have k0:a7.tmps.getD 6 undef=.int .i64 (10000*(f:Int)):=hF7.sl 6 _ rfl
   have k1:a7.tmps.getD 8 undef=.int .i64 (100*(b:Int)):=hF7.sl 8 _ rfl;have hwr:IntKind.i64.wrap ((10000*(f:Int))+(100*(b:Int)))=(10000*(f:Int))+(100*(b:Int)):=wrap_small _ (by omega);go_simp;exact hK
  clear hF7;intro a8 hF8;refine fr_pure (t:=10) (v:=.int .i64 (((10000*(f:Int))+(100*(b:Int)))+91)) (w':=w) hF8 rfl rfl rfl (fun K hK=>?_) ?_
  ·have k0:a8.tmps.getD 9 undef=.int .i64 ((10000*(f:Int))+(100*(b:Int))):=hF8.sl 9 _ rfl
   have hwr:IntKind.i64.wrap (((10000*(f:Int))+(100*(b:Int)))+91)=((10000*(f:Int))+(100*(b:Int)))+91:=wrap_small _ (by omega);go_simp;exact hK
  clear hF8;intro a9 hF9;refine St.go hF9 ?_;clear hF9 a9;refine sa trivial rfl rfl ?_;refine St.nil fun a10 h10=>?_;refine hK3 _ _ ?_;refine wp_ret ?_;with_reducible repeat first | refine of_then_ret ?_ | refine of_block_ret ?_
  have R:10000*(f:Int)+100*(b:Int)+91=(((10000*(f:Int))+(100*(b:Int)))+91):=by omega
  exact ret_tmp (t:=4) h10 rfl rfl ⟨by rw [R],hW.bel⟩
theorem atIns_any {f b i : Nat} {w : World} (h : f < 1000000 ∧ b < 1000000 ∧ i < 1000000) :
    Rd Tryz.prog 75 #[.int .i64 (f:Int),.int .i64 (b:Int),.int .i64 (i:Int)] w (.int .i64 (10000*(f:Int)+100*(b:Int)+(i:Int))):=by
  refine fr_enter (n:=14) Tryz.func75 rfl rfl rfl ?_;intro a hF;have hW:=Wd.start w;replace hF:Fr 14 a [(0,.int .i64 (f:Int)),(1,.int .i64 (b:Int)),(2,.int .i64 (i:Int))]:=hF;refine wp_seq_k fun K1 hK1=>?_;refine rg hF fun ops=>?_;clear hF a;refine sa trivial rfl rfl ?_;refine St.nil fun a2 h2=>?_;refine hK1 _ _ ?_;refine wp_seq_k fun K3 hK3=>?_;refine rg h2 fun ops=>?_;clear h2 a2;refine sm trivial rfl rfl ?_;intro a4 h4;refine fr_pure (t:=8) (v:=.int .i64 (10000*(f:Int))) (w':=w) h4 rfl rfl rfl (fun K hK=>?_) ?_
  ·have k0:a4.tmps.getD 7 undef=.int .i64 (f:Int):=h4.sl 7 _ rfl
   have hwr:IntKind.i64.wrap (10000*(f:Int))=10000*(f:Int):=wrap_small _ (by omega);go_simp;exact hK
  clear h4;intro a5 hF5;refine St.go hF5 ?_;clear hF5 a5;refine sm trivial rfl rfl ?_;intro a6 h6;refine fr_pure (t:=10) (v:=.int .i64 (100*(b:Int))) (w':=w) h6 rfl rfl rfl (fun K hK=>?_) ?_
  ·have k0:a6.tmps.getD 9 undef=.int .i64 (b:Int):=h6.sl 9 _ rfl
   have hwr:IntKind.i64.wrap (100*(b:Int))=100*(b:Int):=wrap_small _ (by omega);go_simp;exact hK
  clear h6;intro a7 hF7;refine fr_pure (t:=11) (v:=.int .i64 ((10000*(f:Int))+(100*(b:Int)))) (w':=w) hF7 rfl rfl rfl (fun K hK=>?_) ?_
  ·have k0:a7.tmps.getD 8 undef=.int .i64 (10000*(f:Int)):=hF7.sl 8 _ rfl
   have k1:a7.tmps.getD 10 undef=.int .i64 (100*(b:Int)):=hF7.sl 10 _ rfl;have hwr:IntKind.i64.wrap ((10000*(f:Int))+(100*(b:Int)))=(10000*(f:Int))+(100*(b:Int)):=wrap_small _ (by omega);go_simp;exact hK
  clear hF7;intro a8 hF8;refine St.go hF8 ?_;clear hF8 a8;refine sm trivial rfl rfl ?_;intro a9 h9;refine fr_pure (t:=13) (v:=.int .i64 (((10000*(f:Int))+(100*(b:Int)))+(i:Int))) (w':=w) h9 rfl rfl rfl (fun K hK=>?_) ?_
  ·have k0:a9.tmps.getD 11 undef=.int .i64 ((10000*(f:Int))+(100*(b:Int))):=h9.sl 11 _ rfl
   have k1:a9.tmps.getD 12 undef=.int .i64 (i:Int):=h9.sl 12 _ rfl;have hwr:IntKind.i64.wrap (((10000*(f:Int))+(100*(b:Int)))+(i:Int))=((10000*(f:Int))+(100*(b:Int)))+(i:Int):=wrap_small _ (by omega);go_simp;exact hK
  clear h9;intro a10 hF10;refine St.go hF10 ?_;clear hF10 a10;refine sa trivial rfl rfl ?_;refine St.nil fun a11 h11=>?_;refine hK3 _ _ ?_;refine wp_ret ?_;with_reducible repeat first | refine of_then_ret ?_ | refine of_block_ret ?_
  have R:10000*(f:Int)+100*(b:Int)+(i:Int)=(((10000*(f:Int))+(100*(b:Int)))+(i:Int)):=by omega
  exact ret_tmp (t:=6) h11 rfl rfl ⟨by rw [R],hW.bel⟩
end Go.Proofs.YtalfbnllodhkiacGreatDoor
