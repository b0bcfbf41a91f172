import Derived.Test.YtacjnejckfhpoaeGreatP6
set_option maxHeartbeats 16000000
set_option maxRecDepth 100000
namespace Go.Proofs.YtacjnejckfhpoaeGreat
open Go.ChangeShapes Go.WideShapes Go.ChangeAt Go.RowKit
set_option linter.unusedSimpArgs false
set_option linter.unusedVariables false
theorem sameModule_any {n : Nat} {m k : List (MFunc n)} {p p2 : Option Addr} {c d : Nat} {w : World} (hm0 : (modL n).In w All m [.slice p m.length c]) (hk0 : (modL n).In w All k [.slice p2 k.length d]) (hs0 : msmall m) :
    Rd Tryz.prog 19 #[.agg #[.slice p m.length c],.agg #[.slice p2 k.length d]] w (.bool (bdec (m=k))):=by
  have hm:Hid _:=hm0;have hk:Hid _:=hk0;have hs:Hid _:=hs0;have hcl:=hs0.1;clear hm0 hk0 hs0;refine fr_enter (n:=82) Tryz.func19 rfl rfl rfl ?_;intro a hF;have hW:=Wd.start w;replace hF:Fr 82 a [(0,.agg #[.slice p m.length c]),(1,.agg #[.slice p2 k.length d])]:=hF;refine wp_seq_k fun K1 hK1=>?_;refine rg hF fun ops=>?_;clear hF a;refine sB hW trivial rfl rfl ?_;clear hW;intro w2 B2 hW2 hN;clear hN;refine sB hW2 trivial rfl rfl ?_;clear hW2;intro w3 B3 hW3 hN;clear hN;refine sa trivial rfl rfl ?_;refine St.nil fun a4 h4=>?_;refine hK1 _ _ ?_;refine wp_seq_k fun K5 hK5=>?_;refine wp_seq_k fun K6 hK6=>?_;refine rg h4 fun ops=>?_;clear h4 a4;refine sfModule0 trivial rfl rfl ?_;refine sbFuncs 1 hW3 trivial rfl rfl rfl rfl ?_;refine slFuncs trivial rfl rfl ?_;refine sfModule0 trivial rfl rfl ?_;refine sbFuncs 0 hW3 trivial rfl rfl rfl rfl ?_;refine slFuncs trivial rfl rfl ?_;refine sne trivial rfl rfl rfl ?_;refine St.nil fun a7 h7=>?_;refine hK6 _ _ ?_;refine fr_cond (t:=15) h7 rfl (fun hb=>?_) (fun hb=>?_)
  ·have h9:¬ m.length=k.length:=by have h8:=bne_iff_ne.1 hb;omega
   have hlen:¬ m.length=k.length:=h9;clear h9;clear hb;refine wp_seq_k fun K8 hK8=>?_;refine rg h7 fun ops=>?_;clear h7 a7;refine sa trivial rfl rfl ?_;refine St.nil fun a9 h9=>?_;refine hK8 _ _ ?_;refine wp_ret ?_;with_reducible repeat first | refine of_then_ret ?_ | refine of_block_ret ?_
   have R:¬ m=k:=fun e=>hlen (by rw [e]);exact ret_tmp (t:=4) h9 rfl rfl ⟨by rw [bdec_false R],hW3.bel⟩
  have h9:m.length=k.length:=by have h8:=bne_eq_false_iff_eq.1 hb;omega
  have hlen:Hid (m.length=k.length):=h9;clear h9;clear hb;refine wp_skip ?_;refine hK5 _ _ ?_;refine wp_seq_k fun K10 hK10=>?_;refine wp_seq_k fun K11 hK11=>?_;refine rg h7 fun ops=>?_;clear h7 a7;refine sa trivial rfl rfl ?_;refine St.nil fun a12 h12=>?_;refine hK11 _ _ ?_;refine wp_block ?_;refine fr_loop (fun r a w'=>∃ q:Nat,q≤m.length∧r=m.length - q∧(∀ j,j<q→m[j]?=k[j]?)∧Fr 82 a [(1,.agg #[.slice p2 k.length d]),(0,.agg #[.slice p m.length c]),(2,.pointer (some ⟨B2,0,none⟩)),(3,.pointer (some ⟨B3,0,none⟩)),(4,.bool false),(5,.int .i64 (q:Int))]∧Wd w w' [(B3,#[.slice p2 k.length d],24),(B2,#[.slice p m.length c],24)]) (m.length) ⟨0,Nat.zero_le _,rfl,(fun j hj=>by omega),(h12.keep (h12.keep (h12.keep (h12.keep (h12.keep (h12.keep h12.nil (t:=5) rfl) (t:=4) rfl) (t:=3) rfl) (t:=2) rfl) (t:=0) rfl) (t:=1) rfl),hW3⟩ ?_;clear h12 hW3;rintro r a13 w13 ⟨q,hq,hr,hall,hF13,hW13⟩ KL hKL;refine wp_seq_k fun K14 hK14=>?_;refine wp_seq_k fun K15 hK15=>?_;refine rg hF13 fun ops=>?_;clear hF13 a13;refine sm trivial rfl rfl ?_;refine sfModule0 trivial rfl rfl ?_;refine sbFuncs 1 hW13 trivial rfl rfl rfl rfl ?_;refine slFuncs trivial rfl rfl ?_;refine slt trivial rfl rfl rfl ?_;refine St.nil fun a16 h16=>?_;refine hK15 _ _ ?_;refine fr_cond (t:=20) h16 rfl (fun hb=>?_) (fun hb=>?_)
  ·have hlt1:q<m.length:=by have:=of_decide_eq_true hb;omega
   have hlt2:q<k.length:=by have:=hlen.out;omega
   clear hb;obtain ⟨x,hx1⟩:∃ v9,(m)[q]?=some v9:=⟨_,List.getElem?_eq_getElem hlt1⟩;obtain ⟨g1,o1,f1,hp1,E1,In1⟩:=func_at hm.out hx1;replace In1:Hid _:=In1;replace hp1:Hid _:=hp1;replace hx1:Hid _:=hx1;replace E1:Hid _:=E1;obtain ⟨y,hx2⟩:∃ v9,(k)[q]?=some v9:=⟨_,List.getElem?_eq_getElem hlt2⟩;obtain ⟨g2,o2,f2,hp2,E2,In2⟩:=func_at hk.out hx2;replace In2:Hid _:=In2;replace hp2:Hid _:=hp2;replace hx2:Hid _:=hx2;replace E2:Hid _:=E2;have hs1:Hid _:=hs.out.2 x (List.mem_of_getElem? hx1.out);have hbl:=hs1.out.1;refine wp_skip ?_;refine hK14 _ _ ?_;refine wp_seq_k fun K17 hK17=>?_;refine wp_block ?_;refine wp_seq_k fun K18 hK18=>?_;have hF19:Fr 82 a16 [(1,.agg #[.slice p2 k.length d]),(0,.agg #[.slice p m.length c]),(2,.pointer (some ⟨B2,0,none⟩)),(3,.pointer (some ⟨B3,0,none⟩)),(4,.bool false),(5,.int .i64 (q:Int))]:=(h16.keep (h16.keep (h16.keep (h16.keep (h16.keep (h16.keep h16.nil (t:=5) rfl) (t:=4) rfl) (t:=3) rfl) (t:=2) rfl) (t:=0) rfl) (t:=1) rfl);have ho2:a16.tmps.getD 2 undef=.pointer (some ⟨B2,0,none⟩):=h16.sl 2 _ rfl;have ho5:a16.tmps.getD 5 undef=.int .i64 (q:Int):=h16.sl 5 _ rfl;have ho3:a16.tmps.getD 3 undef=.pointer (some ⟨B3,0,none⟩):=h16.sl 3 _ rfl;refine fr_draw3 [(0,23),(1,24),(2,25),(3,26),(4,27),(5,28),(6,29),(7,30),(8,31),(9,32)] [(10,6,4,40),(11,7,4,40)] [(12,6,4,40),(13,7,4,40)] [(23,.pointer (some ⟨B2,0,none⟩)),(24,.slice p m.length c),(25,.int .i64 (q:Int)),(26,.pointer (some ⟨g1,o1+q*4,none⟩)),(27,.agg #[.int .i64 x.regs,.slice f1.pP x.params.length f1.cP,.slice f1.pR x.results.length f1.cR,.slice f1.pB x.blocks.length f1.cB]),(28,.pointer (some ⟨B3,0,none⟩)),(29,.slice p2 k.length d),(30,.int .i64 (q:Int)),(31,.pointer (some ⟨g2,o2+q*4,none⟩)),(32,.agg #[.int .i64 y.regs,.slice f2.pP y.params.length f2.cP,.slice f2.pR y.results.length f2.cR,.slice f2.pB y.blocks.length f2.cB])] [(6,[.int .i64 x.regs,.slice f1.pP x.params.length f1.cP,.slice f1.pR x.results.length f1.cR,.slice f1.pB x.blocks.length f1.cB]),(7,[.int .i64 y.regs,.slice f2.pP y.params.length f2.cP,.slice f2.pR y.results.length f2.cR,.slice f2.pB y.blocks.length f2.cB])] (by kernel_rfl) hF19 (by kernel_rfl) (by kernel_rfl) (fun hDB=>?hst) ?hend
   case hst =>
    refine ⟨fun S a1 w1 hS hd hcl hI K hK=>?_,?_⟩
    · have hWd:=hW13.below hI.bel;have k0:a1.tmps.getD 2 undef=.pointer (some ⟨B2,0,none⟩):=(hI.outer 2 (by kernel_rfl)).trans ho2;go_simp;exact hK _ _ (DI.pure hDB hI (i:=0) (t:=23) (by decide) rfl hS (Below.refl _ _) (by kernel_rfl) (by kernel_rfl))
    refine ⟨fun S a1 w1 hS hd hcl hI K hK=>?_,?_⟩
    · have hWd:=hW13.below hI.bel;have k0:a1.tmps.getD 23 undef=.pointer (some ⟨B2,0,none⟩):=hI.vals (0,23) (by decide) (hd.at 0 (by kernel_rfl)) _ rfl;have c0:w1.cell? ⟨B2,0,none⟩=some (.slice p m.length c):=cellOf (hWd.get 1 rfl) 0 _ rfl;go_simp;exact hK _ _ (DI.pure hDB hI (i:=1) (t:=24) (by decide) rfl hS (Below.refl _ _) (by kernel_rfl) (by kernel_rfl))
    refine ⟨fun S a1 w1 hS hd hcl hI K hK=>?_,?_⟩
    · have hWd:=hW13.below hI.bel;have k0:a1.tmps.getD 5 undef=.int .i64 (q:Int):=(hI.outer 5 (by kernel_rfl)).trans ho5;go_simp;exact hK _ _ (DI.pure hDB hI (i:=2) (t:=25) (by decide) rfl hS (Below.refl _ _) (by kernel_rfl) (by kernel_rfl))
    refine ⟨fun S a1 w1 hS hd hcl hI K hK=>?_,?_⟩
    · have hWd:=hW13.below hI.bel;have k0:a1.tmps.getD 24 undef=.slice p m.length c:=hI.vals (1,24) (by decide) (hd.at 1 (by kernel_rfl)) _ rfl;have k1:a1.tmps.getD 25 undef=.int .i64 (q:Int):=hI.vals (2,25) (by decide) (hd.at 2 (by kernel_rfl)) _ rfl;have hpq:=hp1.out;have hk0:(0:Int)≤q:=by omega
      have hk1:(q:Int)<(m.length:Int):=by omega
      go_simp;exact hK _ _ (DI.pure hDB hI (i:=3) (t:=26) (by decide) rfl hS (Below.refl _ _) (by kernel_rfl) (by kernel_rfl))
    refine ⟨fun S a1 w1 hS hd hcl hI K hK=>?_,?_⟩
    · have hWd:=hW13.below hI.bel;have k0:a1.tmps.getD 26 undef=.pointer (some ⟨g1,o1+q*4,none⟩):=hI.vals (3,26) (by decide) (hd.at 3 (by kernel_rfl)) _ rfl;have d0:w1.cell? ⟨g1,o1+q*4,none⟩=some (.int .i64 x.regs):=bel_cell hWd.bel (E1.out 0 _ rfl);have d1:w1.cell? ⟨g1,o1+q*4+1,none⟩=some (.slice f1.pP x.params.length f1.cP):=bel_cell hWd.bel (E1.out 1 _ rfl);have d2:w1.cell? ⟨g1,o1+q*4+2,none⟩=some (.slice f1.pR x.results.length f1.cR):=bel_cell hWd.bel (E1.out 2 _ rfl);have d3:w1.cell? ⟨g1,o1+q*4+3,none⟩=some (.slice f1.pB x.blocks.length f1.cB):=bel_cell hWd.bel (E1.out 3 _ rfl);go_simp;exact hK _ _ (DI.pure hDB hI (i:=4) (t:=27) (by decide) rfl hS (Below.refl _ _) (by kernel_rfl) (by kernel_rfl))
    refine ⟨fun S a1 w1 hS hd hcl hI K hK=>?_,?_⟩
    · have hWd:=hW13.below hI.bel;have k0:a1.tmps.getD 3 undef=.pointer (some ⟨B3,0,none⟩):=(hI.outer 3 (by kernel_rfl)).trans ho3;go_simp;exact hK _ _ (DI.pure hDB hI (i:=5) (t:=28) (by decide) rfl hS (Below.refl _ _) (by kernel_rfl) (by kernel_rfl))
    refine ⟨fun S a1 w1 hS hd hcl hI K hK=>?_,?_⟩
    · have hWd:=hW13.below hI.bel;have k0:a1.tmps.getD 28 undef=.pointer (some ⟨B3,0,none⟩):=hI.vals (5,28) (by decide) (hd.at 5 (by kernel_rfl)) _ rfl;have c0:w1.cell? ⟨B3,0,none⟩=some (.slice p2 k.length d):=cellOf (hWd.get 0 rfl) 0 _ rfl;go_simp;exact hK _ _ (DI.pure hDB hI (i:=6) (t:=29) (by decide) rfl hS (Below.refl _ _) (by kernel_rfl) (by kernel_rfl))
    refine ⟨fun S a1 w1 hS hd hcl hI K hK=>?_,?_⟩
    · have hWd:=hW13.below hI.bel;have k0:a1.tmps.getD 5 undef=.int .i64 (q:Int):=(hI.outer 5 (by kernel_rfl)).trans ho5;go_simp;exact hK _ _ (DI.pure hDB hI (i:=7) (t:=30) (by decide) rfl hS (Below.refl _ _) (by kernel_rfl) (by kernel_rfl))
    refine ⟨fun S a1 w1 hS hd hcl hI K hK=>?_,?_⟩
    · have hWd:=hW13.below hI.bel;have k0:a1.tmps.getD 29 undef=.slice p2 k.length d:=hI.vals (6,29) (by decide) (hd.at 6 (by kernel_rfl)) _ rfl;have k1:a1.tmps.getD 30 undef=.int .i64 (q:Int):=hI.vals (7,30) (by decide) (hd.at 7 (by kernel_rfl)) _ rfl;have hpq:=hp2.out;have hk0:(0:Int)≤q:=by omega
      have hk1:(q:Int)<(k.length:Int):=by omega
      go_simp;exact hK _ _ (DI.pure hDB hI (i:=8) (t:=31) (by decide) rfl hS (Below.refl _ _) (by kernel_rfl) (by kernel_rfl))
    refine ⟨fun S a1 w1 hS hd hcl hI K hK=>?_,?_⟩
    · have hWd:=hW13.below hI.bel;have k0:a1.tmps.getD 31 undef=.pointer (some ⟨g2,o2+q*4,none⟩):=hI.vals (8,31) (by decide) (hd.at 8 (by kernel_rfl)) _ rfl;have d0:w1.cell? ⟨g2,o2+q*4,none⟩=some (.int .i64 y.regs):=bel_cell hWd.bel (E2.out 0 _ rfl);have d1:w1.cell? ⟨g2,o2+q*4+1,none⟩=some (.slice f2.pP y.params.length f2.cP):=bel_cell hWd.bel (E2.out 1 _ rfl);have d2:w1.cell? ⟨g2,o2+q*4+2,none⟩=some (.slice f2.pR y.results.length f2.cR):=bel_cell hWd.bel (E2.out 2 _ rfl);have d3:w1.cell? ⟨g2,o2+q*4+3,none⟩=some (.slice f2.pB y.blocks.length f2.cB):=bel_cell hWd.bel (E2.out 3 _ rfl);go_simp;exact hK _ _ (DI.pure hDB hI (i:=9) (t:=32) (by decide) rfl hS (Below.refl _ _) (by kernel_rfl) (by kernel_rfl))
    refine ⟨fun S a1 w1 hS hd hcl hI K hK=>?_,?_⟩
    · go_simp;exact hK _ _ (DI.alloc hDB hI (i:=10) (t:=6) (s:=4) (ty:=40) (by decide) rfl hS hcl (by kernel_rfl) (by kernel_rfl))
    refine ⟨fun S a1 w1 hS hd hcl hI K hK=>?_,?_⟩
    · go_simp;exact hK _ _ (DI.alloc hDB hI (i:=11) (t:=7) (s:=4) (ty:=40) (by decide) rfl hS hcl (by kernel_rfl) (by kernel_rfl))
    refine ⟨fun S a1 w1 hS hd hcl hI K hK=>?_,?_⟩
    · have k0:a1.tmps.getD 27 undef=.agg #[.int .i64 x.regs,.slice f1.pP x.params.length f1.cP,.slice f1.pR x.results.length f1.cR,.slice f1.pB x.blocks.length f1.cB]:=hI.vals (4,27) (by decide) (hd.at 4 (by kernel_rfl)) _ rfl;obtain ⟨B,kB,hlo,c0,hBk,hcs⟩:=hI.box (i:=10) (t:=6) (s:=4) (ty:=40) (by decide) (hd.at 10 (by kernel_rfl));exact wp_fill hBk kB k0 infFunc rfl hcs.symm (hK _ _ (DI.store hDB hI (i:=12) (t:=6) (s:=4) (ty:=40) (j:=10) (by decide) (by decide) (hd.at 10 (by kernel_rfl)) kB hBk hcs hlo rfl rfl hS hcl (by kernel_rfl) (by kernel_rfl)))
    refine ⟨fun S a1 w1 hS hd hcl hI K hK=>?_,?_⟩
    · have k0:a1.tmps.getD 32 undef=.agg #[.int .i64 y.regs,.slice f2.pP y.params.length f2.cP,.slice f2.pR y.results.length f2.cR,.slice f2.pB y.blocks.length f2.cB]:=hI.vals (9,32) (by decide) (hd.at 9 (by kernel_rfl)) _ rfl;obtain ⟨B,kB,hlo,c0,hBk,hcs⟩:=hI.box (i:=11) (t:=7) (s:=4) (ty:=40) (by decide) (hd.at 11 (by kernel_rfl));exact wp_fill hBk kB k0 infFunc rfl hcs.symm (hK _ _ (DI.store hDB hI (i:=13) (t:=7) (s:=4) (ty:=40) (j:=11) (by decide) (by decide) (hd.at 11 (by kernel_rfl)) kB hBk hcs hlo rfl rfl hS hcl (by kernel_rfl) (by kernel_rfl)))
    trivial
   case hend =>
    intro S a20 w20 hS hD hFD;obtain ⟨BD6,hd6,hBl6,hBk6⟩:=hD.full (j:=10) (i:=12) (t:=6) (s:=4) (ty:=40) (by decide) (hS _ (by decide)) (by decide) (hS _ (by decide)) rfl;obtain ⟨BD7,hd7,hBl7,hBk7⟩:=hD.full (j:=11) (i:=13) (t:=7) (s:=4) (ty:=40) (by decide) (hS _ (by decide)) (by decide) (hS _ (by decide)) rfl;have hF20:Fr 82 a20 [(7,.pointer (some ⟨BD7,0,none⟩)),(6,.pointer (some ⟨BD6,0,none⟩)),(1,.agg #[.slice p2 k.length d]),(0,.agg #[.slice p m.length c]),(2,.pointer (some ⟨B2,0,none⟩)),(3,.pointer (some ⟨B3,0,none⟩)),(4,.bool false),(5,.int .i64 (q:Int))]:=((hFD.cons hd6).cons hd7);have hnB:BD6≠BD7:=fun e=>hD.ne (10,6,4,40) (by decide) (11,7,4,40) (by decide) (by decide) (hS _ (by decide)) (hS _ (by decide)) (by rw [hd6,hd7,e]);have hW20:Wd w w20 [(BD6,#[.int .i64 x.regs,.slice f1.pP x.params.length f1.cP,.slice f1.pR x.results.length f1.cR,.slice f1.pB x.blocks.length f1.cB],40),(BD7,#[.int .i64 y.regs,.slice f2.pP y.params.length f2.cP,.slice f2.pR y.results.length f2.cR,.slice f2.pB y.blocks.length f2.cB],40),(B3,#[.slice p2 k.length d],24),(B2,#[.slice p m.length c],24)]:=Wd.add2 (hW13.below hD.bel) hW13 hBk6 hBk7 hnB hBl6 hBl7;clear hS hD hFD hnB hW13 hd6 hd7;clear hBl6 hBk6 hBl7 hBk7;refine hK18 _ _ ?_;refine wp_seq_k fun K21 hK21=>?_;refine wp_seq_k fun K22 hK22=>?_;refine fr_region ?_;intro ops hops;have hg5:(ops[5]?).bind (fun o:Oper=>o.dst)=some 38:=hops 5;have hg13:(ops[13]?).bind (fun o:Oper=>o.dst)=some 46:=hops 13;have hg21:(ops[21]?).bind (fun o:Oper=>o.dst)=some 54:=hops 21;clear hops;refine St.go hF20 ?_;clear hF20 a20;refine sfFunc0 trivial rfl rfl ?_;refine sbInt 0 hW20 trivial rfl rfl rfl rfl ?_;refine sfFunc0 trivial rfl rfl ?_;refine sbInt 1 hW20 trivial rfl rfl rfl rfl ?_;refine sne trivial rfl rfl rfl ?_;refine sm trivial rfl rfl ?_;intro a23 h23;rcases Bool.eq_false_or_eq_true (x.regs != y.regs) with hb | hb
    ·rw [hb] at h23
     have h9:¬ x.regs=y.regs:=bne_iff_ne.1 hb;have hc24:¬ x.regs=y.regs:=h9;clear h9;clear hb;refine St.go h23 ?_;clear h23 a23;refine so hg5 rfl rfl rfl rfl ?_;refine so hg5 rfl rfl rfl rfl ?_;refine so hg5 rfl rfl rfl rfl ?_;refine so hg5 rfl rfl rfl rfl ?_;refine so hg5 rfl rfl rfl rfl ?_;refine so hg5 rfl rfl rfl rfl ?_;refine sp trivial rfl rfl rfl ?_;refine sm trivial rfl rfl ?_;refine so hg13 rfl rfl rfl rfl ?_;refine so hg13 rfl rfl rfl rfl ?_;refine so hg13 rfl rfl rfl rfl ?_;refine so hg13 rfl rfl rfl rfl ?_;refine so hg13 rfl rfl rfl rfl ?_;refine so hg13 rfl rfl rfl rfl ?_;refine sp trivial rfl rfl rfl ?_;refine sm trivial rfl rfl ?_;refine so hg21 rfl rfl rfl rfl ?_;refine so hg21 rfl rfl rfl rfl ?_;refine so hg21 rfl rfl rfl rfl ?_;refine so hg21 rfl rfl rfl rfl ?_;refine so hg21 rfl rfl rfl rfl ?_;refine so hg21 rfl rfl rfl rfl ?_;refine so hg21 rfl rfl rfl rfl ?_;refine sp trivial rfl rfl rfl ?_;refine St.nil fun a25 h25=>?_;refine hK22 _ _ ?_;refine fr_true (t:=62) h25 rfl ?_;refine wp_seq_k fun K26 hK26=>?_;refine rg h25 fun ops=>?_;clear h25 a25;refine sa trivial rfl rfl ?_;refine St.nil fun a27 h27=>?_;refine hK26 _ _ ?_;refine wp_ret ?_;with_reducible repeat first | refine of_then_ret ?_ | refine of_block_ret ?_
     have RX:¬ x=y:=by
       intro e
       first
         | exact hlb (by rw [e])
         | exact hc24 (by rw [e])
     have R:¬ m=k:=by
       intro e;have h1:=hx1.out;rw [e,hx2.out] at h1;exact RX (Option.some.inj h1).symm
     exact ret_tmp (t:=4) h27 rfl rfl ⟨by rw [bdec_false R],hW20.bel⟩
    rw [hb] at h23;have h9:x.regs=y.regs:=bne_eq_false_iff_eq.1 hb;have hc28:Hid (x.regs=y.regs):=h9;clear h9;clear hb;refine St.go h23 ?_;clear h23 a23;refine sfFunc1 ⟨_,hg5,rfl,rfl⟩ rfl rfl ?_;refine sbTypes 0 hW20 ⟨_,hg5,rfl,rfl⟩ rfl rfl rfl rfl ?_;refine sfFunc1 ⟨_,hg5,rfl,rfl⟩ rfl rfl ?_;refine sbTypes 1 hW20 ⟨_,hg5,rfl,rfl⟩ rfl rfl rfl rfl ?_;refine sc_2 cf13 hW20 (sameTypes_any (Lay.below In1.out.params hW20.bel) (Lay.below In2.out.params hW20.bel) hs1.out.2.1) ⟨_,hg5,rfl,rfl⟩ rfl rfl rfl ?_;clear hW20;intro w29 hW29;refine sn ⟨_,hg5,rfl,rfl⟩ rfl rfl ?_;refine spf trivial rfl rfl rfl ?_;refine sm trivial rfl rfl ?_;intro a30 h30;rcases Bool.eq_false_or_eq_true (!(bdec (x.params=y.params))) with hb | hb
    ·rw [hb] at h30
     have hb:(bdec (x.params=y.params))=false:=by simpa using hb
     have hc31:¬ (x.params=y.params):=fun h=>by rw [bdec_true h] at hb;cases hb
     clear hb;refine St.go h30 ?_;clear h30 a30;refine so hg13 rfl rfl rfl rfl ?_;refine so hg13 rfl rfl rfl rfl ?_;refine so hg13 rfl rfl rfl rfl ?_;refine so hg13 rfl rfl rfl rfl ?_;refine so hg13 rfl rfl rfl rfl ?_;refine so hg13 rfl rfl rfl rfl ?_;refine sp trivial rfl rfl rfl ?_;refine sm trivial rfl rfl ?_;refine so hg21 rfl rfl rfl rfl ?_;refine so hg21 rfl rfl rfl rfl ?_;refine so hg21 rfl rfl rfl rfl ?_;refine so hg21 rfl rfl rfl rfl ?_;refine so hg21 rfl rfl rfl rfl ?_;refine so hg21 rfl rfl rfl rfl ?_;refine so hg21 rfl rfl rfl rfl ?_;refine sp trivial rfl rfl rfl ?_;refine St.nil fun a32 h32=>?_;refine hK22 _ _ ?_;refine fr_true (t:=62) h32 rfl ?_;refine wp_seq_k fun K33 hK33=>?_;refine rg h32 fun ops=>?_;clear h32 a32;refine sa trivial rfl rfl ?_;refine St.nil fun a34 h34=>?_;refine hK33 _ _ ?_;refine wp_ret ?_;with_reducible repeat first | refine of_then_ret ?_ | refine of_block_ret ?_
     have RX:¬ x=y:=by
       intro e
       first
         | exact hlb (by rw [e])
         | exact hc31 (by rw [e])
         | exact hc28 (by rw [e])
     have R:¬ m=k:=by
       intro e;have h1:=hx1.out;rw [e,hx2.out] at h1;exact RX (Option.some.inj h1).symm
     exact ret_tmp (t:=4) h34 rfl rfl ⟨by rw [bdec_false R],hW29.bel⟩
    rw [hb] at h30;have hb:(bdec (x.params=y.params))=true:=by simpa using hb
    have hc35:(x.params=y.params):=bdec_iff.1 hb;clear hb;refine St.go h30 ?_;clear h30 a30;refine sfFunc2 ⟨_,hg13,rfl,rfl⟩ rfl rfl ?_;refine sbTypes 0 hW29 ⟨_,hg13,rfl,rfl⟩ rfl rfl rfl rfl ?_;refine sfFunc2 ⟨_,hg13,rfl,rfl⟩ rfl rfl ?_;refine sbTypes 1 hW29 ⟨_,hg13,rfl,rfl⟩ rfl rfl rfl rfl ?_;refine sc_2 cf13 hW29 (sameTypes_any (Lay.below In1.out.results hW29.bel) (Lay.below In2.out.results hW29.bel) hs1.out.2.2.1) ⟨_,hg13,rfl,rfl⟩ rfl rfl rfl ?_;clear hW29;intro w36 hW36;refine sn ⟨_,hg13,rfl,rfl⟩ rfl rfl ?_;refine spf trivial rfl rfl rfl ?_;refine sm trivial rfl rfl ?_;intro a37 h37;rcases Bool.eq_false_or_eq_true (!(bdec (x.results=y.results))) with hb | hb
    ·rw [hb] at h37
     have hb:(bdec (x.results=y.results))=false:=by simpa using hb
     have hc38:¬ (x.results=y.results):=fun h=>by rw [bdec_true h] at hb;cases hb
     clear hb;refine St.go h37 ?_;clear h37 a37;refine so hg21 rfl rfl rfl rfl ?_;refine so hg21 rfl rfl rfl rfl ?_;refine so hg21 rfl rfl rfl rfl ?_;refine so hg21 rfl rfl rfl rfl ?_;refine so hg21 rfl rfl rfl rfl ?_;refine so hg21 rfl rfl rfl rfl ?_;refine so hg21 rfl rfl rfl rfl ?_;refine sp trivial rfl rfl rfl ?_;refine St.nil fun a39 h39=>?_;refine hK22 _ _ ?_;refine fr_true (t:=62) h39 rfl ?_;refine wp_seq_k fun K40 hK40=>?_;refine rg h39 fun ops=>?_;clear h39 a39;refine sa trivial rfl rfl ?_;refine St.nil fun a41 h41=>?_;refine hK40 _ _ ?_;refine wp_ret ?_;with_reducible repeat first | refine of_then_ret ?_ | refine of_block_ret ?_
     have RX:¬ x=y:=by
       intro e
       first
         | exact hlb (by rw [e])
         | exact hc38 (by rw [e])
         | exact hc35 (by rw [e])
         | exact hc28 (by rw [e])
     have R:¬ m=k:=by
       intro e;have h1:=hx1.out;rw [e,hx2.out] at h1;exact RX (Option.some.inj h1).symm
     exact ret_tmp (t:=4) h41 rfl rfl ⟨by rw [bdec_false R],hW36.bel⟩
    rw [hb] at h37;have hb:(bdec (x.results=y.results))=true:=by simpa using hb
    have hc42:(x.results=y.results):=bdec_iff.1 hb;clear hb;refine St.go h37 ?_;clear h37 a37;refine sfFunc3 ⟨_,hg21,rfl,rfl⟩ rfl rfl ?_;refine sbBlocks 0 hW36 ⟨_,hg21,rfl,rfl⟩ rfl rfl rfl rfl ?_;refine slBlocks ⟨_,hg21,rfl,rfl⟩ rfl rfl ?_;refine sfFunc3 ⟨_,hg21,rfl,rfl⟩ rfl rfl ?_;refine sbBlocks 1 hW36 ⟨_,hg21,rfl,rfl⟩ rfl rfl rfl rfl ?_;refine slBlocks ⟨_,hg21,rfl,rfl⟩ rfl rfl ?_;refine sne ⟨_,hg21,rfl,rfl⟩ rfl rfl rfl ?_;refine spf trivial rfl rfl rfl ?_;refine St.nil fun a43 h43=>?_;refine hK22 _ _ ?_;refine fr_cond (t:=62) h43 rfl (fun hb=>?_) (fun hb=>?_)
    ·have h9:¬ x.blocks.length=y.blocks.length:=by have h8:=bne_iff_ne.1 hb;omega
     have hlb:¬ x.blocks.length=y.blocks.length:=h9;clear h9;clear hb;refine wp_seq_k fun K44 hK44=>?_;refine rg h43 fun ops=>?_;clear h43 a43;refine sa trivial rfl rfl ?_;refine St.nil fun a45 h45=>?_;refine hK44 _ _ ?_;refine wp_ret ?_;with_reducible repeat first | refine of_then_ret ?_ | refine of_block_ret ?_
     have RX:¬ x=y:=by
       intro e
       first
         | exact hlb (by rw [e])
         | exact hc42 (by rw [e])
         | exact hc35 (by rw [e])
         | exact hc28 (by rw [e])
     have R:¬ m=k:=by
       intro e;have h1:=hx1.out;rw [e,hx2.out] at h1;exact RX (Option.some.inj h1).symm
     exact ret_tmp (t:=4) h45 rfl rfl ⟨by rw [bdec_false R],hW36.bel⟩
    have h9:x.blocks.length=y.blocks.length:=by have h8:=bne_eq_false_iff_eq.1 hb;omega
    have hlb:Hid (x.blocks.length=y.blocks.length):=h9;clear h9;clear hb;refine wp_skip ?_;refine hK21 _ _ ?_;refine wp_seq_k fun K46 hK46=>?_;refine rg h43 fun ops=>?_;clear h43 a43;refine sa trivial rfl rfl ?_;refine St.nil fun a47 h47=>?_;refine hK46 _ _ ?_;refine wp_block ?_;refine fr_loop (fun r a w'=>∃ qb:Nat,qb≤x.blocks.length∧r=x.blocks.length - qb∧(∀ j,j<qb→x.blocks[j]?=y.blocks[j]?)∧Fr 82 a [(1,.agg #[.slice p2 k.length d]),(0,.agg #[.slice p m.length c]),(2,.pointer (some ⟨B2,0,none⟩)),(3,.pointer (some ⟨B3,0,none⟩)),(4,.bool false),(5,.int .i64 (q:Int)),(6,.pointer (some ⟨BD6,0,none⟩)),(7,.pointer (some ⟨BD7,0,none⟩)),(8,.int .i64 (qb:Int))]∧Wd w w' [(BD6,#[.int .i64 x.regs,.slice f1.pP x.params.length f1.cP,.slice f1.pR x.results.length f1.cR,.slice f1.pB x.blocks.length f1.cB],40),(BD7,#[.int .i64 y.regs,.slice f2.pP y.params.length f2.cP,.slice f2.pR y.results.length f2.cR,.slice f2.pB y.blocks.length f2.cB],40),(B3,#[.slice p2 k.length d],24),(B2,#[.slice p m.length c],24)]) (x.blocks.length) ⟨0,Nat.zero_le _,rfl,(fun j hj=>by omega),(h47.keep (h47.keep (h47.keep (h47.keep (h47.keep (h47.keep (h47.keep (h47.keep (h47.keep h47.nil (t:=8) rfl) (t:=7) rfl) (t:=6) rfl) (t:=5) rfl) (t:=4) rfl) (t:=3) rfl) (t:=2) rfl) (t:=0) rfl) (t:=1) rfl),hW36⟩ ?_;clear h47 hW36;rintro rb a48 w48 ⟨qb,hqb,hrb,hal2,hF48,hW48⟩ KLb hKLb;refine wp_seq_k fun K49 hK49=>?_;refine wp_seq_k fun K50 hK50=>?_;refine rg hF48 fun ops=>?_;clear hF48 a48;refine sm trivial rfl rfl ?_;refine sfFunc3 trivial rfl rfl ?_;refine sbBlocks 0 hW48 trivial rfl rfl rfl rfl ?_;refine slBlocks trivial rfl rfl ?_;refine slt trivial rfl rfl rfl ?_;refine St.nil fun a51 h51=>?_;refine hK50 _ _ ?_;refine fr_cond (t:=67) h51 rfl (fun hb=>?_) (fun hb=>?_)
    ·have hlt3:qb<x.blocks.length:=by have:=of_decide_eq_true hb;omega
     have hlt4:qb<y.blocks.length:=by have:=hlb.out;omega
     clear hb;obtain ⟨z,hx3⟩:∃ v9,(x.blocks)[qb]?=some v9:=⟨_,List.getElem?_eq_getElem hlt3⟩;obtain ⟨g3,o3,b3,hp3,E3,In3⟩:=block_at In1.out.blocks hx3;replace In3:Hid _:=In3;replace hp3:Hid _:=hp3;replace hx3:Hid _:=hx3;replace E3:Hid _:=E3;obtain ⟨u,hx4⟩:∃ v9,(y.blocks)[qb]?=some v9:=⟨_,List.getElem?_eq_getElem hlt4⟩;obtain ⟨g4,o4,b4,hp4,E4,In4⟩:=block_at In2.out.blocks hx4;replace In4:Hid _:=In4;replace hp4:Hid _:=hp4;replace hx4:Hid _:=hx4;replace E4:Hid _:=E4;refine wp_skip ?_;refine hK49 _ _ ?_;refine wp_seq_k fun K52 hK52=>?_;refine wp_block ?_;refine wp_seq_k fun K53 hK53=>?_;have hF54:Fr 82 a51 [(1,.agg #[.slice p2 k.length d]),(0,.agg #[.slice p m.length c]),(2,.pointer (some ⟨B2,0,none⟩)),(3,.pointer (some ⟨B3,0,none⟩)),(4,.bool false),(5,.int .i64 (q:Int)),(6,.pointer (some ⟨BD6,0,none⟩)),(7,.pointer (some ⟨BD7,0,none⟩)),(8,.int .i64 (qb:Int))]:=(h51.keep (h51.keep (h51.keep (h51.keep (h51.keep (h51.keep (h51.keep (h51.keep (h51.keep h51.nil (t:=8) rfl) (t:=7) rfl) (t:=6) rfl) (t:=5) rfl) (t:=4) rfl) (t:=3) rfl) (t:=2) rfl) (t:=0) rfl) (t:=1) rfl);have ho6:a51.tmps.getD 6 undef=.pointer (some ⟨BD6,0,none⟩):=h51.sl 6 _ rfl;have ho8:a51.tmps.getD 8 undef=.int .i64 (qb:Int):=h51.sl 8 _ rfl;have ho7:a51.tmps.getD 7 undef=.pointer (some ⟨BD7,0,none⟩):=h51.sl 7 _ rfl;refine fr_draw_k 12 ([(6,fun v _=>v=.pointer (some ⟨BD6,0,none⟩)),(8,fun v _=>v=.int .i64 (qb:Int)),(7,fun v _=>v=.pointer (some ⟨BD7,0,none⟩)),(70,fun v _=>v=.pointer (some ⟨BD6,3,none⟩)),(71,fun v _=>v=.slice f1.pB x.blocks.length f1.cB),(72,fun v _=>v=.int .i64 (qb:Int)),(73,fun v _=>v=.pointer (some ⟨g3,o3+qb*12,none⟩)),(74,fun v _=>v=.agg #[.int .i64 z.regs,.slice b3.pP z.params.length b3.cP,.slice b3.pC z.code.length b3.cC,.int .i64 z.fin.op,.int .i64 z.fin.a,.int .i64 z.fin.yes.block,.slice b3.e.pYR z.fin.yes.regs.length b3.e.cYR,.slice b3.e.pYA z.fin.yes.args.length b3.e.cYA,.int .i64 z.fin.no.block,.slice b3.e.pNR z.fin.no.regs.length b3.e.cNR,.slice b3.e.pNA z.fin.no.args.length b3.e.cNA,.slice b3.e.pA z.fin.args.length b3.e.cA]),(75,fun v _=>v=.pointer (some ⟨BD7,3,none⟩)),(76,fun v _=>v=.slice f2.pB y.blocks.length f2.cB),(77,fun v _=>v=.int .i64 (qb:Int)),(78,fun v _=>v=.pointer (some ⟨g4,o4+qb*12,none⟩)),(79,fun v _=>v=.agg #[.int .i64 u.regs,.slice b4.pP u.params.length b4.cP,.slice b4.pC u.code.length b4.cC,.int .i64 u.fin.op,.int .i64 u.fin.a,.int .i64 u.fin.yes.block,.slice b4.e.pYR u.fin.yes.regs.length b4.e.cYR,.slice b4.e.pYA u.fin.yes.args.length b4.e.cYA,.int .i64 u.fin.no.block,.slice b4.e.pNR u.fin.no.regs.length b4.e.cNR,.slice b4.e.pNA u.fin.no.args.length b4.e.cNA,.slice b4.e.pA u.fin.args.length b4.e.cA]),(80,fun v _=>v=.bool (bdec (z=u))),(81,fun v _=>v=.bool (!(bdec (z=u))))]:PTab) (fun w'=>Wd w w' [(BD6,#[.int .i64 x.regs,.slice f1.pP x.params.length f1.cP,.slice f1.pR x.results.length f1.cR,.slice f1.pB x.blocks.length f1.cB],40),(BD7,#[.int .i64 y.regs,.slice f2.pP y.params.length f2.cP,.slice f2.pR y.results.length f2.cR,.slice f2.pB y.blocks.length f2.cB],40),(B3,#[.slice p2 k.length d],24),(B2,#[.slice p m.length c],24)]∧Below w48.heap.size w48 w') (fun w w'=>Below w.heap.size w w') (outs:=[6,8,7]) (gs:=[]) (bs:=[true,true,true,true,true,true,true,true,true,true,true,true]) (by kernel_rfl) hF54 rfl (by kernel_rfl) (by kernel_rfl) ?hR ?hG ⟨hW48.drewN 1,drewN_below (m:=1) (Below.refl _ _)⟩ ⟨ho6,ho8,ho7,trivial⟩ ?hA ?hend
     case hR=>exact ⟨fun _ _ _ _ h=>h,fun _ _ _ _ h=>h,fun _ _ _ _ h=>h,fun _ _ _ _ h=>h,fun _ _ _ _ h=>h,fun _ _ _ _ h=>h,fun _ _ _ _ h=>h,fun _ _ _ _ h=>h,fun _ _ _ _ h=>h,fun _ _ _ _ h=>h,fun _ _ _ _ h=>h,fun _ _ _ _ h=>h,fun _ _ _ _ h=>h,fun _ _ _ _ h=>h,fun _ _ _ _ h=>h,trivial⟩
     case hG=>exact trivial
     case hA =>
      refine ⟨fun a w hW hk K hK=>?_,?_⟩
      · obtain ⟨k0,-⟩:=hk;have k0:a.tmps.getD 6 undef=.pointer (some ⟨BD6,0,none⟩):=k0;go_simp;exact hK _ _ (Below.refl _ _) hW rfl
      refine ⟨fun a w hW hk K hK=>?_,?_⟩
      · obtain ⟨k0,-⟩:=hk;have k0:a.tmps.getD 70 undef=.pointer (some ⟨BD6,3,none⟩):=k0;have c3:w.cell? ⟨BD6,3,none⟩=some (.slice f1.pB x.blocks.length f1.cB):=cellOf (hW.1.get 0 rfl) 3 _ rfl;go_simp;exact hK _ _ (Below.refl _ _) hW rfl
      refine ⟨fun a w hW hk K hK=>?_,?_⟩
      · obtain ⟨k0,-⟩:=hk;have k0:a.tmps.getD 8 undef=.int .i64 (qb:Int):=k0;go_simp;exact hK _ _ (Below.refl _ _) hW rfl
      refine ⟨fun a w hW hk K hK=>?_,?_⟩
      · obtain ⟨k0,k1,-⟩:=hk;have k0:a.tmps.getD 71 undef=.slice f1.pB x.blocks.length f1.cB:=k0;have k1:a.tmps.getD 72 undef=.int .i64 (qb:Int):=k1;have hpq:=hp3.out;have hk0:(0:Int)≤qb:=by omega
        have hk1:(qb:Int)<(x.blocks.length:Int):=by omega
        go_simp;exact hK _ _ (Below.refl _ _) hW rfl
      refine ⟨fun a w hW hk K hK=>?_,?_⟩
      · obtain ⟨k0,-⟩:=hk;have k0:a.tmps.getD 73 undef=.pointer (some ⟨g3,o3+qb*12,none⟩):=k0;have d0:w.cell? ⟨g3,o3+qb*12,none⟩=some (.int .i64 z.regs):=bel_cell hW.1.bel (E3.out 0 _ rfl);have d1:w.cell? ⟨g3,o3+qb*12+1,none⟩=some (.slice b3.pP z.params.length b3.cP):=bel_cell hW.1.bel (E3.out 1 _ rfl);have d2:w.cell? ⟨g3,o3+qb*12+2,none⟩=some (.slice b3.pC z.code.length b3.cC):=bel_cell hW.1.bel (E3.out 2 _ rfl);have d3:w.cell? ⟨g3,o3+qb*12+3,none⟩=some (.int .i64 z.fin.op):=bel_cell hW.1.bel (E3.out 3 _ rfl);have d4:w.cell? ⟨g3,o3+qb*12+4,none⟩=some (.int .i64 z.fin.a):=bel_cell hW.1.bel (E3.out 4 _ rfl);have d5:w.cell? ⟨g3,o3+qb*12+5,none⟩=some (.int .i64 z.fin.yes.block):=bel_cell hW.1.bel (E3.out 5 _ rfl);have d6:w.cell? ⟨g3,o3+qb*12+6,none⟩=some (.slice b3.e.pYR z.fin.yes.regs.length b3.e.cYR):=bel_cell hW.1.bel (E3.out 6 _ rfl);have d7:w.cell? ⟨g3,o3+qb*12+7,none⟩=some (.slice b3.e.pYA z.fin.yes.args.length b3.e.cYA):=bel_cell hW.1.bel (E3.out 7 _ rfl);have d8:w.cell? ⟨g3,o3+qb*12+8,none⟩=some (.int .i64 z.fin.no.block):=bel_cell hW.1.bel (E3.out 8 _ rfl);have d9:w.cell? ⟨g3,o3+qb*12+9,none⟩=some (.slice b3.e.pNR z.fin.no.regs.length b3.e.cNR):=bel_cell hW.1.bel (E3.out 9 _ rfl);have d10:w.cell? ⟨g3,o3+qb*12+10,none⟩=some (.slice b3.e.pNA z.fin.no.args.length b3.e.cNA):=bel_cell hW.1.bel (E3.out 10 _ rfl);have d11:w.cell? ⟨g3,o3+qb*12+11,none⟩=some (.slice b3.e.pA z.fin.args.length b3.e.cA):=bel_cell hW.1.bel (E3.out 11 _ rfl);go_simp;exact hK _ _ (Below.refl _ _) hW rfl
      refine ⟨fun a w hW hk K hK=>?_,?_⟩
      · obtain ⟨k0,-⟩:=hk;have k0:a.tmps.getD 7 undef=.pointer (some ⟨BD7,0,none⟩):=k0;go_simp;exact hK _ _ (Below.refl _ _) hW rfl
      refine ⟨fun a w hW hk K hK=>?_,?_⟩
      · obtain ⟨k0,-⟩:=hk;have k0:a.tmps.getD 75 undef=.pointer (some ⟨BD7,3,none⟩):=k0;have c3:w.cell? ⟨BD7,3,none⟩=some (.slice f2.pB y.blocks.length f2.cB):=cellOf (hW.1.get 1 rfl) 3 _ rfl;go_simp;exact hK _ _ (Below.refl _ _) hW rfl
      refine ⟨fun a w hW hk K hK=>?_,?_⟩
      · obtain ⟨k0,-⟩:=hk;have k0:a.tmps.getD 8 undef=.int .i64 (qb:Int):=k0;go_simp;exact hK _ _ (Below.refl _ _) hW rfl
      refine ⟨fun a w hW hk K hK=>?_,?_⟩
      · obtain ⟨k0,k1,-⟩:=hk;have k0:a.tmps.getD 76 undef=.slice f2.pB y.blocks.length f2.cB:=k0;have k1:a.tmps.getD 77 undef=.int .i64 (qb:Int):=k1;have hpq:=hp4.out;have hk0:(0:Int)≤qb:=by omega
        have hk1:(qb:Int)<(y.blocks.length:Int):=by omega
        go_simp;exact hK _ _ (Below.refl _ _) hW rfl
      refine ⟨fun a w hW hk K hK=>?_,?_⟩
      · obtain ⟨k0,-⟩:=hk;have k0:a.tmps.getD 78 undef=.pointer (some ⟨g4,o4+qb*12,none⟩):=k0;have d0:w.cell? ⟨g4,o4+qb*12,none⟩=some (.int .i64 u.regs):=bel_cell hW.1.bel (E4.out 0 _ rfl);have d1:w.cell? ⟨g4,o4+qb*12+1,none⟩=some (.slice b4.pP u.params.length b4.cP):=bel_cell hW.1.bel (E4.out 1 _ rfl);have d2:w.cell? ⟨g4,o4+qb*12+2,none⟩=some (.slice b4.pC u.code.length b4.cC):=bel_cell hW.1.bel (E4.out 2 _ rfl);have d3:w.cell? ⟨g4,o4+qb*12+3,none⟩=some (.int .i64 u.fin.op):=bel_cell hW.1.bel (E4.out 3 _ rfl);have d4:w.cell? ⟨g4,o4+qb*12+4,none⟩=some (.int .i64 u.fin.a):=bel_cell hW.1.bel (E4.out 4 _ rfl);have d5:w.cell? ⟨g4,o4+qb*12+5,none⟩=some (.int .i64 u.fin.yes.block):=bel_cell hW.1.bel (E4.out 5 _ rfl);have d6:w.cell? ⟨g4,o4+qb*12+6,none⟩=some (.slice b4.e.pYR u.fin.yes.regs.length b4.e.cYR):=bel_cell hW.1.bel (E4.out 6 _ rfl);have d7:w.cell? ⟨g4,o4+qb*12+7,none⟩=some (.slice b4.e.pYA u.fin.yes.args.length b4.e.cYA):=bel_cell hW.1.bel (E4.out 7 _ rfl);have d8:w.cell? ⟨g4,o4+qb*12+8,none⟩=some (.int .i64 u.fin.no.block):=bel_cell hW.1.bel (E4.out 8 _ rfl);have d9:w.cell? ⟨g4,o4+qb*12+9,none⟩=some (.slice b4.e.pNR u.fin.no.regs.length b4.e.cNR):=bel_cell hW.1.bel (E4.out 9 _ rfl);have d10:w.cell? ⟨g4,o4+qb*12+10,none⟩=some (.slice b4.e.pNA u.fin.no.args.length b4.e.cNA):=bel_cell hW.1.bel (E4.out 10 _ rfl);have d11:w.cell? ⟨g4,o4+qb*12+11,none⟩=some (.slice b4.e.pA u.fin.args.length b4.e.cA):=bel_cell hW.1.bel (E4.out 11 _ rfl);go_simp;exact hK _ _ (Below.refl _ _) hW rfl
      refine ⟨fun a w hW hk K hK=>?_,?_⟩
      · obtain ⟨k0,k1,-⟩:=hk;have k0:a.tmps.getD 74 undef=.agg #[.int .i64 z.regs,.slice b3.pP z.params.length b3.cP,.slice b3.pC z.code.length b3.cC,.int .i64 z.fin.op,.int .i64 z.fin.a,.int .i64 z.fin.yes.block,.slice b3.e.pYR z.fin.yes.regs.length b3.e.cYR,.slice b3.e.pYA z.fin.yes.args.length b3.e.cYA,.int .i64 z.fin.no.block,.slice b3.e.pNR z.fin.no.regs.length b3.e.cNR,.slice b3.e.pNA z.fin.no.args.length b3.e.cNA,.slice b3.e.pA z.fin.args.length b3.e.cA]:=k0;have k1:a.tmps.getD 79 undef=.agg #[.int .i64 u.regs,.slice b4.pP u.params.length b4.cP,.slice b4.pC u.code.length b4.cC,.int .i64 u.fin.op,.int .i64 u.fin.a,.int .i64 u.fin.yes.block,.slice b4.e.pYR u.fin.yes.regs.length b4.e.cYR,.slice b4.e.pYA u.fin.yes.args.length b4.e.cYA,.int .i64 u.fin.no.block,.slice b4.e.pNR u.fin.no.regs.length b4.e.cNR,.slice b4.e.pNA u.fin.no.args.length b4.e.cNA,.slice b4.e.pA u.fin.args.length b4.e.cA]:=k1;have hC:Rd Tryz.prog 47 #[.agg #[.int .i64 z.regs,.slice b3.pP z.params.length b3.cP,.slice b3.pC z.code.length b3.cC,.int .i64 z.fin.op,.int .i64 z.fin.a,.int .i64 z.fin.yes.block,.slice b3.e.pYR z.fin.yes.regs.length b3.e.cYR,.slice b3.e.pYA z.fin.yes.args.length b3.e.cYA,.int .i64 z.fin.no.block,.slice b3.e.pNR z.fin.no.regs.length b3.e.cNR,.slice b3.e.pNA z.fin.no.args.length b3.e.cNA,.slice b3.e.pA z.fin.args.length b3.e.cA],.agg #[.int .i64 u.regs,.slice b4.pP u.params.length b4.cP,.slice b4.pC u.code.length b4.cC,.int .i64 u.fin.op,.int .i64 u.fin.a,.int .i64 u.fin.yes.block,.slice b4.e.pYR u.fin.yes.regs.length b4.e.cYR,.slice b4.e.pYA u.fin.yes.args.length b4.e.cYA,.int .i64 u.fin.no.block,.slice b4.e.pNR u.fin.no.regs.length b4.e.cNR,.slice b4.e.pNA u.fin.no.args.length b4.e.cNA,.slice b4.e.pA u.fin.args.length b4.e.cA]] w (.bool (bdec (z=u))):=sameBlock_any (In3.out.below hW.1.bel) (In4.out.below hW.1.bel) (hs1.out.2.2.2 z (List.mem_of_getElem? hx3.out));go_simp;refine hC.mono ?_;rintro e w9 ⟨rfl,hb⟩;exact hK _ _ hb ⟨hW.1.below hb,Below.andThen hW.2 hb⟩ rfl
      refine ⟨fun a w hW hk K hK=>?_,?_⟩
      · obtain ⟨k0,-⟩:=hk;have k0:a.tmps.getD 80 undef=.bool (bdec (z=u)):=k0;go_simp;exact hK _ _ (Below.refl _ _) hW rfl
      trivial
     case hend =>
      intro ops a55 w55 hWD hE hFD;have hd81:a55.tmps.getD 81 undef=.bool (!(bdec (z=u))):=hE 81 rfl;have hF55:Fr 82 a55 [(81,.bool (!(bdec (z=u)))),(1,.agg #[.slice p2 k.length d]),(0,.agg #[.slice p m.length c]),(2,.pointer (some ⟨B2,0,none⟩)),(3,.pointer (some ⟨B3,0,none⟩)),(4,.bool false),(5,.int .i64 (q:Int)),(6,.pointer (some ⟨BD6,0,none⟩)),(7,.pointer (some ⟨BD7,0,none⟩)),(8,.int .i64 (qb:Int))]:=(hFD.cons hd81);clear hd81;have hW55:Wd w w55 [(BD6,#[.int .i64 x.regs,.slice f1.pP x.params.length f1.cP,.slice f1.pR x.results.length f1.cR,.slice f1.pB x.blocks.length f1.cB],40),(BD7,#[.int .i64 y.regs,.slice f2.pP y.params.length f2.cP,.slice f2.pR y.results.length f2.cR,.slice f2.pB y.blocks.length f2.cB],40),(B3,#[.slice p2 k.length d],24),(B2,#[.slice p m.length c],24)]:=hWD.1;clear hFD hWD hE hF54 h51;clear hW48;refine wpList_nil ?_;refine hK53 _ _ ?_;refine fr_cond (t:=81) hF55 rfl (fun hb=>?_) (fun hb=>?_)
      ·have hb:(bdec (z=u))=false:=by simpa using hb
       have hel:¬ (z=u):=fun h=>by rw [bdec_true h] at hb;cases hb
       clear hb;refine wp_seq_k fun K56 hK56=>?_;refine rg hF55 fun ops=>?_;clear hF55 a55;refine sa trivial rfl rfl ?_;refine St.nil fun a57 h57=>?_;refine hK56 _ _ ?_;refine wp_ret ?_;with_reducible repeat first | refine of_then_ret ?_ | refine of_block_ret ?_
       have RX:¬ x=y:=by
         intro e;have h1:=hx3.out;rw [e,hx4.out] at h1;exact hel (Option.some.inj h1).symm
       have R:¬ m=k:=by
         intro e;have h1:=hx1.out;rw [e,hx2.out] at h1;exact RX (Option.some.inj h1).symm
       exact ret_tmp (t:=4) h57 rfl rfl ⟨by rw [bdec_false R],hW55.bel⟩
      have hb:(bdec (z=u))=true:=by simpa using hb
      have hel:(z=u):=bdec_iff.1 hb;clear hb;refine wp_skip ?_;refine hK52 _ _ ?_;refine rg hF55 fun ops=>?_;clear hF55 a55;refine sm trivial rfl rfl ?_;refine sad (by omega) trivial rfl rfl rfl ?_;refine sa trivial rfl rfl ?_;refine St.nil fun a58 h58=>?_;refine hKLb _ _ (x.blocks.length - (qb+1)) (by omega) ⟨qb+1,by omega,rfl,?_,(h58.keep (h58.keep (h58.keep (h58.keep (h58.keep (h58.keep (h58.keep (h58.keep (h58.keep h58.nil (t:=8) rfl) (t:=7) rfl) (t:=6) rfl) (t:=5) rfl) (t:=4) rfl) (t:=3) rfl) (t:=2) rfl) (t:=0) rfl) (t:=1) rfl),hW55⟩
      ·intro j hj
       by_cases e:j=qb
       · subst e;rw [hx3.out,hx4.out,hel]
       · exact hal2 j (by omega)
    have hge2:qb=x.blocks.length:=by have:=of_decide_eq_false hb;omega
    clear hb
    have RB:x.blocks=y.blocks:=by
      have:=hlb.out
      refine List.ext_getElem? fun i=>?_;by_cases hi:i<qb
      · exact hal2 i hi
      · rw [List.getElem?_eq_none (by omega),List.getElem?_eq_none (by omega)]
    have RX:x=y:=MFunc.eq_of hc28.out hc35 hc42 RB;refine wp_exit ?_;refine hK17 _ _ ?_;refine rg h51 fun ops=>?_;clear h51 a51;refine sm trivial rfl rfl ?_;refine sad (by omega) trivial rfl rfl rfl ?_;refine sa trivial rfl rfl ?_;refine St.nil fun a59 h59=>?_;refine hKL _ _ (m.length - (q+1)) (by omega) ⟨q+1,by omega,rfl,?_,(h59.keep (h59.keep (h59.keep (h59.keep (h59.keep (h59.keep h59.nil (t:=5) rfl) (t:=4) rfl) (t:=3) rfl) (t:=2) rfl) (t:=0) rfl) (t:=1) rfl),hW48.tail.tail⟩
    ·intro j hj
     by_cases e:j=q
     · subst e;rw [hx1.out,hx2.out,RX]
     · exact hall j (by omega)
  have hge:q=m.length:=by have:=of_decide_eq_false hb;omega
  clear hb;refine wp_exit ?_;refine hK10 _ _ ?_;refine wp_seq_k fun K60 hK60=>?_;refine rg h16 fun ops=>?_;clear h16 a16;refine sa trivial rfl rfl ?_;refine St.nil fun a61 h61=>?_;refine hK60 _ _ ?_;refine wp_ret ?_;with_reducible repeat first | refine of_then_ret ?_ | refine of_block_ret ?_
  have R:m=k:=by
    have:=hlen.out
    refine List.ext_getElem? fun i=>?_;by_cases hi:i<q
    · exact hall i hi
    · rw [List.getElem?_eq_none (by omega),List.getElem?_eq_none (by omega)]
  exact ret_tmp (t:=4) h61 rfl rfl ⟨by rw [bdec_true R],hW13.bel⟩
end Go.Proofs.YtacjnejckfhpoaeGreat
namespace Go.Proofs.YtacjnejckfhpoaeGreat
open Go.ChangeShapes Go.WideShapes Go.ChangeAt Go.RowKit
set_option linter.unusedVariables false
theorem size_any : ∀ (n : Nat) (t : TT n) (a : Option Addr) (c : Nat) (w : World) (left : Int), TIn w All t a → 0 ≤ left → left ≤ 2000 →
    Calls Tryz.prog 94 #[Tv t a c,.int .i64 left] w fun e w'=>e=.returned (.int .i64 (max (-1) (left - t.count)))∧Below w.heap.size w w':=by
  intro n
  induction n with
  | zero=>intro t;exact Empty.elim t
  | succ n ih =>
    intro t a c w left ht h0 h1
    have IH:Hid (∀ (t:TT n) (a:Option Addr) (c:Nat) (w:World) (left:Int),TIn w All t a→0≤left→left≤2000 →
      Calls Tryz.prog 94 #[Tv t a c,.int .i64 left] w fun e w'=>e=.returned (.int .i64 (max (-1) (left - t.count)))∧Below w.heap.size w w'):=ih
    clear ih;have hT:Hid (LIn w All t.2.2 a):=ht.list;have hc:t.count=1+(t.2.2.map TT.count).sum:=rfl;rw [hc];clear hc;simp only [Tv,TT.len_eq];generalize t.2.2=l at hT ⊢;generalize t.kind=k;generalize t.r=r;clear ht t;go_enter Tryz.func94,Tryz.ntmps94
    go_wp2_with fail
    have X0:Hid (Bx w (w.alloc (.cells #[.int .i64 k,.int .i64 r,.slice a l.length c] 70)) k r a l.length c):=Bx.start w k r a l.length c;generalize w.alloc (.cells #[.int .i64 k,.int .i64 r,.slice a l.length c] 70)=w1 at X0 ⊢;go_loopw [1,5] (fun lf i wr=>∃ q:Nat,q≤l.length∧i=.int .i64 q∧lf=.int .i64 (max (-1) (left - 1 - (((l.map TT.count).take q).sum:Nat)))∧Bx w wr k r a l.length c) (fun _ i _=>l.length - (intOf i).toNat)
    case atStart=>exact ⟨0,Nat.zero_le _,rfl,by simp;omega,X0.out⟩
    case round =>
      clear X0;obtain ⟨q,hq,rfl,rfl,hX⟩:=hrel;generalize hs:(((l.map TT.count).take q).sum:Nat)=s;have e2:wr.cell? ⟨w.heap.size,2,none⟩=some (.slice a l.length c):=cellOf hX.box 2 _ rfl;have X1:Hid (Bx w wr k r a l.length c):=hX;by_cases hlt:q<l.length
      · by_cases hge:0≤max (-1) (left - 1 - (s:Int))
        · have hx:l[q]?=some l[q]:=List.getElem?_eq_getElem hlt;generalize l[q]=x at hx;obtain ⟨g,o,a',c',rfl,_,d0,d1,d2,hk⟩:=LIn.at (hT.out.below hX.bel) hx;have H:Hid (TIn wr All x a'):=hk;have hS:=sum_take_succ TT.count l q x hx;rw [hs] at hS;have HS:Hid (((l.map TT.count).take (q+1)).sum=s+x.count):=hS;have S:Hid (max (-1) (left - 1 - (s:Int))≤2000):=by show _≤_;omega
          clear hX hk hx hS;generalize hm:max (-1) (left - 1 - (s:Int))=m at hge S;have M:Hid (max (-1) (left - 1 - (s:Int))=m):=hm;clear hm;have hk0:(0:Int)≤q:=by omega
          have hk1:(q:Int)<l.length:=by omega
          have hk2:(q:Int)<2000:=by
            have h3:=length_le_sum ((l.map TT.count).take q) (fun y hy=>by obtain ⟨z,_,rfl⟩:=List.mem_map.1 (List.mem_of_mem_take hy);exact z.count_pos);have h4:=M.out;rw [List.length_take,List.length_map] at h3;omega
          clear hs;go_wp2_with fail
          refine (IH.out x a' c' _ m H.out hge S.out).mono ?_;rintro e w2 ⟨rfl,b2⟩;have X2:Hid (Bx w w2 k r (some ⟨g,o,none⟩) l.length c):=X1.out.below b2;clear X1;go_wp2
          go_roundw
          case rel=>exact ⟨q+1,by omega,by go_num,by rw [HS.out];have:=M.out;have:=x.count_pos;congr 1;omega,X2.out⟩
          case measure=>simp [intOf];omega
        · have F:Hid (max (-1) (left - 1 - (s:Int))=max (-1) (left - ((1+(l.map TT.count).sum:Nat):Int))):=by
            have:=sum_take_le (l.map TT.count) q
            show _=_;omega
          have hge':max (-1) (left - 1 - (s:Int))<0:=by omega
          generalize max (-1) (left - 1 - (s:Int))=m at F hge' ⊢;clear hge hs;have hk1:(q:Int)<l.length:=by omega
          go_wp2
          go_ret;exact ⟨by show Ending.returned (.int .i64 m)=_;have:=F.out;congr 2,X1.out.bel⟩
      · have F:Hid (max (-1) (left - 1 - (s:Int))=max (-1) (left - ((1+(l.map TT.count).sum:Nat):Int))):=by
          rw [List.take_of_length_le (by simp;omega)] at hs;show _=_;omega
        generalize max (-1) (left - 1 - (s:Int))=m at F ⊢;clear hs;have hk1:¬ (q:Int)<l.length:=by omega
        go_wp2
        go_ret;exact ⟨by show Ending.returned (.int .i64 m)=_;have:=F.out;congr 2,X1.out.bel⟩
theorem great_any (n : Nat) (t : TT n) (a : Option Addr) (c : Nat) (w : World) (ht : TIn w All t a) :
    Calls Tryz.prog 54 #[Tv t a c] w fun e w'=>e=.returned (.bool (decide (2000<t.count)))∧Below w.heap.size w w':=by
  have C:Hid (∀ wx,Below w.heap.size w wx→Calls Tryz.prog 94 #[Tv t a c,.int .i64 2000] wx fun e w'=>e=.returned (.int .i64 (max (-1) (2000 - (t.count:Int))))∧Below wx.heap.size wx w') :=
    fun wx hb=>size_any n t a c wx 2000 (ht.below hb) (by omega) (by omega)
  clear ht;simp only [Tv] at C ⊢;generalize t.kind=k at C ⊢;generalize t.r=r at C ⊢;generalize t.len=len at C ⊢;generalize t.count=q at C ⊢;go_enter Tryz.func54,Tryz.ntmps54
  go_wp2_with fail
  refine (C.out _ ((Below.refl _ w).alloc (Nat.le_refl _) _)).mono ?_;rintro e w2 ⟨rfl,b2⟩;have B:Hid (Below w.heap.size w w2):=((Below.refl _ w).alloc (Nat.le_refl _) _).trans (b2.mono (by simp));have F:Hid (max (-1) (2000 - (q:Int))<0 ↔ 2000<q):=by show _ ↔ _;omega
  generalize max (-1) (2000 - (q:Int))=m at F ⊢;clear b2 C;go_wp2
  go_ret;exact ⟨by show Ending.returned (.bool (decide (m<0)))=_;rw [decide_eq_decide.2 F.out],B.out⟩
end Go.Proofs.YtacjnejckfhpoaeGreat
namespace Go.Proofs.YtacjnejckfhpoaeGreat
open Go.ChangeShapes Go.WideShapes Go.ChangeAt Go.RowKit
set_option linter.unusedSimpArgs false
set_option linter.unusedVariables false
theorem greatTypes_any (n : Nat) (l : List (TT n)) (p : Option Addr) (c : Nat) (w : World) (hl0 : LIn w All l p) :
    Rd Tryz.prog 25 #[.slice p l.length c] w (.bool (bdec (greatTs l))):=by
  have hl:Hid (LIn w All l p):=hl0;clear hl0;refine fr_enter (n:=18) Tryz.func25 rfl rfl rfl ?_;intro a hF;have hW:=Wd.start w;replace hF:Fr 18 a [(0,.slice p l.length c)]:=hF;refine wp_seq_k fun K1 hK1=>?_;refine rg hF fun ops=>?_;clear hF a;refine sa trivial rfl rfl ?_;refine St.nil fun a2 h2=>?_;refine hK1 _ _ ?_;refine wp_seq_k fun K3 hK3=>?_;refine wp_seq_k fun K4 hK4=>?_;refine rg h2 fun ops=>?_;clear h2 a2;refine sm trivial rfl rfl ?_;refine slTypes trivial rfl rfl ?_;refine sgt trivial rfl rfl rfl ?_;refine St.nil fun a5 h5=>?_;refine hK4 _ _ ?_;refine fr_cond (t:=6) h5 rfl (fun hb=>?_) (fun hb=>?_)
  ·have hlen:200<l.length:=by have:=of_decide_eq_true hb;omega
   refine wp_seq_k fun K6 hK6=>?_;refine rg h5 fun ops=>?_;clear h5 a5;refine sa trivial rfl rfl ?_;refine St.nil fun a7 h7=>?_;refine hK6 _ _ ?_;refine wp_ret ?_;with_reducible repeat first | refine of_then_ret ?_ | refine of_block_ret ?_
   have GR:greatTs l:=by first | exact .inl hlen | exact .inr ⟨x,List.mem_of_getElem? hx.out,hcx⟩
   exact ret_tmp (t:=2) h7 rfl rfl ⟨by rw [bdec_true GR],hW.bel⟩
  have hlen:l.length≤200:=by have:=of_decide_eq_false hb;omega
  refine wp_skip ?_;refine hK3 _ _ ?_;refine wp_seq_k fun K8 hK8=>?_;refine wp_seq_k fun K9 hK9=>?_;refine rg h5 fun ops=>?_;clear h5 a5;refine sa trivial rfl rfl ?_;refine St.nil fun a10 h10=>?_;refine hK9 _ _ ?_;refine wp_block ?_;refine fr_loop (fun r a w'=>∃ q:Nat,q≤l.length∧r=l.length - q∧(∀ (j:Nat) x,j<q→l[j]?=some x→x.count≤2000)∧Fr 18 a [(0,.slice p l.length c),(2,.bool false),(3,.int .i64 (q:Int))]∧Wd w w' []) l.length ⟨0,Nat.zero_le _,rfl,fun j x hj=>by omega,(h10.keep (h10.keep (h10.keep h10.nil (t:=3) rfl) (t:=2) rfl) (t:=0) rfl),hW⟩ ?_;clear h10 hW;rintro r a11 w11 ⟨q,hq,hr,hall,hF11,hW11⟩ KL hKL;refine wp_seq_k fun K12 hK12=>?_;refine wp_seq_k fun K13 hK13=>?_;refine rg hF11 fun ops=>?_;clear hF11 a11;refine sm trivial rfl rfl ?_;refine sm trivial rfl rfl ?_;refine slTypes trivial rfl rfl ?_;refine slt trivial rfl rfl rfl ?_;refine St.nil fun a14 h14=>?_;refine hK13 _ _ ?_;refine fr_cond (t:=10) h14 rfl (fun hb=>?_) (fun hb=>?_)
  ·have hlt:q<l.length:=by have:=of_decide_eq_true hb;omega
   clear hb;obtain ⟨x,hx⟩:∃ x,l[q]?=some x:=⟨_,List.getElem?_eq_getElem hlt⟩;obtain ⟨g,o,p',c',hp,E,H⟩:=lin_at hl.out hx;replace hp:Hid _:=hp;replace E:Hid _:=E;replace H:Hid _:=H;replace hx:Hid _:=hx;refine wp_skip ?_;refine hK12 _ _ ?_;refine wp_seq_k fun K15 hK15=>?_;refine wp_block ?_;refine wp_seq_k fun K16 hK16=>?_;refine rg h14 fun ops=>?_;clear h14 a14;refine sm trivial rfl rfl ?_;refine sm trivial rfl rfl ?_;refine siTypes hp.out hlt trivial rfl rfl rfl ?_;refine sSE Tryz.underlying70 rfl (rangeAt_bel E.out hW11.bel) infType trivial rfl rfl ?_;refine sc_1 cf54 hW11 (great_any n x p' c' w11 (H.out.below hW11.bel)) trivial rfl rfl ?_;clear hW11;intro w17 hW17;refine St.nil fun a18 h18=>?_;refine hK16 _ _ ?_;refine fr_cond (t:=17) h18 rfl (fun hb=>?_) (fun hb=>?_)
   ·have hcx:2000<x.count:=of_decide_eq_true hb
    refine wp_seq_k fun K19 hK19=>?_;refine rg h18 fun ops=>?_;clear h18 a18;refine sa trivial rfl rfl ?_;refine St.nil fun a20 h20=>?_;refine hK19 _ _ ?_;refine wp_ret ?_;with_reducible repeat first | refine of_then_ret ?_ | refine of_block_ret ?_
    have GR:greatTs l:=by first | exact .inl hlen | exact .inr ⟨x,List.mem_of_getElem? hx.out,hcx⟩
    exact ret_tmp (t:=2) h20 rfl rfl ⟨by rw [bdec_true GR],hW17.bel⟩
   have hcx:x.count≤2000:=by have:=of_decide_eq_false hb;omega
   refine wp_skip ?_;refine hK15 _ _ ?_;refine rg h18 fun ops=>?_;clear h18 a18;refine sm trivial rfl rfl ?_;refine sad (by omega) trivial rfl rfl rfl ?_;refine sa trivial rfl rfl ?_;refine St.nil fun a21 h21=>?_;refine hKL _ _ (l.length - (q+1)) (by omega) ⟨q+1,by omega,rfl,fun j y hj hy=>?_,(h21.keep (h21.keep (h21.keep h21.nil (t:=3) rfl) (t:=2) rfl) (t:=0) rfl),hW17⟩;by_cases e:j=q
   · subst e;rw [hx.out] at hy;cases hy;exact hcx
   · exact hall j y (by omega) hy
  have hge:q=l.length:=by have:=of_decide_eq_false hb;omega
  refine wp_exit ?_;refine hK8 _ _ ?_;refine wp_seq_k fun K22 hK22=>?_;refine rg h14 fun ops=>?_;clear h14 a14;refine sa trivial rfl rfl ?_;refine St.nil fun a23 h23=>?_;refine hK22 _ _ ?_;refine wp_ret ?_;with_reducible repeat first | refine of_then_ret ?_ | refine of_block_ret ?_
  have GR:¬ greatTs l:=by
    rintro (h | ⟨x,hx,h⟩)
    · omega
    · obtain ⟨i,hi,rfl⟩:=List.mem_iff_getElem.1 hx
      have:=hall i _ (by omega) (List.getElem?_eq_getElem hi)
      omega
  exact ret_tmp (t:=2) h23 rfl rfl ⟨by rw [bdec_false GR],hW11.bel⟩
theorem greatModule_any (n : Nat) (m : List (MFunc n)) (p : Option Addr) (c : Nat) (w : World) (hm0 : (modL n).In w All m [.slice p m.length c]) :
    Rd Tryz.prog 7 #[.agg #[.slice p m.length c]] w (.bool (bdec (greatMod m))):=by
  have hm:Hid ((modL n).In w All m [.slice p m.length c]):=hm0;clear hm0;refine fr_enter (n:=123) Tryz.func7 rfl rfl rfl ?_;intro a hF;have hW:=Wd.start w;replace hF:Fr 123 a [(0,.agg #[.slice p m.length c])]:=hF;refine wp_seq_k fun K1 hK1=>?_;refine rg hF fun ops=>?_;clear hF a;refine sB hW trivial rfl rfl ?_;clear hW;intro w2 B2 hW2 hN;clear hN;refine sa trivial rfl rfl ?_;refine St.nil fun a3 h3=>?_;refine hK1 _ _ ?_;refine wp_seq_k fun K4 hK4=>?_;refine wp_seq_k fun K5 hK5=>?_;refine rg h3 fun ops=>?_;clear h3 a3;refine sfModule0 trivial rfl rfl ?_;refine sbFuncs 0 hW2 trivial rfl rfl rfl rfl ?_;refine slFuncs trivial rfl rfl ?_;refine sgt trivial rfl rfl rfl ?_;refine St.nil fun a6 h6=>?_;refine hK5 _ _ ?_;refine fr_cond (t:=11) h6 rfl (fun hb=>?_) (fun hb=>?_)
  ·have hc7:20<m.length:=by have:=of_decide_eq_true hb;omega
   clear hb;refine wp_seq_k fun K8 hK8=>?_;refine rg h6 fun ops=>?_;clear h6 a6;refine sa trivial rfl rfl ?_;refine St.nil fun a9 h9=>?_;refine hK8 _ _ ?_;refine wp_ret ?_;with_reducible repeat first | refine of_then_ret ?_ | refine of_block_ret ?_
   have GR:greatMod m:=.inl hc7;exact ret_tmp (t:=2) h9 rfl rfl ⟨by rw [bdec_true GR],hW2.bel⟩
  have hc10:¬ (20<m.length):=by have:=of_decide_eq_false hb;omega
  clear hb;refine wp_skip ?_;refine hK4 _ _ ?_;refine wp_seq_k fun K11 hK11=>?_;refine wp_seq_k fun K12 hK12=>?_;refine rg h6 fun ops=>?_;clear h6 a6;refine sa trivial rfl rfl ?_;refine St.nil fun a13 h13=>?_;refine hK12 _ _ ?_;refine wp_block ?_;refine fr_loop (fun r a w'=>∃ q1:Nat,q1≤m.length∧r=m.length - q1∧(∀ (j:Nat) x,j<q1→m[j]?=some x→¬ x.great)∧Fr 123 a [(0,.agg #[.slice p m.length c]),(1,.pointer (some ⟨B2,0,none⟩)),(2,.bool false),(3,.int .i64 (q1:Int))]∧Wd w w' [(B2,#[.slice p m.length c],24)]) (m.length) ⟨0,Nat.zero_le _,rfl,(fun j x hj=>by omega),(h13.keep (h13.keep (h13.keep (h13.keep h13.nil (t:=3) rfl) (t:=2) rfl) (t:=1) rfl) (t:=0) rfl),hW2⟩ ?_;clear h13 hW2;rintro r1 a14 w14 ⟨q1,hq1,hr1,hall1,hF14,hW14⟩ KL1 hKL1;refine wp_seq_k fun K15 hK15=>?_;refine wp_seq_k fun K16 hK16=>?_;refine rg hF14 fun ops=>?_;clear hF14 a14;refine sm trivial rfl rfl ?_;refine sfModule0 trivial rfl rfl ?_;refine sbFuncs 0 hW14 trivial rfl rfl rfl rfl ?_;refine slFuncs trivial rfl rfl ?_;refine slt trivial rfl rfl rfl ?_;refine St.nil fun a17 h17=>?_;refine hK16 _ _ ?_;refine fr_cond (t:=16) h17 rfl (fun hb=>?_) (fun hb=>?_)
  ·have hlt1:q1<m.length:=by have:=of_decide_eq_true hb;omega
   clear hb;obtain ⟨x,hx1⟩:∃ v9,(m)[q1]?=some v9:=⟨_,List.getElem?_eq_getElem hlt1⟩;obtain ⟨g1,o1,f1,hp1,E1,In1⟩:=func_at hm.out hx1;replace In1:Hid _:=In1;replace hp1:Hid _:=hp1;replace hx1:Hid _:=hx1;replace E1:Hid _:=E1;refine wp_skip ?_;refine hK15 _ _ ?_;refine wp_seq_k fun K18 hK18=>?_;refine wp_block ?_;refine wp_seq_k fun K19 hK19=>?_;refine rg h17 fun ops=>?_;clear h17 a17;refine sfModule0 trivial rfl rfl ?_;refine sbFuncs 0 hW14 trivial rfl rfl rfl rfl ?_;refine sm trivial rfl rfl ?_;refine siFuncs hp1.out hlt1 trivial rfl rfl rfl ?_;refine sSE Tryz.underlying40 rfl (rangeAt_bel E1.out hW14.bel) infFunc trivial rfl rfl ?_;refine sAFunc hW14 trivial rfl ?_;clear hW14;intro w20 B20 hW20 hN;clear hN;refine sT 0 hW20 rfl rfl infFunc rfl rfl rfl ?_;clear hW20;intro w21 hW21;refine St.nil fun a22 h22=>?_;refine hK19 _ _ ?_;refine wp_seq_k fun K23 hK23=>?_;refine wp_seq_k fun K24 hK24=>?_;refine fr_region ?_;intro ops hops;have hg4:(ops[4]?).bind (fun o:Oper=>o.dst)=some 28:=hops 4;have hg9:(ops[9]?).bind (fun o:Oper=>o.dst)=some 33:=hops 9;clear hops;refine St.go h22 ?_;clear h22 a22;refine sfFunc3 trivial rfl rfl ?_;refine sbBlocks 0 hW21 trivial rfl rfl rfl rfl ?_;refine slBlocks trivial rfl rfl ?_;refine sgt trivial rfl rfl rfl ?_;refine sm trivial rfl rfl ?_;intro a25 h25;rcases Bool.eq_false_or_eq_true (decide (30<(x.blocks.length:Int))) with hb | hb
   ·rw [hb] at h25
    have hc26:30<x.blocks.length:=by have:=of_decide_eq_true hb;omega
    clear hb;refine St.go h25 ?_;clear h25 a25;refine so hg4 rfl rfl rfl rfl ?_;refine so hg4 rfl rfl rfl rfl ?_;refine so hg4 rfl rfl rfl rfl ?_;refine sp trivial rfl rfl rfl ?_;refine sm trivial rfl rfl ?_;refine so hg9 rfl rfl rfl rfl ?_;refine so hg9 rfl rfl rfl rfl ?_;refine so hg9 rfl rfl rfl rfl ?_;refine sp trivial rfl rfl rfl ?_;refine St.nil fun a27 h27=>?_;refine hK24 _ _ ?_;refine fr_true (t:=37) h27 rfl ?_;refine wp_seq_k fun K28 hK28=>?_;refine rg h27 fun ops=>?_;clear h27 a27;refine sa trivial rfl rfl ?_;refine St.nil fun a29 h29=>?_;refine hK28 _ _ ?_;refine wp_ret ?_;with_reducible repeat first | refine of_then_ret ?_ | refine of_block_ret ?_
    have GR:greatMod m:=.inr ⟨x,List.mem_of_getElem? hx1.out,.inl hc26⟩;exact ret_tmp (t:=2) h29 rfl rfl ⟨by rw [bdec_true GR],hW21.bel⟩
   rw [hb] at h25;have hc30:¬ (30<x.blocks.length):=by have:=of_decide_eq_false hb;omega
   clear hb;refine St.go h25 ?_;clear h25 a25;refine sfFunc1 ⟨_,hg4,rfl,rfl⟩ rfl rfl ?_;refine sbTypes 0 hW21 ⟨_,hg4,rfl,rfl⟩ rfl rfl rfl rfl ?_;refine sc_1 cf25 hW21 (greatTypes_any n x.params f1.pP f1.cP w21 ((types_lin In1.out.params).1.below hW21.bel)) ⟨_,hg4,rfl,rfl⟩ rfl rfl ?_;clear hW21;intro w31 hW31;refine spf trivial rfl rfl rfl ?_;refine sm trivial rfl rfl ?_;intro a32 h32;rcases Bool.eq_false_or_eq_true (bdec (greatTs x.params)) with hb | hb
   ·rw [hb] at h32
    have hc33:(greatTs x.params):=bdec_iff.1 hb;clear hb;refine St.go h32 ?_;clear h32 a32;refine so hg9 rfl rfl rfl rfl ?_;refine so hg9 rfl rfl rfl rfl ?_;refine so hg9 rfl rfl rfl rfl ?_;refine sp trivial rfl rfl rfl ?_;refine St.nil fun a34 h34=>?_;refine hK24 _ _ ?_;refine fr_true (t:=37) h34 rfl ?_;refine wp_seq_k fun K35 hK35=>?_;refine rg h34 fun ops=>?_;clear h34 a34;refine sa trivial rfl rfl ?_;refine St.nil fun a36 h36=>?_;refine hK35 _ _ ?_;refine wp_ret ?_;with_reducible repeat first | refine of_then_ret ?_ | refine of_block_ret ?_
    have GR:greatMod m:=.inr ⟨x,List.mem_of_getElem? hx1.out,.inr (.inl hc33)⟩;exact ret_tmp (t:=2) h36 rfl rfl ⟨by rw [bdec_true GR],hW31.bel⟩
   rw [hb] at h32;have hc37:¬ (greatTs x.params):=fun h=>by rw [bdec_true h] at hb;cases hb
   clear hb;refine St.go h32 ?_;clear h32 a32;refine sfFunc2 ⟨_,hg9,rfl,rfl⟩ rfl rfl ?_;refine sbTypes 0 hW31 ⟨_,hg9,rfl,rfl⟩ rfl rfl rfl rfl ?_;refine sc_1 cf25 hW31 (greatTypes_any n x.results f1.pR f1.cR w31 ((types_lin In1.out.results).1.below hW31.bel)) ⟨_,hg9,rfl,rfl⟩ rfl rfl ?_;clear hW31;intro w38 hW38;refine spf trivial rfl rfl rfl ?_;refine St.nil fun a39 h39=>?_;refine hK24 _ _ ?_;refine fr_cond (t:=37) h39 rfl (fun hb=>?_) (fun hb=>?_)
   ·have hc40:(greatTs x.results):=bdec_iff.1 hb
    clear hb;refine wp_seq_k fun K41 hK41=>?_;refine rg h39 fun ops=>?_;clear h39 a39;refine sa trivial rfl rfl ?_;refine St.nil fun a42 h42=>?_;refine hK41 _ _ ?_;refine wp_ret ?_;with_reducible repeat first | refine of_then_ret ?_ | refine of_block_ret ?_
    have GR:greatMod m:=.inr ⟨x,List.mem_of_getElem? hx1.out,.inr (.inr (.inl hc40))⟩;exact ret_tmp (t:=2) h42 rfl rfl ⟨by rw [bdec_true GR],hW38.bel⟩
   have hc43:¬ (greatTs x.results):=fun h=>by rw [bdec_true h] at hb;cases hb
   clear hb;refine wp_skip ?_;refine hK23 _ _ ?_;refine wp_seq_k fun K44 hK44=>?_;refine rg h39 fun ops=>?_;clear h39 a39;refine sa trivial rfl rfl ?_;refine St.nil fun a45 h45=>?_;refine hK44 _ _ ?_;refine wp_block ?_;refine fr_loop (fun r a w'=>∃ q2:Nat,q2≤x.blocks.length∧r=x.blocks.length - q2∧(∀ (j:Nat) y,j<q2→x.blocks[j]?=some y→¬ y.great)∧Fr 123 a [(0,.agg #[.slice p m.length c]),(1,.pointer (some ⟨B2,0,none⟩)),(2,.bool false),(3,.int .i64 (q1:Int)),(4,.pointer (some ⟨B20,0,none⟩)),(5,.int .i64 (q2:Int))]∧Wd w w' [(B20,#[.int .i64 x.regs,.slice f1.pP x.params.length f1.cP,.slice f1.pR x.results.length f1.cR,.slice f1.pB x.blocks.length f1.cB],40),(B2,#[.slice p m.length c],24)]) (x.blocks.length) ⟨0,Nat.zero_le _,rfl,(fun j x hj=>by omega),(h45.keep (h45.keep (h45.keep (h45.keep (h45.keep (h45.keep h45.nil (t:=5) rfl) (t:=4) rfl) (t:=3) rfl) (t:=2) rfl) (t:=1) rfl) (t:=0) rfl),hW38⟩ ?_;clear h45 hW38;rintro r2 a46 w46 ⟨q2,hq2,hr2,hall2,hF46,hW46⟩ KL2 hKL2;refine wp_seq_k fun K47 hK47=>?_;refine wp_seq_k fun K48 hK48=>?_;refine rg hF46 fun ops=>?_;clear hF46 a46;refine sm trivial rfl rfl ?_;refine sfFunc3 trivial rfl rfl ?_;refine sbBlocks 0 hW46 trivial rfl rfl rfl rfl ?_;refine slBlocks trivial rfl rfl ?_;refine slt trivial rfl rfl rfl ?_;refine St.nil fun a49 h49=>?_;refine hK48 _ _ ?_;refine fr_cond (t:=42) h49 rfl (fun hb=>?_) (fun hb=>?_)
   ·have hlt2:q2<x.blocks.length:=by have:=of_decide_eq_true hb;omega
    clear hb;obtain ⟨y,hx2⟩:∃ v9,(x.blocks)[q2]?=some v9:=⟨_,List.getElem?_eq_getElem hlt2⟩;obtain ⟨g2,o2,b2,hp2,E2,In2⟩:=block_at In1.out.blocks hx2;replace In2:Hid _:=In2;replace hp2:Hid _:=hp2;replace hx2:Hid _:=hx2;replace E2:Hid _:=E2;refine wp_skip ?_;refine hK47 _ _ ?_;refine wp_seq_k fun K50 hK50=>?_;refine wp_block ?_;refine wp_seq_k fun K51 hK51=>?_;refine rg h49 fun ops=>?_;clear h49 a49;refine sfFunc3 trivial rfl rfl ?_;refine sbBlocks 0 hW46 trivial rfl rfl rfl rfl ?_;refine sm trivial rfl rfl ?_;refine siBlocks hp2.out hlt2 trivial rfl rfl rfl ?_;refine sSE Tryz.underlying60 rfl (rangeAt_bel E2.out hW46.bel) infBlock trivial rfl rfl ?_;refine sABlock hW46 trivial rfl ?_;clear hW46;intro w52 B52 hW52 hN;clear hN;refine sT 0 hW52 rfl rfl infBlock rfl rfl rfl ?_;clear hW52;intro w53 hW53;refine St.nil fun a54 h54=>?_;refine hK51 _ _ ?_;refine wp_seq_k fun K55 hK55=>?_;refine wp_seq_k fun K56 hK56=>?_;refine fr_region ?_;intro ops hops;have hg4:(ops[4]?).bind (fun o:Oper=>o.dst)=some 54:=hops 4;have hg9:(ops[9]?).bind (fun o:Oper=>o.dst)=some 59:=hops 9;have hg16:(ops[16]?).bind (fun o:Oper=>o.dst)=some 66:=hops 16;have hg24:(ops[24]?).bind (fun o:Oper=>o.dst)=some 74:=hops 24;have hg32:(ops[32]?).bind (fun o:Oper=>o.dst)=some 82:=hops 32;have hg40:(ops[40]?).bind (fun o:Oper=>o.dst)=some 90:=hops 40;clear hops;refine St.go h54 ?_;clear h54 a54;refine sfBlock2 trivial rfl rfl ?_;refine sbInss 0 hW53 trivial rfl rfl rfl rfl ?_;refine slInss trivial rfl rfl ?_;refine sgt trivial rfl rfl rfl ?_;refine sm trivial rfl rfl ?_;intro a57 h57;rcases Bool.eq_false_or_eq_true (decide (200<(y.code.length:Int))) with hb | hb
    ·rw [hb] at h57
     have hc58:200<y.code.length:=by have:=of_decide_eq_true hb;omega
     clear hb;refine St.go h57 ?_;clear h57 a57;refine so hg4 rfl rfl rfl rfl ?_;refine so hg4 rfl rfl rfl rfl ?_;refine so hg4 rfl rfl rfl rfl ?_;refine sp trivial rfl rfl rfl ?_;refine sm trivial rfl rfl ?_;refine so hg9 rfl rfl rfl rfl ?_;refine so hg9 rfl rfl rfl rfl ?_;refine so hg9 rfl rfl rfl rfl ?_;refine so hg9 rfl rfl rfl rfl ?_;refine so hg9 rfl rfl rfl rfl ?_;refine sp trivial rfl rfl rfl ?_;refine sm trivial rfl rfl ?_;refine so hg16 rfl rfl rfl rfl ?_;refine so hg16 rfl rfl rfl rfl ?_;refine so hg16 rfl rfl rfl rfl ?_;refine so hg16 rfl rfl rfl rfl ?_;refine so hg16 rfl rfl rfl rfl ?_;refine so hg16 rfl rfl rfl rfl ?_;refine sp trivial rfl rfl rfl ?_;refine sm trivial rfl rfl ?_;refine so hg24 rfl rfl rfl rfl ?_;refine so hg24 rfl rfl rfl rfl ?_;refine so hg24 rfl rfl rfl rfl ?_;refine so hg24 rfl rfl rfl rfl ?_;refine so hg24 rfl rfl rfl rfl ?_;refine so hg24 rfl rfl rfl rfl ?_;refine sp trivial rfl rfl rfl ?_;refine sm trivial rfl rfl ?_;refine so hg32 rfl rfl rfl rfl ?_;refine so hg32 rfl rfl rfl rfl ?_;refine so hg32 rfl rfl rfl rfl ?_;refine so hg32 rfl rfl rfl rfl ?_;refine so hg32 rfl rfl rfl rfl ?_;refine so hg32 rfl rfl rfl rfl ?_;refine sp trivial rfl rfl rfl ?_;refine sm trivial rfl rfl ?_;refine so hg40 rfl rfl rfl rfl ?_;refine so hg40 rfl rfl rfl rfl ?_;refine so hg40 rfl rfl rfl rfl ?_;refine so hg40 rfl rfl rfl rfl ?_;refine so hg40 rfl rfl rfl rfl ?_;refine so hg40 rfl rfl rfl rfl ?_;refine sp trivial rfl rfl rfl ?_;refine St.nil fun a59 h59=>?_;refine hK56 _ _ ?_;refine fr_true (t:=97) h59 rfl ?_;refine wp_seq_k fun K60 hK60=>?_;refine rg h59 fun ops=>?_;clear h59 a59;refine sa trivial rfl rfl ?_;refine St.nil fun a61 h61=>?_;refine hK60 _ _ ?_;refine wp_ret ?_;with_reducible repeat first | refine of_then_ret ?_ | refine of_block_ret ?_
     have GR:greatMod m:=.inr ⟨x,List.mem_of_getElem? hx1.out,.inr (.inr (.inr ⟨y,List.mem_of_getElem? hx2.out,.inl hc58⟩))⟩;exact ret_tmp (t:=2) h61 rfl rfl ⟨by rw [bdec_true GR],hW53.bel⟩
    rw [hb] at h57;have hc62:¬ (200<y.code.length):=by have:=of_decide_eq_false hb;omega
    clear hb;refine St.go h57 ?_;clear h57 a57;refine sfBlock1 ⟨_,hg4,rfl,rfl⟩ rfl rfl ?_;refine sbTypes 0 hW53 ⟨_,hg4,rfl,rfl⟩ rfl rfl rfl rfl ?_;refine sc_1 cf25 hW53 (greatTypes_any n y.params b2.pP b2.cP w53 ((types_lin In2.out.params).1.below hW53.bel)) ⟨_,hg4,rfl,rfl⟩ rfl rfl ?_;clear hW53;intro w63 hW63;refine spf trivial rfl rfl rfl ?_;refine sm trivial rfl rfl ?_;intro a64 h64;rcases Bool.eq_false_or_eq_true (bdec (greatTs y.params)) with hb | hb
    ·rw [hb] at h64
     have hc65:(greatTs y.params):=bdec_iff.1 hb;clear hb;refine St.go h64 ?_;clear h64 a64;refine so hg9 rfl rfl rfl rfl ?_;refine so hg9 rfl rfl rfl rfl ?_;refine so hg9 rfl rfl rfl rfl ?_;refine so hg9 rfl rfl rfl rfl ?_;refine so hg9 rfl rfl rfl rfl ?_;refine sp trivial rfl rfl rfl ?_;refine sm trivial rfl rfl ?_;refine so hg16 rfl rfl rfl rfl ?_;refine so hg16 rfl rfl rfl rfl ?_;refine so hg16 rfl rfl rfl rfl ?_;refine so hg16 rfl rfl rfl rfl ?_;refine so hg16 rfl rfl rfl rfl ?_;refine so hg16 rfl rfl rfl rfl ?_;refine sp trivial rfl rfl rfl ?_;refine sm trivial rfl rfl ?_;refine so hg24 rfl rfl rfl rfl ?_;refine so hg24 rfl rfl rfl rfl ?_;refine so hg24 rfl rfl rfl rfl ?_;refine so hg24 rfl rfl rfl rfl ?_;refine so hg24 rfl rfl rfl rfl ?_;refine so hg24 rfl rfl rfl rfl ?_;refine sp trivial rfl rfl rfl ?_;refine sm trivial rfl rfl ?_;refine so hg32 rfl rfl rfl rfl ?_;refine so hg32 rfl rfl rfl rfl ?_;refine so hg32 rfl rfl rfl rfl ?_;refine so hg32 rfl rfl rfl rfl ?_;refine so hg32 rfl rfl rfl rfl ?_;refine so hg32 rfl rfl rfl rfl ?_;refine sp trivial rfl rfl rfl ?_;refine sm trivial rfl rfl ?_;refine so hg40 rfl rfl rfl rfl ?_;refine so hg40 rfl rfl rfl rfl ?_;refine so hg40 rfl rfl rfl rfl ?_;refine so hg40 rfl rfl rfl rfl ?_;refine so hg40 rfl rfl rfl rfl ?_;refine so hg40 rfl rfl rfl rfl ?_;refine sp trivial rfl rfl rfl ?_;refine St.nil fun a66 h66=>?_;refine hK56 _ _ ?_;refine fr_true (t:=97) h66 rfl ?_;refine wp_seq_k fun K67 hK67=>?_;refine rg h66 fun ops=>?_;clear h66 a66;refine sa trivial rfl rfl ?_;refine St.nil fun a68 h68=>?_;refine hK67 _ _ ?_;refine wp_ret ?_;with_reducible repeat first | refine of_then_ret ?_ | refine of_block_ret ?_
     have GR:greatMod m:=.inr ⟨x,List.mem_of_getElem? hx1.out,.inr (.inr (.inr ⟨y,List.mem_of_getElem? hx2.out,.inr (.inl hc65)⟩))⟩;exact ret_tmp (t:=2) h68 rfl rfl ⟨by rw [bdec_true GR],hW63.bel⟩
    rw [hb] at h64;have hc69:¬ (greatTs y.params):=fun h=>by rw [bdec_true h] at hb;cases hb
    clear hb;refine St.go h64 ?_;clear h64 a64;refine sfBlock3 ⟨_,hg9,rfl,rfl⟩ rfl rfl ?_;refine sfEnd4 ⟨_,hg9,rfl,rfl⟩ rfl rfl ?_;refine sbInts 0 hW63 ⟨_,hg9,rfl,rfl⟩ rfl rfl rfl rfl ?_;refine slInts ⟨_,hg9,rfl,rfl⟩ rfl rfl ?_;refine sgt ⟨_,hg9,rfl,rfl⟩ rfl rfl rfl ?_;refine spf trivial rfl rfl rfl ?_;refine sm trivial rfl rfl ?_;intro a70 h70;rcases Bool.eq_false_or_eq_true (decide (300<(y.fin.args.length:Int))) with hb | hb
    ·rw [hb] at h70
     have hc71:300<y.fin.args.length:=by have:=of_decide_eq_true hb;omega
     clear hb;refine St.go h70 ?_;clear h70 a70;refine so hg16 rfl rfl rfl rfl ?_;refine so hg16 rfl rfl rfl rfl ?_;refine so hg16 rfl rfl rfl rfl ?_;refine so hg16 rfl rfl rfl rfl ?_;refine so hg16 rfl rfl rfl rfl ?_;refine so hg16 rfl rfl rfl rfl ?_;refine sp trivial rfl rfl rfl ?_;refine sm trivial rfl rfl ?_;refine so hg24 rfl rfl rfl rfl ?_;refine so hg24 rfl rfl rfl rfl ?_;refine so hg24 rfl rfl rfl rfl ?_;refine so hg24 rfl rfl rfl rfl ?_;refine so hg24 rfl rfl rfl rfl ?_;refine so hg24 rfl rfl rfl rfl ?_;refine sp trivial rfl rfl rfl ?_;refine sm trivial rfl rfl ?_;refine so hg32 rfl rfl rfl rfl ?_;refine so hg32 rfl rfl rfl rfl ?_;refine so hg32 rfl rfl rfl rfl ?_;refine so hg32 rfl rfl rfl rfl ?_;refine so hg32 rfl rfl rfl rfl ?_;refine so hg32 rfl rfl rfl rfl ?_;refine sp trivial rfl rfl rfl ?_;refine sm trivial rfl rfl ?_;refine so hg40 rfl rfl rfl rfl ?_;refine so hg40 rfl rfl rfl rfl ?_;refine so hg40 rfl rfl rfl rfl ?_;refine so hg40 rfl rfl rfl rfl ?_;refine so hg40 rfl rfl rfl rfl ?_;refine so hg40 rfl rfl rfl rfl ?_;refine sp trivial rfl rfl rfl ?_;refine St.nil fun a72 h72=>?_;refine hK56 _ _ ?_;refine fr_true (t:=97) h72 rfl ?_;refine wp_seq_k fun K73 hK73=>?_;refine rg h72 fun ops=>?_;clear h72 a72;refine sa trivial rfl rfl ?_;refine St.nil fun a74 h74=>?_;refine hK73 _ _ ?_;refine wp_ret ?_;with_reducible repeat first | refine of_then_ret ?_ | refine of_block_ret ?_
     have GR:greatMod m:=.inr ⟨x,List.mem_of_getElem? hx1.out,.inr (.inr (.inr ⟨y,List.mem_of_getElem? hx2.out,.inr (.inr (.inl hc71))⟩))⟩;exact ret_tmp (t:=2) h74 rfl rfl ⟨by rw [bdec_true GR],hW63.bel⟩
    rw [hb] at h70;have hc75:¬ (300<y.fin.args.length):=by have:=of_decide_eq_false hb;omega
    clear hb;refine St.go h70 ?_;clear h70 a70;refine sfBlock3 ⟨_,hg16,rfl,rfl⟩ rfl rfl ?_;refine sfEnd2 ⟨_,hg16,rfl,rfl⟩ rfl rfl ?_;refine sfTo1 ⟨_,hg16,rfl,rfl⟩ rfl rfl ?_;refine sbInts 0 hW63 ⟨_,hg16,rfl,rfl⟩ rfl rfl rfl rfl ?_;refine slInts ⟨_,hg16,rfl,rfl⟩ rfl rfl ?_;refine sgt ⟨_,hg16,rfl,rfl⟩ rfl rfl rfl ?_;refine spf trivial rfl rfl rfl ?_;refine sm trivial rfl rfl ?_;intro a76 h76;rcases Bool.eq_false_or_eq_true (decide (300<(y.fin.yes.regs.length:Int))) with hb | hb
    ·rw [hb] at h76
     have hc77:300<y.fin.yes.regs.length:=by have:=of_decide_eq_true hb;omega
     clear hb;refine St.go h76 ?_;clear h76 a76;refine so hg24 rfl rfl rfl rfl ?_;refine so hg24 rfl rfl rfl rfl ?_;refine so hg24 rfl rfl rfl rfl ?_;refine so hg24 rfl rfl rfl rfl ?_;refine so hg24 rfl rfl rfl rfl ?_;refine so hg24 rfl rfl rfl rfl ?_;refine sp trivial rfl rfl rfl ?_;refine sm trivial rfl rfl ?_;refine so hg32 rfl rfl rfl rfl ?_;refine so hg32 rfl rfl rfl rfl ?_;refine so hg32 rfl rfl rfl rfl ?_;refine so hg32 rfl rfl rfl rfl ?_;refine so hg32 rfl rfl rfl rfl ?_;refine so hg32 rfl rfl rfl rfl ?_;refine sp trivial rfl rfl rfl ?_;refine sm trivial rfl rfl ?_;refine so hg40 rfl rfl rfl rfl ?_;refine so hg40 rfl rfl rfl rfl ?_;refine so hg40 rfl rfl rfl rfl ?_;refine so hg40 rfl rfl rfl rfl ?_;refine so hg40 rfl rfl rfl rfl ?_;refine so hg40 rfl rfl rfl rfl ?_;refine sp trivial rfl rfl rfl ?_;refine St.nil fun a78 h78=>?_;refine hK56 _ _ ?_;refine fr_true (t:=97) h78 rfl ?_;refine wp_seq_k fun K79 hK79=>?_;refine rg h78 fun ops=>?_;clear h78 a78;refine sa trivial rfl rfl ?_;refine St.nil fun a80 h80=>?_;refine hK79 _ _ ?_;refine wp_ret ?_;with_reducible repeat first | refine of_then_ret ?_ | refine of_block_ret ?_
     have GR:greatMod m:=.inr ⟨x,List.mem_of_getElem? hx1.out,.inr (.inr (.inr ⟨y,List.mem_of_getElem? hx2.out,.inr (.inr (.inr (.inl hc77)))⟩))⟩;exact ret_tmp (t:=2) h80 rfl rfl ⟨by rw [bdec_true GR],hW63.bel⟩
    rw [hb] at h76;have hc81:¬ (300<y.fin.yes.regs.length):=by have:=of_decide_eq_false hb;omega
    clear hb;refine St.go h76 ?_;clear h76 a76;refine sfBlock3 ⟨_,hg24,rfl,rfl⟩ rfl rfl ?_;refine sfEnd2 ⟨_,hg24,rfl,rfl⟩ rfl rfl ?_;refine sfTo2 ⟨_,hg24,rfl,rfl⟩ rfl rfl ?_;refine sbInts 0 hW63 ⟨_,hg24,rfl,rfl⟩ rfl rfl rfl rfl ?_;refine slInts ⟨_,hg24,rfl,rfl⟩ rfl rfl ?_;refine sgt ⟨_,hg24,rfl,rfl⟩ rfl rfl rfl ?_;refine spf trivial rfl rfl rfl ?_;refine sm trivial rfl rfl ?_;intro a82 h82;rcases Bool.eq_false_or_eq_true (decide (300<(y.fin.yes.args.length:Int))) with hb | hb
    ·rw [hb] at h82
     have hc83:300<y.fin.yes.args.length:=by have:=of_decide_eq_true hb;omega
     clear hb;refine St.go h82 ?_;clear h82 a82;refine so hg32 rfl rfl rfl rfl ?_;refine so hg32 rfl rfl rfl rfl ?_;refine so hg32 rfl rfl rfl rfl ?_;refine so hg32 rfl rfl rfl rfl ?_;refine so hg32 rfl rfl rfl rfl ?_;refine so hg32 rfl rfl rfl rfl ?_;refine sp trivial rfl rfl rfl ?_;refine sm trivial rfl rfl ?_;refine so hg40 rfl rfl rfl rfl ?_;refine so hg40 rfl rfl rfl rfl ?_;refine so hg40 rfl rfl rfl rfl ?_;refine so hg40 rfl rfl rfl rfl ?_;refine so hg40 rfl rfl rfl rfl ?_;refine so hg40 rfl rfl rfl rfl ?_;refine sp trivial rfl rfl rfl ?_;refine St.nil fun a84 h84=>?_;refine hK56 _ _ ?_;refine fr_true (t:=97) h84 rfl ?_;refine wp_seq_k fun K85 hK85=>?_;refine rg h84 fun ops=>?_;clear h84 a84;refine sa trivial rfl rfl ?_;refine St.nil fun a86 h86=>?_;refine hK85 _ _ ?_;refine wp_ret ?_;with_reducible repeat first | refine of_then_ret ?_ | refine of_block_ret ?_
     have GR:greatMod m:=.inr ⟨x,List.mem_of_getElem? hx1.out,.inr (.inr (.inr ⟨y,List.mem_of_getElem? hx2.out,.inr (.inr (.inr (.inr (.inl hc83))))⟩))⟩;exact ret_tmp (t:=2) h86 rfl rfl ⟨by rw [bdec_true GR],hW63.bel⟩
    rw [hb] at h82;have hc87:¬ (300<y.fin.yes.args.length):=by have:=of_decide_eq_false hb;omega
    clear hb;refine St.go h82 ?_;clear h82 a82;refine sfBlock3 ⟨_,hg32,rfl,rfl⟩ rfl rfl ?_;refine sfEnd3 ⟨_,hg32,rfl,rfl⟩ rfl rfl ?_;refine sfTo1 ⟨_,hg32,rfl,rfl⟩ rfl rfl ?_;refine sbInts 0 hW63 ⟨_,hg32,rfl,rfl⟩ rfl rfl rfl rfl ?_;refine slInts ⟨_,hg32,rfl,rfl⟩ rfl rfl ?_;refine sgt ⟨_,hg32,rfl,rfl⟩ rfl rfl rfl ?_;refine spf trivial rfl rfl rfl ?_;refine sm trivial rfl rfl ?_;intro a88 h88;rcases Bool.eq_false_or_eq_true (decide (300<(y.fin.no.regs.length:Int))) with hb | hb
    ·rw [hb] at h88
     have hc89:300<y.fin.no.regs.length:=by have:=of_decide_eq_true hb;omega
     clear hb;refine St.go h88 ?_;clear h88 a88;refine so hg40 rfl rfl rfl rfl ?_;refine so hg40 rfl rfl rfl rfl ?_;refine so hg40 rfl rfl rfl rfl ?_;refine so hg40 rfl rfl rfl rfl ?_;refine so hg40 rfl rfl rfl rfl ?_;refine so hg40 rfl rfl rfl rfl ?_;refine sp trivial rfl rfl rfl ?_;refine St.nil fun a90 h90=>?_;refine hK56 _ _ ?_;refine fr_true (t:=97) h90 rfl ?_;refine wp_seq_k fun K91 hK91=>?_;refine rg h90 fun ops=>?_;clear h90 a90;refine sa trivial rfl rfl ?_;refine St.nil fun a92 h92=>?_;refine hK91 _ _ ?_;refine wp_ret ?_;with_reducible repeat first | refine of_then_ret ?_ | refine of_block_ret ?_
     have GR:greatMod m:=.inr ⟨x,List.mem_of_getElem? hx1.out,.inr (.inr (.inr ⟨y,List.mem_of_getElem? hx2.out,.inr (.inr (.inr (.inr (.inr (.inl hc89)))))⟩))⟩;exact ret_tmp (t:=2) h92 rfl rfl ⟨by rw [bdec_true GR],hW63.bel⟩
    rw [hb] at h88;have hc93:¬ (300<y.fin.no.regs.length):=by have:=of_decide_eq_false hb;omega
    clear hb;refine St.go h88 ?_;clear h88 a88;refine sfBlock3 ⟨_,hg40,rfl,rfl⟩ rfl rfl ?_;refine sfEnd3 ⟨_,hg40,rfl,rfl⟩ rfl rfl ?_;refine sfTo2 ⟨_,hg40,rfl,rfl⟩ rfl rfl ?_;refine sbInts 0 hW63 ⟨_,hg40,rfl,rfl⟩ rfl rfl rfl rfl ?_;refine slInts ⟨_,hg40,rfl,rfl⟩ rfl rfl ?_;refine sgt ⟨_,hg40,rfl,rfl⟩ rfl rfl rfl ?_;refine spf trivial rfl rfl rfl ?_;refine St.nil fun a94 h94=>?_;refine hK56 _ _ ?_;refine fr_cond (t:=97) h94 rfl (fun hb=>?_) (fun hb=>?_)
    ·have hc95:300<y.fin.no.args.length:=by have:=of_decide_eq_true hb;omega
     clear hb;refine wp_seq_k fun K96 hK96=>?_;refine rg h94 fun ops=>?_;clear h94 a94;refine sa trivial rfl rfl ?_;refine St.nil fun a97 h97=>?_;refine hK96 _ _ ?_;refine wp_ret ?_;with_reducible repeat first | refine of_then_ret ?_ | refine of_block_ret ?_
     have GR:greatMod m:=.inr ⟨x,List.mem_of_getElem? hx1.out,.inr (.inr (.inr ⟨y,List.mem_of_getElem? hx2.out,.inr (.inr (.inr (.inr (.inr (.inr (.inl hc95))))))⟩))⟩;exact ret_tmp (t:=2) h97 rfl rfl ⟨by rw [bdec_true GR],hW63.bel⟩
    have hc98:¬ (300<y.fin.no.args.length):=by have:=of_decide_eq_false hb;omega
    clear hb;refine wp_skip ?_;refine hK55 _ _ ?_;refine wp_seq_k fun K99 hK99=>?_;refine rg h94 fun ops=>?_;clear h94 a94;refine sa trivial rfl rfl ?_;refine St.nil fun a100 h100=>?_;refine hK99 _ _ ?_;refine wp_block ?_;refine fr_loop (fun r a w'=>∃ q3:Nat,q3≤y.code.length∧r=y.code.length - q3∧(∀ (j:Nat) z,j<q3→y.code[j]?=some z→¬ (300<z.regs.length)∧¬ (300<z.args.length))∧Fr 123 a [(0,.agg #[.slice p m.length c]),(1,.pointer (some ⟨B2,0,none⟩)),(2,.bool false),(3,.int .i64 (q1:Int)),(4,.pointer (some ⟨B20,0,none⟩)),(5,.int .i64 (q2:Int)),(6,.pointer (some ⟨B52,0,none⟩)),(7,.int .i64 (q3:Int))]∧Wd w w' [(B52,#[.int .i64 y.regs,.slice b2.pP y.params.length b2.cP,.slice b2.pC y.code.length b2.cC,.int .i64 y.fin.op,.int .i64 y.fin.a,.int .i64 y.fin.yes.block,.slice b2.e.pYR y.fin.yes.regs.length b2.e.cYR,.slice b2.e.pYA y.fin.yes.args.length b2.e.cYA,.int .i64 y.fin.no.block,.slice b2.e.pNR y.fin.no.regs.length b2.e.cNR,.slice b2.e.pNA y.fin.no.args.length b2.e.cNA,.slice b2.e.pA y.fin.args.length b2.e.cA],60),(B20,#[.int .i64 x.regs,.slice f1.pP x.params.length f1.cP,.slice f1.pR x.results.length f1.cR,.slice f1.pB x.blocks.length f1.cB],40),(B2,#[.slice p m.length c],24)]) (y.code.length) ⟨0,Nat.zero_le _,rfl,(fun j x hj=>by omega),(h100.keep (h100.keep (h100.keep (h100.keep (h100.keep (h100.keep (h100.keep (h100.keep h100.nil (t:=7) rfl) (t:=6) rfl) (t:=5) rfl) (t:=4) rfl) (t:=3) rfl) (t:=2) rfl) (t:=1) rfl) (t:=0) rfl),hW63⟩ ?_;clear h100 hW63;rintro r3 a101 w101 ⟨q3,hq3,hr3,hall3,hF101,hW101⟩ KL3 hKL3;refine wp_seq_k fun K102 hK102=>?_;refine wp_seq_k fun K103 hK103=>?_;refine rg hF101 fun ops=>?_;clear hF101 a101;refine sm trivial rfl rfl ?_;refine sfBlock2 trivial rfl rfl ?_;refine sbInss 0 hW101 trivial rfl rfl rfl rfl ?_;refine slInss trivial rfl rfl ?_;refine slt trivial rfl rfl rfl ?_;refine St.nil fun a104 h104=>?_;refine hK103 _ _ ?_;refine fr_cond (t:=102) h104 rfl (fun hb=>?_) (fun hb=>?_)
    ·have hlt3:q3<y.code.length:=by have:=of_decide_eq_true hb;omega
     clear hb;obtain ⟨z,hx3⟩:∃ v9,(y.code)[q3]?=some v9:=⟨_,List.getElem?_eq_getElem hlt3⟩;obtain ⟨g3,o3,i3,hp3,E3,In3⟩:=ins_at In2.out.code hx3;replace In3:Hid _:=In3;replace hp3:Hid _:=hp3;replace hx3:Hid _:=hx3;replace E3:Hid _:=E3;refine wp_skip ?_;refine hK102 _ _ ?_;refine wp_seq_k fun K105 hK105=>?_;refine wp_block ?_;refine wp_seq_k fun K106 hK106=>?_;refine fr_region ?_;intro ops hops;have hg8:(ops[8]?).bind (fun o:Oper=>o.dst)=some 113:=hops 8;clear hops;refine St.go h104 ?_;clear h104 a104;refine sfBlock2 trivial rfl rfl ?_;refine sbInss 0 hW101 trivial rfl rfl rfl rfl ?_;refine sm trivial rfl rfl ?_;refine siInss hp3.out hlt3 trivial rfl rfl rfl ?_;refine sfIns6 trivial rfl rfl ?_;refine scInts (bel_cell hW101.bel (E3.out 6 _ rfl)) trivial rfl rfl ?_;refine slInts trivial rfl rfl ?_;refine sgt trivial rfl rfl rfl ?_;refine sm trivial rfl rfl ?_;intro a107 h107;rcases Bool.eq_false_or_eq_true (decide (300<(z.regs.length:Int))) with hb | hb
     ·rw [hb] at h107
      have hc108:300<z.regs.length:=by have:=of_decide_eq_true hb;omega
      clear hb;refine St.go h107 ?_;clear h107 a107;refine so hg8 rfl rfl rfl rfl ?_;refine so hg8 rfl rfl rfl rfl ?_;refine so hg8 rfl rfl rfl rfl ?_;refine so hg8 rfl rfl rfl rfl ?_;refine so hg8 rfl rfl rfl rfl ?_;refine so hg8 rfl rfl rfl rfl ?_;refine so hg8 rfl rfl rfl rfl ?_;refine so hg8 rfl rfl rfl rfl ?_;refine sp trivial rfl rfl rfl ?_;refine St.nil fun a109 h109=>?_;refine hK106 _ _ ?_;refine fr_true (t:=122) h109 rfl ?_;refine wp_seq_k fun K110 hK110=>?_;refine rg h109 fun ops=>?_;clear h109 a109;refine sa trivial rfl rfl ?_;refine St.nil fun a111 h111=>?_;refine hK110 _ _ ?_;refine wp_ret ?_;with_reducible repeat first | refine of_then_ret ?_ | refine of_block_ret ?_
      have GR:greatMod m:=.inr ⟨x,List.mem_of_getElem? hx1.out,.inr (.inr (.inr ⟨y,List.mem_of_getElem? hx2.out,.inr (.inr (.inr (.inr (.inr (.inr (.inr ⟨z,List.mem_of_getElem? hx3.out,.inl hc108⟩))))))⟩))⟩;exact ret_tmp (t:=2) h111 rfl rfl ⟨by rw [bdec_true GR],hW101.bel⟩
     rw [hb] at h107;have hc112:¬ (300<z.regs.length):=by have:=of_decide_eq_false hb;omega
     clear hb;refine St.go h107 ?_;clear h107 a107;refine sfBlock2 ⟨_,hg8,rfl,rfl⟩ rfl rfl ?_;refine sbInss 0 hW101 ⟨_,hg8,rfl,rfl⟩ rfl rfl rfl rfl ?_;refine sm ⟨_,hg8,rfl,rfl⟩ rfl rfl ?_;refine siInss hp3.out hlt3 ⟨_,hg8,rfl,rfl⟩ rfl rfl rfl ?_;refine sfIns7 ⟨_,hg8,rfl,rfl⟩ rfl rfl ?_;refine scInts (bel_cell hW101.bel (E3.out 7 _ rfl)) ⟨_,hg8,rfl,rfl⟩ rfl rfl ?_;refine slInts ⟨_,hg8,rfl,rfl⟩ rfl rfl ?_;refine sgt ⟨_,hg8,rfl,rfl⟩ rfl rfl rfl ?_;refine spf trivial rfl rfl rfl ?_;refine St.nil fun a113 h113=>?_;refine hK106 _ _ ?_;refine fr_cond (t:=122) h113 rfl (fun hb=>?_) (fun hb=>?_)
     ·have hc114:300<z.args.length:=by have:=of_decide_eq_true hb;omega
      clear hb;refine wp_seq_k fun K115 hK115=>?_;refine rg h113 fun ops=>?_;clear h113 a113;refine sa trivial rfl rfl ?_;refine St.nil fun a116 h116=>?_;refine hK115 _ _ ?_;refine wp_ret ?_;with_reducible repeat first | refine of_then_ret ?_ | refine of_block_ret ?_
      have GR:greatMod m:=.inr ⟨x,List.mem_of_getElem? hx1.out,.inr (.inr (.inr ⟨y,List.mem_of_getElem? hx2.out,.inr (.inr (.inr (.inr (.inr (.inr (.inr ⟨z,List.mem_of_getElem? hx3.out,.inr hc114⟩))))))⟩))⟩;exact ret_tmp (t:=2) h116 rfl rfl ⟨by rw [bdec_true GR],hW101.bel⟩
     have hc117:¬ (300<z.args.length):=by have:=of_decide_eq_false hb;omega
     clear hb;refine wp_skip ?_;refine hK105 _ _ ?_;refine rg h113 fun ops=>?_;clear h113 a113;refine sm trivial rfl rfl ?_;refine sad (by omega) trivial rfl rfl rfl ?_;refine sa trivial rfl rfl ?_;refine St.nil fun a118 h118=>?_;refine hKL3 _ _ (y.code.length - (q3+1)) (by omega) ⟨q3+1,by omega,rfl,?_,(h118.keep (h118.keep (h118.keep (h118.keep (h118.keep (h118.keep (h118.keep (h118.keep h118.nil (t:=7) rfl) (t:=6) rfl) (t:=5) rfl) (t:=4) rfl) (t:=3) rfl) (t:=2) rfl) (t:=1) rfl) (t:=0) rfl),hW101⟩
     ·intro j y hj hy
      by_cases e:j=q3
      · subst e;rw [hx3.out] at hy;cases hy;exact ⟨hc112,hc117⟩
      · exact hall3 j y (by omega) hy
    have hge3:q3=y.code.length:=by have:=of_decide_eq_false hb;omega
    clear hb
    have NG2:¬ y.great:=by
      rintro (h | h | h | h | h | h | h | ⟨z,hz,h⟩)
      · exact absurd h hc62
      · exact absurd h hc69
      · exact absurd h hc75
      · exact absurd h hc81
      · exact absurd h hc87
      · exact absurd h hc93
      · exact absurd h hc98
      · obtain ⟨i,hi,rfl⟩:=List.mem_iff_getElem.1 hz
        have:=hall3 i _ (by omega) (List.getElem?_eq_getElem hi)
        omega
    refine wp_exit ?_;refine hK50 _ _ ?_;refine rg h104 fun ops=>?_;clear h104 a104;refine sm trivial rfl rfl ?_;refine sad (by omega) trivial rfl rfl rfl ?_;refine sa trivial rfl rfl ?_;refine St.nil fun a119 h119=>?_;refine hKL2 _ _ (x.blocks.length - (q2+1)) (by omega) ⟨q2+1,by omega,rfl,?_,(h119.keep (h119.keep (h119.keep (h119.keep (h119.keep (h119.keep h119.nil (t:=5) rfl) (t:=4) rfl) (t:=3) rfl) (t:=2) rfl) (t:=1) rfl) (t:=0) rfl),hW101.tail⟩
    ·intro j y hj hy
     by_cases e:j=q2
     · subst e;rw [hx2.out] at hy;cases hy;exact NG2
     · exact hall2 j y (by omega) hy
   have hge2:q2=x.blocks.length:=by have:=of_decide_eq_false hb;omega
   clear hb
   have NG1:¬ x.great:=by
     rintro (h | h | h | ⟨y,hy,h⟩)
     · exact absurd h hc30
     · exact absurd h hc37
     · exact absurd h hc43
     · obtain ⟨i,hi,rfl⟩:=List.mem_iff_getElem.1 hy;exact hall2 i _ (by omega) (List.getElem?_eq_getElem hi) h
   refine wp_exit ?_;refine hK18 _ _ ?_;refine rg h49 fun ops=>?_;clear h49 a49;refine sm trivial rfl rfl ?_;refine sad (by omega) trivial rfl rfl rfl ?_;refine sa trivial rfl rfl ?_;refine St.nil fun a120 h120=>?_;refine hKL1 _ _ (m.length - (q1+1)) (by omega) ⟨q1+1,by omega,rfl,?_,(h120.keep (h120.keep (h120.keep (h120.keep h120.nil (t:=3) rfl) (t:=2) rfl) (t:=1) rfl) (t:=0) rfl),hW46.tail⟩
   ·intro j y hj hy
    by_cases e:j=q1
    · subst e;rw [hx1.out] at hy;cases hy;exact NG1
    · exact hall1 j y (by omega) hy
  have hge1:q1=m.length:=by have:=of_decide_eq_false hb;omega
  clear hb;refine wp_exit ?_;refine hK11 _ _ ?_;refine wp_seq_k fun K121 hK121=>?_;refine rg h17 fun ops=>?_;clear h17 a17;refine sa trivial rfl rfl ?_;refine St.nil fun a122 h122=>?_;refine hK121 _ _ ?_;refine wp_ret ?_;with_reducible repeat first | refine of_then_ret ?_ | refine of_block_ret ?_
  have GR:¬ greatMod m:=by
    rintro (h | ⟨x,hx,h⟩)
    · omega
    · obtain ⟨i,hi,rfl⟩:=List.mem_iff_getElem.1 hx;exact hall1 i _ (by omega) (List.getElem?_eq_getElem hi) h
  exact ret_tmp (t:=2) h122 rfl rfl ⟨by rw [bdec_false GR],hW14.bel⟩
def KTo (wA w : World) (b : Nat) (O : Nat → Prop) (s : JSt) : Prop := ∃ O', KAt w b O' s ∧ Step O O' wA w ∧ ∀ k, O' k → k < w.heap.size
section
variable {w w9 wA : World} {b : Nat} {O : Nat → Prop} {L : List Bool} {s : JSt}
theorem HoldsAt.push2 (h : HoldsAt w b O L) {a : Option Addr} {cap cap2 g : Nat} (c0 : w.cell? ⟨b, 0, none⟩ = some (.slice a L.length cap))
    (h1:w9.ownsRow 0 4 1 (.slice (some ⟨g,0,none⟩) (L.length+1) cap2) (L.length+1) (L.map Value.bool++[.bool true])) (h2:w.grownBy w9 (Value.slice a L.length cap).ownBlock) (h3:(Value.slice a L.length cap).ownBlock=some g∨w.heap.size≤g) (h4:g<w9.heap.size) :
    w9.cell? ⟨b,0,none⟩=some (.slice a L.length cap)∧w9.frozen? ⟨b,0,none⟩=false ∧
    HoldsAt (w9.setCell ⟨b,0,none⟩ (.slice (some ⟨g,0,none⟩) (L.length+1) cap2)) b (fun x=>O x∨(w.heap.size≤x∧x<w9.heap.size)) (L++[true])∧Step O (fun x=>O x∨(w.heap.size≤x∧x<w9.heap.size)) w (w9.setCell ⟨b,0,none⟩ (.slice (some ⟨g,0,none⟩) (L.length+1) cap2)):=by
  obtain ⟨v,k1,k2,k3⟩:=h;have e:=cellOf k1 0 _ rfl;rw [c0] at e;simp only [Option.some.injEq] at e;subst e;have hbl:b<w.heap.size:=lt_of_block k1
  have hne:∀ g',(Value.slice a L.length cap).ownBlock=some g'→b≠g':=fun g' hg'=>by
    obtain ⟨c,hc⟩:=k2.block hg';exact blockNe k1 hc (by decide)
  have kb:w9.heap[b]?=some (.cells #[.slice a L.length cap] 119 (0,0)):=by
    rw [h2.block b hbl (fun e=>hne b e.symm rfl)];exact k1
  have hgb:b≠g:=by
    rcases h3 with h | h
    · exact hne g h
    · omega
  have hsz:=h2.size;refine ⟨cellOf kb 0 _ rfl,freeOf kb 0,⟨.slice (some ⟨g,0,none⟩) (L.length+1) cap2,?_,⟨?_,fun g' hg'=>?_⟩,.inl k3⟩,?_⟩
  · rw [blockSet kb];rfl
  · have:VRow w9 (fun _=>True) 4 (.slice (some ⟨g,0,none⟩) (L.length+1) cap2) ((L++[true]).map Value.bool):=⟨by simpa using h1,fun _ _=>trivial⟩
    exact (this.keep (w':=w9.setCell ⟨b,0,none⟩ (.slice (some ⟨g,0,none⟩) (L.length+1) cap2)) (O':=fun _=>True) (fun g' hg'=>Below.heap_setCell _ _ _ _ (by simp [Value.ownBlock] at hg';subst hg';exact fun e=>hgb e.symm)) (fun _ _=>trivial)).1
  · simp [Value.ownBlock] at hg';subst hg';rcases h3 with h | h
    · exact .inl (k2.2 _ h)
    · exact .inr ⟨h,h4⟩
  · refine ⟨h2.os,h2.tape,h2.output,by simp;omega,fun k hk hn=>?_,fun k hk=>hk.imp id fun h=>h.1⟩;rw [Below.heap_setCell _ _ _ _ (fun e=>hn (by subst e;exact k3)),h2.block k hk (fun e=>hn (k2.2 k e.symm))]
theorem HoldsAt.keep2 {O' : Nat → Prop} (h : HoldsAt w b O L) (hb : ∀ (g : Nat) (c : Array Value) (t : TypeId), w.heap[g]? = some (Obj.cells c t (0, 0)) → t = 119 ∨ t = 4 → w9.heap[g]? = w.heap[g]?) (hO : ∀ g, O g → O' g) : HoldsAt w9 b O' L := by
  obtain ⟨v,h1,h2,h3⟩:=h;exact ⟨v,(hb b _ _ h1 (.inl rfl)).trans h1,h2.keep (fun g hg=>by obtain ⟨c,hc⟩:=h2.block hg;exact hb g _ _ hc (.inr rfl)) (fun g hg=>hO g (h2.2 g hg)),hO b h3⟩
theorem KAt.pushH (hO : ∀ k, O k → k < wA.heap.size) (h : KAt wA b O s) : ∃ hh a cap, wA.cell? ⟨b, 5, none⟩ = some (.pointer (some ⟨hh, 0, none⟩)) ∧ wA.cell? ⟨hh, 0, none⟩ = some (.slice a s.H.length cap) ∧ wA.ownsRow 0 4 1 (.slice a s.H.length cap) s.H.length (s.H.map Value.bool) ∧
    (∀ w9,wA.grownBy w9 (Value.slice a s.H.length cap).ownBlock→w9.cell? ⟨b,5,none⟩=some (.pointer (some ⟨hh,0,none⟩))∧w9.cell? ⟨hh,0,none⟩=some (.slice a s.H.length cap)∧w9.frozen? ⟨hh,0,none⟩=false) ∧
    ∀ w9 g cap2,w9.ownsRow 0 4 1 (.slice (some ⟨g,0,none⟩) (s.H.length+1) cap2) (s.H.length+1) (s.H.map Value.bool++[.bool true])→wA.grownBy w9 (Value.slice a s.H.length cap).ownBlock→((Value.slice a s.H.length cap).ownBlock=some g∨wA.heap.size≤g)→g<w9.heap.size →
      KTo wA (w9.setCell ⟨hh,0,none⟩ (.slice (some ⟨g,0,none⟩) (s.H.length+1) cap2)) b O { s with H:=s.H++[true] }:=by
  obtain ⟨pm,cm,a1,c1,a2,c2,a3,c3,hh,vL,k1,k2,k3,k4,k5,k6⟩:=h;obtain ⟨a,cap,e1,e2,e3,-⟩:=k4.cells
  have hv:∀ g',(Value.slice a s.H.length cap).ownBlock=some g'→O g'∧∃ c,wA.heap[g']?=some (.cells c 4 (0,0)):=by
    obtain ⟨v,q1,q2,q3⟩:=id k4;have e:=cellOf q1 0 _ rfl;rw [e1] at e;simp only [Option.some.injEq] at e;subst e;exact fun g' hg'=>⟨q2.2 g' hg',q2.block hg'⟩
  obtain ⟨ch,hch⟩:∃ c,wA.heap[hh]?=some (.cells c 119 (0,0)):=by obtain ⟨v,q1,-⟩:=id k4;exact ⟨_,q1⟩
  have hbl:=lt_of_block k1
  have hnb:∀ g',(Value.slice a s.H.length cap).ownBlock=some g'→b≠g':=fun g' hg'=>by
    obtain ⟨c,hc⟩:=(hv g' hg').2;exact blockNe k1 hc (by decide)
  have hnh:∀ g',(Value.slice a s.H.length cap).ownBlock=some g'→hh≠g':=fun g' hg'=>by
    obtain ⟨c,hc⟩:=(hv g' hg').2;exact blockNe hch hc (by decide)
  have hbh:b≠hh:=blockNe k1 hch (by decide);refine ⟨hh,a,cap,cellOf k1 5 _ rfl,e1,e3,fun w9 hg=>?_,fun w9 g cap2 h1 h2 h3 h4=>?_⟩
  · have r1:w9.heap[hh]?=some (.cells ch 119 (0,0)):=(hg.block hh k4.lt (fun e=>hnh hh e.symm rfl)).trans hch;exact ⟨(hg.cell_far ⟨b,5,none⟩ hbl (fun e=>hnb b e.symm rfl)).trans (cellOf k1 5 _ rfl),(hg.cell_far ⟨hh,0,none⟩ k4.lt (fun e=>hnh hh e.symm rfl)).trans e1,freeOf r1 0⟩
  obtain ⟨-,-,r3,r4⟩:=k4.push2 e1 h1 h2 h3 h4;have hsz:=h2.size;have low:∀ k,¬ O k→k<wA.heap.size→¬ (O k∨(wA.heap.size≤k∧k<w9.heap.size)):=fun k hk hl e=>by rcases e with e | e;exact hk e;omega
  refine ⟨_,⟨pm,cm,a1,c1,a2,c2,a3,c3,hh,vL,?_,(modL 6).keep (fun k hk hl=>r4.block k hl hk) low k2,(funcL 6).keep (fun k hk hl=>r4.block k hl hk) low k3,r3,k5.keep (fun k hl hk=>?_) (fun k hk=>?_) low,.inl k6⟩,r4,fun k hk=>?_⟩
  · rw [Below.heap_setCell _ _ _ _ (show b≠hh from hbh),h2.block b hbl (fun e=>hnb b e.symm rfl)];exact k1
  · rcases hk with hk | hk
    · obtain ⟨c,hc⟩:=k5.block hk;rw [Below.heap_setCell _ _ _ _ (show k≠hh from blockNe hc hch (by decide)),h2.block k hl (fun e=>by obtain ⟨c',hc'⟩:=(hv k e.symm).2;exact blockNe hc hc' (by decide) rfl)]
    · exact r4.block k hl hk
  · obtain ⟨xs,q1,q2,q3⟩:=k5;exact .inl (q2 k hk)
  · rw [World.size_setCell];rcases hk with hk | hk
    · have:=hO k hk;omega
    · exact hk.2
theorem KAt.setH (hO : ∀ k, O k → k < wA.heap.size) (h : KAt wA b O s) : ∃ hh a cap, wA.cell? ⟨b, 5, none⟩ = some (.pointer (some ⟨hh, 0, none⟩)) ∧ wA.cell? ⟨hh, 0, none⟩ = some (.slice a s.H.length cap) ∧
    ∀ i,i<s.H.length→∃ g,a=some ⟨g,0,none⟩∧(∃ u,wA.cell? ⟨g,i,none⟩=some (.bool u))∧wA.frozen? ⟨g,i,none⟩=false∧KTo wA (wA.setCell ⟨g,i,none⟩ (.bool false)) b O { s with H:=s.H.set i false }:=by
  obtain ⟨pm,cm,a1,c1,a2,c2,a3,c3,hh,vL,k1,k2,k3,k4,k5,k6⟩:=h;obtain ⟨a,cap,e1,e2,e3,e4⟩:=k4.cells
  have hv:∀ g',(Value.slice a s.H.length cap).ownBlock=some g'→O g'∧∃ c,wA.heap[g']?=some (.cells c 4 (0,0)):=by
    obtain ⟨v,q1,q2,q3⟩:=id k4;have e:=cellOf q1 0 _ rfl;rw [e1] at e;simp only [Option.some.injEq] at e;subst e;exact fun g' hg'=>⟨q2.2 g' hg',q2.block hg'⟩
  refine ⟨hh,a,cap,cellOf k1 5 _ rfl,e1,fun i hi=>?_⟩;obtain ⟨g,rfl,hg,f1,f2,f3⟩:=e4 i hi;obtain ⟨c,hc⟩:=(hv g rfl).2;have st:Step O O wA (wA.setCell ⟨g,i,none⟩ (.bool false)):=⟨rfl,rfl,rfl,by simp,fun k hk hn=>Below.heap_setCell _ _ _ _ (fun e=>hn (by subst e;exact hg)),fun k hk=>.inl hk⟩;refine ⟨g,rfl,⟨_,f1⟩,f2,O,⟨pm,cm,a1,c1,a2,c2,a3,c3,hh,vL,?_,(modL 6).keep (fun k hk hl=>st.block k hl hk) (fun k hk _=>hk) k2,(funcL 6).keep (fun k hk hl=>st.block k hl hk) (fun k hk _=>hk) k3,f3 false,k5.keep (fun k hl hk=>?_) (fun k hk=>?_) (fun k hk _=>hk),k6⟩,st,fun k hk=>by rw [World.size_setCell];exact hO k hk⟩
  · rw [Below.heap_setCell _ _ _ _ (show b≠g from blockNe k1 hc (by decide))];exact k1
  · rcases hk with hk | hk
    · obtain ⟨c',hc'⟩:=k5.block hk;exact Below.heap_setCell _ _ _ _ (show k≠g from blockNe hc' hc (by decide))
    · exact st.block k hl hk
  · obtain ⟨xs,q1,q2,q3⟩:=k5;exact q2 k hk
theorem KAt.pushL (hO : ∀ k, O k → k < wA.heap.size) (h : KAt wA b O s) : ∃ aL cL xs, wA.cell? ⟨b, 6, none⟩ = some (.slice aL s.L.length cL) ∧ wA.frozen? ⟨b, 6, none⟩ = false ∧ s.L.length ≤ cL ∧ wA.ownsRow 0 70 3 (.slice aL s.L.length cL) s.L.length xs ∧
    ∀ w9 g cap2 (l:List (TT 6)) ds,ds.length=l.length*3→w9.ownsRow 0 70 3 (.slice (some ⟨g,0,none⟩) (s.L.length+l.length) cap2) (s.L.length+l.length) (xs++ds)→wA.grownBy w9 (Value.slice aL s.L.length cL).ownBlock→((Value.slice aL s.L.length cL).ownBlock=some g∨g=wA.heap.size)→g<w9.heap.size →
      (∀ i x,l[i]?=some x→(Lay.tt 6).In wA (fun g=>¬ O g) x ((ds.drop (i*3)).take 3)) →
      w9.cell? ⟨b,6,none⟩=some (.slice aL s.L.length cL)∧w9.frozen? ⟨b,6,none⟩=false∧KTo wA (w9.setCell ⟨b,6,none⟩ (.slice (some ⟨g,0,none⟩) (s.L.length+l.length) cap2)) b O { s with L:=s.L++l }:=by
  obtain ⟨pm,cm,a1,c1,a2,c2,a3,c3,hh,vL,k1,k2,k3,k4,k5,k6⟩:=h;obtain ⟨aL,cL,rfl,-,-⟩:=k5.form;have hv:∀ {g'},(Value.slice aL s.L.length cL).ownBlock=some g'→O g'∧∃ c,wA.heap[g']?=some (.cells c 70 (0,0)):=fun {g'} hg'=>⟨by obtain ⟨xs,q1,q2,q3⟩:=id k5;exact q2 g' hg',k5.block hg'⟩;obtain ⟨xs,q1,q2,q3⟩:=k5;obtain ⟨ch,hch⟩:∃ c,wA.heap[hh]?=some (.cells c 119 (0,0)):=by obtain ⟨v,q1,-⟩:=id k4;exact ⟨_,q1⟩
  have hbl:=lt_of_block k1
  have hnb:∀ g',(Value.slice aL s.L.length cL).ownBlock=some g'→b≠g':=fun g' hg'=>by
    obtain ⟨c,hc⟩:=(hv hg').2;exact blockNe k1 hc (by decide)
  have hle:s.L.length≤cL:=by
    obtain ⟨-,q⟩:=id q1;rcases q with ⟨e,e2⟩ | ⟨g,cap,cur,e,_,_,hn,_⟩
    · omega
    · simp only [Value.slice.injEq] at e;omega
  refine ⟨aL,cL,xs,cellOf k1 6 _ rfl,freeOf k1 6,hle,q1,fun w9 g cap2 l ds hdl h1 h2 h3 h4 h5=>?_⟩;have hsz:=h2.size;have kb:=(h2.block b hbl (fun e=>hnb b e.symm rfl)).trans k1
  have hgb:b≠g:=by
    rcases h3 with h | h
    · exact hnb g h
    · omega
  have low:∀ k,¬ O k→k<wA.heap.size→¬ (O k∨(wA.heap.size≤k∧k<w9.heap.size)):=fun k hk hl e=>by rcases e with e | e;exact hk e;omega
  have r4:Step O (fun x=>O x∨(wA.heap.size≤x∧x<w9.heap.size)) wA (w9.setCell ⟨b,6,none⟩ (.slice (some ⟨g,0,none⟩) (s.L.length+l.length) cap2)):=by
    refine ⟨h2.os,h2.tape,h2.output,by simp;omega,fun k hk hn=>?_,fun k hk=>hk.imp id fun h=>h.1⟩;rw [Below.heap_setCell _ _ _ _ (fun e=>hn (by subst e;exact k6)),h2.block k hk (fun e=>hn (hv e.symm).1)]
  refine ⟨cellOf kb 6 _ rfl,freeOf kb 6,_,⟨pm,cm,a1,c1,a2,c2,a3,c3,hh,.slice (some ⟨g,0,none⟩) (s.L.length+l.length) cap2,?_,(modL 6).keep (fun k hk hl=>r4.block k hl hk) low k2,(funcL 6).keep (fun k hk hl=>r4.block k hl hk) low k3,k4.keep2 (fun k c t hk ht=>?_) (fun k hk=>.inl hk),?_,.inl k6⟩,r4,fun k hk=>?_⟩
  · rw [blockSet kb];rfl
  · rw [Below.heap_setCell _ _ _ _ (show k≠b from blockNe hk k1 (by rcases ht with rfl | rfl <;> decide)),h2.block k (lt_of_block hk) (fun e=>by obtain ⟨c',hc'⟩:=(hv e.symm).2;exact blockNe hk hc' (by rcases ht with rfl | rfl <;> decide) rfl)]
  · refine ⟨xs++ds,?_,fun k hk=>?_,?_⟩
    · rw [List.length_append];exact owns_keep h1 (Below.heap_setCell _ _ _ _ (show g≠b from fun e=>hgb e.symm))
    · simp [Value.ownBlock] at hk;subst hk;rcases h3 with h | h
      · exact .inl (hv h).1
      · exact .inr ⟨by omega,h4⟩
    · refine kids_append (s:=3) (P:=fun x cs=>(Lay.tt 6).In _ _ x cs) q1.1 (fun i x hx=>?_) (fun i x hx=>?_)
      · exact (Lay.tt 6).keep (fun k hk hl=>r4.block k hl hk) low (q3 i x hx)
      · exact (Lay.tt 6).keep (fun k hk hl=>r4.block k hl hk) low (h5 i x hx)
  · rw [World.size_setCell];rcases hk with hk | hk
    · have:=hO k hk;omega
    · exact hk.2
end
theorem Closed.via {l : List Oper} {S : Nat → Bool} (hcl : Closed l S) {q i : Nat} {o : Oper} (ho : l[q]? = some o) (hw : waitsT l 24 o i = true) (hq : S q = true) : S i = true :=
  waitsT_at (all:=l) (S:=fun j=>S j=true) hcl 24 o hw (hcl q o ho hq)
theorem Closed.no {l : List Oper} {S : Nat → Bool} (hcl : Closed l S) {q i : Nat} {o : Oper} (ho : l[q]? = some o) (hw : waitsT l 24 o i = true) (hS : S i = false) : S q = false := by
  cases h:S q with
  | false=>rfl
  | true=>have:=hcl.via ho hw h;rw [hS] at this;cases this
theorem plus_ne {i j : Nat} {S : Nat → Bool} (h : j ≠ i) : plus i S j = S j := by
  have:(j==i)=false:=by simpa using h
  unfold plus;rw [this,Bool.false_or]
theorem plus_eq {i : Nat} {S : Nat → Bool} : plus i S i = true := by simp [plus]
theorem grown_of {w w' : World} (h : Below w.heap.size w w') (row : Option Nat) : w.grownBy w' row := ⟨h.os, h.tape, h.output, h.size, fun k hk _ => h.block k hk⟩
def hTi : List (Nat × Tmp) := [(0, 38), (1, 39), (2, 40), (3, 41), (4, 42), (5, 43), (6, 44), (7, 45), (8, 46), (9, 47), (10, 48), (11, 49), (12, 50), (13, 51), (14, 52)]
def hMv (b hh rn rc G g2 cap2 : Nat) (ra : Option Addr) : List (Tmp × Value) := [(38, .pointer (some ⟨b, 0, none⟩)), (39, .pointer (some ⟨b, 0, none⟩)), (40, .pointer (some ⟨b, 5, none⟩)), (41, .pointer (some ⟨hh, 0, none⟩)), (42, .pointer (some ⟨b, 0, none⟩)), (43, .pointer (some ⟨b, 0, none⟩)), (44, .pointer (some ⟨b, 5, none⟩)), (45, .pointer (some ⟨hh, 0, none⟩)), (46, .pointer (some ⟨hh, 0, none⟩)), (47, .pointer (some ⟨hh, 0, none⟩)), (48, .slice ra rn rc), (49, .slice (some ⟨G, 0, none⟩) 1 1), (50, .slice (some ⟨g2, 0, none⟩) (rn + 1) cap2), (51, .pointer (some ⟨hh, 0, none⟩)), (52, .pointer (some ⟨hh, 0, none⟩))]
def HIv (n : Nat) (a0 : Act) (wA : World) (b : Nat) (O : Nat → Prop) (s : JSt) (hh rn rc : Nat) (ra : Option Addr) (S : Nat → Bool) (a : Act) (w : World) : Prop :=
  a.tmps.size=n∧a.defers=[]∧(∀ t,([38,39,40,41,42,43,44,45,46,47,48,49,50,51,52]:List Tmp).contains t=false→a.tmps.getD t undef=a0.tmps.getD t undef)∧∃ G g2 cap2,
    (∀ x∈hTi,S x.1=true→∀ v,(hMv b hh rn rc G g2 cap2 ra).lookup x.2=some v→a.tmps.getD x.2 undef=v) ∧
    (S 15=false→wA.grownBy w (Value.slice ra rn rc).ownBlock∧(S 12=false→Below wA.heap.size wA w∧(S 11=true→wA.heap.size≤G∧w.heap[G]?=some (.cells #[.bool true] 4 (0,0)))) ∧
      (S 12=true→w.ownsRow 0 4 1 (.slice (some ⟨g2,0,none⟩) (rn+1) cap2) (rn+1) (s.H.map Value.bool++[.bool true])∧((Value.slice ra rn rc).ownBlock=some g2∨wA.heap.size≤g2)∧g2<w.heap.size)) ∧
    (S 15=true→KTo wA w b O { s with H:=s.H++[true] })
section
variable {n : Nat} {a0 a : Act} {wA w w' : World} {b hh rn rc : Nat} {O : Nat → Prop} {s : JSt} {ra : Option Addr} {S : Nat → Bool}
theorem hTi_lt : ∀ x ∈ hTi, x.2 < 53 ∧ ([38, 39, 40, 41, 42, 43, 44, 45, 46, 47, 48, 49, 50, 51, 52] : List Tmp).contains x.2 = true := by decide
theorem HIv.pure {i : Nat} {t : Tmp} {v : Value} (hI : HIv n a0 wA b O s hh rn rc ra S a w) (hn : 53 ≤ n) (hi : (i, t) ∈ hTi) (hv : ∀ G g2 cap2, (hMv b hh rn rc G g2 cap2 ra).lookup t = some v) (h11 : i ≠ 11) (h12 : i ≠ 12) (h15 : i ≠ 15) : HIv n a0 wA b O s hh rn rc ra (plus i S) (a.put (some t) v) w := by
  obtain ⟨h1,h2,h3,G,g2,cap2,h4,h5,h6⟩:=hI;obtain ⟨ht,htc⟩:=hTi_lt _ hi;have hta:t<a.tmps.size:=by rw [h1];exact Nat.lt_of_lt_of_le ht hn
  refine ⟨by rw [← h1];simp [Act.put],h2,fun u hu=>?_,G,g2,cap2,fun x hx hs v' hv'=>?_,?_,?_⟩
  · have:u≠t:=fun e=>by subst e;rw [htc] at hu;cases hu
    rw [put_at hta,if_neg this];exact h3 u hu
  · rw [put_at hta];by_cases e:x.2=t
    · rw [if_pos e];rw [e,hv] at hv';exact Option.some.inj hv'
    · rw [if_neg e];refine h4 x hx (plus_of (fun e2=>e ?_) hs) v' hv'
      have:∀ x∈hTi,∀ y∈hTi,x.1=y.1→x.2=y.2:=by decide
      exact this x hx (i,t) hi e2
  · rw [plus_ne (Ne.symm h15),plus_ne (Ne.symm h12),plus_ne (Ne.symm h11)];exact h5
  · rw [plus_ne (Ne.symm h15)];exact h6
end
theorem bUnder : Tryz.prog.underlying 117 = some (.slice 4) := by kernel_rfl
theorem ki10 {wA : World} {b : Nat} {O : Nat → Prop} {s : JSt} (hO : ∀ k, O k → k < wA.heap.size) (h : KAt wA b O s) (h16 : s.H.length ≤ 16) (a : Act) (hn : a.tmps.size = 82) (hdf : a.defers = []) (h0 : a.tmps.getD 0 undef = .pointer (some ⟨b, 0, none⟩)) :
    Code.wp Tryz.prog ((Tryz.f43.body.bind (hRegionOf 10)).getD .skip) (fun e a' w'=>e=.normal∧∃ vs,a'=puts a vs [38,39,40,41,42,43,44,45,46,47,48,49,50,51,52]∧KTo wA w' b O { s with H:=s.H++[true] }) a wA:=by
  obtain ⟨hh,ra,rc,q5,q0,hown,hfar,hpush⟩:=h.pushH hO;obtain ⟨i0,hi,hz0,hz1,hz2⟩:=hInfoB;conv=>arg 2;whnf
  refine draw_inv (HIv 82 a wA b O s hh s.H.length rc ra) (by kernel_rfl) (by kernel_rfl) ?h0 ?hst ?hend
  case h0=>exact ⟨hn,hdf,fun _ _=>rfl,0,0,0,fun _ _ h=>(by cases h),fun _=>⟨grown_of (hbelowN (Below.refl _ _) 1) _,fun _=>⟨hbelowN (Below.refl _ _) 1,fun h=>by cases h⟩,fun h=>by cases h⟩,fun h=>by cases h⟩
  case hend =>
    rintro S a' w' hS ⟨h1,h2,h3,G,g2,cap2,h4,h5,h6⟩;have hS':∀ j,j<16→S j=true:=hS;exact ⟨rfl,_,puts_of (by rw [h1,hn]) (by rw [h2,hdf]) h3,h6 (hS' 15 (by decide))⟩
  case hst =>
    refine ⟨fun S a1 w1 hS hd hcl hI K hK=>?_,?_⟩
    · obtain ⟨h1,h2,h3,G,g2,cap2,h4,h5,h6⟩:=id hI;have H2:Hid (a1.defers=[]):=h2;clear h2;have n15:S 15=false:=hcl.no (q:=15) rfl (by kernel_rfl) hS;have k0:a1.tmps.getD 0 undef=.pointer (some ⟨b,0,none⟩):=(h3 0 (by kernel_rfl)).trans h0;go_simp;exact hK _ _ (hI.pure (by decide) (i:=0) (t:=38) (by decide) (fun _ _ _=>rfl) (by decide) (by decide) (by decide))
    refine ⟨fun S a1 w1 hS hd hcl hI K hK=>?_,?_⟩
    · obtain ⟨h1,h2,h3,G,g2,cap2,h4,h5,h6⟩:=id hI;have H2:Hid (a1.defers=[]):=h2;clear h2;have n15:S 15=false:=hcl.no (q:=15) rfl (by kernel_rfl) hS;have k0:a1.tmps.getD 38 undef=.pointer (some ⟨b,0,none⟩):=h4 (0,38) (by decide) (hd.at 0 (by kernel_rfl)) _ rfl;go_simp;exact hK _ _ (hI.pure (by decide) (i:=1) (t:=39) (by decide) (fun _ _ _=>rfl) (by decide) (by decide) (by decide))
    refine ⟨fun S a1 w1 hS hd hcl hI K hK=>?_,?_⟩
    · obtain ⟨h1,h2,h3,G,g2,cap2,h4,h5,h6⟩:=id hI;have H2:Hid (a1.defers=[]):=h2;clear h2;have n15:S 15=false:=hcl.no (q:=15) rfl (by kernel_rfl) hS;have k0:a1.tmps.getD 39 undef=.pointer (some ⟨b,0,none⟩):=h4 (1,39) (by decide) (hd.at 1 (by kernel_rfl)) _ rfl;go_simp;exact hK _ _ (hI.pure (by decide) (i:=2) (t:=40) (by decide) (fun _ _ _=>rfl) (by decide) (by decide) (by decide))
    refine ⟨fun S a1 w1 hS hd hcl hI K hK=>?_,?_⟩
    · obtain ⟨h1,h2,h3,G,g2,cap2,h4,h5,h6⟩:=id hI;have H2:Hid (a1.defers=[]):=h2;clear h2;have n15:S 15=false:=hcl.no (q:=15) rfl (by kernel_rfl) hS;have k0:a1.tmps.getD 40 undef=.pointer (some ⟨b,5,none⟩):=h4 (2,40) (by decide) (hd.at 2 (by kernel_rfl)) _ rfl;obtain ⟨c0,-,-⟩:=hfar w1 (h5 n15).1;go_simp;exact hK _ _ (hI.pure (by decide) (i:=3) (t:=41) (by decide) (fun _ _ _=>rfl) (by decide) (by decide) (by decide))
    refine ⟨fun S a1 w1 hS hd hcl hI K hK=>?_,?_⟩
    · obtain ⟨h1,h2,h3,G,g2,cap2,h4,h5,h6⟩:=id hI;have H2:Hid (a1.defers=[]):=h2;clear h2;have n15:S 15=false:=hcl.no (q:=15) rfl (by kernel_rfl) hS;have k0:a1.tmps.getD 0 undef=.pointer (some ⟨b,0,none⟩):=(h3 0 (by kernel_rfl)).trans h0;go_simp;exact hK _ _ (hI.pure (by decide) (i:=4) (t:=42) (by decide) (fun _ _ _=>rfl) (by decide) (by decide) (by decide))
    refine ⟨fun S a1 w1 hS hd hcl hI K hK=>?_,?_⟩
    · obtain ⟨h1,h2,h3,G,g2,cap2,h4,h5,h6⟩:=id hI;have H2:Hid (a1.defers=[]):=h2;clear h2;have n15:S 15=false:=hcl.no (q:=15) rfl (by kernel_rfl) hS;have k0:a1.tmps.getD 42 undef=.pointer (some ⟨b,0,none⟩):=h4 (4,42) (by decide) (hd.at 4 (by kernel_rfl)) _ rfl;go_simp;exact hK _ _ (hI.pure (by decide) (i:=5) (t:=43) (by decide) (fun _ _ _=>rfl) (by decide) (by decide) (by decide))
    refine ⟨fun S a1 w1 hS hd hcl hI K hK=>?_,?_⟩
    · obtain ⟨h1,h2,h3,G,g2,cap2,h4,h5,h6⟩:=id hI;have H2:Hid (a1.defers=[]):=h2;clear h2;have n15:S 15=false:=hcl.no (q:=15) rfl (by kernel_rfl) hS;have k0:a1.tmps.getD 43 undef=.pointer (some ⟨b,0,none⟩):=h4 (5,43) (by decide) (hd.at 5 (by kernel_rfl)) _ rfl;go_simp;exact hK _ _ (hI.pure (by decide) (i:=6) (t:=44) (by decide) (fun _ _ _=>rfl) (by decide) (by decide) (by decide))
    refine ⟨fun S a1 w1 hS hd hcl hI K hK=>?_,?_⟩
    · obtain ⟨h1,h2,h3,G,g2,cap2,h4,h5,h6⟩:=id hI;have H2:Hid (a1.defers=[]):=h2;clear h2;have n15:S 15=false:=hcl.no (q:=15) rfl (by kernel_rfl) hS;have k0:a1.tmps.getD 44 undef=.pointer (some ⟨b,5,none⟩):=h4 (6,44) (by decide) (hd.at 6 (by kernel_rfl)) _ rfl;obtain ⟨c0,-,-⟩:=hfar w1 (h5 n15).1;go_simp;exact hK _ _ (hI.pure (by decide) (i:=7) (t:=45) (by decide) (fun _ _ _=>rfl) (by decide) (by decide) (by decide))
    refine ⟨fun S a1 w1 hS hd hcl hI K hK=>?_,?_⟩
    · obtain ⟨h1,h2,h3,G,g2,cap2,h4,h5,h6⟩:=id hI;have H2:Hid (a1.defers=[]):=h2;clear h2;have n15:S 15=false:=hcl.no (q:=15) rfl (by kernel_rfl) hS;have k0:a1.tmps.getD 45 undef=.pointer (some ⟨hh,0,none⟩):=h4 (7,45) (by decide) (hd.at 7 (by kernel_rfl)) _ rfl;go_simp;exact hK _ _ (hI.pure (by decide) (i:=8) (t:=46) (by decide) (fun _ _ _=>rfl) (by decide) (by decide) (by decide))
    refine ⟨fun S a1 w1 hS hd hcl hI K hK=>?_,?_⟩
    · obtain ⟨h1,h2,h3,G,g2,cap2,h4,h5,h6⟩:=id hI;have H2:Hid (a1.defers=[]):=h2;clear h2;have n15:S 15=false:=hcl.no (q:=15) rfl (by kernel_rfl) hS;have k0:a1.tmps.getD 46 undef=.pointer (some ⟨hh,0,none⟩):=h4 (8,46) (by decide) (hd.at 8 (by kernel_rfl)) _ rfl;go_simp;exact hK _ _ (hI.pure (by decide) (i:=9) (t:=47) (by decide) (fun _ _ _=>rfl) (by decide) (by decide) (by decide))
    refine ⟨fun S a1 w1 hS hd hcl hI K hK=>?_,?_⟩
    · obtain ⟨h1,h2,h3,G,g2,cap2,h4,h5,h6⟩:=id hI;have H2:Hid (a1.defers=[]):=h2;clear h2;have n15:S 15=false:=hcl.no (q:=15) rfl (by kernel_rfl) hS;have k0:a1.tmps.getD 47 undef=.pointer (some ⟨hh,0,none⟩):=h4 (9,47) (by decide) (hd.at 9 (by kernel_rfl)) _ rfl;obtain ⟨-,c0,-⟩:=hfar w1 (h5 n15).1;go_simp;exact hK _ _ (hI.pure (by decide) (i:=10) (t:=48) (by decide) (fun _ _ _=>rfl) (by decide) (by decide) (by decide))
    refine ⟨fun S a1 w1 hS hd hcl hI K hK=>?_,?_⟩
    · obtain ⟨h1,h2,h3,G,g2,cap2,h4,h5,h6⟩:=id hI;have H2:Hid (a1.defers=[]):=h2;clear h2;have n15:S 15=false:=hcl.no (q:=15) rfl (by kernel_rfl) hS;have n12:S 12=false:=hcl.no (q:=12) rfl (by kernel_rfl) hS;have hb:=((h5 n15).2.1 n12).1;go_simp;have hta:49<a1.tmps.size:=by rw [h1];decide
      have hbA:Below wA.heap.size wA (w1.alloc (.cells #[.bool true] 4)):=hb.alloc hb.size _;refine hK _ _ ⟨by rw [← h1];simp [Act.put],H2.out,fun u hu=>?_,w1.heap.size,g2,cap2,fun x hx hs v hv=>?_,fun _=>⟨grown_of hbA _,fun _=>⟨hbA,fun _=>⟨hb.size,blockNew _ _ _⟩⟩,fun hs=>?_⟩,fun hs=>?_⟩
      · have:u≠49:=fun e=>by subst e;revert hu;decide
        show (a1.put (some 49) _).tmps.getD u undef=_;rw [put_at hta,if_neg this];exact h3 u hu
      · show (a1.put (some 49) _).tmps.getD x.2 undef=_;rw [put_at hta];simp only [hTi,List.mem_cons,List.not_mem_nil,or_false] at hx;rcases hx with rfl | rfl | rfl | rfl | rfl | rfl | rfl | rfl | rfl | rfl | rfl | rfl | rfl | rfl | rfl
        all_goals first | (rw [if_pos rfl];exact Option.some.inj hv) | (rw [if_neg (by decide)];exact h4 _ (by decide) (plus_of (by decide) hs) v hv)
      · rw [plus_ne (by decide),n12] at hs;cases hs
      · rw [plus_ne (by decide),n15] at hs;cases hs
    refine ⟨fun S a1 w1 hS hd hcl hI K hK=>?_,?_⟩
    · obtain ⟨h1,h2,h3,G,g2,cap2,h4,h5,h6⟩:=id hI;have H2:Hid (a1.defers=[]):=h2;clear h2;have n15:S 15=false:=hcl.no (q:=15) rfl (by kernel_rfl) hS;have k0:a1.tmps.getD 48 undef=.slice ra s.H.length rc:=h4 (10,48) (by decide) (hd.at 10 (by kernel_rfl)) _ rfl;have k1:a1.tmps.getD 49 undef=.slice (some ⟨G,0,none⟩) 1 1:=h4 (11,49) (by decide) (hd.at 11 (by kernel_rfl)) _ rfl;have hb:=((h5 n15).2.1 hS).1;obtain ⟨hG1,hG2⟩:=((h5 n15).2.1 hS).2 (hd.at 11 (by kernel_rfl));have hta:50<a1.tmps.size:=by rw [h1];decide
      have hown1:w1.ownsRow 0 4 1 (.slice ra s.H.length rc) s.H.length (s.H.map Value.bool):=by
        obtain ⟨z1,z2⟩:=hown;refine ⟨z1,?_⟩;rcases z2 with z | ⟨g,cap,cur,e,hg,hh9,r⟩
        · exact .inl z
        · exact .inr ⟨g,cap,cur,e,hg,(hb.block g (lt_of_block hh9)).trans hh9,r⟩
      refine wp_append_lies w1 (.tmp 48) (.tmp 49) 117 rfl 0 4 i0 (.bool false) 1 1 bUnder hi hz0 hz1 hz2 rfl (by decide) _ _ _ k0 hown1 ⟨G,0,none⟩ 1 1 [.bool true] k1 rfl (fun j u hj=>?_) (hOneB _) (by decide) (by unfold maxLen;omega) (by omega) (by simp) w1.heap.size rfl ?_
      · match j,hj with
        | 0,hj=>have e:(Value.bool true)=u:=by simpa using hj
                   subst e;exact cellOf hG2 0 _ rfl
        | j+1,hj=>simp at hj
      intro g9 cap9 w9 r1 r2 r3 r4;have hs9:=hb.size;refine hK _ _ ⟨by rw [← h1];simp [Act.put],H2.out,fun u hu=>?_,G,g9,cap9,fun x hx hs v hv=>?_,fun _=>⟨(h5 n15).1.trans r2,fun hs=>?_,fun _=>⟨r1,r3.imp id (fun e=>by omega),r4⟩⟩,fun hs=>?_⟩
      · have:u≠50:=fun e=>by subst e;revert hu;decide
        show (a1.put (some 50) _).tmps.getD u undef=_;rw [put_at hta,if_neg this];exact h3 u hu
      · show (a1.put (some 50) _).tmps.getD x.2 undef=_;rw [put_at hta];simp only [hTi,List.mem_cons,List.not_mem_nil,or_false] at hx;rcases hx with rfl | rfl | rfl | rfl | rfl | rfl | rfl | rfl | rfl | rfl | rfl | rfl | rfl | rfl | rfl
        all_goals first | (rw [if_pos rfl];exact Option.some.inj hv) | (rw [if_neg (by decide)];exact h4 _ (by decide) (plus_of (by decide) hs) v hv)
      · rw [plus_eq] at hs;cases hs
      · rw [plus_ne (by decide),n15] at hs;cases hs
    refine ⟨fun S a1 w1 hS hd hcl hI K hK=>?_,?_⟩
    · obtain ⟨h1,h2,h3,G,g2,cap2,h4,h5,h6⟩:=id hI;have H2:Hid (a1.defers=[]):=h2;clear h2;have n15:S 15=false:=hcl.no (q:=15) rfl (by kernel_rfl) hS;have k0:a1.tmps.getD 41 undef=.pointer (some ⟨hh,0,none⟩):=h4 (3,41) (by decide) (hd.at 3 (by kernel_rfl)) _ rfl;go_simp;exact hK _ _ (hI.pure (by decide) (i:=13) (t:=51) (by decide) (fun _ _ _=>rfl) (by decide) (by decide) (by decide))
    refine ⟨fun S a1 w1 hS hd hcl hI K hK=>?_,?_⟩
    · obtain ⟨h1,h2,h3,G,g2,cap2,h4,h5,h6⟩:=id hI;have H2:Hid (a1.defers=[]):=h2;clear h2;have n15:S 15=false:=hcl.no (q:=15) rfl (by kernel_rfl) hS;have k0:a1.tmps.getD 51 undef=.pointer (some ⟨hh,0,none⟩):=h4 (13,51) (by decide) (hd.at 13 (by kernel_rfl)) _ rfl;go_simp;exact hK _ _ (hI.pure (by decide) (i:=14) (t:=52) (by decide) (fun _ _ _=>rfl) (by decide) (by decide) (by decide))
    refine ⟨fun S a1 w1 hS hd hcl hI K hK=>?_,?_⟩
    · obtain ⟨h1,h2,h3,G,g2,cap2,h4,h5,h6⟩:=id hI;have H2:Hid (a1.defers=[]):=h2;clear h2;have n15:=hS;have k0:a1.tmps.getD 52 undef=.pointer (some ⟨hh,0,none⟩):=h4 (14,52) (by decide) (hd.at 14 (by kernel_rfl)) _ rfl;have k1:a1.tmps.getD 50 undef=.slice (some ⟨g2,0,none⟩) (s.H.length+1) cap2:=h4 (12,50) (by decide) (hd.at 12 (by kernel_rfl)) _ rfl;obtain ⟨-,c0,f0⟩:=hfar w1 (h5 n15).1;obtain ⟨r1,r2,r3⟩:=(h5 n15).2.2 (hd.at 12 (by kernel_rfl));have Z:=hpush w1 g2 cap2 r1 (h5 n15).1 r2 r3;go_simp;refine hK _ _ ⟨h1,H2.out,h3,G,g2,cap2,fun x hx hs v hv=>h4 x hx (plus_of (fun e=>?_) hs) v hv,fun hs=>?_,fun _=>Z⟩
      · have:∀ x∈hTi,x.1≠15:=by decide
        exact this x hx e
      · rw [plus_eq] at hs;cases hs
    trivial
def TRi (w : World) (lo hi : Nat) (v : Value) (ts : List (TT 6)) : Prop :=
  ∃ xs,w.ownsRow 0 70 3 v ts.length xs∧(∀ g,v.ownBlock=some g→lo≤g∧g<hi)∧∀ i x,ts[i]?=some x→(Lay.tt 6).In w (fun k=>lo≤k∧k<hi∧v.ownBlock≠some k) x ((xs.drop (i*3)).take 3)
theorem TRi.below {w w' : World} {lo hi : Nat} {v : Value} {ts : List (TT 6)} (h : TRi w lo hi v ts) (k : Below w.heap.size w w') : TRi w' lo hi v ts := by
  obtain ⟨xs,⟨h1,h2⟩,h3,h4⟩:=h;refine ⟨xs,⟨h1,?_⟩,h3,fun i x hx=>Lay.below (h4 i x hx) k⟩;rcases h2 with h5 | ⟨g,cap,cur,rfl,hg,hh,r⟩
  · exact .inl h5
  · exact .inr ⟨g,cap,cur,rfl,hg,(k.block g (lt_of_block hh)).trans hh,r⟩
theorem TRi.of_row {w : World} {lo : Nat} {v : Value} {ts : List (TT 6)} {xs : List Value} (h : TRow w lo v ts xs) (hok : ∀ x ∈ ts, x.ok) : TRi w lo w.heap.size v ts := by
  have hl:=fun {g} hg=>h.lo_le (g:=g) hg;obtain ⟨⟨h1,h2⟩,h3⟩:=h;refine ⟨xs,⟨h1,?_⟩,fun g hg=>hl hg,fun i x hx=>?_⟩
  · rcases h2 with h5 | ⟨g,cap,cur,rfl,hg,r⟩
    · exact .inl h5
    · exact .inr ⟨g,cap,cur,rfl,Nat.zero_le _,r⟩
  · obtain ⟨a,c,e0,e1,e2,k⟩:=h3 i x hx;refine ⟨a,c,?_,k.mono (fun g hg hgl=>⟨hg.1,hgl,hg.2⟩),hok x (List.mem_of_getElem? hx)⟩;have hi:i<ts.length:=(List.getElem?_eq_some_iff.1 hx).1;refine List.ext_getElem? fun j=>?_;rw [List.getElem?_take,List.getElem?_drop];match j with
    | 0=>simpa using e0
    | 1=>simpa using e1
    | 2=>simpa using e2
    | j+3=>rw [if_neg (by omega)];rfl
structure KZ where
  h:Nat
  lo:Nat
  hi:Nat
  lo2:Nat
  hi2:Nat
  B:Nat
  c:Nat
  a:Option Addr
def kTi : List (Nat × Tmp) := [(0, 17), (1, 18), (2, 19), (3, 20), (4, 21), (5, 22), (6, 23), (7, 24), (8, 25), (9, 26), (10, 27), (11, 28), (12, 29), (13, 30), (14, 6)]
def kMv (X mg mo nm cm fi Bk n1 d1 fl fc fm fd fn ff : Nat) (fr gr : Int) (fa fb fe p1 : Option Addr) (z : KZ) : List (Tmp × Value) := [(17, .agg #[.slice (some ⟨mg, mo, none⟩) nm cm]), (18, .pointer (some ⟨X, 0, none⟩)), (19, .slice (some ⟨mg, mo, none⟩) nm cm), (20, .int .i64 (fi : Int)), (21, .pointer (some ⟨mg, mo + fi * 4, none⟩)), (22, .agg #[.int .i64 fr, .slice fa fl fc, .slice fb fm fd, .slice fe fn ff]), (23, .pointer (some ⟨Bk, 0, none⟩)), (24, .int .i64 gr), (25, .pointer (some ⟨z.h, 0, none⟩)), (26, .pointer (some ⟨Bk, 1, none⟩)), (27, .slice p1 n1 d1), (28, .slice z.a n1 z.c), (29, .agg #[.slice (some ⟨mg, mo, none⟩) nm cm, .int .i64 fr, .slice fa fl fc, .slice fb fm fd, .slice fe fn ff, .pointer (some ⟨z.h, 0, none⟩), .slice z.a n1 z.c]), (30, .pointer (some ⟨z.B, 0, none⟩)), (6, .pointer (some ⟨z.B, 0, none⟩))]
structure KIv (X mg mo nm cm fi Bk n1 d1 fl fc fm fd fn ff : Nat) (fr gr : Int) (fa fb fe p1 : Option Addr) (n : Nat) (a0 : Act) (w6 : World) (ts : List (TT 6)) (z : KZ) (S : Nat → Bool) (a : Act) (w : World) : Prop where
  size:a.tmps.size=n
  defers:a.defers=[]
  outer:∀ t,([17,18,19,20,21,22,23,24,25,26,27,28,29,30,6]:List Tmp).contains t=false→a.tmps.getD t undef=a0.tmps.getD t undef
  vals:∀ x∈kTi,S x.1=true→∀ v,(kMv X mg mo nm cm fi Bk n1 d1 fl fc fm fd fn ff fr gr fa fb fe p1 z).lookup x.2=some v→a.tmps.getD x.2 undef=v
  bel:Below w6.heap.size w6 w
  held:S 8=true→w6.heap.size≤z.lo∧z.hi≤w.heap.size∧HoldsAt w z.h (fun k=>z.lo≤k∧k<z.hi) (hNew gr)
  row:S 11=true→w6.heap.size≤z.lo2∧z.hi2≤w.heap.size∧TRi w z.lo2 z.hi2 (.slice z.a n1 z.c) ts
  apart:S 8=true→S 11=true→z.hi≤z.lo2∨z.hi2≤z.lo
  box:S 13=true→w6.heap.size≤z.B∧z.hi≤z.B∧z.hi2≤z.B∧Blk w z.B #[.slice (some ⟨mg,mo,none⟩) nm cm,.int .i64 fr,.slice fa fl fc,.slice fb fm fd,.slice fe fn ff,.pointer (some ⟨z.h,0,none⟩),.slice z.a n1 z.c] 114
section
variable {X mg mo nm cm fi Bk n1 d1 fl fc fm fd fn ff : Nat} {fr gr : Int} {fa fb fe p1 : Option Addr} {n : Nat} {a0 a : Act} {w6 w w' : World} {ts : List (TT 6)} {z : KZ} {S : Nat → Bool}
theorem kTi_lt : ∀ x ∈ kTi, x.2 < 31 ∧ ([17, 18, 19, 20, 21, 22, 23, 24, 25, 26, 27, 28, 29, 30, 6] : List Tmp).contains x.2 = true := by decide
theorem kTi_ne : ∀ x ∈ kTi, ∀ y ∈ kTi, x.1 = y.1 → x.2 = y.2 := by decide
theorem KIv.put {z' : KZ} {i : Nat} {t : Tmp} {v : Value} (hI : KIv X mg mo nm cm fi Bk n1 d1 fl fc fm fd fn ff fr gr fa fb fe p1 n a0 w6 ts z S a w) (hn : 31 ≤ n) (hi : (i, t) ∈ kTi) (hv : (kMv X mg mo nm cm fi Bk n1 d1 fl fc fm fd fn ff fr gr fa fb fe p1 z').lookup t = some v) (hz : ∀ x ∈ kTi, x.1 ≠ i → S x.1 = true → (kMv X mg mo nm cm fi Bk n1 d1 fl fc fm fd fn ff fr gr fa fb fe p1 z').lookup x.2 = (kMv X mg mo nm cm fi Bk n1 d1 fl fc fm fd fn ff fr gr fa fb fe p1 z).lookup x.2)
    (h1:Below w6.heap.size w6 w') (h2:plus i S 8=true→w6.heap.size≤z'.lo∧z'.hi≤w'.heap.size∧HoldsAt w' z'.h (fun k=>z'.lo≤k∧k<z'.hi) (hNew gr)) (h3:plus i S 11=true→w6.heap.size≤z'.lo2∧z'.hi2≤w'.heap.size∧TRi w' z'.lo2 z'.hi2 (.slice z'.a n1 z'.c) ts)
    (h4:plus i S 8=true→plus i S 11=true→z'.hi≤z'.lo2∨z'.hi2≤z'.lo) (h5:plus i S 13=true→w6.heap.size≤z'.B∧z'.hi≤z'.B∧z'.hi2≤z'.B∧Blk w' z'.B #[.slice (some ⟨mg,mo,none⟩) nm cm,.int .i64 fr,.slice fa fl fc,.slice fb fm fd,.slice fe fn ff,.pointer (some ⟨z'.h,0,none⟩),.slice z'.a n1 z'.c] 114) :
    KIv X mg mo nm cm fi Bk n1 d1 fl fc fm fd fn ff fr gr fa fb fe p1 n a0 w6 ts z' (plus i S) (a.put (some t) v) w':=by
  obtain ⟨ht,htc⟩:=kTi_lt _ hi;have hta:t<a.tmps.size:=by rw [hI.size];exact Nat.lt_of_lt_of_le ht hn
  refine ⟨by rw [← hI.size];simp [Act.put],hI.defers,fun u hu=>?_,fun x hx hs v' hv'=>?_,h1,h2,h3,h4,h5⟩
  · have:u≠t:=fun e=>by subst e;rw [htc] at hu;cases hu
    rw [put_at hta,if_neg this];exact hI.outer u hu
  · rw [put_at hta];by_cases e:x.2=t
    · rw [if_pos e];rw [e,hv] at hv';exact Option.some.inj hv'
    · rw [if_neg e];have hne:x.1≠i:=fun e2=>e (kTi_ne x hx (i,t) hi e2);have hs':=plus_of hne hs;rw [hz x hx hne hs'] at hv';exact hI.vals x hx hs' v' hv'
theorem KIv.pure {i : Nat} {t : Tmp} {v : Value} (hI : KIv X mg mo nm cm fi Bk n1 d1 fl fc fm fd fn ff fr gr fa fb fe p1 n a0 w6 ts z S a w) (hn : 31 ≤ n) (hi : (i, t) ∈ kTi) (hv : (kMv X mg mo nm cm fi Bk n1 d1 fl fc fm fd fn ff fr gr fa fb fe p1 z).lookup t = some v) (h8 : i ≠ 8) (h11 : i ≠ 11) (h13 : i ≠ 13) : KIv X mg mo nm cm fi Bk n1 d1 fl fc fm fd fn ff fr gr fa fb fe p1 n a0 w6 ts z (plus i S) (a.put (some t) v) w := by
  refine hI.put hn hi hv (fun _ _ _ _=>rfl) hI.bel ?_ ?_ ?_ ?_
  · rw [plus_ne (Ne.symm h8)];exact hI.held
  · rw [plus_ne (Ne.symm h11)];exact hI.row
  · rw [plus_ne (Ne.symm h8),plus_ne (Ne.symm h11)];exact hI.apart
  · rw [plus_ne (Ne.symm h13)];exact hI.box
end
def KNew (X mg mo nm cm fi Bk n1 d1 fl fc fm fd fn ff : Nat) (fr gr : Int) (fa fb fe p1 : Option Addr) (w6 w' : World) (ts : List (TT 6)) (B : Nat) : Prop :=
  ∃ h vL O',Blk w' B #[.slice (some ⟨mg,mo,none⟩) nm cm,.int .i64 fr,.slice fa fl fc,.slice fb fm fd,.slice fe fn ff,.pointer (some ⟨h,0,none⟩),vL] 114∧HoldsAt w' h O' (hNew gr)∧(∃ xs,w'.ownsRow 0 70 3 vL ts.length xs∧(∀ g,vL.ownBlock=some g→O' g)∧∀ i x,ts[i]?=some x→(Lay.tt 6).In w' (fun g=>¬ O' g∧w6.heap.size≤g) x ((xs.drop (i*3)).take 3))∧O' B∧(∀ k,O' k→w6.heap.size≤k∧k<w'.heap.size)∧Below w6.heap.size w6 w'
theorem KIv.fin {X mg mo nm cm fi Bk n1 d1 fl fc fm fd fn ff : Nat} {fr gr : Int} {fa fb fe p1 : Option Addr} {n : Nat} {a0 a : Act} {w6 w : World} {ts : List (TT 6)} {z : KZ} {S : Nat → Bool} (hI : KIv X mg mo nm cm fi Bk n1 d1 fl fc fm fd fn ff fr gr fa fb fe p1 n a0 w6 ts z S a w) (h8 : S 8 = true) (h11 : S 11 = true) (h13 : S 13 = true) : KNew X mg mo nm cm fi Bk n1 d1 fl fc fm fd fn ff fr gr fa fb fe p1 w6 w ts z.B := by
  obtain ⟨p1,p2,p3⟩:=hI.held h8;obtain ⟨q1,q2,xs,q3,q4,q5⟩:=hI.row h11;have ha:=hI.apart h8 h11;obtain ⟨r1,r2,r3,r4⟩:=hI.box h13;have hBl:=lt_of_block r4;refine ⟨z.h,_,fun k=>k=z.B∨(z.lo≤k∧k<z.hi)∨(Value.slice z.a n1 z.c).ownBlock=some k,r4,p3.mono (fun k hk=>.inr (.inl hk)),⟨xs,q3,fun g hg=>.inr (.inr hg),fun i x hx=>?_⟩,.inl rfl,fun k hk=>?_,hI.bel⟩
  · refine (Lay.tt 6).keep (fun _ _ _=>rfl) (fun k hk hl=>⟨fun e=>?_,by omega⟩) (q5 i x hx);rcases e with e | e | e
    · omega
    · omega
    · exact hk.2.2 e
  · rcases hk with rfl | hk | hk
    · exact ⟨r1,hBl⟩
    · omega
    · have:=q4 k hk;omega
theorem ka2 {X mg mo nm cm fi Bk n1 d1 fl fc fm fd fn ff : Nat} {fr gr : Int} {fa fb fe p1 : Option Addr} {w6 : World} {Q : Nat → Prop} {ts : List (TT 6)} (x0 : w6.cell? ⟨X, 0, none⟩ = some (.slice (some ⟨mg, mo, none⟩) nm cm)) (hfi : (fi : Int) < nm) (f0 : w6.cell? ⟨mg, mo + fi * 4, none⟩ = some (.int .i64 fr)) (f1 : w6.cell? ⟨mg, mo + fi * 4 + 1, none⟩ = some (.slice fa fl fc)) (f2 : w6.cell? ⟨mg, mo + fi * 4 + 2, none⟩ = some (.slice fb fm fd)) (f3 : w6.cell? ⟨mg, mo + fi * 4 + 3, none⟩ = some (.slice fe fn ff))
    (y0:w6.cell? ⟨Bk,0,none⟩=some (.int .i64 gr)) (y1:w6.cell? ⟨Bk,1,none⟩=some (.slice p1 n1 d1)) (HN:Hid (ts.length=n1)) (HT:Hid ((typesL 6).In w6 Q ts [.slice p1 n1 d1])) (HC:Hid (∀ t∈ts,t.count≤100000)) (hn1:n1≤100000)
    (a:Act) (hn:a.tmps.size=31) (hdf:a.defers=[]) (h3:a.tmps.getD 3 undef=.pointer (some ⟨X,0,none⟩)) (h1:a.tmps.getD 1 undef=.int .i64 (fi:Int)) (h7:a.tmps.getD 7 undef=.pointer (some ⟨Bk,0,none⟩)) :
    Code.wp Tryz.prog ((Tryz.f42.body.bind (hRegionOf 2)).getD .skip) (fun e a' w'=>e=.normal∧∃ vs,a'=puts a vs [17,18,19,20,21,22,23,24,25,26,27,28,29,30,6]∧∃ B,vs 6=.pointer (some ⟨B,0,none⟩)∧KNew X mg mo nm cm fi Bk n1 d1 fl fc fm fd fn ff fr gr fa fb fe p1 w6 w' ts B) a w6:=by
  conv=>arg 2;whnf
  refine draw_inv (fun S a1 w1=>∃ z,KIv X mg mo nm cm fi Bk n1 d1 fl fc fm fd fn ff fr gr fa fb fe p1 31 a w6 ts z S a1 w1) (by kernel_rfl) (by kernel_rfl) ?h0 ?hst ?hend
  case h0=>exact ⟨⟨0,0,0,0,0,0,0,none⟩,⟨hn,hdf,fun _ _=>rfl,fun _ _ h=>(by cases h),hbelowN (Below.refl _ _) 1,fun h=>(by cases h),fun h=>(by cases h),fun h=>(by cases h),fun h=>(by cases h)⟩⟩
  case hend =>
    rintro S a' w' hS ⟨z,hI⟩;have hS':∀ j,j<15→S j=true:=hS;exact ⟨rfl,_,puts_of (by rw [hI.size,hn]) (by rw [hI.defers,hdf]) hI.outer,z.B,hI.vals (14,6) (by decide) (hS' 14 (by decide)) _ rfl,hI.fin (hS' 8 (by decide)) (hS' 11 (by decide)) (hS' 13 (by decide))⟩
  case hst =>
    refine ⟨fun S a1 w1 hS hd hcl hI0 K hK=>?_,?_⟩
    · obtain ⟨z,hI⟩:=hI0;have hb:=hI.bel;have k0:a1.tmps.getD 3 undef=.pointer (some ⟨X,0,none⟩):=(hI.outer 3 (by kernel_rfl)).trans h3;have c0:=stay x0 hb;go_simp;exact hK _ _ ⟨z,hI.pure (by decide) (i:=0) (t:=17) (by decide) rfl (by decide) (by decide) (by decide)⟩
    refine ⟨fun S a1 w1 hS hd hcl hI0 K hK=>?_,?_⟩
    · obtain ⟨z,hI⟩:=hI0;have hb:=hI.bel;have k0:a1.tmps.getD 3 undef=.pointer (some ⟨X,0,none⟩):=(hI.outer 3 (by kernel_rfl)).trans h3;go_simp;exact hK _ _ ⟨z,hI.pure (by decide) (i:=1) (t:=18) (by decide) rfl (by decide) (by decide) (by decide)⟩
    refine ⟨fun S a1 w1 hS hd hcl hI0 K hK=>?_,?_⟩
    · obtain ⟨z,hI⟩:=hI0;have hb:=hI.bel;have k0:a1.tmps.getD 18 undef=.pointer (some ⟨X,0,none⟩):=hI.vals (1,18) (by decide) (hd.at 1 (by kernel_rfl)) _ rfl;have c0:=stay x0 hb;go_simp;exact hK _ _ ⟨z,hI.pure (by decide) (i:=2) (t:=19) (by decide) rfl (by decide) (by decide) (by decide)⟩
    refine ⟨fun S a1 w1 hS hd hcl hI0 K hK=>?_,?_⟩
    · obtain ⟨z,hI⟩:=hI0;have hb:=hI.bel;have k0:a1.tmps.getD 1 undef=.int .i64 (fi:Int):=(hI.outer 1 (by kernel_rfl)).trans h1;go_simp;exact hK _ _ ⟨z,hI.pure (by decide) (i:=3) (t:=20) (by decide) rfl (by decide) (by decide) (by decide)⟩
    refine ⟨fun S a1 w1 hS hd hcl hI0 K hK=>?_,?_⟩
    · obtain ⟨z,hI⟩:=hI0;have hb:=hI.bel;have k0:a1.tmps.getD 19 undef=.slice (some ⟨mg,mo,none⟩) nm cm:=hI.vals (2,19) (by decide) (hd.at 2 (by kernel_rfl)) _ rfl;have k1:a1.tmps.getD 20 undef=.int .i64 (fi:Int):=hI.vals (3,20) (by decide) (hd.at 3 (by kernel_rfl)) _ rfl;go_simp;exact hK _ _ ⟨z,hI.pure (by decide) (i:=4) (t:=21) (by decide) rfl (by decide) (by decide) (by decide)⟩
    refine ⟨fun S a1 w1 hS hd hcl hI0 K hK=>?_,?_⟩
    · obtain ⟨z,hI⟩:=hI0;have hb:=hI.bel;have k0:a1.tmps.getD 21 undef=.pointer (some ⟨mg,mo+fi*4,none⟩):=hI.vals (4,21) (by decide) (hd.at 4 (by kernel_rfl)) _ rfl;have c0:=stay f0 hb;have c1:=stay f1 hb;have c2:=stay f2 hb;have c3:=stay f3 hb;go_simp;exact hK _ _ ⟨z,hI.pure (by decide) (i:=5) (t:=22) (by decide) rfl (by decide) (by decide) (by decide)⟩
    refine ⟨fun S a1 w1 hS hd hcl hI0 K hK=>?_,?_⟩
    · obtain ⟨z,hI⟩:=hI0;have hb:=hI.bel;have k0:a1.tmps.getD 7 undef=.pointer (some ⟨Bk,0,none⟩):=(hI.outer 7 (by kernel_rfl)).trans h7;go_simp;exact hK _ _ ⟨z,hI.pure (by decide) (i:=6) (t:=23) (by decide) rfl (by decide) (by decide) (by decide)⟩
    refine ⟨fun S a1 w1 hS hd hcl hI0 K hK=>?_,?_⟩
    · obtain ⟨z,hI⟩:=hI0;have hb:=hI.bel;have k0:a1.tmps.getD 23 undef=.pointer (some ⟨Bk,0,none⟩):=hI.vals (6,23) (by decide) (hd.at 6 (by kernel_rfl)) _ rfl;have c0:=stay y0 hb;go_simp;exact hK _ _ ⟨z,hI.pure (by decide) (i:=7) (t:=24) (by decide) rfl (by decide) (by decide) (by decide)⟩
    refine ⟨fun S a1 w1 hS hd hcl hI0 K hK=>?_,?_⟩
    · obtain ⟨z,hI⟩:=hI0;have hb:=hI.bel;have k0:a1.tmps.getD 24 undef=.int .i64 gr:=hI.vals (7,24) (by decide) (hd.at 7 (by kernel_rfl)) _ rfl;have n12:S 12=false:=hcl.no (q:=12) rfl (by kernel_rfl) hS;have n13:S 13=false:=hcl.no (q:=13) rfl (by kernel_rfl) hS;have n14:S 14=false:=hcl.no (q:=14) rfl (by kernel_rfl) hS;go_simp;refine (newHolds_any w1 gr).mono ?_;rintro e w9 ⟨rfl,r1,r2⟩;have hs1:=hb.size;have hs2:=r2.size;refine hK _ _ ⟨{ z with h:=w1.heap.size,lo:=w1.heap.size,hi:=w9.heap.size },hI.put (by decide) (i:=8) (t:=25) (by decide) rfl (fun x hx hne hs=>?_) (hb.trans (r2.mono hs1)) (fun _=>⟨hs1,Nat.le_refl _,r1⟩) (fun hs=>?_) (fun _ hs=>?_) (fun hs=>?_)⟩
      · simp only [kTi,List.mem_cons,List.not_mem_nil,or_false] at hx;rcases hx with rfl | rfl | rfl | rfl | rfl | rfl | rfl | rfl | rfl | rfl | rfl | rfl | rfl | rfl | rfl
        all_goals first | rfl | (exact absurd hs (by rw [n12];decide)) | (exact absurd rfl hne)
      · rw [plus_ne (by decide)] at hs;obtain ⟨q1,q2,q3⟩:=hI.row hs;exact ⟨q1,Nat.le_trans q2 hs2,q3.below r2⟩
      · rw [plus_ne (by decide)] at hs;exact .inr (hI.row hs).2.1
      · rw [plus_ne (by decide),n13] at hs;cases hs
    refine ⟨fun S a1 w1 hS hd hcl hI0 K hK=>?_,?_⟩
    · obtain ⟨z,hI⟩:=hI0;have hb:=hI.bel;have k0:a1.tmps.getD 7 undef=.pointer (some ⟨Bk,0,none⟩):=(hI.outer 7 (by kernel_rfl)).trans h7;go_simp;exact hK _ _ ⟨z,hI.pure (by decide) (i:=9) (t:=26) (by decide) rfl (by decide) (by decide) (by decide)⟩
    refine ⟨fun S a1 w1 hS hd hcl hI0 K hK=>?_,?_⟩
    · obtain ⟨z,hI⟩:=hI0;have hb:=hI.bel;have k0:a1.tmps.getD 26 undef=.pointer (some ⟨Bk,1,none⟩):=hI.vals (9,26) (by decide) (hd.at 9 (by kernel_rfl)) _ rfl;have c0:=stay y1 hb;go_simp;exact hK _ _ ⟨z,hI.pure (by decide) (i:=10) (t:=27) (by decide) rfl (by decide) (by decide) (by decide)⟩
    refine ⟨fun S a1 w1 hS hd hcl hI0 K hK=>?_,?_⟩
    · obtain ⟨z,hI⟩:=hI0;have hb:=hI.bel;have k0:a1.tmps.getD 27 undef=.slice p1 n1 d1:=hI.vals (10,27) (by decide) (hd.at 10 (by kernel_rfl)) _ rfl;have n12:S 12=false:=hcl.no (q:=12) rfl (by kernel_rfl) hS;have n13:S 13=false:=hcl.no (q:=13) rfl (by kernel_rfl) hS;have n14:S 14=false:=hcl.no (q:=14) rfl (by kernel_rfl) hS
      have CL:Calls Tryz.prog 37 #[.slice p1 n1 d1] w1 fun e w'=>∃ a' c',e=.returned (.slice a' n1 c')∧TRi w' w1.heap.size w'.heap.size (.slice a' n1 c') ts∧Below w1.heap.size w1 w':=by
        obtain ⟨tl,tok⟩:=types_lin (Lay.below HT.out hb)
        have:=owns_row 6 (own_any 6) ts p1 d1 w1 tl.all (by rw [HN.out];exact hn1) HC.out
        rw [HN.out] at this;refine this.mono ?_;rintro e w9 ⟨a',c',rfl,⟨xs,hr⟩,hb9⟩;exact ⟨a',c',rfl,TRi.of_row hr tok,hb9⟩
      go_simp;refine CL.mono ?_;rintro e w9 ⟨a',c',rfl,r1,r2⟩;have hs1:=hb.size;have hs2:=r2.size;refine hK _ _ ⟨{ z with a:=a',c:=c',lo2:=w1.heap.size,hi2:=w9.heap.size },hI.put (by decide) (i:=11) (t:=28) (by decide) rfl (fun x hx hne hs=>?_) (hb.trans (r2.mono hs1)) (fun hs=>?_) (fun _=>⟨hs1,Nat.le_refl _,r1⟩) (fun hs _=>?_) (fun hs=>?_)⟩
      · simp only [kTi,List.mem_cons,List.not_mem_nil,or_false] at hx;rcases hx with rfl | rfl | rfl | rfl | rfl | rfl | rfl | rfl | rfl | rfl | rfl | rfl | rfl | rfl | rfl
        all_goals first | rfl | (exact absurd hs (by rw [n12];decide)) | (exact absurd rfl hne)
      · rw [plus_ne (by decide)] at hs;obtain ⟨q1,q2,q3⟩:=hI.held hs;exact ⟨q1,Nat.le_trans q2 hs2,q3.below r2⟩
      · rw [plus_ne (by decide)] at hs;exact .inl (hI.held hs).2.1
      · rw [plus_ne (by decide),n13] at hs;cases hs
    refine ⟨fun S a1 w1 hS hd hcl hI0 K hK=>?_,?_⟩
    · obtain ⟨z,hI⟩:=hI0;have hb:=hI.bel;have k0:a1.tmps.getD 17 undef=.agg #[.slice (some ⟨mg,mo,none⟩) nm cm]:=hI.vals (0,17) (by decide) (hd.at 0 (by kernel_rfl)) _ rfl;have k1:a1.tmps.getD 22 undef=.agg #[.int .i64 fr,.slice fa fl fc,.slice fb fm fd,.slice fe fn ff]:=hI.vals (5,22) (by decide) (hd.at 5 (by kernel_rfl)) _ rfl;have k2:a1.tmps.getD 25 undef=.pointer (some ⟨z.h,0,none⟩):=hI.vals (8,25) (by decide) (hd.at 8 (by kernel_rfl)) _ rfl;have k3:a1.tmps.getD 28 undef=.slice z.a n1 z.c:=hI.vals (11,28) (by decide) (hd.at 11 (by kernel_rfl)) _ rfl;have m0:a1.tmps[17]?.getD undef=.agg #[.slice (some ⟨mg,mo,none⟩) nm cm]:=by rw [← Array.getD_eq_getD_getElem?];exact k0
      have m1:a1.tmps[22]?.getD undef=.agg #[.int .i64 fr,.slice fa fl fc,.slice fb fm fd,.slice fe fn ff]:=by rw [← Array.getD_eq_getD_getElem?];exact k1
      have m2:a1.tmps[25]?.getD undef=.pointer (some ⟨z.h,0,none⟩):=by rw [← Array.getD_eq_getD_getElem?];exact k2
      have m3:a1.tmps[28]?.getD undef=.slice z.a n1 z.c:=by rw [← Array.getD_eq_getD_getElem?];exact k3
      clear k0 k1 k2 k3;go_simp;exact hK _ _ ⟨z,hI.pure (by decide) (i:=12) (t:=29) (by decide) rfl (by decide) (by decide) (by decide)⟩
    refine ⟨fun S a1 w1 hS hd hcl hI0 K hK=>?_,?_⟩
    · obtain ⟨z,hI⟩:=hI0;have hb:=hI.bel;have k0:a1.tmps.getD 29 undef=.agg #[.slice (some ⟨mg,mo,none⟩) nm cm,.int .i64 fr,.slice fa fl fc,.slice fb fm fd,.slice fe fn ff,.pointer (some ⟨z.h,0,none⟩),.slice z.a n1 z.c]:=hI.vals (12,29) (by decide) (hd.at 12 (by kernel_rfl)) _ rfl;have n14:S 14=false:=hcl.no (q:=14) rfl (by kernel_rfl) hS;have s8:S 8=true:=(hcl.via (q:=12) rfl (by kernel_rfl) (hd.at 12 (by kernel_rfl)));have s11:S 11=true:=(hcl.via (q:=12) rfl (by kernel_rfl) (hd.at 12 (by kernel_rfl)));go_simp;have b9:=bel1 w1 (.cells #[.slice (some ⟨mg,mo,none⟩) nm cm,.int .i64 fr,.slice fa fl fc,.slice fb fm fd,.slice fe fn ff,.pointer (some ⟨z.h,0,none⟩),.slice z.a n1 z.c] 114);have hs1:=hb.size;have hs2:=b9.size;refine hK _ _ ⟨{ z with B:=w1.heap.size },hI.put (by decide) (i:=13) (t:=30) (by decide) rfl (fun x hx hne hs=>?_) (hb.trans (b9.mono hs1)) (fun hs=>?_) (fun hs=>?_) (fun _ _=>hI.apart s8 s11) (fun hs=>⟨hs1,(hI.held s8).2.1,(hI.row s11).2.1,blockNew _ _ _⟩)⟩
      · simp only [kTi,List.mem_cons,List.not_mem_nil,or_false] at hx;rcases hx with rfl | rfl | rfl | rfl | rfl | rfl | rfl | rfl | rfl | rfl | rfl | rfl | rfl | rfl | rfl
        all_goals first | rfl | (exact absurd hs (by rw [n14];decide)) | (exact absurd rfl hne)
      · obtain ⟨q1,q2,q3⟩:=hI.held s8;exact ⟨q1,Nat.le_trans q2 hs2,q3.below b9⟩
      · obtain ⟨q1,q2,q3⟩:=hI.row s11;exact ⟨q1,Nat.le_trans q2 hs2,q3.below b9⟩
    refine ⟨fun S a1 w1 hS hd hcl hI0 K hK=>?_,?_⟩
    · obtain ⟨z,hI⟩:=hI0;have hb:=hI.bel;have k0:a1.tmps.getD 30 undef=.pointer (some ⟨z.B,0,none⟩):=hI.vals (13,30) (by decide) (hd.at 13 (by kernel_rfl)) _ rfl;go_simp;exact hK _ _ ⟨z,hI.pure (by decide) (i:=14) (t:=6) (by decide) rfl (by decide) (by decide) (by decide)⟩
    trivial
theorem knownAt_any {w : World} {Q : Nat → Prop} {m : List (MFunc 6)} {f : MFunc 6} {g : MBlock 6} {pm : Option Addr} {cm fi bi : Nat} (hm : (modL 6).In w Q m [.slice pm m.length cm]) (hf : m[fi]? = some f) (hg : f.blocks[bi]? = some g) (hc : ∀ t ∈ g.params, t.count ≤ 100000) (hn : g.params.length ≤ 100000) :
    Calls Tryz.prog 42 #[.agg #[.slice pm m.length cm],.int .i64 (fi:Int),.int .i64 (bi:Int)] w fun e w'=>∃ B O',e=.returned (.pointer (some ⟨B,0,none⟩))∧KAt w' B O' (JSt.start m f g)∧(∀ k,O' k→w.heap.size≤k∧k<w'.heap.size)∧Below w.heap.size w w':=by
  obtain ⟨mg,mo,ds,rfl,-,-,hcs,hfn⟩:=Lay.list_at hm hf;obtain ⟨fa,fc,fb,fd,fe,ff,rfl,-,-,hbs,-⟩:=func_form hfn;obtain ⟨eg,eo,p1,d1,es,rfl,hrange,hes,hpar,hone⟩:=block_cells hbs hg;have hfi:(fi:Int)<m.length:=by have:=(List.getElem?_eq_some_iff.1 hf).1;omega
  have hbi:(bi:Int)<f.blocks.length:=by have:=(List.getElem?_eq_some_iff.1 hg).1;omega
  have hfi0:(0:Int)≤fi:=by omega
  have hbi0:(0:Int)≤bi:=by omega
  have v0:w.cell? ⟨mg,mo+fi*4,none⟩=some (.int .i64 f.regs):=hcs 0 (by decide);have v1:w.cell? ⟨mg,mo+fi*4+1,none⟩=some (.slice fa f.params.length fc):=hcs 1 (by decide);have v2:w.cell? ⟨mg,mo+fi*4+2,none⟩=some (.slice fb f.results.length fd):=hcs 2 (by decide);have v3:w.cell? ⟨mg,mo+fi*4+3,none⟩=some (.slice (some ⟨eg,eo,none⟩) f.blocks.length ff):=hcs 3 (by decide);have b1:=bel1 w (.cells #[.slice (some ⟨mg,mo,none⟩) m.length cm] 24);have hblk:=blockNew w #[.slice (some ⟨mg,mo,none⟩) m.length cm] 24;have HM:Hid ((modL 6).In w Q m [.slice (some ⟨mg,mo,none⟩) m.length cm]):=hm;have HF:Hid ((funcL 6).In w Q f [.int .i64 f.regs,.slice fa f.params.length fc,.slice fb f.results.length fd,.slice (some ⟨eg,eo,none⟩) f.blocks.length ff]):=hfn;have HP:Hid ((typesL 6).In w Q g.params [.slice p1 g.params.length d1]):=hpar;have HRG:=hid_of hrange;have HONE:=hid_of hone;have HES:=hid_of hes;have HC:=hid_of hc;have HFI:=hid_of hf;have HGI:=hid_of hg;have x0:=cellOf hblk 0 _ rfl;have u3:=stay v3 b1;clear hcs hfn hbs hrange hes hpar hone hc hf hg hm hblk;go_enter Tryz.func42,Tryz.ntmps42
  have HB1:=hid_of b1;have HRG1:Hid ((w.alloc (.cells #[.slice (some ⟨mg,mo,none⟩) m.length cm] 24)).rangeAt eg (eo+bi*12) (Value.int .i64 g.regs::Value.slice p1 g.params.length d1::es)):=range_below HRG.out b1;have hl12:Hid ((Value.int .i64 g.regs::Value.slice p1 g.params.length d1::es).length=12):=by show _=_;simp [HES.out]
  have TS:Hid ((Tryz.prog.info? 60).map (·.size)=some (Value.int .i64 g.regs::Value.slice p1 g.params.length d1::es).length):=by show _=_;rw [hl12.out];exact sizeBk
  clear b1;go_upto_region 1 with fail
  obtain ⟨X,hX⟩:∃ X,w.heap.size=X:=⟨_,rfl⟩;have HX:Hid (w.heap.size=X):=hX;generalize w.alloc (.cells #[.slice (some ⟨mg,mo,none⟩) m.length cm] 24)=w1 at x0 u3 HB1 HRG1 ⊢;rw [hX] at x0 ⊢;clear hX;generalize hds:(Value.int .i64 g.regs::Value.slice p1 g.params.length d1::es)=cs at HRG1 TS;have HDS:Hid ((Value.int .i64 g.regs::Value.slice p1 g.params.length d1::es)=cs):=hds;have hl:cs.length=12:=by rw [← hds];exact hl12.out
  have TH:Hid ((w1.alloc (.cells #[.int .i64 0,.slice none 0 0,.slice none 0 0,.int .i64 0,.int .i64 0,.int .i64 0,.slice none 0 0,.slice none 0 0,.int .i64 0,.slice none 0 0,.slice none 0 0,.slice none 0 0] 60)).there w1.heap.size 0 cs.toArray.size):=by
    intro j hj;rw [List.size_toArray,hl] at hj;rw [Nat.zero_add];have hB:=blockNew w1 #[.int .i64 0,.slice none 0 0,.slice none 0 0,.int .i64 0,.int .i64 0,.int .i64 0,.slice none 0 0,.slice none 0 0,.int .i64 0,.slice none 0 0,.slice none 0 0,.slice none 0 0] 60;refine ⟨?_,freeOf hB j⟩;rw [cellOf hB j ((#[.int .i64 0,.slice none 0 0,.slice none 0 0,.int .i64 0,.int .i64 0,.int .i64 0,.slice none 0 0,.slice none 0 0,.int .i64 0,.slice none 0 0,.slice none 0 0,.slice none 0 0]:Array Value)[j]'hj) (by simp)];rfl
  have TS2:Hid ((Tryz.prog.info? 60).map (·.size)=some cs.toArray.size):=by show _=_;rw [List.size_toArray];exact TS.out
  have TO:Hid (cs.toArray.all (·.oneCell')=true):=by
    refine all_oneCell_toArray fun v hv=>?_;rw [← hds] at hv;simp only [List.mem_cons] at hv;rcases hv with rfl | rfl | hv
    · rfl
    · rfl
    · exact HONE.out v hv
  have B6:Hid (Blk ((w1.alloc (.cells #[.int .i64 0,.slice none 0 0,.slice none 0 0,.int .i64 0,.int .i64 0,.int .i64 0,.slice none 0 0,.slice none 0 0,.int .i64 0,.slice none 0 0,.slice none 0 0,.slice none 0 0] 60)).setCells w1.heap.size 0 cs.toArray.toList) w1.heap.size cs.toArray 60):=by
    have h0:Blk (w1.alloc (.cells #[.int .i64 0,.slice none 0 0,.slice none 0 0,.int .i64 0,.int .i64 0,.int .i64 0,.slice none 0 0,.slice none 0 0,.int .i64 0,.slice none 0 0,.slice none 0 0,.slice none 0 0] 60)) w1.heap.size ([]++(#[.int .i64 0,.slice none 0 0,.slice none 0 0,.int .i64 0,.int .i64 0,.int .i64 0,.slice none 0 0,.slice none 0 0,.int .i64 0,.slice none 0 0,.slice none 0 0,.slice none 0 0]:Array Value).toList).toArray 60:=blockNew w1 _ _;exact Blk.sets cs [] (#[.int .i64 0,.slice none 0 0,.slice none 0 0,.int .i64 0,.int .i64 0,.int .i64 0,.slice none 0 0,.slice none 0 0,.int .i64 0,.slice none 0 0,.slice none 0 0,.slice none 0 0]:Array Value).toList _ (by rw [hl];rfl) h0
  have b6:Hid (Below w1.heap.size w1 ((w1.alloc (.cells #[.int .i64 0,.slice none 0 0,.slice none 0 0,.int .i64 0,.int .i64 0,.int .i64 0,.slice none 0 0,.slice none 0 0,.int .i64 0,.slice none 0 0,.slice none 0 0,.slice none 0 0] 60)).setCells w1.heap.size 0 cs.toArray.toList)):=by
    have:=Step.setCells (O:=fun k=>k=w1.heap.size) (O':=fun k=>k=w1.heap.size) (b:=w1.heap.size) rfl cs.toArray.toList 0 _ (Step.refl _ (w1.alloc (.cells #[.int .i64 0,.slice none 0 0,.slice none 0 0,.int .i64 0,.int .i64 0,.int .i64 0,.slice none 0 0,.slice none 0 0,.int .i64 0,.slice none 0 0,.slice none 0 0,.slice none 0 0] 60)))
    exact (bel1 w1 _).trans (this.below (by simp) (fun k hk=>by omega))
  have B6:Hid (Blk ((w1.alloc (.cells #[.int .i64 0,.slice none 0 0,.slice none 0 0,.int .i64 0,.int .i64 0,.int .i64 0,.slice none 0 0,.slice none 0 0,.int .i64 0,.slice none 0 0,.slice none 0 0,.slice none 0 0] 60)).setCells w1.heap.size 0 cs.toArray.toList) w1.heap.size (Value.int .i64 g.regs::Value.slice p1 g.params.length d1::es).toArray 60):=by rw [HDS.out];exact B6.out
  have BW:Hid (Below w.heap.size w ((w1.alloc (.cells #[.int .i64 0,.slice none 0 0,.slice none 0 0,.int .i64 0,.int .i64 0,.int .i64 0,.slice none 0 0,.slice none 0 0,.int .i64 0,.slice none 0 0,.slice none 0 0,.slice none 0 0] 60)).setCells w1.heap.size 0 cs.toArray.toList)):=HB1.out.trans (b6.out.mono HB1.out.size);have x06:=stay x0 b6.out;clear hl hds;generalize hnm:m.length=nm at x0 x06 hfi;have HNM:Hid (m.length=nm):=hnm;generalize hnb:f.blocks.length=nb at u3 hbi;clear hnm hnb;go_upto_region 2 with (first | (refine wpList_load_mid rfl 60 (.tmp 15) rfl eg (eo+bi*12) rfl cs _ HRG1.out Tryz.underlying60 rfl TS.out ?_) | (refine wpList_store_mid rfl 60 (.tmp 7) (.tmp 16) rfl w1.heap.size 0 cs.toArray rfl rfl TH.out TS2.out TO.out ?_))
  clear TH TS TS2 TO u3 x0 HRG1 b6 HB1;generalize (w1.alloc (.cells #[.int .i64 0,.slice none 0 0,.slice none 0 0,.int .i64 0,.int .i64 0,.int .i64 0,.slice none 0 0,.slice none 0 0,.int .i64 0,.slice none 0 0,.slice none 0 0,.slice none 0 0] 60)).setCells w1.heap.size 0 cs.toArray.toList=w6 at B6 BW x06 ⊢;generalize w1.heap.size=Bk at B6 ⊢;have y0:=cellOf B6.out 0 _ rfl;have y1:=cellOf B6.out 1 _ rfl;have z0:=stay v0 BW.out;have z1:=stay v1 BW.out;have z2:=stay v2 BW.out;have z3:=stay v3 BW.out;have HP6:Hid ((typesL 6).In w6 Q g.params [.slice p1 g.params.length d1]):=Lay.below HP.out BW.out;refine Code.wp_mono ?_ (ka2 x06 hfi z0 z1 z2 z3 y0 y1 (show Hid (g.params.length=g.params.length) from rfl) HP6 HC hn _ (by rfl) rfl rfl rfl rfl);rintro ee aa w7 ⟨rfl,vs,rfl,B,hv6,h,vL,O',r1,r2,r3,r4,r5,r6⟩;simp only [puts,Act.put,List.setIfInBounds_toArray,List.set_cons_zero,List.set_cons_succ,hv6];have B7:Hid (Below w.heap.size w w7):=BW.out.trans (r6.mono BW.out.size)
  have Z:Hid (KAt w7 B O' (JSt.start m f g)):=by
    rw [← HNM.out] at r1;refine ⟨_,_,_,_,_,_,_,_,h,vL,r1,(modL 6).keep (fun k _ hl=>B7.out.block k hl) (fun k _ hl e=>?_) HM.out,(funcL 6).keep (fun k _ hl=>B7.out.block k hl) (fun k _ hl e=>?_) HF.out,r2,(by obtain ⟨xs,q1,q2,q3⟩:=r3;exact ⟨xs,q1,q2,fun i x hx=>(Lay.tt 6).keep (fun _ _ _=>rfl) (fun k hk _=>hk.1) (q3 i x hx)⟩),r4⟩
    · have:=(r5 k e).1;have:=BW.out.size;omega
    · have:=(r5 k e).1;have:=BW.out.size;omega
  have HO:Hid (∀ k,O' k→w.heap.size≤k∧k<w7.heap.size):=fun k hk=>⟨Nat.le_trans BW.out.size (r5 k hk).1,(r5 k hk).2⟩;clear r1 r2 r3 r4 r5 r6 y0 y1 z0 z1 z2 z3 x06 B6 BW;go_wp2
  go_ret;exact ⟨B,rfl,O',Z.out,HO.out,B7.out⟩
theorem kmakes_new {w : World} {b : Nat} {O : Nat → Prop} {s : JSt} {x : MIns} {rg ag : Option Addr} {rc ac : Nat} (hO : ∀ k, O k → k < w.heap.size) (hJ : JOk s) (h : KAt w b O s) (hop : x.op = 3) :
    Calls Tryz.prog 81 #[.pointer (some ⟨b,0,none⟩),insV x rg ag rc ac] w fun e w'=>MkOut w O (s.makes x).1 (s.makes x).2 e w':=by
  have E:Hid (s.makes x=(if s.H.length=16 then (2,[]) else (0,[mkT 2 s.H.length []]))):=makes_new hop;have S0:=hid_of (MkS.start x rg ag rc ac hO hJ h);obtain ⟨xop,xa,xb,xc,xk,xn,xr,xs⟩:=x;simp only at hop
  subst hop;clear h;go_enter Tryz.func81,Tryz.ntmps81
  go_upto_region 9 with fail
  obtain ⟨w2,hw2⟩:∃ w2,(w.alloc (.cells #[.int .i64 3,.int .i64 xa,.int .i64 xb,.int .i64 xc,.int .i64 xk,.int .i64 xn,.slice rg xr.length rc,.slice ag xs.length ac] 46)).alloc (.cells #[.int .i64 1,.int .i64 0,.slice none 0 0] 70)=w2:=⟨_,rfl⟩;obtain ⟨X,hX⟩:∃ X,w.heap.size=X:=⟨_,rfl⟩;have S2:Hid (MkS w w2 b X O s ⟨3,xa,xb,xc,xk,xn,xr,xs⟩ rg ag rc ac (some ⟨X+1,0,none⟩)):=by rw [← hw2,← hX];exact S0.out
  rw [hw2,hX];clear hw2 hX S0;obtain ⟨x0,x1,x2,x3,x4,x6,x7⟩:=S2.out.cells;obtain ⟨pm,cm,a1,c1,a2,c2,a3,c3,hh,aL,cL,R⟩:=S2.out.known.read;obtain ⟨q0,q1,q2,q3,q4,q5,q6⟩:=R.cells;have hH16:=S2.out.ok.regs;have hL80:=S2.out.ok.vals;obtain ⟨ha,hcap,g0,-,-,-⟩:=R.holds.cells;clear R q0 q1 q2 q3 q4 q6;by_cases h16:s.H.length=16
  · have h16':((s.H.length:Int)==16)=true:=beq_iff_eq.2 (by omega);rw [if_pos h16] at E;clear h16;generalize s.H.length=nh at g0 h16' hH16;go_wp2
    go_ret2;rw [E.out];exact MkOut.nil S2.out.bel
  · have h16':((s.H.length:Int)==16)=false:=beq_eq_false_iff_ne.2 (by omega);rw [if_neg h16] at E
    have Z:Hid (MkOut w O 0 [(mkT 2 s.H.length []:TT 6)] (.returned (.tuple #[.slice (some ⟨w2.heap.size,0,none⟩) 1 1,.int .i64 0])) (w2.alloc (.cells #[.int .i64 2,.int .i64 (s.H.length:Int),.slice none 0 0] 70))) :=
      ⟨_,1,1,rfl,fun _=>⟨rfl,Nat.le_refl _,one_new w2 O S2.out.lt (t:=(mkT 2 s.H.length []:TT 6)) (a:=none) (c:=0) (d:=1) (leaf_in _ _ _ _ _) (ok_leaf (by omega))⟩,S2.out.bel.alloc S2.out.bel.size _⟩
    clear h16;generalize s.H.length=nh at g0 h16' hH16 Z E;go_wp2
    go_ret2;rw [E.out];exact Z.out
theorem kmakes_free {w : World} {b : Nat} {O : Nat → Prop} {s : JSt} {x : MIns} {rg ag : Option Addr} {rc ac : Nat} (hO : ∀ k, O k → k < w.heap.size) (hJ : JOk s) (h : KAt w b O s) (hop : x.op = 4) :
    Calls Tryz.prog 81 #[.pointer (some ⟨b,0,none⟩),insV x rg ag rc ac] w fun e w'=>MkOut w O (s.makes x).1 (s.makes x).2 e w':=by
  have E:Hid (s.makes x=(match s.at x.a with | none=>(1,[]) | some t=>(code2 (s.want x.a 2 true) (if t.r<s.f.regs then 11 else 0),[]))):=makes_free hop;have S0:=hid_of (MkS.start x rg ag rc ac hO hJ h);obtain ⟨xop,xa,xb,xc,xk,xn,xr,xs⟩:=x;simp only at hop
  subst hop;clear h;go_enter Tryz.func81,Tryz.ntmps81
  go_upto_region 13 with fail
  obtain ⟨w2,hw2⟩:∃ w2,(w.alloc (.cells #[.int .i64 4,.int .i64 xa,.int .i64 xb,.int .i64 xc,.int .i64 xk,.int .i64 xn,.slice rg xr.length rc,.slice ag xs.length ac] 46)).alloc (.cells #[.int .i64 1,.int .i64 0,.slice none 0 0] 70)=w2:=⟨_,rfl⟩;obtain ⟨X,hX⟩:∃ X,w.heap.size=X:=⟨_,rfl⟩;have S2:Hid (MkS w w2 b X O s ⟨4,xa,xb,xc,xk,xn,xr,xs⟩ rg ag rc ac (some ⟨X+1,0,none⟩)):=by rw [← hw2,← hX];exact S0.out
  rw [hw2,hX];clear hw2 hX S0;obtain ⟨x0,x1,x2,x3,x4,x6,x7⟩:=S2.out.cells;have hH16:=S2.out.ok.regs;have hL80:=S2.out.ok.vals;go_wp2_with fail
  refine (kwant_any xa 2 true S2.out.ok.regs S2.out.ok.vals S2.out.known).mono ?_;rintro e w3 ⟨rfl,n3,hw3⟩;have S3:Hid (MkS w w3 b X O s ⟨4,xa,xb,xc,xk,xn,xr,xs⟩ rg ag rc ac (some ⟨X+1,0,none⟩)):=S2.out.below (by rw [hw3];exact hbelowN (Below.refl _ _) n3);clear hw3 S2 x0 x1 x2 x3 x4 x6 x7;have S2:=S3;obtain ⟨x0,x1,x2,x3,x4,x6,x7⟩:=S2.out.cells;obtain ⟨pm,cm,a1,c1,a2,c2,a3,c3,hh,aL,cL,R⟩:=S2.out.known.read;obtain ⟨q0,q1,q2,q3,q4,q5,q6⟩:=R.cells;have HR:Hid (TRd w3 (fun g=>¬ O g) aL s.L):=R.row;clear R q0 q2 q3 q4 q5
  cases hat:s.at xa with
  | none =>
    have hw:s.want xa 2 true=1:=by unfold JSt.want;rw [hat]
    have E2:Hid (s.makes ⟨4,xa,xb,xc,xk,xn,xr,xs⟩=(1,[])):=by
      show _=_;rw [E.out];simp only [hat]
    rw [hw];clear E hw hat;generalize s.L.length=nl at q6 hL80;go_wp2_with fail
    go_quiet (fail)
    go_wp2
    go_ret2;rw [E2.out];exact MkOut.nil (hbelowN S2.out.bel _)
  | some t =>
    obtain ⟨-,ha0,hal,hti⟩:=at_mem hat;obtain ⟨i,rfl⟩:=Int.eq_ofNat_of_zero_le ha0;obtain ⟨gL,va,vc,rfl,v0,v1,v2,-,-⟩:=HR.out i t (by simpa using hti)
    have E2:Hid (s.makes ⟨4,(i:Int),xb,xc,xk,xn,xr,xs⟩=(code2 (s.want (i:Int) 2 true) (if t.r<s.f.regs then 11 else 0),[])):=by
      show _=_;rw [E.out];simp only [hat]
    clear E hat hti;generalize s.want (i:Int) 2 true=c at E2;generalize s.L.length=nl at q6 hL80 hal;generalize hfr:s.f.regs=fr at q1 E2;generalize t.r=tr at v1 E2;by_cases hc:c=0
    · subst hc;by_cases hlt:tr<fr
      · have hlt':decide (tr<fr)=true:=decide_eq_true hlt;have E3:Hid (s.makes ⟨4,(i:Int),xb,xc,xk,xn,xr,xs⟩=(11,[])):=by show _=_;rw [E2.out,if_pos hlt];rfl
        clear E2 hlt;go_wp2_with fail
        go_quiet (fail)
        go_wp2
        go_ret2;rw [E3.out];exact MkOut.nil (hbelowN S2.out.bel _)
      · have hlt':decide (tr<fr)=false:=decide_eq_false hlt;have E3:Hid (s.makes ⟨4,(i:Int),xb,xc,xk,xn,xr,xs⟩=(0,[])):=by show _=_;rw [E2.out,if_neg hlt];rfl
        clear E2 hlt;go_wp2_with fail
        go_quiet (fail)
        go_wp2
        go_ret2;rw [E3.out];exact MkOut.nil (hbelowN S2.out.bel _)
    · have hc':(c==0)=false:=beq_eq_false_iff_ne.2 hc;have E3:Hid (s.makes ⟨4,(i:Int),xb,xc,xk,xn,xr,xs⟩=(c,[])):=by show _=_;rw [E2.out,code2,if_neg hc]
      clear E2 hc;go_wp2_with fail
      go_quiet (fail)
      go_wp2
      go_ret2;rw [E3.out];exact MkOut.nil (hbelowN S2.out.bel _)
theorem kmakes_len {w : World} {b : Nat} {O : Nat → Prop} {s : JSt} {x : MIns} {rg ag : Option Addr} {rc ac : Nat} (hO : ∀ k, O k → k < w.heap.size) (hJ : JOk s) (h : KAt w b O s) (hop : x.op = 11) :
    Calls Tryz.prog 81 #[.pointer (some ⟨b,0,none⟩),insV x rg ag rc ac] w fun e w'=>MkOut w O (s.makes x).1 (s.makes x).2 e w':=by
  have E:Hid (s.makes x=(s.want x.a 4 true,[tInt])):=makes_len hop;have S0:=hid_of (MkS.start x rg ag rc ac hO hJ h);obtain ⟨xop,xa,xb,xc,xk,xn,xr,xs⟩:=x;simp only at hop
  subst hop;clear h;go_enter Tryz.func81,Tryz.ntmps81
  go_upto_region 56 with fail
  obtain ⟨w2,hw2⟩:∃ w2,(w.alloc (.cells #[.int .i64 11,.int .i64 xa,.int .i64 xb,.int .i64 xc,.int .i64 xk,.int .i64 xn,.slice rg xr.length rc,.slice ag xs.length ac] 46)).alloc (.cells #[.int .i64 1,.int .i64 0,.slice none 0 0] 70)=w2:=⟨_,rfl⟩;obtain ⟨X,hX⟩:∃ X,w.heap.size=X:=⟨_,rfl⟩;have S2:Hid (MkS w w2 b X O s ⟨11,xa,xb,xc,xk,xn,xr,xs⟩ rg ag rc ac (some ⟨X+1,0,none⟩)):=by rw [← hw2,← hX];exact S0.out
  rw [hw2,hX];clear hw2 hX S0;obtain ⟨x0,x1,x2,x3,x4,x6,x7⟩:=S2.out.cells;go_wp2_with fail
  refine (kwant_any xa 4 true S2.out.ok.regs S2.out.ok.vals S2.out.known).mono ?_;rintro e w3 ⟨rfl,n3,hw3⟩;have b3:Below w2.heap.size w2 w3:=by rw [hw3];exact hbelowN (Below.refl _ _) n3
  clear hw3;generalize s.want xa 4 true=c at E;go_wp2
  go_ret2;rw [E.out];exact MkOut.num S2.out b3
theorem kmakes_out {w : World} {b : Nat} {O : Nat → Prop} {s : JSt} {x : MIns} {rg ag : Option Addr} {rc ac : Nat} (hO : ∀ k, O k → k < w.heap.size) (hJ : JOk s) (h : KAt w b O s) (hop : x.op = 13) :
    Calls Tryz.prog 81 #[.pointer (some ⟨b,0,none⟩),insV x rg ag rc ac] w fun e w'=>MkOut w O (s.makes x).1 (s.makes x).2 e w':=by
  have E:Hid (s.makes x=(s.want x.a 1 false,[])):=makes_out hop;have S0:=hid_of (MkS.start x rg ag rc ac hO hJ h);obtain ⟨xop,xa,xb,xc,xk,xn,xr,xs⟩:=x;simp only at hop
  subst hop;clear h;go_enter Tryz.func81,Tryz.ntmps81
  go_upto_region 58 with fail
  obtain ⟨w2,hw2⟩:∃ w2,(w.alloc (.cells #[.int .i64 13,.int .i64 xa,.int .i64 xb,.int .i64 xc,.int .i64 xk,.int .i64 xn,.slice rg xr.length rc,.slice ag xs.length ac] 46)).alloc (.cells #[.int .i64 1,.int .i64 0,.slice none 0 0] 70)=w2:=⟨_,rfl⟩;obtain ⟨X,hX⟩:∃ X,w.heap.size=X:=⟨_,rfl⟩;have S2:Hid (MkS w w2 b X O s ⟨13,xa,xb,xc,xk,xn,xr,xs⟩ rg ag rc ac (some ⟨X+1,0,none⟩)):=by rw [← hw2,← hX];exact S0.out
  rw [hw2,hX];clear hw2 hX S0;obtain ⟨x0,x1,x2,x3,x4,x6,x7⟩:=S2.out.cells;go_wp2_with fail
  refine (kwant_any xa 1 false S2.out.ok.regs S2.out.ok.vals S2.out.known).mono ?_;rintro e w3 ⟨rfl,n3,hw3⟩;have b3:Below w2.heap.size w2 w3:=by rw [hw3];exact hbelowN (Below.refl _ _) n3
  clear hw3;generalize s.want xa 1 false=c at E;go_wp2
  go_ret2;rw [E.out];exact MkOut.nil (S2.out.below b3).bel
def kr7E (b X : Nat) (x : MIns) (na : Option Addr) (c1 : Int) (c2 : Int) (t : Tmp) (v : Value) (w : World) : Prop :=
  match ([(40,fun v w=>IV w [c1,c2] v)]:List (Tmp × (Value→World→Prop))).lookup t with
  | some p=>p v w
  | none=>v=(([(0,.pointer (some ⟨b,0,none⟩)),(3,.pointer (some ⟨X,0,none⟩)),(6,.slice na 1 1),(31,.slice na 1 1),(32,.pointer (some ⟨b,0,none⟩)),(33,.pointer (some ⟨X,1,none⟩)),(34,.int .i64 x.a),(35,.int .i64 c1),(36,.pointer (some ⟨b,0,none⟩)),(37,.pointer (some ⟨X,2,none⟩)),(38,.int .i64 x.b),(39,.int .i64 c2),(41,.int .i64 (firstI [c1,c2])),(4,.slice na 1 1),(5,.int .i64 (firstI [c1,c2]))]:List (Tmp × Value)).lookup t).getD undef
theorem kr7 {w w2 : World} {b X : Nat} {O : Nat → Prop} {s : JSt} {x : MIns} {rg ag : Option Addr} {rc ac : Nat} {na : Option Addr} (HS : Hid (MkS w w2 b X O s x rg ag rc ac na)) {c1 : Int} {c2 : Int} (Hc1 : Hid (s.want x.a 1 false = c1)) (Hc2 : Hid (s.want x.b 1 false = c2)) (HI : Hid (∀ x ∈ [c1, c2], -9223372036854775808 ≤ x ∧ x ≤ 9223372036854775807))
    (a:Act) (m:Nat) (hn:a.tmps.size=m) (hn':365≤m) (h0:a.tmps.getD 0 undef=.pointer (some ⟨b,0,none⟩)) (h3:a.tmps.getD 3 undef=.pointer (some ⟨X,0,none⟩)) (h6:a.tmps.getD 6 undef=.slice na 1 1) :
    Code.wp Tryz.prog ((Tryz.f81.body.bind (hRegionOf 7)).getD .skip) (fun e a' w'=>e=.normal∧∃ vs,a'=puts a vs [31,32,33,34,35,36,37,38,39,40,41,4,5]∧vs 4=.slice na 1 1∧vs 5=.int .i64 (firstI [c1,c2])∧Below w2.heap.size w2 w') a w2:=by
  conv=>arg 2;whnf
  refine wp_region_calm (kr7E b X x na c1 c2) (fun w=>Below w2.heap.size w2 w) (fun w w'=>Below w.heap.size w w') (outs:=[0,3,6]) (gs:=[]) (bs:=[true,true,true,true,true,true,true,true,true,true,true,true,true]) (by kernel_rfl) (n:=365) hn hn' (by kernel_rfl) ?hR ?hG (hbelowN (Below.refl _ _) 1) ⟨h0,h3,h6,trivial⟩ ?hA ?hend
  case hR =>
    intro t v w w' hr h;unfold kr7E at h ⊢;split at h
    · rename_i p hp
      simp only [List.lookup_cons,List.lookup_nil] at hp;split at hp
      · cases hp;exact IV.below h hr
      · cases hp
    · exact h
  case hG=>exact trivial
  case hend=>exact fun vs w' hW hk=>⟨rfl,vs,rfl,hk 4 (by kernel_rfl),hk 5 (by kernel_rfl),hW⟩
  case hA =>
    refine ⟨fun a w hW hk K hK=>?_,?_⟩
    · obtain ⟨k0,-⟩:=hk;have k0:a.tmps.getD 6 undef=.slice na 1 1:=k0;go_simp;exact hK _ _ (Below.refl _ _) hW rfl
    refine ⟨fun a w hW hk K hK=>?_,?_⟩
    · obtain ⟨k0,-⟩:=hk;have k0:a.tmps.getD 0 undef=.pointer (some ⟨b,0,none⟩):=k0;go_simp;exact hK _ _ (Below.refl _ _) hW rfl
    refine ⟨fun a w hW hk K hK=>?_,?_⟩
    · obtain ⟨k0,-⟩:=hk;have k0:a.tmps.getD 3 undef=.pointer (some ⟨X,0,none⟩):=k0;go_simp;exact hK _ _ (Below.refl _ _) hW rfl
    refine ⟨fun a w hW hk K hK=>?_,?_⟩
    · obtain ⟨k0,-⟩:=hk;have k0:a.tmps.getD 33 undef=.pointer (some ⟨X,1,none⟩):=k0;have c0:=(HS.out.below hW).cells.2.1;go_simp;exact hK _ _ (Below.refl _ _) hW rfl
    refine ⟨fun a w hW hk K hK=>?_,?_⟩
    · obtain ⟨k0,k1,-⟩:=hk;have k0:a.tmps.getD 32 undef=.pointer (some ⟨b,0,none⟩):=k0;have k1:a.tmps.getD 34 undef=.int .i64 x.a:=k1;go_simp;refine (kwant_any x.a 1 false HS.out.ok.regs HS.out.ok.vals (HS.out.below hW).known).mono ?_;rw [Hc1.out];rintro r7 w7 ⟨rfl,n7,hw7⟩;subst hw7;go_simp;exact hK _ _ (hbelowN (Below.refl _ _) n7) (hbelowN hW n7) rfl
    refine ⟨fun a w hW hk K hK=>?_,?_⟩
    · obtain ⟨k0,-⟩:=hk;have k0:a.tmps.getD 0 undef=.pointer (some ⟨b,0,none⟩):=k0;go_simp;exact hK _ _ (Below.refl _ _) hW rfl
    refine ⟨fun a w hW hk K hK=>?_,?_⟩
    · obtain ⟨k0,-⟩:=hk;have k0:a.tmps.getD 3 undef=.pointer (some ⟨X,0,none⟩):=k0;go_simp;exact hK _ _ (Below.refl _ _) hW rfl
    refine ⟨fun a w hW hk K hK=>?_,?_⟩
    · obtain ⟨k0,-⟩:=hk;have k0:a.tmps.getD 37 undef=.pointer (some ⟨X,2,none⟩):=k0;have c0:=(HS.out.below hW).cells.2.2.1;go_simp;exact hK _ _ (Below.refl _ _) hW rfl
    refine ⟨fun a w hW hk K hK=>?_,?_⟩
    · obtain ⟨k0,k1,-⟩:=hk;have k0:a.tmps.getD 36 undef=.pointer (some ⟨b,0,none⟩):=k0;have k1:a.tmps.getD 38 undef=.int .i64 x.b:=k1;go_simp;refine (kwant_any x.b 1 false HS.out.ok.regs HS.out.ok.vals (HS.out.below hW).known).mono ?_;rw [Hc2.out];rintro r7 w7 ⟨rfl,n7,hw7⟩;subst hw7;go_simp;exact hK _ _ (hbelowN (Below.refl _ _) n7) (hbelowN hW n7) rfl
    refine ⟨fun a w hW hk K hK=>?_,?_⟩
    · obtain ⟨k0,k1,-⟩:=hk;have k0:a.tmps.getD 35 undef=.int .i64 c1:=k0;have k1:a.tmps.getD 39 undef=.int .i64 c2:=k1;simp only [Array.getD_eq_getD_getElem?] at k0 k1;go_simp;exact hK _ _ (bel1 _ _) (hW.alloc hW.size _) (iv_new w 3 [c1,c2] HI.out 2)
    refine ⟨fun a w hW hk K hK=>?_,?_⟩
    · obtain ⟨k0,-⟩:=hk;have k0:(fun v w=>IV w [c1,c2] v) (a.tmps.getD 40 undef) w:=k0;generalize k0e:a.tmps.getD 40 undef=uk0 at k0;go_simp;refine (kfirst_v (by simp) k0).mono ?_;rintro r7 w7 ⟨rfl,hw7⟩;have hw7:=hw7.symm;subst hw7;go_simp;exact hK _ _ (Below.refl _ _) hW rfl
    refine ⟨fun a w hW hk K hK=>?_,?_⟩
    · obtain ⟨k0,-⟩:=hk;have k0:a.tmps.getD 31 undef=.slice na 1 1:=k0;go_simp;exact hK _ _ (Below.refl _ _) hW rfl
    refine ⟨fun a w hW hk K hK=>?_,?_⟩
    · obtain ⟨k0,-⟩:=hk;have k0:a.tmps.getD 41 undef=.int .i64 (firstI [c1,c2]):=k0;go_simp;exact hK _ _ (Below.refl _ _) hW rfl
    trivial
def kr47E (b X : Nat) (x : MIns) (na : Option Addr) (c1 : Int) (c2 : Int) (t : Tmp) (v : Value) (w : World) : Prop :=
  match ([(230,fun v w=>IV w [c1,c2] v)]:List (Tmp × (Value→World→Prop))).lookup t with
  | some p=>p v w
  | none=>v=(([(0,.pointer (some ⟨b,0,none⟩)),(3,.pointer (some ⟨X,0,none⟩)),(222,.pointer (some ⟨b,0,none⟩)),(223,.pointer (some ⟨X,1,none⟩)),(224,.int .i64 x.a),(225,.int .i64 c1),(226,.pointer (some ⟨b,0,none⟩)),(227,.pointer (some ⟨X,2,none⟩)),(228,.int .i64 x.b),(229,.int .i64 c2),(231,.int .i64 (firstI [c1,c2])),(13,.int .i64 (firstI [c1,c2]))]:List (Tmp × Value)).lookup t).getD undef
theorem kr47 {w w2 : World} {b X : Nat} {O : Nat → Prop} {s : JSt} {x : MIns} {rg ag : Option Addr} {rc ac : Nat} {na : Option Addr} (HS : Hid (MkS w w2 b X O s x rg ag rc ac na)) {c1 : Int} {c2 : Int} (Hc1 : Hid (s.want x.a 2 true = c1)) (Hc2 : Hid (s.want x.b 1 false = c2)) (HI : Hid (∀ x ∈ [c1, c2], -9223372036854775808 ≤ x ∧ x ≤ 9223372036854775807))
    (a:Act) (m:Nat) (hn:a.tmps.size=m) (hn':365≤m) (h0:a.tmps.getD 0 undef=.pointer (some ⟨b,0,none⟩)) (h3:a.tmps.getD 3 undef=.pointer (some ⟨X,0,none⟩)) :
    Code.wp Tryz.prog ((Tryz.f81.body.bind (hRegionOf 47)).getD .skip) (fun e a' w'=>e=.normal∧∃ vs,a'=puts a vs [222,223,224,225,226,227,228,229,230,231,13]∧vs 13=.int .i64 (firstI [c1,c2])∧Below w2.heap.size w2 w') a w2:=by
  conv=>arg 2;whnf
  refine wp_region_calm (kr47E b X x na c1 c2) (fun w=>Below w2.heap.size w2 w) (fun w w'=>Below w.heap.size w w') (outs:=[0,3]) (gs:=[]) (bs:=[true,true,true,true,true,true,true,true,true,true,true]) (by kernel_rfl) (n:=365) hn hn' (by kernel_rfl) ?hR ?hG (hbelowN (Below.refl _ _) 1) ⟨h0,h3,trivial⟩ ?hA ?hend
  case hR =>
    intro t v w w' hr h;unfold kr47E at h ⊢;split at h
    · rename_i p hp
      simp only [List.lookup_cons,List.lookup_nil] at hp;split at hp
      · cases hp;exact IV.below h hr
      · cases hp
    · exact h
  case hG=>exact trivial
  case hend=>exact fun vs w' hW hk=>⟨rfl,vs,rfl,hk 13 (by kernel_rfl),hW⟩
  case hA =>
    refine ⟨fun a w hW hk K hK=>?_,?_⟩
    · obtain ⟨k0,-⟩:=hk;have k0:a.tmps.getD 0 undef=.pointer (some ⟨b,0,none⟩):=k0;go_simp;exact hK _ _ (Below.refl _ _) hW rfl
    refine ⟨fun a w hW hk K hK=>?_,?_⟩
    · obtain ⟨k0,-⟩:=hk;have k0:a.tmps.getD 3 undef=.pointer (some ⟨X,0,none⟩):=k0;go_simp;exact hK _ _ (Below.refl _ _) hW rfl
    refine ⟨fun a w hW hk K hK=>?_,?_⟩
    · obtain ⟨k0,-⟩:=hk;have k0:a.tmps.getD 223 undef=.pointer (some ⟨X,1,none⟩):=k0;have c0:=(HS.out.below hW).cells.2.1;go_simp;exact hK _ _ (Below.refl _ _) hW rfl
    refine ⟨fun a w hW hk K hK=>?_,?_⟩
    · obtain ⟨k0,k1,-⟩:=hk;have k0:a.tmps.getD 222 undef=.pointer (some ⟨b,0,none⟩):=k0;have k1:a.tmps.getD 224 undef=.int .i64 x.a:=k1;go_simp;refine (kwant_any x.a 2 true HS.out.ok.regs HS.out.ok.vals (HS.out.below hW).known).mono ?_;rw [Hc1.out];rintro r7 w7 ⟨rfl,n7,hw7⟩;subst hw7;go_simp;exact hK _ _ (hbelowN (Below.refl _ _) n7) (hbelowN hW n7) rfl
    refine ⟨fun a w hW hk K hK=>?_,?_⟩
    · obtain ⟨k0,-⟩:=hk;have k0:a.tmps.getD 0 undef=.pointer (some ⟨b,0,none⟩):=k0;go_simp;exact hK _ _ (Below.refl _ _) hW rfl
    refine ⟨fun a w hW hk K hK=>?_,?_⟩
    · obtain ⟨k0,-⟩:=hk;have k0:a.tmps.getD 3 undef=.pointer (some ⟨X,0,none⟩):=k0;go_simp;exact hK _ _ (Below.refl _ _) hW rfl
    refine ⟨fun a w hW hk K hK=>?_,?_⟩
    · obtain ⟨k0,-⟩:=hk;have k0:a.tmps.getD 227 undef=.pointer (some ⟨X,2,none⟩):=k0;have c0:=(HS.out.below hW).cells.2.2.1;go_simp;exact hK _ _ (Below.refl _ _) hW rfl
    refine ⟨fun a w hW hk K hK=>?_,?_⟩
    · obtain ⟨k0,k1,-⟩:=hk;have k0:a.tmps.getD 226 undef=.pointer (some ⟨b,0,none⟩):=k0;have k1:a.tmps.getD 228 undef=.int .i64 x.b:=k1;go_simp;refine (kwant_any x.b 1 false HS.out.ok.regs HS.out.ok.vals (HS.out.below hW).known).mono ?_;rw [Hc2.out];rintro r7 w7 ⟨rfl,n7,hw7⟩;subst hw7;go_simp;exact hK _ _ (hbelowN (Below.refl _ _) n7) (hbelowN hW n7) rfl
    refine ⟨fun a w hW hk K hK=>?_,?_⟩
    · obtain ⟨k0,k1,-⟩:=hk;have k0:a.tmps.getD 225 undef=.int .i64 c1:=k0;have k1:a.tmps.getD 229 undef=.int .i64 c2:=k1;simp only [Array.getD_eq_getD_getElem?] at k0 k1;go_simp;exact hK _ _ (bel1 _ _) (hW.alloc hW.size _) (iv_new w 3 [c1,c2] HI.out 2)
    refine ⟨fun a w hW hk K hK=>?_,?_⟩
    · obtain ⟨k0,-⟩:=hk;have k0:(fun v w=>IV w [c1,c2] v) (a.tmps.getD 230 undef) w:=k0;generalize k0e:a.tmps.getD 230 undef=uk0 at k0;go_simp;refine (kfirst_v (by simp) k0).mono ?_;rintro r7 w7 ⟨rfl,hw7⟩;have hw7:=hw7.symm;subst hw7;go_simp;exact hK _ _ (Below.refl _ _) hW rfl
    refine ⟨fun a w hW hk K hK=>?_,?_⟩
    · obtain ⟨k0,-⟩:=hk;have k0:a.tmps.getD 231 undef=.int .i64 (firstI [c1,c2]):=k0;go_simp;exact hK _ _ (Below.refl _ _) hW rfl
    trivial
def kr52E (b X : Nat) (x : MIns) (na : Option Addr) (c1 : Int) (c2 : Int) (t : Tmp) (v : Value) (w : World) : Prop :=
  match ([(257,fun v w=>IV w [c1,c2] v)]:List (Tmp × (Value→World→Prop))).lookup t with
  | some p=>p v w
  | none=>v=(([(0,.pointer (some ⟨b,0,none⟩)),(3,.pointer (some ⟨X,0,none⟩)),(6,.slice na 1 1),(248,.slice na 1 1),(249,.pointer (some ⟨b,0,none⟩)),(250,.pointer (some ⟨X,1,none⟩)),(251,.int .i64 x.a),(252,.int .i64 c1),(253,.pointer (some ⟨b,0,none⟩)),(254,.pointer (some ⟨X,2,none⟩)),(255,.int .i64 x.b),(256,.int .i64 c2),(258,.int .i64 (firstI [c1,c2])),(4,.slice na 1 1),(5,.int .i64 (firstI [c1,c2]))]:List (Tmp × Value)).lookup t).getD undef
theorem kr52 {w w2 : World} {b X : Nat} {O : Nat → Prop} {s : JSt} {x : MIns} {rg ag : Option Addr} {rc ac : Nat} {na : Option Addr} (HS : Hid (MkS w w2 b X O s x rg ag rc ac na)) {c1 : Int} {c2 : Int} (Hc1 : Hid (s.want x.a 4 true = c1)) (Hc2 : Hid (s.want x.b 1 false = c2)) (HI : Hid (∀ x ∈ [c1, c2], -9223372036854775808 ≤ x ∧ x ≤ 9223372036854775807))
    (a:Act) (m:Nat) (hn:a.tmps.size=m) (hn':365≤m) (h0:a.tmps.getD 0 undef=.pointer (some ⟨b,0,none⟩)) (h3:a.tmps.getD 3 undef=.pointer (some ⟨X,0,none⟩)) (h6:a.tmps.getD 6 undef=.slice na 1 1) :
    Code.wp Tryz.prog ((Tryz.f81.body.bind (hRegionOf 52)).getD .skip) (fun e a' w'=>e=.normal∧∃ vs,a'=puts a vs [248,249,250,251,252,253,254,255,256,257,258,4,5]∧vs 4=.slice na 1 1∧vs 5=.int .i64 (firstI [c1,c2])∧Below w2.heap.size w2 w') a w2:=by
  conv=>arg 2;whnf
  refine wp_region_calm (kr52E b X x na c1 c2) (fun w=>Below w2.heap.size w2 w) (fun w w'=>Below w.heap.size w w') (outs:=[0,3,6]) (gs:=[]) (bs:=[true,true,true,true,true,true,true,true,true,true,true,true,true]) (by kernel_rfl) (n:=365) hn hn' (by kernel_rfl) ?hR ?hG (hbelowN (Below.refl _ _) 1) ⟨h0,h3,h6,trivial⟩ ?hA ?hend
  case hR =>
    intro t v w w' hr h;unfold kr52E at h ⊢;split at h
    · rename_i p hp
      simp only [List.lookup_cons,List.lookup_nil] at hp;split at hp
      · cases hp;exact IV.below h hr
      · cases hp
    · exact h
  case hG=>exact trivial
  case hend=>exact fun vs w' hW hk=>⟨rfl,vs,rfl,hk 4 (by kernel_rfl),hk 5 (by kernel_rfl),hW⟩
  case hA =>
    refine ⟨fun a w hW hk K hK=>?_,?_⟩
    · obtain ⟨k0,-⟩:=hk;have k0:a.tmps.getD 6 undef=.slice na 1 1:=k0;go_simp;exact hK _ _ (Below.refl _ _) hW rfl
    refine ⟨fun a w hW hk K hK=>?_,?_⟩
    · obtain ⟨k0,-⟩:=hk;have k0:a.tmps.getD 0 undef=.pointer (some ⟨b,0,none⟩):=k0;go_simp;exact hK _ _ (Below.refl _ _) hW rfl
    refine ⟨fun a w hW hk K hK=>?_,?_⟩
    · obtain ⟨k0,-⟩:=hk;have k0:a.tmps.getD 3 undef=.pointer (some ⟨X,0,none⟩):=k0;go_simp;exact hK _ _ (Below.refl _ _) hW rfl
    refine ⟨fun a w hW hk K hK=>?_,?_⟩
    · obtain ⟨k0,-⟩:=hk;have k0:a.tmps.getD 250 undef=.pointer (some ⟨X,1,none⟩):=k0;have c0:=(HS.out.below hW).cells.2.1;go_simp;exact hK _ _ (Below.refl _ _) hW rfl
    refine ⟨fun a w hW hk K hK=>?_,?_⟩
    · obtain ⟨k0,k1,-⟩:=hk;have k0:a.tmps.getD 249 undef=.pointer (some ⟨b,0,none⟩):=k0;have k1:a.tmps.getD 251 undef=.int .i64 x.a:=k1;go_simp;refine (kwant_any x.a 4 true HS.out.ok.regs HS.out.ok.vals (HS.out.below hW).known).mono ?_;rw [Hc1.out];rintro r7 w7 ⟨rfl,n7,hw7⟩;subst hw7;go_simp;exact hK _ _ (hbelowN (Below.refl _ _) n7) (hbelowN hW n7) rfl
    refine ⟨fun a w hW hk K hK=>?_,?_⟩
    · obtain ⟨k0,-⟩:=hk;have k0:a.tmps.getD 0 undef=.pointer (some ⟨b,0,none⟩):=k0;go_simp;exact hK _ _ (Below.refl _ _) hW rfl
    refine ⟨fun a w hW hk K hK=>?_,?_⟩
    · obtain ⟨k0,-⟩:=hk;have k0:a.tmps.getD 3 undef=.pointer (some ⟨X,0,none⟩):=k0;go_simp;exact hK _ _ (Below.refl _ _) hW rfl
    refine ⟨fun a w hW hk K hK=>?_,?_⟩
    · obtain ⟨k0,-⟩:=hk;have k0:a.tmps.getD 254 undef=.pointer (some ⟨X,2,none⟩):=k0;have c0:=(HS.out.below hW).cells.2.2.1;go_simp;exact hK _ _ (Below.refl _ _) hW rfl
    refine ⟨fun a w hW hk K hK=>?_,?_⟩
    · obtain ⟨k0,k1,-⟩:=hk;have k0:a.tmps.getD 253 undef=.pointer (some ⟨b,0,none⟩):=k0;have k1:a.tmps.getD 255 undef=.int .i64 x.b:=k1;go_simp;refine (kwant_any x.b 1 false HS.out.ok.regs HS.out.ok.vals (HS.out.below hW).known).mono ?_;rw [Hc2.out];rintro r7 w7 ⟨rfl,n7,hw7⟩;subst hw7;go_simp;exact hK _ _ (hbelowN (Below.refl _ _) n7) (hbelowN hW n7) rfl
    refine ⟨fun a w hW hk K hK=>?_,?_⟩
    · obtain ⟨k0,k1,-⟩:=hk;have k0:a.tmps.getD 252 undef=.int .i64 c1:=k0;have k1:a.tmps.getD 256 undef=.int .i64 c2:=k1;simp only [Array.getD_eq_getD_getElem?] at k0 k1;go_simp;exact hK _ _ (bel1 _ _) (hW.alloc hW.size _) (iv_new w 3 [c1,c2] HI.out 2)
    refine ⟨fun a w hW hk K hK=>?_,?_⟩
    · obtain ⟨k0,-⟩:=hk;have k0:(fun v w=>IV w [c1,c2] v) (a.tmps.getD 257 undef) w:=k0;generalize k0e:a.tmps.getD 257 undef=uk0 at k0;go_simp;refine (kfirst_v (by simp) k0).mono ?_;rintro r7 w7 ⟨rfl,hw7⟩;have hw7:=hw7.symm;subst hw7;go_simp;exact hK _ _ (Below.refl _ _) hW rfl
    refine ⟨fun a w hW hk K hK=>?_,?_⟩
    · obtain ⟨k0,-⟩:=hk;have k0:a.tmps.getD 248 undef=.slice na 1 1:=k0;go_simp;exact hK _ _ (Below.refl _ _) hW rfl
    refine ⟨fun a w hW hk K hK=>?_,?_⟩
    · obtain ⟨k0,-⟩:=hk;have k0:a.tmps.getD 258 undef=.int .i64 (firstI [c1,c2]):=k0;go_simp;exact hK _ _ (Below.refl _ _) hW rfl
    trivial
def kr54E (b X : Nat) (x : MIns) (na : Option Addr) (c1 : Int) (c2 : Int) (c3 : Int) (t : Tmp) (v : Value) (w : World) : Prop :=
  match ([(273,fun v w=>IV w [c1,c2,c3] v)]:List (Tmp × (Value→World→Prop))).lookup t with
  | some p=>p v w
  | none=>v=(([(0,.pointer (some ⟨b,0,none⟩)),(3,.pointer (some ⟨X,0,none⟩)),(261,.pointer (some ⟨b,0,none⟩)),(262,.pointer (some ⟨X,1,none⟩)),(263,.int .i64 x.a),(264,.int .i64 c1),(265,.pointer (some ⟨b,0,none⟩)),(266,.pointer (some ⟨X,2,none⟩)),(267,.int .i64 x.b),(268,.int .i64 c2),(269,.pointer (some ⟨b,0,none⟩)),(270,.pointer (some ⟨X,3,none⟩)),(271,.int .i64 x.c),(272,.int .i64 c3),(274,.int .i64 (firstI [c1,c2,c3])),(4,.slice none 0 0),(5,.int .i64 (firstI [c1,c2,c3]))]:List (Tmp × Value)).lookup t).getD undef
theorem kr54 {w w2 : World} {b X : Nat} {O : Nat → Prop} {s : JSt} {x : MIns} {rg ag : Option Addr} {rc ac : Nat} {na : Option Addr} (HS : Hid (MkS w w2 b X O s x rg ag rc ac na)) {c1 : Int} {c2 : Int} {c3 : Int} (Hc1 : Hid (s.want x.a 4 true = c1)) (Hc2 : Hid (s.want x.b 1 false = c2)) (Hc3 : Hid (s.want x.c 1 false = c3)) (HI : Hid (∀ x ∈ [c1, c2, c3], -9223372036854775808 ≤ x ∧ x ≤ 9223372036854775807))
    (a:Act) (m:Nat) (hn:a.tmps.size=m) (hn':365≤m) (h0:a.tmps.getD 0 undef=.pointer (some ⟨b,0,none⟩)) (h3:a.tmps.getD 3 undef=.pointer (some ⟨X,0,none⟩)) :
    Code.wp Tryz.prog ((Tryz.f81.body.bind (hRegionOf 54)).getD .skip) (fun e a' w'=>e=.normal∧∃ vs,a'=puts a vs [261,262,263,264,265,266,267,268,269,270,271,272,273,274,4,5]∧vs 4=.slice none 0 0∧vs 5=.int .i64 (firstI [c1,c2,c3])∧Below w2.heap.size w2 w') a w2:=by
  conv=>arg 2;whnf
  refine wp_region_calm (kr54E b X x na c1 c2 c3) (fun w=>Below w2.heap.size w2 w) (fun w w'=>Below w.heap.size w w') (outs:=[0,3]) (gs:=[]) (bs:=[true,true,true,true,true,true,true,true,true,true,true,true,true,true,true,true]) (by kernel_rfl) (n:=365) hn hn' (by kernel_rfl) ?hR ?hG (hbelowN (Below.refl _ _) 1) ⟨h0,h3,trivial⟩ ?hA ?hend
  case hR =>
    intro t v w w' hr h;unfold kr54E at h ⊢;split at h
    · rename_i p hp
      simp only [List.lookup_cons,List.lookup_nil] at hp;split at hp
      · cases hp;exact IV.below h hr
      · cases hp
    · exact h
  case hG=>exact trivial
  case hend=>exact fun vs w' hW hk=>⟨rfl,vs,rfl,hk 4 (by kernel_rfl),hk 5 (by kernel_rfl),hW⟩
  case hA =>
    refine ⟨fun a w hW hk K hK=>?_,?_⟩
    · obtain ⟨k0,-⟩:=hk;have k0:a.tmps.getD 0 undef=.pointer (some ⟨b,0,none⟩):=k0;go_simp;exact hK _ _ (Below.refl _ _) hW rfl
    refine ⟨fun a w hW hk K hK=>?_,?_⟩
    · obtain ⟨k0,-⟩:=hk;have k0:a.tmps.getD 3 undef=.pointer (some ⟨X,0,none⟩):=k0;go_simp;exact hK _ _ (Below.refl _ _) hW rfl
    refine ⟨fun a w hW hk K hK=>?_,?_⟩
    · obtain ⟨k0,-⟩:=hk;have k0:a.tmps.getD 262 undef=.pointer (some ⟨X,1,none⟩):=k0;have c0:=(HS.out.below hW).cells.2.1;go_simp;exact hK _ _ (Below.refl _ _) hW rfl
    refine ⟨fun a w hW hk K hK=>?_,?_⟩
    · obtain ⟨k0,k1,-⟩:=hk;have k0:a.tmps.getD 261 undef=.pointer (some ⟨b,0,none⟩):=k0;have k1:a.tmps.getD 263 undef=.int .i64 x.a:=k1;go_simp;refine (kwant_any x.a 4 true HS.out.ok.regs HS.out.ok.vals (HS.out.below hW).known).mono ?_;rw [Hc1.out];rintro r7 w7 ⟨rfl,n7,hw7⟩;subst hw7;go_simp;exact hK _ _ (hbelowN (Below.refl _ _) n7) (hbelowN hW n7) rfl
    refine ⟨fun a w hW hk K hK=>?_,?_⟩
    · obtain ⟨k0,-⟩:=hk;have k0:a.tmps.getD 0 undef=.pointer (some ⟨b,0,none⟩):=k0;go_simp;exact hK _ _ (Below.refl _ _) hW rfl
    refine ⟨fun a w hW hk K hK=>?_,?_⟩
    · obtain ⟨k0,-⟩:=hk;have k0:a.tmps.getD 3 undef=.pointer (some ⟨X,0,none⟩):=k0;go_simp;exact hK _ _ (Below.refl _ _) hW rfl
    refine ⟨fun a w hW hk K hK=>?_,?_⟩
    · obtain ⟨k0,-⟩:=hk;have k0:a.tmps.getD 266 undef=.pointer (some ⟨X,2,none⟩):=k0;have c0:=(HS.out.below hW).cells.2.2.1;go_simp;exact hK _ _ (Below.refl _ _) hW rfl
    refine ⟨fun a w hW hk K hK=>?_,?_⟩
    · obtain ⟨k0,k1,-⟩:=hk;have k0:a.tmps.getD 265 undef=.pointer (some ⟨b,0,none⟩):=k0;have k1:a.tmps.getD 267 undef=.int .i64 x.b:=k1;go_simp;refine (kwant_any x.b 1 false HS.out.ok.regs HS.out.ok.vals (HS.out.below hW).known).mono ?_;rw [Hc2.out];rintro r7 w7 ⟨rfl,n7,hw7⟩;subst hw7;go_simp;exact hK _ _ (hbelowN (Below.refl _ _) n7) (hbelowN hW n7) rfl
    refine ⟨fun a w hW hk K hK=>?_,?_⟩
    · obtain ⟨k0,-⟩:=hk;have k0:a.tmps.getD 0 undef=.pointer (some ⟨b,0,none⟩):=k0;go_simp;exact hK _ _ (Below.refl _ _) hW rfl
    refine ⟨fun a w hW hk K hK=>?_,?_⟩
    · obtain ⟨k0,-⟩:=hk;have k0:a.tmps.getD 3 undef=.pointer (some ⟨X,0,none⟩):=k0;go_simp;exact hK _ _ (Below.refl _ _) hW rfl
    refine ⟨fun a w hW hk K hK=>?_,?_⟩
    · obtain ⟨k0,-⟩:=hk;have k0:a.tmps.getD 270 undef=.pointer (some ⟨X,3,none⟩):=k0;have c0:=(HS.out.below hW).cells.2.2.2.1;go_simp;exact hK _ _ (Below.refl _ _) hW rfl
    refine ⟨fun a w hW hk K hK=>?_,?_⟩
    · obtain ⟨k0,k1,-⟩:=hk;have k0:a.tmps.getD 269 undef=.pointer (some ⟨b,0,none⟩):=k0;have k1:a.tmps.getD 271 undef=.int .i64 x.c:=k1;go_simp;refine (kwant_any x.c 1 false HS.out.ok.regs HS.out.ok.vals (HS.out.below hW).known).mono ?_;rw [Hc3.out];rintro r7 w7 ⟨rfl,n7,hw7⟩;subst hw7;go_simp;exact hK _ _ (hbelowN (Below.refl _ _) n7) (hbelowN hW n7) rfl
    refine ⟨fun a w hW hk K hK=>?_,?_⟩
    · obtain ⟨k0,k1,k2,-⟩:=hk;have k0:a.tmps.getD 264 undef=.int .i64 c1:=k0;have k1:a.tmps.getD 268 undef=.int .i64 c2:=k1;have k2:a.tmps.getD 272 undef=.int .i64 c3:=k2;simp only [Array.getD_eq_getD_getElem?] at k0 k1 k2;go_simp;exact hK _ _ (bel1 _ _) (hW.alloc hW.size _) (iv_new w 3 [c1,c2,c3] HI.out 3)
    refine ⟨fun a w hW hk K hK=>?_,?_⟩
    · obtain ⟨k0,-⟩:=hk;have k0:(fun v w=>IV w [c1,c2,c3] v) (a.tmps.getD 273 undef) w:=k0;generalize k0e:a.tmps.getD 273 undef=uk0 at k0;go_simp;refine (kfirst_v (by simp) k0).mono ?_;rintro r7 w7 ⟨rfl,hw7⟩;have hw7:=hw7.symm;subst hw7;go_simp;exact hK _ _ (Below.refl _ _) hW rfl
    refine ⟨fun a w hW hk K hK=>?_,?_⟩
    · clear hk;go_simp;exact hK _ _ (Below.refl _ _) hW rfl
    refine ⟨fun a w hW hk K hK=>?_,?_⟩
    · obtain ⟨k0,-⟩:=hk;have k0:a.tmps.getD 274 undef=.int .i64 (firstI [c1,c2,c3]):=k0;go_simp;exact hK _ _ (Below.refl _ _) hW rfl
    trivial
theorem kmakes_bin {w : World} {b : Nat} {O : Nat → Prop} {s : JSt} {x : MIns} {rg ag : Option Addr} {rc ac : Nat} (hO : ∀ k, O k → k < w.heap.size) (hJ : JOk s) (h : KAt w b O s) (hop : x.op = 2) :
    Calls Tryz.prog 81 #[.pointer (some ⟨b,0,none⟩),insV x rg ag rc ac] w fun e w'=>MkOut w O (s.makes x).1 (s.makes x).2 e w':=by
  have E:Hid (s.makes x=(code2 (s.want x.a 1 false) (s.want x.b 1 false),[tInt])):=makes_bin hop;have S0:=hid_of (MkS.start x rg ag rc ac hO hJ h);obtain ⟨xop,xa,xb,xc,xk,xn,xr,xs⟩:=x;simp only at hop
  subst hop;clear h;go_enter Tryz.func81,Tryz.ntmps81
  go_upto_region 7 with fail
  obtain ⟨w2,hw2⟩:∃ w2,(w.alloc (.cells #[.int .i64 2,.int .i64 xa,.int .i64 xb,.int .i64 xc,.int .i64 xk,.int .i64 xn,.slice rg xr.length rc,.slice ag xs.length ac] 46)).alloc (.cells #[.int .i64 1,.int .i64 0,.slice none 0 0] 70)=w2:=⟨_,rfl⟩;obtain ⟨X,hX⟩:∃ X,w.heap.size=X:=⟨_,rfl⟩;have S2:Hid (MkS w w2 b X O s ⟨2,xa,xb,xc,xk,xn,xr,xs⟩ rg ag rc ac (some ⟨X+1,0,none⟩)):=by rw [← hw2,← hX];exact S0.out
  rw [hw2,hX];clear hw2 hX S0;obtain ⟨x0,x1,x2,x3,x4,x6,x7⟩:=S2.out.cells;have HI:Hid (∀ y∈[s.want xa 1 false,s.want xb 1 false],-9223372036854775808≤y∧y≤9223372036854775807):=fun y hy=>by simp only [List.mem_cons,List.not_mem_nil,or_false] at hy;rcases hy with rfl | rfl <;> exact want_i64 _ _ _ _
  refine Code.wp_mono ?_ (kr7 S2 (show Hid (s.want xa 1 false=s.want xa 1 false) from rfl) (show Hid (s.want xb 1 false=s.want xb 1 false) from rfl) HI _ _ rfl (Nat.le_of_ble_eq_true (by kernel_rfl)) rfl rfl rfl);rintro ee aa w3 ⟨rfl,vs,rfl,hv4,hv5,hb⟩;simp only [puts,Act.put,List.setIfInBounds_toArray,List.set_cons_zero,List.set_cons_succ,hv4,hv5];have E2:=E.out;rw [← firstI2] at E2;generalize firstI [s.want xa 1 false,s.want xb 1 false]=c at E2 ⊢;have E3:=hid_of E2;clear E2 E;go_wp2
  go_ret2;rw [E3.out];exact MkOut.num S2.out hb
theorem kmakes_load {w : World} {b : Nat} {O : Nat → Prop} {s : JSt} {x : MIns} {rg ag : Option Addr} {rc ac : Nat} (hO : ∀ k, O k → k < w.heap.size) (hJ : JOk s) (h : KAt w b O s) (hop : x.op = 9) :
    Calls Tryz.prog 81 #[.pointer (some ⟨b,0,none⟩),insV x rg ag rc ac] w fun e w'=>MkOut w O (s.makes x).1 (s.makes x).2 e w':=by
  have E:Hid (s.makes x=(code2 (s.want x.a 4 true) (s.want x.b 1 false),[tInt])):=makes_load hop;have S0:=hid_of (MkS.start x rg ag rc ac hO hJ h);obtain ⟨xop,xa,xb,xc,xk,xn,xr,xs⟩:=x;simp only at hop
  subst hop;clear h;go_enter Tryz.func81,Tryz.ntmps81
  go_upto_region 52 with fail
  obtain ⟨w2,hw2⟩:∃ w2,(w.alloc (.cells #[.int .i64 9,.int .i64 xa,.int .i64 xb,.int .i64 xc,.int .i64 xk,.int .i64 xn,.slice rg xr.length rc,.slice ag xs.length ac] 46)).alloc (.cells #[.int .i64 1,.int .i64 0,.slice none 0 0] 70)=w2:=⟨_,rfl⟩;obtain ⟨X,hX⟩:∃ X,w.heap.size=X:=⟨_,rfl⟩;have S2:Hid (MkS w w2 b X O s ⟨9,xa,xb,xc,xk,xn,xr,xs⟩ rg ag rc ac (some ⟨X+1,0,none⟩)):=by rw [← hw2,← hX];exact S0.out
  rw [hw2,hX];clear hw2 hX S0;obtain ⟨x0,x1,x2,x3,x4,x6,x7⟩:=S2.out.cells;have HI:Hid (∀ y∈[s.want xa 4 true,s.want xb 1 false],-9223372036854775808≤y∧y≤9223372036854775807):=fun y hy=>by simp only [List.mem_cons,List.not_mem_nil,or_false] at hy;rcases hy with rfl | rfl <;> exact want_i64 _ _ _ _
  refine Code.wp_mono ?_ (kr52 S2 (show Hid (s.want xa 4 true=s.want xa 4 true) from rfl) (show Hid (s.want xb 1 false=s.want xb 1 false) from rfl) HI _ _ rfl (Nat.le_of_ble_eq_true (by kernel_rfl)) rfl rfl rfl);rintro ee aa w3 ⟨rfl,vs,rfl,hv4,hv5,hb⟩;simp only [puts,Act.put,List.setIfInBounds_toArray,List.set_cons_zero,List.set_cons_succ,hv4,hv5];have E2:=E.out;rw [← firstI2] at E2;generalize firstI [s.want xa 4 true,s.want xb 1 false]=c at E2 ⊢;have E3:=hid_of E2;clear E2 E;go_wp2
  go_ret2;rw [E3.out];exact MkOut.num S2.out hb
theorem kmakes_store {w : World} {b : Nat} {O : Nat → Prop} {s : JSt} {x : MIns} {rg ag : Option Addr} {rc ac : Nat} (hO : ∀ k, O k → k < w.heap.size) (hJ : JOk s) (h : KAt w b O s) (hop : x.op = 10) :
    Calls Tryz.prog 81 #[.pointer (some ⟨b,0,none⟩),insV x rg ag rc ac] w fun e w'=>MkOut w O (s.makes x).1 (s.makes x).2 e w':=by
  have E:Hid (s.makes x=(code2 (s.want x.a 4 true) (code2 (s.want x.b 1 false) (s.want x.c 1 false)),[])):=makes_store hop;have S0:=hid_of (MkS.start x rg ag rc ac hO hJ h);obtain ⟨xop,xa,xb,xc,xk,xn,xr,xs⟩:=x;simp only at hop
  subst hop;clear h;go_enter Tryz.func81,Tryz.ntmps81
  go_upto_region 54 with fail
  obtain ⟨w2,hw2⟩:∃ w2,(w.alloc (.cells #[.int .i64 10,.int .i64 xa,.int .i64 xb,.int .i64 xc,.int .i64 xk,.int .i64 xn,.slice rg xr.length rc,.slice ag xs.length ac] 46)).alloc (.cells #[.int .i64 1,.int .i64 0,.slice none 0 0] 70)=w2:=⟨_,rfl⟩;obtain ⟨X,hX⟩:∃ X,w.heap.size=X:=⟨_,rfl⟩;have S2:Hid (MkS w w2 b X O s ⟨10,xa,xb,xc,xk,xn,xr,xs⟩ rg ag rc ac (some ⟨X+1,0,none⟩)):=by rw [← hw2,← hX];exact S0.out
  rw [hw2,hX];clear hw2 hX S0;obtain ⟨x0,x1,x2,x3,x4,x6,x7⟩:=S2.out.cells;have HI:Hid (∀ y∈[s.want xa 4 true,s.want xb 1 false,s.want xc 1 false],-9223372036854775808≤y∧y≤9223372036854775807):=fun y hy=>by simp only [List.mem_cons,List.not_mem_nil,or_false] at hy;rcases hy with rfl | rfl | rfl <;> exact want_i64 _ _ _ _
  refine Code.wp_mono ?_ (kr54 S2 (show Hid (s.want xa 4 true=s.want xa 4 true) from rfl) (show Hid (s.want xb 1 false=s.want xb 1 false) from rfl) (show Hid (s.want xc 1 false=s.want xc 1 false) from rfl) HI _ _ rfl (Nat.le_of_ble_eq_true (by kernel_rfl)) rfl rfl);rintro ee aa w3 ⟨rfl,vs,rfl,hv4,hv5,hb⟩;simp only [puts,Act.put,List.setIfInBounds_toArray,List.set_cons_zero,List.set_cons_succ,hv4,hv5];have E2:=E.out;rw [← firstI3] at E2;generalize firstI [s.want xa 4 true,s.want xb 1 false,s.want xc 1 false]=c at E2 ⊢;have E3:=hid_of E2;clear E2 E;go_wp2
  go_ret2;rw [E3.out];exact MkOut.nil (S2.out.below hb).bel
def kr50E (b X gL nl cL i : Nat) (O : Nat → Prop) (r : Int) (t : Tmp) (v : Value) (w : World) : Prop :=
  match ([(245,fun v w=>∃ a,v=.slice a 1 1∧(typesL 6).In w (fun g=>¬ O g) [(mkT 4 r []:TT 6)] [.slice a 1 1]),(4,fun v w=>∃ a,v=.slice a 1 1∧(typesL 6).In w (fun g=>¬ O g) [(mkT 4 r []:TT 6)] [.slice a 1 1])]:List (Tmp × (Value→World→Prop))).lookup t with
  | some p=>p v w
  | none=>v=(([(0,.pointer (some ⟨b,0,none⟩)),(3,.pointer (some ⟨X,0,none⟩)),(235,.pointer (some ⟨b,0,none⟩)),(236,.pointer (some ⟨b,0,none⟩)),(237,.pointer (some ⟨b,6,none⟩)),(238,.slice (some ⟨gL,0,none⟩) nl cL),(239,.pointer (some ⟨X,1,none⟩)),(240,.int .i64 (i:Int)),(241,.pointer (some ⟨gL,i*3,none⟩)),(242,.pointer (some ⟨gL,i*3+1,none⟩)),(243,.int .i64 r),(244,.agg #[.int .i64 4,.int .i64 r,.slice none 0 0]),(5,.int .i64 0)]:List (Tmp × Value)).lookup t).getD undef
theorem kr50 {w w2 : World} {b X : Nat} {O : Nat → Prop} {s : JSt} {x : MIns} {rg ag : Option Addr} {rc ac : Nat} {na : Option Addr} (HS : Hid (MkS w w2 b X O s x rg ag rc ac na)) {gL nl cL i : Nat} {r : Int} (y0 : w2.cell? ⟨b, 6, none⟩ = some (.slice (some ⟨gL, 0, none⟩) nl cL)) (v1 : w2.cell? ⟨gL, i * 3 + 1, none⟩ = some (.int .i64 r)) (hin : (i : Int) < nl) (hxa : x.a = (i : Int)) (HR : Hid (-9223372036854775808 ≤ r ∧ r ≤ 9223372036854775807))
    (a:Act) (m:Nat) (hn:a.tmps.size=m) (hn':365≤m) (h0:a.tmps.getD 0 undef=.pointer (some ⟨b,0,none⟩)) (h3:a.tmps.getD 3 undef=.pointer (some ⟨X,0,none⟩)) :
    Code.wp Tryz.prog ((Tryz.f81.body.bind (hRegionOf 50)).getD .skip) (fun e a' w'=>e=.normal∧∃ vs,a'=puts a vs [235,236,237,238,239,240,241,242,243,244,245,4,5]∧(fun v w=>∃ a,v=.slice a 1 1∧(typesL 6).In w (fun g=>¬ O g) [(mkT 4 r []:TT 6)] [.slice a 1 1]) (vs 4) w'∧vs 5=.int .i64 0∧Below w2.heap.size w2 w') a w2:=by
  conv=>arg 2;whnf
  refine wp_region_calm (kr50E b X gL nl cL i O r) (fun w=>Below w2.heap.size w2 w) (fun w w'=>Below w.heap.size w w') (outs:=[0,3]) (gs:=[]) (bs:=[true,true,true,true,true,true,true,true,true,true,true,true,true]) (by kernel_rfl) (n:=365) hn hn' (by kernel_rfl) ?hR ?hG (hbelowN (Below.refl _ _) 1) ⟨h0,h3,trivial⟩ ?hA ?hend
  case hR =>
    intro t v w w' hr h;unfold kr50E at h ⊢;split at h
    · rename_i p hp
      simp only [List.lookup_cons,List.lookup_nil] at hp;split at hp
      · cases hp;exact (by obtain ⟨a,e,h⟩:=h;exact ⟨a,e,Lay.below h hr⟩)
      · split at hp
        · cases hp;exact (by obtain ⟨a,e,h⟩:=h;exact ⟨a,e,Lay.below h hr⟩)
        · cases hp
    · exact h
  case hG=>exact trivial
  case hend=>exact fun vs w' hW hk=>⟨rfl,vs,rfl,hk 4 (by kernel_rfl),hk 5 (by kernel_rfl),hW⟩
  case hA =>
    refine ⟨fun a w hW hk K hK=>?_,?_⟩
    · obtain ⟨k0,-⟩:=hk;have k0:a.tmps.getD 0 undef=.pointer (some ⟨b,0,none⟩):=k0;go_simp;exact hK _ _ (Below.refl _ _) hW rfl
    refine ⟨fun a w hW hk K hK=>?_,?_⟩
    · obtain ⟨k0,-⟩:=hk;have k0:a.tmps.getD 235 undef=.pointer (some ⟨b,0,none⟩):=k0;go_simp;exact hK _ _ (Below.refl _ _) hW rfl
    refine ⟨fun a w hW hk K hK=>?_,?_⟩
    · obtain ⟨k0,-⟩:=hk;have k0:a.tmps.getD 236 undef=.pointer (some ⟨b,0,none⟩):=k0;go_simp;exact hK _ _ (Below.refl _ _) hW rfl
    refine ⟨fun a w hW hk K hK=>?_,?_⟩
    · obtain ⟨k0,-⟩:=hk;have k0:a.tmps.getD 237 undef=.pointer (some ⟨b,6,none⟩):=k0;have c0:=stay y0 hW;go_simp;exact hK _ _ (Below.refl _ _) hW rfl
    refine ⟨fun a w hW hk K hK=>?_,?_⟩
    · obtain ⟨k0,-⟩:=hk;have k0:a.tmps.getD 3 undef=.pointer (some ⟨X,0,none⟩):=k0;go_simp;exact hK _ _ (Below.refl _ _) hW rfl
    refine ⟨fun a w hW hk K hK=>?_,?_⟩
    · obtain ⟨k0,-⟩:=hk;have k0:a.tmps.getD 239 undef=.pointer (some ⟨X,1,none⟩):=k0;have c0:=(HS.out.below hW).cells.2.1;rw [hxa] at c0;go_simp;exact hK _ _ (Below.refl _ _) hW rfl
    refine ⟨fun a w hW hk K hK=>?_,?_⟩
    · obtain ⟨k0,k1,-⟩:=hk;have k0:a.tmps.getD 238 undef=.slice (some ⟨gL,0,none⟩) nl cL:=k0;have k1:a.tmps.getD 240 undef=.int .i64 (i:Int):=k1;go_simp;exact hK _ _ (Below.refl _ _) hW rfl
    refine ⟨fun a w hW hk K hK=>?_,?_⟩
    · obtain ⟨k0,-⟩:=hk;have k0:a.tmps.getD 241 undef=.pointer (some ⟨gL,i*3,none⟩):=k0;go_simp;exact hK _ _ (Below.refl _ _) hW rfl
    refine ⟨fun a w hW hk K hK=>?_,?_⟩
    · obtain ⟨k0,-⟩:=hk;have k0:a.tmps.getD 242 undef=.pointer (some ⟨gL,i*3+1,none⟩):=k0;have c0:=stay v1 hW;go_simp;exact hK _ _ (Below.refl _ _) hW rfl
    refine ⟨fun a w hW hk K hK=>?_,?_⟩
    · obtain ⟨k0,-⟩:=hk;have k0:a.tmps.getD 243 undef=.int .i64 r:=k0;simp only [Array.getD_eq_getD_getElem?] at k0;go_simp;exact hK _ _ (Below.refl _ _) hW rfl
    refine ⟨fun a w hW hk K hK=>?_,?_⟩
    · obtain ⟨k0,-⟩:=hk;have k0:a.tmps.getD 244 undef=.agg #[.int .i64 4,.int .i64 r,.slice none 0 0]:=k0;simp only [Array.getD_eq_getD_getElem?] at k0;go_simp;exact hK _ _ (bel1 _ _) (hW.alloc hW.size _) ⟨_,rfl,one_new w O (HS.out.below hW).lt (t:=(mkT 4 r []:TT 6)) (a:=none) (c:=0) (d:=1) (leaf_in _ _ _ _ _) (ok_leaf HR.out)⟩
    refine ⟨fun a w hW hk K hK=>?_,?_⟩
    · obtain ⟨k0,-⟩:=hk;have k0:(fun v w=>∃ a,v=.slice a 1 1∧(typesL 6).In w (fun g=>¬ O g) [(mkT 4 r []:TT 6)] [.slice a 1 1]) (a.tmps.getD 245 undef) w:=k0;generalize k0e:a.tmps.getD 245 undef=uk0 at k0;go_simp;exact hK _ _ (Below.refl _ _) hW k0
    refine ⟨fun a w hW hk K hK=>?_,?_⟩
    · clear hk;go_simp;exact hK _ _ (Below.refl _ _) hW rfl
    trivial
theorem kmakes_array {w : World} {b : Nat} {O : Nat → Prop} {s : JSt} {x : MIns} {rg ag : Option Addr} {rc ac : Nat} (hO : ∀ k, O k → k < w.heap.size) (hJ : JOk s) (h : KAt w b O s) (hop : x.op = 8) :
    Calls Tryz.prog 81 #[.pointer (some ⟨b,0,none⟩),insV x rg ag rc ac] w fun e w'=>MkOut w O (s.makes x).1 (s.makes x).2 e w':=by
  have E:Hid (s.makes x=(match s.at x.a with | none=>(1,[]) | some t=>(code2 (s.want x.a 2 true) (s.want x.b 1 false),[mkT 4 t.r []]))):=makes_array hop;have S0:=hid_of (MkS.start x rg ag rc ac hO hJ h);obtain ⟨xop,xa,xb,xc,xk,xn,xr,xs⟩:=x;simp only at hop
  subst hop;clear h;go_enter Tryz.func81,Tryz.ntmps81
  go_upto_region 47 with fail
  obtain ⟨w2,hw2⟩:∃ w2,(w.alloc (.cells #[.int .i64 8,.int .i64 xa,.int .i64 xb,.int .i64 xc,.int .i64 xk,.int .i64 xn,.slice rg xr.length rc,.slice ag xs.length ac] 46)).alloc (.cells #[.int .i64 1,.int .i64 0,.slice none 0 0] 70)=w2:=⟨_,rfl⟩;obtain ⟨X,hX⟩:∃ X,w.heap.size=X:=⟨_,rfl⟩;have S2:Hid (MkS w w2 b X O s ⟨8,xa,xb,xc,xk,xn,xr,xs⟩ rg ag rc ac (some ⟨X+1,0,none⟩)):=by rw [← hw2,← hX];exact S0.out
  rw [hw2,hX];clear hw2 hX S0;obtain ⟨x0,x1,x2,x3,x4,x6,x7⟩:=S2.out.cells;have HI:Hid (∀ y∈[s.want xa 2 true,s.want xb 1 false],-9223372036854775808≤y∧y≤9223372036854775807):=fun y hy=>by simp only [List.mem_cons,List.not_mem_nil,or_false] at hy;rcases hy with rfl | rfl <;> exact want_i64 _ _ _ _
  refine Code.wp_mono ?_ (kr47 S2 (show Hid (s.want xa 2 true=s.want xa 2 true) from rfl) (show Hid (s.want xb 1 false=s.want xb 1 false) from rfl) HI _ _ rfl (Nat.le_of_ble_eq_true (by kernel_rfl)) rfl rfl);rintro ee aa w3 ⟨rfl,vs,rfl,hv5,hb⟩;simp only [puts,Act.put,List.setIfInBounds_toArray,List.set_cons_zero,List.set_cons_succ,hv5];have S3:Hid (MkS w w3 b X O s ⟨8,xa,xb,xc,xk,xn,xr,xs⟩ rg ag rc ac (some ⟨X+1,0,none⟩)):=S2.out.below hb;rw [firstI2];clear hb hv5 S2 HI x0 x1 x2 x3 x4 x6 x7;have S2:=S3;clear S3;by_cases hc:code2 (s.want xa 2 true) (s.want xb 1 false)=0
  · obtain ⟨hw1,hw2⟩:=code2_zero hc;obtain ⟨t,hat,-,-⟩:=want_zero hw1
    have E2:Hid (s.makes ⟨8,xa,xb,xc,xk,xn,xr,xs⟩=(0,[mkT 4 t.r []])):=by
      show _=_;rw [E.out];simp only [hat,hc]
    rw [hc];clear E hc hw1 hw2;obtain ⟨-,ha0,hal,hti⟩:=at_mem hat;obtain ⟨i,rfl⟩:=Int.eq_ofNat_of_zero_le ha0;clear hat ha0;obtain ⟨pm,cm,a1,c1,a2,c2,a3,c3,hh,aL,cL,R⟩:=S2.out.known.read;obtain ⟨q0,q1,q2,q3,q4,q5,q6⟩:=R.cells;obtain ⟨gL,va,vc,rfl,v0,v1,v2,-,hok⟩:=R.row i t (by simpa using hti);have HR:Hid (-9223372036854775808≤t.r∧t.r≤9223372036854775807):=hok.1;clear R q0 q1 q2 q3 q4 q5 hti v0 v2 hok;generalize s.L.length=nl at q6 hal;go_upto_region 50 with fail
    refine Code.wp_mono ?_ (kr50 S2 q6 v1 hal rfl HR _ _ rfl (Nat.le_of_ble_eq_true (by kernel_rfl)) rfl rfl);rintro ee aa w4 ⟨rfl,vs,rfl,⟨a4,hv4,h4⟩,hv5,hb⟩;simp only [puts,Act.put,List.setIfInBounds_toArray,List.set_cons_zero,List.set_cons_succ,hv4,hv5];have Z:Hid (MkOut w O 0 [(mkT 4 t.r []:TT 6)] (.returned (.tuple #[.slice a4 1 1,.int .i64 0])) w4):=⟨_,1,1,rfl,fun _=>⟨rfl,Nat.le_refl _,h4⟩,(S2.out.below hb).bel⟩;clear h4 hb hv4 hv5 v1 q6;go_wp2
    go_ret2;rw [E2.out];exact Z.out
  · have E2:Hid ((s.makes ⟨8,xa,xb,xc,xk,xn,xr,xs⟩).1=code2 (s.want xa 2 true) (s.want xb 1 false)):=by
      show _=_;rw [E.out]
      cases hat:s.at xa with
      | none =>
        have:s.want xa 2 true=1:=by unfold JSt.want;rw [hat]
        simp only [this];rfl
      | some t=>rfl
    clear E;generalize code2 (s.want xa 2 true) (s.want xb 1 false)=c at E2 hc ⊢;have hc':(c==0)=false:=beq_eq_false_iff_ne.2 hc;have HC:=hid_of hc;clear hc;go_wp2
    go_ret2;rw [E2.out];exact MkOut.bad HC.out S2.out.bel _ _ _
def kr38E (w2 : World) (b X gL nl cL i gk ok nk ck k uc : Nat) (u : TT 5) (ua : Option Addr) (t : Tmp) (v : Value) (w : World) : Prop :=
  match ([(12,fun v w=>∃ B,v=.pointer (some ⟨B,0,none⟩)∧w2.heap.size≤B∧Blk w B #[.int .i64 0,.int .i64 0,.slice none 0 0] 70)]:List (Tmp × (Value→World→Prop))).lookup t with
  | some p=>p v w
  | none=>v=(([(0,.pointer (some ⟨b,0,none⟩)),(3,.pointer (some ⟨X,0,none⟩)),(178,.pointer (some ⟨b,0,none⟩)),(179,.pointer (some ⟨b,0,none⟩)),(180,.pointer (some ⟨b,6,none⟩)),(181,.slice (some ⟨gL,0,none⟩) nl cL),(182,.pointer (some ⟨X,1,none⟩)),(183,.int .i64 (i:Int)),(184,.pointer (some ⟨gL,i*3,none⟩)),(185,.pointer (some ⟨gL,i*3+2,none⟩)),(186,.slice (some ⟨gk,ok,none⟩) nk ck),(187,.pointer (some ⟨X,4,none⟩)),(188,.int .i64 (k:Int)),(189,.pointer (some ⟨gk,ok+k*3,none⟩)),(190,.agg #[.int .i64 u.kind,.int .i64 u.r,.slice ua u.len uc])]:List (Tmp × Value)).lookup t).getD undef
theorem kr38 {w w2 : World} {b X : Nat} {O : Nat → Prop} {s : JSt} {x : MIns} {rg ag : Option Addr} {rc ac : Nat} {na : Option Addr} (HS : Hid (MkS w w2 b X O s x rg ag rc ac na)) {gL nl cL i gk ok nk ck k uc : Nat} {u : TT 5} {ua : Option Addr} (y0 : w2.cell? ⟨b, 6, none⟩ = some (.slice (some ⟨gL, 0, none⟩) nl cL)) (v2 : w2.cell? ⟨gL, i * 3 + 2, none⟩ = some (.slice (some ⟨gk, ok, none⟩) nk ck)) (u0 : w2.cell? ⟨gk, ok + k * 3, none⟩ = some (.int .i64 u.kind)) (u1 : w2.cell? ⟨gk, ok + k * 3 + 1, none⟩ = some (.int .i64 u.r)) (u2 : w2.cell? ⟨gk, ok + k * 3 + 2, none⟩ = some (.slice ua u.len uc)) (hin : (i : Int) < nl) (hkn : (k : Int) < nk) (hxa : x.a = (i : Int)) (hxk : x.k = (k : Int)) {Q : Exit → Act → World → Prop}
    (a:Act) (m:Nat) (hn:a.tmps.size=m) (hn':365≤m) (h0:a.tmps.getD 0 undef=.pointer (some ⟨b,0,none⟩)) (h3:a.tmps.getD 3 undef=.pointer (some ⟨X,0,none⟩))
    (hend:∀ ops vs w',vs 190=.agg #[.int .i64 u.kind,.int .i64 u.r,.slice ua u.len uc]→(fun v w=>∃ B,v=.pointer (some ⟨B,0,none⟩)∧w2.heap.size≤B∧Blk w B #[.int .i64 0,.int .i64 0,.slice none 0 0] 70) (vs 12) w'→Below w2.heap.size w2 w'→wpList Tryz.prog ops Q (hTail 14 ((Tryz.f81.body.bind (hRegionOf 38)).getD .skip)) (puts a vs [178,179,180,181,182,183,184,185,186,187,188,189,190,12]) w') :
    Code.wp Tryz.prog ((Tryz.f81.body.bind (hRegionOf 38)).getD .skip) Q a w2:=by
  conv=>arg 2;whnf
  refine wp_region_calm_tailT 14 (kr38E w2 b X gL nl cL i gk ok nk ck k uc u ua) (fun w=>Below w2.heap.size w2 w) (fun w w'=>Below w.heap.size w w') (outs:=[0,3]) (gs:=[]) (bs:=[true,true,true,true,true,true,true,true,true,true,true,true,true,true]) (by kernel_rfl) (n:=365) hn hn' (by kernel_rfl) (by kernel_rfl) ?hR ?hG (hbelowN (Below.refl _ _) 1) ⟨h0,h3,trivial⟩ ?hA ?hend
  case hR =>
    intro t v w w' hr h;unfold kr38E at h ⊢;split at h
    · rename_i p hp
      simp only [List.lookup_cons,List.lookup_nil] at hp;split at hp
      · cases hp;exact (by obtain ⟨B,e,h1,h2⟩:=h;exact ⟨B,e,h1,(hr.block B (lt_of_block h2)).trans h2⟩)
      · cases hp
    · exact h
  case hG=>exact trivial
  case hend=>exact fun ops vs w' hW hk=>hend ops vs w' (hk 190 (by kernel_rfl)) (hk 12 (by kernel_rfl)) hW
  case hA =>
    refine ⟨fun a w hW hk K hK=>?_,?_⟩
    · obtain ⟨k0,-⟩:=hk;have k0:a.tmps.getD 0 undef=.pointer (some ⟨b,0,none⟩):=k0;go_simp;exact hK _ _ (Below.refl _ _) hW rfl
    refine ⟨fun a w hW hk K hK=>?_,?_⟩
    · obtain ⟨k0,-⟩:=hk;have k0:a.tmps.getD 178 undef=.pointer (some ⟨b,0,none⟩):=k0;go_simp;exact hK _ _ (Below.refl _ _) hW rfl
    refine ⟨fun a w hW hk K hK=>?_,?_⟩
    · obtain ⟨k0,-⟩:=hk;have k0:a.tmps.getD 179 undef=.pointer (some ⟨b,0,none⟩):=k0;go_simp;exact hK _ _ (Below.refl _ _) hW rfl
    refine ⟨fun a w hW hk K hK=>?_,?_⟩
    · obtain ⟨k0,-⟩:=hk;have k0:a.tmps.getD 180 undef=.pointer (some ⟨b,6,none⟩):=k0;have c0:=stay y0 hW;go_simp;exact hK _ _ (Below.refl _ _) hW rfl
    refine ⟨fun a w hW hk K hK=>?_,?_⟩
    · obtain ⟨k0,-⟩:=hk;have k0:a.tmps.getD 3 undef=.pointer (some ⟨X,0,none⟩):=k0;go_simp;exact hK _ _ (Below.refl _ _) hW rfl
    refine ⟨fun a w hW hk K hK=>?_,?_⟩
    · obtain ⟨k0,-⟩:=hk;have k0:a.tmps.getD 182 undef=.pointer (some ⟨X,1,none⟩):=k0;have c0:=(HS.out.below hW).cells.2.1;rw [hxa] at c0;go_simp;exact hK _ _ (Below.refl _ _) hW rfl
    refine ⟨fun a w hW hk K hK=>?_,?_⟩
    · obtain ⟨k0,k1,-⟩:=hk;have k0:a.tmps.getD 181 undef=.slice (some ⟨gL,0,none⟩) nl cL:=k0;have k1:a.tmps.getD 183 undef=.int .i64 (i:Int):=k1;go_simp;exact hK _ _ (Below.refl _ _) hW rfl
    refine ⟨fun a w hW hk K hK=>?_,?_⟩
    · obtain ⟨k0,-⟩:=hk;have k0:a.tmps.getD 184 undef=.pointer (some ⟨gL,i*3,none⟩):=k0;go_simp;exact hK _ _ (Below.refl _ _) hW rfl
    refine ⟨fun a w hW hk K hK=>?_,?_⟩
    · obtain ⟨k0,-⟩:=hk;have k0:a.tmps.getD 185 undef=.pointer (some ⟨gL,i*3+2,none⟩):=k0;have c0:=stay v2 hW;go_simp;exact hK _ _ (Below.refl _ _) hW rfl
    refine ⟨fun a w hW hk K hK=>?_,?_⟩
    · obtain ⟨k0,-⟩:=hk;have k0:a.tmps.getD 3 undef=.pointer (some ⟨X,0,none⟩):=k0;go_simp;exact hK _ _ (Below.refl _ _) hW rfl
    refine ⟨fun a w hW hk K hK=>?_,?_⟩
    · obtain ⟨k0,-⟩:=hk;have k0:a.tmps.getD 187 undef=.pointer (some ⟨X,4,none⟩):=k0;have c0:=(HS.out.below hW).cells.2.2.2.2.1;rw [hxk] at c0;go_simp;exact hK _ _ (Below.refl _ _) hW rfl
    refine ⟨fun a w hW hk K hK=>?_,?_⟩
    · obtain ⟨k0,k1,-⟩:=hk;have k0:a.tmps.getD 186 undef=.slice (some ⟨gk,ok,none⟩) nk ck:=k0;have k1:a.tmps.getD 188 undef=.int .i64 (k:Int):=k1;go_simp;exact hK _ _ (Below.refl _ _) hW rfl
    refine ⟨fun a w hW hk K hK=>?_,?_⟩
    · obtain ⟨k0,-⟩:=hk;have k0:a.tmps.getD 189 undef=.pointer (some ⟨gk,ok+k*3,none⟩):=k0;have c0:=stay u0 hW;have c1:=stay u1 hW;have c2:=stay u2 hW;go_simp;exact hK _ _ (Below.refl _ _) hW rfl
    refine ⟨fun a w hW hk K hK=>?_,?_⟩
    · clear hk;go_simp;exact hK _ _ (bel1 _ _) (hW.alloc hW.size _) ⟨_,rfl,hW.size,blockNew _ _ _⟩
    trivial
theorem kmakes_get {w : World} {b : Nat} {O : Nat → Prop} {s : JSt} {x : MIns} {rg ag : Option Addr} {rc ac : Nat} (hO : ∀ k, O k → k < w.heap.size) (hJ : JOk s) (h : KAt w b O s) (hk0 : 0 ≤ x.k ∧ x.k ≤ 7) (hop : x.op = 6) :
    Calls Tryz.prog 81 #[.pointer (some ⟨b,0,none⟩),insV x rg ag rc ac] w fun e w'=>MkOut w O (s.makes x).1 (s.makes x).2 e w':=by
  have E:Hid (s.makes x=(match s.at x.a with
    | none=>(1,[])
    | some t=>if s.want x.a 3 true=0 then (match t.2.2[x.k.toNat]? with
        | none=>(9,[])
        | some u=>(0,[u.at 5]))
      else (s.want x.a 3 true,[]))):=makes_get hop
  have S0:=hid_of (MkS.start x rg ag rc ac hO hJ h);obtain ⟨xop,xa,xb,xc,xk,xn,xr,xs⟩:=x;simp only at hop
  subst hop;clear h;go_enter Tryz.func81,Tryz.ntmps81
  go_upto_region 33 with fail
  obtain ⟨w2,hw2⟩:∃ w2,(w.alloc (.cells #[.int .i64 6,.int .i64 xa,.int .i64 xb,.int .i64 xc,.int .i64 xk,.int .i64 xn,.slice rg xr.length rc,.slice ag xs.length ac] 46)).alloc (.cells #[.int .i64 1,.int .i64 0,.slice none 0 0] 70)=w2:=⟨_,rfl⟩;obtain ⟨X,hX⟩:∃ X,w.heap.size=X:=⟨_,rfl⟩;have S2:Hid (MkS w w2 b X O s ⟨6,xa,xb,xc,xk,xn,xr,xs⟩ rg ag rc ac (some ⟨X+1,0,none⟩)):=by rw [← hw2,← hX];exact S0.out
  rw [hw2,hX];clear hw2 hX S0;obtain ⟨x0,x1,x2,x3,x4,x6,x7⟩:=S2.out.cells;have hH16:=S2.out.ok.regs;have hL80:=S2.out.ok.vals;go_wp2_with fail
  refine (kwant_any xa 3 true S2.out.ok.regs S2.out.ok.vals S2.out.known).mono ?_;rintro e w3 ⟨rfl,n3,hw3⟩;have S3:Hid (MkS w w3 b X O s ⟨6,xa,xb,xc,xk,xn,xr,xs⟩ rg ag rc ac (some ⟨X+1,0,none⟩)):=S2.out.below (by rw [hw3];exact hbelowN (Below.refl _ _) n3);clear hw3 S2 x0 x1 x2 x3 x4 x6 x7;have S2:=S3;clear S3;obtain ⟨x0,x1,x2,x3,x4,x6,x7⟩:=S2.out.cells;simp only at x0 x1 x2 x3 x4 x6 x7 hk0
  cases hat:s.at xa with
  | none =>
    have hw:s.want xa 3 true=1:=by unfold JSt.want;rw [hat]
    have E2:Hid (s.makes ⟨6,xa,xb,xc,xk,xn,xr,xs⟩=(1,[])):=by
      show _=_;rw [E.out];simp only [hat]
    rw [hw];clear E hw hat;go_wp2
    go_ret2;rw [E2.out];exact MkOut.nil S2.out.bel
  | some t =>
    by_cases hw:s.want xa 3 true=0
    · obtain ⟨k,rfl⟩:=Int.eq_ofNat_of_zero_le hk0.1;obtain ⟨-,ha0,hal,hti⟩:=at_mem hat;obtain ⟨i,rfl⟩:=Int.eq_ofNat_of_zero_le ha0;obtain ⟨pm,cm,a1,c1,a2,c2,a3,c3,hh,aL,cL,R⟩:=S2.out.known.read;obtain ⟨q0,q1,q2,q3,q4,q5,q6⟩:=R.cells;obtain ⟨gL,va,vc,rfl,v0,v1,v2,v3,hok⟩:=R.row i t (by simpa using hti);have HRW:Hid (TRd w3 (fun g=>¬ O g) (some ⟨gL,0,none⟩) s.L):=R.row;clear R q0 q1 q2 q3 q4 q5 v0 v1;have hlen:t.len=t.2.2.length:=rfl
      cases hu:t.2.2[k]? with
      | none =>
        have E2:Hid (s.makes ⟨6,(i:Int),xb,xc,(k:Int),xn,xr,xs⟩=(9,[])):=by
          show _=_;rw [E.out];simp only [hat,if_pos hw,Int.toNat_natCast,hu]
        have hge:(t.len:Int)≤k:=by rw [hlen];have:=List.getElem?_eq_none_iff.1 hu;omega
        rw [hw];clear E hw hat hu hlen hti;generalize t.len=tl at v2 hge;generalize hnl:s.L.length=nl at q6 hal hL80;go_wp2_with fail
        go_quiet (fail)
        go_wp2
        go_ret2;rw [E2.out];exact MkOut.nil (hbelowN S2.out.bel _)
      | some u =>
        have hlt:(k:Int)<t.len:=by rw [hlen];have:=(List.getElem?_eq_some_iff.1 hu).1;omega
        obtain ⟨gk,okk,ua,uc,rfl,-,u0,u1,u2,u3⟩:=v3 k u hu;have hua:u.ok:=hok.2 u (List.mem_of_getElem? hu);have HU:Hid (TIn w3 (fun g=>¬ O g) u ua∧u.ok):=⟨u3,hua⟩
        have HCU:Hid ((u.at 5).count≤100000):=by
          have h1:=check_count (S2.out.ok.types t (at_mem hat).1);have h2:=t.count_kid (List.mem_of_getElem? hu);have h3:=TT.at_count 5 u;show _≤_;omega
        have E2:Hid (s.makes ⟨6,(i:Int),xb,xc,(k:Int),xn,xr,xs⟩=(0,[u.at 5])):=by
          show _=_;rw [E.out];simp only [hat,if_pos hw,Int.toNat_natCast,hu]
        have hge:¬ (t.len:Int)≤k:=by omega
        rw [hw];clear E hw hat hu hlen hti v3 hok u3 hua;generalize t.len=tl at v2 hge hlt;generalize hnl:s.L.length=nl at q6 hal hL80;have HNL:Hid (s.L.length=nl):=hnl;clear hnl;go_wp2_with fail
        go_quiet (fail)
        have S4:=hid_of (S2.out.below (hbelowN (Below.refl _ _) nq));have b4:Below w3.heap.size w3 (w3.drewN nq):=hbelowN (Below.refl _ _) nq;have HU4:Hid (TIn (w3.drewN nq) (fun g=>¬ O g) u ua∧u.ok):=⟨HU.out.1.below b4,HU.out.2⟩;have HRW4:Hid (TRd (w3.drewN nq) (fun g=>¬ O g) (some ⟨gL,0,none⟩) s.L):=HRW.out.below b4;have q6':=stay q6 b4;have v2':=stay v2 b4;have u0':=stay u0 b4;have u1':=stay u1 b4;have u2':=stay u2 b4;clear b4;generalize w3.drewN nq=w4 at S4 HU4 HRW4 q6' v2' u0' u1' u2' ⊢;clear q6 v2 u0 u1 u2 HU HRW S2 x0 x1 x2 x3 x4 x6 x7;have S2:=S4;clear S4;obtain ⟨x0,x1,x2,x3,x4,x6,x7⟩:=S2.out.cells;simp only at x0 x1 x2 x3 x4 x6 x7
        go_upto_region 38 with fail
        refine kr38 S2 q6' v2' u0' u1' u2' hal hlt rfl rfl _ _ rfl (Nat.le_of_ble_eq_true (by kernel_rfl)) rfl rfl ?_;rintro ops vs w5 hv190 ⟨B,hv12,hB,hBb⟩ b5;show wpList _ ops _ [_] (puts _ vs [178,179,180,181,182,183,184,185,186,187,188,189,190,12]) w5;simp only [puts,Act.put,List.setIfInBounds_toArray,List.set_cons_zero,List.set_cons_succ,hv190,hv12];have B6:Hid (Blk (((w5.setCell ⟨B,0,none⟩ (.int .i64 u.kind)).setCell ⟨B,1,none⟩ (.int .i64 u.r)).setCell ⟨B,2,none⟩ (.slice ua u.len uc)) B #[.int .i64 u.kind,.int .i64 u.r,.slice ua u.len uc] 70):=Blk.set3 hBb _ _ _
        have b6:Hid (Below w4.heap.size w4 (((w5.setCell ⟨B,0,none⟩ (.int .i64 u.kind)).setCell ⟨B,1,none⟩ (.int .i64 u.r)).setCell ⟨B,2,none⟩ (.slice ua u.len uc))) :=
          ((b5.setCell (p:=⟨B,0,none⟩) hB _).setCell (p:=⟨B,1,none⟩) hB _).setCell (p:=⟨B,2,none⟩) hB _
        have e0:=cellOf hBb 0 _ rfl;have e1:=cellOf hBb 1 _ rfl;have e2:=cellOf hBb 2 _ rfl;have ef:∀ i,w5.frozen? ⟨B,i,none⟩=false:=fun i=>freeOf hBb i;clear hBb hB b5 hv190 hv12 q6' v2' u0' u1' u2';go_upto_region 39 with fail
        generalize (((w5.setCell ⟨B,0,none⟩ (.int .i64 u.kind)).setCell ⟨B,1,none⟩ (.int .i64 u.r)).setCell ⟨B,2,none⟩ (.slice ua u.len uc))=w6 at B6 b6 ⊢;have S6:=hid_of (S2.out.below b6.out);have HU6:Hid (TIn w6 (fun g=>¬ O g) u ua∧u.ok):=⟨HU4.out.1.below b6.out,HU4.out.2⟩;have HRW6:Hid (TRd w6 (fun g=>¬ O g) (some ⟨gL,0,none⟩) s.L):=HRW4.out.below b6.out;clear S2 HU4 HRW4 e0 e1 e2 ef x0 x1 x2 x3 x4 x6 x7;have S2:=S6;clear S6;obtain ⟨x0,x1,x2,x3,x4,x6,x7⟩:=S2.out.cells;simp only at x0 x1 x2 x3 x4 x6 x7
        have e0:=cellOf B6.out 0 _ rfl;have e1:=cellOf B6.out 1 _ rfl;have e2:=cellOf B6.out 2 _ rfl
        have Z:Hid (MkOut w O 0 [u.at 5] (.returned (.tuple #[.slice (some ⟨w6.heap.size,0,none⟩) 1 1,.int .i64 0])) (w6.alloc (.cells #[.int .i64 u.kind,.int .i64 u.r,.slice ua u.len uc] 70))) :=
          ⟨_,1,1,rfl,fun _=>⟨rfl,Nat.le_refl _,one_new_at w6 O S2.out.lt HU6.out.1 HU6.out.2⟩,S2.out.bel.alloc S2.out.bel.size _⟩
        clear B6 b6;go_wp2
        go_ret2;rw [E2.out];exact Z.out
    · have hw':(s.want xa 3 true==0)=false:=beq_eq_false_iff_ne.2 hw
      have E2:Hid (s.makes ⟨6,xa,xb,xc,xk,xn,xr,xs⟩=(s.want xa 3 true,[])):=by
        show _=_;rw [E.out];simp only [hat,if_neg hw]
      have HW:=hid_of hw;clear E hat hw;generalize s.want xa 3 true=c at E2 hw' HW ⊢;go_wp2
      go_ret2;rw [E2.out];exact MkOut.nil S2.out.bel
def kr43E (b X B gL nl cL j uc yc : Nat) (u y : TT 6) (ua ya : Option Addr) (q : Bool) (t : Tmp) (v : Value) (w : World) : Prop :=
  v=(([(0,.pointer (some ⟨b,0,none⟩)),(3,.pointer (some ⟨X,0,none⟩)),(12,.pointer (some ⟨B,0,none⟩)),(209,.agg #[.int .i64 u.kind,.int .i64 u.r,.slice ua u.len uc]),(210,.pointer (some ⟨b,0,none⟩)),(211,.pointer (some ⟨b,0,none⟩)),(212,.pointer (some ⟨b,6,none⟩)),(213,.slice (some ⟨gL,0,none⟩) nl cL),(214,.pointer (some ⟨X,2,none⟩)),(215,.int .i64 (j:Int)),(216,.pointer (some ⟨gL,j*3,none⟩)),(217,.agg #[.int .i64 y.kind,.int .i64 y.r,.slice ya y.len yc]),(218,.bool q),(219,.bool (!q))]:List (Tmp × Value)).lookup t).getD undef
theorem kr43 {w w2 : World} {b X : Nat} {O : Nat → Prop} {s : JSt} {x : MIns} {rg ag : Option Addr} {rc ac : Nat} {na : Option Addr} (HS : Hid (MkS w w2 b X O s x rg ag rc ac na)) {B gL nl cL j uc yc : Nat} {u y : TT 6} {ua ya : Option Addr} {q : Bool} {Q R : Nat → Prop} (e0 : w2.cell? ⟨B, 0, none⟩ = some (.int .i64 u.kind)) (e1 : w2.cell? ⟨B, 1, none⟩ = some (.int .i64 u.r)) (e2 : w2.cell? ⟨B, 2, none⟩ = some (.slice ua u.len uc)) (y0 : w2.cell? ⟨b, 6, none⟩ = some (.slice (some ⟨gL, 0, none⟩) nl cL)) (v0 : w2.cell? ⟨gL, j * 3, none⟩ = some (.int .i64 y.kind)) (v1 : w2.cell? ⟨gL, j * 3 + 1, none⟩ = some (.int .i64 y.r)) (v2 : w2.cell? ⟨gL, j * 3 + 2, none⟩ = some (.slice ya y.len yc)) (hjn : (j : Int) < nl) (hxb : x.b = (j : Int)) (HU : Hid (TIn w2 Q u ua)) (HV : Hid (TIn w2 R y ya)) (HC : Hid (u.count ≤ 100000)) (HQ : Hid (q = true ↔ u = y))
    (a:Act) (m:Nat) (hn:a.tmps.size=m) (hn':365≤m) (h0:a.tmps.getD 0 undef=.pointer (some ⟨b,0,none⟩)) (h3:a.tmps.getD 3 undef=.pointer (some ⟨X,0,none⟩)) (h12:a.tmps.getD 12 undef=.pointer (some ⟨B,0,none⟩)) :
    Code.wp Tryz.prog ((Tryz.f81.body.bind (hRegionOf 43)).getD .skip) (fun e a' w'=>e=.normal∧∃ vs,a'=puts a vs [209,210,211,212,213,214,215,216,217,218,219]∧vs 219=.bool (!q)∧Below w2.heap.size w2 w') a w2:=by
  conv=>arg 2;whnf
  refine wp_region_calm (kr43E b X B gL nl cL j uc yc u y ua ya q) (fun w=>Below w2.heap.size w2 w) (fun w w'=>Below w.heap.size w w') (outs:=[0,3,12]) (gs:=[]) (bs:=[true,true,true,true,true,true,true,true,true,true,true]) (by kernel_rfl) (n:=365) hn hn' (by kernel_rfl) ?hR ?hG (hbelowN (Below.refl _ _) 1) ⟨h0,h3,h12,trivial⟩ ?hA ?hend
  case hR=>exact fun t v w w' _ h=>h
  case hG=>exact trivial
  case hend=>exact fun vs w' hW hk=>⟨rfl,vs,rfl,hk 219 (by kernel_rfl),hW⟩
  case hA =>
    refine ⟨fun a w hW hk K hK=>?_,?_⟩
    · obtain ⟨k0,-⟩:=hk;have k0:a.tmps.getD 12 undef=.pointer (some ⟨B,0,none⟩):=k0;have c0:=stay e0 hW;have c1:=stay e1 hW;have c2:=stay e2 hW;go_simp;exact hK _ _ (Below.refl _ _) hW rfl
    refine ⟨fun a w hW hk K hK=>?_,?_⟩
    · obtain ⟨k0,-⟩:=hk;have k0:a.tmps.getD 0 undef=.pointer (some ⟨b,0,none⟩):=k0;go_simp;exact hK _ _ (Below.refl _ _) hW rfl
    refine ⟨fun a w hW hk K hK=>?_,?_⟩
    · obtain ⟨k0,-⟩:=hk;have k0:a.tmps.getD 210 undef=.pointer (some ⟨b,0,none⟩):=k0;go_simp;exact hK _ _ (Below.refl _ _) hW rfl
    refine ⟨fun a w hW hk K hK=>?_,?_⟩
    · obtain ⟨k0,-⟩:=hk;have k0:a.tmps.getD 211 undef=.pointer (some ⟨b,0,none⟩):=k0;go_simp;exact hK _ _ (Below.refl _ _) hW rfl
    refine ⟨fun a w hW hk K hK=>?_,?_⟩
    · obtain ⟨k0,-⟩:=hk;have k0:a.tmps.getD 212 undef=.pointer (some ⟨b,6,none⟩):=k0;have c0:=stay y0 hW;go_simp;exact hK _ _ (Below.refl _ _) hW rfl
    refine ⟨fun a w hW hk K hK=>?_,?_⟩
    · obtain ⟨k0,-⟩:=hk;have k0:a.tmps.getD 3 undef=.pointer (some ⟨X,0,none⟩):=k0;go_simp;exact hK _ _ (Below.refl _ _) hW rfl
    refine ⟨fun a w hW hk K hK=>?_,?_⟩
    · obtain ⟨k0,-⟩:=hk;have k0:a.tmps.getD 214 undef=.pointer (some ⟨X,2,none⟩):=k0;have c0:=(HS.out.below hW).cells.2.2.1;rw [hxb] at c0;go_simp;exact hK _ _ (Below.refl _ _) hW rfl
    refine ⟨fun a w hW hk K hK=>?_,?_⟩
    · obtain ⟨k0,k1,-⟩:=hk;have k0:a.tmps.getD 213 undef=.slice (some ⟨gL,0,none⟩) nl cL:=k0;have k1:a.tmps.getD 215 undef=.int .i64 (j:Int):=k1;go_simp;exact hK _ _ (Below.refl _ _) hW rfl
    refine ⟨fun a w hW hk K hK=>?_,?_⟩
    · obtain ⟨k0,-⟩:=hk;have k0:a.tmps.getD 216 undef=.pointer (some ⟨gL,j*3,none⟩):=k0;have c0:=stay v0 hW;have c1:=stay v1 hW;have c2:=stay v2 hW;go_simp;exact hK _ _ (Below.refl _ _) hW rfl
    refine ⟨fun a w hW hk K hK=>?_,?_⟩
    · obtain ⟨k0,k1,-⟩:=hk;have k0:a.tmps.getD 209 undef=.agg #[.int .i64 u.kind,.int .i64 u.r,.slice ua u.len uc]:=k0;have k1:a.tmps.getD 217 undef=.agg #[.int .i64 y.kind,.int .i64 y.r,.slice ya y.len yc]:=k1;go_simp;refine (samet_any 6 u y ua ya uc yc w (HU.out.below hW).all (HV.out.below hW).all HC.out).mono ?_;rintro r7 w7 ⟨⟨q7,rfl,hq7⟩,b7⟩;have eq7:q7=q:=Bool.eq_iff_iff.2 (hq7.trans HQ.out.symm);subst eq7;go_simp;exact hK _ _ b7 (hW.trans (b7.mono hW.size)) rfl
    refine ⟨fun a w hW hk K hK=>?_,?_⟩
    · obtain ⟨k0,-⟩:=hk;have k0:a.tmps.getD 218 undef=.bool q:=k0;go_simp;exact hK _ _ (Below.refl _ _) hW rfl
    trivial
theorem kmakes_set {w : World} {b : Nat} {O : Nat → Prop} {s : JSt} {x : MIns} {rg ag : Option Addr} {rc ac : Nat} (hO : ∀ k, O k → k < w.heap.size) (hJ : JOk s) (h : KAt w b O s) (hk0 : 0 ≤ x.k ∧ x.k ≤ 7) (hop : x.op = 7) :
    Calls Tryz.prog 81 #[.pointer (some ⟨b,0,none⟩),insV x rg ag rc ac] w fun e w'=>MkOut w O (s.makes x).1 (s.makes x).2 e w':=by
  have E:Hid (s.makes x=(match s.at x.a with
    | none=>(1,[])
    | some t=>if s.want x.a 3 true=0 then (match t.2.2[x.k.toNat]? with
        | none=>(9,[])
        | some u=>(match s.at x.b with
          | none=>(1,[])
          | some v=>if bdec (u.at 5=v) then (0,[]) else (9,[])))
      else (s.want x.a 3 true,[]))):=makes_set hop
  have S0:=hid_of (MkS.start x rg ag rc ac hO hJ h);obtain ⟨xop,xa,xb,xc,xk,xn,xr,xs⟩:=x;simp only at hop
  subst hop;clear h;go_enter Tryz.func81,Tryz.ntmps81
  go_upto_region 33 with fail
  obtain ⟨w2,hw2⟩:∃ w2,(w.alloc (.cells #[.int .i64 7,.int .i64 xa,.int .i64 xb,.int .i64 xc,.int .i64 xk,.int .i64 xn,.slice rg xr.length rc,.slice ag xs.length ac] 46)).alloc (.cells #[.int .i64 1,.int .i64 0,.slice none 0 0] 70)=w2:=⟨_,rfl⟩;obtain ⟨X,hX⟩:∃ X,w.heap.size=X:=⟨_,rfl⟩;have S2:Hid (MkS w w2 b X O s ⟨7,xa,xb,xc,xk,xn,xr,xs⟩ rg ag rc ac (some ⟨X+1,0,none⟩)):=by rw [← hw2,← hX];exact S0.out
  rw [hw2,hX];clear hw2 hX S0;obtain ⟨x0,x1,x2,x3,x4,x6,x7⟩:=S2.out.cells;have hH16:=S2.out.ok.regs;have hL80:=S2.out.ok.vals;go_wp2_with fail
  refine (kwant_any xa 3 true S2.out.ok.regs S2.out.ok.vals S2.out.known).mono ?_;rintro e w3 ⟨rfl,n3,hw3⟩;have S3:Hid (MkS w w3 b X O s ⟨7,xa,xb,xc,xk,xn,xr,xs⟩ rg ag rc ac (some ⟨X+1,0,none⟩)):=S2.out.below (by rw [hw3];exact hbelowN (Below.refl _ _) n3);clear hw3 S2 x0 x1 x2 x3 x4 x6 x7;have S2:=S3;clear S3;obtain ⟨x0,x1,x2,x3,x4,x6,x7⟩:=S2.out.cells;simp only at x0 x1 x2 x3 x4 x6 x7 hk0
  cases hat:s.at xa with
  | none =>
    have hw:s.want xa 3 true=1:=by unfold JSt.want;rw [hat]
    have E2:Hid (s.makes ⟨7,xa,xb,xc,xk,xn,xr,xs⟩=(1,[])):=by
      show _=_;rw [E.out];simp only [hat]
    rw [hw];clear E hw hat;go_wp2
    go_ret2;rw [E2.out];exact MkOut.nil S2.out.bel
  | some t =>
    by_cases hw:s.want xa 3 true=0
    · obtain ⟨k,rfl⟩:=Int.eq_ofNat_of_zero_le hk0.1;obtain ⟨-,ha0,hal,hti⟩:=at_mem hat;obtain ⟨i,rfl⟩:=Int.eq_ofNat_of_zero_le ha0;obtain ⟨pm,cm,a1,c1,a2,c2,a3,c3,hh,aL,cL,R⟩:=S2.out.known.read;obtain ⟨q0,q1,q2,q3,q4,q5,q6⟩:=R.cells;obtain ⟨gL,va,vc,rfl,v0,v1,v2,v3,hok⟩:=R.row i t (by simpa using hti);have HRW:Hid (TRd w3 (fun g=>¬ O g) (some ⟨gL,0,none⟩) s.L):=R.row;clear R q0 q1 q2 q3 q4 q5 v0 v1;have hlen:t.len=t.2.2.length:=rfl
      cases hu:t.2.2[k]? with
      | none =>
        have E2:Hid (s.makes ⟨7,(i:Int),xb,xc,(k:Int),xn,xr,xs⟩=(9,[])):=by
          show _=_;rw [E.out];simp only [hat,if_pos hw,Int.toNat_natCast,hu]
        have hge:(t.len:Int)≤k:=by rw [hlen];have:=List.getElem?_eq_none_iff.1 hu;omega
        rw [hw];clear E hw hat hu hlen hti;generalize t.len=tl at v2 hge;generalize hnl:s.L.length=nl at q6 hal hL80;go_wp2_with fail
        go_quiet (fail)
        go_wp2
        go_ret2;rw [E2.out];exact MkOut.nil (hbelowN S2.out.bel _)
      | some u =>
        have hlt:(k:Int)<t.len:=by rw [hlen];have:=(List.getElem?_eq_some_iff.1 hu).1;omega
        obtain ⟨gk,okk,ua,uc,rfl,-,u0,u1,u2,u3⟩:=v3 k u hu;have hua:u.ok:=hok.2 u (List.mem_of_getElem? hu);have HU:Hid (TIn w3 (fun g=>¬ O g) u ua∧u.ok):=⟨u3,hua⟩
        have HCU:Hid ((u.at 5).count≤100000):=by
          have h1:=check_count (S2.out.ok.types t (at_mem hat).1);have h2:=t.count_kid (List.mem_of_getElem? hu);have h3:=TT.at_count 5 u;show _≤_;omega
        have E2:Hid (s.makes ⟨7,(i:Int),xb,xc,(k:Int),xn,xr,xs⟩=(match s.at xb with | none=>(1,[]) | some v=>if bdec (u.at 5=v) then (0,[]) else (9,[]))):=by
          show _=_;rw [E.out];simp only [hat,if_pos hw,Int.toNat_natCast,hu]
        have hge:¬ (t.len:Int)≤k:=by omega
        rw [hw];clear E hw hat hu hlen hti v3 hok u3 hua;generalize t.len=tl at v2 hge hlt;generalize hnl:s.L.length=nl at q6 hal hL80;have HNL:Hid (s.L.length=nl):=hnl;clear hnl;go_wp2_with fail
        go_quiet (fail)
        have S4:=hid_of (S2.out.below (hbelowN (Below.refl _ _) nq));have b4:Below w3.heap.size w3 (w3.drewN nq):=hbelowN (Below.refl _ _) nq;have HU4:Hid (TIn (w3.drewN nq) (fun g=>¬ O g) u ua∧u.ok):=⟨HU.out.1.below b4,HU.out.2⟩;have HRW4:Hid (TRd (w3.drewN nq) (fun g=>¬ O g) (some ⟨gL,0,none⟩) s.L):=HRW.out.below b4;have q6':=stay q6 b4;have v2':=stay v2 b4;have u0':=stay u0 b4;have u1':=stay u1 b4;have u2':=stay u2 b4;clear b4;generalize w3.drewN nq=w4 at S4 HU4 HRW4 q6' v2' u0' u1' u2' ⊢;clear q6 v2 u0 u1 u2 HU HRW S2 x0 x1 x2 x3 x4 x6 x7;have S2:=S4;clear S4;obtain ⟨x0,x1,x2,x3,x4,x6,x7⟩:=S2.out.cells;simp only at x0 x1 x2 x3 x4 x6 x7
        go_upto_region 38 with fail
        refine kr38 S2 q6' v2' u0' u1' u2' hal hlt rfl rfl _ _ rfl (Nat.le_of_ble_eq_true (by kernel_rfl)) rfl rfl ?_;rintro ops vs w5 hv190 ⟨B,hv12,hB,hBb⟩ b5;show wpList _ ops _ [_] (puts _ vs [178,179,180,181,182,183,184,185,186,187,188,189,190,12]) w5;simp only [puts,Act.put,List.setIfInBounds_toArray,List.set_cons_zero,List.set_cons_succ,hv190,hv12];have B6:Hid (Blk (((w5.setCell ⟨B,0,none⟩ (.int .i64 u.kind)).setCell ⟨B,1,none⟩ (.int .i64 u.r)).setCell ⟨B,2,none⟩ (.slice ua u.len uc)) B #[.int .i64 u.kind,.int .i64 u.r,.slice ua u.len uc] 70):=Blk.set3 hBb _ _ _
        have b6:Hid (Below w4.heap.size w4 (((w5.setCell ⟨B,0,none⟩ (.int .i64 u.kind)).setCell ⟨B,1,none⟩ (.int .i64 u.r)).setCell ⟨B,2,none⟩ (.slice ua u.len uc))) :=
          ((b5.setCell (p:=⟨B,0,none⟩) hB _).setCell (p:=⟨B,1,none⟩) hB _).setCell (p:=⟨B,2,none⟩) hB _
        have e0:=cellOf hBb 0 _ rfl;have e1:=cellOf hBb 1 _ rfl;have e2:=cellOf hBb 2 _ rfl;have ef:∀ i,w5.frozen? ⟨B,i,none⟩=false:=fun i=>freeOf hBb i;clear hBb hB b5 hv190 hv12 q6' v2' u0' u1' u2';go_upto_region 39 with fail
        generalize (((w5.setCell ⟨B,0,none⟩ (.int .i64 u.kind)).setCell ⟨B,1,none⟩ (.int .i64 u.r)).setCell ⟨B,2,none⟩ (.slice ua u.len uc))=w6 at B6 b6 ⊢;have S6:=hid_of (S2.out.below b6.out);have HU6:Hid (TIn w6 (fun g=>¬ O g) u ua∧u.ok):=⟨HU4.out.1.below b6.out,HU4.out.2⟩;have HRW6:Hid (TRd w6 (fun g=>¬ O g) (some ⟨gL,0,none⟩) s.L):=HRW4.out.below b6.out;clear S2 HU4 HRW4 e0 e1 e2 ef x0 x1 x2 x3 x4 x6 x7;have S2:=S6;clear S6;obtain ⟨x0,x1,x2,x3,x4,x6,x7⟩:=S2.out.cells;simp only at x0 x1 x2 x3 x4 x6 x7
        have e0:=cellOf B6.out 0 _ rfl;have e1:=cellOf B6.out 1 _ rfl;have e2:=cellOf B6.out 2 _ rfl;have hhu:u.height≤5:=by have h9:u.height<5:=TT.height_lt u;omega
        rw [← TT.at_kind 5 u] at e0;rw [← TT.at_r 5 u] at e1;rw [← TT.at_len 5 u hhu] at e2;have HU5:Hid (TIn w6 (fun g=>¬ O g) (u.at 5) ua):=HU6.out.1.at 5 hhu;have HC5:Hid ((u.at 5).count≤100000):=HCU.out;obtain ⟨pm',cm',a1',c1',a2',c2',a3',c3',hh',aL',cL',R'⟩:=S2.out.known.read;obtain ⟨-,-,-,-,-,-,q6⟩:=R'.cells;have HRW7:Hid (TRd w6 (fun g=>¬ O g) aL' s.L):=R'.row;rw [HNL.out] at q6;clear R' HU6 HRW6 B6 hhu;generalize u.at 5=u6 at e0 e1 e2 HU5 HC5 E2;by_cases hb0:xb<0
        · have hb0':decide (xb<0)=true:=decide_eq_true hb0
          have E3:Hid (s.makes ⟨7,(i:Int),xb,xc,(k:Int),xn,xr,xs⟩=(1,[])):=by
            show _=_
            have:s.at xb=none:=by unfold JSt.at;rw [if_pos hb0]
            rw [E2.out,this]
          clear E2 hb0;go_wp2_with fail
          go_quiet (fail)
          go_wp2
          go_ret2;rw [E3.out];exact MkOut.nil (hbelowN S2.out.bel _)
        obtain ⟨j,rfl⟩:=Int.eq_ofNat_of_zero_le (show 0≤xb by omega);have hb0':decide ((j:Int)<0)=false:=decide_eq_false (by omega);by_cases hjn:j<nl
        · have hvj:s.L[j]?=some (s.L[j]'(by rw [HNL.out];exact hjn)):=List.getElem?_eq_getElem _;generalize s.L[j]'(by rw [HNL.out];exact hjn)=y at hvj;have hatb:s.at (j:Int)=some y:=by unfold JSt.at;rw [if_neg hb0];exact hvj
          have E3:Hid (s.makes ⟨7,(i:Int),(j:Int),xc,(k:Int),xn,xr,xs⟩=if bdec (u6=y) then (0,[]) else (9,[])):=by
            show _=_;rw [E2.out,hatb]
          obtain ⟨gY,ya,yc,rfl,v0,v1,v2,v3,-⟩:=HRW7.out j y hvj;have hjn':decide ((nl:Int)≤j)=false:=decide_eq_false (by omega);have hjn2:(j:Int)<nl:=by omega
          have HY:Hid (TIn w6 (fun g=>¬ O g) y ya):=v3;clear E2 hb0 hvj hatb v3 HRW7;go_wp2_with fail
          go_quiet (fail)
          have b7:Below w6.heap.size w6 (w6.drewN nq):=hbelowN (Below.refl _ _) nq;have S7:=hid_of (S2.out.below b7);have HU7:Hid (TIn (w6.drewN nq) (fun g=>¬ O g) u6 ua):=HU5.out.below b7;have HY7:Hid (TIn (w6.drewN nq) (fun g=>¬ O g) y ya):=HY.out.below b7;have q6':=stay q6 b7;have e0':=stay e0 b7;have e1':=stay e1 b7;have e2':=stay e2 b7;have v0':=stay v0 b7;have v1':=stay v1 b7;have v2':=stay v2 b7;clear b7 b6;generalize w6.drewN nq=w7 at S7 HU7 HY7 q6' e0' e1' e2' v0' v1' v2' ⊢;clear q6 e0 e1 e2 v0 v1 v2 S2 HU5 HY x0 x1 x2 x3 x4 x6 x7;have HQ:Hid (bdec (u6=y)=true ↔ u6=y):=bdec_iff;go_upto_region 43 with fail
          refine Code.wp_mono ?_ (kr43 S7 e0' e1' e2' q6' v0' v1' v2' hjn2 rfl HU7 HY7 HC5 HQ _ _ rfl (Nat.le_of_ble_eq_true (by kernel_rfl)) rfl rfl rfl);rintro ee aa w8 ⟨rfl,vs,rfl,hv,hb8⟩;simp only [puts,Act.put,List.setIfInBounds_toArray,List.set_cons_zero,List.set_cons_succ,hv];have B8:=hid_of (S7.out.below hb8).bel;clear hb8 hv HQ;generalize bdec (u6=y)=q at E3 ⊢
          cases q with
          | true =>
            go_wp2
            go_ret2;rw [E3.out];exact MkOut.nil B8.out
          | false =>
            go_wp2
            go_ret2;rw [E3.out];exact MkOut.nil B8.out
        · have E3:Hid (s.makes ⟨7,(i:Int),(j:Int),xc,(k:Int),xn,xr,xs⟩=(1,[])):=by
            show _=_
            have:s.at (j:Int)=none:=by unfold JSt.at;rw [if_neg hb0,Int.toNat_natCast,List.getElem?_eq_none (by rw [HNL.out];omega)]
            rw [E2.out,this]
          have hjn':decide ((nl:Int)≤j)=true:=decide_eq_true (by omega);clear E2 hb0;go_wp2_with fail
          go_quiet (fail)
          go_wp2
          go_ret2;rw [E3.out];exact MkOut.nil (hbelowN S2.out.bel _)
    · have hw':(s.want xa 3 true==0)=false:=beq_eq_false_iff_ne.2 hw
      have E2:Hid (s.makes ⟨7,xa,xb,xc,xk,xn,xr,xs⟩=(s.want xa 3 true,[])):=by
        show _=_;rw [E.out];simp only [hat,if_neg hw]
      have HW:=hid_of hw;clear E hat hw;generalize s.want xa 3 true=c at E2 hw' HW ⊢;go_wp2
      go_ret2;rw [E2.out];exact MkOut.nil S2.out.bel
structure Tup (wA wr : World) (B : Nat) (O : Nat → Prop) (r : Int) (v : Value) (l : List (TT 6)) : Prop where
  bel:Below wA.heap.size wA wr
  hB:wA.heap.size≤B
  box:Blk wr B #[.int .i64 3,.int .i64 r,v] 70
  row:∃ xs,wr.ownsRow (B+1) 70 3 v l.length xs∧∀ i x,l[i]?=some x→(Lay.tt 6).In wr (fun g=>¬ O g∧g<wA.heap.size) x ((xs.drop (i*3)).take 3)
section
variable {wA wr w' : World} {B : Nat} {O : Nat → Prop} {r : Int} {v : Value} {l : List (TT 6)}
theorem Tup.below (h : Tup wA wr B O r v l) (k : Below wr.heap.size wr w') : Tup wA w' B O r v l := by
  obtain ⟨h1,h2,h3,xs,⟨q1,q2⟩,h5⟩:=h;refine ⟨h1.trans (k.mono h1.size),h2,(k.block B (lt_of_block h3)).trans h3,xs,⟨q1,?_⟩,fun i x hx=>Lay.below (h5 i x hx) k⟩;rcases q2 with h4 | ⟨g,cap,cur,rfl,hg,hh,q⟩
  · exact Or.inl h4
  · exact Or.inr ⟨g,cap,cur,rfl,hg,(k.block g (lt_of_block hh)).trans hh,q⟩
theorem Tup.form (h : Tup wA wr B O r v l) : ∃ a c xs, v = .slice a l.length c ∧ wr.ownsRow (B + 1) 70 3 (.slice a l.length c) l.length xs ∧ (∀ i x, l[i]? = some x → (Lay.tt 6).In wr (fun g => ¬ O g ∧ g < wA.heap.size) x ((xs.drop (i * 3)).take 3)) ∧ wr.cell? ⟨B, 2, none⟩ = some (.slice a l.length c) := by
  obtain ⟨h1,h2,h3,xs,h4,h5⟩:=h;obtain ⟨q1,q2⟩:=id h4;rcases q2 with ⟨rfl,h6⟩ | ⟨g,cap,cur,rfl,hg,hh,q⟩
  · refine ⟨none,0,xs,by rw [h6],by rw [h6] at h4 ⊢;exact h4,h5,?_⟩;rw [cellOf h3 2 _ rfl,h6];rfl
  · exact ⟨some ⟨g,0,none⟩,cap,xs,rfl,h4,h5,cellOf h3 2 _ rfl⟩
theorem Tup.tree (h : Tup wA wr B O r v l) (hO : ∀ k, O k → k < wA.heap.size) : ∃ a c, v = .slice a l.length c ∧ TIn wr (fun g => ¬ O g) (mkT 3 r l : TT 7) a ∧ ∀ x ∈ l, x.ok := by
  obtain ⟨a,c,xs,rfl,h4,h5,-⟩:=h.form;refine ⟨a,c,rfl,fun i x hx=>?_,fun x hx=>?_⟩
  · obtain ⟨q1,q2⟩:=h4;have hi:i<l.length:=(List.getElem?_eq_some_iff.1 hx).1;rcases q2 with ⟨_,h6⟩ | ⟨g,cap,cur,e,hg,hh,hn,hm,hs,ht⟩
    · omega
    · obtain ⟨a',c',e',k1,k2⟩:=h5 i x hx;have hB:=h.hB
      have hc:∀ j u,j<3→((xs.drop (i*3)).take 3)[j]?=some u→wr.cell? ⟨g,i*3+j,none⟩=some u:=fun j u hj hu=>by
        rw [List.getElem?_take,if_pos hj,List.getElem?_drop,← ht,List.getElem?_take,if_pos (by omega),Array.getElem?_toList] at hu;exact cellOf hh _ u hu
      rw [e'] at hc;simp only [Value.slice.injEq] at e;refine ⟨g,0,a',c',e.1,fun ho=>by have:=hO g ho;omega,?_,?_,?_,k1.mono (fun k hk _=>hk.1)⟩
      · rw [Nat.zero_add];exact hc 0 _ (by omega) rfl
      · rw [Nat.zero_add];exact hc 1 _ (by omega) rfl
      · rw [Nat.zero_add];exact hc 2 _ (by omega) rfl
  · obtain ⟨i,hi⟩:=List.getElem?_of_mem hx;obtain ⟨a',c',e',k1,k2⟩:=h5 i x hi;exact k2
theorem Tup.push {a : Option Addr} {c g cap : Nat} {xs : List Value} {w9 : World} {t : TT 6} {ta : Option Addr} {tc : Nat} (hbel : Below wA.heap.size wA wr) (hB : wA.heap.size ≤ B) (hbox : Blk wr B #[.int .i64 3, .int .i64 r, .slice a l.length c] 70)
    (hkids:∀ i x,l[i]?=some x→(Lay.tt 6).In wr (fun g=>¬ O g∧g<wA.heap.size) x ((xs.drop (i*3)).take 3)) (hlen:xs.length=l.length*3) (ht:TIn wr (fun g=>¬ O g∧g<wA.heap.size) t ta) (hok:t.ok) (hown:∀ k,(Value.slice a l.length c).ownBlock=some k→B+1≤k)
    (h1:w9.ownsRow (B+1) 70 3 (.slice (some ⟨g,0,none⟩) (l.length+1) cap) (l.length+1) (xs++[.int .i64 t.kind,.int .i64 t.r,.slice ta t.len tc])) (h2:wr.grownBy w9 (Value.slice a l.length c).ownBlock) :
    w9.cell? ⟨B,2,none⟩=some (.slice a l.length c)∧w9.frozen? ⟨B,2,none⟩=false∧Tup wA (w9.setCell ⟨B,2,none⟩ (.slice (some ⟨g,0,none⟩) (l.length+1) cap)) B O r (.slice (some ⟨g,0,none⟩) (l.length+1) cap) (l++[t]):=by
  have hBl:B<wr.heap.size:=lt_of_block hbox;have kb:w9.heap[B]?=some (.cells #[.int .i64 3,.int .i64 r,.slice a l.length c] 70 (0,0)):=(h2.block B hBl (fun e=>by have:=hown B e.symm;omega)).trans hbox
  have keep9:∀ {x:TT 6} {cs:List Value},(Lay.tt 6).In wr (fun g=>¬ O g∧g<wA.heap.size) x cs→(Lay.tt 6).In (w9.setCell ⟨B,2,none⟩ (.slice (some ⟨g,0,none⟩) (l.length+1) cap)) (fun g=>¬ O g∧g<wA.heap.size) x cs:=fun {x cs} hx =>
    (Lay.tt 6).keep (fun k hk hl=>(Below.heap_setCell _ _ _ _ (show k≠B by have:=hk.2;omega)).trans (h2.block k hl (fun e=>by have:=hown k e.symm;have:=hk.2;omega))) (fun _ hk _=>hk) hx
  refine ⟨cellOf kb 2 _ rfl,freeOf kb 2,?_,hB,?_,xs++[.int .i64 t.kind,.int .i64 t.r,.slice ta t.len tc],?_,?_⟩
  · refine ⟨h2.os.trans hbel.os,h2.tape.trans hbel.tape,h2.output.trans hbel.output,by have:=h2.size;have:=hbel.size;simp;omega,fun k hk=>?_⟩;have hbs:=hbel.size;rw [Below.heap_setCell _ _ _ _ (show k≠B by omega),h2.block k (by omega) (fun e=>by have:=hown k e.symm;omega)];exact hbel.block k hk
  · show (w9.setCell ⟨B,2,none⟩ _).heap[B]?=_;rw [blockSet kb];rfl
  · obtain ⟨q1,q2⟩:=h1;rw [List.length_append];refine ⟨q1,?_⟩;rcases q2 with ⟨e,_⟩ | ⟨g',cap',cur,e,hg,hh,q⟩
    · cases e
    · cases e
      exact Or.inr ⟨g,cap,cur,rfl,hg,(Below.heap_setCell _ _ _ _ (show g≠B by omega)).trans hh,q⟩
  · intro i x hx;rw [List.getElem?_append] at hx;split at hx
    · rename_i hi
      rw [List.drop_append_of_le_length (by omega),List.take_append_of_le_length (by simp;omega)];exact keep9 (hkids i x hx)
    · rename_i hi
      have hil:=(List.getElem?_eq_some_iff.1 hx).1;have hi2:i=l.length:=by simp at hil;omega
      subst hi2;rw [Nat.sub_self] at hx;have hx:t=x:=by simpa using hx
      subst hx;rw [List.drop_append,List.drop_of_length_le (by omega),hlen,Nat.sub_self,List.drop_zero,List.nil_append];exact keep9 ⟨ta,tc,rfl,ht,hok⟩
end
theorem fields_step {s : JSt} {l : List Int} {k : Nat} {x : Int} (hx : l[k]? = some x) : s.fields (l.drop k) = match s.at x with
    | none=>none
    | some t=>match s.fields (l.drop (k+1)) with
      | none=>none
      | some r=>some (t::r):=by
  obtain ⟨hk,e⟩:=List.getElem?_eq_some_iff.1 hx;rw [List.drop_eq_getElem_cons hk,e,JSt.fields]
  cases s.at x with
  | none=>rfl
  | some t=>cases s.fields (l.drop (k+1)) <;> rfl
theorem fields_all {s : JSt} {l : List Int} : ∀ (k : Nat) (ts : List (TT 6)), k ≤ l.length → ts.length = k → (∀ (i : Nat) (x : Int), l[i]? = some x → i < k → s.at x = ts[i]?) → s.fields l = (s.fields (l.drop k)).map (ts ++ ·)
  | 0,ts,_,h,_=>by
    have:ts=[]:=List.length_eq_zero_iff.1 h
    subst this;simp
  | k+1,ts,hk,h,hs=>by
    have hk':k<l.length:=by omega
    have hx:l[k]?=some l[k]:=List.getElem?_eq_getElem hk';have ht:ts[k]?=some (ts[k]'(by omega)):=List.getElem?_eq_getElem _;have ih:=fields_all (s:=s) (l:=l) k (ts.take k) (by omega) (by rw [List.length_take];omega) (fun i x hi hik=>by rw [hs i x hi (by omega),List.getElem?_take,if_pos hik]);rw [ih,fields_step hx,hs k _ hx (by omega),ht];simp only
    cases s.fields (l.drop (k+1)) with
    | none=>rfl
    | some r =>
      simp only [Option.map_some];congr 1
      have:ts=ts.take k++[ts[k]'(by omega)]:=by
        have h1:=List.take_append_drop k ts;rw [List.drop_eq_getElem_cons (by omega),List.drop_of_length_le (by omega)] at h1;exact h1.symm
      rw [← List.singleton_append,← List.append_assoc,← this]
def kr21E (w2 : World) (b X gL nl cL i : Nat) (r : Int) (t : Tmp) (v : Value) (w : World) : Prop :=
  match ([(9,fun v w=>∃ B,v=.pointer (some ⟨B,0,none⟩)∧w2.heap.size≤B∧Blk w B #[.int .i64 0,.int .i64 0,.slice none 0 0] 70)]:List (Tmp × (Value→World→Prop))).lookup t with
  | some p=>p v w
  | none=>v=(([(0,.pointer (some ⟨b,0,none⟩)),(3,.pointer (some ⟨X,0,none⟩)),(98,.pointer (some ⟨b,0,none⟩)),(99,.pointer (some ⟨b,0,none⟩)),(100,.pointer (some ⟨b,6,none⟩)),(101,.slice (some ⟨gL,0,none⟩) nl cL),(102,.pointer (some ⟨X,1,none⟩)),(103,.int .i64 (i:Int)),(104,.pointer (some ⟨gL,i*3,none⟩)),(105,.pointer (some ⟨gL,i*3+1,none⟩)),(106,.int .i64 r),(107,.agg #[.int .i64 3,.int .i64 r,.slice none 0 0])]:List (Tmp × Value)).lookup t).getD undef
theorem kr21 {w w2 : World} {b X : Nat} {O : Nat → Prop} {s : JSt} {x : MIns} {rg ag : Option Addr} {rc ac : Nat} {na : Option Addr} (HS : Hid (MkS w w2 b X O s x rg ag rc ac na)) {gL nl cL i : Nat} {r : Int} (y0 : w2.cell? ⟨b, 6, none⟩ = some (.slice (some ⟨gL, 0, none⟩) nl cL)) (v1 : w2.cell? ⟨gL, i * 3 + 1, none⟩ = some (.int .i64 r)) (hin : (i : Int) < nl) (hxa : x.a = (i : Int)) {Q : Exit → Act → World → Prop}
    (a:Act) (m:Nat) (hn:a.tmps.size=m) (hn':365≤m) (h0:a.tmps.getD 0 undef=.pointer (some ⟨b,0,none⟩)) (h3:a.tmps.getD 3 undef=.pointer (some ⟨X,0,none⟩))
    (hend:∀ ops vs w',vs 107=.agg #[.int .i64 3,.int .i64 r,.slice none 0 0]→(fun v w=>∃ B,v=.pointer (some ⟨B,0,none⟩)∧w2.heap.size≤B∧Blk w B #[.int .i64 0,.int .i64 0,.slice none 0 0] 70) (vs 9) w'→Below w2.heap.size w2 w'→wpList Tryz.prog ops Q (hTail 11 ((Tryz.f81.body.bind (hRegionOf 21)).getD .skip)) (puts a vs [98,99,100,101,102,103,104,105,106,107,9]) w') :
    Code.wp Tryz.prog ((Tryz.f81.body.bind (hRegionOf 21)).getD .skip) Q a w2:=by
  conv=>arg 2;whnf
  refine wp_region_calm_tailT 11 (kr21E w2 b X gL nl cL i r) (fun w=>Below w2.heap.size w2 w) (fun w w'=>Below w.heap.size w w') (outs:=[0,3]) (gs:=[]) (bs:=[true,true,true,true,true,true,true,true,true,true,true]) (by kernel_rfl) (n:=365) hn hn' (by kernel_rfl) (by kernel_rfl) ?hR ?hG (hbelowN (Below.refl _ _) 1) ⟨h0,h3,trivial⟩ ?hA ?hend
  case hR =>
    intro t v w w' hr h;unfold kr21E at h ⊢;split at h
    · rename_i p hp
      simp only [List.lookup_cons,List.lookup_nil] at hp;split at hp
      · cases hp;exact (by obtain ⟨B,e,h1,h2⟩:=h;exact ⟨B,e,h1,(hr.block B (lt_of_block h2)).trans h2⟩)
      · cases hp
    · exact h
  case hG=>exact trivial
  case hend=>exact fun ops vs w' hW hk=>hend ops vs w' (hk 107 (by kernel_rfl)) (hk 9 (by kernel_rfl)) hW
  case hA =>
    refine ⟨fun a w hW hk K hK=>?_,?_⟩
    · obtain ⟨k0,-⟩:=hk;have k0:a.tmps.getD 0 undef=.pointer (some ⟨b,0,none⟩):=k0;go_simp;exact hK _ _ (Below.refl _ _) hW rfl
    refine ⟨fun a w hW hk K hK=>?_,?_⟩
    · obtain ⟨k0,-⟩:=hk;have k0:a.tmps.getD 98 undef=.pointer (some ⟨b,0,none⟩):=k0;go_simp;exact hK _ _ (Below.refl _ _) hW rfl
    refine ⟨fun a w hW hk K hK=>?_,?_⟩
    · obtain ⟨k0,-⟩:=hk;have k0:a.tmps.getD 99 undef=.pointer (some ⟨b,0,none⟩):=k0;go_simp;exact hK _ _ (Below.refl _ _) hW rfl
    refine ⟨fun a w hW hk K hK=>?_,?_⟩
    · obtain ⟨k0,-⟩:=hk;have k0:a.tmps.getD 100 undef=.pointer (some ⟨b,6,none⟩):=k0;have c0:=stay y0 hW;go_simp;exact hK _ _ (Below.refl _ _) hW rfl
    refine ⟨fun a w hW hk K hK=>?_,?_⟩
    · obtain ⟨k0,-⟩:=hk;have k0:a.tmps.getD 3 undef=.pointer (some ⟨X,0,none⟩):=k0;go_simp;exact hK _ _ (Below.refl _ _) hW rfl
    refine ⟨fun a w hW hk K hK=>?_,?_⟩
    · obtain ⟨k0,-⟩:=hk;have k0:a.tmps.getD 102 undef=.pointer (some ⟨X,1,none⟩):=k0;have c0:=(HS.out.below hW).cells.2.1;rw [hxa] at c0;go_simp;exact hK _ _ (Below.refl _ _) hW rfl
    refine ⟨fun a w hW hk K hK=>?_,?_⟩
    · obtain ⟨k0,k1,-⟩:=hk;have k0:a.tmps.getD 101 undef=.slice (some ⟨gL,0,none⟩) nl cL:=k0;have k1:a.tmps.getD 103 undef=.int .i64 (i:Int):=k1;go_simp;exact hK _ _ (Below.refl _ _) hW rfl
    refine ⟨fun a w hW hk K hK=>?_,?_⟩
    · obtain ⟨k0,-⟩:=hk;have k0:a.tmps.getD 104 undef=.pointer (some ⟨gL,i*3,none⟩):=k0;go_simp;exact hK _ _ (Below.refl _ _) hW rfl
    refine ⟨fun a w hW hk K hK=>?_,?_⟩
    · obtain ⟨k0,-⟩:=hk;have k0:a.tmps.getD 105 undef=.pointer (some ⟨gL,i*3+1,none⟩):=k0;have c0:=stay v1 hW;go_simp;exact hK _ _ (Below.refl _ _) hW rfl
    refine ⟨fun a w hW hk K hK=>?_,?_⟩
    · obtain ⟨k0,-⟩:=hk;have k0:a.tmps.getD 106 undef=.int .i64 r:=k0;simp only [Array.getD_eq_getD_getElem?] at k0;go_simp;exact hK _ _ (Below.refl _ _) hW rfl
    refine ⟨fun a w hW hk K hK=>?_,?_⟩
    · clear hk;go_simp;exact hK _ _ (bel1 _ _) (hW.alloc hW.size _) ⟨_,rfl,hW.size,blockNew _ _ _⟩
    trivial
def kr27E (w2 : World) (b X B tn tc gL nl cL lg lo N lc k j uc : Nat) (u : TT 6) (ta ua : Option Addr) (t : Tmp) (v : Value) (w : World) : Prop :=
  match ([(147,fun v w=>∃ G,v=.slice (some ⟨G,0,none⟩) 1 1∧w2.heap.size≤G∧Blk w G #[.int .i64 u.kind,.int .i64 u.r,.slice ua u.len uc] 70)]:List (Tmp × (Value→World→Prop))).lookup t with
  | some p=>p v w
  | none=>v=(([(0,.pointer (some ⟨b,0,none⟩)),(3,.pointer (some ⟨X,0,none⟩)),(9,.pointer (some ⟨B,0,none⟩)),(10,.int .i64 (k:Int)),(134,.pointer (some ⟨B,2,none⟩)),(135,.slice ta tn tc),(136,.pointer (some ⟨b,0,none⟩)),(137,.pointer (some ⟨b,0,none⟩)),(138,.pointer (some ⟨b,6,none⟩)),(139,.slice (some ⟨gL,0,none⟩) nl cL),(140,.pointer (some ⟨X,7,none⟩)),(141,.slice (some ⟨lg,lo,none⟩) N lc),(142,.int .i64 (k:Int)),(143,.pointer (some ⟨lg,lo+k,none⟩)),(144,.int .i64 (j:Int)),(145,.pointer (some ⟨gL,j*3,none⟩)),(146,.agg #[.int .i64 u.kind,.int .i64 u.r,.slice ua u.len uc])]:List (Tmp × Value)).lookup t).getD undef
theorem kr27 {w2 : World} {b X B tn tc gL nl cL lg lo N lc k j uc : Nat} {u : TT 6} {ta ua : Option Addr} (t2 : w2.cell? ⟨B, 2, none⟩ = some (.slice ta tn tc)) (y0 : w2.cell? ⟨b, 6, none⟩ = some (.slice (some ⟨gL, 0, none⟩) nl cL)) (l7 : w2.cell? ⟨X, 7, none⟩ = some (.slice (some ⟨lg, lo, none⟩) N lc)) (z0 : w2.cell? ⟨lg, lo + k, none⟩ = some (.int .i64 (j : Int))) (v0 : w2.cell? ⟨gL, j * 3, none⟩ = some (.int .i64 u.kind)) (v1 : w2.cell? ⟨gL, j * 3 + 1, none⟩ = some (.int .i64 u.r)) (v2 : w2.cell? ⟨gL, j * 3 + 2, none⟩ = some (.slice ua u.len uc)) (hkN : (k : Int) < N) (hjn : (j : Int) < nl) {Q : Exit → Act → World → Prop}
    (a:Act) (m:Nat) (hn:a.tmps.size=m) (hn':365≤m) (h0:a.tmps.getD 0 undef=.pointer (some ⟨b,0,none⟩)) (h3:a.tmps.getD 3 undef=.pointer (some ⟨X,0,none⟩)) (h9:a.tmps.getD 9 undef=.pointer (some ⟨B,0,none⟩)) (h10:a.tmps.getD 10 undef=.int .i64 (k:Int))
    (hend:∀ ops vs w',vs 135=.slice ta tn tc→(fun v w=>∃ G,v=.slice (some ⟨G,0,none⟩) 1 1∧w2.heap.size≤G∧Blk w G #[.int .i64 u.kind,.int .i64 u.r,.slice ua u.len uc] 70) (vs 147) w'→Below w2.heap.size w2 w'→wpList Tryz.prog ops Q (hTail 14 ((Tryz.f81.body.bind (hRegionOf 27)).getD .skip)) (puts a vs [134,135,136,137,138,139,140,141,142,143,144,145,146,147]) w') :
    Code.wp Tryz.prog ((Tryz.f81.body.bind (hRegionOf 27)).getD .skip) Q a w2:=by
  conv=>arg 2;whnf
  refine wp_region_calm_tailT 14 (kr27E w2 b X B tn tc gL nl cL lg lo N lc k j uc u ta ua) (fun w=>Below w2.heap.size w2 w) (fun w w'=>Below w.heap.size w w') (outs:=[0,3,9,10]) (gs:=[]) (bs:=[true,true,true,true,true,true,true,true,true,true,true,true,true,true]) (by kernel_rfl) (n:=365) hn hn' (by kernel_rfl) (by kernel_rfl) ?hR ?hG (hbelowN (Below.refl _ _) 1) ⟨h0,h3,h9,h10,trivial⟩ ?hA ?hend
  case hR =>
    intro t v w w' hr h;unfold kr27E at h ⊢;split at h
    · rename_i p hp
      simp only [List.lookup_cons,List.lookup_nil] at hp;split at hp
      · cases hp;exact (by obtain ⟨G,e,h1,h2⟩:=h;exact ⟨G,e,h1,(hr.block G (lt_of_block h2)).trans h2⟩)
      · cases hp
    · exact h
  case hG=>exact trivial
  case hend=>exact fun ops vs w' hW hk=>hend ops vs w' (hk 135 (by kernel_rfl)) (hk 147 (by kernel_rfl)) hW
  case hA =>
    refine ⟨fun a w hW hk K hK=>?_,?_⟩
    · obtain ⟨k0,-⟩:=hk;have k0:a.tmps.getD 9 undef=.pointer (some ⟨B,0,none⟩):=k0;go_simp;exact hK _ _ (Below.refl _ _) hW rfl
    refine ⟨fun a w hW hk K hK=>?_,?_⟩
    · obtain ⟨k0,-⟩:=hk;have k0:a.tmps.getD 134 undef=.pointer (some ⟨B,2,none⟩):=k0;have c0:=stay t2 hW;go_simp;exact hK _ _ (Below.refl _ _) hW rfl
    refine ⟨fun a w hW hk K hK=>?_,?_⟩
    · obtain ⟨k0,-⟩:=hk;have k0:a.tmps.getD 0 undef=.pointer (some ⟨b,0,none⟩):=k0;go_simp;exact hK _ _ (Below.refl _ _) hW rfl
    refine ⟨fun a w hW hk K hK=>?_,?_⟩
    · obtain ⟨k0,-⟩:=hk;have k0:a.tmps.getD 136 undef=.pointer (some ⟨b,0,none⟩):=k0;go_simp;exact hK _ _ (Below.refl _ _) hW rfl
    refine ⟨fun a w hW hk K hK=>?_,?_⟩
    · obtain ⟨k0,-⟩:=hk;have k0:a.tmps.getD 137 undef=.pointer (some ⟨b,0,none⟩):=k0;go_simp;exact hK _ _ (Below.refl _ _) hW rfl
    refine ⟨fun a w hW hk K hK=>?_,?_⟩
    · obtain ⟨k0,-⟩:=hk;have k0:a.tmps.getD 138 undef=.pointer (some ⟨b,6,none⟩):=k0;have c0:=stay y0 hW;go_simp;exact hK _ _ (Below.refl _ _) hW rfl
    refine ⟨fun a w hW hk K hK=>?_,?_⟩
    · obtain ⟨k0,-⟩:=hk;have k0:a.tmps.getD 3 undef=.pointer (some ⟨X,0,none⟩):=k0;go_simp;exact hK _ _ (Below.refl _ _) hW rfl
    refine ⟨fun a w hW hk K hK=>?_,?_⟩
    · obtain ⟨k0,-⟩:=hk;have k0:a.tmps.getD 140 undef=.pointer (some ⟨X,7,none⟩):=k0;have c0:=stay l7 hW;go_simp;exact hK _ _ (Below.refl _ _) hW rfl
    refine ⟨fun a w hW hk K hK=>?_,?_⟩
    · obtain ⟨k0,-⟩:=hk;have k0:a.tmps.getD 10 undef=.int .i64 (k:Int):=k0;go_simp;exact hK _ _ (Below.refl _ _) hW rfl
    refine ⟨fun a w hW hk K hK=>?_,?_⟩
    · obtain ⟨k0,k1,-⟩:=hk;have k0:a.tmps.getD 141 undef=.slice (some ⟨lg,lo,none⟩) N lc:=k0;have k1:a.tmps.getD 142 undef=.int .i64 (k:Int):=k1;go_simp;exact hK _ _ (Below.refl _ _) hW rfl
    refine ⟨fun a w hW hk K hK=>?_,?_⟩
    · obtain ⟨k0,-⟩:=hk;have k0:a.tmps.getD 143 undef=.pointer (some ⟨lg,lo+k,none⟩):=k0;have c0:=stay z0 hW;go_simp;exact hK _ _ (Below.refl _ _) hW rfl
    refine ⟨fun a w hW hk K hK=>?_,?_⟩
    · obtain ⟨k0,k1,-⟩:=hk;have k0:a.tmps.getD 139 undef=.slice (some ⟨gL,0,none⟩) nl cL:=k0;have k1:a.tmps.getD 144 undef=.int .i64 (j:Int):=k1;go_simp;exact hK _ _ (Below.refl _ _) hW rfl
    refine ⟨fun a w hW hk K hK=>?_,?_⟩
    · obtain ⟨k0,-⟩:=hk;have k0:a.tmps.getD 145 undef=.pointer (some ⟨gL,j*3,none⟩):=k0;have c0:=stay v0 hW;have c1:=stay v1 hW;have c2:=stay v2 hW;go_simp;exact hK _ _ (Below.refl _ _) hW rfl
    refine ⟨fun a w hW hk K hK=>?_,?_⟩
    · obtain ⟨k0,-⟩:=hk;have k0:a.tmps.getD 146 undef=.agg #[.int .i64 u.kind,.int .i64 u.r,.slice ua u.len uc]:=k0;simp only [Array.getD_eq_getD_getElem?] at k0;go_simp;exact hK _ _ (bel1 _ _) (hW.alloc hW.size _) ⟨_,rfl,hW.size,blockNew _ _ _⟩
    trivial
theorem kmakes_tuple {w : World} {b : Nat} {O : Nat → Prop} {s : JSt} {x : MIns} {rg ag : Option Addr} {rc ac : Nat} (hO : ∀ k, O k → k < w.heap.size) (hJ : JOk s) (h : KAt w b O s) {QA : Nat → Prop} (hargs : intsL.In w QA x.args [.slice ag x.args.length ac]) (hal8 : x.args.length ≤ 8) (hop : x.op = 5) :
    Calls Tryz.prog 81 #[.pointer (some ⟨b,0,none⟩),insV x rg ag rc ac] w fun e w'=>MkOut w O (s.makes x).1 (s.makes x).2 e w':=by
  have HARGS:=hid_of hargs;clear hargs
  have E:Hid (s.makes x=(match s.at x.a with
    | none=>(1,[])
    | some t=>if s.want x.a 2 true=0 then (match s.fields x.args with
        | none=>(1,[])
        | some l=>if 4<TT.height (n:=7) (mkT 3 t.r l) then (19,[]) else (0,[TT.at (n:=7) 5 (mkT 3 t.r l)]))
      else (s.want x.a 2 true,[]))):=makes_tuple hop
  have S0:=hid_of (MkS.start x rg ag rc ac hO hJ h);obtain ⟨xop,xa,xb,xc,xk,xn,xr,xs⟩:=x;simp only at hop
  subst hop;clear h;go_enter Tryz.func81,Tryz.ntmps81
  go_upto_region 18 with fail
  obtain ⟨w2,hw2⟩:∃ w2,(w.alloc (.cells #[.int .i64 5,.int .i64 xa,.int .i64 xb,.int .i64 xc,.int .i64 xk,.int .i64 xn,.slice rg xr.length rc,.slice ag xs.length ac] 46)).alloc (.cells #[.int .i64 1,.int .i64 0,.slice none 0 0] 70)=w2:=⟨_,rfl⟩;obtain ⟨X,hX⟩:∃ X,w.heap.size=X:=⟨_,rfl⟩;have S2:Hid (MkS w w2 b X O s ⟨5,xa,xb,xc,xk,xn,xr,xs⟩ rg ag rc ac (some ⟨X+1,0,none⟩)):=by rw [← hw2,← hX];exact S0.out
  rw [hw2,hX];clear hw2 hX S0;obtain ⟨x0,x1,x2,x3,x4,x6,x7⟩:=S2.out.cells;have hH16:=S2.out.ok.regs;have hL80:=S2.out.ok.vals;simp only at x0 x1 x2 x3 x4 x6 x7 hal8
  have HA2:Hid (intsL.In w2 QA xs [.slice ag xs.length ac]):=Lay.below HARGS.out S2.out.bel;clear HARGS;go_wp2_with fail
  refine (kwant_any xa 2 true S2.out.ok.regs S2.out.ok.vals S2.out.known).mono ?_;rintro e w3 ⟨rfl,n3,hw3⟩;have hb3:Below w2.heap.size w2 w3:=by rw [hw3];exact hbelowN (Below.refl _ _) n3
  have S3:Hid (MkS w w3 b X O s ⟨5,xa,xb,xc,xk,xn,xr,xs⟩ rg ag rc ac (some ⟨X+1,0,none⟩)):=S2.out.below hb3;have HA:Hid (intsL.In w3 QA xs [.slice ag xs.length ac]):=Lay.below HA2.out hb3;clear hw3 hb3 S2 HA2 x0 x1 x2 x3 x4 x6 x7;have S2:=S3;clear S3
  cases hat:s.at xa with
  | none =>
    have hw:s.want xa 2 true=1:=by unfold JSt.want;rw [hat]
    have E2:Hid (s.makes ⟨5,xa,xb,xc,xk,xn,xr,xs⟩=(1,[])):=by
      show _=_;rw [E.out];simp only [hat]
    rw [hw];clear E hw hat;go_wp2
    go_ret2;rw [E2.out];exact MkOut.nil S2.out.bel
  | some t =>
    by_cases hw:s.want xa 2 true=0
    · obtain ⟨-,ha0,hal,hti⟩:=at_mem hat;obtain ⟨i,rfl⟩:=Int.eq_ofNat_of_zero_le ha0;obtain ⟨pm,cm,a1,c1,a2,c2,a3,c3,hh,aL,cL,R⟩:=S2.out.known.read;obtain ⟨-,-,-,-,-,-,q6⟩:=R.cells;obtain ⟨gL,va,vc,rfl,-,v1,-,-,hok⟩:=R.row i t (by simpa using hti);have HRW:Hid (TRd w3 (fun g=>¬ O g) (some ⟨gL,0,none⟩) s.L):=R.row;have HTR:Hid (-9223372036854775808≤t.r∧t.r≤9223372036854775807):=hok.1
      have E2:Hid (s.makes ⟨5,(i:Int),xb,xc,xk,xn,xr,xs⟩=(match s.fields xs with | none=>(1,[]) | some l=>if 4<TT.height (n:=7) (mkT 3 t.r l) then (19,[]) else (0,[TT.at (n:=7) 5 (mkT 3 t.r l)]))):=by
        show _=_;rw [E.out];simp only [hat,if_pos hw]
      rw [hw];clear E hw hat hti R hok;generalize hnl:s.L.length=nl at q6 hal hL80;have HNL:Hid (s.L.length=nl):=hnl;generalize t.r=r at v1 E2 HTR;clear hnl;go_upto_region 21 with fail
      refine kr21 S2 q6 v1 hal rfl _ _ rfl (Nat.le_of_ble_eq_true (by kernel_rfl)) rfl rfl ?_;rintro ops vs w5 hv107 ⟨B,hv9,hB,hBb⟩ b5;show wpList _ ops _ [_] (puts _ vs [98,99,100,101,102,103,104,105,106,107,9]) w5;simp only [puts,Act.put,List.setIfInBounds_toArray,List.set_cons_zero,List.set_cons_succ,hv107,hv9]
      have T6:Hid (Tup w3 (((w5.setCell ⟨B,0,none⟩ (.int .i64 3)).setCell ⟨B,1,none⟩ (.int .i64 r)).setCell ⟨B,2,none⟩ (.slice none 0 0)) B O r (.slice none 0 0) []) :=
        ⟨((b5.setCell (p:=⟨B,0,none⟩) hB _).setCell (p:=⟨B,1,none⟩) hB _).setCell (p:=⟨B,2,none⟩) hB _,hB,Blk.set3 hBb _ _ _,[],⟨rfl,Or.inl ⟨rfl,rfl⟩⟩,fun i x hx=>by simp at hx⟩
      have e0:=cellOf hBb 0 _ rfl;have e1:=cellOf hBb 1 _ rfl;have e2:=cellOf hBb 2 _ rfl;have ef:∀ i,w5.frozen? ⟨B,i,none⟩=false:=fun i=>freeOf hBb i;clear hBb hB b5 hv107 hv9 v1;go_upto_region 22 with fail
      generalize (((w5.setCell ⟨B,0,none⟩ (.int .i64 3)).setCell ⟨B,1,none⟩ (.int .i64 r)).setCell ⟨B,2,none⟩ (.slice none 0 0))=w6 at T6 ⊢;clear e0 e1 e2 ef;have HXL:Hid (xs.length≤8):=hal8;go_wp2_with fail
      go_loopw [10] (fun u wr=>∃ k v l,u=.int .i64 (k:Nat)∧k≤xs.length∧Tup w3 wr B O r v l∧l.length=k∧∀ (i:Nat) (x:Int),xs[i]?=some x→i<k→s.at x=l[i]?) (fun u _=>xs.length - (intOf u).toNat)
      case atStart=>exact ⟨0,_,[],rfl,Nat.zero_le _,T6.out,rfl,fun i x _ h=>by omega⟩
      case round =>
        obtain ⟨k,v,l,rfl,hk,hT,hl,hat⟩:=hrel;have HT:Hid (Tup w3 wr B O r v l):=hT;have HLK:Hid (l.length=k):=hl;have HAT:=hid_of hat;have S7:=hid_of (S2.out.below hT.bel);have q6':=stay q6 hT.bel;have HRW7:Hid (TRd wr (fun g=>¬ O g) (some ⟨gL,0,none⟩) s.L):=HRW.out.below hT.bel;have HA7:Hid (intsL.In wr QA xs [.slice ag xs.length ac]):=Lay.below HA.out hT.bel;have HSZ:Hid (w3.heap.size≤wr.heap.size):=hT.bel.size;clear hT hl hat T6;obtain ⟨x0,x1,x2,x3,x4,x6,x7⟩:=S7.out.cells;simp only at x0 x1 x2 x3 x4 x6 x7
        by_cases hlt:k<xs.length
        · have hxi:xs[k]?=some xs[k]:=List.getElem?_eq_getElem hlt;obtain ⟨lg,lo,rfl,-,-,z0⟩:=ints_at HA7.out hlt;have ex:xs.getD k 0=xs[k]:=by simp [List.getD,hlt]
          rw [ex] at z0;generalize xs[k]=y at hxi z0;have hkN:(k:Int)<xs.length:=by omega
          have hk0:(0:Int)≤k:=by omega
          have HF:=hid_of (fields_all (s:=s) (l:=xs) k l hk HLK.out HAT.out);have HST:=hid_of (fields_step (s:=s) hxi);clear ex;by_cases hy0:y<0
          · have hy0':decide (y<0)=true:=decide_eq_true hy0
            have E3:Hid (s.makes ⟨5,(i:Int),xb,xc,xk,xn,xr,xs⟩=(1,[])):=by
              show _=_;have ha:s.at y=none:=by unfold JSt.at;rw [if_pos hy0]
              rw [E2.out,HF.out,HST.out,ha];rfl
            have HBL:=hid_of (S2.out.bel.trans (HT.out.bel.mono S2.out.bel.size));clear E2 hy0 hxi HF HST;generalize xs.length=N at x7 hkN hlt hk hal8;go_wp2_with fail
            go_quiet (fail)
            go_wp2
            go_ret2;rw [E3.out];exact MkOut.nil (hbelowN HBL.out _)
          obtain ⟨j,rfl⟩:=Int.eq_ofNat_of_zero_le (show 0≤y by omega);have hy0':decide ((j:Int)<0)=false:=decide_eq_false (by omega);by_cases hjn:j<nl
          · have hvj:s.L[j]?=some (s.L[j]'(by rw [HNL.out];exact hjn)):=List.getElem?_eq_getElem _;generalize s.L[j]'(by rw [HNL.out];exact hjn)=u at hvj;have hatb:s.at (j:Int)=some u:=by unfold JSt.at;rw [if_neg hy0];exact hvj
            obtain ⟨gY,ua,uc,eY,v0,v1,v2,v3,huok⟩:=HRW7.out j u hvj
            cases eY
            have HUA:Hid (∃ ua' uc',wr.cell? ⟨gL,j*3+2,none⟩=some (.slice ua' u.len uc')∧TIn w3 (fun g=>¬ O g) u ua'∧u.ok):=by
              obtain ⟨gZ,za,zc,eZ,z0',z1',z2',z3',z4'⟩:=HRW.out j u hvj
              cases eZ
              exact ⟨za,zc,stay z2' HT.out.bel,z3',z4'⟩
            have hjn':decide ((nl:Int)≤j)=false:=decide_eq_false (by omega);have hjn2:(j:Int)<nl:=by omega
            have HAT2:Hid (∀ (i:Nat) (x:Int),xs[i]?=some x→i<k+1→s.at x=(l++[u])[i]?):=by
              intro i x hi hik;by_cases e:i=k
              · subst e;rw [hxi] at hi
                cases hi
                rw [List.getElem?_append_right (by rw [HLK.out];omega),HLK.out,Nat.sub_self];exact hatb
              · rw [List.getElem?_append_left (by rw [HLK.out];omega)];exact HAT.out i x hi (by omega)
            have HOK:Hid (u.ok):=huok;clear hy0 hxi hatb HF HST v3 huok HAT hvj;obtain ⟨ta,tc,txs,rfl,hown0,hkids,t2⟩:=HT.out.form;have hbox:=HT.out.box;have HBX:=hid_of hbox;have HKD:=hid_of hkids;have HOW:=hid_of hown0;have HBS:Hid (w3.heap.size≤B):=HT.out.hB;have HBL7:Hid (Below w3.heap.size w3 wr):=HT.out.bel;rw [HLK.out] at t2;clear hbox hkids hown0 HBX HKD HOW;have HXLN:Hid (xs.length=xs.length):=rfl;generalize hNN:xs.length=N at x7 hkN hlt hk hal8;have HNN:Hid (xs.length=N):=hNN;clear hNN HXLN;go_wp2_with fail
            go_quiet (fail)
            have b8:Below wr.heap.size wr (wr.drewN nq):=hbelowN (Below.refl _ _) nq;have t2':=stay t2 b8;have q6b:=stay q6' b8;have x7b:=stay x7 b8;have z0b:=stay z0 b8;have v0b:=stay v0 b8;have v1b:=stay v1 b8;have v2b:=stay v2 b8;have HB8:=hid_of b8;clear b8;go_upto_region 27 with fail
            refine kr27 t2' q6b x7b z0b v0b v1b v2b hkN hjn2 _ _ rfl (Nat.le_of_ble_eq_true (by kernel_rfl)) rfl rfl rfl rfl ?_;rintro ops vs w9 hv135 ⟨G,hv147,hG,hGb⟩ b9;show wpList _ ops _ [_,_,_] (puts _ vs [134,135,136,137,138,139,140,141,142,143,144,145,146,147]) w9;simp only [puts,Act.put,List.setIfInBounds_toArray,List.set_cons_zero,List.set_cons_succ,hv135,hv147];have hb9:Below wr.heap.size wr w9:=HB8.out.trans (b9.mono HB8.out.size);obtain ⟨ta',tc',txs9,e9,hown9,hkids9,t29⟩:=(HT.out.below hb9).form
            cases e9
            have hbox9:=(HT.out.below hb9).box;have hbel9:=(HT.out.below hb9).bel;obtain ⟨ua',uc',hcell,hT3,-⟩:=HUA.out;rw [v2] at hcell
            cases hcell
            have PU:Hid (∀ g cap w10,w10.ownsRow (B+1) 70 3 (.slice (some ⟨g,0,none⟩) (k+1) cap) (k+1) (txs9++[.int .i64 u.kind,.int .i64 u.r,.slice ua u.len uc])→w9.grownBy w10 (Value.slice ta k tc).ownBlock →
                w10.cell? ⟨B,2,none⟩=some (.slice ta k tc)∧w10.frozen? ⟨B,2,none⟩=false∧Tup w3 (w10.setCell ⟨B,2,none⟩ (.slice (some ⟨g,0,none⟩) (k+1) cap)) B O r (.slice (some ⟨g,0,none⟩) (k+1) cap) (l++[u])):=by
              intro g cap w10 p1 p2;rw [← HLK.out] at p1 p2 ⊢;refine Tup.push hbel9 HBS.out hbox9 hkids9 hown9.1 ?_ HOK.out ?_ p1 p2
              · exact (hT3.mono (O':=fun g=>¬ O g∧g<w3.heap.size) (fun k hk hl=>⟨hk,hl⟩)).keep (fun k hk _=>hbel9.block k hk.2) (fun _ hk _=>hk)
              · intro k' hk';obtain ⟨-,q2⟩:=hown9;rcases q2 with ⟨e,_⟩ | ⟨g',cap',cur,e,hg',hh',q⟩
                · rw [e] at hk';simp [Value.ownBlock] at hk'
                · rw [e] at hk';simp [Value.ownBlock] at hk';omega
            have HOWN:Hid (w9.ownsRow (B+1) 70 3 (.slice ta k tc) k txs9):=by rw [HLK.out] at hown9;exact hown9
            have HNEWS:Hid (∀ (j:Nat) (v:Value),[Value.int .i64 u.kind,.int .i64 u.r,.slice ua u.len uc][j]?=some v→w9.cell? ((⟨G,0,none⟩:Addr).add j)=some v):=by
              intro j v hv;rw [Go.WideShapes.add_plain,Nat.zero_add];exact cellOf hGb j v (by simpa using hv)
            have HBASE:Hid (B+1≤w9.heap.size):=by show _≤_;have:=lt_of_block hbox9;omega
            have HXK:Hid (xs.length - (k+1)<xs.length - k):=by show _<_;rw [HNN.out];omega
            obtain ⟨i0,hi,hz0,hz1,hz2⟩:=pInfoT;clear hown9 hkids9 t29 hbox9 hbel9 hT3 hGb hG b9 hb9 hv135 hv147 t2 t2' q6' q6b x7 x7b z0 z0b v0 v0b v1 v1b v2 v2b HT;go_wp2_with (at_builtin;refine wpList_append_lies _ rfl (.tmp 135) (.tmp 147) 33 rfl (B+1) 70 i0 (.agg #[.int .i64 0,.int .i64 0,.slice none 0 0]) 3 40 pUnderT hi hz0 hz1 hz2 rfl (by decide) _ _ _ rfl HOWN.out ⟨G,0,none⟩ 1 1 [.int .i64 u.kind,.int .i64 u.r,.slice ua u.len uc] rfl rfl HNEWS.out (pOneT _ _ _ _ _) (by decide) (by unfold maxLen;omega) (by omega) HBASE.out w9.heap.size rfl ?_)
            intro g2 cap2 w10 p1 p2 p3 p4;obtain ⟨c10,f10,T10⟩:=PU.out g2 cap2 w10 p1 p2;have HT10:=hid_of T10;clear p1 p2 p3 p4 T10 PU HOWN HNEWS HBASE;go_wp2
            go_roundw
            case rel=>exact ⟨k+1,_,l++[u],by go_num,by first | omega | (rw [HNN.out];omega),HT10.out,by rw [List.length_append,HLK.out];rfl,HAT2.out⟩
            case measure=>simp only [intOf];have:=HXK.out;omega
          · have E3:Hid (s.makes ⟨5,(i:Int),xb,xc,xk,xn,xr,xs⟩=(1,[])):=by
              show _=_;have ha:s.at (j:Int)=none:=by unfold JSt.at;rw [if_neg hy0,Int.toNat_natCast,List.getElem?_eq_none (by rw [HNL.out];omega)]
              rw [E2.out,HF.out,HST.out,ha];rfl
            have HBL:=hid_of (S2.out.bel.trans (HT.out.bel.mono S2.out.bel.size));have hjn':decide ((nl:Int)≤j)=true:=decide_eq_true (by omega);clear E2 hy0 hxi HF HST;generalize xs.length=N at x7 hkN hlt hk hal8;go_wp2_with fail
            go_quiet (fail)
            go_wp2
            go_ret2;rw [E3.out];exact MkOut.nil (hbelowN HBL.out _)
        · have hkx:k=xs.length:=by omega
          have hF:s.fields xs=some l:=by
            rw [fields_all (s:=s) (l:=xs) k l hk HLK.out HAT.out,List.drop_of_length_le (by omega),JSt.fields];simp
          obtain ⟨hfl,hfm⟩:=fields_some hF
          have hcnt:TT.count (n:=7) (mkT 3 r l)≤100000:=by
            have h1:=sum_le_mul (l.map TT.count) 4681 (fun c hc=>by
              obtain ⟨z,hz,rfl⟩:=List.mem_map.1 hc;exact check_count (S2.out.ok.types z (hfm z hz)))
            rw [List.length_map] at h1;show 1+(l.map TT.count).sum≤100000;have h2:l.length*4681≤8*4681:=Nat.mul_le_mul_right _ (by rw [hfl];exact HXL.out);omega
          have E3:Hid (s.makes ⟨5,(i:Int),xb,xc,xk,xn,xr,xs⟩=if 4<TT.height (n:=7) (mkT 3 r l) then (19,[]) else (0,[TT.at (n:=7) 5 (mkT 3 r l)])):=by
            show _=_;rw [E2.out,hF]
          obtain ⟨ta,tc,rfl,htree,hoks⟩:=HT.out.tree S2.out.lt;have HTREE:=hid_of htree;have HCNT:=hid_of hcnt;have HOKS:=hid_of hoks;have e0:=cellOf HT.out.box 0 _ rfl;have e1:=cellOf HT.out.box 1 _ rfl;have e2:=cellOf HT.out.box 2 _ rfl;have hlt':¬ (k:Int)<xs.length:=by omega
          have HBL7:Hid (Below w.heap.size w wr):=S2.out.bel.trans (HT.out.bel.mono S2.out.bel.size);have HLT7:Hid (∀ k,O k→k<wr.heap.size):=S7.out.lt;clear E2 hF hfl hfm hcnt htree hoks HAT HT hkx HLK;generalize hll:l.length=ll at e2;have HLL:Hid (l.length=ll):=hll
          have DC:Hid (Calls Tryz.prog 120 #[.agg #[.int .i64 3,.int .i64 r,.slice ta ll tc],.int .i64 4] wr fun e w'=>e=.returned (.int .i64 ((min (TT.height (n:=7) (mkT 3 r l)) 5:Nat):Int))∧Below wr.heap.size wr w'):=by
            have:=deepOf_any 7 (mkT 3 r l) ta tc wr 4 HTREE.out.all HCNT.out (by decide)
            have e9:Tv (mkT 3 r l:TT 7) ta tc=.agg #[.int .i64 3,.int .i64 r,.slice ta ll tc]:=by rw [← HLL.out];rfl
            rw [e9] at this;exact this
          clear hll;generalize xs.length=N at x7 hlt hlt' hk hal8;go_wp2_with fail
          refine (DC.out).mono ?_;rintro e w8 ⟨rfl,hb8⟩;have HB8:Hid (Below w.heap.size w w8):=HBL7.out.trans (hb8.mono HBL7.out.size);have f0:=stay e0 hb8;have f1:=stay e1 hb8;have f2:=stay e2 hb8;by_cases hgt:4<TT.height (n:=7) (mkT 3 r l)
          · have E4:Hid (s.makes ⟨5,(i:Int),xb,xc,xk,xn,xr,xs⟩=(19,[])):=by show _=_;rw [E3.out,if_pos hgt]
            have hgt':decide ((4:Int)<((min (TT.height (n:=7) (mkT 3 r l)) 5:Nat):Int))=true:=decide_eq_true (by omega);clear E3 hgt DC hb8 e0 e1 e2;generalize ((min (TT.height (n:=7) (mkT 3 r l)) 5:Nat):Int)=hv at hgt' ⊢;go_wp2
            go_ret2;rw [E4.out];exact MkOut.nil HB8.out
          · have E4:Hid (s.makes ⟨5,(i:Int),xb,xc,xk,xn,xr,xs⟩=(0,[TT.at (n:=7) 5 (mkT 3 r l)])):=by show _=_;rw [E3.out,if_neg hgt]
            have hgt':decide ((4:Int)<((min (TT.height (n:=7) (mkT 3 r l)) 5:Nat):Int))=false:=decide_eq_false (by omega)
            have Z:Hid (MkOut w O 0 [TT.at (n:=7) 5 (mkT 3 r l)] (.returned (.tuple #[.slice (some ⟨w8.heap.size,0,none⟩) 1 1,.int .i64 0])) (w8.alloc (.cells #[.int .i64 3,.int .i64 r,.slice ta ll tc] 70))):=by
              refine ⟨_,1,1,rfl,fun _=>⟨rfl,Nat.le_refl _,?_⟩,HB8.out.alloc HB8.out.size _⟩;have hh5:TT.height (n:=7) (mkT 3 r l)≤5:=by omega
              have:=one_new w8 O (fun k hk=>Nat.lt_of_lt_of_le (HLT7.out k hk) hb8.size) (t:=TT.at (n:=7) 5 (mkT 3 r l)) (a:=ta) (c:=tc) (d:=1) ((HTREE.out.below hb8).at 5 hh5) (TT.at_ok 5 ⟨HTR.out,HOKS.out⟩)
              rw [← HLL.out];rw [TT.at_kind,TT.at_r,TT.at_len 5 _ hh5] at this;exact this
            clear E3 hgt DC hb8 e0 e1 e2;generalize ((min (TT.height (n:=7) (mkT 3 r l)) 5:Nat):Int)=hv at hgt' ⊢;go_wp2
            go_ret2;rw [E4.out];exact Z.out
    · have hw':(s.want xa 2 true==0)=false:=beq_eq_false_iff_ne.2 hw
      have E2:Hid (s.makes ⟨5,xa,xb,xc,xk,xn,xr,xs⟩=(s.want xa 2 true,[])):=by
        show _=_;rw [E.out];simp only [hat,if_neg hw]
      have HW:=hid_of hw;clear E hat hw;generalize s.want xa 2 true=c at E2 hw' HW ⊢;go_wp2
      go_ret2;rw [E2.out];exact MkOut.nil S2.out.bel
end Go.Proofs.YtacjnejckfhpoaeGreat
