import Derived.Test.YtjdcjfpfpaplladGreatP4
import Derived.SizedLaws
set_option maxHeartbeats 16000000
set_option maxRecDepth 100000
namespace Go.Proofs.YtjdcjfpfpaplladGreat
open Go.ChangeShapes Go.WideShapes Go.ChangeAt Go.RowKit
set_option linter.unusedSimpArgs false
set_option linter.unusedVariables false
theorem sameModule_any {n : Nat} {m k : List (MFunc n)} {p p2 : Option Addr} {c d : Nat} {w : World} (hm0 : (modL n).In w All m [.slice p m.length c]) (hk0 : (modL n).In w All k [.slice p2 k.length d]) (hs0 : msmall m) :
    Rd Tryz.prog 12 #[.agg #[.slice p m.length c],.agg #[.slice p2 k.length d]] w (.bool (bdec (m=k))):=by
  have hm:Hid _:=hm0;have hk:Hid _:=hk0;have hs:Hid _:=hs0;have hcl:=hs0.1;clear hm0 hk0 hs0;refine fr_enter (n:=82) Tryz.func12 rfl rfl rfl ?_;intro a hF;have hW:=Wd.start w;replace hF:Fr 82 a [(0,.agg #[.slice p m.length c]),(1,.agg #[.slice p2 k.length d])]:=hF;refine wp_seq_k fun K1 hK1=>?_;refine rg hF fun ops=>?_;clear hF a;refine sB hW trivial rfl rfl ?_;clear hW;intro w2 B2 hW2 hN;clear hN;refine sB hW2 trivial rfl rfl ?_;clear hW2;intro w3 B3 hW3 hN;clear hN;refine sa trivial rfl rfl ?_;refine St.nil fun a4 h4=>?_;refine hK1 _ _ ?_;refine wp_seq_k fun K5 hK5=>?_;refine wp_seq_k fun K6 hK6=>?_;refine rg h4 fun ops=>?_;clear h4 a4;refine sfModule0 trivial rfl rfl ?_;refine sbFuncs 1 hW3 trivial rfl rfl rfl rfl ?_;refine slFuncs trivial rfl rfl ?_;refine sfModule0 trivial rfl rfl ?_;refine sbFuncs 0 hW3 trivial rfl rfl rfl rfl ?_;refine slFuncs trivial rfl rfl ?_;refine sne trivial rfl rfl rfl ?_;refine St.nil fun a7 h7=>?_;refine hK6 _ _ ?_;refine fr_cond (t:=15) h7 rfl (fun hb=>?_) (fun hb=>?_)
  ·have h9:¬ m.length=k.length:=by have h8:=bne_iff_ne.1 hb;omega
   have hlen:¬ m.length=k.length:=h9;clear h9;clear hb;refine wp_seq_k fun K8 hK8=>?_;refine rg h7 fun ops=>?_;clear h7 a7;refine sa trivial rfl rfl ?_;refine St.nil fun a9 h9=>?_;refine hK8 _ _ ?_;refine wp_ret ?_;with_reducible repeat first | refine of_then_ret ?_ | refine of_block_ret ?_
   have R:¬ m=k:=fun e=>hlen (by rw [e]);exact ret_tmp (t:=4) h9 rfl rfl ⟨by rw [bdec_false R],hW3.bel⟩
  have h9:m.length=k.length:=by have h8:=bne_eq_false_iff_eq.1 hb;omega
  have hlen:Hid (m.length=k.length):=h9;clear h9;clear hb;refine wp_skip ?_;refine hK5 _ _ ?_;refine wp_seq_k fun K10 hK10=>?_;refine wp_seq_k fun K11 hK11=>?_;refine rg h7 fun ops=>?_;clear h7 a7;refine sa trivial rfl rfl ?_;refine St.nil fun a12 h12=>?_;refine hK11 _ _ ?_;refine wp_block ?_;refine fr_loop (fun r a w'=>∃ q:Nat,q≤m.length∧r=m.length - q∧(∀ j,j<q→m[j]?=k[j]?)∧Fr 82 a [(1,.agg #[.slice p2 k.length d]),(0,.agg #[.slice p m.length c]),(2,.pointer (some ⟨B2,0,none⟩)),(3,.pointer (some ⟨B3,0,none⟩)),(4,.bool false),(5,.int .i64 (q:Int))]∧Wd w w' [(B3,#[.slice p2 k.length d],24),(B2,#[.slice p m.length c],24)]) (m.length) ⟨0,Nat.zero_le _,rfl,(fun j hj=>by omega),(h12.keep (h12.keep (h12.keep (h12.keep (h12.keep (h12.keep h12.nil (t:=5) rfl) (t:=4) rfl) (t:=3) rfl) (t:=2) rfl) (t:=0) rfl) (t:=1) rfl),hW3⟩ ?_;clear h12 hW3;rintro r a13 w13 ⟨q,hq,hr,hall,hF13,hW13⟩ KL hKL;refine wp_seq_k fun K14 hK14=>?_;refine wp_seq_k fun K15 hK15=>?_;refine rg hF13 fun ops=>?_;clear hF13 a13;refine sm trivial rfl rfl ?_;refine sfModule0 trivial rfl rfl ?_;refine sbFuncs 1 hW13 trivial rfl rfl rfl rfl ?_;refine slFuncs trivial rfl rfl ?_;refine slt trivial rfl rfl rfl ?_;refine St.nil fun a16 h16=>?_;refine hK15 _ _ ?_;refine fr_cond (t:=20) h16 rfl (fun hb=>?_) (fun hb=>?_)
  ·have hlt1:q<m.length:=by have:=of_decide_eq_true hb;omega
   have hlt2:q<k.length:=by have:=hlen.out;omega
   clear hb;obtain ⟨x,hx1⟩:∃ v9,(m)[q]?=some v9:=⟨_,List.getElem?_eq_getElem hlt1⟩;obtain ⟨g1,o1,f1,hp1,E1,In1⟩:=func_at hm.out hx1;replace In1:Hid _:=In1;replace hp1:Hid _:=hp1;replace hx1:Hid _:=hx1;replace E1:Hid _:=E1;obtain ⟨y,hx2⟩:∃ v9,(k)[q]?=some v9:=⟨_,List.getElem?_eq_getElem hlt2⟩;obtain ⟨g2,o2,f2,hp2,E2,In2⟩:=func_at hk.out hx2;replace In2:Hid _:=In2;replace hp2:Hid _:=hp2;replace hx2:Hid _:=hx2;replace E2:Hid _:=E2;have hs1:Hid _:=hs.out.2 x (List.mem_of_getElem? hx1.out);have hbl:=hs1.out.1;refine wp_skip ?_;refine hK14 _ _ ?_;refine wp_seq_k fun K17 hK17=>?_;refine wp_block ?_;refine wp_seq_k fun K18 hK18=>?_;have hF19:Fr 82 a16 [(1,.agg #[.slice p2 k.length d]),(0,.agg #[.slice p m.length c]),(2,.pointer (some ⟨B2,0,none⟩)),(3,.pointer (some ⟨B3,0,none⟩)),(4,.bool false),(5,.int .i64 (q:Int))]:=(h16.keep (h16.keep (h16.keep (h16.keep (h16.keep (h16.keep h16.nil (t:=5) rfl) (t:=4) rfl) (t:=3) rfl) (t:=2) rfl) (t:=0) rfl) (t:=1) rfl);have ho2:a16.tmps.getD 2 undef=.pointer (some ⟨B2,0,none⟩):=h16.sl 2 _ rfl;have ho5:a16.tmps.getD 5 undef=.int .i64 (q:Int):=h16.sl 5 _ rfl;have ho3:a16.tmps.getD 3 undef=.pointer (some ⟨B3,0,none⟩):=h16.sl 3 _ rfl;refine fr_draw3 [(0,23),(1,24),(2,25),(3,26),(4,27),(5,28),(6,29),(7,30),(8,31),(9,32)] [(10,6,4,46),(11,7,4,46)] [(12,6,4,46),(13,7,4,46)] [(23,.pointer (some ⟨B2,0,none⟩)),(24,.slice p m.length c),(25,.int .i64 (q:Int)),(26,.pointer (some ⟨g1,o1+q*4,none⟩)),(27,.agg #[.int .i64 x.regs,.slice f1.pP x.params.length f1.cP,.slice f1.pR x.results.length f1.cR,.slice f1.pB x.blocks.length f1.cB]),(28,.pointer (some ⟨B3,0,none⟩)),(29,.slice p2 k.length d),(30,.int .i64 (q:Int)),(31,.pointer (some ⟨g2,o2+q*4,none⟩)),(32,.agg #[.int .i64 y.regs,.slice f2.pP y.params.length f2.cP,.slice f2.pR y.results.length f2.cR,.slice f2.pB y.blocks.length f2.cB])] [(6,[.int .i64 x.regs,.slice f1.pP x.params.length f1.cP,.slice f1.pR x.results.length f1.cR,.slice f1.pB x.blocks.length f1.cB]),(7,[.int .i64 y.regs,.slice f2.pP y.params.length f2.cP,.slice f2.pR y.results.length f2.cR,.slice f2.pB y.blocks.length f2.cB])] (by kernel_rfl) hF19 (by kernel_rfl) (by kernel_rfl) (fun hDB=>?hst) ?hend
   case hst =>
    refine ⟨fun S a1 w1 hS hd hcl hI K hK=>?_,?_⟩
    · have hWd:=hW13.below hI.bel;have k0:a1.tmps.getD 2 undef=.pointer (some ⟨B2,0,none⟩):=(hI.outer 2 (by kernel_rfl)).trans ho2;go_simp;exact hK _ _ (DI.pure hDB hI (i:=0) (t:=23) (by decide) rfl hS (Below.refl _ _) (by kernel_rfl) (by kernel_rfl))
    refine ⟨fun S a1 w1 hS hd hcl hI K hK=>?_,?_⟩
    · have hWd:=hW13.below hI.bel;have k0:a1.tmps.getD 23 undef=.pointer (some ⟨B2,0,none⟩):=hI.vals (0,23) (by decide) (hd.at 0 (by kernel_rfl)) _ rfl;have c0:w1.cell? ⟨B2,0,none⟩=some (.slice p m.length c):=cellOf (hWd.get 1 rfl) 0 _ rfl;go_simp;exact hK _ _ (DI.pure hDB hI (i:=1) (t:=24) (by decide) rfl hS (Below.refl _ _) (by kernel_rfl) (by kernel_rfl))
    refine ⟨fun S a1 w1 hS hd hcl hI K hK=>?_,?_⟩
    · have hWd:=hW13.below hI.bel;have k0:a1.tmps.getD 5 undef=.int .i64 (q:Int):=(hI.outer 5 (by kernel_rfl)).trans ho5;go_simp;exact hK _ _ (DI.pure hDB hI (i:=2) (t:=25) (by decide) rfl hS (Below.refl _ _) (by kernel_rfl) (by kernel_rfl))
    refine ⟨fun S a1 w1 hS hd hcl hI K hK=>?_,?_⟩
    · have hWd:=hW13.below hI.bel;have k0:a1.tmps.getD 24 undef=.slice p m.length c:=hI.vals (1,24) (by decide) (hd.at 1 (by kernel_rfl)) _ rfl;have k1:a1.tmps.getD 25 undef=.int .i64 (q:Int):=hI.vals (2,25) (by decide) (hd.at 2 (by kernel_rfl)) _ rfl;have hpq:=hp1.out;have hk0:(0:Int)≤q:=by omega
      have hk1:(q:Int)<(m.length:Int):=by omega
      go_simp;exact hK _ _ (DI.pure hDB hI (i:=3) (t:=26) (by decide) rfl hS (Below.refl _ _) (by kernel_rfl) (by kernel_rfl))
    refine ⟨fun S a1 w1 hS hd hcl hI K hK=>?_,?_⟩
    · have hWd:=hW13.below hI.bel;have k0:a1.tmps.getD 26 undef=.pointer (some ⟨g1,o1+q*4,none⟩):=hI.vals (3,26) (by decide) (hd.at 3 (by kernel_rfl)) _ rfl;have d0:w1.cell? ⟨g1,o1+q*4,none⟩=some (.int .i64 x.regs):=bel_cell hWd.bel (E1.out 0 _ rfl);have d1:w1.cell? ⟨g1,o1+q*4+1,none⟩=some (.slice f1.pP x.params.length f1.cP):=bel_cell hWd.bel (E1.out 1 _ rfl);have d2:w1.cell? ⟨g1,o1+q*4+2,none⟩=some (.slice f1.pR x.results.length f1.cR):=bel_cell hWd.bel (E1.out 2 _ rfl);have d3:w1.cell? ⟨g1,o1+q*4+3,none⟩=some (.slice f1.pB x.blocks.length f1.cB):=bel_cell hWd.bel (E1.out 3 _ rfl);go_simp;exact hK _ _ (DI.pure hDB hI (i:=4) (t:=27) (by decide) rfl hS (Below.refl _ _) (by kernel_rfl) (by kernel_rfl))
    refine ⟨fun S a1 w1 hS hd hcl hI K hK=>?_,?_⟩
    · have hWd:=hW13.below hI.bel;have k0:a1.tmps.getD 3 undef=.pointer (some ⟨B3,0,none⟩):=(hI.outer 3 (by kernel_rfl)).trans ho3;go_simp;exact hK _ _ (DI.pure hDB hI (i:=5) (t:=28) (by decide) rfl hS (Below.refl _ _) (by kernel_rfl) (by kernel_rfl))
    refine ⟨fun S a1 w1 hS hd hcl hI K hK=>?_,?_⟩
    · have hWd:=hW13.below hI.bel;have k0:a1.tmps.getD 28 undef=.pointer (some ⟨B3,0,none⟩):=hI.vals (5,28) (by decide) (hd.at 5 (by kernel_rfl)) _ rfl;have c0:w1.cell? ⟨B3,0,none⟩=some (.slice p2 k.length d):=cellOf (hWd.get 0 rfl) 0 _ rfl;go_simp;exact hK _ _ (DI.pure hDB hI (i:=6) (t:=29) (by decide) rfl hS (Below.refl _ _) (by kernel_rfl) (by kernel_rfl))
    refine ⟨fun S a1 w1 hS hd hcl hI K hK=>?_,?_⟩
    · have hWd:=hW13.below hI.bel;have k0:a1.tmps.getD 5 undef=.int .i64 (q:Int):=(hI.outer 5 (by kernel_rfl)).trans ho5;go_simp;exact hK _ _ (DI.pure hDB hI (i:=7) (t:=30) (by decide) rfl hS (Below.refl _ _) (by kernel_rfl) (by kernel_rfl))
    refine ⟨fun S a1 w1 hS hd hcl hI K hK=>?_,?_⟩
    · have hWd:=hW13.below hI.bel;have k0:a1.tmps.getD 29 undef=.slice p2 k.length d:=hI.vals (6,29) (by decide) (hd.at 6 (by kernel_rfl)) _ rfl;have k1:a1.tmps.getD 30 undef=.int .i64 (q:Int):=hI.vals (7,30) (by decide) (hd.at 7 (by kernel_rfl)) _ rfl;have hpq:=hp2.out;have hk0:(0:Int)≤q:=by omega
      have hk1:(q:Int)<(k.length:Int):=by omega
      go_simp;exact hK _ _ (DI.pure hDB hI (i:=8) (t:=31) (by decide) rfl hS (Below.refl _ _) (by kernel_rfl) (by kernel_rfl))
    refine ⟨fun S a1 w1 hS hd hcl hI K hK=>?_,?_⟩
    · have hWd:=hW13.below hI.bel;have k0:a1.tmps.getD 31 undef=.pointer (some ⟨g2,o2+q*4,none⟩):=hI.vals (8,31) (by decide) (hd.at 8 (by kernel_rfl)) _ rfl;have d0:w1.cell? ⟨g2,o2+q*4,none⟩=some (.int .i64 y.regs):=bel_cell hWd.bel (E2.out 0 _ rfl);have d1:w1.cell? ⟨g2,o2+q*4+1,none⟩=some (.slice f2.pP y.params.length f2.cP):=bel_cell hWd.bel (E2.out 1 _ rfl);have d2:w1.cell? ⟨g2,o2+q*4+2,none⟩=some (.slice f2.pR y.results.length f2.cR):=bel_cell hWd.bel (E2.out 2 _ rfl);have d3:w1.cell? ⟨g2,o2+q*4+3,none⟩=some (.slice f2.pB y.blocks.length f2.cB):=bel_cell hWd.bel (E2.out 3 _ rfl);go_simp;exact hK _ _ (DI.pure hDB hI (i:=9) (t:=32) (by decide) rfl hS (Below.refl _ _) (by kernel_rfl) (by kernel_rfl))
    refine ⟨fun S a1 w1 hS hd hcl hI K hK=>?_,?_⟩
    · go_simp;exact hK _ _ (DI.alloc hDB hI (i:=10) (t:=6) (s:=4) (ty:=46) (by decide) rfl hS hcl (by kernel_rfl) (by kernel_rfl))
    refine ⟨fun S a1 w1 hS hd hcl hI K hK=>?_,?_⟩
    · go_simp;exact hK _ _ (DI.alloc hDB hI (i:=11) (t:=7) (s:=4) (ty:=46) (by decide) rfl hS hcl (by kernel_rfl) (by kernel_rfl))
    refine ⟨fun S a1 w1 hS hd hcl hI K hK=>?_,?_⟩
    · have k0:a1.tmps.getD 27 undef=.agg #[.int .i64 x.regs,.slice f1.pP x.params.length f1.cP,.slice f1.pR x.results.length f1.cR,.slice f1.pB x.blocks.length f1.cB]:=hI.vals (4,27) (by decide) (hd.at 4 (by kernel_rfl)) _ rfl;obtain ⟨B,kB,hlo,c0,hBk,hcs⟩:=hI.box (i:=10) (t:=6) (s:=4) (ty:=46) (by decide) (hd.at 10 (by kernel_rfl));exact wp_fill hBk kB k0 infFunc rfl hcs.symm (hK _ _ (DI.store hDB hI (i:=12) (t:=6) (s:=4) (ty:=46) (j:=10) (by decide) (by decide) (hd.at 10 (by kernel_rfl)) kB hBk hcs hlo rfl rfl hS hcl (by kernel_rfl) (by kernel_rfl)))
    refine ⟨fun S a1 w1 hS hd hcl hI K hK=>?_,?_⟩
    · have k0:a1.tmps.getD 32 undef=.agg #[.int .i64 y.regs,.slice f2.pP y.params.length f2.cP,.slice f2.pR y.results.length f2.cR,.slice f2.pB y.blocks.length f2.cB]:=hI.vals (9,32) (by decide) (hd.at 9 (by kernel_rfl)) _ rfl;obtain ⟨B,kB,hlo,c0,hBk,hcs⟩:=hI.box (i:=11) (t:=7) (s:=4) (ty:=46) (by decide) (hd.at 11 (by kernel_rfl));exact wp_fill hBk kB k0 infFunc rfl hcs.symm (hK _ _ (DI.store hDB hI (i:=13) (t:=7) (s:=4) (ty:=46) (j:=11) (by decide) (by decide) (hd.at 11 (by kernel_rfl)) kB hBk hcs hlo rfl rfl hS hcl (by kernel_rfl) (by kernel_rfl)))
    trivial
   case hend =>
    intro S a20 w20 hS hD hFD;obtain ⟨BD6,hd6,hBl6,hBk6⟩:=hD.full (j:=10) (i:=12) (t:=6) (s:=4) (ty:=46) (by decide) (hS _ (by decide)) (by decide) (hS _ (by decide)) rfl;obtain ⟨BD7,hd7,hBl7,hBk7⟩:=hD.full (j:=11) (i:=13) (t:=7) (s:=4) (ty:=46) (by decide) (hS _ (by decide)) (by decide) (hS _ (by decide)) rfl;have hF20:Fr 82 a20 [(7,.pointer (some ⟨BD7,0,none⟩)),(6,.pointer (some ⟨BD6,0,none⟩)),(1,.agg #[.slice p2 k.length d]),(0,.agg #[.slice p m.length c]),(2,.pointer (some ⟨B2,0,none⟩)),(3,.pointer (some ⟨B3,0,none⟩)),(4,.bool false),(5,.int .i64 (q:Int))]:=((hFD.cons hd6).cons hd7);have hnB:BD6≠BD7:=fun e=>hD.ne (10,6,4,46) (by decide) (11,7,4,46) (by decide) (by decide) (hS _ (by decide)) (hS _ (by decide)) (by rw [hd6,hd7,e]);have hW20:Wd w w20 [(BD6,#[.int .i64 x.regs,.slice f1.pP x.params.length f1.cP,.slice f1.pR x.results.length f1.cR,.slice f1.pB x.blocks.length f1.cB],46),(BD7,#[.int .i64 y.regs,.slice f2.pP y.params.length f2.cP,.slice f2.pR y.results.length f2.cR,.slice f2.pB y.blocks.length f2.cB],46),(B3,#[.slice p2 k.length d],24),(B2,#[.slice p m.length c],24)]:=Wd.add2 (hW13.below hD.bel) hW13 hBk6 hBk7 hnB hBl6 hBl7;clear hS hD hFD hnB hW13 hd6 hd7;clear hBl6 hBk6 hBl7 hBk7;refine hK18 _ _ ?_;refine wp_seq_k fun K21 hK21=>?_;refine wp_seq_k fun K22 hK22=>?_;refine fr_region ?_;intro ops hops;have hg5:(ops[5]?).bind (fun o:Oper=>o.dst)=some 38:=hops 5;have hg13:(ops[13]?).bind (fun o:Oper=>o.dst)=some 46:=hops 13;have hg21:(ops[21]?).bind (fun o:Oper=>o.dst)=some 54:=hops 21;clear hops;refine St.go hF20 ?_;clear hF20 a20;refine sfFunc0 trivial rfl rfl ?_;refine sbInt 0 hW20 trivial rfl rfl rfl rfl ?_;refine sfFunc0 trivial rfl rfl ?_;refine sbInt 1 hW20 trivial rfl rfl rfl rfl ?_;refine sne trivial rfl rfl rfl ?_;refine sm trivial rfl rfl ?_;intro a23 h23;rcases Bool.eq_false_or_eq_true (x.regs != y.regs) with hb | hb
    ·rw [hb] at h23
     have h9:¬ x.regs=y.regs:=bne_iff_ne.1 hb;have hc24:¬ x.regs=y.regs:=h9;clear h9;clear hb;refine St.go h23 ?_;clear h23 a23;refine so hg5 rfl rfl rfl rfl ?_;refine so hg5 rfl rfl rfl rfl ?_;refine so hg5 rfl rfl rfl rfl ?_;refine so hg5 rfl rfl rfl rfl ?_;refine so hg5 rfl rfl rfl rfl ?_;refine so hg5 rfl rfl rfl rfl ?_;refine sp trivial rfl rfl rfl ?_;refine sm trivial rfl rfl ?_;refine so hg13 rfl rfl rfl rfl ?_;refine so hg13 rfl rfl rfl rfl ?_;refine so hg13 rfl rfl rfl rfl ?_;refine so hg13 rfl rfl rfl rfl ?_;refine so hg13 rfl rfl rfl rfl ?_;refine so hg13 rfl rfl rfl rfl ?_;refine sp trivial rfl rfl rfl ?_;refine sm trivial rfl rfl ?_;refine so hg21 rfl rfl rfl rfl ?_;refine so hg21 rfl rfl rfl rfl ?_;refine so hg21 rfl rfl rfl rfl ?_;refine so hg21 rfl rfl rfl rfl ?_;refine so hg21 rfl rfl rfl rfl ?_;refine so hg21 rfl rfl rfl rfl ?_;refine so hg21 rfl rfl rfl rfl ?_;refine sp trivial rfl rfl rfl ?_;refine St.nil fun a25 h25=>?_;refine hK22 _ _ ?_;refine fr_true (t:=62) h25 rfl ?_;refine wp_seq_k fun K26 hK26=>?_;refine rg h25 fun ops=>?_;clear h25 a25;refine sa trivial rfl rfl ?_;refine St.nil fun a27 h27=>?_;refine hK26 _ _ ?_;refine wp_ret ?_;with_reducible repeat first | refine of_then_ret ?_ | refine of_block_ret ?_
     have RX:¬ x=y:=by
       intro e
       first
         | exact hlb (by rw [e])
         | exact hc24 (by rw [e])
     have R:¬ m=k:=by
       intro e;have h1:=hx1.out;rw [e,hx2.out] at h1;exact RX (Option.some.inj h1).symm
     exact ret_tmp (t:=4) h27 rfl rfl ⟨by rw [bdec_false R],hW20.bel⟩
    rw [hb] at h23;have h9:x.regs=y.regs:=bne_eq_false_iff_eq.1 hb;have hc28:Hid (x.regs=y.regs):=h9;clear h9;clear hb;refine St.go h23 ?_;clear h23 a23;refine sfFunc1 ⟨_,hg5,rfl,rfl⟩ rfl rfl ?_;refine sbTypes 0 hW20 ⟨_,hg5,rfl,rfl⟩ rfl rfl rfl rfl ?_;refine sfFunc1 ⟨_,hg5,rfl,rfl⟩ rfl rfl ?_;refine sbTypes 1 hW20 ⟨_,hg5,rfl,rfl⟩ rfl rfl rfl rfl ?_;refine sc_2 cf34 hW20 (sameTypes_any (Lay.below In1.out.params hW20.bel) (Lay.below In2.out.params hW20.bel) hs1.out.2.1) ⟨_,hg5,rfl,rfl⟩ rfl rfl rfl ?_;clear hW20;intro w29 hW29;refine sn ⟨_,hg5,rfl,rfl⟩ rfl rfl ?_;refine spf trivial rfl rfl rfl ?_;refine sm trivial rfl rfl ?_;intro a30 h30;rcases Bool.eq_false_or_eq_true (!(bdec (x.params=y.params))) with hb | hb
    ·rw [hb] at h30
     have hb:(bdec (x.params=y.params))=false:=by simpa using hb
     have hc31:¬ (x.params=y.params):=fun h=>by rw [bdec_true h] at hb;cases hb
     clear hb;refine St.go h30 ?_;clear h30 a30;refine so hg13 rfl rfl rfl rfl ?_;refine so hg13 rfl rfl rfl rfl ?_;refine so hg13 rfl rfl rfl rfl ?_;refine so hg13 rfl rfl rfl rfl ?_;refine so hg13 rfl rfl rfl rfl ?_;refine so hg13 rfl rfl rfl rfl ?_;refine sp trivial rfl rfl rfl ?_;refine sm trivial rfl rfl ?_;refine so hg21 rfl rfl rfl rfl ?_;refine so hg21 rfl rfl rfl rfl ?_;refine so hg21 rfl rfl rfl rfl ?_;refine so hg21 rfl rfl rfl rfl ?_;refine so hg21 rfl rfl rfl rfl ?_;refine so hg21 rfl rfl rfl rfl ?_;refine so hg21 rfl rfl rfl rfl ?_;refine sp trivial rfl rfl rfl ?_;refine St.nil fun a32 h32=>?_;refine hK22 _ _ ?_;refine fr_true (t:=62) h32 rfl ?_;refine wp_seq_k fun K33 hK33=>?_;refine rg h32 fun ops=>?_;clear h32 a32;refine sa trivial rfl rfl ?_;refine St.nil fun a34 h34=>?_;refine hK33 _ _ ?_;refine wp_ret ?_;with_reducible repeat first | refine of_then_ret ?_ | refine of_block_ret ?_
     have RX:¬ x=y:=by
       intro e
       first
         | exact hlb (by rw [e])
         | exact hc31 (by rw [e])
         | exact hc28 (by rw [e])
     have R:¬ m=k:=by
       intro e;have h1:=hx1.out;rw [e,hx2.out] at h1;exact RX (Option.some.inj h1).symm
     exact ret_tmp (t:=4) h34 rfl rfl ⟨by rw [bdec_false R],hW29.bel⟩
    rw [hb] at h30;have hb:(bdec (x.params=y.params))=true:=by simpa using hb
    have hc35:(x.params=y.params):=bdec_iff.1 hb;clear hb;refine St.go h30 ?_;clear h30 a30;refine sfFunc2 ⟨_,hg13,rfl,rfl⟩ rfl rfl ?_;refine sbTypes 0 hW29 ⟨_,hg13,rfl,rfl⟩ rfl rfl rfl rfl ?_;refine sfFunc2 ⟨_,hg13,rfl,rfl⟩ rfl rfl ?_;refine sbTypes 1 hW29 ⟨_,hg13,rfl,rfl⟩ rfl rfl rfl rfl ?_;refine sc_2 cf34 hW29 (sameTypes_any (Lay.below In1.out.results hW29.bel) (Lay.below In2.out.results hW29.bel) hs1.out.2.2.1) ⟨_,hg13,rfl,rfl⟩ rfl rfl rfl ?_;clear hW29;intro w36 hW36;refine sn ⟨_,hg13,rfl,rfl⟩ rfl rfl ?_;refine spf trivial rfl rfl rfl ?_;refine sm trivial rfl rfl ?_;intro a37 h37;rcases Bool.eq_false_or_eq_true (!(bdec (x.results=y.results))) with hb | hb
    ·rw [hb] at h37
     have hb:(bdec (x.results=y.results))=false:=by simpa using hb
     have hc38:¬ (x.results=y.results):=fun h=>by rw [bdec_true h] at hb;cases hb
     clear hb;refine St.go h37 ?_;clear h37 a37;refine so hg21 rfl rfl rfl rfl ?_;refine so hg21 rfl rfl rfl rfl ?_;refine so hg21 rfl rfl rfl rfl ?_;refine so hg21 rfl rfl rfl rfl ?_;refine so hg21 rfl rfl rfl rfl ?_;refine so hg21 rfl rfl rfl rfl ?_;refine so hg21 rfl rfl rfl rfl ?_;refine sp trivial rfl rfl rfl ?_;refine St.nil fun a39 h39=>?_;refine hK22 _ _ ?_;refine fr_true (t:=62) h39 rfl ?_;refine wp_seq_k fun K40 hK40=>?_;refine rg h39 fun ops=>?_;clear h39 a39;refine sa trivial rfl rfl ?_;refine St.nil fun a41 h41=>?_;refine hK40 _ _ ?_;refine wp_ret ?_;with_reducible repeat first | refine of_then_ret ?_ | refine of_block_ret ?_
     have RX:¬ x=y:=by
       intro e
       first
         | exact hlb (by rw [e])
         | exact hc38 (by rw [e])
         | exact hc35 (by rw [e])
         | exact hc28 (by rw [e])
     have R:¬ m=k:=by
       intro e;have h1:=hx1.out;rw [e,hx2.out] at h1;exact RX (Option.some.inj h1).symm
     exact ret_tmp (t:=4) h41 rfl rfl ⟨by rw [bdec_false R],hW36.bel⟩
    rw [hb] at h37;have hb:(bdec (x.results=y.results))=true:=by simpa using hb
    have hc42:(x.results=y.results):=bdec_iff.1 hb;clear hb;refine St.go h37 ?_;clear h37 a37;refine sfFunc3 ⟨_,hg21,rfl,rfl⟩ rfl rfl ?_;refine sbBlocks 0 hW36 ⟨_,hg21,rfl,rfl⟩ rfl rfl rfl rfl ?_;refine slBlocks ⟨_,hg21,rfl,rfl⟩ rfl rfl ?_;refine sfFunc3 ⟨_,hg21,rfl,rfl⟩ rfl rfl ?_;refine sbBlocks 1 hW36 ⟨_,hg21,rfl,rfl⟩ rfl rfl rfl rfl ?_;refine slBlocks ⟨_,hg21,rfl,rfl⟩ rfl rfl ?_;refine sne ⟨_,hg21,rfl,rfl⟩ rfl rfl rfl ?_;refine spf trivial rfl rfl rfl ?_;refine St.nil fun a43 h43=>?_;refine hK22 _ _ ?_;refine fr_cond (t:=62) h43 rfl (fun hb=>?_) (fun hb=>?_)
    ·have h9:¬ x.blocks.length=y.blocks.length:=by have h8:=bne_iff_ne.1 hb;omega
     have hlb:¬ x.blocks.length=y.blocks.length:=h9;clear h9;clear hb;refine wp_seq_k fun K44 hK44=>?_;refine rg h43 fun ops=>?_;clear h43 a43;refine sa trivial rfl rfl ?_;refine St.nil fun a45 h45=>?_;refine hK44 _ _ ?_;refine wp_ret ?_;with_reducible repeat first | refine of_then_ret ?_ | refine of_block_ret ?_
     have RX:¬ x=y:=by
       intro e
       first
         | exact hlb (by rw [e])
         | exact hc42 (by rw [e])
         | exact hc35 (by rw [e])
         | exact hc28 (by rw [e])
     have R:¬ m=k:=by
       intro e;have h1:=hx1.out;rw [e,hx2.out] at h1;exact RX (Option.some.inj h1).symm
     exact ret_tmp (t:=4) h45 rfl rfl ⟨by rw [bdec_false R],hW36.bel⟩
    have h9:x.blocks.length=y.blocks.length:=by have h8:=bne_eq_false_iff_eq.1 hb;omega
    have hlb:Hid (x.blocks.length=y.blocks.length):=h9;clear h9;clear hb;refine wp_skip ?_;refine hK21 _ _ ?_;refine wp_seq_k fun K46 hK46=>?_;refine rg h43 fun ops=>?_;clear h43 a43;refine sa trivial rfl rfl ?_;refine St.nil fun a47 h47=>?_;refine hK46 _ _ ?_;refine wp_block ?_;refine fr_loop (fun r a w'=>∃ qb:Nat,qb≤x.blocks.length∧r=x.blocks.length - qb∧(∀ j,j<qb→x.blocks[j]?=y.blocks[j]?)∧Fr 82 a [(1,.agg #[.slice p2 k.length d]),(0,.agg #[.slice p m.length c]),(2,.pointer (some ⟨B2,0,none⟩)),(3,.pointer (some ⟨B3,0,none⟩)),(4,.bool false),(5,.int .i64 (q:Int)),(6,.pointer (some ⟨BD6,0,none⟩)),(7,.pointer (some ⟨BD7,0,none⟩)),(8,.int .i64 (qb:Int))]∧Wd w w' [(BD6,#[.int .i64 x.regs,.slice f1.pP x.params.length f1.cP,.slice f1.pR x.results.length f1.cR,.slice f1.pB x.blocks.length f1.cB],46),(BD7,#[.int .i64 y.regs,.slice f2.pP y.params.length f2.cP,.slice f2.pR y.results.length f2.cR,.slice f2.pB y.blocks.length f2.cB],46),(B3,#[.slice p2 k.length d],24),(B2,#[.slice p m.length c],24)]) (x.blocks.length) ⟨0,Nat.zero_le _,rfl,(fun j hj=>by omega),(h47.keep (h47.keep (h47.keep (h47.keep (h47.keep (h47.keep (h47.keep (h47.keep (h47.keep h47.nil (t:=8) rfl) (t:=7) rfl) (t:=6) rfl) (t:=5) rfl) (t:=4) rfl) (t:=3) rfl) (t:=2) rfl) (t:=0) rfl) (t:=1) rfl),hW36⟩ ?_;clear h47 hW36;rintro rb a48 w48 ⟨qb,hqb,hrb,hal2,hF48,hW48⟩ KLb hKLb;refine wp_seq_k fun K49 hK49=>?_;refine wp_seq_k fun K50 hK50=>?_;refine rg hF48 fun ops=>?_;clear hF48 a48;refine sm trivial rfl rfl ?_;refine sfFunc3 trivial rfl rfl ?_;refine sbBlocks 0 hW48 trivial rfl rfl rfl rfl ?_;refine slBlocks trivial rfl rfl ?_;refine slt trivial rfl rfl rfl ?_;refine St.nil fun a51 h51=>?_;refine hK50 _ _ ?_;refine fr_cond (t:=67) h51 rfl (fun hb=>?_) (fun hb=>?_)
    ·have hlt3:qb<x.blocks.length:=by have:=of_decide_eq_true hb;omega
     have hlt4:qb<y.blocks.length:=by have:=hlb.out;omega
     clear hb;obtain ⟨z,hx3⟩:∃ v9,(x.blocks)[qb]?=some v9:=⟨_,List.getElem?_eq_getElem hlt3⟩;obtain ⟨g3,o3,b3,hp3,E3,In3⟩:=block_at In1.out.blocks hx3;replace In3:Hid _:=In3;replace hp3:Hid _:=hp3;replace hx3:Hid _:=hx3;replace E3:Hid _:=E3;obtain ⟨u,hx4⟩:∃ v9,(y.blocks)[qb]?=some v9:=⟨_,List.getElem?_eq_getElem hlt4⟩;obtain ⟨g4,o4,b4,hp4,E4,In4⟩:=block_at In2.out.blocks hx4;replace In4:Hid _:=In4;replace hp4:Hid _:=hp4;replace hx4:Hid _:=hx4;replace E4:Hid _:=E4;refine wp_skip ?_;refine hK49 _ _ ?_;refine wp_seq_k fun K52 hK52=>?_;refine wp_block ?_;refine wp_seq_k fun K53 hK53=>?_;have hF54:Fr 82 a51 [(1,.agg #[.slice p2 k.length d]),(0,.agg #[.slice p m.length c]),(2,.pointer (some ⟨B2,0,none⟩)),(3,.pointer (some ⟨B3,0,none⟩)),(4,.bool false),(5,.int .i64 (q:Int)),(6,.pointer (some ⟨BD6,0,none⟩)),(7,.pointer (some ⟨BD7,0,none⟩)),(8,.int .i64 (qb:Int))]:=(h51.keep (h51.keep (h51.keep (h51.keep (h51.keep (h51.keep (h51.keep (h51.keep (h51.keep h51.nil (t:=8) rfl) (t:=7) rfl) (t:=6) rfl) (t:=5) rfl) (t:=4) rfl) (t:=3) rfl) (t:=2) rfl) (t:=0) rfl) (t:=1) rfl);have ho6:a51.tmps.getD 6 undef=.pointer (some ⟨BD6,0,none⟩):=h51.sl 6 _ rfl;have ho8:a51.tmps.getD 8 undef=.int .i64 (qb:Int):=h51.sl 8 _ rfl;have ho7:a51.tmps.getD 7 undef=.pointer (some ⟨BD7,0,none⟩):=h51.sl 7 _ rfl;refine fr_draw_k 12 ([(6,fun v _=>v=.pointer (some ⟨BD6,0,none⟩)),(8,fun v _=>v=.int .i64 (qb:Int)),(7,fun v _=>v=.pointer (some ⟨BD7,0,none⟩)),(70,fun v _=>v=.pointer (some ⟨BD6,3,none⟩)),(71,fun v _=>v=.slice f1.pB x.blocks.length f1.cB),(72,fun v _=>v=.int .i64 (qb:Int)),(73,fun v _=>v=.pointer (some ⟨g3,o3+qb*12,none⟩)),(74,fun v _=>v=.agg #[.int .i64 z.regs,.slice b3.pP z.params.length b3.cP,.slice b3.pC z.code.length b3.cC,.int .i64 z.fin.op,.int .i64 z.fin.a,.int .i64 z.fin.yes.block,.slice b3.e.pYR z.fin.yes.regs.length b3.e.cYR,.slice b3.e.pYA z.fin.yes.args.length b3.e.cYA,.int .i64 z.fin.no.block,.slice b3.e.pNR z.fin.no.regs.length b3.e.cNR,.slice b3.e.pNA z.fin.no.args.length b3.e.cNA,.slice b3.e.pA z.fin.args.length b3.e.cA]),(75,fun v _=>v=.pointer (some ⟨BD7,3,none⟩)),(76,fun v _=>v=.slice f2.pB y.blocks.length f2.cB),(77,fun v _=>v=.int .i64 (qb:Int)),(78,fun v _=>v=.pointer (some ⟨g4,o4+qb*12,none⟩)),(79,fun v _=>v=.agg #[.int .i64 u.regs,.slice b4.pP u.params.length b4.cP,.slice b4.pC u.code.length b4.cC,.int .i64 u.fin.op,.int .i64 u.fin.a,.int .i64 u.fin.yes.block,.slice b4.e.pYR u.fin.yes.regs.length b4.e.cYR,.slice b4.e.pYA u.fin.yes.args.length b4.e.cYA,.int .i64 u.fin.no.block,.slice b4.e.pNR u.fin.no.regs.length b4.e.cNR,.slice b4.e.pNA u.fin.no.args.length b4.e.cNA,.slice b4.e.pA u.fin.args.length b4.e.cA]),(80,fun v _=>v=.bool (bdec (z=u))),(81,fun v _=>v=.bool (!(bdec (z=u))))]:PTab) (fun w'=>Wd w w' [(BD6,#[.int .i64 x.regs,.slice f1.pP x.params.length f1.cP,.slice f1.pR x.results.length f1.cR,.slice f1.pB x.blocks.length f1.cB],46),(BD7,#[.int .i64 y.regs,.slice f2.pP y.params.length f2.cP,.slice f2.pR y.results.length f2.cR,.slice f2.pB y.blocks.length f2.cB],46),(B3,#[.slice p2 k.length d],24),(B2,#[.slice p m.length c],24)]∧Below w48.heap.size w48 w') (fun w w'=>Below w.heap.size w w') (outs:=[6,8,7]) (gs:=[]) (bs:=[true,true,true,true,true,true,true,true,true,true,true,true]) (by kernel_rfl) hF54 rfl (by kernel_rfl) (by kernel_rfl) ?hR ?hG ⟨hW48.drewN 1,drewN_below (m:=1) (Below.refl _ _)⟩ ⟨ho6,ho8,ho7,trivial⟩ ?hA ?hend
     case hR=>exact ⟨fun _ _ _ _ h=>h,fun _ _ _ _ h=>h,fun _ _ _ _ h=>h,fun _ _ _ _ h=>h,fun _ _ _ _ h=>h,fun _ _ _ _ h=>h,fun _ _ _ _ h=>h,fun _ _ _ _ h=>h,fun _ _ _ _ h=>h,fun _ _ _ _ h=>h,fun _ _ _ _ h=>h,fun _ _ _ _ h=>h,fun _ _ _ _ h=>h,fun _ _ _ _ h=>h,fun _ _ _ _ h=>h,trivial⟩
     case hG=>exact trivial
     case hA =>
      refine ⟨fun a w hW hk K hK=>?_,?_⟩
      · obtain ⟨k0,-⟩:=hk;have k0:a.tmps.getD 6 undef=.pointer (some ⟨BD6,0,none⟩):=k0;go_simp;exact hK _ _ (Below.refl _ _) hW rfl
      refine ⟨fun a w hW hk K hK=>?_,?_⟩
      · obtain ⟨k0,-⟩:=hk;have k0:a.tmps.getD 70 undef=.pointer (some ⟨BD6,3,none⟩):=k0;have c3:w.cell? ⟨BD6,3,none⟩=some (.slice f1.pB x.blocks.length f1.cB):=cellOf (hW.1.get 0 rfl) 3 _ rfl;go_simp;exact hK _ _ (Below.refl _ _) hW rfl
      refine ⟨fun a w hW hk K hK=>?_,?_⟩
      · obtain ⟨k0,-⟩:=hk;have k0:a.tmps.getD 8 undef=.int .i64 (qb:Int):=k0;go_simp;exact hK _ _ (Below.refl _ _) hW rfl
      refine ⟨fun a w hW hk K hK=>?_,?_⟩
      · obtain ⟨k0,k1,-⟩:=hk;have k0:a.tmps.getD 71 undef=.slice f1.pB x.blocks.length f1.cB:=k0;have k1:a.tmps.getD 72 undef=.int .i64 (qb:Int):=k1;have hpq:=hp3.out;have hk0:(0:Int)≤qb:=by omega
        have hk1:(qb:Int)<(x.blocks.length:Int):=by omega
        go_simp;exact hK _ _ (Below.refl _ _) hW rfl
      refine ⟨fun a w hW hk K hK=>?_,?_⟩
      · obtain ⟨k0,-⟩:=hk;have k0:a.tmps.getD 73 undef=.pointer (some ⟨g3,o3+qb*12,none⟩):=k0;have d0:w.cell? ⟨g3,o3+qb*12,none⟩=some (.int .i64 z.regs):=bel_cell hW.1.bel (E3.out 0 _ rfl);have d1:w.cell? ⟨g3,o3+qb*12+1,none⟩=some (.slice b3.pP z.params.length b3.cP):=bel_cell hW.1.bel (E3.out 1 _ rfl);have d2:w.cell? ⟨g3,o3+qb*12+2,none⟩=some (.slice b3.pC z.code.length b3.cC):=bel_cell hW.1.bel (E3.out 2 _ rfl);have d3:w.cell? ⟨g3,o3+qb*12+3,none⟩=some (.int .i64 z.fin.op):=bel_cell hW.1.bel (E3.out 3 _ rfl);have d4:w.cell? ⟨g3,o3+qb*12+4,none⟩=some (.int .i64 z.fin.a):=bel_cell hW.1.bel (E3.out 4 _ rfl);have d5:w.cell? ⟨g3,o3+qb*12+5,none⟩=some (.int .i64 z.fin.yes.block):=bel_cell hW.1.bel (E3.out 5 _ rfl);have d6:w.cell? ⟨g3,o3+qb*12+6,none⟩=some (.slice b3.e.pYR z.fin.yes.regs.length b3.e.cYR):=bel_cell hW.1.bel (E3.out 6 _ rfl);have d7:w.cell? ⟨g3,o3+qb*12+7,none⟩=some (.slice b3.e.pYA z.fin.yes.args.length b3.e.cYA):=bel_cell hW.1.bel (E3.out 7 _ rfl);have d8:w.cell? ⟨g3,o3+qb*12+8,none⟩=some (.int .i64 z.fin.no.block):=bel_cell hW.1.bel (E3.out 8 _ rfl);have d9:w.cell? ⟨g3,o3+qb*12+9,none⟩=some (.slice b3.e.pNR z.fin.no.regs.length b3.e.cNR):=bel_cell hW.1.bel (E3.out 9 _ rfl);have d10:w.cell? ⟨g3,o3+qb*12+10,none⟩=some (.slice b3.e.pNA z.fin.no.args.length b3.e.cNA):=bel_cell hW.1.bel (E3.out 10 _ rfl);have d11:w.cell? ⟨g3,o3+qb*12+11,none⟩=some (.slice b3.e.pA z.fin.args.length b3.e.cA):=bel_cell hW.1.bel (E3.out 11 _ rfl);go_simp;exact hK _ _ (Below.refl _ _) hW rfl
      refine ⟨fun a w hW hk K hK=>?_,?_⟩
      · obtain ⟨k0,-⟩:=hk;have k0:a.tmps.getD 7 undef=.pointer (some ⟨BD7,0,none⟩):=k0;go_simp;exact hK _ _ (Below.refl _ _) hW rfl
      refine ⟨fun a w hW hk K hK=>?_,?_⟩
      · obtain ⟨k0,-⟩:=hk;have k0:a.tmps.getD 75 undef=.pointer (some ⟨BD7,3,none⟩):=k0;have c3:w.cell? ⟨BD7,3,none⟩=some (.slice f2.pB y.blocks.length f2.cB):=cellOf (hW.1.get 1 rfl) 3 _ rfl;go_simp;exact hK _ _ (Below.refl _ _) hW rfl
      refine ⟨fun a w hW hk K hK=>?_,?_⟩
      · obtain ⟨k0,-⟩:=hk;have k0:a.tmps.getD 8 undef=.int .i64 (qb:Int):=k0;go_simp;exact hK _ _ (Below.refl _ _) hW rfl
      refine ⟨fun a w hW hk K hK=>?_,?_⟩
      · obtain ⟨k0,k1,-⟩:=hk;have k0:a.tmps.getD 76 undef=.slice f2.pB y.blocks.length f2.cB:=k0;have k1:a.tmps.getD 77 undef=.int .i64 (qb:Int):=k1;have hpq:=hp4.out;have hk0:(0:Int)≤qb:=by omega
        have hk1:(qb:Int)<(y.blocks.length:Int):=by omega
        go_simp;exact hK _ _ (Below.refl _ _) hW rfl
      refine ⟨fun a w hW hk K hK=>?_,?_⟩
      · obtain ⟨k0,-⟩:=hk;have k0:a.tmps.getD 78 undef=.pointer (some ⟨g4,o4+qb*12,none⟩):=k0;have d0:w.cell? ⟨g4,o4+qb*12,none⟩=some (.int .i64 u.regs):=bel_cell hW.1.bel (E4.out 0 _ rfl);have d1:w.cell? ⟨g4,o4+qb*12+1,none⟩=some (.slice b4.pP u.params.length b4.cP):=bel_cell hW.1.bel (E4.out 1 _ rfl);have d2:w.cell? ⟨g4,o4+qb*12+2,none⟩=some (.slice b4.pC u.code.length b4.cC):=bel_cell hW.1.bel (E4.out 2 _ rfl);have d3:w.cell? ⟨g4,o4+qb*12+3,none⟩=some (.int .i64 u.fin.op):=bel_cell hW.1.bel (E4.out 3 _ rfl);have d4:w.cell? ⟨g4,o4+qb*12+4,none⟩=some (.int .i64 u.fin.a):=bel_cell hW.1.bel (E4.out 4 _ rfl);have d5:w.cell? ⟨g4,o4+qb*12+5,none⟩=some (.int .i64 u.fin.yes.block):=bel_cell hW.1.bel (E4.out 5 _ rfl);have d6:w.cell? ⟨g4,o4+qb*12+6,none⟩=some (.slice b4.e.pYR u.fin.yes.regs.length b4.e.cYR):=bel_cell hW.1.bel (E4.out 6 _ rfl);have d7:w.cell? ⟨g4,o4+qb*12+7,none⟩=some (.slice b4.e.pYA u.fin.yes.args.length b4.e.cYA):=bel_cell hW.1.bel (E4.out 7 _ rfl);have d8:w.cell? ⟨g4,o4+qb*12+8,none⟩=some (.int .i64 u.fin.no.block):=bel_cell hW.1.bel (E4.out 8 _ rfl);have d9:w.cell? ⟨g4,o4+qb*12+9,none⟩=some (.slice b4.e.pNR u.fin.no.regs.length b4.e.cNR):=bel_cell hW.1.bel (E4.out 9 _ rfl);have d10:w.cell? ⟨g4,o4+qb*12+10,none⟩=some (.slice b4.e.pNA u.fin.no.args.length b4.e.cNA):=bel_cell hW.1.bel (E4.out 10 _ rfl);have d11:w.cell? ⟨g4,o4+qb*12+11,none⟩=some (.slice b4.e.pA u.fin.args.length b4.e.cA):=bel_cell hW.1.bel (E4.out 11 _ rfl);go_simp;exact hK _ _ (Below.refl _ _) hW rfl
      refine ⟨fun a w hW hk K hK=>?_,?_⟩
      · obtain ⟨k0,k1,-⟩:=hk;have k0:a.tmps.getD 74 undef=.agg #[.int .i64 z.regs,.slice b3.pP z.params.length b3.cP,.slice b3.pC z.code.length b3.cC,.int .i64 z.fin.op,.int .i64 z.fin.a,.int .i64 z.fin.yes.block,.slice b3.e.pYR z.fin.yes.regs.length b3.e.cYR,.slice b3.e.pYA z.fin.yes.args.length b3.e.cYA,.int .i64 z.fin.no.block,.slice b3.e.pNR z.fin.no.regs.length b3.e.cNR,.slice b3.e.pNA z.fin.no.args.length b3.e.cNA,.slice b3.e.pA z.fin.args.length b3.e.cA]:=k0;have k1:a.tmps.getD 79 undef=.agg #[.int .i64 u.regs,.slice b4.pP u.params.length b4.cP,.slice b4.pC u.code.length b4.cC,.int .i64 u.fin.op,.int .i64 u.fin.a,.int .i64 u.fin.yes.block,.slice b4.e.pYR u.fin.yes.regs.length b4.e.cYR,.slice b4.e.pYA u.fin.yes.args.length b4.e.cYA,.int .i64 u.fin.no.block,.slice b4.e.pNR u.fin.no.regs.length b4.e.cNR,.slice b4.e.pNA u.fin.no.args.length b4.e.cNA,.slice b4.e.pA u.fin.args.length b4.e.cA]:=k1;have hC:Rd Tryz.prog 35 #[.agg #[.int .i64 z.regs,.slice b3.pP z.params.length b3.cP,.slice b3.pC z.code.length b3.cC,.int .i64 z.fin.op,.int .i64 z.fin.a,.int .i64 z.fin.yes.block,.slice b3.e.pYR z.fin.yes.regs.length b3.e.cYR,.slice b3.e.pYA z.fin.yes.args.length b3.e.cYA,.int .i64 z.fin.no.block,.slice b3.e.pNR z.fin.no.regs.length b3.e.cNR,.slice b3.e.pNA z.fin.no.args.length b3.e.cNA,.slice b3.e.pA z.fin.args.length b3.e.cA],.agg #[.int .i64 u.regs,.slice b4.pP u.params.length b4.cP,.slice b4.pC u.code.length b4.cC,.int .i64 u.fin.op,.int .i64 u.fin.a,.int .i64 u.fin.yes.block,.slice b4.e.pYR u.fin.yes.regs.length b4.e.cYR,.slice b4.e.pYA u.fin.yes.args.length b4.e.cYA,.int .i64 u.fin.no.block,.slice b4.e.pNR u.fin.no.regs.length b4.e.cNR,.slice b4.e.pNA u.fin.no.args.length b4.e.cNA,.slice b4.e.pA u.fin.args.length b4.e.cA]] w (.bool (bdec (z=u))):=sameBlock_any (In3.out.below hW.1.bel) (In4.out.below hW.1.bel) (hs1.out.2.2.2 z (List.mem_of_getElem? hx3.out));go_simp;refine hC.mono ?_;rintro e w9 ⟨rfl,hb⟩;exact hK _ _ hb ⟨hW.1.below hb,Below.andThen hW.2 hb⟩ rfl
      refine ⟨fun a w hW hk K hK=>?_,?_⟩
      · obtain ⟨k0,-⟩:=hk;have k0:a.tmps.getD 80 undef=.bool (bdec (z=u)):=k0;go_simp;exact hK _ _ (Below.refl _ _) hW rfl
      trivial
     case hend =>
      intro ops a55 w55 hWD hE hFD;have hd81:a55.tmps.getD 81 undef=.bool (!(bdec (z=u))):=hE 81 rfl;have hF55:Fr 82 a55 [(81,.bool (!(bdec (z=u)))),(1,.agg #[.slice p2 k.length d]),(0,.agg #[.slice p m.length c]),(2,.pointer (some ⟨B2,0,none⟩)),(3,.pointer (some ⟨B3,0,none⟩)),(4,.bool false),(5,.int .i64 (q:Int)),(6,.pointer (some ⟨BD6,0,none⟩)),(7,.pointer (some ⟨BD7,0,none⟩)),(8,.int .i64 (qb:Int))]:=(hFD.cons hd81);clear hd81;have hW55:Wd w w55 [(BD6,#[.int .i64 x.regs,.slice f1.pP x.params.length f1.cP,.slice f1.pR x.results.length f1.cR,.slice f1.pB x.blocks.length f1.cB],46),(BD7,#[.int .i64 y.regs,.slice f2.pP y.params.length f2.cP,.slice f2.pR y.results.length f2.cR,.slice f2.pB y.blocks.length f2.cB],46),(B3,#[.slice p2 k.length d],24),(B2,#[.slice p m.length c],24)]:=hWD.1;clear hFD hWD hE hF54 h51;clear hW48;refine wpList_nil ?_;refine hK53 _ _ ?_;refine fr_cond (t:=81) hF55 rfl (fun hb=>?_) (fun hb=>?_)
      ·have hb:(bdec (z=u))=false:=by simpa using hb
       have hel:¬ (z=u):=fun h=>by rw [bdec_true h] at hb;cases hb
       clear hb;refine wp_seq_k fun K56 hK56=>?_;refine rg hF55 fun ops=>?_;clear hF55 a55;refine sa trivial rfl rfl ?_;refine St.nil fun a57 h57=>?_;refine hK56 _ _ ?_;refine wp_ret ?_;with_reducible repeat first | refine of_then_ret ?_ | refine of_block_ret ?_
       have RX:¬ x=y:=by
         intro e;have h1:=hx3.out;rw [e,hx4.out] at h1;exact hel (Option.some.inj h1).symm
       have R:¬ m=k:=by
         intro e;have h1:=hx1.out;rw [e,hx2.out] at h1;exact RX (Option.some.inj h1).symm
       exact ret_tmp (t:=4) h57 rfl rfl ⟨by rw [bdec_false R],hW55.bel⟩
      have hb:(bdec (z=u))=true:=by simpa using hb
      have hel:(z=u):=bdec_iff.1 hb;clear hb;refine wp_skip ?_;refine hK52 _ _ ?_;refine rg hF55 fun ops=>?_;clear hF55 a55;refine sm trivial rfl rfl ?_;refine sad (by omega) trivial rfl rfl rfl ?_;refine sa trivial rfl rfl ?_;refine St.nil fun a58 h58=>?_;refine hKLb _ _ (x.blocks.length - (qb+1)) (by omega) ⟨qb+1,by omega,rfl,?_,(h58.keep (h58.keep (h58.keep (h58.keep (h58.keep (h58.keep (h58.keep (h58.keep (h58.keep h58.nil (t:=8) rfl) (t:=7) rfl) (t:=6) rfl) (t:=5) rfl) (t:=4) rfl) (t:=3) rfl) (t:=2) rfl) (t:=0) rfl) (t:=1) rfl),hW55⟩
      ·intro j hj
       by_cases e:j=qb
       · subst e;rw [hx3.out,hx4.out,hel]
       · exact hal2 j (by omega)
    have hge2:qb=x.blocks.length:=by have:=of_decide_eq_false hb;omega
    clear hb
    have RB:x.blocks=y.blocks:=by
      have:=hlb.out
      refine List.ext_getElem? fun i=>?_;by_cases hi:i<qb
      · exact hal2 i hi
      · rw [List.getElem?_eq_none (by omega),List.getElem?_eq_none (by omega)]
    have RX:x=y:=MFunc.eq_of hc28.out hc35 hc42 RB;refine wp_exit ?_;refine hK17 _ _ ?_;refine rg h51 fun ops=>?_;clear h51 a51;refine sm trivial rfl rfl ?_;refine sad (by omega) trivial rfl rfl rfl ?_;refine sa trivial rfl rfl ?_;refine St.nil fun a59 h59=>?_;refine hKL _ _ (m.length - (q+1)) (by omega) ⟨q+1,by omega,rfl,?_,(h59.keep (h59.keep (h59.keep (h59.keep (h59.keep (h59.keep h59.nil (t:=5) rfl) (t:=4) rfl) (t:=3) rfl) (t:=2) rfl) (t:=0) rfl) (t:=1) rfl),hW48.tail.tail⟩
    ·intro j hj
     by_cases e:j=q
     · subst e;rw [hx1.out,hx2.out,RX]
     · exact hall j (by omega)
  have hge:q=m.length:=by have:=of_decide_eq_false hb;omega
  clear hb;refine wp_exit ?_;refine hK10 _ _ ?_;refine wp_seq_k fun K60 hK60=>?_;refine rg h16 fun ops=>?_;clear h16 a16;refine sa trivial rfl rfl ?_;refine St.nil fun a61 h61=>?_;refine hK60 _ _ ?_;refine wp_ret ?_;with_reducible repeat first | refine of_then_ret ?_ | refine of_block_ret ?_
  have R:m=k:=by
    have:=hlen.out
    refine List.ext_getElem? fun i=>?_;by_cases hi:i<q
    · exact hall i hi
    · rw [List.getElem?_eq_none (by omega),List.getElem?_eq_none (by omega)]
  exact ret_tmp (t:=4) h61 rfl rfl ⟨by rw [bdec_true R],hW13.bel⟩
end Go.Proofs.YtjdcjfpfpaplladGreat
namespace Go.Proofs.YtjdcjfpfpaplladGreat
open Go.ChangeShapes Go.WideShapes Go.ChangeAt Go.RowKit
set_option linter.unusedVariables false
theorem size_any : ∀ (n : Nat) (t : TT n) (a : Option Addr) (c : Nat) (w : World) (left : Int), TIn w All t a → 0 ≤ left → left ≤ 2000 →
    Calls Tryz.prog 70 #[Tv t a c,.int .i64 left] w fun e w'=>e=.returned (.int .i64 (max (-1) (left - t.count)))∧Below w.heap.size w w':=by
  intro n
  induction n with
  | zero=>intro t;exact Empty.elim t
  | succ n ih =>
    intro t a c w left ht h0 h1
    have IH:Hid (∀ (t:TT n) (a:Option Addr) (c:Nat) (w:World) (left:Int),TIn w All t a→0≤left→left≤2000 →
      Calls Tryz.prog 70 #[Tv t a c,.int .i64 left] w fun e w'=>e=.returned (.int .i64 (max (-1) (left - t.count)))∧Below w.heap.size w w'):=ih
    clear ih;have hT:Hid (LIn w All t.2.2 a):=ht.list;have hc:t.count=1+(t.2.2.map TT.count).sum:=rfl;rw [hc];clear hc;simp only [Tv,TT.len_eq];generalize t.2.2=l at hT ⊢;generalize t.kind=k;generalize t.r=r;clear ht t;go_enter Tryz.func70,Tryz.ntmps70
    go_wp2_with fail
    have X0:Hid (Bx w (w.alloc (.cells #[.int .i64 k,.int .i64 r,.slice a l.length c] 88)) k r a l.length c):=Bx.start w k r a l.length c;generalize w.alloc (.cells #[.int .i64 k,.int .i64 r,.slice a l.length c] 88)=w1 at X0 ⊢;go_loopw [1,5] (fun lf i wr=>∃ q:Nat,q≤l.length∧i=.int .i64 q∧lf=.int .i64 (max (-1) (left - 1 - (((l.map TT.count).take q).sum:Nat)))∧Bx w wr k r a l.length c) (fun _ i _=>l.length - (intOf i).toNat)
    case atStart=>exact ⟨0,Nat.zero_le _,rfl,by simp;omega,X0.out⟩
    case round =>
      clear X0;obtain ⟨q,hq,rfl,rfl,hX⟩:=hrel;generalize hs:(((l.map TT.count).take q).sum:Nat)=s;have e2:wr.cell? ⟨w.heap.size,2,none⟩=some (.slice a l.length c):=cellOf hX.box 2 _ rfl;have X1:Hid (Bx w wr k r a l.length c):=hX;by_cases hlt:q<l.length
      · by_cases hge:0≤max (-1) (left - 1 - (s:Int))
        · have hx:l[q]?=some l[q]:=List.getElem?_eq_getElem hlt;generalize l[q]=x at hx;obtain ⟨g,o,a',c',rfl,_,d0,d1,d2,hk⟩:=LIn.at (hT.out.below hX.bel) hx;have H:Hid (TIn wr All x a'):=hk;have hS:=sum_take_succ TT.count l q x hx;rw [hs] at hS;have HS:Hid (((l.map TT.count).take (q+1)).sum=s+x.count):=hS;have S:Hid (max (-1) (left - 1 - (s:Int))≤2000):=by show _≤_;omega
          clear hX hk hx hS;generalize hm:max (-1) (left - 1 - (s:Int))=m at hge S;have M:Hid (max (-1) (left - 1 - (s:Int))=m):=hm;clear hm;have hk0:(0:Int)≤q:=by omega
          have hk1:(q:Int)<l.length:=by omega
          have hk2:(q:Int)<2000:=by
            have h3:=length_le_sum ((l.map TT.count).take q) (fun y hy=>by obtain ⟨z,_,rfl⟩:=List.mem_map.1 (List.mem_of_mem_take hy);exact z.count_pos);have h4:=M.out;rw [List.length_take,List.length_map] at h3;omega
          clear hs;go_wp2_with fail
          refine (IH.out x a' c' _ m H.out hge S.out).mono ?_;rintro e w2 ⟨rfl,b2⟩;have X2:Hid (Bx w w2 k r (some ⟨g,o,none⟩) l.length c):=X1.out.below b2;clear X1;go_wp2
          go_roundw
          case rel=>exact ⟨q+1,by omega,by go_num,by rw [HS.out];have:=M.out;have:=x.count_pos;congr 1;omega,X2.out⟩
          case measure=>simp [intOf];omega
        · have F:Hid (max (-1) (left - 1 - (s:Int))=max (-1) (left - ((1+(l.map TT.count).sum:Nat):Int))):=by
            have:=sum_take_le (l.map TT.count) q
            show _=_;omega
          have hge':max (-1) (left - 1 - (s:Int))<0:=by omega
          generalize max (-1) (left - 1 - (s:Int))=m at F hge' ⊢;clear hge hs;have hk1:(q:Int)<l.length:=by omega
          go_wp2
          go_ret;exact ⟨by show Ending.returned (.int .i64 m)=_;have:=F.out;congr 2,X1.out.bel⟩
      · have F:Hid (max (-1) (left - 1 - (s:Int))=max (-1) (left - ((1+(l.map TT.count).sum:Nat):Int))):=by
          rw [List.take_of_length_le (by simp;omega)] at hs;show _=_;omega
        generalize max (-1) (left - 1 - (s:Int))=m at F ⊢;clear hs;have hk1:¬ (q:Int)<l.length:=by omega
        go_wp2
        go_ret;exact ⟨by show Ending.returned (.int .i64 m)=_;have:=F.out;congr 2,X1.out.bel⟩
theorem great_any (n : Nat) (t : TT n) (a : Option Addr) (c : Nat) (w : World) (ht : TIn w All t a) :
    Calls Tryz.prog 44 #[Tv t a c] w fun e w'=>e=.returned (.bool (decide (2000<t.count)))∧Below w.heap.size w w':=by
  have C:Hid (∀ wx,Below w.heap.size w wx→Calls Tryz.prog 70 #[Tv t a c,.int .i64 2000] wx fun e w'=>e=.returned (.int .i64 (max (-1) (2000 - (t.count:Int))))∧Below wx.heap.size wx w') :=
    fun wx hb=>size_any n t a c wx 2000 (ht.below hb) (by omega) (by omega)
  clear ht;simp only [Tv] at C ⊢;generalize t.kind=k at C ⊢;generalize t.r=r at C ⊢;generalize t.len=len at C ⊢;generalize t.count=q at C ⊢;go_enter Tryz.func44,Tryz.ntmps44
  go_wp2_with fail
  refine (C.out _ ((Below.refl _ w).alloc (Nat.le_refl _) _)).mono ?_;rintro e w2 ⟨rfl,b2⟩;have B:Hid (Below w.heap.size w w2):=((Below.refl _ w).alloc (Nat.le_refl _) _).trans (b2.mono (by simp));have F:Hid (max (-1) (2000 - (q:Int))<0 ↔ 2000<q):=by show _ ↔ _;omega
  generalize max (-1) (2000 - (q:Int))=m at F ⊢;clear b2 C;go_wp2
  go_ret;exact ⟨by show Ending.returned (.bool (decide (m<0)))=_;rw [decide_eq_decide.2 F.out],B.out⟩
end Go.Proofs.YtjdcjfpfpaplladGreat
namespace Go.Proofs.YtjdcjfpfpaplladGreat
open Go.ChangeShapes Go.WideShapes Go.ChangeAt Go.RowKit
set_option linter.unusedSimpArgs false
set_option linter.unusedVariables false
theorem greatTypes_any (n : Nat) (l : List (TT n)) (p : Option Addr) (c : Nat) (w : World) (hl0 : LIn w All l p) :
    Rd Tryz.prog 18 #[.slice p l.length c] w (.bool (bdec (greatTs l))):=by
  have hl:Hid (LIn w All l p):=hl0;clear hl0;refine fr_enter (n:=18) Tryz.func18 rfl rfl rfl ?_;intro a hF;have hW:=Wd.start w;replace hF:Fr 18 a [(0,.slice p l.length c)]:=hF;refine wp_seq_k fun K1 hK1=>?_;refine rg hF fun ops=>?_;clear hF a;refine sa trivial rfl rfl ?_;refine St.nil fun a2 h2=>?_;refine hK1 _ _ ?_;refine wp_seq_k fun K3 hK3=>?_;refine wp_seq_k fun K4 hK4=>?_;refine rg h2 fun ops=>?_;clear h2 a2;refine sm trivial rfl rfl ?_;refine slTypes trivial rfl rfl ?_;refine sgt trivial rfl rfl rfl ?_;refine St.nil fun a5 h5=>?_;refine hK4 _ _ ?_;refine fr_cond (t:=6) h5 rfl (fun hb=>?_) (fun hb=>?_)
  ·have hlen:200<l.length:=by have:=of_decide_eq_true hb;omega
   refine wp_seq_k fun K6 hK6=>?_;refine rg h5 fun ops=>?_;clear h5 a5;refine sa trivial rfl rfl ?_;refine St.nil fun a7 h7=>?_;refine hK6 _ _ ?_;refine wp_ret ?_;with_reducible repeat first | refine of_then_ret ?_ | refine of_block_ret ?_
   have GR:greatTs l:=by first | exact .inl hlen | exact .inr ⟨x,List.mem_of_getElem? hx.out,hcx⟩
   exact ret_tmp (t:=2) h7 rfl rfl ⟨by rw [bdec_true GR],hW.bel⟩
  have hlen:l.length≤200:=by have:=of_decide_eq_false hb;omega
  refine wp_skip ?_;refine hK3 _ _ ?_;refine wp_seq_k fun K8 hK8=>?_;refine wp_seq_k fun K9 hK9=>?_;refine rg h5 fun ops=>?_;clear h5 a5;refine sa trivial rfl rfl ?_;refine St.nil fun a10 h10=>?_;refine hK9 _ _ ?_;refine wp_block ?_;refine fr_loop (fun r a w'=>∃ q:Nat,q≤l.length∧r=l.length - q∧(∀ (j:Nat) x,j<q→l[j]?=some x→x.count≤2000)∧Fr 18 a [(0,.slice p l.length c),(2,.bool false),(3,.int .i64 (q:Int))]∧Wd w w' []) l.length ⟨0,Nat.zero_le _,rfl,fun j x hj=>by omega,(h10.keep (h10.keep (h10.keep h10.nil (t:=3) rfl) (t:=2) rfl) (t:=0) rfl),hW⟩ ?_;clear h10 hW;rintro r a11 w11 ⟨q,hq,hr,hall,hF11,hW11⟩ KL hKL;refine wp_seq_k fun K12 hK12=>?_;refine wp_seq_k fun K13 hK13=>?_;refine rg hF11 fun ops=>?_;clear hF11 a11;refine sm trivial rfl rfl ?_;refine sm trivial rfl rfl ?_;refine slTypes trivial rfl rfl ?_;refine slt trivial rfl rfl rfl ?_;refine St.nil fun a14 h14=>?_;refine hK13 _ _ ?_;refine fr_cond (t:=10) h14 rfl (fun hb=>?_) (fun hb=>?_)
  ·have hlt:q<l.length:=by have:=of_decide_eq_true hb;omega
   clear hb;obtain ⟨x,hx⟩:∃ x,l[q]?=some x:=⟨_,List.getElem?_eq_getElem hlt⟩;obtain ⟨g,o,p',c',hp,E,H⟩:=lin_at hl.out hx;replace hp:Hid _:=hp;replace E:Hid _:=E;replace H:Hid _:=H;replace hx:Hid _:=hx;refine wp_skip ?_;refine hK12 _ _ ?_;refine wp_seq_k fun K15 hK15=>?_;refine wp_block ?_;refine wp_seq_k fun K16 hK16=>?_;refine rg h14 fun ops=>?_;clear h14 a14;refine sm trivial rfl rfl ?_;refine sm trivial rfl rfl ?_;refine siTypes hp.out hlt trivial rfl rfl rfl ?_;refine sSE Tryz.underlying88 rfl (rangeAt_bel E.out hW11.bel) infType trivial rfl rfl ?_;refine sc_1 cf44 hW11 (great_any n x p' c' w11 (H.out.below hW11.bel)) trivial rfl rfl ?_;clear hW11;intro w17 hW17;refine St.nil fun a18 h18=>?_;refine hK16 _ _ ?_;refine fr_cond (t:=17) h18 rfl (fun hb=>?_) (fun hb=>?_)
   ·have hcx:2000<x.count:=of_decide_eq_true hb
    refine wp_seq_k fun K19 hK19=>?_;refine rg h18 fun ops=>?_;clear h18 a18;refine sa trivial rfl rfl ?_;refine St.nil fun a20 h20=>?_;refine hK19 _ _ ?_;refine wp_ret ?_;with_reducible repeat first | refine of_then_ret ?_ | refine of_block_ret ?_
    have GR:greatTs l:=by first | exact .inl hlen | exact .inr ⟨x,List.mem_of_getElem? hx.out,hcx⟩
    exact ret_tmp (t:=2) h20 rfl rfl ⟨by rw [bdec_true GR],hW17.bel⟩
   have hcx:x.count≤2000:=by have:=of_decide_eq_false hb;omega
   refine wp_skip ?_;refine hK15 _ _ ?_;refine rg h18 fun ops=>?_;clear h18 a18;refine sm trivial rfl rfl ?_;refine sad (by omega) trivial rfl rfl rfl ?_;refine sa trivial rfl rfl ?_;refine St.nil fun a21 h21=>?_;refine hKL _ _ (l.length - (q+1)) (by omega) ⟨q+1,by omega,rfl,fun j y hj hy=>?_,(h21.keep (h21.keep (h21.keep h21.nil (t:=3) rfl) (t:=2) rfl) (t:=0) rfl),hW17⟩;by_cases e:j=q
   · subst e;rw [hx.out] at hy;cases hy;exact hcx
   · exact hall j y (by omega) hy
  have hge:q=l.length:=by have:=of_decide_eq_false hb;omega
  refine wp_exit ?_;refine hK8 _ _ ?_;refine wp_seq_k fun K22 hK22=>?_;refine rg h14 fun ops=>?_;clear h14 a14;refine sa trivial rfl rfl ?_;refine St.nil fun a23 h23=>?_;refine hK22 _ _ ?_;refine wp_ret ?_;with_reducible repeat first | refine of_then_ret ?_ | refine of_block_ret ?_
  have GR:¬ greatTs l:=by
    rintro (h | ⟨x,hx,h⟩)
    · omega
    · obtain ⟨i,hi,rfl⟩:=List.mem_iff_getElem.1 hx
      have:=hall i _ (by omega) (List.getElem?_eq_getElem hi)
      omega
  exact ret_tmp (t:=2) h23 rfl rfl ⟨by rw [bdec_false GR],hW11.bel⟩
theorem greatModule_any (n : Nat) (m : List (MFunc n)) (p : Option Addr) (c : Nat) (w : World) (hm0 : (modL n).In w All m [.slice p m.length c]) :
    Rd Tryz.prog 7 #[.agg #[.slice p m.length c]] w (.bool (bdec (greatMod m))):=by
  have hm:Hid ((modL n).In w All m [.slice p m.length c]):=hm0;clear hm0;refine fr_enter (n:=123) Tryz.func7 rfl rfl rfl ?_;intro a hF;have hW:=Wd.start w;replace hF:Fr 123 a [(0,.agg #[.slice p m.length c])]:=hF;refine wp_seq_k fun K1 hK1=>?_;refine rg hF fun ops=>?_;clear hF a;refine sB hW trivial rfl rfl ?_;clear hW;intro w2 B2 hW2 hN;clear hN;refine sa trivial rfl rfl ?_;refine St.nil fun a3 h3=>?_;refine hK1 _ _ ?_;refine wp_seq_k fun K4 hK4=>?_;refine wp_seq_k fun K5 hK5=>?_;refine rg h3 fun ops=>?_;clear h3 a3;refine sfModule0 trivial rfl rfl ?_;refine sbFuncs 0 hW2 trivial rfl rfl rfl rfl ?_;refine slFuncs trivial rfl rfl ?_;refine sgt trivial rfl rfl rfl ?_;refine St.nil fun a6 h6=>?_;refine hK5 _ _ ?_;refine fr_cond (t:=11) h6 rfl (fun hb=>?_) (fun hb=>?_)
  ·have hc7:20<m.length:=by have:=of_decide_eq_true hb;omega
   clear hb;refine wp_seq_k fun K8 hK8=>?_;refine rg h6 fun ops=>?_;clear h6 a6;refine sa trivial rfl rfl ?_;refine St.nil fun a9 h9=>?_;refine hK8 _ _ ?_;refine wp_ret ?_;with_reducible repeat first | refine of_then_ret ?_ | refine of_block_ret ?_
   have GR:greatMod m:=.inl hc7;exact ret_tmp (t:=2) h9 rfl rfl ⟨by rw [bdec_true GR],hW2.bel⟩
  have hc10:¬ (20<m.length):=by have:=of_decide_eq_false hb;omega
  clear hb;refine wp_skip ?_;refine hK4 _ _ ?_;refine wp_seq_k fun K11 hK11=>?_;refine wp_seq_k fun K12 hK12=>?_;refine rg h6 fun ops=>?_;clear h6 a6;refine sa trivial rfl rfl ?_;refine St.nil fun a13 h13=>?_;refine hK12 _ _ ?_;refine wp_block ?_;refine fr_loop (fun r a w'=>∃ q1:Nat,q1≤m.length∧r=m.length - q1∧(∀ (j:Nat) x,j<q1→m[j]?=some x→¬ x.great)∧Fr 123 a [(0,.agg #[.slice p m.length c]),(1,.pointer (some ⟨B2,0,none⟩)),(2,.bool false),(3,.int .i64 (q1:Int))]∧Wd w w' [(B2,#[.slice p m.length c],24)]) (m.length) ⟨0,Nat.zero_le _,rfl,(fun j x hj=>by omega),(h13.keep (h13.keep (h13.keep (h13.keep h13.nil (t:=3) rfl) (t:=2) rfl) (t:=1) rfl) (t:=0) rfl),hW2⟩ ?_;clear h13 hW2;rintro r1 a14 w14 ⟨q1,hq1,hr1,hall1,hF14,hW14⟩ KL1 hKL1;refine wp_seq_k fun K15 hK15=>?_;refine wp_seq_k fun K16 hK16=>?_;refine rg hF14 fun ops=>?_;clear hF14 a14;refine sm trivial rfl rfl ?_;refine sfModule0 trivial rfl rfl ?_;refine sbFuncs 0 hW14 trivial rfl rfl rfl rfl ?_;refine slFuncs trivial rfl rfl ?_;refine slt trivial rfl rfl rfl ?_;refine St.nil fun a17 h17=>?_;refine hK16 _ _ ?_;refine fr_cond (t:=16) h17 rfl (fun hb=>?_) (fun hb=>?_)
  ·have hlt1:q1<m.length:=by have:=of_decide_eq_true hb;omega
   clear hb;obtain ⟨x,hx1⟩:∃ v9,(m)[q1]?=some v9:=⟨_,List.getElem?_eq_getElem hlt1⟩;obtain ⟨g1,o1,f1,hp1,E1,In1⟩:=func_at hm.out hx1;replace In1:Hid _:=In1;replace hp1:Hid _:=hp1;replace hx1:Hid _:=hx1;replace E1:Hid _:=E1;refine wp_skip ?_;refine hK15 _ _ ?_;refine wp_seq_k fun K18 hK18=>?_;refine wp_block ?_;refine wp_seq_k fun K19 hK19=>?_;refine rg h17 fun ops=>?_;clear h17 a17;refine sfModule0 trivial rfl rfl ?_;refine sbFuncs 0 hW14 trivial rfl rfl rfl rfl ?_;refine sm trivial rfl rfl ?_;refine siFuncs hp1.out hlt1 trivial rfl rfl rfl ?_;refine sSE Tryz.underlying46 rfl (rangeAt_bel E1.out hW14.bel) infFunc trivial rfl rfl ?_;refine sAFunc hW14 trivial rfl ?_;clear hW14;intro w20 B20 hW20 hN;clear hN;refine sT 0 hW20 rfl rfl infFunc rfl rfl rfl ?_;clear hW20;intro w21 hW21;refine St.nil fun a22 h22=>?_;refine hK19 _ _ ?_;refine wp_seq_k fun K23 hK23=>?_;refine wp_seq_k fun K24 hK24=>?_;refine fr_region ?_;intro ops hops;have hg4:(ops[4]?).bind (fun o:Oper=>o.dst)=some 28:=hops 4;have hg9:(ops[9]?).bind (fun o:Oper=>o.dst)=some 33:=hops 9;clear hops;refine St.go h22 ?_;clear h22 a22;refine sfFunc3 trivial rfl rfl ?_;refine sbBlocks 0 hW21 trivial rfl rfl rfl rfl ?_;refine slBlocks trivial rfl rfl ?_;refine sgt trivial rfl rfl rfl ?_;refine sm trivial rfl rfl ?_;intro a25 h25;rcases Bool.eq_false_or_eq_true (decide (30<(x.blocks.length:Int))) with hb | hb
   ·rw [hb] at h25
    have hc26:30<x.blocks.length:=by have:=of_decide_eq_true hb;omega
    clear hb;refine St.go h25 ?_;clear h25 a25;refine so hg4 rfl rfl rfl rfl ?_;refine so hg4 rfl rfl rfl rfl ?_;refine so hg4 rfl rfl rfl rfl ?_;refine sp trivial rfl rfl rfl ?_;refine sm trivial rfl rfl ?_;refine so hg9 rfl rfl rfl rfl ?_;refine so hg9 rfl rfl rfl rfl ?_;refine so hg9 rfl rfl rfl rfl ?_;refine sp trivial rfl rfl rfl ?_;refine St.nil fun a27 h27=>?_;refine hK24 _ _ ?_;refine fr_true (t:=37) h27 rfl ?_;refine wp_seq_k fun K28 hK28=>?_;refine rg h27 fun ops=>?_;clear h27 a27;refine sa trivial rfl rfl ?_;refine St.nil fun a29 h29=>?_;refine hK28 _ _ ?_;refine wp_ret ?_;with_reducible repeat first | refine of_then_ret ?_ | refine of_block_ret ?_
    have GR:greatMod m:=.inr ⟨x,List.mem_of_getElem? hx1.out,.inl hc26⟩;exact ret_tmp (t:=2) h29 rfl rfl ⟨by rw [bdec_true GR],hW21.bel⟩
   rw [hb] at h25;have hc30:¬ (30<x.blocks.length):=by have:=of_decide_eq_false hb;omega
   clear hb;refine St.go h25 ?_;clear h25 a25;refine sfFunc1 ⟨_,hg4,rfl,rfl⟩ rfl rfl ?_;refine sbTypes 0 hW21 ⟨_,hg4,rfl,rfl⟩ rfl rfl rfl rfl ?_;refine sc_1 cf18 hW21 (greatTypes_any n x.params f1.pP f1.cP w21 ((types_lin In1.out.params).1.below hW21.bel)) ⟨_,hg4,rfl,rfl⟩ rfl rfl ?_;clear hW21;intro w31 hW31;refine spf trivial rfl rfl rfl ?_;refine sm trivial rfl rfl ?_;intro a32 h32;rcases Bool.eq_false_or_eq_true (bdec (greatTs x.params)) with hb | hb
   ·rw [hb] at h32
    have hc33:(greatTs x.params):=bdec_iff.1 hb;clear hb;refine St.go h32 ?_;clear h32 a32;refine so hg9 rfl rfl rfl rfl ?_;refine so hg9 rfl rfl rfl rfl ?_;refine so hg9 rfl rfl rfl rfl ?_;refine sp trivial rfl rfl rfl ?_;refine St.nil fun a34 h34=>?_;refine hK24 _ _ ?_;refine fr_true (t:=37) h34 rfl ?_;refine wp_seq_k fun K35 hK35=>?_;refine rg h34 fun ops=>?_;clear h34 a34;refine sa trivial rfl rfl ?_;refine St.nil fun a36 h36=>?_;refine hK35 _ _ ?_;refine wp_ret ?_;with_reducible repeat first | refine of_then_ret ?_ | refine of_block_ret ?_
    have GR:greatMod m:=.inr ⟨x,List.mem_of_getElem? hx1.out,.inr (.inl hc33)⟩;exact ret_tmp (t:=2) h36 rfl rfl ⟨by rw [bdec_true GR],hW31.bel⟩
   rw [hb] at h32;have hc37:¬ (greatTs x.params):=fun h=>by rw [bdec_true h] at hb;cases hb
   clear hb;refine St.go h32 ?_;clear h32 a32;refine sfFunc2 ⟨_,hg9,rfl,rfl⟩ rfl rfl ?_;refine sbTypes 0 hW31 ⟨_,hg9,rfl,rfl⟩ rfl rfl rfl rfl ?_;refine sc_1 cf18 hW31 (greatTypes_any n x.results f1.pR f1.cR w31 ((types_lin In1.out.results).1.below hW31.bel)) ⟨_,hg9,rfl,rfl⟩ rfl rfl ?_;clear hW31;intro w38 hW38;refine spf trivial rfl rfl rfl ?_;refine St.nil fun a39 h39=>?_;refine hK24 _ _ ?_;refine fr_cond (t:=37) h39 rfl (fun hb=>?_) (fun hb=>?_)
   ·have hc40:(greatTs x.results):=bdec_iff.1 hb
    clear hb;refine wp_seq_k fun K41 hK41=>?_;refine rg h39 fun ops=>?_;clear h39 a39;refine sa trivial rfl rfl ?_;refine St.nil fun a42 h42=>?_;refine hK41 _ _ ?_;refine wp_ret ?_;with_reducible repeat first | refine of_then_ret ?_ | refine of_block_ret ?_
    have GR:greatMod m:=.inr ⟨x,List.mem_of_getElem? hx1.out,.inr (.inr (.inl hc40))⟩;exact ret_tmp (t:=2) h42 rfl rfl ⟨by rw [bdec_true GR],hW38.bel⟩
   have hc43:¬ (greatTs x.results):=fun h=>by rw [bdec_true h] at hb;cases hb
   clear hb;refine wp_skip ?_;refine hK23 _ _ ?_;refine wp_seq_k fun K44 hK44=>?_;refine rg h39 fun ops=>?_;clear h39 a39;refine sa trivial rfl rfl ?_;refine St.nil fun a45 h45=>?_;refine hK44 _ _ ?_;refine wp_block ?_;refine fr_loop (fun r a w'=>∃ q2:Nat,q2≤x.blocks.length∧r=x.blocks.length - q2∧(∀ (j:Nat) y,j<q2→x.blocks[j]?=some y→¬ y.great)∧Fr 123 a [(0,.agg #[.slice p m.length c]),(1,.pointer (some ⟨B2,0,none⟩)),(2,.bool false),(3,.int .i64 (q1:Int)),(4,.pointer (some ⟨B20,0,none⟩)),(5,.int .i64 (q2:Int))]∧Wd w w' [(B20,#[.int .i64 x.regs,.slice f1.pP x.params.length f1.cP,.slice f1.pR x.results.length f1.cR,.slice f1.pB x.blocks.length f1.cB],46),(B2,#[.slice p m.length c],24)]) (x.blocks.length) ⟨0,Nat.zero_le _,rfl,(fun j x hj=>by omega),(h45.keep (h45.keep (h45.keep (h45.keep (h45.keep (h45.keep h45.nil (t:=5) rfl) (t:=4) rfl) (t:=3) rfl) (t:=2) rfl) (t:=1) rfl) (t:=0) rfl),hW38⟩ ?_;clear h45 hW38;rintro r2 a46 w46 ⟨q2,hq2,hr2,hall2,hF46,hW46⟩ KL2 hKL2;refine wp_seq_k fun K47 hK47=>?_;refine wp_seq_k fun K48 hK48=>?_;refine rg hF46 fun ops=>?_;clear hF46 a46;refine sm trivial rfl rfl ?_;refine sfFunc3 trivial rfl rfl ?_;refine sbBlocks 0 hW46 trivial rfl rfl rfl rfl ?_;refine slBlocks trivial rfl rfl ?_;refine slt trivial rfl rfl rfl ?_;refine St.nil fun a49 h49=>?_;refine hK48 _ _ ?_;refine fr_cond (t:=42) h49 rfl (fun hb=>?_) (fun hb=>?_)
   ·have hlt2:q2<x.blocks.length:=by have:=of_decide_eq_true hb;omega
    clear hb;obtain ⟨y,hx2⟩:∃ v9,(x.blocks)[q2]?=some v9:=⟨_,List.getElem?_eq_getElem hlt2⟩;obtain ⟨g2,o2,b2,hp2,E2,In2⟩:=block_at In1.out.blocks hx2;replace In2:Hid _:=In2;replace hp2:Hid _:=hp2;replace hx2:Hid _:=hx2;replace E2:Hid _:=E2;refine wp_skip ?_;refine hK47 _ _ ?_;refine wp_seq_k fun K50 hK50=>?_;refine wp_block ?_;refine wp_seq_k fun K51 hK51=>?_;refine rg h49 fun ops=>?_;clear h49 a49;refine sfFunc3 trivial rfl rfl ?_;refine sbBlocks 0 hW46 trivial rfl rfl rfl rfl ?_;refine sm trivial rfl rfl ?_;refine siBlocks hp2.out hlt2 trivial rfl rfl rfl ?_;refine sSE Tryz.underlying55 rfl (rangeAt_bel E2.out hW46.bel) infBlock trivial rfl rfl ?_;refine sABlock hW46 trivial rfl ?_;clear hW46;intro w52 B52 hW52 hN;clear hN;refine sT 0 hW52 rfl rfl infBlock rfl rfl rfl ?_;clear hW52;intro w53 hW53;refine St.nil fun a54 h54=>?_;refine hK51 _ _ ?_;refine wp_seq_k fun K55 hK55=>?_;refine wp_seq_k fun K56 hK56=>?_;refine fr_region ?_;intro ops hops;have hg4:(ops[4]?).bind (fun o:Oper=>o.dst)=some 54:=hops 4;have hg9:(ops[9]?).bind (fun o:Oper=>o.dst)=some 59:=hops 9;have hg16:(ops[16]?).bind (fun o:Oper=>o.dst)=some 66:=hops 16;have hg24:(ops[24]?).bind (fun o:Oper=>o.dst)=some 74:=hops 24;have hg32:(ops[32]?).bind (fun o:Oper=>o.dst)=some 82:=hops 32;have hg40:(ops[40]?).bind (fun o:Oper=>o.dst)=some 90:=hops 40;clear hops;refine St.go h54 ?_;clear h54 a54;refine sfBlock2 trivial rfl rfl ?_;refine sbInss 0 hW53 trivial rfl rfl rfl rfl ?_;refine slInss trivial rfl rfl ?_;refine sgt trivial rfl rfl rfl ?_;refine sm trivial rfl rfl ?_;intro a57 h57;rcases Bool.eq_false_or_eq_true (decide (200<(y.code.length:Int))) with hb | hb
    ·rw [hb] at h57
     have hc58:200<y.code.length:=by have:=of_decide_eq_true hb;omega
     clear hb;refine St.go h57 ?_;clear h57 a57;refine so hg4 rfl rfl rfl rfl ?_;refine so hg4 rfl rfl rfl rfl ?_;refine so hg4 rfl rfl rfl rfl ?_;refine sp trivial rfl rfl rfl ?_;refine sm trivial rfl rfl ?_;refine so hg9 rfl rfl rfl rfl ?_;refine so hg9 rfl rfl rfl rfl ?_;refine so hg9 rfl rfl rfl rfl ?_;refine so hg9 rfl rfl rfl rfl ?_;refine so hg9 rfl rfl rfl rfl ?_;refine sp trivial rfl rfl rfl ?_;refine sm trivial rfl rfl ?_;refine so hg16 rfl rfl rfl rfl ?_;refine so hg16 rfl rfl rfl rfl ?_;refine so hg16 rfl rfl rfl rfl ?_;refine so hg16 rfl rfl rfl rfl ?_;refine so hg16 rfl rfl rfl rfl ?_;refine so hg16 rfl rfl rfl rfl ?_;refine sp trivial rfl rfl rfl ?_;refine sm trivial rfl rfl ?_;refine so hg24 rfl rfl rfl rfl ?_;refine so hg24 rfl rfl rfl rfl ?_;refine so hg24 rfl rfl rfl rfl ?_;refine so hg24 rfl rfl rfl rfl ?_;refine so hg24 rfl rfl rfl rfl ?_;refine so hg24 rfl rfl rfl rfl ?_;refine sp trivial rfl rfl rfl ?_;refine sm trivial rfl rfl ?_;refine so hg32 rfl rfl rfl rfl ?_;refine so hg32 rfl rfl rfl rfl ?_;refine so hg32 rfl rfl rfl rfl ?_;refine so hg32 rfl rfl rfl rfl ?_;refine so hg32 rfl rfl rfl rfl ?_;refine so hg32 rfl rfl rfl rfl ?_;refine sp trivial rfl rfl rfl ?_;refine sm trivial rfl rfl ?_;refine so hg40 rfl rfl rfl rfl ?_;refine so hg40 rfl rfl rfl rfl ?_;refine so hg40 rfl rfl rfl rfl ?_;refine so hg40 rfl rfl rfl rfl ?_;refine so hg40 rfl rfl rfl rfl ?_;refine so hg40 rfl rfl rfl rfl ?_;refine sp trivial rfl rfl rfl ?_;refine St.nil fun a59 h59=>?_;refine hK56 _ _ ?_;refine fr_true (t:=97) h59 rfl ?_;refine wp_seq_k fun K60 hK60=>?_;refine rg h59 fun ops=>?_;clear h59 a59;refine sa trivial rfl rfl ?_;refine St.nil fun a61 h61=>?_;refine hK60 _ _ ?_;refine wp_ret ?_;with_reducible repeat first | refine of_then_ret ?_ | refine of_block_ret ?_
     have GR:greatMod m:=.inr ⟨x,List.mem_of_getElem? hx1.out,.inr (.inr (.inr ⟨y,List.mem_of_getElem? hx2.out,.inl hc58⟩))⟩;exact ret_tmp (t:=2) h61 rfl rfl ⟨by rw [bdec_true GR],hW53.bel⟩
    rw [hb] at h57;have hc62:¬ (200<y.code.length):=by have:=of_decide_eq_false hb;omega
    clear hb;refine St.go h57 ?_;clear h57 a57;refine sfBlock1 ⟨_,hg4,rfl,rfl⟩ rfl rfl ?_;refine sbTypes 0 hW53 ⟨_,hg4,rfl,rfl⟩ rfl rfl rfl rfl ?_;refine sc_1 cf18 hW53 (greatTypes_any n y.params b2.pP b2.cP w53 ((types_lin In2.out.params).1.below hW53.bel)) ⟨_,hg4,rfl,rfl⟩ rfl rfl ?_;clear hW53;intro w63 hW63;refine spf trivial rfl rfl rfl ?_;refine sm trivial rfl rfl ?_;intro a64 h64;rcases Bool.eq_false_or_eq_true (bdec (greatTs y.params)) with hb | hb
    ·rw [hb] at h64
     have hc65:(greatTs y.params):=bdec_iff.1 hb;clear hb;refine St.go h64 ?_;clear h64 a64;refine so hg9 rfl rfl rfl rfl ?_;refine so hg9 rfl rfl rfl rfl ?_;refine so hg9 rfl rfl rfl rfl ?_;refine so hg9 rfl rfl rfl rfl ?_;refine so hg9 rfl rfl rfl rfl ?_;refine sp trivial rfl rfl rfl ?_;refine sm trivial rfl rfl ?_;refine so hg16 rfl rfl rfl rfl ?_;refine so hg16 rfl rfl rfl rfl ?_;refine so hg16 rfl rfl rfl rfl ?_;refine so hg16 rfl rfl rfl rfl ?_;refine so hg16 rfl rfl rfl rfl ?_;refine so hg16 rfl rfl rfl rfl ?_;refine sp trivial rfl rfl rfl ?_;refine sm trivial rfl rfl ?_;refine so hg24 rfl rfl rfl rfl ?_;refine so hg24 rfl rfl rfl rfl ?_;refine so hg24 rfl rfl rfl rfl ?_;refine so hg24 rfl rfl rfl rfl ?_;refine so hg24 rfl rfl rfl rfl ?_;refine so hg24 rfl rfl rfl rfl ?_;refine sp trivial rfl rfl rfl ?_;refine sm trivial rfl rfl ?_;refine so hg32 rfl rfl rfl rfl ?_;refine so hg32 rfl rfl rfl rfl ?_;refine so hg32 rfl rfl rfl rfl ?_;refine so hg32 rfl rfl rfl rfl ?_;refine so hg32 rfl rfl rfl rfl ?_;refine so hg32 rfl rfl rfl rfl ?_;refine sp trivial rfl rfl rfl ?_;refine sm trivial rfl rfl ?_;refine so hg40 rfl rfl rfl rfl ?_;refine so hg40 rfl rfl rfl rfl ?_;refine so hg40 rfl rfl rfl rfl ?_;refine so hg40 rfl rfl rfl rfl ?_;refine so hg40 rfl rfl rfl rfl ?_;refine so hg40 rfl rfl rfl rfl ?_;refine sp trivial rfl rfl rfl ?_;refine St.nil fun a66 h66=>?_;refine hK56 _ _ ?_;refine fr_true (t:=97) h66 rfl ?_;refine wp_seq_k fun K67 hK67=>?_;refine rg h66 fun ops=>?_;clear h66 a66;refine sa trivial rfl rfl ?_;refine St.nil fun a68 h68=>?_;refine hK67 _ _ ?_;refine wp_ret ?_;with_reducible repeat first | refine of_then_ret ?_ | refine of_block_ret ?_
     have GR:greatMod m:=.inr ⟨x,List.mem_of_getElem? hx1.out,.inr (.inr (.inr ⟨y,List.mem_of_getElem? hx2.out,.inr (.inl hc65)⟩))⟩;exact ret_tmp (t:=2) h68 rfl rfl ⟨by rw [bdec_true GR],hW63.bel⟩
    rw [hb] at h64;have hc69:¬ (greatTs y.params):=fun h=>by rw [bdec_true h] at hb;cases hb
    clear hb;refine St.go h64 ?_;clear h64 a64;refine sfBlock3 ⟨_,hg9,rfl,rfl⟩ rfl rfl ?_;refine sfEnd4 ⟨_,hg9,rfl,rfl⟩ rfl rfl ?_;refine sbInts 0 hW63 ⟨_,hg9,rfl,rfl⟩ rfl rfl rfl rfl ?_;refine slInts ⟨_,hg9,rfl,rfl⟩ rfl rfl ?_;refine sgt ⟨_,hg9,rfl,rfl⟩ rfl rfl rfl ?_;refine spf trivial rfl rfl rfl ?_;refine sm trivial rfl rfl ?_;intro a70 h70;rcases Bool.eq_false_or_eq_true (decide (300<(y.fin.args.length:Int))) with hb | hb
    ·rw [hb] at h70
     have hc71:300<y.fin.args.length:=by have:=of_decide_eq_true hb;omega
     clear hb;refine St.go h70 ?_;clear h70 a70;refine so hg16 rfl rfl rfl rfl ?_;refine so hg16 rfl rfl rfl rfl ?_;refine so hg16 rfl rfl rfl rfl ?_;refine so hg16 rfl rfl rfl rfl ?_;refine so hg16 rfl rfl rfl rfl ?_;refine so hg16 rfl rfl rfl rfl ?_;refine sp trivial rfl rfl rfl ?_;refine sm trivial rfl rfl ?_;refine so hg24 rfl rfl rfl rfl ?_;refine so hg24 rfl rfl rfl rfl ?_;refine so hg24 rfl rfl rfl rfl ?_;refine so hg24 rfl rfl rfl rfl ?_;refine so hg24 rfl rfl rfl rfl ?_;refine so hg24 rfl rfl rfl rfl ?_;refine sp trivial rfl rfl rfl ?_;refine sm trivial rfl rfl ?_;refine so hg32 rfl rfl rfl rfl ?_;refine so hg32 rfl rfl rfl rfl ?_;refine so hg32 rfl rfl rfl rfl ?_;refine so hg32 rfl rfl rfl rfl ?_;refine so hg32 rfl rfl rfl rfl ?_;refine so hg32 rfl rfl rfl rfl ?_;refine sp trivial rfl rfl rfl ?_;refine sm trivial rfl rfl ?_;refine so hg40 rfl rfl rfl rfl ?_;refine so hg40 rfl rfl rfl rfl ?_;refine so hg40 rfl rfl rfl rfl ?_;refine so hg40 rfl rfl rfl rfl ?_;refine so hg40 rfl rfl rfl rfl ?_;refine so hg40 rfl rfl rfl rfl ?_;refine sp trivial rfl rfl rfl ?_;refine St.nil fun a72 h72=>?_;refine hK56 _ _ ?_;refine fr_true (t:=97) h72 rfl ?_;refine wp_seq_k fun K73 hK73=>?_;refine rg h72 fun ops=>?_;clear h72 a72;refine sa trivial rfl rfl ?_;refine St.nil fun a74 h74=>?_;refine hK73 _ _ ?_;refine wp_ret ?_;with_reducible repeat first | refine of_then_ret ?_ | refine of_block_ret ?_
     have GR:greatMod m:=.inr ⟨x,List.mem_of_getElem? hx1.out,.inr (.inr (.inr ⟨y,List.mem_of_getElem? hx2.out,.inr (.inr (.inl hc71))⟩))⟩;exact ret_tmp (t:=2) h74 rfl rfl ⟨by rw [bdec_true GR],hW63.bel⟩
    rw [hb] at h70;have hc75:¬ (300<y.fin.args.length):=by have:=of_decide_eq_false hb;omega
    clear hb;refine St.go h70 ?_;clear h70 a70;refine sfBlock3 ⟨_,hg16,rfl,rfl⟩ rfl rfl ?_;refine sfEnd2 ⟨_,hg16,rfl,rfl⟩ rfl rfl ?_;refine sfTo1 ⟨_,hg16,rfl,rfl⟩ rfl rfl ?_;refine sbInts 0 hW63 ⟨_,hg16,rfl,rfl⟩ rfl rfl rfl rfl ?_;refine slInts ⟨_,hg16,rfl,rfl⟩ rfl rfl ?_;refine sgt ⟨_,hg16,rfl,rfl⟩ rfl rfl rfl ?_;refine spf trivial rfl rfl rfl ?_;refine sm trivial rfl rfl ?_;intro a76 h76;rcases Bool.eq_false_or_eq_true (decide (300<(y.fin.yes.regs.length:Int))) with hb | hb
    ·rw [hb] at h76
     have hc77:300<y.fin.yes.regs.length:=by have:=of_decide_eq_true hb;omega
     clear hb;refine St.go h76 ?_;clear h76 a76;refine so hg24 rfl rfl rfl rfl ?_;refine so hg24 rfl rfl rfl rfl ?_;refine so hg24 rfl rfl rfl rfl ?_;refine so hg24 rfl rfl rfl rfl ?_;refine so hg24 rfl rfl rfl rfl ?_;refine so hg24 rfl rfl rfl rfl ?_;refine sp trivial rfl rfl rfl ?_;refine sm trivial rfl rfl ?_;refine so hg32 rfl rfl rfl rfl ?_;refine so hg32 rfl rfl rfl rfl ?_;refine so hg32 rfl rfl rfl rfl ?_;refine so hg32 rfl rfl rfl rfl ?_;refine so hg32 rfl rfl rfl rfl ?_;refine so hg32 rfl rfl rfl rfl ?_;refine sp trivial rfl rfl rfl ?_;refine sm trivial rfl rfl ?_;refine so hg40 rfl rfl rfl rfl ?_;refine so hg40 rfl rfl rfl rfl ?_;refine so hg40 rfl rfl rfl rfl ?_;refine so hg40 rfl rfl rfl rfl ?_;refine so hg40 rfl rfl rfl rfl ?_;refine so hg40 rfl rfl rfl rfl ?_;refine sp trivial rfl rfl rfl ?_;refine St.nil fun a78 h78=>?_;refine hK56 _ _ ?_;refine fr_true (t:=97) h78 rfl ?_;refine wp_seq_k fun K79 hK79=>?_;refine rg h78 fun ops=>?_;clear h78 a78;refine sa trivial rfl rfl ?_;refine St.nil fun a80 h80=>?_;refine hK79 _ _ ?_;refine wp_ret ?_;with_reducible repeat first | refine of_then_ret ?_ | refine of_block_ret ?_
     have GR:greatMod m:=.inr ⟨x,List.mem_of_getElem? hx1.out,.inr (.inr (.inr ⟨y,List.mem_of_getElem? hx2.out,.inr (.inr (.inr (.inl hc77)))⟩))⟩;exact ret_tmp (t:=2) h80 rfl rfl ⟨by rw [bdec_true GR],hW63.bel⟩
    rw [hb] at h76;have hc81:¬ (300<y.fin.yes.regs.length):=by have:=of_decide_eq_false hb;omega
    clear hb;refine St.go h76 ?_;clear h76 a76;refine sfBlock3 ⟨_,hg24,rfl,rfl⟩ rfl rfl ?_;refine sfEnd2 ⟨_,hg24,rfl,rfl⟩ rfl rfl ?_;refine sfTo2 ⟨_,hg24,rfl,rfl⟩ rfl rfl ?_;refine sbInts 0 hW63 ⟨_,hg24,rfl,rfl⟩ rfl rfl rfl rfl ?_;refine slInts ⟨_,hg24,rfl,rfl⟩ rfl rfl ?_;refine sgt ⟨_,hg24,rfl,rfl⟩ rfl rfl rfl ?_;refine spf trivial rfl rfl rfl ?_;refine sm trivial rfl rfl ?_;intro a82 h82;rcases Bool.eq_false_or_eq_true (decide (300<(y.fin.yes.args.length:Int))) with hb | hb
    ·rw [hb] at h82
     have hc83:300<y.fin.yes.args.length:=by have:=of_decide_eq_true hb;omega
     clear hb;refine St.go h82 ?_;clear h82 a82;refine so hg32 rfl rfl rfl rfl ?_;refine so hg32 rfl rfl rfl rfl ?_;refine so hg32 rfl rfl rfl rfl ?_;refine so hg32 rfl rfl rfl rfl ?_;refine so hg32 rfl rfl rfl rfl ?_;refine so hg32 rfl rfl rfl rfl ?_;refine sp trivial rfl rfl rfl ?_;refine sm trivial rfl rfl ?_;refine so hg40 rfl rfl rfl rfl ?_;refine so hg40 rfl rfl rfl rfl ?_;refine so hg40 rfl rfl rfl rfl ?_;refine so hg40 rfl rfl rfl rfl ?_;refine so hg40 rfl rfl rfl rfl ?_;refine so hg40 rfl rfl rfl rfl ?_;refine sp trivial rfl rfl rfl ?_;refine St.nil fun a84 h84=>?_;refine hK56 _ _ ?_;refine fr_true (t:=97) h84 rfl ?_;refine wp_seq_k fun K85 hK85=>?_;refine rg h84 fun ops=>?_;clear h84 a84;refine sa trivial rfl rfl ?_;refine St.nil fun a86 h86=>?_;refine hK85 _ _ ?_;refine wp_ret ?_;with_reducible repeat first | refine of_then_ret ?_ | refine of_block_ret ?_
     have GR:greatMod m:=.inr ⟨x,List.mem_of_getElem? hx1.out,.inr (.inr (.inr ⟨y,List.mem_of_getElem? hx2.out,.inr (.inr (.inr (.inr (.inl hc83))))⟩))⟩;exact ret_tmp (t:=2) h86 rfl rfl ⟨by rw [bdec_true GR],hW63.bel⟩
    rw [hb] at h82;have hc87:¬ (300<y.fin.yes.args.length):=by have:=of_decide_eq_false hb;omega
    clear hb;refine St.go h82 ?_;clear h82 a82;refine sfBlock3 ⟨_,hg32,rfl,rfl⟩ rfl rfl ?_;refine sfEnd3 ⟨_,hg32,rfl,rfl⟩ rfl rfl ?_;refine sfTo1 ⟨_,hg32,rfl,rfl⟩ rfl rfl ?_;refine sbInts 0 hW63 ⟨_,hg32,rfl,rfl⟩ rfl rfl rfl rfl ?_;refine slInts ⟨_,hg32,rfl,rfl⟩ rfl rfl ?_;refine sgt ⟨_,hg32,rfl,rfl⟩ rfl rfl rfl ?_;refine spf trivial rfl rfl rfl ?_;refine sm trivial rfl rfl ?_;intro a88 h88;rcases Bool.eq_false_or_eq_true (decide (300<(y.fin.no.regs.length:Int))) with hb | hb
    ·rw [hb] at h88
     have hc89:300<y.fin.no.regs.length:=by have:=of_decide_eq_true hb;omega
     clear hb;refine St.go h88 ?_;clear h88 a88;refine so hg40 rfl rfl rfl rfl ?_;refine so hg40 rfl rfl rfl rfl ?_;refine so hg40 rfl rfl rfl rfl ?_;refine so hg40 rfl rfl rfl rfl ?_;refine so hg40 rfl rfl rfl rfl ?_;refine so hg40 rfl rfl rfl rfl ?_;refine sp trivial rfl rfl rfl ?_;refine St.nil fun a90 h90=>?_;refine hK56 _ _ ?_;refine fr_true (t:=97) h90 rfl ?_;refine wp_seq_k fun K91 hK91=>?_;refine rg h90 fun ops=>?_;clear h90 a90;refine sa trivial rfl rfl ?_;refine St.nil fun a92 h92=>?_;refine hK91 _ _ ?_;refine wp_ret ?_;with_reducible repeat first | refine of_then_ret ?_ | refine of_block_ret ?_
     have GR:greatMod m:=.inr ⟨x,List.mem_of_getElem? hx1.out,.inr (.inr (.inr ⟨y,List.mem_of_getElem? hx2.out,.inr (.inr (.inr (.inr (.inr (.inl hc89)))))⟩))⟩;exact ret_tmp (t:=2) h92 rfl rfl ⟨by rw [bdec_true GR],hW63.bel⟩
    rw [hb] at h88;have hc93:¬ (300<y.fin.no.regs.length):=by have:=of_decide_eq_false hb;omega
    clear hb;refine St.go h88 ?_;clear h88 a88;refine sfBlock3 ⟨_,hg40,rfl,rfl⟩ rfl rfl ?_;refine sfEnd3 ⟨_,hg40,rfl,rfl⟩ rfl rfl ?_;refine sfTo2 ⟨_,hg40,rfl,rfl⟩ rfl rfl ?_;refine sbInts 0 hW63 ⟨_,hg40,rfl,rfl⟩ rfl rfl rfl rfl ?_;refine slInts ⟨_,hg40,rfl,rfl⟩ rfl rfl ?_;refine sgt ⟨_,hg40,rfl,rfl⟩ rfl rfl rfl ?_;refine spf trivial rfl rfl rfl ?_;refine St.nil fun a94 h94=>?_;refine hK56 _ _ ?_;refine fr_cond (t:=97) h94 rfl (fun hb=>?_) (fun hb=>?_)
    ·have hc95:300<y.fin.no.args.length:=by have:=of_decide_eq_true hb;omega
     clear hb;refine wp_seq_k fun K96 hK96=>?_;refine rg h94 fun ops=>?_;clear h94 a94;refine sa trivial rfl rfl ?_;refine St.nil fun a97 h97=>?_;refine hK96 _ _ ?_;refine wp_ret ?_;with_reducible repeat first | refine of_then_ret ?_ | refine of_block_ret ?_
     have GR:greatMod m:=.inr ⟨x,List.mem_of_getElem? hx1.out,.inr (.inr (.inr ⟨y,List.mem_of_getElem? hx2.out,.inr (.inr (.inr (.inr (.inr (.inr (.inl hc95))))))⟩))⟩;exact ret_tmp (t:=2) h97 rfl rfl ⟨by rw [bdec_true GR],hW63.bel⟩
    have hc98:¬ (300<y.fin.no.args.length):=by have:=of_decide_eq_false hb;omega
    clear hb;refine wp_skip ?_;refine hK55 _ _ ?_;refine wp_seq_k fun K99 hK99=>?_;refine rg h94 fun ops=>?_;clear h94 a94;refine sa trivial rfl rfl ?_;refine St.nil fun a100 h100=>?_;refine hK99 _ _ ?_;refine wp_block ?_;refine fr_loop (fun r a w'=>∃ q3:Nat,q3≤y.code.length∧r=y.code.length - q3∧(∀ (j:Nat) z,j<q3→y.code[j]?=some z→¬ (300<z.regs.length)∧¬ (300<z.args.length))∧Fr 123 a [(0,.agg #[.slice p m.length c]),(1,.pointer (some ⟨B2,0,none⟩)),(2,.bool false),(3,.int .i64 (q1:Int)),(4,.pointer (some ⟨B20,0,none⟩)),(5,.int .i64 (q2:Int)),(6,.pointer (some ⟨B52,0,none⟩)),(7,.int .i64 (q3:Int))]∧Wd w w' [(B52,#[.int .i64 y.regs,.slice b2.pP y.params.length b2.cP,.slice b2.pC y.code.length b2.cC,.int .i64 y.fin.op,.int .i64 y.fin.a,.int .i64 y.fin.yes.block,.slice b2.e.pYR y.fin.yes.regs.length b2.e.cYR,.slice b2.e.pYA y.fin.yes.args.length b2.e.cYA,.int .i64 y.fin.no.block,.slice b2.e.pNR y.fin.no.regs.length b2.e.cNR,.slice b2.e.pNA y.fin.no.args.length b2.e.cNA,.slice b2.e.pA y.fin.args.length b2.e.cA],55),(B20,#[.int .i64 x.regs,.slice f1.pP x.params.length f1.cP,.slice f1.pR x.results.length f1.cR,.slice f1.pB x.blocks.length f1.cB],46),(B2,#[.slice p m.length c],24)]) (y.code.length) ⟨0,Nat.zero_le _,rfl,(fun j x hj=>by omega),(h100.keep (h100.keep (h100.keep (h100.keep (h100.keep (h100.keep (h100.keep (h100.keep h100.nil (t:=7) rfl) (t:=6) rfl) (t:=5) rfl) (t:=4) rfl) (t:=3) rfl) (t:=2) rfl) (t:=1) rfl) (t:=0) rfl),hW63⟩ ?_;clear h100 hW63;rintro r3 a101 w101 ⟨q3,hq3,hr3,hall3,hF101,hW101⟩ KL3 hKL3;refine wp_seq_k fun K102 hK102=>?_;refine wp_seq_k fun K103 hK103=>?_;refine rg hF101 fun ops=>?_;clear hF101 a101;refine sm trivial rfl rfl ?_;refine sfBlock2 trivial rfl rfl ?_;refine sbInss 0 hW101 trivial rfl rfl rfl rfl ?_;refine slInss trivial rfl rfl ?_;refine slt trivial rfl rfl rfl ?_;refine St.nil fun a104 h104=>?_;refine hK103 _ _ ?_;refine fr_cond (t:=102) h104 rfl (fun hb=>?_) (fun hb=>?_)
    ·have hlt3:q3<y.code.length:=by have:=of_decide_eq_true hb;omega
     clear hb;obtain ⟨z,hx3⟩:∃ v9,(y.code)[q3]?=some v9:=⟨_,List.getElem?_eq_getElem hlt3⟩;obtain ⟨g3,o3,i3,hp3,E3,In3⟩:=ins_at In2.out.code hx3;replace In3:Hid _:=In3;replace hp3:Hid _:=hp3;replace hx3:Hid _:=hx3;replace E3:Hid _:=E3;refine wp_skip ?_;refine hK102 _ _ ?_;refine wp_seq_k fun K105 hK105=>?_;refine wp_block ?_;refine wp_seq_k fun K106 hK106=>?_;refine fr_region ?_;intro ops hops;have hg8:(ops[8]?).bind (fun o:Oper=>o.dst)=some 113:=hops 8;clear hops;refine St.go h104 ?_;clear h104 a104;refine sfBlock2 trivial rfl rfl ?_;refine sbInss 0 hW101 trivial rfl rfl rfl rfl ?_;refine sm trivial rfl rfl ?_;refine siInss hp3.out hlt3 trivial rfl rfl rfl ?_;refine sfIns6 trivial rfl rfl ?_;refine scInts (bel_cell hW101.bel (E3.out 6 _ rfl)) trivial rfl rfl ?_;refine slInts trivial rfl rfl ?_;refine sgt trivial rfl rfl rfl ?_;refine sm trivial rfl rfl ?_;intro a107 h107;rcases Bool.eq_false_or_eq_true (decide (300<(z.regs.length:Int))) with hb | hb
     ·rw [hb] at h107
      have hc108:300<z.regs.length:=by have:=of_decide_eq_true hb;omega
      clear hb;refine St.go h107 ?_;clear h107 a107;refine so hg8 rfl rfl rfl rfl ?_;refine so hg8 rfl rfl rfl rfl ?_;refine so hg8 rfl rfl rfl rfl ?_;refine so hg8 rfl rfl rfl rfl ?_;refine so hg8 rfl rfl rfl rfl ?_;refine so hg8 rfl rfl rfl rfl ?_;refine so hg8 rfl rfl rfl rfl ?_;refine so hg8 rfl rfl rfl rfl ?_;refine sp trivial rfl rfl rfl ?_;refine St.nil fun a109 h109=>?_;refine hK106 _ _ ?_;refine fr_true (t:=122) h109 rfl ?_;refine wp_seq_k fun K110 hK110=>?_;refine rg h109 fun ops=>?_;clear h109 a109;refine sa trivial rfl rfl ?_;refine St.nil fun a111 h111=>?_;refine hK110 _ _ ?_;refine wp_ret ?_;with_reducible repeat first | refine of_then_ret ?_ | refine of_block_ret ?_
      have GR:greatMod m:=.inr ⟨x,List.mem_of_getElem? hx1.out,.inr (.inr (.inr ⟨y,List.mem_of_getElem? hx2.out,.inr (.inr (.inr (.inr (.inr (.inr (.inr ⟨z,List.mem_of_getElem? hx3.out,.inl hc108⟩))))))⟩))⟩;exact ret_tmp (t:=2) h111 rfl rfl ⟨by rw [bdec_true GR],hW101.bel⟩
     rw [hb] at h107;have hc112:¬ (300<z.regs.length):=by have:=of_decide_eq_false hb;omega
     clear hb;refine St.go h107 ?_;clear h107 a107;refine sfBlock2 ⟨_,hg8,rfl,rfl⟩ rfl rfl ?_;refine sbInss 0 hW101 ⟨_,hg8,rfl,rfl⟩ rfl rfl rfl rfl ?_;refine sm ⟨_,hg8,rfl,rfl⟩ rfl rfl ?_;refine siInss hp3.out hlt3 ⟨_,hg8,rfl,rfl⟩ rfl rfl rfl ?_;refine sfIns7 ⟨_,hg8,rfl,rfl⟩ rfl rfl ?_;refine scInts (bel_cell hW101.bel (E3.out 7 _ rfl)) ⟨_,hg8,rfl,rfl⟩ rfl rfl ?_;refine slInts ⟨_,hg8,rfl,rfl⟩ rfl rfl ?_;refine sgt ⟨_,hg8,rfl,rfl⟩ rfl rfl rfl ?_;refine spf trivial rfl rfl rfl ?_;refine St.nil fun a113 h113=>?_;refine hK106 _ _ ?_;refine fr_cond (t:=122) h113 rfl (fun hb=>?_) (fun hb=>?_)
     ·have hc114:300<z.args.length:=by have:=of_decide_eq_true hb;omega
      clear hb;refine wp_seq_k fun K115 hK115=>?_;refine rg h113 fun ops=>?_;clear h113 a113;refine sa trivial rfl rfl ?_;refine St.nil fun a116 h116=>?_;refine hK115 _ _ ?_;refine wp_ret ?_;with_reducible repeat first | refine of_then_ret ?_ | refine of_block_ret ?_
      have GR:greatMod m:=.inr ⟨x,List.mem_of_getElem? hx1.out,.inr (.inr (.inr ⟨y,List.mem_of_getElem? hx2.out,.inr (.inr (.inr (.inr (.inr (.inr (.inr ⟨z,List.mem_of_getElem? hx3.out,.inr hc114⟩))))))⟩))⟩;exact ret_tmp (t:=2) h116 rfl rfl ⟨by rw [bdec_true GR],hW101.bel⟩
     have hc117:¬ (300<z.args.length):=by have:=of_decide_eq_false hb;omega
     clear hb;refine wp_skip ?_;refine hK105 _ _ ?_;refine rg h113 fun ops=>?_;clear h113 a113;refine sm trivial rfl rfl ?_;refine sad (by omega) trivial rfl rfl rfl ?_;refine sa trivial rfl rfl ?_;refine St.nil fun a118 h118=>?_;refine hKL3 _ _ (y.code.length - (q3+1)) (by omega) ⟨q3+1,by omega,rfl,?_,(h118.keep (h118.keep (h118.keep (h118.keep (h118.keep (h118.keep (h118.keep (h118.keep h118.nil (t:=7) rfl) (t:=6) rfl) (t:=5) rfl) (t:=4) rfl) (t:=3) rfl) (t:=2) rfl) (t:=1) rfl) (t:=0) rfl),hW101⟩
     ·intro j y hj hy
      by_cases e:j=q3
      · subst e;rw [hx3.out] at hy;cases hy;exact ⟨hc112,hc117⟩
      · exact hall3 j y (by omega) hy
    have hge3:q3=y.code.length:=by have:=of_decide_eq_false hb;omega
    clear hb
    have NG2:¬ y.great:=by
      rintro (h | h | h | h | h | h | h | ⟨z,hz,h⟩)
      · exact absurd h hc62
      · exact absurd h hc69
      · exact absurd h hc75
      · exact absurd h hc81
      · exact absurd h hc87
      · exact absurd h hc93
      · exact absurd h hc98
      · obtain ⟨i,hi,rfl⟩:=List.mem_iff_getElem.1 hz
        have:=hall3 i _ (by omega) (List.getElem?_eq_getElem hi)
        omega
    refine wp_exit ?_;refine hK50 _ _ ?_;refine rg h104 fun ops=>?_;clear h104 a104;refine sm trivial rfl rfl ?_;refine sad (by omega) trivial rfl rfl rfl ?_;refine sa trivial rfl rfl ?_;refine St.nil fun a119 h119=>?_;refine hKL2 _ _ (x.blocks.length - (q2+1)) (by omega) ⟨q2+1,by omega,rfl,?_,(h119.keep (h119.keep (h119.keep (h119.keep (h119.keep (h119.keep h119.nil (t:=5) rfl) (t:=4) rfl) (t:=3) rfl) (t:=2) rfl) (t:=1) rfl) (t:=0) rfl),hW101.tail⟩
    ·intro j y hj hy
     by_cases e:j=q2
     · subst e;rw [hx2.out] at hy;cases hy;exact NG2
     · exact hall2 j y (by omega) hy
   have hge2:q2=x.blocks.length:=by have:=of_decide_eq_false hb;omega
   clear hb
   have NG1:¬ x.great:=by
     rintro (h | h | h | ⟨y,hy,h⟩)
     · exact absurd h hc30
     · exact absurd h hc37
     · exact absurd h hc43
     · obtain ⟨i,hi,rfl⟩:=List.mem_iff_getElem.1 hy;exact hall2 i _ (by omega) (List.getElem?_eq_getElem hi) h
   refine wp_exit ?_;refine hK18 _ _ ?_;refine rg h49 fun ops=>?_;clear h49 a49;refine sm trivial rfl rfl ?_;refine sad (by omega) trivial rfl rfl rfl ?_;refine sa trivial rfl rfl ?_;refine St.nil fun a120 h120=>?_;refine hKL1 _ _ (m.length - (q1+1)) (by omega) ⟨q1+1,by omega,rfl,?_,(h120.keep (h120.keep (h120.keep (h120.keep h120.nil (t:=3) rfl) (t:=2) rfl) (t:=1) rfl) (t:=0) rfl),hW46.tail⟩
   ·intro j y hj hy
    by_cases e:j=q1
    · subst e;rw [hx1.out] at hy;cases hy;exact NG1
    · exact hall1 j y (by omega) hy
  have hge1:q1=m.length:=by have:=of_decide_eq_false hb;omega
  clear hb;refine wp_exit ?_;refine hK11 _ _ ?_;refine wp_seq_k fun K121 hK121=>?_;refine rg h17 fun ops=>?_;clear h17 a17;refine sa trivial rfl rfl ?_;refine St.nil fun a122 h122=>?_;refine hK121 _ _ ?_;refine wp_ret ?_;with_reducible repeat first | refine of_then_ret ?_ | refine of_block_ret ?_
  have GR:¬ greatMod m:=by
    rintro (h | ⟨x,hx,h⟩)
    · omega
    · obtain ⟨i,hi,rfl⟩:=List.mem_iff_getElem.1 hx;exact hall1 i _ (by omega) (List.getElem?_eq_getElem hi) h
  exact ret_tmp (t:=2) h122 rfl rfl ⟨by rw [bdec_false GR],hW14.bel⟩
theorem small_blocks {n : Nat} {m : List (MFunc n)} (h : msmall m) : ∀ x ∈ m, x.blocks.length ≤ 100000 ∧ ∀ y ∈ x.blocks, y.code.length ≤ 100000 := fun x hx => ⟨(h.2 x hx).1, fun y hy => ((h.2 x hx).2.2.2 y hy).1⟩
theorem frame_torn {m : List UInt8} {i : Nat} {x y : UInt8} (h7 : 3 ≤ m.length) (hmax : m.length + 4 ≤ 20000) (hhd : m.take 3 = [67, 72, 1]) (hx : (m ++ sumY (crcL m))[i]? = some x) (hy : y ≠ x) :
    (frameL ((m++sumY (crcL m)).set i y)).1=4∨(frameL ((m++sumY (crcL m)).set i y)).1=16:=by
  have hlen:((m++sumY (crcL m)).set i y).length=m.length+4:=by rw [List.length_set,List.length_append,sumY_len]
  have hi:i<m.length+4:=by
    have:=(List.getElem?_eq_some_iff.1 hx).1
    rwa [List.length_append,sumY_len] at this
  unfold frameL;rw [if_neg (by omega),if_neg (by omega)];by_cases h3:((m++sumY (crcL m)).set i y).take 3=[67,72,1]
  rotate_left
  · rw [if_pos h3];exact .inl rfl
  rw [if_neg (by simpa using h3)]
  have hi3:3≤i:=by
    rcases Nat.lt_or_ge i 3 with g | g
    · exfalso
      have e:((m++sumY (crcL m)).take 3)[i]?=some x:=by rw [List.getElem?_take,if_pos g];exact hx
      have e':(((m++sumY (crcL m)).set i y).take 3)[i]?=some y:=by rw [List.getElem?_take,if_pos g,List.getElem?_set_self (by rw [List.length_append,sumY_len];exact hi)]
      rw [List.take_append_of_le_length h7,hhd] at e;rw [h3,e] at e';injection e' with e'
      exact hy e'.symm
    · exact g
  refine .inr ?_;rw [if_pos];intro hs;rw [hlen,Nat.add_sub_cancel] at hs;rcases Nat.lt_or_ge i m.length with g | g
  · rw [List.set_append_left _ _ g] at hs;have l1:(m.set i y).length=m.length:=List.length_set;rw [List.drop_append_of_le_length (by omega),List.take_append_of_le_length (by omega),List.drop_of_length_le (by omega),List.nil_append,List.take_of_length_le (by omega)] at hs;have e:=sumY_inj (crcL_lt _) (crcL_lt _) hs;rw [List.getElem?_append_left g] at hx
    have em:m=m.take i++x::m.drop (i+1):=by
      obtain ⟨hg,hxx⟩:=List.getElem?_eq_some_iff.1 hx;have h:=List.take_append_drop i m;rw [List.drop_eq_getElem_cons hg,hxx] at h;exact h.symm
    have ey:m.set i y=m.take i++y::m.drop (i+1):=by rw [List.set_eq_take_append_cons_drop,if_pos g]
    have e':crcL (m.take i++x::m.drop (i+1))=crcL (m.take i++y::m.drop (i+1)):=by rw [← em,← ey];exact e
    exact hy (crc_torn e').symm
  · rw [List.set_append_right _ _ g] at hs;rw [List.getElem?_append_right g] at hx;rw [List.take_left,List.drop_left] at hs
    have:=congrArg (fun l=>l[i - m.length]?) hs
    rw [List.getElem?_set_self (by rw [sumY_len];omega),hx] at this;injection this with this
    exact hy this
theorem BRow.set {w : World} {lo g n cap i : Nat} {ys : List UInt8} (h : BRow w lo (.slice (some ⟨g, 0, none⟩) n cap) ys) (hi : i < ys.length) (z : UInt8) : BRow (w.setCell ⟨g, i, none⟩ (.int .u8 (z.toNat : Int))) lo (.slice (some ⟨g, 0, none⟩) n cap) (ys.set i z) := by
  obtain ⟨h1,h2⟩:=h;have el:(ys.set i z).length=ys.length:=List.length_set;have ec:bcells (ys.set i z)=(bcells ys).set i (.int .u8 (z.toNat:Int)):=by simp [bcells,List.map_set]
  refine ⟨by rw [ec,el,List.length_set];exact h1,?_⟩;rw [el,ec];rcases h2 with ⟨e,_⟩ | ⟨g',cap',cur,e,hg,hh,hn,hm,hs,ht⟩
  · cases e
  · injection e with e1 e2 e3
    injection e1 with e1
    injection e1 with e1
    subst e1;subst e3;refine .inr ⟨g,cap,cur.setIfInBounds i (.int .u8 (z.toNat:Int)),by rw [e2],hg,blockSet hh i _,hn,hm,by simpa using hs,?_⟩;rw [Array.toList_setIfInBounds,List.take_set,ht]
theorem brow_free {w : World} {lo g n cap : Nat} {ys : List UInt8} (h : BRow w lo (.slice (some ⟨g, 0, none⟩) n cap) ys) (i : Nat) : w.frozen? ⟨g, i, none⟩ = false := by
  obtain ⟨h1,h2⟩:=h;rcases h2 with ⟨e,_⟩ | ⟨g',cap',cur,e,hg,hh,_⟩
  · cases e
  · injection e with e1
    injection e1 with e1
    injection e1 with e1
    subst e1;exact freeOf hh i
theorem xor_other {x y : UInt8} (h : y ≠ 0) : x ^^^ y ≠ x := fun e => h (by
  have:=congrArg (x ^^^ ·) e
  simpa [← UInt8.xor_assoc] using this)
theorem torn_walk {w : World} {n : Nat} {m : List (MFunc n)} {p : Option Addr} {c : Nat} (at_ : Int) (ha : i64r at_) (by_ : UInt8) (hm : (modL n).In w All m [.slice p m.length c]) (h6 : n = 6 ∨ (modFault m).1 ≠ 0) :
    Calls Tryz.prog 5 #[.agg #[.slice p m.length c],.int .i64 at_,.int .u8 (by_.toNat:Int)] w fun e w'=>e=.returned (.bool true)∧Below w.heap.size w w':=by
  have IM:Hid ((modL n).In w (fun g=>g<w.heap.size) m [.slice p m.length c]):=Lay.mono hm (fun k _ hk=>hk);have H6:Hid (n=6∨(modFault m).1≠0):=h6;have B0:Hid (Below w.heap.size w (w.alloc (.cells #[.slice p m.length c] 24))):=bel1 _ _;have X0:Hid (Blk (w.alloc (.cells #[.slice p m.length c] 24)) w.heap.size #[.slice p m.length c] 24):=Blk.new _ _ _;clear hm h6;go_enter Tryz.func5,Tryz.ntmps5
  go_wp2_with fail
  generalize w.alloc (.cells #[.slice p m.length c] 24)=w0 at B0 X0 ⊢;refine (cBegun_any w0).mono ?_;rintro e w1 ⟨rfl,b1⟩;have B1:Hid (Below w.heap.size w w1):=B0.out.trans (b1.mono (Nat.le_of_lt X0.out.lt));have X1:Hid (Blk w1 w.heap.size #[.slice p m.length c] 24):=X0.out.below b1;clear b1 B0 X0;have x0:=cellOf X1.out 0 _ rfl;go_wp2_with fail
  refine Calls.mono (greatModule_any n m p c w1 (Lay.mono (Lay.lt IM.out B1.out) (fun _ _ _=>trivial))) ?_;rintro e w2 ⟨rfl,b2⟩;have hs1:=B1.out.size;have B2:Hid (Below w.heap.size w w2):=B1.out.trans (b2.mono hs1);have X2:Hid (Blk w2 w.heap.size #[.slice p m.length c] 24):=X1.out.below b2;clear b2 B1 X1 x0 hs1
  cases hg:bdec (greatMod m) with
  | true =>
    clear hg X2;go_wp2
    go_ret;exact ⟨rfl,B2.out⟩
  | false =>
    have hng:¬ greatMod m:=fun h=>by rw [bdec_true h] at hg;cases hg
    have SM:Hid (msmall m):=msmall_of hng;clear hg hng;have x0:=cellOf X2.out 0 _ rfl;have hs2:=B2.out.size
    have YM:Hid ((modFault m).1=0→yMod m):=fun hf=>by
      rcases H6.out with e | e
      · subst e;exact mod_y IM.out hf (small_blocks SM.out)
      · exact absurd hf e
    go_wp2_with fail
    refine (cencode_any (Lay.mono (Lay.lt IM.out B2.out) (fun _ _ _=>trivial)) SM.out YM.out).mono ?_;rintro e w3 ⟨hE,b3⟩;have B3:Hid (Below w.heap.size w w3):=B2.out.trans (b3.mono hs2);have hw3:w.heap.size≤w3.heap.size:=B3.out.size;rcases hE with ⟨v,hf,hl,rfl,hr⟩ | ⟨cf,af,hcf,_,rfl⟩
    rotate_left
    · have BX:Hid (Below w.heap.size w (w3.alloc (.cells #[.int .i64 cf,.int .i64 af] 30))):=B3.out.alloc B3.out.size _;have F4:Hid (Blk (w3.alloc (.cells #[.int .i64 cf,.int .i64 af] 30)) w3.heap.size #[.int .i64 cf,.int .i64 af] 30):=Blk.new _ _ _;have hcf':¬ cf=0:=hcf;clear b3 B3 x0 hs2 YM B2 X2 hcf;go_upto_region 6 with fail
      generalize hQ:w3.heap.size=Q3 at F4 hw3 ⊢;clear hQ;generalize w3.alloc (.cells #[.int .i64 cf,.int .i64 af] 30)=w4 at BX F4 ⊢;have f0:=cellOf F4.out 0 _ rfl;go_wp2
      go_ret;exact ⟨rfl,BX.out⟩
    have hL4:7≤(modY m++sumY (crcL (modY m))).length∧(modY m++sumY (crcL (modY m))).length≤20000:=by
      rw [List.length_append,sumY_len]
      have:=modY_len m
      omega
    have TORN:Hid (∀ i x y,(modY m++sumY (crcL (modY m)))[i]?=some x→y≠x→(frameL ((modY m++sumY (crcL (modY m))).set i y)).1=4∨(frameL ((modY m++sumY (crcL (modY m))).set i y)).1=16):=fun i x y hx hy =>
      frame_torn (by have:=modY_len m;omega) hl rfl hx hy
    generalize modY m++sumY (crcL (modY m))=en at hr hL4 TORN;obtain ⟨ae,ce,rfl,hce⟩:=OwnB.form (.inl hr);have hce2:en.length≤ce:=hce (by omega);obtain ⟨g,rfl,hg0,hgl,-⟩:=row_at hr (List.getElem?_eq_getElem (show 0<en.length by omega));have R4:Hid (BRow (w3.alloc (.cells #[.int .i64 0,.int .i64 0] 30)) w2.heap.size (.slice (some ⟨g,0,none⟩) en.length ce) en):=hr.alloc _;have B4:Hid (Below w.heap.size w (w3.alloc (.cells #[.int .i64 0,.int .i64 0] 30))):=B3.out.alloc B3.out.size _;have F4:Hid (Blk (w3.alloc (.cells #[.int .i64 0,.int .i64 0] 30)) w3.heap.size #[.int .i64 0,.int .i64 0] 30):=Blk.new _ _ _;have hgw:w.heap.size≤g:=Nat.le_trans hs2 hg0;have hgs:Hid (g<w3.heap.size):=hgl;clear b3 B3 hr hl hf hce x0 YM B2 X2 hgl;go_upto_region 6 with fail
    generalize hQ:w3.heap.size=Q3 at F4 hw3 hgs ⊢;clear hQ;generalize w3.alloc (.cells #[.int .i64 0,.int .i64 0] 30)=w4 at R4 B4 F4 ⊢;have f0:=cellOf F4.out 0 _ rfl;generalize hLn:en.length=L at hL4 hce2 ⊢;have HLn:Hid (en.length=L):=hLn;clear hLn;by_cases hby:by_=0
    · subst hby;go_wp2
      go_ret;exact ⟨rfl,B4.out⟩
    have hby0:¬ (by_.toNat:Int)=0:=fun e=>hby (by
      have:by_.toNat=0:=by omega
      exact UInt8.toNat.inj this)
    obtain ⟨i,hi,hidx⟩:∃ i:Nat,i<L∧wrap64 ((IntKind.u64.wrap at_).tmod (L:Int))=(i:Int):=by
      have h0:0≤IntKind.u64.wrap at_:=by rw [IntKind.wrap_u64];omega
      have hp:(0:Int)<L:=by omega
      have h1:=Int.emod_nonneg (IntKind.u64.wrap at_) (show (L:Int)≠0 by omega);have h2:=Int.emod_lt_of_pos (IntKind.u64.wrap at_) hp;refine ⟨(IntKind.u64.wrap at_ % (L:Int)).toNat,by omega,?_⟩;rw [Int.tmod_eq_emod_of_nonneg h0,wrap64];omega
    have hxi:en[i]?=some (en[i]'(by rw [HLn.out];exact hi)):=List.getElem?_eq_getElem _;generalize en[i]'(by rw [HLn.out];exact hi)=x at hxi
    have yc:w4.cell? ⟨g,i,none⟩=some (.int .u8 (x.toNat:Int)):=by
      obtain ⟨g',e,_,_,hc⟩:=row_at R4.out hxi;injection e with e
      injection e with e
      subst e;exact hc
    have zf:=brow_free R4.out i
    have hxo:bits .xor .u8 (x.toNat:Int) (by_.toNat:Int)=((x ^^^ by_).toNat:Int):=by
      rw [u8_xor_nat _ _ (byte_lt x) (byte_lt by_),UInt8.toNat_xor]
    have TN:=TORN.out i x (x ^^^ by_) hxi (xor_other hby);have R5:=R4.out.set (i:=i) (by rw [HLn.out];exact hi) (x ^^^ by_);generalize x ^^^ by_=z at hxo TN R5;have hl5:(en.set i z).length=L:=by rw [List.length_set];exact HLn.out
    rw [HLn.out] at R5;generalize en.set i z=l5 at TN R5 hl5;have T5:Hid ((frameL l5).1=4∨(frameL l5).1=16):=TN;have I5:Hid (bytesL.In (w4.setCell ⟨g,i,none⟩ (.int .u8 (z.toNat:Int))) (fun _=>True) l5 [.slice (some ⟨g,0,none⟩) L ce]):=Lay.mono R5.lay (fun _ _ _=>trivial);have B5:Hid (Below w.heap.size w (w4.setCell ⟨g,i,none⟩ (.int .u8 (z.toNat:Int)))):=B4.out.setCell (p:=⟨g,i,none⟩) hgw _;have HL5:Hid (l5.length=L):=hl5;have hk1:(i:Int)<L:=by omega
    clear TN R5 TORN R4 F4 hxi hl5 B4;go_upto_region 11 with fail
    clear yc zf hxo;generalize w4.setCell ⟨g,i,none⟩ (.int .u8 (z.toNat:Int))=w5 at I5 B5 ⊢
    have CD:Hid (Calls Tryz.prog 13 #[.slice (some ⟨g,0,none⟩) L ce] w5 fun en w'=>DecOut l5 w5 en w'):=by
      have e:=HL5.out;subst e;exact cdecode_any I5.out hce2 (by omega)
    go_wp2_with fail
    refine CD.out.mono ?_;rintro e w6 ⟨hD,b6⟩
    have nz:(frameL l5).1≠0:=by
      rcases T5.out with h | h
      · rw [h];decide
      · rw [h];decide
    rcases hD with ⟨k,a6,c6,hd,_⟩ | ⟨cf,af,_,_,hcf,rfl⟩
    · exact absurd hd (dec_frame nz k)
    have hc2:cf=4∨cf=16:=by rw [hcf nz];exact T5.out
    have hs5:=B5.out.size;have B7:Hid (Below w.heap.size w ((w6.alloc (.cells #[.slice none 0 0] 24)).alloc (.cells #[.int .i64 cf,.int .i64 af] 30))):=((B5.out.trans (b6.mono hs5)).alloc (by have:=b6.size;omega) _).alloc (by have:=b6.size;simp;omega) _;have M7:Hid (Blk ((w6.alloc (.cells #[.slice none 0 0] 24)).alloc (.cells #[.int .i64 cf,.int .i64 af] 30)) w6.heap.size #[.slice none 0 0] 24):=Blk.new1 _ _ _ _ _;have F7:Hid (Blk ((w6.alloc (.cells #[.slice none 0 0] 24)).alloc (.cells #[.int .i64 cf,.int .i64 af] 30)) (w6.heap.size+1) #[.int .i64 cf,.int .i64 af] 30):=Blk.new2 _ _ _ _;clear b6 B5 I5 CD T5 nz hcf HL5 hs5;go_upto_region 12 with fail
    generalize hQ:w6.heap.size=Q6 at M7 F7 ⊢;clear hQ;generalize (w6.alloc (.cells #[.slice none 0 0] 24)).alloc (.cells #[.int .i64 cf,.int .i64 af] 30)=w7 at B7 M7 F7 ⊢
    have C:Hid (Rd Tryz.prog 12 #[.agg #[.slice none 0 0],.agg #[.slice none 0 0]] w7 (.bool true)):=by
      have h:=sameModule_any (n:=6) (m:=[]) (k:=[]) (p:=none) (p2:=none) (c:=0) (d:=0) (w:=w7) (Lay.list_nil _ _ _ _ _) (Lay.list_nil _ _ _ _ _) ⟨by decide,fun x hx=>by simp at hx⟩;rw [bdec_true rfl] at h;exact h
    have m0:=cellOf M7.out 0 _ rfl;have g0:=cellOf F7.out 0 _ rfl;rcases hc2 with rfl | rfl
    · go_wp2_with fail
      refine Calls.mono C.out ?_;rintro e w8 ⟨rfl,b8⟩;have B8:Hid (Below w.heap.size w w8):=B7.out.trans (b8.mono B7.out.size);clear b8 C;go_wp2
      go_ret;exact ⟨rfl,B8.out⟩
    · go_wp2_with fail
      refine Calls.mono C.out ?_;rintro e w8 ⟨rfl,b8⟩;have B8:Hid (Below w.heap.size w w8):=B7.out.trans (b8.mono B7.out.size);clear b8 C;go_wp2
      go_ret;exact ⟨rfl,B8.out⟩
end Go.Proofs.YtjdcjfpfpaplladGreat
namespace Go.Proofs.YtjdcjfpfpaplladGreat
open Go.ChangeShapes Go.WideShapes Go.ChangeAt Go.RowKit Go.Deep
set_option linter.unusedVariables false
def Wt {H : Type} (P : Program) (t : TypeId) (d : DataW H) : Prop := ∀ n ∈ d.weights P t, n ≤ reachBytes
def ReadsB (P : Program) (t : TypeId) {α : Type} (A : Lay α) (n : Nat) (Bd : α → Prop) : Prop :=
  P.cellsOf t=A.size∧∀ {H:Type} {enc:TypeId × Value→H} {w:World} {base:Nat} {spare:Nat→Bool} {held:Bool} {fuel:Nat} {cs:List Value} {x:DataW H × List MemPlace},
    fuel≤n→DataW.trod enc P w base spare held fuel t cs=some x→Wt P t x.1→∃ d,A.In w (fun _=>True) d cs∧Bd d
theorem ReadsB.int {P : Program} {t : TypeId} (n : Nat) (h : P.underlying t = some (.int .i64)) (hc : P.cellsOf t = 1) : ReadsB P t Lay.int n (fun _ => True) :=
  ⟨hc,fun _ h' _=>by
    obtain ⟨k,e,_,wf⟩:=DataW.trod_int h h';exact ⟨k,⟨e,Go.bounds_i64 wf⟩,trivial⟩⟩
theorem weightsAll_mem {H : Type} {P : Program} {e : TypeId} : ∀ {l : List (DataW H)} {d : DataW H}, d ∈ l → ∀ n ∈ d.weights P e, n ∈ DataW.weightsAll P e l
  | d0::l,d,h,n,hn=>by
    simp only [DataW.weightsAll,List.mem_append];rcases List.mem_cons.1 h with rfl | h
    · exact .inl hn
    · exact .inr (weightsAll_mem h n hn)
theorem ReadsB.list {P : Program} {t e : TypeId} {α : Type} {A : Lay α} {n : Nat} {Bd : α → Prop} (h : P.underlying t = some (.slice e)) (hc : P.cellsOf t = 1) (hA : ReadsB P e A n Bd) (h0 : 0 < A.size) (hbe : 0 < P.bytesOf e) : ReadsB P t A.list n (fun l => l.length < 1152921504606846976) :=
  ⟨hc,fun {H enc w base spare held fuel cs x} hf h' hw=>by
    rcases DataW.trod_slice h h' with ⟨e2,_⟩ | ⟨a,len,cap,elems,rest,q,rfl,e2,ex,hb,hl,hm,hlen,hel,_,_⟩
    · exact ⟨[],by rw [e2];exact Lay.list_nil A _ _ _ _,by simp⟩
    · have hlw:(elems.length+rest.length)*P.bytesOf e≤reachBytes:=hw _ (by rw [ex];simp [DataW.weights,h])
      have hlb:len<1152921504606846976:=by
        have h1:elems.length*1≤(elems.length+rest.length)*P.bytesOf e:=Nat.mul_le_mul (by omega) hbe;have h2:reachBytes<1152921504606846976:=by decide
        omega
      have hel':∀ i,i<len→∃ y,elems[i]?=some y∧Wt P e y.1:=fun i hi=>by
        refine ⟨elems[i]'(by omega),List.getElem?_eq_getElem (by omega),fun k hk=>hw k ?_⟩;rw [ex];simp only [DataW.weights,h,List.mem_cons,List.mem_append];exact .inr (.inl (weightsAll_mem (List.mem_map_of_mem (List.getElem_mem (by omega))) k hk))
      obtain ⟨l,hll,hp⟩:=list_of' (P:=fun i (d:α)=>∃ ds,w.cells? base (a.add (i*A.size)) A.size=some ds∧A.In w (fun _=>True) d ds) len (fun i hi=>by
        have he:=hel i hi;obtain ⟨y,hy,hwy⟩:=hel' i hi;rw [hy,hA.1] at he;rw [Option.bind_eq_some_iff] at he;obtain ⟨ds,hds,htr⟩:=he;obtain ⟨d,hd,_⟩:=hA.2 (by omega) htr hwy;exact ⟨d,ds,hds,hd⟩)
      refine ⟨l,⟨some a,cap,by rw [e2,hll],fun i x hx=>?_⟩,by omega⟩;obtain ⟨ds,hds,hd⟩:=hp i x hx;obtain ⟨_,hcl,hcell⟩:=World.cells?_some hds;obtain ⟨b,off,spot⟩:=a
      have hspot:spot=none:=by
        have hi:0<l.length:=Nat.lt_of_le_of_lt (Nat.zero_le i) (List.getElem?_eq_some_iff.1 hx).1;obtain ⟨ds0,hds0,hd0⟩:=hp 0 l[0] (List.getElem?_eq_getElem hi);have hl0:0<ds0.length:=by rw [A.len hd0];exact h0
        have:=(World.cells?_some hds0).2.2 0 h0
        rw [List.getElem?_eq_getElem hl0] at this;simpa [Addr.add] using World.cell?_spot this
      subst hspot
      have key:∀ j,j<A.size→w.cell? ⟨b,off+i*A.size+j,none⟩=ds[j]?:=fun j hj=>by
        have:=hcell j hj
        rw [Go.WideShapes.add_plain,Go.WideShapes.add_plain] at this;exact this
      refine ⟨b,off,ds,rfl,trivial,?_,key,hd⟩;have hl0:0<ds.length:=by rw [A.len hd];exact h0
      have:=key 0 h0
      rw [List.getElem?_eq_getElem hl0] at this;exact World.block_lt_of_cell? w _ this⟩
def FieldsB (P : Program) (fs : Array Field) : Nat → Nat → {α : Type} → Lay α → Nat → (α → Prop) → Prop := fun i o α A n Bd =>
  ∀ (H:Type) (enc:TypeId × Value→H) (w:World) (base:Nat) (spare:Nat→Bool) (held:Bool) (fuel:Nat) (cs:List Value) (xs:List (DataW H × List MemPlace)),
    fuel≤n→cs.length=o+A.size→xs.length=fs.size→(∀ (j:Nat) (f:Field),fs[j]?=some f→DataW.trod enc P w base spare held fuel f.type ((cs.drop f.offset).take (P.cellsOf f.type))=xs[j]?) →
    (∀ (j:Nat) (f:Field) x,fs[j]?=some f→xs[j]?=some x→Wt P f.type x.1)→∃ d,A.In w (fun _=>True) d (cs.drop o)∧Bd d
theorem FieldsB.last {P : Program} {fs : Array Field} {i o n : Nat} {f : Field} {α : Type} {A : Lay α} {Bd : α → Prop} (hf : fs[i]? = some f) (ho : f.offset = o) (hA : ReadsB P f.type A n Bd) : FieldsB P fs i o A n Bd := by
  intro H enc w base spare held fuel cs xs hn hl hx h hw;have g:=h i f hf;have hi:i<fs.size:=(Array.getElem?_eq_some_iff.1 hf).1;rw [List.getElem?_eq_getElem (by omega),ho,hA.1] at g;obtain ⟨d,hd,hb⟩:=hA.2 hn g (hw i f _ hf (List.getElem?_eq_getElem (by omega)));refine ⟨d,?_,hb⟩;rwa [List.take_of_length_le (by simp;omega)] at hd
theorem FieldsB.cons {P : Program} {fs : Array Field} {i o n : Nat} {f : Field} {α β : Type} {A : Lay α} {B : Lay β} {Bd : α → Prop} {Be : β → Prop} (hf : fs[i]? = some f) (ho : f.offset = o) (hA : ReadsB P f.type A n Bd) (hB : FieldsB P fs (i + 1) (o + A.size) B n Be) : FieldsB P fs i o (A.pair B) n (fun x => Bd x.1 ∧ Be x.2) := by
  intro H enc w base spare held fuel cs xs hn hl hx h hw;have g:=h i f hf;have hi:i<fs.size:=(Array.getElem?_eq_some_iff.1 hf).1;rw [List.getElem?_eq_getElem (by omega),ho,hA.1] at g;obtain ⟨d,hd,hb⟩:=hA.2 hn g (hw i f _ hf (List.getElem?_eq_getElem (by omega)));have hs:(A.pair B).size=A.size+B.size:=rfl;obtain ⟨e,he,hb2⟩:=hB _ _ _ _ _ _ _ _ _ hn (by omega) hx h hw;refine ⟨(d,e),⟨_,_,?_,hd,he⟩,hb,hb2⟩;rw [← List.drop_drop,List.take_append_drop]
theorem ReadsB.struct {P : Program} {t : TypeId} {fs : Array Field} {α : Type} {A : Lay α} {n : Nat} {Bd : α → Prop} (h : P.underlying t = some (.struct fs)) (hc : P.cellsOf t = A.size) (hF : FieldsB P fs 0 0 A n Bd) : ReadsB P t A n Bd :=
  ⟨hc,fun {H enc w base spare held fuel cs x} hf h' hw=>by
    obtain ⟨xs,m,rfl,ex,hcl,hxl,hfl⟩:=DataW.trod_struct h h'
    obtain ⟨d,hd,hb⟩:=hF _ _ _ _ _ _ _ _ _ (by omega) (by rw [hcl,hc];omega) hxl hfl (fun j f y hj hy k hk=>hw k (by
      rw [ex];simp only [DataW.weights,h];exact DataW.weights_mem_each (j:=j) (t:=f.type) (d:=y.1) (by simp [hj]) (by simp [hy]) k hk))
    exact ⟨d,by simpa using hd,hb⟩⟩
theorem ReadsB.via {P : Program} {t : TypeId} {α β : Type} {A : Lay α} {n : Nat} {f : β → α} {Bd : α → Prop} (h : ReadsB P t A n Bd) (g : α → β) (hg : ∀ d, f (g d) = d) : ReadsB P t (A.via f) n (fun x => Bd (f x)) :=
  ⟨h.1,fun hf h' hw=>by
    obtain ⟨d,hd,hb⟩:=h.2 hf h' hw;exact ⟨g d,by show A.In _ _ (f (g d)) _;rw [hg];exact hd,by show Bd (f (g d));rw [hg];exact hb⟩⟩
theorem own : ownKnob Tryz.prog.godebug = none := by kernel_rfl
theorem laidOut : laidOutB Tryz.prog = true := by kernel_rfl
theorem fieldsT : ∃ f0 f1 f2 : Field, Tryz.prog.underlying 88 = some (.struct #[f0, f1, f2]) ∧
    (f0.offset=0∧Tryz.prog.cellsOf f0.type=1∧Tryz.prog.underlying f0.type=some (.int .i64))∧(f1.offset=1∧Tryz.prog.cellsOf f1.type=1∧Tryz.prog.underlying f1.type=some (.int .i64)) ∧
    (f2.offset=2∧Tryz.prog.cellsOf f2.type=1∧f2.type=43) :=
  ⟨_,_,_,Tryz.underlying88,⟨rfl,by kernel_rfl,by kernel_rfl⟩,⟨rfl,by kernel_rfl,by kernel_rfl⟩,⟨rfl,by kernel_rfl,rfl⟩⟩
theorem readsT (n : Nat) : ReadsB Tryz.prog 88 (Lay.tt n) n (fun _ => True) :=
  ⟨by kernel_rfl,fun {H enc w base spare held fuel cs x} hf h' hw=>by
    obtain ⟨f0,f1,f2,e,h0,h1,h2⟩:=fieldsT;obtain ⟨t,a,c,hc,h3,h4⟩:=tin_of (ti:=0) Tryz.underlying43 e (by kernel_rfl) h0 h1 h2 n fuel hf h';exact ⟨t,⟨a,c,hc,h3,h4⟩,trivial⟩⟩
theorem readsI (n : Nat) : ReadsB Tryz.prog 3 Lay.int n (fun _ => True) := ReadsB.int n Tryz.underlying3 (by kernel_rfl)
theorem readsI6 (n : Nat) : ReadsB Tryz.prog 2 Lay.int n (fun _ => True) := ReadsB.int n Tryz.underlying2 (by kernel_rfl)
theorem readsIs (n : Nat) : ReadsB Tryz.prog 49 intsL n (fun l => l.length < 1152921504606846976) := ReadsB.list Tryz.underlying49 (by kernel_rfl) (readsI n) (by decide) (by rw [show Tryz.prog.bytesOf 3 = 8 from by kernel_rfl]; decide)
theorem readsTs (n : Nat) : ReadsB Tryz.prog 43 (typesL n) n (fun l => l.length < 1152921504606846976) := ReadsB.list Tryz.underlying43 (by kernel_rfl) (readsT n) (by show 0 < 3; decide) (by rw [show Tryz.prog.bytesOf 88 = 40 from by kernel_rfl]; decide)
theorem readsIns (n : Nat) : ReadsB Tryz.prog 57 insL n (fun x => x.regs.length < 1152921504606846976 ∧ x.args.length < 1152921504606846976) := by
  have h:=ReadsB.struct (n:=n) (A:=Lay.int.pair (Lay.int.pair (Lay.int.pair (Lay.int.pair (Lay.int.pair (Lay.int.pair (intsL.pair intsL))))))) Tryz.underlying57 (by kernel_rfl) (FieldsB.cons rfl rfl (readsI n) (FieldsB.cons rfl rfl (readsI n) (FieldsB.cons rfl rfl (readsI n) (FieldsB.cons rfl rfl (readsI n) (FieldsB.cons rfl rfl (readsI n) (FieldsB.cons rfl rfl (readsI6 n) (FieldsB.cons rfl rfl (readsIs n) (FieldsB.last rfl rfl (readsIs n)))))))));have h2:=h.via (f:=fun x:MIns=>(x.op,x.a,x.b,x.c,x.k,x.n,x.regs,x.args)) (fun d=>⟨d.1,d.2.1,d.2.2.1,d.2.2.2.1,d.2.2.2.2.1,d.2.2.2.2.2.1,d.2.2.2.2.2.2.1,d.2.2.2.2.2.2.2⟩) (fun d=>rfl);exact ⟨h2.1,fun hf h' hw=>by obtain ⟨d,hd,hb⟩:=h2.2 hf h' hw;exact ⟨d,hd,hb.2.2.2.2.2.2⟩⟩
theorem readsTo (n : Nat) : ReadsB Tryz.prog 51 toL n (fun x => x.regs.length < 1152921504606846976 ∧ x.args.length < 1152921504606846976) := by
  have h:=ReadsB.struct (n:=n) (A:=Lay.int.pair (intsL.pair intsL)) Tryz.underlying51 (by kernel_rfl) (FieldsB.cons rfl rfl (readsI n) (FieldsB.cons rfl rfl (readsIs n) (FieldsB.last rfl rfl (readsIs n))));have h2:=h.via (f:=fun x:MTo=>(x.block,x.regs,x.args)) (fun d=>⟨d.1,d.2.1,d.2.2⟩) (fun d=>rfl);exact ⟨h2.1,fun hf h' hw=>by obtain ⟨d,hd,hb⟩:=h2.2 hf h' hw;exact ⟨d,hd,hb.2⟩⟩
theorem readsEnd (n : Nat) : ReadsB Tryz.prog 53 endL n (fun x => (x.yes.regs.length < 1152921504606846976 ∧ x.yes.args.length < 1152921504606846976) ∧ (x.no.regs.length < 1152921504606846976 ∧ x.no.args.length < 1152921504606846976) ∧ x.args.length < 1152921504606846976) := by
  have h:=ReadsB.struct (n:=n) (A:=Lay.int.pair (Lay.int.pair (toL.pair (toL.pair intsL)))) Tryz.underlying53 (by kernel_rfl) (FieldsB.cons rfl rfl (readsI n) (FieldsB.cons rfl rfl (readsI n) (FieldsB.cons rfl rfl (readsTo n) (FieldsB.cons rfl rfl (readsTo n) (FieldsB.last rfl rfl (readsIs n))))));have h2:=h.via (f:=fun x:MEnd=>(x.op,x.a,x.yes,x.no,x.args)) (fun d=>⟨d.1,d.2.1,d.2.2.1,d.2.2.2.1,d.2.2.2.2⟩) (fun d=>rfl);exact ⟨h2.1,fun hf h' hw=>by obtain ⟨d,hd,hb⟩:=h2.2 hf h' hw;exact ⟨d,hd,hb.2.2⟩⟩
theorem readsInss (n : Nat) : ReadsB Tryz.prog 48 insL.list n (fun l => l.length < 1152921504606846976) := ReadsB.list Tryz.underlying48 (by kernel_rfl) (readsIns n) (by decide) (by rw [show Tryz.prog.bytesOf 57 = 96 from by kernel_rfl]; decide)
theorem readsBlock (n : Nat) : ReadsB Tryz.prog 55 (blockL n) n (fun _ => True) := by
  have h:=ReadsB.struct (n:=n) (A:=Lay.int.pair ((typesL n).pair (insL.list.pair endL))) Tryz.underlying55 (by kernel_rfl) (FieldsB.cons rfl rfl (readsI n) (FieldsB.cons rfl rfl (readsTs n) (FieldsB.cons rfl rfl (readsInss n) (FieldsB.last rfl rfl (readsEnd n)))));have h2:=h.via (f:=fun x:MBlock n=>(x.regs,x.params,x.code,x.fin)) (fun d=>⟨d.1,d.2.1,d.2.2.1,d.2.2.2⟩) (fun d=>rfl);exact ⟨h2.1,fun hf h' hw=>by obtain ⟨d,hd,hb⟩:=h2.2 hf h' hw;exact ⟨d,hd,trivial⟩⟩
theorem readsBlocks (n : Nat) : ReadsB Tryz.prog 44 (blockL n).list n (fun l => l.length < 1152921504606846976) := ReadsB.list Tryz.underlying44 (by kernel_rfl) (readsBlock n) (by show 0 < 12; decide) (by rw [show Tryz.prog.bytesOf 55 = 208 from by kernel_rfl]; decide)
theorem readsFunc (n : Nat) : ReadsB Tryz.prog 46 (funcL n) n (fun _ => True) := by
  have h:=ReadsB.struct (n:=n) (A:=Lay.int.pair ((typesL n).pair ((typesL n).pair (blockL n).list))) Tryz.underlying46 (by kernel_rfl) (FieldsB.cons rfl rfl (readsI n) (FieldsB.cons rfl rfl (readsTs n) (FieldsB.cons rfl rfl (readsTs n) (FieldsB.last rfl rfl (readsBlocks n)))));have h2:=h.via (f:=fun x:MFunc n=>(x.regs,x.params,x.results,x.blocks)) (fun d=>⟨d.1,d.2.1,d.2.2.1,d.2.2.2⟩) (fun d=>rfl);exact ⟨h2.1,fun hf h' hw=>by obtain ⟨d,hd,hb⟩:=h2.2 hf h' hw;exact ⟨d,hd,trivial⟩⟩
theorem readsFuncs (n : Nat) : ReadsB Tryz.prog 22 (modL n) n (fun l => l.length < 1152921504606846976) := ReadsB.list Tryz.underlying22 (by kernel_rfl) (readsFunc n) (by show 0 < 4; decide) (by rw [show Tryz.prog.bytesOf 46 = 80 from by kernel_rfl]; decide)
theorem readsMod (n : Nat) : ReadsB Tryz.prog 24 (modL n) n (fun _ => True) := by
  have h:=ReadsB.struct (n:=n) (A:=modL n) Tryz.underlying24 (by kernel_rfl) (FieldsB.last rfl rfl (readsFuncs n));exact ⟨h.1,fun hf h' hw=>by obtain ⟨d,hd,hb⟩:=h.2 hf h' hw;exact ⟨d,hd,trivial⟩⟩
end Go.Proofs.YtjdcjfpfpaplladGreat
