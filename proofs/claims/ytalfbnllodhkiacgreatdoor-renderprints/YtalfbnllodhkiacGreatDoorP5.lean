import Derived.Test.YtalfbnllodhkiacGreatDoorP4
import Derived.Laws.CopyOwn
import Derived.Deep.Upon
set_option maxHeartbeats 16000000
set_option maxRecDepth 100000
namespace Go.Proofs.YtalfbnllodhkiacGreatDoor
open Go.ChangeShapes Go.WideShapes Go.ChangeAt Go.RowKit
set_option linter.unusedSimpArgs false
set_option linter.unusedVariables false
theorem sameModule_any {n : Nat} {m k : List (MFunc n)} {p p2 : Option Addr} {c d : Nat} {w : World} (hm0 : (modL n).In w All m [.slice p m.length c]) (hk0 : (modL n).In w All k [.slice p2 k.length d]) (hs0 : msmall m) :
    Rd Tryz.prog 11 #[.agg #[.slice p m.length c],.agg #[.slice p2 k.length d]] w (.bool (bdec (m=k))):=by
  have hm:Hid _:=hm0
  have hk:Hid _:=hk0
  have hs:Hid _:=hs0
  have hcl:=hs0.1
  clear hm0 hk0 hs0
  refine fr_enter (n:=82) Tryz.func11 rfl rfl rfl ?_
  intro a hF
  have hW:=Wd.start w
  replace hF:Fr 82 a [(0,.agg #[.slice p m.length c]),(1,.agg #[.slice p2 k.length d])]:=hF
  refine wp_seq_k fun K1 hK1=>?_
  refine rg hF fun ops=>?_;clear hF a
  refine sB hW trivial rfl rfl ?_
  clear hW;intro w2 B2 hW2 hN;clear hN
  refine sB hW2 trivial rfl rfl ?_
  clear hW2;intro w3 B3 hW3 hN;clear hN
  refine sa trivial rfl rfl ?_
  refine St.nil fun a4 h4=>?_
  refine hK1 _ _ ?_
  refine wp_seq_k fun K5 hK5=>?_
  refine wp_seq_k fun K6 hK6=>?_
  refine rg h4 fun ops=>?_;clear h4 a4
  refine sfModule0 trivial rfl rfl ?_
  refine sbFuncs 1 hW3 trivial rfl rfl rfl rfl ?_
  refine slFuncs trivial rfl rfl ?_
  refine sfModule0 trivial rfl rfl ?_
  refine sbFuncs 0 hW3 trivial rfl rfl rfl rfl ?_
  refine slFuncs trivial rfl rfl ?_
  refine sne trivial rfl rfl rfl ?_
  refine St.nil fun a7 h7=>?_
  refine hK6 _ _ ?_
  refine fr_cond (t:=15) h7 rfl (fun hb=>?_) (fun hb=>?_)
  ·have h9:¬ m.length=k.length:=by have h8:=bne_iff_ne.1 hb;omega
   have hlen:¬ m.length=k.length:=h9
   clear h9
   clear hb
   refine wp_seq_k fun K8 hK8=>?_
   refine rg h7 fun ops=>?_;clear h7 a7
   refine sa trivial rfl rfl ?_
   refine St.nil fun a9 h9=>?_
   refine hK8 _ _ ?_
   refine wp_ret ?_;with_reducible repeat first | refine of_then_ret ?_ | refine of_block_ret ?_
   have R:¬ m=k:=fun e=>hlen (by rw [e])
   exact ret_tmp (t:=4) h9 rfl rfl ⟨by rw [bdec_false R],hW3.bel⟩
  have h9:m.length=k.length:=by have h8:=bne_eq_false_iff_eq.1 hb;omega
  have hlen:Hid (m.length=k.length):=h9
  clear h9
  clear hb
  refine wp_skip ?_
  refine hK5 _ _ ?_
  refine wp_seq_k fun K10 hK10=>?_
  refine wp_seq_k fun K11 hK11=>?_
  refine rg h7 fun ops=>?_;clear h7 a7
  refine sa trivial rfl rfl ?_
  refine St.nil fun a12 h12=>?_
  refine hK11 _ _ ?_
  refine wp_block ?_
  refine fr_loop (fun r a w'=>∃ q:Nat,q≤m.length∧r=m.length - q∧(∀ j,j<q→m[j]?=k[j]?)∧Fr 82 a [(1,.agg #[.slice p2 k.length d]),(0,.agg #[.slice p m.length c]),(2,.pointer (some ⟨B2,0,none⟩)),(3,.pointer (some ⟨B3,0,none⟩)),(4,.bool false),(5,.int .i64 (q:Int))]∧Wd w w' [(B3,#[.slice p2 k.length d],25),(B2,#[.slice p m.length c],25)]) (m.length) ⟨0,Nat.zero_le _,rfl,(fun j hj=>by omega),(h12.keep (h12.keep (h12.keep (h12.keep (h12.keep (h12.keep h12.nil (t:=5) rfl) (t:=4) rfl) (t:=3) rfl) (t:=2) rfl) (t:=0) rfl) (t:=1) rfl),hW3⟩ ?_
  clear h12 hW3
  rintro r a13 w13 ⟨q,hq,hr,hall,hF13,hW13⟩ KL hKL
  refine wp_seq_k fun K14 hK14=>?_
  refine wp_seq_k fun K15 hK15=>?_
  refine rg hF13 fun ops=>?_;clear hF13 a13
  refine sm trivial rfl rfl ?_
  refine sfModule0 trivial rfl rfl ?_
  refine sbFuncs 1 hW13 trivial rfl rfl rfl rfl ?_
  refine slFuncs trivial rfl rfl ?_
  refine slt trivial rfl rfl rfl ?_
  refine St.nil fun a16 h16=>?_
  refine hK15 _ _ ?_
  refine fr_cond (t:=20) h16 rfl (fun hb=>?_) (fun hb=>?_)
  ·have hlt1:q<m.length:=by have:=of_decide_eq_true hb;omega
   have hlt2:q<k.length:=by have:=hlen.out;omega
   clear hb
   obtain ⟨x,hx1⟩:∃ v9,(m)[q]?=some v9:=⟨_,List.getElem?_eq_getElem hlt1⟩
   obtain ⟨g1,o1,f1,hp1,E1,In1⟩:=func_at hm.out hx1
   replace In1:Hid _:=In1
   replace hp1:Hid _:=hp1
   replace hx1:Hid _:=hx1
   replace E1:Hid _:=E1
   obtain ⟨y,hx2⟩:∃ v9,(k)[q]?=some v9:=⟨_,List.getElem?_eq_getElem hlt2⟩
   obtain ⟨g2,o2,f2,hp2,E2,In2⟩:=func_at hk.out hx2
   replace In2:Hid _:=In2
   replace hp2:Hid _:=hp2
   replace hx2:Hid _:=hx2
   replace E2:Hid _:=E2
   have hs1:Hid _:=hs.out.2 x (List.mem_of_getElem? hx1.out)
   have hbl:=hs1.out.1
   refine wp_skip ?_
   refine hK14 _ _ ?_
   refine wp_seq_k fun K17 hK17=>?_
   refine wp_block ?_
   refine wp_seq_k fun K18 hK18=>?_
   have hF19:Fr 82 a16 [(1,.agg #[.slice p2 k.length d]),(0,.agg #[.slice p m.length c]),(2,.pointer (some ⟨B2,0,none⟩)),(3,.pointer (some ⟨B3,0,none⟩)),(4,.bool false),(5,.int .i64 (q:Int))]:=(h16.keep (h16.keep (h16.keep (h16.keep (h16.keep (h16.keep h16.nil (t:=5) rfl) (t:=4) rfl) (t:=3) rfl) (t:=2) rfl) (t:=0) rfl) (t:=1) rfl)
   have ho2:a16.tmps.getD 2 undef=.pointer (some ⟨B2,0,none⟩):=h16.sl 2 _ rfl
   have ho5:a16.tmps.getD 5 undef=.int .i64 (q:Int):=h16.sl 5 _ rfl
   have ho3:a16.tmps.getD 3 undef=.pointer (some ⟨B3,0,none⟩):=h16.sl 3 _ rfl
   refine fr_draw3 [(0,23),(1,24),(2,25),(3,26),(4,27),(5,28),(6,29),(7,30),(8,31),(9,32)] [(10,6,4,42),(11,7,4,42)] [(12,6,4,42),(13,7,4,42)] [(23,.pointer (some ⟨B2,0,none⟩)),(24,.slice p m.length c),(25,.int .i64 (q:Int)),(26,.pointer (some ⟨g1,o1+q*4,none⟩)),(27,.agg #[.int .i64 x.regs,.slice f1.pP x.params.length f1.cP,.slice f1.pR x.results.length f1.cR,.slice f1.pB x.blocks.length f1.cB]),(28,.pointer (some ⟨B3,0,none⟩)),(29,.slice p2 k.length d),(30,.int .i64 (q:Int)),(31,.pointer (some ⟨g2,o2+q*4,none⟩)),(32,.agg #[.int .i64 y.regs,.slice f2.pP y.params.length f2.cP,.slice f2.pR y.results.length f2.cR,.slice f2.pB y.blocks.length f2.cB])] [(6,[.int .i64 x.regs,.slice f1.pP x.params.length f1.cP,.slice f1.pR x.results.length f1.cR,.slice f1.pB x.blocks.length f1.cB]),(7,[.int .i64 y.regs,.slice f2.pP y.params.length f2.cP,.slice f2.pR y.results.length f2.cR,.slice f2.pB y.blocks.length f2.cB])] (by kernel_rfl) hF19 (by kernel_rfl) (by kernel_rfl) (fun hDB=>?hst) ?hend
   case hst =>
    refine ⟨fun S a1 w1 hS hd hcl hI K hK=>?_,?_⟩
    · have hWd:=hW13.below hI.bel
      have k0:a1.tmps.getD 2 undef=.pointer (some ⟨B2,0,none⟩):=(hI.outer 2 (by kernel_rfl)).trans ho2
      go_simp
      exact hK _ _ (DI.pure hDB hI (i:=0) (t:=23) (by decide) rfl hS (Below.refl _ _) (by kernel_rfl) (by kernel_rfl))
    refine ⟨fun S a1 w1 hS hd hcl hI K hK=>?_,?_⟩
    · have hWd:=hW13.below hI.bel
      have k0:a1.tmps.getD 23 undef=.pointer (some ⟨B2,0,none⟩):=hI.vals (0,23) (by decide) (hd.at 0 (by kernel_rfl)) _ rfl
      have c0:w1.cell? ⟨B2,0,none⟩=some (.slice p m.length c):=cellOf (hWd.get 1 rfl) 0 _ rfl
      go_simp
      exact hK _ _ (DI.pure hDB hI (i:=1) (t:=24) (by decide) rfl hS (Below.refl _ _) (by kernel_rfl) (by kernel_rfl))
    refine ⟨fun S a1 w1 hS hd hcl hI K hK=>?_,?_⟩
    · have hWd:=hW13.below hI.bel
      have k0:a1.tmps.getD 5 undef=.int .i64 (q:Int):=(hI.outer 5 (by kernel_rfl)).trans ho5
      go_simp
      exact hK _ _ (DI.pure hDB hI (i:=2) (t:=25) (by decide) rfl hS (Below.refl _ _) (by kernel_rfl) (by kernel_rfl))
    refine ⟨fun S a1 w1 hS hd hcl hI K hK=>?_,?_⟩
    · have hWd:=hW13.below hI.bel
      have k0:a1.tmps.getD 24 undef=.slice p m.length c:=hI.vals (1,24) (by decide) (hd.at 1 (by kernel_rfl)) _ rfl
      have k1:a1.tmps.getD 25 undef=.int .i64 (q:Int):=hI.vals (2,25) (by decide) (hd.at 2 (by kernel_rfl)) _ rfl
      have hpq:=hp1.out
      have hk0:(0:Int)≤q:=by omega
      have hk1:(q:Int)<(m.length:Int):=by omega
      go_simp
      exact hK _ _ (DI.pure hDB hI (i:=3) (t:=26) (by decide) rfl hS (Below.refl _ _) (by kernel_rfl) (by kernel_rfl))
    refine ⟨fun S a1 w1 hS hd hcl hI K hK=>?_,?_⟩
    · have hWd:=hW13.below hI.bel
      have k0:a1.tmps.getD 26 undef=.pointer (some ⟨g1,o1+q*4,none⟩):=hI.vals (3,26) (by decide) (hd.at 3 (by kernel_rfl)) _ rfl
      have d0:w1.cell? ⟨g1,o1+q*4,none⟩=some (.int .i64 x.regs):=bel_cell hWd.bel (E1.out 0 _ rfl)
      have d1:w1.cell? ⟨g1,o1+q*4+1,none⟩=some (.slice f1.pP x.params.length f1.cP):=bel_cell hWd.bel (E1.out 1 _ rfl)
      have d2:w1.cell? ⟨g1,o1+q*4+2,none⟩=some (.slice f1.pR x.results.length f1.cR):=bel_cell hWd.bel (E1.out 2 _ rfl)
      have d3:w1.cell? ⟨g1,o1+q*4+3,none⟩=some (.slice f1.pB x.blocks.length f1.cB):=bel_cell hWd.bel (E1.out 3 _ rfl)
      go_simp
      exact hK _ _ (DI.pure hDB hI (i:=4) (t:=27) (by decide) rfl hS (Below.refl _ _) (by kernel_rfl) (by kernel_rfl))
    refine ⟨fun S a1 w1 hS hd hcl hI K hK=>?_,?_⟩
    · have hWd:=hW13.below hI.bel
      have k0:a1.tmps.getD 3 undef=.pointer (some ⟨B3,0,none⟩):=(hI.outer 3 (by kernel_rfl)).trans ho3
      go_simp
      exact hK _ _ (DI.pure hDB hI (i:=5) (t:=28) (by decide) rfl hS (Below.refl _ _) (by kernel_rfl) (by kernel_rfl))
    refine ⟨fun S a1 w1 hS hd hcl hI K hK=>?_,?_⟩
    · have hWd:=hW13.below hI.bel
      have k0:a1.tmps.getD 28 undef=.pointer (some ⟨B3,0,none⟩):=hI.vals (5,28) (by decide) (hd.at 5 (by kernel_rfl)) _ rfl
      have c0:w1.cell? ⟨B3,0,none⟩=some (.slice p2 k.length d):=cellOf (hWd.get 0 rfl) 0 _ rfl
      go_simp
      exact hK _ _ (DI.pure hDB hI (i:=6) (t:=29) (by decide) rfl hS (Below.refl _ _) (by kernel_rfl) (by kernel_rfl))
    refine ⟨fun S a1 w1 hS hd hcl hI K hK=>?_,?_⟩
    · have hWd:=hW13.below hI.bel
      have k0:a1.tmps.getD 5 undef=.int .i64 (q:Int):=(hI.outer 5 (by kernel_rfl)).trans ho5
      go_simp
      exact hK _ _ (DI.pure hDB hI (i:=7) (t:=30) (by decide) rfl hS (Below.refl _ _) (by kernel_rfl) (by kernel_rfl))
    refine ⟨fun S a1 w1 hS hd hcl hI K hK=>?_,?_⟩
    · have hWd:=hW13.below hI.bel
      have k0:a1.tmps.getD 29 undef=.slice p2 k.length d:=hI.vals (6,29) (by decide) (hd.at 6 (by kernel_rfl)) _ rfl
      have k1:a1.tmps.getD 30 undef=.int .i64 (q:Int):=hI.vals (7,30) (by decide) (hd.at 7 (by kernel_rfl)) _ rfl
      have hpq:=hp2.out
      have hk0:(0:Int)≤q:=by omega
      have hk1:(q:Int)<(k.length:Int):=by omega
      go_simp
      exact hK _ _ (DI.pure hDB hI (i:=8) (t:=31) (by decide) rfl hS (Below.refl _ _) (by kernel_rfl) (by kernel_rfl))
    refine ⟨fun S a1 w1 hS hd hcl hI K hK=>?_,?_⟩
    · have hWd:=hW13.below hI.bel
      have k0:a1.tmps.getD 31 undef=.pointer (some ⟨g2,o2+q*4,none⟩):=hI.vals (8,31) (by decide) (hd.at 8 (by kernel_rfl)) _ rfl
      have d0:w1.cell? ⟨g2,o2+q*4,none⟩=some (.int .i64 y.regs):=bel_cell hWd.bel (E2.out 0 _ rfl)
      have d1:w1.cell? ⟨g2,o2+q*4+1,none⟩=some (.slice f2.pP y.params.length f2.cP):=bel_cell hWd.bel (E2.out 1 _ rfl)
      have d2:w1.cell? ⟨g2,o2+q*4+2,none⟩=some (.slice f2.pR y.results.length f2.cR):=bel_cell hWd.bel (E2.out 2 _ rfl)
      have d3:w1.cell? ⟨g2,o2+q*4+3,none⟩=some (.slice f2.pB y.blocks.length f2.cB):=bel_cell hWd.bel (E2.out 3 _ rfl)
      go_simp
      exact hK _ _ (DI.pure hDB hI (i:=9) (t:=32) (by decide) rfl hS (Below.refl _ _) (by kernel_rfl) (by kernel_rfl))
    refine ⟨fun S a1 w1 hS hd hcl hI K hK=>?_,?_⟩
    · go_simp
      exact hK _ _ (DI.alloc hDB hI (i:=10) (t:=6) (s:=4) (ty:=42) (by decide) rfl hS hcl (by kernel_rfl) (by kernel_rfl))
    refine ⟨fun S a1 w1 hS hd hcl hI K hK=>?_,?_⟩
    · go_simp
      exact hK _ _ (DI.alloc hDB hI (i:=11) (t:=7) (s:=4) (ty:=42) (by decide) rfl hS hcl (by kernel_rfl) (by kernel_rfl))
    refine ⟨fun S a1 w1 hS hd hcl hI K hK=>?_,?_⟩
    · have k0:a1.tmps.getD 27 undef=.agg #[.int .i64 x.regs,.slice f1.pP x.params.length f1.cP,.slice f1.pR x.results.length f1.cR,.slice f1.pB x.blocks.length f1.cB]:=hI.vals (4,27) (by decide) (hd.at 4 (by kernel_rfl)) _ rfl
      obtain ⟨B,kB,hlo,c0,hBk,hcs⟩:=hI.box (i:=10) (t:=6) (s:=4) (ty:=42) (by decide) (hd.at 10 (by kernel_rfl))
      exact wp_fill hBk kB k0 infFunc rfl hcs.symm (hK _ _ (DI.store hDB hI (i:=12) (t:=6) (s:=4) (ty:=42) (j:=10) (by decide) (by decide) (hd.at 10 (by kernel_rfl)) kB hBk hcs hlo rfl rfl hS hcl (by kernel_rfl) (by kernel_rfl)))
    refine ⟨fun S a1 w1 hS hd hcl hI K hK=>?_,?_⟩
    · have k0:a1.tmps.getD 32 undef=.agg #[.int .i64 y.regs,.slice f2.pP y.params.length f2.cP,.slice f2.pR y.results.length f2.cR,.slice f2.pB y.blocks.length f2.cB]:=hI.vals (9,32) (by decide) (hd.at 9 (by kernel_rfl)) _ rfl
      obtain ⟨B,kB,hlo,c0,hBk,hcs⟩:=hI.box (i:=11) (t:=7) (s:=4) (ty:=42) (by decide) (hd.at 11 (by kernel_rfl))
      exact wp_fill hBk kB k0 infFunc rfl hcs.symm (hK _ _ (DI.store hDB hI (i:=13) (t:=7) (s:=4) (ty:=42) (j:=11) (by decide) (by decide) (hd.at 11 (by kernel_rfl)) kB hBk hcs hlo rfl rfl hS hcl (by kernel_rfl) (by kernel_rfl)))
    trivial
   case hend =>
    intro S a20 w20 hS hD hFD
    obtain ⟨BD6,hd6,hBl6,hBk6⟩:=hD.full (j:=10) (i:=12) (t:=6) (s:=4) (ty:=42) (by decide) (hS _ (by decide)) (by decide) (hS _ (by decide)) rfl
    obtain ⟨BD7,hd7,hBl7,hBk7⟩:=hD.full (j:=11) (i:=13) (t:=7) (s:=4) (ty:=42) (by decide) (hS _ (by decide)) (by decide) (hS _ (by decide)) rfl
    have hF20:Fr 82 a20 [(7,.pointer (some ⟨BD7,0,none⟩)),(6,.pointer (some ⟨BD6,0,none⟩)),(1,.agg #[.slice p2 k.length d]),(0,.agg #[.slice p m.length c]),(2,.pointer (some ⟨B2,0,none⟩)),(3,.pointer (some ⟨B3,0,none⟩)),(4,.bool false),(5,.int .i64 (q:Int))]:=((hFD.cons hd6).cons hd7)
    have hnB:BD6≠BD7:=fun e=>hD.ne (10,6,4,42) (by decide) (11,7,4,42) (by decide) (by decide) (hS _ (by decide)) (hS _ (by decide)) (by rw [hd6,hd7,e])
    have hW20:Wd w w20 [(BD6,#[.int .i64 x.regs,.slice f1.pP x.params.length f1.cP,.slice f1.pR x.results.length f1.cR,.slice f1.pB x.blocks.length f1.cB],42),(BD7,#[.int .i64 y.regs,.slice f2.pP y.params.length f2.cP,.slice f2.pR y.results.length f2.cR,.slice f2.pB y.blocks.length f2.cB],42),(B3,#[.slice p2 k.length d],25),(B2,#[.slice p m.length c],25)]:=Wd.add2 (hW13.below hD.bel) hW13 hBk6 hBk7 hnB hBl6 hBl7
    clear hS hD hFD hnB hW13 hd6 hd7
    clear hBl6 hBk6 hBl7 hBk7
    refine hK18 _ _ ?_
    refine wp_seq_k fun K21 hK21=>?_
    refine wp_seq_k fun K22 hK22=>?_
    refine fr_region ?_
    intro ops hops
    have hg5:(ops[5]?).bind (fun o:Oper=>o.dst)=some 38:=hops 5
    have hg13:(ops[13]?).bind (fun o:Oper=>o.dst)=some 46:=hops 13
    have hg21:(ops[21]?).bind (fun o:Oper=>o.dst)=some 54:=hops 21
    clear hops
    refine St.go hF20 ?_;clear hF20 a20
    refine sfFunc0 trivial rfl rfl ?_
    refine sbInt 0 hW20 trivial rfl rfl rfl rfl ?_
    refine sfFunc0 trivial rfl rfl ?_
    refine sbInt 1 hW20 trivial rfl rfl rfl rfl ?_
    refine sne trivial rfl rfl rfl ?_
    refine sm trivial rfl rfl ?_
    intro a23 h23
    rcases Bool.eq_false_or_eq_true (x.regs != y.regs) with hb | hb
    ·rw [hb] at h23
     have h9:¬ x.regs=y.regs:=bne_iff_ne.1 hb
     have hc24:¬ x.regs=y.regs:=h9
     clear h9
     clear hb
     refine St.go h23 ?_;clear h23 a23
     refine so hg5 rfl rfl rfl rfl ?_
     refine so hg5 rfl rfl rfl rfl ?_
     refine so hg5 rfl rfl rfl rfl ?_
     refine so hg5 rfl rfl rfl rfl ?_
     refine so hg5 rfl rfl rfl rfl ?_
     refine so hg5 rfl rfl rfl rfl ?_
     refine sp trivial rfl rfl rfl ?_
     refine sm trivial rfl rfl ?_
     refine so hg13 rfl rfl rfl rfl ?_
     refine so hg13 rfl rfl rfl rfl ?_
     refine so hg13 rfl rfl rfl rfl ?_
     refine so hg13 rfl rfl rfl rfl ?_
     refine so hg13 rfl rfl rfl rfl ?_
     refine so hg13 rfl rfl rfl rfl ?_
     refine sp trivial rfl rfl rfl ?_
     refine sm trivial rfl rfl ?_
     refine so hg21 rfl rfl rfl rfl ?_
     refine so hg21 rfl rfl rfl rfl ?_
     refine so hg21 rfl rfl rfl rfl ?_
     refine so hg21 rfl rfl rfl rfl ?_
     refine so hg21 rfl rfl rfl rfl ?_
     refine so hg21 rfl rfl rfl rfl ?_
     refine so hg21 rfl rfl rfl rfl ?_
     refine sp trivial rfl rfl rfl ?_
     refine St.nil fun a25 h25=>?_
     refine hK22 _ _ ?_
     refine fr_true (t:=62) h25 rfl ?_
     refine wp_seq_k fun K26 hK26=>?_
     refine rg h25 fun ops=>?_;clear h25 a25
     refine sa trivial rfl rfl ?_
     refine St.nil fun a27 h27=>?_
     refine hK26 _ _ ?_
     refine wp_ret ?_;with_reducible repeat first | refine of_then_ret ?_ | refine of_block_ret ?_
     have RX:¬ x=y:=by
       intro e
       first
         | exact hlb (by rw [e])
         | exact hc24 (by rw [e])
     have R:¬ m=k:=by
       intro e
       have h1:=hx1.out
       rw [e,hx2.out] at h1
       exact RX (Option.some.inj h1).symm
     exact ret_tmp (t:=4) h27 rfl rfl ⟨by rw [bdec_false R],hW20.bel⟩
    rw [hb] at h23
    have h9:x.regs=y.regs:=bne_eq_false_iff_eq.1 hb
    have hc28:Hid (x.regs=y.regs):=h9
    clear h9
    clear hb
    refine St.go h23 ?_;clear h23 a23
    refine sfFunc1 ⟨_,hg5,rfl,rfl⟩ rfl rfl ?_
    refine sbTypes 0 hW20 ⟨_,hg5,rfl,rfl⟩ rfl rfl rfl rfl ?_
    refine sfFunc1 ⟨_,hg5,rfl,rfl⟩ rfl rfl ?_
    refine sbTypes 1 hW20 ⟨_,hg5,rfl,rfl⟩ rfl rfl rfl rfl ?_
    refine sc_2 cf33 hW20 (sameTypes_any (Lay.below In1.out.params hW20.bel) (Lay.below In2.out.params hW20.bel) hs1.out.2.1) ⟨_,hg5,rfl,rfl⟩ rfl rfl rfl ?_
    clear hW20;intro w29 hW29
    refine sn ⟨_,hg5,rfl,rfl⟩ rfl rfl ?_
    refine spf trivial rfl rfl rfl ?_
    refine sm trivial rfl rfl ?_
    intro a30 h30
    rcases Bool.eq_false_or_eq_true (!(bdec (x.params=y.params))) with hb | hb
    ·rw [hb] at h30
     have hb:(bdec (x.params=y.params))=false:=by simpa using hb
     have hc31:¬ (x.params=y.params):=fun h=>by rw [bdec_true h] at hb;cases hb
     clear hb
     refine St.go h30 ?_;clear h30 a30
     refine so hg13 rfl rfl rfl rfl ?_
     refine so hg13 rfl rfl rfl rfl ?_
     refine so hg13 rfl rfl rfl rfl ?_
     refine so hg13 rfl rfl rfl rfl ?_
     refine so hg13 rfl rfl rfl rfl ?_
     refine so hg13 rfl rfl rfl rfl ?_
     refine sp trivial rfl rfl rfl ?_
     refine sm trivial rfl rfl ?_
     refine so hg21 rfl rfl rfl rfl ?_
     refine so hg21 rfl rfl rfl rfl ?_
     refine so hg21 rfl rfl rfl rfl ?_
     refine so hg21 rfl rfl rfl rfl ?_
     refine so hg21 rfl rfl rfl rfl ?_
     refine so hg21 rfl rfl rfl rfl ?_
     refine so hg21 rfl rfl rfl rfl ?_
     refine sp trivial rfl rfl rfl ?_
     refine St.nil fun a32 h32=>?_
     refine hK22 _ _ ?_
     refine fr_true (t:=62) h32 rfl ?_
     refine wp_seq_k fun K33 hK33=>?_
     refine rg h32 fun ops=>?_;clear h32 a32
     refine sa trivial rfl rfl ?_
     refine St.nil fun a34 h34=>?_
     refine hK33 _ _ ?_
     refine wp_ret ?_;with_reducible repeat first | refine of_then_ret ?_ | refine of_block_ret ?_
     have RX:¬ x=y:=by
       intro e
       first
         | exact hlb (by rw [e])
         | exact hc31 (by rw [e])
         | exact hc28 (by rw [e])
     have R:¬ m=k:=by
       intro e
       have h1:=hx1.out
       rw [e,hx2.out] at h1
       exact RX (Option.some.inj h1).symm
     exact ret_tmp (t:=4) h34 rfl rfl ⟨by rw [bdec_false R],hW29.bel⟩
    rw [hb] at h30
    have hb:(bdec (x.params=y.params))=true:=by simpa using hb
    have hc35:(x.params=y.params):=bdec_iff.1 hb
    clear hb
    refine St.go h30 ?_;clear h30 a30
    refine sfFunc2 ⟨_,hg13,rfl,rfl⟩ rfl rfl ?_
    refine sbTypes 0 hW29 ⟨_,hg13,rfl,rfl⟩ rfl rfl rfl rfl ?_
    refine sfFunc2 ⟨_,hg13,rfl,rfl⟩ rfl rfl ?_
    refine sbTypes 1 hW29 ⟨_,hg13,rfl,rfl⟩ rfl rfl rfl rfl ?_
    refine sc_2 cf33 hW29 (sameTypes_any (Lay.below In1.out.results hW29.bel) (Lay.below In2.out.results hW29.bel) hs1.out.2.2.1) ⟨_,hg13,rfl,rfl⟩ rfl rfl rfl ?_
    clear hW29;intro w36 hW36
    refine sn ⟨_,hg13,rfl,rfl⟩ rfl rfl ?_
    refine spf trivial rfl rfl rfl ?_
    refine sm trivial rfl rfl ?_
    intro a37 h37
    rcases Bool.eq_false_or_eq_true (!(bdec (x.results=y.results))) with hb | hb
    ·rw [hb] at h37
     have hb:(bdec (x.results=y.results))=false:=by simpa using hb
     have hc38:¬ (x.results=y.results):=fun h=>by rw [bdec_true h] at hb;cases hb
     clear hb
     refine St.go h37 ?_;clear h37 a37
     refine so hg21 rfl rfl rfl rfl ?_
     refine so hg21 rfl rfl rfl rfl ?_
     refine so hg21 rfl rfl rfl rfl ?_
     refine so hg21 rfl rfl rfl rfl ?_
     refine so hg21 rfl rfl rfl rfl ?_
     refine so hg21 rfl rfl rfl rfl ?_
     refine so hg21 rfl rfl rfl rfl ?_
     refine sp trivial rfl rfl rfl ?_
     refine St.nil fun a39 h39=>?_
     refine hK22 _ _ ?_
     refine fr_true (t:=62) h39 rfl ?_
     refine wp_seq_k fun K40 hK40=>?_
     refine rg h39 fun ops=>?_;clear h39 a39
     refine sa trivial rfl rfl ?_
     refine St.nil fun a41 h41=>?_
     refine hK40 _ _ ?_
     refine wp_ret ?_;with_reducible repeat first | refine of_then_ret ?_ | refine of_block_ret ?_
     have RX:¬ x=y:=by
       intro e
       first
         | exact hlb (by rw [e])
         | exact hc38 (by rw [e])
         | exact hc35 (by rw [e])
         | exact hc28 (by rw [e])
     have R:¬ m=k:=by
       intro e
       have h1:=hx1.out
       rw [e,hx2.out] at h1
       exact RX (Option.some.inj h1).symm
     exact ret_tmp (t:=4) h41 rfl rfl ⟨by rw [bdec_false R],hW36.bel⟩
    rw [hb] at h37
    have hb:(bdec (x.results=y.results))=true:=by simpa using hb
    have hc42:(x.results=y.results):=bdec_iff.1 hb
    clear hb
    refine St.go h37 ?_;clear h37 a37
    refine sfFunc3 ⟨_,hg21,rfl,rfl⟩ rfl rfl ?_
    refine sbBlocks 0 hW36 ⟨_,hg21,rfl,rfl⟩ rfl rfl rfl rfl ?_
    refine slBlocks ⟨_,hg21,rfl,rfl⟩ rfl rfl ?_
    refine sfFunc3 ⟨_,hg21,rfl,rfl⟩ rfl rfl ?_
    refine sbBlocks 1 hW36 ⟨_,hg21,rfl,rfl⟩ rfl rfl rfl rfl ?_
    refine slBlocks ⟨_,hg21,rfl,rfl⟩ rfl rfl ?_
    refine sne ⟨_,hg21,rfl,rfl⟩ rfl rfl rfl ?_
    refine spf trivial rfl rfl rfl ?_
    refine St.nil fun a43 h43=>?_
    refine hK22 _ _ ?_
    refine fr_cond (t:=62) h43 rfl (fun hb=>?_) (fun hb=>?_)
    ·have h9:¬ x.blocks.length=y.blocks.length:=by have h8:=bne_iff_ne.1 hb;omega
     have hlb:¬ x.blocks.length=y.blocks.length:=h9
     clear h9
     clear hb
     refine wp_seq_k fun K44 hK44=>?_
     refine rg h43 fun ops=>?_;clear h43 a43
     refine sa trivial rfl rfl ?_
     refine St.nil fun a45 h45=>?_
     refine hK44 _ _ ?_
     refine wp_ret ?_;with_reducible repeat first | refine of_then_ret ?_ | refine of_block_ret ?_
     have RX:¬ x=y:=by
       intro e
       first
         | exact hlb (by rw [e])
         | exact hc42 (by rw [e])
         | exact hc35 (by rw [e])
         | exact hc28 (by rw [e])
     have R:¬ m=k:=by
       intro e
       have h1:=hx1.out
       rw [e,hx2.out] at h1
       exact RX (Option.some.inj h1).symm
     exact ret_tmp (t:=4) h45 rfl rfl ⟨by rw [bdec_false R],hW36.bel⟩
    have h9:x.blocks.length=y.blocks.length:=by have h8:=bne_eq_false_iff_eq.1 hb;omega
    have hlb:Hid (x.blocks.length=y.blocks.length):=h9
    clear h9
    clear hb
    refine wp_skip ?_
    refine hK21 _ _ ?_
    refine wp_seq_k fun K46 hK46=>?_
    refine rg h43 fun ops=>?_;clear h43 a43
    refine sa trivial rfl rfl ?_
    refine St.nil fun a47 h47=>?_
    refine hK46 _ _ ?_
    refine wp_block ?_
    refine fr_loop (fun r a w'=>∃ qb:Nat,qb≤x.blocks.length∧r=x.blocks.length - qb∧(∀ j,j<qb→x.blocks[j]?=y.blocks[j]?)∧Fr 82 a [(1,.agg #[.slice p2 k.length d]),(0,.agg #[.slice p m.length c]),(2,.pointer (some ⟨B2,0,none⟩)),(3,.pointer (some ⟨B3,0,none⟩)),(4,.bool false),(5,.int .i64 (q:Int)),(6,.pointer (some ⟨BD6,0,none⟩)),(7,.pointer (some ⟨BD7,0,none⟩)),(8,.int .i64 (qb:Int))]∧Wd w w' [(BD6,#[.int .i64 x.regs,.slice f1.pP x.params.length f1.cP,.slice f1.pR x.results.length f1.cR,.slice f1.pB x.blocks.length f1.cB],42),(BD7,#[.int .i64 y.regs,.slice f2.pP y.params.length f2.cP,.slice f2.pR y.results.length f2.cR,.slice f2.pB y.blocks.length f2.cB],42),(B3,#[.slice p2 k.length d],25),(B2,#[.slice p m.length c],25)]) (x.blocks.length) ⟨0,Nat.zero_le _,rfl,(fun j hj=>by omega),(h47.keep (h47.keep (h47.keep (h47.keep (h47.keep (h47.keep (h47.keep (h47.keep (h47.keep h47.nil (t:=8) rfl) (t:=7) rfl) (t:=6) rfl) (t:=5) rfl) (t:=4) rfl) (t:=3) rfl) (t:=2) rfl) (t:=0) rfl) (t:=1) rfl),hW36⟩ ?_
    clear h47 hW36
    rintro rb a48 w48 ⟨qb,hqb,hrb,hal2,hF48,hW48⟩ KLb hKLb
    refine wp_seq_k fun K49 hK49=>?_
    refine wp_seq_k fun K50 hK50=>?_
    refine rg hF48 fun ops=>?_;clear hF48 a48
    refine sm trivial rfl rfl ?_
    refine sfFunc3 trivial rfl rfl ?_
    refine sbBlocks 0 hW48 trivial rfl rfl rfl rfl ?_
    refine slBlocks trivial rfl rfl ?_
    refine slt trivial rfl rfl rfl ?_
    refine St.nil fun a51 h51=>?_
    refine hK50 _ _ ?_
    refine fr_cond (t:=67) h51 rfl (fun hb=>?_) (fun hb=>?_)
    ·have hlt3:qb<x.blocks.length:=by have:=of_decide_eq_true hb;omega
     have hlt4:qb<y.blocks.length:=by have:=hlb.out;omega
     clear hb
     obtain ⟨z,hx3⟩:∃ v9,(x.blocks)[qb]?=some v9:=⟨_,List.getElem?_eq_getElem hlt3⟩
     obtain ⟨g3,o3,b3,hp3,E3,In3⟩:=block_at In1.out.blocks hx3
     replace In3:Hid _:=In3
     replace hp3:Hid _:=hp3
     replace hx3:Hid _:=hx3
     replace E3:Hid _:=E3
     obtain ⟨u,hx4⟩:∃ v9,(y.blocks)[qb]?=some v9:=⟨_,List.getElem?_eq_getElem hlt4⟩
     obtain ⟨g4,o4,b4,hp4,E4,In4⟩:=block_at In2.out.blocks hx4
     replace In4:Hid _:=In4
     replace hp4:Hid _:=hp4
     replace hx4:Hid _:=hx4
     replace E4:Hid _:=E4
     refine wp_skip ?_
     refine hK49 _ _ ?_
     refine wp_seq_k fun K52 hK52=>?_
     refine wp_block ?_
     refine wp_seq_k fun K53 hK53=>?_
     have hF54:Fr 82 a51 [(1,.agg #[.slice p2 k.length d]),(0,.agg #[.slice p m.length c]),(2,.pointer (some ⟨B2,0,none⟩)),(3,.pointer (some ⟨B3,0,none⟩)),(4,.bool false),(5,.int .i64 (q:Int)),(6,.pointer (some ⟨BD6,0,none⟩)),(7,.pointer (some ⟨BD7,0,none⟩)),(8,.int .i64 (qb:Int))]:=(h51.keep (h51.keep (h51.keep (h51.keep (h51.keep (h51.keep (h51.keep (h51.keep (h51.keep h51.nil (t:=8) rfl) (t:=7) rfl) (t:=6) rfl) (t:=5) rfl) (t:=4) rfl) (t:=3) rfl) (t:=2) rfl) (t:=0) rfl) (t:=1) rfl)
     have ho6:a51.tmps.getD 6 undef=.pointer (some ⟨BD6,0,none⟩):=h51.sl 6 _ rfl
     have ho8:a51.tmps.getD 8 undef=.int .i64 (qb:Int):=h51.sl 8 _ rfl
     have ho7:a51.tmps.getD 7 undef=.pointer (some ⟨BD7,0,none⟩):=h51.sl 7 _ rfl
     refine fr_draw_k 12 ([(6,fun v _=>v=.pointer (some ⟨BD6,0,none⟩)),(8,fun v _=>v=.int .i64 (qb:Int)),(7,fun v _=>v=.pointer (some ⟨BD7,0,none⟩)),(70,fun v _=>v=.pointer (some ⟨BD6,3,none⟩)),(71,fun v _=>v=.slice f1.pB x.blocks.length f1.cB),(72,fun v _=>v=.int .i64 (qb:Int)),(73,fun v _=>v=.pointer (some ⟨g3,o3+qb*12,none⟩)),(74,fun v _=>v=.agg #[.int .i64 z.regs,.slice b3.pP z.params.length b3.cP,.slice b3.pC z.code.length b3.cC,.int .i64 z.fin.op,.int .i64 z.fin.a,.int .i64 z.fin.yes.block,.slice b3.e.pYR z.fin.yes.regs.length b3.e.cYR,.slice b3.e.pYA z.fin.yes.args.length b3.e.cYA,.int .i64 z.fin.no.block,.slice b3.e.pNR z.fin.no.regs.length b3.e.cNR,.slice b3.e.pNA z.fin.no.args.length b3.e.cNA,.slice b3.e.pA z.fin.args.length b3.e.cA]),(75,fun v _=>v=.pointer (some ⟨BD7,3,none⟩)),(76,fun v _=>v=.slice f2.pB y.blocks.length f2.cB),(77,fun v _=>v=.int .i64 (qb:Int)),(78,fun v _=>v=.pointer (some ⟨g4,o4+qb*12,none⟩)),(79,fun v _=>v=.agg #[.int .i64 u.regs,.slice b4.pP u.params.length b4.cP,.slice b4.pC u.code.length b4.cC,.int .i64 u.fin.op,.int .i64 u.fin.a,.int .i64 u.fin.yes.block,.slice b4.e.pYR u.fin.yes.regs.length b4.e.cYR,.slice b4.e.pYA u.fin.yes.args.length b4.e.cYA,.int .i64 u.fin.no.block,.slice b4.e.pNR u.fin.no.regs.length b4.e.cNR,.slice b4.e.pNA u.fin.no.args.length b4.e.cNA,.slice b4.e.pA u.fin.args.length b4.e.cA]),(80,fun v _=>v=.bool (bdec (z=u))),(81,fun v _=>v=.bool (!(bdec (z=u))))]:PTab) (fun w'=>Wd w w' [(BD6,#[.int .i64 x.regs,.slice f1.pP x.params.length f1.cP,.slice f1.pR x.results.length f1.cR,.slice f1.pB x.blocks.length f1.cB],42),(BD7,#[.int .i64 y.regs,.slice f2.pP y.params.length f2.cP,.slice f2.pR y.results.length f2.cR,.slice f2.pB y.blocks.length f2.cB],42),(B3,#[.slice p2 k.length d],25),(B2,#[.slice p m.length c],25)]∧Below w48.heap.size w48 w') (fun w w'=>Below w.heap.size w w') (outs:=[6,8,7]) (gs:=[]) (bs:=[true,true,true,true,true,true,true,true,true,true,true,true]) (by kernel_rfl) hF54 rfl (by kernel_rfl) (by kernel_rfl) ?hR ?hG ⟨hW48.drewN 1,drewN_below (m:=1) (Below.refl _ _)⟩ ⟨ho6,ho8,ho7,trivial⟩ ?hA ?hend
     case hR=>exact ⟨fun _ _ _ _ h=>h,fun _ _ _ _ h=>h,fun _ _ _ _ h=>h,fun _ _ _ _ h=>h,fun _ _ _ _ h=>h,fun _ _ _ _ h=>h,fun _ _ _ _ h=>h,fun _ _ _ _ h=>h,fun _ _ _ _ h=>h,fun _ _ _ _ h=>h,fun _ _ _ _ h=>h,fun _ _ _ _ h=>h,fun _ _ _ _ h=>h,fun _ _ _ _ h=>h,fun _ _ _ _ h=>h,trivial⟩
     case hG=>exact trivial
     case hA =>
      refine ⟨fun a w hW hk K hK=>?_,?_⟩
      · obtain ⟨k0,-⟩:=hk
        have k0:a.tmps.getD 6 undef=.pointer (some ⟨BD6,0,none⟩):=k0
        go_simp
        exact hK _ _ (Below.refl _ _) hW rfl
      refine ⟨fun a w hW hk K hK=>?_,?_⟩
      · obtain ⟨k0,-⟩:=hk
        have k0:a.tmps.getD 70 undef=.pointer (some ⟨BD6,3,none⟩):=k0
        have c3:w.cell? ⟨BD6,3,none⟩=some (.slice f1.pB x.blocks.length f1.cB):=cellOf (hW.1.get 0 rfl) 3 _ rfl
        go_simp
        exact hK _ _ (Below.refl _ _) hW rfl
      refine ⟨fun a w hW hk K hK=>?_,?_⟩
      · obtain ⟨k0,-⟩:=hk
        have k0:a.tmps.getD 8 undef=.int .i64 (qb:Int):=k0
        go_simp
        exact hK _ _ (Below.refl _ _) hW rfl
      refine ⟨fun a w hW hk K hK=>?_,?_⟩
      · obtain ⟨k0,k1,-⟩:=hk
        have k0:a.tmps.getD 71 undef=.slice f1.pB x.blocks.length f1.cB:=k0
        have k1:a.tmps.getD 72 undef=.int .i64 (qb:Int):=k1
        have hpq:=hp3.out
        have hk0:(0:Int)≤qb:=by omega
        have hk1:(qb:Int)<(x.blocks.length:Int):=by omega
        go_simp
        exact hK _ _ (Below.refl _ _) hW rfl
      refine ⟨fun a w hW hk K hK=>?_,?_⟩
      · obtain ⟨k0,-⟩:=hk
        have k0:a.tmps.getD 73 undef=.pointer (some ⟨g3,o3+qb*12,none⟩):=k0
        have d0:w.cell? ⟨g3,o3+qb*12,none⟩=some (.int .i64 z.regs):=bel_cell hW.1.bel (E3.out 0 _ rfl)
        have d1:w.cell? ⟨g3,o3+qb*12+1,none⟩=some (.slice b3.pP z.params.length b3.cP):=bel_cell hW.1.bel (E3.out 1 _ rfl)
        have d2:w.cell? ⟨g3,o3+qb*12+2,none⟩=some (.slice b3.pC z.code.length b3.cC):=bel_cell hW.1.bel (E3.out 2 _ rfl)
        have d3:w.cell? ⟨g3,o3+qb*12+3,none⟩=some (.int .i64 z.fin.op):=bel_cell hW.1.bel (E3.out 3 _ rfl)
        have d4:w.cell? ⟨g3,o3+qb*12+4,none⟩=some (.int .i64 z.fin.a):=bel_cell hW.1.bel (E3.out 4 _ rfl)
        have d5:w.cell? ⟨g3,o3+qb*12+5,none⟩=some (.int .i64 z.fin.yes.block):=bel_cell hW.1.bel (E3.out 5 _ rfl)
        have d6:w.cell? ⟨g3,o3+qb*12+6,none⟩=some (.slice b3.e.pYR z.fin.yes.regs.length b3.e.cYR):=bel_cell hW.1.bel (E3.out 6 _ rfl)
        have d7:w.cell? ⟨g3,o3+qb*12+7,none⟩=some (.slice b3.e.pYA z.fin.yes.args.length b3.e.cYA):=bel_cell hW.1.bel (E3.out 7 _ rfl)
        have d8:w.cell? ⟨g3,o3+qb*12+8,none⟩=some (.int .i64 z.fin.no.block):=bel_cell hW.1.bel (E3.out 8 _ rfl)
        have d9:w.cell? ⟨g3,o3+qb*12+9,none⟩=some (.slice b3.e.pNR z.fin.no.regs.length b3.e.cNR):=bel_cell hW.1.bel (E3.out 9 _ rfl)
        have d10:w.cell? ⟨g3,o3+qb*12+10,none⟩=some (.slice b3.e.pNA z.fin.no.args.length b3.e.cNA):=bel_cell hW.1.bel (E3.out 10 _ rfl)
        have d11:w.cell? ⟨g3,o3+qb*12+11,none⟩=some (.slice b3.e.pA z.fin.args.length b3.e.cA):=bel_cell hW.1.bel (E3.out 11 _ rfl)
        go_simp
        exact hK _ _ (Below.refl _ _) hW rfl
      refine ⟨fun a w hW hk K hK=>?_,?_⟩
      · obtain ⟨k0,-⟩:=hk
        have k0:a.tmps.getD 7 undef=.pointer (some ⟨BD7,0,none⟩):=k0
        go_simp
        exact hK _ _ (Below.refl _ _) hW rfl
      refine ⟨fun a w hW hk K hK=>?_,?_⟩
      · obtain ⟨k0,-⟩:=hk
        have k0:a.tmps.getD 75 undef=.pointer (some ⟨BD7,3,none⟩):=k0
        have c3:w.cell? ⟨BD7,3,none⟩=some (.slice f2.pB y.blocks.length f2.cB):=cellOf (hW.1.get 1 rfl) 3 _ rfl
        go_simp
        exact hK _ _ (Below.refl _ _) hW rfl
      refine ⟨fun a w hW hk K hK=>?_,?_⟩
      · obtain ⟨k0,-⟩:=hk
        have k0:a.tmps.getD 8 undef=.int .i64 (qb:Int):=k0
        go_simp
        exact hK _ _ (Below.refl _ _) hW rfl
      refine ⟨fun a w hW hk K hK=>?_,?_⟩
      · obtain ⟨k0,k1,-⟩:=hk
        have k0:a.tmps.getD 76 undef=.slice f2.pB y.blocks.length f2.cB:=k0
        have k1:a.tmps.getD 77 undef=.int .i64 (qb:Int):=k1
        have hpq:=hp4.out
        have hk0:(0:Int)≤qb:=by omega
        have hk1:(qb:Int)<(y.blocks.length:Int):=by omega
        go_simp
        exact hK _ _ (Below.refl _ _) hW rfl
      refine ⟨fun a w hW hk K hK=>?_,?_⟩
      · obtain ⟨k0,-⟩:=hk
        have k0:a.tmps.getD 78 undef=.pointer (some ⟨g4,o4+qb*12,none⟩):=k0
        have d0:w.cell? ⟨g4,o4+qb*12,none⟩=some (.int .i64 u.regs):=bel_cell hW.1.bel (E4.out 0 _ rfl)
        have d1:w.cell? ⟨g4,o4+qb*12+1,none⟩=some (.slice b4.pP u.params.length b4.cP):=bel_cell hW.1.bel (E4.out 1 _ rfl)
        have d2:w.cell? ⟨g4,o4+qb*12+2,none⟩=some (.slice b4.pC u.code.length b4.cC):=bel_cell hW.1.bel (E4.out 2 _ rfl)
        have d3:w.cell? ⟨g4,o4+qb*12+3,none⟩=some (.int .i64 u.fin.op):=bel_cell hW.1.bel (E4.out 3 _ rfl)
        have d4:w.cell? ⟨g4,o4+qb*12+4,none⟩=some (.int .i64 u.fin.a):=bel_cell hW.1.bel (E4.out 4 _ rfl)
        have d5:w.cell? ⟨g4,o4+qb*12+5,none⟩=some (.int .i64 u.fin.yes.block):=bel_cell hW.1.bel (E4.out 5 _ rfl)
        have d6:w.cell? ⟨g4,o4+qb*12+6,none⟩=some (.slice b4.e.pYR u.fin.yes.regs.length b4.e.cYR):=bel_cell hW.1.bel (E4.out 6 _ rfl)
        have d7:w.cell? ⟨g4,o4+qb*12+7,none⟩=some (.slice b4.e.pYA u.fin.yes.args.length b4.e.cYA):=bel_cell hW.1.bel (E4.out 7 _ rfl)
        have d8:w.cell? ⟨g4,o4+qb*12+8,none⟩=some (.int .i64 u.fin.no.block):=bel_cell hW.1.bel (E4.out 8 _ rfl)
        have d9:w.cell? ⟨g4,o4+qb*12+9,none⟩=some (.slice b4.e.pNR u.fin.no.regs.length b4.e.cNR):=bel_cell hW.1.bel (E4.out 9 _ rfl)
        have d10:w.cell? ⟨g4,o4+qb*12+10,none⟩=some (.slice b4.e.pNA u.fin.no.args.length b4.e.cNA):=bel_cell hW.1.bel (E4.out 10 _ rfl)
        have d11:w.cell? ⟨g4,o4+qb*12+11,none⟩=some (.slice b4.e.pA u.fin.args.length b4.e.cA):=bel_cell hW.1.bel (E4.out 11 _ rfl)
        go_simp
        exact hK _ _ (Below.refl _ _) hW rfl
      refine ⟨fun a w hW hk K hK=>?_,?_⟩
      · obtain ⟨k0,k1,-⟩:=hk
        have k0:a.tmps.getD 74 undef=.agg #[.int .i64 z.regs,.slice b3.pP z.params.length b3.cP,.slice b3.pC z.code.length b3.cC,.int .i64 z.fin.op,.int .i64 z.fin.a,.int .i64 z.fin.yes.block,.slice b3.e.pYR z.fin.yes.regs.length b3.e.cYR,.slice b3.e.pYA z.fin.yes.args.length b3.e.cYA,.int .i64 z.fin.no.block,.slice b3.e.pNR z.fin.no.regs.length b3.e.cNR,.slice b3.e.pNA z.fin.no.args.length b3.e.cNA,.slice b3.e.pA z.fin.args.length b3.e.cA]:=k0
        have k1:a.tmps.getD 79 undef=.agg #[.int .i64 u.regs,.slice b4.pP u.params.length b4.cP,.slice b4.pC u.code.length b4.cC,.int .i64 u.fin.op,.int .i64 u.fin.a,.int .i64 u.fin.yes.block,.slice b4.e.pYR u.fin.yes.regs.length b4.e.cYR,.slice b4.e.pYA u.fin.yes.args.length b4.e.cYA,.int .i64 u.fin.no.block,.slice b4.e.pNR u.fin.no.regs.length b4.e.cNR,.slice b4.e.pNA u.fin.no.args.length b4.e.cNA,.slice b4.e.pA u.fin.args.length b4.e.cA]:=k1
        have hC:Rd Tryz.prog 34 #[.agg #[.int .i64 z.regs,.slice b3.pP z.params.length b3.cP,.slice b3.pC z.code.length b3.cC,.int .i64 z.fin.op,.int .i64 z.fin.a,.int .i64 z.fin.yes.block,.slice b3.e.pYR z.fin.yes.regs.length b3.e.cYR,.slice b3.e.pYA z.fin.yes.args.length b3.e.cYA,.int .i64 z.fin.no.block,.slice b3.e.pNR z.fin.no.regs.length b3.e.cNR,.slice b3.e.pNA z.fin.no.args.length b3.e.cNA,.slice b3.e.pA z.fin.args.length b3.e.cA],.agg #[.int .i64 u.regs,.slice b4.pP u.params.length b4.cP,.slice b4.pC u.code.length b4.cC,.int .i64 u.fin.op,.int .i64 u.fin.a,.int .i64 u.fin.yes.block,.slice b4.e.pYR u.fin.yes.regs.length b4.e.cYR,.slice b4.e.pYA u.fin.yes.args.length b4.e.cYA,.int .i64 u.fin.no.block,.slice b4.e.pNR u.fin.no.regs.length b4.e.cNR,.slice b4.e.pNA u.fin.no.args.length b4.e.cNA,.slice b4.e.pA u.fin.args.length b4.e.cA]] w (.bool (bdec (z=u))):=sameBlock_any (In3.out.below hW.1.bel) (In4.out.below hW.1.bel) (hs1.out.2.2.2 z (List.mem_of_getElem? hx3.out))
        go_simp
        refine hC.mono ?_
        rintro e w9 ⟨rfl,hb⟩
        exact hK _ _ hb ⟨hW.1.below hb,Below.andThen hW.2 hb⟩ rfl
      refine ⟨fun a w hW hk K hK=>?_,?_⟩
      · obtain ⟨k0,-⟩:=hk
        have k0:a.tmps.getD 80 undef=.bool (bdec (z=u)):=k0
        go_simp
        exact hK _ _ (Below.refl _ _) hW rfl
      trivial
     case hend =>
      intro ops a55 w55 hWD hE hFD
      have hd81:a55.tmps.getD 81 undef=.bool (!(bdec (z=u))):=hE 81 rfl
      have hF55:Fr 82 a55 [(81,.bool (!(bdec (z=u)))),(1,.agg #[.slice p2 k.length d]),(0,.agg #[.slice p m.length c]),(2,.pointer (some ⟨B2,0,none⟩)),(3,.pointer (some ⟨B3,0,none⟩)),(4,.bool false),(5,.int .i64 (q:Int)),(6,.pointer (some ⟨BD6,0,none⟩)),(7,.pointer (some ⟨BD7,0,none⟩)),(8,.int .i64 (qb:Int))]:=(hFD.cons hd81)
      clear hd81
      have hW55:Wd w w55 [(BD6,#[.int .i64 x.regs,.slice f1.pP x.params.length f1.cP,.slice f1.pR x.results.length f1.cR,.slice f1.pB x.blocks.length f1.cB],42),(BD7,#[.int .i64 y.regs,.slice f2.pP y.params.length f2.cP,.slice f2.pR y.results.length f2.cR,.slice f2.pB y.blocks.length f2.cB],42),(B3,#[.slice p2 k.length d],25),(B2,#[.slice p m.length c],25)]:=hWD.1
      clear hFD hWD hE hF54 h51
      clear hW48
      refine wpList_nil ?_
      refine hK53 _ _ ?_
      refine fr_cond (t:=81) hF55 rfl (fun hb=>?_) (fun hb=>?_)
      ·have hb:(bdec (z=u))=false:=by simpa using hb
       have hel:¬ (z=u):=fun h=>by rw [bdec_true h] at hb;cases hb
       clear hb
       refine wp_seq_k fun K56 hK56=>?_
       refine rg hF55 fun ops=>?_;clear hF55 a55
       refine sa trivial rfl rfl ?_
       refine St.nil fun a57 h57=>?_
       refine hK56 _ _ ?_
       refine wp_ret ?_;with_reducible repeat first | refine of_then_ret ?_ | refine of_block_ret ?_
       have RX:¬ x=y:=by
         intro e
         have h1:=hx3.out
         rw [e,hx4.out] at h1
         exact hel (Option.some.inj h1).symm
       have R:¬ m=k:=by
         intro e
         have h1:=hx1.out
         rw [e,hx2.out] at h1
         exact RX (Option.some.inj h1).symm
       exact ret_tmp (t:=4) h57 rfl rfl ⟨by rw [bdec_false R],hW55.bel⟩
      have hb:(bdec (z=u))=true:=by simpa using hb
      have hel:(z=u):=bdec_iff.1 hb
      clear hb
      refine wp_skip ?_
      refine hK52 _ _ ?_
      refine rg hF55 fun ops=>?_;clear hF55 a55
      refine sm trivial rfl rfl ?_
      refine sad (by omega) trivial rfl rfl rfl ?_
      refine sa trivial rfl rfl ?_
      refine St.nil fun a58 h58=>?_
      refine hKLb _ _ (x.blocks.length - (qb+1)) (by omega) ⟨qb+1,by omega,rfl,?_,(h58.keep (h58.keep (h58.keep (h58.keep (h58.keep (h58.keep (h58.keep (h58.keep (h58.keep h58.nil (t:=8) rfl) (t:=7) rfl) (t:=6) rfl) (t:=5) rfl) (t:=4) rfl) (t:=3) rfl) (t:=2) rfl) (t:=0) rfl) (t:=1) rfl),hW55⟩
      ·intro j hj
       by_cases e:j=qb
       · subst e;rw [hx3.out,hx4.out,hel]
       · exact hal2 j (by omega)
    have hge2:qb=x.blocks.length:=by have:=of_decide_eq_false hb;omega
    clear hb
    have RB:x.blocks=y.blocks:=by
      have:=hlb.out
      refine List.ext_getElem? fun i=>?_
      by_cases hi:i<qb
      · exact hal2 i hi
      · rw [List.getElem?_eq_none (by omega),List.getElem?_eq_none (by omega)]
    have RX:x=y:=MFunc.eq_of hc28.out hc35 hc42 RB
    refine wp_exit ?_
    refine hK17 _ _ ?_
    refine rg h51 fun ops=>?_;clear h51 a51
    refine sm trivial rfl rfl ?_
    refine sad (by omega) trivial rfl rfl rfl ?_
    refine sa trivial rfl rfl ?_
    refine St.nil fun a59 h59=>?_
    refine hKL _ _ (m.length - (q+1)) (by omega) ⟨q+1,by omega,rfl,?_,(h59.keep (h59.keep (h59.keep (h59.keep (h59.keep (h59.keep h59.nil (t:=5) rfl) (t:=4) rfl) (t:=3) rfl) (t:=2) rfl) (t:=0) rfl) (t:=1) rfl),hW48.tail.tail⟩
    ·intro j hj
     by_cases e:j=q
     · subst e;rw [hx1.out,hx2.out,RX]
     · exact hall j (by omega)
  have hge:q=m.length:=by have:=of_decide_eq_false hb;omega
  clear hb
  refine wp_exit ?_
  refine hK10 _ _ ?_
  refine wp_seq_k fun K60 hK60=>?_
  refine rg h16 fun ops=>?_;clear h16 a16
  refine sa trivial rfl rfl ?_
  refine St.nil fun a61 h61=>?_
  refine hK60 _ _ ?_
  refine wp_ret ?_;with_reducible repeat first | refine of_then_ret ?_ | refine of_block_ret ?_
  have R:m=k:=by
    have:=hlen.out
    refine List.ext_getElem? fun i=>?_
    by_cases hi:i<q
    · exact hall i hi
    · rw [List.getElem?_eq_none (by omega),List.getElem?_eq_none (by omega)]
  exact ret_tmp (t:=4) h61 rfl rfl ⟨by rw [bdec_true R],hW13.bel⟩
end Go.Proofs.YtalfbnllodhkiacGreatDoor
namespace Go.Proofs.YtalfbnllodhkiacGreatDoor
open Go.RowKit
set_option linter.unusedSimpArgs false
set_option linter.unusedVariables false
theorem setCells_size (b : Nat) : ∀ (vs : List Value) (w : World) (j : Nat), (w.setCells b j vs).heap.size = w.heap.size
  | [],w,j=>rfl
  | v::vs,w,j=>(setCells_size b vs _ _).trans (by simp)
abbrev DTab (Z : Type) := List (Nat × (Z → World → (Nat → Prop) → Prop))
def DStable {Z : Type} (D : DTab Z) : Prop := ∀ x ∈ D, ∀ z w w' O, (∀ k, O k → k < w.heap.size → w'.heap[k]? = w.heap[k]?) → x.2 z w O → x.2 z w' O
def Apart (w00 : World) (Ai : List (Nat × Tmp × Nat × TypeId)) (S : Nat → Bool) (a : Act) (w : World) (O : Nat → Prop) : Prop :=
  (∀ k,O k→w00.heap.size≤k∧k<w.heap.size)∧∀ y∈Ai,S y.1=true→∀ B,a.tmps.getD y.2.1 undef=.pointer (some ⟨B,0,none⟩)→¬ O B
def DMz (n : Nat) (a0 : Act) (w00 : World) (ds : List Tmp) (Ti : List (Nat × Tmp)) (Ai Oi : List (Nat × Tmp × Nat × TypeId)) {Z : Type} (M : Z → List (Tmp × Value)) (C : Z → List (Tmp × List Value)) (D : DTab Z) (z : Z) (S : Nat → Bool) (a : Act) (w : World) : Prop :=
  DI n a0 w00 ds Ti Ai Oi (M z) (C z) S a w∧∀ x∈D,S x.1=true→∃ O,x.2 z w O∧Apart w00 Ai S a w O
def DM (n : Nat) (a0 : Act) (w00 : World) (ds : List Tmp) (Ti : List (Nat × Tmp)) (Ai Oi : List (Nat × Tmp × Nat × TypeId)) {Z : Type} (M : Z → List (Tmp × Value)) (C : Z → List (Tmp × List Value)) (D : DTab Z) (S : Nat → Bool) (a : Act) (w : World) : Prop :=
  ∃ z,DMz n a0 w00 ds Ti Ai Oi M C D z S a w
section
variable {n i : Nat} {a0 a : Act} {w00 w w' : World} {l : List Oper} {Ti : List (Nat × Tmp)} {Ai Oi : List (Nat × Tmp × Nat × TypeId)} {Z : Type} {M : Z → List (Tmp × Value)} {C : Z → List (Tmp × List Value)} {D : DTab Z} {z z' : Z} {S : Nat → Bool} {t : Tmp} {v : Value} {s : Nat} {ty : TypeId}
theorem notin (h : ((D.map (·.1)).all fun j => j != i) = true) : ∀ x ∈ D, x.1 ≠ i := fun x hx => by
  have:=List.all_eq_true.1 h x.1 (List.mem_map.2 ⟨x,hx,rfl⟩)
  simpa using this
theorem slots_ne (hB : diB l n Ti Ai Oi = true) (hi : (i, t) ∈ Ti) : ∀ x ∈ Ai, x.2.1 ≠ t := by
  simp only [diB,Bool.and_eq_true] at hB
  obtain ⟨hix,⟨⟨hnd,hndO⟩,hall⟩,hO⟩:=hB
  exact fun x hx e=>nodupB_mem hnd (List.mem_map.2 ⟨(i,t),hi,rfl⟩) (e ▸ List.mem_map.2 ⟨x,hx,rfl⟩)
theorem slot_lt (hB : diB l n Ti Ai Oi = true) (ht : t ∈ Ti.map (·.2) ++ Ai.map (·.2.1)) : t < n := by
  simp only [diB,Bool.and_eq_true] at hB
  have h9:=List.all_eq_true.1 hB.2.1.2 t ht
  simp only [Bool.and_eq_true,decide_eq_true_eq] at h9
  exact h9.1
theorem Apart.pure {O : Nat → Prop} (hne : ∀ x ∈ Ai, x.2.1 ≠ t) (htn : t < a.tmps.size) (hiA : (Ai.all fun x => x.1 != i) = true) (hb : w.heap.size ≤ w'.heap.size) (h : Apart w00 Ai S a w O) : Apart w00 Ai (plus i S) (a.put (some t) v) w' O :=
  ⟨fun k hk=>⟨(h.1 k hk).1,Nat.lt_of_lt_of_le (h.1 k hk).2 hb⟩,fun y hy hs B hB=>by
    rw [put_at htn,if_neg (hne y hy)] at hB
    exact h.2 y hy (plus_of (by have:=List.all_eq_true.1 hiA y hy;simpa using this) hs) B hB⟩
theorem DMz.pure (hst : DStable D) (hB : diB l n Ti Ai Oi = true) (hI : DMz n a0 w00 (dstsOf l) Ti Ai Oi M C D z S a w) (hi : (i, t) ∈ Ti) (hv : (M z).lookup t = some v) (hS : S i = false) (hb : Below w.heap.size w w')
    (hiA:(Ai.all fun x=>x.1 != i)=true) (hiO:(Oi.all fun x=>x.1 != i)=true) (hiD':((D.map (·.1)).all fun j=>j != i)=true):DM n a0 w00 (dstsOf l) Ti Ai Oi M C D (plus i S) (a.put (some t) v) w':=by
  have hiD:=notin hiD'
  refine ⟨z,DI.pure hB hI.1 hi hv hS hb hiA hiO,fun x hx hs=>?_⟩
  obtain ⟨O,h1,h2⟩:=hI.2 x hx (plus_of (hiD x hx) hs)
  exact ⟨O,hst x hx z w w' O (fun k _ hk=>hb.block k hk) h1,h2.pure (slots_ne hB hi) (by rw [hI.1.size];exact slot_lt hB (List.mem_append_left _ (List.mem_map.2 ⟨(i,t),hi,rfl⟩))) hiA hb.size⟩
theorem DMz.alloc (hst : DStable D) (hB : diB l n Ti Ai Oi = true) (hI : DMz n a0 w00 (dstsOf l) Ti Ai Oi M C D z S a w) (hi : (i, t, s, ty) ∈ Ai) {c : Array Value} (hc : c.size = s) (hS : S i = false) (hcl : Closed l S)
    (hiT:(Ti.all fun x=>x.1 != i)=true) (hiO:(Oi.all fun x=>x.1 != i)=true) (hiD':((D.map (·.1)).all fun j=>j != i)=true):DM n a0 w00 (dstsOf l) Ti Ai Oi M C D (plus i S) (a.put (some t) (.pointer (some ⟨w.heap.size,0,none⟩))) (w.alloc (.cells c ty)):=by
  have hb:Below w.heap.size w (w.alloc (.cells c ty)):=bel1 w _
  have hiD:=notin hiD'
  refine ⟨z,DI.alloc hB hI.1 hi hc hS hcl hiT hiO,fun x hx hs=>?_⟩
  obtain ⟨O,h1,h2⟩:=hI.2 x hx (plus_of (hiD x hx) hs)
  have htn:t<a.tmps.size:=by rw [hI.1.size];exact slot_lt hB (List.mem_append_right _ (List.mem_map.2 ⟨(i,t,s,ty),hi,rfl⟩))
  refine ⟨O,hst x hx z w _ O (fun k _ hk=>hb.block k hk) h1,fun k hk=>⟨(h2.1 k hk).1,Nat.lt_of_lt_of_le (h2.1 k hk).2 hb.size⟩,fun y hy hs' B hB' hO=>?_⟩
  rw [put_at htn] at hB'
  by_cases e:y.2.1=t
  · rw [if_pos e] at hB'
    simp at hB'
    subst hB'
    have:=(h2.1 _ hO).2
    omega
  · rw [if_neg e] at hB'
    refine h2.2 y hy (plus_of (fun e'=>e ?_) hs') B hB' hO
    simp only [diB,Bool.and_eq_true] at hB
    exact congrArg (·.2.1) (nodupB_map (f:=fun x:Nat × Tmp × Nat × TypeId=>x.1) hB.1.1.2 y hy _ hi e')
theorem DMz.store (hst : DStable D) (hB : diB l n Ti Ai Oi = true) (hI : DMz n a0 w00 (dstsOf l) Ti Ai Oi M C D z S a w) (hi : (i, t, s, ty) ∈ Oi) {B j : Nat} {c : Array Value} {cs : List Value} (hj : (j, t, s, ty) ∈ Ai) (hsj : S j = true) (hv : a.tmps.getD t undef = .pointer (some ⟨B, 0, none⟩)) (hBk : Blk w B c ty) (hcs : c.size = s) (hlo : w00.heap.size ≤ B) (hC : (C z).lookup t = some cs) (hln : cs.length = s) (hS : S i = false) (hcl : Closed l S)
    (hiT:(Ti.all fun x=>x.1 != i)=true) (hiA:(Ai.all fun x=>x.1 != i)=true) (hiD':((D.map (·.1)).all fun j=>j != i)=true):DM n a0 w00 (dstsOf l) Ti Ai Oi M C D (plus i S) a (w.setCells B 0 cs):=by
  have hiD:=notin hiD'
  refine ⟨z,DI.store hB hI.1 hi hj hsj hv hBk hcs hlo hC hln hS hcl hiT hiA,fun x hx hs=>?_⟩
  obtain ⟨O,h1,h2⟩:=hI.2 x hx (plus_of (hiD x hx) hs)
  have hk:=keep1_setCells w B 0 cs
  have hsz:(w.setCells B 0 cs).heap.size=w.heap.size:=setCells_size B cs w 0
  refine ⟨O,hst x hx z w _ O (fun k hk' _=>hk k fun e=>?_) h1,fun k hk'=>by rw [hsz];exact h2.1 k hk',fun y hy hs' B' hB' hO=>?_⟩
  · subst e;exact h2.2 _ hj hsj k hv hk'
  · exact h2.2 y hy (plus_of (by have:=List.all_eq_true.1 hiA y hy;simpa using this) hs') B' hB' hO
theorem DMz.call (hst : DStable D) (hB : diB l n Ti Ai Oi = true) (hI : DMz n a0 w00 (dstsOf l) Ti Ai Oi M C D z S a w) (hi : (i, t) ∈ Ti) (hv : (M z').lookup t = some v) (hS : S i = false) (hcl : Closed l S) (hb : Below w.heap.size w w')
    (hiA:(Ai.all fun x=>x.1 != i)=true) (hiO:(Oi.all fun x=>x.1 != i)=true)
    (dp:List Nat) (hdp:(dp.all fun j=>match l[j]? with | some o=>waits1 o i | none=>false)=true)
    (hM:∀ x∈Ti,x.1∈dp∨x.1=i∨(M z).lookup x.2=(M z').lookup x.2) (hC:∀ x∈Oi,x.1∈dp∨(C z).lookup x.2.1=(C z').lookup x.2.1)
    (hD:∀ x∈D,(x.1=i∧∃ O,x.2 z' w' O∧∀ k,O k→w.heap.size≤k∧k<w'.heap.size)∨(x.1≠i∧∀ w O,x.2 z w O→x.2 z' w O)):DM n a0 w00 (dstsOf l) Ti Ai Oi M C D (plus i S) (a.put (some t) v) w':=by
  have hno:∀ j∈dp,S j=true→False:=fun j hj hs=>by
    have:=List.all_eq_true.1 hdp j hj
    cases ho:l[j]? with
    | none=>rw [ho] at this;simp at this
    | some o =>
      rw [ho] at this
      have:=Deps.at (hcl j o ho hs) i this
      rw [hS] at this
      cases this
  have hI':DI n a0 w00 (dstsOf l) Ti Ai Oi (M z') (C z') S a w:=by
    refine ⟨hI.1.size,hI.1.defers,hI.1.outer,hI.1.bel,fun x hx hs u hu=>?_,hI.1.new,hI.1.ne,fun x hx hs c hc=>?_⟩
    · rcases hM x hx with h | h | h
      · exact (hno _ h hs).elim
      · rw [h,hS] at hs;cases hs
      · exact hI.1.vals x hx hs u (h.trans hu)
    · rcases hC x hx with h | h
      · exact (hno _ h hs).elim
      · exact hI.1.did x hx hs c (h.trans hc)
  have htn:t<a.tmps.size:=by rw [hI.1.size];exact slot_lt hB (List.mem_append_left _ (List.mem_map.2 ⟨(i,t),hi,rfl⟩))
  refine ⟨z',DI.pure hB hI' hi hv hS hb hiA hiO,fun x hx hs=>?_⟩
  rcases hD x hx with ⟨_,O,h1,h2⟩ | ⟨hne,h1⟩
  · refine ⟨O,h1,fun k hk=>⟨Nat.le_trans hI.1.bel.size (h2 k hk).1,(h2 k hk).2⟩,fun y hy hs' B hB' hO=>?_⟩
    rw [put_at htn,if_neg (slots_ne hB hi y hy)] at hB'
    have hs2:S y.1=true:=plus_of (by have:=List.all_eq_true.1 hiA y hy;simpa using this) hs'
    obtain ⟨B',h3,h4,c,h5,h6⟩:=hI.1.new y hy hs2
    rw [h3] at hB'
    simp at hB'
    subst hB'
    have:=h5.lt
    have:=(h2 _ hO).1
    omega
  · obtain ⟨O,h3,h4⟩:=hI.2 x hx (plus_of hne hs)
    exact ⟨O,hst x hx z' w w' O (fun k _ hk=>hb.block k hk) (h1 w O h3),h4.pure (slots_ne hB hi) htn hiA hb.size⟩
theorem fr_draw4 {P : Program} {Q : Exit → Act → World → Prop} {id : Nat} {L : List (Tmp × Value)} (Ti : List (Nat × Tmp)) (Ai Oi : List (Nat × Tmp × Nat × TypeId)) (M : Z → List (Tmp × Value)) (C : Z → List (Tmp × List Value)) (D : DTab Z) (z0 : Z)
    (hm:P.follows .mixedOrders=true) (hF:Fr n a L) (hL:(L.all fun p=>!(dstsOf l).contains p.1)=true) (hB:((backB 0 l && (l.all fun o=>o.guard.isNone)) && diB l n Ti Ai Oi)=true)
    (hst:diB l n Ti Ai Oi=true→StepsOk P l (DM n a w (dstsOf l) Ti Ai Oi M C D) 0 l)
    (hend:∀ z S a' w',(∀ j,j<l.length→S j=true)→DMz n a w (dstsOf l) Ti Ai Oi M C D z S a' w'→Fr n a' L→Q .normal a' w'):(Code.region id l.toArray true).wp P Q a w:=by
  rw [Bool.and_eq_true] at hB
  refine draw_inv (DM n a w (dstsOf l) Ti Ai Oi M C D) hm hB.1 ?_ (hst hB.2) (fun S a' w' hS ⟨z,hI⟩=>hend z S a' w' hS hI ?_)
  · exact ⟨z0,⟨hF.size,hF.defers,fun _ _=>rfl,drewN_below (m:=1) (Below.refl _ _),fun _ _ h=>(by cases h),fun _ _ h=>(by cases h),fun _ _ _ _ _ h=>(by cases h),fun _ _ h=>(by cases h)⟩,fun _ _ h=>by cases h⟩
  · exact fr_outer hF hL hI.1
end
end Go.Proofs.YtalfbnllodhkiacGreatDoor
namespace Go.Proofs.YtalfbnllodhkiacGreatDoor
open Go.ChangeShapes Go.WideShapes Go.ChangeAt Go.RowKit
set_option linter.unusedVariables false
def LyOut {α : Type} (A : Lay α) (w w' : World) (l : List α) (e : Ending) : Prop := ∃ a' c', e = .returned (.slice a' l.length c') ∧ A.list.In w' (From w.heap.size) l [.slice a' l.length c'] ∧ Below w.heap.size w w'
def iv (l : List Int) : List Value := l.map (fun x => Value.int .i64 x)
theorem ints_row {w : World} {lo : Nat} {e : TypeId} {v : Value} {l : List Int} (h : w.ownsRow lo e 1 v l.length (iv l)) (hb : ∀ x ∈ l, I64 x) : intsL.In w (From lo) l [v] :=
  ARow.lay (A:=Lay.int) (e:=e) (xs:=iv l) ⟨h,fun i x hx=>by
    have hs:Lay.int.size=1:=rfl
    rw [hs,Nat.mul_one]
    have e1:((iv l).drop i).take 1=[.int .i64 x]:=by
      obtain ⟨hi,e⟩:=List.getElem?_eq_some_iff.1 hx
      unfold iv
      rw [← List.map_drop,List.drop_eq_getElem_cons hi]
      simp [e]
    rw [e1]
    exact ⟨rfl,hb x (List.mem_of_getElem? hx)⟩⟩
theorem ints_bnd {w : World} {O : Nat → Prop} {l : List Int} {a : Option Addr} {m c : Nat} (h : intsL.In w O l [.slice a m c]) : ∀ x ∈ l, I64 x := by
  intro x hx
  obtain ⟨i,hi⟩:=List.mem_iff_getElem?.1 hx
  obtain ⟨g,o,ds,_,_,_,_,h2⟩:=Lay.list_at h hi
  exact h2.2
theorem ints_src {w : World} {O : Nat → Prop} {l : List Int} {a : Option Addr} {m c : Nat} (h : intsL.In w O l [.slice a m c]) (h0 : 0 < l.length) :
    ∃ ad,a=some ad∧ad.block<w.heap.size∧∀ j v,(iv l)[j]?=some v→w.cell? (ad.add j)=some v:=by
  obtain ⟨g,o,e,_,hlt,_⟩:=ints_at h h0
  refine ⟨⟨g,o,none⟩,e,hlt,fun j v hj=>?_⟩
  have hjl:j<l.length:=by have:=(List.getElem?_eq_some_iff.1 hj).1;simpa [iv] using this
  obtain ⟨g2,o2,e2,_,_,h2⟩:=ints_at h hjl
  rw [e] at e2
  cases e2
  rw [show (⟨g,o,none⟩:Addr).add j=⟨g,o+j,none⟩ from by unfold Addr.add;split <;> simp_all,h2,← hj]
  simp [iv,List.getD,hjl]
theorem iv_len (l : List Int) : (iv l).length = l.length := by simp [iv]
theorem iv_one (l : List Int) : ∀ v ∈ iv l, v.oneCell' = true := by
  intro v hv
  obtain ⟨x,_,rfl⟩:=List.mem_map.1 hv
  rfl
theorem underIs : Tryz.prog.underlying 43 = some (.slice 3) := by kernel_rfl
theorem infoI : (Tryz.prog.info? 3).map (fun i => (i.zero, i.size, i.bytes)) = some (some (.int .i64 0), 1, 8) := by kernel_rfl
theorem infoI_parts : ∃ i, Tryz.prog.info? 3 = some i ∧ i.zero = some (.int .i64 0) ∧ i.size = 1 ∧ i.bytes = 8 := by
  obtain ⟨i,hi,e⟩:=Option.map_eq_some_iff.1 infoI
  simp only [Prod.mk.injEq] at e
  exact ⟨i,hi,e⟩
theorem wpList_append_no {P : Program} {w : World} {ops : Array Oper} {rest : List Oper} {o : Oper} {a : Act} {Q : Exit → Act → World → Prop} (hgd : o.guard = none) (s x : Operand) (t : TypeId)
    (ho:o.op=.call { callee:=.builtin .append,args:=#[s,x],argTypes:=#[t,t] }) (v vx:Value) (hs:a.eval s=v) (hx:a.eval x=vx) (hrun:(Builtin.append_ #[t,t] o.type #[v,vx]).run P w=.ok v w)
    (h:wpList P ops Q rest (a.put o.dst v) w):wpList P ops Q (o::rest) a w:=by
  refine wpList_plain hgd fun K hK=>?_
  unfold Oper.wp
  simp [execOp,ho,resolve,invoke,builtin,hs,hx,hrun,Result.andThen]
  exact hK _ _ h
theorem rOwnInts_any (l : List Int) (p : Option Addr) (c : Nat) (w : World) (hl0 : intsL.In w All l [.slice p l.length c]) (hb0 : l.length ≤ 4294967296) :
    Calls Tryz.prog 43 #[.slice p l.length c] w fun e w'=>LyOut Lay.int w w' l e:=by
  obtain ⟨i0,hi,hz0,hz1,hz2⟩:=infoI_parts
  by_cases h0:0<l.length
  · obtain ⟨ad,rfl,hlt,h2⟩:=ints_src hl0 h0
    have hsrc:Hid _:=h2
    have hx:Hid _:=ints_bnd hl0
    clear hl0 h2
    go_enter Tryz.func43,Tryz.ntmps43
    go_wp2_with (at_builtin;refine wpList_append_lies _ rfl (.tmp 4) (.tmp 5) 43 rfl w.heap.size 3 i0 (.int .i64 0) 1 8 underIs hi hz0 hz1 hz2 rfl (by decide) (.slice none 0 0) 0 [] rfl ⟨rfl,Or.inl ⟨rfl,rfl⟩⟩ ad l.length c (iv l) rfl (by rw [iv_len,Nat.mul_one]) hsrc.out (iv_one l) h0 (by unfold maxLen;omega) (by omega) (Nat.le_refl _) w.heap.size rfl ?_)
    intro g2 cap2 w9 h1 hgrow hat hlt1
    have R:Hid (LyOut Lay.int w w9 l (.returned (.slice (some ⟨g2,0,none⟩) l.length cap2))):=by
      exact ⟨_,_,rfl,ints_row h1 hx.out,(Below.refl _ w).grown hgrow (Nat.le_refl _) (fun k hk=>by simp [Value.ownBlock] at hk)⟩
    clear h1 hgrow hat hlt1 hsrc hx
    go_wp2
    go_ret
    exact R.out
  · have e0:l=[]:=List.length_eq_zero_iff.1 (by omega)
    subst e0
    have ha:Hid (∀ (t:TypeId) (wx:World),(Builtin.append_ #[43,43] t #[.slice none 0 0,.slice p 0 c]).run Tryz.prog wx=.ok (.slice none 0 0) wx):=fun (t:TypeId) (wx:World)=>run_append_nothing (P:=Tryz.prog) wx 43 43 t 3 i0 underIs hi none 0 0 (Nat.le_refl _) (.slice p 0 c) (by cases p with
      | none=>exact Src.ofNil wx underIs c
      | some ad=>exact Src.ofSlice wx underIs ad 0 c [] (by simp) (fun j u h=>by simp at h) (fun u h=>by cases h))
    simp only [List.length_nil]
    have R:Hid (LyOut Lay.int w w [] (.returned (.slice none 0 0))):=⟨_,_,rfl,Lay.list_nil _ _ _ _ _,Below.refl _ _⟩
    clear hl0
    go_enter Tryz.func43,Tryz.ntmps43
    go_wp2_with (at_builtin;refine wpList_append_no rfl (.tmp 4) (.tmp 5) 43 rfl (.slice none 0 0) (.slice p 0 c) rfl rfl (ha.out _ _) ?_)
    go_ret
    exact R.out
end Go.Proofs.YtalfbnllodhkiacGreatDoor
namespace Go.Proofs.YtalfbnllodhkiacGreatDoor
open Go.ChangeShapes Go.WideShapes Go.ChangeAt Go.RowKit
set_option linter.unusedSimpArgs false
set_option linter.unusedVariables false
theorem rOwnTo_any (x : MTo) (pR pA : Option Addr) (cR cA : Nat) (w : World) (h : TIn2 w All x pR cR pA cA) (b1 : x.regs.length ≤ 4294967296) (b2 : x.args.length ≤ 4294967296) :
    Calls Tryz.prog 44 #[.agg #[.int .i64 x.block,.slice pR x.regs.length cR,.slice pA x.args.length cA]] w fun e w'=>∃ p c p2 c2,e=.returned (.agg #[.int .i64 x.block,.slice p x.regs.length c,.slice p2 x.args.length c2])∧TIn2 w' (From w.heap.size) x p c p2 c2∧Below w.heap.size w w':=by
  have hr:Hid _:=h.regs
  have hg:Hid _:=h.args
  have hbd:=h.bnd
  clear h
  refine fr_enter (n:=12) Tryz.func44 rfl rfl rfl ?_
  intro a hF
  have hW:=Wd.start w
  replace hF:Fr 12 a [(0,.agg #[.int .i64 x.block,.slice pR x.regs.length cR,.slice pA x.args.length cA])]:=hF
  refine wp_seq_k fun K1 hK1=>?_
  refine rg hF fun ops=>?_;clear hF a
  refine sB hW trivial rfl rfl ?_
  clear hW;intro w2 B2 hW2 hN;clear hN
  refine sATo hW2 trivial rfl ?_
  clear hW2;intro w3 B3 hW3 hN;clear hN
  refine St.nil fun a4 h4=>?_
  refine hK1 _ _ ?_
  refine wp_seq_k fun K5 hK5=>?_
  have hF6:Fr 12 a4 [(0,.agg #[.int .i64 x.block,.slice pR x.regs.length cR,.slice pA x.args.length cA]),(1,.pointer (some ⟨B2,0,none⟩)),(2,.pointer (some ⟨B3,0,none⟩))]:=(h4.keep (h4.keep (h4.keep h4.nil (t:=2) rfl) (t:=1) rfl) (t:=0) rfl)
  have ho1:a4.tmps.getD 1 undef=.pointer (some ⟨B2,0,none⟩):=h4.sl 1 _ rfl
  refine fr_draw_k 9 ([(1,fun v _=>v=.pointer (some ⟨B2,0,none⟩)),(3,fun v _=>v=.pointer (some ⟨B2,0,none⟩)),(4,fun v _=>v=.int .i64 x.block),(5,fun v _=>v=.pointer (some ⟨B2,1,none⟩)),(6,fun v _=>v=.slice pR x.regs.length cR),(7,fun v w'=>∃ p c,v=.slice p x.regs.length c∧intsL.In w' (From w3.heap.size) x.regs [.slice p x.regs.length c]),(8,fun v _=>v=.pointer (some ⟨B2,2,none⟩)),(9,fun v _=>v=.slice pA x.args.length cA),(10,fun v w'=>∃ p c,v=.slice p x.args.length c∧intsL.In w' (From w3.heap.size) x.args [.slice p x.args.length c]),(11,fun v w'=>∃ p c p2 c2,v=.agg #[.int .i64 x.block,.slice p x.regs.length c,.slice p2 x.args.length c2]∧TIn2 w' (From w3.heap.size) x p c p2 c2)]:PTab) (fun w'=>Wd w w' [(B3,#[.int .i64 0,.slice none 0 0,.slice none 0 0],48),(B2,#[.int .i64 x.block,.slice pR x.regs.length cR,.slice pA x.args.length cA],48)]∧Below w3.heap.size w3 w') (fun w w'=>Below w.heap.size w w') (outs:=[1]) (gs:=[]) (bs:=[true,true,true,true,true,true,true,true,true]) (by kernel_rfl) hF6 rfl (by kernel_rfl) (by kernel_rfl) ?hR ?hG ⟨hW3.drewN 1,drewN_below (m:=1) (Below.refl _ _)⟩ ⟨ho1,trivial⟩ ?hA ?hend
  case hR=>exact ⟨fun _ _ _ _ h=>h,fun _ _ _ _ h=>h,fun _ _ _ _ h=>h,fun _ _ _ _ h=>h,fun _ _ _ _ h=>h,fun v w w' hr h=>by obtain ⟨p,c,h1,h2⟩:=h;exact ⟨p,c,h1,Lay.below h2 hr⟩,fun _ _ _ _ h=>h,fun _ _ _ _ h=>h,fun v w w' hr h=>by obtain ⟨p,c,h1,h2⟩:=h;exact ⟨p,c,h1,Lay.below h2 hr⟩,fun v w w' hr h=>by obtain ⟨p,c,p2,c2,h1,h2⟩:=h;exact ⟨p,c,p2,c2,h1,⟨Lay.below h2.regs hr,Lay.below h2.args hr,h2.bnd⟩⟩,trivial⟩
  case hG=>exact trivial
  case hA =>
   refine ⟨fun a w hW hk K hK=>?_,?_⟩
   · obtain ⟨k0,-⟩:=hk
     have k0:a.tmps.getD 1 undef=.pointer (some ⟨B2,0,none⟩):=k0
     go_simp
     exact hK _ _ (Below.refl _ _) hW rfl
   refine ⟨fun a w hW hk K hK=>?_,?_⟩
   · obtain ⟨k0,-⟩:=hk
     have k0:a.tmps.getD 3 undef=.pointer (some ⟨B2,0,none⟩):=k0
     have c0:w.cell? ⟨B2,0,none⟩=some (.int .i64 x.block):=cellOf (hW.1.get 1 rfl) 0 _ rfl
     go_simp
     exact hK _ _ (Below.refl _ _) hW rfl
   refine ⟨fun a w hW hk K hK=>?_,?_⟩
   · obtain ⟨k0,-⟩:=hk
     have k0:a.tmps.getD 1 undef=.pointer (some ⟨B2,0,none⟩):=k0
     go_simp
     exact hK _ _ (Below.refl _ _) hW rfl
   refine ⟨fun a w hW hk K hK=>?_,?_⟩
   · obtain ⟨k0,-⟩:=hk
     have k0:a.tmps.getD 5 undef=.pointer (some ⟨B2,1,none⟩):=k0
     have c1:w.cell? ⟨B2,1,none⟩=some (.slice pR x.regs.length cR):=cellOf (hW.1.get 1 rfl) 1 _ rfl
     go_simp
     exact hK _ _ (Below.refl _ _) hW rfl
   refine ⟨fun a w hW hk K hK=>?_,?_⟩
   · obtain ⟨k0,-⟩:=hk
     have k0:a.tmps.getD 6 undef=.slice pR x.regs.length cR:=k0
     go_simp
     refine (rOwnInts_any _ _ _ w (Lay.below hr.out hW.1.bel) b1).mono ?_
     rintro e w9 ⟨p9,c9,rfl,h9,hb⟩
     exact hK _ _ hb ⟨hW.1.below hb,Below.andThen hW.2 hb⟩ ⟨p9,c9,rfl,Lay.mono h9 (fun k hk _=>Nat.le_trans hW.2.size hk)⟩
   refine ⟨fun a w hW hk K hK=>?_,?_⟩
   · obtain ⟨k0,-⟩:=hk
     have k0:a.tmps.getD 1 undef=.pointer (some ⟨B2,0,none⟩):=k0
     go_simp
     exact hK _ _ (Below.refl _ _) hW rfl
   refine ⟨fun a w hW hk K hK=>?_,?_⟩
   · obtain ⟨k0,-⟩:=hk
     have k0:a.tmps.getD 8 undef=.pointer (some ⟨B2,2,none⟩):=k0
     have c2:w.cell? ⟨B2,2,none⟩=some (.slice pA x.args.length cA):=cellOf (hW.1.get 1 rfl) 2 _ rfl
     go_simp
     exact hK _ _ (Below.refl _ _) hW rfl
   refine ⟨fun a w hW hk K hK=>?_,?_⟩
   · obtain ⟨k0,-⟩:=hk
     have k0:a.tmps.getD 9 undef=.slice pA x.args.length cA:=k0
     go_simp
     refine (rOwnInts_any _ _ _ w (Lay.below hg.out hW.1.bel) b2).mono ?_
     rintro e w9 ⟨p9,c9,rfl,h9,hb⟩
     exact hK _ _ hb ⟨hW.1.below hb,Below.andThen hW.2 hb⟩ ⟨p9,c9,rfl,Lay.mono h9 (fun k hk _=>Nat.le_trans hW.2.size hk)⟩
   refine ⟨fun a w hW hk K hK=>?_,?_⟩
   · obtain ⟨k0,k1,k2,-⟩:=hk
     have k0:a.tmps[4]?.getD undef=.int .i64 x.block:=by rw [← Array.getD_eq_getD_getElem?];exact k0
     obtain ⟨pN7,cN7,k1,hNN7⟩:=k1
     have k1:a.tmps[7]?.getD undef=.slice pN7 x.regs.length cN7:=by rw [← Array.getD_eq_getD_getElem?];exact k1
     obtain ⟨pN10,cN10,k2,hNN10⟩:=k2
     have k2:a.tmps[10]?.getD undef=.slice pN10 x.args.length cN10:=by rw [← Array.getD_eq_getD_getElem?];exact k2
     go_simp
     exact hK _ _ (Below.refl _ _) hW ⟨_,_,_,_,rfl,⟨hNN7,hNN10,hbd⟩⟩
   trivial
  case hend =>
   intro ops a7 w7 hWD hE hFD
   obtain ⟨pr,cr,pa,ca,hd11,⟨hTr,hTa,-⟩⟩:=hE 11 rfl
   replace hd11:a7.tmps.getD 11 undef=.agg #[.int .i64 x.block,.slice pr x.regs.length cr,.slice pa x.args.length ca]:=hd11
   have hF7:Fr 12 a7 [(11,.agg #[.int .i64 x.block,.slice pr x.regs.length cr,.slice pa x.args.length ca]),(0,.agg #[.int .i64 x.block,.slice pR x.regs.length cR,.slice pA x.args.length cA]),(1,.pointer (some ⟨B2,0,none⟩)),(2,.pointer (some ⟨B3,0,none⟩))]:=(hFD.cons hd11)
   clear hd11
   have hW7:Wd w w7 [(B3,#[.int .i64 0,.slice none 0 0,.slice none 0 0],48),(B2,#[.int .i64 x.block,.slice pR x.regs.length cR,.slice pA x.args.length cA],48)]:=hWD.1
   have hlt0:B3<w3.heap.size:=(hW3.get 0 rfl).lt
   have hlt1:B2<w3.heap.size:=(hW3.get 1 rfl).lt
   have hsz:w.heap.size≤w3.heap.size:=hW3.bel.size
   clear hFD hWD hE hF6 h4
   clear hW3
   refine St.go hF7 ?_;clear hF7 a7
   refine sTk 0 hW7 rfl rfl infTo rfl rfl rfl ?_
   intro w8 hKp hW8
   replace hTr:=Lay.keep1 hTr hKp hlt0
   replace hTa:=Lay.keep1 hTa hKp hlt0
   clear hKp hW7
   refine St.nil fun a9 h9=>?_
   refine hK5 _ _ ?_
   refine wp_ret ?_;with_reducible repeat first | refine of_then_ret ?_ | refine of_block_ret ?_
   exact ret_box 0 h9 hW8 rfl rfl rfl Tryz.underlying48 rfl infTo ⟨_,_,_,_,rfl,⟨Lay.mono hTr (fun k hk _=>Nat.le_trans hsz hk),Lay.mono hTa (fun k hk _=>Nat.le_trans hsz hk),hbd⟩,hW8.bel⟩
end Go.Proofs.YtalfbnllodhkiacGreatDoor
namespace Go.Proofs.YtalfbnllodhkiacGreatDoor
open Go.ChangeShapes Go.WideShapes Go.ChangeAt Go.RowKit
set_option linter.unusedVariables false
structure TRow (w : World) (lo : Nat) (v : Value) {n : Nat} (l : List (TT n)) (xs : List Value) : Prop where
  own:w.ownsRow lo 78 3 v l.length xs
  kids:∀ (i:Nat) (x:TT n),l[i]?=some x→∃ a c,xs[i*3]?=some (.int .i64 x.kind)∧xs[i*3+1]?=some (.int .i64 x.r)∧xs[i*3+2]?=some (.slice a x.len c)∧TIn w (But lo v) x a
theorem TRow.nil (w : World) (lo : Nat) {n : Nat} : TRow w lo (.slice none 0 0) ([] : List (TT n)) [] :=
  ⟨⟨rfl,Or.inl ⟨rfl,rfl⟩⟩,fun i x h=>by simp at h⟩
theorem TRow.lin {w : World} {lo : Nat} {v : Value} {n : Nat} {l : List (TT n)} {xs : List Value} (h : TRow w lo v l xs) : ∃ a c, v = .slice a l.length c ∧ LIn w (From lo) l a := by
  obtain ⟨⟨h1,h2⟩,h3⟩:=h
  rcases h2 with ⟨rfl,h4⟩ | ⟨g,cap,cur,rfl,hg,hh,hn,hm,hs,ht⟩
  · have:l=[]:=List.length_eq_zero_iff.1 h4
    subst this
    exact ⟨none,0,rfl,LIn.nil⟩
  · refine ⟨_,_,rfl,fun i x hx=>?_⟩
    obtain ⟨a,c,q0,q1,q2,q3⟩:=h3 i x hx
    have hi:i<l.length:=(List.getElem?_eq_some_iff.1 hx).1
    have key:∀ j u,xs[j]?=some u→w.cell? ⟨g,j,none⟩=some u:=fun j u hj=>by
      rw [← ht,List.getElem?_take] at hj
      split at hj
      · exact cellOf hh j u (by rw [← Array.getElem?_toList];exact hj)
      · cases hj
    refine ⟨g,0,a,c,rfl,hg,?_,?_,?_,q3.mono (fun k hk _=>hk.1)⟩
    · rw [Nat.zero_add];exact key _ _ q0
    · rw [Nat.zero_add];exact key _ _ q1
    · rw [Nat.zero_add];exact key _ _ q2
theorem TRow.below {w w' : World} {lo : Nat} {v : Value} {n : Nat} {l : List (TT n)} {xs : List Value} (h : TRow w lo v l xs) (b : Below w.heap.size w w') : TRow w' lo v l xs := by
  obtain ⟨⟨h1,h2⟩,h3⟩:=h
  refine ⟨⟨h1,?_⟩,fun i x hx=>?_⟩
  · rcases h2 with h4 | ⟨g,cap,cur,e,hg,hh,r⟩
    · exact Or.inl h4
    · exact Or.inr ⟨g,cap,cur,e,hg,(b.block g (lt_of_block hh)).trans hh,r⟩
  · obtain ⟨a,c,q0,q1,q2,q3⟩:=h3 i x hx
    exact ⟨a,c,q0,q1,q2,q3.below b⟩
theorem TRow.lo_le {w : World} {lo : Nat} {v : Value} {n : Nat} {l : List (TT n)} {xs : List Value} (h : TRow w lo v l xs) {g : Nat} (hg : v.ownBlock = some g) : lo ≤ g ∧ g < w.heap.size := by
  obtain ⟨⟨h1,h2⟩,h3⟩:=h
  rcases h2 with ⟨rfl,h4⟩ | ⟨g',cap,cur,rfl,hg',hh,r⟩
  · simp [Value.ownBlock] at hg
  · simp [Value.ownBlock] at hg;subst hg;exact ⟨hg',lt_of_block hh⟩
theorem TRow.push {w w' : World} {lo : Nat} {v : Value} {n : Nat} {l : List (TT n)} {xs : List Value} (h : TRow w lo v l xs) {x : TT n} {a : Option Addr} {c : Nat} (hx : TIn w (But lo v) x a)
    {g cap:Nat} (hg:w.grownBy w' v.ownBlock) (hat:v.ownBlock=some g∨g=w.heap.size)
    (ho:w'.ownsRow lo 78 3 (.slice (some ⟨g,0,none⟩) (l.length+1) cap) (l.length+1) (xs++[.int .i64 x.kind,.int .i64 x.r,.slice a x.len c])) :
    TRow w' lo (.slice (some ⟨g,0,none⟩) (l.length+1) cap) (l++[x]) (xs++[.int .i64 x.kind,.int .i64 x.r,.slice a x.len c]):=by
  obtain ⟨h1,h3⟩:=h
  have hxl:=h1.1
  have keep:∀ {y:TT n} {b:Option Addr},TIn w (But lo v) y b→TIn w' (But lo (.slice (some ⟨g,0,none⟩) (l.length+1) cap)) y b:=fun hy=>by
    refine hy.keep (fun k hk hl=>?_) (fun k hk hl=>⟨hk.1,?_⟩)
    · exact hg.block k hl (fun e=>hk.2 e.symm)
    · simp only [Value.ownBlock,ne_eq,Option.some.injEq]
      intro e
      subst e
      rcases hat with h' | h'
      · exact hk.2 h'
      · omega
  refine ⟨by rw [List.length_append];exact ho,fun i y hy=>?_⟩
  rw [List.getElem?_append] at hy
  split at hy
  · rename_i hi
    obtain ⟨b,d,q0,q1,q2,q3⟩:=h3 i y hy
    refine ⟨b,d,?_,?_,?_,keep q3⟩
    · rw [List.getElem?_append_left (by omega)];exact q0
    · rw [List.getElem?_append_left (by omega)];exact q1
    · rw [List.getElem?_append_left (by omega)];exact q2
  · rename_i hi
    have hi2:i=l.length:=by
      have:=(List.getElem?_eq_some_iff.1 hy).1
      simp at this
      omega
    subst hi2
    simp at hy
    subst hy
    refine ⟨a,c,?_,?_,?_,keep hx⟩
    · rw [List.getElem?_append_right (by omega),hxl,Nat.sub_self];rfl
    · rw [List.getElem?_append_right (by omega),hxl,Nat.add_sub_cancel_left];rfl
    · rw [List.getElem?_append_right (by omega),hxl,Nat.add_sub_cancel_left];rfl
theorem underTs : Tryz.prog.underlying 39 = some (.slice 78) := by kernel_rfl
theorem infoT : (Tryz.prog.info? 78).map (fun i => (i.zero, i.size, i.bytes)) = some (some (.agg #[.int .i64 0, .int .i64 0, .slice none 0 0]), 3, 40) := by kernel_rfl
theorem infoT_parts : ∃ i, Tryz.prog.info? 78 = some i ∧ i.zero = some (.agg #[.int .i64 0, .int .i64 0, .slice none 0 0]) ∧ i.size = 3 ∧ i.bytes = 40 := by
  have h:=infoT
  cases hi:Tryz.prog.info? 78 with
  | none=>rw [hi] at h;cases h
  | some i=>rw [hi] at h;simp at h;exact ⟨i,rfl,h.1,h.2.1,h.2.2⟩
theorem news3 (w : World) (p q r : Value) : ∀ j u, [p, q, r][j]? = some u → (w.alloc (.cells #[p, q, r] 78)).cell? ((⟨w.heap.size, 0, none⟩ : Addr).add j) = some u := by
  intro j u h
  match j,h with
  | 0,h=>simp at h;subst h;exact cellOf (blockNew w _ _) 0 _ rfl
  | 1,h=>simp at h;subst h;exact cellOf (blockNew w _ _) 1 _ rfl
  | 2,h=>simp at h;subst h;exact cellOf (blockNew w _ _) 2 _ rfl
  | j+3,h=>simp at h
theorem one3 (k r : Int) (a : Option Addr) (l c : Nat) : ∀ u ∈ [Value.int .i64 k, Value.int .i64 r, Value.slice a l c], u.oneCell' = true := by
  intro u h
  simp at h
  rcases h with rfl | rfl | rfl <;> rfl
def TOut {n : Nat} (w w' : World) (t : TT n) (e : Ending) : Prop := ∃ a' c', e = .returned (Tv t a' c') ∧ TIn w' (From w.heap.size) t a' ∧ Below w.heap.size w w'
def LOut {n : Nat} (w w' : World) (l : List (TT n)) (e : Ending) : Prop := ∃ a' c', e = .returned (.slice a' l.length c') ∧ LIn w' (From w.heap.size) l a' ∧ Below w.heap.size w w'
def OwnAt (n : Nat) : Prop := ∀ (t : TT n) (a : Option Addr) (c : Nat) (w : World), TIn w All t a → t.count ≤ 100000 →
    Calls Tryz.prog 79 #[Tv t a c] w fun e w'=>TOut w w' t e
theorem owns_any (n : Nat) (IH0 : OwnAt n) (l : List (TT n)) (a : Option Addr) (c : Nat) (w : World) (hl0 : LIn w All l a) (hlen : l.length ≤ 100000) (hco0 : ∀ x ∈ l, x.count ≤ 100000) :
    Calls Tryz.prog 42 #[.slice a l.length c] w fun e w'=>LOut w w' l e:=by
  have IH:Hid (OwnAt n):=IH0
  have hl:Hid (LIn w All l a):=hl0
  have hco:Hid (∀ x∈l,x.count≤100000):=hco0
  clear IH0 hl0 hco0
  obtain ⟨i0,hi,hz0,hz1,hz2⟩:=infoT_parts
  go_enter Tryz.func42,Tryz.ntmps42
  go_wp2_with fail
  go_loopw [3,4] (fun v i wr=>∃ q:Nat,q≤l.length∧i=.int .i64 q∧(∃ xs,TRow wr w.heap.size v (l.take q) xs)∧Below w.heap.size w wr) (fun _ i _=>l.length - (intOf i).toNat)
  case atStart=>exact ⟨0,Nat.zero_le _,rfl,⟨_,TRow.nil _ _⟩,Below.refl _ _⟩
  case round =>
    obtain ⟨q,hq,rfl,⟨xs,hr⟩,hb⟩:=hrel
    have R:Hid (TRow wr w.heap.size u3 (l.take q) xs):=hr
    have B:Hid (Below w.heap.size w wr):=hb
    clear hr hb
    by_cases hlt:q<l.length
    · have hx:l[q]?=some l[q]:=List.getElem?_eq_getElem hlt
      generalize l[q]=x at hx
      obtain ⟨g,o,a',c',rfl,_,d0,d1,d2,hk⟩:=LIn.at (hl.out.below B.out) hx
      have C:Hid (Calls Tryz.prog 79 #[Tv x a' c'] wr fun e w'=>TOut wr w' x e) :=
        IH.out x a' c' _ hk (hco.out x (List.mem_of_getElem? hx))
      have T:Hid (l.take (q+1)=l.take q++[x]):=by show _=_;rw [List.take_add_one,hx];rfl
      have hlq:Hid ((l.take q).length=q):=by show _=_;simp;omega
      clear hk hx
      simp only [Tv] at C
      have hk0:(0:Int)≤q:=by omega
      have hk1:(q:Int)<l.length:=by omega
      go_wp2_with fail
      refine C.out.mono ?_
      rintro e w2 ⟨a2,c2,rfl,t2,b2⟩
      simp only [Tv]
      have R2:=R.out.below b2
      have hT2:TIn w2 (But w.heap.size u3) x a2:=t2.mono (fun k hk _=>⟨Nat.le_trans B.out.size hk,fun e=>by have:=(R.out.lo_le e).2;omega⟩)
      have hB2:Below w.heap.size w w2:=B.out.trans (b2.mono B.out.size)
      have hown:=R2.own
      rw [hlq.out] at hown
      have PU:Hid (∀ g2 cap2 w9,w9.ownsRow w.heap.size 78 3 (.slice (some ⟨g2,0,none⟩) (q+1) cap2) (q+1) (xs++[.int .i64 x.kind,.int .i64 x.r,.slice a2 x.len c2])→(w2.alloc (.cells #[.int .i64 x.kind,.int .i64 x.r,.slice a2 x.len c2] 78)).grownBy w9 u3.ownBlock→(u3.ownBlock=some g2∨g2=w2.heap.size+1) →
          (∃ xs,TRow w9 w.heap.size (.slice (some ⟨g2,0,none⟩) (q+1) cap2) (l.take (q+1)) xs)∧Below w.heap.size w w9):=by
        intro g2 cap2 w9 h1 h2 h3
        have b3:Below w2.heap.size w2 (w2.alloc (.cells #[.int .i64 x.kind,.int .i64 x.r,.slice a2 x.len c2] 78)):=(Below.refl _ w2).alloc (Nat.le_refl _) _
        have:=(R2.below b3).push (x:=x) (a:=a2) (c:=c2) (cap:=cap2) (hT2.below b3) h2 (by simpa using h3) (by rw [hlq.out];exact h1)
        rw [hlq.out] at this
        refine ⟨⟨_,by rw [T.out];exact this⟩,?_⟩
        exact (hB2.alloc hB2.size _).grown h2 (by simp;have:=hB2.size;omega) (fun k hk=>(R.out.lo_le hk).1)
      have hsz:=hB2.size
      clear C d0 d1 d2 t2 b2 R2 hT2 hB2
      generalize x.kind=kx at PU ⊢
      generalize x.r=rx at PU ⊢
      generalize x.len=lx at PU ⊢
      go_wp2_with (at_builtin;refine wpList_append_lies _ rfl (.tmp 11) (.tmp 17) 39 rfl w.heap.size 78 i0 (.agg #[.int .i64 0,.int .i64 0,.slice none 0 0]) 3 40 underTs hi hz0 hz1 hz2 rfl (by decide) _ _ _ rfl (hown.alloc _) ⟨w2.heap.size,0,none⟩ 1 1 [.int .i64 kx,.int .i64 rx,.slice a2 lx c2] rfl rfl (news3 _ _ _ _) (one3 _ _ _ _ _) (by decide) (by unfold maxLen;omega) (by omega) (by simp;omega) (w2.heap.size+1) (by simp) ?_)
      intro g2 cap2 w9 h1 hgrow hat hlt1
      have U2:Hid _:=PU.out g2 cap2 w9 h1 hgrow hat
      clear h1 hgrow hat hlt1 hown PU R
      go_wp2
      go_roundw
      case rel=>exact ⟨q+1,by omega,by go_num,U2.out.1,U2.out.2⟩
      case measure=>simp [intOf];omega
    · have hk1:¬ (q:Int)<l.length:=by omega
      have htt:l.take q=l:=List.take_of_length_le (by omega)
      have hr:=R.out
      rw [htt] at hr
      obtain ⟨a2,c2,rfl,h2⟩:=hr.lin
      have L:Hid (LIn wr (From w.heap.size) l a2):=h2
      clear R h2 hr htt
      go_wp2
      go_ret
      exact ⟨a2,c2,rfl,L.out,B.out⟩
structure Bx2 (w wr : World) (k r : Int) (a : Option Addr) (len c : Nat) : Prop where
  bel:Below w.heap.size w wr
  box:wr.heap[w.heap.size]?=some (.cells #[.int .i64 k,.int .i64 r,.slice a len c] 78 (0,0))
  res:wr.heap[w.heap.size+1]?=some (.cells #[.int .i64 0,.int .i64 0,.slice none 0 0] 78 (0,0))
theorem Bx2.start (w : World) (k r : Int) (a : Option Addr) (len c : Nat) : Bx2 w ((w.alloc (.cells #[.int .i64 k, .int .i64 r, .slice a len c] 78)).alloc (.cells #[.int .i64 0, .int .i64 0, .slice none 0 0] 78)) k r a len c :=
  ⟨((Below.refl _ w).alloc (Nat.le_refl _) _).alloc (by simp) _,(Below.heap_alloc _ _ _ (by simp)).trans (blockNew w _ _),by have:=blockNew (w.alloc (.cells #[.int .i64 k,.int .i64 r,.slice a len c] 78)) #[.int .i64 0,.int .i64 0,.slice none 0 0] 78;simpa using this⟩
theorem Bx2.below {w wr w' : World} {k r : Int} {a : Option Addr} {len c : Nat} (h : Bx2 w wr k r a len c) (b : Below wr.heap.size wr w') : Bx2 w w' k r a len c :=
  ⟨h.bel.trans (b.mono h.bel.size),box_cells h.box b,box_cells h.res b⟩
theorem Bx2.stored {w wr : World} {k r : Int} {a : Option Addr} {len c : Nat} (h : Bx2 w wr k r a len c) (k' r' : Int) (a' : Option Addr) (len' c' : Nat) :
    (((wr.setCell ⟨w.heap.size+1,0,none⟩ (.int .i64 k')).setCell ⟨w.heap.size+1,1,none⟩ (.int .i64 r')).setCell ⟨w.heap.size+1,2,none⟩ (.slice a' len' c')).heap[w.heap.size+1]?=some (.cells #[.int .i64 k',.int .i64 r',.slice a' len' c'] 78 (0,0)) ∧
    Below w.heap.size w (((wr.setCell ⟨w.heap.size+1,0,none⟩ (.int .i64 k')).setCell ⟨w.heap.size+1,1,none⟩ (.int .i64 r')).setCell ⟨w.heap.size+1,2,none⟩ (.slice a' len' c')):=by
  refine ⟨?_,((h.bel.setCell (by simp) _).setCell (by simp) _).setCell (by simp) _⟩
  have h1:=blockSet h.res 0 (.int .i64 k')
  have h2:=blockSet h1 1 (.int .i64 r')
  have h3:=blockSet h2 2 (.slice a' len' c')
  simpa using h3
theorem own_any : ∀ n, OwnAt n := by
  intro n
  induction n with
  | zero=>intro t;exact Empty.elim t
  | succ n ih =>
    intro t a c w ht hc
    have hco:∀ x∈t.2.2,x.count≤100000:=fun x hx=>by have:=t.count_kid hx;omega
    have hlen:t.2.2.length≤100000:=by have:=t.len_lt_count;rw [t.len_eq] at this;omega
    have C:Hid (∀ wx,Below w.heap.size w wx→Calls Tryz.prog 42 #[.slice a t.2.2.length c] wx fun e w'=>LOut wx w' t.2.2 e) :=
      fun wx hb=>owns_any n ih t.2.2 a c wx (ht.below hb) hlen hco
    have P:Hid (∀ e wx w',Below w.heap.size w wx→(∃ a' c',e=.returned (.agg #[.int .i64 t.kind,.int .i64 t.r,.slice a' t.2.2.length c'])∧LIn w' (From wx.heap.size) t.2.2 a'∧Below w.heap.size w w')→TOut w w' t e):=by
      rintro e wx w' hb ⟨a',c',rfl,h1,h2⟩
      exact ⟨a',c',rfl,h1.mono (fun k hk _=>Nat.le_trans hb.size hk),h2⟩
    simp only [Tv,TT.len_eq]
    generalize t.kind=k at P ⊢
    generalize t.r=r at P ⊢
    generalize hll:t.2.2=l at C P ⊢
    clear hco hlen hc ht ih hll
    go_enter Tryz.func79,Tryz.ntmps79
    go_wp2_with fail
    have X1:Hid (Bx2 w ((w.alloc (.cells #[.int .i64 k,.int .i64 r,.slice a l.length c] 78)).alloc (.cells #[.int .i64 0,.int .i64 0,.slice none 0 0] 78)) k r a l.length c):=Bx2.start w k r a l.length c
    have hsz:w.heap.size+1<((w.alloc (.cells #[.int .i64 k,.int .i64 r,.slice a l.length c] 78)).alloc (.cells #[.int .i64 0,.int .i64 0,.slice none 0 0] 78)).heap.size:=by simp
    generalize (w.alloc (.cells #[.int .i64 k,.int .i64 r,.slice a l.length c] 78)).alloc (.cells #[.int .i64 0,.int .i64 0,.slice none 0 0] 78)=w1 at X1 hsz ⊢
    have C1:Hid (∀ m,Calls Tryz.prog 42 #[.slice a l.length c] (w1.drewN m) fun e w'=>LOut w1 w' l e∧Bx2 w w' k r a l.length c):=fun m =>
      (C.out (w1.drewN m) (drewN_below X1.out.bel)).mono (fun e w' h=>by
        obtain ⟨a',c',h1,h2,h3⟩:=h
        exact ⟨⟨a',c',h1,h2,undrewN_below h3⟩,X1.out.below (undrewN_below h3)⟩)
    have e0:=cellOf X1.out.box 0 _ rfl
    have e1:=cellOf X1.out.box 1 _ rfl
    have e2:=cellOf X1.out.box 2 _ rfl
    clear C
    go_region_with (go_at_call 42;refine (C1.out 1).mono ?_;rintro e w5 ⟨⟨a2,c2,rfl,l2,b2⟩,x5⟩;have f0:=cellOf x5.box 0 _ rfl;have f1:=cellOf x5.box 1 _ rfl;have g0:=cellOf x5.res 0 _ rfl;have g1:=cellOf x5.res 1 _ rfl;have g2:=cellOf x5.res 2 _ rfl;have z0:=freeOf x5.res 0;have z1:=freeOf x5.res 1;have z2:=freeOf x5.res 2;have X5:Hid _:=And.intro l2 x5;clear l2 b2 x5)
    all_goals
      have D:=X5.out.2.stored k r a2 l.length c2
      have D2:TOut w (((w5.setCell ⟨w.heap.size+1,0,none⟩ (.int .i64 k)).setCell ⟨w.heap.size+1,1,none⟩ (.int .i64 r)).setCell ⟨w.heap.size+1,2,none⟩ (.slice a2 l.length c2)) t (.returned (.agg #[.int .i64 k,.int .i64 r,.slice a2 l.length c2])) :=
        P.out _ w1 _ X1.out.bel ⟨a2,c2,rfl,((X5.out.1.setCell (by simp;omega) _).setCell (by simp;omega) _).setCell (by simp;omega) _,D.2⟩
      have DD:Hid _:=D2
      have x0:=cellOf D.1 0 _ rfl
      have x1:=cellOf D.1 1 _ rfl
      have x2:=cellOf D.1 2 _ rfl
      clear D D2 X5 e0 e1 e2 f0 f1 g0 g1 g2 z0 z1 z2 P C1
      generalize ((w5.setCell ⟨w.heap.size+1,0,none⟩ (.int .i64 k)).setCell ⟨w.heap.size+1,1,none⟩ (.int .i64 r)).setCell ⟨w.heap.size+1,2,none⟩ (.slice a2 l.length c2)=w9 at DD x0 x1 x2 ⊢
      go_wp2
      exact bodyPost_ret (v:=.agg #[.int .i64 k,.int .i64 r,.slice a2 l.length c2]) (by simp [results,Tryz.results79,go_sem,x0,x1,x2]) rfl DD.out
end Go.Proofs.YtalfbnllodhkiacGreatDoor
namespace Go.Proofs.YtalfbnllodhkiacGreatDoor
open Go.ChangeShapes Go.WideShapes Go.ChangeAt Go.RowKit
set_option linter.unusedSimpArgs false
set_option linter.unusedVariables false
structure TP where
  p:Option Addr
  c:Nat
structure YIn (w : World) (O : Nat → Prop) {n : Nat} (x : TT n) (i : TP) : Prop where
  tree:TIn w O x i.p
  ok:x.ok
section
variable {w w' : World} {O O' : Nat → Prop} {n : Nat} {x : TT n} {i : TP}
theorem YIn.keep (hb : ∀ k, O k → k < w.heap.size → w'.heap[k]? = w.heap[k]?) (hl : ∀ k, O k → k < w.heap.size → O' k) (h : YIn w O x i) : YIn w' O' x i := ⟨h.tree.keep hb hl, h.ok⟩
theorem YIn.below (h : YIn w O x i) (hbl : Below w.heap.size w w') : YIn w' O x i := h.keep (fun k _ hk => hbl.block k hk) (fun _ h _ => h)
theorem YIn.mono (h : YIn w O x i) (hl : ∀ k, O k → k < w.heap.size → O' k) : YIn w O' x i := h.keep (fun k _ _ => rfl) hl
end
theorem Wd.of {w0 w : World} (b : Below w0.heap.size w0 w) : Wd w0 w [] := ⟨b, fun i x h => by simp at h, fun i x h => by simp at h, fun i j x y h => by simp at h⟩
section
variable {α : Type} {A : Lay α} {e : TypeId} {w w' : World} {lo g n q s : Nat} {l : List α} {xs : List Value} {x : α} {ds : List Value}
theorem ARow.start {m : Nat} (hs : A.size = s) (h : w.ownsRow lo e s (.slice (some ⟨g, 0, none⟩) m m) m xs) : ARow A e w lo (.slice (some ⟨g, 0, none⟩) 0 m) (l.take 0) [] := by
  subst hs
  obtain ⟨hl,h2⟩:=h
  rcases h2 with ⟨h',_⟩ | ⟨g',cap',cur,h',hb,hg,hnc,hcm,hcs,htake⟩
  · simp at h'
  · simp only [Value.slice.injEq,Option.some.injEq,Addr.mk.injEq,and_true,true_and] at h'
    obtain ⟨rfl,rfl⟩:=h'
    exact ⟨⟨by simp,.inr ⟨g,m,cur,rfl,hb,hg,Nat.zero_le _,hcm,hcs,by simp⟩⟩,fun i x h=>by simp at h⟩
theorem ARow.blk (h : ARow A e w lo (.slice (some ⟨g, 0, none⟩) q n) l xs) (hs : A.size = s) : ∃ c, Blk w g c e ∧ c.size = n * s := by
  subst hs
  obtain ⟨hl,h2⟩:=h.own
  rcases h2 with ⟨h',_⟩ | ⟨g',cap',cur,h',hb,hg,hnc,hcm,hcs,htake⟩
  · simp at h'
  · simp only [Value.slice.injEq,Option.some.injEq,Addr.mk.injEq,and_true,true_and] at h'
    obtain ⟨rfl,-,rfl⟩:=h'
    exact ⟨cur,hg,hcs⟩
end
theorem underIns : Tryz.prog.underlying 46 = some (.slice 45) := by kernel_rfl
theorem underBlocks : Tryz.prog.underlying 40 = some (.slice 52) := by kernel_rfl
theorem underFuncs : Tryz.prog.underlying 23 = some (.slice 42) := by kernel_rfl
theorem parts_of {t : TypeId} {z : Value} {s b : Nat} (h : (Tryz.prog.info? t).map (fun i => (i.zero, i.size, i.bytes)) = some (some z, s, b)) : ∃ i, Tryz.prog.info? t = some i ∧ i.zero = some z ∧ i.size = s ∧ i.bytes = b := by
  obtain ⟨i,hi,e⟩:=Option.map_eq_some_iff.1 h
  simp only [Prod.mk.injEq] at e
  exact ⟨i,hi,e⟩
theorem infoIns : (Tryz.prog.info? 45).map (fun i => (i.zero, i.size, i.bytes)) = some (some (.agg #[.int .i64 0, .int .i64 0, .int .i64 0, .int .i64 0, .int .i64 0, .int .i64 0, .slice none 0 0, .slice none 0 0]), 8, 96) := by kernel_rfl
theorem infoBlock : (Tryz.prog.info? 52).map (fun i => (i.zero, i.size, i.bytes)) = some (some (.agg #[.int .i64 0, .slice none 0 0, .slice none 0 0, .int .i64 0, .int .i64 0, .int .i64 0, .slice none 0 0, .slice none 0 0, .int .i64 0, .slice none 0 0, .slice none 0 0, .slice none 0 0]), 12, 208) := by kernel_rfl
theorem infoFunc : (Tryz.prog.info? 42).map (fun i => (i.zero, i.size, i.bytes)) = some (some (.agg #[.int .i64 0, .slice none 0 0, .slice none 0 0, .slice none 0 0]), 4, 80) := by kernel_rfl
theorem Wd.join {w0 w1 w2 : World} {Bs Bs' : List (Nat × Array Value × TypeId)} (h1 : Wd w0 w1 Bs) (h2 : Wd w1 w2 Bs') : Wd w0 w2 (Bs' ++ Bs) := by
  have sp:∀ (i:Nat) x,(Bs'++Bs)[i]?=some x→(Bs'[i]?=some x∧i<Bs'.length)∨(Bs[i - Bs'.length]?=some x∧Bs'.length≤i):=fun i x hx=>by
    rcases Nat.lt_or_ge i Bs'.length with h | h
    · rw [List.getElem?_append_left h] at hx;exact .inl ⟨hx,h⟩
    · rw [List.getElem?_append_right h] at hx;exact .inr ⟨hx,h⟩
  refine ⟨Below.andThen h1.bel h2.bel,fun i x hx=>?_,fun i x hx=>?_,fun i j x y hx hy e=>?_⟩
  · rcases sp i x hx with ⟨h,_⟩ | ⟨h,_⟩
    · exact h2.blk i x h
    · exact (h1.blk _ x h).below h2.bel
  · rcases sp i x hx with ⟨h,_⟩ | ⟨h,_⟩
    · exact Nat.le_trans h1.bel.size (h2.new i x h)
    · exact h1.new _ x h
  · rcases sp i x hx with ⟨h,hi⟩ | ⟨h,hi⟩ <;> rcases sp j y hy with ⟨h',hj⟩ | ⟨h',hj⟩
    · exact h2.nd i j x y h h' e
    · have:=h2.new i x h;have:=(h1.blk _ y h').lt;omega
    · have:=h2.new j y h';have:=(h1.blk _ x h).lt;omega
    · have:=h1.nd _ _ x y h h' e;omega
def KeepBut (lo B : Nat) (w w' : World) : Prop := ∀ k, k < lo → k ≠ B → w'.heap[k]? = w.heap[k]?
section
variable {lo B s : Nat} {w w1 w2 : World}
theorem KeepBut.refl (lo B : Nat) (w : World) : KeepBut lo B w w := fun _ _ _ => rfl
theorem KeepBut.below (h : KeepBut lo B w w1) (b : Below s w1 w2) (hs : lo ≤ s) : KeepBut lo B w w2 := fun k hk hne => (b.block k (by omega)).trans (h k hk hne)
theorem KeepBut.grown {row : Option Nat} (h : KeepBut lo B w w1) (b : w1.grownBy w2 row) (hs : lo ≤ w1.heap.size) (hr : ∀ k, row = some k → lo ≤ k) : KeepBut lo B w w2 := fun k hk hne => (b.block k (by omega) (fun e => by have := hr k e.symm; omega)).trans (h k hk hne)
theorem KeepBut.keep1 (h : KeepBut lo B w w1) (b : Keep1 B w1 w2) : KeepBut lo B w w2 := fun k hk hne => (b k hne).trans (h k hk hne)
theorem Lay.keepBut {α : Type} {A : Lay α} {O O' : Nat → Prop} {x : α} {cs : List Value} (h : A.In w O x cs) (hk : KeepBut lo B w w1) (ho : ∀ k, O k → k < w.heap.size → k < lo ∧ k ≠ B) (ho' : ∀ k, O k → k < w.heap.size → O' k) : A.In w1 O' x cs :=
  A.keep (fun k hO hl=>hk k (ho k hO hl).1 (ho k hO hl).2) ho' h
end
section
variable {α : Type} {A : Lay α} {e : TypeId} {w w' : World} {lo B : Nat} {v : Value} {l : List α} {xs : List Value}
theorem ARow.keep1 (h : ARow A e w lo v l xs) (hk : Keep1 B w w') (hB : B < lo) : ARow A e w' lo v l xs := by
  obtain ⟨⟨h1,h2⟩,h3⟩:=h
  refine ⟨⟨h1,?_⟩,fun i x hx=>A.keep (fun k hO _=>hk k (by have:=hO.1;omega)) (fun _ h _=>h) (h3 i x hx)⟩
  rcases h2 with h4 | ⟨g,cap,cur,e,hg,hh,r⟩
  · exact Or.inl h4
  · exact Or.inr ⟨g,cap,cur,e,hg,(hk g (by omega)).trans hh,r⟩
theorem ARow.form (h : ARow A e w lo v l xs) : ∃ a c, v = .slice a l.length c := by
  rcases h.own.2 with ⟨rfl,h4⟩ | ⟨g,cap,cur,rfl,_⟩
  · exact ⟨none,0,by rw [h4]⟩
  · exact ⟨_,_,rfl⟩
theorem ARow.nil' (A : Lay α) (e : TypeId) (w : World) (lo : Nat) : ARow A e w lo (.slice none 0 0) (l.take 0) [] := ARow.nil A e w lo
theorem ARow.own_lt (h : ARow A e w lo v l xs) {k : Nat} (hk : w.heap.size ≤ k) : v.ownBlock ≠ some k := fun e => by have := (h.lo_le e).2; omega
end
section
variable {n : Nat} {a : Act} {L : List (Tmp × Value)} {w0 w : World} {Bs : List (Nat × Array Value × TypeId)} {Q : Exit → Act → World → Prop} {ops : Array Oper} {rest : List Oper} {t : Tmp} {u v : Value} {ty ty2 ty3 : TypeId} {pos : String} {aft : Array Edge} {x y : Operand}
theorem sApp {α : Type} {A : Lay α} {tS e bt : TypeId} {i0 : TypeInfo} {z : Value} {s bytes lo G : Nat} {l : List α} {xs ds : List Value} {xd : α}
    (hu:Tryz.prog.underlying tS=some (.slice e)) (hi:Tryz.prog.info? e=some i0) (hz:i0.zero=some z) (hsz:i0.size=s) (hby:i0.bytes=bytes) (hzs:z.cells.size=s) (h0:0<s) (hs:A.size=s)
    (hW:Wd w0 w Bs) (hlo:w0.heap.size≤lo) (hBlo:∀ (i:Nat) x,Bs[i]?=some x→x.1<lo) (hR:ARow A e w lo u l xs) (hlow:lo≤w.heap.size) (hG:Blk w G ds.toArray bt)
    (hIn:A.In w (fun k=>lo≤k∧u.ownBlock≠some k) xd ds) (hone:ds.all (·.oneCell')=true) (hlen:l.length<4294967296) (hbyt:bytes≤1000)
    (hx:evalL L x=some u) (hy:evalL L y=some (.slice (some ⟨G,0,none⟩) 1 1)) (ht:Nat.blt t n=true)
    (k:∀ g cap w',ARow A e w' lo (.slice (some ⟨g,0,none⟩) (l.length+1) cap) (l++[xd]) (xs++ds)→w.grownBy w' u.ownBlock→Wd w0 w' Bs→St n ((t,.slice (some ⟨g,0,none⟩) (l.length+1) cap)::L) ops Q rest w') :
    St n L ops Q (⟨some t,.call { callee:=.builtin .append,args:=#[x,y],argTypes:=#[tS,tS] },ty,pos,aft,none⟩::rest) w:=fun a hF=>by
  subst hs
  have hdl:=A.len hIn
  have hmul:(l.length+1)*bytes≤4294967296*1000:=Nat.mul_le_mul (by omega) hbyt
  refine wpList_append_lies (P:=Tryz.prog) w rfl x y tS rfl lo e i0 z A.size bytes hu hi hz hsz hby hzs h0 u l.length xs (hF.ev hx) hR.own ⟨G,0,none⟩ 1 1 ds (hF.ev hy) (by rw [hdl,Nat.one_mul]) ?_ (by simpa using hone) (by decide) (by unfold maxLen;omega) (by omega) hlow w.heap.size rfl ?_
  · intro j v hj
    rw [show (⟨G,0,none⟩:Addr).add j=⟨G,j,none⟩ from by unfold Addr.add;split <;> simp_all]
    exact cellOf hG j v (by simpa using hj)
  · intro g cap w' h1 hgrow hat hlt
    have hA:=ARow.push hR hIn hgrow hat h1
    refine k g cap w' hA hgrow ⟨hW.bel.grown hgrow hW.bel.size (fun k hk=>Nat.le_trans hlo (hR.lo_le hk).1),fun i y hy=>?_,hW.new,hW.nd⟩ _ (hF.put ht)
    have h9:=hBlo i y hy
    exact (hgrow.block y.1 (by omega) (fun e=>by have:=(hR.lo_le e.symm).1;omega)).trans (hW.blk i y hy)
end
theorem KeepBut.keep1t {lo B : Nat} {w w1 w2 : World} (h : KeepBut lo B w w1) (b : Keep1 B w1 w2) (hB : B < lo) : KeepBut lo B w w2 := h.keep1 b
theorem Lay.keepNe {α : Type} {A : Lay α} {O : Nat → Prop} {w w1 : World} {B : Nat} {x : α} {cs : List Value} (h : A.In w O x cs) (hk : Keep1 B w w1) (ho : ∀ k, O k → k ≠ B) : A.In w1 O x cs :=
  A.keep (fun k hO _=>hk k (ho k hO)) (fun _ h _=>h) h
theorem lts2 {x1 x2 : Nat × Array Value × TypeId} {lo : Nat} (h1 : x1.1 < lo) (h2 : x2.1 < lo) : ∀ (i : Nat) x, [x1, x2][i]? = some x → x.1 < lo := fun i x h => by
  match i,h with
  | 0,h=>cases h;exact h1
  | 1,h=>cases h;exact h2
  | i+2,h=>simp at h
theorem lts3 {x1 x2 x3 : Nat × Array Value × TypeId} {lo : Nat} (h1 : x1.1 < lo) (h2 : x2.1 < lo) (h3 : x3.1 < lo) : ∀ (i : Nat) x, [x1, x2, x3][i]? = some x → x.1 < lo := fun i x h => by
  match i,h with
  | 0,h=>cases h;exact h1
  | 1,h=>cases h;exact h2
  | 2,h=>cases h;exact h3
  | i+3,h=>simp at h
theorem rOwnTypes_any {n : Nat} {l : List (TT n)} {p : Option Addr} {c : Nat} {w : World} (h : (typesL n).In w All l [.slice p l.length c]) (hs : tsmall l) : Calls Tryz.prog 42 #[.slice p l.length c] w fun e w' => LyOut (Lay.tt n) w w' l e :=
  (owns_any n (own_any n) l p c w (types_lin h).1 (by have:=hs.1;omega) hs.2).mono fun e w' ⟨a',c',h1,h2,h3⟩=>⟨a',c',h1,types_of_lin h2 (types_lin h).2,h3⟩
theorem ARow.next {α : Type} {A : Lay α} {e : TypeId} {w : World} {lo q : Nat} {v : Value} {l : List α} {xs : List Value} {x : α} (h : ARow A e w lo v (l.take q ++ [x]) xs) (hx : l[q]? = some x) : ARow A e w lo v (l.take (q + 1)) xs := by
  rw [List.take_add_one,hx];exact h
theorem ARow.full {α : Type} {A : Lay α} {e : TypeId} {w : World} {lo q : Nat} {v : Value} {l : List α} {xs : List Value} (h : ARow A e w lo v (l.take q) xs) (hq : q = l.length) : ARow A e w lo v l xs := by
  rwa [List.take_of_length_le (by omega)] at h
theorem EIn.keep1 {w w' : World} {lo B : Nat} {x : MEnd} {e : EP} (h : EIn w (From lo) x e) (hk : Keep1 B w w') (hB : B < lo) : EIn w' (From lo) x e :=
  h.keep (fun k hl _=>hk k (by have:lo≤k:=hl;omega)) (fun _ h _=>h)
theorem ownModule_any {n : Nat} (m : List (MFunc n)) (p : Option Addr) (c : Nat) (w : World) (h : (modL n).In w All m [.slice p m.length c]) (hs0 : msmall m) :
    Calls Tryz.prog 19 #[.agg #[.slice p m.length c]] w fun e w'=>∃ v,e=.returned v∧(∃ a' c',v=.agg #[.slice a' m.length c']∧(modL n).In w' (From w.heap.size) m [.slice a' m.length c'])∧Below w.heap.size w w':=by
  have hm:Hid _:=h
  have hs:Hid _:=hs0
  have hn1:=hs0.1
  clear h hs0
  obtain ⟨iF,hiF,hzF0,hzF1,hzF2⟩:=parts_of infoFunc
  obtain ⟨iB,hiB,hzB0,hzB1,hzB2⟩:=parts_of infoBlock
  obtain ⟨iI,hiI,hzI0,hzI1,hzI2⟩:=parts_of infoIns
  refine fr_enter (n:=110) Tryz.func19 rfl rfl rfl ?_
  intro a hF
  have hW:=Wd.start w
  replace hF:Fr 110 a [(0,.agg #[.slice p m.length c])]:=hF
  refine wp_seq_k fun K1 hK1=>?_
  refine rg hF fun ops=>?_;clear hF a
  refine sB hW trivial rfl rfl ?_
  clear hW;intro w2 B2 hW2 hN;clear hN
  refine sAModule hW2 trivial rfl ?_
  clear hW2;intro w3 B3 hW3 hN;clear hN
  refine St.nil fun a4 h4=>?_
  refine hK1 _ _ ?_
  refine wp_seq_k fun K5 hK5=>?_
  refine rg h4 fun ops=>?_;clear h4 a4
  refine sAModule hW3 trivial rfl ?_
  clear hW3;intro w6 B6 hW6 hN;clear hN
  refine St.nil fun a7 h7=>?_
  refine hK5 _ _ ?_
  refine wp_seq_k fun K8 hK8=>?_
  refine wp_seq_k fun K9 hK9=>?_
  refine rg h7 fun ops=>?_;clear h7 a7
  refine sa trivial rfl rfl ?_
  refine St.nil fun a10 h10=>?_
  refine hK9 _ _ ?_
  refine wp_block ?_
  have hlo1:w.heap.size≤w6.heap.size:=hW6.bel.size
  have hlB6:B6<w6.heap.size:=(hW6.get 0 rfl).lt
  have hlB3:B3<w6.heap.size:=(hW6.get 1 rfl).lt
  have hlB2:B2<w6.heap.size:=(hW6.get 2 rfl).lt
  refine fr_loop (fun r a w'=>∃ q1:Nat,q1≤m.length∧r=m.length - q1∧∃ v1 xs,ARow (funcL n) 42 w' w6.heap.size v1 (m.take q1) xs∧KeepBut w6.heap.size B6 w6 w'∧w6.heap.size≤w'.heap.size∧Fr 110 a [(0,.agg #[.slice p m.length c]),(1,.pointer (some ⟨B2,0,none⟩)),(2,.pointer (some ⟨B3,0,none⟩)),(3,.pointer (some ⟨B6,0,none⟩)),(4,.int .i64 (q1:Int))]∧Wd w w' [(B6,#[v1],25),(B3,#[.slice none 0 0],25),(B2,#[.slice p m.length c],25)]) (m.length) ⟨0,Nat.zero_le _,rfl,.slice none 0 0,[],ARow.nil' _ _ _ _,KeepBut.refl _ _ _,Nat.le_refl _,(h10.keep (h10.keep (h10.keep (h10.keep (h10.keep h10.nil (t:=4) rfl) (t:=3) rfl) (t:=2) rfl) (t:=1) rfl) (t:=0) rfl),hW6⟩ ?_
  clear h10 hW6
  rintro r1 a11 w11 ⟨q1,hq1,hr1,v1,xs1,hA0,hK0,hz1,hF11,hWo1⟩ KL1 hKL1
  have hA1:Hid _:=hA0
  have hK1:Hid _:=hK0
  clear hA0 hK0
  have hW11:=Wd.start w11
  have hkB6:Hid (Blk w11 B6 #[v1] 25):=hWo1.get 0 rfl
  have hkB3:Hid (Blk w11 B3 #[.slice none 0 0] 25):=hWo1.get 1 rfl
  have hkB2:Hid (Blk w11 B2 #[.slice p m.length c] 25):=hWo1.get 2 rfl
  refine wp_seq_k fun K12 hK12=>?_
  refine wp_seq_k fun K13 hK13=>?_
  refine rg hF11 fun ops=>?_;clear hF11 a11
  refine sm trivial rfl rfl ?_
  refine sfModule0 trivial rfl rfl ?_
  refine scFuncs (bel_cell hW11.bel (cellOf hkB2.out 0 _ rfl)) trivial rfl rfl ?_
  refine slFuncs trivial rfl rfl ?_
  refine slt trivial rfl rfl rfl ?_
  refine St.nil fun a14 h14=>?_
  refine hK13 _ _ ?_
  refine fr_cond (t:=16) h14 rfl (fun hb=>?_) (fun hb=>?_)
  ·have hlt1:q1<m.length:=by have:=of_decide_eq_true hb;omega
   clear hb
   obtain ⟨x,hx1⟩:∃ v9,(m)[q1]?=some v9:=⟨_,List.getElem?_eq_getElem hlt1⟩
   obtain ⟨g1,o1,f1,hp1,E1,In1⟩:=func_at (Lay.below hm.out hWo1.bel) hx1
   replace In1:Hid _:=In1
   replace hp1:Hid _:=hp1
   replace hx1:Hid _:=hx1
   replace E1:Hid _:=E1
   have hs1:Hid _:=hs.out.2 x (List.mem_of_getElem? hx1.out)
   have hn2:=hs1.out.1
   refine wp_skip ?_
   refine hK12 _ _ ?_
   refine wp_seq_k fun K15 hK15=>?_
   refine wp_block ?_
   refine wp_seq_k fun K16 hK16=>?_
   refine rg h14 fun ops=>?_;clear h14 a14
   refine sfModule0 trivial rfl rfl ?_
   refine scFuncs (bel_cell hW11.bel (cellOf hkB2.out 0 _ rfl)) trivial rfl rfl ?_
   refine sm trivial rfl rfl ?_
   refine siFuncs hp1.out hlt1 trivial rfl rfl rfl ?_
   refine sSE Tryz.underlying42 rfl (rangeAt_bel E1.out hW11.bel) infFunc trivial rfl rfl ?_
   refine sAFunc hW11 trivial rfl ?_
   clear hW11;intro w17 B17 hW17 hN;clear hN
   refine sT 0 hW17 rfl rfl infFunc rfl rfl rfl ?_
   clear hW17;intro w18 hW18
   refine St.nil fun a19 h19=>?_
   refine hK16 _ _ ?_
   refine wp_seq_k fun K20 hK20=>?_
   have hF21:Fr 110 a19 [(0,.agg #[.slice p m.length c]),(1,.pointer (some ⟨B2,0,none⟩)),(2,.pointer (some ⟨B3,0,none⟩)),(3,.pointer (some ⟨B6,0,none⟩)),(4,.int .i64 (q1:Int)),(5,.pointer (some ⟨B17,0,none⟩))]:=(h19.keep (h19.keep (h19.keep (h19.keep (h19.keep (h19.keep h19.nil (t:=5) rfl) (t:=4) rfl) (t:=3) rfl) (t:=2) rfl) (t:=1) rfl) (t:=0) rfl)
   have ho5:a19.tmps.getD 5 undef=.pointer (some ⟨B17,0,none⟩):=h19.sl 5 _ rfl
   have hDS:DStable (Z:=Option Addr × Nat × Option Addr × Nat) [(4,fun z w O=>(typesL n).In w O x.params [.slice z.1 x.params.length z.2.1]),(7,fun z w O=>(typesL n).In w O x.results [.slice z.2.2.1 x.results.length z.2.2.2])]:=by
     intro x hx
     simp only [List.mem_cons,List.not_mem_nil,or_false] at hx
     rcases hx with rfl | rfl
     · intro z w w9 O hk h;exact (typesL n).keep hk (fun _ h _=>h) h
     · intro z w w9 O hk h;exact (typesL n).keep hk (fun _ h _=>h) h
   refine fr_draw4 (Z:=Option Addr × Nat × Option Addr × Nat) [(0,24),(1,25),(2,26),(3,27),(4,28),(5,29),(6,30),(7,31),(8,32)] [(9,6,4,42)] [(10,6,4,42)] (fun z=>[(24,.pointer (some ⟨B17,0,none⟩)),(25,.int .i64 x.regs),(26,.pointer (some ⟨B17,1,none⟩)),(27,.slice f1.pP x.params.length f1.cP),(28,.slice z.1 x.params.length z.2.1),(29,.pointer (some ⟨B17,2,none⟩)),(30,.slice f1.pR x.results.length f1.cR),(31,.slice z.2.2.1 x.results.length z.2.2.2),(32,.agg #[.int .i64 x.regs,.slice z.1 x.params.length z.2.1,.slice z.2.2.1 x.results.length z.2.2.2,.slice none 0 0])]) (fun z=>[(6,[.int .i64 x.regs,.slice z.1 x.params.length z.2.1,.slice z.2.2.1 x.results.length z.2.2.2,.slice none 0 0])]) [(4,fun z w O=>(typesL n).In w O x.params [.slice z.1 x.params.length z.2.1]),(7,fun z w O=>(typesL n).In w O x.results [.slice z.2.2.1 x.results.length z.2.2.2])] (none,0,none,0) (by kernel_rfl) hF21 (by kernel_rfl) (by kernel_rfl) (fun hDB=>?hst) ?hend
   case hst =>
    refine ⟨fun S a1 w1 hS hd hcl hI0 K hK=>?_,?_⟩
    · obtain ⟨⟨p28,c28,p31,c31⟩,hI⟩:=hI0
      have hWd:=hW18.below hI.1.bel
      have k0:a1.tmps.getD 5 undef=.pointer (some ⟨B17,0,none⟩):=((hI.1.outer 5 (by kernel_rfl)).trans ho5)
      go_simp
      exact hK _ _ (DMz.pure hDS hDB hI (i:=0) (t:=24) (by decide) rfl hS (Below.refl _ _) (by kernel_rfl) (by kernel_rfl) rfl)
    refine ⟨fun S a1 w1 hS hd hcl hI0 K hK=>?_,?_⟩
    · obtain ⟨⟨p28,c28,p31,c31⟩,hI⟩:=hI0
      have hWd:=hW18.below hI.1.bel
      have k0:a1.tmps.getD 24 undef=.pointer (some ⟨B17,0,none⟩):=(hI.1.vals (0,24) (by decide) (hd.at 0 (by kernel_rfl)) _ rfl)
      have c0:w1.cell? ⟨B17,0,none⟩=some (.int .i64 x.regs):=cellOf (hWd.get 0 rfl) 0 _ rfl
      go_simp
      exact hK _ _ (DMz.pure hDS hDB hI (i:=1) (t:=25) (by decide) rfl hS (Below.refl _ _) (by kernel_rfl) (by kernel_rfl) rfl)
    refine ⟨fun S a1 w1 hS hd hcl hI0 K hK=>?_,?_⟩
    · obtain ⟨⟨p28,c28,p31,c31⟩,hI⟩:=hI0
      have hWd:=hW18.below hI.1.bel
      have k0:a1.tmps.getD 5 undef=.pointer (some ⟨B17,0,none⟩):=((hI.1.outer 5 (by kernel_rfl)).trans ho5)
      go_simp
      exact hK _ _ (DMz.pure hDS hDB hI (i:=2) (t:=26) (by decide) rfl hS (Below.refl _ _) (by kernel_rfl) (by kernel_rfl) rfl)
    refine ⟨fun S a1 w1 hS hd hcl hI0 K hK=>?_,?_⟩
    · obtain ⟨⟨p28,c28,p31,c31⟩,hI⟩:=hI0
      have hWd:=hW18.below hI.1.bel
      have k0:a1.tmps.getD 26 undef=.pointer (some ⟨B17,1,none⟩):=(hI.1.vals (2,26) (by decide) (hd.at 2 (by kernel_rfl)) _ rfl)
      have c1:w1.cell? ⟨B17,1,none⟩=some (.slice f1.pP x.params.length f1.cP):=cellOf (hWd.get 0 rfl) 1 _ rfl
      go_simp
      exact hK _ _ (DMz.pure hDS hDB hI (i:=3) (t:=27) (by decide) rfl hS (Below.refl _ _) (by kernel_rfl) (by kernel_rfl) rfl)
    refine ⟨fun S a1 w1 hS hd hcl hI0 K hK=>?_,?_⟩
    · obtain ⟨⟨p28,c28,p31,c31⟩,hI⟩:=hI0
      have hWd:=hW18.below hI.1.bel
      have k0:a1.tmps.getD 27 undef=.slice f1.pP x.params.length f1.cP:=(hI.1.vals (3,27) (by decide) (hd.at 3 (by kernel_rfl)) _ rfl)
      go_simp
      refine (rOwnTypes_any (Lay.below In1.out.params hWd.bel) hs1.out.2.1).mono ?_
      rintro e w9 ⟨p28n,c28n,rfl,h9,hb⟩
      refine hK _ _ (DMz.call hDS hDB hI (z':=(p28n,c28n,p31,c31)) (i:=4) (t:=28) (by decide) rfl hS hcl hb (by kernel_rfl) (by kernel_rfl) [7,8,10] (by kernel_rfl) ?_ ?_ ?_)
      · intro x hx;simp only [List.mem_cons,List.not_mem_nil,or_false] at hx;rcases hx with rfl | rfl | rfl | rfl | rfl | rfl | rfl | rfl | rfl
        all_goals first | exact .inr (.inr rfl) | exact .inl (by decide) | exact .inr (.inl rfl)
      · intro x hx;simp only [List.mem_cons,List.not_mem_nil,or_false] at hx;rcases hx with rfl
        all_goals exact .inl (by decide)
      · intro x hx;simp only [List.mem_cons,List.not_mem_nil,or_false] at hx;rcases hx with rfl | rfl
        · exact .inl ⟨rfl,fun k=>w1.heap.size≤k∧k<w9.heap.size,Lay.mono h9 (fun k hk hl=>⟨hk,hl⟩),fun k hk=>hk⟩
        · exact .inr ⟨show (7:Nat)≠4 from by decide,fun w O h=>h⟩
    refine ⟨fun S a1 w1 hS hd hcl hI0 K hK=>?_,?_⟩
    · obtain ⟨⟨p28,c28,p31,c31⟩,hI⟩:=hI0
      have hWd:=hW18.below hI.1.bel
      have k0:a1.tmps.getD 5 undef=.pointer (some ⟨B17,0,none⟩):=((hI.1.outer 5 (by kernel_rfl)).trans ho5)
      go_simp
      exact hK _ _ (DMz.pure hDS hDB hI (i:=5) (t:=29) (by decide) rfl hS (Below.refl _ _) (by kernel_rfl) (by kernel_rfl) rfl)
    refine ⟨fun S a1 w1 hS hd hcl hI0 K hK=>?_,?_⟩
    · obtain ⟨⟨p28,c28,p31,c31⟩,hI⟩:=hI0
      have hWd:=hW18.below hI.1.bel
      have k0:a1.tmps.getD 29 undef=.pointer (some ⟨B17,2,none⟩):=(hI.1.vals (5,29) (by decide) (hd.at 5 (by kernel_rfl)) _ rfl)
      have c2:w1.cell? ⟨B17,2,none⟩=some (.slice f1.pR x.results.length f1.cR):=cellOf (hWd.get 0 rfl) 2 _ rfl
      go_simp
      exact hK _ _ (DMz.pure hDS hDB hI (i:=6) (t:=30) (by decide) rfl hS (Below.refl _ _) (by kernel_rfl) (by kernel_rfl) rfl)
    refine ⟨fun S a1 w1 hS hd hcl hI0 K hK=>?_,?_⟩
    · obtain ⟨⟨p28,c28,p31,c31⟩,hI⟩:=hI0
      have hWd:=hW18.below hI.1.bel
      have k0:a1.tmps.getD 30 undef=.slice f1.pR x.results.length f1.cR:=(hI.1.vals (6,30) (by decide) (hd.at 6 (by kernel_rfl)) _ rfl)
      go_simp
      refine (rOwnTypes_any (Lay.below In1.out.results hWd.bel) hs1.out.2.2.1).mono ?_
      rintro e w9 ⟨p31n,c31n,rfl,h9,hb⟩
      refine hK _ _ (DMz.call hDS hDB hI (z':=(p28,c28,p31n,c31n)) (i:=7) (t:=31) (by decide) rfl hS hcl hb (by kernel_rfl) (by kernel_rfl) [8,10] (by kernel_rfl) ?_ ?_ ?_)
      · intro x hx;simp only [List.mem_cons,List.not_mem_nil,or_false] at hx;rcases hx with rfl | rfl | rfl | rfl | rfl | rfl | rfl | rfl | rfl
        all_goals first | exact .inr (.inr rfl) | exact .inl (by decide) | exact .inr (.inl rfl)
      · intro x hx;simp only [List.mem_cons,List.not_mem_nil,or_false] at hx;rcases hx with rfl
        all_goals exact .inl (by decide)
      · intro x hx;simp only [List.mem_cons,List.not_mem_nil,or_false] at hx;rcases hx with rfl | rfl
        · exact .inr ⟨show (4:Nat)≠7 from by decide,fun w O h=>h⟩
        · exact .inl ⟨rfl,fun k=>w1.heap.size≤k∧k<w9.heap.size,Lay.mono h9 (fun k hk hl=>⟨hk,hl⟩),fun k hk=>hk⟩
    refine ⟨fun S a1 w1 hS hd hcl hI0 K hK=>?_,?_⟩
    · obtain ⟨⟨p28,c28,p31,c31⟩,hI⟩:=hI0
      have hWd:=hW18.below hI.1.bel
      have k0:a1.tmps[25]?.getD undef=.int .i64 x.regs:=by rw [← Array.getD_eq_getD_getElem?];exact (hI.1.vals (1,25) (by decide) (hd.at 1 (by kernel_rfl)) _ rfl)
      have k1:a1.tmps[28]?.getD undef=.slice p28 x.params.length c28:=by rw [← Array.getD_eq_getD_getElem?];exact (hI.1.vals (4,28) (by decide) (hd.at 4 (by kernel_rfl)) _ rfl)
      have k2:a1.tmps[31]?.getD undef=.slice p31 x.results.length c31:=by rw [← Array.getD_eq_getD_getElem?];exact (hI.1.vals (7,31) (by decide) (hd.at 7 (by kernel_rfl)) _ rfl)
      go_simp
      exact hK _ _ (DMz.pure hDS hDB hI (i:=8) (t:=32) (by decide) rfl hS (Below.refl _ _) (by kernel_rfl) (by kernel_rfl) rfl)
    refine ⟨fun S a1 w1 hS hd hcl hI0 K hK=>?_,?_⟩
    · obtain ⟨⟨p28,c28,p31,c31⟩,hI⟩:=hI0
      go_simp
      exact hK _ _ (DMz.alloc hDS hDB hI (i:=9) (t:=6) (s:=4) (ty:=42) (by decide) rfl hS hcl (by kernel_rfl) (by kernel_rfl) rfl)
    refine ⟨fun S a1 w1 hS hd hcl hI0 K hK=>?_,?_⟩
    · obtain ⟨⟨p28,c28,p31,c31⟩,hI⟩:=hI0
      have k0:a1.tmps.getD 32 undef=.agg #[.int .i64 x.regs,.slice p28 x.params.length c28,.slice p31 x.results.length c31,.slice none 0 0]:=(hI.1.vals (8,32) (by decide) (hd.at 8 (by kernel_rfl)) _ rfl)
      obtain ⟨B,kB,hlo,c0,hBk,hcs⟩:=hI.1.box (i:=9) (t:=6) (s:=4) (ty:=42) (by decide) (hd.at 9 (by kernel_rfl))
      exact wp_fill hBk kB k0 infFunc rfl hcs.symm (hK _ _ (DMz.store hDS hDB hI (i:=10) (t:=6) (s:=4) (ty:=42) (j:=9) (by decide) (by decide) (hd.at 9 (by kernel_rfl)) kB hBk hcs hlo rfl rfl hS hcl (by kernel_rfl) (by kernel_rfl) rfl))
    trivial
   case hend =>
    rintro ⟨p28,c28,p31,c31⟩ S a22 w22 hS hD hFD
    obtain ⟨BD6,hd6,hBl6,hBk6⟩:=hD.1.full (j:=9) (i:=10) (t:=6) (s:=4) (ty:=42) (by decide) (hS _ (by decide)) (by decide) (hS _ (by decide)) rfl
    have hF22:Fr 110 a22 [(6,.pointer (some ⟨BD6,0,none⟩)),(0,.agg #[.slice p m.length c]),(1,.pointer (some ⟨B2,0,none⟩)),(2,.pointer (some ⟨B3,0,none⟩)),(3,.pointer (some ⟨B6,0,none⟩)),(4,.int .i64 (q1:Int)),(5,.pointer (some ⟨B17,0,none⟩))]:=(hFD.cons hd6)
    obtain ⟨O9,hN28,hO9⟩:=hD.2 _ List.mem_cons_self (hS 4 (by decide))
    replace hN28:=Lay.mono (show (typesL n).In _ _ x.params [.slice p28 x.params.length c28] from hN28) (O':=fun k=>w18.heap.size≤k∧k<w22.heap.size∧k≠BD6) (fun k hk _=>⟨(hO9.1 k hk).1,(hO9.1 k hk).2,fun e=>hO9.2 (9,6,4,42) (by decide) (hS _ (by decide)) BD6 hd6 (e ▸ hk)⟩)
    clear hO9
    obtain ⟨O9,hN31,hO9⟩:=hD.2 _ (List.mem_cons_of_mem _ List.mem_cons_self) (hS 7 (by decide))
    replace hN31:=Lay.mono (show (typesL n).In _ _ x.results [.slice p31 x.results.length c31] from hN31) (O':=fun k=>w18.heap.size≤k∧k<w22.heap.size∧k≠BD6) (fun k hk _=>⟨(hO9.1 k hk).1,(hO9.1 k hk).2,fun e=>hO9.2 (9,6,4,42) (by decide) (hS _ (by decide)) BD6 hd6 (e ▸ hk)⟩)
    clear hO9
    have hsD:w18.heap.size≤w22.heap.size:=hD.1.bel.size
    have hW22:Wd w11 w22 [(BD6,#[.int .i64 x.regs,.slice p28 x.params.length c28,.slice p31 x.results.length c31,.slice none 0 0],42),(B17,#[.int .i64 x.regs,.slice f1.pP x.params.length f1.cP,.slice f1.pR x.results.length f1.cR,.slice f1.pB x.blocks.length f1.cB],42)]:=Wd.add (hW18.below hD.1.bel) hBk6 hW18 hBl6
    have hsd2:w11.heap.size≤w18.heap.size:=hW18.bel.size
    clear hS hD hFD hDS hW18 hd6
    clear hBk6
    refine hK20 _ _ ?_
    refine wp_seq_k fun K23 hK23=>?_
    refine wp_seq_k fun K24 hK24=>?_
    refine rg hF22 fun ops=>?_;clear hF22 a22
    refine sa trivial rfl rfl ?_
    refine St.nil fun a25 h25=>?_
    refine hK24 _ _ ?_
    refine wp_block ?_
    have hlo2:w11.heap.size≤w22.heap.size:=hW22.bel.size
    have hlBD6:BD6<w22.heap.size:=(hW22.get 0 rfl).lt
    have hlB17:B17<w22.heap.size:=(hW22.get 1 rfl).lt
    refine fr_loop (fun r a w'=>∃ q2:Nat,q2≤x.blocks.length∧r=x.blocks.length - q2∧∃ v2 xs,ARow (blockL n) 52 w' w22.heap.size v2 (x.blocks.take q2) xs∧KeepBut w22.heap.size BD6 w22 w'∧w22.heap.size≤w'.heap.size∧Fr 110 a [(0,.agg #[.slice p m.length c]),(1,.pointer (some ⟨B2,0,none⟩)),(2,.pointer (some ⟨B3,0,none⟩)),(3,.pointer (some ⟨B6,0,none⟩)),(4,.int .i64 (q1:Int)),(5,.pointer (some ⟨B17,0,none⟩)),(6,.pointer (some ⟨BD6,0,none⟩)),(7,.int .i64 (q2:Int))]∧Wd w11 w' [(BD6,#[.int .i64 x.regs,.slice p28 x.params.length c28,.slice p31 x.results.length c31,v2],42),(B17,#[.int .i64 x.regs,.slice f1.pP x.params.length f1.cP,.slice f1.pR x.results.length f1.cR,.slice f1.pB x.blocks.length f1.cB],42)]) (x.blocks.length) ⟨0,Nat.zero_le _,rfl,.slice none 0 0,[],ARow.nil' _ _ _ _,KeepBut.refl _ _ _,Nat.le_refl _,(h25.keep (h25.keep (h25.keep (h25.keep (h25.keep (h25.keep (h25.keep (h25.keep h25.nil (t:=7) rfl) (t:=6) rfl) (t:=5) rfl) (t:=4) rfl) (t:=3) rfl) (t:=2) rfl) (t:=1) rfl) (t:=0) rfl),hW22⟩ ?_
    clear h25 hW22
    rintro r2 a26 w26 ⟨q2,hq2,hr2,v2,xs2,hA0,hK0,hz2,hF26,hWo2⟩ KL2 hKL2
    have hA2:Hid _:=hA0
    have hK2:Hid _:=hK0
    clear hA0 hK0
    have hW26:=Wd.start w26
    have hkBD6:Hid (Blk w26 BD6 #[.int .i64 x.regs,.slice p28 x.params.length c28,.slice p31 x.results.length c31,v2] 42):=hWo2.get 0 rfl
    have hkB17:Hid (Blk w26 B17 #[.int .i64 x.regs,.slice f1.pP x.params.length f1.cP,.slice f1.pR x.results.length f1.cR,.slice f1.pB x.blocks.length f1.cB] 42):=hWo2.get 1 rfl
    refine wp_seq_k fun K27 hK27=>?_
    refine wp_seq_k fun K28 hK28=>?_
    refine rg hF26 fun ops=>?_;clear hF26 a26
    refine sm trivial rfl rfl ?_
    refine sfFunc3 trivial rfl rfl ?_
    refine scBlocks (bel_cell hW26.bel (cellOf hkB17.out 3 _ rfl)) trivial rfl rfl ?_
    refine slBlocks trivial rfl rfl ?_
    refine slt trivial rfl rfl rfl ?_
    refine St.nil fun a29 h29=>?_
    refine hK28 _ _ ?_
    refine fr_cond (t:=37) h29 rfl (fun hb=>?_) (fun hb=>?_)
    ·have hlt2:q2<x.blocks.length:=by have:=of_decide_eq_true hb;omega
     clear hb
     obtain ⟨y,hx2⟩:∃ v9,(x.blocks)[q2]?=some v9:=⟨_,List.getElem?_eq_getElem hlt2⟩
     obtain ⟨g2,o2,b2,hp2,E2,In2⟩:=block_at (Lay.below In1.out.blocks hWo2.bel) hx2
     replace In2:Hid _:=In2
     replace hp2:Hid _:=hp2
     replace hx2:Hid _:=hx2
     replace E2:Hid _:=E2
     have hs2:Hid _:=hs1.out.2.2.2 y (List.mem_of_getElem? hx2.out)
     have hn3:=hs2.out.1
     refine wp_skip ?_
     refine hK27 _ _ ?_
     refine wp_seq_k fun K30 hK30=>?_
     refine wp_block ?_
     refine wp_seq_k fun K31 hK31=>?_
     refine rg h29 fun ops=>?_;clear h29 a29
     refine sfFunc3 trivial rfl rfl ?_
     refine scBlocks (bel_cell hW26.bel (cellOf hkB17.out 3 _ rfl)) trivial rfl rfl ?_
     refine sm trivial rfl rfl ?_
     refine siBlocks hp2.out hlt2 trivial rfl rfl rfl ?_
     refine sSE Tryz.underlying52 rfl (rangeAt_bel E2.out hW26.bel) infBlock trivial rfl rfl ?_
     refine sABlock hW26 trivial rfl ?_
     clear hW26;intro w32 B32 hW32 hN;clear hN
     refine sT 0 hW32 rfl rfl infBlock rfl rfl rfl ?_
     clear hW32;intro w33 hW33
     refine St.nil fun a34 h34=>?_
     refine hK31 _ _ ?_
     refine wp_seq_k fun K35 hK35=>?_
     have hF36:Fr 110 a34 [(0,.agg #[.slice p m.length c]),(1,.pointer (some ⟨B2,0,none⟩)),(2,.pointer (some ⟨B3,0,none⟩)),(3,.pointer (some ⟨B6,0,none⟩)),(4,.int .i64 (q1:Int)),(5,.pointer (some ⟨B17,0,none⟩)),(6,.pointer (some ⟨BD6,0,none⟩)),(7,.int .i64 (q2:Int)),(8,.pointer (some ⟨B32,0,none⟩))]:=(h34.keep (h34.keep (h34.keep (h34.keep (h34.keep (h34.keep (h34.keep (h34.keep (h34.keep h34.nil (t:=8) rfl) (t:=7) rfl) (t:=6) rfl) (t:=5) rfl) (t:=4) rfl) (t:=3) rfl) (t:=2) rfl) (t:=1) rfl) (t:=0) rfl)
     have ho8:a34.tmps.getD 8 undef=.pointer (some ⟨B32,0,none⟩):=h34.sl 8 _ rfl
     have hDS:DStable (Z:=Option Addr × Nat) [(4,fun z w O=>(typesL n).In w O y.params [.slice z.1 y.params.length z.2])]:=by
       intro x hx
       simp only [List.mem_cons,List.not_mem_nil,or_false] at hx
       rcases hx with rfl
       · intro z w w9 O hk h;exact (typesL n).keep hk (fun _ h _=>h) h
     refine fr_draw4 (Z:=Option Addr × Nat) [(0,45),(1,46),(2,47),(3,48),(4,49),(5,50)] [(6,9,12,52)] [(7,9,12,52)] (fun z=>[(45,.pointer (some ⟨B32,0,none⟩)),(46,.int .i64 y.regs),(47,.pointer (some ⟨B32,1,none⟩)),(48,.slice b2.pP y.params.length b2.cP),(49,.slice z.1 y.params.length z.2),(50,.agg #[.int .i64 y.regs,.slice z.1 y.params.length z.2,.slice none 0 0,.int .i64 0,.int .i64 0,.int .i64 0,.slice none 0 0,.slice none 0 0,.int .i64 0,.slice none 0 0,.slice none 0 0,.slice none 0 0])]) (fun z=>[(9,[.int .i64 y.regs,.slice z.1 y.params.length z.2,.slice none 0 0,.int .i64 0,.int .i64 0,.int .i64 0,.slice none 0 0,.slice none 0 0,.int .i64 0,.slice none 0 0,.slice none 0 0,.slice none 0 0])]) [(4,fun z w O=>(typesL n).In w O y.params [.slice z.1 y.params.length z.2])] (none,0) (by kernel_rfl) hF36 (by kernel_rfl) (by kernel_rfl) (fun hDB=>?hst) ?hend
     case hst =>
      refine ⟨fun S a1 w1 hS hd hcl hI0 K hK=>?_,?_⟩
      · obtain ⟨⟨p49,c49⟩,hI⟩:=hI0
        have hWd:=hW33.below hI.1.bel
        have k0:a1.tmps.getD 8 undef=.pointer (some ⟨B32,0,none⟩):=((hI.1.outer 8 (by kernel_rfl)).trans ho8)
        go_simp
        exact hK _ _ (DMz.pure hDS hDB hI (i:=0) (t:=45) (by decide) rfl hS (Below.refl _ _) (by kernel_rfl) (by kernel_rfl) rfl)
      refine ⟨fun S a1 w1 hS hd hcl hI0 K hK=>?_,?_⟩
      · obtain ⟨⟨p49,c49⟩,hI⟩:=hI0
        have hWd:=hW33.below hI.1.bel
        have k0:a1.tmps.getD 45 undef=.pointer (some ⟨B32,0,none⟩):=(hI.1.vals (0,45) (by decide) (hd.at 0 (by kernel_rfl)) _ rfl)
        have c0:w1.cell? ⟨B32,0,none⟩=some (.int .i64 y.regs):=cellOf (hWd.get 0 rfl) 0 _ rfl
        go_simp
        exact hK _ _ (DMz.pure hDS hDB hI (i:=1) (t:=46) (by decide) rfl hS (Below.refl _ _) (by kernel_rfl) (by kernel_rfl) rfl)
      refine ⟨fun S a1 w1 hS hd hcl hI0 K hK=>?_,?_⟩
      · obtain ⟨⟨p49,c49⟩,hI⟩:=hI0
        have hWd:=hW33.below hI.1.bel
        have k0:a1.tmps.getD 8 undef=.pointer (some ⟨B32,0,none⟩):=((hI.1.outer 8 (by kernel_rfl)).trans ho8)
        go_simp
        exact hK _ _ (DMz.pure hDS hDB hI (i:=2) (t:=47) (by decide) rfl hS (Below.refl _ _) (by kernel_rfl) (by kernel_rfl) rfl)
      refine ⟨fun S a1 w1 hS hd hcl hI0 K hK=>?_,?_⟩
      · obtain ⟨⟨p49,c49⟩,hI⟩:=hI0
        have hWd:=hW33.below hI.1.bel
        have k0:a1.tmps.getD 47 undef=.pointer (some ⟨B32,1,none⟩):=(hI.1.vals (2,47) (by decide) (hd.at 2 (by kernel_rfl)) _ rfl)
        have c1:w1.cell? ⟨B32,1,none⟩=some (.slice b2.pP y.params.length b2.cP):=cellOf (hWd.get 0 rfl) 1 _ rfl
        go_simp
        exact hK _ _ (DMz.pure hDS hDB hI (i:=3) (t:=48) (by decide) rfl hS (Below.refl _ _) (by kernel_rfl) (by kernel_rfl) rfl)
      refine ⟨fun S a1 w1 hS hd hcl hI0 K hK=>?_,?_⟩
      · obtain ⟨⟨p49,c49⟩,hI⟩:=hI0
        have hWd:=hW33.below hI.1.bel
        have k0:a1.tmps.getD 48 undef=.slice b2.pP y.params.length b2.cP:=(hI.1.vals (3,48) (by decide) (hd.at 3 (by kernel_rfl)) _ rfl)
        go_simp
        refine (rOwnTypes_any (Lay.below In2.out.params hWd.bel) hs2.out.2.1).mono ?_
        rintro e w9 ⟨p49n,c49n,rfl,h9,hb⟩
        refine hK _ _ (DMz.call hDS hDB hI (z':=(p49n,c49n)) (i:=4) (t:=49) (by decide) rfl hS hcl hb (by kernel_rfl) (by kernel_rfl) [5,7] (by kernel_rfl) ?_ ?_ ?_)
        · intro x hx;simp only [List.mem_cons,List.not_mem_nil,or_false] at hx;rcases hx with rfl | rfl | rfl | rfl | rfl | rfl
          all_goals first | exact .inr (.inr rfl) | exact .inl (by decide) | exact .inr (.inl rfl)
        · intro x hx;simp only [List.mem_cons,List.not_mem_nil,or_false] at hx;rcases hx with rfl
          all_goals exact .inl (by decide)
        · intro x hx;simp only [List.mem_cons,List.not_mem_nil,or_false] at hx;rcases hx with rfl
          · exact .inl ⟨rfl,fun k=>w1.heap.size≤k∧k<w9.heap.size,Lay.mono h9 (fun k hk hl=>⟨hk,hl⟩),fun k hk=>hk⟩
      refine ⟨fun S a1 w1 hS hd hcl hI0 K hK=>?_,?_⟩
      · obtain ⟨⟨p49,c49⟩,hI⟩:=hI0
        have hWd:=hW33.below hI.1.bel
        have k0:a1.tmps[46]?.getD undef=.int .i64 y.regs:=by rw [← Array.getD_eq_getD_getElem?];exact (hI.1.vals (1,46) (by decide) (hd.at 1 (by kernel_rfl)) _ rfl)
        have k1:a1.tmps[49]?.getD undef=.slice p49 y.params.length c49:=by rw [← Array.getD_eq_getD_getElem?];exact (hI.1.vals (4,49) (by decide) (hd.at 4 (by kernel_rfl)) _ rfl)
        go_simp
        exact hK _ _ (DMz.pure hDS hDB hI (i:=5) (t:=50) (by decide) rfl hS (Below.refl _ _) (by kernel_rfl) (by kernel_rfl) rfl)
      refine ⟨fun S a1 w1 hS hd hcl hI0 K hK=>?_,?_⟩
      · obtain ⟨⟨p49,c49⟩,hI⟩:=hI0
        go_simp
        exact hK _ _ (DMz.alloc hDS hDB hI (i:=6) (t:=9) (s:=12) (ty:=52) (by decide) rfl hS hcl (by kernel_rfl) (by kernel_rfl) rfl)
      refine ⟨fun S a1 w1 hS hd hcl hI0 K hK=>?_,?_⟩
      · obtain ⟨⟨p49,c49⟩,hI⟩:=hI0
        have k0:a1.tmps.getD 50 undef=.agg #[.int .i64 y.regs,.slice p49 y.params.length c49,.slice none 0 0,.int .i64 0,.int .i64 0,.int .i64 0,.slice none 0 0,.slice none 0 0,.int .i64 0,.slice none 0 0,.slice none 0 0,.slice none 0 0]:=(hI.1.vals (5,50) (by decide) (hd.at 5 (by kernel_rfl)) _ rfl)
        obtain ⟨B,kB,hlo,c0,hBk,hcs⟩:=hI.1.box (i:=6) (t:=9) (s:=12) (ty:=52) (by decide) (hd.at 6 (by kernel_rfl))
        exact wp_fill hBk kB k0 infBlock rfl hcs.symm (hK _ _ (DMz.store hDS hDB hI (i:=7) (t:=9) (s:=12) (ty:=52) (j:=6) (by decide) (by decide) (hd.at 6 (by kernel_rfl)) kB hBk hcs hlo rfl rfl hS hcl (by kernel_rfl) (by kernel_rfl) rfl))
      trivial
     case hend =>
      rintro ⟨p49,c49⟩ S a37 w37 hS hD hFD
      obtain ⟨BD9,hd9,hBl9,hBk9⟩:=hD.1.full (j:=6) (i:=7) (t:=9) (s:=12) (ty:=52) (by decide) (hS _ (by decide)) (by decide) (hS _ (by decide)) rfl
      have hF37:Fr 110 a37 [(9,.pointer (some ⟨BD9,0,none⟩)),(0,.agg #[.slice p m.length c]),(1,.pointer (some ⟨B2,0,none⟩)),(2,.pointer (some ⟨B3,0,none⟩)),(3,.pointer (some ⟨B6,0,none⟩)),(4,.int .i64 (q1:Int)),(5,.pointer (some ⟨B17,0,none⟩)),(6,.pointer (some ⟨BD6,0,none⟩)),(7,.int .i64 (q2:Int)),(8,.pointer (some ⟨B32,0,none⟩))]:=(hFD.cons hd9)
      obtain ⟨O9,hN49,hO9⟩:=hD.2 _ List.mem_cons_self (hS 4 (by decide))
      replace hN49:=Lay.mono (show (typesL n).In _ _ y.params [.slice p49 y.params.length c49] from hN49) (O':=fun k=>w33.heap.size≤k∧k<w37.heap.size∧k≠BD9) (fun k hk _=>⟨(hO9.1 k hk).1,(hO9.1 k hk).2,fun e=>hO9.2 (6,9,12,52) (by decide) (hS _ (by decide)) BD9 hd9 (e ▸ hk)⟩)
      clear hO9
      have hsD:w33.heap.size≤w37.heap.size:=hD.1.bel.size
      have hW37:Wd w26 w37 [(BD9,#[.int .i64 y.regs,.slice p49 y.params.length c49,.slice none 0 0,.int .i64 0,.int .i64 0,.int .i64 0,.slice none 0 0,.slice none 0 0,.int .i64 0,.slice none 0 0,.slice none 0 0,.slice none 0 0],52),(B32,#[.int .i64 y.regs,.slice b2.pP y.params.length b2.cP,.slice b2.pC y.code.length b2.cC,.int .i64 y.fin.op,.int .i64 y.fin.a,.int .i64 y.fin.yes.block,.slice b2.e.pYR y.fin.yes.regs.length b2.e.cYR,.slice b2.e.pYA y.fin.yes.args.length b2.e.cYA,.int .i64 y.fin.no.block,.slice b2.e.pNR y.fin.no.regs.length b2.e.cNR,.slice b2.e.pNA y.fin.no.args.length b2.e.cNA,.slice b2.e.pA y.fin.args.length b2.e.cA],52)]:=Wd.add (hW33.below hD.1.bel) hBk9 hW33 hBl9
      have hsd3:w26.heap.size≤w33.heap.size:=hW33.bel.size
      clear hS hD hFD hDS hW33 hd9
      clear hBk9
      refine hK35 _ _ ?_
      refine wp_seq_k fun K38 hK38=>?_
      refine wp_seq_k fun K39 hK39=>?_
      refine rg hF37 fun ops=>?_;clear hF37 a37
      refine sa trivial rfl rfl ?_
      refine St.nil fun a40 h40=>?_
      refine hK39 _ _ ?_
      refine wp_block ?_
      have hlo3:w26.heap.size≤w37.heap.size:=hW37.bel.size
      have hlBD9:BD9<w37.heap.size:=(hW37.get 0 rfl).lt
      have hlB32:B32<w37.heap.size:=(hW37.get 1 rfl).lt
      refine fr_loop (fun r a w'=>∃ q3:Nat,q3≤y.code.length∧r=y.code.length - q3∧∃ v3 xs,ARow insL 45 w' w37.heap.size v3 (y.code.take q3) xs∧KeepBut w37.heap.size BD9 w37 w'∧w37.heap.size≤w'.heap.size∧Fr 110 a [(0,.agg #[.slice p m.length c]),(1,.pointer (some ⟨B2,0,none⟩)),(2,.pointer (some ⟨B3,0,none⟩)),(3,.pointer (some ⟨B6,0,none⟩)),(4,.int .i64 (q1:Int)),(5,.pointer (some ⟨B17,0,none⟩)),(6,.pointer (some ⟨BD6,0,none⟩)),(7,.int .i64 (q2:Int)),(8,.pointer (some ⟨B32,0,none⟩)),(9,.pointer (some ⟨BD9,0,none⟩)),(10,.int .i64 (q3:Int))]∧Wd w26 w' [(BD9,#[.int .i64 y.regs,.slice p49 y.params.length c49,v3,.int .i64 0,.int .i64 0,.int .i64 0,.slice none 0 0,.slice none 0 0,.int .i64 0,.slice none 0 0,.slice none 0 0,.slice none 0 0],52),(B32,#[.int .i64 y.regs,.slice b2.pP y.params.length b2.cP,.slice b2.pC y.code.length b2.cC,.int .i64 y.fin.op,.int .i64 y.fin.a,.int .i64 y.fin.yes.block,.slice b2.e.pYR y.fin.yes.regs.length b2.e.cYR,.slice b2.e.pYA y.fin.yes.args.length b2.e.cYA,.int .i64 y.fin.no.block,.slice b2.e.pNR y.fin.no.regs.length b2.e.cNR,.slice b2.e.pNA y.fin.no.args.length b2.e.cNA,.slice b2.e.pA y.fin.args.length b2.e.cA],52)]) (y.code.length) ⟨0,Nat.zero_le _,rfl,.slice none 0 0,[],ARow.nil' _ _ _ _,KeepBut.refl _ _ _,Nat.le_refl _,(h40.keep (h40.keep (h40.keep (h40.keep (h40.keep (h40.keep (h40.keep (h40.keep (h40.keep (h40.keep (h40.keep h40.nil (t:=10) rfl) (t:=9) rfl) (t:=8) rfl) (t:=7) rfl) (t:=6) rfl) (t:=5) rfl) (t:=4) rfl) (t:=3) rfl) (t:=2) rfl) (t:=1) rfl) (t:=0) rfl),hW37⟩ ?_
      clear h40 hW37
      rintro r3 a41 w41 ⟨q3,hq3,hr3,v3,xs3,hA0,hK0,hz3,hF41,hWo3⟩ KL3 hKL3
      have hA3:Hid _:=hA0
      have hK3:Hid _:=hK0
      clear hA0 hK0
      have hW41:=Wd.start w41
      have hkBD9:Hid (Blk w41 BD9 #[.int .i64 y.regs,.slice p49 y.params.length c49,v3,.int .i64 0,.int .i64 0,.int .i64 0,.slice none 0 0,.slice none 0 0,.int .i64 0,.slice none 0 0,.slice none 0 0,.slice none 0 0] 52):=hWo3.get 0 rfl
      have hkB32:Hid (Blk w41 B32 #[.int .i64 y.regs,.slice b2.pP y.params.length b2.cP,.slice b2.pC y.code.length b2.cC,.int .i64 y.fin.op,.int .i64 y.fin.a,.int .i64 y.fin.yes.block,.slice b2.e.pYR y.fin.yes.regs.length b2.e.cYR,.slice b2.e.pYA y.fin.yes.args.length b2.e.cYA,.int .i64 y.fin.no.block,.slice b2.e.pNR y.fin.no.regs.length b2.e.cNR,.slice b2.e.pNA y.fin.no.args.length b2.e.cNA,.slice b2.e.pA y.fin.args.length b2.e.cA] 52):=hWo3.get 1 rfl
      refine wp_seq_k fun K42 hK42=>?_
      refine wp_seq_k fun K43 hK43=>?_
      refine rg hF41 fun ops=>?_;clear hF41 a41
      refine sm trivial rfl rfl ?_
      refine sfBlock2 trivial rfl rfl ?_
      refine scInss (bel_cell hW41.bel (cellOf hkB32.out 2 _ rfl)) trivial rfl rfl ?_
      refine slInss trivial rfl rfl ?_
      refine slt trivial rfl rfl rfl ?_
      refine St.nil fun a44 h44=>?_
      refine hK43 _ _ ?_
      refine fr_cond (t:=55) h44 rfl (fun hb=>?_) (fun hb=>?_)
      ·have hlt3:q3<y.code.length:=by have:=of_decide_eq_true hb;omega
       clear hb
       obtain ⟨z,hx3⟩:∃ v9,(y.code)[q3]?=some v9:=⟨_,List.getElem?_eq_getElem hlt3⟩
       obtain ⟨g3,o3,i3,hp3,E3,In3⟩:=ins_at (Lay.below In2.out.code hWo3.bel) hx3
       replace In3:Hid _:=In3
       replace hp3:Hid _:=hp3
       replace hx3:Hid _:=hx3
       replace E3:Hid _:=E3
       have hs3:Hid _:=hs2.out.2.2.2 z (List.mem_of_getElem? hx3.out)
       refine wp_skip ?_
       refine hK42 _ _ ?_
       refine wp_seq_k fun K45 hK45=>?_
       refine wp_block ?_
       refine wp_seq_k fun K46 hK46=>?_
       refine rg h44 fun ops=>?_;clear h44 a44
       refine sfBlock2 trivial rfl rfl ?_
       refine scInss (bel_cell hW41.bel (cellOf hkB32.out 2 _ rfl)) trivial rfl rfl ?_
       refine sm trivial rfl rfl ?_
       refine siInss hp3.out hlt3 trivial rfl rfl rfl ?_
       refine sSE Tryz.underlying45 rfl (rangeAt_bel E3.out hW41.bel) infIns trivial rfl rfl ?_
       refine sAIns hW41 trivial rfl ?_
       clear hW41;intro w47 B47 hW47 hN;clear hN
       refine sT 0 hW47 rfl rfl infIns rfl rfl rfl ?_
       clear hW47;intro w48 hW48
       refine St.nil fun a49 h49=>?_
       refine hK46 _ _ ?_
       refine wp_seq_k fun K50 hK50=>?_
       have hF51:Fr 110 a49 [(0,.agg #[.slice p m.length c]),(1,.pointer (some ⟨B2,0,none⟩)),(2,.pointer (some ⟨B3,0,none⟩)),(3,.pointer (some ⟨B6,0,none⟩)),(4,.int .i64 (q1:Int)),(5,.pointer (some ⟨B17,0,none⟩)),(6,.pointer (some ⟨BD6,0,none⟩)),(7,.int .i64 (q2:Int)),(8,.pointer (some ⟨B32,0,none⟩)),(9,.pointer (some ⟨BD9,0,none⟩)),(10,.int .i64 (q3:Int)),(11,.pointer (some ⟨B47,0,none⟩))]:=(h49.keep (h49.keep (h49.keep (h49.keep (h49.keep (h49.keep (h49.keep (h49.keep (h49.keep (h49.keep (h49.keep (h49.keep h49.nil (t:=11) rfl) (t:=10) rfl) (t:=9) rfl) (t:=8) rfl) (t:=7) rfl) (t:=6) rfl) (t:=5) rfl) (t:=4) rfl) (t:=3) rfl) (t:=2) rfl) (t:=1) rfl) (t:=0) rfl)
       have ho11:a49.tmps.getD 11 undef=.pointer (some ⟨B47,0,none⟩):=h49.sl 11 _ rfl
       refine fr_draw_k 7 ([(11,fun v _=>v=.pointer (some ⟨B47,0,none⟩)),(63,fun v _=>v=.pointer (some ⟨B47,6,none⟩)),(64,fun v _=>v=.slice i3.pR z.regs.length i3.cR),(65,fun v w'=>∃ p c,v=.slice p z.regs.length c∧intsL.In w' (From w48.heap.size) z.regs [.slice p z.regs.length c]),(66,fun v _=>v=.pointer (some ⟨B47,7,none⟩)),(67,fun v _=>v=.slice i3.pA z.args.length i3.cA),(68,fun v w'=>∃ p c,v=.slice p z.args.length c∧intsL.In w' (From w48.heap.size) z.args [.slice p z.args.length c]),(69,fun v _=>v=.pointer (some ⟨B47,6,none⟩))]:PTab) (fun w'=>Wd w41 w' [(B47,#[.int .i64 z.op,.int .i64 z.a,.int .i64 z.b,.int .i64 z.c,.int .i64 z.k,.int .i64 z.n,.slice i3.pR z.regs.length i3.cR,.slice i3.pA z.args.length i3.cA],45)]∧Below w48.heap.size w48 w') (fun w w'=>Below w.heap.size w w') (outs:=[11]) (gs:=[]) (bs:=[true,true,true,true,true,true,true]) (by kernel_rfl) hF51 rfl (by kernel_rfl) (by kernel_rfl) ?hR ?hG ⟨hW48.drewN 1,drewN_below (m:=1) (Below.refl _ _)⟩ ⟨ho11,trivial⟩ ?hA ?hend
       case hR=>exact ⟨fun _ _ _ _ h=>h,fun _ _ _ _ h=>h,fun _ _ _ _ h=>h,fun v w w' hr h=>by obtain ⟨p,c,h1,h2⟩:=h;exact ⟨p,c,h1,Lay.below h2 hr⟩,fun _ _ _ _ h=>h,fun _ _ _ _ h=>h,fun v w w' hr h=>by obtain ⟨p,c,h1,h2⟩:=h;exact ⟨p,c,h1,Lay.below h2 hr⟩,fun _ _ _ _ h=>h,trivial⟩
       case hG=>exact trivial
       case hA =>
        refine ⟨fun a w hW hk K hK=>?_,?_⟩
        · obtain ⟨k0,-⟩:=hk
          have k0:a.tmps.getD 11 undef=.pointer (some ⟨B47,0,none⟩):=k0
          go_simp
          exact hK _ _ (Below.refl _ _) hW rfl
        refine ⟨fun a w hW hk K hK=>?_,?_⟩
        · obtain ⟨k0,-⟩:=hk
          have k0:a.tmps.getD 63 undef=.pointer (some ⟨B47,6,none⟩):=k0
          have c6:w.cell? ⟨B47,6,none⟩=some (.slice i3.pR z.regs.length i3.cR):=cellOf (hW.1.get 0 rfl) 6 _ rfl
          go_simp
          exact hK _ _ (Below.refl _ _) hW rfl
        refine ⟨fun a w hW hk K hK=>?_,?_⟩
        · obtain ⟨k0,-⟩:=hk
          have k0:a.tmps.getD 64 undef=.slice i3.pR z.regs.length i3.cR:=k0
          go_simp
          refine (rOwnInts_any _ _ _ w (Lay.below In3.out.regs hW.1.bel) (by have:=hs3.out.1;omega)).mono ?_
          rintro e w9 ⟨p9,c9,rfl,h9,hb⟩
          exact hK _ _ hb ⟨hW.1.below hb,Below.andThen hW.2 hb⟩ ⟨p9,c9,rfl,Lay.mono h9 (fun k hk _=>Nat.le_trans hW.2.size hk)⟩
        refine ⟨fun a w hW hk K hK=>?_,?_⟩
        · obtain ⟨k0,-⟩:=hk
          have k0:a.tmps.getD 11 undef=.pointer (some ⟨B47,0,none⟩):=k0
          go_simp
          exact hK _ _ (Below.refl _ _) hW rfl
        refine ⟨fun a w hW hk K hK=>?_,?_⟩
        · obtain ⟨k0,-⟩:=hk
          have k0:a.tmps.getD 66 undef=.pointer (some ⟨B47,7,none⟩):=k0
          have c7:w.cell? ⟨B47,7,none⟩=some (.slice i3.pA z.args.length i3.cA):=cellOf (hW.1.get 0 rfl) 7 _ rfl
          go_simp
          exact hK _ _ (Below.refl _ _) hW rfl
        refine ⟨fun a w hW hk K hK=>?_,?_⟩
        · obtain ⟨k0,-⟩:=hk
          have k0:a.tmps.getD 67 undef=.slice i3.pA z.args.length i3.cA:=k0
          go_simp
          refine (rOwnInts_any _ _ _ w (Lay.below In3.out.args hW.1.bel) (by have:=hs3.out.2;omega)).mono ?_
          rintro e w9 ⟨p9,c9,rfl,h9,hb⟩
          exact hK _ _ hb ⟨hW.1.below hb,Below.andThen hW.2 hb⟩ ⟨p9,c9,rfl,Lay.mono h9 (fun k hk _=>Nat.le_trans hW.2.size hk)⟩
        refine ⟨fun a w hW hk K hK=>?_,?_⟩
        · obtain ⟨k0,-⟩:=hk
          have k0:a.tmps.getD 11 undef=.pointer (some ⟨B47,0,none⟩):=k0
          go_simp
          exact hK _ _ (Below.refl _ _) hW rfl
        trivial
       case hend =>
        intro ops a52 w52 hWD hE hFD
        obtain ⟨p65,c65,hd65,hN65⟩:=hE 65 rfl
        replace hd65:a52.tmps.getD 65 undef=.slice p65 z.regs.length c65:=hd65
        obtain ⟨p68,c68,hd68,hN68⟩:=hE 68 rfl
        replace hd68:a52.tmps.getD 68 undef=.slice p68 z.args.length c68:=hd68
        have hd69:a52.tmps.getD 69 undef=.pointer (some ⟨B47,6,none⟩):=hE 69 rfl
        have hF52:Fr 110 a52 [(69,.pointer (some ⟨B47,6,none⟩)),(68,.slice p68 z.args.length c68),(65,.slice p65 z.regs.length c65),(0,.agg #[.slice p m.length c]),(1,.pointer (some ⟨B2,0,none⟩)),(2,.pointer (some ⟨B3,0,none⟩)),(3,.pointer (some ⟨B6,0,none⟩)),(4,.int .i64 (q1:Int)),(5,.pointer (some ⟨B17,0,none⟩)),(6,.pointer (some ⟨BD6,0,none⟩)),(7,.int .i64 (q2:Int)),(8,.pointer (some ⟨B32,0,none⟩)),(9,.pointer (some ⟨BD9,0,none⟩)),(10,.int .i64 (q3:Int)),(11,.pointer (some ⟨B47,0,none⟩))]:=(((hFD.cons hd65).cons hd68).cons hd69)
        clear hd65 hd68 hd69
        have hW52:Wd w41 w52 [(B47,#[.int .i64 z.op,.int .i64 z.a,.int .i64 z.b,.int .i64 z.c,.int .i64 z.k,.int .i64 z.n,.slice i3.pR z.regs.length i3.cR,.slice i3.pA z.args.length i3.cA],45)]:=hWD.1
        have hsa3:w41.heap.size≤w48.heap.size:=hW48.bel.size
        have hmB47:B47<w48.heap.size:=(hW48.get 0 rfl).lt
        clear hFD hWD hE hF51 h49
        clear hW48
        refine St.go hF52 ?_;clear hF52 a52
        refine s1k 0 inf1Ints hW52 rfl rfl rfl rfl rfl rfl ?_
        intro w53 hKp hW53
        replace hN65:=Lay.keep1 hN65 hKp hmB47
        replace hN68:=Lay.keep1 hN68 hKp hmB47
        clear hKp hW52
        refine sfIns7 trivial rfl rfl ?_
        refine s1k 0 inf1Ints hW53 rfl rfl rfl rfl rfl rfl ?_
        intro w54 hKp hW54
        replace hN65:=Lay.keep1 hN65 hKp hmB47
        replace hN68:=Lay.keep1 hN68 hKp hmB47
        clear hKp hW53
        refine St.nil fun a55 h55=>?_
        refine hK50 _ _ ?_
        refine rg h55 fun ops=>?_;clear h55 a55
        refine sfBlock2 trivial rfl rfl ?_
        refine scInss (bel_cell hW54.bel (cellOf hkBD9.out 2 _ rfl)) trivial rfl rfl ?_
        refine sS 0 8 Tryz.underlying45 rfl infIns hW54 trivial rfl rfl rfl rfl ?_
        intro a56 h56
        refine fr_row (t:=74) #[.int .i64 z.op,.int .i64 z.a,.int .i64 z.b,.int .i64 z.c,.int .i64 z.k,.int .i64 z.n,.slice p65 z.regs.length c65,.slice p68 z.args.length c68] 45 1 h56 hW54 rfl rfl rfl (fun K hK=>?_) ?_
        ·have k0:a56.tmps[73]?.getD undef=.agg #[.int .i64 z.op,.int .i64 z.a,.int .i64 z.b,.int .i64 z.c,.int .i64 z.k,.int .i64 z.n,.slice p65 z.regs.length c65,.slice p68 z.args.length c68]:=h56.sl2 73 _ rfl
         go_simp
         exact hK
        clear h56 hW54;intro a57 w58 B58 hW58 hN hF57;replace hN65:=Lay.below hN65 hN.bel;replace hN68:=Lay.below hN68 hN.bel;clear hN
        refine St.go hF57 ?_;clear hF57 a57
        have hI9:insL.In w58 (From w41.heap.size) z [.int .i64 z.op,.int .i64 z.a,.int .i64 z.b,.int .i64 z.c,.int .i64 z.k,.int .i64 z.n,.slice p65 z.regs.length c65,.slice p68 z.args.length c68]:=ins_shut (x:=z) (i:=⟨p65,c65,p68,c68⟩) ⟨Lay.mono hN65 (fun k hk _=>Nat.le_trans hsa3 hk),Lay.mono hN68 (fun k hk _=>Nat.le_trans hsa3 hk),In3.out.bnd⟩
        have hAx:=hA3.out.below hW58.bel
        have hzx:w37.heap.size≤w58.heap.size:=Nat.le_trans hz3 hW58.bel.size
        have hKx:=KeepBut.below hK3.out hW58.bel hz3
        refine sApp underIns hiI hzI0 hzI1 hzI2 rfl (by decide) rfl (hWo3.below hW58.bel) hlo3 (lts2 hlBD9 hlB32) hAx hzx (hW58.get 0 rfl) (Lay.mono hI9 (fun k hk _=>⟨Nat.le_trans hz3 hk,hA3.out.own_lt hk⟩)) rfl (by rw [List.length_take];omega) (by decide) rfl rfl rfl ?_
        intro g59 cp59 w59 hA9 hgr hW59
        have hK9:=hKx.grown hgr hzx (fun k hk=>(hAx.lo_le hk).1)
        clear hAx hzx hKx hgr hI9 hW58
        refine sfBlock2 trivial rfl rfl ?_
        refine s1k 0 inf1Inss hW59 rfl rfl rfl rfl rfl rfl ?_
        intro w60 hKp hW60
        replace hA9:=ARow.keep1 hA9 hKp hlBD9
        replace hK9:=KeepBut.keep1t hK9 hKp hlBD9
        clear hKp hW59
        refine St.nil fun a61 h61=>?_
        refine hK45 _ _ ?_
        refine rg h61 fun ops=>?_;clear h61 a61
        refine sm trivial rfl rfl ?_
        refine sad (by omega) trivial rfl rfl rfl ?_
        refine sa trivial rfl rfl ?_
        refine St.nil fun a62 h62=>?_
        have hA8:=hA9.next hx3.out
        exact hKL3 _ _ (y.code.length - (q3+1)) (by omega) ⟨q3+1,by omega,rfl,_,_,hA8,hK9,Nat.le_of_lt (Nat.lt_of_le_of_lt (hA8.lo_le (g:=g59) rfl).1 (hA8.lo_le (g:=g59) rfl).2),(h62.keep (h62.keep (h62.keep (h62.keep (h62.keep (h62.keep (h62.keep (h62.keep (h62.keep (h62.keep (h62.keep h62.nil (t:=10) rfl) (t:=9) rfl) (t:=8) rfl) (t:=7) rfl) (t:=6) rfl) (t:=5) rfl) (t:=4) rfl) (t:=3) rfl) (t:=2) rfl) (t:=1) rfl) (t:=0) rfl),hW60⟩
      have hge3:q3=y.code.length:=by have:=of_decide_eq_false hb;omega
      clear hb hW41
      have hAx:=hA3.out.full hge3
      obtain ⟨pL3,cL3,hv9⟩:=hAx.form
      subst hv9
      have hL3:=hAx.lay
      clear hAx
      replace hL3:=Lay.mono hL3 (O':=fun k=>w26.heap.size≤k∧k≠BD9) (fun k hk _=>⟨by have h9:w37.heap.size≤k:=hk;omega,by have h9:w37.heap.size≤k:=hk;omega⟩)
      replace hN49:=Lay.keepBut hN49 hK3.out (O':=fun k=>w26.heap.size≤k∧k≠BD9) (fun k hk _=>⟨hk.2.1,hk.2.2⟩) (fun k hk _=>⟨Nat.le_trans hsd3 hk.1,hk.2.2⟩)
      refine wp_exit ?_
      refine hK38 _ _ ?_
      refine wp_seq_k fun K63 hK63=>?_
      have hF64:Fr 110 a44 [(0,.agg #[.slice p m.length c]),(1,.pointer (some ⟨B2,0,none⟩)),(2,.pointer (some ⟨B3,0,none⟩)),(3,.pointer (some ⟨B6,0,none⟩)),(4,.int .i64 (q1:Int)),(5,.pointer (some ⟨B17,0,none⟩)),(6,.pointer (some ⟨BD6,0,none⟩)),(7,.int .i64 (q2:Int)),(8,.pointer (some ⟨B32,0,none⟩)),(9,.pointer (some ⟨BD9,0,none⟩)),(10,.int .i64 (q3:Int))]:=(h44.keep (h44.keep (h44.keep (h44.keep (h44.keep (h44.keep (h44.keep (h44.keep (h44.keep (h44.keep (h44.keep h44.nil (t:=10) rfl) (t:=9) rfl) (t:=8) rfl) (t:=7) rfl) (t:=6) rfl) (t:=5) rfl) (t:=4) rfl) (t:=3) rfl) (t:=2) rfl) (t:=1) rfl) (t:=0) rfl)
      have ho8:a44.tmps.getD 8 undef=.pointer (some ⟨B32,0,none⟩):=h44.sl 8 _ rfl
      have ho9:a44.tmps.getD 9 undef=.pointer (some ⟨BD9,0,none⟩):=h44.sl 9 _ rfl
      refine fr_draw_k 20 ([(8,fun v _=>v=.pointer (some ⟨B32,0,none⟩)),(9,fun v _=>v=.pointer (some ⟨BD9,0,none⟩)),(77,fun v _=>v=.pointer (some ⟨B32,3,none⟩)),(78,fun v _=>v=.pointer (some ⟨B32,3,none⟩)),(79,fun v _=>v=.int .i64 y.fin.op),(80,fun v _=>v=.pointer (some ⟨B32,3,none⟩)),(81,fun v _=>v=.pointer (some ⟨B32,4,none⟩)),(82,fun v _=>v=.int .i64 y.fin.a),(83,fun v _=>v=.pointer (some ⟨B32,3,none⟩)),(84,fun v _=>v=.pointer (some ⟨B32,5,none⟩)),(85,fun v _=>v=.agg #[.int .i64 y.fin.yes.block,.slice b2.e.pYR y.fin.yes.regs.length b2.e.cYR,.slice b2.e.pYA y.fin.yes.args.length b2.e.cYA]),(86,fun v w'=>∃ p c p2 c2,v=.agg #[.int .i64 y.fin.yes.block,.slice p y.fin.yes.regs.length c,.slice p2 y.fin.yes.args.length c2]∧TIn2 w' (From w41.heap.size) y.fin.yes p c p2 c2),(87,fun v _=>v=.pointer (some ⟨B32,3,none⟩)),(88,fun v _=>v=.pointer (some ⟨B32,8,none⟩)),(89,fun v _=>v=.agg #[.int .i64 y.fin.no.block,.slice b2.e.pNR y.fin.no.regs.length b2.e.cNR,.slice b2.e.pNA y.fin.no.args.length b2.e.cNA]),(90,fun v w'=>∃ p c p2 c2,v=.agg #[.int .i64 y.fin.no.block,.slice p y.fin.no.regs.length c,.slice p2 y.fin.no.args.length c2]∧TIn2 w' (From w41.heap.size) y.fin.no p c p2 c2),(91,fun v _=>v=.pointer (some ⟨B32,3,none⟩)),(92,fun v _=>v=.pointer (some ⟨B32,11,none⟩)),(93,fun v _=>v=.slice b2.e.pA y.fin.args.length b2.e.cA),(94,fun v w'=>∃ p c,v=.slice p y.fin.args.length c∧intsL.In w' (From w41.heap.size) y.fin.args [.slice p y.fin.args.length c]),(95,fun v w'=>∃ e:EP,v=.agg #[.int .i64 y.fin.op,.int .i64 y.fin.a,.int .i64 y.fin.yes.block,.slice e.pYR y.fin.yes.regs.length e.cYR,.slice e.pYA y.fin.yes.args.length e.cYA,.int .i64 y.fin.no.block,.slice e.pNR y.fin.no.regs.length e.cNR,.slice e.pNA y.fin.no.args.length e.cNA,.slice e.pA y.fin.args.length e.cA]∧EIn w' (From w41.heap.size) y.fin e),(96,fun v _=>v=.pointer (some ⟨BD9,3,none⟩))]:PTab) (fun w'=>Wd w26 w' [(BD9,#[.int .i64 y.regs,.slice p49 y.params.length c49,.slice pL3 y.code.length cL3,.int .i64 0,.int .i64 0,.int .i64 0,.slice none 0 0,.slice none 0 0,.int .i64 0,.slice none 0 0,.slice none 0 0,.slice none 0 0],52),(B32,#[.int .i64 y.regs,.slice b2.pP y.params.length b2.cP,.slice b2.pC y.code.length b2.cC,.int .i64 y.fin.op,.int .i64 y.fin.a,.int .i64 y.fin.yes.block,.slice b2.e.pYR y.fin.yes.regs.length b2.e.cYR,.slice b2.e.pYA y.fin.yes.args.length b2.e.cYA,.int .i64 y.fin.no.block,.slice b2.e.pNR y.fin.no.regs.length b2.e.cNR,.slice b2.e.pNA y.fin.no.args.length b2.e.cNA,.slice b2.e.pA y.fin.args.length b2.e.cA],52)]∧Below w41.heap.size w41 w') (fun w w'=>Below w.heap.size w w') (outs:=[8,9]) (gs:=[]) (bs:=[true,true,true,true,true,true,true,true,true,true,true,true,true,true,true,true,true,true,true,true]) (by kernel_rfl) hF64 rfl (by kernel_rfl) (by kernel_rfl) ?hR ?hG ⟨hWo3.drewN 1,drewN_below (m:=1) (Below.refl _ _)⟩ ⟨ho8,ho9,trivial⟩ ?hA ?hend
      case hR=>exact ⟨fun _ _ _ _ h=>h,fun _ _ _ _ h=>h,fun _ _ _ _ h=>h,fun _ _ _ _ h=>h,fun _ _ _ _ h=>h,fun _ _ _ _ h=>h,fun _ _ _ _ h=>h,fun _ _ _ _ h=>h,fun _ _ _ _ h=>h,fun _ _ _ _ h=>h,fun _ _ _ _ h=>h,fun v w w' hr h=>by obtain ⟨p,c,p2,c2,h1,h2⟩:=h;exact ⟨p,c,p2,c2,h1,h2.below hr⟩,fun _ _ _ _ h=>h,fun _ _ _ _ h=>h,fun _ _ _ _ h=>h,fun v w w' hr h=>by obtain ⟨p,c,p2,c2,h1,h2⟩:=h;exact ⟨p,c,p2,c2,h1,h2.below hr⟩,fun _ _ _ _ h=>h,fun _ _ _ _ h=>h,fun _ _ _ _ h=>h,fun v w w' hr h=>by obtain ⟨p,c,h1,h2⟩:=h;exact ⟨p,c,h1,Lay.below h2 hr⟩,fun v w w' hr h=>by obtain ⟨e,h1,h2⟩:=h;exact ⟨e,h1,h2.below hr⟩,fun _ _ _ _ h=>h,trivial⟩
      case hG=>exact trivial
      case hA =>
       refine ⟨fun a w hW hk K hK=>?_,?_⟩
       · obtain ⟨k0,-⟩:=hk
         have k0:a.tmps.getD 8 undef=.pointer (some ⟨B32,0,none⟩):=k0
         go_simp
         exact hK _ _ (Below.refl _ _) hW rfl
       refine ⟨fun a w hW hk K hK=>?_,?_⟩
       · obtain ⟨k0,-⟩:=hk
         have k0:a.tmps.getD 77 undef=.pointer (some ⟨B32,3,none⟩):=k0
         go_simp
         exact hK _ _ (Below.refl _ _) hW rfl
       refine ⟨fun a w hW hk K hK=>?_,?_⟩
       · obtain ⟨k0,-⟩:=hk
         have k0:a.tmps.getD 78 undef=.pointer (some ⟨B32,3,none⟩):=k0
         have c3:w.cell? ⟨B32,3,none⟩=some (.int .i64 y.fin.op):=cellOf (hW.1.get 1 rfl) 3 _ rfl
         go_simp
         exact hK _ _ (Below.refl _ _) hW rfl
       refine ⟨fun a w hW hk K hK=>?_,?_⟩
       · obtain ⟨k0,-⟩:=hk
         have k0:a.tmps.getD 8 undef=.pointer (some ⟨B32,0,none⟩):=k0
         go_simp
         exact hK _ _ (Below.refl _ _) hW rfl
       refine ⟨fun a w hW hk K hK=>?_,?_⟩
       · obtain ⟨k0,-⟩:=hk
         have k0:a.tmps.getD 80 undef=.pointer (some ⟨B32,3,none⟩):=k0
         go_simp
         exact hK _ _ (Below.refl _ _) hW rfl
       refine ⟨fun a w hW hk K hK=>?_,?_⟩
       · obtain ⟨k0,-⟩:=hk
         have k0:a.tmps.getD 81 undef=.pointer (some ⟨B32,4,none⟩):=k0
         have c4:w.cell? ⟨B32,4,none⟩=some (.int .i64 y.fin.a):=cellOf (hW.1.get 1 rfl) 4 _ rfl
         go_simp
         exact hK _ _ (Below.refl _ _) hW rfl
       refine ⟨fun a w hW hk K hK=>?_,?_⟩
       · obtain ⟨k0,-⟩:=hk
         have k0:a.tmps.getD 8 undef=.pointer (some ⟨B32,0,none⟩):=k0
         go_simp
         exact hK _ _ (Below.refl _ _) hW rfl
       refine ⟨fun a w hW hk K hK=>?_,?_⟩
       · obtain ⟨k0,-⟩:=hk
         have k0:a.tmps.getD 83 undef=.pointer (some ⟨B32,3,none⟩):=k0
         go_simp
         exact hK _ _ (Below.refl _ _) hW rfl
       refine ⟨fun a w hW hk K hK=>?_,?_⟩
       · obtain ⟨k0,-⟩:=hk
         have k0:a.tmps.getD 84 undef=.pointer (some ⟨B32,5,none⟩):=k0
         have c5:w.cell? ⟨B32,5,none⟩=some (.int .i64 y.fin.yes.block):=cellOf (hW.1.get 1 rfl) 5 _ rfl
         have c6:w.cell? ⟨B32,6,none⟩=some (.slice b2.e.pYR y.fin.yes.regs.length b2.e.cYR):=cellOf (hW.1.get 1 rfl) 6 _ rfl
         have c7:w.cell? ⟨B32,7,none⟩=some (.slice b2.e.pYA y.fin.yes.args.length b2.e.cYA):=cellOf (hW.1.get 1 rfl) 7 _ rfl
         go_simp
         exact hK _ _ (Below.refl _ _) hW rfl
       refine ⟨fun a w hW hk K hK=>?_,?_⟩
       · obtain ⟨k0,-⟩:=hk
         have k0:a.tmps.getD 85 undef=.agg #[.int .i64 y.fin.yes.block,.slice b2.e.pYR y.fin.yes.regs.length b2.e.cYR,.slice b2.e.pYA y.fin.yes.args.length b2.e.cYA]:=k0
         go_simp
         refine (rOwnTo_any _ _ _ _ _ w (In2.out.fin.yes.below hW.1.bel) (by have:=hs2.out.2.2.1.1.1;omega) (by have:=hs2.out.2.2.1.1.2;omega)).mono ?_
         rintro e w9 ⟨p9,c9,p8,c8,rfl,h9,hb⟩
         exact hK _ _ hb ⟨hW.1.below hb,Below.andThen hW.2 hb⟩ ⟨p9,c9,p8,c8,rfl,h9.mono (fun k hk _=>Nat.le_trans hW.2.size hk)⟩
       refine ⟨fun a w hW hk K hK=>?_,?_⟩
       · obtain ⟨k0,-⟩:=hk
         have k0:a.tmps.getD 8 undef=.pointer (some ⟨B32,0,none⟩):=k0
         go_simp
         exact hK _ _ (Below.refl _ _) hW rfl
       refine ⟨fun a w hW hk K hK=>?_,?_⟩
       · obtain ⟨k0,-⟩:=hk
         have k0:a.tmps.getD 87 undef=.pointer (some ⟨B32,3,none⟩):=k0
         go_simp
         exact hK _ _ (Below.refl _ _) hW rfl
       refine ⟨fun a w hW hk K hK=>?_,?_⟩
       · obtain ⟨k0,-⟩:=hk
         have k0:a.tmps.getD 88 undef=.pointer (some ⟨B32,8,none⟩):=k0
         have c8:w.cell? ⟨B32,8,none⟩=some (.int .i64 y.fin.no.block):=cellOf (hW.1.get 1 rfl) 8 _ rfl
         have c9:w.cell? ⟨B32,9,none⟩=some (.slice b2.e.pNR y.fin.no.regs.length b2.e.cNR):=cellOf (hW.1.get 1 rfl) 9 _ rfl
         have c10:w.cell? ⟨B32,10,none⟩=some (.slice b2.e.pNA y.fin.no.args.length b2.e.cNA):=cellOf (hW.1.get 1 rfl) 10 _ rfl
         go_simp
         exact hK _ _ (Below.refl _ _) hW rfl
       refine ⟨fun a w hW hk K hK=>?_,?_⟩
       · obtain ⟨k0,-⟩:=hk
         have k0:a.tmps.getD 89 undef=.agg #[.int .i64 y.fin.no.block,.slice b2.e.pNR y.fin.no.regs.length b2.e.cNR,.slice b2.e.pNA y.fin.no.args.length b2.e.cNA]:=k0
         go_simp
         refine (rOwnTo_any _ _ _ _ _ w (In2.out.fin.no.below hW.1.bel) (by have:=hs2.out.2.2.1.2.1.1;omega) (by have:=hs2.out.2.2.1.2.1.2;omega)).mono ?_
         rintro e w9 ⟨p9,c9,p8,c8,rfl,h9,hb⟩
         exact hK _ _ hb ⟨hW.1.below hb,Below.andThen hW.2 hb⟩ ⟨p9,c9,p8,c8,rfl,h9.mono (fun k hk _=>Nat.le_trans hW.2.size hk)⟩
       refine ⟨fun a w hW hk K hK=>?_,?_⟩
       · obtain ⟨k0,-⟩:=hk
         have k0:a.tmps.getD 8 undef=.pointer (some ⟨B32,0,none⟩):=k0
         go_simp
         exact hK _ _ (Below.refl _ _) hW rfl
       refine ⟨fun a w hW hk K hK=>?_,?_⟩
       · obtain ⟨k0,-⟩:=hk
         have k0:a.tmps.getD 91 undef=.pointer (some ⟨B32,3,none⟩):=k0
         go_simp
         exact hK _ _ (Below.refl _ _) hW rfl
       refine ⟨fun a w hW hk K hK=>?_,?_⟩
       · obtain ⟨k0,-⟩:=hk
         have k0:a.tmps.getD 92 undef=.pointer (some ⟨B32,11,none⟩):=k0
         have c11:w.cell? ⟨B32,11,none⟩=some (.slice b2.e.pA y.fin.args.length b2.e.cA):=cellOf (hW.1.get 1 rfl) 11 _ rfl
         go_simp
         exact hK _ _ (Below.refl _ _) hW rfl
       refine ⟨fun a w hW hk K hK=>?_,?_⟩
       · obtain ⟨k0,-⟩:=hk
         have k0:a.tmps.getD 93 undef=.slice b2.e.pA y.fin.args.length b2.e.cA:=k0
         go_simp
         refine (rOwnInts_any _ _ _ w (Lay.below In2.out.fin.args hW.1.bel) (by have:=hs2.out.2.2.1.2.2;omega)).mono ?_
         rintro e w9 ⟨p9,c9,rfl,h9,hb⟩
         exact hK _ _ hb ⟨hW.1.below hb,Below.andThen hW.2 hb⟩ ⟨p9,c9,rfl,Lay.mono h9 (fun k hk _=>Nat.le_trans hW.2.size hk)⟩
       refine ⟨fun a w hW hk K hK=>?_,?_⟩
       · obtain ⟨k0,k1,k2,k3,k4,-⟩:=hk
         have k0:a.tmps[79]?.getD undef=.int .i64 y.fin.op:=by rw [← Array.getD_eq_getD_getElem?];exact k0
         have k1:a.tmps[82]?.getD undef=.int .i64 y.fin.a:=by rw [← Array.getD_eq_getD_getElem?];exact k1
         obtain ⟨r86,rc86,a86x,ac86,k2,hT86⟩:=k2
         have k2:a.tmps[86]?.getD undef=.agg #[.int .i64 y.fin.yes.block,.slice r86 y.fin.yes.regs.length rc86,.slice a86x y.fin.yes.args.length ac86]:=by rw [← Array.getD_eq_getD_getElem?];exact k2
         obtain ⟨r90,rc90,a90x,ac90,k3,hT90⟩:=k3
         have k3:a.tmps[90]?.getD undef=.agg #[.int .i64 y.fin.no.block,.slice r90 y.fin.no.regs.length rc90,.slice a90x y.fin.no.args.length ac90]:=by rw [← Array.getD_eq_getD_getElem?];exact k3
         obtain ⟨p94,c94,k4,hN94⟩:=k4
         have k4:a.tmps[94]?.getD undef=.slice p94 y.fin.args.length c94:=by rw [← Array.getD_eq_getD_getElem?];exact k4
         go_simp
         exact hK _ _ (Below.refl _ _) hW ⟨⟨r86,rc86,a86x,ac86,r90,rc90,a90x,ac90,p94,c94⟩,rfl,⟨hT86,hT90,hN94,In2.out.fin.bnd⟩⟩
       refine ⟨fun a w hW hk K hK=>?_,?_⟩
       · obtain ⟨k0,-⟩:=hk
         have k0:a.tmps.getD 9 undef=.pointer (some ⟨BD9,0,none⟩):=k0
         go_simp
         exact hK _ _ (Below.refl _ _) hW rfl
       trivial
      case hend =>
       intro ops a65 w65 hWD hE hFD
       obtain ⟨e95,hd95,hE95⟩:=hE 95 rfl
       replace hd95:a65.tmps.getD 95 undef=.agg #[.int .i64 y.fin.op,.int .i64 y.fin.a,.int .i64 y.fin.yes.block,.slice e95.pYR y.fin.yes.regs.length e95.cYR,.slice e95.pYA y.fin.yes.args.length e95.cYA,.int .i64 y.fin.no.block,.slice e95.pNR y.fin.no.regs.length e95.cNR,.slice e95.pNA y.fin.no.args.length e95.cNA,.slice e95.pA y.fin.args.length e95.cA]:=hd95
       have hd96:a65.tmps.getD 96 undef=.pointer (some ⟨BD9,3,none⟩):=hE 96 rfl
       have hF65:Fr 110 a65 [(96,.pointer (some ⟨BD9,3,none⟩)),(95,.agg #[.int .i64 y.fin.op,.int .i64 y.fin.a,.int .i64 y.fin.yes.block,.slice e95.pYR y.fin.yes.regs.length e95.cYR,.slice e95.pYA y.fin.yes.args.length e95.cYA,.int .i64 y.fin.no.block,.slice e95.pNR y.fin.no.regs.length e95.cNR,.slice e95.pNA y.fin.no.args.length e95.cNA,.slice e95.pA y.fin.args.length e95.cA]),(0,.agg #[.slice p m.length c]),(1,.pointer (some ⟨B2,0,none⟩)),(2,.pointer (some ⟨B3,0,none⟩)),(3,.pointer (some ⟨B6,0,none⟩)),(4,.int .i64 (q1:Int)),(5,.pointer (some ⟨B17,0,none⟩)),(6,.pointer (some ⟨BD6,0,none⟩)),(7,.int .i64 (q2:Int)),(8,.pointer (some ⟨B32,0,none⟩)),(9,.pointer (some ⟨BD9,0,none⟩)),(10,.int .i64 (q3:Int))]:=((hFD.cons hd95).cons hd96)
       clear hd95 hd96
       have hW65:Wd w26 w65 [(BD9,#[.int .i64 y.regs,.slice p49 y.params.length c49,.slice pL3 y.code.length cL3,.int .i64 0,.int .i64 0,.int .i64 0,.slice none 0 0,.slice none 0 0,.int .i64 0,.slice none 0 0,.slice none 0 0,.slice none 0 0],52),(B32,#[.int .i64 y.regs,.slice b2.pP y.params.length b2.cP,.slice b2.pC y.code.length b2.cC,.int .i64 y.fin.op,.int .i64 y.fin.a,.int .i64 y.fin.yes.block,.slice b2.e.pYR y.fin.yes.regs.length b2.e.cYR,.slice b2.e.pYA y.fin.yes.args.length b2.e.cYA,.int .i64 y.fin.no.block,.slice b2.e.pNR y.fin.no.regs.length b2.e.cNR,.slice b2.e.pNA y.fin.no.args.length b2.e.cNA,.slice b2.e.pA y.fin.args.length b2.e.cA],52)]:=hWD.1
       have hsa2:w26.heap.size≤w41.heap.size:=hWo3.bel.size
       have hmBD9:BD9<w41.heap.size:=(hWo3.get 0 rfl).lt
       have hmB32:B32<w41.heap.size:=(hWo3.get 1 rfl).lt
       replace hN49:=Lay.below hN49 hWD.2
       replace hL3:=Lay.below hL3 hWD.2
       clear hFD hWD hE hF64 h44
       clear hWo3
       refine St.go hF65 ?_;clear hF65 a65
       refine sTk 0 hW65 rfl rfl infEnd rfl rfl rfl ?_
       intro w66 hKp hW66
       replace hN49:=Lay.keepNe hN49 hKp (fun k hk=>hk.2)
       replace hL3:=Lay.keepNe hL3 hKp (fun k hk=>hk.2)
       replace hE95:=EIn.keep1 hE95 hKp hmBD9
       clear hKp hW65
       refine St.nil fun a67 h67=>?_
       refine hK63 _ _ ?_
       refine rg h67 fun ops=>?_;clear h67 a67
       refine sfFunc3 trivial rfl rfl ?_
       refine scBlocks (bel_cell hW66.bel (cellOf hkBD6.out 3 _ rfl)) trivial rfl rfl ?_
       refine sS 0 12 Tryz.underlying52 rfl infBlock hW66 trivial rfl rfl rfl rfl ?_
       intro a68 h68
       refine fr_row (t:=100) #[.int .i64 y.regs,.slice p49 y.params.length c49,.slice pL3 y.code.length cL3,.int .i64 y.fin.op,.int .i64 y.fin.a,.int .i64 y.fin.yes.block,.slice e95.pYR y.fin.yes.regs.length e95.cYR,.slice e95.pYA y.fin.yes.args.length e95.cYA,.int .i64 y.fin.no.block,.slice e95.pNR y.fin.no.regs.length e95.cNR,.slice e95.pNA y.fin.no.args.length e95.cNA,.slice e95.pA y.fin.args.length e95.cA] 52 1 h68 hW66 rfl rfl rfl (fun K hK=>?_) ?_
       ·have k0:a68.tmps[99]?.getD undef=.agg #[.int .i64 y.regs,.slice p49 y.params.length c49,.slice pL3 y.code.length cL3,.int .i64 y.fin.op,.int .i64 y.fin.a,.int .i64 y.fin.yes.block,.slice e95.pYR y.fin.yes.regs.length e95.cYR,.slice e95.pYA y.fin.yes.args.length e95.cYA,.int .i64 y.fin.no.block,.slice e95.pNR y.fin.no.regs.length e95.cNR,.slice e95.pNA y.fin.no.args.length e95.cNA,.slice e95.pA y.fin.args.length e95.cA]:=h68.sl2 99 _ rfl
        go_simp
        exact hK
       clear h68 hW66;intro a69 w70 B70 hW70 hN hF69;replace hN49:=Lay.below hN49 hN.bel;replace hL3:=Lay.below hL3 hN.bel;replace hE95:=EIn.below hE95 hN.bel;clear hN
       refine St.go hF69 ?_;clear hF69 a69
       have hI9:(blockL n).In w70 (From w26.heap.size) y [.int .i64 y.regs,.slice p49 y.params.length c49,.slice pL3 y.code.length cL3,.int .i64 y.fin.op,.int .i64 y.fin.a,.int .i64 y.fin.yes.block,.slice e95.pYR y.fin.yes.regs.length e95.cYR,.slice e95.pYA y.fin.yes.args.length e95.cYA,.int .i64 y.fin.no.block,.slice e95.pNR y.fin.no.regs.length e95.cNR,.slice e95.pNA y.fin.no.args.length e95.cNA,.slice e95.pA y.fin.args.length e95.cA]:=block_shut (x:=y) (b:=⟨p49,c49,pL3,cL3,e95⟩) ⟨Lay.mono hN49 (fun k hk _=>hk.1),Lay.mono hL3 (fun k hk _=>hk.1),EIn.mono hE95 (fun k hk _=>Nat.le_trans hsa2 hk),In2.out.bnd⟩
       have hAx:=hA2.out.below hW70.bel
       have hzx:w22.heap.size≤w70.heap.size:=Nat.le_trans hz2 hW70.bel.size
       have hKx:=KeepBut.below hK2.out hW70.bel hz2
       refine sApp underBlocks hiB hzB0 hzB1 hzB2 rfl (by decide) rfl (hWo2.below hW70.bel) hlo2 (lts2 hlBD6 hlB17) hAx hzx (hW70.get 0 rfl) (Lay.mono hI9 (fun k hk _=>⟨Nat.le_trans hz2 hk,hA2.out.own_lt hk⟩)) rfl (by rw [List.length_take];omega) (by decide) rfl rfl rfl ?_
       intro g71 cp71 w71 hA9 hgr hW71
       have hK9:=hKx.grown hgr hzx (fun k hk=>(hAx.lo_le hk).1)
       clear hAx hzx hKx hgr hI9 hW70
       refine sfFunc3 trivial rfl rfl ?_
       refine s1k 0 inf1Blocks hW71 rfl rfl rfl rfl rfl rfl ?_
       intro w72 hKp hW72
       replace hA9:=ARow.keep1 hA9 hKp hlBD6
       replace hK9:=KeepBut.keep1t hK9 hKp hlBD6
       clear hKp hW71
       refine St.nil fun a73 h73=>?_
       refine hK30 _ _ ?_
       refine rg h73 fun ops=>?_;clear h73 a73
       refine sm trivial rfl rfl ?_
       refine sad (by omega) trivial rfl rfl rfl ?_
       refine sa trivial rfl rfl ?_
       refine St.nil fun a74 h74=>?_
       have hA8:=hA9.next hx2.out
       exact hKL2 _ _ (x.blocks.length - (q2+1)) (by omega) ⟨q2+1,by omega,rfl,_,_,hA8,hK9,Nat.le_of_lt (Nat.lt_of_le_of_lt (hA8.lo_le (g:=g71) rfl).1 (hA8.lo_le (g:=g71) rfl).2),(h74.keep (h74.keep (h74.keep (h74.keep (h74.keep (h74.keep (h74.keep (h74.keep h74.nil (t:=7) rfl) (t:=6) rfl) (t:=5) rfl) (t:=4) rfl) (t:=3) rfl) (t:=2) rfl) (t:=1) rfl) (t:=0) rfl),hW72⟩
    have hge2:q2=x.blocks.length:=by have:=of_decide_eq_false hb;omega
    clear hb hW26
    have hAx:=hA2.out.full hge2
    obtain ⟨pL2,cL2,hv9⟩:=hAx.form
    subst hv9
    have hL2:=hAx.lay
    clear hAx
    replace hL2:=Lay.mono hL2 (O':=fun k=>w11.heap.size≤k∧k≠BD6) (fun k hk _=>⟨by have h9:w22.heap.size≤k:=hk;omega,by have h9:w22.heap.size≤k:=hk;omega⟩)
    replace hN28:=Lay.keepBut hN28 hK2.out (O':=fun k=>w11.heap.size≤k∧k≠BD6) (fun k hk _=>⟨hk.2.1,hk.2.2⟩) (fun k hk _=>⟨Nat.le_trans hsd2 hk.1,hk.2.2⟩)
    replace hN31:=Lay.keepBut hN31 hK2.out (O':=fun k=>w11.heap.size≤k∧k≠BD6) (fun k hk _=>⟨hk.2.1,hk.2.2⟩) (fun k hk _=>⟨Nat.le_trans hsd2 hk.1,hk.2.2⟩)
    refine wp_exit ?_
    refine hK23 _ _ ?_
    refine rg h29 fun ops=>?_;clear h29 a29
    refine sfModule0 trivial rfl rfl ?_
    refine scFuncs (bel_cell hWo2.bel (cellOf hkB6.out 0 _ rfl)) trivial rfl rfl ?_
    refine sS 0 4 Tryz.underlying42 rfl infFunc hWo2 trivial rfl rfl rfl rfl ?_
    intro a75 h75
    refine fr_row (t:=106) #[.int .i64 x.regs,.slice p28 x.params.length c28,.slice p31 x.results.length c31,.slice pL2 x.blocks.length cL2] 42 1 h75 hWo2 rfl rfl rfl (fun K hK=>?_) ?_
    ·have k0:a75.tmps[105]?.getD undef=.agg #[.int .i64 x.regs,.slice p28 x.params.length c28,.slice p31 x.results.length c31,.slice pL2 x.blocks.length cL2]:=h75.sl2 105 _ rfl
     go_simp
     exact hK
    clear h75 hWo2;intro a76 w77 B77 hW77 hN hF76;replace hN28:=Lay.below hN28 hN.bel;replace hN31:=Lay.below hN31 hN.bel;replace hL2:=Lay.below hL2 hN.bel;clear hN
    refine St.go hF76 ?_;clear hF76 a76
    have hI9:(funcL n).In w77 (From w11.heap.size) x [.int .i64 x.regs,.slice p28 x.params.length c28,.slice p31 x.results.length c31,.slice pL2 x.blocks.length cL2]:=func_shut (x:=x) (f:=⟨p28,c28,p31,c31,pL2,cL2⟩) ⟨Lay.mono hN28 (fun k hk _=>hk.1),Lay.mono hN31 (fun k hk _=>hk.1),Lay.mono hL2 (fun k hk _=>hk.1),In1.out.bnd⟩
    have hAx:=hA1.out.below hW77.bel
    have hzx:w6.heap.size≤w77.heap.size:=Nat.le_trans hz1 hW77.bel.size
    have hKx:=KeepBut.below hK1.out hW77.bel hz1
    refine sApp underFuncs hiF hzF0 hzF1 hzF2 rfl (by decide) rfl (hWo1.below hW77.bel) hlo1 (lts3 hlB6 hlB3 hlB2) hAx hzx (hW77.get 0 rfl) (Lay.mono hI9 (fun k hk _=>⟨Nat.le_trans hz1 hk,hA1.out.own_lt hk⟩)) rfl (by rw [List.length_take];omega) (by decide) rfl rfl rfl ?_
    intro g78 cp78 w78 hA9 hgr hW78
    have hK9:=hKx.grown hgr hzx (fun k hk=>(hAx.lo_le hk).1)
    clear hAx hzx hKx hgr hI9 hW77
    refine sfModule0 trivial rfl rfl ?_
    refine s1k 0 inf1Funcs hW78 rfl rfl rfl rfl rfl rfl ?_
    intro w79 hKp hW79
    replace hA9:=ARow.keep1 hA9 hKp hlB6
    replace hK9:=KeepBut.keep1t hK9 hKp hlB6
    clear hKp hW78
    refine St.nil fun a80 h80=>?_
    refine hK15 _ _ ?_
    refine rg h80 fun ops=>?_;clear h80 a80
    refine sm trivial rfl rfl ?_
    refine sad (by omega) trivial rfl rfl rfl ?_
    refine sa trivial rfl rfl ?_
    refine St.nil fun a81 h81=>?_
    have hA8:=hA9.next hx1.out
    exact hKL1 _ _ (m.length - (q1+1)) (by omega) ⟨q1+1,by omega,rfl,_,_,hA8,hK9,Nat.le_of_lt (Nat.lt_of_le_of_lt (hA8.lo_le (g:=g78) rfl).1 (hA8.lo_le (g:=g78) rfl).2),(h81.keep (h81.keep (h81.keep (h81.keep (h81.keep h81.nil (t:=4) rfl) (t:=3) rfl) (t:=2) rfl) (t:=1) rfl) (t:=0) rfl),hW79⟩
  have hge1:q1=m.length:=by have:=of_decide_eq_false hb;omega
  clear hb hW11
  have hAx:=hA1.out.full hge1
  obtain ⟨pL1,cL1,hv9⟩:=hAx.form
  subst hv9
  have hL1:=hAx.lay
  clear hAx
  refine wp_exit ?_
  refine hK8 _ _ ?_
  refine wp_seq_k fun K82 hK82=>?_
  refine rg h14 fun ops=>?_;clear h14 a14
  refine sS 0 1 Tryz.underlying25 rfl infModule hWo1 trivial rfl rfl rfl rfl ?_
  refine sTk 1 hWo1 rfl rfl infModule rfl rfl rfl ?_
  intro w83 hKp hW83
  replace hL1:=Lay.keep1 hL1 hKp hlB3
  clear hKp hWo1
  refine St.nil fun a84 h84=>?_
  refine hK82 _ _ ?_
  refine wp_ret ?_;with_reducible repeat first | refine of_then_ret ?_ | refine of_block_ret ?_
  exact ret_box 1 h84 hW83 rfl rfl rfl Tryz.underlying25 rfl infModule ⟨_,rfl,⟨pL1,cL1,rfl,Lay.mono hL1 (fun k hk _=>Nat.le_trans hlo1 hk)⟩,hW83.bel⟩
end Go.Proofs.YtalfbnllodhkiacGreatDoor
namespace Go.Proofs.YtalfbnllodhkiacGreatDoor
open Go.ChangeShapes Go.WideShapes Go.ChangeAt Go.RowKit
set_option linter.unusedVariables false
theorem typesText_any (n : Nat) (IH0 : TextAt 124 n) (l : List (TT n)) (a : Option Addr) (c : Nat) (w : World) (hl0 : LIn w All l a) (hco0 : ∀ x ∈ l, x.count ≤ 2000) (hlen : l.length ≤ 2000) (hok0 : ∀ x ∈ l, x.ok) (hp0 : Pows w) (hbs0 : (l.map TT.count).sum ≤ 400000) :
    Calls Tryz.prog 89 #[.slice a l.length c] w fun e w'=>e=.returned (.string ⟨([40]++catL (l.map TT.txt)++[41]).toArray⟩)∧Below w.heap.size w w':=by
  have IH:Hid (TextAt 124 n):=IH0
  have hl:Hid (LIn w All l a):=hl0
  have hco:Hid (∀ x∈l,x.count≤2000):=hco0
  have hok:Hid (∀ x∈l,x.ok):=hok0
  have hp:Hid (Pows w):=hp0
  have hbs:Hid ((l.map TT.count).sum≤400000):=hbs0
  clear IH0 hl0 hco0 hok0 hp0 hbs0
  go_enter Tryz.func89,Tryz.ntmps89
  go_wp2_with fail
  go_loopw [3,4] (fun v i wr=>∃ q:Nat,q≤l.length∧i=.int .i64 q∧v=.string ⟨([40]++catL ((l.take q).map TT.txt)).toArray⟩∧Below w.heap.size w wr) (fun _ i _=>l.length - (intOf i).toNat)
  case atStart=>exact ⟨0,Nat.zero_le _,rfl,rfl,Below.refl _ _⟩
  case round =>
    obtain ⟨q,hq,rfl,rfl,hb⟩:=hrel
    have Bl:Hid (Below w.heap.size w wr):=hb
    clear hb
    have hlq:=cat_take_len hok.out q
    have hsl:=sum_take_le (l.map TT.count) q
    have hbs':=hbs.out
    have hcl:(catL ((l.take q).map TT.txt)).length≤16000000:=by omega
    by_cases hlt:q<l.length
    · have hx:l[q]?=some l[q]:=List.getElem?_eq_getElem hlt
      generalize l[q]=x at hx
      obtain ⟨g,o,a',c',rfl,_,d0,d1,d2,hk⟩:=LIn.at (hl.out.below Bl.out) hx
      have hmem:=List.mem_of_getElem? hx
      have hS:catL ((l.take (q+1)).map TT.txt)=catL ((l.take q).map TT.txt)++(if q=0 then [] else [44,32])++x.txt:=by
        rw [List.take_add_one,hx,Option.toList_some,List.map_append,List.map_cons,List.map_nil,catL_snoc]
        rw [List.length_map,List.length_take,Nat.min_eq_left (by omega)]
      have S:Hid (catL ((l.take (q+1)).map TT.txt)=catL ((l.take q).map TT.txt)++(if q=0 then [] else [44,32])++x.txt):=hS
      have C:Hid (Calls Tryz.prog 124 #[Tv x a' c'] wr fun e w'=>e=.returned (.string ⟨x.txt.toArray⟩)∧Below wr.heap.size wr w') :=
        IH.out x a' c' wr hk (hco.out x hmem) (hok.out x hmem) (hp.out.below Bl.out)
      have hxl:x.txt.length≤80000:=by have:=TT.txt_len (hok.out x hmem);have:=hco.out x hmem;omega
      have hk0:(0:Int)≤q:=by omega
      have hk1:(q:Int)<l.length:=by omega
      have hk2:(q:Int)<2000:=by omega
      clear hS hlq hsl hbs' hk hx hmem
      simp only [Tv] at C
      generalize x.kind=kx at C d0
      generalize x.r=rx at C d1
      generalize x.len=lx at C d2
      generalize x.txt=tx at C S hxl
      generalize catL ((l.take q).map TT.txt)=cq at S hcl ⊢
      by_cases hz:q=0
      · have hz':¬ (0:Int)<q:=by omega
        have R:Hid (catL ((l.take (q+1)).map TT.txt)=cq++tx):=by rw [S.out,if_pos hz];show _=_;simp
        clear hz S
        go_wp2_with fail
        refine C.out.mono ?_
        rintro e w2 ⟨rfl,b2⟩
        have B3:Hid (Below w.heap.size w w2):=Bl.out.trans (b2.mono Bl.out.size)
        clear b2 C
        go_wp2
        go_roundw
        case rel=>exact ⟨q+1,by omega,by go_num,by rw [ByteArray.mk_append_mk,R.out];rfl,B3.out⟩
        case measure=>simp [intOf];omega
      · have hz':(0:Int)<q:=by omega
        have R:Hid (catL ((l.take (q+1)).map TT.txt)=cq++[44,32]++tx):=by show _=_;rw [S.out,if_neg hz]
        clear hz S
        go_wp2_with fail
        refine C.out.mono ?_
        rintro e w2 ⟨rfl,b2⟩
        have B3:Hid (Below w.heap.size w w2):=Bl.out.trans (b2.mono Bl.out.size)
        clear b2 C
        go_wp2
        go_roundw
        case rel=>exact ⟨q+1,by omega,by go_num,by rw [ByteArray.mk_append_mk (40::cq) [44,32],ByteArray.mk_append_mk,R.out];simp,B3.out⟩
        case measure=>simp [intOf];omega
    · have hk1:¬ (q:Int)<l.length:=by omega
      have htt:l.take q=l:=List.take_of_length_le (by omega)
      rw [htt] at hcl ⊢
      clear hlq hsl hbs' htt
      generalize hcq:catL (l.map TT.txt)=cq at hcl ⊢
      have E:Hid (catL (l.map TT.txt)=cq):=hcq
      clear hcq
      go_wp2
      go_ret
      exact ⟨by show Ending.returned (.string (⟨(40::cq).toArray⟩++⟨#[41]⟩))=_;rw [ByteArray.mk_append_mk (40::cq) [41],E.out];rfl,Bl.out⟩
theorem typeText_any : ∀ n, TextAt 124 n := by
  intro n
  induction n with
  | zero=>intro t;exact Empty.elim t
  | succ n ih =>
    intro t a c w ht hct hok0 hp0
    have hco:∀ x∈t.2.2,x.count≤2000:=fun x hx=>by have:=t.count_kid hx;omega
    have hlen:t.2.2.length≤2000:=by have:=t.len_lt_count;rw [t.len_eq] at this;omega
    have hcnt:t.count=1+(t.2.2.map TT.count).sum:=rfl
    have CL:Hid (∀ wx,Below w.heap.size w wx→Calls Tryz.prog 89 #[.slice a t.2.2.length c] wx fun e w'=>e=.returned (.string ⟨([40]++catL (t.2.2.map TT.txt)++[41]).toArray⟩)∧Below wx.heap.size wx w') :=
      fun wx hb=>typesText_any n ih t.2.2 a c wx (ht.below hb) hco hlen hok0.2 (hp0.below hb) (by omega)
    have hr:Hid (-9223372036854775808≤t.r∧t.r≤9223372036854775807):=hok0.1
    have hT:Hid (t.txt=if t.kind=2 then [104,97,110,100,108,101,32]++Lib.itoa t.r else if t.kind=4 then [97,114,114,97,121,32]++Lib.itoa t.r else if t.kind=3 then [116,117,112,108,101,32]++Lib.itoa t.r++[32,40]++catL (t.2.2.map TT.txt)++[41] else [105,110,116]):=rfl
    have hcl:(catL (t.2.2.map TT.txt)).length≤80000:=by
      have:=cat_take_len hok0.2 t.2.2.length
      rw [List.take_of_length_le (Nat.le_refl _),List.take_of_length_le (by simp)] at this
      omega
    have hzl:(Lib.itoa t.r).length≤21:=Lib.itoa_length_le t.r hr.out.1 hr.out.2
    have CI:Hid (∀ wx,Below w.heap.size w wx→Calls Tryz.prog 88 #[.int .i64 t.r] wx fun e w'=>e=.returned (.string ⟨(Lib.itoa t.r).toArray⟩)∧Below wx.heap.size wx w') :=
      fun wx hb=>itoa_any t.r hr.out wx (hp0.below hb)
    generalize t.txt=res at hT ⊢
    simp only [Tv,TT.len_eq]
    generalize catL (t.2.2.map TT.txt)=cl at CL hT hcl
    generalize t.2.2.length=len at CL ⊢
    generalize t.kind=k at hT ⊢
    generalize Lib.itoa t.r=z at hT CI hzl
    generalize t.r=r at CI ⊢
    clear hct hok0 hp0 hco hlen ih ht hcnt hr t
    have X0:=Bx.start w k r a len c
    by_cases h2:k=2
    · subst h2
      have R:Hid (res=[104,97,110,100,108,101,32]++z):=hT.out.trans (if_pos rfl)
      clear hT
      go_enter Tryz.func124,Tryz.ntmps124
      go_wp2_with fail
      generalize w.alloc (.cells #[.int .i64 2,.int .i64 r,.slice a len c] 78)=w1 at X0 ⊢
      refine (CI.out w1 X0.bel).mono ?_
      rintro e w2 ⟨rfl,b2⟩
      have X2:Hid (Bx w w2 2 r a len c):=X0.below b2
      clear b2 X0 CI
      go_wp2
      go_ret
      exact ⟨by rw [R.out,← ByteArray.mk_append_mk];rfl,X2.out.bel⟩
    by_cases h4:k=4
    · subst h4
      have R:Hid (res=[97,114,114,97,121,32]++z):=hT.out.trans ((if_neg (by decide)).trans (if_pos rfl))
      clear hT
      go_enter Tryz.func124,Tryz.ntmps124
      go_wp2_with fail
      generalize w.alloc (.cells #[.int .i64 4,.int .i64 r,.slice a len c] 78)=w1 at X0 ⊢
      refine (CI.out w1 X0.bel).mono ?_
      rintro e w2 ⟨rfl,b2⟩
      have X2:Hid (Bx w w2 4 r a len c):=X0.below b2
      clear b2 X0 CI
      go_wp2
      go_ret
      exact ⟨by rw [R.out,← ByteArray.mk_append_mk];rfl,X2.out.bel⟩
    have g2:(k==2)=false:=by simpa using h2
    have g4:(k==4)=false:=by simpa using h4
    by_cases h3:k=3
    · subst h3
      clear g2 g4 h2 h4
      have R:Hid (res=[116,117,112,108,101,32]++z++[32]++([40]++cl++[41])):=by
        show _=_
        rw [hT.out,if_neg (by decide),if_neg (by decide),if_pos rfl]
        simp
      clear hT
      have hql:([40]++cl++[41]).length≤80002:=by simp;omega
      generalize [40]++cl++[41]=cq at CL R hql
      clear hcl
      go_enter Tryz.func124,Tryz.ntmps124
      go_wp2_with fail
      generalize w.alloc (.cells #[.int .i64 3,.int .i64 r,.slice a len c] 78)=w1 at X0 ⊢
      have X1:Hid (Bx w w1 3 r a len c):=X0
      have e1:w1.cell? ⟨w.heap.size,1,none⟩=some (.int .i64 r):=cellOf X0.box 1 _ rfl
      have e2:w1.cell? ⟨w.heap.size,2,none⟩=some (.slice a len c):=cellOf X0.box 2 _ rfl
      have CI':Hid (∀ wx,Bx w wx 3 r a len c→Calls Tryz.prog 88 #[.int .i64 r] wx fun e w'=>e=.returned (.string ⟨z.toArray⟩)∧Bx w w' 3 r a len c) :=
        fun wx hX=>(CI.out wx hX.bel).mono (fun e w' h=>⟨h.1,hX.below h.2⟩)
      have CL':Hid (∀ wx,Bx w wx 3 r a len c→Calls Tryz.prog 89 #[.slice a len c] wx fun e w'=>e=.returned (.string ⟨cq.toArray⟩)∧Bx w w' 3 r a len c) :=
        fun wx hX=>(CL.out wx hX.bel).mono (fun e w' h=>⟨h.1,hX.below h.2⟩)
      clear X0 CI CL
      go_region_with (first
        | (go_at_call 88;refine (CI'.out _ (by first | exact X1.out.drewN 1 | exact XL.out)).mono ?_;rintro e w5 ⟨rfl,x5⟩;have f2:=cellOf x5.box 2 _ rfl;have XI:Hid (Bx w w5 3 r a len c):=x5;clear x5)
        | (go_at_call 89;refine (CL'.out _ (by first | exact X1.out.drewN 1 | exact XI.out)).mono ?_;rintro e w6 ⟨rfl,x6⟩;have f1:=cellOf x6.box 1 _ rfl;have XL:Hid (Bx w w6 3 r a len c):=x6;clear x6))
      all_goals
        go_wp2
        go_ret
        refine ⟨by rw [R.out,ByteArray.mk_append_mk [116,117,112,108,101,32] z,ByteArray.mk_append_mk ([116,117,112,108,101,32]++z) [32],ByteArray.mk_append_mk];rfl,?_⟩
        first | exact XL.out.bel | exact XI.out.bel
    · have g3:(k==3)=false:=by simpa using h3
      have R:Hid (res=[105,110,116]):=hT.out.trans ((if_neg h2).trans ((if_neg h4).trans (if_neg h3)))
      clear h2 h3 h4 hT
      go_enter Tryz.func124,Tryz.ntmps124
      go_wp2_with fail
      go_ret
      exact ⟨by rw [R.out];rfl,X0.bel⟩
end Go.Proofs.YtalfbnllodhkiacGreatDoor
namespace Go.Proofs.YtalfbnllodhkiacGreatDoor
open Go.ChangeShapes Go.WideShapes Go.ChangeAt Go.RowKit Go.Shelf
set_option linter.unusedSimpArgs false
set_option linter.unusedVariables false
theorem intsText_any (b f : UInt8) (l : List Int) (a : Option Addr) (c : Nat) (w : World) (hl0 : intsL.In w All l [.slice a l.length c]) (hp0 : Pows w) (hn : l.length ≤ 300) :
    Calls Tryz.prog 92 #[.string ⟨#[b]⟩,.slice a l.length c,.string ⟨#[f]⟩] w fun e w'=>e=.returned (.string (str (intsT b f l)))∧Below w.heap.size w w':=by
  have hl:Hid (intsL.In w All l [.slice a l.length c]):=hl0
  have hp:Hid (Pows w):=hp0
  clear hl0 hp0
  go_enter Tryz.func92,Tryz.ntmps92
  go_wp2_with fail
  go_loopw [7,8] (fun v i wr=>∃ q:Nat,q≤l.length∧i=.int .i64 q∧v=.string ⟨(b::catL ((l.take q).map Lib.itoa)).toArray⟩∧Below w.heap.size w wr) (fun _ i _=>l.length - (intOf i).toNat)
  case atStart=>exact ⟨0,Nat.zero_le _,rfl,rfl,Below.refl _ _⟩
  case round =>
    obtain ⟨q,hq,rfl,rfl,hb⟩:=hrel
    have Bl:Hid (Below w.heap.size w wr):=hb
    clear hb
    have hcl:(catL ((l.take q).map Lib.itoa)).length≤7000:=by
      have h1:=cat_len (t:=Lib.itoa) (k:=21) (l:=l.take q) (fun x hx=>have:=List.mem_of_mem_take hx;Lib.itoa_length_le x (ints_i64 hl.out x this).1 (ints_i64 hl.out x this).2)
      rw [List.length_take] at h1
      omega
    by_cases hlt:q<l.length
    · have hx:l[q]?=some l[q]:=List.getElem?_eq_getElem hlt
      obtain ⟨g,o,rfl,_,hg,hc⟩:=ints_at (Lay.below hl.out Bl.out) hlt
      have hI:=ints_i64 hl.out _ (List.mem_of_getElem? hx)
      rw [show l.getD q 0=l[q] by simp [List.getD,hlt]] at hc
      generalize l[q]=x at hx hc hI
      have C:Hid (Calls Tryz.prog 88 #[.int .i64 x] wr fun e w'=>e=.returned (.string ⟨(Lib.itoa x).toArray⟩)∧Below wr.heap.size wr w'):=itoa_any x hI wr (hp.out.below Bl.out)
      have S:Hid (catL ((l.take (q+1)).map Lib.itoa)=catL ((l.take q).map Lib.itoa)++(if q=0 then [] else [44,32])++Lib.itoa x):=by
        show _=_
        rw [List.take_add_one,hx,Option.toList_some,List.map_append,List.map_cons,List.map_nil,catL_snoc]
        rw [List.length_map,List.length_take,Nat.min_eq_left (by omega)]
      have hxl:(Lib.itoa x).length≤21:=Lib.itoa_length_le x hI.1 hI.2
      have hk0:(0:Int)≤q:=by omega
      have hk1:(q:Int)<l.length:=by omega
      clear hx hI
      generalize Lib.itoa x=tx at C S hxl
      generalize catL ((l.take q).map Lib.itoa)=cq at S hcl ⊢
      by_cases hz:q=0
      · have hz':¬ (0:Int)<q:=by omega
        have R:Hid (catL ((l.take (q+1)).map Lib.itoa)=cq++tx):=by rw [S.out,if_pos hz];show _=_;simp
        clear hz S
        go_wp2_with fail
        refine C.out.mono ?_
        rintro e w2 ⟨rfl,b2⟩
        have B3:Hid (Below w.heap.size w w2):=Bl.out.trans (b2.mono Bl.out.size)
        clear b2 C
        go_wp2
        go_roundw
        case rel=>exact ⟨q+1,by omega,by go_num,by rw [ByteArray.mk_append_mk,R.out];rfl,B3.out⟩
        case measure=>simp [intOf];omega
      · have hz':(0:Int)<q:=by omega
        have R:Hid (catL ((l.take (q+1)).map Lib.itoa)=cq++[44,32]++tx):=by show _=_;rw [S.out,if_neg hz]
        clear hz S
        go_wp2_with fail
        refine C.out.mono ?_
        rintro e w2 ⟨rfl,b2⟩
        have B3:Hid (Below w.heap.size w w2):=Bl.out.trans (b2.mono Bl.out.size)
        clear b2 C
        go_wp2
        go_roundw
        case rel=>exact ⟨q+1,by omega,by go_num,by rw [ByteArray.mk_append_mk (b::cq) [44,32],ByteArray.mk_append_mk,R.out];simp,B3.out⟩
        case measure=>simp [intOf];omega
    · have hk1:¬ (q:Int)<l.length:=by omega
      have htt:l.take q=l:=List.take_of_length_le (by omega)
      rw [htt] at hcl ⊢
      clear htt
      have E:Hid (str (intsT b f l)=⟨(b::catL (l.map Lib.itoa)).toArray⟩++⟨#[f]⟩):=by
        show _=_
        rw [ByteArray.mk_append_mk _ [f]];rfl
      generalize catL (l.map Lib.itoa)=cq at hcl E ⊢
      go_wp2
      go_ret
      exact ⟨by rw [E.out];rfl,Bl.out⟩
theorem small_any (l : List Int) (a : Option Addr) (c : Nat) (w : World) (hl0 : intsL.In w All l [.slice a l.length c]) (hn : l.length ≤ 300) :
    Calls Tryz.prog 48 #[.slice a l.length c] w fun e w'=>e=.returned (.bool (l.all numB))∧Below w.heap.size w w':=by
  have hl:Hid (intsL.In w All l [.slice a l.length c]):=hl0
  clear hl0
  go_enter Tryz.func48,Tryz.ntmps48
  go_wp2_with fail
  go_loopw [3] (fun i wr=>∃ q:Nat,q≤l.length∧i=.int .i64 q∧(l.take q).all numB=true∧Below w.heap.size w wr) (fun i _=>l.length - (intOf i).toNat)
  case atStart=>exact ⟨0,Nat.zero_le _,rfl,rfl,Below.refl _ _⟩
  case round =>
    obtain ⟨q,hq,rfl,ha,hb⟩:=hrel
    have Bl:Hid (Below w.heap.size w wr):=hb
    have A:Hid ((l.take q).all numB=true):=ha
    clear hb ha
    by_cases hlt:q<l.length
    · have hx:l[q]?=some l[q]:=List.getElem?_eq_getElem hlt
      obtain ⟨g,o,rfl,_,hg,hc⟩:=ints_at (Lay.below hl.out Bl.out) hlt
      rw [show l.getD q 0=l[q] by simp [List.getD,hlt]] at hc
      generalize l[q]=x at hx hc
      have hk0:(0:Int)≤q:=by omega
      have hk1:(q:Int)<l.length:=by omega
      have M:Hid (x∈l):=List.mem_of_getElem? hx
      have S:Hid ((l.take (q+1)).all numB=numB x):=by
        show _=_
        rw [List.take_add_one,hx,Option.toList_some,List.all_append,A.out];simp
      clear hx A
      by_cases hn:numB x=true
      · have h1:¬ x<0:=by simp [numB] at hn;omega
        have h2:¬ 1000000<x:=by simp [numB] at hn;omega
        have S2:Hid ((l.take (q+1)).all numB=true):=S.out.trans hn
        clear hn S M
        go_wp2
        go_roundw
        case rel=>exact ⟨q+1,by omega,by go_num,S2.out,Bl.out⟩
        case measure=>simp [intOf];omega
      · have F:Hid (l.all numB=false):=by
          show _=_
          rw [List.all_eq_false]
          exact ⟨x,M.out,hn⟩
        by_cases h1:x<0
        · clear hn S M
          go_wp2
          go_ret
          exact ⟨by rw [F.out];rfl,Bl.out⟩
        · have h2:1000000<x:=by simp [numB] at hn;omega
          clear hn S M
          go_wp2
          go_ret
          exact ⟨by rw [F.out];rfl,Bl.out⟩
    · have hk1:¬ (q:Int)<l.length:=by omega
      have htt:l.take q=l:=List.take_of_length_le (by omega)
      rw [htt] at A
      go_wp2
      go_ret
      exact ⟨by rw [A.out];rfl,Bl.out⟩
theorem cat_letter (a b : List UInt8) : ∃ y, Hid (a ++ b = y) ∧ y.length = a.length + b.length := ⟨a ++ b, (rfl : a ++ b = a ++ b), List.length_append⟩
theorem str_add (a b : List UInt8) : Value.string (str a ++ str b) = .string (str (a ++ b)) := congrArg Value.string (ByteArray.mk_append_mk a b)
theorem toTextR_any (t : MTo) (cs : List Value) (w : World) (h0 : toL.In w All t cs) (hp0 : Pows w) (hs : t.small) :
    Calls Tryz.prog 91 #[.agg cs.toArray] w fun e w'=>e=.returned (.string (str t.txt))∧Below w.heap.size w w':=by
  obtain ⟨a,c,b,d,rfl,h1,h2,h3⟩:=to_form h0
  obtain ⟨s1,s2⟩:=hs
  have l1:=ints_len 60 62 h1 s1
  have l2:=ints_len 40 41 h2 s2
  have l0:=Lib.itoa_length_le _ h3.1 h3.2
  have T:Hid (t.txt=Lib.itoa t.block++[32]++intsT 60 62 t.regs++[32]++intsT 40 41 t.args):=by
    show _=_
    simp [MTo.txt]
  have C0:Hid (∀ wx,Below w.heap.size w wx→Calls Tryz.prog 88 #[.int .i64 t.block] wx fun e w'=>e=.returned (.string (str (Lib.itoa t.block)))∧Below wx.heap.size wx w'):=fun wx hb=>itoa_any _ h3 wx (hp0.below hb)
  have C1:Hid (∀ wx,Below w.heap.size w wx→Calls Tryz.prog 92 #[.string ⟨#[60]⟩,.slice a t.regs.length c,.string ⟨#[62]⟩] wx fun e w'=>e=.returned (.string (str (intsT 60 62 t.regs)))∧Below wx.heap.size wx w'):=fun wx hb=>intsText_any _ _ _ _ _ wx (Lay.below h1 hb) (hp0.below hb) s1
  have C2:Hid (∀ wx,Below w.heap.size w wx→Calls Tryz.prog 92 #[.string ⟨#[40]⟩,.slice b t.args.length d,.string ⟨#[41]⟩] wx fun e w'=>e=.returned (.string (str (intsT 40 41 t.args)))∧Below wx.heap.size wx w'):=fun wx hb=>intsText_any _ _ _ _ _ wx (Lay.below h2 hb) (hp0.below hb) s2
  rw [T.out]
  clear T h0 h1 h2 h3 hp0 s1 s2
  generalize Lib.itoa t.block=z0 at C0 l0 ⊢
  generalize intsT 60 62 t.regs=z1 at C1 l1 ⊢
  generalize intsT 40 41 t.args=z2 at C2 l2 ⊢
  generalize t.block=k0 at C0 ⊢
  generalize t.regs.length=k1 at C1 ⊢
  generalize t.args.length=k2 at C2 ⊢
  have X1:Hid (Blk (w.alloc (.cells #[.int .i64 k0,.slice a k1 c,.slice b k2 d] 48)) w.heap.size #[.int .i64 k0,.slice a k1 c,.slice b k2 d] 48):=Blk.new _ _ _
  have X1l:Hid (w.heap.size<(w.alloc (.cells #[.int .i64 k0,.slice a k1 c,.slice b k2 d] 48)).heap.size):=by show _<_;simp
  have B1:Hid (Below w.heap.size w (w.alloc (.cells #[.int .i64 k0,.slice a k1 c,.slice b k2 d] 48))):=bel1 _ _
  obtain ⟨y6,Ey6,ly6⟩:=cat_letter z0 [32]
  rw [Ey6.out]
  obtain ⟨y10,Ey10,ly10⟩:=cat_letter y6 z1
  rw [Ey10.out]
  obtain ⟨y11,Ey11,ly11⟩:=cat_letter y10 [32]
  rw [Ey11.out]
  obtain ⟨y15,Ey15,ly15⟩:=cat_letter y11 z2
  rw [Ey15.out]
  go_enter Tryz.func91,Tryz.ntmps91
  go_wp2_with fail
  generalize w.alloc (.cells #[.int .i64 k0,.slice a k1 c,.slice b k2 d] 48)=w1 at X1 X1l B1 ⊢
  refine wp_puts [3,4,5,6,7,8,9,10,11,12,13,14,15,2] (fun vs w'=>vs 2=.string (str y15)∧Below w1.heap.size w1 w') ?_ ?_
  · refine wp_region_calm (PTab.E ([(1,fun v _=>v=.pointer (some ⟨w.heap.size,0,none⟩)),(3,fun v _=>v=.pointer (some ⟨w.heap.size,0,none⟩)),(4,fun v _=>v=.int .i64 k0),(5,fun v _=>v=.string (str z0)),(6,fun v _=>v=.string (str y6)),(7,fun v _=>v=.pointer (some ⟨w.heap.size,1,none⟩)),(8,fun v _=>v=.slice a k1 c),(9,fun v _=>v=.string (str z1)),(10,fun v _=>v=.string (str y10)),(11,fun v _=>v=.string (str y11)),(12,fun v _=>v=.pointer (some ⟨w.heap.size,2,none⟩)),(13,fun v _=>v=.slice b k2 d),(14,fun v _=>v=.string (str z2)),(15,fun v _=>v=.string (str y15)),(2,fun v _=>v=.string (str y15))]:PTab)) (fun wx=>Below w1.heap.size w1 wx) (fun w w'=>Below w.heap.size w w') (outs:=[1]) (gs:=[]) (bs:=[true,true,true,true,true,true,true,true,true,true,true,true,true,true]) (by kernel_rfl) (n:=16) rfl (Nat.le_refl _) (by kernel_rfl) (PTab_stable _ ⟨fun _ _ _ _ h=>h,fun _ _ _ _ h=>h,fun _ _ _ _ h=>h,fun _ _ _ _ h=>h,fun _ _ _ _ h=>h,fun _ _ _ _ h=>h,fun _ _ _ _ h=>h,fun _ _ _ _ h=>h,fun _ _ _ _ h=>h,fun _ _ _ _ h=>h,fun _ _ _ _ h=>h,fun _ _ _ _ h=>h,fun _ _ _ _ h=>h,fun _ _ _ _ h=>h,fun _ _ _ _ h=>h,trivial⟩) ?hG (drewN_below (m:=1) (Below.refl _ _)) ⟨rfl,trivial⟩ ?hA ?hend
    case hG=>exact trivial
    case hend=>exact fun vs w' hW hk=>⟨rfl,vs,rfl,hk 2 (by kernel_rfl),hW⟩
    case hA =>
      refine ⟨fun ac wc hW hk K hK=>?_,?_⟩
      · obtain ⟨q0,-⟩:=hk
        have q0:ac.tmps.getD 1 undef=.pointer (some ⟨w.heap.size,0,none⟩):=q0
        go_simp
        exact hK _ _ (Below.refl _ _) hW rfl
      refine ⟨fun ac wc hW hk K hK=>?_,?_⟩
      · obtain ⟨q0,-⟩:=hk
        have q0:ac.tmps.getD 3 undef=.pointer (some ⟨w.heap.size,0,none⟩):=q0
        have c0:=cellOf ((hW.block _ X1l.out).trans X1.out) 0 _ rfl
        go_simp
        exact hK _ _ (Below.refl _ _) hW rfl
      refine ⟨fun ac wc hW hk K hK=>?_,?_⟩
      · obtain ⟨q0,-⟩:=hk
        have q0:ac.tmps.getD 4 undef=.int .i64 k0:=q0
        go_simp
        refine (C0.out wc (B1.out.trans (hW.mono B1.out.size))).mono ?_
        rintro r7 w7 ⟨rfl,b7⟩
        go_simp
        exact hK _ _ b7 (hW.trans (b7.mono hW.size)) rfl
      refine ⟨fun ac wc hW hk K hK=>?_,?_⟩
      · obtain ⟨q0,-⟩:=hk
        have q0:ac.tmps.getD 5 undef=.string (str z0):=q0
        have n0:¬ 9223372036854775807<(str z0).size+1:=by simp only [str_size];simp only [List.length_cons,List.length_nil] at *;omega
        go_simp
        exact hK _ _ (Below.refl _ _) hW (by rw [← Ey6.out];exact str_add z0 [32])
      refine ⟨fun ac wc hW hk K hK=>?_,?_⟩
      · obtain ⟨q0,-⟩:=hk
        have q0:ac.tmps.getD 1 undef=.pointer (some ⟨w.heap.size,0,none⟩):=q0
        go_simp
        exact hK _ _ (Below.refl _ _) hW rfl
      refine ⟨fun ac wc hW hk K hK=>?_,?_⟩
      · obtain ⟨q0,-⟩:=hk
        have q0:ac.tmps.getD 7 undef=.pointer (some ⟨w.heap.size,1,none⟩):=q0
        have c0:=cellOf ((hW.block _ X1l.out).trans X1.out) 1 _ rfl
        go_simp
        exact hK _ _ (Below.refl _ _) hW rfl
      refine ⟨fun ac wc hW hk K hK=>?_,?_⟩
      · obtain ⟨q0,-⟩:=hk
        have q0:ac.tmps.getD 8 undef=.slice a k1 c:=q0
        go_simp
        refine (C1.out wc (B1.out.trans (hW.mono B1.out.size))).mono ?_
        rintro r7 w7 ⟨rfl,b7⟩
        go_simp
        exact hK _ _ b7 (hW.trans (b7.mono hW.size)) rfl
      refine ⟨fun ac wc hW hk K hK=>?_,?_⟩
      · obtain ⟨q0,q1,-⟩:=hk
        have q0:ac.tmps.getD 6 undef=.string (str y6):=q0
        have q1:ac.tmps.getD 9 undef=.string (str z1):=q1
        have n0:¬ 9223372036854775807<(str y6).size+(str z1).size:=by simp only [str_size];simp only [List.length_cons,List.length_nil] at *;omega
        go_simp
        exact hK _ _ (Below.refl _ _) hW (by rw [← Ey10.out];exact str_add y6 z1)
      refine ⟨fun ac wc hW hk K hK=>?_,?_⟩
      · obtain ⟨q0,-⟩:=hk
        have q0:ac.tmps.getD 10 undef=.string (str y10):=q0
        have n0:¬ 9223372036854775807<(str y10).size+1:=by simp only [str_size];simp only [List.length_cons,List.length_nil] at *;omega
        go_simp
        exact hK _ _ (Below.refl _ _) hW (by rw [← Ey11.out];exact str_add y10 [32])
      refine ⟨fun ac wc hW hk K hK=>?_,?_⟩
      · obtain ⟨q0,-⟩:=hk
        have q0:ac.tmps.getD 1 undef=.pointer (some ⟨w.heap.size,0,none⟩):=q0
        go_simp
        exact hK _ _ (Below.refl _ _) hW rfl
      refine ⟨fun ac wc hW hk K hK=>?_,?_⟩
      · obtain ⟨q0,-⟩:=hk
        have q0:ac.tmps.getD 12 undef=.pointer (some ⟨w.heap.size,2,none⟩):=q0
        have c0:=cellOf ((hW.block _ X1l.out).trans X1.out) 2 _ rfl
        go_simp
        exact hK _ _ (Below.refl _ _) hW rfl
      refine ⟨fun ac wc hW hk K hK=>?_,?_⟩
      · obtain ⟨q0,-⟩:=hk
        have q0:ac.tmps.getD 13 undef=.slice b k2 d:=q0
        go_simp
        refine (C2.out wc (B1.out.trans (hW.mono B1.out.size))).mono ?_
        rintro r7 w7 ⟨rfl,b7⟩
        go_simp
        exact hK _ _ b7 (hW.trans (b7.mono hW.size)) rfl
      refine ⟨fun ac wc hW hk K hK=>?_,?_⟩
      · obtain ⟨q0,q1,-⟩:=hk
        have q0:ac.tmps.getD 11 undef=.string (str y11):=q0
        have q1:ac.tmps.getD 14 undef=.string (str z2):=q1
        have n0:¬ 9223372036854775807<(str y11).size+(str z2).size:=by simp only [str_size];simp only [List.length_cons,List.length_nil] at *;omega
        go_simp
        exact hK _ _ (Below.refl _ _) hW (by rw [← Ey15.out];exact str_add y11 z2)
      refine ⟨fun ac wc hW hk K hK=>?_,?_⟩
      · obtain ⟨q0,-⟩:=hk
        have q0:ac.tmps.getD 15 undef=.string (str y15):=q0
        go_simp
        exact hK _ _ (Below.refl _ _) hW rfl
      trivial
  rintro vs wx ⟨hv0,hb⟩
  simp only [puts,Act.put,List.setIfInBounds_toArray,List.set_cons_zero,List.set_cons_succ,hv0]
  have B2:Hid (Below w.heap.size w wx):=B1.out.trans (hb.mono B1.out.size)
  clear hb
  go_wp2
  go_ret
  exact ⟨rfl,B2.out⟩
theorem typesTextR_any {n : Nat} (l : List (TT n)) (a : Option Addr) (c : Nat) (w : World) (h : (typesL n).In w All l [.slice a l.length c]) (hp : Pows w) (hs : ¬ greatTs l) :
    Calls Tryz.prog 89 #[.slice a l.length c] w fun e w'=>e=.returned (.string (str (typsT l)))∧Below w.heap.size w w':=by
  obtain ⟨h1,h2⟩:l.length≤200∧∀ t∈l,t.count≤2000:=⟨Nat.le_of_not_lt fun x=>hs (.inl x),fun t ht=>Nat.le_of_not_lt fun x=>hs (.inr ⟨t,ht,x⟩)⟩
  obtain ⟨h3,h4⟩:=types_lin h
  refine (typesText_any n (typeText_any n) l a c w h3 h2 (by omega) h4 hp ?_).mono fun e w' h=>⟨by rw [h.1];simp [typsT,str],h.2⟩
  have:=sum_map_le (l:=l) (f:=TT.count) (g:=fun _=>2000) h2
  have e:(l.map (fun _=>2000)).sum=2000*l.length:=by
    clear this h h1 h2 h3 h4 hs
    induction l with
    | nil=>rfl
    | cons x l ih=>rw [List.map_cons,List.sum_cons,ih,List.length_cons];omega
  omega
theorem str_app (a b : List UInt8) : str a ++ str b = str (a ++ b) := ByteArray.mk_append_mk a b
theorem flatm_len {α : Type} {t : α → List UInt8} {k : Nat} : ∀ {l : List α}, (∀ x ∈ l, (t x).length ≤ k) → (l.flatMap t).length ≤ k * l.length
  | [],_=>by simp
  | x::l,h=>by
    have h1:=h x (by simp)
    have h2:=flatm_len (l:=l) (fun y hy=>h y (by simp [hy]))
    rw [List.flatMap_cons,List.length_append,List.length_cons,Nat.mul_succ]
    omega
theorem list_mem {α : Type} {A : Lay α} {w : World} {O : Nat → Prop} {l : List α} {cs : List Value} {x : α} (h : A.list.In w O l cs) (hx : x ∈ l) : ∃ ds, A.In w O x ds := by
  obtain ⟨a,c,rfl,h1⟩:=list_form h
  obtain ⟨i,hi⟩:=List.getElem?_of_mem hx
  obtain ⟨g,o,ds,_,_,_,_,hds⟩:=Lay.list_at h1 hi
  exact ⟨ds,hds⟩
theorem rtyps_len {n : Nat} {l : List (TT n)} (ho : ∀ x ∈ l, x.ok) (h : ¬ greatTs l) : (typsT l).length ≤ 20000000 := by
  obtain ⟨h1,h2⟩:l.length≤200∧∀ t∈l,t.count≤2000:=⟨Nat.le_of_not_lt fun x=>h (.inl x),fun t ht=>Nat.le_of_not_lt fun x=>h (.inr ⟨t,ht,x⟩)⟩
  have:=cat_len (t:=TT.txt) (k:=80000) (l:=l) (fun x hx=>by have:=TT.txt_len (ho x hx);have:=h2 x hx;omega)
  simp only [typsT,List.length_cons,List.length_append,List.length_nil]
  omega
theorem code_len {l : List MIns} {w : World} {O : Nat → Prop} {cs : List Value} (h : insL.list.In w O l cs) (hs : ∀ y ∈ l, y.small) (hn : l.length ≤ 200) : (codeT l).length ≤ 5000000 := by
  have:=flatm_len (t:=fun x:MIns=>lineT x.txt) (k:=20003) (l:=l) (fun x hx=>by
    obtain ⟨ds,hd⟩:=list_mem h hx
    have:=ins_len hd (hs x hx)
    simp only [lineT,List.length_cons,List.length_append,List.length_nil]
    omega)
  unfold codeT
  omega
theorem bhead_len {n : Nat} {x : MBlock n} {w : World} {O : Nat → Prop} {cs : List Value} (h : (blockL n).In w O x cs) (hg : ¬ x.great) : x.head.length ≤ 20000100 := by
  obtain ⟨a1,k1,a2,k2,es,rfl,u1,u2,he,hr⟩:=block_form h
  have l1:=rtyps_len (types_lin u1).2 (fun h=>hg (.inr (.inl h)))
  have l0:=Lib.itoa_length_le _ hr.1 hr.2
  simp only [MBlock.head,nT,wBlock,List.length_cons,List.length_append,List.length_nil]
  omega
theorem block_len {n : Nat} {x : MBlock n} {w : World} {O : Nat → Prop} {cs : List Value} (h : (blockL n).In w O x cs) (hg : ¬ x.great) : x.txt.length ≤ 26000000 := by
  have hs:=MBlock.small_of hg
  have l0:=bhead_len h hg
  obtain ⟨a1,k1,a2,k2,es,rfl,u1,u2,he,hr⟩:=block_form h
  have l1:=code_len u2 hs.2.2.2 (Nat.le_of_not_lt fun h=>hg (.inl h))
  have l2:=end_len he hs.2.2.1
  simp only [MBlock.txt,lineT,List.length_cons,List.length_append,List.length_nil]
  omega
theorem blocks_len {n : Nat} {l : List (MBlock n)} {w : World} {O : Nat → Prop} {cs : List Value} (h : (blockL n).list.In w O l cs) (hg : ∀ y ∈ l, ¬ y.great) (hn : l.length ≤ 30) : (blocksT l).length ≤ 800000000 := by
  have:=flatm_len (t:=MBlock.txt) (k:=26000000) (l:=l) (fun x hx=>by
    obtain ⟨ds,hd⟩:=list_mem h hx
    exact block_len hd (hg x hx))
  unfold blocksT
  omega
theorem func_len {n : Nat} {x : MFunc n} {w : World} {O : Nat → Prop} {cs : List Value} (h : (funcL n).In w O x cs) (hg : ¬ x.great) : x.txt.length ≤ 900000000 := by
  obtain ⟨a1,k1,a2,k2,a3,k3,rfl,u1,u2,u3,hr⟩:=func_form h
  have l0:=Lib.itoa_length_le _ hr.1 hr.2
  have l1:=rtyps_len (types_lin u1).2 (fun h=>hg (.inr (.inl h)))
  have l2:=rtyps_len (types_lin u2).2 (fun h=>hg (.inr (.inr (.inl h))))
  have l3:=blocks_len u3 (fun y hy h=>hg (.inr (.inr (.inr ⟨y,hy,h⟩)))) (Nat.le_of_not_lt fun h=>hg (.inl h))
  simp only [MFunc.txt,MFunc.head,nT,wFunc,List.length_cons,List.length_append,List.length_nil]
  omega
theorem mod_len {n : Nat} {m : List (MFunc n)} {w : World} {O : Nat → Prop} {cs : List Value} (h : (modL n).In w O m cs) (hg : ¬ greatMod m) : (modTxt m).length ≤ 20000000000 := by
  have hn:m.length≤20:=Nat.le_of_not_lt fun x=>hg (.inl x)
  have:=flatm_len (t:=MFunc.txt) (k:=900000000) (l:=m) (fun x hx=>by
    obtain ⟨ds,hd⟩:=list_mem (A:=funcL n) h hx
    exact func_len hd (fun h=>hg (.inr ⟨x,hx,h⟩)))
  unfold modTxt
  omega
structure InsSt (w wx : World) (cx ch : Array Value) (S H : Nat) (z : List UInt8) : Prop where
  bel:Below w.heap.size w wx
  x:Blk wx w.heap.size cx 45
  s:Blk wx S #[.string (str z)] 9
  h:Blk wx H ch 156
  lt:w.heap.size<S∧S<H
section
variable {w wx wy : World} {cx ch : Array Value} {S H : Nat} {z : List UInt8}
theorem InsSt.below (h : InsSt w wx cx ch S H z) (b : Below wx.heap.size wx wy) : InsSt w wy cx ch S H z :=
  ⟨h.bel.trans (b.mono h.bel.size),(b.block _ (lt_of_block h.x)).trans h.x,(b.block _ (lt_of_block h.s)).trans h.s,(b.block _ (lt_of_block h.h)).trans h.h,h.lt⟩
theorem InsSt.set (h : InsSt w wx cx ch S H z) (y : List UInt8) : InsSt w (wx.setCell ⟨S, 0, none⟩ (.string (str y))) cx ch S H y :=
  ⟨h.bel.setCell (p:=⟨S,0,none⟩) (Nat.le_of_lt h.lt.1) _,h.x.setOther (p:=⟨S,0,none⟩) (by have:=h.lt;show S≠_;omega) _,by have:=blockSet h.s 0 (.string (str y));simpa using this,h.h.setOther (p:=⟨S,0,none⟩) (by have:=h.lt;show S≠_;omega) _,h.lt⟩
end
theorem enters_insText1 : ∀ (args : Array Value) (w : World), (callFunc 125 args).run Tryz.prog w = .ok (.enter 125 args) w := fun _ _ => by kernel_rfl
theorem addNum_any {w wx : World} {cx ch : Array Value} {S H : Nat} {z : List UInt8} (k : Int) (hI : -9223372036854775808 ≤ k ∧ k ≤ 9223372036854775807) (h0 : InsSt w wx cx ch S H z) (hp : Pows wx) (hz : z.length ≤ 100000) :
    Calls Tryz.prog 125 #[.int .i64 k,.pointer (some ⟨S,0,none⟩)] wx fun e w'=>e=.returned (.tuple #[])∧InsSt w w' cx ch S H (z++nT k):=by
  have I:Hid (InsSt w wx cx ch S H z):=h0
  have c0:=cellOf h0.s 0 _ rfl
  have C:Hid (∀ m,Calls Tryz.prog 88 #[.int .i64 k] (wx.drewN m) fun e w'=>e=.returned (.string (str (Lib.itoa k)))∧InsSt w w' cx ch S H z):=fun m=>(itoa_any k hI _ (hp.below (drewN_below (Below.refl _ _)))).mono fun e w' h=>⟨h.1,h0.below ((drewN_below (Below.refl _ _)).trans h.2)⟩
  have hl:=Lib.itoa_length_le k hI.1 hI.2
  have T:Hid (str (z++nT k)=str z++(⟨#[32]⟩++str (Lib.itoa k))):=by
    show _=_
    rw [show (⟨#[32]⟩:ByteArray)++str (Lib.itoa k)=str (32::Lib.itoa k) from ByteArray.mk_append_mk [32] _]
    exact (ByteArray.mk_append_mk z _).symm
  have G:Hid (∀ w',InsSt w w' cx ch S H z→InsSt w (w'.setCell ⟨S,0,none⟩ (.string (str (z++nT k)))) cx ch S H (z++nT k)):=fun w' h=>h.set _
  rw [← str_size] at hz hl
  clear hp hI h0
  have f0:=freeOf I.out.s 0
  generalize str (Lib.itoa k)=t at C hl T
  generalize z++nT k=y at T G ⊢
  have n1:¬ 9223372036854775807<1+t.size:=by omega
  have n2:¬ 9223372036854775807<(str z).size+(1+t.size):=by omega
  go_enter Tryz.func125,Tryz.ntmps125
  go_region_with (go_at_call 88;refine (C.out _).mono ?_;rintro e w5 ⟨rfl,n5⟩;have N5:Hid (InsSt w w5 cx ch S H z):=n5;clear n5;have f1:=cellOf N5.out.s 0 _ rfl;have f2:=freeOf N5.out.s 0)
  all_goals
    go_wp2
    rw [← T.out]
    exact bodyPost_end (v:=.tuple #[]) (by simp [results,Tryz.results125,go_sem]) rfl ⟨rfl,G.out _ N5.out⟩
theorem opWord_any (k : Int) (w : World) : Calls Tryz.prog 13 #[.int .i64 k] w fun v w' => v = .returned (.string (str (wordAt opWords k))) ∧ Below w.heap.size w w' := by
  by_cases h1:k<1
  · have hw:Hid (wordAt opWords k=[]):=by show _=_;simp [wordAt,h1]
    go_enter Tryz.func13,Tryz.ntmps13
    go_wp2
    go_ret
    exact ⟨by rw [hw.out];rfl,Below.refl _ _⟩
  · by_cases h2:14<k
    · have hw:Hid (wordAt opWords k=[]):=by
        show _=_
        rw [wordAt,if_neg h1,List.getD,List.getElem?_eq_none (by simp [opWords];omega)]
        rfl
      go_enter Tryz.func13,Tryz.ntmps13
      go_wp2
      go_ret
      exact ⟨by rw [hw.out];rfl,Below.refl _ _⟩
    · have hk:k=1∨k=2∨k=3∨k=4∨k=5∨k=6∨k=7∨k=8∨k=9∨k=10∨k=11∨k=12∨k=13∨k=14:=by omega
      clear h1 h2
      rcases hk with rfl | rfl | rfl | rfl | rfl | rfl | rfl | rfl | rfl | rfl | rfl | rfl | rfl | rfl
      all_goals
        go_enter Tryz.func13,Tryz.ntmps13
        go_wp2
        go_ret
        exact ⟨rfl,bel1 _ _⟩
theorem kindWord_any (k : Int) (w : World) : Calls Tryz.prog 15 #[.int .i64 k] w fun v w' => v = .returned (.string (str (wordAt kindWords k))) ∧ Below w.heap.size w w' := by
  by_cases h1:k<1
  · have hw:Hid (wordAt kindWords k=[]):=by show _=_;simp [wordAt,h1]
    go_enter Tryz.func15,Tryz.ntmps15
    go_wp2
    go_ret
    exact ⟨by rw [hw.out];rfl,Below.refl _ _⟩
  · by_cases h2:9<k
    · have hw:Hid (wordAt kindWords k=[]):=by
        show _=_
        rw [wordAt,if_neg h1,List.getD,List.getElem?_eq_none (by simp [kindWords];omega)]
        rfl
      go_enter Tryz.func15,Tryz.ntmps15
      go_wp2
      go_ret
      exact ⟨by rw [hw.out];rfl,Below.refl _ _⟩
    · have hk:k=1∨k=2∨k=3∨k=4∨k=5∨k=6∨k=7∨k=8∨k=9:=by omega
      clear h1 h2
      rcases hk with rfl | rfl | rfl | rfl | rfl | rfl | rfl | rfl | rfl
      all_goals
        go_enter Tryz.func15,Tryz.ntmps15
        go_wp2
        go_ret
        exact ⟨rfl,bel1 _ _⟩
structure InsH (w : World) (cx ch : Array Value) (op ka kb kc kk kn : Int) (z zr zs zk : List UInt8) (a b : Option Addr) (nr c ns d : Nat) : Prop where
  CW:Hid (∀ wx,Below w.heap.size w wx→Calls Tryz.prog 13 #[.int .i64 op] wx fun e w'=>e=.returned (.string (str z))∧Below wx.heap.size wx w')
  CF:Hid (∀ wx,Calls Tryz.prog 114 #[.int .i64 op] wx fun e w'=>e=.returned (.tuple #[.agg ch,.bool true])∧Below wx.heap.size wx w')
  CK:Hid (∀ wx,Calls Tryz.prog 15 #[.int .i64 kk] wx fun e w'=>e=.returned (.string (str zk))∧Below wx.heap.size wx w')
  CN:Hid (∀ wx,Below w.heap.size w wx→Calls Tryz.prog 111 #[.int .i64 kn,.int .i64 10] wx fun e w'=>e=.returned (.string (str (Lib.itoa kn)))∧Below wx.heap.size wx w')
  CR:Hid (∀ wx,Below w.heap.size w wx→Calls Tryz.prog 92 #[.string ⟨#[60]⟩,.slice a nr c,.string ⟨#[62]⟩] wx fun e w'=>e=.returned (.string (str zr))∧Below wx.heap.size wx w')
  CS:Hid (∀ wx,Below w.heap.size w wx→Calls Tryz.prog 92 #[.string ⟨#[40]⟩,.slice b ns d,.string ⟨#[41]⟩] wx fun e w'=>e=.returned (.string (str zs))∧Below wx.heap.size wx w')
  CA:Hid (∀ k,k=ka∨k=kb∨k=kc∨k=kk→∀ wx S H y,InsSt w wx cx ch S H y→y.length≤100000→Calls Tryz.prog 125 #[.int .i64 k,.pointer (some ⟨S,0,none⟩)] wx fun e w'=>e=.returned (.tuple #[])∧InsSt w w' cx ch S H (y++nT k))
  lz:z.length≤20
  lk:zk.length≤20
  lr:zr.length≤7000
  ls:zs.length≤7000
  ln:(Lib.itoa kn).length≤21
  la:(nT ka).length≤22
  lb:(nT kb).length≤22
  lc:(nT kc).length≤22
  ld:(nT kk).length≤22
theorem InsSt.cells {w wx : World} {S H : Nat} {z : List UInt8} {op ka kb kc kk kn : Int} {a b : Option Addr} {nr c ns d : Nat} {f0 f1 f2 f3 f4 f5 f6 : Bool} (h : InsSt w wx #[.int .i64 op, .int .i64 ka, .int .i64 kb, .int .i64 kc, .int .i64 kk, .int .i64 kn, .slice a nr c, .slice b ns d] #[.bool f0, .bool f1, .bool f2, .bool f3, .bool f4, .bool f5, .bool f6] S H z) :
    wx.cell? ⟨w.heap.size,0,none⟩=some (.int .i64 op)∧wx.cell? ⟨w.heap.size,1,none⟩=some (.int .i64 ka)∧wx.cell? ⟨w.heap.size,2,none⟩=some (.int .i64 kb)∧wx.cell? ⟨w.heap.size,3,none⟩=some (.int .i64 kc)∧wx.cell? ⟨w.heap.size,4,none⟩=some (.int .i64 kk)∧wx.cell? ⟨w.heap.size,5,none⟩=some (.int .i64 kn)∧wx.cell? ⟨w.heap.size,6,none⟩=some (.slice a nr c)∧wx.cell? ⟨w.heap.size,7,none⟩=some (.slice b ns d)∧wx.cell? ⟨S,0,none⟩=some (.string (str z))∧wx.frozen? ⟨S,0,none⟩=false∧wx.cell? ⟨H,0,none⟩=some (.bool f0)∧wx.cell? ⟨H,1,none⟩=some (.bool f1)∧wx.cell? ⟨H,2,none⟩=some (.bool f2)∧wx.cell? ⟨H,5,none⟩=some (.bool f5)∧wx.cell? ⟨H,6,none⟩=some (.bool f6) :=
  ⟨cellOf h.x 0 _ rfl,cellOf h.x 1 _ rfl,cellOf h.x 2 _ rfl,cellOf h.x 3 _ rfl,cellOf h.x 4 _ rfl,cellOf h.x 5 _ rfl,cellOf h.x 6 _ rfl,cellOf h.x 7 _ rfl,cellOf h.s 0 _ rfl,freeOf h.s 0,cellOf h.h 0 _ rfl,cellOf h.h 1 _ rfl,cellOf h.h 2 _ rfl,cellOf h.h 5 _ rfl,cellOf h.h 6 _ rfl⟩
theorem InsSt.start {w w1 w2 : World} {cx ch : Array Value} {z : List UInt8} (b1 : Below (w.alloc (.cells cx 45)).heap.size (w.alloc (.cells cx 45)) w1) (b2 : Below (w1.alloc (.cells #[.string (str z)] 9)).heap.size (w1.alloc (.cells #[.string (str z)] 9)) w2) :
    InsSt w (w2.alloc (.cells ch 156)) cx ch w1.heap.size w2.heap.size z:=by
  have s1:=b1.size
  have s2:=b2.size
  simp only [World.size_alloc] at s1 s2
  have B1:Below w.heap.size w w1:=(bel1 _ _).trans (b1.mono (by simp))
  have B2:Below w1.heap.size w1 w2:=(bel1 _ _).trans (b2.mono (by simp))
  have x1:Blk w1 w.heap.size cx 45:=(b1.block _ (by simp)).trans (Blk.new _ _ _)
  have y1:Blk w2 w1.heap.size #[.string (str z)] 9:=(b2.block _ (by simp)).trans (Blk.new _ _ _)
  have x2:Blk w2 w.heap.size cx 45:=(B2.block _ (lt_of_block x1)).trans x1
  have B3:Below w2.heap.size w2 (w2.alloc (.cells ch 156)):=bel1 _ _
  exact ⟨B1.trans ((B2.mono (by omega)).trans (B3.mono (by omega))),(B3.block _ (lt_of_block x2)).trans x2,(B3.block _ (lt_of_block y1)).trans y1,Blk.new _ _ _,by omega,by omega⟩
theorem InsSt.set' {w wx : World} {cx ch : Array Value} {S H : Nat} {z y : List UInt8} {v : ByteArray} (h : InsSt w wx cx ch S H z) (e : str y = v) : InsSt w (wx.setCell ⟨S, 0, none⟩ (.string v)) cx ch S H y := e ▸ h.set y
theorem str_put (z t : List UInt8) : str (z ++ 32 :: t) = str z ++ (⟨#[32]⟩ ++ str t) := by
  rw [show (⟨#[32]⟩:ByteArray)++str t=str (32::t) from ByteArray.mk_append_mk [32] _]
  exact (ByteArray.mk_append_mk z _).symm
theorem ins_none {w : World} {ka kb kc kk kn : Int} {z zr zs zk : List UInt8} {a b : Option Addr} {nr c ns d : Nat} (op : Int) (ho : op = 3 ∨ op = 12) (h : InsH w #[.int .i64 op, .int .i64 ka, .int .i64 kb, .int .i64 kc, .int .i64 kk, .int .i64 kn, .slice a nr c, .slice b ns d] #[.bool false, .bool false, .bool false, .bool false, .bool false, .bool false, .bool false] op ka kb kc kk kn z zr zs zk a b nr c ns d) :
    Calls Tryz.prog 90 #[.agg #[.int .i64 op,.int .i64 ka,.int .i64 kb,.int .i64 kc,.int .i64 kk,.int .i64 kn,.slice a nr c,.slice b ns d]] w fun e w'=>e=.returned (.string (str z))∧Below w.heap.size w w':=by
  obtain ⟨CW,CF,CK,CN,CR,CS,CA,lz,lk,lr,ls,ln,la,lb,lc,ld⟩:=h
  have hE:=enters_insText1
  rcases ho with rfl | rfl
  all_goals
    go_enter Tryz.func90,Tryz.ntmps90
    go_wp2_with fail
    refine (CW.out _ (bel1 _ _)).mono ?_
    rintro e w1 ⟨rfl,b1⟩
    have B1:Hid (Below (w.alloc (.cells _ 45)).heap.size (w.alloc (.cells _ 45)) w1):=b1
    have v0:=cellOf (((bel1 w1 (.cells #[.string (str z)] 9)).block w.heap.size (by have:=b1.size;simp at this;omega)).trans ((b1.block _ (by simp)).trans (Blk.new _ _ _))) 0 _ rfl
    clear b1
    go_wp2_with fail
    refine (CF.out _).mono ?_
    rintro e w2 ⟨rfl,b2⟩
    have I0:Hid (InsSt w _ _ #[.bool false,.bool false,.bool false,.bool false,.bool false,.bool false,.bool false] w1.heap.size w2.heap.size z):=InsSt.start B1.out b2
    obtain ⟨x0,x1,x2,x3,x4,x5,x6,x7,s0,s1,h0,h1,h2,h5,h6⟩:=I0.out.cells
    clear b2 B1 v0
    go_wp2_with fail
    generalize w2.alloc (.cells #[.bool false,.bool false,.bool false,.bool false,.bool false,.bool false,.bool false] 156)=v at I0 x0 x1 x2 x3 x4 x5 x6 x7 s0 s1 h0 h1 h2 h5 h6 ⊢
    go_ret
    exact ⟨rfl,I0.out.bel⟩
theorem ins_a {w : World} {ka kb kc kk kn : Int} {z zr zs zk : List UInt8} {a b : Option Addr} {nr c ns d : Nat} (op : Int) (ho : op = 4 ∨ op = 11 ∨ op = 13) (h : InsH w #[.int .i64 op, .int .i64 ka, .int .i64 kb, .int .i64 kc, .int .i64 kk, .int .i64 kn, .slice a nr c, .slice b ns d] #[.bool true, .bool false, .bool false, .bool false, .bool false, .bool false, .bool false] op ka kb kc kk kn z zr zs zk a b nr c ns d) :
    Calls Tryz.prog 90 #[.agg #[.int .i64 op,.int .i64 ka,.int .i64 kb,.int .i64 kc,.int .i64 kk,.int .i64 kn,.slice a nr c,.slice b ns d]] w fun e w'=>e=.returned (.string (str (z++nT ka)))∧Below w.heap.size w w':=by
  obtain ⟨CW,CF,CK,CN,CR,CS,CA,lz,lk,lr,ls,ln,la,lb,lc,ld⟩:=h
  have hE:=enters_insText1
  obtain ⟨y0,E0,m0⟩:=cat_letter z (nT ka)
  rw [E0.out]
  rcases ho with rfl | rfl | rfl
  all_goals
    go_enter Tryz.func90,Tryz.ntmps90
    go_wp2_with fail
    refine (CW.out _ (bel1 _ _)).mono ?_
    rintro e w1 ⟨rfl,b1⟩
    have B1:Hid (Below (w.alloc (.cells _ 45)).heap.size (w.alloc (.cells _ 45)) w1):=b1
    have v0:=cellOf (((bel1 w1 (.cells #[.string (str z)] 9)).block w.heap.size (by have:=b1.size;simp at this;omega)).trans ((b1.block _ (by simp)).trans (Blk.new _ _ _))) 0 _ rfl
    clear b1
    go_wp2_with fail
    refine (CF.out _).mono ?_
    rintro e w2 ⟨rfl,b2⟩
    have I0:Hid (InsSt w _ _ #[.bool true,.bool false,.bool false,.bool false,.bool false,.bool false,.bool false] w1.heap.size w2.heap.size z):=InsSt.start B1.out b2
    obtain ⟨x0,x1,x2,x3,x4,x5,x6,x7,s0,s1,h0,h1,h2,h5,h6⟩:=I0.out.cells
    clear b2 B1 v0
    go_wp2_with fail
    generalize w2.alloc (.cells #[.bool true,.bool false,.bool false,.bool false,.bool false,.bool false,.bool false] 156)=v at I0 x0 x1 x2 x3 x4 x5 x6 x7 s0 s1 h0 h1 h2 h5 h6 ⊢
    have n0:=m0
    refine (CA.out ka (by simp) _ _ _ _ I0.out (by first | omega | (simp only [List.length_cons] at *;omega))).mono ?_
    rintro e v0 ⟨rfl,i0⟩
    rw [E0.out] at i0
    have I1:Hid (InsSt w v0 #[.int .i64 _,.int .i64 ka,.int .i64 kb,.int .i64 kc,.int .i64 kk,.int .i64 kn,.slice a nr c,.slice b ns d] #[.bool true,.bool false,.bool false,.bool false,.bool false,.bool false,.bool false] w1.heap.size w2.heap.size y0):=i0
    clear I0 i0 x0 x1 x2 x3 x4 x5 x6 x7 s0 s1 h0 h1 h2 h5 h6
    obtain ⟨x0,x1,x2,x3,x4,x5,x6,x7,s0,s1,h0,h1,h2,h5,h6⟩:=I1.out.cells
    go_wp2_with fail
    go_ret
    exact ⟨rfl,I1.out.bel⟩
theorem ins_ab {w : World} {ka kb kc kk kn : Int} {z zr zs zk : List UInt8} {a b : Option Addr} {nr c ns d : Nat} (op : Int) (ho : op = 8 ∨ op = 9) (h : InsH w #[.int .i64 op, .int .i64 ka, .int .i64 kb, .int .i64 kc, .int .i64 kk, .int .i64 kn, .slice a nr c, .slice b ns d] #[.bool true, .bool true, .bool false, .bool false, .bool false, .bool false, .bool false] op ka kb kc kk kn z zr zs zk a b nr c ns d) :
    Calls Tryz.prog 90 #[.agg #[.int .i64 op,.int .i64 ka,.int .i64 kb,.int .i64 kc,.int .i64 kk,.int .i64 kn,.slice a nr c,.slice b ns d]] w fun e w'=>e=.returned (.string (str ((z++nT ka)++nT kb)))∧Below w.heap.size w w':=by
  obtain ⟨CW,CF,CK,CN,CR,CS,CA,lz,lk,lr,ls,ln,la,lb,lc,ld⟩:=h
  have hE:=enters_insText1
  obtain ⟨y0,E0,m0⟩:=cat_letter z (nT ka)
  rw [E0.out]
  obtain ⟨y1,E1,m1⟩:=cat_letter y0 (nT kb)
  rw [E1.out]
  rcases ho with rfl | rfl
  all_goals
    go_enter Tryz.func90,Tryz.ntmps90
    go_wp2_with fail
    refine (CW.out _ (bel1 _ _)).mono ?_
    rintro e w1 ⟨rfl,b1⟩
    have B1:Hid (Below (w.alloc (.cells _ 45)).heap.size (w.alloc (.cells _ 45)) w1):=b1
    have v0:=cellOf (((bel1 w1 (.cells #[.string (str z)] 9)).block w.heap.size (by have:=b1.size;simp at this;omega)).trans ((b1.block _ (by simp)).trans (Blk.new _ _ _))) 0 _ rfl
    clear b1
    go_wp2_with fail
    refine (CF.out _).mono ?_
    rintro e w2 ⟨rfl,b2⟩
    have I0:Hid (InsSt w _ _ #[.bool true,.bool true,.bool false,.bool false,.bool false,.bool false,.bool false] w1.heap.size w2.heap.size z):=InsSt.start B1.out b2
    obtain ⟨x0,x1,x2,x3,x4,x5,x6,x7,s0,s1,h0,h1,h2,h5,h6⟩:=I0.out.cells
    clear b2 B1 v0
    go_wp2_with fail
    generalize w2.alloc (.cells #[.bool true,.bool true,.bool false,.bool false,.bool false,.bool false,.bool false] 156)=v at I0 x0 x1 x2 x3 x4 x5 x6 x7 s0 s1 h0 h1 h2 h5 h6 ⊢
    have n0:=m0
    refine (CA.out ka (by simp) _ _ _ _ I0.out (by first | omega | (simp only [List.length_cons] at *;omega))).mono ?_
    rintro e v0 ⟨rfl,i0⟩
    rw [E0.out] at i0
    have I1:Hid (InsSt w v0 #[.int .i64 _,.int .i64 ka,.int .i64 kb,.int .i64 kc,.int .i64 kk,.int .i64 kn,.slice a nr c,.slice b ns d] #[.bool true,.bool true,.bool false,.bool false,.bool false,.bool false,.bool false] w1.heap.size w2.heap.size y0):=i0
    clear I0 i0 x0 x1 x2 x3 x4 x5 x6 x7 s0 s1 h0 h1 h2 h5 h6
    obtain ⟨x0,x1,x2,x3,x4,x5,x6,x7,s0,s1,h0,h1,h2,h5,h6⟩:=I1.out.cells
    go_wp2_with fail
    have n1:=m1
    refine (CA.out kb (by simp) _ _ _ _ I1.out (by first | omega | (simp only [List.length_cons] at *;omega))).mono ?_
    rintro e v1 ⟨rfl,i1⟩
    rw [E1.out] at i1
    have I2:Hid (InsSt w v1 #[.int .i64 _,.int .i64 ka,.int .i64 kb,.int .i64 kc,.int .i64 kk,.int .i64 kn,.slice a nr c,.slice b ns d] #[.bool true,.bool true,.bool false,.bool false,.bool false,.bool false,.bool false] w1.heap.size w2.heap.size y1):=i1
    clear I1 i1 x0 x1 x2 x3 x4 x5 x6 x7 s0 s1 h0 h1 h2 h5 h6
    obtain ⟨x0,x1,x2,x3,x4,x5,x6,x7,s0,s1,h0,h1,h2,h5,h6⟩:=I2.out.cells
    go_wp2_with fail
    go_ret
    exact ⟨rfl,I2.out.bel⟩
theorem ins_abc {w : World} {ka kb kc kk kn : Int} {z zr zs zk : List UInt8} {a b : Option Addr} {nr c ns d : Nat} (op : Int) (ho : op = 10) (h : InsH w #[.int .i64 op, .int .i64 ka, .int .i64 kb, .int .i64 kc, .int .i64 kk, .int .i64 kn, .slice a nr c, .slice b ns d] #[.bool true, .bool true, .bool true, .bool false, .bool false, .bool false, .bool false] op ka kb kc kk kn z zr zs zk a b nr c ns d) :
    Calls Tryz.prog 90 #[.agg #[.int .i64 op,.int .i64 ka,.int .i64 kb,.int .i64 kc,.int .i64 kk,.int .i64 kn,.slice a nr c,.slice b ns d]] w fun e w'=>e=.returned (.string (str (((z++nT ka)++nT kb)++nT kc)))∧Below w.heap.size w w':=by
  obtain ⟨CW,CF,CK,CN,CR,CS,CA,lz,lk,lr,ls,ln,la,lb,lc,ld⟩:=h
  have hE:=enters_insText1
  obtain ⟨y0,E0,m0⟩:=cat_letter z (nT ka)
  rw [E0.out]
  obtain ⟨y1,E1,m1⟩:=cat_letter y0 (nT kb)
  rw [E1.out]
  obtain ⟨y2,E2,m2⟩:=cat_letter y1 (nT kc)
  rw [E2.out]
  obtain rfl:=ho
  go_enter Tryz.func90,Tryz.ntmps90
  go_wp2_with fail
  refine (CW.out _ (bel1 _ _)).mono ?_
  rintro e w1 ⟨rfl,b1⟩
  have B1:Hid (Below (w.alloc (.cells _ 45)).heap.size (w.alloc (.cells _ 45)) w1):=b1
  have v0:=cellOf (((bel1 w1 (.cells #[.string (str z)] 9)).block w.heap.size (by have:=b1.size;simp at this;omega)).trans ((b1.block _ (by simp)).trans (Blk.new _ _ _))) 0 _ rfl
  clear b1
  go_wp2_with fail
  refine (CF.out _).mono ?_
  rintro e w2 ⟨rfl,b2⟩
  have I0:Hid (InsSt w _ _ #[.bool true,.bool true,.bool true,.bool false,.bool false,.bool false,.bool false] w1.heap.size w2.heap.size z):=InsSt.start B1.out b2
  obtain ⟨x0,x1,x2,x3,x4,x5,x6,x7,s0,s1,h0,h1,h2,h5,h6⟩:=I0.out.cells
  clear b2 B1 v0
  go_wp2_with fail
  generalize w2.alloc (.cells #[.bool true,.bool true,.bool true,.bool false,.bool false,.bool false,.bool false] 156)=v at I0 x0 x1 x2 x3 x4 x5 x6 x7 s0 s1 h0 h1 h2 h5 h6 ⊢
  have n0:=m0
  refine (CA.out ka (by simp) _ _ _ _ I0.out (by first | omega | (simp only [List.length_cons] at *;omega))).mono ?_
  rintro e v0 ⟨rfl,i0⟩
  rw [E0.out] at i0
  have I1:Hid (InsSt w v0 #[.int .i64 10,.int .i64 ka,.int .i64 kb,.int .i64 kc,.int .i64 kk,.int .i64 kn,.slice a nr c,.slice b ns d] #[.bool true,.bool true,.bool true,.bool false,.bool false,.bool false,.bool false] w1.heap.size w2.heap.size y0):=i0
  clear I0 i0 x0 x1 x2 x3 x4 x5 x6 x7 s0 s1 h0 h1 h2 h5 h6
  obtain ⟨x0,x1,x2,x3,x4,x5,x6,x7,s0,s1,h0,h1,h2,h5,h6⟩:=I1.out.cells
  go_wp2_with fail
  have n1:=m1
  refine (CA.out kb (by simp) _ _ _ _ I1.out (by first | omega | (simp only [List.length_cons] at *;omega))).mono ?_
  rintro e v1 ⟨rfl,i1⟩
  rw [E1.out] at i1
  have I2:Hid (InsSt w v1 #[.int .i64 10,.int .i64 ka,.int .i64 kb,.int .i64 kc,.int .i64 kk,.int .i64 kn,.slice a nr c,.slice b ns d] #[.bool true,.bool true,.bool true,.bool false,.bool false,.bool false,.bool false] w1.heap.size w2.heap.size y1):=i1
  clear I1 i1 x0 x1 x2 x3 x4 x5 x6 x7 s0 s1 h0 h1 h2 h5 h6
  obtain ⟨x0,x1,x2,x3,x4,x5,x6,x7,s0,s1,h0,h1,h2,h5,h6⟩:=I2.out.cells
  go_wp2_with fail
  have n2:=m2
  refine (CA.out kc (by simp) _ _ _ _ I2.out (by first | omega | (simp only [List.length_cons] at *;omega))).mono ?_
  rintro e v2 ⟨rfl,i2⟩
  rw [E2.out] at i2
  have I3:Hid (InsSt w v2 #[.int .i64 10,.int .i64 ka,.int .i64 kb,.int .i64 kc,.int .i64 kk,.int .i64 kn,.slice a nr c,.slice b ns d] #[.bool true,.bool true,.bool true,.bool false,.bool false,.bool false,.bool false] w1.heap.size w2.heap.size y2):=i2
  clear I2 i2 x0 x1 x2 x3 x4 x5 x6 x7 s0 s1 h0 h1 h2 h5 h6
  obtain ⟨x0,x1,x2,x3,x4,x5,x6,x7,s0,s1,h0,h1,h2,h5,h6⟩:=I3.out.cells
  go_wp2_with fail
  go_ret
  exact ⟨rfl,I3.out.bel⟩
theorem ins_num {w : World} {ka kb kc kk kn : Int} {z zr zs zk : List UInt8} {a b : Option Addr} {nr c ns d : Nat} (op : Int) (ho : op = 1) (h : InsH w #[.int .i64 op, .int .i64 ka, .int .i64 kb, .int .i64 kc, .int .i64 kk, .int .i64 kn, .slice a nr c, .slice b ns d] #[.bool false, .bool false, .bool false, .bool false, .bool true, .bool false, .bool false] op ka kb kc kk kn z zr zs zk a b nr c ns d) :
    Calls Tryz.prog 90 #[.agg #[.int .i64 op,.int .i64 ka,.int .i64 kb,.int .i64 kc,.int .i64 kk,.int .i64 kn,.slice a nr c,.slice b ns d]] w fun e w'=>e=.returned (.string (str (z++32::(Lib.itoa kn))))∧Below w.heap.size w w':=by
  obtain ⟨CW,CF,CK,CN,CR,CS,CA,lz,lk,lr,ls,ln,la,lb,lc,ld⟩:=h
  have hE:=enters_insText1
  obtain ⟨y0,E0,m0⟩:=cat_letter z ((32::(Lib.itoa kn)))
  rw [E0.out]
  obtain rfl:=ho
  go_enter Tryz.func90,Tryz.ntmps90
  go_wp2_with fail
  refine (CW.out _ (bel1 _ _)).mono ?_
  rintro e w1 ⟨rfl,b1⟩
  have B1:Hid (Below (w.alloc (.cells _ 45)).heap.size (w.alloc (.cells _ 45)) w1):=b1
  have v0:=cellOf (((bel1 w1 (.cells #[.string (str z)] 9)).block w.heap.size (by have:=b1.size;simp at this;omega)).trans ((b1.block _ (by simp)).trans (Blk.new _ _ _))) 0 _ rfl
  clear b1
  go_wp2_with fail
  refine (CF.out _).mono ?_
  rintro e w2 ⟨rfl,b2⟩
  have I0:Hid (InsSt w _ _ #[.bool false,.bool false,.bool false,.bool false,.bool true,.bool false,.bool false] w1.heap.size w2.heap.size z):=InsSt.start B1.out b2
  obtain ⟨x0,x1,x2,x3,x4,x5,x6,x7,s0,s1,h0,h1,h2,h5,h6⟩:=I0.out.cells
  clear b2 B1 v0
  go_wp2_with fail
  generalize w2.alloc (.cells #[.bool false,.bool false,.bool false,.bool false,.bool true,.bool false,.bool false] 156)=v at I0 x0 x1 x2 x3 x4 x5 x6 x7 s0 s1 h0 h1 h2 h5 h6 ⊢
  have n0:=m0
  have D0:Hid (∀ m,Calls Tryz.prog 111 #[.int .i64 kn,.int .i64 10] (v.drewN m) fun e w'=>e=.returned (.string (str (Lib.itoa kn)))∧InsSt w w' _ _ _ _ z):=fun m=>(CN.out _ (I0.out.bel.trans ((drewN_below (Below.refl _ _)).mono I0.out.bel.size))).mono fun e w' h=>⟨h.1,I0.out.below ((drewN_below (Below.refl _ _)).trans h.2)⟩
  have k0:¬ 9223372036854775807<1+(str (Lib.itoa kn)).size:=by rw [str_size];omega
  have j0:¬ 9223372036854775807<(str z).size+(1+(str (Lib.itoa kn)).size):=by rw [str_size,str_size];first | omega | (simp only [List.length_cons] at *;omega)
  go_region_with (go_at_call 111;refine (D0.out _).mono ?_;rintro e u0 ⟨rfl,q0⟩;have J0:Hid (InsSt w u0 #[.int .i64 1,.int .i64 ka,.int .i64 kb,.int .i64 kc,.int .i64 kk,.int .i64 kn,.slice a nr c,.slice b ns d] #[.bool false,.bool false,.bool false,.bool false,.bool true,.bool false,.bool false] w1.heap.size w2.heap.size z):=q0;clear q0;have g0:=cellOf J0.out.s 0 _ rfl;have f0:=freeOf J0.out.s 0)
  all_goals
    have I1:Hid (InsSt w (u0.setCell ⟨w1.heap.size,0,none⟩ (.string (str z++(⟨#[32]⟩++str (Lib.itoa kn))))) #[.int .i64 1,.int .i64 ka,.int .i64 kb,.int .i64 kc,.int .i64 kk,.int .i64 kn,.slice a nr c,.slice b ns d] #[.bool false,.bool false,.bool false,.bool false,.bool true,.bool false,.bool false] w1.heap.size w2.heap.size y0):=J0.out.set' (by rw [← E0.out];exact str_put _ _)
    generalize u0.setCell ⟨w1.heap.size,0,none⟩ (.string (str z++(⟨#[32]⟩++str (Lib.itoa kn))))=v0 at I1 ⊢
    clear I0 J0 D0 k0 j0 g0 f0 x0 x1 x2 x3 x4 x5 x6 x7 s0 s1 h0 h1 h2 h5 h6
    obtain ⟨x0,x1,x2,x3,x4,x5,x6,x7,s0,s1,h0,h1,h2,h5,h6⟩:=I1.out.cells
    go_wp2_with fail
    go_ret
    exact ⟨rfl,I1.out.bel⟩
theorem ins_bin {w : World} {ka kb kc kk kn : Int} {z zr zs zk : List UInt8} {a b : Option Addr} {nr c ns d : Nat} (op : Int) (ho : op = 2) (h : InsH w #[.int .i64 op, .int .i64 ka, .int .i64 kb, .int .i64 kc, .int .i64 kk, .int .i64 kn, .slice a nr c, .slice b ns d] #[.bool true, .bool true, .bool false, .bool true, .bool false, .bool false, .bool false] op ka kb kc kk kn z zr zs zk a b nr c ns d) :
    Calls Tryz.prog 90 #[.agg #[.int .i64 op,.int .i64 ka,.int .i64 kb,.int .i64 kc,.int .i64 kk,.int .i64 kn,.slice a nr c,.slice b ns d]] w fun e w'=>e=.returned (.string (str (((z++32::zk)++nT ka)++nT kb)))∧Below w.heap.size w w':=by
  obtain ⟨CW,CF,CK,CN,CR,CS,CA,lz,lk,lr,ls,ln,la,lb,lc,ld⟩:=h
  have hE:=enters_insText1
  obtain ⟨y0,E0,m0⟩:=cat_letter z ((32::zk))
  rw [E0.out]
  obtain ⟨y1,E1,m1⟩:=cat_letter y0 (nT ka)
  rw [E1.out]
  obtain ⟨y2,E2,m2⟩:=cat_letter y1 (nT kb)
  rw [E2.out]
  obtain rfl:=ho
  go_enter Tryz.func90,Tryz.ntmps90
  go_wp2_with fail
  refine (CW.out _ (bel1 _ _)).mono ?_
  rintro e w1 ⟨rfl,b1⟩
  have B1:Hid (Below (w.alloc (.cells _ 45)).heap.size (w.alloc (.cells _ 45)) w1):=b1
  have v0:=cellOf (((bel1 w1 (.cells #[.string (str z)] 9)).block w.heap.size (by have:=b1.size;simp at this;omega)).trans ((b1.block _ (by simp)).trans (Blk.new _ _ _))) 0 _ rfl
  clear b1
  go_wp2_with fail
  refine (CF.out _).mono ?_
  rintro e w2 ⟨rfl,b2⟩
  have I0:Hid (InsSt w _ _ #[.bool true,.bool true,.bool false,.bool true,.bool false,.bool false,.bool false] w1.heap.size w2.heap.size z):=InsSt.start B1.out b2
  obtain ⟨x0,x1,x2,x3,x4,x5,x6,x7,s0,s1,h0,h1,h2,h5,h6⟩:=I0.out.cells
  clear b2 B1 v0
  go_wp2_with fail
  generalize w2.alloc (.cells #[.bool true,.bool true,.bool false,.bool true,.bool false,.bool false,.bool false] 156)=v at I0 x0 x1 x2 x3 x4 x5 x6 x7 s0 s1 h0 h1 h2 h5 h6 ⊢
  have n0:=m0
  have D0:Hid (∀ m,Calls Tryz.prog 15 #[.int .i64 kk] (v.drewN m) fun e w'=>e=.returned (.string (str zk))∧InsSt w w' _ _ _ _ z):=fun m=>(CK.out _).mono fun e w' h=>⟨h.1,I0.out.below ((drewN_below (Below.refl _ _)).trans h.2)⟩
  have k0:¬ 9223372036854775807<1+(str zk).size:=by rw [str_size];omega
  have j0:¬ 9223372036854775807<(str z).size+(1+(str zk).size):=by rw [str_size,str_size];first | omega | (simp only [List.length_cons] at *;omega)
  go_region_with (go_at_call 15;refine (D0.out _).mono ?_;rintro e u0 ⟨rfl,q0⟩;have J0:Hid (InsSt w u0 #[.int .i64 2,.int .i64 ka,.int .i64 kb,.int .i64 kc,.int .i64 kk,.int .i64 kn,.slice a nr c,.slice b ns d] #[.bool true,.bool true,.bool false,.bool true,.bool false,.bool false,.bool false] w1.heap.size w2.heap.size z):=q0;clear q0;have g0:=cellOf J0.out.s 0 _ rfl;have f0:=freeOf J0.out.s 0)
  all_goals
    have I1:Hid (InsSt w (u0.setCell ⟨w1.heap.size,0,none⟩ (.string (str z++(⟨#[32]⟩++str zk)))) #[.int .i64 2,.int .i64 ka,.int .i64 kb,.int .i64 kc,.int .i64 kk,.int .i64 kn,.slice a nr c,.slice b ns d] #[.bool true,.bool true,.bool false,.bool true,.bool false,.bool false,.bool false] w1.heap.size w2.heap.size y0):=J0.out.set' (by rw [← E0.out];exact str_put _ _)
    generalize u0.setCell ⟨w1.heap.size,0,none⟩ (.string (str z++(⟨#[32]⟩++str zk)))=v0 at I1 ⊢
    clear I0 J0 D0 k0 j0 g0 f0 x0 x1 x2 x3 x4 x5 x6 x7 s0 s1 h0 h1 h2 h5 h6
    obtain ⟨x0,x1,x2,x3,x4,x5,x6,x7,s0,s1,h0,h1,h2,h5,h6⟩:=I1.out.cells
    go_wp2_with fail
    have n1:=m1
    refine (CA.out ka (by simp) _ _ _ _ I1.out (by first | omega | (simp only [List.length_cons] at *;omega))).mono ?_
    rintro e v1 ⟨rfl,i1⟩
    rw [E1.out] at i1
    have I2:Hid (InsSt w v1 #[.int .i64 2,.int .i64 ka,.int .i64 kb,.int .i64 kc,.int .i64 kk,.int .i64 kn,.slice a nr c,.slice b ns d] #[.bool true,.bool true,.bool false,.bool true,.bool false,.bool false,.bool false] w1.heap.size w2.heap.size y1):=i1
    clear I1 i1 x0 x1 x2 x3 x4 x5 x6 x7 s0 s1 h0 h1 h2 h5 h6
    obtain ⟨x0,x1,x2,x3,x4,x5,x6,x7,s0,s1,h0,h1,h2,h5,h6⟩:=I2.out.cells
    go_wp2_with fail
    have n2:=m2
    refine (CA.out kb (by simp) _ _ _ _ I2.out (by first | omega | (simp only [List.length_cons] at *;omega))).mono ?_
    rintro e v2 ⟨rfl,i2⟩
    rw [E2.out] at i2
    have I3:Hid (InsSt w v2 #[.int .i64 2,.int .i64 ka,.int .i64 kb,.int .i64 kc,.int .i64 kk,.int .i64 kn,.slice a nr c,.slice b ns d] #[.bool true,.bool true,.bool false,.bool true,.bool false,.bool false,.bool false] w1.heap.size w2.heap.size y2):=i2
    clear I2 i2 x0 x1 x2 x3 x4 x5 x6 x7 s0 s1 h0 h1 h2 h5 h6
    obtain ⟨x0,x1,x2,x3,x4,x5,x6,x7,s0,s1,h0,h1,h2,h5,h6⟩:=I3.out.cells
    go_wp2_with fail
    go_ret
    exact ⟨rfl,I3.out.bel⟩
theorem ins_tup {w : World} {ka kb kc kk kn : Int} {z zr zs zk : List UInt8} {a b : Option Addr} {nr c ns d : Nat} (op : Int) (ho : op = 5) (h : InsH w #[.int .i64 op, .int .i64 ka, .int .i64 kb, .int .i64 kc, .int .i64 kk, .int .i64 kn, .slice a nr c, .slice b ns d] #[.bool true, .bool false, .bool false, .bool false, .bool false, .bool false, .bool true] op ka kb kc kk kn z zr zs zk a b nr c ns d) :
    Calls Tryz.prog 90 #[.agg #[.int .i64 op,.int .i64 ka,.int .i64 kb,.int .i64 kc,.int .i64 kk,.int .i64 kn,.slice a nr c,.slice b ns d]] w fun e w'=>e=.returned (.string (str ((z++nT ka)++32::zs)))∧Below w.heap.size w w':=by
  obtain ⟨CW,CF,CK,CN,CR,CS,CA,lz,lk,lr,ls,ln,la,lb,lc,ld⟩:=h
  have hE:=enters_insText1
  obtain ⟨y0,E0,m0⟩:=cat_letter z (nT ka)
  rw [E0.out]
  obtain ⟨y1,E1,m1⟩:=cat_letter y0 ((32::zs))
  rw [E1.out]
  obtain rfl:=ho
  go_enter Tryz.func90,Tryz.ntmps90
  go_wp2_with fail
  refine (CW.out _ (bel1 _ _)).mono ?_
  rintro e w1 ⟨rfl,b1⟩
  have B1:Hid (Below (w.alloc (.cells _ 45)).heap.size (w.alloc (.cells _ 45)) w1):=b1
  have v0:=cellOf (((bel1 w1 (.cells #[.string (str z)] 9)).block w.heap.size (by have:=b1.size;simp at this;omega)).trans ((b1.block _ (by simp)).trans (Blk.new _ _ _))) 0 _ rfl
  clear b1
  go_wp2_with fail
  refine (CF.out _).mono ?_
  rintro e w2 ⟨rfl,b2⟩
  have I0:Hid (InsSt w _ _ #[.bool true,.bool false,.bool false,.bool false,.bool false,.bool false,.bool true] w1.heap.size w2.heap.size z):=InsSt.start B1.out b2
  obtain ⟨x0,x1,x2,x3,x4,x5,x6,x7,s0,s1,h0,h1,h2,h5,h6⟩:=I0.out.cells
  clear b2 B1 v0
  go_wp2_with fail
  generalize w2.alloc (.cells #[.bool true,.bool false,.bool false,.bool false,.bool false,.bool false,.bool true] 156)=v at I0 x0 x1 x2 x3 x4 x5 x6 x7 s0 s1 h0 h1 h2 h5 h6 ⊢
  have n0:=m0
  refine (CA.out ka (by simp) _ _ _ _ I0.out (by first | omega | (simp only [List.length_cons] at *;omega))).mono ?_
  rintro e v0 ⟨rfl,i0⟩
  rw [E0.out] at i0
  have I1:Hid (InsSt w v0 #[.int .i64 5,.int .i64 ka,.int .i64 kb,.int .i64 kc,.int .i64 kk,.int .i64 kn,.slice a nr c,.slice b ns d] #[.bool true,.bool false,.bool false,.bool false,.bool false,.bool false,.bool true] w1.heap.size w2.heap.size y0):=i0
  clear I0 i0 x0 x1 x2 x3 x4 x5 x6 x7 s0 s1 h0 h1 h2 h5 h6
  obtain ⟨x0,x1,x2,x3,x4,x5,x6,x7,s0,s1,h0,h1,h2,h5,h6⟩:=I1.out.cells
  go_wp2_with fail
  have n1:=m1
  have D1:Hid (∀ m,Calls Tryz.prog 92 #[.string ⟨#[40]⟩,.slice b ns d,.string ⟨#[41]⟩] (v0.drewN m) fun e w'=>e=.returned (.string (str zs))∧InsSt w w' _ _ _ _ y0):=fun m=>(CS.out _ (I1.out.bel.trans ((drewN_below (Below.refl _ _)).mono I1.out.bel.size))).mono fun e w' h=>⟨h.1,I1.out.below ((drewN_below (Below.refl _ _)).trans h.2)⟩
  have k1:¬ 9223372036854775807<1+(str zs).size:=by rw [str_size];omega
  have j1:¬ 9223372036854775807<(str y0).size+(1+(str zs).size):=by rw [str_size,str_size];first | omega | (simp only [List.length_cons] at *;omega)
  go_region_with (go_at_call 92;refine (D1.out _).mono ?_;rintro e u1 ⟨rfl,q1⟩;have J1:Hid (InsSt w u1 #[.int .i64 5,.int .i64 ka,.int .i64 kb,.int .i64 kc,.int .i64 kk,.int .i64 kn,.slice a nr c,.slice b ns d] #[.bool true,.bool false,.bool false,.bool false,.bool false,.bool false,.bool true] w1.heap.size w2.heap.size y0):=q1;clear q1;have g1:=cellOf J1.out.s 0 _ rfl;have f1:=freeOf J1.out.s 0)
  all_goals
    have I2:Hid (InsSt w (u1.setCell ⟨w1.heap.size,0,none⟩ (.string (str y0++(⟨#[32]⟩++str zs)))) #[.int .i64 5,.int .i64 ka,.int .i64 kb,.int .i64 kc,.int .i64 kk,.int .i64 kn,.slice a nr c,.slice b ns d] #[.bool true,.bool false,.bool false,.bool false,.bool false,.bool false,.bool true] w1.heap.size w2.heap.size y1):=J1.out.set' (by rw [← E1.out];exact str_put _ _)
    generalize u1.setCell ⟨w1.heap.size,0,none⟩ (.string (str y0++(⟨#[32]⟩++str zs)))=v1 at I2 ⊢
    clear I1 J1 D1 k1 j1 g1 f1 x0 x1 x2 x3 x4 x5 x6 x7 s0 s1 h0 h1 h2 h5 h6
    obtain ⟨x0,x1,x2,x3,x4,x5,x6,x7,s0,s1,h0,h1,h2,h5,h6⟩:=I2.out.cells
    go_wp2_with fail
    go_ret
    exact ⟨rfl,I2.out.bel⟩
theorem ins_get {w : World} {ka kb kc kk kn : Int} {z zr zs zk : List UInt8} {a b : Option Addr} {nr c ns d : Nat} (op : Int) (ho : op = 6) (h : InsH w #[.int .i64 op, .int .i64 ka, .int .i64 kb, .int .i64 kc, .int .i64 kk, .int .i64 kn, .slice a nr c, .slice b ns d] #[.bool true, .bool false, .bool false, .bool true, .bool false, .bool false, .bool false] op ka kb kc kk kn z zr zs zk a b nr c ns d) :
    Calls Tryz.prog 90 #[.agg #[.int .i64 op,.int .i64 ka,.int .i64 kb,.int .i64 kc,.int .i64 kk,.int .i64 kn,.slice a nr c,.slice b ns d]] w fun e w'=>e=.returned (.string (str ((z++nT ka)++nT kk)))∧Below w.heap.size w w':=by
  obtain ⟨CW,CF,CK,CN,CR,CS,CA,lz,lk,lr,ls,ln,la,lb,lc,ld⟩:=h
  have hE:=enters_insText1
  obtain ⟨y0,E0,m0⟩:=cat_letter z (nT ka)
  rw [E0.out]
  obtain ⟨y1,E1,m1⟩:=cat_letter y0 (nT kk)
  rw [E1.out]
  obtain rfl:=ho
  go_enter Tryz.func90,Tryz.ntmps90
  go_wp2_with fail
  refine (CW.out _ (bel1 _ _)).mono ?_
  rintro e w1 ⟨rfl,b1⟩
  have B1:Hid (Below (w.alloc (.cells _ 45)).heap.size (w.alloc (.cells _ 45)) w1):=b1
  have v0:=cellOf (((bel1 w1 (.cells #[.string (str z)] 9)).block w.heap.size (by have:=b1.size;simp at this;omega)).trans ((b1.block _ (by simp)).trans (Blk.new _ _ _))) 0 _ rfl
  clear b1
  go_wp2_with fail
  refine (CF.out _).mono ?_
  rintro e w2 ⟨rfl,b2⟩
  have I0:Hid (InsSt w _ _ #[.bool true,.bool false,.bool false,.bool true,.bool false,.bool false,.bool false] w1.heap.size w2.heap.size z):=InsSt.start B1.out b2
  obtain ⟨x0,x1,x2,x3,x4,x5,x6,x7,s0,s1,h0,h1,h2,h5,h6⟩:=I0.out.cells
  clear b2 B1 v0
  go_wp2_with fail
  generalize w2.alloc (.cells #[.bool true,.bool false,.bool false,.bool true,.bool false,.bool false,.bool false] 156)=v at I0 x0 x1 x2 x3 x4 x5 x6 x7 s0 s1 h0 h1 h2 h5 h6 ⊢
  have n0:=m0
  refine (CA.out ka (by simp) _ _ _ _ I0.out (by first | omega | (simp only [List.length_cons] at *;omega))).mono ?_
  rintro e v0 ⟨rfl,i0⟩
  rw [E0.out] at i0
  have I1:Hid (InsSt w v0 #[.int .i64 6,.int .i64 ka,.int .i64 kb,.int .i64 kc,.int .i64 kk,.int .i64 kn,.slice a nr c,.slice b ns d] #[.bool true,.bool false,.bool false,.bool true,.bool false,.bool false,.bool false] w1.heap.size w2.heap.size y0):=i0
  clear I0 i0 x0 x1 x2 x3 x4 x5 x6 x7 s0 s1 h0 h1 h2 h5 h6
  obtain ⟨x0,x1,x2,x3,x4,x5,x6,x7,s0,s1,h0,h1,h2,h5,h6⟩:=I1.out.cells
  go_wp2_with fail
  have n1:=m1
  refine (CA.out kk (by simp) _ _ _ _ I1.out (by first | omega | (simp only [List.length_cons] at *;omega))).mono ?_
  rintro e v1 ⟨rfl,i1⟩
  rw [E1.out] at i1
  have I2:Hid (InsSt w v1 #[.int .i64 6,.int .i64 ka,.int .i64 kb,.int .i64 kc,.int .i64 kk,.int .i64 kn,.slice a nr c,.slice b ns d] #[.bool true,.bool false,.bool false,.bool true,.bool false,.bool false,.bool false] w1.heap.size w2.heap.size y1):=i1
  clear I1 i1 x0 x1 x2 x3 x4 x5 x6 x7 s0 s1 h0 h1 h2 h5 h6
  obtain ⟨x0,x1,x2,x3,x4,x5,x6,x7,s0,s1,h0,h1,h2,h5,h6⟩:=I2.out.cells
  go_wp2_with fail
  go_ret
  exact ⟨rfl,I2.out.bel⟩
theorem ins_set {w : World} {ka kb kc kk kn : Int} {z zr zs zk : List UInt8} {a b : Option Addr} {nr c ns d : Nat} (op : Int) (ho : op = 7) (h : InsH w #[.int .i64 op, .int .i64 ka, .int .i64 kb, .int .i64 kc, .int .i64 kk, .int .i64 kn, .slice a nr c, .slice b ns d] #[.bool true, .bool true, .bool false, .bool true, .bool false, .bool false, .bool false] op ka kb kc kk kn z zr zs zk a b nr c ns d) :
    Calls Tryz.prog 90 #[.agg #[.int .i64 op,.int .i64 ka,.int .i64 kb,.int .i64 kc,.int .i64 kk,.int .i64 kn,.slice a nr c,.slice b ns d]] w fun e w'=>e=.returned (.string (str (((z++nT ka)++nT kk)++nT kb)))∧Below w.heap.size w w':=by
  obtain ⟨CW,CF,CK,CN,CR,CS,CA,lz,lk,lr,ls,ln,la,lb,lc,ld⟩:=h
  have hE:=enters_insText1
  obtain ⟨y0,E0,m0⟩:=cat_letter z (nT ka)
  rw [E0.out]
  obtain ⟨y1,E1,m1⟩:=cat_letter y0 (nT kk)
  rw [E1.out]
  obtain ⟨y2,E2,m2⟩:=cat_letter y1 (nT kb)
  rw [E2.out]
  obtain rfl:=ho
  go_enter Tryz.func90,Tryz.ntmps90
  go_wp2_with fail
  refine (CW.out _ (bel1 _ _)).mono ?_
  rintro e w1 ⟨rfl,b1⟩
  have B1:Hid (Below (w.alloc (.cells _ 45)).heap.size (w.alloc (.cells _ 45)) w1):=b1
  have v0:=cellOf (((bel1 w1 (.cells #[.string (str z)] 9)).block w.heap.size (by have:=b1.size;simp at this;omega)).trans ((b1.block _ (by simp)).trans (Blk.new _ _ _))) 0 _ rfl
  clear b1
  go_wp2_with fail
  refine (CF.out _).mono ?_
  rintro e w2 ⟨rfl,b2⟩
  have I0:Hid (InsSt w _ _ #[.bool true,.bool true,.bool false,.bool true,.bool false,.bool false,.bool false] w1.heap.size w2.heap.size z):=InsSt.start B1.out b2
  obtain ⟨x0,x1,x2,x3,x4,x5,x6,x7,s0,s1,h0,h1,h2,h5,h6⟩:=I0.out.cells
  clear b2 B1 v0
  go_wp2_with fail
  generalize w2.alloc (.cells #[.bool true,.bool true,.bool false,.bool true,.bool false,.bool false,.bool false] 156)=v at I0 x0 x1 x2 x3 x4 x5 x6 x7 s0 s1 h0 h1 h2 h5 h6 ⊢
  have n0:=m0
  refine (CA.out ka (by simp) _ _ _ _ I0.out (by first | omega | (simp only [List.length_cons] at *;omega))).mono ?_
  rintro e v0 ⟨rfl,i0⟩
  rw [E0.out] at i0
  have I1:Hid (InsSt w v0 #[.int .i64 7,.int .i64 ka,.int .i64 kb,.int .i64 kc,.int .i64 kk,.int .i64 kn,.slice a nr c,.slice b ns d] #[.bool true,.bool true,.bool false,.bool true,.bool false,.bool false,.bool false] w1.heap.size w2.heap.size y0):=i0
  clear I0 i0 x0 x1 x2 x3 x4 x5 x6 x7 s0 s1 h0 h1 h2 h5 h6
  obtain ⟨x0,x1,x2,x3,x4,x5,x6,x7,s0,s1,h0,h1,h2,h5,h6⟩:=I1.out.cells
  go_wp2_with fail
  have n1:=m1
  refine (CA.out kk (by simp) _ _ _ _ I1.out (by first | omega | (simp only [List.length_cons] at *;omega))).mono ?_
  rintro e v1 ⟨rfl,i1⟩
  rw [E1.out] at i1
  have I2:Hid (InsSt w v1 #[.int .i64 7,.int .i64 ka,.int .i64 kb,.int .i64 kc,.int .i64 kk,.int .i64 kn,.slice a nr c,.slice b ns d] #[.bool true,.bool true,.bool false,.bool true,.bool false,.bool false,.bool false] w1.heap.size w2.heap.size y1):=i1
  clear I1 i1 x0 x1 x2 x3 x4 x5 x6 x7 s0 s1 h0 h1 h2 h5 h6
  obtain ⟨x0,x1,x2,x3,x4,x5,x6,x7,s0,s1,h0,h1,h2,h5,h6⟩:=I2.out.cells
  go_wp2_with fail
  have n2:=m2
  refine (CA.out kb (by simp) _ _ _ _ I2.out (by first | omega | (simp only [List.length_cons] at *;omega))).mono ?_
  rintro e v2 ⟨rfl,i2⟩
  rw [E2.out] at i2
  have I3:Hid (InsSt w v2 #[.int .i64 7,.int .i64 ka,.int .i64 kb,.int .i64 kc,.int .i64 kk,.int .i64 kn,.slice a nr c,.slice b ns d] #[.bool true,.bool true,.bool false,.bool true,.bool false,.bool false,.bool false] w1.heap.size w2.heap.size y2):=i2
  clear I2 i2 x0 x1 x2 x3 x4 x5 x6 x7 s0 s1 h0 h1 h2 h5 h6
  obtain ⟨x0,x1,x2,x3,x4,x5,x6,x7,s0,s1,h0,h1,h2,h5,h6⟩:=I3.out.cells
  go_wp2_with fail
  go_ret
  exact ⟨rfl,I3.out.bel⟩
theorem ins_call {w : World} {ka kb kc kk kn : Int} {z zr zs zk : List UInt8} {a b : Option Addr} {nr c ns d : Nat} (op : Int) (ho : op = 14) (h : InsH w #[.int .i64 op, .int .i64 ka, .int .i64 kb, .int .i64 kc, .int .i64 kk, .int .i64 kn, .slice a nr c, .slice b ns d] #[.bool false, .bool false, .bool false, .bool true, .bool false, .bool true, .bool true] op ka kb kc kk kn z zr zs zk a b nr c ns d) :
    Calls Tryz.prog 90 #[.agg #[.int .i64 op,.int .i64 ka,.int .i64 kb,.int .i64 kc,.int .i64 kk,.int .i64 kn,.slice a nr c,.slice b ns d]] w fun e w'=>e=.returned (.string (str (((z++nT kk)++32::zr)++32::zs)))∧Below w.heap.size w w':=by
  obtain ⟨CW,CF,CK,CN,CR,CS,CA,lz,lk,lr,ls,ln,la,lb,lc,ld⟩:=h
  have hE:=enters_insText1
  obtain ⟨y0,E0,m0⟩:=cat_letter z (nT kk)
  rw [E0.out]
  obtain ⟨y1,E1,m1⟩:=cat_letter y0 ((32::zr))
  rw [E1.out]
  obtain ⟨y2,E2,m2⟩:=cat_letter y1 ((32::zs))
  rw [E2.out]
  obtain rfl:=ho
  go_enter Tryz.func90,Tryz.ntmps90
  go_wp2_with fail
  refine (CW.out _ (bel1 _ _)).mono ?_
  rintro e w1 ⟨rfl,b1⟩
  have B1:Hid (Below (w.alloc (.cells _ 45)).heap.size (w.alloc (.cells _ 45)) w1):=b1
  have v0:=cellOf (((bel1 w1 (.cells #[.string (str z)] 9)).block w.heap.size (by have:=b1.size;simp at this;omega)).trans ((b1.block _ (by simp)).trans (Blk.new _ _ _))) 0 _ rfl
  clear b1
  go_wp2_with fail
  refine (CF.out _).mono ?_
  rintro e w2 ⟨rfl,b2⟩
  have I0:Hid (InsSt w _ _ #[.bool false,.bool false,.bool false,.bool true,.bool false,.bool true,.bool true] w1.heap.size w2.heap.size z):=InsSt.start B1.out b2
  obtain ⟨x0,x1,x2,x3,x4,x5,x6,x7,s0,s1,h0,h1,h2,h5,h6⟩:=I0.out.cells
  clear b2 B1 v0
  go_wp2_with fail
  generalize w2.alloc (.cells #[.bool false,.bool false,.bool false,.bool true,.bool false,.bool true,.bool true] 156)=v at I0 x0 x1 x2 x3 x4 x5 x6 x7 s0 s1 h0 h1 h2 h5 h6 ⊢
  have n0:=m0
  refine (CA.out kk (by simp) _ _ _ _ I0.out (by first | omega | (simp only [List.length_cons] at *;omega))).mono ?_
  rintro e v0 ⟨rfl,i0⟩
  rw [E0.out] at i0
  have I1:Hid (InsSt w v0 #[.int .i64 14,.int .i64 ka,.int .i64 kb,.int .i64 kc,.int .i64 kk,.int .i64 kn,.slice a nr c,.slice b ns d] #[.bool false,.bool false,.bool false,.bool true,.bool false,.bool true,.bool true] w1.heap.size w2.heap.size y0):=i0
  clear I0 i0 x0 x1 x2 x3 x4 x5 x6 x7 s0 s1 h0 h1 h2 h5 h6
  obtain ⟨x0,x1,x2,x3,x4,x5,x6,x7,s0,s1,h0,h1,h2,h5,h6⟩:=I1.out.cells
  go_wp2_with fail
  have n1:=m1
  have D1:Hid (∀ m,Calls Tryz.prog 92 #[.string ⟨#[60]⟩,.slice a nr c,.string ⟨#[62]⟩] (v0.drewN m) fun e w'=>e=.returned (.string (str zr))∧InsSt w w' _ _ _ _ y0):=fun m=>(CR.out _ (I1.out.bel.trans ((drewN_below (Below.refl _ _)).mono I1.out.bel.size))).mono fun e w' h=>⟨h.1,I1.out.below ((drewN_below (Below.refl _ _)).trans h.2)⟩
  have k1:¬ 9223372036854775807<1+(str zr).size:=by rw [str_size];omega
  have j1:¬ 9223372036854775807<(str y0).size+(1+(str zr).size):=by rw [str_size,str_size];first | omega | (simp only [List.length_cons] at *;omega)
  go_region_with (go_at_call 92;refine (D1.out _).mono ?_;rintro e u1 ⟨rfl,q1⟩;have J1:Hid (InsSt w u1 #[.int .i64 14,.int .i64 ka,.int .i64 kb,.int .i64 kc,.int .i64 kk,.int .i64 kn,.slice a nr c,.slice b ns d] #[.bool false,.bool false,.bool false,.bool true,.bool false,.bool true,.bool true] w1.heap.size w2.heap.size y0):=q1;clear q1;have g1:=cellOf J1.out.s 0 _ rfl;have f1:=freeOf J1.out.s 0)
  all_goals
    have I2:Hid (InsSt w (u1.setCell ⟨w1.heap.size,0,none⟩ (.string (str y0++(⟨#[32]⟩++str zr)))) #[.int .i64 14,.int .i64 ka,.int .i64 kb,.int .i64 kc,.int .i64 kk,.int .i64 kn,.slice a nr c,.slice b ns d] #[.bool false,.bool false,.bool false,.bool true,.bool false,.bool true,.bool true] w1.heap.size w2.heap.size y1):=J1.out.set' (by rw [← E1.out];exact str_put _ _)
    generalize u1.setCell ⟨w1.heap.size,0,none⟩ (.string (str y0++(⟨#[32]⟩++str zr)))=v1 at I2 ⊢
    clear I1 J1 D1 k1 j1 g1 f1 x0 x1 x2 x3 x4 x5 x6 x7 s0 s1 h0 h1 h2 h5 h6
    obtain ⟨x0,x1,x2,x3,x4,x5,x6,x7,s0,s1,h0,h1,h2,h5,h6⟩:=I2.out.cells
    go_wp2_with fail
    have n2:=m2
    have D2:Hid (∀ m,Calls Tryz.prog 92 #[.string ⟨#[40]⟩,.slice b ns d,.string ⟨#[41]⟩] (v1.drewN m) fun e w'=>e=.returned (.string (str zs))∧InsSt w w' _ _ _ _ y1):=fun m=>(CS.out _ (I2.out.bel.trans ((drewN_below (Below.refl _ _)).mono I2.out.bel.size))).mono fun e w' h=>⟨h.1,I2.out.below ((drewN_below (Below.refl _ _)).trans h.2)⟩
    have k2:¬ 9223372036854775807<1+(str zs).size:=by rw [str_size];omega
    have j2:¬ 9223372036854775807<(str y1).size+(1+(str zs).size):=by rw [str_size,str_size];first | omega | (simp only [List.length_cons] at *;omega)
    go_region_with (go_at_call 92;refine (D2.out _).mono ?_;rintro e u2 ⟨rfl,q2⟩;have J2:Hid (InsSt w u2 #[.int .i64 14,.int .i64 ka,.int .i64 kb,.int .i64 kc,.int .i64 kk,.int .i64 kn,.slice a nr c,.slice b ns d] #[.bool false,.bool false,.bool false,.bool true,.bool false,.bool true,.bool true] w1.heap.size w2.heap.size y1):=q2;clear q2;have g2:=cellOf J2.out.s 0 _ rfl;have f2:=freeOf J2.out.s 0)
    all_goals
      have I3:Hid (InsSt w (u2.setCell ⟨w1.heap.size,0,none⟩ (.string (str y1++(⟨#[32]⟩++str zs)))) #[.int .i64 14,.int .i64 ka,.int .i64 kb,.int .i64 kc,.int .i64 kk,.int .i64 kn,.slice a nr c,.slice b ns d] #[.bool false,.bool false,.bool false,.bool true,.bool false,.bool true,.bool true] w1.heap.size w2.heap.size y2):=J2.out.set' (by rw [← E2.out];exact str_put _ _)
      generalize u2.setCell ⟨w1.heap.size,0,none⟩ (.string (str y1++(⟨#[32]⟩++str zs)))=v2 at I3 ⊢
      clear I2 J2 D2 k2 j2 g2 f2 x0 x1 x2 x3 x4 x5 x6 x7 s0 s1 h0 h1 h2 h5 h6
      obtain ⟨x0,x1,x2,x3,x4,x5,x6,x7,s0,s1,h0,h1,h2,h5,h6⟩:=I3.out.cells
      go_wp2_with fail
      go_ret
      exact ⟨rfl,I3.out.bel⟩
theorem rword_len {ws : List (List UInt8)} (h : ∀ s ∈ ws, s.length ≤ 20) (k : Int) : (wordAt ws k).length ≤ 20 := by
  unfold wordAt
  split
  · simp
  · rw [List.getD]
    cases hx:ws[k.toNat - 1]? with
    | none=>simp
    | some s=>exact h s (List.mem_of_getElem? hx)
theorem rnT_len {k : Int} (h : -9223372036854775808 ≤ k ∧ k ≤ 9223372036854775807) : (nT k).length ≤ 22 := by
  have:=Lib.itoa_length_le k h.1 h.2
  simp [nT];omega
theorem insTextR_any (x : MIns) (cs : List Value) (w : World) (h0 : insL.In w All x cs) (hp : Pows w) (hs : x.small) (hf : (fieldsOf x.op).isNone = false) :
    Calls Tryz.prog 90 #[.agg cs.toArray] w fun e w'=>e=.returned (.string (str x.txt))∧Below w.heap.size w w':=by
  obtain ⟨a,c,b,d,rfl,h1,h2,i0,i1,i2,i3,i4,i5⟩:=ins_form h0
  have H:∀ ch,fieldsV x.op=.tuple #[.agg ch,.bool true]→InsH w #[.int .i64 x.op,.int .i64 x.a,.int .i64 x.b,.int .i64 x.c,.int .i64 x.k,.int .i64 x.n,.slice a x.regs.length c,.slice b x.args.length d] ch x.op x.a x.b x.c x.k x.n (wordAt opWords x.op) (intsT 60 62 x.regs) (intsT 40 41 x.args) (wordAt kindWords x.k) a b x.regs.length c x.args.length d:=fun ch hc =>
    { CW:=fun wx _=>opWord_any x.op wx
      CF:=fun wx=>by have:=fieldsOf_any x.op wx;rw [hc] at this;exact this
      CK:=fun wx=>kindWord_any x.k wx
      CN:=fun wx hb=>fmt_any x.n i5 wx (hp.below hb)
      CR:=fun wx hb=>intsText_any 60 62 _ _ _ wx (Lay.below h1 hb) (hp.below hb) hs.1
      CS:=fun wx hb=>intsText_any 40 41 _ _ _ wx (Lay.below h2 hb) (hp.below hb) hs.2
      CA:=fun k hk wx S H y hI hy=>addNum_any k (by rcases hk with rfl | rfl | rfl | rfl <;> assumption) hI (hp.below hI.bel) hy
      lz:=rword_len (by decide) _
      lk:=rword_len (by decide) _
      lr:=ints_len 60 62 h1 hs.1
      ls:=ints_len 40 41 h2 hs.2
      ln:=Lib.itoa_length_le _ i5.1 i5.2
      la:=rnT_len i1
      lb:=rnT_len i2
      lc:=rnT_len i3
      ld:=rnT_len i4 }
  rcases op_cases x.op with h | h | h | h | h | h | h | h | h | h | h | h | h | h | ⟨n1,n2,n3,n4,n5,n6,n7,n8,n9,n10,n11,n12,n13,n14⟩
  · exact (ins_num _ h (H _ (by rw [h];rfl))).mono fun e w' k=>⟨k.1.trans (congrArg (fun s=>Ending.returned (.string (str s))) (by simp [MIns.txt,MIns.rest,h,nT])),k.2⟩
  · exact (ins_bin _ h (H _ (by rw [h];rfl))).mono fun e w' k=>⟨k.1.trans (congrArg (fun s=>Ending.returned (.string (str s))) (by simp [MIns.txt,MIns.rest,h])),k.2⟩
  · exact (ins_none _ (by simp [h]) (H _ (by rw [h];rfl))).mono fun e w' k=>⟨k.1.trans (congrArg (fun s=>Ending.returned (.string (str s))) (by simp [MIns.txt,MIns.rest,h])),k.2⟩
  · exact (ins_a _ (by simp [h]) (H _ (by rw [h];rfl))).mono fun e w' k=>⟨k.1.trans (congrArg (fun s=>Ending.returned (.string (str s))) (by simp [MIns.txt,MIns.rest,h])),k.2⟩
  · exact (ins_tup _ h (H _ (by rw [h];rfl))).mono fun e w' k=>⟨k.1.trans (congrArg (fun s=>Ending.returned (.string (str s))) (by simp [MIns.txt,MIns.rest,h])),k.2⟩
  · exact (ins_get _ h (H _ (by rw [h];rfl))).mono fun e w' k=>⟨k.1.trans (congrArg (fun s=>Ending.returned (.string (str s))) (by simp [MIns.txt,MIns.rest,h])),k.2⟩
  · exact (ins_set _ h (H _ (by rw [h];rfl))).mono fun e w' k=>⟨k.1.trans (congrArg (fun s=>Ending.returned (.string (str s))) (by simp [MIns.txt,MIns.rest,h])),k.2⟩
  · exact (ins_ab _ (by simp [h]) (H _ (by rw [h];rfl))).mono fun e w' k=>⟨k.1.trans (congrArg (fun s=>Ending.returned (.string (str s))) (by simp [MIns.txt,MIns.rest,h])),k.2⟩
  · exact (ins_ab _ (by simp [h]) (H _ (by rw [h];rfl))).mono fun e w' k=>⟨k.1.trans (congrArg (fun s=>Ending.returned (.string (str s))) (by simp [MIns.txt,MIns.rest,h])),k.2⟩
  · exact (ins_abc _ h (H _ (by rw [h];rfl))).mono fun e w' k=>⟨k.1.trans (congrArg (fun s=>Ending.returned (.string (str s))) (by simp [MIns.txt,MIns.rest,h])),k.2⟩
  · exact (ins_a _ (by simp [h]) (H _ (by rw [h];rfl))).mono fun e w' k=>⟨k.1.trans (congrArg (fun s=>Ending.returned (.string (str s))) (by simp [MIns.txt,MIns.rest,h])),k.2⟩
  · exact (ins_none _ (by simp [h]) (H _ (by rw [h];rfl))).mono fun e w' k=>⟨k.1.trans (congrArg (fun s=>Ending.returned (.string (str s))) (by simp [MIns.txt,MIns.rest,h])),k.2⟩
  · exact (ins_a _ (by simp [h]) (H _ (by rw [h];rfl))).mono fun e w' k=>⟨k.1.trans (congrArg (fun s=>Ending.returned (.string (str s))) (by simp [MIns.txt,MIns.rest,h])),k.2⟩
  · exact (ins_call _ h (H _ (by rw [h];rfl))).mono fun e w' k=>⟨k.1.trans (congrArg (fun s=>Ending.returned (.string (str s))) (by simp [MIns.txt,MIns.rest,h])),k.2⟩
  · exfalso
    have e:fieldsOf x.op=none:=by
      unfold fieldsOf
      simp [n1,n2,n3,n4,n5,n6,n7,n8,n9,n10,n11,n12,n13,n14]
    rw [e] at hf
    cases hf
end Go.Proofs.YtalfbnllodhkiacGreatDoor
namespace Go.Proofs.YtalfbnllodhkiacGreatDoor
open Go.ChangeShapes Go.WideShapes Go.ChangeAt Go.RowKit
set_option linter.unusedVariables false
theorem calm_tail {P : Program} {id : Nat} {l l2 : List Oper} {outs : List Tmp} {gs : List (Nat × Option Bool)} {bs : List Bool} {a : Act} {w : World} {Q : Exit → Act → World → Prop}
    (E:Tmp→Value→World→Prop) (W:World→Prop) (R:World→World→Prop)
    (hm:P.follows .mixedOrders=true) {n m:Nat} (hn:a.tmps.size=m) (hnm:n≤m) (hB:calmB l n outs gs bs=true)
    (hT:(backB 0 (l++l2) && (guardsB l.length l && tailB l.length l2))=true)
    (hR:∀ t v w w',R w w'→E t v w→E t v w') (hG:GuardOk E W l.toArray gs) (hW:W w.drew) (hO:OutsOk E a w.drew outs)
    (hA:AllOk E W R P l bs)
    (hend:∀ (vs:Tmp→Value) w',W w'→(∀ t,(dstsOf l).contains t=true→E t (vs t) w')→wpList P (l++l2).toArray Q l2 (puts a vs (dstsOf l)) w') :
    (Code.region id (l++l2).toArray true).wp P Q a w:=by
  simp only [Bool.and_eq_true] at hT
  obtain ⟨hT1,hT2,hT3⟩:=hT
  refine wp_region_any hm ?_
  have key:wpAny P .any l.toArray (Exit.then (fun a w=>wpList P (l++l2).toArray Q l2 a w) Q) l.length (Array.replicate l.length false) a w.drew:=by
    refine wpAny_calm (E:=E) (W:=W) (R:=R) (a0:=a) (outs:=outs) (gs:=gs) (bs:=bs) (calmB_mono (hn ▸ hnm) hB) hR hG hA hend _ _ _ _ (by simp) ?_ ⟨hW,rfl,rfl,fun _ _=>rfl,fun t ht _=>outs_mem outs hO t ht,?_⟩
    · simp only [Array.toList_replicate]
      exact Nat.le_trans (List.length_filter_le _ _) (by simp)
    · intro j o t hj hd hl
      simp [Array.getD] at hl
  have:=wpAny_tail (Q:=Q) hT1 hT2 hT3 l.length (Array.replicate l.length false) a w.drew (by simp) key
  have e:(Array.replicate l.length false++Array.replicate l2.length false:Array Bool)=Array.replicate (l++l2).toArray.size false:=by
    simp
  have e2:l.length+l2.length=(l++l2).toArray.size:=by simp
  rw [e,e2] at this
  exact this
theorem wp_region_calm_tail {P : Program} {id : Nat} {lo : List Oper} {outs : List Tmp} {gs : List (Nat × Option Bool)} {bs : List Bool} {a : Act} {w : World} {Q : Exit → Act → World → Prop}
    (k:Nat) (E:Tmp→Value→World→Prop) (W:World→Prop) (R:World→World→Prop)
    (hm:P.follows .mixedOrders=true) {n m:Nat} (hn:a.tmps.size=m) (hnm:n≤m) (hB:calmB (lo.take k) n outs gs bs=true)
    (hT:(backB 0 lo && (guardsB (lo.take k).length (lo.take k) && tailB (lo.take k).length (lo.drop k)))=true)
    (hR:∀ t v w w',R w w'→E t v w→E t v w') (hG:GuardOk E W (lo.take k).toArray gs) (hW:W w.drew) (hO:OutsOk E a w.drew outs)
    (hA:AllOk E W R P (lo.take k) bs)
    (hend:∀ ops (vs:Tmp→Value) w',W w'→(∀ t,(dstsOf (lo.take k)).contains t=true→E t (vs t) w')→wpList P ops Q (lo.drop k) (puts a vs (dstsOf (lo.take k))) w') :
    (Code.region id lo.toArray true).wp P Q a w:=by
  have h:=calm_tail (id:=id) (l:=lo.take k) (l2:=lo.drop k) (Q:=Q) E W R hm hn hnm hB (by rw [List.take_append_drop];exact hT) hR hG hW hO hA (hend _)
  rwa [List.take_append_drop] at h
end Go.Proofs.YtalfbnllodhkiacGreatDoor
