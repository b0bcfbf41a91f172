import Derived.Test.YtalfbnllodhkiacGreatDoorP4
import Derived.Lib.Bytealg
import Derived.Lib.Strings
import Derived.Lib.Slices
import Derived.Lib.Walk
import Derived.Shelf.Abstract
import Derived.Lib.AtoiErrMem
import Derived.Lib.ParseIntBTie
import Derived.BigQuiet
import Derived.Deep.Cut
set_option maxHeartbeats 16000000
set_option maxRecDepth 100000
namespace Go.Proofs.YtalfbnllodhkiacGreatDoor
open Go.ChangeShapes Go.WideShapes Go.ChangeAt Go.RowKit
set_option linter.unusedSimpArgs false
set_option linter.unusedVariables false
theorem sameModule_any {n : Nat} {m k : List (MFunc n)} {p p2 : Option Addr} {c d : Nat} {w : World} (hm0 : (modL n).In w All m [.slice p m.length c]) (hk0 : (modL n).In w All k [.slice p2 k.length d]) (hs0 : msmall m) :
    Rd Tryz.prog 11 #[.agg #[.slice p m.length c],.agg #[.slice p2 k.length d]] w (.bool (bdec (m=k))):=by
  have hm:Hid _:=hm0
  have hk:Hid _:=hk0
  have hs:Hid _:=hs0
  have hcl:=hs0.1
  clear hm0 hk0 hs0
  refine fr_enter (n:=82) Tryz.func11 rfl rfl rfl ?_
  intro a hF
  have hW:=Wd.start w
  replace hF:Fr 82 a [(0,.agg #[.slice p m.length c]),(1,.agg #[.slice p2 k.length d])]:=hF
  refine wp_seq_k fun K1 hK1=>?_
  refine rg hF fun ops=>?_;clear hF a
  refine sB hW trivial rfl rfl ?_
  clear hW;intro w2 B2 hW2 hN;clear hN
  refine sB hW2 trivial rfl rfl ?_
  clear hW2;intro w3 B3 hW3 hN;clear hN
  refine sa trivial rfl rfl ?_
  refine St.nil fun a4 h4=>?_
  refine hK1 _ _ ?_
  refine wp_seq_k fun K5 hK5=>?_
  refine wp_seq_k fun K6 hK6=>?_
  refine rg h4 fun ops=>?_;clear h4 a4
  refine sfModule0 trivial rfl rfl ?_
  refine sbFuncs 1 hW3 trivial rfl rfl rfl rfl ?_
  refine slFuncs trivial rfl rfl ?_
  refine sfModule0 trivial rfl rfl ?_
  refine sbFuncs 0 hW3 trivial rfl rfl rfl rfl ?_
  refine slFuncs trivial rfl rfl ?_
  refine sne trivial rfl rfl rfl ?_
  refine St.nil fun a7 h7=>?_
  refine hK6 _ _ ?_
  refine fr_cond (t:=15) h7 rfl (fun hb=>?_) (fun hb=>?_)
  ·have h9:¬ m.length=k.length:=by have h8:=bne_iff_ne.1 hb;omega
   have hlen:¬ m.length=k.length:=h9
   clear h9
   clear hb
   refine wp_seq_k fun K8 hK8=>?_
   refine rg h7 fun ops=>?_;clear h7 a7
   refine sa trivial rfl rfl ?_
   refine St.nil fun a9 h9=>?_
   refine hK8 _ _ ?_
   refine wp_ret ?_;with_reducible repeat first | refine of_then_ret ?_ | refine of_block_ret ?_
   have R:¬ m=k:=fun e=>hlen (by rw [e])
   exact ret_tmp (t:=4) h9 rfl rfl ⟨by rw [bdec_false R],hW3.bel⟩
  have h9:m.length=k.length:=by have h8:=bne_eq_false_iff_eq.1 hb;omega
  have hlen:Hid (m.length=k.length):=h9
  clear h9
  clear hb
  refine wp_skip ?_
  refine hK5 _ _ ?_
  refine wp_seq_k fun K10 hK10=>?_
  refine wp_seq_k fun K11 hK11=>?_
  refine rg h7 fun ops=>?_;clear h7 a7
  refine sa trivial rfl rfl ?_
  refine St.nil fun a12 h12=>?_
  refine hK11 _ _ ?_
  refine wp_block ?_
  refine fr_loop (fun r a w'=>∃ q:Nat,q≤m.length∧r=m.length - q∧(∀ j,j<q→m[j]?=k[j]?)∧Fr 82 a [(1,.agg #[.slice p2 k.length d]),(0,.agg #[.slice p m.length c]),(2,.pointer (some ⟨B2,0,none⟩)),(3,.pointer (some ⟨B3,0,none⟩)),(4,.bool false),(5,.int .i64 (q:Int))]∧Wd w w' [(B3,#[.slice p2 k.length d],25),(B2,#[.slice p m.length c],25)]) (m.length) ⟨0,Nat.zero_le _,rfl,(fun j hj=>by omega),(h12.keep (h12.keep (h12.keep (h12.keep (h12.keep (h12.keep h12.nil (t:=5) rfl) (t:=4) rfl) (t:=3) rfl) (t:=2) rfl) (t:=0) rfl) (t:=1) rfl),hW3⟩ ?_
  clear h12 hW3
  rintro r a13 w13 ⟨q,hq,hr,hall,hF13,hW13⟩ KL hKL
  refine wp_seq_k fun K14 hK14=>?_
  refine wp_seq_k fun K15 hK15=>?_
  refine rg hF13 fun ops=>?_;clear hF13 a13
  refine sm trivial rfl rfl ?_
  refine sfModule0 trivial rfl rfl ?_
  refine sbFuncs 1 hW13 trivial rfl rfl rfl rfl ?_
  refine slFuncs trivial rfl rfl ?_
  refine slt trivial rfl rfl rfl ?_
  refine St.nil fun a16 h16=>?_
  refine hK15 _ _ ?_
  refine fr_cond (t:=20) h16 rfl (fun hb=>?_) (fun hb=>?_)
  ·have hlt1:q<m.length:=by have:=of_decide_eq_true hb;omega
   have hlt2:q<k.length:=by have:=hlen.out;omega
   clear hb
   obtain ⟨x,hx1⟩:∃ v9,(m)[q]?=some v9:=⟨_,List.getElem?_eq_getElem hlt1⟩
   obtain ⟨g1,o1,f1,hp1,E1,In1⟩:=func_at hm.out hx1
   replace In1:Hid _:=In1
   replace hp1:Hid _:=hp1
   replace hx1:Hid _:=hx1
   replace E1:Hid _:=E1
   obtain ⟨y,hx2⟩:∃ v9,(k)[q]?=some v9:=⟨_,List.getElem?_eq_getElem hlt2⟩
   obtain ⟨g2,o2,f2,hp2,E2,In2⟩:=func_at hk.out hx2
   replace In2:Hid _:=In2
   replace hp2:Hid _:=hp2
   replace hx2:Hid _:=hx2
   replace E2:Hid _:=E2
   have hs1:Hid _:=hs.out.2 x (List.mem_of_getElem? hx1.out)
   have hbl:=hs1.out.1
   refine wp_skip ?_
   refine hK14 _ _ ?_
   refine wp_seq_k fun K17 hK17=>?_
   refine wp_block ?_
   refine wp_seq_k fun K18 hK18=>?_
   have hF19:Fr 82 a16 [(1,.agg #[.slice p2 k.length d]),(0,.agg #[.slice p m.length c]),(2,.pointer (some ⟨B2,0,none⟩)),(3,.pointer (some ⟨B3,0,none⟩)),(4,.bool false),(5,.int .i64 (q:Int))]:=(h16.keep (h16.keep (h16.keep (h16.keep (h16.keep (h16.keep h16.nil (t:=5) rfl) (t:=4) rfl) (t:=3) rfl) (t:=2) rfl) (t:=0) rfl) (t:=1) rfl)
   have ho2:a16.tmps.getD 2 undef=.pointer (some ⟨B2,0,none⟩):=h16.sl 2 _ rfl
   have ho5:a16.tmps.getD 5 undef=.int .i64 (q:Int):=h16.sl 5 _ rfl
   have ho3:a16.tmps.getD 3 undef=.pointer (some ⟨B3,0,none⟩):=h16.sl 3 _ rfl
   refine fr_draw3 [(0,23),(1,24),(2,25),(3,26),(4,27),(5,28),(6,29),(7,30),(8,31),(9,32)] [(10,6,4,42),(11,7,4,42)] [(12,6,4,42),(13,7,4,42)] [(23,.pointer (some ⟨B2,0,none⟩)),(24,.slice p m.length c),(25,.int .i64 (q:Int)),(26,.pointer (some ⟨g1,o1+q*4,none⟩)),(27,.agg #[.int .i64 x.regs,.slice f1.pP x.params.length f1.cP,.slice f1.pR x.results.length f1.cR,.slice f1.pB x.blocks.length f1.cB]),(28,.pointer (some ⟨B3,0,none⟩)),(29,.slice p2 k.length d),(30,.int .i64 (q:Int)),(31,.pointer (some ⟨g2,o2+q*4,none⟩)),(32,.agg #[.int .i64 y.regs,.slice f2.pP y.params.length f2.cP,.slice f2.pR y.results.length f2.cR,.slice f2.pB y.blocks.length f2.cB])] [(6,[.int .i64 x.regs,.slice f1.pP x.params.length f1.cP,.slice f1.pR x.results.length f1.cR,.slice f1.pB x.blocks.length f1.cB]),(7,[.int .i64 y.regs,.slice f2.pP y.params.length f2.cP,.slice f2.pR y.results.length f2.cR,.slice f2.pB y.blocks.length f2.cB])] (by kernel_rfl) hF19 (by kernel_rfl) (by kernel_rfl) (fun hDB=>?hst) ?hend
   case hst =>
    refine ⟨fun S a1 w1 hS hd hcl hI K hK=>?_,?_⟩
    · have hWd:=hW13.below hI.bel
      have k0:a1.tmps.getD 2 undef=.pointer (some ⟨B2,0,none⟩):=(hI.outer 2 (by kernel_rfl)).trans ho2
      go_simp
      exact hK _ _ (DI.pure hDB hI (i:=0) (t:=23) (by decide) rfl hS (Below.refl _ _) (by kernel_rfl) (by kernel_rfl))
    refine ⟨fun S a1 w1 hS hd hcl hI K hK=>?_,?_⟩
    · have hWd:=hW13.below hI.bel
      have k0:a1.tmps.getD 23 undef=.pointer (some ⟨B2,0,none⟩):=hI.vals (0,23) (by decide) (hd.at 0 (by kernel_rfl)) _ rfl
      have c0:w1.cell? ⟨B2,0,none⟩=some (.slice p m.length c):=cellOf (hWd.get 1 rfl) 0 _ rfl
      go_simp
      exact hK _ _ (DI.pure hDB hI (i:=1) (t:=24) (by decide) rfl hS (Below.refl _ _) (by kernel_rfl) (by kernel_rfl))
    refine ⟨fun S a1 w1 hS hd hcl hI K hK=>?_,?_⟩
    · have hWd:=hW13.below hI.bel
      have k0:a1.tmps.getD 5 undef=.int .i64 (q:Int):=(hI.outer 5 (by kernel_rfl)).trans ho5
      go_simp
      exact hK _ _ (DI.pure hDB hI (i:=2) (t:=25) (by decide) rfl hS (Below.refl _ _) (by kernel_rfl) (by kernel_rfl))
    refine ⟨fun S a1 w1 hS hd hcl hI K hK=>?_,?_⟩
    · have hWd:=hW13.below hI.bel
      have k0:a1.tmps.getD 24 undef=.slice p m.length c:=hI.vals (1,24) (by decide) (hd.at 1 (by kernel_rfl)) _ rfl
      have k1:a1.tmps.getD 25 undef=.int .i64 (q:Int):=hI.vals (2,25) (by decide) (hd.at 2 (by kernel_rfl)) _ rfl
      have hpq:=hp1.out
      have hk0:(0:Int)≤q:=by omega
      have hk1:(q:Int)<(m.length:Int):=by omega
      go_simp
      exact hK _ _ (DI.pure hDB hI (i:=3) (t:=26) (by decide) rfl hS (Below.refl _ _) (by kernel_rfl) (by kernel_rfl))
    refine ⟨fun S a1 w1 hS hd hcl hI K hK=>?_,?_⟩
    · have hWd:=hW13.below hI.bel
      have k0:a1.tmps.getD 26 undef=.pointer (some ⟨g1,o1+q*4,none⟩):=hI.vals (3,26) (by decide) (hd.at 3 (by kernel_rfl)) _ rfl
      have d0:w1.cell? ⟨g1,o1+q*4,none⟩=some (.int .i64 x.regs):=bel_cell hWd.bel (E1.out 0 _ rfl)
      have d1:w1.cell? ⟨g1,o1+q*4+1,none⟩=some (.slice f1.pP x.params.length f1.cP):=bel_cell hWd.bel (E1.out 1 _ rfl)
      have d2:w1.cell? ⟨g1,o1+q*4+2,none⟩=some (.slice f1.pR x.results.length f1.cR):=bel_cell hWd.bel (E1.out 2 _ rfl)
      have d3:w1.cell? ⟨g1,o1+q*4+3,none⟩=some (.slice f1.pB x.blocks.length f1.cB):=bel_cell hWd.bel (E1.out 3 _ rfl)
      go_simp
      exact hK _ _ (DI.pure hDB hI (i:=4) (t:=27) (by decide) rfl hS (Below.refl _ _) (by kernel_rfl) (by kernel_rfl))
    refine ⟨fun S a1 w1 hS hd hcl hI K hK=>?_,?_⟩
    · have hWd:=hW13.below hI.bel
      have k0:a1.tmps.getD 3 undef=.pointer (some ⟨B3,0,none⟩):=(hI.outer 3 (by kernel_rfl)).trans ho3
      go_simp
      exact hK _ _ (DI.pure hDB hI (i:=5) (t:=28) (by decide) rfl hS (Below.refl _ _) (by kernel_rfl) (by kernel_rfl))
    refine ⟨fun S a1 w1 hS hd hcl hI K hK=>?_,?_⟩
    · have hWd:=hW13.below hI.bel
      have k0:a1.tmps.getD 28 undef=.pointer (some ⟨B3,0,none⟩):=hI.vals (5,28) (by decide) (hd.at 5 (by kernel_rfl)) _ rfl
      have c0:w1.cell? ⟨B3,0,none⟩=some (.slice p2 k.length d):=cellOf (hWd.get 0 rfl) 0 _ rfl
      go_simp
      exact hK _ _ (DI.pure hDB hI (i:=6) (t:=29) (by decide) rfl hS (Below.refl _ _) (by kernel_rfl) (by kernel_rfl))
    refine ⟨fun S a1 w1 hS hd hcl hI K hK=>?_,?_⟩
    · have hWd:=hW13.below hI.bel
      have k0:a1.tmps.getD 5 undef=.int .i64 (q:Int):=(hI.outer 5 (by kernel_rfl)).trans ho5
      go_simp
      exact hK _ _ (DI.pure hDB hI (i:=7) (t:=30) (by decide) rfl hS (Below.refl _ _) (by kernel_rfl) (by kernel_rfl))
    refine ⟨fun S a1 w1 hS hd hcl hI K hK=>?_,?_⟩
    · have hWd:=hW13.below hI.bel
      have k0:a1.tmps.getD 29 undef=.slice p2 k.length d:=hI.vals (6,29) (by decide) (hd.at 6 (by kernel_rfl)) _ rfl
      have k1:a1.tmps.getD 30 undef=.int .i64 (q:Int):=hI.vals (7,30) (by decide) (hd.at 7 (by kernel_rfl)) _ rfl
      have hpq:=hp2.out
      have hk0:(0:Int)≤q:=by omega
      have hk1:(q:Int)<(k.length:Int):=by omega
      go_simp
      exact hK _ _ (DI.pure hDB hI (i:=8) (t:=31) (by decide) rfl hS (Below.refl _ _) (by kernel_rfl) (by kernel_rfl))
    refine ⟨fun S a1 w1 hS hd hcl hI K hK=>?_,?_⟩
    · have hWd:=hW13.below hI.bel
      have k0:a1.tmps.getD 31 undef=.pointer (some ⟨g2,o2+q*4,none⟩):=hI.vals (8,31) (by decide) (hd.at 8 (by kernel_rfl)) _ rfl
      have d0:w1.cell? ⟨g2,o2+q*4,none⟩=some (.int .i64 y.regs):=bel_cell hWd.bel (E2.out 0 _ rfl)
      have d1:w1.cell? ⟨g2,o2+q*4+1,none⟩=some (.slice f2.pP y.params.length f2.cP):=bel_cell hWd.bel (E2.out 1 _ rfl)
      have d2:w1.cell? ⟨g2,o2+q*4+2,none⟩=some (.slice f2.pR y.results.length f2.cR):=bel_cell hWd.bel (E2.out 2 _ rfl)
      have d3:w1.cell? ⟨g2,o2+q*4+3,none⟩=some (.slice f2.pB y.blocks.length f2.cB):=bel_cell hWd.bel (E2.out 3 _ rfl)
      go_simp
      exact hK _ _ (DI.pure hDB hI (i:=9) (t:=32) (by decide) rfl hS (Below.refl _ _) (by kernel_rfl) (by kernel_rfl))
    refine ⟨fun S a1 w1 hS hd hcl hI K hK=>?_,?_⟩
    · go_simp
      exact hK _ _ (DI.alloc hDB hI (i:=10) (t:=6) (s:=4) (ty:=42) (by decide) rfl hS hcl (by kernel_rfl) (by kernel_rfl))
    refine ⟨fun S a1 w1 hS hd hcl hI K hK=>?_,?_⟩
    · go_simp
      exact hK _ _ (DI.alloc hDB hI (i:=11) (t:=7) (s:=4) (ty:=42) (by decide) rfl hS hcl (by kernel_rfl) (by kernel_rfl))
    refine ⟨fun S a1 w1 hS hd hcl hI K hK=>?_,?_⟩
    · have k0:a1.tmps.getD 27 undef=.agg #[.int .i64 x.regs,.slice f1.pP x.params.length f1.cP,.slice f1.pR x.results.length f1.cR,.slice f1.pB x.blocks.length f1.cB]:=hI.vals (4,27) (by decide) (hd.at 4 (by kernel_rfl)) _ rfl
      obtain ⟨B,kB,hlo,c0,hBk,hcs⟩:=hI.box (i:=10) (t:=6) (s:=4) (ty:=42) (by decide) (hd.at 10 (by kernel_rfl))
      exact wp_fill hBk kB k0 infFunc rfl hcs.symm (hK _ _ (DI.store hDB hI (i:=12) (t:=6) (s:=4) (ty:=42) (j:=10) (by decide) (by decide) (hd.at 10 (by kernel_rfl)) kB hBk hcs hlo rfl rfl hS hcl (by kernel_rfl) (by kernel_rfl)))
    refine ⟨fun S a1 w1 hS hd hcl hI K hK=>?_,?_⟩
    · have k0:a1.tmps.getD 32 undef=.agg #[.int .i64 y.regs,.slice f2.pP y.params.length f2.cP,.slice f2.pR y.results.length f2.cR,.slice f2.pB y.blocks.length f2.cB]:=hI.vals (9,32) (by decide) (hd.at 9 (by kernel_rfl)) _ rfl
      obtain ⟨B,kB,hlo,c0,hBk,hcs⟩:=hI.box (i:=11) (t:=7) (s:=4) (ty:=42) (by decide) (hd.at 11 (by kernel_rfl))
      exact wp_fill hBk kB k0 infFunc rfl hcs.symm (hK _ _ (DI.store hDB hI (i:=13) (t:=7) (s:=4) (ty:=42) (j:=11) (by decide) (by decide) (hd.at 11 (by kernel_rfl)) kB hBk hcs hlo rfl rfl hS hcl (by kernel_rfl) (by kernel_rfl)))
    trivial
   case hend =>
    intro S a20 w20 hS hD hFD
    obtain ⟨BD6,hd6,hBl6,hBk6⟩:=hD.full (j:=10) (i:=12) (t:=6) (s:=4) (ty:=42) (by decide) (hS _ (by decide)) (by decide) (hS _ (by decide)) rfl
    obtain ⟨BD7,hd7,hBl7,hBk7⟩:=hD.full (j:=11) (i:=13) (t:=7) (s:=4) (ty:=42) (by decide) (hS _ (by decide)) (by decide) (hS _ (by decide)) rfl
    have hF20:Fr 82 a20 [(7,.pointer (some ⟨BD7,0,none⟩)),(6,.pointer (some ⟨BD6,0,none⟩)),(1,.agg #[.slice p2 k.length d]),(0,.agg #[.slice p m.length c]),(2,.pointer (some ⟨B2,0,none⟩)),(3,.pointer (some ⟨B3,0,none⟩)),(4,.bool false),(5,.int .i64 (q:Int))]:=((hFD.cons hd6).cons hd7)
    have hnB:BD6≠BD7:=fun e=>hD.ne (10,6,4,42) (by decide) (11,7,4,42) (by decide) (by decide) (hS _ (by decide)) (hS _ (by decide)) (by rw [hd6,hd7,e])
    have hW20:Wd w w20 [(BD6,#[.int .i64 x.regs,.slice f1.pP x.params.length f1.cP,.slice f1.pR x.results.length f1.cR,.slice f1.pB x.blocks.length f1.cB],42),(BD7,#[.int .i64 y.regs,.slice f2.pP y.params.length f2.cP,.slice f2.pR y.results.length f2.cR,.slice f2.pB y.blocks.length f2.cB],42),(B3,#[.slice p2 k.length d],25),(B2,#[.slice p m.length c],25)]:=Wd.add2 (hW13.below hD.bel) hW13 hBk6 hBk7 hnB hBl6 hBl7
    clear hS hD hFD hnB hW13 hd6 hd7
    clear hBl6 hBk6 hBl7 hBk7
    refine hK18 _ _ ?_
    refine wp_seq_k fun K21 hK21=>?_
    refine wp_seq_k fun K22 hK22=>?_
    refine fr_region ?_
    intro ops hops
    have hg5:(ops[5]?).bind (fun o:Oper=>o.dst)=some 38:=hops 5
    have hg13:(ops[13]?).bind (fun o:Oper=>o.dst)=some 46:=hops 13
    have hg21:(ops[21]?).bind (fun o:Oper=>o.dst)=some 54:=hops 21
    clear hops
    refine St.go hF20 ?_;clear hF20 a20
    refine sfFunc0 trivial rfl rfl ?_
    refine sbInt 0 hW20 trivial rfl rfl rfl rfl ?_
    refine sfFunc0 trivial rfl rfl ?_
    refine sbInt 1 hW20 trivial rfl rfl rfl rfl ?_
    refine sne trivial rfl rfl rfl ?_
    refine sm trivial rfl rfl ?_
    intro a23 h23
    rcases Bool.eq_false_or_eq_true (x.regs != y.regs) with hb | hb
    ·rw [hb] at h23
     have h9:¬ x.regs=y.regs:=bne_iff_ne.1 hb
     have hc24:¬ x.regs=y.regs:=h9
     clear h9
     clear hb
     refine St.go h23 ?_;clear h23 a23
     refine so hg5 rfl rfl rfl rfl ?_
     refine so hg5 rfl rfl rfl rfl ?_
     refine so hg5 rfl rfl rfl rfl ?_
     refine so hg5 rfl rfl rfl rfl ?_
     refine so hg5 rfl rfl rfl rfl ?_
     refine so hg5 rfl rfl rfl rfl ?_
     refine sp trivial rfl rfl rfl ?_
     refine sm trivial rfl rfl ?_
     refine so hg13 rfl rfl rfl rfl ?_
     refine so hg13 rfl rfl rfl rfl ?_
     refine so hg13 rfl rfl rfl rfl ?_
     refine so hg13 rfl rfl rfl rfl ?_
     refine so hg13 rfl rfl rfl rfl ?_
     refine so hg13 rfl rfl rfl rfl ?_
     refine sp trivial rfl rfl rfl ?_
     refine sm trivial rfl rfl ?_
     refine so hg21 rfl rfl rfl rfl ?_
     refine so hg21 rfl rfl rfl rfl ?_
     refine so hg21 rfl rfl rfl rfl ?_
     refine so hg21 rfl rfl rfl rfl ?_
     refine so hg21 rfl rfl rfl rfl ?_
     refine so hg21 rfl rfl rfl rfl ?_
     refine so hg21 rfl rfl rfl rfl ?_
     refine sp trivial rfl rfl rfl ?_
     refine St.nil fun a25 h25=>?_
     refine hK22 _ _ ?_
     refine fr_true (t:=62) h25 rfl ?_
     refine wp_seq_k fun K26 hK26=>?_
     refine rg h25 fun ops=>?_;clear h25 a25
     refine sa trivial rfl rfl ?_
     refine St.nil fun a27 h27=>?_
     refine hK26 _ _ ?_
     refine wp_ret ?_;with_reducible repeat first | refine of_then_ret ?_ | refine of_block_ret ?_
     have RX:¬ x=y:=by
       intro e
       first
         | exact hlb (by rw [e])
         | exact hc24 (by rw [e])
     have R:¬ m=k:=by
       intro e
       have h1:=hx1.out
       rw [e,hx2.out] at h1
       exact RX (Option.some.inj h1).symm
     exact ret_tmp (t:=4) h27 rfl rfl ⟨by rw [bdec_false R],hW20.bel⟩
    rw [hb] at h23
    have h9:x.regs=y.regs:=bne_eq_false_iff_eq.1 hb
    have hc28:Hid (x.regs=y.regs):=h9
    clear h9
    clear hb
    refine St.go h23 ?_;clear h23 a23
    refine sfFunc1 ⟨_,hg5,rfl,rfl⟩ rfl rfl ?_
    refine sbTypes 0 hW20 ⟨_,hg5,rfl,rfl⟩ rfl rfl rfl rfl ?_
    refine sfFunc1 ⟨_,hg5,rfl,rfl⟩ rfl rfl ?_
    refine sbTypes 1 hW20 ⟨_,hg5,rfl,rfl⟩ rfl rfl rfl rfl ?_
    refine sc_2 cf33 hW20 (sameTypes_any (Lay.below In1.out.params hW20.bel) (Lay.below In2.out.params hW20.bel) hs1.out.2.1) ⟨_,hg5,rfl,rfl⟩ rfl rfl rfl ?_
    clear hW20;intro w29 hW29
    refine sn ⟨_,hg5,rfl,rfl⟩ rfl rfl ?_
    refine spf trivial rfl rfl rfl ?_
    refine sm trivial rfl rfl ?_
    intro a30 h30
    rcases Bool.eq_false_or_eq_true (!(bdec (x.params=y.params))) with hb | hb
    ·rw [hb] at h30
     have hb:(bdec (x.params=y.params))=false:=by simpa using hb
     have hc31:¬ (x.params=y.params):=fun h=>by rw [bdec_true h] at hb;cases hb
     clear hb
     refine St.go h30 ?_;clear h30 a30
     refine so hg13 rfl rfl rfl rfl ?_
     refine so hg13 rfl rfl rfl rfl ?_
     refine so hg13 rfl rfl rfl rfl ?_
     refine so hg13 rfl rfl rfl rfl ?_
     refine so hg13 rfl rfl rfl rfl ?_
     refine so hg13 rfl rfl rfl rfl ?_
     refine sp trivial rfl rfl rfl ?_
     refine sm trivial rfl rfl ?_
     refine so hg21 rfl rfl rfl rfl ?_
     refine so hg21 rfl rfl rfl rfl ?_
     refine so hg21 rfl rfl rfl rfl ?_
     refine so hg21 rfl rfl rfl rfl ?_
     refine so hg21 rfl rfl rfl rfl ?_
     refine so hg21 rfl rfl rfl rfl ?_
     refine so hg21 rfl rfl rfl rfl ?_
     refine sp trivial rfl rfl rfl ?_
     refine St.nil fun a32 h32=>?_
     refine hK22 _ _ ?_
     refine fr_true (t:=62) h32 rfl ?_
     refine wp_seq_k fun K33 hK33=>?_
     refine rg h32 fun ops=>?_;clear h32 a32
     refine sa trivial rfl rfl ?_
     refine St.nil fun a34 h34=>?_
     refine hK33 _ _ ?_
     refine wp_ret ?_;with_reducible repeat first | refine of_then_ret ?_ | refine of_block_ret ?_
     have RX:¬ x=y:=by
       intro e
       first
         | exact hlb (by rw [e])
         | exact hc31 (by rw [e])
         | exact hc28 (by rw [e])
     have R:¬ m=k:=by
       intro e
       have h1:=hx1.out
       rw [e,hx2.out] at h1
       exact RX (Option.some.inj h1).symm
     exact ret_tmp (t:=4) h34 rfl rfl ⟨by rw [bdec_false R],hW29.bel⟩
    rw [hb] at h30
    have hb:(bdec (x.params=y.params))=true:=by simpa using hb
    have hc35:(x.params=y.params):=bdec_iff.1 hb
    clear hb
    refine St.go h30 ?_;clear h30 a30
    refine sfFunc2 ⟨_,hg13,rfl,rfl⟩ rfl rfl ?_
    refine sbTypes 0 hW29 ⟨_,hg13,rfl,rfl⟩ rfl rfl rfl rfl ?_
    refine sfFunc2 ⟨_,hg13,rfl,rfl⟩ rfl rfl ?_
    refine sbTypes 1 hW29 ⟨_,hg13,rfl,rfl⟩ rfl rfl rfl rfl ?_
    refine sc_2 cf33 hW29 (sameTypes_any (Lay.below In1.out.results hW29.bel) (Lay.below In2.out.results hW29.bel) hs1.out.2.2.1) ⟨_,hg13,rfl,rfl⟩ rfl rfl rfl ?_
    clear hW29;intro w36 hW36
    refine sn ⟨_,hg13,rfl,rfl⟩ rfl rfl ?_
    refine spf trivial rfl rfl rfl ?_
    refine sm trivial rfl rfl ?_
    intro a37 h37
    rcases Bool.eq_false_or_eq_true (!(bdec (x.results=y.results))) with hb | hb
    ·rw [hb] at h37
     have hb:(bdec (x.results=y.results))=false:=by simpa using hb
     have hc38:¬ (x.results=y.results):=fun h=>by rw [bdec_true h] at hb;cases hb
     clear hb
     refine St.go h37 ?_;clear h37 a37
     refine so hg21 rfl rfl rfl rfl ?_
     refine so hg21 rfl rfl rfl rfl ?_
     refine so hg21 rfl rfl rfl rfl ?_
     refine so hg21 rfl rfl rfl rfl ?_
     refine so hg21 rfl rfl rfl rfl ?_
     refine so hg21 rfl rfl rfl rfl ?_
     refine so hg21 rfl rfl rfl rfl ?_
     refine sp trivial rfl rfl rfl ?_
     refine St.nil fun a39 h39=>?_
     refine hK22 _ _ ?_
     refine fr_true (t:=62) h39 rfl ?_
     refine wp_seq_k fun K40 hK40=>?_
     refine rg h39 fun ops=>?_;clear h39 a39
     refine sa trivial rfl rfl ?_
     refine St.nil fun a41 h41=>?_
     refine hK40 _ _ ?_
     refine wp_ret ?_;with_reducible repeat first | refine of_then_ret ?_ | refine of_block_ret ?_
     have RX:¬ x=y:=by
       intro e
       first
         | exact hlb (by rw [e])
         | exact hc38 (by rw [e])
         | exact hc35 (by rw [e])
         | exact hc28 (by rw [e])
     have R:¬ m=k:=by
       intro e
       have h1:=hx1.out
       rw [e,hx2.out] at h1
       exact RX (Option.some.inj h1).symm
     exact ret_tmp (t:=4) h41 rfl rfl ⟨by rw [bdec_false R],hW36.bel⟩
    rw [hb] at h37
    have hb:(bdec (x.results=y.results))=true:=by simpa using hb
    have hc42:(x.results=y.results):=bdec_iff.1 hb
    clear hb
    refine St.go h37 ?_;clear h37 a37
    refine sfFunc3 ⟨_,hg21,rfl,rfl⟩ rfl rfl ?_
    refine sbBlocks 0 hW36 ⟨_,hg21,rfl,rfl⟩ rfl rfl rfl rfl ?_
    refine slBlocks ⟨_,hg21,rfl,rfl⟩ rfl rfl ?_
    refine sfFunc3 ⟨_,hg21,rfl,rfl⟩ rfl rfl ?_
    refine sbBlocks 1 hW36 ⟨_,hg21,rfl,rfl⟩ rfl rfl rfl rfl ?_
    refine slBlocks ⟨_,hg21,rfl,rfl⟩ rfl rfl ?_
    refine sne ⟨_,hg21,rfl,rfl⟩ rfl rfl rfl ?_
    refine spf trivial rfl rfl rfl ?_
    refine St.nil fun a43 h43=>?_
    refine hK22 _ _ ?_
    refine fr_cond (t:=62) h43 rfl (fun hb=>?_) (fun hb=>?_)
    ·have h9:¬ x.blocks.length=y.blocks.length:=by have h8:=bne_iff_ne.1 hb;omega
     have hlb:¬ x.blocks.length=y.blocks.length:=h9
     clear h9
     clear hb
     refine wp_seq_k fun K44 hK44=>?_
     refine rg h43 fun ops=>?_;clear h43 a43
     refine sa trivial rfl rfl ?_
     refine St.nil fun a45 h45=>?_
     refine hK44 _ _ ?_
     refine wp_ret ?_;with_reducible repeat first | refine of_then_ret ?_ | refine of_block_ret ?_
     have RX:¬ x=y:=by
       intro e
       first
         | exact hlb (by rw [e])
         | exact hc42 (by rw [e])
         | exact hc35 (by rw [e])
         | exact hc28 (by rw [e])
     have R:¬ m=k:=by
       intro e
       have h1:=hx1.out
       rw [e,hx2.out] at h1
       exact RX (Option.some.inj h1).symm
     exact ret_tmp (t:=4) h45 rfl rfl ⟨by rw [bdec_false R],hW36.bel⟩
    have h9:x.blocks.length=y.blocks.length:=by have h8:=bne_eq_false_iff_eq.1 hb;omega
    have hlb:Hid (x.blocks.length=y.blocks.length):=h9
    clear h9
    clear hb
    refine wp_skip ?_
    refine hK21 _ _ ?_
    refine wp_seq_k fun K46 hK46=>?_
    refine rg h43 fun ops=>?_;clear h43 a43
    refine sa trivial rfl rfl ?_
    refine St.nil fun a47 h47=>?_
    refine hK46 _ _ ?_
    refine wp_block ?_
    refine fr_loop (fun r a w'=>∃ qb:Nat,qb≤x.blocks.length∧r=x.blocks.length - qb∧(∀ j,j<qb→x.blocks[j]?=y.blocks[j]?)∧Fr 82 a [(1,.agg #[.slice p2 k.length d]),(0,.agg #[.slice p m.length c]),(2,.pointer (some ⟨B2,0,none⟩)),(3,.pointer (some ⟨B3,0,none⟩)),(4,.bool false),(5,.int .i64 (q:Int)),(6,.pointer (some ⟨BD6,0,none⟩)),(7,.pointer (some ⟨BD7,0,none⟩)),(8,.int .i64 (qb:Int))]∧Wd w w' [(BD6,#[.int .i64 x.regs,.slice f1.pP x.params.length f1.cP,.slice f1.pR x.results.length f1.cR,.slice f1.pB x.blocks.length f1.cB],42),(BD7,#[.int .i64 y.regs,.slice f2.pP y.params.length f2.cP,.slice f2.pR y.results.length f2.cR,.slice f2.pB y.blocks.length f2.cB],42),(B3,#[.slice p2 k.length d],25),(B2,#[.slice p m.length c],25)]) (x.blocks.length) ⟨0,Nat.zero_le _,rfl,(fun j hj=>by omega),(h47.keep (h47.keep (h47.keep (h47.keep (h47.keep (h47.keep (h47.keep (h47.keep (h47.keep h47.nil (t:=8) rfl) (t:=7) rfl) (t:=6) rfl) (t:=5) rfl) (t:=4) rfl) (t:=3) rfl) (t:=2) rfl) (t:=0) rfl) (t:=1) rfl),hW36⟩ ?_
    clear h47 hW36
    rintro rb a48 w48 ⟨qb,hqb,hrb,hal2,hF48,hW48⟩ KLb hKLb
    refine wp_seq_k fun K49 hK49=>?_
    refine wp_seq_k fun K50 hK50=>?_
    refine rg hF48 fun ops=>?_;clear hF48 a48
    refine sm trivial rfl rfl ?_
    refine sfFunc3 trivial rfl rfl ?_
    refine sbBlocks 0 hW48 trivial rfl rfl rfl rfl ?_
    refine slBlocks trivial rfl rfl ?_
    refine slt trivial rfl rfl rfl ?_
    refine St.nil fun a51 h51=>?_
    refine hK50 _ _ ?_
    refine fr_cond (t:=67) h51 rfl (fun hb=>?_) (fun hb=>?_)
    ·have hlt3:qb<x.blocks.length:=by have:=of_decide_eq_true hb;omega
     have hlt4:qb<y.blocks.length:=by have:=hlb.out;omega
     clear hb
     obtain ⟨z,hx3⟩:∃ v9,(x.blocks)[qb]?=some v9:=⟨_,List.getElem?_eq_getElem hlt3⟩
     obtain ⟨g3,o3,b3,hp3,E3,In3⟩:=block_at In1.out.blocks hx3
     replace In3:Hid _:=In3
     replace hp3:Hid _:=hp3
     replace hx3:Hid _:=hx3
     replace E3:Hid _:=E3
     obtain ⟨u,hx4⟩:∃ v9,(y.blocks)[qb]?=some v9:=⟨_,List.getElem?_eq_getElem hlt4⟩
     obtain ⟨g4,o4,b4,hp4,E4,In4⟩:=block_at In2.out.blocks hx4
     replace In4:Hid _:=In4
     replace hp4:Hid _:=hp4
     replace hx4:Hid _:=hx4
     replace E4:Hid _:=E4
     refine wp_skip ?_
     refine hK49 _ _ ?_
     refine wp_seq_k fun K52 hK52=>?_
     refine wp_block ?_
     refine wp_seq_k fun K53 hK53=>?_
     have hF54:Fr 82 a51 [(1,.agg #[.slice p2 k.length d]),(0,.agg #[.slice p m.length c]),(2,.pointer (some ⟨B2,0,none⟩)),(3,.pointer (some ⟨B3,0,none⟩)),(4,.bool false),(5,.int .i64 (q:Int)),(6,.pointer (some ⟨BD6,0,none⟩)),(7,.pointer (some ⟨BD7,0,none⟩)),(8,.int .i64 (qb:Int))]:=(h51.keep (h51.keep (h51.keep (h51.keep (h51.keep (h51.keep (h51.keep (h51.keep (h51.keep h51.nil (t:=8) rfl) (t:=7) rfl) (t:=6) rfl) (t:=5) rfl) (t:=4) rfl) (t:=3) rfl) (t:=2) rfl) (t:=0) rfl) (t:=1) rfl)
     have ho6:a51.tmps.getD 6 undef=.pointer (some ⟨BD6,0,none⟩):=h51.sl 6 _ rfl
     have ho8:a51.tmps.getD 8 undef=.int .i64 (qb:Int):=h51.sl 8 _ rfl
     have ho7:a51.tmps.getD 7 undef=.pointer (some ⟨BD7,0,none⟩):=h51.sl 7 _ rfl
     refine fr_draw_k 12 ([(6,fun v _=>v=.pointer (some ⟨BD6,0,none⟩)),(8,fun v _=>v=.int .i64 (qb:Int)),(7,fun v _=>v=.pointer (some ⟨BD7,0,none⟩)),(70,fun v _=>v=.pointer (some ⟨BD6,3,none⟩)),(71,fun v _=>v=.slice f1.pB x.blocks.length f1.cB),(72,fun v _=>v=.int .i64 (qb:Int)),(73,fun v _=>v=.pointer (some ⟨g3,o3+qb*12,none⟩)),(74,fun v _=>v=.agg #[.int .i64 z.regs,.slice b3.pP z.params.length b3.cP,.slice b3.pC z.code.length b3.cC,.int .i64 z.fin.op,.int .i64 z.fin.a,.int .i64 z.fin.yes.block,.slice b3.e.pYR z.fin.yes.regs.length b3.e.cYR,.slice b3.e.pYA z.fin.yes.args.length b3.e.cYA,.int .i64 z.fin.no.block,.slice b3.e.pNR z.fin.no.regs.length b3.e.cNR,.slice b3.e.pNA z.fin.no.args.length b3.e.cNA,.slice b3.e.pA z.fin.args.length b3.e.cA]),(75,fun v _=>v=.pointer (some ⟨BD7,3,none⟩)),(76,fun v _=>v=.slice f2.pB y.blocks.length f2.cB),(77,fun v _=>v=.int .i64 (qb:Int)),(78,fun v _=>v=.pointer (some ⟨g4,o4+qb*12,none⟩)),(79,fun v _=>v=.agg #[.int .i64 u.regs,.slice b4.pP u.params.length b4.cP,.slice b4.pC u.code.length b4.cC,.int .i64 u.fin.op,.int .i64 u.fin.a,.int .i64 u.fin.yes.block,.slice b4.e.pYR u.fin.yes.regs.length b4.e.cYR,.slice b4.e.pYA u.fin.yes.args.length b4.e.cYA,.int .i64 u.fin.no.block,.slice b4.e.pNR u.fin.no.regs.length b4.e.cNR,.slice b4.e.pNA u.fin.no.args.length b4.e.cNA,.slice b4.e.pA u.fin.args.length b4.e.cA]),(80,fun v _=>v=.bool (bdec (z=u))),(81,fun v _=>v=.bool (!(bdec (z=u))))]:PTab) (fun w'=>Wd w w' [(BD6,#[.int .i64 x.regs,.slice f1.pP x.params.length f1.cP,.slice f1.pR x.results.length f1.cR,.slice f1.pB x.blocks.length f1.cB],42),(BD7,#[.int .i64 y.regs,.slice f2.pP y.params.length f2.cP,.slice f2.pR y.results.length f2.cR,.slice f2.pB y.blocks.length f2.cB],42),(B3,#[.slice p2 k.length d],25),(B2,#[.slice p m.length c],25)]∧Below w48.heap.size w48 w') (fun w w'=>Below w.heap.size w w') (outs:=[6,8,7]) (gs:=[]) (bs:=[true,true,true,true,true,true,true,true,true,true,true,true]) (by kernel_rfl) hF54 rfl (by kernel_rfl) (by kernel_rfl) ?hR ?hG ⟨hW48.drewN 1,drewN_below (m:=1) (Below.refl _ _)⟩ ⟨ho6,ho8,ho7,trivial⟩ ?hA ?hend
     case hR=>exact ⟨fun _ _ _ _ h=>h,fun _ _ _ _ h=>h,fun _ _ _ _ h=>h,fun _ _ _ _ h=>h,fun _ _ _ _ h=>h,fun _ _ _ _ h=>h,fun _ _ _ _ h=>h,fun _ _ _ _ h=>h,fun _ _ _ _ h=>h,fun _ _ _ _ h=>h,fun _ _ _ _ h=>h,fun _ _ _ _ h=>h,fun _ _ _ _ h=>h,fun _ _ _ _ h=>h,fun _ _ _ _ h=>h,trivial⟩
     case hG=>exact trivial
     case hA =>
      refine ⟨fun a w hW hk K hK=>?_,?_⟩
      · obtain ⟨k0,-⟩:=hk
        have k0:a.tmps.getD 6 undef=.pointer (some ⟨BD6,0,none⟩):=k0
        go_simp
        exact hK _ _ (Below.refl _ _) hW rfl
      refine ⟨fun a w hW hk K hK=>?_,?_⟩
      · obtain ⟨k0,-⟩:=hk
        have k0:a.tmps.getD 70 undef=.pointer (some ⟨BD6,3,none⟩):=k0
        have c3:w.cell? ⟨BD6,3,none⟩=some (.slice f1.pB x.blocks.length f1.cB):=cellOf (hW.1.get 0 rfl) 3 _ rfl
        go_simp
        exact hK _ _ (Below.refl _ _) hW rfl
      refine ⟨fun a w hW hk K hK=>?_,?_⟩
      · obtain ⟨k0,-⟩:=hk
        have k0:a.tmps.getD 8 undef=.int .i64 (qb:Int):=k0
        go_simp
        exact hK _ _ (Below.refl _ _) hW rfl
      refine ⟨fun a w hW hk K hK=>?_,?_⟩
      · obtain ⟨k0,k1,-⟩:=hk
        have k0:a.tmps.getD 71 undef=.slice f1.pB x.blocks.length f1.cB:=k0
        have k1:a.tmps.getD 72 undef=.int .i64 (qb:Int):=k1
        have hpq:=hp3.out
        have hk0:(0:Int)≤qb:=by omega
        have hk1:(qb:Int)<(x.blocks.length:Int):=by omega
        go_simp
        exact hK _ _ (Below.refl _ _) hW rfl
      refine ⟨fun a w hW hk K hK=>?_,?_⟩
      · obtain ⟨k0,-⟩:=hk
        have k0:a.tmps.getD 73 undef=.pointer (some ⟨g3,o3+qb*12,none⟩):=k0
        have d0:w.cell? ⟨g3,o3+qb*12,none⟩=some (.int .i64 z.regs):=bel_cell hW.1.bel (E3.out 0 _ rfl)
        have d1:w.cell? ⟨g3,o3+qb*12+1,none⟩=some (.slice b3.pP z.params.length b3.cP):=bel_cell hW.1.bel (E3.out 1 _ rfl)
        have d2:w.cell? ⟨g3,o3+qb*12+2,none⟩=some (.slice b3.pC z.code.length b3.cC):=bel_cell hW.1.bel (E3.out 2 _ rfl)
        have d3:w.cell? ⟨g3,o3+qb*12+3,none⟩=some (.int .i64 z.fin.op):=bel_cell hW.1.bel (E3.out 3 _ rfl)
        have d4:w.cell? ⟨g3,o3+qb*12+4,none⟩=some (.int .i64 z.fin.a):=bel_cell hW.1.bel (E3.out 4 _ rfl)
        have d5:w.cell? ⟨g3,o3+qb*12+5,none⟩=some (.int .i64 z.fin.yes.block):=bel_cell hW.1.bel (E3.out 5 _ rfl)
        have d6:w.cell? ⟨g3,o3+qb*12+6,none⟩=some (.slice b3.e.pYR z.fin.yes.regs.length b3.e.cYR):=bel_cell hW.1.bel (E3.out 6 _ rfl)
        have d7:w.cell? ⟨g3,o3+qb*12+7,none⟩=some (.slice b3.e.pYA z.fin.yes.args.length b3.e.cYA):=bel_cell hW.1.bel (E3.out 7 _ rfl)
        have d8:w.cell? ⟨g3,o3+qb*12+8,none⟩=some (.int .i64 z.fin.no.block):=bel_cell hW.1.bel (E3.out 8 _ rfl)
        have d9:w.cell? ⟨g3,o3+qb*12+9,none⟩=some (.slice b3.e.pNR z.fin.no.regs.length b3.e.cNR):=bel_cell hW.1.bel (E3.out 9 _ rfl)
        have d10:w.cell? ⟨g3,o3+qb*12+10,none⟩=some (.slice b3.e.pNA z.fin.no.args.length b3.e.cNA):=bel_cell hW.1.bel (E3.out 10 _ rfl)
        have d11:w.cell? ⟨g3,o3+qb*12+11,none⟩=some (.slice b3.e.pA z.fin.args.length b3.e.cA):=bel_cell hW.1.bel (E3.out 11 _ rfl)
        go_simp
        exact hK _ _ (Below.refl _ _) hW rfl
      refine ⟨fun a w hW hk K hK=>?_,?_⟩
      · obtain ⟨k0,-⟩:=hk
        have k0:a.tmps.getD 7 undef=.pointer (some ⟨BD7,0,none⟩):=k0
        go_simp
        exact hK _ _ (Below.refl _ _) hW rfl
      refine ⟨fun a w hW hk K hK=>?_,?_⟩
      · obtain ⟨k0,-⟩:=hk
        have k0:a.tmps.getD 75 undef=.pointer (some ⟨BD7,3,none⟩):=k0
        have c3:w.cell? ⟨BD7,3,none⟩=some (.slice f2.pB y.blocks.length f2.cB):=cellOf (hW.1.get 1 rfl) 3 _ rfl
        go_simp
        exact hK _ _ (Below.refl _ _) hW rfl
      refine ⟨fun a w hW hk K hK=>?_,?_⟩
      · obtain ⟨k0,-⟩:=hk
        have k0:a.tmps.getD 8 undef=.int .i64 (qb:Int):=k0
        go_simp
        exact hK _ _ (Below.refl _ _) hW rfl
      refine ⟨fun a w hW hk K hK=>?_,?_⟩
      · obtain ⟨k0,k1,-⟩:=hk
        have k0:a.tmps.getD 76 undef=.slice f2.pB y.blocks.length f2.cB:=k0
        have k1:a.tmps.getD 77 undef=.int .i64 (qb:Int):=k1
        have hpq:=hp4.out
        have hk0:(0:Int)≤qb:=by omega
        have hk1:(qb:Int)<(y.blocks.length:Int):=by omega
        go_simp
        exact hK _ _ (Below.refl _ _) hW rfl
      refine ⟨fun a w hW hk K hK=>?_,?_⟩
      · obtain ⟨k0,-⟩:=hk
        have k0:a.tmps.getD 78 undef=.pointer (some ⟨g4,o4+qb*12,none⟩):=k0
        have d0:w.cell? ⟨g4,o4+qb*12,none⟩=some (.int .i64 u.regs):=bel_cell hW.1.bel (E4.out 0 _ rfl)
        have d1:w.cell? ⟨g4,o4+qb*12+1,none⟩=some (.slice b4.pP u.params.length b4.cP):=bel_cell hW.1.bel (E4.out 1 _ rfl)
        have d2:w.cell? ⟨g4,o4+qb*12+2,none⟩=some (.slice b4.pC u.code.length b4.cC):=bel_cell hW.1.bel (E4.out 2 _ rfl)
        have d3:w.cell? ⟨g4,o4+qb*12+3,none⟩=some (.int .i64 u.fin.op):=bel_cell hW.1.bel (E4.out 3 _ rfl)
        have d4:w.cell? ⟨g4,o4+qb*12+4,none⟩=some (.int .i64 u.fin.a):=bel_cell hW.1.bel (E4.out 4 _ rfl)
        have d5:w.cell? ⟨g4,o4+qb*12+5,none⟩=some (.int .i64 u.fin.yes.block):=bel_cell hW.1.bel (E4.out 5 _ rfl)
        have d6:w.cell? ⟨g4,o4+qb*12+6,none⟩=some (.slice b4.e.pYR u.fin.yes.regs.length b4.e.cYR):=bel_cell hW.1.bel (E4.out 6 _ rfl)
        have d7:w.cell? ⟨g4,o4+qb*12+7,none⟩=some (.slice b4.e.pYA u.fin.yes.args.length b4.e.cYA):=bel_cell hW.1.bel (E4.out 7 _ rfl)
        have d8:w.cell? ⟨g4,o4+qb*12+8,none⟩=some (.int .i64 u.fin.no.block):=bel_cell hW.1.bel (E4.out 8 _ rfl)
        have d9:w.cell? ⟨g4,o4+qb*12+9,none⟩=some (.slice b4.e.pNR u.fin.no.regs.length b4.e.cNR):=bel_cell hW.1.bel (E4.out 9 _ rfl)
        have d10:w.cell? ⟨g4,o4+qb*12+10,none⟩=some (.slice b4.e.pNA u.fin.no.args.length b4.e.cNA):=bel_cell hW.1.bel (E4.out 10 _ rfl)
        have d11:w.cell? ⟨g4,o4+qb*12+11,none⟩=some (.slice b4.e.pA u.fin.args.length b4.e.cA):=bel_cell hW.1.bel (E4.out 11 _ rfl)
        go_simp
        exact hK _ _ (Below.refl _ _) hW rfl
      refine ⟨fun a w hW hk K hK=>?_,?_⟩
      · obtain ⟨k0,k1,-⟩:=hk
        have k0:a.tmps.getD 74 undef=.agg #[.int .i64 z.regs,.slice b3.pP z.params.length b3.cP,.slice b3.pC z.code.length b3.cC,.int .i64 z.fin.op,.int .i64 z.fin.a,.int .i64 z.fin.yes.block,.slice b3.e.pYR z.fin.yes.regs.length b3.e.cYR,.slice b3.e.pYA z.fin.yes.args.length b3.e.cYA,.int .i64 z.fin.no.block,.slice b3.e.pNR z.fin.no.regs.length b3.e.cNR,.slice b3.e.pNA z.fin.no.args.length b3.e.cNA,.slice b3.e.pA z.fin.args.length b3.e.cA]:=k0
        have k1:a.tmps.getD 79 undef=.agg #[.int .i64 u.regs,.slice b4.pP u.params.length b4.cP,.slice b4.pC u.code.length b4.cC,.int .i64 u.fin.op,.int .i64 u.fin.a,.int .i64 u.fin.yes.block,.slice b4.e.pYR u.fin.yes.regs.length b4.e.cYR,.slice b4.e.pYA u.fin.yes.args.length b4.e.cYA,.int .i64 u.fin.no.block,.slice b4.e.pNR u.fin.no.regs.length b4.e.cNR,.slice b4.e.pNA u.fin.no.args.length b4.e.cNA,.slice b4.e.pA u.fin.args.length b4.e.cA]:=k1
        have hC:Rd Tryz.prog 34 #[.agg #[.int .i64 z.regs,.slice b3.pP z.params.length b3.cP,.slice b3.pC z.code.length b3.cC,.int .i64 z.fin.op,.int .i64 z.fin.a,.int .i64 z.fin.yes.block,.slice b3.e.pYR z.fin.yes.regs.length b3.e.cYR,.slice b3.e.pYA z.fin.yes.args.length b3.e.cYA,.int .i64 z.fin.no.block,.slice b3.e.pNR z.fin.no.regs.length b3.e.cNR,.slice b3.e.pNA z.fin.no.args.length b3.e.cNA,.slice b3.e.pA z.fin.args.length b3.e.cA],.agg #[.int .i64 u.regs,.slice b4.pP u.params.length b4.cP,.slice b4.pC u.code.length b4.cC,.int .i64 u.fin.op,.int .i64 u.fin.a,.int .i64 u.fin.yes.block,.slice b4.e.pYR u.fin.yes.regs.length b4.e.cYR,.slice b4.e.pYA u.fin.yes.args.length b4.e.cYA,.int .i64 u.fin.no.block,.slice b4.e.pNR u.fin.no.regs.length b4.e.cNR,.slice b4.e.pNA u.fin.no.args.length b4.e.cNA,.slice b4.e.pA u.fin.args.length b4.e.cA]] w (.bool (bdec (z=u))):=sameBlock_any (In3.out.below hW.1.bel) (In4.out.below hW.1.bel) (hs1.out.2.2.2 z (List.mem_of_getElem? hx3.out))
        go_simp
        refine hC.mono ?_
        rintro e w9 ⟨rfl,hb⟩
        exact hK _ _ hb ⟨hW.1.below hb,Below.andThen hW.2 hb⟩ rfl
      refine ⟨fun a w hW hk K hK=>?_,?_⟩
      · obtain ⟨k0,-⟩:=hk
        have k0:a.tmps.getD 80 undef=.bool (bdec (z=u)):=k0
        go_simp
        exact hK _ _ (Below.refl _ _) hW rfl
      trivial
     case hend =>
      intro ops a55 w55 hWD hE hFD
      have hd81:a55.tmps.getD 81 undef=.bool (!(bdec (z=u))):=hE 81 rfl
      have hF55:Fr 82 a55 [(81,.bool (!(bdec (z=u)))),(1,.agg #[.slice p2 k.length d]),(0,.agg #[.slice p m.length c]),(2,.pointer (some ⟨B2,0,none⟩)),(3,.pointer (some ⟨B3,0,none⟩)),(4,.bool false),(5,.int .i64 (q:Int)),(6,.pointer (some ⟨BD6,0,none⟩)),(7,.pointer (some ⟨BD7,0,none⟩)),(8,.int .i64 (qb:Int))]:=(hFD.cons hd81)
      clear hd81
      have hW55:Wd w w55 [(BD6,#[.int .i64 x.regs,.slice f1.pP x.params.length f1.cP,.slice f1.pR x.results.length f1.cR,.slice f1.pB x.blocks.length f1.cB],42),(BD7,#[.int .i64 y.regs,.slice f2.pP y.params.length f2.cP,.slice f2.pR y.results.length f2.cR,.slice f2.pB y.blocks.length f2.cB],42),(B3,#[.slice p2 k.length d],25),(B2,#[.slice p m.length c],25)]:=hWD.1
      clear hFD hWD hE hF54 h51
      clear hW48
      refine wpList_nil ?_
      refine hK53 _ _ ?_
      refine fr_cond (t:=81) hF55 rfl (fun hb=>?_) (fun hb=>?_)
      ·have hb:(bdec (z=u))=false:=by simpa using hb
       have hel:¬ (z=u):=fun h=>by rw [bdec_true h] at hb;cases hb
       clear hb
       refine wp_seq_k fun K56 hK56=>?_
       refine rg hF55 fun ops=>?_;clear hF55 a55
       refine sa trivial rfl rfl ?_
       refine St.nil fun a57 h57=>?_
       refine hK56 _ _ ?_
       refine wp_ret ?_;with_reducible repeat first | refine of_then_ret ?_ | refine of_block_ret ?_
       have RX:¬ x=y:=by
         intro e
         have h1:=hx3.out
         rw [e,hx4.out] at h1
         exact hel (Option.some.inj h1).symm
       have R:¬ m=k:=by
         intro e
         have h1:=hx1.out
         rw [e,hx2.out] at h1
         exact RX (Option.some.inj h1).symm
       exact ret_tmp (t:=4) h57 rfl rfl ⟨by rw [bdec_false R],hW55.bel⟩
      have hb:(bdec (z=u))=true:=by simpa using hb
      have hel:(z=u):=bdec_iff.1 hb
      clear hb
      refine wp_skip ?_
      refine hK52 _ _ ?_
      refine rg hF55 fun ops=>?_;clear hF55 a55
      refine sm trivial rfl rfl ?_
      refine sad (by omega) trivial rfl rfl rfl ?_
      refine sa trivial rfl rfl ?_
      refine St.nil fun a58 h58=>?_
      refine hKLb _ _ (x.blocks.length - (qb+1)) (by omega) ⟨qb+1,by omega,rfl,?_,(h58.keep (h58.keep (h58.keep (h58.keep (h58.keep (h58.keep (h58.keep (h58.keep (h58.keep h58.nil (t:=8) rfl) (t:=7) rfl) (t:=6) rfl) (t:=5) rfl) (t:=4) rfl) (t:=3) rfl) (t:=2) rfl) (t:=0) rfl) (t:=1) rfl),hW55⟩
      ·intro j hj
       by_cases e:j=qb
       · subst e;rw [hx3.out,hx4.out,hel]
       · exact hal2 j (by omega)
    have hge2:qb=x.blocks.length:=by have:=of_decide_eq_false hb;omega
    clear hb
    have RB:x.blocks=y.blocks:=by
      have:=hlb.out
      refine List.ext_getElem? fun i=>?_
      by_cases hi:i<qb
      · exact hal2 i hi
      · rw [List.getElem?_eq_none (by omega),List.getElem?_eq_none (by omega)]
    have RX:x=y:=MFunc.eq_of hc28.out hc35 hc42 RB
    refine wp_exit ?_
    refine hK17 _ _ ?_
    refine rg h51 fun ops=>?_;clear h51 a51
    refine sm trivial rfl rfl ?_
    refine sad (by omega) trivial rfl rfl rfl ?_
    refine sa trivial rfl rfl ?_
    refine St.nil fun a59 h59=>?_
    refine hKL _ _ (m.length - (q+1)) (by omega) ⟨q+1,by omega,rfl,?_,(h59.keep (h59.keep (h59.keep (h59.keep (h59.keep (h59.keep h59.nil (t:=5) rfl) (t:=4) rfl) (t:=3) rfl) (t:=2) rfl) (t:=0) rfl) (t:=1) rfl),hW48.tail.tail⟩
    ·intro j hj
     by_cases e:j=q
     · subst e;rw [hx1.out,hx2.out,RX]
     · exact hall j (by omega)
  have hge:q=m.length:=by have:=of_decide_eq_false hb;omega
  clear hb
  refine wp_exit ?_
  refine hK10 _ _ ?_
  refine wp_seq_k fun K60 hK60=>?_
  refine rg h16 fun ops=>?_;clear h16 a16
  refine sa trivial rfl rfl ?_
  refine St.nil fun a61 h61=>?_
  refine hK60 _ _ ?_
  refine wp_ret ?_;with_reducible repeat first | refine of_then_ret ?_ | refine of_block_ret ?_
  have R:m=k:=by
    have:=hlen.out
    refine List.ext_getElem? fun i=>?_
    by_cases hi:i<q
    · exact hall i hi
    · rw [List.getElem?_eq_none (by omega),List.getElem?_eq_none (by omega)]
  exact ret_tmp (t:=4) h61 rfl rfl ⟨by rw [bdec_true R],hW13.bel⟩
end Go.Proofs.YtalfbnllodhkiacGreatDoor
namespace Go.Proofs.YtalfbnllodhkiacGreatDoor
set_option linter.unusedSimpArgs false
set_option linter.unusedVariables false
def Has {α : Type} (f : Nat → PR α) (Q : α → Prop) : Prop := ∀ p v p', f p = .ok (v, p') → Q v
theorem Has.andThen {α β : Type} {f : Nat → PR α} {F : α → Nat → PR β} {A : α → Prop} {Q : β → Prop} (hf : Has f A) (hF : ∀ a, A a → Has (F a) Q) : Has (fun p => (f p).andThen F) Q := fun p v p' h => by
  obtain ⟨a,p1,h1,h2⟩:=PR.andThen_ok h
  exact hF a (hf _ _ _ h1) _ _ _ h2
theorem Has.any {α : Type} (f : Nat → PR α) : Has f (fun _ => True) := fun _ _ _ _ => trivial
theorem Has.pure {α : Type} {v : α} {Q : α → Prop} (h : Q v) : Has (fun p => (.ok (v, p) : PR α)) Q := fun p w p' h' => by
  injection h' with h'
  injection h' with h1 h2
  rw [← h1];exact h
section
variable {l : List Tk} {e : Nat}
theorem lst_len {α : Type} {f : Nat → PR α} {s : List UInt8} : ∀ fuel n, Has (lstP l e f s fuel n) (fun xs => n + xs.length ≤ 101)
  | 0,n=>fun p v p' h=>by cases h
  | fuel+1,n=>fun p v p' h=>by
    unfold lstP at h
    split at h
    · cases h
    · split at h
      · injection h with h;injection h with h _;subst h;simp;omega
      · obtain ⟨u,p1,h1,h⟩:=PR.andThen_ok h
        obtain ⟨x,p2,h2,h⟩:=PR.andThen_ok h
        obtain ⟨xs,p3,h3,h⟩:=PR.andThen_ok h
        have:=lst_len fuel (n+1) _ _ _ h3
        injection h with h;injection h with h _;subst h
        simp only [List.length_cons];omega
theorem in_len {α : Type} {f : Nat → PR α} {a b : List UInt8} : Has (inP l e f a b) (fun xs => xs.length ≤ 101) :=
  Has.andThen (Has.any _) fun _ _=>Has.andThen (lst_len 102 0) fun xs hx=>Has.andThen (Has.any _) fun _ _=>Has.pure (by omega)
theorem num_has : Has (numP l e) (fun v => 0 ≤ v ∧ v ≤ 1000000) := fun p v p' h => by
  obtain ⟨x,hx⟩:=num_needs p v p' h
  simp only [numP,hx] at h
  split at h
  · cases h
  · rename_i hn
    simp only [longP,hx] at h
    split at h
    · rename_i hnum
      injection h with h;injection h with h _;subst h
      simp only [hnum,true_and] at hn
      omega
    · cases h
theorem lst_sum {α : Type} {f : Nat → PR α} {s : List UInt8} {μ : α → Nat} (hf : ∀ p v p', p ≤ l.length → f p = .ok (v, p') → p + μ v ≤ p') (hm : Mon l f) : ∀ fuel n p xs p', p ≤ l.length → lstP l e f s fuel n p = .ok (xs, p') → p + (xs.map μ).sum ≤ p'
  | 0,n=>fun p v p' hp h=>by cases h
  | fuel+1,n=>fun p v p' hp h=>by
    unfold lstP at h
    split at h
    · cases h
    · split at h
      · injection h with h;injection h with h h';subst h;simp;omega
      · obtain ⟨u,p1,h1,h⟩:=PR.andThen_ok h
        have g1:p≤p1∧p1≤l.length:=by
          split at h1
          · exact must_mon _ _ _ hp h1
          · injection h1 with h1;injection h1 with _ h1;omega
        obtain ⟨x,p2,h2,h⟩:=PR.andThen_ok h
        have g2:=hf _ _ _ g1.2 h2
        have g3:=hm _ _ _ g1.2 h2
        obtain ⟨xs,p3,h3,h⟩:=PR.andThen_ok h
        have g4:=lst_sum hf hm fuel (n+1) _ _ _ g3.2 h3
        injection h with h;injection h with h h';subst h
        simp only [List.map_cons,List.sum_cons];omega
theorem in_sum {α : Type} {f : Nat → PR α} {a b : List UInt8} {μ : α → Nat} (hf : ∀ p v p', p ≤ l.length → f p = .ok (v, p') → p + μ v ≤ p') (hm : Mon l f) {p p' : Nat} {xs : List α} (hp : p ≤ l.length) (h : inP l e f a b p = .ok (xs, p')) : p + 2 + (xs.map μ).sum ≤ p' := by
  obtain ⟨u,p1,h1,h⟩:=PR.andThen_ok h
  have g1:=must_mon _ _ _ hp h1
  have e1:=must_next h1
  obtain ⟨ys,p2,h2,h⟩:=PR.andThen_ok h
  have g2:=lst_sum hf hm _ _ _ _ _ g1.2 h2
  obtain ⟨u',p3,h3,h⟩:=PR.andThen_ok h
  have e3:=must_next h3
  injection h with h;injection h with h h';subst h
  omega
theorem typ_count : ∀ d p (t : TT (d + 1)) p', p ≤ l.length → typP l e d p = .ok (t, p') → p + t.count ≤ p'
  | 0,p,t,p',hp,h=>by cases h
  | d+1,p,t,p',hp,h=>by
    rw [typP] at h
    split at h
    · injection h with h;injection h with h h';subst h;simp [TT.count];omega
    · split at h
      · obtain ⟨x,hx⟩:=isW_some (by assumption)
        have:=lt_of_tok hx
        obtain ⟨r,q,h1,h⟩:=PR.andThen_ok h
        have g:=num_mon _ _ _ (by omega) h1
        injection h with h;injection h with h h';subst h;simp [TT.count];omega
      · split at h
        · obtain ⟨x,hx⟩:=isW_some (by assumption)
          have:=lt_of_tok hx
          obtain ⟨r,q,h1,h⟩:=PR.andThen_ok h
          have g:=num_mon _ _ _ (by omega) h1
          injection h with h;injection h with h h';subst h;simp [TT.count];omega
        · obtain ⟨u,p1,h1,h⟩:=PR.andThen_ok h
          have g1:=must_mon _ _ _ hp h1
          obtain ⟨r,p2,h2,h⟩:=PR.andThen_ok h
          have g2:=num_mon _ _ _ g1.2 h2
          obtain ⟨ts,p3,h3,h⟩:=PR.andThen_ok h
          have g3:=in_sum (μ:=TT.count) (fun p v p' hp h=>typ_count d p v p' hp h) (typ_mon d) g2.2 h3
          injection h with h;injection h with h h';subst h
          show p+(1+(ts.map TT.count).sum)≤p'
          omega
theorem in_each2 {α : Type} {f : Nat → PR α} {a b : List UInt8} {N : Nat} {μ : α → Nat} (hf : ∀ p v p', p ≤ l.length → f p = .ok (v, p') → p + μ v ≤ p') (hm : Mon l f) {p p' : Nat} {xs : List α} (hp : p ≤ l.length) (hN : l.length ≤ N) (h : inP l e f a b p = .ok (xs, p')) : ∀ x ∈ xs, μ x ≤ N := by
  have h1:=in_sum hf hm hp h
  have h2:=(in_mon hm _ _ _ hp h).2
  intro x hx
  have:∀ ys:List α,x∈ys→μ x≤(ys.map μ).sum:=by
    intro ys
    induction ys with
    | nil=>intro h;simp at h
    | cons y ys ih =>
      intro h
      simp only [List.map_cons,List.sum_cons]
      rcases List.mem_cons.1 h with rfl | h
      · omega
      · have:=ih h;omega
  have:=this xs hx
  omega
theorem types_small (hN : l.length ≤ 100000) {p p' : Nat} {ts : List (TT 6)} (hp : p ≤ l.length) (h : typesP l e p = .ok (ts, p')) : tsmall ts :=
  ⟨Nat.le_trans (in_len _ _ _ h) (by decide),in_each2 (fun p v p' hp h=>typ_count 5 p v p' hp h) (typ_mon 5) hp hN h⟩
theorem fields_small (op : Nat) : Has (insFields l e op) MIns.small := by
  unfold insFields
  have hz:∀ {x:MIns},x.regs=[]→x.args=[]→x.small:=fun h1 h2=>by unfold MIns.small;rw [h1,h2];simp
  by_cases h1:op=1
  · simp only [if_pos h1];exact Has.andThen (Has.any _) fun n _=>Has.pure (hz rfl rfl)
  simp only [if_neg h1]
  by_cases h2:op=2
  · simp only [if_pos h2]
    intro p v p' h
    have h':(if whichP l kindWords p=0 then .error (wrongAt l e 4 p) else PR.andThen (numP l e (p+1)) fun a p1=>PR.andThen (numP l e p1) fun b p2=>.ok ((⟨2,a,b,0,(whichP l kindWords p:Nat),0,[],[]⟩:MIns),p2):PR MIns)=.ok (v,p'):=h
    split at h'
    · cases h'
    · obtain ⟨a,p1,_,h'⟩:=PR.andThen_ok h'
      obtain ⟨b,p2,_,h'⟩:=PR.andThen_ok h'
      injection h' with h';injection h' with h' _;subst h'
      exact hz rfl rfl
  simp only [if_neg h2]
  by_cases h3:op=5
  · simp only [if_pos h3];exact Has.andThen (Has.any _) fun a _=>Has.andThen in_len fun x hx=>Has.pure ⟨by simp,by show x.length≤300;omega⟩
  simp only [if_neg h3]
  by_cases h4:op=6
  · simp only [if_pos h4];exact Has.andThen (Has.any _) fun a _=>Has.andThen (Has.any _) fun x _=>Has.pure (hz rfl rfl)
  simp only [if_neg h4]
  by_cases h5:op=7
  · simp only [if_pos h5];exact Has.andThen (Has.any _) fun a _=>Has.andThen (Has.any _) fun x _=>Has.andThen (Has.any _) fun y _=>Has.pure (hz rfl rfl)
  simp only [if_neg h5]
  by_cases h6:op=14
  · simp only [if_pos h6];exact Has.andThen (Has.any _) fun a _=>Has.andThen in_len fun x hx=>Has.andThen in_len fun y hy=>Has.pure ⟨by show x.length≤300;omega,by show y.length≤300;omega⟩
  simp only [if_neg h6]
  by_cases h7:op=4∨op=11∨op=13
  · simp only [if_pos h7];exact Has.andThen (Has.any _) fun a _=>Has.pure (hz rfl rfl)
  simp only [if_neg h7]
  by_cases h8:op=8∨op=9
  · simp only [if_pos h8];exact Has.andThen (Has.any _) fun a _=>Has.andThen (Has.any _) fun b _=>Has.pure (hz rfl rfl)
  simp only [if_neg h8]
  by_cases h9:op=10
  · simp only [if_pos h9];exact Has.andThen (Has.any _) fun a _=>Has.andThen (Has.any _) fun b _=>Has.andThen (Has.any _) fun c _=>Has.pure (hz rfl rfl)
  simp only [if_neg h9]
  exact Has.pure (hz rfl rfl)
theorem ins_small (op : Nat) : Has (insP l e op) MIns.small := Has.andThen (fields_small op) fun x hx => Has.andThen (Has.any _) fun _ _ => Has.pure hx
theorem to_small : Has (toP l e) MTo.small := Has.andThen (Has.any _) fun b _ => Has.andThen in_len fun x hx => Has.andThen in_len fun y hy => Has.pure ⟨by show x.length ≤ 300; omega, by show y.length ≤ 300; omega⟩
theorem noTo_small : noTo.small := ⟨by simp [noTo], by simp [noTo]⟩
theorem Has.way {α : Type} {a : List UInt8} {f1 f3 : Nat → PR α} {Q : α → Prop} (h1 : Has f1 Q) (h3 : Has f3 Q) : Has (fun p => if isW l a p then f1 p else f3 p) Q := fun p v p' h => by
  have h':(if isW l a p then f1 p else f3 p)=.ok (v,p'):=h
  split at h'
  · exact h1 _ _ _ h'
  · exact h3 _ _ _ h'
theorem Has.next {α : Type} {f : Nat → PR α} {Q : α → Prop} (h : Has f Q) : Has (fun p => f (p + 1)) Q := fun p v p' h' => h _ _ _ h'
theorem ends_small : Has (endsP l e) MEnd.small :=
  Has.andThen (Has.way (Has.andThen (Has.next to_small) fun t ht=>Has.pure (Q:=MEnd.small) ⟨ht,noTo_small,by simp⟩)
    (Has.way (Has.andThen (Has.any _) fun a _=>Has.andThen (Has.any _) fun _ _=>Has.andThen to_small fun t ht=>Has.andThen (Has.any _) fun _ _=>Has.andThen to_small fun u hu=>Has.pure ⟨ht,hu,by simp⟩)
      (Has.andThen (Has.any _) fun _ _=>Has.andThen in_len fun x hx=>Has.pure ⟨noTo_small,noTo_small,by show x.length≤300;omega⟩))) fun x hx=>Has.andThen (Has.any _) fun _ _=>Has.pure hx
theorem code_small : ∀ f p v p', p ≤ l.length → codeP l e f p = .ok (v, p') → p + v.1.length ≤ p' ∧ p' ≤ l.length ∧ (∀ y ∈ v.1, y.small) ∧ v.2.small
  | 0,p,v,p',hp,h=>by cases h
  | f+1,p,v,p',hp,h=>by
    unfold codeP at h
    split at h
    · obtain ⟨x,q,h1,h⟩:=PR.andThen_ok h
      have g1:=ends_mon _ _ _ hp h1
      have g2:=ends_small _ _ _ h1
      injection h with h;injection h with h h';subst h
      exact ⟨by simp;omega,by omega,by simp,g2⟩
    · rename_i hw
      obtain ⟨t,ht⟩:=which_some hw
      have:=lt_of_tok ht
      obtain ⟨x,p1,h1,h⟩:=PR.andThen_ok h
      have g1:=ins_mon _ _ _ _ (by omega) h1
      have s1:=ins_small _ _ _ _ h1
      obtain ⟨y,p2,h2,h⟩:=PR.andThen_ok h
      have g2:=code_small f _ _ _ g1.2 h2
      injection h with h;injection h with h h';subst h
      refine ⟨by simp only [List.length_cons];omega,by omega,fun z hz=>?_,g2.2.2.2⟩
      rcases List.mem_cons.1 hz with rfl | hz
      · exact s1
      · exact g2.2.2.1 z hz
theorem block_small (hN : l.length ≤ 100000) {p p' : Nat} {b : MBlock 6} (hp : p ≤ l.length) (h : blockP l e p = .ok (b, p')) : b.small := by
  obtain ⟨r,p1,h1,h⟩:=PR.andThen_ok h
  have g1:=num_mon _ _ _ hp h1
  obtain ⟨ts,p2,h2,h⟩:=PR.andThen_ok h
  have g2:=types_mon _ _ _ g1.2 h2
  have s2:=types_small hN g1.2 h2
  obtain ⟨u,p3,h3,h⟩:=PR.andThen_ok h
  have g3:=must_mon _ _ _ g2.2 h3
  obtain ⟨c,p4,h4,h⟩:=PR.andThen_ok h
  have g4:=code_small _ _ _ _ g3.2 h4
  obtain ⟨u',p5,h5,h⟩:=PR.andThen_ok h
  injection h with h;injection h with h h';subst h
  exact ⟨by show c.1.length≤100000;omega,s2,g4.2.2.2,g4.2.2.1⟩
theorem blocks_small (hN : l.length ≤ 100000) : ∀ f p bs p', p ≤ l.length → blocksP l e f p = .ok (bs, p') → p + bs.length ≤ p' ∧ p' ≤ l.length ∧ ∀ b ∈ bs, b.small
  | 0,p,v,p',hp,h=>by cases h
  | f+1,p,v,p',hp,h=>by
    unfold blocksP at h
    split at h
    · obtain ⟨x,hx⟩:=isW_some (by assumption)
      have:=lt_of_tok hx
      obtain ⟨b,p1,h1,h⟩:=PR.andThen_ok h
      have g1:=block_mon _ _ _ (by omega) h1
      have s1:=block_small hN (by omega) h1
      obtain ⟨bs,p2,h2,h⟩:=PR.andThen_ok h
      have g2:=blocks_small hN f _ _ _ g1.2 h2
      injection h with h;injection h with h h';subst h
      refine ⟨by simp only [List.length_cons];omega,by omega,fun z hz=>?_⟩
      rcases List.mem_cons.1 hz with rfl | hz
      · exact s1
      · exact g2.2.2 z hz
    · obtain ⟨u,q,h1,h⟩:=PR.andThen_ok h
      have g1:=must_mon _ _ _ hp h1
      injection h with h;injection h with h h';subst h
      exact ⟨by simp;omega,by omega,by simp⟩
theorem func_small (hN : l.length ≤ 100000) {p p' : Nat} {x : MFunc 6} (hp : p ≤ l.length) (h : funcP l e p = .ok (x, p')) : x.small := by
  obtain ⟨u0,p0,h0,h⟩:=PR.andThen_ok h
  have g0:=must_mon _ _ _ hp h0
  obtain ⟨r,p1,h1,h⟩:=PR.andThen_ok h
  have g1:=num_mon _ _ _ g0.2 h1
  obtain ⟨ts,p2,h2,h⟩:=PR.andThen_ok h
  have g2:=types_mon _ _ _ g1.2 h2
  have s2:=types_small hN g1.2 h2
  obtain ⟨u3,p3,h3,h⟩:=PR.andThen_ok h
  have g3:=must_mon _ _ _ g2.2 h3
  obtain ⟨us,p4,h4,h⟩:=PR.andThen_ok h
  have g4:=types_mon _ _ _ g3.2 h4
  have s4:=types_small hN g3.2 h4
  obtain ⟨u5,p5,h5,h⟩:=PR.andThen_ok h
  have g5:=must_mon _ _ _ g4.2 h5
  obtain ⟨bs,p6,h6,h⟩:=PR.andThen_ok h
  have g6:=blocks_small hN _ _ _ _ g5.2 h6
  injection h with h;injection h with h h';subst h
  exact ⟨by show bs.length≤100000;omega,s2,s4,g6.2.2⟩
theorem funcs_small (hN : l.length ≤ 100000) : ∀ f p m q, p ≤ l.length → funcsP l e f p = .ok (m, q) → p + m.length ≤ q ∧ q ≤ l.length ∧ ∀ x ∈ m, x.small
  | 0,p,m,q,hp,h=>by
    injection h with h;injection h with h h';subst h;exact ⟨by simp;omega,by omega,by simp⟩
  | f+1,p,m,q,hp,h=>by
    unfold funcsP at h
    split at h
    · obtain ⟨x,p1,h1,h⟩:=PR.andThen_ok h
      have g1:=func_next hp h1
      have s1:=func_small hN hp h1
      obtain ⟨xs,p2,h2,h⟩:=PR.andThen_ok h
      have g2:=funcs_small hN f _ _ _ g1.2 h2
      injection h with h;injection h with h h';subst h
      refine ⟨by simp only [List.length_cons];omega,by omega,fun z hz=>?_⟩
      rcases List.mem_cons.1 hz with rfl | hz
      · exact s1
      · exact g2.2.2 z hz
    · injection h with h;injection h with h h';subst h;exact ⟨by simp;omega,by omega,by simp⟩
theorem parsed_small (hN : l.length ≤ 100000) {f q : Nat} {m : List (MFunc 6)} (h : funcsP l e f 0 = .ok (m, q)) : msmall m := by
  have:=funcs_small hN f 0 m q (Nat.zero_le _) h
  exact ⟨by omega,this.2.2⟩
end
section
variable {l : List Tk} {p : Nat}
theorem isW_one {a b : List UInt8} (ha : isW l a p = true) (hb : isW l b p = true) : a = b := by
  unfold isW at ha hb
  split at ha
  · rename_i t ht
    rw [ht] at hb
    simp at ha hb
    rw [← ha.2,hb.2]
  · cases ha
theorem which_le (ws : List (List UInt8)) : whichP l ws p ≤ ws.length := by
  unfold whichP
  split
  · rename_i h
    have:ws.findIdx (fun s=>isW l s p)<ws.length:=by rw [List.findIdx_lt_length];exact List.any_eq_true.1 h
    omega
  · omega
end
end Go.Proofs.YtalfbnllodhkiacGreatDoor
namespace Go.Proofs.YtalfbnllodhkiacGreatDoor
open Go.ChangeShapes Go.WideShapes Go.ChangeAt Go.RowKit Go.Shelf
set_option linter.unusedSimpArgs false
set_option linter.unusedVariables false
theorem ret_bool {a b : Bool} (h : a = b) : Ending.returned (.bool a) = .returned (.bool b) := by rw [h]
theorem ret_int {k : IntKind} {a b : Int} (h : a = b) : Ending.returned (.int k a) = .returned (.int k b) := by rw [h]
def Kind1 (f : FuncId) (p : UInt8 → Bool) : Prop := ∀ (c : UInt8) (w : World), Calls Tryz.prog f #[.int .u8 (c.toNat : Int)] w fun e w' => e = .returned (.bool (p c)) ∧ w' = w
theorem isBlank_any : Kind1 93 blB := by
  intro c w
  go_enter Tryz.func93,Tryz.ntmps93
  go_wp2
  all_goals
    go_ret
    refine ⟨ret_bool ?_,rfl⟩
    rw [Bool.eq_iff_iff]
    simp [blB] <;> omega
theorem isRemark_any : Kind1 95 rmB := by
  intro c w
  go_enter Tryz.func95,Tryz.ntmps95
  go_wp2
  all_goals
    go_ret
    refine ⟨ret_bool ?_,rfl⟩
    rw [Bool.eq_iff_iff]
    simp [rmB] <;> omega
theorem isLetter_any : Kind1 96 letB := by
  intro c w
  go_enter Tryz.func96,Tryz.ntmps96
  go_wp2
  all_goals
    go_ret
    refine ⟨ret_bool ?_,rfl⟩
    rw [Bool.eq_iff_iff]
    simp [letB] <;> omega
theorem isDigit_any : Kind1 100 digB := by
  intro c w
  go_enter Tryz.func100,Tryz.ntmps100
  go_wp2
  all_goals
    go_ret
    refine ⟨ret_bool ?_,rfl⟩
    rw [Bool.eq_iff_iff]
    simp [digB] <;> omega
theorem indexByte_mem (c : UInt8) : ∀ l : List UInt8, 0 ≤ Lib.indexByte l c ↔ c ∈ l
  | []=>by simp [Lib.indexByte]
  | b::l=>by
    have ih:=indexByte_mem c l
    have hge:=Lib.indexByte_ge l c
    simp only [Lib.indexByte,List.mem_cons]
    by_cases h:b=c
    · subst h;simp
    · have h':¬ c=b:=fun e=>h e.symm
      simp only [beq_iff_eq,h,h',if_false,false_or]
      rw [← ih]
      split <;> omega
theorem sign_mem (c : UInt8) : c ∈ ([40, 41, 123, 125, 60, 62, 44, 59] : List UInt8) ↔ sigB c = true := by
  simp [sigB,← UInt8.toNat_inj]
theorem sliteIndexByte (s : ByteArray) (c : Int) (w : World) :
    Calls Tryz.prog 160 #[.string s,.int .u8 c] w fun e w'=>e=.returned (.int .i64 (Lib.indexByte s.data.toList c.toNat.toUInt8))∧w'=w:=by
  go_enter Tryz.func160,Tryz.ntmps160
  go_wp2
  rw [run_callFunc_extern Tryz.func195 (by kernel_rfl) (by kernel_rfl) (by kernel_rfl) (e:=Extern.BytealgIndexByte.indexByte) (by kernel_rfl),Lib.run_indexByteString]
  simp only [Result.andThen]
  rw [Oper.upon_value]
  go_wp2
  go_ret
  exact ⟨rfl,rfl⟩
theorem sIndexByte (s : ByteArray) (c : Int) (w : World) :
    Calls Tryz.prog 128 #[.string s,.int .u8 c] w fun e w'=>e=.returned (.int .i64 (Lib.indexByte s.data.toList c.toNat.toUInt8))∧w'=w:=by
  go_enter Tryz.func128,Tryz.ntmps128
  go_wp2_with (go_at_call 160;refine (sliteIndexByte _ _ _).mono ?_;rintro e w' ⟨rfl,rfl⟩)
  go_ret
  exact ⟨rfl,rfl⟩
theorem isSign_any : Kind1 102 sigB := by
  intro c w
  have h1:=indexByte_mem c [40,41,123,125,60,62,44,59]
  rw [sign_mem] at h1
  have hc:((c.toNat:Int)).toNat.toUInt8=c:=by simp
  have C:Hid (∀ w,Calls Tryz.prog 128 #[.string ⟨#[40,41,123,125,60,62,44,59]⟩,.int .u8 (c.toNat:Int)] w fun e w'=>e=.returned (.int .i64 (Lib.indexByte [40,41,123,125,60,62,44,59] c))∧w'=w):=by
    intro w
    have:=sIndexByte ⟨#[40,41,123,125,60,62,44,59]⟩ (c.toNat:Int) w
    rw [hc] at this
    exact this
  clear hc
  generalize Lib.indexByte [40,41,123,125,60,62,44,59] c=x at h1 C
  have H:Hid (0≤x ↔ sigB c=true):=h1
  clear h1
  go_enter Tryz.func102,Tryz.ntmps102
  go_wp2_with (go_at_call 128;refine (C.out _).mono ?_;rintro e w' ⟨rfl,rfl⟩)
  all_goals
    go_ret
    refine ⟨ret_bool ?_,rfl⟩
    rw [Bool.eq_iff_iff,← H.out]
    simp
theorem isDigitAt_any (s : ByteArray) (i : Nat) (w : World) (hi : i ≤ 1000000) (hs : s.size ≤ maxLen) :
    Calls Tryz.prog 98 #[.string s,.int .i64 i] w fun e w'=>e=.returned (.bool ((s.data.toList.drop i).head?.any digB))∧w'=w:=by
  unfold maxLen at hs
  by_cases hlt:i<s.size
  · rw [drop_at s i hlt]
    have hlt':(i:Int)<s.size:=by omega
    go_enter Tryz.func98,Tryz.ntmps98
    go_wp2_with (go_at_call 100;refine (isDigit_any _ _).mono ?_;rintro e w' ⟨rfl,rfl⟩)
    all_goals
      go_ret
      exact ⟨ret_bool (by simp),rfl⟩
  · rw [drop_end s i hlt]
    have hlt':¬ (i:Int)<s.size:=by omega
    go_enter Tryz.func98,Tryz.ntmps98
    go_wp2_with (go_at_call 100;refine (isDigit_any _ _).mono ?_;rintro e w' ⟨rfl,rfl⟩)
    go_ret
    exact ⟨ret_bool (by simp),rfl⟩
theorem past_any {f : FuncId} {p : UInt8 → Bool} (hk0 : Kind1 f p) (hE0 : Proofs.Enters Tryz.prog f) (s : ByteArray) (i : Nat) (w : World) (hi : i ≤ s.size) (hs : s.size ≤ 1000000) :
    Calls Tryz.prog 94 #[.string s,.int .i64 i,.func (.func f) #[] #[]] w fun e w'=>e=.returned (.int .i64 ((i+pre p (s.data.toList.drop i):Nat):Int))∧w'=w:=by
  have hk:Hid (Kind1 f p):=hk0
  have hE:∀ args w,(callFunc f args).run Tryz.prog w=.ok (.enter f args) w:=hE0
  clear hk0 hE0
  go_enter Tryz.func94,Tryz.ntmps94
  go_wp2_with fail
  go_loop [1] (fun t=>∃ k:Nat,k≤s.size∧t=.int .i64 k∧k+pre p (s.data.toList.drop k)=i+pre p (s.data.toList.drop i)) (fun t=>s.size - (intOf t).toNat)
  case atStart=>exact ⟨i,hi,rfl,rfl⟩
  case round =>
    obtain ⟨k,hk1,rfl,hrel⟩:=hrel
    have R:Hid (k+pre p (s.data.toList.drop k)=i+pre p (s.data.toList.drop i)):=hrel
    clear hrel
    by_cases hlt:k<s.size
    · have hlt':(k:Int)<s.size:=by omega
      cases hp:p s[k] with
      | true =>
        have R2:Hid (k+1+pre p (s.data.toList.drop (k+1))=i+pre p (s.data.toList.drop i)):=by
          show _=_
          rw [← R.out,drop_at s k hlt,pre_yes hp];omega
        have C:∀ w,Calls Tryz.prog f #[.int .u8 (s[k].toNat:Int)] w fun e w'=>e=.returned (.bool true)∧w'=w:=fun w=>by rw [← hp];exact hk.out _ w
        have HC:Hid _:=C
        clear C hp R
        go_wp2_with (go_at_fn f;refine (HC.out _).mono ?_;rintro e w' ⟨rfl,rfl⟩)
        go_round
        case rel=>exact ⟨k+1,by omega,by go_num,R2.out⟩
        case measure=>simp [intOf];omega
      | false =>
        have R2:Hid (k=i+pre p (s.data.toList.drop i)):=by
          show _=_
          rw [← R.out,drop_at s k hlt,pre_no hp];omega
        have C:∀ w,Calls Tryz.prog f #[.int .u8 (s[k].toNat:Int)] w fun e w'=>e=.returned (.bool false)∧w'=w:=fun w=>by rw [← hp];exact hk.out _ w
        have HC:Hid _:=C
        clear C hp R
        go_wp2_with (go_at_fn f;refine (HC.out _).mono ?_;rintro e w' ⟨rfl,rfl⟩)
        go_ret
        exact ⟨ret_int (by have:=R2.out;omega),rfl⟩
    · have hlt':¬ (k:Int)<s.size:=by omega
      have R2:Hid (k=i+pre p (s.data.toList.drop i)):=by
        show _=_
        rw [← R.out,drop_end s k hlt];simp [pre]
      clear R
      go_wp2_with (go_at_fn f;fail)
      go_ret
      exact ⟨ret_int (by have:=R2.out;omega),rfl⟩
theorem ent_remark : Proofs.Enters Tryz.prog 95 := enters_of Tryz.func95 (by kernel_rfl) rfl
theorem ent_letter : Proofs.Enters Tryz.prog 96 := enters_of Tryz.func96 (by kernel_rfl) rfl
theorem ent_digit : Proofs.Enters Tryz.prog 100 := enters_of Tryz.func100 (by kernel_rfl) rfl
theorem kind_at {f : FuncId} {p : UInt8 → Bool} (h : Kind1 f p) {c : UInt8} {b : Bool} (hp : p c = b) : ∀ w, Calls Tryz.prog f #[.int .u8 (c.toNat : Int)] w fun e w' => e = .returned (.bool b) ∧ w' = w := fun w => by rw [← hp]; exact h _ w
theorem pastBlanks_any (s : ByteArray) (i : Nat) (w : World) (hi : i ≤ s.size) (hs : s.size ≤ 1000000) :
    Calls Tryz.prog 50 #[.string s,.int .i64 i] w fun e w'=>e=.returned (.int .i64 ((i+blk false (s.data.toList.drop i):Nat):Int))∧w'=w:=by
  go_enter Tryz.func50,Tryz.ntmps50
  go_wp2_with fail
  go_loop [1] (fun t=>∃ k:Nat,k≤s.size∧t=.int .i64 k∧k+blk false (s.data.toList.drop k)=i+blk false (s.data.toList.drop i)) (fun t=>s.size - (intOf t).toNat)
  case atStart=>exact ⟨i,hi,rfl,rfl⟩
  case round =>
    obtain ⟨k,hk1,rfl,hrel⟩:=hrel
    have R:Hid (k+blk false (s.data.toList.drop k)=i+blk false (s.data.toList.drop i)):=hrel
    clear hrel
    by_cases hlt:k<s.size
    · have hlt':(k:Int)<s.size:=by omega
      cases hp:blB s[k] with
      | true =>
        have R2:Hid (k+1+blk false (s.data.toList.drop (k+1))=i+blk false (s.data.toList.drop i)):=by
          show _=_
          rw [← R.out,drop_at s k hlt,blk_blank hp];omega
        have C:Hid _:=kind_at isBlank_any hp
        clear hp R
        go_wp2_with (go_at_call 93;refine (C.out _).mono ?_;rintro e w' ⟨rfl,rfl⟩)
        go_round
        case rel=>exact ⟨k+1,by omega,by go_num,R2.out⟩
        case measure=>simp [intOf];omega
      | false =>
        have C:Hid _:=kind_at isBlank_any hp
        by_cases h35:s[k].toNat=35
        · have hn:=pre_le rmB (s.data.toList.drop k)
          rw [List.length_drop,list_len] at hn
          have hy:1≤pre rmB (s.data.toList.drop k):=by
            rw [drop_at s k hlt,pre_yes (by simp [rmB,h35])];omega
          have R2:Hid (k+pre rmB (s.data.toList.drop k)+blk false (s.data.toList.drop (k+pre rmB (s.data.toList.drop k)))=i+blk false (s.data.toList.drop i)):=by
            show _=_
            have hd:=drop_at s k hlt
            have hb:=blk_remark (l:=s.data.toList.drop (k+1)) h35
            rw [← hd] at hb
            rw [← R.out,hb,List.drop_drop];omega
          have D:Hid _:=past_any isRemark_any ent_remark s k
          generalize pre rmB (s.data.toList.drop k)=m at hn hy R2 D
          have h35':(s[k].toNat:Int)=35:=by omega
          have hkm:Hid (k+m≤s.size):=by show _≤_;omega
          have hms:Hid (s.size - (k+m)<s.size - k):=by show _<_;omega
          have C':=C.out
          rw [h35'] at C'
          have C2:Hid _:=C'
          clear hp R h35 hn hy C C'
          go_wp2_with (first
            | (go_at_call 93;refine (C2.out _).mono ?_;rintro e w' ⟨rfl,rfl⟩)
            | (go_at_call 94;refine (D.out _ hk1 hs).mono ?_;rintro e w' ⟨rfl,rfl⟩))
          go_round
          case rel=>exact ⟨k+m,hkm.out,by refine congrArg (Value.int IntKind.i64) ?_;exact (Int.natCast_add k m).symm,R2.out⟩
          case measure=>have:=hms.out;simp [intOf];omega
        · have R2:Hid (k=i+blk false (s.data.toList.drop i)):=by
            show _=_
            rw [← R.out,drop_at s k hlt,blk_none hp h35];omega
          have h35':¬ (s[k].toNat:Int)=35:=by omega
          clear hp R h35
          go_wp2_with (first
            | (go_at_call 93;refine (C.out _).mono ?_;rintro e w' ⟨rfl,rfl⟩))
          go_ret
          exact ⟨ret_int (by have:=R2.out;omega),rfl⟩
    · have hlt':¬ (k:Int)<s.size:=by omega
      have R2:Hid (k=i+blk false (s.data.toList.drop i)):=by
        show _=_
        rw [← R.out,drop_end s k hlt];simp [blk]
      clear R
      go_wp2_with fail
      go_ret
      exact ⟨ret_int (by have:=R2.out;omega),rfl⟩
structure Laid (w : World) : Prop where
  pow : Lib.TabIs Tryz.prog w "internal/strconv.uint64pow10" .u64 Lib.pow10Tab
  syn : ∃ tp p, w.var? Tryz.prog "strconv.ErrSyntax" = some #[.iface tp p]
  rng : ∃ tp p, w.var? Tryz.prog "strconv.ErrRange" = some #[.iface tp p]
theorem var_below {w w' : World} {n : String} {cs : Array Value} (h : w.var? Tryz.prog n = some cs) (hb : Below w.heap.size w w') : w'.var? Tryz.prog n = some cs := by
  unfold World.var? at h ⊢
  cases e:Tryz.prog.globalNamed n with
  | none=>rw [e] at h;cases h
  | some g =>
    rw [e] at h
    simp only [Option.bind_some] at h ⊢
    have hlt:g<w.heap.size:=by
      rcases Nat.lt_or_ge g w.heap.size with h' | h'
      · exact h'
      · rw [Array.getElem?_eq_none h'] at h;cases h
    rw [hb.block g hlt]
    exact h
theorem Laid.below {w w' : World} (h : Laid w) (hb : Below w.heap.size w w') : Laid w' :=
  ⟨var_below h.pow hb,let ⟨a,b,c⟩:=h.syn;⟨a,b,var_below c hb⟩,let ⟨a,b,c⟩:=h.rng;⟨a,b,var_below c hb⟩⟩
theorem parse_ok (s : ByteArray) (v : Int) (w : World) (hs : s.size ≤ 1000000) (h : Lib.parseIntB 64 s.data.toList = .ok v) :
    Calls Tryz.prog 110 #[.string s,.int .i64 10,.int .i64 64] w fun e w'=>e=.returned (.tuple #[.int .i64 v,.nilIface])∧Below w.heap.size w w' :=
  (Any.strconv_ParseInt_10_at64_ok Tryz.laysC174 s (by omega) v h w).mono fun e w' h=>⟨h.1,by
    rcases h.2 with rfl | ⟨t,rfl⟩
    · exact Below.refl _ _
    · exact Lib.bytesWorld_below _ _ _⟩
theorem parse_bad (s : ByteArray) (w : World) (hw : Laid w) (hs : s.size ≤ 1000000) (h : ∀ v, Lib.parseIntB 64 s.data.toList ≠ .ok v) :
    Calls Tryz.prog 110 #[.string s,.int .i64 10,.int .i64 64] w fun e w'=>(∃ x N,e=.returned (.tuple #[.int .i64 x,.iface 193 (.pointer (some ⟨N,0,none⟩))]))∧Below w.heap.size w w':=by
  cases e:Lib.parseIntB 64 s.data.toList with
  | ok v=>exact absurd e (h v)
  | «syntax» =>
    obtain ⟨tp,p,hv⟩:=hw.syn
    exact (Any.strconv_ParseInt_10_at64_syntax_var Tryz.laysC174 s (by omega) e tp p w hv).mono fun e w' ⟨N,h1,_,_,h4⟩=>⟨⟨_,N,h1⟩,h4⟩
  | range =>
    obtain ⟨tp,p,hv⟩:=hw.rng
    exact (Any.strconv_ParseInt_10_at64_range_var Tryz.laysC174 s (by omega) e tp p w hv).mono fun e w' ⟨N,h1,_,_,h4⟩=>⟨⟨_,N,h1⟩,h4⟩
theorem format_any (n : Int) (h0 : -9223372036854775808 ≤ n ∧ n ≤ 9223372036854775807) (w : World) (hw : Laid w) :
    Calls Tryz.prog 111 #[.int .i64 n,.int .i64 10] w fun e w'=>e=.returned (.string (str (Lib.itoa n)))∧Below w.heap.size w w' :=
  (Any.strconv_FormatInt_10 Tryz.laysM173 n h0.1 h0.2 w hw.pow).mono fun e w' h=>⟨h.1,by
    obtain ⟨k,os,rfl⟩:=h.2
    exact Lib.below_grow _ w (Nat.le_refl _) k os⟩
theorem clone_any (s : ByteArray) (w : World) (hs : s.size ≤ 1000000) :
    Calls Tryz.prog 126 #[.string s] w fun e w'=>e=.returned (.string s)∧Below w.heap.size w w':=by
  have C:Hid (∀ w,Calls Tryz.prog 159 #[.string s] w fun e w'=>e=.returned (.string s)∧Below w.heap.size w w'):=fun w=>Any.stringslite_Clone Tryz.laysM316 s w (by omega)
  go_enter Tryz.func126,Tryz.ntmps126
  go_wp2_with (go_at_call 159;refine (C.out _).mono ?_;rintro e w' ⟨rfl,hb⟩)
  go_ret
  exact ⟨rfl,hb⟩
theorem prefix_any (s p : ByteArray) (w : World) :
    Calls Tryz.prog 101 #[.string s,.string p] w fun e w'=>e=.returned (.bool (Lib.hasPrefix s.data.toList p.data.toList))∧w'=w:=by
  rw [← Lib.hasPrefix_of_take,← Lib.size_eq,← Lib.size_eq]
  go_enter Tryz.func101,Tryz.ntmps101
  go_wp2
  · rename_i h
    go_ret
    refine ⟨?_,rfl⟩
    show Ending.returned (Value.bool ((s.extract 0 p.size).toList==p.toList))=_
    rw [Lib.extract_toList,Lib.toList_data]
    simp [h]
  · rename_i h
    go_ret
    refine ⟨?_,rfl⟩
    show Ending.returned (Value.bool false)=_
    simp [h]
theorem parse_range {l : List UInt8} {v : Int} (h : Lib.parseIntB 64 l = .ok v) : -9223372036854775808 ≤ v ∧ v ≤ 9223372036854775807 := by
  rw [Lib.parseIntB_64] at h
  exact Lib.atoiAll_bounds h
end Go.Proofs.YtalfbnllodhkiacGreatDoor
namespace Go.Proofs.YtalfbnllodhkiacGreatDoor
set_option linter.unusedSimpArgs false
set_option linter.unusedVariables false
def numTxt : List UInt8 → Bool
  | []=>false
  | c::l=>digB c || (decide (c.toNat=45) && l.head?.any digB)
structure Tk.fine (x : Tk) : Prop where
  rng:-9223372036854775808≤x.n∧x.n≤9223372036854775807
  txt:x.num=true→numTxt x.text=true
theorem numOf_rng {l : List UInt8} {v : Int} (h : numOf l = some v) : -9223372036854775808 ≤ v ∧ v ≤ 9223372036854775807 := by
  unfold numOf at h
  split at h
  · rename_i u hu
    split at h
    · injection h with h;subst h;exact parse_range hu
    · cases h
  · cases h
  · cases h
theorem tokLen_num {l : List UInt8} (h : (tokLen l).2 = true) : numTxt (l.take (tokLen l).1) = true := by
  cases l with
  | nil=>simp [tokLen] at h
  | cons c l =>
    simp only [tokLen] at h ⊢
    by_cases h1:letB c=true
    · simp [h1] at h
    by_cases h2:sigB c=true
    · simp [h1,h2] at h
    by_cases h3:c.toNat=45∧l.head?.any (fun d=>d.toNat==62)=true
    · simp [h1,h2,h3] at h
    by_cases h4:digB c=true∨(c.toNat=45∧l.head?.any digB=true)
    · rw [if_neg h1,if_neg h2,if_neg h3,if_pos h4]
      rw [List.take_succ_cons]
      simp only [numTxt]
      rcases h4 with h4 | ⟨h4,h5⟩
      · simp [h4]
      · cases l with
        | nil=>simp at h5
        | cons d l =>
          simp at h5
          simp [h4,pre_yes h5,h5]
    · simp [h1,h2,h3,h4] at h
theorem tok_fine {l : List UInt8} {k pos : Nat} {b : Bool} {n : Int} (h : tok l = .ok k b n) : (⟨pos, l.take k, b, n⟩ : Tk).fine := by
  have h3:=(tok_pos h).2.2
  unfold tok at h
  split at h
  · cases h
  · split at h
    · rename_i hb
      split at h
      · rename_i v hv
        injection h with h1 h2 h4
        subst h4
        exact ⟨numOf_rng hv,fun _=>by rw [h3];exact tokLen_num hb⟩
      · cases h
    · injection h with h1 h2 h4
      subst h4;subst h2
      exact ⟨⟨by show (-9223372036854775808:Int)≤0;decide,by show (0:Int)≤9223372036854775807;decide⟩,fun h=>by cases h⟩
theorem Sc.app_ok {r : Sc} {a l : List Tk} (h : r.app a = .ok l) : ∃ l', r = .ok l' ∧ l = a ++ l' := by
  cases r with
  | fault c p=>cases h
  | ok l'=>injection h with h;exact ⟨l',rfl,h.symm⟩
theorem scanF_fine : ∀ (f pos : Nat) (s : List UInt8) (l : List Tk), scanF f pos s = .ok l → (∀ x ∈ l, x.fine) ∧ l.length ≤ s.length
  | 0,pos,s,l,h=>by injection h with h;subst h;simp
  | f+1,pos,s,l,h=>by
    unfold scanF at h
    split at h
    · injection h with h;subst h;simp
    · split at h
      · cases h
      · rename_i k b n e
        obtain ⟨l',h1,rfl⟩:=Sc.app_ok h
        obtain ⟨g1,g2⟩:=scanF_fine f _ _ _ h1
        have hk:=tok_pos e
        refine ⟨fun x hx=>?_,by simp only [List.length_drop,List.length_append,List.length_singleton] at g2 ⊢;omega⟩
        rcases List.mem_append.1 hx with hx | hx
        · simp at hx;subst hx;exact tok_fine e
        · exact g1 x hx
theorem scanL_fine {s : List UInt8} {l : List Tk} (h : scanL s = .ok l) : (∀ x ∈ l, x.fine) ∧ l.length ≤ 40000 := by
  unfold scanL at h
  split at h
  · cases h
  · obtain ⟨h1,h2⟩:=scanF_fine _ _ _ _ h
    exact ⟨h1,by simp only [List.length_drop] at h2;omega⟩
def nextT (l : List Tk) (p : Nat) : List UInt8 := (l[p]?.map Tk.text).getD []
theorem nextT_some {l : List Tk} {p : Nat} {x : Tk} (h : l[p]? = some x) : nextT l p = x.text := by simp [nextT, h]
theorem nextT_none {l : List Tk} {p : Nat} (h : ¬ p < l.length) : nextT l p = [] := by
  have:l[p]?=none:=List.getElem?_eq_none (by omega)
  simp [nextT,this]
def wordly (s : List UInt8) : Bool := !s.isEmpty && !numTxt s
theorem isW_next {l : List Tk} {s : List UInt8} {p : Nat} (hs : wordly s = true) (hl : ∀ x ∈ l, x.fine) : isW l s p = decide (nextT l p = s) := by
  simp [wordly] at hs
  by_cases hp:p<l.length
  · have hx:l[p]?=some l[p]:=List.getElem?_eq_getElem hp
    have hf:=hl l[p] (List.getElem_mem hp)
    generalize l[p]=x at hx hf
    rw [nextT_some hx]
    simp only [isW,hx]
    cases hn:x.num with
    | false=>simp
    | true =>
      have:=hf.txt hn
      have hne:¬ x.text=s:=fun e=>by rw [e,hs.2] at this;cases this
      simp [hne]
  · rw [nextT_none hp]
    have:l[p]?=none:=List.getElem?_eq_none (by omega)
    simp only [isW,this]
    have:¬ ([]:List UInt8)=s:=fun e=>hs.1 (by rw [← e])
    simp [this]
theorem which_hit {l : List Tk} {ws : List (List UInt8)} {p i : Nat} {s : List UInt8} (hi : ws[i]? = some s) (h : isW l s p = true) (hb : ∀ (j : Nat) (t : List UInt8), j < i → ws[j]? = some t → isW l t p = false) : whichP l ws p = i + 1 := by
  have hlt:i<ws.length:=(List.getElem?_eq_some_iff.1 hi).1
  have hgi:ws[i]=s:=(List.getElem?_eq_some_iff.1 hi).2
  unfold whichP
  rw [if_pos (List.any_eq_true.2 ⟨s,List.mem_of_getElem? hi,h⟩)]
  congr 1
  rw [List.findIdx_eq hlt]
  refine ⟨by rw [hgi];exact h,fun j hj=>hb j _ hj (List.getElem?_eq_getElem (by omega))⟩
theorem which_no {l : List Tk} {ws : List (List UInt8)} {p : Nat} (hb : ∀ (j : Nat) (t : List UInt8), ws[j]? = some t → isW l t p = false) : whichP l ws p = 0 := by
  unfold whichP
  rw [if_neg]
  intro h
  obtain ⟨s,hs,hw⟩:=List.any_eq_true.1 h
  obtain ⟨i,hi⟩:=List.getElem?_of_mem hs
  rw [hb i s hi] at hw
  cases hw
section
variable {α : Type} {l : List Tk} {e : Nat} {item : Nat → PR α} {fin beg : List UInt8}
def itP (l : List Tk) (e : Nat) (item : Nat → PR α) (fin : List UInt8) (f n p : Nat) : PR (List α) :=
  PR.andThen (item p) fun x p2=>PR.andThen (lstP l e item fin f (n+1) p2) fun xs p3=>.ok (x::xs,p3)
def PR.behind (xs : List α) : PR (List α) → PR (List α)
  | .ok (ys,q)=>.ok (xs++ys,q)
  | .error x=>.error x
structure LstQ (l : List Tk) (e : Nat) (item : Nat → PR α) (fin : List UInt8) (p1 p : Nat) (xs : List α) : Prop where
  le:xs.length≤100
  rest:lstP l e item fin 102 0 p1=(itP l e item fin (101 - xs.length) xs.length p).behind xs
theorem LstQ.start {p1 : Nat} (h : isW l fin p1 = false) : LstQ l e item fin p1 p1 [] := by
  refine ⟨by simp,?_⟩
  rw [lstP,if_neg (by decide),if_neg (by simp [h]),if_neg (by decide),PR.ok_andThen]
  show itP l e item fin 101 0 p1=_
  simp only [List.length_nil,Nat.sub_zero]
  cases itP l e item fin 101 0 p1 with
  | error x=>rfl
  | ok y=>obtain ⟨ys,q⟩:=y;rfl
variable {p1 p p2 : Nat} {xs : List α} {v : α}
theorem LstQ.bad {x : Nat × Nat} (h : LstQ l e item fin p1 p xs) (h1 : item p = .error x) : lstP l e item fin 102 0 p1 = .error x := by
  rw [h.rest,itP,h1];rfl
theorem LstQ.many (h : LstQ l e item fin p1 p xs) (h1 : item p = .ok (v, p2)) (hn : ¬ xs.length + 1 ≤ 100) : ∃ x, lstP l e item fin 102 0 p1 = .error x := by
  have hl:=h.le
  obtain ⟨f,hf⟩:∃ f,101 - xs.length=f+1:=⟨100 - xs.length,by omega⟩
  rw [h.rest,itP,h1,PR.ok_andThen,hf,lstP,if_pos (by omega)]
  exact ⟨_,rfl⟩
theorem LstQ.stop (h : LstQ l e item fin p1 p xs) (h1 : item p = .ok (v, p2)) (hn : xs.length + 1 ≤ 100) (hw : isW l fin p2 = true) : lstP l e item fin 102 0 p1 = .ok (xs ++ [v], p2) := by
  obtain ⟨f,hf⟩:∃ f,101 - xs.length=f+1:=⟨100 - xs.length,by omega⟩
  rw [h.rest,itP,h1,PR.ok_andThen,hf,lstP,if_neg (by omega),if_pos hw]
  rfl
theorem LstQ.comma {x : Nat × Nat} (h : LstQ l e item fin p1 p xs) (h1 : item p = .ok (v, p2)) (hn : xs.length + 1 ≤ 100) (hw : isW l fin p2 = false) (hm : mustP l e [44] p2 = .error x) : lstP l e item fin 102 0 p1 = .error x := by
  obtain ⟨f,hf⟩:∃ f,101 - xs.length=f+1:=⟨100 - xs.length,by omega⟩
  rw [h.rest,itP,h1,PR.ok_andThen,hf,lstP,if_neg (by omega),if_neg (by simp [hw]),if_pos (by omega),hm]
  rfl
theorem LstQ.go {p3 : Nat} (h : LstQ l e item fin p1 p xs) (h1 : item p = .ok (v, p2)) (hn : xs.length + 1 ≤ 100) (hw : isW l fin p2 = false) (hm : mustP l e [44] p2 = .ok ((), p3)) : LstQ l e item fin p1 p3 (xs ++ [v]) := by
  refine ⟨by simpa using hn,?_⟩
  have hf:101 - xs.length=(101 - (xs.length+1))+1:=by omega
  rw [h.rest,itP,h1,PR.ok_andThen,hf,lstP,if_neg (by omega),if_neg (by simp [hw]),if_pos (by omega),hm,PR.ok_andThen,List.length_append,List.length_singleton]
  show PR.behind xs (PR.andThen (itP l e item fin (101 - (xs.length+1)) (xs.length+1) p3) _)=_
  cases itP l e item fin (101 - (xs.length+1)) (xs.length+1) p3 with
  | error x=>rfl
  | ok y=>obtain ⟨ys,q⟩:=y;simp [PR.behind,PR.andThen]
theorem in_none (h1 : mustP l e beg p = .ok ((), p1)) (hw : isW l fin p1 = true) : inP l e item beg fin p = .ok ([], p1 + 1) := by
  rw [inP,h1,PR.ok_andThen,lstP,if_neg (by decide),if_pos hw,PR.ok_andThen,mustP,if_pos hw]
  rfl
theorem in_some (h1 : mustP l e beg p = .ok ((), p1)) (h2 : lstP l e item fin 102 0 p1 = .ok (xs, p2)) (hw : isW l fin p2 = true) : inP l e item beg fin p = .ok (xs, p2 + 1) := by
  rw [inP,h1,PR.ok_andThen,h2,PR.ok_andThen,mustP,if_pos hw]
  rfl
theorem in_bad {x : Nat × Nat} (h1 : mustP l e beg p = .ok ((), p1)) (h2 : lstP l e item fin 102 0 p1 = .error x) : inP l e item beg fin p = .error x := by
  rw [inP,h1,PR.ok_andThen,h2]
  rfl
theorem in_bad0 {x : Nat × Nat} (h1 : mustP l e beg p = .error x) : inP l e item beg fin p = .error x := by
  rw [inP,h1]
  rfl
end
end Go.Proofs.YtalfbnllodhkiacGreatDoor
namespace Go.Proofs.YtalfbnllodhkiacGreatDoor
open Go.ChangeShapes Go.WideShapes Go.ChangeAt Go.RowKit Go.Shelf
set_option linter.unusedSimpArgs false
set_option linter.unusedVariables false
abbrev Z4 : Array Value := #[.int .i64 0, .string ⟨#[]⟩, .bool false, .int .i64 0]
theorem stored4 {w w2 : World} {B : Nat} {p q r u : Value} {t : TypeId} (h : Blk w2 B #[p, q, r, u] t) (hb : Below w.heap.size w w2) (hB : w.heap.size ≤ B) (a b c d : Value) :
    Blk ((((w2.setCell ⟨B,0,none⟩ a).setCell ⟨B,1,none⟩ b).setCell ⟨B,2,none⟩ c).setCell ⟨B,3,none⟩ d) B #[a,b,c,d] t ∧
    Below w.heap.size w ((((w2.setCell ⟨B,0,none⟩ a).setCell ⟨B,1,none⟩ b).setCell ⟨B,2,none⟩ c).setCell ⟨B,3,none⟩ d):=by
  refine ⟨?_,(((hb.setCell hB _).setCell hB _).setCell hB _).setCell hB _⟩
  have h1:=blockSet h 0 a
  have h2:=blockSet h1 1 b
  have h3:=blockSet h2 2 c
  have h4:=blockSet h3 3 d
  simpa using h4
theorem tokenTo_any (s : ByteArray) (i j : Nat) (w : World) (hij : i ≤ j) (hj : j ≤ s.size) (hs : s.size ≤ 1000000) :
    Calls Tryz.prog 97 #[.string s,.int .i64 i,.int .i64 j] w fun e w'=>e=.returned (.agg #[.int .i64 i,.string (str ((s.data.toList.drop i).take (j - i))),.bool false,.int .i64 0])∧Below w.heap.size w w':=by
  have hij':(i:Int)≤j:=by omega
  have hj':(j:Int)≤s.size:=by omega
  go_enter Tryz.func97,Tryz.ntmps97
  go_wp2_with fail
  have X:Hid (Blk (w.alloc (.cells Z4 96)) w.heap.size Z4 96):=Blk.new w _ _
  have B1:Hid (Below w.heap.size w (w.alloc (.cells Z4 96))):=bel1 w _
  have C:Hid (∀ w,Calls Tryz.prog 126 #[.string (s.extract i j)] w fun e w'=>e=.returned (.string (s.extract i j))∧Below w.heap.size w w'):=fun w=>clone_any _ w (by rw [ByteArray.size_extract];omega)
  refine (C.out _).mono ?_
  rintro e w2 ⟨rfl,hb⟩
  have X2:Hid (Blk w2 w.heap.size Z4 96):=X.out.below hb
  have B2:Hid (Below w.heap.size w w2):=Below.andThen B1.out hb
  clear C hb X B1
  have z0:=freeOf X2.out 0
  have z1:=freeOf X2.out 1
  have z2:=freeOf X2.out 2
  have z3:=freeOf X2.out 3
  have y0:=cellOf X2.out 0 _ rfl
  have y1:=cellOf X2.out 1 _ rfl
  have y2:=cellOf X2.out 2 _ rfl
  have y3:=cellOf X2.out 3 _ rfl
  go_wp2
  have D:=stored4 X2.out B2.out (Nat.le_refl _) (.int .i64 i) (.string (s.extract i j)) (.bool false) (.int .i64 0)
  have x0:=cellOf D.1 0 _ rfl
  have x1:=cellOf D.1 1 _ rfl
  have x2:=cellOf D.1 2 _ rfl
  have x3:=cellOf D.1 3 _ rfl
  have DD:Hid _:=D.2
  clear D X2 B2 z0 z1 z2 z3 y0 y1 y2 y3
  generalize (((w2.setCell ⟨w.heap.size,0,none⟩ (.int .i64 i)).setCell ⟨w.heap.size,1,none⟩ (.string (s.extract i j))).setCell ⟨w.heap.size,2,none⟩ (.bool false)).setCell ⟨w.heap.size,3,none⟩ (.int .i64 0)=w9 at DD x0 x1 x2 x3 ⊢
  exact bodyPost_ret (v:=.agg #[.int .i64 i,.string (s.extract i j),.bool false,.int .i64 0]) (by simp [results,Tryz.results97,go_sem,x0,x1,x2,x3]) rfl ⟨by rw [ext_str],DD.out⟩
theorem str_beq (a b : List UInt8) : ((str a).toList == (str b).toList) = decide (a = b) := by
  rw [Lib.toList_data,Lib.toList_data,str_list,str_list,Bool.eq_iff_iff]
  simp
def numVal (i : Nat) (l : List UInt8) : Value :=
  match numOf l with
  | some v=>.tuple #[.agg #[.int .i64 i,.string (str l),.bool true,.int .i64 v],.int .i64 0]
  | none=>.tuple #[.agg #[.int .i64 0,.string (str []),.bool false,.int .i64 0],.int .i64 8]
theorem numVal_bad {i : Nat} {l : List UInt8} (h : ∀ v, Lib.parseIntB 64 l ≠ .ok v) : numVal i l = .tuple #[.agg #[.int .i64 0, .string (str []), .bool false, .int .i64 0], .int .i64 8] := by
  have:numOf l=none:=by
    unfold numOf
    split
    · exact absurd (by assumption) (h _)
    · rfl
    · rfl
  simp [numVal,this]
theorem numVal_ok {i : Nat} {l : List UInt8} {v : Int} (h : Lib.parseIntB 64 l = .ok v) : numVal i l = if Lib.itoa v = l then .tuple #[.agg #[.int .i64 i, .string (str l), .bool true, .int .i64 v], .int .i64 0] else .tuple #[.agg #[.int .i64 0, .string (str []), .bool false, .int .i64 0], .int .i64 8] := by
  unfold numVal numOf
  rw [h]
  simp only
  split
  · rename_i e
    split at e
    · injection e with e;subst e;rw [if_pos (by assumption)]
    · cases e
  · rename_i e
    split at e
    · cases e
    · rw [if_neg (by assumption)]
structure NB (w w' : World) (B i : Nat) (l : List UInt8) : Prop where
  bel:Below w.heap.size w w'
  res:Blk w' w.heap.size Z4 96
  box:Blk w' B #[.int .i64 i,.string (str l),.bool false,.int .i64 0] 96
  lt:w.heap.size<B
  laid:Laid w'
theorem NB.below {w w1 w2 : World} {B i : Nat} {l : List UInt8} (h : NB w w1 B i l) (b : Below w1.heap.size w1 w2) : NB w w2 B i l :=
  ⟨Below.andThen h.bel b,h.res.below b,h.box.below b,h.lt,h.laid.below b⟩
theorem numberTo_any (s : ByteArray) (i j : Nat) (w : World) (hw0 : Laid w) (hij : i ≤ j) (hj : j ≤ s.size) (hs : s.size ≤ 1000000) :
    Calls Tryz.prog 99 #[.string s,.int .i64 i,.int .i64 j] w fun e w'=>e=.returned (numVal i ((s.data.toList.drop i).take (j - i)))∧Below w.heap.size w w':=by
  have hl:Hid (((s.data.toList.drop i).take (j - i)).length≤1000000):=by show _≤_;rw [List.length_take,List.length_drop,list_len];omega
  have C1:Hid (∀ w,Calls Tryz.prog 97 #[.string s,.int .i64 i,.int .i64 j] w fun e w'=>e=.returned (.agg #[.int .i64 i,.string (str ((s.data.toList.drop i).take (j - i))),.bool false,.int .i64 0])∧Below w.heap.size w w'):=fun w=>tokenTo_any s i j w hij hj hs
  have hw:Hid (Laid w):=hw0
  generalize (s.data.toList.drop i).take (j - i)=l at hl C1 ⊢
  clear hij hj hs hw0
  go_enter Tryz.func99,Tryz.ntmps99
  go_wp2_with fail
  have X:Hid (Blk (w.alloc (.cells Z4 96)) w.heap.size Z4 96):=Blk.new w _ _
  have B1:Hid (Below w.heap.size w (w.alloc (.cells Z4 96))):=bel1 w _
  refine (C1.out _).mono ?_
  rintro e w2 ⟨rfl,hb⟩
  have X2:Hid (Blk w2 w.heap.size Z4 96):=X.out.below hb
  have B2:Hid (Below w.heap.size w w2):=Below.andThen B1.out hb
  have hz:w.heap.size<w2.heap.size:=X2.out.lt
  clear C1 hb X B1
  go_wp2_with fail
  have N3:Hid (NB w (w2.alloc (.cells #[.int .i64 i,.string (str l),.bool false,.int .i64 0] 96)) w2.heap.size i l) :=
    ⟨B2.out.alloc B2.out.size _,X2.out.alloc _,Blk.new _ _ _,hz,hw.out.below (B2.out.alloc B2.out.size _)⟩
  generalize w2.alloc (.cells #[.int .i64 i,.string (str l),.bool false,.int .i64 0] 96)=w3 at N3 ⊢
  generalize w2.heap.size=B at N3 hz ⊢
  clear X2 B2 hw
  have hs':Hid ((str l).size≤1000000):=by show _≤_;rw [str_size];exact hl.out
  by_cases hp:∃ v,Lib.parseIntB 64 l=.ok v
  · obtain ⟨v,hv⟩:=hp
    have hr:=parse_range hv
    have V:Hid (numVal i l=_):=numVal_ok (i:=i) hv
    refine (parse_ok (str l) v w3 hs'.out hv).mono ?_
    rintro e w4 ⟨rfl,b4⟩
    have N4:Hid (NB w w4 B i l):=N3.out.below b4
    have C:Hid (∀ m,Calls Tryz.prog 111 #[.int .i64 v,.int .i64 10] (w4.drewN m) fun e w'=>e=.returned (.string (str (Lib.itoa v)))∧NB w w' B i l):=fun m =>
      (format_any v hr (w4.drewN m) (N4.out.laid.below (drewN_below (Below.refl _ _)))).mono fun e w' h=>⟨h.1,N4.out.below (undrewN_below h.2)⟩
    clear hv hs' hl N3 b4
    have e1:=cellOf N4.out.box 1 _ rfl
    by_cases he:Lib.itoa v=l
    · have hq:((str (Lib.itoa v)).toList==(str l).toList)=true:=by rw [str_beq];simpa using he
      have V2:Hid (numVal i l=.tuple #[.agg #[.int .i64 i,.string (str l),.bool true,.int .i64 v],.int .i64 0]):=by
        have:=V.out;rw [if_pos he] at this;exact this
      clear V he
      go_wp2_with fail
      go_region_with (go_at_call 111;refine (C.out _).mono ?_;rintro e w5 ⟨rfl,n5⟩;have N5:Hid (NB w w5 B i l):=n5;clear n5;have f1:=cellOf N5.out.box 1 _ rfl)
      all_goals
        have hn5:w.heap.size≠B:=by omega
        have f0:=cellOf N5.out.box 0 _ rfl
        have f2:=cellOf N5.out.box 2 _ rfl
        have f3:=cellOf N5.out.box 3 _ rfl
        have z2:=freeOf N5.out.box 2
        have z3:=freeOf N5.out.box 3
        have r0:=cellOf N5.out.res 0 _ rfl
        have r1:=cellOf N5.out.res 1 _ rfl
        have r2:=cellOf N5.out.res 2 _ rfl
        have r3:=cellOf N5.out.res 3 _ rfl
        have q0:=freeOf N5.out.res 0
        have q1:=freeOf N5.out.res 1
        have q2:=freeOf N5.out.res 2
        have q3:=freeOf N5.out.res 3
        clear N4 C e1
        go_wp2
        have h1:Blk ((w5.setCell ⟨B,2,none⟩ (.bool true)).setCell ⟨B,3,none⟩ (.int .i64 v)) w.heap.size Z4 96:=(N5.out.res.setOther (fun e=>hn5 e.symm) _).setOther (fun e=>hn5 e.symm) _
        have h2:Below w.heap.size w ((w5.setCell ⟨B,2,none⟩ (.bool true)).setCell ⟨B,3,none⟩ (.int .i64 v)):=(N5.out.bel.setCell (p:=⟨B,2,none⟩) (Nat.le_of_lt hz) _).setCell (p:=⟨B,3,none⟩) (Nat.le_of_lt hz) _
        have D:=stored4 h1 h2 (Nat.le_refl _) (.int .i64 i) (.string (str l)) (.bool true) (.int .i64 v)
        have x0:=cellOf D.1 0 _ rfl
        have x1:=cellOf D.1 1 _ rfl
        have x2:=cellOf D.1 2 _ rfl
        have x3:=cellOf D.1 3 _ rfl
        have DD:Hid _:=D.2
        clear D h1 h2 N5 f0 f1 f2 f3 z2 z3 r0 r1 r2 r3 q0 q1 q2 q3
        generalize (((((w5.setCell ⟨B,2,none⟩ (.bool true)).setCell ⟨B,3,none⟩ (.int .i64 v)).setCell ⟨w.heap.size,0,none⟩ (.int .i64 i)).setCell ⟨w.heap.size,1,none⟩ (.string (str l))).setCell ⟨w.heap.size,2,none⟩ (.bool true)).setCell ⟨w.heap.size,3,none⟩ (.int .i64 v)=w9 at DD x0 x1 x2 x3 ⊢
        exact bodyPost_ret (v:=.tuple #[.agg #[.int .i64 i,.string (str l),.bool true,.int .i64 v],.int .i64 0]) (by simp [results,Tryz.results99,go_sem,x0,x1,x2,x3]) rfl ⟨by rw [V2.out],DD.out⟩
    · have hq:((str (Lib.itoa v)).toList==(str l).toList)=false:=by rw [str_beq];simpa using he
      have V2:Hid (numVal i l=.tuple #[.agg #[.int .i64 0,.string (str []),.bool false,.int .i64 0],.int .i64 8]):=by
        have:=V.out;rw [if_neg he] at this;exact this
      clear V he
      go_wp2_with fail
      go_region_with (go_at_call 111;refine (C.out _).mono ?_;rintro e w5 ⟨rfl,n5⟩;have N5:Hid (NB w w5 B i l):=n5;clear n5;have f1:=cellOf N5.out.box 1 _ rfl)
      all_goals
        have r0:=cellOf N5.out.res 0 _ rfl
        have r1:=cellOf N5.out.res 1 _ rfl
        have r2:=cellOf N5.out.res 2 _ rfl
        have r3:=cellOf N5.out.res 3 _ rfl
        have q0:=freeOf N5.out.res 0
        have q1:=freeOf N5.out.res 1
        have q2:=freeOf N5.out.res 2
        have q3:=freeOf N5.out.res 3
        clear N4 C e1 f1
        go_wp2
        have D:=stored4 N5.out.res N5.out.bel (Nat.le_refl _) (.int .i64 0) (.string ⟨#[]⟩) (.bool false) (.int .i64 0)
        have x0:=cellOf D.1 0 _ rfl
        have x1:=cellOf D.1 1 _ rfl
        have x2:=cellOf D.1 2 _ rfl
        have x3:=cellOf D.1 3 _ rfl
        have DD:Hid _:=D.2
        clear D N5 r0 r1 r2 r3 q0 q1 q2 q3
        generalize (((w5.setCell ⟨w.heap.size,0,none⟩ (.int .i64 0)).setCell ⟨w.heap.size,1,none⟩ (.string ⟨#[]⟩)).setCell ⟨w.heap.size,2,none⟩ (.bool false)).setCell ⟨w.heap.size,3,none⟩ (.int .i64 0)=w9 at DD x0 x1 x2 x3 ⊢
        exact bodyPost_ret (v:=.tuple #[.agg #[.int .i64 0,.string ⟨#[]⟩,.bool false,.int .i64 0],.int .i64 8]) (by simp [results,Tryz.results99,go_sem,x0,x1,x2,x3]) rfl ⟨by rw [V2.out];rfl,DD.out⟩
  · have V2:Hid (numVal i l=.tuple #[.agg #[.int .i64 0,.string (str []),.bool false,.int .i64 0],.int .i64 8]):=numVal_bad (fun v h=>hp ⟨v,h⟩)
    refine (parse_bad (str l) w3 N3.out.laid hs'.out (fun v h=>hp ⟨v,h⟩)).mono ?_
    rintro e w4 ⟨⟨x,N,rfl⟩,b4⟩
    have N4:Hid (NB w w4 B i l):=N3.out.below b4
    clear hp hs' hl N3 b4
    go_wp2_with fail
    go_region
    all_goals
      have N5:Hid (NB w w4.drew B i l):=N4.out.below ⟨rfl,rfl,rfl,Nat.le_refl _,fun _ _=>rfl⟩
      generalize w4.drew=w5 at N5 ⊢
      have r0:=cellOf N5.out.res 0 _ rfl
      have r1:=cellOf N5.out.res 1 _ rfl
      have r2:=cellOf N5.out.res 2 _ rfl
      have r3:=cellOf N5.out.res 3 _ rfl
      have q0:=freeOf N5.out.res 0
      have q1:=freeOf N5.out.res 1
      have q2:=freeOf N5.out.res 2
      have q3:=freeOf N5.out.res 3
      clear N4
      go_wp2
      have D:=stored4 N5.out.res N5.out.bel (Nat.le_refl _) (.int .i64 0) (.string ⟨#[]⟩) (.bool false) (.int .i64 0)
      have x0:=cellOf D.1 0 _ rfl
      have x1:=cellOf D.1 1 _ rfl
      have x2:=cellOf D.1 2 _ rfl
      have x3:=cellOf D.1 3 _ rfl
      have DD:Hid _:=D.2
      clear D N5 r0 r1 r2 r3 q0 q1 q2 q3
      generalize (((w5.setCell ⟨w.heap.size,0,none⟩ (.int .i64 0)).setCell ⟨w.heap.size,1,none⟩ (.string ⟨#[]⟩)).setCell ⟨w.heap.size,2,none⟩ (.bool false)).setCell ⟨w.heap.size,3,none⟩ (.int .i64 0)=w9 at DD x0 x1 x2 x3 ⊢
      exact bodyPost_ret (v:=.tuple #[.agg #[.int .i64 0,.string ⟨#[]⟩,.bool false,.int .i64 0],.int .i64 8]) (by simp [results,Tryz.results99,go_sem,x0,x1,x2,x3]) rfl ⟨by rw [V2.out];rfl,DD.out⟩
section
variable {c : UInt8} {l : List UInt8}
theorem tok_let (h : letB c = true) : tok (c :: l) = .ok (pre letB (c :: l)) false 0 := by
  have h1:tokLen (c::l)=(pre letB (c::l),false):=by simp [tokLen,h]
  simp only [tok,h1]
  rw [if_neg (by rw [pre_yes h];omega)]
  simp
theorem tok_sign (h0 : letB c = false) (h : sigB c = true) : tok (c :: l) = .ok 1 false 0 := by
  have h1:tokLen (c::l)=(1,false):=by simp [tokLen,h,h0]
  simp [tok,h1]
theorem not_sign {k : Nat} (h : c.toNat = k) (hk : ([40, 41, 123, 125, 60, 62, 44, 59] : List Nat).contains k = false) : sigB c = false := by
  unfold sigB;rw [h];exact hk
theorem tok_arrow (h0 : letB c = false) (h : c.toNat = 45) (h2 : l.head?.any (fun d => d.toNat == 62) = true) : tok (c :: l) = .ok 2 false 0 := by
  have h1:tokLen (c::l)=(2,false):=by
    have hs:sigB c=false:=not_sign h rfl
    simp only [tokLen,h0,hs,h,h2]
    simp
  simp [tok,h1]
theorem tok_num (i : Nat) (h0 : letB c = false) (h : digB c = true ∨ (c.toNat = 45 ∧ l.head?.any digB = true)) : (tok (c :: l)).val i (c :: l) = numVal i ((c :: l).take (pre digB l + 1)) := by
  have hs:sigB c=false:=by
    rcases h with h | ⟨h,_⟩
    · simp only [digB,Bool.and_eq_true,decide_eq_true_eq] at h
      simp [sigB];omega
    · exact not_sign h rfl
  have ha:¬ (c.toNat=45∧l.head?.any (fun d=>d.toNat==62)=true):=by
    rintro ⟨a,b⟩
    rcases h with h | ⟨_,h⟩
    · simp [digB,a] at h
    · cases l with
      | nil=>simp at h
      | cons d l =>
        simp at b h
        simp [digB,b] at h
  have h1:tokLen (c::l)=(pre digB l+1,true):=by simp only [tokLen,h0,hs,if_neg ha,if_pos h];simp
  simp only [tok,h1,numVal]
  rw [if_neg (by omega)]
  simp only [if_true]
  cases e:numOf ((c::l).take (pre digB l+1)) with
  | none=>simp [TkR.val]
  | some v=>simp [TkR.val]
theorem tok_bad (h0 : letB c = false) (h1 : sigB c = false) (h2 : ¬ (c.toNat = 45 ∧ l.head?.any (fun d => d.toNat == 62) = true)) (h3 : ¬ (digB c = true ∨ (c.toNat = 45 ∧ l.head?.any digB = true))) : tok (c :: l) = .bad 6 := by
  have:tokLen (c::l)=(0,false):=by simp only [tokLen,h0,h1,if_neg h2,if_neg h3];simp
  simp [tok,this]
theorem arrow_pre : Lib.hasPrefix (c :: l) [45, 62] = true ↔ (c.toNat = 45 ∧ l.head?.any (fun d => d.toNat == 62) = true) := by
  cases l with
  | nil=>simp [Lib.hasPrefix]
  | cons d l =>
    simp only [Lib.hasPrefix,List.isPrefixOf,List.head?_cons,Option.any_some,beq_iff_eq,Bool.and_true,Bool.and_eq_true,← UInt8.toNat_inj]
    constructor
    · rintro ⟨a,b⟩;exact ⟨a.symm,b.symm⟩
    · rintro ⟨a,b⟩;exact ⟨a.symm,b.symm⟩
end
theorem numVal_form (i : Nat) (l : List UInt8) : ∃ (p : Int) (t : ByteArray) (b : Bool) (n c : Int), numVal i l = .tuple #[.agg #[.int .i64 p, .string t, .bool b, .int .i64 n], .int .i64 c] := by
  unfold numVal
  split
  · exact ⟨_,_,_,_,_,rfl⟩
  · exact ⟨_,_,_,_,_,rfl⟩
structure TB (w w' : World) : Prop where
  bel:Below w.heap.size w w'
  res:Blk w' w.heap.size Z4 96
  laid:Laid w'
theorem TB.below {w w1 w2 : World} (h : TB w w1) (b : Below w1.heap.size w1 w2) : TB w w2 := ⟨Below.andThen h.bel b, h.res.below b, h.laid.below b⟩
theorem TB.start {w : World} (h : Laid w) : TB w (w.alloc (.cells Z4 96)) := ⟨bel1 w _, Blk.new _ _ _, h.below (bel1 w _)⟩
def dgAt (s : ByteArray) (k : Int) : Bool := (s.data.toList.drop k.toNat).head?.any digB
theorem tokenAt_any (s : ByteArray) (i : Nat) (w : World) (hw0 : Laid w) (hi : i < s.size) (hs : s.size ≤ 1000000) :
    Calls Tryz.prog 51 #[.string s,.int .i64 i] w fun e w'=>e=.returned ((tok (s.data.toList.drop i)).val i (s.data.toList.drop i))∧Below w.heap.size w w':=by
  have hi':(i:Int)<s.size:=by omega
  have hw:Hid (Laid w):=hw0
  clear hw0
  cases hlet:letB s[i] with
  | true =>
    have hn:=pre_le letB (s.data.toList.drop i)
    rw [List.length_drop,list_len] at hn
    have hV:Hid ((tok (s.data.toList.drop i)).val i (s.data.toList.drop i)=.tuple #[.agg #[.int .i64 i,.string (str ((s.data.toList.drop i).take (pre letB (s.data.toList.drop i)))),.bool false,.int .i64 0],.int .i64 0]):=by
      have e:=tok_let (l:=s.data.toList.drop (i+1)) hlet
      rw [← drop_at s i hi] at e
      show _=_
      rw [e];rfl
    have C1:Hid _:=kind_at isLetter_any hlet
    have C2:Hid (∀ w,Calls Tryz.prog 94 #[.string s,.int .i64 i,.func (.func 96) #[] #[]] w fun e w'=>e=.returned (.int .i64 ((i+pre letB (s.data.toList.drop i):Nat):Int))∧w'=w):=fun w=>past_any isLetter_any ent_letter s i w (Nat.le_of_lt hi) hs
    generalize pre letB (s.data.toList.drop i)=k at hn hV C2
    have C3:Hid (∀ w,Calls Tryz.prog 97 #[.string s,.int .i64 i,.int .i64 ((i+k:Nat):Int)] w fun e w'=>e=.returned (.agg #[.int .i64 i,.string (str ((s.data.toList.drop i).take k)),.bool false,.int .i64 0])∧Below w.heap.size w w'):=fun w=>by
      have:=tokenTo_any s i (i+k) w (by omega) (by omega) hs
      rwa [Nat.add_sub_cancel_left] at this
    generalize (s.data.toList.drop i).take k=l at hV C3
    generalize i+k=j at C2 C3
    clear hlet hn
    go_enter Tryz.func51,Tryz.ntmps51
    go_wp2_with fail
    have T:Hid _:=TB.start hw.out
    generalize w.alloc (.cells Z4 96)=w1 at T ⊢
    go_wp2_with (first
      | (go_at_call 96;refine (C1.out _).mono ?_;rintro e w' ⟨rfl,rfl⟩)
      | (go_at_call 94;refine (C2.out _).mono ?_;rintro e w' ⟨rfl,rfl⟩)
      | (go_at_call 97;refine (C3.out _).mono ?_;rintro e w5 ⟨rfl,b5⟩;have N5:Hid (TB w w5):=T.out.below b5;clear b5;have r0:=cellOf N5.out.res 0 _ rfl;have r1:=cellOf N5.out.res 1 _ rfl;have r2:=cellOf N5.out.res 2 _ rfl;have r3:=cellOf N5.out.res 3 _ rfl;have q0:=freeOf N5.out.res 0;have q1:=freeOf N5.out.res 1;have q2:=freeOf N5.out.res 2;have q3:=freeOf N5.out.res 3))
    have D:=stored4 N5.out.res N5.out.bel (Nat.le_refl _) (.int .i64 i) (.string (str l)) (.bool false) (.int .i64 0)
    have x0:=cellOf D.1 0 _ rfl
    have x1:=cellOf D.1 1 _ rfl
    have x2:=cellOf D.1 2 _ rfl
    have x3:=cellOf D.1 3 _ rfl
    have DD:Hid _:=D.2
    clear D N5 r0 r1 r2 r3 q0 q1 q2 q3
    generalize (((World.setCell _ ⟨w.heap.size,0,none⟩ (.int .i64 i)).setCell ⟨w.heap.size,1,none⟩ (.string (str l))).setCell ⟨w.heap.size,2,none⟩ (.bool false)).setCell ⟨w.heap.size,3,none⟩ (.int .i64 0)=w9 at DD x0 x1 x2 x3 ⊢
    exact bodyPost_ret (v:=.tuple #[.agg #[.int .i64 i,.string (str l),.bool false,.int .i64 0],.int .i64 0]) (by simp [results,Tryz.results51,go_sem,x0,x1,x2,x3]) rfl ⟨by rw [hV.out],DD.out⟩
  | false =>
    have C1a:=kind_at isLetter_any hlet
    have C4a:=fun w=>isDigitAt_any s i w (by omega) (by unfold maxLen;omega)
    rw [drop_at s i hi] at C4a
    simp only [List.head?_cons,Option.any_some] at C4a
    cases hd:digB s[i] with
    | true =>
      rw [hd] at C4a
      have C1:Hid _:=C1a
      have C4:Hid _:=C4a
      clear C1a C4a
      have hn:=pre_le digB (s.data.toList.drop (i+1))
      rw [List.length_drop,list_len] at hn
      have hV0:(tok (s.data.toList.drop i)).val i (s.data.toList.drop i)=numVal i ((s.data.toList.drop i).take (pre digB (s.data.toList.drop (i+1))+1)):=by
        have e:=tok_num (l:=s.data.toList.drop (i+1)) i hlet (.inl hd)
        rwa [← drop_at s i hi] at e
      have C2:Hid (∀ w,Calls Tryz.prog 94 #[.string s,.int .i64 ((i:Int)+1),.func (.func 100) #[] #[]] w fun e w'=>e=.returned (.int .i64 ((i+1+pre digB (s.data.toList.drop (i+1)):Nat):Int))∧w'=w):=fun w=>past_any isDigit_any ent_digit s (i+1) w hi hs
      generalize pre digB (s.data.toList.drop (i+1))=k at hn hV0 C2
      have C3:Hid (∀ w,Laid w→Calls Tryz.prog 99 #[.string s,.int .i64 i,.int .i64 ((i+1+k:Nat):Int)] w fun e w'=>e=.returned (numVal i ((s.data.toList.drop i).take (k+1)))∧Below w.heap.size w w'):=fun w hl=>by
        have:=numberTo_any s i (i+1+k) w hl (by omega) (by omega) hs
        rwa [show i+1+k - i=k+1 by omega] at this
      obtain ⟨p,tx,b,n,c,hf⟩:=numVal_form i ((s.data.toList.drop i).take (k+1))
      rw [hf] at hV0 C3
      have hV:Hid _:=hV0
      generalize i+1+k=j at C2 C3
      clear hf hV0 hn hlet hd
      go_enter Tryz.func51,Tryz.ntmps51
      go_wp2_with fail
      have T:Hid _:=TB.start hw.out
      generalize w.alloc (.cells Z4 96)=w1 at T ⊢
      go_wp2_with (first
        | (go_at_call 96;refine (C1.out _).mono ?_;rintro e w' ⟨rfl,rfl⟩)
        | (go_at_call 98;refine (C4.out _).mono ?_;rintro e w' ⟨rfl,rfl⟩)
        | (go_at_call 94;refine (C2.out _).mono ?_;rintro e w' ⟨rfl,rfl⟩)
        | (go_at_call 99;refine (C3.out _ T.out.laid).mono ?_;rintro e w5 ⟨rfl,b5⟩;have N5:Hid (TB w w5):=T.out.below b5;clear b5;have r0:=cellOf N5.out.res 0 _ rfl;have r1:=cellOf N5.out.res 1 _ rfl;have r2:=cellOf N5.out.res 2 _ rfl;have r3:=cellOf N5.out.res 3 _ rfl;have q0:=freeOf N5.out.res 0;have q1:=freeOf N5.out.res 1;have q2:=freeOf N5.out.res 2;have q3:=freeOf N5.out.res 3))
      have D:=stored4 N5.out.res N5.out.bel (Nat.le_refl _) (.int .i64 p) (.string tx) (.bool b) (.int .i64 n)
      have x0:=cellOf D.1 0 _ rfl
      have x1:=cellOf D.1 1 _ rfl
      have x2:=cellOf D.1 2 _ rfl
      have x3:=cellOf D.1 3 _ rfl
      have DD:Hid _:=D.2
      clear D N5 r0 r1 r2 r3 q0 q1 q2 q3
      generalize (((World.setCell _ ⟨w.heap.size,0,none⟩ (.int .i64 p)).setCell ⟨w.heap.size,1,none⟩ (.string tx)).setCell ⟨w.heap.size,2,none⟩ (.bool b)).setCell ⟨w.heap.size,3,none⟩ (.int .i64 n)=w9 at DD x0 x1 x2 x3 ⊢
      exact bodyPost_ret (v:=.tuple #[.agg #[.int .i64 p,.string tx,.bool b,.int .i64 n],.int .i64 c]) (by simp [results,Tryz.results51,go_sem,x0,x1,x2,x3]) rfl ⟨by rw [hV.out],DD.out⟩
    | false =>
      by_cases h45:s[i].toNat=45
      · have C4:Hid (∀ (k:Int) w,k=i∨k=(i:Int)+1→Calls Tryz.prog 98 #[.string s,.int .i64 k] w fun e w'=>e=.returned (.bool (dgAt s k))∧w'=w):=by
          rintro k w (rfl | rfl)
          · exact isDigitAt_any s i w (by omega) (by unfold maxLen;omega)
          · exact isDigitAt_any s (i+1) w (by omega) (by unfold maxLen;omega)
        have g0:dgAt s (i:Int)=false:=by unfold dgAt;rw [Int.toNat_natCast,drop_at s i hi];simpa using hd
        have h45':(s[i].toNat:Int)=45:=by omega
        rw [h45'] at C1a
        have C1:Hid _:=C1a
        cases hd2:(s.data.toList.drop (i+1)).head?.any digB with
        | true =>
          have g1:dgAt s ((i:Int)+1)=true:=hd2
          clear C1a C4a
          have hn:=pre_le digB (s.data.toList.drop (i+1))
          rw [List.length_drop,list_len] at hn
          have hV0:(tok (s.data.toList.drop i)).val i (s.data.toList.drop i)=numVal i ((s.data.toList.drop i).take (pre digB (s.data.toList.drop (i+1))+1)):=by
            have e:=tok_num (l:=s.data.toList.drop (i+1)) i hlet (.inr ⟨h45,hd2⟩)
            rwa [← drop_at s i hi] at e
          have C2:Hid (∀ w,Calls Tryz.prog 94 #[.string s,.int .i64 ((i:Int)+1),.func (.func 100) #[] #[]] w fun e w'=>e=.returned (.int .i64 ((i+1+pre digB (s.data.toList.drop (i+1)):Nat):Int))∧w'=w):=fun w=>past_any isDigit_any ent_digit s (i+1) w hi hs
          generalize pre digB (s.data.toList.drop (i+1))=k at hn hV0 C2
          have C3:Hid (∀ w,Laid w→Calls Tryz.prog 99 #[.string s,.int .i64 i,.int .i64 ((i+1+k:Nat):Int)] w fun e w'=>e=.returned (numVal i ((s.data.toList.drop i).take (k+1)))∧Below w.heap.size w w'):=fun w hl=>by
            have:=numberTo_any s i (i+1+k) w hl (by omega) (by omega) hs
            rwa [show i+1+k - i=k+1 by omega] at this
          obtain ⟨p,tx,b,n,c,hf⟩:=numVal_form i ((s.data.toList.drop i).take (k+1))
          rw [hf] at hV0 C3
          have hV:Hid _:=hV0
          generalize i+1+k=j at C2 C3
          clear hf hV0 hn hlet hd hd2 h45
          go_enter Tryz.func51,Tryz.ntmps51
          go_wp2_with fail
          have T:Hid _:=TB.start hw.out
          generalize w.alloc (.cells Z4 96)=w1 at T ⊢
          go_wp2_with (first
            | (go_at_call 96;refine (C1.out _).mono ?_;rintro e w' ⟨rfl,rfl⟩)
            | (go_at_call 98;refine (C4.out _ _ (by omega)).mono ?_;rintro e w' ⟨rfl,rfl⟩)
            | (go_at_call 94;refine (C2.out _).mono ?_;rintro e w' ⟨rfl,rfl⟩)
            | (go_at_call 99;refine (C3.out _ T.out.laid).mono ?_;rintro e w5 ⟨rfl,b5⟩;have N5:Hid (TB w w5):=T.out.below b5;clear b5;have r0:=cellOf N5.out.res 0 _ rfl;have r1:=cellOf N5.out.res 1 _ rfl;have r2:=cellOf N5.out.res 2 _ rfl;have r3:=cellOf N5.out.res 3 _ rfl;have q0:=freeOf N5.out.res 0;have q1:=freeOf N5.out.res 1;have q2:=freeOf N5.out.res 2;have q3:=freeOf N5.out.res 3))
          have D:=stored4 N5.out.res N5.out.bel (Nat.le_refl _) (.int .i64 p) (.string tx) (.bool b) (.int .i64 n)
          have x0:=cellOf D.1 0 _ rfl
          have x1:=cellOf D.1 1 _ rfl
          have x2:=cellOf D.1 2 _ rfl
          have x3:=cellOf D.1 3 _ rfl
          have DD:Hid _:=D.2
          clear D N5 r0 r1 r2 r3 q0 q1 q2 q3
          generalize (((World.setCell _ ⟨w.heap.size,0,none⟩ (.int .i64 p)).setCell ⟨w.heap.size,1,none⟩ (.string tx)).setCell ⟨w.heap.size,2,none⟩ (.bool b)).setCell ⟨w.heap.size,3,none⟩ (.int .i64 n)=w9 at DD x0 x1 x2 x3 ⊢
          exact bodyPost_ret (v:=.tuple #[.agg #[.int .i64 p,.string tx,.bool b,.int .i64 n],.int .i64 c]) (by simp [results,Tryz.results51,go_sem,x0,x1,x2,x3]) rfl ⟨by rw [hV.out],DD.out⟩
        | false =>
          have g1:dgAt s ((i:Int)+1)=false:=hd2
          have C6a:=fun w=>prefix_any (s.extract i s.size) ⟨#[45,62]⟩ w
          have hex:(s.extract i s.size).data.toList=s[i]::s.data.toList.drop (i+1):=by rw [ext_list,← drop_at s i hi];rw [List.take_of_length_le (by rw [List.length_drop,list_len];omega)]
          have hap:=arrow_pre (c:=s[i]) (l:=s.data.toList.drop (i+1))
          rw [hex] at C6a
          clear hex C1a C4a
          by_cases h62:(s.data.toList.drop (i+1)).head?.any (fun d=>d.toNat==62)=true
          · have hpt:Lib.hasPrefix (s[i]::s.data.toList.drop (i+1)) [45,62]=true:=hap.2 ⟨h45,h62⟩
            have C6:Hid (∀ w,Calls Tryz.prog 101 #[.string (s.extract i s.size),.string ⟨#[45,62]⟩] w fun e w'=>e=.returned (.bool true)∧w'=w):=by
              intro w;have:=C6a w;rw [show (⟨#[45,62]⟩:ByteArray).data.toList=[45,62] from rfl,hpt] at this;exact this
            have hV0:=tok_arrow (l:=s.data.toList.drop (i+1)) hlet h45 h62
            rw [← drop_at s i hi] at hV0
            have hV:Hid ((tok (s.data.toList.drop i)).val i (s.data.toList.drop i)=.tuple #[.agg #[.int .i64 i,.string (str ((s.data.toList.drop i).take 2)),.bool false,.int .i64 0],.int .i64 0]):=by show _=_;rw [hV0];rfl
            have hi2:i+2≤s.size:=by
              rcases Nat.lt_or_ge (i+1) s.size with h | h
              · exact h
              · rw [drop_end s (i+1) (by omega)] at h62;simp at h62
            have C3:Hid (∀ w,Calls Tryz.prog 97 #[.string s,.int .i64 i,.int .i64 ((i:Int)+2)] w fun e w'=>e=.returned (.agg #[.int .i64 i,.string (str ((s.data.toList.drop i).take 2)),.bool false,.int .i64 0])∧Below w.heap.size w w'):=fun w=>by
              have:=tokenTo_any s i (i+2) w (by omega) hi2 hs
              rwa [Nat.add_sub_cancel_left] at this
            generalize (s.data.toList.drop i).take 2=l at hV C3
            clear hlet hd hd2 h45 h62 hpt hap C6a hV0
            go_enter Tryz.func51,Tryz.ntmps51
            go_wp2_with fail
            have T:Hid _:=TB.start hw.out
            generalize w.alloc (.cells Z4 96)=w1 at T ⊢
            go_wp2_with (first
              | (go_at_call 96;refine (C1.out _).mono ?_;rintro e w' ⟨rfl,rfl⟩)
              | (go_at_call 98;refine (C4.out _ _ (by omega)).mono ?_;rintro e w' ⟨rfl,rfl⟩)
              | (go_at_call 101;refine (C6.out _).mono ?_;rintro e w' ⟨rfl,rfl⟩)
              | (go_at_call 97;refine (C3.out _).mono ?_;rintro e w5 ⟨rfl,b5⟩;have N5:Hid (TB w w5):=T.out.below b5;clear b5;have r0:=cellOf N5.out.res 0 _ rfl;have r1:=cellOf N5.out.res 1 _ rfl;have r2:=cellOf N5.out.res 2 _ rfl;have r3:=cellOf N5.out.res 3 _ rfl;have q0:=freeOf N5.out.res 0;have q1:=freeOf N5.out.res 1;have q2:=freeOf N5.out.res 2;have q3:=freeOf N5.out.res 3))
            have D:=stored4 N5.out.res N5.out.bel (Nat.le_refl _) (.int .i64 i) (.string (str l)) (.bool false) (.int .i64 0)
            have x0:=cellOf D.1 0 _ rfl
            have x1:=cellOf D.1 1 _ rfl
            have x2:=cellOf D.1 2 _ rfl
            have x3:=cellOf D.1 3 _ rfl
            have DD:Hid _:=D.2
            clear D N5 r0 r1 r2 r3 q0 q1 q2 q3
            generalize (((World.setCell _ ⟨w.heap.size,0,none⟩ (.int .i64 i)).setCell ⟨w.heap.size,1,none⟩ (.string (str l))).setCell ⟨w.heap.size,2,none⟩ (.bool false)).setCell ⟨w.heap.size,3,none⟩ (.int .i64 0)=w9 at DD x0 x1 x2 x3 ⊢
            exact bodyPost_ret (v:=.tuple #[.agg #[.int .i64 i,.string (str l),.bool false,.int .i64 0],.int .i64 0]) (by simp [results,Tryz.results51,go_sem,x0,x1,x2,x3]) rfl ⟨by rw [hV.out],DD.out⟩
          · have hpt:Lib.hasPrefix (s[i]::s.data.toList.drop (i+1)) [45,62]=false:=by
              cases e:Lib.hasPrefix (s[i]::s.data.toList.drop (i+1)) [45,62] with
              | false=>rfl
              | true=>exact absurd (hap.1 e).2 h62
            have C6:Hid (∀ w,Calls Tryz.prog 101 #[.string (s.extract i s.size),.string ⟨#[45,62]⟩] w fun e w'=>e=.returned (.bool false)∧w'=w):=by
              intro w;have:=C6a w;rw [show (⟨#[45,62]⟩:ByteArray).data.toList=[45,62] from rfl,hpt] at this;exact this
            have hsg:sigB s[i]=false:=not_sign h45 rfl
            have C7a:=kind_at isSign_any hsg
            rw [h45'] at C7a
            have C7:Hid _:=C7a
            have hV0:=tok_bad (l:=s.data.toList.drop (i+1)) hlet hsg (fun h=>h62 h.2) (fun h=>h.elim (fun a=>by rw [hd] at a;cases a) (fun a=>by rw [hd2] at a;cases a.2))
            rw [← drop_at s i hi] at hV0
            have hV:Hid ((tok (s.data.toList.drop i)).val i (s.data.toList.drop i)=.tuple #[.agg #[.int .i64 0,.string ⟨#[]⟩,.bool false,.int .i64 0],.int .i64 6]):=by show _=_;rw [hV0];rfl
            clear hlet hd hd2 h45 h62 hpt hap C6a hV0 hsg C7a
            go_enter Tryz.func51,Tryz.ntmps51
            go_wp2_with fail
            have T:Hid _:=TB.start hw.out
            generalize w.alloc (.cells Z4 96)=w1 at T ⊢
            have N5:Hid (TB w w1):=T.out
            have r0:=cellOf N5.out.res 0 _ rfl
            have r1:=cellOf N5.out.res 1 _ rfl
            have r2:=cellOf N5.out.res 2 _ rfl
            have r3:=cellOf N5.out.res 3 _ rfl
            have q0:=freeOf N5.out.res 0
            have q1:=freeOf N5.out.res 1
            have q2:=freeOf N5.out.res 2
            have q3:=freeOf N5.out.res 3
            go_wp2_with (first
              | (go_at_call 96;refine (C1.out _).mono ?_;rintro e w' ⟨rfl,rfl⟩)
              | (go_at_call 98;refine (C4.out _ _ (by omega)).mono ?_;rintro e w' ⟨rfl,rfl⟩)
              | (go_at_call 101;refine (C6.out _).mono ?_;rintro e w' ⟨rfl,rfl⟩)
              | (go_at_call 102;refine (C7.out _).mono ?_;rintro e w' ⟨rfl,rfl⟩))
            have D:=stored4 N5.out.res N5.out.bel (Nat.le_refl _) (.int .i64 0) (.string ⟨#[]⟩) (.bool false) (.int .i64 0)
            have x0:=cellOf D.1 0 _ rfl
            have x1:=cellOf D.1 1 _ rfl
            have x2:=cellOf D.1 2 _ rfl
            have x3:=cellOf D.1 3 _ rfl
            have DD:Hid _:=D.2
            clear D N5 r0 r1 r2 r3 q0 q1 q2 q3
            generalize (((World.setCell _ ⟨w.heap.size,0,none⟩ (.int .i64 0)).setCell ⟨w.heap.size,1,none⟩ (.string ⟨#[]⟩)).setCell ⟨w.heap.size,2,none⟩ (.bool false)).setCell ⟨w.heap.size,3,none⟩ (.int .i64 0)=w9 at DD x0 x1 x2 x3 ⊢
            exact bodyPost_ret (v:=.tuple #[.agg #[.int .i64 0,.string ⟨#[]⟩,.bool false,.int .i64 0],.int .i64 6]) (by simp [results,Tryz.results51,go_sem,x0,x1,x2,x3]) rfl ⟨by rw [hV.out],DD.out⟩
      · have h45':¬ (s[i].toNat:Int)=45:=by omega
        have C1:Hid _:=C1a
        rw [hd] at C4a
        have C4:Hid _:=C4a
        have C6a:=fun w=>prefix_any (s.extract i s.size) ⟨#[45,62]⟩ w
        have hex:(s.extract i s.size).data.toList=s[i]::s.data.toList.drop (i+1):=by rw [ext_list,← drop_at s i hi];rw [List.take_of_length_le (by rw [List.length_drop,list_len];omega)]
        have hap:=arrow_pre (c:=s[i]) (l:=s.data.toList.drop (i+1))
        rw [hex] at C6a
        have hpt:Lib.hasPrefix (s[i]::s.data.toList.drop (i+1)) [45,62]=false:=by
          cases e:Lib.hasPrefix (s[i]::s.data.toList.drop (i+1)) [45,62] with
          | false=>rfl
          | true=>exact absurd (hap.1 e).1 h45
        have C6:Hid (∀ w,Calls Tryz.prog 101 #[.string (s.extract i s.size),.string ⟨#[45,62]⟩] w fun e w'=>e=.returned (.bool false)∧w'=w):=by
          intro w;have:=C6a w;rw [show (⟨#[45,62]⟩:ByteArray).data.toList=[45,62] from rfl,hpt] at this;exact this
        clear hex C1a C4a hap hpt C6a
        cases hsg:sigB s[i] with
        | true =>
          have C7:Hid _:=kind_at isSign_any hsg
          have hV0:=tok_sign (l:=s.data.toList.drop (i+1)) hlet hsg
          rw [← drop_at s i hi] at hV0
          have hV:Hid ((tok (s.data.toList.drop i)).val i (s.data.toList.drop i)=.tuple #[.agg #[.int .i64 i,.string (str ((s.data.toList.drop i).take 1)),.bool false,.int .i64 0],.int .i64 0]):=by show _=_;rw [hV0];rfl
          have C3:Hid (∀ w,Calls Tryz.prog 97 #[.string s,.int .i64 i,.int .i64 ((i:Int)+1)] w fun e w'=>e=.returned (.agg #[.int .i64 i,.string (str ((s.data.toList.drop i).take 1)),.bool false,.int .i64 0])∧Below w.heap.size w w'):=fun w=>by
            have:=tokenTo_any s i (i+1) w (by omega) hi hs
            rwa [Nat.add_sub_cancel_left] at this
          generalize (s.data.toList.drop i).take 1=l at hV C3
          clear hlet hd h45 hsg hV0
          go_enter Tryz.func51,Tryz.ntmps51
          go_wp2_with fail
          have T:Hid _:=TB.start hw.out
          generalize w.alloc (.cells Z4 96)=w1 at T ⊢
          go_wp2_with (first
            | (go_at_call 96;refine (C1.out _).mono ?_;rintro e w' ⟨rfl,rfl⟩)
            | (go_at_call 98;refine (C4.out _).mono ?_;rintro e w' ⟨rfl,rfl⟩)
            | (go_at_call 101;refine (C6.out _).mono ?_;rintro e w' ⟨rfl,rfl⟩)
            | (go_at_call 102;refine (C7.out _).mono ?_;rintro e w' ⟨rfl,rfl⟩)
            | (go_at_call 97;refine (C3.out _).mono ?_;rintro e w5 ⟨rfl,b5⟩;have N5:Hid (TB w w5):=T.out.below b5;clear b5;have r0:=cellOf N5.out.res 0 _ rfl;have r1:=cellOf N5.out.res 1 _ rfl;have r2:=cellOf N5.out.res 2 _ rfl;have r3:=cellOf N5.out.res 3 _ rfl;have q0:=freeOf N5.out.res 0;have q1:=freeOf N5.out.res 1;have q2:=freeOf N5.out.res 2;have q3:=freeOf N5.out.res 3))
          have D:=stored4 N5.out.res N5.out.bel (Nat.le_refl _) (.int .i64 i) (.string (str l)) (.bool false) (.int .i64 0)
          have x0:=cellOf D.1 0 _ rfl
          have x1:=cellOf D.1 1 _ rfl
          have x2:=cellOf D.1 2 _ rfl
          have x3:=cellOf D.1 3 _ rfl
          have DD:Hid _:=D.2
          clear D N5 r0 r1 r2 r3 q0 q1 q2 q3
          generalize (((World.setCell _ ⟨w.heap.size,0,none⟩ (.int .i64 i)).setCell ⟨w.heap.size,1,none⟩ (.string (str l))).setCell ⟨w.heap.size,2,none⟩ (.bool false)).setCell ⟨w.heap.size,3,none⟩ (.int .i64 0)=w9 at DD x0 x1 x2 x3 ⊢
          exact bodyPost_ret (v:=.tuple #[.agg #[.int .i64 i,.string (str l),.bool false,.int .i64 0],.int .i64 0]) (by simp [results,Tryz.results51,go_sem,x0,x1,x2,x3]) rfl ⟨by rw [hV.out],DD.out⟩
        | false =>
          have C7:Hid _:=kind_at isSign_any hsg
          have hV0:=tok_bad (l:=s.data.toList.drop (i+1)) hlet hsg (fun h=>h45 h.1) (fun h=>h.elim (fun a=>by rw [hd] at a;cases a) (fun a=>h45 a.1))
          rw [← drop_at s i hi] at hV0
          have hV:Hid ((tok (s.data.toList.drop i)).val i (s.data.toList.drop i)=.tuple #[.agg #[.int .i64 0,.string ⟨#[]⟩,.bool false,.int .i64 0],.int .i64 6]):=by show _=_;rw [hV0];rfl
          clear hlet hd h45 hsg hV0
          go_enter Tryz.func51,Tryz.ntmps51
          go_wp2_with fail
          have T:Hid _:=TB.start hw.out
          generalize w.alloc (.cells Z4 96)=w1 at T ⊢
          have N5:Hid (TB w w1):=T.out
          have r0:=cellOf N5.out.res 0 _ rfl
          have r1:=cellOf N5.out.res 1 _ rfl
          have r2:=cellOf N5.out.res 2 _ rfl
          have r3:=cellOf N5.out.res 3 _ rfl
          have q0:=freeOf N5.out.res 0
          have q1:=freeOf N5.out.res 1
          have q2:=freeOf N5.out.res 2
          have q3:=freeOf N5.out.res 3
          go_wp2_with (first
            | (go_at_call 96;refine (C1.out _).mono ?_;rintro e w' ⟨rfl,rfl⟩)
            | (go_at_call 98;refine (C4.out _).mono ?_;rintro e w' ⟨rfl,rfl⟩)
            | (go_at_call 101;refine (C6.out _).mono ?_;rintro e w' ⟨rfl,rfl⟩)
            | (go_at_call 102;refine (C7.out _).mono ?_;rintro e w' ⟨rfl,rfl⟩))
          have D:=stored4 N5.out.res N5.out.bel (Nat.le_refl _) (.int .i64 0) (.string ⟨#[]⟩) (.bool false) (.int .i64 0)
          have x0:=cellOf D.1 0 _ rfl
          have x1:=cellOf D.1 1 _ rfl
          have x2:=cellOf D.1 2 _ rfl
          have x3:=cellOf D.1 3 _ rfl
          have DD:Hid _:=D.2
          clear D N5 r0 r1 r2 r3 q0 q1 q2 q3
          generalize (((World.setCell _ ⟨w.heap.size,0,none⟩ (.int .i64 0)).setCell ⟨w.heap.size,1,none⟩ (.string ⟨#[]⟩)).setCell ⟨w.heap.size,2,none⟩ (.bool false)).setCell ⟨w.heap.size,3,none⟩ (.int .i64 0)=w9 at DD x0 x1 x2 x3 ⊢
          exact bodyPost_ret (v:=.tuple #[.agg #[.int .i64 0,.string ⟨#[]⟩,.bool false,.int .i64 0],.int .i64 6]) (by simp [results,Tryz.results51,go_sem,x0,x1,x2,x3]) rfl ⟨by rw [hV.out],DD.out⟩
section
variable {l : List UInt8} {pos k : Nat} {b : Bool} {n : Int} {acc : List Tk} {c : Nat}
theorem sc_start (h : ¬ 40000 < l.length) : (scanF (l.length + 1) (blk false l) (l.drop (blk false l))).app [] = scanL l := by
  rw [Sc.app_nil,scanL,if_neg h]
theorem sc_end (h : (scanF (l.length + 1) pos (l.drop pos)).app acc = scanL l) (hp : ¬ pos < l.length) : scanL l = .ok acc := by
  rw [List.drop_of_length_le (by omega)] at h
  rw [← h];simp [scanF,Sc.app]
theorem sc_bad (h : (scanF (l.length + 1) pos (l.drop pos)).app acc = scanL l) (hp : pos < l.length) (ht : tok (l.drop pos) = .bad c) : scanL l = .fault c pos := by
  rw [← h,scanF,if_neg (fun e=>by have:=congrArg List.length e;simp only [List.length_drop,List.length_nil] at this;omega),ht];rfl
theorem sc_next (h : (scanF (l.length + 1) pos (l.drop pos)).app acc = scanL l) (hp : pos < l.length) (ht : tok (l.drop pos) = .ok k b n) :
    (scanF (l.length+1) (pos+k+blk false (l.drop (pos+k))) (l.drop (pos+k+blk false (l.drop (pos+k))))).app (acc++[⟨pos,(l.drop pos).take k,b,n⟩])=scanL l:=by
  have hk:=tok_pos ht
  rw [List.length_drop] at hk
  rw [← h,scanF.eq_def (l.length+1) pos]
  simp only
  rw [if_neg (fun e=>by have:=congrArg List.length e;simp only [List.length_drop,List.length_nil] at this;omega),ht]
  simp only [List.drop_drop]
  rw [Sc.app_app,scanF_fuel l.length (l.length+1) _ _ (by rw [List.length_drop];omega) (by rw [List.length_drop];omega)]
theorem tok_code (h : tok l = .bad c) : c = 6 ∨ c = 8 := by
  unfold tok at h
  split at h
  · injection h with h;omega
  · split at h
    · split at h
      · cases h
      · injection h with h;omega
    · cases h
end
structure SB (T : TypeId) (w wr : World) (l : List UInt8) (pos : Nat) (v : Value) (acc : List Tk) (xs : List Value) : Prop where
  pos_le:pos≤l.length
  row:ARow tkL T wr (w.heap.size+1) v acc xs
  bel:Below w.heap.size w wr
  flt:Blk wr w.heap.size #[.int .i64 0,.int .i64 0] 27
  sofar:(scanF (l.length+1) pos (l.drop pos)).app acc=scanL l
  len:acc.length≤pos
theorem SB.start {T : TypeId} {w : World} {l : List UInt8} (h : ¬ 40000 < l.length) : SB T w (w.alloc (.cells #[.int .i64 0, .int .i64 0] 27)) l (blk false l) (.slice none 0 0) [] [] :=
  ⟨blk_le l false,ARow.nil _ _ _ _,bel1 w _,Blk.new _ _ _,sc_start h,Nat.zero_le _⟩
theorem SB.push {T : TypeId} {w wr w4 w9 : World} {l : List UInt8} {pos k : Nat} {v : Value} {acc : List Tk} {xs : List Value} {b : Bool} {n : Int} {g cap : Nat} (h : SB T w wr l pos v acc xs) (b4 : Below wr.heap.size wr w4)
    (hp:pos<l.length) (ht:tok (l.drop pos)=.ok k b n)
    (h1:w9.ownsRow (w.heap.size+1) T 4 (.slice (some ⟨g,0,none⟩) (acc.length+1) cap) (acc.length+1) (xs++[.int .i64 pos,.string (str ((l.drop pos).take k)),.bool b,.int .i64 n])) (h2:w4.grownBy w9 v.ownBlock) (h3:v.ownBlock=some g∨g=w4.heap.size) :
    SB T w w9 l (pos+k+blk false (l.drop (pos+k))) (.slice (some ⟨g,0,none⟩) (acc.length+1) cap) (acc++[⟨pos,(l.drop pos).take k,b,n⟩]) (xs++[.int .i64 pos,.string (str ((l.drop pos).take k)),.bool b,.int .i64 n]):=by
  have hk:=tok_pos ht
  have hb:=blk_le (l.drop (pos+k)) false
  rw [List.length_drop] at hk hb
  have hrow:=h.row.below b4
  have hsz:w.heap.size<wr.heap.size:=h.flt.lt
  have hsz4:=b4.size
  refine ⟨by omega,?_,?_,?_,sc_next h.sofar hp ht,by simp;have:=h.len;omega⟩
  · exact ARow.push hrow (x:=⟨pos,(l.drop pos).take k,b,n⟩) (A:=tkL) rfl h2 h3 h1
  · exact (Below.andThen h.bel b4).grown h2 (by omega) (fun k hk=>Nat.le_of_succ_le (hrow.lo_le hk).1)
  · exact (h2.block w.heap.size (by omega) (fun e=>by have:=(hrow.lo_le e.symm).1;omega)).trans (h.flt.below b4)
theorem SB.cell {T : TypeId} {w wr : World} {l : List UInt8} {pos : Nat} {v : Value} {acc : List Tk} {xs : List Value} (h : SB T w wr l pos v acc xs) : ∃ a c, v = .slice a acc.length c ∧ tkL.list.In wr (fun g => w.heap.size + 1 ≤ g) acc [.slice a acc.length c] := by
  have hl:=h.row.lay
  obtain ⟨a,c,e,r⟩:=hl
  simp at e
  exact ⟨a,c,e,⟨a,c,rfl,r⟩⟩
theorem news4 (w : World) (T : TypeId) (p q r u : Value) : ∀ j x, [p, q, r, u][j]? = some x → (w.alloc (.cells #[p, q, r, u] T)).cell? ((⟨w.heap.size, 0, none⟩ : Addr).add j) = some x := by
  intro j x h
  match j,h with
  | 0,h=>simp at h;subst h;exact cellOf (blockNew w _ _) 0 _ rfl
  | 1,h=>simp at h;subst h;exact cellOf (blockNew w _ _) 1 _ rfl
  | 2,h=>simp at h;subst h;exact cellOf (blockNew w _ _) 2 _ rfl
  | 3,h=>simp at h;subst h;exact cellOf (blockNew w _ _) 3 _ rfl
  | j+4,h=>simp at h
theorem one4 (p : Int) (t : ByteArray) (b : Bool) (n : Int) : ∀ u ∈ [Value.int .i64 p, Value.string t, Value.bool b, Value.int .i64 n], u.oneCell' = true := by
  intro u h
  simp at h
  rcases h with rfl | rfl | rfl | rfl <;> rfl
theorem stored2 {w w2 : World} {B : Nat} {p q : Value} {t : TypeId} (h : Blk w2 B #[p, q] t) (hb : Below w.heap.size w w2) (hB : w.heap.size ≤ B) (a b : Value) :
    Blk ((w2.setCell ⟨B,0,none⟩ a).setCell ⟨B,1,none⟩ b) B #[a,b] t∧Below w.heap.size w ((w2.setCell ⟨B,0,none⟩ a).setCell ⟨B,1,none⟩ b):=by
  refine ⟨?_,(hb.setCell hB _).setCell hB _⟩
  have h1:=blockSet h 0 a
  have h2:=blockSet h1 1 b
  simpa using h2
end Go.Proofs.YtalfbnllodhkiacGreatDoor
namespace Go.Proofs.YtalfbnllodhkiacGreatDoor
open Go.ChangeShapes Go.WideShapes Go.ChangeAt Go.RowKit
set_option linter.unusedSimpArgs false
set_option linter.unusedVariables false
inductive RS where
  | ok (p:Nat)
  | bad (p:Nat) (x:Nat × Nat)
def RS.at_ : RS → Nat
  | .ok p=>p
  | .bad p _=>p
def RS.c : RS → Nat
  | .ok _=>0
  | .bad _ x=>x.1
def RS.a : RS → Nat
  | .ok _=>0
  | .bad _ x=>x.2
def RS.isOk : RS → Bool
  | .ok _=>true
  | .bad _ _=>false
def RS.fair (s : RS) : Prop := s.isOk = false → s.c ≠ 0
def Eff {α : Type} (op : Nat → PR α) (s s' : RS) (R : α → Prop) : Prop :=
  match s with
  | .bad p x=>s'=.bad p x
  | .ok p=>match op p with
    | .ok (v,p')=>s'=.ok p'∧R v
    | .error x=>∃ q,s'=.bad q x
theorem Eff.imp {α : Type} {f : Nat → PR α} {s s' : RS} {R Q : α → Prop} (h : Eff f s s' R) (hi : ∀ a, R a → Q a) : Eff f s s' Q := by
  cases s with
  | bad p x=>exact h
  | ok p =>
    simp only [Eff] at h ⊢
    split at h
    · exact ⟨h.1,hi _ h.2⟩
    · exact h
theorem Eff.pure {α : Type} {v : α} (s : RS) : Eff (fun p => (.ok (v, p) : PR α)) s s (fun a => a = v) := by cases s <;> simp [Eff]
theorem Eff.bad {α : Type} {f : Nat → PR α} {p : Nat} {x : Nat × Nat} {R : α → Prop} : Eff f (.bad p x) (.bad p x) R := rfl
abbrev Chg (b : Nat) (w w' : World) : Prop := Step (fun k => k = b) (fun k => k = b) w w'
section
variable {b : Nat} {w w' w1 w2 : World}
theorem Chg.refl (b : Nat) (w : World) : Chg b w w := Step.refl _ _
theorem Chg.below (h : Below w.heap.size w w') : Chg b w w' := ⟨h.os, h.tape, h.output, h.size, fun k hk _ => h.block k hk, fun k hk => .inl hk⟩
theorem Chg.set (w : World) (o : Nat) (v : Value) (h : b < w.heap.size) : Chg b w (w.setCell ⟨b, o, none⟩ v) :=
  ⟨rfl,rfl,rfl,by simp,fun k _ hk=>Below.heap_setCell _ _ _ _ hk,fun k hk=>.inl hk⟩
theorem Chg.keep {α : Type} {A : Lay α} {O : Nat → Prop} {x : α} {cs : List Value} (h : A.In w O x cs) (c : Chg b w w') (ho : ∀ k, O k → k ≠ b) : A.In w' O x cs :=
  A.keep (fun k hO hk=>c.block k hk (ho k hO)) (fun _ h _=>h) h
theorem Chg.last {s : Nat} (h : Below s w w1) (c : Chg b w1 w2) (hs : s ≤ b) (hs1 : s ≤ w1.heap.size) : Below s w w2 :=
  ⟨c.os.trans h.os,c.tape.trans h.tape,c.output.trans h.output,Nat.le_trans h.size c.size,fun k hk=>(c.block k (by omega) (by omega)).trans (h.block k hk)⟩
end
structure RAt (w : World) (b : Nat) (l : List Tk) (e : Nat) (s : RS) : Prop where
  blk:∃ p cap,Blk w b #[.slice p l.length cap,.int .i64 e,.int .i64 s.at_,.int .i64 s.c,.int .i64 s.a] 62∧tkL.list.In w (fun g=>g<b) l [.slice p l.length cap]
  le:s.at_≤l.length
  len:l.length≤40000
  fair:s.fair
  rng:∀ x∈l,-9223372036854775808≤x.n∧x.n≤9223372036854775807
section
variable {b e : Nat} {w w' : World} {l : List Tk} {s : RS}
theorem RAt.lt (h : RAt w b l e s) : b < w.heap.size := by obtain ⟨p, cap, h1, _⟩ := h.blk; exact h1.lt
theorem RAt.below (h : RAt w b l e s) (hb : Below w.heap.size w w') : RAt w' b l e s := by
  obtain ⟨p,cap,h1,h2⟩:=h.blk
  exact ⟨⟨p,cap,h1.below hb,Lay.below h2 hb⟩,h.le,h.len,h.fair,h.rng⟩
theorem RAt.on {p : Nat} (h : RAt w b l e (.ok p)) (hp : p < l.length) : RAt (w.setCell ⟨b, 2, none⟩ (.int .i64 ((p : Int) + 1))) b l e (.ok (p + 1)) := by
  obtain ⟨q,cap,h1,h2⟩:=h.blk
  refine ⟨⟨q,cap,?_,Lay.setCell h2 (by simp) _⟩,hp,h.len,fun h0=>(by cases h0),h.rng⟩
  have:=blockSet h1 2 (.int .i64 ((p:Int)+1))
  simpa [RS.at_,RS.c,RS.a] using this
theorem RAt.fault {p : Nat} (h : RAt w b l e (.ok p)) (x : Nat × Nat) (hx : x.1 ≠ 0) : RAt ((w.setCell ⟨b, 3, none⟩ (.int .i64 x.1)).setCell ⟨b, 4, none⟩ (.int .i64 x.2)) b l e (.bad p x) := by
  obtain ⟨q,cap,h1,h2⟩:=h.blk
  refine ⟨⟨q,cap,?_,Lay.setCell (Lay.setCell h2 (by simp) _) (by simp) _⟩,h.le,h.len,fun _=>hx,h.rng⟩
  have:=blockSet (blockSet h1 3 (.int .i64 x.1)) 4 (.int .i64 x.2)
  simpa [RS.at_,RS.c,RS.a] using this
end
abbrev ptrP (b : Nat) : Value := .pointer (some ⟨b, 0, none⟩)
structure PAt (w : World) (b : Nat) (l : List Tk) (e : Nat) (p : Nat) : Prop where
  blk:∃ a c,Blk w b #[.slice a (l.drop p).length c,.int .i64 e] 103∧tkL.list.In w (fun g=>g<b) (l.drop p) [.slice a (l.drop p).length c]∧(l.drop p).length≤c
  le:p≤l.length
  len:l.length≤40000
  fine:∀ x∈l,x.fine
section
variable {b e p : Nat} {w w' : World} {l : List Tk}
theorem PAt.lt (h : PAt w b l e p) : b < w.heap.size := by obtain ⟨a, c, h1, _⟩ := h.blk; exact h1.lt
theorem PAt.below (h : PAt w b l e p) (hb : Below w.heap.size w w') : PAt w' b l e p := by
  obtain ⟨a,c,h1,h2,h3⟩:=h.blk
  exact ⟨⟨a,c,h1.below hb,Lay.below h2 hb,h3⟩,h.le,h.len,h.fine⟩
theorem PAt.keep (h : PAt w b l e p) (hk : ∀ k, k ≤ b → w'.heap[k]? = w.heap[k]?) : PAt w' b l e p := by
  obtain ⟨a,c,h1,h2,h3⟩:=h.blk
  exact ⟨⟨a,c,(hk b (Nat.le_refl _)).trans h1,Lay.keep _ (fun k hO _=>hk k (Nat.le_of_lt hO)) (fun _ h _=>h) h2,h3⟩,h.le,h.len,h.fine⟩
theorem PAt.set (h : PAt w b l e p) {q : Addr} (hq : b < q.block) (v : Value) : PAt (w.setCell q v) b l e p :=
  h.keep fun k hk=>Below.heap_setCell _ _ _ _ (by omega)
theorem PAt.grown (h : PAt w b l e p) {row : Option Nat} (g : w.grownBy w' row) (hr : ∀ k, row = some k → b < k) : PAt w' b l e p :=
  h.keep fun k hk=>g.block k (Nat.lt_of_le_of_lt hk h.lt) (fun e=>by have:=hr k e.symm;omega)
theorem PAt.none_left (h : PAt w b l e p) (hp : ¬ p < l.length) : ∃ a c, Blk w b #[.slice a 0 c, .int .i64 e] 103 := by
  obtain ⟨a,c,h1,_⟩:=h.blk
  rw [show (l.drop p).length=0 by simp;omega] at h1
  exact ⟨a,c,h1⟩
theorem PAt.tok (h : PAt w b l e p) {x : Tk} (hx : l[p]? = some x) : ∃ g o n c, Blk w b #[.slice (some ⟨g, o, none⟩) (n + 1) c, .int .i64 e] 103 ∧ n + 1 = l.length - p ∧ n + 1 ≤ c ∧ n < 40000 ∧ g < b ∧ w.cell? ⟨g, o, none⟩ = some (.int .i64 x.pos) ∧ w.cell? ⟨g, o + 1, none⟩ = some (.string (str x.text)) ∧ w.cell? ⟨g, o + 2, none⟩ = some (.bool x.num) ∧ w.cell? ⟨g, o + 3, none⟩ = some (.int .i64 x.n) := by
  obtain ⟨a,c,h1,h2,h3⟩:=h.blk
  have hlt:p<l.length:=(List.getElem?_eq_some_iff.1 hx).1
  have hx':(l.drop p)[0]?=some x:=by rw [List.getElem?_drop,Nat.add_zero];exact hx
  obtain ⟨g,o,ds,e1,e2,e3,hc,hd⟩:=Lay.list_at h2 hx'
  have hd':ds=x.cells:=hd
  subst hd';subst e1
  have hl:=h.len
  obtain ⟨n,hn⟩:∃ n,(l.drop p).length=n+1:=⟨l.length - p - 1,by simp;omega⟩
  rw [hn] at h1 h3
  have hn':n+1=l.length - p:=by rw [← hn];simp
  exact ⟨g,o,n,c,h1,hn',h3,by omega,e2,by simpa [Tk.cells] using hc 0 (by decide),by simpa [Tk.cells] using hc 1 (by decide),by simpa [Tk.cells] using hc 2 (by decide),by simpa [Tk.cells] using hc 3 (by decide)⟩
theorem PAt.on (h : PAt w b l e p) {g o n c : Nat} (hb : Blk w b #[.slice (some ⟨g, o, none⟩) (n + 1) c, .int .i64 e] 103) (hp : p < l.length) (v : Value) (hv : v = .slice (if c = 1 then some ⟨g, o, none⟩ else some ⟨g, o + 4, none⟩) n (c - 1)) : PAt (w.setCell ⟨b, 0, none⟩ v) b l e (p + 1) := by
  obtain ⟨a,c',h1,h2,h3⟩:=h.blk
  rw [Blk] at h1 hb
  rw [h1] at hb
  simp at hb
  obtain ⟨rfl,hn,rfl⟩:=hb
  have hlen:(l.drop p).length=n+1:=by simpa using hn
  have hlen1:(l.drop (p+1)).length=n:=by simp at hlen ⊢;omega
  refine ⟨⟨if c'=1 then some ⟨g,o,none⟩ else some ⟨g,o+4,none⟩,c' - 1,?_,?_,by omega⟩,by omega,h.len,h.fine⟩
  · have:=blockSet h1 0 v
    rw [hlen1]
    subst hv
    simpa [Blk] using this
  · rw [hlen1]
    refine ⟨_,_,by rw [hlen1],fun i x hx=>?_⟩
    have hx1:(l.drop p)[i+1]?=some x:=by rw [List.getElem?_drop] at hx ⊢;rw [← hx];congr 1;omega
    have hi:i+1<(l.drop p).length:=(List.getElem?_eq_some_iff.1 hx1).1
    obtain ⟨g',o',ds,e1,e2,e3,hc,hd⟩:=Lay.list_at h2 hx1
    injection e1 with e1
    injection e1 with e1 e4
    subst e1;subst e4
    refine ⟨g,o+4,ds,by rw [if_neg (by omega)],e2,by simpa using e3,fun j hj=>?_,hd⟩
    have h5:=hc j hj
    rw [World.cell?_of_block (w:=w) (w':=w.setCell ⟨b,0,none⟩ v) (a:=⟨g,o+4+i*tkL.size+j,none⟩) (Below.heap_setCell _ _ _ _ (by show g≠b;omega)),← h5]
    congr 2
    show o+4+i*4+j=o+(i+1)*4+j
    omega
end
abbrev gave (c a : Int) : List PanicEntry := [{ v := .iface 99 (.agg #[.int .i64 c, .int .i64 a]), recovered := false }]
def Out {α : Type} (b e : Nat) (l : List Tk) (r : PR α) (w : World) (V : World → α → Value → Prop) (en : Ending) (w' : World) : Prop :=
  (∃ v p' x,r=.ok (v,p')∧en=.returned x∧V w' v x∧PAt w' b l e p'∧Chg b w w')∨(∃ y c a,r=.error y∧en=.panicked (gave c a)∧c≠0∧Chg b w w')
theorem Out.good {α : Type} {b e : Nat} {l : List Tk} {r : PR α} {w w' : World} {V : World → α → Value → Prop} {v : α} {p' : Nat} {x : Value} (h : r = .ok (v, p')) (hv : V w' v x) (hp : PAt w' b l e p') (hk : Chg b w w') : Out b e l r w V (.returned x) w' := .inl ⟨v, p', x, h, rfl, hv, hp, hk⟩
theorem Out.bad {α : Type} {b e : Nat} {l : List Tk} {r : PR α} {w w' : World} {V : World → α → Value → Prop} {y : Nat × Nat} {c a : Int} (h : r = .error y) (hc : c ≠ 0) (hk : Chg b w w') : Out b e l r w V (.panicked (gave c a)) w' := .inr ⟨y, c, a, h, rfl, hc, hk⟩
def VUnit : World → Unit → Value → Prop := fun _ _ x => x = .tuple #[]
def VInt : World → Int → Value → Prop := fun _ v x => x = .int .i64 v ∧ 0 ≤ v ∧ v ≤ 1000000
def VLong : World → Int → Value → Prop := fun _ v x => x = .int .i64 v ∧ -9223372036854775808 ≤ v ∧ v ≤ 9223372036854775807
end Go.Proofs.YtalfbnllodhkiacGreatDoor
namespace Go.Proofs.YtalfbnllodhkiacGreatDoor
open Go.ChangeShapes Go.WideShapes Go.ChangeAt Go.RowKit Go.Shelf
set_option linter.unusedSimpArgs false
set_option linter.unusedVariables false
def nextTk (l : List Tk) (p : Nat) : Tk := (l[p]?).getD ⟨0, [], false, 0⟩
theorem nextTk_some {l : List Tk} {p : Nat} {x : Tk} (h : l[p]? = some x) : nextTk l p = x := by simp [nextTk, h]
theorem nextTk_none {l : List Tk} {p : Nat} (h : ¬ p < l.length) : nextTk l p = ⟨0, [], false, 0⟩ := by
  have:l[p]?=none:=List.getElem?_eq_none (by omega)
  simp [nextTk,this]
theorem nextTk_text (l : List Tk) (p : Nat) : (nextTk l p).text = nextT l p := by
  unfold nextTk nextT
  cases l[p]? <;> rfl
theorem next_any {w : World} {b e p : Nat} {l : List Tk} (h : PAt w b l e p) :
    Calls Tryz.prog 166 #[ptrP b] w fun en w'=>en=.returned (.agg #[.int .i64 (nextTk l p).pos,.string (str (nextTk l p).text),.bool (nextTk l p).num,.int .i64 (nextTk l p).n])∧Below w.heap.size w w':=by
  have hbw:=h.lt
  by_cases hlt:p<l.length
  · have hx:l[p]?=some l[p]:=List.getElem?_eq_getElem hlt
    generalize l[p]=x at hx
    rw [nextTk_some hx]
    obtain ⟨g,o,n,c,h1,hn,hc,hn4,hg,d0,d1,d2,d3⟩:=h.tok hx
    have hgw:g<w.heap.size:=by omega
    have y0:=cellOf h1 0 _ rfl
    have hpos:(0:Int)<(n:Int)+1:=by omega
    have hne:¬ (n:Int)+1=0:=by omega
    clear h h1 hx hn hc hlt
    go_enter Tryz.func166,Tryz.ntmps166
    go_wp2
    exact bodyPost_ret (v:=.agg #[.int .i64 x.pos,.string (str x.text),.bool x.num,.int .i64 x.n]) (by simp [results,Tryz.results166,go_sem]) rfl ⟨rfl,bel1 _ _⟩
  · rw [nextTk_none hlt]
    obtain ⟨a,c,h1⟩:=h.none_left hlt
    have y0:=cellOf h1 0 _ rfl
    clear h h1 hlt
    go_enter Tryz.func166,Tryz.ntmps166
    go_wp2
    exact bodyPost_ret (v:=.agg #[.int .i64 0,.string ⟨#[]⟩,.bool false,.int .i64 0]) (by simp [results,Tryz.results166,go_sem]) rfl ⟨rfl,bel1 _ _⟩
theorem take_any {w : World} {b e p : Nat} {l : List Tk} (h : PAt w b l e p) (hlt : p < l.length) :
    Calls Tryz.prog 167 #[ptrP b] w fun en w'=>en=.returned (.tuple #[])∧PAt w' b l e (p+1)∧Chg b w w':=by
  have hbw:=h.lt
  have hx:l[p]?=some l[p]:=List.getElem?_eq_getElem hlt
  generalize l[p]=x at hx
  obtain ⟨g,o,n,c,h1,hn,hc,hn4,hg,d0,d1,d2,d3⟩:=h.tok hx
  have O:Hid (∀ v,v=.slice (if c=1 then some ⟨g,o,none⟩ else some ⟨g,o+4,none⟩) n (c - 1)→PAt (w.setCell ⟨b,0,none⟩ v) b l e (p+1)):=fun v hv=>h.on h1 hlt v hv
  have K:Hid (∀ v,Chg b w (w.setCell ⟨b,0,none⟩ v)):=fun v=>Chg.set w 0 v hbw
  have y0:=cellOf h1 0 _ rfl
  have z0:=freeOf h1 0
  clear h h1 hx hn d0 d1 d2 d3 hlt
  go_enter Tryz.func167,Tryz.ntmps167
  go_wp2
  all_goals exact bodyPost_end (v:=.tuple #[]) (by simp [results,Tryz.results167,go_sem]) rfl ⟨rfl,O.out _ (by simp [h]),K.out _⟩
theorem giveUp_any {w : World} {b e p : Nat} {l : List Tk} (c0 : Int) (hc0 : c0 ≠ 0) (h : PAt w b l e p) :
    Calls Tryz.prog 161 #[ptrP b,.int .i64 c0] w fun en w'=>(∃ c a:Int,en=.panicked (gave c a)∧c≠0)∧w'=w:=by
  have hbw:=h.lt
  by_cases hlt:p<l.length
  · have hx:l[p]?=some l[p]:=List.getElem?_eq_getElem hlt
    generalize l[p]=x at hx
    obtain ⟨g,o,n,c,h1,hn,hc,hn4,hg,d0,d1,d2,d3⟩:=h.tok hx
    have y0:=cellOf h1 0 _ rfl
    have hpos:(0:Int)<(n:Int)+1:=by omega
    have hne:¬ (n:Int)+1=0:=by omega
    have HC:Hid (c0≠0):=hc0
    clear h h1 hx hn hc hlt d1 d2 d3 hc0
    go_enter Tryz.func161,Tryz.ntmps161
    go_wp2
    exact ⟨rfl,⟨_,_,rfl,HC.out⟩,rfl⟩
  · obtain ⟨a,c,h1⟩:=h.none_left hlt
    have y0:=cellOf h1 0 _ rfl
    have y1:=cellOf h1 1 _ rfl
    clear h h1 hlt hc0
    go_enter Tryz.func161,Tryz.ntmps161
    go_wp2
    exact ⟨rfl,⟨_,_,rfl,by decide⟩,rfl⟩
theorem fldText (a k : Int) (t : ByteArray) (n : Bool) (w : World) : (Instr.field 96 (.agg #[.int .i64 a, .string t, .bool n, .int .i64 k]) 1).run Tryz.prog w = .ok (.string t) w := by kernel_rfl
def TookOut (b e : Nat) (l : List Tk) (p : Nat) (r : Bool) (w : World) (en : Ending) (w' : World) : Prop := en = .returned (.bool r) ∧ PAt w' b l e (if r = true then p + 1 else p) ∧ Chg b w w'
theorem took_any {w : World} {b e p : Nat} {l : List Tk} (t : List UInt8) (ht : wordly t = true) (h : PAt w b l e p) :
    Calls Tryz.prog 132 #[ptrP b,.string (str t)] w fun en w'=>TookOut b e l p (isW l t p) w en w':=by
  have hi:=isW_next (p:=p) ht h.fine
  have hte:=nextTk_text l p
  have H:Hid (PAt w b l e p):=h
  have C:Hid (Calls Tryz.prog 166 #[ptrP b] w fun en w'=>en=.returned (.agg #[.int .i64 (nextTk l p).pos,.string (str (nextTk l p).text),.bool (nextTk l p).num,.int .i64 (nextTk l p).n])∧Below w.heap.size w w'):=next_any h
  generalize nextTk l p=x at hte C
  by_cases hx:x.text=t
  · have hw:isW l t p=true:=by rw [hi,← hte];simpa using hx
    have hlt:Hid (p<l.length):=by obtain ⟨y,hy⟩:=isW_some hw;exact lt_of_tok hy
    have hq:((str x.text).toList==(str t).toList)=true:=by rw [str_beq];simpa using hx
    rw [hw]
    clear h hi hte ht hx hw
    have hfl:=fldText x.pos x.n (str x.text) x.num
    go_enter Tryz.func132,Tryz.ntmps132
    go_wp2_with fail
    refine C.out.mono ?_
    rintro e' w2 ⟨rfl,b2⟩
    have H2:Hid (PAt w2 b l e p):=H.out.below b2
    have K2:Hid (Chg b w w2):=Chg.below b2
    clear C b2 H
    go_wp2_with (go_at_call 167;refine (take_any H2.out hlt.out).mono ?_;rintro e' w3 ⟨rfl,h3,k3⟩;have H3:Hid _:=h3;have K3:Hid _:=k3;clear h3 k3)
    go_ret
    exact ⟨rfl,H3.out,K2.out.trans K3.out⟩
  · have hw:isW l t p=false:=by rw [hi,← hte];simpa using hx
    have hq:((str x.text).toList==(str t).toList)=false:=by rw [str_beq];simpa using hx
    rw [hw]
    clear h hi hte ht hx hw
    have hfl:=fldText x.pos x.n (str x.text) x.num
    go_enter Tryz.func132,Tryz.ntmps132
    go_wp2_with fail
    refine C.out.mono ?_
    rintro e' w2 ⟨rfl,b2⟩
    have H2:Hid (PAt w2 b l e p):=H.out.below b2
    have K2:Hid (Chg b w w2):=Chg.below b2
    clear C b2 H
    go_wp2
    go_ret
    exact ⟨rfl,H2.out,K2.out⟩
theorem pmust_any {w : World} {b e p : Nat} {l : List Tk} (t : List UInt8) (ht : wordly t = true) (h : PAt w b l e p) :
    Calls Tryz.prog 129 #[ptrP b,.string (str t)] w fun en w'=>Out b e l (mustP l e t p) w VUnit en w':=by
  have C:Hid (Calls Tryz.prog 132 #[ptrP b,.string (str t)] w fun en w'=>TookOut b e l p (isW l t p) w en w'):=took_any t ht h
  cases hw:isW l t p with
  | true =>
    rw [hw] at C
    have hm:Hid (mustP l e t p=.ok ((),p+1)):=by show _=_;simp [mustP,hw]
    clear h ht hw
    go_enter Tryz.func129,Tryz.ntmps129
    go_wp2_with fail
    refine C.out.mono ?_
    rintro e' w2 ⟨rfl,h2,k2⟩
    have H2:Hid (PAt w2 b l e (p+1)):=h2
    have K2:Hid (Chg b w w2):=k2
    clear C h2 k2
    go_wp2
    exact bodyPost_end (v:=.tuple #[]) (by simp [results,Tryz.results129,go_sem]) rfl (Out.good hm.out rfl H2.out K2.out)
  | false =>
    rw [hw] at C
    have hm:Hid (mustP l e t p=.error (wrongAt l e 4 p)):=by show _=_;simp [mustP,hw]
    clear h ht hw
    go_enter Tryz.func129,Tryz.ntmps129
    go_wp2_with fail
    refine C.out.mono ?_
    rintro e' w2 ⟨rfl,h2,k2⟩
    have H2:Hid (PAt w2 b l e p):=h2
    have K2:Hid (Chg b w w2):=k2
    clear C h2 k2
    go_wp2_with (go_at_call 161;refine (giveUp_any 4 (by decide) H2.out).mono ?_;rintro e' w3 ⟨⟨c,a,rfl,hc⟩,rfl⟩)
    exact ⟨rfl,Out.bad hm.out hc K2.out⟩
theorem nextTk_num {l : List Tk} {p : Nat} (h : (nextTk l p).num = true) : l[p]? = some (nextTk l p) := by
  unfold nextTk at h ⊢
  cases hx:l[p]? with
  | none=>rw [hx] at h;cases h
  | some x=>rfl
theorem long_yes {l : List Tk} {e p : Nat} (h : (nextTk l p).num = true) : longP l e p = .ok ((nextTk l p).n, p + 1) := by
  have hx:=nextTk_num h
  simp only [longP,hx,h,if_true]
theorem long_no {l : List Tk} {e p : Nat} (h : (nextTk l p).num = false) : longP l e p = .error (wrongAt l e 4 p) := by
  unfold nextTk at h
  unfold longP
  cases hx:l[p]? with
  | none=>rfl
  | some x=>rw [hx] at h;simp at h;simp [h]
theorem num_out {l : List Tk} {e p : Nat} (h : (nextTk l p).num = true) (hn : (nextTk l p).n < 0 ∨ 1000000 < (nextTk l p).n) : ∃ x, numP l e p = .error x := by
  have hx:=nextTk_num h
  simp only [numP,hx]
  rw [if_pos ⟨h,hn⟩]
  exact ⟨_,rfl⟩
theorem num_in {l : List Tk} {e p : Nat} (h : (nextTk l p).num = false ∨ ¬ ((nextTk l p).n < 0 ∨ 1000000 < (nextTk l p).n)) : numP l e p = longP l e p := by
  unfold numP
  unfold nextTk at h
  cases hx:l[p]? with
  | none=>rfl
  | some x =>
    rw [hx] at h
    simp only [Option.getD_some] at h
    simp only
    rw [if_neg]
    rintro ⟨h1,h2⟩
    rcases h with h | h
    · rw [h] at h1;cases h1
    · exact h h2
theorem Blk.chg {w w' : World} {b B : Nat} {c : Array Value} {t : TypeId} (h : Blk w B c t) (k : Chg b w w') (hb : B ≠ b) : Blk w' B c t := (k.block B h.lt hb).trans h
theorem plong_any {w : World} {b e p : Nat} {l : List Tk} (h : PAt w b l e p) :
    Calls Tryz.prog 196 #[ptrP b] w fun en w'=>Out b e l (longP l e p) w VLong en w':=by
  have H:Hid (PAt w b l e p):=h
  have hbw:=h.lt
  have C:Hid (Calls Tryz.prog 166 #[ptrP b] w fun en w'=>en=.returned (.agg #[.int .i64 (nextTk l p).pos,.string (str (nextTk l p).text),.bool (nextTk l p).num,.int .i64 (nextTk l p).n])∧Below w.heap.size w w'):=next_any h
  cases hn:(nextTk l p).num with
  | true =>
    have hm:Hid (longP l e p=.ok ((nextTk l p).n,p+1)):=long_yes hn
    have hx:=nextTk_num hn
    have hlt:Hid (p<l.length):=lt_of_tok hx
    have hr:Hid (-9223372036854775808≤(nextTk l p).n∧(nextTk l p).n≤9223372036854775807):=(h.fine _ (List.mem_of_getElem? hx)).rng
    generalize nextTk l p=x at hn hm hr C
    rw [hn] at C
    clear h hx
    go_enter Tryz.func196,Tryz.ntmps196
    go_wp2_with fail
    refine C.out.mono ?_
    rintro e' w2 ⟨rfl,b2⟩
    have hs2:=b2.size
    have H2:Hid (PAt w2 b l e p):=H.out.below b2
    have K2:Hid (Chg b w w2):=Chg.below b2
    clear C b2 H
    go_wp2_with fail
    have B3:Hid (Blk (w2.alloc (.cells #[.int .i64 x.pos,.string (str x.text),.bool true,.int .i64 x.n] 96)) w2.heap.size #[.int .i64 x.pos,.string (str x.text),.bool true,.int .i64 x.n] 96):=Blk.new _ _ _
    have H3:Hid (PAt (w2.alloc (.cells #[.int .i64 x.pos,.string (str x.text),.bool true,.int .i64 x.n] 96)) b l e p):=H2.out.below (bel1 _ _)
    have K3:Hid (Chg b w (w2.alloc (.cells #[.int .i64 x.pos,.string (str x.text),.bool true,.int .i64 x.n] 96))):=K2.out.trans (Chg.below (bel1 _ _))
    generalize w2.alloc (.cells #[.int .i64 x.pos,.string (str x.text),.bool true,.int .i64 x.n] 96)=w3 at B3 H3 K3 ⊢
    refine (take_any H3.out hlt.out).mono ?_
    rintro e' w4 ⟨rfl,h4,k4⟩
    have B4:=B3.out.chg k4 (by omega)
    have y3:=cellOf B4 3 _ rfl
    have H4:Hid _:=h4
    have K4:Hid (Chg b w w4):=K3.out.trans k4
    clear B3 H3 K3 h4 k4 H2 K2 B4
    go_wp2
    go_ret
    exact Out.good hm.out ⟨rfl,hr.out⟩ H4.out K4.out
  | false =>
    have hm:Hid (longP l e p=.error (wrongAt l e 4 p)):=long_no hn
    generalize nextTk l p=x at hn C
    rw [hn] at C
    clear h
    go_enter Tryz.func196,Tryz.ntmps196
    go_wp2_with fail
    refine C.out.mono ?_
    rintro e' w2 ⟨rfl,b2⟩
    have hs2:=b2.size
    have H2:Hid (PAt w2 b l e p):=H.out.below b2
    have K2:Hid (Chg b w w2):=Chg.below b2
    clear C b2 H
    go_wp2_with fail
    refine (giveUp_any 4 (by decide) (H2.out.below (bel1 _ _))).mono ?_
    rintro e' w3 ⟨⟨c,a,rfl,hc⟩,rfl⟩
    exact ⟨rfl,Out.bad hm.out hc (K2.out.trans (Chg.below (bel1 _ _)))⟩
theorem pnum_any {w : World} {b e p : Nat} {l : List Tk} (h : PAt w b l e p) :
    Calls Tryz.prog 162 #[ptrP b] w fun en w'=>Out b e l (numP l e p) w VInt en w':=by
  have H:Hid (PAt w b l e p):=h
  have hbw:=h.lt
  have C:Hid (Calls Tryz.prog 166 #[ptrP b] w fun en w'=>en=.returned (.agg #[.int .i64 (nextTk l p).pos,.string (str (nextTk l p).text),.bool (nextTk l p).num,.int .i64 (nextTk l p).n])∧Below w.heap.size w w'):=next_any h
  have inn:(nextTk l p).num=false∨¬ ((nextTk l p).n<0∨1000000<(nextTk l p).n)→∀ {en w1 w'},Chg b w w1→Out b e l (longP l e p) w1 VLong en w'→Out b e l (numP l e p) w VInt en w':=by
    intro hc en w1 w' k hO
    have hne:=num_in (e:=e) hc
    rcases hO with ⟨v,p',x,hr,he,hv,hp,hk⟩ | ⟨y,c,a,hr,he,hc0,hk⟩
    · rw [hr] at hne
      exact .inl ⟨v,p',x,hne,he,⟨hv.1,num_has _ _ _ hne⟩,hp,k.trans hk⟩
    · rw [hr] at hne
      exact .inr ⟨y,c,a,hne,he,hc0,k.trans hk⟩
  cases hn:(nextTk l p).num with
  | true =>
    by_cases h0:(nextTk l p).n<0
    · obtain ⟨y,hy⟩:=num_out (e:=e) hn (.inl h0)
      have hm:Hid (numP l e p=.error y):=hy
      clear inn hy
      generalize nextTk l p=x at hn C h0
      rw [hn] at C
      clear h
      go_enter Tryz.func162,Tryz.ntmps162
      go_wp2_with fail
      refine C.out.mono ?_
      rintro e' w2 ⟨rfl,b2⟩
      have H2:Hid (PAt w2 b l e p):=H.out.below b2
      have K2:Hid (Chg b w w2):=Chg.below b2
      clear C b2 H
      go_wp2_with fail
      refine (giveUp_any 8 (by decide) (H2.out.below (bel1 _ _))).mono ?_
      rintro e' w3 ⟨⟨c,a,rfl,hc⟩,rfl⟩
      exact ⟨rfl,Out.bad hm.out hc (K2.out.trans (Chg.below (bel1 _ _)))⟩
    · by_cases h1:1000000<(nextTk l p).n
      · obtain ⟨y,hy⟩:=num_out (e:=e) hn (.inr h1)
        have hm:Hid (numP l e p=.error y):=hy
        clear inn hy
        generalize nextTk l p=x at hn C h0 h1
        rw [hn] at C
        clear h
        go_enter Tryz.func162,Tryz.ntmps162
        go_wp2_with fail
        refine C.out.mono ?_
        rintro e' w2 ⟨rfl,b2⟩
        have H2:Hid (PAt w2 b l e p):=H.out.below b2
        have K2:Hid (Chg b w w2):=Chg.below b2
        clear C b2 H
        go_wp2_with fail
        refine (giveUp_any 8 (by decide) (H2.out.below (bel1 _ _))).mono ?_
        rintro e' w3 ⟨⟨c,a,rfl,hc⟩,rfl⟩
        exact ⟨rfl,Out.bad hm.out hc (K2.out.trans (Chg.below (bel1 _ _)))⟩
      · have I:Hid (∀ {en w1 w'},Chg b w w1→Out b e l (longP l e p) w1 VLong en w'→Out b e l (numP l e p) w VInt en w'):=inn (.inr (fun h=>by rcases h with h | h <;> omega))
        clear inn
        generalize nextTk l p=x at hn C h0 h1
        rw [hn] at C
        clear h
        go_enter Tryz.func162,Tryz.ntmps162
        go_wp2_with fail
        refine C.out.mono ?_
        rintro e' w2 ⟨rfl,b2⟩
        have H2:Hid (PAt w2 b l e p):=H.out.below b2
        have K2:Hid (Chg b w w2):=Chg.below b2
        clear C b2 H
        go_wp2_with fail
        refine (plong_any (H2.out.below (bel1 _ _))).mono ?_
        intro e' w3 hO
        have R:=I.out (K2.out.trans (Chg.below (bel1 _ _))) hO
        rcases hO with ⟨v,p',x',hr,rfl,hv,hp,hk⟩ | ⟨y,c,a,hr,rfl,hc0,hk⟩
        · obtain ⟨rfl,_⟩:=hv
          have R':Hid _:=R
          clear R hp hk hr
          go_wp2
          go_ret
          exact R'.out
        · exact ⟨rfl,R⟩
  | false =>
    have I:Hid (∀ {en w1 w'},Chg b w w1→Out b e l (longP l e p) w1 VLong en w'→Out b e l (numP l e p) w VInt en w'):=inn (.inl hn)
    clear inn
    generalize nextTk l p=x at hn C
    rw [hn] at C
    clear h
    go_enter Tryz.func162,Tryz.ntmps162
    go_wp2_with fail
    refine C.out.mono ?_
    rintro e' w2 ⟨rfl,b2⟩
    have H2:Hid (PAt w2 b l e p):=H.out.below b2
    have K2:Hid (Chg b w w2):=Chg.below b2
    clear C b2 H
    go_wp2_with fail
    refine (plong_any (H2.out.below (bel1 _ _))).mono ?_
    intro e' w3 hO
    have R:=I.out (K2.out.trans (Chg.below (bel1 _ _))) hO
    rcases hO with ⟨v,p',x',hr,rfl,hv,hp,hk⟩ | ⟨y,c,a,hr,rfl,hc0,hk⟩
    · obtain ⟨rfl,_⟩:=hv
      have R':Hid _:=R
      clear R hp hk hr
      go_wp2
      go_ret
      exact R'.out
    · exact ⟨rfl,R⟩
theorem enters_num : Enters 162 := fun _ _ => by kernel_rfl
theorem enters_types1 : Enters 164 := fun _ _ => by kernel_rfl
theorem str_nil : (str []).toList.isEmpty = true := by rw [Lib.toList_data, str_list]; rfl
theorem str_cons {t : List UInt8} (h : t ≠ []) : (str t).toList.isEmpty = false := by
  rw [Lib.toList_data,str_list]
  simpa using h
theorem pwhich_any {w : World} {b e p : Nat} {l : List Tk} (F : Nat) (ws : List (List UInt8)) (hE : Enters F) (hF0 : WordFn F ws) (hw0 : ∀ t ∈ ws, wordly t = true) (hn : ws.length ≤ 1000) (h : PAt w b l e p) :
    Calls Tryz.prog 168 #[ptrP b,.func (.func F) #[] #[]] w fun en w'=>en=.returned (.int .i64 (whichP l ws p))∧Below w.heap.size w w':=by
  have H:Hid (PAt w b l e p):=h
  have HF:Hid (WordFn F ws):=hF0
  have HW:Hid (∀ t∈ws,isW l t p=decide (nextT l p=t)∧t≠[]):=fun t ht=>⟨isW_next (hw0 t ht) h.fine,fun e=>by have:=hw0 t ht;rw [e] at this;cases this⟩
  unfold Enters at hE
  clear h hF0 hw0
  go_enter Tryz.func168,Tryz.ntmps168
  go_wp2_with fail
  go_loopw [5] (fun v wr=>∃ k:Nat,v=.int .i64 ((k:Int)+1)∧k≤ws.length∧Below w.heap.size w wr∧∀ (j:Nat) (t:List UInt8),j<k→ws[j]?=some t→isW l t p=false) (fun v _=>ws.length+1 - (intOf v).toNat)
  case atStart=>exact ⟨0,rfl,Nat.zero_le _,Below.refl _ _,fun j t hj=>by omega⟩
  case round =>
    obtain ⟨k,rfl,hk,hb,hj⟩:=hrel
    have B:Hid (Below w.heap.size w wr):=hb
    have J:Hid (∀ (j:Nat) (t:List UInt8),j<k→ws[j]?=some t→isW l t p=false):=hj
    clear hb hj
    go_wp2_with fail
    refine (HF.out _ wr).mono ?_
    rintro e' w2 ⟨rfl,b2⟩
    have B2:Hid (Below w.heap.size w w2):=Below.andThen B.out b2
    by_cases hlt:k<ws.length
    · obtain ⟨t,ht⟩:∃ t,ws[k]?=some t:=⟨_,List.getElem?_eq_getElem hlt⟩
      have hwa:wordAt ws ((k:Int)+1)=t:=by rw [wordAt,if_neg (by omega),List.getD_eq_getElem?_getD,show ((k:Int)+1).toNat - 1=k by omega,ht];rfl
      have HT:Hid (ws[k]?=some t):=ht
      obtain ⟨hi,hne⟩:=HW.out t (List.mem_of_getElem? ht)
      have hq0:(str t).toList.isEmpty=false:=str_cons hne
      have HWA:Hid (wordAt ws ((k:Int)+1)=t):=hwa
      rw [hwa]
      clear b2 B ht hwa hne
      go_wp2_with fail
      have H2:Hid (PAt w2 b l e p):=H.out.below (B2.out.mono (Nat.le_refl _))
      refine (next_any H2.out).mono ?_
      rintro e' w3 ⟨rfl,b3⟩
      have B3:Hid (Below w.heap.size w w3):=Below.andThen B2.out b3
      have hfl:=fldText (nextTk l p).pos (nextTk l p).n (str (nextTk l p).text) (nextTk l p).num
      have hte:=nextTk_text l p
      clear B2 H2 b3
      generalize nextTk l p=x at hfl hte ⊢
      have HTE:Hid (x.text=nextT l p):=hte
      clear hte
      go_wp2_with fail
      refine (HF.out _ w3).mono ?_
      rintro e' w4 ⟨rfl,b4⟩
      have B4:Hid (Below w.heap.size w w4):=Below.andThen B3.out b4
      rw [HWA.out]
      clear B3 b4
      have hte:=HTE.out
      clear HTE
      by_cases hx:x.text=t
      · have hq:((str x.text).toList==(str t).toList)=true:=by rw [str_beq];simpa using hx
        have Z:Hid (whichP l ws p=k+1):=which_hit HT.out (by rw [hi,← hte];simpa using hx) J.out
        clear hx hte hi
        go_wp2_with fail
        go_ret
        exact ⟨by rw [Z.out];rfl,B4.out⟩
      · have hq:((str x.text).toList==(str t).toList)=false:=by rw [str_beq];simpa using hx
        have Z:Hid (∀ (j:Nat) (s:List UInt8),j<k+1→ws[j]?=some s→isW l s p=false):=fun j s hj hs=>by
          by_cases hjk:j=k
          · subst hjk
            rw [HT.out] at hs
            injection hs with hs
            subst hs
            rw [hi,← hte];simpa using hx
          · exact J.out j s (by omega) hs
        clear hx hte hi
        go_wp2_with fail
        go_roundw
        case rel=>exact ⟨k+1,by simp,hlt,B4.out,Z.out⟩
        case measure=>simp [intOf];omega
    · have hwa:wordAt ws ((k:Int)+1)=[]:=wordAt_high (by simp;omega)
      rw [hwa]
      have hq0:=str_nil
      have Z:Hid (whichP l ws p=0):=which_no fun j t hj=>J.out j t (by have:=(List.getElem?_eq_some_iff.1 hj).1;omega) hj
      clear b2 B hwa
      go_wp2_with fail
      go_ret
      exact ⟨by rw [Z.out];rfl,B2.out⟩
def WhichOut (k : Nat) (w : World) (en : Ending) (w' : World) : Prop := (k ≠ 0 ∧ en = .returned (.int .i64 k) ∧ Below w.heap.size w w') ∨ (k = 0 ∧ (∃ c a : Int, en = .panicked (gave c a) ∧ c ≠ 0) ∧ Below w.heap.size w w')
theorem pmustWhich_any {w : World} {b e p : Nat} {l : List Tk} (F : Nat) (ws : List (List UInt8)) (hE : Enters F) (hF0 : WordFn F ws) (hw0 : ∀ t ∈ ws, wordly t = true) (hn : ws.length ≤ 1000) (h : PAt w b l e p) :
    Calls Tryz.prog 197 #[ptrP b,.func (.func F) #[] #[]] w fun en w'=>WhichOut (whichP l ws p) w en w':=by
  have H:Hid (PAt w b l e p):=h
  have C:Hid (Calls Tryz.prog 168 #[ptrP b,.func (.func F) #[] #[]] w fun en w'=>en=.returned (.int .i64 (whichP l ws p))∧Below w.heap.size w w'):=pwhich_any F ws hE hF0 hw0 hn h
  have hle:whichP l ws p≤ws.length:=which_le ws
  generalize whichP l ws p=k at C hle ⊢
  clear h hF0 hw0 hE
  by_cases hk:k=0
  · subst hk
    go_enter Tryz.func197,Tryz.ntmps197
    go_wp2_with fail
    refine C.out.mono ?_
    rintro e' w2 ⟨rfl,b2⟩
    have B2:Hid (Below w.heap.size w w2):=b2
    clear b2 C
    go_wp2_with (go_at_call 161;refine (giveUp_any 4 (by decide) (H.out.below B2.out)).mono ?_;rintro e' w3 ⟨⟨c,a,rfl,hc⟩,rfl⟩)
    exact ⟨rfl,.inr ⟨rfl,⟨c,a,rfl,hc⟩,B2.out⟩⟩
  · have hk':¬ (k:Int)=0:=by omega
    go_enter Tryz.func197,Tryz.ntmps197
    go_wp2_with fail
    refine C.out.mono ?_
    rintro e' w2 ⟨rfl,b2⟩
    have B2:Hid (Below w.heap.size w w2):=b2
    clear b2 C
    go_wp2
    go_ret
    exact .inl ⟨hk,rfl,B2.out⟩
theorem opWords_wordly : ∀ t ∈ opWords, wordly t = true := by decide
theorem kindWords_wordly : ∀ t ∈ kindWords, wordly t = true := by decide
theorem typeWords_wordly : ∀ t ∈ typeWords, wordly t = true := by decide
theorem endWords_wordly : ∀ t ∈ endWords, wordly t = true := by decide
abbrev Chg2 (b B : Nat) (w w' : World) : Prop := Step (fun k => k = b ∨ k = B) (fun k => k = b ∨ k = B) w w'
section
variable {b B : Nat} {w w' w0 : World}
theorem Chg2.refl (b B : Nat) (w : World) : Chg2 b B w w := Step.refl _ _
theorem Chg2.of (h : Chg b w w') : Chg2 b B w w' := ⟨h.os, h.tape, h.output, h.size, fun k hk hn => h.block k hk (fun e => hn (.inl e)), fun k hk => .inl hk⟩
theorem Chg2.set (w : World) (o : Nat) (v : Value) : Chg2 b B w (w.setCell ⟨B, o, none⟩ v) :=
  ⟨rfl,rfl,rfl,by simp,fun k _ hk=>Below.heap_setCell _ _ _ _ (fun e=>hk (.inr e)),fun k hk=>.inl hk⟩
theorem Chg2.new (h : Chg b w0 w) (h2 : Chg2 b B w w') (hB : w0.heap.size ≤ B) : Chg b w0 w' :=
  ⟨h2.os.trans h.os,h2.tape.trans h.tape,h2.output.trans h.output,Nat.le_trans h.size h2.size,fun k hk hn=>(h2.block k (Nat.lt_of_lt_of_le hk h.size) (fun e=>by rcases e with e | e;exact hn e;omega)).trans (h.block k hk hn),fun k hk=>.inl hk⟩
theorem Blk.chg2 {g : Nat} {c : Array Value} {t : TypeId} (h : Blk w g c t) (k : Chg2 b B w w') (h1 : g ≠ b) (h2 : g ≠ B) : Blk w' g c t := (k.block g h.lt (fun e => by rcases e with e | e; exact h1 e; exact h2 e)).trans h
theorem Chg2.keep {α : Type} {A : Lay α} {O : Nat → Prop} {x : α} {cs : List Value} (h : A.In w O x cs) (c : Chg2 b B w w') (ho : ∀ k, O k → k < w.heap.size → k ≠ b ∧ k ≠ B) : A.In w' O x cs :=
  A.keep (fun k hO hk=>c.block k hk (fun e=>by rcases e with e | e;exact (ho k hO hk).1 e;exact (ho k hO hk).2 e)) (fun _ h _=>h) h
end
def numsP (l : List Tk) (e : Nat) : Nat → Nat → PR (List Int)
  | 0,p=>.ok ([],p)
  | n+1,p=>PR.andThen (numP l e p) fun x p1=>PR.andThen (numsP l e n p1) fun xs p2=>.ok (x::xs,p2)
def putAll (cs : Array Value) : List Nat → List Int → Array Value
  | o::os,x::xs=>putAll (cs.setIfInBounds o (.int .i64 x)) os xs
  | _,_=>cs
theorem PR.behind_nil {α : Type} (r : PR (List α)) : r.behind [] = r := by
  cases r with
  | error x=>rfl
  | ok y=>obtain ⟨ys,q⟩:=y;rfl
structure NumsQ (l : List Tk) (e : Nat) (offs : List Nat) (cs : Array Value) (p : Nat) (i : Nat) (pi : Nat) (ci : Array Value) (xs : List Int) : Prop where
  rest:numsP l e offs.length p=(numsP l e (offs.length - i) pi).behind xs
  put:∀ ys,putAll cs offs (xs++ys)=putAll ci (offs.drop i) ys
  size:ci.size=cs.size
  ok:∀ x∈xs,0≤x∧x≤1000000
section
variable {l : List Tk} {e p i pi : Nat} {offs : List Nat} {cs ci : Array Value} {xs : List Int}
theorem NumsQ.start : NumsQ l e offs cs p 0 p cs [] := ⟨by rw [PR.behind_nil]; rfl, fun ys => rfl, rfl, fun x h => by simp at h⟩
theorem NumsQ.bad {y : Nat × Nat} (h : NumsQ l e offs cs p i pi ci xs) (hi : i < offs.length) (hy : numP l e pi = .error y) : numsP l e offs.length p = .error y := by
  rw [h.rest,show offs.length - i=(offs.length - (i+1))+1 by omega,numsP,hy];rfl
theorem NumsQ.go {o : Nat} {v : Int} {p2 : Nat} (h : NumsQ l e offs cs p i pi ci xs) (ho : offs[i]? = some o) (hv : numP l e pi = .ok (v, p2)) : NumsQ l e offs cs p (i + 1) p2 (ci.setIfInBounds o (.int .i64 v)) (xs ++ [v]) := by
  have hi:i<offs.length:=(List.getElem?_eq_some_iff.1 ho).1
  refine ⟨?_,fun ys=>?_,by simpa using h.size,fun x hx=>?_⟩
  · rw [h.rest,show offs.length - i=(offs.length - (i+1))+1 by omega,numsP,hv,PR.ok_andThen]
    cases numsP l e (offs.length - (i+1)) p2 with
    | error x=>rfl
    | ok y=>obtain ⟨ys,q⟩:=y;simp [PR.behind,PR.andThen]
  · rw [List.append_assoc,h.put,List.singleton_append,List.drop_eq_getElem_cons hi,(List.getElem?_eq_some_iff.1 ho).2]
    rfl
  · rcases List.mem_append.1 hx with hx | hx
    · exact h.ok x hx
    · simp at hx;subst hx;exact num_has _ _ _ hv
theorem NumsQ.stop (h : NumsQ l e offs cs p i pi ci xs) (hi : ¬ i < offs.length) : numsP l e offs.length p = .ok (xs, pi) ∧ ci = putAll cs offs xs := by
  have h0:offs.length - i=0:=by omega
  refine ⟨by rw [h.rest,h0];simp [numsP,PR.behind],?_⟩
  have:=h.put []
  rw [List.append_nil,List.drop_of_length_le (by omega)] at this
  rw [this];cases ci;rfl
end
def NumsOut (b B e : Nat) (l : List Tk) (offs : List Nat) (cs : Array Value) (T : TypeId) (p : Nat) (w : World) (en : Ending) (w' : World) : Prop :=
  (∃ xs p',numsP l e offs.length p=.ok (xs,p')∧en=.returned (.tuple #[])∧(∀ x∈xs,0≤x∧x≤1000000)∧Blk w' B (putAll cs offs xs) T∧PAt w' b l e p'∧Chg2 b B w w')∨(∃ y c a,numsP l e offs.length p=.error y∧en=.panicked (gave c a)∧c≠0∧Chg2 b B w w')
theorem pnums_any {w : World} {b B g e p : Nat} {l : List Tk} {offs : List Nat} {cs : Array Value} {T : TypeId} {N : Nat} (h : PAt w b l e p) (hB : Blk w B cs T) (hg : Blk w g (offs.map (fun o => Value.pointer (some ⟨B, o, none⟩))).toArray 167) (hbB : b < B) (hgB : B ≠ g) (hbg : b < g) (ho : ∀ o ∈ offs, o < cs.size) (hN : offs.length = N) (hN3 : N ≤ 1000) :
    Calls Tryz.prog 130 #[ptrP b,.slice (some ⟨g,0,none⟩) N N] w fun en w'=>NumsOut b B e l offs cs T p w en w':=by
  have H:Hid (PAt w b l e p):=h
  have HB:Hid (Blk w B cs T):=hB
  have HG:Hid (Blk w g (offs.map (fun o=>Value.pointer (some ⟨B,o,none⟩))).toArray 167):=hg
  have HO:Hid (∀ o∈offs,o<cs.size):=ho
  have HN:Hid (offs.length=N):=hN
  clear h hB hg ho hN
  go_enter Tryz.func130,Tryz.ntmps130
  go_wp2_with fail
  go_loopw [8] (fun v wr=>∃ (i pi:Nat) (ci:Array Value) (xs:List Int),v=.int .i64 i∧i≤N∧NumsQ l e offs cs p i pi ci xs∧PAt wr b l e pi∧Blk wr B ci T∧Chg2 b B w wr) (fun v _=>N - (intOf v).toNat)
  case atStart=>exact ⟨0,p,cs,[],rfl,Nat.zero_le _,NumsQ.start,H.out,HB.out,Chg2.refl _ _ _⟩
  case round =>
    obtain ⟨i,pi,ci,xs,rfl,hi,hq,hp,hb,hk⟩:=hrel
    have Q:Hid (NumsQ l e offs cs p i pi ci xs):=hq
    have P:Hid (PAt wr b l e pi):=hp
    have B1:Hid (Blk wr B ci T):=hb
    have K:Hid (Chg2 b B w wr):=hk
    clear hq hp hb hk
    by_cases hlt:i<N
    · obtain ⟨o,ho⟩:∃ o,offs[i]?=some o:=⟨_,List.getElem?_eq_getElem (by rw [HN.out];exact hlt)⟩
      have HO1:Hid (offs[i]?=some o):=ho
      have hoc:Hid (o<ci.size):=by rw [Q.out.size];exact HO.out o (List.mem_of_getElem? ho)
      have hlt':(i:Int)<N:=by omega
      have y:wr.cell? ⟨g,i,none⟩=some (.pointer (some ⟨B,o,none⟩)):=cellOf (HG.out.chg2 K.out (by omega) (by omega)) i _ (by simp [ho])
      clear ho
      go_wp2_with fail
      refine (pnum_any P.out).mono ?_
      intro e' w3 hO
      rcases hO with ⟨v,p2,x,hr,rfl,⟨rfl,hv0,hv1⟩,hp2,hk2⟩ | ⟨y,c,a,hr,rfl,hc,hk2⟩
      · have B3:=B1.out.chg hk2 (by omega)
        obtain ⟨old,hold⟩:∃ u,ci[o]?=some u:=⟨_,Array.getElem?_eq_getElem hoc.out⟩
        have y3:=cellOf B3 o _ hold
        have z3:=freeOf B3 o
        have U:Hid (NumsQ l e offs cs p (i+1) p2 (ci.setIfInBounds o (.int .i64 v)) (xs++[v])∧PAt (w3.setCell ⟨B,o,none⟩ (.int .i64 v)) b l e p2∧Blk (w3.setCell ⟨B,o,none⟩ (.int .i64 v)) B (ci.setIfInBounds o (.int .i64 v)) T∧Chg2 b B w (w3.setCell ⟨B,o,none⟩ (.int .i64 v))) :=
          ⟨Q.out.go HO1.out hr,hp2.set hbB _,blockSet B3 o _,(K.out.trans (Chg2.of hk2)).trans (Chg2.set w3 o _)⟩
        clear Q P B1 K hr hp2 hk2 B3 hold HO1 y hoc
        go_wp2
        go_roundw
        case rel=>exact ⟨i+1,p2,_,_,by simp,hlt,U.out⟩
        case measure=>simp [intOf];omega
      · exact ⟨rfl,.inr ⟨y,c,a,Q.out.bad (by rw [HN.out];exact hlt) hr,rfl,hc,K.out.trans (Chg2.of hk2)⟩⟩
    · have hlt':¬ (i:Int)<N:=by omega
      have Z:=Q.out.stop (by rw [HN.out];exact hlt)
      have U:Hid (NumsOut b B e l offs cs T p w (.returned (.tuple #[])) wr):=.inl ⟨xs,pi,Z.1,rfl,Q.out.ok,by rw [← Z.2];exact B1.out,P.out,K.out⟩
      clear Z Q P B1 K
      go_wp2
      exact bodyPost_end (v:=.tuple #[]) (by simp [results,Tryz.results130,go_sem]) rfl U.out
theorem ARow.chgP {α : Type} {A : Lay α} {t : TypeId} {w w' : World} {lo b : Nat} {v : Value} {l : List α} {xs : List Value} (h : ARow A t w lo v l xs) (c : Chg b w w') (hb : b < lo) : ARow A t w' lo v l xs := by
  obtain ⟨⟨h1,h2⟩,h3⟩:=h
  refine ⟨⟨h1,?_⟩,fun i x hx=>Chg.keep (h3 i x hx) c (fun k hk=>by have:=hk.1;omega)⟩
  rcases h2 with h4 | ⟨g,cap,cur,e,hg,hh,r⟩
  · exact Or.inl h4
  · exact Or.inr ⟨g,cap,cur,e,hg,(c.block g (lt_of_block hh) (by omega)).trans hh,r⟩
theorem Chg.allocP {b : Nat} {w w' : World} (c : Chg b w w') (o : Obj) : Chg b w (w'.alloc o) := c.trans (Chg.below (bel1 _ _))
theorem Chg.grownP {b : Nat} {w w1 w2 : World} {row : Option Nat} (c : Chg b w w1) (g : w1.grownBy w2 row) (hr : ∀ k, row = some k → w.heap.size ≤ k) : Chg b w w2 :=
  ⟨g.os.trans c.os,g.tape.trans c.tape,g.output.trans c.output,Nat.le_trans c.size g.size,fun k hk hn=>(g.block k (Nat.lt_of_lt_of_le hk c.size) (fun e=>by have:=hr k e.symm;omega)).trans (c.block k hk hn),fun k hk=>.inl hk⟩
def lenP (v : Value) : Nat :=
  match v with
  | .slice _ n _=>n
  | _=>0
theorem ARow.formP {α : Type} {A : Lay α} {t : TypeId} {w : World} {lo : Nat} {v : Value} {l : List α} {xs : List Value} (h : ARow A t w lo v l xs) : ∃ a c, v = .slice a l.length c := by
  obtain ⟨a,c,e,_⟩:=h.lay
  simp at e
  exact ⟨a,c,e⟩
theorem pUnderI : Tryz.prog.underlying 43 = some (.slice 3) := by kernel_rfl
theorem pInfoI0 : (Tryz.prog.info? 3).map (fun i => (i.zero, i.size, i.bytes)) = some (some (.int .i64 0), 1, 8) := by kernel_rfl
theorem pInfoI : ∃ i, Tryz.prog.info? 3 = some i ∧ i.zero = some (.int .i64 0) ∧ i.size = 1 ∧ i.bytes = 8 := by
  have h:=pInfoI0
  cases e:Tryz.prog.info? 3 with
  | none=>rw [e] at h;cases h
  | some i =>
    rw [e] at h
    simp only [Option.map_some,Option.some.injEq,Prod.mk.injEq] at h
    exact ⟨i,rfl,h.1,h.2.1,h.2.2⟩
theorem pUnderT : Tryz.prog.underlying 39 = some (.slice 78) := by kernel_rfl
theorem pInfoT0 : (Tryz.prog.info? 78).map (fun i => (i.zero, i.size, i.bytes)) = some (some (.agg #[.int .i64 0, .int .i64 0, .slice none 0 0]), 3, 40) := by kernel_rfl
theorem pInfoT : ∃ i, Tryz.prog.info? 78 = some i ∧ i.zero = some (.agg #[.int .i64 0, .int .i64 0, .slice none 0 0]) ∧ i.size = 3 ∧ i.bytes = 40 := by
  have h:=pInfoT0
  cases e:Tryz.prog.info? 78 with
  | none=>rw [e] at h;cases h
  | some i =>
    rw [e] at h
    simp only [Option.map_some,Option.some.injEq,Prod.mk.injEq] at h
    exact ⟨i,rfl,h.1,h.2.1,h.2.2⟩
theorem newsP (w : World) (c : List Value) (t : TypeId) : ∀ (j : Nat) (u : Value), c[j]? = some u → (w.alloc (.cells c.toArray t)).cell? ((⟨w.heap.size, 0, none⟩ : Addr).add j) = some u := by
  intro j u h
  have h2:c.toArray[j]?=some u:=by simpa using h
  rw [Go.WideShapes.add_plain,Nat.zero_add]
  exact cellOf (blockNew w c.toArray t) j u h2
def VInts (w0 : World) : World → List Int → Value → Prop := fun w' xs x => ∃ a c, x = .slice a xs.length c ∧ intsL.In w' (fun g => w0.heap.size ≤ g) xs [.slice a xs.length c]
theorem pOneI (n : Int) : ∀ u ∈ [Value.int .i64 n], u.oneCell' = true := by
  intro u h
  simp at h
  subst h;rfl
theorem plistI_any {w : World} {b e p : Nat} {l : List Tk} (beg fin : List UInt8) (hbeg : wordly beg = true) (hfin : wordly fin = true) (h : PAt w b l e p) :
    Calls Tryz.prog 223 #[ptrP b,.string (str beg),.string (str fin),.func (.func 162) #[ptrP b] #[]] w fun en w'=>Out b e l (inP l e (numP l e) beg fin p) w (VInts w) en w':=by
  have hbw:=h.lt
  have H:Hid (PAt w b l e p):=h
  have hE:=enters_num
  unfold Enters at hE
  obtain ⟨i0,hi,hz0,hz1,hz2⟩:=pInfoI
  clear h
  go_enter Tryz.func223,Tryz.ntmps223
  go_wp2_with fail
  refine (pmust_any beg hbeg H.out).mono ?_
  intro e' w1 hO
  rcases hO with ⟨⟨⟩,p1,x,m1,rfl,rfl,r1,k1⟩ | ⟨y,c,a,m1,rfl,hc,k1⟩
  rotate_left
  · exact ⟨rfl,Out.bad (in_bad0 m1) hc k1⟩
  have M1:Hid (mustP l e beg p=.ok ((),p1)):=m1
  have R1:Hid (PAt w1 b l e p1):=r1
  have K1:Hid (Chg b w w1):=k1
  clear m1 r1 k1 H
  go_wp2_with fail
  refine (took_any fin hfin R1.out).mono ?_
  intro e' w2 hO
  cases hw:isW l fin p1 with
  | true =>
    rw [hw] at hO
    obtain ⟨rfl,r2,k2⟩:=hO
    have Z:Hid (Out b e l (inP l e (numP l e) beg fin p) w (VInts w) (.returned (.slice none 0 0)) w2):=Out.good (in_none M1.out hw) ⟨none,0,rfl,Lay.list_nil _ _ _ _ _⟩ r2 (K1.out.trans k2)
    clear r2 k2 hw M1 R1 K1
    go_wp2
    go_ret
    exact Z.out
  | false =>
    rw [hw] at hO
    obtain ⟨rfl,r2,k2⟩:=hO
    have S2:Hid (LstQ l e (numP l e) fin p1 p1 []):=LstQ.start hw
    have R2:Hid (PAt w2 b l e p1):=r2
    have K2:Hid (Chg b w w2):=K1.out.trans k2
    clear r2 k2 hw R1 K1
    go_wp2_with fail
    go_loopw [9] (fun v wr=>∃ xs cs p2,ARow Lay.int 3 wr w.heap.size v xs cs∧PAt wr b l e p2∧Chg b w wr∧LstQ l e (numP l e) fin p1 p2 xs) (fun v _=>102 - lenP v)
    case atStart=>exact ⟨[],[],p1,ARow.nil _ _ _ _,R2.out,K2.out,S2.out⟩
    case round =>
      obtain ⟨xs,cs,p2,hrow,hr,hk,hl⟩:=hrel
      obtain ⟨a,c,rfl⟩:=hrow.formP
      have A2:Hid (ARow Lay.int 3 wr w.heap.size (.slice a xs.length c) xs cs):=hrow
      have R2:Hid (PAt wr b l e p2):=hr
      have K2:Hid (Chg b w wr):=hk
      have L2:Hid (LstQ l e (numP l e) fin p1 p2 xs):=hl
      have hn:xs.length≤100:=hl.le
      clear hrow hr hk hl S2
      go_wp2_with fail
      refine (pnum_any R2.out).mono ?_
      intro e' w4 hO
      rcases hO with ⟨n,p3,x,m3,rfl,⟨rfl,hn0,hn1⟩,r4,k4⟩ | ⟨y,c',a',m3,rfl,hc,k4⟩
      rotate_left
      · exact ⟨rfl,Out.bad (in_bad M1.out (L2.out.bad m3)) hc (K2.out.trans k4)⟩
      have M3:Hid (numP l e p2=.ok (n,p3)):=m3
      have A4:Hid (ARow Lay.int 3 w4 w.heap.size (.slice a xs.length c) xs cs):=A2.out.chgP k4 hbw
      have R4:Hid (PAt w4 b l e p3):=r4
      have K4:Hid (Chg b w w4):=K2.out.trans k4
      have hsz:=K4.out.size
      have hown:Hid (w4.ownsRow w.heap.size 3 1 (.slice a xs.length c) xs.length cs):=A4.out.own
      have PU:Hid (∀ g cap w9,w9.ownsRow w.heap.size 3 1 (.slice (some ⟨g,0,none⟩) (xs.length+1) cap) (xs.length+1) (cs++[.int .i64 n])→(w4.alloc (.cells #[.int .i64 n] 3)).grownBy w9 (Value.slice a xs.length c).ownBlock→((Value.slice a xs.length c).ownBlock=some g∨g=w4.heap.size+1) →
          (∃ cs',ARow Lay.int 3 w9 w.heap.size (.slice (some ⟨g,0,none⟩) (xs.length+1) cap) (xs++[n]) cs')∧PAt w9 b l e p3∧Chg b w w9):=by
        intro g cap w9 h1 h2 h3
        have b5:Below w4.heap.size w4 (w4.alloc (.cells #[.int .i64 n] 3)):=bel1 _ _
        have A5:=A4.out.below b5
        refine ⟨⟨_,ARow.push A5 (x:=n) (Lay.int_mk _ _ ⟨by omega,by omega⟩) h2 (by simpa using h3) h1⟩,(R4.out.below b5).grown h2 (fun k hk=>by have:=(A5.lo_le hk).1;omega),(K4.out.allocP _).grownP h2 (fun k hk=>(A5.lo_le hk).1)⟩
      clear r4 k4 m3 A2 R2 K2 A4 R4 K4
      go_wp2_with (at_builtin;refine wpList_append_lies _ rfl (.tmp 16) (.tmp 19) 43 rfl w.heap.size 3 i0 (.int .i64 0) 1 8 pUnderI hi hz0 hz1 hz2 rfl (by decide) _ _ _ rfl (hown.out.alloc _) ⟨w4.heap.size,0,none⟩ 1 1 [.int .i64 n] rfl rfl (newsP _ [_] _) (pOneI _) (by decide) (by unfold maxLen;omega) (by omega) (by simp;omega) (w4.heap.size+1) (by simp) ?_)
      intro g2 cap2 w9 h1 hgrow hat hlt1
      have U2:=PU.out g2 cap2 w9 h1 hgrow hat
      obtain ⟨⟨cs',q1⟩,q2,q3⟩:=U2
      have A9:Hid (ARow Lay.int 3 w9 w.heap.size (.slice (some ⟨g2,0,none⟩) (xs.length+1) cap2) (xs++[n]) cs'):=q1
      have R9:Hid (PAt w9 b l e p3):=q2
      have K9:Hid (Chg b w w9):=q3
      clear h1 hgrow hat hlt1 hown PU q1 q2 q3
      by_cases h100:xs.length+1≤100
      · have h100':¬ (100:Int)<(xs.length:Int)+1:=by omega
        go_wp2_with fail
        refine (took_any fin hfin R9.out).mono ?_
        intro e' w10 hO
        cases hw:isW l fin p3 with
        | true =>
          rw [hw] at hO
          obtain ⟨rfl,r10,k10⟩:=hO
          have A10:=A9.out.chgP k10 hbw
          have Z:Hid (Out b e l (inP l e (numP l e) beg fin p) w (VInts w) (.returned (.slice (some ⟨g2,0,none⟩) (xs.length+1) cap2)) w10) :=
            Out.good (v:=xs++[n]) (in_some M1.out (L2.out.stop M3.out h100 hw) hw) ⟨some ⟨g2,0,none⟩,cap2,by simp,by simpa using A10.lay⟩ r10 (K9.out.trans k10)
          clear r10 k10 A10 A9 R9 K9 M1 L2 M3
          go_wp2
          go_ret
          exact Z.out
        | false =>
          rw [hw] at hO
          obtain ⟨rfl,r10,k10⟩:=hO
          have A10:Hid (ARow Lay.int 3 w10 w.heap.size (.slice (some ⟨g2,0,none⟩) (xs.length+1) cap2) (xs++[n]) cs'):=A9.out.chgP k10 hbw
          have R10:Hid (PAt w10 b l e p3):=r10
          have K10:Hid (Chg b w w10):=K9.out.trans k10
          have HW:Hid (isW l fin p3=false):=hw
          clear r10 k10 A9 R9 K9 hw
          go_wp2_with fail
          refine (pmust_any [44] (by decide) R10.out).mono ?_
          intro e' w11 hO
          rcases hO with ⟨⟨⟩,p4,x,m4,rfl,rfl,r11,k11⟩ | ⟨y,c',a',m4,rfl,hc,k11⟩
          rotate_left
          · exact ⟨rfl,Out.bad (in_bad M1.out (L2.out.comma M3.out h100 HW.out m4)) hc (K10.out.trans k11)⟩
          have A11:Hid (ARow Lay.int 3 w11 w.heap.size (.slice (some ⟨g2,0,none⟩) (xs.length+1) cap2) (xs++[n]) cs'):=A10.out.chgP k11 hbw
          have R11:Hid (PAt w11 b l e p4):=r11
          have K11:Hid (Chg b w w11):=K10.out.trans k11
          have L11:Hid (LstQ l e (numP l e) fin p1 p4 (xs++[n])):=L2.out.go M3.out h100 HW.out m4
          clear r11 k11 m4 A10 R10 K10
          go_wp2
          go_roundw
          case rel=>exact ⟨xs++[n],cs',p4,A11.out,R11.out,K11.out,L11.out⟩
          case measure=>simp [lenP];omega
      · have h100':(100:Int)<(xs.length:Int)+1:=by omega
        obtain ⟨y,hy⟩:=L2.out.many M3.out h100
        have Y:Hid (inP l e (numP l e) beg fin p=.error y):=in_bad M1.out hy
        clear hy
        go_wp2_with fail
        refine (giveUp_any 2 (by decide) R9.out).mono ?_
        rintro e' w10 ⟨⟨c',a',rfl,hc⟩,rfl⟩
        exact ⟨rfl,Out.bad Y.out hc K9.out⟩
def FinD (w0 : World) (b e : Nat) (l : List Tk) (p R : Nat) (T : TypeId) (c : Array Value) (W : World) : Prop := Blk W R c T ∧ PAt W b l e p ∧ Chg b w0 W
structure FB (w0 w : World) (b e : Nat) (l : List Tk) (p R B : Nat) (rc bc : Array Value) (T : TypeId) : Prop where
  rd:PAt w b l e p
  res:Blk w R rc T
  box:Blk w B bc T
  chg:Chg b w0 w
  bR:b<R
  RB:R<B
  R0:w0.heap.size≤R
section
variable {w0 w w' : World} {b e p p' R B : Nat} {l : List Tk} {rc bc : Array Value} {T : TypeId}
theorem FB.start {z : Array Value} (h : PAt w b l e p) : FB w ((w.alloc (.cells z T)).alloc (.cells z T)) b e l p w.heap.size (w.heap.size + 1) z z T :=
  ⟨h.below (bel2 _ _ _),Blk.new1 _ _ _ _ _,Blk.new2 _ _ _ _,Chg.below (bel2 _ _ _),h.lt,Nat.lt_succ_self _,Nat.le_refl _⟩
theorem FB.call (h : FB w0 w b e l p R B rc bc T) (hp : PAt w' b l e p') (k : Chg b w w') : FB w0 w' b e l p' R B rc bc T := by
  have h1:=h.bR
  have h2:=h.RB
  exact ⟨hp,h.res.chg k (by omega),h.box.chg k (by omega),h.chg.trans k,h1,h2,h.R0⟩
theorem FB.alloc (h : FB w0 w b e l p R B rc bc T) (o : Obj) : FB w0 (w.alloc o) b e l p R B rc bc T := h.call (h.rd.below (bel1 _ _)) (Chg.below (bel1 _ _))
theorem FB.set (h : FB w0 w b e l p R B rc bc T) (o : Nat) (v : Value) : FB w0 (w.setCell ⟨B, o, none⟩ v) b e l p R B rc (bc.setIfInBounds o v) T := by
  have h1:=h.bR
  have h2:=h.RB
  exact ⟨h.rd.set (by show b<B;omega) v,h.res.setOther (by show B≠R;omega) v,blockSet h.box o v,Chg2.new h.chg (Chg2.set w o v) (by have:=h.R0;omega),h1,h2,h.R0⟩
theorem FB.nums {xs : List Int} {offs : List Nat} (h : FB w0 w b e l p R B rc bc T) (hb : Blk w' B (putAll bc offs xs) T) (hp : PAt w' b l e p') (k : Chg2 b B w w') : FB w0 w' b e l p' R B rc (putAll bc offs xs) T := by
  have h1:=h.bR
  have h2:=h.RB
  exact ⟨hp,h.res.chg2 k (by omega) (by omega),hb,Chg2.new h.chg k (by have:=h.R0;omega),h1,h2,h.R0⟩
theorem FB.lt (h : FB w0 w b e l p R B rc bc T) : B < w.heap.size := h.box.lt
def Kid {α : Type} (A : Lay α) (B : Nat) (w : World) (x : α) (cs : List Value) : Prop := A.In w (fun g => B < g) x cs
variable {α : Type} {A : Lay α} {x : α} {cs : List Value}
theorem Kid.mk (h : A.In w (fun g => w'.heap.size ≤ g) x cs) (hB : B < w'.heap.size) : Kid A B w x cs := Lay.mono h (fun k hk _ => by omega)
theorem Kid.chg (h : Kid A B w x cs) (k : Chg b w w') (hb : b ≤ B) : Kid A B w' x cs := Chg.keep h k (fun k hk => by omega)
theorem Kid.chg2 (h : Kid A B w x cs) (k : Chg2 b B w w') (hb : b ≤ B) : Kid A B w' x cs := Chg2.keep h k (fun k hk _ => by omega)
theorem Kid.set (h : Kid A B w x cs) {q : Addr} (hq : q.block ≤ B) (v : Value) : Kid A B (w.setCell q v) x cs := Lay.setCell h (by omega) v
theorem Kid.alloc (h : Kid A B w x cs) (o : Obj) : Kid A B (w.alloc o) x cs := Lay.alloc h o
theorem Kid.sets (h : Kid A B w x cs) {R : Nat} (hq : R ≤ B) : ∀ (vs : List Value) (o : Nat), Kid A B (w.setCells R o vs) x cs := fun vs o => A.keep (fun k hk _ => setCells_other (by omega) vs o w) (fun _ h _ => h) h
theorem Kid.out (h : Kid A B w x cs) (hB : w0.heap.size ≤ B) : A.In w (fun g => w0.heap.size ≤ g) x cs := Lay.mono h (fun k hk _ => by omega)
theorem Blk.sets {R : Nat} {T : TypeId} : ∀ (vs us zs : List Value) (w : World), vs.length = zs.length → Blk w R (us ++ zs).toArray T → Blk (w.setCells R us.length vs) R (us ++ vs).toArray T
  | [],us,zs,w,hl,h=>by
    have:zs=[]:=List.length_eq_zero_iff.1 hl.symm
    subst this
    exact h
  | v::vs,us,zs,w,hl,h=>by
    cases zs with
    | nil=>simp at hl
    | cons z zs =>
      have h1:=blockSet h us.length v
      have e1:((us++z::zs).toArray.setIfInBounds us.length v)=((us++[v])++zs).toArray:=by
        apply Array.ext'
        simp [List.set_append]
      rw [e1] at h1
      have:=Blk.sets vs (us++[v]) zs (w.setCell ⟨R,us.length,none⟩ v) (by simpa using hl) h1
      simpa [World.setCells] using this
theorem FB.fin (h : FB w0 w b e l p R B rc bc T) (vs : List Value) (hl : vs.length = rc.size) : FinD w0 b e l p R T vs.toArray (w.setCells R 0 vs) := by
  have h1:=h.bR
  refine ⟨?_,h.rd.keep fun k hk=>setCells_other (by omega) vs 0 w,?_⟩
  · have:=Blk.sets (T:=T) (R:=R) vs [] rc.toList w (by simpa using hl) (by simpa using h.res)
    simpa using this
  · have hs:Step (fun k=>k=R) (fun k=>k=R) w (w.setCells R 0 vs):=Step.setCells (O:=fun k=>k=R) (O':=fun k=>k=R) (b:=R) rfl vs 0 w (Step.refl _ _)
    have h3:=h.chg
    have h4:=h.R0
    exact ⟨hs.os.trans h3.os,hs.tape.trans h3.tape,hs.output.trans h3.output,Nat.le_trans h3.size hs.size,fun k hk hn=>(hs.block k (Nat.lt_of_lt_of_le hk h3.size) (by omega)).trans (h3.block k hk hn),fun k hk=>.inl hk⟩
end
section
variable {l : List Tk} {e p : Nat} {β : Type}
theorem nums_len : ∀ {n p : Nat} {xs : List Int} {q : Nat}, numsP l e n p = .ok (xs, q) → xs.length = n
  | 0,p,xs,q,h=>by injection h with h;injection h with h _;subst h;rfl
  | n+1,p,xs,q,h=>by
    rw [numsP] at h
    obtain ⟨a,p1,_,h⟩:=PR.andThen_ok h
    obtain ⟨ys,p2,h2,h⟩:=PR.andThen_ok h
    injection h with h;injection h with h _;subst h
    simp [nums_len h2]
theorem nums1_eq (F : Int → Nat → PR β) : PR.andThen (numP l e p) F = PR.andThen (numsP l e 1 p) fun xs q => F (xs.getD 0 0) q := by
  rw [numsP]
  cases h1:numP l e p with
  | error x=>rfl
  | ok v=>obtain ⟨a,p1⟩:=v;rfl
theorem nums2_eq (F : Int → Int → Nat → PR β) : (PR.andThen (numP l e p) fun a p1 => PR.andThen (numP l e p1) fun c p2 => F a c p2) = PR.andThen (numsP l e 2 p) fun xs q => F (xs.getD 0 0) (xs.getD 1 0) q := by
  rw [numsP]
  cases h1:numP l e p with
  | error x=>rfl
  | ok v =>
    obtain ⟨a,p1⟩:=v
    rw [PR.ok_andThen,PR.ok_andThen,nums1_eq]
    cases numsP l e 1 p1 with
    | error x=>rfl
    | ok v=>obtain ⟨xs,p2⟩:=v;rfl
theorem nums3_eq (F : Int → Int → Int → Nat → PR β) : (PR.andThen (numP l e p) fun a p1 => PR.andThen (numP l e p1) fun c p2 => PR.andThen (numP l e p2) fun d p3 => F a c d p3) = PR.andThen (numsP l e 3 p) fun xs q => F (xs.getD 0 0) (xs.getD 1 0) (xs.getD 2 0) q := by
  rw [numsP]
  cases h1:numP l e p with
  | error x=>rfl
  | ok v =>
    obtain ⟨a,p1⟩:=v
    rw [PR.ok_andThen,PR.ok_andThen,nums2_eq]
    cases numsP l e 2 p1 with
    | error x=>rfl
    | ok v=>obtain ⟨xs,p2⟩:=v;rfl
end
theorem cells3 {w : World} {B : Nat} {t : TypeId} {p0 p1 p2 : Value} (h : Blk w B #[p0, p1, p2] t) : w.cell? ⟨B, 0, none⟩ = some p0 ∧ w.cell? ⟨B, 1, none⟩ = some p1 ∧ w.cell? ⟨B, 2, none⟩ = some p2 := ⟨cellOf h 0 _ rfl, cellOf h 1 _ rfl, cellOf h 2 _ rfl⟩
theorem frees3 {w : World} {B : Nat} {t : TypeId} {c : Array Value} (h : Blk w B c t) : w.frozen? ⟨B, 0, none⟩ = false ∧ w.frozen? ⟨B, 1, none⟩ = false ∧ w.frozen? ⟨B, 2, none⟩ = false := ⟨freeOf h 0, freeOf h 1, freeOf h 2⟩
theorem cells4 {w : World} {B : Nat} {t : TypeId} {p0 p1 p2 p3 : Value} (h : Blk w B #[p0, p1, p2, p3] t) : w.cell? ⟨B, 0, none⟩ = some p0 ∧ w.cell? ⟨B, 1, none⟩ = some p1 ∧ w.cell? ⟨B, 2, none⟩ = some p2 ∧ w.cell? ⟨B, 3, none⟩ = some p3 := ⟨cellOf h 0 _ rfl, cellOf h 1 _ rfl, cellOf h 2 _ rfl, cellOf h 3 _ rfl⟩
theorem frees4 {w : World} {B : Nat} {t : TypeId} {c : Array Value} (h : Blk w B c t) : w.frozen? ⟨B, 0, none⟩ = false ∧ w.frozen? ⟨B, 1, none⟩ = false ∧ w.frozen? ⟨B, 2, none⟩ = false ∧ w.frozen? ⟨B, 3, none⟩ = false := ⟨freeOf h 0, freeOf h 1, freeOf h 2, freeOf h 3⟩
theorem cells8 {w : World} {B : Nat} {t : TypeId} {p0 p1 p2 p3 p4 p5 p6 p7 : Value} (h : Blk w B #[p0, p1, p2, p3, p4, p5, p6, p7] t) : w.cell? ⟨B, 0, none⟩ = some p0 ∧ w.cell? ⟨B, 1, none⟩ = some p1 ∧ w.cell? ⟨B, 2, none⟩ = some p2 ∧ w.cell? ⟨B, 3, none⟩ = some p3 ∧ w.cell? ⟨B, 4, none⟩ = some p4 ∧ w.cell? ⟨B, 5, none⟩ = some p5 ∧ w.cell? ⟨B, 6, none⟩ = some p6 ∧ w.cell? ⟨B, 7, none⟩ = some p7 := ⟨cellOf h 0 _ rfl, cellOf h 1 _ rfl, cellOf h 2 _ rfl, cellOf h 3 _ rfl, cellOf h 4 _ rfl, cellOf h 5 _ rfl, cellOf h 6 _ rfl, cellOf h 7 _ rfl⟩
theorem frees8 {w : World} {B : Nat} {t : TypeId} {c : Array Value} (h : Blk w B c t) : w.frozen? ⟨B, 0, none⟩ = false ∧ w.frozen? ⟨B, 1, none⟩ = false ∧ w.frozen? ⟨B, 2, none⟩ = false ∧ w.frozen? ⟨B, 3, none⟩ = false ∧ w.frozen? ⟨B, 4, none⟩ = false ∧ w.frozen? ⟨B, 5, none⟩ = false ∧ w.frozen? ⟨B, 6, none⟩ = false ∧ w.frozen? ⟨B, 7, none⟩ = false := ⟨freeOf h 0, freeOf h 1, freeOf h 2, freeOf h 3, freeOf h 4, freeOf h 5, freeOf h 6, freeOf h 7⟩
theorem cells9 {w : World} {B : Nat} {t : TypeId} {p0 p1 p2 p3 p4 p5 p6 p7 p8 : Value} (h : Blk w B #[p0, p1, p2, p3, p4, p5, p6, p7, p8] t) : w.cell? ⟨B, 0, none⟩ = some p0 ∧ w.cell? ⟨B, 1, none⟩ = some p1 ∧ w.cell? ⟨B, 2, none⟩ = some p2 ∧ w.cell? ⟨B, 3, none⟩ = some p3 ∧ w.cell? ⟨B, 4, none⟩ = some p4 ∧ w.cell? ⟨B, 5, none⟩ = some p5 ∧ w.cell? ⟨B, 6, none⟩ = some p6 ∧ w.cell? ⟨B, 7, none⟩ = some p7 ∧ w.cell? ⟨B, 8, none⟩ = some p8 := ⟨cellOf h 0 _ rfl, cellOf h 1 _ rfl, cellOf h 2 _ rfl, cellOf h 3 _ rfl, cellOf h 4 _ rfl, cellOf h 5 _ rfl, cellOf h 6 _ rfl, cellOf h 7 _ rfl, cellOf h 8 _ rfl⟩
theorem frees9 {w : World} {B : Nat} {t : TypeId} {c : Array Value} (h : Blk w B c t) : w.frozen? ⟨B, 0, none⟩ = false ∧ w.frozen? ⟨B, 1, none⟩ = false ∧ w.frozen? ⟨B, 2, none⟩ = false ∧ w.frozen? ⟨B, 3, none⟩ = false ∧ w.frozen? ⟨B, 4, none⟩ = false ∧ w.frozen? ⟨B, 5, none⟩ = false ∧ w.frozen? ⟨B, 6, none⟩ = false ∧ w.frozen? ⟨B, 7, none⟩ = false ∧ w.frozen? ⟨B, 8, none⟩ = false := ⟨freeOf h 0, freeOf h 1, freeOf h 2, freeOf h 3, freeOf h 4, freeOf h 5, freeOf h 6, freeOf h 7, freeOf h 8⟩
theorem begins {w : World} {b e p : Nat} {l : List Tk} {z : Array Value} {T : TypeId} (h : PAt w b l e p) : PAt (w.alloc (.cells z T)) b l e p ∧ Blk (w.alloc (.cells z T)) w.heap.size z T ∧ Chg b w (w.alloc (.cells z T)) := ⟨h.below (bel1 _ _), Blk.new _ _ _, Chg.below (bel1 _ _)⟩
theorem which_told {w : World} {b e p k : Nat} {l : List Tk} {F : Nat} {ws : List (List UInt8)} (hE : Enters F) (hF0 : WordFn F ws) (hw0 : ∀ t ∈ ws, wordly t = true) (hn : ws.length ≤ 1000) (hk : whichP l ws p = k) (h0 : k ≠ 0) (h : PAt w b l e p) :
    Calls Tryz.prog 197 #[ptrP b,.func (.func F) #[] #[]] w fun en w'=>en=.returned (.int .i64 k)∧Below w.heap.size w w':=by
  have h1:=pmustWhich_any F ws hE hF0 hw0 hn h
  rw [hk] at h1
  refine h1.mono fun en w' hO=>?_
  rcases hO with ⟨_,he,hb⟩ | ⟨h2,_⟩
  · exact ⟨he,hb⟩
  · exact absurd h2 h0
theorem pSizeE : (Tryz.prog.info? 50).map (·.size) = some 9 := by kernel_rfl
theorem Blk.range {w : World} {T : TypeId} {g : Nat} {c : List Value} (h : Blk w g c.toArray T) : w.rangeAt g 0 c := fun j v hv => by
  rw [Nat.zero_add]
  exact cellOf h j v (by simpa using hv)
theorem Blk.there {w : World} {T : TypeId} {g o n : Nat} {c : Array Value} (h : Blk w g c T) (hn : o + n ≤ c.size) : w.there g o n := fun j hj =>
  ⟨by rw [cellOf h (o+j) _ (Array.getElem?_eq_getElem (by omega))];rfl,freeOf h (o+j)⟩
theorem i64_of {x : Int} (h : 0 ≤ x ∧ x ≤ 1000000) : -9223372036854775808 ≤ x ∧ x ≤ 9223372036854775807 := ⟨by omega, by omega⟩
def NumsB (w0 w1 : World) (b e : Nat) (l : List Tk) (p R B : Nat) (rc bc : Array Value) (T : TypeId) (offs : List Nat) (en : Ending) (w' : World) : Prop :=
  (∃ xs p',numsP l e offs.length p=.ok (xs,p')∧en=.returned (.tuple #[])∧(∀ x∈xs,0≤x∧x≤1000000)∧FB w0 w' b e l p' R B rc (putAll bc offs xs) T∧Chg2 b B w1 w')∨(∃ y c a,numsP l e offs.length p=.error y∧en=.panicked (gave c a)∧c≠0∧Chg b w0 w')
theorem FB.callNums {w0 w1 : World} {b e p R B g N : Nat} {l : List Tk} {rc bc : Array Value} {T : TypeId} (h : FB w0 w1 b e l p R B rc bc T) (offs : List Nat) (ho : ∀ o ∈ offs, o < bc.size) (hN : offs.length = N) (hN3 : N ≤ 1000) (hg : g = w1.heap.size) :
    Calls Tryz.prog 130 #[ptrP b,.slice (some ⟨g,0,none⟩) N N] (w1.alloc (.cells (offs.map (fun o=>Value.pointer (some ⟨B,o,none⟩))).toArray 167)) fun en w'=>NumsB w0 w1 b e l p R B rc bc T offs en w':=by
  subst hg
  have h1:=h.bR
  have h2:=h.RB
  have h3:=h.lt
  have ha:=h.alloc (.cells (offs.map (fun o=>Value.pointer (some ⟨B,o,none⟩))).toArray 167)
  have k1:Chg2 b B w1 (w1.alloc (.cells (offs.map (fun o=>Value.pointer (some ⟨B,o,none⟩))).toArray 167)):=Chg2.of (Chg.below (bel1 _ _))
  refine (pnums_any ha.rd ha.box (Blk.new _ _ _) (by omega) (by omega) (by omega) ho hN hN3).mono fun en w' hO=>?_
  rcases hO with ⟨xs,p',m,he,hx,hb,hp,hk⟩ | ⟨y,c,a,m,he,hc,hk⟩
  · exact .inl ⟨xs,p',m,he,hx,ha.nums hb hp hk,k1.trans hk⟩
  · exact .inr ⟨y,c,a,m,he,hc,Chg2.new ha.chg hk (by have:=h.R0;omega)⟩
theorem pargs_any {w : World} {b e p : Nat} {l : List Tk} (h : PAt w b l e p) :
    Calls Tryz.prog 199 #[ptrP b] w fun en w'=>Out b e l (argsP l e p) w (VInts w) en w':=by
  have hmf:∀ (fn:Fn) (first cap:Array Value) (w:World),(Instr.makeFunc fn first cap).run Tryz.prog w=.ok (.func fn first cap) w:=fun _ _ _ _=>rfl
  have C:Hid (Calls Tryz.prog 223 #[ptrP b,.string (str [40]),.string (str [41]),.func (.func 162) #[ptrP b] #[]] w fun en w'=>Out b e l (argsP l e p) w (VInts w) en w'):=plistI_any [40] [41] (by decide) (by decide) h
  clear h
  go_enter Tryz.func199,Tryz.ntmps199
  go_wp2_with fail
  refine C.out.mono ?_
  intro e' w2 hO
  have O:Hid (Out b e l (argsP l e p) w (VInts w) e' w2):=hO
  rcases hO with ⟨v,p1,x,m1,rfl,hv,r1,k1⟩ | ⟨y,c,a,m1,rfl,hc,k1⟩
  · clear C m1 hv r1 k1
    go_wp2
    go_ret
    exact O.out
  · exact ⟨rfl,O.out⟩
theorem pregs_any {w : World} {b e p : Nat} {l : List Tk} (h : PAt w b l e p) :
    Calls Tryz.prog 200 #[ptrP b] w fun en w'=>Out b e l (regsP l e p) w (VInts w) en w':=by
  have hmf:∀ (fn:Fn) (first cap:Array Value) (w:World),(Instr.makeFunc fn first cap).run Tryz.prog w=.ok (.func fn first cap) w:=fun _ _ _ _=>rfl
  have C:Hid (Calls Tryz.prog 223 #[ptrP b,.string (str [60]),.string (str [62]),.func (.func 162) #[ptrP b] #[]] w fun en w'=>Out b e l (regsP l e p) w (VInts w) en w'):=plistI_any [60] [62] (by decide) (by decide) h
  clear h
  go_enter Tryz.func200,Tryz.ntmps200
  go_wp2_with fail
  refine C.out.mono ?_
  intro e' w2 hO
  have O:Hid (Out b e l (regsP l e p) w (VInts w) e' w2):=hO
  rcases hO with ⟨v,p1,x,m1,rfl,hv,r1,k1⟩ | ⟨y,c,a,m1,rfl,hc,k1⟩
  · clear C m1 hv r1 k1
    go_wp2
    go_ret
    exact O.out
  · exact ⟨rfl,O.out⟩
def VTo (w0 : World) : World → MTo → Value → Prop := fun w' x v => ∃ a c b d, v = .agg #[.int .i64 x.block, .slice a x.regs.length c, .slice b x.args.length d] ∧ toL.In w' (fun g => w0.heap.size ≤ g) x [.int .i64 x.block, .slice a x.regs.length c, .slice b x.args.length d]
theorem pto_any {w : World} {b e p : Nat} {l : List Tk} (h : PAt w b l e p) :
    Calls Tryz.prog 202 #[ptrP b] w fun en w'=>Out b e l (toP l e p) w (VTo w) en w':=by
  have hbw:=h.lt
  have F0:Hid (FB w _ b e l p w.heap.size (w.heap.size+1) #[.int .i64 0,.slice none 0 0,.slice none 0 0] #[.int .i64 0,.slice none 0 0,.slice none 0 0] 48):=FB.start h
  clear h
  go_enter Tryz.func202,Tryz.ntmps202
  go_wp2_with fail
  refine (FB.callNums F0.out [0] (by simp) rfl (by decide) (by simp)).mono ?_
  intro e' w1 hO
  rcases hO with ⟨ns,p1,m1,rfl,hx1,r1,k1⟩ | ⟨y,c',a',m1,rfl,hc',k1⟩
  rotate_left
  · exact ⟨rfl,Out.bad (by rw [toP,nums1_eq,show numsP l e 1 p=_ from m1];rfl) hc' k1⟩
  have hl1:=nums_len m1
  obtain ⟨nb,rfl⟩:∃ nb,ns=[nb]:=by
    match ns,hl1 with
    | [nb],_=>exact ⟨nb,rfl⟩
  have Bnb:Hid (0≤nb∧nb≤1000000):=hx1 nb (by simp)
  have E1:Hid (numsP l e 1 p=.ok ([nb],p1)):=m1
  have G1:Hid (FB _ _ _ _ _ _ _ _ _ #[.int .i64 nb,.slice none 0 0,.slice none 0 0] _):=r1
  clear m1 r1 k1 hx1 hl1 F0
  go_wp2_with fail
  refine (pregs_any G1.out.rd).mono ?_
  intro e' w2 hO
  rcases hO with ⟨xs,p2,x2,m2,rfl,⟨ax,cx,rfl,hi2⟩,r2,k2⟩ | ⟨y,c',a',m2,rfl,hc',k2⟩
  rotate_left
  · exact ⟨rfl,Out.bad (by rw [toP,nums1_eq,E1.out,PR.ok_andThen,m2];rfl) hc' (G1.out.chg.trans k2)⟩
  have E2:Hid (regsP l e p1=.ok (xs,p2)):=m2
  have G2:Hid (FB _ _ _ _ _ _ _ _ _ _ _):=G1.out.call r2 k2
  have Kxs:Hid (Kid intsL (w.heap.size+1) w2 xs [.slice ax xs.length cx]):=Kid.mk hi2 G1.out.lt
  clear hi2
  clear m2 r2 k2 G1
  have y1:=cellOf G2.out.box 1 _ rfl
  have z1:=freeOf G2.out.box 1
  go_wp2_with fail
  have G3:Hid (FB _ (w2.setCell ⟨(w.heap.size+1),1,none⟩ (.slice ax xs.length cx)) _ _ _ _ _ _ _ #[.int .i64 nb,.slice ax xs.length cx,.slice none 0 0] _):=(FB.set G2.out 1 (.slice ax xs.length cx))
  have KxsG3:Hid (Kid _ _ (w2.setCell ⟨(w.heap.size+1),1,none⟩ (.slice ax xs.length cx)) _ _):=(Kid.set Kxs.out (q:=⟨(w.heap.size+1),1,none⟩) (Nat.le_refl _) _)
  clear Kxs
  generalize (w2.setCell ⟨(w.heap.size+1),1,none⟩ (.slice ax xs.length cx))=w3 at G3 KxsG3 ⊢
  clear y1 z1 G2
  refine (pargs_any G3.out.rd).mono ?_
  intro e' w4 hO
  rcases hO with ⟨ys,p4,x4,m4,rfl,⟨ay,cy,rfl,hi4⟩,r4,k4⟩ | ⟨y,c',a',m4,rfl,hc',k4⟩
  rotate_left
  · exact ⟨rfl,Out.bad (by rw [toP,nums1_eq,E1.out,PR.ok_andThen,E2.out,PR.ok_andThen,m4];rfl) hc' (G3.out.chg.trans k4)⟩
  have E4:Hid (argsP l e p2=.ok (ys,p4)):=m4
  have G4:Hid (FB _ _ _ _ _ _ _ _ _ _ _):=G3.out.call r4 k4
  have KxsG35_:Hid (Kid _ _ _ _ _):=KxsG3.out.chg k4 (by omega)
  clear KxsG3
  have Kys:Hid (Kid intsL (w.heap.size+1) w4 ys [.slice ay ys.length cy]):=Kid.mk hi4 G3.out.lt
  clear hi4
  clear m4 r4 k4 G3
  obtain ⟨y0,y1,y2⟩:=cells3 G4.out.box
  obtain ⟨u0,u1,u2⟩:=cells3 G4.out.res
  obtain ⟨v0,v1,v2⟩:=frees3 G4.out.res
  have z2:=freeOf G4.out.box 2
  have hne:¬ (w.heap.size+1)=w.heap.size:=by omega
  go_wp2
  have DD:Hid (FinD _ _ _ _ _ _ _ #[.int .i64 nb,.slice ax xs.length cx,.slice ay ys.length cy] ((((w4.setCell ⟨(w.heap.size+1),2,none⟩ (.slice ay ys.length cy)).setCell ⟨w.heap.size,0,none⟩ (.int .i64 nb)).setCell ⟨w.heap.size,1,none⟩ (.slice ax xs.length cx)).setCell ⟨w.heap.size,2,none⟩ (.slice ay ys.length cy))):=FB.fin (FB.set G4.out 2 (.slice ay ys.length cy)) [.int .i64 nb,.slice ax xs.length cx,.slice ay ys.length cy] rfl
  have DKxsG35_:Hid (Kid _ _ ((((w4.setCell ⟨(w.heap.size+1),2,none⟩ (.slice ay ys.length cy)).setCell ⟨w.heap.size,0,none⟩ (.int .i64 nb)).setCell ⟨w.heap.size,1,none⟩ (.slice ax xs.length cx)).setCell ⟨w.heap.size,2,none⟩ (.slice ay ys.length cy)) _ _):=Kid.sets (Kid.set KxsG35_.out (q:=⟨(w.heap.size+1),2,none⟩) (Nat.le_refl _) _) (by omega) [.int .i64 nb,.slice ax xs.length cx,.slice ay ys.length cy] 0
  clear KxsG35_
  have DKys:Hid (Kid _ _ ((((w4.setCell ⟨(w.heap.size+1),2,none⟩ (.slice ay ys.length cy)).setCell ⟨w.heap.size,0,none⟩ (.int .i64 nb)).setCell ⟨w.heap.size,1,none⟩ (.slice ax xs.length cx)).setCell ⟨w.heap.size,2,none⟩ (.slice ay ys.length cy)) _ _):=Kid.sets (Kid.set Kys.out (q:=⟨(w.heap.size+1),2,none⟩) (Nat.le_refl _) _) (by omega) [.int .i64 nb,.slice ax xs.length cx,.slice ay ys.length cy] 0
  clear Kys
  clear y0 u0 v0 y1 u1 v1 y2 u2 v2
  generalize ((((w4.setCell ⟨(w.heap.size+1),2,none⟩ (.slice ay ys.length cy)).setCell ⟨w.heap.size,0,none⟩ (.int .i64 nb)).setCell ⟨w.heap.size,1,none⟩ (.slice ax xs.length cx)).setCell ⟨w.heap.size,2,none⟩ (.slice ay ys.length cy))=w9 at DD DKxsG35_ DKys ⊢
  obtain ⟨D1,D2,D3⟩:=DD.out
  obtain ⟨x0,x1,x2⟩:=cells3 D1
  exact bodyPost_ret (v:=.agg #[.int .i64 nb,.slice ax xs.length cx,.slice ay ys.length cy]) (by simp [results,Tryz.results202,go_sem,x0,x1,x2]) rfl (Out.good (by rw [toP,nums1_eq,E1.out,PR.ok_andThen,E2.out,PR.ok_andThen,E4.out,PR.ok_andThen];rfl) (⟨ax,cx,ay,cy,rfl,to_mk (x:=⟨nb,xs,ys⟩) (Kid.out DKxsG35_.out (by omega)) (Kid.out DKys.out (by omega)) (i64_of Bnb.out)⟩) D2 D3)
def VTyp (d : Nat) (w0 : World) : World → TT (d + 1) → Value → Prop := fun w' t x => ∃ a c, x = .agg #[.int .i64 t.kind, .int .i64 t.r, .slice a t.len c] ∧ (Lay.tt (d + 1)).In w' (fun g => w0.heap.size ≤ g) t [.int .i64 t.kind, .int .i64 t.r, .slice a t.len c]
def VTyps (d : Nat) (w0 : World) : World → List (TT (d + 1)) → Value → Prop := fun w' xs x => ∃ a c, x = .slice a xs.length c ∧ (typesL (d + 1)).In w' (fun g => w0.heap.size ≤ g) xs [.slice a xs.length c]
def POne (d : Nat) (k : Int) : Prop := ∀ (w : World) (b e : Nat) (l : List Tk) (p : Nat), PAt w b l e p → Calls Tryz.prog 165 #[ptrP b, .int .i64 k] w fun en w' => Out b e l (typP l e d p) w (VTyp d w) en w'
theorem pOneT (k r : Int) (a : Option Addr) (l c : Nat) : ∀ u ∈ [Value.int .i64 k, Value.int .i64 r, Value.slice a l c], u.oneCell' = true := by
  intro u h
  simp at h
  rcases h with rfl | rfl | rfl <;> rfl
theorem Blk.set3 {w : World} {R : Nat} {p0 p1 p2 : Value} {t : TypeId} (h : Blk w R #[p0, p1, p2] t) (a b c : Value) : Blk (((w.setCell ⟨R, 0, none⟩ a).setCell ⟨R, 1, none⟩ b).setCell ⟨R, 2, none⟩ c) R #[a, b, c] t := by
  have h3:=blockSet (blockSet (blockSet h 0 a) 1 b) 2 c
  simpa using h3
theorem Chg.setNewP {b : Nat} {w w' : World} (h : Chg b w w') {q : Addr} (hq : w.heap.size ≤ q.block) (v : Value) : Chg b w (w'.setCell q v) :=
  ⟨h.os,h.tape,h.output,by have:=h.size;simp;omega,fun k hk hn=>(Below.heap_setCell _ _ _ _ (by omega)).trans (h.block k hk hn),fun k hk=>.inl hk⟩
theorem ptyp1_any {w : World} {b e p : Nat} {l : List Tk} {d : Nat} {dp : Int} (IH0 : POne d dp) {B1 B2 : Nat} {T1 T2 : TypeId} (hb1 : Blk w B1 #[ptrP b] T1) (hb2 : Blk w B2 #[.int .i64 dp] T2) (h : PAt w b l e p) :
    Calls Tryz.prog 164 #[ptrP B1,ptrP B2] w fun en w'=>Out b e l (typP l e d p) w (VTyp d w) en w':=by
  have hbw:=h.lt
  have H:Hid (PAt (w.alloc (.cells #[.int .i64 0,.int .i64 0,.slice none 0 0] 78)) b l e p):=h.below (bel1 _ _)
  have X:Hid (Blk (w.alloc (.cells #[.int .i64 0,.int .i64 0,.slice none 0 0] 78)) w.heap.size #[.int .i64 0,.int .i64 0,.slice none 0 0] 78):=Blk.new _ _ _
  have K:Hid (Chg b w (w.alloc (.cells #[.int .i64 0,.int .i64 0,.slice none 0 0] 78))):=Chg.below (bel1 _ _)
  have IH:Hid (POne d dp):=IH0
  have q1:=cellOf hb1 0 _ rfl
  have q2:=cellOf hb2 0 _ rfl
  have l1:=hb1.lt
  have l2:=hb2.lt
  clear h hb1 hb2 IH0
  go_enter Tryz.func164,Tryz.ntmps164
  go_wp2_with fail
  have hsz:Hid ((w.alloc (.cells #[.int .i64 0,.int .i64 0,.slice none 0 0] 78)).heap.size=w.heap.size+1):=by show _=_;simp
  generalize w.alloc (.cells #[.int .i64 0,.int .i64 0,.slice none 0 0] 78)=w1 at H X K hsz ⊢
  refine (IH.out w1 b e l p H.out).mono ?_
  intro e' w2 hO
  rcases hO with ⟨t,p2,x,m2,rfl,⟨a4,c4,rfl,ht4⟩,r2,k2⟩ | ⟨y,c',a',m2,rfl,hc',k2⟩
  rotate_left
  · exact ⟨rfl,Out.bad m2 hc' (K.out.trans k2)⟩
  have X2:=X.out.chg k2 (by omega)
  have u0:=cellOf X2 0 _ rfl
  have u1:=cellOf X2 1 _ rfl
  have u2:=cellOf X2 2 _ rfl
  have v0:=freeOf X2 0
  have v1:=freeOf X2 1
  have v2:=freeOf X2 2
  have D1:Hid (Blk (((w2.setCell ⟨w.heap.size,0,none⟩ (.int .i64 t.kind)).setCell ⟨w.heap.size,1,none⟩ (.int .i64 t.r)).setCell ⟨w.heap.size,2,none⟩ (.slice a4 t.len c4)) w.heap.size #[.int .i64 t.kind,.int .i64 t.r,.slice a4 t.len c4] 78):=X2.set3 _ _ _
  have D2:Hid (PAt (((w2.setCell ⟨w.heap.size,0,none⟩ (.int .i64 t.kind)).setCell ⟨w.heap.size,1,none⟩ (.int .i64 t.r)).setCell ⟨w.heap.size,2,none⟩ (.slice a4 t.len c4)) b l e p2):=((r2.set hbw _).set hbw _).set hbw _
  have D3:Hid (Chg b w (((w2.setCell ⟨w.heap.size,0,none⟩ (.int .i64 t.kind)).setCell ⟨w.heap.size,1,none⟩ (.int .i64 t.r)).setCell ⟨w.heap.size,2,none⟩ (.slice a4 t.len c4))):=Chg.setNewP (Chg.setNewP (Chg.setNewP (K.out.trans k2) (Nat.le_refl _) _) (Nat.le_refl _) _) (Nat.le_refl _) _
  have hno:¬ w1.heap.size≤w.heap.size:=by have:=hsz.out;omega
  have D4:Hid ((Lay.tt (d+1)).In (((w2.setCell ⟨w.heap.size,0,none⟩ (.int .i64 t.kind)).setCell ⟨w.heap.size,1,none⟩ (.int .i64 t.r)).setCell ⟨w.heap.size,2,none⟩ (.slice a4 t.len c4)) (fun g=>w.heap.size≤g) t [.int .i64 t.kind,.int .i64 t.r,.slice a4 t.len c4]) :=
    Lay.mono (Lay.setCell (Lay.setCell (Lay.setCell ht4 (p:=⟨w.heap.size,0,none⟩) hno _) (p:=⟨w.heap.size,1,none⟩) hno _) (p:=⟨w.heap.size,2,none⟩) hno _) (fun k hk _=>by have:=hsz.out;omega)
  have M2:Hid (typP l e d p=.ok (t,p2)):=m2
  clear X2 r2 k2 ht4 m2 X K H hno
  go_wp2
  generalize (((w2.setCell ⟨w.heap.size,0,none⟩ (.int .i64 t.kind)).setCell ⟨w.heap.size,1,none⟩ (.int .i64 t.r)).setCell ⟨w.heap.size,2,none⟩ (.slice a4 t.len c4))=w9 at D1 D2 D3 D4 ⊢
  have x0:=cellOf D1.out 0 _ rfl
  have x1:=cellOf D1.out 1 _ rfl
  have x2:=cellOf D1.out 2 _ rfl
  exact bodyPost_ret (v:=.agg #[.int .i64 t.kind,.int .i64 t.r,.slice a4 t.len c4]) (by simp [results,Tryz.results164,go_sem,x0,x1,x2]) rfl (Out.good M2.out ⟨a4,c4,rfl,D4.out⟩ D2.out D3.out)
theorem plistT_any {w : World} {b e p : Nat} {l : List Tk} (d : Nat) (dp : Int) (IH0 : POne d dp) {B1 B2 : Nat} {T1 T2 : TypeId} (hb1 : Blk w B1 #[ptrP b] T1) (hb2 : Blk w B2 #[.int .i64 dp] T2) (hn1 : B1 ≠ b) (hn2 : B2 ≠ b) (h : PAt w b l e p) :
    Calls Tryz.prog 163 #[ptrP b,.string (str [40]),.string (str [41]),.func (.func 164) #[] #[ptrP B1,ptrP B2]] w fun en w'=>Out b e l (inP l e (typP l e d) [40] [41] p) w (VTyps d w) en w':=by
  have hbw:=h.lt
  have H:Hid (PAt w b l e p):=h
  have hE:=enters_types1
  unfold Enters at hE
  obtain ⟨i0,hi,hz0,hz1,hz2⟩:=pInfoT
  have IH:Hid (POne d dp):=IH0
  have X1:Hid (∀ w',Chg b w w'→Blk w' B1 #[ptrP b] T1):=fun w' k=>hb1.chg k hn1
  have X2:Hid (∀ w',Chg b w w'→Blk w' B2 #[.int .i64 dp] T2):=fun w' k=>hb2.chg k hn2
  clear h IH0 hb1 hb2
  go_enter Tryz.func163,Tryz.ntmps163
  go_wp2_with fail
  refine (pmust_any [40] (by decide) H.out).mono ?_
  intro e' w1 hO
  rcases hO with ⟨⟨⟩,p1,x,m1,rfl,rfl,r1,k1⟩ | ⟨y,c,a,m1,rfl,hc,k1⟩
  rotate_left
  · exact ⟨rfl,Out.bad (in_bad0 m1) hc k1⟩
  have M1:Hid (mustP l e [40] p=.ok ((),p1)):=m1
  have R1:Hid (PAt w1 b l e p1):=r1
  have K1:Hid (Chg b w w1):=k1
  clear m1 r1 k1 H
  go_wp2_with fail
  refine (took_any [41] (by decide) R1.out).mono ?_
  intro e' w2 hO
  cases hw:isW l [41] p1 with
  | true =>
    rw [hw] at hO
    obtain ⟨rfl,r2,k2⟩:=hO
    have Z:Hid (Out b e l (inP l e (typP l e d) [40] [41] p) w (VTyps d w) (.returned (.slice none 0 0)) w2):=Out.good (in_none M1.out hw) ⟨none,0,rfl,Lay.list_nil _ _ _ _ _⟩ r2 (K1.out.trans k2)
    clear r2 k2 hw M1 R1 K1
    go_wp2
    go_ret
    exact Z.out
  | false =>
    rw [hw] at hO
    obtain ⟨rfl,r2,k2⟩:=hO
    have S2:Hid (LstQ l e (typP l e d) [41] p1 p1 []):=LstQ.start hw
    have R2:Hid (PAt w2 b l e p1):=r2
    have K2:Hid (Chg b w w2):=K1.out.trans k2
    clear r2 k2 hw R1 K1
    go_wp2_with fail
    go_loopw [9] (fun v wr=>∃ xs cs p2,ARow (Lay.tt (d+1)) 78 wr w.heap.size v xs cs∧PAt wr b l e p2∧Chg b w wr∧LstQ l e (typP l e d) [41] p1 p2 xs) (fun v _=>102 - lenP v)
    case atStart=>exact ⟨[],[],p1,ARow.nil _ _ _ _,R2.out,K2.out,S2.out⟩
    case round =>
      obtain ⟨xs,cs,p2,hrow,hr,hk,hl⟩:=hrel
      obtain ⟨a,c,rfl⟩:=hrow.formP
      have A2:Hid (ARow (Lay.tt (d+1)) 78 wr w.heap.size (.slice a xs.length c) xs cs):=hrow
      have R2:Hid (PAt wr b l e p2):=hr
      have K2:Hid (Chg b w wr):=hk
      have L2:Hid (LstQ l e (typP l e d) [41] p1 p2 xs):=hl
      have hn:xs.length≤100:=hl.le
      clear hrow hr hk hl S2
      go_wp2_with fail
      refine (ptyp1_any IH.out (X1.out _ K2.out) (X2.out _ K2.out) R2.out).mono ?_
      intro e' w4 hO
      rcases hO with ⟨t,p3,x,m3,rfl,⟨a4,c4,rfl,ht4⟩,r4,k4⟩ | ⟨y,c',a',m3,rfl,hc,k4⟩
      rotate_left
      · exact ⟨rfl,Out.bad (in_bad M1.out (L2.out.bad m3)) hc (K2.out.trans k4)⟩
      have M3:Hid (typP l e d p2=.ok (t,p3)):=m3
      have T4:Hid ((Lay.tt (d+1)).In w4 (fun g=>wr.heap.size≤g) t [.int .i64 t.kind,.int .i64 t.r,.slice a4 t.len c4]):=ht4
      have S2:Hid (w.heap.size≤wr.heap.size):=K2.out.size
      have A2':=A2
      have A4:Hid (ARow (Lay.tt (d+1)) 78 w4 w.heap.size (.slice a xs.length c) xs cs):=A2.out.chgP k4 hbw
      have R4:Hid (PAt w4 b l e p3):=r4
      have K4:Hid (Chg b w w4):=K2.out.trans k4
      have hsz:=K4.out.size
      have hown:Hid (w4.ownsRow w.heap.size 78 3 (.slice a xs.length c) xs.length cs):=A4.out.own
      have PU:Hid (∀ g cap w9,w9.ownsRow w.heap.size 78 3 (.slice (some ⟨g,0,none⟩) (xs.length+1) cap) (xs.length+1) (cs++[.int .i64 t.kind,.int .i64 t.r,.slice a4 t.len c4])→(w4.alloc (.cells #[.int .i64 t.kind,.int .i64 t.r,.slice a4 t.len c4] 78)).grownBy w9 (Value.slice a xs.length c).ownBlock→((Value.slice a xs.length c).ownBlock=some g∨g=w4.heap.size+1) →
          (∃ cs',ARow (Lay.tt (d+1)) 78 w9 w.heap.size (.slice (some ⟨g,0,none⟩) (xs.length+1) cap) (xs++[t]) cs')∧PAt w9 b l e p3∧Chg b w w9):=by
        intro g cap w9 h1 h2 h3
        have b5:Below w4.heap.size w4 (w4.alloc (.cells #[.int .i64 t.kind,.int .i64 t.r,.slice a4 t.len c4] 78)):=bel1 _ _
        have A5:=A4.out.below b5
        have T5:(Lay.tt (d+1)).In (w4.alloc (.cells #[.int .i64 t.kind,.int .i64 t.r,.slice a4 t.len c4] 78)) (fun g=>w.heap.size≤g∧(Value.slice a xs.length c).ownBlock≠some g) t [.int .i64 t.kind,.int .i64 t.r,.slice a4 t.len c4] :=
          Lay.alloc (Lay.mono T4.out (fun k hk _=>⟨Nat.le_trans S2.out hk,fun e=>by have:=(A2'.out.lo_le e).2;omega⟩)) _
        refine ⟨⟨_,ARow.push A5 T5 h2 (by simpa using h3) h1⟩,(R4.out.below b5).grown h2 (fun k hk=>by have:=(A5.lo_le hk).1;omega),(K4.out.allocP _).grownP h2 (fun k hk=>(A5.lo_le hk).1)⟩
      clear r4 k4 m3 A2 R2 K2 ht4
      generalize t.kind=kx at PU ⊢
      generalize t.r=rx at PU ⊢
      generalize t.len=lx at PU ⊢
      go_wp2_with (at_builtin;refine wpList_append_lies _ rfl (.tmp 16) (.tmp 19) 39 rfl w.heap.size 78 i0 (.agg #[.int .i64 0,.int .i64 0,.slice none 0 0]) 3 40 pUnderT hi hz0 hz1 hz2 rfl (by decide) _ _ _ rfl (hown.out.alloc _) ⟨w4.heap.size,0,none⟩ 1 1 [.int .i64 kx,.int .i64 rx,.slice a4 lx c4] rfl rfl (newsP _ [_,_,_] _) (pOneT _ _ _ _ _) (by decide) (by unfold maxLen;omega) (by omega) (by simp;omega) (w4.heap.size+1) (by simp) ?_)
      intro g2 cap2 w9 h1 hgrow hat hlt1
      have U2:=PU.out g2 cap2 w9 h1 hgrow hat
      obtain ⟨⟨cs',q1⟩,q2,q3⟩:=U2
      have A9:Hid (ARow (Lay.tt (d+1)) 78 w9 w.heap.size (.slice (some ⟨g2,0,none⟩) (xs.length+1) cap2) (xs++[t]) cs'):=q1
      have R9:Hid (PAt w9 b l e p3):=q2
      have K9:Hid (Chg b w w9):=q3
      clear h1 hgrow hat hlt1 hown PU q1 q2 q3 A4 R4 K4 T4 S2 A2'
      by_cases h100:xs.length+1≤100
      · have h100':¬ (100:Int)<(xs.length:Int)+1:=by omega
        go_wp2_with fail
        refine (took_any [41] (by decide) R9.out).mono ?_
        intro e' w10 hO
        cases hw:isW l [41] p3 with
        | true =>
          rw [hw] at hO
          obtain ⟨rfl,r10,k10⟩:=hO
          have A10:=A9.out.chgP k10 hbw
          have Z:Hid (Out b e l (inP l e (typP l e d) [40] [41] p) w (VTyps d w) (.returned (.slice (some ⟨g2,0,none⟩) (xs.length+1) cap2)) w10) :=
            Out.good (v:=xs++[t]) (in_some M1.out (L2.out.stop M3.out h100 hw) hw) ⟨some ⟨g2,0,none⟩,cap2,by simp,by simpa using A10.lay⟩ r10 (K9.out.trans k10)
          clear r10 k10 A10 A9 R9 K9 M1 L2 M3
          go_wp2
          go_ret
          exact Z.out
        | false =>
          rw [hw] at hO
          obtain ⟨rfl,r10,k10⟩:=hO
          have A10:Hid (ARow (Lay.tt (d+1)) 78 w10 w.heap.size (.slice (some ⟨g2,0,none⟩) (xs.length+1) cap2) (xs++[t]) cs'):=A9.out.chgP k10 hbw
          have R10:Hid (PAt w10 b l e p3):=r10
          have K10:Hid (Chg b w w10):=K9.out.trans k10
          have HW:Hid (isW l [41] p3=false):=hw
          clear r10 k10 A9 R9 K9 hw
          go_wp2_with fail
          refine (pmust_any [44] (by decide) R10.out).mono ?_
          intro e' w11 hO
          rcases hO with ⟨⟨⟩,p4,x,m4,rfl,rfl,r11,k11⟩ | ⟨y,c',a',m4,rfl,hc,k11⟩
          rotate_left
          · exact ⟨rfl,Out.bad (in_bad M1.out (L2.out.comma M3.out h100 HW.out m4)) hc (K10.out.trans k11)⟩
          have A11:Hid (ARow (Lay.tt (d+1)) 78 w11 w.heap.size (.slice (some ⟨g2,0,none⟩) (xs.length+1) cap2) (xs++[t]) cs'):=A10.out.chgP k11 hbw
          have R11:Hid (PAt w11 b l e p4):=r11
          have K11:Hid (Chg b w w11):=K10.out.trans k11
          have L11:Hid (LstQ l e (typP l e d) [41] p1 p4 (xs++[t])):=L2.out.go M3.out h100 HW.out m4
          clear r11 k11 m4 A10 R10 K10
          go_wp2
          go_roundw
          case rel=>exact ⟨xs++[t],cs',p4,A11.out,R11.out,K11.out,L11.out⟩
          case measure=>simp [lenP];omega
      · have h100':(100:Int)<(xs.length:Int)+1:=by omega
        obtain ⟨y,hy⟩:=L2.out.many M3.out h100
        have Y:Hid (inP l e (typP l e d) [40] [41] p=.error y):=in_bad M1.out hy
        clear hy
        go_wp2_with fail
        refine (giveUp_any 2 (by decide) R9.out).mono ?_
        rintro e' w10 ⟨⟨c',a',rfl,hc⟩,rfl⟩
        exact ⟨rfl,Out.bad Y.out hc K9.out⟩
theorem ptypes_any {w : World} {b e p : Nat} {l : List Tk} {d : Nat} {dp : Int} (IH0 : POne d dp) (h : PAt w b l e p) :
    Calls Tryz.prog 131 #[ptrP b,.int .i64 dp] w fun en w'=>Out b e l (inP l e (typP l e d) [40] [41] p) w (VTyps d w) en w':=by
  have hbw:=h.lt
  have hmf:∀ (fn:Fn) (first cap:Array Value) (w:World),(Instr.makeFunc fn first cap).run Tryz.prog w=.ok (.func fn first cap) w:=fun _ _ _ _=>rfl
  have H:Hid (PAt ((w.alloc (.cells #[ptrP b] 101)).alloc (.cells #[.int .i64 dp] 3)) b l e p):=h.below (bel2 _ _ _)
  have X1:Hid (Blk ((w.alloc (.cells #[ptrP b] 101)).alloc (.cells #[.int .i64 dp] 3)) w.heap.size #[ptrP b] 101):=Blk.new1 _ _ _ _ _
  have X2:Hid (Blk ((w.alloc (.cells #[ptrP b] 101)).alloc (.cells #[.int .i64 dp] 3)) (w.heap.size+1) #[.int .i64 dp] 3):=Blk.new2 _ _ _ _
  have K:Hid (Chg b w ((w.alloc (.cells #[ptrP b] 101)).alloc (.cells #[.int .i64 dp] 3))):=Chg.below (bel2 _ _ _)
  have IH:Hid (POne d dp):=IH0
  clear h IH0
  go_enter Tryz.func131,Tryz.ntmps131
  go_wp2_with fail
  generalize (w.alloc (.cells #[ptrP b] 101)).alloc (.cells #[.int .i64 dp] 3)=w1 at H X1 X2 K ⊢
  refine (plistT_any d dp IH.out X1.out X2.out (by omega) (by omega) H.out).mono ?_
  intro e' w2 hO
  rcases hO with ⟨v,p1,x,m1,rfl,⟨a4,c4,rfl,hv⟩,r1,k1⟩ | ⟨y,c',a',m1,rfl,hc',k1⟩
  rotate_left
  · exact ⟨rfl,Out.bad m1 hc' (K.out.trans k1)⟩
  have O:Hid (Out b e l (inP l e (typP l e d) [40] [41] p) w (VTyps d w) (.returned (.slice a4 v.length c4)) w2):=Out.good m1 ⟨a4,c4,rfl,Lay.mono hv (fun k hk _=>Nat.le_trans K.out.size hk)⟩ r1 (K.out.trans k1)
  clear m1 hv r1 k1 H X1 X2 K
  go_wp2
  go_ret
  exact O.out
section
variable {l : List Tk} {e p : Nat} {ws : List (List UInt8)}
theorem which_is {i : Nat} (h : whichP l ws p = i + 1) : ∃ s, ws[i]? = some s ∧ isW l s p = true := by
  unfold whichP at h
  split at h
  · rename_i ha
    have hi:ws.findIdx (fun s=>isW l s p)=i:=by omega
    have hlt:ws.findIdx (fun s=>isW l s p)<ws.length:=by rw [List.findIdx_lt_length];exact List.any_eq_true.1 ha
    have hg:=List.findIdx_getElem (w:=hlt)
    refine ⟨ws[ws.findIdx (fun s=>isW l s p)],?_,hg⟩
    rw [← hi]
    exact List.getElem?_eq_getElem hlt
  · omega
theorem which_none (h : whichP l ws p = 0) : ∀ s ∈ ws, isW l s p = false := by
  unfold whichP at h
  split at h
  · omega
  · rename_i ha
    intro s hs
    cases hw:isW l s p with
    | false=>rfl
    | true=>exact absurd (List.any_eq_true.2 ⟨s,hs,hw⟩) ha
theorem isW_other {s t : List UInt8} (h : isW l s p = true) (hne : t ≠ s) : isW l t p = false := by
  cases hw:isW l t p with
  | false=>rfl
  | true=>exact absurd (isW_one hw h) hne
theorem typ_k0 {d : Nat} (h : whichP l typeWords p = 0) : ∃ x, typP l e (d + 1) p = .error x := by
  have h1:=which_none h
  rw [typP,if_neg (by simp [h1 wInt (by decide)]),if_neg (by simp [h1 wHandle (by decide)]),if_neg (by simp [h1 wArray (by decide)]),mustP,if_neg (by simp [h1 wTuple (by decide)])]
  exact ⟨_,rfl⟩
theorem typ_k1 {d : Nat} (h : whichP l typeWords p = 1) : typP l e (d + 1) p = .ok ((1, 0, []), p + 1) := by
  obtain ⟨s,hs,hw⟩:=which_is (i:=0) h
  injection hs with hs;subst hs
  rw [typP,if_pos hw]
theorem typ_k2 {d : Nat} (h : whichP l typeWords p = 2) : typP l e (d + 1) p = PR.andThen (numP l e (p + 1)) fun r q => (.ok (((2, r, []) : TT (d + 2)), q) : PR (TT (d + 2))) := by
  obtain ⟨s,hs,hw⟩:=which_is (i:=1) h
  injection hs with hs;subst hs
  rw [typP,if_neg (by simp [isW_other hw (t:=wInt) (by decide)]),if_pos hw]
theorem typ_k4 {d : Nat} (h : whichP l typeWords p = 4) : typP l e (d + 1) p = PR.andThen (numP l e (p + 1)) fun r q => (.ok (((4, r, []) : TT (d + 2)), q) : PR (TT (d + 2))) := by
  obtain ⟨s,hs,hw⟩:=which_is (i:=3) h
  injection hs with hs;subst hs
  rw [typP,if_neg (by simp [isW_other hw (t:=wInt) (by decide)]),if_neg (by simp [isW_other hw (t:=wHandle) (by decide)]),if_pos hw]
theorem typ_k3 {d : Nat} (h : whichP l typeWords p = 3) : typP l e (d + 1) p = PR.andThen (numP l e (p + 1)) fun r p2 => PR.andThen (inP l e (typP l e d) [40] [41] p2) fun ts p3 => (.ok (((3, r, ts) : TT (d + 2)), p3) : PR (TT (d + 2))) := by
  obtain ⟨s,hs,hw⟩:=which_is (i:=2) h
  injection hs with hs;subst hs
  rw [typP,if_neg (by simp [isW_other hw (t:=wInt) (by decide)]),if_neg (by simp [isW_other hw (t:=wHandle) (by decide)]),if_neg (by simp [isW_other hw (t:=wArray) (by decide)]),mustP,if_pos hw,PR.ok_andThen]
theorem which_lt (h : whichP l ws p ≠ 0) : p < l.length := by
  obtain ⟨x,hx⟩:=which_some h
  exact lt_of_tok hx
end
theorem FB.beside {w0 w2 : World} {b e p R : Nat} {l : List Tk} {rc : Array Value} {T : TypeId} (bc : Array Value) (h : PAt w2 b l e p) (hr : Blk w2 R rc T) (hk : Chg b w0 w2) (hb : b < R) (h0 : w0.heap.size ≤ R) : FB w0 (w2.alloc (.cells bc T)) b e l p R w2.heap.size rc bc T :=
  ⟨h.below (bel1 _ _),hr.alloc _,Blk.new _ _ _,hk.trans (Chg.below (bel1 _ _)),hb,hr.lt,h0⟩
theorem tt_leaf {w : World} {O : Nat → Prop} {n : Nat} {k r : Int} {a : Option Addr} {c : Nat} (hk : -9223372036854775808 ≤ k ∧ k ≤ 9223372036854775807) (hr : -9223372036854775808 ≤ r ∧ r ≤ 9223372036854775807) : (Lay.tt (n + 1)).In w O ((k, r, []) : TT (n + 1)) [.int .i64 k, .int .i64 r, .slice a 0 c] :=
  ⟨a,c,rfl,LIn.tree LIn.nil,hr,fun x h=>by simp at h⟩
theorem tt_tree {w : World} {O : Nat → Prop} {n : Nat} {k r : Int} {ts : List (TT n)} {a : Option Addr} {c : Nat} (hk : -9223372036854775808 ≤ k ∧ k ≤ 9223372036854775807) (hr : -9223372036854775808 ≤ r ∧ r ≤ 9223372036854775807) (h : (typesL n).In w O ts [.slice a ts.length c]) : (Lay.tt (n + 1)).In w O ((k, r, ts) : TT (n + 1)) [.int .i64 k, .int .i64 r, .slice a ts.length c] :=
  ⟨a,c,rfl,LIn.tree (types_lin h).1,hr,(types_lin h).2⟩
theorem pone_k0 {w : World} {b e p : Nat} {l : List Tk} (d : Nat) (dp : Int) (h : PAt w b l e p) (hk : whichP l typeWords p = 0) :
    Calls Tryz.prog 165 #[ptrP b,.int .i64 dp] w fun en w'=>Out b e l (typP l e (d+1) p) w (VTyp (d+1) w) en w':=by
  have hbw:=h.lt
  obtain ⟨y,hy⟩:=typ_k0 (e:=e) (d:=d) hk
  have HE:Hid (typP l e (d+1) p=.error y):=hy
  have H1:Hid (PAt (w.alloc (.cells #[.int .i64 0,.int .i64 0,.slice none 0 0] 78)) b l e p):=h.below (bel1 _ _)
  have K1:Hid (Chg b w (w.alloc (.cells #[.int .i64 0,.int .i64 0,.slice none 0 0] 78))):=Chg.below (bel1 _ _)
  have HK:Hid (whichP l typeWords p=0):=hk
  clear h hk hy
  go_enter Tryz.func165,Tryz.ntmps165
  go_wp2_with fail
  generalize w.alloc (.cells #[.int .i64 0,.int .i64 0,.slice none 0 0] 78)=w1 at H1 K1 ⊢
  refine (pmustWhich_any 198 typeWords enters_typeWord ptypeWord_any typeWords_wordly (by decide) H1.out).mono ?_
  intro e' w2 hO
  rcases hO with ⟨h0,_⟩ | ⟨_,⟨c,a,rfl,hc⟩,b2⟩
  · exact absurd HK.out h0
  · exact ⟨rfl,Out.bad HE.out hc (K1.out.trans (Chg.below b2))⟩
theorem pone_zero : POne 0 5 := by
  intro w b e l p h
  have hbw:=h.lt
  have HE:Hid (typP l e 0 p=.error (wrongAt l e 19 p)):=rfl
  have H1:Hid (PAt (w.alloc (.cells #[.int .i64 0,.int .i64 0,.slice none 0 0] 78)) b l e p):=h.below (bel1 _ _)
  have K1:Hid (Chg b w (w.alloc (.cells #[.int .i64 0,.int .i64 0,.slice none 0 0] 78))):=Chg.below (bel1 _ _)
  clear h
  go_enter Tryz.func165,Tryz.ntmps165
  go_wp2_with fail
  generalize w.alloc (.cells #[.int .i64 0,.int .i64 0,.slice none 0 0] 78)=w1 at H1 K1 ⊢
  refine (pmustWhich_any 198 typeWords enters_typeWord ptypeWord_any typeWords_wordly (by decide) H1.out).mono ?_
  intro e' w2 hO
  rcases hO with ⟨h0,rfl,b2⟩ | ⟨_,⟨c,a,rfl,hc⟩,b2⟩
  · have H2:Hid (PAt w2 b l e p):=H1.out.below b2
    have K2:Hid (Chg b w w2):=K1.out.trans (Chg.below b2)
    clear b2 H1 K1 h0
    go_wp2_with fail
    refine (giveUp_any 19 (by decide) (H2.out.below (bel1 _ _))).mono ?_
    rintro e' w3 ⟨⟨c,a,rfl,hc⟩,rfl⟩
    exact ⟨rfl,Out.bad HE.out hc (K2.out.trans (Chg.below (bel1 _ _)))⟩
  · exact ⟨rfl,Out.bad HE.out hc (K1.out.trans (Chg.below b2))⟩
theorem pone_k1 {w : World} {b e p : Nat} {l : List Tk} (d : Nat) (dp : Int) (hd0 : 0 ≤ dp) (hd4 : dp ≤ 4) (h : PAt w b l e p) (hk : whichP l typeWords p = 1) :
    Calls Tryz.prog 165 #[ptrP b,.int .i64 dp] w fun en w'=>Out b e l (typP l e (d+1) p) w (VTyp (d+1) w) en w':=by
  have hbw:=h.lt
  have HL:Hid (p<l.length):=which_lt (by rw [hk];decide)
  have HE:Hid (typP l e (d+1) p=.ok ((1,0,[]),p+1)):=typ_k1 hk
  have H1:Hid (PAt (w.alloc (.cells #[.int .i64 0,.int .i64 0,.slice none 0 0] 78)) b l e p):=h.below (bel1 _ _)
  have X1:Hid (Blk (w.alloc (.cells #[.int .i64 0,.int .i64 0,.slice none 0 0] 78)) w.heap.size #[.int .i64 0,.int .i64 0,.slice none 0 0] 78):=Blk.new _ _ _
  have K1:Hid (Chg b w (w.alloc (.cells #[.int .i64 0,.int .i64 0,.slice none 0 0] 78))):=Chg.below (bel1 _ _)
  have C:Hid (∀ w1:World,PAt w1 b l e p→Calls Tryz.prog 197 #[ptrP b,.func (.func 198) #[] #[]] w1 fun en w'=>en=.returned (.int .i64 1)∧Below w1.heap.size w1 w'):=fun w1 h1=>by
    have:=pmustWhich_any 198 typeWords enters_typeWord ptypeWord_any typeWords_wordly (by decide) h1
    rw [hk] at this
    refine this.mono fun en w' hO=>?_
    rcases hO with ⟨_,he,hb⟩ | ⟨h0,_⟩
    · exact ⟨he,hb⟩
    · cases h0
  clear h hk
  go_enter Tryz.func165,Tryz.ntmps165
  go_wp2_with fail
  generalize w.alloc (.cells #[.int .i64 0,.int .i64 0,.slice none 0 0] 78)=w1 at H1 X1 K1 ⊢
  refine (C.out w1 H1.out).mono ?_
  rintro e' w2 ⟨rfl,b2⟩
  have F0:Hid (FB w (w2.alloc (.cells #[.int .i64 1,.int .i64 0,.slice none 0 0] 78)) b e l p w.heap.size w2.heap.size #[.int .i64 0,.int .i64 0,.slice none 0 0] #[.int .i64 1,.int .i64 0,.slice none 0 0] 78):=FB.beside _ (H1.out.below b2) (X1.out.below b2) (K1.out.trans (Chg.below b2)) hbw (Nat.le_refl _)
  clear b2 H1 X1 K1 C
  go_wp2_with fail
  generalize w2.alloc (.cells #[.int .i64 1,.int .i64 0,.slice none 0 0] 78)=w3 at F0 ⊢
  generalize w2.heap.size=B at F0 ⊢
  have hRB:w.heap.size<B:=F0.out.RB
  refine (take_any F0.out.rd HL.out).mono ?_
  rintro e' w4 ⟨rfl,r4,k4⟩
  have F4:Hid (FB w w4 b e l (p+1) w.heap.size B #[.int .i64 0,.int .i64 0,.slice none 0 0] #[.int .i64 1,.int .i64 0,.slice none 0 0] 78):=F0.out.call r4 k4
  have y0:=cellOf F4.out.box 0 _ rfl
  clear r4 k4 F0
  obtain ⟨y0,y1,y2⟩:=cells3 F4.out.box
  obtain ⟨u0,u1,u2⟩:=cells3 F4.out.res
  obtain ⟨v0,v1,v2⟩:=frees3 F4.out.res
  have hne:¬ B=w.heap.size:=by omega
  go_wp2
  have DD:Hid (FinD _ _ _ _ _ _ _ #[.int .i64 1,.int .i64 0,.slice none 0 0] (((w4.setCell ⟨w.heap.size,0,none⟩ (.int .i64 1)).setCell ⟨w.heap.size,1,none⟩ (.int .i64 0)).setCell ⟨w.heap.size,2,none⟩ (.slice none 0 0))):=FB.fin F4.out [.int .i64 1,.int .i64 0,.slice none 0 0] rfl
  clear u0 v0 y1 u1 v1 y2 u2 v2
  generalize (((w4.setCell ⟨w.heap.size,0,none⟩ (.int .i64 1)).setCell ⟨w.heap.size,1,none⟩ (.int .i64 0)).setCell ⟨w.heap.size,2,none⟩ (.slice none 0 0))=w9 at DD ⊢
  obtain ⟨D1,D2,D3⟩:=DD.out
  obtain ⟨x0,x1,x2⟩:=cells3 D1
  exact bodyPost_ret (v:=.agg #[.int .i64 1,.int .i64 0,.slice none 0 0]) (by simp [results,Tryz.results165,go_sem,x0,x1,x2]) rfl (Out.good (HE.out) (⟨none,0,rfl,tt_leaf ⟨by decide,by decide⟩ ⟨by decide,by decide⟩⟩) D2 D3)
theorem pone_k2 {w : World} {b e p : Nat} {l : List Tk} (d : Nat) (dp : Int) (hd0 : 0 ≤ dp) (hd4 : dp ≤ 4) (h : PAt w b l e p) (hk : whichP l typeWords p = 2) :
    Calls Tryz.prog 165 #[ptrP b,.int .i64 dp] w fun en w'=>Out b e l (typP l e (d+1) p) w (VTyp (d+1) w) en w':=by
  have hbw:=h.lt
  have HL:Hid (p<l.length):=which_lt (by rw [hk];decide)
  have HE:Hid (typP l e (d+1) p=PR.andThen (numP l e (p+1)) fun r q=>(.ok (((2,r,[]):TT (d+2)),q):PR (TT (d+2)))):=typ_k2 hk
  have H1:Hid (PAt (w.alloc (.cells #[.int .i64 0,.int .i64 0,.slice none 0 0] 78)) b l e p):=h.below (bel1 _ _)
  have X1:Hid (Blk (w.alloc (.cells #[.int .i64 0,.int .i64 0,.slice none 0 0] 78)) w.heap.size #[.int .i64 0,.int .i64 0,.slice none 0 0] 78):=Blk.new _ _ _
  have K1:Hid (Chg b w (w.alloc (.cells #[.int .i64 0,.int .i64 0,.slice none 0 0] 78))):=Chg.below (bel1 _ _)
  have C:Hid (∀ w1:World,PAt w1 b l e p→Calls Tryz.prog 197 #[ptrP b,.func (.func 198) #[] #[]] w1 fun en w'=>en=.returned (.int .i64 2)∧Below w1.heap.size w1 w'):=fun w1 h1=>by
    have:=pmustWhich_any 198 typeWords enters_typeWord ptypeWord_any typeWords_wordly (by decide) h1
    rw [hk] at this
    refine this.mono fun en w' hO=>?_
    rcases hO with ⟨_,he,hb⟩ | ⟨h0,_⟩
    · exact ⟨he,hb⟩
    · cases h0
  clear h hk
  go_enter Tryz.func165,Tryz.ntmps165
  go_wp2_with fail
  generalize w.alloc (.cells #[.int .i64 0,.int .i64 0,.slice none 0 0] 78)=w1 at H1 X1 K1 ⊢
  refine (C.out w1 H1.out).mono ?_
  rintro e' w2 ⟨rfl,b2⟩
  have F0:Hid (FB w (w2.alloc (.cells #[.int .i64 2,.int .i64 0,.slice none 0 0] 78)) b e l p w.heap.size w2.heap.size #[.int .i64 0,.int .i64 0,.slice none 0 0] #[.int .i64 2,.int .i64 0,.slice none 0 0] 78):=FB.beside _ (H1.out.below b2) (X1.out.below b2) (K1.out.trans (Chg.below b2)) hbw (Nat.le_refl _)
  clear b2 H1 X1 K1 C
  go_wp2_with fail
  generalize w2.alloc (.cells #[.int .i64 2,.int .i64 0,.slice none 0 0] 78)=w3 at F0 ⊢
  generalize w2.heap.size=B at F0 ⊢
  have hRB:w.heap.size<B:=F0.out.RB
  refine (take_any F0.out.rd HL.out).mono ?_
  rintro e' w4 ⟨rfl,r4,k4⟩
  have F4:Hid (FB w w4 b e l (p+1) w.heap.size B #[.int .i64 0,.int .i64 0,.slice none 0 0] #[.int .i64 2,.int .i64 0,.slice none 0 0] 78):=F0.out.call r4 k4
  have y0:=cellOf F4.out.box 0 _ rfl
  clear r4 k4 F0
  go_wp2_with fail
  refine (FB.callNums F4.out [1] (by simp) rfl (by decide) (by simp)).mono ?_
  intro e' w5 hO
  rcases hO with ⟨ns,p5,m5,rfl,hx5,r5,k5⟩ | ⟨y,c',a',m5,rfl,hc',k5⟩
  rotate_left
  · exact ⟨rfl,Out.bad (by rw [HE.out,nums1_eq,show numsP l e 1 (p+1)=_ from m5];rfl) hc' k5⟩
  have hl5:=nums_len m5
  obtain ⟨nr,rfl⟩:∃ nr,ns=[nr]:=by
    match ns,hl5 with
    | [nr],_=>exact ⟨nr,rfl⟩
  have Bnr:Hid (0≤nr∧nr≤1000000):=hx5 nr (by simp)
  have E5:Hid (numsP l e 1 (p+1)=.ok ([nr],p5)):=m5
  have G5:Hid (FB _ _ _ _ _ _ _ _ _ #[.int .i64 2,.int .i64 nr,.slice none 0 0] _):=r5
  clear m5 r5 k5 hx5 hl5 F4
  obtain ⟨y0,y1,y2⟩:=cells3 G5.out.box
  obtain ⟨u0,u1,u2⟩:=cells3 G5.out.res
  obtain ⟨v0,v1,v2⟩:=frees3 G5.out.res
  have hne:¬ B=w.heap.size:=by omega
  go_wp2
  have DD:Hid (FinD _ _ _ _ _ _ _ #[.int .i64 2,.int .i64 nr,.slice none 0 0] (((w5.setCell ⟨w.heap.size,0,none⟩ (.int .i64 2)).setCell ⟨w.heap.size,1,none⟩ (.int .i64 nr)).setCell ⟨w.heap.size,2,none⟩ (.slice none 0 0))):=FB.fin G5.out [.int .i64 2,.int .i64 nr,.slice none 0 0] rfl
  clear y0 u0 v0 y1 u1 v1 y2 u2 v2
  generalize (((w5.setCell ⟨w.heap.size,0,none⟩ (.int .i64 2)).setCell ⟨w.heap.size,1,none⟩ (.int .i64 nr)).setCell ⟨w.heap.size,2,none⟩ (.slice none 0 0))=w9 at DD ⊢
  obtain ⟨D1,D2,D3⟩:=DD.out
  obtain ⟨x0,x1,x2⟩:=cells3 D1
  exact bodyPost_ret (v:=.agg #[.int .i64 2,.int .i64 nr,.slice none 0 0]) (by simp [results,Tryz.results165,go_sem,x0,x1,x2]) rfl (Out.good (by rw [HE.out,nums1_eq,E5.out,PR.ok_andThen];rfl) (⟨none,0,rfl,tt_leaf ⟨by decide,by decide⟩ (i64_of Bnr.out)⟩) D2 D3)
theorem pone_k4 {w : World} {b e p : Nat} {l : List Tk} (d : Nat) (dp : Int) (hd0 : 0 ≤ dp) (hd4 : dp ≤ 4) (h : PAt w b l e p) (hk : whichP l typeWords p = 4) :
    Calls Tryz.prog 165 #[ptrP b,.int .i64 dp] w fun en w'=>Out b e l (typP l e (d+1) p) w (VTyp (d+1) w) en w':=by
  have hbw:=h.lt
  have HL:Hid (p<l.length):=which_lt (by rw [hk];decide)
  have HE:Hid (typP l e (d+1) p=PR.andThen (numP l e (p+1)) fun r q=>(.ok (((4,r,[]):TT (d+2)),q):PR (TT (d+2)))):=typ_k4 hk
  have H1:Hid (PAt (w.alloc (.cells #[.int .i64 0,.int .i64 0,.slice none 0 0] 78)) b l e p):=h.below (bel1 _ _)
  have X1:Hid (Blk (w.alloc (.cells #[.int .i64 0,.int .i64 0,.slice none 0 0] 78)) w.heap.size #[.int .i64 0,.int .i64 0,.slice none 0 0] 78):=Blk.new _ _ _
  have K1:Hid (Chg b w (w.alloc (.cells #[.int .i64 0,.int .i64 0,.slice none 0 0] 78))):=Chg.below (bel1 _ _)
  have C:Hid (∀ w1:World,PAt w1 b l e p→Calls Tryz.prog 197 #[ptrP b,.func (.func 198) #[] #[]] w1 fun en w'=>en=.returned (.int .i64 4)∧Below w1.heap.size w1 w'):=fun w1 h1=>by
    have:=pmustWhich_any 198 typeWords enters_typeWord ptypeWord_any typeWords_wordly (by decide) h1
    rw [hk] at this
    refine this.mono fun en w' hO=>?_
    rcases hO with ⟨_,he,hb⟩ | ⟨h0,_⟩
    · exact ⟨he,hb⟩
    · cases h0
  clear h hk
  go_enter Tryz.func165,Tryz.ntmps165
  go_wp2_with fail
  generalize w.alloc (.cells #[.int .i64 0,.int .i64 0,.slice none 0 0] 78)=w1 at H1 X1 K1 ⊢
  refine (C.out w1 H1.out).mono ?_
  rintro e' w2 ⟨rfl,b2⟩
  have F0:Hid (FB w (w2.alloc (.cells #[.int .i64 4,.int .i64 0,.slice none 0 0] 78)) b e l p w.heap.size w2.heap.size #[.int .i64 0,.int .i64 0,.slice none 0 0] #[.int .i64 4,.int .i64 0,.slice none 0 0] 78):=FB.beside _ (H1.out.below b2) (X1.out.below b2) (K1.out.trans (Chg.below b2)) hbw (Nat.le_refl _)
  clear b2 H1 X1 K1 C
  go_wp2_with fail
  generalize w2.alloc (.cells #[.int .i64 4,.int .i64 0,.slice none 0 0] 78)=w3 at F0 ⊢
  generalize w2.heap.size=B at F0 ⊢
  have hRB:w.heap.size<B:=F0.out.RB
  refine (take_any F0.out.rd HL.out).mono ?_
  rintro e' w4 ⟨rfl,r4,k4⟩
  have F4:Hid (FB w w4 b e l (p+1) w.heap.size B #[.int .i64 0,.int .i64 0,.slice none 0 0] #[.int .i64 4,.int .i64 0,.slice none 0 0] 78):=F0.out.call r4 k4
  have y0:=cellOf F4.out.box 0 _ rfl
  clear r4 k4 F0
  go_wp2_with fail
  refine (FB.callNums F4.out [1] (by simp) rfl (by decide) (by simp)).mono ?_
  intro e' w5 hO
  rcases hO with ⟨ns,p5,m5,rfl,hx5,r5,k5⟩ | ⟨y,c',a',m5,rfl,hc',k5⟩
  rotate_left
  · exact ⟨rfl,Out.bad (by rw [HE.out,nums1_eq,show numsP l e 1 (p+1)=_ from m5];rfl) hc' k5⟩
  have hl5:=nums_len m5
  obtain ⟨nr,rfl⟩:∃ nr,ns=[nr]:=by
    match ns,hl5 with
    | [nr],_=>exact ⟨nr,rfl⟩
  have Bnr:Hid (0≤nr∧nr≤1000000):=hx5 nr (by simp)
  have E5:Hid (numsP l e 1 (p+1)=.ok ([nr],p5)):=m5
  have G5:Hid (FB _ _ _ _ _ _ _ _ _ #[.int .i64 4,.int .i64 nr,.slice none 0 0] _):=r5
  clear m5 r5 k5 hx5 hl5 F4
  obtain ⟨y0,y1,y2⟩:=cells3 G5.out.box
  obtain ⟨u0,u1,u2⟩:=cells3 G5.out.res
  obtain ⟨v0,v1,v2⟩:=frees3 G5.out.res
  have hne:¬ B=w.heap.size:=by omega
  go_wp2
  have DD:Hid (FinD _ _ _ _ _ _ _ #[.int .i64 4,.int .i64 nr,.slice none 0 0] (((w5.setCell ⟨w.heap.size,0,none⟩ (.int .i64 4)).setCell ⟨w.heap.size,1,none⟩ (.int .i64 nr)).setCell ⟨w.heap.size,2,none⟩ (.slice none 0 0))):=FB.fin G5.out [.int .i64 4,.int .i64 nr,.slice none 0 0] rfl
  clear y0 u0 v0 y1 u1 v1 y2 u2 v2
  generalize (((w5.setCell ⟨w.heap.size,0,none⟩ (.int .i64 4)).setCell ⟨w.heap.size,1,none⟩ (.int .i64 nr)).setCell ⟨w.heap.size,2,none⟩ (.slice none 0 0))=w9 at DD ⊢
  obtain ⟨D1,D2,D3⟩:=DD.out
  obtain ⟨x0,x1,x2⟩:=cells3 D1
  exact bodyPost_ret (v:=.agg #[.int .i64 4,.int .i64 nr,.slice none 0 0]) (by simp [results,Tryz.results165,go_sem,x0,x1,x2]) rfl (Out.good (by rw [HE.out,nums1_eq,E5.out,PR.ok_andThen];rfl) (⟨none,0,rfl,tt_leaf ⟨by decide,by decide⟩ (i64_of Bnr.out)⟩) D2 D3)
theorem pone_k3 {w : World} {b e p : Nat} {l : List Tk} (d : Nat) (dp : Int) (hd0 : 0 ≤ dp) (hd4 : dp ≤ 4) (IH : Hid (POne d (dp + 1))) (h : PAt w b l e p) (hk : whichP l typeWords p = 3) :
    Calls Tryz.prog 165 #[ptrP b,.int .i64 dp] w fun en w'=>Out b e l (typP l e (d+1) p) w (VTyp (d+1) w) en w':=by
  have hbw:=h.lt
  have HL:Hid (p<l.length):=which_lt (by rw [hk];decide)
  have HE:Hid (typP l e (d+1) p=PR.andThen (numP l e (p+1)) fun r p2=>PR.andThen (inP l e (typP l e d) [40] [41] p2) fun ts p3=>(.ok (((3,r,ts):TT (d+2)),p3):PR (TT (d+2)))):=typ_k3 hk
  have H1:Hid (PAt (w.alloc (.cells #[.int .i64 0,.int .i64 0,.slice none 0 0] 78)) b l e p):=h.below (bel1 _ _)
  have X1:Hid (Blk (w.alloc (.cells #[.int .i64 0,.int .i64 0,.slice none 0 0] 78)) w.heap.size #[.int .i64 0,.int .i64 0,.slice none 0 0] 78):=Blk.new _ _ _
  have K1:Hid (Chg b w (w.alloc (.cells #[.int .i64 0,.int .i64 0,.slice none 0 0] 78))):=Chg.below (bel1 _ _)
  have C:Hid (∀ w1:World,PAt w1 b l e p→Calls Tryz.prog 197 #[ptrP b,.func (.func 198) #[] #[]] w1 fun en w'=>en=.returned (.int .i64 3)∧Below w1.heap.size w1 w'):=fun w1 h1=>by
    have:=pmustWhich_any 198 typeWords enters_typeWord ptypeWord_any typeWords_wordly (by decide) h1
    rw [hk] at this
    refine this.mono fun en w' hO=>?_
    rcases hO with ⟨_,he,hb⟩ | ⟨h0,_⟩
    · exact ⟨he,hb⟩
    · cases h0
  clear h hk
  go_enter Tryz.func165,Tryz.ntmps165
  go_wp2_with fail
  generalize w.alloc (.cells #[.int .i64 0,.int .i64 0,.slice none 0 0] 78)=w1 at H1 X1 K1 ⊢
  refine (C.out w1 H1.out).mono ?_
  rintro e' w2 ⟨rfl,b2⟩
  have F0:Hid (FB w (w2.alloc (.cells #[.int .i64 3,.int .i64 0,.slice none 0 0] 78)) b e l p w.heap.size w2.heap.size #[.int .i64 0,.int .i64 0,.slice none 0 0] #[.int .i64 3,.int .i64 0,.slice none 0 0] 78):=FB.beside _ (H1.out.below b2) (X1.out.below b2) (K1.out.trans (Chg.below b2)) hbw (Nat.le_refl _)
  clear b2 H1 X1 K1 C
  go_wp2_with fail
  generalize w2.alloc (.cells #[.int .i64 3,.int .i64 0,.slice none 0 0] 78)=w3 at F0 ⊢
  generalize w2.heap.size=B at F0 ⊢
  have hRB:w.heap.size<B:=F0.out.RB
  refine (take_any F0.out.rd HL.out).mono ?_
  rintro e' w4 ⟨rfl,r4,k4⟩
  have F4:Hid (FB w w4 b e l (p+1) w.heap.size B #[.int .i64 0,.int .i64 0,.slice none 0 0] #[.int .i64 3,.int .i64 0,.slice none 0 0] 78):=F0.out.call r4 k4
  have y0:=cellOf F4.out.box 0 _ rfl
  clear r4 k4 F0
  go_wp2_with fail
  refine (FB.callNums F4.out [1] (by simp) rfl (by decide) (by simp)).mono ?_
  intro e' w5 hO
  rcases hO with ⟨ns,p5,m5,rfl,hx5,r5,k5⟩ | ⟨y,c',a',m5,rfl,hc',k5⟩
  rotate_left
  · exact ⟨rfl,Out.bad (by rw [HE.out,nums1_eq,show numsP l e 1 (p+1)=_ from m5];rfl) hc' k5⟩
  have hl5:=nums_len m5
  obtain ⟨nr,rfl⟩:∃ nr,ns=[nr]:=by
    match ns,hl5 with
    | [nr],_=>exact ⟨nr,rfl⟩
  have Bnr:Hid (0≤nr∧nr≤1000000):=hx5 nr (by simp)
  have E5:Hid (numsP l e 1 (p+1)=.ok ([nr],p5)):=m5
  have G5:Hid (FB _ _ _ _ _ _ _ _ _ #[.int .i64 3,.int .i64 nr,.slice none 0 0] _):=r5
  clear m5 r5 k5 hx5 hl5 F4
  have y0:=cellOf G5.out.box 0 _ rfl
  go_wp2_with fail
  refine (ptypes_any IH.out G5.out.rd).mono ?_
  intro e' w6 hO
  rcases hO with ⟨ts,p6,x6,m6,rfl,⟨ax,cx,rfl,hi6⟩,r6,k6⟩ | ⟨y,c',a',m6,rfl,hc',k6⟩
  rotate_left
  · exact ⟨rfl,Out.bad (by rw [HE.out,nums1_eq,E5.out,PR.ok_andThen,m6];rfl) hc' (G5.out.chg.trans k6)⟩
  have E6:Hid (inP l e (typP l e d) [40] [41] p5=.ok (ts,p6)):=m6
  have G6:Hid (FB _ _ _ _ _ _ _ _ _ _ _):=G5.out.call r6 k6
  have Kts:Hid (Kid (typesL (d+1)) B w6 ts [.slice ax ts.length cx]):=Kid.mk hi6 G5.out.lt
  clear hi6 y0
  clear m6 r6 k6 G5
  obtain ⟨y0,y1,y2⟩:=cells3 G6.out.box
  obtain ⟨u0,u1,u2⟩:=cells3 G6.out.res
  obtain ⟨v0,v1,v2⟩:=frees3 G6.out.res
  have z2:=freeOf G6.out.box 2
  have hne:¬ B=w.heap.size:=by omega
  go_wp2
  have DD:Hid (FinD _ _ _ _ _ _ _ #[.int .i64 3,.int .i64 nr,.slice ax ts.length cx] ((((w6.setCell ⟨B,2,none⟩ (.slice ax ts.length cx)).setCell ⟨w.heap.size,0,none⟩ (.int .i64 3)).setCell ⟨w.heap.size,1,none⟩ (.int .i64 nr)).setCell ⟨w.heap.size,2,none⟩ (.slice ax ts.length cx))):=FB.fin (FB.set G6.out 2 (.slice ax ts.length cx)) [.int .i64 3,.int .i64 nr,.slice ax ts.length cx] rfl
  have DKts:Hid (Kid _ _ ((((w6.setCell ⟨B,2,none⟩ (.slice ax ts.length cx)).setCell ⟨w.heap.size,0,none⟩ (.int .i64 3)).setCell ⟨w.heap.size,1,none⟩ (.int .i64 nr)).setCell ⟨w.heap.size,2,none⟩ (.slice ax ts.length cx)) _ _):=Kid.sets (Kid.set Kts.out (q:=⟨B,2,none⟩) (Nat.le_refl _) _) (by omega) [.int .i64 3,.int .i64 nr,.slice ax ts.length cx] 0
  clear Kts
  clear y0 u0 v0 y1 u1 v1 y2 u2 v2
  generalize ((((w6.setCell ⟨B,2,none⟩ (.slice ax ts.length cx)).setCell ⟨w.heap.size,0,none⟩ (.int .i64 3)).setCell ⟨w.heap.size,1,none⟩ (.int .i64 nr)).setCell ⟨w.heap.size,2,none⟩ (.slice ax ts.length cx))=w9 at DD DKts ⊢
  obtain ⟨D1,D2,D3⟩:=DD.out
  obtain ⟨x0,x1,x2⟩:=cells3 D1
  exact bodyPost_ret (v:=.agg #[.int .i64 3,.int .i64 nr,.slice ax ts.length cx]) (by simp [results,Tryz.results165,go_sem,x0,x1,x2]) rfl (Out.good (by rw [HE.out,nums1_eq,E5.out,PR.ok_andThen,E6.out,PR.ok_andThen];rfl) (⟨ax,cx,rfl,tt_tree ⟨by decide,by decide⟩ (i64_of Bnr.out) (Kid.out DKts.out (by omega))⟩) D2 D3)
theorem pone_succ (d : Nat) (dp : Int) (hd0 : 0 ≤ dp) (hd4 : dp ≤ 4) (IH : POne d (dp + 1)) : POne (d + 1) dp := by
  intro w b e l p h
  have hle:=which_le (l:=l) (p:=p) typeWords
  have h4:typeWords.length=4:=rfl
  match hk:whichP l typeWords p with
  | 0=>exact pone_k0 d dp h hk
  | 1=>exact pone_k1 d dp hd0 hd4 h hk
  | 2=>exact pone_k2 d dp hd0 hd4 h hk
  | 3=>exact pone_k3 d dp hd0 hd4 IH h hk
  | 4=>exact pone_k4 d dp hd0 hd4 h hk
  | n+5=>omega
theorem pone_top : POne 5 0 := pone_succ 4 0 (by omega) (by omega) (pone_succ 3 1 (by omega) (by omega) (pone_succ 2 2 (by omega) (by omega) (pone_succ 1 3 (by omega) (by omega) (pone_succ 0 4 (by omega) (by omega) pone_zero))))
theorem ptypesTop_any {w : World} {b e p : Nat} {l : List Tk} (h : PAt w b l e p) :
    Calls Tryz.prog 131 #[ptrP b,.int .i64 0] w fun en w'=>Out b e l (typesP l e p) w (VTyps 5 w) en w':=ptypes_any pone_top h
end Go.Proofs.YtalfbnllodhkiacGreatDoor
