import Derived.Test.YtacjnejckfhpoadGreatP4
set_option maxHeartbeats 16000000
set_option maxRecDepth 100000
namespace Go.Proofs.YtacjnejckfhpoadGreat
open Go.ChangeShapes Go.WideShapes Go.ChangeAt Go.RowKit _root_.Go.Proofs.Tryz
set_option linter.unusedSimpArgs false
set_option linter.unusedVariables false
theorem Qdl (x:MTo) (pR pA:Option Addr) (cR cA:Nat) (w:World) (h:QeV w All x pR cR pA cA) (b1:x.regs.length≤4294967296) (b2:x.args.length≤4294967296) :
 Calls prog 218 #[.agg #[.int .i64 x.block,.slice pR x.regs.length cR,.slice pA x.args.length cA]] w fun e w'=>∃ p c p2 c2,e=.returned (.agg #[.int .i64 x.block,.slice p x.regs.length c,.slice p2 x.args.length c2])∧QeV w' (Z2 w.heap.size) x p c p2 c2∧Below w.heap.size w w':=by
 have hr:Hid _:=h.regs;have hg:Hid _:=h.args;have hbd:=h.bnd;clear h;refine QC (n:=12) func218 rfl rfl rfl <| fun a hF=>?_
 have hW:=Wd.start w;replace hF:Fr 12 a [(0,.agg #[.int .i64 x.block,.slice pR x.regs.length cR,.slice pA x.args.length cA])]:=hF;refine wp_seq_k fun K1 hK1=>rg hF fun ops=>sB hW trivial rfl rfl <| fun w2 B2 hW2 hN=>Ql9 hW2 trivial rfl <| fun w3 B3 hW3 hN=>St.nil fun a4 h4=>hK1 _ _ <| wp_seq_k fun K5 hK5=>?_
 have hF6:Fr 12 a4 [(0,.agg #[.int .i64 x.block,.slice pR x.regs.length cR,.slice pA x.args.length cA]),(1,.pointer (some ⟨B2,0,none⟩)),(2,.pointer (some ⟨B3,0,none⟩))]:=(h4.keep (h4.keep (h4.keep h4.nil (t:=2) rfl) (t:=1) rfl) (t:=0) rfl);have ho1:a4.tmps.getD 1 undef=.pointer (some ⟨B2,0,none⟩):=h4.sl 1 _ rfl;refine QbV 7 ([(1,fun v _=>v=.pointer (some ⟨B2,0,none⟩)),(3,fun v _=>v=.pointer (some ⟨B2,1,none⟩)),(4,fun v _=>v=.slice pR x.regs.length cR),(5,fun v w'=>∃ p c,v=.slice p x.regs.length c∧intsL.In w' (Z2 w3.heap.size) x.regs [.slice p x.regs.length c]),(6,fun v _=>v=.pointer (some ⟨B2,2,none⟩)),(7,fun v _=>v=.slice pA x.args.length cA),(8,fun v w'=>∃ p c,v=.slice p x.args.length c∧intsL.In w' (Z2 w3.heap.size) x.args [.slice p x.args.length c]),(9,fun v _=>v=.pointer (some ⟨B2,1,none⟩))]:Qbm) (fun w'=>Wd w w' [(B3,#[.int .i64 0,.slice none 0 0,.slice none 0 0],45),(B2,#[.int .i64 x.block,.slice pR x.regs.length cR,.slice pA x.args.length cA],45)]∧Below w3.heap.size w3 w') (fun w w'=>Below w.heap.size w w') (outs:=[1]) (gs:=[]) (bs:=[true,true,true,true,true,true,true]) (by kernel_rfl) hF6 rfl (by kernel_rfl) (by kernel_rfl) ?hR ?hG ⟨hW3.drewN 1,ZM (m:=1) Zr⟩ ⟨ho1,trivial⟩ ?hA ?hend
 case hR=>exact⟨fun _ _ _ _ h=>h,fun _ _ _ _ h=>h,fun _ _ _ _ h=>h,fun v w w' hr h=>by obtain⟨p,c,h1,h2⟩:=h;exact⟨p,c,h1,Lay.below h2 hr⟩,fun _ _ _ _ h=>h,fun _ _ _ _ h=>h,fun v w w' hr h=>by obtain⟨p,c,h1,h2⟩:=h;exact⟨p,c,h1,Lay.below h2 hr⟩,fun _ _ _ _ h=>h,trivial⟩
 case hG=>exact trivial
 case hA =>
  iterate 2
   refine⟨fun a w hW hk K hK=>?_,?_⟩
   ·obtain⟨k0,-⟩:=hk
    conv at k0=>whnf;rhs;whnf
    have u0:w.cell? ⟨B2,1,none⟩=some (.slice pR x.regs.length cR):=Qb (hW.1.get 1 rfl) 1 _ rfl;go_simp;exact hK _ _ Zr hW rfl
  refine⟨fun a w hW hk K hK=>?_,?_⟩
  ·obtain⟨k0,-⟩:=hk
   conv at k0=>whnf;rhs;whnf
   go_simp;refine(Qab _ _ _ w (Lay.below hr.out hW.1.bel) b1).mono ?_
   rintro e w9 ⟨p9,c9,rfl,h9,hb⟩;exact hK _ _ hb ⟨hW.1.below hb,Below.andThen hW.2 hb⟩ ⟨p9,c9,rfl,Lay.mono h9 (fun k hk _=>Zt hW.2.size hk)⟩
  iterate 2
   refine⟨fun a w hW hk K hK=>?_,?_⟩
   ·obtain⟨k0,-⟩:=hk
    conv at k0=>whnf;rhs;whnf
    have u0:w.cell? ⟨B2,2,none⟩=some (.slice pA x.args.length cA):=Qb (hW.1.get 1 rfl) 2 _ rfl;go_simp;exact hK _ _ Zr hW rfl
  refine⟨fun a w hW hk K hK=>?_,?_⟩
  ·obtain⟨k0,-⟩:=hk
   conv at k0=>whnf;rhs;whnf
   go_simp;refine(Qab _ _ _ w (Lay.below hg.out hW.1.bel) b2).mono ?_
   rintro e w9 ⟨p9,c9,rfl,h9,hb⟩;exact hK _ _ hb ⟨hW.1.below hb,Below.andThen hW.2 hb⟩ ⟨p9,c9,rfl,Lay.mono h9 (fun k hk _=>Zt hW.2.size hk)⟩
  refine⟨fun a w hW hk K hK=>?_,?_⟩
  ·obtain⟨k0,-⟩:=hk
   conv at k0=>whnf;rhs;whnf
   go_simp;exact hK _ _ Zr hW rfl
  trivial
 case hend =>
  intro ops a7 w7 hWD hE hFD;obtain⟨pN5,cN5,hd5,hNN5⟩:=hE 5 rfl
  replace hd5:a7.tmps.getD 5 undef=.slice pN5 x.regs.length cN5:=hd5;obtain⟨pN8,cN8,hd8,hNN8⟩:=hE 8 rfl
  replace hd8:a7.tmps.getD 8 undef=.slice pN8 x.args.length cN8:=hd8;have hd9:a7.tmps.getD 9 undef=.pointer (some ⟨B2,1,none⟩):=hE 9 rfl;have hF7:Fr 12 a7 [(9,.pointer (some ⟨B2,1,none⟩)),(8,.slice pN8 x.args.length cN8),(5,.slice pN5 x.regs.length cN5),(0,.agg #[.int .i64 x.block,.slice pR x.regs.length cR,.slice pA x.args.length cA]),(1,.pointer (some ⟨B2,0,none⟩)),(2,.pointer (some ⟨B3,0,none⟩))]:=(((hFD.cons hd5).cons hd8).cons hd9);clear hd5 hd8 hd9;have hW7:Wd w w7 [(B3,#[.int .i64 0,.slice none 0 0,.slice none 0 0],45),(B2,#[.int .i64 x.block,.slice pR x.regs.length cR,.slice pA x.args.length cA],45)]:=hWD.1;have hlt0:B3<w3.heap.size:=(hW3.get 0 rfl).lt;have hlt1:B2<w3.heap.size:=(hW3.get 1 rfl).lt;have hsz:w.heap.size≤w3.heap.size:=hW3.bel.size;clear hFD hWD hE hF6 h4;clear hW3;refine St.go hF7 <| s1k 1 inf1Ints hW7 rfl rfl rfl rfl rfl rfl <| fun w8 hKp hW8=>?_
  replace hNN5:=Lay.keep1 hNN5 hKp hlt1;replace hNN8:=Lay.keep1 hNN8 hKp hlt1;clear hKp hW7;refine Qlu trivial rfl rfl <| s1k 1 inf1Ints hW8 rfl rfl rfl rfl rfl rfl <| fun w9 hKp hW9=>?_
  replace hNN5:=Lay.keep1 hNN5 hKp hlt1;replace hNN8:=Lay.keep1 hNN8 hKp hlt1;clear hKp hW8;refine St.nil fun a10 h10=>hK5 _ _ <| wp_seq_k fun K11 hK11=>rg h10 fun ops=>sS 1 3 underlying45 rfl infTo hW9 trivial rfl rfl rfl rfl <| sTk 0 hW9 rfl rfl infTo rfl rfl rfl <| fun w12 hKp hW12=>?_
  replace hNN5:=Lay.keep1 hNN5 hKp hlt0;replace hNN8:=Lay.keep1 hNN8 hKp hlt0;clear hKp hW9;refine St.nil fun a13 h13=>hK11 _ _ ?_;refine wp_ret ?_;with_reducible repeat first | refine Qd ?_ | refine Qc ?_
  exact QQ 0 h13 hW12 rfl rfl rfl underlying45 rfl infTo ⟨_,_,_,_,rfl,⟨Lay.mono hNN5 (fun k hk _=>Zt hsz hk),Lay.mono hNN8 (fun k hk _=>Zt hsz hk),hbd⟩,hW12.bel⟩
theorem QfK (x:Qy) (i:IP) (w:World) (h:IIn w All x i) (b1:x.regs.length≤4294967296) (b2:x.args.length≤4294967296) :
 Calls prog 196 #[.agg #[.int .i64 x.op,.int .i64 x.a,.int .i64 x.b,.int .i64 x.c,.int .i64 x.k,.int .i64 x.n,.slice i.pR x.regs.length i.cR,.slice i.pA x.args.length i.cA]] w fun e w'=>∃ i':IP,e=.returned (.agg #[.int .i64 x.op,.int .i64 x.a,.int .i64 x.b,.int .i64 x.c,.int .i64 x.k,.int .i64 x.n,.slice i'.pR x.regs.length i'.cR,.slice i'.pA x.args.length i'.cA])∧IIn w' (Z2 w.heap.size) x i'∧Below w.heap.size w w':=by
 have hr:Hid _:=h.regs;have hg:Hid _:=h.args;have hbd:=h.bnd;clear h;refine QC (n:=12) func196 rfl rfl rfl <| fun a hF=>?_
 have hW:=Wd.start w;replace hF:Fr 12 a [(0,.agg #[.int .i64 x.op,.int .i64 x.a,.int .i64 x.b,.int .i64 x.c,.int .i64 x.k,.int .i64 x.n,.slice i.pR x.regs.length i.cR,.slice i.pA x.args.length i.cA])]:=hF;refine wp_seq_k fun K1 hK1=>rg hF fun ops=>sB hW trivial rfl rfl <| fun w2 B2 hW2 hN=>Qkk hW2 trivial rfl <| fun w3 B3 hW3 hN=>St.nil fun a4 h4=>hK1 _ _ <| wp_seq_k fun K5 hK5=>?_
 have hF6:Fr 12 a4 [(0,.agg #[.int .i64 x.op,.int .i64 x.a,.int .i64 x.b,.int .i64 x.c,.int .i64 x.k,.int .i64 x.n,.slice i.pR x.regs.length i.cR,.slice i.pA x.args.length i.cA]),(1,.pointer (some ⟨B2,0,none⟩)),(2,.pointer (some ⟨B3,0,none⟩))]:=(h4.keep (h4.keep (h4.keep h4.nil (t:=2) rfl) (t:=1) rfl) (t:=0) rfl);have ho1:a4.tmps.getD 1 undef=.pointer (some ⟨B2,0,none⟩):=h4.sl 1 _ rfl;refine QbV 7 ([(1,fun v _=>v=.pointer (some ⟨B2,0,none⟩)),(3,fun v _=>v=.pointer (some ⟨B2,6,none⟩)),(4,fun v _=>v=.slice i.pR x.regs.length i.cR),(5,fun v w'=>∃ p c,v=.slice p x.regs.length c∧intsL.In w' (Z2 w3.heap.size) x.regs [.slice p x.regs.length c]),(6,fun v _=>v=.pointer (some ⟨B2,7,none⟩)),(7,fun v _=>v=.slice i.pA x.args.length i.cA),(8,fun v w'=>∃ p c,v=.slice p x.args.length c∧intsL.In w' (Z2 w3.heap.size) x.args [.slice p x.args.length c]),(9,fun v _=>v=.pointer (some ⟨B2,6,none⟩))]:Qbm) (fun w'=>Wd w w' [(B3,#[.int .i64 0,.int .i64 0,.int .i64 0,.int .i64 0,.int .i64 0,.int .i64 0,.slice none 0 0,.slice none 0 0],59),(B2,#[.int .i64 x.op,.int .i64 x.a,.int .i64 x.b,.int .i64 x.c,.int .i64 x.k,.int .i64 x.n,.slice i.pR x.regs.length i.cR,.slice i.pA x.args.length i.cA],59)]∧Below w3.heap.size w3 w') (fun w w'=>Below w.heap.size w w') (outs:=[1]) (gs:=[]) (bs:=[true,true,true,true,true,true,true]) (by kernel_rfl) hF6 rfl (by kernel_rfl) (by kernel_rfl) ?hR ?hG ⟨hW3.drewN 1,ZM (m:=1) Zr⟩ ⟨ho1,trivial⟩ ?hA ?hend
 case hR=>exact⟨fun _ _ _ _ h=>h,fun _ _ _ _ h=>h,fun _ _ _ _ h=>h,fun v w w' hr h=>by obtain⟨p,c,h1,h2⟩:=h;exact⟨p,c,h1,Lay.below h2 hr⟩,fun _ _ _ _ h=>h,fun _ _ _ _ h=>h,fun v w w' hr h=>by obtain⟨p,c,h1,h2⟩:=h;exact⟨p,c,h1,Lay.below h2 hr⟩,fun _ _ _ _ h=>h,trivial⟩
 case hG=>exact trivial
 case hA =>
  iterate 2
   refine⟨fun a w hW hk K hK=>?_,?_⟩
   ·obtain⟨k0,-⟩:=hk
    conv at k0=>whnf;rhs;whnf
    have u0:w.cell? ⟨B2,6,none⟩=some (.slice i.pR x.regs.length i.cR):=Qb (hW.1.get 1 rfl) 6 _ rfl;go_simp;exact hK _ _ Zr hW rfl
  refine⟨fun a w hW hk K hK=>?_,?_⟩
  ·obtain⟨k0,-⟩:=hk
   conv at k0=>whnf;rhs;whnf
   go_simp;refine(Qab _ _ _ w (Lay.below hr.out hW.1.bel) b1).mono ?_
   rintro e w9 ⟨p9,c9,rfl,h9,hb⟩;exact hK _ _ hb ⟨hW.1.below hb,Below.andThen hW.2 hb⟩ ⟨p9,c9,rfl,Lay.mono h9 (fun k hk _=>Zt hW.2.size hk)⟩
  iterate 2
   refine⟨fun a w hW hk K hK=>?_,?_⟩
   ·obtain⟨k0,-⟩:=hk
    conv at k0=>whnf;rhs;whnf
    have u0:w.cell? ⟨B2,7,none⟩=some (.slice i.pA x.args.length i.cA):=Qb (hW.1.get 1 rfl) 7 _ rfl;go_simp;exact hK _ _ Zr hW rfl
  refine⟨fun a w hW hk K hK=>?_,?_⟩
  ·obtain⟨k0,-⟩:=hk
   conv at k0=>whnf;rhs;whnf
   go_simp;refine(Qab _ _ _ w (Lay.below hg.out hW.1.bel) b2).mono ?_
   rintro e w9 ⟨p9,c9,rfl,h9,hb⟩;exact hK _ _ hb ⟨hW.1.below hb,Below.andThen hW.2 hb⟩ ⟨p9,c9,rfl,Lay.mono h9 (fun k hk _=>Zt hW.2.size hk)⟩
  refine⟨fun a w hW hk K hK=>?_,?_⟩
  ·obtain⟨k0,-⟩:=hk
   conv at k0=>whnf;rhs;whnf
   go_simp;exact hK _ _ Zr hW rfl
  trivial
 case hend =>
  intro ops a7 w7 hWD hE hFD;obtain⟨pN5,cN5,hd5,hNN5⟩:=hE 5 rfl
  replace hd5:a7.tmps.getD 5 undef=.slice pN5 x.regs.length cN5:=hd5;obtain⟨pN8,cN8,hd8,hNN8⟩:=hE 8 rfl
  replace hd8:a7.tmps.getD 8 undef=.slice pN8 x.args.length cN8:=hd8;have hd9:a7.tmps.getD 9 undef=.pointer (some ⟨B2,6,none⟩):=hE 9 rfl;have hF7:Fr 12 a7 [(9,.pointer (some ⟨B2,6,none⟩)),(8,.slice pN8 x.args.length cN8),(5,.slice pN5 x.regs.length cN5),(0,.agg #[.int .i64 x.op,.int .i64 x.a,.int .i64 x.b,.int .i64 x.c,.int .i64 x.k,.int .i64 x.n,.slice i.pR x.regs.length i.cR,.slice i.pA x.args.length i.cA]),(1,.pointer (some ⟨B2,0,none⟩)),(2,.pointer (some ⟨B3,0,none⟩))]:=(((hFD.cons hd5).cons hd8).cons hd9);clear hd5 hd8 hd9;have hW7:Wd w w7 [(B3,#[.int .i64 0,.int .i64 0,.int .i64 0,.int .i64 0,.int .i64 0,.int .i64 0,.slice none 0 0,.slice none 0 0],59),(B2,#[.int .i64 x.op,.int .i64 x.a,.int .i64 x.b,.int .i64 x.c,.int .i64 x.k,.int .i64 x.n,.slice i.pR x.regs.length i.cR,.slice i.pA x.args.length i.cA],59)]:=hWD.1;have hlt0:B3<w3.heap.size:=(hW3.get 0 rfl).lt;have hlt1:B2<w3.heap.size:=(hW3.get 1 rfl).lt;have hsz:w.heap.size≤w3.heap.size:=hW3.bel.size;clear hFD hWD hE hF6 h4;clear hW3;refine St.go hF7 <| s1k 1 inf1Ints hW7 rfl rfl rfl rfl rfl rfl <| fun w8 hKp hW8=>?_
  replace hNN5:=Lay.keep1 hNN5 hKp hlt1;replace hNN8:=Lay.keep1 hNN8 hKp hlt1;clear hKp hW7;refine Qgm trivial rfl rfl <| s1k 1 inf1Ints hW8 rfl rfl rfl rfl rfl rfl <| fun w9 hKp hW9=>?_
  replace hNN5:=Lay.keep1 hNN5 hKp hlt1;replace hNN8:=Lay.keep1 hNN8 hKp hlt1;clear hKp hW8;refine St.nil fun a10 h10=>hK5 _ _ <| wp_seq_k fun K11 hK11=>rg h10 fun ops=>sS 1 8 underlying59 rfl infIns hW9 trivial rfl rfl rfl rfl <| sTk 0 hW9 rfl rfl infIns rfl rfl rfl <| fun w12 hKp hW12=>?_
  replace hNN5:=Lay.keep1 hNN5 hKp hlt0;replace hNN8:=Lay.keep1 hNN8 hKp hlt0;clear hKp hW9;refine St.nil fun a13 h13=>hK11 _ _ ?_;refine wp_ret ?_;with_reducible repeat first | refine Qd ?_ | refine Qc ?_
  exact QQ 0 h13 hW12 rfl rfl rfl underlying59 rfl infIns ⟨⟨pN5,cN5,pN8,cN8⟩,rfl,⟨Lay.mono hNN5 (fun k hk _=>Zt hsz hk),Lay.mono hNN8 (fun k hk _=>Zt hsz hk),hbd⟩,hW12.bel⟩
theorem QfI (x:MEnd) (i:EP) (w:World) (h:EIn w All x i) (b1:x.yes.regs.length≤4294967296) (b2:x.yes.args.length≤4294967296) (b3:x.no.regs.length≤4294967296) (b4:x.no.args.length≤4294967296) (b5:x.args.length≤4294967296) :
 Calls prog 197 #[.agg #[.int .i64 x.op,.int .i64 x.a,.int .i64 x.yes.block,.slice i.pYR x.yes.regs.length i.cYR,.slice i.pYA x.yes.args.length i.cYA,.int .i64 x.no.block,.slice i.pNR x.no.regs.length i.cNR,.slice i.pNA x.no.args.length i.cNA,.slice i.pA x.args.length i.cA]] w fun e w'=>∃ i':EP,e=.returned (.agg #[.int .i64 x.op,.int .i64 x.a,.int .i64 x.yes.block,.slice i'.pYR x.yes.regs.length i'.cYR,.slice i'.pYA x.yes.args.length i'.cYA,.int .i64 x.no.block,.slice i'.pNR x.no.regs.length i'.cNR,.slice i'.pNA x.no.args.length i'.cNA,.slice i'.pA x.args.length i'.cA])∧EIn w' (Z2 w.heap.size) x i'∧Below w.heap.size w w':=by
 have hy:Hid _:=h.yes;have hn:Hid _:=h.no;have hg:Hid _:=h.args;have hbd:=h.bnd;clear h;refine QC (n:=16) func197 rfl rfl rfl <| fun a hF=>?_
 have hW:=Wd.start w;replace hF:Fr 16 a [(0,.agg #[.int .i64 x.op,.int .i64 x.a,.int .i64 x.yes.block,.slice i.pYR x.yes.regs.length i.cYR,.slice i.pYA x.yes.args.length i.cYA,.int .i64 x.no.block,.slice i.pNR x.no.regs.length i.cNR,.slice i.pNA x.no.args.length i.cNA,.slice i.pA x.args.length i.cA])]:=hF;refine wp_seq_k fun K1 hK1=>rg hF fun ops=>sB hW trivial rfl rfl <| fun w2 B2 hW2 hN=>Qld hW2 trivial rfl <| fun w3 B3 hW3 hN=>St.nil fun a4 h4=>hK1 _ _ <| wp_seq_k fun K5 hK5=>?_
 have hF6:Fr 16 a4 [(0,.agg #[.int .i64 x.op,.int .i64 x.a,.int .i64 x.yes.block,.slice i.pYR x.yes.regs.length i.cYR,.slice i.pYA x.yes.args.length i.cYA,.int .i64 x.no.block,.slice i.pNR x.no.regs.length i.cNR,.slice i.pNA x.no.args.length i.cNA,.slice i.pA x.args.length i.cA]),(1,.pointer (some ⟨B2,0,none⟩)),(2,.pointer (some ⟨B3,0,none⟩))]:=(h4.keep (h4.keep (h4.keep h4.nil (t:=2) rfl) (t:=1) rfl) (t:=0) rfl);have ho1:a4.tmps.getD 1 undef=.pointer (some ⟨B2,0,none⟩):=h4.sl 1 _ rfl;refine QgU 10 ([(1,fun v _=>v=.pointer (some ⟨B2,0,none⟩)),(3,fun v _=>v=.pointer (some ⟨B2,2,none⟩)),(4,fun v _=>v=.agg #[.int .i64 x.yes.block,.slice i.pYR x.yes.regs.length i.cYR,.slice i.pYA x.yes.args.length i.cYA]),(5,fun v w'=>∃ p c p2 c2,v=.agg #[.int .i64 x.yes.block,.slice p x.yes.regs.length c,.slice p2 x.yes.args.length c2]∧QeV w' (Z2 w3.heap.size) x.yes p c p2 c2),(6,fun v _=>v=.pointer (some ⟨B2,5,none⟩)),(7,fun v _=>v=.agg #[.int .i64 x.no.block,.slice i.pNR x.no.regs.length i.cNR,.slice i.pNA x.no.args.length i.cNA]),(8,fun v w'=>∃ p c p2 c2,v=.agg #[.int .i64 x.no.block,.slice p x.no.regs.length c,.slice p2 x.no.args.length c2]∧QeV w' (Z2 w3.heap.size) x.no p c p2 c2),(9,fun v _=>v=.pointer (some ⟨B2,8,none⟩)),(10,fun v _=>v=.slice i.pA x.args.length i.cA),(11,fun v w'=>∃ p c,v=.slice p x.args.length c∧intsL.In w' (Z2 w3.heap.size) x.args [.slice p x.args.length c]),(12,fun v _=>v=.pointer (some ⟨B2,2,none⟩))]:Qbm) (fun w'=>Wd w w' [(B3,#[.int .i64 0,.int .i64 0,.int .i64 0,.slice none 0 0,.slice none 0 0,.int .i64 0,.slice none 0 0,.slice none 0 0,.slice none 0 0],47),(B2,#[.int .i64 x.op,.int .i64 x.a,.int .i64 x.yes.block,.slice i.pYR x.yes.regs.length i.cYR,.slice i.pYA x.yes.args.length i.cYA,.int .i64 x.no.block,.slice i.pNR x.no.regs.length i.cNR,.slice i.pNA x.no.args.length i.cNA,.slice i.pA x.args.length i.cA],47)]∧Below w3.heap.size w3 w') (fun w w'=>Below w.heap.size w w') (outs:=[1]) (gs:=[]) (bs:=[true,true,true,true,true,true,true,true,true,true]) (by kernel_rfl) hF6 rfl (by kernel_rfl) (by kernel_rfl) ?hR ?hG ⟨hW3.drewN 1,ZM (m:=1) Zr⟩ ⟨ho1,trivial⟩ ?hA ?hend
 case hR=>exact⟨fun _ _ _ _ h=>h,fun _ _ _ _ h=>h,fun _ _ _ _ h=>h,fun v w w' hr h=>by obtain⟨p,c,p2,c2,h1,h2⟩:=h;exact⟨p,c,p2,c2,h1,⟨Lay.below h2.regs hr,Lay.below h2.args hr,h2.bnd⟩⟩,fun _ _ _ _ h=>h,fun _ _ _ _ h=>h,fun v w w' hr h=>by obtain⟨p,c,p2,c2,h1,h2⟩:=h;exact⟨p,c,p2,c2,h1,⟨Lay.below h2.regs hr,Lay.below h2.args hr,h2.bnd⟩⟩,fun _ _ _ _ h=>h,fun _ _ _ _ h=>h,fun v w w' hr h=>by obtain⟨p,c,h1,h2⟩:=h;exact⟨p,c,h1,Lay.below h2 hr⟩,fun _ _ _ _ h=>h,trivial⟩
 case hG=>exact trivial
 case hA =>
  iterate 2
   refine⟨fun a w hW hk K hK=>?_,?_⟩
   ·obtain⟨k0,-⟩:=hk
    conv at k0=>whnf;rhs;whnf
    have u0:w.cell? ⟨B2,2,none⟩=some (.int .i64 x.yes.block):=Qb (hW.1.get 1 rfl) 2 _ rfl;have u1:w.cell? ⟨B2,3,none⟩=some (.slice i.pYR x.yes.regs.length i.cYR):=Qb (hW.1.get 1 rfl) 3 _ rfl;have u2:w.cell? ⟨B2,4,none⟩=some (.slice i.pYA x.yes.args.length i.cYA):=Qb (hW.1.get 1 rfl) 4 _ rfl;go_simp;exact hK _ _ Zr hW rfl
  refine⟨fun a w hW hk K hK=>?_,?_⟩
  ·obtain⟨k0,-⟩:=hk
   conv at k0=>whnf;rhs;whnf
   go_simp;refine(Qdl _ _ _ _ _ w ⟨Lay.below hy.out.regs hW.1.bel,Lay.below hy.out.args hW.1.bel,hy.out.bnd⟩ b1 b2).mono ?_
   rintro e w9 ⟨p9,c9,p8,c8,rfl,h9,hb⟩;exact hK _ _ hb ⟨hW.1.below hb,Below.andThen hW.2 hb⟩ ⟨p9,c9,p8,c8,rfl,⟨Lay.mono h9.regs (fun k hk _=>Zt hW.2.size hk),Lay.mono h9.args (fun k hk _=>Zt hW.2.size hk),h9.bnd⟩⟩
  iterate 2
   refine⟨fun a w hW hk K hK=>?_,?_⟩
   ·obtain⟨k0,-⟩:=hk
    conv at k0=>whnf;rhs;whnf
    have u0:w.cell? ⟨B2,5,none⟩=some (.int .i64 x.no.block):=Qb (hW.1.get 1 rfl) 5 _ rfl;have u1:w.cell? ⟨B2,6,none⟩=some (.slice i.pNR x.no.regs.length i.cNR):=Qb (hW.1.get 1 rfl) 6 _ rfl;have u2:w.cell? ⟨B2,7,none⟩=some (.slice i.pNA x.no.args.length i.cNA):=Qb (hW.1.get 1 rfl) 7 _ rfl;go_simp;exact hK _ _ Zr hW rfl
  refine⟨fun a w hW hk K hK=>?_,?_⟩
  ·obtain⟨k0,-⟩:=hk
   conv at k0=>whnf;rhs;whnf
   go_simp;refine(Qdl _ _ _ _ _ w ⟨Lay.below hn.out.regs hW.1.bel,Lay.below hn.out.args hW.1.bel,hn.out.bnd⟩ b3 b4).mono ?_
   rintro e w9 ⟨p9,c9,p8,c8,rfl,h9,hb⟩;exact hK _ _ hb ⟨hW.1.below hb,Below.andThen hW.2 hb⟩ ⟨p9,c9,p8,c8,rfl,⟨Lay.mono h9.regs (fun k hk _=>Zt hW.2.size hk),Lay.mono h9.args (fun k hk _=>Zt hW.2.size hk),h9.bnd⟩⟩
  iterate 2
   refine⟨fun a w hW hk K hK=>?_,?_⟩
   ·obtain⟨k0,-⟩:=hk
    conv at k0=>whnf;rhs;whnf
    have u0:w.cell? ⟨B2,8,none⟩=some (.slice i.pA x.args.length i.cA):=Qb (hW.1.get 1 rfl) 8 _ rfl;go_simp;exact hK _ _ Zr hW rfl
  refine⟨fun a w hW hk K hK=>?_,?_⟩
  ·obtain⟨k0,-⟩:=hk
   conv at k0=>whnf;rhs;whnf
   go_simp;refine(Qab _ _ _ w (Lay.below hg.out hW.1.bel) b5).mono ?_
   rintro e w9 ⟨p9,c9,rfl,h9,hb⟩;exact hK _ _ hb ⟨hW.1.below hb,Below.andThen hW.2 hb⟩ ⟨p9,c9,rfl,Lay.mono h9 (fun k hk _=>Zt hW.2.size hk)⟩
  refine⟨fun a w hW hk K hK=>?_,?_⟩
  ·obtain⟨k0,-⟩:=hk
   conv at k0=>whnf;rhs;whnf
   go_simp;exact hK _ _ Zr hW rfl
  trivial
 case hend =>
  intro ops a7 w7 hWD hE hFD;obtain⟨pN5r,cN5r,pN5a,cN5a,hd5,⟨hN5r,hN5a,hbdN5⟩⟩:=hE 5 rfl
  replace hd5:a7.tmps.getD 5 undef=.agg #[.int .i64 x.yes.block,.slice pN5r x.yes.regs.length cN5r,.slice pN5a x.yes.args.length cN5a]:=hd5;obtain⟨pN8r,cN8r,pN8a,cN8a,hd8,⟨hN8r,hN8a,hbdN8⟩⟩:=hE 8 rfl
  replace hd8:a7.tmps.getD 8 undef=.agg #[.int .i64 x.no.block,.slice pN8r x.no.regs.length cN8r,.slice pN8a x.no.args.length cN8a]:=hd8;obtain⟨pN11,cN11,hd11,hNN11⟩:=hE 11 rfl
  replace hd11:a7.tmps.getD 11 undef=.slice pN11 x.args.length cN11:=hd11;have hd12:a7.tmps.getD 12 undef=.pointer (some ⟨B2,2,none⟩):=hE 12 rfl;have hF7:Fr 16 a7 [(12,.pointer (some ⟨B2,2,none⟩)),(11,.slice pN11 x.args.length cN11),(8,.agg #[.int .i64 x.no.block,.slice pN8r x.no.regs.length cN8r,.slice pN8a x.no.args.length cN8a]),(5,.agg #[.int .i64 x.yes.block,.slice pN5r x.yes.regs.length cN5r,.slice pN5a x.yes.args.length cN5a]),(0,.agg #[.int .i64 x.op,.int .i64 x.a,.int .i64 x.yes.block,.slice i.pYR x.yes.regs.length i.cYR,.slice i.pYA x.yes.args.length i.cYA,.int .i64 x.no.block,.slice i.pNR x.no.regs.length i.cNR,.slice i.pNA x.no.args.length i.cNA,.slice i.pA x.args.length i.cA]),(1,.pointer (some ⟨B2,0,none⟩)),(2,.pointer (some ⟨B3,0,none⟩))]:=((((hFD.cons hd5).cons hd8).cons hd11).cons hd12);clear hd5 hd8 hd11 hd12;have hW7:Wd w w7 [(B3,#[.int .i64 0,.int .i64 0,.int .i64 0,.slice none 0 0,.slice none 0 0,.int .i64 0,.slice none 0 0,.slice none 0 0,.slice none 0 0],47),(B2,#[.int .i64 x.op,.int .i64 x.a,.int .i64 x.yes.block,.slice i.pYR x.yes.regs.length i.cYR,.slice i.pYA x.yes.args.length i.cYA,.int .i64 x.no.block,.slice i.pNR x.no.regs.length i.cNR,.slice i.pNA x.no.args.length i.cNA,.slice i.pA x.args.length i.cA],47)]:=hWD.1;have hlt0:B3<w3.heap.size:=(hW3.get 0 rfl).lt;have hlt1:B2<w3.heap.size:=(hW3.get 1 rfl).lt;have hsz:w.heap.size≤w3.heap.size:=hW3.bel.size;clear hFD hWD hE hF6 h4;clear hW3;refine St.go hF7 <| sTk 1 hW7 rfl rfl infTo rfl rfl rfl <| fun w8 hKp hW8=>?_
  replace hNN11:=Lay.keep1 hNN11 hKp hlt1;replace hN5r:=Lay.keep1 hN5r hKp hlt1;replace hN5a:=Lay.keep1 hN5a hKp hlt1;replace hN8r:=Lay.keep1 hN8r hKp hlt1;replace hN8a:=Lay.keep1 hN8a hKp hlt1;clear hKp hW7;refine Qkr trivial rfl rfl <| sTk 1 hW8 rfl rfl infTo rfl rfl rfl <| fun w9 hKp hW9=>?_
  replace hNN11:=Lay.keep1 hNN11 hKp hlt1;replace hN5r:=Lay.keep1 hN5r hKp hlt1;replace hN5a:=Lay.keep1 hN5a hKp hlt1;replace hN8r:=Lay.keep1 hN8r hKp hlt1;replace hN8a:=Lay.keep1 hN8a hKp hlt1;clear hKp hW8;refine QkU trivial rfl rfl <| s1k 1 inf1Ints hW9 rfl rfl rfl rfl rfl rfl <| fun w10 hKp hW10=>?_
  replace hNN11:=Lay.keep1 hNN11 hKp hlt1;replace hN5r:=Lay.keep1 hN5r hKp hlt1;replace hN5a:=Lay.keep1 hN5a hKp hlt1;replace hN8r:=Lay.keep1 hN8r hKp hlt1;replace hN8a:=Lay.keep1 hN8a hKp hlt1;clear hKp hW9;refine St.nil fun a11 h11=>hK5 _ _ <| wp_seq_k fun K12 hK12=>rg h11 fun ops=>sS 1 9 underlying47 rfl infEnd hW10 trivial rfl rfl rfl rfl <| sTk 0 hW10 rfl rfl infEnd rfl rfl rfl <| fun w13 hKp hW13=>?_
  replace hNN11:=Lay.keep1 hNN11 hKp hlt0;replace hN5r:=Lay.keep1 hN5r hKp hlt0;replace hN5a:=Lay.keep1 hN5a hKp hlt0;replace hN8r:=Lay.keep1 hN8r hKp hlt0;replace hN8a:=Lay.keep1 hN8a hKp hlt0;clear hKp hW10;refine St.nil fun a14 h14=>hK12 _ _ ?_;refine wp_ret ?_;with_reducible repeat first | refine Qd ?_ | refine Qc ?_
  exact QQ 0 h14 hW13 rfl rfl rfl underlying47 rfl infEnd ⟨⟨pN5r,cN5r,pN5a,cN5a,pN8r,cN8r,pN8a,cN8a,pN11,cN11⟩,rfl,⟨⟨Lay.mono hN5r (fun k hk _=>Zt hsz hk),Lay.mono hN5a (fun k hk _=>Zt hsz hk),hy.out.bnd⟩,⟨Lay.mono hN8r (fun k hk _=>Zt hsz hk),Lay.mono hN8a (fun k hk _=>Zt hsz hk),hn.out.bnd⟩,Lay.mono hNN11 (fun k hk _=>Zt hsz hk),hbd⟩,hW13.bel⟩
structure TP where
 p:Option Addr
 c:Nat
structure YIn (w:World) (O:Nat→Prop){n:Nat}(x:TT n) (i:TP):Prop where
 tree:TIn w O x i.p
 ok:x.ok
section
variable {w w':World}{O O':Nat→Prop}{n:Nat}{x:TT n}{i:TP}
theorem YIn.keep (hb:∀ k,O k→k<w.heap.size→w'.heap[k]?=w.heap[k]?) (hl:∀ k,O k→k<w.heap.size→O' k) (h:YIn w O x i):YIn w' O' x i:=⟨h.tree.keep hb hl,h.ok⟩
theorem YIn.below (h:YIn w O x i) (hbl:Below w.heap.size w w'):YIn w' O x i:=h.keep (fun k _ hk=>hbl.block k hk) (fun _ h _=>h)
theorem YIn.mono (h:YIn w O x i) (hl:∀ k,O k→k<w.heap.size→O' k):YIn w O' x i:=h.keep (fun k _ _=>rfl) hl
theorem Qim (h:YIn w O x i):(Lay.tt n).In w O x [.int .i64 x.kind,.int .i64 x.r,.slice i.p x.len i.c]:=⟨i.p,i.c,rfl,h.tree,h.ok⟩
theorem QjL {l:List (TT n)}{p:Option Addr}{m c:Nat}(h:(Lay.tt n).list.In w O l [.slice p m c]){q:Nat}(hx:l[q]?=some x) :
 ∃ (g o:Nat) (i:TP),p=some ⟨g,o,none⟩∧w.rangeAt g (o+q*3) [.int .i64 x.kind,.int .i64 x.r,.slice i.p x.len i.c]∧YIn w O x i:=by
 obtain⟨g,o,ds,e,h1,h2,h3,h4⟩:=Lay.list_at h hx
 obtain⟨a,c,rfl,h5,h6⟩:=h4
 have hs:(Lay.tt n).size=3:=rfl;rw[hs] at h3
 exact⟨g,o,⟨a,c⟩,e,fun j v hj=>(h3 j (by have:=(Zi hj).1;simpa using this)).trans hj,h5,h6⟩
end
theorem Wd.of {w0 w:World}(b:Below w0.heap.size w0 w):Wd w0 w []:=⟨b,fun i x h=>by simp at h,fun i x h=>by simp at h,fun i j x y h=>by simp at h⟩
section
variable {α:Type}{A:Lay α}{e:TypeId}{w w':World}{lo g n q s:Nat}{l:List α}{xs:List Value}{x:α}{ds:List Value}
theorem ZS.start {m:Nat}(hs:A.size=s) (h:w.ownsRow lo e s (.slice (some ⟨g,0,none⟩) m m) m xs):ZS A e w lo (.slice (some ⟨g,0,none⟩) 0 m) (l.take 0) []:=by
 subst hs;obtain⟨hl,h2⟩:=h
 rcases h2 with ⟨h',_⟩|⟨g',cap',cur,h',hb,hg,hnc,hcm,hcs,htake⟩
 ·simp at h'
 ·simp only[Value.slice.injEq,Option.some.injEq,Addr.mk.injEq,and_true,true_and] at h'
  obtain⟨rfl,rfl⟩:=h'
  exact⟨⟨by simp,.inr ⟨g,m,cur,rfl,hb,hg,Nat.zero_le _,hcm,hcs,by simp⟩⟩,fun i x h=>by simp at h⟩
theorem ZS.blk (h:ZS A e w lo (.slice (some ⟨g,0,none⟩) q n) l xs) (hs:A.size=s):∃ c,Blk w g c e∧c.size=n*s:=by
 subst hs;obtain⟨hl,h2⟩:=h.own
 rcases h2 with ⟨h',_⟩|⟨g',cap',cur,h',hb,hg,hnc,hcm,hcs,htake⟩
 ·simp at h'
 ·simp only[Value.slice.injEq,Option.some.injEq,Addr.mk.injEq,and_true,true_and] at h'
  obtain⟨rfl,-,rfl⟩:=h'
  exact⟨cur,hg,hcs⟩
theorem ZS.fillq (h:ZS A e w lo (.slice (some ⟨g,0,none⟩) q n) (l.take q) xs) (hs:A.size=s) (hq:q<l.length) (hn:l.length=n) (hx0:l[q]?=some x) (hx:A.In w (fun k=>lo≤k∧k≠g) x ds) (hw:w'=w.setCells g (0+q*s) ds) :
 ∃ xs',ZS A e w' lo (.slice (some ⟨g,0,none⟩) (q+1) n) (l.take (q+1)) xs':=by
 subst hs hw;have hlq:(l.take q).length=q:=by simp;omega
 have T:l.take (q+1)=l.take q++[x]:=by rw[List.take_add_one,hx0];rfl
 have:=ZS.fill (l:=l.take q) (g:=g) (n:=n) (by rw[hlq];exact h) hx (by omega)
 rw[hlq] at this
 rw[T,Nat.zero_add]
 exact⟨_,this⟩
theorem ZS.done (h:ZS A e w lo (.slice (some ⟨g,0,none⟩) q n) (l.take q) xs) (hq:q=l.length):A.list.In w (Z2 lo) l [.slice (some ⟨g,0,none⟩) l.length n]:=by
 have:=h.lay
 subst hq;rw[List.take_length] at this
 exact this
end
section
variable {n:Nat}{a:Act}{L:List (Tmp × Value)}{w0 w:World}{Bs:List (Nat × Array Value × TypeId)}{Q:Exit→Act→World→Prop}{ops:Array Oper}{rest:List Oper}{t:Tmp}{u v:Value}{ty ty2 ty3:TypeId}{pos:String}{aft:Array Edge}{gd:Option (Nat × Bool)}{x y:Operand}
theorem QiL {g j:Nat}{c:Array Value}{bt:TypeId}{cells:List Value}(hW:Wd w0 w Bs) (hg:w0.heap.size≤g) (hne:∀ (i:Nat) x,Bs[i]?=some x→x.1≠g) (hB:Blk w g c bt)
 (hx:Qn L x=some (.pointer (some ⟨g,j,none⟩))) (hy:Qn L y=some (.agg cells.toArray)) (hi:(prog.info? ty2).map (·.size)=some cells.length) (h1:cells.all (·.oneCell')=true) (hs:j+cells.length≤c.size)
 (k:∀ w',Wd w0 w' Bs→w'=w.setCells g j cells→St n L ops Q rest w'):St n L ops Q (⟨none,.store ty2 x y,ty,pos,aft,none⟩::rest) w :=
 QlT hW hg hne hB hx hy hi h1 hs (fun h=>k _ h rfl)
end
theorem underIns:prog.underlying 42=some (.slice 59):=by kernel_rfl
theorem underBlocks:prog.underlying 53=some (.slice 84):=by kernel_rfl
theorem underFuncs:prog.underlying 22=some (.slice 55):=by kernel_rfl
theorem QdQ {t:TypeId}{z:Value}{s b:Nat}(h:(prog.info? t).map (fun i=>(i.zero,i.size,i.bytes))=some (some z,s,b)):∃ i,prog.info? t=some i∧i.zero=some z∧i.size=s∧i.bytes=b:=by
 obtain⟨i,hi,e⟩:=Option.map_eq_some_iff.1 h
 simp only[Prod.mk.injEq] at e
 exact⟨i,hi,e⟩
theorem infoIns:(prog.info? 59).map (fun i=>(i.zero,i.size,i.bytes))=some (some (.agg #[.int .i64 0,.int .i64 0,.int .i64 0,.int .i64 0,.int .i64 0,.int .i64 0,.slice none 0 0,.slice none 0 0]),8,96):=by kernel_rfl
theorem infoBlock:(prog.info? 84).map (fun i=>(i.zero,i.size,i.bytes))=some (some (.agg #[.int .i64 0,.slice none 0 0,.slice none 0 0,.int .i64 0,.int .i64 0,.int .i64 0,.slice none 0 0,.slice none 0 0,.int .i64 0,.slice none 0 0,.slice none 0 0,.slice none 0 0]),12,208):=by kernel_rfl
theorem infoFunc:(prog.info? 55).map (fun i=>(i.zero,i.size,i.bytes))=some (some (.agg #[.int .i64 0,.slice none 0 0,.slice none 0 0,.slice none 0 0]),4,80):=by kernel_rfl
theorem Qau {n:Nat}(l:List (TT n)) (p:Option Addr) (c:Nat) (w:World) (hl0:(Lay.tt n).list.In w All l [.slice p l.length c]) (hb0:l.length≤4294967296)
 (hf:∀ x∈l,∀ (i:TP) (w:World),YIn w All x i→Calls prog 153 #[.agg #[.int .i64 x.kind,.int .i64 x.r,.slice i.p x.len i.c]] w fun e w'=>∃ v,e=.returned v∧(∃ i':TP,v=.agg #[.int .i64 x.kind,.int .i64 x.r,.slice i'.p x.len i'.c]∧YIn w' (Z2 w.heap.size) x i')∧Below w.heap.size w w') :
 Calls prog 152 #[.slice p l.length c,.func (.func 153) #[] #[]] w fun e w'=>QfQ (Lay.tt n) w w' l e:=by
 have hl:Hid _:=hl0;clear hl0;obtain⟨i0,hi,hz0,hz1,hz2⟩:=infoT_parts
 refine QC (n:=26) func152 rfl rfl rfl <| fun a hF=>?_
 have hW:=Wd.start w;replace hF:Fr 26 a [(0,.slice p l.length c),(1,.func (.func 153) #[] #[])]:=hF;refine wp_seq_k fun K1 hK1=>rg hF fun ops=>sa trivial rfl rfl <| St.nil fun a2 h2=>hK1 _ _ <| wp_seq_k fun K3 hK3=>rg h2 fun ops=>sm trivial rfl rfl <| Qbe trivial rfl rfl ?_
 refine Qi2 underTs hi hz0 hz1 (by rw[hz2];omega) (by unfold maxLen;omega) hW trivial rfl rfl ?_;rintro w4 g xs0 rfl hO hbl hW4;clear hW;refine sa trivial rfl rfl <| St.nil fun a5 h5=>hK3 _ _ <| wp_seq_k fun K6 hK6=>wp_seq_k fun K7 hK7=>rg h5 fun ops=>sm trivial rfl rfl <| Qbe trivial rfl rfl <| sm trivial rfl rfl <| St.nil fun a8 h8=>hK7 _ _ <| wp_block <| Qay (fun r a w'=>∃ q:Nat,q≤l.length∧r=l.length - q∧(∃ xs,ZS (Lay.tt n) 79 w' w.heap.size (.slice (some ⟨w.heap.size,0,none⟩) q l.length) (l.take q) xs)∧Fr 26 a [(1,.func (.func 153) #[] #[]),(0,.slice p l.length c),(4,.slice none 0 0),(5,.slice (some ⟨w.heap.size,0,none⟩) l.length l.length),(11,.slice p l.length c),(12,.int .i64 (l.length:Int)),(13,.int .i64 (q:Int))]∧Below w.heap.size w w') l.length ⟨0,Nat.zero_le _,rfl,⟨_,ZS.start rfl hO⟩,(h8.keep (h8.keep (h8.keep (h8.keep (h8.keep (h8.keep (h8.keep h8.nil (t:=13) rfl) (t:=12) rfl) (t:=11) rfl) (t:=5) rfl) (t:=4) rfl) (t:=0) rfl) (t:=1) rfl),hbl⟩ ?_
 clear h8 hW4 hO hbl;rintro r a9 w9 ⟨q,hq,hr,⟨xs,hA0⟩,hF9,hB0⟩ KL hKL;have hA:Hid _:=hA0;have hB:Hid _:=hB0;clear hA0 hB0;have hW9:=Wd.start w9;refine wp_seq_k fun K10 hK10=>rg hF9 fun ops=>slt trivial rfl rfl rfl <| St.nil fun a11 h11=>hK10 _ _ <| wp_seq_k fun K12 hK12=>QE (t:=14) h11 rfl (fun hb=>?_) (fun hb=>?_)
 ·have hlt1:q<l.length:=by have:=of_decide_eq_true hb;omega
  clear hb;obtain⟨x,hx1⟩:∃ v9,(l)[q]?=some v9:=⟨_,Zg hlt1⟩
  obtain⟨g1,o1,y1,hp1,E1,In1⟩:=QjL (Lay.below hl.out hB.out) hx1
  replace In1:Hid _:=In1;replace hp1:Hid _:=hp1;replace hx1:Hid _:=hx1;replace E1:Hid _:=E1;have hpg:Hid ((some ⟨w.heap.size,0,none⟩:Option Addr)=some ⟨w.heap.size,0,none⟩):=rfl;refine wp_skip <| hK12 _ _ <| wp_seq_k fun K13 hK13=>wp_block <| wp_seq_k fun K14 hK14=>rg h11 fun ops=>sm trivial rfl rfl <| Qdb hp1.out hlt1 trivial rfl rfl rfl <| sSE underlying79 rfl (Q0 E1.out hW9.bel) infType trivial rfl rfl <| QhH hW9 trivial rfl <| fun w15 B15 hW15 hN=>sa trivial rfl rfl <| sT 0 hW15 rfl rfl infType rfl rfl rfl <| fun w16 hW16=>St.nil fun a17 h17=>hK14 _ _ <| rg h17 fun ops=>sm trivial rfl rfl <| sm trivial rfl rfl <| sm trivial rfl rfl <| sS 0 3 underlying79 rfl infType hW16 trivial rfl rfl rfl rfl <| QiK cf153 hW16 (hf x (Zm hx1.out) y1 _ (In1.out.below hW16.bel)) trivial rfl rfl rfl ?_
  rintro v9 w18 ⟨i2,rfl,hI⟩ hb9 hW18;refine Qdb hpg.out hlt1 trivial rfl rfl rfl <| fun a19 h19=>St.go h19 ?_
  have hA2:=hA.out.below hW18.bel;obtain⟨cg,hBk,hcs⟩:=hA2.blk (s:=3) rfl
  have hb8:Below w.heap.size w w18:=Below.andThen hB.out hW18.bel;have hs1:w9.heap.size≤w16.heap.size:=hW16.bel.size;have hs2:w.heap.size≤w9.heap.size:=hB.out.size;have hs3:=(hA.out.lo_le (g:=w.heap.size) rfl).2;have hI2:(Lay.tt n).In w18 (fun k=>w.heap.size≤k∧k≠w.heap.size) x [.int .i64 x.kind,.int .i64 x.r,.slice i2.p x.len i2.c]:=Lay.mono (Qim hI) (fun k hk _=>⟨by have:_≤k:=hk;omega,by have:_≤k:=hk;omega⟩);clear hW18 hW16;refine QiL (Wd.of hb8) Ze (fun i x h=>by simp at h) hBk rfl rfl infType rfl (by simp only[List.length_cons,List.length_nil];omega) ?_;intro w20 hW20 hwe;obtain⟨xs2,hA3⟩:=hA2.fillq (s:=3) (w':=w20) rfl hlt1 rfl hx1.out hI2 hwe
  clear hwe hA2 hBk hcs hI2;exact St.nil fun a21 h21=>hK13 _ _ <| rg h21 fun ops=>sad (by omega) trivial rfl rfl rfl <| sm trivial rfl rfl <| St.nil fun a22 h22=>hKL _ _ (l.length - (q+1)) (by omega) ⟨q+1,by omega,rfl,⟨_,hA3⟩,(h22.keep (h22.keep (h22.keep (h22.keep (h22.keep (h22.keep (h22.keep h22.nil (t:=13) rfl) (t:=12) rfl) (t:=11) rfl) (t:=5) rfl) (t:=4) rfl) (t:=0) rfl) (t:=1) rfl),hW20.bel⟩
 have hge:q=l.length:=by have:=of_decide_eq_false hb;omega
 clear hb;refine wp_exit <| hK6 _ _ <| wp_seq_k fun K23 hK23=>rg h11 fun ops=>sm trivial rfl rfl <| sa trivial rfl rfl <| St.nil fun a24 h24=>hK23 _ _ ?_
 refine wp_ret ?_;with_reducible repeat first | refine Qd ?_ | refine Qc ?_
 exact Qu (t:=4) h24 rfl rfl ⟨_,_,rfl,hA.out.done hge,hB.out⟩
theorem QfL (l:List (Qy)) (p:Option Addr) (c:Nat) (w:World) (hl0:insL.list.In w All l [.slice p l.length c]) (hb0:l.length≤4294967296)
 (hf:∀ x∈l,∀ (i:IP) (w:World),IIn w All x i→Calls prog 196 #[.agg #[.int .i64 x.op,.int .i64 x.a,.int .i64 x.b,.int .i64 x.c,.int .i64 x.k,.int .i64 x.n,.slice i.pR x.regs.length i.cR,.slice i.pA x.args.length i.cA]] w fun e w'=>∃ v,e=.returned v∧(∃ i':IP,v=.agg #[.int .i64 x.op,.int .i64 x.a,.int .i64 x.b,.int .i64 x.c,.int .i64 x.k,.int .i64 x.n,.slice i'.pR x.regs.length i'.cR,.slice i'.pA x.args.length i'.cA]∧IIn w' (Z2 w.heap.size) x i')∧Below w.heap.size w w') :
 Calls prog 195 #[.slice p l.length c,.func (.func 196) #[] #[]] w fun e w'=>QfQ insL w w' l e:=by
 have hl:Hid _:=hl0;clear hl0;obtain⟨i0,hi,hz0,hz1,hz2⟩:=(QdQ infoIns)
 refine QC (n:=26) func195 rfl rfl rfl <| fun a hF=>?_
 have hW:=Wd.start w;replace hF:Fr 26 a [(0,.slice p l.length c),(1,.func (.func 196) #[] #[])]:=hF;refine wp_seq_k fun K1 hK1=>rg hF fun ops=>sa trivial rfl rfl <| St.nil fun a2 h2=>hK1 _ _ <| wp_seq_k fun K3 hK3=>rg h2 fun ops=>sm trivial rfl rfl <| Qew trivial rfl rfl ?_
 refine Qi2 underIns hi hz0 hz1 (by rw[hz2];omega) (by unfold maxLen;omega) hW trivial rfl rfl ?_;rintro w4 g xs0 rfl hO hbl hW4;clear hW;refine sa trivial rfl rfl <| St.nil fun a5 h5=>hK3 _ _ <| wp_seq_k fun K6 hK6=>wp_seq_k fun K7 hK7=>rg h5 fun ops=>sm trivial rfl rfl <| Qew trivial rfl rfl <| sm trivial rfl rfl <| St.nil fun a8 h8=>hK7 _ _ <| wp_block <| Qay (fun r a w'=>∃ q:Nat,q≤l.length∧r=l.length - q∧(∃ xs,ZS insL 59 w' w.heap.size (.slice (some ⟨w.heap.size,0,none⟩) q l.length) (l.take q) xs)∧Fr 26 a [(1,.func (.func 196) #[] #[]),(0,.slice p l.length c),(4,.slice none 0 0),(5,.slice (some ⟨w.heap.size,0,none⟩) l.length l.length),(11,.slice p l.length c),(12,.int .i64 (l.length:Int)),(13,.int .i64 (q:Int))]∧Below w.heap.size w w') l.length ⟨0,Nat.zero_le _,rfl,⟨_,ZS.start rfl hO⟩,(h8.keep (h8.keep (h8.keep (h8.keep (h8.keep (h8.keep (h8.keep h8.nil (t:=13) rfl) (t:=12) rfl) (t:=11) rfl) (t:=5) rfl) (t:=4) rfl) (t:=0) rfl) (t:=1) rfl),hbl⟩ ?_
 clear h8 hW4 hO hbl;rintro r a9 w9 ⟨q,hq,hr,⟨xs,hA0⟩,hF9,hB0⟩ KL hKL;have hA:Hid _:=hA0;have hB:Hid _:=hB0;clear hA0 hB0;have hW9:=Wd.start w9;refine wp_seq_k fun K10 hK10=>rg hF9 fun ops=>slt trivial rfl rfl rfl <| St.nil fun a11 h11=>hK10 _ _ <| wp_seq_k fun K12 hK12=>QE (t:=14) h11 rfl (fun hb=>?_) (fun hb=>?_)
 ·have hlt1:q<l.length:=by have:=of_decide_eq_true hb;omega
  clear hb;obtain⟨x,hx1⟩:∃ v9,(l)[q]?=some v9:=⟨_,Zg hlt1⟩
  obtain⟨g1,o1,i1,hp1,E1,In1⟩:=QfY (Lay.below hl.out hB.out) hx1
  replace In1:Hid _:=In1;replace hp1:Hid _:=hp1;replace hx1:Hid _:=hx1;replace E1:Hid _:=E1;have hpg:Hid ((some ⟨w.heap.size,0,none⟩:Option Addr)=some ⟨w.heap.size,0,none⟩):=rfl;refine wp_skip <| hK12 _ _ <| wp_seq_k fun K13 hK13=>wp_block <| wp_seq_k fun K14 hK14=>rg h11 fun ops=>sm trivial rfl rfl <| QiA hp1.out hlt1 trivial rfl rfl rfl <| sSE underlying59 rfl (Q0 E1.out hW9.bel) infIns trivial rfl rfl <| Qkk hW9 trivial rfl <| fun w15 B15 hW15 hN=>sa trivial rfl rfl <| sT 0 hW15 rfl rfl infIns rfl rfl rfl <| fun w16 hW16=>St.nil fun a17 h17=>hK14 _ _ <| rg h17 fun ops=>sm trivial rfl rfl <| sm trivial rfl rfl <| sm trivial rfl rfl <| sS 0 8 underlying59 rfl infIns hW16 trivial rfl rfl rfl rfl <| QiK cf196 hW16 (hf x (Zm hx1.out) i1 _ (In1.out.below hW16.bel)) trivial rfl rfl rfl ?_
  rintro v9 w18 ⟨i2,rfl,hI⟩ hb9 hW18;refine QiA hpg.out hlt1 trivial rfl rfl rfl <| fun a19 h19=>St.go h19 ?_
  have hA2:=hA.out.below hW18.bel;obtain⟨cg,hBk,hcs⟩:=hA2.blk (s:=8) rfl
  have hb8:Below w.heap.size w w18:=Below.andThen hB.out hW18.bel;have hs1:w9.heap.size≤w16.heap.size:=hW16.bel.size;have hs2:w.heap.size≤w9.heap.size:=hB.out.size;have hs3:=(hA.out.lo_le (g:=w.heap.size) rfl).2;have hI2:insL.In w18 (fun k=>w.heap.size≤k∧k≠w.heap.size) x [.int .i64 x.op,.int .i64 x.a,.int .i64 x.b,.int .i64 x.c,.int .i64 x.k,.int .i64 x.n,.slice i2.pR x.regs.length i2.cR,.slice i2.pA x.args.length i2.cA]:=Lay.mono (Qi3 hI) (fun k hk _=>⟨by have:_≤k:=hk;omega,by have:_≤k:=hk;omega⟩);clear hW18 hW16;refine QiL (Wd.of hb8) Ze (fun i x h=>by simp at h) hBk rfl rfl infIns rfl (by simp only[List.length_cons,List.length_nil];omega) ?_;intro w20 hW20 hwe;obtain⟨xs2,hA3⟩:=hA2.fillq (s:=8) (w':=w20) rfl hlt1 rfl hx1.out hI2 hwe
  clear hwe hA2 hBk hcs hI2;exact St.nil fun a21 h21=>hK13 _ _ <| rg h21 fun ops=>sad (by omega) trivial rfl rfl rfl <| sm trivial rfl rfl <| St.nil fun a22 h22=>hKL _ _ (l.length - (q+1)) (by omega) ⟨q+1,by omega,rfl,⟨_,hA3⟩,(h22.keep (h22.keep (h22.keep (h22.keep (h22.keep (h22.keep (h22.keep h22.nil (t:=13) rfl) (t:=12) rfl) (t:=11) rfl) (t:=5) rfl) (t:=4) rfl) (t:=0) rfl) (t:=1) rfl),hW20.bel⟩
 have hge:q=l.length:=by have:=of_decide_eq_false hb;omega
 clear hb;refine wp_exit <| hK6 _ _ <| wp_seq_k fun K23 hK23=>rg h11 fun ops=>sm trivial rfl rfl <| sa trivial rfl rfl <| St.nil fun a24 h24=>hK23 _ _ ?_
 refine wp_ret ?_;with_reducible repeat first | refine Qd ?_ | refine Qc ?_
 exact Qu (t:=4) h24 rfl rfl ⟨_,_,rfl,hA.out.done hge,hB.out⟩
theorem QdX {n:Nat}(l:List (Qh n)) (p:Option Addr) (c:Nat) (w:World) (hl0:(ZD n).list.In w All l [.slice p l.length c]) (hb0:l.length≤4294967296)
 (hf:∀ x∈l,∀ (i:BP) (w:World),BIn w All x i→Calls prog 155 #[.agg #[.int .i64 x.regs,.slice i.pP x.params.length i.cP,.slice i.pC x.code.length i.cC,.int .i64 x.fin.op,.int .i64 x.fin.a,.int .i64 x.fin.yes.block,.slice i.e.pYR x.fin.yes.regs.length i.e.cYR,.slice i.e.pYA x.fin.yes.args.length i.e.cYA,.int .i64 x.fin.no.block,.slice i.e.pNR x.fin.no.regs.length i.e.cNR,.slice i.e.pNA x.fin.no.args.length i.e.cNA,.slice i.e.pA x.fin.args.length i.e.cA]] w fun e w'=>∃ v,e=.returned v∧(∃ i':BP,v=.agg #[.int .i64 x.regs,.slice i'.pP x.params.length i'.cP,.slice i'.pC x.code.length i'.cC,.int .i64 x.fin.op,.int .i64 x.fin.a,.int .i64 x.fin.yes.block,.slice i'.e.pYR x.fin.yes.regs.length i'.e.cYR,.slice i'.e.pYA x.fin.yes.args.length i'.e.cYA,.int .i64 x.fin.no.block,.slice i'.e.pNR x.fin.no.regs.length i'.e.cNR,.slice i'.e.pNA x.fin.no.args.length i'.e.cNA,.slice i'.e.pA x.fin.args.length i'.e.cA]∧BIn w' (Z2 w.heap.size) x i')∧Below w.heap.size w w') :
 Calls prog 154 #[.slice p l.length c,.func (.func 155) #[] #[]] w fun e w'=>QfQ (ZD n) w w' l e:=by
 have hl:Hid _:=hl0;clear hl0;obtain⟨i0,hi,hz0,hz1,hz2⟩:=(QdQ infoBlock)
 refine QC (n:=26) func154 rfl rfl rfl <| fun a hF=>?_
 have hW:=Wd.start w;replace hF:Fr 26 a [(0,.slice p l.length c),(1,.func (.func 155) #[] #[])]:=hF;refine wp_seq_k fun K1 hK1=>rg hF fun ops=>sa trivial rfl rfl <| St.nil fun a2 h2=>hK1 _ _ <| wp_seq_k fun K3 hK3=>rg h2 fun ops=>sm trivial rfl rfl <| QdM trivial rfl rfl ?_
 refine Qi2 underBlocks hi hz0 hz1 (by rw[hz2];omega) (by unfold maxLen;omega) hW trivial rfl rfl ?_;rintro w4 g xs0 rfl hO hbl hW4;clear hW;refine sa trivial rfl rfl <| St.nil fun a5 h5=>hK3 _ _ <| wp_seq_k fun K6 hK6=>wp_seq_k fun K7 hK7=>rg h5 fun ops=>sm trivial rfl rfl <| QdM trivial rfl rfl <| sm trivial rfl rfl <| St.nil fun a8 h8=>hK7 _ _ <| wp_block <| Qay (fun r a w'=>∃ q:Nat,q≤l.length∧r=l.length - q∧(∃ xs,ZS (ZD n) 84 w' w.heap.size (.slice (some ⟨w.heap.size,0,none⟩) q l.length) (l.take q) xs)∧Fr 26 a [(1,.func (.func 155) #[] #[]),(0,.slice p l.length c),(4,.slice none 0 0),(5,.slice (some ⟨w.heap.size,0,none⟩) l.length l.length),(11,.slice p l.length c),(12,.int .i64 (l.length:Int)),(13,.int .i64 (q:Int))]∧Below w.heap.size w w') l.length ⟨0,Nat.zero_le _,rfl,⟨_,ZS.start rfl hO⟩,(h8.keep (h8.keep (h8.keep (h8.keep (h8.keep (h8.keep (h8.keep h8.nil (t:=13) rfl) (t:=12) rfl) (t:=11) rfl) (t:=5) rfl) (t:=4) rfl) (t:=0) rfl) (t:=1) rfl),hbl⟩ ?_
 clear h8 hW4 hO hbl;rintro r a9 w9 ⟨q,hq,hr,⟨xs,hA0⟩,hF9,hB0⟩ KL hKL;have hA:Hid _:=hA0;have hB:Hid _:=hB0;clear hA0 hB0;have hW9:=Wd.start w9;refine wp_seq_k fun K10 hK10=>rg hF9 fun ops=>slt trivial rfl rfl rfl <| St.nil fun a11 h11=>hK10 _ _ <| wp_seq_k fun K12 hK12=>QE (t:=14) h11 rfl (fun hb=>?_) (fun hb=>?_)
 ·have hlt1:q<l.length:=by have:=of_decide_eq_true hb;omega
  clear hb;obtain⟨x,hx1⟩:∃ v9,(l)[q]?=some v9:=⟨_,Zg hlt1⟩
  obtain⟨g1,o1,b1,hp1,E1,In1⟩:=QcF (Lay.below hl.out hB.out) hx1
  replace In1:Hid _:=In1;replace hp1:Hid _:=hp1;replace hx1:Hid _:=hx1;replace E1:Hid _:=E1;have hpg:Hid ((some ⟨w.heap.size,0,none⟩:Option Addr)=some ⟨w.heap.size,0,none⟩):=rfl;refine wp_skip <| hK12 _ _ <| wp_seq_k fun K13 hK13=>wp_block <| wp_seq_k fun K14 hK14=>rg h11 fun ops=>sm trivial rfl rfl <| Qea hp1.out hlt1 trivial rfl rfl rfl <| sSE underlying84 rfl (Q0 E1.out hW9.bel) infBlock trivial rfl rfl <| Qfw hW9 trivial rfl <| fun w15 B15 hW15 hN=>sa trivial rfl rfl <| sT 0 hW15 rfl rfl infBlock rfl rfl rfl <| fun w16 hW16=>St.nil fun a17 h17=>hK14 _ _ <| rg h17 fun ops=>sm trivial rfl rfl <| sm trivial rfl rfl <| sm trivial rfl rfl <| sS 0 12 underlying84 rfl infBlock hW16 trivial rfl rfl rfl rfl <| QiK cf155 hW16 (hf x (Zm hx1.out) b1 _ (In1.out.below hW16.bel)) trivial rfl rfl rfl ?_
  rintro v9 w18 ⟨i2,rfl,hI⟩ hb9 hW18;refine Qea hpg.out hlt1 trivial rfl rfl rfl <| fun a19 h19=>St.go h19 ?_
  have hA2:=hA.out.below hW18.bel;obtain⟨cg,hBk,hcs⟩:=hA2.blk (s:=12) rfl
  have hb8:Below w.heap.size w w18:=Below.andThen hB.out hW18.bel;have hs1:w9.heap.size≤w16.heap.size:=hW16.bel.size;have hs2:w.heap.size≤w9.heap.size:=hB.out.size;have hs3:=(hA.out.lo_le (g:=w.heap.size) rfl).2;have hI2:(ZD n).In w18 (fun k=>w.heap.size≤k∧k≠w.heap.size) x [.int .i64 x.regs,.slice i2.pP x.params.length i2.cP,.slice i2.pC x.code.length i2.cC,.int .i64 x.fin.op,.int .i64 x.fin.a,.int .i64 x.fin.yes.block,.slice i2.e.pYR x.fin.yes.regs.length i2.e.cYR,.slice i2.e.pYA x.fin.yes.args.length i2.e.cYA,.int .i64 x.fin.no.block,.slice i2.e.pNR x.fin.no.regs.length i2.e.cNR,.slice i2.e.pNA x.fin.no.args.length i2.e.cNA,.slice i2.e.pA x.fin.args.length i2.e.cA]:=Lay.mono (Qdp hI) (fun k hk _=>⟨by have:_≤k:=hk;omega,by have:_≤k:=hk;omega⟩);clear hW18 hW16;refine QiL (Wd.of hb8) Ze (fun i x h=>by simp at h) hBk rfl rfl infBlock rfl (by simp only[List.length_cons,List.length_nil];omega) ?_;intro w20 hW20 hwe;obtain⟨xs2,hA3⟩:=hA2.fillq (s:=12) (w':=w20) rfl hlt1 rfl hx1.out hI2 hwe
  clear hwe hA2 hBk hcs hI2;exact St.nil fun a21 h21=>hK13 _ _ <| rg h21 fun ops=>sad (by omega) trivial rfl rfl rfl <| sm trivial rfl rfl <| St.nil fun a22 h22=>hKL _ _ (l.length - (q+1)) (by omega) ⟨q+1,by omega,rfl,⟨_,hA3⟩,(h22.keep (h22.keep (h22.keep (h22.keep (h22.keep (h22.keep (h22.keep h22.nil (t:=13) rfl) (t:=12) rfl) (t:=11) rfl) (t:=5) rfl) (t:=4) rfl) (t:=0) rfl) (t:=1) rfl),hW20.bel⟩
 have hge:q=l.length:=by have:=of_decide_eq_false hb;omega
 clear hb;refine wp_exit <| hK6 _ _ <| wp_seq_k fun K23 hK23=>rg h11 fun ops=>sm trivial rfl rfl <| sa trivial rfl rfl <| St.nil fun a24 h24=>hK23 _ _ ?_
 refine wp_ret ?_;with_reducible repeat first | refine Qd ?_ | refine Qc ?_
 exact Qu (t:=4) h24 rfl rfl ⟨_,_,rfl,hA.out.done hge,hB.out⟩
theorem QeP {n:Nat}(l:List (Qg n)) (p:Option Addr) (c:Nat) (w:World) (hl0:(Zy n).list.In w All l [.slice p l.length c]) (hb0:l.length≤4294967296)
 (hf:∀ x∈l,∀ (i:FP) (w:World),FIn w All x i→Calls prog 105 #[.agg #[.int .i64 x.regs,.slice i.pP x.params.length i.cP,.slice i.pR x.results.length i.cR,.slice i.pB x.blocks.length i.cB]] w fun e w'=>∃ v,e=.returned v∧(∃ i':FP,v=.agg #[.int .i64 x.regs,.slice i'.pP x.params.length i'.cP,.slice i'.pR x.results.length i'.cR,.slice i'.pB x.blocks.length i'.cB]∧FIn w' (Z2 w.heap.size) x i')∧Below w.heap.size w w') :
 Calls prog 104 #[.slice p l.length c,.func (.func 105) #[] #[]] w fun e w'=>QfQ (Zy n) w w' l e:=by
 have hl:Hid _:=hl0;clear hl0;obtain⟨i0,hi,hz0,hz1,hz2⟩:=(QdQ infoFunc)
 refine QC (n:=26) func104 rfl rfl rfl <| fun a hF=>?_
 have hW:=Wd.start w;replace hF:Fr 26 a [(0,.slice p l.length c),(1,.func (.func 105) #[] #[])]:=hF;refine wp_seq_k fun K1 hK1=>rg hF fun ops=>sa trivial rfl rfl <| St.nil fun a2 h2=>hK1 _ _ <| wp_seq_k fun K3 hK3=>rg h2 fun ops=>sm trivial rfl rfl <| Qcc trivial rfl rfl ?_
 refine Qi2 underFuncs hi hz0 hz1 (by rw[hz2];omega) (by unfold maxLen;omega) hW trivial rfl rfl ?_;rintro w4 g xs0 rfl hO hbl hW4;clear hW;refine sa trivial rfl rfl <| St.nil fun a5 h5=>hK3 _ _ <| wp_seq_k fun K6 hK6=>wp_seq_k fun K7 hK7=>rg h5 fun ops=>sm trivial rfl rfl <| Qcc trivial rfl rfl <| sm trivial rfl rfl <| St.nil fun a8 h8=>hK7 _ _ <| wp_block <| Qay (fun r a w'=>∃ q:Nat,q≤l.length∧r=l.length - q∧(∃ xs,ZS (Zy n) 55 w' w.heap.size (.slice (some ⟨w.heap.size,0,none⟩) q l.length) (l.take q) xs)∧Fr 26 a [(1,.func (.func 105) #[] #[]),(0,.slice p l.length c),(4,.slice none 0 0),(5,.slice (some ⟨w.heap.size,0,none⟩) l.length l.length),(11,.slice p l.length c),(12,.int .i64 (l.length:Int)),(13,.int .i64 (q:Int))]∧Below w.heap.size w w') l.length ⟨0,Nat.zero_le _,rfl,⟨_,ZS.start rfl hO⟩,(h8.keep (h8.keep (h8.keep (h8.keep (h8.keep (h8.keep (h8.keep h8.nil (t:=13) rfl) (t:=12) rfl) (t:=11) rfl) (t:=5) rfl) (t:=4) rfl) (t:=0) rfl) (t:=1) rfl),hbl⟩ ?_
 clear h8 hW4 hO hbl;rintro r a9 w9 ⟨q,hq,hr,⟨xs,hA0⟩,hF9,hB0⟩ KL hKL;have hA:Hid _:=hA0;have hB:Hid _:=hB0;clear hA0 hB0;have hW9:=Wd.start w9;refine wp_seq_k fun K10 hK10=>rg hF9 fun ops=>slt trivial rfl rfl rfl <| St.nil fun a11 h11=>hK10 _ _ <| wp_seq_k fun K12 hK12=>QE (t:=14) h11 rfl (fun hb=>?_) (fun hb=>?_)
 ·have hlt1:q<l.length:=by have:=of_decide_eq_true hb;omega
  clear hb;obtain⟨x,hx1⟩:∃ v9,(l)[q]?=some v9:=⟨_,Zg hlt1⟩
  obtain⟨g1,o1,f1,hp1,E1,In1⟩:=QcZ (Lay.below hl.out hB.out) hx1
  replace In1:Hid _:=In1;replace hp1:Hid _:=hp1;replace hx1:Hid _:=hx1;replace E1:Hid _:=E1;have hpg:Hid ((some ⟨w.heap.size,0,none⟩:Option Addr)=some ⟨w.heap.size,0,none⟩):=rfl;refine wp_skip <| hK12 _ _ <| wp_seq_k fun K13 hK13=>wp_block <| wp_seq_k fun K14 hK14=>rg h11 fun ops=>sm trivial rfl rfl <| Qe8 hp1.out hlt1 trivial rfl rfl rfl <| sSE underlying55 rfl (Q0 E1.out hW9.bel) infFunc trivial rfl rfl <| Qht hW9 trivial rfl <| fun w15 B15 hW15 hN=>sa trivial rfl rfl <| sT 0 hW15 rfl rfl infFunc rfl rfl rfl <| fun w16 hW16=>St.nil fun a17 h17=>hK14 _ _ <| rg h17 fun ops=>sm trivial rfl rfl <| sm trivial rfl rfl <| sm trivial rfl rfl <| sS 0 4 underlying55 rfl infFunc hW16 trivial rfl rfl rfl rfl <| QiK cf105 hW16 (hf x (Zm hx1.out) f1 _ (In1.out.below hW16.bel)) trivial rfl rfl rfl ?_
  rintro v9 w18 ⟨i2,rfl,hI⟩ hb9 hW18;refine Qe8 hpg.out hlt1 trivial rfl rfl rfl <| fun a19 h19=>St.go h19 ?_
  have hA2:=hA.out.below hW18.bel;obtain⟨cg,hBk,hcs⟩:=hA2.blk (s:=4) rfl
  have hb8:Below w.heap.size w w18:=Below.andThen hB.out hW18.bel;have hs1:w9.heap.size≤w16.heap.size:=hW16.bel.size;have hs2:w.heap.size≤w9.heap.size:=hB.out.size;have hs3:=(hA.out.lo_le (g:=w.heap.size) rfl).2;have hI2:(Zy n).In w18 (fun k=>w.heap.size≤k∧k≠w.heap.size) x [.int .i64 x.regs,.slice i2.pP x.params.length i2.cP,.slice i2.pR x.results.length i2.cR,.slice i2.pB x.blocks.length i2.cB]:=Lay.mono (Qep hI) (fun k hk _=>⟨by have:_≤k:=hk;omega,by have:_≤k:=hk;omega⟩);clear hW18 hW16;refine QiL (Wd.of hb8) Ze (fun i x h=>by simp at h) hBk rfl rfl infFunc rfl (by simp only[List.length_cons,List.length_nil];omega) ?_;intro w20 hW20 hwe;obtain⟨xs2,hA3⟩:=hA2.fillq (s:=4) (w':=w20) rfl hlt1 rfl hx1.out hI2 hwe
  clear hwe hA2 hBk hcs hI2;exact St.nil fun a21 h21=>hK13 _ _ <| rg h21 fun ops=>sad (by omega) trivial rfl rfl rfl <| sm trivial rfl rfl <| St.nil fun a22 h22=>hKL _ _ (l.length - (q+1)) (by omega) ⟨q+1,by omega,rfl,⟨_,hA3⟩,(h22.keep (h22.keep (h22.keep (h22.keep (h22.keep (h22.keep (h22.keep h22.nil (t:=13) rfl) (t:=12) rfl) (t:=11) rfl) (t:=5) rfl) (t:=4) rfl) (t:=0) rfl) (t:=1) rfl),hW20.bel⟩
 have hge:q=l.length:=by have:=of_decide_eq_false hb;omega
 clear hb;refine wp_exit <| hK6 _ _ <| wp_seq_k fun K23 hK23=>rg h11 fun ops=>sm trivial rfl rfl <| sa trivial rfl rfl <| St.nil fun a24 h24=>hK23 _ _ ?_
 refine wp_ret ?_;with_reducible repeat first | refine Qd ?_ | refine Qc ?_
 exact Qu (t:=4) h24 rfl rfl ⟨_,_,rfl,hA.out.done hge,hB.out⟩
theorem Qbv {α:Type}{A:Lay α}{f:FuncId}{args:Array Value}{w:World}{l:List α}(h:Calls prog f args w fun e w'=>QfQ A w w' l e) :
 Calls prog f args w fun e w'=>∃ v,e=.returned v∧(∃ a' c',v=.slice a' l.length c'∧A.list.In w' (Z2 w.heap.size) l [.slice a' l.length c'])∧Below w.heap.size w w' :=
 h.mono fun e w' ⟨a',c',h1,h2,h3⟩=>⟨_,h1,⟨a',c',rfl,h2⟩,h3⟩
theorem EIn.keep1 {w w':World}{lo B:Nat}{x:MEnd}{e:EP}(h:EIn w (Z2 lo) x e) (hk:Qh3 B w w') (hB:B<lo):EIn w' (Z2 lo) x e :=
 h.keep (fun k hl _=>hk k (by have:lo≤k:=hl;omega)) (fun _ h _=>h)
theorem Qij {x:Qy}(hs:x.small) (i:IP) (w:World) (h:IIn w All x i):Calls prog 196 #[.agg #[.int .i64 x.op,.int .i64 x.a,.int .i64 x.b,.int .i64 x.c,.int .i64 x.k,.int .i64 x.n,.slice i.pR x.regs.length i.cR,.slice i.pA x.args.length i.cA]] w fun e w'=>∃ v,e=.returned v∧(∃ i':IP,v=.agg #[.int .i64 x.op,.int .i64 x.a,.int .i64 x.b,.int .i64 x.c,.int .i64 x.k,.int .i64 x.n,.slice i'.pR x.regs.length i'.cR,.slice i'.pA x.args.length i'.cA]∧IIn w' (Z2 w.heap.size) x i')∧Below w.heap.size w w' :=
 (QfK x i w h (by have:=hs.1;omega) (by have:=hs.2;omega)).mono fun e w' ⟨i',h1,h2,h3⟩=>⟨_,h1,⟨i',rfl,h2⟩,h3⟩
theorem Qit {x:MEnd}(hs:x.small) (i:EP) (w:World) (h:EIn w All x i):Calls prog 197 #[.agg #[.int .i64 x.op,.int .i64 x.a,.int .i64 x.yes.block,.slice i.pYR x.yes.regs.length i.cYR,.slice i.pYA x.yes.args.length i.cYA,.int .i64 x.no.block,.slice i.pNR x.no.regs.length i.cNR,.slice i.pNA x.no.args.length i.cNA,.slice i.pA x.args.length i.cA]] w fun e w'=>∃ v,e=.returned v∧(∃ i':EP,v=.agg #[.int .i64 x.op,.int .i64 x.a,.int .i64 x.yes.block,.slice i'.pYR x.yes.regs.length i'.cYR,.slice i'.pYA x.yes.args.length i'.cYA,.int .i64 x.no.block,.slice i'.pNR x.no.regs.length i'.cNR,.slice i'.pNA x.no.args.length i'.cNA,.slice i'.pA x.args.length i'.cA]∧EIn w' (Z2 w.heap.size) x i')∧Below w.heap.size w w' :=
 (QfI x i w h (by have:=hs.1.1;omega) (by have:=hs.1.2;omega) (by have:=hs.2.1.1;omega) (by have:=hs.2.1.2;omega) (by have:=hs.2.2;omega)).mono fun e w' ⟨i',h1,h2,h3⟩=>⟨_,h1,⟨i',rfl,h2⟩,h3⟩
def Qk5 (n:Nat):Prop:=∀ (t:TT n) (i:TP) (w:World),YIn w All t i→t.count≤100000→Calls prog 153 #[.agg #[.int .i64 t.kind,.int .i64 t.r,.slice i.p t.len i.c]] w fun e w'=>∃ v,e=.returned v∧(∃ i':TP,v=.agg #[.int .i64 t.kind,.int .i64 t.r,.slice i'.p t.len i'.c]∧YIn w' (Z2 w.heap.size) t i')∧Below w.heap.size w w'
theorem cOwnType_any:∀ n,Qk5 n:=by
 intro n
 induction n with
 | zero=>intro t;exact Empty.elim t
 | succ n ih =>
   intro t i w ht hc;have hco:∀ x∈t.2.2,x.count≤100000:=fun x hx=>by have:=t.count_kid hx;omega
   have hlen:t.2.2.length≤100000:=by have:=t.len_lt_count;rw[t.len_eq] at this;omega
   have hok:=ht.ok;have hk:Hid _:=QeI (c:=i.c) ht.tree.list hok.2;clear ht;simp only[TT.len_eq]
   refine QC (n:=8) func153 rfl rfl rfl <| fun a hF=>?_
   have hW:=Wd.start w;replace hF:Fr 8 a [(0,.agg #[.int .i64 t.kind,.int .i64 t.r,.slice i.p t.2.2.length i.c])]:=hF;refine wp_seq_k fun K1 hK1=>rg hF fun ops=>sB hW trivial rfl rfl <| fun w2 B2 hW2 hN=>QhH hW2 trivial rfl <| fun w3 B3 hW3 hN=>St.nil fun a4 h4=>hK1 _ _ <| wp_seq_k fun K5 hK5=>rg h4 fun ops=>Qii trivial rfl rfl <| QaK 1 hW3 trivial rfl rfl rfl rfl ?_
   have hlb:max B3 B2+1≤w3.heap.size:=by have h8:=(hW3.get 0 rfl).lt;have h9:=(hW3.get 1 rfl).lt;omega
   refine Qj5 cf152 hW3 (Qbv (Qau t.2.2 _ _ _ (Lay.below hk.out hW3.bel) (by omega) (fun u hu i w h=>ih u i w h (hco u hu)))) trivial rfl rfl rfl ?_;rintro v9 w7 ⟨p5,c5,rfl,hN5⟩ hb9 hW7;replace hN5:=Lay.mono hN5 (O':=Z2 (max B3 B2+1)) (fun k hk _=>Zt hlb hk);clear hlb hb9 hW3;refine Qii trivial rfl rfl <| s1k 1 inf1Types hW7 rfl rfl rfl rfl rfl rfl <| fun w8 hKp hW8=>?_
   replace hN5:=Lay.keep1 hN5 hKp (by omega);clear hKp hW7;refine St.nil fun a9 h9=>hK5 _ _ <| wp_seq_k fun K10 hK10=>rg h9 fun ops=>sS 1 3 underlying79 rfl infType hW8 trivial rfl rfl rfl rfl <| sTk 0 hW8 rfl rfl infType rfl rfl rfl <| fun w11 hKp hW11=>?_
   replace hN5:=Lay.keep1 hN5 hKp (by omega);clear hKp hW8;refine St.nil fun a12 h12=>hK10 _ _ ?_;refine wp_ret ?_;with_reducible repeat first | refine Qd ?_ | refine Qc ?_
   have hlow:w.heap.size≤max B3 B2+1:=by have h8:=hW11.new 0 _ rfl;simp only at h8;omega
   have hZ:=QJ (Lay.mono hN5 (fun k hk _=>Zt hlow hk));exact QQ 0 h12 hW11 rfl rfl rfl underlying79 rfl infType ⟨_,rfl,⟨⟨p5,c5⟩,rfl,⟨hZ.1,hok⟩⟩,hW11.bel⟩
theorem Qd4 {n:Nat}(x:Qh n) (i:BP) (w:World) (h:BIn w All x i) (hs0:x.small) :
 Calls prog 155 #[.agg #[.int .i64 x.regs,.slice i.pP x.params.length i.cP,.slice i.pC x.code.length i.cC,.int .i64 x.fin.op,.int .i64 x.fin.a,.int .i64 x.fin.yes.block,.slice i.e.pYR x.fin.yes.regs.length i.e.cYR,.slice i.e.pYA x.fin.yes.args.length i.e.cYA,.int .i64 x.fin.no.block,.slice i.e.pNR x.fin.no.regs.length i.e.cNR,.slice i.e.pNA x.fin.no.args.length i.e.cNA,.slice i.e.pA x.fin.args.length i.e.cA]] w fun e w'=>∃ v,e=.returned v∧(∃ i':BP,v=.agg #[.int .i64 x.regs,.slice i'.pP x.params.length i'.cP,.slice i'.pC x.code.length i'.cC,.int .i64 x.fin.op,.int .i64 x.fin.a,.int .i64 x.fin.yes.block,.slice i'.e.pYR x.fin.yes.regs.length i'.e.cYR,.slice i'.e.pYA x.fin.yes.args.length i'.e.cYA,.int .i64 x.fin.no.block,.slice i'.e.pNR x.fin.no.regs.length i'.e.cNR,.slice i'.e.pNA x.fin.no.args.length i'.e.cNA,.slice i'.e.pA x.fin.args.length i'.e.cA]∧BIn w' (Z2 w.heap.size) x i')∧Below w.heap.size w w':=by
 have hx:Hid _:=h;have hs:Hid _:=hs0;have hbd:=h.bnd;clear h hs0;refine QC (n:=16) func155 rfl rfl rfl <| fun a hF=>?_
 have hW:=Wd.start w;replace hF:Fr 16 a [(0,.agg #[.int .i64 x.regs,.slice i.pP x.params.length i.cP,.slice i.pC x.code.length i.cC,.int .i64 x.fin.op,.int .i64 x.fin.a,.int .i64 x.fin.yes.block,.slice i.e.pYR x.fin.yes.regs.length i.e.cYR,.slice i.e.pYA x.fin.yes.args.length i.e.cYA,.int .i64 x.fin.no.block,.slice i.e.pNR x.fin.no.regs.length i.e.cNR,.slice i.e.pNA x.fin.no.args.length i.e.cNA,.slice i.e.pA x.fin.args.length i.e.cA])]:=hF;refine wp_seq_k fun K1 hK1=>rg hF fun ops=>sB hW trivial rfl rfl <| fun w2 B2 hW2 hN=>Qfw hW2 trivial rfl <| fun w3 B3 hW3 hN=>St.nil fun a4 h4=>hK1 _ _ <| wp_seq_k fun K5 hK5=>rg h4 fun ops=>QcI trivial rfl rfl <| QaK 1 hW3 trivial rfl rfl rfl rfl ?_
 have hlb:max B3 B2+1≤w3.heap.size:=by have h8:=(hW3.get 0 rfl).lt;have h9:=(hW3.get 1 rfl).lt;omega
 refine Qj5 cf152 hW3 (Qbv (Qau x.params _ _ _ (Lay.below hx.out.params hW3.bel) (by have:=hs.out.2.1.1;omega) (fun t ht i w h=>cOwnType_any n t i w h (hs.out.2.1.2 t ht)))) trivial rfl rfl rfl ?_;rintro v9 w7 ⟨p5,c5,rfl,hN5⟩ hb9 hW7;replace hN5:=Lay.mono hN5 (O':=Z2 (max B3 B2+1)) (fun k hk _=>Zt hlb hk);clear hlb hb9 hW3;refine QcI trivial rfl rfl <| s1k 1 inf1Types hW7 rfl rfl rfl rfl rfl rfl <| fun w8 hKp hW8=>?_
 replace hN5:=Lay.keep1 hN5 hKp (by omega);clear hKp hW7;refine St.nil fun a9 h9=>hK5 _ _ <| wp_seq_k fun K10 hK10=>rg h9 fun ops=>Qb1 trivial rfl rfl <| Qgc 1 hW8 trivial rfl rfl rfl rfl ?_
 have hlb:max B3 B2+1≤w8.heap.size:=by have h8:=(hW8.get 0 rfl).lt;have h9:=(hW8.get 1 rfl).lt;omega
 refine Qj5 cf195 hW8 (Qbv (QfL x.code _ _ _ (Lay.below hx.out.code hW8.bel) (by have:=hs.out.1;omega) (fun t ht i w h=>Qij (hs.out.2.2.2 t ht) i w h))) trivial rfl rfl rfl ?_;rintro v9 w12 ⟨p9,c9,rfl,hN9⟩ hb9 hW12;replace hN5:=Lay.below hN5 hb9;replace hN9:=Lay.mono hN9 (O':=Z2 (max B3 B2+1)) (fun k hk _=>Zt hlb hk);clear hlb hb9 hW8;refine Qb1 trivial rfl rfl <| s1k 1 inf1Inss hW12 rfl rfl rfl rfl rfl rfl <| fun w13 hKp hW13=>?_
 replace hN5:=Lay.keep1 hN5 hKp (by omega);replace hN9:=Lay.keep1 hN9 hKp (by omega);clear hKp hW12;refine St.nil fun a14 h14=>hK10 _ _ <| wp_seq_k fun K15 hK15=>rg h14 fun ops=>Qf2 trivial rfl rfl <| sS 1 9 underlying47 rfl infEnd hW13 trivial rfl rfl rfl rfl ?_
 have hlb:max B3 B2+1≤w13.heap.size:=by have h8:=(hW13.get 0 rfl).lt;have h9:=(hW13.get 1 rfl).lt;omega
 refine Qmc cf197 hW13 (Qit hs.out.2.2.1 _ _ (hx.out.fin.below hW13.bel)) trivial rfl rfl ?_;rintro v9 w17 ⟨e13,rfl,hN13⟩ hb9 hW17;replace hN5:=Lay.below hN5 hb9;replace hN9:=Lay.below hN9 hb9;replace hN13:=EIn.mono hN13 (O':=Z2 (max B3 B2+1)) (fun k hk _=>Zt hlb hk);clear hlb hb9 hW13;refine Qf2 trivial rfl rfl <| sTk 1 hW17 rfl rfl infEnd rfl rfl rfl <| fun w18 hKp hW18=>?_
 replace hN5:=Lay.keep1 hN5 hKp (by omega);replace hN9:=Lay.keep1 hN9 hKp (by omega);replace hN13:=EIn.keep1 hN13 hKp (by omega);clear hKp hW17;refine St.nil fun a19 h19=>hK15 _ _ <| wp_seq_k fun K20 hK20=>rg h19 fun ops=>sS 1 12 underlying84 rfl infBlock hW18 trivial rfl rfl rfl rfl <| sTk 0 hW18 rfl rfl infBlock rfl rfl rfl <| fun w21 hKp hW21=>?_
 replace hN5:=Lay.keep1 hN5 hKp (by omega);replace hN9:=Lay.keep1 hN9 hKp (by omega);replace hN13:=EIn.keep1 hN13 hKp (by omega);clear hKp hW18;refine St.nil fun a22 h22=>hK20 _ _ ?_;refine wp_ret ?_;with_reducible repeat first | refine Qd ?_ | refine Qc ?_
 have hlow:w.heap.size≤max B3 B2+1:=by have h8:=hW21.new 0 _ rfl;simp only at h8;omega
 exact QQ 0 h22 hW21 rfl rfl rfl underlying84 rfl infBlock ⟨_,rfl,⟨⟨p5,c5,p9,c9,e13⟩,rfl,⟨Lay.mono hN5 (fun k hk _=>Zt hlow hk),Lay.mono hN9 (fun k hk _=>Zt hlow hk),EIn.mono hN13 (fun k hk _=>Zt hlow hk),hbd⟩⟩,hW21.bel⟩
theorem Qer {n:Nat}(x:Qg n) (i:FP) (w:World) (h:FIn w All x i) (hs0:x.small) :
 Calls prog 105 #[.agg #[.int .i64 x.regs,.slice i.pP x.params.length i.cP,.slice i.pR x.results.length i.cR,.slice i.pB x.blocks.length i.cB]] w fun e w'=>∃ v,e=.returned v∧(∃ i':FP,v=.agg #[.int .i64 x.regs,.slice i'.pP x.params.length i'.cP,.slice i'.pR x.results.length i'.cR,.slice i'.pB x.blocks.length i'.cB]∧FIn w' (Z2 w.heap.size) x i')∧Below w.heap.size w w':=by
 have hx:Hid _:=h;have hs:Hid _:=hs0;have hbd:=h.bnd;clear h hs0;refine QC (n:=16) func105 rfl rfl rfl <| fun a hF=>?_
 have hW:=Wd.start w;replace hF:Fr 16 a [(0,.agg #[.int .i64 x.regs,.slice i.pP x.params.length i.cP,.slice i.pR x.results.length i.cR,.slice i.pB x.blocks.length i.cB])]:=hF;refine wp_seq_k fun K1 hK1=>rg hF fun ops=>sB hW trivial rfl rfl <| fun w2 B2 hW2 hN=>Qht hW2 trivial rfl <| fun w3 B3 hW3 hN=>St.nil fun a4 h4=>hK1 _ _ <| wp_seq_k fun K5 hK5=>rg h4 fun ops=>QdO trivial rfl rfl <| QaK 1 hW3 trivial rfl rfl rfl rfl ?_
 have hlb:max B3 B2+1≤w3.heap.size:=by have h8:=(hW3.get 0 rfl).lt;have h9:=(hW3.get 1 rfl).lt;omega
 refine Qj5 cf152 hW3 (Qbv (Qau x.params _ _ _ (Lay.below hx.out.params hW3.bel) (by have:=hs.out.2.1.1;omega) (fun t ht i w h=>cOwnType_any n t i w h (hs.out.2.1.2 t ht)))) trivial rfl rfl rfl ?_;rintro v9 w7 ⟨p5,c5,rfl,hN5⟩ hb9 hW7;replace hN5:=Lay.mono hN5 (O':=Z2 (max B3 B2+1)) (fun k hk _=>Zt hlb hk);clear hlb hb9 hW3;refine QdO trivial rfl rfl <| s1k 1 inf1Types hW7 rfl rfl rfl rfl rfl rfl <| fun w8 hKp hW8=>?_
 replace hN5:=Lay.keep1 hN5 hKp (by omega);clear hKp hW7;refine St.nil fun a9 h9=>hK5 _ _ <| wp_seq_k fun K10 hK10=>rg h9 fun ops=>Qfe trivial rfl rfl <| QaK 1 hW8 trivial rfl rfl rfl rfl ?_
 have hlb:max B3 B2+1≤w8.heap.size:=by have h8:=(hW8.get 0 rfl).lt;have h9:=(hW8.get 1 rfl).lt;omega
 refine Qj5 cf152 hW8 (Qbv (Qau x.results _ _ _ (Lay.below hx.out.results hW8.bel) (by have:=hs.out.2.2.1.1;omega) (fun t ht i w h=>cOwnType_any n t i w h (hs.out.2.2.1.2 t ht)))) trivial rfl rfl rfl ?_;rintro v9 w12 ⟨p9,c9,rfl,hN9⟩ hb9 hW12;replace hN5:=Lay.below hN5 hb9;replace hN9:=Lay.mono hN9 (O':=Z2 (max B3 B2+1)) (fun k hk _=>Zt hlb hk);clear hlb hb9 hW8;refine Qfe trivial rfl rfl <| s1k 1 inf1Types hW12 rfl rfl rfl rfl rfl rfl <| fun w13 hKp hW13=>?_
 replace hN5:=Lay.keep1 hN5 hKp (by omega);replace hN9:=Lay.keep1 hN9 hKp (by omega);clear hKp hW12;refine St.nil fun a14 h14=>hK10 _ _ <| wp_seq_k fun K15 hK15=>rg h14 fun ops=>Qe7 trivial rfl rfl <| Qgb 1 hW13 trivial rfl rfl rfl rfl ?_
 have hlb:max B3 B2+1≤w13.heap.size:=by have h8:=(hW13.get 0 rfl).lt;have h9:=(hW13.get 1 rfl).lt;omega
 refine Qj5 cf154 hW13 (Qbv (QdX x.blocks _ _ _ (Lay.below hx.out.blocks hW13.bel) (by have:=hs.out.1;omega) (fun t ht i w h=>Qd4 t i w h (hs.out.2.2.2 t ht)))) trivial rfl rfl rfl ?_;rintro v9 w17 ⟨p13,c13,rfl,hN13⟩ hb9 hW17;replace hN5:=Lay.below hN5 hb9;replace hN9:=Lay.below hN9 hb9;replace hN13:=Lay.mono hN13 (O':=Z2 (max B3 B2+1)) (fun k hk _=>Zt hlb hk);clear hlb hb9 hW13;refine Qe7 trivial rfl rfl <| s1k 1 inf1Blocks hW17 rfl rfl rfl rfl rfl rfl <| fun w18 hKp hW18=>?_
 replace hN5:=Lay.keep1 hN5 hKp (by omega);replace hN9:=Lay.keep1 hN9 hKp (by omega);replace hN13:=Lay.keep1 hN13 hKp (by omega);clear hKp hW17;refine St.nil fun a19 h19=>hK15 _ _ <| wp_seq_k fun K20 hK20=>rg h19 fun ops=>sS 1 4 underlying55 rfl infFunc hW18 trivial rfl rfl rfl rfl <| sTk 0 hW18 rfl rfl infFunc rfl rfl rfl <| fun w21 hKp hW21=>?_
 replace hN5:=Lay.keep1 hN5 hKp (by omega);replace hN9:=Lay.keep1 hN9 hKp (by omega);replace hN13:=Lay.keep1 hN13 hKp (by omega);clear hKp hW18;refine St.nil fun a22 h22=>hK20 _ _ ?_;refine wp_ret ?_;with_reducible repeat first | refine Qd ?_ | refine Qc ?_
 have hlow:w.heap.size≤max B3 B2+1:=by have h8:=hW21.new 0 _ rfl;simp only at h8;omega
 exact QQ 0 h22 hW21 rfl rfl rfl underlying55 rfl infFunc ⟨_,rfl,⟨⟨p5,c5,p9,c9,p13,c13⟩,rfl,⟨Lay.mono hN5 (fun k hk _=>Zt hlow hk),Lay.mono hN9 (fun k hk _=>Zt hlow hk),Lay.mono hN13 (fun k hk _=>Zt hlow hk),hbd⟩⟩,hW21.bel⟩
theorem QiR {n:Nat}(m:List (Qg n)) (p:Option Addr) (c:Nat) (w:World) (h:(Qaq n).In w All m [.slice p m.length c]) (hs0:Qc9 m) :
 Calls prog 61 #[.agg #[.slice p m.length c]] w fun e w'=>∃ v,e=.returned v∧(∃ a' c',v=.agg #[.slice a' m.length c']∧(Qaq n).In w' (Z2 w.heap.size) m [.slice a' m.length c'])∧Below w.heap.size w w':=by
 have hx:Hid _:=h;have hs:Hid _:=hs0;clear h hs0;refine QC (n:=7) func61 rfl rfl rfl <| fun a hF=>?_
 have hW:=Wd.start w;replace hF:Fr 7 a [(0,.agg #[.slice p m.length c])]:=hF;refine wp_seq_k fun K1 hK1=>rg hF fun ops=>sB hW trivial rfl rfl <| fun w2 B2 hW2 hN=>Qgi hW2 trivial rfl <| fun w3 B3 hW3 hN=>St.nil fun a4 h4=>hK1 _ _ <| wp_seq_k fun K5 hK5=>rg h4 fun ops=>Qbg trivial rfl rfl <| Qc0 1 hW3 trivial rfl rfl rfl rfl ?_
 have hlb:max B3 B2+1≤w3.heap.size:=by have h8:=(hW3.get 0 rfl).lt;have h9:=(hW3.get 1 rfl).lt;omega
 refine Qj5 cf104 hW3 (Qbv (QeP m _ _ _ (Lay.below hx.out hW3.bel) (by have:=hs.out.1;omega) (fun t ht i w h=>Qer t i w h (hs.out.2 t ht)))) trivial rfl rfl rfl ?_;rintro v9 w7 ⟨p5,c5,rfl,hN5⟩ hb9 hW7;replace hN5:=Lay.mono hN5 (O':=Z2 (max B3 B2+1)) (fun k hk _=>Zt hlb hk);clear hlb hb9 hW3;intro a8 h8;refine Q7 (t:=6) (v:=.agg #[.slice p5 m.length c5]) (w':=w7) h8 rfl rfl rfl (fun K hK=>?_) ?_
 ·have k0:a8.tmps[5]?.getD undef=.slice p5 m.length c5:=h8.sl2 5 _ rfl
  go_simp;exact hK
 clear h8;intro a9 hF9;refine St.go hF9 <| sTk 0 hW7 rfl rfl infModule rfl rfl rfl <| fun w10 hKp hW10=>?_
 replace hN5:=Lay.keep1 hN5 hKp (by omega);clear hKp hW7;refine St.nil fun a11 h11=>hK5 _ _ ?_;refine wp_ret ?_;with_reducible repeat first | refine Qd ?_ | refine Qc ?_
 have hlow:w.heap.size≤max B3 B2+1:=by have h8:=hW10.new 0 _ rfl;simp only at h8;omega
 exact QQ 0 h11 hW10 rfl rfl rfl underlying24 rfl infModule ⟨_,rfl,⟨p5,c5,rfl,Lay.mono hN5 (fun k hk _=>Zt hlow hk)⟩,hW10.bel⟩
def QeM (m:List (Qg 6)) (f b:Int):Bool:=decide (0≤f)&&(match m[f.toNat]? with | none=>false | some g=>decide (0≤b)&&decide (b<(g.blocks.length:Int)))
theorem Qhz {m:List (Qg 6)}{f b:Int}(h:QeM m f b=true):∃ (i j:Nat) (fn:Qg 6) (g:Qh 6),f=(i:Int)∧b=(j:Int)∧m[i]?=some fn∧fn.blocks[j]?=some g:=by
 unfold QeM at h;simp only[Bool.and_eq_true,decide_eq_true_eq] at h
 obtain⟨h1,h2⟩:=h
 obtain⟨i,rfl⟩:=Int.eq_ofNat_of_zero_le h1
 rw[Int.toNat_natCast] at h2
 cases e:m[i]? with
 | none=>rw[e] at h2;cases h2
 | some fn =>
   rw[e] at h2
   simp only[Bool.and_eq_true,decide_eq_true_eq] at h2
   obtain⟨j,rfl⟩:=Int.eq_ofNat_of_zero_le h2.1
   exact⟨i,j,fn,_,rfl,rfl,e,Zg (by omega)⟩
theorem QiT {w:World}{m:List (Qg 6)}{p:Option Addr}{c:Nat}(f b:Int) (hm8:m.length≤100000) (hm:(Qaq 6).In w All m [.slice p m.length c]) :
 Calls prog 60 #[.agg #[.slice p m.length c],.int .i64 f,.int .i64 b] w fun e w'=>e=.returned (.bool (QeM m f b))∧Below w.heap.size w w':=by
 have b1:=QN w (.cells #[.slice p m.length c] 24);have HB:=Qa b1;have x0:=Qb (Qe w #[.slice p m.length c] 24) 0 _ rfl;by_cases h0:0≤f
 rotate_left
 ·have E:Hid (QeM m f b=false):=by show _=_;unfold QeM;rw[decide_eq_false h0];rfl
  have h0':decide (f≥0)=false:=decide_eq_false h0;clear hm b1;generalize m.length=nm at x0 HB;go_enter func60,ntmps60
  go_wp2
  go_ret;exact⟨by rw[E.out];rfl,HB.out⟩
 obtain⟨i,rfl⟩:=Int.eq_ofNat_of_zero_le h0
 by_cases h1:i<m.length
 rotate_left
 ·have E:Hid (QeM m (i:Int) b=false):=by show _=_;unfold QeM;rw[Int.toNat_natCast,List.getElem?_eq_none (by omega)];simp
  have h1':¬ (i:Int)<m.length:=by omega
  clear hm b1;generalize m.length=nm at x0 HB h1 h1' hm8;go_enter func60,ntmps60
  go_wp2
  go_ret;exact⟨by rw[E.out];rfl,HB.out⟩
 have hg:m[i]?=some m[i]:=Zg h1;generalize m[i]=g at hg;obtain⟨mg,mo,a1,c1,a2,c2,a3,c3,rfl,f0,f1,f2,f3,-,-⟩:=Qb6 hm hg
 have hmgl:mg<w.heap.size:=World.block_lt_of_cell? w ⟨mg,mo+i*4,none⟩ f0;have E:Hid (QeM m (i:Int) b=(decide (0≤b)&&decide (b<(g.blocks.length:Int)))):=by show _=_;unfold QeM;rw[Int.toNat_natCast,hg];simp
 have h1':(i:Int)<m.length:=by omega
 clear hm b1 f0 f1 f2 hg;generalize m.length=nm at x0 HB h1 h1' hm8;generalize g.blocks.length=nb at f3 E;by_cases hb0:0≤b
 rotate_left
 ·have hb0':decide (b≥0)=false:=decide_eq_false hb0;rw[show (decide (0≤b)&&decide (b<(nb:Int)))=false by rw[decide_eq_false hb0];rfl] at E
  go_enter func60,ntmps60
  go_wp2
  go_ret;exact⟨by rw[E.out];rfl,HB.out⟩
 ·have hb0':decide (b≥0)=true:=decide_eq_true hb0;rw[show (decide (0≤b)&&decide (b<(nb:Int)))=decide (b<(nb:Int)) by rw[decide_eq_true hb0];rfl] at E
  by_cases hbn:b<(nb:Int)
  ·rw[decide_eq_true hbn] at E
   go_enter func60,ntmps60
   go_wp2
   go_ret;exact⟨by rw[E.out];rfl,HB.out⟩
  ·rw[decide_eq_false hbn] at E
   go_enter func60,ntmps60
   go_wp2
   go_ret;exact⟨by rw[E.out];rfl,HB.out⟩
theorem Qle {w1:World}{cs:List Value}(hl:cs.length=12) :
 Blk ((w1.alloc (.cells #[.int .i64 0,.slice none 0 0,.slice none 0 0,.int .i64 0,.int .i64 0,.int .i64 0,.slice none 0 0,.slice none 0 0,.int .i64 0,.slice none 0 0,.slice none 0 0,.slice none 0 0] 84)).setCells w1.heap.size 0 cs.toArray.toList) w1.heap.size cs.toArray 84∧Below w1.heap.size w1 ((w1.alloc (.cells #[.int .i64 0,.slice none 0 0,.slice none 0 0,.int .i64 0,.int .i64 0,.int .i64 0,.slice none 0 0,.slice none 0 0,.int .i64 0,.slice none 0 0,.slice none 0 0,.slice none 0 0] 84)).setCells w1.heap.size 0 cs.toArray.toList)∧(w1.alloc (.cells #[.int .i64 0,.slice none 0 0,.slice none 0 0,.int .i64 0,.int .i64 0,.int .i64 0,.slice none 0 0,.slice none 0 0,.int .i64 0,.slice none 0 0,.slice none 0 0,.slice none 0 0] 84)).there w1.heap.size 0 cs.toArray.size:=by
 have hB:=Qe w1 #[.int .i64 0,.slice none 0 0,.slice none 0 0,.int .i64 0,.int .i64 0,.int .i64 0,.slice none 0 0,.slice none 0 0,.int .i64 0,.slice none 0 0,.slice none 0 0,.slice none 0 0] 84;refine⟨?_,?_,?_⟩
 ·have h0:Blk (w1.alloc (.cells #[.int .i64 0,.slice none 0 0,.slice none 0 0,.int .i64 0,.int .i64 0,.int .i64 0,.slice none 0 0,.slice none 0 0,.int .i64 0,.slice none 0 0,.slice none 0 0,.slice none 0 0] 84)) w1.heap.size ([]++(#[.int .i64 0,.slice none 0 0,.slice none 0 0,.int .i64 0,.int .i64 0,.int .i64 0,.slice none 0 0,.slice none 0 0,.int .i64 0,.slice none 0 0,.slice none 0 0,.slice none 0 0]:Array Value).toList).toArray 84:=hB;exact Blk.sets cs [] (#[.int .i64 0,.slice none 0 0,.slice none 0 0,.int .i64 0,.int .i64 0,.int .i64 0,.slice none 0 0,.slice none 0 0,.int .i64 0,.slice none 0 0,.slice none 0 0,.slice none 0 0]:Array Value).toList _ (by rw[hl];rfl) h0
 ·have:=Zn.setCells (O:=fun k=>k=w1.heap.size) (O':=fun k=>k=w1.heap.size) (b:=w1.heap.size) rfl cs.toArray.toList 0 _ (Zn.refl _ (w1.alloc (.cells #[.int .i64 0,.slice none 0 0,.slice none 0 0,.int .i64 0,.int .i64 0,.int .i64 0,.slice none 0 0,.slice none 0 0,.int .i64 0,.slice none 0 0,.slice none 0 0,.slice none 0 0] 84)))
  exact(QN w1 _).trans (this.below (by simp) (fun k hk=>by omega))
 ·intro j hj;rw[List.size_toArray,hl] at hj
  rw[Nat.zero_add]
  refine⟨?_,Qp hB j⟩
  rw[Qb hB j ((#[.int .i64 0,.slice none 0 0,.slice none 0 0,.int .i64 0,.int .i64 0,.int .i64 0,.slice none 0 0,.slice none 0 0,.int .i64 0,.slice none 0 0,.slice none 0 0,.slice none 0 0]:Array Value)[j]'hj) (by simp)];rfl
theorem Qam {w w':World}{e:TypeId}{s n:Nat}{v:Value}{xs:List Value}(h:w.ownsRow 0 e s v n xs) (hb:Below w.heap.size w w'):w'.ownsRow 0 e s v n xs:=by
 obtain⟨h1,h2⟩:=h
 refine⟨h1,?_⟩
 rcases h2 with h4 | ⟨g,cap,cur,e',hg,hh,r⟩
 ·exact .inl h4
 ·exact .inr ⟨g,cap,cur,e',hg,(hb.block g (lt_of_block hh)).trans hh,r⟩
theorem QhU {w:World}{e:TypeId}{s n:Nat}{v:Value}{xs:List Value}(h:w.ownsRow 0 e s v n xs):∃ a c,v=.slice a n c:=by
 obtain⟨h1,h2⟩:=h
 rcases h2 with ⟨h4,h5⟩|⟨g,cap,cur,e',hg,hh,r⟩
 ·exact⟨none,0,by rw[h4,h5]⟩
 ·exact⟨_,_,e'⟩
def QlG (w7:World) (M9 F10 B11 nm cm n1 d1 n2 d2 n3 d3 np cp:Nat) (fr br:Int) (pm p1 p2 p3 pp:Option Addr) (ps:List (TT 6)) (QP:Nat→Prop) (t:Tmp) (v:Value) (w:World):Prop :=
 match ([(39,fun v w=>∃ hh,v=.pointer (some ⟨hh,0,none⟩)∧w7.heap.size≤hh∧Qt w hh (Qcy br)),(43,fun v w=>∃ a c ds,v=.slice a np c∧w.ownsRow 0 79 3 (.slice a np c) np ds∧(∀ g,(Value.slice a np c).ownBlock=some g→w7.heap.size≤g)∧(∀ i x,ps[i]?=some x→(Lay.tt 6).In w7 QP x ((ds.drop (i*3)).take 3))),(44,fun v w=>∃ hh a c ds,v=.agg #[.slice pm nm cm,.pointer (some ⟨hh,0,none⟩),.int .i64 fr,.slice p1 n1 d1,.slice p2 n2 d2,.slice p3 n3 d3,.slice a np c]∧w7.heap.size≤hh∧Qt w hh (Qcy br)∧w.ownsRow 0 79 3 (.slice a np c) np ds∧(∀ g,(Value.slice a np c).ownBlock=some g→w7.heap.size≤g)∧(∀ i x,ps[i]?=some x→(Lay.tt 6).In w7 QP x ((ds.drop (i*3)).take 3))),(45,fun v w=>∃ B hh a c ds,v=.pointer (some ⟨B,0,none⟩)∧w7.heap.size≤B∧w.heap[B]?=some (.cells #[.slice pm nm cm,.pointer (some ⟨hh,0,none⟩),.int .i64 fr,.slice p1 n1 d1,.slice p2 n2 d2,.slice p3 n3 d3,.slice a np c] 70 (0,0))∧w7.heap.size≤hh∧Qt w hh (Qcy br)∧w.ownsRow 0 79 3 (.slice a np c) np ds∧(∀ g,(Value.slice a np c).ownBlock=some g→w7.heap.size≤g)∧(∀ i x,ps[i]?=some x→(Lay.tt 6).In w7 QP x ((ds.drop (i*3)).take 3))),(6,fun v w=>∃ B hh a c ds,v=.pointer (some ⟨B,0,none⟩)∧w7.heap.size≤B∧w.heap[B]?=some (.cells #[.slice pm nm cm,.pointer (some ⟨hh,0,none⟩),.int .i64 fr,.slice p1 n1 d1,.slice p2 n2 d2,.slice p3 n3 d3,.slice a np c] 70 (0,0))∧w7.heap.size≤hh∧Qt w hh (Qcy br)∧w.ownsRow 0 79 3 (.slice a np c) np ds∧(∀ g,(Value.slice a np c).ownBlock=some g→w7.heap.size≤g)∧(∀ i x,ps[i]?=some x→(Lay.tt 6).In w7 QP x ((ds.drop (i*3)).take 3)))]:List (Tmp × (Value→World→Prop))).lookup t with
 | some p=>p v w
 | none=>v=(([(9,.pointer (some ⟨M9,0,none⟩)),(10,.pointer (some ⟨F10,0,none⟩)),(11,.pointer (some ⟨B11,0,none⟩)),(36,.agg #[.slice pm nm cm]),(37,.pointer (some ⟨B11,0,none⟩)),(38,.int .i64 br),(40,.agg #[.int .i64 fr,.slice p1 n1 d1,.slice p2 n2 d2,.slice p3 n3 d3]),(41,.pointer (some ⟨B11,1,none⟩)),(42,.slice pp np cp),(46,.agg #[.int .i64 0,.int .i64 0])]:List (Tmp × Value)).lookup t).getD undef
theorem jn9 {w7:World}{M9 F10 B11 nm cm n1 d1 n2 d2 n3 d3 np cp:Nat}{fr br:Int}{pm p1 p2 p3 pp:Option Addr}{ps:List (TT 6)}{QP:Nat→Prop}(m0:w7.cell? ⟨M9,0,none⟩=some (.slice pm nm cm)) (f0:w7.cell? ⟨F10,0,none⟩=some (.int .i64 fr)) (f1:w7.cell? ⟨F10,1,none⟩=some (.slice p1 n1 d1)) (f2:w7.cell? ⟨F10,2,none⟩=some (.slice p2 n2 d2)) (f3:w7.cell? ⟨F10,3,none⟩=some (.slice p3 n3 d3)) (y0:w7.cell? ⟨B11,0,none⟩=some (.int .i64 br)) (y1:w7.cell? ⟨B11,1,none⟩=some (.slice pp np cp)) (hbr:-9223372036854775808≤br∧br≤9223372036854775807) (HNP:Hid (ps.length=np)) (hnp:np≤5000) (HP:Hid ((Qm 6).In w7 QP ps [.slice pp np cp])) (HPB:Hid (∀ (i:Nat) (x:TT 6) (cs:List Value){w:World},ps[i]?=some x→(Lay.tt 6).In w QP x cs→Below w7.heap.size w7 w→(Lay.tt 6).In w7 QP x cs)){Q:Exit→Act→World→Prop}
 (a:Act) (m:Nat) (hn:a.tmps.size=m) (hn':47≤m) (h9:a.tmps.getD 9 undef=.pointer (some ⟨M9,0,none⟩)) (h10:a.tmps.getD 10 undef=.pointer (some ⟨F10,0,none⟩)) (h11:a.tmps.getD 11 undef=.pointer (some ⟨B11,0,none⟩))
 (hend:∀ ops vs w',vs 46=.agg #[.int .i64 0,.int .i64 0]→(fun v w=>∃ B hh a c ds,v=.pointer (some ⟨B,0,none⟩)∧w7.heap.size≤B∧w.heap[B]?=some (.cells #[.slice pm nm cm,.pointer (some ⟨hh,0,none⟩),.int .i64 fr,.slice p1 n1 d1,.slice p2 n2 d2,.slice p3 n3 d3,.slice a np c] 70 (0,0))∧w7.heap.size≤hh∧Qt w hh (Qcy br)∧w.ownsRow 0 79 3 (.slice a np c) np ds∧(∀ g,(Value.slice a np c).ownBlock=some g→w7.heap.size≤g)∧(∀ i x,ps[i]?=some x→(Lay.tt 6).In w7 QP x ((ds.drop (i*3)).take 3))) (vs 6) w'→Below w7.heap.size w7 w'→wpList prog ops Q (QcP 12 ((Tryz.f20.body.bind (Qj 9)).getD .skip)) (Q5 a vs [36,37,38,39,40,41,42,43,44,45,46,6]) w') :
 Code.wp prog ((Tryz.f20.body.bind (Qj 9)).getD .skip) Q a w7:=by
 conv=>arg 2;whnf
 refine Qq 12 (QlG w7 M9 F10 B11 nm cm n1 d1 n2 d2 n3 d3 np cp fr br pm p1 p2 p3 pp ps QP) (fun w=>Below w7.heap.size w7 w) (fun w w'=>Below w.heap.size w w') (outs:=[9,10,11]) (gs:=[]) (bs:=[true,true,true,true,true,true,true,true,true,true,true,true]) (by kernel_rfl) (n:=47) hn hn' (by kernel_rfl) (by kernel_rfl) ?hR ?hG (Qf Zr 1) ⟨h9,h10,h11,trivial⟩ ?hA ?hend
 case hR =>
  intro t v w w' hr h;unfold QlG at h ⊢;split at h
  ·rename_i p hp
   simp only[List.lookup_cons,List.lookup_nil] at hp
   split at hp
   ·cases hp;exact(by obtain⟨hh,e,h1,h2⟩:=h;exact⟨hh,e,h1,h2.below hr⟩)
   ·split at hp
    ·cases hp;exact(by obtain⟨a,c,ds,e,h1,h2,h3⟩:=h;exact⟨a,c,ds,e,Qam h1 hr,h2,h3⟩)
    ·split at hp
     ·cases hp;exact(by obtain⟨hh,a,c,ds,e,h1,h2,h3,h4,h5⟩:=h;exact⟨hh,a,c,ds,e,h1,h2.below hr,Qam h3 hr,h4,h5⟩)
     ·split at hp
      ·cases hp;exact(by obtain⟨B,hh,a,c,ds,e,g1,g2,h1,h2,h3,h4,h5⟩:=h;exact⟨B,hh,a,c,ds,e,g1,(hr.block B (lt_of_block g2)).trans g2,h1,h2.below hr,Qam h3 hr,h4,h5⟩)
      ·split at hp
       ·cases hp;exact(by obtain⟨B,hh,a,c,ds,e,g1,g2,h1,h2,h3,h4,h5⟩:=h;exact⟨B,hh,a,c,ds,e,g1,(hr.block B (lt_of_block g2)).trans g2,h1,h2.below hr,Qam h3 hr,h4,h5⟩)
       ·cases hp
  ·exact h
 case hG=>exact trivial
 case hend=>exact fun ops vs w' hW hk=>hend ops vs w' (hk 46 (by kernel_rfl)) (hk 6 (by kernel_rfl)) hW
 case hA =>
  iterate 3
   refine⟨fun a w hW hk K hK=>?_,?_⟩
   ·obtain⟨k0,-⟩:=hk
    conv at k0=>whnf;rhs;whnf
    have u0:=Qi m0 hW;have u1:=Qi y0 hW;go_simp;exact hK _ _ Zr hW rfl
  refine⟨fun a w hW hk K hK=>?_,?_⟩
  ·obtain⟨k0,-⟩:=hk
   conv at k0=>whnf;rhs;whnf
   go_simp;refine Calls.mono (QiG _ br hbr) ?_;rintro r7 w8 ⟨rfl,hh8,b8⟩;go_simp;exact hK _ _ b8 (hW.trans (b8.mono hW.size)) ⟨_,rfl,hW.size,hh8⟩
  iterate 3
   refine⟨fun a w hW hk K hK=>?_,?_⟩
   ·obtain⟨k0,-⟩:=hk
    conv at k0=>whnf;rhs;whnf
    have u0:=Qi f0 hW;have u1:=Qi f1 hW;have u2:=Qi f2 hW;have u3:=Qi f3 hW;have u4:=Qi y1 hW;go_simp;exact hK _ _ Zr hW rfl
  refine⟨fun a w hW hk K hK=>?_,?_⟩
  ·obtain⟨k0,-⟩:=hk
   conv at k0=>whnf;rhs;whnf
   go_simp;refine Calls.mono (Qdw HNP.out hnp (Lay.below HP.out hW)) ?_;rintro r7 w8 ⟨v8,ds8,rfl,o1,o2,o3,b8⟩;rw[HNP.out] at o1
   obtain⟨a8,c8,rfl⟩:=QhU o1
   go_simp;exact hK _ _ b8 (hW.trans (b8.mono hW.size)) ⟨a8,c8,ds8,rfl,o1,fun g hg=>Zt hW.size (o2 g hg),fun i x hx=>HPB.out i x _ hx (o3 i x hx) hW⟩
  refine⟨fun a w hW hk K hK=>?_,?_⟩
  ·obtain⟨k0,k1,k2,k3,-⟩:=hk
   conv at k0=>whnf;rhs;whnf
   have k1:(fun v w=>∃ hh,v=.pointer (some ⟨hh,0,none⟩)∧w7.heap.size≤hh∧Qt w hh (Qcy br)) (a.tmps.getD 39 undef) w:=k1;generalize k1e:a.tmps.getD 39 undef=uk1 at k1;conv at k2=>whnf;rhs;whnf
   have k3:(fun v w=>∃ a c ds,v=.slice a np c∧w.ownsRow 0 79 3 (.slice a np c) np ds∧(∀ g,(Value.slice a np c).ownBlock=some g→w7.heap.size≤g)∧(∀ i x,ps[i]?=some x→(Lay.tt 6).In w7 QP x ((ds.drop (i*3)).take 3))) (a.tmps.getD 43 undef) w:=k3;generalize k3e:a.tmps.getD 43 undef=uk3 at k3;obtain⟨hh,rfl,g1,g2⟩:=k1
   obtain⟨a3,c3,ds3,rfl,h1,h2,h3⟩:=k3
   have j0:a.tmps[36]?.getD undef=.agg #[.slice pm nm cm]:=by simpa using k0
   have j1:a.tmps[39]?.getD undef=.pointer (some ⟨hh,0,none⟩):=by simpa using k1e
   have j2:a.tmps[40]?.getD undef=.agg #[.int .i64 fr,.slice p1 n1 d1,.slice p2 n2 d2,.slice p3 n3 d3]:=by simpa using k2
   have j3:a.tmps[43]?.getD undef=.slice a3 np c3:=by simpa using k3e
   go_simp;exact hK _ _ Zr hW ⟨hh,a3,c3,ds3,rfl,g1,g2,h1,h2,h3⟩
  refine⟨fun a w hW hk K hK=>?_,?_⟩
  ·obtain⟨k0,-⟩:=hk
   have k0:(fun v w=>∃ hh a c ds,v=.agg #[.slice pm nm cm,.pointer (some ⟨hh,0,none⟩),.int .i64 fr,.slice p1 n1 d1,.slice p2 n2 d2,.slice p3 n3 d3,.slice a np c]∧w7.heap.size≤hh∧Qt w hh (Qcy br)∧w.ownsRow 0 79 3 (.slice a np c) np ds∧(∀ g,(Value.slice a np c).ownBlock=some g→w7.heap.size≤g)∧(∀ i x,ps[i]?=some x→(Lay.tt 6).In w7 QP x ((ds.drop (i*3)).take 3))) (a.tmps.getD 44 undef) w:=k0;generalize k0e:a.tmps.getD 44 undef=uk0 at k0;obtain⟨hh,a3,c3,ds3,rfl,g1,g2,h1,h2,h3⟩:=k0
   go_simp;have b8:=QN w (.cells #[.slice pm nm cm,.pointer (some ⟨hh,0,none⟩),.int .i64 fr,.slice p1 n1 d1,.slice p2 n2 d2,.slice p3 n3 d3,.slice a3 np c3] 70);exact hK _ _ b8 (hW.trans (b8.mono hW.size)) ⟨w.heap.size,hh,a3,c3,ds3,rfl,hW.size,Qe _ _ _,g1,g2.below b8,Qam h1 b8,h2,h3⟩
  refine⟨fun a w hW hk K hK=>?_,?_⟩
  ·clear hk;go_simp;exact hK _ _ Zr hW rfl
  refine⟨fun a w hW hk K hK=>?_,?_⟩
  ·obtain⟨k0,-⟩:=hk
   have k0:(fun v w=>∃ B hh a c ds,v=.pointer (some ⟨B,0,none⟩)∧w7.heap.size≤B∧w.heap[B]?=some (.cells #[.slice pm nm cm,.pointer (some ⟨hh,0,none⟩),.int .i64 fr,.slice p1 n1 d1,.slice p2 n2 d2,.slice p3 n3 d3,.slice a np c] 70 (0,0))∧w7.heap.size≤hh∧Qt w hh (Qcy br)∧w.ownsRow 0 79 3 (.slice a np c) np ds∧(∀ g,(Value.slice a np c).ownBlock=some g→w7.heap.size≤g)∧(∀ i x,ps[i]?=some x→(Lay.tt 6).In w7 QP x ((ds.drop (i*3)).take 3))) (a.tmps.getD 45 undef) w:=k0;generalize k0e:a.tmps.getD 45 undef=uk0 at k0;obtain⟨B,hh,a3,c3,ds3,rfl,g1,g2,h0,h1,h2,h3,h4⟩:=k0
   go_simp;exact hK _ _ Zr hW ⟨B,hh,a3,c3,ds3,rfl,g1,g2,h0,h1,h2,h3,h4⟩
  trivial
def QkH (w:World) (m:List (Qg 6)) (f b:Int) (e:Ending) (w':World):Prop :=
 Below w.heap.size w w'∧(((modFault m).1≠0∧e=.returned (.tuple #[.pointer none,QX (modFault m)])) ∨
  ((modFault m).1=0∧QeM m f b=false∧e=.returned (.tuple #[.pointer none,.agg #[.int .i64 1,.int .i64 (-1)]])) ∨
  ((modFault m).1=0∧QeM m f b=true∧∃ (i j:Nat) (fn:Qg 6) (g:Qh 6) (B:Nat) (O A:Nat→Prop),f=(i:Int)∧b=(j:Int)∧m[i]?=some fn∧fn.blocks[j]?=some g∧e=.returned (.tuple #[.pointer (some ⟨B,0,none⟩),.agg #[.int .i64 0,.int .i64 0]])∧SAt w' B O A (JSt.start m fn g)∧∀ k,A k→w.heap.size≤k∧k<w'.heap.size))
theorem Qd0 {w:World}{m:List (Qg 6)}{p:Option Addr}{c:Nat}(f b:Int) (hng:¬ QW m) (hm:(Qaq 6).In w All m [.slice p m.length c]) :
 Calls prog 20 #[.agg #[.slice p m.length c],.int .i64 f,.int .i64 b] w fun e w'=>QkH w m f b e w':=by
 have hms:Qc9 m:=Qbb hng;have HMS:=Qa hms;have b1:=QN w (.cells #[.slice p m.length c] 24);have b2:=QN (w.alloc (.cells #[.slice p m.length c] 24)) (.cells #[.int .i64 0,.int .i64 0] 30);have bb:=b1.trans (b2.mono b1.size);have HB:=Qa bb;have hX:Blk ((w.alloc (.cells #[.slice p m.length c] 24)).alloc (.cells #[.int .i64 0,.int .i64 0] 30)) w.heap.size #[.slice p m.length c] 24:=(Blk.new _ _ _:Blk (w.alloc (.cells #[.slice p m.length c] 24)) w.heap.size _ _).below b2
 have hR:Blk ((w.alloc (.cells #[.slice p m.length c] 24)).alloc (.cells #[.int .i64 0,.int .i64 0] 30)) (w.heap.size+1) #[.int .i64 0,.int .i64 0] 30:=by
  have:=Blk.new (w.alloc (.cells #[.slice p m.length c] 24)) #[.int .i64 0,.int .i64 0] 30
  simpa using this
 have HX:=Qa hX;have HR:=Qa hR;have HM:=Qa hm;have HM1:Hid ((Qaq 6).In _ All m [.slice p m.length c]):=Lay.below hm bb;have hm8:m.length≤100000:=hms.1;clear hX hR b1 b2 bb hm hms hng;go_enter func20,ntmps20
 go_upto_region 1 with fail
 generalize (w.alloc (.cells #[.slice p m.length c] 24)).alloc (.cells #[.int .i64 0,.int .i64 0] 30)=w1 at HB HX HR HM1 ⊢;obtain⟨X,hX⟩:∃ X,X=w.heap.size:=⟨_,rfl⟩
 obtain⟨R,hR⟩:∃ R,R=X+1:=⟨_,rfl⟩
 rw[← hX] at HX HR ⊢
 rw[← hR] at HR ⊢
 have HXE:=Qa hX;have HRE:Hid (w.heap.size≤R):=by show _≤_;omega
 have HXR:¬ X=R:=by omega
 clear hX hR;have x0:=Qb HX.out 0 _ rfl;have CC:=Qa (Qdv HM1.out HMS.out);unfold Rd at CC;go_wp2_with fail
 refine CC.out.mono ?_;rintro e2 w2 ⟨rfl,b2⟩;have HB2:=Qa (HB.out.trans (b2.mono HB.out.size));have HX2:=Qa (HX.out.below b2);have HR2:=Qa (HR.out.below b2);clear b2 CC x0 HX HR HB HM1;have b3:=QN w2 (.cells #[.int .i64 (modFault m).1,.int .i64 (modFault m).2] 30);have HB3:=Qa (HB2.out.trans (b3.mono HB2.out.size));have HX3:=Qa (HX2.out.below b3);have HR3:=Qa (HR2.out.below b3);have hF3:=Blk.new w2 #[.int .i64 (modFault m).1,.int .i64 (modFault m).2] 30;have HF3:=Qa hF3;have hRF:¬ w2.heap.size=R:=by have:=HR2.out.lt;omega
 clear b3 hF3 HB2 HX2 HR2;go_upto_region 2 with fail
 generalize w2.alloc (.cells #[.int .i64 (modFault m).1,.int .i64 (modFault m).2] 30)=w3 at HB3 HX3 HR3 HF3 ⊢;generalize w2.heap.size=F8 at HF3 hRF ⊢;obtain⟨c0,a0,hcf⟩:∃ c0 a0,modFault m=(c0,a0):=⟨_,_,rfl⟩
 rw[hcf] at HF3 ⊢
 have HCF:=Qa hcf;clear hcf;simp only at HF3 ⊢
 have y0:=Qb HF3.out 0 _ rfl;have y1:=Qb HF3.out 1 _ rfl;by_cases hc0:c0=0
 rotate_left
 ·have hc0':(c0 != 0)=true:=by simpa using hc0
  have r0:=Qb HR3.out 0 _ rfl;have r1:=Qb HR3.out 1 _ rfl;have z0:=Qp HR3.out 0;have z1:=Qp HR3.out 1;have HC0:=Qa hc0;clear hc0;go_upto_region 3 with fail
  go_region
  all_goals
   have D2:Blk ((w3.setCell ⟨R,0,none⟩ (.int .i64 c0)).setCell ⟨R,1,none⟩ (.int .i64 a0)).drew R #[.int .i64 c0,.int .i64 a0] 30:=by
    have h9:Blk ((w3.setCell ⟨R,0,none⟩ (.int .i64 c0)).setCell ⟨R,1,none⟩ (.int .i64 a0)) R #[.int .i64 c0,.int .i64 a0] 30:=by
     have:=Qo (Qo HR3.out 0 (.int .i64 c0)) 1 (.int .i64 a0)
     simpa using this
    exact h9
   have D3:Below w.heap.size w ((w3.setCell ⟨R,0,none⟩ (.int .i64 c0)).setCell ⟨R,1,none⟩ (.int .i64 a0)).drew:=Qbu ((HB3.out.setCell (p:=⟨R,0,none⟩) HRE.out _).setCell (p:=⟨R,1,none⟩) HRE.out _);clear y0 y1 r0 r1 z0 z1;generalize ((w3.setCell ⟨R,0,none⟩ (.int .i64 c0)).setCell ⟨R,1,none⟩ (.int .i64 a0)).drew=w9 at D2 D3 ⊢;have q0:=Qb D2 0 _ rfl;have q1:=Qb D2 1 _ rfl;go_wp2
   exact bodyPost_ret (v:=.tuple #[.pointer none,.agg #[.int .i64 c0,.int .i64 a0]]) (by simp[results,results20,go_sem,q0,q1]) rfl ⟨D3,.inl ⟨by rw[HCF.out];exact HC0.out,by rw[HCF.out]⟩⟩
 subst hc0;have x3:=Qb HX3.out 0 _ rfl;have CH:=Qa (QiT f b hm8 (Lay.below HM.out HB3.out));have HZ:Hid ((modFault m).1=0):=by show _=_;rw[HCF.out]
 clear y1;go_wp2_with fail
 refine CH.out.mono ?_;rintro e4 w4 ⟨rfl,b4⟩;have HB4:=Qa (HB3.out.trans (b4.mono HB3.out.size));have HX4:=Qa (HX3.out.below b4);have HR4:=Qa (HR3.out.below b4);clear b4 CH x3 y0 HX3 HR3 HB3 HF3
 cases hhb:QeM m f b with
 | false =>
   have r0:=Qb HR4.out 0 _ rfl;have r1:=Qb HR4.out 1 _ rfl;have z0:=Qp HR4.out 0;have z1:=Qp HR4.out 1;have HHB:=Qa hhb;clear hhb;go_wp2_with fail
   have D2:Blk ((w4.setCell ⟨R,0,none⟩ (.int .i64 1)).setCell ⟨R,1,none⟩ (.int .i64 (-1))) R #[.int .i64 1,.int .i64 (-1)] 30:=by
    have:=Qo (Qo HR4.out 0 (.int .i64 1)) 1 (.int .i64 (-1))
    simpa using this
   have D3:Below w.heap.size w ((w4.setCell ⟨R,0,none⟩ (.int .i64 1)).setCell ⟨R,1,none⟩ (.int .i64 (-1))):=(HB4.out.setCell (p:=⟨R,0,none⟩) HRE.out _).setCell (p:=⟨R,1,none⟩) HRE.out _;clear r0 r1 z0 z1;generalize (w4.setCell ⟨R,0,none⟩ (.int .i64 1)).setCell ⟨R,1,none⟩ (.int .i64 (-1))=w9 at D2 D3 ⊢;have q0:=Qb D2 0 _ rfl;have q1:=Qb D2 1 _ rfl;exact bodyPost_ret (v:=.tuple #[.pointer none,.agg #[.int .i64 1,.int .i64 (-1)]]) (by simp[results,results20,go_sem,q0,q1]) rfl ⟨D3,.inr (.inl ⟨HZ.out,HHB.out,rfl⟩)⟩
 | true =>
   obtain⟨i,j,fn,g,rfl,rfl,hfi,hgj⟩:=Qhz hhb
   have HHB:=Qa hhb;have x4:=Qb HX4.out 0 _ rfl;have CO:=Qa (QiR m p c w4 (Lay.below HM.out HB4.out) HMS.out);have hfl:i<m.length:=(Zi hfi).1;have hfi':(i:Int)<m.length:=by omega
   have hgl:j<fn.blocks.length:=(Zi hgj).1;have hgj':(j:Int)<fn.blocks.length:=by omega
   clear hhb;go_wp2_with fail
   refine CO.out.mono ?_;rintro e5 w5 ⟨v5,rfl,⟨pm,cm,rfl,hown⟩,b5⟩;have HB5:=Qa (HB4.out.trans (b5.mono HB4.out.size));have HR5:=Qa (HR4.out.below b5);have HOW5:=Qa hown;have hR5:=HR5.out.lt;clear b5 CO x4 HX4 HR4 HB4;obtain⟨mg,mo,ds,e1,e2,e3,hcs,hfn⟩:=Lay.list_at hown hfi
   subst e1;obtain⟨p1,d1,p2,d2,p3,d3,rfl,hpa,hre,hbs,hrr⟩:=ZH hfn
   obtain⟨eg,eo,pp,cp,es,rfl,hrange,hes,hpar,hone⟩:=QaQ hbs hgj
   have v0:w5.cell? ⟨mg,mo+i*4,none⟩=some (.int .i64 fn.regs):=hcs 0 (by decide);have v1:w5.cell? ⟨mg,mo+i*4+1,none⟩=some (.slice p1 fn.params.length d1):=hcs 1 (by decide);have v2:w5.cell? ⟨mg,mo+i*4+2,none⟩=some (.slice p2 fn.results.length d2):=hcs 2 (by decide);have v3:w5.cell? ⟨mg,mo+i*4+3,none⟩=some (.slice (some ⟨eg,eo,none⟩) fn.blocks.length d3):=hcs 3 (by decide);have HFN:Hid ((Zy 6).In w5 (Z2 w4.heap.size) fn [.int .i64 fn.regs,.slice p1 fn.params.length d1,.slice p2 fn.results.length d2,.slice (some ⟨eg,eo,none⟩) fn.blocks.length d3]):=hfn;have HPR:Hid ((Qm 6).In w5 (Z2 w4.heap.size) g.params [.slice pp g.params.length cp]):=hpar;have HRG:=Qa hrange;have HONE:=Qa hone;have hl12:(Value.int .i64 g.regs::Value.slice pp g.params.length cp::es).length=12:=by simp[hes]
   have hmr:=Qeo HZ.out;have hfr:=hmr.2 fn (Zm hfi);have hgr:=hfr.blocks g (Zm hgj);have HGR:=Qa (And.intro hfr hgr);have HIJ:=Qa (And.intro hfi hgj);have hmgl:mg<w5.heap.size:=World.block_lt_of_cell? w5 ⟨mg,mo+i*4,none⟩ v0;clear hcs hfn hbs hrange hpar hone hown hpa hre hrr e2 e3 hes hmr hfr hgr hfi hgj;have b6:=QN w5 (.cells #[.slice (some ⟨mg,mo,none⟩) m.length cm] 24);have b7:=QN (w5.alloc (.cells #[.slice (some ⟨mg,mo,none⟩) m.length cm] 24)) (.cells #[.int .i64 fn.regs,.slice p1 fn.params.length d1,.slice p2 fn.results.length d2,.slice (some ⟨eg,eo,none⟩) fn.blocks.length d3] 55);have b67:=b6.trans (b7.mono b6.size);have HB6:=Qa b67;have hM6:Blk ((w5.alloc (.cells #[.slice (some ⟨mg,mo,none⟩) m.length cm] 24)).alloc (.cells #[.int .i64 fn.regs,.slice p1 fn.params.length d1,.slice p2 fn.results.length d2,.slice (some ⟨eg,eo,none⟩) fn.blocks.length d3] 55)) w5.heap.size #[.slice (some ⟨mg,mo,none⟩) m.length cm] 24:=(Blk.new _ _ _:Blk (w5.alloc (.cells #[.slice (some ⟨mg,mo,none⟩) m.length cm] 24)) w5.heap.size _ _).below b7
   have hF6:Blk ((w5.alloc (.cells #[.slice (some ⟨mg,mo,none⟩) m.length cm] 24)).alloc (.cells #[.int .i64 fn.regs,.slice p1 fn.params.length d1,.slice p2 fn.results.length d2,.slice (some ⟨eg,eo,none⟩) fn.blocks.length d3] 55)) (w5.heap.size+1) #[.int .i64 fn.regs,.slice p1 fn.params.length d1,.slice p2 fn.results.length d2,.slice (some ⟨eg,eo,none⟩) fn.blocks.length d3] 55:=by
    have:=Blk.new (w5.alloc (.cells #[.slice (some ⟨mg,mo,none⟩) m.length cm] 24)) #[.int .i64 fn.regs,.slice p1 fn.params.length d1,.slice p2 fn.results.length d2,.slice (some ⟨eg,eo,none⟩) fn.blocks.length d3] 55
    simpa using this
   have HM6:=Qa hM6;have HF6:=Qa hF6;clear b6 b7 b67 hM6 hF6;generalize hnm:m.length=nm at HM6 HF6 HB6 hfi' HOW5;have HNM:=Qa hnm;generalize hnb:fn.blocks.length=nb at v3 HF6 HB6 HM6 hgj';have HNB:=Qa hnb;go_upto_region 8 with fail
   generalize (w5.alloc (.cells #[.slice (some ⟨mg,mo,none⟩) nm cm] 24)).alloc (.cells #[.int .i64 fn.regs,.slice p1 fn.params.length d1,.slice p2 fn.results.length d2,.slice (some ⟨eg,eo,none⟩) nb d3] 55)=w6 at HB6 HM6 HF6 ⊢;obtain⟨M9,hM9⟩:∃ M9,M9=w5.heap.size:=⟨_,rfl⟩
   obtain⟨F10,hF10⟩:∃ F10,F10=M9+1:=⟨_,rfl⟩
   rw[← hM9] at HM6 HF6 ⊢
   rw[← hF10] at HF6 ⊢
   clear hM9 hF10 v0 v1 v2 v3 hmgl;have f0:=Qb HF6.out 0 _ rfl;have f1:=Qb HF6.out 1 _ rfl;have f2:=Qb HF6.out 2 _ rfl;have f3:=Qb HF6.out 3 _ rfl;have m0:=Qb HM6.out 0 _ rfl;have HRG6:=Qa (Q9 HRG.out HB6.out);generalize hds:(Value.int .i64 g.regs::Value.slice pp g.params.length cp::es)=cs at HRG6 hl12;have HDS:=Qa hds;obtain⟨d1',d2',d3'⟩:=Qle (w1:=w6) hl12
   have HK7:=Qa d1';have HB7:=Qa d2';have TH:=Qa d3';have TS:Hid ((prog.info? 84).map (·.size)=some cs.length):=by show _=_;rw[hl12];exact sizeBk
   have TS2:Hid ((prog.info? 84).map (·.size)=some cs.toArray.size):=by show _=_;rw[List.size_toArray];exact TS.out
   have TO:Hid (cs.toArray.all (·.oneCell')=true):=by
    refine all_oneCell_toArray fun v hv=>?_;rw[← hds] at hv
    simp only[List.mem_cons] at hv
    rcases hv with rfl | rfl | hv
    ·rfl
    ·rfl
    ·exact HONE.out v hv
   clear d1' d2' d3' hds hl12;go_upto_region 9 with (first | (refine wpList_load_mid rfl 84 (.tmp 34) rfl eg (eo+j*12) rfl cs _ HRG6.out underlying84 rfl TS.out ?_) | (refine wpList_store_mid rfl 84 (.tmp 11) (.tmp 35) rfl w6.heap.size 0 cs.toArray rfl rfl TH.out TS2.out TO.out ?_))
   clear TH TS TS2 TO HRG6;generalize (w6.alloc (.cells #[.int .i64 0,.slice none 0 0,.slice none 0 0,.int .i64 0,.int .i64 0,.int .i64 0,.slice none 0 0,.slice none 0 0,.int .i64 0,.slice none 0 0,.slice none 0 0,.slice none 0 0] 84)).setCells w6.heap.size 0 cs.toArray.toList=w7 at HK7 HB7 ⊢;generalize w6.heap.size=B11 at HK7 ⊢;have HK7':Hid (Blk w7 B11 (Value.int .i64 g.regs::Value.slice pp g.params.length cp::es).toArray 84):=by rw[HDS.out];exact HK7.out
   have y0:=Qb HK7'.out 0 _ rfl;have y1:=Qb HK7'.out 1 _ rfl;have f0:=Qi f0 HB7.out;have f1:=Qi f1 HB7.out;have f2:=Qi f2 HB7.out;have f3:=Qi f3 HB7.out;have m0:=Qi m0 HB7.out;have B57:=Qa (HB6.out.trans (HB7.out.mono HB6.out.size));have BW7:=Qa (HB5.out.trans (B57.out.mono HB5.out.size));have HR7:=Qa (HR5.out.below B57.out);have HPQ:Hid ((Qm 6).In w7 (fun k=>k<w7.heap.size) g.params [.slice pp g.params.length cp]):=Lay.mono (Lay.below HPR.out B57.out) (fun k _ hl=>hl);have HPB:Hid (∀ (i:Nat) (x:TT 6) (cs:List Value) {w:World},g.params[i]?=some x→(Lay.tt 6).In w (fun k=>k<w7.heap.size) x cs→Below w7.heap.size w7 w→(Lay.tt 6).In w7 (fun k=>k<w7.heap.size) x cs):=fun i x cs w _ h hb=>(Lay.tt 6).keep (fun k hk _=>(hb.block k hk).symm) (fun _ h _=>h) h;have hbr:-9223372036854775808≤g.regs∧g.regs≤9223372036854775807:=by have h1:=HGR.out.2.regs;have h2:=HGR.out.1.regs;omega
   have hnp:g.params.length≤5000:=by have:=HGR.out.2.params.1;omega
   clear HK7 HK7' HDS HB6 HB7 HM6 HF6 HONE;refine jn9 m0 f0 f1 f2 f3 y0 y1 hbr (show Hid (g.params.length=g.params.length) from rfl) hnp HPQ HPB _ _ rfl (Nat.le_of_ble_eq_true (by kernel_rfl)) rfl rfl rfl ?_;rintro ops vs w8 hv46 ⟨B,hh,aa,ca,ds,hv6,hB1,hB2,hh1,hh2,ow1,ow2,ow3⟩ b8;show wpList _ ops _ [_] (Q5 _ vs [36,37,38,39,40,41,42,43,44,45,46,6]) w8;simp only[Q5,Act.put,List.setIfInBounds_toArray,List.set_cons_zero,List.set_cons_succ,hv46,hv6]
   have HR8:=Qa (HR7.out.below b8);have BW8:=Qa (BW7.out.trans (b8.mono BW7.out.size));have hRl:=HR7.out.lt;have Z:Hid (∀ w9,Below w7.heap.size w8 w9∨(∀ k,k≠R→w9.heap[k]?=w8.heap[k]?)→True):=fun _ _=>trivial
   have ST:Hid (SAt w8 B (fun k=>w7.heap.size≤k∧k<w8.heap.size) (fun k=>w7.heap.size≤k∧k<w8.heap.size) (JSt.start m fn g)):=by
    have B58:=B57.out.trans (b8.mono B57.out.size);have hs5:=B57.out.size;have hs8:=b8.size;refine⟨some ⟨mg,mo,none⟩,cm,hh,p1,d1,p2,d2,some ⟨eg,eo,none⟩,d3,.slice aa g.params.length ca,?_,?_,?_,⟨hh2,hh1,hh2.lt⟩,?_,⟨hB1,lt_of_block hB2⟩,fun k hk=>hk⟩
    ·rw[hB2]
     show _=some (Obj.cells #[.slice (some ⟨mg,mo,none⟩) m.length cm,_,_,_,_,.slice (some ⟨eg,eo,none⟩) fn.blocks.length d3,_] _ _);rw[HNM.out,HNB.out];rfl
    ·show (Qaq 6).In w8 _ m [.slice (some ⟨mg,mo,none⟩) m.length cm];have h0:=HOW5.out;rw[← HNM.out] at h0
     exact(Qaq 6).keep (fun k _ hl=>B58.block k hl) (fun k _ hl e=>by omega) h0
    ·exact(Zy 6).keep (fun k _ hl=>B58.block k hl) (fun k _ hl e=>by omega) HFN.out
    ·refine⟨ds,ow1,fun k hk=>⟨ow2 k hk,?_⟩,fun i x hx=>(Lay.tt 6).keep (fun k hk _=>b8.block k hk) (fun k hk _ e=>by omega) (ow3 i x hx)⟩
     obtain⟨-,q⟩:=id ow1
     rcases q with ⟨e,-⟩|⟨g',cap',cur,e,-,hq,-⟩
     ·rw[e] at hk;simp[Value.ownBlock] at hk
     ·rw[e] at hk;simp[Value.ownBlock] at hk;subst hk;exact lt_of_block hq
   have r0:=Qb HR8.out 0 _ rfl;have r1:=Qb HR8.out 1 _ rfl;have z0:=Qp HR8.out 0;have z1:=Qp HR8.out 1;clear hv46 hv6 hB1 hB2 hh1 hh2 ow1 ow2 ow3 b8 f0 f1 f2 f3 y0 y1 m0 Z;go_wp2_with fail
   have D2:Blk ((w8.setCell ⟨R,0,none⟩ (.int .i64 0)).setCell ⟨R,1,none⟩ (.int .i64 0)) R #[.int .i64 0,.int .i64 0] 30:=by
    have:=Qo (Qo HR8.out 0 (.int .i64 0)) 1 (.int .i64 0)
    simpa using this
   have D3:Below w.heap.size w ((w8.setCell ⟨R,0,none⟩ (.int .i64 0)).setCell ⟨R,1,none⟩ (.int .i64 0)):=(BW8.out.setCell (p:=⟨R,0,none⟩) HRE.out _).setCell (p:=⟨R,1,none⟩) HRE.out _
   have D4:SAt ((w8.setCell ⟨R,0,none⟩ (.int .i64 0)).setCell ⟨R,1,none⟩ (.int .i64 0)) B (fun k=>w7.heap.size≤k∧k<w8.heap.size) (fun k=>w7.heap.size≤k∧k<w8.heap.size) (JSt.start m fn g):=by
    have same:∀ k,((w8.setCell ⟨R,0,none⟩ (.int .i64 0)).setCell ⟨R,1,none⟩ (.int .i64 0)).heap[k]?=w8.heap[k]?:=fun k=>by
     by_cases hk:k=R
     ·subst hk;exact D2.trans HR8.out.symm
     ·rw[Below.heap_setCell _ _ _ _ hk,Below.heap_setCell _ _ _ _ hk]
    exact ST.out.keep (fun k _ _=>same k) (fun _ h _=>h) (fun _ h _=>h) (fun _ h=>h)
   have D5:∀ k,(w7.heap.size≤k∧k<w8.heap.size)→w.heap.size≤k∧k<((w8.setCell ⟨R,0,none⟩ (.int .i64 0)).setCell ⟨R,1,none⟩ (.int .i64 0)).heap.size:=fun k hk=>by
    have:=BW7.out.size
    simp
    omega
   clear r0 r1 z0 z1;generalize (w8.setCell ⟨R,0,none⟩ (.int .i64 0)).setCell ⟨R,1,none⟩ (.int .i64 0)=w9 at D2 D3 D4 D5 ⊢;have q0:=Qb D2 0 _ rfl;have q1:=Qb D2 1 _ rfl;exact bodyPost_ret (v:=.tuple #[.pointer (some ⟨B,0,none⟩),.agg #[.int .i64 0,.int .i64 0]]) (by simp[results,results20,go_sem,q0,q1]) rfl ⟨D3,.inr (.inr ⟨HZ.out,HHB.out,i,j,fn,g,B,_,_,rfl,rfl,HIJ.out.1,HIJ.out.2,rfl,D4,D5⟩)⟩
def SOk (w:World) (b B0:Nat) (s:JSt):Prop:=∃ O A,SAt w b O A s∧(∀ k,A k→B0≤k∧k<w.heap.size)∧JOk s
section
variable {w w':World}{b B0:Nat}{s:JSt}
theorem SOk.below (h:SOk w b B0 s) (k:Below w.heap.size w w'):SOk w' b B0 s:=by
 obtain⟨O,A,h1,h2,h3⟩:=h
 exact⟨O,A,h1.below k,fun k' hk=>⟨(h2 k' hk).1,Zl (h2 k' hk).2 k.size⟩,h3⟩
theorem SOk.ok (h:SOk w b B0 s):JOk s:=by obtain⟨O,A,h1,h2,h3⟩:=h;exact h3
theorem SOk.lt (h:SOk w b B0 s):b<w.heap.size:=by obtain⟨O,A,h1,h2,h3⟩:=h;exact h1.lt
theorem STo.ok {O A:Nat→Prop}{s':JSt}(h:STo w w' b O A s') (hA:∀ k,A k→B0≤k∧k<w.heap.size) (hO:∀ k,O k→A k) (hB:B0≤w.heap.size) (hJ:JOk s'):SOk w' b B0 s'∧Below B0 w w':=by
 obtain⟨N,h1,h2,h3⟩:=h
 have e:=h3.size;refine⟨⟨_,_,h2,fun k hk=>?_,hJ⟩,⟨h3.os,h3.tape,h3.output,h3.size,fun k hk=>h3.block k (by omega) (fun e=>by have:=hA k (hO k e);omega)⟩⟩
 rcases hk with hk | hk
 ·have:=hA k hk;omega
 ·have:=h1 k hk;omega
theorem SOk.ins (h:SOk w b B0 s) (hB:B0≤w.heap.size){Q:Nat→Prop}{x:Qy}{rg ag:Option Addr}{rc ac:Nat}(hregs:intsL.In w Q x.regs [.slice rg x.regs.length rc]) (hargs:intsL.In w Q x.args [.slice ag x.args.length ac]) (hrc:x.regs.length≤rc) (hrng:Zx x) :
 Calls prog 23 #[.pointer (some ⟨b,0,none⟩),QaR x rg ag rc ac] w fun e w'=>e=.returned (.int .i64 (s.code x))∧SOk w' b B0 (s.ins x)∧Below B0 w w':=by
 obtain⟨O,A,h1,h2,h3⟩:=h
 refine(QdG (fun k hk=>(h2 k hk).2) h3 h1 hregs hargs hrc hrng).mono ?_
 rintro e w' ⟨rfl,hS⟩;exact⟨rfl,hS.ok h2 h1.sub hB (h3.ins x)⟩
theorem SOk.end_ (h:SOk w b B0 s){Q:Nat→Prop}{x:MEnd}{e:EP}(hx:Qa2 w Q x e) (hra:-9223372036854775808≤x.a∧x.a≤9223372036854775807) (hs:x.yes.regs.length<2305843009213693952∧x.yes.args.length<2305843009213693952∧x.no.regs.length<2305843009213693952∧x.no.args.length<2305843009213693952) :
 Calls prog 31 #[.pointer (some ⟨b,0,none⟩),.agg (ZT x e)] w fun r w'=>r=.returned (.int .i64 (s.fin x))∧Below w.heap.size w w':=by
 obtain⟨O,A,h1,h2,h3⟩:=h
 exact Qi1 (fun k hk=>(h2 k hk).2) h3 h1 hx hra hs
theorem SOk.types (h:SOk w b B0 s):Calls prog 26 #[.pointer (some ⟨b,0,none⟩)] w fun e w'=>QbM w w' s.L e:=by
 obtain⟨O,A,h1,h2,h3⟩:=h
 exact QgH h3.vals (fun x hx=>Zt (QZ (h3.types x hx)) (by omega)) h1
theorem SOk.held (h:SOk w b B0 s):∃ hh,w.cell? ⟨b,1,none⟩=some (.pointer (some ⟨hh,0,none⟩))∧Qt w hh s.H:=by
 obtain⟨O,A,h1,h2,h3⟩:=h
 obtain⟨pm,cm,hh,a1,c1,a2,c2,a3,c3,aL,cL,R⟩:=h1.read
 exact⟨hh,R.cells.2.1,R.held⟩
end
def Qhk (w:World) (b B0 T T2:Nat) (s:JSt):Prop:=∃ O A,SAt w b O A s∧(∀ k,A k→B0≤k∧(k<T∨T2≤k)∧k<w.heap.size)∧T2≤w.heap.size∧JOk s
section
variable {w w':World}{b B0 T T2:Nat}{s:JSt}
theorem Qhk.one (h:Qhk w b B0 T T2 s):SOk w b B0 s:=by obtain⟨O,A,h1,h2,h3,h4⟩:=h;exact⟨O,A,h1,fun k hk=>⟨(h2 k hk).1,(h2 k hk).2.2⟩,h4⟩
theorem Qhk.below (h:Qhk w b B0 T T2 s) (k:Below w.heap.size w w'):Qhk w' b B0 T T2 s:=by
 obtain⟨O,A,h1,h2,h3,h4⟩:=h
 exact⟨O,A,h1.below k,fun j hj=>⟨(h2 j hj).1,(h2 j hj).2.1,Zl (h2 j hj).2.2 k.size⟩,Zt h3 k.size,h4⟩
theorem Qhk.more (h:Qhk w b B0 T w.heap.size s) (k:Below w.heap.size w w'):Qhk w' b B0 T w'.heap.size s:=by
 obtain⟨O,A,h1,h2,h3,h4⟩:=h
 exact⟨O,A,h1.below k,fun j hj=>⟨(h2 j hj).1,.inl (by have:=h2 j hj;omega),Zl (h2 j hj).2.2 k.size⟩,Ze,h4⟩
structure QlL (w w':World) (B0 T T2:Nat):Prop where
 bel:Below B0 w w'
 top:∀ k,T≤k→k<T2→w'.heap[k]?=w.heap[k]?
theorem Qhk.ins (h:Qhk w b B0 T T2 s) (hB:B0≤w.heap.size){Q:Nat→Prop}{x:Qy}{rg ag:Option Addr}{rc ac:Nat}(hregs:intsL.In w Q x.regs [.slice rg x.regs.length rc]) (hargs:intsL.In w Q x.args [.slice ag x.args.length ac]) (hrc:x.regs.length≤rc) (hrng:Zx x) :
 Calls prog 23 #[.pointer (some ⟨b,0,none⟩),QaR x rg ag rc ac] w fun e w'=>e=.returned (.int .i64 (s.code x))∧Qhk w' b B0 T T2 (s.ins x)∧QlL w w' B0 T T2:=by
 obtain⟨O,A,h1,h2,h3,h4⟩:=h
 refine(QdG (fun k hk=>(h2 k hk).2.2) h4 h1 hregs hargs hrc hrng).mono ?_
 rintro e w' ⟨rfl,hS⟩;obtain⟨N,g1,g2,g3⟩:=id hS
 obtain⟨-,q2⟩:=hS.ok (B0:=B0) (fun k hk=>⟨(h2 k hk).1,(h2 k hk).2.2⟩) h1.sub hB (h4.ins x)
 have e:=g3.size;refine⟨rfl,⟨_,_,g2,fun k hk=>?_,Zt h3 e,h4.ins x⟩,q2,fun k hk hl=>g3.block k (by omega) (fun e=>by have:=(h2 k (h1.sub k e)).2.1;omega)⟩
 rcases hk with hk | hk
 ·have:=h2 k hk;omega
 ·have:=g1 k hk;omega
end
def T00:MTo:=⟨0,[],[]⟩
def E00:MEnd:=⟨3,0,T00,T00,[]⟩
theorem QfW {α:Type}{A:Lay α}{w:World}{G:Nat}{c:Array Value}{t:TypeId}{x:α}{cs:List Value}(h:Blk w G c t) (hc:c.toList=cs) (hx:A.In w All x cs):A.list.In w All [x] [.slice (some ⟨G,0,none⟩) 1 1]:=by
 refine⟨some ⟨G,0,none⟩,1,rfl,fun i y hy=>?_⟩
 have hi:i=0:=by
  have:=(Zi hy).1
  simp at this;exact this
 subst hi;simp at hy
 subst hy;refine⟨G,0,cs,rfl,trivial,h.lt,fun j hj=>?_,hx⟩
 have hl:=A.len hx;have hj':j<c.size:=by rw[← hc] at hl;simp at hl;omega
 rw[Nat.zero_mul,Nat.zero_add,← hc,Array.getElem?_toList]
 exact(Qb h j c[j] (Array.getElem?_eq_getElem hj')).trans (Array.getElem?_eq_getElem hj').symm
theorem Qkq (w:World):EIn w All E00 ⟨none,0,none,0,none,0,none,0,none,0⟩ :=
 ⟨⟨Lay.list_nil _ _ _ _ _,Lay.list_nil _ _ _ _ _,by decide⟩,⟨Lay.list_nil _ _ _ _ _,Lay.list_nil _ _ _ _ _,by decide⟩,Lay.list_nil _ _ _ _ _,by decide,by decide⟩
def QiI (w w':World) (e:Ending):Prop:=∃ G1 G2,e=.returned (.agg #[.slice (some ⟨G2,0,none⟩) 1 1])∧Blk w' G1 #[.int .i64 0,.slice none 0 0,.slice none 0 0,.int .i64 3,.int .i64 0,.int .i64 0,.slice none 0 0,.slice none 0 0,.int .i64 0,.slice none 0 0,.slice none 0 0,.slice none 0 0] 84∧Blk w' G2 #[.int .i64 0,.slice none 0 0,.slice none 0 0,.slice (some ⟨G1,0,none⟩) 1 1] 55∧w.heap.size≤G1∧w.heap.size≤G2∧G1≠G2∧Below w.heap.size w w'
theorem Qil (w:World):Calls prog 35 #[] w fun e w'=>QiI w w' e:=by
 refine QC (n:=7) func35 rfl rfl rfl ?_;intro a hF;have hW:=Wd.start w;replace hF:Fr 7 a []:=hF;refine wp_seq_k fun K1 hK1=>?_;refine rg hF fun ops=>?_;clear hF a;refine Qgi hW trivial rfl ?_;clear hW;intro w2 B2 hW2 hN;clear hN;refine St.nil fun a3 h3=>?_;refine hK1 _ _ ?_;refine wp_seq_k fun K4 hK4=>?_;refine rg h3 fun ops=>?_;clear h3 a3;intro a5 h5;refine Q7 (t:=1) (v:=.agg #[.int .i64 3,.int .i64 0,.int .i64 0,.slice none 0 0,.slice none 0 0,.int .i64 0,.slice none 0 0,.slice none 0 0,.slice none 0 0]) (w':=w2) h5 rfl rfl rfl (fun K hK=>?_) ?_
 ·go_simp
  exact hK
 clear h5;intro a6 hF6;refine Q7 (t:=2) (v:=.agg #[.int .i64 0,.slice none 0 0,.slice none 0 0,.int .i64 3,.int .i64 0,.int .i64 0,.slice none 0 0,.slice none 0 0,.int .i64 0,.slice none 0 0,.slice none 0 0,.slice none 0 0]) (w':=w2) hF6 rfl rfl rfl (fun K hK=>?_) ?_
 ·have k0:a6.tmps[1]?.getD undef=.agg #[.int .i64 3,.int .i64 0,.int .i64 0,.slice none 0 0,.slice none 0 0,.int .i64 0,.slice none 0 0,.slice none 0 0,.slice none 0 0]:=hF6.sl2 1 _ rfl
  go_simp;exact hK
 clear hF6;intro a7 hF7;refine Qjz (t:=3) #[.int .i64 0,.slice none 0 0,.slice none 0 0,.int .i64 3,.int .i64 0,.int .i64 0,.slice none 0 0,.slice none 0 0,.int .i64 0,.slice none 0 0,.slice none 0 0,.slice none 0 0] 84 1 hF7 hW2 rfl rfl rfl (fun K hK=>?_) ?_
 ·have k0:a7.tmps[2]?.getD undef=.agg #[.int .i64 0,.slice none 0 0,.slice none 0 0,.int .i64 3,.int .i64 0,.int .i64 0,.slice none 0 0,.slice none 0 0,.int .i64 0,.slice none 0 0,.slice none 0 0,.slice none 0 0]:=hF7.sl2 2 _ rfl
  go_simp;exact hK
 clear hF7 hW2;intro a8 w9 B9 hW9 hN hF8;clear hN;refine Q7 (t:=4) (v:=.agg #[.int .i64 0,.slice none 0 0,.slice none 0 0,.slice (some ⟨B9,0,none⟩) 1 1]) (w':=w9) hF8 rfl rfl rfl (fun K hK=>?_) ?_
 ·have k0:a8.tmps[3]?.getD undef=.slice (some ⟨B9,0,none⟩) 1 1:=hF8.sl2 3 _ rfl
  go_simp;exact hK
 clear hF8;intro a10 hF10;refine Qjz (t:=5) #[.int .i64 0,.slice none 0 0,.slice none 0 0,.slice (some ⟨B9,0,none⟩) 1 1] 55 1 hF10 hW9 rfl rfl rfl (fun K hK=>?_) ?_
 ·have k0:a10.tmps[4]?.getD undef=.agg #[.int .i64 0,.slice none 0 0,.slice none 0 0,.slice (some ⟨B9,0,none⟩) 1 1]:=hF10.sl2 4 _ rfl
  go_simp;exact hK
 clear hF10 hW9;intro a11 w12 B12 hW12 hN hF11;clear hN;refine Q7 (t:=6) (v:=.agg #[.slice (some ⟨B12,0,none⟩) 1 1]) (w':=w12) hF11 rfl rfl rfl (fun K hK=>?_) ?_
 ·have k0:a11.tmps[5]?.getD undef=.slice (some ⟨B12,0,none⟩) 1 1:=hF11.sl2 5 _ rfl
  go_simp;exact hK
 clear hF11;intro a13 hF13;refine St.go hF13 ?_;clear hF13 a13;refine sT 2 hW12 rfl rfl infModule rfl rfl rfl ?_;clear hW12;intro w14 hW14;refine St.nil fun a15 h15=>?_;refine hK4 _ _ ?_;refine wp_ret ?_;with_reducible repeat first | refine Qd ?_ | refine Qc ?_
 exact QQ 2 h15 hW14 rfl rfl rfl underlying24 rfl infModule ⟨B9,B12,rfl,hW14.get 1 rfl,hW14.get 0 rfl,hW14.new 1 _ rfl,hW14.new 0 _ rfl,fun e=>absurd (hW14.nd 1 0 _ _ rfl rfl e) (by decide),hW14.bel⟩
def g06:Qh 6:=⟨0,[],[],E00⟩
def f06:Qg 6:=⟨0,[],[],[g06]⟩
def L06:List (Qg 6):=[f06]
theorem Qhu {w:World}{G1 G2:Nat}(h1:Blk w G1 #[.int .i64 0,.slice none 0 0,.slice none 0 0,.int .i64 3,.int .i64 0,.int .i64 0,.slice none 0 0,.slice none 0 0,.int .i64 0,.slice none 0 0,.slice none 0 0,.slice none 0 0] 84) (h2:Blk w G2 #[.int .i64 0,.slice none 0 0,.slice none 0 0,.slice (some ⟨G1,0,none⟩) 1 1] 55):(Qaq 6).In w All L06 [.slice (some ⟨G2,0,none⟩) 1 1] :=
 QfW h2 rfl (Qep (f:=⟨none,0,none,0,some ⟨G1,0,none⟩,1⟩) ⟨Lay.list_nil _ _ _ _ _,Lay.list_nil _ _ _ _ _,QfW h1 rfl (Qdp (x:=g06) (b:=⟨none,0,none,0,_⟩) ⟨Lay.list_nil _ _ _ _ _,Lay.list_nil _ _ _ _ _,Qkq w,by decide⟩),by decide⟩)
theorem L06_fault:modFault L06=(0,0):=by decide +kernel
theorem L06_not:¬ QW L06:=by
 rintro (h | ⟨x,hx,h⟩)
 ·exact absurd h (by decide)
 ·simp only[L06,List.mem_singleton] at hx
  subst hx;rcases h with h | h | h | ⟨y,hy,h⟩
  ·exact absurd h (by decide)
  ·rcases h with h | ⟨t,ht,_⟩
   ·exact absurd h (by decide)
   ·cases ht
  ·rcases h with h | ⟨t,ht,_⟩
   ·exact absurd h (by decide)
   ·cases ht
  ·simp only[f06,List.mem_singleton] at hy
   subst hy;rcases h with h | h | h | h | h | h | h | ⟨z,hz,h⟩
   ·exact absurd h (by decide)
   ·rcases h with h | ⟨t,ht,_⟩
    ·exact absurd h (by decide)
    ·cases ht
   ·exact absurd h (by decide)
   ·exact absurd h (by decide)
   ·exact absurd h (by decide)
   ·exact absurd h (by decide)
   ·exact absurd h (by decide)
   ·cases hz
def bI (k:Int):Qy:=⟨k,0,0,0,0,0,[],[]⟩
def bS0:JSt:=JSt.start L06 f06 g06
def bS1:JSt:=⟨L06,f06,[true],[mkT 2 0 []]⟩
def bS2:JSt:=⟨L06,f06,[false],[mkT 2 0 []]⟩
theorem bw1:bS1.want 0 2 true=0:=by decide
theorem bw2:bS2.want 0 2 true=10:=by decide
theorem bw4:bS1.want 0 4 true=9:=by decide
theorem b_new:bS0.code (bI 3)=0∧bS0.ins (bI 3)=bS1:=by
 have hm:bS0.makes (bI 3)=(0,[mkT 2 0 []]):=by rw[QaF rfl];rfl
 have hc:bS0.code (bI 3)=0:=by
  rw[QcV (by decide)]
  unfold JSt.goC;rw[hm]
  decide
 refine⟨hc,?_⟩
 unfold JSt.ins;rw[if_pos hc]
 unfold JSt.next
 rw[hm]
 rfl
theorem b_len:bS1.code (bI 11)=9∧bS1.ins (bI 11)=bS1:=by
 have hm:bS1.makes (bI 11)=(9,[tInt]):=by rw[Qbc rfl];show (bS1.want 0 4 true,_)=_;rw[bw4]
 have hc:bS1.code (bI 11)=9:=by
  rw[QcV (by decide)]
  unfold JSt.goC;rw[hm]
  rfl
 refine⟨hc,?_⟩
 unfold JSt.ins;rw[if_neg (by rw[hc];decide)]
theorem b_free:bS1.code (bI 4)=0∧bS1.ins (bI 4)=bS2:=by
 have hm:bS1.makes (bI 4)=(0,[]):=by rw[Z0 rfl];show (code2 (bS1.want 0 2 true) _,_)=_;rw[bw1];rfl
 have hc:bS1.code (bI 4)=0:=by
  rw[QcV (by decide)]
  unfold JSt.goC;rw[hm]
  decide
 refine⟨hc,?_⟩
 unfold JSt.ins;rw[if_pos hc]
 unfold JSt.next
 rw[hm]
 rfl
theorem b_free2:bS2.code (bI 4)=10∧bS2.ins (bI 4)=bS2:=by
 have hm:bS2.makes (bI 4)=(10,[]):=by rw[Z0 rfl];show (code2 (bS2.want 0 2 true) _,_)=_;rw[bw2];rfl
 have hc:bS2.code (bI 4)=10:=by
  rw[QcV (by decide)]
  unfold JSt.goC;rw[hm]
  rfl
 refine⟨hc,?_⟩
 unfold JSt.ins;rw[if_neg (by rw[hc];decide)]
theorem b_fin:bS2.fin E00=0:=by
 unfold JSt.fin;rw[if_neg (by decide),if_neg (by decide),if_neg (by decide)]
 show code2 (bS2.args [] [] _) _=0
 have:bS2.args [] [] (Qa3 bS2.f.regs.toNat)=0:=by unfold JSt.args;simp[Qz]
 rw[this]
 decide
theorem QaM (w:World):intsL.In w All ([]:List Int) [.slice none 0 0]:=Lay.list_nil _ _ _ _ _
theorem QkW (k:Int):Zx (bI k):=by simp[Zx,bI]
def eP0:EP:=⟨none,0,none,0,none,0,none,0,none,0⟩
theorem Qlh (w:World):Qa2 w All E00 eP0:=⟨QaM w,QaM w,QaM w,QaM w,QaM w⟩
theorem Qaw (w:World):Calls prog 19 #[] w fun e w'=>e=.returned (.bool true)∧Below w.heap.size w w':=by
 go_enter func19,ntmps19
 go_wp2_with fail
 refine(Qil w).mono ?_
 rintro e1 w1 ⟨G1,G2,rfl,k1,k2,-,-,-,b1⟩;have HM:=Qa (Qhu k1 k2);have HB1:=Qa b1;clear k1 k2 b1;have CN:=Qa (Qd0 (c:=1) 0 0 L06_not HM.out);go_wp2_with fail
 refine CN.out.mono ?_;rintro e2 w2 ⟨b2,hN⟩;have HB2:=Qa (HB1.out.trans (b2.mono HB1.out.size));rcases hN with ⟨h,-⟩|⟨-,h,-⟩|⟨-,-,i,j,fn,g,B,O,A,hi,hj,hfn,hg,rfl,hS,hA⟩
 ·exact absurd (by rw[L06_fault]) h
 ·exact absurd h (by decide)
 have hi0:i=0:=by omega
 have hj0:j=0:=by omega
 subst hi0;subst hj0
 have hfe:fn=f06:=by
  have:L06[0]?=some f06:=rfl
  rw[this] at hfn
  injection hfn with hfn
  exact hfn.symm
 subst hfe
 have hge:g=g06:=by
  have:f06.blocks[0]?=some g06:=rfl
  rw[this] at hg
  injection hg with hg
  exact hg.symm
 subst hge;have S0:Hid (SOk w2 B w1.heap.size bS0):=⟨O,A,hS,hA,JOk.start (by rw[L06_fault]) L06_not (List.mem_singleton.2 rfl) (List.mem_singleton.2 rfl)⟩;have hs2:=b2.size;clear HM CN hS hA b2 hfn hg hi hj
 have INS:Hid (∀ (k:Int) (s:JSt) (wx:World),SOk wx B w1.heap.size s→w1.heap.size≤wx.heap.size→Calls prog 23 #[.pointer (some ⟨B,0,none⟩),.agg #[.int .i64 k,.int .i64 0,.int .i64 0,.int .i64 0,.int .i64 0,.int .i64 0,.slice none 0 0,.slice none 0 0]] wx fun e w'=>e=.returned (.int .i64 (s.code (bI k)))∧SOk w' B w1.heap.size (s.ins (bI k))∧Below w1.heap.size wx w'):=fun k s wx hs hb =>
  hs.ins (x:=bI k) (rg:=none) (ag:=none) (rc:=0) (ac:=0) hb (QaM wx) (QaM wx) Ze (QkW k)
 have b3:=QN w2 (.cells #[.int .i64 0,.int .i64 0] 30);have S3:=Qa (S0.out.below b3);have HB3:=Qa (HB2.out.trans (b3.mono HB2.out.size));have hs3:=Zt hs2 b3.size;clear S0 HB2 b3;go_upto_region 2 with fail
 generalize hw3:w2.alloc (.cells #[.int .i64 0,.int .i64 0] 30)=w3 at S3 HB3 hs3 ⊢;have y0:w3.cell? ⟨w2.heap.size,0,none⟩=some (.int .i64 0):=by rw[← hw3];exact Qb (Qe _ _ _) 0 _ rfl
 clear hw3;have HHS:=Qa hs3;clear hs2 hs3;go_wp2_with fail
 refine(INS.out 3 bS0 w3 S3.out HHS.out).mono ?_
 rintro e4 w4 ⟨rfl,h4,b4⟩;rw[b_new.2] at h4
 rw[b_new.1]
 have S4:=Qa h4;have HB4:Hid (Below w.heap.size w w4):=HB3.out.trans (b4.mono HB1.out.size);have HS4:=Qa (Zt HHS.out b4.size);clear h4 b4 S3 HB3 HHS y0;go_wp2_with fail
 refine(INS.out 11 bS1 w4 S4.out HS4.out).mono ?_
 rintro e5 w5 ⟨rfl,h5,b5⟩;rw[b_len.2] at h5
 rw[b_len.1]
 have S5:=Qa h5;have HB5:Hid (Below w.heap.size w w5):=HB4.out.trans (b5.mono HB1.out.size);have HS5:=Qa (Zt HS4.out b5.size);clear h5 b5 S4 HB4 HS4;go_wp2_with fail
 refine(INS.out 4 bS1 w5 S5.out HS5.out).mono ?_
 rintro e6 w6 ⟨rfl,h6,b6⟩;rw[b_free.2] at h6
 rw[b_free.1]
 have S6:=Qa h6;have HB6:Hid (Below w.heap.size w w6):=HB5.out.trans (b6.mono HB1.out.size);have HS6:=Qa (Zt HS5.out b6.size);clear h6 b6 S5 HB5 HS5;go_wp2_with fail
 refine(INS.out 4 bS2 w6 S6.out HS6.out).mono ?_
 rintro e7 w7 ⟨rfl,h7,b7⟩;rw[b_free2.2] at h7
 rw[b_free2.1]
 have S7:=Qa h7;have HB7:Hid (Below w.heap.size w w7):=HB6.out.trans (b7.mono HB1.out.size);have HS7:=Qa (Zt HS6.out b7.size);clear h7 b7 S6 HB6 HS6 INS;go_wp2_with fail
 refine(S7.out.types).mono ?_
 rintro e8 w8 ⟨a8,c8,rfl,-,-,b8⟩;rw[show bS2.L.length=1 from rfl]
 have S8:=Qa (S7.out.below b8);have HB8:Hid (Below w.heap.size w w8):=HB7.out.trans (b8.mono HB7.out.size);clear b8 S7 HB7 HS7
 have CE:Hid (Calls prog 31 #[.pointer (some ⟨B,0,none⟩),.agg #[.int .i64 3,.int .i64 0,.int .i64 0,.slice none 0 0,.slice none 0 0,.int .i64 0,.slice none 0 0,.slice none 0 0,.slice none 0 0]] w8 fun r w'=>r=.returned (.int .i64 0)∧Below w8.heap.size w8 w'):=by
  have:=S8.out.end_ (x:=E00) (e:=eP0) (Qlh w8) (by decide) (by decide)
  rw[b_fin] at this
  exact this
 go_wp2_with fail
 refine CE.out.mono ?_;rintro e9 w9 ⟨rfl,b9⟩;have HB9:Hid (Below w.heap.size w w9):=HB8.out.trans (b9.mono HB8.out.size);clear b9 CE;go_wp2
 go_ret;exact⟨rfl,HB9.out⟩
theorem Qgs {n:Nat}{w:World}{m:List (Qg n)}{p:Option Addr}{c:Nat}(f b:Int) (hng:¬ QW m) (hbad:(modFault m).1≠0) (hm:(Qaq n).In w All m [.slice p m.length c]) :
 Calls prog 20 #[.agg #[.slice p m.length c],.int .i64 f,.int .i64 b] w fun e w'=>e=.returned (.tuple #[.pointer none,QX (modFault m)])∧Below w.heap.size w w':=by
 have hms:Qc9 m:=Qbb hng;have HMS:=Qa hms;have HBAD:=Qa hbad;clear hbad;have b1:=QN w (.cells #[.slice p m.length c] 24);have b2:=QN (w.alloc (.cells #[.slice p m.length c] 24)) (.cells #[.int .i64 0,.int .i64 0] 30);have bb:=b1.trans (b2.mono b1.size);have HB:=Qa bb;have hX:Blk ((w.alloc (.cells #[.slice p m.length c] 24)).alloc (.cells #[.int .i64 0,.int .i64 0] 30)) w.heap.size #[.slice p m.length c] 24:=(Blk.new _ _ _:Blk (w.alloc (.cells #[.slice p m.length c] 24)) w.heap.size _ _).below b2
 have hR:Blk ((w.alloc (.cells #[.slice p m.length c] 24)).alloc (.cells #[.int .i64 0,.int .i64 0] 30)) (w.heap.size+1) #[.int .i64 0,.int .i64 0] 30:=by
  have:=Blk.new (w.alloc (.cells #[.slice p m.length c] 24)) #[.int .i64 0,.int .i64 0] 30
  simpa using this
 have HX:=Qa hX;have HR:=Qa hR;have HM:=Qa hm;have HM1:Hid ((Qaq n).In _ All m [.slice p m.length c]):=Lay.below hm bb;have hm8:m.length≤100000:=hms.1;clear hX hR b1 b2 bb hm hms hng;go_enter func20,ntmps20
 go_upto_region 1 with fail
 generalize (w.alloc (.cells #[.slice p m.length c] 24)).alloc (.cells #[.int .i64 0,.int .i64 0] 30)=w1 at HB HX HR HM1 ⊢;obtain⟨X,hX⟩:∃ X,X=w.heap.size:=⟨_,rfl⟩
 obtain⟨R,hR⟩:∃ R,R=X+1:=⟨_,rfl⟩
 rw[← hX] at HX HR ⊢
 rw[← hR] at HR ⊢
 have HXE:=Qa hX;have HRE:Hid (w.heap.size≤R):=by show _≤_;omega
 have HXR:¬ X=R:=by omega
 clear hX hR;have x0:=Qb HX.out 0 _ rfl;have CC:=Qa (Qdv HM1.out HMS.out);unfold Rd at CC;go_wp2_with fail
 refine CC.out.mono ?_;rintro e2 w2 ⟨rfl,b2⟩;have HB2:=Qa (HB.out.trans (b2.mono HB.out.size));have HX2:=Qa (HX.out.below b2);have HR2:=Qa (HR.out.below b2);clear b2 CC x0 HX HR HB HM1;have b3:=QN w2 (.cells #[.int .i64 (modFault m).1,.int .i64 (modFault m).2] 30);have HB3:=Qa (HB2.out.trans (b3.mono HB2.out.size));have HX3:=Qa (HX2.out.below b3);have HR3:=Qa (HR2.out.below b3);have hF3:=Blk.new w2 #[.int .i64 (modFault m).1,.int .i64 (modFault m).2] 30;have HF3:=Qa hF3;have hRF:¬ w2.heap.size=R:=by have:=HR2.out.lt;omega
 clear b3 hF3 HB2 HX2 HR2;go_upto_region 2 with fail
 generalize w2.alloc (.cells #[.int .i64 (modFault m).1,.int .i64 (modFault m).2] 30)=w3 at HB3 HX3 HR3 HF3 ⊢;generalize w2.heap.size=F8 at HF3 hRF ⊢;obtain⟨c0,a0,hcf⟩:∃ c0 a0,modFault m=(c0,a0):=⟨_,_,rfl⟩
 rw[hcf] at HF3 ⊢
 have HCF:=Qa hcf;clear hcf;simp only at HF3 ⊢
 have y0:=Qb HF3.out 0 _ rfl;have y1:=Qb HF3.out 1 _ rfl;by_cases hc0:c0=0
 rotate_left
 ·have hc0':(c0 != 0)=true:=by simpa using hc0
  have r0:=Qb HR3.out 0 _ rfl;have r1:=Qb HR3.out 1 _ rfl;have z0:=Qp HR3.out 0;have z1:=Qp HR3.out 1;have HC0:=Qa hc0;clear hc0;go_upto_region 3 with fail
  go_region
  all_goals
   have D2:Blk ((w3.setCell ⟨R,0,none⟩ (.int .i64 c0)).setCell ⟨R,1,none⟩ (.int .i64 a0)).drew R #[.int .i64 c0,.int .i64 a0] 30:=by
    have h9:Blk ((w3.setCell ⟨R,0,none⟩ (.int .i64 c0)).setCell ⟨R,1,none⟩ (.int .i64 a0)) R #[.int .i64 c0,.int .i64 a0] 30:=by
     have:=Qo (Qo HR3.out 0 (.int .i64 c0)) 1 (.int .i64 a0)
     simpa using this
    exact h9
   have D3:Below w.heap.size w ((w3.setCell ⟨R,0,none⟩ (.int .i64 c0)).setCell ⟨R,1,none⟩ (.int .i64 a0)).drew:=Qbu ((HB3.out.setCell (p:=⟨R,0,none⟩) HRE.out _).setCell (p:=⟨R,1,none⟩) HRE.out _);clear y0 y1 r0 r1 z0 z1;generalize ((w3.setCell ⟨R,0,none⟩ (.int .i64 c0)).setCell ⟨R,1,none⟩ (.int .i64 a0)).drew=w9 at D2 D3 ⊢;have q0:=Qb D2 0 _ rfl;have q1:=Qb D2 1 _ rfl;go_wp2
   exact bodyPost_ret (v:=.tuple #[.pointer none,.agg #[.int .i64 c0,.int .i64 a0]]) (by simp[results,results20,go_sem,q0,q1]) rfl ⟨by rw[HCF.out],D3⟩
 exact absurd (by rw[HCF.out];exact hc0) HBAD.out
theorem Qek {op:Int}{fa fb fc fk fn fr fs:Bool}(hop:QD op=some (fa,fb,fc,fk,fn,fr,fs)) (w:World):Rd prog 92 #[.int .i64 op] w (.tuple #[.agg #[.bool fa,.bool fb,.bool fc,.bool fk,.bool fn,.bool fr,.bool fs],.bool true]):=by
 have:=Qck op w
 rwa [show Zj op=.tuple #[.agg #[.bool fa,.bool fb,.bool fc,.bool fk,.bool fn,.bool fr,.bool fs],.bool true] from by unfold Zj;rw[hop]] at this
theorem QgA {op:Int}(hop:QD op=none) (w:World):Rd prog 92 #[.int .i64 op] w (.tuple #[.agg #[.bool false,.bool false,.bool false,.bool false,.bool false,.bool false,.bool false],.bool false]):=by
 have:=Qck op w
 rwa [show Zj op=.tuple #[.agg #[.bool false,.bool false,.bool false,.bool false,.bool false,.bool false,.bool false],.bool false] from by unfold Zj;rw[hop]] at this
theorem QT {lm:Nat}{op a b c k n:Int}{rl al:Nat}{fa fb fc fk fn fr fs d1 d2 d3 d4 d5 d6 d7:Bool}(e:QD op=some (fa,fb,fc,fk,fn,fr,fs))
 (h1:d1=(!fa&&a != 0)) (h2:d2=(d1||(!fb&&b != 0))) (h3:d3=(d2||(!fc&&c != 0))) (h4:d4=(d3||(!fk&&k != 0))) (h5:d5=(d4||(!fn&&n != 0))) (h6:d6=(d5||(!fr&&decide ((0:Int)<(rl:Int))))) (h7:d7=(d6||(!fs&&decide ((0:Int)<(al:Int))))) :
 QM lm op a b c k n rl al=if d7 then 4
 else if op=2∧(k<1∨9<k) then 1
 else if op=5∧8<al then 2
 else if (op=6∨op=7)∧(k<0∨7<k) then 1
 else if op=14∧(k<0∨(lm:Int)≤k) then 1
 else if op=14∧(6<rl∨8<al) then 2
 else 0:=by
 subst h1 h2 h3 h4 h5 h6 h7;simp only[QM,e]
 have e1:decide ((0:Int)<(rl:Int))=decide (0<rl):=by simp
 have e2:decide ((0:Int)<(al:Int))=decide (0<al):=by simp
 rw[e1,e2]
theorem QiE {xop:Int}{fa fb fc fk fn fr fs:Bool}(hop:QD xop=some (fa,fb,fc,fk,fn,fr,fs)) (xa xb xc xk xn:Int) (am ra aa:Option Addr) (lm cm rl rc al ac:Nat) (w:World) :
 Rd prog 72 #[.agg #[.slice am lm cm],.agg #[.int .i64 xop,.int .i64 xa,.int .i64 xb,.int .i64 xc,.int .i64 xk,.int .i64 xn,.slice ra rl rc,.slice aa al ac]] w (.int .i64 (QM lm xop xa xb xc xk xn rl al)):=by
 refine QC (n:=137) func72 rfl rfl rfl <| fun a hF=>?_
 have hW:=Wd.start w;replace hF:Fr 137 a [(0,.agg #[.slice am lm cm]),(1,.agg #[.int .i64 xop,.int .i64 xa,.int .i64 xb,.int .i64 xc,.int .i64 xk,.int .i64 xn,.slice ra rl rc,.slice aa al ac])]:=hF;refine wp_seq_k fun K1 hK1=>rg hF fun ops=>sB hW trivial rfl rfl <| fun w2 B2 hW2 hN=>sB hW2 trivial rfl rfl <| fun w3 B3 hW3 hN=>sa trivial rfl rfl <| St.nil fun a4 h4=>hK1 _ _ <| wp_seq_k fun K5 hK5=>rg h4 fun ops=>Qio trivial rfl rfl <| ZK 0 hW3 trivial rfl rfl rfl rfl <| QjB cf92 hW3 (Qek hop w3) trivial rfl rfl <| fun w6 hW6=>sm trivial rfl rfl <| fun a7 h7=>Q7 (t:=11) (v:=.agg #[.bool fa,.bool fb,.bool fc,.bool fk,.bool fn,.bool fr,.bool fs]) (w':=w6) h7 rfl rfl rfl (fun K hK=>?_) ?_
 ·have k0:a7.tmps.getD 7 undef=.tuple #[.agg #[.bool fa,.bool fb,.bool fc,.bool fk,.bool fn,.bool fr,.bool fs],.bool true]:=h7.sl 7 _ rfl
  go_simp;exact hK
 clear h7;intro a8 hF8;refine Q7 (t:=12) (v:=.bool true) (w':=w6) hF8 rfl rfl rfl (fun K hK=>?_) ?_
 ·have k0:a8.tmps.getD 7 undef=.tuple #[.agg #[.bool fa,.bool fb,.bool fc,.bool fk,.bool fn,.bool fr,.bool fs],.bool true]:=hF8.sl 7 _ rfl
  go_simp;exact hK
 clear hF8;intro a9 hF9;refine St.go hF9 <| Qgg hW6 trivial rfl <| fun w10 B10 hW10 hN=>sT 0 hW10 rfl rfl infFields rfl rfl rfl <| fun w11 hW11=>sa trivial rfl rfl <| St.nil fun a12 h12=>hK5 _ _ <| wp_seq_k fun K13 hK13=>wp_seq_k fun K14 hK14=>rg h12 fun ops=>sm trivial rfl rfl <| sn trivial rfl rfl <| St.nil fun a15 h15=>hK14 _ _ <| Qf7 (t:=14) h15 rfl <| wp_skip <| hK13 _ _ <| wp_seq_k fun K16 hK16=>wp_seq_k fun K17 hK17=>Zv <| fun ops hops=>?_
 have hg3:(ops[3]?).bind (fun o:Oper=>o.dst)=some 18:=hops 3;have hg8:(ops[8]?).bind (fun o:Oper=>o.dst)=some 23:=hops 8;have hg12:(ops[12]?).bind (fun o:Oper=>o.dst)=some 27:=hops 12;have hg18:(ops[18]?).bind (fun o:Oper=>o.dst)=some 33:=hops 18;have hg22:(ops[22]?).bind (fun o:Oper=>o.dst)=some 37:=hops 22;have hg28:(ops[28]?).bind (fun o:Oper=>o.dst)=some 43:=hops 28;have hg32:(ops[32]?).bind (fun o:Oper=>o.dst)=some 47:=hops 32;have hg38:(ops[38]?).bind (fun o:Oper=>o.dst)=some 53:=hops 38;have hg42:(ops[42]?).bind (fun o:Oper=>o.dst)=some 57:=hops 42;have hg48:(ops[48]?).bind (fun o:Oper=>o.dst)=some 63:=hops 48;have hg52:(ops[52]?).bind (fun o:Oper=>o.dst)=some 67:=hops 52;have hg59:(ops[59]?).bind (fun o:Oper=>o.dst)=some 74:=hops 59;have hg63:(ops[63]?).bind (fun o:Oper=>o.dst)=some 78:=hops 63;clear hops;refine Qfv 9 (fun a' w'=>(∃ d1:Bool,d1=(!fa&&xa != 0)∧Fr 137 a' [(23,.bool d1),(1,.agg #[.int .i64 xop,.int .i64 xa,.int .i64 xb,.int .i64 xc,.int .i64 xk,.int .i64 xn,.slice ra rl rc,.slice aa al ac]),(0,.agg #[.slice am lm cm]),(2,.pointer (some ⟨B2,0,none⟩)),(3,.pointer (some ⟨B3,0,none⟩)),(4,.int .i64 0),(5,.pointer (some ⟨B10,0,none⟩)),(6,.bool true)])∧w11=w') (fun KC hKC=>?_) ?_
 ·refine St.go h15 <| QhG trivial rfl rfl <| Qdd 0 hW11 trivial rfl rfl rfl rfl <| sn trivial rfl rfl <| sm trivial rfl rfl <| fun a18 h18=>?_
  rcases Bool.eq_false_or_eq_true (!fa) with hb | hb
  ·rw[hb] at h18
   have hc19:fa=false:=by simpa using hb
   clear hb;exact St.go h18 <| Qk0 ⟨_,hg3,rfl,rfl⟩ rfl rfl <| ZK 1 hW11 ⟨_,hg3,rfl,rfl⟩ rfl rfl rfl rfl <| sne ⟨_,hg3,rfl,rfl⟩ rfl rfl rfl <| sp trivial rfl rfl rfl <| sm trivial rfl rfl <| St.nil fun a20 h20=>hKC _ _ ⟨⟨xa != 0,by simp[hc19],(h20.keep (h20.keep (h20.keep (h20.keep (h20.keep (h20.keep (h20.keep (h20.keep h20.nil (t:=6) rfl) (t:=5) rfl) (t:=4) rfl) (t:=3) rfl) (t:=2) rfl) (t:=0) rfl) (t:=1) rfl) (t:=23) rfl)⟩,rfl⟩
  rw[hb] at h18
  have hc21:fa=true:=by simpa using hb
  clear hb;exact St.go h18 <| so hg3 rfl rfl rfl rfl <| so hg3 rfl rfl rfl rfl <| so hg3 rfl rfl rfl rfl <| spf trivial rfl rfl rfl <| sm trivial rfl rfl <| St.nil fun a22 h22=>hKC _ _ ⟨⟨false,by simp[hc21],(h22.keep (h22.keep (h22.keep (h22.keep (h22.keep (h22.keep (h22.keep (h22.keep h22.nil (t:=6) rfl) (t:=5) rfl) (t:=4) rfl) (t:=3) rfl) (t:=2) rfl) (t:=0) rfl) (t:=1) rfl) (t:=23) rfl)⟩,rfl⟩
 ·clear h15;rintro a23 _ ⟨⟨d1,hdd1,h23⟩,rfl⟩;replace hdd1:Hid _:=hdd1
  refine Qfv 10 (fun a' w'=>(∃ d2:Bool,d2=(d1||(!fb&&xb != 0))∧Fr 137 a' [(33,.bool d2),(1,.agg #[.int .i64 xop,.int .i64 xa,.int .i64 xb,.int .i64 xc,.int .i64 xk,.int .i64 xn,.slice ra rl rc,.slice aa al ac]),(0,.agg #[.slice am lm cm]),(2,.pointer (some ⟨B2,0,none⟩)),(3,.pointer (some ⟨B3,0,none⟩)),(4,.int .i64 0),(5,.pointer (some ⟨B10,0,none⟩)),(6,.bool true)])∧w11=w') (fun KC hKC=>?_) ?_
  ·rcases Bool.eq_false_or_eq_true d1 with hb | hb
   ·rw[hb] at h23
    have hc24:=hb;clear hb;exact St.go h23 <| so hg8 rfl rfl rfl rfl <| so hg8 rfl rfl rfl rfl <| so hg8 rfl rfl rfl rfl <| so hg8 rfl rfl rfl rfl <| so hg12 rfl rfl rfl rfl <| so hg12 rfl rfl rfl rfl <| so hg12 rfl rfl rfl rfl <| so hg8 rfl rfl rfl rfl <| sp trivial rfl rfl rfl <| sm trivial rfl rfl <| St.nil fun a25 h25=>hKC _ _ ⟨⟨true,by simp[hc24],(h25.keep (h25.keep (h25.keep (h25.keep (h25.keep (h25.keep (h25.keep (h25.keep h25.nil (t:=6) rfl) (t:=5) rfl) (t:=4) rfl) (t:=3) rfl) (t:=2) rfl) (t:=0) rfl) (t:=1) rfl) (t:=33) rfl)⟩,rfl⟩
   rw[hb] at h23
   have hc26:=hb;clear hb;refine St.go h23 <| QhB ⟨_,hg8,rfl,rfl⟩ rfl rfl <| Qdd 0 hW11 ⟨_,hg8,rfl,rfl⟩ rfl rfl rfl rfl <| sn ⟨_,hg8,rfl,rfl⟩ rfl rfl <| sm ⟨_,hg8,rfl,rfl⟩ rfl rfl <| fun a27 h27=>?_
   rcases Bool.eq_false_or_eq_true (!fb) with hb | hb
   ·rw[hb] at h27
    have hc28:fb=false:=by simpa using hb
    clear hb;exact St.go h27 <| QkC ⟨_,hg12,rfl,rfl⟩ rfl rfl <| ZK 1 hW11 ⟨_,hg12,rfl,rfl⟩ rfl rfl rfl rfl <| sne ⟨_,hg12,rfl,rfl⟩ rfl rfl rfl <| sp ⟨_,hg8,rfl,rfl⟩ rfl rfl rfl <| spf trivial rfl rfl rfl <| sm trivial rfl rfl <| St.nil fun a29 h29=>hKC _ _ ⟨⟨xb != 0,by simp[hc26,hc28],(h29.keep (h29.keep (h29.keep (h29.keep (h29.keep (h29.keep (h29.keep (h29.keep h29.nil (t:=6) rfl) (t:=5) rfl) (t:=4) rfl) (t:=3) rfl) (t:=2) rfl) (t:=0) rfl) (t:=1) rfl) (t:=33) rfl)⟩,rfl⟩
   rw[hb] at h27
   have hc30:fb=true:=by simpa using hb
   clear hb;exact St.go h27 <| so hg12 rfl rfl rfl rfl <| so hg12 rfl rfl rfl rfl <| so hg12 rfl rfl rfl rfl <| spf ⟨_,hg8,rfl,rfl⟩ rfl rfl rfl <| spf trivial rfl rfl rfl <| sm trivial rfl rfl <| St.nil fun a31 h31=>hKC _ _ ⟨⟨false,by simp[hc26,hc30],(h31.keep (h31.keep (h31.keep (h31.keep (h31.keep (h31.keep (h31.keep (h31.keep h31.nil (t:=6) rfl) (t:=5) rfl) (t:=4) rfl) (t:=3) rfl) (t:=2) rfl) (t:=0) rfl) (t:=1) rfl) (t:=33) rfl)⟩,rfl⟩
  ·clear h23;rintro a32 _ ⟨⟨d2,hdd2,h32⟩,rfl⟩;replace hdd2:Hid _:=hdd2
   refine Qfv 10 (fun a' w'=>(∃ d3:Bool,d3=(d2||(!fc&&xc != 0))∧Fr 137 a' [(43,.bool d3),(1,.agg #[.int .i64 xop,.int .i64 xa,.int .i64 xb,.int .i64 xc,.int .i64 xk,.int .i64 xn,.slice ra rl rc,.slice aa al ac]),(0,.agg #[.slice am lm cm]),(2,.pointer (some ⟨B2,0,none⟩)),(3,.pointer (some ⟨B3,0,none⟩)),(4,.int .i64 0),(5,.pointer (some ⟨B10,0,none⟩)),(6,.bool true)])∧w11=w') (fun KC hKC=>?_) ?_
   ·rcases Bool.eq_false_or_eq_true d2 with hb | hb
    ·rw[hb] at h32
     have hc33:=hb;clear hb;exact St.go h32 <| so hg18 rfl rfl rfl rfl <| so hg18 rfl rfl rfl rfl <| so hg18 rfl rfl rfl rfl <| so hg18 rfl rfl rfl rfl <| so hg22 rfl rfl rfl rfl <| so hg22 rfl rfl rfl rfl <| so hg22 rfl rfl rfl rfl <| so hg18 rfl rfl rfl rfl <| sp trivial rfl rfl rfl <| sm trivial rfl rfl <| St.nil fun a34 h34=>hKC _ _ ⟨⟨true,by simp[hc33],(h34.keep (h34.keep (h34.keep (h34.keep (h34.keep (h34.keep (h34.keep (h34.keep h34.nil (t:=6) rfl) (t:=5) rfl) (t:=4) rfl) (t:=3) rfl) (t:=2) rfl) (t:=0) rfl) (t:=1) rfl) (t:=43) rfl)⟩,rfl⟩
    rw[hb] at h32
    have hc35:=hb;clear hb;refine St.go h32 <| Qin ⟨_,hg18,rfl,rfl⟩ rfl rfl <| Qdd 0 hW11 ⟨_,hg18,rfl,rfl⟩ rfl rfl rfl rfl <| sn ⟨_,hg18,rfl,rfl⟩ rfl rfl <| sm ⟨_,hg18,rfl,rfl⟩ rfl rfl <| fun a36 h36=>?_
    rcases Bool.eq_false_or_eq_true (!fc) with hb | hb
    ·rw[hb] at h36
     have hc37:fc=false:=by simpa using hb
     clear hb;exact St.go h36 <| Qk6 ⟨_,hg22,rfl,rfl⟩ rfl rfl <| ZK 1 hW11 ⟨_,hg22,rfl,rfl⟩ rfl rfl rfl rfl <| sne ⟨_,hg22,rfl,rfl⟩ rfl rfl rfl <| sp ⟨_,hg18,rfl,rfl⟩ rfl rfl rfl <| spf trivial rfl rfl rfl <| sm trivial rfl rfl <| St.nil fun a38 h38=>hKC _ _ ⟨⟨xc != 0,by simp[hc35,hc37],(h38.keep (h38.keep (h38.keep (h38.keep (h38.keep (h38.keep (h38.keep (h38.keep h38.nil (t:=6) rfl) (t:=5) rfl) (t:=4) rfl) (t:=3) rfl) (t:=2) rfl) (t:=0) rfl) (t:=1) rfl) (t:=43) rfl)⟩,rfl⟩
    rw[hb] at h36
    have hc39:fc=true:=by simpa using hb
    clear hb;exact St.go h36 <| so hg22 rfl rfl rfl rfl <| so hg22 rfl rfl rfl rfl <| so hg22 rfl rfl rfl rfl <| spf ⟨_,hg18,rfl,rfl⟩ rfl rfl rfl <| spf trivial rfl rfl rfl <| sm trivial rfl rfl <| St.nil fun a40 h40=>hKC _ _ ⟨⟨false,by simp[hc35,hc39],(h40.keep (h40.keep (h40.keep (h40.keep (h40.keep (h40.keep (h40.keep (h40.keep h40.nil (t:=6) rfl) (t:=5) rfl) (t:=4) rfl) (t:=3) rfl) (t:=2) rfl) (t:=0) rfl) (t:=1) rfl) (t:=43) rfl)⟩,rfl⟩
   ·clear h32;rintro a41 _ ⟨⟨d3,hdd3,h41⟩,rfl⟩;replace hdd3:Hid _:=hdd3
    refine Qfv 10 (fun a' w'=>(∃ d4:Bool,d4=(d3||(!fk&&xk != 0))∧Fr 137 a' [(53,.bool d4),(1,.agg #[.int .i64 xop,.int .i64 xa,.int .i64 xb,.int .i64 xc,.int .i64 xk,.int .i64 xn,.slice ra rl rc,.slice aa al ac]),(0,.agg #[.slice am lm cm]),(2,.pointer (some ⟨B2,0,none⟩)),(3,.pointer (some ⟨B3,0,none⟩)),(4,.int .i64 0),(5,.pointer (some ⟨B10,0,none⟩)),(6,.bool true)])∧w11=w') (fun KC hKC=>?_) ?_
    ·rcases Bool.eq_false_or_eq_true d3 with hb | hb
     ·rw[hb] at h41
      have hc42:=hb;clear hb;exact St.go h41 <| so hg28 rfl rfl rfl rfl <| so hg28 rfl rfl rfl rfl <| so hg28 rfl rfl rfl rfl <| so hg28 rfl rfl rfl rfl <| so hg32 rfl rfl rfl rfl <| so hg32 rfl rfl rfl rfl <| so hg32 rfl rfl rfl rfl <| so hg28 rfl rfl rfl rfl <| sp trivial rfl rfl rfl <| sm trivial rfl rfl <| St.nil fun a43 h43=>hKC _ _ ⟨⟨true,by simp[hc42],(h43.keep (h43.keep (h43.keep (h43.keep (h43.keep (h43.keep (h43.keep (h43.keep h43.nil (t:=6) rfl) (t:=5) rfl) (t:=4) rfl) (t:=3) rfl) (t:=2) rfl) (t:=0) rfl) (t:=1) rfl) (t:=53) rfl)⟩,rfl⟩
     rw[hb] at h41
     have hc44:=hb;clear hb;refine St.go h41 <| Qhq ⟨_,hg28,rfl,rfl⟩ rfl rfl <| Qdd 0 hW11 ⟨_,hg28,rfl,rfl⟩ rfl rfl rfl rfl <| sn ⟨_,hg28,rfl,rfl⟩ rfl rfl <| sm ⟨_,hg28,rfl,rfl⟩ rfl rfl <| fun a45 h45=>?_
     rcases Bool.eq_false_or_eq_true (!fk) with hb | hb
     ·rw[hb] at h45
      have hc46:fk=false:=by simpa using hb
      clear hb;exact St.go h45 <| QbP ⟨_,hg32,rfl,rfl⟩ rfl rfl <| ZK 1 hW11 ⟨_,hg32,rfl,rfl⟩ rfl rfl rfl rfl <| sne ⟨_,hg32,rfl,rfl⟩ rfl rfl rfl <| sp ⟨_,hg28,rfl,rfl⟩ rfl rfl rfl <| spf trivial rfl rfl rfl <| sm trivial rfl rfl <| St.nil fun a47 h47=>hKC _ _ ⟨⟨xk != 0,by simp[hc44,hc46],(h47.keep (h47.keep (h47.keep (h47.keep (h47.keep (h47.keep (h47.keep (h47.keep h47.nil (t:=6) rfl) (t:=5) rfl) (t:=4) rfl) (t:=3) rfl) (t:=2) rfl) (t:=0) rfl) (t:=1) rfl) (t:=53) rfl)⟩,rfl⟩
     rw[hb] at h45
     have hc48:fk=true:=by simpa using hb
     clear hb;exact St.go h45 <| so hg32 rfl rfl rfl rfl <| so hg32 rfl rfl rfl rfl <| so hg32 rfl rfl rfl rfl <| spf ⟨_,hg28,rfl,rfl⟩ rfl rfl rfl <| spf trivial rfl rfl rfl <| sm trivial rfl rfl <| St.nil fun a49 h49=>hKC _ _ ⟨⟨false,by simp[hc44,hc48],(h49.keep (h49.keep (h49.keep (h49.keep (h49.keep (h49.keep (h49.keep (h49.keep h49.nil (t:=6) rfl) (t:=5) rfl) (t:=4) rfl) (t:=3) rfl) (t:=2) rfl) (t:=0) rfl) (t:=1) rfl) (t:=53) rfl)⟩,rfl⟩
    ·clear h41;rintro a50 _ ⟨⟨d4,hdd4,h50⟩,rfl⟩;replace hdd4:Hid _:=hdd4
     refine Qfv 10 (fun a' w'=>(∃ d5:Bool,d5=(d4||(!fn&&xn != 0))∧Fr 137 a' [(63,.bool d5),(1,.agg #[.int .i64 xop,.int .i64 xa,.int .i64 xb,.int .i64 xc,.int .i64 xk,.int .i64 xn,.slice ra rl rc,.slice aa al ac]),(0,.agg #[.slice am lm cm]),(2,.pointer (some ⟨B2,0,none⟩)),(3,.pointer (some ⟨B3,0,none⟩)),(4,.int .i64 0),(5,.pointer (some ⟨B10,0,none⟩)),(6,.bool true)])∧w11=w') (fun KC hKC=>?_) ?_
     ·rcases Bool.eq_false_or_eq_true d4 with hb | hb
      ·rw[hb] at h50
       have hc51:=hb;clear hb;exact St.go h50 <| so hg38 rfl rfl rfl rfl <| so hg38 rfl rfl rfl rfl <| so hg38 rfl rfl rfl rfl <| so hg38 rfl rfl rfl rfl <| so hg42 rfl rfl rfl rfl <| so hg42 rfl rfl rfl rfl <| so hg42 rfl rfl rfl rfl <| so hg38 rfl rfl rfl rfl <| sp trivial rfl rfl rfl <| sm trivial rfl rfl <| St.nil fun a52 h52=>hKC _ _ ⟨⟨true,by simp[hc51],(h52.keep (h52.keep (h52.keep (h52.keep (h52.keep (h52.keep (h52.keep (h52.keep h52.nil (t:=6) rfl) (t:=5) rfl) (t:=4) rfl) (t:=3) rfl) (t:=2) rfl) (t:=0) rfl) (t:=1) rfl) (t:=63) rfl)⟩,rfl⟩
      rw[hb] at h50
      have hc53:=hb;clear hb;refine St.go h50 <| Qh7 ⟨_,hg38,rfl,rfl⟩ rfl rfl <| Qdd 0 hW11 ⟨_,hg38,rfl,rfl⟩ rfl rfl rfl rfl <| sn ⟨_,hg38,rfl,rfl⟩ rfl rfl <| sm ⟨_,hg38,rfl,rfl⟩ rfl rfl <| fun a54 h54=>?_
      rcases Bool.eq_false_or_eq_true (!fn) with hb | hb
      ·rw[hb] at h54
       have hc55:fn=false:=by simpa using hb
       clear hb;exact St.go h54 <| QkP ⟨_,hg42,rfl,rfl⟩ rfl rfl <| QkO 1 hW11 ⟨_,hg42,rfl,rfl⟩ rfl rfl rfl rfl <| Ql6 ⟨_,hg42,rfl,rfl⟩ rfl rfl rfl <| sp ⟨_,hg38,rfl,rfl⟩ rfl rfl rfl <| spf trivial rfl rfl rfl <| sm trivial rfl rfl <| St.nil fun a56 h56=>hKC _ _ ⟨⟨xn != 0,by simp[hc53,hc55],(h56.keep (h56.keep (h56.keep (h56.keep (h56.keep (h56.keep (h56.keep (h56.keep h56.nil (t:=6) rfl) (t:=5) rfl) (t:=4) rfl) (t:=3) rfl) (t:=2) rfl) (t:=0) rfl) (t:=1) rfl) (t:=63) rfl)⟩,rfl⟩
      rw[hb] at h54
      have hc57:fn=true:=by simpa using hb
      clear hb;exact St.go h54 <| so hg42 rfl rfl rfl rfl <| so hg42 rfl rfl rfl rfl <| so hg42 rfl rfl rfl rfl <| spf ⟨_,hg38,rfl,rfl⟩ rfl rfl rfl <| spf trivial rfl rfl rfl <| sm trivial rfl rfl <| St.nil fun a58 h58=>hKC _ _ ⟨⟨false,by simp[hc53,hc57],(h58.keep (h58.keep (h58.keep (h58.keep (h58.keep (h58.keep (h58.keep (h58.keep h58.nil (t:=6) rfl) (t:=5) rfl) (t:=4) rfl) (t:=3) rfl) (t:=2) rfl) (t:=0) rfl) (t:=1) rfl) (t:=63) rfl)⟩,rfl⟩
     ·clear h50;rintro a59 _ ⟨⟨d5,hdd5,h59⟩,rfl⟩;replace hdd5:Hid _:=hdd5
      refine Qfv 11 (fun a' w'=>(∃ d6:Bool,d6=(d5||(!fr&&decide ((0:Int)<(rl:Int))))∧Fr 137 a' [(74,.bool d6),(1,.agg #[.int .i64 xop,.int .i64 xa,.int .i64 xb,.int .i64 xc,.int .i64 xk,.int .i64 xn,.slice ra rl rc,.slice aa al ac]),(0,.agg #[.slice am lm cm]),(2,.pointer (some ⟨B2,0,none⟩)),(3,.pointer (some ⟨B3,0,none⟩)),(4,.int .i64 0),(5,.pointer (some ⟨B10,0,none⟩)),(6,.bool true)])∧w11=w') (fun KC hKC=>?_) ?_
      ·rcases Bool.eq_false_or_eq_true d5 with hb | hb
       ·rw[hb] at h59
        have hc60:=hb;clear hb;exact St.go h59 <| so hg48 rfl rfl rfl rfl <| so hg48 rfl rfl rfl rfl <| so hg48 rfl rfl rfl rfl <| so hg48 rfl rfl rfl rfl <| so hg52 rfl rfl rfl rfl <| so hg52 rfl rfl rfl rfl <| so hg52 rfl rfl rfl rfl <| so hg52 rfl rfl rfl rfl <| so hg48 rfl rfl rfl rfl <| sp trivial rfl rfl rfl <| sm trivial rfl rfl <| St.nil fun a61 h61=>hKC _ _ ⟨⟨true,by simp[hc60],(h61.keep (h61.keep (h61.keep (h61.keep (h61.keep (h61.keep (h61.keep (h61.keep h61.nil (t:=6) rfl) (t:=5) rfl) (t:=4) rfl) (t:=3) rfl) (t:=2) rfl) (t:=0) rfl) (t:=1) rfl) (t:=74) rfl)⟩,rfl⟩
       rw[hb] at h59
       have hc62:=hb;clear hb;refine St.go h59 <| Qhj ⟨_,hg48,rfl,rfl⟩ rfl rfl <| Qdd 0 hW11 ⟨_,hg48,rfl,rfl⟩ rfl rfl rfl rfl <| sn ⟨_,hg48,rfl,rfl⟩ rfl rfl <| sm ⟨_,hg48,rfl,rfl⟩ rfl rfl <| fun a63 h63=>?_
       rcases Bool.eq_false_or_eq_true (!fr) with hb | hb
       ·rw[hb] at h63
        have hc64:fr=false:=by simpa using hb
        clear hb;exact St.go h63 <| Qjt ⟨_,hg52,rfl,rfl⟩ rfl rfl <| QeB 1 hW11 ⟨_,hg52,rfl,rfl⟩ rfl rfl rfl rfl <| Qe1 ⟨_,hg52,rfl,rfl⟩ rfl rfl <| sgt ⟨_,hg52,rfl,rfl⟩ rfl rfl rfl <| sp ⟨_,hg48,rfl,rfl⟩ rfl rfl rfl <| spf trivial rfl rfl rfl <| sm trivial rfl rfl <| St.nil fun a65 h65=>hKC _ _ ⟨⟨decide (0<(rl:Int)),by simp[hc62,hc64],(h65.keep (h65.keep (h65.keep (h65.keep (h65.keep (h65.keep (h65.keep (h65.keep h65.nil (t:=6) rfl) (t:=5) rfl) (t:=4) rfl) (t:=3) rfl) (t:=2) rfl) (t:=0) rfl) (t:=1) rfl) (t:=74) rfl)⟩,rfl⟩
       rw[hb] at h63
       have hc66:fr=true:=by simpa using hb
       clear hb;exact St.go h63 <| so hg52 rfl rfl rfl rfl <| so hg52 rfl rfl rfl rfl <| so hg52 rfl rfl rfl rfl <| so hg52 rfl rfl rfl rfl <| spf ⟨_,hg48,rfl,rfl⟩ rfl rfl rfl <| spf trivial rfl rfl rfl <| sm trivial rfl rfl <| St.nil fun a67 h67=>hKC _ _ ⟨⟨false,by simp[hc62,hc66],(h67.keep (h67.keep (h67.keep (h67.keep (h67.keep (h67.keep (h67.keep (h67.keep h67.nil (t:=6) rfl) (t:=5) rfl) (t:=4) rfl) (t:=3) rfl) (t:=2) rfl) (t:=0) rfl) (t:=1) rfl) (t:=74) rfl)⟩,rfl⟩
      ·clear h59;rintro a68 _ ⟨⟨d6,hdd6,h68⟩,rfl⟩;replace hdd6:Hid _:=hdd6
       refine Qfv 10 (fun a' w'=>(∃ d7:Bool,d7=(d6||(!fs&&decide ((0:Int)<(al:Int))))∧Fr 137 a' [(84,.bool d7),(1,.agg #[.int .i64 xop,.int .i64 xa,.int .i64 xb,.int .i64 xc,.int .i64 xk,.int .i64 xn,.slice ra rl rc,.slice aa al ac]),(0,.agg #[.slice am lm cm]),(2,.pointer (some ⟨B2,0,none⟩)),(3,.pointer (some ⟨B3,0,none⟩)),(4,.int .i64 0),(5,.pointer (some ⟨B10,0,none⟩)),(6,.bool true)])∧w11=w') (fun KC hKC=>?_) ?_
       ·rcases Bool.eq_false_or_eq_true d6 with hb | hb
        ·rw[hb] at h68
         have hc69:=hb;clear hb;exact St.go h68 <| so hg59 rfl rfl rfl rfl <| so hg59 rfl rfl rfl rfl <| so hg59 rfl rfl rfl rfl <| so hg59 rfl rfl rfl rfl <| so hg63 rfl rfl rfl rfl <| so hg63 rfl rfl rfl rfl <| so hg63 rfl rfl rfl rfl <| so hg63 rfl rfl rfl rfl <| so hg59 rfl rfl rfl rfl <| sp trivial rfl rfl rfl <| St.nil fun a70 h70=>hKC _ _ ⟨⟨true,by simp[hc69],(h70.keep (h70.keep (h70.keep (h70.keep (h70.keep (h70.keep (h70.keep (h70.keep h70.nil (t:=6) rfl) (t:=5) rfl) (t:=4) rfl) (t:=3) rfl) (t:=2) rfl) (t:=0) rfl) (t:=1) rfl) (t:=84) rfl)⟩,rfl⟩
        rw[hb] at h68
        have hc71:=hb;clear hb;refine St.go h68 <| Qho ⟨_,hg59,rfl,rfl⟩ rfl rfl <| Qdd 0 hW11 ⟨_,hg59,rfl,rfl⟩ rfl rfl rfl rfl <| sn ⟨_,hg59,rfl,rfl⟩ rfl rfl <| sm ⟨_,hg59,rfl,rfl⟩ rfl rfl <| fun a72 h72=>?_
        rcases Bool.eq_false_or_eq_true (!fs) with hb | hb
        ·rw[hb] at h72
         have hc73:fs=false:=by simpa using hb
         clear hb;exact St.go h72 <| Qgm ⟨_,hg63,rfl,rfl⟩ rfl rfl <| QeB 1 hW11 ⟨_,hg63,rfl,rfl⟩ rfl rfl rfl rfl <| Qe1 ⟨_,hg63,rfl,rfl⟩ rfl rfl <| sgt ⟨_,hg63,rfl,rfl⟩ rfl rfl rfl <| sp ⟨_,hg59,rfl,rfl⟩ rfl rfl rfl <| spf trivial rfl rfl rfl <| St.nil fun a74 h74=>hKC _ _ ⟨⟨decide (0<(al:Int)),by simp[hc71,hc73],(h74.keep (h74.keep (h74.keep (h74.keep (h74.keep (h74.keep (h74.keep (h74.keep h74.nil (t:=6) rfl) (t:=5) rfl) (t:=4) rfl) (t:=3) rfl) (t:=2) rfl) (t:=0) rfl) (t:=1) rfl) (t:=84) rfl)⟩,rfl⟩
        rw[hb] at h72
        have hc75:fs=true:=by simpa using hb
        clear hb;exact St.go h72 <| so hg63 rfl rfl rfl rfl <| so hg63 rfl rfl rfl rfl <| so hg63 rfl rfl rfl rfl <| so hg63 rfl rfl rfl rfl <| spf ⟨_,hg59,rfl,rfl⟩ rfl rfl rfl <| spf trivial rfl rfl rfl <| St.nil fun a76 h76=>hKC _ _ ⟨⟨false,by simp[hc71,hc75],(h76.keep (h76.keep (h76.keep (h76.keep (h76.keep (h76.keep (h76.keep (h76.keep h76.nil (t:=6) rfl) (t:=5) rfl) (t:=4) rfl) (t:=3) rfl) (t:=2) rfl) (t:=0) rfl) (t:=1) rfl) (t:=84) rfl)⟩,rfl⟩
       ·clear h68;rintro a77 _ ⟨⟨d7,hdd7,h77⟩,rfl⟩;replace hdd7:Hid _:=hdd7
        refine wpList_nil <| hK17 _ _ <| QE (t:=84) h77 rfl (fun hb=>?_) (fun hb=>?_)
        ·have hc78:=hb
         clear hb;refine wp_seq_k fun K79 hK79=>rg h77 fun ops=>sa trivial rfl rfl <| St.nil fun a80 h80=>hK79 _ _ ?_
         refine wp_ret ?_;with_reducible repeat first | refine Qd ?_ | refine Qc ?_
         have e7:=QT hop hdd1.out hdd2.out hdd3.out hdd4.out hdd5.out hdd6.out hdd7.out (lm:=lm);have R:QM lm xop xa xb xc xk xn rl al=4:=by rw[e7];simp[hc78]
         exact Qu (t:=4) h80 rfl rfl ⟨by rw[R],hW11.bel⟩
        have hc81:=hb;clear hb;refine wp_skip <| hK16 _ _ <| wp_seq_k fun K82 hK82=>wp_seq_k fun K83 hK83=>rg h77 fun ops=>Qio trivial rfl rfl <| ZK 1 hW11 trivial rfl rfl rfl rfl <| St.nil fun a84 h84=>hK83 _ _ <| wp_block <| wp_seq_k fun K85 hK85=>rg h84 fun ops=>seq trivial rfl rfl rfl <| sa trivial rfl rfl <| St.nil fun a86 h86=>hK85 _ _ <| QE (t:=87) h86 rfl (fun hb=>?_) (fun hb=>?_)
        ·have h9:xop=2:=eq_of_beq hb
         have hc87:Hid (xop=2):=h9;clear h9;clear hb;refine wp_seq_k fun K88 hK88=>Zv <| fun ops hops=>?_
         have hg3:(ops[3]?).bind (fun o:Oper=>o.dst)=some 92:=hops 3;clear hops;refine St.go h86 <| QbP trivial rfl rfl <| ZK 1 hW11 trivial rfl rfl rfl rfl <| slt trivial rfl rfl rfl <| sm trivial rfl rfl <| fun a89 h89=>?_
         rcases Bool.eq_false_or_eq_true (decide (xk<1)) with hb | hb
         ·rw[hb] at h89
          have hc90:xk<1:=of_decide_eq_true hb;clear hb;refine St.go h89 <| so hg3 rfl rfl rfl rfl <| so hg3 rfl rfl rfl rfl <| so hg3 rfl rfl rfl rfl <| sp trivial rfl rfl rfl <| St.nil fun a91 h91=>hK88 _ _ <| QaW (t:=96) h91 rfl <| wp_seq_k fun K92 hK92=>rg h91 fun ops=>sa trivial rfl rfl <| St.nil fun a93 h93=>hK92 _ _ ?_
          refine wp_ret ?_;with_reducible repeat first | refine Qd ?_ | refine Qc ?_
          have e7:=QT hop hdd1.out hdd2.out hdd3.out hdd4.out hdd5.out hdd6.out hdd7.out (lm:=lm);have R:QM lm xop xa xb xc xk xn rl al=1:=by rw[e7];simp[hc81,hc87.out,hc90]
          exact Qu (t:=4) h93 rfl rfl ⟨by rw[R],hW11.bel⟩
         rw[hb] at h89
         have hc94:¬ (xk<1):=of_decide_eq_false hb;clear hb;refine St.go h89 <| QbP ⟨_,hg3,rfl,rfl⟩ rfl rfl <| ZK 1 hW11 ⟨_,hg3,rfl,rfl⟩ rfl rfl rfl rfl <| sgt ⟨_,hg3,rfl,rfl⟩ rfl rfl rfl <| spf trivial rfl rfl rfl <| St.nil fun a95 h95=>hK88 _ _ <| QE (t:=96) h95 rfl (fun hb=>?_) (fun hb=>?_)
         ·have hc96:9<xk:=of_decide_eq_true hb
          clear hb;refine wp_seq_k fun K97 hK97=>rg h95 fun ops=>sa trivial rfl rfl <| St.nil fun a98 h98=>hK97 _ _ ?_
          refine wp_ret ?_;with_reducible repeat first | refine Qd ?_ | refine Qc ?_
          have e7:=QT hop hdd1.out hdd2.out hdd3.out hdd4.out hdd5.out hdd6.out hdd7.out (lm:=lm);have R:QM lm xop xa xb xc xk xn rl al=1:=by rw[e7];simp[hc81,hc87.out,hc94,hc96]
          exact Qu (t:=4) h98 rfl rfl ⟨by rw[R],hW11.bel⟩
         have hc99:¬ (9<xk):=of_decide_eq_false hb;clear hb;refine wp_skip <| hK82 _ _ <| wp_seq_k fun K100 hK100=>rg h95 fun ops=>sa trivial rfl rfl <| St.nil fun a101 h101=>hK100 _ _ ?_
         refine wp_ret ?_;with_reducible repeat first | refine Qd ?_ | refine Qc ?_
         have e7:=QT hop hdd1.out hdd2.out hdd3.out hdd4.out hdd5.out hdd6.out hdd7.out (lm:=lm);have R:QM lm xop xa xb xc xk xn rl al=0:=by rw[e7];simp[hc81,hc87.out,hc94,hc99]
         exact Qu (t:=4) h101 rfl rfl ⟨by rw[R],hW11.bel⟩
        have h9:¬ xop=2:=ne_of_beq_false hb;have hc102:¬ xop=2:=h9;clear h9;clear hb;refine wp_seq_k fun K103 hK103=>rg h86 fun ops=>seq trivial rfl rfl rfl <| sa trivial rfl rfl <| St.nil fun a104 h104=>hK103 _ _ <| QE (t:=97) h104 rfl (fun hb=>?_) (fun hb=>?_)
        ·have h9:xop=5:=eq_of_beq hb
         have hc105:Hid (xop=5):=h9;clear h9;clear hb;refine wp_seq_k fun K106 hK106=>rg h104 fun ops=>Qgm trivial rfl rfl <| QeB 1 hW11 trivial rfl rfl rfl rfl <| Qe1 trivial rfl rfl <| sgt trivial rfl rfl rfl <| St.nil fun a107 h107=>hK106 _ _ <| QE (t:=102) h107 rfl (fun hb=>?_) (fun hb=>?_)
         ·have hc108:8<al:=by have:=of_decide_eq_true hb;omega
          clear hb;refine wp_seq_k fun K109 hK109=>rg h107 fun ops=>sa trivial rfl rfl <| St.nil fun a110 h110=>hK109 _ _ ?_
          refine wp_ret ?_;with_reducible repeat first | refine Qd ?_ | refine Qc ?_
          have e7:=QT hop hdd1.out hdd2.out hdd3.out hdd4.out hdd5.out hdd6.out hdd7.out (lm:=lm);have R:QM lm xop xa xb xc xk xn rl al=2:=by rw[e7];simp[hc81,hc102,hc105.out,hc108]
          exact Qu (t:=4) h110 rfl rfl ⟨by rw[R],hW11.bel⟩
         have hc111:¬ (8<al):=by have:=of_decide_eq_false hb;omega
         clear hb;refine wp_skip <| hK82 _ _ <| wp_seq_k fun K112 hK112=>rg h107 fun ops=>sa trivial rfl rfl <| St.nil fun a113 h113=>hK112 _ _ ?_
         refine wp_ret ?_;with_reducible repeat first | refine Qd ?_ | refine Qc ?_
         have e7:=QT hop hdd1.out hdd2.out hdd3.out hdd4.out hdd5.out hdd6.out hdd7.out (lm:=lm);have R:QM lm xop xa xb xc xk xn rl al=0:=by rw[e7];simp[hc81,hc102,hc105.out,hc111]
         exact Qu (t:=4) h113 rfl rfl ⟨by rw[R],hW11.bel⟩
        have h9:¬ xop=5:=ne_of_beq_false hb;have hc114:¬ xop=5:=h9;clear h9;clear hb;refine wp_seq_k fun K115 hK115=>wp_seq_k fun K116 hK116=>rg h104 fun ops=>seq trivial rfl rfl rfl <| sa trivial rfl rfl <| St.nil fun a117 h117=>hK116 _ _ <| QE (t:=103) h117 rfl (fun hb=>?_) (fun hb=>?_)
        ·rw[hb] at h117
         have h9:xop=6:=eq_of_beq hb;have hc118:Hid (xop=6):=h9;clear h9;clear hb;refine wp_skip <| hK115 _ _ <| QaW (t:=103) h117 rfl <| wp_seq_k fun K119 hK119=>Zv <| fun ops hops=>?_
         have hg3:(ops[3]?).bind (fun o:Oper=>o.dst)=some 109:=hops 3;clear hops;refine St.go h117 <| QbP trivial rfl rfl <| ZK 1 hW11 trivial rfl rfl rfl rfl <| slt trivial rfl rfl rfl <| sm trivial rfl rfl <| fun a120 h120=>?_
         rcases Bool.eq_false_or_eq_true (decide (xk<0)) with hb | hb
         ·rw[hb] at h120
          have hc121:xk<0:=of_decide_eq_true hb;clear hb;refine St.go h120 <| so hg3 rfl rfl rfl rfl <| so hg3 rfl rfl rfl rfl <| so hg3 rfl rfl rfl rfl <| sp trivial rfl rfl rfl <| St.nil fun a122 h122=>hK119 _ _ <| QaW (t:=113) h122 rfl <| wp_seq_k fun K123 hK123=>rg h122 fun ops=>sa trivial rfl rfl <| St.nil fun a124 h124=>hK123 _ _ ?_
          refine wp_ret ?_;with_reducible repeat first | refine Qd ?_ | refine Qc ?_
          have e7:=QT hop hdd1.out hdd2.out hdd3.out hdd4.out hdd5.out hdd6.out hdd7.out (lm:=lm);have R:QM lm xop xa xb xc xk xn rl al=1:=by rw[e7];simp[hc81,hc102,hc114,hc118.out,hc121]
          exact Qu (t:=4) h124 rfl rfl ⟨by rw[R],hW11.bel⟩
         rw[hb] at h120
         have hc125:¬ (xk<0):=of_decide_eq_false hb;clear hb;refine St.go h120 <| QbP ⟨_,hg3,rfl,rfl⟩ rfl rfl <| ZK 1 hW11 ⟨_,hg3,rfl,rfl⟩ rfl rfl rfl rfl <| sgt ⟨_,hg3,rfl,rfl⟩ rfl rfl rfl <| spf trivial rfl rfl rfl <| St.nil fun a126 h126=>hK119 _ _ <| QE (t:=113) h126 rfl (fun hb=>?_) (fun hb=>?_)
         ·have hc127:7<xk:=of_decide_eq_true hb
          clear hb;refine wp_seq_k fun K128 hK128=>rg h126 fun ops=>sa trivial rfl rfl <| St.nil fun a129 h129=>hK128 _ _ ?_
          refine wp_ret ?_;with_reducible repeat first | refine Qd ?_ | refine Qc ?_
          have e7:=QT hop hdd1.out hdd2.out hdd3.out hdd4.out hdd5.out hdd6.out hdd7.out (lm:=lm);have R:QM lm xop xa xb xc xk xn rl al=1:=by rw[e7];simp[hc81,hc102,hc114,hc118.out,hc125,hc127]
          exact Qu (t:=4) h129 rfl rfl ⟨by rw[R],hW11.bel⟩
         have hc130:¬ (7<xk):=of_decide_eq_false hb;clear hb;refine wp_skip <| hK82 _ _ <| wp_seq_k fun K131 hK131=>rg h126 fun ops=>sa trivial rfl rfl <| St.nil fun a132 h132=>hK131 _ _ ?_
         refine wp_ret ?_;with_reducible repeat first | refine Qd ?_ | refine Qc ?_
         have e7:=QT hop hdd1.out hdd2.out hdd3.out hdd4.out hdd5.out hdd6.out hdd7.out (lm:=lm);have R:QM lm xop xa xb xc xk xn rl al=0:=by rw[e7];simp[hc81,hc102,hc114,hc118.out,hc125,hc130]
         exact Qu (t:=4) h132 rfl rfl ⟨by rw[R],hW11.bel⟩
        rw[hb] at h117
        have h9:¬ xop=6:=ne_of_beq_false hb;have hc133:¬ xop=6:=h9;clear h9;clear hb;refine rg h117 fun ops=>seq trivial rfl rfl rfl <| sa trivial rfl rfl <| St.nil fun a134 h134=>hK115 _ _ <| QE (t:=103) h134 rfl (fun hb=>?_) (fun hb=>?_)
        ·rw[hb] at h134
         have h9:xop=7:=eq_of_beq hb;have hc135:Hid (xop=7):=h9;clear h9;clear hb;refine wp_seq_k fun K136 hK136=>Zv <| fun ops hops=>?_
         have hg3:(ops[3]?).bind (fun o:Oper=>o.dst)=some 109:=hops 3;clear hops;refine St.go h134 <| QbP trivial rfl rfl <| ZK 1 hW11 trivial rfl rfl rfl rfl <| slt trivial rfl rfl rfl <| sm trivial rfl rfl <| fun a137 h137=>?_
         rcases Bool.eq_false_or_eq_true (decide (xk<0)) with hb | hb
         ·rw[hb] at h137
          have hc138:xk<0:=of_decide_eq_true hb;clear hb;refine St.go h137 <| so hg3 rfl rfl rfl rfl <| so hg3 rfl rfl rfl rfl <| so hg3 rfl rfl rfl rfl <| sp trivial rfl rfl rfl <| St.nil fun a139 h139=>hK136 _ _ <| QaW (t:=113) h139 rfl <| wp_seq_k fun K140 hK140=>rg h139 fun ops=>sa trivial rfl rfl <| St.nil fun a141 h141=>hK140 _ _ ?_
          refine wp_ret ?_;with_reducible repeat first | refine Qd ?_ | refine Qc ?_
          have e7:=QT hop hdd1.out hdd2.out hdd3.out hdd4.out hdd5.out hdd6.out hdd7.out (lm:=lm);have R:QM lm xop xa xb xc xk xn rl al=1:=by rw[e7];simp[hc81,hc102,hc114,hc133,hc135.out,hc138]
          exact Qu (t:=4) h141 rfl rfl ⟨by rw[R],hW11.bel⟩
         rw[hb] at h137
         have hc142:¬ (xk<0):=of_decide_eq_false hb;clear hb;refine St.go h137 <| QbP ⟨_,hg3,rfl,rfl⟩ rfl rfl <| ZK 1 hW11 ⟨_,hg3,rfl,rfl⟩ rfl rfl rfl rfl <| sgt ⟨_,hg3,rfl,rfl⟩ rfl rfl rfl <| spf trivial rfl rfl rfl <| St.nil fun a143 h143=>hK136 _ _ <| QE (t:=113) h143 rfl (fun hb=>?_) (fun hb=>?_)
         ·have hc144:7<xk:=of_decide_eq_true hb
          clear hb;refine wp_seq_k fun K145 hK145=>rg h143 fun ops=>sa trivial rfl rfl <| St.nil fun a146 h146=>hK145 _ _ ?_
          refine wp_ret ?_;with_reducible repeat first | refine Qd ?_ | refine Qc ?_
          have e7:=QT hop hdd1.out hdd2.out hdd3.out hdd4.out hdd5.out hdd6.out hdd7.out (lm:=lm);have R:QM lm xop xa xb xc xk xn rl al=1:=by rw[e7];simp[hc81,hc102,hc114,hc133,hc135.out,hc142,hc144]
          exact Qu (t:=4) h146 rfl rfl ⟨by rw[R],hW11.bel⟩
         have hc147:¬ (7<xk):=of_decide_eq_false hb;clear hb;refine wp_skip <| hK82 _ _ <| wp_seq_k fun K148 hK148=>rg h143 fun ops=>sa trivial rfl rfl <| St.nil fun a149 h149=>hK148 _ _ ?_
         refine wp_ret ?_;with_reducible repeat first | refine Qd ?_ | refine Qc ?_
         have e7:=QT hop hdd1.out hdd2.out hdd3.out hdd4.out hdd5.out hdd6.out hdd7.out (lm:=lm);have R:QM lm xop xa xb xc xk xn rl al=0:=by rw[e7];simp[hc81,hc102,hc114,hc133,hc135.out,hc142,hc147]
         exact Qu (t:=4) h149 rfl rfl ⟨by rw[R],hW11.bel⟩
        rw[hb] at h134
        have h9:¬ xop=7:=ne_of_beq_false hb;have hc150:¬ xop=7:=h9;clear h9;clear hb;refine wp_seq_k fun K151 hK151=>rg h134 fun ops=>seq trivial rfl rfl rfl <| sa trivial rfl rfl <| St.nil fun a152 h152=>hK151 _ _ <| QE (t:=114) h152 rfl (fun hb=>?_) (fun hb=>?_)
        ·have h9:xop=14:=eq_of_beq hb
         have hc153:Hid (xop=14):=h9;clear h9;clear hb;refine wp_seq_k fun K154 hK154=>wp_seq_k fun K155 hK155=>Zv <| fun ops hops=>?_
         have hg3:(ops[3]?).bind (fun o:Oper=>o.dst)=some 119:=hops 3;clear hops;refine St.go h152 <| QbP trivial rfl rfl <| ZK 1 hW11 trivial rfl rfl rfl rfl <| slt trivial rfl rfl rfl <| sm trivial rfl rfl <| fun a156 h156=>?_
         rcases Bool.eq_false_or_eq_true (decide (xk<0)) with hb | hb
         ·rw[hb] at h156
          have hc157:xk<0:=of_decide_eq_true hb;clear hb;refine St.go h156 <| so hg3 rfl rfl rfl rfl <| so hg3 rfl rfl rfl rfl <| so hg3 rfl rfl rfl rfl <| so hg3 rfl rfl rfl rfl <| so hg3 rfl rfl rfl rfl <| so hg3 rfl rfl rfl rfl <| sp trivial rfl rfl rfl <| St.nil fun a158 h158=>hK155 _ _ <| QaW (t:=126) h158 rfl <| wp_seq_k fun K159 hK159=>rg h158 fun ops=>sa trivial rfl rfl <| St.nil fun a160 h160=>hK159 _ _ ?_
          refine wp_ret ?_;with_reducible repeat first | refine Qd ?_ | refine Qc ?_
          have e7:=QT hop hdd1.out hdd2.out hdd3.out hdd4.out hdd5.out hdd6.out hdd7.out (lm:=lm);have R:QM lm xop xa xb xc xk xn rl al=1:=by rw[e7];simp[hc81,hc102,hc114,hc133,hc150,hc153.out,hc157]
          exact Qu (t:=4) h160 rfl rfl ⟨by rw[R],hW11.bel⟩
         rw[hb] at h156
         have hc161:¬ (xk<0):=of_decide_eq_false hb;clear hb;refine St.go h156 <| QbP ⟨_,hg3,rfl,rfl⟩ rfl rfl <| ZK 1 hW11 ⟨_,hg3,rfl,rfl⟩ rfl rfl rfl rfl <| Qbg ⟨_,hg3,rfl,rfl⟩ rfl rfl <| Qc0 2 hW11 ⟨_,hg3,rfl,rfl⟩ rfl rfl rfl rfl <| Qcc ⟨_,hg3,rfl,rfl⟩ rfl rfl <| sge ⟨_,hg3,rfl,rfl⟩ rfl rfl rfl <| spf trivial rfl rfl rfl <| St.nil fun a162 h162=>hK155 _ _ <| QE (t:=126) h162 rfl (fun hb=>?_) (fun hb=>?_)
         ·have hc163:(lm:Int)≤xk:=of_decide_eq_true hb
          clear hb;refine wp_seq_k fun K164 hK164=>rg h162 fun ops=>sa trivial rfl rfl <| St.nil fun a165 h165=>hK164 _ _ ?_
          refine wp_ret ?_;with_reducible repeat first | refine Qd ?_ | refine Qc ?_
          have e7:=QT hop hdd1.out hdd2.out hdd3.out hdd4.out hdd5.out hdd6.out hdd7.out (lm:=lm);have R:QM lm xop xa xb xc xk xn rl al=1:=by rw[e7];simp[hc81,hc102,hc114,hc133,hc150,hc153.out,hc161,hc163]
          exact Qu (t:=4) h165 rfl rfl ⟨by rw[R],hW11.bel⟩
         have hc166:¬ ((lm:Int)≤xk):=of_decide_eq_false hb;clear hb;refine wp_skip <| hK154 _ _ <| wp_seq_k fun K167 hK167=>Zv <| fun ops hops=>?_
         have hg4:(ops[4]?).bind (fun o:Oper=>o.dst)=some 131:=hops 4;clear hops;refine St.go h162 <| Qjt trivial rfl rfl <| QeB 1 hW11 trivial rfl rfl rfl rfl <| Qe1 trivial rfl rfl <| sgt trivial rfl rfl rfl <| sm trivial rfl rfl <| fun a168 h168=>?_
         rcases Bool.eq_false_or_eq_true (decide (6<(rl:Int))) with hb | hb
         ·rw[hb] at h168
          have hc169:6<rl:=by have:=of_decide_eq_true hb;omega
          clear hb;refine St.go h168 <| so hg4 rfl rfl rfl rfl <| so hg4 rfl rfl rfl rfl <| so hg4 rfl rfl rfl rfl <| so hg4 rfl rfl rfl rfl <| sp trivial rfl rfl rfl <| St.nil fun a170 h170=>hK167 _ _ <| QaW (t:=136) h170 rfl <| wp_seq_k fun K171 hK171=>rg h170 fun ops=>sa trivial rfl rfl <| St.nil fun a172 h172=>hK171 _ _ ?_
          refine wp_ret ?_;with_reducible repeat first | refine Qd ?_ | refine Qc ?_
          have e7:=QT hop hdd1.out hdd2.out hdd3.out hdd4.out hdd5.out hdd6.out hdd7.out (lm:=lm);have R:QM lm xop xa xb xc xk xn rl al=2:=by rw[e7];simp[hc81,hc102,hc114,hc133,hc150,hc153.out,hc161,hc166,hc169]
          exact Qu (t:=4) h172 rfl rfl ⟨by rw[R],hW11.bel⟩
         rw[hb] at h168
         have hc173:¬ (6<rl):=by have:=of_decide_eq_false hb;omega
         clear hb;refine St.go h168 <| Qgm ⟨_,hg4,rfl,rfl⟩ rfl rfl <| QeB 1 hW11 ⟨_,hg4,rfl,rfl⟩ rfl rfl rfl rfl <| Qe1 ⟨_,hg4,rfl,rfl⟩ rfl rfl <| sgt ⟨_,hg4,rfl,rfl⟩ rfl rfl rfl <| spf trivial rfl rfl rfl <| St.nil fun a174 h174=>hK167 _ _ <| QE (t:=136) h174 rfl (fun hb=>?_) (fun hb=>?_)
         ·have hc175:8<al:=by have:=of_decide_eq_true hb;omega
          clear hb;refine wp_seq_k fun K176 hK176=>rg h174 fun ops=>sa trivial rfl rfl <| St.nil fun a177 h177=>hK176 _ _ ?_
          refine wp_ret ?_;with_reducible repeat first | refine Qd ?_ | refine Qc ?_
          have e7:=QT hop hdd1.out hdd2.out hdd3.out hdd4.out hdd5.out hdd6.out hdd7.out (lm:=lm);have R:QM lm xop xa xb xc xk xn rl al=2:=by rw[e7];simp[hc81,hc102,hc114,hc133,hc150,hc153.out,hc161,hc166,hc173,hc175]
          exact Qu (t:=4) h177 rfl rfl ⟨by rw[R],hW11.bel⟩
         have hc178:¬ (8<al):=by have:=of_decide_eq_false hb;omega
         clear hb;refine wp_skip <| hK82 _ _ <| wp_seq_k fun K179 hK179=>rg h174 fun ops=>sa trivial rfl rfl <| St.nil fun a180 h180=>hK179 _ _ ?_
         refine wp_ret ?_;with_reducible repeat first | refine Qd ?_ | refine Qc ?_
         have e7:=QT hop hdd1.out hdd2.out hdd3.out hdd4.out hdd5.out hdd6.out hdd7.out (lm:=lm);have R:QM lm xop xa xb xc xk xn rl al=0:=by rw[e7];simp[hc81,hc102,hc114,hc133,hc150,hc153.out,hc161,hc166,hc173,hc178]
         exact Qu (t:=4) h180 rfl rfl ⟨by rw[R],hW11.bel⟩
        have h9:¬ xop=14:=ne_of_beq_false hb;have hc181:¬ xop=14:=h9;clear h9;clear hb;refine wp_skip <| hK82 _ _ <| wp_seq_k fun K182 hK182=>rg h152 fun ops=>sa trivial rfl rfl <| St.nil fun a183 h183=>hK182 _ _ ?_
        refine wp_ret ?_;with_reducible repeat first | refine Qd ?_ | refine Qc ?_
        have e7:=QT hop hdd1.out hdd2.out hdd3.out hdd4.out hdd5.out hdd6.out hdd7.out (lm:=lm);have R:QM lm xop xa xb xc xk xn rl al=0:=by rw[e7];simp[hc81,hc102,hc114,hc133,hc150,hc181]
        exact Qu (t:=4) h183 rfl rfl ⟨by rw[R],hW11.bel⟩
theorem QkQ {xop:Int}(hop:QD xop=none) (xa xb xc xk xn:Int) (am ra aa:Option Addr) (lm cm rl rc al ac:Nat) (w:World) :
 Rd prog 72 #[.agg #[.slice am lm cm],.agg #[.int .i64 xop,.int .i64 xa,.int .i64 xb,.int .i64 xc,.int .i64 xk,.int .i64 xn,.slice ra rl rc,.slice aa al ac]] w (.int .i64 (QM lm xop xa xb xc xk xn rl al)):=by
 refine QC (n:=137) func72 rfl rfl rfl <| fun a hF=>?_
 have hW:=Wd.start w;replace hF:Fr 137 a [(0,.agg #[.slice am lm cm]),(1,.agg #[.int .i64 xop,.int .i64 xa,.int .i64 xb,.int .i64 xc,.int .i64 xk,.int .i64 xn,.slice ra rl rc,.slice aa al ac])]:=hF;refine wp_seq_k fun K1 hK1=>rg hF fun ops=>sB hW trivial rfl rfl <| fun w2 B2 hW2 hN=>sB hW2 trivial rfl rfl <| fun w3 B3 hW3 hN=>sa trivial rfl rfl <| St.nil fun a4 h4=>hK1 _ _ <| wp_seq_k fun K5 hK5=>rg h4 fun ops=>Qio trivial rfl rfl <| ZK 0 hW3 trivial rfl rfl rfl rfl <| QjB cf92 hW3 (QgA hop w3) trivial rfl rfl <| fun w6 hW6=>sm trivial rfl rfl <| fun a7 h7=>Q7 (t:=11) (v:=.agg #[.bool false,.bool false,.bool false,.bool false,.bool false,.bool false,.bool false]) (w':=w6) h7 rfl rfl rfl (fun K hK=>?_) ?_
 ·have k0:a7.tmps.getD 7 undef=.tuple #[.agg #[.bool false,.bool false,.bool false,.bool false,.bool false,.bool false,.bool false],.bool false]:=h7.sl 7 _ rfl
  go_simp;exact hK
 clear h7;intro a8 hF8;refine Q7 (t:=12) (v:=.bool false) (w':=w6) hF8 rfl rfl rfl (fun K hK=>?_) ?_
 ·have k0:a8.tmps.getD 7 undef=.tuple #[.agg #[.bool false,.bool false,.bool false,.bool false,.bool false,.bool false,.bool false],.bool false]:=hF8.sl 7 _ rfl
  go_simp;exact hK
 clear hF8;intro a9 hF9;refine St.go hF9 <| Qgg hW6 trivial rfl <| fun w10 B10 hW10 hN=>sT 0 hW10 rfl rfl infFields rfl rfl rfl <| fun w11 hW11=>sa trivial rfl rfl <| St.nil fun a12 h12=>hK5 _ _ <| wp_seq_k fun K13 hK13=>wp_seq_k fun K14 hK14=>rg h12 fun ops=>sm trivial rfl rfl <| sn trivial rfl rfl <| St.nil fun a15 h15=>hK14 _ _ <| QaW (t:=14) h15 rfl <| wp_seq_k fun K16 hK16=>rg h15 fun ops=>sa trivial rfl rfl <| St.nil fun a17 h17=>hK16 _ _ ?_
 refine wp_ret ?_;with_reducible repeat first | refine Qd ?_ | refine Qc ?_
 have R:QM lm xop xa xb xc xk xn rl al=3:=by simp[QM,hop]
 exact Qu (t:=4) h17 rfl rfl ⟨by rw[R],hW11.bel⟩
theorem QcW (funcs:Nat) (x:Qy) (i:IP) (am:Option Addr) (cm:Nat) (w:World) :
 Rd prog 72 #[.agg #[.slice am funcs cm],.agg #[.int .i64 x.op,.int .i64 x.a,.int .i64 x.b,.int .i64 x.c,.int .i64 x.k,.int .i64 x.n,.slice i.pR x.regs.length i.cR,.slice i.pA x.args.length i.cA]] w (.int .i64 (x.form funcs)):=by
 rw[Qy.form_eq]
 cases h:QD x.op with
 | none=>exact QkQ h _ _ _ _ _ _ _ _ _ _ _ _ _ _ _
 | some p=>obtain⟨a,b,c,k,n,r,s⟩:=p;exact QiE h _ _ _ _ _ _ _ _ _ _ _ _ _ _ _
theorem kUnderI:∃ fs,prog.underlying 59=some (.struct fs):=⟨_,underlying59⟩
def Qlo (X Z N c g o nc cc q:Nat) (p:Option Addr) (z:Qy) (i3:IP) (t:Tmp) (v:Value) (w:World):Prop :=
 v=(([(3,.pointer (some ⟨X,0,none⟩)),(8,.pointer (some ⟨Z,0,none⟩)),(10,.int .i64 (q:Int)),(85,.agg #[.slice p N c]),(86,.pointer (some ⟨Z,2,none⟩)),(87,.slice (some ⟨g,o,none⟩) nc cc),(88,.int .i64 (q:Int)),(89,.pointer (some ⟨g,o+q*8,none⟩)),(90,.agg #[.int .i64 z.op,.int .i64 z.a,.int .i64 z.b,.int .i64 z.c,.int .i64 z.k,.int .i64 z.n,.slice i3.pR z.regs.length i3.cR,.slice i3.pA z.args.length i3.cA]),(91,.int .i64 (z.form N)),(11,.int .i64 (z.form N))]:List (Tmp × Value)).lookup t).getD undef
theorem QlU {w6:World}{X Z N c g o nc cc q:Nat}{p:Option Addr}{z:Qy}{i3:IP}(HR:Hid (w6.rangeAt g (o+q*8) [.int .i64 z.op,.int .i64 z.a,.int .i64 z.b,.int .i64 z.c,.int .i64 z.k,.int .i64 z.n,.slice i3.pR z.regs.length i3.cR,.slice i3.pA z.args.length i3.cA])) (q0:w6.cell? ⟨X,0,none⟩=some (.slice p N c)) (q2:w6.cell? ⟨Z,2,none⟩=some (.slice (some ⟨g,o,none⟩) nc cc)) (hq:(q:Int)<nc)
 (a:Act) (m:Nat) (hn:a.tmps.size=m) (hn':112≤m) (h3:a.tmps.getD 3 undef=.pointer (some ⟨X,0,none⟩)) (h8:a.tmps.getD 8 undef=.pointer (some ⟨Z,0,none⟩)) (h10:a.tmps.getD 10 undef=.int .i64 (q:Int)) :
 Code.wp prog ((Tryz.f66.body.bind (Qj 15)).getD .skip) (fun e a' w'=>e=.normal∧∃ vs,a'=Q5 a vs [85,86,87,88,89,90,91,11]∧vs 11=.int .i64 (z.form N)∧Below w6.heap.size w6 w') a w6:=by
 conv=>arg 2;whnf
 refine Qw (Qlo X Z N c g o nc cc q p z i3) (fun w=>Below w6.heap.size w6 w) (fun w w'=>Below w.heap.size w w') (outs:=[3,8,10]) (gs:=[]) (bs:=[true,true,true,true,true,true,true,true]) (by kernel_rfl) (n:=112) hn hn' (by kernel_rfl) ?hR ?hG (Qj8 Zr 1) ⟨h3,h8,h10,trivial⟩ ?hA ?hend
 case hR=>exact fun t v w w' _ h=>h
 case hG=>exact trivial
 case hend=>exact fun vs w' hW hk=>⟨rfl,vs,rfl,hk 11 (by kernel_rfl),hW⟩
 case hA =>
  iterate 4
   refine⟨fun a w hW hk K hK=>?_,?_⟩
   ·obtain⟨k0,-⟩:=hk
    conv at k0=>whnf;rhs;whnf
    have u0:=Qi q0 hW;have u1:=Qi q2 hW;go_simp;exact hK _ _ Zr hW rfl
  refine⟨fun a w hW hk K hK=>?_,?_⟩
  ·obtain⟨k0,k1,-⟩:=hk
   conv at k0=>whnf;rhs;whnf
   conv at k1=>whnf;rhs;whnf
   go_simp;exact hK _ _ Zr hW rfl
  refine⟨fun a w hW hk K hK=>?_,?_⟩
  ·obtain⟨k0,-⟩:=hk
   conv at k0=>whnf;rhs;whnf
   obtain⟨fs,hfs⟩:=kUnderI
   refine wp_load_mid 59 (.tmp 89) rfl g (o+q*8) k0 [.int .i64 z.op,.int .i64 z.a,.int .i64 z.b,.int .i64 z.c,.int .i64 z.k,.int .i64 z.n,.slice i3.pR z.regs.length i3.cR,.slice i3.pA z.args.length i3.cA] _ (fun j v hj=>Qi (HR.out j v hj) hW) hfs rfl pSizeN ?_;exact hK _ _ Zr hW rfl
  refine⟨fun a w hW hk K hK=>?_,?_⟩
  ·obtain⟨k0,k1,-⟩:=hk
   conv at k0=>whnf;rhs;whnf
   conv at k1=>whnf;rhs;whnf
   go_simp;refine Calls.mono (QcW N z i3 p c w) ?_;rintro r7 w7 ⟨rfl,b7⟩;go_simp;exact hK _ _ b7 (hW.trans (b7.mono hW.size)) rfl
  refine⟨fun a w hW hk K hK=>?_,?_⟩
  ·obtain⟨k0,-⟩:=hk
   conv at k0=>whnf;rhs;whnf
   go_simp;exact hK _ _ Zr hW rfl
  trivial
theorem Qdi {n:Nat}{m:List (Qg n)}{p:Option Addr}{c fi bi:Nat}{x:Qg n}{y:Qh n}{w:World}(hm0:(Qaq n).In w All m [.slice p m.length c]) (hs0:Qc9 m) (hx1:m[fi]?=some x) (hx2:x.blocks[bi]?=some y) :
 Rd prog 66 #[.agg #[.slice p m.length c],.int .i64 (fi:Int),.int .i64 (bi:Int)] w (QX (Qh.fault m.length fi x bi y)):=by
 have h1:fi<m.length:=(Zi hx1).1;have h2:bi<x.blocks.length:=(Zi hx2).1;have hml:=hs0.1;have hsx:=hs0.2 x (Zm hx1);have hxl:=hsx.1;have hsy:=hsx.2.2.2 y (Zm hx2);have hyl:=hsy.1;have HSY:=QH hsy;obtain⟨g1,o1,⟨fp,fc,fr,fd,fb,fe⟩,rfl,E1,In1⟩:=QcZ hm0 hx1
 obtain⟨g2,o2,b2,e2,E2,In2⟩:=QcF In1.blocks hx2
 dsimp only at E1 e2
 subst e2;have HE1:=QH E1;have HI1:=QH In1;have HE2:=QH E2;have HI2:=QH In2;have S:=QH (FbS.start w #[.slice (some ⟨g1,o1,none⟩) m.length c] 24);have hfi:(fi:Int)<m.length:=by omega
 have hbi:(bi:Int)<x.blocks.length:=by omega
 have hp:fi<1000000∧bi<1000000:=by omega
 have HP:=QH hp;clear hm0 hs0 hx1 hx2 E1 In1 E2 In2 hsx hsy h1 h2 hp;unfold Rd;go_enter func66,ntmps66
 go_upto_region 1 with fail
 generalize (w.alloc (.cells #[.slice (some ⟨g1,o1,none⟩) m.length c] 24)).alloc (.cells #[.int .i64 0,.int .i64 0] 30)=w1 at S ⊢;generalize w.heap.size+1=R at S ⊢;generalize hX:w.heap.size=X at S ⊢;have x0:=Qb (S.out.box 0 _ rfl) 0 _ rfl;have R1:=QH (fun j v hj=>Qi (HE1.out j v hj) (hX ▸ S.out.bel):w1.rangeAt g1 (o1+fi*4) [.int .i64 x.regs,.slice fp x.params.length fc,.slice fr x.results.length fd,.slice (some ⟨g2,o2,none⟩) x.blocks.length fe]);have v0:w1.cell? ⟨g1,o1+fi*4,none⟩=some (.int .i64 x.regs):=R1.out 0 _ rfl;have v1:=R1.out 1 _ rfl;have v2:=R1.out 2 _ rfl;have v3:=R1.out 3 _ rfl;have S:=QH (S.out.new #[.int .i64 x.regs,.slice fp x.params.length fc,.slice fr x.results.length fd,.slice (some ⟨g2,o2,none⟩) x.blocks.length fe] 55);go_upto_region 2 with fail
 generalize hw2:w1.alloc (.cells #[.int .i64 x.regs,.slice fp x.params.length fc,.slice fr x.results.length fd,.slice (some ⟨g2,o2,none⟩) x.blocks.length fe] 55)=w2 at S ⊢;generalize w1.heap.size=Y at S ⊢;clear hw2 x0 v0 v1 v2 v3 R1;have y3:=Qb (S.out.box 0 _ rfl) 3 _ rfl;generalize hcs:([.int .i64 y.regs,.slice b2.pP y.params.length b2.cP,.slice b2.pC y.code.length b2.cC,.int .i64 y.fin.op,.int .i64 y.fin.a,.int .i64 y.fin.yes.block,.slice b2.e.pYR y.fin.yes.regs.length b2.e.cYR,.slice b2.e.pYA y.fin.yes.args.length b2.e.cYA,.int .i64 y.fin.no.block,.slice b2.e.pNR y.fin.no.regs.length b2.e.cNR,.slice b2.e.pNA y.fin.no.args.length b2.e.cNA,.slice b2.e.pA y.fin.args.length b2.e.cA]:List Value)=cs at HE2;have hl:cs.length=12:=by rw[← hcs];rfl
 have MB:=QH (Qla.of w2 hl);have TO:Hid (cs.toArray.all (·.oneCell')=true):=by show _=_;rw[← hcs];exact all_oneCell_toArray (List.all_eq_true.1 rfl)
 have RG:Hid (w2.rangeAt g2 (o2+bi*12) cs):=fun j v hj=>Qi (HE2.out j v hj) (hX ▸ S.out.bel);go_upto_region 3 with (first | (refine wpList_load_mid rfl 84 (.tmp 21) rfl g2 (o2+bi*12) rfl cs _ RG.out underlying84 rfl MB.out.size ?_) | (refine wpList_store_mid rfl 84 (.tmp 8) (.tmp 22) rfl w2.heap.size 0 cs.toArray rfl rfl MB.out.there MB.out.size2 TO.out ?_))
 have S3:=QH ((S.out.below MB.out.bel).add MB.out.blk);clear S y3 RG TO hl;generalize (w2.alloc (.cells #[.int .i64 0,.slice none 0 0,.slice none 0 0,.int .i64 0,.int .i64 0,.int .i64 0,.slice none 0 0,.slice none 0 0,.int .i64 0,.slice none 0 0,.slice none 0 0,.slice none 0 0] 84)).setCells w2.heap.size 0 cs=w3 at S3 ⊢;generalize w2.heap.size=Z at S3 ⊢;subst hcs;simp only[Act.put]
 have HX:Hid (w.heap.size=X):=hX;clear hX HE1 HE2 MB;generalize hL:([(Z,#[.int .i64 y.regs,.slice b2.pP y.params.length b2.cP,.slice b2.pC y.code.length b2.cC,.int .i64 y.fin.op,.int .i64 y.fin.a,.int .i64 y.fin.yes.block,.slice b2.e.pYR y.fin.yes.regs.length b2.e.cYR,.slice b2.e.pYA y.fin.yes.args.length b2.e.cYA,.int .i64 y.fin.no.block,.slice b2.e.pNR y.fin.no.regs.length b2.e.cNR,.slice b2.e.pNA y.fin.no.args.length b2.e.cNA,.slice b2.e.pA y.fin.args.length b2.e.cA],84),(Y,#[.int .i64 x.regs,.slice fp x.params.length fc,.slice fr x.results.length fd,.slice (some ⟨g2,o2,none⟩) x.blocks.length fe],55),(X,#[.slice (some ⟨g1,o1,none⟩) m.length c],24)]:List (Nat × Array Value × TypeId))=L at S3;have BX:Hid (∀ wx,FbS w wx R L→Blk wx Z #[.int .i64 y.regs,.slice b2.pP y.params.length b2.cP,.slice b2.pC y.code.length b2.cC,.int .i64 y.fin.op,.int .i64 y.fin.a,.int .i64 y.fin.yes.block,.slice b2.e.pYR y.fin.yes.regs.length b2.e.cYR,.slice b2.e.pYA y.fin.yes.args.length b2.e.cYA,.int .i64 y.fin.no.block,.slice b2.e.pNR y.fin.no.regs.length b2.e.cNR,.slice b2.e.pNA y.fin.no.args.length b2.e.cNA,.slice b2.e.pA y.fin.args.length b2.e.cA] 84∧Blk wx Y #[.int .i64 x.regs,.slice fp x.params.length fc,.slice fr x.results.length fd,.slice (some ⟨g2,o2,none⟩) x.blocks.length fe] 55∧Blk wx X #[.slice (some ⟨g1,o1,none⟩) m.length c] 24):=by subst hL;exact fun wx h=>⟨h.box 0 _ rfl,h.box 1 _ rfl,h.box 2 _ rfl⟩
 clear hL;have q0:=Qb (BX.out _ S3.out).1 0 _ rfl;have q1:=Qb (BX.out _ S3.out).2.1 0 _ rfl;go_cut [32] (fun v wx=>v=.bool (decide (y.regs<x.regs∨16<y.regs))∧FbS w wx R L)
 case first =>
  by_cases h:y.regs<x.regs
  ·have d1:decide (y.regs<x.regs)=true:=decide_eq_true h;have E:decide (y.regs<x.regs∨16<y.regs)=true:=decide_eq_true (.inl h);go_wp2
   go_meet;exact⟨by rw[E],S3.out⟩
  ·have d1:decide (y.regs<x.regs)=false:=decide_eq_false h;have E:decide (y.regs<x.regs∨16<y.regs)=decide (y.regs>16):=by rw[decide_eq_decide];omega
   go_wp2
   all_goals
    go_meet;exact⟨by rw[E],S3.out⟩
 case rest =>
  obtain⟨rfl,hc4⟩:=hcut
  have S4:=QH hc4;clear hc4 S3 q0 q1;by_cases c1:y.regs<x.regs∨16<y.regs
  ·rw[decide_eq_true c1]
   have E:Qh.fault m.length fi x bi y=(1,10000*(fi:Int)+100*(bi:Int)+90):=if_pos c1;go_wp2_with fail
   refine Calls.mono (QaZ HP.out) ?_;rintro _ ua0 ⟨rfl,bb⟩;have S4:=QH (S4.out.below bb);clear bb;go_wp2_with fail
   refine Calls.mono (Qa1) ?_;rintro _ ua1 ⟨rfl,bb⟩;have S4:=QH (S4.out.below bb);clear bb;try simp only[QX]
   obtain⟨r0,r1,z0,z1⟩:=S4.out.cells
   have D:=QH (S4.out.fin (1) (10000*(fi:Int)+100*(bi:Int)+90));go_wp2_with fail
   generalize World.setCell _ _ _=w99 at D ⊢;exact bodyPost_ret (v:=.agg #[.int .i64 (1),.int .i64 (10000*(fi:Int)+100*(bi:Int)+90)]) (by simp[results,results66,go_sem,Qb D.out.1 0 _ rfl,Qb D.out.1 1 _ rfl]) rfl ⟨by first | rfl | rw[E],D.out.2⟩
  rw[decide_eq_false c1]
  have q0:=Qb (BX.out _ S4.out).1 0 _ rfl;have q1:=Qb (BX.out _ S4.out).1 1 _ rfl;have CL:=QH (Qa6 (regs:=y.regs) (Lay.below HI2.out.params S4.out.bel) HSY.out.2.1);unfold Rd at CL;go_wp2_with fail
  refine CL.out.mono ?_;rintro _ w5 ⟨rfl,b5⟩;have S5:=QH (S4.out.below b5);clear b5 CL q0 q1 S4;generalize hlc:listC y.regs y.params=lc;by_cases c2:lc=0
  rotate_left
  ·have d:(lc != 0)=true:=by simpa using c2
   have E:Qh.fault m.length fi x bi y=(lc,10000*(fi:Int)+100*(bi:Int)+90):=by unfold Qh.fault;rw[if_neg c1,hlc,if_pos c2]
   go_wp2_with fail
   refine Calls.mono (QaZ HP.out) ?_;rintro _ ua0 ⟨rfl,bb⟩;have S5:=QH (S5.out.below bb);clear bb;go_wp2_with fail
   refine Calls.mono (Qa1) ?_;rintro _ ua1 ⟨rfl,bb⟩;have S5:=QH (S5.out.below bb);clear bb;try simp only[QX]
   obtain⟨r0,r1,z0,z1⟩:=S5.out.cells
   have D:=QH (S5.out.fin (lc) (10000*(fi:Int)+100*(bi:Int)+90));go_wp2_with fail
   generalize World.setCell _ _ _=w99 at D ⊢;exact bodyPost_ret (v:=.agg #[.int .i64 (lc),.int .i64 (10000*(fi:Int)+100*(bi:Int)+90)]) (by simp[results,results66,go_sem,Qb D.out.1 0 _ rfl,Qb D.out.1 1 _ rfl]) rfl ⟨by first | rfl | rw[E],D.out.2⟩
  subst c2;go_upto_region 8 with fail
  have q0:=Qb (BX.out _ S5.out).1 0 _ rfl;have q1:=Qb (BX.out _ S5.out).2.1 0 _ rfl;have q2:=Qb (BX.out _ S5.out).1 1 _ rfl;have q3:=Qb (BX.out _ S5.out).2.1 1 _ rfl;go_cut [65] (fun v wx=>v=.bool (decide (bi=0∧(y.regs≠x.regs∨Qbz y.params x.params=false)))∧FbS w wx R L)
  case first =>
   by_cases h0:bi=0
   ·have d0:((bi:Int)==0)=true:=by simpa using h0
    by_cases hr:y.regs=x.regs
    ·have d1:(y.regs != x.regs)=false:=by simpa using hr
     have CS:=QH (Qd3 (Lay.below HI2.out.params S5.out.bel) (Lay.below HI1.out.params S5.out.bel) HSY.out.2.1);unfold Rd at CS
     have E:decide (bi=0∧(y.regs≠x.regs∨Qbz y.params x.params=false))=!bdec (y.params=x.params):=by
      by_cases hp:y.params=x.params
      ·rw[QG hp];simp[hr,QbY.2 hp]
      ·rw[Qx hp]
       have:Qbz y.params x.params=false:=by cases h9:Qbz y.params x.params;rfl;exact absurd (QbY.1 h9) hp
       simp[h0,this]
     generalize bdec (y.params=x.params)=bp at CS E;clear h0 hr;go_wp2_with fail
     refine CS.out.mono ?_;rintro _ w6 ⟨rfl,b6⟩;have S6:=QH (S5.out.below b6);clear b6 CS q0 q1 q2 q3;go_wp2
     all_goals
      go_meet;exact⟨by rw[E],S6.out⟩
    ·have d1:(y.regs != x.regs)=true:=by simpa using hr
     have E:decide (bi=0∧(y.regs≠x.regs∨Qbz y.params x.params=false))=true:=decide_eq_true ⟨h0,.inl hr⟩;clear h0 hr;go_wp2
     go_meet;exact⟨by rw[E],S5.out⟩
   ·have d0:((bi:Int)==0)=false:=by simpa using h0
    have E:decide (bi=0∧(y.regs≠x.regs∨Qbz y.params x.params=false))=false:=decide_eq_false (fun h=>h0 h.1);clear h0;go_wp2
    go_meet;exact⟨by rw[E],S5.out⟩
  case rest =>
   obtain⟨rfl,hc6⟩:=hcut
   have S6:=QH hc6;clear hc6 S5 q0 q1 q2 q3;by_cases c3:bi=0∧(y.regs≠x.regs∨Qbz y.params x.params=false)
   ·rw[decide_eq_true c3]
    have E:Qh.fault m.length fi x bi y=(9,10000*(fi:Int)+100*(bi:Int)+90):=by unfold Qh.fault;rw[if_neg c1,hlc,if_neg (by simp),if_pos c3]
    clear c3;go_wp2_with fail
    refine Calls.mono (QaZ HP.out) ?_;rintro _ ua0 ⟨rfl,bb⟩;have S6:=QH (S6.out.below bb);clear bb;go_wp2_with fail
    refine Calls.mono (Qa1) ?_;rintro _ ua1 ⟨rfl,bb⟩;have S6:=QH (S6.out.below bb);clear bb;try simp only[QX]
    obtain⟨r0,r1,z0,z1⟩:=S6.out.cells
    have D:=QH (S6.out.fin (9) (10000*(fi:Int)+100*(bi:Int)+90));go_wp2_with fail
    generalize World.setCell _ _ _=w99 at D ⊢;exact bodyPost_ret (v:=.agg #[.int .i64 (9),.int .i64 (10000*(fi:Int)+100*(bi:Int)+90)]) (by simp[results,results66,go_sem,Qb D.out.1 0 _ rfl,Qb D.out.1 1 _ rfl]) rfl ⟨by first | rfl | rw[E],D.out.2⟩
   rw[decide_eq_false c3]
   have q2:=Qb (BX.out _ S6.out).1 2 _ rfl;by_cases c4:40<y.code.length
   ·have d:(40:Int)<y.code.length:=by omega
    have E:Qh.fault m.length fi x bi y=(2,10000*(fi:Int)+100*(bi:Int)+90):=by unfold Qh.fault;rw[if_neg c1,hlc,if_neg (by simp),if_neg c3,if_pos c4]
    go_wp2_with fail
    refine Calls.mono (QaZ HP.out) ?_;rintro _ ua0 ⟨rfl,bb⟩;have S6:=QH (S6.out.below bb);clear bb;go_wp2_with fail
    refine Calls.mono (Qa1) ?_;rintro _ ua1 ⟨rfl,bb⟩;have S6:=QH (S6.out.below bb);clear bb;try simp only[QX]
    obtain⟨r0,r1,z0,z1⟩:=S6.out.cells
    have D:=QH (S6.out.fin (2) (10000*(fi:Int)+100*(bi:Int)+90));go_wp2_with fail
    generalize World.setCell _ _ _=w99 at D ⊢;exact bodyPost_ret (v:=.agg #[.int .i64 (2),.int .i64 (10000*(fi:Int)+100*(bi:Int)+90)]) (by simp[results,results66,go_sem,Qb D.out.1 0 _ rfl,Qb D.out.1 1 _ rfl]) rfl ⟨by first | rfl | rw[E],D.out.2⟩
   have d:¬ (40:Int)<y.code.length:=by omega
   go_wp2_with fail
   clear q2;go_loopw [10] (fun i wr=>∃ q:Nat,q≤y.code.length∧i=.int .i64 q∧FbS w wr R L∧∀ (j:Nat) z,j<q→y.code[j]?=some z→Qy.form m.length z=0) (fun i _=>y.code.length - (intOf i).toNat)
   case atStart=>exact⟨0,Nat.zero_le _,rfl,S6.out,fun j z hj=>absurd hj (Nat.not_lt_zero _)⟩
   case round =>
    obtain⟨q,hq,rfl,hs,hall⟩:=hrel
    have SR:=QH hs;have HAQ:=QH hall;clear hs hall S6;have q2:=Qb (BX.out _ SR.out).1 2 _ rfl;by_cases hqt:q<y.code.length
    rotate_left
    ·have hqt':¬ (q:Int)<y.code.length:=by omega
     have E0:Hid (Qh.fault m.length fi x bi y=if MEnd.form x.blocks.length y.fin≠0 then (MEnd.form x.blocks.length y.fin,10000*(fi:Int)+100*(bi:Int)+91) else (0,0)):=by
      show _=_;unfold Qh.fault;rw[if_neg c1,hlc,if_neg (by simp),if_neg c3,if_neg c4,ZJ (fun k z hk=>HAQ.out k z (by have:=(Zi hk).1;omega) hk),if_neg (by simp)]
     have RE:Hid (wr.rangeAt Z 3 [.int .i64 y.fin.op,.int .i64 y.fin.a,.int .i64 y.fin.yes.block,.slice b2.e.pYR y.fin.yes.regs.length b2.e.cYR,.slice b2.e.pYA y.fin.yes.args.length b2.e.cYA,.int .i64 y.fin.no.block,.slice b2.e.pNR y.fin.no.regs.length b2.e.cNR,.slice b2.e.pNA y.fin.no.args.length b2.e.cNA,.slice b2.e.pA y.fin.args.length b2.e.cA]):=fun j v hj=>Qb (BX.out _ SR.out).1 (3+j) v (by rw[← Array.getElem?_toList,Nat.add_comm];exact hj);have y0:=Qb (BX.out _ SR.out).2.1 0 _ rfl;have y1:=Qb (BX.out _ SR.out).2.1 1 _ rfl;have y2:=Qb (BX.out _ SR.out).2.1 2 _ rfl;have y3:=Qb (BX.out _ SR.out).2.1 3 _ rfl;have CE:=QH (QcQ (x:=y.fin) (e:=b2.e) (fr:=x.regs) (fp:=fp) (fq:=fr) (fb:=some ⟨g2,o2,none⟩) (fl:=x.params.length) (fc:=fc) (fm:=x.results.length) (fd:=fd) (bl:=x.blocks.length) (fe:=fe) (w:=wr) (by have h9:=HSY.out.2.2.1;have:=h9.1;have:=h9.2.1;unfold MTo.small at *;omega) (by omega));unfold Rd at CE;generalize MEnd.form x.blocks.length y.fin=ef at CE E0;go_wp2_with (refine wpList_load_mid rfl 47 (.tmp 101) rfl Z 3 rfl [.int .i64 y.fin.op,.int .i64 y.fin.a,.int .i64 y.fin.yes.block,.slice b2.e.pYR y.fin.yes.regs.length b2.e.cYR,.slice b2.e.pYA y.fin.yes.args.length b2.e.cYA,.int .i64 y.fin.no.block,.slice b2.e.pNR y.fin.no.regs.length b2.e.cNR,.slice b2.e.pNA y.fin.no.args.length b2.e.cNA,.slice b2.e.pA y.fin.args.length b2.e.cA] _ RE.out underlying47 rfl pSizeE ?_)
     refine CE.out.mono ?_;rintro _ w7 ⟨rfl,b7⟩;have S7:=QH (SR.out.below b7);clear b7 SR CE RE y0 y1 y2 y3 q2;by_cases ce:ef=0
     ·subst ce;have E:Qh.fault m.length fi x bi y=(0,0):=by rw[E0.out];rfl
      try simp only[QX]
      obtain⟨r0,r1,z0,z1⟩:=S7.out.cells
      have D:=QH (S7.out.fin (0) (0));go_wp2_with fail
      generalize World.setCell _ _ _=w99 at D ⊢;exact bodyPost_ret (v:=.agg #[.int .i64 (0),.int .i64 (0)]) (by simp[results,results66,go_sem,Qb D.out.1 0 _ rfl,Qb D.out.1 1 _ rfl]) rfl ⟨by first | rfl | rw[E],D.out.2⟩
     ·have d9:(ef != 0)=true:=by simpa using ce
      have E:Qh.fault m.length fi x bi y=(ef,10000*(fi:Int)+100*(bi:Int)+91):=by rw[E0.out,if_pos ce]
      clear E0;go_wp2_with fail
      refine Calls.mono (QhE HP.out) ?_;rintro _ ua0 ⟨rfl,bb⟩;have S7:=QH (S7.out.below bb);clear bb;go_wp2_with fail
      refine Calls.mono (Qa1) ?_;rintro _ ua1 ⟨rfl,bb⟩;have S7:=QH (S7.out.below bb);clear bb;try simp only[QX]
      obtain⟨r0,r1,z0,z1⟩:=S7.out.cells
      have D:=QH (S7.out.fin (ef) (10000*(fi:Int)+100*(bi:Int)+91));go_wp2_with fail
      generalize World.setCell _ _ _=w99 at D ⊢;exact bodyPost_ret (v:=.agg #[.int .i64 (ef),.int .i64 (10000*(fi:Int)+100*(bi:Int)+91)]) (by simp[results,results66,go_sem,Qb D.out.1 0 _ rfl,Qb D.out.1 1 _ rfl]) rfl ⟨by first | rfl | rw[E],D.out.2⟩
    have hqt':(q:Int)<y.code.length:=by omega
    have hz:y.code[q]?=some y.code[q]:=Zg hqt;generalize y.code[q]=z at hz;have HZ:=QH hz;obtain⟨g3,o3,i3,e3,E3,-⟩:=QfY HI2.out.code hz
    have RI:Hid (wr.rangeAt g3 (o3+q*8) [.int .i64 z.op,.int .i64 z.a,.int .i64 z.b,.int .i64 z.c,.int .i64 z.k,.int .i64 z.n,.slice i3.pR z.regs.length i3.cR,.slice i3.pA z.args.length i3.cA]):=fun j v hj=>Qi (E3 j v hj) SR.out.bel;have q0:=Qb (BX.out _ SR.out).2.2 0 _ rfl;have q9:=q2;rw[e3] at q9
    clear E3 hz e3;go_upto_region 15 with fail
    refine Code.wp_mono ?_ (QlU RI q0 q9 hqt' _ _ rfl (Nat.le_of_ble_eq_true (by kernel_rfl)) rfl rfl rfl);rintro ee aa w9 ⟨rfl,vs,rfl,hv,b9⟩;simp only[Q5,Act.put,List.setIfInBounds_toArray,List.set_cons_zero,List.set_cons_succ,hv]
    have S9:=QH (SR.out.below b9);clear b9 SR q0 q2 q9 RI hv;generalize hzf:Qy.form m.length z=zf;by_cases c5:zf=0
    ·subst c5;go_wp2
     go_roundw
     case rel =>
      refine⟨q+1,by omega,by go_num,S9.out,fun j u hj hu=>?_⟩
      by_cases hjq:j<q
      ·exact HAQ.out j u hjq hu
      ·have:j=q:=by omega
       subst this;rw[HZ.out] at hu
       cases hu
       exact hzf
     case measure=>simp[intOf];omega
    ·have d9:(zf != 0)=true:=by simpa using c5
     have E:Qh.fault m.length fi x bi y=(zf,10000*(fi:Int)+100*(bi:Int)+(q:Int)):=by
      have hF:=Qan (f:=fun i u=>(Qy.form m.length u,(10000*fi+100*bi+i:Int))) (j:=0) HZ.out (fun k u hk hu=>HAQ.out _ u hk hu) (by rw[hzf];exact c5);rw[Nat.zero_add,hzf] at hF
      unfold Qh.fault;rw[if_neg c1,hlc,if_neg (by simp),if_neg c3,if_neg c4,hF,if_pos c5]
     have hp3:fi<1000000∧bi<1000000∧q<1000000:=⟨HP.out.1,HP.out.2,by omega⟩;have HP3:=QH hp3;clear hp3 hzf c5;go_wp2_with fail
     refine Calls.mono (Qhf HP3.out) ?_;rintro _ ua0 ⟨rfl,bb⟩;have S9:=QH (S9.out.below bb);clear bb;go_wp2_with fail
     refine Calls.mono (Qa1) ?_;rintro _ ua1 ⟨rfl,bb⟩;have S9:=QH (S9.out.below bb);clear bb;try simp only[QX]
     obtain⟨r0,r1,z0,z1⟩:=S9.out.cells
     have D:=QH (S9.out.fin (zf) (10000*(fi:Int)+100*(bi:Int)+(q:Int)));go_wp2_with fail
     generalize World.setCell _ _ _=w99 at D ⊢;exact bodyPost_ret (v:=.agg #[.int .i64 (zf),.int .i64 (10000*(fi:Int)+100*(bi:Int)+(q:Int))]) (by simp[results,results66,go_sem,Qb D.out.1 0 _ rfl,Qb D.out.1 1 _ rfl]) rfl ⟨by first | rfl | rw[E],D.out.2⟩
def plB {n:Nat}(x:Qg n) (q:Nat):Bool:=(x.regs==0&&((x.params.length:Int)==0))&&(x.results.take q).all (fun t=>t.kind==1)
theorem QfZ {n:Nat}(x:Qg n):plB x 0=(x.regs==0&&((x.params.length:Int)==0)):=by simp[plB]
theorem Qji {n:Nat}{x:Qg n}{q:Nat}{t:TT n}(h:x.results[q]?=some t):plB x (q+1)=(plB x q&&t.kind==1):=by
 unfold plB;rw[List.take_add_one,h,List.all_append]
 simp[Bool.and_assoc]
theorem Qhw {n:Nat}(x:Qg n):plB x x.results.length=true↔(x.regs=0∧x.params.length=0∧x.results.all (fun t=>t.kind==1)=true):=by
 unfold plB;rw[List.take_length]
 simp only[Bool.and_eq_true,beq_iff_eq]
 constructor
 ·rintro ⟨⟨h1,h2⟩,h3⟩;exact⟨h1,by omega,h3⟩
 ·rintro ⟨h1,h2,h3⟩;exact⟨⟨h1,by omega⟩,h3⟩
theorem QaS {n:Nat}{m:List (Qg n)}{p:Option Addr}{c:Nat}{w:World}(hm0:(Qaq n).In w All m [.slice p m.length c]) (hs0:Qc9 m) :
 Rd prog 21 #[.agg #[.slice p m.length c]] w (QX (modFault m)):=by
 have hml:=hs0.1;have HM:=QH hm0;have HS:=QH hs0;have S:=QH (FbS.start w #[.slice p m.length c] 24);clear hm0 hs0;unfold Rd;go_enter func21,ntmps21
 go_upto_region 1 with fail
 generalize (w.alloc (.cells #[.slice p m.length c] 24)).alloc (.cells #[.int .i64 0,.int .i64 0] 30)=w1 at S ⊢;generalize w.heap.size+1=R at S ⊢;generalize w.heap.size=X at S ⊢;have x0:=Qb (S.out.box 0 _ rfl) 0 _ rfl;go_cut [20] (fun v wx=>v=.bool (decide (m.length<1∨8<m.length))∧FbS w wx R [(X,#[.slice p m.length c],24)])
 case first =>
  by_cases h:(m.length:Int)<1
  ·have d1:decide ((m.length:Int)<1)=true:=decide_eq_true h;have E:decide (m.length<1∨8<m.length)=true:=decide_eq_true (.inl (by omega));go_wp2
   go_meet;exact⟨by rw[E],S.out⟩
  ·have d1:decide ((m.length:Int)<1)=false:=decide_eq_false h;have E:decide (m.length<1∨8<m.length)=decide ((m.length:Int)>8):=by rw[decide_eq_decide];omega
   go_wp2
   all_goals
    go_meet;exact⟨by rw[E],S.out⟩
 case rest =>
  obtain⟨rfl,hc⟩:=hcut
  have S2:=QH hc;clear hc S x0;by_cases c1:m.length<1∨8<m.length
  ·rw[decide_eq_true c1]
   have E:modFault m=(2,-1):=if_pos c1;go_wp2_with fail
   refine Calls.mono (Qa1) ?_;rintro _ ua0 ⟨rfl,bb⟩;have S2:=QH (S2.out.below bb);clear bb;try simp only[QX]
   obtain⟨r0,r1,z0,z1⟩:=S2.out.cells
   have D:=QH (S2.out.fin (2) (-1));go_wp2_with fail
   generalize World.setCell _ _ _=w99 at D ⊢;exact bodyPost_ret (v:=.agg #[.int .i64 (2),.int .i64 (-1)]) (by simp[results,results21,go_sem,Qb D.out.1 0 _ rfl,Qb D.out.1 1 _ rfl]) rfl ⟨by first | rfl | rw[E],D.out.2⟩
  rw[decide_eq_false c1]
  go_wp2_with fail
  go_loopw [3] (fun i wr=>∃ k:Nat,k≤m.length∧i=.int .i64 k∧FbS w wr R [(X,#[.slice p m.length c],24)]∧∀ (j:Nat) f,j<k→m[j]?=some f→(Qg.fault m.length j f).1=0) (fun i _=>m.length - (intOf i).toNat)
  case atStart=>exact⟨0,Nat.zero_le _,rfl,S2.out,fun j z hj=>absurd hj (Nat.not_lt_zero _)⟩
  case round =>
   obtain⟨k,hk,rfl,hs,hall⟩:=hrel
   have SR:=QH hs;have HAQ:=QH hall;clear hs hall S2;obtain⟨wf,hwf⟩:∃ wf,wf=wr:=⟨_,rfl⟩
   subst hwf;have x0:=Qb (SR.out.box 0 _ rfl) 0 _ rfl;by_cases hkt:k<m.length
   rotate_left
   ·have hkt':¬ (k:Int)<m.length:=by omega
    have E:modFault m=(0,0):=by
     unfold modFault;rw[if_neg c1]
     exact ZJ fun j f hj=>by rw[Nat.zero_add];exact HAQ.out j f (by have:=(Zi hj).1;omega) hj
    try simp only[QX]
    obtain⟨r0,r1,z0,z1⟩:=SR.out.cells
    have D:=QH (SR.out.fin (0) (0));go_wp2_with fail
    generalize World.setCell _ _ _=w99 at D ⊢;exact bodyPost_ret (v:=.agg #[.int .i64 (0),.int .i64 (0)]) (by simp[results,results21,go_sem,Qb D.out.1 0 _ rfl,Qb D.out.1 1 _ rfl]) rfl ⟨by first | rfl | rw[E],D.out.2⟩
   have hkt':(k:Int)<m.length:=by omega
   have hxk:m[k]?=some m[k]:=Zg hkt;generalize m[k]=x at hxk;have HXK:=QH hxk
   have EM:Hid ((Qg.fault m.length k x).1≠0→modFault m=Qg.fault m.length k x):=fun h=>by
    have hF:=Qan (f:=fun f x=>Qg.fault m.length f x) (j:=0) HXK.out (fun j f hj hf=>by rw[Nat.zero_add];exact HAQ.out j f hj hf) (by rw[Nat.zero_add];exact h);rw[Nat.zero_add] at hF
    unfold modFault;rw[if_neg c1,hF]
   obtain⟨g1,o1,f1,rfl,E1,In1⟩:=QcZ HM.out hxk
   have HI1:=QH In1;have hsx:=HS.out.2 x (Zm hxk);have HSX:=QH hsx;have hbl:=hsx.1;have hrl:x.results.length≤100000:=hsx.2.2.1.1;have hpl:x.params.length≤100000:=hsx.2.1.1;have hp:k<1000000:=by omega
   have HP:=QH hp;have R1:Hid (wf.rangeAt g1 (o1+k*4) [.int .i64 x.regs,.slice f1.pP x.params.length f1.cP,.slice f1.pR x.results.length f1.cR,.slice f1.pB x.blocks.length f1.cB]):=fun j v hj=>Qi (E1 j v hj) SR.out.bel;have v0:wf.cell? ⟨g1,o1+k*4,none⟩=some (.int .i64 x.regs):=R1.out 0 _ rfl;have v1:=R1.out 1 _ rfl;have v2:=R1.out 2 _ rfl;have v3:=R1.out 3 _ rfl;have S6:=QH (SR.out.new #[.int .i64 x.regs,.slice f1.pP x.params.length f1.cP,.slice f1.pR x.results.length f1.cR,.slice f1.pB x.blocks.length f1.cB] 55);clear hxk E1 In1 hsx hp R1 SR;go_upto_region 7 with fail
   generalize wf.alloc (.cells #[.int .i64 x.regs,.slice f1.pP x.params.length f1.cP,.slice f1.pR x.results.length f1.cR,.slice f1.pB x.blocks.length f1.cB] 55)=w6 at S6 ⊢;generalize wf.heap.size=Y at S6 ⊢;clear v0 v1 v2 v3 x0;generalize hL:([(Y,#[.int .i64 x.regs,.slice f1.pP x.params.length f1.cP,.slice f1.pR x.results.length f1.cR,.slice f1.pB x.blocks.length f1.cB],55),(X,#[.slice (some ⟨g1,o1,none⟩) m.length c],24)]:List (Nat × Array Value × TypeId))=L at S6;have BX:Hid (∀ wx,FbS w wx R L→Blk wx Y #[.int .i64 x.regs,.slice f1.pP x.params.length f1.cP,.slice f1.pR x.results.length f1.cR,.slice f1.pB x.blocks.length f1.cB] 55∧Blk wx X #[.slice (some ⟨g1,o1,none⟩) m.length c] 24):=by subst hL;exact fun wx h=>⟨h.box 0 _ rfl,h.box 1 _ rfl⟩
   have DR:Hid (∀ wx,FbS w wx R L→FbS w wx R [(X,#[.slice (some ⟨g1,o1,none⟩) m.length c],24)]):=fun wx h=>⟨h.bel,h.ge,h.r,fun i b hb=>by
    cases i with
    | zero=>cases hb;exact(BX.out wx h).2
    | succ i=>simp at hb⟩
   clear hL;have q0:=Qb (BX.out _ S6.out).1 0 _ rfl;go_cut [41] (fun v wx=>v=.bool (decide (x.regs<0∨6<x.regs))∧FbS w wx R L)
   case first =>
    by_cases h:x.regs<0
    ·have d1:decide (x.regs<0)=true:=decide_eq_true h;have E:decide (x.regs<0∨6<x.regs)=true:=decide_eq_true (.inl (by omega));go_wp2
     go_meet;exact⟨by rw[E],S6.out⟩
    ·have d1:decide (x.regs<0)=false:=decide_eq_false h;have E:decide (x.regs<0∨6<x.regs)=decide (x.regs>6):=by rw[decide_eq_decide];omega
     go_wp2
     all_goals
      go_meet;exact⟨by rw[E],S6.out⟩
   case rest =>
    obtain⟨rfl,hc⟩:=hcut
    have S7:=QH hc;clear hc S6 q0;by_cases c2:x.regs<0∨6<x.regs
    ·rw[decide_eq_true c2]
     have E:modFault m=(1,10000*(k:Int)+9999):=by
      have e9:Qg.fault m.length k x=(1,10000*(k:Int)+9999):=if_pos c2;rw[EM.out (by rw[e9];show (1:Int)≠0;decide),e9]
     clear c2;go_wp2_with fail
     refine Calls.mono (QaD HP.out) ?_;rintro _ ua0 ⟨rfl,bb⟩;have S7:=QH (S7.out.below bb);clear bb;go_wp2_with fail
     refine Calls.mono (Qa1) ?_;rintro _ ua1 ⟨rfl,bb⟩;have S7:=QH (S7.out.below bb);clear bb;try simp only[QX]
     obtain⟨r0,r1,z0,z1⟩:=S7.out.cells
     have D:=QH (S7.out.fin (1) (10000*(k:Int)+9999));go_wp2_with fail
     generalize World.setCell _ _ _=w99 at D ⊢;exact bodyPost_ret (v:=.agg #[.int .i64 (1),.int .i64 (10000*(k:Int)+9999)]) (by simp[results,results21,go_sem,Qb D.out.1 0 _ rfl,Qb D.out.1 1 _ rfl]) rfl ⟨by first | rfl | rw[E],D.out.2⟩
    rw[decide_eq_false c2]
    have q0:=Qb (BX.out _ S7.out).1 0 _ rfl;have q1:=Qb (BX.out _ S7.out).1 1 _ rfl;have CL:=QH (Qa6 (regs:=x.regs) (Lay.below HI1.out.params S7.out.bel) HSX.out.2.1);unfold Rd at CL;go_wp2_with fail
    refine CL.out.mono ?_;rintro _ wl ⟨rfl,bl⟩;have S8:=QH (S7.out.below bl);clear bl CL q0 q1 S7;generalize hl1:listC x.regs x.params=lc;by_cases c3:lc=0
    rotate_left
    ·have d9:(lc != 0)=true:=by simpa using c3
     have E:modFault m=(lc,10000*(k:Int)+9999):=by
      have e9:Qg.fault m.length k x=(lc,10000*(k:Int)+9999):=by unfold Qg.fault;rw[if_neg c2,hl1,if_pos c3]
      rw[EM.out (by rw[e9];exact c3),e9]
     go_wp2_with fail
     refine Calls.mono (QaD HP.out) ?_;rintro _ ua0 ⟨rfl,bb⟩;have S8:=QH (S8.out.below bb);clear bb;go_wp2_with fail
     refine Calls.mono (Qa1) ?_;rintro _ ua1 ⟨rfl,bb⟩;have S8:=QH (S8.out.below bb);clear bb;try simp only[QX]
     obtain⟨r0,r1,z0,z1⟩:=S8.out.cells
     have D:=QH (S8.out.fin (lc) (10000*(k:Int)+9999));go_wp2_with fail
     generalize World.setCell _ _ _=w99 at D ⊢;exact bodyPost_ret (v:=.agg #[.int .i64 (lc),.int .i64 (10000*(k:Int)+9999)]) (by simp[results,results21,go_sem,Qb D.out.1 0 _ rfl,Qb D.out.1 1 _ rfl]) rfl ⟨by first | rfl | rw[E],D.out.2⟩
    subst c3;have q0:=Qb (BX.out _ S8.out).1 0 _ rfl;have q1:=Qb (BX.out _ S8.out).1 2 _ rfl;have CL:=QH (Qa6 (regs:=x.regs) (Lay.below HI1.out.results S8.out.bel) HSX.out.2.2.1);unfold Rd at CL;go_wp2_with fail
    refine CL.out.mono ?_;rintro _ wl ⟨rfl,bl⟩;have S9:=QH (S8.out.below bl);clear bl CL q0 q1 S8;generalize hl2:listC x.regs x.results=lc;by_cases c4:lc=0
    rotate_left
    ·have d9:(lc != 0)=true:=by simpa using c4
     have E:modFault m=(lc,10000*(k:Int)+9999):=by
      have e9:Qg.fault m.length k x=(lc,10000*(k:Int)+9999):=by unfold Qg.fault;rw[if_neg c2,hl1,if_neg (by simp),hl2,if_pos c4]
      rw[EM.out (by rw[e9];exact c4),e9]
     go_wp2_with fail
     refine Calls.mono (QaD HP.out) ?_;rintro _ ua0 ⟨rfl,bb⟩;have S9:=QH (S9.out.below bb);clear bb;go_wp2_with fail
     refine Calls.mono (Qa1) ?_;rintro _ ua1 ⟨rfl,bb⟩;have S9:=QH (S9.out.below bb);clear bb;try simp only[QX]
     obtain⟨r0,r1,z0,z1⟩:=S9.out.cells
     have D:=QH (S9.out.fin (lc) (10000*(k:Int)+9999));go_wp2_with fail
     generalize World.setCell _ _ _=w99 at D ⊢;exact bodyPost_ret (v:=.agg #[.int .i64 (lc),.int .i64 (10000*(k:Int)+9999)]) (by simp[results,results21,go_sem,Qb D.out.1 0 _ rfl,Qb D.out.1 1 _ rfl]) rfl ⟨by first | rfl | rw[E],D.out.2⟩
    subst c4;go_upto_region 15 with fail
    have q3:=Qb (BX.out _ S9.out).1 3 _ rfl;go_cut [76] (fun v wx=>v=.bool (decide (x.blocks.length<1∨12<x.blocks.length))∧FbS w wx R L)
    case first =>
     by_cases h:(x.blocks.length:Int)<1
     ·have d1:decide ((x.blocks.length:Int)<1)=true:=decide_eq_true h;have E:decide (x.blocks.length<1∨12<x.blocks.length)=true:=decide_eq_true (.inl (by omega));go_wp2
      go_meet;exact⟨by rw[E],S9.out⟩
     ·have d1:decide ((x.blocks.length:Int)<1)=false:=decide_eq_false h;have E:decide (x.blocks.length<1∨12<x.blocks.length)=decide ((x.blocks.length:Int)>12):=by rw[decide_eq_decide];omega
      go_wp2
      all_goals
       go_meet;exact⟨by rw[E],S9.out⟩
    case rest =>
     obtain⟨rfl,hc⟩:=hcut
     have SA:=QH hc;clear hc S9 q3;by_cases c5:x.blocks.length<1∨12<x.blocks.length
     ·rw[decide_eq_true c5]
      have E:modFault m=(2,10000*(k:Int)+9999):=by
       have e9:Qg.fault m.length k x=(2,10000*(k:Int)+9999):=by unfold Qg.fault;rw[if_neg c2,hl1,if_neg (by simp),hl2,if_neg (by simp),if_pos c5]
       rw[EM.out (by rw[e9];show (2:Int)≠0;decide),e9]
      clear c5;go_wp2_with fail
      refine Calls.mono (QaD HP.out) ?_;rintro _ ua0 ⟨rfl,bb⟩;have SA:=QH (SA.out.below bb);clear bb;go_wp2_with fail
      refine Calls.mono (Qa1) ?_;rintro _ ua1 ⟨rfl,bb⟩;have SA:=QH (SA.out.below bb);clear bb;try simp only[QX]
      obtain⟨r0,r1,z0,z1⟩:=SA.out.cells
      have D:=QH (SA.out.fin (2) (10000*(k:Int)+9999));go_wp2_with fail
      generalize World.setCell _ _ _=w99 at D ⊢;exact bodyPost_ret (v:=.agg #[.int .i64 (2),.int .i64 (10000*(k:Int)+9999)]) (by simp[results,results21,go_sem,Qb D.out.1 0 _ rfl,Qb D.out.1 1 _ rfl]) rfl ⟨by first | rfl | rw[E],D.out.2⟩
     rw[decide_eq_false c5]
     go_upto_if 81 with fail
     go_cut [] (fun wx=>FbS w wx R L∧(k=0→plB x x.results.length=true))
     case first =>
      by_cases h0:k=0
      rotate_left
      ·have d0:((k:Int)==0)=false:=by simpa using h0
       have H0:=QH h0;clear h0;go_wp2
       go_meet;exact⟨SA.out,fun h=>absurd h H0.out⟩
      have d0:((k:Int)==0)=true:=by simpa using h0
      have H0:=QH h0;clear h0;have q0:=Qb (BX.out _ SA.out).1 0 _ rfl;have q1:=Qb (BX.out _ SA.out).1 1 _ rfl;go_upto_region 18 with fail
      go_cut [7] (fun v wx=>v=.bool (plB x 0)∧FbS w wx R L)
      case first =>
       by_cases hr:x.regs=0
       ·have d1:(x.regs==0)=true:=by simpa using hr
        have E:plB x 0=((x.params.length:Int)==0):=by rw[QfZ,d1];rfl
        clear hr;go_wp2
        all_goals
         go_meet;exact⟨by rw[E],SA.out⟩
       ·have d1:(x.regs==0)=false:=by simpa using hr
        have E:plB x 0=false:=by rw[QfZ,d1];rfl
        go_wp2
        go_meet;exact⟨by rw[E],SA.out⟩
      case rest =>
       obtain⟨rfl,hc⟩:=hcut
       have SB:=QH hc;clear hc SA q0 q1;go_wp2_with fail
       go_loopw [7,8] (fun v i wr=>∃ q:Nat,q≤x.results.length∧i=.int .i64 q∧v=.bool (plB x q)∧FbS w wr R L) (fun _ i _=>x.results.length - (intOf i).toNat)
       case atStart=>exact⟨0,Nat.zero_le _,rfl,rfl,SB.out⟩
       case round =>
        obtain⟨q,hq,rfl,rfl,hs⟩:=hrel
        have SQ:=QH hs;clear hs SB;have q2:=Qb (BX.out _ SQ.out).1 2 _ rfl;by_cases hqt:q<x.results.length
        ·have hqt':(q:Int)<x.results.length:=by omega
         have ht:x.results[q]?=some x.results[q]:=Zg hqt;generalize x.results[q]=t at ht;have HN:=QH (Qji ht);obtain⟨gt,ot,ta,tc,e3,-,u0k,-,-,-⟩:=(QJ (Lay.below HI1.out.results SQ.out.bel)).1.at ht
         have q9:=q2;rw[e3] at q9
         clear ht e3 q2;generalize plB x q=pq at HN
         cases pq with
         | true =>
           go_wp2
           all_goals
            go_roundw
            case rel=>exact⟨q+1,by omega,by go_num,by rw[HN.out];rfl,SQ.out⟩
            case measure=>simp[intOf];omega
         | false =>
           go_wp2
           go_roundw
           case rel=>exact⟨q+1,by omega,by go_num,by rw[HN.out];rfl,SQ.out⟩
           case measure=>simp[intOf];omega
        have hqt':¬ (q:Int)<x.results.length:=by omega
        have hqe:q=x.results.length:=by omega
        subst hqe;generalize hpq:plB x x.results.length=pq
        cases pq with
        | true =>
          go_wp2
          go_meet;exact⟨SQ.out,fun _=>hpq⟩
        | false =>
          have E:modFault m=(18,10000*(k:Int)+9999):=by
           have e9:Qg.fault m.length k x=(18,10000*(k:Int)+9999):=by unfold Qg.fault;rw[if_neg c2,hl1,if_neg (by simp),hl2,if_neg (by simp),if_neg c5,if_pos ⟨H0.out,fun h=>by rw[(Qhw x).2 h] at hpq;cases hpq⟩]
           rw[EM.out (by rw[e9];show (18:Int)≠0;decide),e9]
          go_wp2_with fail
          refine Calls.mono (QaD HP.out) ?_;rintro _ ua0 ⟨rfl,bb⟩;have SQ:=QH (SQ.out.below bb);clear bb;go_wp2_with fail
          refine Calls.mono (Qa1) ?_;rintro _ ua1 ⟨rfl,bb⟩;have SQ:=QH (SQ.out.below bb);clear bb;try simp only[QX]
          obtain⟨r0,r1,z0,z1⟩:=SQ.out.cells
          have D:=QH (SQ.out.fin (18) (10000*(k:Int)+9999));go_wp2_with fail
          generalize World.setCell _ _ _=w99 at D ⊢;exact bodyPost_ret (v:=.agg #[.int .i64 (18),.int .i64 (10000*(k:Int)+9999)]) (by simp[results,results21,go_sem,Qb D.out.1 0 _ rfl,Qb D.out.1 1 _ rfl]) rfl ⟨by first | rfl | rw[E],D.out.2⟩
     case rest =>
      obtain⟨hc,hpl⟩:=hcut
      have SB:=QH hc;have c6:¬ (k=0∧¬ (x.regs=0∧x.params.length=0∧x.results.all (fun t=>t.kind==1)=true)):=fun h=>h.2 ((Qhw x).1 (hpl h.1))
      have EF:Hid (Qg.fault m.length k x=firstF (fun b y=>Qh.fault m.length k x b y) 0 x.blocks):=by
       show _=_;unfold Qg.fault;rw[if_neg c2,hl1,if_neg (by simp),hl2,if_neg (by simp),if_neg c5,if_neg c6]
      clear hc hpl SA c2 hl1 hl2 c5 c6;go_wp2_with fail
      go_loopw [9] (fun i wr=>∃ q:Nat,q≤x.blocks.length∧i=.int .i64 q∧FbS w wr R L∧∀ (j:Nat) y,j<q→x.blocks[j]?=some y→(Qh.fault m.length k x j y).1=0) (fun i _=>x.blocks.length - (intOf i).toNat)
      case atStart=>exact⟨0,Nat.zero_le _,rfl,SB.out,fun j z hj=>absurd hj (Nat.not_lt_zero _)⟩
      case round =>
       obtain⟨q,hq,rfl,hs,hall⟩:=hrel
       have SQ:=QH hs;have HBQ:=QH hall;clear hs hall SB;have q3:=Qb (BX.out _ SQ.out).1 3 _ rfl;by_cases hqt:q<x.blocks.length
       rotate_left
       ·have hqt':¬ (q:Int)<x.blocks.length:=by omega
        go_wp2
        go_roundw
        case rel =>
         refine⟨k+1,by omega,by go_num,DR.out _ SQ.out,fun j f hj hf=>?_⟩
         by_cases hjk:j<k
         ·exact HAQ.out j f hjk hf
         ·have:j=k:=by omega
          subst this;rw[HXK.out] at hf
          cases hf
          rw[EF.out,ZJ fun b y hb=>by rw[Nat.zero_add];exact HBQ.out b y (by have:=(Zi hb).1;omega) hb]
        case measure=>simp[intOf];omega
       have hqt':(q:Int)<x.blocks.length:=by omega
       have hyq:x.blocks[q]?=some x.blocks[q]:=Zg hqt;generalize x.blocks[q]=y at hyq;have HYQ:=QH hyq;have CB:=QH (Qdi (Lay.below HM.out SQ.out.bel) HS.out HXK.out hyq);unfold Rd at CB;obtain⟨bc,bp,hbf⟩:∃ bc bp,Qh.fault m.length k x q y=(bc,bp):=⟨_,_,rfl⟩
       rw[hbf] at CB
       have HBF:=QH hbf;have x0:=Qb (BX.out _ SQ.out).2 0 _ rfl;clear hyq hbf;go_wp2_with fail
       refine CB.out.mono ?_;rintro _ w8 ⟨rfl,b8⟩;have S9:=QH ((SQ.out.below b8).new #[.int .i64 bc,.int .i64 bp] 30);clear b8 CB SQ q3 x0;simp only[QX]
       go_upto_region 29 with fail
       generalize w8.alloc (.cells #[.int .i64 bc,.int .i64 bp] 30)=w9 at S9 ⊢;generalize w8.heap.size=F8 at S9 ⊢;have f0:=Qb (S9.out.box 0 _ rfl) 0 _ rfl;have f1:=Qb (S9.out.box 0 _ rfl) 1 _ rfl;have S8:Hid (FbS w w9 R L):=⟨S9.out.bel,S9.out.ge,S9.out.r,fun i b hb=>S9.out.box (i+1) b hb⟩;clear S9;by_cases hbc:bc=0
       ·subst hbc;go_wp2
        go_roundw
        case rel =>
         refine⟨q+1,by omega,by go_num,S8.out,fun j u hj hu=>?_⟩
         by_cases hjq:j<q
         ·exact HBQ.out j u hjq hu
         ·have:j=q:=by omega
          subst this;rw[HYQ.out] at hu
          cases hu
          rw[HBF.out]
        case measure=>simp[intOf];omega
       ·have d9:(bc != 0)=true:=by simpa using hbc
        have E:modFault m=(bc,bp):=by
         have hF:=Qan (f:=fun b y=>Qh.fault m.length k x b y) (j:=0) HYQ.out (fun j u hj hu=>by rw[Nat.zero_add];exact HBQ.out j u hj hu) (by rw[Nat.zero_add,HBF.out];exact hbc);rw[Nat.zero_add,HBF.out] at hF
         rw[EM.out (by rw[EF.out,hF];exact hbc),EF.out,hF]
        clear hbc;try simp only[QX]
        obtain⟨r0,r1,z0,z1⟩:=S8.out.cells
        have D:=QH (S8.out.fin (bc) (bp));go_wp2_with fail
        generalize World.setCell _ _ _=w99 at D ⊢;exact bodyPost_ret (v:=.agg #[.int .i64 (bc),.int .i64 (bp)]) (by simp[results,results21,go_sem,Qb D.out.1 0 _ rfl,Qb D.out.1 1 _ rfl]) rfl ⟨by first | rfl | rw[E],D.out.2⟩
def MEnd.many (x:MEnd):Nat:=x.args.length+x.yes.regs.length+x.yes.args.length+x.no.regs.length+x.no.args.length
theorem Qf1 {n:Nat}{w:World}{m:List (Qg n)}{p a1:Option Addr}{c N c1:Nat}{x:MEnd}{e:EP}(f b:Int) (hm:(Qaq n).In w All m [.slice p m.length c]) (hsz:x.many<9223372036854775807) (hno:QW m∨150<(N:Int)∨1000<(x.many:Int)∨(modFault m).1≠0) :
 Calls prog 6 #[.agg #[.slice p m.length c],.int .i64 f,.int .i64 b,.slice a1 N c1,.agg (ZT x e)] w fun r w'=>r=.returned (.bool true)∧Below w.heap.size w w':=by
 have b0:=QN w (.cells #[.slice p m.length c] 24);have b1:=b0.trans ((QN (w.alloc (.cells #[.slice p m.length c] 24)) (.cells (ZT x e) 47)).mono b0.size);have HM:Hid ((Qaq n).In w All m [.slice p m.length c]):=hm;have HB:=Qa b1;have x0:=Qi (Qb (Qe w #[.slice p m.length c] 24) 0 _ rfl) (QN (w.alloc (.cells #[.slice p m.length c] 24)) (.cells (ZT x e) 47));have y3:=Qb (Qe (w.alloc (.cells #[.slice p m.length c] 24)) (ZT x e) 47) 3 _ rfl;have y4:=Qb (Qe (w.alloc (.cells #[.slice p m.length c] 24)) (ZT x e) 47) 4 _ rfl;have y6:=Qb (Qe (w.alloc (.cells #[.slice p m.length c] 24)) (ZT x e) 47) 6 _ rfl;have y7:=Qb (Qe (w.alloc (.cells #[.slice p m.length c] 24)) (ZT x e) 47) 7 _ rfl;have y8:=Qb (Qe (w.alloc (.cells #[.slice p m.length c] 24)) (ZT x e) 47) 8 _ rfl;have HNO:=Qa hno;clear hm b1 hno b0;go_enter func6,ntmps6
 go_upto_region 1 with fail
 generalize hw1:(w.alloc (.cells #[.slice p m.length c] 24)).alloc (.cells (ZT x e) 47)=w1 at HB x0 y3 y4 y6 y7 y8 ⊢;clear hw1;have hY:(w.alloc (.cells #[.slice p m.length c] 24)).heap.size=w.heap.size+1:=by show (w.heap.push _).size=_;exact Array.size_push _
 rw[hY] at y3 y4 y6 y7 y8
 clear hY;obtain⟨X,hX⟩:∃ X,w.heap.size=X:=⟨_,rfl⟩
 rw[hX] at x0 y3 y4 y6 y7 y8 ⊢
 rw[← hX]
 have HXE:=Qa hX;go_wp2_with fail
 refine(Qaw w1).mono ?_
 rintro e2 w2 ⟨rfl,b2⟩;have HB2:=Qa (HB.out.trans (b2.mono HB.out.size));have x2:=Qi x0 b2;have y3:=Qi y3 b2;have y4:=Qi y4 b2;have y6:=Qi y6 b2;have y7:=Qi y7 b2;have y8:=Qi y8 b2;clear x0 b2 HB;have CG:=Qa (Qao n m p c w2 (Lay.below HM.out HB2.out));unfold Rd at CG;rw[HXE.out]
 by_cases hg:QW m
 ·rw[QG hg] at CG
  go_wp2_with fail
  refine CG.out.mono ?_;rintro e3 w3 ⟨rfl,b3⟩;have HB3:=Qa (HB2.out.trans (b3.mono HB2.out.size));clear b3 CG;go_wp2_with fail
  go_ret;exact⟨rfl,by first | exact HB3.out | (rw[← HXE.out];exact HB3.out)⟩
 rw[Qx hg] at CG
 by_cases hn:150<(N:Int)
 ·have hn':decide ((N:Int)>150)=true:=decide_eq_true hn;go_wp2_with fail
  refine CG.out.mono ?_;rintro e3 w3 ⟨rfl,b3⟩;have HB3:=Qa (HB2.out.trans (b3.mono HB2.out.size));clear b3 CG;go_wp2_with fail
  go_ret;exact⟨rfl,by first | exact HB3.out | (rw[← HXE.out];exact HB3.out)⟩
 have hn':decide ((N:Int)>150)=false:=decide_eq_false hn;unfold MEnd.many at hsz HNO;by_cases hq:1000<((x.args.length+x.yes.regs.length+x.yes.args.length+x.no.regs.length+x.no.args.length:Nat):Int)
 ·go_wp2_with fail
  refine CG.out.mono ?_;rintro e3 w3 ⟨rfl,b3⟩;have HB3:=Qa (HB2.out.trans (b3.mono HB2.out.size));have y3:=Qi y3 b3;have y4:=Qi y4 b3;have y6:=Qi y6 b3;have y7:=Qi y7 b3;have y8:=Qi y8 b3;clear b3 CG;go_wp2_with fail
  go_ret;exact⟨rfl,by first | exact HB3.out | (rw[← HXE.out];exact HB3.out)⟩
 have hf:(modFault m).1≠0:=by
  rcases HNO.out with h | h | h | h
  ·exact absurd h hg
  ·exact absurd h hn
  ·exact absurd h hq
  ·exact h
 have HMS:=Qa (Qbb hg);go_wp2_with fail
 refine CG.out.mono ?_;rintro e3 w3 ⟨rfl,b3⟩;have HB3:=Qa (HB2.out.trans (b3.mono HB2.out.size));have x3:=Qi x2 b3;have y3:=Qi y3 b3;have y4:=Qi y4 b3;have y6:=Qi y6 b3;have y7:=Qi y7 b3;have y8:=Qi y8 b3;clear b3 CG x2 HB2;have CN:=Qa (Qgs f b hg hf (Lay.below HM.out HB3.out));go_wp2_with fail
 refine CN.out.mono ?_;rintro e4 w4 ⟨rfl,b4⟩;have HB4:=Qa (HB3.out.trans (b4.mono HB3.out.size));have x4:=Qi x3 b4;clear b4 CN x3 HB3 y3 y4 y6 y7 y8;have hf':((modFault m).1==0)=false:=by simpa using hf
 have hf2:((modFault m).1 != 0)=true:=by simpa using hf
 have b5:=QN w4 (.cells #[.int .i64 (modFault m).1,.int .i64 (modFault m).2] 30);have HB5:=Qa (HB4.out.trans (b5.mono HB4.out.size));have x5:=Qi x4 b5;have z50:=Qb (Qe w4 #[.int .i64 (modFault m).1,.int .i64 (modFault m).2] 30) 0 _ rfl;have z51:=Qb (Qe w4 #[.int .i64 (modFault m).1,.int .i64 (modFault m).2] 30) 1 _ rfl;clear b5 x4 HB4;go_upto_region 6 with fail
 generalize hw5:w4.alloc (.cells #[.int .i64 (modFault m).1,.int .i64 (modFault m).2] 30)=w5 at HB5 x5 z50 z51 ⊢;clear hw5;generalize w4.heap.size=F1 at z50 z51 ⊢;have CF:=Qa (QaS (Lay.below HM.out HB5.out) HMS.out);unfold Rd at CF;go_wp2_with fail
 refine CF.out.mono ?_;rintro e6 w6 ⟨rfl,b6⟩;have HB6:=Qa (HB5.out.trans (b6.mono HB5.out.size));have z50:=Qi z50 b6;have z51:=Qi z51 b6;clear b6 CF x5 HB5;have b7:=QN w6 (.cells #[.int .i64 (modFault m).1,.int .i64 (modFault m).2] 30);have HB7:=Qa (HB6.out.trans (b7.mono HB6.out.size));have z50:=Qi z50 b7;have z51:=Qi z51 b7;have z70:=Qb (Qe w6 #[.int .i64 (modFault m).1,.int .i64 (modFault m).2] 30) 0 _ rfl;have z71:=Qb (Qe w6 #[.int .i64 (modFault m).1,.int .i64 (modFault m).2] 30) 1 _ rfl;clear b7 HB6;go_upto_region 7 with fail
 generalize hw7:w6.alloc (.cells #[.int .i64 (modFault m).1,.int .i64 (modFault m).2] 30)=w7 at HB7 z50 z51 z70 z71 ⊢;clear hw7;generalize w6.heap.size=F2 at z70 z71 ⊢;generalize modFault m=mf at hf' hf2 z50 z51 z70 z71 ⊢;obtain⟨mc,ma⟩:=mf
 simp only at hf' hf2 z50 z51 z70 z71 ⊢
 go_wp2_with fail
 go_ret;exact⟨rfl,by first | exact HB7.out | (rw[← HXE.out];exact HB7.out)⟩
def KTo (wA w:World) (b:Nat) (O:Nat→Prop) (s:JSt):Prop:=∃ O',KAt w b O' s∧Zn O O' wA w∧∀ k,O' k→k<w.heap.size
section
variable {w w9 wA:World}{b:Nat}{O:Nat→Prop}{L:List Bool}{s:JSt}
theorem Qk.push2 (h:Qk w b O L){a:Option Addr}{cap cap2 g:Nat}(c0:w.cell? ⟨b,0,none⟩=some (.slice a L.length cap))
 (h1:w9.ownsRow 0 4 1 (.slice (some ⟨g,0,none⟩) (L.length+1) cap2) (L.length+1) (L.map Value.bool++[.bool true])) (h2:w.grownBy w9 (Value.slice a L.length cap).ownBlock) (h3:(Value.slice a L.length cap).ownBlock=some g∨w.heap.size≤g) (h4:g<w9.heap.size) :
 w9.cell? ⟨b,0,none⟩=some (.slice a L.length cap)∧w9.frozen? ⟨b,0,none⟩=false ∧
 Qk (w9.setCell ⟨b,0,none⟩ (.slice (some ⟨g,0,none⟩) (L.length+1) cap2)) b (fun x=>O x∨(w.heap.size≤x∧x<w9.heap.size)) (L++[true])∧Zn O (fun x=>O x∨(w.heap.size≤x∧x<w9.heap.size)) w (w9.setCell ⟨b,0,none⟩ (.slice (some ⟨g,0,none⟩) (L.length+1) cap2)):=by
 obtain⟨v,k1,k2,k3⟩:=h
 have e:=Qb k1 0 _ rfl;rw[c0] at e
 simp only[Option.some.injEq] at e
 subst e;have hbl:b<w.heap.size:=lt_of_block k1
 have hne:∀ g',(Value.slice a L.length cap).ownBlock=some g'→b≠g':=fun g' hg'=>by
  obtain⟨c,hc⟩:=k2.block hg'
  exact QS k1 hc (by decide)
 have kb:w9.heap[b]?=some (.cells #[.slice a L.length cap] 74 (0,0)):=by
  rw[h2.block b hbl (fun e=>hne b e.symm rfl)];exact k1
 have hgb:b≠g:=by
  rcases h3 with h | h
  ·exact hne g h
  ·omega
 have hsz:=h2.size;refine⟨Qb kb 0 _ rfl,Qp kb 0,⟨.slice (some ⟨g,0,none⟩) (L.length+1) cap2,?_,⟨?_,fun g' hg'=>?_⟩,.inl k3⟩,?_⟩
 ·rw[Qo kb];rfl
 ·have:Qec w9 (fun _=>True) 4 (.slice (some ⟨g,0,none⟩) (L.length+1) cap2) ((L++[true]).map Value.bool):=⟨by simpa using h1,fun _ _=>trivial⟩
  exact(this.keep (w':=w9.setCell ⟨b,0,none⟩ (.slice (some ⟨g,0,none⟩) (L.length+1) cap2)) (O':=fun _=>True) (fun g' hg'=>Below.heap_setCell _ _ _ _ (by simp[Value.ownBlock] at hg';subst hg';exact fun e=>hgb e.symm)) (fun _ _=>trivial)).1
 ·simp[Value.ownBlock] at hg'
  subst hg';rcases h3 with h | h
  ·exact .inl (k2.2 _ h)
  ·exact .inr ⟨h,h4⟩
 ·refine⟨h2.os,h2.tape,h2.output,by simp;omega,fun k hk hn=>?_,fun k hk=>hk.imp id fun h=>h.1⟩
  rw[Below.heap_setCell _ _ _ _ (fun e=>hn (by subst e;exact k3)),h2.block k hk (fun e=>hn (k2.2 k e.symm))]
theorem Qk.keep2 {O':Nat→Prop}(h:Qk w b O L) (hb:∀ (g:Nat) (c:Array Value) (t:TypeId),w.heap[g]?=some (Obj.cells c t (0,0))→t=74∨t=4→w9.heap[g]?=w.heap[g]?) (hO:∀ g,O g→O' g):Qk w9 b O' L:=by
 obtain⟨v,h1,h2,h3⟩:=h
 exact⟨v,(hb b _ _ h1 (.inl rfl)).trans h1,h2.keep (fun g hg=>by obtain⟨c,hc⟩:=h2.block hg;exact hb g _ _ hc (.inr rfl)) (fun g hg=>hO g (h2.2 g hg)),hO b h3⟩
theorem KAt.pushH (hO:∀ k,O k→k<wA.heap.size) (h:KAt wA b O s):∃ hh a cap,wA.cell? ⟨b,5,none⟩=some (.pointer (some ⟨hh,0,none⟩))∧wA.cell? ⟨hh,0,none⟩=some (.slice a s.H.length cap)∧wA.ownsRow 0 4 1 (.slice a s.H.length cap) s.H.length (s.H.map Value.bool) ∧
 (∀ w9,wA.grownBy w9 (Value.slice a s.H.length cap).ownBlock→w9.cell? ⟨b,5,none⟩=some (.pointer (some ⟨hh,0,none⟩))∧w9.cell? ⟨hh,0,none⟩=some (.slice a s.H.length cap)∧w9.frozen? ⟨hh,0,none⟩=false) ∧
 ∀ w9 g cap2,w9.ownsRow 0 4 1 (.slice (some ⟨g,0,none⟩) (s.H.length+1) cap2) (s.H.length+1) (s.H.map Value.bool++[.bool true])→wA.grownBy w9 (Value.slice a s.H.length cap).ownBlock→((Value.slice a s.H.length cap).ownBlock=some g∨wA.heap.size≤g)→g<w9.heap.size →
  KTo wA (w9.setCell ⟨hh,0,none⟩ (.slice (some ⟨g,0,none⟩) (s.H.length+1) cap2)) b O { s with H:=s.H++[true] }:=by
 obtain⟨pm,cm,a1,c1,a2,c2,a3,c3,hh,vL,k1,k2,k3,k4,k5,k6⟩:=h
 obtain⟨a,cap,e1,e2,e3,-⟩:=k4.cells
 have hv:∀ g',(Value.slice a s.H.length cap).ownBlock=some g'→O g'∧∃ c,wA.heap[g']?=some (.cells c 4 (0,0)):=by
  obtain⟨v,q1,q2,q3⟩:=id k4
  have e:=Qb q1 0 _ rfl;rw[e1] at e
  simp only[Option.some.injEq] at e
  subst e;exact fun g' hg'=>⟨q2.2 g' hg',q2.block hg'⟩
 obtain⟨ch,hch⟩:∃ c,wA.heap[hh]?=some (.cells c 74 (0,0)):=by obtain⟨v,q1,-⟩:=id k4;exact⟨_,q1⟩
 have hbl:=lt_of_block k1
 have hnb:∀ g',(Value.slice a s.H.length cap).ownBlock=some g'→b≠g':=fun g' hg'=>by
  obtain⟨c,hc⟩:=(hv g' hg').2
  exact QS k1 hc (by decide)
 have hnh:∀ g',(Value.slice a s.H.length cap).ownBlock=some g'→hh≠g':=fun g' hg'=>by
  obtain⟨c,hc⟩:=(hv g' hg').2
  exact QS hch hc (by decide)
 have hbh:b≠hh:=QS k1 hch (by decide);refine⟨hh,a,cap,Qb k1 5 _ rfl,e1,e3,fun w9 hg=>?_,fun w9 g cap2 h1 h2 h3 h4=>?_⟩
 ·have r1:w9.heap[hh]?=some (.cells ch 74 (0,0)):=(hg.block hh k4.lt (fun e=>hnh hh e.symm rfl)).trans hch;exact⟨(hg.cell_far ⟨b,5,none⟩ hbl (fun e=>hnb b e.symm rfl)).trans (Qb k1 5 _ rfl),(hg.cell_far ⟨hh,0,none⟩ k4.lt (fun e=>hnh hh e.symm rfl)).trans e1,Qp r1 0⟩
 obtain⟨-,-,r3,r4⟩:=k4.push2 e1 h1 h2 h3 h4
 have hsz:=h2.size;have low:∀ k,¬ O k→k<wA.heap.size→¬ (O k∨(wA.heap.size≤k∧k<w9.heap.size)):=fun k hk hl e=>by rcases e with e | e;exact hk e;omega
 refine⟨_,⟨pm,cm,a1,c1,a2,c2,a3,c3,hh,vL,?_,(Qaq 6).keep (fun k hk hl=>r4.block k hl hk) low k2,(Zy 6).keep (fun k hk hl=>r4.block k hl hk) low k3,r3,k5.keep (fun k hl hk=>?_) (fun k hk=>?_) low,.inl k6⟩,r4,fun k hk=>?_⟩
 ·rw[Below.heap_setCell _ _ _ _ (show b≠hh from hbh),h2.block b hbl (fun e=>hnb b e.symm rfl)];exact k1
 ·rcases hk with hk | hk
  ·obtain⟨c,hc⟩:=k5.block hk
   rw[Below.heap_setCell _ _ _ _ (show k≠hh from QS hc hch (by decide)),h2.block k hl (fun e=>by obtain⟨c',hc'⟩:=(hv k e.symm).2;exact QS hc hc' (by decide) rfl)]
  ·exact r4.block k hl hk
 ·obtain⟨xs,q1,q2,q3⟩:=k5
  exact .inl (q2 k hk)
 ·rw[World.size_setCell]
  rcases hk with hk | hk
  ·have:=hO k hk;omega
  ·exact hk.2
theorem KAt.setH (hO:∀ k,O k→k<wA.heap.size) (h:KAt wA b O s):∃ hh a cap,wA.cell? ⟨b,5,none⟩=some (.pointer (some ⟨hh,0,none⟩))∧wA.cell? ⟨hh,0,none⟩=some (.slice a s.H.length cap) ∧
 ∀ i,i<s.H.length→∃ g,a=some ⟨g,0,none⟩∧(∃ u,wA.cell? ⟨g,i,none⟩=some (.bool u))∧wA.frozen? ⟨g,i,none⟩=false∧KTo wA (wA.setCell ⟨g,i,none⟩ (.bool false)) b O { s with H:=s.H.set i false }:=by
 obtain⟨pm,cm,a1,c1,a2,c2,a3,c3,hh,vL,k1,k2,k3,k4,k5,k6⟩:=h
 obtain⟨a,cap,e1,e2,e3,e4⟩:=k4.cells
 have hv:∀ g',(Value.slice a s.H.length cap).ownBlock=some g'→O g'∧∃ c,wA.heap[g']?=some (.cells c 4 (0,0)):=by
  obtain⟨v,q1,q2,q3⟩:=id k4
  have e:=Qb q1 0 _ rfl;rw[e1] at e
  simp only[Option.some.injEq] at e
  subst e;exact fun g' hg'=>⟨q2.2 g' hg',q2.block hg'⟩
 refine⟨hh,a,cap,Qb k1 5 _ rfl,e1,fun i hi=>?_⟩
 obtain⟨g,rfl,hg,f1,f2,f3⟩:=e4 i hi
 obtain⟨c,hc⟩:=(hv g rfl).2
 have st:Zn O O wA (wA.setCell ⟨g,i,none⟩ (.bool false)):=⟨rfl,rfl,rfl,by simp,fun k hk hn=>Below.heap_setCell _ _ _ _ (fun e=>hn (by subst e;exact hg)),fun k hk=>.inl hk⟩;refine⟨g,rfl,⟨_,f1⟩,f2,O,⟨pm,cm,a1,c1,a2,c2,a3,c3,hh,vL,?_,(Qaq 6).keep (fun k hk hl=>st.block k hl hk) (fun k hk _=>hk) k2,(Zy 6).keep (fun k hk hl=>st.block k hl hk) (fun k hk _=>hk) k3,f3 false,k5.keep (fun k hl hk=>?_) (fun k hk=>?_) (fun k hk _=>hk),k6⟩,st,fun k hk=>by rw[World.size_setCell];exact hO k hk⟩
 ·rw[Below.heap_setCell _ _ _ _ (show b≠g from QS k1 hc (by decide))];exact k1
 ·rcases hk with hk | hk
  ·obtain⟨c',hc'⟩:=k5.block hk
   exact Below.heap_setCell _ _ _ _ (show k≠g from QS hc' hc (by decide))
  ·exact st.block k hl hk
 ·obtain⟨xs,q1,q2,q3⟩:=k5
  exact q2 k hk
theorem KAt.pushL (hO:∀ k,O k→k<wA.heap.size) (h:KAt wA b O s):∃ aL cL xs,wA.cell? ⟨b,6,none⟩=some (.slice aL s.L.length cL)∧wA.frozen? ⟨b,6,none⟩=false∧s.L.length≤cL∧wA.ownsRow 0 79 3 (.slice aL s.L.length cL) s.L.length xs ∧
 ∀ w9 g cap2 (l:List (TT 6)) ds,ds.length=l.length*3→w9.ownsRow 0 79 3 (.slice (some ⟨g,0,none⟩) (s.L.length+l.length) cap2) (s.L.length+l.length) (xs++ds)→wA.grownBy w9 (Value.slice aL s.L.length cL).ownBlock→((Value.slice aL s.L.length cL).ownBlock=some g∨g=wA.heap.size)→g<w9.heap.size →
  (∀ i x,l[i]?=some x→(Lay.tt 6).In wA (fun g=>¬ O g) x ((ds.drop (i*3)).take 3)) →
  w9.cell? ⟨b,6,none⟩=some (.slice aL s.L.length cL)∧w9.frozen? ⟨b,6,none⟩=false∧KTo wA (w9.setCell ⟨b,6,none⟩ (.slice (some ⟨g,0,none⟩) (s.L.length+l.length) cap2)) b O { s with L:=s.L++l }:=by
 obtain⟨pm,cm,a1,c1,a2,c2,a3,c3,hh,vL,k1,k2,k3,k4,k5,k6⟩:=h
 obtain⟨aL,cL,rfl,-,-⟩:=k5.form
 have hv:∀ {g'},(Value.slice aL s.L.length cL).ownBlock=some g'→O g'∧∃ c,wA.heap[g']?=some (.cells c 79 (0,0)):=fun {g'} hg'=>⟨by obtain⟨xs,q1,q2,q3⟩:=id k5;exact q2 g' hg',k5.block hg'⟩;obtain⟨xs,q1,q2,q3⟩:=k5
 obtain⟨ch,hch⟩:∃ c,wA.heap[hh]?=some (.cells c 74 (0,0)):=by obtain⟨v,q1,-⟩:=id k4;exact⟨_,q1⟩
 have hbl:=lt_of_block k1
 have hnb:∀ g',(Value.slice aL s.L.length cL).ownBlock=some g'→b≠g':=fun g' hg'=>by
  obtain⟨c,hc⟩:=(hv hg').2
  exact QS k1 hc (by decide)
 have hle:s.L.length≤cL:=by
  obtain⟨-,q⟩:=id q1
  rcases q with ⟨e,e2⟩|⟨g,cap,cur,e,_,_,hn,_⟩
  ·omega
  ·simp only[Value.slice.injEq] at e;omega
 refine⟨aL,cL,xs,Qb k1 6 _ rfl,Qp k1 6,hle,q1,fun w9 g cap2 l ds hdl h1 h2 h3 h4 h5=>?_⟩
 have hsz:=h2.size;have kb:=(h2.block b hbl (fun e=>hnb b e.symm rfl)).trans k1
 have hgb:b≠g:=by
  rcases h3 with h | h
  ·exact hnb g h
  ·omega
 have low:∀ k,¬ O k→k<wA.heap.size→¬ (O k∨(wA.heap.size≤k∧k<w9.heap.size)):=fun k hk hl e=>by rcases e with e | e;exact hk e;omega
 have r4:Zn O (fun x=>O x∨(wA.heap.size≤x∧x<w9.heap.size)) wA (w9.setCell ⟨b,6,none⟩ (.slice (some ⟨g,0,none⟩) (s.L.length+l.length) cap2)):=by
  refine⟨h2.os,h2.tape,h2.output,by simp;omega,fun k hk hn=>?_,fun k hk=>hk.imp id fun h=>h.1⟩
  rw[Below.heap_setCell _ _ _ _ (fun e=>hn (by subst e;exact k6)),h2.block k hk (fun e=>hn (hv e.symm).1)]
 refine⟨Qb kb 6 _ rfl,Qp kb 6,_,⟨pm,cm,a1,c1,a2,c2,a3,c3,hh,.slice (some ⟨g,0,none⟩) (s.L.length+l.length) cap2,?_,(Qaq 6).keep (fun k hk hl=>r4.block k hl hk) low k2,(Zy 6).keep (fun k hk hl=>r4.block k hl hk) low k3,k4.keep2 (fun k c t hk ht=>?_) (fun k hk=>.inl hk),?_,.inl k6⟩,r4,fun k hk=>?_⟩
 ·rw[Qo kb];rfl
 ·rw[Below.heap_setCell _ _ _ _ (show k≠b from QS hk k1 (by rcases ht with rfl | rfl<;>decide)),h2.block k (lt_of_block hk) (fun e=>by obtain⟨c',hc'⟩:=(hv e.symm).2;exact QS hk hc' (by rcases ht with rfl | rfl<;>decide) rfl)]
 ·refine⟨xs++ds,?_,fun k hk=>?_,?_⟩
  ·rw[List.length_append]
   exact Qb2 h1 (Below.heap_setCell _ _ _ _ (show g≠b from fun e=>hgb e.symm))
  ·simp[Value.ownBlock] at hk
   subst hk;rcases h3 with h | h
   ·exact .inl (hv h).1
   ·exact .inr ⟨by omega,h4⟩
  ·refine Qa0 (s:=3) (P:=fun x cs=>(Lay.tt 6).In _ _ x cs) q1.1 (fun i x hx=>?_) (fun i x hx=>?_)
   ·exact(Lay.tt 6).keep (fun k hk hl=>r4.block k hl hk) low (q3 i x hx)
   ·exact(Lay.tt 6).keep (fun k hk hl=>r4.block k hl hk) low (h5 i x hx)
 ·rw[World.size_setCell]
  rcases hk with hk | hk
  ·have:=hO k hk;omega
  ·exact hk.2
end
theorem ZE.via {l:List Oper}{S:Nat→Bool}(hcl:ZE l S){q i:Nat}{o:Oper}(ho:l[q]?=some o) (hw:Qbq l 24 o i=true) (hq:S q=true):S i=true :=
 Qa4 (all:=l) (S:=fun j=>S j=true) hcl 24 o hw (hcl q o ho hq)
theorem ZE.no {l:List Oper}{S:Nat→Bool}(hcl:ZE l S){q i:Nat}{o:Oper}(ho:l[q]?=some o) (hw:Qbq l 24 o i=true) (hS:S i=false):S q=false:=by
 cases h:S q with
 | false=>rfl
 | true=>have:=hcl.via ho hw h;rw[hS] at this;cases this
theorem ZL {i j:Nat}{S:Nat→Bool}(h:j≠i):Qat i S j=S j:=by
 have:(j==i)=false:=by simpa using h
 unfold Qat;rw[this,Bool.false_or]
def hTi:List (Nat × Tmp):=[(0,38),(1,39),(2,40),(3,41),(4,42),(5,43),(6,44),(7,45),(8,46),(9,47),(10,48),(11,49),(12,50),(13,51),(14,52)]
def hMv (b hh rn rc G g2 cap2:Nat) (ra:Option Addr):List (Tmp × Value):=[(38,.pointer (some ⟨b,0,none⟩)),(39,.pointer (some ⟨b,0,none⟩)),(40,.pointer (some ⟨b,5,none⟩)),(41,.pointer (some ⟨hh,0,none⟩)),(42,.pointer (some ⟨b,0,none⟩)),(43,.pointer (some ⟨b,0,none⟩)),(44,.pointer (some ⟨b,5,none⟩)),(45,.pointer (some ⟨hh,0,none⟩)),(46,.pointer (some ⟨hh,0,none⟩)),(47,.pointer (some ⟨hh,0,none⟩)),(48,.slice ra rn rc),(49,.slice (some ⟨G,0,none⟩) 1 1),(50,.slice (some ⟨g2,0,none⟩) (rn+1) cap2),(51,.pointer (some ⟨hh,0,none⟩)),(52,.pointer (some ⟨hh,0,none⟩))]
def HIv (n:Nat) (a0:Act) (wA:World) (b:Nat) (O:Nat→Prop) (s:JSt) (hh rn rc:Nat) (ra:Option Addr) (S:Nat→Bool) (a:Act) (w:World):Prop :=
 a.tmps.size=n∧a.defers=[]∧(∀ t,([38,39,40,41,42,43,44,45,46,47,48,49,50,51,52]:List Tmp).contains t=false→a.tmps.getD t undef=a0.tmps.getD t undef)∧∃ G g2 cap2,
  (∀ x∈hTi,S x.1=true→∀ v,(hMv b hh rn rc G g2 cap2 ra).lookup x.2=some v→a.tmps.getD x.2 undef=v) ∧
  (S 15=false→wA.grownBy w (Value.slice ra rn rc).ownBlock∧(S 12=false→Below wA.heap.size wA w∧(S 11=true→wA.heap.size≤G∧w.heap[G]?=some (.cells #[.bool true] 4 (0,0)))) ∧
   (S 12=true→w.ownsRow 0 4 1 (.slice (some ⟨g2,0,none⟩) (rn+1) cap2) (rn+1) (s.H.map Value.bool++[.bool true])∧((Value.slice ra rn rc).ownBlock=some g2∨wA.heap.size≤g2)∧g2<w.heap.size)) ∧
  (S 15=true→KTo wA w b O { s with H:=s.H++[true] })
section
variable {n:Nat}{a0 a:Act}{wA w w':World}{b hh rn rc:Nat}{O:Nat→Prop}{s:JSt}{ra:Option Addr}{S:Nat→Bool}
theorem hTi_lt:∀ x∈hTi,x.2<53∧([38,39,40,41,42,43,44,45,46,47,48,49,50,51,52]:List Tmp).contains x.2=true:=by decide
theorem HIv.pure {i:Nat}{t:Tmp}{v:Value}(hI:HIv n a0 wA b O s hh rn rc ra S a w) (hn:53≤n) (hi:(i,t)∈hTi) (hv:∀ G g2 cap2,(hMv b hh rn rc G g2 cap2 ra).lookup t=some v) (h11:i≠11) (h12:i≠12) (h15:i≠15):HIv n a0 wA b O s hh rn rc ra (Qat i S) (a.put (some t) v) w:=by
 obtain⟨h1,h2,h3,G,g2,cap2,h4,h5,h6⟩:=hI
 obtain⟨ht,htc⟩:=hTi_lt _ hi
 have hta:t<a.tmps.size:=by rw[h1];exact Zl ht hn
 refine⟨by rw[← h1];simp[Act.put],h2,fun u hu=>?_,G,g2,cap2,fun x hx hs v' hv'=>?_,?_,?_⟩
 ·have:u≠t:=fun e=>by subst e;rw[htc] at hu;cases hu
  rw[Q8 hta,if_neg this];exact h3 u hu
 ·rw[Q8 hta]
  by_cases e:x.2=t
  ·rw[if_pos e];rw[e,hv] at hv';exact Option.some.inj hv'
  ·rw[if_neg e]
   refine h4 x hx (QY (fun e2=>e ?_) hs) v' hv'
   have:∀ x∈hTi,∀ y∈hTi,x.1=y.1→x.2=y.2:=by decide
   exact this x hx (i,t) hi e2
 ·rw[ZL (Ne.symm h15),ZL (Ne.symm h12),ZL (Ne.symm h11)];exact h5
 ·rw[ZL (Ne.symm h15)];exact h6
end
def TRi (w:World) (lo hi:Nat) (v:Value) (ts:List (TT 6)):Prop :=
 ∃ xs,w.ownsRow 0 79 3 v ts.length xs∧(∀ g,v.ownBlock=some g→lo≤g∧g<hi)∧∀ i x,ts[i]?=some x→(Lay.tt 6).In w (fun k=>lo≤k∧k<hi∧v.ownBlock≠some k) x ((xs.drop (i*3)).take 3)
theorem TRi.below {w w':World}{lo hi:Nat}{v:Value}{ts:List (TT 6)}(h:TRi w lo hi v ts) (k:Below w.heap.size w w'):TRi w' lo hi v ts:=by
 obtain⟨xs,⟨h1,h2⟩,h3,h4⟩:=h
 refine⟨xs,⟨h1,?_⟩,h3,fun i x hx=>Lay.below (h4 i x hx) k⟩
 rcases h2 with h5 | ⟨g,cap,cur,rfl,hg,hh,r⟩
 ·exact .inl h5
 ·exact .inr ⟨g,cap,cur,rfl,hg,(k.block g (lt_of_block hh)).trans hh,r⟩
theorem TRi.of_row {w:World}{lo:Nat}{v:Value}{ts:List (TT 6)}{xs:List Value}(h:Qcw w lo v ts xs) (hok:∀ x∈ts,x.ok):TRi w lo w.heap.size v ts:=by
 have hl:=fun {g} hg=>h.lo_le (g:=g) hg;obtain⟨⟨h1,h2⟩,h3⟩:=h
 refine⟨xs,⟨h1,?_⟩,fun g hg=>hl hg,fun i x hx=>?_⟩
 ·rcases h2 with h5 | ⟨g,cap,cur,rfl,hg,r⟩
  ·exact .inl h5
  ·exact .inr ⟨g,cap,cur,rfl,Nat.zero_le _,r⟩
 ·obtain⟨a,c,e0,e1,e2,k⟩:=h3 i x hx
  refine⟨a,c,?_,k.mono (fun g hg hgl=>⟨hg.1,hgl,hg.2⟩),hok x (Zm hx)⟩
  have hi:i<ts.length:=(Zi hx).1;refine List.ext_getElem? fun j=>?_;rw[List.getElem?_take,List.getElem?_drop]
  match j with
  | 0=>simpa using e0
  | 1=>simpa using e1
  | 2=>simpa using e2
  | j+3=>rw[if_neg (by omega)];rfl
structure KZ where
 h:Nat
 lo:Nat
 hi:Nat
 lo2:Nat
 hi2:Nat
 B:Nat
 c:Nat
 a:Option Addr
def kTi:List (Nat × Tmp):=[(0,17),(1,18),(2,19),(3,20),(4,21),(5,22),(6,23),(7,24),(8,25),(9,26),(10,27),(11,28),(12,29),(13,30),(14,6)]
def kMv (X mg mo nm cm fi Bk n1 d1 fl fc fm fd fn ff:Nat) (fr gr:Int) (fa fb fe p1:Option Addr) (z:KZ):List (Tmp × Value):=[(17,.agg #[.slice (some ⟨mg,mo,none⟩) nm cm]),(18,.pointer (some ⟨X,0,none⟩)),(19,.slice (some ⟨mg,mo,none⟩) nm cm),(20,.int .i64 (fi:Int)),(21,.pointer (some ⟨mg,mo+fi*4,none⟩)),(22,.agg #[.int .i64 fr,.slice fa fl fc,.slice fb fm fd,.slice fe fn ff]),(23,.pointer (some ⟨Bk,0,none⟩)),(24,.int .i64 gr),(25,.pointer (some ⟨z.h,0,none⟩)),(26,.pointer (some ⟨Bk,1,none⟩)),(27,.slice p1 n1 d1),(28,.slice z.a n1 z.c),(29,.agg #[.slice (some ⟨mg,mo,none⟩) nm cm,.int .i64 fr,.slice fa fl fc,.slice fb fm fd,.slice fe fn ff,.pointer (some ⟨z.h,0,none⟩),.slice z.a n1 z.c]),(30,.pointer (some ⟨z.B,0,none⟩)),(6,.pointer (some ⟨z.B,0,none⟩))]
structure KIv (X mg mo nm cm fi Bk n1 d1 fl fc fm fd fn ff:Nat) (fr gr:Int) (fa fb fe p1:Option Addr) (n:Nat) (a0:Act) (w6:World) (ts:List (TT 6)) (z:KZ) (S:Nat→Bool) (a:Act) (w:World):Prop where
 size:a.tmps.size=n
 defers:a.defers=[]
 outer:∀ t,([17,18,19,20,21,22,23,24,25,26,27,28,29,30,6]:List Tmp).contains t=false→a.tmps.getD t undef=a0.tmps.getD t undef
 vals:∀ x∈kTi,S x.1=true→∀ v,(kMv X mg mo nm cm fi Bk n1 d1 fl fc fm fd fn ff fr gr fa fb fe p1 z).lookup x.2=some v→a.tmps.getD x.2 undef=v
 bel:Below w6.heap.size w6 w
 held:S 8=true→w6.heap.size≤z.lo∧z.hi≤w.heap.size∧Qk w z.h (fun k=>z.lo≤k∧k<z.hi) (Qcy gr)
 row:S 11=true→w6.heap.size≤z.lo2∧z.hi2≤w.heap.size∧TRi w z.lo2 z.hi2 (.slice z.a n1 z.c) ts
 apart:S 8=true→S 11=true→z.hi≤z.lo2∨z.hi2≤z.lo
 box:S 13=true→w6.heap.size≤z.B∧z.hi≤z.B∧z.hi2≤z.B∧Blk w z.B #[.slice (some ⟨mg,mo,none⟩) nm cm,.int .i64 fr,.slice fa fl fc,.slice fb fm fd,.slice fe fn ff,.pointer (some ⟨z.h,0,none⟩),.slice z.a n1 z.c] 65
section
variable {X mg mo nm cm fi Bk n1 d1 fl fc fm fd fn ff:Nat}{fr gr:Int}{fa fb fe p1:Option Addr}{n:Nat}{a0 a:Act}{w6 w w':World}{ts:List (TT 6)}{z:KZ}{S:Nat→Bool}
theorem kTi_lt:∀ x∈kTi,x.2<31∧([17,18,19,20,21,22,23,24,25,26,27,28,29,30,6]:List Tmp).contains x.2=true:=by decide
theorem kTi_ne:∀ x∈kTi,∀ y∈kTi,x.1=y.1→x.2=y.2:=by decide
theorem KIv.put {z':KZ}{i:Nat}{t:Tmp}{v:Value}(hI:KIv X mg mo nm cm fi Bk n1 d1 fl fc fm fd fn ff fr gr fa fb fe p1 n a0 w6 ts z S a w) (hn:31≤n) (hi:(i,t)∈kTi) (hv:(kMv X mg mo nm cm fi Bk n1 d1 fl fc fm fd fn ff fr gr fa fb fe p1 z').lookup t=some v) (hz:∀ x∈kTi,x.1≠i→S x.1=true→(kMv X mg mo nm cm fi Bk n1 d1 fl fc fm fd fn ff fr gr fa fb fe p1 z').lookup x.2=(kMv X mg mo nm cm fi Bk n1 d1 fl fc fm fd fn ff fr gr fa fb fe p1 z).lookup x.2)
 (h1:Below w6.heap.size w6 w') (h2:Qat i S 8=true→w6.heap.size≤z'.lo∧z'.hi≤w'.heap.size∧Qk w' z'.h (fun k=>z'.lo≤k∧k<z'.hi) (Qcy gr)) (h3:Qat i S 11=true→w6.heap.size≤z'.lo2∧z'.hi2≤w'.heap.size∧TRi w' z'.lo2 z'.hi2 (.slice z'.a n1 z'.c) ts)
 (h4:Qat i S 8=true→Qat i S 11=true→z'.hi≤z'.lo2∨z'.hi2≤z'.lo) (h5:Qat i S 13=true→w6.heap.size≤z'.B∧z'.hi≤z'.B∧z'.hi2≤z'.B∧Blk w' z'.B #[.slice (some ⟨mg,mo,none⟩) nm cm,.int .i64 fr,.slice fa fl fc,.slice fb fm fd,.slice fe fn ff,.pointer (some ⟨z'.h,0,none⟩),.slice z'.a n1 z'.c] 65) :
 KIv X mg mo nm cm fi Bk n1 d1 fl fc fm fd fn ff fr gr fa fb fe p1 n a0 w6 ts z' (Qat i S) (a.put (some t) v) w':=by
 obtain⟨ht,htc⟩:=kTi_lt _ hi
 have hta:t<a.tmps.size:=by rw[hI.size];exact Zl ht hn
 refine⟨by rw[← hI.size];simp[Act.put],hI.defers,fun u hu=>?_,fun x hx hs v' hv'=>?_,h1,h2,h3,h4,h5⟩
 ·have:u≠t:=fun e=>by subst e;rw[htc] at hu;cases hu
  rw[Q8 hta,if_neg this];exact hI.outer u hu
 ·rw[Q8 hta]
  by_cases e:x.2=t
  ·rw[if_pos e];rw[e,hv] at hv';exact Option.some.inj hv'
  ·rw[if_neg e]
   have hne:x.1≠i:=fun e2=>e (kTi_ne x hx (i,t) hi e2);have hs':=QY hne hs;rw[hz x hx hne hs'] at hv'
   exact hI.vals x hx hs' v' hv'
theorem KIv.pure {i:Nat}{t:Tmp}{v:Value}(hI:KIv X mg mo nm cm fi Bk n1 d1 fl fc fm fd fn ff fr gr fa fb fe p1 n a0 w6 ts z S a w) (hn:31≤n) (hi:(i,t)∈kTi) (hv:(kMv X mg mo nm cm fi Bk n1 d1 fl fc fm fd fn ff fr gr fa fb fe p1 z).lookup t=some v) (h8:i≠8) (h11:i≠11) (h13:i≠13):KIv X mg mo nm cm fi Bk n1 d1 fl fc fm fd fn ff fr gr fa fb fe p1 n a0 w6 ts z (Qat i S) (a.put (some t) v) w:=by
 refine hI.put hn hi hv (fun _ _ _ _=>rfl) hI.bel ?_ ?_ ?_ ?_
 ·rw[ZL (Ne.symm h8)];exact hI.held
 ·rw[ZL (Ne.symm h11)];exact hI.row
 ·rw[ZL (Ne.symm h8),ZL (Ne.symm h11)];exact hI.apart
 ·rw[ZL (Ne.symm h13)];exact hI.box
end
def Qly (X mg mo nm cm fi Bk n1 d1 fl fc fm fd fn ff:Nat) (fr gr:Int) (fa fb fe p1:Option Addr) (w6 w':World) (ts:List (TT 6)) (B:Nat):Prop :=
 ∃ h vL O',Blk w' B #[.slice (some ⟨mg,mo,none⟩) nm cm,.int .i64 fr,.slice fa fl fc,.slice fb fm fd,.slice fe fn ff,.pointer (some ⟨h,0,none⟩),vL] 65∧Qk w' h O' (Qcy gr)∧(∃ xs,w'.ownsRow 0 79 3 vL ts.length xs∧(∀ g,vL.ownBlock=some g→O' g)∧∀ i x,ts[i]?=some x→(Lay.tt 6).In w' (fun g=>¬ O' g∧w6.heap.size≤g) x ((xs.drop (i*3)).take 3))∧O' B∧(∀ k,O' k→w6.heap.size≤k∧k<w'.heap.size)∧Below w6.heap.size w6 w'
theorem KIv.fin {X mg mo nm cm fi Bk n1 d1 fl fc fm fd fn ff:Nat}{fr gr:Int}{fa fb fe p1:Option Addr}{n:Nat}{a0 a:Act}{w6 w:World}{ts:List (TT 6)}{z:KZ}{S:Nat→Bool}(hI:KIv X mg mo nm cm fi Bk n1 d1 fl fc fm fd fn ff fr gr fa fb fe p1 n a0 w6 ts z S a w) (h8:S 8=true) (h11:S 11=true) (h13:S 13=true):Qly X mg mo nm cm fi Bk n1 d1 fl fc fm fd fn ff fr gr fa fb fe p1 w6 w ts z.B:=by
 obtain⟨p1,p2,p3⟩:=hI.held h8
 obtain⟨q1,q2,xs,q3,q4,q5⟩:=hI.row h11
 have ha:=hI.apart h8 h11;obtain⟨r1,r2,r3,r4⟩:=hI.box h13
 have hBl:=lt_of_block r4;refine⟨z.h,_,fun k=>k=z.B∨(z.lo≤k∧k<z.hi)∨(Value.slice z.a n1 z.c).ownBlock=some k,r4,p3.mono (fun k hk=>.inr (.inl hk)),⟨xs,q3,fun g hg=>.inr (.inr hg),fun i x hx=>?_⟩,.inl rfl,fun k hk=>?_,hI.bel⟩
 ·refine(Lay.tt 6).keep (fun _ _ _=>rfl) (fun k hk hl=>⟨fun e=>?_,by omega⟩) (q5 i x hx)
  rcases e with e | e | e
  ·omega
  ·omega
  ·exact hk.2.2 e
 ·rcases hk with rfl | hk | hk
  ·exact⟨r1,hBl⟩
  ·omega
  ·have:=q4 k hk;omega
theorem ka2 {X mg mo nm cm fi Bk n1 d1 fl fc fm fd fn ff:Nat}{fr gr:Int}{fa fb fe p1:Option Addr}{w6:World}{Q:Nat→Prop}{ts:List (TT 6)}(x0:w6.cell? ⟨X,0,none⟩=some (.slice (some ⟨mg,mo,none⟩) nm cm)) (hfi:(fi:Int)<nm) (f0:w6.cell? ⟨mg,mo+fi*4,none⟩=some (.int .i64 fr)) (f1:w6.cell? ⟨mg,mo+fi*4+1,none⟩=some (.slice fa fl fc)) (f2:w6.cell? ⟨mg,mo+fi*4+2,none⟩=some (.slice fb fm fd)) (f3:w6.cell? ⟨mg,mo+fi*4+3,none⟩=some (.slice fe fn ff))
 (y0:w6.cell? ⟨Bk,0,none⟩=some (.int .i64 gr)) (y1:w6.cell? ⟨Bk,1,none⟩=some (.slice p1 n1 d1)) (HN:Hid (ts.length=n1)) (HT:Hid ((Qm 6).In w6 Q ts [.slice p1 n1 d1])) (HC:Hid (∀ t∈ts,t.count≤100000)) (hn1:n1≤100000)
 (a:Act) (hn:a.tmps.size=31) (hdf:a.defers=[]) (h3:a.tmps.getD 3 undef=.pointer (some ⟨X,0,none⟩)) (h1:a.tmps.getD 1 undef=.int .i64 (fi:Int)) (h7:a.tmps.getD 7 undef=.pointer (some ⟨Bk,0,none⟩)) :
 Code.wp prog ((Tryz.f22.body.bind (Qj 2)).getD .skip) (fun e a' w'=>e=.normal∧∃ vs,a'=Q5 a vs [17,18,19,20,21,22,23,24,25,26,27,28,29,30,6]∧∃ B,vs 6=.pointer (some ⟨B,0,none⟩)∧Qly X mg mo nm cm fi Bk n1 d1 fl fc fm fd fn ff fr gr fa fb fe p1 w6 w' ts B) a w6:=by
 conv=>arg 2;whnf
 refine QdN (fun S a1 w1=>∃ z,KIv X mg mo nm cm fi Bk n1 d1 fl fc fm fd fn ff fr gr fa fb fe p1 31 a w6 ts z S a1 w1) (by kernel_rfl) (by kernel_rfl) ?h0 ?hst ?hend
 case h0=>exact⟨⟨0,0,0,0,0,0,0,none⟩,⟨hn,hdf,fun _ _=>rfl,fun _ _ h=>(by cases h),Qf Zr 1,fun h=>(by cases h),fun h=>(by cases h),fun h=>(by cases h),fun h=>(by cases h)⟩⟩
 case hend =>
  rintro S a' w' hS ⟨z,hI⟩;have hS':∀ j,j<15→S j=true:=hS;exact⟨rfl,_,QfD (by rw[hI.size,hn]) (by rw[hI.defers,hdf]) hI.outer,z.B,hI.vals (14,6) (by decide) (hS' 14 (by decide)) _ rfl,hI.fin (hS' 8 (by decide)) (hS' 11 (by decide)) (hS' 13 (by decide))⟩
 case hst =>
  refine⟨fun S a1 w1 hS hd hcl hI0 K hK=>?_,?_⟩
  ·obtain⟨z,hI⟩:=hI0
   have hb:=hI.bel;have k0:a1.tmps.getD 3 undef=.pointer (some ⟨X,0,none⟩):=(hI.outer 3 (by kernel_rfl)).trans h3;have c0:=Qi x0 hb;go_simp;exact hK _ _ ⟨z,hI.pure (by decide) (i:=0) (t:=17) (by decide) rfl (by decide) (by decide) (by decide)⟩
  refine⟨fun S a1 w1 hS hd hcl hI0 K hK=>?_,?_⟩
  ·obtain⟨z,hI⟩:=hI0
   have hb:=hI.bel;have k0:a1.tmps.getD 3 undef=.pointer (some ⟨X,0,none⟩):=(hI.outer 3 (by kernel_rfl)).trans h3;go_simp;exact hK _ _ ⟨z,hI.pure (by decide) (i:=1) (t:=18) (by decide) rfl (by decide) (by decide) (by decide)⟩
  refine⟨fun S a1 w1 hS hd hcl hI0 K hK=>?_,?_⟩
  ·obtain⟨z,hI⟩:=hI0
   have hb:=hI.bel;have k0:a1.tmps.getD 18 undef=.pointer (some ⟨X,0,none⟩):=hI.vals (1,18) (by decide) (hd.at 1 (by kernel_rfl)) _ rfl;have c0:=Qi x0 hb;go_simp;exact hK _ _ ⟨z,hI.pure (by decide) (i:=2) (t:=19) (by decide) rfl (by decide) (by decide) (by decide)⟩
  refine⟨fun S a1 w1 hS hd hcl hI0 K hK=>?_,?_⟩
  ·obtain⟨z,hI⟩:=hI0
   have hb:=hI.bel;have k0:a1.tmps.getD 1 undef=.int .i64 (fi:Int):=(hI.outer 1 (by kernel_rfl)).trans h1;go_simp;exact hK _ _ ⟨z,hI.pure (by decide) (i:=3) (t:=20) (by decide) rfl (by decide) (by decide) (by decide)⟩
  refine⟨fun S a1 w1 hS hd hcl hI0 K hK=>?_,?_⟩
  ·obtain⟨z,hI⟩:=hI0
   have hb:=hI.bel;have k0:a1.tmps.getD 19 undef=.slice (some ⟨mg,mo,none⟩) nm cm:=hI.vals (2,19) (by decide) (hd.at 2 (by kernel_rfl)) _ rfl;have k1:a1.tmps.getD 20 undef=.int .i64 (fi:Int):=hI.vals (3,20) (by decide) (hd.at 3 (by kernel_rfl)) _ rfl;go_simp;exact hK _ _ ⟨z,hI.pure (by decide) (i:=4) (t:=21) (by decide) rfl (by decide) (by decide) (by decide)⟩
  refine⟨fun S a1 w1 hS hd hcl hI0 K hK=>?_,?_⟩
  ·obtain⟨z,hI⟩:=hI0
   have hb:=hI.bel;have k0:a1.tmps.getD 21 undef=.pointer (some ⟨mg,mo+fi*4,none⟩):=hI.vals (4,21) (by decide) (hd.at 4 (by kernel_rfl)) _ rfl;have c0:=Qi f0 hb;have c1:=Qi f1 hb;have c2:=Qi f2 hb;have c3:=Qi f3 hb;go_simp;exact hK _ _ ⟨z,hI.pure (by decide) (i:=5) (t:=22) (by decide) rfl (by decide) (by decide) (by decide)⟩
  refine⟨fun S a1 w1 hS hd hcl hI0 K hK=>?_,?_⟩
  ·obtain⟨z,hI⟩:=hI0
   have hb:=hI.bel;have k0:a1.tmps.getD 7 undef=.pointer (some ⟨Bk,0,none⟩):=(hI.outer 7 (by kernel_rfl)).trans h7;go_simp;exact hK _ _ ⟨z,hI.pure (by decide) (i:=6) (t:=23) (by decide) rfl (by decide) (by decide) (by decide)⟩
  refine⟨fun S a1 w1 hS hd hcl hI0 K hK=>?_,?_⟩
  ·obtain⟨z,hI⟩:=hI0
   have hb:=hI.bel;have k0:a1.tmps.getD 23 undef=.pointer (some ⟨Bk,0,none⟩):=hI.vals (6,23) (by decide) (hd.at 6 (by kernel_rfl)) _ rfl;have c0:=Qi y0 hb;go_simp;exact hK _ _ ⟨z,hI.pure (by decide) (i:=7) (t:=24) (by decide) rfl (by decide) (by decide) (by decide)⟩
  refine⟨fun S a1 w1 hS hd hcl hI0 K hK=>?_,?_⟩
  ·obtain⟨z,hI⟩:=hI0
   have hb:=hI.bel;have k0:a1.tmps.getD 24 undef=.int .i64 gr:=hI.vals (7,24) (by decide) (hd.at 7 (by kernel_rfl)) _ rfl;have n12:S 12=false:=hcl.no (q:=12) rfl (by kernel_rfl) hS;have n13:S 13=false:=hcl.no (q:=13) rfl (by kernel_rfl) hS;have n14:S 14=false:=hcl.no (q:=14) rfl (by kernel_rfl) hS;go_simp;refine(Qef w1 gr).mono ?_
   rintro e w9 ⟨rfl,r1,r2⟩;have hs1:=hb.size;have hs2:=r2.size;refine hK _ _ ⟨{ z with h:=w1.heap.size,lo:=w1.heap.size,hi:=w9.heap.size },hI.put (by decide) (i:=8) (t:=25) (by decide) rfl (fun x hx hne hs=>?_) (hb.trans (r2.mono hs1)) (fun _=>⟨hs1,Ze,r1⟩) (fun hs=>?_) (fun _ hs=>?_) (fun hs=>?_)⟩
   ·simp only[kTi,List.mem_cons,List.not_mem_nil,or_false] at hx
    rcases hx with rfl | rfl | rfl | rfl | rfl | rfl | rfl | rfl | rfl | rfl | rfl | rfl | rfl | rfl | rfl
    all_goals first | rfl | (exact absurd hs (by rw[n12];decide)) | (exact absurd rfl hne)
   ·rw[ZL (by decide)] at hs
    obtain⟨q1,q2,q3⟩:=hI.row hs
    exact⟨q1,Zt q2 hs2,q3.below r2⟩
   ·rw[ZL (by decide)] at hs
    exact .inr (hI.row hs).2.1
   ·rw[ZL (by decide),n13] at hs;cases hs
  refine⟨fun S a1 w1 hS hd hcl hI0 K hK=>?_,?_⟩
  ·obtain⟨z,hI⟩:=hI0
   have hb:=hI.bel;have k0:a1.tmps.getD 7 undef=.pointer (some ⟨Bk,0,none⟩):=(hI.outer 7 (by kernel_rfl)).trans h7;go_simp;exact hK _ _ ⟨z,hI.pure (by decide) (i:=9) (t:=26) (by decide) rfl (by decide) (by decide) (by decide)⟩
  refine⟨fun S a1 w1 hS hd hcl hI0 K hK=>?_,?_⟩
  ·obtain⟨z,hI⟩:=hI0
   have hb:=hI.bel;have k0:a1.tmps.getD 26 undef=.pointer (some ⟨Bk,1,none⟩):=hI.vals (9,26) (by decide) (hd.at 9 (by kernel_rfl)) _ rfl;have c0:=Qi y1 hb;go_simp;exact hK _ _ ⟨z,hI.pure (by decide) (i:=10) (t:=27) (by decide) rfl (by decide) (by decide) (by decide)⟩
  refine⟨fun S a1 w1 hS hd hcl hI0 K hK=>?_,?_⟩
  ·obtain⟨z,hI⟩:=hI0
   have hb:=hI.bel;have k0:a1.tmps.getD 27 undef=.slice p1 n1 d1:=hI.vals (10,27) (by decide) (hd.at 10 (by kernel_rfl)) _ rfl;have n12:S 12=false:=hcl.no (q:=12) rfl (by kernel_rfl) hS;have n13:S 13=false:=hcl.no (q:=13) rfl (by kernel_rfl) hS;have n14:S 14=false:=hcl.no (q:=14) rfl (by kernel_rfl) hS
   have CL:Calls prog 37 #[.slice p1 n1 d1] w1 fun e w'=>∃ a' c',e=.returned (.slice a' n1 c')∧TRi w' w1.heap.size w'.heap.size (.slice a' n1 c') ts∧Below w1.heap.size w1 w':=by
    obtain⟨tl,tok⟩:=QJ (Lay.below HT.out hb)
    have:=QfS 6 (own_any 6) ts p1 d1 w1 tl.all (by rw[HN.out];exact hn1) HC.out
    rw[HN.out] at this
    refine this.mono ?_;rintro e w9 ⟨a',c',rfl,⟨xs,hr⟩,hb9⟩;exact⟨a',c',rfl,TRi.of_row hr tok,hb9⟩
   go_simp;refine CL.mono ?_;rintro e w9 ⟨a',c',rfl,r1,r2⟩;have hs1:=hb.size;have hs2:=r2.size;refine hK _ _ ⟨{ z with a:=a',c:=c',lo2:=w1.heap.size,hi2:=w9.heap.size },hI.put (by decide) (i:=11) (t:=28) (by decide) rfl (fun x hx hne hs=>?_) (hb.trans (r2.mono hs1)) (fun hs=>?_) (fun _=>⟨hs1,Ze,r1⟩) (fun hs _=>?_) (fun hs=>?_)⟩
   ·simp only[kTi,List.mem_cons,List.not_mem_nil,or_false] at hx
    rcases hx with rfl | rfl | rfl | rfl | rfl | rfl | rfl | rfl | rfl | rfl | rfl | rfl | rfl | rfl | rfl
    all_goals first | rfl | (exact absurd hs (by rw[n12];decide)) | (exact absurd rfl hne)
   ·rw[ZL (by decide)] at hs
    obtain⟨q1,q2,q3⟩:=hI.held hs
    exact⟨q1,Zt q2 hs2,q3.below r2⟩
   ·rw[ZL (by decide)] at hs
    exact .inl (hI.held hs).2.1
   ·rw[ZL (by decide),n13] at hs;cases hs
  refine⟨fun S a1 w1 hS hd hcl hI0 K hK=>?_,?_⟩
  ·obtain⟨z,hI⟩:=hI0
   have hb:=hI.bel;have k0:a1.tmps.getD 17 undef=.agg #[.slice (some ⟨mg,mo,none⟩) nm cm]:=hI.vals (0,17) (by decide) (hd.at 0 (by kernel_rfl)) _ rfl;have k1:a1.tmps.getD 22 undef=.agg #[.int .i64 fr,.slice fa fl fc,.slice fb fm fd,.slice fe fn ff]:=hI.vals (5,22) (by decide) (hd.at 5 (by kernel_rfl)) _ rfl;have k2:a1.tmps.getD 25 undef=.pointer (some ⟨z.h,0,none⟩):=hI.vals (8,25) (by decide) (hd.at 8 (by kernel_rfl)) _ rfl;have k3:a1.tmps.getD 28 undef=.slice z.a n1 z.c:=hI.vals (11,28) (by decide) (hd.at 11 (by kernel_rfl)) _ rfl;have m0:a1.tmps[17]?.getD undef=.agg #[.slice (some ⟨mg,mo,none⟩) nm cm]:=by rw[← Za];exact k0
   have m1:a1.tmps[22]?.getD undef=.agg #[.int .i64 fr,.slice fa fl fc,.slice fb fm fd,.slice fe fn ff]:=by rw[← Za];exact k1
   have m2:a1.tmps[25]?.getD undef=.pointer (some ⟨z.h,0,none⟩):=by rw[← Za];exact k2
   have m3:a1.tmps[28]?.getD undef=.slice z.a n1 z.c:=by rw[← Za];exact k3
   clear k0 k1 k2 k3;go_simp;exact hK _ _ ⟨z,hI.pure (by decide) (i:=12) (t:=29) (by decide) rfl (by decide) (by decide) (by decide)⟩
  refine⟨fun S a1 w1 hS hd hcl hI0 K hK=>?_,?_⟩
  ·obtain⟨z,hI⟩:=hI0
   have hb:=hI.bel;have k0:a1.tmps.getD 29 undef=.agg #[.slice (some ⟨mg,mo,none⟩) nm cm,.int .i64 fr,.slice fa fl fc,.slice fb fm fd,.slice fe fn ff,.pointer (some ⟨z.h,0,none⟩),.slice z.a n1 z.c]:=hI.vals (12,29) (by decide) (hd.at 12 (by kernel_rfl)) _ rfl;have n14:S 14=false:=hcl.no (q:=14) rfl (by kernel_rfl) hS;have s8:S 8=true:=(hcl.via (q:=12) rfl (by kernel_rfl) (hd.at 12 (by kernel_rfl)));have s11:S 11=true:=(hcl.via (q:=12) rfl (by kernel_rfl) (hd.at 12 (by kernel_rfl)));go_simp;have b9:=QN w1 (.cells #[.slice (some ⟨mg,mo,none⟩) nm cm,.int .i64 fr,.slice fa fl fc,.slice fb fm fd,.slice fe fn ff,.pointer (some ⟨z.h,0,none⟩),.slice z.a n1 z.c] 65);have hs1:=hb.size;have hs2:=b9.size;refine hK _ _ ⟨{ z with B:=w1.heap.size },hI.put (by decide) (i:=13) (t:=30) (by decide) rfl (fun x hx hne hs=>?_) (hb.trans (b9.mono hs1)) (fun hs=>?_) (fun hs=>?_) (fun _ _=>hI.apart s8 s11) (fun hs=>⟨hs1,(hI.held s8).2.1,(hI.row s11).2.1,Qe _ _ _⟩)⟩
   ·simp only[kTi,List.mem_cons,List.not_mem_nil,or_false] at hx
    rcases hx with rfl | rfl | rfl | rfl | rfl | rfl | rfl | rfl | rfl | rfl | rfl | rfl | rfl | rfl | rfl
    all_goals first | rfl | (exact absurd hs (by rw[n14];decide)) | (exact absurd rfl hne)
   ·obtain⟨q1,q2,q3⟩:=hI.held s8
    exact⟨q1,Zt q2 hs2,q3.below b9⟩
   ·obtain⟨q1,q2,q3⟩:=hI.row s11
    exact⟨q1,Zt q2 hs2,q3.below b9⟩
  refine⟨fun S a1 w1 hS hd hcl hI0 K hK=>?_,?_⟩
  ·obtain⟨z,hI⟩:=hI0
   have hb:=hI.bel;have k0:a1.tmps.getD 30 undef=.pointer (some ⟨z.B,0,none⟩):=hI.vals (13,30) (by decide) (hd.at 13 (by kernel_rfl)) _ rfl;go_simp;exact hK _ _ ⟨z,hI.pure (by decide) (i:=14) (t:=6) (by decide) rfl (by decide) (by decide) (by decide)⟩
  trivial
theorem QgP {w:World}{b:Nat}{O:Nat→Prop}{s:JSt}{x:Qy}{rg ag:Option Addr}{rc ac:Nat}(hO:∀ k,O k→k<w.heap.size) (hJ:JOk s) (h:KAt w b O s) (hop:x.op=3) :
 Calls prog 73 #[.pointer (some ⟨b,0,none⟩),QaR x rg ag rc ac] w fun e w'=>QO w O (s.makes x).1 (s.makes x).2 e w':=by
 have E:Hid (s.makes x=(if s.H.length=16 then (2,[]) else (0,[mkT 2 s.H.length []]))):=QaF hop;have S0:=Qa (MkS.start x rg ag rc ac hO hJ h);obtain⟨xop,xa,xb,xc,xk,xn,xr,xs⟩:=x
 simp only at hop
 subst hop;clear h;go_enter func73,ntmps73
 go_upto_region 9 with fail
 obtain⟨w2,hw2⟩:∃ w2,(w.alloc (.cells #[.int .i64 3,.int .i64 xa,.int .i64 xb,.int .i64 xc,.int .i64 xk,.int .i64 xn,.slice rg xr.length rc,.slice ag xs.length ac] 59)).alloc (.cells #[.int .i64 1,.int .i64 0,.slice none 0 0] 79)=w2:=⟨_,rfl⟩
 obtain⟨X,hX⟩:∃ X,w.heap.size=X:=⟨_,rfl⟩
 have S2:Hid (MkS w w2 b X O s ⟨3,xa,xb,xc,xk,xn,xr,xs⟩ rg ag rc ac (some ⟨X+1,0,none⟩)):=by rw[← hw2,← hX];exact S0.out
 rw[hw2,hX]
 clear hw2 hX S0;obtain⟨x0,x1,x2,x3,x4,x6,x7⟩:=S2.out.cells
 obtain⟨pm,cm,a1,c1,a2,c2,a3,c3,hh,aL,cL,R⟩:=S2.out.known.read
 obtain⟨q0,q1,q2,q3,q4,q5,q6⟩:=R.cells
 have hH16:=S2.out.ok.regs;have hL80:=S2.out.ok.vals;obtain⟨ha,hcap,g0,-,-,-⟩:=R.holds.cells
 clear R q0 q1 q2 q3 q4 q6;by_cases h16:s.H.length=16
 ·have h16':((s.H.length:Int)==16)=true:=beq_iff_eq.2 (by omega);rw[if_pos h16] at E
  clear h16;generalize s.H.length=nh at g0 h16' hH16;go_wp2
  go_ret2;rw[E.out]
  exact QO.nil S2.out.bel
 ·have h16':((s.H.length:Int)==16)=false:=beq_eq_false_iff_ne.2 (by omega);rw[if_neg h16] at E
  have Z:Hid (QO w O 0 [(mkT 2 s.H.length []:TT 6)] (.returned (.tuple #[.slice (some ⟨w2.heap.size,0,none⟩) 1 1,.int .i64 0])) (w2.alloc (.cells #[.int .i64 2,.int .i64 (s.H.length:Int),.slice none 0 0] 79))) :=
   ⟨_,1,1,rfl,fun _=>⟨rfl,Ze,Qc4 w2 O S2.out.lt (t:=(mkT 2 s.H.length []:TT 6)) (a:=none) (c:=0) (d:=1) (Qfq _ _ _ _ _) (Qia (by omega))⟩,S2.out.bel.alloc S2.out.bel.size _⟩
  clear h16;generalize s.H.length=nh at g0 h16' hH16 Z E;go_wp2
  go_ret2;rw[E.out]
  exact Z.out
theorem QfJ {w:World}{b:Nat}{O:Nat→Prop}{s:JSt}{x:Qy}{rg ag:Option Addr}{rc ac:Nat}(hO:∀ k,O k→k<w.heap.size) (hJ:JOk s) (h:KAt w b O s) (hop:x.op=4) :
 Calls prog 73 #[.pointer (some ⟨b,0,none⟩),QaR x rg ag rc ac] w fun e w'=>QO w O (s.makes x).1 (s.makes x).2 e w':=by
 have E:Hid (s.makes x=(match s.at x.a with | none=>(1,[]) | some t=>(code2 (s.want x.a 2 true) (if t.r<s.f.regs then 11 else 0),[]))):=Z0 hop;have S0:=Qa (MkS.start x rg ag rc ac hO hJ h);obtain⟨xop,xa,xb,xc,xk,xn,xr,xs⟩:=x
 simp only at hop
 subst hop;clear h;go_enter func73,ntmps73
 go_upto_region 13 with fail
 obtain⟨w2,hw2⟩:∃ w2,(w.alloc (.cells #[.int .i64 4,.int .i64 xa,.int .i64 xb,.int .i64 xc,.int .i64 xk,.int .i64 xn,.slice rg xr.length rc,.slice ag xs.length ac] 59)).alloc (.cells #[.int .i64 1,.int .i64 0,.slice none 0 0] 79)=w2:=⟨_,rfl⟩
 obtain⟨X,hX⟩:∃ X,w.heap.size=X:=⟨_,rfl⟩
 have S2:Hid (MkS w w2 b X O s ⟨4,xa,xb,xc,xk,xn,xr,xs⟩ rg ag rc ac (some ⟨X+1,0,none⟩)):=by rw[← hw2,← hX];exact S0.out
 rw[hw2,hX]
 clear hw2 hX S0;obtain⟨x0,x1,x2,x3,x4,x6,x7⟩:=S2.out.cells
 have hH16:=S2.out.ok.regs;have hL80:=S2.out.ok.vals;go_wp2_with fail
 refine(Q4 xa 2 true S2.out.ok.regs S2.out.ok.vals S2.out.known).mono ?_
 rintro e w3 ⟨rfl,n3,hw3⟩;have S3:Hid (MkS w w3 b X O s ⟨4,xa,xb,xc,xk,xn,xr,xs⟩ rg ag rc ac (some ⟨X+1,0,none⟩)):=S2.out.below (by rw[hw3];exact Qf Zr n3);clear hw3 S2 x0 x1 x2 x3 x4 x6 x7;have S2:=S3;obtain⟨x0,x1,x2,x3,x4,x6,x7⟩:=S2.out.cells
 obtain⟨pm,cm,a1,c1,a2,c2,a3,c3,hh,aL,cL,R⟩:=S2.out.known.read
 obtain⟨q0,q1,q2,q3,q4,q5,q6⟩:=R.cells
 have HR:Hid (TRd w3 (fun g=>¬ O g) aL s.L):=R.row;clear R q0 q2 q3 q4 q5
 cases hat:s.at xa with
 | none =>
   have hw:s.want xa 2 true=1:=by unfold JSt.want;rw[hat]
   have E2:Hid (s.makes ⟨4,xa,xb,xc,xk,xn,xr,xs⟩=(1,[])):=by
    show _=_;rw[E.out];simp only[hat]
   rw[hw]
   clear E hw hat;generalize s.L.length=nl at q6 hL80;go_wp2_with fail
   go_quiet (fail)
   go_wp2
   go_ret2;rw[E2.out]
   exact QO.nil (Qf S2.out.bel _)
 | some t =>
   obtain⟨-,ha0,hal,hti⟩:=QaE hat
   obtain⟨i,rfl⟩:=Int.eq_ofNat_of_zero_le ha0
   obtain⟨gL,va,vc,rfl,v0,v1,v2,-,-⟩:=HR.out i t (by simpa using hti)
   have E2:Hid (s.makes ⟨4,(i:Int),xb,xc,xk,xn,xr,xs⟩=(code2 (s.want (i:Int) 2 true) (if t.r<s.f.regs then 11 else 0),[])):=by
    show _=_;rw[E.out];simp only[hat]
   clear E hat hti;generalize s.want (i:Int) 2 true=c at E2;generalize s.L.length=nl at q6 hL80 hal;generalize hfr:s.f.regs=fr at q1 E2;generalize t.r=tr at v1 E2;by_cases hc:c=0
   ·subst hc;by_cases hlt:tr<fr
    ·have hlt':decide (tr<fr)=true:=decide_eq_true hlt;have E3:Hid (s.makes ⟨4,(i:Int),xb,xc,xk,xn,xr,xs⟩=(11,[])):=by show _=_;rw[E2.out,if_pos hlt];rfl
     clear E2 hlt;go_wp2_with fail
     go_quiet (fail)
     go_wp2
     go_ret2;rw[E3.out]
     exact QO.nil (Qf S2.out.bel _)
    ·have hlt':decide (tr<fr)=false:=decide_eq_false hlt;have E3:Hid (s.makes ⟨4,(i:Int),xb,xc,xk,xn,xr,xs⟩=(0,[])):=by show _=_;rw[E2.out,if_neg hlt];rfl
     clear E2 hlt;go_wp2_with fail
     go_quiet (fail)
     go_wp2
     go_ret2;rw[E3.out]
     exact QO.nil (Qf S2.out.bel _)
   ·have hc':(c==0)=false:=beq_eq_false_iff_ne.2 hc;have E3:Hid (s.makes ⟨4,(i:Int),xb,xc,xk,xn,xr,xs⟩=(c,[])):=by show _=_;rw[E2.out,code2,if_neg hc]
    clear E2 hc;go_wp2_with fail
    go_quiet (fail)
    go_wp2
    go_ret2;rw[E3.out]
    exact QO.nil (Qf S2.out.bel _)
theorem Qgp {w:World}{b:Nat}{O:Nat→Prop}{s:JSt}{x:Qy}{rg ag:Option Addr}{rc ac:Nat}(hO:∀ k,O k→k<w.heap.size) (hJ:JOk s) (h:KAt w b O s) (hop:x.op=11) :
 Calls prog 73 #[.pointer (some ⟨b,0,none⟩),QaR x rg ag rc ac] w fun e w'=>QO w O (s.makes x).1 (s.makes x).2 e w':=by
 have E:Hid (s.makes x=(s.want x.a 4 true,[tInt])):=Qbc hop;have S0:=Qa (MkS.start x rg ag rc ac hO hJ h);obtain⟨xop,xa,xb,xc,xk,xn,xr,xs⟩:=x
 simp only at hop
 subst hop;clear h;go_enter func73,ntmps73
 go_upto_region 56 with fail
 obtain⟨w2,hw2⟩:∃ w2,(w.alloc (.cells #[.int .i64 11,.int .i64 xa,.int .i64 xb,.int .i64 xc,.int .i64 xk,.int .i64 xn,.slice rg xr.length rc,.slice ag xs.length ac] 59)).alloc (.cells #[.int .i64 1,.int .i64 0,.slice none 0 0] 79)=w2:=⟨_,rfl⟩
 obtain⟨X,hX⟩:∃ X,w.heap.size=X:=⟨_,rfl⟩
 have S2:Hid (MkS w w2 b X O s ⟨11,xa,xb,xc,xk,xn,xr,xs⟩ rg ag rc ac (some ⟨X+1,0,none⟩)):=by rw[← hw2,← hX];exact S0.out
 rw[hw2,hX]
 clear hw2 hX S0;obtain⟨x0,x1,x2,x3,x4,x6,x7⟩:=S2.out.cells
 go_wp2_with fail
 refine(Q4 xa 4 true S2.out.ok.regs S2.out.ok.vals S2.out.known).mono ?_
 rintro e w3 ⟨rfl,n3,hw3⟩;have b3:Below w2.heap.size w2 w3:=by rw[hw3];exact Qf Zr n3
 clear hw3;generalize s.want xa 4 true=c at E;go_wp2
 go_ret2;rw[E.out]
 exact QO.num S2.out b3
theorem QgC {w:World}{b:Nat}{O:Nat→Prop}{s:JSt}{x:Qy}{rg ag:Option Addr}{rc ac:Nat}(hO:∀ k,O k→k<w.heap.size) (hJ:JOk s) (h:KAt w b O s) (hop:x.op=13) :
 Calls prog 73 #[.pointer (some ⟨b,0,none⟩),QaR x rg ag rc ac] w fun e w'=>QO w O (s.makes x).1 (s.makes x).2 e w':=by
 have E:Hid (s.makes x=(s.want x.a 1 false,[])):=QbF hop;have S0:=Qa (MkS.start x rg ag rc ac hO hJ h);obtain⟨xop,xa,xb,xc,xk,xn,xr,xs⟩:=x
 simp only at hop
 subst hop;clear h;go_enter func73,ntmps73
 go_upto_region 58 with fail
 obtain⟨w2,hw2⟩:∃ w2,(w.alloc (.cells #[.int .i64 13,.int .i64 xa,.int .i64 xb,.int .i64 xc,.int .i64 xk,.int .i64 xn,.slice rg xr.length rc,.slice ag xs.length ac] 59)).alloc (.cells #[.int .i64 1,.int .i64 0,.slice none 0 0] 79)=w2:=⟨_,rfl⟩
 obtain⟨X,hX⟩:∃ X,w.heap.size=X:=⟨_,rfl⟩
 have S2:Hid (MkS w w2 b X O s ⟨13,xa,xb,xc,xk,xn,xr,xs⟩ rg ag rc ac (some ⟨X+1,0,none⟩)):=by rw[← hw2,← hX];exact S0.out
 rw[hw2,hX]
 clear hw2 hX S0;obtain⟨x0,x1,x2,x3,x4,x6,x7⟩:=S2.out.cells
 go_wp2_with fail
 refine(Q4 xa 1 false S2.out.ok.regs S2.out.ok.vals S2.out.known).mono ?_
 rintro e w3 ⟨rfl,n3,hw3⟩;have b3:Below w2.heap.size w2 w3:=by rw[hw3];exact Qf Zr n3
 clear hw3;generalize s.want xa 1 false=c at E;go_wp2
 go_ret2;rw[E.out]
 exact QO.nil (S2.out.below b3).bel
end Go.Proofs.YtacjnejckfhpoadGreat
