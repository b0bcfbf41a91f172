import Derived.Test.YtacjnejckfhpoadGreatP1
import Derived.Laws.CopyOwn
import Derived.Deep.Upon
import Derived.Deep.RegionWith
import Derived.SizedLaws
set_option maxHeartbeats 16000000
set_option maxRecDepth 100000
namespace Go.Proofs.YtacjnejckfhpoadGreat
open Go.ChangeShapes Go.WideShapes Go.ChangeAt Go.RowKit _root_.Go.Proofs.Tryz
set_option linter.unusedSimpArgs false
set_option linter.unusedVariables false
abbrev I64 (x:Int):Prop:=-9223372036854775808≤x∧x≤9223372036854775807
structure IP where
 pR:Option Addr
 cR:Nat
 pA:Option Addr
 cA:Nat
structure EP where
 pYR:Option Addr
 cYR:Nat
 pYA:Option Addr
 cYA:Nat
 pNR:Option Addr
 cNR:Nat
 pNA:Option Addr
 cNA:Nat
 pA:Option Addr
 cA:Nat
structure BP where
 pP:Option Addr
 cP:Nat
 pC:Option Addr
 cC:Nat
 e:EP
structure FP where
 pP:Option Addr
 cP:Nat
 pR:Option Addr
 cR:Nat
 pB:Option Addr
 cB:Nat
structure QeV (w:World) (O:Nat→Prop) (x:MTo) (pR:Option Addr) (cR:Nat) (pA:Option Addr) (cA:Nat):Prop where
 regs:intsL.In w O x.regs [.slice pR x.regs.length cR]
 args:intsL.In w O x.args [.slice pA x.args.length cA]
 bnd:I64 x.block
structure IIn (w:World) (O:Nat→Prop) (x:Qy) (i:IP):Prop where
 regs:intsL.In w O x.regs [.slice i.pR x.regs.length i.cR]
 args:intsL.In w O x.args [.slice i.pA x.args.length i.cA]
 bnd:I64 x.op∧I64 x.a∧I64 x.b∧I64 x.c∧I64 x.k∧I64 x.n
structure EIn (w:World) (O:Nat→Prop) (x:MEnd) (e:EP):Prop where
 yes:QeV w O x.yes e.pYR e.cYR e.pYA e.cYA
 no:QeV w O x.no e.pNR e.cNR e.pNA e.cNA
 args:intsL.In w O x.args [.slice e.pA x.args.length e.cA]
 bnd:I64 x.op∧I64 x.a
structure BIn (w:World) (O:Nat→Prop){n:Nat}(x:Qh n) (b:BP):Prop where
 params:(Qm n).In w O x.params [.slice b.pP x.params.length b.cP]
 code:insL.list.In w O x.code [.slice b.pC x.code.length b.cC]
 fin:EIn w O x.fin b.e
 bnd:I64 x.regs
structure FIn (w:World) (O:Nat→Prop){n:Nat}(x:Qg n) (f:FP):Prop where
 params:(Qm n).In w O x.params [.slice f.pP x.params.length f.cP]
 results:(Qm n).In w O x.results [.slice f.pR x.results.length f.cR]
 blocks:(ZD n).list.In w O x.blocks [.slice f.pB x.blocks.length f.cB]
 bnd:I64 x.regs
section
variable {w w':World}{O O':Nat→Prop}{n:Nat}{cs:List Value}
theorem QeV.keep {x:MTo}{pR pA:Option Addr}{cR cA:Nat}(hb:∀ k,O k→k<w.heap.size→w'.heap[k]?=w.heap[k]?) (hl:∀ k,O k→k<w.heap.size→O' k) (h:QeV w O x pR cR pA cA):QeV w' O' x pR cR pA cA:=⟨Lay.keep _ hb hl h.regs,Lay.keep _ hb hl h.args,h.bnd⟩
theorem QeV.below {x:MTo}{pR pA:Option Addr}{cR cA:Nat}(h:QeV w O x pR cR pA cA) (hbl:Below w.heap.size w w'):QeV w' O x pR cR pA cA:=h.keep (fun k _ hk=>hbl.block k hk) (fun _ h _=>h)
theorem QeV.mono {x:MTo}{pR pA:Option Addr}{cR cA:Nat}(h:QeV w O x pR cR pA cA) (hl:∀ k,O k→k<w.heap.size→O' k):QeV w O' x pR cR pA cA:=h.keep (fun k _ _=>rfl) hl
theorem IIn.keep {x:Qy}{i:IP}(hb:∀ k,O k→k<w.heap.size→w'.heap[k]?=w.heap[k]?) (hl:∀ k,O k→k<w.heap.size→O' k) (h:IIn w O x i):IIn w' O' x i:=⟨Lay.keep _ hb hl h.regs,Lay.keep _ hb hl h.args,h.bnd⟩
theorem IIn.below {x:Qy}{i:IP}(h:IIn w O x i) (hbl:Below w.heap.size w w'):IIn w' O x i:=h.keep (fun k _ hk=>hbl.block k hk) (fun _ h _=>h)
theorem IIn.mono {x:Qy}{i:IP}(h:IIn w O x i) (hl:∀ k,O k→k<w.heap.size→O' k):IIn w O' x i:=h.keep (fun k _ _=>rfl) hl
theorem EIn.keep {x:MEnd}{e:EP}(hb:∀ k,O k→k<w.heap.size→w'.heap[k]?=w.heap[k]?) (hl:∀ k,O k→k<w.heap.size→O' k) (h:EIn w O x e):EIn w' O' x e:=⟨h.yes.keep hb hl,h.no.keep hb hl,Lay.keep _ hb hl h.args,h.bnd⟩
theorem EIn.below {x:MEnd}{e:EP}(h:EIn w O x e) (hbl:Below w.heap.size w w'):EIn w' O x e:=h.keep (fun k _ hk=>hbl.block k hk) (fun _ h _=>h)
theorem EIn.mono {x:MEnd}{e:EP}(h:EIn w O x e) (hl:∀ k,O k→k<w.heap.size→O' k):EIn w O' x e:=h.keep (fun k _ _=>rfl) hl
theorem BIn.keep {x:Qh n}{b:BP}(hb:∀ k,O k→k<w.heap.size→w'.heap[k]?=w.heap[k]?) (hl:∀ k,O k→k<w.heap.size→O' k) (h:BIn w O x b):BIn w' O' x b:=⟨Lay.keep _ hb hl h.params,Lay.keep _ hb hl h.code,h.fin.keep hb hl,h.bnd⟩
theorem BIn.below {x:Qh n}{b:BP}(h:BIn w O x b) (hbl:Below w.heap.size w w'):BIn w' O x b:=h.keep (fun k _ hk=>hbl.block k hk) (fun _ h _=>h)
theorem BIn.mono {x:Qh n}{b:BP}(h:BIn w O x b) (hl:∀ k,O k→k<w.heap.size→O' k):BIn w O' x b:=h.keep (fun k _ _=>rfl) hl
theorem FIn.keep {x:Qg n}{f:FP}(hb:∀ k,O k→k<w.heap.size→w'.heap[k]?=w.heap[k]?) (hl:∀ k,O k→k<w.heap.size→O' k) (h:FIn w O x f):FIn w' O' x f:=⟨Lay.keep _ hb hl h.params,Lay.keep _ hb hl h.results,Lay.keep _ hb hl h.blocks,h.bnd⟩
theorem FIn.below {x:Qg n}{f:FP}(h:FIn w O x f) (hbl:Below w.heap.size w w'):FIn w' O x f:=h.keep (fun k _ hk=>hbl.block k hk) (fun _ h _=>h)
theorem FIn.mono {x:Qg n}{f:FP}(h:FIn w O x f) (hl:∀ k,O k→k<w.heap.size→O' k):FIn w O' x f:=h.keep (fun k _ _=>rfl) hl
theorem Qiy {x:MTo}(h:toL.In w O x cs):∃ pR cR pA cA,cs=[.int .i64 x.block,.slice pR x.regs.length cR,.slice pA x.args.length cA]∧QeV w O x pR cR pA cA:=by
 obtain⟨a,c,b,d,rfl,h1,h2,h0⟩:=Qfd h
 exact⟨a,c,b,d,rfl,h1,h2,h0⟩
theorem QhI {x:MTo}{pR pA:Option Addr}{cR cA:Nat}(h:QeV w O x pR cR pA cA):toL.In w O x [.int .i64 x.block,.slice pR x.regs.length cR,.slice pA x.args.length cA]:=Qll h.regs h.args h.bnd
theorem Qjq {x:Qy}(h:insL.In w O x cs):∃ i:IP,cs=[.int .i64 x.op,.int .i64 x.a,.int .i64 x.b,.int .i64 x.c,.int .i64 x.k,.int .i64 x.n,.slice i.pR x.regs.length i.cR,.slice i.pA x.args.length i.cA]∧IIn w O x i:=by
 obtain⟨a,c,b,d,rfl,h1,h2,h0⟩:=QiV h
 exact⟨⟨a,c,b,d⟩,rfl,h1,h2,h0⟩
theorem Qi3 {x:Qy}{i:IP}(h:IIn w O x i):insL.In w O x [.int .i64 x.op,.int .i64 x.a,.int .i64 x.b,.int .i64 x.c,.int .i64 x.k,.int .i64 x.n,.slice i.pR x.regs.length i.cR,.slice i.pA x.args.length i.cA]:=QkT h.regs h.args h.bnd
theorem QiY {x:MEnd}(h:endL.In w O x cs):∃ e:EP,cs=[.int .i64 x.op,.int .i64 x.a,.int .i64 x.yes.block,.slice e.pYR x.yes.regs.length e.cYR,.slice e.pYA x.yes.args.length e.cYA,.int .i64 x.no.block,.slice e.pNR x.no.regs.length e.cNR,.slice e.pNA x.no.args.length e.cNA,.slice e.pA x.args.length e.cA]∧EIn w O x e:=by
 obtain⟨c1,c2,a,c,rfl,h1,h2,h3,h0⟩:=QfX h
 obtain⟨pR,cR,pA,cA,rfl,k1⟩:=Qiy h1
 obtain⟨qR,dR,qA,dA,rfl,k2⟩:=Qiy h2
 exact⟨⟨pR,cR,pA,cA,qR,dR,qA,dA,a,c⟩,rfl,k1,k2,h3,h0⟩
theorem Qjb {x:MEnd}{e:EP}(h:EIn w O x e):endL.In w O x [.int .i64 x.op,.int .i64 x.a,.int .i64 x.yes.block,.slice e.pYR x.yes.regs.length e.cYR,.slice e.pYA x.yes.args.length e.cYA,.int .i64 x.no.block,.slice e.pNR x.no.regs.length e.cNR,.slice e.pNA x.no.args.length e.cNA,.slice e.pA x.args.length e.cA]:=Qk4 (QhI h.yes) (QhI h.no) h.args h.bnd
theorem QgT {x:Qh n}(h:(ZD n).In w O x cs):∃ b:BP,cs=[.int .i64 x.regs,.slice b.pP x.params.length b.cP,.slice b.pC x.code.length b.cC,.int .i64 x.fin.op,.int .i64 x.fin.a,.int .i64 x.fin.yes.block,.slice b.e.pYR x.fin.yes.regs.length b.e.cYR,.slice b.e.pYA x.fin.yes.args.length b.e.cYA,.int .i64 x.fin.no.block,.slice b.e.pNR x.fin.no.regs.length b.e.cNR,.slice b.e.pNA x.fin.no.args.length b.e.cNA,.slice b.e.pA x.fin.args.length b.e.cA]∧BIn w O x b:=by
 obtain⟨a,c,b,d,es,rfl,h1,h2,h3,h0⟩:=QdE h
 obtain⟨e,rfl,k3⟩:=QiY h3
 exact⟨⟨a,c,b,d,e⟩,rfl,h1,h2,k3,h0⟩
theorem Qdp {x:Qh n}{b:BP}(h:BIn w O x b):(ZD n).In w O x [.int .i64 x.regs,.slice b.pP x.params.length b.cP,.slice b.pC x.code.length b.cC,.int .i64 x.fin.op,.int .i64 x.fin.a,.int .i64 x.fin.yes.block,.slice b.e.pYR x.fin.yes.regs.length b.e.cYR,.slice b.e.pYA x.fin.yes.args.length b.e.cYA,.int .i64 x.fin.no.block,.slice b.e.pNR x.fin.no.regs.length b.e.cNR,.slice b.e.pNA x.fin.no.args.length b.e.cNA,.slice b.e.pA x.fin.args.length b.e.cA]:=Qja h.params h.code (Qjb h.fin) h.bnd
theorem QhJ {x:Qg n}(h:(Zy n).In w O x cs):∃ f:FP,cs=[.int .i64 x.regs,.slice f.pP x.params.length f.cP,.slice f.pR x.results.length f.cR,.slice f.pB x.blocks.length f.cB]∧FIn w O x f:=by
 obtain⟨a,c,b,d,e,f,rfl,h1,h2,h3,h0⟩:=ZH h
 exact⟨⟨a,c,b,d,e,f⟩,rfl,h1,h2,h3,h0⟩
theorem Qep {x:Qg n}{f:FP}(h:FIn w O x f):(Zy n).In w O x [.int .i64 x.regs,.slice f.pP x.params.length f.cP,.slice f.pR x.results.length f.cR,.slice f.pB x.blocks.length f.cB]:=QjG h.params h.results h.blocks h.bnd
theorem QfY {l:List Qy}{p:Option Addr}{m c:Nat}(h:(insL).list.In w O l [.slice p m c]){i:Nat}{x:Qy}(hx:l[i]?=some x) :
 ∃ (g o:Nat) (i':IP),p=some ⟨g,o,none⟩∧w.rangeAt g (o+i*8) [.int .i64 x.op,.int .i64 x.a,.int .i64 x.b,.int .i64 x.c,.int .i64 x.k,.int .i64 x.n,.slice i'.pR x.regs.length i'.cR,.slice i'.pA x.args.length i'.cA]∧IIn w O x i':=by
 obtain⟨g,o,ds,e,h1,h2,h3,h4⟩:=Lay.list_at h hx
 obtain⟨i',rfl,h5⟩:=Qjq h4
 have hs:(insL).size=8:=rfl;rw[hs] at h3
 exact⟨g,o,i',e,fun j v hj=>(h3 j (by have:=(Zi hj).1;simpa using this)).trans hj,h5⟩
theorem QcF {l:List (Qh n)}{p:Option Addr}{m c:Nat}(h:(ZD n).list.In w O l [.slice p m c]){i:Nat}{x:Qh n}(hx:l[i]?=some x) :
 ∃ (g o:Nat) (b:BP),p=some ⟨g,o,none⟩∧w.rangeAt g (o+i*12) [.int .i64 x.regs,.slice b.pP x.params.length b.cP,.slice b.pC x.code.length b.cC,.int .i64 x.fin.op,.int .i64 x.fin.a,.int .i64 x.fin.yes.block,.slice b.e.pYR x.fin.yes.regs.length b.e.cYR,.slice b.e.pYA x.fin.yes.args.length b.e.cYA,.int .i64 x.fin.no.block,.slice b.e.pNR x.fin.no.regs.length b.e.cNR,.slice b.e.pNA x.fin.no.args.length b.e.cNA,.slice b.e.pA x.fin.args.length b.e.cA]∧BIn w O x b:=by
 obtain⟨g,o,ds,e,h1,h2,h3,h4⟩:=Lay.list_at h hx
 obtain⟨b,rfl,h5⟩:=QgT h4
 have hs:(ZD n).size=12:=rfl;rw[hs] at h3
 exact⟨g,o,b,e,fun j v hj=>(h3 j (by have:=(Zi hj).1;simpa using this)).trans hj,h5⟩
theorem QcZ {l:List (Qg n)}{p:Option Addr}{m c:Nat}(h:(Zy n).list.In w O l [.slice p m c]){i:Nat}{x:Qg n}(hx:l[i]?=some x) :
 ∃ (g o:Nat) (f:FP),p=some ⟨g,o,none⟩∧w.rangeAt g (o+i*4) [.int .i64 x.regs,.slice f.pP x.params.length f.cP,.slice f.pR x.results.length f.cR,.slice f.pB x.blocks.length f.cB]∧FIn w O x f:=by
 obtain⟨g,o,ds,e,h1,h2,h3,h4⟩:=Lay.list_at h hx
 obtain⟨f,rfl,h5⟩:=QhJ h4
 have hs:(Zy n).size=4:=rfl;rw[hs] at h3
 exact⟨g,o,f,e,fun j v hj=>(h3 j (by have:=(Zi hj).1;simpa using this)).trans hj,h5⟩
theorem Qiz {l:List (TT n)}{p:Option Addr}(h:LIn w O l p){i:Nat}{x:TT n}(hx:l[i]?=some x):∃ (g o:Nat) (q:Option Addr) (c:Nat),p=some ⟨g,o,none⟩∧w.rangeAt g (o+i*3) [.int .i64 x.kind,.int .i64 x.r,.slice q x.len c]∧TIn w O x q:=by
 obtain⟨g,o,q,c,e,_,h0,h1,h2,h3⟩:=LIn.at h hx
 refine⟨g,o,q,c,e,fun j v hj=>?_,h3⟩
 match j,hj with
 | 0,hj=>cases hj;exact h0
 | 1,hj=>cases hj;exact h1
 | 2,hj=>cases hj;exact h2
end
def QfQ {α:Type}(A:Lay α) (w w':World) (l:List α) (e:Ending):Prop:=∃ a' c',e=.returned (.slice a' l.length c')∧A.list.In w' (Z2 w.heap.size) l [.slice a' l.length c']∧Below w.heap.size w w'
def iv (l:List Int):List Value:=l.map (fun x=>Value.int .i64 x)
theorem Qjl {w:World}{lo:Nat}{e:TypeId}{v:Value}{l:List Int}(h:w.ownsRow lo e 1 v l.length (iv l)) (hb:∀ x∈l,I64 x):intsL.In w (Z2 lo) l [v] :=
 ZS.lay (A:=Lay.int) (e:=e) (xs:=iv l) ⟨h,fun i x hx=>by
  have hs:Lay.int.size=1:=rfl;rw[hs,Nat.mul_one]
  have e1:((iv l).drop i).take 1=[.int .i64 x]:=by
   obtain⟨hi,e⟩:=Zi hx
   unfold iv;rw[← List.map_drop,List.drop_eq_getElem_cons hi]
   simp[e]
  rw[e1]
  exact⟨rfl,hb x (Zm hx)⟩⟩
theorem QiU {w:World}{O:Nat→Prop}{l:List Int}{a:Option Addr}{m c:Nat}(h:intsL.In w O l [.slice a m c]):∀ x∈l,I64 x:=by
 intro x hx;obtain⟨i,hi⟩:=List.mem_iff_getElem?.1 hx
 obtain⟨g,o,ds,_,_,_,_,h2⟩:=Lay.list_at h hi
 exact h2.2
theorem Qjd {w:World}{O:Nat→Prop}{l:List Int}{a:Option Addr}{m c:Nat}(h:intsL.In w O l [.slice a m c]) (h0:0<l.length) :
 ∃ ad,a=some ad∧ad.block<w.heap.size∧∀ j v,(iv l)[j]?=some v→w.cell? (ad.add j)=some v:=by
 obtain⟨g,o,e,_,hlt,_⟩:=ZC h h0
 refine⟨⟨g,o,none⟩,e,hlt,fun j v hj=>?_⟩
 have hjl:j<l.length:=by have:=(Zi hj).1;simpa[iv] using this
 obtain⟨g2,o2,e2,_,_,h2⟩:=ZC h hjl
 rw[e] at e2
 cases e2
 rw[show (⟨g,o,none⟩:Addr).add j=⟨g,o+j,none⟩ from by unfold Addr.add;split<;>simp_all,h2,← hj]
 simp[iv,List.getD,hjl]
theorem QcJ (l:List Int):(iv l).length=l.length:=by simp[iv]
theorem QkD (l:List Int):∀ v∈iv l,v.oneCell'=true:=by
 intro v hv;obtain⟨x,_,rfl⟩:=List.mem_map.1 hv
 rfl
theorem underIs:prog.underlying 43=some (.slice 3):=by kernel_rfl
theorem infoI:(prog.info? 3).map (fun i=>(i.zero,i.size,i.bytes))=some (some (.int .i64 0),1,8):=by kernel_rfl
theorem infoI1:(prog.info? 3).map (·.size)=some 1:=by kernel_rfl
theorem Qab (l:List Int) (p:Option Addr) (c:Nat) (w:World) (hl0:intsL.In w All l [.slice p l.length c]) (hb0:l.length≤4294967296) :
 Calls prog 217 #[.slice p l.length c] w fun e w'=>QfQ Lay.int w w' l e:=by
 have hl:Hid _:=hl0;have hx:Hid _:=QiU hl0;clear hl0;have hmk:=fun wx=>run_make_row' (P:=prog) 43 3 (.int .i64 0) 8 underIs infoI rfl .i64 .i64 l.length (by omega) (by omega) wx
 have hnew:(w.alloc (.cells (madeCells #[.int .i64 0] l.length) 3)).heap[w.heap.size]?=some (.cells (madeCells #[.int .i64 0] l.length).toList.toArray 3 (0,0)):=by
  rw[Array.toArray_toList];exact Qe w _ _
 have hmin:(iv l).length=Nat.min l.length l.length:=by rw[QcJ];exact(Nat.min_self _).symm
 have hpos:Hid (0<(iv l).length→(some ⟨w.heap.size,0,none⟩:Option Addr)=some ⟨w.heap.size,0,none⟩∧∃ ad,p=some ad∧∀ j v,(iv l)[j]?=some v→(w.alloc (.cells (madeCells #[.int .i64 0] l.length) 3)).cell? (ad.add j)=some v):=by
  intro h0;rw[QcJ] at h0
  obtain⟨ad,e,hlt,h2⟩:=Qjd hl.out h0
  exact⟨rfl,ad,e,fun j v hj=>(World.cell?_of_block (w:=w) (a:=ad.add j) (Below.heap_alloc _ _ _ (by unfold Addr.add;split<;>exact hlt))).trans (h2 j v hj)⟩
 have hfit:0+(iv l).length≤(madeCells #[.int .i64 0] l.length).toList.length:=by rw[QcJ,toList_madeCells_one];simp
 have hbe:Hid (Below w.heap.size w (w.alloc (.cells (madeCells #[.int .i64 0] l.length) 3))):=(Below.refl _ w).alloc Ze _;go_enter func217,ntmps217
 go_wp2_with (refine wpList_copy_splice rfl (.tmp 7) (.tmp 8) 43 43 rfl 3 underIs infoI1 _ _ l.length l.length l.length c rfl rfl w.heap.size 0 (madeCells #[.int .i64 0] l.length).toList 3 hnew (iv l) hmin hpos.out hfit (QkD l) w.heap.size w hbe.out Ze ?_)
 ·intro w' hg hbel;clear hpos hfit hbe hnew hmin
  have R:Hid (QfQ Lay.int w w' l (.returned (.slice (some ⟨w.heap.size,0,none⟩) l.length l.length))):=by
   have e1:splice (madeCells #[.int .i64 0] l.length).toList 0 (iv l)=iv l:=by
    rw[toList_madeCells_one];simp[splice,QcJ]
   rw[e1] at hg
   refine⟨_,_,rfl,Qjl ⟨by rw[QcJ,Nat.mul_one],Or.inr ⟨w.heap.size,l.length,(iv l).toArray,rfl,Ze,hg.out,Ze,by unfold maxLen;omega,by simp[QcJ],?_⟩⟩ hx.out,hbel⟩
   rw[Nat.mul_one,← QcJ l];simp
  clear hg hbel hmk;go_wp2
  go_ret;exact R.out
theorem Zu {P:Program}{w:World}{ops:Array Oper}{rest:List Oper}{o:Oper}{a:Act}{Q:Exit→Act→World→Prop}(hgd:o.guard=none) (s x:Operand) (t:TypeId)
 (ho:o.op=.call { callee:=.builtin .append,args:=#[s,x],argTypes:=#[t,t] }) (v vx:Value) (hs:a.eval s=v) (hx:a.eval x=vx) (hrun:(Builtin.append_ #[t,t] o.type #[v,vx]).run P w=.ok v w)
 (h:wpList P ops Q rest (a.put o.dst v) w):wpList P ops Q (o::rest) a w:=by
 refine wpList_plain hgd fun K hK=>?_;unfold Oper.wp;simp[execOp,ho,resolve,invoke,builtin,hs,hx,hrun,Result.andThen]
 exact hK _ _ h
def Zh (n m:Nat):Int:=if 80<n+m then 2 else 0
theorem QeE {w:World}{b:Nat}{O A:Nat→Prop}{s:JSt}(n:Nat) (hn:n≤1000) (hL:s.L.length≤80) (h:SAt w b O A s) :
 Calls prog 161 #[.pointer (some ⟨b,0,none⟩),.int .i64 n] w fun e w'=>ZW (Zh s.L.length n) VNone e∧w'=w:=by
 obtain⟨pm,cm,hh,a1,c1,a2,c2,a3,c3,aL,cL,RR⟩:=h.read
 obtain⟨-,-,-,-,-,-,q6⟩:=RR.cells
 clear h RR;generalize s.L.length=nl at q6 hL ⊢;by_cases hs:80<nl+n
 ·have E:Hid (Zh nl n=2):=if_pos hs;have hs':decide ((nl:Int)+n≤80)=false:=decide_eq_false (by omega);clear hs;go_enter func161,ntmps161
  go_wp2_with fail
  refine(Zq _ 2).mono ?_
  rintro e' w' ⟨rfl,hw⟩;subst hw;exact⟨rfl,ZW.bad E.out (by decide),rfl⟩
 ·have E:Hid (Zh nl n=0):=if_neg hs;have hs':decide ((nl:Int)+n≤80)=true:=decide_eq_true (by omega);clear hs;go_enter func161,ntmps161
  go_wp2_with (go_at_call 162;refine(Zp _ _).mono ?_;rintro e' w' ⟨rfl,hw⟩;have hw:=hw.symm;subst hw)
  exact bodyPost_end (v:=.tuple #[]) (by simp[results,results161,go_sem]) rfl ⟨ZW.good E.out rfl,rfl⟩
def Q6 (w:World) (b:Nat) (O A:Nat→Prop) (s s':JSt) (c:Int) (e:Ending) (w':World):Prop :=
 (c=0∧e=.returned (.tuple #[])∧STo w w' b O A s')∨(c≠0∧e=.panicked (Qed c)∧STo w w' b O A s)
theorem STo.of_below {w w':World}{b:Nat}{O A:Nat→Prop}{s:JSt}(h:SAt w b O A s) (hb:Below w.heap.size w w'):STo w w' b O A s:=(STo.same (h.below hb)).after hb
theorem Q6.after {w w1 w':World}{b:Nat}{O A:Nat→Prop}{s s':JSt}{c:Int}{e:Ending}(h:Q6 w1 b O A s s' c e w') (hb:Below w.heap.size w w1):Q6 w b O A s s' c e w':=by
 rcases h with ⟨h1,h2,h3⟩|⟨h1,h2,h3⟩
 ·exact .inl ⟨h1,h2,h3.after hb⟩
 ·exact .inr ⟨h1,h2,h3.after hb⟩
theorem Q6.bad {w w':World}{b:Nat}{O A:Nat→Prop}{s s':JSt}{c d:Int}(h:c=d) (hd:d≠0) (hs:STo w w' b O A s):Q6 w b O A s s' c (.panicked (Qed d)) w':=.inr ⟨by omega,by rw[h],hs⟩
theorem QaC {w:World}{b:Nat}{O A:Nat→Prop}{s:JSt}{l:List (TT 6)}{p:Option Addr}{n c:Nat}(hn:l.length=n) (hn2:n≤8) (hl:(Qm 6).In w (fun g=>¬ A g) l [.slice p n c]) (hL:s.L.length≤80) (hA:∀ k,A k→k<w.heap.size) (h:SAt w b O A s) :
 Calls prog 120 #[.pointer (some ⟨b,0,none⟩),.slice p n c] w fun e w'=>Q6 w b O A s { s with L:=s.L++l } (Zh s.L.length n) e w':=by
 obtain⟨i0,hi,hz0,hz1,hz2⟩:=pInfoT
 have H:=Qa h;have HLB:=Qa hl;have HN:=Qa hn;have C:=Qa (QeE n (by omega) hL h);have HAA:=Qa hA;clear h hl hn hA;by_cases hs:80<s.L.length+n
 ·rw[show Zh s.L.length n=2 from if_pos hs] at C ⊢
  clear hs;go_enter func120,ntmps120
  go_wp2_with fail
  refine C.out.mono ?_;rintro e' w' ⟨⟨hc,-⟩|⟨hc,rfl⟩,hw⟩
  ·cases hc
  subst hw;exact⟨rfl,.inr ⟨by decide,rfl,STo.same H.out⟩⟩
 rw[show Zh s.L.length n=0 from if_neg hs] at C ⊢
 obtain⟨aL,cL,xs,q6,f6,hle,how,hpush⟩:=H.out.pushL HAA.out
 have HPU:=Qa hpush;have HOW:=Qa how
 have C2:Hid (Calls prog 161 #[.pointer (some ⟨b,0,none⟩),.int .i64 n] w fun e w'=>e=.returned (.tuple #[])∧w'=w):=C.out.mono (fun e w' h=>by
  rcases h with ⟨⟨-,x,rfl,hx⟩|⟨hc,-⟩,hw⟩
  ·exact⟨by rw[hx],hw⟩
  ·exact absurd rfl hc)
 clear hpush how C;by_cases hn0:n=0
 ·subst hn0;have hl0:l=[]:=List.length_eq_zero_iff.1 HN.out;subst hl0
  have ha:Hid (∀ (t:TypeId) (wx:World),(Builtin.append_ #[52,52] t #[.slice aL s.L.length cL,.slice p 0 c]).run prog wx=.ok (.slice aL s.L.length cL) wx):=fun (t:TypeId) (wx:World)=>run_append_nothing (P:=prog) wx 52 52 t 79 i0 pUnderT hi aL s.L.length cL hle (.slice p 0 c) (by cases p with
   | none=>exact Src.ofNil wx pUnderT c
   | some ad=>exact Src.ofSlice wx pUnderT ad 0 c [] (by simp) (fun j u h=>by simp at h) (fun u h=>by cases h))
  have HZ:Hid (STo w (w.setCell ⟨b,6,none⟩ (.slice aL s.L.length cL)) b O A { s with L:=s.L++[] }):=by
   have e:∀ k,(w.setCell ⟨b,6,none⟩ (.slice aL s.L.length cL)).heap[k]?=w.heap[k]?:=fun k=>H.out.same6 q6 k;have hb:Below w.heap.size w (w.setCell ⟨b,6,none⟩ (.slice aL s.L.length cL)):=⟨rfl,rfl,rfl,by simp,fun k _=>e k⟩;rw[List.append_nil]
   exact STo.of_below H.out hb
  clear HPU HOW HLB;generalize s.L.length=nL at q6 ha HZ hL hle hs;go_enter func120,ntmps120
  go_wp2_with (first | (go_at_call 161;refine(C2.out).mono ?_;rintro e w' ⟨rfl,hw⟩;have hw:=hw.symm;subst hw) | (at_builtin;refine Zu rfl (.tmp 12) (.tmp 13) 52 rfl (.slice aL nL cL) (.slice p 0 c) rfl rfl (ha.out _ _) ?_))
  exact bodyPost_end (v:=.tuple #[]) (by simp[results,results120,go_sem]) rfl (.inl ⟨rfl,rfl,HZ.out⟩)
 ·obtain⟨g0,o0,rfl⟩:∃ g0 o0,p=some ⟨g0,o0,none⟩:=by
   obtain⟨g,o,dd,e,-⟩:=Lay.list_at HLB.out (Zg (show 0<l.length by have:=HN.out;omega))
   exact⟨g,o,e⟩
  obtain⟨ds,d1,d2,d3,d4⟩:=Lay.flat HLB.out (fun y cs hy=>by obtain⟨ya,yc,e,-⟩:=hy;subst e;exact Qes _ _ _ _ _)
  have d1':ds.length=n*3:=by rw[← HN.out];exact d1
  have HD1:=Qa d1';have HD2:=Qa d2;have HD3:=Qa d3
  have HPU2:Hid (∀ w9 g cap2,w9.ownsRow 0 79 3 (.slice (some ⟨g,0,none⟩) (s.L.length+n) cap2) (s.L.length+n) (xs++ds)→w.grownBy w9 (Value.slice aL s.L.length cL).ownBlock→((Value.slice aL s.L.length cL).ownBlock=some g∨g=w.heap.size)→g<w9.heap.size→w9.cell? ⟨b,6,none⟩=some (.slice aL s.L.length cL)∧w9.frozen? ⟨b,6,none⟩=false∧STo w (w9.setCell ⟨b,6,none⟩ (.slice (some ⟨g,0,none⟩) (s.L.length+n) cap2)) b O A { s with L:=s.L++l }):=by
   intro w9 g cap2 r1 r2 r3 r4;rw[← HN.out] at r1 ⊢
   exact HPU.out w9 g cap2 l ds d1 r1 r2 r3 r4 d4
  clear HPU HLB d1 d1' d2 d3 d4;have HSZ:Hid (0≤w.heap.size):=Nat.zero_le _;have hnl:s.L.length+n≤80:=by omega
  have hn1:0<n:=by omega
  generalize s.L.length=nL at q6 HOW HPU2 hL hle hs hnl;go_enter func120,ntmps120
  go_wp2_with (first | (go_at_call 161;refine(C2.out).mono ?_;rintro e w' ⟨rfl,hw⟩;have hw:=hw.symm;subst hw) | (at_builtin;refine wpList_append_lies _ rfl (.tmp 12) (.tmp 13) 52 rfl 0 79 i0 (.agg #[.int .i64 0,.int .i64 0,.slice none 0 0]) 3 40 pUnderT hi hz0 hz1 hz2 rfl (by decide) _ _ _ rfl HOW.out ⟨g0,o0,none⟩ n c ds rfl HD1.out HD2.out HD3.out hn1 (by unfold maxLen;omega) (by omega) HSZ.out w.heap.size rfl ?_))
  intro g2 cap2 w9 r1 r2 r3 r4;obtain⟨q69,f69,z9⟩:=HPU2.out w9 g2 cap2 r1 r2 r3 r4
  have Z9:=Qa z9;clear r1 r2 r3 r4 HPU2 HOW z9 q6 f6;go_wp2
  exact bodyPost_end (v:=.tuple #[]) (by simp[results,results120,go_sem]) rfl (.inl ⟨rfl,rfl,Z9.out⟩)
theorem Qd1 {w:World}{A:Nat→Prop}(hA:∀ k,A k→k<w.heap.size){t:TT 6}{p:Option Addr}{c d:Nat}(ht:TIn w (fun g=>¬ A g) t p) (hok:t.ok) :
 (Qm 6).In (w.alloc (.cells #[.int .i64 t.kind,.int .i64 t.r,.slice p t.len c] 79)) (fun g=>¬ A g) [t] [.slice (some ⟨w.heap.size,0,none⟩) 1 d]:=by
 refine⟨some ⟨w.heap.size,0,none⟩,d,rfl,fun i x hx=>?_⟩
 have hi:i<1:=by simpa using (Zi hx).1
 have hi0:i=0:=by omega
 subst hi0;simp at hx
 subst hx;have hb:=Qe w #[.int .i64 t.kind,.int .i64 t.r,.slice p t.len c] 79;refine⟨w.heap.size,0,[.int .i64 t.kind,.int .i64 t.r,.slice p t.len c],rfl,fun e=>by have:=hA _ e;omega,lt_of_block hb,fun j hj=>?_,p,c,rfl,ht.alloc _,hok⟩
 have hj:j<3:=hj;match j,hj with
 | 0,_=>exact Qb hb 0 _ rfl
 | 1,_=>exact Qb hb 1 _ rfl
 | 2,_=>exact Qb hb 2 _ rfl
 | j+3,h=>exact absurd h (by omega)
theorem QbA {w:World}{b:Nat}{O A:Nat→Prop}{s:JSt}(hL:s.L.length≤80) (hA:∀ k,A k→k<w.heap.size) (h:SAt w b O A s) :
 Calls prog 115 #[.pointer (some ⟨b,0,none⟩)] w fun e w'=>Q6 w b O A s { s with L:=s.L++[tInt] } (Zh s.L.length 1) e w':=by
 have C:Hid (∀ d,Calls prog 120 #[.pointer (some ⟨b,0,none⟩),.slice (some ⟨w.heap.size,0,none⟩) 1 d] (w.alloc (.cells #[.int .i64 1,.int .i64 0,.slice none 0 0] 79)) fun e w'=>Q6 w b O A s { s with L:=s.L++[tInt] } (Zh s.L.length 1) e w'):=fun d=>by
  have b1:=QN w (.cells #[.int .i64 1,.int .i64 0,.slice none 0 0] 79);refine(QaC (l:=[tInt]) rfl (by decide) (Qd1 (t:=tInt) (p:=none) (c:=0) (d:=d) hA (fun i x hx=>by simp[tInt] at hx) (by unfold TT.ok;simp[tInt])) hL (fun k hk=>Zl (hA k hk) b1.size) (h.below b1)).mono (fun e w' hd=>hd.after b1)
 clear h hL hA;go_enter func115,ntmps115
 go_wp2_with fail
 refine(C.out _).mono ?_
 rintro e' w' hd;have HD:=Qa hd;rcases hd with ⟨h1,rfl,h3⟩|⟨h1,rfl,h3⟩
 rotate_left
 ·exact⟨rfl,HD.out⟩
 clear h1 h3;go_wp2
 exact bodyPost_end (v:=.tuple #[]) (by simp[results,results115,go_sem]) rfl HD.out
theorem Qi9 (w:World) (Q:Nat→Prop) (k r:Int):TIn (n:=6) w Q (mkT k r []) none:=fun i x hx=>by simp at hx
theorem Qjn {k r:Int}(h:-9223372036854775808≤r∧r≤9223372036854775807) (h2:-9223372036854775808≤k∧k≤9223372036854775807):TT.ok (n:=6) (mkT k r []):=by
 unfold TT.ok;simp
 omega
theorem Qc7 {w:World}{b:Nat}{O A:Nat→Prop}{s:JSt}(k r:Int) (hr:0≤r∧r≤1000) (hk:0≤k∧k≤4) (d:Nat) (hL:s.L.length≤80) (hA:∀ k,A k→k<w.heap.size) (h:SAt w b O A s) :
 Calls prog 120 #[.pointer (some ⟨b,0,none⟩),.slice (some ⟨w.heap.size,0,none⟩) 1 d] (w.alloc (.cells #[.int .i64 k,.int .i64 r,.slice none 0 0] 79)) fun e w'=>Q6 w b O A s { s with L:=s.L++[mkT k r []] } (Zh s.L.length 1) e w':=by
 have b1:=QN w (.cells #[.int .i64 k,.int .i64 r,.slice none 0 0] 79);exact(QaC (l:=[mkT k r []]) rfl (by simp) (Qd1 (t:=mkT k r []) (p:=none) (c:=0) (d:=d) hA (Qi9 _ _ _ _) (Qjn (by omega) (by omega))) hL (fun k hk=>Zl (hA k hk) b1.size) (h.below b1)).mono (fun e w' hd=>hd.after b1)
def JSt.openC (s:JSt):Int:=if 80<s.L.length+1∨s.H.length=16 then 2 else 0
def JSt.openS (s:JSt):JSt:={ s with H:=s.H++[true],L:=s.L++[mkT 2 s.H.length []] }
theorem Qhi {w:World}{b:Nat}{O A:Nat→Prop}{s:JSt}(hH:s.H.length≤16) (hL:s.L.length≤80) (hA:∀ k,A k→k<w.heap.size) (h:SAt w b O A s) :
 Calls prog 117 #[.pointer (some ⟨b,0,none⟩)] w fun e w'=>Q6 w b O A s s.openS s.openC e w':=by
 have H:=Qa h;have HA:=Qa hA;have C:=Qa (QeE 1 (by decide) hL h);clear h hA;by_cases hs:80<s.L.length+1
 ·rw[show Zh s.L.length 1=2 from if_pos hs] at C
  have E:Hid (s.openC=2):=if_pos (.inl hs);clear hs;go_enter func117,ntmps117
  go_wp2_with fail
  refine C.out.mono ?_;rintro e' w' ⟨⟨hc,-⟩|⟨hc,rfl⟩,hw⟩
  ·cases hc
  subst hw;exact⟨rfl,Q6.bad E.out (by decide) (STo.same H.out)⟩
 rw[show Zh s.L.length 1=0 from if_neg hs] at C
 have C2:Hid (Calls prog 161 #[.pointer (some ⟨b,0,none⟩),.int .i64 1] w fun e w'=>e=.returned (.tuple #[])∧w'=w):=C.out.mono (fun e w' h=>by
  rcases h with ⟨⟨-,x,rfl,hx⟩|⟨hc,-⟩,hw⟩
  ·exact⟨by rw[hx],hw⟩
  ·exact absurd rfl hc)
 clear C;obtain⟨hh,q1,hheld,hset⟩:=H.out.setH HA.out
 have CO:=Qa (Qc6 hheld);have HS:=Qa hset;clear hheld hset;by_cases h16:s.H.length=16
 ·have E:Hid (s.openC=2):=if_pos (.inr h16);rw[show QbQ s.H=-1 by unfold QbQ;rw[if_neg (by omega)],show Qc5 s.H=s.H by unfold Qc5;rw[if_neg (by omega)]] at CO
  clear h16 hs;go_enter func117,ntmps117
  go_wp2_with (first | (go_at_call 161;refine(C2.out).mono ?_;rintro e w' ⟨rfl,hw⟩;have hw:=hw.symm;subst hw) | (go_at_call 106;refine(CO.out).mono ?_;rintro e w1 ⟨rfl,hh1,st1⟩;have Z:=Qa (HS.out w1 _ hh1 st1);clear hh1 st1))
  refine(Zq _ 2).mono ?_
  rintro e' w' ⟨rfl,hw⟩;subst hw;exact⟨rfl,Q6.bad E.out (by decide) Z.out⟩
 ·have E:Hid (s.openC=0):=if_neg (by omega);have hlt:s.H.length<16:=by omega
  rw[show QbQ s.H=(s.H.length:Int) by unfold QbQ;rw[if_pos hlt],show Qc5 s.H=s.H++[true] by unfold Qc5;rw[if_pos hlt]] at CO
  have hHL:s.H.length≤1000:=by omega
  generalize hnH:s.H.length=nH at CO hlt hHL;have HnH:=Qa hnH;have hg0:decide ((nH:Int)≥0)=true:=decide_eq_true (by omega);clear hnH h16;go_enter func117,ntmps117
  go_wp2_with (first | (go_at_call 161;refine(C2.out).mono ?_;rintro e w' ⟨rfl,hw⟩;have hw:=hw.symm;subst hw) | (go_at_call 106;refine(CO.out).mono ?_;rintro e w1 ⟨rfl,hh1,st1⟩;have Z:=Qa (HS.out w1 _ hh1 st1);clear hh1 st1))
  refine(Zp _ _).mono ?_
  rintro e' w' ⟨rfl,hw⟩;have hw:=hw.symm;subst hw;obtain⟨N,z1,z2,z3⟩:=Z.out
  have HZ:=Qa (And.intro z1 z3);have CM:=Qa (fun d=>Qc7 2 (nH:Int) (by omega) (by decide) d (by exact hL) (fun k hk=>by rcases hk with hk | hk;exact Zl (HA.out k hk) z3.size;exact(z1 k hk).2) z2);clear z1 z2 z3 Z HS CO C2;go_wp2_with fail
  refine(CM.out _).mono ?_
  rintro e' w2 hd;rcases hd with ⟨h1,rfl,h3⟩|⟨h1,rfl,h3⟩
  rotate_left
  ·exact absurd (if_neg hs) h1
  have F:=Qa (STo.join HZ.out.1 HZ.out.2 h3);clear h1 h3 CM HZ;go_wp2
  refine bodyPost_end (v:=.tuple #[]) (by simp[results,results117,go_sem]) rfl (.inl ⟨E.out,rfl,?_⟩);have e:s.openS={ ({ s with H:=s.H++[true] }) with L:=({ s with H:=s.H++[true] }).L++[mkT 2 (nH:Int) []] }:=by unfold JSt.openS;rw[HnH.out]
  rw[e]
  exact F.out
def JSt.freeC (s:JSt) (a:Int):Int:=match s.at a with
 | none=>1
 | some t=>code2 (s.want a 2 true) (if t.r<s.f.regs then 11 else 0)
def JSt.freeS (s:JSt) (a:Int):JSt:={ s with H:=s.H.set (match s.at a with | none=>0 | some t=>t.r.toNat) false }
theorem QgX {s:JSt}{a:Int}(h:s.want a 2 true≠0):s.freeC a=s.want a 2 true:=by
 unfold JSt.freeC
 cases e:s.at a with
 | none=>unfold JSt.want;rw[e]
 | some t=>show code2 _ _=_;unfold code2;rw[if_neg h]
theorem QhV {w:World}{b:Nat}{O A:Nat→Prop}{s:JSt}(a:Int) (hL:s.L.length≤80) (hA:∀ k,A k→k<w.heap.size) (h:SAt w b O A s) :
 Calls prog 118 #[.pointer (some ⟨b,0,none⟩),.int .i64 a] w fun e w'=>Q6 w b O A s (s.freeS a) (s.freeC a) e w':=by
 have H:=Qa h;have HA:=Qa hA;clear h hA;have hfl:∀ (k r:Int) (p:Option Addr) (l c:Nat) (w:World),(Instr.field 79 (.agg #[.int .i64 k,.int .i64 r,.slice p l c]) 1).run prog w=.ok (.int .i64 r) w:=fun _ _ _ _ _ _=>by kernel_rfl
 go_enter func118,ntmps118
 go_wp2_with fail
 refine(Qak a 2 hL (fun k hk=>HA.out k (H.out.sub k hk)) H.out).mono ?_
 rintro e' w2 ⟨hO,b2⟩;have HB:=Qa b2;have H2:=Qa (H.out.below b2);clear b2;rcases hO with ⟨hc,x,rfl,t,p,c,ha,rfl,ht,hok⟩|⟨hc,rfl⟩
 rotate_left
 ·exact⟨rfl,Q6.bad (QgX hc) hc (STo.of_below H.out HB.out)⟩
 have E:Hid (s.freeC a=if t.r<s.f.regs then 11 else 0):=by show _=_;unfold JSt.freeC code2;rw[ha];simp only[hc,if_true]
 have hhas:hHas s.H t.r=true:=by
  obtain⟨t',e1,e2,e3⟩:=Qaj hc
  rw[ha] at e1
  cases e1
  exact e3 rfl
 have ES:Hid (s.freeS a={ s with H:=QfB s.H t.r }):=by show _=_;unfold JSt.freeS QfB;rw[ha,hhas];rfl
 obtain⟨pm,cm,hh,a1,c1,a2,c2,a3,c3,aL,cL,RR⟩:=H2.out.read
 obtain⟨-,q1,q2,-⟩:=RR.cells
 clear RR ht hok ha hc hhas;obtain⟨hh',q1',hheld,hset⟩:=H2.out.setH (fun k hk=>Zl (HA.out k hk) HB.out.size)
 have e1:=q1.symm.trans q1';simp only[Option.some.injEq,Value.pointer.injEq,Addr.mk.injEq,and_true] at e1
 subst e1;have CO:=Qa (Qg9 t.r hheld);have HS:=Qa hset;clear hheld hset q1';simp only[Tv]
 generalize s.f.regs=fr at q2 E;generalize t.r=tr at E CO ES ⊢;by_cases hlt:tr<fr
 ·rw[if_pos hlt] at E
  have hg:decide (tr≥fr)=false:=decide_eq_false (by omega);clear hlt;go_wp2_with fail
  refine(Zq _ 11).mono ?_
  rintro e' w' ⟨rfl,hw⟩;subst hw;exact⟨rfl,Q6.bad E.out (by decide) (STo.of_below H.out HB.out)⟩
 ·rw[if_neg hlt] at E
  have hg:decide (tr≥fr)=true:=decide_eq_true (by omega);clear hlt;go_wp2_with fail
  refine(Zp _ _).mono ?_
  rintro e' w' ⟨rfl,hw⟩;have hw:=hw.symm;subst hw;go_wp2_with (go_at_call 163;refine(CO.out).mono ?_;rintro e w1 ⟨rfl,hh1,st1⟩;have Z:=Qa (HS.out w1 _ hh1 st1);clear hh1 st1)
  exact bodyPost_end (v:=.tuple #[]) (by simp[results,results118,go_sem]) rfl (.inl ⟨E.out,rfl,by rw[ES.out];exact Z.out.after HB.out⟩)
def JSt.arrayC (s:JSt) (a b:Int):Int:=code2 (code2 (s.want a 2 true) (s.want b 1 false)) (Zh s.L.length 1)
theorem Qr {a b:Int}(h:a≠0):code2 a b=a:=by unfold code2;rw[if_neg h]
theorem QF {a b:Int}(h:a=0):code2 a b=b:=by unfold code2;rw[if_pos h]
theorem Qj3 {w:World}(a:Int) (ha:-9223372036854775808≤a∧a≤9223372036854775807) (d:Nat):intsL.In (w.alloc (.cells #[.int .i64 a] 3)) All [a] [.slice (some ⟨w.heap.size,0,none⟩) 1 d]:=by
 refine⟨_,d,rfl,fun i x hx=>?_⟩
 have hi:i<1:=by simpa using (Zi hx).1
 have hi0:i=0:=by omega
 subst hi0;simp at hx
 subst hx;have hb:=Qe w #[.int .i64 a] 3;refine⟨w.heap.size,0,[.int .i64 a],rfl,trivial,lt_of_block hb,fun j hj=>?_,rfl,ha⟩
 have hj:j<1:=hj;match j,hj with
 | 0,_=>exact Qb hb 0 _ rfl
 | j+1,h=>exact absurd h (by omega)
theorem QiX {w:World}(a b:Int) (ha:-9223372036854775808≤a∧a≤9223372036854775807) (hb:-9223372036854775808≤b∧b≤9223372036854775807) (d:Nat):intsL.In (w.alloc (.cells #[.int .i64 a,.int .i64 b] 3)) All [a,b] [.slice (some ⟨w.heap.size,0,none⟩) 2 d]:=by
 refine⟨_,d,rfl,fun i x hx=>?_⟩
 have hi:i<2:=by simpa using (Zi hx).1
 have hB:=Qe w #[.int .i64 a,.int .i64 b] 3;match i,hi with
 | 0,_ =>
   simp at hx
   subst hx;refine⟨w.heap.size,0,[.int .i64 a],rfl,trivial,lt_of_block hB,fun j hj=>?_,rfl,ha⟩
   have hj:j<1:=hj;match j,hj with
   | 0,_=>exact Qb hB 0 _ rfl
   | j+1,h=>exact absurd h (by omega)
 | 1,_ =>
   simp at hx
   subst hx;refine⟨w.heap.size,0,[.int .i64 b],rfl,trivial,lt_of_block hB,fun j hj=>?_,rfl,hb⟩
   have hj:j<1:=hj;match j,hj with
   | 0,_=>exact Qb hB 1 _ rfl
   | j+1,h=>exact absurd h (by omega)
 | i+2,h=>exact absurd h (by omega)
theorem Qen {s:JSt}{a:Int}:Qz (fun a=>s.want a 1 false) [a]=s.want a 1 false:=by
 show (if s.want a 1 false≠0 then s.want a 1 false else 0)=_;split
 ·rfl
 ·rename_i h;exact(Decidable.not_not.1 h).symm
theorem Qhg {s:JSt}{a b:Int}:Qz (fun a=>s.want a 1 false) [a,b]=code2 (s.want a 1 false) (s.want b 1 false):=by
 show (if s.want a 1 false≠0 then s.want a 1 false else Qz (fun a=>s.want a 1 false) [b])=_;rw[Qen]
 by_cases h:s.want a 1 false=0
 ·rw[if_neg (by simpa using h),QF h]
 ·rw[if_pos h,Qr h]
theorem QbX {w:World}{b:Nat}{O A:Nat→Prop}{s:JSt}(a:Int) (ha:-9223372036854775808≤a∧a≤9223372036854775807) (d:Nat) (hL:s.L.length≤80) (hO:∀ k,O k→k<w.heap.size) (h:SAt w b O A s) :
 Calls prog 116 #[.pointer (some ⟨b,0,none⟩),.slice (some ⟨w.heap.size,0,none⟩) 1 d] (w.alloc (.cells #[.int .i64 a] 3)) fun e w'=>ZW (s.want a 1 false) VNone e∧Below w.heap.size w w':=by
 have b1:=QN w (.cells #[.int .i64 a] 3)
 have:=QbE (l:=[a]) rfl (by simp) (Qj3 a ha d) hL (fun k hk=>Zl (hO k hk) b1.size) (h.below b1)
 rw[Qen] at this
 exact this.mono (fun e w' h=>⟨h.1,b1.trans (h.2.mono b1.size)⟩)
theorem QeZ {w:World}{b:Nat}{O A:Nat→Prop}{s:JSt}(a a':Int) (ha:-9223372036854775808≤a∧a≤9223372036854775807) (ha':-9223372036854775808≤a'∧a'≤9223372036854775807) (d:Nat) (hL:s.L.length≤80) (hO:∀ k,O k→k<w.heap.size) (h:SAt w b O A s) :
 Calls prog 116 #[.pointer (some ⟨b,0,none⟩),.slice (some ⟨w.heap.size,0,none⟩) 2 d] (w.alloc (.cells #[.int .i64 a,.int .i64 a'] 3)) fun e w'=>ZW (code2 (s.want a 1 false) (s.want a' 1 false)) VNone e∧Below w.heap.size w w':=by
 have b1:=QN w (.cells #[.int .i64 a,.int .i64 a'] 3)
 have:=QbE (l:=[a,a']) rfl (by simp) (QiX a a' ha ha' d) hL (fun k hk=>Zl (hO k hk) b1.size) (h.below b1)
 rw[Qhg] at this
 exact this.mono (fun e w' h=>⟨h.1,b1.trans (h.2.mono b1.size)⟩)
theorem Qg2 {w:World}{b:Nat}{O A:Nat→Prop}{s:JSt}(a a':Int) (ha':-9223372036854775808≤a'∧a'≤9223372036854775807) (hH:s.H.length≤16) (hL:s.L.length≤80) (hA:∀ k,A k→k<w.heap.size) (h:SAt w b O A s) :
 Calls prog 123 #[.pointer (some ⟨b,0,none⟩),.int .i64 a,.int .i64 a'] w fun e w'=>∀ t,(s.at a=some t∨(s.at a=none∧t=tInt))→Q6 w b O A s { s with L:=s.L++[mkT 4 t.r []] } (s.arrayC a a') e w':=by
 have H:=Qa h;have HA:=Qa hA;have HI:=Qa ha';clear h hA ha';have hfl:∀ (k r:Int) (p:Option Addr) (l c:Nat) (w:World),(Instr.field 79 (.agg #[.int .i64 k,.int .i64 r,.slice p l c]) 1).run prog w=.ok (.int .i64 r) w:=fun _ _ _ _ _ _=>by kernel_rfl
 go_enter func123,ntmps123
 go_wp2_with fail
 refine(Qak a 2 hL (fun k hk=>HA.out k (H.out.sub k hk)) H.out).mono ?_
 rintro e' w2 ⟨hO,b2⟩;have HB:=Qa b2;have H2:=Qa (H.out.below b2);have HA2:=Qa (fun k hk=>Zl (HA.out k hk) b2.size);clear b2;rcases hO with ⟨hc,x,rfl,t,p,c,ha,rfl,ht,hok⟩|⟨hc,rfl⟩
 rotate_left
 ·exact⟨rfl,fun t _=>Q6.bad (by unfold JSt.arrayC;rw[Qr hc,Qr hc]) hc (STo.of_below H.out HB.out)⟩
 have E:Hid (s.arrayC a a'=code2 (s.want a' 1 false) (Zh s.L.length 1)):=by show _=_;unfold JSt.arrayC;rw[QF hc]
 have hr:0≤t.r∧t.r≤1000:=by
  obtain⟨t',e1,e2,e3⟩:=Qaj hc
  rw[ha] at e1
  cases e1
  have:=ZQ (e3 rfl)
  omega
 have HAT:=Qa ha;have HR:=Qa hr;clear ht hok ha hc hr;simp only[Tv]
 have C:=Qa (fun d=>QbX a' HI.out d hL (fun k hk=>HA2.out k (H2.out.sub k hk)) H2.out);go_wp2_with fail
 refine(C.out _).mono ?_
 rintro e' w3 ⟨hO,b3⟩;have HB3:=Qa (HB.out.trans (b3.mono HB.out.size));have H3:=Qa (H2.out.below b3);have HA3:=Qa (fun k hk=>Zl (HA2.out k hk) b3.size);rcases hO with ⟨hc,x,rfl,hx⟩|⟨hc,rfl⟩
 rotate_left
 ·exact⟨rfl,fun t _=>Q6.bad (by rw[E.out,Qr hc]) hc (STo.of_below H.out HB3.out)⟩
 subst hx;have E2:Hid (s.arrayC a a'=Zh s.L.length 1):=by show _=_;rw[E.out,QF hc]
 clear b3 hc E C;have CM:=Qa (fun d=>Qc7 4 t.r HR.out (by decide) d hL HA3.out H3.out);go_wp2_with fail
 refine(CM.out _).mono ?_
 rintro e' w4 hd
 have F:Hid (∀ t,(s.at a=some t∨(s.at a=none∧t=tInt))→Q6 w b O A s { s with L:=s.L++[mkT 4 t.r []] } (s.arrayC a a') e' w4):=fun t' h'=>by
  rcases h' with h' | ⟨h',-⟩
  ·have e:=h'.symm.trans HAT.out;injection e with e
   subst e;rw[E2.out]
   exact hd.after HB3.out
  ·rw[HAT.out] at h';cases h'
 rcases hd with ⟨h1,rfl,h3⟩|⟨h1,rfl,h3⟩
 rotate_left
 ·exact⟨rfl,F.out⟩
 clear h1 h3 CM;go_wp2
 exact bodyPost_end (v:=.tuple #[]) (by simp[results,results123,go_sem]) rfl F.out
theorem typeFault_any:∀ n,QdI 156 n:=by
 intro n
 induction n with
 | zero=>intro t;exact Empty.elim t
 | succ n ih =>
   intro t a c regs w ht hct;have IH:Hid (QdI 156 n):=ih;clear ih;have hT:Hid (LIn w All t.2.2 a):=ht.list;have hco:Hid (∀ x∈t.2.2,x.count≤100000):=fun x hx=>by have:=t.count_kid hx;omega
   have hlen:t.2.2.length≤100000:=by have:=t.len_lt_count;rw[t.len_eq] at this;omega
   have hF:Hid (t.fault regs=if ownC t.kind t.r t.2.2.length regs≠0 then ownC t.kind t.r t.2.2.length regs else Qz (TT.fault regs) t.2.2):=rfl;generalize t.fault regs=res at hF ⊢;simp only[Tv,TT.len_eq]
   generalize t.2.2=l at hT hco hF hlen ⊢;generalize t.kind=k at hF ⊢;generalize t.r=r at hF ⊢;clear ht hct t;generalize hln:l.length=len at hF hlen ⊢;have HL:Hid (l.length=len):=hln;clear hln;rcases (show k<1∨(¬ k<1∧4<k)∨k=1∨k=2∨k=4∨k=3 by omega) with h1 | ⟨h1,h2⟩ | rfl | rfl | rfl | rfl
   ·have hR:=hF.out;rw[show ownC _ _ len regs=3 by unfold ownC;repeat' split;all_goals omega] at hR
    clear hF;replace hR:Hid (res=3):=by show res=3;simpa using hR
    go_enter func156,ntmps156
    go_wp2_with fail
    go_ret;exact⟨by rw[hR.out];rfl,(Below.refl _ w).alloc Ze _⟩
   ·have hR:=hF.out;rw[show ownC _ _ len regs=3 by unfold ownC;repeat' split;all_goals omega] at hR
    clear hF;replace hR:Hid (res=3):=by show res=3;simpa using hR
    go_enter func156,ntmps156
    go_wp2_with fail
    go_ret;exact⟨by rw[hR.out];rfl,(Below.refl _ w).alloc Ze _⟩
   ·rcases (show r≠0∨(r=0∧0<len)∨(r=0∧len=0) by omega) with h1 | ⟨rfl,h1⟩|⟨rfl,h1⟩
    ·have g1:(r != 0)=true:=by simpa using h1
     have hR:=hF.out;rw[show ownC _ _ len regs=4 by unfold ownC;repeat' split;all_goals omega] at hR
     clear hF;replace hR:Hid (res=4):=by show res=4;simpa using hR
     go_enter func156,ntmps156
     go_wp2_with fail
     go_ret;exact⟨by rw[hR.out];rfl,(Below.refl _ w).alloc Ze _⟩
    ·have g1:(0:Int)<(len:Int):=by omega
     have hR:=hF.out;rw[show ownC _ _ len regs=4 by unfold ownC;repeat' split;all_goals omega] at hR
     clear hF;replace hR:Hid (res=4):=by show res=4;simpa using hR
     go_enter func156,ntmps156
     go_wp2_with fail
     go_ret;exact⟨by rw[hR.out];rfl,(Below.refl _ w).alloc Ze _⟩
    ·have g1:¬ (0:Int)<(len:Int):=by omega
     have g2:¬ (8:Int)<(len:Int):=by omega
     have hR:=hF.out;rw[show ownC _ _ len regs=0 by unfold ownC;repeat' split;all_goals omega] at hR
     clear hF;have R:Hid (res=Qz (TT.fault regs) l):=by show res=Qz (TT.fault regs) l;simpa using hR
     clear hR
     have R0:Hid (res=0):=by
      have hl0:l=[]:=List.length_eq_zero_iff.1 (HL.out.trans h1)
      have:=R.out
      rw[hl0] at this
      exact this
     subst h1;clear R g1 g2;go_enter func156,ntmps156
     go_wp2_with fail
     have X0:=Bx.start w 1 0 a 0 c;generalize w.alloc (.cells #[.int .i64 1,.int .i64 0,.slice a 0 c] 79)=w1 at X0 ⊢;have X1:Hid (Bx w w1 1 0 a 0 c):=X0;clear X0;go_loopw [5] (fun i wr=>i=.int .i64 0∧Bx w wr 1 0 a 0 c) (fun _ _=>0)
     case atStart=>exact⟨rfl,X1.out⟩
     case round =>
      clear X1;obtain⟨rfl,hX⟩:=hrel
      have X1:Hid (Bx w wr 1 0 a 0 c):=hX;have e2:wr.cell? ⟨w.heap.size,2,none⟩=some (.slice a 0 c):=Qb hX.box 2 _ rfl;clear hX;go_wp2
      go_ret;exact⟨by rw[R0.out];rfl,X1.out.bel⟩
   ·rcases (show 0<len∨(len=0∧r<0)∨(len=0∧0≤r∧regs≤r)∨(len=0∧0≤r∧r<regs) by omega) with h1 | ⟨h1,h2⟩|⟨h1,h2,h3⟩|⟨h1,h2,h3⟩
    ·have g1:(0:Int)<(len:Int):=by omega
     have hR:=hF.out;rw[show ownC _ _ len regs=4 by unfold ownC;repeat' split;all_goals omega] at hR
     clear hF;replace hR:Hid (res=4):=by show res=4;simpa using hR
     go_enter func156,ntmps156
     go_wp2_with fail
     go_ret;exact⟨by rw[hR.out];rfl,(Below.refl _ w).alloc Ze _⟩
    ·have g1:¬ (0:Int)<(len:Int):=by omega
     have g2:¬ (8:Int)<(len:Int):=by omega
     have hR:=hF.out;rw[show ownC _ _ len regs=1 by unfold ownC;repeat' split;all_goals omega] at hR
     clear hF;replace hR:Hid (res=1):=by show res=1;simpa using hR
     go_enter func156,ntmps156
     go_wp2_with fail
     go_ret;exact⟨by rw[hR.out];rfl,(Below.refl _ w).alloc Ze _⟩
    ·have g1:¬ (0:Int)<(len:Int):=by omega
     have g2:¬ (8:Int)<(len:Int):=by omega
     have hR:=hF.out;rw[show ownC _ _ len regs=1 by unfold ownC;repeat' split;all_goals omega] at hR
     clear hF;replace hR:Hid (res=1):=by show res=1;simpa using hR
     go_enter func156,ntmps156
     go_wp2_with fail
     go_ret;exact⟨by rw[hR.out];rfl,(Below.refl _ w).alloc Ze _⟩
    ·have g1:¬ (0:Int)<(len:Int):=by omega
     have g2:¬ (8:Int)<(len:Int):=by omega
     have hR:=hF.out;rw[show ownC _ _ len regs=0 by unfold ownC;repeat' split;all_goals omega] at hR
     clear hF;have R:Hid (res=Qz (TT.fault regs) l):=by show res=Qz (TT.fault regs) l;simpa using hR
     clear hR
     have R0:Hid (res=0):=by
      have hl0:l=[]:=List.length_eq_zero_iff.1 (HL.out.trans h1)
      have:=R.out
      rw[hl0] at this
      exact this
     subst h1;clear R g1 g2;go_enter func156,ntmps156
     go_wp2_with fail
     have X0:=Bx.start w 2 r a 0 c;generalize w.alloc (.cells #[.int .i64 2,.int .i64 r,.slice a 0 c] 79)=w1 at X0 ⊢;have X1:Hid (Bx w w1 2 r a 0 c):=X0;clear X0;go_loopw [5] (fun i wr=>i=.int .i64 0∧Bx w wr 2 r a 0 c) (fun _ _=>0)
     case atStart=>exact⟨rfl,X1.out⟩
     case round =>
      clear X1;obtain⟨rfl,hX⟩:=hrel
      have X1:Hid (Bx w wr 2 r a 0 c):=hX;have e2:wr.cell? ⟨w.heap.size,2,none⟩=some (.slice a 0 c):=Qb hX.box 2 _ rfl;clear hX;go_wp2
      go_ret;exact⟨by rw[R0.out];rfl,X1.out.bel⟩
   ·rcases (show 0<len∨(len=0∧r<0)∨(len=0∧0≤r∧regs≤r)∨(len=0∧0≤r∧r<regs) by omega) with h1 | ⟨h1,h2⟩|⟨h1,h2,h3⟩|⟨h1,h2,h3⟩
    ·have g1:(0:Int)<(len:Int):=by omega
     have hR:=hF.out;rw[show ownC _ _ len regs=4 by unfold ownC;repeat' split;all_goals omega] at hR
     clear hF;replace hR:Hid (res=4):=by show res=4;simpa using hR
     go_enter func156,ntmps156
     go_wp2_with fail
     go_ret;exact⟨by rw[hR.out];rfl,(Below.refl _ w).alloc Ze _⟩
    ·have g1:¬ (0:Int)<(len:Int):=by omega
     have g2:¬ (8:Int)<(len:Int):=by omega
     have hR:=hF.out;rw[show ownC _ _ len regs=1 by unfold ownC;repeat' split;all_goals omega] at hR
     clear hF;replace hR:Hid (res=1):=by show res=1;simpa using hR
     go_enter func156,ntmps156
     go_wp2_with fail
     go_ret;exact⟨by rw[hR.out];rfl,(Below.refl _ w).alloc Ze _⟩
    ·have g1:¬ (0:Int)<(len:Int):=by omega
     have g2:¬ (8:Int)<(len:Int):=by omega
     have hR:=hF.out;rw[show ownC _ _ len regs=1 by unfold ownC;repeat' split;all_goals omega] at hR
     clear hF;replace hR:Hid (res=1):=by show res=1;simpa using hR
     go_enter func156,ntmps156
     go_wp2_with fail
     go_ret;exact⟨by rw[hR.out];rfl,(Below.refl _ w).alloc Ze _⟩
    ·have g1:¬ (0:Int)<(len:Int):=by omega
     have g2:¬ (8:Int)<(len:Int):=by omega
     have hR:=hF.out;rw[show ownC _ _ len regs=0 by unfold ownC;repeat' split;all_goals omega] at hR
     clear hF;have R:Hid (res=Qz (TT.fault regs) l):=by show res=Qz (TT.fault regs) l;simpa using hR
     clear hR
     have R0:Hid (res=0):=by
      have hl0:l=[]:=List.length_eq_zero_iff.1 (HL.out.trans h1)
      have:=R.out
      rw[hl0] at this
      exact this
     subst h1;clear R g1 g2;go_enter func156,ntmps156
     go_wp2_with fail
     have X0:=Bx.start w 4 r a 0 c;generalize w.alloc (.cells #[.int .i64 4,.int .i64 r,.slice a 0 c] 79)=w1 at X0 ⊢;have X1:Hid (Bx w w1 4 r a 0 c):=X0;clear X0;go_loopw [5] (fun i wr=>i=.int .i64 0∧Bx w wr 4 r a 0 c) (fun _ _=>0)
     case atStart=>exact⟨rfl,X1.out⟩
     case round =>
      clear X1;obtain⟨rfl,hX⟩:=hrel
      have X1:Hid (Bx w wr 4 r a 0 c):=hX;have e2:wr.cell? ⟨w.heap.size,2,none⟩=some (.slice a 0 c):=Qb hX.box 2 _ rfl;clear hX;go_wp2
      go_ret;exact⟨by rw[R0.out];rfl,X1.out.bel⟩
   ·rcases (show 8<len∨(len≤8∧r<0)∨(len≤8∧0≤r∧regs≤r)∨(len≤8∧0≤r∧r<regs) by omega) with h1 | ⟨h1,h2⟩|⟨h1,h2,h3⟩|⟨h1,h2,h3⟩
    ·have g1:(8:Int)<(len:Int):=by omega
     have hR:=hF.out;rw[show ownC _ _ len regs=2 by unfold ownC;repeat' split;all_goals omega] at hR
     clear hF;replace hR:Hid (res=2):=by show res=2;simpa using hR
     go_enter func156,ntmps156
     go_wp2_with fail
     go_ret;exact⟨by rw[hR.out];rfl,(Below.refl _ w).alloc Ze _⟩
    ·have g1:¬ (8:Int)<(len:Int):=by omega
     have hR:=hF.out;rw[show ownC _ _ len regs=1 by unfold ownC;repeat' split;all_goals omega] at hR
     clear hF;replace hR:Hid (res=1):=by show res=1;simpa using hR
     go_enter func156,ntmps156
     go_wp2_with fail
     go_ret;exact⟨by rw[hR.out];rfl,(Below.refl _ w).alloc Ze _⟩
    ·have g1:¬ (8:Int)<(len:Int):=by omega
     have hR:=hF.out;rw[show ownC _ _ len regs=1 by unfold ownC;repeat' split;all_goals omega] at hR
     clear hF;replace hR:Hid (res=1):=by show res=1;simpa using hR
     go_enter func156,ntmps156
     go_wp2_with fail
     go_ret;exact⟨by rw[hR.out];rfl,(Below.refl _ w).alloc Ze _⟩
    ·have g1:¬ (8:Int)<(len:Int):=by omega
     have hR:=hF.out;rw[show ownC _ _ len regs=0 by unfold ownC;repeat' split;all_goals omega] at hR
     clear hF;have R:Hid (res=Qz (TT.fault regs) l):=by show res=Qz (TT.fault regs) l;simpa using hR
     clear hR;go_enter func156,ntmps156
     go_wp2_with fail
     have X0:=Bx.start w 3 r a len c;generalize w.alloc (.cells #[.int .i64 3,.int .i64 r,.slice a len c] 79)=w1 at X0 ⊢;have X1:Hid (Bx w w1 3 r a len c):=X0;clear X0;go_loopw [5] (fun i wr=>∃ q:Nat,q≤len∧i=.int .i64 q∧(∀ (j:Nat) x,j<q→l[j]?=some x→x.fault regs=0)∧Bx w wr 3 r a len c) (fun i _=>len - (intOf i).toNat)
     case atStart=>exact⟨0,Nat.zero_le _,rfl,fun j x hj=>by omega,X1.out⟩
     case round =>
      clear X1;obtain⟨q,hq,rfl,hall,hX⟩:=hrel
      have A:Hid (∀ (j:Nat) x,j<q→l[j]?=some x→x.fault regs=0):=hall;have X1:Hid (Bx w wr 3 r a len c):=hX;have e2:wr.cell? ⟨w.heap.size,2,none⟩=some (.slice a len c):=Qb hX.box 2 _ rfl;clear hall;by_cases hlt:q<len
      ·have hql:q<l.length:=by have:=HL.out;omega
       have hx:l[q]?=some l[q]:=Zg hql;generalize l[q]=x at hx;clear hql;obtain⟨g,o,a',c',rfl,_,d0,d1,d2,hk⟩:=LIn.at (hT.out.below hX.bel) hx
       have hx':Hid (l[q]?=some x):=hx;have hk0:(0:Int)≤q:=by omega
       have hk1:(q:Int)<len:=by omega
       have C:Hid (∀ wx,Below wr.heap.size wr wx→Calls prog 156 #[Tv x a' c',.int .i64 regs] wx fun e w'=>e=.returned (.int .i64 (x.fault regs))∧Below wx.heap.size wx w') :=
        fun wx hb=>IH.out x a' c' regs wx (hk.below hb) (hco.out x (Zm hx))
       clear hX hk hx;simp only[Tv] at C
       generalize x.kind=kx at C d0;generalize x.r=rx at C d1;generalize x.len=lx at C d2;go_wp2_with fail
       refine(C.out _ Zr).mono ?_
       rintro e w2 ⟨rfl,b2⟩;have X2:Hid (Bx w w2 3 r (some ⟨g,o,none⟩) len c):=X1.out.below b2;clear X1 b2 C d0 d1 d2 e2;by_cases hd:x.fault regs=0
       ·have A2:Hid (∀ (j:Nat) x,j<q+1→l[j]?=some x→x.fault regs=0):=fun j y hj hy=>by
         by_cases e:j=q
         ·subst e;rw[hx'.out] at hy
          cases hy
          exact hd
         ·exact A.out j y (by omega) hy
        rw[hd]
        clear hd A;go_wp2
        go_roundw
        case rel=>exact⟨q+1,by omega,by go_num,A2.out,X2.out⟩
        case measure=>simp[intOf];omega
       ·have Rv:Hid (res=x.fault regs):=R.out.trans (QaB hx'.out A.out hd);have hd':(x.fault regs != 0)=true:=by simpa using hd
        generalize x.fault regs=v at hd' Rv ⊢;clear hd A;go_wp2
        go_ret;exact⟨by rw[Rv.out];rfl,X2.out.bel⟩
      ·have Rv:Hid (res=0):=R.out.trans (Qai (fun j y hy=>A.out j y (by have:=(Zi hy).1;have:=HL.out;omega) hy));have hk1:¬ (q:Int)<len:=by omega
       clear hX A;go_wp2
       go_ret;exact⟨by rw[Rv.out];rfl,X1.out.bel⟩
theorem Qdf {α:Type}(f:α→Nat) (l:List α) (i:Nat) (x:α) (h:l[i]?=some x):((l.map f).take (i+1)).foldl max 0=max (((l.map f).take i).foldl max 0) (f x):=by
 rw[List.take_add_one,List.getElem?_map,h]
 simp
theorem Qcu (l:List Nat) (i:Nat):(l.take i).foldl max 0≤l.foldl max 0:=by
 rw[Qa8]
 exact⟨Nat.zero_le _,fun x hx=>(Qa8.1 (Nat.le_refl (l.foldl max 0))).2 x (List.mem_of_mem_take hx)⟩
theorem deepOf_any:∀ (n:Nat) (t:TT n) (a:Option Addr) (c:Nat) (w:World) (m:Nat),TIn w All t a→t.count≤100000→m≤4 →
 Calls prog 127 #[Tv t a c,.int .i64 m] w fun e w'=>e=.returned (.int .i64 ((min t.height (m+1):Nat):Int))∧Below w.heap.size w w':=by
 intro n
 induction n with
 | zero=>intro t;exact Empty.elim t
 | succ n ih =>
   intro t a c w m ht hct hm4
   have IH:Hid (∀ (t:TT n) (a:Option Addr) (c:Nat) (w:World) (m:Nat),TIn w All t a→t.count≤100000→m≤4 →
    Calls prog 127 #[Tv t a c,.int .i64 m] w fun e w'=>e=.returned (.int .i64 ((min t.height (m+1):Nat):Int))∧Below w.heap.size w w'):=ih
   clear ih;have hT:Hid (LIn w All t.2.2 a):=ht.list;have hco:Hid (∀ x∈t.2.2,x.count≤100000):=fun x hx=>by have:=t.count_kid hx;omega
   have hlen:t.2.2.length≤100000:=by have:=t.len_lt_count;rw[t.len_eq] at this;omega
   have hh:Hid (t.height=(t.2.2.map (fun x=>1+x.height)).foldl max 0):=rfl;generalize t.height=h at hh ⊢;simp only[Tv,TT.len_eq]
   generalize t.2.2=l at hT hco hh hlen ⊢;generalize t.kind=k;generalize t.r=r;clear ht hct t;generalize hres:((min h (m+1):Nat):Int)=res;have hR:Hid (((min h (m+1):Nat):Int)=res):=hres;clear hres;go_enter func127,ntmps127
   go_wp2_with fail
   have X0:Hid (Bx w (w.alloc (.cells #[.int .i64 k,.int .i64 r,.slice a l.length c] 79)) k r a l.length c):=Bx.start w k r a l.length c;generalize w.alloc (.cells #[.int .i64 k,.int .i64 r,.slice a l.length c] 79)=w1 at X0 ⊢;go_loopw [5,6] (fun v i wr=>∃ q y:Nat,q≤l.length∧i=.int .i64 q∧v=.int .i64 y∧y=min (((l.map (fun x=>1+x.height)).take q).foldl max 0) (m+1)∧Bx w wr k r a l.length c) (fun _ i _=>l.length - (intOf i).toNat)
   case atStart=>exact⟨0,0,Nat.zero_le _,rfl,rfl,by simp,X0.out⟩
   case round =>
    clear X0;obtain⟨q,y,hq,rfl,rfl,hy,hX⟩:=hrel
    have Y:Hid (y=min (((l.map (fun x=>1+x.height)).take q).foldl max 0) (m+1)):=hy;have X1:Hid (Bx w wr k r a l.length c):=hX;have e2:wr.cell? ⟨w.heap.size,2,none⟩=some (.slice a l.length c):=Qb hX.box 2 _ rfl;have hyb:(y:Int)≤5:=by omega
    clear hy;by_cases hlt:q<l.length
    ·have hk0:(0:Int)≤q:=by omega
     have hk1:(q:Int)<l.length:=by omega
     by_cases hym:y≤m
     ·have hx:l[q]?=some l[q]:=Zg hlt;generalize l[q]=x at hx;obtain⟨g,o,a',c',rfl,_,d0,d1,d2,hk⟩:=LIn.at (hT.out.below hX.bel) hx
      have hS:=Qdf (fun x:TT n=>1+x.height) l q x hx;have hym':(y:Int)≤m:=by omega
      by_cases hz:m=0
      ·have hz':((m:Int)==0)=true:=by simp;omega
       have F:Hid (res=1):=by
        have h1:=Qcu (l.map (fun x=>1+x.height)) (q+1);have h2:=hh.out;have h3:=hR.out;rw[hS] at h1
        show res=1;omega
       clear hX hk hx hz hS hym;go_wp2_with fail
       go_ret;exact⟨by rw[F.out];rfl,X1.out.bel⟩
      ·have hz':((m:Int)==0)=false:=by simp;omega
       have C:Hid (∀ wx,Below wr.heap.size wr wx→Calls prog 127 #[Tv x a' c',.int .i64 ((m:Int) - 1)] wx fun e w'=>e=.returned (.int .i64 ((min x.height m:Nat):Int))∧Below wx.heap.size wx w'):=fun wx hb=>by
        have:=IH.out x a' c' wx (m - 1) (hk.below hb) (hco.out x (Zm hx)) (by omega)
        rw[show ((m - 1:Nat):Int)=(m:Int) - 1 by omega,show m - 1+1=m by omega] at this
        exact this
       have hm0:(1:Int)≤m:=by omega
       have hm1:(m:Int)≤4:=by omega
       generalize hz1:min x.height m=z at C;have hz2:(z:Int)≤4:=by omega
       have Z:Hid (max y (1+z)=min (((l.map (fun x=>1+x.height)).take (q+1)).foldl max 0) (m+1)):=by
        rw[hS]
        have:=Y.out
        show _=_;omega
       clear hX hk hx hz hS hz1 Y hym;simp only[Tv] at C
       generalize x.kind=kx at C d0;generalize x.r=rx at C d1;generalize x.len=lx at C d2;go_wp2_with fail
       refine(C.out _ Zr).mono ?_
       rintro e w2 ⟨rfl,b2⟩;have X2:Hid (Bx w w2 k r (some ⟨g,o,none⟩) l.length c):=X1.out.below b2;clear X1 b2 C d0 d1 d2 e2;by_cases hd:(y:Int)<1+z
       ·go_wp2
        go_roundw
        case rel=>exact⟨q+1,1+z,by omega,by go_num,by go_num,by rw[← Z.out];omega,X2.out⟩
        case measure=>simp[intOf];omega
       ·go_wp2
        go_roundw
        case rel=>exact⟨q+1,y,by omega,by go_num,rfl,by rw[← Z.out];omega,X2.out⟩
        case measure=>simp[intOf];omega
     ·have F:Hid (res=y):=by
       have h1:=Qcu (l.map (fun x=>1+x.height)) q;have h2:=hh.out;have h3:=hR.out
       have:=Y.out
       show res=y;omega
      have hym':¬ (y:Int)≤m:=by omega
      clear hX hym Y;go_wp2
      go_ret;exact⟨by rw[F.out];rfl,X1.out.bel⟩
    ·have F:Hid (res=y):=by
      have h2:=hh.out;have h3:=hR.out
      have:=Y.out
      rw[List.take_of_length_le (by simp;omega)] at this
      show res=y;omega
     have hk1:¬ (q:Int)<l.length:=by omega
     clear hX Y;go_wp2
     go_ret;exact⟨by rw[F.out];rfl,X1.out.bel⟩
def Qh4 (f:Nat):Prop:=∀ (n:Nat) (t:TT n) (a:Option Addr) (c:Nat) (regs:Int) (w:World),TIn w All t a→t.count≤100000 →
 Calls prog f #[Tv t a c,.int .i64 regs] w fun e w'=>e=.returned (.int .i64 (t.check regs))∧Below w.heap.size w w'
theorem typeFaultT_any:Qh4 107:=by
 intro n t a c regs w ht hc
 have C1:Hid (∀ wx,Below w.heap.size w wx→Calls prog 127 #[Tv t a c,.int .i64 4] wx fun e w'=>e=.returned (.int .i64 ((min t.height 5:Nat):Int))∧Below wx.heap.size wx w') :=
  fun wx hb=>deepOf_any n t a c wx 4 (ht.below hb) hc (by omega)
 have C2:Hid (∀ wx,Below w.heap.size w wx→Calls prog 156 #[Tv t a c,.int .i64 regs] wx fun e w'=>e=.returned (.int .i64 (t.fault regs))∧Below wx.heap.size wx w') :=
  fun wx hb=>typeFault_any n t a c regs wx (ht.below hb) hc
 have E:Hid (t.check regs=if 4<t.height then 19 else t.fault regs):=rfl;generalize t.check regs=res at E ⊢;clear ht hc;simp only[Tv] at C1 C2 ⊢
 generalize t.kind=k at C1 C2 ⊢;generalize t.r=r at C1 C2 ⊢;generalize t.len=len at C1 C2 ⊢;generalize t.fault regs=v at C2 E;generalize hm:min t.height 5=q at C1;go_enter func107,ntmps107
 go_wp2_with fail
 have X0:=Bx.start w k r a len c;generalize w.alloc (.cells #[.int .i64 k,.int .i64 r,.slice a len c] 79)=w1 at X0 ⊢;refine(C1.out _ X0.bel).mono ?_
 rintro e w2 ⟨rfl,b2⟩;have X2:Hid (Bx w w2 k r a len c):=X0.below b2;have e0:=Qb X2.out.box 0 _ rfl;have e1:=Qb X2.out.box 1 _ rfl;have e2:=Qb X2.out.box 2 _ rfl;clear X0 b2 C1;by_cases hd:4<t.height
 ·have R:Hid (res=19):=by have:=E.out;rwa [if_pos hd] at this
  have hq:(4:Int)<q:=by omega
  clear hd hm;go_wp2_with fail
  go_ret;exact⟨by rw[R.out];rfl,X2.out.bel⟩
 ·have R:Hid (res=v):=by have:=E.out;rwa [if_neg hd] at this
  have hq:¬ (4:Int)<q:=by omega
  clear hd hm;go_wp2_with fail
  refine(C2.out _ X2.out.bel).mono ?_
  rintro e w3 ⟨rfl,b3⟩;have X3:Hid (Bx w w3 k r a len c):=X2.out.below b3;clear X2 b3 C2 e0 e1 e2;go_wp2_with fail
  go_ret;exact⟨by rw[R.out];rfl,X3.out.bel⟩
theorem Qfi (k r:Int) (a:Option Addr) (len c:Nat) (regs:Int) (w:World) :
 Calls prog 219 #[.agg #[.int .i64 k,.int .i64 r,.slice a len c],.int .i64 regs] w fun e w'=>e=.returned (.int .i64 (ownC k r len regs))∧Below w.heap.size w w':=by
 rcases (show k<1∨(¬ k<1∧4<k)∨k=1∨k=2∨k=4∨k=3 by omega) with h1 | ⟨h1,h2⟩ | rfl | rfl | rfl | rfl
 ·rw[show ownC _ _ len regs=3 by unfold ownC;repeat' split;all_goals omega]
  go_enter func219,ntmps219
  go_wp2_with fail
  go_ret;exact⟨rfl,(Below.refl _ w).alloc Ze _⟩
 ·rw[show ownC _ _ len regs=3 by unfold ownC;repeat' split;all_goals omega]
  go_enter func219,ntmps219
  go_wp2_with fail
  go_ret;exact⟨rfl,(Below.refl _ w).alloc Ze _⟩
 ·rcases (show r≠0∨(r=0∧0<len)∨(r=0∧len=0) by omega) with h1 | ⟨rfl,h1⟩|⟨rfl,h1⟩
  ·have g1:(r != 0)=true:=by simpa using h1
   rw[show ownC _ _ len regs=4 by unfold ownC;repeat' split;all_goals omega]
   go_enter func219,ntmps219
   go_wp2_with fail
   go_ret;exact⟨rfl,(Below.refl _ w).alloc Ze _⟩
  ·have g1:(0:Int)<(len:Int):=by omega
   rw[show ownC _ _ len regs=4 by unfold ownC;repeat' split;all_goals omega]
   go_enter func219,ntmps219
   go_wp2_with fail
   go_ret;exact⟨rfl,(Below.refl _ w).alloc Ze _⟩
  ·have g1:¬ (0:Int)<(len:Int):=by omega
   have g2:¬ (8:Int)<(len:Int):=by omega
   rw[show ownC _ _ len regs=0 by unfold ownC;repeat' split;all_goals omega]
   go_enter func219,ntmps219
   go_wp2_with fail
   go_ret;exact⟨rfl,(Below.refl _ w).alloc Ze _⟩
 ·rcases (show 0<len∨(len=0∧r<0)∨(len=0∧0≤r∧regs≤r)∨(len=0∧0≤r∧r<regs) by omega) with h1 | ⟨h1,h2⟩|⟨h1,h2,h3⟩|⟨h1,h2,h3⟩
  ·have g1:(0:Int)<(len:Int):=by omega
   rw[show ownC _ _ len regs=4 by unfold ownC;repeat' split;all_goals omega]
   go_enter func219,ntmps219
   go_wp2_with fail
   go_ret;exact⟨rfl,(Below.refl _ w).alloc Ze _⟩
  ·have g1:¬ (0:Int)<(len:Int):=by omega
   have g2:¬ (8:Int)<(len:Int):=by omega
   rw[show ownC _ _ len regs=1 by unfold ownC;repeat' split;all_goals omega]
   go_enter func219,ntmps219
   go_wp2_with fail
   go_ret;exact⟨rfl,(Below.refl _ w).alloc Ze _⟩
  ·have g1:¬ (0:Int)<(len:Int):=by omega
   have g2:¬ (8:Int)<(len:Int):=by omega
   rw[show ownC _ _ len regs=1 by unfold ownC;repeat' split;all_goals omega]
   go_enter func219,ntmps219
   go_wp2_with fail
   go_ret;exact⟨rfl,(Below.refl _ w).alloc Ze _⟩
  ·have g1:¬ (0:Int)<(len:Int):=by omega
   have g2:¬ (8:Int)<(len:Int):=by omega
   rw[show ownC _ _ len regs=0 by unfold ownC;repeat' split;all_goals omega]
   go_enter func219,ntmps219
   go_wp2_with fail
   go_ret;exact⟨rfl,(Below.refl _ w).alloc Ze _⟩
 ·rcases (show 0<len∨(len=0∧r<0)∨(len=0∧0≤r∧regs≤r)∨(len=0∧0≤r∧r<regs) by omega) with h1 | ⟨h1,h2⟩|⟨h1,h2,h3⟩|⟨h1,h2,h3⟩
  ·have g1:(0:Int)<(len:Int):=by omega
   rw[show ownC _ _ len regs=4 by unfold ownC;repeat' split;all_goals omega]
   go_enter func219,ntmps219
   go_wp2_with fail
   go_ret;exact⟨rfl,(Below.refl _ w).alloc Ze _⟩
  ·have g1:¬ (0:Int)<(len:Int):=by omega
   have g2:¬ (8:Int)<(len:Int):=by omega
   rw[show ownC _ _ len regs=1 by unfold ownC;repeat' split;all_goals omega]
   go_enter func219,ntmps219
   go_wp2_with fail
   go_ret;exact⟨rfl,(Below.refl _ w).alloc Ze _⟩
  ·have g1:¬ (0:Int)<(len:Int):=by omega
   have g2:¬ (8:Int)<(len:Int):=by omega
   rw[show ownC _ _ len regs=1 by unfold ownC;repeat' split;all_goals omega]
   go_enter func219,ntmps219
   go_wp2_with fail
   go_ret;exact⟨rfl,(Below.refl _ w).alloc Ze _⟩
  ·have g1:¬ (0:Int)<(len:Int):=by omega
   have g2:¬ (8:Int)<(len:Int):=by omega
   rw[show ownC _ _ len regs=0 by unfold ownC;repeat' split;all_goals omega]
   go_enter func219,ntmps219
   go_wp2_with fail
   go_ret;exact⟨rfl,(Below.refl _ w).alloc Ze _⟩
 ·rcases (show 8<len∨(len≤8∧r<0)∨(len≤8∧0≤r∧regs≤r)∨(len≤8∧0≤r∧r<regs) by omega) with h1 | ⟨h1,h2⟩|⟨h1,h2,h3⟩|⟨h1,h2,h3⟩
  ·have g1:(8:Int)<(len:Int):=by omega
   rw[show ownC _ _ len regs=2 by unfold ownC;repeat' split;all_goals omega]
   go_enter func219,ntmps219
   go_wp2_with fail
   go_ret;exact⟨rfl,(Below.refl _ w).alloc Ze _⟩
  ·have g1:¬ (8:Int)<(len:Int):=by omega
   rw[show ownC _ _ len regs=1 by unfold ownC;repeat' split;all_goals omega]
   go_enter func219,ntmps219
   go_wp2_with fail
   go_ret;exact⟨rfl,(Below.refl _ w).alloc Ze _⟩
  ·have g1:¬ (8:Int)<(len:Int):=by omega
   rw[show ownC _ _ len regs=1 by unfold ownC;repeat' split;all_goals omega]
   go_enter func219,ntmps219
   go_wp2_with fail
   go_ret;exact⟨rfl,(Below.refl _ w).alloc Ze _⟩
  ·have g1:¬ (8:Int)<(len:Int):=by omega
   rw[show ownC _ _ len regs=0 by unfold ownC;repeat' split;all_goals omega]
   go_enter func219,ntmps219
   go_wp2_with fail
   go_ret;exact⟨rfl,(Below.refl _ w).alloc Ze _⟩
theorem firstCode_any:∀ n,QdI 199 n:=by
 intro n
 induction n with
 | zero=>intro t;exact Empty.elim t
 | succ n ih =>
   intro t a c regs w ht hct;have IH:Hid (QdI 199 n):=ih;clear ih;have hT:Hid (LIn w All t.2.2 a):=ht.list;have hco:Hid (∀ x∈t.2.2,x.count≤100000):=fun x hx=>by have:=t.count_kid hx;omega
   have hlen:t.2.2.length≤100000:=by have:=t.len_lt_count;rw[t.len_eq] at this;omega
   have hF:Hid (t.fault regs=if ownC t.kind t.r t.2.2.length regs≠0 then ownC t.kind t.r t.2.2.length regs else Qz (TT.fault regs) t.2.2):=rfl;generalize t.fault regs=res at hF ⊢;simp only[Tv,TT.len_eq]
   generalize t.2.2=l at hT hco hF hlen ⊢;generalize t.kind=k at hF ⊢;generalize t.r=r at hF ⊢;clear ht hct t;go_enter func199,ntmps199
   go_wp2_with fail
   have X0:Hid (Bx w (w.alloc (.cells #[.int .i64 k,.int .i64 r,.slice a l.length c] 79)) k r a l.length c):=Bx.start w k r a l.length c;refine(Qfi k r a l.length c regs _).mono ?_
   rintro e w1 ⟨rfl,b1⟩;have X1:Hid (Bx w w1 k r a l.length c):=X0.out.below b1;clear X0 b1;by_cases hz:ownC k r l.length regs=0
   ·have R:Hid (res=Qz (TT.fault regs) l):=by
     have:=hF.out
     rw[hz] at this
     show res=Qz (TT.fault regs) l;simpa using this
    rw[hz]
    clear hz hF;have e2:w1.cell? ⟨w.heap.size,2,none⟩=some (.slice a l.length c):=Qb X1.out.box 2 _ rfl;go_wp2_with fail
    clear e2;go_loopw [18] (fun i wr=>∃ q:Nat,q≤l.length∧i=.int .i64 q∧(∀ (j:Nat) x,j<q→l[j]?=some x→x.fault regs=0)∧Bx w wr k r a l.length c) (fun i _=>l.length - (intOf i).toNat)
    case atStart=>exact⟨0,Nat.zero_le _,rfl,fun j x hj=>by omega,X1.out⟩
    case round =>
     clear X1;obtain⟨q,hq,rfl,hall,hX⟩:=hrel
     have A:Hid (∀ (j:Nat) x,j<q→l[j]?=some x→x.fault regs=0):=hall;have X1:Hid (Bx w wr k r a l.length c):=hX;clear hall;by_cases hlt:q<l.length
     ·have hx:l[q]?=some l[q]:=Zg hlt;generalize l[q]=x at hx;obtain⟨g,o,a',c',rfl,_,d0,d1,d2,hk⟩:=LIn.at (hT.out.below hX.bel) hx
      have hx':Hid (l[q]?=some x):=hx;have hk0:(0:Int)≤q:=by omega
      have hk1:(q:Int)<l.length:=by omega
      have C:Hid (∀ wx,Below wr.heap.size wr wx→Calls prog 199 #[Tv x a' c',.int .i64 regs] wx fun e w'=>e=.returned (.int .i64 (x.fault regs))∧Below wx.heap.size wx w') :=
       fun wx hb=>IH.out x a' c' regs wx (hk.below hb) (hco.out x (Zm hx))
      clear hX hk hx;simp only[Tv] at C
      generalize x.kind=kx at C d0;generalize x.r=rx at C d1;generalize x.len=lx at C d2;go_wp2_with fail
      have B1:Below wr.heap.size wr (wr.alloc (.cells #[.int .i64 kx,.int .i64 rx,.slice a' lx c'] 79)):=(Below.refl _ wr).alloc Ze _;refine(C.out _ B1).mono ?_
      rintro e w2 ⟨rfl,b2⟩;have X2:Hid (Bx w w2 k r (some ⟨g,o,none⟩) l.length c):=(X1.out.below B1).below b2;clear X1 b2 B1 C d0 d1 d2;by_cases hd:x.fault regs=0
      ·have A2:Hid (∀ (j:Nat) x,j<q+1→l[j]?=some x→x.fault regs=0):=fun j y hj hy=>by
        by_cases e:j=q
        ·subst e;rw[hx'.out] at hy
         cases hy
         exact hd
        ·exact A.out j y (by omega) hy
       rw[hd]
       clear hd A;go_wp2
       go_roundw
       case rel=>exact⟨q+1,by omega,by go_num,A2.out,X2.out⟩
       case measure=>simp[intOf];omega
      ·have Rv:Hid (res=x.fault regs):=R.out.trans (QaB hx'.out A.out hd);have hd':(x.fault regs != 0)=true:=by simpa using hd
       generalize x.fault regs=v at hd' Rv ⊢;clear hd A;go_wp2
       go_ret;exact⟨by rw[Rv.out];rfl,X2.out.bel⟩
     ·have Rv:Hid (res=0):=R.out.trans (Qai (fun j y hy=>A.out j y (by have:=(Zi hy).1;omega) hy));have hk1:¬ (q:Int)<l.length:=by omega
      clear hX A;go_wp2
      go_ret;exact⟨by rw[Rv.out];rfl,X1.out.bel⟩
   ·have R:Hid (res=ownC k r l.length regs):=by
     have:=hF.out
     rwa [if_pos hz] at this
    have hz':(ownC k r l.length regs != 0)=true:=by simpa using hz
    generalize ownC k r l.length regs=v at hz' R ⊢;clear hz hF;go_wp2_with fail
    go_ret;exact⟨by rw[R.out];rfl,X1.out.bel⟩
theorem QhZ {n:Nat}{l:List (TT n)}{k r:Int}{m:Nat}:m<TT.height (n:=n+1) (mkT k r l)↔∃ (i:Nat) (x:TT n),l[i]?=some x∧m<1+x.height:=by
 rw[← Nat.not_le,ZG]
 constructor
 ·intro h;simp only[Classical.not_forall] at h
  obtain⟨x,hx,h2⟩:=h
  obtain⟨i,hi,rfl⟩:=List.mem_iff_getElem.1 hx
  exact⟨i,_,Zg hi,by omega⟩
 ·rintro ⟨i,x,hx,h2⟩ h
  have:=h x (Zm (l:=l) hx)
  omega
theorem deeper_any:∀ (n:Nat) (t:TT n) (a:Option Addr) (c:Nat) (w:World) (m:Nat),TIn w All t a→t.count≤100000→m≤4 →
 Calls prog 198 #[Tv t a c,.int .i64 m] w fun e w'=>e=.returned (.bool (decide (m<t.height)))∧Below w.heap.size w w':=by
 intro n
 induction n with
 | zero=>intro t;exact Empty.elim t
 | succ n ih =>
   intro t a c w m ht hct hm4
   have IH:Hid (∀ (t:TT n) (a:Option Addr) (c:Nat) (w:World) (m:Nat),TIn w All t a→t.count≤100000→m≤4 →
    Calls prog 198 #[Tv t a c,.int .i64 m] w fun e w'=>e=.returned (.bool (decide (m<t.height)))∧Below w.heap.size w w'):=ih
   clear ih;have hT:Hid (LIn w All t.2.2 a):=ht.list;have hco:Hid (∀ x∈t.2.2,x.count≤100000):=fun x hx=>by have:=t.count_kid hx;omega
   have hlen:t.2.2.length≤100000:=by have:=t.len_lt_count;rw[t.len_eq] at this;omega
   have hh:Hid (m<t.height↔∃ (i:Nat) (x:TT n),t.2.2[i]?=some x∧m<1+x.height):=QhZ;generalize t.height=h at hh ⊢;simp only[Tv,TT.len_eq]
   generalize t.2.2=l at hT hco hh hlen ⊢;generalize t.kind=k;generalize t.r=r;clear ht hct t;go_enter func198,ntmps198
   go_wp2_with fail
   have X0:Hid (Bx w (w.alloc (.cells #[.int .i64 k,.int .i64 r,.slice a l.length c] 79)) k r a l.length c):=Bx.start w k r a l.length c;generalize w.alloc (.cells #[.int .i64 k,.int .i64 r,.slice a l.length c] 79)=w1 at X0 ⊢;go_loopw [10] (fun i wr=>∃ q:Nat,q≤l.length∧i=.int .i64 q∧(∀ (j:Nat) x,j<q→l[j]?=some x→1+x.height≤m)∧Bx w wr k r a l.length c) (fun i _=>l.length - (intOf i).toNat)
   case atStart=>exact⟨0,Nat.zero_le _,rfl,fun j x hj=>by omega,X0.out⟩
   case round =>
    clear X0;obtain⟨q,hq,rfl,hall,hX⟩:=hrel
    have A:Hid (∀ (j:Nat) x,j<q→l[j]?=some x→1+x.height≤m):=hall;have X1:Hid (Bx w wr k r a l.length c):=hX;clear hall;by_cases hlt:q<l.length
    ·have hx:l[q]?=some l[q]:=Zg hlt;generalize l[q]=x at hx;obtain⟨g,o,a',c',rfl,_,d0,d1,d2,hk⟩:=LIn.at (hT.out.below hX.bel) hx
     have hg:g<wr.heap.size:=World.block_lt_of_cell? wr ⟨g,o+q*3,none⟩ d0;have hx':Hid (l[q]?=some x):=hx;have hk0:(0:Int)≤q:=by omega
     have hk1:(q:Int)<l.length:=by omega
     by_cases hz:m=0
     ·have hD:Hid (m<h):=hh.out.2 ⟨q,x,hx,by omega⟩;have hz':((m:Int)==0)=true:=by simp;omega
      clear hX hk hx hz;go_wp2_with fail
      go_ret;exact⟨by rw[decide_eq_true hD.out];rfl,(X1.out.alloc _).bel⟩
     ·have hz':((m:Int)==0)=false:=by simp;omega
      have C:Hid (∀ wx,Below wr.heap.size wr wx→Calls prog 198 #[Tv x a' c',.int .i64 ((m:Int) - 1)] wx fun e w'=>e=.returned (.bool (decide (m - 1<x.height)))∧Below wx.heap.size wx w'):=fun wx hb=>by
       have:=IH.out x a' c' wx (m - 1) (hk.below hb) (hco.out x (Zm hx)) (by omega)
       rw[show ((m - 1:Nat):Int)=(m:Int) - 1 by omega] at this
       exact this
      have hm0:(1:Int)≤m:=by omega
      have hm1:(m:Int)≤4:=by omega
      have hm5:Hid (1≤m):=by show 1≤m;omega
      clear hX hk hx hz;simp only[Tv] at C
      generalize x.kind=kx at C d0;generalize x.r=rx at C d1;generalize x.len=lx at C d2;go_wp2_with fail
      have B1:Below wr.heap.size wr (wr.alloc (.cells #[.int .i64 kx,.int .i64 rx,.slice a' lx c'] 79)):=(Below.refl _ wr).alloc Ze _;refine(C.out _ B1).mono ?_
      rintro e w2 ⟨rfl,b2⟩;have X2:Hid (Bx w w2 k r (some ⟨g,o,none⟩) l.length c):=(X1.out.below B1).below b2;clear X1 b2 B1 C d0 d1 d2;by_cases hd:m - 1<x.height
      ·have hD:Hid (m<h):=hh.out.2 ⟨q,x,hx'.out,by have:=hm5.out;omega⟩;rw[decide_eq_true hd]
       clear hd;go_wp2
       go_ret;exact⟨by rw[decide_eq_true hD.out];rfl,X2.out.bel⟩
      ·have A2:Hid (∀ (j:Nat) x,j<q+1→l[j]?=some x→1+x.height≤m):=fun j y hj hy=>by
        by_cases e:j=q
        ·subst e;rw[hx'.out] at hy
         cases hy
         have:=hm5.out
         omega
        ·exact A.out j y (by omega) hy
       rw[decide_eq_false hd]
       clear hd A;go_wp2
       go_roundw
       case rel=>exact⟨q+1,by omega,by go_num,A2.out,X2.out⟩
       case measure=>simp[intOf];omega
    ·have hD:Hid (¬ m<h):=fun hc=>by
      obtain⟨i,x,hx,h3⟩:=hh.out.1 hc
      have:=A.out i x (by have:=(Zi hx).1;omega) hx
      omega
     have hk1:¬ (q:Int)<l.length:=by omega
     clear hX A;go_wp2
     go_ret;exact⟨by rw[decide_eq_false hD.out];rfl,X1.out.bel⟩
theorem check_any:Qh4 165:=by
 intro n t a c regs w ht hc
 have C1:Hid (∀ wx,Below w.heap.size w wx→Calls prog 198 #[Tv t a c,.int .i64 4] wx fun e w'=>e=.returned (.bool (decide (4<t.height)))∧Below wx.heap.size wx w') :=
  fun wx hb=>deeper_any n t a c wx 4 (ht.below hb) hc (by omega)
 have C2:Hid (∀ wx,Below w.heap.size w wx→Calls prog 199 #[Tv t a c,.int .i64 regs] wx fun e w'=>e=.returned (.int .i64 (t.fault regs))∧Below wx.heap.size wx w') :=
  fun wx hb=>firstCode_any n t a c regs wx (ht.below hb) hc
 have E:Hid (t.check regs=if 4<t.height then 19 else t.fault regs):=rfl;generalize t.check regs=res at E ⊢;clear ht hc;simp only[Tv] at C1 C2 ⊢
 generalize t.kind=k at C1 C2 ⊢;generalize t.r=r at C1 C2 ⊢;generalize t.len=len at C1 C2 ⊢;generalize t.fault regs=v at C2 E;go_enter func165,ntmps165
 go_wp2_with fail
 have X0:=Bx.start w k r a len c;generalize w.alloc (.cells #[.int .i64 k,.int .i64 r,.slice a len c] 79)=w1 at X0 ⊢;refine(C1.out _ X0.bel).mono ?_
 rintro e w2 ⟨rfl,b2⟩;have X2:Hid (Bx w w2 k r a len c):=X0.below b2;have e0:=Qb X2.out.box 0 _ rfl;have e1:=Qb X2.out.box 1 _ rfl;have e2:=Qb X2.out.box 2 _ rfl;clear X0 b2 C1;by_cases hd:4<t.height
 ·rw[decide_eq_true hd]
  have R:Hid (res=19):=by have:=E.out;rwa [if_pos hd] at this
  clear hd;go_wp2_with fail
  go_ret;exact⟨by rw[R.out];rfl,X2.out.bel⟩
 ·rw[decide_eq_false hd]
  have R:Hid (res=v):=by have:=E.out;rwa [if_neg hd] at this
  clear hd;go_wp2_with fail
  refine(C2.out _ X2.out.bel).mono ?_
  rintro e w3 ⟨rfl,b3⟩;have X3:Hid (Bx w w3 k r a len c):=X2.out.below b3;clear X2 b3 C2 e0 e1 e2;go_wp2_with fail
  go_ret;exact⟨by rw[R.out];rfl,X3.out.bel⟩
def Zk (e:Ending) (A:Prop):Prop:=∃ q:Bool,e=.returned (.bool q)∧(q=true↔A)
theorem Zk.yes {A:Prop}(h:A):Zk (.returned (.bool true)) A:=⟨true,rfl,by simp[h]⟩
theorem Zk.no {A:Prop}(h:¬ A):Zk (.returned (.bool false)) A:=⟨false,rfl,by simp[h]⟩
def Qdn (f:Nat) (n:Nat):Prop:=∀ (t u:TT n) (a b:Option Addr) (c d:Nat) (w:World),TIn w All t a→TIn w All u b→t.count≤100000 →
 Calls prog f #[Tv t a c,Tv u b d] w fun e w'=>Zk e (t=u)∧Below w.heap.size w w'
theorem QbR (n:Nat) (IH0:Qdn 74 n) (l m:List (TT n)) (a b:Option Addr) (c d:Nat) (w:World) (hl0:LIn w All l a) (hm0:LIn w All m b) (hlen:l.length≤100000) (hco0:∀ x∈l,x.count≤100000) :
 Calls prog 25 #[.slice a l.length c,.slice b m.length d] w fun e w'=>Zk e (l=m)∧Below w.heap.size w w':=by
 have IH:Hid (Qdn 74 n):=IH0;have hl:Hid (LIn w All l a):=hl0;have hm:Hid (LIn w All m b):=hm0;have hco:Hid (∀ x∈l,x.count≤100000):=hco0;clear IH0 hl0 hm0 hco0;by_cases hne:l.length=m.length
 ·have hne':((l.length:Int) != (m.length:Int))=false:=by simp;omega
  have E:Hid (l.length=m.length):=hne;clear hne;go_enter func25,ntmps25
  go_wp2_with fail
  go_loopw [5] (fun i wr=>∃ q:Nat,q≤l.length∧i=.int .i64 q∧(∀ j,j<q→l[j]?=m[j]?)∧Below w.heap.size w wr) (fun i _=>l.length - (intOf i).toNat)
  case atStart=>exact⟨0,Nat.zero_le _,rfl,fun j hj=>by omega,Zr⟩
  case round =>
   obtain⟨q,hq,rfl,hall,hb⟩:=hrel
   have A:Hid (∀ j,j<q→l[j]?=m[j]?):=hall;have B:Hid (Below w.heap.size w wr):=hb;clear hall hb;by_cases hlt:q<l.length
   ·have hx:l[q]?=some l[q]:=Zg hlt;have hlm:q<m.length:=by have:=E.out;omega
    have hy:m[q]?=some m[q]:=Zg hlm;generalize l[q]=x at hx;generalize m[q]=y at hy;obtain⟨g,o,a',c',rfl,_,d0,d1,d2,hk⟩:=LIn.at (hl.out.below B.out) hx
    obtain⟨g',o',b',d',rfl,_,d3,d4,d5,hk'⟩:=LIn.at (hm.out.below B.out) hy
    have C:Hid (∀ k,Calls prog 74 #[Tv x a' c',Tv y b' d'] (wr.drewN k) fun e w'=>Zk e (x=y)∧Below wr.heap.size wr w') :=
     fun k=>(IH.out x y a' b' c' d' _ (hk.drewN k) (hk'.drewN k) (hco.out x (Zm hx))).mono (fun e w' h=>⟨h.1,QaY h.2⟩)
    have hx':Hid (l[q]?=some x):=hx;have hy':Hid (m[q]?=some y):=hy;clear hk hk' hx hy;have hk0:(0:Int)≤q:=by omega
    have hk1:(q:Int)<l.length:=by omega
    have hk3:(q:Int)<m.length:=by omega
    go_upto_region 6 with fail
    go_cut [26] (fun t wx=>∃ p:Bool,t=.bool (!p)∧(p=true↔x=y)∧Below wr.heap.size wr wx)
    case first =>
     go_region_with (go_at_call 74;refine(C.out 1).mono ?_;rintro r w5 ⟨⟨p,rfl,hp⟩,b5⟩;have HP:Hid (p=true↔x=y):=hp;have B5:Hid (Below wr.heap.size wr w5):=b5;clear hp b5)
     all_goals
      go_wp2
      go_meet;exact⟨p,rfl,HP.out,B5.out⟩
    case rest =>
     obtain⟨p,rfl,hp,b5⟩:=hcut
     have HB:Hid (Below w.heap.size w wc):=B.out.trans (b5.mono B.out.size);clear C b5 B d0 d1 d2 d3 d4 d5
     cases p with
     | true =>
       have hxy:x=y:=hp.1 rfl
       have A2:Hid (∀ j,j<q+1→l[j]?=m[j]?):=fun j hj=>by
        by_cases e:j=q
        ·subst e;rw[hx'.out,hy'.out,hxy]
        ·exact A.out j (by omega)
       clear hp hxy hx' hy' A;go_wp2
       go_roundw
       case rel=>exact⟨q+1,by omega,by go_num,A2.out,HB.out⟩
       case measure=>simp[intOf];omega
     | false =>
       have hxy:Hid (¬ l=m):=fun h=>by
        have h1:=hx'.out;rw[h,hy'.out] at h1
        have:=hp.2 (Option.some.inj h1).symm
        cases this
       clear hp hx' hy' A;go_wp2
       go_ret;exact⟨Zk.no hxy.out,HB.out⟩
   ·have R:Hid (l=m):=by
     have:=E.out
     refine List.ext_getElem? (fun i=>?_);by_cases hi:i<q
     ·exact A.out i hi
     ·rw[List.getElem?_eq_none (by omega),List.getElem?_eq_none (by omega)]
    have hk1:¬ (q:Int)<l.length:=by omega
    clear A;go_wp2
    go_ret;exact⟨Zk.yes R.out,B.out⟩
 ·have hne':((l.length:Int) != (m.length:Int))=true:=by simp;omega
  have E:Hid (l.length≠m.length):=hne;clear hne;go_enter func25,ntmps25
  go_wp2
  go_ret;exact⟨Zk.no (fun h=>E.out (by rw[h])),Zr⟩
theorem TT.eq_iff {n:Nat}{t u:TT (n+1)}:t=u↔t.kind=u.kind∧t.r=u.r∧t.2.2=u.2.2:=by
 obtain⟨a,b,c⟩:=t
 obtain⟨d,e,f⟩:=u
 constructor
 ·intro h;cases h;exact⟨rfl,rfl,rfl⟩
 ·rintro ⟨rfl,rfl,rfl⟩;rfl
theorem samet_any:∀ n,Qdn 74 n:=by
 intro n
 induction n with
 | zero=>intro t;exact Empty.elim t
 | succ n ih =>
   intro t u a b c d w ht hu hc;have hco:∀ x∈t.2.2,x.count≤100000:=fun x hx=>by have:=t.count_kid hx;omega
   have hlen:t.2.2.length≤100000:=by have:=t.len_lt_count;rw[t.len_eq] at this;omega
   have C:Hid (∀ wx,Below w.heap.size w wx→Calls prog 25 #[.slice a t.2.2.length c,.slice b u.2.2.length d] wx fun e w'=>Zk e (t.2.2=u.2.2)∧Below wx.heap.size wx w') :=
    fun wx hb=>QbR n ih t.2.2 u.2.2 a b c d wx (ht.below hb) (hu.below hb) hlen hco
   rw[TT.eq_iff]
   simp only[Tv,TT.len_eq] at C ⊢
   generalize t.2.2.length=p at C ⊢;generalize u.2.2.length=q at C ⊢;generalize (t.2.2=u.2.2)=E at C ⊢;generalize t.kind=k;generalize t.r=r;generalize u.kind=k';generalize u.r=r';clear hco hlen hc ht hu ih t u;by_cases hk:k=k'
   ·subst hk;by_cases hr:r=r'
    ·subst hr;go_enter func74,ntmps74
     go_wp2_with fail
     have B1:Below w.heap.size w ((w.alloc (.cells #[.int .i64 k,.int .i64 r,.slice a p c] 79)).alloc (.cells #[.int .i64 k,.int .i64 r,.slice b q d] 79)):=((Below.refl _ w).alloc Ze _).alloc (by simp) _;refine(C.out _ B1).mono ?_
     rintro e w2 ⟨⟨v,rfl,hv⟩,b2⟩;have B:Hid (Below w.heap.size w w2):=B1.trans (b2.mono B1.size);have V:Hid (v=true↔E):=hv;clear b2 C hv B1
     cases v
     all_goals
      go_wp2
      go_ret
     ·exact⟨Zk.no (fun h=>by have:=V.out.2 h.2.2;cases this),B.out⟩
     ·exact⟨Zk.yes (by have:=V.out;simpa using this),B.out⟩
    ·have hr':(r==r')=false:=by simpa using hr
     have R:Hid (¬ r=r'):=hr;clear hr;go_enter func74,ntmps74
     go_wp2_with fail
     go_ret;exact⟨Zk.no (fun h=>R.out h.2.1),((Below.refl _ w).alloc Ze _).alloc (by simp) _⟩
   ·have hk':(k==k')=false:=by simpa using hk
    have R:Hid (¬ k=k'):=hk;clear hk;go_enter func74,ntmps74
    go_wp2_with fail
    go_ret;exact⟨Zk.no (fun h=>R.out h.1),((Below.refl _ w).alloc Ze _).alloc (by simp) _⟩
abbrev FV:Value:=.func (.func 166) #[] #[]
theorem Qif (n:Nat) (IH0:Qdn 166 n) (l m:List (TT n)) (a b:Option Addr) (c d:Nat) (w:World) (hl0:LIn w All l a) (hm0:LIn w All m b) (hlen:l.length≤100000) (hco0:∀ x∈l,x.count≤100000) :
 Calls prog 200 #[.slice a l.length c,.slice b m.length d,FV] w fun e w'=>Zk e (l=m)∧Below w.heap.size w w':=by
 have IH:Hid (Qdn 166 n):=IH0;have hl:Hid (LIn w All l a):=hl0;have hm:Hid (LIn w All m b):=hm0;have hco:Hid (∀ x∈l,x.count≤100000):=hco0;clear IH0 hl0 hm0 hco0;by_cases hne:l.length=m.length
 ·have hne':((l.length:Int) != (m.length:Int))=false:=by simp;omega
  have E:Hid (l.length=m.length):=hne;clear hne;go_enter func200,ntmps200
  go_wp2_with fail
  go_loopw [17] (fun i wr=>∃ q:Nat,q≤l.length∧i=.int .i64 q∧(∀ j,j<q→l[j]?=m[j]?)∧Below w.heap.size w wr) (fun i _=>l.length - (intOf i).toNat)
  case atStart=>exact⟨0,Nat.zero_le _,rfl,fun j hj=>by omega,Zr⟩
  case round =>
   obtain⟨q,hq,rfl,hall,hb⟩:=hrel
   have A:Hid (∀ j,j<q→l[j]?=m[j]?):=hall;have B:Hid (Below w.heap.size w wr):=hb;clear hall hb;by_cases hlt:q<l.length
   ·have hx:l[q]?=some l[q]:=Zg hlt;have hlm:q<m.length:=by have:=E.out;omega
    have hy:m[q]?=some m[q]:=Zg hlm;generalize l[q]=x at hx;generalize m[q]=y at hy;obtain⟨g,o,a',c',rfl,_,d0,d1,d2,hk⟩:=LIn.at (hl.out.below B.out) hx
    obtain⟨g',o',b',d',rfl,_,d3,d4,d5,hk'⟩:=LIn.at (hm.out.below B.out) hy
    have C:Hid (∀ wx,Below wr.heap.size wr wx→Calls prog 166 #[Tv x a' c',Tv y b' d'] wx fun e w'=>Zk e (x=y)∧Below wx.heap.size wx w') :=
     fun wx hb=>IH.out x y a' b' c' d' _ (hk.below hb) (hk'.below hb) (hco.out x (Zm hx))
    have hx':Hid (l[q]?=some x):=hx;have hy':Hid (m[q]?=some y):=hy;have hg:g<wr.heap.size:=World.block_lt_of_cell? wr ⟨g,o+q*3,none⟩ d0;have hg':g'<wr.heap.size:=World.block_lt_of_cell? wr ⟨g',o'+q*3,none⟩ d3;clear hk hk' hx hy;simp only[Tv] at C
    generalize x.kind=kx at C d0;generalize x.r=rx at C d1;generalize x.len=lx at C d2;generalize y.kind=ky at C d3;generalize y.r=ry at C d4;generalize y.len=ly at C d5;have hk0:(0:Int)≤q:=by omega
    have hk1:(q:Int)<l.length:=by omega
    have hk3:(q:Int)<m.length:=by omega
    go_wp2_with fail
    have B1:Below wr.heap.size wr ((wr.alloc (.cells #[.int .i64 kx,.int .i64 rx,.slice a' lx c'] 79)).alloc (.cells #[.int .i64 ky,.int .i64 ry,.slice b' ly d'] 79)):=((Below.refl _ wr).alloc Ze _).alloc (by simp) _;refine(C.out _ B1).mono ?_
    rintro r w5 ⟨⟨p,rfl,hp⟩,b5⟩;have HB:Hid (Below w.heap.size w w5):=(B.out.trans (B1.mono B.out.size)).trans (b5.mono (Zt B.out.size B1.size));clear C b5 B d0 d1 d2 d3 d4 d5 B1
    cases p with
    | true =>
      have hxy:x=y:=hp.1 rfl
      have A2:Hid (∀ j,j<q+1→l[j]?=m[j]?):=fun j hj=>by
       by_cases e:j=q
       ·subst e;rw[hx'.out,hy'.out,hxy]
       ·exact A.out j (by omega)
      clear hp hxy hx' hy' A;go_wp2
      go_roundw
      case rel=>exact⟨q+1,by omega,by go_num,A2.out,HB.out⟩
      case measure=>simp[intOf];omega
    | false =>
      have hxy:Hid (¬ l=m):=fun h=>by
       have h1:=hx'.out;rw[h,hy'.out] at h1
       have:=hp.2 (Option.some.inj h1).symm
       cases this
      clear hp hx' hy' A;go_wp2
      go_ret;exact⟨Zk.no hxy.out,HB.out⟩
   ·have R:Hid (l=m):=by
     have:=E.out
     refine List.ext_getElem? (fun i=>?_);by_cases hi:i<q
     ·exact A.out i hi
     ·rw[List.getElem?_eq_none (by omega),List.getElem?_eq_none (by omega)]
    have hk1:¬ (q:Int)<l.length:=by omega
    clear A;go_wp2
    go_ret;exact⟨Zk.yes R.out,B.out⟩
 ·have hne':((l.length:Int) != (m.length:Int))=true:=by simp;omega
  have E:Hid (l.length≠m.length):=hne;clear hne;go_enter func200,ntmps200
  go_wp2
  go_ret;exact⟨Zk.no (fun h=>E.out (by rw[h])),Zr⟩
theorem same_any:∀ n,Qdn 166 n:=by
 intro n
 induction n with
 | zero=>intro t;exact Empty.elim t
 | succ n ih =>
   intro t u a b c d w ht hu hc;have hco:∀ x∈t.2.2,x.count≤100000:=fun x hx=>by have:=t.count_kid hx;omega
   have hlen:t.2.2.length≤100000:=by have:=t.len_lt_count;rw[t.len_eq] at this;omega
   have C:Hid (∀ wx,Below w.heap.size w wx→Calls prog 200 #[.slice a t.2.2.length c,.slice b u.2.2.length d,FV] wx fun e w'=>Zk e (t.2.2=u.2.2)∧Below wx.heap.size wx w') :=
    fun wx hb=>Qif n ih t.2.2 u.2.2 a b c d wx (ht.below hb) (hu.below hb) hlen hco
   rw[TT.eq_iff]
   simp only[Tv,TT.len_eq] at C ⊢
   generalize t.2.2.length=p at C ⊢;generalize u.2.2.length=q at C ⊢;generalize (t.2.2=u.2.2)=E at C ⊢;generalize t.kind=k;generalize t.r=r;generalize u.kind=k';generalize u.r=r';clear hco hlen hc ht hu ih t u;by_cases hk:k=k'
   ·subst hk;by_cases hr:r=r'
    ·subst hr;go_enter func166,ntmps166
     go_wp2_with fail
     have B1:Below w.heap.size w ((w.alloc (.cells #[.int .i64 k,.int .i64 r,.slice a p c] 79)).alloc (.cells #[.int .i64 k,.int .i64 r,.slice b q d] 79)):=((Below.refl _ w).alloc Ze _).alloc (by simp) _;refine(C.out _ B1).mono ?_
     rintro e w2 ⟨⟨v,rfl,hv⟩,b2⟩;have B:Hid (Below w.heap.size w w2):=B1.trans (b2.mono B1.size);have V:Hid (v=true↔E):=hv;clear b2 C hv B1
     cases v
     all_goals
      go_wp2
      go_ret
     ·exact⟨Zk.no (fun h=>by have:=V.out.2 h.2.2;cases this),B.out⟩
     ·exact⟨Zk.yes (by have:=V.out;simpa using this),B.out⟩
    ·have hr':(r==r')=false:=by simpa using hr
     have R:Hid (¬ r=r'):=hr;clear hr;go_enter func166,ntmps166
     go_wp2_with fail
     go_ret;exact⟨Zk.no (fun h=>R.out h.2.1),((Below.refl _ w).alloc Ze _).alloc (by simp) _⟩
   ·have hk':(k==k')=false:=by simpa using hk
    have R:Hid (¬ k=k'):=hk;clear hk;go_enter func166,ntmps166
    go_wp2_with fail
    go_ret;exact⟨Zk.no (fun h=>R.out h.1),((Below.refl _ w).alloc Ze _).alloc (by simp) _⟩
theorem Qbu {B:Nat}{a w:World}(h:Below B a w):Below B a w.drew:=⟨h.os,h.tape,h.output,h.size,h.block⟩
theorem ZF {w w':World}(h:Below w.drew.heap.size w.drew w'):Below w.heap.size w w':=⟨h.os,h.tape,h.output,h.size,h.block⟩
noncomputable def JSt.beC (s:JSt) (a:Int) (t:TT 6):Int:=match s.at a with | none=>1 | some v=>if bdec (v=t) then 0 else 9
theorem Qh5 {s:JSt}{a:Int}{t:TT 6}(h:s.has a≠0):s.beC a t=s.has a:=by
 unfold JSt.has JSt.beC at *
 cases e:s.at a with
 | none=>rfl
 | some t=>rw[e] at h;exact absurd rfl h
theorem QjA {s:JSt}{a:Int}{t v:TT 6}(h:s.at a=some v):s.beC a t=if bdec (v=t) then 0 else 9:=by unfold JSt.beC;rw[h]
theorem QcK {w:World}{b:Nat}{O A Q:Nat→Prop}{s:JSt}(a:Int){t:TT 6}{p:Option Addr}{c:Nat}(ht:TIn w Q t p) (hL:s.L.length≤80) (hcnt:∀ x∈s.L,x.count≤100000) (hO:∀ k,O k→k<w.heap.size) (h:SAt w b O A s) :
 Calls prog 122 #[.pointer (some ⟨b,0,none⟩),.int .i64 a,Tv t p c] w fun e w'=>ZW (s.beC a t) VNone e∧Below w.heap.size w w':=by
 have b1:=QN w (.cells #[.int .i64 t.kind,.int .i64 t.r,.slice p t.len c] 79);have H1:=Qa (h.below b1);have B1:=Qa b1;have T1:=Qa (ht.below b1);have X1:Hid (Blk (w.alloc (.cells #[.int .i64 t.kind,.int .i64 t.r,.slice p t.len c] 79)) w.heap.size #[.int .i64 t.kind,.int .i64 t.r,.slice p t.len c] 79):=Blk.new _ _ _;have HC:=Qa hcnt;clear h b1 hO ht hcnt;go_enter func122,ntmps122
 go_upto_region 1 with fail
 generalize w.alloc (.cells #[.int .i64 t.kind,.int .i64 t.r,.slice p t.len c] 79)=w1 at H1 B1 T1 X1 ⊢;obtain⟨X,hX⟩:∃ X,w.heap.size=X:=⟨_,rfl⟩
 rw[hX] at X1 ⊢
 rw[← hX]
 have C:Hid (∀ wx,Below w1.heap.size w1 wx→Calls prog 164 #[.pointer (some ⟨b,0,none⟩),.int .i64 a] wx fun e w'=>ZW (s.has a) (Qkx w' A s a) e∧Below wx.heap.size wx w'):=fun wx hb=>Qcb a hL (H1.out.below hb)
 have D:Hid (∀ (v:TT 6) (q:Option Addr) (d:Nat) (wx:World),s.at a=some v→TIn wx (fun g=>¬ A g) v q→Below w1.heap.size w1 wx→Calls prog 166 #[Tv v q d,Tv t p c] wx fun e w'=>Zk e (v=t)∧Below wx.heap.size wx w') :=
  fun v q d wx hv hq hb=>same_any 6 v t q p d c wx hq.all (T1.out.below hb).all (HC.out v (QaE hv).1)
 clear H1 T1 HC;have y0:=Qb X1.out 0 _ rfl;have y1:=Qb X1.out 1 _ rfl;have y2:=Qb X1.out 2 _ rfl;clear X1
 go_region_with (first
  | (go_at_call 164;refine(C.out _ (Qbu Zr)).mono ?_;rintro e' w2 ⟨⟨hc,x,rfl,v,q,d,hv,rfl,hvt,-⟩|⟨hc,rfl⟩,b2⟩;rotate_left;exact⟨rfl,.inr ⟨by rw[Qh5 hc];exact hc,by rw[Qh5 hc]⟩,B1.out.trans ((ZF b2).mono B1.out.size)⟩;have b2':Below w1.heap.size w1 w2:=ZF b2;have y3:=Qi y0 b2';have y4:=Qi y1 b2';have y5:=Qi y2 b2';have BB:=Qa b2';have HV:=Qa (And.intro hv hvt);clear hv hvt hc b2 b2')
  | (go_at_call 166;refine(D.out _ _ _ _ HV.out.1 HV.out.2 BB.out).mono ?_;rintro e' w3 ⟨⟨qb,rfl,hqb⟩,b3⟩;have BC:=Qa (BB.out.trans (b3.mono BB.out.size));have HQB:=Qa hqb;clear b3 hqb)
  | (go_at_call 162;refine(Qb0 _ _ _).mono ?_;rintro e' w' ⟨hw,⟨hq,rfl⟩|⟨hq,rfl⟩⟩;rotate_left;exact⟨rfl,ZW.bad (by rw[QjA HV.out.1,show bdec _=qb from Bool.eq_iff_iff.2 (Qaf.trans HQB.out.symm),hq];rfl) (by decide),by rw[hw];exact B1.out.trans (BC.out.mono B1.out.size)⟩;have hw:=hw.symm;subst hw))
 all_goals
  have E9:Hid (s.beC a t=0):=by show _=_;rw[QjA HV.out.1,show bdec _=qb from Bool.eq_iff_iff.2 (Qaf.trans HQB.out.symm),hq];rfl
  have B9:Hid (Below w.heap.size w w3):=B1.out.trans (BC.out.mono B1.out.size);clear hq;go_wp2
  exact bodyPost_end (v:=.tuple #[]) (by simp[results,results122,go_sem]) rfl ⟨ZW.good E9.out rfl,B9.out⟩
theorem QdZ {P:Program}{ops:Array Oper}{o:Oper}{a:Act}{w:World}{K:Act→World→Prop}{Q:Exit→Act→World→Prop}{E:Prop}(hgd:o.guard=none) (F:Nat) (x y:Operand) (t u:TypeId)
 (ho:o.op=.call { callee:=.value (.func F),args:=#[x,y],argTypes:=#[t,u] }) (hE:∀ (args:Array Value) (w:World),(callFunc F args).run P w=.ok (.enter F args) w) (v z:Value) (hx:a.eval x=v) (hy:a.eval y=z) {R:Ending→World→Prop} (C:Calls P F #[v,z] w R)
 (h:∀ en w',R en w'→Qlv K Q o a en w'):if Region.wanted o (yielded ops a.tmps)=true then Oper.wp P o a w K Q else E:=by
 have hw:Region.wanted o (yielded ops a.tmps)=true:=by simp[Region.wanted,hgd]
 rw[if_pos hw]
 unfold Oper.wp
 have e1:(execOp a.eval o).run P w=.ok (.enter F #[v,z]) w:=by
  have hf:a.eval (.func F)=.func (.func F) #[] #[]:=rfl;unfold execOp;simp[ho,resolve,invoke,Deferred.ofValue,hx,hy,hE,hf,Result.andThen]
 rw[e1,Oper.upon_enter]
 refine C.mono fun en w' hO=>?_
 have:=h en w' hO
 cases en<;>exact this
theorem QbK {s:JSt}:∀ {l m:List Int}{x y:List (TT 6)},s.fields l=some x→s.fields m=some y→s.fields (l++m)=some (x++y)
 | [],m,x,y,h1,h2=>by simp[JSt.fields] at h1;subst h1;exact h2
 | k::r,m,x,y,h1,h2=>by
   simp only[JSt.fields] at h1
   show s.fields (k::(r++m))=_;simp only[JSt.fields]
   cases hk:s.at k with
   | none=>simp[hk] at h1
   | some t =>
     simp only[hk] at h1
     cases hr:s.fields r with
     | none=>simp[hr] at h1
     | some l =>
       simp only[hr,Option.some.injEq] at h1
       subst h1;rw[QbK hr h2]
       rfl
theorem QfR {s:JSt}{l:List Int}{k:Nat}{y:Int}{t:TT 6}{L:List (TT 6)}(hy:l[k]?=some y) (ht:s.at y=some t) (h:s.fields (l.take k)=some L):s.fields (l.take (k+1))=some (L++[t]):=by
 rw[List.take_add_one,hy]
 exact QbK h (by simp[JSt.fields,ht])
theorem Qdz {s:JSt}:∀ {l:List Int}{y:Int},y∈l→s.at y=none→s.fields l=none
 | k::r,y,hm,h=>by
   simp only[JSt.fields]
   rcases List.mem_cons.1 hm with rfl | hm
   ·rw[h]
   ·rw[Qdz hm h]
    cases s.at k<;>rfl
def JSt.tupleC (s:JSt) (a:Int) (args:List Int):Int:=code2 (s.want a 2 true) (match s.at a with
 | none=>0
 | some t=>match s.fields args with
   | none=>1
   | some l=>if 4<TT.height (n:=7) (mkT 3 t.r l) then 19 else Zh s.L.length 1)
def JSt.tupleS (s:JSt) (a:Int) (args:List Int):JSt:={ s with L:=s.L++(match s.at a with
 | none=>[]
 | some t=>match s.fields args with
   | none=>[]
   | some l=>[TT.at (n:=7) 5 (mkT 3 t.r l)]) }
theorem Qfj {R:Int}{r:Int}{l:List (TT 6)}(hr:0≤r∧r<R) (hl:l.length≤8) (h:∀ t∈l,t.check R=0):TT.check (n:=7) R (mkT 3 r l)=if 4<TT.height (n:=7) (mkT 3 r l) then 19 else 0:=by
 show (if 4<TT.height (n:=7) (mkT 3 r l) then 19 else TT.fault (n:=7) R (mkT 3 r l))=_
 have:TT.fault (n:=7) R (mkT 3 r l)=0:=by
  show (if ownC 3 r l.length R≠0 then ownC 3 r l.length R else Qz (TT.fault R) l)=0
  have:ownC 3 r l.length R=0:=by
   unfold ownC;rw[if_neg (by omega),if_neg (by omega),if_neg (by omega),if_neg (by omega),if_neg (by omega)]
  rw[this]
  simp only[ne_eq,not_true_eq_false,if_false]
  exact QV.2 fun y hy=>(Zf.1 (h y hy)).2
 rw[this]
structure TuS (w wc:World) (B lo:Nat) (A:Nat→Prop) (r:Int) (v:Value) (L:List (TT 6)):Prop where
 bel:Below w.heap.size w wc
 box:Blk wc B #[.int .i64 3,.int .i64 r,v] 79
 row:TRq wc (fun g=>lo≤g) (fun g=>¬ (A g∨w.heap.size≤g)) v L
 lo1:B<lo
 lo2:lo≤wc.heap.size
 far:w.heap.size≤B
section
variable {w wc w9:World}{B lo:Nat}{A:Nat→Prop}{r:Int}{v:Value}{L:List (TT 6)}
theorem TRq.below {w w':World}{O Q:Nat→Prop}{v:Value}{L:List (TT 6)}(h:TRq w O Q v L) (k:Below w.heap.size w w'):TRq w' O Q v L:=h.keep (fun g hg _=>k.block g hg) (fun _ hk=>h.own hk) (fun _ h _=>h)
theorem TuS.below (h:TuS w wc B lo A r v L) (k:Below wc.heap.size wc w9):TuS w w9 B lo A r v L :=
 ⟨h.bel.trans (k.mono h.bel.size),h.box.below k,h.row.below k,h.lo1,Zt h.lo2 k.size,h.far⟩
theorem TuS.push {a:Option Addr}{c g cap:Nat}{xs:List Value}{t:TT 6}{p:Option Addr}{d:Nat}(h:TuS w wc B lo A r (.slice a L.length c) L) (hx:wc.ownsRow 0 79 3 (.slice a L.length c) L.length xs) (ht:(Lay.tt 6).In wc (fun g=>¬ (A g∨w.heap.size≤g)) t [.int .i64 t.kind,.int .i64 t.r,.slice p t.len d])
 (h1:w9.ownsRow 0 79 3 (.slice (some ⟨g,0,none⟩) (L.length+1) cap) (L.length+1) (xs++[.int .i64 t.kind,.int .i64 t.r,.slice p t.len d])) (h2:wc.grownBy w9 (Value.slice a L.length c).ownBlock) (h3:(Value.slice a L.length c).ownBlock=some g∨g=wc.heap.size) :
 w9.cell? ⟨B,2,none⟩=some (.slice a L.length c)∧w9.frozen? ⟨B,2,none⟩=false∧TuS w (w9.setCell ⟨B,2,none⟩ (.slice (some ⟨g,0,none⟩) (L.length+1) cap)) B lo A r (.slice (some ⟨g,0,none⟩) (L.length+1) cap) (L++[t]):=by
 have hsz:=h2.size;have hlo1:=h.lo1;have hlo2:=h.lo2;have hbl:=h.box.lt;have hsc:=h.bel.size;have hown:∀ k,(Value.slice a L.length c).ownBlock=some k→lo≤k:=fun k hk=>h.row.own hk;have kb:Blk w9 B #[.int .i64 3,.int .i64 r,.slice a L.length c] 79:=(h2.block B hbl (fun e=>by have:=hown B e.symm;omega)).trans h.box
 have hlog:lo≤g:=by
  rcases h3 with h3 | h3
  ·exact hown g h3
  ·omega
 have hgB:g≠B:=by omega
 have far:=h.far
 have low:∀ k,k<w.heap.size→(w9.setCell ⟨B,2,none⟩ (.slice (some ⟨g,0,none⟩) (L.length+1) cap)).heap[k]?=wc.heap[k]?:=fun k hk=>by
  rw[Below.heap_setCell _ _ _ _ (show k≠B by omega),h2.block k (by omega) (fun e=>by have:=hown k e.symm;omega)]
 refine⟨Qb kb 2 _ rfl,Qp kb 2,⟨⟨h2.os.trans h.bel.os,h2.tape.trans h.bel.tape,h2.output.trans h.bel.output,by simp;omega,fun k hk=>(low k hk).trans (h.bel.block k hk)⟩,?_,?_,hlo1,by simp;omega,far⟩⟩
 ·have:=Qo kb 2 (.slice (some ⟨g,0,none⟩) (L.length+1) cap)
  simpa using this
 ·obtain⟨xs',q1,q2,q3⟩:=h.row
  have e:xs'=xs:=by
   obtain⟨e1,e2⟩:=q1
   obtain⟨f1,f2⟩:=hx
   rcases e2 with ⟨e3,e4⟩|⟨g1,cap1,cur1,e3,e4,e5,e6,e7,e8,e9⟩
   ·have:L.length=0:=e4
    rw[List.length_eq_zero_iff.1 (show xs'.length=0 by rw[e1,this]),List.length_eq_zero_iff.1 (show xs.length=0 by rw[f1,this])]
   ·rcases f2 with ⟨f3,f4⟩|⟨g2,cap2,cur2,f3,f4,f5,f6,f7,f8,f9⟩
    ·rw[f3] at e3;cases e3
    ·rw[e3] at f3
     cases f3
     rw[e5] at f5
     cases f5
     rw[← e9,← f9]
  subst e;refine⟨xs'++[.int .i64 t.kind,.int .i64 t.r,.slice p t.len d],?_,fun k hk=>?_,?_⟩
  ·rw[List.length_append]
   exact Qb2 h1 (Below.heap_setCell _ _ _ _ hgB)
  ·simp[Value.ownBlock] at hk
   subst hk;exact hlog
  ·have keep:∀ {x:TT 6} {cs:List Value},(Lay.tt 6).In wc (fun g=>¬ (A g∨w.heap.size≤g)) x cs→(Lay.tt 6).In (w9.setCell ⟨B,2,none⟩ (.slice (some ⟨g,0,none⟩) (L.length+1) cap)) (fun g=>¬ (A g∨w.heap.size≤g)) x cs:=fun hx=>(Lay.tt 6).keep (fun k hk _=>low k (Nat.lt_of_not_le (fun e=>hk (.inr e)))) (fun _ h _=>h) hx;refine Qa0 (s:=3) (P:=fun x cs=>(Lay.tt 6).In _ _ x cs) q1.1 (fun i x hx=>keep (q3 i x hx)) (fun i x hx=>?_);have hi:i<1:=by simpa using (Zi hx).1
   have hi0:i=0:=by omega
   subst hi0;simp at hx
   subst hx;exact keep ht
end
theorem Qdx {w w':World}{e:TypeId}{s n:Nat}{v:Value}{xs:List Value}(h:w.ownsRow 0 e s v n xs) (hb:Below w.heap.size w w'):w'.ownsRow 0 e s v n xs:=by
 obtain⟨h1,h2⟩:=h
 refine⟨h1,?_⟩
 rcases h2 with h4 | ⟨g,cap,cur,e',hg,hh,r⟩
 ·exact .inl h4
 ·exact .inr ⟨g,cap,cur,e',hg,(hb.block g (lt_of_block hh)).trans hh,r⟩
theorem TuS.lin {w wc:World}{B lo:Nat}{A:Nat→Prop}{r:Int}{a:Option Addr}{N c:Nat}{L:List (TT 6)}(h:TuS w wc B lo A r (.slice a N c) L) (hA:∀ k,A k→k<w.heap.size):LIn wc (fun g=>¬ A g) L a∧N=L.length∧∀ x∈L,x.ok:=by
 obtain⟨a',c',e,hle,hrd,-⟩:=h.row.form
 simp only[Value.slice.injEq] at e
 obtain⟨rfl,rfl,rfl⟩:=e
 have hlo:=h.lo1;have hf:=h.far;refine⟨fun i x hx=>?_,rfl,fun x hx=>?_⟩
 ·obtain⟨g,a',c',e,h0,h1,h2,h3,h4⟩:=hrd i x hx
  subst e;have hg:lo≤g:=h.row.own rfl;refine⟨g,0,a',c',rfl,fun e=>by have:=hA g e;omega,?_,?_,?_,h3.mono (fun k hk _ e=>hk (.inl e))⟩
  ·rw[Nat.zero_add];exact h0
  ·rw[Nat.zero_add];exact h1
  ·rw[Nat.zero_add];exact h2
 ·obtain⟨i,hi,e⟩:=List.mem_iff_getElem.1 hx
  obtain⟨g,a',c',e,h0,h1,h2,h3,h4⟩:=hrd i x (by rw[Zg hi,e])
  exact h4
theorem Qhp {r:Int}{l:List (TT 6)}(h:∀ x∈l,x.count≤4681) (hl:l.length≤8):TT.count (n:=7) (mkT 3 r l)≤100000:=by
 show 1+(l.map TT.count).sum≤100000;have h1:=sum_le_mul (l.map TT.count) 4681 (fun x hx=>by obtain⟨y,hy,rfl⟩:=List.mem_map.1 hx;exact h y hy);rw[List.length_map] at h1
 have h2:l.length*4681≤8*4681:=Nat.mul_le_mul_right _ hl;omega
theorem Qhy {w:World}{A:Nat→Prop}(hA:∀ k,A k→k<w.heap.size){r:Int}{L:List (TT 6)}{p:Option Addr}{c d:Nat}(hr:0≤r∧r≤1000) (hh:¬ 4<TT.height (n:=7) (mkT 3 r L)) (hl:LIn w (fun g=>¬ A g) L p) (hok:∀ x∈L,x.ok) :
 (Qm 6).In (w.alloc (.cells #[.int .i64 3,.int .i64 r,.slice p L.length c] 79)) (fun g=>¬ A g) [TT.at (n:=7) 5 (mkT 3 r L)] [.slice (some ⟨w.heap.size,0,none⟩) 1 d]:=by
 have h5:TT.height (n:=7) (mkT 3 r L)≤5:=by omega
 have:=Qd1 (t:=TT.at (n:=7) 5 (mkT 3 r L)) (p:=p) (c:=c) (d:=d) hA (TIn.at 5 h5 (LIn.tree hl)) (TT.at_ok 5 ⟨⟨by show -9223372036854775808≤r;omega,by show r≤9223372036854775807;omega⟩,hok⟩)
 rw[TT.at_kind,TT.at_r,TT.at_len 5 _ h5] at this
 exact this
theorem enters_value:Qc8 164:=fun _ _=>by kernel_rfl
theorem QgO {w:World}{b:Nat}{O A Q:Nat→Prop}{s:JSt}(a:Int){args:List Int}{pa:Option Addr}{N ca:Nat}(hN:args.length=N) (hN2:N≤8) (hl:intsL.In w Q args [.slice pa N ca]) (hJ:JOk s) (hA:∀ k,A k→k<w.heap.size) (h:SAt w b O A s) :
 Calls prog 119 #[.pointer (some ⟨b,0,none⟩),.int .i64 a,.slice pa N ca] w fun e w'=>Q6 w b O A s (s.tupleS a args) (s.tupleC a args) e w':=by
 have hfl:∀ (k r:Int) (p:Option Addr) (l c:Nat) (w:World),(Instr.field 79 (.agg #[.int .i64 k,.int .i64 r,.slice p l c]) 1).run prog w=.ok (.int .i64 r) w:=fun _ _ _ _ _ _=>by kernel_rfl
 obtain⟨i0,hi,hz0,hz1,hz2⟩:=pInfoT
 have H:=Qa h;have HA:=Qa hA;have HO:Hid (∀ k,O k→k<w.heap.size):=fun k hk=>hA k (h.sub k hk);have HL:=Qa hl;have HN:=Qa hN;have HJ:=Qa hJ;have hL:=hJ.vals;clear h hA hl hN hJ;go_enter func119,ntmps119
 go_wp2_with fail
 refine(Qak a 2 hL HO.out H.out).mono ?_
 rintro e' w2 ⟨hO,b2⟩;have HB:=Qa b2;clear b2;rcases hO with ⟨hc,x,rfl,t,p,c,ha,rfl,ht,hok⟩|⟨hc,rfl⟩
 rotate_left
 ·exact⟨rfl,Q6.bad (by unfold JSt.tupleC;rw[Qr hc]) hc (STo.of_below H.out HB.out)⟩
 have hr:0≤t.r∧t.r<s.H.length:=by
  obtain⟨t',e1,e2,e3⟩:=Qaj hc
  rw[ha] at e1
  cases e1
  exact ZQ (e3 rfl)
 have HR:=Qa hr;have E:Hid (s.tupleC a args=match s.fields args with | none=>1 | some l=>if 4<TT.height (n:=7) (mkT 3 t.r l) then 19 else Zh s.L.length 1):=by show _=_;unfold JSt.tupleC;rw[QF hc,ha]
 have ES:Hid (∀ l,s.fields args=some l→s.tupleS a args={ s with L:=s.L++[TT.at (n:=7) 5 (mkT 3 t.r l)] }):=fun l hl=>by unfold JSt.tupleS;rw[ha,hl]
 clear hr hc ha ht hok;simp only[Tv]
 go_upto_region 1 with fail
 have T0:Hid (TuS w (w2.alloc (.cells #[.int .i64 3,.int .i64 t.r,.slice none 0 0] 79)) w2.heap.size (w2.heap.size+1) A t.r (.slice none 0 0) []) :=
  ⟨HB.out.trans ((QN _ _).mono HB.out.size),Blk.new _ _ _,⟨[],⟨rfl,.inl ⟨rfl,rfl⟩⟩,fun g hg=>by simp[Value.ownBlock] at hg,fun i x hx=>by simp at hx⟩,Nat.lt_succ_self _,by simp,HB.out.size⟩
 generalize w2.alloc (.cells #[.int .i64 3,.int .i64 t.r,.slice none 0 0] 79)=w3 at T0 ⊢;generalize w2.heap.size=B at T0 ⊢;generalize t.r=r at T0 HR E ES ⊢;clear HB;go_wp2
 go_loopw [16] (fun i wr=>∃ (k:Nat) (v:Value) (L:List (TT 6)),k≤N∧i=.int .i64 k∧TuS w wr B (B+1) A r v L∧s.fields (args.take k)=some L) (fun i _=>N - (intOf i).toNat)
 case atStart=>exact⟨0,_,_,Nat.zero_le _,rfl,T0.out,rfl⟩
 case round =>
  clear T0;obtain⟨k,v,L,hk,rfl,hT,hf⟩:=hrel
  have HF:=Qa hf
  have HLK:Hid (L.length=k):=by
   show _=_
   have:=(Qal hf).1
   rw[List.length_take,HN.out] at this
   omega
  have hL8:L.length≤8:=by have:=HLK.out;omega
  obtain⟨aL,cL,rfl,hle,-,xs,how⟩:=hT.row.form
  have T1:=Qa hT;have HOW:=Qa how;clear hf hT how;by_cases hlt:k<N
  ·have hlt':(k:Int)<N:=by omega
   have hk2:k<args.length:=by rw[HN.out];exact hlt
   obtain⟨g,o,rfl,-,hg,hc0⟩:=ZC HL.out hk2
   obtain⟨y,hy⟩:∃ y,args[k]?=some y:=⟨_,Zg hk2⟩
   rw[show args.getD k 0=y by rw[List.getD_eq_getElem?_getD,hy];rfl] at hc0
   have HX:=Qa hy;have y0:=Qi hc0 T1.out.bel;have z2:=Qb T1.out.box 2 _ rfl;clear hc0 hk2 hy;go_upto_region 4 with fail
   have BD:Hid (Below w.heap.size w wr.drew):=Qbu T1.out.bel
   go_region_law (first
    | (refine QdZ rfl 164 (.tmp 22) (.tmp 23) 48 3 rfl enters_value (.pointer (some ⟨b,0,none⟩)) (.int .i64 y) (by simp[Act.eval,Act.put]) (by simp[Act.eval,Act.put]) (Qcb y hL (H.out.more HO.out BD.out)) ?_
       rintro e' w4 ⟨hO,b4⟩;rcases hO with ⟨hc,x,rfl,u,q,d,hu,rfl,hut,hok⟩|⟨hc,rfl⟩
       rotate_left
       ·have hno:s.at y=none:=by
         unfold JSt.has at hc
         cases e:s.at y with
         | none=>rfl
         | some t=>rw[e] at hc;exact absurd rfl hc
        exact⟨rfl,Q6.bad (d:=s.has y) (by rw[E.out,Qdz (Zm HX.out) hno];unfold JSt.has;rw[hno]) hc (STo.of_below H.out (BD.out.trans (b4.mono BD.out.size)))⟩
       have T4:=Qa (T1.out.below (ZF b4));have HU:=Qa hu;have I4:Hid ((Lay.tt 6).In w4 (fun g=>¬ (A g∨w.heap.size≤g)) u [.int .i64 u.kind,.int .i64 u.r,.slice q u.len d]):=⟨q,d,rfl,hut,hok⟩;have z4:=Qb T4.out.box 2 _ rfl;have hB4:=T4.out.box.lt;have HOW4:=Qa (Qdx HOW.out (ZF b4));clear hu hut hok b4 hc;dsimp only [Qlv])
    | (refine step_append_lies _ rfl (.tmp 21) (.tmp 25) 52 rfl 0 79 i0 (.agg #[.int .i64 0,.int .i64 0,.slice none 0 0]) 3 40 pUnderT hi hz0 hz1 hz2 rfl (by decide) (.slice aL L.length cL) L.length xs (by simp[Act.eval,Act.put]) (HOW4.out.alloc _) ⟨w4.heap.size,0,none⟩ 1 1 [.int .i64 u.kind,.int .i64 u.r,.slice q u.len d] (by simp[Act.eval,Act.put]) rfl (QgV _ _ _) (Qes _ _ _ _ _) (by decide) (by unfold maxLen;omega) (by omega) (Nat.zero_le _) (w4.heap.size+1) (by simp) ?_
       intro g2 cap2 w9 h1 h2 h3 h4;have b5:=QN w4 (.cells #[.int .i64 u.kind,.int .i64 u.r,.slice q u.len d] 79);obtain⟨z9,f9,t9⟩:=(T4.out.below b5).push (Qdx HOW4.out b5) (Lay.below I4.out b5) h1 h2 (by simpa using h3)
       have T9:=Qa t9;clear h1 h2 h3 h4 b5 t9))
   all_goals
    have FF:=Qa (QfR HX.out HU.out HF.out);clear T4 HU I4 z4 HOW4 z9 f9 hB4;generalize w9.setCell ⟨B,2,none⟩ (.slice (some ⟨g2,0,none⟩) (L.length+1) cap2)=w10 at T9 ⊢;go_wp2
    go_roundw
    case rel=>exact⟨k+1,_,L++[u],hlt,by go_num,T9.out,FF.out⟩
    case measure=>simp[intOf];omega
  ·have hkN:k=N:=by omega
   have hlt':¬ (k:Int)<N:=by omega
   have hfa:s.fields args=some L:=by
    have:=HF.out
    rwa [List.take_of_length_le (by rw[HN.out];omega)] at this
   obtain⟨hlin,-,hoks⟩:=T1.out.lin HA.out
   have hck:∀ x∈L,x.check s.H.length=0:=fun x hx=>HJ.out.types x ((Qal hfa).2 x hx);have EC:Hid (TT.check (n:=7) (s.H.length:Int) (mkT 3 r L)=if 4<TT.height (n:=7) (mkT 3 r L) then 19 else 0):=Qfj HR.out hL8 hck;have E2:Hid (s.tupleC a args=if 4<TT.height (n:=7) (mkT 3 r L) then 19 else Zh s.L.length 1):=by show _=_;rw[E.out,hfa]
   have ES2:=Qa (ES.out L hfa);have HLI:=Qa (And.intro hlin hoks);have HCN:Hid (TT.count (n:=7) (mkT 3 r L)≤100000):=Qhp (fun x hx=>QZ (hck x hx)) hL8;have H9:=Qa (H.out.below T1.out.bel);obtain⟨pm,cm,hh,a1,c1,a2,c2,a3,c3,aL',cL',RR⟩:=H9.out.read
   obtain⟨-,q1,-⟩:=RR.cells
   have CL:Hid (∀ m,Calls prog 30 #[.pointer (some ⟨hh,0,none⟩)] (wr.drewN m) fun e w'=>e=.returned (.int .i64 (s.H.length:Int))∧w'=wr.drewN m):=fun m=>Qf4 (show Qt (wr.drewN m) hh s.H from RR.held);have CC:Hid (Calls prog 165 #[.agg #[.int .i64 3,.int .i64 r,.slice aL L.length cL],.int .i64 (s.H.length:Int)] wr.drew fun e w'=>e=.returned (.int .i64 (TT.check (n:=7) (s.H.length:Int) (mkT 3 r L)))∧Below wr.drew.heap.size wr.drew w'):=check_any 7 (mkT 3 r L) aL cL _ wr.drew (TIn.all (LIn.tree hlin).drew) HCN.out;obtain⟨z0,z1,z2⟩:=Qjv T1.out.box
   clear hfa hlin hoks hck RR HF HLK;generalize TT.check (n:=7) (s.H.length:Int) (mkT 3 r L)=ck at EC CC;generalize (s.H.length:Int)=nH at CL CC;go_upto_region 6 with fail
   go_region_with (first
    | (go_at_call 30;refine(CL.out _).mono ?_;rintro e w' ⟨rfl,hw⟩;have hw:=hw.symm;subst hw)
    | (go_at_call 165;refine(CC.out).mono ?_;rintro e w4 ⟨rfl,b4⟩;have B4:=Qa (ZF b4);clear b4)
    | (go_at_call 162;refine(Qb0 _ _ _).mono ?_;rintro e' w' ⟨hw,⟨hq,rfl⟩|⟨hq,rfl⟩⟩;rotate_left;exact⟨rfl,Q6.bad (d:=19) (by rw[E2.out];have hq':ck≠0:=(by simpa using hq);rw[EC.out] at hq';by_cases h4:4<TT.height (n:=7) (mkT 3 r L);rw[if_pos h4];rw[if_neg h4] at hq';exact absurd rfl hq') (by decide) (by rw[hw];exact STo.of_below H.out (T1.out.bel.trans (B4.out.mono T1.out.bel.size)))⟩;have hw:=hw.symm;subst hw))
   all_goals
    have hq':ck=0:=by simpa using hq
    have h4:¬ 4<TT.height (n:=7) (mkT 3 r L):=fun h4=>by
     have:=EC.out
     rw[if_pos h4,hq'] at this
     cases this
    have E3:Hid (s.tupleC a args=Zh s.L.length 1):=by show _=_;rw[E2.out,if_neg h4]
    have T5:=Qa (T1.out.below B4.out);have HA5:Hid (∀ k,A k→k<w4.heap.size):=fun k hk=>Zl (HA.out k hk) T5.out.bel.size
    have CM:Hid (∀ d,Calls prog 120 #[.pointer (some ⟨b,0,none⟩),.slice (some ⟨w4.heap.size,0,none⟩) 1 d] (w4.alloc (.cells #[.int .i64 3,.int .i64 r,.slice aL L.length cL] 79)) fun e w'=>Q6 w b O A s (s.tupleS a args) (s.tupleC a args) e w'):=fun d=>by
     have b1:=QN w4 (.cells #[.int .i64 3,.int .i64 r,.slice aL L.length cL] 79);have hb9:=T5.out.bel.trans (b1.mono T5.out.bel.size);rw[ES2.out,E3.out]
     exact(QaC (l:=[TT.at (n:=7) 5 (mkT 3 r L)]) rfl (by simp) (Qhy (c:=cL) (d:=d) HA5.out (by have:=HR.out;have:=HJ.out.regs;omega) h4 (HLI.out.1.below B4.out) HLI.out.2) hL (fun k hk=>Zl (HA5.out k hk) b1.size) (H.out.below hb9)).mono (fun e w' hd=>hd.after hb9)
    obtain⟨y0,y1,y2⟩:=Qjv T5.out.box
    clear hq hq' h4 CC CL E3;go_wp2_with fail
    refine(CM.out _).mono ?_
    rintro e' w5 hd;have F:=Qa hd;rcases hd with ⟨h1,rfl,h3⟩|⟨h1,rfl,h3⟩
    rotate_left
    ·exact⟨rfl,F.out⟩
    clear h1 h3 CM;go_wp2
    exact bodyPost_end (v:=.tuple #[]) (by simp[results,results119,go_sem]) rfl F.out
end Go.Proofs.YtacjnejckfhpoadGreat
namespace Go.Proofs.YtacjnejckfhpoadGreat
open Go.ChangeShapes Go.WideShapes Go.ChangeAt Go.RowKit Go.Deep _root_.Go.Proofs.Tryz
set_option linter.unusedVariables false
def Wt {H:Type}(P:Program) (t:TypeId) (d:DataW H):Prop:=∀ n∈d.weights P t,n≤reachBytes
def QI (P:Program) (t:TypeId){α:Type}(A:Lay α) (n:Nat) (Bd:α→Prop):Prop :=
 P.cellsOf t=A.size∧∀ {H:Type} {enc:TypeId × Value→H} {w:World} {base:Nat} {spare:Nat→Bool} {held:Bool} {fuel:Nat} {cs:List Value} {x:DataW H × List MemPlace},
  fuel≤n→DataW.trod enc P w base spare held fuel t cs=some x→Wt P t x.1→∃ d,A.In w (fun _=>True) d cs∧Bd d
theorem QI.int {P:Program}{t:TypeId}(n:Nat) (h:P.underlying t=some (.int .i64)) (hc:P.cellsOf t=1):QI P t Lay.int n (fun _=>True) :=
 ⟨hc,fun _ h' _=>by
  obtain⟨k,e,_,wf⟩:=DataW.trod_int h h'
  exact⟨k,⟨e,Go.bounds_i64 wf⟩,trivial⟩⟩
theorem Qax {H:Type}{P:Program}{e:TypeId}:∀ {l:List (DataW H)}{d:DataW H},d∈l→∀ n∈d.weights P e,n∈DataW.weightsAll P e l
 | d0::l,d,h,n,hn=>by
   simp only[DataW.weightsAll,List.mem_append]
   rcases List.mem_cons.1 h with rfl | h
   ·exact .inl hn
   ·exact .inr (Qax h n hn)
theorem QI.list {P:Program}{t e:TypeId}{α:Type}{A:Lay α}{n:Nat}{Bd:α→Prop}(h:P.underlying t=some (.slice e)) (hc:P.cellsOf t=1) (hA:QI P e A n Bd) (h0:0<A.size) (hbe:0<P.bytesOf e):QI P t A.list n (fun l=>l.length<1152921504606846976) :=
 ⟨hc,fun {H enc w base spare held fuel cs x} hf h' hw=>by
  rcases DataW.trod_slice h h' with ⟨e2,_⟩|⟨a,len,cap,elems,rest,q,rfl,e2,ex,hb,hl,hm,hlen,hel,_,_⟩
  ·exact⟨[],by rw[e2];exact Lay.list_nil A _ _ _ _,by simp⟩
  ·have hlw:(elems.length+rest.length)*P.bytesOf e≤reachBytes:=hw _ (by rw[ex];simp[DataW.weights,h])
   have hlb:len<1152921504606846976:=by
    have h1:elems.length*1≤(elems.length+rest.length)*P.bytesOf e:=Nat.mul_le_mul (by omega) hbe;have h2:reachBytes<1152921504606846976:=by decide
    omega
   have hel':∀ i,i<len→∃ y,elems[i]?=some y∧Wt P e y.1:=fun i hi=>by
    refine⟨elems[i]'(by omega),Zg (by omega),fun k hk=>hw k ?_⟩
    rw[ex]
    simp only[DataW.weights,h,List.mem_cons,List.mem_append]
    exact .inr (.inl (Qax (List.mem_map_of_mem (List.getElem_mem (by omega))) k hk))
   obtain⟨l,hll,hp⟩:=Qd2 (P:=fun i (d:α)=>∃ ds,w.cells? base (a.add (i*A.size)) A.size=some ds∧A.In w (fun _=>True) d ds) len (fun i hi=>by
    have he:=hel i hi;obtain⟨y,hy,hwy⟩:=hel' i hi
    rw[hy,hA.1] at he
    rw[Option.bind_eq_some_iff] at he
    obtain⟨ds,hds,htr⟩:=he
    obtain⟨d,hd,_⟩:=hA.2 (by omega) htr hwy
    exact⟨d,ds,hds,hd⟩)
   refine⟨l,⟨some a,cap,by rw[e2,hll],fun i x hx=>?_⟩,by omega⟩
   obtain⟨ds,hds,hd⟩:=hp i x hx
   obtain⟨_,hcl,hcell⟩:=World.cells?_some hds
   obtain⟨b,off,spot⟩:=a
   have hspot:spot=none:=by
    have hi:0<l.length:=Nat.lt_of_le_of_lt (Nat.zero_le i) (Zi hx).1;obtain⟨ds0,hds0,hd0⟩:=hp 0 l[0] (Zg hi)
    have hl0:0<ds0.length:=by rw[A.len hd0];exact h0
    have:=(World.cells?_some hds0).2.2 0 h0
    rw[Zg hl0] at this
    simpa[Addr.add] using World.cell?_spot this
   subst hspot
   have key:∀ j,j<A.size→w.cell? ⟨b,off+i*A.size+j,none⟩=ds[j]?:=fun j hj=>by
    have:=hcell j hj
    rw[Go.WideShapes.add_plain,Go.WideShapes.add_plain] at this
    exact this
   refine⟨b,off,ds,rfl,trivial,?_,key,hd⟩
   have hl0:0<ds.length:=by rw[A.len hd];exact h0
   have:=key 0 h0
   rw[Zg hl0] at this
   exact World.block_lt_of_cell? w _ this⟩
def QL (P:Program) (fs:Array Field):Nat→Nat→{α:Type}→Lay α→Nat→(α→Prop)→Prop:=fun i o α A n Bd =>
 ∀ (H:Type) (enc:TypeId × Value→H) (w:World) (base:Nat) (spare:Nat→Bool) (held:Bool) (fuel:Nat) (cs:List Value) (xs:List (DataW H × List MemPlace)),
  fuel≤n→cs.length=o+A.size→xs.length=fs.size→(∀ (j:Nat) (f:Field),fs[j]?=some f→DataW.trod enc P w base spare held fuel f.type ((cs.drop f.offset).take (P.cellsOf f.type))=xs[j]?) →
  (∀ (j:Nat) (f:Field) x,fs[j]?=some f→xs[j]?=some x→Wt P f.type x.1)→∃ d,A.In w (fun _=>True) d (cs.drop o)∧Bd d
theorem QL.last {P:Program}{fs:Array Field}{i o n:Nat}{f:Field}{α:Type}{A:Lay α}{Bd:α→Prop}(hf:fs[i]?=some f) (ho:f.offset=o) (hA:QI P f.type A n Bd):QL P fs i o A n Bd:=by
 intro H enc w base spare held fuel cs xs hn hl hx h hw;have g:=h i f hf;have hi:i<fs.size:=(Array.getElem?_eq_some_iff.1 hf).1;rw[Zg (by omega),ho,hA.1] at g
 obtain⟨d,hd,hb⟩:=hA.2 hn g (hw i f _ hf (Zg (by omega)))
 refine⟨d,?_,hb⟩
 rwa [List.take_of_length_le (by simp;omega)] at hd
theorem QL.cons {P:Program}{fs:Array Field}{i o n:Nat}{f:Field}{α β:Type}{A:Lay α}{B:Lay β}{Bd:α→Prop}{Be:β→Prop}(hf:fs[i]?=some f) (ho:f.offset=o) (hA:QI P f.type A n Bd) (hB:QL P fs (i+1) (o+A.size) B n Be):QL P fs i o (A.pair B) n (fun x=>Bd x.1∧Be x.2):=by
 intro H enc w base spare held fuel cs xs hn hl hx h hw;have g:=h i f hf;have hi:i<fs.size:=(Array.getElem?_eq_some_iff.1 hf).1;rw[Zg (by omega),ho,hA.1] at g
 obtain⟨d,hd,hb⟩:=hA.2 hn g (hw i f _ hf (Zg (by omega)))
 have hs:(A.pair B).size=A.size+B.size:=rfl;obtain⟨e,he,hb2⟩:=hB _ _ _ _ _ _ _ _ _ hn (by omega) hx h hw
 refine⟨(d,e),⟨_,_,?_,hd,he⟩,hb,hb2⟩
 rw[← List.drop_drop,List.take_append_drop]
theorem QI.struct {P:Program}{t:TypeId}{fs:Array Field}{α:Type}{A:Lay α}{n:Nat}{Bd:α→Prop}(h:P.underlying t=some (.struct fs)) (hc:P.cellsOf t=A.size) (hF:QL P fs 0 0 A n Bd):QI P t A n Bd :=
 ⟨hc,fun {H enc w base spare held fuel cs x} hf h' hw=>by
  obtain⟨xs,m,rfl,ex,hcl,hxl,hfl⟩:=DataW.trod_struct h h'
  obtain⟨d,hd,hb⟩:=hF _ _ _ _ _ _ _ _ _ (by omega) (by rw[hcl,hc];omega) hxl hfl (fun j f y hj hy k hk=>hw k (by
   rw[ex]
   simp only[DataW.weights,h]
   exact DataW.weights_mem_each (j:=j) (t:=f.type) (d:=y.1) (by simp[hj]) (by simp[hy]) k hk))
  exact⟨d,by simpa using hd,hb⟩⟩
theorem QI.via {P:Program}{t:TypeId}{α β:Type}{A:Lay α}{n:Nat}{f:β→α}{Bd:α→Prop}(h:QI P t A n Bd) (g:α→β) (hg:∀ d,f (g d)=d):QI P t (A.via f) n (fun x=>Bd (f x)) :=
 ⟨h.1,fun hf h' hw=>by
  obtain⟨d,hd,hb⟩:=h.2 hf h' hw
  exact⟨g d,by show A.In _ _ (f (g d)) _;rw[hg];exact hd,by show Bd (f (g d));rw[hg];exact hb⟩⟩
theorem own:ownKnob prog.godebug=none:=by kernel_rfl
theorem laidOut:laidOutB prog=true:=by kernel_rfl
theorem fieldsT:∃ f0 f1 f2:Field,prog.underlying 79=some (.struct #[f0,f1,f2]) ∧
 (f0.offset=0∧prog.cellsOf f0.type=1∧prog.underlying f0.type=some (.int .i64))∧(f1.offset=1∧prog.cellsOf f1.type=1∧prog.underlying f1.type=some (.int .i64)) ∧
 (f2.offset=2∧prog.cellsOf f2.type=1∧f2.type=52) :=
 ⟨_,_,_,underlying79,⟨rfl,by kernel_rfl,by kernel_rfl⟩,⟨rfl,by kernel_rfl,by kernel_rfl⟩,⟨rfl,by kernel_rfl,rfl⟩⟩
theorem QkA (n:Nat):QI prog 79 (Lay.tt n) n (fun _=>True) :=
 ⟨by kernel_rfl,fun {H enc w base spare held fuel cs x} hf h' hw=>by
  obtain⟨f0,f1,f2,e,h0,h1,h2⟩:=fieldsT
  obtain⟨t,a,c,hc,h3,h4⟩:=Qjw (ti:=0) underlying52 e (by kernel_rfl) h0 h1 h2 n fuel hf h'
  exact⟨t,⟨a,c,hc,h3,h4⟩,trivial⟩⟩
theorem Qba (n:Nat):QI prog 3 Lay.int n (fun _=>True):=QI.int n underlying3 (by kernel_rfl)
theorem Qj7 (n:Nat):QI prog 2 Lay.int n (fun _=>True):=QI.int n underlying2 (by kernel_rfl)
theorem Qfa (n:Nat):QI prog 52 (Qm n) n (fun l=>l.length<1152921504606846976):=QI.list underlying52 (by kernel_rfl) (QkA n) (by show 0<3;decide) (by rw[show prog.bytesOf 79=40 from by kernel_rfl];decide)
end Go.Proofs.YtacjnejckfhpoadGreat
namespace Go.Proofs.YtacjnejckfhpoadGreat
open Go.ChangeShapes Go.WideShapes Go.ChangeAt Go.RowKit _root_.Go.Proofs.Tryz
set_option linter.unusedSimpArgs false
set_option linter.unusedVariables false
def Lay.listC {α:Type}(A:Lay α):Lay (List α) where
 size:=1
 In:=fun w O l cs=>(∃ a c,cs=[.slice a l.length c]∧l.length≤c)∧A.list.In w O l cs
 len:=fun h=>A.list.len h.2
 keep:=fun hb hl h=>⟨h.1,A.list.keep hb hl h.2⟩
theorem QaN.listC {P:Program}{t e:TypeId}{α:Type}{A:Lay α}{n:Nat}(h:P.underlying t=some (.slice e)) (hc:P.cellsOf t=1) (hA:QaN P e A n) (h0:0<A.size):QaN P t A.listC (n+1) :=
 ⟨hc,fun {H enc w base spare held fuel cs x} hf h'=>by
  obtain⟨l,hl⟩:=(QaN.list h hc hA h0).2 hf h'
  refine⟨l,?_,hl⟩
  obtain⟨a,c,e,_⟩:=hl
  refine⟨a,c,e,?_⟩
  rcases DataW.trod_slice h h' with ⟨e2,_⟩|⟨a2,len,cap,elems,rest,q,_,e2,_,_,hle,_⟩
  ·rw[e] at e2
   simp at e2
   simp[e2.2.1]
  ·rw[e] at e2
   simp at e2
   omega⟩
def Lay.Sub {α:Type}(A B:Lay α):Prop:=A.size=B.size∧∀ {w:World}{O:Nat→Prop}{x:α}{cs:List Value},A.In w O x cs→B.In w O x cs
theorem Lay.Sub.refl {α:Type}(A:Lay α):Lay.Sub A A:=⟨rfl,id⟩
theorem Lay.Sub.listC {α:Type}(A:Lay α):Lay.Sub A.listC A.list:=⟨rfl,fun h=>h.2⟩
theorem Lay.Sub.pair {α β:Type}{A A':Lay α}{B B':Lay β}(h:Lay.Sub A A') (k:Lay.Sub B B'):Lay.Sub (A.pair B) (A'.pair B') :=
 ⟨by show A.size+B.size=A'.size+B'.size;rw[h.1,k.1],fun ⟨c1,c2,e,h1,h2⟩=>⟨c1,c2,e,h.2 h1,k.2 h2⟩⟩
theorem Lay.Sub.list {α:Type}{A A':Lay α}(h:Lay.Sub A A'):Lay.Sub A.list A'.list :=
 ⟨rfl,fun ⟨a,c,e,k⟩=>⟨a,c,e,fun i x hx=>by
  obtain⟨g,o,ds,e1,e2,e3,e4,e5⟩:=k i x hx
  exact⟨g,o,ds,e1,e2,e3,by rw[← h.1];exact e4,h.2 e5⟩⟩⟩
structure Qcw (w:World) (lo:Nat) (v:Value){n:Nat}(l:List (TT n)) (xs:List Value):Prop where
 own:w.ownsRow lo 79 3 v l.length xs
 kids:∀ (i:Nat) (x:TT n),l[i]?=some x→∃ a c,xs[i*3]?=some (.int .i64 x.kind)∧xs[i*3+1]?=some (.int .i64 x.r)∧xs[i*3+2]?=some (.slice a x.len c)∧TIn w (But lo v) x a
theorem Qcw.nil (w:World) (lo:Nat){n:Nat}:Qcw w lo (.slice none 0 0) ([]:List (TT n)) [] :=
 ⟨⟨rfl,Or.inl ⟨rfl,rfl⟩⟩,fun i x h=>by simp at h⟩
theorem Qcw.lin {w:World}{lo:Nat}{v:Value}{n:Nat}{l:List (TT n)}{xs:List Value}(h:Qcw w lo v l xs):∃ a c,v=.slice a l.length c∧LIn w (Z2 lo) l a:=by
 obtain⟨⟨h1,h2⟩,h3⟩:=h
 rcases h2 with ⟨rfl,h4⟩|⟨g,cap,cur,rfl,hg,hh,hn,hm,hs,ht⟩
 ·have:l=[]:=List.length_eq_zero_iff.1 h4
  subst this;exact⟨none,0,rfl,LIn.nil⟩
 ·refine⟨_,_,rfl,fun i x hx=>?_⟩
  obtain⟨a,c,q0,q1,q2,q3⟩:=h3 i x hx
  have hi:i<l.length:=(Zi hx).1
  have key:∀ j u,xs[j]?=some u→w.cell? ⟨g,j,none⟩=some u:=fun j u hj=>by
   rw[← ht,List.getElem?_take] at hj
   split at hj
   ·exact Qb hh j u (by rw[← Array.getElem?_toList];exact hj)
   ·cases hj
  refine⟨g,0,a,c,rfl,hg,?_,?_,?_,q3.mono (fun k hk _=>hk.1)⟩
  ·rw[Nat.zero_add];exact key _ _ q0
  ·rw[Nat.zero_add];exact key _ _ q1
  ·rw[Nat.zero_add];exact key _ _ q2
theorem Qcw.below {w w':World}{lo:Nat}{v:Value}{n:Nat}{l:List (TT n)}{xs:List Value}(h:Qcw w lo v l xs) (b:Below w.heap.size w w'):Qcw w' lo v l xs:=by
 obtain⟨⟨h1,h2⟩,h3⟩:=h
 refine⟨⟨h1,?_⟩,fun i x hx=>?_⟩
 ·rcases h2 with h4 | ⟨g,cap,cur,e,hg,hh,r⟩
  ·exact Or.inl h4
  ·exact Or.inr ⟨g,cap,cur,e,hg,(b.block g (lt_of_block hh)).trans hh,r⟩
 ·obtain⟨a,c,q0,q1,q2,q3⟩:=h3 i x hx
  exact⟨a,c,q0,q1,q2,q3.below b⟩
theorem Qcw.lo_le {w:World}{lo:Nat}{v:Value}{n:Nat}{l:List (TT n)}{xs:List Value}(h:Qcw w lo v l xs){g:Nat}(hg:v.ownBlock=some g):lo≤g∧g<w.heap.size:=by
 obtain⟨⟨h1,h2⟩,h3⟩:=h
 rcases h2 with ⟨rfl,h4⟩|⟨g',cap,cur,rfl,hg',hh,r⟩
 ·simp[Value.ownBlock] at hg
 ·simp[Value.ownBlock] at hg;subst hg;exact⟨hg',lt_of_block hh⟩
theorem Qcw.push {w w':World}{lo:Nat}{v:Value}{n:Nat}{l:List (TT n)}{xs:List Value}(h:Qcw w lo v l xs){x:TT n}{a:Option Addr}{c:Nat}(hx:TIn w (But lo v) x a)
 {g cap:Nat} (hg:w.grownBy w' v.ownBlock) (hat:v.ownBlock=some g∨g=w.heap.size)
 (ho:w'.ownsRow lo 79 3 (.slice (some ⟨g,0,none⟩) (l.length+1) cap) (l.length+1) (xs++[.int .i64 x.kind,.int .i64 x.r,.slice a x.len c])) :
 Qcw w' lo (.slice (some ⟨g,0,none⟩) (l.length+1) cap) (l++[x]) (xs++[.int .i64 x.kind,.int .i64 x.r,.slice a x.len c]):=by
 obtain⟨h1,h3⟩:=h
 have hxl:=h1.1
 have keep:∀ {y:TT n} {b:Option Addr},TIn w (But lo v) y b→TIn w' (But lo (.slice (some ⟨g,0,none⟩) (l.length+1) cap)) y b:=fun hy=>by
  refine hy.keep (fun k hk hl=>?_) (fun k hk hl=>⟨hk.1,?_⟩)
  ·exact hg.block k hl (fun e=>hk.2 e.symm)
  ·simp only[Value.ownBlock,ne_eq,Option.some.injEq]
   intro e;subst e;rcases hat with h' | h'
   ·exact hk.2 h'
   ·omega
 refine⟨by rw[List.length_append];exact ho,fun i y hy=>?_⟩
 rw[List.getElem?_append] at hy
 split at hy
 ·rename_i hi
  obtain⟨b,d,q0,q1,q2,q3⟩:=h3 i y hy
  refine⟨b,d,?_,?_,?_,keep q3⟩
  ·rw[List.getElem?_append_left (by omega)];exact q0
  ·rw[List.getElem?_append_left (by omega)];exact q1
  ·rw[List.getElem?_append_left (by omega)];exact q2
 ·rename_i hi
  have hi2:i=l.length:=by
   have:=(Zi hy).1
   simp at this
   omega
  subst hi2;simp at hy
  subst hy;refine⟨a,c,?_,?_,?_,keep hx⟩
  ·rw[List.getElem?_append_right (by omega),hxl,Nat.sub_self];rfl
  ·rw[List.getElem?_append_right (by omega),hxl,Nat.add_sub_cancel_left];rfl
  ·rw[List.getElem?_append_right (by omega),hxl,Nat.add_sub_cancel_left];rfl
theorem underTs:prog.underlying 52=some (.slice 79):=by kernel_rfl
theorem infoT:(prog.info? 79).map (fun i=>(i.zero,i.size,i.bytes))=some (some (.agg #[.int .i64 0,.int .i64 0,.slice none 0 0]),3,40):=by kernel_rfl
theorem infoT_parts:∃ i,prog.info? 79=some i∧i.zero=some (.agg #[.int .i64 0,.int .i64 0,.slice none 0 0])∧i.size=3∧i.bytes=40:=by
 have h:=infoT
 cases hi:prog.info? 79 with
 | none=>rw[hi] at h;cases h
 | some i=>rw[hi] at h;simp at h;exact⟨i,rfl,h.1,h.2.1,h.2.2⟩
theorem QkN (w:World) (p q r:Value):∀ j u,[p,q,r][j]?=some u→(w.alloc (.cells #[p,q,r] 79)).cell? ((⟨w.heap.size,0,none⟩:Addr).add j)=some u:=by
 intro j u h;match j,h with
 | 0,h=>simp at h;subst h;exact Qb (Qe w _ _) 0 _ rfl
 | 1,h=>simp at h;subst h;exact Qb (Qe w _ _) 1 _ rfl
 | 2,h=>simp at h;subst h;exact Qb (Qe w _ _) 2 _ rfl
 | j+3,h=>simp at h
theorem Qlj (k r:Int) (a:Option Addr) (l c:Nat):∀ u∈[Value.int .i64 k,Value.int .i64 r,Value.slice a l c],u.oneCell'=true:=by
 intro u h;simp at h
 rcases h with rfl | rfl | rfl<;>rfl
def Qlc {n:Nat}(w w':World) (t:TT n) (e:Ending):Prop:=∃ a' c',e=.returned (Tv t a' c')∧TIn w' (Z2 w.heap.size) t a'∧Below w.heap.size w w'
def Qln {n:Nat}(w w':World) (l:List (TT n)) (e:Ending):Prop:=∃ a' c',e=.returned (.slice a' l.length c')∧LIn w' (Z2 w.heap.size) l a'∧Below w.heap.size w w'
def Qi5 (n:Nat):Prop:=∀ (t:TT n) (a:Option Addr) (c:Nat) (w:World),TIn w All t a→t.count≤100000 →
 Calls prog 84 #[Tv t a c] w fun e w'=>Qlc w w' t e
theorem QfS (n:Nat) (IH0:Qi5 n) (l:List (TT n)) (a:Option Addr) (c:Nat) (w:World) (hl0:LIn w All l a) (hlen:l.length≤100000) (hco0:∀ x∈l,x.count≤100000) :
 Calls prog 37 #[.slice a l.length c] w fun e w'=>∃ a' c',e=.returned (.slice a' l.length c')∧(∃ xs,Qcw w' w.heap.size (.slice a' l.length c') l xs)∧Below w.heap.size w w':=by
 have IH:Hid (Qi5 n):=IH0;have hl:Hid (LIn w All l a):=hl0;have hco:Hid (∀ x∈l,x.count≤100000):=hco0;clear IH0 hl0 hco0;obtain⟨i0,hi,hz0,hz1,hz2⟩:=infoT_parts
 go_enter func37,ntmps37
 go_wp2_with fail
 go_loopw [3,4] (fun v i wr=>∃ q:Nat,q≤l.length∧i=.int .i64 q∧(∃ xs,Qcw wr w.heap.size v (l.take q) xs)∧Below w.heap.size w wr) (fun _ i _=>l.length - (intOf i).toNat)
 case atStart=>exact⟨0,Nat.zero_le _,rfl,⟨_,Qcw.nil _ _⟩,Zr⟩
 case round =>
  obtain⟨q,hq,rfl,⟨xs,hr⟩,hb⟩:=hrel
  have R:Hid (Qcw wr w.heap.size u3 (l.take q) xs):=hr;have B:Hid (Below w.heap.size w wr):=hb;clear hr hb;by_cases hlt:q<l.length
  ·have hx:l[q]?=some l[q]:=Zg hlt;generalize l[q]=x at hx;obtain⟨g,o,a',c',rfl,_,d0,d1,d2,hk⟩:=LIn.at (hl.out.below B.out) hx
   have C:Hid (Calls prog 84 #[Tv x a' c'] wr fun e w'=>Qlc wr w' x e) :=
    IH.out x a' c' _ hk (hco.out x (Zm hx))
   have T:Hid (l.take (q+1)=l.take q++[x]):=by show _=_;rw[List.take_add_one,hx];rfl
   have hlq:Hid ((l.take q).length=q):=by show _=_;simp;omega
   clear hk hx;simp only[Tv] at C
   have hk0:(0:Int)≤q:=by omega
   have hk1:(q:Int)<l.length:=by omega
   go_wp2_with fail
   refine C.out.mono ?_;rintro e w2 ⟨a2,c2,rfl,t2,b2⟩;simp only[Tv]
   have R2:=R.out.below b2;have hT2:TIn w2 (But w.heap.size u3) x a2:=t2.mono (fun k hk _=>⟨Zt B.out.size hk,fun e=>by have:=(R.out.lo_le e).2;omega⟩);have hB2:Below w.heap.size w w2:=B.out.trans (b2.mono B.out.size);have hown:=R2.own;rw[hlq.out] at hown
   have PU:Hid (∀ g2 cap2 w9,w9.ownsRow w.heap.size 79 3 (.slice (some ⟨g2,0,none⟩) (q+1) cap2) (q+1) (xs++[.int .i64 x.kind,.int .i64 x.r,.slice a2 x.len c2])→(w2.alloc (.cells #[.int .i64 x.kind,.int .i64 x.r,.slice a2 x.len c2] 79)).grownBy w9 u3.ownBlock→(u3.ownBlock=some g2∨g2=w2.heap.size+1) →
    (∃ xs,Qcw w9 w.heap.size (.slice (some ⟨g2,0,none⟩) (q+1) cap2) (l.take (q+1)) xs)∧Below w.heap.size w w9):=by
    intro g2 cap2 w9 h1 h2 h3;have b3:Below w2.heap.size w2 (w2.alloc (.cells #[.int .i64 x.kind,.int .i64 x.r,.slice a2 x.len c2] 79)):=(Below.refl _ w2).alloc Ze _
    have:=(R2.below b3).push (x:=x) (a:=a2) (c:=c2) (cap:=cap2) (hT2.below b3) h2 (by simpa using h3) (by rw[hlq.out];exact h1)
    rw[hlq.out] at this
    refine⟨⟨_,by rw[T.out];exact this⟩,?_⟩
    exact(hB2.alloc hB2.size _).grown h2 (by simp;have:=hB2.size;omega) (fun k hk=>(R.out.lo_le hk).1)
   have hsz:=hB2.size;clear C d0 d1 d2 t2 b2 R2 hT2 hB2;generalize x.kind=kx at PU ⊢;generalize x.r=rx at PU ⊢;generalize x.len=lx at PU ⊢;go_wp2_with (at_builtin;refine wpList_append_lies _ rfl (.tmp 11) (.tmp 17) 52 rfl w.heap.size 79 i0 (.agg #[.int .i64 0,.int .i64 0,.slice none 0 0]) 3 40 underTs hi hz0 hz1 hz2 rfl (by decide) _ _ _ rfl (hown.alloc _) ⟨w2.heap.size,0,none⟩ 1 1 [.int .i64 kx,.int .i64 rx,.slice a2 lx c2] rfl rfl (QkN _ _ _ _) (Qlj _ _ _ _ _) (by decide) (by unfold maxLen;omega) (by omega) (by simp;omega) (w2.heap.size+1) (by simp) ?_)
   intro g2 cap2 w9 h1 hgrow hat hlt1;have U2:Hid _:=PU.out g2 cap2 w9 h1 hgrow hat;clear h1 hgrow hat hlt1 hown PU R;go_wp2
   go_roundw
   case rel=>exact⟨q+1,by omega,by go_num,U2.out.1,U2.out.2⟩
   case measure=>simp[intOf];omega
  ·have hk1:¬ (q:Int)<l.length:=by omega
   have htt:l.take q=l:=List.take_of_length_le (by omega);have hr:=R.out;rw[htt] at hr
   obtain⟨a2,c2,rfl,h2⟩:=hr.lin
   have L:Hid (Qcw wr w.heap.size (.slice a2 l.length c2) l xs):=hr;clear R h2 hr htt;go_wp2
   go_ret;exact⟨a2,c2,rfl,⟨xs,L.out⟩,B.out⟩
theorem Qjg (n:Nat) (IH0:Qi5 n) (l:List (TT n)) (a:Option Addr) (c:Nat) (w:World) (hl0:LIn w All l a) (hlen:l.length≤100000) (hco0:∀ x∈l,x.count≤100000) :
 Calls prog 37 #[.slice a l.length c] w fun e w'=>Qln w w' l e:=by
 refine(QfS n IH0 l a c w hl0 hlen hco0).mono ?_
 rintro e w' ⟨a',c',rfl,⟨xs,hr⟩,hb⟩;obtain⟨a2,c2,e2,h2⟩:=hr.lin
 simp only[Value.slice.injEq,true_and] at e2
 obtain⟨rfl,rfl⟩:=e2
 exact⟨_,_,rfl,h2,hb⟩
structure Bx2 (w wr:World) (k r:Int) (a:Option Addr) (len c:Nat):Prop where
 bel:Below w.heap.size w wr
 box:wr.heap[w.heap.size]?=some (.cells #[.int .i64 k,.int .i64 r,.slice a len c] 79 (0,0))
 res:wr.heap[w.heap.size+1]?=some (.cells #[.int .i64 0,.int .i64 0,.slice none 0 0] 79 (0,0))
theorem Bx2.start (w:World) (k r:Int) (a:Option Addr) (len c:Nat):Bx2 w ((w.alloc (.cells #[.int .i64 k,.int .i64 r,.slice a len c] 79)).alloc (.cells #[.int .i64 0,.int .i64 0,.slice none 0 0] 79)) k r a len c :=
 ⟨((Below.refl _ w).alloc Ze _).alloc (by simp) _,(Below.heap_alloc _ _ _ (by simp)).trans (Qe w _ _),by have:=Qe (w.alloc (.cells #[.int .i64 k,.int .i64 r,.slice a len c] 79)) #[.int .i64 0,.int .i64 0,.slice none 0 0] 79;simpa using this⟩
theorem Bx2.below {w wr w':World}{k r:Int}{a:Option Addr}{len c:Nat}(h:Bx2 w wr k r a len c) (b:Below wr.heap.size wr w'):Bx2 w w' k r a len c :=
 ⟨h.bel.trans (b.mono h.bel.size),QaA h.box b,QaA h.res b⟩
theorem Bx2.stored {w wr:World}{k r:Int}{a:Option Addr}{len c:Nat}(h:Bx2 w wr k r a len c) (k' r':Int) (a':Option Addr) (len' c':Nat) :
 (((wr.setCell ⟨w.heap.size+1,0,none⟩ (.int .i64 k')).setCell ⟨w.heap.size+1,1,none⟩ (.int .i64 r')).setCell ⟨w.heap.size+1,2,none⟩ (.slice a' len' c')).heap[w.heap.size+1]?=some (.cells #[.int .i64 k',.int .i64 r',.slice a' len' c'] 79 (0,0)) ∧
 Below w.heap.size w (((wr.setCell ⟨w.heap.size+1,0,none⟩ (.int .i64 k')).setCell ⟨w.heap.size+1,1,none⟩ (.int .i64 r')).setCell ⟨w.heap.size+1,2,none⟩ (.slice a' len' c')):=by
 refine⟨?_,((h.bel.setCell (by simp) _).setCell (by simp) _).setCell (by simp) _⟩
 have h1:=Qo h.res 0 (.int .i64 k');have h2:=Qo h1 1 (.int .i64 r');have h3:=Qo h2 2 (.slice a' len' c');simpa using h3
theorem own_any:∀ n,Qi5 n:=by
 intro n
 induction n with
 | zero=>intro t;exact Empty.elim t
 | succ n ih =>
   intro t a c w ht hc;have hco:∀ x∈t.2.2,x.count≤100000:=fun x hx=>by have:=t.count_kid hx;omega
   have hlen:t.2.2.length≤100000:=by have:=t.len_lt_count;rw[t.len_eq] at this;omega
   have C:Hid (∀ wx,Below w.heap.size w wx→Calls prog 37 #[.slice a t.2.2.length c] wx fun e w'=>Qln wx w' t.2.2 e) :=
    fun wx hb=>Qjg n ih t.2.2 a c wx (ht.below hb) hlen hco
   have P:Hid (∀ e wx w',Below w.heap.size w wx→(∃ a' c',e=.returned (.agg #[.int .i64 t.kind,.int .i64 t.r,.slice a' t.2.2.length c'])∧LIn w' (Z2 wx.heap.size) t.2.2 a'∧Below w.heap.size w w')→Qlc w w' t e):=by
    rintro e wx w' hb ⟨a',c',rfl,h1,h2⟩;exact⟨a',c',rfl,h1.mono (fun k hk _=>Zt hb.size hk),h2⟩
   simp only[Tv,TT.len_eq]
   generalize t.kind=k at P ⊢;generalize t.r=r at P ⊢;generalize hll:t.2.2=l at C P ⊢;clear hco hlen hc ht ih hll;go_enter func84,ntmps84
   go_wp2_with fail
   have X1:Hid (Bx2 w ((w.alloc (.cells #[.int .i64 k,.int .i64 r,.slice a l.length c] 79)).alloc (.cells #[.int .i64 0,.int .i64 0,.slice none 0 0] 79)) k r a l.length c):=Bx2.start w k r a l.length c;have hsz:w.heap.size+1<((w.alloc (.cells #[.int .i64 k,.int .i64 r,.slice a l.length c] 79)).alloc (.cells #[.int .i64 0,.int .i64 0,.slice none 0 0] 79)).heap.size:=by simp
   generalize (w.alloc (.cells #[.int .i64 k,.int .i64 r,.slice a l.length c] 79)).alloc (.cells #[.int .i64 0,.int .i64 0,.slice none 0 0] 79)=w1 at X1 hsz ⊢
   have C1:Hid (∀ m,Calls prog 37 #[.slice a l.length c] (w1.drewN m) fun e w'=>Qln w1 w' l e∧Bx2 w w' k r a l.length c):=fun m =>
    (C.out (w1.drewN m) (ZM X1.out.bel)).mono (fun e w' h=>by
     obtain⟨a',c',h1,h2,h3⟩:=h
     exact⟨⟨a',c',h1,h2,QaY h3⟩,X1.out.below (QaY h3)⟩)
   have e0:=Qb X1.out.box 0 _ rfl;have e1:=Qb X1.out.box 1 _ rfl;have e2:=Qb X1.out.box 2 _ rfl;clear C;go_region_with (go_at_call 37;refine(C1.out 1).mono ?_;rintro e w5 ⟨⟨a2,c2,rfl,l2,b2⟩,x5⟩;have f0:=Qb x5.box 0 _ rfl;have f1:=Qb x5.box 1 _ rfl;have g0:=Qb x5.res 0 _ rfl;have g1:=Qb x5.res 1 _ rfl;have g2:=Qb x5.res 2 _ rfl;have z0:=Qp x5.res 0;have z1:=Qp x5.res 1;have z2:=Qp x5.res 2;have X5:Hid _:=And.intro l2 x5;clear l2 b2 x5)
   all_goals
    have D:=X5.out.2.stored k r a2 l.length c2
    have D2:Qlc w (((w5.setCell ⟨w.heap.size+1,0,none⟩ (.int .i64 k)).setCell ⟨w.heap.size+1,1,none⟩ (.int .i64 r)).setCell ⟨w.heap.size+1,2,none⟩ (.slice a2 l.length c2)) t (.returned (.agg #[.int .i64 k,.int .i64 r,.slice a2 l.length c2])) :=
     P.out _ w1 _ X1.out.bel ⟨a2,c2,rfl,((X5.out.1.setCell (by simp;omega) _).setCell (by simp;omega) _).setCell (by simp;omega) _,D.2⟩
    have DD:Hid _:=D2;have x0:=Qb D.1 0 _ rfl;have x1:=Qb D.1 1 _ rfl;have x2:=Qb D.1 2 _ rfl;clear D D2 X5 e0 e1 e2 f0 f1 g0 g1 g2 z0 z1 z2 P C1;generalize ((w5.setCell ⟨w.heap.size+1,0,none⟩ (.int .i64 k)).setCell ⟨w.heap.size+1,1,none⟩ (.int .i64 r)).setCell ⟨w.heap.size+1,2,none⟩ (.slice a2 l.length c2)=w9 at DD x0 x1 x2 ⊢;go_wp2
    exact bodyPost_ret (v:=.agg #[.int .i64 k,.int .i64 r,.slice a2 l.length c2]) (by simp[results,results84,go_sem,x0,x1,x2]) rfl DD.out
def Qgv (w:World) (b:Option Addr) (m:Nat) (nm:Nat→Int):Prop:=∀ i,i<m→∃ g o,b=some ⟨g,o,none⟩∧w.cell? ⟨g,o+i,none⟩=some (.int .i64 (nm i))
theorem Qgv.below {w w':World}{b:Option Addr}{m:Nat}{nm:Nat→Int}(h:Qgv w b m nm) (k:Below w.heap.size w w'):Qgv w' b m nm:=fun i hi=>by
 obtain⟨g,o,e,hc⟩:=h i hi
 exact⟨g,o,e,(k.cell (p:=⟨g,o+i,none⟩) (World.block_lt_of_cell? w ⟨g,o+i,none⟩ hc)).trans hc⟩
def QlM (o:Option Int) (e:Ending):Prop:=match o with
 | some v=>e=.returned (.tuple #[.int .i64 v,.bool true])
 | none=>e=.returned (.tuple #[.int .i64 0,.bool false])
theorem Qfk (k r:Int) (a:Option Addr) (len c:Nat) (b:Option Addr) (m d:Nat) (nm:Nat→Int) (w:World) (hto0:Qgv w b m nm) :
 Calls prog 221 #[.agg #[.int .i64 k,.int .i64 r,.slice a len c],.slice b m d] w fun e w'=>QlM (Qap m nm k r) e∧Below w.heap.size w w':=by
 have hto:Hid (Qgv w b m nm):=hto0;clear hto0;by_cases hk:k=1
 ·subst hk;rw[show Qap m nm 1 r=some r by simp[Qap]]
  go_enter func221,ntmps221
  go_wp2_with fail
  go_ret2;exact⟨rfl,(Below.refl _ w).alloc Ze _⟩
 ·have hk':(k==1)=false:=by simpa using hk
  rcases (show r<0∨(0≤r∧(m:Int)≤r)∨(0≤r∧r<m) by omega) with h1 | ⟨h1,h2⟩|⟨h1,h2⟩
  ·rw[show Qap m nm k r=none by unfold Qap;rw[if_neg hk,if_pos (Or.inl h1)]]
   clear hk;go_enter func221,ntmps221
   go_wp2_with fail
   go_ret2;exact⟨rfl,(Below.refl _ w).alloc Ze _⟩
  ·rw[show Qap m nm k r=none by unfold Qap;rw[if_neg hk,if_pos (Or.inr h2)]]
   clear hk;have h3:¬ r<0:=by omega
   go_enter func221,ntmps221
   go_wp2_with fail
   go_ret2;exact⟨rfl,(Below.refl _ w).alloc Ze _⟩
  ·obtain⟨j,rfl⟩:=Int.eq_ofNat_of_zero_le h1
   obtain⟨g,o,rfl,hc⟩:=hto.out j (by omega)
   have hg:g<w.heap.size:=World.block_lt_of_cell? w ⟨g,o+j,none⟩ hc;have h3:¬ (j:Int)<0:=by omega
   have h4:¬ (m:Int)≤j:=by omega
   by_cases hn:nm j<0
   ·rw[show Qap m nm k j=none by unfold Qap;rw[if_neg hk,if_neg (by omega),if_pos (by simpa using hn)]]
    clear hk;generalize nm j=v at hc hn;go_enter func221,ntmps221
    go_wp2_with fail
    go_ret2;exact⟨rfl,(Below.refl _ w).alloc Ze _⟩
   ·rw[show Qap m nm k j=some (nm j) by unfold Qap;rw[if_neg hk,if_neg (by omega),if_neg (by simpa using hn)];rfl]
    clear hk;generalize nm j=v at hc hn ⊢;go_enter func221,ntmps221
    go_wp2_with fail
    go_ret2;exact⟨rfl,(Below.refl _ w).alloc Ze _⟩
structure QcG (w:World) (G len:Nat){n:Nat}(l:List (TT n)):Prop where
 row:∃ cur,w.heap[G]?=some (.cells cur 79 (0,0))∧cur.size=len*3∧∀ (i:Nat) (x:TT n),l[i]?=some x→∃ a c,cur[i*3]?=some (.int .i64 x.kind)∧cur[i*3+1]?=some (.int .i64 x.r)∧cur[i*3+2]?=some (.slice a x.len c)∧TIn w (Z2 (G+1)) x a
theorem QcG.below {w w':World}{G len n:Nat}{l:List (TT n)}(h:QcG w G len l) (b:Below w.heap.size w w'):QcG w' G len l:=by
 obtain⟨cur,h1,h2,h3⟩:=h.row
 refine⟨cur,(b.block G (lt_of_block h1)).trans h1,h2,fun i x hx=>?_⟩
 obtain⟨a,c,q0,q1,q2,q3⟩:=h3 i x hx
 exact⟨a,c,q0,q1,q2,q3.below b⟩
theorem QcG.lt {w:World}{G len n:Nat}{l:List (TT n)}(h:QcG w G len l):G<w.heap.size:=by
 obtain⟨cur,h1,h2,h3⟩:=h.row
 exact lt_of_block h1
theorem QcG.frozen {w:World}{G len n:Nat}{l:List (TT n)}(h:QcG w G len l) (i:Nat):w.frozen? ⟨G,i,none⟩=false:=by
 obtain⟨cur,h1,h2,h3⟩:=h.row
 exact Qp h1 i
theorem QcG.has {w:World}{G len n:Nat}{l:List (TT n)}(h:QcG w G len l) (i:Nat) (hi:i<len*3):∃ v,w.cell? ⟨G,i,none⟩=some v:=by
 obtain⟨cur,h1,h2,h3⟩:=h.row
 exact⟨cur[i]'(by omega),Qb h1 i _ (Array.getElem?_eq_getElem (by omega))⟩
theorem QcG.lin {w:World}{G len n:Nat}{l:List (TT n)}(h:QcG w G len l):LIn w (Z2 G) l (some ⟨G,0,none⟩):=by
 obtain⟨cur,h1,h2,h3⟩:=h.row
 intro i x hx;obtain⟨a,c,q0,q1,q2,q3⟩:=h3 i x hx
 refine⟨G,0,a,c,rfl,Ze,?_,?_,?_,q3.mono (fun k hk _=>by omega)⟩
 ·rw[Nat.zero_add];exact Qb h1 _ _ q0
 ·rw[Nat.zero_add];exact Qb h1 _ _ q1
 ·rw[Nat.zero_add];exact Qb h1 _ _ q2
theorem QcG.set {w:World}{G len n q:Nat}{l:List (TT n)}(h:QcG w G len l) (hl:l.length=q) (hq:q<len){x:TT n}{a:Option Addr}{c:Nat}(hx:TIn w (Z2 (G+1)) x a) :
 QcG (((w.setCell ⟨G,q*3,none⟩ (.int .i64 x.kind)).setCell ⟨G,q*3+1,none⟩ (.int .i64 x.r)).setCell ⟨G,q*3+2,none⟩ (.slice a x.len c)) G len (l++[x]):=by
 obtain⟨cur,h1,h2,h3⟩:=h.row
 have k1:=Qo h1 (q*3) (.int .i64 x.kind);have k2:=Qo k1 (q*3+1) (.int .i64 x.r);have k3:=Qo k2 (q*3+2) (.slice a x.len c)
 have keep:∀ {y:TT n} {b:Option Addr},TIn w (Z2 (G+1)) y b→TIn (((w.setCell ⟨G,q*3,none⟩ (.int .i64 x.kind)).setCell ⟨G,q*3+1,none⟩ (.int .i64 x.r)).setCell ⟨G,q*3+2,none⟩ (.slice a x.len c)) (Z2 (G+1)) y b :=
  fun hy=>((hy.setCell (by simp) _).setCell (by simp) _).setCell (by simp) _
 refine⟨_,k3,by simp[h2],fun i y hy=>?_⟩
 rw[List.getElem?_append] at hy
 split at hy
 ·rename_i hi
  obtain⟨b,d,q0,q1,q2,q3⟩:=h3 i y hy
  refine⟨b,d,?_,?_,?_,keep q3⟩
  ·simp only[Array.getElem?_setIfInBounds]
   rw[if_neg (by omega),if_neg (by omega),if_neg (by omega)];exact q0
  ·simp only[Array.getElem?_setIfInBounds]
   rw[if_neg (by omega),if_neg (by omega),if_neg (by omega)];exact q1
  ·simp only[Array.getElem?_setIfInBounds]
   rw[if_neg (by omega),if_neg (by omega),if_neg (by omega)];exact q2
 ·rename_i hi
  have hi2:i=q:=by
   have:=(Zi hy).1
   simp at this
   omega
  subst hi2;simp[hl] at hy
  subst hy;refine⟨a,c,?_,?_,?_,keep hx⟩
  ·simp only[Array.getElem?_setIfInBounds,Array.size_setIfInBounds]
   rw[if_neg (by omega),if_neg (by omega),if_pos trivial,if_pos (by omega)]
  ·simp only[Array.getElem?_setIfInBounds,Array.size_setIfInBounds]
   rw[if_neg (by omega),if_pos trivial,if_pos (by omega)]
  ·simp only[Array.getElem?_setIfInBounds,Array.size_setIfInBounds]
   rw[if_pos trivial,if_pos (by omega)]
abbrev zeroT:Value:=.agg #[.int .i64 0,.int .i64 0,.slice none 0 0]
def Qcr {n:Nat}(w w':World) (o:Option (TT n)) (e:Ending):Prop:=match o with
 | some u=>∃ a' c',e=.returned (.tuple #[Tv u a' c',.bool true])∧TIn w' (Z2 w.heap.size) u a'∧Below w.heap.size w w'
 | none=>e=.returned (.tuple #[zeroT,.bool false])∧Below w.heap.size w w'
def Qjp (f n:Nat):Prop:=∀ (t:TT n) (a:Option Addr) (c:Nat) (b:Option Addr) (m d:Nat) (nm:Nat→Int) (w:World),TIn w All t a→t.count≤2000→Qgv w b m nm →
 Calls prog f #[Tv t a c,.slice b m d] w fun e w'=>Qcr w w' (t.ren m nm) e
theorem Qhn (w:World) (len:Nat) (h:len≤2000):(Instr.makeSlice 52 (.int .i64 len) (.int .i64 len)).run prog w=.ok (.slice (some ⟨w.heap.size,0,none⟩) len len) (w.alloc (.cells (madeCells #[.int .i64 0,.int .i64 0,.slice none 0 0] (len*3)) 79)):=by
 obtain⟨i0,hi,hz0,hz1,hz2⟩:=infoT_parts
 have:=run_make (P:=prog) w 52 79 i0 _ underTs hi hz0 .i64 .i64 len len (by omega) (by omega) (by rw[hz2];omega) (by omega)
 rw[hz1] at this
 exact this
structure RnX (w wr:World) (k r:Int) (a:Option Addr) (len c G:Nat){n:Nat}(l:List (TT n)):Prop where
 bx:Bx2 w wr k r a len c
 row:QcG wr G len l
 hG:w.heap.size+1<G
section
variable {w wr w':World}{k r:Int}{a:Option Addr}{len c G n:Nat}{l:List (TT n)}
theorem RnX.start (h:Bx2 w wr k r a len c):RnX w (wr.alloc (.cells (madeCells #[.int .i64 0,.int .i64 0,.slice none 0 0] (len*3)) 79)) k r a len c wr.heap.size ([]:List (TT n)) :=
 ⟨h.below ((Below.refl _ wr).alloc Ze _),⟨_,Qe wr _ _,size_madeCells _ _,fun i x hx=>by simp at hx⟩,lt_of_block h.res⟩
theorem RnX.below (h:RnX w wr k r a len c G l) (b:Below wr.heap.size wr w'):RnX w w' k r a len c G l:=⟨h.bx.below b,h.row.below b,h.hG⟩
theorem Bx2.setG (h:Bx2 w wr k r a len c) (hG:w.heap.size+1<G) (i:Nat) (v:Value):Bx2 w (wr.setCell ⟨G,i,none⟩ v) k r a len c :=
 ⟨h.bel.setCell (by simp;omega) _,(Below.heap_setCell _ _ _ _ (by simp;omega)).trans h.box,(Below.heap_setCell _ _ _ _ (by simp;omega)).trans h.res⟩
theorem RnX.set (h:RnX w wr k r a len c G l){q:Nat}(hl:l.length=q) (hq:q<len){x:TT n}{a':Option Addr}{c':Nat}(hx:TIn wr (Z2 (G+1)) x a') :
 RnX w (((wr.setCell ⟨G,q*3,none⟩ (.int .i64 x.kind)).setCell ⟨G,q*3+1,none⟩ (.int .i64 x.r)).setCell ⟨G,q*3+2,none⟩ (.slice a' x.len c')) k r a len c G (l++[x]) :=
 ⟨((h.bx.setG h.hG _ _).setG h.hG _ _).setG h.hG _ _,h.row.set hl hq hx,h.hG⟩
end
theorem Qbs {m:Nat}{nm:Nat→Int}{n:Nat}{t:TT (n+1)}{r':Int}(h1:Qap m nm t.kind t.r=some r'){l':List (TT n)}(h2:Qcj (TT.ren m nm) t.2.2=some l'):t.ren m nm=some (mkT t.kind r' l'):=by
 show (match Qap m nm t.1 t.2.1 with | none=>none | some r=>match Qcj (TT.ren (n:=n) m nm) t.2.2 with | none=>none | some l=>some ((t.1,r,l):Int × Int × List (TT n)))=_;have h1':Qap m nm t.1 t.2.1=some r':=h1;rw[h1',h2]
 rfl
theorem Qcl {m:Nat}{nm:Nat→Int}{n:Nat}{t:TT (n+1)}(h1:Qap m nm t.kind t.r=none):t.ren m nm=none:=by
 show (match Qap m nm t.1 t.2.1 with | none=>none | some r=>match Qcj (TT.ren (n:=n) m nm) t.2.2 with | none=>none | some l=>some ((t.1,r,l):Int × Int × List (TT n)))=_;have h1':Qap m nm t.1 t.2.1=none:=h1;rw[h1']
 rfl
theorem Qcs {m:Nat}{nm:Nat→Int}{n:Nat}{t:TT (n+1)}(h2:Qcj (TT.ren m nm) t.2.2=none):t.ren m nm=none:=by
 show (match Qap m nm t.1 t.2.1 with | none=>none | some r=>match Qcj (TT.ren (n:=n) m nm) t.2.2 with | none=>none | some l=>some ((t.1,r,l):Int × Int × List (TT n)))=_;rw[h2]
 cases Qap m nm t.1 t.2.1<;>rfl
theorem rename_any:∀ n,Qjp 202 n:=by
 intro n
 induction n with
 | zero=>intro t;exact Empty.elim t
 | succ n ih =>
   intro t a c b m d nm w ht hct hto0;have IH:Hid (Qjp 202 n):=ih;have hto:Hid (Qgv w b m nm):=hto0;have hT:Hid (LIn w All t.2.2 a):=ht.list;have hco:Hid (∀ x∈t.2.2,x.count≤2000):=fun x hx=>by have:=t.count_kid hx;omega
   have hlen:t.2.2.length≤2000:=by have:=t.len_lt_count;rw[t.len_eq] at this;omega
   have P0:Hid (Qap m nm t.kind t.r=none→t.ren m nm=none):=Qcl;have P1:Hid (Qcj (TT.ren m nm) t.2.2=none→t.ren m nm=none):=Qcs;have P2:Hid (∀ r' l',Qap m nm t.kind t.r=some r'→Qcj (TT.ren m nm) t.2.2=some l'→t.ren m nm=some (mkT t.kind r' l')):=fun r' l' h1 h2=>Qbs h1 h2;generalize t.ren m nm=res at P0 P1 P2 ⊢;simp only[Tv,TT.len_eq]
   generalize t.2.2=l at hT hco hlen P1 P2 ⊢;generalize t.kind=k at P0 P2 ⊢;generalize t.r=r at P0 P2 ⊢;clear ht hct hto0 ih t;go_enter func202,ntmps202
   go_wp2_with fail
   have X1:Hid (Bx2 w ((w.alloc (.cells #[.int .i64 k,.int .i64 r,.slice a l.length c] 79)).alloc (.cells #[.int .i64 0,.int .i64 0,.slice none 0 0] 79)) k r a l.length c):=Bx2.start w k r a l.length c;generalize (w.alloc (.cells #[.int .i64 k,.int .i64 r,.slice a l.length c] 79)).alloc (.cells #[.int .i64 0,.int .i64 0,.slice none 0 0] 79)=w1 at X1 ⊢;refine(Qfk k r a l.length c b m d nm w1 (hto.out.below X1.out.bel)).mono ?_
   rintro e w2 ⟨hr,b2⟩;have X2:Hid (Bx2 w w2 k r a l.length c):=X1.out.below b2;clear X1 b2;have e2:w2.cell? ⟨w.heap.size,2,none⟩=some (.slice a l.length c):=Qb X2.out.box 2 _ rfl
   cases hrr:Qap m nm k r with
   | none =>
     rw[hrr] at hr
     obtain rfl:e=_:=hr;have hres:res=none:=P0.out hrr;subst hres;have D:=X2.out.stored 0 0 none 0 0;have DD:Hid (Below w.heap.size w _):=D.2;have g0:=Qb X2.out.res 0 _ rfl;have g1:=Qb X2.out.res 1 _ rfl;have g2:=Qb X2.out.res 2 _ rfl;have z0:=Qp X2.out.res 0;have z1:=Qp X2.out.res 1;have z2:=Qp X2.out.res 2;have x0:=Qb D.1 0 _ rfl;have x1:=Qb D.1 1 _ rfl;have x2:=Qb D.1 2 _ rfl;clear D hrr P0 P1 P2;go_wp2_with fail
     exact bodyPost_ret (v:=.tuple #[zeroT,.bool false]) (by simp[results,results202,go_sem,x0,x1,x2]) rfl ⟨rfl,DD.out⟩
   | some r' =>
     rw[hrr] at hr
     obtain rfl:e=_:=hr;have HR:Hid (Qap m nm k r=some r'):=hrr;clear hrr;have hmk:=Qhn w2 l.length hlen;have hsz:w.heap.size<w2.heap.size:=lt_of_block X2.out.box;go_wp2_with fail
     have Y0:Hid (RnX w (w2.alloc (.cells (madeCells #[.int .i64 0,.int .i64 0,.slice none 0 0] (l.length*3)) 79)) k r a l.length c w2.heap.size ([]:List (TT n))):=RnX.start X2.out;generalize w2.alloc (.cells (madeCells #[.int .i64 0,.int .i64 0,.slice none 0 0] (l.length*3)) 79)=w3 at Y0 ⊢;generalize w2.heap.size=G at Y0 ⊢;clear hmk e2 X2 hsz;go_loopw [27] (fun i wr=>∃ q:Nat,q≤l.length∧i=.int .i64 q∧∃ l':List (TT n),l'.length=q∧(∀ (j:Nat) x,j<q→l[j]?=some x→x.ren m nm=l'[j]?)∧RnX w wr k r a l.length c G l') (fun i _=>l.length - (intOf i).toNat)
     case atStart=>exact⟨0,Nat.zero_le _,rfl,[],rfl,fun j x hj=>by omega,Y0.out⟩
     case round =>
      clear Y0;obtain⟨q,hq,rfl,l',hl',hall,hY⟩:=hrel
      have A:Hid (l'.length=q∧∀ (j:Nat) x,j<q→l[j]?=some x→x.ren m nm=l'[j]?):=⟨hl',hall⟩;have Y:Hid (RnX w wr k r a l.length c G l'):=hY;clear hl' hall hY;by_cases hlt:q<l.length
      ·have hx:l[q]?=some l[q]:=Zg hlt;generalize l[q]=x at hx;obtain⟨g,o,a',c',rfl,_,d0,d1,d2,hk⟩:=LIn.at (hT.out.below Y.out.bx.bel) hx
       have hg:g<wr.heap.size:=World.block_lt_of_cell? wr ⟨g,o+q*3,none⟩ d0;have hx':Hid (l[q]?=some x):=hx
       have C:Hid (∀ wx,Below wr.heap.size wr wx→Calls prog 202 #[Tv x a' c',.slice b m d] wx fun e w'=>Qcr wx w' (x.ren m nm) e) :=
        fun wx hb=>IH.out x a' c' b m d nm wx (hk.below hb) (hco.out x (Zm hx)) ((hto.out.below Y.out.bx.bel).below hb)
       clear hk hx;simp only[Tv] at C
       generalize x.kind=kx at C d0;generalize x.r=rx at C d1;generalize x.len=lx at C d2;have hk0:(0:Int)≤q:=by omega
       have hk1:(q:Int)<l.length:=by omega
       have hk2:(q:Int)<2000:=by omega
       go_wp2_with fail
       have B1:Below wr.heap.size wr (wr.alloc (.cells #[.int .i64 kx,.int .i64 rx,.slice a' lx c'] 79)):=(Below.refl _ wr).alloc Ze _;refine(C.out _ B1).mono ?_
       rintro e w4 h4;clear C d0 d1 d2
       cases hxr:x.ren m nm with
       | none =>
         rw[hxr] at h4
         obtain⟨rfl,b4⟩:=h4
         have hres:res=none:=P1.out (QbO hx'.out hxr);subst hres;have Y4:=(Y.out.below B1).below b4;have hq3:q*3+2<l.length*3:=by omega
         obtain⟨v0,r0⟩:=Y4.row.has (q*3) (by omega)
         obtain⟨v1,r1⟩:=Y4.row.has (q*3+1) (by omega)
         obtain⟨v2,r2⟩:=Y4.row.has (q*3+2) (by omega)
         have z0:=Y4.row.frozen (q*3);have z1:=Y4.row.frozen (q*3+1);have z2:=Y4.row.frozen (q*3+2);have X5:=((Y4.bx.setG Y4.hG (q*3) (.int .i64 0)).setG Y4.hG (q*3+1) (.int .i64 0)).setG Y4.hG (q*3+2) (.slice none 0 0);have D:=X5.stored 0 0 none 0 0;have DD:Hid (Below w.heap.size w _):=D.2;have g0:=Qb Y4.bx.res 0 _ rfl;have g1:=Qb Y4.bx.res 1 _ rfl;have g2:=Qb Y4.bx.res 2 _ rfl;have y0:=Qp Y4.bx.res 0;have y1:=Qp Y4.bx.res 1;have y2:=Qp Y4.bx.res 2;have x0:=Qb D.1 0 _ rfl;have x1:=Qb D.1 1 _ rfl;have x2:=Qb D.1 2 _ rfl;have hne:¬ w.heap.size+1=G:=by have:=Y4.hG;omega
         have hne':¬ G=w.heap.size+1:=by have:=Y4.hG;omega
         clear D X5 Y4 b4 B1 hxr A Y P0 P1 P2 hq3;go_wp2_with fail
         exact bodyPost_ret (v:=.tuple #[zeroT,.bool false]) (by simp[results,results202,go_sem,x0,x1,x2]) rfl ⟨rfl,DD.out⟩
       | some u =>
         rw[hxr] at h4
         obtain⟨a4,c4,rfl,t4,b4⟩:=h4
         simp only[Tv]
         have Y4:=(Y.out.below B1).below b4;have hq3:q*3+2<l.length*3:=by omega
         obtain⟨v0,r0⟩:=Y4.row.has (q*3) (by omega)
         obtain⟨v1,r1⟩:=Y4.row.has (q*3+1) (by omega)
         obtain⟨v2,r2⟩:=Y4.row.has (q*3+2) (by omega)
         have z0:=Y4.row.frozen (q*3);have z1:=Y4.row.frozen (q*3+1);have z2:=Y4.row.frozen (q*3+2);have hGl:=Y.out.row.lt;have Y5:=Y4.set A.out.1 hlt (x:=u) (a':=a4) (c':=c4) (t4.mono (fun k hk _=>by have:=B1.size;simp at hk;omega))
         have Z:Hid (∃ l':List (TT n),l'.length=q+1∧(∀ (j:Nat) x,j<q+1→l[j]?=some x→x.ren m nm=l'[j]?)∧RnX w (((w4.setCell ⟨G,q*3,none⟩ (.int .i64 u.kind)).setCell ⟨G,q*3+1,none⟩ (.int .i64 u.r)).setCell ⟨G,q*3+2,none⟩ (.slice a4 u.len c4)) k r (some ⟨g,o,none⟩) l.length c G l'):=by
          refine⟨l'++[u],by simp[A.out.1],fun j y hj hy=>?_,Y5⟩
          by_cases e:j=q
          ·subst e;rw[hx'.out] at hy
           cases hy
           rw[hxr,List.getElem?_append_right (by have:=A.out.1;omega),A.out.1,Nat.sub_self]
           rfl
          ·rw[List.getElem?_append_left (by have:=A.out.1;omega)]
           exact A.out.2 j y (by omega) hy
         clear Y5 Y4 b4 B1 hxr A Y P0 P1 hq3 t4 hx' hGl;generalize u.kind=ku at Z ⊢;generalize u.r=ru at Z ⊢;generalize u.len=lu at Z ⊢;go_wp2
         go_roundw
         case rel=>exact⟨q+1,by omega,by go_num,Z.out⟩
         case measure=>simp[intOf];omega
      ·have hk1:¬ (q:Int)<l.length:=by omega
       have hl'l:l'.length=l.length:=by have:=A.out.1;omega
       have hres:res=some (mkT k r' l'):=P2.out r' l' HR.out (Qar.2 ⟨hl'l,fun i x hx=>A.out.2 i x (by have:=(Zi hx).1;omega) hx⟩);subst hres;have e0:wr.cell? ⟨w.heap.size,0,none⟩=some (.int .i64 k):=Qb Y.out.bx.box 0 _ rfl;have g0:=Qb Y.out.bx.res 0 _ rfl;have g1:=Qb Y.out.bx.res 1 _ rfl;have g2:=Qb Y.out.bx.res 2 _ rfl;have y0:=Qp Y.out.bx.res 0;have y1:=Qp Y.out.bx.res 1;have y2:=Qp Y.out.bx.res 2;have D:=Y.out.bx.stored k r' (some ⟨G,0,none⟩) l.length l.length;have x0:=Qb D.1 0 _ rfl;have x1:=Qb D.1 1 _ rfl;have x2:=Qb D.1 2 _ rfl;have hGb:=Y.out.hG
       have O:Hid (Qcr w (((wr.setCell ⟨w.heap.size+1,0,none⟩ (.int .i64 k)).setCell ⟨w.heap.size+1,1,none⟩ (.int .i64 r')).setCell ⟨w.heap.size+1,2,none⟩ (.slice (some ⟨G,0,none⟩) l.length l.length)) (some (mkT k r' l')) (.returned (.tuple #[.agg #[.int .i64 k,.int .i64 r',.slice (some ⟨G,0,none⟩) l.length l.length],.bool true]))):=by
        refine⟨some ⟨G,0,none⟩,l.length,?_,?_,D.2⟩
        ·show _=Ending.returned (.tuple #[.agg #[.int .i64 k,.int .i64 r',.slice (some ⟨G,0,none⟩) l'.length l.length],.bool true]);rw[hl'l]
        ·have:=((Y.out.row.lin.setCell (p:=⟨w.heap.size+1,0,none⟩) (by simp;omega) (.int .i64 k)).setCell (p:=⟨w.heap.size+1,1,none⟩) (by simp;omega) (.int .i64 r')).setCell (p:=⟨w.heap.size+1,2,none⟩) (by simp;omega) (.slice (some ⟨G,0,none⟩) l.length l.length)
         exact(LIn.tree this).mono (fun k hk _=>by omega)
       clear D A Y P0 P1 P2 hl'l;go_wp2_with fail
       exact bodyPost_ret (v:=.tuple #[.agg #[.int .i64 k,.int .i64 r',.slice (some ⟨G,0,none⟩) l.length l.length],.bool true]) (by simp[results,results202,go_sem,x0,x1,x2]) rfl O.out
structure RdX (w wr:World) (k r:Int) (a:Option Addr) (len c:Nat) (r':Int) (v:Value){n:Nat}(l:List (TT n)) (xs:List Value):Prop where
 bx:Bx2 w wr k r a len c
 u:wr.heap[w.heap.size+2]?=some (.cells #[.int .i64 k,.int .i64 r',v] 79 (0,0))
 row:Qcw wr (w.heap.size+3) v l xs
section
variable {w wr w':World}{k r r':Int}{a:Option Addr}{len c n:Nat}{v:Value}{l:List (TT n)}{xs:List Value}
theorem RdX.start (w:World) (k r:Int) (a:Option Addr) (len c:Nat) (r':Int):RdX w (((w.alloc (.cells #[.int .i64 k,.int .i64 r,.slice a len c] 79)).alloc (.cells #[.int .i64 0,.int .i64 0,.slice none 0 0] 79)).alloc (.cells #[.int .i64 k,.int .i64 r',.slice none 0 0] 79)) k r a len c r' (.slice none 0 0) ([]:List (TT n)) [] :=
 ⟨(Bx2.start w k r a len c).below (Zr.alloc Ze _),by have:=Qe ((w.alloc (.cells #[.int .i64 k,.int .i64 r,.slice a len c] 79)).alloc (.cells #[.int .i64 0,.int .i64 0,.slice none 0 0] 79)) #[.int .i64 k,.int .i64 r',.slice none 0 0] 79;simpa using this,Qcw.nil _ _⟩
theorem RdX.below (h:RdX w wr k r a len c r' v l xs) (b:Below wr.heap.size wr w'):RdX w w' k r a len c r' v l xs:=⟨h.bx.below b,QaA h.u b,h.row.below b⟩
theorem Qcw.setOther (h:Qcw w' (w.heap.size+3) v l xs) (i:Nat) (y:Value):Qcw (w'.setCell ⟨w.heap.size+2,i,none⟩ y) (w.heap.size+3) v l xs:=by
 obtain⟨⟨h1,h2⟩,h3⟩:=h
 refine⟨⟨h1,?_⟩,fun i x hx=>?_⟩
 ·rcases h2 with h4 | ⟨g,cap,cur,e,hg,hh,r⟩
  ·exact Or.inl h4
  ·exact Or.inr ⟨g,cap,cur,e,hg,(Below.heap_setCell _ _ _ _ (by simp;omega)).trans hh,r⟩
 ·obtain⟨a,c,q0,q1,q2,q3⟩:=h3 i x hx
  exact⟨a,c,q0,q1,q2,q3.setCell (fun hk=>by have:=hk.1;simp at this) _⟩
theorem RdX.push (h:RdX w wr k r a len c r' v l xs){x:TT n}{a':Option Addr}{c':Nat}(hx:TIn wr (But (w.heap.size+3) v) x a')
 {g cap:Nat} (hg:wr.grownBy w' v.ownBlock) (hat:v.ownBlock=some g∨g=wr.heap.size)
 (ho:w'.ownsRow (w.heap.size+3) 79 3 (.slice (some ⟨g,0,none⟩) (l.length+1) cap) (l.length+1) (xs++[.int .i64 x.kind,.int .i64 x.r,.slice a' x.len c'])) :
 w'.heap[w.heap.size+2]?=some (.cells #[.int .i64 k,.int .i64 r',v] 79 (0,0)) ∧
 RdX w (w'.setCell ⟨w.heap.size+2,2,none⟩ (.slice (some ⟨g,0,none⟩) (l.length+1) cap)) k r a len c r' (.slice (some ⟨g,0,none⟩) (l.length+1) cap) (l++[x]) (xs++[.int .i64 x.kind,.int .i64 x.r,.slice a' x.len c']):=by
 have kp:∀ i,i<w.heap.size+3→i<wr.heap.size→w'.heap[i]?=wr.heap[i]?:=fun i hi hl=>hg.block i hl (fun e=>by have:=(h.row.lo_le e.symm).1;omega);have u':=(kp (w.heap.size+2) (by omega) (lt_of_block h.u)).trans h.u;have hb':Below w.heap.size w w':=h.bx.bel.grown hg h.bx.bel.size (fun i e=>by have:=(h.row.lo_le e).1;omega);refine⟨u',⟨⟨hb'.setCell (by simp) _,?_,?_⟩,?_,Qcw.setOther (h.row.push hx hg hat ho) 2 _⟩⟩
 ·exact(Below.heap_setCell _ _ _ _ (by simp)).trans ((kp _ (by omega) (lt_of_block h.bx.box)).trans h.bx.box)
 ·exact(Below.heap_setCell _ _ _ _ (by simp)).trans ((kp _ (by omega) (lt_of_block h.bx.res)).trans h.bx.res)
 ·have:=Qo u' 2 (.slice (some ⟨g,0,none⟩) (l.length+1) cap)
  simpa using this
end
theorem Qcq {w wr:World}{b:Nat}{x:Obj}(h:wr.heap[b]?=some x∧Below w.heap.size w wr) (o:Obj):(wr.alloc o).heap[b]?=some x∧Below w.heap.size w (wr.alloc o) :=
 ⟨(Below.heap_alloc _ _ _ (lt_of_block h.1)).trans h.1,h.2.alloc h.2.size _⟩
theorem Qjy (w:World) (o:Obj) (p q r:Value):∀ j u,[p,q,r][j]?=some u→((w.alloc o).alloc (.cells #[p,q,r] 79)).cell? ((⟨w.heap.size+1,0,none⟩:Addr).add j)=some u:=by
 have:=QkN (w.alloc o) p q r
 simpa using this
theorem renamedT_any:∀ n,Qjp 129 n:=by
 intro n
 induction n with
 | zero=>intro t;exact Empty.elim t
 | succ n ih =>
   intro t a c b m d nm w ht hct hto0;have IH:Hid (Qjp 129 n):=ih;have hto:Hid (Qgv w b m nm):=hto0;have hT:Hid (LIn w All t.2.2 a):=ht.list;have hco:Hid (∀ x∈t.2.2,x.count≤2000):=fun x hx=>by have:=t.count_kid hx;omega
   have hlen:t.2.2.length≤2000:=by have:=t.len_lt_count;rw[t.len_eq] at this;omega
   have P0:Hid (Qap m nm t.kind t.r=none→t.ren m nm=none):=Qcl;have P1:Hid (Qcj (TT.ren m nm) t.2.2=none→t.ren m nm=none):=Qcs;have P2:Hid (∀ r' l',Qap m nm t.kind t.r=some r'→Qcj (TT.ren m nm) t.2.2=some l'→t.ren m nm=some (mkT t.kind r' l')):=fun r' l' h1 h2=>Qbs h1 h2;generalize t.ren m nm=res at P0 P1 P2 ⊢;simp only[Tv,TT.len_eq]
   generalize t.2.2=l at hT hco hlen P1 P2 ⊢;generalize t.kind=k at P0 P2 ⊢;generalize t.r=r at P0 P2 ⊢;clear ht hct hto0 ih t;obtain⟨i0,hi,hz0,hz1,hz2⟩:=infoT_parts
   by_cases hk:k=1
   ·subst hk;have HR:Hid (Qap m nm 1 r=some r):=by show _=_;simp[Qap]
    go_enter func129,ntmps129
    go_wp2_with fail
    have X0:=RdX.start (n:=n) w 1 r a l.length c r;generalize ((w.alloc (.cells #[.int .i64 1,.int .i64 r,.slice a l.length c] 79)).alloc (.cells #[.int .i64 0,.int .i64 0,.slice none 0 0] 79)).alloc (.cells #[.int .i64 1,.int .i64 r,.slice none 0 0] 79)=w1 at X0 ⊢;have Y0:Hid (RdX w w1 1 r a l.length c r (.slice none 0 0) ([]:List (TT n)) []):=X0;clear X0;go_loopw [7] (fun i wr=>∃ q:Nat,q≤l.length∧i=.int .i64 q∧∃ (v:Value) (l':List (TT n)) (xs:List Value),l'.length=q∧(∀ (j:Nat) x,j<q→l[j]?=some x→x.ren m nm=l'[j]?)∧RdX w wr 1 r a l.length c r v l' xs) (fun i _=>l.length - (intOf i).toNat)
    case atStart=>exact⟨0,Nat.zero_le _,rfl,_,[],[],rfl,fun j x hj=>by omega,Y0.out⟩
    case round =>
     clear Y0;obtain⟨q,hq,rfl,v,l',xs,hl',hall,hY⟩:=hrel
     have A:Hid (l'.length=q∧∀ (j:Nat) x,j<q→l[j]?=some x→x.ren m nm=l'[j]?):=⟨hl',hall⟩;have Y:Hid (RdX w wr 1 r a l.length c r v l' xs):=hY;clear hl' hall hY;have e2:wr.cell? ⟨w.heap.size,2,none⟩=some (.slice a l.length c):=Qb Y.out.bx.box 2 _ rfl;by_cases hlt:q<l.length
     ·have hx:l[q]?=some l[q]:=Zg hlt;generalize l[q]=x at hx;obtain⟨g,o,a',c',rfl,_,d0,d1,d2,hk⟩:=LIn.at (hT.out.below Y.out.bx.bel) hx
      have hx':Hid (l[q]?=some x):=hx
      have C:Hid (Calls prog 129 #[Tv x a' c',.slice b m d] wr fun e w'=>Qcr wr w' (x.ren m nm) e) :=
       IH.out x a' c' b m d nm wr hk (hco.out x (Zm hx)) (hto.out.below Y.out.bx.bel)
      clear hk hx;simp only[Tv] at C
      generalize x.kind=kx at C d0;generalize x.r=rx at C d1;generalize x.len=lx at C d2;have hk0:(0:Int)≤q:=by omega
      have hk1:(q:Int)<l.length:=by omega
      have hk2:(q:Int)<2000:=by omega
      go_wp2_with fail
      refine C.out.mono ?_;rintro e w4 h4;clear C d0 d1 d2 e2
      cases hxr:x.ren m nm with
      | none =>
        rw[hxr] at h4
        obtain⟨rfl,b4⟩:=h4
        have hres:res=none:=P1.out (QbO hx'.out hxr);subst hres;have Y4:=Y.out.below b4;have hsz:w.heap.size+1<w4.heap.size:=lt_of_block Y4.bx.res;have D:=Qcq (Y4.bx.stored 0 0 none 0 0) (.cells #[.int .i64 0,.int .i64 0,.slice none 0 0] 79);have DD:Hid (Below w.heap.size w _):=D.2;have g0:=Qb Y4.bx.res 0 _ rfl;have g1:=Qb Y4.bx.res 1 _ rfl;have g2:=Qb Y4.bx.res 2 _ rfl;have y0:=Qp Y4.bx.res 0;have y1:=Qp Y4.bx.res 1;have y2:=Qp Y4.bx.res 2;have x0:=Qb D.1 0 _ rfl;have x1:=Qb D.1 1 _ rfl;have x2:=Qb D.1 2 _ rfl;clear D Y4 b4 hxr A Y P0 P1 P2;go_wp2_with fail
        exact bodyPost_ret (v:=.tuple #[zeroT,.bool false]) (by simp[results,results129,go_sem,x0,x1,x2]) rfl ⟨rfl,DD.out⟩
      | some u =>
        rw[hxr] at h4
        obtain⟨a4,c4,rfl,t4,b4⟩:=h4
        simp only[Tv]
        have Y4:=Y.out.below b4;have hsz:w.heap.size+2<w4.heap.size:=lt_of_block Y4.u;have hv:w4.cell? ⟨w.heap.size+2,2,none⟩=some v:=Qb Y4.u 2 _ rfl;have hlq:=A.out.1;have hown:=Y4.row.own;rw[hlq] at hown
        have T4:TIn w4 (But (w.heap.size+3) v) u a4:=t4.mono (fun k hk _=>⟨by have:=lt_of_block Y.out.u;have hk':wr.heap.size≤k:=hk;omega,fun e=>by have:=(Y.out.row.lo_le e).2;have hk':wr.heap.size≤k:=hk;omega⟩)
        have PU:Hid (∀ g2 cap2 w9,w9.ownsRow (w.heap.size+3) 79 3 (.slice (some ⟨g2,0,none⟩) (q+1) cap2) (q+1) (xs++[.int .i64 u.kind,.int .i64 u.r,.slice a4 u.len c4])→((w4.alloc (.cells #[.int .i64 u.kind,.int .i64 u.r,.slice a4 u.len c4] 79)).alloc (.cells #[.int .i64 u.kind,.int .i64 u.r,.slice a4 u.len c4] 79)).grownBy w9 v.ownBlock→(v.ownBlock=some g2∨g2=w4.heap.size+1+1) →
         (w9.cell? ⟨w.heap.size+2,2,none⟩=some v∧w9.frozen? ⟨w.heap.size+2,2,none⟩=false) ∧
         ∃ (v:Value) (l':List (TT n)) (xs:List Value),v=.slice (some ⟨g2,0,none⟩) (q+1) cap2∧l'.length=q+1∧(∀ (j:Nat) x,j<q+1→l[j]?=some x→x.ren m nm=l'[j]?)∧RdX w (w9.setCell ⟨w.heap.size+2,2,none⟩ v) 1 r (some ⟨g,o,none⟩) l.length c r v l' xs):=by
         intro g2 cap2 w9 h1 h2 h3;have b5:Below w4.heap.size w4 ((w4.alloc (.cells #[.int .i64 u.kind,.int .i64 u.r,.slice a4 u.len c4] 79)).alloc (.cells #[.int .i64 u.kind,.int .i64 u.r,.slice a4 u.len c4] 79)):=((Below.refl _ w4).alloc Ze _).alloc (by simp) _
         have:=(Y4.below b5).push (x:=u) (a':=a4) (c':=c4) (cap:=cap2) (g:=g2) (T4.below b5) h2 (by simpa using h3) (by rw[hlq];exact h1)
         rw[hlq] at this
         refine⟨⟨Qb this.1 2 _ rfl,Qp this.1 2⟩,_,_,_,rfl,?_,fun j y hj hy=>?_,this.2⟩
         ·simp[hlq]
         ·by_cases e:j=q
          ·subst e;rw[hx'.out] at hy
           cases hy
           rw[hxr,List.getElem?_append_right (by omega),hlq,Nat.sub_self]
           rfl
          ·rw[List.getElem?_append_left (by omega)]
           exact A.out.2 j y (by omega) hy
        clear Y4 b4 hxr A Y P0 P1 t4 T4 hx' hlq;generalize u.kind=ku at PU ⊢;generalize u.r=ru at PU ⊢;generalize u.len=lu at PU ⊢;go_wp2_with (at_builtin;refine wpList_append_lies _ rfl (.tmp 63) (.tmp 65) 52 rfl (w.heap.size+3) 79 i0 (.agg #[.int .i64 0,.int .i64 0,.slice none 0 0]) 3 40 underTs hi hz0 hz1 hz2 rfl (by decide) _ _ _ rfl ((hown.alloc _).alloc _) ⟨w4.heap.size+1,0,none⟩ 1 1 [.int .i64 ku,.int .i64 ru,.slice a4 lu c4] rfl rfl (Qjy _ _ _ _ _) (Qlj _ _ _ _ _) (by decide) (by unfold maxLen;omega) (by omega) (by simp;omega) (w4.heap.size+1+1) (by simp) ?_)
        intro g2 cap2 w9 h1 hgrow hat hlt1;obtain⟨⟨s1,s2⟩,U2⟩:=PU.out g2 cap2 w9 h1 hgrow hat
        obtain⟨_,l2,xs2,rfl,U3⟩:=U2
        have U4:Hid _:=U3;clear h1 hgrow hat hlt1 hown PU hv U3;go_wp2
        go_roundw
        case rel=>exact⟨q+1,by omega,by go_num,_,l2,xs2,U4.out⟩
        case measure=>simp[intOf];omega
     ·have hk1:¬ (q:Int)<l.length:=by omega
      have hl'l:l'.length=l.length:=by have:=A.out.1;omega
      have hres:res=some (mkT 1 r l'):=P2.out r l' HR.out (Qar.2 ⟨hl'l,fun i x hx=>A.out.2 i x (by have:=(Zi hx).1;omega) hx⟩);subst hres;obtain⟨a5,c5,rfl,L5⟩:=Y.out.row.lin
      rw[hl'l] at Y
      have u0:wr.cell? ⟨w.heap.size+2,0,none⟩=some (.int .i64 1):=Qb Y.out.u 0 _ rfl;have u1:wr.cell? ⟨w.heap.size+2,1,none⟩=some (.int .i64 r):=Qb Y.out.u 1 _ rfl;have u2:wr.cell? ⟨w.heap.size+2,2,none⟩=some (.slice a5 l.length c5):=Qb Y.out.u 2 _ rfl;have g0:=Qb Y.out.bx.res 0 _ rfl;have g1:=Qb Y.out.bx.res 1 _ rfl;have g2:=Qb Y.out.bx.res 2 _ rfl;have y0:=Qp Y.out.bx.res 0;have y1:=Qp Y.out.bx.res 1;have y2:=Qp Y.out.bx.res 2;have D:=Y.out.bx.stored 1 r a5 l.length c5;have x0:=Qb D.1 0 _ rfl;have x1:=Qb D.1 1 _ rfl;have x2:=Qb D.1 2 _ rfl
      have O:Hid (Qcr w (((wr.setCell ⟨w.heap.size+1,0,none⟩ (.int .i64 1)).setCell ⟨w.heap.size+1,1,none⟩ (.int .i64 r)).setCell ⟨w.heap.size+1,2,none⟩ (.slice a5 l.length c5)) (some (mkT 1 r l')) (.returned (.tuple #[.agg #[.int .i64 1,.int .i64 r,.slice a5 l.length c5],.bool true]))):=by
       refine⟨a5,c5,?_,?_,D.2⟩
       ·show _=Ending.returned (.tuple #[.agg #[.int .i64 1,.int .i64 r,.slice a5 l'.length c5],.bool true]);rw[hl'l]
       ·have:=((L5.setCell (p:=⟨w.heap.size+1,0,none⟩) (by simp) (.int .i64 1)).setCell (p:=⟨w.heap.size+1,1,none⟩) (by simp) (.int .i64 r)).setCell (p:=⟨w.heap.size+1,2,none⟩) (by simp) (.slice a5 l.length c5)
        exact(LIn.tree this).mono (fun k hk _=>by omega)
      clear D A Y P0 P1 P2 hl'l L5;go_wp2_with fail
      exact bodyPost_ret (v:=.tuple #[.agg #[.int .i64 1,.int .i64 r,.slice a5 l.length c5],.bool true]) (by simp[results,results129,go_sem,x0,x1,x2]) rfl O.out
   ·have hk':(k != 1)=true:=by simpa using hk
    rcases (show r<0∨(0≤r∧(m:Int)≤r)∨(0≤r∧r<m) by omega) with h1 | ⟨h1,h2⟩|⟨h1,h2⟩
    ·obtain rfl:=P0.out (show Qap m nm k r=none by unfold Qap;rw[if_neg hk,if_pos (Or.inl h1)]);clear hk P0 P1 P2;go_enter func129,ntmps129
     go_wp2_with fail
     exact bodyPost_ret (v:=.tuple #[zeroT,.bool false]) (by simp[results,results129,go_sem]) rfl ⟨rfl,(((Below.refl _ w).alloc Ze _).alloc (by simp) _).alloc (by simp;omega) _⟩
    ·obtain rfl:=P0.out (show Qap m nm k r=none by unfold Qap;rw[if_neg hk,if_pos (Or.inr h2)]);clear hk P0 P1 P2;have h3:¬ r<0:=by omega
     go_enter func129,ntmps129
     go_wp2_with fail
     exact bodyPost_ret (v:=.tuple #[zeroT,.bool false]) (by simp[results,results129,go_sem]) rfl ⟨rfl,(((Below.refl _ w).alloc Ze _).alloc (by simp) _).alloc (by simp;omega) _⟩
    ·obtain⟨j,rfl⟩:=Int.eq_ofNat_of_zero_le h1
     obtain⟨gb,ob,rfl,hc⟩:=hto.out j (by omega)
     have hgb:gb<w.heap.size:=World.block_lt_of_cell? w ⟨gb,ob+j,none⟩ hc
     have hcc:∀ o1 o2 o3,(((w.alloc o1).alloc o2).alloc o3).cell? ⟨gb,ob+j,none⟩=some (.int .i64 (nm j)):=fun o1 o2 o3 =>
      (((((Below.refl _ w).alloc Ze o1).alloc (by simp) o2).alloc (by simp;omega) o3).cell (p:=⟨gb,ob+j,none⟩) hgb).trans hc
     have h3:¬ (j:Int)<0:=by omega
     have h4:¬ (m:Int)≤j:=by omega
     by_cases hn:nm j<0
     ·obtain rfl:=P0.out (show Qap m nm k j=none by unfold Qap;rw[if_neg hk,if_neg (by omega),if_pos (by simpa using hn)]);clear hk P0 P1 P2;generalize nm j=z at hc hn hcc;go_enter func129,ntmps129
      go_wp2_with fail
      exact bodyPost_ret (v:=.tuple #[zeroT,.bool false]) (by simp[results,results129,go_sem]) rfl ⟨rfl,(((Below.refl _ w).alloc Ze _).alloc (by simp) _).alloc (by simp;omega) _⟩
     ·have HR:Hid (Qap m nm k j=some (nm j)):=by show _=_;unfold Qap;rw[if_neg hk,if_neg (by omega),if_neg (by simpa using hn)];rfl
      clear hk P0;have P0:Hid True:=trivial;generalize nm j=z at hc hn HR hcc;go_enter func129,ntmps129
      go_wp2_with fail
      clear hcc hc hn h1 h2 h3 h4 hgb;have X0:=RdX.start (n:=n) w k j a l.length c z;generalize ((w.alloc (.cells #[.int .i64 k,.int .i64 j,.slice a l.length c] 79)).alloc (.cells #[.int .i64 0,.int .i64 0,.slice none 0 0] 79)).alloc (.cells #[.int .i64 k,.int .i64 z,.slice none 0 0] 79)=w1 at X0 ⊢;have Y0:Hid (RdX w w1 k j a l.length c z (.slice none 0 0) ([]:List (TT n)) []):=X0;clear X0;go_loopw [7] (fun i wr=>∃ q:Nat,q≤l.length∧i=.int .i64 q∧∃ (v:Value) (l':List (TT n)) (xs:List Value),l'.length=q∧(∀ (j:Nat) x,j<q→l[j]?=some x→x.ren m nm=l'[j]?)∧RdX w wr k j a l.length c z v l' xs) (fun i _=>l.length - (intOf i).toNat)
      case atStart=>exact⟨0,Nat.zero_le _,rfl,_,[],[],rfl,fun j x hj=>by omega,Y0.out⟩
      case round =>
       clear Y0;obtain⟨q,hq,rfl,v,l',xs,hl',hall,hY⟩:=hrel
       have A:Hid (l'.length=q∧∀ (j:Nat) x,j<q→l[j]?=some x→x.ren m nm=l'[j]?):=⟨hl',hall⟩;have Y:Hid (RdX w wr k j a l.length c z v l' xs):=hY;clear hl' hall hY;have e2:wr.cell? ⟨w.heap.size,2,none⟩=some (.slice a l.length c):=Qb Y.out.bx.box 2 _ rfl;by_cases hlt:q<l.length
       ·have hx:l[q]?=some l[q]:=Zg hlt;generalize l[q]=x at hx;obtain⟨g,o,a',c',rfl,_,d0,d1,d2,hk⟩:=LIn.at (hT.out.below Y.out.bx.bel) hx
        have hx':Hid (l[q]?=some x):=hx
        have C:Hid (Calls prog 129 #[Tv x a' c',.slice (some ⟨gb,ob,none⟩) m d] wr fun e w'=>Qcr wr w' (x.ren m nm) e) :=
         IH.out x a' c' (some ⟨gb,ob,none⟩) m d nm wr hk (hco.out x (Zm hx)) (hto.out.below Y.out.bx.bel)
        clear hk hx;simp only[Tv] at C
        generalize x.kind=kx at C d0;generalize x.r=rx at C d1;generalize x.len=lx at C d2;have hk0:(0:Int)≤q:=by omega
        have hk1:(q:Int)<l.length:=by omega
        have hk2:(q:Int)<2000:=by omega
        go_wp2_with fail
        refine C.out.mono ?_;rintro e w4 h4;clear C d0 d1 d2 e2
        cases hxr:x.ren m nm with
        | none =>
          rw[hxr] at h4
          obtain⟨rfl,b4⟩:=h4
          have hres:res=none:=P1.out (QbO hx'.out hxr);subst hres;have Y4:=Y.out.below b4;have hsz:w.heap.size+1<w4.heap.size:=lt_of_block Y4.bx.res;have D:=Qcq (Y4.bx.stored 0 0 none 0 0) (.cells #[.int .i64 0,.int .i64 0,.slice none 0 0] 79);have DD:Hid (Below w.heap.size w _):=D.2;have g0:=Qb Y4.bx.res 0 _ rfl;have g1:=Qb Y4.bx.res 1 _ rfl;have g2:=Qb Y4.bx.res 2 _ rfl;have y0:=Qp Y4.bx.res 0;have y1:=Qp Y4.bx.res 1;have y2:=Qp Y4.bx.res 2;have x0:=Qb D.1 0 _ rfl;have x1:=Qb D.1 1 _ rfl;have x2:=Qb D.1 2 _ rfl;clear D Y4 b4 hxr A Y P0 P1 P2;go_wp2_with fail
          exact bodyPost_ret (v:=.tuple #[zeroT,.bool false]) (by simp[results,results129,go_sem,x0,x1,x2]) rfl ⟨rfl,DD.out⟩
        | some u =>
          rw[hxr] at h4
          obtain⟨a4,c4,rfl,t4,b4⟩:=h4
          simp only[Tv]
          have Y4:=Y.out.below b4;have hsz:w.heap.size+2<w4.heap.size:=lt_of_block Y4.u;have hv:w4.cell? ⟨w.heap.size+2,2,none⟩=some v:=Qb Y4.u 2 _ rfl;have hlq:=A.out.1;have hown:=Y4.row.own;rw[hlq] at hown
          have T4:TIn w4 (But (w.heap.size+3) v) u a4:=t4.mono (fun k hk _=>⟨by have:=lt_of_block Y.out.u;have hk':wr.heap.size≤k:=hk;omega,fun e=>by have:=(Y.out.row.lo_le e).2;have hk':wr.heap.size≤k:=hk;omega⟩)
          have PU:Hid (∀ g2 cap2 w9,w9.ownsRow (w.heap.size+3) 79 3 (.slice (some ⟨g2,0,none⟩) (q+1) cap2) (q+1) (xs++[.int .i64 u.kind,.int .i64 u.r,.slice a4 u.len c4])→((w4.alloc (.cells #[.int .i64 u.kind,.int .i64 u.r,.slice a4 u.len c4] 79)).alloc (.cells #[.int .i64 u.kind,.int .i64 u.r,.slice a4 u.len c4] 79)).grownBy w9 v.ownBlock→(v.ownBlock=some g2∨g2=w4.heap.size+1+1) →
           (w9.cell? ⟨w.heap.size+2,2,none⟩=some v∧w9.frozen? ⟨w.heap.size+2,2,none⟩=false) ∧
           ∃ (v:Value) (l':List (TT n)) (xs:List Value),v=.slice (some ⟨g2,0,none⟩) (q+1) cap2∧l'.length=q+1∧(∀ (j:Nat) x,j<q+1→l[j]?=some x→x.ren m nm=l'[j]?)∧RdX w (w9.setCell ⟨w.heap.size+2,2,none⟩ v) k j (some ⟨g,o,none⟩) l.length c z v l' xs):=by
           intro g2 cap2 w9 h1 h2 h3;have b5:Below w4.heap.size w4 ((w4.alloc (.cells #[.int .i64 u.kind,.int .i64 u.r,.slice a4 u.len c4] 79)).alloc (.cells #[.int .i64 u.kind,.int .i64 u.r,.slice a4 u.len c4] 79)):=((Below.refl _ w4).alloc Ze _).alloc (by simp) _
           have:=(Y4.below b5).push (x:=u) (a':=a4) (c':=c4) (cap:=cap2) (g:=g2) (T4.below b5) h2 (by simpa using h3) (by rw[hlq];exact h1)
           rw[hlq] at this
           refine⟨⟨Qb this.1 2 _ rfl,Qp this.1 2⟩,_,_,_,rfl,?_,fun j y hj hy=>?_,this.2⟩
           ·simp[hlq]
           ·by_cases e:j=q
            ·subst e;rw[hx'.out] at hy
             cases hy
             rw[hxr,List.getElem?_append_right (by omega),hlq,Nat.sub_self]
             rfl
            ·rw[List.getElem?_append_left (by omega)]
             exact A.out.2 j y (by omega) hy
          clear Y4 b4 hxr A Y P0 P1 t4 T4 hx' hlq;generalize u.kind=ku at PU ⊢;generalize u.r=ru at PU ⊢;generalize u.len=lu at PU ⊢;go_wp2_with (at_builtin;refine wpList_append_lies _ rfl (.tmp 63) (.tmp 65) 52 rfl (w.heap.size+3) 79 i0 (.agg #[.int .i64 0,.int .i64 0,.slice none 0 0]) 3 40 underTs hi hz0 hz1 hz2 rfl (by decide) _ _ _ rfl ((hown.alloc _).alloc _) ⟨w4.heap.size+1,0,none⟩ 1 1 [.int .i64 ku,.int .i64 ru,.slice a4 lu c4] rfl rfl (Qjy _ _ _ _ _) (Qlj _ _ _ _ _) (by decide) (by unfold maxLen;omega) (by omega) (by simp;omega) (w4.heap.size+1+1) (by simp) ?_)
          intro g2 cap2 w9 h1 hgrow hat hlt1;obtain⟨⟨s1,s2⟩,U2⟩:=PU.out g2 cap2 w9 h1 hgrow hat
          obtain⟨_,l2,xs2,rfl,U3⟩:=U2
          have U4:Hid _:=U3;clear h1 hgrow hat hlt1 hown PU hv U3;go_wp2
          go_roundw
          case rel=>exact⟨q+1,by omega,by go_num,_,l2,xs2,U4.out⟩
          case measure=>simp[intOf];omega
       ·have hk1:¬ (q:Int)<l.length:=by omega
        have hl'l:l'.length=l.length:=by have:=A.out.1;omega
        have hres:res=some (mkT k z l'):=P2.out z l' HR.out (Qar.2 ⟨hl'l,fun i x hx=>A.out.2 i x (by have:=(Zi hx).1;omega) hx⟩);subst hres;obtain⟨a5,c5,rfl,L5⟩:=Y.out.row.lin
        rw[hl'l] at Y
        have u0:wr.cell? ⟨w.heap.size+2,0,none⟩=some (.int .i64 k):=Qb Y.out.u 0 _ rfl;have u1:wr.cell? ⟨w.heap.size+2,1,none⟩=some (.int .i64 z):=Qb Y.out.u 1 _ rfl;have u2:wr.cell? ⟨w.heap.size+2,2,none⟩=some (.slice a5 l.length c5):=Qb Y.out.u 2 _ rfl;have g0:=Qb Y.out.bx.res 0 _ rfl;have g1:=Qb Y.out.bx.res 1 _ rfl;have g2:=Qb Y.out.bx.res 2 _ rfl;have y0:=Qp Y.out.bx.res 0;have y1:=Qp Y.out.bx.res 1;have y2:=Qp Y.out.bx.res 2;have D:=Y.out.bx.stored k z a5 l.length c5;have x0:=Qb D.1 0 _ rfl;have x1:=Qb D.1 1 _ rfl;have x2:=Qb D.1 2 _ rfl
        have O:Hid (Qcr w (((wr.setCell ⟨w.heap.size+1,0,none⟩ (.int .i64 k)).setCell ⟨w.heap.size+1,1,none⟩ (.int .i64 z)).setCell ⟨w.heap.size+1,2,none⟩ (.slice a5 l.length c5)) (some (mkT k z l')) (.returned (.tuple #[.agg #[.int .i64 k,.int .i64 z,.slice a5 l.length c5],.bool true]))):=by
         refine⟨a5,c5,?_,?_,D.2⟩
         ·show _=Ending.returned (.tuple #[.agg #[.int .i64 k,.int .i64 z,.slice a5 l'.length c5],.bool true]);rw[hl'l]
         ·have:=((L5.setCell (p:=⟨w.heap.size+1,0,none⟩) (by simp) (.int .i64 k)).setCell (p:=⟨w.heap.size+1,1,none⟩) (by simp) (.int .i64 z)).setCell (p:=⟨w.heap.size+1,2,none⟩) (by simp) (.slice a5 l.length c5)
          exact(LIn.tree this).mono (fun k hk _=>by omega)
        clear D A Y P0 P1 P2 hl'l L5;go_wp2_with fail
        exact bodyPost_ret (v:=.tuple #[.agg #[.int .i64 k,.int .i64 z,.slice a5 l.length c5],.bool true]) (by simp[results,results129,go_sem,x0,x1,x2]) rfl O.out
def firstI:List Int→Int
 | []=>0
 | x::xs=>if x=0 then firstI xs else x
theorem Qfz {l:List Int}{k:Nat}{x:Int}(hx:l[k]?=some x):firstI (l.drop k)=if x=0 then firstI (l.drop (k+1)) else x:=by
 obtain⟨hk,e⟩:=Zi hx
 rw[List.drop_eq_getElem_cons hk,e,firstI]
theorem QgQ {w:World}{Q:Nat→Prop}{l:List Int}{a:Option Addr}{N c:Nat}(hN:l.length=N) (hN2:N≤100000) (hl:intsL.In w Q l [.slice a N c]) :
 Calls prog 126 #[.slice a N c] w fun e w'=>e=.returned (.int .i64 (firstI l))∧w'=w:=by
 have HX:Hid (∀ i x,l[i]?=some x→∃ g o,a=some ⟨g,o,none⟩∧w.cell? ⟨g,o+i,none⟩=some (.int .i64 x)):=fun i x hi=>by
  obtain⟨g,o,ds,e1,e2,e3,hc,hd,hr⟩:=Lay.list_at hl hi
  have hd':ds=[.int .i64 x]:=hd;subst hd';refine⟨g,o,e1,?_⟩
  have:=hc 0 (by decide)
  simpa[Lay.int] using this
 have HN:Hid (l.length=N):=hN;clear hl hN;go_enter func126,ntmps126
 go_wp2
 go_loop [3] (fun i=>∃ k:Nat,k≤N∧i=.int .i64 k∧firstI l=firstI (l.drop k)) (fun i=>N - (intOf i).toNat)
 case atStart=>exact⟨0,Nat.zero_le _,rfl,rfl⟩
 case round =>
  obtain⟨k,hk,rfl,hno⟩:=hrel
  have HO:Hid (firstI l=firstI (l.drop k)):=hno;clear hno;by_cases hlt:k<N
  ·have hxi:l[k]?=some (l[k]'(by rw[HN.out];exact hlt)):=Zg _;generalize l[k]'(by rw[HN.out];exact hlt)=y at hxi;obtain⟨g,o,rfl,yc⟩:=HX.out k y hxi
   have hlt':(k:Int)<N:=by omega
   have hst:=Qfz hxi;by_cases he:y=0
   ·have N1:Hid (firstI l=firstI (l.drop (k+1))):=by
     show _=_;rw[HO.out,hst,if_pos he]
    have he':(y==0)=true:=by simpa using he
    clear he hxi hst;go_wp2
    go_round
    case rel=>exact⟨k+1,by omega,by go_num,N1.out⟩
    case measure=>simp[intOf];omega
   ·have E:Hid (firstI l=y):=by
     show _=_;rw[HO.out,hst,if_neg he]
    have he':(y==0)=false:=by simpa using he
    clear he hxi hst;go_wp2
    go_ret;exact⟨by rw[E.out];rfl,rfl⟩
  ·have E:Hid (firstI l=0):=by
    show _=_;rw[HO.out,List.drop_of_length_le (by rw[HN.out];omega)]
    rfl
   go_wp2
   go_ret;exact⟨by rw[E.out];rfl,rfl⟩
theorem TT.ren_count {m:Nat}{too:Nat→Int}:{n:Nat}→{t u:TT n}→t.ren m too=some u→u.count=t.count
 | 0,t,_,_=>Empty.elim t
 | n+1,t,u,h=>by
   simp only[TT.ren] at h
   cases e1:Qap m too t.1 t.2.1 with
   | none=>simp[e1] at h
   | some r1 =>
     simp only[e1] at h
     cases e2:Qcj (TT.ren m too) t.2.2 with
     | none=>simp[e2] at h
     | some l1 =>
       simp only[e2] at h
       have h:=Option.some.inj h;subst h;simp only[TT.count]
       congr 2
       obtain⟨a1,a2⟩:=Qar.1 e2
       apply List.ext_getElem (by simp[a1])
       intro i h1 h2;simp at h1 h2
       have ha:=a2 i t.2.2[i] (Zg h2);rw[Zg h1] at ha
       simp[TT.ren_count ha]
def IV (w:World) (l:List Int) (v:Value):Prop:=∃ a c,v=.slice a l.length c∧intsL.In w (fun _=>True) l [.slice a l.length c]
theorem IV.below {w w':World}{l:List Int}{v:Value}(h:IV w l v) (k:Below w.heap.size w w'):IV w' l v:=by
 obtain⟨a,c,e,h⟩:=h
 exact⟨a,c,e,Lay.below h k⟩
theorem QcE {w:World}{l:List Int}{v:Value}(hl:l.length≤100000) (h:IV w l v) :
 Calls prog 126 #[v] w fun e w'=>e=.returned (.int .i64 (firstI l))∧w'=w:=by
 obtain⟨a,c,rfl,h⟩:=h
 exact QgQ rfl hl h
theorem Qgf (w:World) (t:TypeId) (l:List Int) (hl:∀ x∈l,-9223372036854775808≤x∧x≤9223372036854775807) (c:Nat):IV (w.alloc (.cells (l.map (Value.int .i64)).toArray t)) l (.slice (some ⟨w.heap.size,0,none⟩) l.length c):=by
 refine⟨_,_,rfl,some ⟨w.heap.size,0,none⟩,c,rfl,fun i x hx=>⟨w.heap.size,0,[.int .i64 x],rfl,trivial,by simp,fun j hj=>?_,?_⟩⟩
 ·have hj:j<1:=hj;have hj0:j=0:=by omega
  subst hj0
  have:=Qb (Qe w (l.map (Value.int .i64)).toArray t) i (.int .i64 x) (by simp[hx])
  simpa[Lay.int] using this
 ·exact Lay.int_mk _ _ (hl x (Zm hx))
theorem QcD (s:JSt) (k kind:Int) (held:Bool):-9223372036854775808≤s.want k kind held∧s.want k kind held≤9223372036854775807:=by
 unfold JSt.want;split
 ·omega
 ·split
  ·split<;>omega
  ·omega
theorem Qk7 {w:World}{Q:Nat→Prop}{l:List Int}{a:Option Addr}{N c:Nat}(hN:l.length=N) (h:intsL.In w Q l [.slice a N c]):Qgv w a N (fun i=>l.getD i 0):=by
 subst hN;intro i hi;obtain⟨g,o,e,_,_,hc⟩:=ZC h hi
 exact⟨g,o,e,hc⟩
def k9E (b X N lc gL nl cL lg lo k j uc vc:Nat) (u y:TT 6) (ua va:Option Addr) (q:Bool) (t:Tmp) (v:Value) (w:World):Prop :=
 v=(([(0,.pointer (some ⟨b,0,none⟩)),(1,.slice (some ⟨lg,lo,none⟩) N lc),(9,.int .i64 (k:Int)),(10,.pointer (some ⟨X,0,none⟩)),(11,.bool true),(49,.bool true),(50,.bool false),(51,.bool false),(52,.agg #[.int .i64 u.kind,.int .i64 u.r,.slice ua u.len uc]),(53,.pointer (some ⟨b,0,none⟩)),(54,.pointer (some ⟨b,0,none⟩)),(55,.pointer (some ⟨b,6,none⟩)),(56,.slice (some ⟨gL,0,none⟩) nl cL),(57,.slice (some ⟨lg,lo,none⟩) N lc),(58,.int .i64 (k:Int)),(59,.pointer (some ⟨lg,lo+k,none⟩)),(60,.int .i64 (j:Int)),(61,.pointer (some ⟨gL,j*3,none⟩)),(62,.agg #[.int .i64 y.kind,.int .i64 y.r,.slice va y.len vc]),(63,.bool q),(64,.bool (!q)),(65,.bool (!q))]:List (Tmp × Value)).lookup t).getD undef
theorem k9 {w6:World}{b X N lc gL nl cL lg lo k j uc vc:Nat}{u y:TT 6}{ua va:Option Addr}{q:Bool}{Q R:Nat→Prop}
 (x0:w6.cell? ⟨X,0,none⟩=some (.int .i64 u.kind)) (x1:w6.cell? ⟨X,1,none⟩=some (.int .i64 u.r)) (x2:w6.cell? ⟨X,2,none⟩=some (.slice ua u.len uc))
 (l0:w6.cell? ⟨b,6,none⟩=some (.slice (some ⟨gL,0,none⟩) nl cL)) (z0:w6.cell? ⟨lg,lo+k,none⟩=some (.int .i64 (j:Int)))
 (v0:w6.cell? ⟨gL,j*3,none⟩=some (.int .i64 y.kind)) (v1:w6.cell? ⟨gL,j*3+1,none⟩=some (.int .i64 y.r)) (v2:w6.cell? ⟨gL,j*3+2,none⟩=some (.slice va y.len vc))
 (hkN:(k:Int)<N) (hjn:(j:Int)<nl) (HU:Hid (TIn w6 Q u ua)) (HV:Hid (TIn w6 R y va)) (HC:Hid (u.count≤100000)) (HQ:Hid (q=true↔u=y))
 (a:Act) (m:Nat) (hn:a.tmps.size=m) (hn':66≤m) (h0:a.tmps.getD 0 undef=.pointer (some ⟨b,0,none⟩)) (h1:a.tmps.getD 1 undef=.slice (some ⟨lg,lo,none⟩) N lc) (h9:a.tmps.getD 9 undef=.int .i64 (k:Int)) (h10:a.tmps.getD 10 undef=.pointer (some ⟨X,0,none⟩)) (h11:a.tmps.getD 11 undef=.bool true) :
 Code.wp prog ((Tryz.f82.body.bind (Qj 9)).getD .skip) (fun e a' w'=>e=.normal∧∃ vs,a'=Q5 a vs [49,50,51,52,53,54,55,56,57,58,59,60,61,62,63,64,65]∧vs 65=.bool (!q)∧Below w6.heap.size w6 w') a w6:=by
 conv=>arg 2;whnf
 refine Qw (k9E b X N lc gL nl cL lg lo k j uc vc u y ua va q) (fun w=>Below w6.heap.size w6 w) (fun w w'=>Below w.heap.size w w') (outs:=[0,1,9,10,11]) (gs:=[(2,some false)]) (bs:=[true,true,true,true,true,true,true,true,true,true,true,true,true,true,true,true,true]) (by kernel_rfl) (n:=66) hn hn' (by kernel_rfl) ?hR ?hG (Qf Zr 1) ⟨h0,h1,h9,h10,h11,trivial⟩ ?hA ?hend
 case hR=>exact fun t v w w' _ h=>h
 case hG=>exact⟨fun t ht v w _ h=>by cases ht;exact h,trivial⟩
 case hend=>exact fun vs w' hW hk=>⟨rfl,vs,rfl,hk 65 (by kernel_rfl),hW⟩
 case hA =>
  iterate 10
   refine⟨fun a w hW hk K hK=>?_,?_⟩
   ·obtain⟨k0,-⟩:=hk
    conv at k0=>whnf;rhs;whnf
    have u0:=Qi x0 hW;have u1:=Qi x1 hW;have u2:=Qi x2 hW;have u3:=Qi l0 hW;go_simp;exact hK _ _ Zr hW rfl
  refine⟨fun a w hW hk K hK=>?_,?_⟩
  ·obtain⟨k0,k1,-⟩:=hk
   conv at k0=>whnf;rhs;whnf
   conv at k1=>whnf;rhs;whnf
   go_simp;exact hK _ _ Zr hW rfl
  refine⟨fun a w hW hk K hK=>?_,?_⟩
  ·obtain⟨k0,-⟩:=hk
   conv at k0=>whnf;rhs;whnf
   have u0:=Qi z0 hW;go_simp;exact hK _ _ Zr hW rfl
  refine⟨fun a w hW hk K hK=>?_,?_⟩
  ·obtain⟨k0,k1,-⟩:=hk
   conv at k0=>whnf;rhs;whnf
   conv at k1=>whnf;rhs;whnf
   go_simp;exact hK _ _ Zr hW rfl
  refine⟨fun a w hW hk K hK=>?_,?_⟩
  ·obtain⟨k0,-⟩:=hk
   conv at k0=>whnf;rhs;whnf
   have u0:=Qi v0 hW;have u1:=Qi v1 hW;have u2:=Qi v2 hW;go_simp;exact hK _ _ Zr hW rfl
  refine⟨fun a w hW hk K hK=>?_,?_⟩
  ·obtain⟨k0,k1,-⟩:=hk
   conv at k0=>whnf;rhs;whnf
   conv at k1=>whnf;rhs;whnf
   go_simp;refine(samet_any 6 u y ua va uc vc w (HU.out.below hW).all (HV.out.below hW).all HC.out).mono ?_;rintro r7 w7 ⟨⟨q7,rfl,hq7⟩,b7⟩
   have eq7:q7=q:=Bool.eq_iff_iff.2 (hq7.trans HQ.out.symm);subst eq7;go_simp;exact hK _ _ b7 (hW.trans (b7.mono hW.size)) rfl
  refine⟨fun a w hW hk K hK=>?_,?_⟩
  ·obtain⟨k0,-⟩:=hk
   conv at k0=>whnf;rhs;whnf
   go_simp;exact hK _ _ Zr hW rfl
  refine⟨fun a w hW hk K hK=>?_,?_⟩
  ·obtain⟨k0,k1,-⟩:=hk
   conv at k0=>whnf;rhs;whnf
   conv at k1=>whnf;rhs;whnf
   go_simp;exact hK _ _ Zr hW rfl
  trivial
theorem Qir {s:JSt}{l:List Int}{ts:List (TT 6)}{regs:List Int}{k:Nat}{x:Int}{t:TT 6}(hx:l[k]?=some x) (ht:ts[k]?=some t) :
 Qz (fun p:Int × TT 6=>s.arg regs p.1 p.2) ((l.zip ts).drop k)=if s.arg regs x t=0 then Qz (fun p:Int × TT 6=>s.arg regs p.1 p.2) ((l.zip ts).drop (k+1)) else s.arg regs x t:=by
 have hk:k<(l.zip ts).length:=by
  rw[List.length_zip]
  have:=(Zi hx).1
  have:=(Zi ht).1
  omega
 have e:(l.zip ts)[k]=(x,t):=by
  rw[List.getElem_zip]
  exact Prod.ext (Zi hx).2 (Zi ht).2
 rw[List.drop_eq_getElem_cons hk,e,Qz]
 by_cases h:s.arg regs x t=0
 ·rw[if_pos h,if_neg (by simpa using h)]
 ·rw[if_neg h,if_pos h]
theorem QcL {w:World}{b:Nat}{O Q1 Q2 Q3:Nat→Prop}{s:JSt}{l regs:List Int}{ts:List (TT 6)}{la ta ra:Option Addr}{N lc M tc K rc:Nat}(hN:l.length=N) (hM:ts.length=M) (hK:regs.length=K) (hN2:N≤100000) (hM2:M≤100000) (hL:s.L.length≤80)
 (hl:intsL.In w Q1 l [.slice la N lc]) (ht:(Qm 6).In w Q2 ts [.slice ta M tc]) (hr:intsL.In w Q3 regs [.slice ra K rc]) (hc:∀ t∈ts,t.count≤2000) (h:KAt w b O s) :
 Calls prog 82 #[.pointer (some ⟨b,0,none⟩),.slice la N lc,.slice ta M tc,.slice ra K rc] w fun e w'=>e=.returned (.int .i64 (s.args l ts regs))∧Below w.heap.size w w':=by
 have HN:Hid (l.length=N):=hN;have HM:Hid (ts.length=M):=hM;have HK:Hid (regs.length=K):=hK;have HL:Hid (intsL.In w Q1 l [.slice la N lc]):=hl;have HT:Hid ((Qm 6).In w Q2 ts [.slice ta M tc]):=ht;have HR:Hid (intsL.In w Q3 regs [.slice ra K rc]):=hr;have HC:Hid (∀ t∈ts,t.count≤2000):=hc;obtain⟨pm,cm,a1,c1,a2,c2,a3,c3,hh,aL,cL,R⟩:=h.read
 have HD:Hid (TRd w (fun g=>¬ O g) aL s.L):=R.row;obtain⟨-,-,-,-,-,-,q6⟩:=R.cells
 clear hN hM hK hl ht hr hc h R;by_cases hNM:N=M
 ·subst hNM;have hNM':((N:Int)==(N:Int))=true:=beq_iff_eq.2 rfl
  have EA:Hid (s.args l ts regs=Qz (fun p:Int × TT 6=>s.arg regs p.1 p.2) ((l.zip ts).drop 0)):=by
   show _=_;unfold JSt.args;rw[if_pos (by rw[HN.out,HM.out])];rfl
  go_enter func82,ntmps82
  go_wp2_with fail
  go_loopw [9] (fun i wr=>∃ k:Nat,k≤N∧i=.int .i64 k∧s.args l ts regs=Qz (fun p:Int × TT 6=>s.arg regs p.1 p.2) ((l.zip ts).drop k)∧Below w.heap.size w wr) (fun i _=>N - (intOf i).toNat)
  case atStart=>exact⟨0,Nat.zero_le _,rfl,EA.out,Zr⟩
  case round =>
   obtain⟨k,hk,rfl,hE,hB⟩:=hrel
   have HE:Hid (s.args l ts regs=Qz (fun p:Int × TT 6=>s.arg regs p.1 p.2) ((l.zip ts).drop k)):=hE;have HB:Hid (Below w.heap.size w wr):=hB;have q6':wr.cell? ⟨b,6,none⟩=some (.slice aL s.L.length cL):=Qi q6 hB;clear hE hB EA;by_cases hlt:k<N
   ·have hxi:l[k]?=some (l[k]'(by rw[HN.out];exact hlt)):=Zg _;generalize l[k]'(by rw[HN.out];exact hlt)=x at hxi;have hti:ts[k]?=some (ts[k]'(by rw[HM.out];exact hlt)):=Zg _;generalize ts[k]'(by rw[HM.out];exact hlt)=t at hti;obtain⟨lg,lo,rfl,-,-,hcx⟩:=ZC HL.out (i:=k) (by rw[HN.out];exact hlt)
    have ex:l.getD k 0=x:=by simp[List.getD,hxi]
    rw[ex] at hcx
    have z0:wr.cell? ⟨lg,lo+k,none⟩=some (.int .i64 x):=Qi hcx HB.out;have hkN:(k:Int)<N:=by omega
    have hk0:(0:Int)≤k:=by omega
    have hst:=Qir (s:=s) (regs:=regs) hxi hti;clear hcx ex;by_cases hx0:x<0
    ·have E:Hid (s.args l ts regs=1):=by
      show _=_
      have:s.arg regs x t=1:=by unfold JSt.arg JSt.at;rw[if_pos hx0]
      rw[HE.out,hst,this];rfl
     have hx0':decide (x<0)=true:=by simpa using hx0
     clear hst hxi hti;generalize s.L.length=nl at q6' hL;go_wp2_with fail
     go_quiet (fail)
     go_wp2
     go_ret;exact⟨by rw[E.out];rfl,Qf HB.out _⟩
    obtain⟨j,rfl⟩:=Int.eq_ofNat_of_zero_le (show 0≤x by omega)
    have hx0':decide ((j:Int)<0)=false:=decide_eq_false (by omega);by_cases hjL:j<s.L.length
    ·have hvj:s.L[j]?=some s.L[j]:=Zg hjL;generalize s.L[j]=v at hvj;have hat:s.at (j:Int)=some v:=by unfold JSt.at;rw[if_neg hx0];exact hvj
     obtain⟨gL,va,vc,rfl,v0,v1,v2,v3,-⟩:=(HD.out.below HB.out) j v hvj
     obtain⟨tl,hlok⟩:=QJ (Lay.below HT.out HB.out)
     obtain⟨tg,tof,ta',tc',rfl,-,t0,t1,t2,t3⟩:=LIn.at tl hti
     have hjn:(j:Int)<s.L.length:=by omega
     have hjn':decide ((s.L.length:Int)≤j)=false:=decide_eq_false (by omega);have HTI:Hid (TIn wr All t ta'):=t3.all;have HV:Hid (TIn wr (fun g=>¬ O g) v va):=v3;have hct:Hid (t.count≤2000):=HC.out t (Zm hti);have HRN:Hid (Qgv wr ra K (fun i=>regs.getD i 0)):=(Qk7 HK.out HR.out).below HB.out
     have HARG:Hid (s.arg regs (j:Int) t=if bdec (t.ren K (fun i=>regs.getD i 0)=some v) then 0 else 9):=by
      show _=_;unfold JSt.arg;rw[hat,HK.out]
     have HST:=Qa hst;clear hst hxi hti tl hlok t3 v3 hat hvj hx0;generalize s.L.length=nl at q6' hL hjL hjn hjn';go_wp2_with fail
     go_quiet (fail)
     go_wp2_with fail
     refine(renamedT_any 6 t ta' tc' ra K rc (fun i=>regs.getD i 0) (wr.drewN nq) (HTI.out.drewN nq) hct.out (HRN.out.below (Qf Zr nq))).mono ?_
     intro e2 w2 hO
     cases hren:t.ren K (fun i=>regs.getD i 0) with
     | none =>
       rw[hren] at hO
       obtain⟨rfl,b2⟩:=hO
       have E:Hid (s.args l ts regs=9):=by
        show _=_
        have:s.arg regs (j:Int) t=9:=by rw[HARG.out,hren,Qx (by simp)];rfl
        rw[HE.out,HST.out,this];rfl
       have B2:Hid (Below w.heap.size w w2):=(Qf HB.out nq).trans (b2.mono (by simpa using HB.out.size));clear HARG HST hren b2;go_wp2_with fail
       go_quiet (fail)
       go_wp2
       go_ret;exact⟨by rw[E.out];rfl,Qf (B2.out.alloc B2.out.size _) _⟩
     | some u =>
       rw[hren] at hO
       obtain⟨ua,uc,rfl,u1,b2⟩:=hO
       have hb2:Below wr.heap.size wr w2:=(Qf Zr nq).trans b2;have B2:Hid (Below w.heap.size w w2):=HB.out.trans (hb2.mono HB.out.size);have HU0:Hid (TIn w2 (Z2 wr.heap.size) u ua):=u1;have HV0:Hid (TIn w2 (fun g=>¬ O g) v va):=HV.out.below hb2;have HC0:Hid (u.count≤100000):=by show _≤_;rw[TT.ren_count hren];have:=hct.out;omega
       have q6b:=Qi q6' hb2;have z0b:=Qi z0 hb2;have v0b:=Qi v0 hb2;have v1b:=Qi v1 hb2;have v2b:=Qi v2 hb2;have HREN:Hid (t.ren K (fun i=>regs.getD i 0)=some u):=hren;clear hren u1 b2 hb2 q6' z0 v0 v1 v2 t0 t1 t2 HV HTI;go_upto_region 9 with fail
       obtain⟨w6,hw6⟩:∃ w6,w2.alloc (.cells #[.int .i64 u.kind,.int .i64 u.r,.slice ua u.len uc] 79)=w6:=⟨_,rfl⟩
       obtain⟨X,hX⟩:∃ X,w2.heap.size=X:=⟨_,rfl⟩
       have hblk:w6.heap[X]?=some (.cells #[.int .i64 u.kind,.int .i64 u.r,.slice ua u.len uc] 79 (0,0)):=by rw[← hw6,← hX];exact Qe _ _ _
       have hb6:Below w2.heap.size w2 w6:=by rw[← hw6];exact QN _ _
       have x0:=Qb hblk 0 _ rfl;have x1:=Qb hblk 1 _ rfl;have x2:=Qb hblk 2 _ rfl;have HU6:Hid (TIn w6 (Z2 wr.heap.size) u ua):=HU0.out.below hb6;have HV6:Hid (TIn w6 (fun g=>¬ O g) v va):=HV0.out.below hb6;have B6:Hid (Below w.heap.size w w6):=B2.out.trans (hb6.mono B2.out.size);have q6c:=Qi q6b hb6;have z0c:=Qi z0b hb6;have v0c:=Qi v0b hb6;have v1c:=Qi v1b hb6;have v2c:=Qi v2b hb6;rw[hw6,hX]
       clear hw6 hX hblk hb6 q6b z0b v0b v1b v2b HU0 HV0;have HQ:Hid (bdec (u=v)=true↔u=v):=Qaf;refine Code.wp_mono ?_ (k9 x0 x1 x2 q6c z0c v0c v1c v2c hkN hjn HU6 HV6 HC0 HQ _ _ rfl (Nat.le_of_ble_eq_true (by kernel_rfl)) rfl rfl rfl rfl rfl);rintro ee aa w7 ⟨rfl,vs,rfl,hv,hb⟩;simp only[Q5,Act.put,List.setIfInBounds_toArray,List.set_cons_zero,List.set_cons_succ,hv]
       have B7:Hid (Below w.heap.size w w7):=B6.out.trans (hb.mono B6.out.size);clear hb hv;by_cases huv:u=v
       ·have E:Hid (s.args l ts regs=Qz (fun p:Int × TT 6=>s.arg regs p.1 p.2) ((l.zip ts).drop (k+1))):=by
         show _=_
         have:s.arg regs (j:Int) t=0:=by rw[HARG.out,HREN.out,QG (by rw[huv])];rfl
         rw[HE.out,HST.out,if_pos this]
        rw[QG huv]
        clear huv HARG HST HREN HQ;go_wp2
        go_roundw
        case rel=>exact⟨k+1,by omega,by go_num,E.out,B7.out⟩
        case measure=>simp[intOf];omega
       ·have E:Hid (s.args l ts regs=9):=by
         show _=_
         have:s.arg regs (j:Int) t=9:=by rw[HARG.out,HREN.out,Qx (fun e=>huv (Option.some.inj e))];rfl
         rw[HE.out,HST.out,this];rfl
        rw[Qx huv]
        clear huv HARG HST HREN HQ;go_wp2
        go_ret;exact⟨by rw[E.out];rfl,B7.out⟩
    ·have E:Hid (s.args l ts regs=1):=by
      show _=_
      have:s.arg regs (j:Int) t=1:=by
       unfold JSt.arg JSt.at;rw[if_neg hx0,Int.toNat_natCast,List.getElem?_eq_none (by omega)]
      rw[HE.out,hst,this];rfl
     have hjn':decide ((s.L.length:Int)≤j)=true:=decide_eq_true (by omega);clear hst hxi hti hx0;generalize s.L.length=nl at q6' hL hjL hjn';go_wp2_with fail
     go_quiet (fail)
     go_wp2
     go_ret;exact⟨by rw[E.out];rfl,Qf HB.out _⟩
   ·have E:Hid (s.args l ts regs=0):=by
     show _=_;rw[HE.out,List.drop_of_length_le (by rw[List.length_zip,HN.out];omega)]
     rfl
    have hlt':¬ (k:Int)<N:=by omega
    go_wp2
    go_ret;exact⟨by rw[E.out];rfl,HB.out⟩
 ·have E:Hid (s.args l ts regs=2):=by
   show _=_;unfold JSt.args;rw[if_neg (by rw[HN.out,HM.out];exact hNM)]
  have hNM':((N:Int)==(M:Int))=false:=beq_eq_false_iff_ne.2 (by omega);go_enter func82,ntmps82
  go_wp2
  go_ret;exact⟨by rw[E.out];rfl,Zr⟩
abbrev toV (x:MTo) (rg ag:Option Addr) (rc ac:Nat):Value:=.agg #[.int .i64 x.block,.slice rg x.regs.length rc,.slice ag x.args.length ac]
theorem underBk:∃ fs,prog.underlying 84=some (.struct fs):=⟨_,underlying84⟩
theorem sizeBk:(prog.info? 84).map (·.size)=some 12:=by kernel_rfl
theorem QaQ {w:World}{Q:Nat→Prop}{m:List (Qh 6)}{p:Option Addr}{n c:Nat}(h:(ZD 6).list.In w Q m [.slice p n c]){k:Nat}{g:Qh 6}(hg:m[k]?=some g) :
 ∃ mg mo a1 c1 es,p=some ⟨mg,mo,none⟩∧w.rangeAt mg (mo+k*12) (.int .i64 g.regs::.slice a1 g.params.length c1::es)∧es.length=10∧(Qm 6).In w Q g.params [.slice a1 g.params.length c1]∧∀ v∈es,v.oneCell'=true:=by
 obtain⟨mg,mo,ds,e1,e2,e3,hc,hd⟩:=Lay.list_at h hg
 obtain⟨a1,c1,a2,c2,es,rfl,h1,h2,h3,h4⟩:=QdE hd
 obtain⟨d1,d2,ae,ce,rfl,t1,t2,h5,h6⟩:=QfX h3
 obtain⟨u1,u2,u3,u4,rfl,-,-,-⟩:=Qfd t1
 obtain⟨u5,u6,u7,u8,rfl,-,-,-⟩:=Qfd t2
 have key:∀ cs,cs.length=12→(∀ v∈cs,v.oneCell'=true)→(∀ j,j<12→w.cell? ⟨mg,mo+k*12+j,none⟩=cs[j]?)→∀ x y es,cs=x::y::es→w.rangeAt mg (mo+k*12) (x::y::es)∧es.length=10∧∀ v∈es,v.oneCell'=true:=by
  intro cs hl ho hc x y es e;subst e;refine⟨fun j v hj=>?_,by simpa using hl,fun v hv=>ho v (by simp[hv])⟩
  have hjl:=(Zi hj).1;rw[hc j (by omega),hj]
 obtain⟨q1,q2,q3⟩:=key _ rfl (fun v hv=>by
  simp only[List.mem_cons,List.cons_append,List.nil_append,List.not_mem_nil,or_false] at hv
  rcases hv with rfl | rfl | rfl | rfl | rfl | rfl | rfl | rfl | rfl | rfl | rfl | rfl<;>rfl) hc _ _ _ rfl
 exact⟨mg,mo,a1,c1,_,e1,q1,q2,h1,q3⟩
theorem Q9 {w w':World}{b o:Nat}{cs:List Value}(h:w.rangeAt b o cs) (k:Below w.heap.size w w'):w'.rangeAt b o cs:=fun j v hj=>Qi (h j v hj) k
def QlE (w6:World) (b X mg mo nb cb k:Nat) (ds:List Value) (t:Tmp) (v:Value) (w:World):Prop :=
 match ([(5,fun v w=>∃ B,v=.pointer (some ⟨B,0,none⟩)∧w6.heap.size≤B∧∃ c,c.size=12∧Blk w B c 84)]:List (Tmp × (Value→World→Prop))).lookup t with
 | some p=>p v w
 | none=>v=(([(0,.pointer (some ⟨b,0,none⟩)),(3,.pointer (some ⟨X,0,none⟩)),(8,.pointer (some ⟨b,0,none⟩)),(9,.pointer (some ⟨b,0,none⟩)),(10,.pointer (some ⟨b,1,none⟩)),(11,.pointer (some ⟨b,4,none⟩)),(12,.slice (some ⟨mg,mo,none⟩) nb cb),(13,.pointer (some ⟨X,0,none⟩)),(14,.int .i64 (k:Int)),(15,.pointer (some ⟨mg,mo+k*12,none⟩)),(16,.agg ds.toArray)]:List (Tmp × Value)).lookup t).getD undef
theorem kt1 {w6:World}{b X mg mo nb cb k:Nat}{ds:List Value}(y0:w6.cell? ⟨b,4,none⟩=some (.slice (some ⟨mg,mo,none⟩) nb cb)) (z0:w6.cell? ⟨X,0,none⟩=some (.int .i64 (k:Int))) (HD:Hid (w6.rangeAt mg (mo+k*12) ds)) (hdl:ds.length=12) (hkn:(k:Int)<nb){Q:Exit→Act→World→Prop}
 (a:Act) (m:Nat) (hn:a.tmps.size=m) (hn':57≤m) (h0:a.tmps.getD 0 undef=.pointer (some ⟨b,0,none⟩)) (h3:a.tmps.getD 3 undef=.pointer (some ⟨X,0,none⟩))
 (hend:∀ ops vs w',vs 16=.agg ds.toArray→(fun v w=>∃ B,v=.pointer (some ⟨B,0,none⟩)∧w6.heap.size≤B∧∃ c,c.size=12∧Blk w B c 84) (vs 5) w'→Below w6.heap.size w6 w'→wpList prog ops Q (QcP 10 ((Tryz.f80.body.bind (Qj 1)).getD .skip)) (Q5 a vs [8,9,10,11,12,13,14,15,16,5]) w') :
 Code.wp prog ((Tryz.f80.body.bind (Qj 1)).getD .skip) Q a w6:=by
 conv=>arg 2;whnf
 refine Qq 10 (QlE w6 b X mg mo nb cb k ds) (fun w=>Below w6.heap.size w6 w) (fun w w'=>Below w.heap.size w w') (outs:=[0,3]) (gs:=[]) (bs:=[true,true,true,true,true,true,true,true,true,true]) (by kernel_rfl) (n:=57) hn hn' (by kernel_rfl) (by kernel_rfl) ?hR ?hG (Qf Zr 1) ⟨h0,h3,trivial⟩ ?hA ?hend
 case hR =>
  intro t v w w' hr h;unfold QlE at h ⊢;split at h
  ·rename_i p hp
   simp only[List.lookup_cons,List.lookup_nil] at hp
   split at hp
   ·cases hp;exact(by obtain⟨B,e,h1,c,h3,h2⟩:=h;exact⟨B,e,h1,c,h3,(hr.block B (lt_of_block h2)).trans h2⟩)
   ·cases hp
  ·exact h
 case hG=>exact trivial
 case hend=>exact fun ops vs w' hW hk=>hend ops vs w' (hk 16 (by kernel_rfl)) (hk 5 (by kernel_rfl)) hW
 case hA =>
  iterate 7
   refine⟨fun a w hW hk K hK=>?_,?_⟩
   ·obtain⟨k0,-⟩:=hk
    conv at k0=>whnf;rhs;whnf
    have u0:=Qi y0 hW;have u1:=Qi z0 hW;go_simp;exact hK _ _ Zr hW rfl
  refine⟨fun a w hW hk K hK=>?_,?_⟩
  ·obtain⟨k0,k1,-⟩:=hk
   conv at k0=>whnf;rhs;whnf
   conv at k1=>whnf;rhs;whnf
   go_simp;exact hK _ _ Zr hW rfl
  refine⟨fun a w hW hk K hK=>?_,?_⟩
  ·obtain⟨k0,-⟩:=hk
   conv at k0=>whnf;rhs;whnf
   obtain⟨fs,hfs⟩:=underBk
   refine wp_load_mid 84 (.tmp 15) rfl mg (mo+k*12) k0 ds _ (Q9 HD.out hW) hfs rfl (by rw[hdl];exact sizeBk) ?_;exact hK _ _ Zr hW rfl
  refine⟨fun a w hW hk K hK=>?_,?_⟩
  ·clear hk;go_simp;exact hK _ _ (QN _ _) (hW.alloc hW.size _) ⟨_,rfl,hW.size,_,rfl,Qe _ _ _⟩
  trivial
def Qma (b X hh kn rc:Nat) (rg:Option Addr) (p:Int) (t:Tmp) (v:Value) (w:World):Prop :=
 v=(([(0,.pointer (some ⟨b,0,none⟩)),(3,.pointer (some ⟨X,0,none⟩)),(39,.pointer (some ⟨b,0,none⟩)),(40,.pointer (some ⟨b,0,none⟩)),(41,.pointer (some ⟨b,5,none⟩)),(42,.pointer (some ⟨hh,0,none⟩)),(43,.pointer (some ⟨X,1,none⟩)),(44,.slice rg kn rc),(45,.int .i64 p),(7,.int .i64 p)]:List (Tmp × Value)).lookup t).getD undef
theorem kt9 {w6:World}{b X hh kn rc:Nat}{rg:Option Addr}{p:Int}{O Q:Nat→Prop}{H:List Bool}{l:List Int}(q5:w6.cell? ⟨b,5,none⟩=some (.pointer (some ⟨hh,0,none⟩))) (x1:w6.cell? ⟨X,1,none⟩=some (.slice rg kn rc)) (hkn:kn≤16) (hrc:kn≤rc) (hH:H.length≤100000) (HN:Hid (l.length=kn)) (HR:Hid (intsL.In w6 Q l [.slice rg kn rc])) (HO:Hid (Qk w6 hh O H)) (HP:Hid (hPass H [] l=p))
 (a:Act) (m:Nat) (hn:a.tmps.size=m) (hn':57≤m) (h0:a.tmps.getD 0 undef=.pointer (some ⟨b,0,none⟩)) (h3:a.tmps.getD 3 undef=.pointer (some ⟨X,0,none⟩)) :
 Code.wp prog ((Tryz.f80.body.bind (Qj 9)).getD .skip) (fun e a' w'=>e=.normal∧∃ vs,a'=Q5 a vs [39,40,41,42,43,44,45,7]∧vs 7=.int .i64 p∧Below w6.heap.size w6 w') a w6:=by
 conv=>arg 2;whnf
 refine Qw (Qma b X hh kn rc rg p) (fun w=>Below w6.heap.size w6 w) (fun w w'=>Below w.heap.size w w') (outs:=[0,3]) (gs:=[]) (bs:=[true,true,true,true,true,true,true,true]) (by kernel_rfl) (n:=57) hn hn' (by kernel_rfl) ?hR ?hG (Qf Zr 1) ⟨h0,h3,trivial⟩ ?hA ?hend
 case hR=>exact fun t v w w' _ h=>h
 case hG=>exact trivial
 case hend=>exact fun vs w' hW hk=>⟨rfl,vs,rfl,hk 7 (by kernel_rfl),hW⟩
 case hA =>
  iterate 6
   refine⟨fun a w hW hk K hK=>?_,?_⟩
   ·obtain⟨k0,-⟩:=hk
    conv at k0=>whnf;rhs;whnf
    have u0:=Qi q5 hW;have u1:=Qi x1 hW;go_simp;exact hK _ _ Zr hW rfl
  refine⟨fun a w hW hk K hK=>?_,?_⟩
  ·obtain⟨k0,k1,-⟩:=hk
   conv at k0=>whnf;rhs;whnf
   conv at k1=>whnf;rhs;whnf
   go_simp;refine(QgD HN.out (by omega) hrc hH (Lay.below HR.out hW) (HO.out.below hW)).mono ?_;rw[HP.out];rintro r7 w7 ⟨rfl,b7⟩
   go_simp;exact hK _ _ b7 (hW.trans (b7.mono hW.size)) rfl
  refine⟨fun a w hW hk K hK=>?_,?_⟩
  ·obtain⟨k0,-⟩:=hk
   conv at k0=>whnf;rhs;whnf
   go_simp;exact hK _ _ Zr hW rfl
  trivial
theorem QhW {n:Nat}{regs:List Int}(h:∀ i,i<n→regs.getD i 0=(i:Int)):QbG n regs=0:=by
 unfold QbG;rw[if_pos (List.all_eq_true.2 fun i hi=>decide_eq_true (h i (by simpa using hi)))]
theorem Qh9 {n i:Nat}{regs:List Int}(hi:i<n) (h:regs.getD i 0≠(i:Int)):QbG n regs=11:=by
 unfold QbG;rw[if_neg]
 intro hh
 have:=List.all_eq_true.1 hh i (by simpa using hi)
 exact h (of_decide_eq_true this)
theorem Qfy {w:World}{b:Nat}{O QR QA:Nat→Prop}{s:JSt}{x:MTo}{rg ag:Option Addr}{rc ac:Nat}(hJ:JOk s) (h:KAt w b O s) (hregs:intsL.In w QR x.regs [.slice rg x.regs.length rc]) (hargs:intsL.In w QA x.args [.slice ag x.args.length ac]) (hrc:x.regs.length≤rc) (hr16:x.regs.length≤16) (ha8:x.args.length≤8) (hbl:0≤x.block∧x.block<s.f.blocks.length) :
 Calls prog 80 #[.pointer (some ⟨b,0,none⟩),toV x rg ag rc ac] w fun e w'=>e=.returned (.int .i64 (s.to x))∧Below w.heap.size w w':=by
 have HJ:=Qa hJ;obtain⟨xb,xr,xs⟩:=x
 simp only at hregs hargs hrc hr16 ha8 hbl
 obtain⟨k,rfl⟩:=Int.eq_ofNat_of_zero_le hbl.1
 have hkb:k<s.f.blocks.length:=by omega
 have hgk:s.f.blocks[k]?=some s.f.blocks[k]:=Zg hkb;generalize s.f.blocks[k]=g at hgk;have b1:=QN w (.cells #[.int .i64 (k:Int),.slice rg xr.length rc,.slice ag xs.length ac] 45);have hblk:=Qe w #[.int .i64 (k:Int),.slice rg xr.length rc,.slice ag xs.length ac] 45;have K1:=Qa (h.below b1);have HR1:Hid (intsL.In (w.alloc (.cells #[.int .i64 (k:Int),.slice rg xr.length rc,.slice ag xs.length ac] 45)) QR xr [.slice rg xr.length rc]):=Lay.below hregs b1;have HA1:Hid (intsL.In (w.alloc (.cells #[.int .i64 (k:Int),.slice rg xr.length rc,.slice ag xs.length ac] 45)) QA xs [.slice ag xs.length ac]):=Lay.below hargs b1;have HB1:=Qa b1;have HK1:=Qa hblk;clear h hregs hargs b1 hblk hJ;go_enter func80,ntmps80
 go_upto_region 1 with fail
 obtain⟨X,hX⟩:∃ X,w.heap.size=X:=⟨_,rfl⟩
 generalize hw1:w.alloc (.cells #[.int .i64 (k:Int),.slice rg xr.length rc,.slice ag xs.length ac] 45)=w1 at K1 HR1 HA1 HB1 HK1 ⊢;rw[hX] at HK1
 rw[hX]
 clear hw1 hX;have x0:=Qb HK1.out 0 _ rfl;have x1:=Qb HK1.out 1 _ rfl;have x2:=Qb HK1.out 2 _ rfl;obtain⟨pm,cm,a1,c1,a2,c2,a3,c3,hh,aL,cL,R⟩:=K1.out.read
 obtain⟨-,q1,-,-,q4,q5,-⟩:=R.cells
 obtain⟨fa,fc,fb,fd,fe,ff,ecs,-,-,hbs,-⟩:=ZH R.fn
 simp only[List.cons.injEq,Value.slice.injEq,and_true,true_and] at ecs
 obtain⟨-,-,rfl,rfl⟩:=ecs
 obtain⟨mg,mo,p1,d1,es,rfl,hrange,hes,hpar,hone⟩:=QaQ hbs hgk
 have HRG:=Qa hrange;have HPA:Hid ((Qm 6).In w1 (fun g=>¬ O g) g.params [.slice p1 g.params.length d1]):=hpar;have HHO:Hid (Qk w1 hh O s.H):=R.holds;have HES:Hid (es.length=10):=hes;have HONE:=Qa hone;have hkn:(k:Int)<s.f.blocks.length:=by omega
 have HFR:=Qa (HJ.out.mod.2 s.f HJ.out.fn);have HGM:Hid (g∈s.f.blocks):=Zm hgk;have HBR:=Qa (HFR.out.blocks g HGM.out);have HNG:Hid (¬ Qh.great g):=fun hg=>HJ.out.tiny (.inr ⟨s.f,HJ.out.fn,.inr (.inr (.inr ⟨g,HGM.out,hg⟩))⟩);have HCP:Hid (∀ t∈g.params,t.count≤2000):=fun t ht=>Nat.le_of_not_lt fun hlt=>HNG.out (.inr (.inl (.inr ⟨t,ht,hlt⟩)))
 have E:Hid (s.to ⟨(k:Int),xr,xs⟩=if (xr.length:Int)=g.regs then code2 (QbG s.f.regs.toNat xr) (code2 (hPass s.H [] xr) (s.args xs g.params xr)) else 2):=by
  show _=_;unfold JSt.to;simp only[Int.toNat_natCast,hgk]
 clear R hbs hrange hpar hone hes hgk hbl;generalize hnb:s.f.blocks.length=nb at q4 hkb hkn;refine kt1 q4 x0 HRG (by simp[HES.out]) hkn _ _ rfl (Nat.le_of_ble_eq_true (by kernel_rfl)) rfl rfl ?_;rintro ops vs w5 hv16 ⟨B,hv5,hB,cB,hcB,hBb⟩ b5;show wpList _ ops _ [_] (Q5 _ vs [8,9,10,11,12,13,14,15,16,5]) w5;simp only[Q5,Act.put,List.setIfInBounds_toArray,List.set_cons_zero,List.set_cons_succ,hv16,hv5]
 have hlen12:(Value.int .i64 g.regs::Value.slice p1 g.params.length d1::es).length=12:=by simp[HES.out]
 have TH:Hid (w5.there B 0 (Value.int .i64 g.regs::Value.slice p1 g.params.length d1::es).toArray.size):=by
  intro j hj;rw[List.size_toArray,hlen12] at hj
  rw[Nat.zero_add]
  refine⟨?_,Qp hBb j⟩
  rw[Qb hBb j cB[j] (by simp)];rfl
 have TS:Hid ((prog.info? 84).map (·.size)=some (Value.int .i64 g.regs::Value.slice p1 g.params.length d1::es).toArray.size):=by show _=_;rw[List.size_toArray,hlen12];exact sizeBk
 have TO:Hid ((Value.int .i64 g.regs::Value.slice p1 g.params.length d1::es).toArray.all (·.oneCell')=true):=by
  refine all_oneCell_toArray fun v hv=>?_;simp only[List.mem_cons] at hv
  rcases hv with rfl | rfl | hv
  ·rfl
  ·rfl
  ·exact HONE.out v hv
 have B6:Hid (Blk (w5.setCells B 0 (Value.int .i64 g.regs::Value.slice p1 g.params.length d1::es).toArray.toList) B (Value.int .i64 g.regs::Value.slice p1 g.params.length d1::es).toArray 84):=by
  have h0:Blk w5 B ([]++cB.toList).toArray 84:=by rw[List.nil_append,Array.toArray_toList];exact hBb
  have:=Blk.sets (Value.int .i64 g.regs::Value.slice p1 g.params.length d1::es) [] cB.toList w5 (by rw[hlen12];simp[hcB]) h0
  exact this
 have b6:Hid (Below w1.heap.size w1 (w5.setCells B 0 (Value.int .i64 g.regs::Value.slice p1 g.params.length d1::es).toArray.toList)):=by
  have:=Zn.setCells (O:=fun k=>k=B) (O':=fun k=>k=B) (b:=B) rfl (Value.int .i64 g.regs::Value.slice p1 g.params.length d1::es).toArray.toList 0 _ (Zn.refl _ w5)
  exact b5.trans (this.below b5.size (fun k hk=>by omega))
 clear hBb hB hcB b5 hv16 hv5 hlen12;generalize hgr:g.regs=gr at E HBR B6 b6 TH TS TO ⊢;have HGR:Hid (g.regs=gr):=hgr;generalize hn1:g.params.length=n1 at HPA B6 b6 TH TS TO ⊢;have HN1:Hid (g.params.length=n1):=hn1;have y0:(w5.setCells B 0 (Value.int .i64 gr::Value.slice p1 n1 d1::es).toArray.toList).cell? ⟨B,0,none⟩=some (.int .i64 gr):=Qb B6.out 0 _ rfl;have y1:(w5.setCells B 0 (Value.int .i64 gr::Value.slice p1 n1 d1::es).toArray.toList).cell? ⟨B,1,none⟩=some (.slice p1 n1 d1):=Qb B6.out 1 _ rfl;generalize hds:(Value.int .i64 gr::Value.slice p1 n1 d1::es).toArray=dsA at B6 b6 TH TS TO y0 y1 ⊢;have K6:=Qa (K1.out.below b6.out);have HR6:Hid (intsL.In (w5.setCells B 0 dsA.toList) QR xr [.slice rg xr.length rc]):=Lay.below HR1.out b6.out;have HA6:Hid (intsL.In (w5.setCells B 0 dsA.toList) QA xs [.slice ag xs.length ac]):=Lay.below HA1.out b6.out;have HP6:Hid ((Qm 6).In (w5.setCells B 0 dsA.toList) (fun g=>¬ O g) g.params [.slice p1 n1 d1]):=Lay.below HPA.out b6.out;have HO6:Hid (Qk (w5.setCells B 0 dsA.toList) hh O s.H):=HHO.out.below b6.out;have BW:Hid (Below w.heap.size w (w5.setCells B 0 dsA.toList)):=HB1.out.trans (b6.out.mono HB1.out.size);obtain⟨fr,hfr⟩:=Int.eq_ofNat_of_zero_le HFR.out.regs.1
 have hfr6:fr≤6:=by have:=HFR.out.regs.2;omega
 have HFG:Hid ((fr:Int)≤gr):=by have:=HBR.out.regs.1;rw[hfr,HGR.out] at this;exact this
 rw[hfr] at q1 E
 rw[Int.toNat_natCast] at E
 have q1':=Qi q1 b6.out;have q5':=Qi q5 b6.out;have x1':=Qi x1 b6.out;have x2':=Qi x2 b6.out;clear hgr hn1 hfr hds K1 HR1 HA1 HPA HHO HB1 b6 B6 q1 q4 q5 x0 x1 x2 HES HONE HFR HNG HK1 HRG;go_upto_region 2 with (refine wpList_store_mid rfl 84 (.tmp 5) (.tmp 16) rfl B 0 dsA rfl rfl TH.out TS.out TO.out ?_)
 clear TH TS TO;generalize w5.setCells B 0 dsA.toList=w6 at K6 HR6 HA6 HP6 HO6 BW q1' q5' x1' x2' y0 y1 ⊢;have HXN:Hid (xr.length=xr.length):=rfl;by_cases hg:(xr.length:Int)=gr
 rotate_left
 ·have E2:Hid (s.to ⟨(k:Int),xr,xs⟩=2):=by show _=_;rw[E.out,if_neg hg]
  have hne:((xr.length:Int) != gr)=true:=by simpa using hg
  clear E hg HXN;generalize xr.length=kn at x1' HR6 hrc hr16 hne;go_wp2_with fail
  go_ret;exact⟨by rw[E2.out];rfl,BW.out⟩
 have E2:Hid (s.to ⟨(k:Int),xr,xs⟩=code2 (QbG fr xr) (code2 (hPass s.H [] xr) (s.args xs g.params xr))):=by show _=_;rw[E.out,if_pos hg]
 have hfx:fr≤xr.length:=by have:=HFG.out;omega
 have hne:((xr.length:Int) != gr)=false:=by simpa using hg
 have HX:Hid (∀ i,i<xr.length→∃ rgg ro,rg=some ⟨rgg,ro,none⟩∧w6.cell? ⟨rgg,ro+i,none⟩=some (.int .i64 (xr.getD i 0))):=fun i hi=>by
  obtain⟨a1,a2,e1,-,-,e2⟩:=ZC HR6.out hi
  exact⟨a1,a2,e1,e2⟩
 have HKN:Hid (∃ kn,xr.length=kn):=⟨_,rfl⟩;clear E hg HXN;obtain⟨kn,hkn2⟩:=HKN.out
 have HKN2:Hid (xr.length=kn):=hkn2;rw[hkn2] at x1' HR6 hrc hr16 hne HX hfx
 clear hkn2 HKN;go_wp2_with fail
 go_loopw [6] (fun i wr=>∃ q:Nat,q≤fr∧i=.int .i64 q∧wr=w6∧∀ j,j<q→xr.getD j 0=(j:Int)) (fun i _=>fr - (intOf i).toNat)
 case atStart=>exact⟨0,Nat.zero_le _,rfl,rfl,fun j hj=>absurd hj (Nat.not_lt_zero _)⟩
 case round =>
  obtain⟨q,hq,rfl,hw,hall⟩:=hrel
  subst hw;have HALL:Hid (∀ j,j<q→xr.getD j 0=(j:Int)):=hall;clear hall;by_cases hlt:q<fr
  ·obtain⟨rgg,ro,rfl,hcx⟩:=HX.out q (by omega)
   have hlt':(q:Int)<fr:=by omega
   have hlt2:(q:Int)<kn:=by omega
   have HV:Hid (xr.getD q 0=xr.getD q 0):=rfl;obtain⟨v,hv⟩:∃ v,xr.getD q 0=v:=⟨_,rfl⟩
   have HV:Hid (xr.getD q 0=v):=hv;rw[hv] at hcx
   clear hv;by_cases hvq:v=(q:Int)
   ·have hvq':(v != (q:Int))=false:=by simpa using hvq
    go_wp2_with fail
    go_roundw
    case rel =>
     refine⟨q+1,by omega,by go_num,by first | rfl | trivial,fun j hj=>?_⟩
     by_cases hjq:j<q
     ·exact HALL.out j hjq
     ·have:j=q:=by omega
      subst this;rw[HV.out,hvq]
    case measure=>simp[intOf];omega
   ·have hvq':(v != (q:Int))=true:=by simpa using hvq
    have E3:Hid (s.to ⟨(k:Int),xr,xs⟩=11):=by
     show _=_;rw[E2.out,Qh9 hlt (by rw[HV.out];exact hvq)];rfl
    clear E2;go_wp2_with fail
    go_ret;exact⟨by rw[E3.out];rfl,BW.out⟩
  ·have hqe:q=fr:=by omega
   subst hqe
   have E3:Hid (s.to ⟨(k:Int),xr,xs⟩=code2 (hPass s.H [] xr) (s.args xs g.params xr)):=by
    show _=_;rw[E2.out,QhW HALL.out];rfl
   have hlt':decide ((q:Int)<q)=false:=decide_eq_false (by omega);clear E2 HX hlt;go_upto_region 9 with fail
   obtain⟨pc,hpc⟩:∃ pc,hPass s.H [] xr=pc:=⟨_,rfl⟩
   have HPC:=Qa hpc;rw[hpc] at E3
   clear hpc;refine Code.wp_mono ?_ (kt9 q5' x1' (by omega) hrc (by have:=HJ.out.regs;omega) HKN2 HR6 HO6 HPC _ _ rfl (Nat.le_of_ble_eq_true (by kernel_rfl)) rfl rfl);rintro ee aa w7 ⟨rfl,vs,rfl,hv7,hb⟩;simp only[Q5,Act.put,List.setIfInBounds_toArray,List.set_cons_zero,List.set_cons_succ,hv7]
   have BW7:Hid (Below w.heap.size w w7):=BW.out.trans (hb.mono BW.out.size);have K7:=Qa (K6.out.below hb);have HR7:Hid (intsL.In w7 QR xr [.slice rg kn rc]):=Lay.below HR6.out hb;have HA7:Hid (intsL.In w7 QA xs [.slice ag xs.length ac]):=Lay.below HA6.out hb;have HP7:Hid ((Qm 6).In w7 (fun g=>¬ O g) g.params [.slice p1 n1 d1]):=Lay.below HP6.out hb;have x17:=Qi x1' hb;have x27:=Qi x2' hb;have y17:=Qi y1 hb;clear hb hv7 K6 HR6 HA6 HP6 HO6 BW x1' x2' y1 y0 q1' q5';by_cases hp:pc=0
   rotate_left
   ·have hp':(pc != 0)=true:=by simpa using hp
    have E4:Hid (s.to ⟨(k:Int),xr,xs⟩=pc):=by show _=_;rw[E3.out];unfold code2;rw[if_neg hp]
    clear E3;go_wp2_with fail
    go_ret;exact⟨by rw[E4.out];rfl,BW7.out⟩
   subst hp;have E4:Hid (s.to ⟨(k:Int),xr,xs⟩=s.args xs g.params xr):=by show _=_;rw[E3.out];rfl
   clear E3;go_wp2_with fail
   refine(QcL rfl HN1.out HKN2.out (by omega) (by have:=HBR.out.params.1;rw[HN1.out] at this;omega) HJ.out.vals HA7.out HP7.out HR7.out HCP.out K7.out).mono ?_
   rintro e w8 ⟨rfl,b8⟩;have BW8:Hid (Below w.heap.size w w8):=BW7.out.trans (b8.mono BW7.out.size);go_wp2_with fail
   go_ret;exact⟨by rw[E4.out];rfl,BW8.out⟩
theorem QH {p:Prop}(h:p):Hid p:=h
theorem Qj8 {B:Nat}{a w:World}(h:Below B a w) (n:Nat):Below B a (w.drewN n):=⟨h.os,h.tape,h.output,h.size,h.block⟩
structure FbS (w wx:World) (R:Nat) (l:List (Nat × Array Value × TypeId)):Prop where
 bel:Below w.heap.size w wx
 ge:w.heap.size≤R
 r:Blk wx R #[.int .i64 0,.int .i64 0] 30
 box:∀ (i:Nat) b,l[i]?=some b→Blk wx b.1 b.2.1 b.2.2
section
variable {w wx w':World}{R:Nat}{l:List (Nat × Array Value × TypeId)}
theorem FbS.below (h:FbS w wx R l) (k:Below wx.heap.size wx w'):FbS w w' R l :=
 ⟨h.bel.trans (k.mono h.bel.size),h.ge,h.r.below k,fun i b hb=>(h.box i b hb).below k⟩
theorem FbS.add (h:FbS w wx R l){B:Nat}{c:Array Value}{t:TypeId}(hb:Blk wx B c t):FbS w wx R ((B,c,t)::l) :=
 ⟨h.bel,h.ge,h.r,fun i b hi=>by
  cases i with
  | zero=>cases hi;exact hb
  | succ i=>exact h.box i b hi⟩
theorem FbS.new (h:FbS w wx R l) (c:Array Value) (t:TypeId):FbS w (wx.alloc (.cells c t)) R ((wx.heap.size,c,t)::l):=(h.below (QN _ _)).add (Blk.new _ _ _)
theorem FbS.start (w:World) (c:Array Value) (t:TypeId):FbS w ((w.alloc (.cells c t)).alloc (.cells #[.int .i64 0,.int .i64 0] 30)) (w.heap.size+1) [(w.heap.size,c,t)] :=
 FbS.add ⟨(QN w _).trans ((QN _ _).mono (QN w _).size),by omega,Blk.new2 ..,fun i b hi=>by simp at hi⟩ (Blk.new1 ..)
theorem FbS.cells (h:FbS w wx R l):wx.cell? ⟨R,0,none⟩=some (.int .i64 0)∧wx.cell? ⟨R,1,none⟩=some (.int .i64 0)∧wx.frozen? ⟨R,0,none⟩=false∧wx.frozen? ⟨R,1,none⟩=false :=
 ⟨Qb h.r 0 _ rfl,Qb h.r 1 _ rfl,Qp h.r 0,Qp h.r 1⟩
theorem FbS.fin (h:FbS w wx R l) (c a:Int):Blk ((wx.setCell ⟨R,0,none⟩ (.int .i64 c)).setCell ⟨R,1,none⟩ (.int .i64 a)) R #[.int .i64 c,.int .i64 a] 30∧Below w.heap.size w ((wx.setCell ⟨R,0,none⟩ (.int .i64 c)).setCell ⟨R,1,none⟩ (.int .i64 a)) :=
 ⟨by have:=Qo (Qo h.r 0 (.int .i64 c)) 1 (.int .i64 a);simpa using this,(h.bel.setCell (p:=⟨R,0,none⟩) h.ge _).setCell (p:=⟨R,1,none⟩) h.ge _⟩
structure Qla (wx:World) (cs:List Value):Prop where
 size:(prog.info? 84).map (·.size)=some cs.length
 size2:(prog.info? 84).map (·.size)=some cs.toArray.size
 there:(wx.alloc (.cells #[.int .i64 0,.slice none 0 0,.slice none 0 0,.int .i64 0,.int .i64 0,.int .i64 0,.slice none 0 0,.slice none 0 0,.int .i64 0,.slice none 0 0,.slice none 0 0,.slice none 0 0] 84)).there wx.heap.size 0 cs.toArray.size
 blk:Blk ((wx.alloc (.cells #[.int .i64 0,.slice none 0 0,.slice none 0 0,.int .i64 0,.int .i64 0,.int .i64 0,.slice none 0 0,.slice none 0 0,.int .i64 0,.slice none 0 0,.slice none 0 0,.slice none 0 0] 84)).setCells wx.heap.size 0 cs) wx.heap.size cs.toArray 84
 bel:Below wx.heap.size wx ((wx.alloc (.cells #[.int .i64 0,.slice none 0 0,.slice none 0 0,.int .i64 0,.int .i64 0,.int .i64 0,.slice none 0 0,.slice none 0 0,.int .i64 0,.slice none 0 0,.slice none 0 0,.slice none 0 0] 84)).setCells wx.heap.size 0 cs)
theorem Qla.of (wx:World){cs:List Value}(hl:cs.length=12):Qla wx cs:=by
 have hB:=Qe wx #[.int .i64 0,.slice none 0 0,.slice none 0 0,.int .i64 0,.int .i64 0,.int .i64 0,.slice none 0 0,.slice none 0 0,.int .i64 0,.slice none 0 0,.slice none 0 0,.slice none 0 0] 84;refine⟨by rw[hl];exact pSizeB,by rw[List.size_toArray,hl];exact pSizeB,fun j hj=>?_,?_,?_⟩
 ·rw[List.size_toArray,hl] at hj
  rw[Nat.zero_add]
  refine⟨?_,Qp hB j⟩
  rw[Qb hB j ((#[.int .i64 0,.slice none 0 0,.slice none 0 0,.int .i64 0,.int .i64 0,.int .i64 0,.slice none 0 0,.slice none 0 0,.int .i64 0,.slice none 0 0,.slice none 0 0,.slice none 0 0]:Array Value)[j]'hj) (by simp)];rfl
 ·have h0:Blk (wx.alloc (.cells #[.int .i64 0,.slice none 0 0,.slice none 0 0,.int .i64 0,.int .i64 0,.int .i64 0,.slice none 0 0,.slice none 0 0,.int .i64 0,.slice none 0 0,.slice none 0 0,.slice none 0 0] 84)) wx.heap.size ([]++(#[.int .i64 0,.slice none 0 0,.slice none 0 0,.int .i64 0,.int .i64 0,.int .i64 0,.slice none 0 0,.slice none 0 0,.int .i64 0,.slice none 0 0,.slice none 0 0,.slice none 0 0]:Array Value).toList).toArray 84:=hB;exact Blk.sets cs [] (#[.int .i64 0,.slice none 0 0,.slice none 0 0,.int .i64 0,.int .i64 0,.int .i64 0,.slice none 0 0,.slice none 0 0,.int .i64 0,.slice none 0 0,.slice none 0 0,.slice none 0 0]:Array Value).toList _ (by rw[hl];rfl) h0
 ·have:=Zn.setCells (O:=fun k=>k=wx.heap.size) (O':=fun k=>k=wx.heap.size) (b:=wx.heap.size) rfl cs 0 _ (Zn.refl _ (wx.alloc (.cells #[.int .i64 0,.slice none 0 0,.slice none 0 0,.int .i64 0,.int .i64 0,.int .i64 0,.slice none 0 0,.slice none 0 0,.int .i64 0,.slice none 0 0,.slice none 0 0,.slice none 0 0] 84)))
  exact(QN wx _).trans (this.below (by simp) (fun k hk=>by omega))
end
theorem QaD {f:Nat}{w:World}(h:f<1000000):Rd prog 64 #[.int .i64 (f:Int)] w (.int .i64 (10000*(f:Int)+9999)):=by
 unfold Rd;go_enter func64,ntmps64
 go_wp2
 go_ret;refine⟨?_,Zr⟩
 first | rfl | (simp only[wrap64];congr 2;omega)
theorem QaZ {f b:Nat}{w:World}(h:f<1000000∧b<1000000):Rd prog 108 #[.int .i64 (f:Int),.int .i64 (b:Int)] w (.int .i64 (10000*(f:Int)+100*(b:Int)+90)):=by
 unfold Rd;go_enter func108,ntmps108
 go_wp2
 go_ret;refine⟨?_,Zr⟩
 first | rfl | (simp only[wrap64];congr 2;omega)
theorem QhE {f b:Nat}{w:World}(h:f<1000000∧b<1000000):Rd prog 110 #[.int .i64 (f:Int),.int .i64 (b:Int)] w (.int .i64 (10000*(f:Int)+100*(b:Int)+91)):=by
 unfold Rd;go_enter func110,ntmps110
 go_wp2
 go_ret;refine⟨?_,Zr⟩
 first | rfl | (simp only[wrap64];congr 2;omega)
theorem Qhf {f b i:Nat}{w:World}(h:f<1000000∧b<1000000∧i<1000000):Rd prog 109 #[.int .i64 (f:Int),.int .i64 (b:Int),.int .i64 (i:Int)] w (.int .i64 (10000*(f:Int)+100*(b:Int)+(i:Int))):=by
 unfold Rd;go_enter func109,ntmps109
 go_wp2
 go_ret;refine⟨?_,Zr⟩
 first | rfl | (simp only[wrap64];congr 2;omega)
theorem Qdr {x:MTo}{pR pA:Option Addr}{cR cA:Nat}{fr:Int}{fp fq fb:Option Addr}{fl fc fm fd bl fe:Nat}{w:World}(has:Bool) (hr:x.regs.length<2305843009213693952) (ha:x.args.length<2305843009213693952) (hbl:bl<2305843009213693952) :
 Rd prog 134 #[.agg #[.int .i64 fr,.slice fp fl fc,.slice fq fm fd,.slice fb bl fe],.agg #[.int .i64 x.block,.slice pR x.regs.length cR,.slice pA x.args.length cA],.bool has] w (.int .i64 (x.form bl has)):=by
 have b1:=QN w (.cells #[.int .i64 fr,.slice fp fl fc,.slice fq fm fd,.slice fb bl fe] 55);have B:Hid (Below w.heap.size w ((w.alloc (.cells #[.int .i64 fr,.slice fp fl fc,.slice fq fm fd,.slice fb bl fe] 55)).alloc (.cells #[.int .i64 x.block,.slice pR x.regs.length cR,.slice pA x.args.length cA] 45))):=b1.trans ((QN _ _).mono b1.size);have f3:=Qb (Blk.new1 w #[.int .i64 fr,.slice fp fl fc,.slice fq fm fd,.slice fb bl fe] #[.int .i64 x.block,.slice pR x.regs.length cR,.slice pA x.args.length cA] 55 45) 3 _ rfl;have t0:=Qb (Blk.new2 w (.cells #[.int .i64 fr,.slice fp fl fc,.slice fq fm fd,.slice fb bl fe] 55) #[.int .i64 x.block,.slice pR x.regs.length cR,.slice pA x.args.length cA] 45) 0 _ rfl;have t1:=Qb (Blk.new2 w (.cells #[.int .i64 fr,.slice fp fl fc,.slice fq fm fd,.slice fb bl fe] 55) #[.int .i64 x.block,.slice pR x.regs.length cR,.slice pA x.args.length cA] 45) 1 _ rfl;have t2:=Qb (Blk.new2 w (.cells #[.int .i64 fr,.slice fp fl fc,.slice fq fm fd,.slice fb bl fe] 55) #[.int .i64 x.block,.slice pR x.regs.length cR,.slice pA x.args.length cA] 45) 2 _ rfl;clear b1;unfold Rd;go_enter func134,ntmps134
 go_upto_region 1 with fail
 generalize (w.alloc (.cells #[.int .i64 fr,.slice fp fl fc,.slice fq fm fd,.slice fb bl fe] 55)).alloc (.cells #[.int .i64 x.block,.slice pR x.regs.length cR,.slice pA x.args.length cA] 45)=w1 at B f3 t0 t1 t2 ⊢;generalize w.heap.size+1=Y at t0 t1 t2 ⊢;generalize w.heap.size=X at f3 ⊢
 cases has with
 | false =>
   by_cases c1:x.block=0
   ·have d1:(x.block != 0)=false:=by simpa using c1
    by_cases c2:0<x.regs.length+x.args.length
    ·have d2:(0:Int)<(x.regs.length:Int)+(x.args.length:Int):=by omega
     have E:x.form bl false=4:=by unfold MTo.form;rw[if_pos rfl,if_pos (.inr c2)]
     clear c1;go_wp2_with fail
     go_ret;exact⟨by first | rfl | (rw[E];done) | (rw[E];rfl),B.out⟩
    ·have d2:¬ (0:Int)<(x.regs.length:Int)+(x.args.length:Int):=by omega
     have E:x.form bl false=0:=by unfold MTo.form;rw[if_pos rfl,if_neg (by rintro (h | h);exact h c1;exact c2 h)]
     clear c1;go_wp2_with fail
     go_ret;exact⟨by first | rfl | (rw[E];done) | (rw[E];rfl),B.out⟩
   ·have d1:(x.block != 0)=true:=by simpa using c1
    have E:x.form bl false=4:=by unfold MTo.form;rw[if_pos rfl,if_pos (.inl c1)]
    go_wp2_with fail
    go_ret;exact⟨by first | rfl | (rw[E];done) | (rw[E];rfl),B.out⟩
 | true =>
   by_cases c1:x.block<0
   ·have d1:decide (x.block<0)=true:=decide_eq_true c1;have E:x.form bl true=1:=by unfold MTo.form;rw[if_neg (by simp),if_pos (.inl c1)]
    go_wp2_with fail
    go_ret;exact⟨by first | rfl | (rw[E];done) | (rw[E];rfl),B.out⟩
   have d1:decide (x.block<0)=false:=decide_eq_false c1;by_cases c2:(bl:Int)≤x.block
   ·have d2:decide (x.block≥(bl:Int))=true:=decide_eq_true c2;have E:x.form bl true=1:=by unfold MTo.form;rw[if_neg (by simp),if_pos (.inr c2)]
    go_wp2_with fail
    go_ret;exact⟨by first | rfl | (rw[E];done) | (rw[E];rfl),B.out⟩
   have d2:decide (x.block≥(bl:Int))=false:=decide_eq_false c2;have c3:¬ (x.block<0∨(bl:Int)≤x.block):=by rintro (h | h);exact c1 h;exact c2 h
   by_cases c4:16<x.regs.length
   ·have d4:decide ((x.regs.length:Int)>16)=true:=decide_eq_true (by omega);have E:x.form bl true=2:=by unfold MTo.form;rw[if_neg (by simp),if_neg c3,if_pos (.inl c4)]
    go_wp2_with fail
    go_ret;exact⟨by first | rfl | (rw[E];done) | (rw[E];rfl),B.out⟩
   have d4:decide ((x.regs.length:Int)>16)=false:=decide_eq_false (by omega);by_cases c5:8<x.args.length
   ·have d5:decide ((x.args.length:Int)>8)=true:=decide_eq_true (by omega);have E:x.form bl true=2:=by unfold MTo.form;rw[if_neg (by simp),if_neg c3,if_pos (.inr c5)]
    go_wp2_with fail
    go_ret;exact⟨by first | rfl | (rw[E];done) | (rw[E];rfl),B.out⟩
   ·have d5:decide ((x.args.length:Int)>8)=false:=decide_eq_false (by omega);have E:x.form bl true=0:=by unfold MTo.form;rw[if_neg (by simp),if_neg c3,if_neg (by rintro (h | h);exact c4 h;exact c5 h)]
    go_wp2_with fail
    go_ret;exact⟨by first | rfl | (rw[E];done) | (rw[E];rfl),B.out⟩
theorem QcQ {x:MEnd}{e:EP}{fr:Int}{fp fq fb:Option Addr}{fl fc fm fd bl fe:Nat}{w:World}(hs:x.yes.regs.length<2305843009213693952∧x.yes.args.length<2305843009213693952∧x.no.regs.length<2305843009213693952∧x.no.args.length<2305843009213693952) (hbl:bl<2305843009213693952) :
 Rd prog 79 #[.agg #[.int .i64 fr,.slice fp fl fc,.slice fq fm fd,.slice fb bl fe],.agg #[.int .i64 x.op,.int .i64 x.a,.int .i64 x.yes.block,.slice e.pYR x.yes.regs.length e.cYR,.slice e.pYA x.yes.args.length e.cYA,.int .i64 x.no.block,.slice e.pNR x.no.regs.length e.cNR,.slice e.pNA x.no.args.length e.cNA,.slice e.pA x.args.length e.cA]] w (.int .i64 (x.form bl)):=by
 have HS:=QH hs;have b1:=QN w (.cells #[.int .i64 fr,.slice fp fl fc,.slice fq fm fd,.slice fb bl fe] 55);have B:Hid (Below w.heap.size w ((w.alloc (.cells #[.int .i64 fr,.slice fp fl fc,.slice fq fm fd,.slice fb bl fe] 55)).alloc (.cells #[.int .i64 x.op,.int .i64 x.a,.int .i64 x.yes.block,.slice e.pYR x.yes.regs.length e.cYR,.slice e.pYA x.yes.args.length e.cYA,.int .i64 x.no.block,.slice e.pNR x.no.regs.length e.cNR,.slice e.pNA x.no.args.length e.cNA,.slice e.pA x.args.length e.cA] 47))):=b1.trans ((QN _ _).mono b1.size);have XF:Hid (Blk ((w.alloc (.cells #[.int .i64 fr,.slice fp fl fc,.slice fq fm fd,.slice fb bl fe] 55)).alloc (.cells #[.int .i64 x.op,.int .i64 x.a,.int .i64 x.yes.block,.slice e.pYR x.yes.regs.length e.cYR,.slice e.pYA x.yes.args.length e.cYA,.int .i64 x.no.block,.slice e.pNR x.no.regs.length e.cNR,.slice e.pNA x.no.args.length e.cNA,.slice e.pA x.args.length e.cA] 47)) w.heap.size #[.int .i64 fr,.slice fp fl fc,.slice fq fm fd,.slice fb bl fe] 55):=Blk.new1 ..;have XE:Hid (Blk ((w.alloc (.cells #[.int .i64 fr,.slice fp fl fc,.slice fq fm fd,.slice fb bl fe] 55)).alloc (.cells #[.int .i64 x.op,.int .i64 x.a,.int .i64 x.yes.block,.slice e.pYR x.yes.regs.length e.cYR,.slice e.pYA x.yes.args.length e.cYA,.int .i64 x.no.block,.slice e.pNR x.no.regs.length e.cNR,.slice e.pNA x.no.args.length e.cNA,.slice e.pA x.args.length e.cA] 47)) (w.heap.size+1) #[.int .i64 x.op,.int .i64 x.a,.int .i64 x.yes.block,.slice e.pYR x.yes.regs.length e.cYR,.slice e.pYA x.yes.args.length e.cYA,.int .i64 x.no.block,.slice e.pNR x.no.regs.length e.cNR,.slice e.pNA x.no.args.length e.cNA,.slice e.pA x.args.length e.cA] 47):=Blk.new2 ..;clear b1 hs;unfold Rd;go_enter func79,ntmps79
 go_upto_region 1 with fail
 generalize (w.alloc (.cells #[.int .i64 fr,.slice fp fl fc,.slice fq fm fd,.slice fb bl fe] 55)).alloc (.cells #[.int .i64 x.op,.int .i64 x.a,.int .i64 x.yes.block,.slice e.pYR x.yes.regs.length e.cYR,.slice e.pYA x.yes.args.length e.cYA,.int .i64 x.no.block,.slice e.pNR x.no.regs.length e.cNR,.slice e.pNA x.no.args.length e.cNA,.slice e.pA x.args.length e.cA] 47)=w1 at B XF XE ⊢;generalize w.heap.size+1=Y at XE ⊢;generalize w.heap.size=X at XF ⊢;have e0:=Qb XE.out 0 _ rfl;have e1:=Qb XE.out 1 _ rfl;have e8:=Qb XE.out 8 _ rfl;go_cut [13] (fun v wx=>v=.bool (decide (x.op<1)||decide (x.op>3))∧wx=w1)
 case first =>
  rcases Bool.eq_false_or_eq_true (decide (x.op<1)) with d0 | d0
  all_goals rcases Bool.eq_false_or_eq_true (decide (x.op>3)) with d1 | d1
  all_goals
   go_wp2
   go_meet;exact⟨by rw[d0,d1];rfl,rfl⟩
 case rest =>
  obtain⟨rfl,hw⟩:=hcut
  replace hw:=hw.symm;subst hw;by_cases c1:x.op<1∨3<x.op
  ·have d:(decide (x.op<1)||decide (x.op>3))=true:=by rw[← Bool.decide_or];exact decide_eq_true c1
   rw[d]
   have E:x.form bl=3:=if_pos c1;go_wp2_with fail
   go_ret;exact⟨by first | rfl | (rw[E];done) | (rw[E];rfl),B.out⟩
  have d:(decide (x.op<1)||decide (x.op>3))=false:=by rw[← Bool.decide_or];exact decide_eq_false c1
  rw[d]
  go_upto_region 3 with fail
  go_cut [32] (fun v wx=>v=.bool ((x.a != 0&&x.op != 2)||(decide (0<x.args.length)&&x.op != 3))∧wx=w1)
  case first =>
   rcases Bool.eq_false_or_eq_true (x.a != 0) with d0 | d0
   all_goals rcases Bool.eq_false_or_eq_true (x.op != 2) with d1 | d1
   all_goals rcases Bool.eq_false_or_eq_true (decide (0<x.args.length)) with d2 | d2
   all_goals rcases Bool.eq_false_or_eq_true (x.op != 3) with d3 | d3
   all_goals
    go_wp2
    go_meet;exact⟨by rw[d0,d1,d2,d3];rfl,rfl⟩
  case rest =>
   obtain⟨rfl,hw⟩:=hcut
   replace hw:=hw.symm;subst hw;by_cases c2:(x.a≠0∧x.op≠2)∨(0<x.args.length∧x.op≠3)
   ·have d:((x.a != 0&&x.op != 2)||(decide (0<x.args.length)&&x.op != 3))=true:=by simp only[Bool.or_eq_true,Bool.and_eq_true,bne_iff_ne,decide_eq_true_eq];omega
    rw[d]
    have E:x.form bl=4:=by unfold MEnd.form;rw[if_neg c1,if_pos c2]
    clear c2;go_wp2_with fail
    go_ret;exact⟨by first | rfl | (rw[E];done) | (rw[E];rfl),B.out⟩
   have d:((x.a != 0&&x.op != 2)||(decide (0<x.args.length)&&x.op != 3))=false:=by rw[Bool.eq_false_iff];simp only[ne_eq,Bool.or_eq_true,Bool.and_eq_true,bne_iff_ne,decide_eq_true_eq];omega
   rw[d]
   by_cases c3:8<x.args.length
   ·have d3:(8:Int)<x.args.length:=by omega
    have E:x.form bl=2:=by unfold MEnd.form;rw[if_neg c1,if_neg c2,if_pos c3]
    go_wp2_with fail
    go_ret;exact⟨by first | rfl | (rw[E];done) | (rw[E];rfl),B.out⟩
   have d3:¬ (8:Int)<x.args.length:=by omega
   have FB:Hid (x.form bl=if x.yes.form bl (decide (x.op≠3))≠0 then x.yes.form bl (decide (x.op≠3)) else x.no.form bl (decide (x.op=2))):=by show _=_;unfold MEnd.form;rw[if_neg c1,if_neg c2,if_neg c3]
   have q3:(x.op != 3)=decide (x.op≠3):=by rw[Bool.eq_iff_iff];simp
   have q2:(x.op==2)=decide (x.op=2):=by rw[Bool.eq_iff_iff];simp
   have x0:=Qb XF.out 0 _ rfl;have x1:=Qb XF.out 1 _ rfl;have x2:=Qb XF.out 2 _ rfl;have x3:=Qb XF.out 3 _ rfl;have e2:=Qb XE.out 2 _ rfl;have e3:=Qb XE.out 3 _ rfl;have e4:=Qb XE.out 4 _ rfl;have CY:=QH (Qdr (x:=x.yes) (pR:=e.pYR) (cR:=e.cYR) (pA:=e.pYA) (cA:=e.cYA) (fr:=fr) (fp:=fp) (fl:=fl) (fc:=fc) (fq:=fq) (fm:=fm) (fd:=fd) (fb:=fb) (fe:=fe) (w:=w1) (decide (x.op≠3)) HS.out.1 HS.out.2.1 hbl);unfold Rd at CY;rw[← q3] at CY FB
   rw[← q2] at FB
   clear c1 c2 c3 q2 q3;go_wp2_with fail
   refine CY.out.mono ?_;rintro _ w2 ⟨rfl,b2⟩;have B2:=QH (B.out.trans (b2.mono B.out.size));have XF2:=QH (XF.out.below b2);have XE2:=QH (XE.out.below b2);clear b2 CY x0 x1 x2 x3 e0 e1 e2 e3 e4 e8 B XF XE;by_cases c4:x.yes.form bl (x.op != 3)=0
   rotate_left
   ·have d4:(x.yes.form bl (x.op != 3) != 0)=true:=by simpa using c4
    have E:x.form bl=x.yes.form bl (x.op != 3):=by rw[FB.out,if_pos c4]
    generalize x.yes.form bl (x.op != 3)=yf at d4 E ⊢;clear c4 FB;go_wp2_with fail
    go_ret;exact⟨by first | rfl | (rw[E];done) | (rw[E];rfl),B2.out⟩
   have E:x.form bl=x.no.form bl (x.op==2):=by rw[FB.out,if_neg (fun h=>h c4)]
   rw[c4]
   clear c4 FB;have x0:=Qb XF2.out 0 _ rfl;have x1:=Qb XF2.out 1 _ rfl;have x2:=Qb XF2.out 2 _ rfl;have x3:=Qb XF2.out 3 _ rfl;have e0:=Qb XE2.out 0 _ rfl;have e5:=Qb XE2.out 5 _ rfl;have e6:=Qb XE2.out 6 _ rfl;have e7:=Qb XE2.out 7 _ rfl;have CN:=QH (Qdr (x:=x.no) (pR:=e.pNR) (cR:=e.cNR) (pA:=e.pNA) (cA:=e.cNA) (fr:=fr) (fp:=fp) (fl:=fl) (fc:=fc) (fq:=fq) (fm:=fm) (fd:=fd) (fb:=fb) (fe:=fe) (w:=w2) (x.op==2) HS.out.2.2.1 HS.out.2.2.2 hbl);unfold Rd at CN;go_wp2_with fail
   refine CN.out.mono ?_;rintro _ w3 ⟨rfl,b3⟩;have B3:=QH (B2.out.trans (b3.mono B2.out.size));clear b3 CN x0 x1 x2 x3 e0 e5 e6 e7;go_wp2_with fail
   go_ret;exact⟨by first | rfl | (rw[E];done) | (rw[E];rfl),B3.out⟩
theorem underEnd:∃ fs,prog.underlying 47=some (.struct fs):=⟨_,underlying47⟩
theorem sizeEnd:(prog.info? 47).map (·.size)=some 9:=by kernel_rfl
abbrev ZT (x:MEnd) (e:EP):Array Value:=#[.int .i64 x.op,.int .i64 x.a,.int .i64 x.yes.block,.slice e.pYR x.yes.regs.length e.cYR,.slice e.pYA x.yes.args.length e.cYA,.int .i64 x.no.block,.slice e.pNR x.no.regs.length e.cNR,.slice e.pNA x.no.args.length e.cNA,.slice e.pA x.args.length e.cA]
structure Qa2 (w:World) (Q:Nat→Prop) (x:MEnd) (e:EP):Prop where
 yr:intsL.In w Q x.yes.regs [.slice e.pYR x.yes.regs.length e.cYR]
 ya:intsL.In w Q x.yes.args [.slice e.pYA x.yes.args.length e.cYA]
 nr:intsL.In w Q x.no.regs [.slice e.pNR x.no.regs.length e.cNR]
 na:intsL.In w Q x.no.args [.slice e.pNA x.no.args.length e.cNA]
 ar:intsL.In w Q x.args [.slice e.pA x.args.length e.cA]
theorem Qa2.below {w w':World}{Q:Nat→Prop}{x:MEnd}{e:EP}(h:Qa2 w Q x e) (k:Below w.heap.size w w'):Qa2 w' Q x e :=
 ⟨Lay.below h.yr k,Lay.below h.ya k,Lay.below h.nr k,Lay.below h.na k,Lay.below h.ar k⟩
structure EnS (w wc:World) (b X:Nat) (O Q:Nat→Prop) (s:JSt) (x:MEnd) (e:EP):Prop where
 known:KAt wc b O s
 box:Blk wc X (ZT x e) 47
 lists:Qa2 wc Q x e
 bel:Below w.heap.size w wc
theorem EnS.below {w wc w':World}{b X:Nat}{O Q:Nat→Prop}{s:JSt}{x:MEnd}{e:EP}(h:EnS w wc b X O Q s x e) (k:Below wc.heap.size wc w'):EnS w w' b X O Q s x e :=
 ⟨h.known.below k,(k.block X (lt_of_block h.box)).trans h.box,h.lists.below k,h.bel.trans (k.mono h.bel.size)⟩
theorem EnS.range {w wc:World}{b X:Nat}{O Q:Nat→Prop}{s:JSt}{x:MEnd}{e:EP}(h:EnS w wc b X O Q s x e):wc.rangeAt X 0 (ZT x e).toList:=fun j v hj=>by
 rw[Nat.zero_add]
 rw[Array.getElem?_toList] at hj
 exact Qb h.box j v hj
theorem EnS.cells {w wc:World}{b X:Nat}{O Q:Nat→Prop}{s:JSt}{x:MEnd}{e:EP}(h:EnS w wc b X O Q s x e):wc.cell? ⟨X,0,none⟩=some (.int .i64 x.op)∧wc.cell? ⟨X,1,none⟩=some (.int .i64 x.a)∧wc.cell? ⟨X,2,none⟩=some (.int .i64 x.yes.block)∧wc.cell? ⟨X,3,none⟩=some (.slice e.pYR x.yes.regs.length e.cYR)∧wc.cell? ⟨X,4,none⟩=some (.slice e.pYA x.yes.args.length e.cYA)∧wc.cell? ⟨X,5,none⟩=some (.int .i64 x.no.block)∧wc.cell? ⟨X,6,none⟩=some (.slice e.pNR x.no.regs.length e.cNR)∧wc.cell? ⟨X,7,none⟩=some (.slice e.pNA x.no.args.length e.cNA)∧wc.cell? ⟨X,8,none⟩=some (.slice e.pA x.args.length e.cA) :=
 ⟨Qb h.box 0 _ rfl,Qb h.box 1 _ rfl,Qb h.box 2 _ rfl,Qb h.box 3 _ rfl,Qb h.box 4 _ rfl,Qb h.box 5 _ rfl,Qb h.box 6 _ rfl,Qb h.box 7 _ rfl,Qb h.box 8 _ rfl⟩
theorem QjJ (n:Nat):(Qa3 n).length=n:=by unfold Qa3;simp
theorem QiH (n:Nat):Qa3 (n+1)=Qa3 n++[(n:Int)]:=by unfold Qa3;rw[List.range_succ,List.map_append];rfl
theorem Zw {nb:Nat}{t:MTo}(h:t.form nb true=0):(0≤t.block∧t.block<nb)∧t.regs.length≤16∧t.args.length≤8:=by
 unfold MTo.form at h;rw[if_neg (by simp)] at h
 split at h
 ·cases h
 split at h
 ·cases h
 omega
def QlY (b X fl c1 fm c2 bl c3:Nat) (fr cf:Int) (a1 a2 a3:Option Addr) (x:MEnd) (e:EP) (t:Tmp) (v:Value) (w:World):Prop :=
 v=(([(0,.pointer (some ⟨b,0,none⟩)),(3,.pointer (some ⟨X,0,none⟩)),(13,.pointer (some ⟨b,0,none⟩)),(14,.pointer (some ⟨b,0,none⟩)),(15,.pointer (some ⟨b,1,none⟩)),(16,.agg #[.int .i64 fr,.slice a1 fl c1,.slice a2 fm c2,.slice a3 bl c3]),(17,.agg (ZT x e)),(18,.int .i64 cf),(5,.int .i64 cf)]:List (Tmp × Value)).lookup t).getD undef
theorem ke1 {w6:World}{b X fl c1 fm c2 bl c3:Nat}{fr cf:Int}{a1 a2 a3:Option Addr}{x:MEnd}{e:EP}(q1:w6.cell? ⟨b,1,none⟩=some (.int .i64 fr)) (q2:w6.cell? ⟨b,2,none⟩=some (.slice a1 fl c1)) (q3:w6.cell? ⟨b,3,none⟩=some (.slice a2 fm c2)) (q4:w6.cell? ⟨b,4,none⟩=some (.slice a3 bl c3)) (HX:Hid (w6.rangeAt X 0 (ZT x e).toList)) (HS:Hid (x.yes.regs.length<2305843009213693952∧x.yes.args.length<2305843009213693952∧x.no.regs.length<2305843009213693952∧x.no.args.length<2305843009213693952)) (hbl:bl<2305843009213693952) (HC:Hid (x.form bl=cf))
 (a:Act) (m:Nat) (hn:a.tmps.size=m) (hn':97≤m) (h0:a.tmps.getD 0 undef=.pointer (some ⟨b,0,none⟩)) (h3:a.tmps.getD 3 undef=.pointer (some ⟨X,0,none⟩)) :
 Code.wp prog ((Tryz.f32.body.bind (Qj 1)).getD .skip) (fun e a' w'=>e=.normal∧∃ vs,a'=Q5 a vs [13,14,15,16,17,18,5]∧vs 5=.int .i64 cf∧Below w6.heap.size w6 w') a w6:=by
 conv=>arg 2;whnf
 refine Qw (QlY b X fl c1 fm c2 bl c3 fr cf a1 a2 a3 x e) (fun w=>Below w6.heap.size w6 w) (fun w w'=>Below w.heap.size w w') (outs:=[0,3]) (gs:=[]) (bs:=[true,true,true,true,true,true,true]) (by kernel_rfl) (n:=97) hn hn' (by kernel_rfl) ?hR ?hG (Qf Zr 1) ⟨h0,h3,trivial⟩ ?hA ?hend
 case hR=>exact fun t v w w' _ h=>h
 case hG=>exact trivial
 case hend=>exact fun vs w' hW hk=>⟨rfl,vs,rfl,hk 5 (by kernel_rfl),hW⟩
 case hA =>
  iterate 4
   refine⟨fun a w hW hk K hK=>?_,?_⟩
   ·obtain⟨k0,-⟩:=hk
    conv at k0=>whnf;rhs;whnf
    have u0:=Qi q1 hW;have u1:=Qi q2 hW;have u2:=Qi q3 hW;have u3:=Qi q4 hW;go_simp;exact hK _ _ Zr hW rfl
  refine⟨fun a w hW hk K hK=>?_,?_⟩
  ·obtain⟨k0,-⟩:=hk
   conv at k0=>whnf;rhs;whnf
   obtain⟨fs,hfs⟩:=underEnd
   refine wp_load_mid 47 (.tmp 3) rfl X 0 k0 (ZT x e).toList _ (Q9 HX.out hW) hfs rfl sizeEnd ?_;exact hK _ _ Zr hW rfl
  refine⟨fun a w hW hk K hK=>?_,?_⟩
  ·obtain⟨k0,k1,-⟩:=hk
   conv at k0=>whnf;rhs;whnf
   conv at k1=>whnf;rhs;whnf
   go_simp;refine Calls.mono (QcQ (x:=x) (e:=e) HS.out hbl) ?_;rw[HC.out];rintro r7 w7 ⟨rfl,b7⟩;go_simp;exact hK _ _ b7 (hW.trans (b7.mono hW.size)) rfl
  refine⟨fun a w hW hk K hK=>?_,?_⟩
  ·obtain⟨k0,-⟩:=hk
   conv at k0=>whnf;rhs;whnf
   go_simp;exact hK _ _ Zr hW rfl
  trivial
def Qlm (b X na ca fm c2 on oc:Nat) (p:Int) (pa a2 oa:Option Addr) (t:Tmp) (v:Value) (w:World):Prop :=
 v=(([(0,.pointer (some ⟨b,0,none⟩)),(3,.pointer (some ⟨X,0,none⟩)),(8,.slice oa on oc),(63,.pointer (some ⟨b,0,none⟩)),(64,.pointer (some ⟨X,8,none⟩)),(65,.slice pa na ca),(66,.pointer (some ⟨b,0,none⟩)),(67,.pointer (some ⟨b,0,none⟩)),(68,.pointer (some ⟨b,1,none⟩)),(69,.pointer (some ⟨b,3,none⟩)),(70,.slice a2 fm c2),(71,.slice oa on oc),(72,.int .i64 p),(10,.int .i64 p)]:List (Tmp × Value)).lookup t).getD undef
theorem QlX {w6:World}{b X na ca fm c2 on oc:Nat}{p:Int}{pa a2 oa:Option Addr}{O Q1 Q2 Q3:Nat→Prop}{s:JSt}{l regs:List Int}{ts:List (TT 6)}(x8:w6.cell? ⟨X,8,none⟩=some (.slice pa na ca)) (q3:w6.cell? ⟨b,3,none⟩=some (.slice a2 fm c2)) (HN:Hid (l.length=na)) (HM:Hid (ts.length=fm)) (HO:Hid (regs.length=on)) (hn2:na≤100000) (hm2:fm≤100000) (hL:s.L.length≤80) (HA:Hid (intsL.In w6 Q1 l [.slice pa na ca])) (HT:Hid ((Qm 6).In w6 Q2 ts [.slice a2 fm c2])) (HR:Hid (intsL.In w6 Q3 regs [.slice oa on oc])) (HCC:Hid (∀ t∈ts,t.count≤2000)) (HK:Hid (KAt w6 b O s)) (HP:Hid (s.args l ts regs=p))
 (a:Act) (m:Nat) (hn:a.tmps.size=m) (hn':97≤m) (h0:a.tmps.getD 0 undef=.pointer (some ⟨b,0,none⟩)) (h3:a.tmps.getD 3 undef=.pointer (some ⟨X,0,none⟩)) (h8:a.tmps.getD 8 undef=.slice oa on oc) :
 Code.wp prog ((Tryz.f32.body.bind (Qj 20)).getD .skip) (fun e a' w'=>e=.normal∧∃ vs,a'=Q5 a vs [63,64,65,66,67,68,69,70,71,72,10]∧vs 10=.int .i64 p∧Below w6.heap.size w6 w') a w6:=by
 conv=>arg 2;whnf
 refine Qw (Qlm b X na ca fm c2 on oc p pa a2 oa) (fun w=>Below w6.heap.size w6 w) (fun w w'=>Below w.heap.size w w') (outs:=[0,3,8]) (gs:=[]) (bs:=[true,true,true,true,true,true,true,true,true,true,true]) (by kernel_rfl) (n:=97) hn hn' (by kernel_rfl) ?hR ?hG (Qf Zr 1) ⟨h0,h3,h8,trivial⟩ ?hA ?hend
 case hR=>exact fun t v w w' _ h=>h
 case hG=>exact trivial
 case hend=>exact fun vs w' hW hk=>⟨rfl,vs,rfl,hk 10 (by kernel_rfl),hW⟩
 case hA =>
  iterate 9
   refine⟨fun a w hW hk K hK=>?_,?_⟩
   ·obtain⟨k0,-⟩:=hk
    conv at k0=>whnf;rhs;whnf
    have u0:=Qi x8 hW;have u1:=Qi q3 hW;go_simp;exact hK _ _ Zr hW rfl
  refine⟨fun a w hW hk K hK=>?_,?_⟩
  ·obtain⟨k0,k1,k2,k3,-⟩:=hk
   conv at k0=>whnf;rhs;whnf
   conv at k1=>whnf;rhs;whnf
   conv at k2=>whnf;rhs;whnf
   conv at k3=>whnf;rhs;whnf
   go_simp;refine(QcL HN.out HM.out HO.out hn2 hm2 hL (Lay.below HA.out hW) (Lay.below HT.out hW) (Lay.below HR.out hW) HCC.out (HK.out.below hW)).mono ?_;rw[HP.out];rintro r7 w7 ⟨rfl,b7⟩
   go_simp;exact hK _ _ b7 (hW.trans (b7.mono hW.size)) rfl
  refine⟨fun a w hW hk K hK=>?_,?_⟩
  ·obtain⟨k0,-⟩:=hk
   conv at k0=>whnf;rhs;whnf
   go_simp;exact hK _ _ Zr hW rfl
  trivial
theorem Qi6 {w:World}{b:Nat}{O Q:Nat→Prop}{s:JSt}{x:MEnd}{e:EP}(hJ:JOk s) (h:KAt w b O s) (hx:Qa2 w Q x e) (hcap:x.yes.regs.length≤e.cYR∧x.no.regs.length≤e.cNR) (hs:x.yes.regs.length≤100000∧x.yes.args.length≤100000∧x.no.regs.length≤100000∧x.no.args.length≤100000) :
 Calls prog 32 #[.pointer (some ⟨b,0,none⟩),.agg (ZT x e)] w fun r w'=>r=.returned (.int .i64 (s.fin x))∧Below w.heap.size w w':=by
 have HJ:=Qa hJ;obtain⟨i0,hi,hz0,hz1,hz2⟩:=pInfoI
 have b1:=QN w (.cells (ZT x e) 47);have S0:Hid (EnS w (w.alloc (.cells (ZT x e) 47)) b w.heap.size O Q s x e):=⟨h.below b1,Qe w _ _,hx.below b1,b1⟩;clear h hx b1 hJ;go_enter func32,ntmps32
 go_upto_region 1 with fail
 obtain⟨X,hX⟩:∃ X,w.heap.size=X:=⟨_,rfl⟩
 unfold ZT at S0;generalize hw1:w.alloc (.cells #[.int .i64 x.op,.int .i64 x.a,.int .i64 x.yes.block,.slice e.pYR x.yes.regs.length e.cYR,.slice e.pYA x.yes.args.length e.cYA,.int .i64 x.no.block,.slice e.pNR x.no.regs.length e.cNR,.slice e.pNA x.no.args.length e.cNA,.slice e.pA x.args.length e.cA] 47)=w1 at S0 ⊢;have S1:Hid (EnS w w1 b X O Q s x e):=by rw[← hX];exact S0.out
 rw[hX]
 clear hw1 hX S0;obtain⟨pm,cm,a1,c1,a2,c2,a3,c3,hh,aL,cL,R⟩:=S1.out.known.read
 obtain⟨-,q1,q2,q3,q4,-,-⟩:=R.cells
 have HFR:=Qa (HJ.out.mod.2 s.f HJ.out.fn);have HS:Hid (x.yes.regs.length<2305843009213693952∧x.yes.args.length<2305843009213693952∧x.no.regs.length<2305843009213693952∧x.no.args.length<2305843009213693952):=by show _∧_;omega
 have E:Hid (s.fin x=if x.form s.f.blocks.length≠0 then x.form s.f.blocks.length else if x.op=1 then s.to x.yes else if x.op=2 then code2 (s.want x.a 1 false) (code2 (s.to x.yes) (s.to x.no)) else code2 (s.args x.args s.f.results (Qa3 s.f.regs.toNat)) (if (hList s.H).all (fun r=>decide (r<s.f.regs)) then 0 else 12)):=by
  show _=_;rw[JSt.fin]
 have HCF:Hid (x.form s.f.blocks.length=x.form s.f.blocks.length):=rfl;refine Code.wp_mono ?_ (ke1 q1 q2 q3 q4 (show Hid _ from S1.out.range) HS (by have:=HFR.out.many.2;omega) HCF _ _ rfl (Nat.le_of_ble_eq_true (by kernel_rfl)) rfl rfl);rintro ee aa w5 ⟨rfl,vs,rfl,hv5,hb⟩;simp only[Q5,Act.put,List.setIfInBounds_toArray,List.set_cons_zero,List.set_cons_succ,hv5]
 have S:Hid (EnS w w5 b X O Q s x e):=S1.out.below hb;clear S1 hb hv5 q1 q2 q3 q4 R HCF HS;obtain⟨cf,hcf⟩:∃ cf,x.form s.f.blocks.length=cf:=⟨_,rfl⟩
 have HCF:Hid (x.form s.f.blocks.length=cf):=hcf;rw[hcf] at E ⊢
 clear hcf;by_cases hc0:cf=0
 rotate_left
 ·have hc0':(cf != 0)=true:=by simpa using hc0
  have E2:Hid (s.fin x=cf):=by show _=_;rw[E.out,if_pos hc0]
  clear E;go_wp2_with fail
  go_ret;exact⟨by rw[E2.out];rfl,S.out.bel⟩
 subst hc0;have E1:=E.out;rw[if_neg (by simp)] at E1
 clear E;have HZ:=Qa (Qf9 HFR.out.many.2 HCF.out);obtain⟨x0,x1,x2,x3,x4,x5,x6,x7,x8⟩:=S.out.cells
 rcases HZ.out.1 with hop | hop | hop
 ·have E2:Hid (s.fin x=s.to x.yes):=by show _=_;rw[E1,if_pos hop]
  have h1:Hid (x.yes.form s.f.blocks.length true=0):=by have:=HZ.out.2.2.2.2.1;rw[hop] at this;exact this
  rw[hop] at x0
  clear E1;go_wp2_with fail
  refine(Qfy (x:=x.yes) HJ.out S.out.known S.out.lists.yr S.out.lists.ya hcap.1 (Zw h1.out).2.1 (Zw h1.out).2.2 (Zw h1.out).1).mono ?_
  rintro e9 w9 ⟨rfl,b9⟩;have S9:Hid (EnS w w9 b X O Q s x e):=S.out.below b9;clear b9;go_wp2_with fail
  go_ret;exact⟨by rw[E2.out];rfl,S9.out.bel⟩
 ·have E2:Hid (s.fin x=code2 (s.want x.a 1 false) (code2 (s.to x.yes) (s.to x.no))):=by show _=_;rw[E1,if_neg (by omega),if_pos hop]
  have h1:Hid (x.yes.form s.f.blocks.length true=0):=by have:=HZ.out.2.2.2.2.1;rw[hop] at this;exact this
  have h2:Hid (x.no.form s.f.blocks.length true=0):=by have:=HZ.out.2.2.2.2.2;rw[hop] at this;exact this
  rw[hop] at x0
  clear E1;go_wp2_with fail
  refine(Q4 x.a 1 false HJ.out.regs HJ.out.vals S.out.known).mono ?_
  rintro e8 w8 ⟨rfl,n8,hw8⟩;have S8:Hid (EnS w w8 b X O Q s x e):=S.out.below (by rw[hw8];exact Qf Zr n8);clear hw8 S;have S:=S8;clear S8 x0 x1 x2 x3 x4 x5 x6 x7 x8;obtain⟨x0,x1,x2,x3,x4,x5,x6,x7,x8⟩:=S.out.cells
  rw[hop] at x0
  generalize s.want x.a 1 false=cw at E2 ⊢;by_cases hcw:cw=0
  rotate_left
  ·have hcw':(cw != 0)=true:=by simpa using hcw
   have E3:Hid (s.fin x=cw):=by show _=_;rw[E2.out];unfold code2;rw[if_neg hcw]
   clear E2;go_wp2_with fail
   go_ret;exact⟨by rw[E3.out];rfl,S.out.bel⟩
  subst hcw;have E3:Hid (s.fin x=code2 (s.to x.yes) (s.to x.no)):=by show _=_;rw[E2.out];rfl
  clear E2;go_wp2_with fail
  refine(Qfy (x:=x.yes) HJ.out S.out.known S.out.lists.yr S.out.lists.ya hcap.1 (Zw h1.out).2.1 (Zw h1.out).2.2 (Zw h1.out).1).mono ?_
  rintro e9 w9 ⟨rfl,b9⟩;have S9:Hid (EnS w w9 b X O Q s x e):=S.out.below b9;clear b9;clear S;have S:=S9;clear S9 x0 x1 x2 x3 x4 x5 x6 x7 x8;obtain⟨x0,x1,x2,x3,x4,x5,x6,x7,x8⟩:=S.out.cells
  rw[hop] at x0
  generalize s.to x.yes=cy at E3 ⊢;by_cases hcy:cy=0
  rotate_left
  ·have hcy':(cy != 0)=true:=by simpa using hcy
   have E4:Hid (s.fin x=cy):=by show _=_;rw[E3.out];unfold code2;rw[if_neg hcy]
   clear E3;go_wp2_with fail
   go_ret;exact⟨by rw[E4.out];rfl,S.out.bel⟩
  subst hcy;have E4:Hid (s.fin x=s.to x.no):=by show _=_;rw[E3.out];rfl
  clear E3;go_wp2_with fail
  refine(Qfy (x:=x.no) HJ.out S.out.known S.out.lists.nr S.out.lists.na hcap.2 (Zw h2.out).2.1 (Zw h2.out).2.2 (Zw h2.out).1).mono ?_
  rintro e9 w9 ⟨rfl,b9⟩;have S9:Hid (EnS w w9 b X O Q s x e):=S.out.below b9;clear b9;go_wp2_with fail
  go_ret;exact⟨by rw[E4.out];rfl,S9.out.bel⟩
 ·have E2:Hid (s.fin x=code2 (s.args x.args s.f.results (Qa3 s.f.regs.toNat)) (if (hList s.H).all (fun r=>decide (r<s.f.regs)) then 0 else 12)):=by show _=_;rw[E1,if_neg (by omega),if_neg (by omega)]
  have hal:x.args.length≤8:=HZ.out.2.2.2.1;obtain⟨pm,cm,a1,c1,a2,c2,a3,c3,hh,aL,cL,R⟩:=S.out.known.read
  obtain⟨-,q1,q2,q3,q4,q5,-⟩:=R.cells
  have HHO:Hid (Qk w5 hh O s.H):=R.holds;have HRC:Hid (s.f.results.length≤8):=HFR.out.results.1;have HCR:Hid (∀ t∈s.f.results,t.count≤2000):=fun t ht=>Nat.le_of_not_lt fun hlt=>HJ.out.tiny (.inr ⟨s.f,HJ.out.fn,.inr (.inr (.inl (.inr ⟨t,ht,hlt⟩)))⟩);obtain⟨fa,fc,fb,fd,fe,ff,ecs,-,hres,-,-⟩:=ZH R.fn
  simp only[List.cons.injEq,Value.slice.injEq,and_true,true_and] at ecs
  obtain⟨-,⟨rfl,rfl⟩,-⟩:=ecs
  have HRS:Hid ((Qm 6).In w5 (fun g=>¬ O g) s.f.results [.slice a2 s.f.results.length c2]):=hres;obtain⟨fr,hfr⟩:=Int.eq_ofNat_of_zero_le HFR.out.regs.1
  have hfr6:fr≤6:=by have:=HFR.out.regs.2;omega
  rw[hfr] at q1 E2
  rw[Int.toNat_natCast] at E2
  rw[hop] at x0
  clear E1 R hres hfr q2 q4;go_wp2_with fail
  go_loopw [8,9] (fun v u wr=>∃ k cs,u=.int .i64 (k:Nat)∧k≤fr∧ZS Lay.int 3 wr w5.heap.size v (Qa3 k) cs∧Below w5.heap.size w5 wr) (fun _ u _=>fr - (intOf u).toNat)
  case atStart=>exact⟨0,[],rfl,Nat.zero_le _,ZS.nil _ _ _ _,Zr⟩
  case round =>
   obtain⟨k,cs,rfl,hk,hA,hB⟩:=hrel
   obtain⟨a,c,rfl⟩:=hA.formP
   have HA:Hid (ZS Lay.int 3 wr w5.heap.size (.slice a (Qa3 k).length c) (Qa3 k) cs):=hA;have HB:Hid (Below w5.heap.size w5 wr):=hB;have hlen:(Qa3 k).length≤6:=by rw[QjJ];omega
   have hsz:w5.heap.size≤wr.heap.size:=hB.size;have q1':=Qi q1 hB;clear hA hB;by_cases hlt:k<fr
   ·have hlt':(k:Int)<fr:=by omega
    have E9:Hid (Qa3 (k+1)=Qa3 k++[(k:Int)]):=QiH k;have hown:Hid (wr.ownsRow w5.heap.size 3 1 (.slice a (Qa3 k).length c) (Qa3 k).length cs):=HA.out.own
    have PU:Hid (∀ g cap w9,w9.ownsRow w5.heap.size 3 1 (.slice (some ⟨g,0,none⟩) ((Qa3 k).length+1) cap) ((Qa3 k).length+1) (cs++[.int .i64 (k:Int)])→(wr.alloc (.cells #[.int .i64 (k:Int)] 3)).grownBy w9 (Value.slice a (Qa3 k).length c).ownBlock→((Value.slice a (Qa3 k).length c).ownBlock=some g∨g=wr.heap.size+1) →
     ZS Lay.int 3 w9 w5.heap.size (.slice (some ⟨g,0,none⟩) ((Qa3 k).length+1) cap) (Qa3 (k+1)) (cs++[.int .i64 (k:Int)])∧Below w5.heap.size w5 w9):=by
     intro g cap w9 h1 h2 h3;obtain⟨q1,q2⟩:=Qbw HA.out (by omega) hsz h1 h2 h3
     rw[E9.out]
     exact⟨q1,q2 w5 HB.out⟩
    clear HA HB E9;generalize (Qa3 k).length=n at hown PU hlen ⊢;go_wp2_with (at_builtin;refine wpList_append_lies _ rfl (.tmp 59) (.tmp 61) 43 rfl w5.heap.size 3 i0 (.int .i64 0) 1 8 pUnderI hi hz0 hz1 hz2 rfl (by decide) _ _ _ rfl (hown.out.alloc _) ⟨wr.heap.size,0,none⟩ 1 1 [.int .i64 (k:Int)] rfl rfl (QgV _ [_] _) (Qj0 _) (by decide) (by unfold maxLen;omega) (by omega) (by simp;omega) (wr.heap.size+1) (by simp) ?_)
    intro g2 cap2 w9 h1 hgrow hat hlt1;obtain⟨z1,z2⟩:=PU.out g2 cap2 w9 h1 hgrow hat
    have A9:=Qa z1;have B9:=Qa z2;clear h1 hgrow hat hlt1 hown PU z1 z2;go_wp2
    go_roundw
    case rel=>exact⟨k+1,_,by go_num,by omega,A9.out,B9.out⟩
    case measure=>simp[intOf];omega
   ·have hkf:k=fr:=by omega
    have hlt':¬ (k:Int)<fr:=by omega
    have HOW:Hid (intsL.In wr (fun g=>w5.heap.size≤g) (Qa3 k) [.slice a (Qa3 k).length c]):=HA.out.lay;have S9:Hid (EnS w wr b X O Q s x e):=S.out.below HB.out;have q3':=Qi q3 HB.out;have HT9:Hid ((Qm 6).In wr (fun g=>¬ O g) s.f.results [.slice a2 s.f.results.length c2]):=Lay.below HRS.out HB.out;have q5':=Qi q5 HB.out;have x8':=Qi x8 HB.out;have HHO9:Hid (Qk wr hh O s.H):=HHO.out.below HB.out;clear HA HB S q1 q3 q5 x0 x1 x2 x3 x4 x5 x6 x7 x8 HRS HHO hsz;have S:=S9;clear S9;subst hkf;clear hlt;go_upto_region 20 with fail
    have HAL:Hid (x.args.length=x.args.length):=rfl;have HNN:Hid ((Qa3 k).length=(Qa3 k).length):=rfl;refine Code.wp_mono ?_ (QlX x8' q3' HAL (show Hid (s.f.results.length=s.f.results.length) from rfl) HNN (by omega) (by have:=HRC.out;omega) HJ.out.vals (show Hid _ from S.out.lists.ar) HT9 HOW HCR (show Hid _ from S.out.known) (show Hid (s.args x.args s.f.results (Qa3 k)=s.args x.args s.f.results (Qa3 k)) from rfl) _ _ rfl (Nat.le_of_ble_eq_true (by kernel_rfl)) rfl rfl rfl);rintro ee aa w7 ⟨rfl,vs,rfl,hv10,hb⟩;simp only[Q5,Act.put,List.setIfInBounds_toArray,List.set_cons_zero,List.set_cons_succ,hv10]
    have S7:Hid (EnS w w7 b X O Q s x e):=S.out.below hb;have q1b:=Qi q1' hb;have q5b:=Qi q5' hb;have HHO7:Hid (Qk w7 hh O s.H):=HHO9.out.below hb;clear hb hv10 S HOW HT9 HHO9 HAL HNN q1' q3' q5' x8';have S:=S7;clear S7;generalize s.args x.args s.f.results (Qa3 k)=ca at E2 ⊢;generalize (Qa3 k).length=nk at hlen ⊢;by_cases hca:ca=0
    rotate_left
    ·have hca':(ca != 0)=true:=by simpa using hca
     have E3:Hid (s.fin x=ca):=by show _=_;rw[E2.out];unfold code2;rw[if_neg hca]
     clear E2;go_wp2_with fail
     go_ret;exact⟨by rw[E3.out];rfl,S.out.bel⟩
    subst hca;have E3:Hid (s.fin x=if (hList s.H).all (fun r=>decide (r<(k:Int))) then 0 else 12):=by show _=_;rw[E2.out];rfl
    clear E2;go_wp2_with fail
    refine(Qb5 (by have:=HJ.out.regs;omega) HHO7.out).mono ?_
    rintro e8 w8 ⟨la,lc,rfl,hl8,b8⟩;have S8:Hid (EnS w w8 b X O Q s x e):=S.out.below b8;have q18:=Qi q1b b8;have HL8:Hid (intsL.In w8 (fun g=>w7.heap.size≤g) (hList s.H) [.slice la (hList s.H).length lc]):=hl8;have hl16:(hList s.H).length≤16:=by have:=QbC s.H;have:=HJ.out.regs;omega
    clear b8 S q1b q5b hl8 HHO7;have S:=S8;clear S8;generalize hList s.H=H at E3 HL8 hl16 ⊢
    have HX:Hid (∀ i,i<H.length→∃ g o,la=some ⟨g,o,none⟩∧w8.cell? ⟨g,o+i,none⟩=some (.int .i64 (H.getD i 0))):=fun i hi=>by
     obtain⟨a1,a2,e1,-,-,e2⟩:=ZC HL8.out hi
     exact⟨a1,a2,e1,e2⟩
    go_wp2_with fail
    go_loopw [12] (fun i wr=>∃ q n:Nat,q≤H.length∧i=.int .i64 q∧wr=w8.drewN n∧∀ j,j<q→H.getD j 0<(k:Int)) (fun i _=>H.length - (intOf i).toNat)
    case atStart=>exact⟨0,0,Nat.zero_le _,rfl,rfl,fun j hj=>absurd hj (Nat.not_lt_zero _)⟩
    case round =>
     obtain⟨q,n,hq,rfl,hw,hall⟩:=hrel
     have HALL:Hid (∀ j,j<q→H.getD j 0<(k:Int)):=hall;have HW:Hid (wr=w8.drewN n):=hw;have q1r:wr.cell? ⟨b,1,none⟩=some (.int .i64 (k:Int)):=by rw[hw];exact q18
     have SR:Hid (EnS w wr b X O Q s x e):=S.out.below (by rw[hw];exact Qf Zr n);clear hall hw;by_cases hlt:q<H.length
     ·obtain⟨rgg,ro,rfl,hcx⟩:=HX.out q hlt
      have hcr:wr.cell? ⟨rgg,ro+q,none⟩=some (.int .i64 (H.getD q 0)):=by rw[HW.out];exact hcx
      have hlt2:(q:Int)<H.length:=by omega
      obtain⟨v,hv⟩:∃ v,H.getD q 0=v:=⟨_,rfl⟩
      have HV:Hid (H.getD q 0=v):=hv;rw[hv] at hcr
      clear hv hcx;by_cases hvk:v<(k:Int)
      ·have hvk':decide ((k:Int)≤v)=false:=decide_eq_false (by omega);go_wp2_with fail
       go_quiet (fail)
       go_wp2
       go_roundw
       case rel =>
        refine⟨q+1,n+nq,by omega,by go_num,by rw[HW.out,World.drewN_drewN],fun j hj=>?_⟩
        by_cases hjq:j<q
        ·exact HALL.out j hjq
        ·have:j=q:=by omega
         subst this;rw[HV.out];exact hvk
       case measure=>simp[intOf];omega
      ·have hvk':decide ((k:Int)≤v)=true:=decide_eq_true (by omega)
       have E4:Hid (s.fin x=12):=by
        show _=_;rw[E3.out,if_neg]
        intro hh
        have:=List.all_eq_true.1 hh v (by rw[← HV.out,List.getD_eq_getElem?_getD,Zg hlt];exact List.getElem_mem hlt)
        exact hvk (of_decide_eq_true this)
       clear E3;go_wp2_with fail
       go_quiet (fail)
       go_wp2
       go_ret;exact⟨by rw[E4.out];rfl,Qf SR.out.bel _⟩
     ·have E4:Hid (s.fin x=0):=by
       show _=_;rw[E3.out,if_pos]
       refine List.all_eq_true.2 fun v hv=>decide_eq_true ?_;obtain⟨j,hj,rfl⟩:=List.getElem_of_mem hv
       have:=HALL.out j (by omega)
       rwa [List.getD_eq_getElem?_getD,Zg hj] at this
      have hlt2:¬ (q:Int)<H.length:=by omega
      clear E3;go_wp2
      go_ret;exact⟨by rw[E4.out];rfl,SR.out.bel⟩
end Go.Proofs.YtacjnejckfhpoadGreat
namespace Go.Proofs.YtacjnejckfhpoadGreat
open Go.ChangeShapes Go.WideShapes Go.ChangeAt Go.RowKit Go.Deep _root_.Go.Proofs.Tryz
set_option linter.unusedVariables false
theorem Lay.Sub.via {α β:Type}{A A':Lay α}(h:Lay.Sub A A') (f:β→α):Lay.Sub (A.via f) (A'.via f):=⟨h.1,fun k=>h.2 k⟩
theorem QI.listC {P:Program}{t e:TypeId}{α:Type}{A:Lay α}{n:Nat}{Bd:α→Prop}(h:P.underlying t=some (.slice e)) (hc:P.cellsOf t=1) (hA:QI P e A n Bd) (h0:0<A.size) (hbe:0<P.bytesOf e):QI P t A.listC n (fun l=>l.length<1152921504606846976) :=
 ⟨hc,fun {H enc w base spare held fuel cs x} hf h' hw=>by
  obtain⟨l,hl,hb⟩:=(QI.list h hc hA h0 hbe).2 hf h' hw
  refine⟨l,⟨?_,hl⟩,hb⟩
  obtain⟨a,c,e,_⟩:=hl
  refine⟨a,c,e,?_⟩
  rcases DataW.trod_slice h h' with ⟨e2,_⟩|⟨a2,len,cap,elems,rest,q,_,e2,_,_,hle,_⟩
  ·rw[e] at e2
   simp at e2
   simp[e2.2.1]
  ·rw[e] at e2
   simp at e2
   omega⟩
abbrev intsC:Lay (List Int):=Lay.int.listC
def insC:Lay Qy:=(Lay.int.pair (Lay.int.pair (Lay.int.pair (Lay.int.pair (Lay.int.pair (Lay.int.pair (intsC.pair intsC))))))).via (fun x=>(x.op,x.a,x.b,x.c,x.k,x.n,x.regs,x.args))
def toC:Lay MTo:=(Lay.int.pair (intsC.pair intsC)).via (fun x=>(x.block,x.regs,x.args))
def endC:Lay MEnd:=(Lay.int.pair (Lay.int.pair (toC.pair (toC.pair intsC)))).via (fun x=>(x.op,x.a,x.yes,x.no,x.args))
def QeF (n:Nat):Lay (Qh n):=(Lay.int.pair ((Qm n).pair (insC.list.pair endC))).via (fun x=>(x.regs,x.params,x.code,x.fin))
def QjQ (n:Nat):Lay (Qg n):=(Lay.int.pair ((Qm n).pair ((Qm n).pair (QeF n).list))).via (fun x=>(x.regs,x.params,x.results,x.blocks))
abbrev Qk9 (n:Nat):Lay (List (Qg n)):=(QjQ n).list
theorem ints_sub:Lay.Sub intsC intsL:=Lay.Sub.listC _
theorem ins_sub:Lay.Sub insC insL:=.via (.pair (.refl _) (.pair (.refl _) (.pair (.refl _) (.pair (.refl _) (.pair (.refl _) (.pair (.refl _) (.pair ints_sub ints_sub))))))) _
theorem to_sub:Lay.Sub toC toL:=.via (.pair (.refl _) (.pair ints_sub ints_sub)) _
theorem end_sub:Lay.Sub endC endL:=.via (.pair (.refl _) (.pair (.refl _) (.pair to_sub (.pair to_sub ints_sub)))) _
theorem QhT (n:Nat):Lay.Sub (QeF n) (ZD n):=.via (.pair (.refl _) (.pair (.refl _) (.pair (.list ins_sub) end_sub))) _
theorem QiZ (n:Nat):Lay.Sub (QjQ n) (Zy n):=.via (.pair (.refl _) (.pair (.refl _) (.pair (.refl _) (.list (QhT n))))) _
theorem QjW (n:Nat):Lay.Sub (Qk9 n) (Qaq n):=.list (QiZ n)
section
variable {w:World}{O:Nat→Prop}{cs:List Value}
theorem Qhr {x:Qy}(h:insC.In w O x cs):∃ a c b d,cs=[.int .i64 x.op,.int .i64 x.a,.int .i64 x.b,.int .i64 x.c,.int .i64 x.k,.int .i64 x.n,.slice a x.regs.length c,.slice b x.args.length d]∧intsL.In w O x.regs [.slice a x.regs.length c]∧intsL.In w O x.args [.slice b x.args.length d]∧x.regs.length≤c∧x.args.length≤d:=by
 obtain⟨_,_,rfl,⟨rfl,_⟩,_,_,rfl,⟨rfl,_⟩,_,_,rfl,⟨rfl,_⟩,_,_,rfl,⟨rfl,_⟩,_,_,rfl,⟨rfl,_⟩,_,_,rfl,⟨rfl,_⟩,_,_,rfl,⟨⟨a,c,rfl,h1⟩,h2⟩,⟨b,d,rfl,h3⟩,h4⟩:=h
 exact⟨a,c,b,d,rfl,h2,h4,h1,h3⟩
theorem Qgj {x:MTo}(h:toC.In w O x cs):∃ a c b d,cs=[.int .i64 x.block,.slice a x.regs.length c,.slice b x.args.length d]∧intsL.In w O x.regs [.slice a x.regs.length c]∧intsL.In w O x.args [.slice b x.args.length d]∧x.regs.length≤c∧x.args.length≤d:=by
 obtain⟨_,_,rfl,⟨rfl,_⟩,_,_,rfl,⟨⟨a,c,rfl,h1⟩,h2⟩,⟨b,d,rfl,h3⟩,h4⟩:=h
 exact⟨a,c,b,d,rfl,h2,h4,h1,h3⟩
theorem QhM {x:MEnd}(h:endC.In w O x cs):∃ e:EP,cs=(ZT x e).toList∧Qa2 w O x e∧x.yes.regs.length≤e.cYR∧x.no.regs.length≤e.cNR:=by
 obtain⟨_,_,rfl,⟨rfl,_⟩,_,_,rfl,⟨rfl,_⟩,c1,_,rfl,t1,c2,_,rfl,t2,⟨pa,ca,rfl,h5⟩,h6⟩:=h
 obtain⟨a1,a2,a3,a4,rfl,k1,k2,k3,k4⟩:=Qgj t1
 obtain⟨b1,b2,b3,b4,rfl,l1,l2,l3,l4⟩:=Qgj t2
 exact⟨⟨a1,a2,a3,a4,b1,b2,b3,b4,pa,ca⟩,rfl,⟨k1,k2,l1,l2,h6⟩,k3,l3⟩
end
theorem QbI (n:Nat):QI prog 43 intsC n (fun l=>l.length<1152921504606846976):=QI.listC underlying43 (by kernel_rfl) (Qba n) (by decide) (by rw[show prog.bytesOf 3=8 from by kernel_rfl];decide)
theorem QeH (n:Nat):QI prog 59 insC n (fun x=>x.regs.length<1152921504606846976∧x.args.length<1152921504606846976):=by
 have h:=QI.struct (n:=n) (A:=Lay.int.pair (Lay.int.pair (Lay.int.pair (Lay.int.pair (Lay.int.pair (Lay.int.pair (intsC.pair intsC))))))) underlying59 (by kernel_rfl) (QL.cons rfl rfl (Qba n) (QL.cons rfl rfl (Qba n) (QL.cons rfl rfl (Qba n) (QL.cons rfl rfl (Qba n) (QL.cons rfl rfl (Qba n) (QL.cons rfl rfl (Qj7 n) (QL.cons rfl rfl (QbI n) (QL.last rfl rfl (QbI n)))))))));have h2:=h.via (f:=fun x:Qy=>(x.op,x.a,x.b,x.c,x.k,x.n,x.regs,x.args)) (fun d=>⟨d.1,d.2.1,d.2.2.1,d.2.2.2.1,d.2.2.2.2.1,d.2.2.2.2.2.1,d.2.2.2.2.2.2.1,d.2.2.2.2.2.2.2⟩) (fun d=>rfl);exact⟨h2.1,fun hf h' hw=>by obtain⟨d,hd,hb⟩:=h2.2 hf h' hw;exact⟨d,hd,hb.2.2.2.2.2.2⟩⟩
theorem Qf6 (n:Nat):QI prog 45 toC n (fun x=>x.regs.length<1152921504606846976∧x.args.length<1152921504606846976):=by
 have h:=QI.struct (n:=n) (A:=Lay.int.pair (intsC.pair intsC)) underlying45 (by kernel_rfl) (QL.cons rfl rfl (Qba n) (QL.cons rfl rfl (QbI n) (QL.last rfl rfl (QbI n))));have h2:=h.via (f:=fun x:MTo=>(x.block,x.regs,x.args)) (fun d=>⟨d.1,d.2.1,d.2.2⟩) (fun d=>rfl);exact⟨h2.1,fun hf h' hw=>by obtain⟨d,hd,hb⟩:=h2.2 hf h' hw;exact⟨d,hd,hb.2⟩⟩
theorem QeO (n:Nat):QI prog 47 endC n (fun x=>(x.yes.regs.length<1152921504606846976∧x.yes.args.length<1152921504606846976)∧(x.no.regs.length<1152921504606846976∧x.no.args.length<1152921504606846976)∧x.args.length<1152921504606846976):=by
 have h:=QI.struct (n:=n) (A:=Lay.int.pair (Lay.int.pair (toC.pair (toC.pair intsC)))) underlying47 (by kernel_rfl) (QL.cons rfl rfl (Qba n) (QL.cons rfl rfl (Qba n) (QL.cons rfl rfl (Qf6 n) (QL.cons rfl rfl (Qf6 n) (QL.last rfl rfl (QbI n))))));have h2:=h.via (f:=fun x:MEnd=>(x.op,x.a,x.yes,x.no,x.args)) (fun d=>⟨d.1,d.2.1,d.2.2.1,d.2.2.2.1,d.2.2.2.2⟩) (fun d=>rfl);exact⟨h2.1,fun hf h' hw=>by obtain⟨d,hd,hb⟩:=h2.2 hf h' hw;exact⟨d,hd,hb.2.2⟩⟩
theorem QgL (n:Nat):QI prog 42 insC.list n (fun l=>l.length<1152921504606846976):=QI.list underlying42 (by kernel_rfl) (QeH n) (by decide) (by rw[show prog.bytesOf 59=96 from by kernel_rfl];decide)
theorem QfC (n:Nat):QI prog 84 (QeF n) n (fun _=>True):=by
 have h:=QI.struct (n:=n) (A:=Lay.int.pair ((Qm n).pair (insC.list.pair endC))) underlying84 (by kernel_rfl) (QL.cons rfl rfl (Qba n) (QL.cons rfl rfl (Qfa n) (QL.cons rfl rfl (QgL n) (QL.last rfl rfl (QeO n)))));have h2:=h.via (f:=fun x:Qh n=>(x.regs,x.params,x.code,x.fin)) (fun d=>⟨d.1,d.2.1,d.2.2.1,d.2.2.2⟩) (fun d=>rfl);exact⟨h2.1,fun hf h' hw=>by obtain⟨d,hd,hb⟩:=h2.2 hf h' hw;exact⟨d,hd,trivial⟩⟩
theorem QeW (n:Nat):QI prog 53 (QeF n).list n (fun l=>l.length<1152921504606846976):=QI.list underlying53 (by kernel_rfl) (QfC n) (by show 0<12;decide) (by rw[show prog.bytesOf 84=208 from by kernel_rfl];decide)
theorem QgE (n:Nat):QI prog 55 (QjQ n) n (fun _=>True):=by
 have h:=QI.struct (n:=n) (A:=Lay.int.pair ((Qm n).pair ((Qm n).pair (QeF n).list))) underlying55 (by kernel_rfl) (QL.cons rfl rfl (Qba n) (QL.cons rfl rfl (Qfa n) (QL.cons rfl rfl (Qfa n) (QL.last rfl rfl (QeW n)))));have h2:=h.via (f:=fun x:Qg n=>(x.regs,x.params,x.results,x.blocks)) (fun d=>⟨d.1,d.2.1,d.2.2.1,d.2.2.2⟩) (fun d=>rfl);exact⟨h2.1,fun hf h' hw=>by obtain⟨d,hd,hb⟩:=h2.2 hf h' hw;exact⟨d,hd,trivial⟩⟩
theorem QfM (n:Nat):QI prog 22 (Qk9 n) n (fun l=>l.length<1152921504606846976):=QI.list underlying22 (by kernel_rfl) (QgE n) (by show 0<4;decide) (by rw[show prog.bytesOf 55=80 from by kernel_rfl];decide)
theorem Qip (n:Nat):QI prog 24 (Qk9 n) n (fun _=>True):=by
 have h:=QI.struct (n:=n) (A:=Qk9 n) underlying24 (by kernel_rfl) (QL.last rfl rfl (QfM n));exact⟨h.1,fun hf h' hw=>by obtain⟨d,hd,hb⟩:=h.2 hf h' hw;exact⟨d,hd,trivial⟩⟩
end Go.Proofs.YtacjnejckfhpoadGreat
