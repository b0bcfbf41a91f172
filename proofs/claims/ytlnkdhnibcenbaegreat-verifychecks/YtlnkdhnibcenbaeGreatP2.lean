import Derived.Test.YtlnkdhnibcenbaeGreatP1
import Derived.Laws.CopyOwn
import Derived.Deep.Upon
import Derived.Deep.RegionWith
import Derived.SizedLaws
set_option maxHeartbeats 16000000
set_option maxRecDepth 100000
namespace Go.Proofs.YtlnkdhnibcenbaeGreat
open Go.ChangeShapes Go.WideShapes Go.ChangeAt Go.RowKit _root_.Go.Proofs.Tryz
set_option linter.unusedSimpArgs false
set_option linter.unusedVariables false
variable {w w' w2 wc wr w6:World}{b n c rc ac B X m j k g i N rl al lo d cm f q cap s fm fi id fl R cR G fc fd bl o cL cA n1 lm funcs fe d1:Nat}{O Q A O':Nat→Prop}{p ag a ra aa pm pR pA na fp fq p1:Option Addr}{t e bt:TypeId}{l regs:List Int}{v v0:Value}{P:Program}{xc xa xb xk xn fr x:Int}{L:List Bool}{xs cs ds:List Value}{x0:Operand}
abbrev I64 (x:Int):Prop:=-9223372036854775808<=x/\x<=9223372036854775807
structure IP where
 pR:Option Addr
 cR:Nat
 pA:Option Addr
 cA:Nat
structure EP where
 pYR:Option Addr
 cYR:Nat
 pYA:Option Addr
 cYA:Nat
 pNR:Option Addr
 cNR:Nat
 pNA:Option Addr
 cNA:Nat
 pA:Option Addr
 cA:Nat
structure BP where
 pP:Option Addr
 cP:Nat
 pC:Option Addr
 cC:Nat
 e:EP
structure FP where
 pP:Option Addr
 cP:Nat
 pR:Option Addr
 cR:Nat
 pB:Option Addr
 cB:Nat
structure QcO (w:World) (O:Nat->Prop) (x:MTo) (pR:Option Addr) (cR:Nat) (pA:Option Addr) (cA:Nat):Prop where
 regs:intsL.In w O x.regs [.slice pR x.regs.length cR]
 args:intsL.In w O x.args [.slice pA x.args.length cA]
 bnd:I64 x.block
structure IIn (w:World) (O:Nat->Prop) (x:QC) (i:IP):Prop where
 regs:intsL.In w O x.regs [.slice i.pR x.regs.length i.cR]
 args:intsL.In w O x.args [.slice i.pA x.args.length i.cA]
 bnd:I64 x.op/\I64 x.a/\I64 x.b/\I64 x.c/\I64 x.k/\I64 x.n
structure EIn (w:World) (O:Nat->Prop) (x:MEnd) (e:EP):Prop where
 yes:QcO w O x.yes e.pYR e.cYR e.pYA e.cYA
 no:QcO w O x.no e.pNR e.cNR e.pNA e.cNA
 args:intsL.In w O x.args [.slice e.pA x.args.length e.cA]
 bnd:I64 x.op/\I64 x.a
structure BIn (w:World) (O:Nat->Prop){n:Nat}(x:Qe n) (b:BP):Prop where
 params:(Qi n).In w O x.params [.slice b.pP x.params.length b.cP]
 code:insL.list.In w O x.code [.slice b.pC x.code.length b.cC]
 fin:EIn w O x.fin b.e
 bnd:I64 x.regs
structure FIn (w:World) (O:Nat->Prop){n:Nat}(x:Qf n) (f:FP):Prop where
 params:(Qi n).In w O x.params [.slice f.pP x.params.length f.cP]
 results:(Qi n).In w O x.results [.slice f.pR x.results.length f.cR]
 blocks:(Zy n).list.In w O x.blocks [.slice f.pB x.blocks.length f.cB]
 bnd:I64 x.regs
section
variable {w w':World}{O O':Nat->Prop}{n:Nat}{cs:List Value}
theorem QcO.keep {x:MTo}(a:∀ k,O k->k<w.heap.size->w'.heap[k]?=w.heap[k]?) (b:∀ k,O k->k<w.heap.size->O' k) (h:QcO w O x pR cR pA cA):QcO w' O' x pR cR pA cA:=⟨Lay.keep _ a b h.regs,Lay.keep _ a b h.args,h.bnd⟩
theorem QcO.below {x:MTo}(h:QcO w O x pR cR pA cA) (a:Below w.heap.size w w'):QcO w' O x pR cR pA cA:=h.keep (fun k _ b=>a.block k b) (fun _ h _=>h)
theorem QcO.mono {x:MTo}(h:QcO w O x pR cR pA cA) (a:∀ k,O k->k<w.heap.size->O' k):QcO w O' x pR cR pA cA:=h.keep (fun k _ _=>rfl) a
theorem IIn.keep {x:QC}{i:IP}(a:∀ k,O k->k<w.heap.size->w'.heap[k]?=w.heap[k]?) (b:∀ k,O k->k<w.heap.size->O' k) (h:IIn w O x i):IIn w' O' x i:=⟨Lay.keep _ a b h.regs,Lay.keep _ a b h.args,h.bnd⟩
theorem IIn.below {x:QC}{i:IP}(h:IIn w O x i) (a:Below w.heap.size w w'):IIn w' O x i:=h.keep (fun k _ b=>a.block k b) (fun _ h _=>h)
theorem IIn.mono {x:QC}{i:IP}(h:IIn w O x i) (a:∀ k,O k->k<w.heap.size->O' k):IIn w O' x i:=h.keep (fun k _ _=>rfl) a
theorem EIn.keep {x:MEnd}{e:EP}(a:∀ k,O k->k<w.heap.size->w'.heap[k]?=w.heap[k]?) (b:∀ k,O k->k<w.heap.size->O' k) (h:EIn w O x e):EIn w' O' x e:=⟨h.yes.keep a b,h.no.keep a b,Lay.keep _ a b h.args,h.bnd⟩
theorem EIn.below {x:MEnd}{e:EP}(h:EIn w O x e) (a:Below w.heap.size w w'):EIn w' O x e:=h.keep (fun k _ b=>a.block k b) (fun _ h _=>h)
theorem EIn.mono {x:MEnd}{e:EP}(h:EIn w O x e) (a:∀ k,O k->k<w.heap.size->O' k):EIn w O' x e:=h.keep (fun k _ _=>rfl) a
theorem BIn.keep {x:Qe n}{b:BP}(a:∀ k,O k->k<w.heap.size->w'.heap[k]?=w.heap[k]?) (c:∀ k,O k->k<w.heap.size->O' k) (h:BIn w O x b):BIn w' O' x b:=⟨Lay.keep _ a c h.params,Lay.keep _ a c h.code,h.fin.keep a c,h.bnd⟩
theorem BIn.below {x:Qe n}{b:BP}(h:BIn w O x b) (a:Below w.heap.size w w'):BIn w' O x b:=h.keep (fun k _ c=>a.block k c) (fun _ h _=>h)
theorem BIn.mono {x:Qe n}{b:BP}(h:BIn w O x b) (a:∀ k,O k->k<w.heap.size->O' k):BIn w O' x b:=h.keep (fun k _ _=>rfl) a
theorem FIn.keep {x:Qf n}{f:FP}(a:∀ k,O k->k<w.heap.size->w'.heap[k]?=w.heap[k]?) (b:∀ k,O k->k<w.heap.size->O' k) (h:FIn w O x f):FIn w' O' x f:=⟨Lay.keep _ a b h.params,Lay.keep _ a b h.results,Lay.keep _ a b h.blocks,h.bnd⟩
theorem FIn.below {x:Qf n}{f:FP}(h:FIn w O x f) (a:Below w.heap.size w w'):FIn w' O x f:=h.keep (fun k _ b=>a.block k b) (fun _ h _=>h)
theorem FIn.mono {x:Qf n}{f:FP}(h:FIn w O x f) (a:∀ k,O k->k<w.heap.size->O' k):FIn w O' x f:=h.keep (fun k _ _=>rfl) a
theorem QhU {x:MTo}(h:toL.In w O x cs):∃ pR cR pA cA,cs=[.int .i64 x.block,.slice pR x.regs.length cR,.slice pA x.args.length cA]/\QcO w O x pR cR pA cA:=by
 obtain⟨a,c,b,d,rfl,e,g,f⟩:=Qf2 h
 exact⟨a,c,b,d,Z,e,g,f⟩
theorem QiJ {x:MTo}(h:QcO w O x pR cR pA cA):toL.In w O x [.int .i64 x.block,.slice pR x.regs.length cR,.slice pA x.args.length cA]:=Qlj h.regs h.args h.bnd
theorem QiZ {x:QC}(h:insL.In w O x cs):∃ i:IP,cs=[.int .i64 x.op,.int .i64 x.a,.int .i64 x.b,.int .i64 x.c,.int .i64 x.k,.int .i64 x.n,.slice i.pR x.regs.length i.cR,.slice i.pA x.args.length i.cA]/\IIn w O x i:=by
 obtain⟨a,c,b,d,rfl,e,g,f⟩:=Qjt h
 exact⟨⟨a,c,b,d⟩,Z,e,g,f⟩
theorem Qjm {x:QC}{i:IP}(h:IIn w O x i):insL.In w O x [.int .i64 x.op,.int .i64 x.a,.int .i64 x.b,.int .i64 x.c,.int .i64 x.k,.int .i64 x.n,.slice i.pR x.regs.length i.cR,.slice i.pA x.args.length i.cA]:=QkY h.regs h.args h.bnd
theorem Qgk {x:MEnd}(h:endL.In w O x cs):∃ e:EP,cs=[.int .i64 x.op,.int .i64 x.a,.int .i64 x.yes.block,.slice e.pYR x.yes.regs.length e.cYR,.slice e.pYA x.yes.args.length e.cYA,.int .i64 x.no.block,.slice e.pNR x.no.regs.length e.cNR,.slice e.pNA x.no.args.length e.cNA,.slice e.pA x.args.length e.cA]/\EIn w O x e:=by
 obtain⟨r,q,a,c,rfl,i,j,d,b⟩:=QgH h
 obtain⟨o,k,pA,cA,rfl,g⟩:=QhU i
 obtain⟨f,m,p,l,rfl,n⟩:=QhU j
 exact⟨⟨o,k,pA,cA,f,m,p,l,a,c⟩,Z,g,n,d,b⟩
theorem QcX {x:MEnd}{e:EP}(h:EIn w O x e):endL.In w O x [.int .i64 x.op,.int .i64 x.a,.int .i64 x.yes.block,.slice e.pYR x.yes.regs.length e.cYR,.slice e.pYA x.yes.args.length e.cYA,.int .i64 x.no.block,.slice e.pNR x.no.regs.length e.cNR,.slice e.pNA x.no.args.length e.cNA,.slice e.pA x.args.length e.cA]:=QkS (QiJ h.yes) (QiJ h.no) h.args h.bnd
theorem QgO {x:Qe n}(h:(Zy n).In w O x cs):∃ b:BP,cs=[.int .i64 x.regs,.slice b.pP x.params.length b.cP,.slice b.pC x.code.length b.cC,.int .i64 x.fin.op,.int .i64 x.fin.a,.int .i64 x.fin.yes.block,.slice b.e.pYR x.fin.yes.regs.length b.e.cYR,.slice b.e.pYA x.fin.yes.args.length b.e.cYA,.int .i64 x.fin.no.block,.slice b.e.pNR x.fin.no.regs.length b.e.cNR,.slice b.e.pNA x.fin.no.args.length b.e.cNA,.slice b.e.pA x.fin.args.length b.e.cA]/\BIn w O x b:=by
 obtain⟨a,c,b,d,l,rfl,g,j,k,f⟩:=Qct h
 obtain⟨e,rfl,i⟩:=Qgk k
 exact⟨⟨a,c,b,d,e⟩,Z,g,j,i,f⟩
theorem Qhd {x:Qe n}{b:BP}(h:BIn w O x b):(Zy n).In w O x [.int .i64 x.regs,.slice b.pP x.params.length b.cP,.slice b.pC x.code.length b.cC,.int .i64 x.fin.op,.int .i64 x.fin.a,.int .i64 x.fin.yes.block,.slice b.e.pYR x.fin.yes.regs.length b.e.cYR,.slice b.e.pYA x.fin.yes.args.length b.e.cYA,.int .i64 x.fin.no.block,.slice b.e.pNR x.fin.no.regs.length b.e.cNR,.slice b.e.pNA x.fin.no.args.length b.e.cNA,.slice b.e.pA x.fin.args.length b.e.cA]:=QgG h.params h.code (QcX h.fin) h.bnd
theorem Qh3 {x:Qf n}(h:(ZR n).In w O x cs):∃ f:FP,cs=[.int .i64 x.regs,.slice f.pP x.params.length f.cP,.slice f.pR x.results.length f.cR,.slice f.pB x.blocks.length f.cB]/\FIn w O x f:=by
 obtain⟨a,c,b,d,e,f,rfl,g,k,j,i⟩:=Z3 h
 exact⟨⟨a,c,b,d,e,f⟩,Z,g,k,j,i⟩
theorem QhB {x:Qf n}{f:FP}(h:FIn w O x f):(ZR n).In w O x [.int .i64 x.regs,.slice f.pP x.params.length f.cP,.slice f.pR x.results.length f.cR,.slice f.pB x.blocks.length f.cB]:=QhM h.params h.results h.blocks h.bnd
theorem Qdf {l:List QC}(h:(insL).list.In w O l [.slice p m c]){x:QC}(r:l[i]?=some x) :
 ∃ (g o:Nat) (i':IP),p=some ⟨g,o,none⟩/\w.rangeAt g (o+i*8) [.int .i64 x.op,.int .i64 x.a,.int .i64 x.b,.int .i64 x.c,.int .i64 x.k,.int .i64 x.n,.slice i'.pR x.regs.length i'.cR,.slice i'.pA x.args.length i'.cA]/\IIn w O x i':=by
 obtain⟨g,o,z,e,u,y,d,t⟩:=Yf h r
 obtain⟨i',rfl,q⟩:=QiZ t
 have s:(insL).size=8:=rfl;rw[s] at d
 exact⟨g,o,i',e,fun j v f=>(d j (by have:=(Zi f).1;simpa using this)).trans f,q⟩
theorem Qa6 {l:List (Qe n)}(h:(Zy n).list.In w O l [.slice p m c]){x:Qe n}(q:l[i]?=some x) :
 ∃ (g o:Nat) (b:BP),p=some ⟨g,o,none⟩/\w.rangeAt g (o+i*12) [.int .i64 x.regs,.slice b.pP x.params.length b.cP,.slice b.pC x.code.length b.cC,.int .i64 x.fin.op,.int .i64 x.fin.a,.int .i64 x.fin.yes.block,.slice b.e.pYR x.fin.yes.regs.length b.e.cYR,.slice b.e.pYA x.fin.yes.args.length b.e.cYA,.int .i64 x.fin.no.block,.slice b.e.pNR x.fin.no.regs.length b.e.cNR,.slice b.e.pNA x.fin.no.args.length b.e.cNA,.slice b.e.pA x.fin.args.length b.e.cA]/\BIn w O x b:=by
 obtain⟨g,o,y,e,t,u,d,s⟩:=Yf h q
 obtain⟨b,rfl,k⟩:=QgO s
 have r:(Zy n).size=12:=rfl;rw[r] at d
 exact⟨g,o,b,e,fun j v f=>(d j (by have:=(Zi f).1;simpa using this)).trans f,k⟩
theorem Qbk {l:List (Qf n)}(h:(ZR n).list.In w O l [.slice p m c]){x:Qf n}(k:l[i]?=some x) :
 ∃ (g o:Nat) (f:FP),p=some ⟨g,o,none⟩/\w.rangeAt g (o+i*4) [.int .i64 x.regs,.slice f.pP x.params.length f.cP,.slice f.pR x.results.length f.cR,.slice f.pB x.blocks.length f.cB]/\FIn w O x f:=by
 obtain⟨g,o,u,e,s,t,a,r⟩:=Yf h k
 obtain⟨f,rfl,d⟩:=Qh3 r
 have q:(ZR n).size=4:=rfl;rw[q] at a
 exact⟨g,o,f,e,fun j v b=>(a j (by have:=(Zi b).1;simpa using this)).trans b,d⟩
theorem QhY {l:List (TT n)}(h:LIn w O l p){x:TT n}(f:l[i]?=some x):∃ (g o:Nat) (q:Option Addr) (c:Nat),p=some ⟨g,o,none⟩/\w.rangeAt g (o+i*3) [.int .i64 x.kind,.int .i64 x.r,.slice q x.len c]/\TIn w O x q:=by
 obtain⟨g,o,q,c,e,_,b,d,k,m⟩:=LIn.at h f
 refine⟨g,o,q,c,e,fun j v a=>?_,m⟩
 match j,a with
 | 0,a=>cases a;exact b
 | 1,a=>cases a;exact d
 | 2,a=>cases a;exact k
theorem QhX (h:intsL.In w O l [.slice a m c])(f:i<l.length):∃ g o,a=some ⟨g,o,none⟩/\w.rangeAt g (o+i) [.int .i64 (l.getD i 0)]:=by
 obtain⟨g,o,e,_,_,d⟩:=ZK h f
 refine⟨g,o,e,fun j v b=>?_⟩
 match j,b with
 | 0,b=>cases b;exact d
end
def Qdq {α:Type}(A:Lay α) (w w':World) (l:List α) (e:Ending):Prop:=∃ a' c',e=.returned (.slice a' l.length c')/\A.list.In w' (ZJ w.heap.size) l [.slice a' l.length c']/\Below w.heap.size w w'
def iv (l:List Int):List Value:=l.map (fun x=>Value.int .i64 x)
theorem QeB (h:w.ownsRow lo e 1 v l.length (iv l)) (f:∀ x∈l,I64 x):intsL.In w (ZJ lo) l [v] :=
 ZI.lay (A:=Lay.int) (e:=e) (xs:=iv l) ⟨h,fun i x a=>by
  have d:Lay.int.size=1:=rfl;rw[d,XL]
  have c:((iv l).drop i).take 1=[.int .i64 x]:=by
   obtain⟨b,e⟩:=Zi a
   unfold iv;rw[<-List.map_drop,List.drop_eq_getElem_cons b]
   simp[e]
  rw[c]
  exact⟨Z,f x (Zm a)⟩⟩
theorem QeD (h:intsL.In w O l [.slice a m c]):∀ x∈l,I64 x:=by
 intro x b;obtain⟨i,e⟩:=List.mem_iff_getElem?.1 b
 obtain⟨g,o,f,_,_,_,_,d⟩:=Yf h e
 exact d.2
theorem QeE (h:intsL.In w O l [.slice a m c]) (k:0<l.length) :
 ∃ ad,a=some ad/\ad.block<w.heap.size/\∀ j v,(iv l)[j]?=some v->w.cell? (ad.add j)=some v:=by
 obtain⟨g,o,e,_,d,_⟩:=ZK h k
 refine⟨⟨g,o,none⟩,e,d,fun j v i=>?_⟩
 have b:j<l.length:=by have:=(Zi i).1;simpa[iv] using this
 obtain⟨p,q,f,_,_,n⟩:=ZK h b
 rw[e] at f
 cases f
 rw[show (⟨g,o,none⟩:Addr).add j=⟨g,o+j,none⟩ from by unfold Addr.add;split<;>simp_all,n,<-i]
 simp[iv,List.getD,b]
theorem QbT (l:List Int):(iv l).length=l.length:=by simp[iv]
theorem QiG (l:List Int):∀ v∈iv l,v.oneCell'=true:=by
 intro v a;obtain⟨x,_,rfl⟩:=List.mem_map.1 a
 rfl
theorem underIs:prog.underlying 35=some (.slice 3):=by kernel_rfl
theorem infoI:(prog.info? 3).map (fun i=>(i.zero,i.size,i.bytes))=some (some (.int .i64 0),1,8):=by kernel_rfl
theorem infoI1:(prog.info? 3).map (·.size)=some 1:=by kernel_rfl
theorem infoI_parts:∃ i,prog.info? 3=some i/\i.zero=some (.int .i64 0)/\i.size=1/\i.bytes=8:=by
 obtain⟨i,a,e⟩:=Option.map_eq_some_iff.1 infoI
 simp only[Prod.mk.injEq] at e
 exact⟨i,a,e⟩
theorem Qaj (l:List Int) (p:Option Addr) (c:Nat) (w:World) (i:intsL.In w All l [.slice p l.length c]) (z:l.length<=4294967296) :
 Calls prog 149 #[.slice p l.length c] w fun e w'=>Qdq Lay.int w w' l e:=by
 have y:Hid _:=i;have s:Hid _:=QeD i;clear i;have n:=fun x=>run_make_row' (P:=prog) 35 3 (.int .i64 0) 8 underIs infoI Z .i64 .i64 l.length (by omega) (by omega) x
 have g:(w.alloc (.cells (madeCells #[.int .i64 0] l.length) 3)).heap[w.heap.size]?=some (.cells (madeCells #[.int .i64 0] l.length).toList.toArray 3 (0,0)):=by
  rw[Array.toArray_toList];exact Qm w _ _
 have d:(iv l).length=Nat.min l.length l.length:=by rw[QbT];exact(Nat.min_self _).symm
 have h:Hid (0<(iv l).length->(some ⟨w.heap.size,0,none⟩:Option Addr)=some ⟨w.heap.size,0,none⟩/\∃ m,p=some m/\∀ j v,(iv l)[j]?=some v->(w.alloc (.cells (madeCells #[.int .i64 0] l.length) 3)).cell? (m.add j)=some v):=by
  intro r;rw[QbT] at r
  obtain⟨m,e,q,u⟩:=QeE y.out r
  exact⟨Z,m,e,fun j v t=>(XU (w:=w) (a:=m.add j) (Below.heap_alloc _ _ _ (by unfold Addr.add;split<;>exact q))).trans (u j v t)⟩
 have b:0+(iv l).length<=(madeCells #[.int .i64 0] l.length).toList.length:=by rw[QbT,toList_madeCells_one];simp
 have k:Hid (Below w.heap.size w (w.alloc (.cells (madeCells #[.int .i64 0] l.length) 3))):=(Below.refl _ w).alloc Ze _;go_enter func149,ntmps149
 go_wp2_with (refine wpList_copy_splice Z (.tmp 7) (.tmp 8) 35 35 Z 3 underIs infoI1 _ _ l.length l.length l.length c Z Z w.heap.size 0 (madeCells #[.int .i64 0] l.length).toList 3 g (iv l) d h.out b (QiG l) w.heap.size w k.out Ze ?_)
 ·intro w' o f;clear h b k g d
  have R:Hid (Qdq Lay.int w w' l (.returned (.slice (some ⟨w.heap.size,0,none⟩) l.length l.length))):=by
   have A:splice (madeCells #[.int .i64 0] l.length).toList 0 (iv l)=iv l:=by
    rw[toList_madeCells_one];simp[splice,QbT]
   rw[A] at o
   refine⟨_,_,Z,QeB ⟨by rw[QbT,XL],Or.inr ⟨w.heap.size,l.length,(iv l).toArray,Z,Ze,o.out,Ze,by unfold maxLen;omega,by simp[QbT],?_⟩⟩ s.out,f⟩
   rw[XL,<-QbT l];simp
  clear o f n;go_wp2
  go_ret;exact R.out
theorem Q8 {c:Array Oper}{b:List Oper}{o:Oper}{a:Act}{Q:Exit->Act->World->Prop}(e:o.guard=none) (s x:Operand) (t:TypeId)
 (g:o.op=.call { callee:=.builtin .append,args:=#[s,x],argTypes:=#[t,t] }) (v f:Value) (j:a.eval s=v) (i:a.eval x=f) (d:(Builtin.append_ #[t,t] o.type #[v,f]).run P w=.ok v w)
 (h:wpList P c Q b (a.put o.dst v) w):wpList P c Q (o::b) a w:=by
 refine wpList_plain e fun K k=>?_;unfold Oper.wp;simp[execOp,g,resolve,invoke,builtin,j,i,d,Result.andThen]
 exact k _ _ h
theorem Qbo (l:List Int) (p:Option Addr) (c:Nat) (w:World) (b:intsL.In w All l [.slice p l.length c]) (F:l.length<=4294967296) :
 Calls prog 38 #[.slice p l.length c] w fun e w'=>Qdq Lay.int w w' l e:=by
 obtain⟨z,y,o,r,q⟩:=infoI_parts
 by_cases x:0<l.length
 ·obtain⟨m,rfl,H,v⟩:=QeE b x
  have d:Hid _:=v;have s:Hid _:=QeD b;clear b v;go_enter func38,ntmps38
  go_wp2_with (at_builtin;refine wpList_append_lies _ Z (.tmp 4) (.tmp 5) 35 Z w.heap.size 3 z (.int .i64 0) 1 8 underIs y o r q Z (by decide) (.slice none 0 0) 0 [] Z ⟨Z,Or.inl ⟨Z,Z⟩⟩ m l.length c (iv l) Z (by rw[QbT,XL]) d.out (QiG l) x (by unfold maxLen;omega) (by omega) Ze w.heap.size Z ?_)
  intro B i E A a n g
  have R:Hid (Qdq Lay.int w E l (.returned (.slice (some ⟨B,0,none⟩) l.length i))):=by
   exact⟨_,_,Z,QeB A s.out,(Below.refl _ w).grown a Ze (fun k D=>by simp[Value.ownBlock] at D)⟩
  clear A a n g d s;go_wp2
  go_ret;exact R.out
 ·have C:l=[]:=Xf.1 (by omega);subst C
  have G:Hid (∀ (t:TypeId) (f:World),(Builtin.append_ #[35,35] t #[.slice none 0 0,.slice p 0 c]).run prog f=.ok (.slice none 0 0) f):=fun (t:TypeId) (f:World)=>run_append_nothing (P:=prog) f 35 35 t 3 z underIs y none 0 0 Ze (.slice p 0 c) (by cases p with
   | none=>exact Src.ofNil f underIs c
   | some m=>exact Src.ofSlice f underIs m 0 c [] (by simp) (fun j u h=>by simp at h) (fun u h=>by cases h))
  simp only[List.length_nil]
  have R:Hid (Qdq Lay.int w w [] (.returned (.slice none 0 0))):=⟨_,_,Z,Yg _ _ _ _ _,Zr⟩;clear b;go_enter func38,ntmps38
  go_wp2_with (at_builtin;refine Q8 Z (.tmp 4) (.tmp 5) 35 Z (.slice none 0 0) (.slice p 0 c) Z Z (G.out _ _) ?_)
  go_ret;exact R.out
theorem Xt:type_of% @decide_eq_true:=@decide_eq_true
theorem Xu:type_of% @decide_eq_false:=@decide_eq_false
def Zu (n m:Nat):Int:=if 80<n+m then 2 else 0
theorem Qe6 {s:JSt}(n:Nat) (p:n<=1000) (k:s.L.length<=80) (h:SAt w b O A s) :
 Calls prog 109 #[.pointer (some ⟨b,0,none⟩),.int .i64 n] w fun e w'=>Qac (Zu s.L.length n) VNone e/\w'=w:=by
 obtain⟨o,y,u,r,t,l,x,q,B,z,m,g⟩:=h.read
 obtain⟨-,-,-,-,-,-,j⟩:=g.cells
 clear h g;generalize s.L.length=a at j k |-;by_cases d:80<a+n
 ·have E:Hid (Zu a n=2):=Xs d;have f:decide ((a:Int)+n<=80)=false:=Xu (by omega);clear d;go_enter func109,ntmps109
  go_wp2_with fail
  refine(ZA _ 2).mono ?_
  rintro i w' ⟨rfl,c⟩;subst c;exact⟨Z,Qac.bad E.out (by decide),Z⟩
 ·have E:Hid (Zu a n=0):=Xr d;have f:decide ((a:Int)+n<=80)=true:=Xt (by omega);clear d;go_enter func109,ntmps109
  go_wp2_with (go_at_call 110;refine(ZB _ _).mono ?_;rintro i w' ⟨rfl,c⟩;have c:=c.symm;subst c)
  exact Xz (v:=.tuple #[]) (by simp[results,results109,go_sem]) Z ⟨Qac.good E.out Z,Z⟩
def Zc (w:World) (b:Nat) (O A:Nat->Prop) (s s':JSt) (c:Int) (e:Ending) (w':World):Prop :=
 (c=0/\e=.returned (.tuple #[])/\STo w w' b O A s')\/(c≠0/\e=.panicked (Qfp c)/\STo w w' b O A s)
theorem STo.of_below {s:JSt}(h:SAt w b O A s) (a:Below w.heap.size w w'):STo w w' b O A s:=(STo.same (h.below a)).after a
theorem Yh:type_of% @STo.of_below:=@STo.of_below
theorem Zc.after {w1:World}{s g:JSt}{c:Int}{e:Ending}(h:Zc w1 b O A s g c e w') (i:Below w.heap.size w w1):Zc w b O A s g c e w':=by
 rcases h with ⟨a,d,f⟩|⟨a,d,f⟩
 ·exact .inl ⟨a,d,f.after i⟩
 ·exact .inr ⟨a,d,f.after i⟩
theorem Zc.bad {s e:JSt}{c d:Int}(h:c=d) (f:d≠0) (a:STo w w' b O A s):Zc w b O A s e c (.panicked (Qfp d)) w':=.inr ⟨by omega,by rw[h],a⟩
theorem QaJ {s:JSt}{l:List (TT 6)}(hn:l.length=n) (al:n<=8) (hl:(Qi 6).In w (fun g=>¬ A g) l [.slice p n c]) (hL:s.L.length<=80) (hA:∀ k,A k->k<w.heap.size) (h:SAt w b O A s) :
 Calls prog 70 #[.pointer (some ⟨b,0,none⟩),.slice p n c] w fun e w'=>Zc w b O A s { s with L:=s.L++l } (Zu s.L.length n) e w':=by
 obtain⟨i0,hi,ai,ak,aj⟩:=pInfoT
 have H:=Qa h;have B:=Qa hl;have S:=Qa hn;have C:=Qa (Qe6 n (by omega) hL h);have aa:=Qa hA;clear h hl hn hA;by_cases I:80<s.L.length+n
 ·rw[show Zu s.L.length n=2 from Xs I] at C |-
  clear I;go_enter func70,ntmps70
  go_wp2_with fail
  refine C.out.mono ?_;rintro e' w' ⟨⟨R,-⟩|⟨R,rfl⟩,i⟩
  ·cases R
  subst i;exact⟨Z,.inr ⟨by decide,Z,STo.same H.out⟩⟩
 rw[show Zu s.L.length n=0 from Xr I] at C |-
 obtain⟨r,m,xs,U,f6,D,K,f⟩:=H.out.pushL aa.out
 have E:=Qa f;have z:=Qa K
 have C2:Hid (Calls prog 109 #[.pointer (some ⟨b,0,none⟩),.int .i64 n] w fun e w'=>e=.returned (.tuple #[])/\w'=w):=C.out.mono (fun e w' h=>by
  rcases h with ⟨⟨-,x,rfl,hx⟩|⟨R,-⟩,i⟩
  ·exact⟨by rw[hx],i⟩
  ·exact absurd Z R)
 clear f K C;by_cases ag:n=0
 ·subst ag;have ah:l=[]:=Xf.1 S.out;subst ah
  have ha:Hid (∀ (t:TypeId) (F:World),(Builtin.append_ #[33,33] t #[.slice r s.L.length m,.slice p 0 c]).run prog F=.ok (.slice r s.L.length m) F):=fun (t:TypeId) (F:World)=>run_append_nothing (P:=prog) F 33 33 t 70 i0 pUnderT hi r s.L.length m D (.slice p 0 c) (by cases p with
   | none=>exact Src.ofNil F pUnderT c
   | some ad=>exact Src.ofSlice F pUnderT ad 0 c [] (by simp) (fun j u h=>by simp at h) (fun u h=>by cases h))
  have HZ:Hid (STo w (w.setCell ⟨b,6,none⟩ (.slice r s.L.length m)) b O A { s with L:=s.L++[] }):=by
   have e:∀ k,(w.setCell ⟨b,6,none⟩ (.slice r s.L.length m)).heap[k]?=w.heap[k]?:=fun k=>H.out.same6 U k;have hb:Below w.heap.size w (w.setCell ⟨b,6,none⟩ (.slice r s.L.length m)):=⟨Z,Z,Z,by simp,fun k _=>e k⟩;rw[List.append_nil]
   exact Yh H.out hb
  clear E z B;generalize s.L.length=nL at U ha HZ hL D I;go_enter func70,ntmps70
  go_wp2_with (first | (go_at_call 109;refine(C2.out).mono ?_;rintro e w' ⟨rfl,i⟩;have i:=i.symm;subst i) | (at_builtin;refine Q8 Z (.tmp 12) (.tmp 13) 33 Z (.slice r nL m) (.slice p 0 c) Z Z (ha.out _ _) ?_))
  exact Xz (v:=.tuple #[]) (by simp[results,results70,go_sem]) Z (.inl ⟨Z,Z,HZ.out⟩)
 ·obtain⟨g0,X,rfl⟩:∃ g0 X,p=some ⟨g0,X,none⟩:=by
   obtain⟨g,o,dd,e,-⟩:=Yf B.out (Zg (show 0<l.length by have:=S.out;omega))
   exact⟨g,o,e⟩
  obtain⟨N,d1,d2,d3,d4⟩:=Lay.flat B.out (fun y cs hy=>by obtain⟨ya,yc,e,-⟩:=hy;subst e;exact Qfi _ _ _ _ _)
  have J:N.length=n*3:=by rw[<-S.out];exact d1
  have W:=Qa J;have af:=Qa d2;have ac:=Qa d3
  have d:Hid (∀ q g a,q.ownsRow 0 70 3 (.slice (some ⟨g,0,none⟩) (s.L.length+n) a) (s.L.length+n) (xs++N)->w.grownBy q (Value.slice r s.L.length m).ownBlock->((Value.slice r s.L.length m).ownBlock=some g\/g=w.heap.size)->g<q.heap.size->q.cell? ⟨b,6,none⟩=some (.slice r s.L.length m)/\q.frozen? ⟨b,6,none⟩=false/\STo w (q.setCell ⟨b,6,none⟩ (.slice (some ⟨g,0,none⟩) (s.L.length+n) a)) b O A { s with L:=s.L++l }):=by
   intro q g a G T M Q;rw[<-S.out] at G |-
   exact E.out q g a l N d1 G T M Q d4
  clear E B d1 J d2 d3 d4;have ae:Hid (0<=w.heap.size):=Xb _;have ab:s.L.length+n<=80:=by omega
  have V:0<n:=by omega
  generalize s.L.length=nL at U z d hL D I ab;go_enter func70,ntmps70
  go_wp2_with (first | (go_at_call 109;refine(C2.out).mono ?_;rintro e w' ⟨rfl,i⟩;have i:=i.symm;subst i) | (at_builtin;refine wpList_append_lies _ Z (.tmp 12) (.tmp 13) 33 Z 0 70 i0 (.agg #[.int .i64 0,.int .i64 0,.slice none 0 0]) 3 40 pUnderT hi ai ak aj Z (by decide) _ _ _ Z z.out ⟨g0,X,none⟩ n c N Z W.out af.out ac.out V (by unfold maxLen;omega) (by omega) ae.out w.heap.size Z ?_))
  intro g2 a q G T M Q;obtain⟨am,an,z9⟩:=d.out q g2 a G T M Q
  have Z9:=Qa z9;clear G T M Q d z z9 U f6;go_wp2
  exact Xz (v:=.tuple #[]) (by simp[results,results70,go_sem]) Z (.inl ⟨Z,Z,Z9.out⟩)
theorem Qep (n:∀ k,A k->k<w.heap.size){t:TT 6}(o:TIn w (fun g=>¬ A g) t p) (m:t.ok) :
 (Qi 6).In (w.alloc (.cells #[.int .i64 t.kind,.int .i64 t.r,.slice p t.len c] 70)) (fun g=>¬ A g) [t] [.slice (some ⟨w.heap.size,0,none⟩) 1 d]:=by
 refine⟨some ⟨w.heap.size,0,none⟩,d,Z,fun i x f=>?_⟩
 have q:i<1:=by simpa using (Zi f).1
 have b:i=0:=by omega
 subst b;simp at f
 subst f;have a:=Qm w #[.int .i64 t.kind,.int .i64 t.r,.slice p t.len c] 70;refine⟨w.heap.size,0,[.int .i64 t.kind,.int .i64 t.r,.slice p t.len c],Z,fun e=>by have:=n _ e;omega,XC a,fun j l=>?_,p,c,Z,o.alloc _,m⟩
 have l:j<3:=l;match j,l with
 | 0,_=>exact Qb a 0 _ Z
 | 1,_=>exact Qb a 1 _ Z
 | 2,_=>exact Qb a 2 _ Z
 | j+3,h=>exact absurd h (by omega)
theorem Qcd {s:JSt}(n:s.L.length<=80) (g:∀ k,A k->k<w.heap.size) (h:SAt w b O A s) :
 Calls prog 65 #[.pointer (some ⟨b,0,none⟩)] w fun e w'=>Zc w b O A s { s with L:=s.L++[tInt] } (Zu s.L.length 1) e w':=by
 have C:Hid (∀ d,Calls prog 70 #[.pointer (some ⟨b,0,none⟩),.slice (some ⟨w.heap.size,0,none⟩) 1 d] (w.alloc (.cells #[.int .i64 1,.int .i64 0,.slice none 0 0] 70)) fun e w'=>Zc w b O A s { s with L:=s.L++[tInt] } (Zu s.L.length 1) e w'):=fun d=>by
  have f:=QU w (.cells #[.int .i64 1,.int .i64 0,.slice none 0 0] 70);refine(QaJ (l:=[tInt]) Z (by decide) (Qep (t:=tInt) (p:=none) (c:=0) (d:=d) g (fun i x q=>by simp[tInt] at q) (by unfold TT.ok;simp[tInt])) n (fun k r=>Zl (g k r) f.size) (h.below f)).mono (fun e w' a=>a.after f)
 clear h n g;go_enter func65,ntmps65
 go_wp2_with fail
 refine(C.out _).mono ?_
 rintro u w' a;have j:=Qa a;rcases a with ⟨m,rfl,o⟩|⟨m,rfl,o⟩
 rotate_left
 ·exact⟨Z,j.out⟩
 clear m o;go_wp2
 exact Xz (v:=.tuple #[]) (by simp[results,results65,go_sem]) Z j.out
theorem Qjj (w:World) (Q:Nat->Prop) (k r:Int):TIn (n:=6) w Q (mkT k r []) none:=fun i x a=>by simp at a
theorem Qi7 {k r:Int}(h:-9223372036854775808<=r/\r<=9223372036854775807) (a:-9223372036854775808<=k/\k<=9223372036854775807):TT.ok (n:=6) (mkT k r []):=by
 unfold TT.ok;simp
 omega
theorem Qdp {s:JSt}(k r:Int) (m:0<=r/\r<=1000) (f:0<=k/\k<=4) (d:Nat) (i:s.L.length<=80) (g:∀ k,A k->k<w.heap.size) (h:SAt w b O A s) :
 Calls prog 70 #[.pointer (some ⟨b,0,none⟩),.slice (some ⟨w.heap.size,0,none⟩) 1 d] (w.alloc (.cells #[.int .i64 k,.int .i64 r,.slice none 0 0] 70)) fun e w'=>Zc w b O A s { s with L:=s.L++[mkT k r []] } (Zu s.L.length 1) e w':=by
 have a:=QU w (.cells #[.int .i64 k,.int .i64 r,.slice none 0 0] 70);exact(QaJ (l:=[mkT k r []]) Z (by simp) (Qep (t:=mkT k r []) (p:=none) (c:=0) (d:=d) g (Qjj _ _ _ _) (Qi7 (by omega) (by omega))) i (fun k f=>Zl (g k f) a.size) (h.below a)).mono (fun e w' j=>j.after a)
def JSt.openC (s:JSt):Int:=if 80<s.L.length+1\/s.H.length=16 then 2 else 0
def JSt.openS (s:JSt):JSt:={ s with H:=s.H++[true],L:=s.L++[mkT 2 s.H.length []] }
theorem Qif {s:JSt}(hH:s.H.length<=16) (R:s.L.length<=80) (S:∀ k,A k->k<w.heap.size) (h:SAt w b O A s) :
 Calls prog 67 #[.pointer (some ⟨b,0,none⟩)] w fun e w'=>Zc w b O A s s.openS s.openC e w':=by
 have H:=Qa h;have P:=Qa S;have C:=Qa (Qe6 1 (by decide) R h);clear h S;by_cases m:80<s.L.length+1
 ·rw[show Zu s.L.length 1=2 from Xs m] at C
  have E:Hid (s.openC=2):=Xs (.inl m);clear m;go_enter func67,ntmps67
  go_wp2_with fail
  refine C.out.mono ?_;rintro y w' ⟨⟨q,-⟩|⟨q,rfl⟩,a⟩
  ·cases q
  subst a;exact⟨Yz,Zc.bad E.out (by decide) (STo.same H.out)⟩
 rw[show Zu s.L.length 1=0 from Xr m] at C
 have u:Hid (Calls prog 109 #[.pointer (some ⟨b,0,none⟩),.int .i64 1] w fun e w'=>e=.returned (.tuple #[])/\w'=w):=C.out.mono (fun e w' h=>by
  rcases h with ⟨⟨-,x,rfl,U⟩|⟨q,-⟩,a⟩
  ·exact⟨by rw[U],a⟩
  ·exact absurd Yz q)
 clear C;obtain⟨hh,q1,g,i⟩:=H.out.setH P.out
 have n:=Qa (Qc5 g);have K:=Qa i;clear g i;by_cases j:s.H.length=16
 ·have E:Hid (s.openC=2):=Xs (.inr j);rw[show Qb5 s.H=-1 by unfold Qb5;rw[Xr (by omega)],show Qds s.H=s.H by unfold Qds;rw[Xr (by omega)]] at n
  clear j m;go_enter func67,ntmps67
  go_wp2_with (first | (go_at_call 109;refine(u.out).mono ?_;rintro e w' ⟨rfl,a⟩;have a:=a.symm;subst a) | (go_at_call 60;refine(n.out).mono ?_;rintro e z ⟨rfl,f,c⟩;have Z:=Qa (K.out z _ f c);clear f c))
  refine(ZA _ 2).mono ?_
  rintro y w' ⟨rfl,a⟩;subst a;exact⟨Yz,Zc.bad E.out (by decide) Z.out⟩
 ·have E:Hid (s.openC=0):=Xr (by omega);have l:s.H.length<16:=by omega
  rw[show Qb5 s.H=(s.H.length:Int) by unfold Qb5;rw[Xs l],show Qds s.H=s.H++[true] by unfold Qds;rw[Xs l]] at n
  have D:s.H.length<=1000:=by omega
  generalize o:s.H.length=r at n l D;have t:=Qa o;have W:decide ((r:Int)>=0)=true:=Xt (by omega);clear o j;go_enter func67,ntmps67
  go_wp2_with (first | (go_at_call 109;refine(u.out).mono ?_;rintro e w' ⟨rfl,a⟩;have a:=a.symm;subst a) | (go_at_call 60;refine(n.out).mono ?_;rintro e z ⟨rfl,f,c⟩;have Z:=Qa (K.out z _ f c);clear f c))
  refine(ZB _ _).mono ?_
  rintro y w' ⟨rfl,a⟩;have a:=a.symm;subst a;obtain⟨N,B,Q,J⟩:=Z.out
  have G:=Qa (Xh B J);have T:=Qa (fun d=>Qdp 2 (r:Int) (by omega) (by decide) d (by exact R) (fun k p=>by rcases p with p | p;exact Zl (P.out k p) J.size;exact(B k p).2) Q);clear B Q J Z K n u;go_wp2_with fail
  refine(T.out _).mono ?_
  rintro y X V;rcases V with ⟨M,rfl,I⟩|⟨M,rfl,I⟩
  rotate_left
  ·exact absurd (Xr m) M
  have F:=Qa (STo.join G.out.1 G.out.2 I);clear M I T G;go_wp2
  refine Xz (v:=.tuple #[]) (by simp[results,results67,go_sem]) Yz (.inl ⟨E.out,Yz,?_⟩);have e:s.openS={ ({ s with H:=s.H++[true] }) with L:=({ s with H:=s.H++[true] }).L++[mkT 2 (r:Int) []] }:=by unfold JSt.openS;rw[t.out]
  rw[e]
  exact F.out
def JSt.freeC (s:JSt) (a:Int):Int:=match s.at a with
 | none=>1
 | some t=>code2 (s.want a 2 true) (if t.r<s.f.regs then 11 else 0)
def JSt.freeS (s:JSt) (a:Int):JSt:={ s with H:=s.H.set (match s.at a with | none=>0 | some t=>t.r.toNat) false }
theorem Qhi {s:JSt}{a:Int}(h:s.want a 2 true≠0):s.freeC a=s.want a 2 true:=by
 unfold JSt.freeC
 cases e:s.at a with
 | none=>unfold JSt.want;rw[e]
 | some t=>show code2 _ _=_;unfold code2;rw[Xr h]
theorem QiO {s:JSt}(a:Int) (hL:s.L.length<=80) (Q:∀ k,A k->k<w.heap.size) (h:SAt w b O A s) :
 Calls prog 68 #[.pointer (some ⟨b,0,none⟩),.int .i64 a] w fun e w'=>Zc w b O A s (s.freeS a) (s.freeC a) e w':=by
 have H:=Qa h;have N:=Qa Q;clear h Q;have S:∀ (k r:Int) (p:Option Addr) (l c:Nat) (w:World),(Instr.field 70 (.agg #[.int .i64 k,.int .i64 r,.slice p l c]) 1).run prog w=.ok (.int .i64 r) w:=fun _ _ _ _ _ _=>by kernel_rfl
 go_enter func68,ntmps68
 go_wp2_with fail
 refine(Qar a 2 hL (fun k D=>N.out k (H.out.sub k D)) H.out).mono ?_
 rintro M w2 ⟨X,F⟩;have z:=Qa F;have R:=Qa (H.out.below F);clear F;rcases X with ⟨m,x,rfl,t,p,c,B,rfl,ht,C⟩|⟨m,rfl⟩
 rotate_left
 ·exact⟨Yz,Zc.bad (Qhi m) m (Yh H.out z.out)⟩
 have E:Hid (s.freeC a=if t.r<s.f.regs then 11 else 0):=by show _=_;unfold JSt.freeC code2;rw[B];simp only[m,if_true]
 have i:hHas s.H t.r=true:=by
  obtain⟨t',u,e2,U⟩:=Qay m
  rw[B] at u
  cases u
  exact U Yz
 have K:Hid (s.freeS a={ s with H:=Qfu s.H t.r }):=by show _=_;unfold JSt.freeS Qfu;rw[B,i];rfl
 obtain⟨pm,cm,hh,a1,c1,a2,c2,a3,c3,aL,cL,J⟩:=R.out.read
 obtain⟨-,V,q2,-⟩:=J.cells
 clear J ht C B m i;obtain⟨aa,q,d,j⟩:=R.out.setH (fun k D=>Zl (N.out k D) z.out.size)
 have u:=V.symm.trans q;simp only[Option.some.injEq,Value.pointer.injEq,Addr.mk.injEq,and_true] at u
 subst u;have P:=Qa (Qh8 t.r d);have HS:=Qa j;clear d j q;simp only[Tv]
 generalize s.f.regs=G at q2 E;generalize t.r=I at E P K |-;by_cases g:I<G
 ·rw[Xs g] at E
  have T:decide (I>=G)=false:=Xu (by omega);clear g;go_wp2_with fail
  refine(ZA _ 11).mono ?_
  rintro M w' ⟨rfl,y⟩;subst y;exact⟨Yz,Zc.bad E.out (by decide) (Yh H.out z.out)⟩
 ·rw[Xr g] at E
  have T:decide (I>=G)=true:=Xt (by omega);clear g;go_wp2_with fail
  refine(ZB _ _).mono ?_
  rintro M w' ⟨rfl,y⟩;have y:=y.symm;subst y;go_wp2_with (go_at_call 111;refine(P.out).mono ?_;rintro e W ⟨rfl,o,n⟩;have Z:=Qa (HS.out W _ o n);clear o n)
  exact Xz (v:=.tuple #[]) (by simp[results,results68,go_sem]) Yz (.inl ⟨E.out,Yz,by rw[K.out];exact Z.out.after z.out⟩)
def JSt.arrayC (s:JSt) (a b:Int):Int:=code2 (code2 (s.want a 2 true) (s.want b 1 false)) (Zu s.L.length 1)
theorem Qx {a b:Int}(h:a≠0):code2 a b=a:=by unfold code2;rw[Xr h]
theorem QH {a b:Int}(h:a=0):code2 a b=b:=by unfold code2;rw[Xs h]
theorem Qki (a:Int) (g:-9223372036854775808<=a/\a<=9223372036854775807) (d:Nat):intsL.In (w.alloc (.cells #[.int .i64 a] 3)) All [a] [.slice (some ⟨w.heap.size,0,none⟩) 1 d]:=by
 refine⟨_,d,Z,fun i x c=>?_⟩
 have k:i<1:=by simpa using (Zi c).1
 have b:i=0:=by omega
 subst b;simp at c
 subst c;have f:=Qm w #[.int .i64 a] 3;refine⟨w.heap.size,0,[.int .i64 a],Z,Y,XC f,fun j e=>?_,Z,g⟩
 have e:j<1:=e;match j,e with
 | 0,_=>exact Qb f 0 _ Z
 | j+1,h=>exact absurd h (by omega)
theorem QjJ (a b:Int) (g:-9223372036854775808<=a/\a<=9223372036854775807) (l:-9223372036854775808<=b/\b<=9223372036854775807) (d:Nat):intsL.In (w.alloc (.cells #[.int .i64 a,.int .i64 b] 3)) All [a,b] [.slice (some ⟨w.heap.size,0,none⟩) 2 d]:=by
 refine⟨_,d,Z,fun i x e=>?_⟩
 have k:i<2:=by simpa using (Zi e).1
 have f:=Qm w #[.int .i64 a,.int .i64 b] 3;match i,k with
 | 0,_ =>
   simp at e
   subst e;refine⟨w.heap.size,0,[.int .i64 a],Z,Y,XC f,fun j c=>?_,Z,g⟩
   have c:j<1:=c;match j,c with
   | 0,_=>exact Qb f 0 _ Z
   | j+1,h=>exact absurd h (by omega)
 | 1,_ =>
   simp at e
   subst e;refine⟨w.heap.size,0,[.int .i64 b],Z,Y,XC f,fun j c=>?_,Z,l⟩
   have c:j<1:=c;match j,c with
   | 0,_=>exact Qb f 1 _ Z
   | j+1,h=>exact absurd h (by omega)
 | i+2,h=>exact absurd h (by omega)
theorem Qe3 {s:JSt}{a:Int}:QE (fun a=>s.want a 1 false) [a]=s.want a 1 false:=by
 show (if s.want a 1 false≠0 then s.want a 1 false else 0)=_;split
 ·rfl
 ·rename_i h;exact(Xq.1 h).symm
theorem QiL {s:JSt}{a b:Int}:QE (fun a=>s.want a 1 false) [a,b]=code2 (s.want a 1 false) (s.want b 1 false):=by
 show (if s.want a 1 false≠0 then s.want a 1 false else QE (fun a=>s.want a 1 false) [b])=_;rw[Qe3]
 by_cases h:s.want a 1 false=0
 ·rw[Xr (by simpa using h),QH h]
 ·rw[Xs h,Qx h]
theorem Qcg {s:JSt}(a:Int) (f:-9223372036854775808<=a/\a<=9223372036854775807) (d:Nat) (j:s.L.length<=80) (i:∀ k,O k->k<w.heap.size) (h:SAt w b O A s) :
 Calls prog 66 #[.pointer (some ⟨b,0,none⟩),.slice (some ⟨w.heap.size,0,none⟩) 1 d] (w.alloc (.cells #[.int .i64 a] 3)) fun e w'=>Qac (s.want a 1 false) VNone e/\Below w.heap.size w w':=by
 have c:=QU w (.cells #[.int .i64 a] 3)
 have:=QbS (l:=[a]) Z (by simp) (Qki a f d) j (fun k g=>Zl (i k g) c.size) (h.below c)
 rw[Qe3] at this
 exact this.mono (fun e w' h=>⟨h.1,c.trans (h.2.mono c.size)⟩)
theorem QeU {s:JSt}(a a':Int) (g:-9223372036854775808<=a/\a<=9223372036854775807) (f:-9223372036854775808<=a'/\a'<=9223372036854775807) (d:Nat) (m:s.L.length<=80) (j:∀ k,O k->k<w.heap.size) (h:SAt w b O A s) :
 Calls prog 66 #[.pointer (some ⟨b,0,none⟩),.slice (some ⟨w.heap.size,0,none⟩) 2 d] (w.alloc (.cells #[.int .i64 a,.int .i64 a'] 3)) fun e w'=>Qac (code2 (s.want a 1 false) (s.want a' 1 false)) VNone e/\Below w.heap.size w w':=by
 have c:=QU w (.cells #[.int .i64 a,.int .i64 a'] 3)
 have:=QbS (l:=[a,a']) Z (by simp) (QjJ a a' g f d) m (fun k i=>Zl (j k i) c.size) (h.below c)
 rw[QiL] at this
 exact this.mono (fun e w' h=>⟨h.1,c.trans (h.2.mono c.size)⟩)
theorem Qg7 {s:JSt}(a a':Int) (m:-9223372036854775808<=a'/\a'<=9223372036854775807) (hH:s.H.length<=16) (J:s.L.length<=80) (S:∀ k,A k->k<w.heap.size) (h:SAt w b O A s) :
 Calls prog 73 #[.pointer (some ⟨b,0,none⟩),.int .i64 a,.int .i64 a'] w fun e w'=>∀ t,(s.at a=some t\/(s.at a=none/\t=tInt))->Zc w b O A s { s with L:=s.L++[mkT 4 t.r []] } (s.arrayC a a') e w':=by
 have H:=Qa h;have N:=Qa S;have HI:=Qa m;clear h S m;have X:∀ (k r:Int) (p:Option Addr) (l c:Nat) (w:World),(Instr.field 70 (.agg #[.int .i64 k,.int .i64 r,.slice p l c]) 1).run prog w=.ok (.int .i64 r) w:=fun _ _ _ _ _ _=>by kernel_rfl
 go_enter func73,ntmps73
 go_wp2_with fail
 refine(Qar a 2 J (fun k g=>N.out k (H.out.sub k g)) H.out).mono ?_
 rintro D w2 ⟨G,u⟩;have y:=Qa u;have K:=Qa (H.out.below u);have n:=Qa (fun k g=>Zl (N.out k g) u.size);clear u;rcases G with ⟨f,x,rfl,t,p,c,I,rfl,ht,z⟩|⟨f,rfl⟩
 rotate_left
 ·exact⟨Z,fun t _=>Zc.bad (by unfold JSt.arrayC;rw[Qx f,Qx f]) f (Yh H.out y.out)⟩
 have E:Hid (s.arrayC a a'=code2 (s.want a' 1 false) (Zu s.L.length 1)):=by show _=_;unfold JSt.arrayC;rw[QH f]
 have U:0<=t.r/\t.r<=1000:=by
  obtain⟨t',P,e2,e3⟩:=Qay f
  rw[I] at P
  cases P
  have:=Z0 (e3 Z)
  omega
 have j:=Qa I;have HR:=Qa U;clear ht z I f U;simp only[Tv]
 have C:=Qa (fun d=>Qcg a' HI.out d J (fun k g=>n.out k (K.out.sub k g)) K.out);go_wp2_with fail
 refine(C.out _).mono ?_
 rintro D w3 ⟨G,q⟩;have o:=Qa (y.out.trans (q.mono y.out.size));have V:=Qa (K.out.below q);have B:=Qa (fun k g=>Zl (n.out k g) q.size);rcases G with ⟨f,x,rfl,W⟩|⟨f,rfl⟩
 rotate_left
 ·exact⟨Z,fun t _=>Zc.bad (by rw[E.out,Qx f]) f (Yh H.out o.out)⟩
 subst W;have E2:Hid (s.arrayC a a'=Zu s.L.length 1):=by show _=_;rw[E.out,QH f]
 clear q f E C;have T:=Qa (fun d=>Qdp 4 t.r HR.out (by decide) d J B.out V.out);go_wp2_with fail
 refine(T.out _).mono ?_
 rintro D w4 M
 have F:Hid (∀ t,(s.at a=some t\/(s.at a=none/\t=tInt))->Zc w b O A s { s with L:=s.L++[mkT 4 t.r []] } (s.arrayC a a') D w4):=fun t' i=>by
  rcases i with i | ⟨i,-⟩
  ·have e:=i.symm.trans j.out;injection e with e
   subst e;rw[E2.out]
   exact M.after o.out
  ·rw[j.out] at i;cases i
 rcases M with ⟨R,rfl,Q⟩|⟨R,rfl,Q⟩
 rotate_left
 ·exact⟨Z,F.out⟩
 clear R Q T;go_wp2
 exact Xz (v:=.tuple #[]) (by simp[results,results73,go_sem]) Z F.out
theorem typeFault_any:∀ n,QeA 126 n:=by
 intro n
 induction n with
 | zero=>intro t;exact Empty.elim t
 | succ n ih =>
   intro t a c b w ht X;have IH:Hid (QeA 126 n):=ih;clear ih;have hT:Hid (LIn w All t.2.2 a):=ht.list;have S:Hid (∀ x∈t.2.2,x.count<=100000):=fun x I=>by have:=t.count_kid I;omega
   have G:t.2.2.length<=100000:=by have:=t.len_lt_count;rw[t.len_eq] at this;omega
   have m:Hid (t.fault b=if ownC t.kind t.r t.2.2.length b≠0 then ownC t.kind t.r t.2.2.length b else QE (TT.fault b) t.2.2):=rfl;generalize t.fault b=h at m |-;simp only[Tv,TT.len_eq]
   generalize t.2.2=l at hT S m G |-;generalize t.kind=k at m |-;generalize t.r=r at m |-;clear ht X t;generalize O:l.length=d at m G |-;have N:Hid (l.length=d):=O;clear O;rcases (show k<1\/(¬ k<1/\4<k)\/k=1\/k=2\/k=4\/k=3 by omega) with p | ⟨p,F⟩ | rfl | rfl | rfl | rfl
   ·have f:=m.out;rw[show ownC _ _ d b=3 by unfold ownC;repeat' split;all_goals omega] at f
    clear m;replace f:Hid (h=3):=by show h=3;simpa using f
    go_enter func126,ntmps126
    go_wp2_with fail
    go_ret;exact⟨by rw[f.out];rfl,(Below.refl _ w).alloc Ze _⟩
   ·have f:=m.out;rw[show ownC _ _ d b=3 by unfold ownC;repeat' split;all_goals omega] at f
    clear m;replace f:Hid (h=3):=by show h=3;simpa using f
    go_enter func126,ntmps126
    go_wp2_with fail
    go_ret;exact⟨by rw[f.out];rfl,(Below.refl _ w).alloc Ze _⟩
   ·rcases (show r≠0\/(r=0/\0<d)\/(r=0/\d=0) by omega) with p | ⟨rfl,p⟩|⟨rfl,p⟩
    ·have u:(r != 0)=true:=by simpa using p
     have f:=m.out;rw[show ownC _ _ d b=4 by unfold ownC;repeat' split;all_goals omega] at f
     clear m;replace f:Hid (h=4):=by show h=4;simpa using f
     go_enter func126,ntmps126
     go_wp2_with fail
     go_ret;exact⟨by rw[f.out];rfl,(Below.refl _ w).alloc Ze _⟩
    ·have u:(0:Int)<(d:Int):=by omega
     have f:=m.out;rw[show ownC _ _ d b=4 by unfold ownC;repeat' split;all_goals omega] at f
     clear m;replace f:Hid (h=4):=by show h=4;simpa using f
     go_enter func126,ntmps126
     go_wp2_with fail
     go_ret;exact⟨by rw[f.out];rfl,(Below.refl _ w).alloc Ze _⟩
    ·have u:¬ (0:Int)<(d:Int):=by omega
     have E:¬ (8:Int)<(d:Int):=by omega
     have f:=m.out;rw[show ownC _ _ d b=0 by unfold ownC;repeat' split;all_goals omega] at f
     clear m;have R:Hid (h=QE (TT.fault b) l):=by show h=QE (TT.fault b) l;simpa using f
     clear f
     have P:Hid (h=0):=by
      have D:l=[]:=Xf.1 (N.out.trans p)
      have:=R.out
      rw[D] at this
      exact this
     subst p;clear R u E;go_enter func126,ntmps126
     go_wp2_with fail
     have B:=Bx.start w 1 0 a 0 c;generalize w.alloc (.cells #[.int .i64 1,.int .i64 0,.slice a 0 c] 70)=J at B |-;have s:Hid (Bx w J 1 0 a 0 c):=B;clear B;go_loopw [5] (fun i wr=>i=.int .i64 0/\Bx w wr 1 0 a 0 c) (fun _ _=>0)
     case atStart=>exact⟨Z,s.out⟩
     case round =>
      clear s;obtain⟨rfl,z⟩:=hrel
      have s:Hid (Bx w wr 1 0 a 0 c):=z;have W:wr.cell? ⟨w.heap.size,2,none⟩=some (.slice a 0 c):=Qb z.box 2 _ Z;clear z;go_wp2
      go_ret;exact⟨by rw[P.out];rfl,s.out.bel⟩
   ·rcases (show 0<d\/(d=0/\r<0)\/(d=0/\0<=r/\b<=r)\/(d=0/\0<=r/\r<b) by omega) with p | ⟨p,F⟩|⟨p,F,T⟩|⟨p,F,T⟩
    ·have u:(0:Int)<(d:Int):=by omega
     have f:=m.out;rw[show ownC _ _ d b=4 by unfold ownC;repeat' split;all_goals omega] at f
     clear m;replace f:Hid (h=4):=by show h=4;simpa using f
     go_enter func126,ntmps126
     go_wp2_with fail
     go_ret;exact⟨by rw[f.out];rfl,(Below.refl _ w).alloc Ze _⟩
    ·have u:¬ (0:Int)<(d:Int):=by omega
     have E:¬ (8:Int)<(d:Int):=by omega
     have f:=m.out;rw[show ownC _ _ d b=1 by unfold ownC;repeat' split;all_goals omega] at f
     clear m;replace f:Hid (h=1):=by show h=1;simpa using f
     go_enter func126,ntmps126
     go_wp2_with fail
     go_ret;exact⟨by rw[f.out];rfl,(Below.refl _ w).alloc Ze _⟩
    ·have u:¬ (0:Int)<(d:Int):=by omega
     have E:¬ (8:Int)<(d:Int):=by omega
     have f:=m.out;rw[show ownC _ _ d b=1 by unfold ownC;repeat' split;all_goals omega] at f
     clear m;replace f:Hid (h=1):=by show h=1;simpa using f
     go_enter func126,ntmps126
     go_wp2_with fail
     go_ret;exact⟨by rw[f.out];rfl,(Below.refl _ w).alloc Ze _⟩
    ·have u:¬ (0:Int)<(d:Int):=by omega
     have E:¬ (8:Int)<(d:Int):=by omega
     have f:=m.out;rw[show ownC _ _ d b=0 by unfold ownC;repeat' split;all_goals omega] at f
     clear m;have R:Hid (h=QE (TT.fault b) l):=by show h=QE (TT.fault b) l;simpa using f
     clear f
     have P:Hid (h=0):=by
      have D:l=[]:=Xf.1 (N.out.trans p)
      have:=R.out
      rw[D] at this
      exact this
     subst p;clear R u E;go_enter func126,ntmps126
     go_wp2_with fail
     have B:=Bx.start w 2 r a 0 c;generalize w.alloc (.cells #[.int .i64 2,.int .i64 r,.slice a 0 c] 70)=J at B |-;have s:Hid (Bx w J 2 r a 0 c):=B;clear B;go_loopw [5] (fun i wr=>i=.int .i64 0/\Bx w wr 2 r a 0 c) (fun _ _=>0)
     case atStart=>exact⟨Z,s.out⟩
     case round =>
      clear s;obtain⟨rfl,z⟩:=hrel
      have s:Hid (Bx w wr 2 r a 0 c):=z;have W:wr.cell? ⟨w.heap.size,2,none⟩=some (.slice a 0 c):=Qb z.box 2 _ Z;clear z;go_wp2
      go_ret;exact⟨by rw[P.out];rfl,s.out.bel⟩
   ·rcases (show 0<d\/(d=0/\r<0)\/(d=0/\0<=r/\b<=r)\/(d=0/\0<=r/\r<b) by omega) with p | ⟨p,F⟩|⟨p,F,T⟩|⟨p,F,T⟩
    ·have u:(0:Int)<(d:Int):=by omega
     have f:=m.out;rw[show ownC _ _ d b=4 by unfold ownC;repeat' split;all_goals omega] at f
     clear m;replace f:Hid (h=4):=by show h=4;simpa using f
     go_enter func126,ntmps126
     go_wp2_with fail
     go_ret;exact⟨by rw[f.out];rfl,(Below.refl _ w).alloc Ze _⟩
    ·have u:¬ (0:Int)<(d:Int):=by omega
     have E:¬ (8:Int)<(d:Int):=by omega
     have f:=m.out;rw[show ownC _ _ d b=1 by unfold ownC;repeat' split;all_goals omega] at f
     clear m;replace f:Hid (h=1):=by show h=1;simpa using f
     go_enter func126,ntmps126
     go_wp2_with fail
     go_ret;exact⟨by rw[f.out];rfl,(Below.refl _ w).alloc Ze _⟩
    ·have u:¬ (0:Int)<(d:Int):=by omega
     have E:¬ (8:Int)<(d:Int):=by omega
     have f:=m.out;rw[show ownC _ _ d b=1 by unfold ownC;repeat' split;all_goals omega] at f
     clear m;replace f:Hid (h=1):=by show h=1;simpa using f
     go_enter func126,ntmps126
     go_wp2_with fail
     go_ret;exact⟨by rw[f.out];rfl,(Below.refl _ w).alloc Ze _⟩
    ·have u:¬ (0:Int)<(d:Int):=by omega
     have E:¬ (8:Int)<(d:Int):=by omega
     have f:=m.out;rw[show ownC _ _ d b=0 by unfold ownC;repeat' split;all_goals omega] at f
     clear m;have R:Hid (h=QE (TT.fault b) l):=by show h=QE (TT.fault b) l;simpa using f
     clear f
     have P:Hid (h=0):=by
      have D:l=[]:=Xf.1 (N.out.trans p)
      have:=R.out
      rw[D] at this
      exact this
     subst p;clear R u E;go_enter func126,ntmps126
     go_wp2_with fail
     have B:=Bx.start w 4 r a 0 c;generalize w.alloc (.cells #[.int .i64 4,.int .i64 r,.slice a 0 c] 70)=J at B |-;have s:Hid (Bx w J 4 r a 0 c):=B;clear B;go_loopw [5] (fun i wr=>i=.int .i64 0/\Bx w wr 4 r a 0 c) (fun _ _=>0)
     case atStart=>exact⟨Z,s.out⟩
     case round =>
      clear s;obtain⟨rfl,z⟩:=hrel
      have s:Hid (Bx w wr 4 r a 0 c):=z;have W:wr.cell? ⟨w.heap.size,2,none⟩=some (.slice a 0 c):=Qb z.box 2 _ Z;clear z;go_wp2
      go_ret;exact⟨by rw[P.out];rfl,s.out.bel⟩
   ·rcases (show 8<d\/(d<=8/\r<0)\/(d<=8/\0<=r/\b<=r)\/(d<=8/\0<=r/\r<b) by omega) with p | ⟨p,F⟩|⟨p,F,T⟩|⟨p,F,T⟩
    ·have u:(8:Int)<(d:Int):=by omega
     have f:=m.out;rw[show ownC _ _ d b=2 by unfold ownC;repeat' split;all_goals omega] at f
     clear m;replace f:Hid (h=2):=by show h=2;simpa using f
     go_enter func126,ntmps126
     go_wp2_with fail
     go_ret;exact⟨by rw[f.out];rfl,(Below.refl _ w).alloc Ze _⟩
    ·have u:¬ (8:Int)<(d:Int):=by omega
     have f:=m.out;rw[show ownC _ _ d b=1 by unfold ownC;repeat' split;all_goals omega] at f
     clear m;replace f:Hid (h=1):=by show h=1;simpa using f
     go_enter func126,ntmps126
     go_wp2_with fail
     go_ret;exact⟨by rw[f.out];rfl,(Below.refl _ w).alloc Ze _⟩
    ·have u:¬ (8:Int)<(d:Int):=by omega
     have f:=m.out;rw[show ownC _ _ d b=1 by unfold ownC;repeat' split;all_goals omega] at f
     clear m;replace f:Hid (h=1):=by show h=1;simpa using f
     go_enter func126,ntmps126
     go_wp2_with fail
     go_ret;exact⟨by rw[f.out];rfl,(Below.refl _ w).alloc Ze _⟩
    ·have u:¬ (8:Int)<(d:Int):=by omega
     have f:=m.out;rw[show ownC _ _ d b=0 by unfold ownC;repeat' split;all_goals omega] at f
     clear m;have R:Hid (h=QE (TT.fault b) l):=by show h=QE (TT.fault b) l;simpa using f
     clear f;go_enter func126,ntmps126
     go_wp2_with fail
     have B:=Bx.start w 3 r a d c;generalize w.alloc (.cells #[.int .i64 3,.int .i64 r,.slice a d c] 70)=J at B |-;have s:Hid (Bx w J 3 r a d c):=B;clear B;go_loopw [5] (fun i wr=>∃ q:Nat,q<=d/\i=.int .i64 q/\(∀ (j:Nat) x,j<q->l[j]?=some x->x.fault b=0)/\Bx w wr 3 r a d c) (fun i _=>d - (intOf i).toNat)
     case atStart=>exact⟨0,Xb _,Z,fun j x hj=>by omega,s.out⟩
     case round =>
      clear s;obtain⟨q,hq,rfl,H,z⟩:=hrel
      have A:Hid (∀ (j:Nat) x,j<q->l[j]?=some x->x.fault b=0):=H;have s:Hid (Bx w wr 3 r a d c):=z;have W:wr.cell? ⟨w.heap.size,2,none⟩=some (.slice a d c):=Qb z.box 2 _ Z;clear H;by_cases ad:q<d
      ·have U:q<l.length:=by have:=N.out;omega
       have I:l[q]?=some l[q]:=Zg U;generalize l[q]=x at I;clear U;obtain⟨g,o,a',c',rfl,_,d0,d1,d2,hk⟩:=LIn.at (hT.out.below z.bel) I
       have Q:Hid (l[q]?=some x):=I;have ac:(0:Int)<=q:=by omega
       have aa:(q:Int)<d:=by omega
       have C:Hid (∀ L,Below wr.heap.size wr L->Calls prog 126 #[Tv x a' c',.int .i64 b] L fun e w'=>e=.returned (.int .i64 (x.fault b))/\Below L.heap.size L w') :=
        fun L hb=>IH.out x a' c' b L (hk.below hb) (S.out x (Zm I))
       clear z hk I;simp only[Tv] at C
       generalize x.kind=kx at C d0;generalize x.r=rx at C d1;generalize x.len=lx at C d2;go_wp2_with fail
       refine(C.out _ Zr).mono ?_
       rintro e w2 ⟨rfl,b2⟩;have X2:Hid (Bx w w2 3 r (some ⟨g,o,none⟩) d c):=s.out.below b2;clear s b2 C d0 d1 d2 W;by_cases M:x.fault b=0
       ·have A2:Hid (∀ (j:Nat) x,j<q+1->l[j]?=some x->x.fault b=0):=fun j y hj K=>by
         by_cases e:j=q
         ·subst e;rw[Q.out] at K
          cases K
          exact M
         ·exact A.out j y (by omega) K
        rw[M]
        clear M A;go_wp2
        go_roundw
        case rel=>exact⟨q+1,by omega,by go_num,A2.out,X2.out⟩
        case measure=>simp[intOf];omega
       ·have V:Hid (h=x.fault b):=R.out.trans (QaP Q.out A.out M);have ab:(x.fault b != 0)=true:=by simpa using M
        generalize x.fault b=v at ab V |-;clear M A;go_wp2
        go_ret;exact⟨by rw[V.out];rfl,X2.out.bel⟩
      ·have V:Hid (h=0):=R.out.trans (Qav (fun j y K=>A.out j y (by have:=(Zi K).1;have:=N.out;omega) K));have aa:¬ (q:Int)<d:=by omega
       clear z A;go_wp2
       go_ret;exact⟨by rw[V.out];rfl,s.out.bel⟩
theorem QdJ {α:Type}(f:α->Nat) (l:List α) (i:Nat) (x:α) (h:l[i]?=some x):((l.map f).take (i+1)).foldl max 0=max (((l.map f).take i).foldl max 0) (f x):=by
 rw[XV,XS,h]
 simp
theorem QcD (l:List Nat) (i:Nat):(l.take i).foldl max 0<=l.foldl max 0:=by
 rw[Qbe]
 exact⟨Xb _,fun x a=>(Qbe.1 (Nat.le_refl (l.foldl max 0))).2 x (List.mem_of_mem_take a)⟩
theorem deepOf_any:∀ (n:Nat) (t:TT n) (a:Option Addr) (c:Nat) (w:World) (m:Nat),TIn w All t a->t.count<=100000->m<=4 ->
 Calls prog 120 #[Tv t a c,.int .i64 m] w fun e w'=>e=.returned (.int .i64 ((min t.height (m+1):Nat):Int))/\Below w.heap.size w w':=by
 intro n
 induction n with
 | zero=>intro t;exact Empty.elim t
 | succ n ih =>
   intro t a c w m ht J ae
   have IH:Hid (∀ (t:TT n) (a:Option Addr) (c:Nat) (w:World) (m:Nat),TIn w All t a->t.count<=100000->m<=4 ->
    Calls prog 120 #[Tv t a c,.int .i64 m] w fun e w'=>e=.returned (.int .i64 ((min t.height (m+1):Nat):Int))/\Below w.heap.size w w'):=ih
   clear ih;have S:Hid (LIn w All t.2.2 a):=ht.list;have B:Hid (∀ x∈t.2.2,x.count<=100000):=fun x d=>by have:=t.count_kid d;omega
   have A:t.2.2.length<=100000:=by have:=t.len_lt_count;rw[t.len_eq] at this;omega
   have E:Hid (t.height=(t.2.2.map (fun x=>1+x.height)).foldl max 0):=rfl;generalize t.height=h at E |-;simp only[Tv,TT.len_eq]
   generalize t.2.2=l at S B E A |-;generalize t.kind=k;generalize t.r=r;clear ht J t;generalize f:((min h (m+1):Nat):Int)=b;have L:Hid (((min h (m+1):Nat):Int)=b):=f;clear f;go_enter func120,ntmps120
   go_wp2_with fail
   have O:Hid (Bx w (w.alloc (.cells #[.int .i64 k,.int .i64 r,.slice a l.length c] 70)) k r a l.length c):=Bx.start w k r a l.length c;generalize w.alloc (.cells #[.int .i64 k,.int .i64 r,.slice a l.length c] 70)=w1 at O |-;go_loopw [5,6] (fun v i wr=>∃ q y:Nat,q<=l.length/\i=.int .i64 q/\v=.int .i64 y/\y=min (((l.map (fun x=>1+x.height)).take q).foldl max 0) (m+1)/\Bx w wr k r a l.length c) (fun _ i _=>l.length - (intOf i).toNat)
   case atStart=>exact⟨0,0,Xb _,Yz,Yz,by simp,O.out⟩
   case round =>
    clear O;obtain⟨q,y,hq,rfl,rfl,Q,p⟩:=hrel
    have Y:Hid (y=min (((l.map (fun x=>1+x.height)).take q).foldl max 0) (m+1)):=Q;have D:Hid (Bx w wr k r a l.length c):=p;have e2:wr.cell? ⟨w.heap.size,2,none⟩=some (.slice a l.length c):=Qb p.box 2 _ Yz;have af:(y:Int)<=5:=by omega
    clear Q;by_cases M:q<l.length
    ·have ab:(0:Int)<=q:=by omega
     have K:(q:Int)<l.length:=by omega
     by_cases j:y<=m
     ·have d:l[q]?=some l[q]:=Zg M;generalize l[q]=x at d;obtain⟨g,o,W,R,rfl,_,P,V,d2,H⟩:=LIn.at (S.out.below p.bel) d
      have G:=QdJ (fun x:TT n=>1+x.height) l q x d;have u:(y:Int)<=m:=by omega
      by_cases U:m=0
      ·have I:((m:Int)==0)=true:=by simp;omega
       have F:Hid (b=1):=by
        have h1:=QcD (l.map (fun x=>1+x.height)) (q+1);have T:=E.out;have h3:=L.out;rw[G] at h1
        show b=1;omega
       clear p H d U G j;go_wp2_with fail
       go_ret;exact⟨by rw[F.out];rfl,D.out.bel⟩
      ·have I:((m:Int)==0)=false:=by simp;omega
       have C:Hid (∀ s,Below wr.heap.size wr s->Calls prog 120 #[Tv x W R,.int .i64 ((m:Int) - 1)] s fun e w'=>e=.returned (.int .i64 ((min x.height m:Nat):Int))/\Below s.heap.size s w'):=fun s hb=>by
        have:=IH.out x W R s (m - 1) (H.below hb) (B.out x (Zm d)) (by omega)
        rw[show ((m - 1:Nat):Int)=(m:Int) - 1 by omega,show m - 1+1=m by omega] at this
        exact this
       have ad:(1:Int)<=m:=by omega
       have aa:(m:Int)<=4:=by omega
       generalize N:min x.height m=z at C;have ac:(z:Int)<=4:=by omega
       have Z:Hid (max y (1+z)=min (((l.map (fun x=>1+x.height)).take (q+1)).foldl max 0) (m+1)):=by
        rw[G]
        have:=Y.out
        show _=_;omega
       clear p H d U G N Y j;simp only[Tv] at C
       generalize x.kind=kx at C P;generalize x.r=rx at C V;generalize x.len=lx at C d2;go_wp2_with fail
       refine(C.out _ Zr).mono ?_
       rintro e w2 ⟨rfl,X⟩;have X2:Hid (Bx w w2 k r (some ⟨g,o,none⟩) l.length c):=D.out.below X;clear D X C P V d2 e2;by_cases hd:(y:Int)<1+z
       ·go_wp2
        go_roundw
        case rel=>exact⟨q+1,1+z,by omega,by go_num,by go_num,by rw[<-Z.out];omega,X2.out⟩
        case measure=>simp[intOf];omega
       ·go_wp2
        go_roundw
        case rel=>exact⟨q+1,y,by omega,by go_num,Yz,by rw[<-Z.out];omega,X2.out⟩
        case measure=>simp[intOf];omega
     ·have F:Hid (b=y):=by
       have h1:=QcD (l.map (fun x=>1+x.height)) q;have T:=E.out;have h3:=L.out
       have:=Y.out
       show b=y;omega
      have u:¬ (y:Int)<=m:=by omega
      clear p j Y;go_wp2
      go_ret;exact⟨by rw[F.out];rfl,D.out.bel⟩
    ·have F:Hid (b=y):=by
      have T:=E.out;have h3:=L.out
      have:=Y.out
      rw[XO (by simp;omega)] at this
      show b=y;omega
     have K:¬ (q:Int)<l.length:=by omega
     clear p Y;go_wp2
     go_ret;exact⟨by rw[F.out];rfl,D.out.bel⟩
def Qil (f:Nat):Prop:=∀ (n:Nat) (t:TT n) (a:Option Addr) (c:Nat) (regs:Int) (w:World),TIn w All t a->t.count<=100000 ->
 Calls prog f #[Tv t a c,.int .i64 regs] w fun e w'=>e=.returned (.int .i64 (t.check regs))/\Below w.heap.size w w'
theorem typeFaultT_any:Qil 89:=by
 intro n t a c b w u p
 have g:Hid (∀ d,Below w.heap.size w d->Calls prog 120 #[Tv t a c,.int .i64 4] d fun e o=>e=.returned (.int .i64 ((min t.height 5:Nat):Int))/\Below d.heap.size d o) :=
  fun d s=>deepOf_any n t a c d 4 (u.below s) p (by omega)
 have h:Hid (∀ d,Below w.heap.size w d->Calls prog 126 #[Tv t a c,.int .i64 b] d fun e o=>e=.returned (.int .i64 (t.fault b))/\Below d.heap.size d o) :=
  fun d s=>typeFault_any n t a c b d (u.below s) p
 have E:Hid (t.check b=if 4<t.height then 19 else t.fault b):=rfl;generalize t.check b=j at E |-;clear u p;simp only[Tv] at g h |-
 generalize t.kind=k at g h |-;generalize t.r=r at g h |-;generalize t.len=f at g h |-;generalize t.fault b=v at h E;generalize z:min t.height 5=q at g;go_enter func89,ntmps89
 go_wp2_with fail
 have m:=Bx.start w k r a f c;generalize w.alloc (.cells #[.int .i64 k,.int .i64 r,.slice a f c] 70)=I at m |-;refine(g.out _ m.bel).mono ?_
 rintro e D ⟨rfl,y⟩;have i:Hid (Bx w D k r a f c):=m.below y;have A:=Qb i.out.box 0 _ Z;have G:=Qb i.out.box 1 _ Z;have F:=Qb i.out.box 2 _ Z;clear m y g;by_cases l:4<t.height
 ·have R:Hid (j=19):=by have:=E.out;rwa [Xs l] at this
  have B:(4:Int)<q:=by omega
  clear l z;go_wp2_with fail
  go_ret;exact⟨by rw[R.out];rfl,i.out.bel⟩
 ·have R:Hid (j=v):=by have:=E.out;rwa [Xr l] at this
  have B:¬ (4:Int)<q:=by omega
  clear l z;go_wp2_with fail
  refine(h.out _ i.out.bel).mono ?_
  rintro e H ⟨rfl,x⟩;have C:Hid (Bx w H k r a f c):=i.out.below x;clear i x h A G F;go_wp2_with fail
  go_ret;exact⟨by rw[R.out];rfl,C.out.bel⟩
theorem QfT (k r:Int) (a:Option Addr) (b c:Nat) (regs:Int) (w:World) :
 Calls prog 151 #[.agg #[.int .i64 k,.int .i64 r,.slice a b c],.int .i64 regs] w fun e w'=>e=.returned (.int .i64 (ownC k r b regs))/\Below w.heap.size w w':=by
 rcases (show k<1\/(¬ k<1/\4<k)\/k=1\/k=2\/k=4\/k=3 by omega) with d | ⟨d,g⟩ | rfl | rfl | rfl | rfl
 ·rw[show ownC _ _ b regs=3 by unfold ownC;repeat' split;all_goals omega]
  go_enter func151,ntmps151
  go_wp2_with fail
  go_ret;exact⟨Z,(Below.refl _ w).alloc Ze _⟩
 ·rw[show ownC _ _ b regs=3 by unfold ownC;repeat' split;all_goals omega]
  go_enter func151,ntmps151
  go_wp2_with fail
  go_ret;exact⟨Z,(Below.refl _ w).alloc Ze _⟩
 ·rcases (show r≠0\/(r=0/\0<b)\/(r=0/\b=0) by omega) with d | ⟨rfl,d⟩|⟨rfl,d⟩
  ·have f:(r != 0)=true:=by simpa using d
   rw[show ownC _ _ b regs=4 by unfold ownC;repeat' split;all_goals omega]
   go_enter func151,ntmps151
   go_wp2_with fail
   go_ret;exact⟨Z,(Below.refl _ w).alloc Ze _⟩
  ·have f:(0:Int)<(b:Int):=by omega
   rw[show ownC _ _ b regs=4 by unfold ownC;repeat' split;all_goals omega]
   go_enter func151,ntmps151
   go_wp2_with fail
   go_ret;exact⟨Z,(Below.refl _ w).alloc Ze _⟩
  ·have f:¬ (0:Int)<(b:Int):=by omega
   have h:¬ (8:Int)<(b:Int):=by omega
   rw[show ownC _ _ b regs=0 by unfold ownC;repeat' split;all_goals omega]
   go_enter func151,ntmps151
   go_wp2_with fail
   go_ret;exact⟨Z,(Below.refl _ w).alloc Ze _⟩
 ·rcases (show 0<b\/(b=0/\r<0)\/(b=0/\0<=r/\regs<=r)\/(b=0/\0<=r/\r<regs) by omega) with d | ⟨d,g⟩|⟨d,g,i⟩|⟨d,g,i⟩
  ·have f:(0:Int)<(b:Int):=by omega
   rw[show ownC _ _ b regs=4 by unfold ownC;repeat' split;all_goals omega]
   go_enter func151,ntmps151
   go_wp2_with fail
   go_ret;exact⟨Z,(Below.refl _ w).alloc Ze _⟩
  ·have f:¬ (0:Int)<(b:Int):=by omega
   have h:¬ (8:Int)<(b:Int):=by omega
   rw[show ownC _ _ b regs=1 by unfold ownC;repeat' split;all_goals omega]
   go_enter func151,ntmps151
   go_wp2_with fail
   go_ret;exact⟨Z,(Below.refl _ w).alloc Ze _⟩
  ·have f:¬ (0:Int)<(b:Int):=by omega
   have h:¬ (8:Int)<(b:Int):=by omega
   rw[show ownC _ _ b regs=1 by unfold ownC;repeat' split;all_goals omega]
   go_enter func151,ntmps151
   go_wp2_with fail
   go_ret;exact⟨Z,(Below.refl _ w).alloc Ze _⟩
  ·have f:¬ (0:Int)<(b:Int):=by omega
   have h:¬ (8:Int)<(b:Int):=by omega
   rw[show ownC _ _ b regs=0 by unfold ownC;repeat' split;all_goals omega]
   go_enter func151,ntmps151
   go_wp2_with fail
   go_ret;exact⟨Z,(Below.refl _ w).alloc Ze _⟩
 ·rcases (show 0<b\/(b=0/\r<0)\/(b=0/\0<=r/\regs<=r)\/(b=0/\0<=r/\r<regs) by omega) with d | ⟨d,g⟩|⟨d,g,i⟩|⟨d,g,i⟩
  ·have f:(0:Int)<(b:Int):=by omega
   rw[show ownC _ _ b regs=4 by unfold ownC;repeat' split;all_goals omega]
   go_enter func151,ntmps151
   go_wp2_with fail
   go_ret;exact⟨Z,(Below.refl _ w).alloc Ze _⟩
  ·have f:¬ (0:Int)<(b:Int):=by omega
   have h:¬ (8:Int)<(b:Int):=by omega
   rw[show ownC _ _ b regs=1 by unfold ownC;repeat' split;all_goals omega]
   go_enter func151,ntmps151
   go_wp2_with fail
   go_ret;exact⟨Z,(Below.refl _ w).alloc Ze _⟩
  ·have f:¬ (0:Int)<(b:Int):=by omega
   have h:¬ (8:Int)<(b:Int):=by omega
   rw[show ownC _ _ b regs=1 by unfold ownC;repeat' split;all_goals omega]
   go_enter func151,ntmps151
   go_wp2_with fail
   go_ret;exact⟨Z,(Below.refl _ w).alloc Ze _⟩
  ·have f:¬ (0:Int)<(b:Int):=by omega
   have h:¬ (8:Int)<(b:Int):=by omega
   rw[show ownC _ _ b regs=0 by unfold ownC;repeat' split;all_goals omega]
   go_enter func151,ntmps151
   go_wp2_with fail
   go_ret;exact⟨Z,(Below.refl _ w).alloc Ze _⟩
 ·rcases (show 8<b\/(b<=8/\r<0)\/(b<=8/\0<=r/\regs<=r)\/(b<=8/\0<=r/\r<regs) by omega) with d | ⟨d,g⟩|⟨d,g,i⟩|⟨d,g,i⟩
  ·have f:(8:Int)<(b:Int):=by omega
   rw[show ownC _ _ b regs=2 by unfold ownC;repeat' split;all_goals omega]
   go_enter func151,ntmps151
   go_wp2_with fail
   go_ret;exact⟨Z,(Below.refl _ w).alloc Ze _⟩
  ·have f:¬ (8:Int)<(b:Int):=by omega
   rw[show ownC _ _ b regs=1 by unfold ownC;repeat' split;all_goals omega]
   go_enter func151,ntmps151
   go_wp2_with fail
   go_ret;exact⟨Z,(Below.refl _ w).alloc Ze _⟩
  ·have f:¬ (8:Int)<(b:Int):=by omega
   rw[show ownC _ _ b regs=1 by unfold ownC;repeat' split;all_goals omega]
   go_enter func151,ntmps151
   go_wp2_with fail
   go_ret;exact⟨Z,(Below.refl _ w).alloc Ze _⟩
  ·have f:¬ (8:Int)<(b:Int):=by omega
   rw[show ownC _ _ b regs=0 by unfold ownC;repeat' split;all_goals omega]
   go_enter func151,ntmps151
   go_wp2_with fail
   go_ret;exact⟨Z,(Below.refl _ w).alloc Ze _⟩
theorem firstCode_any:∀ n,QeA 140 n:=by
 intro n
 induction n with
 | zero=>intro t;exact Empty.elim t
 | succ n ih =>
   intro t a c b w ht M;have IH:Hid (QeA 140 n):=ih;clear ih;have T:Hid (LIn w All t.2.2 a):=ht.list;have F:Hid (∀ x∈t.2.2,x.count<=100000):=fun x p=>by have:=t.count_kid p;omega
   have D:t.2.2.length<=100000:=by have:=t.len_lt_count;rw[t.len_eq] at this;omega
   have f:Hid (t.fault b=if ownC t.kind t.r t.2.2.length b≠0 then ownC t.kind t.r t.2.2.length b else QE (TT.fault b) t.2.2):=rfl;generalize t.fault b=d at f |-;simp only[Tv,TT.len_eq]
   generalize t.2.2=l at T F f D |-;generalize t.kind=k at f |-;generalize t.r=r at f |-;clear ht M t;go_enter func140,ntmps140
   go_wp2_with fail
   have X0:Hid (Bx w (w.alloc (.cells #[.int .i64 k,.int .i64 r,.slice a l.length c] 70)) k r a l.length c):=Bx.start w k r a l.length c;refine(QfT k r a l.length c b _).mono ?_
   rintro e X ⟨rfl,S⟩;have m:Hid (Bx w X k r a l.length c):=X0.out.below S;clear X0 S;by_cases z:ownC k r l.length b=0
   ·have R:Hid (d=QE (TT.fault b) l):=by
     have:=f.out
     rw[z] at this
     show d=QE (TT.fault b) l;simpa using this
    rw[z]
    clear z f;have e2:X.cell? ⟨w.heap.size,2,none⟩=some (.slice a l.length c):=Qb m.out.box 2 _ Z;go_wp2_with fail
    clear e2;go_loopw [18] (fun i wr=>∃ q:Nat,q<=l.length/\i=.int .i64 q/\(∀ (j:Nat) x,j<q->l[j]?=some x->x.fault b=0)/\Bx w wr k r a l.length c) (fun i _=>l.length - (intOf i).toNat)
    case atStart=>exact⟨0,Xb _,Z,fun j x hj=>by omega,m.out⟩
    case round =>
     clear m;obtain⟨q,hq,rfl,h,H⟩:=hrel
     have A:Hid (∀ (j:Nat) x,j<q->l[j]?=some x->x.fault b=0):=h;have m:Hid (Bx w wr k r a l.length c):=H;clear h;by_cases O:q<l.length
     ·have p:l[q]?=some l[q]:=Zg O;generalize l[q]=x at p;obtain⟨g,o,K,I,rfl,_,Q,V,d2,U⟩:=LIn.at (T.out.below H.bel) p
      have E:Hid (l[q]?=some x):=p;have aa:(0:Int)<=q:=by omega
      have N:(q:Int)<l.length:=by omega
      have C:Hid (∀ u,Below wr.heap.size wr u->Calls prog 140 #[Tv x K I,.int .i64 b] u fun e w'=>e=.returned (.int .i64 (x.fault b))/\Below u.heap.size u w') :=
       fun u hb=>IH.out x K I b u (U.below hb) (F.out x (Zm p))
      clear H U p;simp only[Tv] at C
      generalize x.kind=kx at C Q;generalize x.r=rx at C V;generalize x.len=lx at C d2;go_wp2_with fail
      have L:Below wr.heap.size wr (wr.alloc (.cells #[.int .i64 kx,.int .i64 rx,.slice K lx I] 70)):=(Below.refl _ wr).alloc Ze _;refine(C.out _ L).mono ?_
      rintro e w2 ⟨rfl,W⟩;have X2:Hid (Bx w w2 k r (some ⟨g,o,none⟩) l.length c):=(m.out.below L).below W;clear m W L C Q V d2;by_cases B:x.fault b=0
      ·have A2:Hid (∀ (j:Nat) x,j<q+1->l[j]?=some x->x.fault b=0):=fun j y hj s=>by
        by_cases e:j=q
        ·subst e;rw[E.out] at s
         cases s
         exact B
        ·exact A.out j y (by omega) s
       rw[B]
       clear B A;go_wp2
       go_roundw
       case rel=>exact⟨q+1,by omega,by go_num,A2.out,X2.out⟩
       case measure=>simp[intOf];omega
      ·have G:Hid (d=x.fault b):=R.out.trans (QaP E.out A.out B);have P:(x.fault b != 0)=true:=by simpa using B
       generalize x.fault b=v at P G |-;clear B A;go_wp2
       go_ret;exact⟨by rw[G.out];rfl,X2.out.bel⟩
     ·have G:Hid (d=0):=R.out.trans (Qav (fun j y s=>A.out j y (by have:=(Zi s).1;omega) s));have N:¬ (q:Int)<l.length:=by omega
      clear H A;go_wp2
      go_ret;exact⟨by rw[G.out];rfl,m.out.bel⟩
   ·have R:Hid (d=ownC k r l.length b):=by
     have:=f.out
     rwa [Xs z] at this
    have J:(ownC k r l.length b != 0)=true:=by simpa using z
    generalize ownC k r l.length b=v at J R |-;clear z f;go_wp2_with fail
    go_ret;exact⟨by rw[R.out];rfl,m.out.bel⟩
theorem QiN {l:List (TT n)}{k r:Int}:m<TT.height (n:=n+1) (mkT k r l)↔∃ (i:Nat) (x:TT n),l[i]?=some x/\m<1+x.height:=by
 rw[<-Nat.not_le,ZT]
 constructor
 ·intro h;simp only[Classical.not_forall] at h
  obtain⟨x,a,b⟩:=h
  obtain⟨i,c,rfl⟩:=List.mem_iff_getElem.1 a
  exact⟨i,_,Zg c,by omega⟩
 ·rintro ⟨i,x,a,b⟩ h
  have:=h x (Zm (l:=l) a)
  omega
theorem deeper_any:∀ (n:Nat) (t:TT n) (a:Option Addr) (c:Nat) (w:World) (m:Nat),TIn w All t a->t.count<=100000->m<=4 ->
 Calls prog 139 #[Tv t a c,.int .i64 m] w fun e w'=>e=.returned (.bool (decide (m<t.height)))/\Below w.heap.size w w':=by
 intro n
 induction n with
 | zero=>intro t;exact Empty.elim t
 | succ n ih =>
   intro t a c w m X N ad
   have IH:Hid (∀ (t:TT n) (a:Option Addr) (c:Nat) (w:World) (m:Nat),TIn w All t a->t.count<=100000->m<=4 ->
    Calls prog 139 #[Tv t a c,.int .i64 m] w fun e w'=>e=.returned (.bool (decide (m<t.height)))/\Below w.heap.size w w'):=ih
   clear ih;have R:Hid (LIn w All t.2.2 a):=X.list;have z:Hid (∀ x∈t.2.2,x.count<=100000):=fun x b=>by have:=t.count_kid b;omega
   have u:t.2.2.length<=100000:=by have:=t.len_lt_count;rw[t.len_eq] at this;omega
   have B:Hid (m<t.height↔∃ (i:Nat) (x:TT n),t.2.2[i]?=some x/\m<1+x.height):=QiN;generalize t.height=h at B |-;simp only[Tv,TT.len_eq]
   generalize t.2.2=l at R z B u |-;generalize t.kind=k;generalize t.r=r;clear X N t;go_enter func139,ntmps139
   go_wp2_with fail
   have Q:Hid (Bx w (w.alloc (.cells #[.int .i64 k,.int .i64 r,.slice a l.length c] 70)) k r a l.length c):=Bx.start w k r a l.length c;generalize w.alloc (.cells #[.int .i64 k,.int .i64 r,.slice a l.length c] 70)=w1 at Q |-;go_loopw [10] (fun i wr=>∃ q:Nat,q<=l.length/\i=.int .i64 q/\(∀ (j:Nat) x,j<q->l[j]?=some x->1+x.height<=m)/\Bx w wr k r a l.length c) (fun i _=>l.length - (intOf i).toNat)
   case atStart=>exact⟨0,Xb _,Z,fun j x hj=>by omega,Q.out⟩
   case round =>
    clear Q;obtain⟨q,hq,rfl,d,D⟩:=hrel
    have A:Hid (∀ (j:Nat) x,j<q->l[j]?=some x->1+x.height<=m):=d;have F:Hid (Bx w wr k r a l.length c):=D;clear d;by_cases P:q<l.length
    ·have b:l[q]?=some l[q]:=Zg P;generalize l[q]=x at b;obtain⟨g,o,L,I,rfl,_,G,T,V,J⟩:=LIn.at (R.out.below D.bel) b
     have hg:g<wr.heap.size:=Xi wr ⟨g,o+q*3,none⟩ G;have v:Hid (l[q]?=some x):=b;have ab:(0:Int)<=q:=by omega
     have O:(q:Int)<l.length:=by omega
     by_cases S:m=0
     ·have p:Hid (m<h):=B.out.2 ⟨q,x,b,by omega⟩;have K:((m:Int)==0)=true:=by simp;omega
      clear D J b S;go_wp2_with fail
      go_ret;exact⟨by rw[Xt p.out];rfl,(F.out.alloc _).bel⟩
     ·have K:((m:Int)==0)=false:=by simp;omega
      have C:Hid (∀ f,Below wr.heap.size wr f->Calls prog 139 #[Tv x L I,.int .i64 ((m:Int) - 1)] f fun e w'=>e=.returned (.bool (decide (m - 1<x.height)))/\Below f.heap.size f w'):=fun f hb=>by
       have:=IH.out x L I f (m - 1) (J.below hb) (z.out x (Zm b)) (by omega)
       rw[show ((m - 1:Nat):Int)=(m:Int) - 1 by omega] at this
       exact this
      have ac:(1:Int)<=m:=by omega
      have aa:(m:Int)<=4:=by omega
      have s:Hid (1<=m):=by show 1<=m;omega
      clear D J b S;simp only[Tv] at C
      generalize x.kind=kx at C G;generalize x.r=rx at C T;generalize x.len=lx at C V;go_wp2_with fail
      have M:Below wr.heap.size wr (wr.alloc (.cells #[.int .i64 kx,.int .i64 rx,.slice L lx I] 70)):=(Below.refl _ wr).alloc Ze _;refine(C.out _ M).mono ?_
      rintro e w2 ⟨rfl,U⟩;have W:Hid (Bx w w2 k r (some ⟨g,o,none⟩) l.length c):=(F.out.below M).below U;clear F U M C G T V;by_cases E:m - 1<x.height
      ·have p:Hid (m<h):=B.out.2 ⟨q,x,v.out,by have:=s.out;omega⟩;rw[Xt E]
       clear E;go_wp2
       go_ret;exact⟨by rw[Xt p.out];rfl,W.out.bel⟩
      ·have A2:Hid (∀ (j:Nat) x,j<q+1->l[j]?=some x->1+x.height<=m):=fun j y hj H=>by
        by_cases e:j=q
        ·subst e;rw[v.out] at H
         cases H
         have:=s.out
         omega
        ·exact A.out j y (by omega) H
       rw[Xu E]
       clear E A;go_wp2
       go_roundw
       case rel=>exact⟨q+1,by omega,by go_num,A2.out,W.out⟩
       case measure=>simp[intOf];omega
    ·have p:Hid (¬ m<h):=fun hc=>by
      obtain⟨i,x,b,h3⟩:=B.out.1 hc
      have:=A.out i x (by have:=(Zi b).1;omega) b
      omega
     have O:¬ (q:Int)<l.length:=by omega
     clear D A;go_wp2
     go_ret;exact⟨by rw[Xu p.out];rfl,F.out.bel⟩
theorem check_any:Qil 113:=by
 intro n t a c b w s p
 have i:Hid (∀ d,Below w.heap.size w d->Calls prog 139 #[Tv t a c,.int .i64 4] d fun e o=>e=.returned (.bool (decide (4<t.height)))/\Below d.heap.size d o) :=
  fun d q=>deeper_any n t a c d 4 (s.below q) p (by omega)
 have g:Hid (∀ d,Below w.heap.size w d->Calls prog 140 #[Tv t a c,.int .i64 b] d fun e o=>e=.returned (.int .i64 (t.fault b))/\Below d.heap.size d o) :=
  fun d q=>firstCode_any n t a c b d (s.below q) p
 have E:Hid (t.check b=if 4<t.height then 19 else t.fault b):=rfl;generalize t.check b=l at E |-;clear s p;simp only[Tv] at i g |-
 generalize t.kind=k at i g |-;generalize t.r=r at i g |-;generalize t.len=f at i g |-;generalize t.fault b=v at g E;go_enter func113,ntmps113
 go_wp2_with fail
 have m:=Bx.start w k r a f c;generalize w.alloc (.cells #[.int .i64 k,.int .i64 r,.slice a f c] 70)=F at m |-;refine(i.out _ m.bel).mono ?_
 rintro e A ⟨rfl,x⟩;have h:Hid (Bx w A k r a f c):=m.below x;have y:=Qb h.out.box 0 _ Z;have C:=Qb h.out.box 1 _ Z;have B:=Qb h.out.box 2 _ Z;clear m x i;by_cases j:4<t.height
 ·rw[Xt j]
  have R:Hid (l=19):=by have:=E.out;rwa [Xs j] at this
  clear j;go_wp2_with fail
  go_ret;exact⟨by rw[R.out];rfl,h.out.bel⟩
 ·rw[Xu j]
  have R:Hid (l=v):=by have:=E.out;rwa [Xr j] at this
  clear j;go_wp2_with fail
  refine(g.out _ h.out.bel).mono ?_
  rintro e D ⟨rfl,u⟩;have z:Hid (Bx w D k r a f c):=h.out.below u;clear h u g y C B;go_wp2_with fail
  go_ret;exact⟨by rw[R.out];rfl,z.out.bel⟩
def Zx (e:Ending) (A:Prop):Prop:=∃ q:Bool,e=.returned (.bool q)/\(q=true↔A)
theorem Zx.yes {A:Prop}(h:A):Zx (.returned (.bool true)) A:=⟨true,Z,by simp[h]⟩
theorem Zx.no {A:Prop}(h:¬ A):Zx (.returned (.bool false)) A:=⟨false,Z,by simp[h]⟩
def Qd9 (f:Nat) (n:Nat):Prop:=∀ (t u:TT n) (a b:Option Addr) (c d:Nat) (w:World),TIn w All t a->TIn w All u b->t.count<=100000 ->
 Calls prog f #[Tv t a c,Tv u b d] w fun e w'=>Zx e (t=u)/\Below w.heap.size w w'
theorem QeN (n:Nat) (M:Qd9 36 n) (l m:List (TT n)) (a b:Option Addr) (c d:Nat) (w:World) (H:LIn w All l a) (I:LIn w All m b) (aa:l.length<=100000) (z:∀ x∈l,x.count<=100000) :
 Calls prog 13 #[.slice a l.length c,.slice b m.length d] w fun e w'=>Zx e (l=m)/\Below w.heap.size w w':=by
 have IH:Hid (Qd9 36 n):=M;have hl:Hid (LIn w All l a):=H;have hm:Hid (LIn w All m b):=I;have Q:Hid (∀ x∈l,x.count<=100000):=z;clear M H I z;by_cases v:l.length=m.length
 ·have L:((l.length:Int) != (m.length:Int))=false:=by simp;omega
  have E:Hid (l.length=m.length):=v;clear v;go_enter func13,ntmps13
  go_wp2_with fail
  go_loopw [5] (fun i wr=>∃ q:Nat,q<=l.length/\i=.int .i64 q/\(∀ j,j<q->l[j]?=m[j]?)/\Below w.heap.size w wr) (fun i _=>l.length - (intOf i).toNat)
  case atStart=>exact⟨0,Xb _,Z,fun j hj=>by omega,Zr⟩
  case round =>
   obtain⟨q,hq,rfl,D,hb⟩:=hrel
   have A:Hid (∀ j,j<q->l[j]?=m[j]?):=D;have B:Hid (Below w.heap.size w wr):=hb;clear D hb;by_cases S:q<l.length
   ·have G:l[q]?=some l[q]:=Zg S;have P:q<m.length:=by have:=E.out;omega
    have N:m[q]?=some m[q]:=Zg P;generalize l[q]=x at G;generalize m[q]=y at N;obtain⟨g,o,X,U,rfl,_,d0,d1,d2,W⟩:=LIn.at (hl.out.below B.out) G
    obtain⟨g',o',V,d',rfl,_,d3,d4,d5,K⟩:=LIn.at (hm.out.below B.out) N
    have C:Hid (∀ k,Calls prog 36 #[Tv x X U,Tv y V d'] (wr.drewN k) fun e w'=>Zx e (x=y)/\Below wr.heap.size wr w') :=
     fun k=>(IH.out x y X V U d' _ (W.drewN k) (K.drewN k) (Q.out x (Zm G))).mono (fun e w' h=>⟨h.1,Qa0 h.2⟩)
    have u:Hid (l[q]?=some x):=G;have f:Hid (m[q]?=some y):=N;clear W K G N;have ab:(0:Int)<=q:=by omega
    have O:(q:Int)<l.length:=by omega
    have ac:(q:Int)<m.length:=by omega
    go_upto_region 6 with fail
    go_cut [26] (fun t wx=>∃ p:Bool,t=.bool (!p)/\(p=true↔x=y)/\Below wr.heap.size wr wx)
    case first =>
     go_region_with (go_at_call 36;refine(C.out 1).mono ?_;rintro r w5 ⟨⟨p,rfl,F⟩,J⟩;have HP:Hid (p=true↔x=y):=F;have B5:Hid (Below wr.heap.size wr w5):=J;clear F J)
     all_goals
      go_wp2
      go_meet;exact⟨p,Z,HP.out,B5.out⟩
    case rest =>
     obtain⟨p,rfl,F,J⟩:=hcut
     have T:Hid (Below w.heap.size w wc):=B.out.trans (J.mono B.out.size);clear C J B d0 d1 d2 d3 d4 d5
     cases p with
     | true =>
       have s:x=y:=F.1 Z
       have A2:Hid (∀ j,j<q+1->l[j]?=m[j]?):=fun j hj=>by
        by_cases e:j=q
        ·subst e;rw[u.out,f.out,s]
        ·exact A.out j (by omega)
       clear F s u f A;go_wp2
       go_roundw
       case rel=>exact⟨q+1,by omega,by go_num,A2.out,T.out⟩
       case measure=>simp[intOf];omega
     | false =>
       have s:Hid (¬ l=m):=fun h=>by
        have h1:=u.out;rw[h,f.out] at h1
        have:=F.2 (Xn h1).symm
        cases this
       clear F u f A;go_wp2
       go_ret;exact⟨Zx.no s.out,T.out⟩
   ·have R:Hid (l=m):=by
     have:=E.out
     refine List.ext_getElem? (fun i=>?_);by_cases hi:i<q
     ·exact A.out i hi
     ·rw[Xk (by omega),Xk (by omega)]
    have O:¬ (q:Int)<l.length:=by omega
    clear A;go_wp2
    go_ret;exact⟨Zx.yes R.out,B.out⟩
 ·have L:((l.length:Int) != (m.length:Int))=true:=by simp;omega
  have E:Hid (l.length≠m.length):=v;clear v;go_enter func13,ntmps13
  go_wp2
  go_ret;exact⟨Zx.no (fun h=>E.out (by rw[h])),Zr⟩
theorem TT.eq_iff {t u:TT (n+1)}:t=u↔t.kind=u.kind/\t.r=u.r/\t.2.2=u.2.2:=by
 obtain⟨a,b,c⟩:=t
 obtain⟨d,e,f⟩:=u
 constructor
 ·intro h;cases h;exact⟨Z,Z,Z⟩
 ·rintro ⟨rfl,rfl,rfl⟩;rfl
theorem samet_any:∀ n,Qd9 36 n:=by
 intro n
 induction n with
 | zero=>intro t;exact Empty.elim t
 | succ n ih =>
   intro t u a b c d w F y I;have i:∀ x∈t.2.2,x.count<=100000:=fun x G=>by have:=t.count_kid G;omega
   have f:t.2.2.length<=100000:=by have:=t.len_lt_count;rw[t.len_eq] at this;omega
   have C:Hid (∀ g,Below w.heap.size w g->Calls prog 13 #[.slice a t.2.2.length c,.slice b u.2.2.length d] g fun e H=>Zx e (t.2.2=u.2.2)/\Below g.heap.size g H) :=
    fun g D=>QeN n ih t.2.2 u.2.2 a b c d g (F.below D) (y.below D) f i
   rw[TT.eq_iff]
   simp only[Tv,TT.len_eq] at C |-
   generalize t.2.2.length=p at C |-;generalize u.2.2.length=q at C |-;generalize (t.2.2=u.2.2)=E at C |-;generalize t.kind=k;generalize t.r=r;generalize u.kind=o;generalize u.r=s;clear i f I F y ih t u;by_cases j:k=o
   ·subst j;by_cases m:r=s
    ·subst m;go_enter func36,ntmps36
     go_wp2_with fail
     have l:Below w.heap.size w ((w.alloc (.cells #[.int .i64 k,.int .i64 r,.slice a p c] 70)).alloc (.cells #[.int .i64 k,.int .i64 r,.slice b q d] 70)):=((Below.refl _ w).alloc Ze _).alloc (by simp) _;refine(C.out _ l).mono ?_
     rintro e J ⟨⟨v,rfl,A⟩,z⟩;have B:Hid (Below w.heap.size w J):=l.trans (z.mono l.size);have V:Hid (v=true↔E):=A;clear z C A l
     cases v
     all_goals
      go_wp2
      go_ret
     ·exact⟨Zx.no (fun h=>by have:=V.out.2 h.2.2;cases this),B.out⟩
     ·exact⟨Zx.yes (by have:=V.out;simpa using this),B.out⟩
    ·have K:(r==s)=false:=by simpa using m
     have R:Hid (¬ r=s):=m;clear m;go_enter func36,ntmps36
     go_wp2_with fail
     go_ret;exact⟨Zx.no (fun h=>R.out h.2.1),((Below.refl _ w).alloc Ze _).alloc (by simp) _⟩
   ·have L:(k==o)=false:=by simpa using j
    have R:Hid (¬ k=o):=j;clear j;go_enter func36,ntmps36
    go_wp2_with fail
    go_ret;exact⟨Zx.no (fun h=>R.out h.1),((Below.refl _ w).alloc Ze _).alloc (by simp) _⟩
abbrev FV:Value:=.func (.func 114) #[] #[]
theorem QhO (n:Nat) (K:Qd9 114 n) (l m:List (TT n)) (a b:Option Addr) (c d:Nat) (w:World) (F:LIn w All l a) (G:LIn w All m b) (ab:l.length<=100000) (u:∀ x∈l,x.count<=100000) :
 Calls prog 141 #[.slice a l.length c,.slice b m.length d,FV] w fun e w'=>Zx e (l=m)/\Below w.heap.size w w':=by
 have IH:Hid (Qd9 114 n):=K;have hl:Hid (LIn w All l a):=F;have hm:Hid (LIn w All m b):=G;have X:Hid (∀ x∈l,x.count<=100000):=u;clear K F G u;by_cases t:l.length=m.length
 ·have J:((l.length:Int) != (m.length:Int))=false:=by simp;omega
  have E:Hid (l.length=m.length):=t;clear t;go_enter func141,ntmps141
  go_wp2_with fail
  go_loopw [17] (fun i wr=>∃ q:Nat,q<=l.length/\i=.int .i64 q/\(∀ j,j<q->l[j]?=m[j]?)/\Below w.heap.size w wr) (fun i _=>l.length - (intOf i).toNat)
  case atStart=>exact⟨0,Xb _,Z,fun j hj=>by omega,Zr⟩
  case round =>
   obtain⟨q,hq,rfl,v,H⟩:=hrel
   have A:Hid (∀ j,j<q->l[j]?=m[j]?):=v;have B:Hid (Below w.heap.size w wr):=H;clear v H;by_cases aa:q<l.length
   ·have z:l[q]?=some l[q]:=Zg aa;have V:q<m.length:=by have:=E.out;omega
    have L:m[q]?=some m[q]:=Zg V;generalize l[q]=x at z;generalize m[q]=y at L;obtain⟨g,o,T,Q,rfl,_,P,d1,d2,hk⟩:=LIn.at (hl.out.below B.out) z
    obtain⟨g',o',S,W,rfl,_,O,d4,d5,I⟩:=LIn.at (hm.out.below B.out) L
    have C:Hid (∀ D,Below wr.heap.size wr D->Calls prog 114 #[Tv x T Q,Tv y S W] D fun e w'=>Zx e (x=y)/\Below D.heap.size D w') :=
     fun D H=>IH.out x y T S Q W _ (hk.below H) (I.below H) (X.out x (Zm z))
    have s:Hid (l[q]?=some x):=z;have f:Hid (m[q]?=some y):=L;have hg:g<wr.heap.size:=Xi wr ⟨g,o+q*3,none⟩ P;have ad:g'<wr.heap.size:=Xi wr ⟨g',o'+q*3,none⟩ O;clear hk I z L;simp only[Tv] at C
    generalize x.kind=kx at C P;generalize x.r=rx at C d1;generalize x.len=lx at C d2;generalize y.kind=ky at C O;generalize y.r=ry at C d4;generalize y.len=ly at C d5;have ac:(0:Int)<=q:=by omega
    have U:(q:Int)<l.length:=by omega
    have ae:(q:Int)<m.length:=by omega
    go_wp2_with fail
    have N:Below wr.heap.size wr ((wr.alloc (.cells #[.int .i64 kx,.int .i64 rx,.slice T lx Q] 70)).alloc (.cells #[.int .i64 ky,.int .i64 ry,.slice S ly W] 70)):=((Below.refl _ wr).alloc Ze _).alloc (by simp) _;refine(C.out _ N).mono ?_
    rintro r w5 ⟨⟨p,rfl,M⟩,b5⟩;have HB:Hid (Below w.heap.size w w5):=(B.out.trans (N.mono B.out.size)).trans (b5.mono (Zt B.out.size N.size));clear C b5 B P d1 d2 O d4 d5 N
    cases p with
    | true =>
      have k:x=y:=M.1 Z
      have A2:Hid (∀ j,j<q+1->l[j]?=m[j]?):=fun j hj=>by
       by_cases e:j=q
       ·subst e;rw[s.out,f.out,k]
       ·exact A.out j (by omega)
      clear M k s f A;go_wp2
      go_roundw
      case rel=>exact⟨q+1,by omega,by go_num,A2.out,HB.out⟩
      case measure=>simp[intOf];omega
    | false =>
      have k:Hid (¬ l=m):=fun h=>by
       have h1:=s.out;rw[h,f.out] at h1
       have:=M.2 (Xn h1).symm
       cases this
      clear M s f A;go_wp2
      go_ret;exact⟨Zx.no k.out,HB.out⟩
   ·have R:Hid (l=m):=by
     have:=E.out
     refine List.ext_getElem? (fun i=>?_);by_cases hi:i<q
     ·exact A.out i hi
     ·rw[Xk (by omega),Xk (by omega)]
    have U:¬ (q:Int)<l.length:=by omega
    clear A;go_wp2
    go_ret;exact⟨Zx.yes R.out,B.out⟩
 ·have J:((l.length:Int) != (m.length:Int))=true:=by simp;omega
  have E:Hid (l.length≠m.length):=t;clear t;go_enter func141,ntmps141
  go_wp2
  go_ret;exact⟨Zx.no (fun h=>E.out (by rw[h])),Zr⟩
theorem same_any:∀ n,Qd9 114 n:=by
 intro n
 induction n with
 | zero=>intro t;exact Empty.elim t
 | succ n ih =>
   intro t u a b c d w F y I;have i:∀ x∈t.2.2,x.count<=100000:=fun x G=>by have:=t.count_kid G;omega
   have f:t.2.2.length<=100000:=by have:=t.len_lt_count;rw[t.len_eq] at this;omega
   have C:Hid (∀ g,Below w.heap.size w g->Calls prog 141 #[.slice a t.2.2.length c,.slice b u.2.2.length d,FV] g fun e H=>Zx e (t.2.2=u.2.2)/\Below g.heap.size g H) :=
    fun g D=>QhO n ih t.2.2 u.2.2 a b c d g (F.below D) (y.below D) f i
   rw[TT.eq_iff]
   simp only[Tv,TT.len_eq] at C |-
   generalize t.2.2.length=p at C |-;generalize u.2.2.length=q at C |-;generalize (t.2.2=u.2.2)=E at C |-;generalize t.kind=k;generalize t.r=r;generalize u.kind=o;generalize u.r=s;clear i f I F y ih t u;by_cases j:k=o
   ·subst j;by_cases m:r=s
    ·subst m;go_enter func114,ntmps114
     go_wp2_with fail
     have l:Below w.heap.size w ((w.alloc (.cells #[.int .i64 k,.int .i64 r,.slice a p c] 70)).alloc (.cells #[.int .i64 k,.int .i64 r,.slice b q d] 70)):=((Below.refl _ w).alloc Ze _).alloc (by simp) _;refine(C.out _ l).mono ?_
     rintro e J ⟨⟨v,rfl,A⟩,z⟩;have B:Hid (Below w.heap.size w J):=l.trans (z.mono l.size);have V:Hid (v=true↔E):=A;clear z C A l
     cases v
     all_goals
      go_wp2
      go_ret
     ·exact⟨Zx.no (fun h=>by have:=V.out.2 h.2.2;cases this),B.out⟩
     ·exact⟨Zx.yes (by have:=V.out;simpa using this),B.out⟩
    ·have K:(r==s)=false:=by simpa using m
     have R:Hid (¬ r=s):=m;clear m;go_enter func114,ntmps114
     go_wp2_with fail
     go_ret;exact⟨Zx.no (fun h=>R.out h.2.1),((Below.refl _ w).alloc Ze _).alloc (by simp) _⟩
   ·have L:(k==o)=false:=by simpa using j
    have R:Hid (¬ k=o):=j;clear j;go_enter func114,ntmps114
    go_wp2_with fail
    go_ret;exact⟨Zx.no (fun h=>R.out h.1),((Below.refl _ w).alloc Ze _).alloc (by simp) _⟩
theorem Qcl {a:World}(h:Below B a w):Below B a w.drew:=⟨h.os,h.tape,h.output,h.size,h.block⟩
theorem ZV (h:Below w.drew.heap.size w.drew w'):Below w.heap.size w w':=⟨h.os,h.tape,h.output,h.size,h.block⟩
noncomputable def JSt.beC (s:JSt) (a:Int) (t:TT 6):Int:=match s.at a with | none=>1 | some v=>if bdec (v=t) then 0 else 9
theorem Qig {s:JSt}{a:Int}{t:TT 6}(h:s.has a≠0):s.beC a t=s.has a:=by
 unfold JSt.has JSt.beC at *
 cases e:s.at a with
 | none=>rfl
 | some t=>rw[e] at h;exact absurd Z h
theorem QjU {s:JSt}{a:Int}{t v:TT 6}(h:s.at a=some v):s.beC a t=if bdec (v=t) then 0 else 9:=by unfold JSt.beC;rw[h]
theorem Qdv {s:JSt}(a:Int){t:TT 6}(W:TIn w Q t p) (hL:s.L.length<=80) (j:∀ x∈s.L,x.count<=100000) (hO:∀ k,O k->k<w.heap.size) (h:SAt w b O A s) :
 Calls prog 72 #[.pointer (some ⟨b,0,none⟩),.int .i64 a,Tv t p c] w fun e w'=>Qac (s.beC a t) VNone e/\Below w.heap.size w w':=by
 have E:=QU w (.cells #[.int .i64 t.kind,.int .i64 t.r,.slice p t.len c] 70);have I:=Qa (h.below E);have l:=Qa E;have N:=Qa (W.below E);have o:Hid (Blk (w.alloc (.cells #[.int .i64 t.kind,.int .i64 t.r,.slice p t.len c] 70)) w.heap.size #[.int .i64 t.kind,.int .i64 t.r,.slice p t.len c] 70):=Blk.new _ _ _;have S:=Qa j;clear h E hO W j;go_enter func72,ntmps72
 go_upto_region 1 with fail
 generalize w.alloc (.cells #[.int .i64 t.kind,.int .i64 t.r,.slice p t.len c] 70)=n at I l N o |-;obtain⟨X,V⟩:∃ X,w.heap.size=X:=⟨_,Z⟩
 rw[V] at o |-
 rw[<-V]
 have C:Hid (∀ f,Below n.heap.size n f->Calls prog 112 #[.pointer (some ⟨b,0,none⟩),.int .i64 a] f fun e w'=>Qac (s.has a) (QkO w' A s a) e/\Below f.heap.size f w'):=fun f K=>Qck a hL (I.out.below K)
 have D:Hid (∀ (v:TT 6) (q:Option Addr) (d:Nat) (f:World),s.at a=some v->TIn f (fun g=>¬ A g) v q->Below n.heap.size n f->Calls prog 114 #[Tv v q d,Tv t p c] f fun e w'=>Zx e (v=t)/\Below f.heap.size f w') :=
  fun v q d f G m K=>same_any 6 v t q p d c f m.all (N.out.below K).all (S.out v (QaO G).1)
 clear I N S;have y0:=Qb o.out 0 _ Z;have y1:=Qb o.out 1 _ Z;have y2:=Qb o.out 2 _ Z;clear o
 go_region_with (first
  | (go_at_call 112;refine(C.out _ (Qcl Zr)).mono ?_;rintro R w2 ⟨⟨z,x,rfl,v,q,d,G,rfl,u,-⟩|⟨z,rfl⟩,J⟩;rotate_left;exact⟨Z,.inr ⟨by rw[Qig z];exact z,by rw[Qig z]⟩,l.out.trans ((ZV J).mono l.out.size)⟩;have i:Below n.heap.size n w2:=ZV J;have y3:=Qp y0 i;have y4:=Qp y1 i;have y5:=Qp y2 i;have M:=Qa i;have F:=Qa (Xh G u);clear G u z J i)
  | (go_at_call 114;refine(D.out _ _ _ _ F.out.1 F.out.2 M.out).mono ?_;rintro R w3 ⟨⟨U,rfl,y⟩,P⟩;have T:=Qa (M.out.trans (P.mono M.out.size));have B:=Qa y;clear P y)
  | (go_at_call 110;refine(Qb0 _ _ _).mono ?_;rintro R w' ⟨H,⟨m,rfl⟩|⟨m,rfl⟩⟩;rotate_left;exact⟨Z,Qac.bad (by rw[QjU F.out.1,show bdec _=U from Bool.eq_iff_iff.2 (Zj.trans B.out.symm),m];rfl) (by decide),by rw[H];exact l.out.trans (T.out.mono l.out.size)⟩;have H:=H.symm;subst H))
 all_goals
  have E9:Hid (s.beC a t=0):=by show _=_;rw[QjU F.out.1,show bdec _=U from Bool.eq_iff_iff.2 (Zj.trans B.out.symm),m];rfl
  have B9:Hid (Below w.heap.size w w3):=l.out.trans (T.out.mono l.out.size);clear m;go_wp2
  exact Xz (v:=.tuple #[]) (by simp[results,results72,go_sem]) Z ⟨Qac.good E9.out Z,B9.out⟩
theorem Qei {b:Array Oper}{o:Oper}{a:Act}{K:Act->World->Prop}{Q:Exit->Act->World->Prop}{E:Prop}(c:o.guard=none) (F:Nat) (x y:Operand) (t u:TypeId)
 (e:o.op=.call { callee:=.value (.func F),args:=#[x,y],argTypes:=#[t,u] }) (l:∀ (args:Array Value) (w:World),(callFunc F args).run P w=.ok (.enter F args) w) (v z:Value) (f:a.eval x=v) (j:a.eval y=z) {R:Ending->World->Prop} (C:Calls P F #[v,z] w R)
 (h:∀ en w',R en w'->QlE K Q o a en w'):if Region.wanted o (yielded b a.tmps)=true then Oper.wp P o a w K Q else E:=by
 have d:Region.wanted o (yielded b a.tmps)=true:=by simp[Region.wanted,c]
 rw[Xs d]
 unfold Oper.wp
 have i:(execOp a.eval o).run P w=.ok (.enter F #[v,z]) w:=by
  have k:a.eval (.func F)=.func (.func F) #[] #[]:=rfl;unfold execOp;simp[e,resolve,invoke,Deferred.ofValue,f,j,l,k,Result.andThen]
 rw[i,Oper.upon_enter]
 refine C.mono fun en w' g=>?_
 have:=h en w' g
 cases en<;>exact this
theorem QbW {s:JSt}:∀ {l m:List Int}{x y:List (TT 6)},s.fields l=some x->s.fields m=some y->s.fields (l++m)=some (x++y)
 | [],m,x,y,h1,h2=>by simp[JSt.fields] at h1;subst h1;exact h2
 | k::r,m,x,y,h1,h2=>by
   simp only[JSt.fields] at h1
   show s.fields (k::(r++m))=_;simp only[JSt.fields]
   cases hk:s.at k with
   | none=>simp[hk] at h1
   | some t =>
     simp only[hk] at h1
     cases hr:s.fields r with
     | none=>simp[hr] at h1
     | some l =>
       simp only[hr,Option.some.injEq] at h1
       subst h1;rw[QbW hr h2]
       rfl
theorem QfV {s:JSt}{y:Int}{t:TT 6}{L:List (TT 6)}(a:l[k]?=some y) (b:s.at y=some t) (h:s.fields (l.take k)=some L):s.fields (l.take (k+1))=some (L++[t]):=by
 rw[XV,a]
 exact QbW h (by simp[JSt.fields,b])
theorem QdZ {s:JSt}:∀ {l:List Int}{y:Int},y∈l->s.at y=none->s.fields l=none
 | k::r,y,a,h=>by
   simp only[JSt.fields]
   rcases List.mem_cons.1 a with rfl | a
   ·rw[h]
   ·rw[QdZ a h]
    cases s.at k<;>rfl
def JSt.tupleC (s:JSt) (a:Int) (args:List Int):Int:=code2 (s.want a 2 true) (match s.at a with
 | none=>0
 | some t=>match s.fields args with
   | none=>1
   | some l=>if 4<TT.height (n:=7) (mkT 3 t.r l) then 19 else Zu s.L.length 1)
def JSt.tupleS (s:JSt) (a:Int) (args:List Int):JSt:={ s with L:=s.L++(match s.at a with
 | none=>[]
 | some t=>match s.fields args with
   | none=>[]
   | some l=>[TT.at (n:=7) 5 (mkT 3 t.r l)]) }
theorem QfK {R:Int}{r:Int}{l:List (TT 6)}(c:0<=r/\r<R) (b:l.length<=8) (h:∀ t∈l,t.check R=0):TT.check (n:=7) R (mkT 3 r l)=if 4<TT.height (n:=7) (mkT 3 r l) then 19 else 0:=by
 show (if 4<TT.height (n:=7) (mkT 3 r l) then 19 else TT.fault (n:=7) R (mkT 3 r l))=_
 have:TT.fault (n:=7) R (mkT 3 r l)=0:=by
  show (if ownC 3 r l.length R≠0 then ownC 3 r l.length R else QE (TT.fault R) l)=0
  have:ownC 3 r l.length R=0:=by
   unfold ownC;rw[Xr (by omega),Xr (by omega),Xr (by omega),Xr (by omega),Xr (by omega)]
  rw[this]
  simp only[ne_eq,not_true_eq_false,if_false]
  exact Q6.2 fun y a=>(Zs.1 (h y a)).2
 rw[this]
structure TuS (w wc:World) (B lo:Nat) (A:Nat->Prop) (r:Int) (v:Value) (L:List (TT 6)):Prop where
 bel:Below w.heap.size w wc
 box:Blk wc B #[.int .i64 3,.int .i64 r,v] 70
 row:TRq wc (fun g=>lo<=g) (fun g=>¬ (A g\/w.heap.size<=g)) v L
 lo1:B<lo
 lo2:lo<=wc.heap.size
 far:w.heap.size<=B
section
variable {w wc w9:World}{B lo:Nat}{A:Nat->Prop}{r:Int}{v:Value}{L:List (TT 6)}
theorem TRq.below {L:List (TT 6)}(h:TRq w O Q v L) (k:Below w.heap.size w w'):TRq w' O Q v L:=h.keep (fun g b _=>k.block g b) (fun _ a=>h.own a) (fun _ h _=>h)
theorem TuS.below (h:TuS w wc B lo A r v L) (k:Below wc.heap.size wc w9):TuS w w9 B lo A r v L :=
 ⟨h.bel.trans (k.mono h.bel.size),h.box.below k,h.row.below k,h.lo1,Zt h.lo2 k.size,h.far⟩
theorem TuS.push {t:TT 6}(h:TuS w wc B lo A r (.slice a L.length c) L) (j:wc.ownsRow 0 70 3 (.slice a L.length c) L.length xs) (ht:(Lay.tt 6).In wc (fun g=>¬ (A g\/w.heap.size<=g)) t [.int .i64 t.kind,.int .i64 t.r,.slice p t.len d])
 (h1:w9.ownsRow 0 70 3 (.slice (some ⟨g,0,none⟩) (L.length+1) cap) (L.length+1) (xs++[.int .i64 t.kind,.int .i64 t.r,.slice p t.len d])) (n:wc.grownBy w9 (Value.slice a L.length c).ownBlock) (y:(Value.slice a L.length c).ownBlock=some g\/g=wc.heap.size) :
 w9.cell? ⟨B,2,none⟩=some (.slice a L.length c)/\w9.frozen? ⟨B,2,none⟩=false/\TuS w (w9.setCell ⟨B,2,none⟩ (.slice (some ⟨g,0,none⟩) (L.length+1) cap)) B lo A r (.slice (some ⟨g,0,none⟩) (L.length+1) cap) (L++[t]):=by
 have U:=n.size;have o:=h.lo1;have N:=h.lo2;have D:=h.box.lt;have aa:=h.bel.size;have b:∀ k,(Value.slice a L.length c).ownBlock=some k->lo<=k:=fun k f=>h.row.own f;have E:Blk w9 B #[.int .i64 3,.int .i64 r,.slice a L.length c] 70:=(n.block B D (fun e=>by have:=b B e.symm;omega)).trans h.box
 have u:lo<=g:=by
  rcases y with y | y
  ·exact b g y
  ·omega
 have G:g≠B:=by omega
 have F:=h.far
 have q:∀ k,k<w.heap.size->(w9.setCell ⟨B,2,none⟩ (.slice (some ⟨g,0,none⟩) (L.length+1) cap)).heap[k]?=wc.heap[k]?:=fun k f=>by
  rw[Xd _ _ _ _ (show k≠B by omega),n.block k (by omega) (fun e=>by have:=b k e.symm;omega)]
 refine⟨Qb E 2 _ Z,Qn E 2,⟨⟨n.os.trans h.bel.os,n.tape.trans h.bel.tape,n.output.trans h.bel.output,by simp;omega,fun k f=>(q k f).trans (h.bel.block k f)⟩,?_,?_,o,by simp;omega,F⟩⟩
 ·have:=Qq E 2 (.slice (some ⟨g,0,none⟩) (L.length+1) cap)
  simpa using this
 ·obtain⟨m,O,q2,q3⟩:=h.row
  have e:m=xs:=by
   obtain⟨e1,X⟩:=O
   obtain⟨f1,S⟩:=j
   rcases X with ⟨v,Q⟩|⟨g1,K,J,v,Q,V,e6,e7,e8,e9⟩
   ·have:L.length=0:=Q
    rw[Xf.1 (show m.length=0 by rw[e1,this]),Xf.1 (show xs.length=0 by rw[f1,this])]
   ·rcases S with ⟨C,W⟩|⟨g2,R,I,C,W,M,f6,f7,f8,T⟩
    ·rw[C] at v;cases v
    ·rw[v] at C
     cases C
     rw[V] at M
     cases M
     rw[<-e9,<-T]
  subst e;refine⟨m++[.int .i64 t.kind,.int .i64 t.r,.slice p t.len d],?_,fun k f=>?_,?_⟩
  ·rw[List.length_append]
   exact Qdk h1 (Xd _ _ _ _ G)
  ·simp[Value.ownBlock] at f
   subst f;exact u
  ·have l:∀ {x:TT 6} {z:List Value},(Lay.tt 6).In wc (fun g=>¬ (A g\/w.heap.size<=g)) x z->(Lay.tt 6).In (w9.setCell ⟨B,2,none⟩ (.slice (some ⟨g,0,none⟩) (L.length+1) cap)) (fun g=>¬ (A g\/w.heap.size<=g)) x z:=fun j=>(Lay.tt 6).keep (fun k f _=>q k (Nat.lt_of_not_le (fun e=>f (.inr e)))) (fun _ h _=>h) j;refine QbL (s:=3) (P:=fun x z=>(Lay.tt 6).In _ _ x z) O.1 (fun i x j=>l (q3 i x j)) (fun i x j=>?_);have hi:i<1:=by simpa using (Zi j).1
   have H:i=0:=by omega
   subst H;simp at j
   subst j;exact l ht
end
theorem Qd3 (h:w.ownsRow 0 e s v n xs) (j:Below w.heap.size w w'):w'.ownsRow 0 e s v n xs:=by
 obtain⟨f,i⟩:=h
 refine⟨f,?_⟩
 rcases i with k | ⟨g,a,b,d,l,c,r⟩
 ·exact .inl k
 ·exact .inr ⟨g,a,b,d,l,(j.block g (XC c)).trans c,r⟩
theorem TuS.lin {r:Int}{L:List (TT 6)}(h:TuS w wc B lo A r (.slice a N c) L) (t:∀ k,A k->k<w.heap.size):LIn wc (fun g=>¬ A g) L a/\N=L.length/\∀ x∈L,x.ok:=by
 obtain⟨j,f,e,u,b,-⟩:=h.row.form
 simp only[Value.slice.injEq] at e
 obtain⟨rfl,rfl,rfl⟩:=e
 have v:=h.lo1;have y:=h.far;refine⟨fun i x d=>?_,Z,fun x d=>?_⟩
 ·obtain⟨g,j,f,e,l,m,n,p,o⟩:=b i x d
  subst e;have z:lo<=g:=h.row.own Z;refine⟨g,0,j,f,Z,fun e=>by have:=t g e;omega,?_,?_,?_,p.mono (fun k s _ e=>s (.inl e))⟩
  ·rw[XK];exact l
  ·rw[XK];exact m
  ·rw[XK];exact n
 ·obtain⟨i,q,e⟩:=List.mem_iff_getElem.1 d
  obtain⟨g,j,f,e,l,m,n,p,o⟩:=b i x (by rw[Zg q,e])
  exact o
theorem QiF {r:Int}{l:List (TT 6)}(h:∀ x∈l,x.count<=4681) (d:l.length<=8):TT.count (n:=7) (mkT 3 r l)<=100000:=by
 show 1+(l.map TT.count).sum<=100000;have a:=sum_le_mul (l.map TT.count) 4681 (fun x b=>by obtain⟨y,c,rfl⟩:=List.mem_map.1 b;exact h y c);rw[XN] at a
 have e:l.length*4681<=8*4681:=Xp _ d;omega
theorem Qio (e:∀ k,A k->k<w.heap.size){r:Int}{L:List (TT 6)}(i:0<=r/\r<=1000) (h:¬ 4<TT.height (n:=7) (mkT 3 r L)) (f:LIn w (fun g=>¬ A g) L p) (a:∀ x∈L,x.ok) :
 (Qi 6).In (w.alloc (.cells #[.int .i64 3,.int .i64 r,.slice p L.length c] 70)) (fun g=>¬ A g) [TT.at (n:=7) 5 (mkT 3 r L)] [.slice (some ⟨w.heap.size,0,none⟩) 1 d]:=by
 have b:TT.height (n:=7) (mkT 3 r L)<=5:=by omega
 have:=Qep (t:=TT.at (n:=7) 5 (mkT 3 r L)) (p:=p) (c:=c) (d:=d) e (TIn.at 5 b (LIn.tree f)) (TT.at_ok 5 ⟨⟨by show -9223372036854775808<=r;omega,by show r<=9223372036854775807;omega⟩,a⟩)
 rw[TT.at_kind,TT.at_r,TT.at_len 5 _ b] at this
 exact this
theorem enters_value:Qc9 112:=fun _ _=>by kernel_rfl
theorem QgY {s:JSt}(a:Int){args:List Int}{pa:Option Addr}{ca:Nat}(hN:args.length=N) (ax:N<=8) (hl:intsL.In w Q args [.slice pa N ca]) (hJ:JOk s) (hA:∀ k,A k->k<w.heap.size) (h:SAt w b O A s) :
 Calls prog 69 #[.pointer (some ⟨b,0,none⟩),.int .i64 a,.slice pa N ca] w fun e w'=>Zc w b O A s (s.tupleS a args) (s.tupleC a args) e w':=by
 have az:∀ (k r:Int) (p:Option Addr) (l c:Nat) (w:World),(Instr.field 70 (.agg #[.int .i64 k,.int .i64 r,.slice p l c]) 1).run prog w=.ok (.int .i64 r) w:=fun _ _ _ _ _ _=>by kernel_rfl
 obtain⟨i0,hi,an,ap,ao⟩:=pInfoT
 have H:=Qa h;have HA:=Qa hA;have HO:Hid (∀ k,O k->k<w.heap.size):=fun k W=>hA k (h.sub k W);have HL:=Qa hl;have HN:=Qa hN;have HJ:=Qa hJ;have hL:=hJ.vals;clear h hA hl hN hJ;go_enter func69,ntmps69
 go_wp2_with fail
 refine(Qar a 2 hL HO.out H.out).mono ?_
 rintro e' w2 ⟨hO,b2⟩;have X:=Qa b2;clear b2;rcases hO with ⟨f,x,rfl,t,p,c,ha,rfl,ht,K⟩|⟨f,rfl⟩
 rotate_left
 ·exact⟨Z,Zc.bad (by unfold JSt.tupleC;rw[Qx f]) f (Yh H.out X.out)⟩
 have hr:0<=t.r/\t.r<s.H.length:=by
  obtain⟨t',e1,e2,e3⟩:=Qay f
  rw[ha] at e1
  cases e1
  exact Z0 (e3 Z)
 have HR:=Qa hr;have E:Hid (s.tupleC a args=match s.fields args with | none=>1 | some l=>if 4<TT.height (n:=7) (mkT 3 t.r l) then 19 else Zu s.L.length 1):=by show _=_;unfold JSt.tupleC;rw[QH f,ha]
 have ES:Hid (∀ l,s.fields args=some l->s.tupleS a args={ s with L:=s.L++[TT.at (n:=7) 5 (mkT 3 t.r l)] }):=fun l hl=>by unfold JSt.tupleS;rw[ha,hl]
 clear hr f ha ht K;simp only[Tv]
 go_upto_region 1 with fail
 have T0:Hid (TuS w (w2.alloc (.cells #[.int .i64 3,.int .i64 t.r,.slice none 0 0] 70)) w2.heap.size (w2.heap.size+1) A t.r (.slice none 0 0) []) :=
  ⟨X.out.trans ((QU _ _).mono X.out.size),Blk.new _ _ _,⟨[],⟨Z,.inl ⟨Z,Z⟩⟩,fun g hg=>by simp[Value.ownBlock] at hg,fun i x hx=>by simp at hx⟩,Nat.lt_succ_self _,by simp,X.out.size⟩
 generalize w2.alloc (.cells #[.int .i64 3,.int .i64 t.r,.slice none 0 0] 70)=w3 at T0 |-;generalize w2.heap.size=B at T0 |-;generalize t.r=r at T0 HR E ES |-;clear X;go_wp2
 go_loopw [16] (fun i wr=>∃ (k:Nat) (v:Value) (L:List (TT 6)),k<=N/\i=.int .i64 k/\TuS w wr B (B+1) A r v L/\s.fields (args.take k)=some L) (fun i _=>N - (intOf i).toNat)
 case atStart=>exact⟨0,_,_,Xb _,Z,T0.out,Z⟩
 case round =>
  clear T0;obtain⟨k,v,L,W,rfl,hT,hf⟩:=hrel
  have HF:=Qa hf
  have ab:Hid (L.length=k):=by
   show _=_
   have:=(Qax hf).1
   rw[List.length_take,HN.out] at this
   omega
  have ae:L.length<=8:=by have:=ab.out;omega
  obtain⟨aL,V,rfl,aw,-,xs,ai⟩:=hT.row.form
  have G:=Qa hT;have aq:=Qa ai;clear hf hT ai;by_cases ad:k<N
  ·have ah:(k:Int)<N:=by omega
   have R:k<args.length:=by rw[HN.out];exact ad
   obtain⟨g,o,rfl,-,hg,T⟩:=ZK HL.out R
   obtain⟨y,hy⟩:∃ y,args[k]?=some y:=⟨_,Zg R⟩
   rw[show args.getD k 0=y by rw[List.getD_eq_getElem?_getD,hy];rfl] at T
   have HX:=Qa hy;have y0:=Qp T G.out.bel;have z2:=Qb G.out.box 2 _ Z;clear T R hy;go_upto_region 4 with fail
   have BD:Hid (Below w.heap.size w wr.drew):=Qcl G.out.bel
   go_region_law (first
    | (refine Qei Z 112 (.tmp 22) (.tmp 23) 28 3 Z enters_value (.pointer (some ⟨b,0,none⟩)) (.int .i64 y) (by simp[Act.eval,Act.put]) (by simp[Act.eval,Act.put]) (Qck y hL (H.out.more HO.out BD.out)) ?_
       rintro e' I ⟨hO,S⟩;rcases hO with ⟨f,x,rfl,u,q,d,hu,rfl,ak,K⟩|⟨f,rfl⟩
       rotate_left
       ·have af:s.at y=none:=by
         unfold JSt.has at f
         cases e:s.at y with
         | none=>rfl
         | some t=>rw[e] at f;exact absurd Z f
        exact⟨Z,Zc.bad (d:=s.has y) (by rw[E.out,QdZ (Zm HX.out) af];unfold JSt.has;rw[af]) f (Yh H.out (BD.out.trans (S.mono BD.out.size)))⟩
       have T4:=Qa (G.out.below (ZV S));have HU:=Qa hu;have I4:Hid ((Lay.tt 6).In I (fun g=>¬ (A g\/w.heap.size<=g)) u [.int .i64 u.kind,.int .i64 u.r,.slice q u.len d]):=⟨q,d,Z,ak,K⟩;have z4:=Qb T4.out.box 2 _ Z;have al:=T4.out.box.lt;have C:=Qa (Qd3 aq.out (ZV S));clear hu ak K S f;dsimp only [QlE])
    | (refine step_append_lies _ Z (.tmp 21) (.tmp 25) 33 Z 0 70 i0 (.agg #[.int .i64 0,.int .i64 0,.slice none 0 0]) 3 40 pUnderT hi an ap ao Z (by decide) (.slice aL L.length V) L.length xs (by simp[Act.eval,Act.put]) (C.out.alloc _) ⟨I.heap.size,0,none⟩ 1 1 [.int .i64 u.kind,.int .i64 u.r,.slice q u.len d] (by simp[Act.eval,Act.put]) Z (QeJ _ _ _) (Qfi _ _ _ _ _) (by decide) (by unfold maxLen;omega) (by omega) (Xb _) (I.heap.size+1) (by simp) ?_
       intro g2 aj w9 h1 h2 h3 D;have b5:=QU I (.cells #[.int .i64 u.kind,.int .i64 u.r,.slice q u.len d] 70);obtain⟨z9,f9,t9⟩:=(T4.out.below b5).push (Qd3 C.out b5) (Ya I4.out b5) h1 h2 (by simpa using h3)
       have T9:=Qa t9;clear h1 h2 h3 D b5 t9))
   all_goals
    have FF:=Qa (QfV HX.out HU.out HF.out);clear T4 HU I4 z4 C z9 f9 al;generalize w9.setCell ⟨B,2,none⟩ (.slice (some ⟨g2,0,none⟩) (L.length+1) aj)=ay at T9 |-;go_wp2
    go_roundw
    case rel=>exact⟨k+1,_,L++[u],ad,by go_num,T9.out,FF.out⟩
    case measure=>simp[intOf];omega
  ·have au:k=N:=by omega
   have ah:¬ (k:Int)<N:=by omega
   have J:s.fields args=some L:=by
    have:=HF.out
    rwa [XO (by rw[HN.out];omega)] at this
   obtain⟨z,-,M⟩:=G.out.lin HA.out
   have U:∀ x∈L,x.check s.H.length=0:=fun x hx=>HJ.out.types x ((Qax J).2 x hx);have EC:Hid (TT.check (n:=7) (s.H.length:Int) (mkT 3 r L)=if 4<TT.height (n:=7) (mkT 3 r L) then 19 else 0):=QfK HR.out ae U;have E2:Hid (s.tupleC a args=if 4<TT.height (n:=7) (mkT 3 r L) then 19 else Zu s.L.length 1):=by show _=_;rw[E.out,J]
   have ar:=Qa (ES.out L J);have ac:=Qa (Xh z M);have am:Hid (TT.count (n:=7) (mkT 3 r L)<=100000):=QiF (fun x hx=>Zz (U x hx)) ae;have H9:=Qa (H.out.below G.out.bel);obtain⟨pm,cm,hh,a1,c1,a2,c2,a3,c3,a0,av,RR⟩:=H9.out.read
   obtain⟨-,q1,-⟩:=RR.cells
   have CL:Hid (∀ m,Calls prog 11 #[.pointer (some ⟨hh,0,none⟩)] (wr.drewN m) fun e w'=>e=.returned (.int .i64 (s.H.length:Int))/\w'=wr.drewN m):=fun m=>QjD (show Qz (wr.drewN m) hh s.H from RR.held);have CC:Hid (Calls prog 113 #[.agg #[.int .i64 3,.int .i64 r,.slice aL L.length V],.int .i64 (s.H.length:Int)] wr.drew fun e w'=>e=.returned (.int .i64 (TT.check (n:=7) (s.H.length:Int) (mkT 3 r L)))/\Below wr.drew.heap.size wr.drew w'):=check_any 7 (mkT 3 r L) aL V _ wr.drew (TIn.all (LIn.tree z).drew) am.out;obtain⟨z0,z1,z2⟩:=QjR G.out.box
   clear J z M U RR HF ab;generalize TT.check (n:=7) (s.H.length:Int) (mkT 3 r L)=ck at EC CC;generalize (s.H.length:Int)=nH at CL CC;go_upto_region 6 with fail
   go_region_with (first
    | (go_at_call 11;refine(CL.out _).mono ?_;rintro e w' ⟨rfl,P⟩;have P:=P.symm;subst P)
    | (go_at_call 113;refine(CC.out).mono ?_;rintro e I ⟨rfl,S⟩;have B4:=Qa (ZV S);clear S)
    | (go_at_call 110;refine(Qb0 _ _ _).mono ?_;rintro e' w' ⟨P,⟨hq,rfl⟩|⟨hq,rfl⟩⟩;rotate_left;exact⟨Z,Zc.bad (d:=19) (by rw[E2.out];have j:ck≠0:=(by simpa using hq);rw[EC.out] at j;by_cases D:4<TT.height (n:=7) (mkT 3 r L);rw[Xs D];rw[Xr D] at j;exact absurd Z j) (by decide) (by rw[P];exact Yh H.out (G.out.bel.trans (B4.out.mono G.out.bel.size)))⟩;have P:=P.symm;subst P))
   all_goals
    have j:ck=0:=by simpa using hq
    have D:¬ 4<TT.height (n:=7) (mkT 3 r L):=fun D=>by
     have:=EC.out
     rw[Xs D,j] at this
     cases this
    have E3:Hid (s.tupleC a args=Zu s.L.length 1):=by show _=_;rw[E2.out,Xr D]
    have T5:=Qa (G.out.below B4.out);have ag:Hid (∀ k,A k->k<I.heap.size):=fun k W=>Zl (HA.out k W) T5.out.bel.size
    have CM:Hid (∀ d,Calls prog 70 #[.pointer (some ⟨b,0,none⟩),.slice (some ⟨I.heap.size,0,none⟩) 1 d] (I.alloc (.cells #[.int .i64 3,.int .i64 r,.slice aL L.length V] 70)) fun e w'=>Zc w b O A s (s.tupleS a args) (s.tupleC a args) e w'):=fun d=>by
     have b1:=QU I (.cells #[.int .i64 3,.int .i64 r,.slice aL L.length V] 70);have aa:=T5.out.bel.trans (b1.mono T5.out.bel.size);rw[ar.out,E3.out]
     exact(QaJ (l:=[TT.at (n:=7) 5 (mkT 3 r L)]) Z (by simp) (Qio (c:=V) (d:=d) ag.out (by have:=HR.out;have:=HJ.out.regs;omega) D (ac.out.1.below B4.out) ac.out.2) hL (fun k W=>Zl (ag.out k W) b1.size) (H.out.below aa)).mono (fun e w' hd=>hd.after aa)
    obtain⟨y0,y1,y2⟩:=QjR T5.out.box
    clear hq j D CC CL E3;go_wp2_with fail
    refine(CM.out _).mono ?_
    rintro e' w5 hd;have F:=Qa hd;rcases hd with ⟨h1,rfl,h3⟩|⟨h1,rfl,h3⟩
    rotate_left
    ·exact⟨Z,F.out⟩
    clear h1 h3 CM;go_wp2
    exact Xz (v:=.tuple #[]) (by simp[results,results69,go_sem]) Z F.out
section
open Go.Deep
def Wt {H:Type}(P:Program) (t:TypeId) (d:DataW H):Prop:=∀ n∈d.weights P t,n<=reachBytes
def QN (P:Program) (t:TypeId){α:Type}(A:Lay α) (n:Nat) (Bd:α->Prop):Prop :=
 P.cellsOf t=A.size/\∀ {H:Type} {enc:TypeId × Value->H} {w:World} {base:Nat} {spare:Nat->Bool} {held:Bool} {fuel:Nat} {cs:List Value} {x:DataW H × List MemPlace},
  fuel<=n->DataW.trod enc P w base spare held fuel t cs=some x->Wt P t x.1->∃ d,A.In w (fun _=>True) d cs/\Bd d
theorem QN.int (n:Nat) (h:P.underlying t=some (.int .i64)) (a:P.cellsOf t=1):QN P t Lay.int n (fun _=>True) :=
 ⟨a,fun _ c _=>by
  obtain⟨k,e,_,b⟩:=DataW.trod_int h c
  exact⟨k,⟨e,Go.bounds_i64 b⟩,Y⟩⟩
theorem QbC {H:Type}{P:Program}{e:TypeId}:∀ {l:List (DataW H)}{d:DataW H},d∈l->∀ n∈d.weights P e,n∈DataW.weightsAll P e l
 | d0::l,d,h,n,hn=>by
   simp only[DataW.weightsAll,List.mem_append]
   rcases List.mem_cons.1 h with rfl | h
   ·exact .inl hn
   ·exact .inr (QbC h n hn)
theorem QN.list {α:Type}{A:Lay α}{Bd:α->Prop}(h:P.underlying t=some (.slice e)) (hc:P.cellsOf t=1) (hA:QN P e A n Bd) (G:0<A.size) (J:0<P.bytesOf e):QN P t A.list n (fun l=>l.length<1152921504606846976) :=
 ⟨hc,fun {H ae w v S ab aa cs x} hf h' hw=>by
  rcases DataW.trod_slice h h' with ⟨N,_⟩|⟨a,p,L,c,g,q,rfl,N,X,hb,hl,hm,W,O,_,_⟩
  ·exact⟨[],by rw[N];exact Yg A _ _ _ _,by simp⟩
  ·have ac:(c.length+g.length)*P.bytesOf e<=reachBytes:=hw _ (by rw[X];simp[DataW.weights,h])
   have af:p<1152921504606846976:=by
    have h1:c.length*1<=(c.length+g.length)*P.bytesOf e:=Nat.mul_le_mul (by omega) J;have h2:reachBytes<1152921504606846976:=by decide
    omega
   have E:∀ i,i<p->∃ y,c[i]?=some y/\Wt P e y.1:=fun i D=>by
    refine⟨c[i]'(by omega),Zg (by omega),fun k hk=>hw k ?_⟩
    rw[X]
    simp only[DataW.weights,h,List.mem_cons,List.mem_append]
    exact .inr (.inl (QbC (List.mem_map_of_mem (List.getElem_mem (by omega))) k hk))
   obtain⟨l,Q,V⟩:=Qgh (P:=fun i (d:α)=>∃ f,w.cells? v (a.add (i*A.size)) A.size=some f/\A.In w (fun _=>True) d f) p (fun i D=>by
    have K:=O i D;obtain⟨y,hy,R⟩:=E i D
    rw[hy,hA.1] at K
    rw[Option.bind_eq_some_iff] at K
    obtain⟨f,o,T⟩:=K
    obtain⟨d,F,_⟩:=hA.2 (by omega) T R
    exact⟨d,f,o,F⟩)
   refine⟨l,⟨some a,L,by rw[N,Q],fun i x U=>?_⟩,by omega⟩
   obtain⟨f,o,F⟩:=V i x U
   obtain⟨_,ad,s⟩:=World.cells?_some o
   obtain⟨b,C,u⟩:=a
   have m:u=none:=by
    have D:0<l.length:=Nat.lt_of_le_of_lt (Xb i) (Zi U).1;obtain⟨M,z,I⟩:=V 0 l[0] (Zg D)
    have r:0<M.length:=by rw[A.len I];exact G
    have:=(World.cells?_some z).2.2 0 G
    rw[Zg r] at this
    simpa[Addr.add] using World.cell?_spot this
   subst m
   have B:∀ j,j<A.size->w.cell? ⟨b,C+i*A.size+j,none⟩=f[j]?:=fun j hj=>by
    have:=s j hj
    rw[Go.WideShapes.add_plain,Go.WideShapes.add_plain] at this
    exact this
   refine⟨b,C,f,Z,Y,?_,B,F⟩
   have r:0<f.length:=by rw[A.len F];exact G
   have:=B 0 G
   rw[Zg r] at this
   exact Xi w _ this⟩
def QO (P:Program) (fs:Array Field):Nat->Nat->{α:Type}->Lay α->Nat->(α->Prop)->Prop:=fun i o α A n Bd =>
 ∀ (H:Type) (enc:TypeId × Value->H) (w:World) (base:Nat) (spare:Nat->Bool) (held:Bool) (fuel:Nat) (cs:List Value) (xs:List (DataW H × List MemPlace)),
  fuel<=n->cs.length=o+A.size->xs.length=fs.size->(∀ (j:Nat) (f:Field),fs[j]?=some f->DataW.trod enc P w base spare held fuel f.type ((cs.drop f.offset).take (P.cellsOf f.type))=xs[j]?) ->
  (∀ (j:Nat) (f:Field) x,fs[j]?=some f->xs[j]?=some x->Wt P f.type x.1)->∃ d,A.In w (fun _=>True) d (cs.drop o)/\Bd d
theorem QO.last {b:Array Field}{f:Field}{α:Type}{A:Lay α}{j:α->Prop}(a:b[i]?=some f) (u:f.offset=o) (l:QN P f.type A n j):QO P b i o A n j:=by
 intro H p w e c m k B v q y x h t;have g:=h i f a;have z:i<b.size:=(Array.getElem?_eq_some_iff.1 a).1;rw[Zg (by omega),u,l.1] at g
 obtain⟨d,r,s⟩:=l.2 q g (t i f _ a (Zg (by omega)))
 refine⟨d,?_,s⟩
 rwa [XO (by simp;omega)] at r
theorem QO.cons {a:Array Field}{f:Field}{α β:Type}{A:Lay α}{B:Lay β}{m:α->Prop}{p:β->Prop}(b:a[i]?=some f) (E:f.offset=o) (s:QN P f.type A n m) (v:QO P a (i+1) (o+A.size) B n p):QO P a i o (A.pair B) n (fun x=>m x.1/\p x.2):=by
 intro H z w k j t q K F l I u h r;have g:=h i f b;have J:i<a.size:=(Array.getElem?_eq_some_iff.1 b).1;rw[Zg (by omega),E,s.1] at g
 obtain⟨d,C,D⟩:=s.2 l g (r i f _ b (Zg (by omega)))
 have G:(A.pair B).size=A.size+B.size:=rfl;obtain⟨e,y,c⟩:=v _ _ _ _ _ _ _ _ _ l (by omega) u h r
 refine⟨(d,e),⟨_,_,?_,C,y⟩,D,c⟩
 rw[<-List.drop_drop,List.take_append_drop]
theorem QN.struct {i:Array Field}{α:Type}{A:Lay α}{l:α->Prop}(h:P.underlying t=some (.struct i)) (o:P.cellsOf t=A.size) (u:QO P i 0 0 A n l):QN P t A n l :=
 ⟨o,fun {H v w g e q p J x} I B E=>by
  obtain⟨G,m,rfl,D,b,c,a⟩:=DataW.trod_struct h B
  obtain⟨d,z,C⟩:=u _ _ _ _ _ _ _ _ _ (by omega) (by rw[b,o];omega) c a (fun j f y F r k s=>E k (by
   rw[D]
   simp only[DataW.weights,h]
   exact DataW.weights_mem_each (j:=j) (t:=f.type) (d:=y.1) (by simp[F]) (by simp[r]) k s))
  exact⟨d,by simpa using z,C⟩⟩
theorem QN.via {α β:Type}{A:Lay α}{f:β->α}{a:α->Prop}(h:QN P t A n a) (g:α->β) (b:∀ d,f (g d)=d):QN P t (A.via f) n (fun x=>a (f x)) :=
 ⟨h.1,fun j e c=>by
  obtain⟨d,k,i⟩:=h.2 j e c
  exact⟨g d,by show A.In _ _ (f (g d)) _;rw[b];exact k,by show a (f (g d));rw[b];exact i⟩⟩
theorem own:ownKnob prog.godebug=none:=by kernel_rfl
theorem laidOut:laidOutB prog=true:=by kernel_rfl
theorem fieldsT:∃ f0 f1 f2:Field,prog.underlying 70=some (.struct #[f0,f1,f2]) /\
 (f0.offset=0/\prog.cellsOf f0.type=1/\prog.underlying f0.type=some (.int .i64))/\(f1.offset=1/\prog.cellsOf f1.type=1/\prog.underlying f1.type=some (.int .i64)) /\
 (f2.offset=2/\prog.cellsOf f2.type=1/\f2.type=33) :=
 ⟨_,_,_,underlying70,⟨Z,by kernel_rfl,by kernel_rfl⟩,⟨Z,by kernel_rfl,by kernel_rfl⟩,⟨Z,by kernel_rfl,Z⟩⟩
theorem QkH (n:Nat):QN prog 70 (Lay.tt n) n (fun _=>True) :=
 ⟨by kernel_rfl,fun {H m w f d g b v x} o k r=>by
  obtain⟨u,y,s,e,i,j,l⟩:=fieldsT
  obtain⟨t,a,c,h,q,p⟩:=QjQ (ti:=0) underlying33 e (by kernel_rfl) i j l n b o k
  exact⟨t,⟨a,c,h,q,p⟩,Y⟩⟩
theorem Qbl (n:Nat):QN prog 3 Lay.int n (fun _=>True):=QN.int n underlying3 (by kernel_rfl)
theorem Qj8 (n:Nat):QN prog 2 Lay.int n (fun _=>True):=QN.int n underlying2 (by kernel_rfl)
theorem QfU (n:Nat):QN prog 33 (Qi n) n (fun l=>l.length<1152921504606846976):=QN.list underlying33 (by kernel_rfl) (QkH n) (by show 0<3;decide) (by rw[show prog.bytesOf 70=40 from by kernel_rfl];decide)
end
def Lay.listC {α:Type}(A:Lay α):Lay (List α) where
 size:=1
 In:=fun w O l cs=>(∃ a c,cs=[.slice a l.length c]/\l.length<=c)/\A.list.In w O l cs
 len:=fun h=>A.list.len h.2
 keep:=fun hb hl h=>⟨h.1,A.list.keep hb hl h.2⟩
theorem QaY.listC {α:Type}{A:Lay α}(h:P.underlying t=some (.slice e)) (k:P.cellsOf t=1) (B:QaY P e A n) (z:0<A.size):QaY P t A.listC (n+1) :=
 ⟨k,fun {H s w g f p o D x} r m=>by
  obtain⟨l,j⟩:=(QaY.list h k B z).2 r m
  refine⟨l,?_,j⟩
  obtain⟨a,c,e,_⟩:=j
  refine⟨a,c,e,?_⟩
  rcases DataW.trod_slice h m with ⟨b,_⟩|⟨C,v,y,d,i,q,_,b,_,_,u,_⟩
  ·rw[e] at b
   simp at b
   simp[b.2.1]
  ·rw[e] at b
   simp at b
   omega⟩
def Lay.Sub {α:Type}(A B:Lay α):Prop:=A.size=B.size/\∀ {w:World}{O:Nat->Prop}{x:α}{cs:List Value},A.In w O x cs->B.In w O x cs
theorem Lay.Sub.refl {α:Type}(A:Lay α):Lay.Sub A A:=⟨Z,id⟩
theorem Lay.Sub.listC {α:Type}(A:Lay α):Lay.Sub A.listC A.list:=⟨Z,fun h=>h.2⟩
theorem Lay.Sub.pair {α β:Type}{A b:Lay α}{B a:Lay β}(h:Lay.Sub A b) (k:Lay.Sub B a):Lay.Sub (A.pair B) (b.pair a) :=
 ⟨by show A.size+B.size=b.size+a.size;rw[h.1,k.1],fun ⟨g,f,e,c,d⟩=>⟨g,f,e,h.2 c,k.2 d⟩⟩
theorem Lay.Sub.list {α:Type}{A b:Lay α}(h:Lay.Sub A b):Lay.Sub A.list b.list :=
 ⟨Z,fun ⟨a,c,e,k⟩=>⟨a,c,e,fun i x m=>by
  obtain⟨g,o,p,n,j,d,f,l⟩:=k i x m
  exact⟨g,o,p,n,j,d,by rw[<-h.1];exact f,h.2 l⟩⟩⟩
structure QcN (w:World) (lo:Nat) (v:Value){n:Nat}(l:List (TT n)) (xs:List Value):Prop where
 own:w.ownsRow lo 70 3 v l.length xs
 kids:∀ (i:Nat) (x:TT n),l[i]?=some x->∃ a c,xs[i*3]?=some (.int .i64 x.kind)/\xs[i*3+1]?=some (.int .i64 x.r)/\xs[i*3+2]?=some (.slice a x.len c)/\TIn w (But lo v) x a
theorem QcN.nil (w:World) (a:Nat):QcN w a (.slice none 0 0) ([]:List (TT n)) [] :=
 ⟨⟨Z,Or.inl ⟨Z,Z⟩⟩,fun i x h=>by simp at h⟩
theorem QcN.lin {l:List (TT n)}(h:QcN w lo v l xs):∃ a c,v=.slice a l.length c/\LIn w (ZJ lo) l a:=by
 obtain⟨⟨H,m⟩,y⟩:=h
 rcases m with ⟨rfl,t⟩|⟨g,p,o,rfl,q,z,E,F,D,C⟩
 ·have:l=[]:=Xf.1 t
  subst this;exact⟨none,0,Z,LIn.nil⟩
 ·refine⟨_,_,Z,fun i x e=>?_⟩
  obtain⟨a,c,B,r,s,A⟩:=y i x e
  have G:i<l.length:=(Zi e).1
  have b:∀ j u,xs[j]?=some u->w.cell? ⟨g,j,none⟩=some u:=fun j u d=>by
   rw[<-C,XR] at d
   split at d
   ·exact Qb z j u (by rw[<-Array.getElem?_toList];exact d)
   ·cases d
  refine⟨g,0,a,c,Z,q,?_,?_,?_,A.mono (fun k f _=>f.1)⟩
  ·rw[XK];exact b _ _ B
  ·rw[XK];exact b _ _ r
  ·rw[XK];exact b _ _ s
theorem QcN.below {l:List (TT n)}(h:QcN w lo v l xs) (b:Below w.heap.size w w'):QcN w' lo v l xs:=by
 obtain⟨⟨o,s⟩,k⟩:=h
 refine⟨⟨o,?_⟩,fun i x p=>?_⟩
 ·rcases s with z | ⟨g,f,d,e,t,j,r⟩
  ·exact Or.inl z
  ·exact Or.inr ⟨g,f,d,e,t,(b.block g (XC j)).trans j,r⟩
 ·obtain⟨a,c,u,m,y,q⟩:=k i x p
  exact⟨a,c,u,m,y,q.below b⟩
theorem QcN.lo_le {l:List (TT n)}(h:QcN w lo v l xs)(a:v.ownBlock=some g):lo<=g/\g<w.heap.size:=by
 obtain⟨⟨j,c⟩,m⟩:=h
 rcases c with ⟨rfl,k⟩|⟨i,e,f,rfl,b,d,r⟩
 ·simp[Value.ownBlock] at a
 ·simp[Value.ownBlock] at a;subst a;exact⟨b,XC d⟩
theorem QcN.push {l:List (TT n)}(h:QcN w lo v l xs){x:TT n}(B:TIn w (But lo v) x a)
  (H:w.grownBy w' v.ownBlock) (p:v.ownBlock=some g\/g=w.heap.size)
 (u:w'.ownsRow lo 70 3 (.slice (some ⟨g,0,none⟩) (l.length+1) cap) (l.length+1) (xs++[.int .i64 x.kind,.int .i64 x.r,.slice a x.len c])) :
 QcN w' lo (.slice (some ⟨g,0,none⟩) (l.length+1) cap) (l++[x]) (xs++[.int .i64 x.kind,.int .i64 x.r,.slice a x.len c]):=by
 obtain⟨C,G⟩:=h
 have m:=C.1
 have j:∀ {y:TT n} {b:Option Addr},TIn w (But lo v) y b->TIn w' (But lo (.slice (some ⟨g,0,none⟩) (l.length+1) cap)) y b:=fun f=>by
  refine f.keep (fun k o t=>?_) (fun k o t=>⟨o.1,?_⟩)
  ·exact H.block k t (fun e=>o.2 e.symm)
  ·simp only[Value.ownBlock,ne_eq,Option.some.injEq]
   intro e;subst e;rcases p with s | s
   ·exact o.2 s
   ·omega
 refine⟨by rw[List.length_append];exact u,fun i y f=>?_⟩
 rw[List.getElem?_append] at f
 split at f
 ·rename_i z
  obtain⟨b,d,E,A,F,D⟩:=G i y f
  refine⟨b,d,?_,?_,?_,j D⟩
  ·rw[XP (by omega)];exact E
  ·rw[XP (by omega)];exact A
  ·rw[XP (by omega)];exact F
 ·rename_i z
  have q:i=l.length:=by
   have:=(Zi f).1
   simp at this
   omega
  subst q;simp at f
  subst f;refine⟨a,c,?_,?_,?_,j B⟩
  ·rw[XQ (by omega),m,Nat.sub_self];rfl
  ·rw[XQ (by omega),m,Nat.add_sub_cancel_left];rfl
  ·rw[XQ (by omega),m,Nat.add_sub_cancel_left];rfl
theorem underTs:prog.underlying 33=some (.slice 70):=by kernel_rfl
theorem infoT:(prog.info? 70).map (fun i=>(i.zero,i.size,i.bytes))=some (some (.agg #[.int .i64 0,.int .i64 0,.slice none 0 0]),3,40):=by kernel_rfl
theorem infoT_parts:∃ i,prog.info? 70=some i/\i.zero=some (.agg #[.int .i64 0,.int .i64 0,.slice none 0 0])/\i.size=3/\i.bytes=40:=by
 have h:=infoT
 cases hi:prog.info? 70 with
 | none=>rw[hi] at h;cases h
 | some i=>rw[hi] at h;simp at h;exact⟨i,Z,h.1,h.2.1,h.2.2⟩
theorem Qk8 (w:World) (p q r:Value):∀ j u,[p,q,r][j]?=some u->(w.alloc (.cells #[p,q,r] 70)).cell? ((⟨w.heap.size,0,none⟩:Addr).add j)=some u:=by
 intro j u h;match j,h with
 | 0,h=>simp at h;subst h;exact Qb (Qm w _ _) 0 _ Z
 | 1,h=>simp at h;subst h;exact Qb (Qm w _ _) 1 _ Z
 | 2,h=>simp at h;subst h;exact Qb (Qm w _ _) 2 _ Z
 | j+3,h=>simp at h
theorem Qlr (k r:Int) (a:Option Addr) (l c:Nat):∀ u∈[Value.int .i64 k,Value.int .i64 r,Value.slice a l c],u.oneCell'=true:=by
 intro u h;simp at h
 rcases h with rfl | rfl | rfl<;>rfl
def Qlc {n:Nat}(w w':World) (t:TT n) (e:Ending):Prop:=∃ a' c',e=.returned (Tv t a' c')/\TIn w' (ZJ w.heap.size) t a'/\Below w.heap.size w w'
def Qle {n:Nat}(w w':World) (l:List (TT n)) (e:Ending):Prop:=∃ a' c',e=.returned (.slice a' l.length c')/\LIn w' (ZJ w.heap.size) l a'/\Below w.heap.size w w'
def Qjb (n:Nat):Prop:=∀ (t:TT n) (a:Option Addr) (c:Nat) (w:World),TIn w All t a->t.count<=100000 ->
 Calls prog 76 #[Tv t a c] w fun e w'=>Qlc w w' t e
theorem Qgn (n:Nat) (K:Qjb n) (l:List (TT n)) (a:Option Addr) (c:Nat) (w:World) (I:LIn w All l a) (aa:l.length<=100000) (p:∀ x∈l,x.count<=100000) :
 Calls prog 37 #[.slice a l.length c] w fun e w'=>∃ a' c',e=.returned (.slice a' l.length c')/\(∃ xs,QcN w' w.heap.size (.slice a' l.length c') l xs)/\Below w.heap.size w w':=by
 have IH:Hid (Qjb n):=K;have hl:Hid (LIn w All l a):=I;have U:Hid (∀ x∈l,x.count<=100000):=p;clear K I p;obtain⟨i0,hi,S,X,V⟩:=infoT_parts
 go_enter func37,ntmps37
 go_wp2_with fail
 go_loopw [3,4] (fun v i wr=>∃ q:Nat,q<=l.length/\i=.int .i64 q/\(∃ xs,QcN wr w.heap.size v (l.take q) xs)/\Below w.heap.size w wr) (fun _ i _=>l.length - (intOf i).toNat)
 case atStart=>exact⟨0,Xb _,Z,⟨_,QcN.nil _ _⟩,Zr⟩
 case round =>
  obtain⟨q,hq,rfl,⟨xs,z⟩,hb⟩:=hrel
  have R:Hid (QcN wr w.heap.size u3 (l.take q) xs):=z;have B:Hid (Below w.heap.size w wr):=hb;clear z hb;by_cases W:q<l.length
  ·have D:l[q]?=some l[q]:=Zg W;generalize l[q]=x at D;obtain⟨g,o,a',c',rfl,_,d0,d1,d2,A⟩:=LIn.at (hl.out.below B.out) D
   have C:Hid (Calls prog 76 #[Tv x a' c'] wr fun e w'=>Qlc wr w' x e) :=
    IH.out x a' c' _ A (U.out x (Zm D))
   have T:Hid (l.take (q+1)=l.take q++[x]):=by show _=_;rw[XV,D];rfl
   have u:Hid ((l.take q).length=q):=by show _=_;simp;omega
   clear A D;simp only[Tv] at C
   have ab:(0:Int)<=q:=by omega
   have Q:(q:Int)<l.length:=by omega
   go_wp2_with fail
   refine C.out.mono ?_;rintro e j ⟨m,s,rfl,t2,P⟩;simp only[Tv]
   have O:=R.out.below P;have H:TIn j (But w.heap.size u3) x m:=t2.mono (fun k A _=>⟨Zt B.out.size A,fun e=>by have:=(R.out.lo_le e).2;omega⟩);have d:Below w.heap.size w j:=B.out.trans (P.mono B.out.size);have f:=O.own;rw[u.out] at f
   have F:Hid (∀ t b y,y.ownsRow w.heap.size 70 3 (.slice (some ⟨t,0,none⟩) (q+1) b) (q+1) (xs++[.int .i64 x.kind,.int .i64 x.r,.slice m x.len s])->(j.alloc (.cells #[.int .i64 x.kind,.int .i64 x.r,.slice m x.len s] 70)).grownBy y u3.ownBlock->(u3.ownBlock=some t\/t=j.heap.size+1) ->
    (∃ xs,QcN y w.heap.size (.slice (some ⟨t,0,none⟩) (q+1) b) (l.take (q+1)) xs)/\Below w.heap.size w y):=by
    intro t b y N M h3;have b3:Below j.heap.size j (j.alloc (.cells #[.int .i64 x.kind,.int .i64 x.r,.slice m x.len s] 70)):=(Below.refl _ j).alloc Ze _
    have:=(O.below b3).push (x:=x) (a:=m) (c:=s) (cap:=b) (H.below b3) M (by simpa using h3) (by rw[u.out];exact N)
    rw[u.out] at this
    refine⟨⟨_,by rw[T.out];exact this⟩,?_⟩
    exact(d.alloc d.size _).grown M (by simp;have:=d.size;omega) (fun k A=>(R.out.lo_le A).1)
   have ac:=d.size;clear C d0 d1 d2 t2 P O H d;generalize x.kind=kx at F |-;generalize x.r=rx at F |-;generalize x.len=lx at F |-;go_wp2_with (at_builtin;refine wpList_append_lies _ Z (.tmp 11) (.tmp 17) 33 Z w.heap.size 70 i0 (.agg #[.int .i64 0,.int .i64 0,.slice none 0 0]) 3 40 underTs hi S X V Z (by decide) _ _ _ Z (f.alloc _) ⟨j.heap.size,0,none⟩ 1 1 [.int .i64 kx,.int .i64 rx,.slice m lx s] Z Z (Qk8 _ _ _ _) (Qlr _ _ _ _ _) (by decide) (by unfold maxLen;omega) (by omega) (by simp;omega) (j.heap.size+1) (by simp) ?_)
   intro t b y N h G J;have U2:Hid _:=F.out t b y N h G;clear N h G J f F R;go_wp2
   go_roundw
   case rel=>exact⟨q+1,by omega,by go_num,U2.out.1,U2.out.2⟩
   case measure=>simp[intOf];omega
  ·have Q:¬ (q:Int)<l.length:=by omega
   have E:l.take q=l:=XO (by omega);have z:=R.out;rw[E] at z
   obtain⟨m,s,rfl,M⟩:=z.lin
   have L:Hid (QcN wr w.heap.size (.slice m l.length s) l xs):=z;clear R M z E;go_wp2
   go_ret;exact⟨m,s,Z,⟨xs,L.out⟩,B.out⟩
theorem QgB (n:Nat) (g:Qjb n) (l:List (TT n)) (a:Option Addr) (c:Nat) (w:World) (f:LIn w All l a) (d:l.length<=100000) (b:∀ x∈l,x.count<=100000) :
 Calls prog 37 #[.slice a l.length c] w fun e w'=>Qle w w' l e:=by
 refine(Qgn n g l a c w f d b).mono ?_
 rintro e w' ⟨r,q,rfl,⟨m,k⟩,j⟩;obtain⟨o,p,h,i⟩:=k.lin
 simp only[Value.slice.injEq,true_and] at h
 obtain⟨rfl,rfl⟩:=h
 exact⟨_,_,Z,i,j⟩
structure Bx2 (w wr:World) (k r:Int) (a:Option Addr) (len c:Nat):Prop where
 bel:Below w.heap.size w wr
 box:wr.heap[w.heap.size]?=some (.cells #[.int .i64 k,.int .i64 r,.slice a len c] 70 (0,0))
 res:wr.heap[w.heap.size+1]?=some (.cells #[.int .i64 0,.int .i64 0,.slice none 0 0] 70 (0,0))
theorem Bx2.start (w:World) (k r:Int) (a:Option Addr) (b c:Nat):Bx2 w ((w.alloc (.cells #[.int .i64 k,.int .i64 r,.slice a b c] 70)).alloc (.cells #[.int .i64 0,.int .i64 0,.slice none 0 0] 70)) k r a b c :=
 ⟨((Below.refl _ w).alloc Ze _).alloc (by simp) _,(Below.heap_alloc _ _ _ (by simp)).trans (Qm w _ _),by have:=Qm (w.alloc (.cells #[.int .i64 k,.int .i64 r,.slice a b c] 70)) #[.int .i64 0,.int .i64 0,.slice none 0 0] 70;simpa using this⟩
theorem Bx2.below {k r:Int}{d:Nat}(h:Bx2 w wr k r a d c) (b:Below wr.heap.size wr w'):Bx2 w w' k r a d c :=
 ⟨h.bel.trans (b.mono h.bel.size),QaN h.box b,QaN h.res b⟩
theorem Bx2.stored {k r:Int}{f:Nat}(h:Bx2 w wr k r a f c) (e d:Int) (a':Option Addr) (b c':Nat) :
 (((wr.setCell ⟨w.heap.size+1,0,none⟩ (.int .i64 e)).setCell ⟨w.heap.size+1,1,none⟩ (.int .i64 d)).setCell ⟨w.heap.size+1,2,none⟩ (.slice a' b c')).heap[w.heap.size+1]?=some (.cells #[.int .i64 e,.int .i64 d,.slice a' b c'] 70 (0,0)) /\
 Below w.heap.size w (((wr.setCell ⟨w.heap.size+1,0,none⟩ (.int .i64 e)).setCell ⟨w.heap.size+1,1,none⟩ (.int .i64 d)).setCell ⟨w.heap.size+1,2,none⟩ (.slice a' b c')):=by
 refine⟨?_,((h.bel.setCell (by simp) _).setCell (by simp) _).setCell (by simp) _⟩
 have g:=Qq h.res 0 (.int .i64 e);have i:=Qq g 1 (.int .i64 d);have j:=Qq i 2 (.slice a' b c');simpa using j
theorem own_any:∀ n,Qjb n:=by
 intro n
 induction n with
 | zero=>intro t;exact Empty.elim t
 | succ n ih =>
   intro t a c w Q X;have s:∀ x∈t.2.2,x.count<=100000:=fun x R=>by have:=t.count_kid R;omega
   have g:t.2.2.length<=100000:=by have:=t.len_lt_count;rw[t.len_eq] at this;omega
   have C:Hid (∀ f,Below w.heap.size w f->Calls prog 37 #[.slice a t.2.2.length c] f fun e d=>Qle f d t.2.2 e) :=
    fun f B=>QgB n ih t.2.2 a c f (Q.below B) g s
   have P:Hid (∀ e f d,Below w.heap.size w f->(∃ o q,e=.returned (.agg #[.int .i64 t.kind,.int .i64 t.r,.slice o t.2.2.length q])/\LIn d (ZJ f.heap.size) t.2.2 o/\Below w.heap.size w d)->Qlc w d t e):=by
    rintro e f d B ⟨o,q,rfl,F,z⟩;exact⟨o,q,Z,F.mono (fun k V _=>Zt B.size V),z⟩
   simp only[Tv,TT.len_eq]
   generalize t.kind=k at P |-;generalize t.r=r at P |-;generalize E:t.2.2=l at C P |-;clear s g X Q ih E;go_enter func76,ntmps76
   go_wp2_with fail
   have i:Hid (Bx2 w ((w.alloc (.cells #[.int .i64 k,.int .i64 r,.slice a l.length c] 70)).alloc (.cells #[.int .i64 0,.int .i64 0,.slice none 0 0] 70)) k r a l.length c):=Bx2.start w k r a l.length c;have y:w.heap.size+1<((w.alloc (.cells #[.int .i64 k,.int .i64 r,.slice a l.length c] 70)).alloc (.cells #[.int .i64 0,.int .i64 0,.slice none 0 0] 70)).heap.size:=by simp
   generalize (w.alloc (.cells #[.int .i64 k,.int .i64 r,.slice a l.length c] 70)).alloc (.cells #[.int .i64 0,.int .i64 0,.slice none 0 0] 70)=u at i y |-
   have K:Hid (∀ m,Calls prog 37 #[.slice a l.length c] (u.drewN m) fun e d=>Qle u d l e/\Bx2 w d k r a l.length c):=fun m =>
    (C.out (u.drewN m) (QQ i.out.bel)).mono (fun e d h=>by
     obtain⟨o,q,F,z,N⟩:=h
     exact⟨⟨o,q,F,z,Qa0 N⟩,i.out.below (Qa0 N)⟩)
   have U:=Qb i.out.box 0 _ Z;have e1:=Qb i.out.box 1 _ Z;have e2:=Qb i.out.box 2 _ Z;clear C;go_region_with (go_at_call 37;refine(K.out 1).mono ?_;rintro e O ⟨⟨j,p,rfl,I,W⟩,b⟩;have f0:=Qb b.box 0 _ Z;have f1:=Qb b.box 1 _ Z;have g0:=Qb b.res 0 _ Z;have g1:=Qb b.res 1 _ Z;have S:=Qb b.res 2 _ Z;have T:=Qn b.res 0;have z1:=Qn b.res 1;have z2:=Qn b.res 2;have A:Hid _:=Xh I b;clear I W b)
   all_goals
    have D:=A.out.2.stored k r j l.length p
    have L:Qlc w (((O.setCell ⟨w.heap.size+1,0,none⟩ (.int .i64 k)).setCell ⟨w.heap.size+1,1,none⟩ (.int .i64 r)).setCell ⟨w.heap.size+1,2,none⟩ (.slice j l.length p)) t (.returned (.agg #[.int .i64 k,.int .i64 r,.slice j l.length p])) :=
     P.out _ u _ i.out.bel ⟨j,p,Z,((A.out.1.setCell (by simp;omega) _).setCell (by simp;omega) _).setCell (by simp;omega) _,D.2⟩
    have H:Hid _:=L;have J:=Qb D.1 0 _ Z;have G:=Qb D.1 1 _ Z;have M:=Qb D.1 2 _ Z;clear D L A U e1 e2 f0 f1 g0 g1 S T z1 z2 P K;generalize ((O.setCell ⟨w.heap.size+1,0,none⟩ (.int .i64 k)).setCell ⟨w.heap.size+1,1,none⟩ (.int .i64 r)).setCell ⟨w.heap.size+1,2,none⟩ (.slice j l.length p)=w9 at H J G M |-;go_wp2
    exact Xy (v:=.agg #[.int .i64 k,.int .i64 r,.slice j l.length p]) (by simp[results,results76,go_sem,J,G,M]) Z H.out
def Qhp (w:World) (b:Option Addr) (m:Nat) (nm:Nat->Int):Prop:=∀ i,i<m->∃ g o,b=some ⟨g,o,none⟩/\w.cell? ⟨g,o+i,none⟩=some (.int .i64 (nm i))
theorem Qhp.below {b:Option Addr}{a:Nat->Int}(h:Qhp w b m a) (k:Below w.heap.size w w'):Qhp w' b m a:=fun i d=>by
 obtain⟨g,o,e,c⟩:=h i d
 exact⟨g,o,e,(k.cell (p:=⟨g,o+i,none⟩) (Xi w ⟨g,o+i,none⟩ c)).trans c⟩
def QlU (o:Option Int) (e:Ending):Prop:=match o with
 | some v=>e=.returned (.tuple #[.int .i64 v,.bool true])
 | none=>e=.returned (.tuple #[.int .i64 0,.bool false])
theorem Qf9 (k r:Int) (a:Option Addr) (s c:Nat) (b:Option Addr) (m d:Nat) (f:Nat->Int) (w:World) (i:Qhp w b m f) :
 Calls prog 153 #[.agg #[.int .i64 k,.int .i64 r,.slice a s c],.slice b m d] w fun e w'=>QlU (Qaz m f k r) e/\Below w.heap.size w w':=by
 have q:Hid (Qhp w b m f):=i;clear i;by_cases h:k=1
 ·subst h;rw[show Qaz m f 1 r=some r by simp[Qaz]]
  go_enter func153,ntmps153
  go_wp2_with fail
  go_ret2;exact⟨Z,(Below.refl _ w).alloc Ze _⟩
 ·have u:(k==1)=false:=by simpa using h
  rcases (show r<0\/(0<=r/\(m:Int)<=r)\/(0<=r/\r<m) by omega) with l | ⟨l,t⟩|⟨l,t⟩
  ·rw[show Qaz m f k r=none by unfold Qaz;rw[Xr h,Xs (Or.inl l)]]
   clear h;go_enter func153,ntmps153
   go_wp2_with fail
   go_ret2;exact⟨Z,(Below.refl _ w).alloc Ze _⟩
  ·rw[show Qaz m f k r=none by unfold Qaz;rw[Xr h,Xs (Or.inr t)]]
   clear h;have x:¬ r<0:=by omega
   go_enter func153,ntmps153
   go_wp2_with fail
   go_ret2;exact⟨Z,(Below.refl _ w).alloc Ze _⟩
  ·obtain⟨j,rfl⟩:=Xc l
   obtain⟨g,o,rfl,p⟩:=q.out j (by omega)
   have z:g<w.heap.size:=Xi w ⟨g,o+j,none⟩ p;have x:¬ (j:Int)<0:=by omega
   have y:¬ (m:Int)<=j:=by omega
   by_cases n:f j<0
   ·rw[show Qaz m f k j=none by unfold Qaz;rw[Xr h,Xr (by omega),Xs (by simpa using n)]]
    clear h;generalize f j=v at p n;go_enter func153,ntmps153
    go_wp2_with fail
    go_ret2;exact⟨Z,(Below.refl _ w).alloc Ze _⟩
   ·rw[show Qaz m f k j=some (f j) by unfold Qaz;rw[Xr h,Xr (by omega),Xr (by simpa using n)];rfl]
    clear h;generalize f j=v at p n |-;go_enter func153,ntmps153
    go_wp2_with fail
    go_ret2;exact⟨Z,(Below.refl _ w).alloc Ze _⟩
structure QcQ (w:World) (G len:Nat){n:Nat}(l:List (TT n)):Prop where
 row:∃ cur,w.heap[G]?=some (.cells cur 70 (0,0))/\cur.size=len*3/\∀ (i:Nat) (x:TT n),l[i]?=some x->∃ a c,cur[i*3]?=some (.int .i64 x.kind)/\cur[i*3+1]?=some (.int .i64 x.r)/\cur[i*3+2]?=some (.slice a x.len c)/\TIn w (ZJ (G+1)) x a
theorem QcQ.below {d:Nat}{l:List (TT n)}(h:QcQ w G d l) (b:Below w.heap.size w w'):QcQ w' G d l:=by
 obtain⟨e,f,m,q⟩:=h.row
 refine⟨e,(b.block G (XC f)).trans f,m,fun i x j=>?_⟩
 obtain⟨a,c,o,g,p,k⟩:=q i x j
 exact⟨a,c,o,g,p,k.below b⟩
theorem QcQ.lt {a:Nat}{l:List (TT n)}(h:QcQ w G a l):G<w.heap.size:=by
 obtain⟨c,b,e,d⟩:=h.row
 exact XC b
theorem QcQ.frozen {a:Nat}{l:List (TT n)}(h:QcQ w G a l) (i:Nat):w.frozen? ⟨G,i,none⟩=false:=by
 obtain⟨c,b,e,d⟩:=h.row
 exact Qn b i
theorem QcQ.has {a:Nat}{l:List (TT n)}(h:QcQ w G a l) (i:Nat) (e:i<a*3):∃ v,w.cell? ⟨G,i,none⟩=some v:=by
 obtain⟨b,c,f,d⟩:=h.row
 exact⟨b[i]'(by omega),Qb c i _ (Xj (by omega))⟩
theorem QcQ.lin {d:Nat}{l:List (TT n)}(h:QcQ w G d l):LIn w (ZJ G) l (some ⟨G,0,none⟩):=by
 obtain⟨p,b,r,e⟩:=h.row
 intro i x g;obtain⟨a,c,m,f,o,j⟩:=e i x g
 refine⟨G,0,a,c,Z,Ze,?_,?_,?_,j.mono (fun k q _=>by omega)⟩
 ·rw[XK];exact Qb b _ _ m
 ·rw[XK];exact Qb b _ _ f
 ·rw[XK];exact Qb b _ _ o
theorem QcQ.set {g:Nat}{l:List (TT n)}(h:QcQ w G g l) (s:l.length=q) (F:q<g){x:TT n}(k:TIn w (ZJ (G+1)) x a) :
 QcQ (((w.setCell ⟨G,q*3,none⟩ (.int .i64 x.kind)).setCell ⟨G,q*3+1,none⟩ (.int .i64 x.r)).setCell ⟨G,q*3+2,none⟩ (.slice a x.len c)) G g (l++[x]):=by
 obtain⟨t,C,p,B⟩:=h.row
 have o:=Qq C (q*3) (.int .i64 x.kind);have A:=Qq o (q*3+1) (.int .i64 x.r);have m:=Qq A (q*3+2) (.slice a x.len c)
 have f:∀ {y:TT n} {b:Option Addr},TIn w (ZJ (G+1)) y b->TIn (((w.setCell ⟨G,q*3,none⟩ (.int .i64 x.kind)).setCell ⟨G,q*3+1,none⟩ (.int .i64 x.r)).setCell ⟨G,q*3+2,none⟩ (.slice a x.len c)) (ZJ (G+1)) y b :=
  fun e=>((e.setCell (by simp) _).setCell (by simp) _).setCell (by simp) _
 refine⟨_,m,by simp[p],fun i y e=>?_⟩
 rw[List.getElem?_append] at e
 split at e
 ·rename_i v
  obtain⟨b,d,E,u,z,D⟩:=B i y e
  refine⟨b,d,?_,?_,?_,f D⟩
  ·simp only[Array.getElem?_setIfInBounds]
   rw[Xr (by omega),Xr (by omega),Xr (by omega)];exact E
  ·simp only[Array.getElem?_setIfInBounds]
   rw[Xr (by omega),Xr (by omega),Xr (by omega)];exact u
  ·simp only[Array.getElem?_setIfInBounds]
   rw[Xr (by omega),Xr (by omega),Xr (by omega)];exact z
 ·rename_i v
  have j:i=q:=by
   have:=(Zi e).1
   simp at this
   omega
  subst j;simp[s] at e
  subst e;refine⟨a,c,?_,?_,?_,f k⟩
  ·simp only[Array.getElem?_setIfInBounds,Array.size_setIfInBounds]
   rw[Xr (by omega),Xr (by omega),Xs Y,Xs (by omega)]
  ·simp only[Array.getElem?_setIfInBounds,Array.size_setIfInBounds]
   rw[Xr (by omega),Xs Y,Xs (by omega)]
  ·simp only[Array.getElem?_setIfInBounds,Array.size_setIfInBounds]
   rw[Xs Y,Xs (by omega)]
abbrev zeroT:Value:=.agg #[.int .i64 0,.int .i64 0,.slice none 0 0]
def QcH {n:Nat}(w w':World) (o:Option (TT n)) (e:Ending):Prop:=match o with
 | some u=>∃ a' c',e=.returned (.tuple #[Tv u a' c',.bool true])/\TIn w' (ZJ w.heap.size) u a'/\Below w.heap.size w w'
 | none=>e=.returned (.tuple #[zeroT,.bool false])/\Below w.heap.size w w'
def Qjo (f n:Nat):Prop:=∀ (t:TT n) (a:Option Addr) (c:Nat) (b:Option Addr) (m d:Nat) (nm:Nat->Int) (w:World),TIn w All t a->t.count<=2000->Qhp w b m nm ->
 Calls prog f #[Tv t a c,.slice b m d] w fun e w'=>QcH w w' (t.ren m nm) e
theorem QhS (w:World) (a:Nat) (h:a<=2000):(Instr.makeSlice 33 (.int .i64 a) (.int .i64 a)).run prog w=.ok (.slice (some ⟨w.heap.size,0,none⟩) a a) (w.alloc (.cells (madeCells #[.int .i64 0,.int .i64 0,.slice none 0 0] (a*3)) 70)):=by
 obtain⟨f,e,c,b,d⟩:=infoT_parts
 have:=run_make (P:=prog) w 33 70 f _ underTs e c .i64 .i64 a a (by omega) (by omega) (by rw[d];omega) (by omega)
 rw[b] at this
 exact this
structure RnX (w wr:World) (k r:Int) (a:Option Addr) (len c G:Nat){n:Nat}(l:List (TT n)):Prop where
 bx:Bx2 w wr k r a len c
 row:QcQ wr G len l
 hG:w.heap.size+1<G
section
variable {w wr w':World}{k r:Int}{a:Option Addr}{len c G n:Nat}{l:List (TT n)}
theorem RnX.start (h:Bx2 w wr k r a len c):RnX w (wr.alloc (.cells (madeCells #[.int .i64 0,.int .i64 0,.slice none 0 0] (len*3)) 70)) k r a len c wr.heap.size ([]:List (TT n)) :=
 ⟨h.below ((Below.refl _ wr).alloc Ze _),⟨_,Qm wr _ _,size_madeCells _ _,fun i x b=>by simp at b⟩,XC h.res⟩
theorem RnX.below (h:RnX w wr k r a len c G l) (b:Below wr.heap.size wr w'):RnX w w' k r a len c G l:=⟨h.bx.below b,h.row.below b,h.hG⟩
theorem Bx2.setG (h:Bx2 w wr k r a len c) (b:w.heap.size+1<G) (i:Nat) (v:Value):Bx2 w (wr.setCell ⟨G,i,none⟩ v) k r a len c :=
 ⟨h.bel.setCell (by simp;omega) _,(Xd _ _ _ _ (by simp;omega)).trans h.box,(Xd _ _ _ _ (by simp;omega)).trans h.res⟩
theorem RnX.set (h:RnX w wr k r a len c G l)(d:l.length=q) (e:q<len){x:TT n}{a':Option Addr}{c':Nat}(b:TIn wr (ZJ (G+1)) x a') :
 RnX w (((wr.setCell ⟨G,q*3,none⟩ (.int .i64 x.kind)).setCell ⟨G,q*3+1,none⟩ (.int .i64 x.r)).setCell ⟨G,q*3+2,none⟩ (.slice a' x.len c')) k r a len c G (l++[x]) :=
 ⟨((h.bx.setG h.hG _ _).setG h.hG _ _).setG h.hG _ _,h.row.set d e b,h.hG⟩
end
theorem QbD {a:Nat->Int}{t:TT (n+1)}{c:Int}(d:Qaz m a t.kind t.r=some c){l':List (TT n)}(e:Qcz (TT.ren m a) t.2.2=some l'):t.ren m a=some (mkT t.kind c l'):=by
 show (match Qaz m a t.1 t.2.1 with | none=>none | some r=>match Qcz (TT.ren (n:=n) m a) t.2.2 with | none=>none | some l=>some ((t.1,r,l):Int × Int × List (TT n)))=_;have b:Qaz m a t.1 t.2.1=some c:=d;rw[b,e]
 rfl
theorem QcI {a:Nat->Int}{t:TT (n+1)}(c:Qaz m a t.kind t.r=none):t.ren m a=none:=by
 show (match Qaz m a t.1 t.2.1 with | none=>none | some r=>match Qcz (TT.ren (n:=n) m a) t.2.2 with | none=>none | some l=>some ((t.1,r,l):Int × Int × List (TT n)))=_;have b:Qaz m a t.1 t.2.1=none:=c;rw[b]
 rfl
theorem QcB {a:Nat->Int}{t:TT (n+1)}(b:Qcz (TT.ren m a) t.2.2=none):t.ren m a=none:=by
 show (match Qaz m a t.1 t.2.1 with | none=>none | some r=>match Qcz (TT.ren (n:=n) m a) t.2.2 with | none=>none | some l=>some ((t.1,r,l):Int × Int × List (TT n)))=_;rw[b]
 cases Qaz m a t.1 t.2.1<;>rfl
theorem rename_any:∀ n,Qjo 143 n:=by
 intro n
 induction n with
 | zero=>intro t;exact Empty.elim t
 | succ n ih =>
   intro t a c b m d s w ht ah J;have IH:Hid (Qjo 143 n):=ih;have ac:Hid (Qhp w b m s):=J;have hT:Hid (LIn w All t.2.2 a):=ht.list;have ab:Hid (∀ x∈t.2.2,x.count<=2000):=fun x H=>by have:=t.count_kid H;omega
   have I:t.2.2.length<=2000:=by have:=t.len_lt_count;rw[t.len_eq] at this;omega
   have K:Hid (Qaz m s t.kind t.r=none->t.ren m s=none):=QcI;have R:Hid (Qcz (TT.ren m s) t.2.2=none->t.ren m s=none):=QcB;have M:Hid (∀ B h,Qaz m s t.kind t.r=some B->Qcz (TT.ren m s) t.2.2=some h->t.ren m s=some (mkT t.kind B h)):=fun B h h1 h2=>QbD h1 h2;generalize t.ren m s=Q at K R M |-;simp only[Tv,TT.len_eq]
   generalize t.2.2=l at hT ab I R M |-;generalize t.kind=k at K M |-;generalize t.r=r at K M |-;clear ht ah J ih t;go_enter func143,ntmps143
   go_wp2_with fail
   have X1:Hid (Bx2 w ((w.alloc (.cells #[.int .i64 k,.int .i64 r,.slice a l.length c] 70)).alloc (.cells #[.int .i64 0,.int .i64 0,.slice none 0 0] 70)) k r a l.length c):=Bx2.start w k r a l.length c;generalize (w.alloc (.cells #[.int .i64 k,.int .i64 r,.slice a l.length c] 70)).alloc (.cells #[.int .i64 0,.int .i64 0,.slice none 0 0] 70)=w1 at X1 |-;refine(Qf9 k r a l.length c b m d s w1 (ac.out.below X1.out.bel)).mono ?_
   rintro e N ⟨hr,b2⟩;have E:Hid (Bx2 w N k r a l.length c):=X1.out.below b2;clear X1 b2;have e2:N.cell? ⟨w.heap.size,2,none⟩=some (.slice a l.length c):=Qb E.out.box 2 _ Yz
   cases hrr:Qaz m s k r with
   | none =>
     rw[hrr] at hr
     obtain rfl:e=_:=hr;have z:Q=none:=K.out hrr;subst z;have D:=E.out.stored 0 0 none 0 0;have DD:Hid (Below w.heap.size w _):=D.2;have g0:=Qb E.out.res 0 _ Yz;have g1:=Qb E.out.res 1 _ Yz;have g2:=Qb E.out.res 2 _ Yz;have z0:=Qn E.out.res 0;have z1:=Qn E.out.res 1;have z2:=Qn E.out.res 2;have V:=Qb D.1 0 _ Yz;have x1:=Qb D.1 1 _ Yz;have U:=Qb D.1 2 _ Yz;clear D hrr K R M;go_wp2_with fail
     exact Xy (v:=.tuple #[zeroT,.bool false]) (by simp[results,results143,go_sem,V,x1,U]) Yz ⟨Yz,DD.out⟩
   | some B =>
     rw[hrr] at hr
     obtain rfl:e=_:=hr;have HR:Hid (Qaz m s k r=some B):=hrr;clear hrr;have af:=QhS N l.length I;have ad:w.heap.size<N.heap.size:=XC E.out.box;go_wp2_with fail
     have Y0:Hid (RnX w (N.alloc (.cells (madeCells #[.int .i64 0,.int .i64 0,.slice none 0 0] (l.length*3)) 70)) k r a l.length c N.heap.size ([]:List (TT n))):=RnX.start E.out;generalize N.alloc (.cells (madeCells #[.int .i64 0,.int .i64 0,.slice none 0 0] (l.length*3)) 70)=w3 at Y0 |-;generalize N.heap.size=G at Y0 |-;clear af e2 E ad;go_loopw [27] (fun i wr=>∃ q:Nat,q<=l.length/\i=.int .i64 q/\∃ h:List (TT n),h.length=q/\(∀ (j:Nat) x,j<q->l[j]?=some x->x.ren m s=h[j]?)/\RnX w wr k r a l.length c G h) (fun i _=>l.length - (intOf i).toNat)
     case atStart=>exact⟨0,Xb _,Yz,[],Yz,fun j x hj=>by omega,Y0.out⟩
     case round =>
      clear Y0;obtain⟨q,hq,rfl,h,X,L,hY⟩:=hrel
      have A:Hid (h.length=q/\∀ (j:Nat) x,j<q->l[j]?=some x->x.ren m s=h[j]?):=⟨X,L⟩;have Y:Hid (RnX w wr k r a l.length c G h):=hY;clear X L hY;by_cases aa:q<l.length
      ·have H:l[q]?=some l[q]:=Zg aa;generalize l[q]=x at H;obtain⟨g,o,a',c',rfl,_,d0,d1,d2,hk⟩:=LIn.at (hT.out.below Y.out.bx.bel) H
       have hg:g<wr.heap.size:=Xi wr ⟨g,o+q*3,none⟩ d0;have S:Hid (l[q]?=some x):=H
       have C:Hid (∀ W,Below wr.heap.size wr W->Calls prog 143 #[Tv x a' c',.slice b m d] W fun e w'=>QcH W w' (x.ren m s) e) :=
        fun W hb=>IH.out x a' c' b m d s W (hk.below hb) (ab.out x (Zm H)) ((ac.out.below Y.out.bx.bel).below hb)
       clear hk H;simp only[Tv] at C
       generalize x.kind=kx at C d0;generalize x.r=rx at C d1;generalize x.len=lx at C d2;have aj:(0:Int)<=q:=by omega
       have ag:(q:Int)<l.length:=by omega
       have al:(q:Int)<2000:=by omega
       go_wp2_with fail
       have T:Below wr.heap.size wr (wr.alloc (.cells #[.int .i64 kx,.int .i64 rx,.slice a' lx c'] 70)):=(Below.refl _ wr).alloc Ze _;refine(C.out _ T).mono ?_
       rintro e w4 h4;clear C d0 d1 d2
       cases hxr:x.ren m s with
       | none =>
         rw[hxr] at h4
         obtain⟨rfl,b4⟩:=h4
         have z:Q=none:=R.out (QbY S.out hxr);subst z;have f:=(Y.out.below T).below b4;have P:q*3+2<l.length*3:=by omega
         obtain⟨v0,r0⟩:=f.row.has (q*3) (by omega)
         obtain⟨v1,r1⟩:=f.row.has (q*3+1) (by omega)
         obtain⟨v2,r2⟩:=f.row.has (q*3+2) (by omega)
         have z0:=f.row.frozen (q*3);have z1:=f.row.frozen (q*3+1);have z2:=f.row.frozen (q*3+2);have X5:=((f.bx.setG f.hG (q*3) (.int .i64 0)).setG f.hG (q*3+1) (.int .i64 0)).setG f.hG (q*3+2) (.slice none 0 0);have D:=X5.stored 0 0 none 0 0;have DD:Hid (Below w.heap.size w _):=D.2;have g0:=Qb f.bx.res 0 _ Yz;have g1:=Qb f.bx.res 1 _ Yz;have g2:=Qb f.bx.res 2 _ Yz;have y0:=Qn f.bx.res 0;have y1:=Qn f.bx.res 1;have y2:=Qn f.bx.res 2;have V:=Qb D.1 0 _ Yz;have x1:=Qb D.1 1 _ Yz;have U:=Qb D.1 2 _ Yz;have ak:¬ w.heap.size+1=G:=by have:=f.hG;omega
         have ai:¬ G=w.heap.size+1:=by have:=f.hG;omega
         clear D X5 f b4 T hxr A Y K R M P;go_wp2_with fail
         exact Xy (v:=.tuple #[zeroT,.bool false]) (by simp[results,results143,go_sem,V,x1,U]) Yz ⟨Yz,DD.out⟩
       | some u =>
         rw[hxr] at h4
         obtain⟨a4,c4,rfl,t4,b4⟩:=h4
         simp only[Tv]
         have f:=(Y.out.below T).below b4;have P:q*3+2<l.length*3:=by omega
         obtain⟨v0,r0⟩:=f.row.has (q*3) (by omega)
         obtain⟨v1,r1⟩:=f.row.has (q*3+1) (by omega)
         obtain⟨v2,r2⟩:=f.row.has (q*3+2) (by omega)
         have z0:=f.row.frozen (q*3);have z1:=f.row.frozen (q*3+1);have z2:=f.row.frozen (q*3+2);have ae:=Y.out.row.lt;have Y5:=f.set A.out.1 aa (x:=u) (a':=a4) (c':=c4) (t4.mono (fun k hk _=>by have:=T.size;simp at hk;omega))
         have Z:Hid (∃ h:List (TT n),h.length=q+1/\(∀ (j:Nat) x,j<q+1->l[j]?=some x->x.ren m s=h[j]?)/\RnX w (((w4.setCell ⟨G,q*3,none⟩ (.int .i64 u.kind)).setCell ⟨G,q*3+1,none⟩ (.int .i64 u.r)).setCell ⟨G,q*3+2,none⟩ (.slice a4 u.len c4)) k r (some ⟨g,o,none⟩) l.length c G h):=by
          refine⟨h++[u],by simp[A.out.1],fun j y hj hy=>?_,Y5⟩
          by_cases e:j=q
          ·subst e;rw[S.out] at hy
           cases hy
           rw[hxr,XQ (by have:=A.out.1;omega),A.out.1,Nat.sub_self]
           rfl
          ·rw[XP (by have:=A.out.1;omega)]
           exact A.out.2 j y (by omega) hy
         clear Y5 f b4 T hxr A Y K R P t4 S ae;generalize u.kind=ku at Z |-;generalize u.r=ru at Z |-;generalize u.len=lu at Z |-;go_wp2
         go_roundw
         case rel=>exact⟨q+1,by omega,by go_num,Z.out⟩
         case measure=>simp[intOf];omega
      ·have ag:¬ (q:Int)<l.length:=by omega
       have F:h.length=l.length:=by have:=A.out.1;omega
       have z:Q=some (mkT k B h):=M.out B h HR.out (QaC.2 ⟨F,fun i x H=>A.out.2 i x (by have:=(Zi H).1;omega) H⟩);subst z;have e0:wr.cell? ⟨w.heap.size,0,none⟩=some (.int .i64 k):=Qb Y.out.bx.box 0 _ Yz;have g0:=Qb Y.out.bx.res 0 _ Yz;have g1:=Qb Y.out.bx.res 1 _ Yz;have g2:=Qb Y.out.bx.res 2 _ Yz;have y0:=Qn Y.out.bx.res 0;have y1:=Qn Y.out.bx.res 1;have y2:=Qn Y.out.bx.res 2;have D:=Y.out.bx.stored k B (some ⟨G,0,none⟩) l.length l.length;have V:=Qb D.1 0 _ Yz;have x1:=Qb D.1 1 _ Yz;have U:=Qb D.1 2 _ Yz;have am:=Y.out.hG
       have O:Hid (QcH w (((wr.setCell ⟨w.heap.size+1,0,none⟩ (.int .i64 k)).setCell ⟨w.heap.size+1,1,none⟩ (.int .i64 B)).setCell ⟨w.heap.size+1,2,none⟩ (.slice (some ⟨G,0,none⟩) l.length l.length)) (some (mkT k B h)) (.returned (.tuple #[.agg #[.int .i64 k,.int .i64 B,.slice (some ⟨G,0,none⟩) l.length l.length],.bool true]))):=by
        refine⟨some ⟨G,0,none⟩,l.length,?_,?_,D.2⟩
        ·show _=Ending.returned (.tuple #[.agg #[.int .i64 k,.int .i64 B,.slice (some ⟨G,0,none⟩) h.length l.length],.bool true]);rw[F]
        ·have:=((Y.out.row.lin.setCell (p:=⟨w.heap.size+1,0,none⟩) (by simp;omega) (.int .i64 k)).setCell (p:=⟨w.heap.size+1,1,none⟩) (by simp;omega) (.int .i64 B)).setCell (p:=⟨w.heap.size+1,2,none⟩) (by simp;omega) (.slice (some ⟨G,0,none⟩) l.length l.length)
         exact(LIn.tree this).mono (fun k hk _=>by omega)
       clear D A Y K R M F;go_wp2_with fail
       exact Xy (v:=.tuple #[.agg #[.int .i64 k,.int .i64 B,.slice (some ⟨G,0,none⟩) l.length l.length],.bool true]) (by simp[results,results143,go_sem,V,x1,U]) Yz O.out
structure RdX (w wr:World) (k r:Int) (a:Option Addr) (len c:Nat) (r':Int) (v:Value){n:Nat}(l:List (TT n)) (xs:List Value):Prop where
 bx:Bx2 w wr k r a len c
 u:wr.heap[w.heap.size+2]?=some (.cells #[.int .i64 k,.int .i64 r',v] 70 (0,0))
 row:QcN wr (w.heap.size+3) v l xs
section
variable {w wr w':World}{k r r':Int}{a:Option Addr}{len c n:Nat}{v:Value}{l:List (TT n)}{xs:List Value}
theorem RdX.start (w:World) (k r:Int) (a:Option Addr) (b c:Nat) (d:Int):RdX w (((w.alloc (.cells #[.int .i64 k,.int .i64 r,.slice a b c] 70)).alloc (.cells #[.int .i64 0,.int .i64 0,.slice none 0 0] 70)).alloc (.cells #[.int .i64 k,.int .i64 d,.slice none 0 0] 70)) k r a b c d (.slice none 0 0) ([]:List (TT n)) [] :=
 ⟨(Bx2.start w k r a b c).below (Zr.alloc Ze _),by have:=Qm ((w.alloc (.cells #[.int .i64 k,.int .i64 r,.slice a b c] 70)).alloc (.cells #[.int .i64 0,.int .i64 0,.slice none 0 0] 70)) #[.int .i64 k,.int .i64 d,.slice none 0 0] 70;simpa using this,QcN.nil _ _⟩
theorem RdX.below (h:RdX w wr k r a len c r' v l xs) (b:Below wr.heap.size wr w'):RdX w w' k r a len c r' v l xs:=⟨h.bx.below b,QaN h.u b,h.row.below b⟩
theorem QcN.setOther (h:QcN w' (w.heap.size+3) v l xs) (i:Nat) (y:Value):QcN (w'.setCell ⟨w.heap.size+2,i,none⟩ y) (w.heap.size+3) v l xs:=by
 obtain⟨⟨k,p⟩,f⟩:=h
 refine⟨⟨k,?_⟩,fun i x m=>?_⟩
 ·rcases p with u | ⟨g,d,b,e,q,z,r⟩
  ·exact Or.inl u
  ·exact Or.inr ⟨g,d,b,e,q,(Xd _ _ _ _ (by simp;omega)).trans z,r⟩
 ·obtain⟨a,c,s,j,t,n⟩:=f i x m
  exact⟨a,c,s,j,t,n.setCell (fun o=>by have:=o.1;simp at this) _⟩
theorem RdX.push (h:RdX w wr k r a len c r' v l xs){x:TT n}{a':Option Addr}{c':Nat}(p:TIn wr (But (w.heap.size+3) v) x a')
  (j:wr.grownBy w' v.ownBlock) (b:v.ownBlock=some g\/g=wr.heap.size)
 (o:w'.ownsRow (w.heap.size+3) 70 3 (.slice (some ⟨g,0,none⟩) (l.length+1) cap) (l.length+1) (xs++[.int .i64 x.kind,.int .i64 x.r,.slice a' x.len c'])) :
 w'.heap[w.heap.size+2]?=some (.cells #[.int .i64 k,.int .i64 r',v] 70 (0,0)) /\
 RdX w (w'.setCell ⟨w.heap.size+2,2,none⟩ (.slice (some ⟨g,0,none⟩) (l.length+1) cap)) k r a len c r' (.slice (some ⟨g,0,none⟩) (l.length+1) cap) (l++[x]) (xs++[.int .i64 x.kind,.int .i64 x.r,.slice a' x.len c']):=by
 have f:∀ i,i<w.heap.size+3->i<wr.heap.size->w'.heap[i]?=wr.heap[i]?:=fun i s q=>j.block i q (fun e=>by have:=(h.row.lo_le e.symm).1;omega);have m:=(f (w.heap.size+2) (by omega) (XC h.u)).trans h.u;have d:Below w.heap.size w w':=h.bx.bel.grown j h.bx.bel.size (fun i e=>by have:=(h.row.lo_le e).1;omega);refine⟨m,⟨⟨d.setCell (by simp) _,?_,?_⟩,?_,QcN.setOther (h.row.push p j b o) 2 _⟩⟩
 ·exact(Xd _ _ _ _ (by simp)).trans ((f _ (by omega) (XC h.bx.box)).trans h.bx.box)
 ·exact(Xd _ _ _ _ (by simp)).trans ((f _ (by omega) (XC h.bx.res)).trans h.bx.res)
 ·have:=Qq m 2 (.slice (some ⟨g,0,none⟩) (l.length+1) cap)
  simpa using this
end
theorem QcA {x:Obj}(h:wr.heap[b]?=some x/\Below w.heap.size w wr) (o:Obj):(wr.alloc o).heap[b]?=some x/\Below w.heap.size w (wr.alloc o) :=
 ⟨(Below.heap_alloc _ _ _ (XC h.1)).trans h.1,h.2.alloc h.2.size _⟩
theorem QjX (w:World) (o:Obj) (p q r:Value):∀ j u,[p,q,r][j]?=some u->((w.alloc o).alloc (.cells #[p,q,r] 70)).cell? ((⟨w.heap.size+1,0,none⟩:Addr).add j)=some u:=by
 have:=Qk8 (w.alloc o) p q r
 simpa using this
theorem renamedT_any:∀ n,Qjo 123 n:=by
 intro n
 induction n with
 | zero=>intro t;exact Empty.elim t
 | succ n ih =>
   intro t a c b m d s w ht aw af;have IH:Hid (Qjo 123 n):=ih;have am:Hid (Qhp w b m s):=af;have hT:Hid (LIn w All t.2.2 a):=ht.list;have ak:Hid (∀ x∈t.2.2,x.count<=2000):=fun x M=>by have:=t.count_kid M;omega
   have an:t.2.2.length<=2000:=by have:=t.len_lt_count;rw[t.len_eq] at this;omega
   have R:Hid (Qaz m s t.kind t.r=none->t.ren m s=none):=QcI;have X:Hid (Qcz (TT.ren m s) t.2.2=none->t.ren m s=none):=QcB;have P2:Hid (∀ r' h,Qaz m s t.kind t.r=some r'->Qcz (TT.ren m s) t.2.2=some h->t.ren m s=some (mkT t.kind r' h)):=fun r' h U h2=>QbD U h2;generalize t.ren m s=ad at R X P2 |-;simp only[Tv,TT.len_eq]
   generalize t.2.2=l at hT ak an X P2 |-;generalize t.kind=k at R P2 |-;generalize t.r=r at R P2 |-;clear ht aw af ih t;obtain⟨i0,hi,ap,ar,aq⟩:=infoT_parts
   by_cases H:k=1
   ·subst H;have HR:Hid (Qaz m s 1 r=some r):=by show _=_;simp[Qaz]
    go_enter func123,ntmps123
    go_wp2_with fail
    have X0:=RdX.start (n:=n) w 1 r a l.length c r;generalize ((w.alloc (.cells #[.int .i64 1,.int .i64 r,.slice a l.length c] 70)).alloc (.cells #[.int .i64 0,.int .i64 0,.slice none 0 0] 70)).alloc (.cells #[.int .i64 1,.int .i64 r,.slice none 0 0] 70)=w1 at X0 |-;have Y0:Hid (RdX w w1 1 r a l.length c r (.slice none 0 0) ([]:List (TT n)) []):=X0;clear X0;go_loopw [7] (fun i wr=>∃ q:Nat,q<=l.length/\i=.int .i64 q/\∃ (v:Value) (h:List (TT n)) (xs:List Value),h.length=q/\(∀ (j:Nat) x,j<q->l[j]?=some x->x.ren m s=h[j]?)/\RdX w wr 1 r a l.length c r v h xs) (fun i _=>l.length - (intOf i).toNat)
    case atStart=>exact⟨0,Xb _,Z,_,[],[],Z,fun j x hj=>by omega,Y0.out⟩
    case round =>
     clear Y0;obtain⟨q,hq,rfl,v,h,xs,ab,S,hY⟩:=hrel
     have A:Hid (h.length=q/\∀ (j:Nat) x,j<q->l[j]?=some x->x.ren m s=h[j]?):=⟨ab,S⟩;have Y:Hid (RdX w wr 1 r a l.length c r v h xs):=hY;clear ab S hY;have e2:wr.cell? ⟨w.heap.size,2,none⟩=some (.slice a l.length c):=Qb Y.out.bx.box 2 _ Z;by_cases ai:q<l.length
     ·have M:l[q]?=some l[q]:=Zg ai;generalize l[q]=x at M;obtain⟨g,o,a',c',rfl,_,d0,d1,d2,H⟩:=LIn.at (hT.out.below Y.out.bx.bel) M
      have W:Hid (l[q]?=some x):=M
      have C:Hid (Calls prog 123 #[Tv x a' c',.slice b m d] wr fun e w'=>QcH wr w' (x.ren m s) e) :=
       IH.out x a' c' b m d s wr H (ak.out x (Zm M)) (am.out.below Y.out.bx.bel)
      clear H M;simp only[Tv] at C
      generalize x.kind=kx at C d0;generalize x.r=rx at C d1;generalize x.len=lx at C d2;have au:(0:Int)<=q:=by omega
      have ah:(q:Int)<l.length:=by omega
      have av:(q:Int)<2000:=by omega
      go_wp2_with fail
      refine C.out.mono ?_;rintro e G h4;clear C d0 d1 d2 e2
      cases hxr:x.ren m s with
      | none =>
        rw[hxr] at h4
        obtain⟨rfl,b4⟩:=h4
        have J:ad=none:=X.out (QbY W.out hxr);subst J;have B:=Y.out.below b4;have ag:w.heap.size+1<G.heap.size:=XC B.bx.res;have D:=QcA (B.bx.stored 0 0 none 0 0) (.cells #[.int .i64 0,.int .i64 0,.slice none 0 0] 70);have DD:Hid (Below w.heap.size w _):=D.2;have g0:=Qb B.bx.res 0 _ Z;have g1:=Qb B.bx.res 1 _ Z;have L:=Qb B.bx.res 2 _ Z;have y0:=Qn B.bx.res 0;have y1:=Qn B.bx.res 1;have y2:=Qn B.bx.res 2;have x0:=Qb D.1 0 _ Z;have x1:=Qb D.1 1 _ Z;have x2:=Qb D.1 2 _ Z;clear D B b4 hxr A Y R X P2;go_wp2_with fail
        exact Xy (v:=.tuple #[zeroT,.bool false]) (by simp[results,results123,go_sem,x0,x1,x2]) Z ⟨Z,DD.out⟩
      | some u =>
        rw[hxr] at h4
        obtain⟨T,V,rfl,t4,b4⟩:=h4
        simp only[Tv]
        have B:=Y.out.below b4;have ag:w.heap.size+2<G.heap.size:=XC B.u;have hv:G.cell? ⟨w.heap.size+2,2,none⟩=some v:=Qb B.u 2 _ Z;have F:=A.out.1;have I:=B.row.own;rw[F] at I
        have T4:TIn G (But (w.heap.size+3) v) u T:=t4.mono (fun k H _=>⟨by have:=XC Y.out.u;have ae:wr.heap.size<=k:=H;omega,fun e=>by have:=(Y.out.row.lo_le e).2;have ae:wr.heap.size<=k:=H;omega⟩)
        have PU:Hid (∀ L f Q,Q.ownsRow (w.heap.size+3) 70 3 (.slice (some ⟨L,0,none⟩) (q+1) f) (q+1) (xs++[.int .i64 u.kind,.int .i64 u.r,.slice T u.len V])->((G.alloc (.cells #[.int .i64 u.kind,.int .i64 u.r,.slice T u.len V] 70)).alloc (.cells #[.int .i64 u.kind,.int .i64 u.r,.slice T u.len V] 70)).grownBy Q v.ownBlock->(v.ownBlock=some L\/L=G.heap.size+1+1) ->
         (Q.cell? ⟨w.heap.size+2,2,none⟩=some v/\Q.frozen? ⟨w.heap.size+2,2,none⟩=false) /\
         ∃ (v:Value) (h:List (TT n)) (xs:List Value),v=.slice (some ⟨L,0,none⟩) (q+1) f/\h.length=q+1/\(∀ (j:Nat) x,j<q+1->l[j]?=some x->x.ren m s=h[j]?)/\RdX w (Q.setCell ⟨w.heap.size+2,2,none⟩ v) 1 r (some ⟨g,o,none⟩) l.length c r v h xs):=by
         intro L f Q U h2 h3;have b5:Below G.heap.size G ((G.alloc (.cells #[.int .i64 u.kind,.int .i64 u.r,.slice T u.len V] 70)).alloc (.cells #[.int .i64 u.kind,.int .i64 u.r,.slice T u.len V] 70)):=((Below.refl _ G).alloc Ze _).alloc (by simp) _
         have:=(B.below b5).push (x:=u) (a':=T) (c':=V) (cap:=f) (g:=L) (T4.below b5) h2 (by simpa using h3) (by rw[F];exact U)
         rw[F] at this
         refine⟨⟨Qb this.1 2 _ Z,Qn this.1 2⟩,_,_,_,Z,?_,fun j y hj hy=>?_,this.2⟩
         ·simp[F]
         ·by_cases e:j=q
          ·subst e;rw[W.out] at hy
           cases hy
           rw[hxr,XQ (by omega),F,Nat.sub_self]
           rfl
          ·rw[XP (by omega)]
           exact A.out.2 j y (by omega) hy
        clear B b4 hxr A Y R X t4 T4 W F;generalize u.kind=ku at PU |-;generalize u.r=ru at PU |-;generalize u.len=lu at PU |-;go_wp2_with (at_builtin;refine wpList_append_lies _ Z (.tmp 63) (.tmp 65) 33 Z (w.heap.size+3) 70 i0 (.agg #[.int .i64 0,.int .i64 0,.slice none 0 0]) 3 40 underTs hi ap ar aq Z (by decide) _ _ _ Z ((I.alloc _).alloc _) ⟨G.heap.size+1,0,none⟩ 1 1 [.int .i64 ku,.int .i64 ru,.slice T lu V] Z Z (QjX _ _ _ _ _) (Qlr _ _ _ _ _) (by decide) (by unfold maxLen;omega) (by omega) (by simp;omega) (G.heap.size+1+1) (by simp) ?_)
        intro L f Q U K ac aa;obtain⟨⟨s1,s2⟩,U2⟩:=PU.out L f Q U K ac
        obtain⟨_,l2,al,rfl,U3⟩:=U2
        have U4:Hid _:=U3;clear U K ac aa I PU hv U3;go_wp2
        go_roundw
        case rel=>exact⟨q+1,by omega,by go_num,_,l2,al,U4.out⟩
        case measure=>simp[intOf];omega
     ·have ah:¬ (q:Int)<l.length:=by omega
      have E:h.length=l.length:=by have:=A.out.1;omega
      have J:ad=some (mkT 1 r h):=P2.out r h HR.out (QaC.2 ⟨E,fun i x M=>A.out.2 i x (by have:=(Zi M).1;omega) M⟩);subst J;obtain⟨P,N,rfl,L5⟩:=Y.out.row.lin
      rw[E] at Y
      have u0:wr.cell? ⟨w.heap.size+2,0,none⟩=some (.int .i64 1):=Qb Y.out.u 0 _ Z;have u1:wr.cell? ⟨w.heap.size+2,1,none⟩=some (.int .i64 r):=Qb Y.out.u 1 _ Z;have u2:wr.cell? ⟨w.heap.size+2,2,none⟩=some (.slice P l.length N):=Qb Y.out.u 2 _ Z;have g0:=Qb Y.out.bx.res 0 _ Z;have g1:=Qb Y.out.bx.res 1 _ Z;have L:=Qb Y.out.bx.res 2 _ Z;have y0:=Qn Y.out.bx.res 0;have y1:=Qn Y.out.bx.res 1;have y2:=Qn Y.out.bx.res 2;have D:=Y.out.bx.stored 1 r P l.length N;have x0:=Qb D.1 0 _ Z;have x1:=Qb D.1 1 _ Z;have x2:=Qb D.1 2 _ Z
      have O:Hid (QcH w (((wr.setCell ⟨w.heap.size+1,0,none⟩ (.int .i64 1)).setCell ⟨w.heap.size+1,1,none⟩ (.int .i64 r)).setCell ⟨w.heap.size+1,2,none⟩ (.slice P l.length N)) (some (mkT 1 r h)) (.returned (.tuple #[.agg #[.int .i64 1,.int .i64 r,.slice P l.length N],.bool true]))):=by
       refine⟨P,N,?_,?_,D.2⟩
       ·show _=Ending.returned (.tuple #[.agg #[.int .i64 1,.int .i64 r,.slice P h.length N],.bool true]);rw[E]
       ·have:=((L5.setCell (p:=⟨w.heap.size+1,0,none⟩) (by simp) (.int .i64 1)).setCell (p:=⟨w.heap.size+1,1,none⟩) (by simp) (.int .i64 r)).setCell (p:=⟨w.heap.size+1,2,none⟩) (by simp) (.slice P l.length N)
        exact(LIn.tree this).mono (fun k H _=>by omega)
      clear D A Y R X P2 E L5;go_wp2_with fail
      exact Xy (v:=.tuple #[.agg #[.int .i64 1,.int .i64 r,.slice P l.length N],.bool true]) (by simp[results,results123,go_sem,x0,x1,x2]) Z O.out
   ·have ae:(k != 1)=true:=by simpa using H
    rcases (show r<0\/(0<=r/\(m:Int)<=r)\/(0<=r/\r<m) by omega) with U | ⟨U,h2⟩|⟨U,h2⟩
    ·obtain rfl:=R.out (show Qaz m s k r=none by unfold Qaz;rw[Xr H,Xs (Or.inl U)]);clear H R X P2;go_enter func123,ntmps123
     go_wp2_with fail
     exact Xy (v:=.tuple #[zeroT,.bool false]) (by simp[results,results123,go_sem]) Z ⟨Z,(((Below.refl _ w).alloc Ze _).alloc (by simp) _).alloc (by simp;omega) _⟩
    ·obtain rfl:=R.out (show Qaz m s k r=none by unfold Qaz;rw[Xr H,Xs (Or.inr h2)]);clear H R X P2;have h3:¬ r<0:=by omega
     go_enter func123,ntmps123
     go_wp2_with fail
     exact Xy (v:=.tuple #[zeroT,.bool false]) (by simp[results,results123,go_sem]) Z ⟨Z,(((Below.refl _ w).alloc Ze _).alloc (by simp) _).alloc (by simp;omega) _⟩
    ·obtain⟨j,rfl⟩:=Xc U
     obtain⟨gb,ob,rfl,hc⟩:=am.out j (by omega)
     have ao:gb<w.heap.size:=Xi w ⟨gb,ob+j,none⟩ hc
     have aj:∀ o1 o2 o3,(((w.alloc o1).alloc o2).alloc o3).cell? ⟨gb,ob+j,none⟩=some (.int .i64 (s j)):=fun o1 o2 o3 =>
      (((((Below.refl _ w).alloc Ze o1).alloc (by simp) o2).alloc (by simp;omega) o3).cell (p:=⟨gb,ob+j,none⟩) ao).trans hc
     have h3:¬ (j:Int)<0:=by omega
     have h4:¬ (m:Int)<=j:=by omega
     by_cases hn:s j<0
     ·obtain rfl:=R.out (show Qaz m s k j=none by unfold Qaz;rw[Xr H,Xr (by omega),Xs (by simpa using hn)]);clear H R X P2;generalize s j=z at hc hn aj;go_enter func123,ntmps123
      go_wp2_with fail
      exact Xy (v:=.tuple #[zeroT,.bool false]) (by simp[results,results123,go_sem]) Z ⟨Z,(((Below.refl _ w).alloc Ze _).alloc (by simp) _).alloc (by simp;omega) _⟩
     ·have HR:Hid (Qaz m s k j=some (s j)):=by show _=_;unfold Qaz;rw[Xr H,Xr (by omega),Xr (by simpa using hn)];rfl
      clear H R;have R:Hid True:=trivial;generalize s j=z at hc hn HR aj;go_enter func123,ntmps123
      go_wp2_with fail
      clear aj hc hn U h2 h3 h4 ao;have X0:=RdX.start (n:=n) w k j a l.length c z;generalize ((w.alloc (.cells #[.int .i64 k,.int .i64 j,.slice a l.length c] 70)).alloc (.cells #[.int .i64 0,.int .i64 0,.slice none 0 0] 70)).alloc (.cells #[.int .i64 k,.int .i64 z,.slice none 0 0] 70)=w1 at X0 |-;have Y0:Hid (RdX w w1 k j a l.length c z (.slice none 0 0) ([]:List (TT n)) []):=X0;clear X0;go_loopw [7] (fun i wr=>∃ q:Nat,q<=l.length/\i=.int .i64 q/\∃ (v:Value) (h:List (TT n)) (xs:List Value),h.length=q/\(∀ (j:Nat) x,j<q->l[j]?=some x->x.ren m s=h[j]?)/\RdX w wr k j a l.length c z v h xs) (fun i _=>l.length - (intOf i).toNat)
      case atStart=>exact⟨0,Xb _,Z,_,[],[],Z,fun j x hj=>by omega,Y0.out⟩
      case round =>
       clear Y0;obtain⟨q,hq,rfl,v,h,xs,ab,S,hY⟩:=hrel
       have A:Hid (h.length=q/\∀ (j:Nat) x,j<q->l[j]?=some x->x.ren m s=h[j]?):=⟨ab,S⟩;have Y:Hid (RdX w wr k j a l.length c z v h xs):=hY;clear ab S hY;have e2:wr.cell? ⟨w.heap.size,2,none⟩=some (.slice a l.length c):=Qb Y.out.bx.box 2 _ Z;by_cases ai:q<l.length
       ·have M:l[q]?=some l[q]:=Zg ai;generalize l[q]=x at M;obtain⟨g,o,a',c',rfl,_,d0,d1,d2,H⟩:=LIn.at (hT.out.below Y.out.bx.bel) M
        have W:Hid (l[q]?=some x):=M
        have C:Hid (Calls prog 123 #[Tv x a' c',.slice (some ⟨gb,ob,none⟩) m d] wr fun e w'=>QcH wr w' (x.ren m s) e) :=
         IH.out x a' c' (some ⟨gb,ob,none⟩) m d s wr H (ak.out x (Zm M)) (am.out.below Y.out.bx.bel)
        clear H M;simp only[Tv] at C
        generalize x.kind=kx at C d0;generalize x.r=rx at C d1;generalize x.len=lx at C d2;have au:(0:Int)<=q:=by omega
        have ah:(q:Int)<l.length:=by omega
        have av:(q:Int)<2000:=by omega
        go_wp2_with fail
        refine C.out.mono ?_;rintro e G h4;clear C d0 d1 d2 e2
        cases hxr:x.ren m s with
        | none =>
          rw[hxr] at h4
          obtain⟨rfl,b4⟩:=h4
          have J:ad=none:=X.out (QbY W.out hxr);subst J;have B:=Y.out.below b4;have ag:w.heap.size+1<G.heap.size:=XC B.bx.res;have D:=QcA (B.bx.stored 0 0 none 0 0) (.cells #[.int .i64 0,.int .i64 0,.slice none 0 0] 70);have DD:Hid (Below w.heap.size w _):=D.2;have g0:=Qb B.bx.res 0 _ Z;have g1:=Qb B.bx.res 1 _ Z;have L:=Qb B.bx.res 2 _ Z;have y0:=Qn B.bx.res 0;have y1:=Qn B.bx.res 1;have y2:=Qn B.bx.res 2;have x0:=Qb D.1 0 _ Z;have x1:=Qb D.1 1 _ Z;have x2:=Qb D.1 2 _ Z;clear D B b4 hxr A Y R X P2;go_wp2_with fail
          exact Xy (v:=.tuple #[zeroT,.bool false]) (by simp[results,results123,go_sem,x0,x1,x2]) Z ⟨Z,DD.out⟩
        | some u =>
          rw[hxr] at h4
          obtain⟨T,V,rfl,t4,b4⟩:=h4
          simp only[Tv]
          have B:=Y.out.below b4;have ag:w.heap.size+2<G.heap.size:=XC B.u;have hv:G.cell? ⟨w.heap.size+2,2,none⟩=some v:=Qb B.u 2 _ Z;have F:=A.out.1;have I:=B.row.own;rw[F] at I
          have T4:TIn G (But (w.heap.size+3) v) u T:=t4.mono (fun k H _=>⟨by have:=XC Y.out.u;have ae:wr.heap.size<=k:=H;omega,fun e=>by have:=(Y.out.row.lo_le e).2;have ae:wr.heap.size<=k:=H;omega⟩)
          have PU:Hid (∀ L f Q,Q.ownsRow (w.heap.size+3) 70 3 (.slice (some ⟨L,0,none⟩) (q+1) f) (q+1) (xs++[.int .i64 u.kind,.int .i64 u.r,.slice T u.len V])->((G.alloc (.cells #[.int .i64 u.kind,.int .i64 u.r,.slice T u.len V] 70)).alloc (.cells #[.int .i64 u.kind,.int .i64 u.r,.slice T u.len V] 70)).grownBy Q v.ownBlock->(v.ownBlock=some L\/L=G.heap.size+1+1) ->
           (Q.cell? ⟨w.heap.size+2,2,none⟩=some v/\Q.frozen? ⟨w.heap.size+2,2,none⟩=false) /\
           ∃ (v:Value) (h:List (TT n)) (xs:List Value),v=.slice (some ⟨L,0,none⟩) (q+1) f/\h.length=q+1/\(∀ (j:Nat) x,j<q+1->l[j]?=some x->x.ren m s=h[j]?)/\RdX w (Q.setCell ⟨w.heap.size+2,2,none⟩ v) k j (some ⟨g,o,none⟩) l.length c z v h xs):=by
           intro L f Q U h2 h3;have b5:Below G.heap.size G ((G.alloc (.cells #[.int .i64 u.kind,.int .i64 u.r,.slice T u.len V] 70)).alloc (.cells #[.int .i64 u.kind,.int .i64 u.r,.slice T u.len V] 70)):=((Below.refl _ G).alloc Ze _).alloc (by simp) _
           have:=(B.below b5).push (x:=u) (a':=T) (c':=V) (cap:=f) (g:=L) (T4.below b5) h2 (by simpa using h3) (by rw[F];exact U)
           rw[F] at this
           refine⟨⟨Qb this.1 2 _ Z,Qn this.1 2⟩,_,_,_,Z,?_,fun j y hj hy=>?_,this.2⟩
           ·simp[F]
           ·by_cases e:j=q
            ·subst e;rw[W.out] at hy
             cases hy
             rw[hxr,XQ (by omega),F,Nat.sub_self]
             rfl
            ·rw[XP (by omega)]
             exact A.out.2 j y (by omega) hy
          clear B b4 hxr A Y R X t4 T4 W F;generalize u.kind=ku at PU |-;generalize u.r=ru at PU |-;generalize u.len=lu at PU |-;go_wp2_with (at_builtin;refine wpList_append_lies _ Z (.tmp 63) (.tmp 65) 33 Z (w.heap.size+3) 70 i0 (.agg #[.int .i64 0,.int .i64 0,.slice none 0 0]) 3 40 underTs hi ap ar aq Z (by decide) _ _ _ Z ((I.alloc _).alloc _) ⟨G.heap.size+1,0,none⟩ 1 1 [.int .i64 ku,.int .i64 ru,.slice T lu V] Z Z (QjX _ _ _ _ _) (Qlr _ _ _ _ _) (by decide) (by unfold maxLen;omega) (by omega) (by simp;omega) (G.heap.size+1+1) (by simp) ?_)
          intro L f Q U K ac aa;obtain⟨⟨s1,s2⟩,U2⟩:=PU.out L f Q U K ac
          obtain⟨_,l2,al,rfl,U3⟩:=U2
          have U4:Hid _:=U3;clear U K ac aa I PU hv U3;go_wp2
          go_roundw
          case rel=>exact⟨q+1,by omega,by go_num,_,l2,al,U4.out⟩
          case measure=>simp[intOf];omega
       ·have ah:¬ (q:Int)<l.length:=by omega
        have E:h.length=l.length:=by have:=A.out.1;omega
        have J:ad=some (mkT k z h):=P2.out z h HR.out (QaC.2 ⟨E,fun i x M=>A.out.2 i x (by have:=(Zi M).1;omega) M⟩);subst J;obtain⟨P,N,rfl,L5⟩:=Y.out.row.lin
        rw[E] at Y
        have u0:wr.cell? ⟨w.heap.size+2,0,none⟩=some (.int .i64 k):=Qb Y.out.u 0 _ Z;have u1:wr.cell? ⟨w.heap.size+2,1,none⟩=some (.int .i64 z):=Qb Y.out.u 1 _ Z;have u2:wr.cell? ⟨w.heap.size+2,2,none⟩=some (.slice P l.length N):=Qb Y.out.u 2 _ Z;have g0:=Qb Y.out.bx.res 0 _ Z;have g1:=Qb Y.out.bx.res 1 _ Z;have L:=Qb Y.out.bx.res 2 _ Z;have y0:=Qn Y.out.bx.res 0;have y1:=Qn Y.out.bx.res 1;have y2:=Qn Y.out.bx.res 2;have D:=Y.out.bx.stored k z P l.length N;have x0:=Qb D.1 0 _ Z;have x1:=Qb D.1 1 _ Z;have x2:=Qb D.1 2 _ Z
        have O:Hid (QcH w (((wr.setCell ⟨w.heap.size+1,0,none⟩ (.int .i64 k)).setCell ⟨w.heap.size+1,1,none⟩ (.int .i64 z)).setCell ⟨w.heap.size+1,2,none⟩ (.slice P l.length N)) (some (mkT k z h)) (.returned (.tuple #[.agg #[.int .i64 k,.int .i64 z,.slice P l.length N],.bool true]))):=by
         refine⟨P,N,?_,?_,D.2⟩
         ·show _=Ending.returned (.tuple #[.agg #[.int .i64 k,.int .i64 z,.slice P h.length N],.bool true]);rw[E]
         ·have:=((L5.setCell (p:=⟨w.heap.size+1,0,none⟩) (by simp) (.int .i64 k)).setCell (p:=⟨w.heap.size+1,1,none⟩) (by simp) (.int .i64 z)).setCell (p:=⟨w.heap.size+1,2,none⟩) (by simp) (.slice P l.length N)
          exact(LIn.tree this).mono (fun k H _=>by omega)
        clear D A Y R X P2 E L5;go_wp2_with fail
        exact Xy (v:=.tuple #[.agg #[.int .i64 k,.int .i64 z,.slice P l.length N],.bool true]) (by simp[results,results123,go_sem,x0,x1,x2]) Z O.out
def firstI:List Int->Int
 | []=>0
 | x::xs=>if x=0 then firstI xs else x
theorem QfF (a:l[k]?=some x):firstI (l.drop k)=if x=0 then firstI (l.drop (k+1)) else x:=by
 obtain⟨b,e⟩:=Zi a
 rw[List.drop_eq_getElem_cons b,e,firstI]
theorem Qg9 (r:l.length=N) (v:N<=100000) (s:intsL.In w Q l [.slice a N c]) :
 Calls prog 119 #[.slice a N c] w fun e w'=>e=.returned (.int .i64 (firstI l))/\w'=w:=by
 have D:Hid (∀ i x,l[i]?=some x->∃ g o,a=some ⟨g,o,none⟩/\w.cell? ⟨g,o+i,none⟩=some (.int .i64 x)):=fun i x B=>by
  obtain⟨g,o,u,C,I,H,A,z,K⟩:=Yf s B
  have q:u=[.int .i64 x]:=z;subst q;refine⟨g,o,C,?_⟩
  have:=A 0 (by decide)
  simpa[Lay.int] using this
 have p:Hid (l.length=N):=r;clear s r;go_enter func119,ntmps119
 go_wp2
 go_loop [3] (fun i=>∃ k:Nat,k<=N/\i=.int .i64 k/\firstI l=firstI (l.drop k)) (fun i=>N - (intOf i).toNat)
 case atStart=>exact⟨0,Xb _,Z,Z⟩
 case round =>
  obtain⟨k,G,rfl,h⟩:=hrel
  have m:Hid (firstI l=firstI (l.drop k)):=h;clear h;by_cases j:k<N
  ·have b:l[k]?=some (l[k]'(by rw[p.out];exact j)):=Zg _;generalize l[k]'(by rw[p.out];exact j)=y at b;obtain⟨g,o,rfl,J⟩:=D.out k y b
   have t:(k:Int)<N:=by omega
   have d:=QfF b;by_cases f:y=0
   ·have F:Hid (firstI l=firstI (l.drop (k+1))):=by
     show _=_;rw[m.out,d,Xs f]
    have n:(y==0)=true:=by simpa using f
    clear f b d;go_wp2
    go_round
    case rel=>exact⟨k+1,by omega,by go_num,F.out⟩
    case measure=>simp[intOf];omega
   ·have E:Hid (firstI l=y):=by
     show _=_;rw[m.out,d,Xr f]
    have n:(y==0)=false:=by simpa using f
    clear f b d;go_wp2
    go_ret;exact⟨by rw[E.out];rfl,Z⟩
  ·have E:Hid (firstI l=0):=by
    show _=_;rw[m.out,List.drop_of_length_le (by rw[p.out];omega)]
    rfl
   go_wp2
   go_ret;exact⟨by rw[E.out];rfl,Z⟩
theorem TT.ren_count {m:Nat}{too:Nat->Int}:{n:Nat}->{t u:TT n}->t.ren m too=some u->u.count=t.count
 | 0,t,_,_=>Empty.elim t
 | n+1,t,u,h=>by
   simp only[TT.ren] at h
   cases e1:Qaz m too t.1 t.2.1 with
   | none=>simp[e1] at h
   | some r1 =>
     simp only[e1] at h
     cases e2:Qcz (TT.ren m too) t.2.2 with
     | none=>simp[e2] at h
     | some l1 =>
       simp only[e2] at h
       have h:=Xn h;subst h;simp only[TT.count]
       congr 2
       obtain⟨e,d⟩:=QaC.1 e2
       apply List.ext_getElem (by simp[e])
       intro i b c;simp at b c
       have a:=d i t.2.2[i] (Zg c);rw[Zg b] at a
       simp[TT.ren_count a]
def IV (w:World) (l:List Int) (v:Value):Prop:=∃ a c,v=.slice a l.length c/\intsL.In w (fun _=>True) l [.slice a l.length c]
theorem IV.below (h:IV w l v) (k:Below w.heap.size w w'):IV w' l v:=by
 obtain⟨a,c,e,h⟩:=h
 exact⟨a,c,e,Ya h k⟩
theorem QcV (b:l.length<=100000) (h:IV w l v) :
 Calls prog 119 #[v] w fun e w'=>e=.returned (.int .i64 (firstI l))/\w'=w:=by
 obtain⟨a,c,rfl,h⟩:=h
 exact Qg9 Z b h
theorem QgI (w:World) (t:TypeId) (l:List Int) (e:∀ x∈l,-9223372036854775808<=x/\x<=9223372036854775807) (c:Nat):IV (w.alloc (.cells (l.map (Value.int .i64)).toArray t)) l (.slice (some ⟨w.heap.size,0,none⟩) l.length c):=by
 refine⟨_,_,Z,some ⟨w.heap.size,0,none⟩,c,Z,fun i x b=>⟨w.heap.size,0,[.int .i64 x],Z,Y,by simp,fun j d=>?_,?_⟩⟩
 ·have d:j<1:=d;have a:j=0:=by omega
  subst a
  have:=Qb (Qm w (l.map (Value.int .i64)).toArray t) i (.int .i64 x) (by simp[b])
  simpa[Lay.int] using this
 ·exact Lay.int_mk _ _ (e x (Zm b))
theorem QcP (s:JSt) (k b:Int) (a:Bool):-9223372036854775808<=s.want k b a/\s.want k b a<=9223372036854775807:=by
 unfold JSt.want;split
 ·omega
 ·split
  ·split<;>omega
  ·omega
theorem QkI (d:l.length=N) (h:intsL.In w Q l [.slice a N c]):Qhp w a N (fun i=>l.getD i 0):=by
 subst d;intro i f;obtain⟨g,o,e,_,_,b⟩:=ZK h f
 exact⟨g,o,e,b⟩
theorem Xg:type_of% @Nat.le_of_ble_eq_true:=@Nat.le_of_ble_eq_true
def k9E (b X N lc gL nl cL lg lo k j uc vc:Nat) (u y:TT 6) (ua va:Option Addr) (q:Bool) (t:Tmp) (v:Value) (w:World):Prop :=
 v=(([(0,.pointer (some ⟨b,0,none⟩)),(1,.slice (some ⟨lg,lo,none⟩) N lc),(9,.int .i64 (k:Int)),(10,.pointer (some ⟨X,0,none⟩)),(11,.bool true),(49,.bool true),(50,.bool false),(51,.bool false),(52,.agg #[.int .i64 u.kind,.int .i64 u.r,.slice ua u.len uc]),(53,.pointer (some ⟨b,0,none⟩)),(54,.pointer (some ⟨b,0,none⟩)),(55,.pointer (some ⟨b,6,none⟩)),(56,.slice (some ⟨gL,0,none⟩) nl cL),(57,.slice (some ⟨lg,lo,none⟩) N lc),(58,.int .i64 (k:Int)),(59,.pointer (some ⟨lg,lo+k,none⟩)),(60,.int .i64 (j:Int)),(61,.pointer (some ⟨gL,j*3,none⟩)),(62,.agg #[.int .i64 y.kind,.int .i64 y.r,.slice va y.len vc]),(63,.bool q),(64,.bool (!q)),(65,.bool (!q))]:List (Tmp × Value)).lookup t).getD undef
theorem k9 {H l B C x A:Nat}{u y:TT 6}{o p:Option Addr}{q:Bool}{R:Nat->Prop}
 (V:w6.cell? ⟨X,0,none⟩=some (.int .i64 u.kind)) (J:w6.cell? ⟨X,1,none⟩=some (.int .i64 u.r)) (x2:w6.cell? ⟨X,2,none⟩=some (.slice o u.len x))
 (L:w6.cell? ⟨b,6,none⟩=some (.slice (some ⟨l,0,none⟩) B cL)) (O:w6.cell? ⟨C,lo+k,none⟩=some (.int .i64 (j:Int)))
 (v0:w6.cell? ⟨l,j*3,none⟩=some (.int .i64 y.kind)) (v1:w6.cell? ⟨l,j*3+1,none⟩=some (.int .i64 y.r)) (U:w6.cell? ⟨l,j*3+2,none⟩=some (.slice p y.len A))
 (M:(k:Int)<N) (aa:(j:Int)<B) (P:Hid (TIn w6 Q u o)) (HV:Hid (TIn w6 R y p)) (HC:Hid (u.count<=100000)) (T:Hid (q=true↔u=y))
 (a:Act) (m:Nat) (W:a.tmps.size=m) (E:66<=m) (h0:a.tmps.getD 0 undef=.pointer (some ⟨b,0,none⟩)) (h1:a.tmps.getD 1 undef=.slice (some ⟨C,lo,none⟩) N H) (h9:a.tmps.getD 9 undef=.int .i64 (k:Int)) (s:a.tmps.getD 10 undef=.pointer (some ⟨X,0,none⟩)) (F:a.tmps.getD 11 undef=.bool true) :
 Code.wp prog ((Tryz.f85.body.bind (Qo 9)).getD .skip) (fun e a' w'=>e=.normal/\∃ vs,a'=Zn a vs [49,50,51,52,53,54,55,56,57,58,59,60,61,62,63,64,65]/\vs 65=.bool (!q)/\Below w6.heap.size w6 w') a w6:=by
 conv=>arg 2;whnf
 refine QD (k9E b X N H l B cL C lo k j x A u y o p q) (fun w=>Below w6.heap.size w6 w) (fun w w'=>Below w.heap.size w w') (outs:=[0,1,9,10,11]) (gs:=[(2,some false)]) (bs:=[true,true,true,true,true,true,true,true,true,true,true,true,true,true,true,true,true]) (by kernel_rfl) (n:=66) W E (by kernel_rfl) ?hR ?hG (Qg Zr 1) ⟨h0,h1,h9,s,F,Y⟩ ?hA ?hend
 case hR=>exact fun t v w w' _ h=>h
 case hG=>exact⟨fun t ht v w _ h=>by cases ht;exact h,Y⟩
 case hend=>exact fun vs w' c d=>⟨Z,vs,Z,d 65 (by kernel_rfl),c⟩
 case hA =>
  iterate 10
   refine⟨fun a w c d K g=>?_,?_⟩
   ·obtain⟨f,-⟩:=d
    conv at f=>whnf;rhs;whnf
    have G:=Qp V c;have u1:=Qp J c;have u2:=Qp x2 c;have u3:=Qp L c;go_simp;exact g _ _ Zr c Z
  refine⟨fun a w c d K g=>?_,?_⟩
  ·obtain⟨f,i,-⟩:=d
   conv at f=>whnf;rhs;whnf
   conv at i=>whnf;rhs;whnf
   go_simp;exact g _ _ Zr c Z
  refine⟨fun a w c d K g=>?_,?_⟩
  ·obtain⟨f,-⟩:=d
   conv at f=>whnf;rhs;whnf
   have G:=Qp O c;go_simp;exact g _ _ Zr c Z
  refine⟨fun a w c d K g=>?_,?_⟩
  ·obtain⟨f,i,-⟩:=d
   conv at f=>whnf;rhs;whnf
   conv at i=>whnf;rhs;whnf
   go_simp;exact g _ _ Zr c Z
  refine⟨fun a w c d K g=>?_,?_⟩
  ·obtain⟨f,-⟩:=d
   conv at f=>whnf;rhs;whnf
   have G:=Qp v0 c;have u1:=Qp v1 c;have u2:=Qp U c;go_simp;exact g _ _ Zr c Z
  refine⟨fun a w c d K g=>?_,?_⟩
  ·obtain⟨f,i,-⟩:=d
   conv at f=>whnf;rhs;whnf
   conv at i=>whnf;rhs;whnf
   go_simp;refine(samet_any 6 u y o p x A w (P.out.below c).all (HV.out.below c).all HC.out).mono ?_;rintro r7 w7 ⟨⟨S,rfl,D⟩,I⟩
   have z:S=q:=Bool.eq_iff_iff.2 (D.trans T.out.symm);subst z;go_simp;exact g _ _ I (c.trans (I.mono c.size)) Z
  refine⟨fun a w c d K g=>?_,?_⟩
  ·obtain⟨f,-⟩:=d
   conv at f=>whnf;rhs;whnf
   go_simp;exact g _ _ Zr c Z
  refine⟨fun a w c d K g=>?_,?_⟩
  ·obtain⟨f,i,-⟩:=d
   conv at f=>whnf;rhs;whnf
   conv at i=>whnf;rhs;whnf
   go_simp;exact g _ _ Zr c Z
  trivial
theorem Qh0 {s:JSt}{a:List (TT 6)}{t:TT 6}(b:l[k]?=some x) (c:a[k]?=some t) :
 QE (fun p:Int × TT 6=>s.arg regs p.1 p.2) ((l.zip a).drop k)=if s.arg regs x t=0 then QE (fun p:Int × TT 6=>s.arg regs p.1 p.2) ((l.zip a).drop (k+1)) else s.arg regs x t:=by
 have d:k<(l.zip a).length:=by
  rw[List.length_zip]
  have:=(Zi b).1
  have:=(Zi c).1
  omega
 have e:(l.zip a)[k]=(x,t):=by
  rw[List.getElem_zip]
  exact Prod.ext (Zi b).2 (Zi c).2
 rw[List.drop_eq_getElem_cons d,e,QE]
 by_cases h:s.arg regs x t=0
 ·rw[Xs h,Xr (by simpa using h)]
 ·rw[Xr h,Xs h]
theorem Qdz {Q1 Q2 Q3:Nat->Prop}{s:JSt}{a:List (TT 6)}{la ta:Option Addr}{lc M tc K:Nat}(hN:l.length=N) (hM:a.length=M) (hK:regs.length=K) (a8:N<=100000) (a9:M<=100000) (hL:s.L.length<=80)
 (hl:intsL.In w Q1 l [.slice la N lc]) (ht:(Qi 6).In w Q2 a [.slice ta M tc]) (hr:intsL.In w Q3 regs [.slice ra K rc]) (hc:∀ t∈a,t.count<=2000) (h:KAt w b O s) :
 Calls prog 85 #[.pointer (some ⟨b,0,none⟩),.slice la N lc,.slice ta M tc,.slice ra K rc] w fun e w'=>e=.returned (.int .i64 (s.args l a regs))/\Below w.heap.size w w':=by
 have T:Hid (l.length=N):=hN;have HM:Hid (a.length=M):=hM;have HK:Hid (regs.length=K):=hK;have HL:Hid (intsL.In w Q1 l [.slice la N lc]):=hl;have HT:Hid ((Qi 6).In w Q2 a [.slice ta M tc]):=ht;have HR:Hid (intsL.In w Q3 regs [.slice ra K rc]):=hr;have HC:Hid (∀ t∈a,t.count<=2000):=hc;obtain⟨pm,cm,a1,c1,a2,c2,a3,c3,hh,aL,cL,R⟩:=h.read
 have HD:Hid (TRd w (fun g=>¬ O g) aL s.L):=R.row;obtain⟨-,-,-,-,-,-,q6⟩:=R.cells
 clear hN hM hK hl ht hr hc h R;by_cases ae:N=M
 ·subst ae;have V:((N:Int)==(N:Int))=true:=beq_iff_eq.2 Z
  have EA:Hid (s.args l a regs=QE (fun p:Int × TT 6=>s.arg regs p.1 p.2) ((l.zip a).drop 0)):=by
   show _=_;unfold JSt.args;rw[Xs (by rw[T.out,HM.out])];rfl
  go_enter func85,ntmps85
  go_wp2_with fail
  go_loopw [9] (fun i wr=>∃ k:Nat,k<=N/\i=.int .i64 k/\s.args l a regs=QE (fun p:Int × TT 6=>s.arg regs p.1 p.2) ((l.zip a).drop k)/\Below w.heap.size w wr) (fun i _=>N - (intOf i).toNat)
  case atStart=>exact⟨0,Xb _,Z,EA.out,Zr⟩
  case round =>
   obtain⟨k,hk,rfl,hE,hB⟩:=hrel
   have U:Hid (s.args l a regs=QE (fun p:Int × TT 6=>s.arg regs p.1 p.2) ((l.zip a).drop k)):=hE;have C:Hid (Below w.heap.size w wr):=hB;have G:wr.cell? ⟨b,6,none⟩=some (.slice aL s.L.length cL):=Qp q6 hB;clear hE hB EA;by_cases D:k<N
   ·have q:l[k]?=some (l[k]'(by rw[T.out];exact D)):=Zg _;generalize l[k]'(by rw[T.out];exact D)=x at q;have m:a[k]?=some (a[k]'(by rw[HM.out];exact D)):=Zg _;generalize a[k]'(by rw[HM.out];exact D)=t at m;obtain⟨lg,lo,rfl,-,-,Q⟩:=ZK HL.out (i:=k) (by rw[T.out];exact D)
    have ex:l.getD k 0=x:=by simp[List.getD,q]
    rw[ex] at Q
    have z0:wr.cell? ⟨lg,lo+k,none⟩=some (.int .i64 x):=Qp Q C.out;have ar:(k:Int)<N:=by omega
    have a7:(0:Int)<=k:=by omega
    have z:=Qh0 (s:=s) (regs:=regs) q m;clear Q ex;by_cases y:x<0
    ·have E:Hid (s.args l a regs=1):=by
      show _=_
      have:s.arg regs x t=1:=by unfold JSt.arg JSt.at;rw[Xs y]
      rw[U.out,z,this];rfl
     have ah:decide (x<0)=true:=by simpa using y
     clear z q m;generalize s.L.length=nl at G hL;go_wp2_with fail
     go_quiet (fail)
     go_wp2
     go_ret;exact⟨by rw[E.out];rfl,Qg C.out _⟩
    obtain⟨j,rfl⟩:=Xc (show 0<=x by omega)
    have ah:decide ((j:Int)<0)=false:=Xu (by omega);by_cases P:j<s.L.length
    ·have H:s.L[j]?=some s.L[j]:=Zg P;generalize s.L[j]=v at H;have am:s.at (j:Int)=some v:=by unfold JSt.at;rw[Xr y];exact H
     obtain⟨gL,va,vc,rfl,v0,v1,v2,v3,-⟩:=(HD.out.below C.out) j v H
     obtain⟨tl,ab⟩:=QK (Ya HT.out C.out)
     obtain⟨tg,ba,ag,ay,rfl,-,t0,t1,t2,t3⟩:=LIn.at tl m
     have ad:(j:Int)<s.L.length:=by omega
     have F:decide ((s.L.length:Int)<=j)=false:=Xu (by omega);have aj:Hid (TIn wr All t ag):=t3.all;have HV:Hid (TIn wr (fun g=>¬ O g) v va):=v3;have ao:Hid (t.count<=2000):=HC.out t (Zm m);have az:Hid (Qhp wr ra K (fun i=>regs.getD i 0)):=(QkI HK.out HR.out).below C.out
     have c:Hid (s.arg regs (j:Int) t=if bdec (t.ren K (fun i=>regs.getD i 0)=some v) then 0 else 9):=by
      show _=_;unfold JSt.arg;rw[am,HK.out]
     have A:=Qa z;clear z q m tl ab t3 v3 am H y;generalize s.L.length=nl at G hL P ad F;go_wp2_with fail
     go_quiet (fail)
     go_wp2_with fail
     refine(renamedT_any 6 t ag ay ra K rc (fun i=>regs.getD i 0) (wr.drewN nq) (aj.out.drewN nq) ao.out (az.out.below (Qg Zr nq))).mono ?_
     intro e2 J hO
     cases hren:t.ren K (fun i=>regs.getD i 0) with
     | none =>
       rw[hren] at hO
       obtain⟨rfl,W⟩:=hO
       have E:Hid (s.args l a regs=9):=by
        show _=_
        have:s.arg regs (j:Int) t=9:=by rw[c.out,hren,Qh (by simp)];rfl
        rw[U.out,A.out,this];rfl
       have B2:Hid (Below w.heap.size w J):=(Qg C.out nq).trans (W.mono (by simpa using C.out.size));clear c A hren W;go_wp2_with fail
       go_quiet (fail)
       go_wp2
       go_ret;exact⟨by rw[E.out];rfl,Qg (B2.out.alloc B2.out.size _) _⟩
     | some u =>
       rw[hren] at hO
       obtain⟨ua,uc,rfl,u1,W⟩:=hO
       have f:Below wr.heap.size wr J:=(Qg Zr nq).trans W;have B2:Hid (Below w.heap.size w J):=C.out.trans (f.mono C.out.size);have an:Hid (TIn J (ZJ wr.heap.size) u ua):=u1;have ap:Hid (TIn J (fun g=>¬ O g) v va):=HV.out.below f;have au:Hid (u.count<=100000):=by show _<=_;rw[TT.ren_count hren];have:=ao.out;omega
       have af:=Qp G f;have ak:=Qp z0 f;have ac:=Qp v0 f;have ai:=Qp v1 f;have al:=Qp v2 f;have o:Hid (t.ren K (fun i=>regs.getD i 0)=some u):=hren;clear hren u1 W f G z0 v0 v1 v2 t0 t1 t2 HV aj;go_upto_region 9 with fail
       obtain⟨S,I⟩:∃ S,J.alloc (.cells #[.int .i64 u.kind,.int .i64 u.r,.slice ua u.len uc] 70)=S:=⟨_,Z⟩
       obtain⟨X,hX⟩:∃ X,J.heap.size=X:=⟨_,Z⟩
       have n:S.heap[X]?=some (.cells #[.int .i64 u.kind,.int .i64 u.r,.slice ua u.len uc] 70 (0,0)):=by rw[<-I,<-hX];exact Qm _ _ _
       have d:Below J.heap.size J S:=by rw[<-I];exact QU _ _
       have x0:=Qb n 0 _ Z;have x1:=Qb n 1 _ Z;have x2:=Qb n 2 _ Z;have aw:Hid (TIn S (ZJ wr.heap.size) u ua):=an.out.below d;have a0:Hid (TIn S (fun g=>¬ O g) v va):=ap.out.below d;have B6:Hid (Below w.heap.size w S):=B2.out.trans (d.mono B2.out.size);have a5:=Qp af d;have ax:=Qp ak d;have av:=Qp ac d;have a4:=Qp ai d;have aq:=Qp al d;rw[I,hX]
       clear I hX n d af ak ac ai al an ap;have HQ:Hid (bdec (u=v)=true↔u=v):=Zj;refine Code.wp_mono ?_ (k9 x0 x1 x2 a5 ax av a4 aq ar ad aw a0 au HQ _ _ Z (Xg (by kernel_rfl)) Z Z Z Z Z);rintro ee aa w7 ⟨rfl,vs,rfl,hv,hb⟩;simp only[Zn,Act.put,List.setIfInBounds_toArray,List.set_cons_zero,List.set_cons_succ,hv]
       have B7:Hid (Below w.heap.size w w7):=B6.out.trans (hb.mono B6.out.size);clear hb hv;by_cases B:u=v
       ·have E:Hid (s.args l a regs=QE (fun p:Int × TT 6=>s.arg regs p.1 p.2) ((l.zip a).drop (k+1))):=by
         show _=_
         have:s.arg regs (j:Int) t=0:=by rw[c.out,o.out,Qs (by rw[B])];rfl
         rw[U.out,A.out,Xs this]
        rw[Qs B]
        clear B c A o HQ;go_wp2
        go_roundw
        case rel=>exact⟨k+1,by omega,by go_num,E.out,B7.out⟩
        case measure=>simp[intOf];omega
       ·have E:Hid (s.args l a regs=9):=by
         show _=_
         have:s.arg regs (j:Int) t=9:=by rw[c.out,o.out,Qh (fun e=>B (Xn e))];rfl
         rw[U.out,A.out,this];rfl
        rw[Qh B]
        clear B c A o HQ;go_wp2
        go_ret;exact⟨by rw[E.out];rfl,B7.out⟩
    ·have E:Hid (s.args l a regs=1):=by
      show _=_
      have:s.arg regs (j:Int) t=1:=by
       unfold JSt.arg JSt.at;rw[Xr y,XT,Xk (by omega)]
      rw[U.out,z,this];rfl
     have F:decide ((s.L.length:Int)<=j)=true:=Xt (by omega);clear z q m y;generalize s.L.length=nl at G hL P F;go_wp2_with fail
     go_quiet (fail)
     go_wp2
     go_ret;exact⟨by rw[E.out];rfl,Qg C.out _⟩
   ·have E:Hid (s.args l a regs=0):=by
     show _=_;rw[U.out,List.drop_of_length_le (by rw[List.length_zip,T.out];omega)]
     rfl
    have a6:¬ (k:Int)<N:=by omega
    go_wp2
    go_ret;exact⟨by rw[E.out];rfl,C.out⟩
 ·have E:Hid (s.args l a regs=2):=by
   show _=_;unfold JSt.args;rw[Xr (by rw[T.out,HM.out];exact ae)]
  have V:((N:Int)==(M:Int))=false:=beq_eq_false_iff_ne.2 (by omega);go_enter func85,ntmps85
  go_wp2
  go_ret;exact⟨by rw[E.out];rfl,Zr⟩
theorem Xv:type_of% @of_decide_eq_true:=@of_decide_eq_true
theorem XG:type_of% @Nat.not_lt_zero:=@Nat.not_lt_zero
abbrev toV (x:MTo) (rg ag:Option Addr) (rc ac:Nat):Value:=.agg #[.int .i64 x.block,.slice rg x.regs.length rc,.slice ag x.args.length ac]
theorem underBk:∃ fs,prog.underlying 60=some (.struct fs):=⟨_,underlying60⟩
theorem sizeBk:(prog.info? 60).map (·.size)=some 12:=by kernel_rfl
theorem Qas {m:List (Qe 6)}(h:(Zy 6).list.In w Q m [.slice p n c]){g:Qe 6}(r:m[k]?=some g) :
 ∃ mg mo a1 c1 es,p=some ⟨mg,mo,none⟩/\w.rangeAt mg (mo+k*12) (.int .i64 g.regs::.slice a1 g.params.length c1::es)/\es.length=10/\(Qi 6).In w Q g.params [.slice a1 g.params.length c1]/\∀ v∈es,v.oneCell'=true:=by
 obtain⟨mg,mo,I,u,S,O,f,q⟩:=Yf h r
 obtain⟨a1,c1,F,c2,es,rfl,C,K,A,V⟩:=Qct q
 obtain⟨M,d2,U,J,rfl,s,D,P,h6⟩:=QgH A
 obtain⟨W,R,L,T,rfl,-,-,-⟩:=Qf2 s
 obtain⟨G,N,X,H,rfl,-,-,-⟩:=Qf2 D
 have d:∀ a,a.length=12->(∀ v∈a,v.oneCell'=true)->(∀ j,j<12->w.cell? ⟨mg,mo+k*12+j,none⟩=a[j]?)->∀ x y es,a=x::y::es->w.rangeAt mg (mo+k*12) (x::y::es)/\es.length=10/\∀ v∈es,v.oneCell'=true:=by
  intro a o B f x y es e;subst e;refine⟨fun j v i=>?_,by simpa using o,fun v b=>B v (by simp[b])⟩
  have l:=(Zi i).1;rw[f j (by omega),i]
 obtain⟨t,z,E⟩:=d _ Z (fun v b=>by
  simp only[List.mem_cons,List.cons_append,List.nil_append,List.not_mem_nil,or_false] at b
  rcases b with rfl | rfl | rfl | rfl | rfl | rfl | rfl | rfl | rfl | rfl | rfl | rfl<;>rfl) f _ _ _ Z
 exact⟨mg,mo,a1,c1,_,u,t,z,C,E⟩
theorem ZD (h:w.rangeAt b o cs) (k:Below w.heap.size w w'):w'.rangeAt b o cs:=fun j v a=>Qp (h j v a) k
def Qlu (w6:World) (b X mg mo nb cb k:Nat) (ds:List Value) (t:Tmp) (v:Value) (w:World):Prop :=
 match ([(5,fun v w=>∃ B,v=.pointer (some ⟨B,0,none⟩)/\w6.heap.size<=B/\∃ c,c.size=12/\Blk w B c 60)]:List (Tmp × (Value->World->Prop))).lookup t with
 | some p=>p v w
 | none=>v=(([(0,.pointer (some ⟨b,0,none⟩)),(3,.pointer (some ⟨X,0,none⟩)),(8,.pointer (some ⟨b,0,none⟩)),(9,.pointer (some ⟨b,0,none⟩)),(10,.pointer (some ⟨b,1,none⟩)),(11,.pointer (some ⟨b,4,none⟩)),(12,.slice (some ⟨mg,mo,none⟩) nb cb),(13,.pointer (some ⟨X,0,none⟩)),(14,.int .i64 (k:Int)),(15,.pointer (some ⟨mg,mo+k*12,none⟩)),(16,.agg ds.toArray)]:List (Tmp × Value)).lookup t).getD undef
theorem kt1 {o l x z:Nat}(G:w6.cell? ⟨b,4,none⟩=some (.slice (some ⟨o,l,none⟩) x z)) (A:w6.cell? ⟨X,0,none⟩=some (.int .i64 (k:Int))) (C:Hid (w6.rangeAt o (l+k*12) ds)) (u:ds.length=12) (I:(k:Int)<x){Q:Exit->Act->World->Prop}
 (a:Act) (m:Nat) (E:a.tmps.size=m) (r:57<=m) (F:a.tmps.getD 0 undef=.pointer (some ⟨b,0,none⟩)) (s:a.tmps.getD 3 undef=.pointer (some ⟨X,0,none⟩))
 (hend:∀ ops vs w',vs 16=.agg ds.toArray->(fun v w=>∃ B,v=.pointer (some ⟨B,0,none⟩)/\w6.heap.size<=B/\∃ c,c.size=12/\Blk w B c 60) (vs 5) w'->Below w6.heap.size w6 w'->wpList prog ops Q (Qdh 10 ((Tryz.f83.body.bind (Qo 1)).getD .skip)) (Zn a vs [8,9,10,11,12,13,14,15,16,5]) w') :
 Code.wp prog ((Tryz.f83.body.bind (Qo 1)).getD .skip) Q a w6:=by
 conv=>arg 2;whnf
 refine Qw 10 (Qlu w6 b X o l x z k ds) (fun w=>Below w6.heap.size w6 w) (fun w w'=>Below w.heap.size w w') (outs:=[0,3]) (gs:=[]) (bs:=[true,true,true,true,true,true,true,true,true,true]) (by kernel_rfl) (n:=57) E r (by kernel_rfl) (by kernel_rfl) ?hR ?hG (Qg Zr 1) ⟨F,s,Y⟩ ?hA ?hend
 case hR =>
  intro t v w w' J h;unfold Qlu at h |-;split at h
  ·rename_i p j
   simp only[List.lookup_cons,List.lookup_nil] at j
   split at j
   ·cases j;exact(by obtain⟨B,e,H,c,s,y⟩:=h;exact⟨B,e,H,c,s,(J.block B (XC y)).trans y⟩)
   ·cases j
  ·exact h
 case hG=>exact Y
 case hend=>exact fun ops vs w' d f=>hend ops vs w' (f 16 (by kernel_rfl)) (f 5 (by kernel_rfl)) d
 case hA =>
  iterate 7
   refine⟨fun a w d f K g=>?_,?_⟩
   ·obtain⟨i,-⟩:=f
    conv at i=>whnf;rhs;whnf
    have L:=Qp G d;have N:=Qp A d;go_simp;exact g _ _ Zr d Z
  refine⟨fun a w d f K g=>?_,?_⟩
  ·obtain⟨i,D,-⟩:=f
   conv at i=>whnf;rhs;whnf
   conv at D=>whnf;rhs;whnf
   go_simp;exact g _ _ Zr d Z
  refine⟨fun a w d f K g=>?_,?_⟩
  ·obtain⟨i,-⟩:=f
   conv at i=>whnf;rhs;whnf
   obtain⟨M,q⟩:=underBk
   refine wp_load_mid 60 (.tmp 15) Z o (l+k*12) i ds _ (ZD C.out d) q Z (by rw[u];exact sizeBk) ?_;exact g _ _ Zr d Z
  refine⟨fun a w d f K g=>?_,?_⟩
  ·clear f;go_simp;exact g _ _ (QU _ _) (d.alloc d.size _) ⟨_,Z,d.size,_,Z,Qm _ _ _⟩
  trivial
def Ql6 (b X hh kn rc:Nat) (rg:Option Addr) (p:Int) (t:Tmp) (v:Value) (w:World):Prop :=
 v=(([(0,.pointer (some ⟨b,0,none⟩)),(3,.pointer (some ⟨X,0,none⟩)),(39,.pointer (some ⟨b,0,none⟩)),(40,.pointer (some ⟨b,0,none⟩)),(41,.pointer (some ⟨b,5,none⟩)),(42,.pointer (some ⟨hh,0,none⟩)),(43,.pointer (some ⟨X,1,none⟩)),(44,.slice rg kn rc),(45,.int .i64 p),(7,.int .i64 p)]:List (Tmp × Value)).lookup t).getD undef
theorem kt9 {o f:Nat}{q:Option Addr}{p:Int}{H:List Bool}(A:w6.cell? ⟨b,5,none⟩=some (.pointer (some ⟨o,0,none⟩))) (s:w6.cell? ⟨X,1,none⟩=some (.slice q f rc)) (G:f<=16) (j:f<=rc) (D:H.length<=100000) (C:Hid (l.length=f)) (x:Hid (intsL.In w6 Q l [.slice q f rc])) (u:Hid (Qr w6 o O H)) (F:Hid (hPass H [] l=p))
 (a:Act) (m:Nat) (z:a.tmps.size=m) (k:57<=m) (B:a.tmps.getD 0 undef=.pointer (some ⟨b,0,none⟩)) (E:a.tmps.getD 3 undef=.pointer (some ⟨X,0,none⟩)) :
 Code.wp prog ((Tryz.f83.body.bind (Qo 9)).getD .skip) (fun e a' w'=>e=.normal/\∃ vs,a'=Zn a vs [39,40,41,42,43,44,45,7]/\vs 7=.int .i64 p/\Below w6.heap.size w6 w') a w6:=by
 conv=>arg 2;whnf
 refine QD (Ql6 b X o f rc q p) (fun w=>Below w6.heap.size w6 w) (fun w w'=>Below w.heap.size w w') (outs:=[0,3]) (gs:=[]) (bs:=[true,true,true,true,true,true,true,true]) (by kernel_rfl) (n:=57) z k (by kernel_rfl) ?hR ?hG (Qg Zr 1) ⟨B,E,Y⟩ ?hA ?hend
 case hR=>exact fun t v w w' _ h=>h
 case hG=>exact Y
 case hend=>exact fun vs w' c d=>⟨Z,vs,Z,d 7 (by kernel_rfl),c⟩
 case hA =>
  iterate 6
   refine⟨fun a w c d K i=>?_,?_⟩
   ·obtain⟨g,-⟩:=d
    conv at g=>whnf;rhs;whnf
    have I:=Qp A c;have L:=Qp s c;go_simp;exact i _ _ Zr c Z
  refine⟨fun a w c d K i=>?_,?_⟩
  ·obtain⟨g,y,-⟩:=d
   conv at g=>whnf;rhs;whnf
   conv at y=>whnf;rhs;whnf
   go_simp;refine(Qg4 C.out (by omega) j D (Ya x.out c) (u.out.below c)).mono ?_;rw[F.out];rintro M J ⟨rfl,r⟩
   go_simp;exact i _ _ r (c.trans (r.mono c.size)) Z
  refine⟨fun a w c d K i=>?_,?_⟩
  ·obtain⟨g,-⟩:=d
   conv at g=>whnf;rhs;whnf
   go_simp;exact i _ _ Zr c Z
  trivial
theorem Qhu (h:∀ i,i<n->regs.getD i 0=(i:Int)):QbX n regs=0:=by
 unfold QbX;rw[Xs (Xe.2 fun i a=>Xt (h i (by simpa using a)))]
theorem QhL (a:i<n) (h:regs.getD i 0≠(i:Int)):QbX n regs=11:=by
 unfold QbX;rw[Xr]
 intro b
 have:=Xe.1 b i (by simpa using a)
 exact h (Xv this)
theorem QfO {QR QA:Nat->Prop}{s:JSt}{x:MTo}{I:Option Addr}(hJ:JOk s) (h:KAt w b O s) (r:intsL.In w QR x.regs [.slice I x.regs.length rc]) (u:intsL.In w QA x.args [.slice ag x.args.length ac]) (S:x.regs.length<=rc) (J:x.regs.length<=16) (br:x.args.length<=8) (ax:0<=x.block/\x.block<s.f.blocks.length) :
 Calls prog 83 #[.pointer (some ⟨b,0,none⟩),toV x I ag rc ac] w fun e w'=>e=.returned (.int .i64 (s.to x))/\Below w.heap.size w w':=by
 have HJ:=Qa hJ;obtain⟨xb,a,d⟩:=x
 simp only at r u S J br ax
 obtain⟨k,rfl⟩:=Xc ax.1
 have bj:k<s.f.blocks.length:=by omega
 have G:s.f.blocks[k]?=some s.f.blocks[k]:=Zg bj;generalize s.f.blocks[k]=g at G;have b1:=QU w (.cells #[.int .i64 (k:Int),.slice I a.length rc,.slice ag d.length ac] 56);have ab:=Qm w #[.int .i64 (k:Int),.slice I a.length rc,.slice ag d.length ac] 56;have K1:=Qa (h.below b1);have av:Hid (intsL.In (w.alloc (.cells #[.int .i64 (k:Int),.slice I a.length rc,.slice ag d.length ac] 56)) QR a [.slice I a.length rc]):=Ya r b1;have ay:Hid (intsL.In (w.alloc (.cells #[.int .i64 (k:Int),.slice I a.length rc,.slice ag d.length ac] 56)) QA d [.slice ag d.length ac]):=Ya u b1;have M:=Qa b1;have A:=Qa ab;clear h r u b1 ab hJ;go_enter func83,ntmps83
 go_upto_region 1 with fail
 obtain⟨X,hX⟩:∃ X,w.heap.size=X:=⟨_,Z⟩
 generalize bs:w.alloc (.cells #[.int .i64 (k:Int),.slice I a.length rc,.slice ag d.length ac] 56)=w1 at K1 av ay M A |-;rw[hX] at A
 rw[hX]
 clear bs hX;have x0:=Qb A.out 0 _ Z;have x1:=Qb A.out 1 _ Z;have x2:=Qb A.out 2 _ Z;obtain⟨pm,cm,a1,c1,a2,c2,a3,c3,hh,aL,cL,R⟩:=K1.out.read
 obtain⟨-,q1,-,-,q4,q5,-⟩:=R.cells
 obtain⟨fa,fc,fb,fd,fe,ff,bb,-,-,bf,-⟩:=Z3 R.fn
 simp only[List.cons.injEq,Value.slice.injEq,and_true,true_and] at bb
 obtain⟨-,-,rfl,rfl⟩:=bb
 obtain⟨mg,mo,m,l,C,rfl,y,bg,ad,ae⟩:=Qas bf G
 have bl:=Qa y;have ak:Hid ((Qi 6).In w1 (fun g=>¬ O g) g.params [.slice m g.params.length l]):=ad;have bn:Hid (Qr w1 hh O s.H):=R.holds;have a0:Hid (C.length=10):=bg;have af:=Qa ae;have bo:(k:Int)<s.f.blocks.length:=by omega
 have N:=Qa (HJ.out.mod.2 s.f HJ.out.fn);have a6:Hid (g∈s.f.blocks):=Zm G;have aw:=Qa (N.out.blocks g a6.out);have bc:Hid (¬ Qe.great g):=fun hg=>HJ.out.tiny (.inr ⟨s.f,HJ.out.fn,.inr (.inr (.inr ⟨g,a6.out,hg⟩))⟩);have b3:Hid (∀ t∈g.params,t.count<=2000):=fun t ht=>Xo fun P=>bc.out (.inr (.inl (.inr ⟨t,ht,P⟩)))
 have E:Hid (s.to ⟨(k:Int),a,d⟩=if (a.length:Int)=g.regs then code2 (QbX s.f.regs.toNat a) (code2 (hPass s.H [] a) (s.args d g.params a)) else 2):=by
  show _=_;unfold JSt.to;simp only[Int.toNat_natCast,G]
 clear R bf y ad ae bg G ax;generalize ce:s.f.blocks.length=nb at q4 bj bo;refine kt1 q4 x0 bl (by simp[a0.out]) bo _ _ Z (Xg (by kernel_rfl)) Z Z ?_;rintro bx vs p aj ⟨B,bk,hB,cB,a9,T⟩ b5;show wpList _ bx _ [_] (Zn _ vs [8,9,10,11,12,13,14,15,16,5]) p;simp only[Zn,Act.put,List.setIfInBounds_toArray,List.set_cons_zero,List.set_cons_succ,aj,bk]
 have c:(Value.int .i64 g.regs::Value.slice m g.params.length l::C).length=12:=by simp[a0.out]
 have TH:Hid (p.there B 0 (Value.int .i64 g.regs::Value.slice m g.params.length l::C).toArray.size):=by
  intro j hj;rw[List.size_toArray,c] at hj
  rw[XK]
  refine⟨?_,Qn T j⟩
  rw[Qb T j cB[j] (by simp)];rfl
 have TS:Hid ((prog.info? 60).map (·.size)=some (Value.int .i64 g.regs::Value.slice m g.params.length l::C).toArray.size):=by show _=_;rw[List.size_toArray,c];exact sizeBk
 have TO:Hid ((Value.int .i64 g.regs::Value.slice m g.params.length l::C).toArray.all (·.oneCell')=true):=by
  refine all_oneCell_toArray fun v W=>?_;simp only[List.mem_cons] at W
  rcases W with rfl | rfl | W
  ·rfl
  ·rfl
  ·exact af.out v W
 have B6:Hid (Blk (p.setCells B 0 (Value.int .i64 g.regs::Value.slice m g.params.length l::C).toArray.toList) B (Value.int .i64 g.regs::Value.slice m g.params.length l::C).toArray 60):=by
  have h0:Blk p B ([]++cB.toList).toArray 60:=by rw[List.nil_append,Array.toArray_toList];exact T
  have:=Blk.sets (Value.int .i64 g.regs::Value.slice m g.params.length l::C) [] cB.toList p (by rw[c];simp[a9]) h0
  exact this
 have z:Hid (Below w1.heap.size w1 (p.setCells B 0 (Value.int .i64 g.regs::Value.slice m g.params.length l::C).toArray.toList)):=by
  have:=Zw.setCells (O:=fun k=>k=B) (O':=fun k=>k=B) (b:=B) Z (Value.int .i64 g.regs::Value.slice m g.params.length l::C).toArray.toList 0 _ (Zw.refl _ p)
  exact b5.trans (this.below b5.size (fun k hk=>by omega))
 clear T hB a9 b5 aj bk c;generalize a7:g.regs=L at E aw B6 z TH TS TO |-;have b7:Hid (g.regs=L):=a7;generalize bd:g.params.length=n1 at ak B6 z TH TS TO |-;have be:Hid (g.params.length=n1):=bd;have y0:(p.setCells B 0 (Value.int .i64 L::Value.slice m n1 l::C).toArray.toList).cell? ⟨B,0,none⟩=some (.int .i64 L):=Qb B6.out 0 _ Z;have y1:(p.setCells B 0 (Value.int .i64 L::Value.slice m n1 l::C).toArray.toList).cell? ⟨B,1,none⟩=some (.slice m n1 l):=Qb B6.out 1 _ Z;generalize b4:(Value.int .i64 L::Value.slice m n1 l::C).toArray=o at B6 z TH TS TO y0 y1 |-;have K6:=Qa (K1.out.below z.out);have n:Hid (intsL.In (p.setCells B 0 o.toList) QR a [.slice I a.length rc]):=Ya av.out z.out;have a4:Hid (intsL.In (p.setCells B 0 o.toList) QA d [.slice ag d.length ac]):=Ya ay.out z.out;have aq:Hid ((Qi 6).In (p.setCells B 0 o.toList) (fun g=>¬ O g) g.params [.slice m n1 l]):=Ya ak.out z.out;have al:Hid (Qr (p.setCells B 0 o.toList) hh O s.H):=bn.out.below z.out;have BW:Hid (Below w.heap.size w (p.setCells B 0 o.toList)):=M.out.trans (z.out.mono M.out.size);obtain⟨K,ao⟩:=Xc N.out.regs.1
 have ca:K<=6:=by have:=N.out.regs.2;omega
 have bw:Hid ((K:Int)<=L):=by have:=aw.out.regs.1;rw[ao,b7.out] at this;exact this
 rw[ao] at q1 E
 rw[XT] at E
 have bm:=Qp q1 z.out;have an:=Qp q5 z.out;have D:=Qp x1 z.out;have ar:=Qp x2 z.out;clear a7 bd ao b4 K1 av ay ak bn M z B6 q1 q4 q5 x0 x1 x2 a0 af N bc A bl;go_upto_region 2 with (refine wpList_store_mid Z 60 (.tmp 5) (.tmp 16) Z B 0 o Z Z TH.out TS.out TO.out ?_)
 clear TH TS TO;generalize p.setCells B 0 o.toList=w6 at K6 n a4 aq al BW bm an D ar y0 y1 |-;have ba:Hid (a.length=a.length):=rfl;by_cases hg:(a.length:Int)=L
 rotate_left
 ·have E2:Hid (s.to ⟨(k:Int),a,d⟩=2):=by show _=_;rw[E.out,Xr hg]
  have ap:((a.length:Int) != L)=true:=by simpa using hg
  clear E hg ba;generalize a.length=kn at D n S J ap;go_wp2_with fail
  go_ret;exact⟨by rw[E2.out];rfl,BW.out⟩
 have E2:Hid (s.to ⟨(k:Int),a,d⟩=code2 (QbX K a) (code2 (hPass s.H [] a) (s.args d g.params a))):=by show _=_;rw[E.out,Xs hg]
 have b9:K<=a.length:=by have:=bw.out;omega
 have ap:((a.length:Int) != L)=false:=by simpa using hg
 have HX:Hid (∀ i,i<a.length->∃ am ro,I=some ⟨am,ro,none⟩/\w6.cell? ⟨am,ro+i,none⟩=some (.int .i64 (a.getD i 0))):=fun i hi=>by
  obtain⟨a1,a2,e1,-,-,e2⟩:=ZK n.out hi
  exact⟨a1,a2,e1,e2⟩
 have bi:Hid (∃ kn,a.length=kn):=⟨_,Z⟩;clear E hg ba;obtain⟨kn,F⟩:=bi.out
 have V:Hid (a.length=kn):=F;rw[F] at D n S J ap HX b9
 clear F bi;go_wp2_with fail
 go_loopw [6] (fun i wr=>∃ q:Nat,q<=K/\i=.int .i64 q/\wr=w6/\∀ j,j<q->a.getD j 0=(j:Int)) (fun i _=>K - (intOf i).toNat)
 case atStart=>exact⟨0,Xb _,Z,Z,fun j hj=>absurd hj (XG _)⟩
 case round =>
  obtain⟨q,hq,rfl,hw,ai⟩:=hrel
  subst hw;have ah:Hid (∀ j,j<q->a.getD j 0=(j:Int)):=ai;clear ai;by_cases P:q<K
  ·obtain⟨am,ro,rfl,bv⟩:=HX.out q (by omega)
   have bh:(q:Int)<K:=by omega
   have cb:(q:Int)<kn:=by omega
   have HV:Hid (a.getD q 0=a.getD q 0):=rfl;obtain⟨v,W⟩:∃ v,a.getD q 0=v:=⟨_,Z⟩
   have HV:Hid (a.getD q 0=v):=W;rw[W] at bv
   clear W;by_cases Q:v=(q:Int)
   ·have a8:(v != (q:Int))=false:=by simpa using Q
    go_wp2_with fail
    go_roundw
    case rel =>
     refine⟨q+1,by omega,by go_num,by first | rfl | trivial,fun j hj=>?_⟩
     by_cases b2:j<q
     ·exact ah.out j b2
     ·have:j=q:=by omega
      subst this;rw[HV.out,Q]
    case measure=>simp[intOf];omega
   ·have a8:(v != (q:Int))=true:=by simpa using Q
    have E3:Hid (s.to ⟨(k:Int),a,d⟩=11):=by
     show _=_;rw[E2.out,QhL P (by rw[HV.out];exact Q)];rfl
    clear E2;go_wp2_with fail
    go_ret;exact⟨by rw[E3.out];rfl,BW.out⟩
  ·have bu:q=K:=by omega
   subst bu
   have E3:Hid (s.to ⟨(k:Int),a,d⟩=code2 (hPass s.H [] a) (s.args d g.params a)):=by
    show _=_;rw[E2.out,Qhu ah.out];rfl
   have bh:decide ((q:Int)<q)=false:=Xu (by omega);clear E2 HX P;go_upto_region 9 with fail
   obtain⟨pc,au⟩:∃ pc,hPass s.H [] a=pc:=⟨_,Z⟩
   have bp:=Qa au;rw[au] at E3
   clear au;refine Code.wp_mono ?_ (kt9 an D (by omega) S (by have:=HJ.out.regs;omega) V n al bp _ _ Z (Xg (by kernel_rfl)) Z Z);rintro ee aa w7 ⟨rfl,vs,rfl,a5,U⟩;simp only[Zn,Act.put,List.setIfInBounds_toArray,List.set_cons_zero,List.set_cons_succ,a5]
   have az:Hid (Below w.heap.size w w7):=BW.out.trans (U.mono BW.out.size);have K7:=Qa (K6.out.below U);have bt:Hid (intsL.In w7 QR a [.slice I kn rc]):=Ya n.out U;have bz:Hid (intsL.In w7 QA d [.slice ag d.length ac]):=Ya a4.out U;have b0:Hid ((Qi 6).In w7 (fun g=>¬ O g) g.params [.slice m n1 l]):=Ya aq.out U;have cg:=Qp D U;have cd:=Qp ar U;have cc:=Qp y1 U;clear U a5 K6 n a4 aq al BW D ar y1 y0 bm an;by_cases hp:pc=0
   rotate_left
   ·have cf:(pc != 0)=true:=by simpa using hp
    have E4:Hid (s.to ⟨(k:Int),a,d⟩=pc):=by show _=_;rw[E3.out];unfold code2;rw[Xr hp]
    clear E3;go_wp2_with fail
    go_ret;exact⟨by rw[E4.out];rfl,az.out⟩
   subst hp;have E4:Hid (s.to ⟨(k:Int),a,d⟩=s.args d g.params a):=by show _=_;rw[E3.out];rfl
   clear E3;go_wp2_with fail
   refine(Qdz Z be.out V.out (by omega) (by have:=aw.out.params.1;rw[be.out] at this;omega) HJ.out.vals bz.out b0.out bt.out b3.out K7.out).mono ?_
   rintro e w8 ⟨rfl,b8⟩;have bq:Hid (Below w.heap.size w w8):=az.out.trans (b8.mono az.out.size);go_wp2_with fail
   go_ret;exact⟨by rw[E4.out];rfl,bq.out⟩
theorem QI {p:Prop}(h:p):Hid p:=h
theorem Qky {a:World}(h:Below B a w) (n:Nat):Below B a (w.drewN n):=⟨h.os,h.tape,h.output,h.size,h.block⟩
structure FbS (w wx:World) (R:Nat) (l:List (Nat × Array Value × TypeId)):Prop where
 bel:Below w.heap.size w wx
 ge:w.heap.size<=R
 r:Blk wx R #[.int .i64 0,.int .i64 0] 30
 box:∀ (i:Nat) b,l[i]?=some b->Blk wx b.1 b.2.1 b.2.2
section
variable {w wx w':World}{R:Nat}{l:List (Nat × Array Value × TypeId)}
theorem FbS.below (h:FbS w wx R l) (k:Below wx.heap.size wx w'):FbS w w' R l :=
 ⟨h.bel.trans (k.mono h.bel.size),h.ge,h.r.below k,fun i b a=>(h.box i b a).below k⟩
theorem FbS.add (h:FbS w wx R l){c:Array Value}(d:Blk wx B c t):FbS w wx R ((B,c,t)::l) :=
 ⟨h.bel,h.ge,h.r,fun i b a=>by
  cases i with
  | zero=>cases a;exact d
  | succ i=>exact h.box i b a⟩
theorem FbS.new (h:FbS w wx R l) (c:Array Value) (t:TypeId):FbS w (wx.alloc (.cells c t)) R ((wx.heap.size,c,t)::l):=(h.below (QU _ _)).add (Blk.new _ _ _)
theorem FbS.start (w:World) (c:Array Value) (t:TypeId):FbS w ((w.alloc (.cells c t)).alloc (.cells #[.int .i64 0,.int .i64 0] 30)) (w.heap.size+1) [(w.heap.size,c,t)] :=
 FbS.add ⟨(QU w _).trans ((QU _ _).mono (QU w _).size),by omega,Blk.new2 ..,fun i b a=>by simp at a⟩ (Blk.new1 ..)
theorem FbS.cells (h:FbS w wx R l):wx.cell? ⟨R,0,none⟩=some (.int .i64 0)/\wx.cell? ⟨R,1,none⟩=some (.int .i64 0)/\wx.frozen? ⟨R,0,none⟩=false/\wx.frozen? ⟨R,1,none⟩=false :=
 ⟨Qb h.r 0 _ Z,Qb h.r 1 _ Z,Qn h.r 0,Qn h.r 1⟩
theorem FbS.fin (h:FbS w wx R l) (c a:Int):Blk ((wx.setCell ⟨R,0,none⟩ (.int .i64 c)).setCell ⟨R,1,none⟩ (.int .i64 a)) R #[.int .i64 c,.int .i64 a] 30/\Below w.heap.size w ((wx.setCell ⟨R,0,none⟩ (.int .i64 c)).setCell ⟨R,1,none⟩ (.int .i64 a)) :=
 ⟨by have:=Qq (Qq h.r 0 (.int .i64 c)) 1 (.int .i64 a);simpa using this,(h.bel.setCell (p:=⟨R,0,none⟩) h.ge _).setCell (p:=⟨R,1,none⟩) h.ge _⟩
structure Qld (wx:World) (cs:List Value):Prop where
 size:(prog.info? 60).map (·.size)=some cs.length
 size2:(prog.info? 60).map (·.size)=some cs.toArray.size
 there:(wx.alloc (.cells #[.int .i64 0,.slice none 0 0,.slice none 0 0,.int .i64 0,.int .i64 0,.int .i64 0,.slice none 0 0,.slice none 0 0,.int .i64 0,.slice none 0 0,.slice none 0 0,.slice none 0 0] 60)).there wx.heap.size 0 cs.toArray.size
 blk:Blk ((wx.alloc (.cells #[.int .i64 0,.slice none 0 0,.slice none 0 0,.int .i64 0,.int .i64 0,.int .i64 0,.slice none 0 0,.slice none 0 0,.int .i64 0,.slice none 0 0,.slice none 0 0,.slice none 0 0] 60)).setCells wx.heap.size 0 cs) wx.heap.size cs.toArray 60
 bel:Below wx.heap.size wx ((wx.alloc (.cells #[.int .i64 0,.slice none 0 0,.slice none 0 0,.int .i64 0,.int .i64 0,.int .i64 0,.slice none 0 0,.slice none 0 0,.int .i64 0,.slice none 0 0,.slice none 0 0,.slice none 0 0] 60)).setCells wx.heap.size 0 cs)
theorem Qld.of (a:World)(c:cs.length=12):Qld a cs:=by
 have d:=Qm a #[.int .i64 0,.slice none 0 0,.slice none 0 0,.int .i64 0,.int .i64 0,.int .i64 0,.slice none 0 0,.slice none 0 0,.int .i64 0,.slice none 0 0,.slice none 0 0,.slice none 0 0] 60;refine⟨by rw[c];exact pSizeB,by rw[List.size_toArray,c];exact pSizeB,fun j hj=>?_,?_,?_⟩
 ·rw[List.size_toArray,c] at hj
  rw[XK]
  refine⟨?_,Qn d j⟩
  rw[Qb d j ((#[.int .i64 0,.slice none 0 0,.slice none 0 0,.int .i64 0,.int .i64 0,.int .i64 0,.slice none 0 0,.slice none 0 0,.int .i64 0,.slice none 0 0,.slice none 0 0,.slice none 0 0]:Array Value)[j]'hj) (by simp)];rfl
 ·have e:Blk (a.alloc (.cells #[.int .i64 0,.slice none 0 0,.slice none 0 0,.int .i64 0,.int .i64 0,.int .i64 0,.slice none 0 0,.slice none 0 0,.int .i64 0,.slice none 0 0,.slice none 0 0,.slice none 0 0] 60)) a.heap.size ([]++(#[.int .i64 0,.slice none 0 0,.slice none 0 0,.int .i64 0,.int .i64 0,.int .i64 0,.slice none 0 0,.slice none 0 0,.int .i64 0,.slice none 0 0,.slice none 0 0,.slice none 0 0]:Array Value).toList).toArray 60:=d;exact Blk.sets cs [] (#[.int .i64 0,.slice none 0 0,.slice none 0 0,.int .i64 0,.int .i64 0,.int .i64 0,.slice none 0 0,.slice none 0 0,.int .i64 0,.slice none 0 0,.slice none 0 0,.slice none 0 0]:Array Value).toList _ (by rw[c];rfl) e
 ·have:=Zw.setCells (O:=fun k=>k=a.heap.size) (O':=fun k=>k=a.heap.size) (b:=a.heap.size) Z cs 0 _ (Zw.refl _ (a.alloc (.cells #[.int .i64 0,.slice none 0 0,.slice none 0 0,.int .i64 0,.int .i64 0,.int .i64 0,.slice none 0 0,.slice none 0 0,.int .i64 0,.slice none 0 0,.slice none 0 0,.slice none 0 0] 60)))
  exact(QU a _).trans (this.below (by simp) (fun k f=>by omega))
end
theorem Xa:type_of% @Bool.eq_false_or_eq_true:=@Bool.eq_false_or_eq_true
theorem QaI (h:f<1000000):Rd prog 48 #[.int .i64 (f:Int)] w (.int .i64 (10000*(f:Int)+9999)):=by
 unfold Rd;go_enter func48,ntmps48
 go_wp2
 go_ret;refine⟨?_,Zr⟩
 first | rfl | (simp only[wrap64];congr 2;omega)
theorem QaR (h:f<1000000/\b<1000000):Rd prog 21 #[.int .i64 (f:Int),.int .i64 (b:Int)] w (.int .i64 (10000*(f:Int)+100*(b:Int)+90)):=by
 unfold Rd;go_enter func21,ntmps21
 go_wp2
 go_ret;refine⟨?_,Zr⟩
 first | rfl | (simp only[wrap64];congr 2;omega)
theorem QeR (h:f<1000000/\b<1000000):Rd prog 46 #[.int .i64 (f:Int),.int .i64 (b:Int)] w (.int .i64 (10000*(f:Int)+100*(b:Int)+91)):=by
 unfold Rd;go_enter func46,ntmps46
 go_wp2
 go_ret;refine⟨?_,Zr⟩
 first | rfl | (simp only[wrap64];congr 2;omega)
theorem Qfj (h:f<1000000/\b<1000000/\i<1000000):Rd prog 22 #[.int .i64 (f:Int),.int .i64 (b:Int),.int .i64 (i:Int)] w (.int .i64 (10000*(f:Int)+100*(b:Int)+(i:Int))):=by
 unfold Rd;go_enter func22,ntmps22
 go_wp2
 go_ret;refine⟨?_,Zr⟩
 first | rfl | (simp only[wrap64];congr 2;omega)
theorem QdV {x:MTo}{fb:Option Addr}(b:Bool) (t:x.regs.length<2305843009213693952) (s:x.args.length<2305843009213693952) (o:bl<2305843009213693952) :
 Rd prog 124 #[.agg #[.int .i64 fr,.slice fp fl fc,.slice fq fm fd,.slice fb bl fe],.agg #[.int .i64 x.block,.slice pR x.regs.length cR,.slice pA x.args.length cA],.bool b] w (.int .i64 (x.form bl b)):=by
 have d:=QU w (.cells #[.int .i64 fr,.slice fp fl fc,.slice fq fm fd,.slice fb bl fe] 40);have B:Hid (Below w.heap.size w ((w.alloc (.cells #[.int .i64 fr,.slice fp fl fc,.slice fq fm fd,.slice fb bl fe] 40)).alloc (.cells #[.int .i64 x.block,.slice pR x.regs.length cR,.slice pA x.args.length cA] 56))):=d.trans ((QU _ _).mono d.size);have n:=Qb (Blk.new1 w #[.int .i64 fr,.slice fp fl fc,.slice fq fm fd,.slice fb bl fe] #[.int .i64 x.block,.slice pR x.regs.length cR,.slice pA x.args.length cA] 40 56) 3 _ Z;have j:=Qb (Blk.new2 w (.cells #[.int .i64 fr,.slice fp fl fc,.slice fq fm fd,.slice fb bl fe] 40) #[.int .i64 x.block,.slice pR x.regs.length cR,.slice pA x.args.length cA] 56) 0 _ Z;have k:=Qb (Blk.new2 w (.cells #[.int .i64 fr,.slice fp fl fc,.slice fq fm fd,.slice fb bl fe] 40) #[.int .i64 x.block,.slice pR x.regs.length cR,.slice pA x.args.length cA] 56) 1 _ Z;have m:=Qb (Blk.new2 w (.cells #[.int .i64 fr,.slice fp fl fc,.slice fq fm fd,.slice fb bl fe] 40) #[.int .i64 x.block,.slice pR x.regs.length cR,.slice pA x.args.length cA] 56) 2 _ Z;clear d;unfold Rd;go_enter func124,ntmps124
 go_upto_region 1 with fail
 generalize (w.alloc (.cells #[.int .i64 fr,.slice fp fl fc,.slice fq fm fd,.slice fb bl fe] 40)).alloc (.cells #[.int .i64 x.block,.slice pR x.regs.length cR,.slice pA x.args.length cA] 56)=r at B n j k m |-;generalize w.heap.size+1=Y at j k m |-;generalize w.heap.size=X at n |-
 cases b with
 | false =>
   by_cases a:x.block=0
   ·have e:(x.block != 0)=false:=by simpa using a
    by_cases c:0<x.regs.length+x.args.length
    ·have f:(0:Int)<(x.regs.length:Int)+(x.args.length:Int):=by omega
     have E:x.form bl false=4:=by unfold MTo.form;rw[Xs Z,Xs (.inr c)]
     clear a;go_wp2_with fail
     go_ret;exact⟨by first | rfl | (rw[E];done) | (rw[E];rfl),B.out⟩
    ·have f:¬ (0:Int)<(x.regs.length:Int)+(x.args.length:Int):=by omega
     have E:x.form bl false=0:=by unfold MTo.form;rw[Xs Z,Xr (by rintro (h | h);exact h a;exact c h)]
     clear a;go_wp2_with fail
     go_ret;exact⟨by first | rfl | (rw[E];done) | (rw[E];rfl),B.out⟩
   ·have e:(x.block != 0)=true:=by simpa using a
    have E:x.form bl false=4:=by unfold MTo.form;rw[Xs Z,Xs (.inl a)]
    go_wp2_with fail
    go_ret;exact⟨by first | rfl | (rw[E];done) | (rw[E];rfl),B.out⟩
 | true =>
   by_cases a:x.block<0
   ·have e:decide (x.block<0)=true:=Xt a;have E:x.form bl true=1:=by unfold MTo.form;rw[Xr (by simp),Xs (.inl a)]
    go_wp2_with fail
    go_ret;exact⟨by first | rfl | (rw[E];done) | (rw[E];rfl),B.out⟩
   have e:decide (x.block<0)=false:=Xu a;by_cases c:(bl:Int)<=x.block
   ·have f:decide (x.block>=(bl:Int))=true:=Xt c;have E:x.form bl true=1:=by unfold MTo.form;rw[Xr (by simp),Xs (.inr c)]
    go_wp2_with fail
    go_ret;exact⟨by first | rfl | (rw[E];done) | (rw[E];rfl),B.out⟩
   have f:decide (x.block>=(bl:Int))=false:=Xu c;have g:¬ (x.block<0\/(bl:Int)<=x.block):=by rintro (h | h);exact a h;exact c h
   by_cases l:16<x.regs.length
   ·have p:decide ((x.regs.length:Int)>16)=true:=Xt (by omega);have E:x.form bl true=2:=by unfold MTo.form;rw[Xr (by simp),Xr g,Xs (.inl l)]
    go_wp2_with fail
    go_ret;exact⟨by first | rfl | (rw[E];done) | (rw[E];rfl),B.out⟩
   have p:decide ((x.regs.length:Int)>16)=false:=Xu (by omega);by_cases i:8<x.args.length
   ·have q:decide ((x.args.length:Int)>8)=true:=Xt (by omega);have E:x.form bl true=2:=by unfold MTo.form;rw[Xr (by simp),Xr g,Xs (.inr i)]
    go_wp2_with fail
    go_ret;exact⟨by first | rfl | (rw[E];done) | (rw[E];rfl),B.out⟩
   ·have q:decide ((x.args.length:Int)>8)=false:=Xu (by omega);have E:x.form bl true=0:=by unfold MTo.form;rw[Xr (by simp),Xr g,Xr (by rintro (h | h);exact l h;exact i h)]
    go_wp2_with fail
    go_ret;exact⟨by first | rfl | (rw[E];done) | (rw[E];rfl),B.out⟩
theorem QcZ {x:MEnd}{e:EP}{fb:Option Addr}(K:x.yes.regs.length<2305843009213693952/\x.yes.args.length<2305843009213693952/\x.no.regs.length<2305843009213693952/\x.no.args.length<2305843009213693952) (m:bl<2305843009213693952) :
 Rd prog 82 #[.agg #[.int .i64 fr,.slice fp fl fc,.slice fq fm fd,.slice fb bl fe],.agg #[.int .i64 x.op,.int .i64 x.a,.int .i64 x.yes.block,.slice e.pYR x.yes.regs.length e.cYR,.slice e.pYA x.yes.args.length e.cYA,.int .i64 x.no.block,.slice e.pNR x.no.regs.length e.cNR,.slice e.pNA x.no.args.length e.cNA,.slice e.pA x.args.length e.cA]] w (.int .i64 (x.form bl)):=by
 have s:=QI K;have y:=QU w (.cells #[.int .i64 fr,.slice fp fl fc,.slice fq fm fd,.slice fb bl fe] 40);have B:Hid (Below w.heap.size w ((w.alloc (.cells #[.int .i64 fr,.slice fp fl fc,.slice fq fm fd,.slice fb bl fe] 40)).alloc (.cells #[.int .i64 x.op,.int .i64 x.a,.int .i64 x.yes.block,.slice e.pYR x.yes.regs.length e.cYR,.slice e.pYA x.yes.args.length e.cYA,.int .i64 x.no.block,.slice e.pNR x.no.regs.length e.cNR,.slice e.pNA x.no.args.length e.cNA,.slice e.pA x.args.length e.cA] 58))):=y.trans ((QU _ _).mono y.size);have g:Hid (Blk ((w.alloc (.cells #[.int .i64 fr,.slice fp fl fc,.slice fq fm fd,.slice fb bl fe] 40)).alloc (.cells #[.int .i64 x.op,.int .i64 x.a,.int .i64 x.yes.block,.slice e.pYR x.yes.regs.length e.cYR,.slice e.pYA x.yes.args.length e.cYA,.int .i64 x.no.block,.slice e.pNR x.no.regs.length e.cNR,.slice e.pNA x.no.args.length e.cNA,.slice e.pA x.args.length e.cA] 58)) w.heap.size #[.int .i64 fr,.slice fp fl fc,.slice fq fm fd,.slice fb bl fe] 40):=Blk.new1 ..;have b:Hid (Blk ((w.alloc (.cells #[.int .i64 fr,.slice fp fl fc,.slice fq fm fd,.slice fb bl fe] 40)).alloc (.cells #[.int .i64 x.op,.int .i64 x.a,.int .i64 x.yes.block,.slice e.pYR x.yes.regs.length e.cYR,.slice e.pYA x.yes.args.length e.cYA,.int .i64 x.no.block,.slice e.pNR x.no.regs.length e.cNR,.slice e.pNA x.no.args.length e.cNA,.slice e.pA x.args.length e.cA] 58)) (w.heap.size+1) #[.int .i64 x.op,.int .i64 x.a,.int .i64 x.yes.block,.slice e.pYR x.yes.regs.length e.cYR,.slice e.pYA x.yes.args.length e.cYA,.int .i64 x.no.block,.slice e.pNR x.no.regs.length e.cNR,.slice e.pNA x.no.args.length e.cNA,.slice e.pA x.args.length e.cA] 58):=Blk.new2 ..;clear y K;unfold Rd;go_enter func82,ntmps82
 go_upto_region 1 with fail
 generalize (w.alloc (.cells #[.int .i64 fr,.slice fp fl fc,.slice fq fm fd,.slice fb bl fe] 40)).alloc (.cells #[.int .i64 x.op,.int .i64 x.a,.int .i64 x.yes.block,.slice e.pYR x.yes.regs.length e.cYR,.slice e.pYA x.yes.args.length e.cYA,.int .i64 x.no.block,.slice e.pNR x.no.regs.length e.cNR,.slice e.pNA x.no.args.length e.cNA,.slice e.pA x.args.length e.cA] 58)=D at B g b |-;generalize w.heap.size+1=Y at b |-;generalize w.heap.size=X at g |-;have z:=Qb b.out 0 _ Z;have e1:=Qb b.out 1 _ Z;have P:=Qb b.out 8 _ Z;go_cut [13] (fun v wx=>v=.bool (decide (x.op<1)||decide (x.op>3))/\wx=D)
 case first =>
  rcases Xa (decide (x.op<1)) with n | n
  all_goals rcases Xa (decide (x.op>3)) with o | o
  all_goals
   go_wp2
   go_meet;exact⟨by rw[n,o];rfl,Z⟩
 case rest =>
  obtain⟨rfl,j⟩:=hcut
  replace j:=j.symm;subst j;by_cases i:x.op<1\/3<x.op
  ·have d:(decide (x.op<1)||decide (x.op>3))=true:=by rw[<-Bool.decide_or];exact Xt i
   rw[d]
   have E:x.form bl=3:=Xs i;go_wp2_with fail
   go_ret;exact⟨by first | rfl | (rw[E];done) | (rw[E];rfl),B.out⟩
  have d:(decide (x.op<1)||decide (x.op>3))=false:=by rw[<-Bool.decide_or];exact Xu i
  rw[d]
  go_upto_region 3 with fail
  go_cut [32] (fun v wx=>v=.bool ((x.a != 0&&x.op != 2)||(decide (0<x.args.length)&&x.op != 3))/\wx=D)
  case first =>
   rcases Xa (x.a != 0) with n | n
   all_goals rcases Xa (x.op != 2) with o | o
   all_goals rcases Xa (decide (0<x.args.length)) with N | N
   all_goals rcases Xa (x.op != 3) with q | q
   all_goals
    go_wp2
    go_meet;exact⟨by rw[n,o,N,q];rfl,Z⟩
  case rest =>
   obtain⟨rfl,j⟩:=hcut
   replace j:=j.symm;subst j;by_cases p:(x.a≠0/\x.op≠2)\/(0<x.args.length/\x.op≠3)
   ·have d:((x.a != 0&&x.op != 2)||(decide (0<x.args.length)&&x.op != 3))=true:=by simp only[Bool.or_eq_true,Bool.and_eq_true,bne_iff_ne,decide_eq_true_eq];omega
    rw[d]
    have E:x.form bl=4:=by unfold MEnd.form;rw[Xr i,Xs p]
    clear p;go_wp2_with fail
    go_ret;exact⟨by first | rfl | (rw[E];done) | (rw[E];rfl),B.out⟩
   have d:((x.a != 0&&x.op != 2)||(decide (0<x.args.length)&&x.op != 3))=false:=by rw[Bool.eq_false_iff];simp only[ne_eq,Bool.or_eq_true,Bool.and_eq_true,bne_iff_ne,decide_eq_true_eq];omega
   rw[d]
   by_cases I:8<x.args.length
   ·have q:(8:Int)<x.args.length:=by omega
    have E:x.form bl=2:=by unfold MEnd.form;rw[Xr i,Xr p,Xs I]
    go_wp2_with fail
    go_ret;exact⟨by first | rfl | (rw[E];done) | (rw[E];rfl),B.out⟩
   have q:¬ (8:Int)<x.args.length:=by omega
   have l:Hid (x.form bl=if x.yes.form bl (decide (x.op≠3))≠0 then x.yes.form bl (decide (x.op≠3)) else x.no.form bl (decide (x.op=2))):=by show _=_;unfold MEnd.form;rw[Xr i,Xr p,Xr I]
   have M:(x.op != 3)=decide (x.op≠3):=by rw[Bool.eq_iff_iff];simp
   have L:(x.op==2)=decide (x.op=2):=by rw[Bool.eq_iff_iff];simp
   have A:=Qb g.out 0 _ Z;have u:=Qb g.out 1 _ Z;have C:=Qb g.out 2 _ Z;have H:=Qb g.out 3 _ Z;have V:=Qb b.out 2 _ Z;have U:=Qb b.out 3 _ Z;have e4:=Qb b.out 4 _ Z;have t:=QI (QdV (x:=x.yes) (pR:=e.pYR) (cR:=e.cYR) (pA:=e.pYA) (cA:=e.cYA) (fr:=fr) (fp:=fp) (fl:=fl) (fc:=fc) (fq:=fq) (fm:=fm) (fd:=fd) (fb:=fb) (fe:=fe) (w:=D) (decide (x.op≠3)) s.out.1 s.out.2.1 m);unfold Rd at t;rw[<-M] at t l
   rw[<-L] at l
   clear i p I L M;go_wp2_with fail
   refine t.out.mono ?_;rintro _ T ⟨rfl,r⟩;have G:=QI (B.out.trans (r.mono B.out.size));have c:=QI (g.out.below r);have f:=QI (b.out.below r);clear r t A u C H z e1 V U e4 P B g b;by_cases k:x.yes.form bl (x.op != 3)=0
   rotate_left
   ·have O:(x.yes.form bl (x.op != 3) != 0)=true:=by simpa using k
    have E:x.form bl=x.yes.form bl (x.op != 3):=by rw[l.out,Xs k]
    generalize x.yes.form bl (x.op != 3)=yf at O E |-;clear k l;go_wp2_with fail
    go_ret;exact⟨by first | rfl | (rw[E];done) | (rw[E];rfl),G.out⟩
   have E:x.form bl=x.no.form bl (x.op==2):=by rw[l.out,Xr (fun h=>h k)]
   rw[k]
   clear k l;have A:=Qb c.out 0 _ Z;have u:=Qb c.out 1 _ Z;have C:=Qb c.out 2 _ Z;have H:=Qb c.out 3 _ Z;have z:=Qb f.out 0 _ Z;have Q:=Qb f.out 5 _ Z;have S:=Qb f.out 6 _ Z;have W:=Qb f.out 7 _ Z;have F:=QI (QdV (x:=x.no) (pR:=e.pNR) (cR:=e.cNR) (pA:=e.pNA) (cA:=e.cNA) (fr:=fr) (fp:=fp) (fl:=fl) (fc:=fc) (fq:=fq) (fm:=fm) (fd:=fd) (fb:=fb) (fe:=fe) (w:=T) (x.op==2) s.out.2.2.1 s.out.2.2.2 m);unfold Rd at F;go_wp2_with fail
   refine F.out.mono ?_;rintro _ w3 ⟨rfl,J⟩;have R:=QI (G.out.trans (J.mono G.out.size));clear J F A u C H z Q S W;go_wp2_with fail
   go_ret;exact⟨by first | rfl | (rw[E];done) | (rw[E];rfl),R.out⟩
theorem underEnd:∃ fs,prog.underlying 58=some (.struct fs):=⟨_,underlying58⟩
theorem sizeEnd:(prog.info? 58).map (·.size)=some 9:=by kernel_rfl
abbrev QaE (x:MEnd) (e:EP):Array Value:=#[.int .i64 x.op,.int .i64 x.a,.int .i64 x.yes.block,.slice e.pYR x.yes.regs.length e.cYR,.slice e.pYA x.yes.args.length e.cYA,.int .i64 x.no.block,.slice e.pNR x.no.regs.length e.cNR,.slice e.pNA x.no.args.length e.cNA,.slice e.pA x.args.length e.cA]
structure Qce (w:World) (Q:Nat->Prop) (x:MEnd) (e:EP):Prop where
 yr:intsL.In w Q x.yes.regs [.slice e.pYR x.yes.regs.length e.cYR]
 ya:intsL.In w Q x.yes.args [.slice e.pYA x.yes.args.length e.cYA]
 nr:intsL.In w Q x.no.regs [.slice e.pNR x.no.regs.length e.cNR]
 na:intsL.In w Q x.no.args [.slice e.pNA x.no.args.length e.cNA]
 ar:intsL.In w Q x.args [.slice e.pA x.args.length e.cA]
theorem Qce.below {x:MEnd}{e:EP}(h:Qce w Q x e) (k:Below w.heap.size w w'):Qce w' Q x e :=
 ⟨Ya h.yr k,Ya h.ya k,Ya h.nr k,Ya h.na k,Ya h.ar k⟩
structure EnS (w wc:World) (b X:Nat) (O Q:Nat->Prop) (s:JSt) (x:MEnd) (e:EP):Prop where
 known:KAt wc b O s
 box:Blk wc X (QaE x e) 58
 lists:Qce wc Q x e
 bel:Below w.heap.size w wc
theorem EnS.below {s:JSt}{x:MEnd}{e:EP}(h:EnS w wc b X O Q s x e) (k:Below wc.heap.size wc w'):EnS w w' b X O Q s x e :=
 ⟨h.known.below k,(k.block X (XC h.box)).trans h.box,h.lists.below k,h.bel.trans (k.mono h.bel.size)⟩
theorem EnS.range {s:JSt}{x:MEnd}{e:EP}(h:EnS w wc b X O Q s x e):wc.rangeAt X 0 (QaE x e).toList:=fun j v a=>by
 rw[XK]
 rw[Array.getElem?_toList] at a
 exact Qb h.box j v a
theorem EnS.cells {s:JSt}{x:MEnd}{e:EP}(h:EnS w wc b X O Q s x e):wc.cell? ⟨X,0,none⟩=some (.int .i64 x.op)/\wc.cell? ⟨X,1,none⟩=some (.int .i64 x.a)/\wc.cell? ⟨X,2,none⟩=some (.int .i64 x.yes.block)/\wc.cell? ⟨X,3,none⟩=some (.slice e.pYR x.yes.regs.length e.cYR)/\wc.cell? ⟨X,4,none⟩=some (.slice e.pYA x.yes.args.length e.cYA)/\wc.cell? ⟨X,5,none⟩=some (.int .i64 x.no.block)/\wc.cell? ⟨X,6,none⟩=some (.slice e.pNR x.no.regs.length e.cNR)/\wc.cell? ⟨X,7,none⟩=some (.slice e.pNA x.no.args.length e.cNA)/\wc.cell? ⟨X,8,none⟩=some (.slice e.pA x.args.length e.cA) :=
 ⟨Qb h.box 0 _ Z,Qb h.box 1 _ Z,Qb h.box 2 _ Z,Qb h.box 3 _ Z,Qb h.box 4 _ Z,Qb h.box 5 _ Z,Qb h.box 6 _ Z,Qb h.box 7 _ Z,Qb h.box 8 _ Z⟩
theorem Qkj (n:Nat):(Qba n).length=n:=by unfold Qba;simp
theorem Qjy (n:Nat):Qba (n+1)=Qba n++[(n:Int)]:=by unfold Qba;rw[List.range_succ,List.map_append];rfl
theorem ZH {a:Nat}{t:MTo}(h:t.form a true=0):(0<=t.block/\t.block<a)/\t.regs.length<=16/\t.args.length<=8:=by
 unfold MTo.form at h;rw[Xr (by simp)] at h
 split at h
 ·cases h
 split at h
 ·cases h
 omega
def Ql8 (b X fl c1 fm c2 bl c3:Nat) (fr cf:Int) (a1 a2 a3:Option Addr) (x:MEnd) (e:EP) (t:Tmp) (v:Value) (w:World):Prop :=
 v=(([(0,.pointer (some ⟨b,0,none⟩)),(3,.pointer (some ⟨X,0,none⟩)),(13,.pointer (some ⟨b,0,none⟩)),(14,.pointer (some ⟨b,0,none⟩)),(15,.pointer (some ⟨b,1,none⟩)),(16,.agg #[.int .i64 fr,.slice a1 fl c1,.slice a2 fm c2,.slice a3 bl c3]),(17,.agg (QaE x e)),(18,.int .i64 cf),(5,.int .i64 cf)]:List (Tmp × Value)).lookup t).getD undef
theorem ke1 {s u y:Nat}{j:Int}{q o p:Option Addr}{x:MEnd}{e:EP}(D:w6.cell? ⟨b,1,none⟩=some (.int .i64 fr)) (F:w6.cell? ⟨b,2,none⟩=some (.slice q fl s)) (I:w6.cell? ⟨b,3,none⟩=some (.slice o fm u)) (z:w6.cell? ⟨b,4,none⟩=some (.slice p bl y)) (J:Hid (w6.rangeAt X 0 (QaE x e).toList)) (H:Hid (x.yes.regs.length<2305843009213693952/\x.yes.args.length<2305843009213693952/\x.no.regs.length<2305843009213693952/\x.no.args.length<2305843009213693952)) (k:bl<2305843009213693952) (E:Hid (x.form bl=j))
 (a:Act) (m:Nat) (B:a.tmps.size=m) (l:97<=m) (C:a.tmps.getD 0 undef=.pointer (some ⟨b,0,none⟩)) (G:a.tmps.getD 3 undef=.pointer (some ⟨X,0,none⟩)) :
 Code.wp prog ((Tryz.f45.body.bind (Qo 1)).getD .skip) (fun e a' w'=>e=.normal/\∃ vs,a'=Zn a vs [13,14,15,16,17,18,5]/\vs 5=.int .i64 j/\Below w6.heap.size w6 w') a w6:=by
 conv=>arg 2;whnf
 refine QD (Ql8 b X fl s fm u bl y fr j q o p x e) (fun w=>Below w6.heap.size w6 w) (fun w w'=>Below w.heap.size w w') (outs:=[0,3]) (gs:=[]) (bs:=[true,true,true,true,true,true,true]) (by kernel_rfl) (n:=97) B l (by kernel_rfl) ?hR ?hG (Qg Zr 1) ⟨C,G,Y⟩ ?hA ?hend
 case hR=>exact fun t v w w' _ h=>h
 case hG=>exact Y
 case hend=>exact fun vs w' c d=>⟨Z,vs,Z,d 5 (by kernel_rfl),c⟩
 case hA =>
  iterate 4
   refine⟨fun a w c d K g=>?_,?_⟩
   ·obtain⟨f,-⟩:=d
    conv at f=>whnf;rhs;whnf
    have L:=Qp D c;have Q:=Qp F c;have O:=Qp I c;have N:=Qp z c;go_simp;exact g _ _ Zr c Z
  refine⟨fun a w c d K g=>?_,?_⟩
  ·obtain⟨f,-⟩:=d
   conv at f=>whnf;rhs;whnf
   obtain⟨M,i⟩:=underEnd
   refine wp_load_mid 58 (.tmp 3) Z X 0 f (QaE x e).toList _ (ZD J.out c) i Z sizeEnd ?_;exact g _ _ Zr c Z
  refine⟨fun a w c d K g=>?_,?_⟩
  ·obtain⟨f,A,-⟩:=d
   conv at f=>whnf;rhs;whnf
   conv at A=>whnf;rhs;whnf
   go_simp;refine Xm (QcZ (x:=x) (e:=e) H.out k) ?_;rw[E.out];rintro R P ⟨rfl,r⟩;go_simp;exact g _ _ r (c.trans (r.mono c.size)) Z
  refine⟨fun a w c d K g=>?_,?_⟩
  ·obtain⟨f,-⟩:=d
   conv at f=>whnf;rhs;whnf
   go_simp;exact g _ _ Zr c Z
  trivial
def Qlq (b X na ca fm c2 on oc:Nat) (p:Int) (pa a2 oa:Option Addr) (t:Tmp) (v:Value) (w:World):Prop :=
 v=(([(0,.pointer (some ⟨b,0,none⟩)),(3,.pointer (some ⟨X,0,none⟩)),(8,.slice oa on oc),(63,.pointer (some ⟨b,0,none⟩)),(64,.pointer (some ⟨X,8,none⟩)),(65,.slice pa na ca),(66,.pointer (some ⟨b,0,none⟩)),(67,.pointer (some ⟨b,0,none⟩)),(68,.pointer (some ⟨b,1,none⟩)),(69,.pointer (some ⟨b,3,none⟩)),(70,.slice a2 fm c2),(71,.slice oa on oc),(72,.int .i64 p),(10,.int .i64 p)]:List (Tmp × Value)).lookup t).getD undef
theorem QlT {i B C k r:Nat}{p:Int}{x q u:Option Addr}{E M W:Nat->Prop}{s:JSt}{j:List (TT 6)}(x8:w6.cell? ⟨X,8,none⟩=some (.slice x i B)) (q3:w6.cell? ⟨b,3,none⟩=some (.slice q fm C)) (T:Hid (l.length=i)) (F:Hid (j.length=fm)) (I:Hid (regs.length=k)) (y:i<=100000) (o:fm<=100000) (hL:s.L.length<=80) (R:Hid (intsL.In w6 E l [.slice x i B])) (J:Hid ((Qi 6).In w6 M j [.slice q fm C])) (N:Hid (intsL.In w6 W regs [.slice u k r])) (z:Hid (∀ t∈j,t.count<=2000)) (G:Hid (KAt w6 b O s)) (HP:Hid (s.args l j regs=p))
 (a:Act) (m:Nat) (Q:a.tmps.size=m) (A:97<=m) (S:a.tmps.getD 0 undef=.pointer (some ⟨b,0,none⟩)) (V:a.tmps.getD 3 undef=.pointer (some ⟨X,0,none⟩)) (h8:a.tmps.getD 8 undef=.slice u k r) :
 Code.wp prog ((Tryz.f45.body.bind (Qo 20)).getD .skip) (fun e a' w'=>e=.normal/\∃ vs,a'=Zn a vs [63,64,65,66,67,68,69,70,71,72,10]/\vs 10=.int .i64 p/\Below w6.heap.size w6 w') a w6:=by
 conv=>arg 2;whnf
 refine QD (Qlq b X i B fm C k r p x q u) (fun w=>Below w6.heap.size w6 w) (fun w w'=>Below w.heap.size w w') (outs:=[0,3,8]) (gs:=[]) (bs:=[true,true,true,true,true,true,true,true,true,true,true]) (by kernel_rfl) (n:=97) Q A (by kernel_rfl) ?hR ?hG (Qg Zr 1) ⟨S,V,h8,Y⟩ ?hA ?hend
 case hR=>exact fun t v w w' _ h=>h
 case hG=>exact Y
 case hend=>exact fun vs w' c d=>⟨Z,vs,Z,d 10 (by kernel_rfl),c⟩
 case hA =>
  iterate 9
   refine⟨fun a w c d K g=>?_,?_⟩
   ·obtain⟨f,-⟩:=d
    conv at f=>whnf;rhs;whnf
    have u0:=Qp x8 c;have u1:=Qp q3 c;go_simp;exact g _ _ Zr c Z
  refine⟨fun a w c d K g=>?_,?_⟩
  ·obtain⟨f,P,U,H,-⟩:=d
   conv at f=>whnf;rhs;whnf
   conv at P=>whnf;rhs;whnf
   conv at U=>whnf;rhs;whnf
   conv at H=>whnf;rhs;whnf
   go_simp;refine(Qdz T.out F.out I.out y o hL (Ya R.out c) (Ya J.out c) (Ya N.out c) z.out (G.out.below c)).mono ?_;rw[HP.out];rintro r7 w7 ⟨rfl,D⟩
   go_simp;exact g _ _ D (c.trans (D.mono c.size)) Z
  refine⟨fun a w c d K g=>?_,?_⟩
  ·obtain⟨f,-⟩:=d
   conv at f=>whnf;rhs;whnf
   go_simp;exact g _ _ Zr c Z
  trivial
theorem QjM {s:JSt}{x:MEnd}{e:EP}(hJ:JOk s) (h:KAt w b O s) (hx:Qce w Q x e) (F:x.yes.regs.length<=e.cYR/\x.no.regs.length<=e.cNR) (hs:x.yes.regs.length<=100000/\x.yes.args.length<=100000/\x.no.regs.length<=100000/\x.no.args.length<=100000) :
 Calls prog 45 #[.pointer (some ⟨b,0,none⟩),.agg (QaE x e)] w fun r w'=>r=.returned (.int .i64 (s.fin x))/\Below w.heap.size w w':=by
 have A:=Qa hJ;obtain⟨i0,hi,bk,bm,bl⟩:=pInfoI
 have b1:=QU w (.cells (QaE x e) 58);have S0:Hid (EnS w (w.alloc (.cells (QaE x e) 58)) b w.heap.size O Q s x e):=⟨h.below b1,Qm w _ _,hx.below b1,b1⟩;clear h hx b1 hJ;go_enter func45,ntmps45
 go_upto_region 1 with fail
 obtain⟨X,hX⟩:∃ X,w.heap.size=X:=⟨_,Z⟩
 unfold QaE at S0;generalize bg:w.alloc (.cells #[.int .i64 x.op,.int .i64 x.a,.int .i64 x.yes.block,.slice e.pYR x.yes.regs.length e.cYR,.slice e.pYA x.yes.args.length e.cYA,.int .i64 x.no.block,.slice e.pNR x.no.regs.length e.cNR,.slice e.pNA x.no.args.length e.cNA,.slice e.pA x.args.length e.cA] 58)=w1 at S0 |-;have S1:Hid (EnS w w1 b X O Q s x e):=by rw[<-hX];exact S0.out
 rw[hX]
 clear bg hX S0;obtain⟨pm,cm,a1,c1,a2,c2,a3,c3,hh,aL,cL,R⟩:=S1.out.known.read
 obtain⟨-,N,q2,q3,q4,-,-⟩:=R.cells
 have D:=Qa (A.out.mod.2 s.f A.out.fn);have HS:Hid (x.yes.regs.length<2305843009213693952/\x.yes.args.length<2305843009213693952/\x.no.regs.length<2305843009213693952/\x.no.args.length<2305843009213693952):=by show _/\_;omega
 have E:Hid (s.fin x=if x.form s.f.blocks.length≠0 then x.form s.f.blocks.length else if x.op=1 then s.to x.yes else if x.op=2 then code2 (s.want x.a 1 false) (code2 (s.to x.yes) (s.to x.no)) else code2 (s.args x.args s.f.results (Qba s.f.regs.toNat)) (if (hList s.H).all (fun r=>decide (r<s.f.regs)) then 0 else 12)):=by
  show _=_;rw[JSt.fin]
 have L:Hid (x.form s.f.blocks.length=x.form s.f.blocks.length):=rfl;refine Code.wp_mono ?_ (ke1 N q2 q3 q4 (show Hid _ from S1.out.range) HS (by have:=D.out.many.2;omega) L _ _ Z (Xg (by kernel_rfl)) Z Z);rintro ee aa l ⟨rfl,vs,rfl,a5,hb⟩;simp only[Zn,Act.put,List.setIfInBounds_toArray,List.set_cons_zero,List.set_cons_succ,a5]
 have S:Hid (EnS w l b X O Q s x e):=S1.out.below hb;clear S1 hb a5 N q2 q3 q4 R L HS;obtain⟨cf,ad⟩:∃ cf,x.form s.f.blocks.length=cf:=⟨_,Z⟩
 have L:Hid (x.form s.f.blocks.length=cf):=ad;rw[ad] at E |-
 clear ad;by_cases ah:cf=0
 rotate_left
 ·have bv:(cf != 0)=true:=by simpa using ah
  have m:Hid (s.fin x=cf):=by show _=_;rw[E.out,Xs ah]
  clear E;go_wp2_with fail
  go_ret;exact⟨by rw[m.out];rfl,S.out.bel⟩
 subst ah;have E1:=E.out;rw[Xr (by simp)] at E1
 clear E;have HZ:=Qa (QgC D.out.many.2 L.out);obtain⟨I,x1,x2,x3,x4,x5,x6,x7,x8⟩:=S.out.cells
 rcases HZ.out.1 with d | d | d
 ·have m:Hid (s.fin x=s.to x.yes):=by show _=_;rw[E1,Xs d]
  have B:Hid (x.yes.form s.f.blocks.length true=0):=by have:=HZ.out.2.2.2.2.1;rw[d] at this;exact this
  rw[d] at I
  clear E1;go_wp2_with fail
  refine(QfO (x:=x.yes) A.out S.out.known S.out.lists.yr S.out.lists.ya F.1 (ZH B.out).2.1 (ZH B.out).2.2 (ZH B.out).1).mono ?_
  rintro e9 z ⟨rfl,b9⟩;have K:Hid (EnS w z b X O Q s x e):=S.out.below b9;clear b9;go_wp2_with fail
  go_ret;exact⟨by rw[m.out];rfl,K.out.bel⟩
 ·have m:Hid (s.fin x=code2 (s.want x.a 1 false) (code2 (s.to x.yes) (s.to x.no))):=by show _=_;rw[E1,Xr (by omega),Xs d]
  have B:Hid (x.yes.form s.f.blocks.length true=0):=by have:=HZ.out.2.2.2.2.1;rw[d] at this;exact this
  have h2:Hid (x.no.form s.f.blocks.length true=0):=by have:=HZ.out.2.2.2.2.2;rw[d] at this;exact this
  rw[d] at I
  clear E1;go_wp2_with fail
  refine(Q9 x.a 1 false A.out.regs A.out.vals S.out.known).mono ?_
  rintro e8 w8 ⟨rfl,n8,ap⟩;have S8:Hid (EnS w w8 b X O Q s x e):=S.out.below (by rw[ap];exact Qg Zr n8);clear ap S;have S:=S8;clear S8 I x1 x2 x3 x4 x5 x6 x7 x8;obtain⟨I,x1,x2,x3,x4,x5,x6,x7,x8⟩:=S.out.cells
  rw[d] at I
  generalize s.want x.a 1 false=cw at m |-;by_cases ae:cw=0
  rotate_left
  ·have bs:(cw != 0)=true:=by simpa using ae
   have y:Hid (s.fin x=cw):=by show _=_;rw[m.out];unfold code2;rw[Xr ae]
   clear m;go_wp2_with fail
   go_ret;exact⟨by rw[y.out];rfl,S.out.bel⟩
  subst ae;have y:Hid (s.fin x=code2 (s.to x.yes) (s.to x.no)):=by show _=_;rw[m.out];rfl
  clear m;go_wp2_with fail
  refine(QfO (x:=x.yes) A.out S.out.known S.out.lists.yr S.out.lists.ya F.1 (ZH B.out).2.1 (ZH B.out).2.2 (ZH B.out).1).mono ?_
  rintro e9 z ⟨rfl,b9⟩;have K:Hid (EnS w z b X O Q s x e):=S.out.below b9;clear b9;clear S;have S:=K;clear K I x1 x2 x3 x4 x5 x6 x7 x8;obtain⟨I,x1,x2,x3,x4,x5,x6,x7,x8⟩:=S.out.cells
  rw[d] at I
  generalize s.to x.yes=cy at y |-;by_cases ac:cy=0
  rotate_left
  ·have br:(cy != 0)=true:=by simpa using ac
   have E4:Hid (s.fin x=cy):=by show _=_;rw[y.out];unfold code2;rw[Xr ac]
   clear y;go_wp2_with fail
   go_ret;exact⟨by rw[E4.out];rfl,S.out.bel⟩
  subst ac;have E4:Hid (s.fin x=s.to x.no):=by show _=_;rw[y.out];rfl
  clear y;go_wp2_with fail
  refine(QfO (x:=x.no) A.out S.out.known S.out.lists.nr S.out.lists.na F.2 (ZH h2.out).2.1 (ZH h2.out).2.2 (ZH h2.out).1).mono ?_
  rintro e9 z ⟨rfl,b9⟩;have K:Hid (EnS w z b X O Q s x e):=S.out.below b9;clear b9;go_wp2_with fail
  go_ret;exact⟨by rw[E4.out];rfl,K.out.bel⟩
 ·have m:Hid (s.fin x=code2 (s.args x.args s.f.results (Qba s.f.regs.toNat)) (if (hList s.H).all (fun r=>decide (r<s.f.regs)) then 0 else 12)):=by show _=_;rw[E1,Xr (by omega),Xr (by omega)]
  have bx:x.args.length<=8:=HZ.out.2.2.2.1;obtain⟨pm,cm,a1,c1,a2,c2,a3,c3,hh,aL,cL,R⟩:=S.out.known.read
  obtain⟨-,N,q2,q3,q4,q5,-⟩:=R.cells
  have bd:Hid (Qr l hh O s.H):=R.holds;have bh:Hid (s.f.results.length<=8):=D.out.results.1;have bp:Hid (∀ t∈s.f.results,t.count<=2000):=fun t ht=>Xo fun p=>A.out.tiny (.inr ⟨s.f,A.out.fn,.inr (.inr (.inl (.inr ⟨t,ht,p⟩)))⟩);obtain⟨fa,fc,fb,fd,fe,ff,au,-,W,-,-⟩:=Z3 R.fn
  simp only[List.cons.injEq,Value.slice.injEq,and_true,true_and] at au
  obtain⟨-,⟨rfl,rfl⟩,-⟩:=au
  have ax:Hid ((Qi 6).In l (fun g=>¬ O g) s.f.results [.slice a2 s.f.results.length c2]):=W;obtain⟨fr,al⟩:=Xc D.out.regs.1
  have bt:fr<=6:=by have:=D.out.regs.2;omega
  rw[al] at N m
  rw[XT] at m
  rw[d] at I
  clear E1 R W al q2 q4;go_wp2_with fail
  go_loopw [8,9] (fun v u wr=>∃ k cs,u=.int .i64 (k:Nat)/\k<=fr/\ZI Lay.int 3 wr l.heap.size v (Qba k) cs/\Below l.heap.size l wr) (fun _ u _=>fr - (intOf u).toNat)
  case atStart=>exact⟨0,[],Z,Xb _,ZI.nil _ _ _ _,Zr⟩
  case round =>
   obtain⟨k,cs,rfl,hk,hA,hB⟩:=hrel
   obtain⟨a,c,rfl⟩:=hA.formP
   have HA:Hid (ZI Lay.int 3 wr l.heap.size (.slice a (Qba k).length c) (Qba k) cs):=hA;have J:Hid (Below l.heap.size l wr):=hB;have P:(Qba k).length<=6:=by rw[Qkj];omega
   have aj:l.heap.size<=wr.heap.size:=hB.size;have bc:=Qp N hB;clear hA hB;by_cases p:k<fr
   ·have az:(k:Int)<fr:=by omega
    have E9:Hid (Qba (k+1)=Qba k++[(k:Int)]):=Qjy k;have C:Hid (wr.ownsRow l.heap.size 3 1 (.slice a (Qba k).length c) (Qba k).length cs):=HA.out.own
    have PU:Hid (∀ g af z,z.ownsRow l.heap.size 3 1 (.slice (some ⟨g,0,none⟩) ((Qba k).length+1) af) ((Qba k).length+1) (cs++[.int .i64 (k:Int)])->(wr.alloc (.cells #[.int .i64 (k:Int)] 3)).grownBy z (Value.slice a (Qba k).length c).ownBlock->((Value.slice a (Qba k).length c).ownBlock=some g\/g=wr.heap.size+1) ->
     ZI Lay.int 3 z l.heap.size (.slice (some ⟨g,0,none⟩) ((Qba k).length+1) af) (Qba (k+1)) (cs++[.int .i64 (k:Int)])/\Below l.heap.size l z):=by
     intro g af z B h2 h3;obtain⟨N,q2⟩:=QbH HA.out (by omega) aj B h2 h3
     rw[E9.out]
     exact⟨N,q2 l J.out⟩
    clear HA J E9;generalize (Qba k).length=n at C PU P |-;go_wp2_with (at_builtin;refine wpList_append_lies _ Z (.tmp 59) (.tmp 61) 35 Z l.heap.size 3 i0 (.int .i64 0) 1 8 pUnderI hi bk bm bl Z (by decide) _ _ _ Z (C.out.alloc _) ⟨wr.heap.size,0,none⟩ 1 1 [.int .i64 (k:Int)] Z Z (QeJ _ [_] _) (Qkt _) (by decide) (by unfold maxLen;omega) (by omega) (by simp;omega) (wr.heap.size+1) (by simp) ?_)
    intro g2 a4 z B G a9 am;obtain⟨z1,z2⟩:=PU.out g2 a4 z B G a9
    have A9:=Qa z1;have B9:=Qa z2;clear B G a9 am C PU z1 z2;go_wp2
    go_roundw
    case rel=>exact⟨k+1,_,by go_num,by omega,A9.out,B9.out⟩
    case measure=>simp[intOf];omega
   ·have bq:k=fr:=by omega
    have az:¬ (k:Int)<fr:=by omega
    have bb:Hid (intsL.In wr (fun g=>l.heap.size<=g) (Qba k) [.slice a (Qba k).length c]):=HA.out.lay;have K:Hid (EnS w wr b X O Q s x e):=S.out.below J.out;have ai:=Qp q3 J.out;have an:Hid ((Qi 6).In wr (fun g=>¬ O g) s.f.results [.slice a2 s.f.results.length c2]):=Ya ax.out J.out;have ak:=Qp q5 J.out;have ay:=Qp x8 J.out;have U:Hid (Qr wr hh O s.H):=bd.out.below J.out;clear HA J S N q3 q5 I x1 x2 x3 x4 x5 x6 x7 x8 ax bd aj;have S:=K;clear K;subst bq;clear p;go_upto_region 20 with fail
    have a7:Hid (x.args.length=x.args.length):=rfl;have a8:Hid ((Qba k).length=(Qba k).length):=rfl;refine Code.wp_mono ?_ (QlT ay ai a7 (show Hid (s.f.results.length=s.f.results.length) from Z) a8 (by omega) (by have:=bh.out;omega) A.out.vals (show Hid _ from S.out.lists.ar) an bb bp (show Hid _ from S.out.known) (show Hid (s.args x.args s.f.results (Qba k)=s.args x.args s.f.results (Qba k)) from Z) _ _ Z (Xg (by kernel_rfl)) Z Z Z);rintro ee aa w7 ⟨rfl,vs,rfl,M,hb⟩;simp only[Zn,Act.put,List.setIfInBounds_toArray,List.set_cons_zero,List.set_cons_succ,M]
    have S7:Hid (EnS w w7 b X O Q s x e):=S.out.below hb;have ao:=Qp bc hb;have bi:=Qp ak hb;have V:Hid (Qr w7 hh O s.H):=U.out.below hb;clear hb M S bb an U a7 a8 bc ai ak ay;have S:=S7;clear S7;generalize s.args x.args s.f.results (Qba k)=ca at m |-;generalize (Qba k).length=nk at P |-;by_cases ag:ca=0
    rotate_left
    ·have bu:(ca != 0)=true:=by simpa using ag
     have y:Hid (s.fin x=ca):=by show _=_;rw[m.out];unfold code2;rw[Xr ag]
     clear m;go_wp2_with fail
     go_ret;exact⟨by rw[y.out];rfl,S.out.bel⟩
    subst ag;have y:Hid (s.fin x=if (hList s.H).all (fun r=>decide (r<(k:Int))) then 0 else 12):=by show _=_;rw[m.out];rfl
    clear m;go_wp2_with fail
    refine(Qd4 (by have:=A.out.regs;omega) V.out).mono ?_
    rintro e8 w8 ⟨la,lc,rfl,ba,b8⟩;have S8:Hid (EnS w w8 b X O Q s x e):=S.out.below b8;have bn:=Qp ao b8;have a6:Hid (intsL.In w8 (fun g=>w7.heap.size<=g) (hList s.H) [.slice la (hList s.H).length lc]):=ba;have a0:(hList s.H).length<=16:=by have:=Qdu s.H;have:=A.out.regs;omega
    clear b8 S ao bi ba V;have S:=S8;clear S8;generalize hList s.H=H at y a6 a0 |-
    have HX:Hid (∀ i,i<H.length->∃ g o,la=some ⟨g,o,none⟩/\w8.cell? ⟨g,o+i,none⟩=some (.int .i64 (H.getD i 0))):=fun i hi=>by
     obtain⟨a1,a2,e1,-,-,e2⟩:=ZK a6.out hi
     exact⟨a1,a2,e1,e2⟩
    go_wp2_with fail
    go_loopw [12] (fun i wr=>∃ q n:Nat,q<=H.length/\i=.int .i64 q/\wr=w8.drewN n/\∀ j,j<q->H.getD j 0<(k:Int)) (fun i _=>H.length - (intOf i).toNat)
    case atStart=>exact⟨0,0,Xb _,Z,Z,fun j hj=>absurd hj (XG _)⟩
    case round =>
     obtain⟨q,n,hq,rfl,hw,ab⟩:=hrel
     have T:Hid (∀ j,j<q->H.getD j 0<(k:Int)):=ab;have HW:Hid (wr=w8.drewN n):=hw;have bw:wr.cell? ⟨b,1,none⟩=some (.int .i64 (k:Int)):=by rw[hw];exact bn
     have SR:Hid (EnS w wr b X O Q s x e):=S.out.below (by rw[hw];exact Qg Zr n);clear ab hw;by_cases p:q<H.length
     ·obtain⟨bf,ro,rfl,aq⟩:=HX.out q p
      have bj:wr.cell? ⟨bf,ro+q,none⟩=some (.int .i64 (H.getD q 0)):=by rw[HW.out];exact aq
      have av:(q:Int)<H.length:=by omega
      obtain⟨v,hv⟩:∃ v,H.getD q 0=v:=⟨_,Z⟩
      have HV:Hid (H.getD q 0=v):=hv;rw[hv] at bj
      clear hv aq;by_cases be:v<(k:Int)
      ·have aw:decide ((k:Int)<=v)=false:=Xu (by omega);go_wp2_with fail
       go_quiet (fail)
       go_wp2
       go_roundw
       case rel =>
        refine⟨q+1,n+nq,by omega,by go_num,by rw[HW.out,World.drewN_drewN],fun j hj=>?_⟩
        by_cases bo:j<q
        ·exact T.out j bo
        ·have:j=q:=by omega
         subst this;rw[HV.out];exact be
       case measure=>simp[intOf];omega
      ·have aw:decide ((k:Int)<=v)=true:=Xt (by omega)
       have E4:Hid (s.fin x=12):=by
        show _=_;rw[y.out,Xr]
        intro hh
        have:=Xe.1 hh v (by rw[<-HV.out,List.getD_eq_getElem?_getD,Zg p];exact List.getElem_mem p)
        exact be (Xv this)
       clear y;go_wp2_with fail
       go_quiet (fail)
       go_wp2
       go_ret;exact⟨by rw[E4.out];rfl,Qg SR.out.bel _⟩
     ·have E4:Hid (s.fin x=0):=by
       show _=_;rw[y.out,Xs]
       refine Xe.2 fun v hv=>Xt ?_;obtain⟨j,hj,rfl⟩:=List.getElem_of_mem hv
       have:=T.out j (by omega)
       rwa [List.getD_eq_getElem?_getD,Zg hj] at this
      have av:¬ (q:Int)<H.length:=by omega
      clear y;go_wp2
      go_ret;exact⟨by rw[E4.out];rfl,SR.out.bel⟩
section
open Go.Deep
theorem Lay.Sub.via {α β:Type}{A a:Lay α}(h:Lay.Sub A a) (f:β->α):Lay.Sub (A.via f) (a.via f):=⟨h.1,fun k=>h.2 k⟩
theorem QN.listC {α:Type}{A:Lay α}{z:α->Prop}(h:P.underlying t=some (.slice e)) (m:P.cellsOf t=1) (F:QN P e A n z) (C:0<A.size) (f:0<P.bytesOf e):QN P t A.listC n (fun l=>l.length<1152921504606846976) :=
 ⟨m,fun {H u w i g r p I x} s o E=>by
  obtain⟨l,k,D⟩:=(QN.list h m F C f).2 s o E
  refine⟨l,⟨?_,k⟩,D⟩
  obtain⟨a,c,e,_⟩:=k
  refine⟨a,c,e,?_⟩
  rcases DataW.trod_slice h o with ⟨b,_⟩|⟨G,y,B,d,j,q,_,b,_,_,v,_⟩
  ·rw[e] at b
   simp at b
   simp[b.2.1]
  ·rw[e] at b
   simp at b
   omega⟩
abbrev intsC:Lay (List Int):=Lay.int.listC
def insC:Lay QC:=(Lay.int.pair (Lay.int.pair (Lay.int.pair (Lay.int.pair (Lay.int.pair (Lay.int.pair (intsC.pair intsC))))))).via (fun x=>(x.op,x.a,x.b,x.c,x.k,x.n,x.regs,x.args))
def toC:Lay MTo:=(Lay.int.pair (intsC.pair intsC)).via (fun x=>(x.block,x.regs,x.args))
def endC:Lay MEnd:=(Lay.int.pair (Lay.int.pair (toC.pair (toC.pair intsC)))).via (fun x=>(x.op,x.a,x.yes,x.no,x.args))
def Qa8 (n:Nat):Lay (Qe n):=(Lay.int.pair ((Qi n).pair (insC.list.pair endC))).via (fun x=>(x.regs,x.params,x.code,x.fin))
def Qf1 (n:Nat):Lay (Qf n):=(Lay.int.pair ((Qi n).pair ((Qi n).pair (Qa8 n).list))).via (fun x=>(x.regs,x.params,x.results,x.blocks))
abbrev Qht (n:Nat):Lay (List (Qf n)):=(Qf1 n).list
theorem ints_sub:Lay.Sub intsC intsL:=Lay.Sub.listC _
theorem ins_sub:Lay.Sub insC insL:=.via (.pair (.refl _) (.pair (.refl _) (.pair (.refl _) (.pair (.refl _) (.pair (.refl _) (.pair (.refl _) (.pair ints_sub ints_sub))))))) _
theorem to_sub:Lay.Sub toC toL:=.via (.pair (.refl _) (.pair ints_sub ints_sub)) _
theorem end_sub:Lay.Sub endC endL:=.via (.pair (.refl _) (.pair (.refl _) (.pair to_sub (.pair to_sub ints_sub)))) _
theorem QiP (n:Nat):Lay.Sub (Qa8 n) (Zy n):=.via (.pair (.refl _) (.pair (.refl _) (.pair (.list ins_sub) end_sub))) _
theorem QiX (n:Nat):Lay.Sub (Qf1 n) (ZR n):=.via (.pair (.refl _) (.pair (.refl _) (.pair (.refl _) (.list (QiP n))))) _
theorem Qcp (n:Nat):Lay.Sub (Qht n) (QaH n):=.list (QiX n)
section
variable {w:World}{O:Nat->Prop}{cs:List Value}
theorem Qe9 {x:QC}(h:insC.In w O x cs):∃ a c b d,cs=[.int .i64 x.op,.int .i64 x.a,.int .i64 x.b,.int .i64 x.c,.int .i64 x.k,.int .i64 x.n,.slice a x.regs.length c,.slice b x.args.length d]/\intsL.In w O x.regs [.slice a x.regs.length c]/\intsL.In w O x.args [.slice b x.args.length d]/\x.regs.length<=c/\x.args.length<=d:=by
 obtain⟨_,_,rfl,⟨rfl,_⟩,_,_,rfl,⟨rfl,_⟩,_,_,rfl,⟨rfl,_⟩,_,_,rfl,⟨rfl,_⟩,_,_,rfl,⟨rfl,_⟩,_,_,rfl,⟨rfl,_⟩,_,_,rfl,⟨⟨a,c,rfl,e⟩,i⟩,⟨b,d,rfl,f⟩,g⟩:=h
 exact⟨a,c,b,d,Z,i,g,e,f⟩
theorem Qgu {x:MTo}(h:toC.In w O x cs):∃ a c b d,cs=[.int .i64 x.block,.slice a x.regs.length c,.slice b x.args.length d]/\intsL.In w O x.regs [.slice a x.regs.length c]/\intsL.In w O x.args [.slice b x.args.length d]/\x.regs.length<=c/\x.args.length<=d:=by
 obtain⟨_,_,rfl,⟨rfl,_⟩,_,_,rfl,⟨⟨a,c,rfl,e⟩,i⟩,⟨b,d,rfl,f⟩,g⟩:=h
 exact⟨a,c,b,d,Z,i,g,e,f⟩
theorem QiB {x:MEnd}(h:endC.In w O x cs):∃ e:EP,cs=(QaE x e).toList/\Qce w O x e/\x.yes.regs.length<=e.cYR/\x.no.regs.length<=e.cNR:=by
 obtain⟨_,_,rfl,⟨rfl,_⟩,_,_,rfl,⟨rfl,_⟩,A,_,rfl,o,B,_,rfl,r,⟨m,s,rfl,z⟩,u⟩:=h
 obtain⟨l,b,k,q,rfl,j,p,d,v⟩:=Qgu o
 obtain⟨c,n,a,g,rfl,f,i,t,y⟩:=Qgu r
 exact⟨⟨l,b,k,q,c,n,a,g,m,s⟩,Z,⟨j,p,f,i,u⟩,d,t⟩
end
theorem Qb4 (n:Nat):QN prog 35 intsC n (fun l=>l.length<1152921504606846976):=QN.listC underlying35 (by kernel_rfl) (Qbl n) (by decide) (by rw[show prog.bytesOf 3=8 from by kernel_rfl];decide)
theorem QhQ (n:Nat):QN prog 46 insC n (fun x=>x.regs.length<1152921504606846976/\x.args.length<1152921504606846976):=by
 have h:=QN.struct (n:=n) (A:=Lay.int.pair (Lay.int.pair (Lay.int.pair (Lay.int.pair (Lay.int.pair (Lay.int.pair (intsC.pair intsC))))))) underlying46 (by kernel_rfl) (QO.cons Z Z (Qbl n) (QO.cons Z Z (Qbl n) (QO.cons Z Z (Qbl n) (QO.cons Z Z (Qbl n) (QO.cons Z Z (Qbl n) (QO.cons Z Z (Qj8 n) (QO.cons Z Z (Qb4 n) (QO.last Z Z (Qb4 n)))))))));have e:=h.via (f:=fun x:QC=>(x.op,x.a,x.b,x.c,x.k,x.n,x.regs,x.args)) (fun d=>⟨d.1,d.2.1,d.2.2.1,d.2.2.2.1,d.2.2.2.2.1,d.2.2.2.2.2.1,d.2.2.2.2.2.2.1,d.2.2.2.2.2.2.2⟩) (fun d=>rfl);exact⟨e.1,fun l i g=>by obtain⟨d,m,j⟩:=e.2 l i g;exact⟨d,m,j.2.2.2.2.2.2⟩⟩
theorem QgD (n:Nat):QN prog 56 toC n (fun x=>x.regs.length<1152921504606846976/\x.args.length<1152921504606846976):=by
 have h:=QN.struct (n:=n) (A:=Lay.int.pair (intsC.pair intsC)) underlying56 (by kernel_rfl) (QO.cons Z Z (Qbl n) (QO.cons Z Z (Qb4 n) (QO.last Z Z (Qb4 n))));have a:=h.via (f:=fun x:MTo=>(x.block,x.regs,x.args)) (fun d=>⟨d.1,d.2.1,d.2.2⟩) (fun d=>rfl);exact⟨a.1,fun g c b=>by obtain⟨d,i,e⟩:=a.2 g c b;exact⟨d,i,e.2⟩⟩
theorem Qii (n:Nat):QN prog 58 endC n (fun x=>(x.yes.regs.length<1152921504606846976/\x.yes.args.length<1152921504606846976)/\(x.no.regs.length<1152921504606846976/\x.no.args.length<1152921504606846976)/\x.args.length<1152921504606846976):=by
 have h:=QN.struct (n:=n) (A:=Lay.int.pair (Lay.int.pair (toC.pair (toC.pair intsC)))) underlying58 (by kernel_rfl) (QO.cons Z Z (Qbl n) (QO.cons Z Z (Qbl n) (QO.cons Z Z (QgD n) (QO.cons Z Z (QgD n) (QO.last Z Z (Qb4 n))))));have b:=h.via (f:=fun x:MEnd=>(x.op,x.a,x.yes,x.no,x.args)) (fun d=>⟨d.1,d.2.1,d.2.2.1,d.2.2.2.1,d.2.2.2.2⟩) (fun d=>rfl);exact⟨b.1,fun i e c=>by obtain⟨d,j,g⟩:=b.2 i e c;exact⟨d,j,g.2.2⟩⟩
theorem QgZ (n:Nat):QN prog 25 insC.list n (fun l=>l.length<1152921504606846976):=QN.list underlying25 (by kernel_rfl) (QhQ n) (by decide) (by rw[show prog.bytesOf 46=96 from by kernel_rfl];decide)
theorem Qfw (n:Nat):QN prog 60 (Qa8 n) n (fun _=>True):=by
 have h:=QN.struct (n:=n) (A:=Lay.int.pair ((Qi n).pair (insC.list.pair endC))) underlying60 (by kernel_rfl) (QO.cons Z Z (Qbl n) (QO.cons Z Z (QfU n) (QO.cons Z Z (QgZ n) (QO.last Z Z (Qii n)))));have a:=h.via (f:=fun x:Qe n=>(x.regs,x.params,x.code,x.fin)) (fun d=>⟨d.1,d.2.1,d.2.2.1,d.2.2.2⟩) (fun d=>rfl);exact⟨a.1,fun e c b=>by obtain⟨d,g,i⟩:=a.2 e c b;exact⟨d,g,Y⟩⟩
theorem Qfq (n:Nat):QN prog 38 (Qa8 n).list n (fun l=>l.length<1152921504606846976):=QN.list underlying38 (by kernel_rfl) (Qfw n) (by show 0<12;decide) (by rw[show prog.bytesOf 60=208 from by kernel_rfl];decide)
theorem Qg6 (n:Nat):QN prog 40 (Qf1 n) n (fun _=>True):=by
 have h:=QN.struct (n:=n) (A:=Lay.int.pair ((Qi n).pair ((Qi n).pair (Qa8 n).list))) underlying40 (by kernel_rfl) (QO.cons Z Z (Qbl n) (QO.cons Z Z (QfU n) (QO.cons Z Z (QfU n) (QO.last Z Z (Qfq n)))));have a:=h.via (f:=fun x:Qf n=>(x.regs,x.params,x.results,x.blocks)) (fun d=>⟨d.1,d.2.1,d.2.2.1,d.2.2.2⟩) (fun d=>rfl);exact⟨a.1,fun e c b=>by obtain⟨d,g,i⟩:=a.2 e c b;exact⟨d,g,Y⟩⟩
theorem Qf8 (n:Nat):QN prog 22 (Qht n) n (fun l=>l.length<1152921504606846976):=QN.list underlying22 (by kernel_rfl) (Qg6 n) (by show 0<4;decide) (by rw[show prog.bytesOf 40=80 from by kernel_rfl];decide)
theorem QhP (n:Nat):QN prog 24 (Qht n) n (fun _=>True):=by
 have h:=QN.struct (n:=n) (A:=Qht n) underlying24 (by kernel_rfl) (QO.last Z Z (Qf8 n));exact⟨h.1,fun c b a=>by obtain⟨d,e,f⟩:=h.2 c b a;exact⟨d,e,Y⟩⟩
end
end Go.Proofs.YtlnkdhnibcenbaeGreat
