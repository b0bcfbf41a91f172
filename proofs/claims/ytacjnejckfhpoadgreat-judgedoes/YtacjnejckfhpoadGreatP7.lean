import Derived.Test.YtacjnejckfhpoadGreatP6
set_option maxHeartbeats 16000000
set_option maxRecDepth 100000
namespace Go.Proofs.YtacjnejckfhpoadGreat
open Go.ChangeShapes Go.WideShapes Go.ChangeAt Go.RowKit
set_option linter.unusedSimpArgs false
set_option linter.unusedVariables false
theorem Qem {w:World}{B0:Nat}{m:List (Qg 6)}{f:Qg 6}{g:Qh 6}{pm:Option Addr}{cm fi bi:Nat}(hB0:B0≤w.heap.size) (hm:(Qak 6).In w (fun g=>g<B0) m [.slice pm m.length cm]) (hf:m[fi]?=some f) (hg:f.blocks[bi]?=some g) (hc:∀ t∈g.params,t.count≤100000) (hn:g.params.length≤100000) :
 Calls Tryz.prog 22 #[.agg #[.slice pm m.length cm],.int .i64 (fi:Int),.int .i64 (bi:Int)] w fun e w'=>∃ B O',e=.returned (.pointer (some ⟨B,0,none⟩))∧Qb1 w' B O' (fun k=>O' k∨(B0≤k∧k<w.heap.size)) (JSt.start m f g)∧(∀ k,O' k→w.heap.size≤k∧k<w'.heap.size)∧Below w.heap.size w w':=by
 obtain⟨mg,mo,ds,rfl,-,-,hcs,hfn⟩:=Lay.list_at hm hf
 obtain⟨fa,fc,fb,fd,fe,ff,rfl,-,-,hbs,-⟩:=Zx hfn
 obtain⟨eg,eo,p1,d1,es,rfl,hrange,hes,hpar,hone⟩:=QaN hbs hg
 have hfi:(fi:Int)<m.length:=by have:=(List.getElem?_eq_some_iff.1 hf).1;omega
 have hbi:(bi:Int)<f.blocks.length:=by have:=(List.getElem?_eq_some_iff.1 hg).1;omega
 have hfi0:(0:Int)≤fi:=by omega
 have hbi0:(0:Int)≤bi:=by omega
 have v0:w.cell? ⟨mg,mo+fi*4,none⟩=some (.int .i64 f.regs):=hcs 0 (by decide);have v1:w.cell? ⟨mg,mo+fi*4+1,none⟩=some (.slice fa f.params.length fc):=hcs 1 (by decide);have v2:w.cell? ⟨mg,mo+fi*4+2,none⟩=some (.slice fb f.results.length fd):=hcs 2 (by decide);have v3:w.cell? ⟨mg,mo+fi*4+3,none⟩=some (.slice (some ⟨eg,eo,none⟩) f.blocks.length ff):=hcs 3 (by decide);have b1:=QO w (.cells #[.slice (some ⟨mg,mo,none⟩) m.length cm] 24);have hblk:=Qe w #[.slice (some ⟨mg,mo,none⟩) m.length cm] 24;have HM:Hid ((Qak 6).In w (fun g=>g<B0) m [.slice (some ⟨mg,mo,none⟩) m.length cm]):=hm;have HF:Hid ((Zs 6).In w (fun g=>g<B0) f [.int .i64 f.regs,.slice fa f.params.length fc,.slice fb f.results.length fd,.slice (some ⟨eg,eo,none⟩) f.blocks.length ff]):=hfn;have HP:Hid ((Qm 6).In w (fun g=>g<B0) g.params [.slice p1 g.params.length d1]):=hpar;have HRG:=Qa hrange;have HONE:=Qa hone;have HES:=Qa hes;have HC:=Qa hc;have HFI:=Qa hf;have HGI:=Qa hg;have x0:=Qb hblk 0 _ rfl;have u3:=Qi v3 b1;clear hcs hfn hbs hrange hes hpar hone hc hf hg hm hblk;go_enter Tryz.func22,Tryz.ntmps22
 have HB1:=Qa b1;have HRG1:Hid ((w.alloc (.cells #[.slice (some ⟨mg,mo,none⟩) m.length cm] 24)).rangeAt eg (eo+bi*12) (Value.int .i64 g.regs::Value.slice p1 g.params.length d1::es)):=Za HRG.out b1;have hl12:Hid ((Value.int .i64 g.regs::Value.slice p1 g.params.length d1::es).length=12):=by show _=_;simp[HES.out]
 have TS:Hid ((Tryz.prog.info? 84).map (·.size)=some (Value.int .i64 g.regs::Value.slice p1 g.params.length d1::es).length):=by show _=_;rw[hl12.out];exact sizeBk
 clear b1;go_upto_region 1 with fail
 obtain⟨X,hX⟩:∃ X,w.heap.size=X:=⟨_,rfl⟩
 have HX:Hid (w.heap.size=X):=hX;generalize w.alloc (.cells #[.slice (some ⟨mg,mo,none⟩) m.length cm] 24)=w1 at x0 u3 HB1 HRG1 ⊢;rw[hX] at x0 ⊢
 clear hX;generalize hds:(Value.int .i64 g.regs::Value.slice p1 g.params.length d1::es)=cs at HRG1 TS;have HDS:Hid ((Value.int .i64 g.regs::Value.slice p1 g.params.length d1::es)=cs):=hds;have hl:cs.length=12:=by rw[← hds];exact hl12.out
 have TH:Hid ((w1.alloc (.cells #[.int .i64 0,.slice none 0 0,.slice none 0 0,.int .i64 0,.int .i64 0,.int .i64 0,.slice none 0 0,.slice none 0 0,.int .i64 0,.slice none 0 0,.slice none 0 0,.slice none 0 0] 84)).there w1.heap.size 0 cs.toArray.size):=by
  intro j hj;rw[List.size_toArray,hl] at hj
  rw[Nat.zero_add]
  have hB:=Qe w1 #[.int .i64 0,.slice none 0 0,.slice none 0 0,.int .i64 0,.int .i64 0,.int .i64 0,.slice none 0 0,.slice none 0 0,.int .i64 0,.slice none 0 0,.slice none 0 0,.slice none 0 0] 84;refine⟨?_,Qp hB j⟩
  rw[Qb hB j ((#[.int .i64 0,.slice none 0 0,.slice none 0 0,.int .i64 0,.int .i64 0,.int .i64 0,.slice none 0 0,.slice none 0 0,.int .i64 0,.slice none 0 0,.slice none 0 0,.slice none 0 0]:Array Value)[j]'hj) (by simp)];rfl
 have TS2:Hid ((Tryz.prog.info? 84).map (·.size)=some cs.toArray.size):=by show _=_;rw[List.size_toArray];exact TS.out
 have TO:Hid (cs.toArray.all (·.oneCell')=true):=by
  refine all_oneCell_toArray fun v hv=>?_;rw[← hds] at hv
  simp only[List.mem_cons] at hv
  rcases hv with rfl | rfl | hv
  ·rfl
  ·rfl
  ·exact HONE.out v hv
 have B6:Hid (Blk ((w1.alloc (.cells #[.int .i64 0,.slice none 0 0,.slice none 0 0,.int .i64 0,.int .i64 0,.int .i64 0,.slice none 0 0,.slice none 0 0,.int .i64 0,.slice none 0 0,.slice none 0 0,.slice none 0 0] 84)).setCells w1.heap.size 0 cs.toArray.toList) w1.heap.size cs.toArray 84):=by
  have h0:Blk (w1.alloc (.cells #[.int .i64 0,.slice none 0 0,.slice none 0 0,.int .i64 0,.int .i64 0,.int .i64 0,.slice none 0 0,.slice none 0 0,.int .i64 0,.slice none 0 0,.slice none 0 0,.slice none 0 0] 84)) w1.heap.size ([]++(#[.int .i64 0,.slice none 0 0,.slice none 0 0,.int .i64 0,.int .i64 0,.int .i64 0,.slice none 0 0,.slice none 0 0,.int .i64 0,.slice none 0 0,.slice none 0 0,.slice none 0 0]:Array Value).toList).toArray 84:=Qe w1 _ _;exact Blk.sets cs [] (#[.int .i64 0,.slice none 0 0,.slice none 0 0,.int .i64 0,.int .i64 0,.int .i64 0,.slice none 0 0,.slice none 0 0,.int .i64 0,.slice none 0 0,.slice none 0 0,.slice none 0 0]:Array Value).toList _ (by rw[hl];rfl) h0
 have b6:Hid (Below w1.heap.size w1 ((w1.alloc (.cells #[.int .i64 0,.slice none 0 0,.slice none 0 0,.int .i64 0,.int .i64 0,.int .i64 0,.slice none 0 0,.slice none 0 0,.int .i64 0,.slice none 0 0,.slice none 0 0,.slice none 0 0] 84)).setCells w1.heap.size 0 cs.toArray.toList)):=by
  have:=Zj.setCells (O:=fun k=>k=w1.heap.size) (O':=fun k=>k=w1.heap.size) (b:=w1.heap.size) rfl cs.toArray.toList 0 _ (Zj.refl _ (w1.alloc (.cells #[.int .i64 0,.slice none 0 0,.slice none 0 0,.int .i64 0,.int .i64 0,.int .i64 0,.slice none 0 0,.slice none 0 0,.int .i64 0,.slice none 0 0,.slice none 0 0,.slice none 0 0] 84)))
  exact(QO w1 _).trans (this.below (by simp) (fun k hk=>by omega))
 have B6:Hid (Blk ((w1.alloc (.cells #[.int .i64 0,.slice none 0 0,.slice none 0 0,.int .i64 0,.int .i64 0,.int .i64 0,.slice none 0 0,.slice none 0 0,.int .i64 0,.slice none 0 0,.slice none 0 0,.slice none 0 0] 84)).setCells w1.heap.size 0 cs.toArray.toList) w1.heap.size (Value.int .i64 g.regs::Value.slice p1 g.params.length d1::es).toArray 84):=by rw[HDS.out];exact B6.out
 have BW:Hid (Below w.heap.size w ((w1.alloc (.cells #[.int .i64 0,.slice none 0 0,.slice none 0 0,.int .i64 0,.int .i64 0,.int .i64 0,.slice none 0 0,.slice none 0 0,.int .i64 0,.slice none 0 0,.slice none 0 0,.slice none 0 0] 84)).setCells w1.heap.size 0 cs.toArray.toList)):=HB1.out.trans (b6.out.mono HB1.out.size);have x06:=Qi x0 b6.out;clear hl hds;generalize hnm:m.length=nm at x0 x06 hfi;have HNM:Hid (m.length=nm):=hnm;generalize hnb:f.blocks.length=nb at u3 hbi;clear hnm hnb;go_upto_region 2 with (first | (refine wpList_load_mid rfl 84 (.tmp 15) rfl eg (eo+bi*12) rfl cs _ HRG1.out Tryz.underlying84 rfl TS.out ?_) | (refine wpList_store_mid rfl 84 (.tmp 7) (.tmp 16) rfl w1.heap.size 0 cs.toArray rfl rfl TH.out TS2.out TO.out ?_))
 clear TH TS TS2 TO u3 x0 HRG1 b6 HB1;generalize (w1.alloc (.cells #[.int .i64 0,.slice none 0 0,.slice none 0 0,.int .i64 0,.int .i64 0,.int .i64 0,.slice none 0 0,.slice none 0 0,.int .i64 0,.slice none 0 0,.slice none 0 0,.slice none 0 0] 84)).setCells w1.heap.size 0 cs.toArray.toList=w6 at B6 BW x06 ⊢;generalize w1.heap.size=Bk at B6 ⊢;have y0:=Qb B6.out 0 _ rfl;have y1:=Qb B6.out 1 _ rfl;have z0:=Qi v0 BW.out;have z1:=Qi v1 BW.out;have z2:=Qi v2 BW.out;have z3:=Qi v3 BW.out;have HP6:Hid ((Qm 6).In w6 (fun g=>g<B0) g.params [.slice p1 g.params.length d1]):=Lay.below HP.out BW.out;refine Code.wp_mono ?_ (ka2 x06 hfi z0 z1 z2 z3 y0 y1 (show Hid (g.params.length=g.params.length) from rfl) HP6 HC hn _ (by rfl) rfl rfl rfl rfl);rintro ee aa w7 ⟨rfl,vs,rfl,B,hv6,h,vL,O',r1,r2,r3,r4,r5,r6⟩;simp only[Q5,Act.put,List.setIfInBounds_toArray,List.set_cons_zero,List.set_cons_succ,hv6]
 have B7:Hid (Below w.heap.size w w7):=BW.out.trans (r6.mono BW.out.size)
 have Z:Hid (Qb1 w7 B O' (fun k=>O' k∨(B0≤k∧k<w.heap.size)) (JSt.start m f g)):=by
  rw[← HNM.out] at r1
  refine⟨_,_,_,_,_,_,_,_,h,vL,r1,(Qak 6).keep (fun k _ hl=>B7.out.block k hl) (fun k hk hl e=>?_) HM.out,(Zs 6).keep (fun k _ hl=>B7.out.block k hl) (fun k hk hl e=>?_) HF.out,r2,(by obtain⟨xs,q1,q2,q3⟩:=r3;exact⟨xs,q1,q2,fun i x hx=>(Lay.tt 6).keep (fun _ _ _=>rfl) (fun k hk _ e=>by rcases e with e | e;exact hk.1 e;(have h1:=hk.2;have h2:=BW.out.size;omega)) (q3 i x hx)⟩),r4,fun k hk=>.inl hk⟩
  ·have hk:k<B0:=hk;rcases e with e | e;(have:=(r5 k e).1;have:=BW.out.size;omega);omega
  ·have hk:k<B0:=hk;rcases e with e | e;(have:=(r5 k e).1;have:=BW.out.size;omega);omega
 have HO:Hid (∀ k,O' k→w.heap.size≤k∧k<w7.heap.size):=fun k hk=>⟨Nat.le_trans BW.out.size (r5 k hk).1,(r5 k hk).2⟩;clear r1 r2 r3 r4 r5 r6 y0 y1 z0 z1 z2 z3 x06 B6 BW;go_wp2
 go_ret;exact⟨B,rfl,O',Z.out,HO.out,B7.out⟩
def ZP (w:World) (bs bk B0:Nat) (s r:JSt):Prop :=
 ∃ OS OK A,SAt w bs OS A s∧Qb1 w bk OK A r∧(∀ k,OS k→OK k→False)∧(∀ k,A k→B0≤k∧k<w.heap.size)∧JOk s∧JOk r
section
variable {w w':World}{bs bk B0:Nat}{s r:JSt}
theorem ZP.below (h:ZP w bs bk B0 s r) (k:Below w.heap.size w w'):ZP w' bs bk B0 s r:=by
 obtain⟨OS,OK,A,h1,h2,h3,h4,h5,h6⟩:=h
 exact⟨OS,OK,A,h1.below k,h2.below k,h3,fun j hj=>⟨(h4 j hj).1,Nat.lt_of_lt_of_le (h4 j hj).2 k.size⟩,h5,h6⟩
theorem ZP.one (h:ZP w bs bk B0 s r):SOk w bs B0 s:=by
 obtain⟨OS,OK,A,h1,h2,h3,h4,h5,h6⟩:=h
 exact⟨OS,A,h1,h4,h5⟩
theorem ZP.known (h:ZP w bs bk B0 s r):∃ A,KAt w bk A r∧JOk r∧∀ k,A k→k<w.heap.size:=by
 obtain⟨OS,OK,A,h1,h2,h3,h4,h5,h6⟩:=h
 exact⟨A,h2.one,h6,fun k hk=>(h4 k hk).2⟩
theorem ZP.sins (h:ZP w bs bk B0 s r) (hB:B0≤w.heap.size){Q:Nat→Prop}{x:Qz}{rg ag:Option Addr}{rc ac:Nat}(hregs:intsL.In w Q x.regs [.slice rg x.regs.length rc]) (hargs:intsL.In w Q x.args [.slice ag x.args.length ac]) (hrc:x.regs.length≤rc) (hrng:Zq x) :
 Calls Tryz.prog 23 #[.pointer (some ⟨bs,0,none⟩),Qau x rg ag rc ac] w fun e w'=>e=.returned (.int .i64 (s.code x))∧ZP w' bs bk B0 (s.ins x) r∧Below B0 w w':=by
 obtain⟨OS,OK,A,h1,h2,h3,h4,h5,h6⟩:=h
 refine(QdE (fun k hk=>(h4 k hk).2) h5 h1 hregs hargs hrc hrng).mono ?_
 rintro e w' ⟨rfl,N,g1,g2,g3⟩;have es:=g3.size;refine⟨rfl,⟨_,OK,_,g2,?_,?_,?_,h5.ins x,h6⟩,⟨g3.os,g3.tape,g3.output,g3.size,fun k hk=>g3.block k (by omega) (fun e=>by have:=h4 k (h1.sub k e);omega)⟩⟩
 ·refine h2.keep (fun k hl hk=>g3.block k hl (fun e=>?_)) (fun _ h _=>h) (fun k hk hl e=>?_) (fun k hk=>.inl (h2.sub k hk))
  ·rcases hk with hk | hk
   ·exact h3 k e hk
   ·exact hk (h1.sub k e)
  ·rcases e with e | e
   ·exact hk e
   ·have:=g1 k e;omega
 ·intro k hk hk2;rcases hk with hk | hk
  ·exact h3 k hk hk2
  ·have:=(h4 k (h2.sub k hk2)).2;have:=g1 k hk;omega
 ·intro k hk;rcases hk with hk | hk
  ·have:=h4 k hk;omega
  ·have:=g1 k hk;omega
theorem ZP.kins (h:ZP w bs bk B0 s r) (hB:B0≤w.heap.size){Q:Nat→Prop}{x:Qz}{rg ag:Option Addr}{rc ac:Nat}(hregs:intsL.In w Q x.regs [.slice rg x.regs.length rc]) (hargs:intsL.In w Q x.args [.slice ag x.args.length ac]) (hrc:x.regs.length≤rc) :
 Calls Tryz.prog 24 #[.pointer (some ⟨bk,0,none⟩),Qau x rg ag rc ac] w fun e w'=>e=.returned (.int .i64 (r.code x))∧ZP w' bs bk B0 s (r.ins x)∧Below B0 w w':=by
 obtain⟨OS,OK,A,h1,h2,h3,h4,h5,h6⟩:=h
 refine(Qih (fun k hk=>(h4 k hk).2) h6 h2 hregs hargs hrc).mono ?_
 rintro e w' ⟨rfl,N,g1,g2,g3⟩;have es:=g3.size;refine⟨rfl,⟨OS,_,_,?_,g2,?_,?_,h5,h6.ins x⟩,⟨g3.os,g3.tape,g3.output,g3.size,fun k hk=>g3.block k (by omega) (fun e=>by have:=h4 k (h2.sub k e);omega)⟩⟩
 ·refine h1.keep (fun k hl hk=>g3.block k hl (fun e=>?_)) (fun _ h _=>h) (fun k hk hl e=>?_) (fun k hk=>.inl (h1.sub k hk))
  ·rcases hk with hk | hk
   ·exact h3 k hk e
   ·exact hk (h2.sub k e)
  ·rcases e with e | e
   ·exact hk e
   ·have:=g1 k e;omega
 ·intro k hk2 hk;rcases hk with hk | hk
  ·exact h3 k hk2 hk
  ·have:=(h4 k (h1.sub k hk2)).2;have:=g1 k hk;omega
 ·intro k hk;rcases hk with hk | hk
  ·have:=h4 k hk;omega
  ·have:=g1 k hk;omega
theorem ZP.start {O A O':Nat→Prop}(h1:SAt w bs O A s) (hA:∀ k,A k→B0≤k∧k<w.heap.size) (hJ:JOk s) (hJr:JOk r) (hb:Below w.heap.size w w') (hB:B0≤w.heap.size) (h2:Qb1 w' bk O' (fun k=>O' k∨(B0≤k∧k<w.heap.size)) r) (hO:∀ k,O' k→w.heap.size≤k∧k<w'.heap.size):ZP w' bs bk B0 s r:=by
 have hs:=hb.size;refine⟨O,O',fun k=>A k∨O' k,h1.keep (fun g hg _=>hb.block g hg) (fun _ h _=>h) (fun k hk hl e=>?_) (fun k hk=>.inl (h1.sub k hk)),h2.keep (fun _ _ _=>rfl) (fun _ h _=>h) (fun k hk hl e=>?_) (fun k hk=>.inr hk),fun k h h'=>?_,fun k hk=>?_,hJ,hJr⟩
 ·rcases e with e | e
  ·exact hk e
  ·have:=(hO k e).1;omega
 ·rcases e with e | e
  ·exact hk (.inr (hA k e))
  ·exact hk (.inl e)
 ·have:=(hA k (h1.sub k h)).2;have:=(hO k h').1;omega
 ·rcases hk with hk | hk
  ·have:=hA k hk;omega
  ·have:=hO k hk;omega
end
theorem Qj3 {w:World}{O:Nat→Prop}{x:MEnd}{cs:List Value}(h:endC.In w O x cs):∃ e:EP,cs=(Zz x e).toList∧QaU w O x e∧(-9223372036854775808≤x.a∧x.a≤9223372036854775807)∧x.yes.regs.length≤e.cYR∧x.no.regs.length≤e.cNR:=by
 obtain⟨e,h1,h2,h3,h4⟩:=Qh1 h
 refine⟨e,h1,h2,?_,h3,h4⟩
 obtain⟨_,_,rfl,⟨rfl,_⟩,_,_,rfl,⟨rfl,ha⟩,_⟩:=h
 exact ha
end Go.Proofs.YtacjnejckfhpoadGreat
namespace Go.Proofs.YtacjnejckfhpoadGreat
open Go.RowKit
set_option linter.unusedSimpArgs false
set_option linter.unusedVariables false
section
variable (E:Tmp→Value→World→Prop) (W:(Nat→Bool)→World→Prop) (R:World→World→Prop) (P:Program) (l:List Oper)
def QfO (i:Nat) (o:Oper):Prop:=∀ (S:Nat→Bool) w,S i=false→Qe1 o S→ZE l S→W S w→W (Qan i S) w∧EO E o.dst undef w
def Qcw (ops:Array Oper):List (Nat × Option Bool)→Prop
 | []=>True
 | (g,c)::r=>(∀ t,(ops[g]?).bind (·.dst)=some t→∀ v w,E t v w→match c with | some b=>v=.bool b | none=>v=undef)∧Qcw ops r
structure Qjw (outs:List Tmp) (a0:Act) (listed:Array Bool) (a:Act) (w:World):Prop where
 world:W (fun j=>listed.getD j false) w
 closed:ZE l (fun j=>listed.getD j false)
 defers:a.defers=a0.defers
 size:a.tmps.size=a0.tmps.size
 outer:∀ t,t ∉ Ql l→a.tmps[t]?=a0.tmps[t]?
 outs:∀ t∈outs,t ∉ Ql l→E t (a.tmps.getD t undef) w
 known:∀ j o t,l[j]?=some o→o.dst=some t→listed.getD j false=true→E t (a.tmps.getD t undef) w
end
section
variable {P:Program}{E:Tmp→Value→World→Prop}{W:(Nat→Bool)→World→Prop}{R:World→World→Prop}
theorem Qdo {ops:Array Oper}:∀ (gs:List (Nat × Option Bool)),Qcw E ops gs→∀ g c,gs.lookup g=some c→∀ t,(ops[g]?).bind (·.dst)=some t→∀ v w,E t v w→match c with | some b=>v=.bool b | none=>v=undef
 | [],_,_,_,h=>by simp at h
 | (g',c')::r,h,g,c,hl=>by
  by_cases e:g=g'
  ·subst e;simp at hl;subst hl;exact h.1
  ·have e':(g==g')=false:=by simpa using e
   simp[List.lookup_cons,e'] at hl;exact Qdo r h.2 g c hl
end
def Qk1 (l:List Oper) (S:Nat→Bool) (t:Tmp):Prop:=t∈Ql l→∃ j o,l[j]?=some o∧o.dst=some t∧S j=true
section
variable (E:Tmp→Value→World→Prop) (W:(Nat→Bool)→World→Prop) (P:Program) (l:List Oper)
def QhA (i:Nat) (o:Oper):Prop :=
 ∀ (S:Nat→Bool) a w,S i=false→Qe1 o S→ZE l S→W S w→Qgr E a w (Qga o)→∀ K:Act→World→Prop,(∀ v w',(∀ t u,Qk1 l S t→E t u w→E t u w')→W (Qan i S) w'→EO E o.dst v w'→K (a.put o.dst v) w')→o.wp P a w K (fun _ _ _=>False)
def AllOkP:Nat→List Oper→List Bool→Prop
 | i,o::r,true::bs=>QhA E W P l i o∧AllOkP (i+1) r bs
 | i,o::r,false::bs=>QfO E W l i o∧AllOkP (i+1) r bs
 | _,_,_=>True
end
section
variable {P:Program}{E:Tmp→Value→World→Prop}{W:(Nat→Bool)→World→Prop}
theorem Qfr {l0:List Oper}(gs:List (Nat × Option Bool)):∀ (l:List Oper) (k:Nat) (bs:List Bool),Qjv gs l bs=true→AllOkP E W P l0 k l bs→∀ (i:Nat) (o:Oper),l[i]?=some o→(onB gs o true=true∧QhA E W P l0 (k+i) o)∨(onB gs o false=true∧QfO E W l0 (k+i) o)
 | [],_,_,_,_,_,_,h=>by simp at h
 | _::_,_,[],h,_,_,_,_=>by simp[Qjv] at h
 | x::l,k,b::bs,h,ha,i,o,ho=>by
  simp only[Qjv,Bool.and_eq_true] at h
  cases i with
  | zero =>
   simp at ho;subst ho
   cases b with
   | true=>exact .inl ⟨h.1,ha.1⟩
   | false=>exact .inr ⟨h.1,ha.1⟩
  | succ i =>
   simp at ho
   have e:k+(i+1)=k+1+i:=by omega
   rw[e]
   cases b with
   | true=>exact Qfr gs l (k+1) bs h.2 ha.2 i o ho
   | false=>exact Qfr gs l (k+1) bs h.2 ha.2 i o ho
theorem Qgo {l:List Oper}{outs:List Tmp}{gs:List (Nat × Option Bool)}{bs:List Bool}{a0:Act}{Q:Exit→Act→World→Prop}
 (hB:QaY l a0.tmps.size outs gs bs=true) (hG:Qcw E l.toArray gs) (hA:AllOkP E W P l 0 l bs)
 (hend:∀ (vs:Tmp→Value) (S:Nat→Bool) w',(∀ j,j<l.length→S j=true)→W S w'→(∀ t,(Ql l).contains t=true→E t (vs t) w')→Q .normal (Q5 a0 vs (Ql l)) w') :
 ∀ (fuel:Nat) (listed:Array Bool) (a:Act) (w:World),listed.size=l.length→(listed.toList.filter (·==false)).length≤fuel→Qjw E W l outs a0 listed a w →
  wpAny P .any l.toArray Q fuel listed a w:=by
 simp only[QaY,Bool.and_eq_true] at hB
 obtain⟨⟨⟨⟨⟨hgd,hnd⟩,hsz⟩,hlk⟩,hon⟩,hbk⟩:=hB
 have fin:∀ (listed:Array Bool) (a:Act) (w:World),listed.size=l.length→Region.ready .any l.toArray listed=[]→Qjw E W l outs a0 listed a w→Q .normal a w:=by
  intro listed a w hs hr hc
  have hall:∀ j,j<l.length→listed.getD j false=true:=by
   intro j
   induction j using Nat.strongRecOn with
   | _ j ih =>
    intro hj
    cases hb:listed.getD j false with
    | true=>rfl
    | false =>
     exfalso
     have:j∈Region.ready .any l.toArray listed:=by
      unfold Region.ready;refine List.mem_filter.2 ⟨by simpa using hj,?_⟩
      have e1:listed.getD j true=false:=by
       have hj':j<listed.size:=by omega
       simp[Array.getD,hj'] at hb ⊢;exact hb
      have e2:l.toArray[j]?=some l[j]:=by simp[hj]
      rw[e1,e2]
      simp only[Bool.not_false,Bool.true_and,Option.map_some,Option.getD_some]
      rw[Array.all_eq_true_iff_forall_mem]
      intro e he
      cases hbd:Region.binds .any e with
      | false=>rfl
      | true =>
       have:=back_at l 0 j l[j] hbk (by simp[hj]) e he hbd
       simp only[Bool.not_true,Bool.false_or]
       exact ih e.on (by omega) (by omega)
     rw[hr] at this
     cases this
  have hmem:∀ t∈Ql l,E t (a.tmps.getD t undef) w∧t<a0.tmps.size:=by
   intro t ht;obtain⟨o,ho,hd⟩:=List.mem_filterMap.1 ht
   obtain⟨j,hj⟩:=List.getElem?_of_mem ho
   have hlt:j<l.length:=by
    rcases Nat.lt_or_ge j l.length with h | h
    ·exact h
    ·rw[List.getElem?_eq_none h] at hj;cases hj
   exact⟨hc.known j o t hj hd (hall j hlt),by simpa using List.all_eq_true.1 hsz t ht⟩
  have he:a=Q5 a0 (fun t=>a.tmps.getD t undef) (Ql l):=by
   have e1:a.tmps=(Q5 a0 (fun t=>a.tmps.getD t undef) (Ql l)).tmps:=by
    refine Array.ext (by rw[Z0,hc.size]) fun t h1 h2=>?_;have h3:t<a0.tmps.size:=by rw[← hc.size];exact h1
    have:=Qba (fun t=>a.tmps.getD t undef) (Ql l) a0 t h3
    rw[Array.getElem?_eq_getElem h2] at this
    by_cases hm:t∈Ql l
    ·rw[if_pos hm] at this
     simp only[Option.some.injEq] at this
     rw[this];simp[Array.getD,h1]
    ·rw[if_neg hm,← hc.outer t hm,Array.getElem?_eq_getElem h1] at this
     exact(Option.some.inj this).symm
   have e2:a.defers=(Q5 a0 (fun t=>a.tmps.getD t undef) (Ql l)).defers:=by rw[ZU,hc.defers]
   cases a with
   | mk t d =>
    simp only at e1 e2
    generalize hp:Q5 a0 (fun x=>t.getD x undef) (Ql l)=p at e1 e2 ⊢
    cases p;simp only at e1 e2;rw[e1,e2]
  rw[he]
  exact hend _ _ _ hall hc.world fun t ht=>(hmem t (by simpa using ht)).1
 intro fuel
 induction fuel with
 | zero =>
  intro listed a w hs hf hc
  have hr:Region.ready .any l.toArray listed=[]:=by
   rw[List.eq_nil_iff_forall_not_mem]
   intro i hi;obtain⟨h1,h2⟩:=List.mem_filter.1 hi
   have hlt:i<l.length:=by simpa using h1
   simp only[Bool.and_eq_true,Bool.not_eq_true'] at h2
   have:listed[i]'(by omega)=false:=by
    have:=h2.1;simp[Array.getD,show i<listed.size by omega] at this;exact this
   have hm:false∈listed.toList.filter (·==false):=List.mem_filter.2 ⟨by rw[← this];simp,by simp⟩
   have:=List.length_pos_of_mem hm
   omega
  exact⟨hr,fin listed a w hs hr hc⟩
 | succ fuel ih =>
  intro listed a w hs hf hc;refine⟨fun hr=>fin listed a w hs hr hc,fun i hi=>?_⟩
  obtain⟨h1,h2⟩:=List.mem_filter.1 hi
  have hlt:i<l.length:=by simpa using h1
  simp only[Bool.and_eq_true,Bool.not_eq_true'] at h2
  obtain⟨hun,hdone⟩:=h2
  have hil:i<listed.size:=by omega
  have hun':listed[i]=false:=by simp[Array.getD,hil] at hun;exact hun
  have ho:l.toArray[i]?=some l[i]:=by simp[hlt]
  have ho':l[i]?=some l[i]:=by simp[hlt]
  generalize hoo:l[i]=o at ho ho';rw[ho] at hdone
  simp only[Option.map_some,Option.getD_some] at hdone
  rw[Array.all_eq_true_iff_forall_mem] at hdone
  have hlooks:∀ t∈o.looksAt l.toArray,E t (a.tmps.getD t undef) w:=by
   intro t ht
   have:=List.all_eq_true.1 (List.all_eq_true.1 hlk o (List.mem_of_getElem? ho')) t ht
   rw[Bool.or_eq_true] at this
   rcases this with h | h
   ·simp only[Bool.and_eq_true,Bool.not_eq_true'] at h
    exact hc.outs t (by simpa using h.1) (by simpa using h.2)
   ·obtain⟨k,hk,h⟩:=Array.any_eq_true.1 h
    simp only[Bool.and_eq_true,beq_iff_eq] at h
    obtain⟨hb,hd⟩:=h
    have hl:=hdone _ (Array.getElem_mem hk);rw[hb] at hl
    simp only[Bool.not_true,Bool.false_or] at hl
    generalize o.after[k]=e at *;obtain⟨oj,hoj,hdj⟩:=Option.bind_eq_some_iff.1 hd
    exact hc.known e.on oj t (by simpa using hoj) hdj hl
  have hkn:Qgr E a w (Qga o):=QdF _ fun t ht=>hlooks t (by
   unfold Oper.looksAt;exact List.mem_append_left _ ht)
  have hw:∀ b,onB gs o b=true→Region.wanted o (yielded l.toArray a.tmps)=b:=by
   intro b hb;unfold onB at hb;unfold Region.wanted
   cases hg:o.guard with
   | none=>rw[hg] at hb;simp only at hb ⊢;exact hb.symm
   | some gw =>
    obtain⟨g,want⟩:=gw
    rw[hg] at hb
    simp only at hb ⊢
    cases hl:gs.lookup g with
    | none=>rw[hl] at hb;cases hb
    | some c =>
     rw[hl] at hb
     simp only[beq_iff_eq] at hb
     have hy:yielded l.toArray a.tmps g=c:=by
      unfold yielded;have hmg:(g,c)∈gs:=mem_of_lookup gs g c hl;have hsome:=List.all_eq_true.1 hgd _ hmg
      cases hd:(l.toArray[g]?).bind (·.dst) with
      | none=>rw[hd] at hsome;cases hsome
      | some t =>
       have hE:=hlooks t (by unfold Oper.looksAt;rw[hg];simp only[hd];simp);have hv:=Qdo gs hG g c hl t hd _ _ hE;obtain⟨og,hog,hdg⟩:=Option.bind_eq_some_iff.1 hd
       have htl:t<a.tmps.size:=by
        rw[hc.size]
        have:=List.all_eq_true.1 hsz t (List.mem_filterMap.2 ⟨og,List.mem_of_getElem? (by simpa using hog),hdg⟩)
        simpa using this
       have ht:a.tmps[t]?=some (a.tmps.getD t undef):=by simp[Array.getD,htl]
       simp only[Option.bind_some,ht]
       cases c with
       | none=>simp only at hv;rw[hv];rfl
       | some b=>simp only at hv;rw[hv]
     rw[hy,hb]
  have hlen:((listed.setIfInBounds i true).toList.filter (·==false)).length≤fuel:=by
   have h3:=filter_set listed.toList i (by simpa using hil) (by simpa using hun');rw[Array.toList_setIfInBounds]
   omega
  have hfun:(fun j=>(listed.setIfInBounds i true).getD j false)=Qan i (fun j=>listed.getD j false):=by
   funext j
   unfold Qan;by_cases e:j=i
   ·subst e;simp[Array.getD,hil]
   ·have hne:i≠j:=fun x=>e x.symm;rw[Array.getD_eq_getD_getElem?,Array.getElem?_setIfInBounds_ne hne,← Array.getD_eq_getD_getElem?]
    simp[e]
  have hdep:Qe1 o (fun j=>listed.getD j false):=fun e he hb=>by
   have:=hdone e he
   rw[hb] at this
   simpa using this
  have hi0:(fun j=>listed.getD j false) i=false:=by simp[Array.getD,hil,hun']
  have next:∀ v w',W (Qan i (fun j=>listed.getD j false)) w'→(∀ t u,Qk1 l (fun j=>listed.getD j false) t→E t u w→E t u w')→EO E o.dst v w'→Qjw E W l outs a0 (listed.setIfInBounds i true) (a.put o.dst v) w':=by
   intro v w' hw' hst hv
   have hput:∀ t,o.dst≠some t→(a.put o.dst v).tmps[t]?=a.tmps[t]?:=by
    intro t ht
    cases hd:o.dst with
    | none=>rfl
    | some d =>
     have:d≠t:=fun e=>ht (by rw[hd,e])
     simp[Act.put,this]
   have hgetD:∀ (b c:Array Value) (t:Nat),b[t]?=c[t]?→b.getD t undef=c.getD t undef:=by
    intro b c t h;rw[Array.getD_eq_getD_getElem?,Array.getD_eq_getD_getElem?,h]
   refine⟨by rw[hfun];exact hw',?_,?_,?_,?_,?_,?_⟩
   ·rw[hfun]
    intro j oj hj hS e he hbd;unfold Qan at hS ⊢;by_cases e':j=i
    ·subst e';rw[ho'] at hj
     obtain rfl:=Option.some.inj hj
     have:=hdep e he hbd
     simp only at this
     simp[this]
    ·have:(j==i)=false:=by simpa using e'
     rw[this,Bool.false_or] at hS
     have:=hc.closed j oj hj hS e he hbd
     simp only at this
     simp[this]
   ·rw[← hc.defers];cases o.dst<;>rfl
   ·rw[← hc.size];cases o.dst<;>simp[Act.put]
   ·intro t ht;rw[hput t (fun e=>ht (List.mem_filterMap.2 ⟨o,List.mem_of_getElem? ho',e⟩)),hc.outer t ht]
   ·intro t ht hn;rw[hgetD _ _ t (hput t (fun e=>hn (List.mem_filterMap.2 ⟨o,List.mem_of_getElem? ho',e⟩)))]
    exact hst _ _ (fun h=>absurd h hn) (hc.outs t ht hn)
   ·intro j oj t hj hd hlj;by_cases hji:j=i
    ·subst hji;rw[ho'] at hj
     obtain rfl:=Option.some.inj hj
     have htl:t<a.tmps.size:=by
      rw[hc.size]
      have:=List.all_eq_true.1 hsz t (List.mem_filterMap.2 ⟨o,List.mem_of_getElem? ho',hd⟩)
      simpa using this
     rw[hd] at hv ⊢
     have:(a.put (some t) v).tmps.getD t undef=v:=by simp[Act.put,Array.getD,htl]
     rw[this];exact hv
    ·have hne:o.dst≠some t:=fun e=>hji (nodup_apart l j i oj o t hnd hj ho' hd e);rw[hgetD _ _ t (hput t hne)]
     have hne':i≠j:=fun e=>hji e.symm
     have hdn:listed.getD j false=true:=by
      rw[Array.getD_eq_getD_getElem?,Array.getElem?_setIfInBounds_ne hne'] at hlj
      rw[Array.getD_eq_getD_getElem?];exact hlj
     exact hst _ _ (fun _=>⟨j,oj,hj,hd,hdn⟩) (hc.known j oj t hj hd hdn)
  unfold wpOp;rw[ho]
  simp only
  rcases Qfr gs l 0 bs hon hA i o ho' with ⟨h,hst⟩|⟨h,hst⟩
  ·rw[hw true h,if_pos rfl]
   refine .inl (wpq (fun a' w' hh=>hh) ((Nat.zero_add i ▸ hst) (fun j=>listed.getD j false) a w hi0 hdep hc.closed hc.world hkn _ fun v w' hr hw' hv=>?_));exact ih _ _ _ (by simpa using hs) hlen (next v w' hw' hr hv)
  ·rw[hw false h]
   simp only[Bool.false_eq_true,if_false]
   exact ih _ _ _ (by simpa using hs) hlen (next undef w ((Nat.zero_add i ▸ hst) (fun j=>listed.getD j false) w hi0 hdep hc.closed hc.world).1 (fun _ _ _ h=>h) ((Nat.zero_add i ▸ hst) (fun j=>listed.getD j false) w hi0 hdep hc.closed hc.world).2)
theorem Qdg {id:Nat}{l:List Oper}{outs:List Tmp}{gs:List (Nat × Option Bool)}{bs:List Bool}{a:Act}{w:World}{Q:Exit→Act→World→Prop}
 (E:Tmp→Value→World→Prop) (W:(Nat→Bool)→World→Prop)
 (hm:P.follows .mixedOrders=true) {n m:Nat} (hn:a.tmps.size=m) (hnm:n≤m) (hB:QaY l n outs gs bs=true)
 (hG:Qcw E l.toArray gs) (hW:W (fun _=>false) w.drew) (hO:Qbk E a w.drew outs)
 (hA:AllOkP E W P l 0 l bs)
 (hend:∀ (vs:Tmp→Value) (S:Nat→Bool) w',(∀ j,j<l.length→S j=true)→W S w'→(∀ t,(Ql l).contains t=true→E t (vs t) w')→Q .normal (Q5 a vs (Ql l)) w') :
 (Code.region id l.toArray true).wp P Q a w:=by
 refine wp_region_any hm ?_
 have e0:(fun j=>(Array.replicate l.length false).getD j false)=fun _=>false:=by
  funext j
  rw[Array.getD_eq_getD_getElem?,Array.getElem?_replicate]
  split<;>rfl
 have e1:l.toArray.size=l.length:=by simp
 rw[e1]
 refine Qgo (Qcb (hn ▸ hnm) hB) hG hA hend _ _ _ _ (by simp) ?_ ⟨by rw[e0];exact hW,(by rw[e0];intro j o _ h;cases h),rfl,rfl,fun _ _=>rfl,fun t ht _=>Qbg outs hO t ht,?_⟩
 ·simp only[Array.toList_replicate]
  exact Nat.le_trans (List.length_filter_le _ _) (by simp)
 ·intro j o t hj hd hl;simp[Array.getD] at hl
end
end Go.Proofs.YtacjnejckfhpoadGreat
namespace Go.Proofs.YtacjnejckfhpoadGreat
open Go.ChangeShapes Go.WideShapes Go.ChangeAt Go.RowKit
set_option linter.unusedVariables false
def Qcr (w:World) (l:List Int) (v:Value):Prop:=∃ a c,v=.slice a l.length c∧intsL.In w (fun _=>True) l [.slice a l.length c]
theorem Qcr.below {w w':World}{l:List Int}{v:Value}(h:Qcr w l v) (k:Below w.heap.size w w'):Qcr w' l v:=by
 obtain⟨a,c,e,h⟩:=h
 exact⟨a,c,e,Lay.below h k⟩
theorem QbZ.v {w w':World}{l:List Int}{e:Ending}(h:QbZ w l e w'):∃ v,e=.returned v∧Qcr w' l v∧Below w.heap.size w w':=by
 obtain⟨a,c,e,h,b⟩:=h
 exact⟨_,e,⟨a,c,rfl,Lay.mono h (fun _ _ _=>trivial)⟩,b⟩
theorem QgH {w:World}{l:List Int}{v u:Value}(hl:l.length≤100000) (hv:Qcr w l v) (hu:Qcr w l u) :
 Calls Tryz.prog 27 #[v,u] w fun e w'=>e=.returned (.bool true)∧Below w.heap.size w w':=by
 obtain⟨a,c,rfl,h⟩:=hv
 obtain⟨b,d,rfl,k⟩:=hu
 exact QfI rfl hl h k
end Go.Proofs.YtacjnejckfhpoadGreat
namespace Go.Proofs.YtacjnejckfhpoadGreat
open Go.ChangeShapes Go.WideShapes Go.ChangeAt Go.RowKit
set_option linter.unusedSimpArgs false
set_option linter.unusedVariables false
def QkD (l:List Oper) (ps:List Tmp) (i:Nat):Bool:=l.all fun o=>match o.dst with | some t=>!ps.contains t||Qbj l 24 o i | none=>true
theorem Qkf {l:List Oper}{ps:List Tmp}{i:Nat}{S:Nat→Bool}(h:QkD l ps i=true) (hcl:ZE l S) (hS:S i=false){t:Tmp}(ht:ps.contains t=true) (hm:(Ql l).contains t=true) (hL:Qk1 l S t):False:=by
 obtain⟨j,o,hj,hd,hs⟩:=hL (by simpa using hm)
 have h1:=List.all_eq_true.1 h o (List.mem_of_getElem? hj);rw[hd] at h1
 simp only at h1
 rw[ht,Bool.not_true,Bool.false_or] at h1
 have:=hcl.viab hj h1 hs
 rw[hS] at this;cases this
theorem Qe1.far {l:List Oper}{o:Oper}{S:Nat→Bool}(hd:Qe1 o S) (hcl:ZE l S){i:Nat}(hw:Qbj l 24 o i=true):S i=true :=
 QaZ (all:=l) (S:=fun j=>S j=true) hcl 24 o hw hd
theorem underInsT:∃ fs,Tryz.prog.underlying 59=some (.struct fs):=⟨_,Tryz.underlying59⟩
theorem sizeInsT:(Tryz.prog.info? 59).map (·.size)=some 8:=by kernel_rfl
theorem ZP.lists {w:World}{bs bk B0:Nat}{s r:JSt}(h:ZP w bs bk B0 s r):∃ hk aL cL O,w.cell? ⟨bk,5,none⟩=some (.pointer (some ⟨hk,0,none⟩))∧Qk w hk O r.H∧w.cell? ⟨bk,6,none⟩=some (.slice aL r.L.length cL)∧LIn w All r.L aL:=by
 obtain⟨A,h1,-,-⟩:=h.known
 obtain⟨pm,cm,a1,c1,a2,c2,a3,c3,hk,aL,cL,R⟩:=h1.read
 obtain⟨-,-,-,-,-,q5,q6⟩:=R.cells
 exact⟨hk,aL,cL,_,q5,R.holds,q6,(QI (R.row.typesL (c:=cL))).1⟩
def jW (wB:World) (bs bk:Nat) (x:Qz) (s:JSt) (S:Nat→Bool) (w:World):Prop :=
 Below wB.heap.size wB w∧ZP w bs bk wB.heap.size (bif S 5 then s.ins x else s) (bif S 11 then s.ins x else s)
theorem jW.same {wB w:World}{bs bk:Nat}{x:Qz}{s:JSt}{S:Nat→Bool}{j:Nat}(h:jW wB bs bk x s S w) (h5:5≠j) (h11:11≠j):jW wB bs bk x s (Qan j S) w:=by
 unfold jW;rw[ZM h5,ZM h11];exact h
theorem jW.more {wB w w':World}{bs bk:Nat}{x:Qz}{s:JSt}{S:Nat→Bool}{j:Nat}(h:jW wB bs bk x s S w) (b:Below w.heap.size w w') (h5:5≠j) (h11:11≠j):jW wB bs bk x s (Qan j S) w' :=
 jW.same (S:=S) ⟨h.1.trans (b.mono h.1.size),h.2.below b⟩ h5 h11
theorem jW.both {wB w:World}{bs bk:Nat}{x:Qz}{s:JSt}{S:Nat→Bool}(h:jW wB bs bk x s S w) (h5:S 5=true) (h11:S 11=true):ZP w bs bk wB.heap.size (s.ins x) (s.ins x):=by
 have h:=h.2;rw[h5,h11] at h;exact h
noncomputable def Qjl (x:Qz) (s:JSt):List (Tmp × (Value→World→Prop)):=[(140,fun v w=>∃ a c,v=.slice a (s.ins x).L.length c∧LIn w All (s.ins x).L a),(144,fun v w=>∃ a c,v=.slice a (s.ins x).L.length c∧LIn w All (s.ins x).L a),(152,fun v w=>∃ h,v=.pointer (some ⟨h,0,none⟩)∧Qu w h (s.ins x).H),(153,fun v w=>Qcr w (hList (s.ins x).H) v),(157,fun v w=>∃ h,v=.pointer (some ⟨h,0,none⟩)∧∃ O,Qk w h O (s.ins x).H),(158,fun v w=>Qcr w (hList (s.ins x).H) v),(166,fun v w=>∃ h,v=.pointer (some ⟨h,0,none⟩)∧Qu w h (s.ins x).H),(171,fun v w=>∃ h,v=.pointer (some ⟨h,0,none⟩)∧∃ O,Qk w h O (s.ins x).H),(172,fun v w=>∃ h,v=.pointer (some ⟨h,0,none⟩)∧∃ O,Qk w h O (s.ins x).H),(173,fun v w=>∃ h,v=.pointer (some ⟨h,0,none⟩)∧∃ O,Qk w h O (s.ins x).H),(174,fun v w=>∃ a c,v=.slice a (s.ins x).H.length c)]
noncomputable def Qk9 (bs bk lg lo nl cl i rc ac:Nat) (rg ag:Option Addr) (x:Qz) (s:JSt):List (Tmp × Value):=[(11,.pointer (some ⟨bs,0,none⟩)),(14,.pointer (some ⟨bk,0,none⟩)),(3,.slice (some ⟨lg,lo,none⟩) nl cl),(15,.int .i64 (i:Int)),(125,.pointer (some ⟨bs,0,none⟩)),(126,.slice (some ⟨lg,lo,none⟩) nl cl),(127,.int .i64 (i:Int)),(128,.pointer (some ⟨lg,lo+i*8,none⟩)),(129,Qau x rg ag rc ac),(130,.int .i64 (s.code x)),(131,.pointer (some ⟨bk,0,none⟩)),(132,.slice (some ⟨lg,lo,none⟩) nl cl),(133,.int .i64 (i:Int)),(134,.pointer (some ⟨lg,lo+i*8,none⟩)),(135,Qau x rg ag rc ac),(136,.int .i64 (s.code x)),(137,.bool false),(138,.bool false),(139,.pointer (some ⟨bs,0,none⟩)),(141,.pointer (some ⟨bk,0,none⟩)),(142,.pointer (some ⟨bk,0,none⟩)),(143,.pointer (some ⟨bk,6,none⟩)),(145,.bool true),(146,.bool false),(147,.bool false),(148,.bool false),(149,.pointer (some ⟨bs,0,none⟩)),(150,.pointer (some ⟨bs,0,none⟩)),(151,.pointer (some ⟨bs,1,none⟩)),(154,.pointer (some ⟨bk,0,none⟩)),(155,.pointer (some ⟨bk,0,none⟩)),(156,.pointer (some ⟨bk,5,none⟩)),(159,.bool true),(160,.bool false),(161,.bool false),(162,.bool false),(163,.pointer (some ⟨bs,0,none⟩)),(164,.pointer (some ⟨bs,0,none⟩)),(165,.pointer (some ⟨bs,1,none⟩)),(167,.int .i64 ((s.ins x).H.length:Int)),(168,.pointer (some ⟨bk,0,none⟩)),(169,.pointer (some ⟨bk,0,none⟩)),(170,.pointer (some ⟨bk,5,none⟩)),(175,.int .i64 ((s.ins x).H.length:Int)),(176,.bool false),(177,.bool false)]
def QfA (bs bk lg lo nl cl i rc ac:Nat) (rg ag:Option Addr) (x:Qz) (s:JSt) (t:Tmp) (v:Value) (w:World):Prop :=
 match (Qjl x s).lookup t with
 | some p=>p v w
 | none=>v=((Qk9 bs bk lg lo nl cl i rc ac rg ag x s).lookup t).getD undef
section
variable {bs bk lg lo nl cl i rc ac:Nat}{rg ag:Option Addr}{x:Qz}{s:JSt}
theorem QeL (t:Tmp) (v:Value) (w w':World) (hr:Below w.heap.size w w') (h:QfA bs bk lg lo nl cl i rc ac rg ag x s t v w):QfA bs bk lg lo nl cl i rc ac rg ag x s t v w':=by
 unfold QfA at h ⊢;split at h
 ·rename_i p hp
  simp only[Qjl,List.lookup_cons,List.lookup_nil] at hp
  split at hp
  ·cases hp;exact(by obtain⟨a,c,e,h1⟩:=h;exact⟨a,c,e,h1.below hr⟩)
  ·split at hp
   ·cases hp;exact(by obtain⟨a,c,e,h1⟩:=h;exact⟨a,c,e,h1.below hr⟩)
   ·split at hp
    ·cases hp;exact(by obtain⟨b,e,h1⟩:=h;exact⟨b,e,h1.below hr⟩)
    ·split at hp
     ·cases hp;exact Qcr.below h hr
     ·split at hp
      ·cases hp;exact(by obtain⟨b,e,O,h1⟩:=h;exact⟨b,e,O,h1.below hr⟩)
      ·split at hp
       ·cases hp;exact Qcr.below h hr
       ·split at hp
        ·cases hp;exact(by obtain⟨b,e,h1⟩:=h;exact⟨b,e,h1.below hr⟩)
        ·split at hp
         ·cases hp;exact(by obtain⟨b,e,O,h1⟩:=h;exact⟨b,e,O,h1.below hr⟩)
         ·split at hp
          ·cases hp;exact(by obtain⟨b,e,O,h1⟩:=h;exact⟨b,e,O,h1.below hr⟩)
          ·split at hp
           ·cases hp;exact(by obtain⟨b,e,O,h1⟩:=h;exact⟨b,e,O,h1.below hr⟩)
           ·split at hp
            ·cases hp;exact h
            ·cases hp
 ·exact h
theorem QeE {l:List Oper}{S:Nat→Bool}{j:Nat}(hl:QkD l [140,144,152,153,157,158,166,171,172,173,174] j=true) (hd:(([140,144,152,153,157,158,166,171,172,173,174]:List Tmp).all fun t=>(Ql l).contains t)=true) (hcl:ZE l S) (hS:S j=false) (w w':World) (t:Tmp) (v:Value) (hL:Qk1 l S t) (h:QfA bs bk lg lo nl cl i rc ac rg ag x s t v w):QfA bs bk lg lo nl cl i rc ac rg ag x s t v w':=by
 cases hc:([140,144,152,153,157,158,166,171,172,173,174]:List Tmp).contains t with
 | true=>exact(Qkf hl hcl hS hc (List.all_eq_true.1 hd t (by simpa using hc)) hL).elim
 | false =>
  have e:(Qjl x s).lookup t=none:=by
   simp only[List.contains_cons,List.contains_nil,Bool.or_false,Bool.or_eq_false_iff] at hc
   simp only[Qjl,List.lookup_cons,List.lookup_nil,hc]
  unfold QfA at h ⊢;rw[e] at h ⊢
  exact h
end
theorem QlS {bs bk lg lo nl cl i rc ac:Nat}{rg ag:Option Addr}{x:Qz}{s:JSt}{wB w6:World}{Q:Nat→Prop}(HB:Hid (Below wB.heap.size wB w6)) (HP:Hid (ZP w6 bs bk wB.heap.size s s)) (HRX:Hid (wB.rangeAt lg (lo+i*8) [.int .i64 x.op,.int .i64 x.a,.int .i64 x.b,.int .i64 x.c,.int .i64 x.k,.int .i64 x.n,.slice rg x.regs.length rc,.slice ag x.args.length ac])) (HG:Hid (intsL.In wB Q x.regs [.slice rg x.regs.length rc])) (HA:Hid (intsL.In wB Q x.args [.slice ag x.args.length ac])) (HC:Hid (x.regs.length≤rc)) (HN:Hid (Zq x)) (hi:(i:Int)<nl)
 (a:Act) (m:Nat) (hn:a.tmps.size=m) (hn':209≤m) (h11:a.tmps.getD 11 undef=.pointer (some ⟨bs,0,none⟩)) (h14:a.tmps.getD 14 undef=.pointer (some ⟨bk,0,none⟩)) (h3:a.tmps.getD 3 undef=.slice (some ⟨lg,lo,none⟩) nl cl) (h15:a.tmps.getD 15 undef=.int .i64 (i:Int)) :
 Code.wp Tryz.prog ((Tryz.f6.body.bind (Qj 17)).getD .skip) (fun e a' w'=>e=.normal∧∃ vs,a'=Q5 a vs [125,126,127,128,129,130,131,132,133,134,135,136,137,138,139,140,141,142,143,144,145,146,147,148,149,150,151,152,153,154,155,156,157,158,159,160,161,162,163,164,165,166,167,168,169,170,171,172,173,174,175,176,177]∧vs 177=.bool false∧Below wB.heap.size wB w'∧ZP w' bs bk wB.heap.size (s.ins x) (s.ins x)) a w6:=by
 conv=>arg 2;whnf
 refine Qdg (QfA bs bk lg lo nl cl i rc ac rg ag x s) (jW wB bs bk x s) (outs:=[11,14,3,15]) (gs:=[(13,some false),(23,some false),(37,some false)]) (bs:=[true,true,true,true,true,true,true,true,true,true,true,true,true,true,true,true,true,true,true,true,true,true,true,true,true,true,true,true,true,true,true,true,true,true,true,true,true,true,true,true,true,true,true,true,true,true,true,true,true,true,true,true,true]) (by kernel_rfl) (n:=209) hn hn' (by kernel_rfl) ?hG ⟨Qf HB.out 1,HP.out.below (Qf (Below.refl _ _) 1)⟩ ⟨h11,h14,h3,h15,trivial⟩ ?hA ?hend
 case hG=>exact⟨fun t ht v w h=>by cases ht;exact h,fun t ht v w h=>by cases ht;exact h,fun t ht v w h=>by cases ht;exact h,trivial⟩
 case hend=>exact fun vs S w' hS hW hk=>⟨rfl,vs,rfl,hk 177 (by kernel_rfl),hW.1,hW.both (hS 5 (by decide)) (hS 11 (by decide))⟩
 case hA =>
  refine⟨fun S a w hS hd hcl hW hk K hK=>?_,?_⟩
  ·obtain⟨k0,-⟩:=hk
   have k0:a.tmps.getD 11 undef=.pointer (some ⟨bs,0,none⟩):=k0;go_simp;exact hK _ _ (fun _ _ _ h=>h) (hW.same (by decide) (by decide)) rfl
  refine⟨fun S a w hS hd hcl hW hk K hK=>?_,?_⟩
  ·obtain⟨k0,-⟩:=hk
   have k0:a.tmps.getD 3 undef=.slice (some ⟨lg,lo,none⟩) nl cl:=k0;go_simp;exact hK _ _ (fun _ _ _ h=>h) (hW.same (by decide) (by decide)) rfl
  refine⟨fun S a w hS hd hcl hW hk K hK=>?_,?_⟩
  ·obtain⟨k0,-⟩:=hk
   have k0:a.tmps.getD 15 undef=.int .i64 (i:Int):=k0;go_simp;exact hK _ _ (fun _ _ _ h=>h) (hW.same (by decide) (by decide)) rfl
  refine⟨fun S a w hS hd hcl hW hk K hK=>?_,?_⟩
  ·obtain⟨k0,k1,-⟩:=hk
   have k0:a.tmps.getD 126 undef=.slice (some ⟨lg,lo,none⟩) nl cl:=k0;have k1:a.tmps.getD 127 undef=.int .i64 (i:Int):=k1;go_simp;exact hK _ _ (fun _ _ _ h=>h) (hW.same (by decide) (by decide)) rfl
  refine⟨fun S a w hS hd hcl hW hk K hK=>?_,?_⟩
  ·obtain⟨k0,-⟩:=hk
   have k0:a.tmps.getD 128 undef=.pointer (some ⟨lg,lo+i*8,none⟩):=k0;obtain⟨fs,hfs⟩:=underInsT
   refine wp_load_mid 59 (.tmp 128) rfl lg (lo+i*8) k0 [.int .i64 x.op,.int .i64 x.a,.int .i64 x.b,.int .i64 x.c,.int .i64 x.k,.int .i64 x.n,.slice rg x.regs.length rc,.slice ag x.args.length ac] _ (Za HRX.out hW.1) hfs rfl sizeInsT ?_;exact hK _ _ (fun _ _ _ h=>h) (hW.same (by decide) (by decide)) rfl
  refine⟨fun S a w hS hd hcl hW hk K hK=>?_,?_⟩
  ·obtain⟨k0,k1,-⟩:=hk
   have k0:a.tmps.getD 125 undef=.pointer (some ⟨bs,0,none⟩):=k0;have k1:a.tmps.getD 129 undef=Qau x rg ag rc ac:=k1;have hP:=hW.2;rw[hS] at hP
   go_simp;refine Calls.mono (ZP.sins (s:=s) hP hW.1.size (Lay.below HG.out hW.1) (Lay.below HA.out hW.1) HC.out HN.out) ?_;rintro r7 w7 ⟨rfl,p7,b7⟩;go_simp;refine hK _ _ (QeE (by kernel_rfl) (by kernel_rfl) hcl hS _ _) ⟨hW.1.trans b7,?_⟩ rfl;rw[QcD,ZM (by decide)];exact p7
  refine⟨fun S a w hS hd hcl hW hk K hK=>?_,?_⟩
  ·obtain⟨k0,-⟩:=hk
   have k0:a.tmps.getD 14 undef=.pointer (some ⟨bk,0,none⟩):=k0;go_simp;exact hK _ _ (fun _ _ _ h=>h) (hW.same (by decide) (by decide)) rfl
  refine⟨fun S a w hS hd hcl hW hk K hK=>?_,?_⟩
  ·obtain⟨k0,-⟩:=hk
   have k0:a.tmps.getD 3 undef=.slice (some ⟨lg,lo,none⟩) nl cl:=k0;go_simp;exact hK _ _ (fun _ _ _ h=>h) (hW.same (by decide) (by decide)) rfl
  refine⟨fun S a w hS hd hcl hW hk K hK=>?_,?_⟩
  ·obtain⟨k0,-⟩:=hk
   have k0:a.tmps.getD 15 undef=.int .i64 (i:Int):=k0;go_simp;exact hK _ _ (fun _ _ _ h=>h) (hW.same (by decide) (by decide)) rfl
  refine⟨fun S a w hS hd hcl hW hk K hK=>?_,?_⟩
  ·obtain⟨k0,k1,-⟩:=hk
   have k0:a.tmps.getD 132 undef=.slice (some ⟨lg,lo,none⟩) nl cl:=k0;have k1:a.tmps.getD 133 undef=.int .i64 (i:Int):=k1;go_simp;exact hK _ _ (fun _ _ _ h=>h) (hW.same (by decide) (by decide)) rfl
  refine⟨fun S a w hS hd hcl hW hk K hK=>?_,?_⟩
  ·obtain⟨k0,-⟩:=hk
   have k0:a.tmps.getD 134 undef=.pointer (some ⟨lg,lo+i*8,none⟩):=k0;obtain⟨fs,hfs⟩:=underInsT
   refine wp_load_mid 59 (.tmp 134) rfl lg (lo+i*8) k0 [.int .i64 x.op,.int .i64 x.a,.int .i64 x.b,.int .i64 x.c,.int .i64 x.k,.int .i64 x.n,.slice rg x.regs.length rc,.slice ag x.args.length ac] _ (Za HRX.out hW.1) hfs rfl sizeInsT ?_;exact hK _ _ (fun _ _ _ h=>h) (hW.same (by decide) (by decide)) rfl
  refine⟨fun S a w hS hd hcl hW hk K hK=>?_,?_⟩
  ·obtain⟨k0,k1,-⟩:=hk
   have k0:a.tmps.getD 131 undef=.pointer (some ⟨bk,0,none⟩):=k0;have k1:a.tmps.getD 135 undef=Qau x rg ag rc ac:=k1;have hP:=hW.2;rw[hS] at hP
   go_simp;refine Calls.mono (ZP.kins (r:=s) hP hW.1.size (Lay.below HG.out hW.1) (Lay.below HA.out hW.1) HC.out) ?_;rintro r7 w7 ⟨rfl,p7,b7⟩;go_simp;refine hK _ _ (QeE (by kernel_rfl) (by kernel_rfl) hcl hS _ _) ⟨hW.1.trans b7,?_⟩ rfl;rw[QcD,ZM (by decide)];exact p7
  refine⟨fun S a w hS hd hcl hW hk K hK=>?_,?_⟩
  ·obtain⟨k0,k1,-⟩:=hk
   have k0:a.tmps.getD 130 undef=.int .i64 (s.code x):=k0;have k1:a.tmps.getD 136 undef=.int .i64 (s.code x):=k1;go_simp;exact hK _ _ (fun _ _ _ h=>h) (hW.same (by decide) (by decide)) (by simp;rfl)
  refine⟨fun S a w hS hd hcl hW hk K hK=>?_,?_⟩
  ·obtain⟨k0,-⟩:=hk
   have k0:a.tmps.getD 137 undef=.bool false:=k0;go_simp;exact hK _ _ (fun _ _ _ h=>h) (hW.same (by decide) (by decide)) rfl
  refine⟨fun S a w hS hd hcl hW hk K hK=>?_,?_⟩
  ·obtain⟨k0,-⟩:=hk
   have k0:a.tmps.getD 11 undef=.pointer (some ⟨bs,0,none⟩):=k0;go_simp;exact hK _ _ (fun _ _ _ h=>h) (hW.same (by decide) (by decide)) rfl
  refine⟨fun S a w hS hd hcl hW hk K hK=>?_,?_⟩
  ·obtain⟨k0,-⟩:=hk
   have k0:a.tmps.getD 139 undef=.pointer (some ⟨bs,0,none⟩):=k0;have P2:=hW.both (hd.far hcl (by kernel_rfl)) (hd.far hcl (by kernel_rfl));go_simp;refine Calls.mono P2.one.types ?_;rintro r7 w7 ⟨a7,c7,rfl,g1,g2,b7⟩;go_simp;exact hK _ _ (fun t u _ h=>QeL t u _ _ b7 h) (hW.more b7 (by decide) (by decide)) ⟨a7,c7,rfl,g2.all⟩
  refine⟨fun S a w hS hd hcl hW hk K hK=>?_,?_⟩
  ·obtain⟨k0,-⟩:=hk
   have k0:a.tmps.getD 14 undef=.pointer (some ⟨bk,0,none⟩):=k0;go_simp;exact hK _ _ (fun _ _ _ h=>h) (hW.same (by decide) (by decide)) rfl
  refine⟨fun S a w hS hd hcl hW hk K hK=>?_,?_⟩
  ·obtain⟨k0,-⟩:=hk
   have k0:a.tmps.getD 141 undef=.pointer (some ⟨bk,0,none⟩):=k0;go_simp;exact hK _ _ (fun _ _ _ h=>h) (hW.same (by decide) (by decide)) rfl
  refine⟨fun S a w hS hd hcl hW hk K hK=>?_,?_⟩
  ·obtain⟨k0,-⟩:=hk
   have k0:a.tmps.getD 142 undef=.pointer (some ⟨bk,0,none⟩):=k0;go_simp;exact hK _ _ (fun _ _ _ h=>h) (hW.same (by decide) (by decide)) rfl
  refine⟨fun S a w hS hd hcl hW hk K hK=>?_,?_⟩
  ·obtain⟨k0,-⟩:=hk
   have k0:a.tmps.getD 143 undef=.pointer (some ⟨bk,6,none⟩):=k0;have P2:=hW.both (hd.far hcl (by kernel_rfl)) (hd.far hcl (by kernel_rfl));obtain⟨hk9,aL,cL,O9,q5,q6,q7,q8⟩:=P2.lists
   go_simp;exact hK _ _ (fun _ _ _ h=>h) (hW.same (by decide) (by decide)) ⟨aL,cL,rfl,q8⟩
  refine⟨fun S a w hS hd hcl hW hk K hK=>?_,?_⟩
  ·obtain⟨k0,k1,-⟩:=hk
   have k0:(fun (v:Value) (w:World)=>∃ a c,v=.slice a (s.ins x).L.length c∧LIn w All (s.ins x).L a) (a.tmps.getD 140 undef) w:=k0;generalize k0e:a.tmps.getD 140 undef=uk0 at k0;have k1:(fun (v:Value) (w:World)=>∃ a c,v=.slice a (s.ins x).L.length c∧LIn w All (s.ins x).L a) (a.tmps.getD 144 undef) w:=k1;generalize k1e:a.tmps.getD 144 undef=uk1 at k1;have P2:=hW.both (hd.far hcl (by kernel_rfl)) (hd.far hcl (by kernel_rfl));obtain⟨a7,c7,rfl,g1⟩:=k0
   obtain⟨a8,c8,rfl,g2⟩:=k1
   have HJ:=P2.one.ok;go_simp;refine Calls.mono (Qbv 6 (samet_any 6) (s.ins x).L (s.ins x).L a7 a8 c7 c8 w g1 g2 (by have:=HJ.vals;omega) (fun y hy=>Nat.le_trans (QZ (HJ.types y hy)) (by omega))) ?_;rintro r7 w7 ⟨⟨q7,rfl,hq7⟩,b7⟩;have e7:q7=true:=hq7.2 rfl;subst e7;go_simp;exact hK _ _ (fun t u _ h=>QeL t u _ _ b7 h) (hW.more b7 (by decide) (by decide)) rfl
  refine⟨fun S a w hS hd hcl hW hk K hK=>?_,?_⟩
  ·obtain⟨k0,-⟩:=hk
   have k0:a.tmps.getD 145 undef=.bool true:=k0;go_simp;exact hK _ _ (fun _ _ _ h=>h) (hW.same (by decide) (by decide)) rfl
  refine⟨fun S a w hS hd hcl hW hk K hK=>?_,?_⟩
  ·obtain⟨k0,k1,-⟩:=hk
   have k0:a.tmps.getD 138 undef=.bool false:=k0;have k1:a.tmps.getD 146 undef=.bool false:=k1;go_simp;exact hK _ _ (fun _ _ _ h=>h) (hW.same (by decide) (by decide)) rfl
  refine⟨fun S a w hS hd hcl hW hk K hK=>?_,?_⟩
  ·obtain⟨k0,-⟩:=hk
   have k0:a.tmps.getD 147 undef=.bool false:=k0;go_simp;exact hK _ _ (fun _ _ _ h=>h) (hW.same (by decide) (by decide)) rfl
  refine⟨fun S a w hS hd hcl hW hk K hK=>?_,?_⟩
  ·obtain⟨k0,-⟩:=hk
   have k0:a.tmps.getD 11 undef=.pointer (some ⟨bs,0,none⟩):=k0;go_simp;exact hK _ _ (fun _ _ _ h=>h) (hW.same (by decide) (by decide)) rfl
  refine⟨fun S a w hS hd hcl hW hk K hK=>?_,?_⟩
  ·obtain⟨k0,-⟩:=hk
   have k0:a.tmps.getD 149 undef=.pointer (some ⟨bs,0,none⟩):=k0;go_simp;exact hK _ _ (fun _ _ _ h=>h) (hW.same (by decide) (by decide)) rfl
  refine⟨fun S a w hS hd hcl hW hk K hK=>?_,?_⟩
  ·obtain⟨k0,-⟩:=hk
   have k0:a.tmps.getD 150 undef=.pointer (some ⟨bs,0,none⟩):=k0;go_simp;exact hK _ _ (fun _ _ _ h=>h) (hW.same (by decide) (by decide)) rfl
  refine⟨fun S a w hS hd hcl hW hk K hK=>?_,?_⟩
  ·obtain⟨k0,-⟩:=hk
   have k0:a.tmps.getD 151 undef=.pointer (some ⟨bs,1,none⟩):=k0;have P2:=hW.both (hd.far hcl (by kernel_rfl)) (hd.far hcl (by kernel_rfl));obtain⟨hh9,q1,q2⟩:=P2.one.held
   go_simp;exact hK _ _ (fun _ _ _ h=>h) (hW.same (by decide) (by decide)) ⟨hh9,rfl,q2⟩
  refine⟨fun S a w hS hd hcl hW hk K hK=>?_,?_⟩
  ·obtain⟨k0,-⟩:=hk
   have k0:(fun (v:Value) (w:World)=>∃ h,v=.pointer (some ⟨h,0,none⟩)∧Qu w h (s.ins x).H) (a.tmps.getD 152 undef) w:=k0;generalize k0e:a.tmps.getD 152 undef=uk0 at k0;obtain⟨h9,rfl,g1⟩:=k0
   go_simp;refine Calls.mono (QeN g1) ?_;intro r7 w7 o7;obtain⟨v7,rfl,i7,b7⟩:=o7.v
   go_simp;exact hK _ _ (fun t u _ h=>QeL t u _ _ b7 h) (hW.more b7 (by decide) (by decide)) i7
  refine⟨fun S a w hS hd hcl hW hk K hK=>?_,?_⟩
  ·obtain⟨k0,-⟩:=hk
   have k0:a.tmps.getD 14 undef=.pointer (some ⟨bk,0,none⟩):=k0;go_simp;exact hK _ _ (fun _ _ _ h=>h) (hW.same (by decide) (by decide)) rfl
  refine⟨fun S a w hS hd hcl hW hk K hK=>?_,?_⟩
  ·obtain⟨k0,-⟩:=hk
   have k0:a.tmps.getD 154 undef=.pointer (some ⟨bk,0,none⟩):=k0;go_simp;exact hK _ _ (fun _ _ _ h=>h) (hW.same (by decide) (by decide)) rfl
  refine⟨fun S a w hS hd hcl hW hk K hK=>?_,?_⟩
  ·obtain⟨k0,-⟩:=hk
   have k0:a.tmps.getD 155 undef=.pointer (some ⟨bk,0,none⟩):=k0;go_simp;exact hK _ _ (fun _ _ _ h=>h) (hW.same (by decide) (by decide)) rfl
  refine⟨fun S a w hS hd hcl hW hk K hK=>?_,?_⟩
  ·obtain⟨k0,-⟩:=hk
   have k0:a.tmps.getD 156 undef=.pointer (some ⟨bk,5,none⟩):=k0;have P2:=hW.both (hd.far hcl (by kernel_rfl)) (hd.far hcl (by kernel_rfl));obtain⟨hk9,aL,cL,O9,q5,q6,q7,q8⟩:=P2.lists
   go_simp;exact hK _ _ (fun _ _ _ h=>h) (hW.same (by decide) (by decide)) ⟨hk9,rfl,O9,q6⟩
  refine⟨fun S a w hS hd hcl hW hk K hK=>?_,?_⟩
  ·obtain⟨k0,-⟩:=hk
   have k0:(fun (v:Value) (w:World)=>∃ h,v=.pointer (some ⟨h,0,none⟩)∧∃ O,Qk w h O (s.ins x).H) (a.tmps.getD 157 undef) w:=k0;generalize k0e:a.tmps.getD 157 undef=uk0 at k0;have P2:=hW.both (hd.far hcl (by kernel_rfl)) (hd.far hcl (by kernel_rfl));obtain⟨h9,rfl,O9,g1⟩:=k0
   go_simp;refine Calls.mono (Qb0 (by have:=P2.one.ok.regs;omega) g1) ?_;intro r7 w7 o7;obtain⟨v7,rfl,i7,b7⟩:=o7.v
   go_simp;exact hK _ _ (fun t u _ h=>QeL t u _ _ b7 h) (hW.more b7 (by decide) (by decide)) i7
  refine⟨fun S a w hS hd hcl hW hk K hK=>?_,?_⟩
  ·obtain⟨k0,k1,-⟩:=hk
   have k0:(fun (v:Value) (w:World)=>Qcr w (hList (s.ins x).H) v) (a.tmps.getD 153 undef) w:=k0;generalize k0e:a.tmps.getD 153 undef=uk0 at k0;have k1:(fun (v:Value) (w:World)=>Qcr w (hList (s.ins x).H) v) (a.tmps.getD 158 undef) w:=k1;generalize k1e:a.tmps.getD 158 undef=uk1 at k1;have P2:=hW.both (hd.far hcl (by kernel_rfl)) (hd.far hcl (by kernel_rfl));have hle:(hList (s.ins x).H).length≤100000:=Nat.le_trans (Qbw _) (by have:=P2.one.ok.regs;omega);go_simp;refine Calls.mono (QgH hle k0 k1) ?_;rintro r7 w7 ⟨rfl,b7⟩;go_simp;exact hK _ _ (fun t u _ h=>QeL t u _ _ b7 h) (hW.more b7 (by decide) (by decide)) rfl
  refine⟨fun S a w hS hd hcl hW hk K hK=>?_,?_⟩
  ·obtain⟨k0,-⟩:=hk
   have k0:a.tmps.getD 159 undef=.bool true:=k0;go_simp;exact hK _ _ (fun _ _ _ h=>h) (hW.same (by decide) (by decide)) rfl
  refine⟨fun S a w hS hd hcl hW hk K hK=>?_,?_⟩
  ·obtain⟨k0,k1,-⟩:=hk
   have k0:a.tmps.getD 148 undef=.bool false:=k0;have k1:a.tmps.getD 160 undef=.bool false:=k1;go_simp;exact hK _ _ (fun _ _ _ h=>h) (hW.same (by decide) (by decide)) rfl
  refine⟨fun S a w hS hd hcl hW hk K hK=>?_,?_⟩
  ·obtain⟨k0,-⟩:=hk
   have k0:a.tmps.getD 161 undef=.bool false:=k0;go_simp;exact hK _ _ (fun _ _ _ h=>h) (hW.same (by decide) (by decide)) rfl
  refine⟨fun S a w hS hd hcl hW hk K hK=>?_,?_⟩
  ·obtain⟨k0,-⟩:=hk
   have k0:a.tmps.getD 11 undef=.pointer (some ⟨bs,0,none⟩):=k0;go_simp;exact hK _ _ (fun _ _ _ h=>h) (hW.same (by decide) (by decide)) rfl
  refine⟨fun S a w hS hd hcl hW hk K hK=>?_,?_⟩
  ·obtain⟨k0,-⟩:=hk
   have k0:a.tmps.getD 163 undef=.pointer (some ⟨bs,0,none⟩):=k0;go_simp;exact hK _ _ (fun _ _ _ h=>h) (hW.same (by decide) (by decide)) rfl
  refine⟨fun S a w hS hd hcl hW hk K hK=>?_,?_⟩
  ·obtain⟨k0,-⟩:=hk
   have k0:a.tmps.getD 164 undef=.pointer (some ⟨bs,0,none⟩):=k0;go_simp;exact hK _ _ (fun _ _ _ h=>h) (hW.same (by decide) (by decide)) rfl
  refine⟨fun S a w hS hd hcl hW hk K hK=>?_,?_⟩
  ·obtain⟨k0,-⟩:=hk
   have k0:a.tmps.getD 165 undef=.pointer (some ⟨bs,1,none⟩):=k0;have P2:=hW.both (hd.far hcl (by kernel_rfl)) (hd.far hcl (by kernel_rfl));obtain⟨hh9,q1,q2⟩:=P2.one.held
   go_simp;exact hK _ _ (fun _ _ _ h=>h) (hW.same (by decide) (by decide)) ⟨hh9,rfl,q2⟩
  refine⟨fun S a w hS hd hcl hW hk K hK=>?_,?_⟩
  ·obtain⟨k0,-⟩:=hk
   have k0:(fun (v:Value) (w:World)=>∃ h,v=.pointer (some ⟨h,0,none⟩)∧Qu w h (s.ins x).H) (a.tmps.getD 166 undef) w:=k0;generalize k0e:a.tmps.getD 166 undef=uk0 at k0;obtain⟨h9,rfl,g1⟩:=k0
   go_simp;refine Calls.mono (QfS g1) ?_;rintro r7 w7 ⟨rfl,hw7⟩;subst hw7;go_simp;exact hK _ _ (fun _ _ _ h=>h) (hW.same (by decide) (by decide)) rfl
  refine⟨fun S a w hS hd hcl hW hk K hK=>?_,?_⟩
  ·obtain⟨k0,-⟩:=hk
   have k0:a.tmps.getD 14 undef=.pointer (some ⟨bk,0,none⟩):=k0;go_simp;exact hK _ _ (fun _ _ _ h=>h) (hW.same (by decide) (by decide)) rfl
  refine⟨fun S a w hS hd hcl hW hk K hK=>?_,?_⟩
  ·obtain⟨k0,-⟩:=hk
   have k0:a.tmps.getD 168 undef=.pointer (some ⟨bk,0,none⟩):=k0;go_simp;exact hK _ _ (fun _ _ _ h=>h) (hW.same (by decide) (by decide)) rfl
  refine⟨fun S a w hS hd hcl hW hk K hK=>?_,?_⟩
  ·obtain⟨k0,-⟩:=hk
   have k0:a.tmps.getD 169 undef=.pointer (some ⟨bk,0,none⟩):=k0;go_simp;exact hK _ _ (fun _ _ _ h=>h) (hW.same (by decide) (by decide)) rfl
  refine⟨fun S a w hS hd hcl hW hk K hK=>?_,?_⟩
  ·obtain⟨k0,-⟩:=hk
   have k0:a.tmps.getD 170 undef=.pointer (some ⟨bk,5,none⟩):=k0;have P2:=hW.both (hd.far hcl (by kernel_rfl)) (hd.far hcl (by kernel_rfl));obtain⟨hk9,aL,cL,O9,q5,q6,q7,q8⟩:=P2.lists
   go_simp;exact hK _ _ (fun _ _ _ h=>h) (hW.same (by decide) (by decide)) ⟨hk9,rfl,O9,q6⟩
  refine⟨fun S a w hS hd hcl hW hk K hK=>?_,?_⟩
  ·obtain⟨k0,-⟩:=hk
   have k0:(fun (v:Value) (w:World)=>∃ h,v=.pointer (some ⟨h,0,none⟩)∧∃ O,Qk w h O (s.ins x).H) (a.tmps.getD 171 undef) w:=k0;generalize k0e:a.tmps.getD 171 undef=uk0 at k0;obtain⟨h9,rfl,O9,g1⟩:=k0
   go_simp;exact hK _ _ (fun _ _ _ h=>h) (hW.same (by decide) (by decide)) ⟨h9,rfl,O9,g1⟩
  refine⟨fun S a w hS hd hcl hW hk K hK=>?_,?_⟩
  ·obtain⟨k0,-⟩:=hk
   have k0:(fun (v:Value) (w:World)=>∃ h,v=.pointer (some ⟨h,0,none⟩)∧∃ O,Qk w h O (s.ins x).H) (a.tmps.getD 172 undef) w:=k0;generalize k0e:a.tmps.getD 172 undef=uk0 at k0;obtain⟨h9,rfl,O9,g1⟩:=k0
   go_simp;exact hK _ _ (fun _ _ _ h=>h) (hW.same (by decide) (by decide)) ⟨h9,rfl,O9,g1⟩
  refine⟨fun S a w hS hd hcl hW hk K hK=>?_,?_⟩
  ·obtain⟨k0,-⟩:=hk
   have k0:(fun (v:Value) (w:World)=>∃ h,v=.pointer (some ⟨h,0,none⟩)∧∃ O,Qk w h O (s.ins x).H) (a.tmps.getD 173 undef) w:=k0;generalize k0e:a.tmps.getD 173 undef=uk0 at k0;obtain⟨h9,rfl,O9,g1⟩:=k0
   obtain⟨a9,c9,q9,-⟩:=g1.cells
   go_simp;exact hK _ _ (fun _ _ _ h=>h) (hW.same (by decide) (by decide)) ⟨a9,c9,rfl⟩
  refine⟨fun S a w hS hd hcl hW hk K hK=>?_,?_⟩
  ·obtain⟨k0,-⟩:=hk
   have k0:(fun (v:Value) (w:World)=>∃ a c,v=.slice a (s.ins x).H.length c) (a.tmps.getD 174 undef) w:=k0;generalize k0e:a.tmps.getD 174 undef=uk0 at k0;obtain⟨a9,c9,rfl⟩:=k0
   go_simp;exact hK _ _ (fun _ _ _ h=>h) (hW.same (by decide) (by decide)) rfl
  refine⟨fun S a w hS hd hcl hW hk K hK=>?_,?_⟩
  ·obtain⟨k0,k1,-⟩:=hk
   have k0:a.tmps.getD 167 undef=.int .i64 ((s.ins x).H.length:Int):=k0;have k1:a.tmps.getD 175 undef=.int .i64 ((s.ins x).H.length:Int):=k1;go_simp;exact hK _ _ (fun _ _ _ h=>h) (hW.same (by decide) (by decide)) (by simp;rfl)
  refine⟨fun S a w hS hd hcl hW hk K hK=>?_,?_⟩
  ·obtain⟨k0,k1,-⟩:=hk
   have k0:a.tmps.getD 162 undef=.bool false:=k0;have k1:a.tmps.getD 176 undef=.bool false:=k1;go_simp;exact hK _ _ (fun _ _ _ h=>h) (hW.same (by decide) (by decide)) rfl
  trivial
def Qkj (bs bk X hh hk cK:Nat) (f:Int) (aK:Option Addr) (x:MEnd) (e:EP) (s:JSt) (t:Tmp) (v:Value) (w:World):Prop :=
 match ([(202,fun v w=>∃ a c,v=.slice a s.L.length c∧LIn w All s.L a)]:List (Tmp × (Value→World→Prop))).lookup t with
 | some p=>p v w
 | none=>v=(([(11,.pointer (some ⟨bs,0,none⟩)),(14,.pointer (some ⟨bk,0,none⟩)),(1,.int .i64 f),(9,.pointer (some ⟨X,0,none⟩)),(178,.pointer (some ⟨bs,0,none⟩)),(179,.agg (Zz x e)),(180,.int .i64 (s.fin x)),(181,.pointer (some ⟨bk,0,none⟩)),(182,.agg (Zz x e)),(183,.int .i64 (s.fin x)),(184,.bool true),(185,.bool true),(186,.pointer (some ⟨bs,0,none⟩)),(187,.pointer (some ⟨bs,0,none⟩)),(188,.pointer (some ⟨bs,1,none⟩)),(189,.pointer (some ⟨hh,0,none⟩)),(190,.int .i64 f),(191,.bool (hHas s.H f)),(192,.pointer (some ⟨bk,0,none⟩)),(193,.pointer (some ⟨bk,0,none⟩)),(194,.pointer (some ⟨bk,5,none⟩)),(195,.pointer (some ⟨hk,0,none⟩)),(196,.int .i64 f),(197,.bool (hHas s.H f)),(198,.bool true),(199,.bool true),(200,.bool true),(201,.pointer (some ⟨bs,0,none⟩)),(203,.pointer (some ⟨bk,0,none⟩)),(204,.pointer (some ⟨bk,0,none⟩)),(205,.pointer (some ⟨bk,6,none⟩)),(206,.slice aK s.L.length cK),(207,.bool true),(208,.bool true),(10,.bool true)]:List (Tmp × Value)).lookup t).getD undef
theorem Ql0 {w6:World}{bs bk X hh hk cK B0:Nat}{f:Int}{aK:Option Addr}{x:MEnd}{e:EP}{s:JSt}{A Q OH:Nat→Prop}(HP:Hid (ZP w6 bs bk B0 s s)) (HKN:Hid (KAt w6 bk A s)) (HJ:Hid (JOk s)) (HRX:Hid (w6.rangeAt X 0 (Zz x e).toList)) (HE:Hid (QaU w6 Q x e)) (hra:-9223372036854775808≤x.a∧x.a≤9223372036854775807) (hsz:x.yes.regs.length<2305843009213693952∧x.yes.args.length<2305843009213693952∧x.no.regs.length<2305843009213693952∧x.no.args.length<2305843009213693952) (hcap:x.yes.regs.length≤e.cYR∧x.no.regs.length≤e.cNR) (hsz2:x.yes.regs.length≤100000∧x.yes.args.length≤100000∧x.no.regs.length≤100000∧x.no.args.length≤100000) (HH:Hid (Qu w6 hh s.H)) (HHK:Hid (Qk w6 hk OH s.H)) (HRW:Hid (LIn w6 All s.L aK)) (q1:w6.cell? ⟨bs,1,none⟩=some (.pointer (some ⟨hh,0,none⟩))) (q5:w6.cell? ⟨bk,5,none⟩=some (.pointer (some ⟨hk,0,none⟩))) (q6:w6.cell? ⟨bk,6,none⟩=some (.slice aK s.L.length cK))
 (a:Act) (m:Nat) (hn:a.tmps.size=m) (hn':209≤m) (h11:a.tmps.getD 11 undef=.pointer (some ⟨bs,0,none⟩)) (h14:a.tmps.getD 14 undef=.pointer (some ⟨bk,0,none⟩)) (h1:a.tmps.getD 1 undef=.int .i64 f) (h9:a.tmps.getD 9 undef=.pointer (some ⟨X,0,none⟩)) :
 Code.wp Tryz.prog ((Tryz.f6.body.bind (Qj 19)).getD .skip) (fun e a' w'=>e=.normal∧∃ vs,a'=Q5 a vs [178,179,180,181,182,183,184,185,186,187,188,189,190,191,192,193,194,195,196,197,198,199,200,201,202,203,204,205,206,207,208,10]∧vs 10=.bool true∧Below w6.heap.size w6 w') a w6:=by
 conv=>arg 2;whnf
 refine Qx (Qkj bs bk X hh hk cK f aK x e s) (fun w=>Below w6.heap.size w6 w) (fun w w'=>Below w.heap.size w w') (outs:=[11,14,1,9]) (gs:=[(7,some true),(22,some true)]) (bs:=[true,true,true,true,true,true,true,true,true,true,true,true,true,true,true,true,true,true,true,true,true,true,true,true,true,true,true,true,true,true,true,true]) (by kernel_rfl) (n:=209) hn hn' (by kernel_rfl) ?hR ?hG (Qf (Below.refl _ _) 1) ⟨h11,h14,h1,h9,trivial⟩ ?hA ?hend
 case hR =>
  intro t v w w' hr h;unfold Qkj at h ⊢;split at h
  ·rename_i p hp
   simp only[List.lookup_cons,List.lookup_nil] at hp
   split at hp
   ·cases hp;exact(by obtain⟨a,c,e,h1⟩:=h;exact⟨a,c,e,h1.below hr⟩)
   ·cases hp
  ·exact h
 case hG=>exact⟨fun t ht v w _ h=>by cases ht;exact h,fun t ht v w _ h=>by cases ht;exact h,trivial⟩
 case hend=>exact fun vs w' hW hk=>⟨rfl,vs,rfl,hk 10 (by kernel_rfl),hW⟩
 case hA =>
  refine⟨fun a w hW hk K hK=>?_,?_⟩
  ·obtain⟨k0,-⟩:=hk
   have k0:a.tmps.getD 11 undef=.pointer (some ⟨bs,0,none⟩):=k0;go_simp;exact hK _ _ (Below.refl _ _) hW rfl
  refine⟨fun a w hW hk K hK=>?_,?_⟩
  ·obtain⟨k0,-⟩:=hk
   have k0:a.tmps.getD 9 undef=.pointer (some ⟨X,0,none⟩):=k0;obtain⟨fs,hfs⟩:=underEnd
   refine wp_load_mid 47 (.tmp 9) rfl X 0 k0 (Zz x e).toList _ (Za HRX.out hW) hfs rfl sizeEnd ?_;exact hK _ _ (Below.refl _ _) hW rfl
  refine⟨fun a w hW hk K hK=>?_,?_⟩
  ·obtain⟨k0,k1,-⟩:=hk
   have k0:a.tmps.getD 178 undef=.pointer (some ⟨bs,0,none⟩):=k0;have k1:a.tmps.getD 179 undef=.agg (Zz x e):=k1;go_simp;refine Calls.mono (((HP.out.below hW).one).end_ (HE.out.below hW) hra hsz) ?_;rintro r7 w7 ⟨rfl,b7⟩;go_simp;exact hK _ _ b7 (hW.trans (b7.mono hW.size)) rfl
  refine⟨fun a w hW hk K hK=>?_,?_⟩
  ·obtain⟨k0,-⟩:=hk
   have k0:a.tmps.getD 14 undef=.pointer (some ⟨bk,0,none⟩):=k0;go_simp;exact hK _ _ (Below.refl _ _) hW rfl
  refine⟨fun a w hW hk K hK=>?_,?_⟩
  ·obtain⟨k0,-⟩:=hk
   have k0:a.tmps.getD 9 undef=.pointer (some ⟨X,0,none⟩):=k0;obtain⟨fs,hfs⟩:=underEnd
   refine wp_load_mid 47 (.tmp 9) rfl X 0 k0 (Zz x e).toList _ (Za HRX.out hW) hfs rfl sizeEnd ?_;exact hK _ _ (Below.refl _ _) hW rfl
  refine⟨fun a w hW hk K hK=>?_,?_⟩
  ·obtain⟨k0,k1,-⟩:=hk
   have k0:a.tmps.getD 181 undef=.pointer (some ⟨bk,0,none⟩):=k0;have k1:a.tmps.getD 182 undef=.agg (Zz x e):=k1;go_simp;refine Calls.mono (QiX HJ.out (HKN.out.below hW) (HE.out.below hW) hcap hsz2) ?_;rintro r7 w7 ⟨rfl,b7⟩;go_simp;exact hK _ _ b7 (hW.trans (b7.mono hW.size)) rfl
  refine⟨fun a w hW hk K hK=>?_,?_⟩
  ·obtain⟨k0,k1,-⟩:=hk
   have k0:a.tmps.getD 180 undef=.int .i64 (s.fin x):=k0;have k1:a.tmps.getD 183 undef=.int .i64 (s.fin x):=k1;go_simp;exact hK _ _ (Below.refl _ _) hW rfl
  refine⟨fun a w hW hk K hK=>?_,?_⟩
  ·obtain⟨k0,-⟩:=hk
   have k0:a.tmps.getD 184 undef=.bool true:=k0;go_simp;exact hK _ _ (Below.refl _ _) hW rfl
  refine⟨fun a w hW hk K hK=>?_,?_⟩
  ·obtain⟨k0,-⟩:=hk
   have k0:a.tmps.getD 11 undef=.pointer (some ⟨bs,0,none⟩):=k0;go_simp;exact hK _ _ (Below.refl _ _) hW rfl
  refine⟨fun a w hW hk K hK=>?_,?_⟩
  ·obtain⟨k0,-⟩:=hk
   have k0:a.tmps.getD 186 undef=.pointer (some ⟨bs,0,none⟩):=k0;go_simp;exact hK _ _ (Below.refl _ _) hW rfl
  refine⟨fun a w hW hk K hK=>?_,?_⟩
  ·obtain⟨k0,-⟩:=hk
   have k0:a.tmps.getD 187 undef=.pointer (some ⟨bs,0,none⟩):=k0;go_simp;exact hK _ _ (Below.refl _ _) hW rfl
  refine⟨fun a w hW hk K hK=>?_,?_⟩
  ·obtain⟨k0,-⟩:=hk
   have k0:a.tmps.getD 188 undef=.pointer (some ⟨bs,1,none⟩):=k0;have c0:=Qi q1 hW;go_simp;exact hK _ _ (Below.refl _ _) hW rfl
  refine⟨fun a w hW hk K hK=>?_,?_⟩
  ·obtain⟨k0,-⟩:=hk
   have k0:a.tmps.getD 1 undef=.int .i64 f:=k0;go_simp;exact hK _ _ (Below.refl _ _) hW rfl
  refine⟨fun a w hW hk K hK=>?_,?_⟩
  ·obtain⟨k0,k1,-⟩:=hk
   have k0:a.tmps.getD 189 undef=.pointer (some ⟨hh,0,none⟩):=k0;have k1:a.tmps.getD 190 undef=.int .i64 f:=k1;go_simp;refine Calls.mono (QbH f (HH.out.below hW)) ?_;rintro r7 w7 ⟨rfl,hw7⟩;subst hw7;go_simp;exact hK _ _ (Below.refl _ _) hW rfl
  refine⟨fun a w hW hk K hK=>?_,?_⟩
  ·obtain⟨k0,-⟩:=hk
   have k0:a.tmps.getD 14 undef=.pointer (some ⟨bk,0,none⟩):=k0;go_simp;exact hK _ _ (Below.refl _ _) hW rfl
  refine⟨fun a w hW hk K hK=>?_,?_⟩
  ·obtain⟨k0,-⟩:=hk
   have k0:a.tmps.getD 192 undef=.pointer (some ⟨bk,0,none⟩):=k0;go_simp;exact hK _ _ (Below.refl _ _) hW rfl
  refine⟨fun a w hW hk K hK=>?_,?_⟩
  ·obtain⟨k0,-⟩:=hk
   have k0:a.tmps.getD 193 undef=.pointer (some ⟨bk,0,none⟩):=k0;go_simp;exact hK _ _ (Below.refl _ _) hW rfl
  refine⟨fun a w hW hk K hK=>?_,?_⟩
  ·obtain⟨k0,-⟩:=hk
   have k0:a.tmps.getD 194 undef=.pointer (some ⟨bk,5,none⟩):=k0;have c0:=Qi q5 hW;go_simp;exact hK _ _ (Below.refl _ _) hW rfl
  refine⟨fun a w hW hk K hK=>?_,?_⟩
  ·obtain⟨k0,-⟩:=hk
   have k0:a.tmps.getD 1 undef=.int .i64 f:=k0;go_simp;exact hK _ _ (Below.refl _ _) hW rfl
  refine⟨fun a w hW hk K hK=>?_,?_⟩
  ·obtain⟨k0,k1,-⟩:=hk
   have k0:a.tmps.getD 195 undef=.pointer (some ⟨hk,0,none⟩):=k0;have k1:a.tmps.getD 196 undef=.int .i64 f:=k1;go_simp;refine Calls.mono (Qbu f (by have:=HJ.out.regs;omega) (HHK.out.below hW)) ?_;rintro r7 w7 ⟨rfl,hw7⟩;subst hw7;go_simp;exact hK _ _ (Below.refl _ _) hW rfl
  refine⟨fun a w hW hk K hK=>?_,?_⟩
  ·obtain⟨k0,k1,-⟩:=hk
   have k0:a.tmps.getD 191 undef=.bool (hHas s.H f):=k0;have k1:a.tmps.getD 197 undef=.bool (hHas s.H f):=k1;go_simp;exact hK _ _ (Below.refl _ _) hW (by simp;rfl)
  refine⟨fun a w hW hk K hK=>?_,?_⟩
  ·obtain⟨k0,k1,-⟩:=hk
   have k0:a.tmps.getD 185 undef=.bool true:=k0;have k1:a.tmps.getD 198 undef=.bool true:=k1;go_simp;exact hK _ _ (Below.refl _ _) hW rfl
  refine⟨fun a w hW hk K hK=>?_,?_⟩
  ·obtain⟨k0,-⟩:=hk
   have k0:a.tmps.getD 199 undef=.bool true:=k0;go_simp;exact hK _ _ (Below.refl _ _) hW rfl
  refine⟨fun a w hW hk K hK=>?_,?_⟩
  ·obtain⟨k0,-⟩:=hk
   have k0:a.tmps.getD 11 undef=.pointer (some ⟨bs,0,none⟩):=k0;go_simp;exact hK _ _ (Below.refl _ _) hW rfl
  refine⟨fun a w hW hk K hK=>?_,?_⟩
  ·obtain⟨k0,-⟩:=hk
   have k0:a.tmps.getD 201 undef=.pointer (some ⟨bs,0,none⟩):=k0;go_simp;refine Calls.mono ((HP.out.below hW).one).types ?_;rintro r7 w7 ⟨a7,c7,rfl,g1,g2,b7⟩;go_simp;exact hK _ _ b7 (hW.trans (b7.mono hW.size)) ⟨a7,c7,rfl,g2.all⟩
  refine⟨fun a w hW hk K hK=>?_,?_⟩
  ·obtain⟨k0,-⟩:=hk
   have k0:a.tmps.getD 14 undef=.pointer (some ⟨bk,0,none⟩):=k0;go_simp;exact hK _ _ (Below.refl _ _) hW rfl
  refine⟨fun a w hW hk K hK=>?_,?_⟩
  ·obtain⟨k0,-⟩:=hk
   have k0:a.tmps.getD 203 undef=.pointer (some ⟨bk,0,none⟩):=k0;go_simp;exact hK _ _ (Below.refl _ _) hW rfl
  refine⟨fun a w hW hk K hK=>?_,?_⟩
  ·obtain⟨k0,-⟩:=hk
   have k0:a.tmps.getD 204 undef=.pointer (some ⟨bk,0,none⟩):=k0;go_simp;exact hK _ _ (Below.refl _ _) hW rfl
  refine⟨fun a w hW hk K hK=>?_,?_⟩
  ·obtain⟨k0,-⟩:=hk
   have k0:a.tmps.getD 205 undef=.pointer (some ⟨bk,6,none⟩):=k0;have c0:=Qi q6 hW;go_simp;exact hK _ _ (Below.refl _ _) hW rfl
  refine⟨fun a w hW hk K hK=>?_,?_⟩
  ·obtain⟨k0,k1,-⟩:=hk
   have k0:(fun v w=>∃ a c,v=.slice a s.L.length c∧LIn w All s.L a) (a.tmps.getD 202 undef) w:=k0;generalize k0e:a.tmps.getD 202 undef=uk0 at k0;have k1:a.tmps.getD 206 undef=.slice aK s.L.length cK:=k1;obtain⟨a7,c7,rfl,g1⟩:=k0
   go_simp;refine Calls.mono (Qbv 6 (samet_any 6) s.L s.L a7 aK c7 cK w g1 (HRW.out.below hW) (by have:=HJ.out.vals;omega) (fun y hy=>Nat.le_trans (QZ (HJ.out.types y hy)) (by omega))) ?_;rintro r7 w7 ⟨⟨q7,rfl,hq7⟩,b7⟩;have e7:q7=true:=hq7.2 rfl;subst e7;go_simp;exact hK _ _ b7 (hW.trans (b7.mono hW.size)) rfl
  refine⟨fun a w hW hk K hK=>?_,?_⟩
  ·obtain⟨k0,k1,-⟩:=hk
   have k0:a.tmps.getD 200 undef=.bool true:=k0;have k1:a.tmps.getD 207 undef=.bool true:=k1;go_simp;exact hK _ _ (Below.refl _ _) hW rfl
  refine⟨fun a w hW hk K hK=>?_,?_⟩
  ·obtain⟨k0,-⟩:=hk
   have k0:a.tmps.getD 208 undef=.bool true:=k0;go_simp;exact hK _ _ (Below.refl _ _) hW rfl
  trivial
theorem QhD {w:World}{m:List (Qg 6)}{p a1:Option Addr}{c N c1:Nat}{l:List Qz}{x:MEnd}{e:EP}(f b:Int) (hN:l.length=N) (hn:¬ 150<(N:Int)) (hq:¬ 1000<(x.many:Int)) (hng:¬ QX m) (hf0:(modFault m).1=0) (hhb:QeJ m f b=true) (hm:(Qak 6).In w All m [.slice p m.length c]) (hl:insC.list.In w All l [.slice a1 N c1]) (hx:QaU w All x e) (hra:-9223372036854775808≤x.a∧x.a≤9223372036854775807) (hcap:x.yes.regs.length≤e.cYR∧x.no.regs.length≤e.cNR) (hls:∀ y∈l,y.regs.length<1152921504606846976∧y.args.length<1152921504606846976) :
 Calls Tryz.prog 6 #[.agg #[.slice p m.length c],.int .i64 f,.int .i64 b,.slice a1 N c1,.agg (Zz x e)] w fun r w'=>r=.returned (.bool true)∧Below w.heap.size w w':=by
 have b0:=QO w (.cells #[.slice p m.length c] 24);have b1:=b0.trans ((QO (w.alloc (.cells #[.slice p m.length c] 24)) (.cells (Zz x e) 47)).mono b0.size);have HM:Hid ((Qak 6).In w All m [.slice p m.length c]):=hm;have HB:=Qa b1;have x0:=Qi (Qb (Qe w #[.slice p m.length c] 24) 0 _ rfl) (QO (w.alloc (.cells #[.slice p m.length c] 24)) (.cells (Zz x e) 47));have y3:=Qb (Qe (w.alloc (.cells #[.slice p m.length c] 24)) (Zz x e) 47) 3 _ rfl;have y4:=Qb (Qe (w.alloc (.cells #[.slice p m.length c] 24)) (Zz x e) 47) 4 _ rfl;have y6:=Qb (Qe (w.alloc (.cells #[.slice p m.length c] 24)) (Zz x e) 47) 6 _ rfl;have y7:=Qb (Qe (w.alloc (.cells #[.slice p m.length c] 24)) (Zz x e) 47) 7 _ rfl;have y8:=Qb (Qe (w.alloc (.cells #[.slice p m.length c] 24)) (Zz x e) 47) 8 _ rfl;have HXB:=Qa (Qe (w.alloc (.cells #[.slice p m.length c] 24)) (Zz x e) 47);have HNG:=Qa hng;have HF0:=Qa hf0;have HL:=Qa hl;have HN:=Qa hN;have HXI:=Qa hx;have HN1:=Qa hn;have HQ:=Qa hq;clear hm b1 b0 hng hf0 hl hx hN hn hq;go_enter Tryz.func6,Tryz.ntmps6
 go_upto_region 1 with fail
 generalize hw1:(w.alloc (.cells #[.slice p m.length c] 24)).alloc (.cells (Zz x e) 47)=w1 at HB HXB x0 y3 y4 y6 y7 y8 ⊢;clear hw1;have hY:(w.alloc (.cells #[.slice p m.length c] 24)).heap.size=w.heap.size+1:=by show (w.heap.push _).size=_;exact Array.size_push _
 rw[hY] at HXB y3 y4 y6 y7 y8
 clear hY;obtain⟨X,hX⟩:∃ X,X=w.heap.size:=⟨_,rfl⟩
 rw[← hX] at HXB x0 y3 y4 y6 y7 y8 ⊢
 have HXE:=Qa hX;clear hX;go_wp2_with fail
 refine(Qap w1).mono ?_
 rintro e2 w2 ⟨rfl,b2⟩;have HB1:=Qa HB.out;have HB2:=Qa (HB.out.trans (b2.mono HB.out.size));have x2:=Qi x0 b2;have y3:=Qi y3 b2;have y4:=Qi y4 b2;have y6:=Qi y6 b2;have y7:=Qi y7 b2;have y8:=Qi y8 b2;have HD2:=Qa b2;have hd2:=b2.size;have HXB1:=HXB;have HXB:=Qa (((b2.block _ (lt_of_block HXB.out)).trans HXB.out));clear x0 b2 HB;have CG:=Qa (Qai 6 m p c w2 (Lay.below HM.out HB2.out));unfold Rd at CG;have HHB:=Qa hhb;have HLS:=Qa hls;clear hhb hls;rw[QF HNG.out] at CG
 have hn:=HN1.out;have hn':decide ((N:Int)>150)=false:=decide_eq_false (by omega);have hq:=HQ.out;unfold MEnd.many at hq;go_wp2_with fail
 refine CG.out.mono ?_;rintro e3 w3 ⟨rfl,b3⟩;have HB3:=Qa (HB2.out.trans (b3.mono HB2.out.size));have HXB:=Qa (((b3.block _ (lt_of_block HXB.out)).trans HXB.out));have HD3:=Qa (HD2.out.trans (b3.mono HD2.out.size));have x3:=Qi x2 b3;have y3:=Qi y3 b3;have y4:=Qi y4 b3;have y6:=Qi y6 b3;have y7:=Qi y7 b3;have y8:=Qi y8 b3;clear b3 CG x2 HB2;have CN:=Qa (QdU f b HNG.out (Lay.below HM.out HB3.out));go_wp2_with fail
 refine CN.out.mono ?_;rintro e4 w4 ⟨b4,hN4⟩;have HB4:=Qa (HB3.out.trans (b4.mono HB3.out.size));have HXB:=Qa (((b4.block _ (lt_of_block HXB.out)).trans HXB.out));have hs3:=HD3.out.size;have HD4:=Qa (HD3.out.trans (b4.mono HD3.out.size));have x4:=Qi x3 b4;clear b4 CN x3 y3 y4 y6 y7 y8;rcases hN4 with ⟨hf,rfl⟩|⟨-,hno,rfl⟩|⟨-,-,i,j,fn,g,B,O,A,rfl,rfl,hfn,hgb,rfl,hS,hA⟩
 ·exact absurd HF0.out hf
 ·rw[HHB.out] at hno;cases hno
 have b5:=QO w4 (.cells #[.int .i64 0,.int .i64 0] 30)
 have S5:Hid (∃ O A,SAt (w4.alloc (.cells #[.int .i64 0,.int .i64 0] 30)) B O A (JSt.start m fn g)∧∀ k,A k→w1.heap.size≤k∧k<(w4.alloc (.cells #[.int .i64 0,.int .i64 0] 30)).heap.size) :=
  ⟨O,A,hS.below b5,fun k hk=>⟨Nat.le_trans hs3 (hA k hk).1,Nat.lt_of_lt_of_le (hA k hk).2 b5.size⟩⟩
 have HD5:=Qa (HD4.out.trans (b5.mono HD4.out.size));have HB5:=Qa (HB4.out.trans (b5.mono HB4.out.size));have HXB:=Qa (((b5.block _ (lt_of_block HXB.out)).trans HXB.out));have x5:=Qi x4 b5;have z50:=Qb (Qe w4 #[.int .i64 0,.int .i64 0] 30) 0 _ rfl;have z51:=Qb (Qe w4 #[.int .i64 0,.int .i64 0] 30) 1 _ rfl;clear hS hA b5 HB4 HB3 hs3 x4 HD2 HD3 HD4 hd2;go_upto_region 6 with fail
 generalize hw5:w4.alloc (.cells #[.int .i64 0,.int .i64 0] 30)=w5 at S5 HB5 HD5 HXB x5 z50 z51 ⊢;clear hw5;generalize w4.heap.size=F1 at z50 z51 ⊢;have CF:=Qa (QaI (Lay.below HM.out HB5.out) (Qa8 HNG.out));rw[Qdr HF0.out] at CF
 unfold Rd at CF;go_wp2_with fail
 refine CF.out.mono ?_;rintro e6 w6 ⟨rfl,b6⟩;have b7:=b6.trans ((QO w6 (.cells #[.int .i64 0,.int .i64 0] 30)).mono b6.size);have z50:=Qi z50 b7;have z51:=Qi z51 b7;have x7:=Qi x5 b7;have HB7:=Qa (HB5.out.trans (b7.mono HB5.out.size));have HD7:=Qa (HD5.out.trans (b7.mono HD5.out.size));have HB1:=HB1
 have S7:Hid (∃ O A,SAt (w6.alloc (.cells #[.int .i64 0,.int .i64 0] 30)) B O A (JSt.start m fn g)∧∀ k,A k→w1.heap.size≤k∧k<(w6.alloc (.cells #[.int .i64 0,.int .i64 0] 30)).heap.size):=by
  obtain⟨O,A,h1,h2⟩:=S5.out
  exact⟨O,A,h1.below b7,fun k hk=>⟨(h2 k hk).1,Nat.lt_of_lt_of_le (h2 k hk).2 b7.size⟩⟩
 have z70:=Qb (Qe w6 #[.int .i64 0,.int .i64 0] 30) 0 _ rfl;have z71:=Qb (Qe w6 #[.int .i64 0,.int .i64 0] 30) 1 _ rfl;clear b6 b7 CF x5 HB5 HD5 S5;go_upto_region 7 with fail
 generalize hw7:w6.alloc (.cells #[.int .i64 0,.int .i64 0] 30)=w7 at S7 HB7 HD7 x7 z50 z51 z70 z71 ⊢;clear hw7;generalize w6.heap.size=F2 at z70 z71 ⊢;have HFN:=Qa hfn;have HGB:=Qa hgb;obtain⟨mg,mo,ds,rfl,-,-,hcs,hfn2⟩:=Lay.list_at HM.out hfn
 obtain⟨fa,fc,fb,fd,fe,ff,rfl,-,-,-,-⟩:=Zx hfn2
 have v3:=Qi (show w.cell? ⟨mg,mo+i*4+3,none⟩=some (.slice fe fn.blocks.length ff) from hcs 3 (by decide)) HB7.out;have hi1:(i:Int)<m.length:=by have:=(List.getElem?_eq_some_iff.1 hfn).1;omega
 have hj1:(j:Int)<fn.blocks.length:=by have:=(List.getElem?_eq_some_iff.1 hgb).1;omega
 have hi0:(0:Int)≤i:=by omega
 have hj0:(0:Int)≤j:=by omega
 have hJ:=JOk.start HF0.out HNG.out (List.mem_of_getElem? hfn) (List.mem_of_getElem? hgb);have HJ:=Qa hJ;have CK:=Qa (Qem (B0:=w1.heap.size) HD7.out.size (Lay.below (Lay.mono HM.out (O':=fun g=>g<w1.heap.size) (fun k _ hl=>Nat.lt_of_lt_of_le hl HB1.out.size)) HB7.out) HFN.out HGB.out (fun t ht=>Nat.le_trans (QZ (hJ.types t ht)) (by decide)) (Nat.le_trans hJ.vals (by decide)));clear hcs hfn2 hfn hgb hJ;go_wp2_with fail
 refine CK.out.mono ?_;rintro e8 w8 ⟨Bk,O',rfl,hk2,hO',b8⟩
 have HP0:Hid (ZP w8 B Bk w1.heap.size (JSt.start m fn g) (JSt.start m fn g)):=by
  obtain⟨O,A,h1,h2⟩:=S7.out
  exact ZP.start h1 h2 HJ.out HJ.out b8 HD7.out.size hk2 hO'
 have HD8:=Qa (HD7.out.trans (b8.mono HD7.out.size));clear hk2 hO' b8 CK S7 HB7 HD7 x7 z50 z51 z70 z71 v3 HJ HXB;generalize JSt.start m fn g=s0 at HP0;go_wp2
 go_loopw [15] (fun i wr=>∃ k:Nat,k≤N∧i=.int .i64 k∧(∃ s,ZP wr B Bk w1.heap.size s s)∧Below w1.heap.size w1 wr) (fun i _=>N - (intOf i).toNat)
 case atStart=>exact⟨0,Nat.zero_le _,rfl,⟨s0,HP0.out⟩,HD8.out⟩
 case round =>
  clear HP0 HD8;obtain⟨k,hk,rfl,⟨s,hs⟩,hB⟩:=hrel
  have HD:=Qa hB;have S1:=Qa hs;clear hB hs;by_cases hlt:k<N
  rotate_left
  ·have hlt':¬ (k:Int)<N:=by omega
   obtain⟨A,hKN,hJr,-⟩:=S1.out.known
   obtain⟨hh,q1,hheld⟩:=S1.out.one.held
   obtain⟨hk9,aL,cL,O9,q5,q6,q7,q8⟩:=S1.out.lists
   have HKN:=Qa hKN;have HJR:=Qa hJr;have HHE:=Qa hheld;have HHO:=Qa q6;have HLI:=Qa q8;have hqq:=HQ.out;unfold MEnd.many at hqq;have sz:x.yes.regs.length≤100000∧x.yes.args.length≤100000∧x.no.regs.length≤100000∧x.no.args.length≤100000:=by omega
   have SZ:=Qa sz;have HR:Hid (wr.rangeAt (X+1) 0 (Zz x e).toList):=fun j v hj=>Qi (by rw[Nat.zero_add];rw[Array.getElem?_toList] at hj;exact Qb HXB1.out j v hj) HD.out;clear hKN hJr hheld q6 q8 hqq sz;go_upto_region 19 with fail
   refine Code.wp_mono ?_ (Ql0 S1 HKN HJR HR (Qa (QaU.below (QaU.below HXI.out HB1.out) HD.out)) hra (by have:=SZ.out;omega) hcap SZ.out HHE HHO HLI q1 q5 q7 _ _ rfl (Nat.le_of_ble_eq_true (by kernel_rfl)) rfl rfl rfl rfl);rintro ee aa w9 ⟨rfl,vs,rfl,hv10,b9⟩;simp only[Q5,Act.put,List.setIfInBounds_toArray,List.set_cons_zero,List.set_cons_succ,hv10]
   have HZ:=Qa (HB1.out.trans ((HD.out.trans (b9.mono HD.out.size)).mono HB1.out.size));go_wp2
   go_ret;exact⟨rfl,HZ.out⟩
  have hlt':(k:Int)<N:=by omega
  have hk2:k<l.length:=by rw[HN.out];exact hlt
  obtain⟨y,hxk⟩:∃ y,l[k]?=some y:=⟨_,List.getElem?_eq_getElem hk2⟩
  obtain⟨g1,o1,ds,rfl,-,hg1,hcs,hx⟩:=Lay.list_at HL.out hxk
  have hrng:=QiD hx;obtain⟨rg,rc,ag,ac,rfl,hrg,hag,hcp,-⟩:=Qis hx
  have HRX:Hid (w1.rangeAt g1 (o1+k*8) [.int .i64 y.op,.int .i64 y.a,.int .i64 y.b,.int .i64 y.c,.int .i64 y.k,.int .i64 y.n,.slice rg y.regs.length rc,.slice ag y.args.length ac]):=Za (fun j v hj=>by
   have hj8:j<8:=(List.getElem?_eq_some_iff.1 hj).1;exact(hcs j hj8).trans hj) HB1.out
  have v6:=Qi (show w1.cell? ⟨g1,o1+k*8+6,none⟩=some (.slice rg y.regs.length rc) from HRX.out 6 _ rfl) HD.out;have v7:=Qi (show w1.cell? ⟨g1,o1+k*8+7,none⟩=some (.slice ag y.args.length ac) from HRX.out 7 _ rfl) HD.out;have HRG:=Qa (Lay.below hrg HB1.out);have HAG:=Qa (Lay.below hag HB1.out);have HCP:=Qa hcp;have HRN:=Qa hrng;have HZ:=Qa (HB1.out.trans (HD.out.mono HB1.out.size));have hlr:=HLS.out y (List.mem_of_getElem? hxk);have hl1:=hlr.1;have hl2:=hlr.2;clear hk2 hxk hcs hx hrg hag hcp hrng hlr;have hk0:(0:Int)≤k:=by omega
  have HQ15:Hid (∀ nq,Below w1.heap.size w1 (wr.drewN nq)∧ZP (wr.drewN nq) B Bk w1.heap.size s s):=fun nq=>⟨Qf HD.out nq,S1.out.below (Qf (Below.refl _ _) nq)⟩;generalize hlr1:y.regs.length=lr1 at v6 hl1;generalize hlr2:y.args.length=lr2 at v7 hl2;have HLR:=Qa (And.intro hlr1 hlr2);clear hlr1 hlr2;by_cases hbig:1000<(lr1:Int)+(lr2:Int)
  ·have hbig':decide ((lr1:Int)+(lr2:Int)>1000)=true:=decide_eq_true hbig;go_upto_region 15 with fail
   go_quiet (fail)
   have HZ2:Hid (Below w.heap.size w (wr.drewN nq)):=Qf HZ.out nq;clear v6 v7;go_wp2_with fail
   go_ret;exact⟨rfl,HZ2.out⟩
  have hbig':decide ((lr1:Int)+(lr2:Int)>1000)=false:=decide_eq_false hbig;go_upto_region 15 with fail
  go_quiet (fail)
  have HDq:=Qa (HQ15.out nq).1;have S1q:=Qa (HQ15.out nq).2;clear v6 v7 HD S1 HQ15;generalize wr.drewN nq=wz at HDq S1q ⊢;go_upto_region 17 with fail
  refine Code.wp_mono ?_ (QlS HDq S1q HRX HRG HAG HCP HRN hlt' _ _ rfl (Nat.le_of_ble_eq_true (by kernel_rfl)) rfl rfl rfl rfl);rintro ee aa w9 ⟨rfl,vs,rfl,hv,b9,p9⟩;simp only[Q5,Act.put,List.setIfInBounds_toArray,List.set_cons_zero,List.set_cons_succ,hv]
  have HD9:=Qa b9;have HP9:=Qa p9;clear b9 p9;go_wp2_with fail
  exact⟨⟨k+1,by omega,rfl,⟨_,HP9.out⟩,HD9.out⟩,by simp[intOf];omega⟩
end Go.Proofs.YtacjnejckfhpoadGreat
namespace Go.Proofs.YtacjnejckfhpoadGreat
open Go.ChangeShapes Go.WideShapes Go.ChangeAt Go.RowKit Go.Deep
set_option linter.unusedVariables false
theorem QG.listB {P:Program}{t e:TypeId}{α:Type}{A:Lay α}{n:Nat}{Bd:α→Prop}(h:P.underlying t=some (.slice e)) (hc:P.cellsOf t=1) (hA:QG P e A n Bd) (h0:0<A.size) (hbe:0<P.bytesOf e):QG P t A.list n (fun l=>l.length<1152921504606846976∧∀ x∈l,Bd x) :=
 ⟨hc,fun {H enc w base spare held fuel cs x} hf h' hw=>by
  rcases DataW.trod_slice h h' with ⟨e2,_⟩|⟨a,len,cap,elems,rest,q,rfl,e2,ex,hb,hl,hm,hlen,hel,_,_⟩
  ·exact⟨[],by rw[e2];exact Lay.list_nil A _ _ _ _,by simp⟩
  ·have hlw:(elems.length+rest.length)*P.bytesOf e≤reachBytes:=hw _ (by rw[ex];simp[DataW.weights,h])
   have hlb:len<1152921504606846976:=by
    have h1:elems.length*1≤(elems.length+rest.length)*P.bytesOf e:=Nat.mul_le_mul (by omega) hbe;have h2:reachBytes<1152921504606846976:=by decide
    omega
   have hel':∀ i,i<len→∃ y,elems[i]?=some y∧Wt P e y.1:=fun i hi=>by
    refine⟨elems[i]'(by omega),List.getElem?_eq_getElem (by omega),fun k hk=>hw k ?_⟩
    rw[ex]
    simp only[DataW.weights,h,List.mem_cons,List.mem_append]
    exact .inr (.inl (Qaq (List.mem_map_of_mem (List.getElem_mem (by omega))) k hk))
   obtain⟨l,hll,hp⟩:=QdJ (P:=fun i (d:α)=>∃ ds,w.cells? base (a.add (i*A.size)) A.size=some ds∧A.In w (fun _=>True) d ds∧Bd d) len (fun i hi=>by
    have he:=hel i hi;obtain⟨y,hy,hwy⟩:=hel' i hi
    rw[hy,hA.1] at he
    rw[Option.bind_eq_some_iff] at he
    obtain⟨ds,hds,htr⟩:=he
    obtain⟨d,hd,hbd⟩:=hA.2 (by omega) htr hwy
    exact⟨d,ds,hds,hd,hbd⟩)
   refine⟨l,⟨some a,cap,by rw[e2,hll],fun i x hx=>?_⟩,by omega,fun x hx=>by
    obtain⟨i,hi⟩:=List.mem_iff_getElem?.1 hx
    obtain⟨_,_,_,hb⟩:=hp i x hi
    exact hb⟩
   obtain⟨ds,hds,hd,_⟩:=hp i x hx
   obtain⟨_,hcl,hcell⟩:=World.cells?_some hds
   obtain⟨b,off,spot⟩:=a
   have hspot:spot=none:=by
    have hi:0<l.length:=Nat.lt_of_le_of_lt (Nat.zero_le i) (List.getElem?_eq_some_iff.1 hx).1;obtain⟨ds0,hds0,hd0,_⟩:=hp 0 l[0] (List.getElem?_eq_getElem hi)
    have hl0:0<ds0.length:=by rw[A.len hd0];exact h0
    have:=(World.cells?_some hds0).2.2 0 h0
    rw[List.getElem?_eq_getElem hl0] at this
    simpa[Addr.add] using World.cell?_spot this
   subst hspot
   have key:∀ j,j<A.size→w.cell? ⟨b,off+i*A.size+j,none⟩=ds[j]?:=fun j hj=>by
    have:=hcell j hj
    rw[Go.WideShapes.add_plain,Go.WideShapes.add_plain] at this
    exact this
   refine⟨b,off,ds,rfl,trivial,?_,key,hd⟩
   have hl0:0<ds.length:=by rw[A.len hd];exact h0
   have:=key 0 h0
   rw[List.getElem?_eq_getElem hl0] at this
   exact World.block_lt_of_cell? w _ this⟩
theorem Qgp (n:Nat):QG Tryz.prog 42 insC.list n (fun l=>l.length<1152921504606846976∧∀ x∈l,x.regs.length<1152921504606846976∧x.args.length<1152921504606846976):=QG.listB Tryz.underlying42 (by kernel_rfl) (Qeh n) (by decide) (by rw[show Tryz.prog.bytesOf 59=96 from by kernel_rfl];decide)
end Go.Proofs.YtacjnejckfhpoadGreat
