import Derived.Test.YtacjnejckfhpoadGreatP5
set_option maxHeartbeats 16000000
set_option maxRecDepth 100000
namespace Go.Proofs.YtacjnejckfhpoadGreat
open Go.ChangeShapes Go.WideShapes Go.ChangeAt Go.RowKit
set_option linter.unusedSimpArgs false
set_option linter.unusedVariables false
theorem kUnderI:∃ fs,Tryz.prog.underlying 59=some (.struct fs):=⟨_,Tryz.underlying59⟩
def Qk7 (X Z N c g o nc cc q:Nat) (p:Option Addr) (z:Qz) (i3:IP) (t:Tmp) (v:Value) (w:World):Prop :=
 v=(([(3,.pointer (some ⟨X,0,none⟩)),(8,.pointer (some ⟨Z,0,none⟩)),(10,.int .i64 (q:Int)),(85,.agg #[.slice p N c]),(86,.pointer (some ⟨Z,2,none⟩)),(87,.slice (some ⟨g,o,none⟩) nc cc),(88,.int .i64 (q:Int)),(89,.pointer (some ⟨g,o+q*8,none⟩)),(90,.agg #[.int .i64 z.op,.int .i64 z.a,.int .i64 z.b,.int .i64 z.c,.int .i64 z.k,.int .i64 z.n,.slice i3.pR z.regs.length i3.cR,.slice i3.pA z.args.length i3.cA]),(91,.int .i64 (z.form N)),(11,.int .i64 (z.form N))]:List (Tmp × Value)).lookup t).getD undef
theorem QlO {w6:World}{X Z N c g o nc cc q:Nat}{p:Option Addr}{z:Qz}{i3:IP}(HR:Hid (w6.rangeAt g (o+q*8) [.int .i64 z.op,.int .i64 z.a,.int .i64 z.b,.int .i64 z.c,.int .i64 z.k,.int .i64 z.n,.slice i3.pR z.regs.length i3.cR,.slice i3.pA z.args.length i3.cA])) (q0:w6.cell? ⟨X,0,none⟩=some (.slice p N c)) (q2:w6.cell? ⟨Z,2,none⟩=some (.slice (some ⟨g,o,none⟩) nc cc)) (hq:(q:Int)<nc)
 (a:Act) (m:Nat) (hn:a.tmps.size=m) (hn':112≤m) (h3:a.tmps.getD 3 undef=.pointer (some ⟨X,0,none⟩)) (h8:a.tmps.getD 8 undef=.pointer (some ⟨Z,0,none⟩)) (h10:a.tmps.getD 10 undef=.int .i64 (q:Int)) :
 Code.wp Tryz.prog ((Tryz.f66.body.bind (Qj 15)).getD .skip) (fun e a' w'=>e=.normal∧∃ vs,a'=Q5 a vs [85,86,87,88,89,90,91,11]∧vs 11=.int .i64 (z.form N)∧Below w6.heap.size w6 w') a w6:=by
 conv=>arg 2;whnf
 refine Qx (Qk7 X Z N c g o nc cc q p z i3) (fun w=>Below w6.heap.size w6 w) (fun w w'=>Below w.heap.size w w') (outs:=[3,8,10]) (gs:=[]) (bs:=[true,true,true,true,true,true,true,true]) (by kernel_rfl) (n:=112) hn hn' (by kernel_rfl) ?hR ?hG (QjM (Below.refl _ _) 1) ⟨h3,h8,h10,trivial⟩ ?hA ?hend
 case hR=>exact fun t v w w' _ h=>h
 case hG=>exact trivial
 case hend=>exact fun vs w' hW hk=>⟨rfl,vs,rfl,hk 11 (by kernel_rfl),hW⟩
 case hA =>
  refine⟨fun a w hW hk K hK=>?_,?_⟩
  ·obtain⟨k0,-⟩:=hk
   have k0:a.tmps.getD 3 undef=.pointer (some ⟨X,0,none⟩):=k0;have c0:=Qi q0 hW;go_simp;exact hK _ _ (Below.refl _ _) hW rfl
  refine⟨fun a w hW hk K hK=>?_,?_⟩
  ·obtain⟨k0,-⟩:=hk
   have k0:a.tmps.getD 8 undef=.pointer (some ⟨Z,0,none⟩):=k0;go_simp;exact hK _ _ (Below.refl _ _) hW rfl
  refine⟨fun a w hW hk K hK=>?_,?_⟩
  ·obtain⟨k0,-⟩:=hk
   have k0:a.tmps.getD 86 undef=.pointer (some ⟨Z,2,none⟩):=k0;have c0:=Qi q2 hW;go_simp;exact hK _ _ (Below.refl _ _) hW rfl
  refine⟨fun a w hW hk K hK=>?_,?_⟩
  ·obtain⟨k0,-⟩:=hk
   have k0:a.tmps.getD 10 undef=.int .i64 (q:Int):=k0;go_simp;exact hK _ _ (Below.refl _ _) hW rfl
  refine⟨fun a w hW hk K hK=>?_,?_⟩
  ·obtain⟨k0,k1,-⟩:=hk
   have k0:a.tmps.getD 87 undef=.slice (some ⟨g,o,none⟩) nc cc:=k0;have k1:a.tmps.getD 88 undef=.int .i64 (q:Int):=k1;go_simp;exact hK _ _ (Below.refl _ _) hW rfl
  refine⟨fun a w hW hk K hK=>?_,?_⟩
  ·obtain⟨k0,-⟩:=hk
   have k0:a.tmps.getD 89 undef=.pointer (some ⟨g,o+q*8,none⟩):=k0;obtain⟨fs,hfs⟩:=kUnderI
   refine wp_load_mid 59 (.tmp 89) rfl g (o+q*8) k0 [.int .i64 z.op,.int .i64 z.a,.int .i64 z.b,.int .i64 z.c,.int .i64 z.k,.int .i64 z.n,.slice i3.pR z.regs.length i3.cR,.slice i3.pA z.args.length i3.cA] _ (fun j v hj=>Qi (HR.out j v hj) hW) hfs rfl pSizeN ?_;exact hK _ _ (Below.refl _ _) hW rfl
  refine⟨fun a w hW hk K hK=>?_,?_⟩
  ·obtain⟨k0,k1,-⟩:=hk
   have k0:a.tmps.getD 85 undef=.agg #[.slice p N c]:=k0;have k1:a.tmps.getD 90 undef=.agg #[.int .i64 z.op,.int .i64 z.a,.int .i64 z.b,.int .i64 z.c,.int .i64 z.k,.int .i64 z.n,.slice i3.pR z.regs.length i3.cR,.slice i3.pA z.args.length i3.cA]:=k1;go_simp;refine Calls.mono (QcL N z i3 p c w) ?_;rintro r7 w7 ⟨rfl,b7⟩;go_simp;exact hK _ _ b7 (hW.trans (b7.mono hW.size)) rfl
  refine⟨fun a w hW hk K hK=>?_,?_⟩
  ·obtain⟨k0,-⟩:=hk
   have k0:a.tmps.getD 91 undef=.int .i64 (z.form N):=k0;go_simp;exact hK _ _ (Below.refl _ _) hW rfl
  trivial
theorem Qdb {n:Nat}{m:List (Qg n)}{p:Option Addr}{c fi bi:Nat}{x:Qg n}{y:Qh n}{w:World}(hm0:(Qak n).In w All m [.slice p m.length c]) (hs0:QcS m) (hx1:m[fi]?=some x) (hx2:x.blocks[bi]?=some y) :
 Rd Tryz.prog 66 #[.agg #[.slice p m.length c],.int .i64 (fi:Int),.int .i64 (bi:Int)] w (QY (Qh.fault m.length fi x bi y)):=by
 have h1:fi<m.length:=(List.getElem?_eq_some_iff.1 hx1).1;have h2:bi<x.blocks.length:=(List.getElem?_eq_some_iff.1 hx2).1;have hml:=hs0.1;have hsx:=hs0.2 x (List.mem_of_getElem? hx1);have hxl:=hsx.1;have hsy:=hsx.2.2.2 y (List.mem_of_getElem? hx2);have hyl:=hsy.1;have HSY:=QJ hsy;obtain⟨g1,o1,⟨fp,fc,fr,fd,fb,fe⟩,rfl,E1,In1⟩:=QcW hm0 hx1
 obtain⟨g2,o2,b2,e2,E2,In2⟩:=Qct In1.blocks hx2
 dsimp only at E1 e2
 subst e2;have HE1:=QJ E1;have HI1:=QJ In1;have HE2:=QJ E2;have HI2:=QJ In2;have S:=QJ (FbS.start w #[.slice (some ⟨g1,o1,none⟩) m.length c] 24);have hfi:(fi:Int)<m.length:=by omega
 have hbi:(bi:Int)<x.blocks.length:=by omega
 have hp:fi<1000000∧bi<1000000:=by omega
 have HP:=QJ hp;clear hm0 hs0 hx1 hx2 E1 In1 E2 In2 hsx hsy h1 h2 hp;unfold Rd;go_enter Tryz.func66,Tryz.ntmps66
 go_upto_region 1 with fail
 generalize (w.alloc (.cells #[.slice (some ⟨g1,o1,none⟩) m.length c] 24)).alloc (.cells #[.int .i64 0,.int .i64 0] 30)=w1 at S ⊢;generalize w.heap.size+1=R at S ⊢;generalize hX:w.heap.size=X at S ⊢;have x0:=Qb (S.out.box 0 _ rfl) 0 _ rfl;have R1:=QJ (fun j v hj=>Qi (HE1.out j v hj) (hX ▸ S.out.bel):w1.rangeAt g1 (o1+fi*4) [.int .i64 x.regs,.slice fp x.params.length fc,.slice fr x.results.length fd,.slice (some ⟨g2,o2,none⟩) x.blocks.length fe]);have v0:w1.cell? ⟨g1,o1+fi*4,none⟩=some (.int .i64 x.regs):=R1.out 0 _ rfl;have v1:=R1.out 1 _ rfl;have v2:=R1.out 2 _ rfl;have v3:=R1.out 3 _ rfl;have S:=QJ (S.out.new #[.int .i64 x.regs,.slice fp x.params.length fc,.slice fr x.results.length fd,.slice (some ⟨g2,o2,none⟩) x.blocks.length fe] 55);go_upto_region 2 with fail
 generalize hw2:w1.alloc (.cells #[.int .i64 x.regs,.slice fp x.params.length fc,.slice fr x.results.length fd,.slice (some ⟨g2,o2,none⟩) x.blocks.length fe] 55)=w2 at S ⊢;generalize w1.heap.size=Y at S ⊢;clear hw2 x0 v0 v1 v2 v3 R1;have y3:=Qb (S.out.box 0 _ rfl) 3 _ rfl;generalize hcs:([.int .i64 y.regs,.slice b2.pP y.params.length b2.cP,.slice b2.pC y.code.length b2.cC,.int .i64 y.fin.op,.int .i64 y.fin.a,.int .i64 y.fin.yes.block,.slice b2.e.pYR y.fin.yes.regs.length b2.e.cYR,.slice b2.e.pYA y.fin.yes.args.length b2.e.cYA,.int .i64 y.fin.no.block,.slice b2.e.pNR y.fin.no.regs.length b2.e.cNR,.slice b2.e.pNA y.fin.no.args.length b2.e.cNA,.slice b2.e.pA y.fin.args.length b2.e.cA]:List Value)=cs at HE2;have hl:cs.length=12:=by rw[← hcs];rfl
 have MB:=QJ (Qk4.of w2 hl);have TO:Hid (cs.toArray.all (·.oneCell')=true):=by show _=_;rw[← hcs];exact all_oneCell_toArray (List.all_eq_true.1 rfl)
 have RG:Hid (w2.rangeAt g2 (o2+bi*12) cs):=fun j v hj=>Qi (HE2.out j v hj) (hX ▸ S.out.bel);go_upto_region 3 with (first | (refine wpList_load_mid rfl 84 (.tmp 21) rfl g2 (o2+bi*12) rfl cs _ RG.out Tryz.underlying84 rfl MB.out.size ?_) | (refine wpList_store_mid rfl 84 (.tmp 8) (.tmp 22) rfl w2.heap.size 0 cs.toArray rfl rfl MB.out.there MB.out.size2 TO.out ?_))
 have S3:=QJ ((S.out.below MB.out.bel).add MB.out.blk);clear S y3 RG TO hl;generalize (w2.alloc (.cells #[.int .i64 0,.slice none 0 0,.slice none 0 0,.int .i64 0,.int .i64 0,.int .i64 0,.slice none 0 0,.slice none 0 0,.int .i64 0,.slice none 0 0,.slice none 0 0,.slice none 0 0] 84)).setCells w2.heap.size 0 cs=w3 at S3 ⊢;generalize w2.heap.size=Z at S3 ⊢;subst hcs;simp only[Act.put]
 have HX:Hid (w.heap.size=X):=hX;clear hX HE1 HE2 MB;generalize hL:([(Z,#[.int .i64 y.regs,.slice b2.pP y.params.length b2.cP,.slice b2.pC y.code.length b2.cC,.int .i64 y.fin.op,.int .i64 y.fin.a,.int .i64 y.fin.yes.block,.slice b2.e.pYR y.fin.yes.regs.length b2.e.cYR,.slice b2.e.pYA y.fin.yes.args.length b2.e.cYA,.int .i64 y.fin.no.block,.slice b2.e.pNR y.fin.no.regs.length b2.e.cNR,.slice b2.e.pNA y.fin.no.args.length b2.e.cNA,.slice b2.e.pA y.fin.args.length b2.e.cA],84),(Y,#[.int .i64 x.regs,.slice fp x.params.length fc,.slice fr x.results.length fd,.slice (some ⟨g2,o2,none⟩) x.blocks.length fe],55),(X,#[.slice (some ⟨g1,o1,none⟩) m.length c],24)]:List (Nat × Array Value × TypeId))=L at S3;have BX:Hid (∀ wx,FbS w wx R L→Blk wx Z #[.int .i64 y.regs,.slice b2.pP y.params.length b2.cP,.slice b2.pC y.code.length b2.cC,.int .i64 y.fin.op,.int .i64 y.fin.a,.int .i64 y.fin.yes.block,.slice b2.e.pYR y.fin.yes.regs.length b2.e.cYR,.slice b2.e.pYA y.fin.yes.args.length b2.e.cYA,.int .i64 y.fin.no.block,.slice b2.e.pNR y.fin.no.regs.length b2.e.cNR,.slice b2.e.pNA y.fin.no.args.length b2.e.cNA,.slice b2.e.pA y.fin.args.length b2.e.cA] 84∧Blk wx Y #[.int .i64 x.regs,.slice fp x.params.length fc,.slice fr x.results.length fd,.slice (some ⟨g2,o2,none⟩) x.blocks.length fe] 55∧Blk wx X #[.slice (some ⟨g1,o1,none⟩) m.length c] 24):=by subst hL;exact fun wx h=>⟨h.box 0 _ rfl,h.box 1 _ rfl,h.box 2 _ rfl⟩
 clear hL;have q0:=Qb (BX.out _ S3.out).1 0 _ rfl;have q1:=Qb (BX.out _ S3.out).2.1 0 _ rfl;go_cut [32] (fun v wx=>v=.bool (decide (y.regs<x.regs∨16<y.regs))∧FbS w wx R L)
 case first =>
  by_cases h:y.regs<x.regs
  ·have d1:decide (y.regs<x.regs)=true:=decide_eq_true h;have E:decide (y.regs<x.regs∨16<y.regs)=true:=decide_eq_true (.inl h);go_wp2
   go_meet;exact⟨by rw[E],S3.out⟩
  ·have d1:decide (y.regs<x.regs)=false:=decide_eq_false h;have E:decide (y.regs<x.regs∨16<y.regs)=decide (y.regs>16):=by rw[decide_eq_decide];omega
   go_wp2
   all_goals
    go_meet;exact⟨by rw[E],S3.out⟩
 case rest =>
  obtain⟨rfl,hc4⟩:=hcut
  have S4:=QJ hc4;clear hc4 S3 q0 q1;by_cases c1:y.regs<x.regs∨16<y.regs
  ·rw[decide_eq_true c1]
   have E:Qh.fault m.length fi x bi y=(1,10000*(fi:Int)+100*(bi:Int)+90):=if_pos c1;go_wp2_with fail
   refine Calls.mono (QaM HP.out) ?_;rintro _ ua0 ⟨rfl,bb⟩;have S4:=QJ (S4.out.below bb);clear bb;go_wp2_with fail
   refine Calls.mono (QaT) ?_;rintro _ ua1 ⟨rfl,bb⟩;have S4:=QJ (S4.out.below bb);clear bb;try simp only[QY]
   obtain⟨r0,r1,z0,z1⟩:=S4.out.cells
   have D:=QJ (S4.out.fin (1) (10000*(fi:Int)+100*(bi:Int)+90));go_wp2_with fail
   generalize World.setCell _ _ _=w99 at D ⊢;exact bodyPost_ret (v:=.agg #[.int .i64 (1),.int .i64 (10000*(fi:Int)+100*(bi:Int)+90)]) (by simp[results,Tryz.results66,go_sem,Qb D.out.1 0 _ rfl,Qb D.out.1 1 _ rfl]) rfl ⟨by first | rfl | rw[E],D.out.2⟩
  rw[decide_eq_false c1]
  have q0:=Qb (BX.out _ S4.out).1 0 _ rfl;have q1:=Qb (BX.out _ S4.out).1 1 _ rfl;have CL:=QJ (Qa3 (regs:=y.regs) (Lay.below HI2.out.params S4.out.bel) HSY.out.2.1);unfold Rd at CL;go_wp2_with fail
  refine CL.out.mono ?_;rintro _ w5 ⟨rfl,b5⟩;have S5:=QJ (S4.out.below b5);clear b5 CL q0 q1 S4;generalize hlc:listC y.regs y.params=lc;by_cases c2:lc=0
  rotate_left
  ·have d:(lc!=0)=true:=by simpa using c2
   have E:Qh.fault m.length fi x bi y=(lc,10000*(fi:Int)+100*(bi:Int)+90):=by unfold Qh.fault;rw[if_neg c1,hlc,if_pos c2]
   go_wp2_with fail
   refine Calls.mono (QaM HP.out) ?_;rintro _ ua0 ⟨rfl,bb⟩;have S5:=QJ (S5.out.below bb);clear bb;go_wp2_with fail
   refine Calls.mono (QaT) ?_;rintro _ ua1 ⟨rfl,bb⟩;have S5:=QJ (S5.out.below bb);clear bb;try simp only[QY]
   obtain⟨r0,r1,z0,z1⟩:=S5.out.cells
   have D:=QJ (S5.out.fin (lc) (10000*(fi:Int)+100*(bi:Int)+90));go_wp2_with fail
   generalize World.setCell _ _ _=w99 at D ⊢;exact bodyPost_ret (v:=.agg #[.int .i64 (lc),.int .i64 (10000*(fi:Int)+100*(bi:Int)+90)]) (by simp[results,Tryz.results66,go_sem,Qb D.out.1 0 _ rfl,Qb D.out.1 1 _ rfl]) rfl ⟨by first | rfl | rw[E],D.out.2⟩
  subst c2;go_upto_region 8 with fail
  have q0:=Qb (BX.out _ S5.out).1 0 _ rfl;have q1:=Qb (BX.out _ S5.out).2.1 0 _ rfl;have q2:=Qb (BX.out _ S5.out).1 1 _ rfl;have q3:=Qb (BX.out _ S5.out).2.1 1 _ rfl;go_cut [65] (fun v wx=>v=.bool (decide (bi=0∧(y.regs≠x.regs∨QbM y.params x.params=false)))∧FbS w wx R L)
  case first =>
   by_cases h0:bi=0
   ·have d0:((bi:Int)==0)=true:=by simpa using h0
    by_cases hr:y.regs=x.regs
    ·have d1:(y.regs!=x.regs)=false:=by simpa using hr
     have CS:=QJ (Qd2 (Lay.below HI2.out.params S5.out.bel) (Lay.below HI1.out.params S5.out.bel) HSY.out.2.1);unfold Rd at CS
     have E:decide (bi=0∧(y.regs≠x.regs∨QbM y.params x.params=false))=!bdec (y.params=x.params):=by
      by_cases hp:y.params=x.params
      ·rw[QH hp];simp[hr,QbR.2 hp]
      ·rw[QF hp]
       have:QbM y.params x.params=false:=by cases h9:QbM y.params x.params;rfl;exact absurd (QbR.1 h9) hp
       simp[h0,this]
     generalize bdec (y.params=x.params)=bp at CS E;clear h0 hr;go_wp2_with fail
     refine CS.out.mono ?_;rintro _ w6 ⟨rfl,b6⟩;have S6:=QJ (S5.out.below b6);clear b6 CS q0 q1 q2 q3;go_wp2
     all_goals
      go_meet;exact⟨by rw[E],S6.out⟩
    ·have d1:(y.regs!=x.regs)=true:=by simpa using hr
     have E:decide (bi=0∧(y.regs≠x.regs∨QbM y.params x.params=false))=true:=decide_eq_true ⟨h0,.inl hr⟩;clear h0 hr;go_wp2
     go_meet;exact⟨by rw[E],S5.out⟩
   ·have d0:((bi:Int)==0)=false:=by simpa using h0
    have E:decide (bi=0∧(y.regs≠x.regs∨QbM y.params x.params=false))=false:=decide_eq_false (fun h=>h0 h.1);clear h0;go_wp2
    go_meet;exact⟨by rw[E],S5.out⟩
  case rest =>
   obtain⟨rfl,hc6⟩:=hcut
   have S6:=QJ hc6;clear hc6 S5 q0 q1 q2 q3;by_cases c3:bi=0∧(y.regs≠x.regs∨QbM y.params x.params=false)
   ·rw[decide_eq_true c3]
    have E:Qh.fault m.length fi x bi y=(9,10000*(fi:Int)+100*(bi:Int)+90):=by unfold Qh.fault;rw[if_neg c1,hlc,if_neg (by simp),if_pos c3]
    clear c3;go_wp2_with fail
    refine Calls.mono (QaM HP.out) ?_;rintro _ ua0 ⟨rfl,bb⟩;have S6:=QJ (S6.out.below bb);clear bb;go_wp2_with fail
    refine Calls.mono (QaT) ?_;rintro _ ua1 ⟨rfl,bb⟩;have S6:=QJ (S6.out.below bb);clear bb;try simp only[QY]
    obtain⟨r0,r1,z0,z1⟩:=S6.out.cells
    have D:=QJ (S6.out.fin (9) (10000*(fi:Int)+100*(bi:Int)+90));go_wp2_with fail
    generalize World.setCell _ _ _=w99 at D ⊢;exact bodyPost_ret (v:=.agg #[.int .i64 (9),.int .i64 (10000*(fi:Int)+100*(bi:Int)+90)]) (by simp[results,Tryz.results66,go_sem,Qb D.out.1 0 _ rfl,Qb D.out.1 1 _ rfl]) rfl ⟨by first | rfl | rw[E],D.out.2⟩
   rw[decide_eq_false c3]
   have q2:=Qb (BX.out _ S6.out).1 2 _ rfl;by_cases c4:40<y.code.length
   ·have d:(40:Int)<y.code.length:=by omega
    have E:Qh.fault m.length fi x bi y=(2,10000*(fi:Int)+100*(bi:Int)+90):=by unfold Qh.fault;rw[if_neg c1,hlc,if_neg (by simp),if_neg c3,if_pos c4]
    go_wp2_with fail
    refine Calls.mono (QaM HP.out) ?_;rintro _ ua0 ⟨rfl,bb⟩;have S6:=QJ (S6.out.below bb);clear bb;go_wp2_with fail
    refine Calls.mono (QaT) ?_;rintro _ ua1 ⟨rfl,bb⟩;have S6:=QJ (S6.out.below bb);clear bb;try simp only[QY]
    obtain⟨r0,r1,z0,z1⟩:=S6.out.cells
    have D:=QJ (S6.out.fin (2) (10000*(fi:Int)+100*(bi:Int)+90));go_wp2_with fail
    generalize World.setCell _ _ _=w99 at D ⊢;exact bodyPost_ret (v:=.agg #[.int .i64 (2),.int .i64 (10000*(fi:Int)+100*(bi:Int)+90)]) (by simp[results,Tryz.results66,go_sem,Qb D.out.1 0 _ rfl,Qb D.out.1 1 _ rfl]) rfl ⟨by first | rfl | rw[E],D.out.2⟩
   have d:¬ (40:Int)<y.code.length:=by omega
   go_wp2_with fail
   clear q2;go_loopw [10] (fun i wr=>∃ q:Nat,q≤y.code.length∧i=.int .i64 q∧FbS w wr R L∧∀ (j:Nat) z,j<q→y.code[j]?=some z→Qz.form m.length z=0) (fun i _=>y.code.length - (intOf i).toNat)
   case atStart=>exact⟨0,Nat.zero_le _,rfl,S6.out,fun j z hj=>absurd hj (Nat.not_lt_zero _)⟩
   case round =>
    obtain⟨q,hq,rfl,hs,hall⟩:=hrel
    have SR:=QJ hs;have HAQ:=QJ hall;clear hs hall S6;have q2:=Qb (BX.out _ SR.out).1 2 _ rfl;by_cases hqt:q<y.code.length
    rotate_left
    ·have hqt':¬ (q:Int)<y.code.length:=by omega
     have E0:Hid (Qh.fault m.length fi x bi y=if MEnd.form x.blocks.length y.fin≠0 then (MEnd.form x.blocks.length y.fin,10000*(fi:Int)+100*(bi:Int)+91) else (0,0)):=by
      show _=_;unfold Qh.fault;rw[if_neg c1,hlc,if_neg (by simp),if_neg c3,if_neg c4,ZF (fun k z hk=>HAQ.out k z (by have:=(List.getElem?_eq_some_iff.1 hk).1;omega) hk),if_neg (by simp)]
     have RE:Hid (wr.rangeAt Z 3 [.int .i64 y.fin.op,.int .i64 y.fin.a,.int .i64 y.fin.yes.block,.slice b2.e.pYR y.fin.yes.regs.length b2.e.cYR,.slice b2.e.pYA y.fin.yes.args.length b2.e.cYA,.int .i64 y.fin.no.block,.slice b2.e.pNR y.fin.no.regs.length b2.e.cNR,.slice b2.e.pNA y.fin.no.args.length b2.e.cNA,.slice b2.e.pA y.fin.args.length b2.e.cA]):=fun j v hj=>Qb (BX.out _ SR.out).1 (3+j) v (by rw[← Array.getElem?_toList,Nat.add_comm];exact hj);have y0:=Qb (BX.out _ SR.out).2.1 0 _ rfl;have y1:=Qb (BX.out _ SR.out).2.1 1 _ rfl;have y2:=Qb (BX.out _ SR.out).2.1 2 _ rfl;have y3:=Qb (BX.out _ SR.out).2.1 3 _ rfl;have CE:=QJ (QcK (x:=y.fin) (e:=b2.e) (fr:=x.regs) (fp:=fp) (fq:=fr) (fb:=some ⟨g2,o2,none⟩) (fl:=x.params.length) (fc:=fc) (fm:=x.results.length) (fd:=fd) (bl:=x.blocks.length) (fe:=fe) (w:=wr) (by have h9:=HSY.out.2.2.1;have:=h9.1;have:=h9.2.1;unfold MTo.small at *;omega) (by omega));unfold Rd at CE;generalize MEnd.form x.blocks.length y.fin=ef at CE E0;go_wp2_with (refine wpList_load_mid rfl 47 (.tmp 101) rfl Z 3 rfl [.int .i64 y.fin.op,.int .i64 y.fin.a,.int .i64 y.fin.yes.block,.slice b2.e.pYR y.fin.yes.regs.length b2.e.cYR,.slice b2.e.pYA y.fin.yes.args.length b2.e.cYA,.int .i64 y.fin.no.block,.slice b2.e.pNR y.fin.no.regs.length b2.e.cNR,.slice b2.e.pNA y.fin.no.args.length b2.e.cNA,.slice b2.e.pA y.fin.args.length b2.e.cA] _ RE.out Tryz.underlying47 rfl pSizeE ?_)
     refine CE.out.mono ?_;rintro _ w7 ⟨rfl,b7⟩;have S7:=QJ (SR.out.below b7);clear b7 SR CE RE y0 y1 y2 y3 q2;by_cases ce:ef=0
     ·subst ce;have E:Qh.fault m.length fi x bi y=(0,0):=by rw[E0.out];rfl
      try simp only[QY]
      obtain⟨r0,r1,z0,z1⟩:=S7.out.cells
      have D:=QJ (S7.out.fin (0) (0));go_wp2_with fail
      generalize World.setCell _ _ _=w99 at D ⊢;exact bodyPost_ret (v:=.agg #[.int .i64 (0),.int .i64 (0)]) (by simp[results,Tryz.results66,go_sem,Qb D.out.1 0 _ rfl,Qb D.out.1 1 _ rfl]) rfl ⟨by first | rfl | rw[E],D.out.2⟩
     ·have d9:(ef!=0)=true:=by simpa using ce
      have E:Qh.fault m.length fi x bi y=(ef,10000*(fi:Int)+100*(bi:Int)+91):=by rw[E0.out,if_pos ce]
      clear E0;go_wp2_with fail
      refine Calls.mono (Qh7 HP.out) ?_;rintro _ ua0 ⟨rfl,bb⟩;have S7:=QJ (S7.out.below bb);clear bb;go_wp2_with fail
      refine Calls.mono (QaT) ?_;rintro _ ua1 ⟨rfl,bb⟩;have S7:=QJ (S7.out.below bb);clear bb;try simp only[QY]
      obtain⟨r0,r1,z0,z1⟩:=S7.out.cells
      have D:=QJ (S7.out.fin (ef) (10000*(fi:Int)+100*(bi:Int)+91));go_wp2_with fail
      generalize World.setCell _ _ _=w99 at D ⊢;exact bodyPost_ret (v:=.agg #[.int .i64 (ef),.int .i64 (10000*(fi:Int)+100*(bi:Int)+91)]) (by simp[results,Tryz.results66,go_sem,Qb D.out.1 0 _ rfl,Qb D.out.1 1 _ rfl]) rfl ⟨by first | rfl | rw[E],D.out.2⟩
    have hqt':(q:Int)<y.code.length:=by omega
    have hz:y.code[q]?=some y.code[q]:=List.getElem?_eq_getElem hqt;generalize y.code[q]=z at hz;have HZ:=QJ hz;obtain⟨g3,o3,i3,e3,E3,-⟩:=Qf1 HI2.out.code hz
    have RI:Hid (wr.rangeAt g3 (o3+q*8) [.int .i64 z.op,.int .i64 z.a,.int .i64 z.b,.int .i64 z.c,.int .i64 z.k,.int .i64 z.n,.slice i3.pR z.regs.length i3.cR,.slice i3.pA z.args.length i3.cA]):=fun j v hj=>Qi (E3 j v hj) SR.out.bel;have q0:=Qb (BX.out _ SR.out).2.2 0 _ rfl;have q9:=q2;rw[e3] at q9
    clear E3 hz e3;go_upto_region 15 with fail
    refine Code.wp_mono ?_ (QlO RI q0 q9 hqt' _ _ rfl (Nat.le_of_ble_eq_true (by kernel_rfl)) rfl rfl rfl);rintro ee aa w9 ⟨rfl,vs,rfl,hv,b9⟩;simp only[Q5,Act.put,List.setIfInBounds_toArray,List.set_cons_zero,List.set_cons_succ,hv]
    have S9:=QJ (SR.out.below b9);clear b9 SR q0 q2 q9 RI hv;generalize hzf:Qz.form m.length z=zf;by_cases c5:zf=0
    ·subst c5;go_wp2
     go_roundw
     case rel =>
      refine⟨q+1,by omega,by go_num,S9.out,fun j u hj hu=>?_⟩
      by_cases hjq:j<q
      ·exact HAQ.out j u hjq hu
      ·have:j=q:=by omega
       subst this;rw[HZ.out] at hu
       cases hu
       exact hzf
     case measure=>simp[intOf];omega
    ·have d9:(zf!=0)=true:=by simpa using c5
     have E:Qh.fault m.length fi x bi y=(zf,10000*(fi:Int)+100*(bi:Int)+(q:Int)):=by
      have hF:=Qae (f:=fun i u=>(Qz.form m.length u,(10000*fi+100*bi+i:Int))) (j:=0) HZ.out (fun k u hk hu=>HAQ.out _ u hk hu) (by rw[hzf];exact c5);rw[Nat.zero_add,hzf] at hF
      unfold Qh.fault;rw[if_neg c1,hlc,if_neg (by simp),if_neg c3,if_neg c4,hF,if_pos c5]
     have hp3:fi<1000000∧bi<1000000∧q<1000000:=⟨HP.out.1,HP.out.2,by omega⟩;have HP3:=QJ hp3;clear hp3 hzf c5;go_wp2_with fail
     refine Calls.mono (QhL HP3.out) ?_;rintro _ ua0 ⟨rfl,bb⟩;have S9:=QJ (S9.out.below bb);clear bb;go_wp2_with fail
     refine Calls.mono (QaT) ?_;rintro _ ua1 ⟨rfl,bb⟩;have S9:=QJ (S9.out.below bb);clear bb;try simp only[QY]
     obtain⟨r0,r1,z0,z1⟩:=S9.out.cells
     have D:=QJ (S9.out.fin (zf) (10000*(fi:Int)+100*(bi:Int)+(q:Int)));go_wp2_with fail
     generalize World.setCell _ _ _=w99 at D ⊢;exact bodyPost_ret (v:=.agg #[.int .i64 (zf),.int .i64 (10000*(fi:Int)+100*(bi:Int)+(q:Int))]) (by simp[results,Tryz.results66,go_sem,Qb D.out.1 0 _ rfl,Qb D.out.1 1 _ rfl]) rfl ⟨by first | rfl | rw[E],D.out.2⟩
def plB {n:Nat}(x:Qg n) (q:Nat):Bool:=(x.regs==0&&((x.params.length:Int)==0))&&(x.results.take q).all (fun t=>t.kind==1)
theorem QfM {n:Nat}(x:Qg n):plB x 0=(x.regs==0&&((x.params.length:Int)==0)):=by simp[plB]
theorem Qjc {n:Nat}{x:Qg n}{q:Nat}{t:TT n}(h:x.results[q]?=some t):plB x (q+1)=(plB x q&&t.kind==1):=by
 unfold plB;rw[List.take_add_one,h,List.all_append]
 simp[Bool.and_assoc]
theorem Qhw {n:Nat}(x:Qg n):plB x x.results.length=true↔(x.regs=0∧x.params.length=0∧x.results.all (fun t=>t.kind==1)=true):=by
 unfold plB;rw[List.take_length]
 simp only[Bool.and_eq_true,beq_iff_eq]
 constructor
 ·rintro ⟨⟨h1,h2⟩,h3⟩;exact⟨h1,by omega,h3⟩
 ·rintro ⟨h1,h2,h3⟩;exact⟨⟨h1,by omega⟩,h3⟩
theorem QaI {n:Nat}{m:List (Qg n)}{p:Option Addr}{c:Nat}{w:World}(hm0:(Qak n).In w All m [.slice p m.length c]) (hs0:QcS m) :
 Rd Tryz.prog 21 #[.agg #[.slice p m.length c]] w (QY (modFault m)):=by
 have hml:=hs0.1;have HM:=QJ hm0;have HS:=QJ hs0;have S:=QJ (FbS.start w #[.slice p m.length c] 24);clear hm0 hs0;unfold Rd;go_enter Tryz.func21,Tryz.ntmps21
 go_upto_region 1 with fail
 generalize (w.alloc (.cells #[.slice p m.length c] 24)).alloc (.cells #[.int .i64 0,.int .i64 0] 30)=w1 at S ⊢;generalize w.heap.size+1=R at S ⊢;generalize w.heap.size=X at S ⊢;have x0:=Qb (S.out.box 0 _ rfl) 0 _ rfl;go_cut [20] (fun v wx=>v=.bool (decide (m.length<1∨8<m.length))∧FbS w wx R [(X,#[.slice p m.length c],24)])
 case first =>
  by_cases h:(m.length:Int)<1
  ·have d1:decide ((m.length:Int)<1)=true:=decide_eq_true h;have E:decide (m.length<1∨8<m.length)=true:=decide_eq_true (.inl (by omega));go_wp2
   go_meet;exact⟨by rw[E],S.out⟩
  ·have d1:decide ((m.length:Int)<1)=false:=decide_eq_false h;have E:decide (m.length<1∨8<m.length)=decide ((m.length:Int)>8):=by rw[decide_eq_decide];omega
   go_wp2
   all_goals
    go_meet;exact⟨by rw[E],S.out⟩
 case rest =>
  obtain⟨rfl,hc⟩:=hcut
  have S2:=QJ hc;clear hc S x0;by_cases c1:m.length<1∨8<m.length
  ·rw[decide_eq_true c1]
   have E:modFault m=(2,-1):=if_pos c1;go_wp2_with fail
   refine Calls.mono (QaT) ?_;rintro _ ua0 ⟨rfl,bb⟩;have S2:=QJ (S2.out.below bb);clear bb;try simp only[QY]
   obtain⟨r0,r1,z0,z1⟩:=S2.out.cells
   have D:=QJ (S2.out.fin (2) (-1));go_wp2_with fail
   generalize World.setCell _ _ _=w99 at D ⊢;exact bodyPost_ret (v:=.agg #[.int .i64 (2),.int .i64 (-1)]) (by simp[results,Tryz.results21,go_sem,Qb D.out.1 0 _ rfl,Qb D.out.1 1 _ rfl]) rfl ⟨by first | rfl | rw[E],D.out.2⟩
  rw[decide_eq_false c1]
  go_wp2_with fail
  go_loopw [3] (fun i wr=>∃ k:Nat,k≤m.length∧i=.int .i64 k∧FbS w wr R [(X,#[.slice p m.length c],24)]∧∀ (j:Nat) f,j<k→m[j]?=some f→(Qg.fault m.length j f).1=0) (fun i _=>m.length - (intOf i).toNat)
  case atStart=>exact⟨0,Nat.zero_le _,rfl,S2.out,fun j z hj=>absurd hj (Nat.not_lt_zero _)⟩
  case round =>
   obtain⟨k,hk,rfl,hs,hall⟩:=hrel
   have SR:=QJ hs;have HAQ:=QJ hall;clear hs hall S2;obtain⟨wf,hwf⟩:∃ wf,wf=wr:=⟨_,rfl⟩
   subst hwf;have x0:=Qb (SR.out.box 0 _ rfl) 0 _ rfl;by_cases hkt:k<m.length
   rotate_left
   ·have hkt':¬ (k:Int)<m.length:=by omega
    have E:modFault m=(0,0):=by
     unfold modFault;rw[if_neg c1]
     exact ZF fun j f hj=>by rw[Nat.zero_add];exact HAQ.out j f (by have:=(List.getElem?_eq_some_iff.1 hj).1;omega) hj
    try simp only[QY]
    obtain⟨r0,r1,z0,z1⟩:=SR.out.cells
    have D:=QJ (SR.out.fin (0) (0));go_wp2_with fail
    generalize World.setCell _ _ _=w99 at D ⊢;exact bodyPost_ret (v:=.agg #[.int .i64 (0),.int .i64 (0)]) (by simp[results,Tryz.results21,go_sem,Qb D.out.1 0 _ rfl,Qb D.out.1 1 _ rfl]) rfl ⟨by first | rfl | rw[E],D.out.2⟩
   have hkt':(k:Int)<m.length:=by omega
   have hxk:m[k]?=some m[k]:=List.getElem?_eq_getElem hkt;generalize m[k]=x at hxk;have HXK:=QJ hxk
   have EM:Hid ((Qg.fault m.length k x).1≠0→modFault m=Qg.fault m.length k x):=fun h=>by
    have hF:=Qae (f:=fun f x=>Qg.fault m.length f x) (j:=0) HXK.out (fun j f hj hf=>by rw[Nat.zero_add];exact HAQ.out j f hj hf) (by rw[Nat.zero_add];exact h);rw[Nat.zero_add] at hF
    unfold modFault;rw[if_neg c1,hF]
   obtain⟨g1,o1,f1,rfl,E1,In1⟩:=QcW HM.out hxk
   have HI1:=QJ In1;have hsx:=HS.out.2 x (List.mem_of_getElem? hxk);have HSX:=QJ hsx;have hbl:=hsx.1;have hrl:x.results.length≤100000:=hsx.2.2.1.1;have hpl:x.params.length≤100000:=hsx.2.1.1;have hp:k<1000000:=by omega
   have HP:=QJ hp;have R1:Hid (wf.rangeAt g1 (o1+k*4) [.int .i64 x.regs,.slice f1.pP x.params.length f1.cP,.slice f1.pR x.results.length f1.cR,.slice f1.pB x.blocks.length f1.cB]):=fun j v hj=>Qi (E1 j v hj) SR.out.bel;have v0:wf.cell? ⟨g1,o1+k*4,none⟩=some (.int .i64 x.regs):=R1.out 0 _ rfl;have v1:=R1.out 1 _ rfl;have v2:=R1.out 2 _ rfl;have v3:=R1.out 3 _ rfl;have S6:=QJ (SR.out.new #[.int .i64 x.regs,.slice f1.pP x.params.length f1.cP,.slice f1.pR x.results.length f1.cR,.slice f1.pB x.blocks.length f1.cB] 55);clear hxk E1 In1 hsx hp R1 SR;go_upto_region 7 with fail
   generalize wf.alloc (.cells #[.int .i64 x.regs,.slice f1.pP x.params.length f1.cP,.slice f1.pR x.results.length f1.cR,.slice f1.pB x.blocks.length f1.cB] 55)=w6 at S6 ⊢;generalize wf.heap.size=Y at S6 ⊢;clear v0 v1 v2 v3 x0;generalize hL:([(Y,#[.int .i64 x.regs,.slice f1.pP x.params.length f1.cP,.slice f1.pR x.results.length f1.cR,.slice f1.pB x.blocks.length f1.cB],55),(X,#[.slice (some ⟨g1,o1,none⟩) m.length c],24)]:List (Nat × Array Value × TypeId))=L at S6;have BX:Hid (∀ wx,FbS w wx R L→Blk wx Y #[.int .i64 x.regs,.slice f1.pP x.params.length f1.cP,.slice f1.pR x.results.length f1.cR,.slice f1.pB x.blocks.length f1.cB] 55∧Blk wx X #[.slice (some ⟨g1,o1,none⟩) m.length c] 24):=by subst hL;exact fun wx h=>⟨h.box 0 _ rfl,h.box 1 _ rfl⟩
   have DR:Hid (∀ wx,FbS w wx R L→FbS w wx R [(X,#[.slice (some ⟨g1,o1,none⟩) m.length c],24)]):=fun wx h=>⟨h.bel,h.ge,h.r,fun i b hb=>by
    cases i with
    | zero=>cases hb;exact(BX.out wx h).2
    | succ i=>simp at hb⟩
   clear hL;have q0:=Qb (BX.out _ S6.out).1 0 _ rfl;go_cut [41] (fun v wx=>v=.bool (decide (x.regs<0∨6<x.regs))∧FbS w wx R L)
   case first =>
    by_cases h:x.regs<0
    ·have d1:decide (x.regs<0)=true:=decide_eq_true h;have E:decide (x.regs<0∨6<x.regs)=true:=decide_eq_true (.inl (by omega));go_wp2
     go_meet;exact⟨by rw[E],S6.out⟩
    ·have d1:decide (x.regs<0)=false:=decide_eq_false h;have E:decide (x.regs<0∨6<x.regs)=decide (x.regs>6):=by rw[decide_eq_decide];omega
     go_wp2
     all_goals
      go_meet;exact⟨by rw[E],S6.out⟩
   case rest =>
    obtain⟨rfl,hc⟩:=hcut
    have S7:=QJ hc;clear hc S6 q0;by_cases c2:x.regs<0∨6<x.regs
    ·rw[decide_eq_true c2]
     have E:modFault m=(1,10000*(k:Int)+9999):=by
      have e9:Qg.fault m.length k x=(1,10000*(k:Int)+9999):=if_pos c2;rw[EM.out (by rw[e9];show (1:Int)≠0;decide),e9]
     clear c2;go_wp2_with fail
     refine Calls.mono (Qav HP.out) ?_;rintro _ ua0 ⟨rfl,bb⟩;have S7:=QJ (S7.out.below bb);clear bb;go_wp2_with fail
     refine Calls.mono (QaT) ?_;rintro _ ua1 ⟨rfl,bb⟩;have S7:=QJ (S7.out.below bb);clear bb;try simp only[QY]
     obtain⟨r0,r1,z0,z1⟩:=S7.out.cells
     have D:=QJ (S7.out.fin (1) (10000*(k:Int)+9999));go_wp2_with fail
     generalize World.setCell _ _ _=w99 at D ⊢;exact bodyPost_ret (v:=.agg #[.int .i64 (1),.int .i64 (10000*(k:Int)+9999)]) (by simp[results,Tryz.results21,go_sem,Qb D.out.1 0 _ rfl,Qb D.out.1 1 _ rfl]) rfl ⟨by first | rfl | rw[E],D.out.2⟩
    rw[decide_eq_false c2]
    have q0:=Qb (BX.out _ S7.out).1 0 _ rfl;have q1:=Qb (BX.out _ S7.out).1 1 _ rfl;have CL:=QJ (Qa3 (regs:=x.regs) (Lay.below HI1.out.params S7.out.bel) HSX.out.2.1);unfold Rd at CL;go_wp2_with fail
    refine CL.out.mono ?_;rintro _ wl ⟨rfl,bl⟩;have S8:=QJ (S7.out.below bl);clear bl CL q0 q1 S7;generalize hl1:listC x.regs x.params=lc;by_cases c3:lc=0
    rotate_left
    ·have d9:(lc!=0)=true:=by simpa using c3
     have E:modFault m=(lc,10000*(k:Int)+9999):=by
      have e9:Qg.fault m.length k x=(lc,10000*(k:Int)+9999):=by unfold Qg.fault;rw[if_neg c2,hl1,if_pos c3]
      rw[EM.out (by rw[e9];exact c3),e9]
     go_wp2_with fail
     refine Calls.mono (Qav HP.out) ?_;rintro _ ua0 ⟨rfl,bb⟩;have S8:=QJ (S8.out.below bb);clear bb;go_wp2_with fail
     refine Calls.mono (QaT) ?_;rintro _ ua1 ⟨rfl,bb⟩;have S8:=QJ (S8.out.below bb);clear bb;try simp only[QY]
     obtain⟨r0,r1,z0,z1⟩:=S8.out.cells
     have D:=QJ (S8.out.fin (lc) (10000*(k:Int)+9999));go_wp2_with fail
     generalize World.setCell _ _ _=w99 at D ⊢;exact bodyPost_ret (v:=.agg #[.int .i64 (lc),.int .i64 (10000*(k:Int)+9999)]) (by simp[results,Tryz.results21,go_sem,Qb D.out.1 0 _ rfl,Qb D.out.1 1 _ rfl]) rfl ⟨by first | rfl | rw[E],D.out.2⟩
    subst c3;have q0:=Qb (BX.out _ S8.out).1 0 _ rfl;have q1:=Qb (BX.out _ S8.out).1 2 _ rfl;have CL:=QJ (Qa3 (regs:=x.regs) (Lay.below HI1.out.results S8.out.bel) HSX.out.2.2.1);unfold Rd at CL;go_wp2_with fail
    refine CL.out.mono ?_;rintro _ wl ⟨rfl,bl⟩;have S9:=QJ (S8.out.below bl);clear bl CL q0 q1 S8;generalize hl2:listC x.regs x.results=lc;by_cases c4:lc=0
    rotate_left
    ·have d9:(lc!=0)=true:=by simpa using c4
     have E:modFault m=(lc,10000*(k:Int)+9999):=by
      have e9:Qg.fault m.length k x=(lc,10000*(k:Int)+9999):=by unfold Qg.fault;rw[if_neg c2,hl1,if_neg (by simp),hl2,if_pos c4]
      rw[EM.out (by rw[e9];exact c4),e9]
     go_wp2_with fail
     refine Calls.mono (Qav HP.out) ?_;rintro _ ua0 ⟨rfl,bb⟩;have S9:=QJ (S9.out.below bb);clear bb;go_wp2_with fail
     refine Calls.mono (QaT) ?_;rintro _ ua1 ⟨rfl,bb⟩;have S9:=QJ (S9.out.below bb);clear bb;try simp only[QY]
     obtain⟨r0,r1,z0,z1⟩:=S9.out.cells
     have D:=QJ (S9.out.fin (lc) (10000*(k:Int)+9999));go_wp2_with fail
     generalize World.setCell _ _ _=w99 at D ⊢;exact bodyPost_ret (v:=.agg #[.int .i64 (lc),.int .i64 (10000*(k:Int)+9999)]) (by simp[results,Tryz.results21,go_sem,Qb D.out.1 0 _ rfl,Qb D.out.1 1 _ rfl]) rfl ⟨by first | rfl | rw[E],D.out.2⟩
    subst c4;go_upto_region 15 with fail
    have q3:=Qb (BX.out _ S9.out).1 3 _ rfl;go_cut [76] (fun v wx=>v=.bool (decide (x.blocks.length<1∨12<x.blocks.length))∧FbS w wx R L)
    case first =>
     by_cases h:(x.blocks.length:Int)<1
     ·have d1:decide ((x.blocks.length:Int)<1)=true:=decide_eq_true h;have E:decide (x.blocks.length<1∨12<x.blocks.length)=true:=decide_eq_true (.inl (by omega));go_wp2
      go_meet;exact⟨by rw[E],S9.out⟩
     ·have d1:decide ((x.blocks.length:Int)<1)=false:=decide_eq_false h;have E:decide (x.blocks.length<1∨12<x.blocks.length)=decide ((x.blocks.length:Int)>12):=by rw[decide_eq_decide];omega
      go_wp2
      all_goals
       go_meet;exact⟨by rw[E],S9.out⟩
    case rest =>
     obtain⟨rfl,hc⟩:=hcut
     have SA:=QJ hc;clear hc S9 q3;by_cases c5:x.blocks.length<1∨12<x.blocks.length
     ·rw[decide_eq_true c5]
      have E:modFault m=(2,10000*(k:Int)+9999):=by
       have e9:Qg.fault m.length k x=(2,10000*(k:Int)+9999):=by unfold Qg.fault;rw[if_neg c2,hl1,if_neg (by simp),hl2,if_neg (by simp),if_pos c5]
       rw[EM.out (by rw[e9];show (2:Int)≠0;decide),e9]
      clear c5;go_wp2_with fail
      refine Calls.mono (Qav HP.out) ?_;rintro _ ua0 ⟨rfl,bb⟩;have SA:=QJ (SA.out.below bb);clear bb;go_wp2_with fail
      refine Calls.mono (QaT) ?_;rintro _ ua1 ⟨rfl,bb⟩;have SA:=QJ (SA.out.below bb);clear bb;try simp only[QY]
      obtain⟨r0,r1,z0,z1⟩:=SA.out.cells
      have D:=QJ (SA.out.fin (2) (10000*(k:Int)+9999));go_wp2_with fail
      generalize World.setCell _ _ _=w99 at D ⊢;exact bodyPost_ret (v:=.agg #[.int .i64 (2),.int .i64 (10000*(k:Int)+9999)]) (by simp[results,Tryz.results21,go_sem,Qb D.out.1 0 _ rfl,Qb D.out.1 1 _ rfl]) rfl ⟨by first | rfl | rw[E],D.out.2⟩
     rw[decide_eq_false c5]
     go_upto_if 81 with fail
     go_cut [] (fun wx=>FbS w wx R L∧(k=0→plB x x.results.length=true))
     case first =>
      by_cases h0:k=0
      rotate_left
      ·have d0:((k:Int)==0)=false:=by simpa using h0
       have H0:=QJ h0;clear h0;go_wp2
       go_meet;exact⟨SA.out,fun h=>absurd h H0.out⟩
      have d0:((k:Int)==0)=true:=by simpa using h0
      have H0:=QJ h0;clear h0;have q0:=Qb (BX.out _ SA.out).1 0 _ rfl;have q1:=Qb (BX.out _ SA.out).1 1 _ rfl;go_upto_region 18 with fail
      go_cut [7] (fun v wx=>v=.bool (plB x 0)∧FbS w wx R L)
      case first =>
       by_cases hr:x.regs=0
       ·have d1:(x.regs==0)=true:=by simpa using hr
        have E:plB x 0=((x.params.length:Int)==0):=by rw[QfM,d1];rfl
        clear hr;go_wp2
        all_goals
         go_meet;exact⟨by rw[E],SA.out⟩
       ·have d1:(x.regs==0)=false:=by simpa using hr
        have E:plB x 0=false:=by rw[QfM,d1];rfl
        go_wp2
        go_meet;exact⟨by rw[E],SA.out⟩
      case rest =>
       obtain⟨rfl,hc⟩:=hcut
       have SB:=QJ hc;clear hc SA q0 q1;go_wp2_with fail
       go_loopw [7,8] (fun v i wr=>∃ q:Nat,q≤x.results.length∧i=.int .i64 q∧v=.bool (plB x q)∧FbS w wr R L) (fun _ i _=>x.results.length - (intOf i).toNat)
       case atStart=>exact⟨0,Nat.zero_le _,rfl,rfl,SB.out⟩
       case round =>
        obtain⟨q,hq,rfl,rfl,hs⟩:=hrel
        have SQ:=QJ hs;clear hs SB;have q2:=Qb (BX.out _ SQ.out).1 2 _ rfl;by_cases hqt:q<x.results.length
        ·have hqt':(q:Int)<x.results.length:=by omega
         have ht:x.results[q]?=some x.results[q]:=List.getElem?_eq_getElem hqt;generalize x.results[q]=t at ht;have HN:=QJ (Qjc ht);obtain⟨gt,ot,ta,tc,e3,-,u0k,-,-,-⟩:=(QI (Lay.below HI1.out.results SQ.out.bel)).1.at ht
         have q9:=q2;rw[e3] at q9
         clear ht e3 q2;generalize plB x q=pq at HN
         cases pq with
         | true =>
          go_wp2
          all_goals
           go_roundw
           case rel=>exact⟨q+1,by omega,by go_num,by rw[HN.out];rfl,SQ.out⟩
           case measure=>simp[intOf];omega
         | false =>
          go_wp2
          go_roundw
          case rel=>exact⟨q+1,by omega,by go_num,by rw[HN.out];rfl,SQ.out⟩
          case measure=>simp[intOf];omega
        have hqt':¬ (q:Int)<x.results.length:=by omega
        have hqe:q=x.results.length:=by omega
        subst hqe;generalize hpq:plB x x.results.length=pq
        cases pq with
        | true =>
         go_wp2
         go_meet;exact⟨SQ.out,fun _=>hpq⟩
        | false =>
         have E:modFault m=(18,10000*(k:Int)+9999):=by
          have e9:Qg.fault m.length k x=(18,10000*(k:Int)+9999):=by unfold Qg.fault;rw[if_neg c2,hl1,if_neg (by simp),hl2,if_neg (by simp),if_neg c5,if_pos ⟨H0.out,fun h=>by rw[(Qhw x).2 h] at hpq;cases hpq⟩]
          rw[EM.out (by rw[e9];show (18:Int)≠0;decide),e9]
         go_wp2_with fail
         refine Calls.mono (Qav HP.out) ?_;rintro _ ua0 ⟨rfl,bb⟩;have SQ:=QJ (SQ.out.below bb);clear bb;go_wp2_with fail
         refine Calls.mono (QaT) ?_;rintro _ ua1 ⟨rfl,bb⟩;have SQ:=QJ (SQ.out.below bb);clear bb;try simp only[QY]
         obtain⟨r0,r1,z0,z1⟩:=SQ.out.cells
         have D:=QJ (SQ.out.fin (18) (10000*(k:Int)+9999));go_wp2_with fail
         generalize World.setCell _ _ _=w99 at D ⊢;exact bodyPost_ret (v:=.agg #[.int .i64 (18),.int .i64 (10000*(k:Int)+9999)]) (by simp[results,Tryz.results21,go_sem,Qb D.out.1 0 _ rfl,Qb D.out.1 1 _ rfl]) rfl ⟨by first | rfl | rw[E],D.out.2⟩
     case rest =>
      obtain⟨hc,hpl⟩:=hcut
      have SB:=QJ hc;have c6:¬ (k=0∧¬ (x.regs=0∧x.params.length=0∧x.results.all (fun t=>t.kind==1)=true)):=fun h=>h.2 ((Qhw x).1 (hpl h.1))
      have EF:Hid (Qg.fault m.length k x=firstF (fun b y=>Qh.fault m.length k x b y) 0 x.blocks):=by
       show _=_;unfold Qg.fault;rw[if_neg c2,hl1,if_neg (by simp),hl2,if_neg (by simp),if_neg c5,if_neg c6]
      clear hc hpl SA c2 hl1 hl2 c5 c6;go_wp2_with fail
      go_loopw [9] (fun i wr=>∃ q:Nat,q≤x.blocks.length∧i=.int .i64 q∧FbS w wr R L∧∀ (j:Nat) y,j<q→x.blocks[j]?=some y→(Qh.fault m.length k x j y).1=0) (fun i _=>x.blocks.length - (intOf i).toNat)
      case atStart=>exact⟨0,Nat.zero_le _,rfl,SB.out,fun j z hj=>absurd hj (Nat.not_lt_zero _)⟩
      case round =>
       obtain⟨q,hq,rfl,hs,hall⟩:=hrel
       have SQ:=QJ hs;have HBQ:=QJ hall;clear hs hall SB;have q3:=Qb (BX.out _ SQ.out).1 3 _ rfl;by_cases hqt:q<x.blocks.length
       rotate_left
       ·have hqt':¬ (q:Int)<x.blocks.length:=by omega
        go_wp2
        go_roundw
        case rel =>
         refine⟨k+1,by omega,by go_num,DR.out _ SQ.out,fun j f hj hf=>?_⟩
         by_cases hjk:j<k
         ·exact HAQ.out j f hjk hf
         ·have:j=k:=by omega
          subst this;rw[HXK.out] at hf
          cases hf
          rw[EF.out,ZF fun b y hb=>by rw[Nat.zero_add];exact HBQ.out b y (by have:=(List.getElem?_eq_some_iff.1 hb).1;omega) hb]
        case measure=>simp[intOf];omega
       have hqt':(q:Int)<x.blocks.length:=by omega
       have hyq:x.blocks[q]?=some x.blocks[q]:=List.getElem?_eq_getElem hqt;generalize x.blocks[q]=y at hyq;have HYQ:=QJ hyq;have CB:=QJ (Qdb (Lay.below HM.out SQ.out.bel) HS.out HXK.out hyq);unfold Rd at CB;obtain⟨bc,bp,hbf⟩:∃ bc bp,Qh.fault m.length k x q y=(bc,bp):=⟨_,_,rfl⟩
       rw[hbf] at CB
       have HBF:=QJ hbf;have x0:=Qb (BX.out _ SQ.out).2 0 _ rfl;clear hyq hbf;go_wp2_with fail
       refine CB.out.mono ?_;rintro _ w8 ⟨rfl,b8⟩;have S9:=QJ ((SQ.out.below b8).new #[.int .i64 bc,.int .i64 bp] 30);clear b8 CB SQ q3 x0;simp only[QY]
       go_upto_region 29 with fail
       generalize w8.alloc (.cells #[.int .i64 bc,.int .i64 bp] 30)=w9 at S9 ⊢;generalize w8.heap.size=F8 at S9 ⊢;have f0:=Qb (S9.out.box 0 _ rfl) 0 _ rfl;have f1:=Qb (S9.out.box 0 _ rfl) 1 _ rfl;have S8:Hid (FbS w w9 R L):=⟨S9.out.bel,S9.out.ge,S9.out.r,fun i b hb=>S9.out.box (i+1) b hb⟩;clear S9;by_cases hbc:bc=0
       ·subst hbc;go_wp2
        go_roundw
        case rel =>
         refine⟨q+1,by omega,by go_num,S8.out,fun j u hj hu=>?_⟩
         by_cases hjq:j<q
         ·exact HBQ.out j u hjq hu
         ·have:j=q:=by omega
          subst this;rw[HYQ.out] at hu
          cases hu
          rw[HBF.out]
        case measure=>simp[intOf];omega
       ·have d9:(bc!=0)=true:=by simpa using hbc
        have E:modFault m=(bc,bp):=by
         have hF:=Qae (f:=fun b y=>Qh.fault m.length k x b y) (j:=0) HYQ.out (fun j u hj hu=>by rw[Nat.zero_add];exact HBQ.out j u hj hu) (by rw[Nat.zero_add,HBF.out];exact hbc);rw[Nat.zero_add,HBF.out] at hF
         rw[EM.out (by rw[EF.out,hF];exact hbc),EF.out,hF]
        clear hbc;try simp only[QY]
        obtain⟨r0,r1,z0,z1⟩:=S8.out.cells
        have D:=QJ (S8.out.fin (bc) (bp));go_wp2_with fail
        generalize World.setCell _ _ _=w99 at D ⊢;exact bodyPost_ret (v:=.agg #[.int .i64 (bc),.int .i64 (bp)]) (by simp[results,Tryz.results21,go_sem,Qb D.out.1 0 _ rfl,Qb D.out.1 1 _ rfl]) rfl ⟨by first | rfl | rw[E],D.out.2⟩
def MEnd.many (x:MEnd):Nat:=x.args.length+x.yes.regs.length+x.yes.args.length+x.no.regs.length+x.no.args.length
theorem Qf5 {n:Nat}{w:World}{m:List (Qg n)}{p a1:Option Addr}{c N c1:Nat}{x:MEnd}{e:EP}(f b:Int) (hm:(Qak n).In w All m [.slice p m.length c]) (hsz:x.many<9223372036854775807) (hno:QX m∨150<(N:Int)∨1000<(x.many:Int)∨(modFault m).1≠0) :
 Calls Tryz.prog 6 #[.agg #[.slice p m.length c],.int .i64 f,.int .i64 b,.slice a1 N c1,.agg (Zz x e)] w fun r w'=>r=.returned (.bool true)∧Below w.heap.size w w':=by
 have b0:=QO w (.cells #[.slice p m.length c] 24);have b1:=b0.trans ((QO (w.alloc (.cells #[.slice p m.length c] 24)) (.cells (Zz x e) 47)).mono b0.size);have HM:Hid ((Qak n).In w All m [.slice p m.length c]):=hm;have HB:=Qa b1;have x0:=Qi (Qb (Qe w #[.slice p m.length c] 24) 0 _ rfl) (QO (w.alloc (.cells #[.slice p m.length c] 24)) (.cells (Zz x e) 47));have y3:=Qb (Qe (w.alloc (.cells #[.slice p m.length c] 24)) (Zz x e) 47) 3 _ rfl;have y4:=Qb (Qe (w.alloc (.cells #[.slice p m.length c] 24)) (Zz x e) 47) 4 _ rfl;have y6:=Qb (Qe (w.alloc (.cells #[.slice p m.length c] 24)) (Zz x e) 47) 6 _ rfl;have y7:=Qb (Qe (w.alloc (.cells #[.slice p m.length c] 24)) (Zz x e) 47) 7 _ rfl;have y8:=Qb (Qe (w.alloc (.cells #[.slice p m.length c] 24)) (Zz x e) 47) 8 _ rfl;have HNO:=Qa hno;clear hm b1 hno b0;go_enter Tryz.func6,Tryz.ntmps6
 go_upto_region 1 with fail
 generalize hw1:(w.alloc (.cells #[.slice p m.length c] 24)).alloc (.cells (Zz x e) 47)=w1 at HB x0 y3 y4 y6 y7 y8 ⊢;clear hw1;have hY:(w.alloc (.cells #[.slice p m.length c] 24)).heap.size=w.heap.size+1:=by show (w.heap.push _).size=_;exact Array.size_push _
 rw[hY] at y3 y4 y6 y7 y8
 clear hY;obtain⟨X,hX⟩:∃ X,w.heap.size=X:=⟨_,rfl⟩
 rw[hX] at x0 y3 y4 y6 y7 y8 ⊢
 rw[← hX]
 have HXE:=Qa hX;go_wp2_with fail
 refine(Qap w1).mono ?_
 rintro e2 w2 ⟨rfl,b2⟩;have HB2:=Qa (HB.out.trans (b2.mono HB.out.size));have x2:=Qi x0 b2;have y3:=Qi y3 b2;have y4:=Qi y4 b2;have y6:=Qi y6 b2;have y7:=Qi y7 b2;have y8:=Qi y8 b2;clear x0 b2 HB;have CG:=Qa (Qai n m p c w2 (Lay.below HM.out HB2.out));unfold Rd at CG;rw[HXE.out]
 by_cases hg:QX m
 ·rw[QH hg] at CG
  go_wp2_with fail
  refine CG.out.mono ?_;rintro e3 w3 ⟨rfl,b3⟩;have HB3:=Qa (HB2.out.trans (b3.mono HB2.out.size));clear b3 CG;go_wp2_with fail
  go_ret;exact⟨rfl,by first | exact HB3.out | (rw[← HXE.out];exact HB3.out)⟩
 rw[QF hg] at CG
 by_cases hn:150<(N:Int)
 ·have hn':decide ((N:Int)>150)=true:=decide_eq_true hn;go_wp2_with fail
  refine CG.out.mono ?_;rintro e3 w3 ⟨rfl,b3⟩;have HB3:=Qa (HB2.out.trans (b3.mono HB2.out.size));clear b3 CG;go_wp2_with fail
  go_ret;exact⟨rfl,by first | exact HB3.out | (rw[← HXE.out];exact HB3.out)⟩
 have hn':decide ((N:Int)>150)=false:=decide_eq_false hn;unfold MEnd.many at hsz HNO;by_cases hq:1000<((x.args.length+x.yes.regs.length+x.yes.args.length+x.no.regs.length+x.no.args.length:Nat):Int)
 ·go_wp2_with fail
  refine CG.out.mono ?_;rintro e3 w3 ⟨rfl,b3⟩;have HB3:=Qa (HB2.out.trans (b3.mono HB2.out.size));have y3:=Qi y3 b3;have y4:=Qi y4 b3;have y6:=Qi y6 b3;have y7:=Qi y7 b3;have y8:=Qi y8 b3;clear b3 CG;go_wp2_with fail
  go_ret;exact⟨rfl,by first | exact HB3.out | (rw[← HXE.out];exact HB3.out)⟩
 have hf:(modFault m).1≠0:=by
  rcases HNO.out with h | h | h | h
  ·exact absurd h hg
  ·exact absurd h hn
  ·exact absurd h hq
  ·exact h
 have HMS:=Qa (Qa8 hg);go_wp2_with fail
 refine CG.out.mono ?_;rintro e3 w3 ⟨rfl,b3⟩;have HB3:=Qa (HB2.out.trans (b3.mono HB2.out.size));have x3:=Qi x2 b3;have y3:=Qi y3 b3;have y4:=Qi y4 b3;have y6:=Qi y6 b3;have y7:=Qi y7 b3;have y8:=Qi y8 b3;clear b3 CG x2 HB2;have CN:=Qa (QgB f b hg hf (Lay.below HM.out HB3.out));go_wp2_with fail
 refine CN.out.mono ?_;rintro e4 w4 ⟨rfl,b4⟩;have HB4:=Qa (HB3.out.trans (b4.mono HB3.out.size));have x4:=Qi x3 b4;clear b4 CN x3 HB3 y3 y4 y6 y7 y8;have hf':((modFault m).1==0)=false:=by simpa using hf
 have hf2:((modFault m).1!=0)=true:=by simpa using hf
 have b5:=QO w4 (.cells #[.int .i64 (modFault m).1,.int .i64 (modFault m).2] 30);have HB5:=Qa (HB4.out.trans (b5.mono HB4.out.size));have x5:=Qi x4 b5;have z50:=Qb (Qe w4 #[.int .i64 (modFault m).1,.int .i64 (modFault m).2] 30) 0 _ rfl;have z51:=Qb (Qe w4 #[.int .i64 (modFault m).1,.int .i64 (modFault m).2] 30) 1 _ rfl;clear b5 x4 HB4;go_upto_region 6 with fail
 generalize hw5:w4.alloc (.cells #[.int .i64 (modFault m).1,.int .i64 (modFault m).2] 30)=w5 at HB5 x5 z50 z51 ⊢;clear hw5;generalize w4.heap.size=F1 at z50 z51 ⊢;have CF:=Qa (QaI (Lay.below HM.out HB5.out) HMS.out);unfold Rd at CF;go_wp2_with fail
 refine CF.out.mono ?_;rintro e6 w6 ⟨rfl,b6⟩;have HB6:=Qa (HB5.out.trans (b6.mono HB5.out.size));have z50:=Qi z50 b6;have z51:=Qi z51 b6;clear b6 CF x5 HB5;have b7:=QO w6 (.cells #[.int .i64 (modFault m).1,.int .i64 (modFault m).2] 30);have HB7:=Qa (HB6.out.trans (b7.mono HB6.out.size));have z50:=Qi z50 b7;have z51:=Qi z51 b7;have z70:=Qb (Qe w6 #[.int .i64 (modFault m).1,.int .i64 (modFault m).2] 30) 0 _ rfl;have z71:=Qb (Qe w6 #[.int .i64 (modFault m).1,.int .i64 (modFault m).2] 30) 1 _ rfl;clear b7 HB6;go_upto_region 7 with fail
 generalize hw7:w6.alloc (.cells #[.int .i64 (modFault m).1,.int .i64 (modFault m).2] 30)=w7 at HB7 z50 z51 z70 z71 ⊢;clear hw7;generalize w6.heap.size=F2 at z70 z71 ⊢;generalize modFault m=mf at hf' hf2 z50 z51 z70 z71 ⊢;obtain⟨mc,ma⟩:=mf
 simp only at hf' hf2 z50 z51 z70 z71 ⊢
 go_wp2_with fail
 go_ret;exact⟨rfl,by first | exact HB7.out | (rw[← HXE.out];exact HB7.out)⟩
def KTo (wA w:World) (b:Nat) (O:Nat→Prop) (s:JSt):Prop:=∃ O',KAt w b O' s∧Zj O O' wA w∧∀ k,O' k→k<w.heap.size
section
variable {w w9 wA:World}{b:Nat}{O:Nat→Prop}{L:List Bool}{s:JSt}
theorem Qk.push2 (h:Qk w b O L){a:Option Addr}{cap cap2 g:Nat}(c0:w.cell? ⟨b,0,none⟩=some (.slice a L.length cap))
 (h1:w9.ownsRow 0 4 1 (.slice (some ⟨g,0,none⟩) (L.length+1) cap2) (L.length+1) (L.map Value.bool++[.bool true])) (h2:w.grownBy w9 (Value.slice a L.length cap).ownBlock) (h3:(Value.slice a L.length cap).ownBlock=some g∨w.heap.size≤g) (h4:g<w9.heap.size) :
 w9.cell? ⟨b,0,none⟩=some (.slice a L.length cap)∧w9.frozen? ⟨b,0,none⟩=false ∧
 Qk (w9.setCell ⟨b,0,none⟩ (.slice (some ⟨g,0,none⟩) (L.length+1) cap2)) b (fun x=>O x∨(w.heap.size≤x∧x<w9.heap.size)) (L++[true])∧Zj O (fun x=>O x∨(w.heap.size≤x∧x<w9.heap.size)) w (w9.setCell ⟨b,0,none⟩ (.slice (some ⟨g,0,none⟩) (L.length+1) cap2)):=by
 obtain⟨v,k1,k2,k3⟩:=h
 have e:=Qb k1 0 _ rfl;rw[c0] at e
 simp only[Option.some.injEq] at e
 subst e;have hbl:b<w.heap.size:=lt_of_block k1
 have hne:∀ g',(Value.slice a L.length cap).ownBlock=some g'→b≠g':=fun g' hg'=>by
  obtain⟨c,hc⟩:=k2.block hg'
  exact QT k1 hc (by decide)
 have kb:w9.heap[b]?=some (.cells #[.slice a L.length cap] 74 (0,0)):=by
  rw[h2.block b hbl (fun e=>hne b e.symm rfl)];exact k1
 have hgb:b≠g:=by
  rcases h3 with h | h
  ·exact hne g h
  ·omega
 have hsz:=h2.size;refine⟨Qb kb 0 _ rfl,Qp kb 0,⟨.slice (some ⟨g,0,none⟩) (L.length+1) cap2,?_,⟨?_,fun g' hg'=>?_⟩,.inl k3⟩,?_⟩
 ·rw[Qo kb];rfl
 ·have:Qd9 w9 (fun _=>True) 4 (.slice (some ⟨g,0,none⟩) (L.length+1) cap2) ((L++[true]).map Value.bool):=⟨by simpa using h1,fun _ _=>trivial⟩
  exact(this.keep (w':=w9.setCell ⟨b,0,none⟩ (.slice (some ⟨g,0,none⟩) (L.length+1) cap2)) (O':=fun _=>True) (fun g' hg'=>Below.heap_setCell _ _ _ _ (by simp[Value.ownBlock] at hg';subst hg';exact fun e=>hgb e.symm)) (fun _ _=>trivial)).1
 ·simp[Value.ownBlock] at hg'
  subst hg';rcases h3 with h | h
  ·exact .inl (k2.2 _ h)
  ·exact .inr ⟨h,h4⟩
 ·refine⟨h2.os,h2.tape,h2.output,by simp;omega,fun k hk hn=>?_,fun k hk=>hk.imp id fun h=>h.1⟩
  rw[Below.heap_setCell _ _ _ _ (fun e=>hn (by subst e;exact k3)),h2.block k hk (fun e=>hn (k2.2 k e.symm))]
theorem Qk.keep2 {O':Nat→Prop}(h:Qk w b O L) (hb:∀ (g:Nat) (c:Array Value) (t:TypeId),w.heap[g]?=some (Obj.cells c t (0,0))→t=74∨t=4→w9.heap[g]?=w.heap[g]?) (hO:∀ g,O g→O' g):Qk w9 b O' L:=by
 obtain⟨v,h1,h2,h3⟩:=h
 exact⟨v,(hb b _ _ h1 (.inl rfl)).trans h1,h2.keep (fun g hg=>by obtain⟨c,hc⟩:=h2.block hg;exact hb g _ _ hc (.inr rfl)) (fun g hg=>hO g (h2.2 g hg)),hO b h3⟩
theorem KAt.pushH (hO:∀ k,O k→k<wA.heap.size) (h:KAt wA b O s):∃ hh a cap,wA.cell? ⟨b,5,none⟩=some (.pointer (some ⟨hh,0,none⟩))∧wA.cell? ⟨hh,0,none⟩=some (.slice a s.H.length cap)∧wA.ownsRow 0 4 1 (.slice a s.H.length cap) s.H.length (s.H.map Value.bool) ∧
 (∀ w9,wA.grownBy w9 (Value.slice a s.H.length cap).ownBlock→w9.cell? ⟨b,5,none⟩=some (.pointer (some ⟨hh,0,none⟩))∧w9.cell? ⟨hh,0,none⟩=some (.slice a s.H.length cap)∧w9.frozen? ⟨hh,0,none⟩=false) ∧
 ∀ w9 g cap2,w9.ownsRow 0 4 1 (.slice (some ⟨g,0,none⟩) (s.H.length+1) cap2) (s.H.length+1) (s.H.map Value.bool++[.bool true])→wA.grownBy w9 (Value.slice a s.H.length cap).ownBlock→((Value.slice a s.H.length cap).ownBlock=some g∨wA.heap.size≤g)→g<w9.heap.size →
  KTo wA (w9.setCell ⟨hh,0,none⟩ (.slice (some ⟨g,0,none⟩) (s.H.length+1) cap2)) b O { s with H:=s.H++[true] }:=by
 obtain⟨pm,cm,a1,c1,a2,c2,a3,c3,hh,vL,k1,k2,k3,k4,k5,k6⟩:=h
 obtain⟨a,cap,e1,e2,e3,-⟩:=k4.cells
 have hv:∀ g',(Value.slice a s.H.length cap).ownBlock=some g'→O g'∧∃ c,wA.heap[g']?=some (.cells c 4 (0,0)):=by
  obtain⟨v,q1,q2,q3⟩:=id k4
  have e:=Qb q1 0 _ rfl;rw[e1] at e
  simp only[Option.some.injEq] at e
  subst e;exact fun g' hg'=>⟨q2.2 g' hg',q2.block hg'⟩
 obtain⟨ch,hch⟩:∃ c,wA.heap[hh]?=some (.cells c 74 (0,0)):=by obtain⟨v,q1,-⟩:=id k4;exact⟨_,q1⟩
 have hbl:=lt_of_block k1
 have hnb:∀ g',(Value.slice a s.H.length cap).ownBlock=some g'→b≠g':=fun g' hg'=>by
  obtain⟨c,hc⟩:=(hv g' hg').2
  exact QT k1 hc (by decide)
 have hnh:∀ g',(Value.slice a s.H.length cap).ownBlock=some g'→hh≠g':=fun g' hg'=>by
  obtain⟨c,hc⟩:=(hv g' hg').2
  exact QT hch hc (by decide)
 have hbh:b≠hh:=QT k1 hch (by decide);refine⟨hh,a,cap,Qb k1 5 _ rfl,e1,e3,fun w9 hg=>?_,fun w9 g cap2 h1 h2 h3 h4=>?_⟩
 ·have r1:w9.heap[hh]?=some (.cells ch 74 (0,0)):=(hg.block hh k4.lt (fun e=>hnh hh e.symm rfl)).trans hch;exact⟨(hg.cell_far ⟨b,5,none⟩ hbl (fun e=>hnb b e.symm rfl)).trans (Qb k1 5 _ rfl),(hg.cell_far ⟨hh,0,none⟩ k4.lt (fun e=>hnh hh e.symm rfl)).trans e1,Qp r1 0⟩
 obtain⟨-,-,r3,r4⟩:=k4.push2 e1 h1 h2 h3 h4
 have hsz:=h2.size;have low:∀ k,¬ O k→k<wA.heap.size→¬ (O k∨(wA.heap.size≤k∧k<w9.heap.size)):=fun k hk hl e=>by rcases e with e | e;exact hk e;omega
 refine⟨_,⟨pm,cm,a1,c1,a2,c2,a3,c3,hh,vL,?_,(Qak 6).keep (fun k hk hl=>r4.block k hl hk) low k2,(Zs 6).keep (fun k hk hl=>r4.block k hl hk) low k3,r3,k5.keep (fun k hl hk=>?_) (fun k hk=>?_) low,.inl k6⟩,r4,fun k hk=>?_⟩
 ·rw[Below.heap_setCell _ _ _ _ (show b≠hh from hbh),h2.block b hbl (fun e=>hnb b e.symm rfl)];exact k1
 ·rcases hk with hk | hk
  ·obtain⟨c,hc⟩:=k5.block hk
   rw[Below.heap_setCell _ _ _ _ (show k≠hh from QT hc hch (by decide)),h2.block k hl (fun e=>by obtain⟨c',hc'⟩:=(hv k e.symm).2;exact QT hc hc' (by decide) rfl)]
  ·exact r4.block k hl hk
 ·obtain⟨xs,q1,q2,q3⟩:=k5
  exact .inl (q2 k hk)
 ·rw[World.size_setCell]
  rcases hk with hk | hk
  ·have:=hO k hk;omega
  ·exact hk.2
theorem KAt.setH (hO:∀ k,O k→k<wA.heap.size) (h:KAt wA b O s):∃ hh a cap,wA.cell? ⟨b,5,none⟩=some (.pointer (some ⟨hh,0,none⟩))∧wA.cell? ⟨hh,0,none⟩=some (.slice a s.H.length cap) ∧
 ∀ i,i<s.H.length→∃ g,a=some ⟨g,0,none⟩∧(∃ u,wA.cell? ⟨g,i,none⟩=some (.bool u))∧wA.frozen? ⟨g,i,none⟩=false∧KTo wA (wA.setCell ⟨g,i,none⟩ (.bool false)) b O { s with H:=s.H.set i false }:=by
 obtain⟨pm,cm,a1,c1,a2,c2,a3,c3,hh,vL,k1,k2,k3,k4,k5,k6⟩:=h
 obtain⟨a,cap,e1,e2,e3,e4⟩:=k4.cells
 have hv:∀ g',(Value.slice a s.H.length cap).ownBlock=some g'→O g'∧∃ c,wA.heap[g']?=some (.cells c 4 (0,0)):=by
  obtain⟨v,q1,q2,q3⟩:=id k4
  have e:=Qb q1 0 _ rfl;rw[e1] at e
  simp only[Option.some.injEq] at e
  subst e;exact fun g' hg'=>⟨q2.2 g' hg',q2.block hg'⟩
 refine⟨hh,a,cap,Qb k1 5 _ rfl,e1,fun i hi=>?_⟩
 obtain⟨g,rfl,hg,f1,f2,f3⟩:=e4 i hi
 obtain⟨c,hc⟩:=(hv g rfl).2
 have st:Zj O O wA (wA.setCell ⟨g,i,none⟩ (.bool false)):=⟨rfl,rfl,rfl,by simp,fun k hk hn=>Below.heap_setCell _ _ _ _ (fun e=>hn (by subst e;exact hg)),fun k hk=>.inl hk⟩;refine⟨g,rfl,⟨_,f1⟩,f2,O,⟨pm,cm,a1,c1,a2,c2,a3,c3,hh,vL,?_,(Qak 6).keep (fun k hk hl=>st.block k hl hk) (fun k hk _=>hk) k2,(Zs 6).keep (fun k hk hl=>st.block k hl hk) (fun k hk _=>hk) k3,f3 false,k5.keep (fun k hl hk=>?_) (fun k hk=>?_) (fun k hk _=>hk),k6⟩,st,fun k hk=>by rw[World.size_setCell];exact hO k hk⟩
 ·rw[Below.heap_setCell _ _ _ _ (show b≠g from QT k1 hc (by decide))];exact k1
 ·rcases hk with hk | hk
  ·obtain⟨c',hc'⟩:=k5.block hk
   exact Below.heap_setCell _ _ _ _ (show k≠g from QT hc' hc (by decide))
  ·exact st.block k hl hk
 ·obtain⟨xs,q1,q2,q3⟩:=k5
  exact q2 k hk
theorem KAt.pushL (hO:∀ k,O k→k<wA.heap.size) (h:KAt wA b O s):∃ aL cL xs,wA.cell? ⟨b,6,none⟩=some (.slice aL s.L.length cL)∧wA.frozen? ⟨b,6,none⟩=false∧s.L.length≤cL∧wA.ownsRow 0 79 3 (.slice aL s.L.length cL) s.L.length xs ∧
 ∀ w9 g cap2 (l:List (TT 6)) ds,ds.length=l.length*3→w9.ownsRow 0 79 3 (.slice (some ⟨g,0,none⟩) (s.L.length+l.length) cap2) (s.L.length+l.length) (xs++ds)→wA.grownBy w9 (Value.slice aL s.L.length cL).ownBlock→((Value.slice aL s.L.length cL).ownBlock=some g∨g=wA.heap.size)→g<w9.heap.size →
  (∀ i x,l[i]?=some x→(Lay.tt 6).In wA (fun g=>¬ O g) x ((ds.drop (i*3)).take 3)) →
  w9.cell? ⟨b,6,none⟩=some (.slice aL s.L.length cL)∧w9.frozen? ⟨b,6,none⟩=false∧KTo wA (w9.setCell ⟨b,6,none⟩ (.slice (some ⟨g,0,none⟩) (s.L.length+l.length) cap2)) b O { s with L:=s.L++l }:=by
 obtain⟨pm,cm,a1,c1,a2,c2,a3,c3,hh,vL,k1,k2,k3,k4,k5,k6⟩:=h
 obtain⟨aL,cL,rfl,-,-⟩:=k5.form
 have hv:∀ {g'},(Value.slice aL s.L.length cL).ownBlock=some g'→O g'∧∃ c,wA.heap[g']?=some (.cells c 79 (0,0)):=fun {g'} hg'=>⟨by obtain⟨xs,q1,q2,q3⟩:=id k5;exact q2 g' hg',k5.block hg'⟩;obtain⟨xs,q1,q2,q3⟩:=k5
 obtain⟨ch,hch⟩:∃ c,wA.heap[hh]?=some (.cells c 74 (0,0)):=by obtain⟨v,q1,-⟩:=id k4;exact⟨_,q1⟩
 have hbl:=lt_of_block k1
 have hnb:∀ g',(Value.slice aL s.L.length cL).ownBlock=some g'→b≠g':=fun g' hg'=>by
  obtain⟨c,hc⟩:=(hv hg').2
  exact QT k1 hc (by decide)
 have hle:s.L.length≤cL:=by
  obtain⟨-,q⟩:=id q1
  rcases q with ⟨e,e2⟩|⟨g,cap,cur,e,_,_,hn,_⟩
  ·omega
  ·simp only[Value.slice.injEq] at e;omega
 refine⟨aL,cL,xs,Qb k1 6 _ rfl,Qp k1 6,hle,q1,fun w9 g cap2 l ds hdl h1 h2 h3 h4 h5=>?_⟩
 have hsz:=h2.size;have kb:=(h2.block b hbl (fun e=>hnb b e.symm rfl)).trans k1
 have hgb:b≠g:=by
  rcases h3 with h | h
  ·exact hnb g h
  ·omega
 have low:∀ k,¬ O k→k<wA.heap.size→¬ (O k∨(wA.heap.size≤k∧k<w9.heap.size)):=fun k hk hl e=>by rcases e with e | e;exact hk e;omega
 have r4:Zj O (fun x=>O x∨(wA.heap.size≤x∧x<w9.heap.size)) wA (w9.setCell ⟨b,6,none⟩ (.slice (some ⟨g,0,none⟩) (s.L.length+l.length) cap2)):=by
  refine⟨h2.os,h2.tape,h2.output,by simp;omega,fun k hk hn=>?_,fun k hk=>hk.imp id fun h=>h.1⟩
  rw[Below.heap_setCell _ _ _ _ (fun e=>hn (by subst e;exact k6)),h2.block k hk (fun e=>hn (hv e.symm).1)]
 refine⟨Qb kb 6 _ rfl,Qp kb 6,_,⟨pm,cm,a1,c1,a2,c2,a3,c3,hh,.slice (some ⟨g,0,none⟩) (s.L.length+l.length) cap2,?_,(Qak 6).keep (fun k hk hl=>r4.block k hl hk) low k2,(Zs 6).keep (fun k hk hl=>r4.block k hl hk) low k3,k4.keep2 (fun k c t hk ht=>?_) (fun k hk=>.inl hk),?_,.inl k6⟩,r4,fun k hk=>?_⟩
 ·rw[Qo kb];rfl
 ·rw[Below.heap_setCell _ _ _ _ (show k≠b from QT hk k1 (by rcases ht with rfl | rfl<;>decide)),h2.block k (lt_of_block hk) (fun e=>by obtain⟨c',hc'⟩:=(hv e.symm).2;exact QT hk hc' (by rcases ht with rfl | rfl<;>decide) rfl)]
 ·refine⟨xs++ds,?_,fun k hk=>?_,?_⟩
  ·rw[List.length_append]
   exact Qby h1 (Below.heap_setCell _ _ _ _ (show g≠b from fun e=>hgb e.symm))
  ·simp[Value.ownBlock] at hk
   subst hk;rcases h3 with h | h
   ·exact .inl (hv h).1
   ·exact .inr ⟨by omega,h4⟩
  ·refine QaO (s:=3) (P:=fun x cs=>(Lay.tt 6).In _ _ x cs) q1.1 (fun i x hx=>?_) (fun i x hx=>?_)
   ·exact(Lay.tt 6).keep (fun k hk hl=>r4.block k hl hk) low (q3 i x hx)
   ·exact(Lay.tt 6).keep (fun k hk hl=>r4.block k hl hk) low (h5 i x hx)
 ·rw[World.size_setCell]
  rcases hk with hk | hk
  ·have:=hO k hk;omega
  ·exact hk.2
end
theorem ZE.via {l:List Oper}{S:Nat→Bool}(hcl:ZE l S){q i:Nat}{o:Oper}(ho:l[q]?=some o) (hw:Qbj l 24 o i=true) (hq:S q=true):S i=true :=
 QaZ (all:=l) (S:=fun j=>S j=true) hcl 24 o hw (hcl q o ho hq)
theorem ZE.no {l:List Oper}{S:Nat→Bool}(hcl:ZE l S){q i:Nat}{o:Oper}(ho:l[q]?=some o) (hw:Qbj l 24 o i=true) (hS:S i=false):S q=false:=by
 cases h:S q with
 | false=>rfl
 | true=>have:=hcl.via ho hw h;rw[hS] at this;cases this
theorem ZI {i j:Nat}{S:Nat→Bool}(h:j≠i):Qan i S j=S j:=by
 have:(j==i)=false:=by simpa using h
 unfold Qan;rw[this,Bool.false_or]
def hTi:List (Nat × Tmp):=[(0,38),(1,39),(2,40),(3,41),(4,42),(5,43),(6,44),(7,45),(8,46),(9,47),(10,48),(11,49),(12,50),(13,51),(14,52)]
def hMv (b hh rn rc G g2 cap2:Nat) (ra:Option Addr):List (Tmp × Value):=[(38,.pointer (some ⟨b,0,none⟩)),(39,.pointer (some ⟨b,0,none⟩)),(40,.pointer (some ⟨b,5,none⟩)),(41,.pointer (some ⟨hh,0,none⟩)),(42,.pointer (some ⟨b,0,none⟩)),(43,.pointer (some ⟨b,0,none⟩)),(44,.pointer (some ⟨b,5,none⟩)),(45,.pointer (some ⟨hh,0,none⟩)),(46,.pointer (some ⟨hh,0,none⟩)),(47,.pointer (some ⟨hh,0,none⟩)),(48,.slice ra rn rc),(49,.slice (some ⟨G,0,none⟩) 1 1),(50,.slice (some ⟨g2,0,none⟩) (rn+1) cap2),(51,.pointer (some ⟨hh,0,none⟩)),(52,.pointer (some ⟨hh,0,none⟩))]
def HIv (n:Nat) (a0:Act) (wA:World) (b:Nat) (O:Nat→Prop) (s:JSt) (hh rn rc:Nat) (ra:Option Addr) (S:Nat→Bool) (a:Act) (w:World):Prop :=
 a.tmps.size=n∧a.defers=[]∧(∀ t,([38,39,40,41,42,43,44,45,46,47,48,49,50,51,52]:List Tmp).contains t=false→a.tmps.getD t undef=a0.tmps.getD t undef)∧∃ G g2 cap2,
  (∀ x∈hTi,S x.1=true→∀ v,(hMv b hh rn rc G g2 cap2 ra).lookup x.2=some v→a.tmps.getD x.2 undef=v) ∧
  (S 15=false→wA.grownBy w (Value.slice ra rn rc).ownBlock∧(S 12=false→Below wA.heap.size wA w∧(S 11=true→wA.heap.size≤G∧w.heap[G]?=some (.cells #[.bool true] 4 (0,0)))) ∧
   (S 12=true→w.ownsRow 0 4 1 (.slice (some ⟨g2,0,none⟩) (rn+1) cap2) (rn+1) (s.H.map Value.bool++[.bool true])∧((Value.slice ra rn rc).ownBlock=some g2∨wA.heap.size≤g2)∧g2<w.heap.size)) ∧
  (S 15=true→KTo wA w b O { s with H:=s.H++[true] })
section
variable {n:Nat}{a0 a:Act}{wA w w':World}{b hh rn rc:Nat}{O:Nat→Prop}{s:JSt}{ra:Option Addr}{S:Nat→Bool}
theorem hTi_lt:∀ x∈hTi,x.2<53∧([38,39,40,41,42,43,44,45,46,47,48,49,50,51,52]:List Tmp).contains x.2=true:=by decide
theorem HIv.pure {i:Nat}{t:Tmp}{v:Value}(hI:HIv n a0 wA b O s hh rn rc ra S a w) (hn:53≤n) (hi:(i,t)∈hTi) (hv:∀ G g2 cap2,(hMv b hh rn rc G g2 cap2 ra).lookup t=some v) (h11:i≠11) (h12:i≠12) (h15:i≠15):HIv n a0 wA b O s hh rn rc ra (Qan i S) (a.put (some t) v) w:=by
 obtain⟨h1,h2,h3,G,g2,cap2,h4,h5,h6⟩:=hI
 obtain⟨ht,htc⟩:=hTi_lt _ hi
 have hta:t<a.tmps.size:=by rw[h1];exact Nat.lt_of_lt_of_le ht hn
 refine⟨by rw[← h1];simp[Act.put],h2,fun u hu=>?_,G,g2,cap2,fun x hx hs v' hv'=>?_,?_,?_⟩
 ·have:u≠t:=fun e=>by subst e;rw[htc] at hu;cases hu
  rw[Q9 hta,if_neg this];exact h3 u hu
 ·rw[Q9 hta]
  by_cases e:x.2=t
  ·rw[if_pos e];rw[e,hv] at hv';exact Option.some.inj hv'
  ·rw[if_neg e]
   refine h4 x hx (Q0 (fun e2=>e ?_) hs) v' hv'
   have:∀ x∈hTi,∀ y∈hTi,x.1=y.1→x.2=y.2:=by decide
   exact this x hx (i,t) hi e2
 ·rw[ZI (Ne.symm h15),ZI (Ne.symm h12),ZI (Ne.symm h11)];exact h5
 ·rw[ZI (Ne.symm h15)];exact h6
end
def TRi (w:World) (lo hi:Nat) (v:Value) (ts:List (TT 6)):Prop :=
 ∃ xs,w.ownsRow 0 79 3 v ts.length xs∧(∀ g,v.ownBlock=some g→lo≤g∧g<hi)∧∀ i x,ts[i]?=some x→(Lay.tt 6).In w (fun k=>lo≤k∧k<hi∧v.ownBlock≠some k) x ((xs.drop (i*3)).take 3)
theorem TRi.below {w w':World}{lo hi:Nat}{v:Value}{ts:List (TT 6)}(h:TRi w lo hi v ts) (k:Below w.heap.size w w'):TRi w' lo hi v ts:=by
 obtain⟨xs,⟨h1,h2⟩,h3,h4⟩:=h
 refine⟨xs,⟨h1,?_⟩,h3,fun i x hx=>Lay.below (h4 i x hx) k⟩
 rcases h2 with h5 | ⟨g,cap,cur,rfl,hg,hh,r⟩
 ·exact .inl h5
 ·exact .inr ⟨g,cap,cur,rfl,hg,(k.block g (lt_of_block hh)).trans hh,r⟩
theorem TRi.of_row {w:World}{lo:Nat}{v:Value}{ts:List (TT 6)}{xs:List Value}(h:Qcq w lo v ts xs) (hok:∀ x∈ts,x.ok):TRi w lo w.heap.size v ts:=by
 have hl:=fun {g} hg=>h.lo_le (g:=g) hg;obtain⟨⟨h1,h2⟩,h3⟩:=h
 refine⟨xs,⟨h1,?_⟩,fun g hg=>hl hg,fun i x hx=>?_⟩
 ·rcases h2 with h5 | ⟨g,cap,cur,rfl,hg,r⟩
  ·exact .inl h5
  ·exact .inr ⟨g,cap,cur,rfl,Nat.zero_le _,r⟩
 ·obtain⟨a,c,e0,e1,e2,k⟩:=h3 i x hx
  refine⟨a,c,?_,k.mono (fun g hg hgl=>⟨hg.1,hgl,hg.2⟩),hok x (List.mem_of_getElem? hx)⟩
  have hi:i<ts.length:=(List.getElem?_eq_some_iff.1 hx).1;refine List.ext_getElem? fun j=>?_;rw[List.getElem?_take,List.getElem?_drop]
  match j with
  | 0=>simpa using e0
  | 1=>simpa using e1
  | 2=>simpa using e2
  | j+3=>rw[if_neg (by omega)];rfl
structure KZ where
 h:Nat
 lo:Nat
 hi:Nat
 lo2:Nat
 hi2:Nat
 B:Nat
 c:Nat
 a:Option Addr
def kTi:List (Nat × Tmp):=[(0,17),(1,18),(2,19),(3,20),(4,21),(5,22),(6,23),(7,24),(8,25),(9,26),(10,27),(11,28),(12,29),(13,30),(14,6)]
def kMv (X mg mo nm cm fi Bk n1 d1 fl fc fm fd fn ff:Nat) (fr gr:Int) (fa fb fe p1:Option Addr) (z:KZ):List (Tmp × Value):=[(17,.agg #[.slice (some ⟨mg,mo,none⟩) nm cm]),(18,.pointer (some ⟨X,0,none⟩)),(19,.slice (some ⟨mg,mo,none⟩) nm cm),(20,.int .i64 (fi:Int)),(21,.pointer (some ⟨mg,mo+fi*4,none⟩)),(22,.agg #[.int .i64 fr,.slice fa fl fc,.slice fb fm fd,.slice fe fn ff]),(23,.pointer (some ⟨Bk,0,none⟩)),(24,.int .i64 gr),(25,.pointer (some ⟨z.h,0,none⟩)),(26,.pointer (some ⟨Bk,1,none⟩)),(27,.slice p1 n1 d1),(28,.slice z.a n1 z.c),(29,.agg #[.slice (some ⟨mg,mo,none⟩) nm cm,.int .i64 fr,.slice fa fl fc,.slice fb fm fd,.slice fe fn ff,.pointer (some ⟨z.h,0,none⟩),.slice z.a n1 z.c]),(30,.pointer (some ⟨z.B,0,none⟩)),(6,.pointer (some ⟨z.B,0,none⟩))]
structure KIv (X mg mo nm cm fi Bk n1 d1 fl fc fm fd fn ff:Nat) (fr gr:Int) (fa fb fe p1:Option Addr) (n:Nat) (a0:Act) (w6:World) (ts:List (TT 6)) (z:KZ) (S:Nat→Bool) (a:Act) (w:World):Prop where
 size:a.tmps.size=n
 defers:a.defers=[]
 outer:∀ t,([17,18,19,20,21,22,23,24,25,26,27,28,29,30,6]:List Tmp).contains t=false→a.tmps.getD t undef=a0.tmps.getD t undef
 vals:∀ x∈kTi,S x.1=true→∀ v,(kMv X mg mo nm cm fi Bk n1 d1 fl fc fm fd fn ff fr gr fa fb fe p1 z).lookup x.2=some v→a.tmps.getD x.2 undef=v
 bel:Below w6.heap.size w6 w
 held:S 8=true→w6.heap.size≤z.lo∧z.hi≤w.heap.size∧Qk w z.h (fun k=>z.lo≤k∧k<z.hi) (Qcu gr)
 row:S 11=true→w6.heap.size≤z.lo2∧z.hi2≤w.heap.size∧TRi w z.lo2 z.hi2 (.slice z.a n1 z.c) ts
 apart:S 8=true→S 11=true→z.hi≤z.lo2∨z.hi2≤z.lo
 box:S 13=true→w6.heap.size≤z.B∧z.hi≤z.B∧z.hi2≤z.B∧Blk w z.B #[.slice (some ⟨mg,mo,none⟩) nm cm,.int .i64 fr,.slice fa fl fc,.slice fb fm fd,.slice fe fn ff,.pointer (some ⟨z.h,0,none⟩),.slice z.a n1 z.c] 65
section
variable {X mg mo nm cm fi Bk n1 d1 fl fc fm fd fn ff:Nat}{fr gr:Int}{fa fb fe p1:Option Addr}{n:Nat}{a0 a:Act}{w6 w w':World}{ts:List (TT 6)}{z:KZ}{S:Nat→Bool}
theorem kTi_lt:∀ x∈kTi,x.2<31∧([17,18,19,20,21,22,23,24,25,26,27,28,29,30,6]:List Tmp).contains x.2=true:=by decide
theorem kTi_ne:∀ x∈kTi,∀ y∈kTi,x.1=y.1→x.2=y.2:=by decide
theorem KIv.put {z':KZ}{i:Nat}{t:Tmp}{v:Value}(hI:KIv X mg mo nm cm fi Bk n1 d1 fl fc fm fd fn ff fr gr fa fb fe p1 n a0 w6 ts z S a w) (hn:31≤n) (hi:(i,t)∈kTi) (hv:(kMv X mg mo nm cm fi Bk n1 d1 fl fc fm fd fn ff fr gr fa fb fe p1 z').lookup t=some v) (hz:∀ x∈kTi,x.1≠i→S x.1=true→(kMv X mg mo nm cm fi Bk n1 d1 fl fc fm fd fn ff fr gr fa fb fe p1 z').lookup x.2=(kMv X mg mo nm cm fi Bk n1 d1 fl fc fm fd fn ff fr gr fa fb fe p1 z).lookup x.2)
 (h1:Below w6.heap.size w6 w') (h2:Qan i S 8=true→w6.heap.size≤z'.lo∧z'.hi≤w'.heap.size∧Qk w' z'.h (fun k=>z'.lo≤k∧k<z'.hi) (Qcu gr)) (h3:Qan i S 11=true→w6.heap.size≤z'.lo2∧z'.hi2≤w'.heap.size∧TRi w' z'.lo2 z'.hi2 (.slice z'.a n1 z'.c) ts)
 (h4:Qan i S 8=true→Qan i S 11=true→z'.hi≤z'.lo2∨z'.hi2≤z'.lo) (h5:Qan i S 13=true→w6.heap.size≤z'.B∧z'.hi≤z'.B∧z'.hi2≤z'.B∧Blk w' z'.B #[.slice (some ⟨mg,mo,none⟩) nm cm,.int .i64 fr,.slice fa fl fc,.slice fb fm fd,.slice fe fn ff,.pointer (some ⟨z'.h,0,none⟩),.slice z'.a n1 z'.c] 65) :
 KIv X mg mo nm cm fi Bk n1 d1 fl fc fm fd fn ff fr gr fa fb fe p1 n a0 w6 ts z' (Qan i S) (a.put (some t) v) w':=by
 obtain⟨ht,htc⟩:=kTi_lt _ hi
 have hta:t<a.tmps.size:=by rw[hI.size];exact Nat.lt_of_lt_of_le ht hn
 refine⟨by rw[← hI.size];simp[Act.put],hI.defers,fun u hu=>?_,fun x hx hs v' hv'=>?_,h1,h2,h3,h4,h5⟩
 ·have:u≠t:=fun e=>by subst e;rw[htc] at hu;cases hu
  rw[Q9 hta,if_neg this];exact hI.outer u hu
 ·rw[Q9 hta]
  by_cases e:x.2=t
  ·rw[if_pos e];rw[e,hv] at hv';exact Option.some.inj hv'
  ·rw[if_neg e]
   have hne:x.1≠i:=fun e2=>e (kTi_ne x hx (i,t) hi e2);have hs':=Q0 hne hs;rw[hz x hx hne hs'] at hv'
   exact hI.vals x hx hs' v' hv'
theorem KIv.pure {i:Nat}{t:Tmp}{v:Value}(hI:KIv X mg mo nm cm fi Bk n1 d1 fl fc fm fd fn ff fr gr fa fb fe p1 n a0 w6 ts z S a w) (hn:31≤n) (hi:(i,t)∈kTi) (hv:(kMv X mg mo nm cm fi Bk n1 d1 fl fc fm fd fn ff fr gr fa fb fe p1 z).lookup t=some v) (h8:i≠8) (h11:i≠11) (h13:i≠13):KIv X mg mo nm cm fi Bk n1 d1 fl fc fm fd fn ff fr gr fa fb fe p1 n a0 w6 ts z (Qan i S) (a.put (some t) v) w:=by
 refine hI.put hn hi hv (fun _ _ _ _=>rfl) hI.bel ?_ ?_ ?_ ?_
 ·rw[ZI (Ne.symm h8)];exact hI.held
 ·rw[ZI (Ne.symm h11)];exact hI.row
 ·rw[ZI (Ne.symm h8),ZI (Ne.symm h11)];exact hI.apart
 ·rw[ZI (Ne.symm h13)];exact hI.box
end
def Qlr (X mg mo nm cm fi Bk n1 d1 fl fc fm fd fn ff:Nat) (fr gr:Int) (fa fb fe p1:Option Addr) (w6 w':World) (ts:List (TT 6)) (B:Nat):Prop :=
 ∃ h vL O',Blk w' B #[.slice (some ⟨mg,mo,none⟩) nm cm,.int .i64 fr,.slice fa fl fc,.slice fb fm fd,.slice fe fn ff,.pointer (some ⟨h,0,none⟩),vL] 65∧Qk w' h O' (Qcu gr)∧(∃ xs,w'.ownsRow 0 79 3 vL ts.length xs∧(∀ g,vL.ownBlock=some g→O' g)∧∀ i x,ts[i]?=some x→(Lay.tt 6).In w' (fun g=>¬ O' g∧w6.heap.size≤g) x ((xs.drop (i*3)).take 3))∧O' B∧(∀ k,O' k→w6.heap.size≤k∧k<w'.heap.size)∧Below w6.heap.size w6 w'
theorem KIv.fin {X mg mo nm cm fi Bk n1 d1 fl fc fm fd fn ff:Nat}{fr gr:Int}{fa fb fe p1:Option Addr}{n:Nat}{a0 a:Act}{w6 w:World}{ts:List (TT 6)}{z:KZ}{S:Nat→Bool}(hI:KIv X mg mo nm cm fi Bk n1 d1 fl fc fm fd fn ff fr gr fa fb fe p1 n a0 w6 ts z S a w) (h8:S 8=true) (h11:S 11=true) (h13:S 13=true):Qlr X mg mo nm cm fi Bk n1 d1 fl fc fm fd fn ff fr gr fa fb fe p1 w6 w ts z.B:=by
 obtain⟨p1,p2,p3⟩:=hI.held h8
 obtain⟨q1,q2,xs,q3,q4,q5⟩:=hI.row h11
 have ha:=hI.apart h8 h11;obtain⟨r1,r2,r3,r4⟩:=hI.box h13
 have hBl:=lt_of_block r4;refine⟨z.h,_,fun k=>k=z.B∨(z.lo≤k∧k<z.hi)∨(Value.slice z.a n1 z.c).ownBlock=some k,r4,p3.mono (fun k hk=>.inr (.inl hk)),⟨xs,q3,fun g hg=>.inr (.inr hg),fun i x hx=>?_⟩,.inl rfl,fun k hk=>?_,hI.bel⟩
 ·refine(Lay.tt 6).keep (fun _ _ _=>rfl) (fun k hk hl=>⟨fun e=>?_,by omega⟩) (q5 i x hx)
  rcases e with e | e | e
  ·omega
  ·omega
  ·exact hk.2.2 e
 ·rcases hk with rfl | hk | hk
  ·exact⟨r1,hBl⟩
  ·omega
  ·have:=q4 k hk;omega
theorem ka2 {X mg mo nm cm fi Bk n1 d1 fl fc fm fd fn ff:Nat}{fr gr:Int}{fa fb fe p1:Option Addr}{w6:World}{Q:Nat→Prop}{ts:List (TT 6)}(x0:w6.cell? ⟨X,0,none⟩=some (.slice (some ⟨mg,mo,none⟩) nm cm)) (hfi:(fi:Int)<nm) (f0:w6.cell? ⟨mg,mo+fi*4,none⟩=some (.int .i64 fr)) (f1:w6.cell? ⟨mg,mo+fi*4+1,none⟩=some (.slice fa fl fc)) (f2:w6.cell? ⟨mg,mo+fi*4+2,none⟩=some (.slice fb fm fd)) (f3:w6.cell? ⟨mg,mo+fi*4+3,none⟩=some (.slice fe fn ff))
 (y0:w6.cell? ⟨Bk,0,none⟩=some (.int .i64 gr)) (y1:w6.cell? ⟨Bk,1,none⟩=some (.slice p1 n1 d1)) (HN:Hid (ts.length=n1)) (HT:Hid ((Qm 6).In w6 Q ts [.slice p1 n1 d1])) (HC:Hid (∀ t∈ts,t.count≤100000)) (hn1:n1≤100000)
 (a:Act) (hn:a.tmps.size=31) (hdf:a.defers=[]) (h3:a.tmps.getD 3 undef=.pointer (some ⟨X,0,none⟩)) (h1:a.tmps.getD 1 undef=.int .i64 (fi:Int)) (h7:a.tmps.getD 7 undef=.pointer (some ⟨Bk,0,none⟩)) :
 Code.wp Tryz.prog ((Tryz.f22.body.bind (Qj 2)).getD .skip) (fun e a' w'=>e=.normal∧∃ vs,a'=Q5 a vs [17,18,19,20,21,22,23,24,25,26,27,28,29,30,6]∧∃ B,vs 6=.pointer (some ⟨B,0,none⟩)∧Qlr X mg mo nm cm fi Bk n1 d1 fl fc fm fd fn ff fr gr fa fb fe p1 w6 w' ts B) a w6:=by
 conv=>arg 2;whnf
 refine QdR (fun S a1 w1=>∃ z,KIv X mg mo nm cm fi Bk n1 d1 fl fc fm fd fn ff fr gr fa fb fe p1 31 a w6 ts z S a1 w1) (by kernel_rfl) (by kernel_rfl) ?h0 ?hst ?hend
 case h0=>exact⟨⟨0,0,0,0,0,0,0,none⟩,⟨hn,hdf,fun _ _=>rfl,fun _ _ h=>(by cases h),Qf (Below.refl _ _) 1,fun h=>(by cases h),fun h=>(by cases h),fun h=>(by cases h),fun h=>(by cases h)⟩⟩
 case hend =>
  rintro S a' w' hS ⟨z,hI⟩;have hS':∀ j,j<15→S j=true:=hS;exact⟨rfl,_,QfB (by rw[hI.size,hn]) (by rw[hI.defers,hdf]) hI.outer,z.B,hI.vals (14,6) (by decide) (hS' 14 (by decide)) _ rfl,hI.fin (hS' 8 (by decide)) (hS' 11 (by decide)) (hS' 13 (by decide))⟩
 case hst =>
  refine⟨fun S a1 w1 hS hd hcl hI0 K hK=>?_,?_⟩
  ·obtain⟨z,hI⟩:=hI0
   have hb:=hI.bel;have k0:a1.tmps.getD 3 undef=.pointer (some ⟨X,0,none⟩):=(hI.outer 3 (by kernel_rfl)).trans h3;have c0:=Qi x0 hb;go_simp;exact hK _ _ ⟨z,hI.pure (by decide) (i:=0) (t:=17) (by decide) rfl (by decide) (by decide) (by decide)⟩
  refine⟨fun S a1 w1 hS hd hcl hI0 K hK=>?_,?_⟩
  ·obtain⟨z,hI⟩:=hI0
   have hb:=hI.bel;have k0:a1.tmps.getD 3 undef=.pointer (some ⟨X,0,none⟩):=(hI.outer 3 (by kernel_rfl)).trans h3;go_simp;exact hK _ _ ⟨z,hI.pure (by decide) (i:=1) (t:=18) (by decide) rfl (by decide) (by decide) (by decide)⟩
  refine⟨fun S a1 w1 hS hd hcl hI0 K hK=>?_,?_⟩
  ·obtain⟨z,hI⟩:=hI0
   have hb:=hI.bel;have k0:a1.tmps.getD 18 undef=.pointer (some ⟨X,0,none⟩):=hI.vals (1,18) (by decide) (hd.at 1 (by kernel_rfl)) _ rfl;have c0:=Qi x0 hb;go_simp;exact hK _ _ ⟨z,hI.pure (by decide) (i:=2) (t:=19) (by decide) rfl (by decide) (by decide) (by decide)⟩
  refine⟨fun S a1 w1 hS hd hcl hI0 K hK=>?_,?_⟩
  ·obtain⟨z,hI⟩:=hI0
   have hb:=hI.bel;have k0:a1.tmps.getD 1 undef=.int .i64 (fi:Int):=(hI.outer 1 (by kernel_rfl)).trans h1;go_simp;exact hK _ _ ⟨z,hI.pure (by decide) (i:=3) (t:=20) (by decide) rfl (by decide) (by decide) (by decide)⟩
  refine⟨fun S a1 w1 hS hd hcl hI0 K hK=>?_,?_⟩
  ·obtain⟨z,hI⟩:=hI0
   have hb:=hI.bel;have k0:a1.tmps.getD 19 undef=.slice (some ⟨mg,mo,none⟩) nm cm:=hI.vals (2,19) (by decide) (hd.at 2 (by kernel_rfl)) _ rfl;have k1:a1.tmps.getD 20 undef=.int .i64 (fi:Int):=hI.vals (3,20) (by decide) (hd.at 3 (by kernel_rfl)) _ rfl;go_simp;exact hK _ _ ⟨z,hI.pure (by decide) (i:=4) (t:=21) (by decide) rfl (by decide) (by decide) (by decide)⟩
  refine⟨fun S a1 w1 hS hd hcl hI0 K hK=>?_,?_⟩
  ·obtain⟨z,hI⟩:=hI0
   have hb:=hI.bel;have k0:a1.tmps.getD 21 undef=.pointer (some ⟨mg,mo+fi*4,none⟩):=hI.vals (4,21) (by decide) (hd.at 4 (by kernel_rfl)) _ rfl;have c0:=Qi f0 hb;have c1:=Qi f1 hb;have c2:=Qi f2 hb;have c3:=Qi f3 hb;go_simp;exact hK _ _ ⟨z,hI.pure (by decide) (i:=5) (t:=22) (by decide) rfl (by decide) (by decide) (by decide)⟩
  refine⟨fun S a1 w1 hS hd hcl hI0 K hK=>?_,?_⟩
  ·obtain⟨z,hI⟩:=hI0
   have hb:=hI.bel;have k0:a1.tmps.getD 7 undef=.pointer (some ⟨Bk,0,none⟩):=(hI.outer 7 (by kernel_rfl)).trans h7;go_simp;exact hK _ _ ⟨z,hI.pure (by decide) (i:=6) (t:=23) (by decide) rfl (by decide) (by decide) (by decide)⟩
  refine⟨fun S a1 w1 hS hd hcl hI0 K hK=>?_,?_⟩
  ·obtain⟨z,hI⟩:=hI0
   have hb:=hI.bel;have k0:a1.tmps.getD 23 undef=.pointer (some ⟨Bk,0,none⟩):=hI.vals (6,23) (by decide) (hd.at 6 (by kernel_rfl)) _ rfl;have c0:=Qi y0 hb;go_simp;exact hK _ _ ⟨z,hI.pure (by decide) (i:=7) (t:=24) (by decide) rfl (by decide) (by decide) (by decide)⟩
  refine⟨fun S a1 w1 hS hd hcl hI0 K hK=>?_,?_⟩
  ·obtain⟨z,hI⟩:=hI0
   have hb:=hI.bel;have k0:a1.tmps.getD 24 undef=.int .i64 gr:=hI.vals (7,24) (by decide) (hd.at 7 (by kernel_rfl)) _ rfl;have n12:S 12=false:=hcl.no (q:=12) rfl (by kernel_rfl) hS;have n13:S 13=false:=hcl.no (q:=13) rfl (by kernel_rfl) hS;have n14:S 14=false:=hcl.no (q:=14) rfl (by kernel_rfl) hS;go_simp;refine(Qeg w1 gr).mono ?_
   rintro e w9 ⟨rfl,r1,r2⟩;have hs1:=hb.size;have hs2:=r2.size;refine hK _ _ ⟨{ z with h:=w1.heap.size,lo:=w1.heap.size,hi:=w9.heap.size },hI.put (by decide) (i:=8) (t:=25) (by decide) rfl (fun x hx hne hs=>?_) (hb.trans (r2.mono hs1)) (fun _=>⟨hs1,Nat.le_refl _,r1⟩) (fun hs=>?_) (fun _ hs=>?_) (fun hs=>?_)⟩
   ·simp only[kTi,List.mem_cons,List.not_mem_nil,or_false] at hx
    rcases hx with rfl | rfl | rfl | rfl | rfl | rfl | rfl | rfl | rfl | rfl | rfl | rfl | rfl | rfl | rfl
    all_goals first | rfl | (exact absurd hs (by rw[n12];decide)) | (exact absurd rfl hne)
   ·rw[ZI (by decide)] at hs
    obtain⟨q1,q2,q3⟩:=hI.row hs
    exact⟨q1,Nat.le_trans q2 hs2,q3.below r2⟩
   ·rw[ZI (by decide)] at hs
    exact .inr (hI.row hs).2.1
   ·rw[ZI (by decide),n13] at hs;cases hs
  refine⟨fun S a1 w1 hS hd hcl hI0 K hK=>?_,?_⟩
  ·obtain⟨z,hI⟩:=hI0
   have hb:=hI.bel;have k0:a1.tmps.getD 7 undef=.pointer (some ⟨Bk,0,none⟩):=(hI.outer 7 (by kernel_rfl)).trans h7;go_simp;exact hK _ _ ⟨z,hI.pure (by decide) (i:=9) (t:=26) (by decide) rfl (by decide) (by decide) (by decide)⟩
  refine⟨fun S a1 w1 hS hd hcl hI0 K hK=>?_,?_⟩
  ·obtain⟨z,hI⟩:=hI0
   have hb:=hI.bel;have k0:a1.tmps.getD 26 undef=.pointer (some ⟨Bk,1,none⟩):=hI.vals (9,26) (by decide) (hd.at 9 (by kernel_rfl)) _ rfl;have c0:=Qi y1 hb;go_simp;exact hK _ _ ⟨z,hI.pure (by decide) (i:=10) (t:=27) (by decide) rfl (by decide) (by decide) (by decide)⟩
  refine⟨fun S a1 w1 hS hd hcl hI0 K hK=>?_,?_⟩
  ·obtain⟨z,hI⟩:=hI0
   have hb:=hI.bel;have k0:a1.tmps.getD 27 undef=.slice p1 n1 d1:=hI.vals (10,27) (by decide) (hd.at 10 (by kernel_rfl)) _ rfl;have n12:S 12=false:=hcl.no (q:=12) rfl (by kernel_rfl) hS;have n13:S 13=false:=hcl.no (q:=13) rfl (by kernel_rfl) hS;have n14:S 14=false:=hcl.no (q:=14) rfl (by kernel_rfl) hS
   have CL:Calls Tryz.prog 37 #[.slice p1 n1 d1] w1 fun e w'=>∃ a' c',e=.returned (.slice a' n1 c')∧TRi w' w1.heap.size w'.heap.size (.slice a' n1 c') ts∧Below w1.heap.size w1 w':=by
    obtain⟨tl,tok⟩:=QI (Lay.below HT.out hb)
    have:=Qf4 6 (own_any 6) ts p1 d1 w1 tl.all (by rw[HN.out];exact hn1) HC.out
    rw[HN.out] at this
    refine this.mono ?_;rintro e w9 ⟨a',c',rfl,⟨xs,hr⟩,hb9⟩;exact⟨a',c',rfl,TRi.of_row hr tok,hb9⟩
   go_simp;refine CL.mono ?_;rintro e w9 ⟨a',c',rfl,r1,r2⟩;have hs1:=hb.size;have hs2:=r2.size;refine hK _ _ ⟨{ z with a:=a',c:=c',lo2:=w1.heap.size,hi2:=w9.heap.size },hI.put (by decide) (i:=11) (t:=28) (by decide) rfl (fun x hx hne hs=>?_) (hb.trans (r2.mono hs1)) (fun hs=>?_) (fun _=>⟨hs1,Nat.le_refl _,r1⟩) (fun hs _=>?_) (fun hs=>?_)⟩
   ·simp only[kTi,List.mem_cons,List.not_mem_nil,or_false] at hx
    rcases hx with rfl | rfl | rfl | rfl | rfl | rfl | rfl | rfl | rfl | rfl | rfl | rfl | rfl | rfl | rfl
    all_goals first | rfl | (exact absurd hs (by rw[n12];decide)) | (exact absurd rfl hne)
   ·rw[ZI (by decide)] at hs
    obtain⟨q1,q2,q3⟩:=hI.held hs
    exact⟨q1,Nat.le_trans q2 hs2,q3.below r2⟩
   ·rw[ZI (by decide)] at hs
    exact .inl (hI.held hs).2.1
   ·rw[ZI (by decide),n13] at hs;cases hs
  refine⟨fun S a1 w1 hS hd hcl hI0 K hK=>?_,?_⟩
  ·obtain⟨z,hI⟩:=hI0
   have hb:=hI.bel;have k0:a1.tmps.getD 17 undef=.agg #[.slice (some ⟨mg,mo,none⟩) nm cm]:=hI.vals (0,17) (by decide) (hd.at 0 (by kernel_rfl)) _ rfl;have k1:a1.tmps.getD 22 undef=.agg #[.int .i64 fr,.slice fa fl fc,.slice fb fm fd,.slice fe fn ff]:=hI.vals (5,22) (by decide) (hd.at 5 (by kernel_rfl)) _ rfl;have k2:a1.tmps.getD 25 undef=.pointer (some ⟨z.h,0,none⟩):=hI.vals (8,25) (by decide) (hd.at 8 (by kernel_rfl)) _ rfl;have k3:a1.tmps.getD 28 undef=.slice z.a n1 z.c:=hI.vals (11,28) (by decide) (hd.at 11 (by kernel_rfl)) _ rfl;have m0:a1.tmps[17]?.getD undef=.agg #[.slice (some ⟨mg,mo,none⟩) nm cm]:=by rw[← Array.getD_eq_getD_getElem?];exact k0
   have m1:a1.tmps[22]?.getD undef=.agg #[.int .i64 fr,.slice fa fl fc,.slice fb fm fd,.slice fe fn ff]:=by rw[← Array.getD_eq_getD_getElem?];exact k1
   have m2:a1.tmps[25]?.getD undef=.pointer (some ⟨z.h,0,none⟩):=by rw[← Array.getD_eq_getD_getElem?];exact k2
   have m3:a1.tmps[28]?.getD undef=.slice z.a n1 z.c:=by rw[← Array.getD_eq_getD_getElem?];exact k3
   clear k0 k1 k2 k3;go_simp;exact hK _ _ ⟨z,hI.pure (by decide) (i:=12) (t:=29) (by decide) rfl (by decide) (by decide) (by decide)⟩
  refine⟨fun S a1 w1 hS hd hcl hI0 K hK=>?_,?_⟩
  ·obtain⟨z,hI⟩:=hI0
   have hb:=hI.bel;have k0:a1.tmps.getD 29 undef=.agg #[.slice (some ⟨mg,mo,none⟩) nm cm,.int .i64 fr,.slice fa fl fc,.slice fb fm fd,.slice fe fn ff,.pointer (some ⟨z.h,0,none⟩),.slice z.a n1 z.c]:=hI.vals (12,29) (by decide) (hd.at 12 (by kernel_rfl)) _ rfl;have n14:S 14=false:=hcl.no (q:=14) rfl (by kernel_rfl) hS;have s8:S 8=true:=(hcl.via (q:=12) rfl (by kernel_rfl) (hd.at 12 (by kernel_rfl)));have s11:S 11=true:=(hcl.via (q:=12) rfl (by kernel_rfl) (hd.at 12 (by kernel_rfl)));go_simp;have b9:=QO w1 (.cells #[.slice (some ⟨mg,mo,none⟩) nm cm,.int .i64 fr,.slice fa fl fc,.slice fb fm fd,.slice fe fn ff,.pointer (some ⟨z.h,0,none⟩),.slice z.a n1 z.c] 65);have hs1:=hb.size;have hs2:=b9.size;refine hK _ _ ⟨{ z with B:=w1.heap.size },hI.put (by decide) (i:=13) (t:=30) (by decide) rfl (fun x hx hne hs=>?_) (hb.trans (b9.mono hs1)) (fun hs=>?_) (fun hs=>?_) (fun _ _=>hI.apart s8 s11) (fun hs=>⟨hs1,(hI.held s8).2.1,(hI.row s11).2.1,Qe _ _ _⟩)⟩
   ·simp only[kTi,List.mem_cons,List.not_mem_nil,or_false] at hx
    rcases hx with rfl | rfl | rfl | rfl | rfl | rfl | rfl | rfl | rfl | rfl | rfl | rfl | rfl | rfl | rfl
    all_goals first | rfl | (exact absurd hs (by rw[n14];decide)) | (exact absurd rfl hne)
   ·obtain⟨q1,q2,q3⟩:=hI.held s8
    exact⟨q1,Nat.le_trans q2 hs2,q3.below b9⟩
   ·obtain⟨q1,q2,q3⟩:=hI.row s11
    exact⟨q1,Nat.le_trans q2 hs2,q3.below b9⟩
  refine⟨fun S a1 w1 hS hd hcl hI0 K hK=>?_,?_⟩
  ·obtain⟨z,hI⟩:=hI0
   have hb:=hI.bel;have k0:a1.tmps.getD 30 undef=.pointer (some ⟨z.B,0,none⟩):=hI.vals (13,30) (by decide) (hd.at 13 (by kernel_rfl)) _ rfl;go_simp;exact hK _ _ ⟨z,hI.pure (by decide) (i:=14) (t:=6) (by decide) rfl (by decide) (by decide) (by decide)⟩
  trivial
theorem QgA {w:World}{b:Nat}{O:Nat→Prop}{s:JSt}{x:Qz}{rg ag:Option Addr}{rc ac:Nat}(hO:∀ k,O k→k<w.heap.size) (hJ:JOk s) (h:KAt w b O s) (hop:x.op=3) :
 Calls Tryz.prog 73 #[.pointer (some ⟨b,0,none⟩),Qau x rg ag rc ac] w fun e w'=>QQ w O (s.makes x).1 (s.makes x).2 e w':=by
 have E:Hid (s.makes x=(if s.H.length=16 then (2,[]) else (0,[mkT 2 s.H.length []]))):=Qaz hop;have S0:=Qa (MkS.start x rg ag rc ac hO hJ h);obtain⟨xop,xa,xb,xc,xk,xn,xr,xs⟩:=x
 simp only at hop
 subst hop;clear h;go_enter Tryz.func73,Tryz.ntmps73
 go_upto_region 9 with fail
 obtain⟨w2,hw2⟩:∃ w2,(w.alloc (.cells #[.int .i64 3,.int .i64 xa,.int .i64 xb,.int .i64 xc,.int .i64 xk,.int .i64 xn,.slice rg xr.length rc,.slice ag xs.length ac] 59)).alloc (.cells #[.int .i64 1,.int .i64 0,.slice none 0 0] 79)=w2:=⟨_,rfl⟩
 obtain⟨X,hX⟩:∃ X,w.heap.size=X:=⟨_,rfl⟩
 have S2:Hid (MkS w w2 b X O s ⟨3,xa,xb,xc,xk,xn,xr,xs⟩ rg ag rc ac (some ⟨X+1,0,none⟩)):=by rw[← hw2,← hX];exact S0.out
 rw[hw2,hX]
 clear hw2 hX S0;obtain⟨x0,x1,x2,x3,x4,x6,x7⟩:=S2.out.cells
 obtain⟨pm,cm,a1,c1,a2,c2,a3,c3,hh,aL,cL,R⟩:=S2.out.known.read
 obtain⟨q0,q1,q2,q3,q4,q5,q6⟩:=R.cells
 have hH16:=S2.out.ok.regs;have hL80:=S2.out.ok.vals;obtain⟨ha,hcap,g0,-,-,-⟩:=R.holds.cells
 clear R q0 q1 q2 q3 q4 q6;by_cases h16:s.H.length=16
 ·have h16':((s.H.length:Int)==16)=true:=beq_iff_eq.2 (by omega);rw[if_pos h16] at E
  clear h16;generalize s.H.length=nh at g0 h16' hH16;go_wp2
  go_ret2;rw[E.out]
  exact QQ.nil S2.out.bel
 ·have h16':((s.H.length:Int)==16)=false:=beq_eq_false_iff_ne.2 (by omega);rw[if_neg h16] at E
  have Z:Hid (QQ w O 0 [(mkT 2 s.H.length []:TT 6)] (.returned (.tuple #[.slice (some ⟨w2.heap.size,0,none⟩) 1 1,.int .i64 0])) (w2.alloc (.cells #[.int .i64 2,.int .i64 (s.H.length:Int),.slice none 0 0] 79))) :=
   ⟨_,1,1,rfl,fun _=>⟨rfl,Nat.le_refl _,Qc4 w2 O S2.out.lt (t:=(mkT 2 s.H.length []:TT 6)) (a:=none) (c:=0) (d:=1) (Qff _ _ _ _ _) (Qhs (by omega))⟩,S2.out.bel.alloc S2.out.bel.size _⟩
  clear h16;generalize s.H.length=nh at g0 h16' hH16 Z E;go_wp2
  go_ret2;rw[E.out]
  exact Z.out
theorem Qfe {w:World}{b:Nat}{O:Nat→Prop}{s:JSt}{x:Qz}{rg ag:Option Addr}{rc ac:Nat}(hO:∀ k,O k→k<w.heap.size) (hJ:JOk s) (h:KAt w b O s) (hop:x.op=4) :
 Calls Tryz.prog 73 #[.pointer (some ⟨b,0,none⟩),Qau x rg ag rc ac] w fun e w'=>QQ w O (s.makes x).1 (s.makes x).2 e w':=by
 have E:Hid (s.makes x=(match s.at x.a with | none=>(1,[]) | some t=>(code2 (s.want x.a 2 true) (if t.r<s.f.regs then 11 else 0),[]))):=ZQ hop;have S0:=Qa (MkS.start x rg ag rc ac hO hJ h);obtain⟨xop,xa,xb,xc,xk,xn,xr,xs⟩:=x
 simp only at hop
 subst hop;clear h;go_enter Tryz.func73,Tryz.ntmps73
 go_upto_region 13 with fail
 obtain⟨w2,hw2⟩:∃ w2,(w.alloc (.cells #[.int .i64 4,.int .i64 xa,.int .i64 xb,.int .i64 xc,.int .i64 xk,.int .i64 xn,.slice rg xr.length rc,.slice ag xs.length ac] 59)).alloc (.cells #[.int .i64 1,.int .i64 0,.slice none 0 0] 79)=w2:=⟨_,rfl⟩
 obtain⟨X,hX⟩:∃ X,w.heap.size=X:=⟨_,rfl⟩
 have S2:Hid (MkS w w2 b X O s ⟨4,xa,xb,xc,xk,xn,xr,xs⟩ rg ag rc ac (some ⟨X+1,0,none⟩)):=by rw[← hw2,← hX];exact S0.out
 rw[hw2,hX]
 clear hw2 hX S0;obtain⟨x0,x1,x2,x3,x4,x6,x7⟩:=S2.out.cells
 have hH16:=S2.out.ok.regs;have hL80:=S2.out.ok.vals;go_wp2_with fail
 refine(Q6 xa 2 true S2.out.ok.regs S2.out.ok.vals S2.out.known).mono ?_
 rintro e w3 ⟨rfl,n3,hw3⟩;have S3:Hid (MkS w w3 b X O s ⟨4,xa,xb,xc,xk,xn,xr,xs⟩ rg ag rc ac (some ⟨X+1,0,none⟩)):=S2.out.below (by rw[hw3];exact Qf (Below.refl _ _) n3);clear hw3 S2 x0 x1 x2 x3 x4 x6 x7;have S2:=S3;obtain⟨x0,x1,x2,x3,x4,x6,x7⟩:=S2.out.cells
 obtain⟨pm,cm,a1,c1,a2,c2,a3,c3,hh,aL,cL,R⟩:=S2.out.known.read
 obtain⟨q0,q1,q2,q3,q4,q5,q6⟩:=R.cells
 have HR:Hid (TRd w3 (fun g=>¬ O g) aL s.L):=R.row;clear R q0 q2 q3 q4 q5
 cases hat:s.at xa with
 | none =>
  have hw:s.want xa 2 true=1:=by unfold JSt.want;rw[hat]
  have E2:Hid (s.makes ⟨4,xa,xb,xc,xk,xn,xr,xs⟩=(1,[])):=by
   show _=_;rw[E.out];simp only[hat]
  rw[hw]
  clear E hw hat;generalize s.L.length=nl at q6 hL80;go_wp2_with fail
  go_quiet (fail)
  go_wp2
  go_ret2;rw[E2.out]
  exact QQ.nil (Qf S2.out.bel _)
 | some t =>
  obtain⟨-,ha0,hal,hti⟩:=Qax hat
  obtain⟨i,rfl⟩:=Int.eq_ofNat_of_zero_le ha0
  obtain⟨gL,va,vc,rfl,v0,v1,v2,-,-⟩:=HR.out i t (by simpa using hti)
  have E2:Hid (s.makes ⟨4,(i:Int),xb,xc,xk,xn,xr,xs⟩=(code2 (s.want (i:Int) 2 true) (if t.r<s.f.regs then 11 else 0),[])):=by
   show _=_;rw[E.out];simp only[hat]
  clear E hat hti;generalize s.want (i:Int) 2 true=c at E2;generalize s.L.length=nl at q6 hL80 hal;generalize hfr:s.f.regs=fr at q1 E2;generalize t.r=tr at v1 E2;by_cases hc:c=0
  ·subst hc;by_cases hlt:tr<fr
   ·have hlt':decide (tr<fr)=true:=decide_eq_true hlt;have E3:Hid (s.makes ⟨4,(i:Int),xb,xc,xk,xn,xr,xs⟩=(11,[])):=by show _=_;rw[E2.out,if_pos hlt];rfl
    clear E2 hlt;go_wp2_with fail
    go_quiet (fail)
    go_wp2
    go_ret2;rw[E3.out]
    exact QQ.nil (Qf S2.out.bel _)
   ·have hlt':decide (tr<fr)=false:=decide_eq_false hlt;have E3:Hid (s.makes ⟨4,(i:Int),xb,xc,xk,xn,xr,xs⟩=(0,[])):=by show _=_;rw[E2.out,if_neg hlt];rfl
    clear E2 hlt;go_wp2_with fail
    go_quiet (fail)
    go_wp2
    go_ret2;rw[E3.out]
    exact QQ.nil (Qf S2.out.bel _)
  ·have hc':(c==0)=false:=beq_eq_false_iff_ne.2 hc;have E3:Hid (s.makes ⟨4,(i:Int),xb,xc,xk,xn,xr,xs⟩=(c,[])):=by show _=_;rw[E2.out,code2,if_neg hc]
   clear E2 hc;go_wp2_with fail
   go_quiet (fail)
   go_wp2
   go_ret2;rw[E3.out]
   exact QQ.nil (Qf S2.out.bel _)
theorem QgR {w:World}{b:Nat}{O:Nat→Prop}{s:JSt}{x:Qz}{rg ag:Option Addr}{rc ac:Nat}(hO:∀ k,O k→k<w.heap.size) (hJ:JOk s) (h:KAt w b O s) (hop:x.op=11) :
 Calls Tryz.prog 73 #[.pointer (some ⟨b,0,none⟩),Qau x rg ag rc ac] w fun e w'=>QQ w O (s.makes x).1 (s.makes x).2 e w':=by
 have E:Hid (s.makes x=(s.want x.a 4 true,[tInt])):=Qa0 hop;have S0:=Qa (MkS.start x rg ag rc ac hO hJ h);obtain⟨xop,xa,xb,xc,xk,xn,xr,xs⟩:=x
 simp only at hop
 subst hop;clear h;go_enter Tryz.func73,Tryz.ntmps73
 go_upto_region 56 with fail
 obtain⟨w2,hw2⟩:∃ w2,(w.alloc (.cells #[.int .i64 11,.int .i64 xa,.int .i64 xb,.int .i64 xc,.int .i64 xk,.int .i64 xn,.slice rg xr.length rc,.slice ag xs.length ac] 59)).alloc (.cells #[.int .i64 1,.int .i64 0,.slice none 0 0] 79)=w2:=⟨_,rfl⟩
 obtain⟨X,hX⟩:∃ X,w.heap.size=X:=⟨_,rfl⟩
 have S2:Hid (MkS w w2 b X O s ⟨11,xa,xb,xc,xk,xn,xr,xs⟩ rg ag rc ac (some ⟨X+1,0,none⟩)):=by rw[← hw2,← hX];exact S0.out
 rw[hw2,hX]
 clear hw2 hX S0;obtain⟨x0,x1,x2,x3,x4,x6,x7⟩:=S2.out.cells
 go_wp2_with fail
 refine(Q6 xa 4 true S2.out.ok.regs S2.out.ok.vals S2.out.known).mono ?_
 rintro e w3 ⟨rfl,n3,hw3⟩;have b3:Below w2.heap.size w2 w3:=by rw[hw3];exact Qf (Below.refl _ _) n3
 clear hw3;generalize s.want xa 4 true=c at E;go_wp2
 go_ret2;rw[E.out]
 exact QQ.num S2.out b3
theorem QgE {w:World}{b:Nat}{O:Nat→Prop}{s:JSt}{x:Qz}{rg ag:Option Addr}{rc ac:Nat}(hO:∀ k,O k→k<w.heap.size) (hJ:JOk s) (h:KAt w b O s) (hop:x.op=13) :
 Calls Tryz.prog 73 #[.pointer (some ⟨b,0,none⟩),Qau x rg ag rc ac] w fun e w'=>QQ w O (s.makes x).1 (s.makes x).2 e w':=by
 have E:Hid (s.makes x=(s.want x.a 1 false,[])):=QbI hop;have S0:=Qa (MkS.start x rg ag rc ac hO hJ h);obtain⟨xop,xa,xb,xc,xk,xn,xr,xs⟩:=x
 simp only at hop
 subst hop;clear h;go_enter Tryz.func73,Tryz.ntmps73
 go_upto_region 58 with fail
 obtain⟨w2,hw2⟩:∃ w2,(w.alloc (.cells #[.int .i64 13,.int .i64 xa,.int .i64 xb,.int .i64 xc,.int .i64 xk,.int .i64 xn,.slice rg xr.length rc,.slice ag xs.length ac] 59)).alloc (.cells #[.int .i64 1,.int .i64 0,.slice none 0 0] 79)=w2:=⟨_,rfl⟩
 obtain⟨X,hX⟩:∃ X,w.heap.size=X:=⟨_,rfl⟩
 have S2:Hid (MkS w w2 b X O s ⟨13,xa,xb,xc,xk,xn,xr,xs⟩ rg ag rc ac (some ⟨X+1,0,none⟩)):=by rw[← hw2,← hX];exact S0.out
 rw[hw2,hX]
 clear hw2 hX S0;obtain⟨x0,x1,x2,x3,x4,x6,x7⟩:=S2.out.cells
 go_wp2_with fail
 refine(Q6 xa 1 false S2.out.ok.regs S2.out.ok.vals S2.out.known).mono ?_
 rintro e w3 ⟨rfl,n3,hw3⟩;have b3:Below w2.heap.size w2 w3:=by rw[hw3];exact Qf (Below.refl _ _) n3
 clear hw3;generalize s.want xa 1 false=c at E;go_wp2
 go_ret2;rw[E.out]
 exact QQ.nil (S2.out.below b3).bel
def Qlv (b X:Nat) (x:Qz) (na:Option Addr) (c1:Int) (c2:Int) (t:Tmp) (v:Value) (w:World):Prop :=
 match ([(40,fun v w=>IV w [c1,c2] v)]:List (Tmp × (Value→World→Prop))).lookup t with
 | some p=>p v w
 | none=>v=(([(0,.pointer (some ⟨b,0,none⟩)),(3,.pointer (some ⟨X,0,none⟩)),(6,.slice na 1 1),(31,.slice na 1 1),(32,.pointer (some ⟨b,0,none⟩)),(33,.pointer (some ⟨X,1,none⟩)),(34,.int .i64 x.a),(35,.int .i64 c1),(36,.pointer (some ⟨b,0,none⟩)),(37,.pointer (some ⟨X,2,none⟩)),(38,.int .i64 x.b),(39,.int .i64 c2),(41,.int .i64 (firstI [c1,c2])),(4,.slice na 1 1),(5,.int .i64 (firstI [c1,c2]))]:List (Tmp × Value)).lookup t).getD undef
theorem kr7 {w w2:World}{b X:Nat}{O:Nat→Prop}{s:JSt}{x:Qz}{rg ag:Option Addr}{rc ac:Nat}{na:Option Addr}(HS:Hid (MkS w w2 b X O s x rg ag rc ac na)){c1:Int}{c2:Int}(Hc1:Hid (s.want x.a 1 false=c1)) (Hc2:Hid (s.want x.b 1 false=c2)) (HI:Hid (∀ x∈[c1,c2],-9223372036854775808≤x∧x≤9223372036854775807))
 (a:Act) (m:Nat) (hn:a.tmps.size=m) (hn':365≤m) (h0:a.tmps.getD 0 undef=.pointer (some ⟨b,0,none⟩)) (h3:a.tmps.getD 3 undef=.pointer (some ⟨X,0,none⟩)) (h6:a.tmps.getD 6 undef=.slice na 1 1) :
 Code.wp Tryz.prog ((Tryz.f73.body.bind (Qj 7)).getD .skip) (fun e a' w'=>e=.normal∧∃ vs,a'=Q5 a vs [31,32,33,34,35,36,37,38,39,40,41,4,5]∧vs 4=.slice na 1 1∧vs 5=.int .i64 (firstI [c1,c2])∧Below w2.heap.size w2 w') a w2:=by
 conv=>arg 2;whnf
 refine Qx (Qlv b X x na c1 c2) (fun w=>Below w2.heap.size w2 w) (fun w w'=>Below w.heap.size w w') (outs:=[0,3,6]) (gs:=[]) (bs:=[true,true,true,true,true,true,true,true,true,true,true,true,true]) (by kernel_rfl) (n:=365) hn hn' (by kernel_rfl) ?hR ?hG (Qf (Below.refl _ _) 1) ⟨h0,h3,h6,trivial⟩ ?hA ?hend
 case hR =>
  intro t v w w' hr h;unfold Qlv at h ⊢;split at h
  ·rename_i p hp
   simp only[List.lookup_cons,List.lookup_nil] at hp
   split at hp
   ·cases hp;exact IV.below h hr
   ·cases hp
  ·exact h
 case hG=>exact trivial
 case hend=>exact fun vs w' hW hk=>⟨rfl,vs,rfl,hk 4 (by kernel_rfl),hk 5 (by kernel_rfl),hW⟩
 case hA =>
  refine⟨fun a w hW hk K hK=>?_,?_⟩
  ·obtain⟨k0,-⟩:=hk
   have k0:a.tmps.getD 6 undef=.slice na 1 1:=k0;go_simp;exact hK _ _ (Below.refl _ _) hW rfl
  refine⟨fun a w hW hk K hK=>?_,?_⟩
  ·obtain⟨k0,-⟩:=hk
   have k0:a.tmps.getD 0 undef=.pointer (some ⟨b,0,none⟩):=k0;go_simp;exact hK _ _ (Below.refl _ _) hW rfl
  refine⟨fun a w hW hk K hK=>?_,?_⟩
  ·obtain⟨k0,-⟩:=hk
   have k0:a.tmps.getD 3 undef=.pointer (some ⟨X,0,none⟩):=k0;go_simp;exact hK _ _ (Below.refl _ _) hW rfl
  refine⟨fun a w hW hk K hK=>?_,?_⟩
  ·obtain⟨k0,-⟩:=hk
   have k0:a.tmps.getD 33 undef=.pointer (some ⟨X,1,none⟩):=k0;have c0:=(HS.out.below hW).cells.2.1;go_simp;exact hK _ _ (Below.refl _ _) hW rfl
  refine⟨fun a w hW hk K hK=>?_,?_⟩
  ·obtain⟨k0,k1,-⟩:=hk
   have k0:a.tmps.getD 32 undef=.pointer (some ⟨b,0,none⟩):=k0;have k1:a.tmps.getD 34 undef=.int .i64 x.a:=k1;go_simp;refine(Q6 x.a 1 false HS.out.ok.regs HS.out.ok.vals (HS.out.below hW).known).mono ?_;rw[Hc1.out];rintro r7 w7 ⟨rfl,n7,hw7⟩;subst hw7
   go_simp;exact hK _ _ (Qf (Below.refl _ _) n7) (Qf hW n7) rfl
  refine⟨fun a w hW hk K hK=>?_,?_⟩
  ·obtain⟨k0,-⟩:=hk
   have k0:a.tmps.getD 0 undef=.pointer (some ⟨b,0,none⟩):=k0;go_simp;exact hK _ _ (Below.refl _ _) hW rfl
  refine⟨fun a w hW hk K hK=>?_,?_⟩
  ·obtain⟨k0,-⟩:=hk
   have k0:a.tmps.getD 3 undef=.pointer (some ⟨X,0,none⟩):=k0;go_simp;exact hK _ _ (Below.refl _ _) hW rfl
  refine⟨fun a w hW hk K hK=>?_,?_⟩
  ·obtain⟨k0,-⟩:=hk
   have k0:a.tmps.getD 37 undef=.pointer (some ⟨X,2,none⟩):=k0;have c0:=(HS.out.below hW).cells.2.2.1;go_simp;exact hK _ _ (Below.refl _ _) hW rfl
  refine⟨fun a w hW hk K hK=>?_,?_⟩
  ·obtain⟨k0,k1,-⟩:=hk
   have k0:a.tmps.getD 36 undef=.pointer (some ⟨b,0,none⟩):=k0;have k1:a.tmps.getD 38 undef=.int .i64 x.b:=k1;go_simp;refine(Q6 x.b 1 false HS.out.ok.regs HS.out.ok.vals (HS.out.below hW).known).mono ?_;rw[Hc2.out];rintro r7 w7 ⟨rfl,n7,hw7⟩;subst hw7
   go_simp;exact hK _ _ (Qf (Below.refl _ _) n7) (Qf hW n7) rfl
  refine⟨fun a w hW hk K hK=>?_,?_⟩
  ·obtain⟨k0,k1,-⟩:=hk
   have k0:a.tmps.getD 35 undef=.int .i64 c1:=k0;have k1:a.tmps.getD 39 undef=.int .i64 c2:=k1;simp only[Array.getD_eq_getD_getElem?] at k0 k1
   go_simp;exact hK _ _ (QO _ _) (hW.alloc hW.size _) (QfU w 3 [c1,c2] HI.out 2)
  refine⟨fun a w hW hk K hK=>?_,?_⟩
  ·obtain⟨k0,-⟩:=hk
   have k0:(fun v w=>IV w [c1,c2] v) (a.tmps.getD 40 undef) w:=k0;generalize k0e:a.tmps.getD 40 undef=uk0 at k0;go_simp;refine(Qcy (by simp) k0).mono ?_;rintro r7 w7 ⟨rfl,hw7⟩;have hw7:=hw7.symm;subst hw7
   go_simp;exact hK _ _ (Below.refl _ _) hW rfl
  refine⟨fun a w hW hk K hK=>?_,?_⟩
  ·obtain⟨k0,-⟩:=hk
   have k0:a.tmps.getD 31 undef=.slice na 1 1:=k0;go_simp;exact hK _ _ (Below.refl _ _) hW rfl
  refine⟨fun a w hW hk K hK=>?_,?_⟩
  ·obtain⟨k0,-⟩:=hk
   have k0:a.tmps.getD 41 undef=.int .i64 (firstI [c1,c2]):=k0;go_simp;exact hK _ _ (Below.refl _ _) hW rfl
  trivial
def Qkq (b X:Nat) (x:Qz) (na:Option Addr) (c1:Int) (c2:Int) (t:Tmp) (v:Value) (w:World):Prop :=
 match ([(230,fun v w=>IV w [c1,c2] v)]:List (Tmp × (Value→World→Prop))).lookup t with
 | some p=>p v w
 | none=>v=(([(0,.pointer (some ⟨b,0,none⟩)),(3,.pointer (some ⟨X,0,none⟩)),(222,.pointer (some ⟨b,0,none⟩)),(223,.pointer (some ⟨X,1,none⟩)),(224,.int .i64 x.a),(225,.int .i64 c1),(226,.pointer (some ⟨b,0,none⟩)),(227,.pointer (some ⟨X,2,none⟩)),(228,.int .i64 x.b),(229,.int .i64 c2),(231,.int .i64 (firstI [c1,c2])),(13,.int .i64 (firstI [c1,c2]))]:List (Tmp × Value)).lookup t).getD undef
theorem QlT {w w2:World}{b X:Nat}{O:Nat→Prop}{s:JSt}{x:Qz}{rg ag:Option Addr}{rc ac:Nat}{na:Option Addr}(HS:Hid (MkS w w2 b X O s x rg ag rc ac na)){c1:Int}{c2:Int}(Hc1:Hid (s.want x.a 2 true=c1)) (Hc2:Hid (s.want x.b 1 false=c2)) (HI:Hid (∀ x∈[c1,c2],-9223372036854775808≤x∧x≤9223372036854775807))
 (a:Act) (m:Nat) (hn:a.tmps.size=m) (hn':365≤m) (h0:a.tmps.getD 0 undef=.pointer (some ⟨b,0,none⟩)) (h3:a.tmps.getD 3 undef=.pointer (some ⟨X,0,none⟩)) :
 Code.wp Tryz.prog ((Tryz.f73.body.bind (Qj 47)).getD .skip) (fun e a' w'=>e=.normal∧∃ vs,a'=Q5 a vs [222,223,224,225,226,227,228,229,230,231,13]∧vs 13=.int .i64 (firstI [c1,c2])∧Below w2.heap.size w2 w') a w2:=by
 conv=>arg 2;whnf
 refine Qx (Qkq b X x na c1 c2) (fun w=>Below w2.heap.size w2 w) (fun w w'=>Below w.heap.size w w') (outs:=[0,3]) (gs:=[]) (bs:=[true,true,true,true,true,true,true,true,true,true,true]) (by kernel_rfl) (n:=365) hn hn' (by kernel_rfl) ?hR ?hG (Qf (Below.refl _ _) 1) ⟨h0,h3,trivial⟩ ?hA ?hend
 case hR =>
  intro t v w w' hr h;unfold Qkq at h ⊢;split at h
  ·rename_i p hp
   simp only[List.lookup_cons,List.lookup_nil] at hp
   split at hp
   ·cases hp;exact IV.below h hr
   ·cases hp
  ·exact h
 case hG=>exact trivial
 case hend=>exact fun vs w' hW hk=>⟨rfl,vs,rfl,hk 13 (by kernel_rfl),hW⟩
 case hA =>
  refine⟨fun a w hW hk K hK=>?_,?_⟩
  ·obtain⟨k0,-⟩:=hk
   have k0:a.tmps.getD 0 undef=.pointer (some ⟨b,0,none⟩):=k0;go_simp;exact hK _ _ (Below.refl _ _) hW rfl
  refine⟨fun a w hW hk K hK=>?_,?_⟩
  ·obtain⟨k0,-⟩:=hk
   have k0:a.tmps.getD 3 undef=.pointer (some ⟨X,0,none⟩):=k0;go_simp;exact hK _ _ (Below.refl _ _) hW rfl
  refine⟨fun a w hW hk K hK=>?_,?_⟩
  ·obtain⟨k0,-⟩:=hk
   have k0:a.tmps.getD 223 undef=.pointer (some ⟨X,1,none⟩):=k0;have c0:=(HS.out.below hW).cells.2.1;go_simp;exact hK _ _ (Below.refl _ _) hW rfl
  refine⟨fun a w hW hk K hK=>?_,?_⟩
  ·obtain⟨k0,k1,-⟩:=hk
   have k0:a.tmps.getD 222 undef=.pointer (some ⟨b,0,none⟩):=k0;have k1:a.tmps.getD 224 undef=.int .i64 x.a:=k1;go_simp;refine(Q6 x.a 2 true HS.out.ok.regs HS.out.ok.vals (HS.out.below hW).known).mono ?_;rw[Hc1.out];rintro r7 w7 ⟨rfl,n7,hw7⟩;subst hw7
   go_simp;exact hK _ _ (Qf (Below.refl _ _) n7) (Qf hW n7) rfl
  refine⟨fun a w hW hk K hK=>?_,?_⟩
  ·obtain⟨k0,-⟩:=hk
   have k0:a.tmps.getD 0 undef=.pointer (some ⟨b,0,none⟩):=k0;go_simp;exact hK _ _ (Below.refl _ _) hW rfl
  refine⟨fun a w hW hk K hK=>?_,?_⟩
  ·obtain⟨k0,-⟩:=hk
   have k0:a.tmps.getD 3 undef=.pointer (some ⟨X,0,none⟩):=k0;go_simp;exact hK _ _ (Below.refl _ _) hW rfl
  refine⟨fun a w hW hk K hK=>?_,?_⟩
  ·obtain⟨k0,-⟩:=hk
   have k0:a.tmps.getD 227 undef=.pointer (some ⟨X,2,none⟩):=k0;have c0:=(HS.out.below hW).cells.2.2.1;go_simp;exact hK _ _ (Below.refl _ _) hW rfl
  refine⟨fun a w hW hk K hK=>?_,?_⟩
  ·obtain⟨k0,k1,-⟩:=hk
   have k0:a.tmps.getD 226 undef=.pointer (some ⟨b,0,none⟩):=k0;have k1:a.tmps.getD 228 undef=.int .i64 x.b:=k1;go_simp;refine(Q6 x.b 1 false HS.out.ok.regs HS.out.ok.vals (HS.out.below hW).known).mono ?_;rw[Hc2.out];rintro r7 w7 ⟨rfl,n7,hw7⟩;subst hw7
   go_simp;exact hK _ _ (Qf (Below.refl _ _) n7) (Qf hW n7) rfl
  refine⟨fun a w hW hk K hK=>?_,?_⟩
  ·obtain⟨k0,k1,-⟩:=hk
   have k0:a.tmps.getD 225 undef=.int .i64 c1:=k0;have k1:a.tmps.getD 229 undef=.int .i64 c2:=k1;simp only[Array.getD_eq_getD_getElem?] at k0 k1
   go_simp;exact hK _ _ (QO _ _) (hW.alloc hW.size _) (QfU w 3 [c1,c2] HI.out 2)
  refine⟨fun a w hW hk K hK=>?_,?_⟩
  ·obtain⟨k0,-⟩:=hk
   have k0:(fun v w=>IV w [c1,c2] v) (a.tmps.getD 230 undef) w:=k0;generalize k0e:a.tmps.getD 230 undef=uk0 at k0;go_simp;refine(Qcy (by simp) k0).mono ?_;rintro r7 w7 ⟨rfl,hw7⟩;have hw7:=hw7.symm;subst hw7
   go_simp;exact hK _ _ (Below.refl _ _) hW rfl
  refine⟨fun a w hW hk K hK=>?_,?_⟩
  ·obtain⟨k0,-⟩:=hk
   have k0:a.tmps.getD 231 undef=.int .i64 (firstI [c1,c2]):=k0;go_simp;exact hK _ _ (Below.refl _ _) hW rfl
  trivial
def Qkr (b X:Nat) (x:Qz) (na:Option Addr) (c1:Int) (c2:Int) (t:Tmp) (v:Value) (w:World):Prop :=
 match ([(257,fun v w=>IV w [c1,c2] v)]:List (Tmp × (Value→World→Prop))).lookup t with
 | some p=>p v w
 | none=>v=(([(0,.pointer (some ⟨b,0,none⟩)),(3,.pointer (some ⟨X,0,none⟩)),(6,.slice na 1 1),(248,.slice na 1 1),(249,.pointer (some ⟨b,0,none⟩)),(250,.pointer (some ⟨X,1,none⟩)),(251,.int .i64 x.a),(252,.int .i64 c1),(253,.pointer (some ⟨b,0,none⟩)),(254,.pointer (some ⟨X,2,none⟩)),(255,.int .i64 x.b),(256,.int .i64 c2),(258,.int .i64 (firstI [c1,c2])),(4,.slice na 1 1),(5,.int .i64 (firstI [c1,c2]))]:List (Tmp × Value)).lookup t).getD undef
theorem QlB {w w2:World}{b X:Nat}{O:Nat→Prop}{s:JSt}{x:Qz}{rg ag:Option Addr}{rc ac:Nat}{na:Option Addr}(HS:Hid (MkS w w2 b X O s x rg ag rc ac na)){c1:Int}{c2:Int}(Hc1:Hid (s.want x.a 4 true=c1)) (Hc2:Hid (s.want x.b 1 false=c2)) (HI:Hid (∀ x∈[c1,c2],-9223372036854775808≤x∧x≤9223372036854775807))
 (a:Act) (m:Nat) (hn:a.tmps.size=m) (hn':365≤m) (h0:a.tmps.getD 0 undef=.pointer (some ⟨b,0,none⟩)) (h3:a.tmps.getD 3 undef=.pointer (some ⟨X,0,none⟩)) (h6:a.tmps.getD 6 undef=.slice na 1 1) :
 Code.wp Tryz.prog ((Tryz.f73.body.bind (Qj 52)).getD .skip) (fun e a' w'=>e=.normal∧∃ vs,a'=Q5 a vs [248,249,250,251,252,253,254,255,256,257,258,4,5]∧vs 4=.slice na 1 1∧vs 5=.int .i64 (firstI [c1,c2])∧Below w2.heap.size w2 w') a w2:=by
 conv=>arg 2;whnf
 refine Qx (Qkr b X x na c1 c2) (fun w=>Below w2.heap.size w2 w) (fun w w'=>Below w.heap.size w w') (outs:=[0,3,6]) (gs:=[]) (bs:=[true,true,true,true,true,true,true,true,true,true,true,true,true]) (by kernel_rfl) (n:=365) hn hn' (by kernel_rfl) ?hR ?hG (Qf (Below.refl _ _) 1) ⟨h0,h3,h6,trivial⟩ ?hA ?hend
 case hR =>
  intro t v w w' hr h;unfold Qkr at h ⊢;split at h
  ·rename_i p hp
   simp only[List.lookup_cons,List.lookup_nil] at hp
   split at hp
   ·cases hp;exact IV.below h hr
   ·cases hp
  ·exact h
 case hG=>exact trivial
 case hend=>exact fun vs w' hW hk=>⟨rfl,vs,rfl,hk 4 (by kernel_rfl),hk 5 (by kernel_rfl),hW⟩
 case hA =>
  refine⟨fun a w hW hk K hK=>?_,?_⟩
  ·obtain⟨k0,-⟩:=hk
   have k0:a.tmps.getD 6 undef=.slice na 1 1:=k0;go_simp;exact hK _ _ (Below.refl _ _) hW rfl
  refine⟨fun a w hW hk K hK=>?_,?_⟩
  ·obtain⟨k0,-⟩:=hk
   have k0:a.tmps.getD 0 undef=.pointer (some ⟨b,0,none⟩):=k0;go_simp;exact hK _ _ (Below.refl _ _) hW rfl
  refine⟨fun a w hW hk K hK=>?_,?_⟩
  ·obtain⟨k0,-⟩:=hk
   have k0:a.tmps.getD 3 undef=.pointer (some ⟨X,0,none⟩):=k0;go_simp;exact hK _ _ (Below.refl _ _) hW rfl
  refine⟨fun a w hW hk K hK=>?_,?_⟩
  ·obtain⟨k0,-⟩:=hk
   have k0:a.tmps.getD 250 undef=.pointer (some ⟨X,1,none⟩):=k0;have c0:=(HS.out.below hW).cells.2.1;go_simp;exact hK _ _ (Below.refl _ _) hW rfl
  refine⟨fun a w hW hk K hK=>?_,?_⟩
  ·obtain⟨k0,k1,-⟩:=hk
   have k0:a.tmps.getD 249 undef=.pointer (some ⟨b,0,none⟩):=k0;have k1:a.tmps.getD 251 undef=.int .i64 x.a:=k1;go_simp;refine(Q6 x.a 4 true HS.out.ok.regs HS.out.ok.vals (HS.out.below hW).known).mono ?_;rw[Hc1.out];rintro r7 w7 ⟨rfl,n7,hw7⟩;subst hw7
   go_simp;exact hK _ _ (Qf (Below.refl _ _) n7) (Qf hW n7) rfl
  refine⟨fun a w hW hk K hK=>?_,?_⟩
  ·obtain⟨k0,-⟩:=hk
   have k0:a.tmps.getD 0 undef=.pointer (some ⟨b,0,none⟩):=k0;go_simp;exact hK _ _ (Below.refl _ _) hW rfl
  refine⟨fun a w hW hk K hK=>?_,?_⟩
  ·obtain⟨k0,-⟩:=hk
   have k0:a.tmps.getD 3 undef=.pointer (some ⟨X,0,none⟩):=k0;go_simp;exact hK _ _ (Below.refl _ _) hW rfl
  refine⟨fun a w hW hk K hK=>?_,?_⟩
  ·obtain⟨k0,-⟩:=hk
   have k0:a.tmps.getD 254 undef=.pointer (some ⟨X,2,none⟩):=k0;have c0:=(HS.out.below hW).cells.2.2.1;go_simp;exact hK _ _ (Below.refl _ _) hW rfl
  refine⟨fun a w hW hk K hK=>?_,?_⟩
  ·obtain⟨k0,k1,-⟩:=hk
   have k0:a.tmps.getD 253 undef=.pointer (some ⟨b,0,none⟩):=k0;have k1:a.tmps.getD 255 undef=.int .i64 x.b:=k1;go_simp;refine(Q6 x.b 1 false HS.out.ok.regs HS.out.ok.vals (HS.out.below hW).known).mono ?_;rw[Hc2.out];rintro r7 w7 ⟨rfl,n7,hw7⟩;subst hw7
   go_simp;exact hK _ _ (Qf (Below.refl _ _) n7) (Qf hW n7) rfl
  refine⟨fun a w hW hk K hK=>?_,?_⟩
  ·obtain⟨k0,k1,-⟩:=hk
   have k0:a.tmps.getD 252 undef=.int .i64 c1:=k0;have k1:a.tmps.getD 256 undef=.int .i64 c2:=k1;simp only[Array.getD_eq_getD_getElem?] at k0 k1
   go_simp;exact hK _ _ (QO _ _) (hW.alloc hW.size _) (QfU w 3 [c1,c2] HI.out 2)
  refine⟨fun a w hW hk K hK=>?_,?_⟩
  ·obtain⟨k0,-⟩:=hk
   have k0:(fun v w=>IV w [c1,c2] v) (a.tmps.getD 257 undef) w:=k0;generalize k0e:a.tmps.getD 257 undef=uk0 at k0;go_simp;refine(Qcy (by simp) k0).mono ?_;rintro r7 w7 ⟨rfl,hw7⟩;have hw7:=hw7.symm;subst hw7
   go_simp;exact hK _ _ (Below.refl _ _) hW rfl
  refine⟨fun a w hW hk K hK=>?_,?_⟩
  ·obtain⟨k0,-⟩:=hk
   have k0:a.tmps.getD 248 undef=.slice na 1 1:=k0;go_simp;exact hK _ _ (Below.refl _ _) hW rfl
  refine⟨fun a w hW hk K hK=>?_,?_⟩
  ·obtain⟨k0,-⟩:=hk
   have k0:a.tmps.getD 258 undef=.int .i64 (firstI [c1,c2]):=k0;go_simp;exact hK _ _ (Below.refl _ _) hW rfl
  trivial
def QkL (b X:Nat) (x:Qz) (na:Option Addr) (c1:Int) (c2:Int) (c3:Int) (t:Tmp) (v:Value) (w:World):Prop :=
 match ([(273,fun v w=>IV w [c1,c2,c3] v)]:List (Tmp × (Value→World→Prop))).lookup t with
 | some p=>p v w
 | none=>v=(([(0,.pointer (some ⟨b,0,none⟩)),(3,.pointer (some ⟨X,0,none⟩)),(261,.pointer (some ⟨b,0,none⟩)),(262,.pointer (some ⟨X,1,none⟩)),(263,.int .i64 x.a),(264,.int .i64 c1),(265,.pointer (some ⟨b,0,none⟩)),(266,.pointer (some ⟨X,2,none⟩)),(267,.int .i64 x.b),(268,.int .i64 c2),(269,.pointer (some ⟨b,0,none⟩)),(270,.pointer (some ⟨X,3,none⟩)),(271,.int .i64 x.c),(272,.int .i64 c3),(274,.int .i64 (firstI [c1,c2,c3])),(4,.slice none 0 0),(5,.int .i64 (firstI [c1,c2,c3]))]:List (Tmp × Value)).lookup t).getD undef
theorem Ql5 {w w2:World}{b X:Nat}{O:Nat→Prop}{s:JSt}{x:Qz}{rg ag:Option Addr}{rc ac:Nat}{na:Option Addr}(HS:Hid (MkS w w2 b X O s x rg ag rc ac na)){c1:Int}{c2:Int}{c3:Int}(Hc1:Hid (s.want x.a 4 true=c1)) (Hc2:Hid (s.want x.b 1 false=c2)) (Hc3:Hid (s.want x.c 1 false=c3)) (HI:Hid (∀ x∈[c1,c2,c3],-9223372036854775808≤x∧x≤9223372036854775807))
 (a:Act) (m:Nat) (hn:a.tmps.size=m) (hn':365≤m) (h0:a.tmps.getD 0 undef=.pointer (some ⟨b,0,none⟩)) (h3:a.tmps.getD 3 undef=.pointer (some ⟨X,0,none⟩)) :
 Code.wp Tryz.prog ((Tryz.f73.body.bind (Qj 54)).getD .skip) (fun e a' w'=>e=.normal∧∃ vs,a'=Q5 a vs [261,262,263,264,265,266,267,268,269,270,271,272,273,274,4,5]∧vs 4=.slice none 0 0∧vs 5=.int .i64 (firstI [c1,c2,c3])∧Below w2.heap.size w2 w') a w2:=by
 conv=>arg 2;whnf
 refine Qx (QkL b X x na c1 c2 c3) (fun w=>Below w2.heap.size w2 w) (fun w w'=>Below w.heap.size w w') (outs:=[0,3]) (gs:=[]) (bs:=[true,true,true,true,true,true,true,true,true,true,true,true,true,true,true,true]) (by kernel_rfl) (n:=365) hn hn' (by kernel_rfl) ?hR ?hG (Qf (Below.refl _ _) 1) ⟨h0,h3,trivial⟩ ?hA ?hend
 case hR =>
  intro t v w w' hr h;unfold QkL at h ⊢;split at h
  ·rename_i p hp
   simp only[List.lookup_cons,List.lookup_nil] at hp
   split at hp
   ·cases hp;exact IV.below h hr
   ·cases hp
  ·exact h
 case hG=>exact trivial
 case hend=>exact fun vs w' hW hk=>⟨rfl,vs,rfl,hk 4 (by kernel_rfl),hk 5 (by kernel_rfl),hW⟩
 case hA =>
  refine⟨fun a w hW hk K hK=>?_,?_⟩
  ·obtain⟨k0,-⟩:=hk
   have k0:a.tmps.getD 0 undef=.pointer (some ⟨b,0,none⟩):=k0;go_simp;exact hK _ _ (Below.refl _ _) hW rfl
  refine⟨fun a w hW hk K hK=>?_,?_⟩
  ·obtain⟨k0,-⟩:=hk
   have k0:a.tmps.getD 3 undef=.pointer (some ⟨X,0,none⟩):=k0;go_simp;exact hK _ _ (Below.refl _ _) hW rfl
  refine⟨fun a w hW hk K hK=>?_,?_⟩
  ·obtain⟨k0,-⟩:=hk
   have k0:a.tmps.getD 262 undef=.pointer (some ⟨X,1,none⟩):=k0;have c0:=(HS.out.below hW).cells.2.1;go_simp;exact hK _ _ (Below.refl _ _) hW rfl
  refine⟨fun a w hW hk K hK=>?_,?_⟩
  ·obtain⟨k0,k1,-⟩:=hk
   have k0:a.tmps.getD 261 undef=.pointer (some ⟨b,0,none⟩):=k0;have k1:a.tmps.getD 263 undef=.int .i64 x.a:=k1;go_simp;refine(Q6 x.a 4 true HS.out.ok.regs HS.out.ok.vals (HS.out.below hW).known).mono ?_;rw[Hc1.out];rintro r7 w7 ⟨rfl,n7,hw7⟩;subst hw7
   go_simp;exact hK _ _ (Qf (Below.refl _ _) n7) (Qf hW n7) rfl
  refine⟨fun a w hW hk K hK=>?_,?_⟩
  ·obtain⟨k0,-⟩:=hk
   have k0:a.tmps.getD 0 undef=.pointer (some ⟨b,0,none⟩):=k0;go_simp;exact hK _ _ (Below.refl _ _) hW rfl
  refine⟨fun a w hW hk K hK=>?_,?_⟩
  ·obtain⟨k0,-⟩:=hk
   have k0:a.tmps.getD 3 undef=.pointer (some ⟨X,0,none⟩):=k0;go_simp;exact hK _ _ (Below.refl _ _) hW rfl
  refine⟨fun a w hW hk K hK=>?_,?_⟩
  ·obtain⟨k0,-⟩:=hk
   have k0:a.tmps.getD 266 undef=.pointer (some ⟨X,2,none⟩):=k0;have c0:=(HS.out.below hW).cells.2.2.1;go_simp;exact hK _ _ (Below.refl _ _) hW rfl
  refine⟨fun a w hW hk K hK=>?_,?_⟩
  ·obtain⟨k0,k1,-⟩:=hk
   have k0:a.tmps.getD 265 undef=.pointer (some ⟨b,0,none⟩):=k0;have k1:a.tmps.getD 267 undef=.int .i64 x.b:=k1;go_simp;refine(Q6 x.b 1 false HS.out.ok.regs HS.out.ok.vals (HS.out.below hW).known).mono ?_;rw[Hc2.out];rintro r7 w7 ⟨rfl,n7,hw7⟩;subst hw7
   go_simp;exact hK _ _ (Qf (Below.refl _ _) n7) (Qf hW n7) rfl
  refine⟨fun a w hW hk K hK=>?_,?_⟩
  ·obtain⟨k0,-⟩:=hk
   have k0:a.tmps.getD 0 undef=.pointer (some ⟨b,0,none⟩):=k0;go_simp;exact hK _ _ (Below.refl _ _) hW rfl
  refine⟨fun a w hW hk K hK=>?_,?_⟩
  ·obtain⟨k0,-⟩:=hk
   have k0:a.tmps.getD 3 undef=.pointer (some ⟨X,0,none⟩):=k0;go_simp;exact hK _ _ (Below.refl _ _) hW rfl
  refine⟨fun a w hW hk K hK=>?_,?_⟩
  ·obtain⟨k0,-⟩:=hk
   have k0:a.tmps.getD 270 undef=.pointer (some ⟨X,3,none⟩):=k0;have c0:=(HS.out.below hW).cells.2.2.2.1;go_simp;exact hK _ _ (Below.refl _ _) hW rfl
  refine⟨fun a w hW hk K hK=>?_,?_⟩
  ·obtain⟨k0,k1,-⟩:=hk
   have k0:a.tmps.getD 269 undef=.pointer (some ⟨b,0,none⟩):=k0;have k1:a.tmps.getD 271 undef=.int .i64 x.c:=k1;go_simp;refine(Q6 x.c 1 false HS.out.ok.regs HS.out.ok.vals (HS.out.below hW).known).mono ?_;rw[Hc3.out];rintro r7 w7 ⟨rfl,n7,hw7⟩;subst hw7
   go_simp;exact hK _ _ (Qf (Below.refl _ _) n7) (Qf hW n7) rfl
  refine⟨fun a w hW hk K hK=>?_,?_⟩
  ·obtain⟨k0,k1,k2,-⟩:=hk
   have k0:a.tmps.getD 264 undef=.int .i64 c1:=k0;have k1:a.tmps.getD 268 undef=.int .i64 c2:=k1;have k2:a.tmps.getD 272 undef=.int .i64 c3:=k2;simp only[Array.getD_eq_getD_getElem?] at k0 k1 k2
   go_simp;exact hK _ _ (QO _ _) (hW.alloc hW.size _) (QfU w 3 [c1,c2,c3] HI.out 3)
  refine⟨fun a w hW hk K hK=>?_,?_⟩
  ·obtain⟨k0,-⟩:=hk
   have k0:(fun v w=>IV w [c1,c2,c3] v) (a.tmps.getD 273 undef) w:=k0;generalize k0e:a.tmps.getD 273 undef=uk0 at k0;go_simp;refine(Qcy (by simp) k0).mono ?_;rintro r7 w7 ⟨rfl,hw7⟩;have hw7:=hw7.symm;subst hw7
   go_simp;exact hK _ _ (Below.refl _ _) hW rfl
  refine⟨fun a w hW hk K hK=>?_,?_⟩
  ·clear hk;go_simp;exact hK _ _ (Below.refl _ _) hW rfl
  refine⟨fun a w hW hk K hK=>?_,?_⟩
  ·obtain⟨k0,-⟩:=hk
   have k0:a.tmps.getD 274 undef=.int .i64 (firstI [c1,c2,c3]):=k0;go_simp;exact hK _ _ (Below.refl _ _) hW rfl
  trivial
theorem Qgk {w:World}{b:Nat}{O:Nat→Prop}{s:JSt}{x:Qz}{rg ag:Option Addr}{rc ac:Nat}(hO:∀ k,O k→k<w.heap.size) (hJ:JOk s) (h:KAt w b O s) (hop:x.op=2) :
 Calls Tryz.prog 73 #[.pointer (some ⟨b,0,none⟩),Qau x rg ag rc ac] w fun e w'=>QQ w O (s.makes x).1 (s.makes x).2 e w':=by
 have E:Hid (s.makes x=(code2 (s.want x.a 1 false) (s.want x.b 1 false),[tInt])):=QbX hop;have S0:=Qa (MkS.start x rg ag rc ac hO hJ h);obtain⟨xop,xa,xb,xc,xk,xn,xr,xs⟩:=x
 simp only at hop
 subst hop;clear h;go_enter Tryz.func73,Tryz.ntmps73
 go_upto_region 7 with fail
 obtain⟨w2,hw2⟩:∃ w2,(w.alloc (.cells #[.int .i64 2,.int .i64 xa,.int .i64 xb,.int .i64 xc,.int .i64 xk,.int .i64 xn,.slice rg xr.length rc,.slice ag xs.length ac] 59)).alloc (.cells #[.int .i64 1,.int .i64 0,.slice none 0 0] 79)=w2:=⟨_,rfl⟩
 obtain⟨X,hX⟩:∃ X,w.heap.size=X:=⟨_,rfl⟩
 have S2:Hid (MkS w w2 b X O s ⟨2,xa,xb,xc,xk,xn,xr,xs⟩ rg ag rc ac (some ⟨X+1,0,none⟩)):=by rw[← hw2,← hX];exact S0.out
 rw[hw2,hX]
 clear hw2 hX S0;obtain⟨x0,x1,x2,x3,x4,x6,x7⟩:=S2.out.cells
 have HI:Hid (∀ y∈[s.want xa 1 false,s.want xb 1 false],-9223372036854775808≤y∧y≤9223372036854775807):=fun y hy=>by simp only[List.mem_cons,List.not_mem_nil,or_false] at hy;rcases hy with rfl | rfl<;>exact QcC _ _ _ _
 refine Code.wp_mono ?_ (kr7 S2 (show Hid (s.want xa 1 false=s.want xa 1 false) from rfl) (show Hid (s.want xb 1 false=s.want xb 1 false) from rfl) HI _ _ rfl (Nat.le_of_ble_eq_true (by kernel_rfl)) rfl rfl rfl);rintro ee aa w3 ⟨rfl,vs,rfl,hv4,hv5,hb⟩;simp only[Q5,Act.put,List.setIfInBounds_toArray,List.set_cons_zero,List.set_cons_succ,hv4,hv5]
 have E2:=E.out;rw[← Qd0] at E2
 generalize firstI [s.want xa 1 false,s.want xb 1 false]=c at E2 ⊢;have E3:=Qa E2;clear E2 E;go_wp2
 go_ret2;rw[E3.out]
 exact QQ.num S2.out hb
theorem Qfz {w:World}{b:Nat}{O:Nat→Prop}{s:JSt}{x:Qz}{rg ag:Option Addr}{rc ac:Nat}(hO:∀ k,O k→k<w.heap.size) (hJ:JOk s) (h:KAt w b O s) (hop:x.op=9) :
 Calls Tryz.prog 73 #[.pointer (some ⟨b,0,none⟩),Qau x rg ag rc ac] w fun e w'=>QQ w O (s.makes x).1 (s.makes x).2 e w':=by
 have E:Hid (s.makes x=(code2 (s.want x.a 4 true) (s.want x.b 1 false),[tInt])):=Qbd hop;have S0:=Qa (MkS.start x rg ag rc ac hO hJ h);obtain⟨xop,xa,xb,xc,xk,xn,xr,xs⟩:=x
 simp only at hop
 subst hop;clear h;go_enter Tryz.func73,Tryz.ntmps73
 go_upto_region 52 with fail
 obtain⟨w2,hw2⟩:∃ w2,(w.alloc (.cells #[.int .i64 9,.int .i64 xa,.int .i64 xb,.int .i64 xc,.int .i64 xk,.int .i64 xn,.slice rg xr.length rc,.slice ag xs.length ac] 59)).alloc (.cells #[.int .i64 1,.int .i64 0,.slice none 0 0] 79)=w2:=⟨_,rfl⟩
 obtain⟨X,hX⟩:∃ X,w.heap.size=X:=⟨_,rfl⟩
 have S2:Hid (MkS w w2 b X O s ⟨9,xa,xb,xc,xk,xn,xr,xs⟩ rg ag rc ac (some ⟨X+1,0,none⟩)):=by rw[← hw2,← hX];exact S0.out
 rw[hw2,hX]
 clear hw2 hX S0;obtain⟨x0,x1,x2,x3,x4,x6,x7⟩:=S2.out.cells
 have HI:Hid (∀ y∈[s.want xa 4 true,s.want xb 1 false],-9223372036854775808≤y∧y≤9223372036854775807):=fun y hy=>by simp only[List.mem_cons,List.not_mem_nil,or_false] at hy;rcases hy with rfl | rfl<;>exact QcC _ _ _ _
 refine Code.wp_mono ?_ (QlB S2 (show Hid (s.want xa 4 true=s.want xa 4 true) from rfl) (show Hid (s.want xb 1 false=s.want xb 1 false) from rfl) HI _ _ rfl (Nat.le_of_ble_eq_true (by kernel_rfl)) rfl rfl rfl);rintro ee aa w3 ⟨rfl,vs,rfl,hv4,hv5,hb⟩;simp only[Q5,Act.put,List.setIfInBounds_toArray,List.set_cons_zero,List.set_cons_succ,hv4,hv5]
 have E2:=E.out;rw[← Qd0] at E2
 generalize firstI [s.want xa 4 true,s.want xb 1 false]=c at E2 ⊢;have E3:=Qa E2;clear E2 E;go_wp2
 go_ret2;rw[E3.out]
 exact QQ.num S2.out hb
theorem Qei {w:World}{b:Nat}{O:Nat→Prop}{s:JSt}{x:Qz}{rg ag:Option Addr}{rc ac:Nat}(hO:∀ k,O k→k<w.heap.size) (hJ:JOk s) (h:KAt w b O s) (hop:x.op=10) :
 Calls Tryz.prog 73 #[.pointer (some ⟨b,0,none⟩),Qau x rg ag rc ac] w fun e w'=>QQ w O (s.makes x).1 (s.makes x).2 e w':=by
 have E:Hid (s.makes x=(code2 (s.want x.a 4 true) (code2 (s.want x.b 1 false) (s.want x.c 1 false)),[])):=QaL hop;have S0:=Qa (MkS.start x rg ag rc ac hO hJ h);obtain⟨xop,xa,xb,xc,xk,xn,xr,xs⟩:=x
 simp only at hop
 subst hop;clear h;go_enter Tryz.func73,Tryz.ntmps73
 go_upto_region 54 with fail
 obtain⟨w2,hw2⟩:∃ w2,(w.alloc (.cells #[.int .i64 10,.int .i64 xa,.int .i64 xb,.int .i64 xc,.int .i64 xk,.int .i64 xn,.slice rg xr.length rc,.slice ag xs.length ac] 59)).alloc (.cells #[.int .i64 1,.int .i64 0,.slice none 0 0] 79)=w2:=⟨_,rfl⟩
 obtain⟨X,hX⟩:∃ X,w.heap.size=X:=⟨_,rfl⟩
 have S2:Hid (MkS w w2 b X O s ⟨10,xa,xb,xc,xk,xn,xr,xs⟩ rg ag rc ac (some ⟨X+1,0,none⟩)):=by rw[← hw2,← hX];exact S0.out
 rw[hw2,hX]
 clear hw2 hX S0;obtain⟨x0,x1,x2,x3,x4,x6,x7⟩:=S2.out.cells
 have HI:Hid (∀ y∈[s.want xa 4 true,s.want xb 1 false,s.want xc 1 false],-9223372036854775808≤y∧y≤9223372036854775807):=fun y hy=>by simp only[List.mem_cons,List.not_mem_nil,or_false] at hy;rcases hy with rfl | rfl | rfl<;>exact QcC _ _ _ _
 refine Code.wp_mono ?_ (Ql5 S2 (show Hid (s.want xa 4 true=s.want xa 4 true) from rfl) (show Hid (s.want xb 1 false=s.want xb 1 false) from rfl) (show Hid (s.want xc 1 false=s.want xc 1 false) from rfl) HI _ _ rfl (Nat.le_of_ble_eq_true (by kernel_rfl)) rfl rfl);rintro ee aa w3 ⟨rfl,vs,rfl,hv4,hv5,hb⟩;simp only[Q5,Act.put,List.setIfInBounds_toArray,List.set_cons_zero,List.set_cons_succ,hv4,hv5]
 have E2:=E.out;rw[← Qjz] at E2
 generalize firstI [s.want xa 4 true,s.want xb 1 false,s.want xc 1 false]=c at E2 ⊢;have E3:=Qa E2;clear E2 E;go_wp2
 go_ret2;rw[E3.out]
 exact QQ.nil (S2.out.below hb).bel
def Qkl (b X gL nl cL i:Nat) (O:Nat→Prop) (r:Int) (t:Tmp) (v:Value) (w:World):Prop :=
 match ([(245,fun v w=>∃ a,v=.slice a 1 1∧(Qm 6).In w (fun g=>¬ O g) [(mkT 4 r []:TT 6)] [.slice a 1 1]),(4,fun v w=>∃ a,v=.slice a 1 1∧(Qm 6).In w (fun g=>¬ O g) [(mkT 4 r []:TT 6)] [.slice a 1 1])]:List (Tmp × (Value→World→Prop))).lookup t with
 | some p=>p v w
 | none=>v=(([(0,.pointer (some ⟨b,0,none⟩)),(3,.pointer (some ⟨X,0,none⟩)),(235,.pointer (some ⟨b,0,none⟩)),(236,.pointer (some ⟨b,0,none⟩)),(237,.pointer (some ⟨b,6,none⟩)),(238,.slice (some ⟨gL,0,none⟩) nl cL),(239,.pointer (some ⟨X,1,none⟩)),(240,.int .i64 (i:Int)),(241,.pointer (some ⟨gL,i*3,none⟩)),(242,.pointer (some ⟨gL,i*3+1,none⟩)),(243,.int .i64 r),(244,.agg #[.int .i64 4,.int .i64 r,.slice none 0 0]),(5,.int .i64 0)]:List (Tmp × Value)).lookup t).getD undef
theorem QlK {w w2:World}{b X:Nat}{O:Nat→Prop}{s:JSt}{x:Qz}{rg ag:Option Addr}{rc ac:Nat}{na:Option Addr}(HS:Hid (MkS w w2 b X O s x rg ag rc ac na)){gL nl cL i:Nat}{r:Int}(y0:w2.cell? ⟨b,6,none⟩=some (.slice (some ⟨gL,0,none⟩) nl cL)) (v1:w2.cell? ⟨gL,i*3+1,none⟩=some (.int .i64 r)) (hin:(i:Int)<nl) (hxa:x.a=(i:Int)) (HR:Hid (-9223372036854775808≤r∧r≤9223372036854775807))
 (a:Act) (m:Nat) (hn:a.tmps.size=m) (hn':365≤m) (h0:a.tmps.getD 0 undef=.pointer (some ⟨b,0,none⟩)) (h3:a.tmps.getD 3 undef=.pointer (some ⟨X,0,none⟩)) :
 Code.wp Tryz.prog ((Tryz.f73.body.bind (Qj 50)).getD .skip) (fun e a' w'=>e=.normal∧∃ vs,a'=Q5 a vs [235,236,237,238,239,240,241,242,243,244,245,4,5]∧(fun v w=>∃ a,v=.slice a 1 1∧(Qm 6).In w (fun g=>¬ O g) [(mkT 4 r []:TT 6)] [.slice a 1 1]) (vs 4) w'∧vs 5=.int .i64 0∧Below w2.heap.size w2 w') a w2:=by
 conv=>arg 2;whnf
 refine Qx (Qkl b X gL nl cL i O r) (fun w=>Below w2.heap.size w2 w) (fun w w'=>Below w.heap.size w w') (outs:=[0,3]) (gs:=[]) (bs:=[true,true,true,true,true,true,true,true,true,true,true,true,true]) (by kernel_rfl) (n:=365) hn hn' (by kernel_rfl) ?hR ?hG (Qf (Below.refl _ _) 1) ⟨h0,h3,trivial⟩ ?hA ?hend
 case hR =>
  intro t v w w' hr h;unfold Qkl at h ⊢;split at h
  ·rename_i p hp
   simp only[List.lookup_cons,List.lookup_nil] at hp
   split at hp
   ·cases hp;exact(by obtain⟨a,e,h⟩:=h;exact⟨a,e,Lay.below h hr⟩)
   ·split at hp
    ·cases hp;exact(by obtain⟨a,e,h⟩:=h;exact⟨a,e,Lay.below h hr⟩)
    ·cases hp
  ·exact h
 case hG=>exact trivial
 case hend=>exact fun vs w' hW hk=>⟨rfl,vs,rfl,hk 4 (by kernel_rfl),hk 5 (by kernel_rfl),hW⟩
 case hA =>
  refine⟨fun a w hW hk K hK=>?_,?_⟩
  ·obtain⟨k0,-⟩:=hk
   have k0:a.tmps.getD 0 undef=.pointer (some ⟨b,0,none⟩):=k0;go_simp;exact hK _ _ (Below.refl _ _) hW rfl
  refine⟨fun a w hW hk K hK=>?_,?_⟩
  ·obtain⟨k0,-⟩:=hk
   have k0:a.tmps.getD 235 undef=.pointer (some ⟨b,0,none⟩):=k0;go_simp;exact hK _ _ (Below.refl _ _) hW rfl
  refine⟨fun a w hW hk K hK=>?_,?_⟩
  ·obtain⟨k0,-⟩:=hk
   have k0:a.tmps.getD 236 undef=.pointer (some ⟨b,0,none⟩):=k0;go_simp;exact hK _ _ (Below.refl _ _) hW rfl
  refine⟨fun a w hW hk K hK=>?_,?_⟩
  ·obtain⟨k0,-⟩:=hk
   have k0:a.tmps.getD 237 undef=.pointer (some ⟨b,6,none⟩):=k0;have c0:=Qi y0 hW;go_simp;exact hK _ _ (Below.refl _ _) hW rfl
  refine⟨fun a w hW hk K hK=>?_,?_⟩
  ·obtain⟨k0,-⟩:=hk
   have k0:a.tmps.getD 3 undef=.pointer (some ⟨X,0,none⟩):=k0;go_simp;exact hK _ _ (Below.refl _ _) hW rfl
  refine⟨fun a w hW hk K hK=>?_,?_⟩
  ·obtain⟨k0,-⟩:=hk
   have k0:a.tmps.getD 239 undef=.pointer (some ⟨X,1,none⟩):=k0;have c0:=(HS.out.below hW).cells.2.1;rw[hxa] at c0
   go_simp;exact hK _ _ (Below.refl _ _) hW rfl
  refine⟨fun a w hW hk K hK=>?_,?_⟩
  ·obtain⟨k0,k1,-⟩:=hk
   have k0:a.tmps.getD 238 undef=.slice (some ⟨gL,0,none⟩) nl cL:=k0;have k1:a.tmps.getD 240 undef=.int .i64 (i:Int):=k1;go_simp;exact hK _ _ (Below.refl _ _) hW rfl
  refine⟨fun a w hW hk K hK=>?_,?_⟩
  ·obtain⟨k0,-⟩:=hk
   have k0:a.tmps.getD 241 undef=.pointer (some ⟨gL,i*3,none⟩):=k0;go_simp;exact hK _ _ (Below.refl _ _) hW rfl
  refine⟨fun a w hW hk K hK=>?_,?_⟩
  ·obtain⟨k0,-⟩:=hk
   have k0:a.tmps.getD 242 undef=.pointer (some ⟨gL,i*3+1,none⟩):=k0;have c0:=Qi v1 hW;go_simp;exact hK _ _ (Below.refl _ _) hW rfl
  refine⟨fun a w hW hk K hK=>?_,?_⟩
  ·obtain⟨k0,-⟩:=hk
   have k0:a.tmps.getD 243 undef=.int .i64 r:=k0;simp only[Array.getD_eq_getD_getElem?] at k0
   go_simp;exact hK _ _ (Below.refl _ _) hW rfl
  refine⟨fun a w hW hk K hK=>?_,?_⟩
  ·obtain⟨k0,-⟩:=hk
   have k0:a.tmps.getD 244 undef=.agg #[.int .i64 4,.int .i64 r,.slice none 0 0]:=k0;simp only[Array.getD_eq_getD_getElem?] at k0
   go_simp;exact hK _ _ (QO _ _) (hW.alloc hW.size _) ⟨_,rfl,Qc4 w O (HS.out.below hW).lt (t:=(mkT 4 r []:TT 6)) (a:=none) (c:=0) (d:=1) (Qff _ _ _ _ _) (Qhs HR.out)⟩
  refine⟨fun a w hW hk K hK=>?_,?_⟩
  ·obtain⟨k0,-⟩:=hk
   have k0:(fun v w=>∃ a,v=.slice a 1 1∧(Qm 6).In w (fun g=>¬ O g) [(mkT 4 r []:TT 6)] [.slice a 1 1]) (a.tmps.getD 245 undef) w:=k0;generalize k0e:a.tmps.getD 245 undef=uk0 at k0;go_simp;exact hK _ _ (Below.refl _ _) hW k0
  refine⟨fun a w hW hk K hK=>?_,?_⟩
  ·clear hk;go_simp;exact hK _ _ (Below.refl _ _) hW rfl
  trivial
theorem Qeq {w:World}{b:Nat}{O:Nat→Prop}{s:JSt}{x:Qz}{rg ag:Option Addr}{rc ac:Nat}(hO:∀ k,O k→k<w.heap.size) (hJ:JOk s) (h:KAt w b O s) (hop:x.op=8) :
 Calls Tryz.prog 73 #[.pointer (some ⟨b,0,none⟩),Qau x rg ag rc ac] w fun e w'=>QQ w O (s.makes x).1 (s.makes x).2 e w':=by
 have E:Hid (s.makes x=(match s.at x.a with | none=>(1,[]) | some t=>(code2 (s.want x.a 2 true) (s.want x.b 1 false),[mkT 4 t.r []]))):=QaH hop;have S0:=Qa (MkS.start x rg ag rc ac hO hJ h);obtain⟨xop,xa,xb,xc,xk,xn,xr,xs⟩:=x
 simp only at hop
 subst hop;clear h;go_enter Tryz.func73,Tryz.ntmps73
 go_upto_region 47 with fail
 obtain⟨w2,hw2⟩:∃ w2,(w.alloc (.cells #[.int .i64 8,.int .i64 xa,.int .i64 xb,.int .i64 xc,.int .i64 xk,.int .i64 xn,.slice rg xr.length rc,.slice ag xs.length ac] 59)).alloc (.cells #[.int .i64 1,.int .i64 0,.slice none 0 0] 79)=w2:=⟨_,rfl⟩
 obtain⟨X,hX⟩:∃ X,w.heap.size=X:=⟨_,rfl⟩
 have S2:Hid (MkS w w2 b X O s ⟨8,xa,xb,xc,xk,xn,xr,xs⟩ rg ag rc ac (some ⟨X+1,0,none⟩)):=by rw[← hw2,← hX];exact S0.out
 rw[hw2,hX]
 clear hw2 hX S0;obtain⟨x0,x1,x2,x3,x4,x6,x7⟩:=S2.out.cells
 have HI:Hid (∀ y∈[s.want xa 2 true,s.want xb 1 false],-9223372036854775808≤y∧y≤9223372036854775807):=fun y hy=>by simp only[List.mem_cons,List.not_mem_nil,or_false] at hy;rcases hy with rfl | rfl<;>exact QcC _ _ _ _
 refine Code.wp_mono ?_ (QlT S2 (show Hid (s.want xa 2 true=s.want xa 2 true) from rfl) (show Hid (s.want xb 1 false=s.want xb 1 false) from rfl) HI _ _ rfl (Nat.le_of_ble_eq_true (by kernel_rfl)) rfl rfl);rintro ee aa w3 ⟨rfl,vs,rfl,hv5,hb⟩;simp only[Q5,Act.put,List.setIfInBounds_toArray,List.set_cons_zero,List.set_cons_succ,hv5]
 have S3:Hid (MkS w w3 b X O s ⟨8,xa,xb,xc,xk,xn,xr,xs⟩ rg ag rc ac (some ⟨X+1,0,none⟩)):=S2.out.below hb;rw[Qd0]
 clear hb hv5 S2 HI x0 x1 x2 x3 x4 x6 x7;have S2:=S3;clear S3;by_cases hc:code2 (s.want xa 2 true) (s.want xb 1 false)=0
 ·obtain⟨hw1,hw2⟩:=Z4 hc
  obtain⟨t,hat,-,-⟩:=Qah hw1
  have E2:Hid (s.makes ⟨8,xa,xb,xc,xk,xn,xr,xs⟩=(0,[mkT 4 t.r []])):=by
   show _=_;rw[E.out];simp only[hat,hc]
  rw[hc]
  clear E hc hw1 hw2;obtain⟨-,ha0,hal,hti⟩:=Qax hat
  obtain⟨i,rfl⟩:=Int.eq_ofNat_of_zero_le ha0
  clear hat ha0;obtain⟨pm,cm,a1,c1,a2,c2,a3,c3,hh,aL,cL,R⟩:=S2.out.known.read
  obtain⟨q0,q1,q2,q3,q4,q5,q6⟩:=R.cells
  obtain⟨gL,va,vc,rfl,v0,v1,v2,-,hok⟩:=R.row i t (by simpa using hti)
  have HR:Hid (-9223372036854775808≤t.r∧t.r≤9223372036854775807):=hok.1;clear R q0 q1 q2 q3 q4 q5 hti v0 v2 hok;generalize s.L.length=nl at q6 hal;go_upto_region 50 with fail
  refine Code.wp_mono ?_ (QlK S2 q6 v1 hal rfl HR _ _ rfl (Nat.le_of_ble_eq_true (by kernel_rfl)) rfl rfl);rintro ee aa w4 ⟨rfl,vs,rfl,⟨a4,hv4,h4⟩,hv5,hb⟩;simp only[Q5,Act.put,List.setIfInBounds_toArray,List.set_cons_zero,List.set_cons_succ,hv4,hv5]
  have Z:Hid (QQ w O 0 [(mkT 4 t.r []:TT 6)] (.returned (.tuple #[.slice a4 1 1,.int .i64 0])) w4):=⟨_,1,1,rfl,fun _=>⟨rfl,Nat.le_refl _,h4⟩,(S2.out.below hb).bel⟩;clear h4 hb hv4 hv5 v1 q6;go_wp2
  go_ret2;rw[E2.out]
  exact Z.out
 ·have E2:Hid ((s.makes ⟨8,xa,xb,xc,xk,xn,xr,xs⟩).1=code2 (s.want xa 2 true) (s.want xb 1 false)):=by
   show _=_;rw[E.out]
   cases hat:s.at xa with
   | none =>
    have:s.want xa 2 true=1:=by unfold JSt.want;rw[hat]
    simp only[this];rfl
   | some t=>rfl
  clear E;generalize code2 (s.want xa 2 true) (s.want xb 1 false)=c at E2 hc ⊢;have hc':(c==0)=false:=beq_eq_false_iff_ne.2 hc;have HC:=Qa hc;clear hc;go_wp2
  go_ret2;rw[E2.out]
  exact QQ.bad HC.out S2.out.bel _ _ _
def QkG (w2:World) (b X gL nl cL i gk ok nk ck k uc:Nat) (u:TT 5) (ua:Option Addr) (t:Tmp) (v:Value) (w:World):Prop :=
 match ([(12,fun v w=>∃ B,v=.pointer (some ⟨B,0,none⟩)∧w2.heap.size≤B∧Blk w B #[.int .i64 0,.int .i64 0,.slice none 0 0] 79)]:List (Tmp × (Value→World→Prop))).lookup t with
 | some p=>p v w
 | none=>v=(([(0,.pointer (some ⟨b,0,none⟩)),(3,.pointer (some ⟨X,0,none⟩)),(178,.pointer (some ⟨b,0,none⟩)),(179,.pointer (some ⟨b,0,none⟩)),(180,.pointer (some ⟨b,6,none⟩)),(181,.slice (some ⟨gL,0,none⟩) nl cL),(182,.pointer (some ⟨X,1,none⟩)),(183,.int .i64 (i:Int)),(184,.pointer (some ⟨gL,i*3,none⟩)),(185,.pointer (some ⟨gL,i*3+2,none⟩)),(186,.slice (some ⟨gk,ok,none⟩) nk ck),(187,.pointer (some ⟨X,4,none⟩)),(188,.int .i64 (k:Int)),(189,.pointer (some ⟨gk,ok+k*3,none⟩)),(190,.agg #[.int .i64 u.kind,.int .i64 u.r,.slice ua u.len uc])]:List (Tmp × Value)).lookup t).getD undef
theorem Qlp {w w2:World}{b X:Nat}{O:Nat→Prop}{s:JSt}{x:Qz}{rg ag:Option Addr}{rc ac:Nat}{na:Option Addr}(HS:Hid (MkS w w2 b X O s x rg ag rc ac na)){gL nl cL i gk ok nk ck k uc:Nat}{u:TT 5}{ua:Option Addr}(y0:w2.cell? ⟨b,6,none⟩=some (.slice (some ⟨gL,0,none⟩) nl cL)) (v2:w2.cell? ⟨gL,i*3+2,none⟩=some (.slice (some ⟨gk,ok,none⟩) nk ck)) (u0:w2.cell? ⟨gk,ok+k*3,none⟩=some (.int .i64 u.kind)) (u1:w2.cell? ⟨gk,ok+k*3+1,none⟩=some (.int .i64 u.r)) (u2:w2.cell? ⟨gk,ok+k*3+2,none⟩=some (.slice ua u.len uc)) (hin:(i:Int)<nl) (hkn:(k:Int)<nk) (hxa:x.a=(i:Int)) (hxk:x.k=(k:Int)){Q:Exit→Act→World→Prop}
 (a:Act) (m:Nat) (hn:a.tmps.size=m) (hn':365≤m) (h0:a.tmps.getD 0 undef=.pointer (some ⟨b,0,none⟩)) (h3:a.tmps.getD 3 undef=.pointer (some ⟨X,0,none⟩))
 (hend:∀ ops vs w',vs 190=.agg #[.int .i64 u.kind,.int .i64 u.r,.slice ua u.len uc]→(fun v w=>∃ B,v=.pointer (some ⟨B,0,none⟩)∧w2.heap.size≤B∧Blk w B #[.int .i64 0,.int .i64 0,.slice none 0 0] 79) (vs 12) w'→Below w2.heap.size w2 w'→wpList Tryz.prog ops Q (QcZ 14 ((Tryz.f73.body.bind (Qj 38)).getD .skip)) (Q5 a vs [178,179,180,181,182,183,184,185,186,187,188,189,190,12]) w') :
 Code.wp Tryz.prog ((Tryz.f73.body.bind (Qj 38)).getD .skip) Q a w2:=by
 conv=>arg 2;whnf
 refine Qr 14 (QkG w2 b X gL nl cL i gk ok nk ck k uc u ua) (fun w=>Below w2.heap.size w2 w) (fun w w'=>Below w.heap.size w w') (outs:=[0,3]) (gs:=[]) (bs:=[true,true,true,true,true,true,true,true,true,true,true,true,true,true]) (by kernel_rfl) (n:=365) hn hn' (by kernel_rfl) (by kernel_rfl) ?hR ?hG (Qf (Below.refl _ _) 1) ⟨h0,h3,trivial⟩ ?hA ?hend
 case hR =>
  intro t v w w' hr h;unfold QkG at h ⊢;split at h
  ·rename_i p hp
   simp only[List.lookup_cons,List.lookup_nil] at hp
   split at hp
   ·cases hp;exact(by obtain⟨B,e,h1,h2⟩:=h;exact⟨B,e,h1,(hr.block B (lt_of_block h2)).trans h2⟩)
   ·cases hp
  ·exact h
 case hG=>exact trivial
 case hend=>exact fun ops vs w' hW hk=>hend ops vs w' (hk 190 (by kernel_rfl)) (hk 12 (by kernel_rfl)) hW
 case hA =>
  refine⟨fun a w hW hk K hK=>?_,?_⟩
  ·obtain⟨k0,-⟩:=hk
   have k0:a.tmps.getD 0 undef=.pointer (some ⟨b,0,none⟩):=k0;go_simp;exact hK _ _ (Below.refl _ _) hW rfl
  refine⟨fun a w hW hk K hK=>?_,?_⟩
  ·obtain⟨k0,-⟩:=hk
   have k0:a.tmps.getD 178 undef=.pointer (some ⟨b,0,none⟩):=k0;go_simp;exact hK _ _ (Below.refl _ _) hW rfl
  refine⟨fun a w hW hk K hK=>?_,?_⟩
  ·obtain⟨k0,-⟩:=hk
   have k0:a.tmps.getD 179 undef=.pointer (some ⟨b,0,none⟩):=k0;go_simp;exact hK _ _ (Below.refl _ _) hW rfl
  refine⟨fun a w hW hk K hK=>?_,?_⟩
  ·obtain⟨k0,-⟩:=hk
   have k0:a.tmps.getD 180 undef=.pointer (some ⟨b,6,none⟩):=k0;have c0:=Qi y0 hW;go_simp;exact hK _ _ (Below.refl _ _) hW rfl
  refine⟨fun a w hW hk K hK=>?_,?_⟩
  ·obtain⟨k0,-⟩:=hk
   have k0:a.tmps.getD 3 undef=.pointer (some ⟨X,0,none⟩):=k0;go_simp;exact hK _ _ (Below.refl _ _) hW rfl
  refine⟨fun a w hW hk K hK=>?_,?_⟩
  ·obtain⟨k0,-⟩:=hk
   have k0:a.tmps.getD 182 undef=.pointer (some ⟨X,1,none⟩):=k0;have c0:=(HS.out.below hW).cells.2.1;rw[hxa] at c0
   go_simp;exact hK _ _ (Below.refl _ _) hW rfl
  refine⟨fun a w hW hk K hK=>?_,?_⟩
  ·obtain⟨k0,k1,-⟩:=hk
   have k0:a.tmps.getD 181 undef=.slice (some ⟨gL,0,none⟩) nl cL:=k0;have k1:a.tmps.getD 183 undef=.int .i64 (i:Int):=k1;go_simp;exact hK _ _ (Below.refl _ _) hW rfl
  refine⟨fun a w hW hk K hK=>?_,?_⟩
  ·obtain⟨k0,-⟩:=hk
   have k0:a.tmps.getD 184 undef=.pointer (some ⟨gL,i*3,none⟩):=k0;go_simp;exact hK _ _ (Below.refl _ _) hW rfl
  refine⟨fun a w hW hk K hK=>?_,?_⟩
  ·obtain⟨k0,-⟩:=hk
   have k0:a.tmps.getD 185 undef=.pointer (some ⟨gL,i*3+2,none⟩):=k0;have c0:=Qi v2 hW;go_simp;exact hK _ _ (Below.refl _ _) hW rfl
  refine⟨fun a w hW hk K hK=>?_,?_⟩
  ·obtain⟨k0,-⟩:=hk
   have k0:a.tmps.getD 3 undef=.pointer (some ⟨X,0,none⟩):=k0;go_simp;exact hK _ _ (Below.refl _ _) hW rfl
  refine⟨fun a w hW hk K hK=>?_,?_⟩
  ·obtain⟨k0,-⟩:=hk
   have k0:a.tmps.getD 187 undef=.pointer (some ⟨X,4,none⟩):=k0;have c0:=(HS.out.below hW).cells.2.2.2.2.1;rw[hxk] at c0
   go_simp;exact hK _ _ (Below.refl _ _) hW rfl
  refine⟨fun a w hW hk K hK=>?_,?_⟩
  ·obtain⟨k0,k1,-⟩:=hk
   have k0:a.tmps.getD 186 undef=.slice (some ⟨gk,ok,none⟩) nk ck:=k0;have k1:a.tmps.getD 188 undef=.int .i64 (k:Int):=k1;go_simp;exact hK _ _ (Below.refl _ _) hW rfl
  refine⟨fun a w hW hk K hK=>?_,?_⟩
  ·obtain⟨k0,-⟩:=hk
   have k0:a.tmps.getD 189 undef=.pointer (some ⟨gk,ok+k*3,none⟩):=k0;have c0:=Qi u0 hW;have c1:=Qi u1 hW;have c2:=Qi u2 hW;go_simp;exact hK _ _ (Below.refl _ _) hW rfl
  refine⟨fun a w hW hk K hK=>?_,?_⟩
  ·clear hk;go_simp;exact hK _ _ (QO _ _) (hW.alloc hW.size _) ⟨_,rfl,hW.size,Qe _ _ _⟩
  trivial
theorem Qgu {w:World}{b:Nat}{O:Nat→Prop}{s:JSt}{x:Qz}{rg ag:Option Addr}{rc ac:Nat}(hO:∀ k,O k→k<w.heap.size) (hJ:JOk s) (h:KAt w b O s) (hk0:0≤x.k∧x.k≤7) (hop:x.op=6) :
 Calls Tryz.prog 73 #[.pointer (some ⟨b,0,none⟩),Qau x rg ag rc ac] w fun e w'=>QQ w O (s.makes x).1 (s.makes x).2 e w':=by
 have E:Hid (s.makes x=(match s.at x.a with
  | none=>(1,[])
  | some t=>if s.want x.a 3 true=0 then (match t.2.2[x.k.toNat]? with
   | none=>(9,[])
   | some u=>(0,[u.at 5]))
   else (s.want x.a 3 true,[]))):=QbP hop
 have S0:=Qa (MkS.start x rg ag rc ac hO hJ h);obtain⟨xop,xa,xb,xc,xk,xn,xr,xs⟩:=x
 simp only at hop
 subst hop;clear h;go_enter Tryz.func73,Tryz.ntmps73
 go_upto_region 33 with fail
 obtain⟨w2,hw2⟩:∃ w2,(w.alloc (.cells #[.int .i64 6,.int .i64 xa,.int .i64 xb,.int .i64 xc,.int .i64 xk,.int .i64 xn,.slice rg xr.length rc,.slice ag xs.length ac] 59)).alloc (.cells #[.int .i64 1,.int .i64 0,.slice none 0 0] 79)=w2:=⟨_,rfl⟩
 obtain⟨X,hX⟩:∃ X,w.heap.size=X:=⟨_,rfl⟩
 have S2:Hid (MkS w w2 b X O s ⟨6,xa,xb,xc,xk,xn,xr,xs⟩ rg ag rc ac (some ⟨X+1,0,none⟩)):=by rw[← hw2,← hX];exact S0.out
 rw[hw2,hX]
 clear hw2 hX S0;obtain⟨x0,x1,x2,x3,x4,x6,x7⟩:=S2.out.cells
 have hH16:=S2.out.ok.regs;have hL80:=S2.out.ok.vals;go_wp2_with fail
 refine(Q6 xa 3 true S2.out.ok.regs S2.out.ok.vals S2.out.known).mono ?_
 rintro e w3 ⟨rfl,n3,hw3⟩;have S3:Hid (MkS w w3 b X O s ⟨6,xa,xb,xc,xk,xn,xr,xs⟩ rg ag rc ac (some ⟨X+1,0,none⟩)):=S2.out.below (by rw[hw3];exact Qf (Below.refl _ _) n3);clear hw3 S2 x0 x1 x2 x3 x4 x6 x7;have S2:=S3;clear S3;obtain⟨x0,x1,x2,x3,x4,x6,x7⟩:=S2.out.cells
 simp only at x0 x1 x2 x3 x4 x6 x7 hk0
 cases hat:s.at xa with
 | none =>
  have hw:s.want xa 3 true=1:=by unfold JSt.want;rw[hat]
  have E2:Hid (s.makes ⟨6,xa,xb,xc,xk,xn,xr,xs⟩=(1,[])):=by
   show _=_;rw[E.out];simp only[hat]
  rw[hw]
  clear E hw hat;go_wp2
  go_ret2;rw[E2.out]
  exact QQ.nil S2.out.bel
 | some t =>
  by_cases hw:s.want xa 3 true=0
  ·obtain⟨k,rfl⟩:=Int.eq_ofNat_of_zero_le hk0.1
   obtain⟨-,ha0,hal,hti⟩:=Qax hat
   obtain⟨i,rfl⟩:=Int.eq_ofNat_of_zero_le ha0
   obtain⟨pm,cm,a1,c1,a2,c2,a3,c3,hh,aL,cL,R⟩:=S2.out.known.read
   obtain⟨q0,q1,q2,q3,q4,q5,q6⟩:=R.cells
   obtain⟨gL,va,vc,rfl,v0,v1,v2,v3,hok⟩:=R.row i t (by simpa using hti)
   have HRW:Hid (TRd w3 (fun g=>¬ O g) (some ⟨gL,0,none⟩) s.L):=R.row;clear R q0 q1 q2 q3 q4 q5 v0 v1;have hlen:t.len=t.2.2.length:=rfl
   cases hu:t.2.2[k]? with
   | none =>
    have E2:Hid (s.makes ⟨6,(i:Int),xb,xc,(k:Int),xn,xr,xs⟩=(9,[])):=by
     show _=_;rw[E.out];simp only[hat,if_pos hw,Int.toNat_natCast,hu]
    have hge:(t.len:Int)≤k:=by rw[hlen];have:=List.getElem?_eq_none_iff.1 hu;omega
    rw[hw]
    clear E hw hat hu hlen hti;generalize t.len=tl at v2 hge;generalize hnl:s.L.length=nl at q6 hal hL80;go_wp2_with fail
    go_quiet (fail)
    go_wp2
    go_ret2;rw[E2.out]
    exact QQ.nil (Qf S2.out.bel _)
   | some u =>
    have hlt:(k:Int)<t.len:=by rw[hlen];have:=(List.getElem?_eq_some_iff.1 hu).1;omega
    obtain⟨gk,okk,ua,uc,rfl,-,u0,u1,u2,u3⟩:=v3 k u hu
    have hua:u.ok:=hok.2 u (List.mem_of_getElem? hu);have HU:Hid (TIn w3 (fun g=>¬ O g) u ua∧u.ok):=⟨u3,hua⟩
    have HCU:Hid ((u.at 5).count≤100000):=by
     have h1:=QZ (S2.out.ok.types t (Qax hat).1);have h2:=t.count_kid (List.mem_of_getElem? hu);have h3:=TT.at_count 5 u;show _≤_;omega
    have E2:Hid (s.makes ⟨6,(i:Int),xb,xc,(k:Int),xn,xr,xs⟩=(0,[u.at 5])):=by
     show _=_;rw[E.out];simp only[hat,if_pos hw,Int.toNat_natCast,hu]
    have hge:¬ (t.len:Int)≤k:=by omega
    rw[hw]
    clear E hw hat hu hlen hti v3 hok u3 hua;generalize t.len=tl at v2 hge hlt;generalize hnl:s.L.length=nl at q6 hal hL80;have HNL:Hid (s.L.length=nl):=hnl;clear hnl;go_wp2_with fail
    go_quiet (fail)
    have S4:=Qa (S2.out.below (Qf (Below.refl _ _) nq));have b4:Below w3.heap.size w3 (w3.drewN nq):=Qf (Below.refl _ _) nq;have HU4:Hid (TIn (w3.drewN nq) (fun g=>¬ O g) u ua∧u.ok):=⟨HU.out.1.below b4,HU.out.2⟩;have HRW4:Hid (TRd (w3.drewN nq) (fun g=>¬ O g) (some ⟨gL,0,none⟩) s.L):=HRW.out.below b4;have q6':=Qi q6 b4;have v2':=Qi v2 b4;have u0':=Qi u0 b4;have u1':=Qi u1 b4;have u2':=Qi u2 b4;clear b4;generalize w3.drewN nq=w4 at S4 HU4 HRW4 q6' v2' u0' u1' u2' ⊢;clear q6 v2 u0 u1 u2 HU HRW S2 x0 x1 x2 x3 x4 x6 x7;have S2:=S4;clear S4;obtain⟨x0,x1,x2,x3,x4,x6,x7⟩:=S2.out.cells
    simp only at x0 x1 x2 x3 x4 x6 x7
    go_upto_region 38 with fail
    refine Qlp S2 q6' v2' u0' u1' u2' hal hlt rfl rfl _ _ rfl (Nat.le_of_ble_eq_true (by kernel_rfl)) rfl rfl ?_;rintro ops vs w5 hv190 ⟨B,hv12,hB,hBb⟩ b5;show wpList _ ops _ [_] (Q5 _ vs [178,179,180,181,182,183,184,185,186,187,188,189,190,12]) w5;simp only[Q5,Act.put,List.setIfInBounds_toArray,List.set_cons_zero,List.set_cons_succ,hv190,hv12]
    have B6:Hid (Blk (((w5.setCell ⟨B,0,none⟩ (.int .i64 u.kind)).setCell ⟨B,1,none⟩ (.int .i64 u.r)).setCell ⟨B,2,none⟩ (.slice ua u.len uc)) B #[.int .i64 u.kind,.int .i64 u.r,.slice ua u.len uc] 79):=Blk.set3 hBb _ _ _
    have b6:Hid (Below w4.heap.size w4 (((w5.setCell ⟨B,0,none⟩ (.int .i64 u.kind)).setCell ⟨B,1,none⟩ (.int .i64 u.r)).setCell ⟨B,2,none⟩ (.slice ua u.len uc))) :=
     ((b5.setCell (p:=⟨B,0,none⟩) hB _).setCell (p:=⟨B,1,none⟩) hB _).setCell (p:=⟨B,2,none⟩) hB _
    have e0:=Qb hBb 0 _ rfl;have e1:=Qb hBb 1 _ rfl;have e2:=Qb hBb 2 _ rfl;have ef:∀ i,w5.frozen? ⟨B,i,none⟩=false:=fun i=>Qp hBb i;clear hBb hB b5 hv190 hv12 q6' v2' u0' u1' u2';go_upto_region 39 with fail
    generalize (((w5.setCell ⟨B,0,none⟩ (.int .i64 u.kind)).setCell ⟨B,1,none⟩ (.int .i64 u.r)).setCell ⟨B,2,none⟩ (.slice ua u.len uc))=w6 at B6 b6 ⊢;have S6:=Qa (S2.out.below b6.out);have HU6:Hid (TIn w6 (fun g=>¬ O g) u ua∧u.ok):=⟨HU4.out.1.below b6.out,HU4.out.2⟩;have HRW6:Hid (TRd w6 (fun g=>¬ O g) (some ⟨gL,0,none⟩) s.L):=HRW4.out.below b6.out;clear S2 HU4 HRW4 e0 e1 e2 ef x0 x1 x2 x3 x4 x6 x7;have S2:=S6;clear S6;obtain⟨x0,x1,x2,x3,x4,x6,x7⟩:=S2.out.cells
    simp only at x0 x1 x2 x3 x4 x6 x7
    have e0:=Qb B6.out 0 _ rfl;have e1:=Qb B6.out 1 _ rfl;have e2:=Qb B6.out 2 _ rfl
    have Z:Hid (QQ w O 0 [u.at 5] (.returned (.tuple #[.slice (some ⟨w6.heap.size,0,none⟩) 1 1,.int .i64 0])) (w6.alloc (.cells #[.int .i64 u.kind,.int .i64 u.r,.slice ua u.len uc] 79))) :=
     ⟨_,1,1,rfl,fun _=>⟨rfl,Nat.le_refl _,QgQ w6 O S2.out.lt HU6.out.1 HU6.out.2⟩,S2.out.bel.alloc S2.out.bel.size _⟩
    clear B6 b6;go_wp2
    go_ret2;rw[E2.out]
    exact Z.out
  ·have hw':(s.want xa 3 true==0)=false:=beq_eq_false_iff_ne.2 hw
   have E2:Hid (s.makes ⟨6,xa,xb,xc,xk,xn,xr,xs⟩=(s.want xa 3 true,[])):=by
    show _=_;rw[E.out];simp only[hat,if_neg hw]
   have HW:=Qa hw;clear E hat hw;generalize s.want xa 3 true=c at E2 hw' HW ⊢;go_wp2
   go_ret2;rw[E2.out]
   exact QQ.nil S2.out.bel
def Qll (b X B gL nl cL j uc yc:Nat) (u y:TT 6) (ua ya:Option Addr) (q:Bool) (t:Tmp) (v:Value) (w:World):Prop :=
 v=(([(0,.pointer (some ⟨b,0,none⟩)),(3,.pointer (some ⟨X,0,none⟩)),(12,.pointer (some ⟨B,0,none⟩)),(209,.agg #[.int .i64 u.kind,.int .i64 u.r,.slice ua u.len uc]),(210,.pointer (some ⟨b,0,none⟩)),(211,.pointer (some ⟨b,0,none⟩)),(212,.pointer (some ⟨b,6,none⟩)),(213,.slice (some ⟨gL,0,none⟩) nl cL),(214,.pointer (some ⟨X,2,none⟩)),(215,.int .i64 (j:Int)),(216,.pointer (some ⟨gL,j*3,none⟩)),(217,.agg #[.int .i64 y.kind,.int .i64 y.r,.slice ya y.len yc]),(218,.bool q),(219,.bool (!q))]:List (Tmp × Value)).lookup t).getD undef
theorem Ql2 {w w2:World}{b X:Nat}{O:Nat→Prop}{s:JSt}{x:Qz}{rg ag:Option Addr}{rc ac:Nat}{na:Option Addr}(HS:Hid (MkS w w2 b X O s x rg ag rc ac na)){B gL nl cL j uc yc:Nat}{u y:TT 6}{ua ya:Option Addr}{q:Bool}{Q R:Nat→Prop}(e0:w2.cell? ⟨B,0,none⟩=some (.int .i64 u.kind)) (e1:w2.cell? ⟨B,1,none⟩=some (.int .i64 u.r)) (e2:w2.cell? ⟨B,2,none⟩=some (.slice ua u.len uc)) (y0:w2.cell? ⟨b,6,none⟩=some (.slice (some ⟨gL,0,none⟩) nl cL)) (v0:w2.cell? ⟨gL,j*3,none⟩=some (.int .i64 y.kind)) (v1:w2.cell? ⟨gL,j*3+1,none⟩=some (.int .i64 y.r)) (v2:w2.cell? ⟨gL,j*3+2,none⟩=some (.slice ya y.len yc)) (hjn:(j:Int)<nl) (hxb:x.b=(j:Int)) (HU:Hid (TIn w2 Q u ua)) (HV:Hid (TIn w2 R y ya)) (HC:Hid (u.count≤100000)) (HQ:Hid (q=true↔u=y))
 (a:Act) (m:Nat) (hn:a.tmps.size=m) (hn':365≤m) (h0:a.tmps.getD 0 undef=.pointer (some ⟨b,0,none⟩)) (h3:a.tmps.getD 3 undef=.pointer (some ⟨X,0,none⟩)) (h12:a.tmps.getD 12 undef=.pointer (some ⟨B,0,none⟩)) :
 Code.wp Tryz.prog ((Tryz.f73.body.bind (Qj 43)).getD .skip) (fun e a' w'=>e=.normal∧∃ vs,a'=Q5 a vs [209,210,211,212,213,214,215,216,217,218,219]∧vs 219=.bool (!q)∧Below w2.heap.size w2 w') a w2:=by
 conv=>arg 2;whnf
 refine Qx (Qll b X B gL nl cL j uc yc u y ua ya q) (fun w=>Below w2.heap.size w2 w) (fun w w'=>Below w.heap.size w w') (outs:=[0,3,12]) (gs:=[]) (bs:=[true,true,true,true,true,true,true,true,true,true,true]) (by kernel_rfl) (n:=365) hn hn' (by kernel_rfl) ?hR ?hG (Qf (Below.refl _ _) 1) ⟨h0,h3,h12,trivial⟩ ?hA ?hend
 case hR=>exact fun t v w w' _ h=>h
 case hG=>exact trivial
 case hend=>exact fun vs w' hW hk=>⟨rfl,vs,rfl,hk 219 (by kernel_rfl),hW⟩
 case hA =>
  refine⟨fun a w hW hk K hK=>?_,?_⟩
  ·obtain⟨k0,-⟩:=hk
   have k0:a.tmps.getD 12 undef=.pointer (some ⟨B,0,none⟩):=k0;have c0:=Qi e0 hW;have c1:=Qi e1 hW;have c2:=Qi e2 hW;go_simp;exact hK _ _ (Below.refl _ _) hW rfl
  refine⟨fun a w hW hk K hK=>?_,?_⟩
  ·obtain⟨k0,-⟩:=hk
   have k0:a.tmps.getD 0 undef=.pointer (some ⟨b,0,none⟩):=k0;go_simp;exact hK _ _ (Below.refl _ _) hW rfl
  refine⟨fun a w hW hk K hK=>?_,?_⟩
  ·obtain⟨k0,-⟩:=hk
   have k0:a.tmps.getD 210 undef=.pointer (some ⟨b,0,none⟩):=k0;go_simp;exact hK _ _ (Below.refl _ _) hW rfl
  refine⟨fun a w hW hk K hK=>?_,?_⟩
  ·obtain⟨k0,-⟩:=hk
   have k0:a.tmps.getD 211 undef=.pointer (some ⟨b,0,none⟩):=k0;go_simp;exact hK _ _ (Below.refl _ _) hW rfl
  refine⟨fun a w hW hk K hK=>?_,?_⟩
  ·obtain⟨k0,-⟩:=hk
   have k0:a.tmps.getD 212 undef=.pointer (some ⟨b,6,none⟩):=k0;have c0:=Qi y0 hW;go_simp;exact hK _ _ (Below.refl _ _) hW rfl
  refine⟨fun a w hW hk K hK=>?_,?_⟩
  ·obtain⟨k0,-⟩:=hk
   have k0:a.tmps.getD 3 undef=.pointer (some ⟨X,0,none⟩):=k0;go_simp;exact hK _ _ (Below.refl _ _) hW rfl
  refine⟨fun a w hW hk K hK=>?_,?_⟩
  ·obtain⟨k0,-⟩:=hk
   have k0:a.tmps.getD 214 undef=.pointer (some ⟨X,2,none⟩):=k0;have c0:=(HS.out.below hW).cells.2.2.1;rw[hxb] at c0
   go_simp;exact hK _ _ (Below.refl _ _) hW rfl
  refine⟨fun a w hW hk K hK=>?_,?_⟩
  ·obtain⟨k0,k1,-⟩:=hk
   have k0:a.tmps.getD 213 undef=.slice (some ⟨gL,0,none⟩) nl cL:=k0;have k1:a.tmps.getD 215 undef=.int .i64 (j:Int):=k1;go_simp;exact hK _ _ (Below.refl _ _) hW rfl
  refine⟨fun a w hW hk K hK=>?_,?_⟩
  ·obtain⟨k0,-⟩:=hk
   have k0:a.tmps.getD 216 undef=.pointer (some ⟨gL,j*3,none⟩):=k0;have c0:=Qi v0 hW;have c1:=Qi v1 hW;have c2:=Qi v2 hW;go_simp;exact hK _ _ (Below.refl _ _) hW rfl
  refine⟨fun a w hW hk K hK=>?_,?_⟩
  ·obtain⟨k0,k1,-⟩:=hk
   have k0:a.tmps.getD 209 undef=.agg #[.int .i64 u.kind,.int .i64 u.r,.slice ua u.len uc]:=k0;have k1:a.tmps.getD 217 undef=.agg #[.int .i64 y.kind,.int .i64 y.r,.slice ya y.len yc]:=k1;go_simp;refine(samet_any 6 u y ua ya uc yc w (HU.out.below hW).all (HV.out.below hW).all HC.out).mono ?_;rintro r7 w7 ⟨⟨q7,rfl,hq7⟩,b7⟩
   have eq7:q7=q:=Bool.eq_iff_iff.2 (hq7.trans HQ.out.symm);subst eq7;go_simp;exact hK _ _ b7 (hW.trans (b7.mono hW.size)) rfl
  refine⟨fun a w hW hk K hK=>?_,?_⟩
  ·obtain⟨k0,-⟩:=hk
   have k0:a.tmps.getD 218 undef=.bool q:=k0;go_simp;exact hK _ _ (Below.refl _ _) hW rfl
  trivial
theorem Qgx {w:World}{b:Nat}{O:Nat→Prop}{s:JSt}{x:Qz}{rg ag:Option Addr}{rc ac:Nat}(hO:∀ k,O k→k<w.heap.size) (hJ:JOk s) (h:KAt w b O s) (hk0:0≤x.k∧x.k≤7) (hop:x.op=7) :
 Calls Tryz.prog 73 #[.pointer (some ⟨b,0,none⟩),Qau x rg ag rc ac] w fun e w'=>QQ w O (s.makes x).1 (s.makes x).2 e w':=by
 have E:Hid (s.makes x=(match s.at x.a with
  | none=>(1,[])
  | some t=>if s.want x.a 3 true=0 then (match t.2.2[x.k.toNat]? with
   | none=>(9,[])
   | some u=>(match s.at x.b with
    | none=>(1,[])
    | some v=>if bdec (u.at 5=v) then (0,[]) else (9,[])))
   else (s.want x.a 3 true,[]))):=QbC hop
 have S0:=Qa (MkS.start x rg ag rc ac hO hJ h);obtain⟨xop,xa,xb,xc,xk,xn,xr,xs⟩:=x
 simp only at hop
 subst hop;clear h;go_enter Tryz.func73,Tryz.ntmps73
 go_upto_region 33 with fail
 obtain⟨w2,hw2⟩:∃ w2,(w.alloc (.cells #[.int .i64 7,.int .i64 xa,.int .i64 xb,.int .i64 xc,.int .i64 xk,.int .i64 xn,.slice rg xr.length rc,.slice ag xs.length ac] 59)).alloc (.cells #[.int .i64 1,.int .i64 0,.slice none 0 0] 79)=w2:=⟨_,rfl⟩
 obtain⟨X,hX⟩:∃ X,w.heap.size=X:=⟨_,rfl⟩
 have S2:Hid (MkS w w2 b X O s ⟨7,xa,xb,xc,xk,xn,xr,xs⟩ rg ag rc ac (some ⟨X+1,0,none⟩)):=by rw[← hw2,← hX];exact S0.out
 rw[hw2,hX]
 clear hw2 hX S0;obtain⟨x0,x1,x2,x3,x4,x6,x7⟩:=S2.out.cells
 have hH16:=S2.out.ok.regs;have hL80:=S2.out.ok.vals;go_wp2_with fail
 refine(Q6 xa 3 true S2.out.ok.regs S2.out.ok.vals S2.out.known).mono ?_
 rintro e w3 ⟨rfl,n3,hw3⟩;have S3:Hid (MkS w w3 b X O s ⟨7,xa,xb,xc,xk,xn,xr,xs⟩ rg ag rc ac (some ⟨X+1,0,none⟩)):=S2.out.below (by rw[hw3];exact Qf (Below.refl _ _) n3);clear hw3 S2 x0 x1 x2 x3 x4 x6 x7;have S2:=S3;clear S3;obtain⟨x0,x1,x2,x3,x4,x6,x7⟩:=S2.out.cells
 simp only at x0 x1 x2 x3 x4 x6 x7 hk0
 cases hat:s.at xa with
 | none =>
  have hw:s.want xa 3 true=1:=by unfold JSt.want;rw[hat]
  have E2:Hid (s.makes ⟨7,xa,xb,xc,xk,xn,xr,xs⟩=(1,[])):=by
   show _=_;rw[E.out];simp only[hat]
  rw[hw]
  clear E hw hat;go_wp2
  go_ret2;rw[E2.out]
  exact QQ.nil S2.out.bel
 | some t =>
  by_cases hw:s.want xa 3 true=0
  ·obtain⟨k,rfl⟩:=Int.eq_ofNat_of_zero_le hk0.1
   obtain⟨-,ha0,hal,hti⟩:=Qax hat
   obtain⟨i,rfl⟩:=Int.eq_ofNat_of_zero_le ha0
   obtain⟨pm,cm,a1,c1,a2,c2,a3,c3,hh,aL,cL,R⟩:=S2.out.known.read
   obtain⟨q0,q1,q2,q3,q4,q5,q6⟩:=R.cells
   obtain⟨gL,va,vc,rfl,v0,v1,v2,v3,hok⟩:=R.row i t (by simpa using hti)
   have HRW:Hid (TRd w3 (fun g=>¬ O g) (some ⟨gL,0,none⟩) s.L):=R.row;clear R q0 q1 q2 q3 q4 q5 v0 v1;have hlen:t.len=t.2.2.length:=rfl
   cases hu:t.2.2[k]? with
   | none =>
    have E2:Hid (s.makes ⟨7,(i:Int),xb,xc,(k:Int),xn,xr,xs⟩=(9,[])):=by
     show _=_;rw[E.out];simp only[hat,if_pos hw,Int.toNat_natCast,hu]
    have hge:(t.len:Int)≤k:=by rw[hlen];have:=List.getElem?_eq_none_iff.1 hu;omega
    rw[hw]
    clear E hw hat hu hlen hti;generalize t.len=tl at v2 hge;generalize hnl:s.L.length=nl at q6 hal hL80;go_wp2_with fail
    go_quiet (fail)
    go_wp2
    go_ret2;rw[E2.out]
    exact QQ.nil (Qf S2.out.bel _)
   | some u =>
    have hlt:(k:Int)<t.len:=by rw[hlen];have:=(List.getElem?_eq_some_iff.1 hu).1;omega
    obtain⟨gk,okk,ua,uc,rfl,-,u0,u1,u2,u3⟩:=v3 k u hu
    have hua:u.ok:=hok.2 u (List.mem_of_getElem? hu);have HU:Hid (TIn w3 (fun g=>¬ O g) u ua∧u.ok):=⟨u3,hua⟩
    have HCU:Hid ((u.at 5).count≤100000):=by
     have h1:=QZ (S2.out.ok.types t (Qax hat).1);have h2:=t.count_kid (List.mem_of_getElem? hu);have h3:=TT.at_count 5 u;show _≤_;omega
    have E2:Hid (s.makes ⟨7,(i:Int),xb,xc,(k:Int),xn,xr,xs⟩=(match s.at xb with | none=>(1,[]) | some v=>if bdec (u.at 5=v) then (0,[]) else (9,[]))):=by
     show _=_;rw[E.out];simp only[hat,if_pos hw,Int.toNat_natCast,hu]
    have hge:¬ (t.len:Int)≤k:=by omega
    rw[hw]
    clear E hw hat hu hlen hti v3 hok u3 hua;generalize t.len=tl at v2 hge hlt;generalize hnl:s.L.length=nl at q6 hal hL80;have HNL:Hid (s.L.length=nl):=hnl;clear hnl;go_wp2_with fail
    go_quiet (fail)
    have S4:=Qa (S2.out.below (Qf (Below.refl _ _) nq));have b4:Below w3.heap.size w3 (w3.drewN nq):=Qf (Below.refl _ _) nq;have HU4:Hid (TIn (w3.drewN nq) (fun g=>¬ O g) u ua∧u.ok):=⟨HU.out.1.below b4,HU.out.2⟩;have HRW4:Hid (TRd (w3.drewN nq) (fun g=>¬ O g) (some ⟨gL,0,none⟩) s.L):=HRW.out.below b4;have q6':=Qi q6 b4;have v2':=Qi v2 b4;have u0':=Qi u0 b4;have u1':=Qi u1 b4;have u2':=Qi u2 b4;clear b4;generalize w3.drewN nq=w4 at S4 HU4 HRW4 q6' v2' u0' u1' u2' ⊢;clear q6 v2 u0 u1 u2 HU HRW S2 x0 x1 x2 x3 x4 x6 x7;have S2:=S4;clear S4;obtain⟨x0,x1,x2,x3,x4,x6,x7⟩:=S2.out.cells
    simp only at x0 x1 x2 x3 x4 x6 x7
    go_upto_region 38 with fail
    refine Qlp S2 q6' v2' u0' u1' u2' hal hlt rfl rfl _ _ rfl (Nat.le_of_ble_eq_true (by kernel_rfl)) rfl rfl ?_;rintro ops vs w5 hv190 ⟨B,hv12,hB,hBb⟩ b5;show wpList _ ops _ [_] (Q5 _ vs [178,179,180,181,182,183,184,185,186,187,188,189,190,12]) w5;simp only[Q5,Act.put,List.setIfInBounds_toArray,List.set_cons_zero,List.set_cons_succ,hv190,hv12]
    have B6:Hid (Blk (((w5.setCell ⟨B,0,none⟩ (.int .i64 u.kind)).setCell ⟨B,1,none⟩ (.int .i64 u.r)).setCell ⟨B,2,none⟩ (.slice ua u.len uc)) B #[.int .i64 u.kind,.int .i64 u.r,.slice ua u.len uc] 79):=Blk.set3 hBb _ _ _
    have b6:Hid (Below w4.heap.size w4 (((w5.setCell ⟨B,0,none⟩ (.int .i64 u.kind)).setCell ⟨B,1,none⟩ (.int .i64 u.r)).setCell ⟨B,2,none⟩ (.slice ua u.len uc))) :=
     ((b5.setCell (p:=⟨B,0,none⟩) hB _).setCell (p:=⟨B,1,none⟩) hB _).setCell (p:=⟨B,2,none⟩) hB _
    have e0:=Qb hBb 0 _ rfl;have e1:=Qb hBb 1 _ rfl;have e2:=Qb hBb 2 _ rfl;have ef:∀ i,w5.frozen? ⟨B,i,none⟩=false:=fun i=>Qp hBb i;clear hBb hB b5 hv190 hv12 q6' v2' u0' u1' u2';go_upto_region 39 with fail
    generalize (((w5.setCell ⟨B,0,none⟩ (.int .i64 u.kind)).setCell ⟨B,1,none⟩ (.int .i64 u.r)).setCell ⟨B,2,none⟩ (.slice ua u.len uc))=w6 at B6 b6 ⊢;have S6:=Qa (S2.out.below b6.out);have HU6:Hid (TIn w6 (fun g=>¬ O g) u ua∧u.ok):=⟨HU4.out.1.below b6.out,HU4.out.2⟩;have HRW6:Hid (TRd w6 (fun g=>¬ O g) (some ⟨gL,0,none⟩) s.L):=HRW4.out.below b6.out;clear S2 HU4 HRW4 e0 e1 e2 ef x0 x1 x2 x3 x4 x6 x7;have S2:=S6;clear S6;obtain⟨x0,x1,x2,x3,x4,x6,x7⟩:=S2.out.cells
    simp only at x0 x1 x2 x3 x4 x6 x7
    have e0:=Qb B6.out 0 _ rfl;have e1:=Qb B6.out 1 _ rfl;have e2:=Qb B6.out 2 _ rfl;have hhu:u.height≤5:=by have h9:u.height<5:=TT.height_lt u;omega
    rw[← TT.at_kind 5 u] at e0
    rw[← TT.at_r 5 u] at e1
    rw[← TT.at_len 5 u hhu] at e2
    have HU5:Hid (TIn w6 (fun g=>¬ O g) (u.at 5) ua):=HU6.out.1.at 5 hhu;have HC5:Hid ((u.at 5).count≤100000):=HCU.out;obtain⟨pm',cm',a1',c1',a2',c2',a3',c3',hh',aL',cL',R'⟩:=S2.out.known.read
    obtain⟨-,-,-,-,-,-,q6⟩:=R'.cells
    have HRW7:Hid (TRd w6 (fun g=>¬ O g) aL' s.L):=R'.row;rw[HNL.out] at q6
    clear R' HU6 HRW6 B6 hhu;generalize u.at 5=u6 at e0 e1 e2 HU5 HC5 E2;by_cases hb0:xb<0
    ·have hb0':decide (xb<0)=true:=decide_eq_true hb0
     have E3:Hid (s.makes ⟨7,(i:Int),xb,xc,(k:Int),xn,xr,xs⟩=(1,[])):=by
      show _=_
      have:s.at xb=none:=by unfold JSt.at;rw[if_pos hb0]
      rw[E2.out,this]
     clear E2 hb0;go_wp2_with fail
     go_quiet (fail)
     go_wp2
     go_ret2;rw[E3.out]
     exact QQ.nil (Qf S2.out.bel _)
    obtain⟨j,rfl⟩:=Int.eq_ofNat_of_zero_le (show 0≤xb by omega)
    have hb0':decide ((j:Int)<0)=false:=decide_eq_false (by omega);by_cases hjn:j<nl
    ·have hvj:s.L[j]?=some (s.L[j]'(by rw[HNL.out];exact hjn)):=List.getElem?_eq_getElem _;generalize s.L[j]'(by rw[HNL.out];exact hjn)=y at hvj;have hatb:s.at (j:Int)=some y:=by unfold JSt.at;rw[if_neg hb0];exact hvj
     have E3:Hid (s.makes ⟨7,(i:Int),(j:Int),xc,(k:Int),xn,xr,xs⟩=if bdec (u6=y) then (0,[]) else (9,[])):=by
      show _=_;rw[E2.out,hatb]
     obtain⟨gY,ya,yc,rfl,v0,v1,v2,v3,-⟩:=HRW7.out j y hvj
     have hjn':decide ((nl:Int)≤j)=false:=decide_eq_false (by omega);have hjn2:(j:Int)<nl:=by omega
     have HY:Hid (TIn w6 (fun g=>¬ O g) y ya):=v3;clear E2 hb0 hvj hatb v3 HRW7;go_wp2_with fail
     go_quiet (fail)
     have b7:Below w6.heap.size w6 (w6.drewN nq):=Qf (Below.refl _ _) nq;have S7:=Qa (S2.out.below b7);have HU7:Hid (TIn (w6.drewN nq) (fun g=>¬ O g) u6 ua):=HU5.out.below b7;have HY7:Hid (TIn (w6.drewN nq) (fun g=>¬ O g) y ya):=HY.out.below b7;have q6':=Qi q6 b7;have e0':=Qi e0 b7;have e1':=Qi e1 b7;have e2':=Qi e2 b7;have v0':=Qi v0 b7;have v1':=Qi v1 b7;have v2':=Qi v2 b7;clear b7 b6;generalize w6.drewN nq=w7 at S7 HU7 HY7 q6' e0' e1' e2' v0' v1' v2' ⊢;clear q6 e0 e1 e2 v0 v1 v2 S2 HU5 HY x0 x1 x2 x3 x4 x6 x7;have HQ:Hid (bdec (u6=y)=true↔u6=y):=ZW;go_upto_region 43 with fail
     refine Code.wp_mono ?_ (Ql2 S7 e0' e1' e2' q6' v0' v1' v2' hjn2 rfl HU7 HY7 HC5 HQ _ _ rfl (Nat.le_of_ble_eq_true (by kernel_rfl)) rfl rfl rfl);rintro ee aa w8 ⟨rfl,vs,rfl,hv,hb8⟩;simp only[Q5,Act.put,List.setIfInBounds_toArray,List.set_cons_zero,List.set_cons_succ,hv]
     have B8:=Qa (S7.out.below hb8).bel;clear hb8 hv HQ;generalize bdec (u6=y)=q at E3 ⊢
     cases q with
     | true =>
      go_wp2
      go_ret2;rw[E3.out]
      exact QQ.nil B8.out
     | false =>
      go_wp2
      go_ret2;rw[E3.out]
      exact QQ.nil B8.out
    ·have E3:Hid (s.makes ⟨7,(i:Int),(j:Int),xc,(k:Int),xn,xr,xs⟩=(1,[])):=by
      show _=_
      have:s.at (j:Int)=none:=by unfold JSt.at;rw[if_neg hb0,Int.toNat_natCast,List.getElem?_eq_none (by rw[HNL.out];omega)]
      rw[E2.out,this]
     have hjn':decide ((nl:Int)≤j)=true:=decide_eq_true (by omega);clear E2 hb0;go_wp2_with fail
     go_quiet (fail)
     go_wp2
     go_ret2;rw[E3.out]
     exact QQ.nil (Qf S2.out.bel _)
  ·have hw':(s.want xa 3 true==0)=false:=beq_eq_false_iff_ne.2 hw
   have E2:Hid (s.makes ⟨7,xa,xb,xc,xk,xn,xr,xs⟩=(s.want xa 3 true,[])):=by
    show _=_;rw[E.out];simp only[hat,if_neg hw]
   have HW:=Qa hw;clear E hat hw;generalize s.want xa 3 true=c at E2 hw' HW ⊢;go_wp2
   go_ret2;rw[E2.out]
   exact QQ.nil S2.out.bel
structure Tup (wA wr:World) (B:Nat) (O:Nat→Prop) (r:Int) (v:Value) (l:List (TT 6)):Prop where
 bel:Below wA.heap.size wA wr
 hB:wA.heap.size≤B
 box:Blk wr B #[.int .i64 3,.int .i64 r,v] 79
 row:∃ xs,wr.ownsRow (B+1) 79 3 v l.length xs∧∀ i x,l[i]?=some x→(Lay.tt 6).In wr (fun g=>¬ O g∧g<wA.heap.size) x ((xs.drop (i*3)).take 3)
section
variable {wA wr w':World}{B:Nat}{O:Nat→Prop}{r:Int}{v:Value}{l:List (TT 6)}
theorem Tup.below (h:Tup wA wr B O r v l) (k:Below wr.heap.size wr w'):Tup wA w' B O r v l:=by
 obtain⟨h1,h2,h3,xs,⟨q1,q2⟩,h5⟩:=h
 refine⟨h1.trans (k.mono h1.size),h2,(k.block B (lt_of_block h3)).trans h3,xs,⟨q1,?_⟩,fun i x hx=>Lay.below (h5 i x hx) k⟩
 rcases q2 with h4 | ⟨g,cap,cur,rfl,hg,hh,q⟩
 ·exact Or.inl h4
 ·exact Or.inr ⟨g,cap,cur,rfl,hg,(k.block g (lt_of_block hh)).trans hh,q⟩
theorem Tup.form (h:Tup wA wr B O r v l):∃ a c xs,v=.slice a l.length c∧wr.ownsRow (B+1) 79 3 (.slice a l.length c) l.length xs∧(∀ i x,l[i]?=some x→(Lay.tt 6).In wr (fun g=>¬ O g∧g<wA.heap.size) x ((xs.drop (i*3)).take 3))∧wr.cell? ⟨B,2,none⟩=some (.slice a l.length c):=by
 obtain⟨h1,h2,h3,xs,h4,h5⟩:=h
 obtain⟨q1,q2⟩:=id h4
 rcases q2 with ⟨rfl,h6⟩|⟨g,cap,cur,rfl,hg,hh,q⟩
 ·refine⟨none,0,xs,by rw[h6],by rw[h6] at h4 ⊢;exact h4,h5,?_⟩
  rw[Qb h3 2 _ rfl,h6];rfl
 ·exact⟨some ⟨g,0,none⟩,cap,xs,rfl,h4,h5,Qb h3 2 _ rfl⟩
theorem Tup.tree (h:Tup wA wr B O r v l) (hO:∀ k,O k→k<wA.heap.size):∃ a c,v=.slice a l.length c∧TIn wr (fun g=>¬ O g) (mkT 3 r l:TT 7) a∧∀ x∈l,x.ok:=by
 obtain⟨a,c,xs,rfl,h4,h5,-⟩:=h.form
 refine⟨a,c,rfl,fun i x hx=>?_,fun x hx=>?_⟩
 ·obtain⟨q1,q2⟩:=h4
  have hi:i<l.length:=(List.getElem?_eq_some_iff.1 hx).1;rcases q2 with ⟨_,h6⟩|⟨g,cap,cur,e,hg,hh,hn,hm,hs,ht⟩
  ·omega
  ·obtain⟨a',c',e',k1,k2⟩:=h5 i x hx
   have hB:=h.hB
   have hc:∀ j u,j<3→((xs.drop (i*3)).take 3)[j]?=some u→wr.cell? ⟨g,i*3+j,none⟩=some u:=fun j u hj hu=>by
    rw[List.getElem?_take,if_pos hj,List.getElem?_drop,← ht,List.getElem?_take,if_pos (by omega),Array.getElem?_toList] at hu
    exact Qb hh _ u hu
   rw[e'] at hc
   simp only[Value.slice.injEq] at e
   refine⟨g,0,a',c',e.1,fun ho=>by have:=hO g ho;omega,?_,?_,?_,k1.mono (fun k hk _=>hk.1)⟩
   ·rw[Nat.zero_add];exact hc 0 _ (by omega) rfl
   ·rw[Nat.zero_add];exact hc 1 _ (by omega) rfl
   ·rw[Nat.zero_add];exact hc 2 _ (by omega) rfl
 ·obtain⟨i,hi⟩:=List.getElem?_of_mem hx
  obtain⟨a',c',e',k1,k2⟩:=h5 i x hi
  exact k2
theorem Tup.push {a:Option Addr}{c g cap:Nat}{xs:List Value}{w9:World}{t:TT 6}{ta:Option Addr}{tc:Nat}(hbel:Below wA.heap.size wA wr) (hB:wA.heap.size≤B) (hbox:Blk wr B #[.int .i64 3,.int .i64 r,.slice a l.length c] 79)
 (hkids:∀ i x,l[i]?=some x→(Lay.tt 6).In wr (fun g=>¬ O g∧g<wA.heap.size) x ((xs.drop (i*3)).take 3)) (hlen:xs.length=l.length*3) (ht:TIn wr (fun g=>¬ O g∧g<wA.heap.size) t ta) (hok:t.ok) (hown:∀ k,(Value.slice a l.length c).ownBlock=some k→B+1≤k)
 (h1:w9.ownsRow (B+1) 79 3 (.slice (some ⟨g,0,none⟩) (l.length+1) cap) (l.length+1) (xs++[.int .i64 t.kind,.int .i64 t.r,.slice ta t.len tc])) (h2:wr.grownBy w9 (Value.slice a l.length c).ownBlock) :
 w9.cell? ⟨B,2,none⟩=some (.slice a l.length c)∧w9.frozen? ⟨B,2,none⟩=false∧Tup wA (w9.setCell ⟨B,2,none⟩ (.slice (some ⟨g,0,none⟩) (l.length+1) cap)) B O r (.slice (some ⟨g,0,none⟩) (l.length+1) cap) (l++[t]):=by
 have hBl:B<wr.heap.size:=lt_of_block hbox;have kb:w9.heap[B]?=some (.cells #[.int .i64 3,.int .i64 r,.slice a l.length c] 79 (0,0)):=(h2.block B hBl (fun e=>by have:=hown B e.symm;omega)).trans hbox
 have keep9:∀ {x:TT 6} {cs:List Value},(Lay.tt 6).In wr (fun g=>¬ O g∧g<wA.heap.size) x cs→(Lay.tt 6).In (w9.setCell ⟨B,2,none⟩ (.slice (some ⟨g,0,none⟩) (l.length+1) cap)) (fun g=>¬ O g∧g<wA.heap.size) x cs:=fun {x cs} hx =>
  (Lay.tt 6).keep (fun k hk hl=>(Below.heap_setCell _ _ _ _ (show k≠B by have:=hk.2;omega)).trans (h2.block k hl (fun e=>by have:=hown k e.symm;have:=hk.2;omega))) (fun _ hk _=>hk) hx
 refine⟨Qb kb 2 _ rfl,Qp kb 2,?_,hB,?_,xs++[.int .i64 t.kind,.int .i64 t.r,.slice ta t.len tc],?_,?_⟩
 ·refine⟨h2.os.trans hbel.os,h2.tape.trans hbel.tape,h2.output.trans hbel.output,by have:=h2.size;have:=hbel.size;simp;omega,fun k hk=>?_⟩
  have hbs:=hbel.size;rw[Below.heap_setCell _ _ _ _ (show k≠B by omega),h2.block k (by omega) (fun e=>by have:=hown k e.symm;omega)]
  exact hbel.block k hk
 ·show (w9.setCell ⟨B,2,none⟩ _).heap[B]?=_;rw[Qo kb];rfl
 ·obtain⟨q1,q2⟩:=h1
  rw[List.length_append]
  refine⟨q1,?_⟩
  rcases q2 with ⟨e,_⟩|⟨g',cap',cur,e,hg,hh,q⟩
  ·cases e
  ·cases e
   exact Or.inr ⟨g,cap,cur,rfl,hg,(Below.heap_setCell _ _ _ _ (show g≠B by omega)).trans hh,q⟩
 ·intro i x hx;rw[List.getElem?_append] at hx
  split at hx
  ·rename_i hi
   rw[List.drop_append_of_le_length (by omega),List.take_append_of_le_length (by simp;omega)]
   exact keep9 (hkids i x hx)
  ·rename_i hi
   have hil:=(List.getElem?_eq_some_iff.1 hx).1;have hi2:i=l.length:=by simp at hil;omega
   subst hi2;rw[Nat.sub_self] at hx
   have hx:t=x:=by simpa using hx
   subst hx;rw[List.drop_append,List.drop_of_length_le (by omega),hlen,Nat.sub_self,List.drop_zero,List.nil_append]
   exact keep9 ⟨ta,tc,rfl,ht,hok⟩
end
theorem QcM {s:JSt}{l:List Int}{k:Nat}{x:Int}(hx:l[k]?=some x):s.fields (l.drop k)=match s.at x with
 | none=>none
 | some t=>match s.fields (l.drop (k+1)) with
  | none=>none
  | some r=>some (t::r):=by
 obtain⟨hk,e⟩:=List.getElem?_eq_some_iff.1 hx
 rw[List.drop_eq_getElem_cons hk,e,JSt.fields]
 cases s.at x with
 | none=>rfl
 | some t=>cases s.fields (l.drop (k+1))<;>rfl
theorem Qb8 {s:JSt}{l:List Int}:∀ (k:Nat) (ts:List (TT 6)),k≤l.length→ts.length=k→(∀ (i:Nat) (x:Int),l[i]?=some x→i<k→s.at x=ts[i]?)→s.fields l=(s.fields (l.drop k)).map (ts++·)
 | 0,ts,_,h,_=>by
  have:ts=[]:=List.length_eq_zero_iff.1 h
  subst this;simp
 | k+1,ts,hk,h,hs=>by
  have hk':k<l.length:=by omega
  have hx:l[k]?=some l[k]:=List.getElem?_eq_getElem hk';have ht:ts[k]?=some (ts[k]'(by omega)):=List.getElem?_eq_getElem _;have ih:=Qb8 (s:=s) (l:=l) k (ts.take k) (by omega) (by rw[List.length_take];omega) (fun i x hi hik=>by rw[hs i x hi (by omega),List.getElem?_take,if_pos hik]);rw[ih,QcM hx,hs k _ hx (by omega),ht]
  simp only
  cases s.fields (l.drop (k+1)) with
  | none=>rfl
  | some r =>
   simp only[Option.map_some]
   congr 1
   have:ts=ts.take k++[ts[k]'(by omega)]:=by
    have h1:=List.take_append_drop k ts;rw[List.drop_eq_getElem_cons (by omega),List.drop_of_length_le (by omega)] at h1
    exact h1.symm
   rw[← List.singleton_append,← List.append_assoc,← this]
def QkO (w2:World) (b X gL nl cL i:Nat) (r:Int) (t:Tmp) (v:Value) (w:World):Prop :=
 match ([(9,fun v w=>∃ B,v=.pointer (some ⟨B,0,none⟩)∧w2.heap.size≤B∧Blk w B #[.int .i64 0,.int .i64 0,.slice none 0 0] 79)]:List (Tmp × (Value→World→Prop))).lookup t with
 | some p=>p v w
 | none=>v=(([(0,.pointer (some ⟨b,0,none⟩)),(3,.pointer (some ⟨X,0,none⟩)),(98,.pointer (some ⟨b,0,none⟩)),(99,.pointer (some ⟨b,0,none⟩)),(100,.pointer (some ⟨b,6,none⟩)),(101,.slice (some ⟨gL,0,none⟩) nl cL),(102,.pointer (some ⟨X,1,none⟩)),(103,.int .i64 (i:Int)),(104,.pointer (some ⟨gL,i*3,none⟩)),(105,.pointer (some ⟨gL,i*3+1,none⟩)),(106,.int .i64 r),(107,.agg #[.int .i64 3,.int .i64 r,.slice none 0 0])]:List (Tmp × Value)).lookup t).getD undef
theorem QlD {w w2:World}{b X:Nat}{O:Nat→Prop}{s:JSt}{x:Qz}{rg ag:Option Addr}{rc ac:Nat}{na:Option Addr}(HS:Hid (MkS w w2 b X O s x rg ag rc ac na)){gL nl cL i:Nat}{r:Int}(y0:w2.cell? ⟨b,6,none⟩=some (.slice (some ⟨gL,0,none⟩) nl cL)) (v1:w2.cell? ⟨gL,i*3+1,none⟩=some (.int .i64 r)) (hin:(i:Int)<nl) (hxa:x.a=(i:Int)){Q:Exit→Act→World→Prop}
 (a:Act) (m:Nat) (hn:a.tmps.size=m) (hn':365≤m) (h0:a.tmps.getD 0 undef=.pointer (some ⟨b,0,none⟩)) (h3:a.tmps.getD 3 undef=.pointer (some ⟨X,0,none⟩))
 (hend:∀ ops vs w',vs 107=.agg #[.int .i64 3,.int .i64 r,.slice none 0 0]→(fun v w=>∃ B,v=.pointer (some ⟨B,0,none⟩)∧w2.heap.size≤B∧Blk w B #[.int .i64 0,.int .i64 0,.slice none 0 0] 79) (vs 9) w'→Below w2.heap.size w2 w'→wpList Tryz.prog ops Q (QcZ 11 ((Tryz.f73.body.bind (Qj 21)).getD .skip)) (Q5 a vs [98,99,100,101,102,103,104,105,106,107,9]) w') :
 Code.wp Tryz.prog ((Tryz.f73.body.bind (Qj 21)).getD .skip) Q a w2:=by
 conv=>arg 2;whnf
 refine Qr 11 (QkO w2 b X gL nl cL i r) (fun w=>Below w2.heap.size w2 w) (fun w w'=>Below w.heap.size w w') (outs:=[0,3]) (gs:=[]) (bs:=[true,true,true,true,true,true,true,true,true,true,true]) (by kernel_rfl) (n:=365) hn hn' (by kernel_rfl) (by kernel_rfl) ?hR ?hG (Qf (Below.refl _ _) 1) ⟨h0,h3,trivial⟩ ?hA ?hend
 case hR =>
  intro t v w w' hr h;unfold QkO at h ⊢;split at h
  ·rename_i p hp
   simp only[List.lookup_cons,List.lookup_nil] at hp
   split at hp
   ·cases hp;exact(by obtain⟨B,e,h1,h2⟩:=h;exact⟨B,e,h1,(hr.block B (lt_of_block h2)).trans h2⟩)
   ·cases hp
  ·exact h
 case hG=>exact trivial
 case hend=>exact fun ops vs w' hW hk=>hend ops vs w' (hk 107 (by kernel_rfl)) (hk 9 (by kernel_rfl)) hW
 case hA =>
  refine⟨fun a w hW hk K hK=>?_,?_⟩
  ·obtain⟨k0,-⟩:=hk
   have k0:a.tmps.getD 0 undef=.pointer (some ⟨b,0,none⟩):=k0;go_simp;exact hK _ _ (Below.refl _ _) hW rfl
  refine⟨fun a w hW hk K hK=>?_,?_⟩
  ·obtain⟨k0,-⟩:=hk
   have k0:a.tmps.getD 98 undef=.pointer (some ⟨b,0,none⟩):=k0;go_simp;exact hK _ _ (Below.refl _ _) hW rfl
  refine⟨fun a w hW hk K hK=>?_,?_⟩
  ·obtain⟨k0,-⟩:=hk
   have k0:a.tmps.getD 99 undef=.pointer (some ⟨b,0,none⟩):=k0;go_simp;exact hK _ _ (Below.refl _ _) hW rfl
  refine⟨fun a w hW hk K hK=>?_,?_⟩
  ·obtain⟨k0,-⟩:=hk
   have k0:a.tmps.getD 100 undef=.pointer (some ⟨b,6,none⟩):=k0;have c0:=Qi y0 hW;go_simp;exact hK _ _ (Below.refl _ _) hW rfl
  refine⟨fun a w hW hk K hK=>?_,?_⟩
  ·obtain⟨k0,-⟩:=hk
   have k0:a.tmps.getD 3 undef=.pointer (some ⟨X,0,none⟩):=k0;go_simp;exact hK _ _ (Below.refl _ _) hW rfl
  refine⟨fun a w hW hk K hK=>?_,?_⟩
  ·obtain⟨k0,-⟩:=hk
   have k0:a.tmps.getD 102 undef=.pointer (some ⟨X,1,none⟩):=k0;have c0:=(HS.out.below hW).cells.2.1;rw[hxa] at c0
   go_simp;exact hK _ _ (Below.refl _ _) hW rfl
  refine⟨fun a w hW hk K hK=>?_,?_⟩
  ·obtain⟨k0,k1,-⟩:=hk
   have k0:a.tmps.getD 101 undef=.slice (some ⟨gL,0,none⟩) nl cL:=k0;have k1:a.tmps.getD 103 undef=.int .i64 (i:Int):=k1;go_simp;exact hK _ _ (Below.refl _ _) hW rfl
  refine⟨fun a w hW hk K hK=>?_,?_⟩
  ·obtain⟨k0,-⟩:=hk
   have k0:a.tmps.getD 104 undef=.pointer (some ⟨gL,i*3,none⟩):=k0;go_simp;exact hK _ _ (Below.refl _ _) hW rfl
  refine⟨fun a w hW hk K hK=>?_,?_⟩
  ·obtain⟨k0,-⟩:=hk
   have k0:a.tmps.getD 105 undef=.pointer (some ⟨gL,i*3+1,none⟩):=k0;have c0:=Qi v1 hW;go_simp;exact hK _ _ (Below.refl _ _) hW rfl
  refine⟨fun a w hW hk K hK=>?_,?_⟩
  ·obtain⟨k0,-⟩:=hk
   have k0:a.tmps.getD 106 undef=.int .i64 r:=k0;simp only[Array.getD_eq_getD_getElem?] at k0
   go_simp;exact hK _ _ (Below.refl _ _) hW rfl
  refine⟨fun a w hW hk K hK=>?_,?_⟩
  ·clear hk;go_simp;exact hK _ _ (QO _ _) (hW.alloc hW.size _) ⟨_,rfl,hW.size,Qe _ _ _⟩
  trivial
def Qkn (w2:World) (b X B tn tc gL nl cL lg lo N lc k j uc:Nat) (u:TT 6) (ta ua:Option Addr) (t:Tmp) (v:Value) (w:World):Prop :=
 match ([(147,fun v w=>∃ G,v=.slice (some ⟨G,0,none⟩) 1 1∧w2.heap.size≤G∧Blk w G #[.int .i64 u.kind,.int .i64 u.r,.slice ua u.len uc] 79)]:List (Tmp × (Value→World→Prop))).lookup t with
 | some p=>p v w
 | none=>v=(([(0,.pointer (some ⟨b,0,none⟩)),(3,.pointer (some ⟨X,0,none⟩)),(9,.pointer (some ⟨B,0,none⟩)),(10,.int .i64 (k:Int)),(134,.pointer (some ⟨B,2,none⟩)),(135,.slice ta tn tc),(136,.pointer (some ⟨b,0,none⟩)),(137,.pointer (some ⟨b,0,none⟩)),(138,.pointer (some ⟨b,6,none⟩)),(139,.slice (some ⟨gL,0,none⟩) nl cL),(140,.pointer (some ⟨X,7,none⟩)),(141,.slice (some ⟨lg,lo,none⟩) N lc),(142,.int .i64 (k:Int)),(143,.pointer (some ⟨lg,lo+k,none⟩)),(144,.int .i64 (j:Int)),(145,.pointer (some ⟨gL,j*3,none⟩)),(146,.agg #[.int .i64 u.kind,.int .i64 u.r,.slice ua u.len uc])]:List (Tmp × Value)).lookup t).getD undef
theorem QlX {w2:World}{b X B tn tc gL nl cL lg lo N lc k j uc:Nat}{u:TT 6}{ta ua:Option Addr}(t2:w2.cell? ⟨B,2,none⟩=some (.slice ta tn tc)) (y0:w2.cell? ⟨b,6,none⟩=some (.slice (some ⟨gL,0,none⟩) nl cL)) (l7:w2.cell? ⟨X,7,none⟩=some (.slice (some ⟨lg,lo,none⟩) N lc)) (z0:w2.cell? ⟨lg,lo+k,none⟩=some (.int .i64 (j:Int))) (v0:w2.cell? ⟨gL,j*3,none⟩=some (.int .i64 u.kind)) (v1:w2.cell? ⟨gL,j*3+1,none⟩=some (.int .i64 u.r)) (v2:w2.cell? ⟨gL,j*3+2,none⟩=some (.slice ua u.len uc)) (hkN:(k:Int)<N) (hjn:(j:Int)<nl){Q:Exit→Act→World→Prop}
 (a:Act) (m:Nat) (hn:a.tmps.size=m) (hn':365≤m) (h0:a.tmps.getD 0 undef=.pointer (some ⟨b,0,none⟩)) (h3:a.tmps.getD 3 undef=.pointer (some ⟨X,0,none⟩)) (h9:a.tmps.getD 9 undef=.pointer (some ⟨B,0,none⟩)) (h10:a.tmps.getD 10 undef=.int .i64 (k:Int))
 (hend:∀ ops vs w',vs 135=.slice ta tn tc→(fun v w=>∃ G,v=.slice (some ⟨G,0,none⟩) 1 1∧w2.heap.size≤G∧Blk w G #[.int .i64 u.kind,.int .i64 u.r,.slice ua u.len uc] 79) (vs 147) w'→Below w2.heap.size w2 w'→wpList Tryz.prog ops Q (QcZ 14 ((Tryz.f73.body.bind (Qj 27)).getD .skip)) (Q5 a vs [134,135,136,137,138,139,140,141,142,143,144,145,146,147]) w') :
 Code.wp Tryz.prog ((Tryz.f73.body.bind (Qj 27)).getD .skip) Q a w2:=by
 conv=>arg 2;whnf
 refine Qr 14 (Qkn w2 b X B tn tc gL nl cL lg lo N lc k j uc u ta ua) (fun w=>Below w2.heap.size w2 w) (fun w w'=>Below w.heap.size w w') (outs:=[0,3,9,10]) (gs:=[]) (bs:=[true,true,true,true,true,true,true,true,true,true,true,true,true,true]) (by kernel_rfl) (n:=365) hn hn' (by kernel_rfl) (by kernel_rfl) ?hR ?hG (Qf (Below.refl _ _) 1) ⟨h0,h3,h9,h10,trivial⟩ ?hA ?hend
 case hR =>
  intro t v w w' hr h;unfold Qkn at h ⊢;split at h
  ·rename_i p hp
   simp only[List.lookup_cons,List.lookup_nil] at hp
   split at hp
   ·cases hp;exact(by obtain⟨G,e,h1,h2⟩:=h;exact⟨G,e,h1,(hr.block G (lt_of_block h2)).trans h2⟩)
   ·cases hp
  ·exact h
 case hG=>exact trivial
 case hend=>exact fun ops vs w' hW hk=>hend ops vs w' (hk 135 (by kernel_rfl)) (hk 147 (by kernel_rfl)) hW
 case hA =>
  refine⟨fun a w hW hk K hK=>?_,?_⟩
  ·obtain⟨k0,-⟩:=hk
   have k0:a.tmps.getD 9 undef=.pointer (some ⟨B,0,none⟩):=k0;go_simp;exact hK _ _ (Below.refl _ _) hW rfl
  refine⟨fun a w hW hk K hK=>?_,?_⟩
  ·obtain⟨k0,-⟩:=hk
   have k0:a.tmps.getD 134 undef=.pointer (some ⟨B,2,none⟩):=k0;have c0:=Qi t2 hW;go_simp;exact hK _ _ (Below.refl _ _) hW rfl
  refine⟨fun a w hW hk K hK=>?_,?_⟩
  ·obtain⟨k0,-⟩:=hk
   have k0:a.tmps.getD 0 undef=.pointer (some ⟨b,0,none⟩):=k0;go_simp;exact hK _ _ (Below.refl _ _) hW rfl
  refine⟨fun a w hW hk K hK=>?_,?_⟩
  ·obtain⟨k0,-⟩:=hk
   have k0:a.tmps.getD 136 undef=.pointer (some ⟨b,0,none⟩):=k0;go_simp;exact hK _ _ (Below.refl _ _) hW rfl
  refine⟨fun a w hW hk K hK=>?_,?_⟩
  ·obtain⟨k0,-⟩:=hk
   have k0:a.tmps.getD 137 undef=.pointer (some ⟨b,0,none⟩):=k0;go_simp;exact hK _ _ (Below.refl _ _) hW rfl
  refine⟨fun a w hW hk K hK=>?_,?_⟩
  ·obtain⟨k0,-⟩:=hk
   have k0:a.tmps.getD 138 undef=.pointer (some ⟨b,6,none⟩):=k0;have c0:=Qi y0 hW;go_simp;exact hK _ _ (Below.refl _ _) hW rfl
  refine⟨fun a w hW hk K hK=>?_,?_⟩
  ·obtain⟨k0,-⟩:=hk
   have k0:a.tmps.getD 3 undef=.pointer (some ⟨X,0,none⟩):=k0;go_simp;exact hK _ _ (Below.refl _ _) hW rfl
  refine⟨fun a w hW hk K hK=>?_,?_⟩
  ·obtain⟨k0,-⟩:=hk
   have k0:a.tmps.getD 140 undef=.pointer (some ⟨X,7,none⟩):=k0;have c0:=Qi l7 hW;go_simp;exact hK _ _ (Below.refl _ _) hW rfl
  refine⟨fun a w hW hk K hK=>?_,?_⟩
  ·obtain⟨k0,-⟩:=hk
   have k0:a.tmps.getD 10 undef=.int .i64 (k:Int):=k0;go_simp;exact hK _ _ (Below.refl _ _) hW rfl
  refine⟨fun a w hW hk K hK=>?_,?_⟩
  ·obtain⟨k0,k1,-⟩:=hk
   have k0:a.tmps.getD 141 undef=.slice (some ⟨lg,lo,none⟩) N lc:=k0;have k1:a.tmps.getD 142 undef=.int .i64 (k:Int):=k1;go_simp;exact hK _ _ (Below.refl _ _) hW rfl
  refine⟨fun a w hW hk K hK=>?_,?_⟩
  ·obtain⟨k0,-⟩:=hk
   have k0:a.tmps.getD 143 undef=.pointer (some ⟨lg,lo+k,none⟩):=k0;have c0:=Qi z0 hW;go_simp;exact hK _ _ (Below.refl _ _) hW rfl
  refine⟨fun a w hW hk K hK=>?_,?_⟩
  ·obtain⟨k0,k1,-⟩:=hk
   have k0:a.tmps.getD 139 undef=.slice (some ⟨gL,0,none⟩) nl cL:=k0;have k1:a.tmps.getD 144 undef=.int .i64 (j:Int):=k1;go_simp;exact hK _ _ (Below.refl _ _) hW rfl
  refine⟨fun a w hW hk K hK=>?_,?_⟩
  ·obtain⟨k0,-⟩:=hk
   have k0:a.tmps.getD 145 undef=.pointer (some ⟨gL,j*3,none⟩):=k0;have c0:=Qi v0 hW;have c1:=Qi v1 hW;have c2:=Qi v2 hW;go_simp;exact hK _ _ (Below.refl _ _) hW rfl
  refine⟨fun a w hW hk K hK=>?_,?_⟩
  ·obtain⟨k0,-⟩:=hk
   have k0:a.tmps.getD 146 undef=.agg #[.int .i64 u.kind,.int .i64 u.r,.slice ua u.len uc]:=k0;simp only[Array.getD_eq_getD_getElem?] at k0
   go_simp;exact hK _ _ (QO _ _) (hW.alloc hW.size _) ⟨_,rfl,hW.size,Qe _ _ _⟩
  trivial
theorem QeX {w:World}{b:Nat}{O:Nat→Prop}{s:JSt}{x:Qz}{rg ag:Option Addr}{rc ac:Nat}(hO:∀ k,O k→k<w.heap.size) (hJ:JOk s) (h:KAt w b O s){QA:Nat→Prop}(hargs:intsL.In w QA x.args [.slice ag x.args.length ac]) (hal8:x.args.length≤8) (hop:x.op=5) :
 Calls Tryz.prog 73 #[.pointer (some ⟨b,0,none⟩),Qau x rg ag rc ac] w fun e w'=>QQ w O (s.makes x).1 (s.makes x).2 e w':=by
 have HARGS:=Qa hargs;clear hargs
 have E:Hid (s.makes x=(match s.at x.a with
  | none=>(1,[])
  | some t=>if s.want x.a 2 true=0 then (match s.fields x.args with
   | none=>(1,[])
   | some l=>if 4<TT.height (n:=7) (mkT 3 t.r l) then (19,[]) else (0,[TT.at (n:=7) 5 (mkT 3 t.r l)]))
   else (s.want x.a 2 true,[]))):=QaE hop
 have S0:=Qa (MkS.start x rg ag rc ac hO hJ h);obtain⟨xop,xa,xb,xc,xk,xn,xr,xs⟩:=x
 simp only at hop
 subst hop;clear h;go_enter Tryz.func73,Tryz.ntmps73
 go_upto_region 18 with fail
 obtain⟨w2,hw2⟩:∃ w2,(w.alloc (.cells #[.int .i64 5,.int .i64 xa,.int .i64 xb,.int .i64 xc,.int .i64 xk,.int .i64 xn,.slice rg xr.length rc,.slice ag xs.length ac] 59)).alloc (.cells #[.int .i64 1,.int .i64 0,.slice none 0 0] 79)=w2:=⟨_,rfl⟩
 obtain⟨X,hX⟩:∃ X,w.heap.size=X:=⟨_,rfl⟩
 have S2:Hid (MkS w w2 b X O s ⟨5,xa,xb,xc,xk,xn,xr,xs⟩ rg ag rc ac (some ⟨X+1,0,none⟩)):=by rw[← hw2,← hX];exact S0.out
 rw[hw2,hX]
 clear hw2 hX S0;obtain⟨x0,x1,x2,x3,x4,x6,x7⟩:=S2.out.cells
 have hH16:=S2.out.ok.regs;have hL80:=S2.out.ok.vals;simp only at x0 x1 x2 x3 x4 x6 x7 hal8
 have HA2:Hid (intsL.In w2 QA xs [.slice ag xs.length ac]):=Lay.below HARGS.out S2.out.bel;clear HARGS;go_wp2_with fail
 refine(Q6 xa 2 true S2.out.ok.regs S2.out.ok.vals S2.out.known).mono ?_
 rintro e w3 ⟨rfl,n3,hw3⟩;have hb3:Below w2.heap.size w2 w3:=by rw[hw3];exact Qf (Below.refl _ _) n3
 have S3:Hid (MkS w w3 b X O s ⟨5,xa,xb,xc,xk,xn,xr,xs⟩ rg ag rc ac (some ⟨X+1,0,none⟩)):=S2.out.below hb3;have HA:Hid (intsL.In w3 QA xs [.slice ag xs.length ac]):=Lay.below HA2.out hb3;clear hw3 hb3 S2 HA2 x0 x1 x2 x3 x4 x6 x7;have S2:=S3;clear S3
 cases hat:s.at xa with
 | none =>
  have hw:s.want xa 2 true=1:=by unfold JSt.want;rw[hat]
  have E2:Hid (s.makes ⟨5,xa,xb,xc,xk,xn,xr,xs⟩=(1,[])):=by
   show _=_;rw[E.out];simp only[hat]
  rw[hw]
  clear E hw hat;go_wp2
  go_ret2;rw[E2.out]
  exact QQ.nil S2.out.bel
 | some t =>
  by_cases hw:s.want xa 2 true=0
  ·obtain⟨-,ha0,hal,hti⟩:=Qax hat
   obtain⟨i,rfl⟩:=Int.eq_ofNat_of_zero_le ha0
   obtain⟨pm,cm,a1,c1,a2,c2,a3,c3,hh,aL,cL,R⟩:=S2.out.known.read
   obtain⟨-,-,-,-,-,-,q6⟩:=R.cells
   obtain⟨gL,va,vc,rfl,-,v1,-,-,hok⟩:=R.row i t (by simpa using hti)
   have HRW:Hid (TRd w3 (fun g=>¬ O g) (some ⟨gL,0,none⟩) s.L):=R.row;have HTR:Hid (-9223372036854775808≤t.r∧t.r≤9223372036854775807):=hok.1
   have E2:Hid (s.makes ⟨5,(i:Int),xb,xc,xk,xn,xr,xs⟩=(match s.fields xs with | none=>(1,[]) | some l=>if 4<TT.height (n:=7) (mkT 3 t.r l) then (19,[]) else (0,[TT.at (n:=7) 5 (mkT 3 t.r l)]))):=by
    show _=_;rw[E.out];simp only[hat,if_pos hw]
   rw[hw]
   clear E hw hat hti R hok;generalize hnl:s.L.length=nl at q6 hal hL80;have HNL:Hid (s.L.length=nl):=hnl;generalize t.r=r at v1 E2 HTR;clear hnl;go_upto_region 21 with fail
   refine QlD S2 q6 v1 hal rfl _ _ rfl (Nat.le_of_ble_eq_true (by kernel_rfl)) rfl rfl ?_;rintro ops vs w5 hv107 ⟨B,hv9,hB,hBb⟩ b5;show wpList _ ops _ [_] (Q5 _ vs [98,99,100,101,102,103,104,105,106,107,9]) w5;simp only[Q5,Act.put,List.setIfInBounds_toArray,List.set_cons_zero,List.set_cons_succ,hv107,hv9]
   have T6:Hid (Tup w3 (((w5.setCell ⟨B,0,none⟩ (.int .i64 3)).setCell ⟨B,1,none⟩ (.int .i64 r)).setCell ⟨B,2,none⟩ (.slice none 0 0)) B O r (.slice none 0 0) []) :=
    ⟨((b5.setCell (p:=⟨B,0,none⟩) hB _).setCell (p:=⟨B,1,none⟩) hB _).setCell (p:=⟨B,2,none⟩) hB _,hB,Blk.set3 hBb _ _ _,[],⟨rfl,Or.inl ⟨rfl,rfl⟩⟩,fun i x hx=>by simp at hx⟩
   have e0:=Qb hBb 0 _ rfl;have e1:=Qb hBb 1 _ rfl;have e2:=Qb hBb 2 _ rfl;have ef:∀ i,w5.frozen? ⟨B,i,none⟩=false:=fun i=>Qp hBb i;clear hBb hB b5 hv107 hv9 v1;go_upto_region 22 with fail
   generalize (((w5.setCell ⟨B,0,none⟩ (.int .i64 3)).setCell ⟨B,1,none⟩ (.int .i64 r)).setCell ⟨B,2,none⟩ (.slice none 0 0))=w6 at T6 ⊢;clear e0 e1 e2 ef;have HXL:Hid (xs.length≤8):=hal8;go_wp2_with fail
   go_loopw [10] (fun u wr=>∃ k v l,u=.int .i64 (k:Nat)∧k≤xs.length∧Tup w3 wr B O r v l∧l.length=k∧∀ (i:Nat) (x:Int),xs[i]?=some x→i<k→s.at x=l[i]?) (fun u _=>xs.length - (intOf u).toNat)
   case atStart=>exact⟨0,_,[],rfl,Nat.zero_le _,T6.out,rfl,fun i x _ h=>by omega⟩
   case round =>
    obtain⟨k,v,l,rfl,hk,hT,hl,hat⟩:=hrel
    have HT:Hid (Tup w3 wr B O r v l):=hT;have HLK:Hid (l.length=k):=hl;have HAT:=Qa hat;have S7:=Qa (S2.out.below hT.bel);have q6':=Qi q6 hT.bel;have HRW7:Hid (TRd wr (fun g=>¬ O g) (some ⟨gL,0,none⟩) s.L):=HRW.out.below hT.bel;have HA7:Hid (intsL.In wr QA xs [.slice ag xs.length ac]):=Lay.below HA.out hT.bel;have HSZ:Hid (w3.heap.size≤wr.heap.size):=hT.bel.size;clear hT hl hat T6;obtain⟨x0,x1,x2,x3,x4,x6,x7⟩:=S7.out.cells
    simp only at x0 x1 x2 x3 x4 x6 x7
    by_cases hlt:k<xs.length
    ·have hxi:xs[k]?=some xs[k]:=List.getElem?_eq_getElem hlt;obtain⟨lg,lo,rfl,-,-,z0⟩:=Zw HA7.out hlt
     have ex:xs.getD k 0=xs[k]:=by simp[List.getD,hlt]
     rw[ex] at z0
     generalize xs[k]=y at hxi z0;have hkN:(k:Int)<xs.length:=by omega
     have hk0:(0:Int)≤k:=by omega
     have HF:=Qa (Qb8 (s:=s) (l:=xs) k l hk HLK.out HAT.out);have HST:=Qa (QcM (s:=s) hxi);clear ex;by_cases hy0:y<0
     ·have hy0':decide (y<0)=true:=decide_eq_true hy0
      have E3:Hid (s.makes ⟨5,(i:Int),xb,xc,xk,xn,xr,xs⟩=(1,[])):=by
       show _=_;have ha:s.at y=none:=by unfold JSt.at;rw[if_pos hy0]
       rw[E2.out,HF.out,HST.out,ha];rfl
      have HBL:=Qa (S2.out.bel.trans (HT.out.bel.mono S2.out.bel.size));clear E2 hy0 hxi HF HST;generalize xs.length=N at x7 hkN hlt hk hal8;go_wp2_with fail
      go_quiet (fail)
      go_wp2
      go_ret2;rw[E3.out]
      exact QQ.nil (Qf HBL.out _)
     obtain⟨j,rfl⟩:=Int.eq_ofNat_of_zero_le (show 0≤y by omega)
     have hy0':decide ((j:Int)<0)=false:=decide_eq_false (by omega);by_cases hjn:j<nl
     ·have hvj:s.L[j]?=some (s.L[j]'(by rw[HNL.out];exact hjn)):=List.getElem?_eq_getElem _;generalize s.L[j]'(by rw[HNL.out];exact hjn)=u at hvj;have hatb:s.at (j:Int)=some u:=by unfold JSt.at;rw[if_neg hy0];exact hvj
      obtain⟨gY,ua,uc,eY,v0,v1,v2,v3,huok⟩:=HRW7.out j u hvj
      cases eY
      have HUA:Hid (∃ ua' uc',wr.cell? ⟨gL,j*3+2,none⟩=some (.slice ua' u.len uc')∧TIn w3 (fun g=>¬ O g) u ua'∧u.ok):=by
       obtain⟨gZ,za,zc,eZ,z0',z1',z2',z3',z4'⟩:=HRW.out j u hvj
       cases eZ
       exact⟨za,zc,Qi z2' HT.out.bel,z3',z4'⟩
      have hjn':decide ((nl:Int)≤j)=false:=decide_eq_false (by omega);have hjn2:(j:Int)<nl:=by omega
      have HAT2:Hid (∀ (i:Nat) (x:Int),xs[i]?=some x→i<k+1→s.at x=(l++[u])[i]?):=by
       intro i x hi hik;by_cases e:i=k
       ·subst e;rw[hxi] at hi
        cases hi
        rw[List.getElem?_append_right (by rw[HLK.out];omega),HLK.out,Nat.sub_self]
        exact hatb
       ·rw[List.getElem?_append_left (by rw[HLK.out];omega)]
        exact HAT.out i x hi (by omega)
      have HOK:Hid (u.ok):=huok;clear hy0 hxi hatb HF HST v3 huok HAT hvj;obtain⟨ta,tc,txs,rfl,hown0,hkids,t2⟩:=HT.out.form
      have hbox:=HT.out.box;have HBX:=Qa hbox;have HKD:=Qa hkids;have HOW:=Qa hown0;have HBS:Hid (w3.heap.size≤B):=HT.out.hB;have HBL7:Hid (Below w3.heap.size w3 wr):=HT.out.bel;rw[HLK.out] at t2
      clear hbox hkids hown0 HBX HKD HOW;have HXLN:Hid (xs.length=xs.length):=rfl;generalize hNN:xs.length=N at x7 hkN hlt hk hal8;have HNN:Hid (xs.length=N):=hNN;clear hNN HXLN;go_wp2_with fail
      go_quiet (fail)
      have b8:Below wr.heap.size wr (wr.drewN nq):=Qf (Below.refl _ _) nq;have t2':=Qi t2 b8;have q6b:=Qi q6' b8;have x7b:=Qi x7 b8;have z0b:=Qi z0 b8;have v0b:=Qi v0 b8;have v1b:=Qi v1 b8;have v2b:=Qi v2 b8;have HB8:=Qa b8;clear b8;go_upto_region 27 with fail
      refine QlX t2' q6b x7b z0b v0b v1b v2b hkN hjn2 _ _ rfl (Nat.le_of_ble_eq_true (by kernel_rfl)) rfl rfl rfl rfl ?_;rintro ops vs w9 hv135 ⟨G,hv147,hG,hGb⟩ b9;show wpList _ ops _ [_,_,_] (Q5 _ vs [134,135,136,137,138,139,140,141,142,143,144,145,146,147]) w9;simp only[Q5,Act.put,List.setIfInBounds_toArray,List.set_cons_zero,List.set_cons_succ,hv135,hv147]
      have hb9:Below wr.heap.size wr w9:=HB8.out.trans (b9.mono HB8.out.size);obtain⟨ta',tc',txs9,e9,hown9,hkids9,t29⟩:=(HT.out.below hb9).form
      cases e9
      have hbox9:=(HT.out.below hb9).box;have hbel9:=(HT.out.below hb9).bel;obtain⟨ua',uc',hcell,hT3,-⟩:=HUA.out
      rw[v2] at hcell
      cases hcell
      have PU:Hid (∀ g cap w10,w10.ownsRow (B+1) 79 3 (.slice (some ⟨g,0,none⟩) (k+1) cap) (k+1) (txs9++[.int .i64 u.kind,.int .i64 u.r,.slice ua u.len uc])→w9.grownBy w10 (Value.slice ta k tc).ownBlock →
       w10.cell? ⟨B,2,none⟩=some (.slice ta k tc)∧w10.frozen? ⟨B,2,none⟩=false∧Tup w3 (w10.setCell ⟨B,2,none⟩ (.slice (some ⟨g,0,none⟩) (k+1) cap)) B O r (.slice (some ⟨g,0,none⟩) (k+1) cap) (l++[u])):=by
       intro g cap w10 p1 p2;rw[← HLK.out] at p1 p2 ⊢
       refine Tup.push hbel9 HBS.out hbox9 hkids9 hown9.1 ?_ HOK.out ?_ p1 p2
       ·exact(hT3.mono (O':=fun g=>¬ O g∧g<w3.heap.size) (fun k hk hl=>⟨hk,hl⟩)).keep (fun k hk _=>hbel9.block k hk.2) (fun _ hk _=>hk)
       ·intro k' hk';obtain⟨-,q2⟩:=hown9
        rcases q2 with ⟨e,_⟩|⟨g',cap',cur,e,hg',hh',q⟩
        ·rw[e] at hk';simp[Value.ownBlock] at hk'
        ·rw[e] at hk'
         simp[Value.ownBlock] at hk'
         omega
      have HOWN:Hid (w9.ownsRow (B+1) 79 3 (.slice ta k tc) k txs9):=by rw[HLK.out] at hown9;exact hown9
      have HNEWS:Hid (∀ (j:Nat) (v:Value),[Value.int .i64 u.kind,.int .i64 u.r,.slice ua u.len uc][j]?=some v→w9.cell? ((⟨G,0,none⟩:Addr).add j)=some v):=by
       intro j v hv;rw[Go.WideShapes.add_plain,Nat.zero_add]
       exact Qb hGb j v (by simpa using hv)
      have HBASE:Hid (B+1≤w9.heap.size):=by show _≤_;have:=lt_of_block hbox9;omega
      have HXK:Hid (xs.length - (k+1)<xs.length - k):=by show _<_;rw[HNN.out];omega
      obtain⟨i0,hi,hz0,hz1,hz2⟩:=pInfoT
      clear hown9 hkids9 t29 hbox9 hbel9 hT3 hGb hG b9 hb9 hv135 hv147 t2 t2' q6' q6b x7 x7b z0 z0b v0 v0b v1 v1b v2 v2b HT;go_wp2_with (at_builtin;refine wpList_append_lies _ rfl (.tmp 135) (.tmp 147) 52 rfl (B+1) 79 i0 (.agg #[.int .i64 0,.int .i64 0,.slice none 0 0]) 3 40 pUnderT hi hz0 hz1 hz2 rfl (by decide) _ _ _ rfl HOWN.out ⟨G,0,none⟩ 1 1 [.int .i64 u.kind,.int .i64 u.r,.slice ua u.len uc] rfl rfl HNEWS.out (Qep _ _ _ _ _) (by decide) (by unfold maxLen;omega) (by omega) HBASE.out w9.heap.size rfl ?_)
      intro g2 cap2 w10 p1 p2 p3 p4;obtain⟨c10,f10,T10⟩:=PU.out g2 cap2 w10 p1 p2
      have HT10:=Qa T10;clear p1 p2 p3 p4 T10 PU HOWN HNEWS HBASE;go_wp2
      go_roundw
      case rel=>exact⟨k+1,_,l++[u],by go_num,by first | omega | (rw[HNN.out];omega),HT10.out,by rw[List.length_append,HLK.out];rfl,HAT2.out⟩
      case measure=>simp only[intOf];have:=HXK.out;omega
     ·have E3:Hid (s.makes ⟨5,(i:Int),xb,xc,xk,xn,xr,xs⟩=(1,[])):=by
       show _=_;have ha:s.at (j:Int)=none:=by unfold JSt.at;rw[if_neg hy0,Int.toNat_natCast,List.getElem?_eq_none (by rw[HNL.out];omega)]
       rw[E2.out,HF.out,HST.out,ha];rfl
      have HBL:=Qa (S2.out.bel.trans (HT.out.bel.mono S2.out.bel.size));have hjn':decide ((nl:Int)≤j)=true:=decide_eq_true (by omega);clear E2 hy0 hxi HF HST;generalize xs.length=N at x7 hkN hlt hk hal8;go_wp2_with fail
      go_quiet (fail)
      go_wp2
      go_ret2;rw[E3.out]
      exact QQ.nil (Qf HBL.out _)
    ·have hkx:k=xs.length:=by omega
     have hF:s.fields xs=some l:=by
      rw[Qb8 (s:=s) (l:=xs) k l hk HLK.out HAT.out,List.drop_of_length_le (by omega),JSt.fields]
      simp
     obtain⟨hfl,hfm⟩:=Qaa hF
     have hcnt:TT.count (n:=7) (mkT 3 r l)≤100000:=by
      have h1:=sum_le_mul (l.map TT.count) 4681 (fun c hc=>by
       obtain⟨z,hz,rfl⟩:=List.mem_map.1 hc
       exact QZ (S2.out.ok.types z (hfm z hz)))
      rw[List.length_map] at h1
      show 1+(l.map TT.count).sum≤100000;have h2:l.length*4681≤8*4681:=Nat.mul_le_mul_right _ (by rw[hfl];exact HXL.out);omega
     have E3:Hid (s.makes ⟨5,(i:Int),xb,xc,xk,xn,xr,xs⟩=if 4<TT.height (n:=7) (mkT 3 r l) then (19,[]) else (0,[TT.at (n:=7) 5 (mkT 3 r l)])):=by
      show _=_;rw[E2.out,hF]
     obtain⟨ta,tc,rfl,htree,hoks⟩:=HT.out.tree S2.out.lt
     have HTREE:=Qa htree;have HCNT:=Qa hcnt;have HOKS:=Qa hoks;have e0:=Qb HT.out.box 0 _ rfl;have e1:=Qb HT.out.box 1 _ rfl;have e2:=Qb HT.out.box 2 _ rfl;have hlt':¬ (k:Int)<xs.length:=by omega
     have HBL7:Hid (Below w.heap.size w wr):=S2.out.bel.trans (HT.out.bel.mono S2.out.bel.size);have HLT7:Hid (∀ k,O k→k<wr.heap.size):=S7.out.lt;clear E2 hF hfl hfm hcnt htree hoks HAT HT hkx HLK;generalize hll:l.length=ll at e2;have HLL:Hid (l.length=ll):=hll
     have DC:Hid (Calls Tryz.prog 127 #[.agg #[.int .i64 3,.int .i64 r,.slice ta ll tc],.int .i64 4] wr fun e w'=>e=.returned (.int .i64 ((min (TT.height (n:=7) (mkT 3 r l)) 5:Nat):Int))∧Below wr.heap.size wr w'):=by
      have:=deepOf_any 7 (mkT 3 r l) ta tc wr 4 HTREE.out.all HCNT.out (by decide)
      have e9:Tv (mkT 3 r l:TT 7) ta tc=.agg #[.int .i64 3,.int .i64 r,.slice ta ll tc]:=by rw[← HLL.out];rfl
      rw[e9] at this
      exact this
     clear hll;generalize xs.length=N at x7 hlt hlt' hk hal8;go_wp2_with fail
     refine(DC.out).mono ?_
     rintro e w8 ⟨rfl,hb8⟩;have HB8:Hid (Below w.heap.size w w8):=HBL7.out.trans (hb8.mono HBL7.out.size);have f0:=Qi e0 hb8;have f1:=Qi e1 hb8;have f2:=Qi e2 hb8;by_cases hgt:4<TT.height (n:=7) (mkT 3 r l)
     ·have E4:Hid (s.makes ⟨5,(i:Int),xb,xc,xk,xn,xr,xs⟩=(19,[])):=by show _=_;rw[E3.out,if_pos hgt]
      have hgt':decide ((4:Int)<((min (TT.height (n:=7) (mkT 3 r l)) 5:Nat):Int))=true:=decide_eq_true (by omega);clear E3 hgt DC hb8 e0 e1 e2;generalize ((min (TT.height (n:=7) (mkT 3 r l)) 5:Nat):Int)=hv at hgt' ⊢;go_wp2
      go_ret2;rw[E4.out]
      exact QQ.nil HB8.out
     ·have E4:Hid (s.makes ⟨5,(i:Int),xb,xc,xk,xn,xr,xs⟩=(0,[TT.at (n:=7) 5 (mkT 3 r l)])):=by show _=_;rw[E3.out,if_neg hgt]
      have hgt':decide ((4:Int)<((min (TT.height (n:=7) (mkT 3 r l)) 5:Nat):Int))=false:=decide_eq_false (by omega)
      have Z:Hid (QQ w O 0 [TT.at (n:=7) 5 (mkT 3 r l)] (.returned (.tuple #[.slice (some ⟨w8.heap.size,0,none⟩) 1 1,.int .i64 0])) (w8.alloc (.cells #[.int .i64 3,.int .i64 r,.slice ta ll tc] 79))):=by
       refine⟨_,1,1,rfl,fun _=>⟨rfl,Nat.le_refl _,?_⟩,HB8.out.alloc HB8.out.size _⟩
       have hh5:TT.height (n:=7) (mkT 3 r l)≤5:=by omega
       have:=Qc4 w8 O (fun k hk=>Nat.lt_of_lt_of_le (HLT7.out k hk) hb8.size) (t:=TT.at (n:=7) 5 (mkT 3 r l)) (a:=ta) (c:=tc) (d:=1) ((HTREE.out.below hb8).at 5 hh5) (TT.at_ok 5 ⟨HTR.out,HOKS.out⟩)
       rw[← HLL.out]
       rw[TT.at_kind,TT.at_r,TT.at_len 5 _ hh5] at this
       exact this
      clear E3 hgt DC hb8 e0 e1 e2;generalize ((min (TT.height (n:=7) (mkT 3 r l)) 5:Nat):Int)=hv at hgt' ⊢;go_wp2
      go_ret2;rw[E4.out]
      exact Z.out
  ·have hw':(s.want xa 2 true==0)=false:=beq_eq_false_iff_ne.2 hw
   have E2:Hid (s.makes ⟨5,xa,xb,xc,xk,xn,xr,xs⟩=(s.want xa 2 true,[])):=by
    show _=_;rw[E.out];simp only[hat,if_neg hw]
   have HW:=Qa hw;clear E hat hw;generalize s.want xa 2 true=c at E2 hw' HW ⊢;go_wp2
   go_ret2;rw[E2.out]
   exact QQ.nil S2.out.bel
theorem Qgs {w:World}{b:Nat}{O QR QA:Nat→Prop}{s:JSt}{x:Qz}{rg ag:Option Addr}{rc ac:Nat}(hO:∀ k,O k→k<w.heap.size) (hJ:JOk s) (h:KAt w b O s) (hregs:intsL.In w QR x.regs [.slice rg x.regs.length rc]) (hargs:intsL.In w QA x.args [.slice ag x.args.length ac]) (hrc:x.regs.length≤rc) (hf:x.form s.m.length=0) :
 Calls Tryz.prog 73 #[.pointer (some ⟨b,0,none⟩),Qau x rg ag rc ac] w fun e w'=>QQ w O (s.makes x).1 (s.makes x).2 e w':=by
 obtain⟨f1,f2,f3,f4⟩:=Zc hf
 rcases f4 with e | e | e | e | e | e | e | e | e | e | e | e | e | e
 ·exact Qgz hO hJ h e
 ·exact Qgk hO hJ h e
 ·exact QgA hO hJ h e
 ·exact Qfe hO hJ h e
 ·exact QeX hO hJ h hargs (f3 e) e
 ·exact Qgu hO hJ h (f1 (.inl e)) e
 ·exact Qgx hO hJ h (f1 (.inr e)) e
 ·exact Qeq hO hJ h e
 ·exact Qfz hO hJ h e
 ·exact Qei hO hJ h e
 ·exact QgR hO hJ h e
 ·exact QhE hO hJ h e
 ·exact QgE hO hJ h e
 ·exact Qfb hO hJ h hregs hargs hrc (f2 e).2.2.1 (f2 e).2.2.2 ⟨(f2 e).1,(f2 e).2.1⟩ e
theorem Qhk {s:JSt}(hJ:JOk s){x:Qz}(hf:x.form s.m.length=0):(s.makes x).2.length≤8:=by
 obtain⟨f1,f2,f3,f4⟩:=Zc hf
 rcases f4 with e | e | e | e | e | e | e | e | e | e | e | e | e | e
 ·rw[Z1 (.inl e)];simp
 ·rw[QbX e];simp
 ·rw[Qaz e];split<;>simp
 ·rw[ZQ e];split<;>simp
 ·rw[QaE e];repeat' split
  all_goals simp
 ·rw[QbP e];repeat' split
  all_goals simp
 ·rw[QbC e];repeat' split
  all_goals simp
 ·rw[QaH e];split<;>simp
 ·rw[Qbd e];simp
 ·rw[QaL e];simp
 ·rw[Qa0 e];simp
 ·rw[Z1 (.inr e)];simp
 ·rw[QbI e];simp
 ·rw[Qbb e]
  split
  ·simp
  ·rename_i g hg
   split
   ·rw[List.length_map]
    exact(hJ.mod.2 g (List.mem_of_getElem? hg)).results.1
   ·simp
theorem KTo.same {w wc:World}{b:Nat}{O:Nat→Prop}{s:JSt}(h:KAt wc b O s) (hb:Below w.heap.size w wc) (hO:∀ k,O k→k<w.heap.size):KTo w wc b O s :=
 ⟨O,h,⟨hb.os,hb.tape,hb.output,hb.size,fun k hk _=>hb.block k hk,fun k hk=>.inl hk⟩,fun k hk=>Nat.lt_of_lt_of_le (hO k hk) hb.size⟩
theorem KTo.after {w wA wc:World}{b:Nat}{O:Nat→Prop}{s:JSt}(h:KTo wA wc b O s) (hb:Below w.heap.size w wA):KTo w wc b O s:=by
 obtain⟨O',h1,h2,h3⟩:=h
 exact⟨O',h1,⟨h2.os.trans hb.os,h2.tape.trans hb.tape,h2.output.trans hb.output,Nat.le_trans hb.size h2.size,fun k hk hn=>(h2.block k (Nat.lt_of_lt_of_le hk hb.size) hn).trans (hb.block k hk),fun k hk=>(h2.own k hk).imp id fun e=>Nat.le_trans hb.size e⟩,h3⟩
theorem KTo.then {w wA wc:World}{b:Nat}{O O1:Nat→Prop}{s:JSt}(h:KTo wA wc b O1 s) (h1:Zj O O1 w wA) (hO:∀ k,O k→k<w.heap.size):KTo w wc b O s:=by
 obtain⟨O',k1,k2,k3⟩:=h
 refine⟨O',k1,⟨k2.os.trans h1.os,k2.tape.trans h1.tape,k2.output.trans h1.output,Nat.le_trans h1.size k2.size,fun k hk hn=>(k2.block k (Nat.lt_of_lt_of_le hk h1.size) (fun e=>?_)).trans (h1.block k hk hn),fun k hk=>?_⟩,k3⟩
 ·rcases h1.own k e with e | e
  ·exact hn e
  ·omega
 ·rcases k2.own k hk with e | e
  ·exact h1.own k e
  ·exact .inr (Nat.le_trans h1.size e)
structure InS (w wc:World) (b X:Nat) (O Q:Nat→Prop) (s:JSt) (x:Qz) (rg ag:Option Addr) (rc ac:Nat):Prop where
 known:KAt wc b O s
 box:wc.heap[X]?=some (.cells #[.int .i64 x.op,.int .i64 x.a,.int .i64 x.b,.int .i64 x.c,.int .i64 x.k,.int .i64 x.n,.slice rg x.regs.length rc,.slice ag x.args.length ac] 59 (0,0))
 regs:intsL.In wc Q x.regs [.slice rg x.regs.length rc]
 args:intsL.In wc Q x.args [.slice ag x.args.length ac]
 bel:Below w.heap.size w wc
 own:∀ k,O k→k<w.heap.size
 far:w.heap.size≤X
theorem InS.below {w wc:World}{b X:Nat}{O Q:Nat→Prop}{s:JSt}{x:Qz}{rg ag:Option Addr}{rc ac:Nat}{w9:World}(h:InS w wc b X O Q s x rg ag rc ac) (k:Below wc.heap.size wc w9):InS w w9 b X O Q s x rg ag rc ac :=
 ⟨h.known.below k,(k.block X (lt_of_block h.box)).trans h.box,Lay.below h.regs k,Lay.below h.args k,h.bel.trans (k.mono h.bel.size),h.own,h.far⟩
theorem InS.lt {w wc:World}{b X:Nat}{O Q:Nat→Prop}{s:JSt}{x:Qz}{rg ag:Option Addr}{rc ac:Nat}(h:InS w wc b X O Q s x rg ag rc ac):∀ k,O k→k<wc.heap.size:=fun k hk=>Nat.lt_of_lt_of_le (h.own k hk) h.bel.size
theorem InS.cells {w wc:World}{b X:Nat}{O Q:Nat→Prop}{s:JSt}{x:Qz}{rg ag:Option Addr}{rc ac:Nat}(h:InS w wc b X O Q s x rg ag rc ac):wc.cell? ⟨X,0,none⟩=some (.int .i64 x.op)∧wc.cell? ⟨X,1,none⟩=some (.int .i64 x.a)∧wc.cell? ⟨X,2,none⟩=some (.int .i64 x.b)∧wc.cell? ⟨X,3,none⟩=some (.int .i64 x.c)∧wc.cell? ⟨X,4,none⟩=some (.int .i64 x.k)∧wc.cell? ⟨X,5,none⟩=some (.int .i64 x.n)∧wc.cell? ⟨X,6,none⟩=some (.slice rg x.regs.length rc)∧wc.cell? ⟨X,7,none⟩=some (.slice ag x.args.length ac) :=
 ⟨Qb h.box 0 _ rfl,Qb h.box 1 _ rfl,Qb h.box 2 _ rfl,Qb h.box 3 _ rfl,Qb h.box 4 _ rfl,Qb h.box 5 _ rfl,Qb h.box 6 _ rfl,Qb h.box 7 _ rfl⟩
theorem InS.far_cell {w wc:World}{b X:Nat}{O Q:Nat→Prop}{s:JSt}{x:Qz}{rg ag:Option Addr}{rc ac:Nat}{w9:World}(h:InS w wc b X O Q s x rg ag rc ac){O1:Nat→Prop}(k:Zj O O1 wc w9) (j:Nat):w9.cell? ⟨X,j,none⟩=wc.cell? ⟨X,j,none⟩ :=
 World.cell?_of_block (k.block X (lt_of_block h.box) (fun e=>by have:=h.own X e;have:=h.far;omega))
def QlQ (b X nm cm rc ac:Nat) (cf:Int) (pm rg ag:Option Addr) (x:Qz) (t:Tmp) (v:Value) (w:World):Prop :=
 v=(([(0,.pointer (some ⟨b,0,none⟩)),(3,.pointer (some ⟨X,0,none⟩)),(8,.pointer (some ⟨b,0,none⟩)),(9,.pointer (some ⟨b,0,none⟩)),(10,.pointer (some ⟨b,0,none⟩)),(11,.agg #[.slice pm nm cm]),(12,.agg #[.int .i64 x.op,.int .i64 x.a,.int .i64 x.b,.int .i64 x.c,.int .i64 x.k,.int .i64 x.n,.slice rg x.regs.length rc,.slice ag x.args.length ac]),(13,.int .i64 cf),(5,.int .i64 cf)]:List (Tmp × Value)).lookup t).getD undef
theorem ki1 {w6:World}{b X nm cm rc ac:Nat}{cf:Int}{pm rg ag:Option Addr}{x:Qz}(q0:w6.cell? ⟨b,0,none⟩=some (.slice pm nm cm)) (x0:w6.cell? ⟨X,0,none⟩=some (.int .i64 x.op)) (x1:w6.cell? ⟨X,1,none⟩=some (.int .i64 x.a)) (x2:w6.cell? ⟨X,2,none⟩=some (.int .i64 x.b)) (x3:w6.cell? ⟨X,3,none⟩=some (.int .i64 x.c)) (x4:w6.cell? ⟨X,4,none⟩=some (.int .i64 x.k)) (x5:w6.cell? ⟨X,5,none⟩=some (.int .i64 x.n)) (x6:w6.cell? ⟨X,6,none⟩=some (.slice rg x.regs.length rc)) (x7:w6.cell? ⟨X,7,none⟩=some (.slice ag x.args.length ac)) (HC:Hid (x.form nm=cf))
 (a:Act) (m:Nat) (hn:a.tmps.size=m) (hn':82≤m) (h0:a.tmps.getD 0 undef=.pointer (some ⟨b,0,none⟩)) (h3:a.tmps.getD 3 undef=.pointer (some ⟨X,0,none⟩)) :
 Code.wp Tryz.prog ((Tryz.f24.body.bind (Qj 1)).getD .skip) (fun e a' w'=>e=.normal∧∃ vs,a'=Q5 a vs [8,9,10,11,12,13,5]∧vs 5=.int .i64 cf∧Below w6.heap.size w6 w') a w6:=by
 conv=>arg 2;whnf
 refine Qx (QlQ b X nm cm rc ac cf pm rg ag x) (fun w=>Below w6.heap.size w6 w) (fun w w'=>Below w.heap.size w w') (outs:=[0,3]) (gs:=[]) (bs:=[true,true,true,true,true,true,true]) (by kernel_rfl) (n:=82) hn hn' (by kernel_rfl) ?hR ?hG (Qf (Below.refl _ _) 1) ⟨h0,h3,trivial⟩ ?hA ?hend
 case hR=>exact fun t v w w' _ h=>h
 case hG=>exact trivial
 case hend=>exact fun vs w' hW hk=>⟨rfl,vs,rfl,hk 5 (by kernel_rfl),hW⟩
 case hA =>
  refine⟨fun a w hW hk K hK=>?_,?_⟩
  ·obtain⟨k0,-⟩:=hk
   have k0:a.tmps.getD 0 undef=.pointer (some ⟨b,0,none⟩):=k0;go_simp;exact hK _ _ (Below.refl _ _) hW rfl
  refine⟨fun a w hW hk K hK=>?_,?_⟩
  ·obtain⟨k0,-⟩:=hk
   have k0:a.tmps.getD 8 undef=.pointer (some ⟨b,0,none⟩):=k0;go_simp;exact hK _ _ (Below.refl _ _) hW rfl
  refine⟨fun a w hW hk K hK=>?_,?_⟩
  ·obtain⟨k0,-⟩:=hk
   have k0:a.tmps.getD 9 undef=.pointer (some ⟨b,0,none⟩):=k0;go_simp;exact hK _ _ (Below.refl _ _) hW rfl
  refine⟨fun a w hW hk K hK=>?_,?_⟩
  ·obtain⟨k0,-⟩:=hk
   have k0:a.tmps.getD 10 undef=.pointer (some ⟨b,0,none⟩):=k0;have c0:=Qi q0 hW;go_simp;exact hK _ _ (Below.refl _ _) hW rfl
  refine⟨fun a w hW hk K hK=>?_,?_⟩
  ·obtain⟨k0,-⟩:=hk
   have k0:a.tmps.getD 3 undef=.pointer (some ⟨X,0,none⟩):=k0;have c0:=Qi x0 hW;have c1:=Qi x1 hW;have c2:=Qi x2 hW;have c3:=Qi x3 hW;have c4:=Qi x4 hW;have c5:=Qi x5 hW;have c6:=Qi x6 hW;have c7:=Qi x7 hW;go_simp;exact hK _ _ (Below.refl _ _) hW rfl
  refine⟨fun a w hW hk K hK=>?_,?_⟩
  ·obtain⟨k0,k1,-⟩:=hk
   have k0:a.tmps.getD 11 undef=.agg #[.slice pm nm cm]:=k0;have k1:a.tmps.getD 12 undef=.agg #[.int .i64 x.op,.int .i64 x.a,.int .i64 x.b,.int .i64 x.c,.int .i64 x.k,.int .i64 x.n,.slice rg x.regs.length rc,.slice ag x.args.length ac]:=k1;go_simp;refine Calls.mono (QcL nm x ⟨rg,rc,ag,ac⟩ pm cm _) ?_;rw[HC.out];rintro r7 w7 ⟨rfl,b7⟩;go_simp;exact hK _ _ b7 (hW.trans (b7.mono hW.size)) rfl
  refine⟨fun a w hW hk K hK=>?_,?_⟩
  ·obtain⟨k0,-⟩:=hk
   have k0:a.tmps.getD 13 undef=.int .i64 cf:=k0;go_simp;exact hK _ _ (Below.refl _ _) hW rfl
  trivial
def Qlh (b X hh gH nH cH gL nL cL i r:Nat) (t:Tmp) (v:Value) (w:World):Prop :=
 v=(([(0,.pointer (some ⟨b,0,none⟩)),(3,.pointer (some ⟨X,0,none⟩)),(56,.pointer (some ⟨b,0,none⟩)),(57,.pointer (some ⟨b,0,none⟩)),(58,.pointer (some ⟨b,5,none⟩)),(59,.pointer (some ⟨hh,0,none⟩)),(60,.pointer (some ⟨hh,0,none⟩)),(61,.pointer (some ⟨hh,0,none⟩)),(62,.slice (some ⟨gH,0,none⟩) nH cH),(63,.pointer (some ⟨b,0,none⟩)),(64,.pointer (some ⟨b,0,none⟩)),(65,.pointer (some ⟨b,6,none⟩)),(66,.slice (some ⟨gL,0,none⟩) nL cL),(67,.pointer (some ⟨X,1,none⟩)),(68,.int .i64 (i:Int)),(69,.pointer (some ⟨gL,i*3,none⟩)),(70,.pointer (some ⟨gL,i*3+1,none⟩)),(71,.int .i64 (r:Int)),(72,.pointer (some ⟨gH,r,none⟩))]:List (Tmp × Value)).lookup t).getD undef
theorem QlY {w6:World}{b X hh gH nH cH gL nL cL i r:Nat}(q5:w6.cell? ⟨b,5,none⟩=some (.pointer (some ⟨hh,0,none⟩))) (z0:w6.cell? ⟨hh,0,none⟩=some (.slice (some ⟨gH,0,none⟩) nH cH)) (q6:w6.cell? ⟨b,6,none⟩=some (.slice (some ⟨gL,0,none⟩) nL cL)) (x1:w6.cell? ⟨X,1,none⟩=some (.int .i64 (i:Int))) (v1:w6.cell? ⟨gL,i*3+1,none⟩=some (.int .i64 (r:Int))) (hiL:(i:Int)<nL) (hrH:(r:Int)<nH){Q:Exit→Act→World→Prop}
 (a:Act) (m:Nat) (hn:a.tmps.size=m) (hn':82≤m) (h0:a.tmps.getD 0 undef=.pointer (some ⟨b,0,none⟩)) (h3:a.tmps.getD 3 undef=.pointer (some ⟨X,0,none⟩))
 (hend:∀ ops vs w',vs 72=.pointer (some ⟨gH,r,none⟩)→Below w6.heap.size w6 w'→wpList Tryz.prog ops Q (QcZ 17 ((Tryz.f24.body.bind (Qj 12)).getD .skip)) (Q5 a vs [56,57,58,59,60,61,62,63,64,65,66,67,68,69,70,71,72]) w') :
 Code.wp Tryz.prog ((Tryz.f24.body.bind (Qj 12)).getD .skip) Q a w6:=by
 conv=>arg 2;whnf
 refine Qr 17 (Qlh b X hh gH nH cH gL nL cL i r) (fun w=>Below w6.heap.size w6 w) (fun w w'=>Below w.heap.size w w') (outs:=[0,3]) (gs:=[]) (bs:=[true,true,true,true,true,true,true,true,true,true,true,true,true,true,true,true,true]) (by kernel_rfl) (n:=82) hn hn' (by kernel_rfl) (by kernel_rfl) ?hR ?hG (Qf (Below.refl _ _) 1) ⟨h0,h3,trivial⟩ ?hA ?hend
 case hR=>exact fun t v w w' _ h=>h
 case hG=>exact trivial
 case hend=>exact fun ops vs w' hW hk=>hend ops vs w' (hk 72 (by kernel_rfl)) hW
 case hA =>
  refine⟨fun a w hW hk K hK=>?_,?_⟩
  ·obtain⟨k0,-⟩:=hk
   have k0:a.tmps.getD 0 undef=.pointer (some ⟨b,0,none⟩):=k0;go_simp;exact hK _ _ (Below.refl _ _) hW rfl
  refine⟨fun a w hW hk K hK=>?_,?_⟩
  ·obtain⟨k0,-⟩:=hk
   have k0:a.tmps.getD 56 undef=.pointer (some ⟨b,0,none⟩):=k0;go_simp;exact hK _ _ (Below.refl _ _) hW rfl
  refine⟨fun a w hW hk K hK=>?_,?_⟩
  ·obtain⟨k0,-⟩:=hk
   have k0:a.tmps.getD 57 undef=.pointer (some ⟨b,0,none⟩):=k0;go_simp;exact hK _ _ (Below.refl _ _) hW rfl
  refine⟨fun a w hW hk K hK=>?_,?_⟩
  ·obtain⟨k0,-⟩:=hk
   have k0:a.tmps.getD 58 undef=.pointer (some ⟨b,5,none⟩):=k0;have c0:=Qi q5 hW;go_simp;exact hK _ _ (Below.refl _ _) hW rfl
  refine⟨fun a w hW hk K hK=>?_,?_⟩
  ·obtain⟨k0,-⟩:=hk
   have k0:a.tmps.getD 59 undef=.pointer (some ⟨hh,0,none⟩):=k0;go_simp;exact hK _ _ (Below.refl _ _) hW rfl
  refine⟨fun a w hW hk K hK=>?_,?_⟩
  ·obtain⟨k0,-⟩:=hk
   have k0:a.tmps.getD 60 undef=.pointer (some ⟨hh,0,none⟩):=k0;go_simp;exact hK _ _ (Below.refl _ _) hW rfl
  refine⟨fun a w hW hk K hK=>?_,?_⟩
  ·obtain⟨k0,-⟩:=hk
   have k0:a.tmps.getD 61 undef=.pointer (some ⟨hh,0,none⟩):=k0;have c0:=Qi z0 hW;go_simp;exact hK _ _ (Below.refl _ _) hW rfl
  refine⟨fun a w hW hk K hK=>?_,?_⟩
  ·obtain⟨k0,-⟩:=hk
   have k0:a.tmps.getD 0 undef=.pointer (some ⟨b,0,none⟩):=k0;go_simp;exact hK _ _ (Below.refl _ _) hW rfl
  refine⟨fun a w hW hk K hK=>?_,?_⟩
  ·obtain⟨k0,-⟩:=hk
   have k0:a.tmps.getD 63 undef=.pointer (some ⟨b,0,none⟩):=k0;go_simp;exact hK _ _ (Below.refl _ _) hW rfl
  refine⟨fun a w hW hk K hK=>?_,?_⟩
  ·obtain⟨k0,-⟩:=hk
   have k0:a.tmps.getD 64 undef=.pointer (some ⟨b,0,none⟩):=k0;go_simp;exact hK _ _ (Below.refl _ _) hW rfl
  refine⟨fun a w hW hk K hK=>?_,?_⟩
  ·obtain⟨k0,-⟩:=hk
   have k0:a.tmps.getD 65 undef=.pointer (some ⟨b,6,none⟩):=k0;have c0:=Qi q6 hW;go_simp;exact hK _ _ (Below.refl _ _) hW rfl
  refine⟨fun a w hW hk K hK=>?_,?_⟩
  ·obtain⟨k0,-⟩:=hk
   have k0:a.tmps.getD 3 undef=.pointer (some ⟨X,0,none⟩):=k0;go_simp;exact hK _ _ (Below.refl _ _) hW rfl
  refine⟨fun a w hW hk K hK=>?_,?_⟩
  ·obtain⟨k0,-⟩:=hk
   have k0:a.tmps.getD 67 undef=.pointer (some ⟨X,1,none⟩):=k0;have c0:=Qi x1 hW;go_simp;exact hK _ _ (Below.refl _ _) hW rfl
  refine⟨fun a w hW hk K hK=>?_,?_⟩
  ·obtain⟨k0,k1,-⟩:=hk
   have k0:a.tmps.getD 66 undef=.slice (some ⟨gL,0,none⟩) nL cL:=k0;have k1:a.tmps.getD 68 undef=.int .i64 (i:Int):=k1;go_simp;exact hK _ _ (Below.refl _ _) hW rfl
  refine⟨fun a w hW hk K hK=>?_,?_⟩
  ·obtain⟨k0,-⟩:=hk
   have k0:a.tmps.getD 69 undef=.pointer (some ⟨gL,i*3,none⟩):=k0;go_simp;exact hK _ _ (Below.refl _ _) hW rfl
  refine⟨fun a w hW hk K hK=>?_,?_⟩
  ·obtain⟨k0,-⟩:=hk
   have k0:a.tmps.getD 70 undef=.pointer (some ⟨gL,i*3+1,none⟩):=k0;have c0:=Qi v1 hW;go_simp;exact hK _ _ (Below.refl _ _) hW rfl
  refine⟨fun a w hW hk K hK=>?_,?_⟩
  ·obtain⟨k0,k1,-⟩:=hk
   have k0:a.tmps.getD 62 undef=.slice (some ⟨gH,0,none⟩) nH cH:=k0;have k1:a.tmps.getD 71 undef=.int .i64 (r:Int):=k1;go_simp;exact hK _ _ (Below.refl _ _) hW rfl
  trivial
theorem KAt.same6 {w:World}{b:Nat}{O:Nat→Prop}{s:JSt}{v:Value}(h:KAt w b O s) (hv:w.cell? ⟨b,6,none⟩=some v) (k:Nat):(w.setCell ⟨b,6,none⟩ v).heap[k]?=w.heap[k]?:=by
 obtain⟨pm,cm,a1,c1,a2,c2,a3,c3,h,vL,k1,-⟩:=h
 have e:=(Qb k1 6 _ rfl).symm.trans hv;simp only[Option.some.injEq] at e
 by_cases hk:k=b
 ·subst hk;rw[Qo k1,k1,← e];rfl
 ·exact Below.heap_setCell _ _ _ _ hk
end Go.Proofs.YtacjnejckfhpoadGreat
namespace Go.Proofs.YtacjnejckfhpoadGreat
set_option linter.unusedSimpArgs false
set_option linter.unusedVariables false
end Go.Proofs.YtacjnejckfhpoadGreat
namespace Go.Proofs.YtacjnejckfhpoadGreat
open Go.ChangeShapes Go.WideShapes Go.ChangeAt Go.RowKit
set_option linter.unusedSimpArgs false
set_option linter.unusedVariables false
structure RfS (w wr:World) (X R:Nat) (pm:Option Addr) (N cm:Nat):Prop where
 bel:Below w.heap.size w wr
 x:Blk wr X #[.slice pm N cm] 24
 r:Blk wr R #[.int .i64 0,.int .i64 0] 30
theorem RfS.below {w wr w':World}{X R:Nat}{pm:Option Addr}{N cm:Nat}(h:RfS w wr X R pm N cm) (k:Below wr.heap.size wr w'):RfS w w' X R pm N cm :=
 ⟨h.bel.trans (k.mono h.bel.size),(k.block X (lt_of_block h.x)).trans h.x,(k.block R (lt_of_block h.r)).trans h.r⟩
theorem RfS.step {w wr w':World}{X R:Nat}{pm:Option Addr}{N cm:Nat}{O O':Nat→Prop}(h:RfS w wr X R pm N cm) (k:Zj O O' wr w') (hx:¬ O X) (hr:¬ O R) (hO:∀ k,O k→w.heap.size≤k):RfS w w' X R pm N cm :=
 ⟨h.bel.trans (k.below h.bel.size hO),(k.block X (lt_of_block h.x) hx).trans h.x,(k.block R (lt_of_block h.r) hr).trans h.r⟩
structure RfI (w wr:World) (X R Bx B:Nat) (pm:Option Addr) (N cm:Nat) (cs:Array Value) (s:JSt) (O:Nat→Prop):Prop where
 top:RfS w wr X R pm N cm
 box:Blk wr Bx cs 84
 known:KAt wr B O s
 own:∀ k,O k→w.heap.size≤k∧k<wr.heap.size
 nx:¬ O X
 nr:¬ O R
 nb:¬ O Bx
theorem RfI.to {w wr w':World}{X R Bx B:Nat}{pm:Option Addr}{N cm:Nat}{cs:Array Value}{s s':JSt}{O:Nat→Prop}(h:RfI w wr X R Bx B pm N cm cs s O) (k:KTo wr w' B O s'):∃ O',RfI w w' X R Bx B pm N cm cs s' O':=by
 obtain⟨O',h1,h2,h3⟩:=k
 have far:∀ {b:Nat},¬ O b→b<wr.heap.size→¬ O' b:=fun {b} hb hl e=>by rcases h2.own b e with e | e;exact hb e;omega
 have hs:=h.top.bel.size;exact⟨O',h.top.step h2 h.nx h.nr (fun k hk=>(h.own k hk).1),(h2.block Bx (lt_of_block h.box) h.nb).trans h.box,h1,fun k hk=>⟨by rcases h2.own k hk with e | e;exact(h.own k e).1;omega,h3 k hk⟩,far h.nx (lt_of_block h.top.x),far h.nr (lt_of_block h.top.r),far h.nb (lt_of_block h.box)⟩
theorem QeK {w:World}{R:Nat}(h:Blk w R #[.int .i64 0,.int .i64 0] 30) (c a:Int):Blk ((w.setCell ⟨R,0,none⟩ (.int .i64 c)).setCell ⟨R,1,none⟩ (.int .i64 a)) R #[.int .i64 c,.int .i64 a] 30:=by
 have:=Qo (Qo h 0 (.int .i64 c)) 1 (.int .i64 a)
 simpa using this
theorem QfP {α:Type}{f:Nat→α→Int × Int}:∀ {l:List α}{i:Nat},(firstF f i l).1=0→firstF f i l=(0,0)
 | [],i,h=>rfl
 | x::xs,i,h=>by
  simp only[firstF] at h ⊢
  split at h
  ·rename_i h1;exact absurd h h1
  ·rename_i h1
   rw[if_neg h1]
   exact QfP h
theorem Qdr {m:List (Qg 6)}(h:(modFault m).1=0):modFault m=(0,0):=by
 unfold modFault at h ⊢;split at h
 ·cases h
 ·rename_i h1
  rw[if_neg h1]
  exact QfP h
theorem Qi9 {m:List (Qg 6)}{f b:Int}(h:QeJ m f b=false):f<0∨(m.length:Int)≤f∨(∃ (i:Nat) (fn:Qg 6),f=(i:Int)∧m[i]?=some fn∧(b<0∨(fn.blocks.length:Int)≤b)):=by
 by_cases h0:f<0
 ·exact .inl h0
 by_cases h1:(m.length:Int)≤f
 ·exact .inr (.inl h1)
 obtain⟨i,rfl⟩:=Int.eq_ofNat_of_zero_le (Int.not_lt.1 h0)
 have hi:i<m.length:=by omega
 refine .inr (.inr ⟨i,m[i],rfl,List.getElem?_eq_getElem hi,?_⟩);by_cases hb:b<0
 ·exact .inl hb
 ·refine .inr (Int.not_lt.1 fun hb2=>?_);simp[QeJ,List.getElem?_eq_getElem hi,hb2] at h
  omega
theorem Qg7 {w:World}{m:List (Qg 6)}{p a1:Option Addr}{c N c1:Nat}{l:List Qz}{x:MEnd}{e:EP}(f b:Int) (hN:l.length=N) (hn:¬ 150<(N:Int)) (hq:¬ 1000<(x.many:Int)) (hng:¬ QX m) (hf0:(modFault m).1=0) (hhb:QeJ m f b=false) (hm:(Qak 6).In w All m [.slice p m.length c]) (hl:insC.list.In w All l [.slice a1 N c1]) (hx:QaU w All x e) (hra:-9223372036854775808≤x.a∧x.a≤9223372036854775807) (hcap:x.yes.regs.length≤e.cYR∧x.no.regs.length≤e.cNR) (hls:∀ y∈l,y.regs.length<1152921504606846976∧y.args.length<1152921504606846976) :
 Calls Tryz.prog 6 #[.agg #[.slice p m.length c],.int .i64 f,.int .i64 b,.slice a1 N c1,.agg (Zz x e)] w fun r w'=>r=.returned (.bool true)∧Below w.heap.size w w':=by
 have b0:=QO w (.cells #[.slice p m.length c] 24);have b1:=b0.trans ((QO (w.alloc (.cells #[.slice p m.length c] 24)) (.cells (Zz x e) 47)).mono b0.size);have HM:Hid ((Qak 6).In w All m [.slice p m.length c]):=hm;have HB:=Qa b1;have x0:=Qi (Qb (Qe w #[.slice p m.length c] 24) 0 _ rfl) (QO (w.alloc (.cells #[.slice p m.length c] 24)) (.cells (Zz x e) 47));have y3:=Qb (Qe (w.alloc (.cells #[.slice p m.length c] 24)) (Zz x e) 47) 3 _ rfl;have y4:=Qb (Qe (w.alloc (.cells #[.slice p m.length c] 24)) (Zz x e) 47) 4 _ rfl;have y6:=Qb (Qe (w.alloc (.cells #[.slice p m.length c] 24)) (Zz x e) 47) 6 _ rfl;have y7:=Qb (Qe (w.alloc (.cells #[.slice p m.length c] 24)) (Zz x e) 47) 7 _ rfl;have y8:=Qb (Qe (w.alloc (.cells #[.slice p m.length c] 24)) (Zz x e) 47) 8 _ rfl;have HXB:=Qa (Qe (w.alloc (.cells #[.slice p m.length c] 24)) (Zz x e) 47);have HNG:=Qa hng;have HF0:=Qa hf0;have HL:=Qa hl;have HN:=Qa hN;have HXI:=Qa hx;have HN1:=Qa hn;have HQ:=Qa hq;clear hm b1 b0 hng hf0 hl hx hN hn hq;go_enter Tryz.func6,Tryz.ntmps6
 go_upto_region 1 with fail
 generalize hw1:(w.alloc (.cells #[.slice p m.length c] 24)).alloc (.cells (Zz x e) 47)=w1 at HB HXB x0 y3 y4 y6 y7 y8 ⊢;clear hw1;have hY:(w.alloc (.cells #[.slice p m.length c] 24)).heap.size=w.heap.size+1:=by show (w.heap.push _).size=_;exact Array.size_push _
 rw[hY] at HXB y3 y4 y6 y7 y8
 clear hY;obtain⟨X,hX⟩:∃ X,X=w.heap.size:=⟨_,rfl⟩
 rw[← hX] at HXB x0 y3 y4 y6 y7 y8 ⊢
 have HXE:=Qa hX;clear hX;go_wp2_with fail
 refine(Qap w1).mono ?_
 rintro e2 w2 ⟨rfl,b2⟩;have HB1:=Qa HB.out;have HB2:=Qa (HB.out.trans (b2.mono HB.out.size));have x2:=Qi x0 b2;have y3:=Qi y3 b2;have y4:=Qi y4 b2;have y6:=Qi y6 b2;have y7:=Qi y7 b2;have y8:=Qi y8 b2;have HD2:=Qa b2;have hd2:=b2.size;have HXB1:=HXB;have HXB:=Qa (((b2.block _ (lt_of_block HXB.out)).trans HXB.out));clear x0 b2 HB;have CG:=Qa (Qai 6 m p c w2 (Lay.below HM.out HB2.out));unfold Rd at CG;have HHB:=Qa hhb;have HLS:=Qa hls;clear hhb hls;rw[QF HNG.out] at CG
 have hn:=HN1.out;have hn':decide ((N:Int)>150)=false:=decide_eq_false (by omega);have hq:=HQ.out;unfold MEnd.many at hq;go_wp2_with fail
 refine CG.out.mono ?_;rintro e3 w3 ⟨rfl,b3⟩;have HB3:=Qa (HB2.out.trans (b3.mono HB2.out.size));have HXB:=Qa (((b3.block _ (lt_of_block HXB.out)).trans HXB.out));have HD3:=Qa (HD2.out.trans (b3.mono HD2.out.size));have x3:=Qi x2 b3;have y3:=Qi y3 b3;have y4:=Qi y4 b3;have y6:=Qi y6 b3;have y7:=Qi y7 b3;have y8:=Qi y8 b3;clear b3 CG x2 HB2;have CN:=Qa (QdU f b HNG.out (Lay.below HM.out HB3.out));go_wp2_with fail
 refine CN.out.mono ?_;rintro e4 w4 ⟨b4,hN4⟩;have HB4:=Qa (HB3.out.trans (b4.mono HB3.out.size));have HXB:=Qa (((b4.block _ (lt_of_block HXB.out)).trans HXB.out));have hs3:=HD3.out.size;have HD4:=Qa (HD3.out.trans (b4.mono HD3.out.size));have x4:=Qi x3 b4;clear b4 CN x3 y3 y4 y6 y7 y8;rcases hN4 with ⟨hf,rfl⟩|⟨-,hno,rfl⟩|⟨-,hno,i,j,fn,g,B,O,A,rfl,rfl,hfn,hgb,rfl,hS,hA⟩
 rotate_right
 ·rw[HHB.out] at hno;cases hno
 ·exact absurd HF0.out hf
 have b5:=QO w4 (.cells #[.int .i64 1,.int .i64 (-1)] 30);have HB5:=Qa (HB4.out.trans (b5.mono HB4.out.size));have x5:=Qi x4 b5;have z5:Hid (Blk (w4.alloc (.cells #[.int .i64 1,.int .i64 (-1)] 30)) w4.heap.size #[.int .i64 1,.int .i64 (-1)] 30):=Blk.new _ _ _;clear b5 HB4 HB3 hs3 x4 HD2 HD3 HD4 hd2;go_upto_region 6 with fail
 generalize hw5:w4.alloc (.cells #[.int .i64 1,.int .i64 (-1)] 30)=w5 at HB5 x5 z5 ⊢;clear hw5;generalize w4.heap.size=F1 at z5 ⊢;have CF:=Qa (QaI (Lay.below HM.out HB5.out) (Qa8 HNG.out));rw[Qdr HF0.out] at CF
 unfold Rd at CF;go_wp2_with fail
 refine CF.out.mono ?_;rintro e6 w6 ⟨rfl,b6⟩;have b7:=b6.trans ((QO w6 (.cells #[.int .i64 0,.int .i64 0] 30)).mono b6.size);have x7:=Qi x5 b7;have HB7:=Qa (HB5.out.trans (b7.mono HB5.out.size));have Z5:=Qa (z5.out.below b7);have Z7:Hid (Blk (w6.alloc (.cells #[.int .i64 0,.int .i64 0] 30)) w6.heap.size #[.int .i64 0,.int .i64 0] 30):=Blk.new _ _ _;have HFF:Hid (w.heap.size≤w6.heap.size∧F1<w6.heap.size):=⟨Nat.le_trans HB5.out.size b6.size,Nat.lt_of_lt_of_le z5.out.lt b6.size⟩;clear b6 b7 CF x5 HB5 z5;go_upto_region 7 with fail
 generalize hw7:w6.alloc (.cells #[.int .i64 0,.int .i64 0] 30)=w7 at HB7 x7 Z5 Z7 ⊢;clear hw7;generalize w6.heap.size=F2 at Z7 HFF ⊢;have RB:Hid (Blk ((w7.setCell ⟨F2,0,none⟩ (.int .i64 1)).setCell ⟨F2,1,none⟩ (.int .i64 (-1))) F2 #[.int .i64 1,.int .i64 (-1)] 30):=QeK Z7.out _ _
 have RA:Hid (Blk ((w7.setCell ⟨F2,0,none⟩ (.int .i64 1)).setCell ⟨F2,1,none⟩ (.int .i64 (-1))) F1 #[.int .i64 1,.int .i64 (-1)] 30):=by
  have:=HFF.out
  exact Blk.setOther (p:=⟨F2,1,none⟩) (Blk.setOther (p:=⟨F2,0,none⟩) Z5.out (by show F2≠F1;omega) _) (by show F2≠F1;omega) _
 have BL:Hid (Below w.heap.size w ((w7.setCell ⟨F2,0,none⟩ (.int .i64 1)).setCell ⟨F2,1,none⟩ (.int .i64 (-1)))):=(HB7.out.setCell (p:=⟨F2,0,none⟩) HFF.out.1 _).setCell (p:=⟨F2,1,none⟩) HFF.out.1 _;have z70:=Qb Z7.out 0 _ rfl;have z71:=Qb Z7.out 1 _ rfl;have y0:=Qp Z7.out 0;have y1:=Qp Z7.out 1;have hno2:f<0∨(m.length:Int)≤f∨(∃ (i:Nat) (fn:Qg 6),f=(i:Int)∧m[i]?=some fn∧(b<0∨(fn.blocks.length:Int)≤b)):=Qi9 hno;clear hno Z5 Z7 HFF;rcases hno2 with h | h | ⟨i,fn,rfl,hfn,h⟩
 ·have h1:decide (f<0)=true:=decide_eq_true h;go_upto_region 9 with fail
  generalize (w7.setCell ⟨F2,0,none⟩ (.int .i64 1)).setCell ⟨F2,1,none⟩ (.int .i64 (-1))=w9 at RB RA BL ⊢;have q0:=Qb RB.out 0 _ rfl;have q1:=Qb RB.out 1 _ rfl;have q2:=Qb RA.out 0 _ rfl;have q3:=Qb RA.out 1 _ rfl;clear z70 z71 y0 y1 x7;go_wp2_with fail
  go_ret;exact⟨rfl,BL.out⟩
 ·have h1:decide (f<0)=false:=decide_eq_false (by omega);have h2:decide (f≥(m.length:Int))=true:=decide_eq_true h;go_upto_region 9 with fail
  generalize (w7.setCell ⟨F2,0,none⟩ (.int .i64 1)).setCell ⟨F2,1,none⟩ (.int .i64 (-1))=w9 at RB RA BL ⊢;have q0:=Qb RB.out 0 _ rfl;have q1:=Qb RB.out 1 _ rfl;have q2:=Qb RA.out 0 _ rfl;have q3:=Qb RA.out 1 _ rfl;clear z70 z71 y0 y1 x7;go_wp2_with fail
  go_ret;exact⟨rfl,BL.out⟩
 have hi1:(i:Int)<m.length:=by have:=(List.getElem?_eq_some_iff.1 hfn).1;omega
 have hi0:(0:Int)≤i:=by omega
 rcases h with h | h
 ·have h3:decide (b<0)=true:=decide_eq_true h;go_upto_region 9 with fail
  generalize (w7.setCell ⟨F2,0,none⟩ (.int .i64 1)).setCell ⟨F2,1,none⟩ (.int .i64 (-1))=w9 at RB RA BL ⊢;have q0:=Qb RB.out 0 _ rfl;have q1:=Qb RB.out 1 _ rfl;have q2:=Qb RA.out 0 _ rfl;have q3:=Qb RA.out 1 _ rfl;clear z70 z71 y0 y1 x7;go_wp2_with fail
  go_ret;exact⟨rfl,BL.out⟩
 have hb0:¬ b<0:=by omega
 obtain⟨mg,mo,ds,rfl,-,-,hcs,hfn2⟩:=Lay.list_at HM.out hfn
 obtain⟨fa,fc,fb,fd,fe,ff,rfl,-,-,-,-⟩:=Zx hfn2
 have v3:=Qi (show w.cell? ⟨mg,mo+i*4+3,none⟩=some (.slice fe fn.blocks.length ff) from hcs 3 (by decide)) HB7.out;have h3:decide (b<0)=false:=decide_eq_false hb0;have h4:decide (b≥(fn.blocks.length:Int))=true:=decide_eq_true h;clear hcs hfn2;go_upto_region 9 with fail
 generalize (w7.setCell ⟨F2,0,none⟩ (.int .i64 1)).setCell ⟨F2,1,none⟩ (.int .i64 (-1))=w9 at RB RA BL ⊢;have q0:=Qb RB.out 0 _ rfl;have q1:=Qb RB.out 1 _ rfl;have q2:=Qb RA.out 0 _ rfl;have q3:=Qb RA.out 1 _ rfl;clear z70 z71 y0 y1 x7;go_wp2_with fail
 go_ret;exact⟨rfl,BL.out⟩
def Qb1 (w:World) (b:Nat) (O A:Nat→Prop) (s:JSt):Prop :=
 ∃ pm cm a1 c1 a2 c2 a3 c3 h vL,w.heap[b]?=some (.cells #[.slice pm s.m.length cm,.int .i64 s.f.regs,.slice a1 s.f.params.length c1,.slice a2 s.f.results.length c2,.slice a3 s.f.blocks.length c3,.pointer (some ⟨h,0,none⟩),vL] 65 (0,0)) ∧
  (Qak 6).In w (fun g=>¬ A g) s.m [.slice pm s.m.length cm]∧(Zs 6).In w (fun g=>¬ A g) s.f [.int .i64 s.f.regs,.slice a1 s.f.params.length c1,.slice a2 s.f.results.length c2,.slice a3 s.f.blocks.length c3] ∧
  Qk w h O s.H∧TRq w O (fun g=>¬ A g) vL s.L∧O b∧∀ k,O k→A k
section
variable {w w':World}{b:Nat}{O A O' A':Nat→Prop}{s:JSt}
theorem Qb1.one (h:Qb1 w b O A s):KAt w b A s:=by
 obtain⟨pm,cm,a1,c1,a2,c2,a3,c3,h,vL,k1,k2,k3,k4,⟨xs,q1,q2,q3⟩,k6,k7⟩:=h
 exact⟨pm,cm,a1,c1,a2,c2,a3,c3,h,vL,k1,k2,k3,k4.mono k7,⟨xs,q1,fun g hg=>k7 g (q2 g hg),q3⟩,k7 b k6⟩
theorem Qb1.sub (h:Qb1 w b O A s):∀ k,O k→A k:=by obtain⟨pm,cm,a1,c1,a2,c2,a3,c3,h,vL,k1,k2,k3,k4,k5,k6,k7⟩:=h;exact k7
theorem Qb1.keep (h:Qb1 w b O A s) (hb:∀ k,k<w.heap.size→O k∨¬ A k→w'.heap[k]?=w.heap[k]?) (hO:∀ k,O k→k<w.heap.size→O' k) (hA:∀ k,¬ A k→k<w.heap.size→¬ A' k) (hs:∀ k,O' k→A' k):Qb1 w' b O' A' s:=by
 obtain⟨pm,cm,a1,c1,a2,c2,a3,c3,h,vL,k1,k2,k3,k4,k5,k6,k7⟩:=h
 refine⟨pm,cm,a1,c1,a2,c2,a3,c3,h,vL,(hb b (lt_of_block k1) (.inl k6)).trans k1,(Qak 6).keep (fun k hk hl=>hb k hl (.inr hk)) hA k2,(Zs 6).keep (fun k hk hl=>hb k hl (.inr hk)) hA k3,
  k4.keep (fun g hg hl=>hb g hl (.inl hg)) (fun g hg hl=>hO g hg hl),k5.keep (fun k hl hk=>hb k hl (hk.imp (fun e=>k5.own e) id)) (fun k hk=>hO k (k5.own hk) (k5.lt hk)) hA,hO b k6 (lt_of_block k1),hs⟩
theorem Qb1.below (h:Qb1 w b O A s) (k:Below w.heap.size w w'):Qb1 w' b O A s:=h.keep (fun g hg _=>k.block g hg) (fun _ h _=>h) (fun _ h _=>h) h.sub
end
def QaB (wA w:World) (b:Nat) (O A:Nat→Prop) (s:JSt):Prop :=
 ∃ N:Nat→Prop,(∀ k,N k→wA.heap.size≤k∧k<w.heap.size)∧Qb1 w b (fun k=>O k∨N k) (fun k=>A k∨N k) s∧Zj O (fun k=>O k∨N k) wA w
section
variable {w w9 wA wB:World}{b:Nat}{O A:Nat→Prop}{s s':JSt}
theorem QaB.same (h:Qb1 w b O A s):QaB w w b O A s :=
 ⟨fun _=>False,fun _ h=>h.elim,h.keep (fun _ _ _=>rfl) (fun _ h _=>.inl h) (fun _ h _=>by simpa using h) (fun k hk=>hk.imp (h.sub k) id),⟨rfl,rfl,rfl,Nat.le_refl _,fun _ _ _=>rfl,fun k hk=>.inl (by simpa using hk)⟩⟩
theorem QaB.after (h:QaB wA w b O A s) (hb:Below wB.heap.size wB wA):QaB wB w b O A s:=by
 obtain⟨N,h1,h2,h3⟩:=h
 have:=hb.size
 exact⟨N,fun k hk=>⟨Nat.le_trans hb.size (h1 k hk).1,(h1 k hk).2⟩,h2,⟨h3.os.trans hb.os,h3.tape.trans hb.tape,h3.output.trans hb.output,Nat.le_trans hb.size h3.size,fun k hk hn=>(h3.block k (by omega) hn).trans (hb.block k hk),fun k hk=>(h3.own k hk).imp id fun e=>Nat.le_trans hb.size e⟩⟩
theorem QaB.of_below (h:Qb1 w b O A s) (hb:Below w.heap.size w w9):QaB w w9 b O A s:=(QaB.same (h.below hb)).after hb
theorem QaB.join {N:Nat→Prop}(h1:∀ k,N k→wA.heap.size≤k∧k<w.heap.size) (h3:Zj O (fun k=>O k∨N k) wA w) (g:QaB w wB b (fun k=>O k∨N k) (fun k=>A k∨N k) s'):QaB wA wB b O A s':=by
 obtain⟨M,g1,g2,g3⟩:=g
 have e1:=h3.size;have e2:=g3.size;refine⟨fun k=>N k∨M k,fun k hk=>?_,?_,?_⟩
 ·rcases hk with hk | hk
  ·have:=h1 k hk;omega
  ·have:=g1 k hk;omega
 ·exact g2.keep (fun _ _ _=>rfl) (fun k hk _=>by simpa[or_assoc] using hk) (fun k hk _=>by simpa[or_assoc,not_or,and_assoc] using hk) (fun k hk=>by have:=g2.sub k (by simpa[or_assoc] using hk);simpa[or_assoc] using this)
 ·refine⟨g3.os.trans h3.os,g3.tape.trans h3.tape,g3.output.trans h3.output,Nat.le_trans e1 e2,fun k hk hn=>(g3.block k (by omega) (fun e=>?_)).trans (h3.block k hk hn),fun k hk=>?_⟩
  ·rcases e with e | e
   ·exact hn e
   ·have:=h1 k e;omega
  ·rcases hk with hk | hk | hk
   ·exact .inl hk
   ·exact .inr (h1 k hk).1
   ·exact .inr (Nat.le_trans e1 (g1 k hk).1)
theorem Qb1.pushH (hO:∀ k,A k→k<wA.heap.size) (h:Qb1 wA b O A s):∃ hh a cap,wA.cell? ⟨b,5,none⟩=some (.pointer (some ⟨hh,0,none⟩))∧wA.cell? ⟨hh,0,none⟩=some (.slice a s.H.length cap)∧wA.ownsRow 0 4 1 (.slice a s.H.length cap) s.H.length (s.H.map Value.bool) ∧
 (∀ w9,wA.grownBy w9 (Value.slice a s.H.length cap).ownBlock→w9.cell? ⟨b,5,none⟩=some (.pointer (some ⟨hh,0,none⟩))∧w9.cell? ⟨hh,0,none⟩=some (.slice a s.H.length cap)∧w9.frozen? ⟨hh,0,none⟩=false) ∧
 ∀ w9 g cap2,w9.ownsRow 0 4 1 (.slice (some ⟨g,0,none⟩) (s.H.length+1) cap2) (s.H.length+1) (s.H.map Value.bool++[.bool true])→wA.grownBy w9 (Value.slice a s.H.length cap).ownBlock→((Value.slice a s.H.length cap).ownBlock=some g∨wA.heap.size≤g)→g<w9.heap.size →
  QaB wA (w9.setCell ⟨hh,0,none⟩ (.slice (some ⟨g,0,none⟩) (s.H.length+1) cap2)) b O A { s with H:=s.H++[true] }:=by
 obtain⟨pm,cm,a1,c1,a2,c2,a3,c3,hh,vL,k1,k2,k3,k4,k5,k6,k7⟩:=h
 obtain⟨a,cap,e1,e2,e3,-⟩:=k4.cells
 have hv:∀ g',(Value.slice a s.H.length cap).ownBlock=some g'→O g'∧∃ c,wA.heap[g']?=some (.cells c 4 (0,0)):=by
  obtain⟨v,q1,q2,q3⟩:=id k4
  have e:=Qb q1 0 _ rfl;rw[e1] at e
  simp only[Option.some.injEq] at e
  subst e;exact fun g' hg'=>⟨q2.2 g' hg',q2.block hg'⟩
 obtain⟨ch,hch⟩:∃ c,wA.heap[hh]?=some (.cells c 74 (0,0)):=by obtain⟨v,q1,-⟩:=id k4;exact⟨_,q1⟩
 have hbl:=lt_of_block k1
 have hnb:∀ g',(Value.slice a s.H.length cap).ownBlock=some g'→b≠g':=fun g' hg'=>by
  obtain⟨c,hc⟩:=(hv g' hg').2
  exact QT k1 hc (by decide)
 have hnh:∀ g',(Value.slice a s.H.length cap).ownBlock=some g'→hh≠g':=fun g' hg'=>by
  obtain⟨c,hc⟩:=(hv g' hg').2
  exact QT hch hc (by decide)
 have hbh:b≠hh:=QT k1 hch (by decide);refine⟨hh,a,cap,Qb k1 5 _ rfl,e1,e3,fun w9 hg=>?_,fun w9 g cap2 h1 h2 h3 h4=>?_⟩
 ·have r1:w9.heap[hh]?=some (.cells ch 74 (0,0)):=(hg.block hh k4.lt (fun e=>hnh hh e.symm rfl)).trans hch;exact⟨(hg.cell_far ⟨b,5,none⟩ hbl (fun e=>hnb b e.symm rfl)).trans (Qb k1 5 _ rfl),(hg.cell_far ⟨hh,0,none⟩ k4.lt (fun e=>hnh hh e.symm rfl)).trans e1,Qp r1 0⟩
 obtain⟨-,-,r3,r4⟩:=k4.push2 e1 h1 h2 h3 h4
 have hsz:=h2.size;have low:∀ k,¬ A k→k<wA.heap.size→¬ (A k∨(wA.heap.size≤k∧k<w9.heap.size)):=fun k hk hl e=>by rcases e with e | e;exact hk e;omega
 refine⟨fun k=>wA.heap.size≤k∧k<w9.heap.size,fun k hk=>by rw[World.size_setCell];exact hk,⟨pm,cm,a1,c1,a2,c2,a3,c3,hh,vL,?_,(Qak 6).keep (fun k hk hl=>r4.block k hl (fun e=>hk (k7 k e))) low k2,(Zs 6).keep (fun k hk hl=>r4.block k hl (fun e=>hk (k7 k e))) low k3,r3,k5.keep (fun k hl hk=>?_) (fun k hk=>.inl (k5.own hk)) low,.inl k6,fun k hk=>hk.imp (k7 k) id⟩,r4⟩
 ·rw[Below.heap_setCell _ _ _ _ (show b≠hh from hbh),h2.block b hbl (fun e=>hnb b e.symm rfl)];exact k1
 ·rcases hk with hk | hk
  ·obtain⟨c,hc⟩:=k5.block hk
   rw[Below.heap_setCell _ _ _ _ (show k≠hh from QT hc hch (by decide)),h2.block k hl (fun e=>by obtain⟨c',hc'⟩:=(hv k e.symm).2;exact QT hc hc' (by decide) rfl)]
  ·exact r4.block k hl (fun e=>hk (k7 k e))
theorem Qb1.setH (hO:∀ k,A k→k<wA.heap.size) (h:Qb1 wA b O A s):∃ hh a cap,wA.cell? ⟨b,5,none⟩=some (.pointer (some ⟨hh,0,none⟩))∧wA.cell? ⟨hh,0,none⟩=some (.slice a s.H.length cap) ∧
 ∀ i,i<s.H.length→∃ g,a=some ⟨g,0,none⟩∧(∃ u,wA.cell? ⟨g,i,none⟩=some (.bool u))∧wA.frozen? ⟨g,i,none⟩=false∧QaB wA (wA.setCell ⟨g,i,none⟩ (.bool false)) b O A { s with H:=s.H.set i false }:=by
 obtain⟨pm,cm,a1,c1,a2,c2,a3,c3,hh,vL,k1,k2,k3,k4,k5,k6,k7⟩:=h
 obtain⟨a,cap,e1,e2,e3,e4⟩:=k4.cells
 have hv:∀ g',(Value.slice a s.H.length cap).ownBlock=some g'→O g'∧∃ c,wA.heap[g']?=some (.cells c 4 (0,0)):=by
  obtain⟨v,q1,q2,q3⟩:=id k4
  have e:=Qb q1 0 _ rfl;rw[e1] at e
  simp only[Option.some.injEq] at e
  subst e;exact fun g' hg'=>⟨q2.2 g' hg',q2.block hg'⟩
 refine⟨hh,a,cap,Qb k1 5 _ rfl,e1,fun i hi=>?_⟩
 obtain⟨g,rfl,hg,f1,f2,f3⟩:=e4 i hi
 obtain⟨c,hc⟩:=(hv g rfl).2
 have st:Zj O O wA (wA.setCell ⟨g,i,none⟩ (.bool false)):=⟨rfl,rfl,rfl,by simp,fun k hk hn=>Below.heap_setCell _ _ _ _ (fun e=>hn (by subst e;exact hg)),fun k hk=>.inl hk⟩;have st2:Zj O (fun k=>O k∨False) wA (wA.setCell ⟨g,i,none⟩ (.bool false)):=⟨rfl,rfl,rfl,st.size,st.block,fun k hk=>.inl (by simpa using hk)⟩;refine⟨g,rfl,⟨_,f1⟩,f2,fun _=>False,fun _ h=>h.elim,⟨pm,cm,a1,c1,a2,c2,a3,c3,hh,vL,?_,(Qak 6).keep (fun k hk hl=>st.block k hl (fun e=>hk (k7 k e))) (fun k hk _=>by simpa using hk) k2,(Zs 6).keep (fun k hk hl=>st.block k hl (fun e=>hk (k7 k e))) (fun k hk _=>by simpa using hk) k3,(f3 false).mono (fun k hk=>.inl hk),k5.keep (fun k hl hk=>?_) (fun k hk=>.inl (k5.own hk)) (fun k hk _=>by simpa using hk),.inl k6,fun k hk=>hk.imp (k7 k) id⟩,st2⟩
 ·rw[Below.heap_setCell _ _ _ _ (show b≠g from QT k1 hc (by decide))];exact k1
 ·rcases hk with hk | hk
  ·obtain⟨c',hc'⟩:=k5.block hk
   exact Below.heap_setCell _ _ _ _ (show k≠g from QT hc' hc (by decide))
  ·exact st.block k hl (fun e=>hk (k7 k e))
theorem Qb1.pushL (hO:∀ k,A k→k<wA.heap.size) (h:Qb1 wA b O A s):∃ aL cL xs,wA.cell? ⟨b,6,none⟩=some (.slice aL s.L.length cL)∧wA.frozen? ⟨b,6,none⟩=false∧s.L.length≤cL∧wA.ownsRow 0 79 3 (.slice aL s.L.length cL) s.L.length xs ∧
 ∀ w9 g cap2 (l:List (TT 6)) ds,ds.length=l.length*3→w9.ownsRow 0 79 3 (.slice (some ⟨g,0,none⟩) (s.L.length+l.length) cap2) (s.L.length+l.length) (xs++ds)→wA.grownBy w9 (Value.slice aL s.L.length cL).ownBlock→((Value.slice aL s.L.length cL).ownBlock=some g∨g=wA.heap.size)→g<w9.heap.size →
  (∀ i x,l[i]?=some x→(Lay.tt 6).In wA (fun g=>¬ A g) x ((ds.drop (i*3)).take 3)) →
  w9.cell? ⟨b,6,none⟩=some (.slice aL s.L.length cL)∧w9.frozen? ⟨b,6,none⟩=false∧QaB wA (w9.setCell ⟨b,6,none⟩ (.slice (some ⟨g,0,none⟩) (s.L.length+l.length) cap2)) b O A { s with L:=s.L++l }:=by
 obtain⟨pm,cm,a1,c1,a2,c2,a3,c3,hh,vL,k1,k2,k3,k4,k5,k6,k7⟩:=h
 obtain⟨aL,cL,rfl,-,-,-⟩:=k5.form
 have hv:∀ {g'},(Value.slice aL s.L.length cL).ownBlock=some g'→O g'∧∃ c,wA.heap[g']?=some (.cells c 79 (0,0)):=fun {g'} hg'=>⟨by obtain⟨xs,q1,q2,q3⟩:=id k5;exact q2 g' hg',k5.block hg'⟩;obtain⟨xs,q1,q2,q3⟩:=k5
 obtain⟨ch,hch⟩:∃ c,wA.heap[hh]?=some (.cells c 74 (0,0)):=by obtain⟨v,q1,-⟩:=id k4;exact⟨_,q1⟩
 have hbl:=lt_of_block k1
 have hnb:∀ g',(Value.slice aL s.L.length cL).ownBlock=some g'→b≠g':=fun g' hg'=>by
  obtain⟨c,hc⟩:=(hv hg').2
  exact QT k1 hc (by decide)
 have hle:s.L.length≤cL:=by
  obtain⟨-,q⟩:=id q1
  rcases q with ⟨e,e2⟩|⟨g,cap,cur,e,_,_,hn,_⟩
  ·omega
  ·simp only[Value.slice.injEq] at e;omega
 refine⟨aL,cL,xs,Qb k1 6 _ rfl,Qp k1 6,hle,q1,fun w9 g cap2 l ds hdl h1 h2 h3 h4 h5=>?_⟩
 have hsz:=h2.size;have kb:=(h2.block b hbl (fun e=>hnb b e.symm rfl)).trans k1
 have hgb:b≠g:=by
  rcases h3 with h | h
  ·exact hnb g h
  ·omega
 have low:∀ k,¬ A k→k<wA.heap.size→¬ (A k∨(wA.heap.size≤k∧k<w9.heap.size)):=fun k hk hl e=>by rcases e with e | e;exact hk e;omega
 have r4:Zj O (fun x=>O x∨(wA.heap.size≤x∧x<w9.heap.size)) wA (w9.setCell ⟨b,6,none⟩ (.slice (some ⟨g,0,none⟩) (s.L.length+l.length) cap2)):=by
  refine⟨h2.os,h2.tape,h2.output,by simp;omega,fun k hk hn=>?_,fun k hk=>hk.imp id fun h=>h.1⟩
  rw[Below.heap_setCell _ _ _ _ (fun e=>hn (by subst e;exact k6)),h2.block k hk (fun e=>hn (hv e.symm).1)]
 refine⟨Qb kb 6 _ rfl,Qp kb 6,fun k=>wA.heap.size≤k∧k<w9.heap.size,fun k hk=>by rw[World.size_setCell];exact hk,⟨pm,cm,a1,c1,a2,c2,a3,c3,hh,.slice (some ⟨g,0,none⟩) (s.L.length+l.length) cap2,?_,(Qak 6).keep (fun k hk hl=>r4.block k hl (fun e=>hk (k7 k e))) low k2,(Zs 6).keep (fun k hk hl=>r4.block k hl (fun e=>hk (k7 k e))) low k3,k4.keep2 (fun k c t hk ht=>?_) (fun k hk=>.inl hk),?_,.inl k6,fun k hk=>hk.imp (k7 k) id⟩,r4⟩
 ·rw[Qo kb];rfl
 ·rw[Below.heap_setCell _ _ _ _ (show k≠b from QT hk k1 (by rcases ht with rfl | rfl<;>decide)),h2.block k (lt_of_block hk) (fun e=>by obtain⟨c',hc'⟩:=(hv e.symm).2;exact QT hk hc' (by rcases ht with rfl | rfl<;>decide) rfl)]
 ·refine⟨xs++ds,?_,fun k hk=>?_,?_⟩
  ·rw[List.length_append]
   exact Qby h1 (Below.heap_setCell _ _ _ _ (show g≠b from fun e=>hgb e.symm))
  ·simp[Value.ownBlock] at hk
   subst hk;rcases h3 with h | h
   ·exact .inl (hv h).1
   ·exact .inr ⟨by omega,h4⟩
  ·refine QaO (s:=3) (P:=fun x cs=>(Lay.tt 6).In _ _ x cs) q1.1 (fun i x hx=>?_) (fun i x hx=>?_)
   ·exact(Lay.tt 6).keep (fun k hk hl=>r4.block k hl (fun e=>hk (k7 k e))) low (q3 i x hx)
   ·exact(Lay.tt 6).keep (fun k hk hl=>r4.block k hl (fun e=>hk (k7 k e))) low (h5 i x hx)
end
theorem ZE.viab {l:List Oper}{S:Nat→Bool}(hcl:ZE l S){q i:Nat}{o:Oper}(ho:l[q]?=some o) (hw:Qbj l 24 o i=true) (hq:S q=true):S i=true :=
 QaZ (all:=l) (S:=fun j=>S j=true) hcl 24 o hw (hcl q o ho hq)
theorem ZM {i j:Nat}{S:Nat→Bool}(h:j≠i):Qan i S j=S j:=by
 have:(j==i)=false:=by simpa using h
 unfold Qan;rw[this,Bool.false_or]
theorem QcD {i:Nat}{S:Nat→Bool}:Qan i S i=true:=by simp[Qan]
theorem Qez {w w':World}(h:Below w.heap.size w w') (row:Option Nat):w.grownBy w' row:=⟨h.os,h.tape,h.output,h.size,fun k hk _=>h.block k hk⟩
def hTib:List (Nat × Tmp):=[(0,38),(1,39),(2,40),(3,41),(4,42),(5,43),(6,44),(7,45),(8,46),(9,47),(10,48),(11,49),(12,50),(13,51),(14,52)]
def Qly (b hh rn rc G g2 cap2:Nat) (ra:Option Addr):List (Tmp × Value):=[(38,.pointer (some ⟨b,0,none⟩)),(39,.pointer (some ⟨b,0,none⟩)),(40,.pointer (some ⟨b,5,none⟩)),(41,.pointer (some ⟨hh,0,none⟩)),(42,.pointer (some ⟨b,0,none⟩)),(43,.pointer (some ⟨b,0,none⟩)),(44,.pointer (some ⟨b,5,none⟩)),(45,.pointer (some ⟨hh,0,none⟩)),(46,.pointer (some ⟨hh,0,none⟩)),(47,.pointer (some ⟨hh,0,none⟩)),(48,.slice ra rn rc),(49,.slice (some ⟨G,0,none⟩) 1 1),(50,.slice (some ⟨g2,0,none⟩) (rn+1) cap2),(51,.pointer (some ⟨hh,0,none⟩)),(52,.pointer (some ⟨hh,0,none⟩))]
def Qk0 (n:Nat) (a0:Act) (wA:World) (b:Nat) (O A:Nat→Prop) (s:JSt) (hh rn rc:Nat) (ra:Option Addr) (S:Nat→Bool) (a:Act) (w:World):Prop :=
 a.tmps.size=n∧a.defers=[]∧(∀ t,([38,39,40,41,42,43,44,45,46,47,48,49,50,51,52]:List Tmp).contains t=false→a.tmps.getD t undef=a0.tmps.getD t undef)∧∃ G g2 cap2,
  (∀ x∈hTib,S x.1=true→∀ v,(Qly b hh rn rc G g2 cap2 ra).lookup x.2=some v→a.tmps.getD x.2 undef=v) ∧
  (S 15=false→wA.grownBy w (Value.slice ra rn rc).ownBlock∧(S 12=false→Below wA.heap.size wA w∧(S 11=true→wA.heap.size≤G∧w.heap[G]?=some (.cells #[.bool true] 4 (0,0)))) ∧
   (S 12=true→w.ownsRow 0 4 1 (.slice (some ⟨g2,0,none⟩) (rn+1) cap2) (rn+1) (s.H.map Value.bool++[.bool true])∧((Value.slice ra rn rc).ownBlock=some g2∨wA.heap.size≤g2)∧g2<w.heap.size)) ∧
  (S 15=true→QaB wA w b O A { s with H:=s.H++[true] })
section
variable {n:Nat}{a0 a:Act}{wA w w':World}{b hh rn rc:Nat}{O A:Nat→Prop}{s:JSt}{ra:Option Addr}{S:Nat→Bool}
theorem hTi_ltb:∀ x∈hTib,x.2<53∧([38,39,40,41,42,43,44,45,46,47,48,49,50,51,52]:List Tmp).contains x.2=true:=by decide
theorem Qk0.pure {i:Nat}{t:Tmp}{v:Value}(hI:Qk0 n a0 wA b O A s hh rn rc ra S a w) (hn:53≤n) (hi:(i,t)∈hTib) (hv:∀ G g2 cap2,(Qly b hh rn rc G g2 cap2 ra).lookup t=some v) (h11:i≠11) (h12:i≠12) (h15:i≠15):Qk0 n a0 wA b O A s hh rn rc ra (Qan i S) (a.put (some t) v) w:=by
 obtain⟨h1,h2,h3,G,g2,cap2,h4,h5,h6⟩:=hI
 obtain⟨ht,htc⟩:=hTi_ltb _ hi
 have hta:t<a.tmps.size:=by rw[h1];exact Nat.lt_of_lt_of_le ht hn
 refine⟨by rw[← h1];simp[Act.put],h2,fun u hu=>?_,G,g2,cap2,fun x hx hs v' hv'=>?_,?_,?_⟩
 ·have:u≠t:=fun e=>by subst e;rw[htc] at hu;cases hu
  rw[Q9 hta,if_neg this];exact h3 u hu
 ·rw[Q9 hta]
  by_cases e:x.2=t
  ·rw[if_pos e];rw[e,hv] at hv';exact Option.some.inj hv'
  ·rw[if_neg e]
   refine h4 x hx (Q0 (fun e2=>e ?_) hs) v' hv'
   have:∀ x∈hTib,∀ y∈hTib,x.1=y.1→x.2=y.2:=by decide
   exact this x hx (i,t) hi e2
 ·rw[ZM (Ne.symm h15),ZM (Ne.symm h12),ZM (Ne.symm h11)];exact h5
 ·rw[ZM (Ne.symm h15)];exact h6
end
theorem bUnderb:Tryz.prog.underlying 72=some (.slice 4):=by kernel_rfl
theorem Qla {wA:World}{b:Nat}{O A:Nat→Prop}{s:JSt}(hO:∀ k,A k→k<wA.heap.size) (h:Qb1 wA b O A s) (h16:s.H.length≤16) (a:Act) (hn:a.tmps.size=82) (hdf:a.defers=[]) (h0:a.tmps.getD 0 undef=.pointer (some ⟨b,0,none⟩)) :
 Code.wp Tryz.prog ((Tryz.f24.body.bind (Qj 10)).getD .skip) (fun e a' w'=>e=.normal∧∃ vs,a'=Q5 a vs [38,39,40,41,42,43,44,45,46,47,48,49,50,51,52]∧QaB wA w' b O A { s with H:=s.H++[true] }) a wA:=by
 obtain⟨hh,ra,rc,q5,q0,hown,hfar,hpush⟩:=h.pushH hO
 obtain⟨i0,hi,hz0,hz1,hz2⟩:=hInfoB
 conv=>arg 2;whnf
 refine QdR (Qk0 82 a wA b O A s hh s.H.length rc ra) (by kernel_rfl) (by kernel_rfl) ?h0 ?hst ?hend
 case h0=>exact⟨hn,hdf,fun _ _=>rfl,0,0,0,fun _ _ h=>(by cases h),fun _=>⟨Qez (Qf (Below.refl _ _) 1) _,fun _=>⟨Qf (Below.refl _ _) 1,fun h=>by cases h⟩,fun h=>by cases h⟩,fun h=>by cases h⟩
 case hend =>
  rintro S a' w' hS ⟨h1,h2,h3,G,g2,cap2,h4,h5,h6⟩;have hS':∀ j,j<16→S j=true:=hS;exact⟨rfl,_,QfB (by rw[h1,hn]) (by rw[h2,hdf]) h3,h6 (hS' 15 (by decide))⟩
 case hst =>
  refine⟨fun S a1 w1 hS hd hcl hI K hK=>?_,?_⟩
  ·obtain⟨h1,h2,h3,G,g2,cap2,h4,h5,h6⟩:=id hI
   have H2:Hid (a1.defers=[]):=h2;clear h2;have n15:S 15=false:=hcl.no (q:=15) rfl (by kernel_rfl) hS;have k0:a1.tmps.getD 0 undef=.pointer (some ⟨b,0,none⟩):=(h3 0 (by kernel_rfl)).trans h0;go_simp;exact hK _ _ (hI.pure (by decide) (i:=0) (t:=38) (by decide) (fun _ _ _=>rfl) (by decide) (by decide) (by decide))
  refine⟨fun S a1 w1 hS hd hcl hI K hK=>?_,?_⟩
  ·obtain⟨h1,h2,h3,G,g2,cap2,h4,h5,h6⟩:=id hI
   have H2:Hid (a1.defers=[]):=h2;clear h2;have n15:S 15=false:=hcl.no (q:=15) rfl (by kernel_rfl) hS;have k0:a1.tmps.getD 38 undef=.pointer (some ⟨b,0,none⟩):=h4 (0,38) (by decide) (hd.at 0 (by kernel_rfl)) _ rfl;go_simp;exact hK _ _ (hI.pure (by decide) (i:=1) (t:=39) (by decide) (fun _ _ _=>rfl) (by decide) (by decide) (by decide))
  refine⟨fun S a1 w1 hS hd hcl hI K hK=>?_,?_⟩
  ·obtain⟨h1,h2,h3,G,g2,cap2,h4,h5,h6⟩:=id hI
   have H2:Hid (a1.defers=[]):=h2;clear h2;have n15:S 15=false:=hcl.no (q:=15) rfl (by kernel_rfl) hS;have k0:a1.tmps.getD 39 undef=.pointer (some ⟨b,0,none⟩):=h4 (1,39) (by decide) (hd.at 1 (by kernel_rfl)) _ rfl;go_simp;exact hK _ _ (hI.pure (by decide) (i:=2) (t:=40) (by decide) (fun _ _ _=>rfl) (by decide) (by decide) (by decide))
  refine⟨fun S a1 w1 hS hd hcl hI K hK=>?_,?_⟩
  ·obtain⟨h1,h2,h3,G,g2,cap2,h4,h5,h6⟩:=id hI
   have H2:Hid (a1.defers=[]):=h2;clear h2;have n15:S 15=false:=hcl.no (q:=15) rfl (by kernel_rfl) hS;have k0:a1.tmps.getD 40 undef=.pointer (some ⟨b,5,none⟩):=h4 (2,40) (by decide) (hd.at 2 (by kernel_rfl)) _ rfl;obtain⟨c0,-,-⟩:=hfar w1 (h5 n15).1
   go_simp;exact hK _ _ (hI.pure (by decide) (i:=3) (t:=41) (by decide) (fun _ _ _=>rfl) (by decide) (by decide) (by decide))
  refine⟨fun S a1 w1 hS hd hcl hI K hK=>?_,?_⟩
  ·obtain⟨h1,h2,h3,G,g2,cap2,h4,h5,h6⟩:=id hI
   have H2:Hid (a1.defers=[]):=h2;clear h2;have n15:S 15=false:=hcl.no (q:=15) rfl (by kernel_rfl) hS;have k0:a1.tmps.getD 0 undef=.pointer (some ⟨b,0,none⟩):=(h3 0 (by kernel_rfl)).trans h0;go_simp;exact hK _ _ (hI.pure (by decide) (i:=4) (t:=42) (by decide) (fun _ _ _=>rfl) (by decide) (by decide) (by decide))
  refine⟨fun S a1 w1 hS hd hcl hI K hK=>?_,?_⟩
  ·obtain⟨h1,h2,h3,G,g2,cap2,h4,h5,h6⟩:=id hI
   have H2:Hid (a1.defers=[]):=h2;clear h2;have n15:S 15=false:=hcl.no (q:=15) rfl (by kernel_rfl) hS;have k0:a1.tmps.getD 42 undef=.pointer (some ⟨b,0,none⟩):=h4 (4,42) (by decide) (hd.at 4 (by kernel_rfl)) _ rfl;go_simp;exact hK _ _ (hI.pure (by decide) (i:=5) (t:=43) (by decide) (fun _ _ _=>rfl) (by decide) (by decide) (by decide))
  refine⟨fun S a1 w1 hS hd hcl hI K hK=>?_,?_⟩
  ·obtain⟨h1,h2,h3,G,g2,cap2,h4,h5,h6⟩:=id hI
   have H2:Hid (a1.defers=[]):=h2;clear h2;have n15:S 15=false:=hcl.no (q:=15) rfl (by kernel_rfl) hS;have k0:a1.tmps.getD 43 undef=.pointer (some ⟨b,0,none⟩):=h4 (5,43) (by decide) (hd.at 5 (by kernel_rfl)) _ rfl;go_simp;exact hK _ _ (hI.pure (by decide) (i:=6) (t:=44) (by decide) (fun _ _ _=>rfl) (by decide) (by decide) (by decide))
  refine⟨fun S a1 w1 hS hd hcl hI K hK=>?_,?_⟩
  ·obtain⟨h1,h2,h3,G,g2,cap2,h4,h5,h6⟩:=id hI
   have H2:Hid (a1.defers=[]):=h2;clear h2;have n15:S 15=false:=hcl.no (q:=15) rfl (by kernel_rfl) hS;have k0:a1.tmps.getD 44 undef=.pointer (some ⟨b,5,none⟩):=h4 (6,44) (by decide) (hd.at 6 (by kernel_rfl)) _ rfl;obtain⟨c0,-,-⟩:=hfar w1 (h5 n15).1
   go_simp;exact hK _ _ (hI.pure (by decide) (i:=7) (t:=45) (by decide) (fun _ _ _=>rfl) (by decide) (by decide) (by decide))
  refine⟨fun S a1 w1 hS hd hcl hI K hK=>?_,?_⟩
  ·obtain⟨h1,h2,h3,G,g2,cap2,h4,h5,h6⟩:=id hI
   have H2:Hid (a1.defers=[]):=h2;clear h2;have n15:S 15=false:=hcl.no (q:=15) rfl (by kernel_rfl) hS;have k0:a1.tmps.getD 45 undef=.pointer (some ⟨hh,0,none⟩):=h4 (7,45) (by decide) (hd.at 7 (by kernel_rfl)) _ rfl;go_simp;exact hK _ _ (hI.pure (by decide) (i:=8) (t:=46) (by decide) (fun _ _ _=>rfl) (by decide) (by decide) (by decide))
  refine⟨fun S a1 w1 hS hd hcl hI K hK=>?_,?_⟩
  ·obtain⟨h1,h2,h3,G,g2,cap2,h4,h5,h6⟩:=id hI
   have H2:Hid (a1.defers=[]):=h2;clear h2;have n15:S 15=false:=hcl.no (q:=15) rfl (by kernel_rfl) hS;have k0:a1.tmps.getD 46 undef=.pointer (some ⟨hh,0,none⟩):=h4 (8,46) (by decide) (hd.at 8 (by kernel_rfl)) _ rfl;go_simp;exact hK _ _ (hI.pure (by decide) (i:=9) (t:=47) (by decide) (fun _ _ _=>rfl) (by decide) (by decide) (by decide))
  refine⟨fun S a1 w1 hS hd hcl hI K hK=>?_,?_⟩
  ·obtain⟨h1,h2,h3,G,g2,cap2,h4,h5,h6⟩:=id hI
   have H2:Hid (a1.defers=[]):=h2;clear h2;have n15:S 15=false:=hcl.no (q:=15) rfl (by kernel_rfl) hS;have k0:a1.tmps.getD 47 undef=.pointer (some ⟨hh,0,none⟩):=h4 (9,47) (by decide) (hd.at 9 (by kernel_rfl)) _ rfl;obtain⟨-,c0,-⟩:=hfar w1 (h5 n15).1
   go_simp;exact hK _ _ (hI.pure (by decide) (i:=10) (t:=48) (by decide) (fun _ _ _=>rfl) (by decide) (by decide) (by decide))
  refine⟨fun S a1 w1 hS hd hcl hI K hK=>?_,?_⟩
  ·obtain⟨h1,h2,h3,G,g2,cap2,h4,h5,h6⟩:=id hI
   have H2:Hid (a1.defers=[]):=h2;clear h2;have n15:S 15=false:=hcl.no (q:=15) rfl (by kernel_rfl) hS;have n12:S 12=false:=hcl.no (q:=12) rfl (by kernel_rfl) hS;have hb:=((h5 n15).2.1 n12).1;go_simp;have hta:49<a1.tmps.size:=by rw[h1];decide
   have hbA:Below wA.heap.size wA (w1.alloc (.cells #[.bool true] 4)):=hb.alloc hb.size _;refine hK _ _ ⟨by rw[← h1];simp[Act.put],H2.out,fun u hu=>?_,w1.heap.size,g2,cap2,fun x hx hs v hv=>?_,fun _=>⟨Qez hbA _,fun _=>⟨hbA,fun _=>⟨hb.size,Qe _ _ _⟩⟩,fun hs=>?_⟩,fun hs=>?_⟩
   ·have:u≠49:=fun e=>by subst e;revert hu;decide
    show (a1.put (some 49) _).tmps.getD u undef=_;rw[Q9 hta,if_neg this];exact h3 u hu
   ·show (a1.put (some 49) _).tmps.getD x.2 undef=_;rw[Q9 hta]
    simp only[hTib,List.mem_cons,List.not_mem_nil,or_false] at hx
    rcases hx with rfl | rfl | rfl | rfl | rfl | rfl | rfl | rfl | rfl | rfl | rfl | rfl | rfl | rfl | rfl
    all_goals first | (rw[if_pos rfl];exact Option.some.inj hv) | (rw[if_neg (by decide)];exact h4 _ (by decide) (Q0 (by decide) hs) v hv)
   ·rw[ZM (by decide),n12] at hs;cases hs
   ·rw[ZM (by decide),n15] at hs;cases hs
  refine⟨fun S a1 w1 hS hd hcl hI K hK=>?_,?_⟩
  ·obtain⟨h1,h2,h3,G,g2,cap2,h4,h5,h6⟩:=id hI
   have H2:Hid (a1.defers=[]):=h2;clear h2;have n15:S 15=false:=hcl.no (q:=15) rfl (by kernel_rfl) hS;have k0:a1.tmps.getD 48 undef=.slice ra s.H.length rc:=h4 (10,48) (by decide) (hd.at 10 (by kernel_rfl)) _ rfl;have k1:a1.tmps.getD 49 undef=.slice (some ⟨G,0,none⟩) 1 1:=h4 (11,49) (by decide) (hd.at 11 (by kernel_rfl)) _ rfl;have hb:=((h5 n15).2.1 hS).1;obtain⟨hG1,hG2⟩:=((h5 n15).2.1 hS).2 (hd.at 11 (by kernel_rfl))
   have hta:50<a1.tmps.size:=by rw[h1];decide
   have hown1:w1.ownsRow 0 4 1 (.slice ra s.H.length rc) s.H.length (s.H.map Value.bool):=by
    obtain⟨z1,z2⟩:=hown
    refine⟨z1,?_⟩
    rcases z2 with z | ⟨g,cap,cur,e,hg,hh9,r⟩
    ·exact .inl z
    ·exact .inr ⟨g,cap,cur,e,hg,(hb.block g (lt_of_block hh9)).trans hh9,r⟩
   refine wp_append_lies w1 (.tmp 48) (.tmp 49) 72 rfl 0 4 i0 (.bool false) 1 1 bUnderb hi hz0 hz1 hz2 rfl (by decide) _ _ _ k0 hown1 ⟨G,0,none⟩ 1 1 [.bool true] k1 rfl (fun j u hj=>?_) (QkA _) (by decide) (by unfold maxLen;omega) (by omega) (by simp) w1.heap.size rfl ?_
   ·match j,hj with
    | 0,hj=>have e:(Value.bool true)=u:=by simpa using hj
     subst e;exact Qb hG2 0 _ rfl
    | j+1,hj=>simp at hj
   intro g9 cap9 w9 r1 r2 r3 r4;have hs9:=hb.size;refine hK _ _ ⟨by rw[← h1];simp[Act.put],H2.out,fun u hu=>?_,G,g9,cap9,fun x hx hs v hv=>?_,fun _=>⟨(h5 n15).1.trans r2,fun hs=>?_,fun _=>⟨r1,r3.imp id (fun e=>by omega),r4⟩⟩,fun hs=>?_⟩
   ·have:u≠50:=fun e=>by subst e;revert hu;decide
    show (a1.put (some 50) _).tmps.getD u undef=_;rw[Q9 hta,if_neg this];exact h3 u hu
   ·show (a1.put (some 50) _).tmps.getD x.2 undef=_;rw[Q9 hta]
    simp only[hTib,List.mem_cons,List.not_mem_nil,or_false] at hx
    rcases hx with rfl | rfl | rfl | rfl | rfl | rfl | rfl | rfl | rfl | rfl | rfl | rfl | rfl | rfl | rfl
    all_goals first | (rw[if_pos rfl];exact Option.some.inj hv) | (rw[if_neg (by decide)];exact h4 _ (by decide) (Q0 (by decide) hs) v hv)
   ·rw[QcD] at hs;cases hs
   ·rw[ZM (by decide),n15] at hs;cases hs
  refine⟨fun S a1 w1 hS hd hcl hI K hK=>?_,?_⟩
  ·obtain⟨h1,h2,h3,G,g2,cap2,h4,h5,h6⟩:=id hI
   have H2:Hid (a1.defers=[]):=h2;clear h2;have n15:S 15=false:=hcl.no (q:=15) rfl (by kernel_rfl) hS;have k0:a1.tmps.getD 41 undef=.pointer (some ⟨hh,0,none⟩):=h4 (3,41) (by decide) (hd.at 3 (by kernel_rfl)) _ rfl;go_simp;exact hK _ _ (hI.pure (by decide) (i:=13) (t:=51) (by decide) (fun _ _ _=>rfl) (by decide) (by decide) (by decide))
  refine⟨fun S a1 w1 hS hd hcl hI K hK=>?_,?_⟩
  ·obtain⟨h1,h2,h3,G,g2,cap2,h4,h5,h6⟩:=id hI
   have H2:Hid (a1.defers=[]):=h2;clear h2;have n15:S 15=false:=hcl.no (q:=15) rfl (by kernel_rfl) hS;have k0:a1.tmps.getD 51 undef=.pointer (some ⟨hh,0,none⟩):=h4 (13,51) (by decide) (hd.at 13 (by kernel_rfl)) _ rfl;go_simp;exact hK _ _ (hI.pure (by decide) (i:=14) (t:=52) (by decide) (fun _ _ _=>rfl) (by decide) (by decide) (by decide))
  refine⟨fun S a1 w1 hS hd hcl hI K hK=>?_,?_⟩
  ·obtain⟨h1,h2,h3,G,g2,cap2,h4,h5,h6⟩:=id hI
   have H2:Hid (a1.defers=[]):=h2;clear h2;have n15:=hS;have k0:a1.tmps.getD 52 undef=.pointer (some ⟨hh,0,none⟩):=h4 (14,52) (by decide) (hd.at 14 (by kernel_rfl)) _ rfl;have k1:a1.tmps.getD 50 undef=.slice (some ⟨g2,0,none⟩) (s.H.length+1) cap2:=h4 (12,50) (by decide) (hd.at 12 (by kernel_rfl)) _ rfl;obtain⟨-,c0,f0⟩:=hfar w1 (h5 n15).1
   obtain⟨r1,r2,r3⟩:=(h5 n15).2.2 (hd.at 12 (by kernel_rfl))
   have Z:=hpush w1 g2 cap2 r1 (h5 n15).1 r2 r3;go_simp;refine hK _ _ ⟨h1,H2.out,h3,G,g2,cap2,fun x hx hs v hv=>h4 x hx (Q0 (fun e=>?_) hs) v hv,fun hs=>?_,fun _=>Z⟩
   ·have:∀ x∈hTib,x.1≠15:=by decide
    exact this x hx e
   ·rw[QcD] at hs;cases hs
  trivial
structure QgG (w wc:World) (b X:Nat) (O A Q:Nat→Prop) (s:JSt) (x:Qz) (rg ag:Option Addr) (rc ac:Nat):Prop where
 known:Qb1 wc b O A s
 box:wc.heap[X]?=some (.cells #[.int .i64 x.op,.int .i64 x.a,.int .i64 x.b,.int .i64 x.c,.int .i64 x.k,.int .i64 x.n,.slice rg x.regs.length rc,.slice ag x.args.length ac] 59 (0,0))
 regs:intsL.In wc Q x.regs [.slice rg x.regs.length rc]
 args:intsL.In wc Q x.args [.slice ag x.args.length ac]
 bel:Below w.heap.size w wc
 own:∀ k,A k→k<w.heap.size
 far:w.heap.size≤X
theorem QgG.below {w wc:World}{b X:Nat}{O A Q:Nat→Prop}{s:JSt}{x:Qz}{rg ag:Option Addr}{rc ac:Nat}{w9:World}(h:QgG w wc b X O A Q s x rg ag rc ac) (k:Below wc.heap.size wc w9):QgG w w9 b X O A Q s x rg ag rc ac :=
 ⟨h.known.below k,(k.block X (lt_of_block h.box)).trans h.box,Lay.below h.regs k,Lay.below h.args k,h.bel.trans (k.mono h.bel.size),h.own,h.far⟩
theorem QgG.lt {w wc:World}{b X:Nat}{O A Q:Nat→Prop}{s:JSt}{x:Qz}{rg ag:Option Addr}{rc ac:Nat}(h:QgG w wc b X O A Q s x rg ag rc ac):∀ k,A k→k<wc.heap.size:=fun k hk=>Nat.lt_of_lt_of_le (h.own k hk) h.bel.size
theorem QgG.cells {w wc:World}{b X:Nat}{O A Q:Nat→Prop}{s:JSt}{x:Qz}{rg ag:Option Addr}{rc ac:Nat}(h:QgG w wc b X O A Q s x rg ag rc ac):wc.cell? ⟨X,0,none⟩=some (.int .i64 x.op)∧wc.cell? ⟨X,1,none⟩=some (.int .i64 x.a)∧wc.cell? ⟨X,2,none⟩=some (.int .i64 x.b)∧wc.cell? ⟨X,3,none⟩=some (.int .i64 x.c)∧wc.cell? ⟨X,4,none⟩=some (.int .i64 x.k)∧wc.cell? ⟨X,5,none⟩=some (.int .i64 x.n)∧wc.cell? ⟨X,6,none⟩=some (.slice rg x.regs.length rc)∧wc.cell? ⟨X,7,none⟩=some (.slice ag x.args.length ac) :=
 ⟨Qb h.box 0 _ rfl,Qb h.box 1 _ rfl,Qb h.box 2 _ rfl,Qb h.box 3 _ rfl,Qb h.box 4 _ rfl,Qb h.box 5 _ rfl,Qb h.box 6 _ rfl,Qb h.box 7 _ rfl⟩
theorem QgG.far_cell {w wc:World}{b X:Nat}{O A Q:Nat→Prop}{s:JSt}{x:Qz}{rg ag:Option Addr}{rc ac:Nat}{w9:World}(h:QgG w wc b X O A Q s x rg ag rc ac){O1:Nat→Prop}(k:Zj O O1 wc w9) (j:Nat):w9.cell? ⟨X,j,none⟩=wc.cell? ⟨X,j,none⟩ :=
 World.cell?_of_block (k.block X (lt_of_block h.box) (fun e=>by have:=h.own X (h.known.sub X e);have:=h.far;omega))
theorem Qih {w:World}{b:Nat}{O A Q:Nat→Prop}{s:JSt}{x:Qz}{rg ag:Option Addr}{rc ac:Nat}(hO:∀ k,A k→k<w.heap.size) (hJ:JOk s) (h:Qb1 w b O A s) (hregs:intsL.In w Q x.regs [.slice rg x.regs.length rc]) (hargs:intsL.In w Q x.args [.slice ag x.args.length ac]) (hrc:x.regs.length≤rc) :
 Calls Tryz.prog 24 #[.pointer (some ⟨b,0,none⟩),Qau x rg ag rc ac] w fun e w'=>e=.returned (.int .i64 (s.code x))∧QaB w w' b O A (s.ins x):=by
 have HJ:=Qa hJ;have H00:=Qa h;obtain⟨i0,hi,hz0,hz1,hz2⟩:=pInfoT
 have b1:=QO w (.cells #[.int .i64 x.op,.int .i64 x.a,.int .i64 x.b,.int .i64 x.c,.int .i64 x.k,.int .i64 x.n,.slice rg x.regs.length rc,.slice ag x.args.length ac] 59);have S0:Hid (QgG w (w.alloc (.cells #[.int .i64 x.op,.int .i64 x.a,.int .i64 x.b,.int .i64 x.c,.int .i64 x.k,.int .i64 x.n,.slice rg x.regs.length rc,.slice ag x.args.length ac] 59)) b w.heap.size O A Q s x rg ag rc ac):=⟨h.below b1,Qe w _ _,Lay.below hregs b1,Lay.below hargs b1,b1,hO,Nat.le_refl _⟩;clear h hregs hargs b1 hJ hO;go_enter Tryz.func24,Tryz.ntmps24
 go_upto_region 1 with fail
 obtain⟨X,hX⟩:∃ X,w.heap.size=X:=⟨_,rfl⟩
 generalize hw1:w.alloc (.cells #[.int .i64 x.op,.int .i64 x.a,.int .i64 x.b,.int .i64 x.c,.int .i64 x.k,.int .i64 x.n,.slice rg x.regs.length rc,.slice ag x.args.length ac] 59)=w1 at S0 ⊢;have S1:Hid (QgG w w1 b X O A Q s x rg ag rc ac):=by rw[← hX];exact S0.out
 rw[hX]
 clear hw1 hX S0;obtain⟨pm,cm,a1,c1,a2,c2,a3,c3,hh,aL,cL,R⟩:=S1.out.known.one.read
 obtain⟨q0,-⟩:=R.cells
 obtain⟨x0,x1,x2,x3,x4,x5,x6,x7⟩:=S1.out.cells
 obtain⟨cf,hcf⟩:∃ cf,x.form s.m.length=cf:=⟨_,rfl⟩
 have HCF:Hid (x.form s.m.length=cf):=hcf;clear hcf;refine Code.wp_mono ?_ (ki1 q0 x0 x1 x2 x3 x4 x5 x6 x7 HCF _ _ rfl (Nat.le_of_ble_eq_true (by kernel_rfl)) rfl rfl);rintro ee aa w5 ⟨rfl,vs,rfl,hv5,hb⟩;simp only[Q5,Act.put,List.setIfInBounds_toArray,List.set_cons_zero,List.set_cons_succ,hv5]
 have S:Hid (QgG w w5 b X O A Q s x rg ag rc ac):=S1.out.below hb;clear S1 hb hv5 q0 R x0 x1 x2 x3 x4 x5 x6 x7;by_cases hc0:cf=0
 rotate_left
 ·have hc0':(cf!=0)=true:=by simpa using hc0
  have E:Hid (s.code x=cf):=by show _=_;unfold JSt.code;rw[HCF.out,if_pos hc0]
  have E2:Hid (s.ins x=s):=by show _=_;unfold JSt.ins;rw[if_neg (by rw[E.out];exact hc0)]
  go_wp2_with fail
  go_ret;exact⟨by rw[E.out];rfl,by rw[E2.out];exact QaB.of_below H00.out S.out.bel⟩
 subst hc0;obtain⟨x0,x1,x2,x3,x4,x5,x6,x7⟩:=S.out.cells
 go_wp2_with fail
 refine(Qgs S.out.lt HJ.out S.out.known.one S.out.regs S.out.args hrc HCF.out).mono ?_
 rintro e4 w4 ⟨la,n,d,rfl,hm0,b4⟩;have S4:Hid (QgG w w4 b X O A Q s x rg ag rc ac):=S.out.below b4;clear S b4 x0 x1 x2 x3 x4 x5 x6 x7;have S:=S4;clear S4;obtain⟨x0,x1,x2,x3,x4,x5,x6,x7⟩:=S.out.cells
 have HM0:=Qa hm0;clear hm0;obtain⟨cc,l,hmk⟩:∃ cc l,s.makes x=(cc,l):=⟨_,_,rfl⟩
 have HMK:Hid (s.makes x=(cc,l)):=hmk;have hl8:l.length≤8:=by have:=Qhk HJ.out HCF.out;rw[hmk] at this;exact this
 rw[hmk] at HM0 ⊢
 clear hmk;by_cases hcc:cc=0
 rotate_left
 ·have hcc':(cc!=0)=true:=by simpa using hcc
  have E:Hid (s.code x=cc):=by show _=_;unfold JSt.code;rw[HCF.out,HMK.out,if_neg (by simp),if_pos hcc]
  have E2:Hid (s.ins x=s):=by show _=_;unfold JSt.ins;rw[if_neg (by rw[E.out];exact hcc)]
  clear HM0;go_wp2_with fail
  go_ret;exact⟨by rw[E.out];rfl,by rw[E2.out];exact QaB.of_below H00.out S.out.bel⟩
 subst hcc;obtain⟨hn,hnd,hlin⟩:=HM0.out rfl
 have HN:Hid (n=l.length):=hn;have HLB:Hid ((Qm 6).In w4 (fun g=>¬ A g) l [.slice la n d]):=hlin;have hn8:n≤8:=by have:n=l.length:=hn;omega
 clear HM0 hlin hn hl8;have hL80:s.L.length≤80:=HJ.out.vals;obtain⟨pm,cm,a1,c1,a2,c2,a3,c3,hh,aL,cL,R⟩:=S.out.known.one.read
 obtain⟨-,-,-,-,-,-,q6⟩:=R.cells
 have HRW:Hid (TRd w4 (fun g=>¬ A g) aL s.L):=R.row;clear R;by_cases hsum:s.L.length+n≤80
 rotate_left
 ·have hsum':decide ((80:Int)<(s.L.length:Int)+(n:Int))=true:=decide_eq_true (by omega);have E:Hid (s.code x=2):=by show _=_;unfold JSt.code;rw[HCF.out,HMK.out,if_neg (by simp),if_neg (by simp),if_pos (by rw[← HN.out];omega)]
  have E2:Hid (s.ins x=s):=by show _=_;unfold JSt.ins;rw[if_neg (by rw[E.out];decide)]
  generalize s.L.length=nL at q6 hL80 hsum hsum';go_wp2_with fail
  go_ret;exact⟨by rw[E.out];rfl,by rw[E2.out];exact QaB.of_below H00.out S.out.bel⟩
 have hsum':decide ((80:Int)<(s.L.length:Int)+(n:Int))=false:=decide_eq_false (by omega);have EC:Hid (s.code x=0):=by show _=_;unfold JSt.code;rw[HCF.out,HMK.out,if_neg (by simp),if_neg (by simp),if_neg (by rw[← HN.out];omega)]
 have B4:Hid (Below w.heap.size w w4):=S.out.bel;have HO4:Hid (∀ k,A k→k<w4.heap.size):=S.out.lt;by_cases h3:x.op=3
 ·rw[h3] at x0
  have h3':((3:Int)==3)=true:=rfl;go_upto_region 10 with fail
  refine Code.wp_mono ?_ (Qla HO4.out S.out.known HJ.out.regs _ (by rfl) rfl rfl);rintro ee aa wB ⟨rfl,vs,rfl,hk⟩;simp only[Q5,Act.put,List.setIfInBounds_toArray,List.set_cons_zero,List.set_cons_succ]
  obtain⟨N,ltN,kB,stB⟩:=hk
  obtain⟨OB,hOB⟩:∃ OB:Nat→Prop,OB=fun k=>O k∨N k:=⟨_,rfl⟩
  obtain⟨AB,hAB⟩:∃ AB:Nat→Prop,AB=fun k=>A k∨N k:=⟨_,rfl⟩
  have y0:=(S.out.far_cell stB 0).trans x0;have HLB2:Hid ((Qm 6).In wB (fun g=>¬ AB g) l [.slice la n d]):=(Qm 6).keep (fun k hk hl=>stB.block k hl (fun e=>hk (H00.out.sub k e))) (fun k hk hl e=>by rw[hAB] at e;rcases e with e | e;exact hk e;have:=(ltN k e).1;omega) HLB.out;have HOB:=Qa (show ∀ k,AB k→k<_ from fun k hk=>by rw[hAB] at hk;rcases hk with hk | hk;exact Nat.lt_of_lt_of_le (HO4.out k hk) stB.size;exact(ltN k hk).2);have JN:=Qa (show ∀ w' s',QaB _ w' b OB AB s'→QaB _ w' b O A s' from fun w' s' z=>QaB.join (s':=s') ltN stB (by rw[hOB,hAB] at z;exact z));rw[← hOB,← hAB] at kB
  have HKB:=Qa kB;clear hOB hAB;clear HLB x0 x1 x2 x3 x4 x5 x6 x7 q6 kB stB ltN HRW S;have HLB:=HLB2;clear HLB2;obtain⟨aL,cL,xs,q6,f6,hle,how,hpush⟩:=HKB.out.pushL HOB.out
  have hLn:({ s with H:=s.H++[true] }).L.length=s.L.length:=rfl;have HPU:=Qa hpush;have HOW:=Qa how
  have HF:Hid (s.ins x={ ({ s with H:=s.H++[true] }) with L:=({ s with H:=s.H++[true] }).L++l }):=by
   show _=_;unfold JSt.ins;rw[if_pos EC.out]
   unfold JSt.next;rw[HMK.out,if_pos h3]
  clear hpush how;rw[hLn] at q6 HOW HPU hle
  clear hLn;by_cases hn0:n=0
  ·subst hn0;have hl0:l=[]:=List.length_eq_zero_iff.1 HN.out.symm;subst hl0
   have ha:Hid (∀ (t:TypeId) (wx:World),(Builtin.append_ #[52,52] t #[.slice aL s.L.length cL,.slice la 0 d]).run Tryz.prog wx=.ok (.slice aL s.L.length cL) wx):=fun (t:TypeId) (wx:World)=>run_append_nothing (P:=Tryz.prog) wx 52 52 t 79 i0 pUnderT hi aL s.L.length cL hle (.slice la 0 d) (by cases la with
    | none=>exact Src.ofNil wx pUnderT d
    | some ad=>exact Src.ofSlice wx pUnderT ad 0 d [] (by simp) (fun j u h=>by simp at h) (fun u h=>by cases h))
   have HZ:Hid (QaB w (wB.setCell ⟨b,6,none⟩ (.slice aL s.L.length cL)) b O A (s.ins x)):=by
    have e:∀ k,(wB.setCell ⟨b,6,none⟩ (.slice aL s.L.length cL)).heap[k]?=wB.heap[k]?:=fun k=>by
     rcases Nat.lt_or_ge k wB.heap.size with hk | hk
     ·exact HKB.out.one.same6 q6 k
     ·rw[Array.getElem?_eq_none (by simpa using hk),Array.getElem?_eq_none hk]
    have z:QaB wB (wB.setCell ⟨b,6,none⟩ (.slice aL s.L.length cL)) b OB AB ({ s with H:=s.H++[true] }):=QaB.of_below HKB.out ⟨rfl,rfl,rfl,by simp,fun k _=>e k⟩;rw[HF.out,List.append_nil]
    exact(JN.out _ _ z).after B4.out
   clear HPU HOW HF HKB HOB JN HLB;generalize s.L.length=nL at q6 ha HZ hL80 hle hsum;go_wp2_with (at_builtin;refine Zn rfl (.tmp 77) (.tmp 78) 52 rfl (.slice aL nL cL) (.slice la 0 d) rfl rfl (ha.out _ _) ?_)
   go_ret;exact⟨by rw[EC.out];rfl,HZ.out⟩
  ·obtain⟨g0,o0,rfl⟩:∃ g0 o0,la=some ⟨g0,o0,none⟩:=by
    obtain⟨g,o,dd,e,-⟩:=Lay.list_at HLB.out (List.getElem?_eq_getElem (show 0<l.length by have:=HN.out;omega))
    exact⟨g,o,e⟩
   obtain⟨ds,d1,d2,d3,d4⟩:=Lay.flat HLB.out (fun y cs hy=>by obtain⟨ya,yc,e,-⟩:=hy;subst e;exact Qep _ _ _ _ _)
   have d1':ds.length=n*3:=by rw[HN.out];exact d1
   have HD1:=Qa d1';have HD2:=Qa d2;have HD3:=Qa d3
   have HPU2:Hid (∀ w9 g cap2,w9.ownsRow 0 79 3 (.slice (some ⟨g,0,none⟩) (s.L.length+n) cap2) (s.L.length+n) (xs++ds)→wB.grownBy w9 (Value.slice aL s.L.length cL).ownBlock→((Value.slice aL s.L.length cL).ownBlock=some g∨g=wB.heap.size)→g<w9.heap.size→w9.cell? ⟨b,6,none⟩=some (.slice aL s.L.length cL)∧w9.frozen? ⟨b,6,none⟩=false∧QaB w (w9.setCell ⟨b,6,none⟩ (.slice (some ⟨g,0,none⟩) (s.L.length+n) cap2)) b O A (s.ins x)):=by
    intro w9 g cap2 r1 r2 r3 r4;rw[HN.out] at r1 ⊢
    obtain⟨z1,z2,z3⟩:=HPU.out w9 g cap2 l ds d1 r1 r2 r3 r4 d4
    rw[HF.out]
    exact⟨z1,z2,(JN.out _ _ z3).after B4.out⟩
   clear HPU HF HKB HOB JN HLB d1 d1' d2 d3 d4;have HSZ:Hid (0≤wB.heap.size):=Nat.zero_le _;generalize s.L.length=nL at q6 HOW HPU2 hL80 hle hsum;have hn1:0<n:=by omega
   go_wp2_with (at_builtin;refine wpList_append_lies _ rfl (.tmp 77) (.tmp 78) 52 rfl 0 79 i0 (.agg #[.int .i64 0,.int .i64 0,.slice none 0 0]) 3 40 pUnderT hi hz0 hz1 hz2 rfl (by decide) _ _ _ rfl HOW.out ⟨g0,o0,none⟩ n d ds rfl HD1.out HD2.out HD3.out hn1 (by unfold maxLen;omega) (by omega) HSZ.out wB.heap.size rfl ?_)
   intro g2 cap2 w9 r1 r2 r3 r4;obtain⟨q69,f69,z9⟩:=HPU2.out w9 g2 cap2 r1 r2 r3 r4
   have Z9:=Qa z9;clear r1 r2 r3 r4 HPU2 HOW z9 q6 f6;go_wp2
   go_ret;exact⟨by rw[EC.out];rfl,Z9.out⟩
 have h3':(x.op==3)=false:=by simpa using h3
 by_cases h4:x.op=4
 ·obtain⟨t,hat,hkd,hhas⟩:∃ t,s.at x.a=some t∧t.kind=2∧hHas s.H t.r=true:=by
   have e:=HMK.out;rw[ZQ h4] at e
   cases hat:s.at x.a with
   | none=>rw[hat] at e;simp at e
   | some t =>
    rw[hat] at e
    simp only[Prod.mk.injEq] at e
    obtain⟨t',e1,e2,e3⟩:=Qah (Z4 e.1).1
    rw[hat] at e1
    exact⟨t',e1 ▸ rfl,e2,e3 rfl⟩
  obtain⟨-,ha0,hal,hti⟩:=Qax hat
  obtain⟨i,hxa⟩:=Int.eq_ofNat_of_zero_le ha0
  rw[hxa] at hti hal x1
  obtain⟨gL,va,vc,rfl,v0,v1,v2,-,-⟩:=HRW.out i t (by simpa using hti)
  obtain⟨hr0,hrH⟩:=ZJ hhas
  obtain⟨r,hr⟩:=Int.eq_ofNat_of_zero_le hr0
  rw[hr] at v1 hrH
  obtain⟨h2,aH,cH,z5,z0,hset⟩:=S.out.known.setH HO4.out
  obtain⟨gH,rfl,⟨u0,hu0⟩,fu0,hkt⟩:=hset r (by omega)
  have HKT:=Qa hkt;have HAT:=Qa hat;have HRr:Hid (t.r=(r:Int)):=hr;clear hr;rw[h4] at x0
  clear hset hkt hhas hti hat hkd v0 v2;go_upto_region 12 with fail
  refine QlY z5 z0 q6 x1 v1 hal hrH _ _ rfl (Nat.le_of_ble_eq_true (by kernel_rfl)) rfl rfl ?_;rintro ops vs w7 hv72 b7;show wpList _ ops _ [_] (Q5 _ vs [56,57,58,59,60,61,62,63,64,65,66,67,68,69,70,71,72]) w7;simp only[Q5,Act.put,List.setIfInBounds_toArray,List.set_cons_zero,List.set_cons_succ,hv72]
  have S7:=Qa (S.out.below b7);obtain⟨h2',aH',cH',z5',z0',hset'⟩:=S7.out.known.setH S7.out.lt
  have e1:=(Qi z5 b7).symm.trans z5';simp only[Option.some.injEq,Value.pointer.injEq,Addr.mk.injEq,and_true] at e1
  subst e1;have e2:=(Qi z0 b7).symm.trans z0';simp only[Option.some.injEq,Value.slice.injEq,true_and] at e2
  obtain⟨rfl,rfl⟩:=e2
  obtain⟨gH',eg,⟨u7,hu7⟩,fu7,hkt7⟩:=hset' r (by omega)
  simp only[Option.some.injEq,Addr.mk.injEq,and_true] at eg
  subst eg;obtain⟨N,ltN,kB,stB⟩:=hkt7
  obtain⟨OB,hOB⟩:∃ OB:Nat→Prop,OB=fun k=>O k∨N k:=⟨_,rfl⟩
  obtain⟨AB,hAB⟩:∃ AB:Nat→Prop,AB=fun k=>A k∨N k:=⟨_,rfl⟩
  have B7:Hid (Below w.heap.size w w7):=S7.out.bel;have HO7:Hid (∀ k,A k→k<w7.heap.size):=S7.out.lt;have HLB2:Hid ((Qm 6).In (w7.setCell ⟨gH,r,none⟩ (.bool false)) (fun g=>¬ AB g) l [.slice la n d]):=(Qm 6).keep (fun k hk hl=>stB.block k hl (fun e=>hk (H00.out.sub k e))) (fun k hk hl e=>by rw[hAB] at e;rcases e with e | e;exact hk e;have:=(ltN k e).1;omega) (Lay.below HLB.out b7);have HOB:=Qa (show ∀ k,AB k→k<_ from fun k hk=>by rw[hAB] at hk;rcases hk with hk | hk;exact Nat.lt_of_lt_of_le (HO7.out k hk) stB.size;exact(ltN k hk).2);have JN:=Qa (show ∀ w' s',QaB _ w' b OB AB s'→QaB _ w' b O A s' from fun w' s' z=>QaB.join (s':=s') ltN stB (by rw[hOB,hAB] at z;exact z));rw[← hOB,← hAB] at kB
  have HKB:=Qa kB;clear hOB hAB;clear HLB x0 x1 x2 x3 x4 x5 x6 x7 q6 kB stB ltN HRW S S7 z5 z0 z5' z0' hset' HKT HO4 B4 b7 v1 fu0 hu0;have HLB:=HLB2;have HO4:=HO7;have B4:=B7;clear HLB2 HO7 B7;go_upto_region 13 with fail
  generalize w7.setCell ⟨gH,r,none⟩ (.bool false)=wB at HLB HKB HOB JN ⊢;clear hu7 fu7;obtain⟨aL,cL,xs,q6,f6,hle,how,hpush⟩:=HKB.out.pushL HOB.out
  have hLn:({ s with H:=s.H.set r false }).L.length=s.L.length:=rfl;have HPU:=Qa hpush;have HOW:=Qa how
  have HF:Hid (s.ins x={ ({ s with H:=s.H.set r false }) with L:=({ s with H:=s.H.set r false }).L++l }):=by
   show _=_;unfold JSt.ins;rw[if_pos EC.out]
   unfold JSt.next;rw[HMK.out,if_neg h3,if_pos h4];simp only[HAT.out,HRr.out,Int.toNat_natCast]
  clear hpush how;rw[hLn] at q6 HOW HPU hle
  clear hLn;by_cases hn0:n=0
  ·subst hn0;have hl0:l=[]:=List.length_eq_zero_iff.1 HN.out.symm;subst hl0
   have ha:Hid (∀ (t:TypeId) (wx:World),(Builtin.append_ #[52,52] t #[.slice aL s.L.length cL,.slice la 0 d]).run Tryz.prog wx=.ok (.slice aL s.L.length cL) wx):=fun (t:TypeId) (wx:World)=>run_append_nothing (P:=Tryz.prog) wx 52 52 t 79 i0 pUnderT hi aL s.L.length cL hle (.slice la 0 d) (by cases la with
    | none=>exact Src.ofNil wx pUnderT d
    | some ad=>exact Src.ofSlice wx pUnderT ad 0 d [] (by simp) (fun j u h=>by simp at h) (fun u h=>by cases h))
   have HZ:Hid (QaB w (wB.setCell ⟨b,6,none⟩ (.slice aL s.L.length cL)) b O A (s.ins x)):=by
    have e:∀ k,(wB.setCell ⟨b,6,none⟩ (.slice aL s.L.length cL)).heap[k]?=wB.heap[k]?:=fun k=>by
     rcases Nat.lt_or_ge k wB.heap.size with hk | hk
     ·exact HKB.out.one.same6 q6 k
     ·rw[Array.getElem?_eq_none (by simpa using hk),Array.getElem?_eq_none hk]
    have z:QaB wB (wB.setCell ⟨b,6,none⟩ (.slice aL s.L.length cL)) b OB AB ({ s with H:=s.H.set r false }):=QaB.of_below HKB.out ⟨rfl,rfl,rfl,by simp,fun k _=>e k⟩;rw[HF.out,List.append_nil]
    exact(JN.out _ _ z).after B4.out
   clear HPU HOW HF HKB HOB JN HLB;generalize s.L.length=nL at q6 ha HZ hL80 hle hsum;go_wp2_with (at_builtin;refine Zn rfl (.tmp 77) (.tmp 78) 52 rfl (.slice aL nL cL) (.slice la 0 d) rfl rfl (ha.out _ _) ?_)
   go_ret;exact⟨by rw[EC.out];rfl,HZ.out⟩
  ·obtain⟨g0,o0,rfl⟩:∃ g0 o0,la=some ⟨g0,o0,none⟩:=by
    obtain⟨g,o,dd,e,-⟩:=Lay.list_at HLB.out (List.getElem?_eq_getElem (show 0<l.length by have:=HN.out;omega))
    exact⟨g,o,e⟩
   obtain⟨ds,d1,d2,d3,d4⟩:=Lay.flat HLB.out (fun y cs hy=>by obtain⟨ya,yc,e,-⟩:=hy;subst e;exact Qep _ _ _ _ _)
   have d1':ds.length=n*3:=by rw[HN.out];exact d1
   have HD1:=Qa d1';have HD2:=Qa d2;have HD3:=Qa d3
   have HPU2:Hid (∀ w9 g cap2,w9.ownsRow 0 79 3 (.slice (some ⟨g,0,none⟩) (s.L.length+n) cap2) (s.L.length+n) (xs++ds)→wB.grownBy w9 (Value.slice aL s.L.length cL).ownBlock→((Value.slice aL s.L.length cL).ownBlock=some g∨g=wB.heap.size)→g<w9.heap.size→w9.cell? ⟨b,6,none⟩=some (.slice aL s.L.length cL)∧w9.frozen? ⟨b,6,none⟩=false∧QaB w (w9.setCell ⟨b,6,none⟩ (.slice (some ⟨g,0,none⟩) (s.L.length+n) cap2)) b O A (s.ins x)):=by
    intro w9 g cap2 r1 r2 r3 r4;rw[HN.out] at r1 ⊢
    obtain⟨z1,z2,z3⟩:=HPU.out w9 g cap2 l ds d1 r1 r2 r3 r4 d4
    rw[HF.out]
    exact⟨z1,z2,(JN.out _ _ z3).after B4.out⟩
   clear HPU HF HKB HOB JN HLB d1 d1' d2 d3 d4;have HSZ:Hid (0≤wB.heap.size):=Nat.zero_le _;generalize s.L.length=nL at q6 HOW HPU2 hL80 hle hsum;have hn1:0<n:=by omega
   go_wp2_with (at_builtin;refine wpList_append_lies _ rfl (.tmp 77) (.tmp 78) 52 rfl 0 79 i0 (.agg #[.int .i64 0,.int .i64 0,.slice none 0 0]) 3 40 pUnderT hi hz0 hz1 hz2 rfl (by decide) _ _ _ rfl HOW.out ⟨g0,o0,none⟩ n d ds rfl HD1.out HD2.out HD3.out hn1 (by unfold maxLen;omega) (by omega) HSZ.out wB.heap.size rfl ?_)
   intro g2 cap2 w9 r1 r2 r3 r4;obtain⟨q69,f69,z9⟩:=HPU2.out w9 g2 cap2 r1 r2 r3 r4
   have Z9:=Qa z9;clear r1 r2 r3 r4 HPU2 HOW z9 q6 f6;go_wp2
   go_ret;exact⟨by rw[EC.out];rfl,Z9.out⟩
 ·have h4':(x.op==4)=false:=by simpa using h4
  have HKB:Hid (Qb1 w4 b O A s):=S.out.known;have HOB:=HO4;have JN:Hid (∀ w' s',QaB w4 w' b O A s'→QaB w4 w' b O A s'):=fun _ _ z=>z;clear q6 HRW;obtain⟨aL,cL,xs,q6,f6,hle,how,hpush⟩:=HKB.out.pushL HOB.out
  have hLn:(s).L.length=s.L.length:=rfl;have HPU:=Qa hpush;have HOW:=Qa how
  have HF:Hid (s.ins x={ (s) with L:=(s).L++l }):=by
   show _=_;unfold JSt.ins;rw[if_pos EC.out]
   unfold JSt.next;rw[HMK.out,if_neg h3,if_neg h4]
  clear hpush how;rw[hLn] at q6 HOW HPU hle
  clear hLn;by_cases hn0:n=0
  ·subst hn0;have hl0:l=[]:=List.length_eq_zero_iff.1 HN.out.symm;subst hl0
   have ha:Hid (∀ (t:TypeId) (wx:World),(Builtin.append_ #[52,52] t #[.slice aL s.L.length cL,.slice la 0 d]).run Tryz.prog wx=.ok (.slice aL s.L.length cL) wx):=fun (t:TypeId) (wx:World)=>run_append_nothing (P:=Tryz.prog) wx 52 52 t 79 i0 pUnderT hi aL s.L.length cL hle (.slice la 0 d) (by cases la with
    | none=>exact Src.ofNil wx pUnderT d
    | some ad=>exact Src.ofSlice wx pUnderT ad 0 d [] (by simp) (fun j u h=>by simp at h) (fun u h=>by cases h))
   have HZ:Hid (QaB w (w4.setCell ⟨b,6,none⟩ (.slice aL s.L.length cL)) b O A (s.ins x)):=by
    have e:∀ k,(w4.setCell ⟨b,6,none⟩ (.slice aL s.L.length cL)).heap[k]?=w4.heap[k]?:=fun k=>by
     rcases Nat.lt_or_ge k w4.heap.size with hk | hk
     ·exact HKB.out.one.same6 q6 k
     ·rw[Array.getElem?_eq_none (by simpa using hk),Array.getElem?_eq_none hk]
    have z:QaB w4 (w4.setCell ⟨b,6,none⟩ (.slice aL s.L.length cL)) b O A (s):=QaB.of_below HKB.out ⟨rfl,rfl,rfl,by simp,fun k _=>e k⟩;rw[HF.out,List.append_nil]
    exact(JN.out _ _ z).after B4.out
   clear HPU HOW HF HKB HOB JN HLB;generalize s.L.length=nL at q6 ha HZ hL80 hle hsum;go_wp2_with (at_builtin;refine Zn rfl (.tmp 77) (.tmp 78) 52 rfl (.slice aL nL cL) (.slice la 0 d) rfl rfl (ha.out _ _) ?_)
   go_ret;exact⟨by rw[EC.out];rfl,HZ.out⟩
  ·obtain⟨g0,o0,rfl⟩:∃ g0 o0,la=some ⟨g0,o0,none⟩:=by
    obtain⟨g,o,dd,e,-⟩:=Lay.list_at HLB.out (List.getElem?_eq_getElem (show 0<l.length by have:=HN.out;omega))
    exact⟨g,o,e⟩
   obtain⟨ds,d1,d2,d3,d4⟩:=Lay.flat HLB.out (fun y cs hy=>by obtain⟨ya,yc,e,-⟩:=hy;subst e;exact Qep _ _ _ _ _)
   have d1':ds.length=n*3:=by rw[HN.out];exact d1
   have HD1:=Qa d1';have HD2:=Qa d2;have HD3:=Qa d3
   have HPU2:Hid (∀ w9 g cap2,w9.ownsRow 0 79 3 (.slice (some ⟨g,0,none⟩) (s.L.length+n) cap2) (s.L.length+n) (xs++ds)→w4.grownBy w9 (Value.slice aL s.L.length cL).ownBlock→((Value.slice aL s.L.length cL).ownBlock=some g∨g=w4.heap.size)→g<w9.heap.size→w9.cell? ⟨b,6,none⟩=some (.slice aL s.L.length cL)∧w9.frozen? ⟨b,6,none⟩=false∧QaB w (w9.setCell ⟨b,6,none⟩ (.slice (some ⟨g,0,none⟩) (s.L.length+n) cap2)) b O A (s.ins x)):=by
    intro w9 g cap2 r1 r2 r3 r4;rw[HN.out] at r1 ⊢
    obtain⟨z1,z2,z3⟩:=HPU.out w9 g cap2 l ds d1 r1 r2 r3 r4 d4
    rw[HF.out]
    exact⟨z1,z2,(JN.out _ _ z3).after B4.out⟩
   clear HPU HF HKB HOB JN HLB d1 d1' d2 d3 d4;have HSZ:Hid (0≤w4.heap.size):=Nat.zero_le _;generalize s.L.length=nL at q6 HOW HPU2 hL80 hle hsum;have hn1:0<n:=by omega
   go_wp2_with (at_builtin;refine wpList_append_lies _ rfl (.tmp 77) (.tmp 78) 52 rfl 0 79 i0 (.agg #[.int .i64 0,.int .i64 0,.slice none 0 0]) 3 40 pUnderT hi hz0 hz1 hz2 rfl (by decide) _ _ _ rfl HOW.out ⟨g0,o0,none⟩ n d ds rfl HD1.out HD2.out HD3.out hn1 (by unfold maxLen;omega) (by omega) HSZ.out w4.heap.size rfl ?_)
   intro g2 cap2 w9 r1 r2 r3 r4;obtain⟨q69,f69,z9⟩:=HPU2.out w9 g2 cap2 r1 r2 r3 r4
   have Z9:=Qa z9;clear r1 r2 r3 r4 HPU2 HOW z9 q6 f6;go_wp2
   go_ret;exact⟨by rw[EC.out];rfl,Z9.out⟩
end Go.Proofs.YtacjnejckfhpoadGreat
