import Derived.Test.YtacjnejckfhpoaeGreatP1
import Derived.Laws.CopyOwn
import Derived.Deep.Upon
import Derived.Deep.RegionWith
import Derived.SizedLaws
set_option maxHeartbeats 16000000
set_option maxRecDepth 100000
namespace Go.Proofs.YtacjnejckfhpoaeGreat
open Go.ChangeShapes Go.WideShapes Go.ChangeAt Go.RowKit
set_option linter.unusedVariables false
def Qc3 {α:Type}(A:Lay α) (w w':World) (l:List α) (e:Ending):Prop:=∃ a' c',e=.returned (.slice a' l.length c')∧A.list.In w' (Zm w.heap.size) l [.slice a' l.length c']∧Below w.heap.size w w'
def iv (l:List Int):List Value:=l.map (fun x=>Value.int .i64 x)
theorem QdR {w:World}{lo:Nat}{e:TypeId}{v:Value}{l:List Int}(h:w.ownsRow lo e 1 v l.length (iv l)) (hb:∀ x∈l,I64 x):intsL.In w (Zm lo) l [v] :=
 ZB.lay (A:=Lay.int) (e:=e) (xs:=iv l) ⟨h,fun i x hx=>by
  have hs:Lay.int.size=1:=rfl;rw[hs,Nat.mul_one]
  have e1:((iv l).drop i).take 1=[.int .i64 x]:=by
   obtain⟨hi,e⟩:=List.getElem?_eq_some_iff.1 hx
   unfold iv;rw[← List.map_drop,List.drop_eq_getElem_cons hi]
   simp[e]
  rw[e1]
  exact⟨rfl,hb x (List.mem_of_getElem? hx)⟩⟩
theorem QdY {w:World}{O:Nat→Prop}{l:List Int}{a:Option Addr}{m c:Nat}(h:intsL.In w O l [.slice a m c]):∀ x∈l,I64 x:=by
 intro x hx;obtain⟨i,hi⟩:=List.mem_iff_getElem?.1 hx
 obtain⟨g,o,ds,_,_,_,_,h2⟩:=Lay.list_at h hi
 exact h2.2
theorem Qd2 {w:World}{O:Nat→Prop}{l:List Int}{a:Option Addr}{m c:Nat}(h:intsL.In w O l [.slice a m c]) (h0:0<l.length) :
 ∃ ad,a=some ad∧ad.block<w.heap.size∧∀ j v,(iv l)[j]?=some v→w.cell? (ad.add j)=some v:=by
 obtain⟨g,o,e,_,hlt,_⟩:=Z7 h h0
 refine⟨⟨g,o,none⟩,e,hlt,fun j v hj=>?_⟩
 have hjl:j<l.length:=by have:=(List.getElem?_eq_some_iff.1 hj).1;simpa[iv] using this
 obtain⟨g2,o2,e2,_,_,h2⟩:=Z7 h hjl
 rw[e] at e2
 cases e2
 rw[show (⟨g,o,none⟩:Addr).add j=⟨g,o+j,none⟩ from by unfold Addr.add;split<;>simp_all,h2,← hj]
 simp[iv,List.getD,hjl]
theorem QbQ (l:List Int):(iv l).length=l.length:=by simp[iv]
theorem QiM (l:List Int):∀ v∈iv l,v.oneCell'=true:=by
 intro v hv;obtain⟨x,_,rfl⟩:=List.mem_map.1 hv
 rfl
theorem underIs:Tryz.prog.underlying 35=some (.slice 3):=by kernel_rfl
theorem infoI:(Tryz.prog.info? 3).map (fun i=>(i.zero,i.size,i.bytes))=some (some (.int .i64 0),1,8):=by kernel_rfl
theorem infoI1:(Tryz.prog.info? 3).map (·.size)=some 1:=by kernel_rfl
theorem infoI_parts:∃ i,Tryz.prog.info? 3=some i∧i.zero=some (.int .i64 0)∧i.size=1∧i.bytes=8:=by
 obtain⟨i,hi,e⟩:=Option.map_eq_some_iff.1 infoI
 simp only[Prod.mk.injEq] at e
 exact⟨i,hi,e⟩
theorem ZO (l:List Int) (p:Option Addr) (c:Nat) (w:World) (hl0:intsL.In w All l [.slice p l.length c]) (hb0:l.length≤4294967296) :
 Calls Tryz.prog 149 #[.slice p l.length c] w fun e w'=>Qc3 Lay.int w w' l e:=by
 have hl:Hid _:=hl0;have hx:Hid _:=QdY hl0;clear hl0;have hmk:=fun wx=>run_make_row' (P:=Tryz.prog) 35 3 (.int .i64 0) 8 underIs infoI rfl .i64 .i64 l.length (by omega) (by omega) wx
 have hnew:(w.alloc (.cells (madeCells #[.int .i64 0] l.length) 3)).heap[w.heap.size]?=some (.cells (madeCells #[.int .i64 0] l.length).toList.toArray 3 (0,0)):=by
  rw[Array.toArray_toList];exact Qu w _ _
 have hmin:(iv l).length=Nat.min l.length l.length:=by rw[QbQ];exact(Nat.min_self _).symm
 have hpos:Hid (0<(iv l).length→(some ⟨w.heap.size,0,none⟩:Option Addr)=some ⟨w.heap.size,0,none⟩∧∃ ad,p=some ad∧∀ j v,(iv l)[j]?=some v→(w.alloc (.cells (madeCells #[.int .i64 0] l.length) 3)).cell? (ad.add j)=some v):=by
  intro h0;rw[QbQ] at h0
  obtain⟨ad,e,hlt,h2⟩:=Qd2 hl.out h0
  exact⟨rfl,ad,e,fun j v hj=>(World.cell?_of_block (w:=w) (a:=ad.add j) (Below.heap_alloc _ _ _ (by unfold Addr.add;split<;>exact hlt))).trans (h2 j v hj)⟩
 have hfit:0+(iv l).length≤(madeCells #[.int .i64 0] l.length).toList.length:=by rw[QbQ,toList_madeCells_one];simp
 have hbe:Hid (Below w.heap.size w (w.alloc (.cells (madeCells #[.int .i64 0] l.length) 3))):=(Below.refl _ w).alloc (Nat.le_refl _) _;go_enter Tryz.func149,Tryz.ntmps149
 go_wp2_with (refine wpList_copy_splice rfl (.tmp 7) (.tmp 8) 35 35 rfl 3 underIs infoI1 _ _ l.length l.length l.length c rfl rfl w.heap.size 0 (madeCells #[.int .i64 0] l.length).toList 3 hnew (iv l) hmin hpos.out hfit (QiM l) w.heap.size w hbe.out (Nat.le_refl _) ?_)
 ·intro w' hg hbel;clear hpos hfit hbe hnew hmin
  have R:Hid (Qc3 Lay.int w w' l (.returned (.slice (some ⟨w.heap.size,0,none⟩) l.length l.length))):=by
   have e1:splice (madeCells #[.int .i64 0] l.length).toList 0 (iv l)=iv l:=by
    rw[toList_madeCells_one];simp[splice,QbQ]
   rw[e1] at hg
   refine⟨_,_,rfl,QdR ⟨by rw[QbQ,Nat.mul_one],Or.inr ⟨w.heap.size,l.length,(iv l).toArray,rfl,Nat.le_refl _,hg.out,Nat.le_refl _,by unfold maxLen;omega,by simp[QbQ],?_⟩⟩ hx.out,hbel⟩
   rw[Nat.mul_one,← QbQ l];simp
  clear hg hbel hmk;go_wp2
  go_ret;exact R.out
theorem Zv {P:Program}{w:World}{ops:Array Oper}{rest:List Oper}{o:Oper}{a:Act}{Q:Exit→Act→World→Prop}(hgd:o.guard=none) (s x:Operand) (t:TypeId)
 (ho:o.op=.call { callee:=.builtin .append,args:=#[s,x],argTypes:=#[t,t] }) (v vx:Value) (hs:a.eval s=v) (hx:a.eval x=vx) (hrun:(Builtin.append_ #[t,t] o.type #[v,vx]).run P w=.ok v w)
 (h:wpList P ops Q rest (a.put o.dst v) w):wpList P ops Q (o::rest) a w:=by
 refine wpList_plain hgd fun K hK=>?_;unfold Oper.wp;simp[execOp,ho,resolve,invoke,builtin,hs,hx,hrun,Result.andThen]
 exact hK _ _ h
theorem QaM (l:List Int) (p:Option Addr) (c:Nat) (w:World) (hl0:intsL.In w All l [.slice p l.length c]) (hb0:l.length≤4294967296) :
 Calls Tryz.prog 38 #[.slice p l.length c] w fun e w'=>Qc3 Lay.int w w' l e:=by
 obtain⟨i0,hi,hz0,hz1,hz2⟩:=infoI_parts
 by_cases h0:0<l.length
 ·obtain⟨ad,rfl,hlt,h2⟩:=Qd2 hl0 h0
  have hsrc:Hid _:=h2;have hx:Hid _:=QdY hl0;clear hl0 h2;go_enter Tryz.func38,Tryz.ntmps38
  go_wp2_with (at_builtin;refine wpList_append_lies _ rfl (.tmp 4) (.tmp 5) 35 rfl w.heap.size 3 i0 (.int .i64 0) 1 8 underIs hi hz0 hz1 hz2 rfl (by decide) (.slice none 0 0) 0 [] rfl ⟨rfl,Or.inl ⟨rfl,rfl⟩⟩ ad l.length c (iv l) rfl (by rw[QbQ,Nat.mul_one]) hsrc.out (QiM l) h0 (by unfold maxLen;omega) (by omega) (Nat.le_refl _) w.heap.size rfl ?_)
  intro g2 cap2 w9 h1 hgrow hat hlt1
  have R:Hid (Qc3 Lay.int w w9 l (.returned (.slice (some ⟨g2,0,none⟩) l.length cap2))):=by
   exact⟨_,_,rfl,QdR h1 hx.out,(Below.refl _ w).grown hgrow (Nat.le_refl _) (fun k hk=>by simp[Value.ownBlock] at hk)⟩
  clear h1 hgrow hat hlt1 hsrc hx;go_wp2
  go_ret;exact R.out
 ·have e0:l=[]:=List.length_eq_zero_iff.1 (by omega);subst e0
  have ha:Hid (∀ (t:TypeId) (wx:World),(Builtin.append_ #[35,35] t #[.slice none 0 0,.slice p 0 c]).run Tryz.prog wx=.ok (.slice none 0 0) wx):=fun (t:TypeId) (wx:World)=>run_append_nothing (P:=Tryz.prog) wx 35 35 t 3 i0 underIs hi none 0 0 (Nat.le_refl _) (.slice p 0 c) (by cases p with
   | none=>exact Src.ofNil wx underIs c
   | some ad=>exact Src.ofSlice wx underIs ad 0 c [] (by simp) (fun j u h=>by simp at h) (fun u h=>by cases h))
  simp only[List.length_nil]
  have R:Hid (Qc3 Lay.int w w [] (.returned (.slice none 0 0))):=⟨_,_,rfl,Lay.list_nil _ _ _ _ _,Below.refl _ _⟩;clear hl0;go_enter Tryz.func38,Tryz.ntmps38
  go_wp2_with (at_builtin;refine Zv rfl (.tmp 4) (.tmp 5) 35 rfl (.slice none 0 0) (.slice p 0 c) rfl rfl (ha.out _ _) ?_)
  go_ret;exact R.out
end Go.Proofs.YtacjnejckfhpoaeGreat
namespace Go.Proofs.YtacjnejckfhpoaeGreat
open Go.ChangeShapes Go.WideShapes Go.ChangeAt Go.RowKit
set_option linter.unusedSimpArgs false
set_option linter.unusedVariables false
def Q8 (n m:Nat):Int:=if 80<n+m then 2 else 0
theorem Qel {w:World}{b:Nat}{O A:Nat→Prop}{s:JSt}(n:Nat) (hn:n≤1000) (hL:s.L.length≤80) (h:SAt w b O A s) :
 Calls Tryz.prog 109 #[.pointer (some ⟨b,0,none⟩),.int .i64 n] w fun e w'=>ZG (Q8 s.L.length n) VNone e∧w'=w:=by
 obtain⟨pm,cm,hh,a1,c1,a2,c2,a3,c3,aL,cL,RR⟩:=h.read
 obtain⟨-,-,-,-,-,-,q6⟩:=RR.cells
 clear h RR;generalize s.L.length=nl at q6 hL ⊢;by_cases hs:80<nl+n
 ·have E:Hid (Q8 nl n=2):=if_pos hs;have hs':decide ((nl:Int)+n≤80)=false:=decide_eq_false (by omega);clear hs;go_enter Tryz.func109,Tryz.ntmps109
  go_wp2_with fail
  refine(Zd _ 2).mono ?_
  rintro e' w' ⟨rfl,hw⟩;subst hw;exact⟨rfl,ZG.bad E.out (by decide),rfl⟩
 ·have E:Hid (Q8 nl n=0):=if_neg hs;have hs':decide ((nl:Int)+n≤80)=true:=decide_eq_true (by omega);clear hs;go_enter Tryz.func109,Tryz.ntmps109
  go_wp2_with (go_at_call 110;refine(Ze _ _).mono ?_;rintro e' w' ⟨rfl,hw⟩;have hw:=hw.symm;subst hw)
  exact bodyPost_end (v:=.tuple #[]) (by simp[results,Tryz.results109,go_sem]) rfl ⟨ZG.good E.out rfl,rfl⟩
def Q0 (w:World) (b:Nat) (O A:Nat→Prop) (s s':JSt) (c:Int) (e:Ending) (w':World):Prop :=
 (c=0∧e=.returned (.tuple #[])∧STo w w' b O A s')∨(c≠0∧e=.panicked (Qem c)∧STo w w' b O A s)
theorem STo.of_below {w w':World}{b:Nat}{O A:Nat→Prop}{s:JSt}(h:SAt w b O A s) (hb:Below w.heap.size w w'):STo w w' b O A s:=(STo.same (h.below hb)).after hb
theorem Q0.after {w w1 w':World}{b:Nat}{O A:Nat→Prop}{s s':JSt}{c:Int}{e:Ending}(h:Q0 w1 b O A s s' c e w') (hb:Below w.heap.size w w1):Q0 w b O A s s' c e w':=by
 rcases h with ⟨h1,h2,h3⟩|⟨h1,h2,h3⟩
 ·exact .inl ⟨h1,h2,h3.after hb⟩
 ·exact .inr ⟨h1,h2,h3.after hb⟩
theorem Q0.bad {w w':World}{b:Nat}{O A:Nat→Prop}{s s':JSt}{c d:Int}(h:c=d) (hd:d≠0) (hs:STo w w' b O A s):Q0 w b O A s s' c (.panicked (Qem d)) w':=.inr ⟨by omega,by rw[h],hs⟩
theorem Qad {w:World}{b:Nat}{O A:Nat→Prop}{s:JSt}{l:List (TT 6)}{p:Option Addr}{n c:Nat}(hn:l.length=n) (hn2:n≤8) (hl:(Qh 6).In w (fun g=>¬ A g) l [.slice p n c]) (hL:s.L.length≤80) (hA:∀ k,A k→k<w.heap.size) (h:SAt w b O A s) :
 Calls Tryz.prog 70 #[.pointer (some ⟨b,0,none⟩),.slice p n c] w fun e w'=>Q0 w b O A s { s with L:=s.L++l } (Q8 s.L.length n) e w':=by
 obtain⟨i0,hi,hz0,hz1,hz2⟩:=pInfoT
 have H:=Qa h;have HLB:=Qa hl;have HN:=Qa hn;have C:=Qa (Qel n (by omega) hL h);have HAA:=Qa hA;clear h hl hn hA;by_cases hs:80<s.L.length+n
 ·rw[show Q8 s.L.length n=2 from if_pos hs] at C ⊢
  clear hs;go_enter Tryz.func70,Tryz.ntmps70
  go_wp2_with fail
  refine C.out.mono ?_;rintro e' w' ⟨⟨hc,-⟩|⟨hc,rfl⟩,hw⟩
  ·cases hc
  subst hw;exact⟨rfl,.inr ⟨by decide,rfl,STo.same H.out⟩⟩
 rw[show Q8 s.L.length n=0 from if_neg hs] at C ⊢
 obtain⟨aL,cL,xs,q6,f6,hle,how,hpush⟩:=H.out.pushL HAA.out
 have HPU:=Qa hpush;have HOW:=Qa how
 have C2:Hid (Calls Tryz.prog 109 #[.pointer (some ⟨b,0,none⟩),.int .i64 n] w fun e w'=>e=.returned (.tuple #[])∧w'=w):=C.out.mono (fun e w' h=>by
  rcases h with ⟨⟨-,x,rfl,hx⟩|⟨hc,-⟩,hw⟩
  ·exact⟨by rw[hx],hw⟩
  ·exact absurd rfl hc)
 clear hpush how C;by_cases hn0:n=0
 ·subst hn0;have hl0:l=[]:=List.length_eq_zero_iff.1 HN.out;subst hl0
  have ha:Hid (∀ (t:TypeId) (wx:World),(Builtin.append_ #[33,33] t #[.slice aL s.L.length cL,.slice p 0 c]).run Tryz.prog wx=.ok (.slice aL s.L.length cL) wx):=fun (t:TypeId) (wx:World)=>run_append_nothing (P:=Tryz.prog) wx 33 33 t 70 i0 pUnderT hi aL s.L.length cL hle (.slice p 0 c) (by cases p with
   | none=>exact Src.ofNil wx pUnderT c
   | some ad=>exact Src.ofSlice wx pUnderT ad 0 c [] (by simp) (fun j u h=>by simp at h) (fun u h=>by cases h))
  have HZ:Hid (STo w (w.setCell ⟨b,6,none⟩ (.slice aL s.L.length cL)) b O A { s with L:=s.L++[] }):=by
   have e:∀ k,(w.setCell ⟨b,6,none⟩ (.slice aL s.L.length cL)).heap[k]?=w.heap[k]?:=fun k=>H.out.same6 q6 k;have hb:Below w.heap.size w (w.setCell ⟨b,6,none⟩ (.slice aL s.L.length cL)):=⟨rfl,rfl,rfl,by simp,fun k _=>e k⟩;rw[List.append_nil]
   exact STo.of_below H.out hb
  clear HPU HOW HLB;generalize s.L.length=nL at q6 ha HZ hL hle hs;go_enter Tryz.func70,Tryz.ntmps70
  go_wp2_with (first | (go_at_call 109;refine(C2.out).mono ?_;rintro e w' ⟨rfl,hw⟩;have hw:=hw.symm;subst hw) | (at_builtin;refine Zv rfl (.tmp 12) (.tmp 13) 33 rfl (.slice aL nL cL) (.slice p 0 c) rfl rfl (ha.out _ _) ?_))
  exact bodyPost_end (v:=.tuple #[]) (by simp[results,Tryz.results70,go_sem]) rfl (.inl ⟨rfl,rfl,HZ.out⟩)
 ·obtain⟨g0,o0,rfl⟩:∃ g0 o0,p=some ⟨g0,o0,none⟩:=by
   obtain⟨g,o,dd,e,-⟩:=Lay.list_at HLB.out (List.getElem?_eq_getElem (show 0<l.length by have:=HN.out;omega))
   exact⟨g,o,e⟩
  obtain⟨ds,d1,d2,d3,d4⟩:=Lay.flat HLB.out (fun y cs hy=>by obtain⟨ya,yc,e,-⟩:=hy;subst e;exact Qkv _ _ _ _ _)
  have d1':ds.length=n*3:=by rw[← HN.out];exact d1
  have HD1:=Qa d1';have HD2:=Qa d2;have HD3:=Qa d3
  have HPU2:Hid (∀ w9 g cap2,w9.ownsRow 0 70 3 (.slice (some ⟨g,0,none⟩) (s.L.length+n) cap2) (s.L.length+n) (xs++ds)→w.grownBy w9 (Value.slice aL s.L.length cL).ownBlock→((Value.slice aL s.L.length cL).ownBlock=some g∨g=w.heap.size)→g<w9.heap.size→w9.cell? ⟨b,6,none⟩=some (.slice aL s.L.length cL)∧w9.frozen? ⟨b,6,none⟩=false∧STo w (w9.setCell ⟨b,6,none⟩ (.slice (some ⟨g,0,none⟩) (s.L.length+n) cap2)) b O A { s with L:=s.L++l }):=by
   intro w9 g cap2 r1 r2 r3 r4;rw[← HN.out] at r1 ⊢
   exact HPU.out w9 g cap2 l ds d1 r1 r2 r3 r4 d4
  clear HPU HLB d1 d1' d2 d3 d4;have HSZ:Hid (0≤w.heap.size):=Nat.zero_le _;have hnl:s.L.length+n≤80:=by omega
  have hn1:0<n:=by omega
  generalize s.L.length=nL at q6 HOW HPU2 hL hle hs hnl;go_enter Tryz.func70,Tryz.ntmps70
  go_wp2_with (first | (go_at_call 109;refine(C2.out).mono ?_;rintro e w' ⟨rfl,hw⟩;have hw:=hw.symm;subst hw) | (at_builtin;refine wpList_append_lies _ rfl (.tmp 12) (.tmp 13) 33 rfl 0 70 i0 (.agg #[.int .i64 0,.int .i64 0,.slice none 0 0]) 3 40 pUnderT hi hz0 hz1 hz2 rfl (by decide) _ _ _ rfl HOW.out ⟨g0,o0,none⟩ n c ds rfl HD1.out HD2.out HD3.out hn1 (by unfold maxLen;omega) (by omega) HSZ.out w.heap.size rfl ?_))
  intro g2 cap2 w9 r1 r2 r3 r4;obtain⟨q69,f69,z9⟩:=HPU2.out w9 g2 cap2 r1 r2 r3 r4
  have Z9:=Qa z9;clear r1 r2 r3 r4 HPU2 HOW z9 q6 f6;go_wp2
  exact bodyPost_end (v:=.tuple #[]) (by simp[results,Tryz.results70,go_sem]) rfl (.inl ⟨rfl,rfl,Z9.out⟩)
theorem QdM {w:World}{A:Nat→Prop}(hA:∀ k,A k→k<w.heap.size){t:TT 6}{p:Option Addr}{c d:Nat}(ht:TIn w (fun g=>¬ A g) t p) (hok:t.ok) :
 (Qh 6).In (w.alloc (.cells #[.int .i64 t.kind,.int .i64 t.r,.slice p t.len c] 70)) (fun g=>¬ A g) [t] [.slice (some ⟨w.heap.size,0,none⟩) 1 d]:=by
 refine⟨some ⟨w.heap.size,0,none⟩,d,rfl,fun i x hx=>?_⟩
 have hi:i<1:=by simpa using (List.getElem?_eq_some_iff.1 hx).1
 have hi0:i=0:=by omega
 subst hi0;simp at hx
 subst hx;have hb:=Qu w #[.int .i64 t.kind,.int .i64 t.r,.slice p t.len c] 70;refine⟨w.heap.size,0,[.int .i64 t.kind,.int .i64 t.r,.slice p t.len c],rfl,fun e=>by have:=hA _ e;omega,lt_of_block hb,fun j hj=>?_,p,c,rfl,ht.alloc _,hok⟩
 have hj:j<3:=hj;match j,hj with
 | 0,_=>exact Qb hb 0 _ rfl
 | 1,_=>exact Qb hb 1 _ rfl
 | 2,_=>exact Qb hb 2 _ rfl
 | j+3,h=>exact absurd h (by omega)
theorem Qbt {w:World}{b:Nat}{O A:Nat→Prop}{s:JSt}(hL:s.L.length≤80) (hA:∀ k,A k→k<w.heap.size) (h:SAt w b O A s) :
 Calls Tryz.prog 65 #[.pointer (some ⟨b,0,none⟩)] w fun e w'=>Q0 w b O A s { s with L:=s.L++[tInt] } (Q8 s.L.length 1) e w':=by
 have C:Hid (∀ d,Calls Tryz.prog 70 #[.pointer (some ⟨b,0,none⟩),.slice (some ⟨w.heap.size,0,none⟩) 1 d] (w.alloc (.cells #[.int .i64 1,.int .i64 0,.slice none 0 0] 70)) fun e w'=>Q0 w b O A s { s with L:=s.L++[tInt] } (Q8 s.L.length 1) e w'):=fun d=>by
  have b1:=QQ w (.cells #[.int .i64 1,.int .i64 0,.slice none 0 0] 70);refine(Qad (l:=[tInt]) rfl (by decide) (QdM (t:=tInt) (p:=none) (c:=0) (d:=d) hA (fun i x hx=>by simp[tInt] at hx) (by unfold TT.ok;simp[tInt])) hL (fun k hk=>Nat.lt_of_lt_of_le (hA k hk) b1.size) (h.below b1)).mono (fun e w' hd=>hd.after b1)
 clear h hL hA;go_enter Tryz.func65,Tryz.ntmps65
 go_wp2_with fail
 refine(C.out _).mono ?_
 rintro e' w' hd;have HD:=Qa hd;rcases hd with ⟨h1,rfl,h3⟩|⟨h1,rfl,h3⟩
 rotate_left
 ·exact⟨rfl,HD.out⟩
 clear h1 h3;go_wp2
 exact bodyPost_end (v:=.tuple #[]) (by simp[results,Tryz.results65,go_sem]) rfl HD.out
theorem Qi0 (w:World) (Q:Nat→Prop) (k r:Int):TIn (n:=6) w Q (mkT k r []) none:=fun i x hx=>by simp at hx
theorem Qjl {k r:Int}(h:-9223372036854775808≤r∧r≤9223372036854775807) (h2:-9223372036854775808≤k∧k≤9223372036854775807):TT.ok (n:=6) (mkT k r []):=by
 unfold TT.ok;simp
 omega
theorem QcE {w:World}{b:Nat}{O A:Nat→Prop}{s:JSt}(k r:Int) (hr:0≤r∧r≤1000) (hk:0≤k∧k≤4) (d:Nat) (hL:s.L.length≤80) (hA:∀ k,A k→k<w.heap.size) (h:SAt w b O A s) :
 Calls Tryz.prog 70 #[.pointer (some ⟨b,0,none⟩),.slice (some ⟨w.heap.size,0,none⟩) 1 d] (w.alloc (.cells #[.int .i64 k,.int .i64 r,.slice none 0 0] 70)) fun e w'=>Q0 w b O A s { s with L:=s.L++[mkT k r []] } (Q8 s.L.length 1) e w':=by
 have b1:=QQ w (.cells #[.int .i64 k,.int .i64 r,.slice none 0 0] 70);exact(Qad (l:=[mkT k r []]) rfl (by simp) (QdM (t:=mkT k r []) (p:=none) (c:=0) (d:=d) hA (Qi0 _ _ _ _) (Qjl (by omega) (by omega))) hL (fun k hk=>Nat.lt_of_lt_of_le (hA k hk) b1.size) (h.below b1)).mono (fun e w' hd=>hd.after b1)
def JSt.openC (s:JSt):Int:=if 80<s.L.length+1∨s.H.length=16 then 2 else 0
def JSt.openS (s:JSt):JSt:={ s with H:=s.H++[true],L:=s.L++[mkT 2 s.H.length []] }
theorem QhE {w:World}{b:Nat}{O A:Nat→Prop}{s:JSt}(hH:s.H.length≤16) (hL:s.L.length≤80) (hA:∀ k,A k→k<w.heap.size) (h:SAt w b O A s) :
 Calls Tryz.prog 67 #[.pointer (some ⟨b,0,none⟩)] w fun e w'=>Q0 w b O A s s.openS s.openC e w':=by
 have H:=Qa h;have HA:=Qa hA;have C:=Qa (Qel 1 (by decide) hL h);clear h hA;by_cases hs:80<s.L.length+1
 ·rw[show Q8 s.L.length 1=2 from if_pos hs] at C
  have E:Hid (s.openC=2):=if_pos (.inl hs);clear hs;go_enter Tryz.func67,Tryz.ntmps67
  go_wp2_with fail
  refine C.out.mono ?_;rintro e' w' ⟨⟨hc,-⟩|⟨hc,rfl⟩,hw⟩
  ·cases hc
  subst hw;exact⟨rfl,Q0.bad E.out (by decide) (STo.same H.out)⟩
 rw[show Q8 s.L.length 1=0 from if_neg hs] at C
 have C2:Hid (Calls Tryz.prog 109 #[.pointer (some ⟨b,0,none⟩),.int .i64 1] w fun e w'=>e=.returned (.tuple #[])∧w'=w):=C.out.mono (fun e w' h=>by
  rcases h with ⟨⟨-,x,rfl,hx⟩|⟨hc,-⟩,hw⟩
  ·exact⟨by rw[hx],hw⟩
  ·exact absurd rfl hc)
 clear C;obtain⟨hh,q1,hheld,hset⟩:=H.out.setH HA.out
 have CO:=Qa (Qc5 hheld);have HS:=Qa hset;clear hheld hset;by_cases h16:s.H.length=16
 ·have E:Hid (s.openC=2):=if_pos (.inr h16);rw[show QbH s.H=-1 by unfold QbH;rw[if_neg (by omega)],show QcR s.H=s.H by unfold QcR;rw[if_neg (by omega)]] at CO
  clear h16 hs;go_enter Tryz.func67,Tryz.ntmps67
  go_wp2_with (first | (go_at_call 109;refine(C2.out).mono ?_;rintro e w' ⟨rfl,hw⟩;have hw:=hw.symm;subst hw) | (go_at_call 60;refine(CO.out).mono ?_;rintro e w1 ⟨rfl,hh1,st1⟩;have Z:=Qa (HS.out w1 _ hh1 st1);clear hh1 st1))
  refine(Zd _ 2).mono ?_
  rintro e' w' ⟨rfl,hw⟩;subst hw;exact⟨rfl,Q0.bad E.out (by decide) Z.out⟩
 ·have E:Hid (s.openC=0):=if_neg (by omega);have hlt:s.H.length<16:=by omega
  rw[show QbH s.H=(s.H.length:Int) by unfold QbH;rw[if_pos hlt],show QcR s.H=s.H++[true] by unfold QcR;rw[if_pos hlt]] at CO
  have hHL:s.H.length≤1000:=by omega
  generalize hnH:s.H.length=nH at CO hlt hHL;have HnH:=Qa hnH;have hg0:decide ((nH:Int)≥0)=true:=decide_eq_true (by omega);clear hnH h16;go_enter Tryz.func67,Tryz.ntmps67
  go_wp2_with (first | (go_at_call 109;refine(C2.out).mono ?_;rintro e w' ⟨rfl,hw⟩;have hw:=hw.symm;subst hw) | (go_at_call 60;refine(CO.out).mono ?_;rintro e w1 ⟨rfl,hh1,st1⟩;have Z:=Qa (HS.out w1 _ hh1 st1);clear hh1 st1))
  refine(Ze _ _).mono ?_
  rintro e' w' ⟨rfl,hw⟩;have hw:=hw.symm;subst hw;obtain⟨N,z1,z2,z3⟩:=Z.out
  have HZ:=Qa (And.intro z1 z3);have CM:=Qa (fun d=>QcE 2 (nH:Int) (by omega) (by decide) d (by exact hL) (fun k hk=>by rcases hk with hk | hk;exact Nat.lt_of_lt_of_le (HA.out k hk) z3.size;exact(z1 k hk).2) z2);clear z1 z2 z3 Z HS CO C2;go_wp2_with fail
  refine(CM.out _).mono ?_
  rintro e' w2 hd;rcases hd with ⟨h1,rfl,h3⟩|⟨h1,rfl,h3⟩
  rotate_left
  ·exact absurd (if_neg hs) h1
  have F:=Qa (STo.join HZ.out.1 HZ.out.2 h3);clear h1 h3 CM HZ;go_wp2
  refine bodyPost_end (v:=.tuple #[]) (by simp[results,Tryz.results67,go_sem]) rfl (.inl ⟨E.out,rfl,?_⟩);have e:s.openS={ ({ s with H:=s.H++[true] }) with L:=({ s with H:=s.H++[true] }).L++[mkT 2 (nH:Int) []] }:=by unfold JSt.openS;rw[HnH.out]
  rw[e]
  exact F.out
def JSt.freeC (s:JSt) (a:Int):Int:=match s.at a with
 | none=>1
 | some t=>Qw (s.want a 2 true) (if t.r<s.f.regs then 11 else 0)
def JSt.freeS (s:JSt) (a:Int):JSt:={ s with H:=s.H.set (match s.at a with | none=>0 | some t=>t.r.toNat) false }
theorem Qg2 {s:JSt}{a:Int}(h:s.want a 2 true≠0):s.freeC a=s.want a 2 true:=by
 unfold JSt.freeC
 cases e:s.at a with
 | none=>unfold JSt.want;rw[e]
 | some t=>show Qw _ _=_;unfold Qw;rw[if_neg h]
theorem QiB {w:World}{b:Nat}{O A:Nat→Prop}{s:JSt}(a:Int) (hL:s.L.length≤80) (hA:∀ k,A k→k<w.heap.size) (h:SAt w b O A s) :
 Calls Tryz.prog 68 #[.pointer (some ⟨b,0,none⟩),.int .i64 a] w fun e w'=>Q0 w b O A s (s.freeS a) (s.freeC a) e w':=by
 have H:=Qa h;have HA:=Qa hA;clear h hA;have hfl:∀ (k r:Int) (p:Option Addr) (l c:Nat) (w:World),(Instr.field 70 (.agg #[.int .i64 k,.int .i64 r,.slice p l c]) 1).run Tryz.prog w=.ok (.int .i64 r) w:=fun _ _ _ _ _ _=>by kernel_rfl
 go_enter Tryz.func68,Tryz.ntmps68
 go_wp2_with fail
 refine(Z0 a 2 hL (fun k hk=>HA.out k (H.out.sub k hk)) H.out).mono ?_
 rintro e' w2 ⟨hO,b2⟩;have HB:=Qa b2;have H2:=Qa (H.out.below b2);clear b2;rcases hO with ⟨hc,x,rfl,t,p,c,ha,rfl,ht,hok⟩|⟨hc,rfl⟩
 rotate_left
 ·exact⟨rfl,Q0.bad (Qg2 hc) hc (STo.of_below H.out HB.out)⟩
 have E:Hid (s.freeC a=if t.r<s.f.regs then 11 else 0):=by show _=_;unfold JSt.freeC Qw;rw[ha];simp only[hc,if_true]
 have hhas:hHas s.H t.r=true:=by
  obtain⟨t',e1,e2,e3⟩:=QaL hc
  rw[ha] at e1
  cases e1
  exact e3 rfl
 have ES:Hid (s.freeS a={ s with H:=Qfp s.H t.r }):=by show _=_;unfold JSt.freeS Qfp;rw[ha,hhas];rfl
 obtain⟨pm,cm,hh,a1,c1,a2,c2,a3,c3,aL,cL,RR⟩:=H2.out.read
 obtain⟨-,q1,q2,-⟩:=RR.cells
 clear RR ht hok ha hc hhas;obtain⟨hh',q1',hheld,hset⟩:=H2.out.setH (fun k hk=>Nat.lt_of_lt_of_le (HA.out k hk) HB.out.size)
 have e1:=q1.symm.trans q1';simp only[Option.some.injEq,Value.pointer.injEq,Addr.mk.injEq,and_true] at e1
 subst e1;have CO:=Qa (QhG t.r hheld);have HS:=Qa hset;clear hheld hset q1';simp only[Tv]
 generalize s.f.regs=fr at q2 E;generalize t.r=tr at E CO ES ⊢;by_cases hlt:tr<fr
 ·rw[if_pos hlt] at E
  have hg:decide (tr≥fr)=false:=decide_eq_false (by omega);clear hlt;go_wp2_with fail
  refine(Zd _ 11).mono ?_
  rintro e' w' ⟨rfl,hw⟩;subst hw;exact⟨rfl,Q0.bad E.out (by decide) (STo.of_below H.out HB.out)⟩
 ·rw[if_neg hlt] at E
  have hg:decide (tr≥fr)=true:=decide_eq_true (by omega);clear hlt;go_wp2_with fail
  refine(Ze _ _).mono ?_
  rintro e' w' ⟨rfl,hw⟩;have hw:=hw.symm;subst hw;go_wp2_with (go_at_call 111;refine(CO.out).mono ?_;rintro e w1 ⟨rfl,hh1,st1⟩;have Z:=Qa (HS.out w1 _ hh1 st1);clear hh1 st1)
  exact bodyPost_end (v:=.tuple #[]) (by simp[results,Tryz.results68,go_sem]) rfl (.inl ⟨E.out,rfl,by rw[ES.out];exact Z.out.after HB.out⟩)
def JSt.arrayC (s:JSt) (a b:Int):Int:=Qw (Qw (s.want a 2 true) (s.want b 1 false)) (Q8 s.L.length 1)
theorem Qm {a b:Int}(h:a≠0):Qw a b=a:=by unfold Qw;rw[if_neg h]
theorem Qz {a b:Int}(h:a=0):Qw a b=b:=by unfold Qw;rw[if_pos h]
theorem Qj7 {w:World}(a:Int) (ha:-9223372036854775808≤a∧a≤9223372036854775807) (d:Nat):intsL.In (w.alloc (.cells #[.int .i64 a] 3)) All [a] [.slice (some ⟨w.heap.size,0,none⟩) 1 d]:=by
 refine⟨_,d,rfl,fun i x hx=>?_⟩
 have hi:i<1:=by simpa using (List.getElem?_eq_some_iff.1 hx).1
 have hi0:i=0:=by omega
 subst hi0;simp at hx
 subst hx;have hb:=Qu w #[.int .i64 a] 3;refine⟨w.heap.size,0,[.int .i64 a],rfl,trivial,lt_of_block hb,fun j hj=>?_,rfl,ha⟩
 have hj:j<1:=hj;match j,hj with
 | 0,_=>exact Qb hb 0 _ rfl
 | j+1,h=>exact absurd h (by omega)
theorem QiQ {w:World}(a b:Int) (ha:-9223372036854775808≤a∧a≤9223372036854775807) (hb:-9223372036854775808≤b∧b≤9223372036854775807) (d:Nat):intsL.In (w.alloc (.cells #[.int .i64 a,.int .i64 b] 3)) All [a,b] [.slice (some ⟨w.heap.size,0,none⟩) 2 d]:=by
 refine⟨_,d,rfl,fun i x hx=>?_⟩
 have hi:i<2:=by simpa using (List.getElem?_eq_some_iff.1 hx).1
 have hB:=Qu w #[.int .i64 a,.int .i64 b] 3;match i,hi with
 | 0,_ =>
   simp at hx
   subst hx;refine⟨w.heap.size,0,[.int .i64 a],rfl,trivial,lt_of_block hB,fun j hj=>?_,rfl,ha⟩
   have hj:j<1:=hj;match j,hj with
   | 0,_=>exact Qb hB 0 _ rfl
   | j+1,h=>exact absurd h (by omega)
 | 1,_ =>
   simp at hx
   subst hx;refine⟨w.heap.size,0,[.int .i64 b],rfl,trivial,lt_of_block hB,fun j hj=>?_,rfl,hb⟩
   have hj:j<1:=hj;match j,hj with
   | 0,_=>exact Qb hB 1 _ rfl
   | j+1,h=>exact absurd h (by omega)
 | i+2,h=>exact absurd h (by omega)
theorem QeA {s:JSt}{a:Int}:QA (fun a=>s.want a 1 false) [a]=s.want a 1 false:=by
 show (if s.want a 1 false≠0 then s.want a 1 false else 0)=_;split
 ·rfl
 ·rename_i h;exact(Decidable.not_not.1 h).symm
theorem Qit {s:JSt}{a b:Int}:QA (fun a=>s.want a 1 false) [a,b]=Qw (s.want a 1 false) (s.want b 1 false):=by
 show (if s.want a 1 false≠0 then s.want a 1 false else QA (fun a=>s.want a 1 false) [b])=_;rw[QeA]
 by_cases h:s.want a 1 false=0
 ·rw[if_neg (by simpa using h),Qz h]
 ·rw[if_pos h,Qm h]
theorem QbG {w:World}{b:Nat}{O A:Nat→Prop}{s:JSt}(a:Int) (ha:-9223372036854775808≤a∧a≤9223372036854775807) (d:Nat) (hL:s.L.length≤80) (hO:∀ k,O k→k<w.heap.size) (h:SAt w b O A s) :
 Calls Tryz.prog 66 #[.pointer (some ⟨b,0,none⟩),.slice (some ⟨w.heap.size,0,none⟩) 1 d] (w.alloc (.cells #[.int .i64 a] 3)) fun e w'=>ZG (s.want a 1 false) VNone e∧Below w.heap.size w w':=by
 have b1:=QQ w (.cells #[.int .i64 a] 3)
 have:=QbE (l:=[a]) rfl (by simp) (Qj7 a ha d) hL (fun k hk=>Nat.lt_of_lt_of_le (hO k hk) b1.size) (h.below b1)
 rw[QeA] at this
 exact this.mono (fun e w' h=>⟨h.1,b1.trans (h.2.mono b1.size)⟩)
theorem Qet {w:World}{b:Nat}{O A:Nat→Prop}{s:JSt}(a a':Int) (ha:-9223372036854775808≤a∧a≤9223372036854775807) (ha':-9223372036854775808≤a'∧a'≤9223372036854775807) (d:Nat) (hL:s.L.length≤80) (hO:∀ k,O k→k<w.heap.size) (h:SAt w b O A s) :
 Calls Tryz.prog 66 #[.pointer (some ⟨b,0,none⟩),.slice (some ⟨w.heap.size,0,none⟩) 2 d] (w.alloc (.cells #[.int .i64 a,.int .i64 a'] 3)) fun e w'=>ZG (Qw (s.want a 1 false) (s.want a' 1 false)) VNone e∧Below w.heap.size w w':=by
 have b1:=QQ w (.cells #[.int .i64 a,.int .i64 a'] 3)
 have:=QbE (l:=[a,a']) rfl (by simp) (QiQ a a' ha ha' d) hL (fun k hk=>Nat.lt_of_lt_of_le (hO k hk) b1.size) (h.below b1)
 rw[Qit] at this
 exact this.mono (fun e w' h=>⟨h.1,b1.trans (h.2.mono b1.size)⟩)
theorem QgF {w:World}{b:Nat}{O A:Nat→Prop}{s:JSt}(a a':Int) (ha':-9223372036854775808≤a'∧a'≤9223372036854775807) (hH:s.H.length≤16) (hL:s.L.length≤80) (hA:∀ k,A k→k<w.heap.size) (h:SAt w b O A s) :
 Calls Tryz.prog 73 #[.pointer (some ⟨b,0,none⟩),.int .i64 a,.int .i64 a'] w fun e w'=>∀ t,(s.at a=some t∨(s.at a=none∧t=tInt))→Q0 w b O A s { s with L:=s.L++[mkT 4 t.r []] } (s.arrayC a a') e w':=by
 have H:=Qa h;have HA:=Qa hA;have HI:=Qa ha';clear h hA ha';have hfl:∀ (k r:Int) (p:Option Addr) (l c:Nat) (w:World),(Instr.field 70 (.agg #[.int .i64 k,.int .i64 r,.slice p l c]) 1).run Tryz.prog w=.ok (.int .i64 r) w:=fun _ _ _ _ _ _=>by kernel_rfl
 go_enter Tryz.func73,Tryz.ntmps73
 go_wp2_with fail
 refine(Z0 a 2 hL (fun k hk=>HA.out k (H.out.sub k hk)) H.out).mono ?_
 rintro e' w2 ⟨hO,b2⟩;have HB:=Qa b2;have H2:=Qa (H.out.below b2);have HA2:=Qa (fun k hk=>Nat.lt_of_lt_of_le (HA.out k hk) b2.size);clear b2;rcases hO with ⟨hc,x,rfl,t,p,c,ha,rfl,ht,hok⟩|⟨hc,rfl⟩
 rotate_left
 ·exact⟨rfl,fun t _=>Q0.bad (by unfold JSt.arrayC;rw[Qm hc,Qm hc]) hc (STo.of_below H.out HB.out)⟩
 have E:Hid (s.arrayC a a'=Qw (s.want a' 1 false) (Q8 s.L.length 1)):=by show _=_;unfold JSt.arrayC;rw[Qz hc]
 have hr:0≤t.r∧t.r≤1000:=by
  obtain⟨t',e1,e2,e3⟩:=QaL hc
  rw[ha] at e1
  cases e1
  have:=ZS (e3 rfl)
  omega
 have HAT:=Qa ha;have HR:=Qa hr;clear ht hok ha hc hr;simp only[Tv]
 have C:=Qa (fun d=>QbG a' HI.out d hL (fun k hk=>HA2.out k (H2.out.sub k hk)) H2.out);go_wp2_with fail
 refine(C.out _).mono ?_
 rintro e' w3 ⟨hO,b3⟩;have HB3:=Qa (HB.out.trans (b3.mono HB.out.size));have H3:=Qa (H2.out.below b3);have HA3:=Qa (fun k hk=>Nat.lt_of_lt_of_le (HA2.out k hk) b3.size);rcases hO with ⟨hc,x,rfl,hx⟩|⟨hc,rfl⟩
 rotate_left
 ·exact⟨rfl,fun t _=>Q0.bad (by rw[E.out,Qm hc]) hc (STo.of_below H.out HB3.out)⟩
 subst hx;have E2:Hid (s.arrayC a a'=Q8 s.L.length 1):=by show _=_;rw[E.out,Qz hc]
 clear b3 hc E C;have CM:=Qa (fun d=>QcE 4 t.r HR.out (by decide) d hL HA3.out H3.out);go_wp2_with fail
 refine(CM.out _).mono ?_
 rintro e' w4 hd
 have F:Hid (∀ t,(s.at a=some t∨(s.at a=none∧t=tInt))→Q0 w b O A s { s with L:=s.L++[mkT 4 t.r []] } (s.arrayC a a') e' w4):=fun t' h'=>by
  rcases h' with h' | ⟨h',-⟩
  ·have e:=h'.symm.trans HAT.out;injection e with e
   subst e;rw[E2.out]
   exact hd.after HB3.out
  ·rw[HAT.out] at h';cases h'
 rcases hd with ⟨h1,rfl,h3⟩|⟨h1,rfl,h3⟩
 rotate_left
 ·exact⟨rfl,F.out⟩
 clear h1 h3 CM;go_wp2
 exact bodyPost_end (v:=.tuple #[]) (by simp[results,Tryz.results73,go_sem]) rfl F.out
end Go.Proofs.YtacjnejckfhpoaeGreat
namespace Go.Proofs.YtacjnejckfhpoaeGreat
open Go.ChangeShapes Go.WideShapes Go.ChangeAt Go.RowKit
set_option linter.unusedVariables false
theorem typeFault_any:∀ n,QdT 126 n:=by
 intro n
 induction n with
 | zero=>intro t;exact Empty.elim t
 | succ n ih =>
   intro t a c regs w ht hct;have IH:Hid (QdT 126 n):=ih;clear ih;have hT:Hid (LIn w All t.2.2 a):=ht.list;have hco:Hid (∀ x∈t.2.2,x.count≤100000):=fun x hx=>by have:=t.count_kid hx;omega
   have hlen:t.2.2.length≤100000:=by have:=t.len_lt_count;rw[t.len_eq] at this;omega
   have hF:Hid (t.fault regs=if ownC t.kind t.r t.2.2.length regs≠0 then ownC t.kind t.r t.2.2.length regs else QA (TT.fault regs) t.2.2):=rfl;generalize t.fault regs=res at hF ⊢;simp only[Tv,TT.len_eq]
   generalize t.2.2=l at hT hco hF hlen ⊢;generalize t.kind=k at hF ⊢;generalize t.r=r at hF ⊢;clear ht hct t;generalize hln:l.length=len at hF hlen ⊢;have HL:Hid (l.length=len):=hln;clear hln;rcases (show k<1∨(¬ k<1∧4<k)∨k=1∨k=2∨k=4∨k=3 by omega) with h1 | ⟨h1,h2⟩ | rfl | rfl | rfl | rfl
   ·have hR:=hF.out;rw[show ownC _ _ len regs=3 by unfold ownC;repeat' split;all_goals omega] at hR
    clear hF;replace hR:Hid (res=3):=by show res=3;simpa using hR
    go_enter Tryz.func126,Tryz.ntmps126
    go_wp2_with fail
    go_ret;exact⟨by rw[hR.out];rfl,(Below.refl _ w).alloc (Nat.le_refl _) _⟩
   ·have hR:=hF.out;rw[show ownC _ _ len regs=3 by unfold ownC;repeat' split;all_goals omega] at hR
    clear hF;replace hR:Hid (res=3):=by show res=3;simpa using hR
    go_enter Tryz.func126,Tryz.ntmps126
    go_wp2_with fail
    go_ret;exact⟨by rw[hR.out];rfl,(Below.refl _ w).alloc (Nat.le_refl _) _⟩
   ·rcases (show r≠0∨(r=0∧0<len)∨(r=0∧len=0) by omega) with h1 | ⟨rfl,h1⟩|⟨rfl,h1⟩
    ·have g1:(r != 0)=true:=by simpa using h1
     have hR:=hF.out;rw[show ownC _ _ len regs=4 by unfold ownC;repeat' split;all_goals omega] at hR
     clear hF;replace hR:Hid (res=4):=by show res=4;simpa using hR
     go_enter Tryz.func126,Tryz.ntmps126
     go_wp2_with fail
     go_ret;exact⟨by rw[hR.out];rfl,(Below.refl _ w).alloc (Nat.le_refl _) _⟩
    ·have g1:(0:Int)<(len:Int):=by omega
     have hR:=hF.out;rw[show ownC _ _ len regs=4 by unfold ownC;repeat' split;all_goals omega] at hR
     clear hF;replace hR:Hid (res=4):=by show res=4;simpa using hR
     go_enter Tryz.func126,Tryz.ntmps126
     go_wp2_with fail
     go_ret;exact⟨by rw[hR.out];rfl,(Below.refl _ w).alloc (Nat.le_refl _) _⟩
    ·have g1:¬ (0:Int)<(len:Int):=by omega
     have g2:¬ (8:Int)<(len:Int):=by omega
     have hR:=hF.out;rw[show ownC _ _ len regs=0 by unfold ownC;repeat' split;all_goals omega] at hR
     clear hF;have R:Hid (res=QA (TT.fault regs) l):=by show res=QA (TT.fault regs) l;simpa using hR
     clear hR
     have R0:Hid (res=0):=by
      have hl0:l=[]:=List.length_eq_zero_iff.1 (HL.out.trans h1)
      have:=R.out
      rw[hl0] at this
      exact this
     subst h1;clear R g1 g2;go_enter Tryz.func126,Tryz.ntmps126
     go_wp2_with fail
     have X0:=Bx.start w 1 0 a 0 c;generalize w.alloc (.cells #[.int .i64 1,.int .i64 0,.slice a 0 c] 70)=w1 at X0 ⊢;have X1:Hid (Bx w w1 1 0 a 0 c):=X0;clear X0;go_loopw [5] (fun i wr=>i=.int .i64 0∧Bx w wr 1 0 a 0 c) (fun _ _=>0)
     case atStart=>exact⟨rfl,X1.out⟩
     case round =>
      clear X1;obtain⟨rfl,hX⟩:=hrel
      have X1:Hid (Bx w wr 1 0 a 0 c):=hX;have e2:wr.cell? ⟨w.heap.size,2,none⟩=some (.slice a 0 c):=Qb hX.box 2 _ rfl;clear hX;go_wp2
      go_ret;exact⟨by rw[R0.out];rfl,X1.out.bel⟩
   ·rcases (show 0<len∨(len=0∧r<0)∨(len=0∧0≤r∧regs≤r)∨(len=0∧0≤r∧r<regs) by omega) with h1 | ⟨h1,h2⟩|⟨h1,h2,h3⟩|⟨h1,h2,h3⟩
    ·have g1:(0:Int)<(len:Int):=by omega
     have hR:=hF.out;rw[show ownC _ _ len regs=4 by unfold ownC;repeat' split;all_goals omega] at hR
     clear hF;replace hR:Hid (res=4):=by show res=4;simpa using hR
     go_enter Tryz.func126,Tryz.ntmps126
     go_wp2_with fail
     go_ret;exact⟨by rw[hR.out];rfl,(Below.refl _ w).alloc (Nat.le_refl _) _⟩
    ·have g1:¬ (0:Int)<(len:Int):=by omega
     have g2:¬ (8:Int)<(len:Int):=by omega
     have hR:=hF.out;rw[show ownC _ _ len regs=1 by unfold ownC;repeat' split;all_goals omega] at hR
     clear hF;replace hR:Hid (res=1):=by show res=1;simpa using hR
     go_enter Tryz.func126,Tryz.ntmps126
     go_wp2_with fail
     go_ret;exact⟨by rw[hR.out];rfl,(Below.refl _ w).alloc (Nat.le_refl _) _⟩
    ·have g1:¬ (0:Int)<(len:Int):=by omega
     have g2:¬ (8:Int)<(len:Int):=by omega
     have hR:=hF.out;rw[show ownC _ _ len regs=1 by unfold ownC;repeat' split;all_goals omega] at hR
     clear hF;replace hR:Hid (res=1):=by show res=1;simpa using hR
     go_enter Tryz.func126,Tryz.ntmps126
     go_wp2_with fail
     go_ret;exact⟨by rw[hR.out];rfl,(Below.refl _ w).alloc (Nat.le_refl _) _⟩
    ·have g1:¬ (0:Int)<(len:Int):=by omega
     have g2:¬ (8:Int)<(len:Int):=by omega
     have hR:=hF.out;rw[show ownC _ _ len regs=0 by unfold ownC;repeat' split;all_goals omega] at hR
     clear hF;have R:Hid (res=QA (TT.fault regs) l):=by show res=QA (TT.fault regs) l;simpa using hR
     clear hR
     have R0:Hid (res=0):=by
      have hl0:l=[]:=List.length_eq_zero_iff.1 (HL.out.trans h1)
      have:=R.out
      rw[hl0] at this
      exact this
     subst h1;clear R g1 g2;go_enter Tryz.func126,Tryz.ntmps126
     go_wp2_with fail
     have X0:=Bx.start w 2 r a 0 c;generalize w.alloc (.cells #[.int .i64 2,.int .i64 r,.slice a 0 c] 70)=w1 at X0 ⊢;have X1:Hid (Bx w w1 2 r a 0 c):=X0;clear X0;go_loopw [5] (fun i wr=>i=.int .i64 0∧Bx w wr 2 r a 0 c) (fun _ _=>0)
     case atStart=>exact⟨rfl,X1.out⟩
     case round =>
      clear X1;obtain⟨rfl,hX⟩:=hrel
      have X1:Hid (Bx w wr 2 r a 0 c):=hX;have e2:wr.cell? ⟨w.heap.size,2,none⟩=some (.slice a 0 c):=Qb hX.box 2 _ rfl;clear hX;go_wp2
      go_ret;exact⟨by rw[R0.out];rfl,X1.out.bel⟩
   ·rcases (show 0<len∨(len=0∧r<0)∨(len=0∧0≤r∧regs≤r)∨(len=0∧0≤r∧r<regs) by omega) with h1 | ⟨h1,h2⟩|⟨h1,h2,h3⟩|⟨h1,h2,h3⟩
    ·have g1:(0:Int)<(len:Int):=by omega
     have hR:=hF.out;rw[show ownC _ _ len regs=4 by unfold ownC;repeat' split;all_goals omega] at hR
     clear hF;replace hR:Hid (res=4):=by show res=4;simpa using hR
     go_enter Tryz.func126,Tryz.ntmps126
     go_wp2_with fail
     go_ret;exact⟨by rw[hR.out];rfl,(Below.refl _ w).alloc (Nat.le_refl _) _⟩
    ·have g1:¬ (0:Int)<(len:Int):=by omega
     have g2:¬ (8:Int)<(len:Int):=by omega
     have hR:=hF.out;rw[show ownC _ _ len regs=1 by unfold ownC;repeat' split;all_goals omega] at hR
     clear hF;replace hR:Hid (res=1):=by show res=1;simpa using hR
     go_enter Tryz.func126,Tryz.ntmps126
     go_wp2_with fail
     go_ret;exact⟨by rw[hR.out];rfl,(Below.refl _ w).alloc (Nat.le_refl _) _⟩
    ·have g1:¬ (0:Int)<(len:Int):=by omega
     have g2:¬ (8:Int)<(len:Int):=by omega
     have hR:=hF.out;rw[show ownC _ _ len regs=1 by unfold ownC;repeat' split;all_goals omega] at hR
     clear hF;replace hR:Hid (res=1):=by show res=1;simpa using hR
     go_enter Tryz.func126,Tryz.ntmps126
     go_wp2_with fail
     go_ret;exact⟨by rw[hR.out];rfl,(Below.refl _ w).alloc (Nat.le_refl _) _⟩
    ·have g1:¬ (0:Int)<(len:Int):=by omega
     have g2:¬ (8:Int)<(len:Int):=by omega
     have hR:=hF.out;rw[show ownC _ _ len regs=0 by unfold ownC;repeat' split;all_goals omega] at hR
     clear hF;have R:Hid (res=QA (TT.fault regs) l):=by show res=QA (TT.fault regs) l;simpa using hR
     clear hR
     have R0:Hid (res=0):=by
      have hl0:l=[]:=List.length_eq_zero_iff.1 (HL.out.trans h1)
      have:=R.out
      rw[hl0] at this
      exact this
     subst h1;clear R g1 g2;go_enter Tryz.func126,Tryz.ntmps126
     go_wp2_with fail
     have X0:=Bx.start w 4 r a 0 c;generalize w.alloc (.cells #[.int .i64 4,.int .i64 r,.slice a 0 c] 70)=w1 at X0 ⊢;have X1:Hid (Bx w w1 4 r a 0 c):=X0;clear X0;go_loopw [5] (fun i wr=>i=.int .i64 0∧Bx w wr 4 r a 0 c) (fun _ _=>0)
     case atStart=>exact⟨rfl,X1.out⟩
     case round =>
      clear X1;obtain⟨rfl,hX⟩:=hrel
      have X1:Hid (Bx w wr 4 r a 0 c):=hX;have e2:wr.cell? ⟨w.heap.size,2,none⟩=some (.slice a 0 c):=Qb hX.box 2 _ rfl;clear hX;go_wp2
      go_ret;exact⟨by rw[R0.out];rfl,X1.out.bel⟩
   ·rcases (show 8<len∨(len≤8∧r<0)∨(len≤8∧0≤r∧regs≤r)∨(len≤8∧0≤r∧r<regs) by omega) with h1 | ⟨h1,h2⟩|⟨h1,h2,h3⟩|⟨h1,h2,h3⟩
    ·have g1:(8:Int)<(len:Int):=by omega
     have hR:=hF.out;rw[show ownC _ _ len regs=2 by unfold ownC;repeat' split;all_goals omega] at hR
     clear hF;replace hR:Hid (res=2):=by show res=2;simpa using hR
     go_enter Tryz.func126,Tryz.ntmps126
     go_wp2_with fail
     go_ret;exact⟨by rw[hR.out];rfl,(Below.refl _ w).alloc (Nat.le_refl _) _⟩
    ·have g1:¬ (8:Int)<(len:Int):=by omega
     have hR:=hF.out;rw[show ownC _ _ len regs=1 by unfold ownC;repeat' split;all_goals omega] at hR
     clear hF;replace hR:Hid (res=1):=by show res=1;simpa using hR
     go_enter Tryz.func126,Tryz.ntmps126
     go_wp2_with fail
     go_ret;exact⟨by rw[hR.out];rfl,(Below.refl _ w).alloc (Nat.le_refl _) _⟩
    ·have g1:¬ (8:Int)<(len:Int):=by omega
     have hR:=hF.out;rw[show ownC _ _ len regs=1 by unfold ownC;repeat' split;all_goals omega] at hR
     clear hF;replace hR:Hid (res=1):=by show res=1;simpa using hR
     go_enter Tryz.func126,Tryz.ntmps126
     go_wp2_with fail
     go_ret;exact⟨by rw[hR.out];rfl,(Below.refl _ w).alloc (Nat.le_refl _) _⟩
    ·have g1:¬ (8:Int)<(len:Int):=by omega
     have hR:=hF.out;rw[show ownC _ _ len regs=0 by unfold ownC;repeat' split;all_goals omega] at hR
     clear hF;have R:Hid (res=QA (TT.fault regs) l):=by show res=QA (TT.fault regs) l;simpa using hR
     clear hR;go_enter Tryz.func126,Tryz.ntmps126
     go_wp2_with fail
     have X0:=Bx.start w 3 r a len c;generalize w.alloc (.cells #[.int .i64 3,.int .i64 r,.slice a len c] 70)=w1 at X0 ⊢;have X1:Hid (Bx w w1 3 r a len c):=X0;clear X0;go_loopw [5] (fun i wr=>∃ q:Nat,q≤len∧i=.int .i64 q∧(∀ (j:Nat) x,j<q→l[j]?=some x→x.fault regs=0)∧Bx w wr 3 r a len c) (fun i _=>len - (intOf i).toNat)
     case atStart=>exact⟨0,Nat.zero_le _,rfl,fun j x hj=>by omega,X1.out⟩
     case round =>
      clear X1;obtain⟨q,hq,rfl,hall,hX⟩:=hrel
      have A:Hid (∀ (j:Nat) x,j<q→l[j]?=some x→x.fault regs=0):=hall;have X1:Hid (Bx w wr 3 r a len c):=hX;have e2:wr.cell? ⟨w.heap.size,2,none⟩=some (.slice a len c):=Qb hX.box 2 _ rfl;clear hall;by_cases hlt:q<len
      ·have hql:q<l.length:=by have:=HL.out;omega
       have hx:l[q]?=some l[q]:=List.getElem?_eq_getElem hql;generalize l[q]=x at hx;clear hql;obtain⟨g,o,a',c',rfl,_,d0,d1,d2,hk⟩:=LIn.at (hT.out.below hX.bel) hx
       have hx':Hid (l[q]?=some x):=hx;have hk0:(0:Int)≤q:=by omega
       have hk1:(q:Int)<len:=by omega
       have C:Hid (∀ wx,Below wr.heap.size wr wx→Calls Tryz.prog 126 #[Tv x a' c',.int .i64 regs] wx fun e w'=>e=.returned (.int .i64 (x.fault regs))∧Below wx.heap.size wx w') :=
        fun wx hb=>IH.out x a' c' regs wx (hk.below hb) (hco.out x (List.mem_of_getElem? hx))
       clear hX hk hx;simp only[Tv] at C
       generalize x.kind=kx at C d0;generalize x.r=rx at C d1;generalize x.len=lx at C d2;go_wp2_with fail
       refine(C.out _ (Below.refl _ _)).mono ?_
       rintro e w2 ⟨rfl,b2⟩;have X2:Hid (Bx w w2 3 r (some ⟨g,o,none⟩) len c):=X1.out.below b2;clear X1 b2 C d0 d1 d2 e2;by_cases hd:x.fault regs=0
       ·have A2:Hid (∀ (j:Nat) x,j<q+1→l[j]?=some x→x.fault regs=0):=fun j y hj hy=>by
         by_cases e:j=q
         ·subst e;rw[hx'.out] at hy
          cases hy
          exact hd
         ·exact A.out j y (by omega) hy
        rw[hd]
        clear hd A;go_wp2
        go_roundw
        case rel=>exact⟨q+1,by omega,by go_num,A2.out,X2.out⟩
        case measure=>simp[intOf];omega
       ·have Rv:Hid (res=x.fault regs):=R.out.trans (Qah hx'.out A.out hd);have hd':(x.fault regs != 0)=true:=by simpa using hd
        generalize x.fault regs=v at hd' Rv ⊢;clear hd A;go_wp2
        go_ret;exact⟨by rw[Rv.out];rfl,X2.out.bel⟩
      ·have Rv:Hid (res=0):=R.out.trans (ZY (fun j y hy=>A.out j y (by have:=(List.getElem?_eq_some_iff.1 hy).1;have:=HL.out;omega) hy));have hk1:¬ (q:Int)<len:=by omega
       clear hX A;go_wp2
       go_ret;exact⟨by rw[Rv.out];rfl,X1.out.bel⟩
theorem Qda {α:Type}(f:α→Nat) (l:List α) (i:Nat) (x:α) (h:l[i]?=some x):((l.map f).take (i+1)).foldl max 0=max (((l.map f).take i).foldl max 0) (f x):=by
 rw[List.take_add_one,List.getElem?_map,h]
 simp
theorem Qch (l:List Nat) (i:Nat):(l.take i).foldl max 0≤l.foldl max 0:=by
 rw[QaQ]
 exact⟨Nat.zero_le _,fun x hx=>(QaQ.1 (Nat.le_refl (l.foldl max 0))).2 x (List.mem_of_mem_take hx)⟩
theorem deepOf_any:∀ (n:Nat) (t:TT n) (a:Option Addr) (c:Nat) (w:World) (m:Nat),TIn w All t a→t.count≤100000→m≤4 →
 Calls Tryz.prog 120 #[Tv t a c,.int .i64 m] w fun e w'=>e=.returned (.int .i64 ((min t.height (m+1):Nat):Int))∧Below w.heap.size w w':=by
 intro n
 induction n with
 | zero=>intro t;exact Empty.elim t
 | succ n ih =>
   intro t a c w m ht hct hm4
   have IH:Hid (∀ (t:TT n) (a:Option Addr) (c:Nat) (w:World) (m:Nat),TIn w All t a→t.count≤100000→m≤4 →
    Calls Tryz.prog 120 #[Tv t a c,.int .i64 m] w fun e w'=>e=.returned (.int .i64 ((min t.height (m+1):Nat):Int))∧Below w.heap.size w w'):=ih
   clear ih;have hT:Hid (LIn w All t.2.2 a):=ht.list;have hco:Hid (∀ x∈t.2.2,x.count≤100000):=fun x hx=>by have:=t.count_kid hx;omega
   have hlen:t.2.2.length≤100000:=by have:=t.len_lt_count;rw[t.len_eq] at this;omega
   have hh:Hid (t.height=(t.2.2.map (fun x=>1+x.height)).foldl max 0):=rfl;generalize t.height=h at hh ⊢;simp only[Tv,TT.len_eq]
   generalize t.2.2=l at hT hco hh hlen ⊢;generalize t.kind=k;generalize t.r=r;clear ht hct t;generalize hres:((min h (m+1):Nat):Int)=res;have hR:Hid (((min h (m+1):Nat):Int)=res):=hres;clear hres;go_enter Tryz.func120,Tryz.ntmps120
   go_wp2_with fail
   have X0:Hid (Bx w (w.alloc (.cells #[.int .i64 k,.int .i64 r,.slice a l.length c] 70)) k r a l.length c):=Bx.start w k r a l.length c;generalize w.alloc (.cells #[.int .i64 k,.int .i64 r,.slice a l.length c] 70)=w1 at X0 ⊢;go_loopw [5,6] (fun v i wr=>∃ q y:Nat,q≤l.length∧i=.int .i64 q∧v=.int .i64 y∧y=min (((l.map (fun x=>1+x.height)).take q).foldl max 0) (m+1)∧Bx w wr k r a l.length c) (fun _ i _=>l.length - (intOf i).toNat)
   case atStart=>exact⟨0,0,Nat.zero_le _,rfl,rfl,by simp,X0.out⟩
   case round =>
    clear X0;obtain⟨q,y,hq,rfl,rfl,hy,hX⟩:=hrel
    have Y:Hid (y=min (((l.map (fun x=>1+x.height)).take q).foldl max 0) (m+1)):=hy;have X1:Hid (Bx w wr k r a l.length c):=hX;have e2:wr.cell? ⟨w.heap.size,2,none⟩=some (.slice a l.length c):=Qb hX.box 2 _ rfl;have hyb:(y:Int)≤5:=by omega
    clear hy;by_cases hlt:q<l.length
    ·have hk0:(0:Int)≤q:=by omega
     have hk1:(q:Int)<l.length:=by omega
     by_cases hym:y≤m
     ·have hx:l[q]?=some l[q]:=List.getElem?_eq_getElem hlt;generalize l[q]=x at hx;obtain⟨g,o,a',c',rfl,_,d0,d1,d2,hk⟩:=LIn.at (hT.out.below hX.bel) hx
      have hS:=Qda (fun x:TT n=>1+x.height) l q x hx;have hym':(y:Int)≤m:=by omega
      by_cases hz:m=0
      ·have hz':((m:Int)==0)=true:=by simp;omega
       have F:Hid (res=1):=by
        have h1:=Qch (l.map (fun x=>1+x.height)) (q+1);have h2:=hh.out;have h3:=hR.out;rw[hS] at h1
        show res=1;omega
       clear hX hk hx hz hS hym;go_wp2_with fail
       go_ret;exact⟨by rw[F.out];rfl,X1.out.bel⟩
      ·have hz':((m:Int)==0)=false:=by simp;omega
       have C:Hid (∀ wx,Below wr.heap.size wr wx→Calls Tryz.prog 120 #[Tv x a' c',.int .i64 ((m:Int) - 1)] wx fun e w'=>e=.returned (.int .i64 ((min x.height m:Nat):Int))∧Below wx.heap.size wx w'):=fun wx hb=>by
        have:=IH.out x a' c' wx (m - 1) (hk.below hb) (hco.out x (List.mem_of_getElem? hx)) (by omega)
        rw[show ((m - 1:Nat):Int)=(m:Int) - 1 by omega,show m - 1+1=m by omega] at this
        exact this
       have hm0:(1:Int)≤m:=by omega
       have hm1:(m:Int)≤4:=by omega
       generalize hz1:min x.height m=z at C;have hz2:(z:Int)≤4:=by omega
       have Z:Hid (max y (1+z)=min (((l.map (fun x=>1+x.height)).take (q+1)).foldl max 0) (m+1)):=by
        rw[hS]
        have:=Y.out
        show _=_;omega
       clear hX hk hx hz hS hz1 Y hym;simp only[Tv] at C
       generalize x.kind=kx at C d0;generalize x.r=rx at C d1;generalize x.len=lx at C d2;go_wp2_with fail
       refine(C.out _ (Below.refl _ _)).mono ?_
       rintro e w2 ⟨rfl,b2⟩;have X2:Hid (Bx w w2 k r (some ⟨g,o,none⟩) l.length c):=X1.out.below b2;clear X1 b2 C d0 d1 d2 e2;by_cases hd:(y:Int)<1+z
       ·go_wp2
        go_roundw
        case rel=>exact⟨q+1,1+z,by omega,by go_num,by go_num,by rw[← Z.out];omega,X2.out⟩
        case measure=>simp[intOf];omega
       ·go_wp2
        go_roundw
        case rel=>exact⟨q+1,y,by omega,by go_num,rfl,by rw[← Z.out];omega,X2.out⟩
        case measure=>simp[intOf];omega
     ·have F:Hid (res=y):=by
       have h1:=Qch (l.map (fun x=>1+x.height)) q;have h2:=hh.out;have h3:=hR.out
       have:=Y.out
       show res=y;omega
      have hym':¬ (y:Int)≤m:=by omega
      clear hX hym Y;go_wp2
      go_ret;exact⟨by rw[F.out];rfl,X1.out.bel⟩
    ·have F:Hid (res=y):=by
      have h2:=hh.out;have h3:=hR.out
      have:=Y.out
      rw[List.take_of_length_le (by simp;omega)] at this
      show res=y;omega
     have hk1:¬ (q:Int)<l.length:=by omega
     clear hX Y;go_wp2
     go_ret;exact⟨by rw[F.out];rfl,X1.out.bel⟩
def Qhr (f:Nat):Prop:=∀ (n:Nat) (t:TT n) (a:Option Addr) (c:Nat) (regs:Int) (w:World),TIn w All t a→t.count≤100000 →
 Calls Tryz.prog f #[Tv t a c,.int .i64 regs] w fun e w'=>e=.returned (.int .i64 (t.check regs))∧Below w.heap.size w w'
theorem typeFaultT_any:Qhr 89:=by
 intro n t a c regs w ht hc
 have C1:Hid (∀ wx,Below w.heap.size w wx→Calls Tryz.prog 120 #[Tv t a c,.int .i64 4] wx fun e w'=>e=.returned (.int .i64 ((min t.height 5:Nat):Int))∧Below wx.heap.size wx w') :=
  fun wx hb=>deepOf_any n t a c wx 4 (ht.below hb) hc (by omega)
 have C2:Hid (∀ wx,Below w.heap.size w wx→Calls Tryz.prog 126 #[Tv t a c,.int .i64 regs] wx fun e w'=>e=.returned (.int .i64 (t.fault regs))∧Below wx.heap.size wx w') :=
  fun wx hb=>typeFault_any n t a c regs wx (ht.below hb) hc
 have E:Hid (t.check regs=if 4<t.height then 19 else t.fault regs):=rfl;generalize t.check regs=res at E ⊢;clear ht hc;simp only[Tv] at C1 C2 ⊢
 generalize t.kind=k at C1 C2 ⊢;generalize t.r=r at C1 C2 ⊢;generalize t.len=len at C1 C2 ⊢;generalize t.fault regs=v at C2 E;generalize hm:min t.height 5=q at C1;go_enter Tryz.func89,Tryz.ntmps89
 go_wp2_with fail
 have X0:=Bx.start w k r a len c;generalize w.alloc (.cells #[.int .i64 k,.int .i64 r,.slice a len c] 70)=w1 at X0 ⊢;refine(C1.out _ X0.bel).mono ?_
 rintro e w2 ⟨rfl,b2⟩;have X2:Hid (Bx w w2 k r a len c):=X0.below b2;have e0:=Qb X2.out.box 0 _ rfl;have e1:=Qb X2.out.box 1 _ rfl;have e2:=Qb X2.out.box 2 _ rfl;clear X0 b2 C1;by_cases hd:4<t.height
 ·have R:Hid (res=19):=by have:=E.out;rwa [if_pos hd] at this
  have hq:(4:Int)<q:=by omega
  clear hd hm;go_wp2_with fail
  go_ret;exact⟨by rw[R.out];rfl,X2.out.bel⟩
 ·have R:Hid (res=v):=by have:=E.out;rwa [if_neg hd] at this
  have hq:¬ (4:Int)<q:=by omega
  clear hd hm;go_wp2_with fail
  refine(C2.out _ X2.out.bel).mono ?_
  rintro e w3 ⟨rfl,b3⟩;have X3:Hid (Bx w w3 k r a len c):=X2.out.below b3;clear X2 b3 C2 e0 e1 e2;go_wp2_with fail
  go_ret;exact⟨by rw[R.out];rfl,X3.out.bel⟩
theorem QfL (k r:Int) (a:Option Addr) (len c:Nat) (regs:Int) (w:World) :
 Calls Tryz.prog 151 #[.agg #[.int .i64 k,.int .i64 r,.slice a len c],.int .i64 regs] w fun e w'=>e=.returned (.int .i64 (ownC k r len regs))∧Below w.heap.size w w':=by
 rcases (show k<1∨(¬ k<1∧4<k)∨k=1∨k=2∨k=4∨k=3 by omega) with h1 | ⟨h1,h2⟩ | rfl | rfl | rfl | rfl
 ·rw[show ownC _ _ len regs=3 by unfold ownC;repeat' split;all_goals omega]
  go_enter Tryz.func151,Tryz.ntmps151
  go_wp2_with fail
  go_ret;exact⟨rfl,(Below.refl _ w).alloc (Nat.le_refl _) _⟩
 ·rw[show ownC _ _ len regs=3 by unfold ownC;repeat' split;all_goals omega]
  go_enter Tryz.func151,Tryz.ntmps151
  go_wp2_with fail
  go_ret;exact⟨rfl,(Below.refl _ w).alloc (Nat.le_refl _) _⟩
 ·rcases (show r≠0∨(r=0∧0<len)∨(r=0∧len=0) by omega) with h1 | ⟨rfl,h1⟩|⟨rfl,h1⟩
  ·have g1:(r != 0)=true:=by simpa using h1
   rw[show ownC _ _ len regs=4 by unfold ownC;repeat' split;all_goals omega]
   go_enter Tryz.func151,Tryz.ntmps151
   go_wp2_with fail
   go_ret;exact⟨rfl,(Below.refl _ w).alloc (Nat.le_refl _) _⟩
  ·have g1:(0:Int)<(len:Int):=by omega
   rw[show ownC _ _ len regs=4 by unfold ownC;repeat' split;all_goals omega]
   go_enter Tryz.func151,Tryz.ntmps151
   go_wp2_with fail
   go_ret;exact⟨rfl,(Below.refl _ w).alloc (Nat.le_refl _) _⟩
  ·have g1:¬ (0:Int)<(len:Int):=by omega
   have g2:¬ (8:Int)<(len:Int):=by omega
   rw[show ownC _ _ len regs=0 by unfold ownC;repeat' split;all_goals omega]
   go_enter Tryz.func151,Tryz.ntmps151
   go_wp2_with fail
   go_ret;exact⟨rfl,(Below.refl _ w).alloc (Nat.le_refl _) _⟩
 ·rcases (show 0<len∨(len=0∧r<0)∨(len=0∧0≤r∧regs≤r)∨(len=0∧0≤r∧r<regs) by omega) with h1 | ⟨h1,h2⟩|⟨h1,h2,h3⟩|⟨h1,h2,h3⟩
  ·have g1:(0:Int)<(len:Int):=by omega
   rw[show ownC _ _ len regs=4 by unfold ownC;repeat' split;all_goals omega]
   go_enter Tryz.func151,Tryz.ntmps151
   go_wp2_with fail
   go_ret;exact⟨rfl,(Below.refl _ w).alloc (Nat.le_refl _) _⟩
  ·have g1:¬ (0:Int)<(len:Int):=by omega
   have g2:¬ (8:Int)<(len:Int):=by omega
   rw[show ownC _ _ len regs=1 by unfold ownC;repeat' split;all_goals omega]
   go_enter Tryz.func151,Tryz.ntmps151
   go_wp2_with fail
   go_ret;exact⟨rfl,(Below.refl _ w).alloc (Nat.le_refl _) _⟩
  ·have g1:¬ (0:Int)<(len:Int):=by omega
   have g2:¬ (8:Int)<(len:Int):=by omega
   rw[show ownC _ _ len regs=1 by unfold ownC;repeat' split;all_goals omega]
   go_enter Tryz.func151,Tryz.ntmps151
   go_wp2_with fail
   go_ret;exact⟨rfl,(Below.refl _ w).alloc (Nat.le_refl _) _⟩
  ·have g1:¬ (0:Int)<(len:Int):=by omega
   have g2:¬ (8:Int)<(len:Int):=by omega
   rw[show ownC _ _ len regs=0 by unfold ownC;repeat' split;all_goals omega]
   go_enter Tryz.func151,Tryz.ntmps151
   go_wp2_with fail
   go_ret;exact⟨rfl,(Below.refl _ w).alloc (Nat.le_refl _) _⟩
 ·rcases (show 0<len∨(len=0∧r<0)∨(len=0∧0≤r∧regs≤r)∨(len=0∧0≤r∧r<regs) by omega) with h1 | ⟨h1,h2⟩|⟨h1,h2,h3⟩|⟨h1,h2,h3⟩
  ·have g1:(0:Int)<(len:Int):=by omega
   rw[show ownC _ _ len regs=4 by unfold ownC;repeat' split;all_goals omega]
   go_enter Tryz.func151,Tryz.ntmps151
   go_wp2_with fail
   go_ret;exact⟨rfl,(Below.refl _ w).alloc (Nat.le_refl _) _⟩
  ·have g1:¬ (0:Int)<(len:Int):=by omega
   have g2:¬ (8:Int)<(len:Int):=by omega
   rw[show ownC _ _ len regs=1 by unfold ownC;repeat' split;all_goals omega]
   go_enter Tryz.func151,Tryz.ntmps151
   go_wp2_with fail
   go_ret;exact⟨rfl,(Below.refl _ w).alloc (Nat.le_refl _) _⟩
  ·have g1:¬ (0:Int)<(len:Int):=by omega
   have g2:¬ (8:Int)<(len:Int):=by omega
   rw[show ownC _ _ len regs=1 by unfold ownC;repeat' split;all_goals omega]
   go_enter Tryz.func151,Tryz.ntmps151
   go_wp2_with fail
   go_ret;exact⟨rfl,(Below.refl _ w).alloc (Nat.le_refl _) _⟩
  ·have g1:¬ (0:Int)<(len:Int):=by omega
   have g2:¬ (8:Int)<(len:Int):=by omega
   rw[show ownC _ _ len regs=0 by unfold ownC;repeat' split;all_goals omega]
   go_enter Tryz.func151,Tryz.ntmps151
   go_wp2_with fail
   go_ret;exact⟨rfl,(Below.refl _ w).alloc (Nat.le_refl _) _⟩
 ·rcases (show 8<len∨(len≤8∧r<0)∨(len≤8∧0≤r∧regs≤r)∨(len≤8∧0≤r∧r<regs) by omega) with h1 | ⟨h1,h2⟩|⟨h1,h2,h3⟩|⟨h1,h2,h3⟩
  ·have g1:(8:Int)<(len:Int):=by omega
   rw[show ownC _ _ len regs=2 by unfold ownC;repeat' split;all_goals omega]
   go_enter Tryz.func151,Tryz.ntmps151
   go_wp2_with fail
   go_ret;exact⟨rfl,(Below.refl _ w).alloc (Nat.le_refl _) _⟩
  ·have g1:¬ (8:Int)<(len:Int):=by omega
   rw[show ownC _ _ len regs=1 by unfold ownC;repeat' split;all_goals omega]
   go_enter Tryz.func151,Tryz.ntmps151
   go_wp2_with fail
   go_ret;exact⟨rfl,(Below.refl _ w).alloc (Nat.le_refl _) _⟩
  ·have g1:¬ (8:Int)<(len:Int):=by omega
   rw[show ownC _ _ len regs=1 by unfold ownC;repeat' split;all_goals omega]
   go_enter Tryz.func151,Tryz.ntmps151
   go_wp2_with fail
   go_ret;exact⟨rfl,(Below.refl _ w).alloc (Nat.le_refl _) _⟩
  ·have g1:¬ (8:Int)<(len:Int):=by omega
   rw[show ownC _ _ len regs=0 by unfold ownC;repeat' split;all_goals omega]
   go_enter Tryz.func151,Tryz.ntmps151
   go_wp2_with fail
   go_ret;exact⟨rfl,(Below.refl _ w).alloc (Nat.le_refl _) _⟩
theorem firstCode_any:∀ n,QdT 140 n:=by
 intro n
 induction n with
 | zero=>intro t;exact Empty.elim t
 | succ n ih =>
   intro t a c regs w ht hct;have IH:Hid (QdT 140 n):=ih;clear ih;have hT:Hid (LIn w All t.2.2 a):=ht.list;have hco:Hid (∀ x∈t.2.2,x.count≤100000):=fun x hx=>by have:=t.count_kid hx;omega
   have hlen:t.2.2.length≤100000:=by have:=t.len_lt_count;rw[t.len_eq] at this;omega
   have hF:Hid (t.fault regs=if ownC t.kind t.r t.2.2.length regs≠0 then ownC t.kind t.r t.2.2.length regs else QA (TT.fault regs) t.2.2):=rfl;generalize t.fault regs=res at hF ⊢;simp only[Tv,TT.len_eq]
   generalize t.2.2=l at hT hco hF hlen ⊢;generalize t.kind=k at hF ⊢;generalize t.r=r at hF ⊢;clear ht hct t;go_enter Tryz.func140,Tryz.ntmps140
   go_wp2_with fail
   have X0:Hid (Bx w (w.alloc (.cells #[.int .i64 k,.int .i64 r,.slice a l.length c] 70)) k r a l.length c):=Bx.start w k r a l.length c;refine(QfL k r a l.length c regs _).mono ?_
   rintro e w1 ⟨rfl,b1⟩;have X1:Hid (Bx w w1 k r a l.length c):=X0.out.below b1;clear X0 b1;by_cases hz:ownC k r l.length regs=0
   ·have R:Hid (res=QA (TT.fault regs) l):=by
     have:=hF.out
     rw[hz] at this
     show res=QA (TT.fault regs) l;simpa using this
    rw[hz]
    clear hz hF;have e2:w1.cell? ⟨w.heap.size,2,none⟩=some (.slice a l.length c):=Qb X1.out.box 2 _ rfl;go_wp2_with fail
    clear e2;go_loopw [18] (fun i wr=>∃ q:Nat,q≤l.length∧i=.int .i64 q∧(∀ (j:Nat) x,j<q→l[j]?=some x→x.fault regs=0)∧Bx w wr k r a l.length c) (fun i _=>l.length - (intOf i).toNat)
    case atStart=>exact⟨0,Nat.zero_le _,rfl,fun j x hj=>by omega,X1.out⟩
    case round =>
     clear X1;obtain⟨q,hq,rfl,hall,hX⟩:=hrel
     have A:Hid (∀ (j:Nat) x,j<q→l[j]?=some x→x.fault regs=0):=hall;have X1:Hid (Bx w wr k r a l.length c):=hX;clear hall;by_cases hlt:q<l.length
     ·have hx:l[q]?=some l[q]:=List.getElem?_eq_getElem hlt;generalize l[q]=x at hx;obtain⟨g,o,a',c',rfl,_,d0,d1,d2,hk⟩:=LIn.at (hT.out.below hX.bel) hx
      have hx':Hid (l[q]?=some x):=hx;have hk0:(0:Int)≤q:=by omega
      have hk1:(q:Int)<l.length:=by omega
      have C:Hid (∀ wx,Below wr.heap.size wr wx→Calls Tryz.prog 140 #[Tv x a' c',.int .i64 regs] wx fun e w'=>e=.returned (.int .i64 (x.fault regs))∧Below wx.heap.size wx w') :=
       fun wx hb=>IH.out x a' c' regs wx (hk.below hb) (hco.out x (List.mem_of_getElem? hx))
      clear hX hk hx;simp only[Tv] at C
      generalize x.kind=kx at C d0;generalize x.r=rx at C d1;generalize x.len=lx at C d2;go_wp2_with fail
      have B1:Below wr.heap.size wr (wr.alloc (.cells #[.int .i64 kx,.int .i64 rx,.slice a' lx c'] 70)):=(Below.refl _ wr).alloc (Nat.le_refl _) _;refine(C.out _ B1).mono ?_
      rintro e w2 ⟨rfl,b2⟩;have X2:Hid (Bx w w2 k r (some ⟨g,o,none⟩) l.length c):=(X1.out.below B1).below b2;clear X1 b2 B1 C d0 d1 d2;by_cases hd:x.fault regs=0
      ·have A2:Hid (∀ (j:Nat) x,j<q+1→l[j]?=some x→x.fault regs=0):=fun j y hj hy=>by
        by_cases e:j=q
        ·subst e;rw[hx'.out] at hy
         cases hy
         exact hd
        ·exact A.out j y (by omega) hy
       rw[hd]
       clear hd A;go_wp2
       go_roundw
       case rel=>exact⟨q+1,by omega,by go_num,A2.out,X2.out⟩
       case measure=>simp[intOf];omega
      ·have Rv:Hid (res=x.fault regs):=R.out.trans (Qah hx'.out A.out hd);have hd':(x.fault regs != 0)=true:=by simpa using hd
       generalize x.fault regs=v at hd' Rv ⊢;clear hd A;go_wp2
       go_ret;exact⟨by rw[Rv.out];rfl,X2.out.bel⟩
     ·have Rv:Hid (res=0):=R.out.trans (ZY (fun j y hy=>A.out j y (by have:=(List.getElem?_eq_some_iff.1 hy).1;omega) hy));have hk1:¬ (q:Int)<l.length:=by omega
      clear hX A;go_wp2
      go_ret;exact⟨by rw[Rv.out];rfl,X1.out.bel⟩
   ·have R:Hid (res=ownC k r l.length regs):=by
     have:=hF.out
     rwa [if_pos hz] at this
    have hz':(ownC k r l.length regs != 0)=true:=by simpa using hz
    generalize ownC k r l.length regs=v at hz' R ⊢;clear hz hF;go_wp2_with fail
    go_ret;exact⟨by rw[R.out];rfl,X1.out.bel⟩
theorem Qh2 {n:Nat}{l:List (TT n)}{k r:Int}{m:Nat}:m<TT.height (n:=n+1) (mkT k r l)↔∃ (i:Nat) (x:TT n),l[i]?=some x∧m<1+x.height:=by
 rw[← Nat.not_le,Zr]
 constructor
 ·intro h;simp only[Classical.not_forall] at h
  obtain⟨x,hx,h2⟩:=h
  obtain⟨i,hi,rfl⟩:=List.mem_iff_getElem.1 hx
  exact⟨i,_,List.getElem?_eq_getElem hi,by omega⟩
 ·rintro ⟨i,x,hx,h2⟩ h
  have:=h x (List.mem_of_getElem? (l:=l) hx)
  omega
theorem deeper_any:∀ (n:Nat) (t:TT n) (a:Option Addr) (c:Nat) (w:World) (m:Nat),TIn w All t a→t.count≤100000→m≤4 →
 Calls Tryz.prog 139 #[Tv t a c,.int .i64 m] w fun e w'=>e=.returned (.bool (decide (m<t.height)))∧Below w.heap.size w w':=by
 intro n
 induction n with
 | zero=>intro t;exact Empty.elim t
 | succ n ih =>
   intro t a c w m ht hct hm4
   have IH:Hid (∀ (t:TT n) (a:Option Addr) (c:Nat) (w:World) (m:Nat),TIn w All t a→t.count≤100000→m≤4 →
    Calls Tryz.prog 139 #[Tv t a c,.int .i64 m] w fun e w'=>e=.returned (.bool (decide (m<t.height)))∧Below w.heap.size w w'):=ih
   clear ih;have hT:Hid (LIn w All t.2.2 a):=ht.list;have hco:Hid (∀ x∈t.2.2,x.count≤100000):=fun x hx=>by have:=t.count_kid hx;omega
   have hlen:t.2.2.length≤100000:=by have:=t.len_lt_count;rw[t.len_eq] at this;omega
   have hh:Hid (m<t.height↔∃ (i:Nat) (x:TT n),t.2.2[i]?=some x∧m<1+x.height):=Qh2;generalize t.height=h at hh ⊢;simp only[Tv,TT.len_eq]
   generalize t.2.2=l at hT hco hh hlen ⊢;generalize t.kind=k;generalize t.r=r;clear ht hct t;go_enter Tryz.func139,Tryz.ntmps139
   go_wp2_with fail
   have X0:Hid (Bx w (w.alloc (.cells #[.int .i64 k,.int .i64 r,.slice a l.length c] 70)) k r a l.length c):=Bx.start w k r a l.length c;generalize w.alloc (.cells #[.int .i64 k,.int .i64 r,.slice a l.length c] 70)=w1 at X0 ⊢;go_loopw [10] (fun i wr=>∃ q:Nat,q≤l.length∧i=.int .i64 q∧(∀ (j:Nat) x,j<q→l[j]?=some x→1+x.height≤m)∧Bx w wr k r a l.length c) (fun i _=>l.length - (intOf i).toNat)
   case atStart=>exact⟨0,Nat.zero_le _,rfl,fun j x hj=>by omega,X0.out⟩
   case round =>
    clear X0;obtain⟨q,hq,rfl,hall,hX⟩:=hrel
    have A:Hid (∀ (j:Nat) x,j<q→l[j]?=some x→1+x.height≤m):=hall;have X1:Hid (Bx w wr k r a l.length c):=hX;clear hall;by_cases hlt:q<l.length
    ·have hx:l[q]?=some l[q]:=List.getElem?_eq_getElem hlt;generalize l[q]=x at hx;obtain⟨g,o,a',c',rfl,_,d0,d1,d2,hk⟩:=LIn.at (hT.out.below hX.bel) hx
     have hg:g<wr.heap.size:=World.block_lt_of_cell? wr ⟨g,o+q*3,none⟩ d0;have hx':Hid (l[q]?=some x):=hx;have hk0:(0:Int)≤q:=by omega
     have hk1:(q:Int)<l.length:=by omega
     by_cases hz:m=0
     ·have hD:Hid (m<h):=hh.out.2 ⟨q,x,hx,by omega⟩;have hz':((m:Int)==0)=true:=by simp;omega
      clear hX hk hx hz;go_wp2_with fail
      go_ret;exact⟨by rw[decide_eq_true hD.out];rfl,(X1.out.alloc _).bel⟩
     ·have hz':((m:Int)==0)=false:=by simp;omega
      have C:Hid (∀ wx,Below wr.heap.size wr wx→Calls Tryz.prog 139 #[Tv x a' c',.int .i64 ((m:Int) - 1)] wx fun e w'=>e=.returned (.bool (decide (m - 1<x.height)))∧Below wx.heap.size wx w'):=fun wx hb=>by
       have:=IH.out x a' c' wx (m - 1) (hk.below hb) (hco.out x (List.mem_of_getElem? hx)) (by omega)
       rw[show ((m - 1:Nat):Int)=(m:Int) - 1 by omega] at this
       exact this
      have hm0:(1:Int)≤m:=by omega
      have hm1:(m:Int)≤4:=by omega
      have hm5:Hid (1≤m):=by show 1≤m;omega
      clear hX hk hx hz;simp only[Tv] at C
      generalize x.kind=kx at C d0;generalize x.r=rx at C d1;generalize x.len=lx at C d2;go_wp2_with fail
      have B1:Below wr.heap.size wr (wr.alloc (.cells #[.int .i64 kx,.int .i64 rx,.slice a' lx c'] 70)):=(Below.refl _ wr).alloc (Nat.le_refl _) _;refine(C.out _ B1).mono ?_
      rintro e w2 ⟨rfl,b2⟩;have X2:Hid (Bx w w2 k r (some ⟨g,o,none⟩) l.length c):=(X1.out.below B1).below b2;clear X1 b2 B1 C d0 d1 d2;by_cases hd:m - 1<x.height
      ·have hD:Hid (m<h):=hh.out.2 ⟨q,x,hx'.out,by have:=hm5.out;omega⟩;rw[decide_eq_true hd]
       clear hd;go_wp2
       go_ret;exact⟨by rw[decide_eq_true hD.out];rfl,X2.out.bel⟩
      ·have A2:Hid (∀ (j:Nat) x,j<q+1→l[j]?=some x→1+x.height≤m):=fun j y hj hy=>by
        by_cases e:j=q
        ·subst e;rw[hx'.out] at hy
         cases hy
         have:=hm5.out
         omega
        ·exact A.out j y (by omega) hy
       rw[decide_eq_false hd]
       clear hd A;go_wp2
       go_roundw
       case rel=>exact⟨q+1,by omega,by go_num,A2.out,X2.out⟩
       case measure=>simp[intOf];omega
    ·have hD:Hid (¬ m<h):=fun hc=>by
      obtain⟨i,x,hx,h3⟩:=hh.out.1 hc
      have:=A.out i x (by have:=(List.getElem?_eq_some_iff.1 hx).1;omega) hx
      omega
     have hk1:¬ (q:Int)<l.length:=by omega
     clear hX A;go_wp2
     go_ret;exact⟨by rw[decide_eq_false hD.out];rfl,X1.out.bel⟩
theorem check_any:Qhr 113:=by
 intro n t a c regs w ht hc
 have C1:Hid (∀ wx,Below w.heap.size w wx→Calls Tryz.prog 139 #[Tv t a c,.int .i64 4] wx fun e w'=>e=.returned (.bool (decide (4<t.height)))∧Below wx.heap.size wx w') :=
  fun wx hb=>deeper_any n t a c wx 4 (ht.below hb) hc (by omega)
 have C2:Hid (∀ wx,Below w.heap.size w wx→Calls Tryz.prog 140 #[Tv t a c,.int .i64 regs] wx fun e w'=>e=.returned (.int .i64 (t.fault regs))∧Below wx.heap.size wx w') :=
  fun wx hb=>firstCode_any n t a c regs wx (ht.below hb) hc
 have E:Hid (t.check regs=if 4<t.height then 19 else t.fault regs):=rfl;generalize t.check regs=res at E ⊢;clear ht hc;simp only[Tv] at C1 C2 ⊢
 generalize t.kind=k at C1 C2 ⊢;generalize t.r=r at C1 C2 ⊢;generalize t.len=len at C1 C2 ⊢;generalize t.fault regs=v at C2 E;go_enter Tryz.func113,Tryz.ntmps113
 go_wp2_with fail
 have X0:=Bx.start w k r a len c;generalize w.alloc (.cells #[.int .i64 k,.int .i64 r,.slice a len c] 70)=w1 at X0 ⊢;refine(C1.out _ X0.bel).mono ?_
 rintro e w2 ⟨rfl,b2⟩;have X2:Hid (Bx w w2 k r a len c):=X0.below b2;have e0:=Qb X2.out.box 0 _ rfl;have e1:=Qb X2.out.box 1 _ rfl;have e2:=Qb X2.out.box 2 _ rfl;clear X0 b2 C1;by_cases hd:4<t.height
 ·rw[decide_eq_true hd]
  have R:Hid (res=19):=by have:=E.out;rwa [if_pos hd] at this
  clear hd;go_wp2_with fail
  go_ret;exact⟨by rw[R.out];rfl,X2.out.bel⟩
 ·rw[decide_eq_false hd]
  have R:Hid (res=v):=by have:=E.out;rwa [if_neg hd] at this
  clear hd;go_wp2_with fail
  refine(C2.out _ X2.out.bel).mono ?_
  rintro e w3 ⟨rfl,b3⟩;have X3:Hid (Bx w w3 k r a len c):=X2.out.below b3;clear X2 b3 C2 e0 e1 e2;go_wp2_with fail
  go_ret;exact⟨by rw[R.out];rfl,X3.out.bel⟩
def Za (e:Ending) (A:Prop):Prop:=∃ q:Bool,e=.returned (.bool q)∧(q=true↔A)
theorem Za.yes {A:Prop}(h:A):Za (.returned (.bool true)) A:=⟨true,rfl,by simp[h]⟩
theorem Za.no {A:Prop}(h:¬ A):Za (.returned (.bool false)) A:=⟨false,rfl,by simp[h]⟩
def QdA (f:Nat) (n:Nat):Prop:=∀ (t u:TT n) (a b:Option Addr) (c d:Nat) (w:World),TIn w All t a→TIn w All u b→t.count≤100000 →
 Calls Tryz.prog f #[Tv t a c,Tv u b d] w fun e w'=>Za e (t=u)∧Below w.heap.size w w'
theorem QeI (n:Nat) (IH0:QdA 36 n) (l m:List (TT n)) (a b:Option Addr) (c d:Nat) (w:World) (hl0:LIn w All l a) (hm0:LIn w All m b) (hlen:l.length≤100000) (hco0:∀ x∈l,x.count≤100000) :
 Calls Tryz.prog 13 #[.slice a l.length c,.slice b m.length d] w fun e w'=>Za e (l=m)∧Below w.heap.size w w':=by
 have IH:Hid (QdA 36 n):=IH0;have hl:Hid (LIn w All l a):=hl0;have hm:Hid (LIn w All m b):=hm0;have hco:Hid (∀ x∈l,x.count≤100000):=hco0;clear IH0 hl0 hm0 hco0;by_cases hne:l.length=m.length
 ·have hne':((l.length:Int) != (m.length:Int))=false:=by simp;omega
  have E:Hid (l.length=m.length):=hne;clear hne;go_enter Tryz.func13,Tryz.ntmps13
  go_wp2_with fail
  go_loopw [5] (fun i wr=>∃ q:Nat,q≤l.length∧i=.int .i64 q∧(∀ j,j<q→l[j]?=m[j]?)∧Below w.heap.size w wr) (fun i _=>l.length - (intOf i).toNat)
  case atStart=>exact⟨0,Nat.zero_le _,rfl,fun j hj=>by omega,Below.refl _ _⟩
  case round =>
   obtain⟨q,hq,rfl,hall,hb⟩:=hrel
   have A:Hid (∀ j,j<q→l[j]?=m[j]?):=hall;have B:Hid (Below w.heap.size w wr):=hb;clear hall hb;by_cases hlt:q<l.length
   ·have hx:l[q]?=some l[q]:=List.getElem?_eq_getElem hlt;have hlm:q<m.length:=by have:=E.out;omega
    have hy:m[q]?=some m[q]:=List.getElem?_eq_getElem hlm;generalize l[q]=x at hx;generalize m[q]=y at hy;obtain⟨g,o,a',c',rfl,_,d0,d1,d2,hk⟩:=LIn.at (hl.out.below B.out) hx
    obtain⟨g',o',b',d',rfl,_,d3,d4,d5,hk'⟩:=LIn.at (hm.out.below B.out) hy
    have C:Hid (∀ k,Calls Tryz.prog 36 #[Tv x a' c',Tv y b' d'] (wr.drewN k) fun e w'=>Za e (x=y)∧Below wr.heap.size wr w') :=
     fun k=>(IH.out x y a' b' c' d' _ (hk.drewN k) (hk'.drewN k) (hco.out x (List.mem_of_getElem? hx))).mono (fun e w' h=>⟨h.1,Qaq h.2⟩)
    have hx':Hid (l[q]?=some x):=hx;have hy':Hid (m[q]?=some y):=hy;clear hk hk' hx hy;have hk0:(0:Int)≤q:=by omega
    have hk1:(q:Int)<l.length:=by omega
    have hk3:(q:Int)<m.length:=by omega
    go_upto_region 6 with fail
    go_cut [26] (fun t wx=>∃ p:Bool,t=.bool (!p)∧(p=true↔x=y)∧Below wr.heap.size wr wx)
    case first =>
     go_region_with (go_at_call 36;refine(C.out 1).mono ?_;rintro r w5 ⟨⟨p,rfl,hp⟩,b5⟩;have HP:Hid (p=true↔x=y):=hp;have B5:Hid (Below wr.heap.size wr w5):=b5;clear hp b5)
     all_goals
      go_wp2
      go_meet;exact⟨p,rfl,HP.out,B5.out⟩
    case rest =>
     obtain⟨p,rfl,hp,b5⟩:=hcut
     have HB:Hid (Below w.heap.size w wc):=B.out.trans (b5.mono B.out.size);clear C b5 B d0 d1 d2 d3 d4 d5
     cases p with
     | true =>
       have hxy:x=y:=hp.1 rfl
       have A2:Hid (∀ j,j<q+1→l[j]?=m[j]?):=fun j hj=>by
        by_cases e:j=q
        ·subst e;rw[hx'.out,hy'.out,hxy]
        ·exact A.out j (by omega)
       clear hp hxy hx' hy' A;go_wp2
       go_roundw
       case rel=>exact⟨q+1,by omega,by go_num,A2.out,HB.out⟩
       case measure=>simp[intOf];omega
     | false =>
       have hxy:Hid (¬ l=m):=fun h=>by
        have h1:=hx'.out;rw[h,hy'.out] at h1
        have:=hp.2 (Option.some.inj h1).symm
        cases this
       clear hp hx' hy' A;go_wp2
       go_ret;exact⟨Za.no hxy.out,HB.out⟩
   ·have R:Hid (l=m):=by
     have:=E.out
     refine List.ext_getElem? (fun i=>?_);by_cases hi:i<q
     ·exact A.out i hi
     ·rw[List.getElem?_eq_none (by omega),List.getElem?_eq_none (by omega)]
    have hk1:¬ (q:Int)<l.length:=by omega
    clear A;go_wp2
    go_ret;exact⟨Za.yes R.out,B.out⟩
 ·have hne':((l.length:Int) != (m.length:Int))=true:=by simp;omega
  have E:Hid (l.length≠m.length):=hne;clear hne;go_enter Tryz.func13,Tryz.ntmps13
  go_wp2
  go_ret;exact⟨Za.no (fun h=>E.out (by rw[h])),Below.refl _ _⟩
theorem TT.eq_iff {n:Nat}{t u:TT (n+1)}:t=u↔t.kind=u.kind∧t.r=u.r∧t.2.2=u.2.2:=by
 obtain⟨a,b,c⟩:=t
 obtain⟨d,e,f⟩:=u
 constructor
 ·intro h;cases h;exact⟨rfl,rfl,rfl⟩
 ·rintro ⟨rfl,rfl,rfl⟩;rfl
theorem samet_any:∀ n,QdA 36 n:=by
 intro n
 induction n with
 | zero=>intro t;exact Empty.elim t
 | succ n ih =>
   intro t u a b c d w ht hu hc;have hco:∀ x∈t.2.2,x.count≤100000:=fun x hx=>by have:=t.count_kid hx;omega
   have hlen:t.2.2.length≤100000:=by have:=t.len_lt_count;rw[t.len_eq] at this;omega
   have C:Hid (∀ wx,Below w.heap.size w wx→Calls Tryz.prog 13 #[.slice a t.2.2.length c,.slice b u.2.2.length d] wx fun e w'=>Za e (t.2.2=u.2.2)∧Below wx.heap.size wx w') :=
    fun wx hb=>QeI n ih t.2.2 u.2.2 a b c d wx (ht.below hb) (hu.below hb) hlen hco
   rw[TT.eq_iff]
   simp only[Tv,TT.len_eq] at C ⊢
   generalize t.2.2.length=p at C ⊢;generalize u.2.2.length=q at C ⊢;generalize (t.2.2=u.2.2)=E at C ⊢;generalize t.kind=k;generalize t.r=r;generalize u.kind=k';generalize u.r=r';clear hco hlen hc ht hu ih t u;by_cases hk:k=k'
   ·subst hk;by_cases hr:r=r'
    ·subst hr;go_enter Tryz.func36,Tryz.ntmps36
     go_wp2_with fail
     have B1:Below w.heap.size w ((w.alloc (.cells #[.int .i64 k,.int .i64 r,.slice a p c] 70)).alloc (.cells #[.int .i64 k,.int .i64 r,.slice b q d] 70)):=((Below.refl _ w).alloc (Nat.le_refl _) _).alloc (by simp) _;refine(C.out _ B1).mono ?_
     rintro e w2 ⟨⟨v,rfl,hv⟩,b2⟩;have B:Hid (Below w.heap.size w w2):=B1.trans (b2.mono B1.size);have V:Hid (v=true↔E):=hv;clear b2 C hv B1
     cases v
     all_goals
      go_wp2
      go_ret
     ·exact⟨Za.no (fun h=>by have:=V.out.2 h.2.2;cases this),B.out⟩
     ·exact⟨Za.yes (by have:=V.out;simpa using this),B.out⟩
    ·have hr':(r==r')=false:=by simpa using hr
     have R:Hid (¬ r=r'):=hr;clear hr;go_enter Tryz.func36,Tryz.ntmps36
     go_wp2_with fail
     go_ret;exact⟨Za.no (fun h=>R.out h.2.1),((Below.refl _ w).alloc (Nat.le_refl _) _).alloc (by simp) _⟩
   ·have hk':(k==k')=false:=by simpa using hk
    have R:Hid (¬ k=k'):=hk;clear hk;go_enter Tryz.func36,Tryz.ntmps36
    go_wp2_with fail
    go_ret;exact⟨Za.no (fun h=>R.out h.1),((Below.refl _ w).alloc (Nat.le_refl _) _).alloc (by simp) _⟩
abbrev FV:Value:=.func (.func 114) #[] #[]
theorem Qhm (n:Nat) (IH0:QdA 114 n) (l m:List (TT n)) (a b:Option Addr) (c d:Nat) (w:World) (hl0:LIn w All l a) (hm0:LIn w All m b) (hlen:l.length≤100000) (hco0:∀ x∈l,x.count≤100000) :
 Calls Tryz.prog 141 #[.slice a l.length c,.slice b m.length d,FV] w fun e w'=>Za e (l=m)∧Below w.heap.size w w':=by
 have IH:Hid (QdA 114 n):=IH0;have hl:Hid (LIn w All l a):=hl0;have hm:Hid (LIn w All m b):=hm0;have hco:Hid (∀ x∈l,x.count≤100000):=hco0;clear IH0 hl0 hm0 hco0;by_cases hne:l.length=m.length
 ·have hne':((l.length:Int) != (m.length:Int))=false:=by simp;omega
  have E:Hid (l.length=m.length):=hne;clear hne;go_enter Tryz.func141,Tryz.ntmps141
  go_wp2_with fail
  go_loopw [17] (fun i wr=>∃ q:Nat,q≤l.length∧i=.int .i64 q∧(∀ j,j<q→l[j]?=m[j]?)∧Below w.heap.size w wr) (fun i _=>l.length - (intOf i).toNat)
  case atStart=>exact⟨0,Nat.zero_le _,rfl,fun j hj=>by omega,Below.refl _ _⟩
  case round =>
   obtain⟨q,hq,rfl,hall,hb⟩:=hrel
   have A:Hid (∀ j,j<q→l[j]?=m[j]?):=hall;have B:Hid (Below w.heap.size w wr):=hb;clear hall hb;by_cases hlt:q<l.length
   ·have hx:l[q]?=some l[q]:=List.getElem?_eq_getElem hlt;have hlm:q<m.length:=by have:=E.out;omega
    have hy:m[q]?=some m[q]:=List.getElem?_eq_getElem hlm;generalize l[q]=x at hx;generalize m[q]=y at hy;obtain⟨g,o,a',c',rfl,_,d0,d1,d2,hk⟩:=LIn.at (hl.out.below B.out) hx
    obtain⟨g',o',b',d',rfl,_,d3,d4,d5,hk'⟩:=LIn.at (hm.out.below B.out) hy
    have C:Hid (∀ wx,Below wr.heap.size wr wx→Calls Tryz.prog 114 #[Tv x a' c',Tv y b' d'] wx fun e w'=>Za e (x=y)∧Below wx.heap.size wx w') :=
     fun wx hb=>IH.out x y a' b' c' d' _ (hk.below hb) (hk'.below hb) (hco.out x (List.mem_of_getElem? hx))
    have hx':Hid (l[q]?=some x):=hx;have hy':Hid (m[q]?=some y):=hy;have hg:g<wr.heap.size:=World.block_lt_of_cell? wr ⟨g,o+q*3,none⟩ d0;have hg':g'<wr.heap.size:=World.block_lt_of_cell? wr ⟨g',o'+q*3,none⟩ d3;clear hk hk' hx hy;simp only[Tv] at C
    generalize x.kind=kx at C d0;generalize x.r=rx at C d1;generalize x.len=lx at C d2;generalize y.kind=ky at C d3;generalize y.r=ry at C d4;generalize y.len=ly at C d5;have hk0:(0:Int)≤q:=by omega
    have hk1:(q:Int)<l.length:=by omega
    have hk3:(q:Int)<m.length:=by omega
    go_wp2_with fail
    have B1:Below wr.heap.size wr ((wr.alloc (.cells #[.int .i64 kx,.int .i64 rx,.slice a' lx c'] 70)).alloc (.cells #[.int .i64 ky,.int .i64 ry,.slice b' ly d'] 70)):=((Below.refl _ wr).alloc (Nat.le_refl _) _).alloc (by simp) _;refine(C.out _ B1).mono ?_
    rintro r w5 ⟨⟨p,rfl,hp⟩,b5⟩;have HB:Hid (Below w.heap.size w w5):=(B.out.trans (B1.mono B.out.size)).trans (b5.mono (Nat.le_trans B.out.size B1.size));clear C b5 B d0 d1 d2 d3 d4 d5 B1
    cases p with
    | true =>
      have hxy:x=y:=hp.1 rfl
      have A2:Hid (∀ j,j<q+1→l[j]?=m[j]?):=fun j hj=>by
       by_cases e:j=q
       ·subst e;rw[hx'.out,hy'.out,hxy]
       ·exact A.out j (by omega)
      clear hp hxy hx' hy' A;go_wp2
      go_roundw
      case rel=>exact⟨q+1,by omega,by go_num,A2.out,HB.out⟩
      case measure=>simp[intOf];omega
    | false =>
      have hxy:Hid (¬ l=m):=fun h=>by
       have h1:=hx'.out;rw[h,hy'.out] at h1
       have:=hp.2 (Option.some.inj h1).symm
       cases this
      clear hp hx' hy' A;go_wp2
      go_ret;exact⟨Za.no hxy.out,HB.out⟩
   ·have R:Hid (l=m):=by
     have:=E.out
     refine List.ext_getElem? (fun i=>?_);by_cases hi:i<q
     ·exact A.out i hi
     ·rw[List.getElem?_eq_none (by omega),List.getElem?_eq_none (by omega)]
    have hk1:¬ (q:Int)<l.length:=by omega
    clear A;go_wp2
    go_ret;exact⟨Za.yes R.out,B.out⟩
 ·have hne':((l.length:Int) != (m.length:Int))=true:=by simp;omega
  have E:Hid (l.length≠m.length):=hne;clear hne;go_enter Tryz.func141,Tryz.ntmps141
  go_wp2
  go_ret;exact⟨Za.no (fun h=>E.out (by rw[h])),Below.refl _ _⟩
theorem same_any:∀ n,QdA 114 n:=by
 intro n
 induction n with
 | zero=>intro t;exact Empty.elim t
 | succ n ih =>
   intro t u a b c d w ht hu hc;have hco:∀ x∈t.2.2,x.count≤100000:=fun x hx=>by have:=t.count_kid hx;omega
   have hlen:t.2.2.length≤100000:=by have:=t.len_lt_count;rw[t.len_eq] at this;omega
   have C:Hid (∀ wx,Below w.heap.size w wx→Calls Tryz.prog 141 #[.slice a t.2.2.length c,.slice b u.2.2.length d,FV] wx fun e w'=>Za e (t.2.2=u.2.2)∧Below wx.heap.size wx w') :=
    fun wx hb=>Qhm n ih t.2.2 u.2.2 a b c d wx (ht.below hb) (hu.below hb) hlen hco
   rw[TT.eq_iff]
   simp only[Tv,TT.len_eq] at C ⊢
   generalize t.2.2.length=p at C ⊢;generalize u.2.2.length=q at C ⊢;generalize (t.2.2=u.2.2)=E at C ⊢;generalize t.kind=k;generalize t.r=r;generalize u.kind=k';generalize u.r=r';clear hco hlen hc ht hu ih t u;by_cases hk:k=k'
   ·subst hk;by_cases hr:r=r'
    ·subst hr;go_enter Tryz.func114,Tryz.ntmps114
     go_wp2_with fail
     have B1:Below w.heap.size w ((w.alloc (.cells #[.int .i64 k,.int .i64 r,.slice a p c] 70)).alloc (.cells #[.int .i64 k,.int .i64 r,.slice b q d] 70)):=((Below.refl _ w).alloc (Nat.le_refl _) _).alloc (by simp) _;refine(C.out _ B1).mono ?_
     rintro e w2 ⟨⟨v,rfl,hv⟩,b2⟩;have B:Hid (Below w.heap.size w w2):=B1.trans (b2.mono B1.size);have V:Hid (v=true↔E):=hv;clear b2 C hv B1
     cases v
     all_goals
      go_wp2
      go_ret
     ·exact⟨Za.no (fun h=>by have:=V.out.2 h.2.2;cases this),B.out⟩
     ·exact⟨Za.yes (by have:=V.out;simpa using this),B.out⟩
    ·have hr':(r==r')=false:=by simpa using hr
     have R:Hid (¬ r=r'):=hr;clear hr;go_enter Tryz.func114,Tryz.ntmps114
     go_wp2_with fail
     go_ret;exact⟨Za.no (fun h=>R.out h.2.1),((Below.refl _ w).alloc (Nat.le_refl _) _).alloc (by simp) _⟩
   ·have hk':(k==k')=false:=by simpa using hk
    have R:Hid (¬ k=k'):=hk;clear hk;go_enter Tryz.func114,Tryz.ntmps114
    go_wp2_with fail
    go_ret;exact⟨Za.no (fun h=>R.out h.1),((Below.refl _ w).alloc (Nat.le_refl _) _).alloc (by simp) _⟩
end Go.Proofs.YtacjnejckfhpoaeGreat
namespace Go.Proofs.YtacjnejckfhpoaeGreat
open Go.ChangeShapes Go.WideShapes Go.ChangeAt Go.RowKit
set_option linter.unusedSimpArgs false
set_option linter.unusedVariables false
theorem Qb2 {B:Nat}{a w:World}(h:Below B a w):Below B a w.drew:=⟨h.os,h.tape,h.output,h.size,h.block⟩
theorem Zu {w w':World}(h:Below w.drew.heap.size w.drew w'):Below w.heap.size w w':=⟨h.os,h.tape,h.output,h.size,h.block⟩
noncomputable def JSt.beC (s:JSt) (a:Int) (t:TT 6):Int:=match s.at a with | none=>1 | some v=>if bdec (v=t) then 0 else 9
theorem Qg6 {s:JSt}{a:Int}{t:TT 6}(h:s.has a≠0):s.beC a t=s.has a:=by
 unfold JSt.has JSt.beC at *
 cases e:s.at a with
 | none=>rfl
 | some t=>rw[e] at h;exact absurd rfl h
theorem QjM {s:JSt}{a:Int}{t v:TT 6}(h:s.at a=some v):s.beC a t=if bdec (v=t) then 0 else 9:=by unfold JSt.beC;rw[h]
theorem QcD {w:World}{b:Nat}{O A Q:Nat→Prop}{s:JSt}(a:Int){t:TT 6}{p:Option Addr}{c:Nat}(ht:TIn w Q t p) (hL:s.L.length≤80) (hcnt:∀ x∈s.L,x.count≤100000) (hO:∀ k,O k→k<w.heap.size) (h:SAt w b O A s) :
 Calls Tryz.prog 72 #[.pointer (some ⟨b,0,none⟩),.int .i64 a,Tv t p c] w fun e w'=>ZG (s.beC a t) VNone e∧Below w.heap.size w w':=by
 have b1:=QQ w (.cells #[.int .i64 t.kind,.int .i64 t.r,.slice p t.len c] 70);have H1:=Qa (h.below b1);have B1:=Qa b1;have T1:=Qa (ht.below b1);have X1:Hid (Blk (w.alloc (.cells #[.int .i64 t.kind,.int .i64 t.r,.slice p t.len c] 70)) w.heap.size #[.int .i64 t.kind,.int .i64 t.r,.slice p t.len c] 70):=Blk.new _ _ _;have HC:=Qa hcnt;clear h b1 hO ht hcnt;go_enter Tryz.func72,Tryz.ntmps72
 go_upto_region 1 with fail
 generalize w.alloc (.cells #[.int .i64 t.kind,.int .i64 t.r,.slice p t.len c] 70)=w1 at H1 B1 T1 X1 ⊢;obtain⟨X,hX⟩:∃ X,w.heap.size=X:=⟨_,rfl⟩
 rw[hX] at X1 ⊢
 rw[← hX]
 have C:Hid (∀ wx,Below w1.heap.size w1 wx→Calls Tryz.prog 112 #[.pointer (some ⟨b,0,none⟩),.int .i64 a] wx fun e w'=>ZG (s.has a) (QkY w' A s a) e∧Below wx.heap.size wx w'):=fun wx hb=>QbS a hL (H1.out.below hb)
 have D:Hid (∀ (v:TT 6) (q:Option Addr) (d:Nat) (wx:World),s.at a=some v→TIn wx (fun g=>¬ A g) v q→Below w1.heap.size w1 wx→Calls Tryz.prog 114 #[Tv v q d,Tv t p c] wx fun e w'=>Za e (v=t)∧Below wx.heap.size wx w') :=
  fun v q d wx hv hq hb=>same_any 6 v t q p d c wx hq.all (T1.out.below hb).all (HC.out v (QeG hv).1)
 clear H1 T1 HC;have y0:=Qb X1.out 0 _ rfl;have y1:=Qb X1.out 1 _ rfl;have y2:=Qb X1.out 2 _ rfl;clear X1
 go_region_with (first
  | (go_at_call 112;refine(C.out _ (Qb2 (Below.refl _ _))).mono ?_;rintro e' w2 ⟨⟨hc,x,rfl,v,q,d,hv,rfl,hvt,-⟩|⟨hc,rfl⟩,b2⟩;rotate_left;exact⟨rfl,.inr ⟨by rw[Qg6 hc];exact hc,by rw[Qg6 hc]⟩,B1.out.trans ((Zu b2).mono B1.out.size)⟩;have b2':Below w1.heap.size w1 w2:=Zu b2;have y3:=QY y0 b2';have y4:=QY y1 b2';have y5:=QY y2 b2';have BB:=Qa b2';have HV:=Qa (And.intro hv hvt);clear hv hvt hc b2 b2')
  | (go_at_call 114;refine(D.out _ _ _ _ HV.out.1 HV.out.2 BB.out).mono ?_;rintro e' w3 ⟨⟨qb,rfl,hqb⟩,b3⟩;have BC:=Qa (BB.out.trans (b3.mono BB.out.size));have HQB:=Qa hqb;clear b3 hqb)
  | (go_at_call 110;refine(QbM _ _ _).mono ?_;rintro e' w' ⟨hw,⟨hq,rfl⟩|⟨hq,rfl⟩⟩;rotate_left;exact⟨rfl,ZG.bad (by rw[QjM HV.out.1,show bdec _=qb from Bool.eq_iff_iff.2 (Qap.trans HQB.out.symm),hq];rfl) (by decide),by rw[hw];exact B1.out.trans (BC.out.mono B1.out.size)⟩;have hw:=hw.symm;subst hw))
 all_goals
  have E9:Hid (s.beC a t=0):=by show _=_;rw[QjM HV.out.1,show bdec _=qb from Bool.eq_iff_iff.2 (Qap.trans HQB.out.symm),hq];rfl
  have B9:Hid (Below w.heap.size w w3):=B1.out.trans (BC.out.mono B1.out.size);clear hq;go_wp2
  exact bodyPost_end (v:=.tuple #[]) (by simp[results,Tryz.results72,go_sem]) rfl ⟨ZG.good E9.out rfl,B9.out⟩
theorem QdQ {P:Program}{ops:Array Oper}{o:Oper}{a:Act}{w:World}{K:Act→World→Prop}{Q:Exit→Act→World→Prop}{E:Prop}(hgd:o.guard=none) (F:Nat) (x y:Operand) (t u:TypeId)
 (ho:o.op=.call { callee:=.value (.func F),args:=#[x,y],argTypes:=#[t,u] }) (hE:∀ (args:Array Value) (w:World),(callFunc F args).run P w=.ok (.enter F args) w) (v z:Value) (hx:a.eval x=v) (hy:a.eval y=z) {R:Ending→World→Prop} (C:Calls P F #[v,z] w R)
 (h:∀ en w',R en w'→Qly K Q o a en w'):if Region.wanted o (yielded ops a.tmps)=true then Oper.wp P o a w K Q else E:=by
 have hw:Region.wanted o (yielded ops a.tmps)=true:=by simp[Region.wanted,hgd]
 rw[if_pos hw]
 unfold Oper.wp
 have e1:(execOp a.eval o).run P w=.ok (.enter F #[v,z]) w:=by
  have hf:a.eval (.func F)=.func (.func F) #[] #[]:=rfl;unfold execOp;simp[ho,resolve,invoke,Deferred.ofValue,hx,hy,hE,hf,Result.andThen]
 rw[e1,Oper.upon_enter]
 refine C.mono fun en w' hO=>?_
 have:=h en w' hO
 cases en<;>exact this
theorem QbO {s:JSt}:∀ {l m:List Int}{x y:List (TT 6)},s.fields l=some x→s.fields m=some y→s.fields (l++m)=some (x++y)
 | [],m,x,y,h1,h2=>by simp[JSt.fields] at h1;subst h1;exact h2
 | k::r,m,x,y,h1,h2=>by
   simp only[JSt.fields] at h1
   show s.fields (k::(r++m))=_;simp only[JSt.fields]
   cases hk:s.at k with
   | none=>simp[hk] at h1
   | some t =>
     simp only[hk] at h1
     cases hr:s.fields r with
     | none=>simp[hr] at h1
     | some l =>
       simp only[hr,Option.some.injEq] at h1
       subst h1;rw[QbO hr h2]
       rfl
theorem Qff {s:JSt}{l:List Int}{k:Nat}{y:Int}{t:TT 6}{L:List (TT 6)}(hy:l[k]?=some y) (ht:s.at y=some t) (h:s.fields (l.take k)=some L):s.fields (l.take (k+1))=some (L++[t]):=by
 rw[List.take_add_one,hy]
 exact QbO h (by simp[JSt.fields,ht])
theorem Qdr {s:JSt}:∀ {l:List Int}{y:Int},y∈l→s.at y=none→s.fields l=none
 | k::r,y,hm,h=>by
   simp only[JSt.fields]
   rcases List.mem_cons.1 hm with rfl | hm
   ·rw[h]
   ·rw[Qdr hm h]
    cases s.at k<;>rfl
def JSt.tupleC (s:JSt) (a:Int) (args:List Int):Int:=Qw (s.want a 2 true) (match s.at a with
 | none=>0
 | some t=>match s.fields args with
   | none=>1
   | some l=>if 4<TT.height (n:=7) (mkT 3 t.r l) then 19 else Q8 s.L.length 1)
def JSt.tupleS (s:JSt) (a:Int) (args:List Int):JSt:={ s with L:=s.L++(match s.at a with
 | none=>[]
 | some t=>match s.fields args with
   | none=>[]
   | some l=>[TT.at (n:=7) 5 (mkT 3 t.r l)]) }
theorem Qfl {R:Int}{r:Int}{l:List (TT 6)}(hr:0≤r∧r<R) (hl:l.length≤8) (h:∀ t∈l,t.check R=0):TT.check (n:=7) R (mkT 3 r l)=if 4<TT.height (n:=7) (mkT 3 r l) then 19 else 0:=by
 show (if 4<TT.height (n:=7) (mkT 3 r l) then 19 else TT.fault (n:=7) R (mkT 3 r l))=_
 have:TT.fault (n:=7) R (mkT 3 r l)=0:=by
  show (if ownC 3 r l.length R≠0 then ownC 3 r l.length R else QA (TT.fault R) l)=0
  have:ownC 3 r l.length R=0:=by
   unfold ownC;rw[if_neg (by omega),if_neg (by omega),if_neg (by omega),if_neg (by omega),if_neg (by omega)]
  rw[this]
  simp only[ne_eq,not_true_eq_false,if_false]
  exact QX.2 fun y hy=>(Q6.1 (h y hy)).2
 rw[this]
structure TuS (w wc:World) (B lo:Nat) (A:Nat→Prop) (r:Int) (v:Value) (L:List (TT 6)):Prop where
 bel:Below w.heap.size w wc
 box:Blk wc B #[.int .i64 3,.int .i64 r,v] 70
 row:TRq wc (fun g=>lo≤g) (fun g=>¬ (A g∨w.heap.size≤g)) v L
 lo1:B<lo
 lo2:lo≤wc.heap.size
 far:w.heap.size≤B
section
variable {w wc w9:World}{B lo:Nat}{A:Nat→Prop}{r:Int}{v:Value}{L:List (TT 6)}
theorem TRq.below {w w':World}{O Q:Nat→Prop}{v:Value}{L:List (TT 6)}(h:TRq w O Q v L) (k:Below w.heap.size w w'):TRq w' O Q v L:=h.keep (fun g hg _=>k.block g hg) (fun _ hk=>h.own hk) (fun _ h _=>h)
theorem TuS.below (h:TuS w wc B lo A r v L) (k:Below wc.heap.size wc w9):TuS w w9 B lo A r v L :=
 ⟨h.bel.trans (k.mono h.bel.size),h.box.below k,h.row.below k,h.lo1,Nat.le_trans h.lo2 k.size,h.far⟩
theorem TuS.push {a:Option Addr}{c g cap:Nat}{xs:List Value}{t:TT 6}{p:Option Addr}{d:Nat}(h:TuS w wc B lo A r (.slice a L.length c) L) (hx:wc.ownsRow 0 70 3 (.slice a L.length c) L.length xs) (ht:(Lay.tt 6).In wc (fun g=>¬ (A g∨w.heap.size≤g)) t [.int .i64 t.kind,.int .i64 t.r,.slice p t.len d])
 (h1:w9.ownsRow 0 70 3 (.slice (some ⟨g,0,none⟩) (L.length+1) cap) (L.length+1) (xs++[.int .i64 t.kind,.int .i64 t.r,.slice p t.len d])) (h2:wc.grownBy w9 (Value.slice a L.length c).ownBlock) (h3:(Value.slice a L.length c).ownBlock=some g∨g=wc.heap.size) :
 w9.cell? ⟨B,2,none⟩=some (.slice a L.length c)∧w9.frozen? ⟨B,2,none⟩=false∧TuS w (w9.setCell ⟨B,2,none⟩ (.slice (some ⟨g,0,none⟩) (L.length+1) cap)) B lo A r (.slice (some ⟨g,0,none⟩) (L.length+1) cap) (L++[t]):=by
 have hsz:=h2.size;have hlo1:=h.lo1;have hlo2:=h.lo2;have hbl:=h.box.lt;have hsc:=h.bel.size;have hown:∀ k,(Value.slice a L.length c).ownBlock=some k→lo≤k:=fun k hk=>h.row.own hk;have kb:Blk w9 B #[.int .i64 3,.int .i64 r,.slice a L.length c] 70:=(h2.block B hbl (fun e=>by have:=hown B e.symm;omega)).trans h.box
 have hlog:lo≤g:=by
  rcases h3 with h3 | h3
  ·exact hown g h3
  ·omega
 have hgB:g≠B:=by omega
 have far:=h.far
 have low:∀ k,k<w.heap.size→(w9.setCell ⟨B,2,none⟩ (.slice (some ⟨g,0,none⟩) (L.length+1) cap)).heap[k]?=wc.heap[k]?:=fun k hk=>by
  rw[Below.heap_setCell _ _ _ _ (show k≠B by omega),h2.block k (by omega) (fun e=>by have:=hown k e.symm;omega)]
 refine⟨Qb kb 2 _ rfl,Qo kb 2,⟨⟨h2.os.trans h.bel.os,h2.tape.trans h.bel.tape,h2.output.trans h.bel.output,by simp;omega,fun k hk=>(low k hk).trans (h.bel.block k hk)⟩,?_,?_,hlo1,by simp;omega,far⟩⟩
 ·have:=Qk kb 2 (.slice (some ⟨g,0,none⟩) (L.length+1) cap)
  simpa using this
 ·obtain⟨xs',q1,q2,q3⟩:=h.row
  have e:xs'=xs:=by
   obtain⟨e1,e2⟩:=q1
   obtain⟨f1,f2⟩:=hx
   rcases e2 with ⟨e3,e4⟩|⟨g1,cap1,cur1,e3,e4,e5,e6,e7,e8,e9⟩
   ·have:L.length=0:=e4
    rw[List.length_eq_zero_iff.1 (show xs'.length=0 by rw[e1,this]),List.length_eq_zero_iff.1 (show xs.length=0 by rw[f1,this])]
   ·rcases f2 with ⟨f3,f4⟩|⟨g2,cap2,cur2,f3,f4,f5,f6,f7,f8,f9⟩
    ·rw[f3] at e3;cases e3
    ·rw[e3] at f3
     cases f3
     rw[e5] at f5
     cases f5
     rw[← e9,← f9]
  subst e;refine⟨xs'++[.int .i64 t.kind,.int .i64 t.r,.slice p t.len d],?_,fun k hk=>?_,?_⟩
  ·rw[List.length_append]
   exact Qc2 h1 (Below.heap_setCell _ _ _ _ hgB)
  ·simp[Value.ownBlock] at hk
   subst hk;exact hlog
  ·have keep:∀ {x:TT 6} {cs:List Value},(Lay.tt 6).In wc (fun g=>¬ (A g∨w.heap.size≤g)) x cs→(Lay.tt 6).In (w9.setCell ⟨B,2,none⟩ (.slice (some ⟨g,0,none⟩) (L.length+1) cap)) (fun g=>¬ (A g∨w.heap.size≤g)) x cs:=fun hx=>(Lay.tt 6).keep (fun k hk _=>low k (Nat.lt_of_not_le (fun e=>hk (.inr e)))) (fun _ h _=>h) hx;refine Qbg (s:=3) (P:=fun x cs=>(Lay.tt 6).In _ _ x cs) q1.1 (fun i x hx=>keep (q3 i x hx)) (fun i x hx=>?_);have hi:i<1:=by simpa using (List.getElem?_eq_some_iff.1 hx).1
   have hi0:i=0:=by omega
   subst hi0;simp at hx
   subst hx;exact keep ht
end
theorem Qdi {w w':World}{e:TypeId}{s n:Nat}{v:Value}{xs:List Value}(h:w.ownsRow 0 e s v n xs) (hb:Below w.heap.size w w'):w'.ownsRow 0 e s v n xs:=by
 obtain⟨h1,h2⟩:=h
 refine⟨h1,?_⟩
 rcases h2 with h4 | ⟨g,cap,cur,e',hg,hh,r⟩
 ·exact .inl h4
 ·exact .inr ⟨g,cap,cur,e',hg,(hb.block g (lt_of_block hh)).trans hh,r⟩
theorem TuS.lin {w wc:World}{B lo:Nat}{A:Nat→Prop}{r:Int}{a:Option Addr}{N c:Nat}{L:List (TT 6)}(h:TuS w wc B lo A r (.slice a N c) L) (hA:∀ k,A k→k<w.heap.size):LIn wc (fun g=>¬ A g) L a∧N=L.length∧∀ x∈L,x.ok:=by
 obtain⟨a',c',e,hle,hrd,-⟩:=h.row.form
 simp only[Value.slice.injEq] at e
 obtain⟨rfl,rfl,rfl⟩:=e
 have hlo:=h.lo1;have hf:=h.far;refine⟨fun i x hx=>?_,rfl,fun x hx=>?_⟩
 ·obtain⟨g,a',c',e,h0,h1,h2,h3,h4⟩:=hrd i x hx
  subst e;have hg:lo≤g:=h.row.own rfl;refine⟨g,0,a',c',rfl,fun e=>by have:=hA g e;omega,?_,?_,?_,h3.mono (fun k hk _ e=>hk (.inl e))⟩
  ·rw[Nat.zero_add];exact h0
  ·rw[Nat.zero_add];exact h1
  ·rw[Nat.zero_add];exact h2
 ·obtain⟨i,hi,e⟩:=List.mem_iff_getElem.1 hx
  obtain⟨g,a',c',e,h0,h1,h2,h3,h4⟩:=hrd i x (by rw[List.getElem?_eq_getElem hi,e])
  exact h4
theorem QiG {r:Int}{l:List (TT 6)}(h:∀ x∈l,x.count≤4681) (hl:l.length≤8):TT.count (n:=7) (mkT 3 r l)≤100000:=by
 show 1+(l.map TT.count).sum≤100000;have h1:=sum_le_mul (l.map TT.count) 4681 (fun x hx=>by obtain⟨y,hy,rfl⟩:=List.mem_map.1 hx;exact h y hy);rw[List.length_map] at h1
 have h2:l.length*4681≤8*4681:=Nat.mul_le_mul_right _ hl;omega
theorem Qhe {w:World}{A:Nat→Prop}(hA:∀ k,A k→k<w.heap.size){r:Int}{L:List (TT 6)}{p:Option Addr}{c d:Nat}(hr:0≤r∧r≤1000) (hh:¬ 4<TT.height (n:=7) (mkT 3 r L)) (hl:LIn w (fun g=>¬ A g) L p) (hok:∀ x∈L,x.ok) :
 (Qh 6).In (w.alloc (.cells #[.int .i64 3,.int .i64 r,.slice p L.length c] 70)) (fun g=>¬ A g) [TT.at (n:=7) 5 (mkT 3 r L)] [.slice (some ⟨w.heap.size,0,none⟩) 1 d]:=by
 have h5:TT.height (n:=7) (mkT 3 r L)≤5:=by omega
 have:=QdM (t:=TT.at (n:=7) 5 (mkT 3 r L)) (p:=p) (c:=c) (d:=d) hA (TIn.at 5 h5 (LIn.tree hl)) (TT.at_ok 5 ⟨⟨by show -9223372036854775808≤r;omega,by show r≤9223372036854775807;omega⟩,hok⟩)
 rw[TT.at_kind,TT.at_r,TT.at_len 5 _ h5] at this
 exact this
theorem enters_value:QcU 112:=fun _ _=>by kernel_rfl
theorem QgJ {w:World}{b:Nat}{O A Q:Nat→Prop}{s:JSt}(a:Int){args:List Int}{pa:Option Addr}{N ca:Nat}(hN:args.length=N) (hN2:N≤8) (hl:intsL.In w Q args [.slice pa N ca]) (hJ:JOk s) (hA:∀ k,A k→k<w.heap.size) (h:SAt w b O A s) :
 Calls Tryz.prog 69 #[.pointer (some ⟨b,0,none⟩),.int .i64 a,.slice pa N ca] w fun e w'=>Q0 w b O A s (s.tupleS a args) (s.tupleC a args) e w':=by
 have hfl:∀ (k r:Int) (p:Option Addr) (l c:Nat) (w:World),(Instr.field 70 (.agg #[.int .i64 k,.int .i64 r,.slice p l c]) 1).run Tryz.prog w=.ok (.int .i64 r) w:=fun _ _ _ _ _ _=>by kernel_rfl
 obtain⟨i0,hi,hz0,hz1,hz2⟩:=pInfoT
 have H:=Qa h;have HA:=Qa hA;have HO:Hid (∀ k,O k→k<w.heap.size):=fun k hk=>hA k (h.sub k hk);have HL:=Qa hl;have HN:=Qa hN;have HJ:=Qa hJ;have hL:=hJ.vals;clear h hA hl hN hJ;go_enter Tryz.func69,Tryz.ntmps69
 go_wp2_with fail
 refine(Z0 a 2 hL HO.out H.out).mono ?_
 rintro e' w2 ⟨hO,b2⟩;have HB:=Qa b2;clear b2;rcases hO with ⟨hc,x,rfl,t,p,c,ha,rfl,ht,hok⟩|⟨hc,rfl⟩
 rotate_left
 ·exact⟨rfl,Q0.bad (by unfold JSt.tupleC;rw[Qm hc]) hc (STo.of_below H.out HB.out)⟩
 have hr:0≤t.r∧t.r<s.H.length:=by
  obtain⟨t',e1,e2,e3⟩:=QaL hc
  rw[ha] at e1
  cases e1
  exact ZS (e3 rfl)
 have HR:=Qa hr;have E:Hid (s.tupleC a args=match s.fields args with | none=>1 | some l=>if 4<TT.height (n:=7) (mkT 3 t.r l) then 19 else Q8 s.L.length 1):=by show _=_;unfold JSt.tupleC;rw[Qz hc,ha]
 have ES:Hid (∀ l,s.fields args=some l→s.tupleS a args={ s with L:=s.L++[TT.at (n:=7) 5 (mkT 3 t.r l)] }):=fun l hl=>by unfold JSt.tupleS;rw[ha,hl]
 clear hr hc ha ht hok;simp only[Tv]
 go_upto_region 1 with fail
 have T0:Hid (TuS w (w2.alloc (.cells #[.int .i64 3,.int .i64 t.r,.slice none 0 0] 70)) w2.heap.size (w2.heap.size+1) A t.r (.slice none 0 0) []) :=
  ⟨HB.out.trans ((QQ _ _).mono HB.out.size),Blk.new _ _ _,⟨[],⟨rfl,.inl ⟨rfl,rfl⟩⟩,fun g hg=>by simp[Value.ownBlock] at hg,fun i x hx=>by simp at hx⟩,Nat.lt_succ_self _,by simp,HB.out.size⟩
 generalize w2.alloc (.cells #[.int .i64 3,.int .i64 t.r,.slice none 0 0] 70)=w3 at T0 ⊢;generalize w2.heap.size=B at T0 ⊢;generalize t.r=r at T0 HR E ES ⊢;clear HB;go_wp2
 go_loopw [16] (fun i wr=>∃ (k:Nat) (v:Value) (L:List (TT 6)),k≤N∧i=.int .i64 k∧TuS w wr B (B+1) A r v L∧s.fields (args.take k)=some L) (fun i _=>N - (intOf i).toNat)
 case atStart=>exact⟨0,_,_,Nat.zero_le _,rfl,T0.out,rfl⟩
 case round =>
  clear T0;obtain⟨k,v,L,hk,rfl,hT,hf⟩:=hrel
  have HF:=Qa hf
  have HLK:Hid (L.length=k):=by
   show _=_
   have:=(QaC hf).1
   rw[List.length_take,HN.out] at this
   omega
  have hL8:L.length≤8:=by have:=HLK.out;omega
  obtain⟨aL,cL,rfl,hle,-,xs,how⟩:=hT.row.form
  have T1:=Qa hT;have HOW:=Qa how;clear hf hT how;by_cases hlt:k<N
  ·have hlt':(k:Int)<N:=by omega
   have hk2:k<args.length:=by rw[HN.out];exact hlt
   obtain⟨g,o,rfl,-,hg,hc0⟩:=Z7 HL.out hk2
   obtain⟨y,hy⟩:∃ y,args[k]?=some y:=⟨_,List.getElem?_eq_getElem hk2⟩
   rw[show args.getD k 0=y by rw[List.getD_eq_getElem?_getD,hy];rfl] at hc0
   have HX:=Qa hy;have y0:=QY hc0 T1.out.bel;have z2:=Qb T1.out.box 2 _ rfl;clear hc0 hk2 hy;go_upto_region 4 with fail
   have BD:Hid (Below w.heap.size w wr.drew):=Qb2 T1.out.bel
   go_region_law (first
    | (refine QdQ rfl 112 (.tmp 22) (.tmp 23) 28 3 rfl enters_value (.pointer (some ⟨b,0,none⟩)) (.int .i64 y) (by simp[Act.eval,Act.put]) (by simp[Act.eval,Act.put]) (QbS y hL (H.out.more HO.out BD.out)) ?_
       rintro e' w4 ⟨hO,b4⟩;rcases hO with ⟨hc,x,rfl,u,q,d,hu,rfl,hut,hok⟩|⟨hc,rfl⟩
       rotate_left
       ·have hno:s.at y=none:=by
         unfold JSt.has at hc
         cases e:s.at y with
         | none=>rfl
         | some t=>rw[e] at hc;exact absurd rfl hc
        exact⟨rfl,Q0.bad (d:=s.has y) (by rw[E.out,Qdr (List.mem_of_getElem? HX.out) hno];unfold JSt.has;rw[hno]) hc (STo.of_below H.out (BD.out.trans (b4.mono BD.out.size)))⟩
       have T4:=Qa (T1.out.below (Zu b4));have HU:=Qa hu;have I4:Hid ((Lay.tt 6).In w4 (fun g=>¬ (A g∨w.heap.size≤g)) u [.int .i64 u.kind,.int .i64 u.r,.slice q u.len d]):=⟨q,d,rfl,hut,hok⟩;have z4:=Qb T4.out.box 2 _ rfl;have hB4:=T4.out.box.lt;have HOW4:=Qa (Qdi HOW.out (Zu b4));clear hu hut hok b4 hc;dsimp only [Qly])
    | (refine step_append_lies _ rfl (.tmp 21) (.tmp 25) 33 rfl 0 70 i0 (.agg #[.int .i64 0,.int .i64 0,.slice none 0 0]) 3 40 pUnderT hi hz0 hz1 hz2 rfl (by decide) (.slice aL L.length cL) L.length xs (by simp[Act.eval,Act.put]) (HOW4.out.alloc _) ⟨w4.heap.size,0,none⟩ 1 1 [.int .i64 u.kind,.int .i64 u.r,.slice q u.len d] (by simp[Act.eval,Act.put]) rfl (Qib _ _ _) (Qkv _ _ _ _ _) (by decide) (by unfold maxLen;omega) (by omega) (Nat.zero_le _) (w4.heap.size+1) (by simp) ?_
       intro g2 cap2 w9 h1 h2 h3 h4;have b5:=QQ w4 (.cells #[.int .i64 u.kind,.int .i64 u.r,.slice q u.len d] 70);obtain⟨z9,f9,t9⟩:=(T4.out.below b5).push (Qdi HOW4.out b5) (Lay.below I4.out b5) h1 h2 (by simpa using h3)
       have T9:=Qa t9;clear h1 h2 h3 h4 b5 t9))
   all_goals
    have FF:=Qa (Qff HX.out HU.out HF.out);clear T4 HU I4 z4 HOW4 z9 f9 hB4;generalize w9.setCell ⟨B,2,none⟩ (.slice (some ⟨g2,0,none⟩) (L.length+1) cap2)=w10 at T9 ⊢;go_wp2
    go_roundw
    case rel=>exact⟨k+1,_,L++[u],hlt,by go_num,T9.out,FF.out⟩
    case measure=>simp[intOf];omega
  ·have hkN:k=N:=by omega
   have hlt':¬ (k:Int)<N:=by omega
   have hfa:s.fields args=some L:=by
    have:=HF.out
    rwa [List.take_of_length_le (by rw[HN.out];omega)] at this
   obtain⟨hlin,-,hoks⟩:=T1.out.lin HA.out
   have hck:∀ x∈L,x.check s.H.length=0:=fun x hx=>HJ.out.types x ((QaC hfa).2 x hx);have EC:Hid (TT.check (n:=7) (s.H.length:Int) (mkT 3 r L)=if 4<TT.height (n:=7) (mkT 3 r L) then 19 else 0):=Qfl HR.out hL8 hck;have E2:Hid (s.tupleC a args=if 4<TT.height (n:=7) (mkT 3 r L) then 19 else Q8 s.L.length 1):=by show _=_;rw[E.out,hfa]
   have ES2:=Qa (ES.out L hfa);have HLI:=Qa (And.intro hlin hoks);have HCN:Hid (TT.count (n:=7) (mkT 3 r L)≤100000):=QiG (fun x hx=>ZH (hck x hx)) hL8;have H9:=Qa (H.out.below T1.out.bel);obtain⟨pm,cm,hh,a1,c1,a2,c2,a3,c3,aL',cL',RR⟩:=H9.out.read
   obtain⟨-,q1,-⟩:=RR.cells
   have CL:Hid (∀ m,Calls Tryz.prog 11 #[.pointer (some ⟨hh,0,none⟩)] (wr.drewN m) fun e w'=>e=.returned (.int .i64 (s.H.length:Int))∧w'=wr.drewN m):=fun m=>Qi8 (show Qq (wr.drewN m) hh s.H from RR.held);have CC:Hid (Calls Tryz.prog 113 #[.agg #[.int .i64 3,.int .i64 r,.slice aL L.length cL],.int .i64 (s.H.length:Int)] wr.drew fun e w'=>e=.returned (.int .i64 (TT.check (n:=7) (s.H.length:Int) (mkT 3 r L)))∧Below wr.drew.heap.size wr.drew w'):=check_any 7 (mkT 3 r L) aL cL _ wr.drew (TIn.all (LIn.tree hlin).drew) HCN.out;obtain⟨z0,z1,z2⟩:=QjQ T1.out.box
   clear hfa hlin hoks hck RR HF HLK;generalize TT.check (n:=7) (s.H.length:Int) (mkT 3 r L)=ck at EC CC;generalize (s.H.length:Int)=nH at CL CC;go_upto_region 6 with fail
   go_region_with (first
    | (go_at_call 11;refine(CL.out _).mono ?_;rintro e w' ⟨rfl,hw⟩;have hw:=hw.symm;subst hw)
    | (go_at_call 113;refine(CC.out).mono ?_;rintro e w4 ⟨rfl,b4⟩;have B4:=Qa (Zu b4);clear b4)
    | (go_at_call 110;refine(QbM _ _ _).mono ?_;rintro e' w' ⟨hw,⟨hq,rfl⟩|⟨hq,rfl⟩⟩;rotate_left;exact⟨rfl,Q0.bad (d:=19) (by rw[E2.out];have hq':ck≠0:=(by simpa using hq);rw[EC.out] at hq';by_cases h4:4<TT.height (n:=7) (mkT 3 r L);rw[if_pos h4];rw[if_neg h4] at hq';exact absurd rfl hq') (by decide) (by rw[hw];exact STo.of_below H.out (T1.out.bel.trans (B4.out.mono T1.out.bel.size)))⟩;have hw:=hw.symm;subst hw))
   all_goals
    have hq':ck=0:=by simpa using hq
    have h4:¬ 4<TT.height (n:=7) (mkT 3 r L):=fun h4=>by
     have:=EC.out
     rw[if_pos h4,hq'] at this
     cases this
    have E3:Hid (s.tupleC a args=Q8 s.L.length 1):=by show _=_;rw[E2.out,if_neg h4]
    have T5:=Qa (T1.out.below B4.out);have HA5:Hid (∀ k,A k→k<w4.heap.size):=fun k hk=>Nat.lt_of_lt_of_le (HA.out k hk) T5.out.bel.size
    have CM:Hid (∀ d,Calls Tryz.prog 70 #[.pointer (some ⟨b,0,none⟩),.slice (some ⟨w4.heap.size,0,none⟩) 1 d] (w4.alloc (.cells #[.int .i64 3,.int .i64 r,.slice aL L.length cL] 70)) fun e w'=>Q0 w b O A s (s.tupleS a args) (s.tupleC a args) e w'):=fun d=>by
     have b1:=QQ w4 (.cells #[.int .i64 3,.int .i64 r,.slice aL L.length cL] 70);have hb9:=T5.out.bel.trans (b1.mono T5.out.bel.size);rw[ES2.out,E3.out]
     exact(Qad (l:=[TT.at (n:=7) 5 (mkT 3 r L)]) rfl (by simp) (Qhe (c:=cL) (d:=d) HA5.out (by have:=HR.out;have:=HJ.out.regs;omega) h4 (HLI.out.1.below B4.out) HLI.out.2) hL (fun k hk=>Nat.lt_of_lt_of_le (HA5.out k hk) b1.size) (H.out.below hb9)).mono (fun e w' hd=>hd.after hb9)
    obtain⟨y0,y1,y2⟩:=QjQ T5.out.box
    clear hq hq' h4 CC CL E3;go_wp2_with fail
    refine(CM.out _).mono ?_
    rintro e' w5 hd;have F:=Qa hd;rcases hd with ⟨h1,rfl,h3⟩|⟨h1,rfl,h3⟩
    rotate_left
    ·exact⟨rfl,F.out⟩
    clear h1 h3 CM;go_wp2
    exact bodyPost_end (v:=.tuple #[]) (by simp[results,Tryz.results69,go_sem]) rfl F.out
end Go.Proofs.YtacjnejckfhpoaeGreat
namespace Go.Proofs.YtacjnejckfhpoaeGreat
open Go.ChangeShapes Go.WideShapes Go.ChangeAt Go.RowKit Go.Deep
set_option linter.unusedVariables false
def Wt {H:Type}(P:Program) (t:TypeId) (d:DataW H):Prop:=∀ n∈d.weights P t,n≤reachBytes
def QI (P:Program) (t:TypeId){α:Type}(A:Lay α) (n:Nat) (Bd:α→Prop):Prop :=
 P.cellsOf t=A.size∧∀ {H:Type} {enc:TypeId × Value→H} {w:World} {base:Nat} {spare:Nat→Bool} {held:Bool} {fuel:Nat} {cs:List Value} {x:DataW H × List MemPlace},
  fuel≤n→DataW.trod enc P w base spare held fuel t cs=some x→Wt P t x.1→∃ d,A.In w (fun _=>True) d cs∧Bd d
theorem QI.int {P:Program}{t:TypeId}(n:Nat) (h:P.underlying t=some (.int .i64)) (hc:P.cellsOf t=1):QI P t Lay.int n (fun _=>True) :=
 ⟨hc,fun _ h' _=>by
  obtain⟨k,e,_,wf⟩:=DataW.trod_int h h'
  exact⟨k,⟨e,Go.bounds_i64 wf⟩,trivial⟩⟩
theorem Qba {H:Type}{P:Program}{e:TypeId}:∀ {l:List (DataW H)}{d:DataW H},d∈l→∀ n∈d.weights P e,n∈DataW.weightsAll P e l
 | d0::l,d,h,n,hn=>by
   simp only[DataW.weightsAll,List.mem_append]
   rcases List.mem_cons.1 h with rfl | h
   ·exact .inl hn
   ·exact .inr (Qba h n hn)
theorem QI.list {P:Program}{t e:TypeId}{α:Type}{A:Lay α}{n:Nat}{Bd:α→Prop}(h:P.underlying t=some (.slice e)) (hc:P.cellsOf t=1) (hA:QI P e A n Bd) (h0:0<A.size) (hbe:0<P.bytesOf e):QI P t A.list n (fun l=>l.length<1152921504606846976) :=
 ⟨hc,fun {H enc w base spare held fuel cs x} hf h' hw=>by
  rcases DataW.trod_slice h h' with ⟨e2,_⟩|⟨a,len,cap,elems,rest,q,rfl,e2,ex,hb,hl,hm,hlen,hel,_,_⟩
  ·exact⟨[],by rw[e2];exact Lay.list_nil A _ _ _ _,by simp⟩
  ·have hlw:(elems.length+rest.length)*P.bytesOf e≤reachBytes:=hw _ (by rw[ex];simp[DataW.weights,h])
   have hlb:len<1152921504606846976:=by
    have h1:elems.length*1≤(elems.length+rest.length)*P.bytesOf e:=Nat.mul_le_mul (by omega) hbe;have h2:reachBytes<1152921504606846976:=by decide
    omega
   have hel':∀ i,i<len→∃ y,elems[i]?=some y∧Wt P e y.1:=fun i hi=>by
    refine⟨elems[i]'(by omega),List.getElem?_eq_getElem (by omega),fun k hk=>hw k ?_⟩
    rw[ex]
    simp only[DataW.weights,h,List.mem_cons,List.mem_append]
    exact .inr (.inl (Qba (List.mem_map_of_mem (List.getElem_mem (by omega))) k hk))
   obtain⟨l,hll,hp⟩:=Qf1 (P:=fun i (d:α)=>∃ ds,w.cells? base (a.add (i*A.size)) A.size=some ds∧A.In w (fun _=>True) d ds) len (fun i hi=>by
    have he:=hel i hi;obtain⟨y,hy,hwy⟩:=hel' i hi
    rw[hy,hA.1] at he
    rw[Option.bind_eq_some_iff] at he
    obtain⟨ds,hds,htr⟩:=he
    obtain⟨d,hd,_⟩:=hA.2 (by omega) htr hwy
    exact⟨d,ds,hds,hd⟩)
   refine⟨l,⟨some a,cap,by rw[e2,hll],fun i x hx=>?_⟩,by omega⟩
   obtain⟨ds,hds,hd⟩:=hp i x hx
   obtain⟨_,hcl,hcell⟩:=World.cells?_some hds
   obtain⟨b,off,spot⟩:=a
   have hspot:spot=none:=by
    have hi:0<l.length:=Nat.lt_of_le_of_lt (Nat.zero_le i) (List.getElem?_eq_some_iff.1 hx).1;obtain⟨ds0,hds0,hd0⟩:=hp 0 l[0] (List.getElem?_eq_getElem hi)
    have hl0:0<ds0.length:=by rw[A.len hd0];exact h0
    have:=(World.cells?_some hds0).2.2 0 h0
    rw[List.getElem?_eq_getElem hl0] at this
    simpa[Addr.add] using World.cell?_spot this
   subst hspot
   have key:∀ j,j<A.size→w.cell? ⟨b,off+i*A.size+j,none⟩=ds[j]?:=fun j hj=>by
    have:=hcell j hj
    rw[Go.WideShapes.add_plain,Go.WideShapes.add_plain] at this
    exact this
   refine⟨b,off,ds,rfl,trivial,?_,key,hd⟩
   have hl0:0<ds.length:=by rw[A.len hd];exact h0
   have:=key 0 h0
   rw[List.getElem?_eq_getElem hl0] at this
   exact World.block_lt_of_cell? w _ this⟩
def QJ (P:Program) (fs:Array Field):Nat→Nat→{α:Type}→Lay α→Nat→(α→Prop)→Prop:=fun i o α A n Bd =>
 ∀ (H:Type) (enc:TypeId × Value→H) (w:World) (base:Nat) (spare:Nat→Bool) (held:Bool) (fuel:Nat) (cs:List Value) (xs:List (DataW H × List MemPlace)),
  fuel≤n→cs.length=o+A.size→xs.length=fs.size→(∀ (j:Nat) (f:Field),fs[j]?=some f→DataW.trod enc P w base spare held fuel f.type ((cs.drop f.offset).take (P.cellsOf f.type))=xs[j]?) →
  (∀ (j:Nat) (f:Field) x,fs[j]?=some f→xs[j]?=some x→Wt P f.type x.1)→∃ d,A.In w (fun _=>True) d (cs.drop o)∧Bd d
theorem QJ.last {P:Program}{fs:Array Field}{i o n:Nat}{f:Field}{α:Type}{A:Lay α}{Bd:α→Prop}(hf:fs[i]?=some f) (ho:f.offset=o) (hA:QI P f.type A n Bd):QJ P fs i o A n Bd:=by
 intro H enc w base spare held fuel cs xs hn hl hx h hw;have g:=h i f hf;have hi:i<fs.size:=(Array.getElem?_eq_some_iff.1 hf).1;rw[List.getElem?_eq_getElem (by omega),ho,hA.1] at g
 obtain⟨d,hd,hb⟩:=hA.2 hn g (hw i f _ hf (List.getElem?_eq_getElem (by omega)))
 refine⟨d,?_,hb⟩
 rwa [List.take_of_length_le (by simp;omega)] at hd
theorem QJ.cons {P:Program}{fs:Array Field}{i o n:Nat}{f:Field}{α β:Type}{A:Lay α}{B:Lay β}{Bd:α→Prop}{Be:β→Prop}(hf:fs[i]?=some f) (ho:f.offset=o) (hA:QI P f.type A n Bd) (hB:QJ P fs (i+1) (o+A.size) B n Be):QJ P fs i o (A.pair B) n (fun x=>Bd x.1∧Be x.2):=by
 intro H enc w base spare held fuel cs xs hn hl hx h hw;have g:=h i f hf;have hi:i<fs.size:=(Array.getElem?_eq_some_iff.1 hf).1;rw[List.getElem?_eq_getElem (by omega),ho,hA.1] at g
 obtain⟨d,hd,hb⟩:=hA.2 hn g (hw i f _ hf (List.getElem?_eq_getElem (by omega)))
 have hs:(A.pair B).size=A.size+B.size:=rfl;obtain⟨e,he,hb2⟩:=hB _ _ _ _ _ _ _ _ _ hn (by omega) hx h hw
 refine⟨(d,e),⟨_,_,?_,hd,he⟩,hb,hb2⟩
 rw[← List.drop_drop,List.take_append_drop]
theorem QI.struct {P:Program}{t:TypeId}{fs:Array Field}{α:Type}{A:Lay α}{n:Nat}{Bd:α→Prop}(h:P.underlying t=some (.struct fs)) (hc:P.cellsOf t=A.size) (hF:QJ P fs 0 0 A n Bd):QI P t A n Bd :=
 ⟨hc,fun {H enc w base spare held fuel cs x} hf h' hw=>by
  obtain⟨xs,m,rfl,ex,hcl,hxl,hfl⟩:=DataW.trod_struct h h'
  obtain⟨d,hd,hb⟩:=hF _ _ _ _ _ _ _ _ _ (by omega) (by rw[hcl,hc];omega) hxl hfl (fun j f y hj hy k hk=>hw k (by
   rw[ex]
   simp only[DataW.weights,h]
   exact DataW.weights_mem_each (j:=j) (t:=f.type) (d:=y.1) (by simp[hj]) (by simp[hy]) k hk))
  exact⟨d,by simpa using hd,hb⟩⟩
theorem QI.via {P:Program}{t:TypeId}{α β:Type}{A:Lay α}{n:Nat}{f:β→α}{Bd:α→Prop}(h:QI P t A n Bd) (g:α→β) (hg:∀ d,f (g d)=d):QI P t (A.via f) n (fun x=>Bd (f x)) :=
 ⟨h.1,fun hf h' hw=>by
  obtain⟨d,hd,hb⟩:=h.2 hf h' hw
  exact⟨g d,by show A.In _ _ (f (g d)) _;rw[hg];exact hd,by show Bd (f (g d));rw[hg];exact hb⟩⟩
theorem own:ownKnob Tryz.prog.godebug=none:=by kernel_rfl
theorem laidOut:laidOutB Tryz.prog=true:=by kernel_rfl
theorem fieldsT:∃ f0 f1 f2:Field,Tryz.prog.underlying 70=some (.struct #[f0,f1,f2]) ∧
 (f0.offset=0∧Tryz.prog.cellsOf f0.type=1∧Tryz.prog.underlying f0.type=some (.int .i64))∧(f1.offset=1∧Tryz.prog.cellsOf f1.type=1∧Tryz.prog.underlying f1.type=some (.int .i64)) ∧
 (f2.offset=2∧Tryz.prog.cellsOf f2.type=1∧f2.type=33) :=
 ⟨_,_,_,Tryz.underlying70,⟨rfl,by kernel_rfl,by kernel_rfl⟩,⟨rfl,by kernel_rfl,by kernel_rfl⟩,⟨rfl,by kernel_rfl,rfl⟩⟩
theorem Qk3 (n:Nat):QI Tryz.prog 70 (Lay.tt n) n (fun _=>True) :=
 ⟨by kernel_rfl,fun {H enc w base spare held fuel cs x} hf h' hw=>by
  obtain⟨f0,f1,f2,e,h0,h1,h2⟩:=fieldsT
  obtain⟨t,a,c,hc,h3,h4⟩:=QjR (ti:=0) Tryz.underlying33 e (by kernel_rfl) h0 h1 h2 n fuel hf h'
  exact⟨t,⟨a,c,hc,h3,h4⟩,trivial⟩⟩
theorem QaO (n:Nat):QI Tryz.prog 3 Lay.int n (fun _=>True):=QI.int n Tryz.underlying3 (by kernel_rfl)
theorem Qka (n:Nat):QI Tryz.prog 2 Lay.int n (fun _=>True):=QI.int n Tryz.underlying2 (by kernel_rfl)
theorem QfD (n:Nat):QI Tryz.prog 33 (Qh n) n (fun l=>l.length<1152921504606846976):=QI.list Tryz.underlying33 (by kernel_rfl) (Qk3 n) (by show 0<3;decide) (by rw[show Tryz.prog.bytesOf 70=40 from by kernel_rfl];decide)
end Go.Proofs.YtacjnejckfhpoaeGreat
namespace Go.Proofs.YtacjnejckfhpoaeGreat
open Go.ChangeShapes Go.WideShapes Go.ChangeAt Go.RowKit
set_option linter.unusedVariables false
def Lay.listC {α:Type}(A:Lay α):Lay (List α) where
 size:=1
 In:=fun w O l cs=>(∃ a c,cs=[.slice a l.length c]∧l.length≤c)∧A.list.In w O l cs
 len:=fun h=>A.list.len h.2
 keep:=fun hb hl h=>⟨h.1,A.list.keep hb hl h.2⟩
theorem Qal.listC {P:Program}{t e:TypeId}{α:Type}{A:Lay α}{n:Nat}(h:P.underlying t=some (.slice e)) (hc:P.cellsOf t=1) (hA:Qal P e A n) (h0:0<A.size):Qal P t A.listC (n+1) :=
 ⟨hc,fun {H enc w base spare held fuel cs x} hf h'=>by
  obtain⟨l,hl⟩:=(Qal.list h hc hA h0).2 hf h'
  refine⟨l,?_,hl⟩
  obtain⟨a,c,e,_⟩:=hl
  refine⟨a,c,e,?_⟩
  rcases DataW.trod_slice h h' with ⟨e2,_⟩|⟨a2,len,cap,elems,rest,q,_,e2,_,_,hle,_⟩
  ·rw[e] at e2
   simp at e2
   simp[e2.2.1]
  ·rw[e] at e2
   simp at e2
   omega⟩
def Lay.Sub {α:Type}(A B:Lay α):Prop:=A.size=B.size∧∀ {w:World}{O:Nat→Prop}{x:α}{cs:List Value},A.In w O x cs→B.In w O x cs
theorem Lay.Sub.refl {α:Type}(A:Lay α):Lay.Sub A A:=⟨rfl,id⟩
theorem Lay.Sub.listC {α:Type}(A:Lay α):Lay.Sub A.listC A.list:=⟨rfl,fun h=>h.2⟩
theorem Lay.Sub.pair {α β:Type}{A A':Lay α}{B B':Lay β}(h:Lay.Sub A A') (k:Lay.Sub B B'):Lay.Sub (A.pair B) (A'.pair B') :=
 ⟨by show A.size+B.size=A'.size+B'.size;rw[h.1,k.1],fun ⟨c1,c2,e,h1,h2⟩=>⟨c1,c2,e,h.2 h1,k.2 h2⟩⟩
theorem Lay.Sub.list {α:Type}{A A':Lay α}(h:Lay.Sub A A'):Lay.Sub A.list A'.list :=
 ⟨rfl,fun ⟨a,c,e,k⟩=>⟨a,c,e,fun i x hx=>by
  obtain⟨g,o,ds,e1,e2,e3,e4,e5⟩:=k i x hx
  exact⟨g,o,ds,e1,e2,e3,by rw[← h.1];exact e4,h.2 e5⟩⟩⟩
structure Qcu (w:World) (lo:Nat) (v:Value){n:Nat}(l:List (TT n)) (xs:List Value):Prop where
 own:w.ownsRow lo 70 3 v l.length xs
 kids:∀ (i:Nat) (x:TT n),l[i]?=some x→∃ a c,xs[i*3]?=some (.int .i64 x.kind)∧xs[i*3+1]?=some (.int .i64 x.r)∧xs[i*3+2]?=some (.slice a x.len c)∧TIn w (But lo v) x a
theorem Qcu.nil (w:World) (lo:Nat){n:Nat}:Qcu w lo (.slice none 0 0) ([]:List (TT n)) [] :=
 ⟨⟨rfl,Or.inl ⟨rfl,rfl⟩⟩,fun i x h=>by simp at h⟩
theorem Qcu.lin {w:World}{lo:Nat}{v:Value}{n:Nat}{l:List (TT n)}{xs:List Value}(h:Qcu w lo v l xs):∃ a c,v=.slice a l.length c∧LIn w (Zm lo) l a:=by
 obtain⟨⟨h1,h2⟩,h3⟩:=h
 rcases h2 with ⟨rfl,h4⟩|⟨g,cap,cur,rfl,hg,hh,hn,hm,hs,ht⟩
 ·have:l=[]:=List.length_eq_zero_iff.1 h4
  subst this;exact⟨none,0,rfl,LIn.nil⟩
 ·refine⟨_,_,rfl,fun i x hx=>?_⟩
  obtain⟨a,c,q0,q1,q2,q3⟩:=h3 i x hx
  have hi:i<l.length:=(List.getElem?_eq_some_iff.1 hx).1
  have key:∀ j u,xs[j]?=some u→w.cell? ⟨g,j,none⟩=some u:=fun j u hj=>by
   rw[← ht,List.getElem?_take] at hj
   split at hj
   ·exact Qb hh j u (by rw[← Array.getElem?_toList];exact hj)
   ·cases hj
  refine⟨g,0,a,c,rfl,hg,?_,?_,?_,q3.mono (fun k hk _=>hk.1)⟩
  ·rw[Nat.zero_add];exact key _ _ q0
  ·rw[Nat.zero_add];exact key _ _ q1
  ·rw[Nat.zero_add];exact key _ _ q2
theorem Qcu.below {w w':World}{lo:Nat}{v:Value}{n:Nat}{l:List (TT n)}{xs:List Value}(h:Qcu w lo v l xs) (b:Below w.heap.size w w'):Qcu w' lo v l xs:=by
 obtain⟨⟨h1,h2⟩,h3⟩:=h
 refine⟨⟨h1,?_⟩,fun i x hx=>?_⟩
 ·rcases h2 with h4 | ⟨g,cap,cur,e,hg,hh,r⟩
  ·exact Or.inl h4
  ·exact Or.inr ⟨g,cap,cur,e,hg,(b.block g (lt_of_block hh)).trans hh,r⟩
 ·obtain⟨a,c,q0,q1,q2,q3⟩:=h3 i x hx
  exact⟨a,c,q0,q1,q2,q3.below b⟩
theorem Qcu.lo_le {w:World}{lo:Nat}{v:Value}{n:Nat}{l:List (TT n)}{xs:List Value}(h:Qcu w lo v l xs){g:Nat}(hg:v.ownBlock=some g):lo≤g∧g<w.heap.size:=by
 obtain⟨⟨h1,h2⟩,h3⟩:=h
 rcases h2 with ⟨rfl,h4⟩|⟨g',cap,cur,rfl,hg',hh,r⟩
 ·simp[Value.ownBlock] at hg
 ·simp[Value.ownBlock] at hg;subst hg;exact⟨hg',lt_of_block hh⟩
theorem Qcu.push {w w':World}{lo:Nat}{v:Value}{n:Nat}{l:List (TT n)}{xs:List Value}(h:Qcu w lo v l xs){x:TT n}{a:Option Addr}{c:Nat}(hx:TIn w (But lo v) x a)
 {g cap:Nat} (hg:w.grownBy w' v.ownBlock) (hat:v.ownBlock=some g∨g=w.heap.size)
 (ho:w'.ownsRow lo 70 3 (.slice (some ⟨g,0,none⟩) (l.length+1) cap) (l.length+1) (xs++[.int .i64 x.kind,.int .i64 x.r,.slice a x.len c])) :
 Qcu w' lo (.slice (some ⟨g,0,none⟩) (l.length+1) cap) (l++[x]) (xs++[.int .i64 x.kind,.int .i64 x.r,.slice a x.len c]):=by
 obtain⟨h1,h3⟩:=h
 have hxl:=h1.1
 have keep:∀ {y:TT n} {b:Option Addr},TIn w (But lo v) y b→TIn w' (But lo (.slice (some ⟨g,0,none⟩) (l.length+1) cap)) y b:=fun hy=>by
  refine hy.keep (fun k hk hl=>?_) (fun k hk hl=>⟨hk.1,?_⟩)
  ·exact hg.block k hl (fun e=>hk.2 e.symm)
  ·simp only[Value.ownBlock,ne_eq,Option.some.injEq]
   intro e;subst e;rcases hat with h' | h'
   ·exact hk.2 h'
   ·omega
 refine⟨by rw[List.length_append];exact ho,fun i y hy=>?_⟩
 rw[List.getElem?_append] at hy
 split at hy
 ·rename_i hi
  obtain⟨b,d,q0,q1,q2,q3⟩:=h3 i y hy
  refine⟨b,d,?_,?_,?_,keep q3⟩
  ·rw[List.getElem?_append_left (by omega)];exact q0
  ·rw[List.getElem?_append_left (by omega)];exact q1
  ·rw[List.getElem?_append_left (by omega)];exact q2
 ·rename_i hi
  have hi2:i=l.length:=by
   have:=(List.getElem?_eq_some_iff.1 hy).1
   simp at this
   omega
  subst hi2;simp at hy
  subst hy;refine⟨a,c,?_,?_,?_,keep hx⟩
  ·rw[List.getElem?_append_right (by omega),hxl,Nat.sub_self];rfl
  ·rw[List.getElem?_append_right (by omega),hxl,Nat.add_sub_cancel_left];rfl
  ·rw[List.getElem?_append_right (by omega),hxl,Nat.add_sub_cancel_left];rfl
theorem underTs:Tryz.prog.underlying 33=some (.slice 70):=by kernel_rfl
theorem infoT:(Tryz.prog.info? 70).map (fun i=>(i.zero,i.size,i.bytes))=some (some (.agg #[.int .i64 0,.int .i64 0,.slice none 0 0]),3,40):=by kernel_rfl
theorem infoT_parts:∃ i,Tryz.prog.info? 70=some i∧i.zero=some (.agg #[.int .i64 0,.int .i64 0,.slice none 0 0])∧i.size=3∧i.bytes=40:=by
 have h:=infoT
 cases hi:Tryz.prog.info? 70 with
 | none=>rw[hi] at h;cases h
 | some i=>rw[hi] at h;simp at h;exact⟨i,rfl,h.1,h.2.1,h.2.2⟩
theorem Qlp (w:World) (p q r:Value):∀ j u,[p,q,r][j]?=some u→(w.alloc (.cells #[p,q,r] 70)).cell? ((⟨w.heap.size,0,none⟩:Addr).add j)=some u:=by
 intro j u h;match j,h with
 | 0,h=>simp at h;subst h;exact Qb (Qu w _ _) 0 _ rfl
 | 1,h=>simp at h;subst h;exact Qb (Qu w _ _) 1 _ rfl
 | 2,h=>simp at h;subst h;exact Qb (Qu w _ _) 2 _ rfl
 | j+3,h=>simp at h
theorem QlY (k r:Int) (a:Option Addr) (l c:Nat):∀ u∈[Value.int .i64 k,Value.int .i64 r,Value.slice a l c],u.oneCell'=true:=by
 intro u h;simp at h
 rcases h with rfl | rfl | rfl<;>rfl
def Qlb {n:Nat}(w w':World) (t:TT n) (e:Ending):Prop:=∃ a' c',e=.returned (Tv t a' c')∧TIn w' (Zm w.heap.size) t a'∧Below w.heap.size w w'
def Qld {n:Nat}(w w':World) (l:List (TT n)) (e:Ending):Prop:=∃ a' c',e=.returned (.slice a' l.length c')∧LIn w' (Zm w.heap.size) l a'∧Below w.heap.size w w'
def QiY (n:Nat):Prop:=∀ (t:TT n) (a:Option Addr) (c:Nat) (w:World),TIn w All t a→t.count≤100000 →
 Calls Tryz.prog 76 #[Tv t a c] w fun e w'=>Qlb w w' t e
theorem QjC (n:Nat) (IH0:QiY n) (l:List (TT n)) (a:Option Addr) (c:Nat) (w:World) (hl0:LIn w All l a) (hlen:l.length≤100000) (hco0:∀ x∈l,x.count≤100000) :
 Calls Tryz.prog 37 #[.slice a l.length c] w fun e w'=>∃ a' c',e=.returned (.slice a' l.length c')∧(∃ xs,Qcu w' w.heap.size (.slice a' l.length c') l xs)∧Below w.heap.size w w':=by
 have IH:Hid (QiY n):=IH0;have hl:Hid (LIn w All l a):=hl0;have hco:Hid (∀ x∈l,x.count≤100000):=hco0;clear IH0 hl0 hco0;obtain⟨i0,hi,hz0,hz1,hz2⟩:=infoT_parts
 go_enter Tryz.func37,Tryz.ntmps37
 go_wp2_with fail
 go_loopw [3,4] (fun v i wr=>∃ q:Nat,q≤l.length∧i=.int .i64 q∧(∃ xs,Qcu wr w.heap.size v (l.take q) xs)∧Below w.heap.size w wr) (fun _ i _=>l.length - (intOf i).toNat)
 case atStart=>exact⟨0,Nat.zero_le _,rfl,⟨_,Qcu.nil _ _⟩,Below.refl _ _⟩
 case round =>
  obtain⟨q,hq,rfl,⟨xs,hr⟩,hb⟩:=hrel
  have R:Hid (Qcu wr w.heap.size u3 (l.take q) xs):=hr;have B:Hid (Below w.heap.size w wr):=hb;clear hr hb;by_cases hlt:q<l.length
  ·have hx:l[q]?=some l[q]:=List.getElem?_eq_getElem hlt;generalize l[q]=x at hx;obtain⟨g,o,a',c',rfl,_,d0,d1,d2,hk⟩:=LIn.at (hl.out.below B.out) hx
   have C:Hid (Calls Tryz.prog 76 #[Tv x a' c'] wr fun e w'=>Qlb wr w' x e) :=
    IH.out x a' c' _ hk (hco.out x (List.mem_of_getElem? hx))
   have T:Hid (l.take (q+1)=l.take q++[x]):=by show _=_;rw[List.take_add_one,hx];rfl
   have hlq:Hid ((l.take q).length=q):=by show _=_;simp;omega
   clear hk hx;simp only[Tv] at C
   have hk0:(0:Int)≤q:=by omega
   have hk1:(q:Int)<l.length:=by omega
   go_wp2_with fail
   refine C.out.mono ?_;rintro e w2 ⟨a2,c2,rfl,t2,b2⟩;simp only[Tv]
   have R2:=R.out.below b2;have hT2:TIn w2 (But w.heap.size u3) x a2:=t2.mono (fun k hk _=>⟨Nat.le_trans B.out.size hk,fun e=>by have:=(R.out.lo_le e).2;omega⟩);have hB2:Below w.heap.size w w2:=B.out.trans (b2.mono B.out.size);have hown:=R2.own;rw[hlq.out] at hown
   have PU:Hid (∀ g2 cap2 w9,w9.ownsRow w.heap.size 70 3 (.slice (some ⟨g2,0,none⟩) (q+1) cap2) (q+1) (xs++[.int .i64 x.kind,.int .i64 x.r,.slice a2 x.len c2])→(w2.alloc (.cells #[.int .i64 x.kind,.int .i64 x.r,.slice a2 x.len c2] 70)).grownBy w9 u3.ownBlock→(u3.ownBlock=some g2∨g2=w2.heap.size+1) →
    (∃ xs,Qcu w9 w.heap.size (.slice (some ⟨g2,0,none⟩) (q+1) cap2) (l.take (q+1)) xs)∧Below w.heap.size w w9):=by
    intro g2 cap2 w9 h1 h2 h3;have b3:Below w2.heap.size w2 (w2.alloc (.cells #[.int .i64 x.kind,.int .i64 x.r,.slice a2 x.len c2] 70)):=(Below.refl _ w2).alloc (Nat.le_refl _) _
    have:=(R2.below b3).push (x:=x) (a:=a2) (c:=c2) (cap:=cap2) (hT2.below b3) h2 (by simpa using h3) (by rw[hlq.out];exact h1)
    rw[hlq.out] at this
    refine⟨⟨_,by rw[T.out];exact this⟩,?_⟩
    exact(hB2.alloc hB2.size _).grown h2 (by simp;have:=hB2.size;omega) (fun k hk=>(R.out.lo_le hk).1)
   have hsz:=hB2.size;clear C d0 d1 d2 t2 b2 R2 hT2 hB2;generalize x.kind=kx at PU ⊢;generalize x.r=rx at PU ⊢;generalize x.len=lx at PU ⊢;go_wp2_with (at_builtin;refine wpList_append_lies _ rfl (.tmp 11) (.tmp 17) 33 rfl w.heap.size 70 i0 (.agg #[.int .i64 0,.int .i64 0,.slice none 0 0]) 3 40 underTs hi hz0 hz1 hz2 rfl (by decide) _ _ _ rfl (hown.alloc _) ⟨w2.heap.size,0,none⟩ 1 1 [.int .i64 kx,.int .i64 rx,.slice a2 lx c2] rfl rfl (Qlp _ _ _ _) (QlY _ _ _ _ _) (by decide) (by unfold maxLen;omega) (by omega) (by simp;omega) (w2.heap.size+1) (by simp) ?_)
   intro g2 cap2 w9 h1 hgrow hat hlt1;have U2:Hid _:=PU.out g2 cap2 w9 h1 hgrow hat;clear h1 hgrow hat hlt1 hown PU R;go_wp2
   go_roundw
   case rel=>exact⟨q+1,by omega,by go_num,U2.out.1,U2.out.2⟩
   case measure=>simp[intOf];omega
  ·have hk1:¬ (q:Int)<l.length:=by omega
   have htt:l.take q=l:=List.take_of_length_le (by omega);have hr:=R.out;rw[htt] at hr
   obtain⟨a2,c2,rfl,h2⟩:=hr.lin
   have L:Hid (Qcu wr w.heap.size (.slice a2 l.length c2) l xs):=hr;clear R h2 hr htt;go_wp2
   go_ret;exact⟨a2,c2,rfl,⟨xs,L.out⟩,B.out⟩
theorem Qgn (n:Nat) (IH0:QiY n) (l:List (TT n)) (a:Option Addr) (c:Nat) (w:World) (hl0:LIn w All l a) (hlen:l.length≤100000) (hco0:∀ x∈l,x.count≤100000) :
 Calls Tryz.prog 37 #[.slice a l.length c] w fun e w'=>Qld w w' l e:=by
 refine(QjC n IH0 l a c w hl0 hlen hco0).mono ?_
 rintro e w' ⟨a',c',rfl,⟨xs,hr⟩,hb⟩;obtain⟨a2,c2,e2,h2⟩:=hr.lin
 simp only[Value.slice.injEq,true_and] at e2
 obtain⟨rfl,rfl⟩:=e2
 exact⟨_,_,rfl,h2,hb⟩
structure Bx2 (w wr:World) (k r:Int) (a:Option Addr) (len c:Nat):Prop where
 bel:Below w.heap.size w wr
 box:wr.heap[w.heap.size]?=some (.cells #[.int .i64 k,.int .i64 r,.slice a len c] 70 (0,0))
 res:wr.heap[w.heap.size+1]?=some (.cells #[.int .i64 0,.int .i64 0,.slice none 0 0] 70 (0,0))
theorem Bx2.start (w:World) (k r:Int) (a:Option Addr) (len c:Nat):Bx2 w ((w.alloc (.cells #[.int .i64 k,.int .i64 r,.slice a len c] 70)).alloc (.cells #[.int .i64 0,.int .i64 0,.slice none 0 0] 70)) k r a len c :=
 ⟨((Below.refl _ w).alloc (Nat.le_refl _) _).alloc (by simp) _,(Below.heap_alloc _ _ _ (by simp)).trans (Qu w _ _),by have:=Qu (w.alloc (.cells #[.int .i64 k,.int .i64 r,.slice a len c] 70)) #[.int .i64 0,.int .i64 0,.slice none 0 0] 70;simpa using this⟩
theorem Bx2.below {w wr w':World}{k r:Int}{a:Option Addr}{len c:Nat}(h:Bx2 w wr k r a len c) (b:Below wr.heap.size wr w'):Bx2 w w' k r a len c :=
 ⟨h.bel.trans (b.mono h.bel.size),Qab h.box b,Qab h.res b⟩
theorem Bx2.stored {w wr:World}{k r:Int}{a:Option Addr}{len c:Nat}(h:Bx2 w wr k r a len c) (k' r':Int) (a':Option Addr) (len' c':Nat) :
 (((wr.setCell ⟨w.heap.size+1,0,none⟩ (.int .i64 k')).setCell ⟨w.heap.size+1,1,none⟩ (.int .i64 r')).setCell ⟨w.heap.size+1,2,none⟩ (.slice a' len' c')).heap[w.heap.size+1]?=some (.cells #[.int .i64 k',.int .i64 r',.slice a' len' c'] 70 (0,0)) ∧
 Below w.heap.size w (((wr.setCell ⟨w.heap.size+1,0,none⟩ (.int .i64 k')).setCell ⟨w.heap.size+1,1,none⟩ (.int .i64 r')).setCell ⟨w.heap.size+1,2,none⟩ (.slice a' len' c')):=by
 refine⟨?_,((h.bel.setCell (by simp) _).setCell (by simp) _).setCell (by simp) _⟩
 have h1:=Qk h.res 0 (.int .i64 k');have h2:=Qk h1 1 (.int .i64 r');have h3:=Qk h2 2 (.slice a' len' c');simpa using h3
theorem own_any:∀ n,QiY n:=by
 intro n
 induction n with
 | zero=>intro t;exact Empty.elim t
 | succ n ih =>
   intro t a c w ht hc;have hco:∀ x∈t.2.2,x.count≤100000:=fun x hx=>by have:=t.count_kid hx;omega
   have hlen:t.2.2.length≤100000:=by have:=t.len_lt_count;rw[t.len_eq] at this;omega
   have C:Hid (∀ wx,Below w.heap.size w wx→Calls Tryz.prog 37 #[.slice a t.2.2.length c] wx fun e w'=>Qld wx w' t.2.2 e) :=
    fun wx hb=>Qgn n ih t.2.2 a c wx (ht.below hb) hlen hco
   have P:Hid (∀ e wx w',Below w.heap.size w wx→(∃ a' c',e=.returned (.agg #[.int .i64 t.kind,.int .i64 t.r,.slice a' t.2.2.length c'])∧LIn w' (Zm wx.heap.size) t.2.2 a'∧Below w.heap.size w w')→Qlb w w' t e):=by
    rintro e wx w' hb ⟨a',c',rfl,h1,h2⟩;exact⟨a',c',rfl,h1.mono (fun k hk _=>Nat.le_trans hb.size hk),h2⟩
   simp only[Tv,TT.len_eq]
   generalize t.kind=k at P ⊢;generalize t.r=r at P ⊢;generalize hll:t.2.2=l at C P ⊢;clear hco hlen hc ht ih hll;go_enter Tryz.func76,Tryz.ntmps76
   go_wp2_with fail
   have X1:Hid (Bx2 w ((w.alloc (.cells #[.int .i64 k,.int .i64 r,.slice a l.length c] 70)).alloc (.cells #[.int .i64 0,.int .i64 0,.slice none 0 0] 70)) k r a l.length c):=Bx2.start w k r a l.length c;have hsz:w.heap.size+1<((w.alloc (.cells #[.int .i64 k,.int .i64 r,.slice a l.length c] 70)).alloc (.cells #[.int .i64 0,.int .i64 0,.slice none 0 0] 70)).heap.size:=by simp
   generalize (w.alloc (.cells #[.int .i64 k,.int .i64 r,.slice a l.length c] 70)).alloc (.cells #[.int .i64 0,.int .i64 0,.slice none 0 0] 70)=w1 at X1 hsz ⊢
   have C1:Hid (∀ m,Calls Tryz.prog 37 #[.slice a l.length c] (w1.drewN m) fun e w'=>Qld w1 w' l e∧Bx2 w w' k r a l.length c):=fun m =>
    (C.out (w1.drewN m) (Q1 X1.out.bel)).mono (fun e w' h=>by
     obtain⟨a',c',h1,h2,h3⟩:=h
     exact⟨⟨a',c',h1,h2,Qaq h3⟩,X1.out.below (Qaq h3)⟩)
   have e0:=Qb X1.out.box 0 _ rfl;have e1:=Qb X1.out.box 1 _ rfl;have e2:=Qb X1.out.box 2 _ rfl;clear C;go_region_with (go_at_call 37;refine(C1.out 1).mono ?_;rintro e w5 ⟨⟨a2,c2,rfl,l2,b2⟩,x5⟩;have f0:=Qb x5.box 0 _ rfl;have f1:=Qb x5.box 1 _ rfl;have g0:=Qb x5.res 0 _ rfl;have g1:=Qb x5.res 1 _ rfl;have g2:=Qb x5.res 2 _ rfl;have z0:=Qo x5.res 0;have z1:=Qo x5.res 1;have z2:=Qo x5.res 2;have X5:Hid _:=And.intro l2 x5;clear l2 b2 x5)
   all_goals
    have D:=X5.out.2.stored k r a2 l.length c2
    have D2:Qlb w (((w5.setCell ⟨w.heap.size+1,0,none⟩ (.int .i64 k)).setCell ⟨w.heap.size+1,1,none⟩ (.int .i64 r)).setCell ⟨w.heap.size+1,2,none⟩ (.slice a2 l.length c2)) t (.returned (.agg #[.int .i64 k,.int .i64 r,.slice a2 l.length c2])) :=
     P.out _ w1 _ X1.out.bel ⟨a2,c2,rfl,((X5.out.1.setCell (by simp;omega) _).setCell (by simp;omega) _).setCell (by simp;omega) _,D.2⟩
    have DD:Hid _:=D2;have x0:=Qb D.1 0 _ rfl;have x1:=Qb D.1 1 _ rfl;have x2:=Qb D.1 2 _ rfl;clear D D2 X5 e0 e1 e2 f0 f1 g0 g1 g2 z0 z1 z2 P C1;generalize ((w5.setCell ⟨w.heap.size+1,0,none⟩ (.int .i64 k)).setCell ⟨w.heap.size+1,1,none⟩ (.int .i64 r)).setCell ⟨w.heap.size+1,2,none⟩ (.slice a2 l.length c2)=w9 at DD x0 x1 x2 ⊢;go_wp2
    exact bodyPost_ret (v:=.agg #[.int .i64 k,.int .i64 r,.slice a2 l.length c2]) (by simp[results,Tryz.results76,go_sem,x0,x1,x2]) rfl DD.out
def QjJ (w:World) (b:Option Addr) (m:Nat) (nm:Nat→Int):Prop:=∀ i,i<m→∃ g o,b=some ⟨g,o,none⟩∧w.cell? ⟨g,o+i,none⟩=some (.int .i64 (nm i))
theorem QjJ.below {w w':World}{b:Option Addr}{m:Nat}{nm:Nat→Int}(h:QjJ w b m nm) (k:Below w.heap.size w w'):QjJ w' b m nm:=fun i hi=>by
 obtain⟨g,o,e,hc⟩:=h i hi
 exact⟨g,o,e,(k.cell (p:=⟨g,o+i,none⟩) (World.block_lt_of_cell? w ⟨g,o+i,none⟩ hc)).trans hc⟩
def QlL (o:Option Int) (e:Ending):Prop:=match o with
 | some v=>e=.returned (.tuple #[.int .i64 v,.bool true])
 | none=>e=.returned (.tuple #[.int .i64 0,.bool false])
theorem Qfe (k r:Int) (a:Option Addr) (len c:Nat) (b:Option Addr) (m d:Nat) (nm:Nat→Int) (w:World) (hto0:QjJ w b m nm) :
 Calls Tryz.prog 153 #[.agg #[.int .i64 k,.int .i64 r,.slice a len c],.slice b m d] w fun e w'=>QlL (Qa4 m nm k r) e∧Below w.heap.size w w':=by
 have hto:Hid (QjJ w b m nm):=hto0;clear hto0;by_cases hk:k=1
 ·subst hk;rw[show Qa4 m nm 1 r=some r by simp[Qa4]]
  go_enter Tryz.func153,Tryz.ntmps153
  go_wp2_with fail
  go_ret2;exact⟨rfl,(Below.refl _ w).alloc (Nat.le_refl _) _⟩
 ·have hk':(k==1)=false:=by simpa using hk
  rcases (show r<0∨(0≤r∧(m:Int)≤r)∨(0≤r∧r<m) by omega) with h1 | ⟨h1,h2⟩|⟨h1,h2⟩
  ·rw[show Qa4 m nm k r=none by unfold Qa4;rw[if_neg hk,if_pos (Or.inl h1)]]
   clear hk;go_enter Tryz.func153,Tryz.ntmps153
   go_wp2_with fail
   go_ret2;exact⟨rfl,(Below.refl _ w).alloc (Nat.le_refl _) _⟩
  ·rw[show Qa4 m nm k r=none by unfold Qa4;rw[if_neg hk,if_pos (Or.inr h2)]]
   clear hk;have h3:¬ r<0:=by omega
   go_enter Tryz.func153,Tryz.ntmps153
   go_wp2_with fail
   go_ret2;exact⟨rfl,(Below.refl _ w).alloc (Nat.le_refl _) _⟩
  ·obtain⟨j,rfl⟩:=Int.eq_ofNat_of_zero_le h1
   obtain⟨g,o,rfl,hc⟩:=hto.out j (by omega)
   have hg:g<w.heap.size:=World.block_lt_of_cell? w ⟨g,o+j,none⟩ hc;have h3:¬ (j:Int)<0:=by omega
   have h4:¬ (m:Int)≤j:=by omega
   by_cases hn:nm j<0
   ·rw[show Qa4 m nm k j=none by unfold Qa4;rw[if_neg hk,if_neg (by omega),if_pos (by simpa using hn)]]
    clear hk;generalize nm j=v at hc hn;go_enter Tryz.func153,Tryz.ntmps153
    go_wp2_with fail
    go_ret2;exact⟨rfl,(Below.refl _ w).alloc (Nat.le_refl _) _⟩
   ·rw[show Qa4 m nm k j=some (nm j) by unfold Qa4;rw[if_neg hk,if_neg (by omega),if_neg (by simpa using hn)];rfl]
    clear hk;generalize nm j=v at hc hn ⊢;go_enter Tryz.func153,Tryz.ntmps153
    go_wp2_with fail
    go_ret2;exact⟨rfl,(Below.refl _ w).alloc (Nat.le_refl _) _⟩
structure Qcp (w:World) (G len:Nat){n:Nat}(l:List (TT n)):Prop where
 row:∃ cur,w.heap[G]?=some (.cells cur 70 (0,0))∧cur.size=len*3∧∀ (i:Nat) (x:TT n),l[i]?=some x→∃ a c,cur[i*3]?=some (.int .i64 x.kind)∧cur[i*3+1]?=some (.int .i64 x.r)∧cur[i*3+2]?=some (.slice a x.len c)∧TIn w (Zm (G+1)) x a
theorem Qcp.below {w w':World}{G len n:Nat}{l:List (TT n)}(h:Qcp w G len l) (b:Below w.heap.size w w'):Qcp w' G len l:=by
 obtain⟨cur,h1,h2,h3⟩:=h.row
 refine⟨cur,(b.block G (lt_of_block h1)).trans h1,h2,fun i x hx=>?_⟩
 obtain⟨a,c,q0,q1,q2,q3⟩:=h3 i x hx
 exact⟨a,c,q0,q1,q2,q3.below b⟩
theorem Qcp.lt {w:World}{G len n:Nat}{l:List (TT n)}(h:Qcp w G len l):G<w.heap.size:=by
 obtain⟨cur,h1,h2,h3⟩:=h.row
 exact lt_of_block h1
theorem Qcp.frozen {w:World}{G len n:Nat}{l:List (TT n)}(h:Qcp w G len l) (i:Nat):w.frozen? ⟨G,i,none⟩=false:=by
 obtain⟨cur,h1,h2,h3⟩:=h.row
 exact Qo h1 i
theorem Qcp.has {w:World}{G len n:Nat}{l:List (TT n)}(h:Qcp w G len l) (i:Nat) (hi:i<len*3):∃ v,w.cell? ⟨G,i,none⟩=some v:=by
 obtain⟨cur,h1,h2,h3⟩:=h.row
 exact⟨cur[i]'(by omega),Qb h1 i _ (Array.getElem?_eq_getElem (by omega))⟩
theorem Qcp.lin {w:World}{G len n:Nat}{l:List (TT n)}(h:Qcp w G len l):LIn w (Zm G) l (some ⟨G,0,none⟩):=by
 obtain⟨cur,h1,h2,h3⟩:=h.row
 intro i x hx;obtain⟨a,c,q0,q1,q2,q3⟩:=h3 i x hx
 refine⟨G,0,a,c,rfl,Nat.le_refl _,?_,?_,?_,q3.mono (fun k hk _=>by omega)⟩
 ·rw[Nat.zero_add];exact Qb h1 _ _ q0
 ·rw[Nat.zero_add];exact Qb h1 _ _ q1
 ·rw[Nat.zero_add];exact Qb h1 _ _ q2
theorem Qcp.set {w:World}{G len n q:Nat}{l:List (TT n)}(h:Qcp w G len l) (hl:l.length=q) (hq:q<len){x:TT n}{a:Option Addr}{c:Nat}(hx:TIn w (Zm (G+1)) x a) :
 Qcp (((w.setCell ⟨G,q*3,none⟩ (.int .i64 x.kind)).setCell ⟨G,q*3+1,none⟩ (.int .i64 x.r)).setCell ⟨G,q*3+2,none⟩ (.slice a x.len c)) G len (l++[x]):=by
 obtain⟨cur,h1,h2,h3⟩:=h.row
 have k1:=Qk h1 (q*3) (.int .i64 x.kind);have k2:=Qk k1 (q*3+1) (.int .i64 x.r);have k3:=Qk k2 (q*3+2) (.slice a x.len c)
 have keep:∀ {y:TT n} {b:Option Addr},TIn w (Zm (G+1)) y b→TIn (((w.setCell ⟨G,q*3,none⟩ (.int .i64 x.kind)).setCell ⟨G,q*3+1,none⟩ (.int .i64 x.r)).setCell ⟨G,q*3+2,none⟩ (.slice a x.len c)) (Zm (G+1)) y b :=
  fun hy=>((hy.setCell (by simp) _).setCell (by simp) _).setCell (by simp) _
 refine⟨_,k3,by simp[h2],fun i y hy=>?_⟩
 rw[List.getElem?_append] at hy
 split at hy
 ·rename_i hi
  obtain⟨b,d,q0,q1,q2,q3⟩:=h3 i y hy
  refine⟨b,d,?_,?_,?_,keep q3⟩
  ·simp only[Array.getElem?_setIfInBounds]
   rw[if_neg (by omega),if_neg (by omega),if_neg (by omega)];exact q0
  ·simp only[Array.getElem?_setIfInBounds]
   rw[if_neg (by omega),if_neg (by omega),if_neg (by omega)];exact q1
  ·simp only[Array.getElem?_setIfInBounds]
   rw[if_neg (by omega),if_neg (by omega),if_neg (by omega)];exact q2
 ·rename_i hi
  have hi2:i=q:=by
   have:=(List.getElem?_eq_some_iff.1 hy).1
   simp at this
   omega
  subst hi2;simp[hl] at hy
  subst hy;refine⟨a,c,?_,?_,?_,keep hx⟩
  ·simp only[Array.getElem?_setIfInBounds,Array.size_setIfInBounds]
   rw[if_neg (by omega),if_neg (by omega),if_pos trivial,if_pos (by omega)]
  ·simp only[Array.getElem?_setIfInBounds,Array.size_setIfInBounds]
   rw[if_neg (by omega),if_pos trivial,if_pos (by omega)]
  ·simp only[Array.getElem?_setIfInBounds,Array.size_setIfInBounds]
   rw[if_pos trivial,if_pos (by omega)]
abbrev zeroT:Value:=.agg #[.int .i64 0,.int .i64 0,.slice none 0 0]
def Qf5 {n:Nat}(w w':World) (o:Option (TT n)) (e:Ending):Prop:=match o with
 | some u=>∃ a' c',e=.returned (.tuple #[Tv u a' c',.bool true])∧TIn w' (Zm w.heap.size) u a'∧Below w.heap.size w w'
 | none=>e=.returned (.tuple #[zeroT,.bool false])∧Below w.heap.size w w'
def QkW (f n:Nat):Prop:=∀ (t:TT n) (a:Option Addr) (c:Nat) (b:Option Addr) (m d:Nat) (nm:Nat→Int) (w:World),TIn w All t a→t.count≤2000→QjJ w b m nm →
 Calls Tryz.prog f #[Tv t a c,.slice b m d] w fun e w'=>Qf5 w w' (t.ren m nm) e
theorem Qia (w:World) (len:Nat) (h:len≤2000):(Instr.makeSlice 33 (.int .i64 len) (.int .i64 len)).run Tryz.prog w=.ok (.slice (some ⟨w.heap.size,0,none⟩) len len) (w.alloc (.cells (madeCells #[.int .i64 0,.int .i64 0,.slice none 0 0] (len*3)) 70)):=by
 obtain⟨i0,hi,hz0,hz1,hz2⟩:=infoT_parts
 have:=run_make (P:=Tryz.prog) w 33 70 i0 _ underTs hi hz0 .i64 .i64 len len (by omega) (by omega) (by rw[hz2];omega) (by omega)
 rw[hz1] at this
 exact this
structure RnX (w wr:World) (k r:Int) (a:Option Addr) (len c G:Nat){n:Nat}(l:List (TT n)):Prop where
 bx:Bx2 w wr k r a len c
 row:Qcp wr G len l
 hG:w.heap.size+1<G
section
variable {w wr w':World}{k r:Int}{a:Option Addr}{len c G n:Nat}{l:List (TT n)}
theorem RnX.start (h:Bx2 w wr k r a len c):RnX w (wr.alloc (.cells (madeCells #[.int .i64 0,.int .i64 0,.slice none 0 0] (len*3)) 70)) k r a len c wr.heap.size ([]:List (TT n)) :=
 ⟨h.below ((Below.refl _ wr).alloc (Nat.le_refl _) _),⟨_,Qu wr _ _,size_madeCells _ _,fun i x hx=>by simp at hx⟩,lt_of_block h.res⟩
theorem RnX.below (h:RnX w wr k r a len c G l) (b:Below wr.heap.size wr w'):RnX w w' k r a len c G l:=⟨h.bx.below b,h.row.below b,h.hG⟩
theorem Bx2.setG (h:Bx2 w wr k r a len c) (hG:w.heap.size+1<G) (i:Nat) (v:Value):Bx2 w (wr.setCell ⟨G,i,none⟩ v) k r a len c :=
 ⟨h.bel.setCell (by simp;omega) _,(Below.heap_setCell _ _ _ _ (by simp;omega)).trans h.box,(Below.heap_setCell _ _ _ _ (by simp;omega)).trans h.res⟩
theorem RnX.set (h:RnX w wr k r a len c G l){q:Nat}(hl:l.length=q) (hq:q<len){x:TT n}{a':Option Addr}{c':Nat}(hx:TIn wr (Zm (G+1)) x a') :
 RnX w (((wr.setCell ⟨G,q*3,none⟩ (.int .i64 x.kind)).setCell ⟨G,q*3+1,none⟩ (.int .i64 x.r)).setCell ⟨G,q*3+2,none⟩ (.slice a' x.len c')) k r a len c G (l++[x]) :=
 ⟨((h.bx.setG h.hG _ _).setG h.hG _ _).setG h.hG _ _,h.row.set hl hq hx,h.hG⟩
end
theorem Qc9 {m:Nat}{nm:Nat→Int}{n:Nat}{t:TT (n+1)}{r':Int}(h1:Qa4 m nm t.kind t.r=some r'){l':List (TT n)}(h2:QcY (TT.ren m nm) t.2.2=some l'):t.ren m nm=some (mkT t.kind r' l'):=by
 show (match Qa4 m nm t.1 t.2.1 with | none=>none | some r=>match QcY (TT.ren (n:=n) m nm) t.2.2 with | none=>none | some l=>some ((t.1,r,l):Int × Int × List (TT n)))=_;have h1':Qa4 m nm t.1 t.2.1=some r':=h1;rw[h1',h2]
 rfl
theorem QeX {m:Nat}{nm:Nat→Int}{n:Nat}{t:TT (n+1)}(h1:Qa4 m nm t.kind t.r=none):t.ren m nm=none:=by
 show (match Qa4 m nm t.1 t.2.1 with | none=>none | some r=>match QcY (TT.ren (n:=n) m nm) t.2.2 with | none=>none | some l=>some ((t.1,r,l):Int × Int × List (TT n)))=_;have h1':Qa4 m nm t.1 t.2.1=none:=h1;rw[h1']
 rfl
theorem Qez {m:Nat}{nm:Nat→Int}{n:Nat}{t:TT (n+1)}(h2:QcY (TT.ren m nm) t.2.2=none):t.ren m nm=none:=by
 show (match Qa4 m nm t.1 t.2.1 with | none=>none | some r=>match QcY (TT.ren (n:=n) m nm) t.2.2 with | none=>none | some l=>some ((t.1,r,l):Int × Int × List (TT n)))=_;rw[h2]
 cases Qa4 m nm t.1 t.2.1<;>rfl
theorem rename_any:∀ n,QkW 143 n:=by
 intro n
 induction n with
 | zero=>intro t;exact Empty.elim t
 | succ n ih =>
   intro t a c b m d nm w ht hct hto0;have IH:Hid (QkW 143 n):=ih;have hto:Hid (QjJ w b m nm):=hto0;have hT:Hid (LIn w All t.2.2 a):=ht.list;have hco:Hid (∀ x∈t.2.2,x.count≤2000):=fun x hx=>by have:=t.count_kid hx;omega
   have hlen:t.2.2.length≤2000:=by have:=t.len_lt_count;rw[t.len_eq] at this;omega
   have P0:Hid (Qa4 m nm t.kind t.r=none→t.ren m nm=none):=QeX;have P1:Hid (QcY (TT.ren m nm) t.2.2=none→t.ren m nm=none):=Qez;have P2:Hid (∀ r' l',Qa4 m nm t.kind t.r=some r'→QcY (TT.ren m nm) t.2.2=some l'→t.ren m nm=some (mkT t.kind r' l')):=fun r' l' h1 h2=>Qc9 h1 h2;generalize t.ren m nm=res at P0 P1 P2 ⊢;simp only[Tv,TT.len_eq]
   generalize t.2.2=l at hT hco hlen P1 P2 ⊢;generalize t.kind=k at P0 P2 ⊢;generalize t.r=r at P0 P2 ⊢;clear ht hct hto0 ih t;go_enter Tryz.func143,Tryz.ntmps143
   go_wp2_with fail
   have X1:Hid (Bx2 w ((w.alloc (.cells #[.int .i64 k,.int .i64 r,.slice a l.length c] 70)).alloc (.cells #[.int .i64 0,.int .i64 0,.slice none 0 0] 70)) k r a l.length c):=Bx2.start w k r a l.length c;generalize (w.alloc (.cells #[.int .i64 k,.int .i64 r,.slice a l.length c] 70)).alloc (.cells #[.int .i64 0,.int .i64 0,.slice none 0 0] 70)=w1 at X1 ⊢;refine(Qfe k r a l.length c b m d nm w1 (hto.out.below X1.out.bel)).mono ?_
   rintro e w2 ⟨hr,b2⟩;have X2:Hid (Bx2 w w2 k r a l.length c):=X1.out.below b2;clear X1 b2;have e2:w2.cell? ⟨w.heap.size,2,none⟩=some (.slice a l.length c):=Qb X2.out.box 2 _ rfl
   cases hrr:Qa4 m nm k r with
   | none =>
     rw[hrr] at hr
     obtain rfl:e=_:=hr;have hres:res=none:=P0.out hrr;subst hres;have D:=X2.out.stored 0 0 none 0 0;have DD:Hid (Below w.heap.size w _):=D.2;have g0:=Qb X2.out.res 0 _ rfl;have g1:=Qb X2.out.res 1 _ rfl;have g2:=Qb X2.out.res 2 _ rfl;have z0:=Qo X2.out.res 0;have z1:=Qo X2.out.res 1;have z2:=Qo X2.out.res 2;have x0:=Qb D.1 0 _ rfl;have x1:=Qb D.1 1 _ rfl;have x2:=Qb D.1 2 _ rfl;clear D hrr P0 P1 P2;go_wp2_with fail
     exact bodyPost_ret (v:=.tuple #[zeroT,.bool false]) (by simp[results,Tryz.results143,go_sem,x0,x1,x2]) rfl ⟨rfl,DD.out⟩
   | some r' =>
     rw[hrr] at hr
     obtain rfl:e=_:=hr;have HR:Hid (Qa4 m nm k r=some r'):=hrr;clear hrr;have hmk:=Qia w2 l.length hlen;have hsz:w.heap.size<w2.heap.size:=lt_of_block X2.out.box;go_wp2_with fail
     have Y0:Hid (RnX w (w2.alloc (.cells (madeCells #[.int .i64 0,.int .i64 0,.slice none 0 0] (l.length*3)) 70)) k r a l.length c w2.heap.size ([]:List (TT n))):=RnX.start X2.out;generalize w2.alloc (.cells (madeCells #[.int .i64 0,.int .i64 0,.slice none 0 0] (l.length*3)) 70)=w3 at Y0 ⊢;generalize w2.heap.size=G at Y0 ⊢;clear hmk e2 X2 hsz;go_loopw [27] (fun i wr=>∃ q:Nat,q≤l.length∧i=.int .i64 q∧∃ l':List (TT n),l'.length=q∧(∀ (j:Nat) x,j<q→l[j]?=some x→x.ren m nm=l'[j]?)∧RnX w wr k r a l.length c G l') (fun i _=>l.length - (intOf i).toNat)
     case atStart=>exact⟨0,Nat.zero_le _,rfl,[],rfl,fun j x hj=>by omega,Y0.out⟩
     case round =>
      clear Y0;obtain⟨q,hq,rfl,l',hl',hall,hY⟩:=hrel
      have A:Hid (l'.length=q∧∀ (j:Nat) x,j<q→l[j]?=some x→x.ren m nm=l'[j]?):=⟨hl',hall⟩;have Y:Hid (RnX w wr k r a l.length c G l'):=hY;clear hl' hall hY;by_cases hlt:q<l.length
      ·have hx:l[q]?=some l[q]:=List.getElem?_eq_getElem hlt;generalize l[q]=x at hx;obtain⟨g,o,a',c',rfl,_,d0,d1,d2,hk⟩:=LIn.at (hT.out.below Y.out.bx.bel) hx
       have hg:g<wr.heap.size:=World.block_lt_of_cell? wr ⟨g,o+q*3,none⟩ d0;have hx':Hid (l[q]?=some x):=hx
       have C:Hid (∀ wx,Below wr.heap.size wr wx→Calls Tryz.prog 143 #[Tv x a' c',.slice b m d] wx fun e w'=>Qf5 wx w' (x.ren m nm) e) :=
        fun wx hb=>IH.out x a' c' b m d nm wx (hk.below hb) (hco.out x (List.mem_of_getElem? hx)) ((hto.out.below Y.out.bx.bel).below hb)
       clear hk hx;simp only[Tv] at C
       generalize x.kind=kx at C d0;generalize x.r=rx at C d1;generalize x.len=lx at C d2;have hk0:(0:Int)≤q:=by omega
       have hk1:(q:Int)<l.length:=by omega
       have hk2:(q:Int)<2000:=by omega
       go_wp2_with fail
       have B1:Below wr.heap.size wr (wr.alloc (.cells #[.int .i64 kx,.int .i64 rx,.slice a' lx c'] 70)):=(Below.refl _ wr).alloc (Nat.le_refl _) _;refine(C.out _ B1).mono ?_
       rintro e w4 h4;clear C d0 d1 d2
       cases hxr:x.ren m nm with
       | none =>
         rw[hxr] at h4
         obtain⟨rfl,b4⟩:=h4
         have hres:res=none:=P1.out (QeO hx'.out hxr);subst hres;have Y4:=(Y.out.below B1).below b4;have hq3:q*3+2<l.length*3:=by omega
         obtain⟨v0,r0⟩:=Y4.row.has (q*3) (by omega)
         obtain⟨v1,r1⟩:=Y4.row.has (q*3+1) (by omega)
         obtain⟨v2,r2⟩:=Y4.row.has (q*3+2) (by omega)
         have z0:=Y4.row.frozen (q*3);have z1:=Y4.row.frozen (q*3+1);have z2:=Y4.row.frozen (q*3+2);have X5:=((Y4.bx.setG Y4.hG (q*3) (.int .i64 0)).setG Y4.hG (q*3+1) (.int .i64 0)).setG Y4.hG (q*3+2) (.slice none 0 0);have D:=X5.stored 0 0 none 0 0;have DD:Hid (Below w.heap.size w _):=D.2;have g0:=Qb Y4.bx.res 0 _ rfl;have g1:=Qb Y4.bx.res 1 _ rfl;have g2:=Qb Y4.bx.res 2 _ rfl;have y0:=Qo Y4.bx.res 0;have y1:=Qo Y4.bx.res 1;have y2:=Qo Y4.bx.res 2;have x0:=Qb D.1 0 _ rfl;have x1:=Qb D.1 1 _ rfl;have x2:=Qb D.1 2 _ rfl;have hne:¬ w.heap.size+1=G:=by have:=Y4.hG;omega
         have hne':¬ G=w.heap.size+1:=by have:=Y4.hG;omega
         clear D X5 Y4 b4 B1 hxr A Y P0 P1 P2 hq3;go_wp2_with fail
         exact bodyPost_ret (v:=.tuple #[zeroT,.bool false]) (by simp[results,Tryz.results143,go_sem,x0,x1,x2]) rfl ⟨rfl,DD.out⟩
       | some u =>
         rw[hxr] at h4
         obtain⟨a4,c4,rfl,t4,b4⟩:=h4
         simp only[Tv]
         have Y4:=(Y.out.below B1).below b4;have hq3:q*3+2<l.length*3:=by omega
         obtain⟨v0,r0⟩:=Y4.row.has (q*3) (by omega)
         obtain⟨v1,r1⟩:=Y4.row.has (q*3+1) (by omega)
         obtain⟨v2,r2⟩:=Y4.row.has (q*3+2) (by omega)
         have z0:=Y4.row.frozen (q*3);have z1:=Y4.row.frozen (q*3+1);have z2:=Y4.row.frozen (q*3+2);have hGl:=Y.out.row.lt;have Y5:=Y4.set A.out.1 hlt (x:=u) (a':=a4) (c':=c4) (t4.mono (fun k hk _=>by have:=B1.size;simp at hk;omega))
         have Z:Hid (∃ l':List (TT n),l'.length=q+1∧(∀ (j:Nat) x,j<q+1→l[j]?=some x→x.ren m nm=l'[j]?)∧RnX w (((w4.setCell ⟨G,q*3,none⟩ (.int .i64 u.kind)).setCell ⟨G,q*3+1,none⟩ (.int .i64 u.r)).setCell ⟨G,q*3+2,none⟩ (.slice a4 u.len c4)) k r (some ⟨g,o,none⟩) l.length c G l'):=by
          refine⟨l'++[u],by simp[A.out.1],fun j y hj hy=>?_,Y5⟩
          by_cases e:j=q
          ·subst e;rw[hx'.out] at hy
           cases hy
           rw[hxr,List.getElem?_append_right (by have:=A.out.1;omega),A.out.1,Nat.sub_self]
           rfl
          ·rw[List.getElem?_append_left (by have:=A.out.1;omega)]
           exact A.out.2 j y (by omega) hy
         clear Y5 Y4 b4 B1 hxr A Y P0 P1 hq3 t4 hx' hGl;generalize u.kind=ku at Z ⊢;generalize u.r=ru at Z ⊢;generalize u.len=lu at Z ⊢;go_wp2
         go_roundw
         case rel=>exact⟨q+1,by omega,by go_num,Z.out⟩
         case measure=>simp[intOf];omega
      ·have hk1:¬ (q:Int)<l.length:=by omega
       have hl'l:l'.length=l.length:=by have:=A.out.1;omega
       have hres:res=some (mkT k r' l'):=P2.out r' l' HR.out (QbI.2 ⟨hl'l,fun i x hx=>A.out.2 i x (by have:=(List.getElem?_eq_some_iff.1 hx).1;omega) hx⟩);subst hres;have e0:wr.cell? ⟨w.heap.size,0,none⟩=some (.int .i64 k):=Qb Y.out.bx.box 0 _ rfl;have g0:=Qb Y.out.bx.res 0 _ rfl;have g1:=Qb Y.out.bx.res 1 _ rfl;have g2:=Qb Y.out.bx.res 2 _ rfl;have y0:=Qo Y.out.bx.res 0;have y1:=Qo Y.out.bx.res 1;have y2:=Qo Y.out.bx.res 2;have D:=Y.out.bx.stored k r' (some ⟨G,0,none⟩) l.length l.length;have x0:=Qb D.1 0 _ rfl;have x1:=Qb D.1 1 _ rfl;have x2:=Qb D.1 2 _ rfl;have hGb:=Y.out.hG
       have O:Hid (Qf5 w (((wr.setCell ⟨w.heap.size+1,0,none⟩ (.int .i64 k)).setCell ⟨w.heap.size+1,1,none⟩ (.int .i64 r')).setCell ⟨w.heap.size+1,2,none⟩ (.slice (some ⟨G,0,none⟩) l.length l.length)) (some (mkT k r' l')) (.returned (.tuple #[.agg #[.int .i64 k,.int .i64 r',.slice (some ⟨G,0,none⟩) l.length l.length],.bool true]))):=by
        refine⟨some ⟨G,0,none⟩,l.length,?_,?_,D.2⟩
        ·show _=Ending.returned (.tuple #[.agg #[.int .i64 k,.int .i64 r',.slice (some ⟨G,0,none⟩) l'.length l.length],.bool true]);rw[hl'l]
        ·have:=((Y.out.row.lin.setCell (p:=⟨w.heap.size+1,0,none⟩) (by simp;omega) (.int .i64 k)).setCell (p:=⟨w.heap.size+1,1,none⟩) (by simp;omega) (.int .i64 r')).setCell (p:=⟨w.heap.size+1,2,none⟩) (by simp;omega) (.slice (some ⟨G,0,none⟩) l.length l.length)
         exact(LIn.tree this).mono (fun k hk _=>by omega)
       clear D A Y P0 P1 P2 hl'l;go_wp2_with fail
       exact bodyPost_ret (v:=.tuple #[.agg #[.int .i64 k,.int .i64 r',.slice (some ⟨G,0,none⟩) l.length l.length],.bool true]) (by simp[results,Tryz.results143,go_sem,x0,x1,x2]) rfl O.out
structure RdX (w wr:World) (k r:Int) (a:Option Addr) (len c:Nat) (r':Int) (v:Value){n:Nat}(l:List (TT n)) (xs:List Value):Prop where
 bx:Bx2 w wr k r a len c
 u:wr.heap[w.heap.size+2]?=some (.cells #[.int .i64 k,.int .i64 r',v] 70 (0,0))
 row:Qcu wr (w.heap.size+3) v l xs
section
variable {w wr w':World}{k r r':Int}{a:Option Addr}{len c n:Nat}{v:Value}{l:List (TT n)}{xs:List Value}
theorem RdX.start (w:World) (k r:Int) (a:Option Addr) (len c:Nat) (r':Int):RdX w (((w.alloc (.cells #[.int .i64 k,.int .i64 r,.slice a len c] 70)).alloc (.cells #[.int .i64 0,.int .i64 0,.slice none 0 0] 70)).alloc (.cells #[.int .i64 k,.int .i64 r',.slice none 0 0] 70)) k r a len c r' (.slice none 0 0) ([]:List (TT n)) [] :=
 ⟨(Bx2.start w k r a len c).below ((Below.refl _ _).alloc (Nat.le_refl _) _),by have:=Qu ((w.alloc (.cells #[.int .i64 k,.int .i64 r,.slice a len c] 70)).alloc (.cells #[.int .i64 0,.int .i64 0,.slice none 0 0] 70)) #[.int .i64 k,.int .i64 r',.slice none 0 0] 70;simpa using this,Qcu.nil _ _⟩
theorem RdX.below (h:RdX w wr k r a len c r' v l xs) (b:Below wr.heap.size wr w'):RdX w w' k r a len c r' v l xs:=⟨h.bx.below b,Qab h.u b,h.row.below b⟩
theorem Qcu.setOther (h:Qcu w' (w.heap.size+3) v l xs) (i:Nat) (y:Value):Qcu (w'.setCell ⟨w.heap.size+2,i,none⟩ y) (w.heap.size+3) v l xs:=by
 obtain⟨⟨h1,h2⟩,h3⟩:=h
 refine⟨⟨h1,?_⟩,fun i x hx=>?_⟩
 ·rcases h2 with h4 | ⟨g,cap,cur,e,hg,hh,r⟩
  ·exact Or.inl h4
  ·exact Or.inr ⟨g,cap,cur,e,hg,(Below.heap_setCell _ _ _ _ (by simp;omega)).trans hh,r⟩
 ·obtain⟨a,c,q0,q1,q2,q3⟩:=h3 i x hx
  exact⟨a,c,q0,q1,q2,q3.setCell (fun hk=>by have:=hk.1;simp at this) _⟩
theorem RdX.push (h:RdX w wr k r a len c r' v l xs){x:TT n}{a':Option Addr}{c':Nat}(hx:TIn wr (But (w.heap.size+3) v) x a')
 {g cap:Nat} (hg:wr.grownBy w' v.ownBlock) (hat:v.ownBlock=some g∨g=wr.heap.size)
 (ho:w'.ownsRow (w.heap.size+3) 70 3 (.slice (some ⟨g,0,none⟩) (l.length+1) cap) (l.length+1) (xs++[.int .i64 x.kind,.int .i64 x.r,.slice a' x.len c'])) :
 w'.heap[w.heap.size+2]?=some (.cells #[.int .i64 k,.int .i64 r',v] 70 (0,0)) ∧
 RdX w (w'.setCell ⟨w.heap.size+2,2,none⟩ (.slice (some ⟨g,0,none⟩) (l.length+1) cap)) k r a len c r' (.slice (some ⟨g,0,none⟩) (l.length+1) cap) (l++[x]) (xs++[.int .i64 x.kind,.int .i64 x.r,.slice a' x.len c']):=by
 have kp:∀ i,i<w.heap.size+3→i<wr.heap.size→w'.heap[i]?=wr.heap[i]?:=fun i hi hl=>hg.block i hl (fun e=>by have:=(h.row.lo_le e.symm).1;omega);have u':=(kp (w.heap.size+2) (by omega) (lt_of_block h.u)).trans h.u;have hb':Below w.heap.size w w':=h.bx.bel.grown hg h.bx.bel.size (fun i e=>by have:=(h.row.lo_le e).1;omega);refine⟨u',⟨⟨hb'.setCell (by simp) _,?_,?_⟩,?_,Qcu.setOther (h.row.push hx hg hat ho) 2 _⟩⟩
 ·exact(Below.heap_setCell _ _ _ _ (by simp)).trans ((kp _ (by omega) (lt_of_block h.bx.box)).trans h.bx.box)
 ·exact(Below.heap_setCell _ _ _ _ (by simp)).trans ((kp _ (by omega) (lt_of_block h.bx.res)).trans h.bx.res)
 ·have:=Qk u' 2 (.slice (some ⟨g,0,none⟩) (l.length+1) cap)
  simpa using this
end
def IV (w:World) (l:List Int) (v:Value):Prop:=∃ a c,v=.slice a l.length c∧intsL.In w (fun _=>True) l [.slice a l.length c]
theorem IV.below {w w':World}{l:List Int}{v:Value}(h:IV w l v) (k:Below w.heap.size w w'):IV w' l v:=by
 obtain⟨a,c,e,h⟩:=h
 exact⟨a,c,e,Lay.below h k⟩
end Go.Proofs.YtacjnejckfhpoaeGreat
namespace Go.Proofs.YtacjnejckfhpoaeGreat
open Go.ChangeShapes Go.WideShapes Go.ChangeAt Go.RowKit
set_option linter.unusedSimpArgs false
set_option linter.unusedVariables false
abbrev toV (x:MTo) (rg ag:Option Addr) (rc ac:Nat):Value:=.agg #[.int .i64 x.block,.slice rg x.regs.length rc,.slice ag x.args.length ac]
theorem underBk:∃ fs,Tryz.prog.underlying 60=some (.struct fs):=⟨_,Tryz.underlying60⟩
theorem sizeBk:(Tryz.prog.info? 60).map (·.size)=some 12:=by kernel_rfl
theorem Qbf {w:World}{Q:Nat→Prop}{m:List (Qe 6)}{p:Option Addr}{n c:Nat}(h:(Zc 6).list.In w Q m [.slice p n c]){k:Nat}{g:Qe 6}(hg:m[k]?=some g) :
 ∃ mg mo a1 c1 es,p=some ⟨mg,mo,none⟩∧w.rangeAt mg (mo+k*12) (.int .i64 g.regs::.slice a1 g.params.length c1::es)∧es.length=10∧(Qh 6).In w Q g.params [.slice a1 g.params.length c1]∧∀ v∈es,v.oneCell'=true:=by
 obtain⟨mg,mo,ds,e1,e2,e3,hc,hd⟩:=Lay.list_at h hg
 obtain⟨a1,c1,a2,c2,es,rfl,h1,h2,h3,h4⟩:=QbY hd
 obtain⟨d1,d2,ae,ce,rfl,t1,t2,h5,h6⟩:=Qf2 h3
 obtain⟨u1,u2,u3,u4,rfl,-,-,-⟩:=QfF t1
 obtain⟨u5,u6,u7,u8,rfl,-,-,-⟩:=QfF t2
 have key:∀ cs,cs.length=12→(∀ v∈cs,v.oneCell'=true)→(∀ j,j<12→w.cell? ⟨mg,mo+k*12+j,none⟩=cs[j]?)→∀ x y es,cs=x::y::es→w.rangeAt mg (mo+k*12) (x::y::es)∧es.length=10∧∀ v∈es,v.oneCell'=true:=by
  intro cs hl ho hc x y es e;subst e;refine⟨fun j v hj=>?_,by simpa using hl,fun v hv=>ho v (by simp[hv])⟩
  have hjl:=(List.getElem?_eq_some_iff.1 hj).1;rw[hc j (by omega),hj]
 obtain⟨q1,q2,q3⟩:=key _ rfl (fun v hv=>by
  simp only[List.mem_cons,List.cons_append,List.nil_append,List.not_mem_nil,or_false] at hv
  rcases hv with rfl | rfl | rfl | rfl | rfl | rfl | rfl | rfl | rfl | rfl | rfl | rfl<;>rfl) hc _ _ _ rfl
 exact⟨mg,mo,a1,c1,_,e1,q1,q2,h1,q3⟩
theorem ZX {w w':World}{b o:Nat}{cs:List Value}(h:w.rangeAt b o cs) (k:Below w.heap.size w w'):w'.rangeAt b o cs:=fun j v hj=>QY (h j v hj) k
theorem QC {p:Prop}(h:p):Hid p:=h
theorem QkD {B:Nat}{a w:World}(h:Below B a w) (n:Nat):Below B a (w.drewN n):=⟨h.os,h.tape,h.output,h.size,h.block⟩
structure FbS (w wx:World) (R:Nat) (l:List (Nat × Array Value × TypeId)):Prop where
 bel:Below w.heap.size w wx
 ge:w.heap.size≤R
 r:Blk wx R #[.int .i64 0,.int .i64 0] 30
 box:∀ (i:Nat) b,l[i]?=some b→Blk wx b.1 b.2.1 b.2.2
section
variable {w wx w':World}{R:Nat}{l:List (Nat × Array Value × TypeId)}
theorem FbS.below (h:FbS w wx R l) (k:Below wx.heap.size wx w'):FbS w w' R l :=
 ⟨h.bel.trans (k.mono h.bel.size),h.ge,h.r.below k,fun i b hb=>(h.box i b hb).below k⟩
theorem FbS.add (h:FbS w wx R l){B:Nat}{c:Array Value}{t:TypeId}(hb:Blk wx B c t):FbS w wx R ((B,c,t)::l) :=
 ⟨h.bel,h.ge,h.r,fun i b hi=>by
  cases i with
  | zero=>cases hi;exact hb
  | succ i=>exact h.box i b hi⟩
theorem FbS.new (h:FbS w wx R l) (c:Array Value) (t:TypeId):FbS w (wx.alloc (.cells c t)) R ((wx.heap.size,c,t)::l):=(h.below (QQ _ _)).add (Blk.new _ _ _)
theorem FbS.start (w:World) (c:Array Value) (t:TypeId):FbS w ((w.alloc (.cells c t)).alloc (.cells #[.int .i64 0,.int .i64 0] 30)) (w.heap.size+1) [(w.heap.size,c,t)] :=
 FbS.add ⟨(QQ w _).trans ((QQ _ _).mono (QQ w _).size),by omega,Blk.new2 ..,fun i b hi=>by simp at hi⟩ (Blk.new1 ..)
theorem FbS.cells (h:FbS w wx R l):wx.cell? ⟨R,0,none⟩=some (.int .i64 0)∧wx.cell? ⟨R,1,none⟩=some (.int .i64 0)∧wx.frozen? ⟨R,0,none⟩=false∧wx.frozen? ⟨R,1,none⟩=false :=
 ⟨Qb h.r 0 _ rfl,Qb h.r 1 _ rfl,Qo h.r 0,Qo h.r 1⟩
theorem FbS.fin (h:FbS w wx R l) (c a:Int):Blk ((wx.setCell ⟨R,0,none⟩ (.int .i64 c)).setCell ⟨R,1,none⟩ (.int .i64 a)) R #[.int .i64 c,.int .i64 a] 30∧Below w.heap.size w ((wx.setCell ⟨R,0,none⟩ (.int .i64 c)).setCell ⟨R,1,none⟩ (.int .i64 a)) :=
 ⟨by have:=Qk (Qk h.r 0 (.int .i64 c)) 1 (.int .i64 a);simpa using this,(h.bel.setCell (p:=⟨R,0,none⟩) h.ge _).setCell (p:=⟨R,1,none⟩) h.ge _⟩
structure Qlc (wx:World) (cs:List Value):Prop where
 size:(Tryz.prog.info? 60).map (·.size)=some cs.length
 size2:(Tryz.prog.info? 60).map (·.size)=some cs.toArray.size
 there:(wx.alloc (.cells #[.int .i64 0,.slice none 0 0,.slice none 0 0,.int .i64 0,.int .i64 0,.int .i64 0,.slice none 0 0,.slice none 0 0,.int .i64 0,.slice none 0 0,.slice none 0 0,.slice none 0 0] 60)).there wx.heap.size 0 cs.toArray.size
 blk:Blk ((wx.alloc (.cells #[.int .i64 0,.slice none 0 0,.slice none 0 0,.int .i64 0,.int .i64 0,.int .i64 0,.slice none 0 0,.slice none 0 0,.int .i64 0,.slice none 0 0,.slice none 0 0,.slice none 0 0] 60)).setCells wx.heap.size 0 cs) wx.heap.size cs.toArray 60
 bel:Below wx.heap.size wx ((wx.alloc (.cells #[.int .i64 0,.slice none 0 0,.slice none 0 0,.int .i64 0,.int .i64 0,.int .i64 0,.slice none 0 0,.slice none 0 0,.int .i64 0,.slice none 0 0,.slice none 0 0,.slice none 0 0] 60)).setCells wx.heap.size 0 cs)
theorem Qlc.of (wx:World){cs:List Value}(hl:cs.length=12):Qlc wx cs:=by
 have hB:=Qu wx #[.int .i64 0,.slice none 0 0,.slice none 0 0,.int .i64 0,.int .i64 0,.int .i64 0,.slice none 0 0,.slice none 0 0,.int .i64 0,.slice none 0 0,.slice none 0 0,.slice none 0 0] 60;refine⟨by rw[hl];exact pSizeB,by rw[List.size_toArray,hl];exact pSizeB,fun j hj=>?_,?_,?_⟩
 ·rw[List.size_toArray,hl] at hj
  rw[Nat.zero_add]
  refine⟨?_,Qo hB j⟩
  rw[Qb hB j ((#[.int .i64 0,.slice none 0 0,.slice none 0 0,.int .i64 0,.int .i64 0,.int .i64 0,.slice none 0 0,.slice none 0 0,.int .i64 0,.slice none 0 0,.slice none 0 0,.slice none 0 0]:Array Value)[j]'hj) (by simp)];rfl
 ·have h0:Blk (wx.alloc (.cells #[.int .i64 0,.slice none 0 0,.slice none 0 0,.int .i64 0,.int .i64 0,.int .i64 0,.slice none 0 0,.slice none 0 0,.int .i64 0,.slice none 0 0,.slice none 0 0,.slice none 0 0] 60)) wx.heap.size ([]++(#[.int .i64 0,.slice none 0 0,.slice none 0 0,.int .i64 0,.int .i64 0,.int .i64 0,.slice none 0 0,.slice none 0 0,.int .i64 0,.slice none 0 0,.slice none 0 0,.slice none 0 0]:Array Value).toList).toArray 60:=hB;exact Blk.sets cs [] (#[.int .i64 0,.slice none 0 0,.slice none 0 0,.int .i64 0,.int .i64 0,.int .i64 0,.slice none 0 0,.slice none 0 0,.int .i64 0,.slice none 0 0,.slice none 0 0,.slice none 0 0]:Array Value).toList _ (by rw[hl];rfl) h0
 ·have:=Zj.setCells (O:=fun k=>k=wx.heap.size) (O':=fun k=>k=wx.heap.size) (b:=wx.heap.size) rfl cs 0 _ (Zj.refl _ (wx.alloc (.cells #[.int .i64 0,.slice none 0 0,.slice none 0 0,.int .i64 0,.int .i64 0,.int .i64 0,.slice none 0 0,.slice none 0 0,.int .i64 0,.slice none 0 0,.slice none 0 0,.slice none 0 0] 60)))
  exact(QQ wx _).trans (this.below (by simp) (fun k hk=>by omega))
end
theorem Qaa {f:Nat}{w:World}(h:f<1000000):Rd Tryz.prog 48 #[.int .i64 (f:Int)] w (.int .i64 (10000*(f:Int)+9999)):=by
 unfold Rd;go_enter Tryz.func48,Tryz.ntmps48
 go_wp2
 go_ret;refine⟨?_,Below.refl _ _⟩
 first | rfl | (simp only[wrap64];congr 2;omega)
theorem ZT {f b:Nat}{w:World}(h:f<1000000∧b<1000000):Rd Tryz.prog 21 #[.int .i64 (f:Int),.int .i64 (b:Int)] w (.int .i64 (10000*(f:Int)+100*(b:Int)+90)):=by
 unfold Rd;go_enter Tryz.func21,Tryz.ntmps21
 go_wp2
 go_ret;refine⟨?_,Below.refl _ _⟩
 first | rfl | (simp only[wrap64];congr 2;omega)
theorem Qio {f b:Nat}{w:World}(h:f<1000000∧b<1000000):Rd Tryz.prog 46 #[.int .i64 (f:Int),.int .i64 (b:Int)] w (.int .i64 (10000*(f:Int)+100*(b:Int)+91)):=by
 unfold Rd;go_enter Tryz.func46,Tryz.ntmps46
 go_wp2
 go_ret;refine⟨?_,Below.refl _ _⟩
 first | rfl | (simp only[wrap64];congr 2;omega)
theorem QeW {f b i:Nat}{w:World}(h:f<1000000∧b<1000000∧i<1000000):Rd Tryz.prog 22 #[.int .i64 (f:Int),.int .i64 (b:Int),.int .i64 (i:Int)] w (.int .i64 (10000*(f:Int)+100*(b:Int)+(i:Int))):=by
 unfold Rd;go_enter Tryz.func22,Tryz.ntmps22
 go_wp2
 go_ret;refine⟨?_,Below.refl _ _⟩
 first | rfl | (simp only[wrap64];congr 2;omega)
theorem QdD {x:MTo}{pR pA:Option Addr}{cR cA:Nat}{fr:Int}{fp fq fb:Option Addr}{fl fc fm fd bl fe:Nat}{w:World}(has:Bool) (hr:x.regs.length<2305843009213693952) (ha:x.args.length<2305843009213693952) (hbl:bl<2305843009213693952) :
 Rd Tryz.prog 124 #[.agg #[.int .i64 fr,.slice fp fl fc,.slice fq fm fd,.slice fb bl fe],.agg #[.int .i64 x.block,.slice pR x.regs.length cR,.slice pA x.args.length cA],.bool has] w (.int .i64 (x.form bl has)):=by
 have b1:=QQ w (.cells #[.int .i64 fr,.slice fp fl fc,.slice fq fm fd,.slice fb bl fe] 40);have B:Hid (Below w.heap.size w ((w.alloc (.cells #[.int .i64 fr,.slice fp fl fc,.slice fq fm fd,.slice fb bl fe] 40)).alloc (.cells #[.int .i64 x.block,.slice pR x.regs.length cR,.slice pA x.args.length cA] 56))):=b1.trans ((QQ _ _).mono b1.size);have f3:=Qb (Blk.new1 w #[.int .i64 fr,.slice fp fl fc,.slice fq fm fd,.slice fb bl fe] #[.int .i64 x.block,.slice pR x.regs.length cR,.slice pA x.args.length cA] 40 56) 3 _ rfl;have t0:=Qb (Blk.new2 w (.cells #[.int .i64 fr,.slice fp fl fc,.slice fq fm fd,.slice fb bl fe] 40) #[.int .i64 x.block,.slice pR x.regs.length cR,.slice pA x.args.length cA] 56) 0 _ rfl;have t1:=Qb (Blk.new2 w (.cells #[.int .i64 fr,.slice fp fl fc,.slice fq fm fd,.slice fb bl fe] 40) #[.int .i64 x.block,.slice pR x.regs.length cR,.slice pA x.args.length cA] 56) 1 _ rfl;have t2:=Qb (Blk.new2 w (.cells #[.int .i64 fr,.slice fp fl fc,.slice fq fm fd,.slice fb bl fe] 40) #[.int .i64 x.block,.slice pR x.regs.length cR,.slice pA x.args.length cA] 56) 2 _ rfl;clear b1;unfold Rd;go_enter Tryz.func124,Tryz.ntmps124
 go_upto_region 1 with fail
 generalize (w.alloc (.cells #[.int .i64 fr,.slice fp fl fc,.slice fq fm fd,.slice fb bl fe] 40)).alloc (.cells #[.int .i64 x.block,.slice pR x.regs.length cR,.slice pA x.args.length cA] 56)=w1 at B f3 t0 t1 t2 ⊢;generalize w.heap.size+1=Y at t0 t1 t2 ⊢;generalize w.heap.size=X at f3 ⊢
 cases has with
 | false =>
   by_cases c1:x.block=0
   ·have d1:(x.block != 0)=false:=by simpa using c1
    by_cases c2:0<x.regs.length+x.args.length
    ·have d2:(0:Int)<(x.regs.length:Int)+(x.args.length:Int):=by omega
     have E:x.form bl false=4:=by unfold MTo.form;rw[if_pos rfl,if_pos (.inr c2)]
     clear c1;go_wp2_with fail
     go_ret;exact⟨by first | rfl | (rw[E];done) | (rw[E];rfl),B.out⟩
    ·have d2:¬ (0:Int)<(x.regs.length:Int)+(x.args.length:Int):=by omega
     have E:x.form bl false=0:=by unfold MTo.form;rw[if_pos rfl,if_neg (by rintro (h | h);exact h c1;exact c2 h)]
     clear c1;go_wp2_with fail
     go_ret;exact⟨by first | rfl | (rw[E];done) | (rw[E];rfl),B.out⟩
   ·have d1:(x.block != 0)=true:=by simpa using c1
    have E:x.form bl false=4:=by unfold MTo.form;rw[if_pos rfl,if_pos (.inl c1)]
    go_wp2_with fail
    go_ret;exact⟨by first | rfl | (rw[E];done) | (rw[E];rfl),B.out⟩
 | true =>
   by_cases c1:x.block<0
   ·have d1:decide (x.block<0)=true:=decide_eq_true c1;have E:x.form bl true=1:=by unfold MTo.form;rw[if_neg (by simp),if_pos (.inl c1)]
    go_wp2_with fail
    go_ret;exact⟨by first | rfl | (rw[E];done) | (rw[E];rfl),B.out⟩
   have d1:decide (x.block<0)=false:=decide_eq_false c1;by_cases c2:(bl:Int)≤x.block
   ·have d2:decide (x.block≥(bl:Int))=true:=decide_eq_true c2;have E:x.form bl true=1:=by unfold MTo.form;rw[if_neg (by simp),if_pos (.inr c2)]
    go_wp2_with fail
    go_ret;exact⟨by first | rfl | (rw[E];done) | (rw[E];rfl),B.out⟩
   have d2:decide (x.block≥(bl:Int))=false:=decide_eq_false c2;have c3:¬ (x.block<0∨(bl:Int)≤x.block):=by rintro (h | h);exact c1 h;exact c2 h
   by_cases c4:16<x.regs.length
   ·have d4:decide ((x.regs.length:Int)>16)=true:=decide_eq_true (by omega);have E:x.form bl true=2:=by unfold MTo.form;rw[if_neg (by simp),if_neg c3,if_pos (.inl c4)]
    go_wp2_with fail
    go_ret;exact⟨by first | rfl | (rw[E];done) | (rw[E];rfl),B.out⟩
   have d4:decide ((x.regs.length:Int)>16)=false:=decide_eq_false (by omega);by_cases c5:8<x.args.length
   ·have d5:decide ((x.args.length:Int)>8)=true:=decide_eq_true (by omega);have E:x.form bl true=2:=by unfold MTo.form;rw[if_neg (by simp),if_neg c3,if_pos (.inr c5)]
    go_wp2_with fail
    go_ret;exact⟨by first | rfl | (rw[E];done) | (rw[E];rfl),B.out⟩
   ·have d5:decide ((x.args.length:Int)>8)=false:=decide_eq_false (by omega);have E:x.form bl true=0:=by unfold MTo.form;rw[if_neg (by simp),if_neg c3,if_neg (by rintro (h | h);exact c4 h;exact c5 h)]
    go_wp2_with fail
    go_ret;exact⟨by first | rfl | (rw[E];done) | (rw[E];rfl),B.out⟩
theorem Qfi {x:MEnd}{e:EP}{fr:Int}{fp fq fb:Option Addr}{fl fc fm fd bl fe:Nat}{w:World}(hs:x.yes.regs.length<2305843009213693952∧x.yes.args.length<2305843009213693952∧x.no.regs.length<2305843009213693952∧x.no.args.length<2305843009213693952) (hbl:bl<2305843009213693952) :
 Rd Tryz.prog 82 #[.agg #[.int .i64 fr,.slice fp fl fc,.slice fq fm fd,.slice fb bl fe],.agg #[.int .i64 x.op,.int .i64 x.a,.int .i64 x.yes.block,.slice e.pYR x.yes.regs.length e.cYR,.slice e.pYA x.yes.args.length e.cYA,.int .i64 x.no.block,.slice e.pNR x.no.regs.length e.cNR,.slice e.pNA x.no.args.length e.cNA,.slice e.pA x.args.length e.cA]] w (.int .i64 (x.form bl)):=by
 have HS:=QC hs;have b1:=QQ w (.cells #[.int .i64 fr,.slice fp fl fc,.slice fq fm fd,.slice fb bl fe] 40);have B:Hid (Below w.heap.size w ((w.alloc (.cells #[.int .i64 fr,.slice fp fl fc,.slice fq fm fd,.slice fb bl fe] 40)).alloc (.cells #[.int .i64 x.op,.int .i64 x.a,.int .i64 x.yes.block,.slice e.pYR x.yes.regs.length e.cYR,.slice e.pYA x.yes.args.length e.cYA,.int .i64 x.no.block,.slice e.pNR x.no.regs.length e.cNR,.slice e.pNA x.no.args.length e.cNA,.slice e.pA x.args.length e.cA] 58))):=b1.trans ((QQ _ _).mono b1.size);have XF:Hid (Blk ((w.alloc (.cells #[.int .i64 fr,.slice fp fl fc,.slice fq fm fd,.slice fb bl fe] 40)).alloc (.cells #[.int .i64 x.op,.int .i64 x.a,.int .i64 x.yes.block,.slice e.pYR x.yes.regs.length e.cYR,.slice e.pYA x.yes.args.length e.cYA,.int .i64 x.no.block,.slice e.pNR x.no.regs.length e.cNR,.slice e.pNA x.no.args.length e.cNA,.slice e.pA x.args.length e.cA] 58)) w.heap.size #[.int .i64 fr,.slice fp fl fc,.slice fq fm fd,.slice fb bl fe] 40):=Blk.new1 ..;have XE:Hid (Blk ((w.alloc (.cells #[.int .i64 fr,.slice fp fl fc,.slice fq fm fd,.slice fb bl fe] 40)).alloc (.cells #[.int .i64 x.op,.int .i64 x.a,.int .i64 x.yes.block,.slice e.pYR x.yes.regs.length e.cYR,.slice e.pYA x.yes.args.length e.cYA,.int .i64 x.no.block,.slice e.pNR x.no.regs.length e.cNR,.slice e.pNA x.no.args.length e.cNA,.slice e.pA x.args.length e.cA] 58)) (w.heap.size+1) #[.int .i64 x.op,.int .i64 x.a,.int .i64 x.yes.block,.slice e.pYR x.yes.regs.length e.cYR,.slice e.pYA x.yes.args.length e.cYA,.int .i64 x.no.block,.slice e.pNR x.no.regs.length e.cNR,.slice e.pNA x.no.args.length e.cNA,.slice e.pA x.args.length e.cA] 58):=Blk.new2 ..;clear b1 hs;unfold Rd;go_enter Tryz.func82,Tryz.ntmps82
 go_upto_region 1 with fail
 generalize (w.alloc (.cells #[.int .i64 fr,.slice fp fl fc,.slice fq fm fd,.slice fb bl fe] 40)).alloc (.cells #[.int .i64 x.op,.int .i64 x.a,.int .i64 x.yes.block,.slice e.pYR x.yes.regs.length e.cYR,.slice e.pYA x.yes.args.length e.cYA,.int .i64 x.no.block,.slice e.pNR x.no.regs.length e.cNR,.slice e.pNA x.no.args.length e.cNA,.slice e.pA x.args.length e.cA] 58)=w1 at B XF XE ⊢;generalize w.heap.size+1=Y at XE ⊢;generalize w.heap.size=X at XF ⊢;have e0:=Qb XE.out 0 _ rfl;have e1:=Qb XE.out 1 _ rfl;have e8:=Qb XE.out 8 _ rfl;go_cut [13] (fun v wx=>v=.bool (decide (x.op<1)||decide (x.op>3))∧wx=w1)
 case first =>
  rcases Bool.eq_false_or_eq_true (decide (x.op<1)) with d0 | d0
  all_goals rcases Bool.eq_false_or_eq_true (decide (x.op>3)) with d1 | d1
  all_goals
   go_wp2
   go_meet;exact⟨by rw[d0,d1];rfl,rfl⟩
 case rest =>
  obtain⟨rfl,hw⟩:=hcut
  replace hw:=hw.symm;subst hw;by_cases c1:x.op<1∨3<x.op
  ·have d:(decide (x.op<1)||decide (x.op>3))=true:=by rw[← Bool.decide_or];exact decide_eq_true c1
   rw[d]
   have E:x.form bl=3:=if_pos c1;go_wp2_with fail
   go_ret;exact⟨by first | rfl | (rw[E];done) | (rw[E];rfl),B.out⟩
  have d:(decide (x.op<1)||decide (x.op>3))=false:=by rw[← Bool.decide_or];exact decide_eq_false c1
  rw[d]
  go_upto_region 3 with fail
  go_cut [32] (fun v wx=>v=.bool ((x.a != 0&&x.op != 2)||(decide (0<x.args.length)&&x.op != 3))∧wx=w1)
  case first =>
   rcases Bool.eq_false_or_eq_true (x.a != 0) with d0 | d0
   all_goals rcases Bool.eq_false_or_eq_true (x.op != 2) with d1 | d1
   all_goals rcases Bool.eq_false_or_eq_true (decide (0<x.args.length)) with d2 | d2
   all_goals rcases Bool.eq_false_or_eq_true (x.op != 3) with d3 | d3
   all_goals
    go_wp2
    go_meet;exact⟨by rw[d0,d1,d2,d3];rfl,rfl⟩
  case rest =>
   obtain⟨rfl,hw⟩:=hcut
   replace hw:=hw.symm;subst hw;by_cases c2:(x.a≠0∧x.op≠2)∨(0<x.args.length∧x.op≠3)
   ·have d:((x.a != 0&&x.op != 2)||(decide (0<x.args.length)&&x.op != 3))=true:=by simp only[Bool.or_eq_true,Bool.and_eq_true,bne_iff_ne,decide_eq_true_eq];omega
    rw[d]
    have E:x.form bl=4:=by unfold MEnd.form;rw[if_neg c1,if_pos c2]
    clear c2;go_wp2_with fail
    go_ret;exact⟨by first | rfl | (rw[E];done) | (rw[E];rfl),B.out⟩
   have d:((x.a != 0&&x.op != 2)||(decide (0<x.args.length)&&x.op != 3))=false:=by rw[Bool.eq_false_iff];simp only[ne_eq,Bool.or_eq_true,Bool.and_eq_true,bne_iff_ne,decide_eq_true_eq];omega
   rw[d]
   by_cases c3:8<x.args.length
   ·have d3:(8:Int)<x.args.length:=by omega
    have E:x.form bl=2:=by unfold MEnd.form;rw[if_neg c1,if_neg c2,if_pos c3]
    go_wp2_with fail
    go_ret;exact⟨by first | rfl | (rw[E];done) | (rw[E];rfl),B.out⟩
   have d3:¬ (8:Int)<x.args.length:=by omega
   have FB:Hid (x.form bl=if x.yes.form bl (decide (x.op≠3))≠0 then x.yes.form bl (decide (x.op≠3)) else x.no.form bl (decide (x.op=2))):=by show _=_;unfold MEnd.form;rw[if_neg c1,if_neg c2,if_neg c3]
   have q3:(x.op != 3)=decide (x.op≠3):=by rw[Bool.eq_iff_iff];simp
   have q2:(x.op==2)=decide (x.op=2):=by rw[Bool.eq_iff_iff];simp
   have x0:=Qb XF.out 0 _ rfl;have x1:=Qb XF.out 1 _ rfl;have x2:=Qb XF.out 2 _ rfl;have x3:=Qb XF.out 3 _ rfl;have e2:=Qb XE.out 2 _ rfl;have e3:=Qb XE.out 3 _ rfl;have e4:=Qb XE.out 4 _ rfl;have CY:=QC (QdD (x:=x.yes) (pR:=e.pYR) (cR:=e.cYR) (pA:=e.pYA) (cA:=e.cYA) (fr:=fr) (fp:=fp) (fl:=fl) (fc:=fc) (fq:=fq) (fm:=fm) (fd:=fd) (fb:=fb) (fe:=fe) (w:=w1) (decide (x.op≠3)) HS.out.1 HS.out.2.1 hbl);unfold Rd at CY;rw[← q3] at CY FB
   rw[← q2] at FB
   clear c1 c2 c3 q2 q3;go_wp2_with fail
   refine CY.out.mono ?_;rintro _ w2 ⟨rfl,b2⟩;have B2:=QC (B.out.trans (b2.mono B.out.size));have XF2:=QC (XF.out.below b2);have XE2:=QC (XE.out.below b2);clear b2 CY x0 x1 x2 x3 e0 e1 e2 e3 e4 e8 B XF XE;by_cases c4:x.yes.form bl (x.op != 3)=0
   rotate_left
   ·have d4:(x.yes.form bl (x.op != 3) != 0)=true:=by simpa using c4
    have E:x.form bl=x.yes.form bl (x.op != 3):=by rw[FB.out,if_pos c4]
    generalize x.yes.form bl (x.op != 3)=yf at d4 E ⊢;clear c4 FB;go_wp2_with fail
    go_ret;exact⟨by first | rfl | (rw[E];done) | (rw[E];rfl),B2.out⟩
   have E:x.form bl=x.no.form bl (x.op==2):=by rw[FB.out,if_neg (fun h=>h c4)]
   rw[c4]
   clear c4 FB;have x0:=Qb XF2.out 0 _ rfl;have x1:=Qb XF2.out 1 _ rfl;have x2:=Qb XF2.out 2 _ rfl;have x3:=Qb XF2.out 3 _ rfl;have e0:=Qb XE2.out 0 _ rfl;have e5:=Qb XE2.out 5 _ rfl;have e6:=Qb XE2.out 6 _ rfl;have e7:=Qb XE2.out 7 _ rfl;have CN:=QC (QdD (x:=x.no) (pR:=e.pNR) (cR:=e.cNR) (pA:=e.pNA) (cA:=e.cNA) (fr:=fr) (fp:=fp) (fl:=fl) (fc:=fc) (fq:=fq) (fm:=fm) (fd:=fd) (fb:=fb) (fe:=fe) (w:=w2) (x.op==2) HS.out.2.2.1 HS.out.2.2.2 hbl);unfold Rd at CN;go_wp2_with fail
   refine CN.out.mono ?_;rintro _ w3 ⟨rfl,b3⟩;have B3:=QC (B2.out.trans (b3.mono B2.out.size));clear b3 CN x0 x1 x2 x3 e0 e5 e6 e7;go_wp2_with fail
   go_ret;exact⟨by first | rfl | (rw[E];done) | (rw[E];rfl),B3.out⟩
theorem underEnd:∃ fs,Tryz.prog.underlying 58=some (.struct fs):=⟨_,Tryz.underlying58⟩
theorem sizeEnd:(Tryz.prog.info? 58).map (·.size)=some 9:=by kernel_rfl
abbrev Qck (x:MEnd) (e:EP):Array Value:=#[.int .i64 x.op,.int .i64 x.a,.int .i64 x.yes.block,.slice e.pYR x.yes.regs.length e.cYR,.slice e.pYA x.yes.args.length e.cYA,.int .i64 x.no.block,.slice e.pNR x.no.regs.length e.cNR,.slice e.pNA x.no.args.length e.cNA,.slice e.pA x.args.length e.cA]
structure QcP (w:World) (Q:Nat→Prop) (x:MEnd) (e:EP):Prop where
 yr:intsL.In w Q x.yes.regs [.slice e.pYR x.yes.regs.length e.cYR]
 ya:intsL.In w Q x.yes.args [.slice e.pYA x.yes.args.length e.cYA]
 nr:intsL.In w Q x.no.regs [.slice e.pNR x.no.regs.length e.cNR]
 na:intsL.In w Q x.no.args [.slice e.pNA x.no.args.length e.cNA]
 ar:intsL.In w Q x.args [.slice e.pA x.args.length e.cA]
theorem QcP.below {w w':World}{Q:Nat→Prop}{x:MEnd}{e:EP}(h:QcP w Q x e) (k:Below w.heap.size w w'):QcP w' Q x e :=
 ⟨Lay.below h.yr k,Lay.below h.ya k,Lay.below h.nr k,Lay.below h.na k,Lay.below h.ar k⟩
structure EnS (w wc:World) (b X:Nat) (O Q:Nat→Prop) (s:JSt) (x:MEnd) (e:EP):Prop where
 known:KAt wc b O s
 box:Blk wc X (Qck x e) 58
 lists:QcP wc Q x e
 bel:Below w.heap.size w wc
theorem EnS.below {w wc w':World}{b X:Nat}{O Q:Nat→Prop}{s:JSt}{x:MEnd}{e:EP}(h:EnS w wc b X O Q s x e) (k:Below wc.heap.size wc w'):EnS w w' b X O Q s x e :=
 ⟨h.known.below k,(k.block X (lt_of_block h.box)).trans h.box,h.lists.below k,h.bel.trans (k.mono h.bel.size)⟩
theorem EnS.range {w wc:World}{b X:Nat}{O Q:Nat→Prop}{s:JSt}{x:MEnd}{e:EP}(h:EnS w wc b X O Q s x e):wc.rangeAt X 0 (Qck x e).toList:=fun j v hj=>by
 rw[Nat.zero_add]
 rw[Array.getElem?_toList] at hj
 exact Qb h.box j v hj
theorem EnS.cells {w wc:World}{b X:Nat}{O Q:Nat→Prop}{s:JSt}{x:MEnd}{e:EP}(h:EnS w wc b X O Q s x e):wc.cell? ⟨X,0,none⟩=some (.int .i64 x.op)∧wc.cell? ⟨X,1,none⟩=some (.int .i64 x.a)∧wc.cell? ⟨X,2,none⟩=some (.int .i64 x.yes.block)∧wc.cell? ⟨X,3,none⟩=some (.slice e.pYR x.yes.regs.length e.cYR)∧wc.cell? ⟨X,4,none⟩=some (.slice e.pYA x.yes.args.length e.cYA)∧wc.cell? ⟨X,5,none⟩=some (.int .i64 x.no.block)∧wc.cell? ⟨X,6,none⟩=some (.slice e.pNR x.no.regs.length e.cNR)∧wc.cell? ⟨X,7,none⟩=some (.slice e.pNA x.no.args.length e.cNA)∧wc.cell? ⟨X,8,none⟩=some (.slice e.pA x.args.length e.cA) :=
 ⟨Qb h.box 0 _ rfl,Qb h.box 1 _ rfl,Qb h.box 2 _ rfl,Qb h.box 3 _ rfl,Qb h.box 4 _ rfl,Qb h.box 5 _ rfl,Qb h.box 6 _ rfl,Qb h.box 7 _ rfl,Qb h.box 8 _ rfl⟩
theorem Qam {nb:Nat}{t:MTo}(h:t.form nb true=0):(0≤t.block∧t.block<nb)∧t.regs.length≤16∧t.args.length≤8:=by
 unfold MTo.form at h;rw[if_neg (by simp)] at h
 split at h
 ·cases h
 split at h
 ·cases h
 omega
end Go.Proofs.YtacjnejckfhpoaeGreat
namespace Go.Proofs.YtacjnejckfhpoaeGreat
open Go.ChangeShapes Go.WideShapes Go.ChangeAt Go.RowKit Go.Deep
set_option linter.unusedVariables false
theorem Lay.Sub.via {α β:Type}{A A':Lay α}(h:Lay.Sub A A') (f:β→α):Lay.Sub (A.via f) (A'.via f):=⟨h.1,fun k=>h.2 k⟩
theorem QI.listC {P:Program}{t e:TypeId}{α:Type}{A:Lay α}{n:Nat}{Bd:α→Prop}(h:P.underlying t=some (.slice e)) (hc:P.cellsOf t=1) (hA:QI P e A n Bd) (h0:0<A.size) (hbe:0<P.bytesOf e):QI P t A.listC n (fun l=>l.length<1152921504606846976) :=
 ⟨hc,fun {H enc w base spare held fuel cs x} hf h' hw=>by
  obtain⟨l,hl,hb⟩:=(QI.list h hc hA h0 hbe).2 hf h' hw
  refine⟨l,⟨?_,hl⟩,hb⟩
  obtain⟨a,c,e,_⟩:=hl
  refine⟨a,c,e,?_⟩
  rcases DataW.trod_slice h h' with ⟨e2,_⟩|⟨a2,len,cap,elems,rest,q,_,e2,_,_,hle,_⟩
  ·rw[e] at e2
   simp at e2
   simp[e2.2.1]
  ·rw[e] at e2
   simp at e2
   omega⟩
abbrev intsC:Lay (List Int):=Lay.int.listC
def insC:Lay Qx:=(Lay.int.pair (Lay.int.pair (Lay.int.pair (Lay.int.pair (Lay.int.pair (Lay.int.pair (intsC.pair intsC))))))).via (fun x=>(x.op,x.a,x.b,x.c,x.k,x.n,x.regs,x.args))
def toC:Lay MTo:=(Lay.int.pair (intsC.pair intsC)).via (fun x=>(x.block,x.regs,x.args))
def endC:Lay MEnd:=(Lay.int.pair (Lay.int.pair (toC.pair (toC.pair intsC)))).via (fun x=>(x.op,x.a,x.yes,x.no,x.args))
def Qa7 (n:Nat):Lay (Qe n):=(Lay.int.pair ((Qh n).pair (insC.list.pair endC))).via (fun x=>(x.regs,x.params,x.code,x.fin))
def QeV (n:Nat):Lay (Qf n):=(Lay.int.pair ((Qh n).pair ((Qh n).pair (Qa7 n).list))).via (fun x=>(x.regs,x.params,x.results,x.blocks))
abbrev QiO (n:Nat):Lay (List (Qf n)):=(QeV n).list
theorem ints_sub:Lay.Sub intsC intsL:=Lay.Sub.listC _
theorem ins_sub:Lay.Sub insC insL:=.via (.pair (.refl _) (.pair (.refl _) (.pair (.refl _) (.pair (.refl _) (.pair (.refl _) (.pair (.refl _) (.pair ints_sub ints_sub))))))) _
theorem to_sub:Lay.Sub toC toL:=.via (.pair (.refl _) (.pair ints_sub ints_sub)) _
theorem end_sub:Lay.Sub endC endL:=.via (.pair (.refl _) (.pair (.refl _) (.pair to_sub (.pair to_sub ints_sub)))) _
theorem QhD (n:Nat):Lay.Sub (Qa7 n) (Zc n):=.via (.pair (.refl _) (.pair (.refl _) (.pair (.list ins_sub) end_sub))) _
theorem Qjy (n:Nat):Lay.Sub (QeV n) (ZC n):=.via (.pair (.refl _) (.pair (.refl _) (.pair (.refl _) (.list (QhD n))))) _
theorem Qb1 (n:Nat):Lay.Sub (QiO n) (Qa5 n):=.list (Qjy n)
section
variable {w:World}{O:Nat→Prop}{cs:List Value}
theorem Qhb {x:Qx}(h:insC.In w O x cs):∃ a c b d,cs=[.int .i64 x.op,.int .i64 x.a,.int .i64 x.b,.int .i64 x.c,.int .i64 x.k,.int .i64 x.n,.slice a x.regs.length c,.slice b x.args.length d]∧intsL.In w O x.regs [.slice a x.regs.length c]∧intsL.In w O x.args [.slice b x.args.length d]∧x.regs.length≤c∧x.args.length≤d:=by
 obtain⟨_,_,rfl,⟨rfl,_⟩,_,_,rfl,⟨rfl,_⟩,_,_,rfl,⟨rfl,_⟩,_,_,rfl,⟨rfl,_⟩,_,_,rfl,⟨rfl,_⟩,_,_,rfl,⟨rfl,_⟩,_,_,rfl,⟨⟨a,c,rfl,h1⟩,h2⟩,⟨b,d,rfl,h3⟩,h4⟩:=h
 exact⟨a,c,b,d,rfl,h2,h4,h1,h3⟩
end
theorem QbL (n:Nat):QI Tryz.prog 35 intsC n (fun l=>l.length<1152921504606846976):=QI.listC Tryz.underlying35 (by kernel_rfl) (QaO n) (by decide) (by rw[show Tryz.prog.bytesOf 3=8 from by kernel_rfl];decide)
theorem Qiv (n:Nat):QI Tryz.prog 46 insC n (fun x=>x.regs.length<1152921504606846976∧x.args.length<1152921504606846976):=by
 have h:=QI.struct (n:=n) (A:=Lay.int.pair (Lay.int.pair (Lay.int.pair (Lay.int.pair (Lay.int.pair (Lay.int.pair (intsC.pair intsC))))))) Tryz.underlying46 (by kernel_rfl) (QJ.cons rfl rfl (QaO n) (QJ.cons rfl rfl (QaO n) (QJ.cons rfl rfl (QaO n) (QJ.cons rfl rfl (QaO n) (QJ.cons rfl rfl (QaO n) (QJ.cons rfl rfl (Qka n) (QJ.cons rfl rfl (QbL n) (QJ.last rfl rfl (QbL n)))))))));have h2:=h.via (f:=fun x:Qx=>(x.op,x.a,x.b,x.c,x.k,x.n,x.regs,x.args)) (fun d=>⟨d.1,d.2.1,d.2.2.1,d.2.2.2.1,d.2.2.2.2.1,d.2.2.2.2.2.1,d.2.2.2.2.2.2.1,d.2.2.2.2.2.2.2⟩) (fun d=>rfl);exact⟨h2.1,fun hf h' hw=>by obtain⟨d,hd,hb⟩:=h2.2 hf h' hw;exact⟨d,hd,hb.2.2.2.2.2.2⟩⟩
theorem QfZ (n:Nat):QI Tryz.prog 56 toC n (fun x=>x.regs.length<1152921504606846976∧x.args.length<1152921504606846976):=by
 have h:=QI.struct (n:=n) (A:=Lay.int.pair (intsC.pair intsC)) Tryz.underlying56 (by kernel_rfl) (QJ.cons rfl rfl (QaO n) (QJ.cons rfl rfl (QbL n) (QJ.last rfl rfl (QbL n))));have h2:=h.via (f:=fun x:MTo=>(x.block,x.regs,x.args)) (fun d=>⟨d.1,d.2.1,d.2.2⟩) (fun d=>rfl);exact⟨h2.1,fun hf h' hw=>by obtain⟨d,hd,hb⟩:=h2.2 hf h' hw;exact⟨d,hd,hb.2⟩⟩
theorem Qij (n:Nat):QI Tryz.prog 58 endC n (fun x=>(x.yes.regs.length<1152921504606846976∧x.yes.args.length<1152921504606846976)∧(x.no.regs.length<1152921504606846976∧x.no.args.length<1152921504606846976)∧x.args.length<1152921504606846976):=by
 have h:=QI.struct (n:=n) (A:=Lay.int.pair (Lay.int.pair (toC.pair (toC.pair intsC)))) Tryz.underlying58 (by kernel_rfl) (QJ.cons rfl rfl (QaO n) (QJ.cons rfl rfl (QaO n) (QJ.cons rfl rfl (QfZ n) (QJ.cons rfl rfl (QfZ n) (QJ.last rfl rfl (QbL n))))));have h2:=h.via (f:=fun x:MEnd=>(x.op,x.a,x.yes,x.no,x.args)) (fun d=>⟨d.1,d.2.1,d.2.2.1,d.2.2.2.1,d.2.2.2.2⟩) (fun d=>rfl);exact⟨h2.1,fun hf h' hw=>by obtain⟨d,hd,hb⟩:=h2.2 hf h' hw;exact⟨d,hd,hb.2.2⟩⟩
theorem Qgt (n:Nat):QI Tryz.prog 25 insC.list n (fun l=>l.length<1152921504606846976):=QI.list Tryz.underlying25 (by kernel_rfl) (Qiv n) (by decide) (by rw[show Tryz.prog.bytesOf 46=96 from by kernel_rfl];decide)
theorem Qfg (n:Nat):QI Tryz.prog 60 (Qa7 n) n (fun _=>True):=by
 have h:=QI.struct (n:=n) (A:=Lay.int.pair ((Qh n).pair (insC.list.pair endC))) Tryz.underlying60 (by kernel_rfl) (QJ.cons rfl rfl (QaO n) (QJ.cons rfl rfl (QfD n) (QJ.cons rfl rfl (Qgt n) (QJ.last rfl rfl (Qij n)))));have h2:=h.via (f:=fun x:Qe n=>(x.regs,x.params,x.code,x.fin)) (fun d=>⟨d.1,d.2.1,d.2.2.1,d.2.2.2⟩) (fun d=>rfl);exact⟨h2.1,fun hf h' hw=>by obtain⟨d,hd,hb⟩:=h2.2 hf h' hw;exact⟨d,hd,trivial⟩⟩
theorem Qeo (n:Nat):QI Tryz.prog 38 (Qa7 n).list n (fun l=>l.length<1152921504606846976):=QI.list Tryz.underlying38 (by kernel_rfl) (Qfg n) (by show 0<12;decide) (by rw[show Tryz.prog.bytesOf 60=208 from by kernel_rfl];decide)
theorem QgX (n:Nat):QI Tryz.prog 40 (QeV n) n (fun _=>True):=by
 have h:=QI.struct (n:=n) (A:=Lay.int.pair ((Qh n).pair ((Qh n).pair (Qa7 n).list))) Tryz.underlying40 (by kernel_rfl) (QJ.cons rfl rfl (QaO n) (QJ.cons rfl rfl (QfD n) (QJ.cons rfl rfl (QfD n) (QJ.last rfl rfl (Qeo n)))));have h2:=h.via (f:=fun x:Qf n=>(x.regs,x.params,x.results,x.blocks)) (fun d=>⟨d.1,d.2.1,d.2.2.1,d.2.2.2⟩) (fun d=>rfl);exact⟨h2.1,fun hf h' hw=>by obtain⟨d,hd,hb⟩:=h2.2 hf h' hw;exact⟨d,hd,trivial⟩⟩
theorem QfA (n:Nat):QI Tryz.prog 22 (QiO n) n (fun l=>l.length<1152921504606846976):=QI.list Tryz.underlying22 (by kernel_rfl) (QgX n) (by show 0<4;decide) (by rw[show Tryz.prog.bytesOf 40=80 from by kernel_rfl];decide)
theorem Qin (n:Nat):QI Tryz.prog 24 (QiO n) n (fun _=>True):=by
 have h:=QI.struct (n:=n) (A:=QiO n) Tryz.underlying24 (by kernel_rfl) (QJ.last rfl rfl (QfA n));exact⟨h.1,fun hf h' hw=>by obtain⟨d,hd,hb⟩:=h.2 hf h' hw;exact⟨d,hd,trivial⟩⟩
end Go.Proofs.YtacjnejckfhpoaeGreat
namespace Go.Proofs.YtacjnejckfhpoaeGreat
open Go.ChangeShapes Go.WideShapes Go.ChangeAt Go.RowKit
set_option linter.unusedSimpArgs false
set_option linter.unusedVariables false
def QgC (w:World) (O:Nat→Prop) (c:Int) (l:List (TT 6)) (e:Ending) (w':World):Prop :=
 ∃ a n d,e=.returned (.tuple #[.slice a n d,.int .i64 c])∧(c=0→n=l.length∧n≤d∧(Qh 6).In w' (fun g=>¬ O g) l [.slice a n d])∧Below w.heap.size w w'
abbrev Qdt (x:Qx) (rg ag:Option Addr) (rc ac:Nat):Value:=.agg #[.int .i64 x.op,.int .i64 x.a,.int .i64 x.b,.int .i64 x.c,.int .i64 x.k,.int .i64 x.n,.slice rg x.regs.length rc,.slice ag x.args.length ac]
theorem QjU (w:World) (O:Nat→Prop) (hO:∀ k,O k→k<w.heap.size){t:TT 6}{a:Option Addr}{c d:Nat}(h:TIn w (fun g=>¬ O g) t a) (hok:t.ok) :
 (Qh 6).In (w.alloc (.cells #[.int .i64 t.kind,.int .i64 t.r,.slice a t.len c] 70)) (fun g=>¬ O g) [t] [.slice (some ⟨w.heap.size,0,none⟩) 1 d]:=by
 refine⟨some ⟨w.heap.size,0,none⟩,d,rfl,fun i x hx=>?_⟩
 cases i with
 | succ i=>simp at hx
 | zero =>
   have hx:t=x:=by simpa using hx
   subst hx;refine⟨w.heap.size,0,[.int .i64 t.kind,.int .i64 t.r,.slice a t.len c],rfl,fun e=>by have:=hO _ e;omega,by simp,fun j hj=>?_,a,c,rfl,h.alloc _,hok⟩
   have hj:j<3:=hj;have hb:=Qu w #[.int .i64 t.kind,.int .i64 t.r,.slice a t.len c] 70;match j,hj with
   | 0,_=>exact Qb hb 0 _ rfl
   | 1,_=>exact Qb hb 1 _ rfl
   | 2,_=>exact Qb hb 2 _ rfl
theorem Qkl (w:World) (Q:Nat→Prop) (k r:Int) (a:Option Addr):TIn w Q (mkT k r []:TT 6) a:=fun i x hx=>by simp at hx
structure MkS (w w2:World) (b X:Nat) (O:Nat→Prop) (s:JSt) (x:Qx) (rg ag:Option Addr) (rc ac:Nat) (na:Option Addr):Prop where
 known:KAt w2 b O s
 box:w2.heap[X]?=some (.cells #[.int .i64 x.op,.int .i64 x.a,.int .i64 x.b,.int .i64 x.c,.int .i64 x.k,.int .i64 x.n,.slice rg x.regs.length rc,.slice ag x.args.length ac] 46 (0,0))
 num:(Qh 6).In w2 (fun g=>¬ O g) [tInt] [.slice na 1 1]
 bel:Below w.heap.size w w2
 own:∀ k,O k→k<w.heap.size
 ok:JOk s
theorem MkS.start {w:World}{b:Nat}{O:Nat→Prop}{s:JSt}(x:Qx) (rg ag:Option Addr) (rc ac:Nat) (hO:∀ k,O k→k<w.heap.size) (hJ:JOk s) (h:KAt w b O s) :
 MkS w ((w.alloc (.cells #[.int .i64 x.op,.int .i64 x.a,.int .i64 x.b,.int .i64 x.c,.int .i64 x.k,.int .i64 x.n,.slice rg x.regs.length rc,.slice ag x.args.length ac] 46)).alloc (.cells #[.int .i64 1,.int .i64 0,.slice none 0 0] 70)) b w.heap.size O s x rg ag rc ac (some ⟨w.heap.size+1,0,none⟩):=by
 have b1:=QQ w (.cells #[.int .i64 x.op,.int .i64 x.a,.int .i64 x.b,.int .i64 x.c,.int .i64 x.k,.int .i64 x.n,.slice rg x.regs.length rc,.slice ag x.args.length ac] 46);have b2:=QQ (w.alloc (.cells #[.int .i64 x.op,.int .i64 x.a,.int .i64 x.b,.int .i64 x.c,.int .i64 x.k,.int .i64 x.n,.slice rg x.regs.length rc,.slice ag x.args.length ac] 46)) (.cells #[.int .i64 1,.int .i64 0,.slice none 0 0] 70);refine⟨(h.below b1).below b2,(b2.block _ (by simp)).trans (Qu _ _ _),?_,b1.trans (b2.mono b1.size),hO,hJ⟩
 have:=QjU (w.alloc (.cells #[.int .i64 x.op,.int .i64 x.a,.int .i64 x.b,.int .i64 x.c,.int .i64 x.k,.int .i64 x.n,.slice rg x.regs.length rc,.slice ag x.args.length ac] 46)) O (fun k hk=>by have:=hO k hk;simp;omega) (t:=tInt) (a:=none) (c:=0) (d:=1) (Qkl _ _ _ _ _) ⟨by decide,fun x hx=>by cases hx⟩
 rw[World.size_alloc] at this
 exact this
section
variable {w w2 w3:World}{b X:Nat}{O:Nat→Prop}{s:JSt}{x:Qx}{rg ag:Option Addr}{rc ac:Nat}{na:Option Addr}
theorem MkS.below (h:MkS w w2 b X O s x rg ag rc ac na) (k:Below w2.heap.size w2 w3):MkS w w3 b X O s x rg ag rc ac na :=
 ⟨h.known.below k,(k.block X (lt_of_block h.box)).trans h.box,Lay.below h.num k,h.bel.trans (k.mono h.bel.size),h.own,h.ok⟩
theorem MkS.lt (h:MkS w w2 b X O s x rg ag rc ac na):∀ k,O k→k<w2.heap.size:=fun k hk=>Nat.lt_of_lt_of_le (h.own k hk) h.bel.size
theorem MkS.cells (h:MkS w w2 b X O s x rg ag rc ac na):w2.cell? ⟨X,0,none⟩=some (.int .i64 x.op)∧w2.cell? ⟨X,1,none⟩=some (.int .i64 x.a)∧w2.cell? ⟨X,2,none⟩=some (.int .i64 x.b)∧w2.cell? ⟨X,3,none⟩=some (.int .i64 x.c)∧w2.cell? ⟨X,4,none⟩=some (.int .i64 x.k)∧w2.cell? ⟨X,6,none⟩=some (.slice rg x.regs.length rc)∧w2.cell? ⟨X,7,none⟩=some (.slice ag x.args.length ac) :=
 ⟨Qb h.box 0 _ rfl,Qb h.box 1 _ rfl,Qb h.box 2 _ rfl,Qb h.box 3 _ rfl,Qb h.box 4 _ rfl,Qb h.box 6 _ rfl,Qb h.box 7 _ rfl⟩
theorem QgC.nil {c:Int}(h:Below w.heap.size w w3):QgC w O c [] (.returned (.tuple #[.slice none 0 0,.int .i64 c])) w3 :=
 ⟨none,0,0,rfl,fun _=>⟨rfl,Nat.le_refl _,Lay.list_nil _ _ _ _ _⟩,h⟩
theorem QgC.bad {c:Int}{l:List (TT 6)}(hc:c≠0) (h:Below w.heap.size w w3) (a:Option Addr) (n d:Nat):QgC w O c l (.returned (.tuple #[.slice a n d,.int .i64 c])) w3 :=
 ⟨a,n,d,rfl,fun e=>absurd e hc,h⟩
theorem QgC.num {c:Int}(h:MkS w w2 b X O s x rg ag rc ac na) (k:Below w2.heap.size w2 w3):QgC w O c [tInt] (.returned (.tuple #[.slice na 1 1,.int .i64 c])) w3 :=
 ⟨na,1,1,rfl,fun _=>⟨rfl,Nat.le_refl _,(h.below k).num⟩,(h.below k).bel⟩
end
def ZA (x:Qx):Prop:=(-9223372036854775808≤x.a∧x.a≤9223372036854775807)∧(-9223372036854775808≤x.b∧x.b≤9223372036854775807)∧(-9223372036854775808≤x.c∧x.c≤9223372036854775807)
theorem Qjj {w:World}{O:Nat→Prop}{x:Qx}{cs:List Value}(h:insC.In w O x cs):ZA x:=by
 obtain⟨_,_,rfl,⟨rfl,_⟩,_,_,rfl,⟨rfl,ha⟩,_,_,rfl,⟨rfl,hb⟩,_,_,rfl,⟨rfl,hc⟩,_,_,rfl,⟨rfl,_⟩,_,_,rfl,⟨rfl,_⟩,_,_,rfl,⟨⟨a,c,rfl,h1⟩,h2⟩,⟨b,d,rfl,h3⟩,h4⟩:=h
 exact⟨ha,hb,hc⟩
noncomputable def JSt.goC (s:JSt) (x:Qx):Int:=Qw (s.makes x).1 (Q8 s.L.length (s.makes x).2.length)
theorem Qkh {s:JSt}{x:Qx}(hf:x.form s.m.length=0):s.code x=s.goC x:=by
 unfold JSt.code JSt.goC Qw Q8;rw[if_neg (by rw[hf];simp)]
 by_cases h:(s.makes x).1=0
 ·rw[if_neg (by rw[h];simp),if_pos h]
 ·rw[if_pos h,if_neg h]
theorem QbC {n:Nat}(h:n≤80):Q8 n 0=0:=if_neg (by omega)
theorem Qfz {a:Int}:Qw a 0=a:=by unfold Qw;split<;>simp_all
theorem Q0.to {w w':World}{b:Nat}{O A:Nat→Prop}{s s1 s2:JSt}{c c2:Int}{e:Ending}(hd:Q0 w b O A s s1 c e w') (hc:c2=c) (hs:c=0→s2=s1):Q0 w b O A s s2 c2 e w':=by
 subst hc;rcases hd with ⟨h1,h2,h3⟩ | h
 ·exact .inl ⟨h1,h2,by rw[hs h1];exact h3⟩
 ·exact .inr h
theorem Q0.none {w w':World}{b:Nat}{O A:Nat→Prop}{s s2:JSt}{c2:Int}(h:SAt w b O A s) (hb:Below w.heap.size w w') (hc:c2=0) (hs:s2=s):Q0 w b O A s s2 c2 (.returned (.tuple #[])) w':=.inl ⟨hc,rfl,by rw[hs];exact STo.of_below h hb⟩
theorem Q4 {s:JSt}{x:Qx}(h3:x.op≠3) (h4:x.op≠4):s.next x={ s with L:=s.L++(s.makes x).2 }:=by unfold JSt.next;rw[if_neg h3,if_neg h4]
theorem Qj2 {w:World}{b:Nat}{O A Q:Nat→Prop}{s:JSt}{x:Qx}{rg ag:Option Addr}{rc ac:Nat}(hA:∀ k,A k→k<w.heap.size) (hJ:JOk s) (h:SAt w b O A s) (hregs:intsL.In w Q x.regs [.slice rg x.regs.length rc]) (hargs:intsL.In w Q x.args [.slice ag x.args.length ac]) (hrc:x.regs.length≤rc) (hrng:ZA x) (hf:x.form s.m.length=0) (hop:x.op=1) :
 Calls Tryz.prog 35 #[.pointer (some ⟨b,0,none⟩),Qdt x rg ag rc ac] w fun e w'=>Q0 w b O A s (s.next x) (s.goC x) e w':=by
 have hE:=QaW (s:=s) (.inl hop);obtain⟨op,xa,xb,xc,xk,xn,xr,xs⟩:=x
 have hop:op=1:=hop;subst hop;have HE:=Qa hE;obtain⟨f1,f2,f3,-⟩:=Q9 hf
 have HF:=Qa (And.intro f1 (And.intro f2 f3));obtain⟨ra,rb,rcc⟩:=hrng
 have HI:=Qa (And.intro ra (And.intro rb rcc));have HJ:=Qa hJ;have H0:=Qa h;have HA0:=Qa hA;have hL:=hJ.vals;have b1:=QQ w (.cells #[.int .i64 1,.int .i64 xa,.int .i64 xb,.int .i64 xc,.int .i64 xk,.int .i64 xn,.slice rg xr.length rc,.slice ag xs.length ac] 46);have H:=Qa (h.below b1);have HR:Hid (intsL.In _ Q xr [.slice rg xr.length rc]):=Lay.below hregs b1;have HG:Hid (intsL.In _ Q xs [.slice ag xs.length ac]):=Lay.below hargs b1;have HB:=Qa b1;have HA:=Qa (fun k hk=>Nat.lt_of_lt_of_le (hA k hk) b1.size);have HO:=Qa (fun k hk=>Nat.lt_of_lt_of_le (hA k (h.sub k hk)) b1.size);have X1:Hid (Blk (w.alloc (.cells #[.int .i64 1,.int .i64 xa,.int .i64 xb,.int .i64 xc,.int .i64 xk,.int .i64 xn,.slice rg xr.length rc,.slice ag xs.length ac] 46)) w.heap.size #[.int .i64 1,.int .i64 xa,.int .i64 xb,.int .i64 xc,.int .i64 xk,.int .i64 xn,.slice rg xr.length rc,.slice ag xs.length ac] 46):=Blk.new _ _ _;have HRC:Hid (xr.length≤rc):=hrc;clear h hA hJ b1 hregs hargs hE hf f1 f2 f3 ra rb rcc hrc;go_enter Tryz.func35,Tryz.ntmps35
 go_upto_region 1 with fail
 generalize w.alloc (.cells #[.int .i64 1,.int .i64 xa,.int .i64 xb,.int .i64 xc,.int .i64 xk,.int .i64 xn,.slice rg xr.length rc,.slice ag xs.length ac] 46)=w1 at H HR HG HB HA HO X1 ⊢;obtain⟨X,hX⟩:∃ X,w.heap.size=X:=⟨_,rfl⟩
 rw[hX] at X1 ⊢
 clear hX;have x0:=Qb X1.out 0 _ rfl;have x1:=Qb X1.out 1 _ rfl;have x2:=Qb X1.out 2 _ rfl;have x3:=Qb X1.out 3 _ rfl;have x4:=Qb X1.out 4 _ rfl;have x6:=Qb X1.out 6 _ rfl;have x7:=Qb X1.out 7 _ rfl;have HE2:Hid (∀ e w9,Q0 w b O A s { s with L:=s.L++[tInt] } (Q8 s.L.length 1) e w9→Q0 w b O A s (s.next ⟨1,xa,xb,xc,xk,xn,xr,xs⟩) (s.goC ⟨1,xa,xb,xc,xk,xn,xr,xs⟩) e w9):=fun e w9 hd=>hd.to (by unfold JSt.goC;rw[HE.out];rfl) (fun _=>by rw[Q4 (by simp) (by simp),HE.out]);have CM:=Qa (Qbt hL HA.out H.out);go_wp2_with fail
 refine CM.out.mono ?_;rintro e' w9 hd;have FF:Hid (Q0 w b O A s (s.next ⟨1,xa,xb,xc,xk,xn,xr,xs⟩) (s.goC ⟨1,xa,xb,xc,xk,xn,xr,xs⟩) e' w9):=HE2.out _ _ (hd.after HB.out);rcases hd with ⟨h1,rfl,h3⟩|⟨h1,rfl,h3⟩
 rotate_left
 ·exact⟨rfl,FF.out⟩
 clear h1 h3 CM;go_wp2
 exact bodyPost_end (v:=.tuple #[]) (by simp[results,Tryz.results35,go_sem]) rfl FF.out
theorem Qk5 {w:World}{b:Nat}{O A Q:Nat→Prop}{s:JSt}{x:Qx}{rg ag:Option Addr}{rc ac:Nat}(hA:∀ k,A k→k<w.heap.size) (hJ:JOk s) (h:SAt w b O A s) (hregs:intsL.In w Q x.regs [.slice rg x.regs.length rc]) (hargs:intsL.In w Q x.args [.slice ag x.args.length ac]) (hrc:x.regs.length≤rc) (hrng:ZA x) (hf:x.form s.m.length=0) (hop:x.op=12) :
 Calls Tryz.prog 35 #[.pointer (some ⟨b,0,none⟩),Qdt x rg ag rc ac] w fun e w'=>Q0 w b O A s (s.next x) (s.goC x) e w':=by
 have hE:=QaW (s:=s) (.inr hop);obtain⟨op,xa,xb,xc,xk,xn,xr,xs⟩:=x
 have hop:op=12:=hop;subst hop;have HE:=Qa hE;obtain⟨f1,f2,f3,-⟩:=Q9 hf
 have HF:=Qa (And.intro f1 (And.intro f2 f3));obtain⟨ra,rb,rcc⟩:=hrng
 have HI:=Qa (And.intro ra (And.intro rb rcc));have HJ:=Qa hJ;have H0:=Qa h;have HA0:=Qa hA;have hL:=hJ.vals;have b1:=QQ w (.cells #[.int .i64 12,.int .i64 xa,.int .i64 xb,.int .i64 xc,.int .i64 xk,.int .i64 xn,.slice rg xr.length rc,.slice ag xs.length ac] 46);have H:=Qa (h.below b1);have HR:Hid (intsL.In _ Q xr [.slice rg xr.length rc]):=Lay.below hregs b1;have HG:Hid (intsL.In _ Q xs [.slice ag xs.length ac]):=Lay.below hargs b1;have HB:=Qa b1;have HA:=Qa (fun k hk=>Nat.lt_of_lt_of_le (hA k hk) b1.size);have HO:=Qa (fun k hk=>Nat.lt_of_lt_of_le (hA k (h.sub k hk)) b1.size);have X1:Hid (Blk (w.alloc (.cells #[.int .i64 12,.int .i64 xa,.int .i64 xb,.int .i64 xc,.int .i64 xk,.int .i64 xn,.slice rg xr.length rc,.slice ag xs.length ac] 46)) w.heap.size #[.int .i64 12,.int .i64 xa,.int .i64 xb,.int .i64 xc,.int .i64 xk,.int .i64 xn,.slice rg xr.length rc,.slice ag xs.length ac] 46):=Blk.new _ _ _;have HRC:Hid (xr.length≤rc):=hrc;clear h hA hJ b1 hregs hargs hE hf f1 f2 f3 ra rb rcc hrc;go_enter Tryz.func35,Tryz.ntmps35
 go_upto_region 1 with fail
 generalize w.alloc (.cells #[.int .i64 12,.int .i64 xa,.int .i64 xb,.int .i64 xc,.int .i64 xk,.int .i64 xn,.slice rg xr.length rc,.slice ag xs.length ac] 46)=w1 at H HR HG HB HA HO X1 ⊢;obtain⟨X,hX⟩:∃ X,w.heap.size=X:=⟨_,rfl⟩
 rw[hX] at X1 ⊢
 clear hX;have x0:=Qb X1.out 0 _ rfl;have x1:=Qb X1.out 1 _ rfl;have x2:=Qb X1.out 2 _ rfl;have x3:=Qb X1.out 3 _ rfl;have x4:=Qb X1.out 4 _ rfl;have x6:=Qb X1.out 6 _ rfl;have x7:=Qb X1.out 7 _ rfl;have HE2:Hid (∀ e w9,Q0 w b O A s { s with L:=s.L++[tInt] } (Q8 s.L.length 1) e w9→Q0 w b O A s (s.next ⟨12,xa,xb,xc,xk,xn,xr,xs⟩) (s.goC ⟨12,xa,xb,xc,xk,xn,xr,xs⟩) e w9):=fun e w9 hd=>hd.to (by unfold JSt.goC;rw[HE.out];rfl) (fun _=>by rw[Q4 (by simp) (by simp),HE.out]);have CM:=Qa (Qbt hL HA.out H.out);go_wp2_with fail
 refine CM.out.mono ?_;rintro e' w9 hd;have FF:Hid (Q0 w b O A s (s.next ⟨12,xa,xb,xc,xk,xn,xr,xs⟩) (s.goC ⟨12,xa,xb,xc,xk,xn,xr,xs⟩) e' w9):=HE2.out _ _ (hd.after HB.out);rcases hd with ⟨h1,rfl,h3⟩|⟨h1,rfl,h3⟩
 rotate_left
 ·exact⟨rfl,FF.out⟩
 clear h1 h3 CM;go_wp2
 exact bodyPost_end (v:=.tuple #[]) (by simp[results,Tryz.results35,go_sem]) rfl FF.out
theorem Qj6 {w:World}{b:Nat}{O A Q:Nat→Prop}{s:JSt}{x:Qx}{rg ag:Option Addr}{rc ac:Nat}(hA:∀ k,A k→k<w.heap.size) (hJ:JOk s) (h:SAt w b O A s) (hregs:intsL.In w Q x.regs [.slice rg x.regs.length rc]) (hargs:intsL.In w Q x.args [.slice ag x.args.length ac]) (hrc:x.regs.length≤rc) (hrng:ZA x) (hf:x.form s.m.length=0) (hop:x.op=2) :
 Calls Tryz.prog 35 #[.pointer (some ⟨b,0,none⟩),Qdt x rg ag rc ac] w fun e w'=>Q0 w b O A s (s.next x) (s.goC x) e w':=by
 have hE:=Qef (s:=s) hop;obtain⟨op,xa,xb,xc,xk,xn,xr,xs⟩:=x
 have hop:op=2:=hop;subst hop;have HE:=Qa hE;obtain⟨f1,f2,f3,-⟩:=Q9 hf
 have HF:=Qa (And.intro f1 (And.intro f2 f3));obtain⟨ra,rb,rcc⟩:=hrng
 have HI:=Qa (And.intro ra (And.intro rb rcc));have HJ:=Qa hJ;have H0:=Qa h;have HA0:=Qa hA;have hL:=hJ.vals;have b1:=QQ w (.cells #[.int .i64 2,.int .i64 xa,.int .i64 xb,.int .i64 xc,.int .i64 xk,.int .i64 xn,.slice rg xr.length rc,.slice ag xs.length ac] 46);have H:=Qa (h.below b1);have HR:Hid (intsL.In _ Q xr [.slice rg xr.length rc]):=Lay.below hregs b1;have HG:Hid (intsL.In _ Q xs [.slice ag xs.length ac]):=Lay.below hargs b1;have HB:=Qa b1;have HA:=Qa (fun k hk=>Nat.lt_of_lt_of_le (hA k hk) b1.size);have HO:=Qa (fun k hk=>Nat.lt_of_lt_of_le (hA k (h.sub k hk)) b1.size);have X1:Hid (Blk (w.alloc (.cells #[.int .i64 2,.int .i64 xa,.int .i64 xb,.int .i64 xc,.int .i64 xk,.int .i64 xn,.slice rg xr.length rc,.slice ag xs.length ac] 46)) w.heap.size #[.int .i64 2,.int .i64 xa,.int .i64 xb,.int .i64 xc,.int .i64 xk,.int .i64 xn,.slice rg xr.length rc,.slice ag xs.length ac] 46):=Blk.new _ _ _;have HRC:Hid (xr.length≤rc):=hrc;clear h hA hJ b1 hregs hargs hE hf f1 f2 f3 ra rb rcc hrc;go_enter Tryz.func35,Tryz.ntmps35
 go_upto_region 1 with fail
 generalize w.alloc (.cells #[.int .i64 2,.int .i64 xa,.int .i64 xb,.int .i64 xc,.int .i64 xk,.int .i64 xn,.slice rg xr.length rc,.slice ag xs.length ac] 46)=w1 at H HR HG HB HA HO X1 ⊢;obtain⟨X,hX⟩:∃ X,w.heap.size=X:=⟨_,rfl⟩
 rw[hX] at X1 ⊢
 clear hX;have x0:=Qb X1.out 0 _ rfl;have x1:=Qb X1.out 1 _ rfl;have x2:=Qb X1.out 2 _ rfl;have x3:=Qb X1.out 3 _ rfl;have x4:=Qb X1.out 4 _ rfl;have x6:=Qb X1.out 6 _ rfl;have x7:=Qb X1.out 7 _ rfl;have EG:Hid (s.goC ⟨2,xa,xb,xc,xk,xn,xr,xs⟩=Qw (Qw (s.want xa 1 false) (s.want xb 1 false)) (Q8 s.L.length 1)):=by show _=_;unfold JSt.goC;rw[HE.out];rfl
 have C1:=Qa (fun d=>Qet xa xb HI.out.1 HI.out.2.1 d hL HO.out H.out);go_wp2_with fail
 refine(C1.out _).mono ?_
 rintro e' w2 ⟨hq,b2⟩;have HB2:=Qa (HB.out.trans (b2.mono HB.out.size));have H2:=Qa (H.out.below b2);have HA2:=Qa (fun k hk=>Nat.lt_of_lt_of_le (HA.out k hk) b2.size);have HO2:=Qa (fun k hk=>Nat.lt_of_lt_of_le (HO.out k hk) b2.size);rcases hq with ⟨hc,y2,rfl,hy⟩|⟨hc,rfl⟩
 rotate_left
 ·exact⟨rfl,Q0.bad ((fun hc=>by rw[EG.out,Qm hc]) hc) hc (STo.of_below H0.out HB2.out)⟩
 subst hy;have HC2:=Qa hc;clear hc b2 C1;have HE2:Hid (∀ e w9,Q0 w b O A s { s with L:=s.L++[tInt] } (Q8 s.L.length 1) e w9→Q0 w b O A s (s.next ⟨2,xa,xb,xc,xk,xn,xr,xs⟩) (s.goC ⟨2,xa,xb,xc,xk,xn,xr,xs⟩) e w9):=fun e w9 hd=>hd.to (by rw[EG.out,Qz HC2.out]) (fun _=>by rw[Q4 (by simp) (by simp),HE.out]);have CM:=Qa (Qbt hL HA2.out H2.out);go_wp2_with fail
 refine CM.out.mono ?_;rintro e' w9 hd;have FF:Hid (Q0 w b O A s (s.next ⟨2,xa,xb,xc,xk,xn,xr,xs⟩) (s.goC ⟨2,xa,xb,xc,xk,xn,xr,xs⟩) e' w9):=HE2.out _ _ (hd.after HB2.out);rcases hd with ⟨h1,rfl,h3⟩|⟨h1,rfl,h3⟩
 rotate_left
 ·exact⟨rfl,FF.out⟩
 clear h1 h3 CM;go_wp2
 exact bodyPost_end (v:=.tuple #[]) (by simp[results,Tryz.results35,go_sem]) rfl FF.out
theorem Qj1 {w:World}{b:Nat}{O A Q:Nat→Prop}{s:JSt}{x:Qx}{rg ag:Option Addr}{rc ac:Nat}(hA:∀ k,A k→k<w.heap.size) (hJ:JOk s) (h:SAt w b O A s) (hregs:intsL.In w Q x.regs [.slice rg x.regs.length rc]) (hargs:intsL.In w Q x.args [.slice ag x.args.length ac]) (hrc:x.regs.length≤rc) (hrng:ZA x) (hf:x.form s.m.length=0) (hop:x.op=3) :
 Calls Tryz.prog 35 #[.pointer (some ⟨b,0,none⟩),Qdt x rg ag rc ac] w fun e w'=>Q0 w b O A s (s.next x) (s.goC x) e w':=by
 have hE:=QbP (s:=s) hop;obtain⟨op,xa,xb,xc,xk,xn,xr,xs⟩:=x
 have hop:op=3:=hop;subst hop;have HE:=Qa hE;obtain⟨f1,f2,f3,-⟩:=Q9 hf
 have HF:=Qa (And.intro f1 (And.intro f2 f3));obtain⟨ra,rb,rcc⟩:=hrng
 have HI:=Qa (And.intro ra (And.intro rb rcc));have HJ:=Qa hJ;have H0:=Qa h;have HA0:=Qa hA;have hL:=hJ.vals;have b1:=QQ w (.cells #[.int .i64 3,.int .i64 xa,.int .i64 xb,.int .i64 xc,.int .i64 xk,.int .i64 xn,.slice rg xr.length rc,.slice ag xs.length ac] 46);have H:=Qa (h.below b1);have HR:Hid (intsL.In _ Q xr [.slice rg xr.length rc]):=Lay.below hregs b1;have HG:Hid (intsL.In _ Q xs [.slice ag xs.length ac]):=Lay.below hargs b1;have HB:=Qa b1;have HA:=Qa (fun k hk=>Nat.lt_of_lt_of_le (hA k hk) b1.size);have HO:=Qa (fun k hk=>Nat.lt_of_lt_of_le (hA k (h.sub k hk)) b1.size);have X1:Hid (Blk (w.alloc (.cells #[.int .i64 3,.int .i64 xa,.int .i64 xb,.int .i64 xc,.int .i64 xk,.int .i64 xn,.slice rg xr.length rc,.slice ag xs.length ac] 46)) w.heap.size #[.int .i64 3,.int .i64 xa,.int .i64 xb,.int .i64 xc,.int .i64 xk,.int .i64 xn,.slice rg xr.length rc,.slice ag xs.length ac] 46):=Blk.new _ _ _;have HRC:Hid (xr.length≤rc):=hrc;clear h hA hJ b1 hregs hargs hE hf f1 f2 f3 ra rb rcc hrc;go_enter Tryz.func35,Tryz.ntmps35
 go_upto_region 1 with fail
 generalize w.alloc (.cells #[.int .i64 3,.int .i64 xa,.int .i64 xb,.int .i64 xc,.int .i64 xk,.int .i64 xn,.slice rg xr.length rc,.slice ag xs.length ac] 46)=w1 at H HR HG HB HA HO X1 ⊢;obtain⟨X,hX⟩:∃ X,w.heap.size=X:=⟨_,rfl⟩
 rw[hX] at X1 ⊢
 clear hX;have x0:=Qb X1.out 0 _ rfl;have x1:=Qb X1.out 1 _ rfl;have x2:=Qb X1.out 2 _ rfl;have x3:=Qb X1.out 3 _ rfl;have x4:=Qb X1.out 4 _ rfl;have x6:=Qb X1.out 6 _ rfl;have x7:=Qb X1.out 7 _ rfl
 have HE2:Hid (∀ e w9,Q0 w b O A s s.openS s.openC e w9→Q0 w b O A s (s.next ⟨3,xa,xb,xc,xk,xn,xr,xs⟩) (s.goC ⟨3,xa,xb,xc,xk,xn,xr,xs⟩) e w9):=fun e w9 hd=>hd.to (by
  unfold JSt.goC;rw[HE.out]
  by_cases h16:s.H.length=16
  ·rw[if_pos h16]
   show Qw 2 _=s.openC;unfold JSt.openC;rw[if_pos (Or.inr h16)];rfl
  ·rw[if_neg h16]
   show Qw 0 (Q8 s.L.length 1)=s.openC;rw[Qz rfl]
   unfold Q8 JSt.openC;by_cases h80:80<s.L.length+1
   ·rw[if_pos h80,if_pos (Or.inl h80)]
   ·rw[if_neg h80,if_neg (by omega)]) (fun h0=>by
  unfold JSt.openC at h0;unfold JSt.next JSt.openS
  rw[HE.out]
  by_cases h16:s.H.length=16
  ·rw[if_pos (Or.inr h16)] at h0;cases h0
  ·rw[if_neg h16];rfl)
 have CM:=Qa (QhE HJ.out.regs hL HA.out H.out);go_wp2_with fail
 refine CM.out.mono ?_;rintro e' w9 hd;have FF:Hid (Q0 w b O A s (s.next ⟨3,xa,xb,xc,xk,xn,xr,xs⟩) (s.goC ⟨3,xa,xb,xc,xk,xn,xr,xs⟩) e' w9):=HE2.out _ _ (hd.after HB.out);rcases hd with ⟨h1,rfl,h3⟩|⟨h1,rfl,h3⟩
 rotate_left
 ·exact⟨rfl,FF.out⟩
 clear h1 h3 CM;go_wp2
 exact bodyPost_end (v:=.tuple #[]) (by simp[results,Tryz.results35,go_sem]) rfl FF.out
theorem QiS {w:World}{b:Nat}{O A Q:Nat→Prop}{s:JSt}{x:Qx}{rg ag:Option Addr}{rc ac:Nat}(hA:∀ k,A k→k<w.heap.size) (hJ:JOk s) (h:SAt w b O A s) (hregs:intsL.In w Q x.regs [.slice rg x.regs.length rc]) (hargs:intsL.In w Q x.args [.slice ag x.args.length ac]) (hrc:x.regs.length≤rc) (hrng:ZA x) (hf:x.form s.m.length=0) (hop:x.op=4) :
 Calls Tryz.prog 35 #[.pointer (some ⟨b,0,none⟩),Qdt x rg ag rc ac] w fun e w'=>Q0 w b O A s (s.next x) (s.goC x) e w':=by
 have hE:=QbW (s:=s) hop;obtain⟨op,xa,xb,xc,xk,xn,xr,xs⟩:=x
 have hop:op=4:=hop;subst hop;have HE:=Qa hE;obtain⟨f1,f2,f3,-⟩:=Q9 hf
 have HF:=Qa (And.intro f1 (And.intro f2 f3));obtain⟨ra,rb,rcc⟩:=hrng
 have HI:=Qa (And.intro ra (And.intro rb rcc));have HJ:=Qa hJ;have H0:=Qa h;have HA0:=Qa hA;have hL:=hJ.vals;have b1:=QQ w (.cells #[.int .i64 4,.int .i64 xa,.int .i64 xb,.int .i64 xc,.int .i64 xk,.int .i64 xn,.slice rg xr.length rc,.slice ag xs.length ac] 46);have H:=Qa (h.below b1);have HR:Hid (intsL.In _ Q xr [.slice rg xr.length rc]):=Lay.below hregs b1;have HG:Hid (intsL.In _ Q xs [.slice ag xs.length ac]):=Lay.below hargs b1;have HB:=Qa b1;have HA:=Qa (fun k hk=>Nat.lt_of_lt_of_le (hA k hk) b1.size);have HO:=Qa (fun k hk=>Nat.lt_of_lt_of_le (hA k (h.sub k hk)) b1.size);have X1:Hid (Blk (w.alloc (.cells #[.int .i64 4,.int .i64 xa,.int .i64 xb,.int .i64 xc,.int .i64 xk,.int .i64 xn,.slice rg xr.length rc,.slice ag xs.length ac] 46)) w.heap.size #[.int .i64 4,.int .i64 xa,.int .i64 xb,.int .i64 xc,.int .i64 xk,.int .i64 xn,.slice rg xr.length rc,.slice ag xs.length ac] 46):=Blk.new _ _ _;have HRC:Hid (xr.length≤rc):=hrc;clear h hA hJ b1 hregs hargs hE hf f1 f2 f3 ra rb rcc hrc;go_enter Tryz.func35,Tryz.ntmps35
 go_upto_region 1 with fail
 generalize w.alloc (.cells #[.int .i64 4,.int .i64 xa,.int .i64 xb,.int .i64 xc,.int .i64 xk,.int .i64 xn,.slice rg xr.length rc,.slice ag xs.length ac] 46)=w1 at H HR HG HB HA HO X1 ⊢;obtain⟨X,hX⟩:∃ X,w.heap.size=X:=⟨_,rfl⟩
 rw[hX] at X1 ⊢
 clear hX;have x0:=Qb X1.out 0 _ rfl;have x1:=Qb X1.out 1 _ rfl;have x2:=Qb X1.out 2 _ rfl;have x3:=Qb X1.out 3 _ rfl;have x4:=Qb X1.out 4 _ rfl;have x6:=Qb X1.out 6 _ rfl;have x7:=Qb X1.out 7 _ rfl
 have HE2:Hid (∀ e w9,Q0 w b O A s (s.freeS xa) (s.freeC xa) e w9→Q0 w b O A s (s.next ⟨4,xa,xb,xc,xk,xn,xr,xs⟩) (s.goC ⟨4,xa,xb,xc,xk,xn,xr,xs⟩) e w9):=fun e w9 hd=>hd.to (by
  unfold JSt.goC JSt.freeC;rw[HE.out]
  show Qw (match s.at xa with | none=>(1,[]) | some t=>(Qw (s.want xa 2 true) (if t.r<s.f.regs then 11 else 0),[])).1 _=_
  cases s.at xa with
  | none=>rfl
  | some t=>show Qw _ (Q8 s.L.length 0)=_;rw[QbC hL,Qfz]) (fun h0=>by
  unfold JSt.next JSt.freeS
  rw[HE.out]
  show ({ s with H:=_,L:=s.L++(match s.at xa with | none=>(1,[]) | some t=>(Qw (s.want xa 2 true) (if t.r<s.f.regs then 11 else 0),[])).2 }:JSt)=_
  cases s.at xa with
  | none=>simp
  | some t=>simp)
 have CM:=Qa (QiB xa hL HA.out H.out);go_wp2_with fail
 refine CM.out.mono ?_;rintro e' w9 hd;have FF:Hid (Q0 w b O A s (s.next ⟨4,xa,xb,xc,xk,xn,xr,xs⟩) (s.goC ⟨4,xa,xb,xc,xk,xn,xr,xs⟩) e' w9):=HE2.out _ _ (hd.after HB.out);rcases hd with ⟨h1,rfl,h3⟩|⟨h1,rfl,h3⟩
 rotate_left
 ·exact⟨rfl,FF.out⟩
 clear h1 h3 CM;go_wp2
 exact bodyPost_end (v:=.tuple #[]) (by simp[results,Tryz.results35,go_sem]) rfl FF.out
theorem Qip {w:World}{b:Nat}{O A Q:Nat→Prop}{s:JSt}{x:Qx}{rg ag:Option Addr}{rc ac:Nat}(hA:∀ k,A k→k<w.heap.size) (hJ:JOk s) (h:SAt w b O A s) (hregs:intsL.In w Q x.regs [.slice rg x.regs.length rc]) (hargs:intsL.In w Q x.args [.slice ag x.args.length ac]) (hrc:x.regs.length≤rc) (hrng:ZA x) (hf:x.form s.m.length=0) (hop:x.op=5) :
 Calls Tryz.prog 35 #[.pointer (some ⟨b,0,none⟩),Qdt x rg ag rc ac] w fun e w'=>Q0 w b O A s (s.next x) (s.goC x) e w':=by
 have hE:=Qbe (s:=s) hop;obtain⟨op,xa,xb,xc,xk,xn,xr,xs⟩:=x
 have hop:op=5:=hop;subst hop;have HE:=Qa hE;obtain⟨f1,f2,f3,-⟩:=Q9 hf
 have HF:=Qa (And.intro f1 (And.intro f2 f3));obtain⟨ra,rb,rcc⟩:=hrng
 have HI:=Qa (And.intro ra (And.intro rb rcc));have HJ:=Qa hJ;have H0:=Qa h;have HA0:=Qa hA;have hL:=hJ.vals;have b1:=QQ w (.cells #[.int .i64 5,.int .i64 xa,.int .i64 xb,.int .i64 xc,.int .i64 xk,.int .i64 xn,.slice rg xr.length rc,.slice ag xs.length ac] 46);have H:=Qa (h.below b1);have HR:Hid (intsL.In _ Q xr [.slice rg xr.length rc]):=Lay.below hregs b1;have HG:Hid (intsL.In _ Q xs [.slice ag xs.length ac]):=Lay.below hargs b1;have HB:=Qa b1;have HA:=Qa (fun k hk=>Nat.lt_of_lt_of_le (hA k hk) b1.size);have HO:=Qa (fun k hk=>Nat.lt_of_lt_of_le (hA k (h.sub k hk)) b1.size);have X1:Hid (Blk (w.alloc (.cells #[.int .i64 5,.int .i64 xa,.int .i64 xb,.int .i64 xc,.int .i64 xk,.int .i64 xn,.slice rg xr.length rc,.slice ag xs.length ac] 46)) w.heap.size #[.int .i64 5,.int .i64 xa,.int .i64 xb,.int .i64 xc,.int .i64 xk,.int .i64 xn,.slice rg xr.length rc,.slice ag xs.length ac] 46):=Blk.new _ _ _;have HRC:Hid (xr.length≤rc):=hrc;clear h hA hJ b1 hregs hargs hE hf f1 f2 f3 ra rb rcc hrc;go_enter Tryz.func35,Tryz.ntmps35
 go_upto_region 1 with fail
 generalize w.alloc (.cells #[.int .i64 5,.int .i64 xa,.int .i64 xb,.int .i64 xc,.int .i64 xk,.int .i64 xn,.slice rg xr.length rc,.slice ag xs.length ac] 46)=w1 at H HR HG HB HA HO X1 ⊢;obtain⟨X,hX⟩:∃ X,w.heap.size=X:=⟨_,rfl⟩
 rw[hX] at X1 ⊢
 clear hX;have x0:=Qb X1.out 0 _ rfl;have x1:=Qb X1.out 1 _ rfl;have x2:=Qb X1.out 2 _ rfl;have x3:=Qb X1.out 3 _ rfl;have x4:=Qb X1.out 4 _ rfl;have x6:=Qb X1.out 6 _ rfl;have x7:=Qb X1.out 7 _ rfl
 have HE2:Hid (∀ e w9,Q0 w b O A s (s.tupleS xa xs) (s.tupleC xa xs) e w9→Q0 w b O A s (s.next ⟨5,xa,xb,xc,xk,xn,xr,xs⟩) (s.goC ⟨5,xa,xb,xc,xk,xn,xr,xs⟩) e w9):=fun e w9 hd=>hd.to (by
  unfold JSt.goC JSt.tupleC;rw[HE.out]
  simp only
  cases ha:s.at xa with
  | none=>unfold JSt.want;rw[ha];rfl
  | some t =>
    simp only
    by_cases hw:s.want xa 2 true=0
    ·rw[if_pos hw,Qz hw]
     cases s.fields xs with
     | none=>rfl
     | some l =>
       simp only
       by_cases h4:4<TT.height (n:=7) (mkT 3 t.r l)
       ·rw[if_pos h4,if_pos h4];rfl
       ·rw[if_neg h4,if_neg h4];rfl
    ·rw[if_neg hw,Qm hw,Qm hw]) (fun h0=>by
  rw[Q4 (by simp) (by simp),HE.out]
  unfold JSt.tupleC at h0;unfold JSt.tupleS;simp only
  cases ha:s.at xa with
  | none=>rfl
  | some t =>
    rw[ha] at h0
    simp only at h0 ⊢
    by_cases hw:s.want xa 2 true=0
    ·rw[Qz hw] at h0
     rw[if_pos hw]
     cases hl:s.fields xs with
     | none=>simp[hl] at h0
     | some l =>
       rw[hl] at h0
       simp only at h0 ⊢
       by_cases h4:4<TT.height (n:=7) (mkT 3 t.r l)
       ·rw[if_pos h4] at h0;cases h0
       ·rw[if_neg h4]
    ·rw[Qm hw] at h0;exact absurd h0 hw)
 have CM:=Qa (QgJ xa rfl (HF.out.2.2 rfl) HG.out HJ.out HA.out H.out);go_wp2_with fail
 refine CM.out.mono ?_;rintro e' w9 hd;have FF:Hid (Q0 w b O A s (s.next ⟨5,xa,xb,xc,xk,xn,xr,xs⟩) (s.goC ⟨5,xa,xb,xc,xk,xn,xr,xs⟩) e' w9):=HE2.out _ _ (hd.after HB.out);rcases hd with ⟨h1,rfl,h3⟩|⟨h1,rfl,h3⟩
 rotate_left
 ·exact⟨rfl,FF.out⟩
 clear h1 h3 CM;go_wp2
 exact bodyPost_end (v:=.tuple #[]) (by simp[results,Tryz.results35,go_sem]) rfl FF.out
theorem Qh3 {w:World}{b:Nat}{O A Q:Nat→Prop}{s:JSt}{x:Qx}{rg ag:Option Addr}{rc ac:Nat}(hA:∀ k,A k→k<w.heap.size) (hJ:JOk s) (h:SAt w b O A s) (hregs:intsL.In w Q x.regs [.slice rg x.regs.length rc]) (hargs:intsL.In w Q x.args [.slice ag x.args.length ac]) (hrc:x.regs.length≤rc) (hrng:ZA x) (hf:x.form s.m.length=0) (hop:x.op=8) :
 Calls Tryz.prog 35 #[.pointer (some ⟨b,0,none⟩),Qdt x rg ag rc ac] w fun e w'=>Q0 w b O A s (s.next x) (s.goC x) e w':=by
 have hE:=QcS (s:=s) hop;obtain⟨op,xa,xb,xc,xk,xn,xr,xs⟩:=x
 have hop:op=8:=hop;subst hop;have HE:=Qa hE;obtain⟨f1,f2,f3,-⟩:=Q9 hf
 have HF:=Qa (And.intro f1 (And.intro f2 f3));obtain⟨ra,rb,rcc⟩:=hrng
 have HI:=Qa (And.intro ra (And.intro rb rcc));have HJ:=Qa hJ;have H0:=Qa h;have HA0:=Qa hA;have hL:=hJ.vals;have b1:=QQ w (.cells #[.int .i64 8,.int .i64 xa,.int .i64 xb,.int .i64 xc,.int .i64 xk,.int .i64 xn,.slice rg xr.length rc,.slice ag xs.length ac] 46);have H:=Qa (h.below b1);have HR:Hid (intsL.In _ Q xr [.slice rg xr.length rc]):=Lay.below hregs b1;have HG:Hid (intsL.In _ Q xs [.slice ag xs.length ac]):=Lay.below hargs b1;have HB:=Qa b1;have HA:=Qa (fun k hk=>Nat.lt_of_lt_of_le (hA k hk) b1.size);have HO:=Qa (fun k hk=>Nat.lt_of_lt_of_le (hA k (h.sub k hk)) b1.size);have X1:Hid (Blk (w.alloc (.cells #[.int .i64 8,.int .i64 xa,.int .i64 xb,.int .i64 xc,.int .i64 xk,.int .i64 xn,.slice rg xr.length rc,.slice ag xs.length ac] 46)) w.heap.size #[.int .i64 8,.int .i64 xa,.int .i64 xb,.int .i64 xc,.int .i64 xk,.int .i64 xn,.slice rg xr.length rc,.slice ag xs.length ac] 46):=Blk.new _ _ _;have HRC:Hid (xr.length≤rc):=hrc;clear h hA hJ b1 hregs hargs hE hf f1 f2 f3 ra rb rcc hrc;go_enter Tryz.func35,Tryz.ntmps35
 go_upto_region 1 with fail
 generalize w.alloc (.cells #[.int .i64 8,.int .i64 xa,.int .i64 xb,.int .i64 xc,.int .i64 xk,.int .i64 xn,.slice rg xr.length rc,.slice ag xs.length ac] 46)=w1 at H HR HG HB HA HO X1 ⊢;obtain⟨X,hX⟩:∃ X,w.heap.size=X:=⟨_,rfl⟩
 rw[hX] at X1 ⊢
 clear hX;have x0:=Qb X1.out 0 _ rfl;have x1:=Qb X1.out 1 _ rfl;have x2:=Qb X1.out 2 _ rfl;have x3:=Qb X1.out 3 _ rfl;have x4:=Qb X1.out 4 _ rfl;have x6:=Qb X1.out 6 _ rfl;have x7:=Qb X1.out 7 _ rfl
 have HE2:Hid (∀ e w9,(∀ t,(s.at xa=some t∨(s.at xa=none∧t=tInt))→Q0 w b O A s { s with L:=s.L++[mkT 4 t.r []] } (s.arrayC xa xb) e w9)→Q0 w b O A s (s.next ⟨8,xa,xb,xc,xk,xn,xr,xs⟩) (s.goC ⟨8,xa,xb,xc,xk,xn,xr,xs⟩) e w9):=fun e w9 hd=>by
  cases ha:s.at xa with
  | none =>
    refine(hd tInt (.inr ⟨ha,rfl⟩)).to (by unfold JSt.goC JSt.arrayC;rw[HE.out];simp only[ha];unfold JSt.want;rw[ha];rfl) (fun h0=>?_)
    unfold JSt.arrayC JSt.want at h0;rw[ha] at h0
    cases h0
  | some t =>
    refine(hd t (.inl ha)).to (by unfold JSt.goC JSt.arrayC;rw[HE.out];simp only[ha];rfl) (fun h0=>?_)
    rw[Q4 (by simp) (by simp),HE.out]
    simp only[ha]
 have CM:=Qa (QgF xa xb HI.out.2.1 HJ.out.regs hL HA.out H.out);go_wp2_with fail
 refine CM.out.mono ?_;rintro e' w9 hd;have FF:Hid (Q0 w b O A s (s.next ⟨8,xa,xb,xc,xk,xn,xr,xs⟩) (s.goC ⟨8,xa,xb,xc,xk,xn,xr,xs⟩) e' w9):=HE2.out _ _ (fun t ht=>(hd t ht).after HB.out);have hd:=hd ((s.at xa).getD tInt) (by cases s.at xa with | none=>exact .inr ⟨rfl,rfl⟩ | some t=>exact .inl rfl);rcases hd with ⟨h1,rfl,h3⟩|⟨h1,rfl,h3⟩
 rotate_left
 ·exact⟨rfl,FF.out⟩
 clear h1 h3 CM;go_wp2
 exact bodyPost_end (v:=.tuple #[]) (by simp[results,Tryz.results35,go_sem]) rfl FF.out
theorem Qi7 {w:World}{b:Nat}{O A Q:Nat→Prop}{s:JSt}{x:Qx}{rg ag:Option Addr}{rc ac:Nat}(hA:∀ k,A k→k<w.heap.size) (hJ:JOk s) (h:SAt w b O A s) (hregs:intsL.In w Q x.regs [.slice rg x.regs.length rc]) (hargs:intsL.In w Q x.args [.slice ag x.args.length ac]) (hrc:x.regs.length≤rc) (hrng:ZA x) (hf:x.form s.m.length=0) (hop:x.op=9) :
 Calls Tryz.prog 35 #[.pointer (some ⟨b,0,none⟩),Qdt x rg ag rc ac] w fun e w'=>Q0 w b O A s (s.next x) (s.goC x) e w':=by
 have hE:=Qdv (s:=s) hop;obtain⟨op,xa,xb,xc,xk,xn,xr,xs⟩:=x
 have hop:op=9:=hop;subst hop;have HE:=Qa hE;obtain⟨f1,f2,f3,-⟩:=Q9 hf
 have HF:=Qa (And.intro f1 (And.intro f2 f3));obtain⟨ra,rb,rcc⟩:=hrng
 have HI:=Qa (And.intro ra (And.intro rb rcc));have HJ:=Qa hJ;have H0:=Qa h;have HA0:=Qa hA;have hL:=hJ.vals;have b1:=QQ w (.cells #[.int .i64 9,.int .i64 xa,.int .i64 xb,.int .i64 xc,.int .i64 xk,.int .i64 xn,.slice rg xr.length rc,.slice ag xs.length ac] 46);have H:=Qa (h.below b1);have HR:Hid (intsL.In _ Q xr [.slice rg xr.length rc]):=Lay.below hregs b1;have HG:Hid (intsL.In _ Q xs [.slice ag xs.length ac]):=Lay.below hargs b1;have HB:=Qa b1;have HA:=Qa (fun k hk=>Nat.lt_of_lt_of_le (hA k hk) b1.size);have HO:=Qa (fun k hk=>Nat.lt_of_lt_of_le (hA k (h.sub k hk)) b1.size);have X1:Hid (Blk (w.alloc (.cells #[.int .i64 9,.int .i64 xa,.int .i64 xb,.int .i64 xc,.int .i64 xk,.int .i64 xn,.slice rg xr.length rc,.slice ag xs.length ac] 46)) w.heap.size #[.int .i64 9,.int .i64 xa,.int .i64 xb,.int .i64 xc,.int .i64 xk,.int .i64 xn,.slice rg xr.length rc,.slice ag xs.length ac] 46):=Blk.new _ _ _;have HRC:Hid (xr.length≤rc):=hrc;clear h hA hJ b1 hregs hargs hE hf f1 f2 f3 ra rb rcc hrc;go_enter Tryz.func35,Tryz.ntmps35
 go_upto_region 1 with fail
 generalize w.alloc (.cells #[.int .i64 9,.int .i64 xa,.int .i64 xb,.int .i64 xc,.int .i64 xk,.int .i64 xn,.slice rg xr.length rc,.slice ag xs.length ac] 46)=w1 at H HR HG HB HA HO X1 ⊢;obtain⟨X,hX⟩:∃ X,w.heap.size=X:=⟨_,rfl⟩
 rw[hX] at X1 ⊢
 clear hX;have x0:=Qb X1.out 0 _ rfl;have x1:=Qb X1.out 1 _ rfl;have x2:=Qb X1.out 2 _ rfl;have x3:=Qb X1.out 3 _ rfl;have x4:=Qb X1.out 4 _ rfl;have x6:=Qb X1.out 6 _ rfl;have x7:=Qb X1.out 7 _ rfl;have EG:Hid (s.goC ⟨9,xa,xb,xc,xk,xn,xr,xs⟩=Qw (Qw (s.want xa 4 true) (s.want xb 1 false)) (Q8 s.L.length 1)):=by show _=_;unfold JSt.goC;rw[HE.out];rfl
 have C1:=Qa (Z0 xa 4 hL HO.out H.out);go_wp2_with fail
 refine(C1.out ).mono ?_
 rintro e' w2 ⟨hq,b2⟩;have HB2:=Qa (HB.out.trans (b2.mono HB.out.size));have H2:=Qa (H.out.below b2);have HA2:=Qa (fun k hk=>Nat.lt_of_lt_of_le (HA.out k hk) b2.size);have HO2:=Qa (fun k hk=>Nat.lt_of_lt_of_le (HO.out k hk) b2.size);rcases hq with ⟨hc,y2,rfl,hy⟩|⟨hc,rfl⟩
 rotate_left
 ·exact⟨rfl,Q0.bad ((fun hc=>by rw[EG.out,Qm (by rw[Qm hc];exact hc),Qm hc]) hc) hc (STo.of_below H0.out HB2.out)⟩
 have HC2:=Qa hc;have x2:=QY x2 b2;clear hc b2 C1;have C2:=Qa (fun d=>QbG xb HI.out.2.1 d hL HO2.out H2.out);go_wp2_with fail
 refine(C2.out _).mono ?_
 rintro e' w3 ⟨hq,b3⟩;have HB3:=Qa (HB2.out.trans (b3.mono HB2.out.size));have H3:=Qa (H2.out.below b3);have HA3:=Qa (fun k hk=>Nat.lt_of_lt_of_le (HA2.out k hk) b3.size);have HO3:=Qa (fun k hk=>Nat.lt_of_lt_of_le (HO2.out k hk) b3.size);rcases hq with ⟨hc,y3,rfl,hy⟩|⟨hc,rfl⟩
 rotate_left
 ·exact⟨rfl,Q0.bad ((fun hc=>by rw[EG.out,Qz HC2.out,Qm hc]) hc) hc (STo.of_below H0.out HB3.out)⟩
 subst hy;have HC3:=Qa hc;clear hc b3 C2;have HE2:Hid (∀ e w9,Q0 w b O A s { s with L:=s.L++[tInt] } (Q8 s.L.length 1) e w9→Q0 w b O A s (s.next ⟨9,xa,xb,xc,xk,xn,xr,xs⟩) (s.goC ⟨9,xa,xb,xc,xk,xn,xr,xs⟩) e w9):=fun e w9 hd=>hd.to (by rw[EG.out,Qz HC2.out,Qz HC3.out]) (fun _=>by rw[Q4 (by simp) (by simp),HE.out]);have CM:=Qa (Qbt hL HA3.out H3.out);go_wp2_with fail
 refine CM.out.mono ?_;rintro e' w9 hd;have FF:Hid (Q0 w b O A s (s.next ⟨9,xa,xb,xc,xk,xn,xr,xs⟩) (s.goC ⟨9,xa,xb,xc,xk,xn,xr,xs⟩) e' w9):=HE2.out _ _ (hd.after HB3.out);rcases hd with ⟨h1,rfl,h3⟩|⟨h1,rfl,h3⟩
 rotate_left
 ·exact⟨rfl,FF.out⟩
 clear h1 h3 CM;go_wp2
 exact bodyPost_end (v:=.tuple #[]) (by simp[results,Tryz.results35,go_sem]) rfl FF.out
theorem Qh6 {w:World}{b:Nat}{O A Q:Nat→Prop}{s:JSt}{x:Qx}{rg ag:Option Addr}{rc ac:Nat}(hA:∀ k,A k→k<w.heap.size) (hJ:JOk s) (h:SAt w b O A s) (hregs:intsL.In w Q x.regs [.slice rg x.regs.length rc]) (hargs:intsL.In w Q x.args [.slice ag x.args.length ac]) (hrc:x.regs.length≤rc) (hrng:ZA x) (hf:x.form s.m.length=0) (hop:x.op=10) :
 Calls Tryz.prog 35 #[.pointer (some ⟨b,0,none⟩),Qdt x rg ag rc ac] w fun e w'=>Q0 w b O A s (s.next x) (s.goC x) e w':=by
 have hE:=Qc4 (s:=s) hop;obtain⟨op,xa,xb,xc,xk,xn,xr,xs⟩:=x
 have hop:op=10:=hop;subst hop;have HE:=Qa hE;obtain⟨f1,f2,f3,-⟩:=Q9 hf
 have HF:=Qa (And.intro f1 (And.intro f2 f3));obtain⟨ra,rb,rcc⟩:=hrng
 have HI:=Qa (And.intro ra (And.intro rb rcc));have HJ:=Qa hJ;have H0:=Qa h;have HA0:=Qa hA;have hL:=hJ.vals;have b1:=QQ w (.cells #[.int .i64 10,.int .i64 xa,.int .i64 xb,.int .i64 xc,.int .i64 xk,.int .i64 xn,.slice rg xr.length rc,.slice ag xs.length ac] 46);have H:=Qa (h.below b1);have HR:Hid (intsL.In _ Q xr [.slice rg xr.length rc]):=Lay.below hregs b1;have HG:Hid (intsL.In _ Q xs [.slice ag xs.length ac]):=Lay.below hargs b1;have HB:=Qa b1;have HA:=Qa (fun k hk=>Nat.lt_of_lt_of_le (hA k hk) b1.size);have HO:=Qa (fun k hk=>Nat.lt_of_lt_of_le (hA k (h.sub k hk)) b1.size);have X1:Hid (Blk (w.alloc (.cells #[.int .i64 10,.int .i64 xa,.int .i64 xb,.int .i64 xc,.int .i64 xk,.int .i64 xn,.slice rg xr.length rc,.slice ag xs.length ac] 46)) w.heap.size #[.int .i64 10,.int .i64 xa,.int .i64 xb,.int .i64 xc,.int .i64 xk,.int .i64 xn,.slice rg xr.length rc,.slice ag xs.length ac] 46):=Blk.new _ _ _;have HRC:Hid (xr.length≤rc):=hrc;clear h hA hJ b1 hregs hargs hE hf f1 f2 f3 ra rb rcc hrc;go_enter Tryz.func35,Tryz.ntmps35
 go_upto_region 1 with fail
 generalize w.alloc (.cells #[.int .i64 10,.int .i64 xa,.int .i64 xb,.int .i64 xc,.int .i64 xk,.int .i64 xn,.slice rg xr.length rc,.slice ag xs.length ac] 46)=w1 at H HR HG HB HA HO X1 ⊢;obtain⟨X,hX⟩:∃ X,w.heap.size=X:=⟨_,rfl⟩
 rw[hX] at X1 ⊢
 clear hX;have x0:=Qb X1.out 0 _ rfl;have x1:=Qb X1.out 1 _ rfl;have x2:=Qb X1.out 2 _ rfl;have x3:=Qb X1.out 3 _ rfl;have x4:=Qb X1.out 4 _ rfl;have x6:=Qb X1.out 6 _ rfl;have x7:=Qb X1.out 7 _ rfl;have EG:Hid (s.goC ⟨10,xa,xb,xc,xk,xn,xr,xs⟩=Qw (s.want xa 4 true) (Qw (s.want xb 1 false) (s.want xc 1 false))):=by show _=_;unfold JSt.goC;rw[HE.out];show Qw _ (Q8 s.L.length 0)=_;rw[QbC hL,Qfz]
 have C1:=Qa (Z0 xa 4 hL HO.out H.out);go_wp2_with fail
 refine(C1.out ).mono ?_
 rintro e' w2 ⟨hq,b2⟩;have HB2:=Qa (HB.out.trans (b2.mono HB.out.size));have H2:=Qa (H.out.below b2);have HA2:=Qa (fun k hk=>Nat.lt_of_lt_of_le (HA.out k hk) b2.size);have HO2:=Qa (fun k hk=>Nat.lt_of_lt_of_le (HO.out k hk) b2.size);rcases hq with ⟨hc,y2,rfl,hy⟩|⟨hc,rfl⟩
 rotate_left
 ·exact⟨rfl,Q0.bad ((fun hc=>by rw[EG.out,Qm hc]) hc) hc (STo.of_below H0.out HB2.out)⟩
 have HC2:=Qa hc;have x2:=QY x2 b2;have x3:=QY x3 b2;clear hc b2 C1;have C2:=Qa (fun d=>Qet xb xc HI.out.2.1 HI.out.2.2 d hL HO2.out H2.out);go_wp2_with fail
 refine(C2.out _).mono ?_
 rintro e' w3 ⟨hq,b3⟩;have HB3:=Qa (HB2.out.trans (b3.mono HB2.out.size));have H3:=Qa (H2.out.below b3);have HA3:=Qa (fun k hk=>Nat.lt_of_lt_of_le (HA2.out k hk) b3.size);have HO3:=Qa (fun k hk=>Nat.lt_of_lt_of_le (HO2.out k hk) b3.size);rcases hq with ⟨hc,y3,rfl,hy⟩|⟨hc,rfl⟩
 rotate_left
 ·exact⟨rfl,Q0.bad ((fun hc=>by rw[EG.out,Qz HC2.out]) hc) hc (STo.of_below H0.out HB3.out)⟩
 subst hy;have HC3:=Qa hc;clear hc b3 C2;have FF:Hid (Q0 w b O A s (s.next ⟨10,xa,xb,xc,xk,xn,xr,xs⟩) (s.goC ⟨10,xa,xb,xc,xk,xn,xr,xs⟩) (.returned (.tuple #[])) w3):=Q0.none H0.out HB3.out (by rw[EG.out,Qz HC2.out,HC3.out]) (by rw[Q4 (by simp) (by simp),HE.out];simp);go_wp2
 exact bodyPost_end (v:=.tuple #[]) (by simp[results,Tryz.results35,go_sem]) rfl FF.out
theorem Qku {w:World}{b:Nat}{O A Q:Nat→Prop}{s:JSt}{x:Qx}{rg ag:Option Addr}{rc ac:Nat}(hA:∀ k,A k→k<w.heap.size) (hJ:JOk s) (h:SAt w b O A s) (hregs:intsL.In w Q x.regs [.slice rg x.regs.length rc]) (hargs:intsL.In w Q x.args [.slice ag x.args.length ac]) (hrc:x.regs.length≤rc) (hrng:ZA x) (hf:x.form s.m.length=0) (hop:x.op=11) :
 Calls Tryz.prog 35 #[.pointer (some ⟨b,0,none⟩),Qdt x rg ag rc ac] w fun e w'=>Q0 w b O A s (s.next x) (s.goC x) e w':=by
 have hE:=QeC (s:=s) hop;obtain⟨op,xa,xb,xc,xk,xn,xr,xs⟩:=x
 have hop:op=11:=hop;subst hop;have HE:=Qa hE;obtain⟨f1,f2,f3,-⟩:=Q9 hf
 have HF:=Qa (And.intro f1 (And.intro f2 f3));obtain⟨ra,rb,rcc⟩:=hrng
 have HI:=Qa (And.intro ra (And.intro rb rcc));have HJ:=Qa hJ;have H0:=Qa h;have HA0:=Qa hA;have hL:=hJ.vals;have b1:=QQ w (.cells #[.int .i64 11,.int .i64 xa,.int .i64 xb,.int .i64 xc,.int .i64 xk,.int .i64 xn,.slice rg xr.length rc,.slice ag xs.length ac] 46);have H:=Qa (h.below b1);have HR:Hid (intsL.In _ Q xr [.slice rg xr.length rc]):=Lay.below hregs b1;have HG:Hid (intsL.In _ Q xs [.slice ag xs.length ac]):=Lay.below hargs b1;have HB:=Qa b1;have HA:=Qa (fun k hk=>Nat.lt_of_lt_of_le (hA k hk) b1.size);have HO:=Qa (fun k hk=>Nat.lt_of_lt_of_le (hA k (h.sub k hk)) b1.size);have X1:Hid (Blk (w.alloc (.cells #[.int .i64 11,.int .i64 xa,.int .i64 xb,.int .i64 xc,.int .i64 xk,.int .i64 xn,.slice rg xr.length rc,.slice ag xs.length ac] 46)) w.heap.size #[.int .i64 11,.int .i64 xa,.int .i64 xb,.int .i64 xc,.int .i64 xk,.int .i64 xn,.slice rg xr.length rc,.slice ag xs.length ac] 46):=Blk.new _ _ _;have HRC:Hid (xr.length≤rc):=hrc;clear h hA hJ b1 hregs hargs hE hf f1 f2 f3 ra rb rcc hrc;go_enter Tryz.func35,Tryz.ntmps35
 go_upto_region 1 with fail
 generalize w.alloc (.cells #[.int .i64 11,.int .i64 xa,.int .i64 xb,.int .i64 xc,.int .i64 xk,.int .i64 xn,.slice rg xr.length rc,.slice ag xs.length ac] 46)=w1 at H HR HG HB HA HO X1 ⊢;obtain⟨X,hX⟩:∃ X,w.heap.size=X:=⟨_,rfl⟩
 rw[hX] at X1 ⊢
 clear hX;have x0:=Qb X1.out 0 _ rfl;have x1:=Qb X1.out 1 _ rfl;have x2:=Qb X1.out 2 _ rfl;have x3:=Qb X1.out 3 _ rfl;have x4:=Qb X1.out 4 _ rfl;have x6:=Qb X1.out 6 _ rfl;have x7:=Qb X1.out 7 _ rfl;have EG:Hid (s.goC ⟨11,xa,xb,xc,xk,xn,xr,xs⟩=Qw (s.want xa 4 true) (Q8 s.L.length 1)):=by show _=_;unfold JSt.goC;rw[HE.out];rfl
 have C1:=Qa (Z0 xa 4 hL HO.out H.out);go_wp2_with fail
 refine(C1.out ).mono ?_
 rintro e' w2 ⟨hq,b2⟩;have HB2:=Qa (HB.out.trans (b2.mono HB.out.size));have H2:=Qa (H.out.below b2);have HA2:=Qa (fun k hk=>Nat.lt_of_lt_of_le (HA.out k hk) b2.size);have HO2:=Qa (fun k hk=>Nat.lt_of_lt_of_le (HO.out k hk) b2.size);rcases hq with ⟨hc,y2,rfl,hy⟩|⟨hc,rfl⟩
 rotate_left
 ·exact⟨rfl,Q0.bad ((fun hc=>by rw[EG.out,Qm hc]) hc) hc (STo.of_below H0.out HB2.out)⟩
 have HC2:=Qa hc;clear hc b2 C1;have HE2:Hid (∀ e w9,Q0 w b O A s { s with L:=s.L++[tInt] } (Q8 s.L.length 1) e w9→Q0 w b O A s (s.next ⟨11,xa,xb,xc,xk,xn,xr,xs⟩) (s.goC ⟨11,xa,xb,xc,xk,xn,xr,xs⟩) e w9):=fun e w9 hd=>hd.to (by rw[EG.out,Qz HC2.out]) (fun _=>by rw[Q4 (by simp) (by simp),HE.out]);have CM:=Qa (Qbt hL HA2.out H2.out);go_wp2_with fail
 refine CM.out.mono ?_;rintro e' w9 hd;have FF:Hid (Q0 w b O A s (s.next ⟨11,xa,xb,xc,xk,xn,xr,xs⟩) (s.goC ⟨11,xa,xb,xc,xk,xn,xr,xs⟩) e' w9):=HE2.out _ _ (hd.after HB2.out);rcases hd with ⟨h1,rfl,h3⟩|⟨h1,rfl,h3⟩
 rotate_left
 ·exact⟨rfl,FF.out⟩
 clear h1 h3 CM;go_wp2
 exact bodyPost_end (v:=.tuple #[]) (by simp[results,Tryz.results35,go_sem]) rfl FF.out
theorem Qkk {w:World}{b:Nat}{O A Q:Nat→Prop}{s:JSt}{x:Qx}{rg ag:Option Addr}{rc ac:Nat}(hA:∀ k,A k→k<w.heap.size) (hJ:JOk s) (h:SAt w b O A s) (hregs:intsL.In w Q x.regs [.slice rg x.regs.length rc]) (hargs:intsL.In w Q x.args [.slice ag x.args.length ac]) (hrc:x.regs.length≤rc) (hrng:ZA x) (hf:x.form s.m.length=0) (hop:x.op=13) :
 Calls Tryz.prog 35 #[.pointer (some ⟨b,0,none⟩),Qdt x rg ag rc ac] w fun e w'=>Q0 w b O A s (s.next x) (s.goC x) e w':=by
 have hE:=QcJ (s:=s) hop;obtain⟨op,xa,xb,xc,xk,xn,xr,xs⟩:=x
 have hop:op=13:=hop;subst hop;have HE:=Qa hE;obtain⟨f1,f2,f3,-⟩:=Q9 hf
 have HF:=Qa (And.intro f1 (And.intro f2 f3));obtain⟨ra,rb,rcc⟩:=hrng
 have HI:=Qa (And.intro ra (And.intro rb rcc));have HJ:=Qa hJ;have H0:=Qa h;have HA0:=Qa hA;have hL:=hJ.vals;have b1:=QQ w (.cells #[.int .i64 13,.int .i64 xa,.int .i64 xb,.int .i64 xc,.int .i64 xk,.int .i64 xn,.slice rg xr.length rc,.slice ag xs.length ac] 46);have H:=Qa (h.below b1);have HR:Hid (intsL.In _ Q xr [.slice rg xr.length rc]):=Lay.below hregs b1;have HG:Hid (intsL.In _ Q xs [.slice ag xs.length ac]):=Lay.below hargs b1;have HB:=Qa b1;have HA:=Qa (fun k hk=>Nat.lt_of_lt_of_le (hA k hk) b1.size);have HO:=Qa (fun k hk=>Nat.lt_of_lt_of_le (hA k (h.sub k hk)) b1.size);have X1:Hid (Blk (w.alloc (.cells #[.int .i64 13,.int .i64 xa,.int .i64 xb,.int .i64 xc,.int .i64 xk,.int .i64 xn,.slice rg xr.length rc,.slice ag xs.length ac] 46)) w.heap.size #[.int .i64 13,.int .i64 xa,.int .i64 xb,.int .i64 xc,.int .i64 xk,.int .i64 xn,.slice rg xr.length rc,.slice ag xs.length ac] 46):=Blk.new _ _ _;have HRC:Hid (xr.length≤rc):=hrc;clear h hA hJ b1 hregs hargs hE hf f1 f2 f3 ra rb rcc hrc;go_enter Tryz.func35,Tryz.ntmps35
 go_upto_region 1 with fail
 generalize w.alloc (.cells #[.int .i64 13,.int .i64 xa,.int .i64 xb,.int .i64 xc,.int .i64 xk,.int .i64 xn,.slice rg xr.length rc,.slice ag xs.length ac] 46)=w1 at H HR HG HB HA HO X1 ⊢;obtain⟨X,hX⟩:∃ X,w.heap.size=X:=⟨_,rfl⟩
 rw[hX] at X1 ⊢
 clear hX;have x0:=Qb X1.out 0 _ rfl;have x1:=Qb X1.out 1 _ rfl;have x2:=Qb X1.out 2 _ rfl;have x3:=Qb X1.out 3 _ rfl;have x4:=Qb X1.out 4 _ rfl;have x6:=Qb X1.out 6 _ rfl;have x7:=Qb X1.out 7 _ rfl;have EG:Hid (s.goC ⟨13,xa,xb,xc,xk,xn,xr,xs⟩=s.want xa 1 false):=by show _=_;unfold JSt.goC;rw[HE.out];show Qw _ (Q8 s.L.length 0)=_;rw[QbC hL,Qfz]
 have C1:=Qa (fun d=>QbG xa HI.out.1 d hL HO.out H.out);go_wp2_with fail
 refine(C1.out _).mono ?_
 rintro e' w2 ⟨hq,b2⟩;have HB2:=Qa (HB.out.trans (b2.mono HB.out.size));have H2:=Qa (H.out.below b2);have HA2:=Qa (fun k hk=>Nat.lt_of_lt_of_le (HA.out k hk) b2.size);have HO2:=Qa (fun k hk=>Nat.lt_of_lt_of_le (HO.out k hk) b2.size);rcases hq with ⟨hc,y2,rfl,hy⟩|⟨hc,rfl⟩
 rotate_left
 ·exact⟨rfl,Q0.bad ((fun hc=>by rw[EG.out]) hc) hc (STo.of_below H0.out HB2.out)⟩
 subst hy;have HC2:=Qa hc;clear hc b2 C1;have FF:Hid (Q0 w b O A s (s.next ⟨13,xa,xb,xc,xk,xn,xr,xs⟩) (s.goC ⟨13,xa,xb,xc,xk,xn,xr,xs⟩) (.returned (.tuple #[])) w2):=Q0.none H0.out HB2.out (by rw[EG.out,HC2.out]) (by rw[Q4 (by simp) (by simp),HE.out];simp);go_wp2
 exact bodyPost_end (v:=.tuple #[]) (by simp[results,Tryz.results35,go_sem]) rfl FF.out
def JSt.fieldC (s:JSt) (a:Int) (k:Nat):Int:=Qw (s.want a 3 true) (match s.at a with | none=>0 | some t=>if k<t.2.2.length then 0 else 9)
def Qlw (w:World) (A:Nat→Prop) (s:JSt) (a:Int) (k:Nat) (x:Value):Prop:=∃ (t:TT 6) (u:TT 5) (p:Option Addr) (c:Nat),s.at a=some t∧t.2.2[k]?=some u∧x=Tv u p c∧TIn w (fun g=>¬ A g) u p
theorem QcG {s:JSt}{a:Int}{k:Nat}(h:s.want a 3 true≠0):s.fieldC a k=s.want a 3 true:=by unfold JSt.fieldC Qw;rw[if_neg h]
theorem Qg8 {s:JSt}{a:Int}{k:Nat}{t:TT 6}(h:s.want a 3 true=0) (ha:s.at a=some t):s.fieldC a k=if k<t.2.2.length then 0 else 9:=by unfold JSt.fieldC Qw;rw[if_pos h,ha]
theorem Qdx {w:World}{b:Nat}{O A:Nat→Prop}{s:JSt}(a:Int) (k:Nat) (hk100:k≤100) (hL:s.L.length≤80) (hO:∀ k,O k→k<w.heap.size) (h:SAt w b O A s) :
 Calls Tryz.prog 71 #[.pointer (some ⟨b,0,none⟩),.int .i64 a,.int .i64 k] w fun e w'=>ZG (s.fieldC a k) (Qlw w' A s a k) e∧Below w.heap.size w w':=by
 have b1:=QQ w (.cells #[.int .i64 0,.int .i64 0,.slice none 0 0] 70);have H1:=Qa (h.more hO b1);have B1:=Qa b1;have X1:Hid (Blk (w.alloc (.cells #[.int .i64 0,.int .i64 0,.slice none 0 0] 70)) w.heap.size #[.int .i64 0,.int .i64 0,.slice none 0 0] 70):=Blk.new _ _ _;have HO:=Qa hO;clear h b1 hO;go_enter Tryz.func71,Tryz.ntmps71
 go_upto_region 1 with fail
 generalize w.alloc (.cells #[.int .i64 0,.int .i64 0,.slice none 0 0] 70)=w1 at H1 B1 X1 ⊢;obtain⟨R,hR⟩:∃ R,w.heap.size=R:=⟨_,rfl⟩
 have HR:=Qa (Nat.le_of_eq hR);rw[hR] at X1 ⊢
 clear hR;go_wp2_with fail
 refine(Z0 a 3 hL (fun k hk=>Nat.lt_of_lt_of_le (HO.out k hk) B1.out.size) H1.out).mono ?_
 rintro e' w2 ⟨hO,b2⟩;have B2:Hid (Below w.heap.size w w2):=B1.out.trans (b2.mono B1.out.size);have X2:=Qa (X1.out.below b2);rcases hO with ⟨hc,x,rfl,t,p,c,ha,rfl,ht,hok⟩|⟨hc,rfl⟩
 rotate_left
 ·exact⟨rfl,.inr ⟨by rw[QcG hc];exact hc,by rw[QcG hc]⟩,B2.out⟩
 have T3:=Qa (Qg4.mk1 (c:=c) B2.out X2.out HR.out ht);have HA:=Qa ha;have E:=Qa (Qg8 (k:=k) hc ha);clear ht ha hok b2 X1 B1 H1 X2 hc;go_upto_region 2 with fail
 generalize w2.alloc (.cells #[.int .i64 t.kind,.int .i64 t.r,.slice p t.len c] 70)=w3 at T3 ⊢;generalize w2.heap.size=B at T3 ⊢;obtain⟨y0,y1,y2,r0,r1,r2,z0,z1,z2⟩:=T3.out.cells
 have hne:=T3.out.ne;have hTl:Hid (t.len=t.2.2.length):=TT.len_eq t;by_cases hkl:k<t.2.2.length
 rotate_left
 ·have E9:Hid (s.fieldC a k=9):=by show _=_;rw[E.out,if_neg hkl]
  have hlt:¬ (k:Int)<t.len:=by rw[hTl.out];omega
  clear hkl;generalize t.len=tl at y2 hlt;go_wp2_with fail
  refine(Zd _ 9).mono ?_
  rintro e' w' ⟨rfl,hw⟩;subst hw;exact⟨rfl,ZG.bad E9.out (by decide),T3.out.bel⟩
 ·have E9:Hid (s.fieldC a k=0):=by show _=_;rw[E.out,if_pos hkl]
  have hlt:(k:Int)<t.len:=by rw[hTl.out];omega
  have HU:Hid (t.2.2[k]?=some t.2.2[k]):=List.getElem?_eq_getElem hkl;generalize t.2.2[k]=u at HU;obtain⟨g,o,p',c',rfl,hg,u0,u1,u2,ut⟩:=T3.out.lay k u HU.out
  have UT:Hid (TIn w3 (fun g=>¬ (A g∨w.heap.size≤g)) u p'):=ut;have hRg:¬ R=g:=fun e=>by subst e;exact hg (.inr T3.out.farR)
  have hBg:¬ B=g:=fun e=>by subst e;exact hg (.inr T3.out.farB)
  clear ut hkl hg;obtain⟨x9,b9⟩:=QlB (k:=u.kind) (r:=u.r) (q:=p') (l:=u.len) (d:=c') T3.out.bel T3.out.res T3.out.farR
  have X9:=Qa x9;have B9:=Qa b9;clear x9 b9;generalize ht':t.len=tl at y2 hlt;go_wp2_with (go_at_call 110;refine(Ze _ _).mono ?_;rintro e' w' ⟨rfl,hw⟩;have hw:=hw.symm;subst hw)
  generalize ((w3.setCell ⟨R,0,none⟩ (.int .i64 u.kind)).setCell ⟨R,1,none⟩ (.int .i64 u.r)).setCell ⟨R,2,none⟩ (.slice p' u.len c')=w9 at X9 B9 ⊢;have x0:=Qb X9.out 0 _ rfl;have x1:=Qb X9.out 1 _ rfl;have x2:=Qb X9.out 2 _ rfl;exact bodyPost_ret (v:=Tv u p' c') (by simp[results,Tryz.results71,go_sem,x0,x1,x2]) rfl ⟨ZG.good E9.out ⟨t,u,p',c',HA.out,HU.out,rfl,(UT.out.over T3.out.bel B9.out).less⟩,B9.out⟩
theorem QgK {w:World}{Q:Nat→Prop}{l:List Int}{p:Option Addr}{N c:Nat}(x:Int) (hN:l.length=N) (hN2:N≤100000) (hl:intsL.In w Q l [.slice p N c]) :
 Calls Tryz.prog 152 #[.slice p N c,.int .i64 x] w fun e w'=>(∃ i:Int,e=.returned (.int .i64 i)∧(0≤i↔x∈l))∧w'=w:=by
 have HL:=Qa hl;have HN:=Qa hN;clear hl hN;go_enter Tryz.func152,Tryz.ntmps152
 go_wp2
 go_loop [8] (fun i=>∃ k:Nat,k≤N∧i=.int .i64 k∧∀ (j:Nat) (y:Int),j<k→l[j]?=some y→x≠y) (fun i=>N - (intOf i).toNat)
 case atStart=>exact⟨0,Nat.zero_le _,rfl,fun j y hj=>by omega⟩
 case round =>
  obtain⟨k,hk,rfl,hz⟩:=hrel
  have HZ:=Qa hz;clear hz;by_cases hlt:k<N
  ·have hlt':(k:Int)<N:=by omega
   have hk2:k<l.length:=by rw[HN.out];exact hlt
   obtain⟨g,o,rfl,-,hg,hc0⟩:=Z7 HL.out hk2
   obtain⟨y,hy⟩:∃ y,l[k]?=some y:=⟨_,List.getElem?_eq_getElem hk2⟩
   rw[show l.getD k 0=y by rw[List.getD_eq_getElem?_getD,hy];rfl] at hc0
   have HX:=Qa hy;clear hy hk2;by_cases hxy:x=y
   ·have hxy':(x==y)=true:=by simpa using hxy
    have HM:Hid (x∈l):=by show _;rw[hxy];exact List.mem_of_getElem? HX.out
    clear hxy;go_wp2
    go_ret;exact⟨⟨k,rfl,by simp[HM.out]⟩,rfl⟩
   ·have hxy':(x==y)=false:=by simpa using hxy
    have HXY:=Qa hxy;clear hxy;go_wp2
    go_round
    case rel =>
     refine⟨k+1,hlt,by go_num,fun j y' hj hy=>?_⟩
     rcases Nat.lt_or_ge j k with h | h
     ·exact HZ.out j y' h hy
     ·have:j=k:=by omega
      subst this;have e:=HX.out.symm.trans hy;injection e with e
      subst e;exact HXY.out
    case measure=>simp[intOf];omega
  ·have hlt':¬ (k:Int)<N:=by omega
   go_wp2
   go_ret;refine⟨⟨-1,rfl,by omega,fun hm=>?_⟩,rfl⟩
   obtain⟨j,hj,e⟩:=List.mem_iff_getElem.1 hm
   exact absurd e.symm (HZ.out j _ (by have:=HN.out;omega) (List.getElem?_eq_getElem hj))
theorem Qd4 {w:World}{Q:Nat→Prop}{l:List Int}{p:Option Addr}{N c:Nat}(x:Int) (hN:l.length=N) (hN2:N≤100000) (hl:intsL.In w Q l [.slice p N c]) :
 Calls Tryz.prog 142 #[.slice p N c,.int .i64 x] w fun e w'=>e=.returned (.bool (inB l x))∧w'=w:=by
 have C:=Qa (QgK x hN hN2 hl);clear hl hN;go_enter Tryz.func142,Tryz.ntmps142
 go_wp2_with fail
 refine C.out.mono ?_;rintro e w' ⟨⟨i,rfl,hi⟩,hw⟩;have hw:=hw.symm;subst hw
 have E:Hid (inB l x=decide (i≥0)):=by
  show _=_;rw[Bool.eq_iff_iff,Qfq]
  simp[hi]
 clear C hi;go_wp2
 go_ret;exact⟨by rw[E.out];rfl,rfl⟩
theorem QfH (H:List Bool) (l:List Int){k:Nat}{x:Int}(hx:l[k]?=some x):Q3 H (l.take k) (l.drop k)=if hHas H x then (if inB (l.take k) x then 13 else Q3 H (l.take (k+1)) (l.drop (k+1))) else 10:=by
 obtain⟨hk,e⟩:=List.getElem?_eq_some_iff.1 hx
 rw[List.drop_eq_getElem_cons hk,e,Q3,List.take_add_one,hx]
 rfl
def Qb6 (H:List Bool) (l:List Int) (asked:Int):Int:=if (l.length:Int)=asked then Q3 H [] l else 2
theorem Qd6 {w:World}{b:Nat}{O A Q:Nat→Prop}{s:JSt}{l:List Int}{p:Option Addr}{N c:Nat}(asked:Int) (hN:l.length=N) (hN2:N≤100000) (hNc:N≤c) (hl:intsL.In w Q l [.slice p N c]) (h:SAt w b O A s) :
 Calls Tryz.prog 116 #[.pointer (some ⟨b,0,none⟩),.slice p N c,.int .i64 asked] w fun e w'=>ZG (Qb6 s.H l asked) VNone e∧w'=w:=by
 have HL:=Qa hl;have HN:=Qa hN;obtain⟨pm,cm,hh,a1,c1,a2,c2,a3,c3,aL,cL,RR⟩:=h.read
 obtain⟨-,q1,-⟩:=RR.cells
 have HH:=Qa RR.held;clear h hl hN RR;by_cases hNM:(N:Int)=asked
 rotate_left
 ·have hNM':((N:Int)==asked)=false:=by simpa using hNM
  have E:Hid (Qb6 s.H l asked=2):=by show _=_;unfold Qb6;rw[HN.out,if_neg hNM]
  go_enter Tryz.func116,Tryz.ntmps116
  go_wp2_with fail
  refine(Zd _ 2).mono ?_
  rintro e' w' ⟨rfl,hw⟩;subst hw;exact⟨rfl,ZG.bad E.out (by decide),rfl⟩
 subst hNM;have hNM':((N:Int)==(N:Int))=true:=by simp
 have E:Hid (Qb6 s.H l N=Q3 s.H [] l):=by show _=_;unfold Qb6;rw[HN.out,if_pos rfl]
 go_enter Tryz.func116,Tryz.ntmps116
 go_wp2_with (go_at_call 110;refine(Ze _ _).mono ?_;rintro e' w' ⟨rfl,hw⟩;have hw:=hw.symm;subst hw)
 go_loop [15] (fun i=>∃ k:Nat,k≤N∧i=.int .i64 k∧Q3 s.H [] l=Q3 s.H (l.take k) (l.drop k)) (fun i=>N - (intOf i).toNat)
 case atStart=>exact⟨0,Nat.zero_le _,rfl,rfl⟩
 case round =>
  obtain⟨k,hk,rfl,hz⟩:=hrel
  have HZ:=Qa hz;clear hz;by_cases hlt:k<N
  ·have hlt':(k:Int)<N:=by omega
   have hkc:k≤c:=by omega
   have hk2:k<l.length:=by rw[HN.out];exact hlt
   obtain⟨g,o,rfl,-,hg,hc0⟩:=Z7 HL.out hk2
   obtain⟨y,hy⟩:∃ y,l[k]?=some y:=⟨_,List.getElem?_eq_getElem hk2⟩
   rw[show l.getD k 0=y by rw[List.getD_eq_getElem?_getD,hy];rfl] at hc0
   have HS:=Qa (HZ.out.trans (QfH s.H l hy));have C:=Qa (Qct y HH.out)
   cases hq:hHas s.H y with
   | false =>
     rw[hq] at C
     have E9:Hid (Qb6 s.H l N=10):=by show _=_;rw[E.out,HS.out,hq];rfl
     clear hy hk2 hq;go_wp2_with (go_at_call 115;refine(C.out).mono ?_;rintro e w' ⟨rfl,hw⟩;have hw:=hw.symm;subst hw)
     refine(Zd _ 10).mono ?_
     rintro e' w' ⟨rfl,hw⟩;subst hw;exact⟨rfl,ZG.bad E9.out (by decide),rfl⟩
   | true =>
     rw[hq] at C
     have D:Hid (∀ c',Calls Tryz.prog 142 #[.slice (some ⟨g,o,none⟩) k c',.int .i64 y] w fun e w'=>e=.returned (.bool (inB (l.take k) y))∧w'=w):=fun c'=>Qd4 y (by rw[List.length_take];omega) (by omega) (Qir HL.out (Nat.le_of_lt hk2) c');have HS2:Hid (Q3 s.H [] l=if inB (l.take k) y then 13 else Q3 s.H (l.take (k+1)) (l.drop (k+1))):=by show _=_;rw[HS.out,hq];rfl
     clear hy hk2 hq HS
     cases hi:inB (l.take k) y with
     | true =>
       rw[hi] at D
       have E9:Hid (Qb6 s.H l N=13):=by show _=_;rw[E.out,HS2.out,hi];rfl
       clear hi;go_wp2_with (go_at_call 115;refine(C.out).mono ?_;rintro e w' ⟨rfl,hw⟩;have hw:=hw.symm;subst hw)
       refine(Ze _ _).mono ?_
       rintro e' w' ⟨rfl,hw⟩;have hw:=hw.symm;subst hw;go_wp2_with (go_at_call 142;refine(D.out _).mono ?_;rintro e w' ⟨rfl,hw⟩;have hw:=hw.symm;subst hw)
       refine(Zd _ 13).mono ?_
       rintro e' w' ⟨rfl,hw⟩;subst hw;exact⟨rfl,ZG.bad E9.out (by decide),rfl⟩
     | false =>
       rw[hi] at D
       have E9:Hid (Q3 s.H [] l=Q3 s.H (l.take (k+1)) (l.drop (k+1))):=by show _=_;rw[HS2.out,hi];rfl
       clear hi;go_wp2_with (go_at_call 115;refine(C.out).mono ?_;rintro e w' ⟨rfl,hw⟩;have hw:=hw.symm;subst hw)
       refine(Ze _ _).mono ?_
       rintro e' w' ⟨rfl,hw⟩;have hw:=hw.symm;subst hw;go_wp2_with (go_at_call 142;refine(D.out _).mono ?_;rintro e w' ⟨rfl,hw⟩;have hw:=hw.symm;subst hw)
       refine(Ze _ _).mono ?_
       rintro e' w' ⟨rfl,hw⟩;have hw:=hw.symm;subst hw;go_wp2
       go_round
       case rel=>exact⟨k+1,hlt,by go_num,E9.out⟩
       case measure=>simp[intOf];omega
  ·have hlt':¬ (k:Int)<N:=by omega
   have hkN:k=N:=by omega
   have E9:Hid (Qb6 s.H l N=0):=by
    show _=_;rw[E.out,HZ.out,List.drop_of_length_le (by rw[HN.out];omega)]
    rfl
   go_wp2
   exact bodyPost_end (v:=.tuple #[]) (by simp[results,Tryz.results116,go_sem]) rfl ⟨ZG.good E9.out rfl,rfl⟩
noncomputable def JSt.handC (s:JSt) (l:List Int) (ts:List (TT 6)):Int:=if l.length=ts.length then QA (fun p:Int × TT 6=>s.beC p.1 p.2) (l.zip ts) else 2
theorem Qan {w:World}{b:Nat}{O A Q R:Nat→Prop}{s:JSt}{l:List Int}{ts:List (TT 6)}{p pt:Option Addr}{N c M d:Nat}(hN:l.length=N) (hN2:N≤100000) (hM:ts.length=M) (hM2:M≤100000) (hl:intsL.In w Q l [.slice p N c]) (ht:LIn w R ts pt)
 (hL:s.L.length≤80) (hcnt:∀ x∈s.L,x.count≤100000) (hO:∀ k,O k→k<w.heap.size) (h:SAt w b O A s) :
 Calls Tryz.prog 92 #[.pointer (some ⟨b,0,none⟩),.slice p N c,.slice pt M d] w fun e w'=>ZG (s.handC l ts) VNone e∧Below w.heap.size w w':=by
 have H:=Qa h;have HO:=Qa hO;have HL:=Qa hl;have HT:=Qa ht;have HN:=Qa hN;have HM:=Qa hM;have HC:=Qa hcnt;clear h hO hl hN ht hM hcnt;by_cases hNM:N=M
 rotate_left
 ·have hNM':((N:Int)==(M:Int))=false:=by simp;omega
  have E:Hid (s.handC l ts=2):=by show _=_;unfold JSt.handC;rw[HN.out,HM.out,if_neg hNM]
  go_enter Tryz.func92,Tryz.ntmps92
  go_wp2_with fail
  refine(Zd _ 2).mono ?_
  rintro e' w' ⟨rfl,hw⟩;subst hw;exact⟨rfl,ZG.bad E.out (by decide),Below.refl _ _⟩
 subst hNM;have hNM':((N:Int)==(N:Int))=true:=by simp
 have E:Hid (s.handC l ts=QA (fun p:Int × TT 6=>s.beC p.1 p.2) (l.zip ts)):=by show _=_;unfold JSt.handC;rw[HN.out,HM.out,if_pos rfl]
 go_enter Tryz.func92,Tryz.ntmps92
 go_wp2_with (go_at_call 110;refine(Ze _ _).mono ?_;rintro e' w' ⟨rfl,hw⟩;have hw:=hw.symm;subst hw)
 go_loopw [16] (fun i wr=>∃ k:Nat,k≤N∧i=.int .i64 k∧Below w.heap.size w wr∧∀ (j:Nat) (y:Int × TT 6),j<k→(l.zip ts)[j]?=some y→s.beC y.1 y.2=0) (fun i _=>N - (intOf i).toNat)
 case atStart=>exact⟨0,Nat.zero_le _,rfl,Below.refl _ _,fun j y hj=>by omega⟩
 case round =>
  obtain⟨k,hk,rfl,hB,hz⟩:=hrel
  have HB:=Qa hB;have HZ:=Qa hz;clear hB hz;by_cases hlt:k<N
  ·have hlt':(k:Int)<N:=by omega
   have hk2:k<l.length:=by rw[HN.out];exact hlt
   have hk3:k<ts.length:=by rw[HM.out];exact hlt
   obtain⟨g,o,rfl,-,hg,hc0⟩:=Z7 HL.out hk2
   obtain⟨y,hy⟩:∃ y,l[k]?=some y:=⟨_,List.getElem?_eq_getElem hk2⟩
   obtain⟨t,hty⟩:∃ t,ts[k]?=some t:=⟨_,List.getElem?_eq_getElem hk3⟩
   rw[show l.getD k 0=y by rw[List.getD_eq_getElem?_getD,hy];rfl] at hc0
   obtain⟨g2,o2,p2,c2,rfl,-,d0,d1,d2,hkid⟩:=HT.out.at hty
   have HX:Hid ((l.zip ts)[k]?=some (y,t)):=by show _=_;rw[List.getElem?_zip_eq_some];exact⟨hy,hty⟩
   have y0:=QY hc0 HB.out;have z0:=QY d0 HB.out;have z1:=QY d1 HB.out;have z2:=QY d2 HB.out;have HK:=Qa (hkid.below HB.out);clear hc0 hk2 hk3 d0 d1 d2 hy hty hkid;go_wp2_with fail
   refine(QcD y HK.out hL HC.out (fun k hk=>Nat.lt_of_lt_of_le (HO.out k hk) HB.out.size) (H.out.below HB.out)).mono ?_
   rintro e' w2 ⟨hO,b2⟩;have B2:Hid (Below w.heap.size w w2):=HB.out.trans (b2.mono HB.out.size);rcases hO with ⟨hc,x,rfl,-⟩|⟨hc,rfl⟩
   rotate_left
   ·have e9:s.handC l ts=s.beC y t:=by rw[E.out,Qah HX.out HZ.out hc]
    exact⟨rfl,.inr ⟨by rw[e9];exact hc,by rw[e9]⟩,B2.out⟩
   have HC0:=Qa hc;clear hc b2 y0 z0 z1 z2;go_wp2
   go_roundw
   case rel =>
    refine⟨k+1,hlt,by go_num,B2.out,fun j y' hj hy=>?_⟩
    rcases Nat.lt_or_ge j k with h | h
    ·exact HZ.out j y' h hy
    ·have:j=k:=by omega
     subst this;have e:=HX.out.symm.trans hy;injection e with e
     subst e;exact HC0.out
   case measure=>simp[intOf];omega
  ·have hlt':¬ (k:Int)<N:=by omega
   go_wp2
   exact bodyPost_end (v:=.tuple #[]) (by simp[results,Tryz.results92,go_sem]) rfl ⟨ZG.good (by rw[E.out];exact ZY (fun j y hy=>HZ.out j y (by have:=(List.getElem?_eq_some_iff.1 hy).1;rw[List.length_zip,HN.out,HM.out] at this;omega) hy)) rfl,HB.out⟩
theorem Qif {w:World}{Q:Nat→Prop}{l:List Int}{p:Option Addr}{N c:Nat}(hN:l.length=N) (hl:intsL.In w Q l [.slice p N c]):QjJ w p N (fun i=>l.getD i 0):=fun i hi=>by
 obtain⟨g,o,e,-,-,h⟩:=Z7 hl (show i<l.length by omega)
 exact⟨g,o,e,h⟩
theorem Qje {w w':World}{regs:List Int}{t:TT 6}{e:Ending}(h:Qf5 w w' (t.ren regs.length (fun i=>regs.getD i 0)) e):∃ a c q,e=.returned (.tuple #[Tv (Qaf regs t) a c,.bool q])∧TIn w' (Zm w.heap.size) (Qaf regs t) a∧Below w.heap.size w w':=by
 unfold Qaf
 cases hr:t.ren regs.length (fun i=>regs.getD i 0) with
 | none =>
   rw[hr] at h
   obtain⟨rfl,hb⟩:=h
   exact⟨none,0,false,rfl,fun i x hx=>by simp[zeroTT] at hx,hb⟩
 | some u =>
   rw[hr] at h
   obtain⟨a,c,rfl,h1,h2⟩:=h
   exact⟨a,c,true,rfl,h1,h2⟩
theorem QaP {w:World}{Q R:Nat→Prop}{ts:List (TT 6)}{regs:List Int}{p pt:Option Addr}{N c M d:Nat}(hN:regs.length=N) (hM:ts.length=M) (hM2:M≤1000) (hl:intsL.In w Q regs [.slice p N c]) (ht:LIn w R ts pt) (hcnt:∀ x∈ts,x.count≤2000) :
 Calls Tryz.prog 117 #[.slice pt M d,.slice p N c] w fun e w'=>∃ g,e=.returned (.slice (some ⟨g,0,none⟩) M M)∧w.heap.size≤g∧Qcp w' g M (ts.map (Qaf regs))∧Below w.heap.size w w':=by
 have HM:=Qa hM;have HI:=Qa (Qif hN hl);have HT:=Qa ht;have HC:=Qa hcnt;have HN:=Qa hN;have hmk:=Qia w M (by omega);have B1:Hid (Below w.heap.size w (w.alloc (.cells (madeCells #[.int .i64 0,.int .i64 0,.slice none 0 0] (M*3)) 70))):=QQ _ _;have Y0:Hid (Qcp (w.alloc (.cells (madeCells #[.int .i64 0,.int .i64 0,.slice none 0 0] (M*3)) 70)) w.heap.size M ([]:List (TT 6))):=⟨_,Qu w _ _,size_madeCells _ _,fun i x hx=>by simp at hx⟩;clear hM hl ht hcnt hN;go_enter Tryz.func117,Tryz.ntmps117
 go_wp2
 generalize w.alloc (.cells (madeCells #[.int .i64 0,.int .i64 0,.slice none 0 0] (M*3)) 70)=w1 at B1 Y0 ⊢;obtain⟨G,hG⟩:∃ G,G=w.heap.size:=⟨_,rfl⟩
 rw[← hG] at Y0 ⊢
 have HG:=Qa (Nat.le_of_eq hG.symm);have HE:=Qa hG;clear hmk hG;go_loopw [13] (fun i wr=>∃ q:Nat,q≤M∧i=.int .i64 q∧Qcp wr G M ((ts.take q).map (Qaf regs))∧Below w.heap.size w wr) (fun i _=>M - (intOf i).toNat)
 case atStart=>exact⟨0,Nat.zero_le _,rfl,Y0.out,B1.out⟩
 case round =>
  clear Y0 B1;obtain⟨q,hq,rfl,hY,hB⟩:=hrel
  have HB:=Qa hB;have Y:=Qa hY;clear hB hY;by_cases hlt:q<M
  ·have hk1:(q:Int)<M:=by omega
   have hk3:q<ts.length:=by rw[HM.out];exact hlt
   obtain⟨t,hty⟩:∃ t,ts[q]?=some t:=⟨_,List.getElem?_eq_getElem hk3⟩
   obtain⟨g2,o2,p2,c2,rfl,-,d0,d1,d2,hkid⟩:=HT.out.at hty
   have z0:=QY d0 HB.out;have z1:=QY d1 HB.out;have z2:=QY d2 HB.out
   have C:Hid (∀ wx,Below wr.heap.size wr wx→Calls Tryz.prog 143 #[Tv t p2 c2,.slice p N c] wx fun e w'=>∃ a' c' qb,e=.returned (.tuple #[Tv (Qaf regs t) a' c',.bool qb])∧TIn w' (Zm wx.heap.size) (Qaf regs t) a'∧Below wx.heap.size wx w'):=fun wx hb=>by
    have hbx:=HB.out.trans (hb.mono HB.out.size)
    have:=rename_any 6 t p2 c2 p N c (fun i=>regs.getD i 0) wx (hkid.below hbx).all (HC.out t (List.mem_of_getElem? hty)) (HI.out.below hbx)
    refine this.mono (fun e w' h=>?_);rw[← HN.out] at h
    exact Qje h
   have HS:Hid ((ts.take (q+1)).map (Qaf regs)=(ts.take q).map (Qaf regs)++[Qaf regs t]):=by show _=_;rw[List.take_add_one,hty,List.map_append];rfl
   have hlen:Hid (((ts.take q).map (Qaf regs)).length=q):=by show _=_;rw[List.length_map,List.length_take];omega
   clear d0 d1 d2 hkid hty hk3;simp only[Tv] at C
   generalize t.kind=tk at z0 C;generalize t.r=tr at z1 C;generalize t.len=tl at z2 C;have hq3:q*3+2<M*3:=by omega
   go_wp2_with fail
   have BX:Below wr.heap.size wr (wr.alloc (.cells #[.int .i64 tk,.int .i64 tr,.slice p2 tl c2] 70)):=(Below.refl _ wr).alloc (Nat.le_refl _) _;refine(C.out _ BX).mono ?_
   rintro e w4 ⟨a4,c4,qb,rfl,t4,b4⟩;have Y4:=Y.out.below (BX.trans (b4.mono BX.size));have B4:Hid (Below w.heap.size w w4):=HB.out.trans ((BX.trans (b4.mono BX.size)).mono HB.out.size);obtain⟨v0,r0⟩:=Y4.has (q*3) (by omega)
   obtain⟨v1,r1⟩:=Y4.has (q*3+1) (by omega)
   obtain⟨v2,r2⟩:=Y4.has (q*3+2) (by omega)
   have f0:=Y4.frozen (q*3);have f1:=Y4.frozen (q*3+1);have f2:=Y4.frozen (q*3+2);have t5:TIn w4 (Zm (G+1)) (Qaf regs t) a4:=t4.mono (fun k hk _=>by have:=Y.out.lt;have:wr.heap.size≤k:=Nat.le_trans BX.size hk;omega);have Z5:=Qa (Y4.set (c:=c4) hlen.out hlt t5);have Z6:Hid (Below w.heap.size w (((w4.setCell ⟨G,q*3,none⟩ (.int .i64 (Qaf regs t).kind)).setCell ⟨G,q*3+1,none⟩ (.int .i64 (Qaf regs t).r)).setCell ⟨G,q*3+2,none⟩ (.slice a4 (Qaf regs t).len c4))):=((B4.out.setCell (p:=⟨G,q*3,none⟩) HG.out _).setCell (p:=⟨G,q*3+1,none⟩) HG.out _).setCell (p:=⟨G,q*3+2,none⟩) HG.out _;clear Y4 t5 t4 b4 BX C z0 z1 z2;simp only[Tv] at Z5 Z6 ⊢
   go_wp2
   go_roundw
   case rel=>exact⟨q+1,hlt,by go_num,by rw[HS.out];exact Z5.out,Z6.out⟩
   case measure=>simp[intOf];omega
  ·have hlt':¬ (q:Int)<M:=by omega
   have e:ts.take q=ts:=List.take_of_length_le (by rw[HM.out];omega);rw[e] at Y
   go_wp2
   go_ret;exact⟨G,rfl,HG.out,Y.out,HB.out⟩
end Go.Proofs.YtacjnejckfhpoaeGreat
namespace Go.Proofs.YtacjnejckfhpoaeGreat
open Go.RowKit
set_option linter.unusedVariables false
structure Wd (w0 w:World) (Bs:List (Nat × Array Value × TypeId)):Prop where
 bel:Below w0.heap.size w0 w
 blk:∀ (i:Nat) x,Bs[i]?=some x→Blk w x.1 x.2.1 x.2.2
 new:∀ (i:Nat) x,Bs[i]?=some x→w0.heap.size≤x.1
 nd:∀ (i j:Nat) x y,Bs[i]?=some x→Bs[j]?=some y→x.1=y.1→i=j
section
variable {w0 w w':World}{Bs:List (Nat × Array Value × TypeId)}
theorem Wd.start (w:World):Wd w w []:=⟨Below.refl _ _,fun i x h=>by simp at h,fun i x h=>by simp at h,fun i j x y h=>by simp at h⟩
theorem Wd.below (h:Wd w0 w Bs) (b:Below w.heap.size w w'):Wd w0 w' Bs:=⟨Below.andThen h.bel b,fun i x hx=>(h.blk i x hx).below b,h.new,h.nd⟩
theorem Wd.get (h:Wd w0 w Bs) (i:Nat){B:Nat}{c:Array Value}{t:TypeId}(hi:Bs[i]?=some (B,c,t)):Blk w B c t:=h.blk i _ hi
theorem Wd.new' (h:Wd w0 w Bs) (c:Array Value) (t:TypeId):Wd w0 (w.alloc (.cells c t)) ((w.heap.size,c,t)::Bs):=by
 refine⟨Below.andThen h.bel (QQ w _),fun i x hx=>?_,fun i x hx=>?_,fun i j x y hx hy e=>?_⟩
 ·cases i with
  | zero=>simp at hx;subst hx;exact Blk.new w c t
  | succ i=>exact(h.blk i x (by simpa using hx)).alloc _
 ·cases i with
  | zero=>simp at hx;subst hx;exact h.bel.size
  | succ i=>exact h.new i x (by simpa using hx)
 ·cases i with
  | zero =>
    cases j with
    | zero=>rfl
    | succ j =>
      simp at hx hy;subst hx
      have:=(h.blk j y hy).lt
      simp at e;omega
  | succ i =>
    cases j with
    | zero =>
      simp at hx hy;subst hy
      have:=(h.blk i x hx).lt
      simp at e;omega
    | succ j=>rw[h.nd i j x y (by simpa using hx) (by simpa using hy) e]
theorem Wd.tail {x:Nat × Array Value × TypeId}(h:Wd w0 w (x::Bs)):Wd w0 w Bs :=
 ⟨h.bel,fun i y hy=>h.blk (i+1) y (by simpa using hy),fun i y hy=>h.new (i+1) y (by simpa using hy),fun i j y z hy hz e=>by have:=h.nd (i+1) (j+1) y z (by simpa using hy) (by simpa using hz) e;omega⟩
theorem Wd.set (h:Wd w0 w Bs) (i:Nat){B:Nat}{c c':Array Value}{t:TypeId}{Bs':List (Nat × Array Value × TypeId)}(hi:Bs[i]?=some (B,c,t)) (j:Nat) (v:Value)
 (hc:c.setIfInBounds j v=c') (hB:Bs.set i (B,c',t)=Bs'):Wd w0 (w.setCell ⟨B,j,none⟩ v) Bs':=by
 subst hB;subst hc
 have sp:∀ (k:Nat) x,(Bs.set i (B,c.setIfInBounds j v,t))[k]?=some x→(k=i∧x=(B,c.setIfInBounds j v,t))∨(k≠i∧Bs[k]?=some x):=by
  intro k x hx;rw[List.getElem?_set] at hx
  split at hx
  ·rename_i e
   subst e;have hil:i<Bs.length:=(List.getElem?_eq_some_iff.1 hi).1;rw[if_pos hil] at hx
   exact .inl ⟨rfl,(Option.some.inj hx).symm⟩
  ·rename_i e
   exact .inr ⟨fun e'=>e e'.symm,hx⟩
 have key:∀ (k:Nat) x,Bs[k]?=some x→k≠i→x.1≠B:=fun k x hx hk e=>hk (h.nd k i x _ hx hi e);refine⟨h.bel.setCell (p:=⟨B,j,none⟩) (h.new i _ hi) v,fun k x hx=>?_,fun k x hx=>?_,fun k l x y hx hy e=>?_⟩
 ·rcases sp k x hx with ⟨rfl,rfl⟩|⟨hk,hx⟩
  ·exact Qk (h.blk k _ hi) j v
  ·exact(h.blk k x hx).setOther (fun e=>key k x hx hk e.symm) v
 ·rcases sp k x hx with ⟨rfl,rfl⟩|⟨hk,hx⟩
  ·exact h.new k (B,c,t) hi
  ·exact h.new k x hx
 ·rcases sp k x hx with ⟨hk,hx1⟩|⟨hk,hx1⟩
  ·rcases sp l y hy with ⟨hl,hy1⟩|⟨hl,hy1⟩
   ·rw[hk,hl]
   ·rw[hx1] at e;exact absurd e.symm (key l y hy1 hl)
  ·rcases sp l y hy with ⟨hl,hy1⟩|⟨hl,hy1⟩
   ·rw[hy1] at e;exact absurd e (key k x hx1 hk)
   ·exact h.nd k l x y hx1 hy1 e
def Zn (c:Array Value) (j:Nat) (vs:List Value):Array Value:=(c.toList.take j++(vs++c.toList.drop (j+vs.length))).toArray
theorem Qcg (c:Array Value) (j:Nat) (v:Value) (vs:List Value) (h:j+(v::vs).length≤c.size):Zn (c.setIfInBounds j v) (j+1) vs=Zn c j (v::vs):=by
 unfold Zn;congr 1
 have hj:j<c.toList.length:=by simp at h ⊢;omega
 simp only[Array.toList_setIfInBounds]
 rw[List.take_set,List.drop_set_of_lt (by omega),List.take_add_one,List.getElem?_eq_getElem hj]
 simp only[Option.toList,List.length_cons]
 have:(c.toList.take j++[c.toList[j]]).set j v=c.toList.take j++[v]:=by
  rw[List.set_append_right _ _ (by simp;omega)]
  have hj':j<c.size:=by simpa using hj
  simp[Nat.min_eq_left (Nat.le_of_lt hj')]
 rw[this,Nat.add_assoc,Nat.add_comm 1]
 simp
theorem Wd.setAt (h:Wd w0 w Bs) (i:Nat){B:Nat}{c c':Array Value}{t:TypeId}{Bs':List (Nat × Array Value × TypeId)}(hi:Bs[i]?=some (B,c,t)) (j:Nat) (vs:List Value)
 (hs:Nat.ble (j+vs.length) c.size=true) (hc:Zn c j vs=c') (hB:Bs.set i (B,c',t)=Bs'):Wd w0 (w.setCells B j vs) Bs':=by
 have hs':j+vs.length≤c.size:=by simpa[Nat.ble_eq] using hs
 clear hs
 induction vs generalizing w Bs c j with
 | nil =>
   subst hB
   have:c=c':=by rw[← hc];unfold Zn;simp
   subst this
   have:Bs.set i (B,c,t)=Bs:=by
    apply List.ext_getElem?
    intro k;rw[List.getElem?_set]
    split
    ·rename_i e;subst e;rw[hi];simp[(List.getElem?_eq_some_iff.1 hi).1]
    ·rfl
   rw[this];exact h
 | cons v vs ih =>
   have hil:i<Bs.length:=(List.getElem?_eq_some_iff.1 hi).1;refine ih (c:=c.setIfInBounds j v) (h.set i hi j v rfl rfl) (by rw[List.getElem?_set];simp[hil]) (j+1) ?_ ?_ ?_
   ·rw[← hc,Qcg _ _ _ _ hs']
   ·rw[List.set_set];exact hB
   ·simp at hs' ⊢;omega
theorem Wd.drewN (h:Wd w0 w Bs) (m:Nat):Wd w0 (w.drewN m) Bs:=⟨Q1 h.bel,fun i x hx=>h.blk i x hx,h.new,h.nd⟩
end
theorem Qhv (q:Nat) (h:q<4611686018427387904):IntKind.i64.wrap ((q:Int)+1)=(q:Int)+1:=by
 have:(q:Int)<4611686018427387904:=by omega
 have e1:((q:Int)+1)%2 ^ 64=(q:Int)+1:=by omega
 simp only[IntKind.wrap,IntKind.signed,IntKind.bits,e1,Bool.true_and]
 rw[if_neg (by simp only[decide_eq_true_eq];omega)]
theorem Fr.sl2 {n:Nat}{a:Act}{L:List (Tmp × Value)}(h:Fr n a L) (t:Tmp) (v:Value) (e:L.lookup t=some v):a.tmps[t]?.getD undef=v:=by
 rw[← Array.getD_eq_getD_getElem?];exact h.sl t v e
structure New (w w':World) (B:Nat):Prop where
 bel:Below w.heap.size w w'
 at_:B=w.heap.size
 size:w'.heap.size=B+1
theorem Zp {w w':World}(b:Below w.heap.size w w'){p:Addr}{v:Value}(h:w.cell? p=some v):w'.cell? p=some v :=
 (World.cell?_of_block (w:=w) (a:=p) (b.block p.block (World.block_lt_of_cell? w p h))).trans h
section
variable {P:Program}{n:Nat}{a:Act}{L:List (Tmp × Value)}{w0 w w':World}{Bs Bs':List (Nat × Array Value × TypeId)}{Q:Exit→Act→World→Prop}{ops:Array Oper}{o:Oper}{rest:List Oper}{t:Tmp}{v:Value}
theorem Qer (c:Array Value) (ty:TypeId) (m:Nat) (hF:Fr n a L) (hW:Wd w0 w Bs) (hd:o.dst=some t) (hg:o.guard=none) (ht:Nat.blt t n=true)
 (h:∀ K:Act→World→Prop,K (a.put (some t) (.slice (some ⟨w.heap.size,0,none⟩) m m)) (w.alloc (.cells c ty))→o.wp P a w K Q)
 (k:∀ a' w' B,Wd w0 w' ((B,c,ty)::Bs)→New w w' B→Fr n a' ((t,.slice (some ⟨B,0,none⟩) m m)::L)→wpList P ops Q rest a' w'):wpList P ops Q (o::rest) a w :=
 Q2 hF hd hg ht h fun a' hF'=>k a' _ _ (hW.new' c ty) ⟨QQ w _,rfl,by simp⟩ hF'
theorem QjO (hF:Fr n a L) (hW:Wd w0 w' Bs') (hd:o.dst=none) (hg:o.guard=none)
 (h:∀ K:Act→World→Prop,K a w'→o.wp P a w K Q)
 (k:∀ w',Wd w0 w' Bs'→wpList P ops Q rest a w'):wpList P ops Q (o::rest) a w :=
 QdZ hF hd hg h (k _ hW)
theorem Qp {fn:Func}{R:Ending→World→Prop}(hF:Fr n a L) (hr:fn.results=#[.tmp t]) (hv:L.lookup t=some v) (hR:R (.returned v) w):bodyPost P fn R .ret a w :=
 bodyPost_ret ((results_tmp hr _ _ _).trans (by rw[hF.sl t v hv])) hF.defers hR
end
abbrev QaH:=List (Tmp × (Value→World→Prop))
def QaH.E (M:QaH) (t:Tmp) (v:Value) (w:World):Prop:=match M.lookup t with | some p=>p v w | none=>True
def QdG (R:World→World→Prop):QaH→Prop
 | []=>True
 | x::r=>(∀ v w w',R w w'→x.2 v w→x.2 v w')∧QdG R r
theorem Qbh {R:World→World→Prop}:∀ (M:QaH),QdG R M→∀ t v w w',R w w'→QaH.E M t v w→QaH.E M t v w'
 | [],_,_,_,_,_,_,h=>h
 | x::r,hs,t,v,w,w',hr,h=>by
   unfold QaH.E at *;obtain⟨s,p⟩:=x
   by_cases e:t=s
   ·subst e;simp at h ⊢
    exact hs.1 _ _ _ hr h
   ·have e':(t==s)=false:=by simpa using e
    simp only[List.lookup_cons,e'] at h ⊢
    exact Qbh r hs.2 t v w w' hr h
theorem Qj8 {P:Program}{n id:Nat}{l l2:List Oper}{outs:List Tmp}{gs:List (Nat × Option Bool)}{bs:List Bool}{a:Act}{w:World}{L:List (Tmp × Value)}{Q:Exit→Act→World→Prop}
 (M:QaH) (W:World→Prop) (R:World→World→Prop)
 (hm:P.follows .mixedOrders=true) (hF:Fr n a L) (hL:(L.all fun p=>!(Ql l).contains p.1)=true) (hB:Qbs l n outs gs bs=true)
 (hT:(Qak 0 (l++l2)&&(Qau l.length l&&QeM l.length l2))=true)
 (hR:QdG R M) (hG:Z8 (QaH.E M) W l.toArray gs) (hW:W w.drew) (hO:Qbz (QaH.E M) a w.drew outs)
 (hA:QcF (QaH.E M) W R P l bs)
 (hend:∀ a' w',W w'→(∀ t,(Ql l).contains t=true→QaH.E M t (a'.tmps.getD t undef) w')→Fr n a' L→wpList P (l++l2).toArray Q l2 a' w') :
 (Code.region id (l++l2).toArray true).wp P Q a w:=by
 simp only[Bool.and_eq_true] at hT
 obtain⟨hT1,hT2,hT3⟩:=hT
 refine wp_region_any hm ?_
 have key:wpAny P .any l.toArray (Exit.then (fun a w=>wpList P (l++l2).toArray Q l2 a w) Q) l.length (Array.replicate l.length false) a w.drew:=by
  refine QaY (E:=QaH.E M) (W:=W) (R:=R) (a0:=a) (outs:=outs) (gs:=gs) (bs:=bs) (by rw[hF.size];exact hB) (Qbh M hR) hG hA ?_ _ _ _ _ (by simp) ?_ ⟨hW,rfl,rfl,fun _ _=>rfl,fun t ht _=>QbB outs hO t ht,?_⟩
  ·intro vs w' hw' hE
   have hlt:∀ t,(Ql l).contains t=true→t<a.tmps.size:=fun t ht=>by
    simp only[Qbs,Bool.and_eq_true] at hB
    have:=List.all_eq_true.1 hB.1.1.1.2 t (by simpa using ht)
    rw[hF.size];simpa using this
   have hat:∀ t,(Ql l).contains t=true→(Z3 a vs (Ql l)).tmps.getD t undef=vs t:=fun t ht=>by
    have:=QbT vs (Ql l) a t (hlt t ht)
    rw[if_pos (by simpa using ht)] at this
    rw[Array.getD_eq_getD_getElem?,this];rfl
   refine hend _ w' hw' (fun t ht=>by rw[hat t ht];exact hE t ht) ⟨by rw[Qaj,hF.size],by rw[Qax,hF.defers],fun t v hl=>?_⟩
   have hm:∃ p∈L,p.1=t:=by
    clear hL hO hend
    have:∀ (L:List (Tmp × Value)),L.lookup t=some v→∃ p∈L,p.1=t:=by
     intro L
     induction L with
     | nil=>intro h;simp at h
     | cons x r ih =>
       intro h;by_cases e:t=x.1
       ·exact⟨x,by simp,e.symm⟩
       ·have e':(t==x.1)=false:=beq_false_of_ne e;rw[List.lookup_cons,e'] at h
        obtain⟨p,hp,he⟩:=ih h
        exact⟨p,by simp[hp],he⟩
    exact this L hl
   obtain⟨p,hp,rfl⟩:=hm
   have hn:¬ p.1∈Ql l:=by
    have:=List.all_eq_true.1 hL p hp
    simpa using this
   rw[← hF.sl p.1 v hl]
   by_cases hlt':p.1<a.tmps.size
   ·have:=QbT vs (Ql l) a p.1 hlt'
    rw[if_neg hn] at this
    rw[Array.getD_eq_getD_getElem?,Array.getD_eq_getD_getElem?,this]
   ·have h9:a.tmps.size≤p.1:=Nat.le_of_not_lt hlt';rw[Array.getD_eq_getD_getElem?,Array.getD_eq_getD_getElem?,Array.getElem?_eq_none (by rw[Qaj];exact h9),Array.getElem?_eq_none h9]
  ·simp only[Array.toList_replicate]
   exact Nat.le_trans (List.length_filter_le _ _) (by simp)
  ·intro j o t hj hd hl;simp[Array.getD] at hl
 have:=QgD (Q:=Q) hT1 hT2 hT3 l.length (Array.replicate l.length false) a w.drew (by simp) key
 have e:(Array.replicate l.length false++Array.replicate l2.length false:Array Bool)=Array.replicate (l++l2).toArray.size false:=by
  simp
 have e2:l.length+l2.length=(l++l2).toArray.size:=by simp
 rw[e,e2] at this
 exact this
theorem ZZ {P:Program}{n id:Nat}{lo:List Oper}{outs:List Tmp}{gs:List (Nat × Option Bool)}{bs:List Bool}{a:Act}{w:World}{L:List (Tmp × Value)}{Q:Exit→Act→World→Prop}
 (k:Nat) (M:QaH) (W:World→Prop) (R:World→World→Prop)
 (hm:P.follows .mixedOrders=true) (hF:Fr n a L) (hL:(L.all fun p=>!(Ql (lo.take k)).contains p.1)=true) (hB:Qbs (lo.take k) n outs gs bs=true)
 (hT:(Qak 0 lo&&(Qau (lo.take k).length (lo.take k)&&QeM (lo.take k).length (lo.drop k)))=true)
 (hR:QdG R M) (hG:Z8 (QaH.E M) W (lo.take k).toArray gs) (hW:W w.drew) (hO:Qbz (QaH.E M) a w.drew outs)
 (hA:QcF (QaH.E M) W R P (lo.take k) bs)
 (hend:∀ ops a' w',W w'→(∀ t,(Ql (lo.take k)).contains t=true→QaH.E M t (a'.tmps.getD t undef) w')→Fr n a' L→wpList P ops Q (lo.drop k) a' w') :
 (Code.region id lo.toArray true).wp P Q a w:=by
 have h:=Qj8 (id:=id) (l:=lo.take k) (l2:=lo.drop k) (Q:=Q) M W R hm hF hL hB (by rw[List.take_append_drop];exact hT) hR hG hW hO hA (hend _);rwa [List.take_append_drop] at h
section
variable {w0 w w' w00:World}{Bs:List (Nat × Array Value × TypeId)}
theorem Wd.add (h:Wd w0 w Bs){B:Nat}{c:Array Value}{t:TypeId}(hb:Blk w B c t) (h0:Wd w0 w00 Bs) (hB:w00.heap.size≤B):Wd w0 w ((B,c,t)::Bs):=by
 refine⟨h.bel,fun i x hx=>?_,fun i x hx=>?_,fun i j x y hx hy e=>?_⟩
 ·cases i with
  | zero=>simp at hx;subst hx;exact hb
  | succ i=>exact h.blk i x (by simpa using hx)
 ·cases i with
  | zero=>simp at hx;subst hx;have:=h0.bel.size;simp only;omega
  | succ i=>exact h.new i x (by simpa using hx)
 ·cases i with
  | zero =>
    cases j with
    | zero=>rfl
    | succ j =>
      simp at hx hy;subst hx
      have:=(h0.blk j y hy).lt
      simp at e;omega
  | succ i =>
    cases j with
    | zero =>
      simp at hx hy;subst hy
      have:=(h0.blk i x hx).lt
      simp at e;omega
    | succ j=>rw[h.nd i j x y (by simpa using hx) (by simpa using hy) e]
end
end Go.Proofs.YtacjnejckfhpoaeGreat
