import Derived.Test.YtjodmledadbgeacGreatDoorP2
import Derived.Defers
import Derived.Recover
import Derived.RegionTactic
import Derived.Orders
import Derived.RowKit
import Derived.Deep.DeepCutAuto
import Derived.Deep.CutBlock
set_option maxHeartbeats 16000000
set_option maxRecDepth 100000
namespace Go.Proofs.YtjodmledadbgeacGreatDoor
open Go.ChangeShapes Go.WideShapes Go.ChangeAt Go.RowKit Go.Shelf
set_option linter.unusedSimpArgs false
set_option linter.unusedVariables false
def VFunc (w0 : World) : World → MFunc 6 → Value → Prop := fun w' x v => ∃ q1 n1 q2 n2 q3 n3, v = .agg #[.int .i64 x.regs, .slice q1 x.params.length n1, .slice q2 x.results.length n2, .slice q3 x.blocks.length n3] ∧ (funcL 6).In w' (fun g => w0.heap.size ≤ g) x [.int .i64 x.regs, .slice q1 x.params.length n1, .slice q2 x.results.length n2, .slice q3 x.blocks.length n3]
theorem pOne12 (o1 o2 o3 o4 o5 : Int) (a0 a1 a2 a3 a4 a5 a6 : Option Addr) (l0 c0 l1 c1 l2 c2 l3 c3 l4 c4 l5 c5 l6 c6 : Nat) : ∀ u ∈ [Value.int .i64 o1, .slice a0 l0 c0, .slice a1 l1 c1, .int .i64 o2, .int .i64 o3, .int .i64 o4, .slice a2 l2 c2, .slice a3 l3 c3, .int .i64 o5, .slice a4 l4 c4, .slice a5 l5 c5, .slice a6 l6 c6], u.oneCell' = true := by
  intro u h
  simp at h
  rcases h with rfl | rfl | rfl | rfl | rfl | rfl | rfl | rfl | rfl | rfl | rfl | rfl <;> rfl
theorem pfunction_any {w : World} {b e p : Nat} {l : List Tk} (h : PAt w b l e p) :
    Calls Tryz.prog 70 #[ptrP b] w fun en w'=>Out b e l (funcP l e p) w (VFunc w) en w':=by
  have hbw:=h.lt
  have hlen:=h.len
  have F0:Hid (FB w _ b e l p w.heap.size (w.heap.size + 1) #[.int .i64 0,.slice none 0 0,.slice none 0 0,.slice none 0 0] #[.int .i64 0,.slice none 0 0,.slice none 0 0,.slice none 0 0] 38):=FB.start h
  obtain ⟨i0,hi,hz0,hz1,hz2⟩:=pInfoB
  clear h
  go_enter Tryz.func70,Tryz.ntmps70
  go_wp2_with fail
  refine (pmust_any wFunc (by decide) F0.out.rd).mono ?_
  intro e' w1 hO
  rcases hO with ⟨⟨⟩,p1,x1,m1,rfl,rfl,r1,k1⟩ | ⟨y,c',a',m1,rfl,hc',k1⟩
  rotate_left
  · exact ⟨rfl,Out.bad (by rw [funcP,m1];rfl) hc' (F0.out.chg.trans k1)⟩
  have E1:Hid (mustP l e wFunc p=.ok ((),p1)):=m1
  have G1:Hid (FB _ _ _ _ _ _ _ _ _ _ _):=F0.out.call r1 k1
  clear m1 r1 k1 F0
  go_wp2_with fail
  refine (FB.callNums G1.out [0] (by simp) rfl (by decide) (by simp)).mono ?_
  intro e' w2 hO
  rcases hO with ⟨ns,p2,m2,rfl,hx2,r2,k2⟩ | ⟨y,c',a',m2,rfl,hc',k2⟩
  rotate_left
  · exact ⟨rfl,Out.bad (by rw [funcP,E1.out,PR.ok_andThen,nums1_eq,show numsP l e 1 p1=_ from m2];rfl) hc' k2⟩
  have hl2:=nums_len m2
  obtain ⟨nr,rfl⟩:∃ nr,ns=[nr]:=by
    match ns,hl2 with
    | [nr],_=>exact ⟨nr,rfl⟩
  have Bnr:Hid (0≤nr∧nr≤1000000):=hx2 nr (by simp)
  have E2:Hid (numsP l e 1 p1=.ok ([nr],p2)):=m2
  have G2:Hid (FB _ _ _ _ _ _ _ _ _ #[.int .i64 nr,.slice none 0 0,.slice none 0 0,.slice none 0 0] _):=r2
  clear m2 r2 k2 hx2 hl2 G1
  go_wp2_with fail
  refine (ptypesTop_any G2.out.rd).mono ?_
  intro e' w3 hO
  rcases hO with ⟨ts,p3,x3,m3,rfl,⟨ax,cx,rfl,hi3⟩,r3,k3⟩ | ⟨y,c',a',m3,rfl,hc',k3⟩
  rotate_left
  · exact ⟨rfl,Out.bad (by rw [funcP,E1.out,PR.ok_andThen,nums1_eq,E2.out,PR.ok_andThen,m3];rfl) hc' (G2.out.chg.trans k3)⟩
  have E3:Hid (typesP l e p2=.ok (ts,p3)):=m3
  have G3:Hid (FB _ _ _ _ _ _ _ _ _ _ _):=G2.out.call r3 k3
  have Kts:Hid (Kid (typesL 6) (w.heap.size + 1) w3 ts [.slice ax ts.length cx]):=Kid.mk hi3 G2.out.lt
  clear hi3
  clear m3 r3 k3 G2
  have y1:=cellOf G3.out.box 1 _ rfl
  have z1:=freeOf G3.out.box 1
  go_wp2_with fail
  have G4:Hid (FB _ (w3.setCell ⟨(w.heap.size + 1),1,none⟩ (.slice ax ts.length cx)) _ _ _ _ _ _ _ #[.int .i64 nr,.slice ax ts.length cx,.slice none 0 0,.slice none 0 0] _):=(FB.set G3.out 1 (.slice ax ts.length cx))
  have KtsG4:Hid (Kid _ _ (w3.setCell ⟨(w.heap.size + 1),1,none⟩ (.slice ax ts.length cx)) _ _):=(Kid.set Kts.out (q:=⟨(w.heap.size + 1),1,none⟩) (Nat.le_refl _) _)
  clear Kts
  generalize (w3.setCell ⟨(w.heap.size + 1),1,none⟩ (.slice ax ts.length cx))=w4 at G4 KtsG4 ⊢
  clear y1 z1 G3
  refine (pmust_any sArrow (by decide) G4.out.rd).mono ?_
  intro e' w5 hO
  rcases hO with ⟨u,p5,x5,m5,rfl,rfl,r5,k5⟩ | ⟨y,c',a',m5,rfl,hc',k5⟩
  rotate_left
  · exact ⟨rfl,Out.bad (by rw [funcP,E1.out,PR.ok_andThen,nums1_eq,E2.out,PR.ok_andThen,E3.out,PR.ok_andThen,m5];rfl) hc' (G4.out.chg.trans k5)⟩
  have E5:Hid (mustP l e sArrow p3=.ok ((),p5)):=m5
  have G5:Hid (FB _ _ _ _ _ _ _ _ _ _ _):=G4.out.call r5 k5
  have KtsG46_:Hid (Kid _ _ _ _ _):=KtsG4.out.chg k5 (by omega)
  clear KtsG4
  clear m5 r5 k5 G4
  go_wp2_with fail
  refine (ptypesTop_any G5.out.rd).mono ?_
  intro e' w7 hO
  rcases hO with ⟨us,p7,x7,m7,rfl,⟨ay,cy,rfl,hi7⟩,r7,k7⟩ | ⟨y,c',a',m7,rfl,hc',k7⟩
  rotate_left
  · exact ⟨rfl,Out.bad (by rw [funcP,E1.out,PR.ok_andThen,nums1_eq,E2.out,PR.ok_andThen,E3.out,PR.ok_andThen,E5.out,PR.ok_andThen,m7];rfl) hc' (G5.out.chg.trans k7)⟩
  have E7:Hid (typesP l e p5=.ok (us,p7)):=m7
  have G7:Hid (FB _ _ _ _ _ _ _ _ _ _ _):=G5.out.call r7 k7
  have KtsG46_8_:Hid (Kid _ _ _ _ _):=KtsG46_.out.chg k7 (by omega)
  clear KtsG46_
  have Kus:Hid (Kid (typesL 6) (w.heap.size + 1) w7 us [.slice ay us.length cy]):=Kid.mk hi7 G5.out.lt
  clear hi7
  clear m7 r7 k7 G5
  have y2:=cellOf G7.out.box 2 _ rfl
  have z2:=freeOf G7.out.box 2
  go_wp2_with fail
  have G9:Hid (FB _ (w7.setCell ⟨(w.heap.size + 1),2,none⟩ (.slice ay us.length cy)) _ _ _ _ _ _ _ #[.int .i64 nr,.slice ax ts.length cx,.slice ay us.length cy,.slice none 0 0] _):=(FB.set G7.out 2 (.slice ay us.length cy))
  have KtsG46_8_G9:Hid (Kid _ _ (w7.setCell ⟨(w.heap.size + 1),2,none⟩ (.slice ay us.length cy)) _ _):=(Kid.set KtsG46_8_.out (q:=⟨(w.heap.size + 1),2,none⟩) (Nat.le_refl _) _)
  clear KtsG46_8_
  have KusG9:Hid (Kid _ _ (w7.setCell ⟨(w.heap.size + 1),2,none⟩ (.slice ay us.length cy)) _ _):=(Kid.set Kus.out (q:=⟨(w.heap.size + 1),2,none⟩) (Nat.le_refl _) _)
  clear Kus
  generalize (w7.setCell ⟨(w.heap.size + 1),2,none⟩ (.slice ay us.length cy))=w9 at G9 KtsG46_8_G9 KusG9 ⊢
  clear y2 z2 G7
  refine (pmust_any [123] (by decide) G9.out.rd).mono ?_
  intro e' w10 hO
  rcases hO with ⟨u,p10,x10,m10,rfl,rfl,r10,k10⟩ | ⟨y,c',a',m10,rfl,hc',k10⟩
  rotate_left
  · exact ⟨rfl,Out.bad (by rw [funcP,E1.out,PR.ok_andThen,nums1_eq,E2.out,PR.ok_andThen,E3.out,PR.ok_andThen,E5.out,PR.ok_andThen,E7.out,PR.ok_andThen,m10];rfl) hc' (G9.out.chg.trans k10)⟩
  have E10:Hid (mustP l e [123] p7=.ok ((),p10)):=m10
  have G10:Hid (FB _ _ _ _ _ _ _ _ _ _ _):=G9.out.call r10 k10
  have KtsG46_8_G911_:Hid (Kid _ _ _ _ _):=KtsG46_8_G9.out.chg k10 (by omega)
  clear KtsG46_8_G9
  have KusG912_:Hid (Kid _ _ _ _ _):=KusG9.out.chg k10 (by omega)
  clear KusG9
  clear m10 r10 k10 G9
  go_wp2_with fail
  have P0:Hid (p10≤l.length):=G10.out.rd.le
  have L0:Hid ((w.heap.size + 1) < w10.heap.size):=G10.out.lt
  have S0:Hid (Mid (typesL 6) (w.heap.size + 1) w10.heap.size w10 ts [.slice ax ts.length cx]):=KtsG46_8_G911_.out.mid
  clear KtsG46_8_G911_
  have U0:Hid (Mid (typesL 6) (w.heap.size + 1) w10.heap.size w10 us [.slice ay us.length cy]):=KusG912_.out.mid
  clear KusG912_
  generalize hlo:w10.heap.size=lo at S0 U0 L0
  have HLO:Hid (lo=w10.heap.size):=hlo.symm
  clear hlo
  go_loopw [20] (fun u wr=>∃ xs cs v p2 f,FB w wr b e l p2 w.heap.size (w.heap.size + 1) #[.int .i64 0,.slice none 0 0,.slice none 0 0,.slice none 0 0] #[.int .i64 nr,.slice ax ts.length cx,.slice ay us.length cy,v] 38∧ARow (blockL 6) 48 wr lo v xs cs∧Mid (typesL 6) (w.heap.size + 1) lo wr ts [.slice ax ts.length cx]∧Mid (typesL 6) (w.heap.size + 1) lo wr us [.slice ay us.length cy]∧BlocksQ l e p10 p2 f xs∧lo≤wr.heap.size) (fun _ wr=>50000 - lenP ((wr.cell? ⟨(w.heap.size + 1),3,none⟩).getD undef))
  case atStart=>exact ⟨[],[],.slice none 0 0,p10,l.length + 1,G10.out,ARow.nil _ _ _ _,S0.out,U0.out,BlocksQ.start P0.out,by rw [HLO.out];exact Nat.le_refl _⟩
  case round =>
    obtain ⟨xs,cs,v,p2,f,hF,hA,hS,hU,hQ,hl⟩:=hrel
    obtain ⟨a,c,rfl⟩:=hA.formP
    have F2:Hid (FB w wr b e l p2 w.heap.size (w.heap.size + 1) #[.int .i64 0,.slice none 0 0,.slice none 0 0,.slice none 0 0] #[.int .i64 nr,.slice ax ts.length cx,.slice ay us.length cy,(.slice a xs.length c)] 38):=hF
    have A2:Hid (ARow (blockL 6) 48 wr lo (.slice a xs.length c) xs cs):=hA
    have S2:Hid (Mid (typesL 6) (w.heap.size + 1) lo wr ts [.slice ax ts.length cx]):=hS
    have U2:Hid (Mid (typesL 6) (w.heap.size + 1) lo wr us [.slice ay us.length cy]):=hU
    have Q2:Hid (BlocksQ l e p10 p2 f xs):=hQ
    have LO2:Hid (lo≤wr.heap.size):=hl
    have hmeas:Hid (lenP ((wr.cell? ⟨(w.heap.size + 1),3,none⟩).getD undef)=xs.length):=by show _=_;rw [cellOf hF.box 3 _ rfl];rfl
    have hcnt:xs.length≤40000:=by have h1:=hQ.cnt;have h2:=hQ.le;omega
    clear hF hA hS hU hQ hl
    clear G10 S0 U0
    go_wp2_with fail
    refine (took_any [125] (by decide) F2.out.rd).mono ?_
    intro e' w2 hO
    cases hw:isW l [125] p2 with
    | true =>
      rw [hw] at hO
      obtain ⟨rfl,r2,k2⟩:=hO
      have SB:Hid (blocksP l e (l.length + 1) p10=.ok (xs,p2 + 1)):=Q2.out.stop hw
      have F3:Hid (FB w w2 b e l (p2 + 1) w.heap.size (w.heap.size + 1) #[.int .i64 0,.slice none 0 0,.slice none 0 0,.slice none 0 0] #[.int .i64 nr,.slice ax ts.length cx,.slice ay us.length cy,(.slice a xs.length c)] 38):=F2.out.call r2 k2
      have Kxs:Hid (Kid (blockL 6).list (w.heap.size + 1) w2 xs [.slice a xs.length c]):=(A2.out.chgP k2 (by have:=L0.out;omega)).kidP L0.out
      have Kts:Hid (Kid (typesL 6) (w.heap.size + 1) w2 ts [.slice ax ts.length cx]):=(S2.out.chg k2 (by omega)).kid
      have Kus:Hid (Kid (typesL 6) (w.heap.size + 1) w2 us [.slice ay us.length cy]):=(U2.out.chg k2 (by omega)).kid
      clear hw r2 k2 F2 A2 S2 U2 Q2 hmeas LO2 HLO
      have y0:=cellOf F3.out.box 0 _ rfl
      have u0:=cellOf F3.out.res 0 _ rfl
      have v0:=freeOf F3.out.res 0
      have y1:=cellOf F3.out.box 1 _ rfl
      have u1:=cellOf F3.out.res 1 _ rfl
      have v1:=freeOf F3.out.res 1
      have y2:=cellOf F3.out.box 2 _ rfl
      have u2:=cellOf F3.out.res 2 _ rfl
      have v2:=freeOf F3.out.res 2
      have y3:=cellOf F3.out.box 3 _ rfl
      have u3:=cellOf F3.out.res 3 _ rfl
      have v3:=freeOf F3.out.res 3
      have hne:¬ (w.heap.size + 1)=w.heap.size:=by omega
      go_wp2
      have D1:Blk ((((w2.setCell ⟨w.heap.size,0,none⟩ (.int .i64 nr)).setCell ⟨w.heap.size,1,none⟩ (.slice ax ts.length cx)).setCell ⟨w.heap.size,2,none⟩ (.slice ay us.length cy)).setCell ⟨w.heap.size,3,none⟩ (.slice a xs.length c)) w.heap.size #[.int .i64 nr,.slice ax ts.length cx,.slice ay us.length cy,.slice a xs.length c] 38:=(FB.fin F3.out [.int .i64 nr,.slice ax ts.length cx,.slice ay us.length cy,.slice a xs.length c] rfl).1
      have D2:Hid (PAt ((((w2.setCell ⟨w.heap.size,0,none⟩ (.int .i64 nr)).setCell ⟨w.heap.size,1,none⟩ (.slice ax ts.length cx)).setCell ⟨w.heap.size,2,none⟩ (.slice ay us.length cy)).setCell ⟨w.heap.size,3,none⟩ (.slice a xs.length c)) b l e (p2 + 1)):=(FB.fin F3.out [.int .i64 nr,.slice ax ts.length cx,.slice ay us.length cy,.slice a xs.length c] rfl).2.1
      have D3:Hid (Chg b w ((((w2.setCell ⟨w.heap.size,0,none⟩ (.int .i64 nr)).setCell ⟨w.heap.size,1,none⟩ (.slice ax ts.length cx)).setCell ⟨w.heap.size,2,none⟩ (.slice ay us.length cy)).setCell ⟨w.heap.size,3,none⟩ (.slice a xs.length c))):=(FB.fin F3.out [.int .i64 nr,.slice ax ts.length cx,.slice ay us.length cy,.slice a xs.length c] rfl).2.2
      have DKts:Hid (Kid (typesL 6) (w.heap.size + 1) ((((w2.setCell ⟨w.heap.size,0,none⟩ (.int .i64 nr)).setCell ⟨w.heap.size,1,none⟩ (.slice ax ts.length cx)).setCell ⟨w.heap.size,2,none⟩ (.slice ay us.length cy)).setCell ⟨w.heap.size,3,none⟩ (.slice a xs.length c)) ts [.slice ax ts.length cx]):=Kid.sets Kts.out (by omega) [.int .i64 nr,.slice ax ts.length cx,.slice ay us.length cy,.slice a xs.length c] 0
      clear Kts
      have DKus:Hid (Kid (typesL 6) (w.heap.size + 1) ((((w2.setCell ⟨w.heap.size,0,none⟩ (.int .i64 nr)).setCell ⟨w.heap.size,1,none⟩ (.slice ax ts.length cx)).setCell ⟨w.heap.size,2,none⟩ (.slice ay us.length cy)).setCell ⟨w.heap.size,3,none⟩ (.slice a xs.length c)) us [.slice ay us.length cy]):=Kid.sets Kus.out (by omega) [.int .i64 nr,.slice ax ts.length cx,.slice ay us.length cy,.slice a xs.length c] 0
      clear Kus
      have DKxs:Hid (Kid (blockL 6).list (w.heap.size + 1) ((((w2.setCell ⟨w.heap.size,0,none⟩ (.int .i64 nr)).setCell ⟨w.heap.size,1,none⟩ (.slice ax ts.length cx)).setCell ⟨w.heap.size,2,none⟩ (.slice ay us.length cy)).setCell ⟨w.heap.size,3,none⟩ (.slice a xs.length c)) xs [.slice a xs.length c]):=Kid.sets Kxs.out (by omega) [.int .i64 nr,.slice ax ts.length cx,.slice ay us.length cy,.slice a xs.length c] 0
      clear Kxs
      clear y0 u0 v0 y1 u1 v1 y2 u2 v2 y3 u3 v3
      generalize ((((w2.setCell ⟨w.heap.size,0,none⟩ (.int .i64 nr)).setCell ⟨w.heap.size,1,none⟩ (.slice ax ts.length cx)).setCell ⟨w.heap.size,2,none⟩ (.slice ay us.length cy)).setCell ⟨w.heap.size,3,none⟩ (.slice a xs.length c))=w9 at D1 D2 D3 DKts DKus DKxs ⊢
      have x0:=cellOf D1 0 _ rfl
      have x1:=cellOf D1 1 _ rfl
      have x2:=cellOf D1 2 _ rfl
      have x3:=cellOf D1 3 _ rfl
      exact bodyPost_ret (v:=.agg #[.int .i64 nr,.slice ax ts.length cx,.slice ay us.length cy,.slice a xs.length c]) (by simp [results,Tryz.results70,go_sem,x0,x1,x2,x3]) rfl (Out.good (by rw [funcP,E1.out,PR.ok_andThen,nums1_eq,E2.out,PR.ok_andThen,E3.out,PR.ok_andThen,E5.out,PR.ok_andThen,E7.out,PR.ok_andThen,E10.out,PR.ok_andThen,SB.out,PR.ok_andThen];rfl) (⟨ax,cx,ay,cy,a,c,rfl,func_mk (x:=⟨nr,ts,us,xs⟩) (Kid.out DKts.out (by omega)) (Kid.out DKus.out (by omega)) (Kid.out DKxs.out (by omega)) (i64_of Bnr.out)⟩) D2.out D3.out)
    | false =>
      rw [hw] at hO
      obtain ⟨rfl,r2,k2⟩:=hO
      have HW:Hid (isW l [125] p2=false):=hw
      have F3:Hid (FB w w2 b e l p2 w.heap.size (w.heap.size + 1) #[.int .i64 0,.slice none 0 0,.slice none 0 0,.slice none 0 0] #[.int .i64 nr,.slice ax ts.length cx,.slice ay us.length cy,(.slice a xs.length c)] 38):=F2.out.call r2 k2
      have A3:Hid (ARow (blockL 6) 48 w2 lo (.slice a xs.length c) xs cs):=A2.out.chgP k2 (by have:=L0.out;omega)
      have S3:Hid (Mid (typesL 6) (w.heap.size + 1) lo w2 ts [.slice ax ts.length cx]):=S2.out.chg k2 (by omega)
      have U3:Hid (Mid (typesL 6) (w.heap.size + 1) lo w2 us [.slice ay us.length cy]):=U2.out.chg k2 (by omega)
      have LO3:Hid (lo≤w2.heap.size):=Nat.le_trans LO2.out k2.size
      clear hw r2 k2 F2 A2 S2 U2 LO2
      go_wp2_with fail
      have y2:=cellOf F3.out.box 3 _ rfl
      have hBl:=F3.out.lt
      have F3d:Hid (FB w w2.drew b e l p2 w.heap.size (w.heap.size + 1) #[.int .i64 0,.slice none 0 0,.slice none 0 0,.slice none 0 0] #[.int .i64 nr,.slice ax ts.length cx,.slice ay us.length cy,(.slice a xs.length c)] 38):=F3.out.drew
      have A3d:Hid (ARow (blockL 6) 48 w2.drew lo (.slice a xs.length c) xs cs):=A3.out.below (below_drew _)
      have S3d:Hid (Mid (typesL 6) (w.heap.size + 1) lo w2.drew ts [.slice ax ts.length cx]):=S3.out.below (below_drew _)
      have U3d:Hid (Mid (typesL 6) (w.heap.size + 1) lo w2.drew us [.slice ay us.length cy]):=U3.out.below (below_drew _)
      clear F3 A3 S3 U3
      go_region_law (first
        | (refine step_call_fn rfl 90 (.tmp 25) 83 rfl enters_block (ptrP b) (by simp [Act.eval,Act.put]) (pblock_any F3d.out.rd) ?_
           intro e' w4 hO
           rcases hO with ⟨x,p4,x4,m4,rfl,⟨q0,n0,q1,n1,q2,n2,q3,n3,q4,n4,q5,n5,q6,n6,rfl,hi4⟩,r4,k4⟩ | ⟨y,c',a',m4,rfl,hc',k4⟩
           rotate_left
           · obtain ⟨y',hy⟩:=Q2.out.bad HW.out m4
             exact ⟨rfl,Out.bad (by rw [funcP,E1.out,PR.ok_andThen,nums1_eq,E2.out,PR.ok_andThen,E3.out,PR.ok_andThen,E5.out,PR.ok_andThen,E7.out,PR.ok_andThen,E10.out,PR.ok_andThen,hy];rfl) hc' (F3d.out.chg.trans k4)⟩
           have M4:Hid (bP l e p2=.ok (x,p4)):=m4
           have F4:Hid (FB w w4 b e l p4 w.heap.size (w.heap.size + 1) #[.int .i64 0,.slice none 0 0,.slice none 0 0,.slice none 0 0] #[.int .i64 nr,.slice ax ts.length cx,.slice ay us.length cy,(.slice a xs.length c)] 38):=F3d.out.call r4 k4
           have A4:Hid (ARow (blockL 6) 48 w4 lo (.slice a xs.length c) xs cs):=A3d.out.chgP k4 (by have:=L0.out;omega)
           have S4:Hid (Mid (typesL 6) (w.heap.size + 1) lo w4 ts [.slice ax ts.length cx]):=S3d.out.chg k4 (by omega)
           have U4:Hid (Mid (typesL 6) (w.heap.size + 1) lo w4 us [.slice ay us.length cy]):=U3d.out.chg k4 (by omega)
           have y4:=cellOf F4.out.box 3 _ rfl
           have hB4:=F4.out.lt
           have hown:Hid (w4.ownsRow lo 48 12 (.slice a xs.length c) xs.length cs):=A4.out.own
           have hlo4:Hid (lo≤w4.heap.size):=Nat.le_trans LO3.out k4.size
           have I4:Hid ((blockL 6).In w4 (fun g=>w2.heap.size≤g) x [.int .i64 x.regs,.slice q0 x.params.length n0,.slice q1 x.code.length n1,.int .i64 x.fin.op,.int .i64 x.fin.a,.int .i64 x.fin.yes.block,.slice q2 x.fin.yes.regs.length n2,.slice q3 x.fin.yes.args.length n3,.int .i64 x.fin.no.block,.slice q4 x.fin.no.regs.length n4,.slice q5 x.fin.no.args.length n5,.slice q6 x.fin.args.length n6]):=hi4
           have LE4:Hid (p4≤l.length):=r4.le
           clear m4 r4 k4 hi4
           dsimp only [Upon])
        | (refine step_append_lies _ rfl (.tmp 24) (.tmp 27) 36 rfl lo 48 i0 (.agg #[.int .i64 0,.slice none 0 0,.slice none 0 0,.int .i64 0,.int .i64 0,.int .i64 0,.slice none 0 0,.slice none 0 0,.int .i64 0,.slice none 0 0,.slice none 0 0,.slice none 0 0]) 12 208 pUnderB hi hz0 hz1 hz2 rfl (by decide) (.slice a xs.length c) xs.length cs (by simp [Act.eval,Act.put]) (hown.out.alloc _) ⟨w4.heap.size,0,none⟩ 1 1 [.int .i64 x.regs,.slice q0 x.params.length n0,.slice q1 x.code.length n1,.int .i64 x.fin.op,.int .i64 x.fin.a,.int .i64 x.fin.yes.block,.slice q2 x.fin.yes.regs.length n2,.slice q3 x.fin.yes.args.length n3,.int .i64 x.fin.no.block,.slice q4 x.fin.no.regs.length n4,.slice q5 x.fin.no.args.length n5,.slice q6 x.fin.args.length n6] (by simp [Act.eval,Act.put]) rfl (newsP _ [_,_,_,_,_,_,_,_,_,_,_,_] _) (pOne12 _ _ _ _ _ _ _ _ _ _ _ _ _ _ _ _ _ _ _ _ _ _ _ _ _ _) (by decide) (by unfold maxLen;omega) (by omega) (by have:=hlo4.out;simp;omega) (w4.heap.size + 1) (by simp) ?_
           intro g2 cap2 w9 h1 hgrow hat hlt1
           have I5:(blockL 6).In (w4.alloc (.cells #[.int .i64 x.regs,.slice q0 x.params.length n0,.slice q1 x.code.length n1,.int .i64 x.fin.op,.int .i64 x.fin.a,.int .i64 x.fin.yes.block,.slice q2 x.fin.yes.regs.length n2,.slice q3 x.fin.yes.args.length n3,.int .i64 x.fin.no.block,.slice q4 x.fin.no.regs.length n4,.slice q5 x.fin.no.args.length n5,.slice q6 x.fin.args.length n6] 48)) (fun g=>lo≤g∧(Value.slice a xs.length c).ownBlock≠some g) x [.int .i64 x.regs,.slice q0 x.params.length n0,.slice q1 x.code.length n1,.int .i64 x.fin.op,.int .i64 x.fin.a,.int .i64 x.fin.yes.block,.slice q2 x.fin.yes.regs.length n2,.slice q3 x.fin.yes.args.length n3,.int .i64 x.fin.no.block,.slice q4 x.fin.no.regs.length n4,.slice q5 x.fin.no.args.length n5,.slice q6 x.fin.args.length n6] :=
             Lay.alloc (Lay.mono I4.out (fun k hk _=>⟨Nat.le_trans LO3.out hk,fun e=>by have:k < w2.heap.size:=(A3d.out.lo_le e).2;omega⟩)) _
           have A5:=A4.out.below (bel1 w4 (.cells #[.int .i64 x.regs,.slice q0 x.params.length n0,.slice q1 x.code.length n1,.int .i64 x.fin.op,.int .i64 x.fin.a,.int .i64 x.fin.yes.block,.slice q2 x.fin.yes.regs.length n2,.slice q3 x.fin.yes.args.length n3,.int .i64 x.fin.no.block,.slice q4 x.fin.no.regs.length n4,.slice q5 x.fin.no.args.length n5,.slice q6 x.fin.args.length n6] 48))
           have F9:Hid (FB w w9 b e l p4 w.heap.size (w.heap.size + 1) #[.int .i64 0,.slice none 0 0,.slice none 0 0,.slice none 0 0] #[.int .i64 nr,.slice ax ts.length cx,.slice ay us.length cy,(.slice a xs.length c)] 38):=(F4.out.alloc _).grown hgrow (fun k hk=>by have:=(A5.lo_le hk).1;have:=L0.out;omega)
           have A9:Hid (ARow (blockL 6) 48 w9 lo (.slice (some ⟨g2,0,none⟩) (xs.length + 1) cap2) (xs ++ [x]) (cs ++ [.int .i64 x.regs,.slice q0 x.params.length n0,.slice q1 x.code.length n1,.int .i64 x.fin.op,.int .i64 x.fin.a,.int .i64 x.fin.yes.block,.slice q2 x.fin.yes.regs.length n2,.slice q3 x.fin.yes.args.length n3,.int .i64 x.fin.no.block,.slice q4 x.fin.no.regs.length n4,.slice q5 x.fin.no.args.length n5,.slice q6 x.fin.args.length n6])):=ARow.push A5 I5 hgrow (by simpa using hat) h1
           have S9:Hid (Mid (typesL 6) (w.heap.size + 1) lo w9 ts [.slice ax ts.length cx]):=(S4.out.below (bel1 _ _)).grown hgrow (fun k hk=>(A5.lo_le hk).1)
           have U9:Hid (Mid (typesL 6) (w.heap.size + 1) lo w9 us [.slice ay us.length cy]):=(U4.out.below (bel1 _ _)).grown hgrow (fun k hk=>(A5.lo_le hk).1)
           have LO9:Hid (lo≤w9.heap.size):=by have h8:=hgrow.size;have h7:=hlo4.out;have h6:=(bel1 w4 (.cells #[.int .i64 x.regs,.slice q0 x.params.length n0,.slice q1 x.code.length n1,.int .i64 x.fin.op,.int .i64 x.fin.a,.int .i64 x.fin.yes.block,.slice q2 x.fin.yes.regs.length n2,.slice q3 x.fin.yes.args.length n3,.int .i64 x.fin.no.block,.slice q4 x.fin.no.regs.length n4,.slice q5 x.fin.no.args.length n5,.slice q6 x.fin.args.length n6] 48)).size;exact Nat.le_trans h7 (Nat.le_trans h6 h8)
           have y9:=cellOf F9.out.box 3 _ rfl
           have z9:=freeOf F9.out.box 3
           clear h1 hgrow hat hlt1 I5 A5))
      all_goals
        have F10:Hid (FB w (w9.setCell ⟨(w.heap.size + 1),3,none⟩ (.slice (some ⟨g2,0,none⟩) (xs.length + 1) cap2)) b e l p4 w.heap.size (w.heap.size + 1) #[.int .i64 0,.slice none 0 0,.slice none 0 0,.slice none 0 0] #[.int .i64 nr,.slice ax ts.length cx,.slice ay us.length cy,(.slice (some ⟨g2,0,none⟩) (xs.length + 1) cap2)] 38):=FB.set F9.out 3 (.slice (some ⟨g2,0,none⟩) (xs.length + 1) cap2)
        have A10:Hid (ARow (blockL 6) 48 (w9.setCell ⟨(w.heap.size + 1),3,none⟩ (.slice (some ⟨g2,0,none⟩) (xs.length + 1) cap2)) lo (.slice (some ⟨g2,0,none⟩) (xs.length + 1) cap2) (xs ++ [x]) (cs ++ [.int .i64 x.regs,.slice q0 x.params.length n0,.slice q1 x.code.length n1,.int .i64 x.fin.op,.int .i64 x.fin.a,.int .i64 x.fin.yes.block,.slice q2 x.fin.yes.regs.length n2,.slice q3 x.fin.yes.args.length n3,.int .i64 x.fin.no.block,.slice q4 x.fin.no.regs.length n4,.slice q5 x.fin.no.args.length n5,.slice q6 x.fin.args.length n6])):=ARow.setOther A9.out L0.out _
        have S10:Hid (Mid (typesL 6) (w.heap.size + 1) lo (w9.setCell ⟨(w.heap.size + 1),3,none⟩ (.slice (some ⟨g2,0,none⟩) (xs.length + 1) cap2)) ts [.slice ax ts.length cx]):=Mid.set S9.out (Nat.le_refl _) _
        have U10:Hid (Mid (typesL 6) (w.heap.size + 1) lo (w9.setCell ⟨(w.heap.size + 1),3,none⟩ (.slice (some ⟨g2,0,none⟩) (xs.length + 1) cap2)) us [.slice ay us.length cy]):=Mid.set U9.out (Nat.le_refl _) _
        have LO10:Hid (lo≤(w9.setCell ⟨(w.heap.size + 1),3,none⟩ (.slice (some ⟨g2,0,none⟩) (xs.length + 1) cap2)).heap.size):=by show _≤_;have:=LO9.out;simpa using this
        have Q10:Hid (BlocksQ l e p10 p4 (f - 1) (xs ++ [x])):=Q2.out.go M4.out LE4.out
        have hm10:Hid (lenP (((w9.setCell ⟨(w.heap.size + 1),3,none⟩ (.slice (some ⟨g2,0,none⟩) (xs.length + 1) cap2)).cell? ⟨(w.heap.size + 1),3,none⟩).getD undef)=xs.length + 1):=by show _=_;rw [cellOf F10.out.box 3 _ rfl];rfl
        clear F9 A9 S9 S4 U9 U4 LO9 y9 z9 y4 hB4 hown hlo4 I4 F4 A4
        generalize (w9.setCell ⟨(w.heap.size + 1),3,none⟩ (.slice (some ⟨g2,0,none⟩) (xs.length + 1) cap2))=w10 at F10 A10 S10 U10 LO10 hm10 ⊢
        go_wp2
        go_roundw
        case rel=>exact ⟨xs ++ [x],_,_,p4,f - 1,F10.out,A10.out,S10.out,U10.out,Q10.out,LO10.out⟩
        case measure=>rw [hm10.out,hmeas.out];omega
def VMod (w0 : World) : World → List (MFunc 6) → Value → Prop := fun w' m v => ∃ a c, v = .agg #[.slice a m.length c] ∧ (modL 6).In w' (fun g => w0.heap.size ≤ g) m [.slice a m.length c]
theorem pOne4 (o1 : Int) (a0 a1 a2 : Option Addr) (l0 c0 l1 c1 l2 c2 : Nat) : ∀ u ∈ [Value.int .i64 o1, .slice a0 l0 c0, .slice a1 l1 c1, .slice a2 l2 c2], u.oneCell' = true := by
  intro u h
  simp at h
  rcases h with rfl | rfl | rfl | rfl <;> rfl
theorem pmodule_any {w : World} {b e : Nat} {l : List Tk} (h : PAt w b l e 0) :
    Calls Tryz.prog 35 #[ptrP b] w fun en w'=>Out b e l (funcsP l e (l.length + 1) 0) w (VMod w) en w':=by
  have hbw:=h.lt
  have hlen:=h.len
  have F0:Hid (FB w ((w.alloc (.cells #[.slice none 0 0] 25)).alloc (.cells #[.slice none 0 0] 25)) b e l 0 w.heap.size (w.heap.size + 1) #[.slice none 0 0] #[.slice none 0 0] 25):=FB.start h
  obtain ⟨i0,hi,hz0,hz1,hz2⟩:=pInfoF
  clear h
  go_enter Tryz.func35,Tryz.ntmps35
  go_wp2_with fail
  have L0:Hid ((w.heap.size + 1) < ((w.alloc (.cells #[.slice none 0 0] 25)).alloc (.cells #[.slice none 0 0] 25)).heap.size):=F0.out.lt
  generalize (w.alloc (.cells #[.slice none 0 0] 25)).alloc (.cells #[.slice none 0 0] 25)=w0 at F0 L0 ⊢
  generalize hlo:w0.heap.size=lo at L0
  have HLO:Hid (lo=w0.heap.size):=hlo.symm
  clear hlo
  go_loopw [4] (fun u wr=>∃ xs cs v p2 f,FB w wr b e l p2 w.heap.size (w.heap.size + 1) #[.slice none 0 0] #[v] 25∧ARow (funcL 6) 38 wr lo v xs cs∧FuncsQ l e p2 f xs∧lo≤wr.heap.size) (fun _ wr=>50000 - lenP ((wr.cell? ⟨(w.heap.size + 1),0,none⟩).getD undef))
  case atStart=>exact ⟨[],[],.slice none 0 0,0,l.length + 1,F0.out,ARow.nil _ _ _ _,FuncsQ.start,by rw [HLO.out];exact Nat.le_refl _⟩
  case round =>
    obtain ⟨xs,cs,v,p2,f,hF,hA,hQ,hl⟩:=hrel
    obtain ⟨a,c,rfl⟩:=hA.formP
    have F2:Hid (FB w wr b e l p2 w.heap.size (w.heap.size + 1) #[.slice none 0 0] #[(.slice a xs.length c)] 25):=hF
    have A2:Hid (ARow (funcL 6) 38 wr lo (.slice a xs.length c) xs cs):=hA
    have Q2:Hid (FuncsQ l e p2 f xs):=hQ
    have LO2:Hid (lo≤wr.heap.size):=hl
    have hmeas:Hid (lenP ((wr.cell? ⟨(w.heap.size + 1),0,none⟩).getD undef)=xs.length):=by show _=_;rw [cellOf hF.box 0 _ rfl];rfl
    have hcnt:xs.length≤40000:=by have h1:=hQ.cnt;have h2:=hQ.le;omega
    clear hF hA hQ hl F0
    by_cases hlt:p2 < l.length
    · have hx:l[p2]?=some l[p2]:=List.getElem?_eq_getElem hlt
      generalize l[p2]=tk at hx
      obtain ⟨gg,oo,nn,cc,h1,hn,hc,hn4,hgg,-,-,-,-⟩:=F2.out.rd.tok hx
      have t0:=cellOf h1 0 _ rfl
      have hpos:(0:Int) < (nn:Int) + 1:=by omega
      have HLT:Hid (p2 < l.length):=hlt
      have F3:=F2
      have A3:=A2
      have LO3:=LO2
      clear F2 A2 LO2
      clear h1 hn hc hx hgg hlt
      go_wp2_with fail
      have y2:=cellOf F3.out.box 0 _ rfl
      have hBl:=F3.out.lt
      have F3d:Hid (FB w wr.drew b e l p2 w.heap.size (w.heap.size + 1) #[.slice none 0 0] #[(.slice a xs.length c)] 25):=F3.out.drew
      have A3d:Hid (ARow (funcL 6) 38 wr.drew lo (.slice a xs.length c) xs cs):=A3.out.below (below_drew _)
      clear F3 A3
      go_region_law (first
        | (refine step_call_fn rfl 70 (.tmp 12) 83 rfl enters_function (ptrP b) (by simp [Act.eval,Act.put]) (pfunction_any F3d.out.rd) ?_
           intro e' w4 hO
           rcases hO with ⟨x,p4,x4,m4,rfl,⟨q1,n1,q2,n2,q3,n3,rfl,hi4⟩,r4,k4⟩ | ⟨y,c',a',m4,rfl,hc',k4⟩
           rotate_left
           · exact ⟨rfl,Out.bad (Q2.out.bad HLT.out m4) hc' (F3d.out.chg.trans k4)⟩
           have M4:Hid (funcP l e p2=.ok (x,p4)):=m4
           have F4:Hid (FB w w4 b e l p4 w.heap.size (w.heap.size + 1) #[.slice none 0 0] #[(.slice a xs.length c)] 25):=F3d.out.call r4 k4
           have A4:Hid (ARow (funcL 6) 38 w4 lo (.slice a xs.length c) xs cs):=A3d.out.chgP k4 (by have:=L0.out;omega)
           have y4:=cellOf F4.out.box 0 _ rfl
           have hB4:=F4.out.lt
           have hown:Hid (w4.ownsRow lo 38 4 (.slice a xs.length c) xs.length cs):=A4.out.own
           have hlo4:Hid (lo≤w4.heap.size):=Nat.le_trans LO3.out k4.size
           have I4:Hid ((funcL 6).In w4 (fun g=>wr.heap.size≤g) x [.int .i64 x.regs,.slice q1 x.params.length n1,.slice q2 x.results.length n2,.slice q3 x.blocks.length n3]):=hi4
           have LE4:Hid (p4≤l.length):=r4.le
           clear m4 r4 k4 hi4
           dsimp only [Upon])
        | (refine step_append_lies _ rfl (.tmp 11) (.tmp 14) 23 rfl lo 38 i0 (.agg #[.int .i64 0,.slice none 0 0,.slice none 0 0,.slice none 0 0]) 4 80 pUnderF hi hz0 hz1 hz2 rfl (by decide) (.slice a xs.length c) xs.length cs (by simp [Act.eval,Act.put]) (hown.out.alloc _) ⟨w4.heap.size,0,none⟩ 1 1 [.int .i64 x.regs,.slice q1 x.params.length n1,.slice q2 x.results.length n2,.slice q3 x.blocks.length n3] (by simp [Act.eval,Act.put]) rfl (newsP _ [_,_,_,_] _) (pOne4 _ _ _ _ _ _ _ _ _ _) (by decide) (by unfold maxLen;omega) (by omega) (by have:=hlo4.out;simp;omega) (w4.heap.size + 1) (by simp) ?_
           intro g2 cap2 w9 h1 hgrow hat hlt1
           have I5:(funcL 6).In (w4.alloc (.cells #[.int .i64 x.regs,.slice q1 x.params.length n1,.slice q2 x.results.length n2,.slice q3 x.blocks.length n3] 38)) (fun g=>lo≤g∧(Value.slice a xs.length c).ownBlock≠some g) x [.int .i64 x.regs,.slice q1 x.params.length n1,.slice q2 x.results.length n2,.slice q3 x.blocks.length n3] :=
             Lay.alloc (Lay.mono I4.out (fun k hk _=>⟨Nat.le_trans LO3.out hk,fun e=>by have:k < wr.heap.size:=(A3d.out.lo_le e).2;omega⟩)) _
           have A5:=A4.out.below (bel1 w4 (.cells #[.int .i64 x.regs,.slice q1 x.params.length n1,.slice q2 x.results.length n2,.slice q3 x.blocks.length n3] 38))
           have F9:Hid (FB w w9 b e l p4 w.heap.size (w.heap.size + 1) #[.slice none 0 0] #[(.slice a xs.length c)] 25):=(F4.out.alloc _).grown hgrow (fun k hk=>by have:=(A5.lo_le hk).1;have:=L0.out;omega)
           have A9:Hid (ARow (funcL 6) 38 w9 lo (.slice (some ⟨g2,0,none⟩) (xs.length + 1) cap2) (xs ++ [x]) (cs ++ [.int .i64 x.regs,.slice q1 x.params.length n1,.slice q2 x.results.length n2,.slice q3 x.blocks.length n3])):=ARow.push A5 I5 hgrow (by simpa using hat) h1
           have LO9:Hid (lo≤w9.heap.size):=by have h8:=hgrow.size;have h7:=hlo4.out;have h6:=(bel1 w4 (.cells #[.int .i64 x.regs,.slice q1 x.params.length n1,.slice q2 x.results.length n2,.slice q3 x.blocks.length n3] 38)).size;exact Nat.le_trans h7 (Nat.le_trans h6 h8)
           have y9:=cellOf F9.out.box 0 _ rfl
           have z9:=freeOf F9.out.box 0
           clear h1 hgrow hat hlt1 I5 A5))
      all_goals
        have F10:Hid (FB w (w9.setCell ⟨(w.heap.size + 1),0,none⟩ (.slice (some ⟨g2,0,none⟩) (xs.length + 1) cap2)) b e l p4 w.heap.size (w.heap.size + 1) #[.slice none 0 0] #[(.slice (some ⟨g2,0,none⟩) (xs.length + 1) cap2)] 25):=FB.set F9.out 0 (.slice (some ⟨g2,0,none⟩) (xs.length + 1) cap2)
        have A10:Hid (ARow (funcL 6) 38 (w9.setCell ⟨(w.heap.size + 1),0,none⟩ (.slice (some ⟨g2,0,none⟩) (xs.length + 1) cap2)) lo (.slice (some ⟨g2,0,none⟩) (xs.length + 1) cap2) (xs ++ [x]) (cs ++ [.int .i64 x.regs,.slice q1 x.params.length n1,.slice q2 x.results.length n2,.slice q3 x.blocks.length n3])):=ARow.setOther A9.out L0.out _
        have LO10:Hid (lo≤(w9.setCell ⟨(w.heap.size + 1),0,none⟩ (.slice (some ⟨g2,0,none⟩) (xs.length + 1) cap2)).heap.size):=by show _≤_;have:=LO9.out;simpa using this
        have Q10:Hid (FuncsQ l e p4 (f - 1) (xs ++ [x])):=Q2.out.go HLT.out M4.out LE4.out
        have hm10:Hid (lenP (((w9.setCell ⟨(w.heap.size + 1),0,none⟩ (.slice (some ⟨g2,0,none⟩) (xs.length + 1) cap2)).cell? ⟨(w.heap.size + 1),0,none⟩).getD undef)=xs.length + 1):=by show _=_;rw [cellOf F10.out.box 0 _ rfl];rfl
        clear F9 A9  LO9 y9 z9 y4 hB4 hown hlo4 I4 F4 A4
        generalize (w9.setCell ⟨(w.heap.size + 1),0,none⟩ (.slice (some ⟨g2,0,none⟩) (xs.length + 1) cap2))=w10 at F10 A10  LO10 hm10 ⊢
        go_wp2
        go_roundw
        case rel=>exact ⟨xs ++ [x],_,_,p4,f - 1,F10.out,A10.out,Q10.out,LO10.out⟩
        case measure=>rw [hm10.out,hmeas.out];omega
    · obtain ⟨aa,cc,h1⟩:=F2.out.rd.none_left hlt
      have t0:=cellOf h1 0 _ rfl
      have SF:Hid (funcsP l e (l.length + 1) 0=.ok (xs,p2)):=Q2.out.stop hlt
      have Kxs:Hid (Kid (funcL 6).list (w.heap.size + 1) wr xs [.slice a xs.length c]):=A2.out.kidP L0.out
      have F3:=F2
      clear F2
      clear h1 hlt Q2 A2 hmeas LO2 HLO
      have y0:=cellOf F3.out.box 0 _ rfl
      have u0:=cellOf F3.out.res 0 _ rfl
      have v0:=freeOf F3.out.res 0
      have hne:¬ (w.heap.size + 1)=w.heap.size:=by omega
      go_wp2
      have D1:Blk (wr.setCell ⟨w.heap.size,0,none⟩ (.slice a xs.length c)) w.heap.size #[.slice a xs.length c] 25:=(FB.fin F3.out [.slice a xs.length c] rfl).1
      have D2:Hid (PAt (wr.setCell ⟨w.heap.size,0,none⟩ (.slice a xs.length c)) b l e p2):=(FB.fin F3.out [.slice a xs.length c] rfl).2.1
      have D3:Hid (Chg b w (wr.setCell ⟨w.heap.size,0,none⟩ (.slice a xs.length c))):=(FB.fin F3.out [.slice a xs.length c] rfl).2.2
      have DKxs:Hid (Kid (funcL 6).list (w.heap.size + 1) (wr.setCell ⟨w.heap.size,0,none⟩ (.slice a xs.length c)) xs [.slice a xs.length c]):=Kid.sets Kxs.out (by omega) [.slice a xs.length c] 0
      clear Kxs
      clear y0 u0 v0
      generalize (wr.setCell ⟨w.heap.size,0,none⟩ (.slice a xs.length c))=w9 at D1 D2 D3 DKxs ⊢
      have x0:=cellOf D1 0 _ rfl
      exact bodyPost_ret (v:=.agg #[.slice a xs.length c]) (by simp [results,Tryz.results35,go_sem,x0]) rfl (Out.good (SF.out) (⟨a,c,rfl,Kid.out DKxs.out (by omega)⟩) D2.out D3.out)
def CatchOut (M Fb : Nat) (c a : Int) (w w' : World) : Prop := Blk w' M #[.slice none 0 0] 25 ∧ Blk w' Fb #[.int .i64 c, .int .i64 a] 27 ∧ Step (fun k => k = M ∨ k = Fb) (fun k => k = M ∨ k = Fb) w w'
theorem catch_panicking {w : World} {M Fb : Nat} (c a : Int) (hM : Blk w M #[.slice none 0 0] 25) (hF : Blk w Fb #[.int .i64 0, .int .i64 0] 27) (hne : M ≠ Fb) :
    CallsD Tryz.prog 34 #[ptrP M,ptrP Fb] (.panicking (gave c a)) w fun e u' w' =>
      e=.returned (.tuple #[])∧u'=.panicking [{ v:=.iface 81 (.agg #[.int .i64 c,.int .i64 a]),recovered:=true }]∧CatchOut M Fb c a w w':=by
  have hMl:=hM.lt
  have hFl:=hF.lt
  have yM:=cellOf hM 0 _ rfl
  have zM:=freeOf hM 0
  have yF0:=cellOf hF 0 _ rfl
  have zF0:=freeOf hF 0
  have yF1:=cellOf hF 1 _ rfl
  have zF1:=freeOf hF 1
  refine callsD_of_wpS Tryz.func34 rfl fun c₀ cs hu=>?_
  apply wpS_seq
  apply wpS_region
  simp [wpOpsS,go_sem,recoverD,hu,Tryz.ntmps34,Exit.thenS]
  rw [show (#[ptrP M,ptrP Fb] ++ ((Array.replicate 16 undef).setIfInBounds 3 (Value.iface 81 (.agg #[.int .i64 c,.int .i64 a]))).setIfInBounds 0 (Value.iface 81 (.agg #[.int .i64 c,.int .i64 a])):Array Value)=#[ptrP M,ptrP Fb,Value.iface 81 (.agg #[.int .i64 c,.int .i64 a]),undef,undef,Value.iface 81 (.agg #[.int .i64 c,.int .i64 a]),undef,undef,undef,undef,undef,undef,undef,undef,undef,undef,undef,undef] from rfl]
  refine wpS_of_wp ?_
  have hta:∀ w:World,(Instr.typeAssert (.iface 81 (.agg #[.int .i64 c,.int .i64 a])) 20 81 true).run Tryz.prog w=.ok (.tuple #[.agg #[.int .i64 c,.int .i64 a],.bool true]) w:=fun _=>by kernel_rfl
  have hM2:Hid (Blk (w.alloc (.cells #[.int .i64 c,.int .i64 a] 81)) M #[.slice none 0 0] 25):=hM.alloc _
  have hF2:Hid (Blk (w.alloc (.cells #[.int .i64 c,.int .i64 a] 81)) Fb #[.int .i64 0,.int .i64 0] 27):=hF.alloc _
  have hX2:Hid (Blk (w.alloc (.cells #[.int .i64 c,.int .i64 a] 81)) w.heap.size #[.int .i64 c,.int .i64 a] 81):=Blk.new _ _ _
  have hS2:Hid (Step (fun k=>k=M ∨ k=Fb) (fun k=>k=M ∨ k=Fb) w (w.alloc (.cells #[.int .i64 c,.int .i64 a] 81))):=(Step.refl _ w).alloc _
  clear hM hF
  go_wp2_with fail
  clear yM zM yF0 zF0 yF1 zF1
  generalize w.alloc (.cells #[.int .i64 c,.int .i64 a] 81)=w2 at hM2 hF2 hX2 hS2 ⊢
  have yM:=cellOf hM2.out 0 _ rfl
  have zM:=freeOf hM2.out 0
  have yF0:=cellOf hF2.out 0 _ rfl
  have zF0:=freeOf hF2.out 0
  have yF1:=cellOf hF2.out 1 _ rfl
  have zF1:=freeOf hF2.out 1
  have x0:=cellOf hX2.out 0 _ rfl
  have x1:=cellOf hX2.out 1 _ rfl
  have n1:¬ w.heap.size=M:=by omega
  have n2:¬ w.heap.size=Fb:=by omega
  have n3:¬ M=Fb:=hne
  have n4:¬ Fb=M:=fun e=>hne e.symm
  clear hta
  go_region
  have D1:=(((Blk.setOther (show Blk _ M #[.slice none 0 0] 25 by simpa using blockSet hM2.out 0 (.slice none 0 0)) (p:=⟨Fb,0,none⟩) n4 (.int .i64 c)).setOther (p:=⟨Fb,1,none⟩) n4 (.int .i64 a)))
  have D2:Blk (((w2.setCell ⟨M,0,none⟩ (.slice none 0 0)).setCell ⟨Fb,0,none⟩ (.int .i64 c)).setCell ⟨Fb,1,none⟩ (.int .i64 a)) Fb #[.int .i64 c,.int .i64 a] 27:=by
    have:=blockSet (blockSet (hF2.out.setOther (p:=⟨M,0,none⟩) n3 (.slice none 0 0)) 0 (.int .i64 c)) 1 (.int .i64 a)
    simpa using this
  have D3:Step (fun k=>k=M ∨ k=Fb) (fun k=>k=M ∨ k=Fb) w (((w2.setCell ⟨M,0,none⟩ (.slice none 0 0)).setCell ⟨Fb,0,none⟩ (.int .i64 c)).setCell ⟨Fb,1,none⟩ (.int .i64 a)).drew:=(((hS2.out.setCell (.inl rfl) _).setCell (.inr rfl) _).setCell (.inr rfl) _).drew
  have D:CatchOut M Fb c a w (((w2.setCell ⟨M,0,none⟩ (.slice none 0 0)).setCell ⟨Fb,0,none⟩ (.int .i64 c)).setCell ⟨Fb,1,none⟩ (.int .i64 a)).drew:=⟨D1,D2,D3⟩
  exact (show bodyPostS _ _ _ _ _ _ _ _ _ from ⟨rfl,_,rfl,.tuple #[],by simp [results,Tryz.results34,go_sem],rfl,rfl,D⟩)
theorem catch_idle {w : World} (M Fb : Nat) :
    CallsD Tryz.prog 34 #[ptrP M,ptrP Fb] .returning w fun e u' w'=>e=.returned (.tuple #[])∧u'=.returning∧w'=w:=by
  refine callsD_of_wpS Tryz.func34 rfl fun c₀ cs hu=>?_
  apply wpS_seq
  apply wpS_region
  simp [wpOpsS,go_sem,recoverD,hu,Tryz.ntmps34,Exit.thenS]
  rw [show (#[ptrP M,ptrP Fb] ++ ((Array.replicate 16 undef).setIfInBounds 3 (Value.nilIface)).setIfInBounds 0 (Value.nilIface):Array Value)=#[ptrP M,ptrP Fb,Value.nilIface,undef,undef,Value.nilIface,undef,undef,undef,undef,undef,undef,undef,undef,undef,undef,undef,undef] from rfl]
  refine wpS_of_wp ?_
  go_wp2_with fail
  cases c₀
  simp_all [bodyPostS,results,Tryz.results34]
def ReadOut (r : PR (List (MFunc 6))) (w : World) (en : Ending) (w' : World) : Prop :=
  (∃ m q a c,r=.ok (m,q)∧en=.returned (.tuple #[.agg #[.slice a m.length c],.agg #[.int .i64 0,.int .i64 0]])∧(modL 6).In w' (fun g=>w.heap.size≤g) m [.slice a m.length c]∧Below w.heap.size w w') ∨
  (∃ y,∃ c a:Int,r=.error y∧en=.returned (.tuple #[.agg #[.slice none 0 0],.agg #[.int .i64 c,.int .i64 a]])∧c≠0∧Below w.heap.size w w')
theorem read_any {w : World} {l : List Tk} {e : Nat} {a : Option Addr} {c : Nat} (hl : tkL.list.In w (fun _ => True) l [.slice a l.length c]) (hc : l.length ≤ c) (hn : l.length ≤ 40000) (hf : ∀ x ∈ l, x.fine) :
    Calls Tryz.prog 15 #[.slice a l.length c,.int .i64 e] w fun en w'=>ReadOut (funcsP l e (l.length + 1) 0) w en w':=by
  have hmf:∀ (fn:Fn) (first cap:Array Value) (w:World),(Instr.makeFunc fn first cap).run Tryz.prog w=.ok (.func fn first cap) w:=fun _ _ _ _=>rfl
  have P0:Hid (PAt (((w.alloc (.cells #[.slice none 0 0] 25)).alloc (.cells #[.int .i64 0,.int .i64 0] 27)).alloc (.cells #[.slice a l.length c,.int .i64 e] 85)) (w.heap.size + 1 + 1) l e 0):=by
    refine ⟨⟨a,c,?_,?_,by simpa using hc⟩,Nat.zero_le _,hn,hf⟩
    · have:=Blk.new ((w.alloc (.cells #[.slice none 0 0] 25)).alloc (.cells #[.int .i64 0,.int .i64 0] 27)) #[.slice a l.length c,.int .i64 e] 85
      simpa using this
    · rw [List.drop_zero]
      exact Lay.alloc (Lay.alloc (Lay.alloc (Lay.mono hl (fun k _ hk=>by omega)) _) _) _
  have M0:Hid (Blk (((w.alloc (.cells #[.slice none 0 0] 25)).alloc (.cells #[.int .i64 0,.int .i64 0] 27)).alloc (.cells #[.slice a l.length c,.int .i64 e] 85)) w.heap.size #[.slice none 0 0] 25):=(Blk.new1 _ _ _ _ _).alloc _
  have F0:Hid (Blk (((w.alloc (.cells #[.slice none 0 0] 25)).alloc (.cells #[.int .i64 0,.int .i64 0] 27)).alloc (.cells #[.slice a l.length c,.int .i64 e] 85)) (w.heap.size + 1) #[.int .i64 0,.int .i64 0] 27):=(Blk.new2 _ _ _ _).alloc _
  have B0:Hid (Below w.heap.size w (((w.alloc (.cells #[.slice none 0 0] 25)).alloc (.cells #[.int .i64 0,.int .i64 0] 27)).alloc (.cells #[.slice a l.length c,.int .i64 e] 85))):=(bel2 _ _ _).alloc (by simp;omega) _
  have S0:Hid (w.heap.size + 1 + 1 < (((w.alloc (.cells #[.slice none 0 0] 25)).alloc (.cells #[.int .i64 0,.int .i64 0] 27)).alloc (.cells #[.slice a l.length c,.int .i64 e] 85)).heap.size):=P0.out.lt
  clear hl hc hn hf
  go_enter_defers Tryz.func15,Tryz.ntmps15
  go_wp2_with fail
  generalize ((w.alloc (.cells #[.slice none 0 0] 25)).alloc (.cells #[.int .i64 0,.int .i64 0] 27)).alloc (.cells #[.slice a l.length c,.int .i64 e] 85)=w3 at P0 M0 F0 B0 S0 ⊢
  refine (pmodule_any P0.out).mono ?_
  intro e' w4 hO
  rcases hO with ⟨m,q,x,m4,rfl,⟨a4,c4,rfl,hi4⟩,r4,k4⟩ | ⟨y,c',a',m4,rfl,hc',k4⟩
  · have M4:Hid (Blk w4 w.heap.size #[.slice none 0 0] 25):=M0.out.chg k4 (by omega)
    have F4:Hid (Blk w4 (w.heap.size + 1) #[.int .i64 0,.int .i64 0] 27):=F0.out.chg k4 (by omega)
    have B4:Hid (Below w.heap.size w w4):=Chg.last B0.out k4 (by omega) B0.out.size
    have I4:Hid ((modL 6).In w4 (fun g=>w.heap.size + 1 < g) m [.slice a4 m.length c4]):=Lay.mono hi4 (fun k hk _=>by have:=S0.out;omega)
    have E4:Hid (funcsP l e (l.length + 1) 0=.ok (m,q)):=m4
    have yM:=cellOf M4.out 0 _ rfl
    have zM:=freeOf M4.out 0
    have yF0:=cellOf F4.out 0 _ rfl
    have zF0:=freeOf F4.out 0
    have yF1:=cellOf F4.out 1 _ rfl
    have zF1:=freeOf F4.out 1
    clear m4 hi4 r4 k4 P0 M0 F0 B0
    go_wp2
    have n1:¬ w.heap.size + 1=w.heap.size:=by omega
    have n2:¬ w.heap.size=w.heap.size + 1:=by omega
    have D1:Blk (((w4.setCell ⟨w.heap.size,0,none⟩ (.slice a4 m.length c4)).setCell ⟨w.heap.size + 1,0,none⟩ (.int .i64 0)).setCell ⟨w.heap.size + 1,1,none⟩ (.int .i64 0)) w.heap.size #[.slice a4 m.length c4] 25:=by
      have:=blockSet M4.out 0 (.slice a4 m.length c4)
      exact Blk.setOther (Blk.setOther (show Blk _ w.heap.size #[.slice a4 m.length c4] 25 by simpa using this) (p:=⟨w.heap.size + 1,0,none⟩) n1 _) (p:=⟨w.heap.size + 1,1,none⟩) n1 _
    have D2:Blk (((w4.setCell ⟨w.heap.size,0,none⟩ (.slice a4 m.length c4)).setCell ⟨w.heap.size + 1,0,none⟩ (.int .i64 0)).setCell ⟨w.heap.size + 1,1,none⟩ (.int .i64 0)) (w.heap.size + 1) #[.int .i64 0,.int .i64 0] 27:=by
      have:=blockSet (blockSet (F4.out.setOther (p:=⟨w.heap.size,0,none⟩) n2 (.slice a4 m.length c4)) 0 (.int .i64 0)) 1 (.int .i64 0)
      simpa using this
    have D3:Hid ((modL 6).In (((w4.setCell ⟨w.heap.size,0,none⟩ (.slice a4 m.length c4)).setCell ⟨w.heap.size + 1,0,none⟩ (.int .i64 0)).setCell ⟨w.heap.size + 1,1,none⟩ (.int .i64 0)) (fun g=>w.heap.size≤g) m [.slice a4 m.length c4]) :=
      Lay.mono (Lay.setCell (Lay.setCell (Lay.setCell I4.out (p:=⟨w.heap.size,0,none⟩) (by simp) _) (p:=⟨w.heap.size + 1,0,none⟩) (by simp) _) (p:=⟨w.heap.size + 1,1,none⟩) (by simp) _) (fun k hk _=>by omega)
    have D4:Hid (Below w.heap.size w (((w4.setCell ⟨w.heap.size,0,none⟩ (.slice a4 m.length c4)).setCell ⟨w.heap.size + 1,0,none⟩ (.int .i64 0)).setCell ⟨w.heap.size + 1,1,none⟩ (.int .i64 0))):=((B4.out.setCell (p:=⟨w.heap.size,0,none⟩) (Nat.le_refl _) _).setCell (p:=⟨w.heap.size + 1,0,none⟩) (Nat.le_succ _) _).setCell (p:=⟨w.heap.size + 1,1,none⟩) (Nat.le_succ _) _
    clear yM zM yF0 zF0 yF1 zF1 M4 F4 B4 I4
    generalize (((w4.setCell ⟨w.heap.size,0,none⟩ (.slice a4 m.length c4)).setCell ⟨w.heap.size + 1,0,none⟩ (.int .i64 0)).setCell ⟨w.heap.size + 1,1,none⟩ (.int .i64 0))=w5 at D1 D2 D3 D4 ⊢
    refine leaves_cons (f:=34) (args:=#[ptrP w.heap.size,ptrP (w.heap.size + 1)]) (by simp) (by simp [go_sem]) ?_
    refine (catch_idle w.heap.size (w.heap.size + 1)).mono ?_
    rintro e1 u1 w6 ⟨rfl,rfl,rfl⟩
    have x0:=cellOf D1 0 _ rfl
    have x1:=cellOf D2 0 _ rfl
    have x2:=cellOf D2 1 _ rfl
    exact ⟨.tuple #[.agg #[.slice a4 m.length c4],.agg #[.int .i64 0,.int .i64 0]],by simp [results,Tryz.results15,go_sem,x0,x1,x2],.inl ⟨m,q,a4,c4,E4.out,rfl,D3.out,D4.out⟩⟩
  · have M4:=M0.out.chg k4 (by omega)
    have F4:=F0.out.chg k4 (by omega)
    have B4:Below w.heap.size w w4:=Chg.last B0.out k4 (by omega) B0.out.size
    show bodyPostD _ _ _ _ _ _
    refine leaves_cons (f:=34) (args:=#[ptrP w.heap.size,ptrP (w.heap.size + 1)]) (by simp) (by simp [go_sem]) ?_
    refine (catch_panicking c' a' M4 F4 (by omega)).mono ?_
    rintro e1 u1 w5 ⟨rfl,rfl,d1,d2,d3⟩
    have B5:Below w.heap.size w w5:=⟨d3.os.trans B4.os,d3.tape.trans B4.tape,d3.output.trans B4.output,Nat.le_trans B4.size d3.size,fun k hk=>(d3.block k (Nat.lt_of_lt_of_le hk B4.size) (by omega)).trans (B4.block k hk)⟩
    have x0:=cellOf d1 0 _ rfl
    have x1:=cellOf d2 0 _ rfl
    have x2:=cellOf d2 1 _ rfl
    exact ⟨.tuple #[.agg #[.slice none 0 0],.agg #[.int .i64 c',.int .i64 a']],by simp [results,Tryz.results15,go_sem,x0,x1,x2],.inr ⟨y,c',a',m4,rfl,hc',B5⟩⟩
theorem underTk : Tryz.prog.underlying 49 = some (.slice 78) := by kernel_rfl
theorem infoTk : (Tryz.prog.info? 78).map (fun i => (i.zero, i.size, i.bytes)) = some (some (.agg #[.int .i64 0, .string ⟨#[]⟩, .bool false, .int .i64 0]), 4, 40) := by kernel_rfl
theorem infoTk_parts : ∃ i, Tryz.prog.info? 78 = some i ∧ i.zero = some (.agg #[.int .i64 0, .string ⟨#[]⟩, .bool false, .int .i64 0]) ∧ i.size = 4 ∧ i.bytes = 40 := by
  have h:=infoTk
  cases e:Tryz.prog.info? 78 with
  | none=>rw [e] at h;cases h
  | some i =>
    rw [e] at h
    simp only [Option.map_some,Option.some.injEq,Prod.mk.injEq] at h
    exact ⟨i,rfl,h.1,h.2.1,h.2.2⟩
theorem news4' (w : World) (o : Obj) (T : TypeId) (p q r u : Value) : ∀ j x, [p, q, r, u][j]? = some x → ((w.alloc o).alloc (.cells #[p, q, r, u] T)).cell? ((⟨w.heap.size + 1, 0, none⟩ : Addr).add j) = some x := by
  have:=news4 (w.alloc o) T p q r u
  simpa using this
def ScOut2 (w w' : World) (r : Sc) (e : Ending) : Prop :=
  match r with
  | .fault c a=>e=.returned (.tuple #[.slice none 0 0,.agg #[.int .i64 c,.int .i64 a]])∧Below w.heap.size w w'
  | .ok l=>∃ a c,e=.returned (.tuple #[.slice a l.length c,.agg #[.int .i64 0,.int .i64 0]])∧tkL.list.In w' (fun g=>w.heap.size≤g) l [.slice a l.length c]∧Below w.heap.size w w'∧l.length≤c
theorem scOut2_fault {w w' : World} {l : List UInt8} {c a : Nat} (h : scanL l = .fault c a) (hb : Below w.heap.size w w') : ScOut2 w w' (scanL l) (.returned (.tuple #[.slice none 0 0, .agg #[.int .i64 c, .int .i64 a]])) := by
  rw [h];exact ⟨rfl,hb⟩
theorem scOut2_ok {w w' : World} {l : List UInt8} {acc : List Tk} {a : Option Addr} {c : Nat} (h : scanL l = .ok acc) (hl : tkL.list.In w' (fun g => w.heap.size ≤ g) acc [.slice a acc.length c]) (hb : Below w.heap.size w w') (hc : acc.length ≤ c) : ScOut2 w w' (scanL l) (.returned (.tuple #[.slice a acc.length c, .agg #[.int .i64 0, .int .i64 0]])) := by
  rw [h];exact ⟨a,c,rfl,hl,hb,hc⟩
theorem SB.cell2 {T : TypeId} {w wr : World} {l : List UInt8} {pos : Nat} {v : Value} {acc : List Tk} {xs : List Value} (h : SB T w wr l pos v acc xs) : ∃ a c, v = .slice a acc.length c ∧ tkL.list.In wr (fun g => w.heap.size + 1 ≤ g) acc [.slice a acc.length c] ∧ acc.length ≤ c := by
  obtain ⟨a,c,e,r⟩:=h.cell
  refine ⟨a,c,e,r,?_⟩
  obtain ⟨⟨h1,h2⟩,h3⟩:=h.row
  rcases h2 with ⟨e2,h4⟩ | ⟨g,cap,cur,e2,hg,hh,hn,hr⟩
  · rw [e] at e2;injection e2 with _ h5 h6;omega
  · rw [e] at e2;injection e2 with _ h5 h6;omega
theorem scan2_any (s : ByteArray) (w : World) (hw0 : Laid w) (hs : s.size ≤ maxLen) :
    Calls Tryz.prog 14 #[.string s] w fun e w'=>ScOut2 w w' (scanL s.data.toList) e:=by
  unfold maxLen at hs
  by_cases hbig:40000 < s.size
  · have hV:Hid (scanL s.data.toList=.fault 2 40000):=by
      show _=_
      rw [scanL,if_pos (by rw [list_len];exact hbig)]
    generalize s.data.toList=l at hV
    have hbig':(40000:Int) < s.size:=by omega
    go_enter Tryz.func14,Tryz.ntmps14
    go_wp2
    exact bodyPost_ret (v:=.tuple #[.slice none 0 0,.agg #[.int .i64 2,.int .i64 40000]]) (by simp [results,Tryz.results14,go_sem]) rfl (scOut2_fault hV.out (bel1 w _))
  · have hw:Hid (Laid w):=hw0
    have hbig':¬ (40000:Int) < s.size:=by omega
    have hs2:s.size≤40000:=by omega
    have hll:s.data.toList.length=s.size:=list_len s
    have HL:Hid (s.data.toList.length=s.size):=hll
    obtain ⟨i0,hi,hz0,hz1,hz2⟩:=infoTk_parts
    clear hw0 hll
    go_enter Tryz.func14,Tryz.ntmps14
    go_wp2_with fail
    have S0:Hid _:=SB.start (T:=78) (w:=w) (l:=s.data.toList) (by rw [HL.out];exact hbig)
    have C0:Hid (∀ w,Calls Tryz.prog 32 #[.string s,.int .i64 0] w fun e w'=>e=.returned (.int .i64 ((blk false s.data.toList:Nat):Int))∧w'=w):=fun w=>by
      have:=pastBlanks_any s 0 w (Nat.zero_le _) (by omega)
      rw [List.drop_zero,Nat.zero_add] at this
      exact this
    generalize w.alloc (.cells #[.int .i64 0,.int .i64 0] 27)=w1 at S0 ⊢
    go_wp2_with (go_at_call 32;refine (C0.out _).mono ?_;rintro e w' ⟨rfl,rfl⟩)
    clear C0
    go_loopw [4,5] (fun v i wr=>∃ (pos:Nat) (acc:List Tk) (xs:List Value),i=.int .i64 pos∧SB 78 w wr s.data.toList pos v acc xs) (fun _ i _=>s.size - (intOf i).toNat)
    case atStart=>exact ⟨_,_,_,rfl,S0.out⟩
    case round =>
      obtain ⟨pos,acc,xs,rfl,hrel⟩:=hrel
      have R:Hid (SB 78 w wr s.data.toList pos u4 acc xs):=hrel
      have hp1:pos≤s.size:=by have:=hrel.pos_le;rwa [HL.out] at this
      have hacc:acc.length≤pos:=hrel.len
      have hsz:w.heap.size < wr.heap.size:=hrel.flt.lt
      clear hrel S0
      by_cases hlt:pos < s.size
      · have hlt':(pos:Int) < s.size:=by omega
        have C0:=tokenAt_any s pos wr (hw.out.below R.out.bel) hlt (by omega)
        cases ht:tok (s.data.toList.drop pos) with
        | bad c =>
          have hV:Hid (scanL s.data.toList=.fault c pos):=sc_bad R.out.sofar (by rw [HL.out];exact hlt) ht
          have hc:=tok_code ht
          have hc':¬ (c:Int)=0:=by omega
          rw [ht] at C0
          have C1:Hid (Calls Tryz.prog 33 #[.string s,.int .i64 pos] wr fun e w'=>e=.returned (.tuple #[.agg #[.int .i64 0,.string ⟨#[]⟩,.bool false,.int .i64 0],.int .i64 c])∧Below wr.heap.size wr w'):=C0
          clear ht hc C0
          go_wp2_with fail
          refine C1.out.mono ?_
          rintro e w2 ⟨rfl,b2⟩
          have hF:Hid (Blk w2 w.heap.size #[.int .i64 0,.int .i64 0] 27):=R.out.flt.below b2
          have hB:Hid (Below w.heap.size w w2):=Below.andThen R.out.bel b2
          have hz:w.heap.size < w2.heap.size:=hF.out.lt
          have y0:=cellOf hF.out 0 _ rfl
          have y1:=cellOf hF.out 1 _ rfl
          have z0:=freeOf hF.out 0
          have z1:=freeOf hF.out 1
          clear C1 R b2
          go_wp2
          have D:=stored2 hF.out hB.out (Nat.le_refl _) (.int .i64 c) (.int .i64 pos)
          have D1:=D.1.alloc (.cells #[.int .i64 0,.string ⟨#[]⟩,.bool false,.int .i64 0] 78)
          have DD:Hid _:=D.2.alloc D.2.size (.cells #[.int .i64 0,.string ⟨#[]⟩,.bool false,.int .i64 0] 78)
          have x0:=cellOf D1 0 _ rfl
          have x1:=cellOf D1 1 _ rfl
          clear D D1 y0 y1 z0 z1 hF hB
          generalize ((w2.setCell ⟨w.heap.size,0,none⟩ (.int .i64 c)).setCell ⟨w.heap.size,1,none⟩ (.int .i64 pos)).alloc (.cells #[.int .i64 0,.string ⟨#[]⟩,.bool false,.int .i64 0] 78)=w9 at DD x0 x1 ⊢
          exact bodyPost_ret (v:=.tuple #[.slice none 0 0,.agg #[.int .i64 c,.int .i64 pos]]) (by simp [results,Tryz.results14,go_sem,x0,x1]) rfl (scOut2_fault hV.out DD.out)
        | ok k b n =>
          obtain ⟨hk1,hk2,hk3⟩:=tok_pos ht
          rw [List.length_drop,HL.out] at hk2
          clear hk3
          have hT:Hid (tok (s.data.toList.drop pos)=.ok k b n):=ht
          rw [ht] at C0
          have hx:Hid (((s.data.toList.drop pos).take k).length=k):=by show _=_;rw [List.length_take,List.length_drop,HL.out];omega
          have C1:Hid (Calls Tryz.prog 33 #[.string s,.int .i64 pos] wr fun e w'=>e=.returned (.tuple #[.agg #[.int .i64 pos,.string (str ((s.data.toList.drop pos).take k)),.bool b,.int .i64 n],.int .i64 0])∧Below wr.heap.size wr w'):=C0
          have C2:Hid (∀ w,Calls Tryz.prog 32 #[.string s,.int .i64 ((pos:Int) + k)] w fun e w'=>e=.returned (.int .i64 ((pos + k + blk false (s.data.toList.drop (pos + k)):Nat):Int))∧w'=w):=fun w=>pastBlanks_any s (pos + k) w (by omega) (by omega)
          have PU:Hid (∀ g cap w4 w9,Below wr.heap.size wr w4→w9.ownsRow (w.heap.size + 1) 78 4 (.slice (some ⟨g,0,none⟩) (acc.length + 1) cap) (acc.length + 1) (xs ++ [.int .i64 pos,.string (str ((s.data.toList.drop pos).take k)),.bool b,.int .i64 n])→w4.grownBy w9 u4.ownBlock→(u4.ownBlock=some g ∨ g=w4.heap.size) →
              ∃ acc' xs',SB 78 w w9 s.data.toList (pos + k + blk false (s.data.toList.drop (pos + k))) (.slice (some ⟨g,0,none⟩) (acc.length + 1) cap) acc' xs'):=fun g cap w4 w9 h0 h1 h2 h3=>⟨_,_,R.out.push h0 (by rw [HL.out];exact hlt) hT.out h1 h2 h3⟩
          have hls:Hid ((str ((s.data.toList.drop pos).take k)).size=k):=by show _=_;rw [str_size];exact hx.out
          have hown:Hid (wr.ownsRow (w.heap.size + 1) 78 4 u4 acc.length xs):=R.out.row.own
          generalize str ((s.data.toList.drop pos).take k)=tx at C1 PU hls
          generalize hnp:pos + k + blk false (s.data.toList.drop (pos + k))=np at C2 PU
          have hnp':Hid (pos < np):=by show _ < _;omega
          clear ht C0 hx hT hnp
          go_wp2_with fail
          refine C1.out.mono ?_
          rintro e w2 ⟨rfl,b2⟩
          have B2:Hid (Below wr.heap.size wr w2):=b2
          have hz:wr.heap.size≤w2.heap.size:=b2.size
          have ho2:Hid (w2.ownsRow (w.heap.size + 1) 78 4 u4 acc.length xs):=(R.out.row.below b2).own
          have hne:Hid (∀ k,u4.ownBlock=some k→k < w2.heap.size):=fun k hk=>Nat.lt_of_lt_of_le (R.out.row.lo_le hk).2 hz
          clear C1 R b2 hown
          go_wp2_with (at_builtin;refine wpList_append_lies _ rfl (.tmp 29) (.tmp 31) 49 rfl (w.heap.size + 1) 78 i0 (.agg #[.int .i64 0,.string ⟨#[]⟩,.bool false,.int .i64 0]) 4 40 underTk hi hz0 hz1 hz2 rfl (by decide) _ _ _ rfl ((ho2.out.alloc _).alloc _) ⟨w2.heap.size + 1,0,none⟩ 1 1 [.int .i64 pos,.string tx,.bool b,.int .i64 n] rfl rfl (news4' _ _ _ _ _ _ _) (one4 _ _ _ _) (by decide) (by unfold maxLen;omega) (by omega) (by simp;omega) (w2.heap.size + 2) (by simp) ?_)
          intro g2 cap2 w9 h1 hgrow hat hlt1
          have U2:Hid _:=PU.out g2 cap2 _ w9 ((B2.out.alloc hz _).alloc (by simp;omega) _) h1 hgrow (by simpa using hat)
          have hbx:Hid (Blk w9 w2.heap.size #[.int .i64 pos,.string tx,.bool b,.int .i64 n] 78):=(hgrow.block w2.heap.size (by simp;omega) (fun e=>by have:=hne.out _ e.symm;omega)).trans (Blk.new1 _ _ _ _ _)
          have y1:=cellOf hbx.out 1 _ rfl
          clear h1 hgrow hat hlt1 PU B2 ho2 hne hbx
          have hls':(tx.size:Int)=k:=by have:=hls.out;omega
          go_wp2_with (go_at_call 32;refine (C2.out _).mono ?_;rintro e w' ⟨rfl,rfl⟩)
          go_roundw
          case rel =>
            obtain ⟨acc',xs',h⟩:=U2.out
            exact ⟨np,acc',xs',rfl,h⟩
          case measure=>have:=hnp'.out;simp [intOf];omega
      · have hlt':¬ (pos:Int) < s.size:=by omega
        have hV:Hid (scanL s.data.toList=.ok acc):=sc_end R.out.sofar (by rw [HL.out];exact hlt)
        obtain ⟨a,c,hv,hl,hcap⟩:=R.out.cell2
        have HC:Hid (acc.length≤c):=hcap
        clear hcap
        subst hv
        have hF:Hid (Blk wr w.heap.size #[.int .i64 0,.int .i64 0] 27):=R.out.flt
        have hB:Hid (Below w.heap.size w wr):=R.out.bel
        have hL:Hid (tkL.list.In wr (fun g=>w.heap.size + 1≤g) acc [.slice a acc.length c]):=hl
        have y0:=cellOf hF.out 0 _ rfl
        have y1:=cellOf hF.out 1 _ rfl
        have z0:=freeOf hF.out 0
        have z1:=freeOf hF.out 1
        clear R hl
        go_wp2
        have D:=stored2 hF.out hB.out (Nat.le_refl _) (.int .i64 0) (.int .i64 0)
        have DL:Hid (tkL.list.In ((wr.setCell ⟨w.heap.size,0,none⟩ (.int .i64 0)).setCell ⟨w.heap.size,1,none⟩ (.int .i64 0)) (fun g=>w.heap.size≤g) acc [.slice a acc.length c]) :=
          Lay.mono (Lay.setCell (Lay.setCell hL.out (p:=⟨w.heap.size,0,none⟩) (by simp) _) (p:=⟨w.heap.size,1,none⟩) (by simp) _) (fun k hk _=>Nat.le_of_succ_le hk)
        have DD:Hid _:=D.2
        have x0:=cellOf D.1 0 _ rfl
        have x1:=cellOf D.1 1 _ rfl
        clear D y0 y1 z0 z1 hF hB hL
        generalize (wr.setCell ⟨w.heap.size,0,none⟩ (.int .i64 0)).setCell ⟨w.heap.size,1,none⟩ (.int .i64 0)=w9 at DD DL x0 x1 ⊢
        exact bodyPost_ret (v:=.tuple #[.slice a acc.length c,.agg #[.int .i64 0,.int .i64 0]]) (by simp [results,Tryz.results14,go_sem,x0,x1]) rfl (scOut2_ok hV.out DL.out DD.out HC.out)
end Go.Proofs.YtjodmledadbgeacGreatDoor
namespace Go.Proofs.YtjodmledadbgeacGreatDoor
open Go.RowKit
def opTmps (o : Oper) : List Tmp := o.op.operands.toList.filterMap fun | .tmp t => some t | _ => none
def dstsOf (l : List Oper) : List Tmp := l.filterMap (·.dst)
def nodupB : List Tmp → Bool
  | []=>true
  | t :: r=>!r.contains t && nodupB r
def onB (gs : List (Nat × Option Bool)) (o : Oper) (b : Bool) : Bool :=
  match o.guard with
  | none=>b
  | some (g,want)=>match gs.lookup g with
    | some c=>b == (c == some want)
    | none=>false
def onsB (gs : List (Nat × Option Bool)) : List Oper → List Bool → Bool
  | [],[]=>true
  | o :: l,b :: bs=>onB gs o b && onsB gs l bs
  | _,_=>false
def looksB (ops : Array Oper) (ds outs : List Tmp) (o : Oper) : Bool :=
  (o.looksAt ops).all fun t=>(outs.contains t && !ds.contains t) || o.after.any fun e=>Region.binds .any e && ((ops[e.on]?).bind (·.dst) == some t)
def backB (i : Nat) : List Oper → Bool
  | []=>true
  | o :: l=>(o.after.all fun e=>!Region.binds .any e || decide (e.on < i)) && backB (i + 1) l
def calmB (l : List Oper) (n : Nat) (outs : List Tmp) (gs : List (Nat × Option Bool)) (bs : List Bool) : Bool :=
  (gs.all fun g=>((l.toArray[g.1]?).bind (·.dst)).isSome) && nodupB (dstsOf l) && ((dstsOf l).all fun t=>decide (t < n)) && (l.all (looksB l.toArray (dstsOf l) outs)) && onsB gs l bs && backB 0 l
section
variable {P : Program} (E : Tmp → Value → World → Prop) (W : World → Prop) (R : World → World → Prop)
def EO : Option Tmp → Value → World → Prop
  | some t=>E t
  | none=>fun _ _=>True
def Known (a : Act) (w : World) : List Tmp → Prop
  | []=>True
  | t :: r=>E t (a.tmps.getD t undef) w∧Known a w r
def StepOn (P : Program) (o : Oper) : Prop :=
  ∀ a w,W w→Known E a w (opTmps o)→∀ K:Act→World→Prop,(∀ v w',R w w'→W w'→EO E o.dst v w'→K (a.put o.dst v) w')→o.wp P a w K (fun _ _ _=>False)
def StepOff (o : Oper) : Prop := ∀ w, W w → EO E o.dst undef w
def AllOk (P : Program) : List Oper → List Bool → Prop
  | o :: l,true :: bs=>StepOn E W R P o∧AllOk P l bs
  | o :: l,false :: bs=>StepOff E W o∧AllOk P l bs
  | _,_=>True
def GuardOk (ops : Array Oper) : List (Nat × Option Bool) → Prop
  | []=>True
  | (g,c) :: r=>(∀ t,(ops[g]?).bind (·.dst)=some t→∀ v w,W w→E t v w→match c with | some b=>v=.bool b | none=>v=undef)∧GuardOk ops r
def OutsOk (a : Act) (w : World) : List Tmp → Prop
  | []=>True
  | t :: r=>E t (a.tmps.getD t undef) w∧OutsOk a w r
def puts (a : Act) (vs : Tmp → Value) : List Tmp → Act
  | []=>a
  | t :: r=>puts (a.put (some t) (vs t)) vs r
end
theorem wpq {P : Program} {o : Oper} {a : Act} {w : World} {K K' : Act → World → Prop} {Q : Exit → Act → World → Prop} (h : ∀ a w, K a w → K' a w)
    (hh:o.wp P a w K (fun _ _ _=>False)):o.wp P a w K' Q:=by
  unfold Oper.wp at *
  generalize (execOp a.eval o).run P w=r at *
  cases r with
  | ok n w' =>
    cases n <;> simp only [Oper.upon] at hh ⊢ <;>
      first
        | exact h _ _ hh
        | exact Calls.mono hh (fun e w'' he=>by cases e <;> first | exact h _ _ he | exact he.elim | (obtain ⟨_,_,he⟩:=he;exact he.elim))
        | exact Rows.mono hh (fun _ _ he=>h _ _ he)
  | halt x w'=>cases x <;> simp only [Oper.upon] at hh ⊢
theorem puts_defers (vs : Tmp → Value) : ∀ (ds : List Tmp) (a : Act), (puts a vs ds).defers = a.defers
  | [],_=>rfl
  | _ :: r,a=>by rw [puts,puts_defers vs r];rfl
theorem puts_size (vs : Tmp → Value) : ∀ (ds : List Tmp) (a : Act), (puts a vs ds).tmps.size = a.tmps.size
  | [],_=>rfl
  | _ :: r,a=>by rw [puts,puts_size vs r];simp [Act.put]
theorem puts_at (vs : Tmp → Value) : ∀ (ds : List Tmp) (a : Act) (t : Nat), t < a.tmps.size → (puts a vs ds).tmps[t]? = if t ∈ ds then some (vs t) else a.tmps[t]?
  | [],_,_,_=>by simp [puts]
  | d :: r,a,t,ht=>by
    rw [puts,puts_at vs r _ t (by simpa [Act.put] using ht)]
    by_cases h1:t ∈ r
    · simp [h1]
    · by_cases h2:d=t
      · subst h2;simp [h1,Act.put,ht]
      · have:t≠d:=fun e=>h2 e.symm
        simp [h1,this,Act.put,h2]
theorem nodup_apart : ∀ (l : List Oper) (i j : Nat) (oi oj : Oper) (t : Tmp), nodupB (dstsOf l) = true → l[i]? = some oi → l[j]? = some oj → oi.dst = some t → oj.dst = some t → i = j
  | [],_,_,_,_,_,_,hi,_,_,_=>by simp at hi
  | o :: l,i,j,oi,oj,t,h,hi,hj,di,dj=>by
    have hh:∀ {k:Nat} {ok:Oper},l[k]?=some ok→ok.dst=some t→t ∈ dstsOf l:=fun {k ok} hk hd=>List.mem_filterMap.2 ⟨ok,List.mem_of_getElem? hk,hd⟩
    have hn:nodupB (dstsOf l)=true:=by
      unfold dstsOf at h ⊢
      cases hd:o.dst with
      | none=>simpa [List.filterMap_cons,hd] using h
      | some d=>simp [hd,nodupB] at h;exact h.2
    have hx:o.dst=some t→t ∉ dstsOf l:=fun hd=>by
      unfold dstsOf at h ⊢
      simp only [List.filterMap_cons,hd,nodupB,Bool.and_eq_true,Bool.not_eq_true'] at h
      intro hm
      have:=h.1
      simp at this
      simp at hm
      obtain ⟨x,hx,he⟩:=hm
      exact this x hx he
    cases i with
    | zero =>
      cases j with
      | zero=>rfl
      | succ j=>simp at hi hj;subst hi;exact absurd (hh hj dj) (hx di)
    | succ i =>
      cases j with
      | zero=>simp at hi hj;subst hj;exact absurd (hh hi di) (hx dj)
      | succ j=>simp at hi hj;rw [nodup_apart l i j oi oj t hn hi hj di dj]
section
variable {P : Program} {E : Tmp → Value → World → Prop} {W : World → Prop} {R : World → World → Prop}
theorem known_of {a : Act} {w : World} : ∀ (l : List Tmp), (∀ t ∈ l, E t (a.tmps.getD t undef) w) → Known E a w l
  | [],_=>trivial
  | t :: r,h=>⟨h t (by simp),known_of r fun x hx=>h x (by simp [hx])⟩
theorem outs_mem {a : Act} {w : World} : ∀ (l : List Tmp), OutsOk E a w l → ∀ t ∈ l, E t (a.tmps.getD t undef) w
  | [],_,_,h=>by simp at h
  | x :: r,h,t,ht=>by
    rcases List.mem_cons.1 ht with rfl | ht
    · exact h.1
    · exact outs_mem r h.2 t ht
theorem guard_mem {ops : Array Oper} : ∀ (gs : List (Nat × Option Bool)), GuardOk E W ops gs → ∀ g c, gs.lookup g = some c → ∀ t, (ops[g]?).bind (·.dst) = some t → ∀ v w, W w → E t v w → match c with | some b => v = .bool b | none => v = undef
  | [],_,_,_,h=>by simp at h
  | (g',c') :: r,h,g,c,hl=>by
    by_cases e:g=g'
    · subst e;simp at hl;subst hl;exact h.1
    · have e':(g == g')=false:=by simpa using e
      simp [List.lookup_cons,e'] at hl;exact guard_mem r h.2 g c hl
theorem mem_of_lookup : ∀ (gs : List (Nat × Option Bool)) (g : Nat) (c : Option Bool), gs.lookup g = some c → (g, c) ∈ gs
  | [],_,_,h=>by simp at h
  | (g',c') :: r,g,c,hl=>by
    by_cases e:g=g'
    · subst e;simp at hl;subst hl;simp
    · have e':(g == g')=false:=by simpa using e
      simp [List.lookup_cons,e'] at hl;exact List.mem_cons_of_mem _ (mem_of_lookup r g c hl)
theorem filter_set : ∀ (l : List Bool) (i : Nat) (h : i < l.length), l[i] = false → ((l.set i true).filter (· == false)).length + 1 = (l.filter (· == false)).length
  | [],_,h,_=>by simp at h
  | x :: l,0,_,h=>by simp at h;subst h;simp
  | x :: l,i + 1,hi,h=>by
    simp at h hi
    have:=filter_set l i hi h
    cases x <;> simp at this ⊢ <;> omega
theorem all_at (gs : List (Nat × Option Bool)) : ∀ (l : List Oper) (bs : List Bool), onsB gs l bs = true → AllOk E W R P l bs → ∀ (i : Nat) (o : Oper), l[i]? = some o → (onB gs o true = true ∧ StepOn E W R P o) ∨ (onB gs o false = true ∧ StepOff E W o)
  | [],_,_,_,_,_,h=>by simp at h
  | _ :: _,[],h,_,_,_,_=>by simp [onsB] at h
  | x :: l,b :: bs,h,ha,i,o,ho=>by
    simp only [onsB,Bool.and_eq_true] at h
    cases i with
    | zero =>
      simp at ho;subst ho
      cases b with
      | true=>exact .inl ⟨h.1,ha.1⟩
      | false=>exact .inr ⟨h.1,ha.1⟩
    | succ i =>
      simp at ho
      cases b with
      | true=>exact all_at gs l bs h.2 ha.2 i o ho
      | false=>exact all_at gs l bs h.2 ha.2 i o ho
theorem back_at : ∀ (l : List Oper) (k i : Nat) (o : Oper), backB k l = true → l[i]? = some o → ∀ e ∈ o.after, Region.binds .any e = true → e.on < k + i
  | [],_,_,_,_,h=>by simp at h
  | x :: l,k,i,o,h,ho=>by
    simp only [backB,Bool.and_eq_true] at h
    cases i with
    | zero =>
      simp at ho;subst ho
      intro e he hb
      have:=Array.all_eq_true_iff_forall_mem.1 h.1 e he
      simpa [hb] using this
    | succ i =>
      simp at ho
      intro e he hb
      have:=back_at l (k + 1) i o h.2 ho e he hb
      omega
structure Calm (E : Tmp → Value → World → Prop) (W : World → Prop) (l : List Oper) (outs : List Tmp) (a0 : Act) (listed : Array Bool) (a : Act) (w : World) : Prop where
  world:W w
  defers:a.defers=a0.defers
  size:a.tmps.size=a0.tmps.size
  outer:∀ t,t ∉ dstsOf l→a.tmps[t]?=a0.tmps[t]?
  outs:∀ t ∈ outs,t ∉ dstsOf l→E t (a.tmps.getD t undef) w
  known:∀ j o t,l[j]?=some o→o.dst=some t→listed.getD j false=true→E t (a.tmps.getD t undef) w
theorem wpAny_calm {l : List Oper} {outs : List Tmp} {gs : List (Nat × Option Bool)} {bs : List Bool} {a0 : Act} {Q : Exit → Act → World → Prop}
    (hB:calmB l a0.tmps.size outs gs bs=true) (hR:∀ t v w w',R w w'→E t v w→E t v w') (hG:GuardOk E W l.toArray gs) (hA:AllOk E W R P l bs)
    (hend:∀ (vs:Tmp→Value) w',W w'→(∀ t,(dstsOf l).contains t=true→E t (vs t) w')→Q .normal (puts a0 vs (dstsOf l)) w') :
    ∀ (fuel:Nat) (listed:Array Bool) (a:Act) (w:World),listed.size=l.length→(listed.toList.filter (· == false)).length≤fuel→Calm E W l outs a0 listed a w →
      wpAny P .any l.toArray Q fuel listed a w:=by
  simp only [calmB,Bool.and_eq_true] at hB
  obtain ⟨⟨⟨⟨⟨hgd,hnd⟩,hsz⟩,hlk⟩,hon⟩,hbk⟩:=hB
  have fin:∀ (listed:Array Bool) (a:Act) (w:World),listed.size=l.length→Region.ready .any l.toArray listed=[]→Calm E W l outs a0 listed a w→Q .normal a w:=by
    intro listed a w hs hr hc
    have hall:∀ j,j < l.length→listed.getD j false=true:=by
      intro j
      induction j using Nat.strongRecOn with
      | _ j ih =>
        intro hj
        cases hb:listed.getD j false with
        | true=>rfl
        | false =>
          exfalso
          have:j ∈ Region.ready .any l.toArray listed:=by
            unfold Region.ready
            refine List.mem_filter.2 ⟨by simpa using hj,?_⟩
            have e1:listed.getD j true=false:=by
              have hj':j < listed.size:=by omega
              simp [Array.getD,hj'] at hb ⊢;exact hb
            have e2:l.toArray[j]?=some l[j]:=by simp [hj]
            rw [e1,e2]
            simp only [Bool.not_false,Bool.true_and,Option.map_some,Option.getD_some]
            rw [Array.all_eq_true_iff_forall_mem]
            intro e he
            cases hbd:Region.binds .any e with
            | false=>rfl
            | true =>
              have:=back_at l 0 j l[j] hbk (by simp [hj]) e he hbd
              simp only [Bool.not_true,Bool.false_or]
              exact ih e.on (by omega) (by omega)
          rw [hr] at this
          cases this
    have hmem:∀ t ∈ dstsOf l,E t (a.tmps.getD t undef) w∧t < a0.tmps.size:=by
      intro t ht
      obtain ⟨o,ho,hd⟩:=List.mem_filterMap.1 ht
      obtain ⟨j,hj⟩:=List.getElem?_of_mem ho
      have hlt:j < l.length:=by
        rcases Nat.lt_or_ge j l.length with h | h
        · exact h
        · rw [List.getElem?_eq_none h] at hj;cases hj
      exact ⟨hc.known j o t hj hd (hall j hlt),by simpa using List.all_eq_true.1 hsz t ht⟩
    have he:a=puts a0 (fun t=>a.tmps.getD t undef) (dstsOf l):=by
      have e1:a.tmps=(puts a0 (fun t=>a.tmps.getD t undef) (dstsOf l)).tmps:=by
        refine Array.ext (by rw [puts_size,hc.size]) fun t h1 h2=>?_
        have h3:t < a0.tmps.size:=by rw [← hc.size];exact h1
        have:=puts_at (fun t=>a.tmps.getD t undef) (dstsOf l) a0 t h3
        rw [Array.getElem?_eq_getElem h2] at this
        by_cases hm:t ∈ dstsOf l
        · rw [if_pos hm] at this
          simp only [Option.some.injEq] at this
          rw [this];simp [Array.getD,h1]
        · rw [if_neg hm,← hc.outer t hm,Array.getElem?_eq_getElem h1] at this
          exact (Option.some.inj this).symm
      have e2:a.defers=(puts a0 (fun t=>a.tmps.getD t undef) (dstsOf l)).defers:=by rw [puts_defers,hc.defers]
      cases a with
      | mk t d =>
        simp only at e1 e2
        generalize hp:puts a0 (fun x=>t.getD x undef) (dstsOf l)=p at e1 e2 ⊢
        cases p;simp only at e1 e2;rw [e1,e2]
    rw [he]
    exact hend _ _ hc.world fun t ht=>(hmem t (by simpa using ht)).1
  intro fuel
  induction fuel with
  | zero =>
    intro listed a w hs hf hc
    have hr:Region.ready .any l.toArray listed=[]:=by
      rw [List.eq_nil_iff_forall_not_mem]
      intro i hi
      obtain ⟨h1,h2⟩:=List.mem_filter.1 hi
      have hlt:i < l.length:=by simpa using h1
      simp only [Bool.and_eq_true,Bool.not_eq_true'] at h2
      have:listed[i]'(by omega)=false:=by
        have:=h2.1;simp [Array.getD,show i < listed.size by omega] at this;exact this
      have hm:false ∈ listed.toList.filter (· == false):=List.mem_filter.2 ⟨by rw [← this];simp,by simp⟩
      have:=List.length_pos_of_mem hm
      omega
    exact ⟨hr,fin listed a w hs hr hc⟩
  | succ fuel ih =>
    intro listed a w hs hf hc
    refine ⟨fun hr=>fin listed a w hs hr hc,fun i hi=>?_⟩
    obtain ⟨h1,h2⟩:=List.mem_filter.1 hi
    have hlt:i < l.length:=by simpa using h1
    simp only [Bool.and_eq_true,Bool.not_eq_true'] at h2
    obtain ⟨hun,hdone⟩:=h2
    have hil:i < listed.size:=by omega
    have hun':listed[i]=false:=by simp [Array.getD,hil] at hun;exact hun
    have ho:l.toArray[i]?=some l[i]:=by simp [hlt]
    have ho':l[i]?=some l[i]:=by simp [hlt]
    generalize hoo:l[i]=o at ho ho'
    rw [ho] at hdone
    simp only [Option.map_some,Option.getD_some] at hdone
    rw [Array.all_eq_true_iff_forall_mem] at hdone
    have hlooks:∀ t ∈ o.looksAt l.toArray,E t (a.tmps.getD t undef) w:=by
      intro t ht
      have:=List.all_eq_true.1 (List.all_eq_true.1 hlk o (List.mem_of_getElem? ho')) t ht
      rw [Bool.or_eq_true] at this
      rcases this with h | h
      · simp only [Bool.and_eq_true,Bool.not_eq_true'] at h
        exact hc.outs t (by simpa using h.1) (by simpa using h.2)
      · obtain ⟨k,hk,h⟩:=Array.any_eq_true.1 h
        simp only [Bool.and_eq_true,beq_iff_eq] at h
        obtain ⟨hb,hd⟩:=h
        have hl:=hdone _ (Array.getElem_mem hk)
        rw [hb] at hl
        simp only [Bool.not_true,Bool.false_or] at hl
        generalize o.after[k]=e at *
        obtain ⟨oj,hoj,hdj⟩:=Option.bind_eq_some_iff.1 hd
        exact hc.known e.on oj t (by simpa using hoj) hdj hl
    have hkn:Known E a w (opTmps o):=known_of _ fun t ht=>hlooks t (by
      unfold Oper.looksAt;exact List.mem_append_left _ ht)
    have hw:∀ b,onB gs o b=true→Region.wanted o (yielded l.toArray a.tmps)=b:=by
      intro b hb
      unfold onB at hb
      unfold Region.wanted
      cases hg:o.guard with
      | none=>rw [hg] at hb;simp only at hb ⊢;exact hb.symm
      | some gw =>
        obtain ⟨g,want⟩:=gw
        rw [hg] at hb
        simp only at hb ⊢
        cases hl:gs.lookup g with
        | none=>rw [hl] at hb;cases hb
        | some c =>
          rw [hl] at hb
          simp only [beq_iff_eq] at hb
          have hy:yielded l.toArray a.tmps g=c:=by
            unfold yielded
            have hmg:(g,c) ∈ gs:=mem_of_lookup gs g c hl
            have hsome:=List.all_eq_true.1 hgd _ hmg
            cases hd:(l.toArray[g]?).bind (·.dst) with
            | none=>rw [hd] at hsome;cases hsome
            | some t =>
              have hE:=hlooks t (by unfold Oper.looksAt;rw [hg];simp only [hd];simp)
              have hv:=guard_mem gs hG g c hl t hd _ _ hc.world hE
              obtain ⟨og,hog,hdg⟩:=Option.bind_eq_some_iff.1 hd
              have htl:t < a.tmps.size:=by
                rw [hc.size]
                have:=List.all_eq_true.1 hsz t (List.mem_filterMap.2 ⟨og,List.mem_of_getElem? (by simpa using hog),hdg⟩)
                simpa using this
              have ht:a.tmps[t]?=some (a.tmps.getD t undef):=by simp [Array.getD,htl]
              simp only [Option.bind_some,ht]
              cases c with
              | none=>simp only at hv;rw [hv];rfl
              | some b=>simp only at hv;rw [hv]
          rw [hy,hb]
    have hlen:((listed.setIfInBounds i true).toList.filter (· == false)).length≤fuel:=by
      have h3:=filter_set listed.toList i (by simpa using hil) (by simpa using hun')
      rw [Array.toList_setIfInBounds]
      omega
    have next:∀ v w',W w'→(∀ t v,E t v w→E t v w')→EO E o.dst v w'→Calm E W l outs a0 (listed.setIfInBounds i true) (a.put o.dst v) w':=by
      intro v w' hw' hst hv
      have hput:∀ t,o.dst≠some t→(a.put o.dst v).tmps[t]?=a.tmps[t]?:=by
        intro t ht
        cases hd:o.dst with
        | none=>rfl
        | some d =>
          have:d≠t:=fun e=>ht (by rw [hd,e])
          simp [Act.put,this]
      have hgetD:∀ (b c:Array Value) (t:Nat),b[t]?=c[t]?→b.getD t undef=c.getD t undef:=by
        intro b c t h
        rw [Array.getD_eq_getD_getElem?,Array.getD_eq_getD_getElem?,h]
      refine ⟨hw',?_,?_,?_,?_,?_⟩
      · rw [← hc.defers];cases o.dst <;> rfl
      · rw [← hc.size];cases o.dst <;> simp [Act.put]
      · intro t ht
        rw [hput t (fun e=>ht (List.mem_filterMap.2 ⟨o,List.mem_of_getElem? ho',e⟩)),hc.outer t ht]
      · intro t ht hn
        rw [hgetD _ _ t (hput t (fun e=>hn (List.mem_filterMap.2 ⟨o,List.mem_of_getElem? ho',e⟩)))]
        exact hst _ _ (hc.outs t ht hn)
      · intro j oj t hj hd hlj
        by_cases hji:j=i
        · subst hji
          rw [ho'] at hj
          obtain rfl:=Option.some.inj hj
          have htl:t < a.tmps.size:=by
            rw [hc.size]
            have:=List.all_eq_true.1 hsz t (List.mem_filterMap.2 ⟨o,List.mem_of_getElem? ho',hd⟩)
            simpa using this
          rw [hd] at hv ⊢
          have:(a.put (some t) v).tmps.getD t undef=v:=by simp [Act.put,Array.getD,htl]
          rw [this];exact hv
        · have hne:o.dst≠some t:=fun e=>hji (nodup_apart l j i oj o t hnd hj ho' hd e)
          rw [hgetD _ _ t (hput t hne)]
          refine hst _ _ (hc.known j oj t hj hd ?_)
          have hne':i≠j:=fun e=>hji e.symm
          rw [Array.getD_eq_getD_getElem?,Array.getElem?_setIfInBounds_ne hne'] at hlj
          rw [Array.getD_eq_getD_getElem?];exact hlj
    unfold wpOp
    rw [ho]
    simp only
    rcases all_at gs l bs hon hA i o ho' with ⟨h,hst⟩ | ⟨h,hst⟩
    · rw [hw true h,if_pos rfl]
      refine .inl (wpq (fun a' w' hh=>hh) (hst a w hc.world hkn _ fun v w' hr hw' hv=>?_))
      exact ih _ _ _ (by simpa using hs) hlen (next v w' hw' (fun t v he=>hR t v w w' hr he) hv)
    · rw [hw false h]
      simp only [Bool.false_eq_true,if_false]
      exact ih _ _ _ (by simpa using hs) hlen (next undef w hc.world (fun _ _ h=>h) (hst w hc.world))
end
end Go.Proofs.YtjodmledadbgeacGreatDoor
namespace Go.Proofs.YtjodmledadbgeacGreatDoor
open Go.RowKit
set_option linter.unusedVariables false
structure Fr (n : Nat) (a : Act) (L : List (Tmp × Value)) : Prop where
  size:a.tmps.size=n
  defers:a.defers=[]
  sl:∀ t v,L.lookup t=some v→a.tmps.getD t undef=v
section
variable {P : Program} {n : Nat} {a : Act} {L : List (Tmp × Value)} {w w' : World} {Q : Exit → Act → World → Prop} {ops : Array Oper} {o : Oper} {rest : List Oper} {t : Tmp} {v : Value}
theorem Fr.put (h : Fr n a L) (ht : Nat.blt t n = true) : Fr n (a.put (some t) v) ((t, v) :: L) := by
  have ht':t < n:=by simpa [Nat.blt,Nat.ble_eq,Nat.succ_le_iff] using ht
  refine ⟨by simpa [Act.put] using h.size,h.defers,fun s u hs=>?_⟩
  by_cases e:s=t
  · subst e
    simp at hs
    subst hs
    have:s < a.tmps.size:=by rw [h.size];exact ht'
    simp [Act.put,Array.getD,this]
  · have e':(s == t)=false:=by simpa using e
    simp only [List.lookup_cons,e'] at hs
    have:=h.sl s u hs
    have hne:t≠s:=fun x=>e x.symm
    rw [Array.getD_eq_getD_getElem?] at this ⊢
    simp only [Act.put]
    rw [Array.getElem?_setIfInBounds_ne hne]
    exact this
theorem Fr.cons (h : Fr n a L) (e : a.tmps.getD t undef = v) : Fr n a ((t, v) :: L) := by
  refine ⟨h.size,h.defers,fun s u hs=>?_⟩
  by_cases e':s=t
  · subst e'
    simp at hs
    subst hs
    exact e
  · have e'':(s == t)=false:=by simpa using e'
    simp only [List.lookup_cons,e''] at hs
    exact h.sl s u hs
theorem Fr.nil (h : Fr n a L) : Fr n a [] := ⟨h.size, h.defers, fun s u hs => by simp at hs⟩
theorem Fr.keep {L' : List (Tmp × Value)} (h : Fr n a L) (k : Fr n a L') (e : L.lookup t = some v) : Fr n a ((t, v) :: L') := k.cons (h.sl t v e)
theorem fr_region {id : Nat} {l : List Oper} (h : ∀ ops : Array Oper, (∀ g : Nat, (ops[g]?).bind (fun o : Oper => o.dst) = (l[g]?).bind (fun o : Oper => o.dst)) → wpList P ops Q l a w) : (Code.region id l.toArray false).wp P Q a w :=
  wp_region_lit (h _ fun g=>by simp)
theorem fr_pure (hF : Fr n a L) (hd : o.dst = some t) (hg : o.guard = none) (ht : Nat.blt t n = true)
    (h:∀ K:Act→World→Prop,K (a.put (some t) v) w'→o.wp P a w K Q)
    (k:∀ a',Fr n a' ((t,v) :: L)→wpList P ops Q rest a' w'):wpList P ops Q (o :: rest) a w :=
  wpList_plain hg fun K hK=>h K (hK _ _ (k _ (hF.put ht)))
theorem fr_skip (hF : Fr n a L) (hd : o.dst = none) (hg : o.guard = none)
    (h:∀ K:Act→World→Prop,K a w'→o.wp P a w K Q)
    (k:wpList P ops Q rest a w'):wpList P ops Q (o :: rest) a w :=
  wpList_plain hg fun K hK=>h K (hK _ _ k)
theorem wanted_g {g tg : Nat} {want : Bool} {u : Value} (hF : Fr n a L) (hg : o.guard = some (g, want)) (hs : (ops[g]?).bind (fun o : Oper => o.dst) = some tg) (htg : Nat.blt tg n = true) (hv : L.lookup tg = some u) :
    Region.wanted o (yielded ops a.tmps)=(match u with | .bool b=>b == want | _=>false):=by
  have htg':tg < a.tmps.size:=by rw [hF.size];simpa [Nat.blt,Nat.ble_eq,Nat.succ_le_iff] using htg
  have:=hF.sl tg u hv
  have hx:a.tmps[tg]?=some u:=by rw [← this];simp [Array.getD,htg']
  simp only [Region.wanted,hg,yielded,hs,Option.bind_some,hx]
  cases u <;> simp
theorem fr_pure_g {g tg : Nat} {want : Bool} (hF : Fr n a L) (hd : o.dst = some t) (hg : o.guard = some (g, want)) (hs : (ops[g]?).bind (fun o : Oper => o.dst) = some tg) (htg : Nat.blt tg n = true) (hv : L.lookup tg = some (.bool want)) (ht : Nat.blt t n = true)
    (h:∀ K:Act→World→Prop,K (a.put (some t) v) w'→o.wp P a w K Q)
    (k:∀ a',Fr n a' ((t,v) :: L)→wpList P ops Q rest a' w'):wpList P ops Q (o :: rest) a w :=
  wpList_step fun K hK=>by
    rw [wanted_g hF hg hs htg hv]
    simp only [beq_self_eq_true,if_true]
    exact h K (hK _ _ (k _ (hF.put ht)))
theorem fr_off {g tg : Nat} {want : Bool} {u : Value} (hF : Fr n a L) (hd : o.dst = some t) (hg : o.guard = some (g, want)) (hs : (ops[g]?).bind (fun o : Oper => o.dst) = some tg) (htg : Nat.blt tg n = true) (hv : L.lookup tg = some u) (hu : (match u with | .bool b => b == want | _ => false) = false) (ht : Nat.blt t n = true)
    (k:∀ a',Fr n a' ((t,undef) :: L)→wpList P ops Q rest a' w):wpList P ops Q (o :: rest) a w :=
  wpList_step fun K hK=>by
    rw [wanted_g hF hg hs htg hv,hu]
    simp only [Bool.false_eq_true,if_false,hd]
    exact hK _ _ (k _ (hF.put ht))
theorem fr_cond {x y : Code} {b : Bool} (hF : Fr n a L) (hv : L.lookup t = some (.bool b)) (ht : b = true → x.wp P Q a w) (hf : b = false → y.wp P Q a w) : (Code.cond (.tmp t) x y).wp P Q a w :=
  wp_cond_split (hF.sl t _ hv) ht hf
theorem fr_true {x y : Code} (hF : Fr n a L) (hv : L.lookup t = some (.bool true)) (h : x.wp P Q a w) : (Code.cond (.tmp t) x y).wp P Q a w := wp_cond_true (hF.sl t _ hv) h
theorem fr_false {x y : Code} (hF : Fr n a L) (hv : L.lookup t = some (.bool false)) (h : y.wp P Q a w) : (Code.cond (.tmp t) x y).wp P Q a w := wp_cond_false (hF.sl t _ hv) h
theorem wpList_append {l1 l2 : List Oper} (h : wpList P ops (Exit.then (fun a w => wpList P ops Q l2 a w) Q) l1 a w) : wpList P ops Q (l1 ++ l2) a w := by
  induction l1 generalizing a w with
  | nil=>exact h
  | cons o l ih =>
    simp only [List.cons_append]
    unfold wpList at h ⊢
    split
    · rename_i hw
      rw [if_pos hw] at h
      refine h.imp (fun h=>Oper.wp_mono (fun a w h'=>ih h') ?_) id
      unfold Oper.wp at *
      generalize (execOp a.eval o).run P w=r at *
      cases r with
      | ok n w'=>cases n <;> exact h
      | halt x w'=>cases x <;> exact h
    · rename_i hw
      rw [if_neg hw] at h
      exact ih h
theorem cut_k {l : List Oper} (k : Nat) (Φ : Act → World → Prop) (h1 : ∀ K : Act → World → Prop, (∀ a w, Φ a w → K a w) → wpList P ops (Exit.then K Q) (l.take k) a w) (h2 : ∀ a w, Φ a w → wpList P ops Q (l.drop k) a w) : wpList P ops Q l a w := by
  have:=wpList_append (l1:=l.take k) (l2:=l.drop k) (h1 _ h2)
  rwa [List.take_append_drop] at this
theorem of_then_ret {K : Act → World → Prop} (h : Q .ret a w) : Exit.then K Q .ret a w := h
theorem of_block_ret {id : Nat} (h : Q .ret a w) : Exit.inBlock id Q .ret a w := h
open Classical in
theorem fr_loop {c : Code} (I : Nat → Act → World → Prop) (q : Nat) (h0 : I q a w)
    (round:∀ q a w,I q a w→∀ K:Act→World→Prop,(∀ a' w' q',q' < q→I q' a' w'→K a' w')→c.wp P (Exit.then K Q) a w):(Code.loop c).wp P Q a w:=by
  have hex:∀ {a w},(∃ q,I q a w)→∃ q,I q a w∧∀ r,I r a w→q≤r:=by
    rintro a w ⟨q,hq⟩
    induction q using Nat.strongRecOn with
    | _ q ih =>
      by_cases hl:∃ r,r < q∧I r a w
      · obtain ⟨r,hr,hi⟩:=hl
        exact ih r hr hi
      · exact ⟨q,hq,fun r hr=>Nat.le_of_not_lt fun h=>hl ⟨r,h,hr⟩⟩
  refine wp_loop (fun a w=>∃ q,I q a w) (fun a w=>if h:∃ q,I q a w then Classical.choose (hex h) else 0) ⟨q,h0⟩ fun a w hI=>?_
  have hs:=Classical.choose_spec (hex hI)
  refine round _ a w hs.1 _ fun a' w' q' hq' hI'=>⟨⟨q',hI'⟩,?_⟩
  have h':∃ q,I q a' w':=⟨q',hI'⟩
  have hs':=Classical.choose_spec (hex h')
  rw [dif_pos h',dif_pos hI]
  exact Nat.lt_of_le_of_lt (hs'.2 q' hI') hq'
theorem fr_enter {f : FuncId} {fn : Func} {c : Code} {args : Array Value} {R : Ending → World → Prop} (hf : P.funcs[f]? = some fn) (hb : fn.body = some c) (hn : fn.ntmps = n) (ha : Nat.ble args.size n = true)
    (h:∀ a,Fr n a (args.toList.zipIdx.map fun x=>(x.2,x.1))→c.wp P (bodyPost P fn R) a w):Calls P f args w R:=by
  have ha':args.size≤n:=by simpa [Nat.ble_eq] using ha
  refine calls_of_wp hf hb (h _ ⟨by simp [hn];omega,rfl,fun t v hl=>?_⟩)
  have:∀ (l:List Value) (k t:Nat),((l.zipIdx k).map fun x=>(x.2,x.1)).lookup t=some v→k≤t∧l[t - k]?=some v:=by
    intro l
    induction l with
    | nil=>intro k t h;simp at h
    | cons x l ih =>
      intro k t h
      by_cases e:t=k
      · subst e;simp at h;subst h;simp
      · have e':(t == k)=false:=by simpa using e
        simp only [List.zipIdx_cons,List.map_cons,List.lookup_cons,e'] at h
        obtain ⟨h1,h2⟩:=ih (k + 1) t h
        refine ⟨by omega,?_⟩
        have:t - k=(t - (k + 1)) + 1:=by omega
        rw [this]
        simpa using h2
  obtain ⟨_,h2⟩:=this _ 0 t hl
  simp at h2
  have hlt:t < args.size:=(Array.getElem?_eq_some_iff.1 h2).1
  rw [Array.getD_eq_getD_getElem?,Array.getElem?_append_left hlt,h2]
  rfl
end
section
variable {P : Program} {Q : Exit → Act → World → Prop}
theorem wp_then {o : Oper} {a : Act} {w : World} {K N : Act → World → Prop} (h : o.wp P a w K (Exit.then N Q)) : o.wp P a w K Q := by
  unfold Oper.wp at *
  generalize (execOp a.eval o).run P w=r at *
  cases r with
  | ok n w'=>cases n <;> exact h
  | halt x w'=>cases x <;> exact h
def waitsB (k : Nat) (o : Oper) : Bool := (List.range k).all fun j => o.after.any fun e => Region.binds .any e && e.on == j
def tailB (k : Nat) : List Oper → Bool
  | []=>true
  | o :: l=>waitsB k o && tailB (k + 1) l
def guardsB (n : Nat) (l : List Oper) : Bool := l.all fun o => match o.guard with | some (g, _) => decide (g < n) | none => true
theorem tail_at : ∀ (l : List Oper) (k i : Nat) (o : Oper), tailB k l = true → l[i]? = some o → ∀ j, j < k + i → ∃ e ∈ o.after, Region.binds .any e = true ∧ e.on = j
  | [],_,_,_,_,h=>by simp at h
  | x :: l,k,0,o,h,ho=>by
    simp at ho;subst ho
    simp only [tailB,Bool.and_eq_true] at h
    intro j hj
    have:=List.all_eq_true.1 h.1 j (by simpa using hj)
    obtain ⟨q,hq,he⟩:=Array.any_eq_true.1 this
    simp only [Bool.and_eq_true,beq_iff_eq] at he
    exact ⟨_,Array.getElem_mem hq,he.1,he.2⟩
  | x :: l,k,i + 1,o,h,ho=>by
    simp only [tailB,Bool.and_eq_true] at h
    simp at ho
    intro j hj
    exact tail_at l (k + 1) i o h.2 ho j (by omega)
theorem ready_mem {ops : Array Oper} {listed : Array Bool} {i : Nat} : i ∈ Region.ready .any ops listed ↔ i < ops.size ∧ listed.getD i true = false ∧ ∃ o, ops[i]? = some o ∧ ∀ e ∈ o.after, Region.binds .any e = true → listed.getD e.on false = true := by
  unfold Region.ready
  rw [List.mem_filter]
  simp only [List.mem_range,Bool.and_eq_true,Bool.not_eq_true']
  refine and_congr_right fun h1=>and_congr_right fun h2=>?_
  rw [Array.getElem?_eq_getElem h1]
  simp only [Option.map_some,Option.getD_some,Option.some.injEq,exists_eq_left']
  rw [Array.all_eq_true_iff_forall_mem]
  refine forall_congr' fun e=>forall_congr' fun he=>?_
  cases Region.binds .any e <;> simp
theorem wpAny_seq {l : List Oper} (hb : backB 0 l = true) {k0 : Nat} (ht : tailB k0 (l.drop k0) = true) : ∀ (m k fuel : Nat) (listed : Array Bool) (a : Act) (w : World), k + m = l.length → k0 ≤ k → m ≤ fuel → listed.size = l.length →
    (∀ j,j < l.length→listed.getD j false=decide (j < k))→wpList P l.toArray Q (l.drop k) a w→wpAny P .any l.toArray Q fuel listed a w:=by
  intro m
  induction m with
  | zero =>
    intro k fuel listed a w hk _ _ hs hl h
    have hr:Region.ready .any l.toArray listed=[]:=by
      rw [List.eq_nil_iff_forall_not_mem]
      intro i hi
      obtain ⟨h1,h2,_⟩:=ready_mem.1 hi
      have h1':i < l.length:=by simpa using h1
      have:=hl i h1'
      have hd:decide (i < k)=true:=by simp;omega
      rw [hd] at this
      have hi':i < listed.size:=by omega
      simp [Array.getD,hi'] at this h2
      rw [this] at h2;cases h2
    have hq:Q .normal a w:=by
      rw [List.drop_of_length_le (by omega)] at h
      exact h
    cases fuel with
    | zero=>exact ⟨hr,hq⟩
    | succ fuel=>exact ⟨fun _=>hq,fun i hi=>by rw [hr] at hi;cases hi⟩
  | succ m ih =>
    intro k fuel listed a w hk hk0 hf hs hl h
    have hlt:k < l.length:=by omega
    obtain ⟨fuel,rfl⟩:∃ f,fuel=f + 1:=⟨fuel - 1,by omega⟩
    have hks:k < listed.size:=by omega
    have hkr:k ∈ Region.ready .any l.toArray listed:=by
      refine ready_mem.2 ⟨by simpa using hlt,?_,l[k],by simp [hlt],fun e he hbd=>?_⟩
      · have:=hl k hlt
        simp [Array.getD,hks] at this ⊢;exact this
      · have:=back_at l 0 k l[k] hb (by simp [hlt]) e he hbd
        rw [hl _ (by omega)];simp;omega
    refine ⟨fun hr=>absurd (hr ▸ hkr) (by simp),fun i hi=>?_⟩
    have hik:i=k:=by
      obtain ⟨h1,h2,o,ho,h3⟩:=ready_mem.1 hi
      have h1':i < l.length:=by simpa using h1
      have hnl:listed.getD i false=false:=by
        have hi':i < listed.size:=by omega
        simp [Array.getD,hi'] at h2 ⊢;exact h2
      have hge:k≤i:=by
        have:=hl i h1'
        rw [hnl] at this
        have:¬ i < k:=by simpa using this.symm
        omega
      rcases Nat.eq_or_lt_of_le hge with e | hgt
      · exact e.symm
      · exfalso
        obtain ⟨e,he,hbd,hon⟩:=tail_at (l.drop k0) k0 (i - k0) o ht (by rw [List.getElem?_drop,show k0 + (i - k0)=i by omega];simpa using ho) k (by omega)
        have:=h3 e he hbd
        rw [hon,hl k hlt] at this
        simp at this
    subst hik
    rw [List.drop_eq_getElem_cons hlt] at h
    have ho:l.toArray[i]?=some l[i]:=by simp [hlt]
    have next:∀ a w,wpList P l.toArray Q (l.drop (i + 1)) a w→wpAny P .any l.toArray Q fuel (listed.setIfInBounds i true) a w:=fun a w h' =>
      ih (i + 1) fuel _ a w (by omega) (by omega) (by omega) (by simpa using hs) (fun j hj=>by
        by_cases e:j=i
        · subst e;simp [Array.getD,hks]
        · have hne:i≠j:=fun x=>e x.symm
          rw [Array.getD_eq_getD_getElem?,Array.getElem?_setIfInBounds_ne hne,← Array.getD_eq_getD_getElem?,hl j hj]
          simp;omega) h'
    unfold wpOp
    rw [ho]
    simp only
    unfold wpList at h
    split
    · rename_i hw
      rw [if_pos hw] at h
      exact h.imp (Oper.wp_mono next) id
    · rename_i hw
      rw [if_neg hw] at h
      exact next _ _ h
theorem wpAny_tail {l l2 : List Oper} (hb : backB 0 (l ++ l2) = true) (hg : guardsB l.length l = true) (ht : tailB l.length l2 = true) : ∀ (fuel : Nat) (listed : Array Bool) (a : Act) (w : World), listed.size = l.length →
    wpAny P .any l.toArray (Exit.then (fun a w=>wpList P (l ++ l2).toArray Q l2 a w) Q) fuel listed a w →
    wpAny P .any (l ++ l2).toArray Q (fuel + l2.length) (listed ++ Array.replicate l2.length false) a w:=by
  have hbl:∀ (i:Nat) (o:Oper),l[i]?=some o→∀ e ∈ o.after,Region.binds .any e=true→e.on < i:=fun i o ho e he hbd=>by
    have hi:i < l.length:=(List.getElem?_eq_some_iff.1 ho).1
    have:=back_at (l ++ l2) 0 i o hb (by rw [List.getElem?_append_left hi];exact ho) e he hbd
    omega
  have get1:∀ (listed:Array Bool) (j:Nat) (d:Bool),listed.size=l.length→j < l.length→(listed ++ Array.replicate l2.length false).getD j d=listed.getD j d:=fun listed j d hs hj=>by
    rw [Array.getD_eq_getD_getElem?,Array.getD_eq_getD_getElem?,Array.getElem?_append_left (by omega)]
  have get2:∀ (listed:Array Bool) (j:Nat),listed.size=l.length→l.length≤j→(listed ++ Array.replicate l2.length false).getD j false=false:=fun listed j hs hj=>by
    rw [Array.getD_eq_getD_getElem?,Array.getElem?_append_right (by omega)]
    cases h:(Array.replicate l2.length false)[j - listed.size]? with
    | none=>rfl
    | some b =>
      have:=Array.mem_of_getElem? h
      simp at this
      simp [this.2]
  -- all of the first part are listed
  have done:∀ (fuel:Nat) (listed:Array Bool) (a:Act) (w:World),listed.size=l.length→(∀ j,j < l.length→listed.getD j false=true)→wpList P (l ++ l2).toArray Q l2 a w →
      wpAny P .any (l ++ l2).toArray Q (fuel + l2.length) (listed ++ Array.replicate l2.length false) a w:=fun fuel listed a w hs hall h=>by
    refine wpAny_seq hb (k0:=l.length) (by simpa using ht) l2.length l.length _ _ a w (by simp) (Nat.le_refl _) (by omega) (by simp [hs]) (fun j hj=>?_) (by simpa using h)
    by_cases hj':j < l.length
    · rw [get1 listed j false hs hj',hall j hj'];simp [hj']
    · rw [get2 listed j hs (by omega)];simp;omega
  have allOf:∀ (listed:Array Bool),listed.size=l.length→Region.ready .any l.toArray listed=[]→∀ j,j < l.length→listed.getD j false=true:=fun listed hs hr j=>by
    induction j using Nat.strongRecOn with
    | _ j ih =>
      intro hj
      cases hc:listed.getD j false with
      | true=>rfl
      | false =>
        exfalso
        have hj':j < listed.size:=by omega
        have hnt:listed.getD j true=false:=by simp [Array.getD,hj'] at hc ⊢;exact hc
        have:j ∈ Region.ready .any l.toArray listed:=ready_mem.2 ⟨by simpa using hj,hnt,l[j],by simp [hj],fun e he hbd=>by
          have:=hbl j l[j] (by simp [hj]) e he hbd
          exact ih e.on this (by omega)⟩
        rw [hr] at this;cases this
  intro fuel
  induction fuel with
  | zero =>
    intro listed a w hs h
    exact done 0 listed a w hs (allOf listed hs h.1) h.2
  | succ fuel ih =>
    intro listed a w hs h
    by_cases hall:∀ j,j < l.length→listed.getD j false=true
    · refine done (fuel + 1) listed a w hs hall (h.1 ?_)
      rw [List.eq_nil_iff_forall_not_mem]
      intro i hi
      obtain ⟨h1,h2,_⟩:=ready_mem.1 hi
      have h1':i < l.length:=by simpa using h1
      have:=hall i h1'
      have hi':i < listed.size:=by omega
      simp [Array.getD,hi'] at this h2
      rw [this] at h2;cases h2
    · have hnr:Region.ready .any l.toArray listed≠[]:=fun e=>hall (allOf listed hs e)
      have same:∀ i,i ∈ Region.ready .any (l ++ l2).toArray (listed ++ Array.replicate l2.length false) ↔ i ∈ Region.ready .any l.toArray listed:=fun i=>by
        rw [ready_mem,ready_mem]
        by_cases hi:i < l.length
        · have e1:(l ++ l2).toArray[i]?=l.toArray[i]?:=by simp [List.getElem?_append_left hi]
          rw [get1 listed i true hs hi,e1]
          constructor
          · rintro ⟨_,h2,o,ho,h3⟩
            refine ⟨by simpa using hi,h2,o,ho,fun e he hbd=>?_⟩
            have:=hbl i o (by simpa using ho) e he hbd
            have h4:=h3 e he hbd
            rwa [get1 listed e.on false hs (by omega)] at h4
          · rintro ⟨_,h2,o,ho,h3⟩
            refine ⟨by simp;omega,h2,o,ho,fun e he hbd=>?_⟩
            have:=hbl i o (by simpa using ho) e he hbd
            rw [get1 listed e.on false hs (by omega)]
            exact h3 e he hbd
        · constructor
          · rintro ⟨h1,h2,o,ho,h3⟩
            exfalso
            refine hall fun j hj=>?_
            have ho':(l ++ l2)[i]?=some o:=by simpa using ho
            rw [List.getElem?_append_right (by omega)] at ho'
            obtain ⟨e,he,hbd,hon⟩:=tail_at l2 l.length (i - l.length) o ht ho' j (by omega)
            have:=h3 e he hbd
            rwa [hon,get1 listed j false hs hj] at this
          · rintro ⟨h1,_⟩
            exact absurd (by simpa using h1) hi
      rw [show fuel + 1 + l2.length=(fuel + l2.length) + 1 by omega]
      refine ⟨fun hr=>?_,fun i hi=>?_⟩
      · exfalso
        apply hnr
        rw [List.eq_nil_iff_forall_not_mem]
        intro i hi
        have:=(same i).2 hi
        rw [hr] at this;cases this
      · have hi':=(same i).1 hi
        have h':=h.2 i hi'
        obtain ⟨h1,_⟩:=ready_mem.1 hi'
        have hlt:i < l.length:=by simpa using h1
        have ho:l.toArray[i]?=some l[i]:=by simp [hlt]
        have ho2:(l ++ l2).toArray[i]?=some l[i]:=by simp [List.getElem?_append_left hlt,hlt]
        unfold wpOp at h' ⊢
        rw [ho] at h'
        rw [ho2]
        simp only at h' ⊢
        have hy:Region.wanted l[i] (yielded (l ++ l2).toArray a.tmps)=Region.wanted l[i] (yielded l.toArray a.tmps):=by
          unfold Region.wanted
          cases hgd:(l[i]).guard with
          | none=>rfl
          | some gw =>
            obtain ⟨g,want⟩:=gw
            have:=List.all_eq_true.1 hg l[i] (List.getElem_mem hlt)
            rw [hgd] at this
            have hgl:g < l.length:=by simpa using this
            simp only
            have:yielded (l ++ l2).toArray a.tmps g=yielded l.toArray a.tmps g:=by
              unfold yielded
              have:(l ++ l2).toArray[g]?=l.toArray[g]?:=by simp [List.getElem?_append_left hgl]
              rw [this]
            rw [this]
        rw [hy]
        have nx:∀ a w,wpAny P .any l.toArray (Exit.then (fun a w=>wpList P (l ++ l2).toArray Q l2 a w) Q) fuel (listed.setIfInBounds i true) a w→wpAny P .any (l ++ l2).toArray Q (fuel + l2.length) ((listed ++ Array.replicate l2.length false).setIfInBounds i true) a w:=fun a w hh=>by
          have:=ih (listed.setIfInBounds i true) a w (by simpa using hs) hh
          have e:(listed ++ Array.replicate l2.length false).setIfInBounds i true=listed.setIfInBounds i true ++ Array.replicate l2.length false:=by
            rw [Array.setIfInBounds_append_left (by omega)]
          rw [e];exact this
        split
        · rename_i hw
          rw [if_pos hw] at h'
          rcases h' with h' | h'
          · exact .inl (Oper.wp_mono nx (wp_then h'))
          · exact .inr h'
        · rename_i hw
          rw [if_neg hw] at h'
          exact nx _ _ h'
end
end Go.Proofs.YtjodmledadbgeacGreatDoor
namespace Go.Proofs.YtjodmledadbgeacGreatDoor
open Go.ChangeShapes Go.WideShapes Go.ChangeAt Go.RowKit
set_option linter.unusedVariables false
structure Bx (w wr : World) (k r : Int) (a : Option Addr) (len c : Nat) : Prop where
  bel:Below w.heap.size w wr
  box:wr.heap[w.heap.size]?=some (.cells #[.int .i64 k,.int .i64 r,.slice a len c] 74 (0,0))
theorem Bx.start (w : World) (k r : Int) (a : Option Addr) (len c : Nat) : Bx w (w.alloc (.cells #[.int .i64 k, .int .i64 r, .slice a len c] 74)) k r a len c :=
  ⟨(Below.refl _ w).alloc (Nat.le_refl _) _,blockNew w _ _⟩
theorem Bx.lt {w wr : World} {k r : Int} {a : Option Addr} {len c : Nat} (h : Bx w wr k r a len c) : w.heap.size < wr.heap.size := lt_of_block h.box
theorem Bx.below {w wr w' : World} {k r : Int} {a : Option Addr} {len c : Nat} (h : Bx w wr k r a len c) (b : Below wr.heap.size wr w') : Bx w w' k r a len c :=
  ⟨h.bel.trans (b.mono h.bel.size),box_cells h.box b⟩
theorem Bx.alloc {w wr : World} {k r : Int} {a : Option Addr} {len c : Nat} (h : Bx w wr k r a len c) (o : Obj) : Bx w (wr.alloc o) k r a len c :=
  h.below ((Below.refl _ wr).alloc (Nat.le_refl _) _)
theorem Bx.drewN {w wr : World} {k r : Int} {a : Option Addr} {len c : Nat} (h : Bx w wr k r a len c) (m : Nat) : Bx w (wr.drewN m) k r a len c := ⟨⟨h.bel.os, h.bel.tape, h.bel.output, h.bel.size, h.bel.block⟩, h.box⟩
theorem Bx.drew {w wr : World} {k r : Int} {a : Option Addr} {len c : Nat} (h : Bx w wr k r a len c) : Bx w wr.drew k r a len c := h.drewN 1
def FaultAt (f : Nat) (n : Nat) : Prop := ∀ (t : TT n) (a : Option Addr) (c : Nat) (regs : Int) (w : World), TIn w All t a → t.count ≤ 100000 →
    Calls Tryz.prog f #[Tv t a c,.int .i64 regs] w fun e w'=>e=.returned (.int .i64 (t.fault regs))∧Below w.heap.size w w'
end Go.Proofs.YtjodmledadbgeacGreatDoor
namespace Go.Proofs.YtjodmledadbgeacGreatDoor
open Go.RowKit
set_option linter.unusedVariables false
structure Wd (w0 w : World) (Bs : List (Nat × Array Value × TypeId)) : Prop where
  bel:Below w0.heap.size w0 w
  blk:∀ (i:Nat) x,Bs[i]?=some x→Blk w x.1 x.2.1 x.2.2
  new:∀ (i:Nat) x,Bs[i]?=some x→w0.heap.size≤x.1
  nd:∀ (i j:Nat) x y,Bs[i]?=some x→Bs[j]?=some y→x.1=y.1→i=j
section
variable {w0 w w' : World} {Bs : List (Nat × Array Value × TypeId)}
theorem Wd.start (w : World) : Wd w w [] := ⟨Below.refl _ _, fun i x h => by simp at h, fun i x h => by simp at h, fun i j x y h => by simp at h⟩
theorem Wd.below (h : Wd w0 w Bs) (b : Below w.heap.size w w') : Wd w0 w' Bs := ⟨Below.andThen h.bel b, fun i x hx => (h.blk i x hx).below b, h.new, h.nd⟩
theorem Wd.get (h : Wd w0 w Bs) (i : Nat) {B : Nat} {c : Array Value} {t : TypeId} (hi : Bs[i]? = some (B, c, t)) : Blk w B c t := h.blk i _ hi
theorem Wd.new' (h : Wd w0 w Bs) (c : Array Value) (t : TypeId) : Wd w0 (w.alloc (.cells c t)) ((w.heap.size, c, t) :: Bs) := by
  refine ⟨Below.andThen h.bel (bel1 w _),fun i x hx=>?_,fun i x hx=>?_,fun i j x y hx hy e=>?_⟩
  · cases i with
    | zero=>simp at hx;subst hx;exact Blk.new w c t
    | succ i=>exact (h.blk i x (by simpa using hx)).alloc _
  · cases i with
    | zero=>simp at hx;subst hx;exact h.bel.size
    | succ i=>exact h.new i x (by simpa using hx)
  · cases i with
    | zero =>
      cases j with
      | zero=>rfl
      | succ j =>
        simp at hx hy;subst hx
        have:=(h.blk j y hy).lt
        simp at e;omega
    | succ i =>
      cases j with
      | zero =>
        simp at hx hy;subst hy
        have:=(h.blk i x hx).lt
        simp at e;omega
      | succ j=>rw [h.nd i j x y (by simpa using hx) (by simpa using hy) e]
theorem Wd.tail {x : Nat × Array Value × TypeId} (h : Wd w0 w (x :: Bs)) : Wd w0 w Bs :=
  ⟨h.bel,fun i y hy=>h.blk (i + 1) y (by simpa using hy),fun i y hy=>h.new (i + 1) y (by simpa using hy),fun i j y z hy hz e=>by have:=h.nd (i + 1) (j + 1) y z (by simpa using hy) (by simpa using hz) e;omega⟩
theorem Wd.set (h : Wd w0 w Bs) (i : Nat) {B : Nat} {c c' : Array Value} {t : TypeId} {Bs' : List (Nat × Array Value × TypeId)} (hi : Bs[i]? = some (B, c, t)) (j : Nat) (v : Value)
    (hc:c.setIfInBounds j v=c') (hB:Bs.set i (B,c',t)=Bs'):Wd w0 (w.setCell ⟨B,j,none⟩ v) Bs':=by
  subst hB
  subst hc
  have sp:∀ (k:Nat) x,(Bs.set i (B,c.setIfInBounds j v,t))[k]?=some x→(k=i∧x=(B,c.setIfInBounds j v,t)) ∨ (k≠i∧Bs[k]?=some x):=by
    intro k x hx
    rw [List.getElem?_set] at hx
    split at hx
    · rename_i e
      subst e
      have hil:i < Bs.length:=(List.getElem?_eq_some_iff.1 hi).1
      rw [if_pos hil] at hx
      exact .inl ⟨rfl,(Option.some.inj hx).symm⟩
    · rename_i e
      exact .inr ⟨fun e'=>e e'.symm,hx⟩
  have key:∀ (k:Nat) x,Bs[k]?=some x→k≠i→x.1≠B:=fun k x hx hk e=>hk (h.nd k i x _ hx hi e)
  refine ⟨h.bel.setCell (p:=⟨B,j,none⟩) (h.new i _ hi) v,fun k x hx=>?_,fun k x hx=>?_,fun k l x y hx hy e=>?_⟩
  · rcases sp k x hx with ⟨rfl,rfl⟩ | ⟨hk,hx⟩
    · exact blockSet (h.blk k _ hi) j v
    · exact (h.blk k x hx).setOther (fun e=>key k x hx hk e.symm) v
  · rcases sp k x hx with ⟨rfl,rfl⟩ | ⟨hk,hx⟩
    · exact h.new k (B,c,t) hi
    · exact h.new k x hx
  · rcases sp k x hx with ⟨hk,hx1⟩ | ⟨hk,hx1⟩
    · rcases sp l y hy with ⟨hl,hy1⟩ | ⟨hl,hy1⟩
      · rw [hk,hl]
      · rw [hx1] at e;exact absurd e.symm (key l y hy1 hl)
    · rcases sp l y hy with ⟨hl,hy1⟩ | ⟨hl,hy1⟩
      · rw [hy1] at e;exact absurd e (key k x hx1 hk)
      · exact h.nd k l x y hx1 hy1 e
def spliced (c : Array Value) (j : Nat) (vs : List Value) : Array Value := (c.toList.take j ++ (vs ++ c.toList.drop (j + vs.length))).toArray
theorem spliced_cons (c : Array Value) (j : Nat) (v : Value) (vs : List Value) (h : j + (v :: vs).length ≤ c.size) : spliced (c.setIfInBounds j v) (j + 1) vs = spliced c j (v :: vs) := by
  unfold spliced
  congr 1
  have hj:j < c.toList.length:=by simp at h ⊢;omega
  simp only [Array.toList_setIfInBounds]
  rw [List.take_set,List.drop_set_of_lt (by omega),List.take_add_one,List.getElem?_eq_getElem hj]
  simp only [Option.toList,List.length_cons]
  have:(c.toList.take j ++ [c.toList[j]]).set j v=c.toList.take j ++ [v]:=by
    rw [List.set_append_right _ _ (by simp;omega)]
    have hj':j < c.size:=by simpa using hj
    simp [Nat.min_eq_left (Nat.le_of_lt hj')]
  rw [this,Nat.add_assoc,Nat.add_comm 1]
  simp
theorem Wd.setAt (h : Wd w0 w Bs) (i : Nat) {B : Nat} {c c' : Array Value} {t : TypeId} {Bs' : List (Nat × Array Value × TypeId)} (hi : Bs[i]? = some (B, c, t)) (j : Nat) (vs : List Value)
    (hs:Nat.ble (j + vs.length) c.size=true) (hc:spliced c j vs=c') (hB:Bs.set i (B,c',t)=Bs'):Wd w0 (w.setCells B j vs) Bs':=by
  have hs':j + vs.length≤c.size:=by simpa [Nat.ble_eq] using hs
  clear hs
  induction vs generalizing w Bs c j with
  | nil =>
    subst hB
    have:c=c':=by rw [← hc];unfold spliced;simp
    subst this
    have:Bs.set i (B,c,t)=Bs:=by
      apply List.ext_getElem?
      intro k
      rw [List.getElem?_set]
      split
      · rename_i e;subst e;rw [hi];simp [(List.getElem?_eq_some_iff.1 hi).1]
      · rfl
    rw [this];exact h
  | cons v vs ih =>
    have hil:i < Bs.length:=(List.getElem?_eq_some_iff.1 hi).1
    refine ih (c:=c.setIfInBounds j v) (h.set i hi j v rfl rfl) (by rw [List.getElem?_set];simp [hil]) (j + 1) ?_ ?_ ?_
    · rw [← hc,spliced_cons _ _ _ _ hs']
    · rw [List.set_set];exact hB
    · simp at hs' ⊢;omega
theorem Wd.drewN (h : Wd w0 w Bs) (m : Nat) : Wd w0 (w.drewN m) Bs := ⟨drewN_below h.bel, fun i x hx => h.blk i x hx, h.new, h.nd⟩
end
theorem wrap_succ (q : Nat) (h : q < 4611686018427387904) : IntKind.i64.wrap ((q : Int) + 1) = (q : Int) + 1 := by
  have:(q:Int) < 4611686018427387904:=by omega
  have e1:((q:Int) + 1) % 2 ^ 64=(q:Int) + 1:=by omega
  simp only [IntKind.wrap,IntKind.signed,IntKind.bits,e1,Bool.true_and]
  rw [if_neg (by simp only [decide_eq_true_eq];omega)]
theorem Fr.sl2 {n : Nat} {a : Act} {L : List (Tmp × Value)} (h : Fr n a L) (t : Tmp) (v : Value) (e : L.lookup t = some v) : a.tmps[t]?.getD undef = v := by
  rw [← Array.getD_eq_getD_getElem?];exact h.sl t v e
structure New (w w' : World) (B : Nat) : Prop where
  bel:Below w.heap.size w w'
  at_:B=w.heap.size
  size:w'.heap.size=B + 1
theorem bel_cell {w w' : World} (b : Below w.heap.size w w') {p : Addr} {v : Value} (h : w.cell? p = some v) : w'.cell? p = some v :=
  (World.cell?_of_block (w:=w) (a:=p) (b.block p.block (World.block_lt_of_cell? w p h))).trans h
def Rd (P : Program) (f : FuncId) (args : Array Value) (w : World) (V : Value) : Prop := Calls P f args w fun e w' => e = .returned V ∧ Below w.heap.size w w'
noncomputable def bdec (A : Prop) : Bool := @decide A (Classical.propDecidable A)
theorem bdec_iff {A : Prop} : bdec A = true ↔ A := by unfold bdec; simp
theorem bdec_true {A : Prop} (h : A) : bdec A = true := bdec_iff.2 h
theorem bdec_false {A : Prop} (h : ¬ A) : bdec A = false := by
  cases e:bdec A with
  | false=>rfl
  | true=>exact absurd (bdec_iff.1 e) h
theorem bdec_of {A : Prop} {q : Bool} (h : q = true ↔ A) : q = bdec A := by
  cases q with
  | false=>exact (bdec_false fun ha=>by have:=h.2 ha;cases this).symm
  | true=>exact (bdec_true (h.1 rfl)).symm
section
variable {P : Program} {n : Nat} {a : Act} {L : List (Tmp × Value)} {w0 w w' : World} {Bs Bs' : List (Nat × Array Value × TypeId)} {Q : Exit → Act → World → Prop} {ops : Array Oper} {o : Oper} {rest : List Oper} {t : Tmp} {v : Value}
theorem fr_set (hF : Fr n a L) (hW : Wd w0 w' Bs') (hd : o.dst = none) (hg : o.guard = none)
    (h:∀ K:Act→World→Prop,K a w'→o.wp P a w K Q)
    (k:∀ w',Wd w0 w' Bs'→wpList P ops Q rest a w'):wpList P ops Q (o :: rest) a w :=
  fr_skip hF hd hg h (k _ hW)
theorem ret_tmp {fn : Func} {R : Ending → World → Prop} (hF : Fr n a L) (hr : fn.results = #[.tmp t]) (hv : L.lookup t = some v) (hR : R (.returned v) w) : bodyPost P fn R .ret a w :=
  bodyPost_ret ((results_tmp hr _ _ _).trans (by rw [hF.sl t v hv])) hF.defers hR
end
abbrev PTab := List (Tmp × (Value → World → Prop))
def PTab.E (M : PTab) (t : Tmp) (v : Value) (w : World) : Prop := match M.lookup t with | some p => p v w | none => True
def Stable (R : World → World → Prop) : PTab → Prop
  | []=>True
  | x :: r=>(∀ v w w',R w w'→x.2 v w→x.2 v w')∧Stable R r
theorem PTab_stable {R : World → World → Prop} : ∀ (M : PTab), Stable R M → ∀ t v w w', R w w' → PTab.E M t v w → PTab.E M t v w'
  | [],_,_,_,_,_,_,h=>h
  | x :: r,hs,t,v,w,w',hr,h=>by
    unfold PTab.E at *
    obtain ⟨s,p⟩:=x
    by_cases e:t=s
    · subst e
      simp at h ⊢
      exact hs.1 _ _ _ hr h
    · have e':(t == s)=false:=by simpa using e
      simp only [List.lookup_cons,e'] at h ⊢
      exact PTab_stable r hs.2 t v w w' hr h
theorem fr_draw {P : Program} {n id : Nat} {l l2 : List Oper} {outs : List Tmp} {gs : List (Nat × Option Bool)} {bs : List Bool} {a : Act} {w : World} {L : List (Tmp × Value)} {Q : Exit → Act → World → Prop}
    (M:PTab) (W:World→Prop) (R:World→World→Prop)
    (hm:P.follows .mixedOrders=true) (hF:Fr n a L) (hL:(L.all fun p=>!(dstsOf l).contains p.1)=true) (hB:calmB l n outs gs bs=true)
    (hT:(backB 0 (l ++ l2) && (guardsB l.length l && tailB l.length l2))=true)
    (hR:Stable R M) (hG:GuardOk (PTab.E M) W l.toArray gs) (hW:W w.drew) (hO:OutsOk (PTab.E M) a w.drew outs)
    (hA:AllOk (PTab.E M) W R P l bs)
    (hend:∀ a' w',W w'→(∀ t,(dstsOf l).contains t=true→PTab.E M t (a'.tmps.getD t undef) w')→Fr n a' L→wpList P (l ++ l2).toArray Q l2 a' w') :
    (Code.region id (l ++ l2).toArray true).wp P Q a w:=by
  simp only [Bool.and_eq_true] at hT
  obtain ⟨hT1,hT2,hT3⟩:=hT
  refine wp_region_any hm ?_
  have key:wpAny P .any l.toArray (Exit.then (fun a w=>wpList P (l ++ l2).toArray Q l2 a w) Q) l.length (Array.replicate l.length false) a w.drew:=by
    refine wpAny_calm (E:=PTab.E M) (W:=W) (R:=R) (a0:=a) (outs:=outs) (gs:=gs) (bs:=bs) (by rw [hF.size];exact hB) (PTab_stable M hR) hG hA ?_ _ _ _ _ (by simp) ?_ ⟨hW,rfl,rfl,fun _ _=>rfl,fun t ht _=>outs_mem outs hO t ht,?_⟩
    · intro vs w' hw' hE
      have hlt:∀ t,(dstsOf l).contains t=true→t < a.tmps.size:=fun t ht=>by
        simp only [calmB,Bool.and_eq_true] at hB
        have:=List.all_eq_true.1 hB.1.1.1.2 t (by simpa using ht)
        rw [hF.size];simpa using this
      have hat:∀ t,(dstsOf l).contains t=true→(puts a vs (dstsOf l)).tmps.getD t undef=vs t:=fun t ht=>by
        have:=puts_at vs (dstsOf l) a t (hlt t ht)
        rw [if_pos (by simpa using ht)] at this
        rw [Array.getD_eq_getD_getElem?,this];rfl
      refine hend _ w' hw' (fun t ht=>by rw [hat t ht];exact hE t ht) ⟨by rw [puts_size,hF.size],by rw [puts_defers,hF.defers],fun t v hl=>?_⟩
      have hm:∃ p ∈ L,p.1=t:=by
        clear hL hO hend
        have:∀ (L:List (Tmp × Value)),L.lookup t=some v→∃ p ∈ L,p.1=t:=by
          intro L
          induction L with
          | nil=>intro h;simp at h
          | cons x r ih =>
            intro h
            by_cases e:t=x.1
            · exact ⟨x,by simp,e.symm⟩
            · have e':(t == x.1)=false:=beq_false_of_ne e
              rw [List.lookup_cons,e'] at h
              obtain ⟨p,hp,he⟩:=ih h
              exact ⟨p,by simp [hp],he⟩
        exact this L hl
      obtain ⟨p,hp,rfl⟩:=hm
      have hn:¬ p.1 ∈ dstsOf l:=by
        have:=List.all_eq_true.1 hL p hp
        simpa using this
      rw [← hF.sl p.1 v hl]
      by_cases hlt':p.1 < a.tmps.size
      · have:=puts_at vs (dstsOf l) a p.1 hlt'
        rw [if_neg hn] at this
        rw [Array.getD_eq_getD_getElem?,Array.getD_eq_getD_getElem?,this]
      · have h9:a.tmps.size≤p.1:=Nat.le_of_not_lt hlt'
        rw [Array.getD_eq_getD_getElem?,Array.getD_eq_getD_getElem?,Array.getElem?_eq_none (by rw [puts_size];exact h9),Array.getElem?_eq_none h9]
    · simp only [Array.toList_replicate]
      exact Nat.le_trans (List.length_filter_le _ _) (by simp)
    · intro j o t hj hd hl
      simp [Array.getD] at hl
  have:=wpAny_tail (Q:=Q) hT1 hT2 hT3 l.length (Array.replicate l.length false) a w.drew (by simp) key
  have e:(Array.replicate l.length false ++ Array.replicate l2.length false:Array Bool)=Array.replicate (l ++ l2).toArray.size false:=by
    simp
  have e2:l.length + l2.length=(l ++ l2).toArray.size:=by simp
  rw [e,e2] at this
  exact this
theorem fr_draw_k {P : Program} {n id : Nat} {lo : List Oper} {outs : List Tmp} {gs : List (Nat × Option Bool)} {bs : List Bool} {a : Act} {w : World} {L : List (Tmp × Value)} {Q : Exit → Act → World → Prop}
    (k:Nat) (M:PTab) (W:World→Prop) (R:World→World→Prop)
    (hm:P.follows .mixedOrders=true) (hF:Fr n a L) (hL:(L.all fun p=>!(dstsOf (lo.take k)).contains p.1)=true) (hB:calmB (lo.take k) n outs gs bs=true)
    (hT:(backB 0 lo && (guardsB (lo.take k).length (lo.take k) && tailB (lo.take k).length (lo.drop k)))=true)
    (hR:Stable R M) (hG:GuardOk (PTab.E M) W (lo.take k).toArray gs) (hW:W w.drew) (hO:OutsOk (PTab.E M) a w.drew outs)
    (hA:AllOk (PTab.E M) W R P (lo.take k) bs)
    (hend:∀ ops a' w',W w'→(∀ t,(dstsOf (lo.take k)).contains t=true→PTab.E M t (a'.tmps.getD t undef) w')→Fr n a' L→wpList P ops Q (lo.drop k) a' w') :
    (Code.region id lo.toArray true).wp P Q a w:=by
  have h:=fr_draw (id:=id) (l:=lo.take k) (l2:=lo.drop k) (Q:=Q) M W R hm hF hL hB (by rw [List.take_append_drop];exact hT) hR hG hW hO hA (hend _)
  rwa [List.take_append_drop] at h
section
variable {w0 w w' w00 : World} {Bs : List (Nat × Array Value × TypeId)}
theorem Wd.add (h : Wd w0 w Bs) {B : Nat} {c : Array Value} {t : TypeId} (hb : Blk w B c t) (h0 : Wd w0 w00 Bs) (hB : w00.heap.size ≤ B) : Wd w0 w ((B, c, t) :: Bs) := by
  refine ⟨h.bel,fun i x hx=>?_,fun i x hx=>?_,fun i j x y hx hy e=>?_⟩
  · cases i with
    | zero=>simp at hx;subst hx;exact hb
    | succ i=>exact h.blk i x (by simpa using hx)
  · cases i with
    | zero=>simp at hx;subst hx;have:=h0.bel.size;simp only;omega
    | succ i=>exact h.new i x (by simpa using hx)
  · cases i with
    | zero =>
      cases j with
      | zero=>rfl
      | succ j =>
        simp at hx hy;subst hx
        have:=(h0.blk j y hy).lt
        simp at e;omega
    | succ i =>
      cases j with
      | zero =>
        simp at hx hy;subst hy
        have:=(h0.blk i x hx).lt
        simp at e;omega
      | succ j=>rw [h.nd i j x y (by simpa using hx) (by simpa using hy) e]
end
end Go.Proofs.YtjodmledadbgeacGreatDoor
namespace Go.Proofs.YtjodmledadbgeacGreatDoor
open Go.ChangeShapes Go.WideShapes Go.ChangeAt Go.RowKit
set_option linter.unusedSimpArgs false
set_option linter.unusedVariables false
def evalL (L : List (Tmp × Value)) : Operand → Option Value
  | .tmp t=>L.lookup t
  | .const v=>some v
  | .func f=>some (.func (.func f) #[] #[])
  | _=>none
abbrev St (n : Nat) (L : List (Tmp × Value)) (ops : Array Oper) (Q : Exit → Act → World → Prop) (l : List Oper) (w : World) : Prop := ∀ a, Fr n a L → wpList Tryz.prog ops Q l a w
def Gok (ops : Array Oper) (n : Nat) (L : List (Tmp × Value)) : Option (Nat × Bool) → Prop
  | none=>True
  | some (g,want)=>∃ tg,(ops[g]?).bind (fun o:Oper=>o.dst)=some tg∧Nat.blt tg n=true∧L.lookup tg=some (.bool want)
section
variable {n : Nat} {a : Act} {L : List (Tmp × Value)} {w0 w : World} {Bs : List (Nat × Array Value × TypeId)} {Q : Exit → Act → World → Prop} {ops : Array Oper} {rest : List Oper} {t : Tmp} {u v : Value} {ty ty2 ty3 : TypeId} {pos : String} {aft : Array Edge} {gd : Option (Nat × Bool)} {x y z : Operand} {g tg : Nat} {want b : Bool}
theorem Fr.ev (h : Fr n a L) (e : evalL L x = some v) : a.eval x = v := by
  cases x <;> simp only [evalL,Option.some.injEq,reduceCtorEq] at e
  · exact h.sl _ _ e
  · exact e
  · subst e;rfl
theorem Gok.on {o : Oper} (hF : Fr n a L) (h : Gok ops n L o.guard) : Region.wanted o (yielded ops a.tmps) = true := by
  cases hg:o.guard with
  | none=>simp [Region.wanted,hg]
  | some p =>
    obtain ⟨g,want⟩:=p
    rw [hg] at h
    obtain ⟨tg,h1,h2,h3⟩:=h
    rw [wanted_g hF hg h1 h2 h3];simp
theorem St.go {l : List Oper} (hF : Fr n a L) (h : St n L ops Q l w) : wpList Tryz.prog ops Q l a w := h a hF
theorem rg {id : Nat} {l : List Oper} (hF : Fr n a L) (h : ∀ ops, St n L ops Q l w) : (Code.region id l.toArray false).wp Tryz.prog Q a w := fr_region fun ops _ => h ops a hF
theorem St.nil (h : ∀ a, Fr n a L → Q .normal a w) : St n L ops Q [] w := h
theorem s_step {o : Oper} (hg : Gok ops n L o.guard) (hd : o.dst = some t) (ht : Nat.blt t n = true)
    (h:∀ ev:Operand→Value,(∀ x v,evalL L x=some v→ev x=v)→(execOp ev o).run Tryz.prog w=.ok (.value v) w)
    (k:St n ((t,v) :: L) ops Q rest w):St n L ops Q (o :: rest) w:=fun a hF =>
  wpList_step fun K hK=>by
    rw [if_pos (hg.on hF)]
    unfold Oper.wp
    rw [h a.eval (fun x v e=>hF.ev e),Oper.upon_value,hd]
    exact hK _ _ (k _ (hF.put ht))
theorem so {op : Op} (hs : (ops[g]?).bind (fun o : Oper => o.dst) = some tg) (htg : Nat.blt tg n = true) (hv : L.lookup tg = some u) (hu : (match u with | .bool b => b == want | _ => false) = false) (ht : Nat.blt t n = true)
    (k:St n ((t,undef) :: L) ops Q rest w):St n L ops Q (⟨some t,op,ty,pos,aft,some (g,want)⟩ :: rest) w:=fun a hF =>
  fr_off hF rfl rfl hs htg hv hu ht k
theorem sm (hg : Gok ops n L gd) (hx : evalL L x = some (v)) (ht : Nat.blt t n = true)
    (k:St n ((t,v) :: L) ops Q rest w):St n L ops Q (⟨some t,.move x,ty,pos,aft,gd⟩ :: rest) w :=
  s_step hg rfl ht (fun ev hev=>by have e:=hev _ _ hx;simp [go_sem,e]) k
theorem sa (hg : Gok ops n L gd) (hx : evalL L x = some (v)) (ht : Nat.blt t n = true)
    (k:St n ((t,v) :: L) ops Q rest w):St n L ops Q (⟨some t,.assign x,ty,pos,aft,gd⟩ :: rest) w :=
  s_step hg rfl ht (fun ev hev=>by have e:=hev _ _ hx;simp [go_sem,e]) k
theorem sn (hg : Gok ops n L gd) (hx : evalL L x = some (.bool b)) (ht : Nat.blt t n = true)
    (k:St n ((t,.bool (!b)) :: L) ops Q rest w):St n L ops Q (⟨some t,.unOp .not ty2 x,ty,pos,aft,gd⟩ :: rest) w :=
  s_step hg rfl ht (fun ev hev=>by have e:=hev _ _ hx;simp [go_sem,e]) k
theorem sp (hg : Gok ops n L gd) (hx : evalL L x = some (.bool true)) (hy : evalL L y = some (v)) (ht : Nat.blt t n = true)
    (k:St n ((t,v) :: L) ops Q rest w):St n L ops Q (⟨some t,.pick x y z,ty,pos,aft,gd⟩ :: rest) w :=
  s_step hg rfl ht (fun ev hev=>by have e:=hev _ _ hx;have e2:=hev _ _ hy;simp [go_sem,e,e2]) k
theorem spf (hg : Gok ops n L gd) (hx : evalL L x = some (.bool false)) (hz : evalL L z = some (v)) (ht : Nat.blt t n = true)
    (k:St n ((t,v) :: L) ops Q rest w):St n L ops Q (⟨some t,.pick x y z,ty,pos,aft,gd⟩ :: rest) w :=
  s_step hg rfl ht (fun ev hev=>by have e:=hev _ _ hx;have e2:=hev _ _ hz;simp [go_sem,e,e2]) k
theorem seq {p q : Int} (hg : Gok ops n L gd) (hx : evalL L x = some (.int .i64 p)) (hy : evalL L y = some (.int .i64 q)) (ht : Nat.blt t n = true)
    (k:St n ((t,.bool (p == q)) :: L) ops Q rest w):St n L ops Q (⟨some t,.binOp .eql 3 x y 3,ty,pos,aft,gd⟩ :: rest) w :=
  s_step hg rfl ht (fun ev hev=>by have e:=hev _ _ hx;have e2:=hev _ _ hy;simp [go_sem,e,e2]) k
theorem sne {p q : Int} (hg : Gok ops n L gd) (hx : evalL L x = some (.int .i64 p)) (hy : evalL L y = some (.int .i64 q)) (ht : Nat.blt t n = true)
    (k:St n ((t,.bool (p != q)) :: L) ops Q rest w):St n L ops Q (⟨some t,.binOp .neq 3 x y 3,ty,pos,aft,gd⟩ :: rest) w :=
  s_step hg rfl ht (fun ev hev=>by have e:=hev _ _ hx;have e2:=hev _ _ hy;simp [go_sem,e,e2]) k
theorem slt {p q : Int} (hg : Gok ops n L gd) (hx : evalL L x = some (.int .i64 p)) (hy : evalL L y = some (.int .i64 q)) (ht : Nat.blt t n = true)
    (k:St n ((t,.bool (decide (p < q))) :: L) ops Q rest w):St n L ops Q (⟨some t,.binOp .lss 3 x y 3,ty,pos,aft,gd⟩ :: rest) w :=
  s_step hg rfl ht (fun ev hev=>by have e:=hev _ _ hx;have e2:=hev _ _ hy;simp [go_sem,e,e2]) k
theorem sgt {p q : Int} (hg : Gok ops n L gd) (hx : evalL L x = some (.int .i64 p)) (hy : evalL L y = some (.int .i64 q)) (ht : Nat.blt t n = true)
    (k:St n ((t,.bool (decide (q < p))) :: L) ops Q rest w):St n L ops Q (⟨some t,.binOp .gtr 3 x y 3,ty,pos,aft,gd⟩ :: rest) w :=
  s_step hg rfl ht (fun ev hev=>by have e:=hev _ _ hx;have e2:=hev _ _ hy;simp [go_sem,e,e2]) k
theorem sge {p q : Int} (hg : Gok ops n L gd) (hx : evalL L x = some (.int .i64 p)) (hy : evalL L y = some (.int .i64 q)) (ht : Nat.blt t n = true)
    (k:St n ((t,.bool (decide (q≤p))) :: L) ops Q rest w):St n L ops Q (⟨some t,.binOp .geq 3 x y 3,ty,pos,aft,gd⟩ :: rest) w :=
  s_step hg rfl ht (fun ev hev=>by have e:=hev _ _ hx;have e2:=hev _ _ hy;simp [go_sem,e,e2]) k
theorem seq6 {p q : Int} (hg : Gok ops n L gd) (hx : evalL L x = some (.int .i64 p)) (hy : evalL L y = some (.int .i64 q)) (ht : Nat.blt t n = true)
    (k:St n ((t,.bool (p == q)) :: L) ops Q rest w):St n L ops Q (⟨some t,.binOp .eql 2 x y 2,ty,pos,aft,gd⟩ :: rest) w :=
  s_step hg rfl ht (fun ev hev=>by have e:=hev _ _ hx;have e2:=hev _ _ hy;simp [go_sem,e,e2]) k
theorem sne6 {p q : Int} (hg : Gok ops n L gd) (hx : evalL L x = some (.int .i64 p)) (hy : evalL L y = some (.int .i64 q)) (ht : Nat.blt t n = true)
    (k:St n ((t,.bool (p != q)) :: L) ops Q rest w):St n L ops Q (⟨some t,.binOp .neq 2 x y 2,ty,pos,aft,gd⟩ :: rest) w :=
  s_step hg rfl ht (fun ev hev=>by have e:=hev _ _ hx;have e2:=hev _ _ hy;simp [go_sem,e,e2]) k
theorem sad {q : Nat} (hq : q < 4611686018427387904) (hg : Gok ops n L gd) (hx : evalL L x = some (.int .i64 (q : Int))) (hy : evalL L y = some (.int .i64 1)) (ht : Nat.blt t n = true)
    (k:St n ((t,.int .i64 ((q:Int) + 1)) :: L) ops Q rest w):St n L ops Q (⟨some t,.binOp .add 3 x y 3,ty,pos,aft,gd⟩ :: rest) w :=
  s_step hg rfl ht (fun ev hev=>by have e:=hev _ _ hx;have e2:=hev _ _ hy;have e3:=wrap_succ q hq;simp [go_sem,e,e2,e3]) k
theorem slInts {p : Option Addr} {m c : Nat} (hg : Gok ops n L gd) (hx : evalL L x = some (.slice p m c)) (ht : Nat.blt t n = true)
    (k:St n ((t,.int .i64 (m:Int)) :: L) ops Q rest w):St n L ops Q (⟨some t,.call { callee:=.builtin .len,args:=#[x],argTypes:=#[39] },3,pos,aft,gd⟩ :: rest) w :=
  s_step hg rfl ht (fun ev hev=>by have e:=hev _ _ hx;simp [go_sem,e]) k
theorem slTypes {p : Option Addr} {m c : Nat} (hg : Gok ops n L gd) (hx : evalL L x = some (.slice p m c)) (ht : Nat.blt t n = true)
    (k:St n ((t,.int .i64 (m:Int)) :: L) ops Q rest w):St n L ops Q (⟨some t,.call { callee:=.builtin .len,args:=#[x],argTypes:=#[35] },3,pos,aft,gd⟩ :: rest) w :=
  s_step hg rfl ht (fun ev hev=>by have e:=hev _ _ hx;simp [go_sem,e]) k
theorem siTypes {p : Option Addr} {m c q B j : Nat} (hp : p = some ⟨B, j, none⟩) (hq : q < m) (hg : Gok ops n L gd) (hx : evalL L x = some (.slice p m c)) (hy : evalL L y = some (.int .i64 (q : Int))) (ht : Nat.blt t n = true)
    (k:St n ((t,.pointer (some ⟨B,j + q * 3,none⟩)) :: L) ops Q rest w):St n L ops Q (⟨some t,.indexAddr 35 x y,ty,pos,aft,gd⟩ :: rest) w :=
  s_step hg rfl ht (fun ev hev=>by have e:=hev _ _ hx;have e2:=hev _ _ hy;have h0:=Int.natCast_nonneg q;have h1:=Int.ofNat_lt.2 hq;subst hp;simp [go_sem,e,e2,h0,h1,hq]) k
theorem slInss {p : Option Addr} {m c : Nat} (hg : Gok ops n L gd) (hx : evalL L x = some (.slice p m c)) (ht : Nat.blt t n = true)
    (k:St n ((t,.int .i64 (m:Int)) :: L) ops Q rest w):St n L ops Q (⟨some t,.call { callee:=.builtin .len,args:=#[x],argTypes:=#[42] },3,pos,aft,gd⟩ :: rest) w :=
  s_step hg rfl ht (fun ev hev=>by have e:=hev _ _ hx;simp [go_sem,e]) k
theorem siInss {p : Option Addr} {m c q B j : Nat} (hp : p = some ⟨B, j, none⟩) (hq : q < m) (hg : Gok ops n L gd) (hx : evalL L x = some (.slice p m c)) (hy : evalL L y = some (.int .i64 (q : Int))) (ht : Nat.blt t n = true)
    (k:St n ((t,.pointer (some ⟨B,j + q * 8,none⟩)) :: L) ops Q rest w):St n L ops Q (⟨some t,.indexAddr 42 x y,ty,pos,aft,gd⟩ :: rest) w :=
  s_step hg rfl ht (fun ev hev=>by have e:=hev _ _ hx;have e2:=hev _ _ hy;have h0:=Int.natCast_nonneg q;have h1:=Int.ofNat_lt.2 hq;subst hp;simp [go_sem,e,e2,h0,h1,hq]) k
theorem slBlocks {p : Option Addr} {m c : Nat} (hg : Gok ops n L gd) (hx : evalL L x = some (.slice p m c)) (ht : Nat.blt t n = true)
    (k:St n ((t,.int .i64 (m:Int)) :: L) ops Q rest w):St n L ops Q (⟨some t,.call { callee:=.builtin .len,args:=#[x],argTypes:=#[36] },3,pos,aft,gd⟩ :: rest) w :=
  s_step hg rfl ht (fun ev hev=>by have e:=hev _ _ hx;simp [go_sem,e]) k
theorem siBlocks {p : Option Addr} {m c q B j : Nat} (hp : p = some ⟨B, j, none⟩) (hq : q < m) (hg : Gok ops n L gd) (hx : evalL L x = some (.slice p m c)) (hy : evalL L y = some (.int .i64 (q : Int))) (ht : Nat.blt t n = true)
    (k:St n ((t,.pointer (some ⟨B,j + q * 12,none⟩)) :: L) ops Q rest w):St n L ops Q (⟨some t,.indexAddr 36 x y,ty,pos,aft,gd⟩ :: rest) w :=
  s_step hg rfl ht (fun ev hev=>by have e:=hev _ _ hx;have e2:=hev _ _ hy;have h0:=Int.natCast_nonneg q;have h1:=Int.ofNat_lt.2 hq;subst hp;simp [go_sem,e,e2,h0,h1,hq]) k
theorem slFuncs {p : Option Addr} {m c : Nat} (hg : Gok ops n L gd) (hx : evalL L x = some (.slice p m c)) (ht : Nat.blt t n = true)
    (k:St n ((t,.int .i64 (m:Int)) :: L) ops Q rest w):St n L ops Q (⟨some t,.call { callee:=.builtin .len,args:=#[x],argTypes:=#[23] },3,pos,aft,gd⟩ :: rest) w :=
  s_step hg rfl ht (fun ev hev=>by have e:=hev _ _ hx;simp [go_sem,e]) k
theorem siFuncs {p : Option Addr} {m c q B j : Nat} (hp : p = some ⟨B, j, none⟩) (hq : q < m) (hg : Gok ops n L gd) (hx : evalL L x = some (.slice p m c)) (hy : evalL L y = some (.int .i64 (q : Int))) (ht : Nat.blt t n = true)
    (k:St n ((t,.pointer (some ⟨B,j + q * 4,none⟩)) :: L) ops Q rest w):St n L ops Q (⟨some t,.indexAddr 23 x y,ty,pos,aft,gd⟩ :: rest) w :=
  s_step hg rfl ht (fun ev hev=>by have e:=hev _ _ hx;have e2:=hev _ _ hy;have h0:=Int.natCast_nonneg q;have h1:=Int.ofNat_lt.2 hq;subst hp;simp [go_sem,e,e2,h0,h1,hq]) k
theorem sfType0 {B j : Nat} (hg : Gok ops n L gd) (hx : evalL L x = some (.pointer (some ⟨B, j, none⟩))) (ht : Nat.blt t n = true)
    (k:St n ((t,.pointer (some ⟨B,j,none⟩)) :: L) ops Q rest w):St n L ops Q (⟨some t,.fieldAddr 74 x 0,ty,pos,aft,gd⟩ :: rest) w :=
  s_step hg rfl ht (fun ev hev=>by have e:=hev _ _ hx;simp [go_sem,e]) k
theorem sfIns0 {B j : Nat} (hg : Gok ops n L gd) (hx : evalL L x = some (.pointer (some ⟨B, j, none⟩))) (ht : Nat.blt t n = true)
    (k:St n ((t,.pointer (some ⟨B,j,none⟩)) :: L) ops Q rest w):St n L ops Q (⟨some t,.fieldAddr 41 x 0,ty,pos,aft,gd⟩ :: rest) w :=
  s_step hg rfl ht (fun ev hev=>by have e:=hev _ _ hx;simp [go_sem,e]) k
theorem sfIns1 {B j : Nat} (hg : Gok ops n L gd) (hx : evalL L x = some (.pointer (some ⟨B, j, none⟩))) (ht : Nat.blt t n = true)
    (k:St n ((t,.pointer (some ⟨B,j + 1,none⟩)) :: L) ops Q rest w):St n L ops Q (⟨some t,.fieldAddr 41 x 1,ty,pos,aft,gd⟩ :: rest) w :=
  s_step hg rfl ht (fun ev hev=>by have e:=hev _ _ hx;simp [go_sem,e]) k
theorem sfIns2 {B j : Nat} (hg : Gok ops n L gd) (hx : evalL L x = some (.pointer (some ⟨B, j, none⟩))) (ht : Nat.blt t n = true)
    (k:St n ((t,.pointer (some ⟨B,j + 2,none⟩)) :: L) ops Q rest w):St n L ops Q (⟨some t,.fieldAddr 41 x 2,ty,pos,aft,gd⟩ :: rest) w :=
  s_step hg rfl ht (fun ev hev=>by have e:=hev _ _ hx;simp [go_sem,e]) k
theorem sfIns3 {B j : Nat} (hg : Gok ops n L gd) (hx : evalL L x = some (.pointer (some ⟨B, j, none⟩))) (ht : Nat.blt t n = true)
    (k:St n ((t,.pointer (some ⟨B,j + 3,none⟩)) :: L) ops Q rest w):St n L ops Q (⟨some t,.fieldAddr 41 x 3,ty,pos,aft,gd⟩ :: rest) w :=
  s_step hg rfl ht (fun ev hev=>by have e:=hev _ _ hx;simp [go_sem,e]) k
theorem sfIns4 {B j : Nat} (hg : Gok ops n L gd) (hx : evalL L x = some (.pointer (some ⟨B, j, none⟩))) (ht : Nat.blt t n = true)
    (k:St n ((t,.pointer (some ⟨B,j + 4,none⟩)) :: L) ops Q rest w):St n L ops Q (⟨some t,.fieldAddr 41 x 4,ty,pos,aft,gd⟩ :: rest) w :=
  s_step hg rfl ht (fun ev hev=>by have e:=hev _ _ hx;simp [go_sem,e]) k
theorem sfIns5 {B j : Nat} (hg : Gok ops n L gd) (hx : evalL L x = some (.pointer (some ⟨B, j, none⟩))) (ht : Nat.blt t n = true)
    (k:St n ((t,.pointer (some ⟨B,j + 5,none⟩)) :: L) ops Q rest w):St n L ops Q (⟨some t,.fieldAddr 41 x 5,ty,pos,aft,gd⟩ :: rest) w :=
  s_step hg rfl ht (fun ev hev=>by have e:=hev _ _ hx;simp [go_sem,e]) k
theorem sfIns6 {B j : Nat} (hg : Gok ops n L gd) (hx : evalL L x = some (.pointer (some ⟨B, j, none⟩))) (ht : Nat.blt t n = true)
    (k:St n ((t,.pointer (some ⟨B,j + 6,none⟩)) :: L) ops Q rest w):St n L ops Q (⟨some t,.fieldAddr 41 x 6,ty,pos,aft,gd⟩ :: rest) w :=
  s_step hg rfl ht (fun ev hev=>by have e:=hev _ _ hx;simp [go_sem,e]) k
theorem sfIns7 {B j : Nat} (hg : Gok ops n L gd) (hx : evalL L x = some (.pointer (some ⟨B, j, none⟩))) (ht : Nat.blt t n = true)
    (k:St n ((t,.pointer (some ⟨B,j + 7,none⟩)) :: L) ops Q rest w):St n L ops Q (⟨some t,.fieldAddr 41 x 7,ty,pos,aft,gd⟩ :: rest) w :=
  s_step hg rfl ht (fun ev hev=>by have e:=hev _ _ hx;simp [go_sem,e]) k
theorem sfTo0 {B j : Nat} (hg : Gok ops n L gd) (hx : evalL L x = some (.pointer (some ⟨B, j, none⟩))) (ht : Nat.blt t n = true)
    (k:St n ((t,.pointer (some ⟨B,j,none⟩)) :: L) ops Q rest w):St n L ops Q (⟨some t,.fieldAddr 44 x 0,ty,pos,aft,gd⟩ :: rest) w :=
  s_step hg rfl ht (fun ev hev=>by have e:=hev _ _ hx;simp [go_sem,e]) k
theorem sfTo1 {B j : Nat} (hg : Gok ops n L gd) (hx : evalL L x = some (.pointer (some ⟨B, j, none⟩))) (ht : Nat.blt t n = true)
    (k:St n ((t,.pointer (some ⟨B,j + 1,none⟩)) :: L) ops Q rest w):St n L ops Q (⟨some t,.fieldAddr 44 x 1,ty,pos,aft,gd⟩ :: rest) w :=
  s_step hg rfl ht (fun ev hev=>by have e:=hev _ _ hx;simp [go_sem,e]) k
theorem sfTo2 {B j : Nat} (hg : Gok ops n L gd) (hx : evalL L x = some (.pointer (some ⟨B, j, none⟩))) (ht : Nat.blt t n = true)
    (k:St n ((t,.pointer (some ⟨B,j + 2,none⟩)) :: L) ops Q rest w):St n L ops Q (⟨some t,.fieldAddr 44 x 2,ty,pos,aft,gd⟩ :: rest) w :=
  s_step hg rfl ht (fun ev hev=>by have e:=hev _ _ hx;simp [go_sem,e]) k
theorem sfEnd0 {B j : Nat} (hg : Gok ops n L gd) (hx : evalL L x = some (.pointer (some ⟨B, j, none⟩))) (ht : Nat.blt t n = true)
    (k:St n ((t,.pointer (some ⟨B,j,none⟩)) :: L) ops Q rest w):St n L ops Q (⟨some t,.fieldAddr 46 x 0,ty,pos,aft,gd⟩ :: rest) w :=
  s_step hg rfl ht (fun ev hev=>by have e:=hev _ _ hx;simp [go_sem,e]) k
theorem sfEnd1 {B j : Nat} (hg : Gok ops n L gd) (hx : evalL L x = some (.pointer (some ⟨B, j, none⟩))) (ht : Nat.blt t n = true)
    (k:St n ((t,.pointer (some ⟨B,j + 1,none⟩)) :: L) ops Q rest w):St n L ops Q (⟨some t,.fieldAddr 46 x 1,ty,pos,aft,gd⟩ :: rest) w :=
  s_step hg rfl ht (fun ev hev=>by have e:=hev _ _ hx;simp [go_sem,e]) k
theorem sfEnd2 {B j : Nat} (hg : Gok ops n L gd) (hx : evalL L x = some (.pointer (some ⟨B, j, none⟩))) (ht : Nat.blt t n = true)
    (k:St n ((t,.pointer (some ⟨B,j + 2,none⟩)) :: L) ops Q rest w):St n L ops Q (⟨some t,.fieldAddr 46 x 2,ty,pos,aft,gd⟩ :: rest) w :=
  s_step hg rfl ht (fun ev hev=>by have e:=hev _ _ hx;simp [go_sem,e]) k
theorem sfEnd3 {B j : Nat} (hg : Gok ops n L gd) (hx : evalL L x = some (.pointer (some ⟨B, j, none⟩))) (ht : Nat.blt t n = true)
    (k:St n ((t,.pointer (some ⟨B,j + 5,none⟩)) :: L) ops Q rest w):St n L ops Q (⟨some t,.fieldAddr 46 x 3,ty,pos,aft,gd⟩ :: rest) w :=
  s_step hg rfl ht (fun ev hev=>by have e:=hev _ _ hx;simp [go_sem,e]) k
theorem sfEnd4 {B j : Nat} (hg : Gok ops n L gd) (hx : evalL L x = some (.pointer (some ⟨B, j, none⟩))) (ht : Nat.blt t n = true)
    (k:St n ((t,.pointer (some ⟨B,j + 8,none⟩)) :: L) ops Q rest w):St n L ops Q (⟨some t,.fieldAddr 46 x 4,ty,pos,aft,gd⟩ :: rest) w :=
  s_step hg rfl ht (fun ev hev=>by have e:=hev _ _ hx;simp [go_sem,e]) k
theorem sfBlock0 {B j : Nat} (hg : Gok ops n L gd) (hx : evalL L x = some (.pointer (some ⟨B, j, none⟩))) (ht : Nat.blt t n = true)
    (k:St n ((t,.pointer (some ⟨B,j,none⟩)) :: L) ops Q rest w):St n L ops Q (⟨some t,.fieldAddr 48 x 0,ty,pos,aft,gd⟩ :: rest) w :=
  s_step hg rfl ht (fun ev hev=>by have e:=hev _ _ hx;simp [go_sem,e]) k
theorem sfBlock1 {B j : Nat} (hg : Gok ops n L gd) (hx : evalL L x = some (.pointer (some ⟨B, j, none⟩))) (ht : Nat.blt t n = true)
    (k:St n ((t,.pointer (some ⟨B,j + 1,none⟩)) :: L) ops Q rest w):St n L ops Q (⟨some t,.fieldAddr 48 x 1,ty,pos,aft,gd⟩ :: rest) w :=
  s_step hg rfl ht (fun ev hev=>by have e:=hev _ _ hx;simp [go_sem,e]) k
theorem sfBlock2 {B j : Nat} (hg : Gok ops n L gd) (hx : evalL L x = some (.pointer (some ⟨B, j, none⟩))) (ht : Nat.blt t n = true)
    (k:St n ((t,.pointer (some ⟨B,j + 2,none⟩)) :: L) ops Q rest w):St n L ops Q (⟨some t,.fieldAddr 48 x 2,ty,pos,aft,gd⟩ :: rest) w :=
  s_step hg rfl ht (fun ev hev=>by have e:=hev _ _ hx;simp [go_sem,e]) k
theorem sfBlock3 {B j : Nat} (hg : Gok ops n L gd) (hx : evalL L x = some (.pointer (some ⟨B, j, none⟩))) (ht : Nat.blt t n = true)
    (k:St n ((t,.pointer (some ⟨B,j + 3,none⟩)) :: L) ops Q rest w):St n L ops Q (⟨some t,.fieldAddr 48 x 3,ty,pos,aft,gd⟩ :: rest) w :=
  s_step hg rfl ht (fun ev hev=>by have e:=hev _ _ hx;simp [go_sem,e]) k
theorem sfFunc0 {B j : Nat} (hg : Gok ops n L gd) (hx : evalL L x = some (.pointer (some ⟨B, j, none⟩))) (ht : Nat.blt t n = true)
    (k:St n ((t,.pointer (some ⟨B,j,none⟩)) :: L) ops Q rest w):St n L ops Q (⟨some t,.fieldAddr 38 x 0,ty,pos,aft,gd⟩ :: rest) w :=
  s_step hg rfl ht (fun ev hev=>by have e:=hev _ _ hx;simp [go_sem,e]) k
theorem sfFunc1 {B j : Nat} (hg : Gok ops n L gd) (hx : evalL L x = some (.pointer (some ⟨B, j, none⟩))) (ht : Nat.blt t n = true)
    (k:St n ((t,.pointer (some ⟨B,j + 1,none⟩)) :: L) ops Q rest w):St n L ops Q (⟨some t,.fieldAddr 38 x 1,ty,pos,aft,gd⟩ :: rest) w :=
  s_step hg rfl ht (fun ev hev=>by have e:=hev _ _ hx;simp [go_sem,e]) k
theorem sfFunc2 {B j : Nat} (hg : Gok ops n L gd) (hx : evalL L x = some (.pointer (some ⟨B, j, none⟩))) (ht : Nat.blt t n = true)
    (k:St n ((t,.pointer (some ⟨B,j + 2,none⟩)) :: L) ops Q rest w):St n L ops Q (⟨some t,.fieldAddr 38 x 2,ty,pos,aft,gd⟩ :: rest) w :=
  s_step hg rfl ht (fun ev hev=>by have e:=hev _ _ hx;simp [go_sem,e]) k
theorem sfFunc3 {B j : Nat} (hg : Gok ops n L gd) (hx : evalL L x = some (.pointer (some ⟨B, j, none⟩))) (ht : Nat.blt t n = true)
    (k:St n ((t,.pointer (some ⟨B,j + 3,none⟩)) :: L) ops Q rest w):St n L ops Q (⟨some t,.fieldAddr 38 x 3,ty,pos,aft,gd⟩ :: rest) w :=
  s_step hg rfl ht (fun ev hev=>by have e:=hev _ _ hx;simp [go_sem,e]) k
theorem sfModule0 {B j : Nat} (hg : Gok ops n L gd) (hx : evalL L x = some (.pointer (some ⟨B, j, none⟩))) (ht : Nat.blt t n = true)
    (k:St n ((t,.pointer (some ⟨B,j,none⟩)) :: L) ops Q rest w):St n L ops Q (⟨some t,.fieldAddr 25 x 0,ty,pos,aft,gd⟩ :: rest) w :=
  s_step hg rfl ht (fun ev hev=>by have e:=hev _ _ hx;simp [go_sem,e]) k
theorem sfFault0 {B j : Nat} (hg : Gok ops n L gd) (hx : evalL L x = some (.pointer (some ⟨B, j, none⟩))) (ht : Nat.blt t n = true)
    (k:St n ((t,.pointer (some ⟨B,j,none⟩)) :: L) ops Q rest w):St n L ops Q (⟨some t,.fieldAddr 27 x 0,ty,pos,aft,gd⟩ :: rest) w :=
  s_step hg rfl ht (fun ev hev=>by have e:=hev _ _ hx;simp [go_sem,e]) k
theorem sfFields0 {B j : Nat} (hg : Gok ops n L gd) (hx : evalL L x = some (.pointer (some ⟨B, j, none⟩))) (ht : Nat.blt t n = true)
    (k:St n ((t,.pointer (some ⟨B,j,none⟩)) :: L) ops Q rest w):St n L ops Q (⟨some t,.fieldAddr 124 x 0,ty,pos,aft,gd⟩ :: rest) w :=
  s_step hg rfl ht (fun ev hev=>by have e:=hev _ _ hx;simp [go_sem,e]) k
theorem sfFields1 {B j : Nat} (hg : Gok ops n L gd) (hx : evalL L x = some (.pointer (some ⟨B, j, none⟩))) (ht : Nat.blt t n = true)
    (k:St n ((t,.pointer (some ⟨B,j + 1,none⟩)) :: L) ops Q rest w):St n L ops Q (⟨some t,.fieldAddr 124 x 1,ty,pos,aft,gd⟩ :: rest) w :=
  s_step hg rfl ht (fun ev hev=>by have e:=hev _ _ hx;simp [go_sem,e]) k
theorem sfFields2 {B j : Nat} (hg : Gok ops n L gd) (hx : evalL L x = some (.pointer (some ⟨B, j, none⟩))) (ht : Nat.blt t n = true)
    (k:St n ((t,.pointer (some ⟨B,j + 2,none⟩)) :: L) ops Q rest w):St n L ops Q (⟨some t,.fieldAddr 124 x 2,ty,pos,aft,gd⟩ :: rest) w :=
  s_step hg rfl ht (fun ev hev=>by have e:=hev _ _ hx;simp [go_sem,e]) k
theorem sfFields3 {B j : Nat} (hg : Gok ops n L gd) (hx : evalL L x = some (.pointer (some ⟨B, j, none⟩))) (ht : Nat.blt t n = true)
    (k:St n ((t,.pointer (some ⟨B,j + 3,none⟩)) :: L) ops Q rest w):St n L ops Q (⟨some t,.fieldAddr 124 x 3,ty,pos,aft,gd⟩ :: rest) w :=
  s_step hg rfl ht (fun ev hev=>by have e:=hev _ _ hx;simp [go_sem,e]) k
theorem sfFields4 {B j : Nat} (hg : Gok ops n L gd) (hx : evalL L x = some (.pointer (some ⟨B, j, none⟩))) (ht : Nat.blt t n = true)
    (k:St n ((t,.pointer (some ⟨B,j + 4,none⟩)) :: L) ops Q rest w):St n L ops Q (⟨some t,.fieldAddr 124 x 4,ty,pos,aft,gd⟩ :: rest) w :=
  s_step hg rfl ht (fun ev hev=>by have e:=hev _ _ hx;simp [go_sem,e]) k
theorem sfFields5 {B j : Nat} (hg : Gok ops n L gd) (hx : evalL L x = some (.pointer (some ⟨B, j, none⟩))) (ht : Nat.blt t n = true)
    (k:St n ((t,.pointer (some ⟨B,j + 5,none⟩)) :: L) ops Q rest w):St n L ops Q (⟨some t,.fieldAddr 124 x 5,ty,pos,aft,gd⟩ :: rest) w :=
  s_step hg rfl ht (fun ev hev=>by have e:=hev _ _ hx;simp [go_sem,e]) k
theorem sfFields6 {B j : Nat} (hg : Gok ops n L gd) (hx : evalL L x = some (.pointer (some ⟨B, j, none⟩))) (ht : Nat.blt t n = true)
    (k:St n ((t,.pointer (some ⟨B,j + 6,none⟩)) :: L) ops Q rest w):St n L ops Q (⟨some t,.fieldAddr 124 x 6,ty,pos,aft,gd⟩ :: rest) w :=
  s_step hg rfl ht (fun ev hev=>by have e:=hev _ _ hx;simp [go_sem,e]) k
theorem sffuncLook1 {B j : Nat} (hg : Gok ops n L gd) (hx : evalL L x = some (.pointer (some ⟨B, j, none⟩))) (ht : Nat.blt t n = true)
    (k:St n ((t,.pointer (some ⟨B,j + 1,none⟩)) :: L) ops Q rest w):St n L ops Q (⟨some t,.fieldAddr 89 x 1,ty,pos,aft,gd⟩ :: rest) w :=
  s_step hg rfl ht (fun ev hev=>by have e:=hev _ _ hx;simp [go_sem,e]) k
theorem sffuncLook2 {B j : Nat} (hg : Gok ops n L gd) (hx : evalL L x = some (.pointer (some ⟨B, j, none⟩))) (ht : Nat.blt t n = true)
    (k:St n ((t,.pointer (some ⟨B,j + 5,none⟩)) :: L) ops Q rest w):St n L ops Q (⟨some t,.fieldAddr 89 x 2,ty,pos,aft,gd⟩ :: rest) w :=
  s_step hg rfl ht (fun ev hev=>by have e:=hev _ _ hx;simp [go_sem,e]) k
theorem sfblockLook0 {B j : Nat} (hg : Gok ops n L gd) (hx : evalL L x = some (.pointer (some ⟨B, j, none⟩))) (ht : Nat.blt t n = true)
    (k:St n ((t,.pointer (some ⟨B,j,none⟩)) :: L) ops Q rest w):St n L ops Q (⟨some t,.fieldAddr 116 x 0,ty,pos,aft,gd⟩ :: rest) w :=
  s_step hg rfl ht (fun ev hev=>by have e:=hev _ _ hx;simp [go_sem,e]) k
theorem sfblockLook1 {B j : Nat} (hg : Gok ops n L gd) (hx : evalL L x = some (.pointer (some ⟨B, j, none⟩))) (ht : Nat.blt t n = true)
    (k:St n ((t,.pointer (some ⟨B,j + 6,none⟩)) :: L) ops Q rest w):St n L ops Q (⟨some t,.fieldAddr 116 x 1,ty,pos,aft,gd⟩ :: rest) w :=
  s_step hg rfl ht (fun ev hev=>by have e:=hev _ _ hx;simp [go_sem,e]) k
theorem sfblockLook2 {B j : Nat} (hg : Gok ops n L gd) (hx : evalL L x = some (.pointer (some ⟨B, j, none⟩))) (ht : Nat.blt t n = true)
    (k:St n ((t,.pointer (some ⟨B,j + 18,none⟩)) :: L) ops Q rest w):St n L ops Q (⟨some t,.fieldAddr 116 x 2,ty,pos,aft,gd⟩ :: rest) w :=
  s_step hg rfl ht (fun ev hev=>by have e:=hev _ _ hx;simp [go_sem,e]) k
theorem scInt {B j : Nat} (hc : w.cell? ⟨B, j, none⟩ = some v) (hg : Gok ops n L gd) (hx : evalL L x = some (.pointer (some ⟨B, j, none⟩))) (ht : Nat.blt t n = true)
    (k:St n ((t,v) :: L) ops Q rest w):St n L ops Q (⟨some t,.load 3 x,ty,pos,aft,gd⟩ :: rest) w :=
  s_step hg rfl ht (fun ev hev=>by have e:=hev _ _ hx;simp [go_sem,e,hc]) k
theorem sbInt (i : Nat) {B j : Nat} {c : Array Value} {bt : TypeId} (hW : Wd w0 w Bs) (hg : Gok ops n L gd) (hx : evalL L x = some (.pointer (some ⟨B, j, none⟩))) (hb : Bs[i]? = some (B, c, bt)) (hc : c[j]? = some v) (ht : Nat.blt t n = true)
    (k:St n ((t,v) :: L) ops Q rest w):St n L ops Q (⟨some t,.load 3 x,ty,pos,aft,gd⟩ :: rest) w:=scInt (cellOf (hW.get i hb) j v hc) hg hx ht k
theorem scInt6 {B j : Nat} (hc : w.cell? ⟨B, j, none⟩ = some v) (hg : Gok ops n L gd) (hx : evalL L x = some (.pointer (some ⟨B, j, none⟩))) (ht : Nat.blt t n = true)
    (k:St n ((t,v) :: L) ops Q rest w):St n L ops Q (⟨some t,.load 2 x,ty,pos,aft,gd⟩ :: rest) w :=
  s_step hg rfl ht (fun ev hev=>by have e:=hev _ _ hx;simp [go_sem,e,hc]) k
theorem sbInt6 (i : Nat) {B j : Nat} {c : Array Value} {bt : TypeId} (hW : Wd w0 w Bs) (hg : Gok ops n L gd) (hx : evalL L x = some (.pointer (some ⟨B, j, none⟩))) (hb : Bs[i]? = some (B, c, bt)) (hc : c[j]? = some v) (ht : Nat.blt t n = true)
    (k:St n ((t,v) :: L) ops Q rest w):St n L ops Q (⟨some t,.load 2 x,ty,pos,aft,gd⟩ :: rest) w:=scInt6 (cellOf (hW.get i hb) j v hc) hg hx ht k
theorem scBool {B j : Nat} (hc : w.cell? ⟨B, j, none⟩ = some v) (hg : Gok ops n L gd) (hx : evalL L x = some (.pointer (some ⟨B, j, none⟩))) (ht : Nat.blt t n = true)
    (k:St n ((t,v) :: L) ops Q rest w):St n L ops Q (⟨some t,.load 4 x,ty,pos,aft,gd⟩ :: rest) w :=
  s_step hg rfl ht (fun ev hev=>by have e:=hev _ _ hx;simp [go_sem,e,hc]) k
theorem sbBool (i : Nat) {B j : Nat} {c : Array Value} {bt : TypeId} (hW : Wd w0 w Bs) (hg : Gok ops n L gd) (hx : evalL L x = some (.pointer (some ⟨B, j, none⟩))) (hb : Bs[i]? = some (B, c, bt)) (hc : c[j]? = some v) (ht : Nat.blt t n = true)
    (k:St n ((t,v) :: L) ops Q rest w):St n L ops Q (⟨some t,.load 4 x,ty,pos,aft,gd⟩ :: rest) w:=scBool (cellOf (hW.get i hb) j v hc) hg hx ht k
theorem scInts {B j : Nat} (hc : w.cell? ⟨B, j, none⟩ = some v) (hg : Gok ops n L gd) (hx : evalL L x = some (.pointer (some ⟨B, j, none⟩))) (ht : Nat.blt t n = true)
    (k:St n ((t,v) :: L) ops Q rest w):St n L ops Q (⟨some t,.load 39 x,ty,pos,aft,gd⟩ :: rest) w :=
  s_step hg rfl ht (fun ev hev=>by have e:=hev _ _ hx;simp [go_sem,e,hc]) k
theorem sbInts (i : Nat) {B j : Nat} {c : Array Value} {bt : TypeId} (hW : Wd w0 w Bs) (hg : Gok ops n L gd) (hx : evalL L x = some (.pointer (some ⟨B, j, none⟩))) (hb : Bs[i]? = some (B, c, bt)) (hc : c[j]? = some v) (ht : Nat.blt t n = true)
    (k:St n ((t,v) :: L) ops Q rest w):St n L ops Q (⟨some t,.load 39 x,ty,pos,aft,gd⟩ :: rest) w:=scInts (cellOf (hW.get i hb) j v hc) hg hx ht k
theorem scTypes {B j : Nat} (hc : w.cell? ⟨B, j, none⟩ = some v) (hg : Gok ops n L gd) (hx : evalL L x = some (.pointer (some ⟨B, j, none⟩))) (ht : Nat.blt t n = true)
    (k:St n ((t,v) :: L) ops Q rest w):St n L ops Q (⟨some t,.load 35 x,ty,pos,aft,gd⟩ :: rest) w :=
  s_step hg rfl ht (fun ev hev=>by have e:=hev _ _ hx;simp [go_sem,e,hc]) k
theorem sbTypes (i : Nat) {B j : Nat} {c : Array Value} {bt : TypeId} (hW : Wd w0 w Bs) (hg : Gok ops n L gd) (hx : evalL L x = some (.pointer (some ⟨B, j, none⟩))) (hb : Bs[i]? = some (B, c, bt)) (hc : c[j]? = some v) (ht : Nat.blt t n = true)
    (k:St n ((t,v) :: L) ops Q rest w):St n L ops Q (⟨some t,.load 35 x,ty,pos,aft,gd⟩ :: rest) w:=scTypes (cellOf (hW.get i hb) j v hc) hg hx ht k
theorem scInss {B j : Nat} (hc : w.cell? ⟨B, j, none⟩ = some v) (hg : Gok ops n L gd) (hx : evalL L x = some (.pointer (some ⟨B, j, none⟩))) (ht : Nat.blt t n = true)
    (k:St n ((t,v) :: L) ops Q rest w):St n L ops Q (⟨some t,.load 42 x,ty,pos,aft,gd⟩ :: rest) w :=
  s_step hg rfl ht (fun ev hev=>by have e:=hev _ _ hx;simp [go_sem,e,hc]) k
theorem sbInss (i : Nat) {B j : Nat} {c : Array Value} {bt : TypeId} (hW : Wd w0 w Bs) (hg : Gok ops n L gd) (hx : evalL L x = some (.pointer (some ⟨B, j, none⟩))) (hb : Bs[i]? = some (B, c, bt)) (hc : c[j]? = some v) (ht : Nat.blt t n = true)
    (k:St n ((t,v) :: L) ops Q rest w):St n L ops Q (⟨some t,.load 42 x,ty,pos,aft,gd⟩ :: rest) w:=scInss (cellOf (hW.get i hb) j v hc) hg hx ht k
theorem scBlocks {B j : Nat} (hc : w.cell? ⟨B, j, none⟩ = some v) (hg : Gok ops n L gd) (hx : evalL L x = some (.pointer (some ⟨B, j, none⟩))) (ht : Nat.blt t n = true)
    (k:St n ((t,v) :: L) ops Q rest w):St n L ops Q (⟨some t,.load 36 x,ty,pos,aft,gd⟩ :: rest) w :=
  s_step hg rfl ht (fun ev hev=>by have e:=hev _ _ hx;simp [go_sem,e,hc]) k
theorem sbBlocks (i : Nat) {B j : Nat} {c : Array Value} {bt : TypeId} (hW : Wd w0 w Bs) (hg : Gok ops n L gd) (hx : evalL L x = some (.pointer (some ⟨B, j, none⟩))) (hb : Bs[i]? = some (B, c, bt)) (hc : c[j]? = some v) (ht : Nat.blt t n = true)
    (k:St n ((t,v) :: L) ops Q rest w):St n L ops Q (⟨some t,.load 36 x,ty,pos,aft,gd⟩ :: rest) w:=scBlocks (cellOf (hW.get i hb) j v hc) hg hx ht k
theorem scFuncs {B j : Nat} (hc : w.cell? ⟨B, j, none⟩ = some v) (hg : Gok ops n L gd) (hx : evalL L x = some (.pointer (some ⟨B, j, none⟩))) (ht : Nat.blt t n = true)
    (k:St n ((t,v) :: L) ops Q rest w):St n L ops Q (⟨some t,.load 23 x,ty,pos,aft,gd⟩ :: rest) w :=
  s_step hg rfl ht (fun ev hev=>by have e:=hev _ _ hx;simp [go_sem,e,hc]) k
theorem sbFuncs (i : Nat) {B j : Nat} {c : Array Value} {bt : TypeId} (hW : Wd w0 w Bs) (hg : Gok ops n L gd) (hx : evalL L x = some (.pointer (some ⟨B, j, none⟩))) (hb : Bs[i]? = some (B, c, bt)) (hc : c[j]? = some v) (ht : Nat.blt t n = true)
    (k:St n ((t,v) :: L) ops Q rest w):St n L ops Q (⟨some t,.load 23 x,ty,pos,aft,gd⟩ :: rest) w:=scFuncs (cellOf (hW.get i hb) j v hc) hg hx ht k
theorem rangeOf {w : World} {B : Nat} {c : Array Value} {t : TypeId} (h : Blk w B c t) (j m : Nat) (hn : Nat.ble (j + m) c.size = true) : w.rangeAt B j ((c.toList.drop j).take m) := fun k v hk => by
  have hlt:k < ((c.toList.drop j).take m).length:=(List.getElem?_eq_some_iff.1 hk).1
  have hm:k < m:=by simp at hlt;omega
  rw [List.getElem?_take,if_pos hm,List.getElem?_drop] at hk
  exact cellOf h (j + k) v (by simpa using hk)
theorem thereOf {w : World} {B : Nat} {c : Array Value} {t : TypeId} (h : Blk w B c t) (j n : Nat) (hn : j + n ≤ c.size) : w.there B j n := fun k hk =>
  ⟨by rw [cellOf h (j + k) c[j + k] (by simp [show j + k < c.size by omega])];rfl,freeOf h (j + k)⟩
theorem rangeAt_bel {w w' : World} {B j : Nat} {cs : List Value} (h : w.rangeAt B j cs) (b : Below w.heap.size w w') : w'.rangeAt B j cs := fun k v hk => bel_cell b (h k v hk)
theorem sSE {d : TypeDesc} {B j : Nat} {cs : List Value} (hu : Tryz.prog.underlying ty2 = some d) (hd : d.isRow = true) (hr : w.rangeAt B j cs) (hi : (Tryz.prog.info? ty2).map (·.size) = some cs.length) (hg : Gok ops n L gd) (hx : evalL L x = some (.pointer (some ⟨B, j, none⟩))) (ht : Nat.blt t n = true)
    (k:St n ((t,.agg cs.toArray) :: L) ops Q rest w):St n L ops Q (⟨some t,.load ty2 x,ty,pos,aft,gd⟩ :: rest) w :=
  s_step hg rfl ht (fun ev hev=>by
    have e:=hev _ _ hx
    have e2:=run_loadAt_mid (P:=Tryz.prog) w B j ty2 cs d hr hu hd hi
    unfold execOp
    simp only [e,Sem.run_bind,e2,Result.andThen_ok,Sem.run_pure]) k
theorem sS {d : TypeDesc} (i m : Nat) {B j : Nat} {c : Array Value} {bt : TypeId} (hu : Tryz.prog.underlying ty2 = some d) (hd : d.isRow = true) (hi : (Tryz.prog.info? ty2).map (·.size) = some m) (hW : Wd w0 w Bs) (hg : Gok ops n L gd) (hx : evalL L x = some (.pointer (some ⟨B, j, none⟩))) (hb : Bs[i]? = some (B, c, bt)) (hn : Nat.ble (j + m) c.size = true) (ht : Nat.blt t n = true)
    (k:St n ((t,.agg ((c.toList.drop j).take m).toArray) :: L) ops Q rest w):St n L ops Q (⟨some t,.load ty2 x,ty,pos,aft,gd⟩ :: rest) w :=
  sSE hu hd (rangeOf (hW.get i hb) j m hn) (by rw [hi];have:j + m≤c.size:=by simpa [Nat.ble_eq] using hn
                                               simp;omega) hg hx ht k
theorem s_new {o : Oper} (c : Array Value) (bt : TypeId) (hW : Wd w0 w Bs) (hd : o.dst = some t) (hg : Gok ops n L o.guard) (ht : Nat.blt t n = true)
    (h:∀ ev:Operand→Value,(∀ x v,evalL L x=some v→ev x=v)→(execOp ev o).run Tryz.prog w=.ok (.value (.pointer (some ⟨w.heap.size,0,none⟩))) (w.alloc (.cells c bt)))
    (k:∀ w' B,Wd w0 w' ((B,c,bt) :: Bs)→New w w' B→St n ((t,.pointer (some ⟨B,0,none⟩)) :: L) ops Q rest w'):St n L ops Q (o :: rest) w:=fun a hF =>
  wpList_step fun K hK=>by
    rw [if_pos (hg.on hF)]
    unfold Oper.wp
    rw [h a.eval (fun x v e=>hF.ev e),Oper.upon_value,hd]
    exact hK _ _ (k _ _ (hW.new' c bt) ⟨bel1 w _,rfl,by simp⟩ _ (hF.put ht))
theorem sB {cs : Array Value} (hW : Wd w0 w Bs) (hg : Gok ops n L gd) (hx : evalL L x = some (.agg cs)) (ht : Nat.blt t n = true)
    (k:∀ w' B,Wd w0 w' ((B,cs,ty2) :: Bs)→New w w' B→St n ((t,.pointer (some ⟨B,0,none⟩)) :: L) ops Q rest w'):St n L ops Q (⟨some t,.box ty2 x,ty,pos,aft,gd⟩ :: rest) w :=
  s_new cs ty2 hW rfl hg ht (fun ev hev=>by have e:=hev _ _ hx;simp [go_sem,e]) k
theorem sAType (hW : Wd w0 w Bs) (hg : Gok ops n L gd) (ht : Nat.blt t n = true)
    (k:∀ w' B,Wd w0 w' ((B,#[.int .i64 0,.int .i64 0,.slice none 0 0],74) :: Bs)→New w w' B→St n ((t,.pointer (some ⟨B,0,none⟩)) :: L) ops Q rest w'):St n L ops Q (⟨some t,.alloc 74,ty,pos,aft,gd⟩ :: rest) w :=
  s_new #[.int .i64 0,.int .i64 0,.slice none 0 0] 74 hW rfl hg ht (fun ev hev=>by simp [go_sem]) k
theorem sAIns (hW : Wd w0 w Bs) (hg : Gok ops n L gd) (ht : Nat.blt t n = true)
    (k:∀ w' B,Wd w0 w' ((B,#[.int .i64 0,.int .i64 0,.int .i64 0,.int .i64 0,.int .i64 0,.int .i64 0,.slice none 0 0,.slice none 0 0],41) :: Bs)→New w w' B→St n ((t,.pointer (some ⟨B,0,none⟩)) :: L) ops Q rest w'):St n L ops Q (⟨some t,.alloc 41,ty,pos,aft,gd⟩ :: rest) w :=
  s_new #[.int .i64 0,.int .i64 0,.int .i64 0,.int .i64 0,.int .i64 0,.int .i64 0,.slice none 0 0,.slice none 0 0] 41 hW rfl hg ht (fun ev hev=>by simp [go_sem]) k
theorem sABlock (hW : Wd w0 w Bs) (hg : Gok ops n L gd) (ht : Nat.blt t n = true)
    (k:∀ w' B,Wd w0 w' ((B,#[.int .i64 0,.slice none 0 0,.slice none 0 0,.int .i64 0,.int .i64 0,.int .i64 0,.slice none 0 0,.slice none 0 0,.int .i64 0,.slice none 0 0,.slice none 0 0,.slice none 0 0],48) :: Bs)→New w w' B→St n ((t,.pointer (some ⟨B,0,none⟩)) :: L) ops Q rest w'):St n L ops Q (⟨some t,.alloc 48,ty,pos,aft,gd⟩ :: rest) w :=
  s_new #[.int .i64 0,.slice none 0 0,.slice none 0 0,.int .i64 0,.int .i64 0,.int .i64 0,.slice none 0 0,.slice none 0 0,.int .i64 0,.slice none 0 0,.slice none 0 0,.slice none 0 0] 48 hW rfl hg ht (fun ev hev=>by simp [go_sem]) k
theorem sAFunc (hW : Wd w0 w Bs) (hg : Gok ops n L gd) (ht : Nat.blt t n = true)
    (k:∀ w' B,Wd w0 w' ((B,#[.int .i64 0,.slice none 0 0,.slice none 0 0,.slice none 0 0],38) :: Bs)→New w w' B→St n ((t,.pointer (some ⟨B,0,none⟩)) :: L) ops Q rest w'):St n L ops Q (⟨some t,.alloc 38,ty,pos,aft,gd⟩ :: rest) w :=
  s_new #[.int .i64 0,.slice none 0 0,.slice none 0 0,.slice none 0 0] 38 hW rfl hg ht (fun ev hev=>by simp [go_sem]) k
theorem sAFault (hW : Wd w0 w Bs) (hg : Gok ops n L gd) (ht : Nat.blt t n = true)
    (k:∀ w' B,Wd w0 w' ((B,#[.int .i64 0,.int .i64 0],27) :: Bs)→New w w' B→St n ((t,.pointer (some ⟨B,0,none⟩)) :: L) ops Q rest w'):St n L ops Q (⟨some t,.alloc 27,ty,pos,aft,gd⟩ :: rest) w :=
  s_new #[.int .i64 0,.int .i64 0] 27 hW rfl hg ht (fun ev hev=>by simp [go_sem]) k
theorem sAFields (hW : Wd w0 w Bs) (hg : Gok ops n L gd) (ht : Nat.blt t n = true)
    (k:∀ w' B,Wd w0 w' ((B,#[.bool false,.bool false,.bool false,.bool false,.bool false,.bool false,.bool false],124) :: Bs)→New w w' B→St n ((t,.pointer (some ⟨B,0,none⟩)) :: L) ops Q rest w'):St n L ops Q (⟨some t,.alloc 124,ty,pos,aft,gd⟩ :: rest) w :=
  s_new #[.bool false,.bool false,.bool false,.bool false,.bool false,.bool false,.bool false] 124 hW rfl hg ht (fun ev hev=>by simp [go_sem]) k
theorem sT (i : Nat) {B j : Nat} {c : Array Value} {bt : TypeId} {cells : List Value} (hW : Wd w0 w Bs)
    (hx:evalL L x=some (.pointer (some ⟨B,j,none⟩))) (hy:evalL L y=some (.agg cells.toArray)) (hi:(Tryz.prog.info? ty2).map (·.size)=some cells.length) (h1:cells.all (·.oneCell')=true)
    (hb:Bs[i]?=some (B,c,bt)) (hs:Nat.ble (j + cells.length) c.size=true)
    (k:∀ w',Wd w0 w' (Bs.set i (B,spliced c j cells,bt))→St n L ops Q rest w'):St n L ops Q (⟨none,.store ty2 x y,ty,pos,aft,none⟩ :: rest) w:=fun a hF=>by
  have hn:j + cells.length≤c.size:=by simpa [Nat.ble_eq] using hs
  refine fr_set hF (hW.setAt i hb j cells hs rfl rfl) rfl rfl (fun K hK=>?_) (fun w' hW'=>k w' hW' a hF)
  have e:=hF.ev hx
  have e2:=hF.ev hy
  have:=run_storeAt_mid (P:=Tryz.prog) w B j ty2 cells.toArray (by simpa using thereOf (hW.get i hb) j cells.length hn) (by simpa using hi) (by simpa using h1)
  unfold Oper.wp execOp
  simp only [e,e2,Sem.run_bind,this,Result.andThen_ok,Sem.run_pure]
  rw [Oper.upon_skip];simpa [Act.put] using hK
theorem s1 (i : Nat) {B j : Nat} {c : Array Value} {bt : TypeId} (hi : (Tryz.prog.info? ty2).map (·.size) = some 1) (hW : Wd w0 w Bs)
    (hx:evalL L x=some (.pointer (some ⟨B,j,none⟩))) (hy:evalL L y=some v) (hv:v.cells=#[v]) (h1:v.oneCell'=true)
    (hb:Bs[i]?=some (B,c,bt)) (hs:Nat.ble (j + 1) c.size=true)
    (k:∀ w',Wd w0 w' (Bs.set i (B,spliced c j [v],bt))→St n L ops Q rest w'):St n L ops Q (⟨none,.store ty2 x y,ty,pos,aft,none⟩ :: rest) w:=fun a hF=>by
  have hn:j + 1≤c.size:=by simpa [Nat.ble_eq] using hs
  refine fr_set hF (hW.setAt i hb j [v] hs rfl rfl) rfl rfl (fun K hK=>?_) (fun w' hW'=>k w' hW' a hF)
  have e:=hF.ev hx
  have e2:=hF.ev hy
  have ht:=thereOf (hW.get i hb) j 1 hn
  have h2:=run_storeCells_cells (P:=Tryz.prog) B j [v] 0 w (fun k hk=>by simpa using (ht k (by simpa using hk)).1) (fun k hk=>by simpa using (ht k (by simpa using hk)).2) (fun u hu=>by simp at hu;subst hu;exact h1)
  have h3:(Instr.storeAt ty2 (.pointer (some ⟨B,j,none⟩)) v).run Tryz.prog w=.ok () (w.setCells B j [v]):=by
    cases hq:Tryz.prog.info? ty2 with
    | none=>simp [hq] at hi
    | some q =>
      have hs1:q.size=1:=by simpa [hq] using hi
      simp only [Nat.add_zero] at h2
      simp [Instr.storeAt,Instr.sureAddr,storeVar,sizeOf,typeInfo,hq,hv,hs1,h2]
  unfold Oper.wp execOp
  simp only [e,e2,Sem.run_bind,h3,Result.andThen_ok,Sem.run_pure]
  rw [Oper.upon_skip];simpa [Act.put] using hK
theorem s_call {o : Oper} {f : FuncId} {args : Array Value} {V : Value} (hW : Wd w0 w Bs) (hg : Gok ops n L o.guard) (hc : Rd Tryz.prog f args w V) (hd : o.dst = some t) (ht : Nat.blt t n = true)
    (h:∀ ev:Operand→Value,(∀ x v,evalL L x=some v→ev x=v)→(execOp ev o).run Tryz.prog w=.ok (.enter f args) w)
    (k:∀ w',Wd w0 w' Bs→St n ((t,V) :: L) ops Q rest w'):St n L ops Q (o :: rest) w:=fun a hF =>
  wpList_step fun K hK=>by
    rw [if_pos (hg.on hF)]
    unfold Oper.wp
    rw [h a.eval (fun x v e=>hF.ev e),Oper.upon_enter]
    refine hc.mono ?_
    rintro e w9 ⟨rfl,hb⟩
    rw [hd]
    exact hK _ _ (k _ (hW.below hb) _ (hF.put ht))
def CF (f : FuncId) : Prop := ∀ (args : Array Value) (w : World), (callFunc f args).run Tryz.prog w = .ok (.enter f args) w
theorem cf_of {f : FuncId} {fn : Func} (hf : Tryz.prog.funcs[f]? = some fn) (h1 : (fn.name == "runtime.NumGoroutine") = false) (h2 : fn.body.isNone = false) : CF f := fun args w => by
  have h3 : ¬ fn.name = "runtime.NumGoroutine" := by simpa using h1
  have h4:¬ fn.body=none:=by intro h;rw [h] at h2;cases h2
  simp [callFunc,hf,h3,h4]
theorem sc_1 {f : FuncId} {ts : Array TypeId} {x0 : Operand} {v0 : Value} {V : Value} (hcf : CF f) (hW : Wd w0 w Bs) (hc : Rd Tryz.prog f #[v0] w V) (hg : Gok ops n L gd) (h0 : evalL L x0 = some v0) (ht : Nat.blt t n = true)
    (k:∀ w',Wd w0 w' Bs→St n ((t,V) :: L) ops Q rest w'):St n L ops Q (⟨some t,.call { callee:=.value (.func f),args:=#[x0],argTypes:=ts },ty,pos,aft,gd⟩ :: rest) w :=
  s_call hW hg hc rfl ht (fun ev hev=>by have e0:=hev _ _ h0;have ef:=hev (.func f) _ rfl;have ec:=hcf;unfold CF at ec;simp [go_sem,ef,ec,e0]) k
theorem sc_2 {f : FuncId} {ts : Array TypeId} {x0 x1 : Operand} {v0 v1 : Value} {V : Value} (hcf : CF f) (hW : Wd w0 w Bs) (hc : Rd Tryz.prog f #[v0, v1] w V) (hg : Gok ops n L gd) (h0 : evalL L x0 = some v0) (h1 : evalL L x1 = some v1) (ht : Nat.blt t n = true)
    (k:∀ w',Wd w0 w' Bs→St n ((t,V) :: L) ops Q rest w'):St n L ops Q (⟨some t,.call { callee:=.value (.func f),args:=#[x0,x1],argTypes:=ts },ty,pos,aft,gd⟩ :: rest) w :=
  s_call hW hg hc rfl ht (fun ev hev=>by have e0:=hev _ _ h0;have e1:=hev _ _ h1;have ef:=hev (.func f) _ rfl;have ec:=hcf;unfold CF at ec;simp [go_sem,ef,ec,e0,e1]) k
theorem sc_3 {f : FuncId} {ts : Array TypeId} {x0 x1 x2 : Operand} {v0 v1 v2 : Value} {V : Value} (hcf : CF f) (hW : Wd w0 w Bs) (hc : Rd Tryz.prog f #[v0, v1, v2] w V) (hg : Gok ops n L gd) (h0 : evalL L x0 = some v0) (h1 : evalL L x1 = some v1) (h2 : evalL L x2 = some v2) (ht : Nat.blt t n = true)
    (k:∀ w',Wd w0 w' Bs→St n ((t,V) :: L) ops Q rest w'):St n L ops Q (⟨some t,.call { callee:=.value (.func f),args:=#[x0,x1,x2],argTypes:=ts },ty,pos,aft,gd⟩ :: rest) w :=
  s_call hW hg hc rfl ht (fun ev hev=>by have e0:=hev _ _ h0;have e1:=hev _ _ h1;have e2:=hev _ _ h2;have ef:=hev (.func f) _ rfl;have ec:=hcf;unfold CF at ec;simp [go_sem,ef,ec,e0,e1,e2]) k
theorem sv_10 {f : FuncId} {ts : Array TypeId} {xf : Operand} {x0 : Operand} {v0 : Value} {V : Value} (hcf : CF f) (hW : Wd w0 w Bs) (hc : Rd Tryz.prog f #[v0] w V) (hg : Gok ops n L gd) (hf : evalL L xf = some (.func (.func f) #[] #[])) (h0 : evalL L x0 = some v0) (ht : Nat.blt t n = true)
    (k:∀ w',Wd w0 w' Bs→St n ((t,V) :: L) ops Q rest w'):St n L ops Q (⟨some t,.call { callee:=.value xf,args:=#[x0],argTypes:=ts },ty,pos,aft,gd⟩ :: rest) w :=
  s_call hW hg hc rfl ht (fun ev hev=>by have e0:=hev _ _ h0;have ef:=hev _ _ hf;have ec:=hcf;unfold CF at ec;simp [go_sem,ef,ec,e0]) k
theorem sv_21 {f : FuncId} {ts : Array TypeId} {xf : Operand} {x0 x1 : Operand} {v0 v1 cp : Value} {V : Value} (hcf : CF f) (hW : Wd w0 w Bs) (hc : Rd Tryz.prog f #[v0, v1, cp] w V) (hg : Gok ops n L gd) (hf : evalL L xf = some (.func (.func f) #[] #[cp])) (h0 : evalL L x0 = some v0) (h1 : evalL L x1 = some v1) (ht : Nat.blt t n = true)
    (k:∀ w',Wd w0 w' Bs→St n ((t,V) :: L) ops Q rest w'):St n L ops Q (⟨some t,.call { callee:=.value xf,args:=#[x0,x1],argTypes:=ts },ty,pos,aft,gd⟩ :: rest) w :=
  s_call hW hg hc rfl ht (fun ev hev=>by have e0:=hev _ _ h0;have e1:=hev _ _ h1;have ef:=hev _ _ hf;have ec:=hcf;unfold CF at ec;simp [go_sem,ef,ec,e0,e1]) k
theorem cf58 : CF 58 := cf_of Tryz.func58 (by kernel_rfl) (by kernel_rfl)
theorem cf73 : CF 73 := cf_of Tryz.func73 (by kernel_rfl) (by kernel_rfl)
theorem cf29 : CF 29 := cf_of Tryz.func29 (by kernel_rfl) (by kernel_rfl)
theorem cf94 : CF 94 := cf_of Tryz.func94 (by kernel_rfl) (by kernel_rfl)
theorem cf55 : CF 55 := cf_of Tryz.func55 (by kernel_rfl) (by kernel_rfl)
theorem cf59 : CF 59 := cf_of Tryz.func59 (by kernel_rfl) (by kernel_rfl)
theorem cf57 : CF 57 := cf_of Tryz.func57 (by kernel_rfl) (by kernel_rfl)
theorem cf53 : CF 53 := cf_of Tryz.func53 (by kernel_rfl) (by kernel_rfl)
theorem cf36 : CF 36 := cf_of Tryz.func36 (by kernel_rfl) (by kernel_rfl)
theorem cf37 : CF 37 := cf_of Tryz.func37 (by kernel_rfl) (by kernel_rfl)
theorem cf38 : CF 38 := cf_of Tryz.func38 (by kernel_rfl) (by kernel_rfl)
theorem cf28 : CF 28 := cf_of Tryz.func28 (by kernel_rfl) (by kernel_rfl)
theorem cf30 : CF 30 := cf_of Tryz.func30 (by kernel_rfl) (by kernel_rfl)
theorem cf31 : CF 31 := cf_of Tryz.func31 (by kernel_rfl) (by kernel_rfl)
theorem cf25 : CF 25 := cf_of Tryz.func25 (by kernel_rfl) (by kernel_rfl)
theorem cf120 : CF 120 := cf_of Tryz.func120 (by kernel_rfl) (by kernel_rfl)
theorem cf121 : CF 121 := cf_of Tryz.func121 (by kernel_rfl) (by kernel_rfl)
theorem cf122 : CF 122 := cf_of Tryz.func122 (by kernel_rfl) (by kernel_rfl)
theorem cf81 : CF 81 := cf_of Tryz.func81 (by kernel_rfl) (by kernel_rfl)
theorem cf123 : CF 123 := cf_of Tryz.func123 (by kernel_rfl) (by kernel_rfl)
theorem cf82 : CF 82 := cf_of Tryz.func82 (by kernel_rfl) (by kernel_rfl)
theorem cf71 : CF 71 := cf_of Tryz.func71 (by kernel_rfl) (by kernel_rfl)
theorem cf72 : CF 72 := cf_of Tryz.func72 (by kernel_rfl) (by kernel_rfl)
theorem cf74 : CF 74 := cf_of Tryz.func74 (by kernel_rfl) (by kernel_rfl)
theorem cf75 : CF 75 := cf_of Tryz.func75 (by kernel_rfl) (by kernel_rfl)
theorem cf76 : CF 76 := cf_of Tryz.func76 (by kernel_rfl) (by kernel_rfl)
theorem cf54 : CF 54 := cf_of Tryz.func54 (by kernel_rfl) (by kernel_rfl)
theorem cf52 : CF 52 := cf_of Tryz.func52 (by kernel_rfl) (by kernel_rfl)
theorem cf144 : CF 144 := cf_of Tryz.func144 (by kernel_rfl) (by kernel_rfl)
theorem cf146 : CF 146 := cf_of Tryz.func146 (by kernel_rfl) (by kernel_rfl)
theorem cf147 : CF 147 := cf_of Tryz.func147 (by kernel_rfl) (by kernel_rfl)
theorem cf148 : CF 148 := cf_of Tryz.func148 (by kernel_rfl) (by kernel_rfl)
theorem cf91 : CF 91 := cf_of Tryz.func91 (by kernel_rfl) (by kernel_rfl)
theorem cf92 : CF 92 := cf_of Tryz.func92 (by kernel_rfl) (by kernel_rfl)
theorem cf93 : CF 93 := cf_of Tryz.func93 (by kernel_rfl) (by kernel_rfl)
theorem cf95 : CF 95 := cf_of Tryz.func95 (by kernel_rfl) (by kernel_rfl)
theorem cf96 : CF 96 := cf_of Tryz.func96 (by kernel_rfl) (by kernel_rfl)
theorem cf116 : CF 116 := cf_of Tryz.func116 (by kernel_rfl) (by kernel_rfl)
theorem cf117 : CF 117 := cf_of Tryz.func117 (by kernel_rfl) (by kernel_rfl)
theorem cf118 : CF 118 := cf_of Tryz.func118 (by kernel_rfl) (by kernel_rfl)
theorem cf119 : CF 119 := cf_of Tryz.func119 (by kernel_rfl) (by kernel_rfl)
theorem cf143 : CF 143 := cf_of Tryz.func143 (by kernel_rfl) (by kernel_rfl)
theorem infType : (Tryz.prog.info? 74).map (·.size) = some 3 := by kernel_rfl
theorem infIns : (Tryz.prog.info? 41).map (·.size) = some 8 := by kernel_rfl
theorem infTo : (Tryz.prog.info? 44).map (·.size) = some 3 := by kernel_rfl
theorem infEnd : (Tryz.prog.info? 46).map (·.size) = some 9 := by kernel_rfl
theorem infBlock : (Tryz.prog.info? 48).map (·.size) = some 12 := by kernel_rfl
theorem infFunc : (Tryz.prog.info? 38).map (·.size) = some 4 := by kernel_rfl
theorem infModule : (Tryz.prog.info? 25).map (·.size) = some 1 := by kernel_rfl
theorem infFault : (Tryz.prog.info? 27).map (·.size) = some 2 := by kernel_rfl
theorem infFields : (Tryz.prog.info? 124).map (·.size) = some 7 := by kernel_rfl
theorem inffuncLook : (Tryz.prog.info? 89).map (·.size) = some 6 := by kernel_rfl
theorem infblockLook : (Tryz.prog.info? 116).map (·.size) = some 19 := by kernel_rfl
theorem inf1Int : (Tryz.prog.info? 3).map (·.size) = some 1 := by kernel_rfl
theorem inf1Int6 : (Tryz.prog.info? 2).map (·.size) = some 1 := by kernel_rfl
theorem inf1Ints : (Tryz.prog.info? 39).map (·.size) = some 1 := by kernel_rfl
theorem ret_box {fn : Func} {R : Ending → World → Prop} {d : TypeDesc} (i : Nat) {B : Nat} {c : Array Value} {bt : TypeId} (hF : Fr n a L) (hW : Wd w0 w Bs) (hr : fn.results = #[.cell t ty]) (hv : L.lookup t = some (.pointer (some ⟨B, 0, none⟩))) (hb : Bs[i]? = some (B, c, bt))
    (hu:Tryz.prog.underlying ty=some d) (hd:d.isRow=true) (hi:(Tryz.prog.info? ty).map (·.size)=some c.size) (hR:R (.returned (.agg c)) w):bodyPost Tryz.prog fn R .ret a w:=by
  refine bodyPost_ret ?_ hF.defers hR
  have e:=hF.sl2 t _ hv
  have e2:=run_loadVar_mid (P:=Tryz.prog) w B 0 ty c.toList d (by have:=rangeOf (hW.get i hb) 0 c.size (by simp [Nat.ble_eq]);rw [List.drop_zero,List.take_of_length_le (by simp)] at this;exact this) hu hd (by simpa using hi)
  simp only [Array.toArray_toList] at e2
  simp [results,hr,e,asAddr,e2]
end
abbrev I64 (x : Int) : Prop := -9223372036854775808 ≤ x ∧ x ≤ 9223372036854775807
structure IP where
  pR:Option Addr
  cR:Nat
  pA:Option Addr
  cA:Nat
structure EP where
  pYR:Option Addr
  cYR:Nat
  pYA:Option Addr
  cYA:Nat
  pNR:Option Addr
  cNR:Nat
  pNA:Option Addr
  cNA:Nat
  pA:Option Addr
  cA:Nat
structure BP where
  pP:Option Addr
  cP:Nat
  pC:Option Addr
  cC:Nat
  e:EP
structure FP where
  pP:Option Addr
  cP:Nat
  pR:Option Addr
  cR:Nat
  pB:Option Addr
  cB:Nat
structure TIn2 (w : World) (O : Nat → Prop) (x : MTo) (pR : Option Addr) (cR : Nat) (pA : Option Addr) (cA : Nat) : Prop where
  regs:intsL.In w O x.regs [.slice pR x.regs.length cR]
  args:intsL.In w O x.args [.slice pA x.args.length cA]
  bnd:I64 x.block
structure IIn (w : World) (O : Nat → Prop) (x : MIns) (i : IP) : Prop where
  regs:intsL.In w O x.regs [.slice i.pR x.regs.length i.cR]
  args:intsL.In w O x.args [.slice i.pA x.args.length i.cA]
  bnd:I64 x.op∧I64 x.a∧I64 x.b∧I64 x.c∧I64 x.k∧I64 x.n
structure EIn (w : World) (O : Nat → Prop) (x : MEnd) (e : EP) : Prop where
  yes:TIn2 w O x.yes e.pYR e.cYR e.pYA e.cYA
  no:TIn2 w O x.no e.pNR e.cNR e.pNA e.cNA
  args:intsL.In w O x.args [.slice e.pA x.args.length e.cA]
  bnd:I64 x.op∧I64 x.a
structure BIn (w : World) (O : Nat → Prop) {n : Nat} (x : MBlock n) (b : BP) : Prop where
  params:(typesL n).In w O x.params [.slice b.pP x.params.length b.cP]
  code:insL.list.In w O x.code [.slice b.pC x.code.length b.cC]
  fin:EIn w O x.fin b.e
  bnd:I64 x.regs
structure FIn (w : World) (O : Nat → Prop) {n : Nat} (x : MFunc n) (f : FP) : Prop where
  params:(typesL n).In w O x.params [.slice f.pP x.params.length f.cP]
  results:(typesL n).In w O x.results [.slice f.pR x.results.length f.cR]
  blocks:(blockL n).list.In w O x.blocks [.slice f.pB x.blocks.length f.cB]
  bnd:I64 x.regs
section
variable {w w' : World} {O O' : Nat → Prop} {n : Nat} {cs : List Value}
theorem TIn2.keep {x : MTo} {pR pA : Option Addr} {cR cA : Nat} (hb : ∀ k, O k → k < w.heap.size → w'.heap[k]? = w.heap[k]?) (hl : ∀ k, O k → k < w.heap.size → O' k) (h : TIn2 w O x pR cR pA cA) : TIn2 w' O' x pR cR pA cA := ⟨Lay.keep _ hb hl h.regs, Lay.keep _ hb hl h.args, h.bnd⟩
theorem TIn2.below {x : MTo} {pR pA : Option Addr} {cR cA : Nat} (h : TIn2 w O x pR cR pA cA) (hbl : Below w.heap.size w w') : TIn2 w' O x pR cR pA cA := h.keep (fun k _ hk => hbl.block k hk) (fun _ h _ => h)
theorem TIn2.mono {x : MTo} {pR pA : Option Addr} {cR cA : Nat} (h : TIn2 w O x pR cR pA cA) (hl : ∀ k, O k → k < w.heap.size → O' k) : TIn2 w O' x pR cR pA cA := h.keep (fun k _ _ => rfl) hl
theorem IIn.keep {x : MIns} {i : IP} (hb : ∀ k, O k → k < w.heap.size → w'.heap[k]? = w.heap[k]?) (hl : ∀ k, O k → k < w.heap.size → O' k) (h : IIn w O x i) : IIn w' O' x i := ⟨Lay.keep _ hb hl h.regs, Lay.keep _ hb hl h.args, h.bnd⟩
theorem IIn.below {x : MIns} {i : IP} (h : IIn w O x i) (hbl : Below w.heap.size w w') : IIn w' O x i := h.keep (fun k _ hk => hbl.block k hk) (fun _ h _ => h)
theorem IIn.mono {x : MIns} {i : IP} (h : IIn w O x i) (hl : ∀ k, O k → k < w.heap.size → O' k) : IIn w O' x i := h.keep (fun k _ _ => rfl) hl
theorem EIn.keep {x : MEnd} {e : EP} (hb : ∀ k, O k → k < w.heap.size → w'.heap[k]? = w.heap[k]?) (hl : ∀ k, O k → k < w.heap.size → O' k) (h : EIn w O x e) : EIn w' O' x e := ⟨h.yes.keep hb hl, h.no.keep hb hl, Lay.keep _ hb hl h.args, h.bnd⟩
theorem EIn.below {x : MEnd} {e : EP} (h : EIn w O x e) (hbl : Below w.heap.size w w') : EIn w' O x e := h.keep (fun k _ hk => hbl.block k hk) (fun _ h _ => h)
theorem EIn.mono {x : MEnd} {e : EP} (h : EIn w O x e) (hl : ∀ k, O k → k < w.heap.size → O' k) : EIn w O' x e := h.keep (fun k _ _ => rfl) hl
theorem BIn.keep {x : MBlock n} {b : BP} (hb : ∀ k, O k → k < w.heap.size → w'.heap[k]? = w.heap[k]?) (hl : ∀ k, O k → k < w.heap.size → O' k) (h : BIn w O x b) : BIn w' O' x b := ⟨Lay.keep _ hb hl h.params, Lay.keep _ hb hl h.code, h.fin.keep hb hl, h.bnd⟩
theorem BIn.below {x : MBlock n} {b : BP} (h : BIn w O x b) (hbl : Below w.heap.size w w') : BIn w' O x b := h.keep (fun k _ hk => hbl.block k hk) (fun _ h _ => h)
theorem BIn.mono {x : MBlock n} {b : BP} (h : BIn w O x b) (hl : ∀ k, O k → k < w.heap.size → O' k) : BIn w O' x b := h.keep (fun k _ _ => rfl) hl
theorem FIn.keep {x : MFunc n} {f : FP} (hb : ∀ k, O k → k < w.heap.size → w'.heap[k]? = w.heap[k]?) (hl : ∀ k, O k → k < w.heap.size → O' k) (h : FIn w O x f) : FIn w' O' x f := ⟨Lay.keep _ hb hl h.params, Lay.keep _ hb hl h.results, Lay.keep _ hb hl h.blocks, h.bnd⟩
theorem FIn.below {x : MFunc n} {f : FP} (h : FIn w O x f) (hbl : Below w.heap.size w w') : FIn w' O x f := h.keep (fun k _ hk => hbl.block k hk) (fun _ h _ => h)
theorem FIn.mono {x : MFunc n} {f : FP} (h : FIn w O x f) (hl : ∀ k, O k → k < w.heap.size → O' k) : FIn w O' x f := h.keep (fun k _ _ => rfl) hl
theorem to_open {x : MTo} (h : toL.In w O x cs) : ∃ pR cR pA cA, cs = [.int .i64 x.block, .slice pR x.regs.length cR, .slice pA x.args.length cA] ∧ TIn2 w O x pR cR pA cA := by
  obtain ⟨a,c,b,d,rfl,h1,h2,h0⟩:=to_form h
  exact ⟨a,c,b,d,rfl,h1,h2,h0⟩
theorem ins_open {x : MIns} (h : insL.In w O x cs) : ∃ i : IP, cs = [.int .i64 x.op, .int .i64 x.a, .int .i64 x.b, .int .i64 x.c, .int .i64 x.k, .int .i64 x.n, .slice i.pR x.regs.length i.cR, .slice i.pA x.args.length i.cA] ∧ IIn w O x i := by
  obtain ⟨a,c,b,d,rfl,h1,h2,h0⟩:=ins_form h
  exact ⟨⟨a,c,b,d⟩,rfl,h1,h2,h0⟩
theorem end_open {x : MEnd} (h : endL.In w O x cs) : ∃ e : EP, cs = [.int .i64 x.op, .int .i64 x.a, .int .i64 x.yes.block, .slice e.pYR x.yes.regs.length e.cYR, .slice e.pYA x.yes.args.length e.cYA, .int .i64 x.no.block, .slice e.pNR x.no.regs.length e.cNR, .slice e.pNA x.no.args.length e.cNA, .slice e.pA x.args.length e.cA] ∧ EIn w O x e := by
  obtain ⟨c1,c2,a,c,rfl,h1,h2,h3,h0⟩:=end_form h
  obtain ⟨pR,cR,pA,cA,rfl,k1⟩:=to_open h1
  obtain ⟨qR,dR,qA,dA,rfl,k2⟩:=to_open h2
  exact ⟨⟨pR,cR,pA,cA,qR,dR,qA,dA,a,c⟩,rfl,k1,k2,h3,h0⟩
theorem block_open {x : MBlock n} (h : (blockL n).In w O x cs) : ∃ b : BP, cs = [.int .i64 x.regs, .slice b.pP x.params.length b.cP, .slice b.pC x.code.length b.cC, .int .i64 x.fin.op, .int .i64 x.fin.a, .int .i64 x.fin.yes.block, .slice b.e.pYR x.fin.yes.regs.length b.e.cYR, .slice b.e.pYA x.fin.yes.args.length b.e.cYA, .int .i64 x.fin.no.block, .slice b.e.pNR x.fin.no.regs.length b.e.cNR, .slice b.e.pNA x.fin.no.args.length b.e.cNA, .slice b.e.pA x.fin.args.length b.e.cA] ∧ BIn w O x b := by
  obtain ⟨a,c,b,d,es,rfl,h1,h2,h3,h0⟩:=block_form h
  obtain ⟨e,rfl,k3⟩:=end_open h3
  exact ⟨⟨a,c,b,d,e⟩,rfl,h1,h2,k3,h0⟩
theorem func_open {x : MFunc n} (h : (funcL n).In w O x cs) : ∃ f : FP, cs = [.int .i64 x.regs, .slice f.pP x.params.length f.cP, .slice f.pR x.results.length f.cR, .slice f.pB x.blocks.length f.cB] ∧ FIn w O x f := by
  obtain ⟨a,c,b,d,e,f,rfl,h1,h2,h3,h0⟩:=func_form h
  exact ⟨⟨a,c,b,d,e,f⟩,rfl,h1,h2,h3,h0⟩
theorem ins_at {l : List MIns} {p : Option Addr} {m c : Nat} (h : (insL).list.In w O l [.slice p m c]) {i : Nat} {x : MIns} (hx : l[i]? = some x) :
    ∃ (g o:Nat) (i':IP),p=some ⟨g,o,none⟩∧w.rangeAt g (o + i * 8) [.int .i64 x.op,.int .i64 x.a,.int .i64 x.b,.int .i64 x.c,.int .i64 x.k,.int .i64 x.n,.slice i'.pR x.regs.length i'.cR,.slice i'.pA x.args.length i'.cA]∧IIn w O x i':=by
  obtain ⟨g,o,ds,e,h1,h2,h3,h4⟩:=Lay.list_at h hx
  obtain ⟨i',rfl,h5⟩:=ins_open h4
  have hs:(insL).size=8:=rfl
  rw [hs] at h3
  exact ⟨g,o,i',e,fun j v hj=>(h3 j (by have:=(List.getElem?_eq_some_iff.1 hj).1;simpa using this)).trans hj,h5⟩
theorem block_at {l : List (MBlock n)} {p : Option Addr} {m c : Nat} (h : (blockL n).list.In w O l [.slice p m c]) {i : Nat} {x : MBlock n} (hx : l[i]? = some x) :
    ∃ (g o:Nat) (b:BP),p=some ⟨g,o,none⟩∧w.rangeAt g (o + i * 12) [.int .i64 x.regs,.slice b.pP x.params.length b.cP,.slice b.pC x.code.length b.cC,.int .i64 x.fin.op,.int .i64 x.fin.a,.int .i64 x.fin.yes.block,.slice b.e.pYR x.fin.yes.regs.length b.e.cYR,.slice b.e.pYA x.fin.yes.args.length b.e.cYA,.int .i64 x.fin.no.block,.slice b.e.pNR x.fin.no.regs.length b.e.cNR,.slice b.e.pNA x.fin.no.args.length b.e.cNA,.slice b.e.pA x.fin.args.length b.e.cA]∧BIn w O x b:=by
  obtain ⟨g,o,ds,e,h1,h2,h3,h4⟩:=Lay.list_at h hx
  obtain ⟨b,rfl,h5⟩:=block_open h4
  have hs:(blockL n).size=12:=rfl
  rw [hs] at h3
  exact ⟨g,o,b,e,fun j v hj=>(h3 j (by have:=(List.getElem?_eq_some_iff.1 hj).1;simpa using this)).trans hj,h5⟩
theorem func_at {l : List (MFunc n)} {p : Option Addr} {m c : Nat} (h : (funcL n).list.In w O l [.slice p m c]) {i : Nat} {x : MFunc n} (hx : l[i]? = some x) :
    ∃ (g o:Nat) (f:FP),p=some ⟨g,o,none⟩∧w.rangeAt g (o + i * 4) [.int .i64 x.regs,.slice f.pP x.params.length f.cP,.slice f.pR x.results.length f.cR,.slice f.pB x.blocks.length f.cB]∧FIn w O x f:=by
  obtain ⟨g,o,ds,e,h1,h2,h3,h4⟩:=Lay.list_at h hx
  obtain ⟨f,rfl,h5⟩:=func_open h4
  have hs:(funcL n).size=4:=rfl
  rw [hs] at h3
  exact ⟨g,o,f,e,fun j v hj=>(h3 j (by have:=(List.getElem?_eq_some_iff.1 hj).1;simpa using this)).trans hj,h5⟩
theorem lin_at {l : List (TT n)} {p : Option Addr} (h : LIn w O l p) {i : Nat} {x : TT n} (hx : l[i]? = some x) : ∃ (g o : Nat) (q : Option Addr) (c : Nat), p = some ⟨g, o, none⟩ ∧ w.rangeAt g (o + i * 3) [.int .i64 x.kind, .int .i64 x.r, .slice q x.len c] ∧ TIn w O x q := by
  obtain ⟨g,o,q,c,e,_,h0,h1,h2,h3⟩:=LIn.at h hx
  refine ⟨g,o,q,c,e,fun j v hj=>?_,h3⟩
  match j,hj with
  | 0,hj=>cases hj;exact h0
  | 1,hj=>cases hj;exact h1
  | 2,hj=>cases hj;exact h2
theorem ints_rg {l : List Int} {a : Option Addr} {m c : Nat} (h : intsL.In w O l [.slice a m c]) {i : Nat} (hi : i < l.length) : ∃ g o, a = some ⟨g, o, none⟩ ∧ w.rangeAt g (o + i) [.int .i64 (l.getD i 0)] := by
  obtain ⟨g,o,e,_,_,h1⟩:=ints_at h hi
  refine ⟨g,o,e,fun j v hj=>?_⟩
  match j,hj with
  | 0,hj=>cases hj;exact h1
end
theorem sameInts_any (l m : List Int) (p p2 : Option Addr) (c d : Nat) (w : World) (hl0 : intsL.In w All l [.slice p l.length c]) (hm0 : intsL.In w All m [.slice p2 m.length d]) (hb1 : l.length ≤ 4294967296) :
    Rd Tryz.prog 53 #[.slice p l.length c,.slice p2 m.length d] w (.bool (bdec (l=m))):=by
  have hl:Hid _:=hl0
  have hm:Hid _:=hm0
  clear hl0 hm0
  refine fr_enter (n:=26) Tryz.func53 rfl rfl rfl ?_
  intro a hF
  have hW:=Wd.start w
  replace hF:Fr 26 a [(0,.slice p l.length c),(1,.slice p2 m.length d)]:=hF
  refine wp_seq_k fun K1 hK1=>?_
  refine rg hF fun ops=>?_;clear hF a
  refine sa trivial rfl rfl ?_
  refine St.nil fun a2 h2=>?_
  refine hK1 _ _ ?_
  refine wp_seq_k fun K3 hK3=>?_
  refine wp_seq_k fun K4 hK4=>?_
  refine rg h2 fun ops=>?_;clear h2 a2
  refine sm trivial rfl rfl ?_
  refine slInts trivial rfl rfl ?_
  refine sm trivial rfl rfl ?_
  refine slInts trivial rfl rfl ?_
  refine sne trivial rfl rfl rfl ?_
  refine St.nil fun a5 h5=>?_
  refine hK4 _ _ ?_
  refine fr_cond (t:=10) h5 rfl (fun hb=>?_) (fun hb=>?_)
  ·have h9:¬ l.length=m.length:=by have h8:=bne_iff_ne.1 hb;omega
   have hlen:¬ l.length=m.length:=h9
   clear h9
   clear hb
   refine wp_seq_k fun K6 hK6=>?_
   refine rg h5 fun ops=>?_;clear h5 a5
   refine sa trivial rfl rfl ?_
   refine St.nil fun a7 h7=>?_
   refine hK6 _ _ ?_
   refine wp_ret ?_;with_reducible repeat first | refine of_then_ret ?_ | refine of_block_ret ?_
   have R:¬ l=m:=by
     intro e
     first
       | exact hlen (by rw [e])
       | exact hel (by rw [← hx.out,← hy.out,e])
   exact ret_tmp (t:=4) h7 rfl rfl ⟨by rw [bdec_false R],hW.bel⟩
  have h9:l.length=m.length:=by have h8:=bne_eq_false_iff_eq.1 hb;omega
  have hlen:Hid (l.length=m.length):=h9
  clear h9
  clear hb
  refine wp_skip ?_
  refine hK3 _ _ ?_
  refine wp_seq_k fun K8 hK8=>?_
  refine wp_seq_k fun K9 hK9=>?_
  refine rg h5 fun ops=>?_;clear h5 a5
  refine sa trivial rfl rfl ?_
  refine St.nil fun a10 h10=>?_
  refine hK9 _ _ ?_
  refine wp_block ?_
  refine fr_loop (fun r a w'=>∃ q:Nat,q≤l.length∧r=l.length - q∧(∀ j,j < q→l.getD j 0=m.getD j 0)∧Fr 26 a [(1,.slice p2 m.length d),(0,.slice p l.length c),(4,.bool false),(5,.int .i64 (q:Int))]∧Wd w w' []) (l.length) ⟨0,Nat.zero_le _,rfl,(fun j hj=>by omega),(h10.keep (h10.keep (h10.keep (h10.keep h10.nil (t:=5) rfl) (t:=4) rfl) (t:=0) rfl) (t:=1) rfl),hW⟩ ?_
  clear h10 hW
  rintro r a11 w11 ⟨q,hq,hr,hall,hF11,hW11⟩ KL hKL
  refine wp_seq_k fun K12 hK12=>?_
  refine wp_seq_k fun K13 hK13=>?_
  refine rg hF11 fun ops=>?_;clear hF11 a11
  refine sm trivial rfl rfl ?_
  refine sm trivial rfl rfl ?_
  refine slInts trivial rfl rfl ?_
  refine slt trivial rfl rfl rfl ?_
  refine St.nil fun a14 h14=>?_
  refine hK13 _ _ ?_
  refine fr_cond (t:=14) h14 rfl (fun hb=>?_) (fun hb=>?_)
  ·have hlt:q < l.length:=by have:=of_decide_eq_true hb;omega
   clear hb
   have hlm:q < m.length:=by have:=hlen.out;omega
   obtain ⟨g1,o1,hp1,E1⟩:=ints_rg hl.out hlt
   obtain ⟨g2,o2,hp2,E2⟩:=ints_rg hm.out hlm
   obtain ⟨x,hx⟩:∃ x,l.getD q 0=x:=⟨_,rfl⟩
   obtain ⟨y,hy⟩:∃ y,m.getD q 0=y:=⟨_,rfl⟩
   rw [hx] at E1
   rw [hy] at E2
   replace hx:Hid _:=hx
   replace hy:Hid _:=hy
   replace E1:Hid _:=E1
   replace E2:Hid _:=E2
   replace hp1:Hid _:=hp1
   replace hp2:Hid _:=hp2
   refine wp_skip ?_
   refine hK12 _ _ ?_
   refine wp_seq_k fun K15 hK15=>?_
   refine wp_block ?_
   refine wp_seq_k fun K16 hK16=>?_
   have hF17:Fr 26 a14 [(1,.slice p2 m.length d),(0,.slice p l.length c),(4,.bool false),(5,.int .i64 (q:Int))]:=(h14.keep (h14.keep (h14.keep (h14.keep h14.nil (t:=5) rfl) (t:=4) rfl) (t:=0) rfl) (t:=1) rfl)
   have ho0:a14.tmps.getD 0 undef=.slice p l.length c:=h14.sl 0 _ rfl
   have ho5:a14.tmps.getD 5 undef=.int .i64 (q:Int):=h14.sl 5 _ rfl
   have ho1:a14.tmps.getD 1 undef=.slice p2 m.length d:=h14.sl 1 _ rfl
   refine fr_draw_k 9 ([(0,fun v _=>v=.slice p l.length c),(5,fun v _=>v=.int .i64 (q:Int)),(1,fun v _=>v=.slice p2 m.length d),(17,fun v _=>v=.slice p l.length c),(18,fun v _=>v=.int .i64 (q:Int)),(19,fun v _=>v=.pointer (some ⟨g1,o1 + q,none⟩)),(20,fun v _=>v=.int .i64 x),(21,fun v _=>v=.slice p2 m.length d),(22,fun v _=>v=.int .i64 (q:Int)),(23,fun v _=>v=.pointer (some ⟨g2,o2 + q,none⟩)),(24,fun v _=>v=.int .i64 y),(25,fun v _=>v=.bool (x != y))]:PTab) (fun w'=>Wd w w' []∧Below w11.heap.size w11 w') (fun w w'=>Below w.heap.size w w') (outs:=[0,5,1]) (gs:=[]) (bs:=[true,true,true,true,true,true,true,true,true]) (by kernel_rfl) hF17 rfl (by kernel_rfl) (by kernel_rfl) ?hR ?hG ⟨hW11.drewN 1,drewN_below (m:=1) (Below.refl _ _)⟩⟨ho0,ho5,ho1,trivial⟩ ?hA ?hend
   case hR=>exact ⟨fun _ _ _ _ h=>h,fun _ _ _ _ h=>h,fun _ _ _ _ h=>h,fun _ _ _ _ h=>h,fun _ _ _ _ h=>h,fun _ _ _ _ h=>h,fun _ _ _ _ h=>h,fun _ _ _ _ h=>h,fun _ _ _ _ h=>h,fun _ _ _ _ h=>h,fun _ _ _ _ h=>h,fun _ _ _ _ h=>h,trivial⟩
   case hG=>exact trivial
   case hA =>
    refine ⟨fun a w hW hk K hK=>?_,?_⟩
    · obtain ⟨k0,-⟩:=hk
      have k0:a.tmps.getD 0 undef=.slice p l.length c:=k0
      go_simp
      exact hK _ _ (Below.refl _ _) hW rfl
    refine ⟨fun a w hW hk K hK=>?_,?_⟩
    · obtain ⟨k0,-⟩:=hk
      have k0:a.tmps.getD 5 undef=.int .i64 (q:Int):=k0
      go_simp
      exact hK _ _ (Below.refl _ _) hW rfl
    refine ⟨fun a w hW hk K hK=>?_,?_⟩
    · obtain ⟨k0,k1,-⟩:=hk
      have k0:a.tmps.getD 17 undef=.slice p l.length c:=k0
      have k1:a.tmps.getD 18 undef=.int .i64 (q:Int):=k1
      have hpq:=hp1.out
      have hk0:(0:Int)≤q:=by omega
      have hk1:(q:Int) < (l.length:Int):=by omega
      go_simp
      exact hK _ _ (Below.refl _ _) hW rfl
    refine ⟨fun a w hW hk K hK=>?_,?_⟩
    · obtain ⟨k0,-⟩:=hk
      have k0:a.tmps.getD 19 undef=.pointer (some ⟨g1,o1 + q,none⟩):=k0
      have d0:w.cell? ⟨g1,o1 + q,none⟩=some (.int .i64 x):=bel_cell hW.1.bel (E1.out 0 _ rfl)
      go_simp
      exact hK _ _ (Below.refl _ _) hW rfl
    refine ⟨fun a w hW hk K hK=>?_,?_⟩
    · obtain ⟨k0,-⟩:=hk
      have k0:a.tmps.getD 1 undef=.slice p2 m.length d:=k0
      go_simp
      exact hK _ _ (Below.refl _ _) hW rfl
    refine ⟨fun a w hW hk K hK=>?_,?_⟩
    · obtain ⟨k0,-⟩:=hk
      have k0:a.tmps.getD 5 undef=.int .i64 (q:Int):=k0
      go_simp
      exact hK _ _ (Below.refl _ _) hW rfl
    refine ⟨fun a w hW hk K hK=>?_,?_⟩
    · obtain ⟨k0,k1,-⟩:=hk
      have k0:a.tmps.getD 21 undef=.slice p2 m.length d:=k0
      have k1:a.tmps.getD 22 undef=.int .i64 (q:Int):=k1
      have hpq:=hp2.out
      have hk0:(0:Int)≤q:=by omega
      have hk1:(q:Int) < (m.length:Int):=by omega
      go_simp
      exact hK _ _ (Below.refl _ _) hW rfl
    refine ⟨fun a w hW hk K hK=>?_,?_⟩
    · obtain ⟨k0,-⟩:=hk
      have k0:a.tmps.getD 23 undef=.pointer (some ⟨g2,o2 + q,none⟩):=k0
      have d0:w.cell? ⟨g2,o2 + q,none⟩=some (.int .i64 y):=bel_cell hW.1.bel (E2.out 0 _ rfl)
      go_simp
      exact hK _ _ (Below.refl _ _) hW rfl
    refine ⟨fun a w hW hk K hK=>?_,?_⟩
    · obtain ⟨k0,k1,-⟩:=hk
      have k0:a.tmps.getD 20 undef=.int .i64 x:=k0
      have k1:a.tmps.getD 24 undef=.int .i64 y:=k1
      go_simp
      exact hK _ _ (Below.refl _ _) hW rfl
    trivial
   case hend =>
    intro ops a18 w18 hWD hE hFD
    have hd25:a18.tmps.getD 25 undef=.bool (x != y):=hE 25 rfl
    have hF18:Fr 26 a18 [(25,.bool (x != y)),(1,.slice p2 m.length d),(0,.slice p l.length c),(4,.bool false),(5,.int .i64 (q:Int))]:=(hFD.cons hd25)
    clear hd25
    have hW18:Wd w w18 []:=hWD.1
    clear hFD hWD hE hF17 h14
    clear hW11
    refine wpList_nil ?_
    refine hK16 _ _ ?_
    refine fr_cond (t:=25) hF18 rfl (fun hb=>?_) (fun hb=>?_)
    ·have h9:¬ x=y:=bne_iff_ne.1 hb
     have hel:¬ x=y:=h9
     clear h9
     clear hb
     refine wp_seq_k fun K19 hK19=>?_
     refine rg hF18 fun ops=>?_;clear hF18 a18
     refine sa trivial rfl rfl ?_
     refine St.nil fun a20 h20=>?_
     refine hK19 _ _ ?_
     refine wp_ret ?_;with_reducible repeat first | refine of_then_ret ?_ | refine of_block_ret ?_
     have R:¬ l=m:=by
       intro e
       first
         | exact hlen (by rw [e])
         | exact hel (by rw [← hx.out,← hy.out,e])
     exact ret_tmp (t:=4) h20 rfl rfl ⟨by rw [bdec_false R],hW18.bel⟩
    have h9:x=y:=bne_eq_false_iff_eq.1 hb
    have hel:Hid (x=y):=h9
    clear h9
    clear hb
    refine wp_skip ?_
    refine hK15 _ _ ?_
    refine rg hF18 fun ops=>?_;clear hF18 a18
    refine sm trivial rfl rfl ?_
    refine sad (by omega) trivial rfl rfl rfl ?_
    refine sa trivial rfl rfl ?_
    refine St.nil fun a21 h21=>?_
    refine hKL _ _ (l.length - (q + 1)) (by omega) ⟨q + 1,by omega,rfl,?_,(h21.keep (h21.keep (h21.keep (h21.keep h21.nil (t:=5) rfl) (t:=4) rfl) (t:=0) rfl) (t:=1) rfl),hW18⟩
    ·intro j hj
     by_cases e:j=q
     · subst e;rw [hx.out,hy.out];exact hel.out
     · exact hall j (by omega)
  have hge:q=l.length:=by have:=of_decide_eq_false hb;omega
  clear hb
  refine wp_exit ?_
  refine hK8 _ _ ?_
  refine wp_seq_k fun K22 hK22=>?_
  refine rg h14 fun ops=>?_;clear h14 a14
  refine sa trivial rfl rfl ?_
  refine St.nil fun a23 h23=>?_
  refine hK22 _ _ ?_
  refine wp_ret ?_;with_reducible repeat first | refine of_then_ret ?_ | refine of_block_ret ?_
  have R:l=m:=by
    refine List.ext_getElem hlen.out fun i h1 h2=>?_
    have:=hall i (by omega)
    simpa [List.getD,h1,h2] using this
  exact ret_tmp (t:=4) h23 rfl rfl ⟨by rw [bdec_true R],hW11.bel⟩
end Go.Proofs.YtjodmledadbgeacGreatDoor
namespace Go.Proofs.YtjodmledadbgeacGreatDoor
open Go.ChangeShapes Go.WideShapes Go.ChangeAt Go.RowKit
set_option linter.unusedVariables false
def SaysEq (e : Ending) (A : Prop) : Prop := ∃ q : Bool, e = .returned (.bool q) ∧ (q = true ↔ A)
theorem SaysEq.yes {A : Prop} (h : A) : SaysEq (.returned (.bool true)) A := ⟨true, rfl, by simp [h]⟩
theorem SaysEq.no {A : Prop} (h : ¬ A) : SaysEq (.returned (.bool false)) A := ⟨false, rfl, by simp [h]⟩
def SameAt (f : Nat) (n : Nat) : Prop := ∀ (t u : TT n) (a b : Option Addr) (c d : Nat) (w : World), TIn w All t a → TIn w All u b → t.count ≤ 100000 →
    Calls Tryz.prog f #[Tv t a c,Tv u b d] w fun e w'=>SaysEq e (t=u)∧Below w.heap.size w w'
theorem sames_any (n : Nat) (IH0 : SameAt 50 n) (l m : List (TT n)) (a b : Option Addr) (c d : Nat) (w : World) (hl0 : LIn w All l a) (hm0 : LIn w All m b) (hlen : l.length ≤ 100000) (hco0 : ∀ x ∈ l, x.count ≤ 100000) :
    Calls Tryz.prog 25 #[.slice a l.length c,.slice b m.length d] w fun e w'=>SaysEq e (l=m)∧Below w.heap.size w w':=by
  have IH:Hid (SameAt 50 n):=IH0
  have hl:Hid (LIn w All l a):=hl0
  have hm:Hid (LIn w All m b):=hm0
  have hco:Hid (∀ x ∈ l,x.count≤100000):=hco0
  clear IH0 hl0 hm0 hco0
  by_cases hne:l.length=m.length
  · have hne':((l.length:Int) != (m.length:Int))=false:=by simp;omega
    have E:Hid (l.length=m.length):=hne
    clear hne
    go_enter Tryz.func25,Tryz.ntmps25
    go_wp2_with fail
    go_loopw [5] (fun i wr=>∃ q:Nat,q≤l.length∧i=.int .i64 q∧(∀ j,j < q→l[j]?=m[j]?)∧Below w.heap.size w wr) (fun i _=>l.length - (intOf i).toNat)
    case atStart=>exact ⟨0,Nat.zero_le _,rfl,fun j hj=>by omega,Below.refl _ _⟩
    case round =>
      obtain ⟨q,hq,rfl,hall,hb⟩:=hrel
      have A:Hid (∀ j,j < q→l[j]?=m[j]?):=hall
      have B:Hid (Below w.heap.size w wr):=hb
      clear hall hb
      by_cases hlt:q < l.length
      · have hx:l[q]?=some l[q]:=List.getElem?_eq_getElem hlt
        have hlm:q < m.length:=by have:=E.out;omega
        have hy:m[q]?=some m[q]:=List.getElem?_eq_getElem hlm
        generalize l[q]=x at hx
        generalize m[q]=y at hy
        obtain ⟨g,o,a',c',rfl,_,d0,d1,d2,hk⟩:=LIn.at (hl.out.below B.out) hx
        obtain ⟨g',o',b',d',rfl,_,d3,d4,d5,hk'⟩:=LIn.at (hm.out.below B.out) hy
        have C:Hid (∀ k,Calls Tryz.prog 50 #[Tv x a' c',Tv y b' d'] (wr.drewN k) fun e w'=>SaysEq e (x=y)∧Below wr.heap.size wr w') :=
          fun k=>(IH.out x y a' b' c' d' _ (hk.drewN k) (hk'.drewN k) (hco.out x (List.mem_of_getElem? hx))).mono (fun e w' h=>⟨h.1,undrewN_below h.2⟩)
        have hx':Hid (l[q]?=some x):=hx
        have hy':Hid (m[q]?=some y):=hy
        clear hk hk' hx hy
        have hk0:(0:Int)≤q:=by omega
        have hk1:(q:Int) < l.length:=by omega
        have hk3:(q:Int) < m.length:=by omega
        go_upto_region 6 with fail
        go_cut [26] (fun t wx=>∃ p:Bool,t=.bool (!p)∧(p=true ↔ x=y)∧Below wr.heap.size wr wx)
        case first =>
          go_region_with (go_at_call 50;refine (C.out 1).mono ?_;rintro r w5 ⟨⟨p,rfl,hp⟩,b5⟩;have HP:Hid (p=true ↔ x=y):=hp;have B5:Hid (Below wr.heap.size wr w5):=b5;clear hp b5)
          all_goals
            go_wp2
            go_meet
            exact ⟨p,rfl,HP.out,B5.out⟩
        case rest =>
          obtain ⟨p,rfl,hp,b5⟩:=hcut
          have HB:Hid (Below w.heap.size w wc):=B.out.trans (b5.mono B.out.size)
          clear C b5 B d0 d1 d2 d3 d4 d5
          cases p with
          | true =>
            have hxy:x=y:=hp.1 rfl
            have A2:Hid (∀ j,j < q + 1→l[j]?=m[j]?):=fun j hj=>by
              by_cases e:j=q
              · subst e;rw [hx'.out,hy'.out,hxy]
              · exact A.out j (by omega)
            clear hp hxy hx' hy' A
            go_wp2
            go_roundw
            case rel=>exact ⟨q + 1,by omega,by go_num,A2.out,HB.out⟩
            case measure=>simp [intOf];omega
          | false =>
            have hxy:Hid (¬ l=m):=fun h=>by
              have h1:=hx'.out
              rw [h,hy'.out] at h1
              have:=hp.2 (Option.some.inj h1).symm
              cases this
            clear hp hx' hy' A
            go_wp2
            go_ret
            exact ⟨SaysEq.no hxy.out,HB.out⟩
      · have R:Hid (l=m):=by
          have:=E.out
          refine List.ext_getElem? (fun i=>?_)
          by_cases hi:i < q
          · exact A.out i hi
          · rw [List.getElem?_eq_none (by omega),List.getElem?_eq_none (by omega)]
        have hk1:¬ (q:Int) < l.length:=by omega
        clear A
        go_wp2
        go_ret
        exact ⟨SaysEq.yes R.out,B.out⟩
  · have hne':((l.length:Int) != (m.length:Int))=true:=by simp;omega
    have E:Hid (l.length≠m.length):=hne
    clear hne
    go_enter Tryz.func25,Tryz.ntmps25
    go_wp2
    go_ret
    exact ⟨SaysEq.no (fun h=>E.out (by rw [h])),Below.refl _ _⟩
theorem TT.eq_iff {n : Nat} {t u : TT (n + 1)} : t = u ↔ t.kind = u.kind ∧ t.r = u.r ∧ t.2.2 = u.2.2 := by
  obtain ⟨a,b,c⟩:=t
  obtain ⟨d,e,f⟩:=u
  constructor
  · intro h;cases h;exact ⟨rfl,rfl,rfl⟩
  · rintro ⟨rfl,rfl,rfl⟩;rfl
theorem samet_any : ∀ n, SameAt 50 n := by
  intro n
  induction n with
  | zero=>intro t;exact Empty.elim t
  | succ n ih =>
    intro t u a b c d w ht hu hc
    have hco:∀ x ∈ t.2.2,x.count≤100000:=fun x hx=>by have:=t.count_kid hx;omega
    have hlen:t.2.2.length≤100000:=by have:=t.len_lt_count;rw [t.len_eq] at this;omega
    have C:Hid (∀ wx,Below w.heap.size w wx→Calls Tryz.prog 25 #[.slice a t.2.2.length c,.slice b u.2.2.length d] wx fun e w'=>SaysEq e (t.2.2=u.2.2)∧Below wx.heap.size wx w') :=
      fun wx hb=>sames_any n ih t.2.2 u.2.2 a b c d wx (ht.below hb) (hu.below hb) hlen hco
    rw [TT.eq_iff]
    simp only [Tv,TT.len_eq] at C ⊢
    generalize t.2.2.length=p at C ⊢
    generalize u.2.2.length=q at C ⊢
    generalize (t.2.2=u.2.2)=E at C ⊢
    generalize t.kind=k
    generalize t.r=r
    generalize u.kind=k'
    generalize u.r=r'
    clear hco hlen hc ht hu ih t u
    by_cases hk:k=k'
    · subst hk
      by_cases hr:r=r'
      · subst hr
        go_enter Tryz.func50,Tryz.ntmps50
        go_wp2_with fail
        have B1:Below w.heap.size w ((w.alloc (.cells #[.int .i64 k,.int .i64 r,.slice a p c] 74)).alloc (.cells #[.int .i64 k,.int .i64 r,.slice b q d] 74)):=((Below.refl _ w).alloc (Nat.le_refl _) _).alloc (by simp) _
        refine (C.out _ B1).mono ?_
        rintro e w2 ⟨⟨v,rfl,hv⟩,b2⟩
        have B:Hid (Below w.heap.size w w2):=B1.trans (b2.mono B1.size)
        have V:Hid (v=true ↔ E):=hv
        clear b2 C hv B1
        cases v
        all_goals
          go_wp2
          go_ret
        · exact ⟨SaysEq.no (fun h=>by have:=V.out.2 h.2.2;cases this),B.out⟩
        · exact ⟨SaysEq.yes (by have:=V.out;simpa using this),B.out⟩
      · have hr':(r == r')=false:=by simpa using hr
        have R:Hid (¬ r=r'):=hr
        clear hr
        go_enter Tryz.func50,Tryz.ntmps50
        go_wp2_with fail
        go_ret
        exact ⟨SaysEq.no (fun h=>R.out h.2.1),((Below.refl _ w).alloc (Nat.le_refl _) _).alloc (by simp) _⟩
    · have hk':(k == k')=false:=by simpa using hk
      have R:Hid (¬ k=k'):=hk
      clear hk
      go_enter Tryz.func50,Tryz.ntmps50
      go_wp2_with fail
      go_ret
      exact ⟨SaysEq.no (fun h=>R.out h.1),((Below.refl _ w).alloc (Nat.le_refl _) _).alloc (by simp) _⟩
abbrev FV : Value := .func (.func 145) #[] #[]
theorem eqf_any (n : Nat) (IH0 : SameAt 145 n) (l m : List (TT n)) (a b : Option Addr) (c d : Nat) (w : World) (hl0 : LIn w All l a) (hm0 : LIn w All m b) (hlen : l.length ≤ 100000) (hco0 : ∀ x ∈ l, x.count ≤ 100000) :
    Calls Tryz.prog 144 #[.slice a l.length c,.slice b m.length d,FV] w fun e w'=>SaysEq e (l=m)∧Below w.heap.size w w':=by
  have IH:Hid (SameAt 145 n):=IH0
  have hl:Hid (LIn w All l a):=hl0
  have hm:Hid (LIn w All m b):=hm0
  have hco:Hid (∀ x ∈ l,x.count≤100000):=hco0
  clear IH0 hl0 hm0 hco0
  by_cases hne:l.length=m.length
  · have hne':((l.length:Int) != (m.length:Int))=false:=by simp;omega
    have E:Hid (l.length=m.length):=hne
    clear hne
    go_enter Tryz.func144,Tryz.ntmps144
    go_wp2_with fail
    go_loopw [17] (fun i wr=>∃ q:Nat,q≤l.length∧i=.int .i64 q∧(∀ j,j < q→l[j]?=m[j]?)∧Below w.heap.size w wr) (fun i _=>l.length - (intOf i).toNat)
    case atStart=>exact ⟨0,Nat.zero_le _,rfl,fun j hj=>by omega,Below.refl _ _⟩
    case round =>
      obtain ⟨q,hq,rfl,hall,hb⟩:=hrel
      have A:Hid (∀ j,j < q→l[j]?=m[j]?):=hall
      have B:Hid (Below w.heap.size w wr):=hb
      clear hall hb
      by_cases hlt:q < l.length
      · have hx:l[q]?=some l[q]:=List.getElem?_eq_getElem hlt
        have hlm:q < m.length:=by have:=E.out;omega
        have hy:m[q]?=some m[q]:=List.getElem?_eq_getElem hlm
        generalize l[q]=x at hx
        generalize m[q]=y at hy
        obtain ⟨g,o,a',c',rfl,_,d0,d1,d2,hk⟩:=LIn.at (hl.out.below B.out) hx
        obtain ⟨g',o',b',d',rfl,_,d3,d4,d5,hk'⟩:=LIn.at (hm.out.below B.out) hy
        have C:Hid (∀ wx,Below wr.heap.size wr wx→Calls Tryz.prog 145 #[Tv x a' c',Tv y b' d'] wx fun e w'=>SaysEq e (x=y)∧Below wx.heap.size wx w') :=
          fun wx hb=>IH.out x y a' b' c' d' _ (hk.below hb) (hk'.below hb) (hco.out x (List.mem_of_getElem? hx))
        have hx':Hid (l[q]?=some x):=hx
        have hy':Hid (m[q]?=some y):=hy
        have hg:g < wr.heap.size:=World.block_lt_of_cell? wr ⟨g,o + q * 3,none⟩ d0
        have hg':g' < wr.heap.size:=World.block_lt_of_cell? wr ⟨g',o' + q * 3,none⟩ d3
        clear hk hk' hx hy
        simp only [Tv] at C
        generalize x.kind=kx at C d0
        generalize x.r=rx at C d1
        generalize x.len=lx at C d2
        generalize y.kind=ky at C d3
        generalize y.r=ry at C d4
        generalize y.len=ly at C d5
        have hk0:(0:Int)≤q:=by omega
        have hk1:(q:Int) < l.length:=by omega
        have hk3:(q:Int) < m.length:=by omega
        go_wp2_with fail
        have B1:Below wr.heap.size wr ((wr.alloc (.cells #[.int .i64 kx,.int .i64 rx,.slice a' lx c'] 74)).alloc (.cells #[.int .i64 ky,.int .i64 ry,.slice b' ly d'] 74)):=((Below.refl _ wr).alloc (Nat.le_refl _) _).alloc (by simp) _
        refine (C.out _ B1).mono ?_
        rintro r w5 ⟨⟨p,rfl,hp⟩,b5⟩
        have HB:Hid (Below w.heap.size w w5):=(B.out.trans (B1.mono B.out.size)).trans (b5.mono (Nat.le_trans B.out.size B1.size))
        clear C b5 B d0 d1 d2 d3 d4 d5 B1
        cases p with
        | true =>
          have hxy:x=y:=hp.1 rfl
          have A2:Hid (∀ j,j < q + 1→l[j]?=m[j]?):=fun j hj=>by
            by_cases e:j=q
            · subst e;rw [hx'.out,hy'.out,hxy]
            · exact A.out j (by omega)
          clear hp hxy hx' hy' A
          go_wp2
          go_roundw
          case rel=>exact ⟨q + 1,by omega,by go_num,A2.out,HB.out⟩
          case measure=>simp [intOf];omega
        | false =>
          have hxy:Hid (¬ l=m):=fun h=>by
            have h1:=hx'.out
            rw [h,hy'.out] at h1
            have:=hp.2 (Option.some.inj h1).symm
            cases this
          clear hp hx' hy' A
          go_wp2
          go_ret
          exact ⟨SaysEq.no hxy.out,HB.out⟩
      · have R:Hid (l=m):=by
          have:=E.out
          refine List.ext_getElem? (fun i=>?_)
          by_cases hi:i < q
          · exact A.out i hi
          · rw [List.getElem?_eq_none (by omega),List.getElem?_eq_none (by omega)]
        have hk1:¬ (q:Int) < l.length:=by omega
        clear A
        go_wp2
        go_ret
        exact ⟨SaysEq.yes R.out,B.out⟩
  · have hne':((l.length:Int) != (m.length:Int))=true:=by simp;omega
    have E:Hid (l.length≠m.length):=hne
    clear hne
    go_enter Tryz.func144,Tryz.ntmps144
    go_wp2
    go_ret
    exact ⟨SaysEq.no (fun h=>E.out (by rw [h])),Below.refl _ _⟩
theorem same_any : ∀ n, SameAt 145 n := by
  intro n
  induction n with
  | zero=>intro t;exact Empty.elim t
  | succ n ih =>
    intro t u a b c d w ht hu hc
    have hco:∀ x ∈ t.2.2,x.count≤100000:=fun x hx=>by have:=t.count_kid hx;omega
    have hlen:t.2.2.length≤100000:=by have:=t.len_lt_count;rw [t.len_eq] at this;omega
    have C:Hid (∀ wx,Below w.heap.size w wx→Calls Tryz.prog 144 #[.slice a t.2.2.length c,.slice b u.2.2.length d,FV] wx fun e w'=>SaysEq e (t.2.2=u.2.2)∧Below wx.heap.size wx w') :=
      fun wx hb=>eqf_any n ih t.2.2 u.2.2 a b c d wx (ht.below hb) (hu.below hb) hlen hco
    rw [TT.eq_iff]
    simp only [Tv,TT.len_eq] at C ⊢
    generalize t.2.2.length=p at C ⊢
    generalize u.2.2.length=q at C ⊢
    generalize (t.2.2=u.2.2)=E at C ⊢
    generalize t.kind=k
    generalize t.r=r
    generalize u.kind=k'
    generalize u.r=r'
    clear hco hlen hc ht hu ih t u
    by_cases hk:k=k'
    · subst hk
      by_cases hr:r=r'
      · subst hr
        go_enter Tryz.func145,Tryz.ntmps145
        go_wp2_with fail
        have B1:Below w.heap.size w ((w.alloc (.cells #[.int .i64 k,.int .i64 r,.slice a p c] 74)).alloc (.cells #[.int .i64 k,.int .i64 r,.slice b q d] 74)):=((Below.refl _ w).alloc (Nat.le_refl _) _).alloc (by simp) _
        refine (C.out _ B1).mono ?_
        rintro e w2 ⟨⟨v,rfl,hv⟩,b2⟩
        have B:Hid (Below w.heap.size w w2):=B1.trans (b2.mono B1.size)
        have V:Hid (v=true ↔ E):=hv
        clear b2 C hv B1
        cases v
        all_goals
          go_wp2
          go_ret
        · exact ⟨SaysEq.no (fun h=>by have:=V.out.2 h.2.2;cases this),B.out⟩
        · exact ⟨SaysEq.yes (by have:=V.out;simpa using this),B.out⟩
      · have hr':(r == r')=false:=by simpa using hr
        have R:Hid (¬ r=r'):=hr
        clear hr
        go_enter Tryz.func145,Tryz.ntmps145
        go_wp2_with fail
        go_ret
        exact ⟨SaysEq.no (fun h=>R.out h.2.1),((Below.refl _ w).alloc (Nat.le_refl _) _).alloc (by simp) _⟩
    · have hk':(k == k')=false:=by simpa using hk
      have R:Hid (¬ k=k'):=hk
      clear hk
      go_enter Tryz.func145,Tryz.ntmps145
      go_wp2_with fail
      go_ret
      exact ⟨SaysEq.no (fun h=>R.out h.1),((Below.refl _ w).alloc (Nat.le_refl _) _).alloc (by simp) _⟩
end Go.Proofs.YtjodmledadbgeacGreatDoor
namespace Go.Proofs.YtjodmledadbgeacGreatDoor
open Go.ChangeShapes Go.WideShapes Go.ChangeAt Go.RowKit
set_option linter.unusedSimpArgs false
set_option linter.unusedVariables false
theorem MTo.eq_of {x y : MTo} (h1 : x.block = y.block) (h2 : x.regs = y.regs) (h3 : x.args = y.args) : x = y := by cases x; cases y; simp_all
theorem MIns.eq_of {x y : MIns} (h1 : x.op = y.op) (h2 : x.a = y.a) (h3 : x.b = y.b) (h4 : x.c = y.c) (h5 : x.k = y.k) (h6 : x.n = y.n) (h7 : x.regs = y.regs) (h8 : x.args = y.args) : x = y := by cases x; cases y; simp_all
theorem MEnd.eq_of {x y : MEnd} (h1 : x.op = y.op) (h2 : x.a = y.a) (h3 : x.yes = y.yes) (h4 : x.no = y.no) (h5 : x.args = y.args) : x = y := by cases x; cases y; simp_all
theorem MBlock.eq_of {n : Nat} {x y : MBlock n} (h1 : x.regs = y.regs) (h2 : x.params = y.params) (h3 : x.code = y.code) (h4 : x.fin = y.fin) : x = y := by cases x; cases y; simp_all
theorem MFunc.eq_of {n : Nat} {x y : MFunc n} (h1 : x.regs = y.regs) (h2 : x.params = y.params) (h3 : x.results = y.results) (h4 : x.blocks = y.blocks) : x = y := by cases x; cases y; simp_all
theorem bdec_congr {A B : Prop} (h : A ↔ B) : bdec A = bdec B := by rw [propext h]
theorem rd_says {f : FuncId} {args : Array Value} {w : World} {A : Prop} (h : Calls Tryz.prog f args w fun e w' => SaysEq e A ∧ Below w.heap.size w w') : Rd Tryz.prog f args w (.bool (bdec A)) :=
  h.mono fun e w' h=>by
    obtain ⟨⟨q,rfl,hq⟩,b⟩:=h
    exact ⟨by rw [bdec_of hq],b⟩
theorem sameTypes_any {n : Nat} {l m : List (TT n)} {p q : Option Addr} {c d : Nat} {w : World} (hl : (typesL n).In w All l [.slice p l.length c]) (hm : (typesL n).In w All m [.slice q m.length d]) (hs : tsmall l) : Rd Tryz.prog 25 #[.slice p l.length c, .slice q m.length d] w (.bool (bdec (l = m))) :=
  rd_says (sames_any n (samet_any n) l m p q c d w (types_lin hl).1 (types_lin hm).1 (by have:=hs.1;omega) hs.2)
theorem eqTypes_any {n : Nat} {l m : List (TT n)} {p q : Option Addr} {c d : Nat} {w : World} (hl : (typesL n).In w All l [.slice p l.length c]) (hm : (typesL n).In w All m [.slice q m.length d]) (hs : tsmall l) : Rd Tryz.prog 144 #[.slice p l.length c, .slice q m.length d, .func (.func 145) #[] #[]] w (.bool (bdec (l = m))) :=
  rd_says (eqf_any n (same_any n) l m p q c d w (types_lin hl).1 (types_lin hm).1 (by have:=hs.1;omega) hs.2)
theorem sameTo_any {x y : MTo} {pR pA qR qA : Option Addr} {cR cA dR dA : Nat} {w : World} (hx0 : TIn2 w All x pR cR pA cA) (hy0 : TIn2 w All y qR dR qA dA) (hs0 : x.small) :
    Rd Tryz.prog 52 #[.agg #[.int .i64 x.block,.slice pR x.regs.length cR,.slice pA x.args.length cA],.agg #[.int .i64 y.block,.slice qR y.regs.length dR,.slice qA y.args.length dA]] w (.bool (bdec (x=y))):=by
  have hx:Hid _:=hx0
  have hy:Hid _:=hy0
  have hs:Hid _:=hs0
  clear hx0 hy0 hs0
  refine fr_enter (n:=24) Tryz.func52 rfl rfl rfl ?_
  intro a hF
  have hW:=Wd.start w
  replace hF:Fr 24 a [(0,.agg #[.int .i64 x.block,.slice pR x.regs.length cR,.slice pA x.args.length cA]),(1,.agg #[.int .i64 y.block,.slice qR y.regs.length dR,.slice qA y.args.length dA])]:=hF
  refine wp_seq_k fun K1 hK1=>?_
  refine rg hF fun ops=>?_;clear hF a
  refine sB hW trivial rfl rfl ?_
  clear hW;intro w2 B2 hW2 hN;clear hN
  refine sB hW2 trivial rfl rfl ?_
  clear hW2;intro w3 B3 hW3 hN;clear hN
  refine sa trivial rfl rfl ?_
  refine St.nil fun a4 h4=>?_
  refine hK1 _ _ ?_
  refine wp_seq_k fun K5 hK5=>?_
  refine fr_region ?_
  intro ops hops
  have hg5:(ops[5]?).bind (fun o:Oper=>o.dst)=some 10:=hops 5
  have hg12:(ops[12]?).bind (fun o:Oper=>o.dst)=some 17:=hops 12
  clear hops
  refine St.go h4 ?_;clear h4 a4
  refine sfTo0 trivial rfl rfl ?_
  refine sbInt 1 hW3 trivial rfl rfl rfl rfl ?_
  refine sfTo0 trivial rfl rfl ?_
  refine sbInt 0 hW3 trivial rfl rfl rfl rfl ?_
  refine seq trivial rfl rfl rfl ?_
  refine sm trivial rfl rfl ?_
  intro a6 h6
  rcases Bool.eq_false_or_eq_true (x.block == y.block) with hb | hb
  ·rw [hb] at h6
   have h9:x.block=y.block:=eq_of_beq hb
   have hc7:Hid (x.block=y.block):=h9
   clear h9
   clear hb
   refine St.go h6 ?_;clear h6 a6
   refine sfTo1 ⟨_,hg5,rfl,rfl⟩ rfl rfl ?_
   refine sbInts 1 hW3 ⟨_,hg5,rfl,rfl⟩ rfl rfl rfl rfl ?_
   refine sfTo1 ⟨_,hg5,rfl,rfl⟩ rfl rfl ?_
   refine sbInts 0 hW3 ⟨_,hg5,rfl,rfl⟩ rfl rfl rfl rfl ?_
   refine sc_2 cf53 hW3 (sameInts_any x.regs y.regs pR qR cR dR w3 (Lay.below hx.out.regs hW3.bel) (Lay.below hy.out.regs hW3.bel) (by have:=hs.out.1;omega)) ⟨_,hg5,rfl,rfl⟩ rfl rfl rfl ?_
   clear hW3;intro w8 hW8
   refine sp trivial rfl rfl rfl ?_
   refine sm trivial rfl rfl ?_
   intro a9 h9
   rcases Bool.eq_false_or_eq_true (bdec (x.regs=y.regs)) with hb | hb
   ·rw [hb] at h9
    have hc10:(x.regs=y.regs):=bdec_iff.1 hb
    clear hb
    refine St.go h9 ?_;clear h9 a9
    refine sfTo2 ⟨_,hg12,rfl,rfl⟩ rfl rfl ?_
    refine sbInts 1 hW8 ⟨_,hg12,rfl,rfl⟩ rfl rfl rfl rfl ?_
    refine sfTo2 ⟨_,hg12,rfl,rfl⟩ rfl rfl ?_
    refine sbInts 0 hW8 ⟨_,hg12,rfl,rfl⟩ rfl rfl rfl rfl ?_
    refine sc_2 cf53 hW8 (sameInts_any x.args y.args pA qA cA dA w8 (Lay.below hx.out.args hW8.bel) (Lay.below hy.out.args hW8.bel) (by have:=hs.out.2;omega)) ⟨_,hg12,rfl,rfl⟩ rfl rfl rfl ?_
    clear hW8;intro w11 hW11
    refine sp trivial rfl rfl rfl ?_
    refine sa trivial rfl rfl ?_
    refine St.nil fun a12 h12=>?_
    refine hK5 _ _ ?_
    refine wp_ret ?_;with_reducible repeat first | refine of_then_ret ?_ | refine of_block_ret ?_
    have R:x.args=y.args ↔ x=y:=⟨fun h=>MTo.eq_of hc7.out hc10 h,fun e=>by rw [e]⟩
    exact ret_tmp (t:=4) h12 rfl rfl ⟨by rw [bdec_congr R],hW11.bel⟩
   rw [hb] at h9
   have hc13:¬ (x.regs=y.regs):=fun h=>by rw [bdec_true h] at hb;cases hb
   clear hb
   refine St.go h9 ?_;clear h9 a9
   refine so hg12 rfl rfl rfl rfl ?_
   refine so hg12 rfl rfl rfl rfl ?_
   refine so hg12 rfl rfl rfl rfl ?_
   refine so hg12 rfl rfl rfl rfl ?_
   refine so hg12 rfl rfl rfl rfl ?_
   refine spf trivial rfl rfl rfl ?_
   refine sa trivial rfl rfl ?_
   refine St.nil fun a14 h14=>?_
   refine hK5 _ _ ?_
   refine wp_ret ?_;with_reducible repeat first | refine of_then_ret ?_ | refine of_block_ret ?_
   have R:¬ x=y:=fun e=>hc13 (by rw [e])
   exact ret_tmp (t:=4) h14 rfl rfl ⟨by rw [bdec_false R],hW8.bel⟩
  rw [hb] at h6
  have h9:¬ x.block=y.block:=ne_of_beq_false hb
  have hc15:¬ x.block=y.block:=h9
  clear h9
  clear hb
  refine St.go h6 ?_;clear h6 a6
  refine so hg5 rfl rfl rfl rfl ?_
  refine so hg5 rfl rfl rfl rfl ?_
  refine so hg5 rfl rfl rfl rfl ?_
  refine so hg5 rfl rfl rfl rfl ?_
  refine so hg5 rfl rfl rfl rfl ?_
  refine spf trivial rfl rfl rfl ?_
  refine sm trivial rfl rfl ?_
  refine so hg12 rfl rfl rfl rfl ?_
  refine so hg12 rfl rfl rfl rfl ?_
  refine so hg12 rfl rfl rfl rfl ?_
  refine so hg12 rfl rfl rfl rfl ?_
  refine so hg12 rfl rfl rfl rfl ?_
  refine spf trivial rfl rfl rfl ?_
  refine sa trivial rfl rfl ?_
  refine St.nil fun a16 h16=>?_
  refine hK5 _ _ ?_
  refine wp_ret ?_;with_reducible repeat first | refine of_then_ret ?_ | refine of_block_ret ?_
  have R:¬ x=y:=fun e=>hc15 (by rw [e])
  exact ret_tmp (t:=4) h16 rfl rfl ⟨by rw [bdec_false R],hW3.bel⟩
theorem sameIns_any {x y : MIns} {i j : IP} {w : World} (hx0 : IIn w All x i) (hy0 : IIn w All y j) (hs0 : x.small) :
    Rd Tryz.prog 51 #[.agg #[.int .i64 x.op,.int .i64 x.a,.int .i64 x.b,.int .i64 x.c,.int .i64 x.k,.int .i64 x.n,.slice i.pR x.regs.length i.cR,.slice i.pA x.args.length i.cA],.agg #[.int .i64 y.op,.int .i64 y.a,.int .i64 y.b,.int .i64 y.c,.int .i64 y.k,.int .i64 y.n,.slice j.pR y.regs.length j.cR,.slice j.pA y.args.length j.cA]] w (.bool (bdec (x=y))):=by
  have hx:Hid _:=hx0
  have hy:Hid _:=hy0
  have hs:Hid _:=hs0
  clear hx0 hy0 hs0
  refine fr_enter (n:=59) Tryz.func51 rfl rfl rfl ?_
  intro a hF
  have hW:=Wd.start w
  replace hF:Fr 59 a [(0,.agg #[.int .i64 x.op,.int .i64 x.a,.int .i64 x.b,.int .i64 x.c,.int .i64 x.k,.int .i64 x.n,.slice i.pR x.regs.length i.cR,.slice i.pA x.args.length i.cA]),(1,.agg #[.int .i64 y.op,.int .i64 y.a,.int .i64 y.b,.int .i64 y.c,.int .i64 y.k,.int .i64 y.n,.slice j.pR y.regs.length j.cR,.slice j.pA y.args.length j.cA])]:=hF
  refine wp_seq_k fun K1 hK1=>?_
  refine rg hF fun ops=>?_;clear hF a
  refine sB hW trivial rfl rfl ?_
  clear hW;intro w2 B2 hW2 hN;clear hN
  refine sB hW2 trivial rfl rfl ?_
  clear hW2;intro w3 B3 hW3 hN;clear hN
  refine sa trivial rfl rfl ?_
  refine St.nil fun a4 h4=>?_
  refine hK1 _ _ ?_
  refine wp_seq_k fun K5 hK5=>?_
  refine fr_region ?_
  intro ops hops
  have hg5:(ops[5]?).bind (fun o:Oper=>o.dst)=some 10:=hops 5
  have hg12:(ops[12]?).bind (fun o:Oper=>o.dst)=some 17:=hops 12
  have hg19:(ops[19]?).bind (fun o:Oper=>o.dst)=some 24:=hops 19
  have hg26:(ops[26]?).bind (fun o:Oper=>o.dst)=some 31:=hops 26
  have hg33:(ops[33]?).bind (fun o:Oper=>o.dst)=some 38:=hops 33
  have hg40:(ops[40]?).bind (fun o:Oper=>o.dst)=some 45:=hops 40
  have hg47:(ops[47]?).bind (fun o:Oper=>o.dst)=some 52:=hops 47
  clear hops
  refine St.go h4 ?_;clear h4 a4
  refine sfIns0 trivial rfl rfl ?_
  refine sbInt 1 hW3 trivial rfl rfl rfl rfl ?_
  refine sfIns0 trivial rfl rfl ?_
  refine sbInt 0 hW3 trivial rfl rfl rfl rfl ?_
  refine seq trivial rfl rfl rfl ?_
  refine sm trivial rfl rfl ?_
  intro a6 h6
  rcases Bool.eq_false_or_eq_true (x.op == y.op) with hb | hb
  ·rw [hb] at h6
   have h9:x.op=y.op:=eq_of_beq hb
   have hc7:Hid (x.op=y.op):=h9
   clear h9
   clear hb
   refine St.go h6 ?_;clear h6 a6
   refine sfIns1 ⟨_,hg5,rfl,rfl⟩ rfl rfl ?_
   refine sbInt 1 hW3 ⟨_,hg5,rfl,rfl⟩ rfl rfl rfl rfl ?_
   refine sfIns1 ⟨_,hg5,rfl,rfl⟩ rfl rfl ?_
   refine sbInt 0 hW3 ⟨_,hg5,rfl,rfl⟩ rfl rfl rfl rfl ?_
   refine seq ⟨_,hg5,rfl,rfl⟩ rfl rfl rfl ?_
   refine sp trivial rfl rfl rfl ?_
   refine sm trivial rfl rfl ?_
   intro a8 h8
   rcases Bool.eq_false_or_eq_true (x.a == y.a) with hb | hb
   ·rw [hb] at h8
    have h9:x.a=y.a:=eq_of_beq hb
    have hc9:Hid (x.a=y.a):=h9
    clear h9
    clear hb
    refine St.go h8 ?_;clear h8 a8
    refine sfIns2 ⟨_,hg12,rfl,rfl⟩ rfl rfl ?_
    refine sbInt 1 hW3 ⟨_,hg12,rfl,rfl⟩ rfl rfl rfl rfl ?_
    refine sfIns2 ⟨_,hg12,rfl,rfl⟩ rfl rfl ?_
    refine sbInt 0 hW3 ⟨_,hg12,rfl,rfl⟩ rfl rfl rfl rfl ?_
    refine seq ⟨_,hg12,rfl,rfl⟩ rfl rfl rfl ?_
    refine sp trivial rfl rfl rfl ?_
    refine sm trivial rfl rfl ?_
    intro a10 h10
    rcases Bool.eq_false_or_eq_true (x.b == y.b) with hb | hb
    ·rw [hb] at h10
     have h9:x.b=y.b:=eq_of_beq hb
     have hc11:Hid (x.b=y.b):=h9
     clear h9
     clear hb
     refine St.go h10 ?_;clear h10 a10
     refine sfIns3 ⟨_,hg19,rfl,rfl⟩ rfl rfl ?_
     refine sbInt 1 hW3 ⟨_,hg19,rfl,rfl⟩ rfl rfl rfl rfl ?_
     refine sfIns3 ⟨_,hg19,rfl,rfl⟩ rfl rfl ?_
     refine sbInt 0 hW3 ⟨_,hg19,rfl,rfl⟩ rfl rfl rfl rfl ?_
     refine seq ⟨_,hg19,rfl,rfl⟩ rfl rfl rfl ?_
     refine sp trivial rfl rfl rfl ?_
     refine sm trivial rfl rfl ?_
     intro a12 h12
     rcases Bool.eq_false_or_eq_true (x.c == y.c) with hb | hb
     ·rw [hb] at h12
      have h9:x.c=y.c:=eq_of_beq hb
      have hc13:Hid (x.c=y.c):=h9
      clear h9
      clear hb
      refine St.go h12 ?_;clear h12 a12
      refine sfIns4 ⟨_,hg26,rfl,rfl⟩ rfl rfl ?_
      refine sbInt 1 hW3 ⟨_,hg26,rfl,rfl⟩ rfl rfl rfl rfl ?_
      refine sfIns4 ⟨_,hg26,rfl,rfl⟩ rfl rfl ?_
      refine sbInt 0 hW3 ⟨_,hg26,rfl,rfl⟩ rfl rfl rfl rfl ?_
      refine seq ⟨_,hg26,rfl,rfl⟩ rfl rfl rfl ?_
      refine sp trivial rfl rfl rfl ?_
      refine sm trivial rfl rfl ?_
      intro a14 h14
      rcases Bool.eq_false_or_eq_true (x.k == y.k) with hb | hb
      ·rw [hb] at h14
       have h9:x.k=y.k:=eq_of_beq hb
       have hc15:Hid (x.k=y.k):=h9
       clear h9
       clear hb
       refine St.go h14 ?_;clear h14 a14
       refine sfIns5 ⟨_,hg33,rfl,rfl⟩ rfl rfl ?_
       refine sbInt6 1 hW3 ⟨_,hg33,rfl,rfl⟩ rfl rfl rfl rfl ?_
       refine sfIns5 ⟨_,hg33,rfl,rfl⟩ rfl rfl ?_
       refine sbInt6 0 hW3 ⟨_,hg33,rfl,rfl⟩ rfl rfl rfl rfl ?_
       refine seq6 ⟨_,hg33,rfl,rfl⟩ rfl rfl rfl ?_
       refine sp trivial rfl rfl rfl ?_
       refine sm trivial rfl rfl ?_
       intro a16 h16
       rcases Bool.eq_false_or_eq_true (x.n == y.n) with hb | hb
       ·rw [hb] at h16
        have h9:x.n=y.n:=eq_of_beq hb
        have hc17:Hid (x.n=y.n):=h9
        clear h9
        clear hb
        refine St.go h16 ?_;clear h16 a16
        refine sfIns6 ⟨_,hg40,rfl,rfl⟩ rfl rfl ?_
        refine sbInts 1 hW3 ⟨_,hg40,rfl,rfl⟩ rfl rfl rfl rfl ?_
        refine sfIns6 ⟨_,hg40,rfl,rfl⟩ rfl rfl ?_
        refine sbInts 0 hW3 ⟨_,hg40,rfl,rfl⟩ rfl rfl rfl rfl ?_
        refine sc_2 cf53 hW3 (sameInts_any x.regs y.regs i.pR j.pR i.cR j.cR w3 (Lay.below hx.out.regs hW3.bel) (Lay.below hy.out.regs hW3.bel) (by have:=hs.out.1;omega)) ⟨_,hg40,rfl,rfl⟩ rfl rfl rfl ?_
        clear hW3;intro w18 hW18
        refine sp trivial rfl rfl rfl ?_
        refine sm trivial rfl rfl ?_
        intro a19 h19
        rcases Bool.eq_false_or_eq_true (bdec (x.regs=y.regs)) with hb | hb
        ·rw [hb] at h19
         have hc20:(x.regs=y.regs):=bdec_iff.1 hb
         clear hb
         refine St.go h19 ?_;clear h19 a19
         refine sfIns7 ⟨_,hg47,rfl,rfl⟩ rfl rfl ?_
         refine sbInts 1 hW18 ⟨_,hg47,rfl,rfl⟩ rfl rfl rfl rfl ?_
         refine sfIns7 ⟨_,hg47,rfl,rfl⟩ rfl rfl ?_
         refine sbInts 0 hW18 ⟨_,hg47,rfl,rfl⟩ rfl rfl rfl rfl ?_
         refine sc_2 cf53 hW18 (sameInts_any x.args y.args i.pA j.pA i.cA j.cA w18 (Lay.below hx.out.args hW18.bel) (Lay.below hy.out.args hW18.bel) (by have:=hs.out.2;omega)) ⟨_,hg47,rfl,rfl⟩ rfl rfl rfl ?_
         clear hW18;intro w21 hW21
         refine sp trivial rfl rfl rfl ?_
         refine sa trivial rfl rfl ?_
         refine St.nil fun a22 h22=>?_
         refine hK5 _ _ ?_
         refine wp_ret ?_;with_reducible repeat first | refine of_then_ret ?_ | refine of_block_ret ?_
         have R:x.args=y.args ↔ x=y:=⟨fun h=>MIns.eq_of hc7.out hc9.out hc11.out hc13.out hc15.out hc17.out hc20 h,fun e=>by rw [e]⟩
         exact ret_tmp (t:=4) h22 rfl rfl ⟨by rw [bdec_congr R],hW21.bel⟩
        rw [hb] at h19
        have hc23:¬ (x.regs=y.regs):=fun h=>by rw [bdec_true h] at hb;cases hb
        clear hb
        refine St.go h19 ?_;clear h19 a19
        refine so hg47 rfl rfl rfl rfl ?_
        refine so hg47 rfl rfl rfl rfl ?_
        refine so hg47 rfl rfl rfl rfl ?_
        refine so hg47 rfl rfl rfl rfl ?_
        refine so hg47 rfl rfl rfl rfl ?_
        refine spf trivial rfl rfl rfl ?_
        refine sa trivial rfl rfl ?_
        refine St.nil fun a24 h24=>?_
        refine hK5 _ _ ?_
        refine wp_ret ?_;with_reducible repeat first | refine of_then_ret ?_ | refine of_block_ret ?_
        have R:¬ x=y:=fun e=>hc23 (by rw [e])
        exact ret_tmp (t:=4) h24 rfl rfl ⟨by rw [bdec_false R],hW18.bel⟩
       rw [hb] at h16
       have h9:¬ x.n=y.n:=ne_of_beq_false hb
       have hc25:¬ x.n=y.n:=h9
       clear h9
       clear hb
       refine St.go h16 ?_;clear h16 a16
       refine so hg40 rfl rfl rfl rfl ?_
       refine so hg40 rfl rfl rfl rfl ?_
       refine so hg40 rfl rfl rfl rfl ?_
       refine so hg40 rfl rfl rfl rfl ?_
       refine so hg40 rfl rfl rfl rfl ?_
       refine spf trivial rfl rfl rfl ?_
       refine sm trivial rfl rfl ?_
       refine so hg47 rfl rfl rfl rfl ?_
       refine so hg47 rfl rfl rfl rfl ?_
       refine so hg47 rfl rfl rfl rfl ?_
       refine so hg47 rfl rfl rfl rfl ?_
       refine so hg47 rfl rfl rfl rfl ?_
       refine spf trivial rfl rfl rfl ?_
       refine sa trivial rfl rfl ?_
       refine St.nil fun a26 h26=>?_
       refine hK5 _ _ ?_
       refine wp_ret ?_;with_reducible repeat first | refine of_then_ret ?_ | refine of_block_ret ?_
       have R:¬ x=y:=fun e=>hc25 (by rw [e])
       exact ret_tmp (t:=4) h26 rfl rfl ⟨by rw [bdec_false R],hW3.bel⟩
      rw [hb] at h14
      have h9:¬ x.k=y.k:=ne_of_beq_false hb
      have hc27:¬ x.k=y.k:=h9
      clear h9
      clear hb
      refine St.go h14 ?_;clear h14 a14
      refine so hg33 rfl rfl rfl rfl ?_
      refine so hg33 rfl rfl rfl rfl ?_
      refine so hg33 rfl rfl rfl rfl ?_
      refine so hg33 rfl rfl rfl rfl ?_
      refine so hg33 rfl rfl rfl rfl ?_
      refine spf trivial rfl rfl rfl ?_
      refine sm trivial rfl rfl ?_
      refine so hg40 rfl rfl rfl rfl ?_
      refine so hg40 rfl rfl rfl rfl ?_
      refine so hg40 rfl rfl rfl rfl ?_
      refine so hg40 rfl rfl rfl rfl ?_
      refine so hg40 rfl rfl rfl rfl ?_
      refine spf trivial rfl rfl rfl ?_
      refine sm trivial rfl rfl ?_
      refine so hg47 rfl rfl rfl rfl ?_
      refine so hg47 rfl rfl rfl rfl ?_
      refine so hg47 rfl rfl rfl rfl ?_
      refine so hg47 rfl rfl rfl rfl ?_
      refine so hg47 rfl rfl rfl rfl ?_
      refine spf trivial rfl rfl rfl ?_
      refine sa trivial rfl rfl ?_
      refine St.nil fun a28 h28=>?_
      refine hK5 _ _ ?_
      refine wp_ret ?_;with_reducible repeat first | refine of_then_ret ?_ | refine of_block_ret ?_
      have R:¬ x=y:=fun e=>hc27 (by rw [e])
      exact ret_tmp (t:=4) h28 rfl rfl ⟨by rw [bdec_false R],hW3.bel⟩
     rw [hb] at h12
     have h9:¬ x.c=y.c:=ne_of_beq_false hb
     have hc29:¬ x.c=y.c:=h9
     clear h9
     clear hb
     refine St.go h12 ?_;clear h12 a12
     refine so hg26 rfl rfl rfl rfl ?_
     refine so hg26 rfl rfl rfl rfl ?_
     refine so hg26 rfl rfl rfl rfl ?_
     refine so hg26 rfl rfl rfl rfl ?_
     refine so hg26 rfl rfl rfl rfl ?_
     refine spf trivial rfl rfl rfl ?_
     refine sm trivial rfl rfl ?_
     refine so hg33 rfl rfl rfl rfl ?_
     refine so hg33 rfl rfl rfl rfl ?_
     refine so hg33 rfl rfl rfl rfl ?_
     refine so hg33 rfl rfl rfl rfl ?_
     refine so hg33 rfl rfl rfl rfl ?_
     refine spf trivial rfl rfl rfl ?_
     refine sm trivial rfl rfl ?_
     refine so hg40 rfl rfl rfl rfl ?_
     refine so hg40 rfl rfl rfl rfl ?_
     refine so hg40 rfl rfl rfl rfl ?_
     refine so hg40 rfl rfl rfl rfl ?_
     refine so hg40 rfl rfl rfl rfl ?_
     refine spf trivial rfl rfl rfl ?_
     refine sm trivial rfl rfl ?_
     refine so hg47 rfl rfl rfl rfl ?_
     refine so hg47 rfl rfl rfl rfl ?_
     refine so hg47 rfl rfl rfl rfl ?_
     refine so hg47 rfl rfl rfl rfl ?_
     refine so hg47 rfl rfl rfl rfl ?_
     refine spf trivial rfl rfl rfl ?_
     refine sa trivial rfl rfl ?_
     refine St.nil fun a30 h30=>?_
     refine hK5 _ _ ?_
     refine wp_ret ?_;with_reducible repeat first | refine of_then_ret ?_ | refine of_block_ret ?_
     have R:¬ x=y:=fun e=>hc29 (by rw [e])
     exact ret_tmp (t:=4) h30 rfl rfl ⟨by rw [bdec_false R],hW3.bel⟩
    rw [hb] at h10
    have h9:¬ x.b=y.b:=ne_of_beq_false hb
    have hc31:¬ x.b=y.b:=h9
    clear h9
    clear hb
    refine St.go h10 ?_;clear h10 a10
    refine so hg19 rfl rfl rfl rfl ?_
    refine so hg19 rfl rfl rfl rfl ?_
    refine so hg19 rfl rfl rfl rfl ?_
    refine so hg19 rfl rfl rfl rfl ?_
    refine so hg19 rfl rfl rfl rfl ?_
    refine spf trivial rfl rfl rfl ?_
    refine sm trivial rfl rfl ?_
    refine so hg26 rfl rfl rfl rfl ?_
    refine so hg26 rfl rfl rfl rfl ?_
    refine so hg26 rfl rfl rfl rfl ?_
    refine so hg26 rfl rfl rfl rfl ?_
    refine so hg26 rfl rfl rfl rfl ?_
    refine spf trivial rfl rfl rfl ?_
    refine sm trivial rfl rfl ?_
    refine so hg33 rfl rfl rfl rfl ?_
    refine so hg33 rfl rfl rfl rfl ?_
    refine so hg33 rfl rfl rfl rfl ?_
    refine so hg33 rfl rfl rfl rfl ?_
    refine so hg33 rfl rfl rfl rfl ?_
    refine spf trivial rfl rfl rfl ?_
    refine sm trivial rfl rfl ?_
    refine so hg40 rfl rfl rfl rfl ?_
    refine so hg40 rfl rfl rfl rfl ?_
    refine so hg40 rfl rfl rfl rfl ?_
    refine so hg40 rfl rfl rfl rfl ?_
    refine so hg40 rfl rfl rfl rfl ?_
    refine spf trivial rfl rfl rfl ?_
    refine sm trivial rfl rfl ?_
    refine so hg47 rfl rfl rfl rfl ?_
    refine so hg47 rfl rfl rfl rfl ?_
    refine so hg47 rfl rfl rfl rfl ?_
    refine so hg47 rfl rfl rfl rfl ?_
    refine so hg47 rfl rfl rfl rfl ?_
    refine spf trivial rfl rfl rfl ?_
    refine sa trivial rfl rfl ?_
    refine St.nil fun a32 h32=>?_
    refine hK5 _ _ ?_
    refine wp_ret ?_;with_reducible repeat first | refine of_then_ret ?_ | refine of_block_ret ?_
    have R:¬ x=y:=fun e=>hc31 (by rw [e])
    exact ret_tmp (t:=4) h32 rfl rfl ⟨by rw [bdec_false R],hW3.bel⟩
   rw [hb] at h8
   have h9:¬ x.a=y.a:=ne_of_beq_false hb
   have hc33:¬ x.a=y.a:=h9
   clear h9
   clear hb
   refine St.go h8 ?_;clear h8 a8
   refine so hg12 rfl rfl rfl rfl ?_
   refine so hg12 rfl rfl rfl rfl ?_
   refine so hg12 rfl rfl rfl rfl ?_
   refine so hg12 rfl rfl rfl rfl ?_
   refine so hg12 rfl rfl rfl rfl ?_
   refine spf trivial rfl rfl rfl ?_
   refine sm trivial rfl rfl ?_
   refine so hg19 rfl rfl rfl rfl ?_
   refine so hg19 rfl rfl rfl rfl ?_
   refine so hg19 rfl rfl rfl rfl ?_
   refine so hg19 rfl rfl rfl rfl ?_
   refine so hg19 rfl rfl rfl rfl ?_
   refine spf trivial rfl rfl rfl ?_
   refine sm trivial rfl rfl ?_
   refine so hg26 rfl rfl rfl rfl ?_
   refine so hg26 rfl rfl rfl rfl ?_
   refine so hg26 rfl rfl rfl rfl ?_
   refine so hg26 rfl rfl rfl rfl ?_
   refine so hg26 rfl rfl rfl rfl ?_
   refine spf trivial rfl rfl rfl ?_
   refine sm trivial rfl rfl ?_
   refine so hg33 rfl rfl rfl rfl ?_
   refine so hg33 rfl rfl rfl rfl ?_
   refine so hg33 rfl rfl rfl rfl ?_
   refine so hg33 rfl rfl rfl rfl ?_
   refine so hg33 rfl rfl rfl rfl ?_
   refine spf trivial rfl rfl rfl ?_
   refine sm trivial rfl rfl ?_
   refine so hg40 rfl rfl rfl rfl ?_
   refine so hg40 rfl rfl rfl rfl ?_
   refine so hg40 rfl rfl rfl rfl ?_
   refine so hg40 rfl rfl rfl rfl ?_
   refine so hg40 rfl rfl rfl rfl ?_
   refine spf trivial rfl rfl rfl ?_
   refine sm trivial rfl rfl ?_
   refine so hg47 rfl rfl rfl rfl ?_
   refine so hg47 rfl rfl rfl rfl ?_
   refine so hg47 rfl rfl rfl rfl ?_
   refine so hg47 rfl rfl rfl rfl ?_
   refine so hg47 rfl rfl rfl rfl ?_
   refine spf trivial rfl rfl rfl ?_
   refine sa trivial rfl rfl ?_
   refine St.nil fun a34 h34=>?_
   refine hK5 _ _ ?_
   refine wp_ret ?_;with_reducible repeat first | refine of_then_ret ?_ | refine of_block_ret ?_
   have R:¬ x=y:=fun e=>hc33 (by rw [e])
   exact ret_tmp (t:=4) h34 rfl rfl ⟨by rw [bdec_false R],hW3.bel⟩
  rw [hb] at h6
  have h9:¬ x.op=y.op:=ne_of_beq_false hb
  have hc35:¬ x.op=y.op:=h9
  clear h9
  clear hb
  refine St.go h6 ?_;clear h6 a6
  refine so hg5 rfl rfl rfl rfl ?_
  refine so hg5 rfl rfl rfl rfl ?_
  refine so hg5 rfl rfl rfl rfl ?_
  refine so hg5 rfl rfl rfl rfl ?_
  refine so hg5 rfl rfl rfl rfl ?_
  refine spf trivial rfl rfl rfl ?_
  refine sm trivial rfl rfl ?_
  refine so hg12 rfl rfl rfl rfl ?_
  refine so hg12 rfl rfl rfl rfl ?_
  refine so hg12 rfl rfl rfl rfl ?_
  refine so hg12 rfl rfl rfl rfl ?_
  refine so hg12 rfl rfl rfl rfl ?_
  refine spf trivial rfl rfl rfl ?_
  refine sm trivial rfl rfl ?_
  refine so hg19 rfl rfl rfl rfl ?_
  refine so hg19 rfl rfl rfl rfl ?_
  refine so hg19 rfl rfl rfl rfl ?_
  refine so hg19 rfl rfl rfl rfl ?_
  refine so hg19 rfl rfl rfl rfl ?_
  refine spf trivial rfl rfl rfl ?_
  refine sm trivial rfl rfl ?_
  refine so hg26 rfl rfl rfl rfl ?_
  refine so hg26 rfl rfl rfl rfl ?_
  refine so hg26 rfl rfl rfl rfl ?_
  refine so hg26 rfl rfl rfl rfl ?_
  refine so hg26 rfl rfl rfl rfl ?_
  refine spf trivial rfl rfl rfl ?_
  refine sm trivial rfl rfl ?_
  refine so hg33 rfl rfl rfl rfl ?_
  refine so hg33 rfl rfl rfl rfl ?_
  refine so hg33 rfl rfl rfl rfl ?_
  refine so hg33 rfl rfl rfl rfl ?_
  refine so hg33 rfl rfl rfl rfl ?_
  refine spf trivial rfl rfl rfl ?_
  refine sm trivial rfl rfl ?_
  refine so hg40 rfl rfl rfl rfl ?_
  refine so hg40 rfl rfl rfl rfl ?_
  refine so hg40 rfl rfl rfl rfl ?_
  refine so hg40 rfl rfl rfl rfl ?_
  refine so hg40 rfl rfl rfl rfl ?_
  refine spf trivial rfl rfl rfl ?_
  refine sm trivial rfl rfl ?_
  refine so hg47 rfl rfl rfl rfl ?_
  refine so hg47 rfl rfl rfl rfl ?_
  refine so hg47 rfl rfl rfl rfl ?_
  refine so hg47 rfl rfl rfl rfl ?_
  refine so hg47 rfl rfl rfl rfl ?_
  refine spf trivial rfl rfl rfl ?_
  refine sa trivial rfl rfl ?_
  refine St.nil fun a36 h36=>?_
  refine hK5 _ _ ?_
  refine wp_ret ?_;with_reducible repeat first | refine of_then_ret ?_ | refine of_block_ret ?_
  have R:¬ x=y:=fun e=>hc35 (by rw [e])
  exact ret_tmp (t:=4) h36 rfl rfl ⟨by rw [bdec_false R],hW3.bel⟩
end Go.Proofs.YtjodmledadbgeacGreatDoor
namespace Go.Proofs.YtjodmledadbgeacGreatDoor
open Go.ChangeShapes Go.WideShapes Go.ChangeAt Go.RowKit
set_option linter.unusedVariables false
def fieldsV (op : Int) : Value := match fieldsOf op with
  | some (a,b,c,k,n,rg,ar)=>.tuple #[.agg #[.bool a,.bool b,.bool c,.bool k,.bool n,.bool rg,.bool ar],.bool true]
  | none=>.tuple #[.agg #[.bool false,.bool false,.bool false,.bool false,.bool false,.bool false,.bool false],.bool false]
theorem op_cases (op : Int) : op = 1 ∨ op = 2 ∨ op = 3 ∨ op = 4 ∨ op = 5 ∨ op = 6 ∨ op = 7 ∨ op = 8 ∨ op = 9 ∨ op = 10 ∨ op = 11 ∨ op = 12 ∨ op = 13 ∨ op = 14 ∨ (op ≠ 1 ∧ op ≠ 2 ∧ op ≠ 3 ∧ op ≠ 4 ∧ op ≠ 5 ∧ op ≠ 6 ∧ op ≠ 7 ∧ op ≠ 8 ∧ op ≠ 9 ∧ op ≠ 10 ∧ op ≠ 11 ∧ op ≠ 12 ∧ op ≠ 13 ∧ op ≠ 14) := by omega
theorem fieldsOf_any (op : Int) (w : World) :
    Calls Tryz.prog 81 #[.int .i64 op] w fun e w'=>e=.returned (fieldsV op)∧Below w.heap.size w w':=by
  rcases op_cases op with rfl | rfl | rfl | rfl | rfl | rfl | rfl | rfl | rfl | rfl | rfl | rfl | rfl | rfl | ⟨n1,n2,n3,n4,n5,n6,n7,n8,n9,n10,n11,n12,n13,n14⟩
  · rw [show fieldsV 1=.tuple #[.agg #[.bool false,.bool false,.bool false,.bool false,.bool true,.bool false,.bool false],.bool true] from rfl]
    go_enter Tryz.func81,Tryz.ntmps81
    go_wp2_with fail
    exact bodyPost_ret (v:=.tuple #[.agg #[.bool false,.bool false,.bool false,.bool false,.bool true,.bool false,.bool false],.bool true]) (by simp [results,Tryz.results81,go_sem]) rfl ⟨rfl,by first | exact (Below.refl _ w).alloc (Nat.le_refl _) _ | (repeat (first | exact (Below.refl _ w).alloc (Nat.le_refl _) _ | refine Below.setCell ?_ (by simp) _))⟩
  · rw [show fieldsV 2=.tuple #[.agg #[.bool true,.bool true,.bool false,.bool true,.bool false,.bool false,.bool false],.bool true] from rfl]
    go_enter Tryz.func81,Tryz.ntmps81
    go_wp2_with fail
    exact bodyPost_ret (v:=.tuple #[.agg #[.bool true,.bool true,.bool false,.bool true,.bool false,.bool false,.bool false],.bool true]) (by simp [results,Tryz.results81,go_sem]) rfl ⟨rfl,by first | exact (Below.refl _ w).alloc (Nat.le_refl _) _ | (repeat (first | exact (Below.refl _ w).alloc (Nat.le_refl _) _ | refine Below.setCell ?_ (by simp) _))⟩
  · rw [show fieldsV 3=.tuple #[.agg #[.bool false,.bool false,.bool false,.bool false,.bool false,.bool false,.bool false],.bool true] from rfl]
    go_enter Tryz.func81,Tryz.ntmps81
    go_wp2_with fail
    exact bodyPost_ret (v:=.tuple #[.agg #[.bool false,.bool false,.bool false,.bool false,.bool false,.bool false,.bool false],.bool true]) (by simp [results,Tryz.results81,go_sem]) rfl ⟨rfl,by first | exact (Below.refl _ w).alloc (Nat.le_refl _) _ | (repeat (first | exact (Below.refl _ w).alloc (Nat.le_refl _) _ | refine Below.setCell ?_ (by simp) _))⟩
  · rw [show fieldsV 4=.tuple #[.agg #[.bool true,.bool false,.bool false,.bool false,.bool false,.bool false,.bool false],.bool true] from rfl]
    go_enter Tryz.func81,Tryz.ntmps81
    go_wp2_with fail
    exact bodyPost_ret (v:=.tuple #[.agg #[.bool true,.bool false,.bool false,.bool false,.bool false,.bool false,.bool false],.bool true]) (by simp [results,Tryz.results81,go_sem]) rfl ⟨rfl,by first | exact (Below.refl _ w).alloc (Nat.le_refl _) _ | (repeat (first | exact (Below.refl _ w).alloc (Nat.le_refl _) _ | refine Below.setCell ?_ (by simp) _))⟩
  · rw [show fieldsV 5=.tuple #[.agg #[.bool true,.bool false,.bool false,.bool false,.bool false,.bool false,.bool true],.bool true] from rfl]
    go_enter Tryz.func81,Tryz.ntmps81
    go_wp2_with fail
    exact bodyPost_ret (v:=.tuple #[.agg #[.bool true,.bool false,.bool false,.bool false,.bool false,.bool false,.bool true],.bool true]) (by simp [results,Tryz.results81,go_sem]) rfl ⟨rfl,by first | exact (Below.refl _ w).alloc (Nat.le_refl _) _ | (repeat (first | exact (Below.refl _ w).alloc (Nat.le_refl _) _ | refine Below.setCell ?_ (by simp) _))⟩
  · rw [show fieldsV 6=.tuple #[.agg #[.bool true,.bool false,.bool false,.bool true,.bool false,.bool false,.bool false],.bool true] from rfl]
    go_enter Tryz.func81,Tryz.ntmps81
    go_wp2_with fail
    exact bodyPost_ret (v:=.tuple #[.agg #[.bool true,.bool false,.bool false,.bool true,.bool false,.bool false,.bool false],.bool true]) (by simp [results,Tryz.results81,go_sem]) rfl ⟨rfl,by first | exact (Below.refl _ w).alloc (Nat.le_refl _) _ | (repeat (first | exact (Below.refl _ w).alloc (Nat.le_refl _) _ | refine Below.setCell ?_ (by simp) _))⟩
  · rw [show fieldsV 7=.tuple #[.agg #[.bool true,.bool true,.bool false,.bool true,.bool false,.bool false,.bool false],.bool true] from rfl]
    go_enter Tryz.func81,Tryz.ntmps81
    go_wp2_with fail
    exact bodyPost_ret (v:=.tuple #[.agg #[.bool true,.bool true,.bool false,.bool true,.bool false,.bool false,.bool false],.bool true]) (by simp [results,Tryz.results81,go_sem]) rfl ⟨rfl,by first | exact (Below.refl _ w).alloc (Nat.le_refl _) _ | (repeat (first | exact (Below.refl _ w).alloc (Nat.le_refl _) _ | refine Below.setCell ?_ (by simp) _))⟩
  · rw [show fieldsV 8=.tuple #[.agg #[.bool true,.bool true,.bool false,.bool false,.bool false,.bool false,.bool false],.bool true] from rfl]
    go_enter Tryz.func81,Tryz.ntmps81
    go_wp2_with fail
    exact bodyPost_ret (v:=.tuple #[.agg #[.bool true,.bool true,.bool false,.bool false,.bool false,.bool false,.bool false],.bool true]) (by simp [results,Tryz.results81,go_sem]) rfl ⟨rfl,by first | exact (Below.refl _ w).alloc (Nat.le_refl _) _ | (repeat (first | exact (Below.refl _ w).alloc (Nat.le_refl _) _ | refine Below.setCell ?_ (by simp) _))⟩
  · rw [show fieldsV 9=.tuple #[.agg #[.bool true,.bool true,.bool false,.bool false,.bool false,.bool false,.bool false],.bool true] from rfl]
    go_enter Tryz.func81,Tryz.ntmps81
    go_wp2_with fail
    exact bodyPost_ret (v:=.tuple #[.agg #[.bool true,.bool true,.bool false,.bool false,.bool false,.bool false,.bool false],.bool true]) (by simp [results,Tryz.results81,go_sem]) rfl ⟨rfl,by first | exact (Below.refl _ w).alloc (Nat.le_refl _) _ | (repeat (first | exact (Below.refl _ w).alloc (Nat.le_refl _) _ | refine Below.setCell ?_ (by simp) _))⟩
  · rw [show fieldsV 10=.tuple #[.agg #[.bool true,.bool true,.bool true,.bool false,.bool false,.bool false,.bool false],.bool true] from rfl]
    go_enter Tryz.func81,Tryz.ntmps81
    go_wp2_with fail
    exact bodyPost_ret (v:=.tuple #[.agg #[.bool true,.bool true,.bool true,.bool false,.bool false,.bool false,.bool false],.bool true]) (by simp [results,Tryz.results81,go_sem]) rfl ⟨rfl,by first | exact (Below.refl _ w).alloc (Nat.le_refl _) _ | (repeat (first | exact (Below.refl _ w).alloc (Nat.le_refl _) _ | refine Below.setCell ?_ (by simp) _))⟩
  · rw [show fieldsV 11=.tuple #[.agg #[.bool true,.bool false,.bool false,.bool false,.bool false,.bool false,.bool false],.bool true] from rfl]
    go_enter Tryz.func81,Tryz.ntmps81
    go_wp2_with fail
    exact bodyPost_ret (v:=.tuple #[.agg #[.bool true,.bool false,.bool false,.bool false,.bool false,.bool false,.bool false],.bool true]) (by simp [results,Tryz.results81,go_sem]) rfl ⟨rfl,by first | exact (Below.refl _ w).alloc (Nat.le_refl _) _ | (repeat (first | exact (Below.refl _ w).alloc (Nat.le_refl _) _ | refine Below.setCell ?_ (by simp) _))⟩
  · rw [show fieldsV 12=.tuple #[.agg #[.bool false,.bool false,.bool false,.bool false,.bool false,.bool false,.bool false],.bool true] from rfl]
    go_enter Tryz.func81,Tryz.ntmps81
    go_wp2_with fail
    exact bodyPost_ret (v:=.tuple #[.agg #[.bool false,.bool false,.bool false,.bool false,.bool false,.bool false,.bool false],.bool true]) (by simp [results,Tryz.results81,go_sem]) rfl ⟨rfl,by first | exact (Below.refl _ w).alloc (Nat.le_refl _) _ | (repeat (first | exact (Below.refl _ w).alloc (Nat.le_refl _) _ | refine Below.setCell ?_ (by simp) _))⟩
  · rw [show fieldsV 13=.tuple #[.agg #[.bool true,.bool false,.bool false,.bool false,.bool false,.bool false,.bool false],.bool true] from rfl]
    go_enter Tryz.func81,Tryz.ntmps81
    go_wp2_with fail
    exact bodyPost_ret (v:=.tuple #[.agg #[.bool true,.bool false,.bool false,.bool false,.bool false,.bool false,.bool false],.bool true]) (by simp [results,Tryz.results81,go_sem]) rfl ⟨rfl,by first | exact (Below.refl _ w).alloc (Nat.le_refl _) _ | (repeat (first | exact (Below.refl _ w).alloc (Nat.le_refl _) _ | refine Below.setCell ?_ (by simp) _))⟩
  · rw [show fieldsV 14=.tuple #[.agg #[.bool false,.bool false,.bool false,.bool true,.bool false,.bool true,.bool true],.bool true] from rfl]
    go_enter Tryz.func81,Tryz.ntmps81
    go_wp2_with fail
    exact bodyPost_ret (v:=.tuple #[.agg #[.bool false,.bool false,.bool false,.bool true,.bool false,.bool true,.bool true],.bool true]) (by simp [results,Tryz.results81,go_sem]) rfl ⟨rfl,by first | exact (Below.refl _ w).alloc (Nat.le_refl _) _ | (repeat (first | exact (Below.refl _ w).alloc (Nat.le_refl _) _ | refine Below.setCell ?_ (by simp) _))⟩
  · rw [show fieldsV op=.tuple #[.agg #[.bool false,.bool false,.bool false,.bool false,.bool false,.bool false,.bool false],.bool false] by unfold fieldsV fieldsOf;simp [n1,n2,n3,n4,n5,n6,n7,n8,n9,n10,n11,n12,n13,n14]]
    have g1:(op == 1)=false:=by simpa using n1
    have g2:(op == 2)=false:=by simpa using n2
    have g3:(op == 3)=false:=by simpa using n3
    have g4:(op == 4)=false:=by simpa using n4
    have g5:(op == 5)=false:=by simpa using n5
    have g6:(op == 6)=false:=by simpa using n6
    have g7:(op == 7)=false:=by simpa using n7
    have g8:(op == 8)=false:=by simpa using n8
    have g9:(op == 9)=false:=by simpa using n9
    have g10:(op == 10)=false:=by simpa using n10
    have g11:(op == 11)=false:=by simpa using n11
    have g12:(op == 12)=false:=by simpa using n12
    have g13:(op == 13)=false:=by simpa using n13
    have g14:(op == 14)=false:=by simpa using n14
    clear n1 n2 n3 n4 n5 n6 n7 n8 n9 n10 n11 n12 n13 n14
    go_enter Tryz.func81,Tryz.ntmps81
    go_wp2_with fail
    exact bodyPost_ret (v:=.tuple #[.agg #[.bool false,.bool false,.bool false,.bool false,.bool false,.bool false,.bool false],.bool false]) (by simp [results,Tryz.results81,go_sem]) rfl ⟨rfl,by first | exact (Below.refl _ w).alloc (Nat.le_refl _) _ | (repeat (first | exact (Below.refl _ w).alloc (Nat.le_refl _) _ | refine Below.setCell ?_ (by simp) _))⟩
def insForm (funcs : Nat) (op a b c k n : Int) (rl al : Nat) : Int :=
  match fieldsOf op with
  | none=>3
  | some (fa,fb,fc,fk,fn,fr,fs) =>
    if (!fa && a != 0) || (!fb && b != 0) || (!fc && c != 0) || (!fk && k != 0) || (!fn && n != 0) || (!fr && decide (0 < rl)) || (!fs && decide (0 < al)) then 4
    else if op=2∧(k < 1 ∨ 9 < k) then 1
    else if op=5∧8 < al then 2
    else if (op=6 ∨ op=7)∧(k < 0 ∨ 7 < k) then 1
    else if op=14∧(k < 0 ∨ (funcs:Int)≤k) then 1
    else if op=14∧(6 < rl ∨ 8 < al) then 2
    else 0
theorem MIns.form_eq (funcs : Nat) (x : MIns) : x.form funcs = insForm funcs x.op x.a x.b x.c x.k x.n x.regs.length x.args.length := by
  unfold MIns.form MIns.formless insForm
  cases fieldsOf x.op with
  | none=>rfl
  | some p=>obtain ⟨a,b,c,k,n,r,s⟩:=p;rfl
end Go.Proofs.YtjodmledadbgeacGreatDoor
namespace Go.Proofs.YtjodmledadbgeacGreatDoor
open Go.ChangeShapes Go.WideShapes Go.ChangeAt Go.RowKit
set_option linter.unusedSimpArgs false
set_option linter.unusedVariables false
theorem rdFieldsSome {op : Int} {fa fb fc fk fn fr fs : Bool} (hop : fieldsOf op = some (fa, fb, fc, fk, fn, fr, fs)) (w : World) : Rd Tryz.prog 81 #[.int .i64 op] w (.tuple #[.agg #[.bool fa, .bool fb, .bool fc, .bool fk, .bool fn, .bool fr, .bool fs], .bool true]) := by
  have:=fieldsOf_any op w
  rwa [show fieldsV op=.tuple #[.agg #[.bool fa,.bool fb,.bool fc,.bool fk,.bool fn,.bool fr,.bool fs],.bool true] from by unfold fieldsV;rw [hop]] at this
theorem rdFieldsNo {op : Int} (hop : fieldsOf op = none) (w : World) : Rd Tryz.prog 81 #[.int .i64 op] w (.tuple #[.agg #[.bool false, .bool false, .bool false, .bool false, .bool false, .bool false, .bool false], .bool false]) := by
  have:=fieldsOf_any op w
  rwa [show fieldsV op=.tuple #[.agg #[.bool false,.bool false,.bool false,.bool false,.bool false,.bool false,.bool false],.bool false] from by unfold fieldsV;rw [hop]] at this
theorem insForm_d {lm : Nat} {op a b c k n : Int} {rl al : Nat} {fa fb fc fk fn fr fs d1 d2 d3 d4 d5 d6 d7 : Bool} (e : fieldsOf op = some (fa, fb, fc, fk, fn, fr, fs))
    (h1:d1=(!fa && a != 0)) (h2:d2=(d1 || (!fb && b != 0))) (h3:d3=(d2 || (!fc && c != 0))) (h4:d4=(d3 || (!fk && k != 0))) (h5:d5=(d4 || (!fn && n != 0))) (h6:d6=(d5 || (!fr && decide ((0:Int) < (rl:Int))))) (h7:d7=(d6 || (!fs && decide ((0:Int) < (al:Int))))) :
    insForm lm op a b c k n rl al=if d7 then 4
    else if op=2∧(k < 1 ∨ 9 < k) then 1
    else if op=5∧8 < al then 2
    else if (op=6 ∨ op=7)∧(k < 0 ∨ 7 < k) then 1
    else if op=14∧(k < 0 ∨ (lm:Int)≤k) then 1
    else if op=14∧(6 < rl ∨ 8 < al) then 2
    else 0:=by
  subst h1 h2 h3 h4 h5 h6 h7
  simp only [insForm,e]
  have e1:decide ((0:Int) < (rl:Int))=decide (0 < rl):=by simp
  have e2:decide ((0:Int) < (al:Int))=decide (0 < al):=by simp
  rw [e1,e2]
def rangeC (x l m : Int) : Int := if x < l ∨ m < x then 1 else 0
def manyC (len : Nat) (m : Int) : Int := if m < len then 2 else 0
def handedC (r : Nat) (m : Int) (s : Nat) : Int := if manyC r m ≠ 0 then manyC r m else manyC s 8
theorem wrap_add (p q : Nat) (h : p + q < 4611686018427387904) : IntKind.i64.wrap ((p : Int) + (q : Int)) = (p : Int) + (q : Int) := by
  have e1:((p:Int) + (q:Int)) % 2 ^ 64=(p:Int) + (q:Int):=by omega
  simp only [IntKind.wrap,IntKind.signed,IntKind.bits,e1,Bool.true_and]
  rw [if_neg (by simp only [decide_eq_true_eq];omega)]
theorem rangeCode_any {x l m : Int} {w : World}  :
    Rd Tryz.prog 146 #[.int .i64 x,.int .i64 l,.int .i64 m] w (.int .i64 (rangeC x l m)):=by
  refine fr_enter (n:=15) Tryz.func146 rfl rfl rfl ?_
  intro a hF
  have hW:=Wd.start w
  replace hF:Fr 15 a [(0,.int .i64 x),(1,.int .i64 l),(2,.int .i64 m)]:=hF
  refine wp_seq_k fun K1 hK1=>?_
  refine rg hF fun ops=>?_;clear hF a
  refine sa trivial rfl rfl ?_
  refine St.nil fun a2 h2=>?_
  refine hK1 _ _ ?_
  refine wp_seq_k fun K3 hK3=>?_
  refine wp_seq_k fun K4 hK4=>?_
  refine fr_region ?_
  intro ops hops
  have hg3:(ops[3]?).bind (fun o:Oper=>o.dst)=some 10:=hops 3
  clear hops
  refine St.go h2 ?_;clear h2 a2
  refine sm trivial rfl rfl ?_
  refine sm trivial rfl rfl ?_
  refine slt trivial rfl rfl rfl ?_
  refine sm trivial rfl rfl ?_
  intro a5 h5
  rcases Bool.eq_false_or_eq_true (decide (x < l)) with hb | hb
  ·rw [hb] at h5
   have hc6:x < l:=of_decide_eq_true hb
   clear hb
   refine St.go h5 ?_;clear h5 a5
   refine so hg3 rfl rfl rfl rfl ?_
   refine so hg3 rfl rfl rfl rfl ?_
   refine so hg3 rfl rfl rfl rfl ?_
   refine sp trivial rfl rfl rfl ?_
   refine St.nil fun a7 h7=>?_
   refine hK4 _ _ ?_
   refine fr_true (t:=14) h7 rfl ?_
   refine wp_seq_k fun K8 hK8=>?_
   refine rg h7 fun ops=>?_;clear h7 a7
   refine sa trivial rfl rfl ?_
   refine St.nil fun a9 h9=>?_
   refine hK8 _ _ ?_
   refine wp_ret ?_;with_reducible repeat first | refine of_then_ret ?_ | refine of_block_ret ?_
   have R:rangeC x l m=1:=by simp [rangeC,hc6]
   exact ret_tmp (t:=6) h9 rfl rfl ⟨by rw [R],hW.bel⟩
  rw [hb] at h5
  have hc10:¬ (x < l):=of_decide_eq_false hb
  clear hb
  refine St.go h5 ?_;clear h5 a5
  refine sm ⟨_,hg3,rfl,rfl⟩ rfl rfl ?_
  refine sm ⟨_,hg3,rfl,rfl⟩ rfl rfl ?_
  refine sgt ⟨_,hg3,rfl,rfl⟩ rfl rfl rfl ?_
  refine spf trivial rfl rfl rfl ?_
  refine St.nil fun a11 h11=>?_
  refine hK4 _ _ ?_
  refine fr_cond (t:=14) h11 rfl (fun hb=>?_) (fun hb=>?_)
  ·have hc12:m < x:=of_decide_eq_true hb
   clear hb
   refine wp_seq_k fun K13 hK13=>?_
   refine rg h11 fun ops=>?_;clear h11 a11
   refine sa trivial rfl rfl ?_
   refine St.nil fun a14 h14=>?_
   refine hK13 _ _ ?_
   refine wp_ret ?_;with_reducible repeat first | refine of_then_ret ?_ | refine of_block_ret ?_
   have R:rangeC x l m=1:=by simp [rangeC,hc10,hc12]
   exact ret_tmp (t:=6) h14 rfl rfl ⟨by rw [R],hW.bel⟩
  have hc15:¬ (m < x):=of_decide_eq_false hb
  clear hb
  refine wp_skip ?_
  refine hK3 _ _ ?_
  refine wp_seq_k fun K16 hK16=>?_
  refine rg h11 fun ops=>?_;clear h11 a11
  refine sa trivial rfl rfl ?_
  refine St.nil fun a17 h17=>?_
  refine hK16 _ _ ?_
  refine wp_ret ?_;with_reducible repeat first | refine of_then_ret ?_ | refine of_block_ret ?_
  have R:rangeC x l m=0:=by simp [rangeC,hc10,hc15]
  exact ret_tmp (t:=6) h17 rfl rfl ⟨by rw [R],hW.bel⟩
theorem manyCode_any {p : Option Addr} {len c : Nat} {m : Int} {w : World}  :
    Rd Tryz.prog 147 #[.slice p len c,.int .i64 m] w (.int .i64 (manyC len m)):=by
  refine fr_enter (n:=9) Tryz.func147 rfl rfl rfl ?_
  intro a hF
  have hW:=Wd.start w
  replace hF:Fr 9 a [(0,.slice p len c),(1,.int .i64 m)]:=hF
  refine wp_seq_k fun K1 hK1=>?_
  refine rg hF fun ops=>?_;clear hF a
  refine sa trivial rfl rfl ?_
  refine St.nil fun a2 h2=>?_
  refine hK1 _ _ ?_
  refine wp_seq_k fun K3 hK3=>?_
  refine wp_seq_k fun K4 hK4=>?_
  refine rg h2 fun ops=>?_;clear h2 a2
  refine sm trivial rfl rfl ?_
  refine slInts trivial rfl rfl ?_
  refine sm trivial rfl rfl ?_
  refine sgt trivial rfl rfl rfl ?_
  refine St.nil fun a5 h5=>?_
  refine hK4 _ _ ?_
  refine fr_cond (t:=8) h5 rfl (fun hb=>?_) (fun hb=>?_)
  ·have hc6:m < (len:Int):=of_decide_eq_true hb
   clear hb
   refine wp_seq_k fun K7 hK7=>?_
   refine rg h5 fun ops=>?_;clear h5 a5
   refine sa trivial rfl rfl ?_
   refine St.nil fun a8 h8=>?_
   refine hK7 _ _ ?_
   refine wp_ret ?_;with_reducible repeat first | refine of_then_ret ?_ | refine of_block_ret ?_
   have R:manyC len m=2:=by simp [manyC,hc6]
   exact ret_tmp (t:=4) h8 rfl rfl ⟨by rw [R],hW.bel⟩
  have hc9:¬ (m < (len:Int)):=of_decide_eq_false hb
  clear hb
  refine wp_skip ?_
  refine hK3 _ _ ?_
  refine wp_seq_k fun K10 hK10=>?_
  refine rg h5 fun ops=>?_;clear h5 a5
  refine sa trivial rfl rfl ?_
  refine St.nil fun a11 h11=>?_
  refine hK10 _ _ ?_
  refine wp_ret ?_;with_reducible repeat first | refine of_then_ret ?_ | refine of_block_ret ?_
  have R:manyC len m=0:=by simp [manyC,hc9]
  exact ret_tmp (t:=4) h11 rfl rfl ⟨by rw [R],hW.bel⟩
theorem handedCode_any {p q : Option Addr} {r c s d : Nat} {m : Int} {w : World}  :
    Rd Tryz.prog 148 #[.slice p r c,.int .i64 m,.slice q s d] w (.int .i64 (handedC r m s)):=by
  refine fr_enter (n:=16) Tryz.func148 rfl rfl rfl ?_
  intro a hF
  have hW:=Wd.start w
  replace hF:Fr 16 a [(0,.slice p r c),(1,.int .i64 m),(2,.slice q s d)]:=hF
  refine wp_seq_k fun K1 hK1=>?_
  refine rg hF fun ops=>?_;clear hF a
  refine sa trivial rfl rfl ?_
  refine St.nil fun a2 h2=>?_
  refine hK1 _ _ ?_
  refine wp_seq_k fun K3 hK3=>?_
  refine wp_seq_k fun K4 hK4=>?_
  refine rg h2 fun ops=>?_;clear h2 a2
  refine sm trivial rfl rfl ?_
  refine sm trivial rfl rfl ?_
  refine sc_2 cf147 hW (manyCode_any) trivial rfl rfl rfl ?_
  clear hW;intro w5 hW5
  refine sa trivial rfl rfl ?_
  refine St.nil fun a6 h6=>?_
  refine hK4 _ _ ?_
  refine wp_seq_k fun K7 hK7=>?_
  refine rg h6 fun ops=>?_;clear h6 a6
  refine sm trivial rfl rfl ?_
  refine sne trivial rfl rfl rfl ?_
  refine St.nil fun a8 h8=>?_
  refine hK7 _ _ ?_
  refine fr_cond (t:=12) h8 rfl (fun hb=>?_) (fun hb=>?_)
  ·have h9:¬ (manyC r m)=0:=bne_iff_ne.1 hb
   have hc9:¬ (manyC r m)=0:=h9
   clear h9
   clear hb
   refine wp_seq_k fun K10 hK10=>?_
   refine rg h8 fun ops=>?_;clear h8 a8
   refine sm trivial rfl rfl ?_
   refine sa trivial rfl rfl ?_
   refine St.nil fun a11 h11=>?_
   refine hK10 _ _ ?_
   refine wp_ret ?_;with_reducible repeat first | refine of_then_ret ?_ | refine of_block_ret ?_
   have R:handedC r m s=manyC r m:=by simp [handedC,hc9]
   exact ret_tmp (t:=6) h11 rfl rfl ⟨by rw [R],hW5.bel⟩
  have h9:(manyC r m)=0:=bne_eq_false_iff_eq.1 hb
  have hc12:Hid ((manyC r m)=0):=h9
  clear h9
  clear hb
  refine wp_skip ?_
  refine hK3 _ _ ?_
  refine wp_seq_k fun K13 hK13=>?_
  refine rg h8 fun ops=>?_;clear h8 a8
  refine sm trivial rfl rfl ?_
  refine sc_2 cf147 hW5 (manyCode_any) trivial rfl rfl rfl ?_
  clear hW5;intro w14 hW14
  refine sa trivial rfl rfl ?_
  refine St.nil fun a15 h15=>?_
  refine hK13 _ _ ?_
  refine wp_ret ?_;with_reducible repeat first | refine of_then_ret ?_ | refine of_block_ret ?_
  have R:handedC r m s=manyC s 8:=by simp [handedC,hc12.out]
  exact ret_tmp (t:=6) h15 rfl rfl ⟨by rw [R],hW14.bel⟩
theorem wrap_pred (p : Nat) (h : p < 4611686018427387904) : IntKind.i64.wrap ((p : Int) - 1) = (p : Int) - 1 := by
  rcases Nat.eq_zero_or_pos p with rfl | hp
  · decide +kernel
  · have e1:((p:Int) - 1) % 2 ^ 64=(p:Int) - 1:=by omega
    simp only [IntKind.wrap,IntKind.signed,IntKind.bits,e1,Bool.true_and]
    rw [if_neg (by simp only [decide_eq_true_eq];omega)]
theorem toForm_eq (x : MTo) (bl : Nat) : x.form bl true = if rangeC x.block 0 ((bl : Int) - 1) = 0 then handedC x.regs.length 16 x.args.length else rangeC x.block 0 ((bl : Int) - 1) := by
  unfold MTo.form rangeC handedC manyC
  simp only [Bool.true_eq_false,if_false]
  repeat' split
  all_goals omega
theorem toForm_no (x : MTo) (bl : Nat) : x.form bl false = if x.block = 0 ∧ x.regs.length = 0 ∧ x.args.length = 0 then 0 else 4 := by
  unfold MTo.form
  simp only [if_true]
  repeat' split
  all_goals omega
theorem endForm_eq (e : MEnd) (bl : Nat) : e.form bl = if e.op < 1 ∨ 3 < e.op then 3 else if (e.op ≠ 2 ∧ e.a ≠ 0) ∨ (e.op ≠ 3 ∧ 0 < e.args.length) then 4 else if 8 < e.args.length then 2
    else if e.yes.form bl (e.op != 3)=0 then e.no.form bl (e.op == 2) else e.yes.form bl (e.op != 3):=by
  unfold MEnd.form
  have h1:decide (e.op≠3)=(e.op != 3):=by by_cases h:e.op=3 <;> simp [h]
  have h2:decide (e.op=2)=(e.op == 2):=by by_cases h:e.op=2 <;> simp [h]
  rw [h1,h2]
  by_cases c1:e.op < 1 ∨ 3 < e.op
  · simp [c1]
  · rw [if_neg c1,if_neg c1]
    by_cases c2:(e.op≠2∧e.a≠0) ∨ (e.op≠3∧0 < e.args.length)
    · rw [if_pos c2,if_pos (c2.imp (fun h=>⟨h.2,h.1⟩) (fun h=>⟨h.2,h.1⟩))]
    · rw [if_neg c2,if_neg (fun h=>c2 (h.imp (fun h=>⟨h.2,h.1⟩) (fun h=>⟨h.2,h.1⟩)))]
      by_cases c3:8 < e.args.length
      · simp [c3]
      · rw [if_neg c3,if_neg c3]
        by_cases c4:e.yes.form bl (e.op != 3)=0
        · simp [c4]
        · simp [c4]
theorem toFormF {x : MTo} {pR pA : Option Addr} {cR cA : Nat} {fr : Int} {fp fq fb : Option Addr} {fl fc fm fd bl fe : Nat} {w : World} (hr : x.regs.length < 2305843009213693952) (ha : x.args.length < 2305843009213693952) (hbl : bl < 2305843009213693952) :
    Rd Tryz.prog 82 #[.agg #[.int .i64 fr,.slice fp fl fc,.slice fq fm fd,.slice fb bl fe],.agg #[.int .i64 x.block,.slice pR x.regs.length cR,.slice pA x.args.length cA],.bool false] w (.int .i64 (x.form bl false)):=by
  refine fr_enter (n:=43) Tryz.func82 rfl rfl rfl ?_
  intro a hF
  have hW:=Wd.start w
  replace hF:Fr 43 a [(0,.agg #[.int .i64 fr,.slice fp fl fc,.slice fq fm fd,.slice fb bl fe]),(1,.agg #[.int .i64 x.block,.slice pR x.regs.length cR,.slice pA x.args.length cA]),(2,.bool false)]:=hF
  refine wp_seq_k fun K1 hK1=>?_
  refine rg hF fun ops=>?_;clear hF a
  refine sB hW trivial rfl rfl ?_
  clear hW;intro w2 B2 hW2 hN;clear hN
  refine sB hW2 trivial rfl rfl ?_
  clear hW2;intro w3 B3 hW3 hN;clear hN
  refine sa trivial rfl rfl ?_
  refine St.nil fun a4 h4=>?_
  refine hK1 _ _ ?_
  refine wp_seq_k fun K5 hK5=>?_
  refine wp_seq_k fun K6 hK6=>?_
  refine rg h4 fun ops=>?_;clear h4 a4
  refine sm trivial rfl rfl ?_
  refine sn trivial rfl rfl ?_
  refine St.nil fun a7 h7=>?_
  refine hK6 _ _ ?_
  refine fr_true (t:=8) h7 rfl ?_
  refine wp_seq_k fun K8 hK8=>?_
  refine wp_seq_k fun K9 hK9=>?_
  refine fr_region ?_
  intro ops hops
  have hg3:(ops[3]?).bind (fun o:Oper=>o.dst)=some 12:=hops 3
  clear hops
  refine St.go h7 ?_;clear h7 a7
  refine sfTo0 trivial rfl rfl ?_
  refine sbInt 0 hW3 trivial rfl rfl rfl rfl ?_
  refine sne trivial rfl rfl rfl ?_
  refine sm trivial rfl rfl ?_
  intro a10 h10
  rcases Bool.eq_false_or_eq_true (x.block != 0) with hb | hb
  ·rw [hb] at h10
   have h9:¬ x.block=0:=bne_iff_ne.1 hb
   have hc11:¬ x.block=0:=h9
   clear h9
   clear hb
   refine St.go h10 ?_;clear h10 a10
   refine so hg3 rfl rfl rfl rfl ?_
   refine so hg3 rfl rfl rfl rfl ?_
   refine so hg3 rfl rfl rfl rfl ?_
   refine so hg3 rfl rfl rfl rfl ?_
   refine so hg3 rfl rfl rfl rfl ?_
   refine so hg3 rfl rfl rfl rfl ?_
   refine so hg3 rfl rfl rfl rfl ?_
   refine so hg3 rfl rfl rfl rfl ?_
   refine sp trivial rfl rfl rfl ?_
   refine St.nil fun a12 h12=>?_
   refine hK9 _ _ ?_
   refine fr_true (t:=21) h12 rfl ?_
   refine wp_seq_k fun K13 hK13=>?_
   refine rg h12 fun ops=>?_;clear h12 a12
   refine sa trivial rfl rfl ?_
   refine St.nil fun a14 h14=>?_
   refine hK13 _ _ ?_
   refine wp_ret ?_;with_reducible repeat first | refine of_then_ret ?_ | refine of_block_ret ?_
   have R:x.form bl false=4:=by have:=hc11;rw [toForm_no];split <;> omega
   exact ret_tmp (t:=6) h14 rfl rfl ⟨by rw [R],hW3.bel⟩
  rw [hb] at h10
  have h9:x.block=0:=bne_eq_false_iff_eq.1 hb
  have hc15:Hid (x.block=0):=h9
  clear h9
  clear hb
  refine St.go h10 ?_;clear h10 a10
  refine sfTo1 ⟨_,hg3,rfl,rfl⟩ rfl rfl ?_
  refine sbInts 0 hW3 ⟨_,hg3,rfl,rfl⟩ rfl rfl rfl rfl ?_
  refine slInts ⟨_,hg3,rfl,rfl⟩ rfl rfl ?_
  refine sfTo2 ⟨_,hg3,rfl,rfl⟩ rfl rfl ?_
  refine sbInts 0 hW3 ⟨_,hg3,rfl,rfl⟩ rfl rfl rfl rfl ?_
  refine slInts ⟨_,hg3,rfl,rfl⟩ rfl rfl ?_
  intro a16 h16
  refine fr_pure_g (t:=19) (g:=3) (tg:=12) (want:=false) (v:=.int .i64 ((x.regs.length + x.args.length:Nat):Int)) (w':=w3) h16 rfl rfl hg3 rfl rfl rfl (fun K hK=>?_) ?_
  ·have k0:a16.tmps.getD 15 undef=.int .i64 (x.regs.length:Int):=h16.sl 15 _ rfl
   have k1:a16.tmps.getD 18 undef=.int .i64 (x.args.length:Int):=h16.sl 18 _ rfl
   have hwr:IntKind.i64.wrap ((x.regs.length:Int) + (x.args.length:Int))=(x.regs.length:Int) + (x.args.length:Int):=wrap_add _ _ (by omega)
   go_simp
   exact hK
  clear h16;intro a17 hF17
  refine St.go hF17 ?_;clear hF17 a17
  refine sgt ⟨_,hg3,rfl,rfl⟩ rfl rfl rfl ?_
  refine spf trivial rfl rfl rfl ?_
  refine St.nil fun a18 h18=>?_
  refine hK9 _ _ ?_
  refine fr_cond (t:=21) h18 rfl (fun hb=>?_) (fun hb=>?_)
  ·have hc19:0 < ((x.regs.length + x.args.length:Nat):Int):=of_decide_eq_true hb
   clear hb
   refine wp_seq_k fun K20 hK20=>?_
   refine rg h18 fun ops=>?_;clear h18 a18
   refine sa trivial rfl rfl ?_
   refine St.nil fun a21 h21=>?_
   refine hK20 _ _ ?_
   refine wp_ret ?_;with_reducible repeat first | refine of_then_ret ?_ | refine of_block_ret ?_
   have R:x.form bl false=4:=by have:=hc15.out;have:=hc19;rw [toForm_no];split <;> omega
   exact ret_tmp (t:=6) h21 rfl rfl ⟨by rw [R],hW3.bel⟩
  have hc22:¬ (0 < ((x.regs.length + x.args.length:Nat):Int)):=of_decide_eq_false hb
  clear hb
  refine wp_skip ?_
  refine hK8 _ _ ?_
  refine wp_seq_k fun K23 hK23=>?_
  refine rg h18 fun ops=>?_;clear h18 a18
  refine sa trivial rfl rfl ?_
  refine St.nil fun a24 h24=>?_
  refine hK23 _ _ ?_
  refine wp_ret ?_;with_reducible repeat first | refine of_then_ret ?_ | refine of_block_ret ?_
  have R:x.form bl false=0:=by have:=hc15.out;have:=hc22;rw [toForm_no];split <;> omega
  exact ret_tmp (t:=6) h24 rfl rfl ⟨by rw [R],hW3.bel⟩
theorem toFormT {x : MTo} {pR pA : Option Addr} {cR cA : Nat} {fr : Int} {fp fq fb : Option Addr} {fl fc fm fd bl fe : Nat} {w : World} (hr : x.regs.length < 2305843009213693952) (ha : x.args.length < 2305843009213693952) (hbl : bl < 2305843009213693952) :
    Rd Tryz.prog 82 #[.agg #[.int .i64 fr,.slice fp fl fc,.slice fq fm fd,.slice fb bl fe],.agg #[.int .i64 x.block,.slice pR x.regs.length cR,.slice pA x.args.length cA],.bool true] w (.int .i64 (x.form bl true)):=by
  refine fr_enter (n:=43) Tryz.func82 rfl rfl rfl ?_
  intro a hF
  have hW:=Wd.start w
  replace hF:Fr 43 a [(0,.agg #[.int .i64 fr,.slice fp fl fc,.slice fq fm fd,.slice fb bl fe]),(1,.agg #[.int .i64 x.block,.slice pR x.regs.length cR,.slice pA x.args.length cA]),(2,.bool true)]:=hF
  refine wp_seq_k fun K1 hK1=>?_
  refine rg hF fun ops=>?_;clear hF a
  refine sB hW trivial rfl rfl ?_
  clear hW;intro w2 B2 hW2 hN;clear hN
  refine sB hW2 trivial rfl rfl ?_
  clear hW2;intro w3 B3 hW3 hN;clear hN
  refine sa trivial rfl rfl ?_
  refine St.nil fun a4 h4=>?_
  refine hK1 _ _ ?_
  refine wp_seq_k fun K5 hK5=>?_
  refine wp_seq_k fun K6 hK6=>?_
  refine rg h4 fun ops=>?_;clear h4 a4
  refine sm trivial rfl rfl ?_
  refine sn trivial rfl rfl ?_
  refine St.nil fun a7 h7=>?_
  refine hK6 _ _ ?_
  refine fr_false (t:=8) h7 rfl ?_
  refine wp_skip ?_
  refine hK5 _ _ ?_
  refine wp_seq_k fun K8 hK8=>?_
  refine wp_seq_k fun K9 hK9=>?_
  refine fr_region ?_
  intro ops hops
  have hg3:(ops[3]?).bind (fun o:Oper=>o.dst)=some 25:=hops 3
  clear hops
  refine St.go h7 ?_;clear h7 a7
  refine sfTo0 trivial rfl rfl ?_
  refine sbInt 0 hW3 trivial rfl rfl rfl rfl ?_
  refine slt trivial rfl rfl rfl ?_
  refine sm trivial rfl rfl ?_
  intro a10 h10
  rcases Bool.eq_false_or_eq_true (decide (x.block < 0)) with hb | hb
  ·rw [hb] at h10
   have hc11:x.block < 0:=of_decide_eq_true hb
   clear hb
   refine St.go h10 ?_;clear h10 a10
   refine so hg3 rfl rfl rfl rfl ?_
   refine so hg3 rfl rfl rfl rfl ?_
   refine so hg3 rfl rfl rfl rfl ?_
   refine so hg3 rfl rfl rfl rfl ?_
   refine so hg3 rfl rfl rfl rfl ?_
   refine so hg3 rfl rfl rfl rfl ?_
   refine sp trivial rfl rfl rfl ?_
   refine St.nil fun a12 h12=>?_
   refine hK9 _ _ ?_
   refine fr_true (t:=32) h12 rfl ?_
   refine wp_seq_k fun K13 hK13=>?_
   refine rg h12 fun ops=>?_;clear h12 a12
   refine sa trivial rfl rfl ?_
   refine St.nil fun a14 h14=>?_
   refine hK13 _ _ ?_
   refine wp_ret ?_;with_reducible repeat first | refine of_then_ret ?_ | refine of_block_ret ?_
   have R:x.form bl true=1:=by simp [MTo.form,hc11]
   exact ret_tmp (t:=6) h14 rfl rfl ⟨by rw [R],hW3.bel⟩
  rw [hb] at h10
  have hc15:¬ (x.block < 0):=of_decide_eq_false hb
  clear hb
  refine St.go h10 ?_;clear h10 a10
  refine sfTo0 ⟨_,hg3,rfl,rfl⟩ rfl rfl ?_
  refine sbInt 0 hW3 ⟨_,hg3,rfl,rfl⟩ rfl rfl rfl rfl ?_
  refine sfFunc3 ⟨_,hg3,rfl,rfl⟩ rfl rfl ?_
  refine sbBlocks 1 hW3 ⟨_,hg3,rfl,rfl⟩ rfl rfl rfl rfl ?_
  refine slBlocks ⟨_,hg3,rfl,rfl⟩ rfl rfl ?_
  refine sge ⟨_,hg3,rfl,rfl⟩ rfl rfl rfl ?_
  refine spf trivial rfl rfl rfl ?_
  refine St.nil fun a16 h16=>?_
  refine hK9 _ _ ?_
  refine fr_cond (t:=32) h16 rfl (fun hb=>?_) (fun hb=>?_)
  ·have hc17:(bl:Int)≤x.block:=of_decide_eq_true hb
   clear hb
   refine wp_seq_k fun K18 hK18=>?_
   refine rg h16 fun ops=>?_;clear h16 a16
   refine sa trivial rfl rfl ?_
   refine St.nil fun a19 h19=>?_
   refine hK18 _ _ ?_
   refine wp_ret ?_;with_reducible repeat first | refine of_then_ret ?_ | refine of_block_ret ?_
   have R:x.form bl true=1:=by simp [MTo.form,hc15,hc17]
   exact ret_tmp (t:=6) h19 rfl rfl ⟨by rw [R],hW3.bel⟩
  have hc20:¬ ((bl:Int)≤x.block):=of_decide_eq_false hb
  clear hb
  refine wp_skip ?_
  refine hK8 _ _ ?_
  refine wp_seq_k fun K21 hK21=>?_
  refine wp_seq_k fun K22 hK22=>?_
  refine fr_region ?_
  intro ops hops
  have hg4:(ops[4]?).bind (fun o:Oper=>o.dst)=some 37:=hops 4
  clear hops
  refine St.go h16 ?_;clear h16 a16
  refine sfTo1 trivial rfl rfl ?_
  refine sbInts 0 hW3 trivial rfl rfl rfl rfl ?_
  refine slInts trivial rfl rfl ?_
  refine sgt trivial rfl rfl rfl ?_
  refine sm trivial rfl rfl ?_
  intro a23 h23
  rcases Bool.eq_false_or_eq_true (decide (16 < (x.regs.length:Int))) with hb | hb
  ·rw [hb] at h23
   have hc24:16 < x.regs.length:=by have:=of_decide_eq_true hb;omega
   clear hb
   refine St.go h23 ?_;clear h23 a23
   refine so hg4 rfl rfl rfl rfl ?_
   refine so hg4 rfl rfl rfl rfl ?_
   refine so hg4 rfl rfl rfl rfl ?_
   refine so hg4 rfl rfl rfl rfl ?_
   refine sp trivial rfl rfl rfl ?_
   refine St.nil fun a25 h25=>?_
   refine hK22 _ _ ?_
   refine fr_true (t:=42) h25 rfl ?_
   refine wp_seq_k fun K26 hK26=>?_
   refine rg h25 fun ops=>?_;clear h25 a25
   refine sa trivial rfl rfl ?_
   refine St.nil fun a27 h27=>?_
   refine hK26 _ _ ?_
   refine wp_ret ?_;with_reducible repeat first | refine of_then_ret ?_ | refine of_block_ret ?_
   have R:x.form bl true=2:=by simp [MTo.form,hc15,hc20,hc24]
   exact ret_tmp (t:=6) h27 rfl rfl ⟨by rw [R],hW3.bel⟩
  rw [hb] at h23
  have hc28:¬ (16 < x.regs.length):=by have:=of_decide_eq_false hb;omega
  clear hb
  refine St.go h23 ?_;clear h23 a23
  refine sfTo2 ⟨_,hg4,rfl,rfl⟩ rfl rfl ?_
  refine sbInts 0 hW3 ⟨_,hg4,rfl,rfl⟩ rfl rfl rfl rfl ?_
  refine slInts ⟨_,hg4,rfl,rfl⟩ rfl rfl ?_
  refine sgt ⟨_,hg4,rfl,rfl⟩ rfl rfl rfl ?_
  refine spf trivial rfl rfl rfl ?_
  refine St.nil fun a29 h29=>?_
  refine hK22 _ _ ?_
  refine fr_cond (t:=42) h29 rfl (fun hb=>?_) (fun hb=>?_)
  ·have hc30:8 < x.args.length:=by have:=of_decide_eq_true hb;omega
   clear hb
   refine wp_seq_k fun K31 hK31=>?_
   refine rg h29 fun ops=>?_;clear h29 a29
   refine sa trivial rfl rfl ?_
   refine St.nil fun a32 h32=>?_
   refine hK31 _ _ ?_
   refine wp_ret ?_;with_reducible repeat first | refine of_then_ret ?_ | refine of_block_ret ?_
   have R:x.form bl true=2:=by simp [MTo.form,hc15,hc20,hc28,hc30]
   exact ret_tmp (t:=6) h32 rfl rfl ⟨by rw [R],hW3.bel⟩
  have hc33:¬ (8 < x.args.length):=by have:=of_decide_eq_false hb;omega
  clear hb
  refine wp_skip ?_
  refine hK21 _ _ ?_
  refine wp_seq_k fun K34 hK34=>?_
  refine rg h29 fun ops=>?_;clear h29 a29
  refine sa trivial rfl rfl ?_
  refine St.nil fun a35 h35=>?_
  refine hK34 _ _ ?_
  refine wp_ret ?_;with_reducible repeat first | refine of_then_ret ?_ | refine of_block_ret ?_
  have R:x.form bl true=0:=by simp [MTo.form,hc15,hc20,hc28,hc33]
  exact ret_tmp (t:=6) h35 rfl rfl ⟨by rw [R],hW3.bel⟩
theorem toForm_any {x : MTo} {pR pA : Option Addr} {cR cA : Nat} {fr : Int} {fp fq fb : Option Addr} {fl fc fm fd bl fe : Nat} (has : Bool) {w : World} (hr : x.regs.length < 2305843009213693952) (ha : x.args.length < 2305843009213693952) (hbl : bl < 2305843009213693952) :
    Rd Tryz.prog 82 #[.agg #[.int .i64 fr,.slice fp fl fc,.slice fq fm fd,.slice fb bl fe],.agg #[.int .i64 x.block,.slice pR x.regs.length cR,.slice pA x.args.length cA],.bool has] w (.int .i64 (x.form bl has)):=by
  cases has
  · exact toFormF hr ha hbl
  · exact toFormT hr ha hbl
theorem toCodeF {x : MTo} {pR pA : Option Addr} {cR cA : Nat} {fr : Int} {fp fq fb : Option Addr} {fl fc fm fd bl fe : Nat} {w : World} (hr : x.regs.length < 2305843009213693952) (ha : x.args.length < 2305843009213693952) (hbl : bl < 2305843009213693952) :
    Rd Tryz.prog 123 #[.agg #[.int .i64 fr,.slice fp fl fc,.slice fq fm fd,.slice fb bl fe],.agg #[.int .i64 x.block,.slice pR x.regs.length cR,.slice pA x.args.length cA],.bool false] w (.int .i64 (x.form bl false)):=by
  refine fr_enter (n:=40) Tryz.func123 rfl rfl rfl ?_
  intro a hF
  have hW:=Wd.start w
  replace hF:Fr 40 a [(0,.agg #[.int .i64 fr,.slice fp fl fc,.slice fq fm fd,.slice fb bl fe]),(1,.agg #[.int .i64 x.block,.slice pR x.regs.length cR,.slice pA x.args.length cA]),(2,.bool false)]:=hF
  refine wp_seq_k fun K1 hK1=>?_
  refine rg hF fun ops=>?_;clear hF a
  refine sB hW trivial rfl rfl ?_
  clear hW;intro w2 B2 hW2 hN;clear hN
  refine sB hW2 trivial rfl rfl ?_
  clear hW2;intro w3 B3 hW3 hN;clear hN
  refine sa trivial rfl rfl ?_
  refine St.nil fun a4 h4=>?_
  refine hK1 _ _ ?_
  refine wp_seq_k fun K5 hK5=>?_
  refine wp_seq_k fun K6 hK6=>?_
  refine rg h4 fun ops=>?_;clear h4 a4
  refine sm trivial rfl rfl ?_
  refine sn trivial rfl rfl ?_
  refine St.nil fun a7 h7=>?_
  refine hK6 _ _ ?_
  refine fr_true (t:=9) h7 rfl ?_
  refine wp_seq_k fun K8 hK8=>?_
  refine wp_seq_k fun K9 hK9=>?_
  refine fr_region ?_
  intro ops hops
  have hg3:(ops[3]?).bind (fun o:Oper=>o.dst)=some 13:=hops 3
  have hg9:(ops[9]?).bind (fun o:Oper=>o.dst)=some 19:=hops 9
  clear hops
  refine St.go h7 ?_;clear h7 a7
  refine sfTo0 trivial rfl rfl ?_
  refine sbInt 0 hW3 trivial rfl rfl rfl rfl ?_
  refine sne trivial rfl rfl rfl ?_
  refine sm trivial rfl rfl ?_
  intro a10 h10
  rcases Bool.eq_false_or_eq_true (x.block != 0) with hb | hb
  ·rw [hb] at h10
   have h9:¬ x.block=0:=bne_iff_ne.1 hb
   have hc11:¬ x.block=0:=h9
   clear h9
   clear hb
   refine St.go h10 ?_;clear h10 a10
   refine so hg3 rfl rfl rfl rfl ?_
   refine so hg3 rfl rfl rfl rfl ?_
   refine so hg3 rfl rfl rfl rfl ?_
   refine so hg3 rfl rfl rfl rfl ?_
   refine sp trivial rfl rfl rfl ?_
   refine sm trivial rfl rfl ?_
   refine so hg9 rfl rfl rfl rfl ?_
   refine so hg9 rfl rfl rfl rfl ?_
   refine so hg9 rfl rfl rfl rfl ?_
   refine so hg9 rfl rfl rfl rfl ?_
   refine sp trivial rfl rfl rfl ?_
   refine St.nil fun a12 h12=>?_
   refine hK9 _ _ ?_
   refine fr_true (t:=24) h12 rfl ?_
   refine wp_seq_k fun K13 hK13=>?_
   refine rg h12 fun ops=>?_;clear h12 a12
   refine sa trivial rfl rfl ?_
   refine St.nil fun a14 h14=>?_
   refine hK13 _ _ ?_
   refine wp_ret ?_;with_reducible repeat first | refine of_then_ret ?_ | refine of_block_ret ?_
   have R:x.form bl false=4:=by have:=hc11;rw [toForm_no];split <;> omega
   exact ret_tmp (t:=6) h14 rfl rfl ⟨by rw [R],hW3.bel⟩
  rw [hb] at h10
  have h9:x.block=0:=bne_eq_false_iff_eq.1 hb
  have hc15:Hid (x.block=0):=h9
  clear h9
  clear hb
  refine St.go h10 ?_;clear h10 a10
  refine sfTo1 ⟨_,hg3,rfl,rfl⟩ rfl rfl ?_
  refine sbInts 0 hW3 ⟨_,hg3,rfl,rfl⟩ rfl rfl rfl rfl ?_
  refine slInts ⟨_,hg3,rfl,rfl⟩ rfl rfl ?_
  refine sgt ⟨_,hg3,rfl,rfl⟩ rfl rfl rfl ?_
  refine spf trivial rfl rfl rfl ?_
  refine sm trivial rfl rfl ?_
  intro a16 h16
  rcases Bool.eq_false_or_eq_true (decide (0 < (x.regs.length:Int))) with hb | hb
  ·rw [hb] at h16
   have hc17:0 < x.regs.length:=by have:=of_decide_eq_true hb;omega
   clear hb
   refine St.go h16 ?_;clear h16 a16
   refine so hg9 rfl rfl rfl rfl ?_
   refine so hg9 rfl rfl rfl rfl ?_
   refine so hg9 rfl rfl rfl rfl ?_
   refine so hg9 rfl rfl rfl rfl ?_
   refine sp trivial rfl rfl rfl ?_
   refine St.nil fun a18 h18=>?_
   refine hK9 _ _ ?_
   refine fr_true (t:=24) h18 rfl ?_
   refine wp_seq_k fun K19 hK19=>?_
   refine rg h18 fun ops=>?_;clear h18 a18
   refine sa trivial rfl rfl ?_
   refine St.nil fun a20 h20=>?_
   refine hK19 _ _ ?_
   refine wp_ret ?_;with_reducible repeat first | refine of_then_ret ?_ | refine of_block_ret ?_
   have R:x.form bl false=4:=by have:=hc15.out;have:=hc17;rw [toForm_no];split <;> omega
   exact ret_tmp (t:=6) h20 rfl rfl ⟨by rw [R],hW3.bel⟩
  rw [hb] at h16
  have hc21:¬ (0 < x.regs.length):=by have:=of_decide_eq_false hb;omega
  clear hb
  refine St.go h16 ?_;clear h16 a16
  refine sfTo2 ⟨_,hg9,rfl,rfl⟩ rfl rfl ?_
  refine sbInts 0 hW3 ⟨_,hg9,rfl,rfl⟩ rfl rfl rfl rfl ?_
  refine slInts ⟨_,hg9,rfl,rfl⟩ rfl rfl ?_
  refine sgt ⟨_,hg9,rfl,rfl⟩ rfl rfl rfl ?_
  refine spf trivial rfl rfl rfl ?_
  refine St.nil fun a22 h22=>?_
  refine hK9 _ _ ?_
  refine fr_cond (t:=24) h22 rfl (fun hb=>?_) (fun hb=>?_)
  ·have hc23:0 < x.args.length:=by have:=of_decide_eq_true hb;omega
   clear hb
   refine wp_seq_k fun K24 hK24=>?_
   refine rg h22 fun ops=>?_;clear h22 a22
   refine sa trivial rfl rfl ?_
   refine St.nil fun a25 h25=>?_
   refine hK24 _ _ ?_
   refine wp_ret ?_;with_reducible repeat first | refine of_then_ret ?_ | refine of_block_ret ?_
   have R:x.form bl false=4:=by have:=hc15.out;have:=hc21;have:=hc23;rw [toForm_no];split <;> omega
   exact ret_tmp (t:=6) h25 rfl rfl ⟨by rw [R],hW3.bel⟩
  have hc26:¬ (0 < x.args.length):=by have:=of_decide_eq_false hb;omega
  clear hb
  refine wp_skip ?_
  refine hK8 _ _ ?_
  refine wp_seq_k fun K27 hK27=>?_
  refine rg h22 fun ops=>?_;clear h22 a22
  refine sa trivial rfl rfl ?_
  refine St.nil fun a28 h28=>?_
  refine hK27 _ _ ?_
  refine wp_ret ?_;with_reducible repeat first | refine of_then_ret ?_ | refine of_block_ret ?_
  have R:x.form bl false=0:=by have:=hc15.out;have:=hc21;have:=hc26;rw [toForm_no];split <;> omega
  exact ret_tmp (t:=6) h28 rfl rfl ⟨by rw [R],hW3.bel⟩
theorem toCodeT {x : MTo} {pR pA : Option Addr} {cR cA : Nat} {fr : Int} {fp fq fb : Option Addr} {fl fc fm fd bl fe : Nat} {w : World} (hr : x.regs.length < 2305843009213693952) (ha : x.args.length < 2305843009213693952) (hbl : bl < 2305843009213693952) :
    Rd Tryz.prog 123 #[.agg #[.int .i64 fr,.slice fp fl fc,.slice fq fm fd,.slice fb bl fe],.agg #[.int .i64 x.block,.slice pR x.regs.length cR,.slice pA x.args.length cA],.bool true] w (.int .i64 (x.form bl true)):=by
  refine fr_enter (n:=40) Tryz.func123 rfl rfl rfl ?_
  intro a hF
  have hW:=Wd.start w
  replace hF:Fr 40 a [(0,.agg #[.int .i64 fr,.slice fp fl fc,.slice fq fm fd,.slice fb bl fe]),(1,.agg #[.int .i64 x.block,.slice pR x.regs.length cR,.slice pA x.args.length cA]),(2,.bool true)]:=hF
  refine wp_seq_k fun K1 hK1=>?_
  refine rg hF fun ops=>?_;clear hF a
  refine sB hW trivial rfl rfl ?_
  clear hW;intro w2 B2 hW2 hN;clear hN
  refine sB hW2 trivial rfl rfl ?_
  clear hW2;intro w3 B3 hW3 hN;clear hN
  refine sa trivial rfl rfl ?_
  refine St.nil fun a4 h4=>?_
  refine hK1 _ _ ?_
  refine wp_seq_k fun K5 hK5=>?_
  refine wp_seq_k fun K6 hK6=>?_
  refine rg h4 fun ops=>?_;clear h4 a4
  refine sm trivial rfl rfl ?_
  refine sn trivial rfl rfl ?_
  refine St.nil fun a7 h7=>?_
  refine hK6 _ _ ?_
  refine fr_false (t:=9) h7 rfl ?_
  refine wp_skip ?_
  refine hK5 _ _ ?_
  refine wp_seq_k fun K8 hK8=>?_
  refine wp_seq_k fun K9 hK9=>?_
  refine rg h7 fun ops=>?_;clear h7 a7
  refine sfTo0 trivial rfl rfl ?_
  refine sbInt 0 hW3 trivial rfl rfl rfl rfl ?_
  refine sfFunc3 trivial rfl rfl ?_
  refine sbBlocks 1 hW3 trivial rfl rfl rfl rfl ?_
  refine slBlocks trivial rfl rfl ?_
  intro a10 h10
  refine fr_pure (t:=30) (v:=.int .i64 ((bl:Int) - 1)) (w':=w3) h10 rfl rfl rfl (fun K hK=>?_) ?_
  ·have k0:a10.tmps.getD 29 undef=.int .i64 (bl:Int):=h10.sl 29 _ rfl
   have hwr:IntKind.i64.wrap ((bl:Int) - 1)=(bl:Int) - 1:=wrap_pred _ (by omega)
   go_simp
   exact hK
  clear h10;intro a11 hF11
  refine St.go hF11 ?_;clear hF11 a11
  refine sc_3 cf146 hW3 (rangeCode_any) trivial rfl rfl rfl rfl ?_
  clear hW3;intro w12 hW12
  refine sa trivial rfl rfl ?_
  refine St.nil fun a13 h13=>?_
  refine hK9 _ _ ?_
  refine wp_seq_k fun K14 hK14=>?_
  refine rg h13 fun ops=>?_;clear h13 a13
  refine sm trivial rfl rfl ?_
  refine sne trivial rfl rfl rfl ?_
  refine St.nil fun a15 h15=>?_
  refine hK14 _ _ ?_
  refine fr_cond (t:=33) h15 rfl (fun hb=>?_) (fun hb=>?_)
  ·have h9:¬ (rangeC x.block 0 ((bl:Int) - 1))=0:=bne_iff_ne.1 hb
   have hc16:¬ (rangeC x.block 0 ((bl:Int) - 1))=0:=h9
   clear h9
   clear hb
   refine wp_seq_k fun K17 hK17=>?_
   refine rg h15 fun ops=>?_;clear h15 a15
   refine sm trivial rfl rfl ?_
   refine sa trivial rfl rfl ?_
   refine St.nil fun a18 h18=>?_
   refine hK17 _ _ ?_
   refine wp_ret ?_;with_reducible repeat first | refine of_then_ret ?_ | refine of_block_ret ?_
   have R:x.form bl true=rangeC x.block 0 ((bl:Int) - 1):=by simp [toForm_eq,hc16]
   exact ret_tmp (t:=6) h18 rfl rfl ⟨by rw [R],hW12.bel⟩
  have h9:(rangeC x.block 0 ((bl:Int) - 1))=0:=bne_eq_false_iff_eq.1 hb
  have hc19:Hid ((rangeC x.block 0 ((bl:Int) - 1))=0):=h9
  clear h9
  clear hb
  refine wp_skip ?_
  refine hK8 _ _ ?_
  refine wp_seq_k fun K20 hK20=>?_
  refine rg h15 fun ops=>?_;clear h15 a15
  refine sfTo1 trivial rfl rfl ?_
  refine sbInts 0 hW12 trivial rfl rfl rfl rfl ?_
  refine sfTo2 trivial rfl rfl ?_
  refine sbInts 0 hW12 trivial rfl rfl rfl rfl ?_
  refine sc_3 cf148 hW12 (handedCode_any) trivial rfl rfl rfl rfl ?_
  clear hW12;intro w21 hW21
  refine sa trivial rfl rfl ?_
  refine St.nil fun a22 h22=>?_
  refine hK20 _ _ ?_
  refine wp_ret ?_;with_reducible repeat first | refine of_then_ret ?_ | refine of_block_ret ?_
  have R:x.form bl true=handedC x.regs.length 16 x.args.length:=by simp [toForm_eq,hc19.out]
  exact ret_tmp (t:=6) h22 rfl rfl ⟨by rw [R],hW21.bel⟩
theorem toCode_any {x : MTo} {pR pA : Option Addr} {cR cA : Nat} {fr : Int} {fp fq fb : Option Addr} {fl fc fm fd bl fe : Nat} (has : Bool) {w : World} (hr : x.regs.length < 2305843009213693952) (ha : x.args.length < 2305843009213693952) (hbl : bl < 2305843009213693952) :
    Rd Tryz.prog 123 #[.agg #[.int .i64 fr,.slice fp fl fc,.slice fq fm fd,.slice fb bl fe],.agg #[.int .i64 x.block,.slice pR x.regs.length cR,.slice pA x.args.length cA],.bool has] w (.int .i64 (x.form bl has)):=by
  cases has
  · exact toCodeF hr ha hbl
  · exact toCodeT hr ha hbl
end Go.Proofs.YtjodmledadbgeacGreatDoor
