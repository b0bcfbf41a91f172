import Derived.Test.YtjodmledadbgeacGreatDoorP1
import Derived.Deep.RegionLaw
import Derived.Defers
import Derived.Recover
import Derived.RegionTactic
import Derived.Orders
import Derived.RowKit
set_option maxHeartbeats 16000000
set_option maxRecDepth 100000
namespace Go.Proofs.YtjodmledadbgeacGreatDoor
open Go.ChangeShapes Go.WideShapes Go.ChangeAt Go.RowKit Go.Shelf
set_option linter.unusedSimpArgs false
set_option linter.unusedVariables false
def VTo (w0 : World) : World → MTo → Value → Prop := fun w' x v => ∃ a c b d, v = .agg #[.int .i64 x.block, .slice a x.regs.length c, .slice b x.args.length d] ∧ toL.In w' (fun g => w0.heap.size ≤ g) x [.int .i64 x.block, .slice a x.regs.length c, .slice b x.args.length d]
theorem pto_any {w : World} {b e p : Nat} {l : List Tk} (h : PAt w b l e p) :
    Calls Tryz.prog 140 #[ptrP b] w fun en w'=>Out b e l (toP l e p) w (VTo w) en w':=by
  have hbw:=h.lt
  have F0:Hid (FB w _ b e l p w.heap.size (w.heap.size+1) #[.int .i64 0,.slice none 0 0,.slice none 0 0] #[.int .i64 0,.slice none 0 0,.slice none 0 0] 44):=FB.start h
  clear h
  go_enter Tryz.func140,Tryz.ntmps140
  go_wp2_with fail
  refine (FB.callNums F0.out [0] (by simp) rfl (by decide) (by simp)).mono ?_
  intro e' w1 hO
  rcases hO with ⟨ns,p1,m1,rfl,hx1,r1,k1⟩ | ⟨y,c',a',m1,rfl,hc',k1⟩
  rotate_left
  · exact ⟨rfl,Out.bad (by rw [toP,nums1_eq,show numsP l e 1 p=_ from m1];rfl) hc' k1⟩
  have hl1:=nums_len m1
  obtain ⟨nb,rfl⟩:∃ nb,ns=[nb]:=by
    match ns,hl1 with
    | [nb],_=>exact ⟨nb,rfl⟩
  have Bnb:Hid (0≤nb∧nb≤1000000):=hx1 nb (by simp)
  have E1:Hid (numsP l e 1 p=.ok ([nb],p1)):=m1
  have G1:Hid (FB _ _ _ _ _ _ _ _ _ #[.int .i64 nb,.slice none 0 0,.slice none 0 0] _):=r1
  clear m1 r1 k1 hx1 hl1 F0
  go_wp2_with fail
  refine (pregs_any G1.out.rd).mono ?_
  intro e' w2 hO
  rcases hO with ⟨xs,p2,x2,m2,rfl,⟨ax,cx,rfl,hi2⟩,r2,k2⟩ | ⟨y,c',a',m2,rfl,hc',k2⟩
  rotate_left
  · exact ⟨rfl,Out.bad (by rw [toP,nums1_eq,E1.out,PR.ok_andThen,m2];rfl) hc' (G1.out.chg.trans k2)⟩
  have E2:Hid (regsP l e p1=.ok (xs,p2)):=m2
  have G2:Hid (FB _ _ _ _ _ _ _ _ _ _ _):=G1.out.call r2 k2
  have Kxs:Hid (Kid intsL (w.heap.size+1) w2 xs [.slice ax xs.length cx]):=Kid.mk hi2 G1.out.lt
  clear hi2
  clear m2 r2 k2 G1
  have y1:=cellOf G2.out.box 1 _ rfl
  have z1:=freeOf G2.out.box 1
  go_wp2_with fail
  have G3:Hid (FB _ (w2.setCell ⟨(w.heap.size+1),1,none⟩ (.slice ax xs.length cx)) _ _ _ _ _ _ _ #[.int .i64 nb,.slice ax xs.length cx,.slice none 0 0] _):=(FB.set G2.out 1 (.slice ax xs.length cx))
  have KxsG3:Hid (Kid _ _ (w2.setCell ⟨(w.heap.size+1),1,none⟩ (.slice ax xs.length cx)) _ _):=(Kid.set Kxs.out (q:=⟨(w.heap.size+1),1,none⟩) (Nat.le_refl _) _)
  clear Kxs
  generalize (w2.setCell ⟨(w.heap.size+1),1,none⟩ (.slice ax xs.length cx))=w3 at G3 KxsG3 ⊢
  clear y1 z1 G2
  refine (pargs_any G3.out.rd).mono ?_
  intro e' w4 hO
  rcases hO with ⟨ys,p4,x4,m4,rfl,⟨ay,cy,rfl,hi4⟩,r4,k4⟩ | ⟨y,c',a',m4,rfl,hc',k4⟩
  rotate_left
  · exact ⟨rfl,Out.bad (by rw [toP,nums1_eq,E1.out,PR.ok_andThen,E2.out,PR.ok_andThen,m4];rfl) hc' (G3.out.chg.trans k4)⟩
  have E4:Hid (argsP l e p2=.ok (ys,p4)):=m4
  have G4:Hid (FB _ _ _ _ _ _ _ _ _ _ _):=G3.out.call r4 k4
  have KxsG35_:Hid (Kid _ _ _ _ _):=KxsG3.out.chg k4 (by omega)
  clear KxsG3
  have Kys:Hid (Kid intsL (w.heap.size+1) w4 ys [.slice ay ys.length cy]):=Kid.mk hi4 G3.out.lt
  clear hi4
  clear m4 r4 k4 G3
  obtain ⟨y0,y1,y2⟩:=cells3 G4.out.box
  obtain ⟨u0,u1,u2⟩:=cells3 G4.out.res
  obtain ⟨v0,v1,v2⟩:=frees3 G4.out.res
  have z2:=freeOf G4.out.box 2
  have hne:¬ (w.heap.size+1)=w.heap.size:=by omega
  go_wp2
  have DD:Hid (FinD _ _ _ _ _ _ _ #[.int .i64 nb,.slice ax xs.length cx,.slice ay ys.length cy] ((((w4.setCell ⟨(w.heap.size+1),2,none⟩ (.slice ay ys.length cy)).setCell ⟨w.heap.size,0,none⟩ (.int .i64 nb)).setCell ⟨w.heap.size,1,none⟩ (.slice ax xs.length cx)).setCell ⟨w.heap.size,2,none⟩ (.slice ay ys.length cy))):=FB.fin (FB.set G4.out 2 (.slice ay ys.length cy)) [.int .i64 nb,.slice ax xs.length cx,.slice ay ys.length cy] rfl
  have DKxsG35_:Hid (Kid _ _ ((((w4.setCell ⟨(w.heap.size+1),2,none⟩ (.slice ay ys.length cy)).setCell ⟨w.heap.size,0,none⟩ (.int .i64 nb)).setCell ⟨w.heap.size,1,none⟩ (.slice ax xs.length cx)).setCell ⟨w.heap.size,2,none⟩ (.slice ay ys.length cy)) _ _):=Kid.sets (Kid.set KxsG35_.out (q:=⟨(w.heap.size+1),2,none⟩) (Nat.le_refl _) _) (by omega) [.int .i64 nb,.slice ax xs.length cx,.slice ay ys.length cy] 0
  clear KxsG35_
  have DKys:Hid (Kid _ _ ((((w4.setCell ⟨(w.heap.size+1),2,none⟩ (.slice ay ys.length cy)).setCell ⟨w.heap.size,0,none⟩ (.int .i64 nb)).setCell ⟨w.heap.size,1,none⟩ (.slice ax xs.length cx)).setCell ⟨w.heap.size,2,none⟩ (.slice ay ys.length cy)) _ _):=Kid.sets (Kid.set Kys.out (q:=⟨(w.heap.size+1),2,none⟩) (Nat.le_refl _) _) (by omega) [.int .i64 nb,.slice ax xs.length cx,.slice ay ys.length cy] 0
  clear Kys
  clear y0 u0 v0 y1 u1 v1 y2 u2 v2
  generalize ((((w4.setCell ⟨(w.heap.size+1),2,none⟩ (.slice ay ys.length cy)).setCell ⟨w.heap.size,0,none⟩ (.int .i64 nb)).setCell ⟨w.heap.size,1,none⟩ (.slice ax xs.length cx)).setCell ⟨w.heap.size,2,none⟩ (.slice ay ys.length cy))=w9 at DD DKxsG35_ DKys ⊢
  obtain ⟨D1,D2,D3⟩:=DD.out
  obtain ⟨x0,x1,x2⟩:=cells3 D1
  exact bodyPost_ret (v:=.agg #[.int .i64 nb,.slice ax xs.length cx,.slice ay ys.length cy]) (by simp [results,Tryz.results140,go_sem,x0,x1,x2]) rfl (Out.good (by rw [toP,nums1_eq,E1.out,PR.ok_andThen,E2.out,PR.ok_andThen,E4.out,PR.ok_andThen];rfl) (⟨ax,cx,ay,cy,rfl,to_mk (x:=⟨nb,xs,ys⟩) (Kid.out DKxsG35_.out (by omega)) (Kid.out DKys.out (by omega)) (i64_of Bnb.out)⟩) D2 D3)
def VTyp (d : Nat) (w0 : World) : World → TT (d + 1) → Value → Prop := fun w' t x => ∃ a c, x = .agg #[.int .i64 t.kind, .int .i64 t.r, .slice a t.len c] ∧ (Lay.tt (d + 1)).In w' (fun g => w0.heap.size ≤ g) t [.int .i64 t.kind, .int .i64 t.r, .slice a t.len c]
def VTyps (d : Nat) (w0 : World) : World → List (TT (d + 1)) → Value → Prop := fun w' xs x => ∃ a c, x = .slice a xs.length c ∧ (typesL (d + 1)).In w' (fun g => w0.heap.size ≤ g) xs [.slice a xs.length c]
def POne (d : Nat) (k : Int) : Prop := ∀ (w : World) (b e : Nat) (l : List Tk) (p : Nat), PAt w b l e p → Calls Tryz.prog 110 #[ptrP b, .int .i64 k] w fun en w' => Out b e l (typP l e d p) w (VTyp d w) en w'
theorem pOneT (k r : Int) (a : Option Addr) (l c : Nat) : ∀ u ∈ [Value.int .i64 k, Value.int .i64 r, Value.slice a l c], u.oneCell' = true := by
  intro u h
  simp at h
  rcases h with rfl | rfl | rfl <;> rfl
theorem Blk.set3 {w : World} {R : Nat} {p0 p1 p2 : Value} {t : TypeId} (h : Blk w R #[p0, p1, p2] t) (a b c : Value) : Blk (((w.setCell ⟨R, 0, none⟩ a).setCell ⟨R, 1, none⟩ b).setCell ⟨R, 2, none⟩ c) R #[a, b, c] t := by
  have h3:=blockSet (blockSet (blockSet h 0 a) 1 b) 2 c
  simpa using h3
theorem Chg.setNewP {b : Nat} {w w' : World} (h : Chg b w w') {q : Addr} (hq : w.heap.size ≤ q.block) (v : Value) : Chg b w (w'.setCell q v) :=
  ⟨h.os,h.tape,h.output,by have:=h.size;simp;omega,fun k hk hn=>(Below.heap_setCell _ _ _ _ (by omega)).trans (h.block k hk hn),fun k hk=>.inl hk⟩
theorem ptyp1_any {w : World} {b e p : Nat} {l : List Tk} {d : Nat} {dp : Int} (IH0 : POne d dp) {B1 B2 : Nat} {T1 T2 : TypeId} (hb1 : Blk w B1 #[ptrP b] T1) (hb2 : Blk w B2 #[.int .i64 dp] T2) (h : PAt w b l e p) :
    Calls Tryz.prog 109 #[ptrP B1,ptrP B2] w fun en w'=>Out b e l (typP l e d p) w (VTyp d w) en w':=by
  have hbw:=h.lt
  have H:Hid (PAt (w.alloc (.cells #[.int .i64 0,.int .i64 0,.slice none 0 0] 74)) b l e p):=h.below (bel1 _ _)
  have X:Hid (Blk (w.alloc (.cells #[.int .i64 0,.int .i64 0,.slice none 0 0] 74)) w.heap.size #[.int .i64 0,.int .i64 0,.slice none 0 0] 74):=Blk.new _ _ _
  have K:Hid (Chg b w (w.alloc (.cells #[.int .i64 0,.int .i64 0,.slice none 0 0] 74))):=Chg.below (bel1 _ _)
  have IH:Hid (POne d dp):=IH0
  have q1:=cellOf hb1 0 _ rfl
  have q2:=cellOf hb2 0 _ rfl
  have l1:=hb1.lt
  have l2:=hb2.lt
  clear h hb1 hb2 IH0
  go_enter Tryz.func109,Tryz.ntmps109
  go_wp2_with fail
  have hsz:Hid ((w.alloc (.cells #[.int .i64 0,.int .i64 0,.slice none 0 0] 74)).heap.size=w.heap.size+1):=by show _=_;simp
  generalize w.alloc (.cells #[.int .i64 0,.int .i64 0,.slice none 0 0] 74)=w1 at H X K hsz ⊢
  refine (IH.out w1 b e l p H.out).mono ?_
  intro e' w2 hO
  rcases hO with ⟨t,p2,x,m2,rfl,⟨a4,c4,rfl,ht4⟩,r2,k2⟩ | ⟨y,c',a',m2,rfl,hc',k2⟩
  rotate_left
  · exact ⟨rfl,Out.bad m2 hc' (K.out.trans k2)⟩
  have X2:=X.out.chg k2 (by omega)
  have u0:=cellOf X2 0 _ rfl
  have u1:=cellOf X2 1 _ rfl
  have u2:=cellOf X2 2 _ rfl
  have v0:=freeOf X2 0
  have v1:=freeOf X2 1
  have v2:=freeOf X2 2
  have D1:Hid (Blk (((w2.setCell ⟨w.heap.size,0,none⟩ (.int .i64 t.kind)).setCell ⟨w.heap.size,1,none⟩ (.int .i64 t.r)).setCell ⟨w.heap.size,2,none⟩ (.slice a4 t.len c4)) w.heap.size #[.int .i64 t.kind,.int .i64 t.r,.slice a4 t.len c4] 74):=X2.set3 _ _ _
  have D2:Hid (PAt (((w2.setCell ⟨w.heap.size,0,none⟩ (.int .i64 t.kind)).setCell ⟨w.heap.size,1,none⟩ (.int .i64 t.r)).setCell ⟨w.heap.size,2,none⟩ (.slice a4 t.len c4)) b l e p2):=((r2.set hbw _).set hbw _).set hbw _
  have D3:Hid (Chg b w (((w2.setCell ⟨w.heap.size,0,none⟩ (.int .i64 t.kind)).setCell ⟨w.heap.size,1,none⟩ (.int .i64 t.r)).setCell ⟨w.heap.size,2,none⟩ (.slice a4 t.len c4))):=Chg.setNewP (Chg.setNewP (Chg.setNewP (K.out.trans k2) (Nat.le_refl _) _) (Nat.le_refl _) _) (Nat.le_refl _) _
  have hno:¬ w1.heap.size≤w.heap.size:=by have:=hsz.out;omega
  have D4:Hid ((Lay.tt (d+1)).In (((w2.setCell ⟨w.heap.size,0,none⟩ (.int .i64 t.kind)).setCell ⟨w.heap.size,1,none⟩ (.int .i64 t.r)).setCell ⟨w.heap.size,2,none⟩ (.slice a4 t.len c4)) (fun g=>w.heap.size≤g) t [.int .i64 t.kind,.int .i64 t.r,.slice a4 t.len c4]) :=
    Lay.mono (Lay.setCell (Lay.setCell (Lay.setCell ht4 (p:=⟨w.heap.size,0,none⟩) hno _) (p:=⟨w.heap.size,1,none⟩) hno _) (p:=⟨w.heap.size,2,none⟩) hno _) (fun k hk _=>by have:=hsz.out;omega)
  have M2:Hid (typP l e d p=.ok (t,p2)):=m2
  clear X2 r2 k2 ht4 m2 X K H hno
  go_wp2
  generalize (((w2.setCell ⟨w.heap.size,0,none⟩ (.int .i64 t.kind)).setCell ⟨w.heap.size,1,none⟩ (.int .i64 t.r)).setCell ⟨w.heap.size,2,none⟩ (.slice a4 t.len c4))=w9 at D1 D2 D3 D4 ⊢
  have x0:=cellOf D1.out 0 _ rfl
  have x1:=cellOf D1.out 1 _ rfl
  have x2:=cellOf D1.out 2 _ rfl
  exact bodyPost_ret (v:=.agg #[.int .i64 t.kind,.int .i64 t.r,.slice a4 t.len c4]) (by simp [results,Tryz.results109,go_sem,x0,x1,x2]) rfl (Out.good M2.out ⟨a4,c4,rfl,D4.out⟩ D2.out D3.out)
theorem plistT_any {w : World} {b e p : Nat} {l : List Tk} (d : Nat) (dp : Int) (IH0 : POne d dp) {B1 B2 : Nat} {T1 T2 : TypeId} (hb1 : Blk w B1 #[ptrP b] T1) (hb2 : Blk w B2 #[.int .i64 dp] T2) (hn1 : B1 ≠ b) (hn2 : B2 ≠ b) (h : PAt w b l e p) :
    Calls Tryz.prog 108 #[ptrP b,.string (str [40]),.string (str [41]),.func (.func 109) #[] #[ptrP B1,ptrP B2]] w fun en w'=>Out b e l (inP l e (typP l e d) [40] [41] p) w (VTyps d w) en w':=by
  have hbw:=h.lt
  have H:Hid (PAt w b l e p):=h
  have hE:=enters_types1
  unfold Enters at hE
  obtain ⟨i0,hi,hz0,hz1,hz2⟩:=pInfoT
  have IH:Hid (POne d dp):=IH0
  have X1:Hid (∀ w',Chg b w w'→Blk w' B1 #[ptrP b] T1):=fun w' k=>hb1.chg k hn1
  have X2:Hid (∀ w',Chg b w w'→Blk w' B2 #[.int .i64 dp] T2):=fun w' k=>hb2.chg k hn2
  clear h IH0 hb1 hb2
  go_enter Tryz.func108,Tryz.ntmps108
  go_wp2_with fail
  refine (pmust_any [40] (by decide) H.out).mono ?_
  intro e' w1 hO
  rcases hO with ⟨⟨⟩,p1,x,m1,rfl,rfl,r1,k1⟩ | ⟨y,c,a,m1,rfl,hc,k1⟩
  rotate_left
  · exact ⟨rfl,Out.bad (in_bad0 m1) hc k1⟩
  have M1:Hid (mustP l e [40] p=.ok ((),p1)):=m1
  have R1:Hid (PAt w1 b l e p1):=r1
  have K1:Hid (Chg b w w1):=k1
  clear m1 r1 k1 H
  go_wp2_with fail
  refine (took_any [41] (by decide) R1.out).mono ?_
  intro e' w2 hO
  cases hw:isW l [41] p1 with
  | true =>
    rw [hw] at hO
    obtain ⟨rfl,r2,k2⟩:=hO
    have Z:Hid (Out b e l (inP l e (typP l e d) [40] [41] p) w (VTyps d w) (.returned (.slice none 0 0)) w2):=Out.good (in_none M1.out hw) ⟨none,0,rfl,Lay.list_nil _ _ _ _ _⟩ r2 (K1.out.trans k2)
    clear r2 k2 hw M1 R1 K1
    go_wp2
    go_ret
    exact Z.out
  | false =>
    rw [hw] at hO
    obtain ⟨rfl,r2,k2⟩:=hO
    have S2:Hid (LstQ l e (typP l e d) [41] p1 p1 []):=LstQ.start hw
    have R2:Hid (PAt w2 b l e p1):=r2
    have K2:Hid (Chg b w w2):=K1.out.trans k2
    clear r2 k2 hw R1 K1
    go_wp2_with fail
    go_loopw [9] (fun v wr=>∃ xs cs p2,ARow (Lay.tt (d+1)) 74 wr w.heap.size v xs cs∧PAt wr b l e p2∧Chg b w wr∧LstQ l e (typP l e d) [41] p1 p2 xs) (fun v _=>102 - lenP v)
    case atStart=>exact ⟨[],[],p1,ARow.nil _ _ _ _,R2.out,K2.out,S2.out⟩
    case round =>
      obtain ⟨xs,cs,p2,hrow,hr,hk,hl⟩:=hrel
      obtain ⟨a,c,rfl⟩:=hrow.formP
      have A2:Hid (ARow (Lay.tt (d+1)) 74 wr w.heap.size (.slice a xs.length c) xs cs):=hrow
      have R2:Hid (PAt wr b l e p2):=hr
      have K2:Hid (Chg b w wr):=hk
      have L2:Hid (LstQ l e (typP l e d) [41] p1 p2 xs):=hl
      have hn:xs.length≤100:=hl.le
      clear hrow hr hk hl S2
      go_wp2_with fail
      refine (ptyp1_any IH.out (X1.out _ K2.out) (X2.out _ K2.out) R2.out).mono ?_
      intro e' w4 hO
      rcases hO with ⟨t,p3,x,m3,rfl,⟨a4,c4,rfl,ht4⟩,r4,k4⟩ | ⟨y,c',a',m3,rfl,hc,k4⟩
      rotate_left
      · exact ⟨rfl,Out.bad (in_bad M1.out (L2.out.bad m3)) hc (K2.out.trans k4)⟩
      have M3:Hid (typP l e d p2=.ok (t,p3)):=m3
      have T4:Hid ((Lay.tt (d+1)).In w4 (fun g=>wr.heap.size≤g) t [.int .i64 t.kind,.int .i64 t.r,.slice a4 t.len c4]):=ht4
      have S2:Hid (w.heap.size≤wr.heap.size):=K2.out.size
      have A2':=A2
      have A4:Hid (ARow (Lay.tt (d+1)) 74 w4 w.heap.size (.slice a xs.length c) xs cs):=A2.out.chgP k4 hbw
      have R4:Hid (PAt w4 b l e p3):=r4
      have K4:Hid (Chg b w w4):=K2.out.trans k4
      have hsz:=K4.out.size
      have hown:Hid (w4.ownsRow w.heap.size 74 3 (.slice a xs.length c) xs.length cs):=A4.out.own
      have PU:Hid (∀ g cap w9,w9.ownsRow w.heap.size 74 3 (.slice (some ⟨g,0,none⟩) (xs.length+1) cap) (xs.length+1) (cs++[.int .i64 t.kind,.int .i64 t.r,.slice a4 t.len c4])→(w4.alloc (.cells #[.int .i64 t.kind,.int .i64 t.r,.slice a4 t.len c4] 74)).grownBy w9 (Value.slice a xs.length c).ownBlock→((Value.slice a xs.length c).ownBlock=some g ∨ g=w4.heap.size+1) →
          (∃ cs',ARow (Lay.tt (d+1)) 74 w9 w.heap.size (.slice (some ⟨g,0,none⟩) (xs.length+1) cap) (xs++[t]) cs')∧PAt w9 b l e p3∧Chg b w w9):=by
        intro g cap w9 h1 h2 h3
        have b5:Below w4.heap.size w4 (w4.alloc (.cells #[.int .i64 t.kind,.int .i64 t.r,.slice a4 t.len c4] 74)):=bel1 _ _
        have A5:=A4.out.below b5
        have T5:(Lay.tt (d+1)).In (w4.alloc (.cells #[.int .i64 t.kind,.int .i64 t.r,.slice a4 t.len c4] 74)) (fun g=>w.heap.size≤g∧(Value.slice a xs.length c).ownBlock≠some g) t [.int .i64 t.kind,.int .i64 t.r,.slice a4 t.len c4] :=
          Lay.alloc (Lay.mono T4.out (fun k hk _=>⟨Nat.le_trans S2.out hk,fun e=>by have:=(A2'.out.lo_le e).2;omega⟩)) _
        refine ⟨⟨_,ARow.push A5 T5 h2 (by simpa using h3) h1⟩,(R4.out.below b5).grown h2 (fun k hk=>by have:=(A5.lo_le hk).1;omega),(K4.out.allocP _).grownP h2 (fun k hk=>(A5.lo_le hk).1)⟩
      clear r4 k4 m3 A2 R2 K2 ht4
      generalize t.kind=kx at PU ⊢
      generalize t.r=rx at PU ⊢
      generalize t.len=lx at PU ⊢
      go_wp2_with (at_builtin;refine wpList_append_lies _ rfl (.tmp 16) (.tmp 19) 35 rfl w.heap.size 74 i0 (.agg #[.int .i64 0,.int .i64 0,.slice none 0 0]) 3 40 pUnderT hi hz0 hz1 hz2 rfl (by decide) _ _ _ rfl (hown.out.alloc _) ⟨w4.heap.size,0,none⟩ 1 1 [.int .i64 kx,.int .i64 rx,.slice a4 lx c4] rfl rfl (newsP _ [_,_,_] _) (pOneT _ _ _ _ _) (by decide) (by unfold maxLen;omega) (by omega) (by simp;omega) (w4.heap.size+1) (by simp) ?_)
      intro g2 cap2 w9 h1 hgrow hat hlt1
      have U2:=PU.out g2 cap2 w9 h1 hgrow hat
      obtain ⟨⟨cs',q1⟩,q2,q3⟩:=U2
      have A9:Hid (ARow (Lay.tt (d+1)) 74 w9 w.heap.size (.slice (some ⟨g2,0,none⟩) (xs.length+1) cap2) (xs++[t]) cs'):=q1
      have R9:Hid (PAt w9 b l e p3):=q2
      have K9:Hid (Chg b w w9):=q3
      clear h1 hgrow hat hlt1 hown PU q1 q2 q3 A4 R4 K4 T4 S2 A2'
      by_cases h100:xs.length+1≤100
      · have h100':¬ (100:Int) < (xs.length:Int)+1:=by omega
        go_wp2_with fail
        refine (took_any [41] (by decide) R9.out).mono ?_
        intro e' w10 hO
        cases hw:isW l [41] p3 with
        | true =>
          rw [hw] at hO
          obtain ⟨rfl,r10,k10⟩:=hO
          have A10:=A9.out.chgP k10 hbw
          have Z:Hid (Out b e l (inP l e (typP l e d) [40] [41] p) w (VTyps d w) (.returned (.slice (some ⟨g2,0,none⟩) (xs.length+1) cap2)) w10) :=
            Out.good (v:=xs++[t]) (in_some M1.out (L2.out.stop M3.out h100 hw) hw) ⟨some ⟨g2,0,none⟩,cap2,by simp,by simpa using A10.lay⟩ r10 (K9.out.trans k10)
          clear r10 k10 A10 A9 R9 K9 M1 L2 M3
          go_wp2
          go_ret
          exact Z.out
        | false =>
          rw [hw] at hO
          obtain ⟨rfl,r10,k10⟩:=hO
          have A10:Hid (ARow (Lay.tt (d+1)) 74 w10 w.heap.size (.slice (some ⟨g2,0,none⟩) (xs.length+1) cap2) (xs++[t]) cs'):=A9.out.chgP k10 hbw
          have R10:Hid (PAt w10 b l e p3):=r10
          have K10:Hid (Chg b w w10):=K9.out.trans k10
          have HW:Hid (isW l [41] p3=false):=hw
          clear r10 k10 A9 R9 K9 hw
          go_wp2_with fail
          refine (pmust_any [44] (by decide) R10.out).mono ?_
          intro e' w11 hO
          rcases hO with ⟨⟨⟩,p4,x,m4,rfl,rfl,r11,k11⟩ | ⟨y,c',a',m4,rfl,hc,k11⟩
          rotate_left
          · exact ⟨rfl,Out.bad (in_bad M1.out (L2.out.comma M3.out h100 HW.out m4)) hc (K10.out.trans k11)⟩
          have A11:Hid (ARow (Lay.tt (d+1)) 74 w11 w.heap.size (.slice (some ⟨g2,0,none⟩) (xs.length+1) cap2) (xs++[t]) cs'):=A10.out.chgP k11 hbw
          have R11:Hid (PAt w11 b l e p4):=r11
          have K11:Hid (Chg b w w11):=K10.out.trans k11
          have L11:Hid (LstQ l e (typP l e d) [41] p1 p4 (xs++[t])):=L2.out.go M3.out h100 HW.out m4
          clear r11 k11 m4 A10 R10 K10
          go_wp2
          go_roundw
          case rel=>exact ⟨xs++[t],cs',p4,A11.out,R11.out,K11.out,L11.out⟩
          case measure=>simp [lenP];omega
      · have h100':(100:Int) < (xs.length:Int)+1:=by omega
        obtain ⟨y,hy⟩:=L2.out.many M3.out h100
        have Y:Hid (inP l e (typP l e d) [40] [41] p=.error y):=in_bad M1.out hy
        clear hy
        go_wp2_with fail
        refine (giveUp_any 2 (by decide) R9.out).mono ?_
        rintro e' w10 ⟨⟨c',a',rfl,hc⟩,rfl⟩
        exact ⟨rfl,Out.bad Y.out hc K9.out⟩
theorem ptypes_any {w : World} {b e p : Nat} {l : List Tk} {d : Nat} {dp : Int} (IH0 : POne d dp) (h : PAt w b l e p) :
    Calls Tryz.prog 88 #[ptrP b,.int .i64 dp] w fun en w'=>Out b e l (inP l e (typP l e d) [40] [41] p) w (VTyps d w) en w':=by
  have hbw:=h.lt
  have hmf:∀ (fn:Fn) (first cap:Array Value) (w:World),(Instr.makeFunc fn first cap).run Tryz.prog w=.ok (.func fn first cap) w:=fun _ _ _ _=>rfl
  have H:Hid (PAt ((w.alloc (.cells #[ptrP b] 83)).alloc (.cells #[.int .i64 dp] 3)) b l e p):=h.below (bel2 _ _ _)
  have X1:Hid (Blk ((w.alloc (.cells #[ptrP b] 83)).alloc (.cells #[.int .i64 dp] 3)) w.heap.size #[ptrP b] 83):=Blk.new1 _ _ _ _ _
  have X2:Hid (Blk ((w.alloc (.cells #[ptrP b] 83)).alloc (.cells #[.int .i64 dp] 3)) (w.heap.size+1) #[.int .i64 dp] 3):=Blk.new2 _ _ _ _
  have K:Hid (Chg b w ((w.alloc (.cells #[ptrP b] 83)).alloc (.cells #[.int .i64 dp] 3))):=Chg.below (bel2 _ _ _)
  have IH:Hid (POne d dp):=IH0
  clear h IH0
  go_enter Tryz.func88,Tryz.ntmps88
  go_wp2_with fail
  generalize (w.alloc (.cells #[ptrP b] 83)).alloc (.cells #[.int .i64 dp] 3)=w1 at H X1 X2 K ⊢
  refine (plistT_any d dp IH.out X1.out X2.out (by omega) (by omega) H.out).mono ?_
  intro e' w2 hO
  rcases hO with ⟨v,p1,x,m1,rfl,⟨a4,c4,rfl,hv⟩,r1,k1⟩ | ⟨y,c',a',m1,rfl,hc',k1⟩
  rotate_left
  · exact ⟨rfl,Out.bad m1 hc' (K.out.trans k1)⟩
  have O:Hid (Out b e l (inP l e (typP l e d) [40] [41] p) w (VTyps d w) (.returned (.slice a4 v.length c4)) w2):=Out.good m1 ⟨a4,c4,rfl,Lay.mono hv (fun k hk _=>Nat.le_trans K.out.size hk)⟩ r1 (K.out.trans k1)
  clear m1 hv r1 k1 H X1 X2 K
  go_wp2
  go_ret
  exact O.out
section
variable {l : List Tk} {e p : Nat} {ws : List (List UInt8)}
theorem which_is {i : Nat} (h : whichP l ws p = i + 1) : ∃ s, ws[i]? = some s ∧ isW l s p = true := by
  unfold whichP at h
  split at h
  · rename_i ha
    have hi:ws.findIdx (fun s=>isW l s p)=i:=by omega
    have hlt:ws.findIdx (fun s=>isW l s p) < ws.length:=by rw [List.findIdx_lt_length];exact List.any_eq_true.1 ha
    have hg:=List.findIdx_getElem (w:=hlt)
    refine ⟨ws[ws.findIdx (fun s=>isW l s p)],?_,hg⟩
    rw [← hi]
    exact List.getElem?_eq_getElem hlt
  · omega
theorem which_none (h : whichP l ws p = 0) : ∀ s ∈ ws, isW l s p = false := by
  unfold whichP at h
  split at h
  · omega
  · rename_i ha
    intro s hs
    cases hw:isW l s p with
    | false=>rfl
    | true=>exact absurd (List.any_eq_true.2 ⟨s,hs,hw⟩) ha
theorem isW_other {s t : List UInt8} (h : isW l s p = true) (hne : t ≠ s) : isW l t p = false := by
  cases hw:isW l t p with
  | false=>rfl
  | true=>exact absurd (isW_one hw h) hne
theorem typ_k0 {d : Nat} (h : whichP l typeWords p = 0) : ∃ x, typP l e (d + 1) p = .error x := by
  have h1:=which_none h
  rw [typP,if_neg (by simp [h1 wInt (by decide)]),if_neg (by simp [h1 wHandle (by decide)]),if_neg (by simp [h1 wArray (by decide)]),mustP,if_neg (by simp [h1 wTuple (by decide)])]
  exact ⟨_,rfl⟩
theorem typ_k1 {d : Nat} (h : whichP l typeWords p = 1) : typP l e (d + 1) p = .ok ((1, 0, []), p + 1) := by
  obtain ⟨s,hs,hw⟩:=which_is (i:=0) h
  injection hs with hs;subst hs
  rw [typP,if_pos hw]
theorem typ_k2 {d : Nat} (h : whichP l typeWords p = 2) : typP l e (d + 1) p = PR.andThen (numP l e (p + 1)) fun r q => (.ok (((2, r, []) : TT (d + 2)), q) : PR (TT (d + 2))) := by
  obtain ⟨s,hs,hw⟩:=which_is (i:=1) h
  injection hs with hs;subst hs
  rw [typP,if_neg (by simp [isW_other hw (t:=wInt) (by decide)]),if_pos hw]
theorem typ_k4 {d : Nat} (h : whichP l typeWords p = 4) : typP l e (d + 1) p = PR.andThen (numP l e (p + 1)) fun r q => (.ok (((4, r, []) : TT (d + 2)), q) : PR (TT (d + 2))) := by
  obtain ⟨s,hs,hw⟩:=which_is (i:=3) h
  injection hs with hs;subst hs
  rw [typP,if_neg (by simp [isW_other hw (t:=wInt) (by decide)]),if_neg (by simp [isW_other hw (t:=wHandle) (by decide)]),if_pos hw]
theorem typ_k3 {d : Nat} (h : whichP l typeWords p = 3) : typP l e (d + 1) p = PR.andThen (numP l e (p + 1)) fun r p2 => PR.andThen (inP l e (typP l e d) [40] [41] p2) fun ts p3 => (.ok (((3, r, ts) : TT (d + 2)), p3) : PR (TT (d + 2))) := by
  obtain ⟨s,hs,hw⟩:=which_is (i:=2) h
  injection hs with hs;subst hs
  rw [typP,if_neg (by simp [isW_other hw (t:=wInt) (by decide)]),if_neg (by simp [isW_other hw (t:=wHandle) (by decide)]),if_neg (by simp [isW_other hw (t:=wArray) (by decide)]),mustP,if_pos hw,PR.ok_andThen]
theorem which_lt (h : whichP l ws p ≠ 0) : p < l.length := by
  obtain ⟨x,hx⟩:=which_some h
  exact lt_of_tok hx
end
theorem FB.beside {w0 w2 : World} {b e p R : Nat} {l : List Tk} {rc : Array Value} {T : TypeId} (bc : Array Value) (h : PAt w2 b l e p) (hr : Blk w2 R rc T) (hk : Chg b w0 w2) (hb : b < R) (h0 : w0.heap.size ≤ R) : FB w0 (w2.alloc (.cells bc T)) b e l p R w2.heap.size rc bc T :=
  ⟨h.below (bel1 _ _),hr.alloc _,Blk.new _ _ _,hk.trans (Chg.below (bel1 _ _)),hb,hr.lt,h0⟩
theorem tt_leaf {w : World} {O : Nat → Prop} {n : Nat} {k r : Int} {a : Option Addr} {c : Nat} (hk : -9223372036854775808 ≤ k ∧ k ≤ 9223372036854775807) (hr : -9223372036854775808 ≤ r ∧ r ≤ 9223372036854775807) : (Lay.tt (n + 1)).In w O ((k, r, []) : TT (n + 1)) [.int .i64 k, .int .i64 r, .slice a 0 c] :=
  ⟨a,c,rfl,LIn.tree LIn.nil,hr,fun x h=>by simp at h⟩
theorem tt_tree {w : World} {O : Nat → Prop} {n : Nat} {k r : Int} {ts : List (TT n)} {a : Option Addr} {c : Nat} (hk : -9223372036854775808 ≤ k ∧ k ≤ 9223372036854775807) (hr : -9223372036854775808 ≤ r ∧ r ≤ 9223372036854775807) (h : (typesL n).In w O ts [.slice a ts.length c]) : (Lay.tt (n + 1)).In w O ((k, r, ts) : TT (n + 1)) [.int .i64 k, .int .i64 r, .slice a ts.length c] :=
  ⟨a,c,rfl,LIn.tree (types_lin h).1,hr,(types_lin h).2⟩
theorem pone_k0 {w : World} {b e p : Nat} {l : List Tk} (d : Nat) (dp : Int) (h : PAt w b l e p) (hk : whichP l typeWords p = 0) :
    Calls Tryz.prog 110 #[ptrP b,.int .i64 dp] w fun en w'=>Out b e l (typP l e (d+1) p) w (VTyp (d+1) w) en w':=by
  have hbw:=h.lt
  obtain ⟨y,hy⟩:=typ_k0 (e:=e) (d:=d) hk
  have HE:Hid (typP l e (d+1) p=.error y):=hy
  have H1:Hid (PAt (w.alloc (.cells #[.int .i64 0,.int .i64 0,.slice none 0 0] 74)) b l e p):=h.below (bel1 _ _)
  have K1:Hid (Chg b w (w.alloc (.cells #[.int .i64 0,.int .i64 0,.slice none 0 0] 74))):=Chg.below (bel1 _ _)
  have HK:Hid (whichP l typeWords p=0):=hk
  clear h hk hy
  go_enter Tryz.func110,Tryz.ntmps110
  go_wp2_with fail
  generalize w.alloc (.cells #[.int .i64 0,.int .i64 0,.slice none 0 0] 74)=w1 at H1 K1 ⊢
  refine (pmustWhich_any 136 typeWords enters_typeWord ptypeWord_any typeWords_wordly (by decide) H1.out).mono ?_
  intro e' w2 hO
  rcases hO with ⟨h0,_⟩ | ⟨_,⟨c,a,rfl,hc⟩,b2⟩
  · exact absurd HK.out h0
  · exact ⟨rfl,Out.bad HE.out hc (K1.out.trans (Chg.below b2))⟩
theorem pone_zero : POne 0 5 := by
  intro w b e l p h
  have hbw:=h.lt
  have HE:Hid (typP l e 0 p=.error (wrongAt l e 19 p)):=rfl
  have H1:Hid (PAt (w.alloc (.cells #[.int .i64 0,.int .i64 0,.slice none 0 0] 74)) b l e p):=h.below (bel1 _ _)
  have K1:Hid (Chg b w (w.alloc (.cells #[.int .i64 0,.int .i64 0,.slice none 0 0] 74))):=Chg.below (bel1 _ _)
  clear h
  go_enter Tryz.func110,Tryz.ntmps110
  go_wp2_with fail
  generalize w.alloc (.cells #[.int .i64 0,.int .i64 0,.slice none 0 0] 74)=w1 at H1 K1 ⊢
  refine (pmustWhich_any 136 typeWords enters_typeWord ptypeWord_any typeWords_wordly (by decide) H1.out).mono ?_
  intro e' w2 hO
  rcases hO with ⟨h0,rfl,b2⟩ | ⟨_,⟨c,a,rfl,hc⟩,b2⟩
  · have H2:Hid (PAt w2 b l e p):=H1.out.below b2
    have K2:Hid (Chg b w w2):=K1.out.trans (Chg.below b2)
    clear b2 H1 K1 h0
    go_wp2_with fail
    refine (giveUp_any 19 (by decide) (H2.out.below (bel1 _ _))).mono ?_
    rintro e' w3 ⟨⟨c,a,rfl,hc⟩,rfl⟩
    exact ⟨rfl,Out.bad HE.out hc (K2.out.trans (Chg.below (bel1 _ _)))⟩
  · exact ⟨rfl,Out.bad HE.out hc (K1.out.trans (Chg.below b2))⟩
theorem pone_k1 {w : World} {b e p : Nat} {l : List Tk} (d : Nat) (dp : Int) (hd0 : 0 ≤ dp) (hd4 : dp ≤ 4) (h : PAt w b l e p) (hk : whichP l typeWords p = 1) :
    Calls Tryz.prog 110 #[ptrP b,.int .i64 dp] w fun en w'=>Out b e l (typP l e (d+1) p) w (VTyp (d+1) w) en w':=by
  have hbw:=h.lt
  have HL:Hid (p < l.length):=which_lt (by rw [hk];decide)
  have HE:Hid (typP l e (d+1) p=.ok ((1,0,[]),p+1)):=typ_k1 hk
  have H1:Hid (PAt (w.alloc (.cells #[.int .i64 0,.int .i64 0,.slice none 0 0] 74)) b l e p):=h.below (bel1 _ _)
  have X1:Hid (Blk (w.alloc (.cells #[.int .i64 0,.int .i64 0,.slice none 0 0] 74)) w.heap.size #[.int .i64 0,.int .i64 0,.slice none 0 0] 74):=Blk.new _ _ _
  have K1:Hid (Chg b w (w.alloc (.cells #[.int .i64 0,.int .i64 0,.slice none 0 0] 74))):=Chg.below (bel1 _ _)
  have C:Hid (∀ w1:World,PAt w1 b l e p→Calls Tryz.prog 135 #[ptrP b,.func (.func 136) #[] #[]] w1 fun en w'=>en=.returned (.int .i64 1)∧Below w1.heap.size w1 w'):=fun w1 h1=>by
    have:=pmustWhich_any 136 typeWords enters_typeWord ptypeWord_any typeWords_wordly (by decide) h1
    rw [hk] at this
    refine this.mono fun en w' hO=>?_
    rcases hO with ⟨_,he,hb⟩ | ⟨h0,_⟩
    · exact ⟨he,hb⟩
    · cases h0
  clear h hk
  go_enter Tryz.func110,Tryz.ntmps110
  go_wp2_with fail
  generalize w.alloc (.cells #[.int .i64 0,.int .i64 0,.slice none 0 0] 74)=w1 at H1 X1 K1 ⊢
  refine (C.out w1 H1.out).mono ?_
  rintro e' w2 ⟨rfl,b2⟩
  have F0:Hid (FB w (w2.alloc (.cells #[.int .i64 1,.int .i64 0,.slice none 0 0] 74)) b e l p w.heap.size w2.heap.size #[.int .i64 0,.int .i64 0,.slice none 0 0] #[.int .i64 1,.int .i64 0,.slice none 0 0] 74):=FB.beside _ (H1.out.below b2) (X1.out.below b2) (K1.out.trans (Chg.below b2)) hbw (Nat.le_refl _)
  clear b2 H1 X1 K1 C
  go_wp2_with fail
  generalize w2.alloc (.cells #[.int .i64 1,.int .i64 0,.slice none 0 0] 74)=w3 at F0 ⊢
  generalize w2.heap.size=B at F0 ⊢
  have hRB:w.heap.size < B:=F0.out.RB
  refine (take_any F0.out.rd HL.out).mono ?_
  rintro e' w4 ⟨rfl,r4,k4⟩
  have F4:Hid (FB w w4 b e l (p+1) w.heap.size B #[.int .i64 0,.int .i64 0,.slice none 0 0] #[.int .i64 1,.int .i64 0,.slice none 0 0] 74):=F0.out.call r4 k4
  have y0:=cellOf F4.out.box 0 _ rfl
  clear r4 k4 F0
  obtain ⟨y0,y1,y2⟩:=cells3 F4.out.box
  obtain ⟨u0,u1,u2⟩:=cells3 F4.out.res
  obtain ⟨v0,v1,v2⟩:=frees3 F4.out.res
  have hne:¬ B=w.heap.size:=by omega
  go_wp2
  have DD:Hid (FinD _ _ _ _ _ _ _ #[.int .i64 1,.int .i64 0,.slice none 0 0] (((w4.setCell ⟨w.heap.size,0,none⟩ (.int .i64 1)).setCell ⟨w.heap.size,1,none⟩ (.int .i64 0)).setCell ⟨w.heap.size,2,none⟩ (.slice none 0 0))):=FB.fin F4.out [.int .i64 1,.int .i64 0,.slice none 0 0] rfl
  clear u0 v0 y1 u1 v1 y2 u2 v2
  generalize (((w4.setCell ⟨w.heap.size,0,none⟩ (.int .i64 1)).setCell ⟨w.heap.size,1,none⟩ (.int .i64 0)).setCell ⟨w.heap.size,2,none⟩ (.slice none 0 0))=w9 at DD ⊢
  obtain ⟨D1,D2,D3⟩:=DD.out
  obtain ⟨x0,x1,x2⟩:=cells3 D1
  exact bodyPost_ret (v:=.agg #[.int .i64 1,.int .i64 0,.slice none 0 0]) (by simp [results,Tryz.results110,go_sem,x0,x1,x2]) rfl (Out.good (HE.out) (⟨none,0,rfl,tt_leaf ⟨by decide,by decide⟩ ⟨by decide,by decide⟩⟩) D2 D3)
theorem pone_k2 {w : World} {b e p : Nat} {l : List Tk} (d : Nat) (dp : Int) (hd0 : 0 ≤ dp) (hd4 : dp ≤ 4) (h : PAt w b l e p) (hk : whichP l typeWords p = 2) :
    Calls Tryz.prog 110 #[ptrP b,.int .i64 dp] w fun en w'=>Out b e l (typP l e (d+1) p) w (VTyp (d+1) w) en w':=by
  have hbw:=h.lt
  have HL:Hid (p < l.length):=which_lt (by rw [hk];decide)
  have HE:Hid (typP l e (d+1) p=PR.andThen (numP l e (p+1)) fun r q=>(.ok (((2,r,[]):TT (d+2)),q):PR (TT (d+2)))):=typ_k2 hk
  have H1:Hid (PAt (w.alloc (.cells #[.int .i64 0,.int .i64 0,.slice none 0 0] 74)) b l e p):=h.below (bel1 _ _)
  have X1:Hid (Blk (w.alloc (.cells #[.int .i64 0,.int .i64 0,.slice none 0 0] 74)) w.heap.size #[.int .i64 0,.int .i64 0,.slice none 0 0] 74):=Blk.new _ _ _
  have K1:Hid (Chg b w (w.alloc (.cells #[.int .i64 0,.int .i64 0,.slice none 0 0] 74))):=Chg.below (bel1 _ _)
  have C:Hid (∀ w1:World,PAt w1 b l e p→Calls Tryz.prog 135 #[ptrP b,.func (.func 136) #[] #[]] w1 fun en w'=>en=.returned (.int .i64 2)∧Below w1.heap.size w1 w'):=fun w1 h1=>by
    have:=pmustWhich_any 136 typeWords enters_typeWord ptypeWord_any typeWords_wordly (by decide) h1
    rw [hk] at this
    refine this.mono fun en w' hO=>?_
    rcases hO with ⟨_,he,hb⟩ | ⟨h0,_⟩
    · exact ⟨he,hb⟩
    · cases h0
  clear h hk
  go_enter Tryz.func110,Tryz.ntmps110
  go_wp2_with fail
  generalize w.alloc (.cells #[.int .i64 0,.int .i64 0,.slice none 0 0] 74)=w1 at H1 X1 K1 ⊢
  refine (C.out w1 H1.out).mono ?_
  rintro e' w2 ⟨rfl,b2⟩
  have F0:Hid (FB w (w2.alloc (.cells #[.int .i64 2,.int .i64 0,.slice none 0 0] 74)) b e l p w.heap.size w2.heap.size #[.int .i64 0,.int .i64 0,.slice none 0 0] #[.int .i64 2,.int .i64 0,.slice none 0 0] 74):=FB.beside _ (H1.out.below b2) (X1.out.below b2) (K1.out.trans (Chg.below b2)) hbw (Nat.le_refl _)
  clear b2 H1 X1 K1 C
  go_wp2_with fail
  generalize w2.alloc (.cells #[.int .i64 2,.int .i64 0,.slice none 0 0] 74)=w3 at F0 ⊢
  generalize w2.heap.size=B at F0 ⊢
  have hRB:w.heap.size < B:=F0.out.RB
  refine (take_any F0.out.rd HL.out).mono ?_
  rintro e' w4 ⟨rfl,r4,k4⟩
  have F4:Hid (FB w w4 b e l (p+1) w.heap.size B #[.int .i64 0,.int .i64 0,.slice none 0 0] #[.int .i64 2,.int .i64 0,.slice none 0 0] 74):=F0.out.call r4 k4
  have y0:=cellOf F4.out.box 0 _ rfl
  clear r4 k4 F0
  go_wp2_with fail
  refine (FB.callNums F4.out [1] (by simp) rfl (by decide) (by simp)).mono ?_
  intro e' w5 hO
  rcases hO with ⟨ns,p5,m5,rfl,hx5,r5,k5⟩ | ⟨y,c',a',m5,rfl,hc',k5⟩
  rotate_left
  · exact ⟨rfl,Out.bad (by rw [HE.out,nums1_eq,show numsP l e 1 (p+1)=_ from m5];rfl) hc' k5⟩
  have hl5:=nums_len m5
  obtain ⟨nr,rfl⟩:∃ nr,ns=[nr]:=by
    match ns,hl5 with
    | [nr],_=>exact ⟨nr,rfl⟩
  have Bnr:Hid (0≤nr∧nr≤1000000):=hx5 nr (by simp)
  have E5:Hid (numsP l e 1 (p+1)=.ok ([nr],p5)):=m5
  have G5:Hid (FB _ _ _ _ _ _ _ _ _ #[.int .i64 2,.int .i64 nr,.slice none 0 0] _):=r5
  clear m5 r5 k5 hx5 hl5 F4
  obtain ⟨y0,y1,y2⟩:=cells3 G5.out.box
  obtain ⟨u0,u1,u2⟩:=cells3 G5.out.res
  obtain ⟨v0,v1,v2⟩:=frees3 G5.out.res
  have hne:¬ B=w.heap.size:=by omega
  go_wp2
  have DD:Hid (FinD _ _ _ _ _ _ _ #[.int .i64 2,.int .i64 nr,.slice none 0 0] (((w5.setCell ⟨w.heap.size,0,none⟩ (.int .i64 2)).setCell ⟨w.heap.size,1,none⟩ (.int .i64 nr)).setCell ⟨w.heap.size,2,none⟩ (.slice none 0 0))):=FB.fin G5.out [.int .i64 2,.int .i64 nr,.slice none 0 0] rfl
  clear y0 u0 v0 y1 u1 v1 y2 u2 v2
  generalize (((w5.setCell ⟨w.heap.size,0,none⟩ (.int .i64 2)).setCell ⟨w.heap.size,1,none⟩ (.int .i64 nr)).setCell ⟨w.heap.size,2,none⟩ (.slice none 0 0))=w9 at DD ⊢
  obtain ⟨D1,D2,D3⟩:=DD.out
  obtain ⟨x0,x1,x2⟩:=cells3 D1
  exact bodyPost_ret (v:=.agg #[.int .i64 2,.int .i64 nr,.slice none 0 0]) (by simp [results,Tryz.results110,go_sem,x0,x1,x2]) rfl (Out.good (by rw [HE.out,nums1_eq,E5.out,PR.ok_andThen];rfl) (⟨none,0,rfl,tt_leaf ⟨by decide,by decide⟩ (i64_of Bnr.out)⟩) D2 D3)
theorem pone_k4 {w : World} {b e p : Nat} {l : List Tk} (d : Nat) (dp : Int) (hd0 : 0 ≤ dp) (hd4 : dp ≤ 4) (h : PAt w b l e p) (hk : whichP l typeWords p = 4) :
    Calls Tryz.prog 110 #[ptrP b,.int .i64 dp] w fun en w'=>Out b e l (typP l e (d+1) p) w (VTyp (d+1) w) en w':=by
  have hbw:=h.lt
  have HL:Hid (p < l.length):=which_lt (by rw [hk];decide)
  have HE:Hid (typP l e (d+1) p=PR.andThen (numP l e (p+1)) fun r q=>(.ok (((4,r,[]):TT (d+2)),q):PR (TT (d+2)))):=typ_k4 hk
  have H1:Hid (PAt (w.alloc (.cells #[.int .i64 0,.int .i64 0,.slice none 0 0] 74)) b l e p):=h.below (bel1 _ _)
  have X1:Hid (Blk (w.alloc (.cells #[.int .i64 0,.int .i64 0,.slice none 0 0] 74)) w.heap.size #[.int .i64 0,.int .i64 0,.slice none 0 0] 74):=Blk.new _ _ _
  have K1:Hid (Chg b w (w.alloc (.cells #[.int .i64 0,.int .i64 0,.slice none 0 0] 74))):=Chg.below (bel1 _ _)
  have C:Hid (∀ w1:World,PAt w1 b l e p→Calls Tryz.prog 135 #[ptrP b,.func (.func 136) #[] #[]] w1 fun en w'=>en=.returned (.int .i64 4)∧Below w1.heap.size w1 w'):=fun w1 h1=>by
    have:=pmustWhich_any 136 typeWords enters_typeWord ptypeWord_any typeWords_wordly (by decide) h1
    rw [hk] at this
    refine this.mono fun en w' hO=>?_
    rcases hO with ⟨_,he,hb⟩ | ⟨h0,_⟩
    · exact ⟨he,hb⟩
    · cases h0
  clear h hk
  go_enter Tryz.func110,Tryz.ntmps110
  go_wp2_with fail
  generalize w.alloc (.cells #[.int .i64 0,.int .i64 0,.slice none 0 0] 74)=w1 at H1 X1 K1 ⊢
  refine (C.out w1 H1.out).mono ?_
  rintro e' w2 ⟨rfl,b2⟩
  have F0:Hid (FB w (w2.alloc (.cells #[.int .i64 4,.int .i64 0,.slice none 0 0] 74)) b e l p w.heap.size w2.heap.size #[.int .i64 0,.int .i64 0,.slice none 0 0] #[.int .i64 4,.int .i64 0,.slice none 0 0] 74):=FB.beside _ (H1.out.below b2) (X1.out.below b2) (K1.out.trans (Chg.below b2)) hbw (Nat.le_refl _)
  clear b2 H1 X1 K1 C
  go_wp2_with fail
  generalize w2.alloc (.cells #[.int .i64 4,.int .i64 0,.slice none 0 0] 74)=w3 at F0 ⊢
  generalize w2.heap.size=B at F0 ⊢
  have hRB:w.heap.size < B:=F0.out.RB
  refine (take_any F0.out.rd HL.out).mono ?_
  rintro e' w4 ⟨rfl,r4,k4⟩
  have F4:Hid (FB w w4 b e l (p+1) w.heap.size B #[.int .i64 0,.int .i64 0,.slice none 0 0] #[.int .i64 4,.int .i64 0,.slice none 0 0] 74):=F0.out.call r4 k4
  have y0:=cellOf F4.out.box 0 _ rfl
  clear r4 k4 F0
  go_wp2_with fail
  refine (FB.callNums F4.out [1] (by simp) rfl (by decide) (by simp)).mono ?_
  intro e' w5 hO
  rcases hO with ⟨ns,p5,m5,rfl,hx5,r5,k5⟩ | ⟨y,c',a',m5,rfl,hc',k5⟩
  rotate_left
  · exact ⟨rfl,Out.bad (by rw [HE.out,nums1_eq,show numsP l e 1 (p+1)=_ from m5];rfl) hc' k5⟩
  have hl5:=nums_len m5
  obtain ⟨nr,rfl⟩:∃ nr,ns=[nr]:=by
    match ns,hl5 with
    | [nr],_=>exact ⟨nr,rfl⟩
  have Bnr:Hid (0≤nr∧nr≤1000000):=hx5 nr (by simp)
  have E5:Hid (numsP l e 1 (p+1)=.ok ([nr],p5)):=m5
  have G5:Hid (FB _ _ _ _ _ _ _ _ _ #[.int .i64 4,.int .i64 nr,.slice none 0 0] _):=r5
  clear m5 r5 k5 hx5 hl5 F4
  obtain ⟨y0,y1,y2⟩:=cells3 G5.out.box
  obtain ⟨u0,u1,u2⟩:=cells3 G5.out.res
  obtain ⟨v0,v1,v2⟩:=frees3 G5.out.res
  have hne:¬ B=w.heap.size:=by omega
  go_wp2
  have DD:Hid (FinD _ _ _ _ _ _ _ #[.int .i64 4,.int .i64 nr,.slice none 0 0] (((w5.setCell ⟨w.heap.size,0,none⟩ (.int .i64 4)).setCell ⟨w.heap.size,1,none⟩ (.int .i64 nr)).setCell ⟨w.heap.size,2,none⟩ (.slice none 0 0))):=FB.fin G5.out [.int .i64 4,.int .i64 nr,.slice none 0 0] rfl
  clear y0 u0 v0 y1 u1 v1 y2 u2 v2
  generalize (((w5.setCell ⟨w.heap.size,0,none⟩ (.int .i64 4)).setCell ⟨w.heap.size,1,none⟩ (.int .i64 nr)).setCell ⟨w.heap.size,2,none⟩ (.slice none 0 0))=w9 at DD ⊢
  obtain ⟨D1,D2,D3⟩:=DD.out
  obtain ⟨x0,x1,x2⟩:=cells3 D1
  exact bodyPost_ret (v:=.agg #[.int .i64 4,.int .i64 nr,.slice none 0 0]) (by simp [results,Tryz.results110,go_sem,x0,x1,x2]) rfl (Out.good (by rw [HE.out,nums1_eq,E5.out,PR.ok_andThen];rfl) (⟨none,0,rfl,tt_leaf ⟨by decide,by decide⟩ (i64_of Bnr.out)⟩) D2 D3)
theorem pone_k3 {w : World} {b e p : Nat} {l : List Tk} (d : Nat) (dp : Int) (hd0 : 0 ≤ dp) (hd4 : dp ≤ 4) (IH : Hid (POne d (dp + 1))) (h : PAt w b l e p) (hk : whichP l typeWords p = 3) :
    Calls Tryz.prog 110 #[ptrP b,.int .i64 dp] w fun en w'=>Out b e l (typP l e (d+1) p) w (VTyp (d+1) w) en w':=by
  have hbw:=h.lt
  have HL:Hid (p < l.length):=which_lt (by rw [hk];decide)
  have HE:Hid (typP l e (d+1) p=PR.andThen (numP l e (p+1)) fun r p2=>PR.andThen (inP l e (typP l e d) [40] [41] p2) fun ts p3=>(.ok (((3,r,ts):TT (d+2)),p3):PR (TT (d+2)))):=typ_k3 hk
  have H1:Hid (PAt (w.alloc (.cells #[.int .i64 0,.int .i64 0,.slice none 0 0] 74)) b l e p):=h.below (bel1 _ _)
  have X1:Hid (Blk (w.alloc (.cells #[.int .i64 0,.int .i64 0,.slice none 0 0] 74)) w.heap.size #[.int .i64 0,.int .i64 0,.slice none 0 0] 74):=Blk.new _ _ _
  have K1:Hid (Chg b w (w.alloc (.cells #[.int .i64 0,.int .i64 0,.slice none 0 0] 74))):=Chg.below (bel1 _ _)
  have C:Hid (∀ w1:World,PAt w1 b l e p→Calls Tryz.prog 135 #[ptrP b,.func (.func 136) #[] #[]] w1 fun en w'=>en=.returned (.int .i64 3)∧Below w1.heap.size w1 w'):=fun w1 h1=>by
    have:=pmustWhich_any 136 typeWords enters_typeWord ptypeWord_any typeWords_wordly (by decide) h1
    rw [hk] at this
    refine this.mono fun en w' hO=>?_
    rcases hO with ⟨_,he,hb⟩ | ⟨h0,_⟩
    · exact ⟨he,hb⟩
    · cases h0
  clear h hk
  go_enter Tryz.func110,Tryz.ntmps110
  go_wp2_with fail
  generalize w.alloc (.cells #[.int .i64 0,.int .i64 0,.slice none 0 0] 74)=w1 at H1 X1 K1 ⊢
  refine (C.out w1 H1.out).mono ?_
  rintro e' w2 ⟨rfl,b2⟩
  have F0:Hid (FB w (w2.alloc (.cells #[.int .i64 3,.int .i64 0,.slice none 0 0] 74)) b e l p w.heap.size w2.heap.size #[.int .i64 0,.int .i64 0,.slice none 0 0] #[.int .i64 3,.int .i64 0,.slice none 0 0] 74):=FB.beside _ (H1.out.below b2) (X1.out.below b2) (K1.out.trans (Chg.below b2)) hbw (Nat.le_refl _)
  clear b2 H1 X1 K1 C
  go_wp2_with fail
  generalize w2.alloc (.cells #[.int .i64 3,.int .i64 0,.slice none 0 0] 74)=w3 at F0 ⊢
  generalize w2.heap.size=B at F0 ⊢
  have hRB:w.heap.size < B:=F0.out.RB
  refine (take_any F0.out.rd HL.out).mono ?_
  rintro e' w4 ⟨rfl,r4,k4⟩
  have F4:Hid (FB w w4 b e l (p+1) w.heap.size B #[.int .i64 0,.int .i64 0,.slice none 0 0] #[.int .i64 3,.int .i64 0,.slice none 0 0] 74):=F0.out.call r4 k4
  have y0:=cellOf F4.out.box 0 _ rfl
  clear r4 k4 F0
  go_wp2_with fail
  refine (FB.callNums F4.out [1] (by simp) rfl (by decide) (by simp)).mono ?_
  intro e' w5 hO
  rcases hO with ⟨ns,p5,m5,rfl,hx5,r5,k5⟩ | ⟨y,c',a',m5,rfl,hc',k5⟩
  rotate_left
  · exact ⟨rfl,Out.bad (by rw [HE.out,nums1_eq,show numsP l e 1 (p+1)=_ from m5];rfl) hc' k5⟩
  have hl5:=nums_len m5
  obtain ⟨nr,rfl⟩:∃ nr,ns=[nr]:=by
    match ns,hl5 with
    | [nr],_=>exact ⟨nr,rfl⟩
  have Bnr:Hid (0≤nr∧nr≤1000000):=hx5 nr (by simp)
  have E5:Hid (numsP l e 1 (p+1)=.ok ([nr],p5)):=m5
  have G5:Hid (FB _ _ _ _ _ _ _ _ _ #[.int .i64 3,.int .i64 nr,.slice none 0 0] _):=r5
  clear m5 r5 k5 hx5 hl5 F4
  have y0:=cellOf G5.out.box 0 _ rfl
  go_wp2_with fail
  refine (ptypes_any IH.out G5.out.rd).mono ?_
  intro e' w6 hO
  rcases hO with ⟨ts,p6,x6,m6,rfl,⟨ax,cx,rfl,hi6⟩,r6,k6⟩ | ⟨y,c',a',m6,rfl,hc',k6⟩
  rotate_left
  · exact ⟨rfl,Out.bad (by rw [HE.out,nums1_eq,E5.out,PR.ok_andThen,m6];rfl) hc' (G5.out.chg.trans k6)⟩
  have E6:Hid (inP l e (typP l e d) [40] [41] p5=.ok (ts,p6)):=m6
  have G6:Hid (FB _ _ _ _ _ _ _ _ _ _ _):=G5.out.call r6 k6
  have Kts:Hid (Kid (typesL (d+1)) B w6 ts [.slice ax ts.length cx]):=Kid.mk hi6 G5.out.lt
  clear hi6 y0
  clear m6 r6 k6 G5
  obtain ⟨y0,y1,y2⟩:=cells3 G6.out.box
  obtain ⟨u0,u1,u2⟩:=cells3 G6.out.res
  obtain ⟨v0,v1,v2⟩:=frees3 G6.out.res
  have z2:=freeOf G6.out.box 2
  have hne:¬ B=w.heap.size:=by omega
  go_wp2
  have DD:Hid (FinD _ _ _ _ _ _ _ #[.int .i64 3,.int .i64 nr,.slice ax ts.length cx] ((((w6.setCell ⟨B,2,none⟩ (.slice ax ts.length cx)).setCell ⟨w.heap.size,0,none⟩ (.int .i64 3)).setCell ⟨w.heap.size,1,none⟩ (.int .i64 nr)).setCell ⟨w.heap.size,2,none⟩ (.slice ax ts.length cx))):=FB.fin (FB.set G6.out 2 (.slice ax ts.length cx)) [.int .i64 3,.int .i64 nr,.slice ax ts.length cx] rfl
  have DKts:Hid (Kid _ _ ((((w6.setCell ⟨B,2,none⟩ (.slice ax ts.length cx)).setCell ⟨w.heap.size,0,none⟩ (.int .i64 3)).setCell ⟨w.heap.size,1,none⟩ (.int .i64 nr)).setCell ⟨w.heap.size,2,none⟩ (.slice ax ts.length cx)) _ _):=Kid.sets (Kid.set Kts.out (q:=⟨B,2,none⟩) (Nat.le_refl _) _) (by omega) [.int .i64 3,.int .i64 nr,.slice ax ts.length cx] 0
  clear Kts
  clear y0 u0 v0 y1 u1 v1 y2 u2 v2
  generalize ((((w6.setCell ⟨B,2,none⟩ (.slice ax ts.length cx)).setCell ⟨w.heap.size,0,none⟩ (.int .i64 3)).setCell ⟨w.heap.size,1,none⟩ (.int .i64 nr)).setCell ⟨w.heap.size,2,none⟩ (.slice ax ts.length cx))=w9 at DD DKts ⊢
  obtain ⟨D1,D2,D3⟩:=DD.out
  obtain ⟨x0,x1,x2⟩:=cells3 D1
  exact bodyPost_ret (v:=.agg #[.int .i64 3,.int .i64 nr,.slice ax ts.length cx]) (by simp [results,Tryz.results110,go_sem,x0,x1,x2]) rfl (Out.good (by rw [HE.out,nums1_eq,E5.out,PR.ok_andThen,E6.out,PR.ok_andThen];rfl) (⟨ax,cx,rfl,tt_tree ⟨by decide,by decide⟩ (i64_of Bnr.out) (Kid.out DKts.out (by omega))⟩) D2 D3)
theorem pone_succ (d : Nat) (dp : Int) (hd0 : 0 ≤ dp) (hd4 : dp ≤ 4) (IH : POne d (dp + 1)) : POne (d + 1) dp := by
  intro w b e l p h
  have hle:=which_le (l:=l) (p:=p) typeWords
  have h4:typeWords.length=4:=rfl
  match hk:whichP l typeWords p with
  | 0=>exact pone_k0 d dp h hk
  | 1=>exact pone_k1 d dp hd0 hd4 h hk
  | 2=>exact pone_k2 d dp hd0 hd4 h hk
  | 3=>exact pone_k3 d dp hd0 hd4 IH h hk
  | 4=>exact pone_k4 d dp hd0 hd4 h hk
  | n+5=>omega
theorem pone_top : POne 5 0 := pone_succ 4 0 (by omega) (by omega) (pone_succ 3 1 (by omega) (by omega) (pone_succ 2 2 (by omega) (by omega) (pone_succ 1 3 (by omega) (by omega) (pone_succ 0 4 (by omega) (by omega) pone_zero))))
theorem ptypesTop_any {w : World} {b e p : Nat} {l : List Tk} (h : PAt w b l e p) :
    Calls Tryz.prog 88 #[ptrP b,.int .i64 0] w fun en w'=>Out b e l (typesP l e p) w (VTyps 5 w) en w':=ptypes_any pone_top h
def VIns (w0 : World) : World → MIns → Value → Prop := fun w' x v => ∃ a c b d, v = .agg #[.int .i64 x.op, .int .i64 x.a, .int .i64 x.b, .int .i64 x.c, .int .i64 x.k, .int .i64 x.n, .slice a x.regs.length c, .slice b x.args.length d] ∧ insL.In w' (fun g => w0.heap.size ≤ g) x [.int .i64 x.op, .int .i64 x.a, .int .i64 x.b, .int .i64 x.c, .int .i64 x.k, .int .i64 x.n, .slice a x.regs.length c, .slice b x.args.length d]
theorem ins2_eq {l : List Tk} {e q : Nat} : insFields l e 2 q = (if whichP l kindWords q = 0 then .error (wrongAt l e 4 q) else PR.andThen (numP l e (q + 1)) fun a p1 => PR.andThen (numP l e p1) fun c p2 => (.ok ((⟨2, a, c, 0, (whichP l kindWords q : Nat), 0, [], []⟩ : MIns), p2) : PR MIns)) := rfl
theorem lit_i64 (x : Int) (h : decide (-9223372036854775808 ≤ x ∧ x ≤ 9223372036854775807) = true) : -9223372036854775808 ≤ x ∧ x ≤ 9223372036854775807 := of_decide_eq_true h
theorem pins_k1 {w : World} {b e p : Nat} {l : List Tk} (h : PAt w b l e p) (hk : whichP l opWords p = 1) :
    Calls Tryz.prog 114 #[ptrP b] w fun en w'=>Out b e l (insFields l e 1 (p+1)) w (VIns w) en w':=by
  have hbw:=h.lt
  have HL:Hid (p < l.length):=which_lt (by rw [hk];decide)
  have HE:Hid (insFields l e 1 (p+1)=PR.andThen (longP l e (p+1)) fun n q=>(.ok ((⟨1,0,0,0,0,n,[],[]⟩:MIns),q):PR MIns)):=rfl
  have S1:Hid (PAt (w.alloc (.cells #[.int .i64 0,.int .i64 0,.int .i64 0,.int .i64 0,.int .i64 0,.int .i64 0,.slice none 0 0,.slice none 0 0] 41)) _ _ _ _∧_∧_):=begins h
  have C:Hid (∀ w1:World,PAt w1 b l e p→Calls Tryz.prog 135 #[ptrP b,.func (.func 9) #[] #[]] w1 fun en w'=>en=.returned (.int .i64 1)∧Below w1.heap.size w1 w'):=fun w1 h1=>which_told enters_Op pOp_any opWords_wordly (by decide) hk (by decide) h1
  clear h hk
  go_enter Tryz.func114,Tryz.ntmps114
  go_wp2_with fail
  generalize w.alloc (.cells #[.int .i64 0,.int .i64 0,.int .i64 0,.int .i64 0,.int .i64 0,.int .i64 0,.slice none 0 0,.slice none 0 0] 41)=w1 at S1 ⊢
  refine (C.out w1 S1.out.1).mono ?_
  rintro e' w2 ⟨rfl,b2⟩
  have F0:Hid (FB w (w2.alloc (.cells #[.int .i64 1,.int .i64 0,.int .i64 0,.int .i64 0,.int .i64 0,.int .i64 0,.slice none 0 0,.slice none 0 0] 41)) b e l p w.heap.size w2.heap.size _ #[.int .i64 1,.int .i64 0,.int .i64 0,.int .i64 0,.int .i64 0,.int .i64 0,.slice none 0 0,.slice none 0 0] 41):=FB.beside _ (S1.out.1.below b2) (S1.out.2.1.below b2) (S1.out.2.2.trans (Chg.below b2)) hbw (Nat.le_refl _)
  clear b2 S1 C
  go_wp2_with fail
  generalize w2.alloc (.cells #[.int .i64 1,.int .i64 0,.int .i64 0,.int .i64 0,.int .i64 0,.int .i64 0,.slice none 0 0,.slice none 0 0] 41)=w3 at F0 ⊢
  generalize w2.heap.size=B at F0 ⊢
  have hRB:w.heap.size < B:=F0.out.RB
  refine (take_any F0.out.rd HL.out).mono ?_
  rintro e' w4 ⟨rfl,r4,k4⟩
  have F4:Hid (FB _ _ _ _ _ _ _ _ _ _ _):=F0.out.call r4 k4
  have y0:=cellOf F4.out.box 0 _ rfl
  clear r4 k4 F0
  go_wp2_with fail
  refine (plong_any F4.out.rd).mono ?_
  intro e' w5 hO
  rcases hO with ⟨nn,p5,x5,m5,rfl,⟨rfl,hb5⟩,r5,k5⟩ | ⟨y,c',a',m5,rfl,hc',k5⟩
  rotate_left
  · exact ⟨rfl,Out.bad (by rw [HE.out,m5];rfl) hc' (F4.out.chg.trans k5)⟩
  have E5:Hid (longP l e (p+1)=.ok (nn,p5)):=m5
  have G5:Hid (FB _ _ _ _ _ _ _ _ _ _ _):=F4.out.call r5 k5
  have Bnn:Hid (-9223372036854775808≤nn∧nn≤9223372036854775807):=hb5
  clear hb5
  clear m5 r5 k5 F4
  obtain ⟨y0,y1,y2,y3,y4,y5,y6,y7⟩:=cells8 G5.out.box
  obtain ⟨u0,u1,u2,u3,u4,u5,u6,u7⟩:=cells8 G5.out.res
  obtain ⟨v0,v1,v2,v3,v4,v5,v6,v7⟩:=frees8 G5.out.res
  have z5:=freeOf G5.out.box 5
  have hne:¬ B=w.heap.size:=by omega
  go_wp2
  have DD:Hid (FinD _ _ _ _ _ _ _ #[.int .i64 1,.int .i64 0,.int .i64 0,.int .i64 0,.int .i64 0,.int .i64 nn,.slice none 0 0,.slice none 0 0] (((((((((w5.setCell ⟨B,5,none⟩ (.int .i64 nn)).setCell ⟨w.heap.size,0,none⟩ (.int .i64 1)).setCell ⟨w.heap.size,1,none⟩ (.int .i64 0)).setCell ⟨w.heap.size,2,none⟩ (.int .i64 0)).setCell ⟨w.heap.size,3,none⟩ (.int .i64 0)).setCell ⟨w.heap.size,4,none⟩ (.int .i64 0)).setCell ⟨w.heap.size,5,none⟩ (.int .i64 nn)).setCell ⟨w.heap.size,6,none⟩ (.slice none 0 0)).setCell ⟨w.heap.size,7,none⟩ (.slice none 0 0))):=FB.fin (FB.set G5.out 5 (.int .i64 nn)) [.int .i64 1,.int .i64 0,.int .i64 0,.int .i64 0,.int .i64 0,.int .i64 nn,.slice none 0 0,.slice none 0 0] rfl
  clear y0 u0 v0 y1 u1 v1 y2 u2 v2 y3 u3 v3 y4 u4 v4 y5 u5 v5 y6 u6 v6 y7 u7 v7
  generalize (((((((((w5.setCell ⟨B,5,none⟩ (.int .i64 nn)).setCell ⟨w.heap.size,0,none⟩ (.int .i64 1)).setCell ⟨w.heap.size,1,none⟩ (.int .i64 0)).setCell ⟨w.heap.size,2,none⟩ (.int .i64 0)).setCell ⟨w.heap.size,3,none⟩ (.int .i64 0)).setCell ⟨w.heap.size,4,none⟩ (.int .i64 0)).setCell ⟨w.heap.size,5,none⟩ (.int .i64 nn)).setCell ⟨w.heap.size,6,none⟩ (.slice none 0 0)).setCell ⟨w.heap.size,7,none⟩ (.slice none 0 0))=w9 at DD ⊢
  obtain ⟨D1,D2,D3⟩:=DD.out
  obtain ⟨x0,x1,x2,x3,x4,x5,x6,x7⟩:=cells8 D1
  exact bodyPost_ret (v:=.agg #[.int .i64 1,.int .i64 0,.int .i64 0,.int .i64 0,.int .i64 0,.int .i64 nn,.slice none 0 0,.slice none 0 0]) (by simp [results,Tryz.results114,go_sem,x0,x1,x2,x3,x4,x5,x6,x7]) rfl (Out.good (by rw [HE.out,E5.out,PR.ok_andThen]) (⟨none,0,none,0,rfl,ins_mk (x:=(⟨1,0,0,0,0,nn,[],[]⟩:MIns)) (Lay.list_nil _ _ _ _ _) (Lay.list_nil _ _ _ _ _) ⟨lit_i64 1 (by decide),lit_i64 0 (by decide),lit_i64 0 (by decide),lit_i64 0 (by decide),lit_i64 0 (by decide),Bnn.out⟩⟩) D2 D3)
theorem pins_k2z {w : World} {b e p : Nat} {l : List Tk} (h : PAt w b l e p) (hk : whichP l opWords p = 2) (hj : whichP l kindWords (p + 1) = 0) :
    Calls Tryz.prog 114 #[ptrP b] w fun en w'=>Out b e l (insFields l e 2 (p+1)) w (VIns w) en w':=by
  have hbw:=h.lt
  have HL:Hid (p < l.length):=which_lt (by rw [hk];decide)
  have HE:Hid (∃ y,insFields l e 2 (p+1)=.error y):=⟨wrongAt l e 4 (p+1),by rw [ins2_eq,if_pos hj]⟩
  have S1:Hid (PAt (w.alloc (.cells #[.int .i64 0,.int .i64 0,.int .i64 0,.int .i64 0,.int .i64 0,.int .i64 0,.slice none 0 0,.slice none 0 0] 41)) _ _ _ _∧_∧_):=begins h
  have C:Hid (∀ w1:World,PAt w1 b l e p→Calls Tryz.prog 135 #[ptrP b,.func (.func 9) #[] #[]] w1 fun en w'=>en=.returned (.int .i64 2)∧Below w1.heap.size w1 w'):=fun w1 h1=>which_told enters_Op pOp_any opWords_wordly (by decide) hk (by decide) h1
  have HJ:Hid (whichP l kindWords (p+1)=0):=hj
  clear hj
  clear h hk
  go_enter Tryz.func114,Tryz.ntmps114
  go_wp2_with fail
  generalize w.alloc (.cells #[.int .i64 0,.int .i64 0,.int .i64 0,.int .i64 0,.int .i64 0,.int .i64 0,.slice none 0 0,.slice none 0 0] 41)=w1 at S1 ⊢
  refine (C.out w1 S1.out.1).mono ?_
  rintro e' w2 ⟨rfl,b2⟩
  have F0:Hid (FB w (w2.alloc (.cells #[.int .i64 2,.int .i64 0,.int .i64 0,.int .i64 0,.int .i64 0,.int .i64 0,.slice none 0 0,.slice none 0 0] 41)) b e l p w.heap.size w2.heap.size _ #[.int .i64 2,.int .i64 0,.int .i64 0,.int .i64 0,.int .i64 0,.int .i64 0,.slice none 0 0,.slice none 0 0] 41):=FB.beside _ (S1.out.1.below b2) (S1.out.2.1.below b2) (S1.out.2.2.trans (Chg.below b2)) hbw (Nat.le_refl _)
  clear b2 S1 C
  go_wp2_with fail
  generalize w2.alloc (.cells #[.int .i64 2,.int .i64 0,.int .i64 0,.int .i64 0,.int .i64 0,.int .i64 0,.slice none 0 0,.slice none 0 0] 41)=w3 at F0 ⊢
  generalize w2.heap.size=B at F0 ⊢
  have hRB:w.heap.size < B:=F0.out.RB
  refine (take_any F0.out.rd HL.out).mono ?_
  rintro e' w4 ⟨rfl,r4,k4⟩
  have F4:Hid (FB _ _ _ _ _ _ _ _ _ _ _):=F0.out.call r4 k4
  have y0:=cellOf F4.out.box 0 _ rfl
  clear r4 k4 F0
  go_wp2_with fail
  refine (pmustWhich_any 11 kindWords enters_Kind pKind_any kindWords_wordly (by decide) F4.out.rd).mono ?_
  intro e' w5 hO
  rcases hO with ⟨h0,_⟩ | ⟨_,⟨c,a,rfl,hc⟩,b5⟩
  · exact absurd HJ.out h0
  · obtain ⟨y,hy⟩:=HE.out
    exact ⟨rfl,Out.bad hy hc (F4.out.chg.trans (Chg.below b5))⟩
theorem pins_k2s {w : World} {b e p : Nat} {l : List Tk} {j : Nat} (h : PAt w b l e p) (hk : whichP l opWords p = 2) (hj : whichP l kindWords (p + 1) = j) (hj0 : j ≠ 0) :
    Calls Tryz.prog 114 #[ptrP b] w fun en w'=>Out b e l (insFields l e 2 (p+1)) w (VIns w) en w':=by
  have hbw:=h.lt
  have HL:Hid (p < l.length):=which_lt (by rw [hk];decide)
  have HE:Hid (insFields l e 2 (p+1)=PR.andThen (numP l e (p+1+1)) fun a p1=>PR.andThen (numP l e p1) fun c p2=>(.ok ((⟨2,a,c,0,(j:Nat),0,[],[]⟩:MIns),p2):PR MIns)):=by show _=_;rw [ins2_eq,if_neg (by rw [hj];exact hj0),hj]
  have S1:Hid (PAt (w.alloc (.cells #[.int .i64 0,.int .i64 0,.int .i64 0,.int .i64 0,.int .i64 0,.int .i64 0,.slice none 0 0,.slice none 0 0] 41)) _ _ _ _∧_∧_):=begins h
  have C:Hid (∀ w1:World,PAt w1 b l e p→Calls Tryz.prog 135 #[ptrP b,.func (.func 9) #[] #[]] w1 fun en w'=>en=.returned (.int .i64 2)∧Below w1.heap.size w1 w'):=fun w1 h1=>which_told enters_Op pOp_any opWords_wordly (by decide) hk (by decide) h1
  have C2:Hid (∀ w1:World,PAt w1 b l e (p+1)→Calls Tryz.prog 135 #[ptrP b,.func (.func 11) #[] #[]] w1 fun en w'=>en=.returned (.int .i64 j)∧Below w1.heap.size w1 w'):=fun w1 h1=>by
    have:=pmustWhich_any 11 kindWords enters_Kind pKind_any kindWords_wordly (by decide) h1
    rw [hj] at this
    refine this.mono fun en w' hO=>?_
    rcases hO with ⟨_,he,hb⟩ | ⟨h0,_⟩
    · exact ⟨he,hb⟩
    · exact absurd h0 hj0
  have HL2:Hid (p+1 < l.length):=which_lt (by rw [hj];exact hj0)
  have Bj:Hid ((0:Int)≤j∧(j:Int)≤1000000):=by have:=which_le (l:=l) (p:=p+1) kindWords;rw [hj] at this;have h9:kindWords.length=9:=rfl;exact ⟨by omega,by omega⟩
  clear hj hj0
  clear h hk
  go_enter Tryz.func114,Tryz.ntmps114
  go_wp2_with fail
  generalize w.alloc (.cells #[.int .i64 0,.int .i64 0,.int .i64 0,.int .i64 0,.int .i64 0,.int .i64 0,.slice none 0 0,.slice none 0 0] 41)=w1 at S1 ⊢
  refine (C.out w1 S1.out.1).mono ?_
  rintro e' w2 ⟨rfl,b2⟩
  have F0:Hid (FB w (w2.alloc (.cells #[.int .i64 2,.int .i64 0,.int .i64 0,.int .i64 0,.int .i64 0,.int .i64 0,.slice none 0 0,.slice none 0 0] 41)) b e l p w.heap.size w2.heap.size _ #[.int .i64 2,.int .i64 0,.int .i64 0,.int .i64 0,.int .i64 0,.int .i64 0,.slice none 0 0,.slice none 0 0] 41):=FB.beside _ (S1.out.1.below b2) (S1.out.2.1.below b2) (S1.out.2.2.trans (Chg.below b2)) hbw (Nat.le_refl _)
  clear b2 S1 C
  go_wp2_with fail
  generalize w2.alloc (.cells #[.int .i64 2,.int .i64 0,.int .i64 0,.int .i64 0,.int .i64 0,.int .i64 0,.slice none 0 0,.slice none 0 0] 41)=w3 at F0 ⊢
  generalize w2.heap.size=B at F0 ⊢
  have hRB:w.heap.size < B:=F0.out.RB
  refine (take_any F0.out.rd HL.out).mono ?_
  rintro e' w4 ⟨rfl,r4,k4⟩
  have F4:Hid (FB _ _ _ _ _ _ _ _ _ _ _):=F0.out.call r4 k4
  have y0:=cellOf F4.out.box 0 _ rfl
  clear r4 k4 F0
  go_wp2_with fail
  refine (C2.out w4 F4.out.rd).mono ?_
  rintro e' w5 ⟨rfl,b5⟩
  have F5:Hid (FB w w5 b e l (p+1) w.heap.size B #[.int .i64 0,.int .i64 0,.int .i64 0,.int .i64 0,.int .i64 0,.int .i64 0,.slice none 0 0,.slice none 0 0] #[.int .i64 2,.int .i64 0,.int .i64 0,.int .i64 0,.int .i64 0,.int .i64 0,.slice none 0 0,.slice none 0 0] 41):=F4.out.call (F4.out.rd.below b5) (Chg.below b5)
  clear b5 F4 C2
  have y4:=cellOf F5.out.box 4 _ rfl
  have z4:=freeOf F5.out.box 4
  go_wp2_with fail
  have G6:Hid (FB _ (w5.setCell ⟨B,4,none⟩ (.int .i64 (j:Int))) _ _ _ _ _ _ _ #[.int .i64 2,.int .i64 0,.int .i64 0,.int .i64 0,.int .i64 (j:Int),.int .i64 0,.slice none 0 0,.slice none 0 0] _):=(FB.set F5.out 4 (.int .i64 (j:Int)))
  generalize (w5.setCell ⟨B,4,none⟩ (.int .i64 (j:Int)))=w6 at G6 ⊢
  clear y4 z4 F5
  refine (take_any G6.out.rd HL2.out).mono ?_
  rintro e' w7 ⟨rfl,r7,k7⟩
  have T7:Hid (FB w w7 b e l (p+1+1) w.heap.size B #[.int .i64 0,.int .i64 0,.int .i64 0,.int .i64 0,.int .i64 0,.int .i64 0,.slice none 0 0,.slice none 0 0] #[.int .i64 2,.int .i64 0,.int .i64 0,.int .i64 0,.int .i64 (j:Int),.int .i64 0,.slice none 0 0,.slice none 0 0] 41):=G6.out.call r7 k7
  clear r7 k7 G6
  go_wp2_with fail
  refine (FB.callNums T7.out [1,2] (by simp) rfl (by decide) (by simp)).mono ?_
  intro e' w8 hO
  rcases hO with ⟨ns,p8,m8,rfl,hx8,r8,k8⟩ | ⟨y,c',a',m8,rfl,hc',k8⟩
  rotate_left
  · exact ⟨rfl,Out.bad (by rw [HE.out,nums2_eq,show numsP l e 2 (p+1+1)=_ from m8];rfl) hc' k8⟩
  have hl8:=nums_len m8
  obtain ⟨na,nb,rfl⟩:∃ na nb,ns=[na,nb]:=by
    match ns,hl8 with
    | [na,nb],_=>exact ⟨na,nb,rfl⟩
  have Bna:Hid (0≤na∧na≤1000000):=hx8 na (by simp)
  have Bnb:Hid (0≤nb∧nb≤1000000):=hx8 nb (by simp)
  have E8:Hid (numsP l e 2 (p+1+1)=.ok ([na,nb],p8)):=m8
  have G8:Hid (FB _ _ _ _ _ _ _ _ _ #[.int .i64 2,.int .i64 na,.int .i64 nb,.int .i64 0,.int .i64 (j:Int),.int .i64 0,.slice none 0 0,.slice none 0 0] _):=r8
  clear m8 r8 k8 hx8 hl8 T7
  obtain ⟨y0,y1,y2,y3,y4,y5,y6,y7⟩:=cells8 G8.out.box
  obtain ⟨u0,u1,u2,u3,u4,u5,u6,u7⟩:=cells8 G8.out.res
  obtain ⟨v0,v1,v2,v3,v4,v5,v6,v7⟩:=frees8 G8.out.res
  have hne:¬ B=w.heap.size:=by omega
  go_wp2
  have DD:Hid (FinD _ _ _ _ _ _ _ #[.int .i64 2,.int .i64 na,.int .i64 nb,.int .i64 0,.int .i64 (j:Int),.int .i64 0,.slice none 0 0,.slice none 0 0] ((((((((w8.setCell ⟨w.heap.size,0,none⟩ (.int .i64 2)).setCell ⟨w.heap.size,1,none⟩ (.int .i64 na)).setCell ⟨w.heap.size,2,none⟩ (.int .i64 nb)).setCell ⟨w.heap.size,3,none⟩ (.int .i64 0)).setCell ⟨w.heap.size,4,none⟩ (.int .i64 (j:Int))).setCell ⟨w.heap.size,5,none⟩ (.int .i64 0)).setCell ⟨w.heap.size,6,none⟩ (.slice none 0 0)).setCell ⟨w.heap.size,7,none⟩ (.slice none 0 0))):=FB.fin G8.out [.int .i64 2,.int .i64 na,.int .i64 nb,.int .i64 0,.int .i64 (j:Int),.int .i64 0,.slice none 0 0,.slice none 0 0] rfl
  clear y0 u0 v0 y1 u1 v1 y2 u2 v2 y3 u3 v3 y4 u4 v4 y5 u5 v5 y6 u6 v6 y7 u7 v7
  generalize ((((((((w8.setCell ⟨w.heap.size,0,none⟩ (.int .i64 2)).setCell ⟨w.heap.size,1,none⟩ (.int .i64 na)).setCell ⟨w.heap.size,2,none⟩ (.int .i64 nb)).setCell ⟨w.heap.size,3,none⟩ (.int .i64 0)).setCell ⟨w.heap.size,4,none⟩ (.int .i64 (j:Int))).setCell ⟨w.heap.size,5,none⟩ (.int .i64 0)).setCell ⟨w.heap.size,6,none⟩ (.slice none 0 0)).setCell ⟨w.heap.size,7,none⟩ (.slice none 0 0))=w9 at DD ⊢
  obtain ⟨D1,D2,D3⟩:=DD.out
  obtain ⟨x0,x1,x2,x3,x4,x5,x6,x7⟩:=cells8 D1
  exact bodyPost_ret (v:=.agg #[.int .i64 2,.int .i64 na,.int .i64 nb,.int .i64 0,.int .i64 (j:Int),.int .i64 0,.slice none 0 0,.slice none 0 0]) (by simp [results,Tryz.results114,go_sem,x0,x1,x2,x3,x4,x5,x6,x7]) rfl (Out.good (by rw [HE.out,nums2_eq,E8.out,PR.ok_andThen];rfl) (⟨none,0,none,0,rfl,ins_mk (x:=(⟨2,na,nb,0,(j:Nat),0,[],[]⟩:MIns)) (Lay.list_nil _ _ _ _ _) (Lay.list_nil _ _ _ _ _) ⟨lit_i64 2 (by decide),i64_of Bna.out,i64_of Bnb.out,lit_i64 0 (by decide),i64_of Bj.out,lit_i64 0 (by decide)⟩⟩) D2 D3)
theorem pins_k3 {w : World} {b e p : Nat} {l : List Tk} (h : PAt w b l e p) (hk : whichP l opWords p = 3) :
    Calls Tryz.prog 114 #[ptrP b] w fun en w'=>Out b e l (insFields l e 3 (p+1)) w (VIns w) en w':=by
  have hbw:=h.lt
  have HL:Hid (p < l.length):=which_lt (by rw [hk];decide)
  have HE:Hid (insFields l e 3 (p+1)=((.ok ((⟨3,0,0,0,0,0,[],[]⟩:MIns),(p+1)):PR MIns))):=rfl
  have S1:Hid (PAt (w.alloc (.cells #[.int .i64 0,.int .i64 0,.int .i64 0,.int .i64 0,.int .i64 0,.int .i64 0,.slice none 0 0,.slice none 0 0] 41)) _ _ _ _∧_∧_):=begins h
  have C:Hid (∀ w1:World,PAt w1 b l e p→Calls Tryz.prog 135 #[ptrP b,.func (.func 9) #[] #[]] w1 fun en w'=>en=.returned (.int .i64 3)∧Below w1.heap.size w1 w'):=fun w1 h1=>which_told enters_Op pOp_any opWords_wordly (by decide) hk (by decide) h1
  clear h hk
  go_enter Tryz.func114,Tryz.ntmps114
  go_wp2_with fail
  generalize w.alloc (.cells #[.int .i64 0,.int .i64 0,.int .i64 0,.int .i64 0,.int .i64 0,.int .i64 0,.slice none 0 0,.slice none 0 0] 41)=w1 at S1 ⊢
  refine (C.out w1 S1.out.1).mono ?_
  rintro e' w2 ⟨rfl,b2⟩
  have F0:Hid (FB w (w2.alloc (.cells #[.int .i64 3,.int .i64 0,.int .i64 0,.int .i64 0,.int .i64 0,.int .i64 0,.slice none 0 0,.slice none 0 0] 41)) b e l p w.heap.size w2.heap.size _ #[.int .i64 3,.int .i64 0,.int .i64 0,.int .i64 0,.int .i64 0,.int .i64 0,.slice none 0 0,.slice none 0 0] 41):=FB.beside _ (S1.out.1.below b2) (S1.out.2.1.below b2) (S1.out.2.2.trans (Chg.below b2)) hbw (Nat.le_refl _)
  clear b2 S1 C
  go_wp2_with fail
  generalize w2.alloc (.cells #[.int .i64 3,.int .i64 0,.int .i64 0,.int .i64 0,.int .i64 0,.int .i64 0,.slice none 0 0,.slice none 0 0] 41)=w3 at F0 ⊢
  generalize w2.heap.size=B at F0 ⊢
  have hRB:w.heap.size < B:=F0.out.RB
  refine (take_any F0.out.rd HL.out).mono ?_
  rintro e' w4 ⟨rfl,r4,k4⟩
  have F4:Hid (FB _ _ _ _ _ _ _ _ _ _ _):=F0.out.call r4 k4
  have y0:=cellOf F4.out.box 0 _ rfl
  clear r4 k4 F0
  obtain ⟨y0,y1,y2,y3,y4,y5,y6,y7⟩:=cells8 F4.out.box
  obtain ⟨u0,u1,u2,u3,u4,u5,u6,u7⟩:=cells8 F4.out.res
  obtain ⟨v0,v1,v2,v3,v4,v5,v6,v7⟩:=frees8 F4.out.res
  have hne:¬ B=w.heap.size:=by omega
  go_wp2
  have DD:Hid (FinD _ _ _ _ _ _ _ #[.int .i64 3,.int .i64 0,.int .i64 0,.int .i64 0,.int .i64 0,.int .i64 0,.slice none 0 0,.slice none 0 0] ((((((((w4.setCell ⟨w.heap.size,0,none⟩ (.int .i64 3)).setCell ⟨w.heap.size,1,none⟩ (.int .i64 0)).setCell ⟨w.heap.size,2,none⟩ (.int .i64 0)).setCell ⟨w.heap.size,3,none⟩ (.int .i64 0)).setCell ⟨w.heap.size,4,none⟩ (.int .i64 0)).setCell ⟨w.heap.size,5,none⟩ (.int .i64 0)).setCell ⟨w.heap.size,6,none⟩ (.slice none 0 0)).setCell ⟨w.heap.size,7,none⟩ (.slice none 0 0))):=FB.fin F4.out [.int .i64 3,.int .i64 0,.int .i64 0,.int .i64 0,.int .i64 0,.int .i64 0,.slice none 0 0,.slice none 0 0] rfl
  clear u0 v0 y1 u1 v1 y2 u2 v2 y3 u3 v3 y4 u4 v4 y5 u5 v5 y6 u6 v6 y7 u7 v7
  generalize ((((((((w4.setCell ⟨w.heap.size,0,none⟩ (.int .i64 3)).setCell ⟨w.heap.size,1,none⟩ (.int .i64 0)).setCell ⟨w.heap.size,2,none⟩ (.int .i64 0)).setCell ⟨w.heap.size,3,none⟩ (.int .i64 0)).setCell ⟨w.heap.size,4,none⟩ (.int .i64 0)).setCell ⟨w.heap.size,5,none⟩ (.int .i64 0)).setCell ⟨w.heap.size,6,none⟩ (.slice none 0 0)).setCell ⟨w.heap.size,7,none⟩ (.slice none 0 0))=w9 at DD ⊢
  obtain ⟨D1,D2,D3⟩:=DD.out
  obtain ⟨x0,x1,x2,x3,x4,x5,x6,x7⟩:=cells8 D1
  exact bodyPost_ret (v:=.agg #[.int .i64 3,.int .i64 0,.int .i64 0,.int .i64 0,.int .i64 0,.int .i64 0,.slice none 0 0,.slice none 0 0]) (by simp [results,Tryz.results114,go_sem,x0,x1,x2,x3,x4,x5,x6,x7]) rfl (Out.good (HE.out) (⟨none,0,none,0,rfl,ins_mk (x:=(⟨3,0,0,0,0,0,[],[]⟩:MIns)) (Lay.list_nil _ _ _ _ _) (Lay.list_nil _ _ _ _ _) ⟨lit_i64 3 (by decide),lit_i64 0 (by decide),lit_i64 0 (by decide),lit_i64 0 (by decide),lit_i64 0 (by decide),lit_i64 0 (by decide)⟩⟩) D2 D3)
theorem pins_k4 {w : World} {b e p : Nat} {l : List Tk} (h : PAt w b l e p) (hk : whichP l opWords p = 4) :
    Calls Tryz.prog 114 #[ptrP b] w fun en w'=>Out b e l (insFields l e 4 (p+1)) w (VIns w) en w':=by
  have hbw:=h.lt
  have HL:Hid (p < l.length):=which_lt (by rw [hk];decide)
  have HE:Hid (insFields l e 4 (p+1)=(PR.andThen (numP l e (p+1)) fun na q1=>(.ok ((⟨4,na,0,0,0,0,[],[]⟩:MIns),q1):PR MIns))):=rfl
  have S1:Hid (PAt (w.alloc (.cells #[.int .i64 0,.int .i64 0,.int .i64 0,.int .i64 0,.int .i64 0,.int .i64 0,.slice none 0 0,.slice none 0 0] 41)) _ _ _ _∧_∧_):=begins h
  have C:Hid (∀ w1:World,PAt w1 b l e p→Calls Tryz.prog 135 #[ptrP b,.func (.func 9) #[] #[]] w1 fun en w'=>en=.returned (.int .i64 4)∧Below w1.heap.size w1 w'):=fun w1 h1=>which_told enters_Op pOp_any opWords_wordly (by decide) hk (by decide) h1
  clear h hk
  go_enter Tryz.func114,Tryz.ntmps114
  go_wp2_with fail
  generalize w.alloc (.cells #[.int .i64 0,.int .i64 0,.int .i64 0,.int .i64 0,.int .i64 0,.int .i64 0,.slice none 0 0,.slice none 0 0] 41)=w1 at S1 ⊢
  refine (C.out w1 S1.out.1).mono ?_
  rintro e' w2 ⟨rfl,b2⟩
  have F0:Hid (FB w (w2.alloc (.cells #[.int .i64 4,.int .i64 0,.int .i64 0,.int .i64 0,.int .i64 0,.int .i64 0,.slice none 0 0,.slice none 0 0] 41)) b e l p w.heap.size w2.heap.size _ #[.int .i64 4,.int .i64 0,.int .i64 0,.int .i64 0,.int .i64 0,.int .i64 0,.slice none 0 0,.slice none 0 0] 41):=FB.beside _ (S1.out.1.below b2) (S1.out.2.1.below b2) (S1.out.2.2.trans (Chg.below b2)) hbw (Nat.le_refl _)
  clear b2 S1 C
  go_wp2_with fail
  generalize w2.alloc (.cells #[.int .i64 4,.int .i64 0,.int .i64 0,.int .i64 0,.int .i64 0,.int .i64 0,.slice none 0 0,.slice none 0 0] 41)=w3 at F0 ⊢
  generalize w2.heap.size=B at F0 ⊢
  have hRB:w.heap.size < B:=F0.out.RB
  refine (take_any F0.out.rd HL.out).mono ?_
  rintro e' w4 ⟨rfl,r4,k4⟩
  have F4:Hid (FB _ _ _ _ _ _ _ _ _ _ _):=F0.out.call r4 k4
  have y0:=cellOf F4.out.box 0 _ rfl
  clear r4 k4 F0
  go_wp2_with fail
  refine (FB.callNums F4.out [1] (by simp) rfl (by decide) (by simp)).mono ?_
  intro e' w5 hO
  rcases hO with ⟨ns,p5,m5,rfl,hx5,r5,k5⟩ | ⟨y,c',a',m5,rfl,hc',k5⟩
  rotate_left
  · exact ⟨rfl,Out.bad (by rw [HE.out,nums1_eq,show numsP l e 1 (p+1)=_ from m5];rfl) hc' k5⟩
  have hl5:=nums_len m5
  obtain ⟨na,rfl⟩:∃ na,ns=[na]:=by
    match ns,hl5 with
    | [na],_=>exact ⟨na,rfl⟩
  have Bna:Hid (0≤na∧na≤1000000):=hx5 na (by simp)
  have E5:Hid (numsP l e 1 (p+1)=.ok ([na],p5)):=m5
  have G5:Hid (FB _ _ _ _ _ _ _ _ _ #[.int .i64 4,.int .i64 na,.int .i64 0,.int .i64 0,.int .i64 0,.int .i64 0,.slice none 0 0,.slice none 0 0] _):=r5
  clear m5 r5 k5 hx5 hl5 F4
  obtain ⟨y0,y1,y2,y3,y4,y5,y6,y7⟩:=cells8 G5.out.box
  obtain ⟨u0,u1,u2,u3,u4,u5,u6,u7⟩:=cells8 G5.out.res
  obtain ⟨v0,v1,v2,v3,v4,v5,v6,v7⟩:=frees8 G5.out.res
  have hne:¬ B=w.heap.size:=by omega
  go_wp2
  have DD:Hid (FinD _ _ _ _ _ _ _ #[.int .i64 4,.int .i64 na,.int .i64 0,.int .i64 0,.int .i64 0,.int .i64 0,.slice none 0 0,.slice none 0 0] ((((((((w5.setCell ⟨w.heap.size,0,none⟩ (.int .i64 4)).setCell ⟨w.heap.size,1,none⟩ (.int .i64 na)).setCell ⟨w.heap.size,2,none⟩ (.int .i64 0)).setCell ⟨w.heap.size,3,none⟩ (.int .i64 0)).setCell ⟨w.heap.size,4,none⟩ (.int .i64 0)).setCell ⟨w.heap.size,5,none⟩ (.int .i64 0)).setCell ⟨w.heap.size,6,none⟩ (.slice none 0 0)).setCell ⟨w.heap.size,7,none⟩ (.slice none 0 0))):=FB.fin G5.out [.int .i64 4,.int .i64 na,.int .i64 0,.int .i64 0,.int .i64 0,.int .i64 0,.slice none 0 0,.slice none 0 0] rfl
  clear y0 u0 v0 y1 u1 v1 y2 u2 v2 y3 u3 v3 y4 u4 v4 y5 u5 v5 y6 u6 v6 y7 u7 v7
  generalize ((((((((w5.setCell ⟨w.heap.size,0,none⟩ (.int .i64 4)).setCell ⟨w.heap.size,1,none⟩ (.int .i64 na)).setCell ⟨w.heap.size,2,none⟩ (.int .i64 0)).setCell ⟨w.heap.size,3,none⟩ (.int .i64 0)).setCell ⟨w.heap.size,4,none⟩ (.int .i64 0)).setCell ⟨w.heap.size,5,none⟩ (.int .i64 0)).setCell ⟨w.heap.size,6,none⟩ (.slice none 0 0)).setCell ⟨w.heap.size,7,none⟩ (.slice none 0 0))=w9 at DD ⊢
  obtain ⟨D1,D2,D3⟩:=DD.out
  obtain ⟨x0,x1,x2,x3,x4,x5,x6,x7⟩:=cells8 D1
  exact bodyPost_ret (v:=.agg #[.int .i64 4,.int .i64 na,.int .i64 0,.int .i64 0,.int .i64 0,.int .i64 0,.slice none 0 0,.slice none 0 0]) (by simp [results,Tryz.results114,go_sem,x0,x1,x2,x3,x4,x5,x6,x7]) rfl (Out.good (by rw [HE.out,nums1_eq,E5.out,PR.ok_andThen];rfl) (⟨none,0,none,0,rfl,ins_mk (x:=(⟨4,na,0,0,0,0,[],[]⟩:MIns)) (Lay.list_nil _ _ _ _ _) (Lay.list_nil _ _ _ _ _) ⟨lit_i64 4 (by decide),i64_of Bna.out,lit_i64 0 (by decide),lit_i64 0 (by decide),lit_i64 0 (by decide),lit_i64 0 (by decide)⟩⟩) D2 D3)
theorem pins_k5 {w : World} {b e p : Nat} {l : List Tk} (h : PAt w b l e p) (hk : whichP l opWords p = 5) :
    Calls Tryz.prog 114 #[ptrP b] w fun en w'=>Out b e l (insFields l e 5 (p+1)) w (VIns w) en w':=by
  have hbw:=h.lt
  have HL:Hid (p < l.length):=which_lt (by rw [hk];decide)
  have HE:Hid (insFields l e 5 (p+1)=(PR.andThen (numP l e (p+1)) fun na q1=>PR.andThen (argsP l e q1) fun ys q2=>(.ok ((⟨5,na,0,0,0,0,[],ys⟩:MIns),q2):PR MIns))):=rfl
  have S1:Hid (PAt (w.alloc (.cells #[.int .i64 0,.int .i64 0,.int .i64 0,.int .i64 0,.int .i64 0,.int .i64 0,.slice none 0 0,.slice none 0 0] 41)) _ _ _ _∧_∧_):=begins h
  have C:Hid (∀ w1:World,PAt w1 b l e p→Calls Tryz.prog 135 #[ptrP b,.func (.func 9) #[] #[]] w1 fun en w'=>en=.returned (.int .i64 5)∧Below w1.heap.size w1 w'):=fun w1 h1=>which_told enters_Op pOp_any opWords_wordly (by decide) hk (by decide) h1
  clear h hk
  go_enter Tryz.func114,Tryz.ntmps114
  go_wp2_with fail
  generalize w.alloc (.cells #[.int .i64 0,.int .i64 0,.int .i64 0,.int .i64 0,.int .i64 0,.int .i64 0,.slice none 0 0,.slice none 0 0] 41)=w1 at S1 ⊢
  refine (C.out w1 S1.out.1).mono ?_
  rintro e' w2 ⟨rfl,b2⟩
  have F0:Hid (FB w (w2.alloc (.cells #[.int .i64 5,.int .i64 0,.int .i64 0,.int .i64 0,.int .i64 0,.int .i64 0,.slice none 0 0,.slice none 0 0] 41)) b e l p w.heap.size w2.heap.size _ #[.int .i64 5,.int .i64 0,.int .i64 0,.int .i64 0,.int .i64 0,.int .i64 0,.slice none 0 0,.slice none 0 0] 41):=FB.beside _ (S1.out.1.below b2) (S1.out.2.1.below b2) (S1.out.2.2.trans (Chg.below b2)) hbw (Nat.le_refl _)
  clear b2 S1 C
  go_wp2_with fail
  generalize w2.alloc (.cells #[.int .i64 5,.int .i64 0,.int .i64 0,.int .i64 0,.int .i64 0,.int .i64 0,.slice none 0 0,.slice none 0 0] 41)=w3 at F0 ⊢
  generalize w2.heap.size=B at F0 ⊢
  have hRB:w.heap.size < B:=F0.out.RB
  refine (take_any F0.out.rd HL.out).mono ?_
  rintro e' w4 ⟨rfl,r4,k4⟩
  have F4:Hid (FB _ _ _ _ _ _ _ _ _ _ _):=F0.out.call r4 k4
  have y0:=cellOf F4.out.box 0 _ rfl
  clear r4 k4 F0
  go_wp2_with fail
  refine (FB.callNums F4.out [1] (by simp) rfl (by decide) (by simp)).mono ?_
  intro e' w5 hO
  rcases hO with ⟨ns,p5,m5,rfl,hx5,r5,k5⟩ | ⟨y,c',a',m5,rfl,hc',k5⟩
  rotate_left
  · exact ⟨rfl,Out.bad (by rw [HE.out,nums1_eq,show numsP l e 1 (p+1)=_ from m5];rfl) hc' k5⟩
  have hl5:=nums_len m5
  obtain ⟨na,rfl⟩:∃ na,ns=[na]:=by
    match ns,hl5 with
    | [na],_=>exact ⟨na,rfl⟩
  have Bna:Hid (0≤na∧na≤1000000):=hx5 na (by simp)
  have E5:Hid (numsP l e 1 (p+1)=.ok ([na],p5)):=m5
  have G5:Hid (FB _ _ _ _ _ _ _ _ _ #[.int .i64 5,.int .i64 na,.int .i64 0,.int .i64 0,.int .i64 0,.int .i64 0,.slice none 0 0,.slice none 0 0] _):=r5
  clear m5 r5 k5 hx5 hl5 F4
  go_wp2_with fail
  refine (pargs_any G5.out.rd).mono ?_
  intro e' w6 hO
  rcases hO with ⟨ys,p6,x6,m6,rfl,⟨ay,cy,rfl,hi6⟩,r6,k6⟩ | ⟨y,c',a',m6,rfl,hc',k6⟩
  rotate_left
  · exact ⟨rfl,Out.bad (by rw [HE.out,nums1_eq,E5.out,PR.ok_andThen,m6];rfl) hc' (G5.out.chg.trans k6)⟩
  have E6:Hid (argsP l e p5=.ok (ys,p6)):=m6
  have G6:Hid (FB _ _ _ _ _ _ _ _ _ _ _):=G5.out.call r6 k6
  have Kys:Hid (Kid intsL B w6 ys [.slice ay ys.length cy]):=Kid.mk hi6 G5.out.lt
  clear hi6
  clear m6 r6 k6 G5
  obtain ⟨y0,y1,y2,y3,y4,y5,y6,y7⟩:=cells8 G6.out.box
  obtain ⟨u0,u1,u2,u3,u4,u5,u6,u7⟩:=cells8 G6.out.res
  obtain ⟨v0,v1,v2,v3,v4,v5,v6,v7⟩:=frees8 G6.out.res
  have z7:=freeOf G6.out.box 7
  have hne:¬ B=w.heap.size:=by omega
  go_wp2
  have DD:Hid (FinD _ _ _ _ _ _ _ #[.int .i64 5,.int .i64 na,.int .i64 0,.int .i64 0,.int .i64 0,.int .i64 0,.slice none 0 0,.slice ay ys.length cy] (((((((((w6.setCell ⟨B,7,none⟩ (.slice ay ys.length cy)).setCell ⟨w.heap.size,0,none⟩ (.int .i64 5)).setCell ⟨w.heap.size,1,none⟩ (.int .i64 na)).setCell ⟨w.heap.size,2,none⟩ (.int .i64 0)).setCell ⟨w.heap.size,3,none⟩ (.int .i64 0)).setCell ⟨w.heap.size,4,none⟩ (.int .i64 0)).setCell ⟨w.heap.size,5,none⟩ (.int .i64 0)).setCell ⟨w.heap.size,6,none⟩ (.slice none 0 0)).setCell ⟨w.heap.size,7,none⟩ (.slice ay ys.length cy))):=FB.fin (FB.set G6.out 7 (.slice ay ys.length cy)) [.int .i64 5,.int .i64 na,.int .i64 0,.int .i64 0,.int .i64 0,.int .i64 0,.slice none 0 0,.slice ay ys.length cy] rfl
  have DKys:Hid (Kid _ _ (((((((((w6.setCell ⟨B,7,none⟩ (.slice ay ys.length cy)).setCell ⟨w.heap.size,0,none⟩ (.int .i64 5)).setCell ⟨w.heap.size,1,none⟩ (.int .i64 na)).setCell ⟨w.heap.size,2,none⟩ (.int .i64 0)).setCell ⟨w.heap.size,3,none⟩ (.int .i64 0)).setCell ⟨w.heap.size,4,none⟩ (.int .i64 0)).setCell ⟨w.heap.size,5,none⟩ (.int .i64 0)).setCell ⟨w.heap.size,6,none⟩ (.slice none 0 0)).setCell ⟨w.heap.size,7,none⟩ (.slice ay ys.length cy)) _ _):=Kid.sets (Kid.set Kys.out (q:=⟨B,7,none⟩) (Nat.le_refl _) _) (by omega) [.int .i64 5,.int .i64 na,.int .i64 0,.int .i64 0,.int .i64 0,.int .i64 0,.slice none 0 0,.slice ay ys.length cy] 0
  clear Kys
  clear y0 u0 v0 y1 u1 v1 y2 u2 v2 y3 u3 v3 y4 u4 v4 y5 u5 v5 y6 u6 v6 y7 u7 v7
  generalize (((((((((w6.setCell ⟨B,7,none⟩ (.slice ay ys.length cy)).setCell ⟨w.heap.size,0,none⟩ (.int .i64 5)).setCell ⟨w.heap.size,1,none⟩ (.int .i64 na)).setCell ⟨w.heap.size,2,none⟩ (.int .i64 0)).setCell ⟨w.heap.size,3,none⟩ (.int .i64 0)).setCell ⟨w.heap.size,4,none⟩ (.int .i64 0)).setCell ⟨w.heap.size,5,none⟩ (.int .i64 0)).setCell ⟨w.heap.size,6,none⟩ (.slice none 0 0)).setCell ⟨w.heap.size,7,none⟩ (.slice ay ys.length cy))=w9 at DD DKys ⊢
  obtain ⟨D1,D2,D3⟩:=DD.out
  obtain ⟨x0,x1,x2,x3,x4,x5,x6,x7⟩:=cells8 D1
  exact bodyPost_ret (v:=.agg #[.int .i64 5,.int .i64 na,.int .i64 0,.int .i64 0,.int .i64 0,.int .i64 0,.slice none 0 0,.slice ay ys.length cy]) (by simp [results,Tryz.results114,go_sem,x0,x1,x2,x3,x4,x5,x6,x7]) rfl (Out.good (by rw [HE.out,nums1_eq,E5.out,PR.ok_andThen,E6.out,PR.ok_andThen];rfl) (⟨none,0,ay,cy,rfl,ins_mk (x:=(⟨5,na,0,0,0,0,[],ys⟩:MIns)) (Lay.list_nil _ _ _ _ _) (Kid.out DKys.out (by omega)) ⟨lit_i64 5 (by decide),i64_of Bna.out,lit_i64 0 (by decide),lit_i64 0 (by decide),lit_i64 0 (by decide),lit_i64 0 (by decide)⟩⟩) D2 D3)
theorem pins_k6 {w : World} {b e p : Nat} {l : List Tk} (h : PAt w b l e p) (hk : whichP l opWords p = 6) :
    Calls Tryz.prog 114 #[ptrP b] w fun en w'=>Out b e l (insFields l e 6 (p+1)) w (VIns w) en w':=by
  have hbw:=h.lt
  have HL:Hid (p < l.length):=which_lt (by rw [hk];decide)
  have HE:Hid (insFields l e 6 (p+1)=(PR.andThen (numP l e (p+1)) fun na q1=>PR.andThen (numP l e q1) fun nk q2=>(.ok ((⟨6,na,0,0,nk,0,[],[]⟩:MIns),q2):PR MIns))):=rfl
  have S1:Hid (PAt (w.alloc (.cells #[.int .i64 0,.int .i64 0,.int .i64 0,.int .i64 0,.int .i64 0,.int .i64 0,.slice none 0 0,.slice none 0 0] 41)) _ _ _ _∧_∧_):=begins h
  have C:Hid (∀ w1:World,PAt w1 b l e p→Calls Tryz.prog 135 #[ptrP b,.func (.func 9) #[] #[]] w1 fun en w'=>en=.returned (.int .i64 6)∧Below w1.heap.size w1 w'):=fun w1 h1=>which_told enters_Op pOp_any opWords_wordly (by decide) hk (by decide) h1
  clear h hk
  go_enter Tryz.func114,Tryz.ntmps114
  go_wp2_with fail
  generalize w.alloc (.cells #[.int .i64 0,.int .i64 0,.int .i64 0,.int .i64 0,.int .i64 0,.int .i64 0,.slice none 0 0,.slice none 0 0] 41)=w1 at S1 ⊢
  refine (C.out w1 S1.out.1).mono ?_
  rintro e' w2 ⟨rfl,b2⟩
  have F0:Hid (FB w (w2.alloc (.cells #[.int .i64 6,.int .i64 0,.int .i64 0,.int .i64 0,.int .i64 0,.int .i64 0,.slice none 0 0,.slice none 0 0] 41)) b e l p w.heap.size w2.heap.size _ #[.int .i64 6,.int .i64 0,.int .i64 0,.int .i64 0,.int .i64 0,.int .i64 0,.slice none 0 0,.slice none 0 0] 41):=FB.beside _ (S1.out.1.below b2) (S1.out.2.1.below b2) (S1.out.2.2.trans (Chg.below b2)) hbw (Nat.le_refl _)
  clear b2 S1 C
  go_wp2_with fail
  generalize w2.alloc (.cells #[.int .i64 6,.int .i64 0,.int .i64 0,.int .i64 0,.int .i64 0,.int .i64 0,.slice none 0 0,.slice none 0 0] 41)=w3 at F0 ⊢
  generalize w2.heap.size=B at F0 ⊢
  have hRB:w.heap.size < B:=F0.out.RB
  refine (take_any F0.out.rd HL.out).mono ?_
  rintro e' w4 ⟨rfl,r4,k4⟩
  have F4:Hid (FB _ _ _ _ _ _ _ _ _ _ _):=F0.out.call r4 k4
  have y0:=cellOf F4.out.box 0 _ rfl
  clear r4 k4 F0
  go_wp2_with fail
  refine (FB.callNums F4.out [1,4] (by simp) rfl (by decide) (by simp)).mono ?_
  intro e' w5 hO
  rcases hO with ⟨ns,p5,m5,rfl,hx5,r5,k5⟩ | ⟨y,c',a',m5,rfl,hc',k5⟩
  rotate_left
  · exact ⟨rfl,Out.bad (by rw [HE.out,nums2_eq,show numsP l e 2 (p+1)=_ from m5];rfl) hc' k5⟩
  have hl5:=nums_len m5
  obtain ⟨na,nk,rfl⟩:∃ na nk,ns=[na,nk]:=by
    match ns,hl5 with
    | [na,nk],_=>exact ⟨na,nk,rfl⟩
  have Bna:Hid (0≤na∧na≤1000000):=hx5 na (by simp)
  have Bnk:Hid (0≤nk∧nk≤1000000):=hx5 nk (by simp)
  have E5:Hid (numsP l e 2 (p+1)=.ok ([na,nk],p5)):=m5
  have G5:Hid (FB _ _ _ _ _ _ _ _ _ #[.int .i64 6,.int .i64 na,.int .i64 0,.int .i64 0,.int .i64 nk,.int .i64 0,.slice none 0 0,.slice none 0 0] _):=r5
  clear m5 r5 k5 hx5 hl5 F4
  obtain ⟨y0,y1,y2,y3,y4,y5,y6,y7⟩:=cells8 G5.out.box
  obtain ⟨u0,u1,u2,u3,u4,u5,u6,u7⟩:=cells8 G5.out.res
  obtain ⟨v0,v1,v2,v3,v4,v5,v6,v7⟩:=frees8 G5.out.res
  have hne:¬ B=w.heap.size:=by omega
  go_wp2
  have DD:Hid (FinD _ _ _ _ _ _ _ #[.int .i64 6,.int .i64 na,.int .i64 0,.int .i64 0,.int .i64 nk,.int .i64 0,.slice none 0 0,.slice none 0 0] ((((((((w5.setCell ⟨w.heap.size,0,none⟩ (.int .i64 6)).setCell ⟨w.heap.size,1,none⟩ (.int .i64 na)).setCell ⟨w.heap.size,2,none⟩ (.int .i64 0)).setCell ⟨w.heap.size,3,none⟩ (.int .i64 0)).setCell ⟨w.heap.size,4,none⟩ (.int .i64 nk)).setCell ⟨w.heap.size,5,none⟩ (.int .i64 0)).setCell ⟨w.heap.size,6,none⟩ (.slice none 0 0)).setCell ⟨w.heap.size,7,none⟩ (.slice none 0 0))):=FB.fin G5.out [.int .i64 6,.int .i64 na,.int .i64 0,.int .i64 0,.int .i64 nk,.int .i64 0,.slice none 0 0,.slice none 0 0] rfl
  clear y0 u0 v0 y1 u1 v1 y2 u2 v2 y3 u3 v3 y4 u4 v4 y5 u5 v5 y6 u6 v6 y7 u7 v7
  generalize ((((((((w5.setCell ⟨w.heap.size,0,none⟩ (.int .i64 6)).setCell ⟨w.heap.size,1,none⟩ (.int .i64 na)).setCell ⟨w.heap.size,2,none⟩ (.int .i64 0)).setCell ⟨w.heap.size,3,none⟩ (.int .i64 0)).setCell ⟨w.heap.size,4,none⟩ (.int .i64 nk)).setCell ⟨w.heap.size,5,none⟩ (.int .i64 0)).setCell ⟨w.heap.size,6,none⟩ (.slice none 0 0)).setCell ⟨w.heap.size,7,none⟩ (.slice none 0 0))=w9 at DD ⊢
  obtain ⟨D1,D2,D3⟩:=DD.out
  obtain ⟨x0,x1,x2,x3,x4,x5,x6,x7⟩:=cells8 D1
  exact bodyPost_ret (v:=.agg #[.int .i64 6,.int .i64 na,.int .i64 0,.int .i64 0,.int .i64 nk,.int .i64 0,.slice none 0 0,.slice none 0 0]) (by simp [results,Tryz.results114,go_sem,x0,x1,x2,x3,x4,x5,x6,x7]) rfl (Out.good (by rw [HE.out,nums2_eq,E5.out,PR.ok_andThen];rfl) (⟨none,0,none,0,rfl,ins_mk (x:=(⟨6,na,0,0,nk,0,[],[]⟩:MIns)) (Lay.list_nil _ _ _ _ _) (Lay.list_nil _ _ _ _ _) ⟨lit_i64 6 (by decide),i64_of Bna.out,lit_i64 0 (by decide),lit_i64 0 (by decide),i64_of Bnk.out,lit_i64 0 (by decide)⟩⟩) D2 D3)
theorem pins_k7 {w : World} {b e p : Nat} {l : List Tk} (h : PAt w b l e p) (hk : whichP l opWords p = 7) :
    Calls Tryz.prog 114 #[ptrP b] w fun en w'=>Out b e l (insFields l e 7 (p+1)) w (VIns w) en w':=by
  have hbw:=h.lt
  have HL:Hid (p < l.length):=which_lt (by rw [hk];decide)
  have HE:Hid (insFields l e 7 (p+1)=(PR.andThen (numP l e (p+1)) fun na q1=>PR.andThen (numP l e q1) fun nk q2=>PR.andThen (numP l e q2) fun nb q3=>(.ok ((⟨7,na,nb,0,nk,0,[],[]⟩:MIns),q3):PR MIns))):=rfl
  have S1:Hid (PAt (w.alloc (.cells #[.int .i64 0,.int .i64 0,.int .i64 0,.int .i64 0,.int .i64 0,.int .i64 0,.slice none 0 0,.slice none 0 0] 41)) _ _ _ _∧_∧_):=begins h
  have C:Hid (∀ w1:World,PAt w1 b l e p→Calls Tryz.prog 135 #[ptrP b,.func (.func 9) #[] #[]] w1 fun en w'=>en=.returned (.int .i64 7)∧Below w1.heap.size w1 w'):=fun w1 h1=>which_told enters_Op pOp_any opWords_wordly (by decide) hk (by decide) h1
  clear h hk
  go_enter Tryz.func114,Tryz.ntmps114
  go_wp2_with fail
  generalize w.alloc (.cells #[.int .i64 0,.int .i64 0,.int .i64 0,.int .i64 0,.int .i64 0,.int .i64 0,.slice none 0 0,.slice none 0 0] 41)=w1 at S1 ⊢
  refine (C.out w1 S1.out.1).mono ?_
  rintro e' w2 ⟨rfl,b2⟩
  have F0:Hid (FB w (w2.alloc (.cells #[.int .i64 7,.int .i64 0,.int .i64 0,.int .i64 0,.int .i64 0,.int .i64 0,.slice none 0 0,.slice none 0 0] 41)) b e l p w.heap.size w2.heap.size _ #[.int .i64 7,.int .i64 0,.int .i64 0,.int .i64 0,.int .i64 0,.int .i64 0,.slice none 0 0,.slice none 0 0] 41):=FB.beside _ (S1.out.1.below b2) (S1.out.2.1.below b2) (S1.out.2.2.trans (Chg.below b2)) hbw (Nat.le_refl _)
  clear b2 S1 C
  go_wp2_with fail
  generalize w2.alloc (.cells #[.int .i64 7,.int .i64 0,.int .i64 0,.int .i64 0,.int .i64 0,.int .i64 0,.slice none 0 0,.slice none 0 0] 41)=w3 at F0 ⊢
  generalize w2.heap.size=B at F0 ⊢
  have hRB:w.heap.size < B:=F0.out.RB
  refine (take_any F0.out.rd HL.out).mono ?_
  rintro e' w4 ⟨rfl,r4,k4⟩
  have F4:Hid (FB _ _ _ _ _ _ _ _ _ _ _):=F0.out.call r4 k4
  have y0:=cellOf F4.out.box 0 _ rfl
  clear r4 k4 F0
  go_wp2_with fail
  refine (FB.callNums F4.out [1,4,2] (by simp) rfl (by decide) (by simp)).mono ?_
  intro e' w5 hO
  rcases hO with ⟨ns,p5,m5,rfl,hx5,r5,k5⟩ | ⟨y,c',a',m5,rfl,hc',k5⟩
  rotate_left
  · exact ⟨rfl,Out.bad (by rw [HE.out,nums3_eq,show numsP l e 3 (p+1)=_ from m5];rfl) hc' k5⟩
  have hl5:=nums_len m5
  obtain ⟨na,nk,nb,rfl⟩:∃ na nk nb,ns=[na,nk,nb]:=by
    match ns,hl5 with
    | [na,nk,nb],_=>exact ⟨na,nk,nb,rfl⟩
  have Bna:Hid (0≤na∧na≤1000000):=hx5 na (by simp)
  have Bnk:Hid (0≤nk∧nk≤1000000):=hx5 nk (by simp)
  have Bnb:Hid (0≤nb∧nb≤1000000):=hx5 nb (by simp)
  have E5:Hid (numsP l e 3 (p+1)=.ok ([na,nk,nb],p5)):=m5
  have G5:Hid (FB _ _ _ _ _ _ _ _ _ #[.int .i64 7,.int .i64 na,.int .i64 nb,.int .i64 0,.int .i64 nk,.int .i64 0,.slice none 0 0,.slice none 0 0] _):=r5
  clear m5 r5 k5 hx5 hl5 F4
  obtain ⟨y0,y1,y2,y3,y4,y5,y6,y7⟩:=cells8 G5.out.box
  obtain ⟨u0,u1,u2,u3,u4,u5,u6,u7⟩:=cells8 G5.out.res
  obtain ⟨v0,v1,v2,v3,v4,v5,v6,v7⟩:=frees8 G5.out.res
  have hne:¬ B=w.heap.size:=by omega
  go_wp2
  have DD:Hid (FinD _ _ _ _ _ _ _ #[.int .i64 7,.int .i64 na,.int .i64 nb,.int .i64 0,.int .i64 nk,.int .i64 0,.slice none 0 0,.slice none 0 0] ((((((((w5.setCell ⟨w.heap.size,0,none⟩ (.int .i64 7)).setCell ⟨w.heap.size,1,none⟩ (.int .i64 na)).setCell ⟨w.heap.size,2,none⟩ (.int .i64 nb)).setCell ⟨w.heap.size,3,none⟩ (.int .i64 0)).setCell ⟨w.heap.size,4,none⟩ (.int .i64 nk)).setCell ⟨w.heap.size,5,none⟩ (.int .i64 0)).setCell ⟨w.heap.size,6,none⟩ (.slice none 0 0)).setCell ⟨w.heap.size,7,none⟩ (.slice none 0 0))):=FB.fin G5.out [.int .i64 7,.int .i64 na,.int .i64 nb,.int .i64 0,.int .i64 nk,.int .i64 0,.slice none 0 0,.slice none 0 0] rfl
  clear y0 u0 v0 y1 u1 v1 y2 u2 v2 y3 u3 v3 y4 u4 v4 y5 u5 v5 y6 u6 v6 y7 u7 v7
  generalize ((((((((w5.setCell ⟨w.heap.size,0,none⟩ (.int .i64 7)).setCell ⟨w.heap.size,1,none⟩ (.int .i64 na)).setCell ⟨w.heap.size,2,none⟩ (.int .i64 nb)).setCell ⟨w.heap.size,3,none⟩ (.int .i64 0)).setCell ⟨w.heap.size,4,none⟩ (.int .i64 nk)).setCell ⟨w.heap.size,5,none⟩ (.int .i64 0)).setCell ⟨w.heap.size,6,none⟩ (.slice none 0 0)).setCell ⟨w.heap.size,7,none⟩ (.slice none 0 0))=w9 at DD ⊢
  obtain ⟨D1,D2,D3⟩:=DD.out
  obtain ⟨x0,x1,x2,x3,x4,x5,x6,x7⟩:=cells8 D1
  exact bodyPost_ret (v:=.agg #[.int .i64 7,.int .i64 na,.int .i64 nb,.int .i64 0,.int .i64 nk,.int .i64 0,.slice none 0 0,.slice none 0 0]) (by simp [results,Tryz.results114,go_sem,x0,x1,x2,x3,x4,x5,x6,x7]) rfl (Out.good (by rw [HE.out,nums3_eq,E5.out,PR.ok_andThen];rfl) (⟨none,0,none,0,rfl,ins_mk (x:=(⟨7,na,nb,0,nk,0,[],[]⟩:MIns)) (Lay.list_nil _ _ _ _ _) (Lay.list_nil _ _ _ _ _) ⟨lit_i64 7 (by decide),i64_of Bna.out,i64_of Bnb.out,lit_i64 0 (by decide),i64_of Bnk.out,lit_i64 0 (by decide)⟩⟩) D2 D3)
theorem pins_k8 {w : World} {b e p : Nat} {l : List Tk} (h : PAt w b l e p) (hk : whichP l opWords p = 8) :
    Calls Tryz.prog 114 #[ptrP b] w fun en w'=>Out b e l (insFields l e 8 (p+1)) w (VIns w) en w':=by
  have hbw:=h.lt
  have HL:Hid (p < l.length):=which_lt (by rw [hk];decide)
  have HE:Hid (insFields l e 8 (p+1)=(PR.andThen (numP l e (p+1)) fun na q1=>PR.andThen (numP l e q1) fun nb q2=>(.ok ((⟨8,na,nb,0,0,0,[],[]⟩:MIns),q2):PR MIns))):=rfl
  have S1:Hid (PAt (w.alloc (.cells #[.int .i64 0,.int .i64 0,.int .i64 0,.int .i64 0,.int .i64 0,.int .i64 0,.slice none 0 0,.slice none 0 0] 41)) _ _ _ _∧_∧_):=begins h
  have C:Hid (∀ w1:World,PAt w1 b l e p→Calls Tryz.prog 135 #[ptrP b,.func (.func 9) #[] #[]] w1 fun en w'=>en=.returned (.int .i64 8)∧Below w1.heap.size w1 w'):=fun w1 h1=>which_told enters_Op pOp_any opWords_wordly (by decide) hk (by decide) h1
  clear h hk
  go_enter Tryz.func114,Tryz.ntmps114
  go_wp2_with fail
  generalize w.alloc (.cells #[.int .i64 0,.int .i64 0,.int .i64 0,.int .i64 0,.int .i64 0,.int .i64 0,.slice none 0 0,.slice none 0 0] 41)=w1 at S1 ⊢
  refine (C.out w1 S1.out.1).mono ?_
  rintro e' w2 ⟨rfl,b2⟩
  have F0:Hid (FB w (w2.alloc (.cells #[.int .i64 8,.int .i64 0,.int .i64 0,.int .i64 0,.int .i64 0,.int .i64 0,.slice none 0 0,.slice none 0 0] 41)) b e l p w.heap.size w2.heap.size _ #[.int .i64 8,.int .i64 0,.int .i64 0,.int .i64 0,.int .i64 0,.int .i64 0,.slice none 0 0,.slice none 0 0] 41):=FB.beside _ (S1.out.1.below b2) (S1.out.2.1.below b2) (S1.out.2.2.trans (Chg.below b2)) hbw (Nat.le_refl _)
  clear b2 S1 C
  go_wp2_with fail
  generalize w2.alloc (.cells #[.int .i64 8,.int .i64 0,.int .i64 0,.int .i64 0,.int .i64 0,.int .i64 0,.slice none 0 0,.slice none 0 0] 41)=w3 at F0 ⊢
  generalize w2.heap.size=B at F0 ⊢
  have hRB:w.heap.size < B:=F0.out.RB
  refine (take_any F0.out.rd HL.out).mono ?_
  rintro e' w4 ⟨rfl,r4,k4⟩
  have F4:Hid (FB _ _ _ _ _ _ _ _ _ _ _):=F0.out.call r4 k4
  have y0:=cellOf F4.out.box 0 _ rfl
  clear r4 k4 F0
  go_wp2_with fail
  refine (FB.callNums F4.out [1,2] (by simp) rfl (by decide) (by simp)).mono ?_
  intro e' w5 hO
  rcases hO with ⟨ns,p5,m5,rfl,hx5,r5,k5⟩ | ⟨y,c',a',m5,rfl,hc',k5⟩
  rotate_left
  · exact ⟨rfl,Out.bad (by rw [HE.out,nums2_eq,show numsP l e 2 (p+1)=_ from m5];rfl) hc' k5⟩
  have hl5:=nums_len m5
  obtain ⟨na,nb,rfl⟩:∃ na nb,ns=[na,nb]:=by
    match ns,hl5 with
    | [na,nb],_=>exact ⟨na,nb,rfl⟩
  have Bna:Hid (0≤na∧na≤1000000):=hx5 na (by simp)
  have Bnb:Hid (0≤nb∧nb≤1000000):=hx5 nb (by simp)
  have E5:Hid (numsP l e 2 (p+1)=.ok ([na,nb],p5)):=m5
  have G5:Hid (FB _ _ _ _ _ _ _ _ _ #[.int .i64 8,.int .i64 na,.int .i64 nb,.int .i64 0,.int .i64 0,.int .i64 0,.slice none 0 0,.slice none 0 0] _):=r5
  clear m5 r5 k5 hx5 hl5 F4
  obtain ⟨y0,y1,y2,y3,y4,y5,y6,y7⟩:=cells8 G5.out.box
  obtain ⟨u0,u1,u2,u3,u4,u5,u6,u7⟩:=cells8 G5.out.res
  obtain ⟨v0,v1,v2,v3,v4,v5,v6,v7⟩:=frees8 G5.out.res
  have hne:¬ B=w.heap.size:=by omega
  go_wp2
  have DD:Hid (FinD _ _ _ _ _ _ _ #[.int .i64 8,.int .i64 na,.int .i64 nb,.int .i64 0,.int .i64 0,.int .i64 0,.slice none 0 0,.slice none 0 0] ((((((((w5.setCell ⟨w.heap.size,0,none⟩ (.int .i64 8)).setCell ⟨w.heap.size,1,none⟩ (.int .i64 na)).setCell ⟨w.heap.size,2,none⟩ (.int .i64 nb)).setCell ⟨w.heap.size,3,none⟩ (.int .i64 0)).setCell ⟨w.heap.size,4,none⟩ (.int .i64 0)).setCell ⟨w.heap.size,5,none⟩ (.int .i64 0)).setCell ⟨w.heap.size,6,none⟩ (.slice none 0 0)).setCell ⟨w.heap.size,7,none⟩ (.slice none 0 0))):=FB.fin G5.out [.int .i64 8,.int .i64 na,.int .i64 nb,.int .i64 0,.int .i64 0,.int .i64 0,.slice none 0 0,.slice none 0 0] rfl
  clear y0 u0 v0 y1 u1 v1 y2 u2 v2 y3 u3 v3 y4 u4 v4 y5 u5 v5 y6 u6 v6 y7 u7 v7
  generalize ((((((((w5.setCell ⟨w.heap.size,0,none⟩ (.int .i64 8)).setCell ⟨w.heap.size,1,none⟩ (.int .i64 na)).setCell ⟨w.heap.size,2,none⟩ (.int .i64 nb)).setCell ⟨w.heap.size,3,none⟩ (.int .i64 0)).setCell ⟨w.heap.size,4,none⟩ (.int .i64 0)).setCell ⟨w.heap.size,5,none⟩ (.int .i64 0)).setCell ⟨w.heap.size,6,none⟩ (.slice none 0 0)).setCell ⟨w.heap.size,7,none⟩ (.slice none 0 0))=w9 at DD ⊢
  obtain ⟨D1,D2,D3⟩:=DD.out
  obtain ⟨x0,x1,x2,x3,x4,x5,x6,x7⟩:=cells8 D1
  exact bodyPost_ret (v:=.agg #[.int .i64 8,.int .i64 na,.int .i64 nb,.int .i64 0,.int .i64 0,.int .i64 0,.slice none 0 0,.slice none 0 0]) (by simp [results,Tryz.results114,go_sem,x0,x1,x2,x3,x4,x5,x6,x7]) rfl (Out.good (by rw [HE.out,nums2_eq,E5.out,PR.ok_andThen];rfl) (⟨none,0,none,0,rfl,ins_mk (x:=(⟨8,na,nb,0,0,0,[],[]⟩:MIns)) (Lay.list_nil _ _ _ _ _) (Lay.list_nil _ _ _ _ _) ⟨lit_i64 8 (by decide),i64_of Bna.out,i64_of Bnb.out,lit_i64 0 (by decide),lit_i64 0 (by decide),lit_i64 0 (by decide)⟩⟩) D2 D3)
theorem pins_k9 {w : World} {b e p : Nat} {l : List Tk} (h : PAt w b l e p) (hk : whichP l opWords p = 9) :
    Calls Tryz.prog 114 #[ptrP b] w fun en w'=>Out b e l (insFields l e 9 (p+1)) w (VIns w) en w':=by
  have hbw:=h.lt
  have HL:Hid (p < l.length):=which_lt (by rw [hk];decide)
  have HE:Hid (insFields l e 9 (p+1)=(PR.andThen (numP l e (p+1)) fun na q1=>PR.andThen (numP l e q1) fun nb q2=>(.ok ((⟨9,na,nb,0,0,0,[],[]⟩:MIns),q2):PR MIns))):=rfl
  have S1:Hid (PAt (w.alloc (.cells #[.int .i64 0,.int .i64 0,.int .i64 0,.int .i64 0,.int .i64 0,.int .i64 0,.slice none 0 0,.slice none 0 0] 41)) _ _ _ _∧_∧_):=begins h
  have C:Hid (∀ w1:World,PAt w1 b l e p→Calls Tryz.prog 135 #[ptrP b,.func (.func 9) #[] #[]] w1 fun en w'=>en=.returned (.int .i64 9)∧Below w1.heap.size w1 w'):=fun w1 h1=>which_told enters_Op pOp_any opWords_wordly (by decide) hk (by decide) h1
  clear h hk
  go_enter Tryz.func114,Tryz.ntmps114
  go_wp2_with fail
  generalize w.alloc (.cells #[.int .i64 0,.int .i64 0,.int .i64 0,.int .i64 0,.int .i64 0,.int .i64 0,.slice none 0 0,.slice none 0 0] 41)=w1 at S1 ⊢
  refine (C.out w1 S1.out.1).mono ?_
  rintro e' w2 ⟨rfl,b2⟩
  have F0:Hid (FB w (w2.alloc (.cells #[.int .i64 9,.int .i64 0,.int .i64 0,.int .i64 0,.int .i64 0,.int .i64 0,.slice none 0 0,.slice none 0 0] 41)) b e l p w.heap.size w2.heap.size _ #[.int .i64 9,.int .i64 0,.int .i64 0,.int .i64 0,.int .i64 0,.int .i64 0,.slice none 0 0,.slice none 0 0] 41):=FB.beside _ (S1.out.1.below b2) (S1.out.2.1.below b2) (S1.out.2.2.trans (Chg.below b2)) hbw (Nat.le_refl _)
  clear b2 S1 C
  go_wp2_with fail
  generalize w2.alloc (.cells #[.int .i64 9,.int .i64 0,.int .i64 0,.int .i64 0,.int .i64 0,.int .i64 0,.slice none 0 0,.slice none 0 0] 41)=w3 at F0 ⊢
  generalize w2.heap.size=B at F0 ⊢
  have hRB:w.heap.size < B:=F0.out.RB
  refine (take_any F0.out.rd HL.out).mono ?_
  rintro e' w4 ⟨rfl,r4,k4⟩
  have F4:Hid (FB _ _ _ _ _ _ _ _ _ _ _):=F0.out.call r4 k4
  have y0:=cellOf F4.out.box 0 _ rfl
  clear r4 k4 F0
  go_wp2_with fail
  refine (FB.callNums F4.out [1,2] (by simp) rfl (by decide) (by simp)).mono ?_
  intro e' w5 hO
  rcases hO with ⟨ns,p5,m5,rfl,hx5,r5,k5⟩ | ⟨y,c',a',m5,rfl,hc',k5⟩
  rotate_left
  · exact ⟨rfl,Out.bad (by rw [HE.out,nums2_eq,show numsP l e 2 (p+1)=_ from m5];rfl) hc' k5⟩
  have hl5:=nums_len m5
  obtain ⟨na,nb,rfl⟩:∃ na nb,ns=[na,nb]:=by
    match ns,hl5 with
    | [na,nb],_=>exact ⟨na,nb,rfl⟩
  have Bna:Hid (0≤na∧na≤1000000):=hx5 na (by simp)
  have Bnb:Hid (0≤nb∧nb≤1000000):=hx5 nb (by simp)
  have E5:Hid (numsP l e 2 (p+1)=.ok ([na,nb],p5)):=m5
  have G5:Hid (FB _ _ _ _ _ _ _ _ _ #[.int .i64 9,.int .i64 na,.int .i64 nb,.int .i64 0,.int .i64 0,.int .i64 0,.slice none 0 0,.slice none 0 0] _):=r5
  clear m5 r5 k5 hx5 hl5 F4
  obtain ⟨y0,y1,y2,y3,y4,y5,y6,y7⟩:=cells8 G5.out.box
  obtain ⟨u0,u1,u2,u3,u4,u5,u6,u7⟩:=cells8 G5.out.res
  obtain ⟨v0,v1,v2,v3,v4,v5,v6,v7⟩:=frees8 G5.out.res
  have hne:¬ B=w.heap.size:=by omega
  go_wp2
  have DD:Hid (FinD _ _ _ _ _ _ _ #[.int .i64 9,.int .i64 na,.int .i64 nb,.int .i64 0,.int .i64 0,.int .i64 0,.slice none 0 0,.slice none 0 0] ((((((((w5.setCell ⟨w.heap.size,0,none⟩ (.int .i64 9)).setCell ⟨w.heap.size,1,none⟩ (.int .i64 na)).setCell ⟨w.heap.size,2,none⟩ (.int .i64 nb)).setCell ⟨w.heap.size,3,none⟩ (.int .i64 0)).setCell ⟨w.heap.size,4,none⟩ (.int .i64 0)).setCell ⟨w.heap.size,5,none⟩ (.int .i64 0)).setCell ⟨w.heap.size,6,none⟩ (.slice none 0 0)).setCell ⟨w.heap.size,7,none⟩ (.slice none 0 0))):=FB.fin G5.out [.int .i64 9,.int .i64 na,.int .i64 nb,.int .i64 0,.int .i64 0,.int .i64 0,.slice none 0 0,.slice none 0 0] rfl
  clear y0 u0 v0 y1 u1 v1 y2 u2 v2 y3 u3 v3 y4 u4 v4 y5 u5 v5 y6 u6 v6 y7 u7 v7
  generalize ((((((((w5.setCell ⟨w.heap.size,0,none⟩ (.int .i64 9)).setCell ⟨w.heap.size,1,none⟩ (.int .i64 na)).setCell ⟨w.heap.size,2,none⟩ (.int .i64 nb)).setCell ⟨w.heap.size,3,none⟩ (.int .i64 0)).setCell ⟨w.heap.size,4,none⟩ (.int .i64 0)).setCell ⟨w.heap.size,5,none⟩ (.int .i64 0)).setCell ⟨w.heap.size,6,none⟩ (.slice none 0 0)).setCell ⟨w.heap.size,7,none⟩ (.slice none 0 0))=w9 at DD ⊢
  obtain ⟨D1,D2,D3⟩:=DD.out
  obtain ⟨x0,x1,x2,x3,x4,x5,x6,x7⟩:=cells8 D1
  exact bodyPost_ret (v:=.agg #[.int .i64 9,.int .i64 na,.int .i64 nb,.int .i64 0,.int .i64 0,.int .i64 0,.slice none 0 0,.slice none 0 0]) (by simp [results,Tryz.results114,go_sem,x0,x1,x2,x3,x4,x5,x6,x7]) rfl (Out.good (by rw [HE.out,nums2_eq,E5.out,PR.ok_andThen];rfl) (⟨none,0,none,0,rfl,ins_mk (x:=(⟨9,na,nb,0,0,0,[],[]⟩:MIns)) (Lay.list_nil _ _ _ _ _) (Lay.list_nil _ _ _ _ _) ⟨lit_i64 9 (by decide),i64_of Bna.out,i64_of Bnb.out,lit_i64 0 (by decide),lit_i64 0 (by decide),lit_i64 0 (by decide)⟩⟩) D2 D3)
theorem pins_k10 {w : World} {b e p : Nat} {l : List Tk} (h : PAt w b l e p) (hk : whichP l opWords p = 10) :
    Calls Tryz.prog 114 #[ptrP b] w fun en w'=>Out b e l (insFields l e 10 (p+1)) w (VIns w) en w':=by
  have hbw:=h.lt
  have HL:Hid (p < l.length):=which_lt (by rw [hk];decide)
  have HE:Hid (insFields l e 10 (p+1)=(PR.andThen (numP l e (p+1)) fun na q1=>PR.andThen (numP l e q1) fun nb q2=>PR.andThen (numP l e q2) fun nc q3=>(.ok ((⟨10,na,nb,nc,0,0,[],[]⟩:MIns),q3):PR MIns))):=rfl
  have S1:Hid (PAt (w.alloc (.cells #[.int .i64 0,.int .i64 0,.int .i64 0,.int .i64 0,.int .i64 0,.int .i64 0,.slice none 0 0,.slice none 0 0] 41)) _ _ _ _∧_∧_):=begins h
  have C:Hid (∀ w1:World,PAt w1 b l e p→Calls Tryz.prog 135 #[ptrP b,.func (.func 9) #[] #[]] w1 fun en w'=>en=.returned (.int .i64 10)∧Below w1.heap.size w1 w'):=fun w1 h1=>which_told enters_Op pOp_any opWords_wordly (by decide) hk (by decide) h1
  clear h hk
  go_enter Tryz.func114,Tryz.ntmps114
  go_wp2_with fail
  generalize w.alloc (.cells #[.int .i64 0,.int .i64 0,.int .i64 0,.int .i64 0,.int .i64 0,.int .i64 0,.slice none 0 0,.slice none 0 0] 41)=w1 at S1 ⊢
  refine (C.out w1 S1.out.1).mono ?_
  rintro e' w2 ⟨rfl,b2⟩
  have F0:Hid (FB w (w2.alloc (.cells #[.int .i64 10,.int .i64 0,.int .i64 0,.int .i64 0,.int .i64 0,.int .i64 0,.slice none 0 0,.slice none 0 0] 41)) b e l p w.heap.size w2.heap.size _ #[.int .i64 10,.int .i64 0,.int .i64 0,.int .i64 0,.int .i64 0,.int .i64 0,.slice none 0 0,.slice none 0 0] 41):=FB.beside _ (S1.out.1.below b2) (S1.out.2.1.below b2) (S1.out.2.2.trans (Chg.below b2)) hbw (Nat.le_refl _)
  clear b2 S1 C
  go_wp2_with fail
  generalize w2.alloc (.cells #[.int .i64 10,.int .i64 0,.int .i64 0,.int .i64 0,.int .i64 0,.int .i64 0,.slice none 0 0,.slice none 0 0] 41)=w3 at F0 ⊢
  generalize w2.heap.size=B at F0 ⊢
  have hRB:w.heap.size < B:=F0.out.RB
  refine (take_any F0.out.rd HL.out).mono ?_
  rintro e' w4 ⟨rfl,r4,k4⟩
  have F4:Hid (FB _ _ _ _ _ _ _ _ _ _ _):=F0.out.call r4 k4
  have y0:=cellOf F4.out.box 0 _ rfl
  clear r4 k4 F0
  go_wp2_with fail
  refine (FB.callNums F4.out [1,2,3] (by simp) rfl (by decide) (by simp)).mono ?_
  intro e' w5 hO
  rcases hO with ⟨ns,p5,m5,rfl,hx5,r5,k5⟩ | ⟨y,c',a',m5,rfl,hc',k5⟩
  rotate_left
  · exact ⟨rfl,Out.bad (by rw [HE.out,nums3_eq,show numsP l e 3 (p+1)=_ from m5];rfl) hc' k5⟩
  have hl5:=nums_len m5
  obtain ⟨na,nb,nc,rfl⟩:∃ na nb nc,ns=[na,nb,nc]:=by
    match ns,hl5 with
    | [na,nb,nc],_=>exact ⟨na,nb,nc,rfl⟩
  have Bna:Hid (0≤na∧na≤1000000):=hx5 na (by simp)
  have Bnb:Hid (0≤nb∧nb≤1000000):=hx5 nb (by simp)
  have Bnc:Hid (0≤nc∧nc≤1000000):=hx5 nc (by simp)
  have E5:Hid (numsP l e 3 (p+1)=.ok ([na,nb,nc],p5)):=m5
  have G5:Hid (FB _ _ _ _ _ _ _ _ _ #[.int .i64 10,.int .i64 na,.int .i64 nb,.int .i64 nc,.int .i64 0,.int .i64 0,.slice none 0 0,.slice none 0 0] _):=r5
  clear m5 r5 k5 hx5 hl5 F4
  obtain ⟨y0,y1,y2,y3,y4,y5,y6,y7⟩:=cells8 G5.out.box
  obtain ⟨u0,u1,u2,u3,u4,u5,u6,u7⟩:=cells8 G5.out.res
  obtain ⟨v0,v1,v2,v3,v4,v5,v6,v7⟩:=frees8 G5.out.res
  have hne:¬ B=w.heap.size:=by omega
  go_wp2
  have DD:Hid (FinD _ _ _ _ _ _ _ #[.int .i64 10,.int .i64 na,.int .i64 nb,.int .i64 nc,.int .i64 0,.int .i64 0,.slice none 0 0,.slice none 0 0] ((((((((w5.setCell ⟨w.heap.size,0,none⟩ (.int .i64 10)).setCell ⟨w.heap.size,1,none⟩ (.int .i64 na)).setCell ⟨w.heap.size,2,none⟩ (.int .i64 nb)).setCell ⟨w.heap.size,3,none⟩ (.int .i64 nc)).setCell ⟨w.heap.size,4,none⟩ (.int .i64 0)).setCell ⟨w.heap.size,5,none⟩ (.int .i64 0)).setCell ⟨w.heap.size,6,none⟩ (.slice none 0 0)).setCell ⟨w.heap.size,7,none⟩ (.slice none 0 0))):=FB.fin G5.out [.int .i64 10,.int .i64 na,.int .i64 nb,.int .i64 nc,.int .i64 0,.int .i64 0,.slice none 0 0,.slice none 0 0] rfl
  clear y0 u0 v0 y1 u1 v1 y2 u2 v2 y3 u3 v3 y4 u4 v4 y5 u5 v5 y6 u6 v6 y7 u7 v7
  generalize ((((((((w5.setCell ⟨w.heap.size,0,none⟩ (.int .i64 10)).setCell ⟨w.heap.size,1,none⟩ (.int .i64 na)).setCell ⟨w.heap.size,2,none⟩ (.int .i64 nb)).setCell ⟨w.heap.size,3,none⟩ (.int .i64 nc)).setCell ⟨w.heap.size,4,none⟩ (.int .i64 0)).setCell ⟨w.heap.size,5,none⟩ (.int .i64 0)).setCell ⟨w.heap.size,6,none⟩ (.slice none 0 0)).setCell ⟨w.heap.size,7,none⟩ (.slice none 0 0))=w9 at DD ⊢
  obtain ⟨D1,D2,D3⟩:=DD.out
  obtain ⟨x0,x1,x2,x3,x4,x5,x6,x7⟩:=cells8 D1
  exact bodyPost_ret (v:=.agg #[.int .i64 10,.int .i64 na,.int .i64 nb,.int .i64 nc,.int .i64 0,.int .i64 0,.slice none 0 0,.slice none 0 0]) (by simp [results,Tryz.results114,go_sem,x0,x1,x2,x3,x4,x5,x6,x7]) rfl (Out.good (by rw [HE.out,nums3_eq,E5.out,PR.ok_andThen];rfl) (⟨none,0,none,0,rfl,ins_mk (x:=(⟨10,na,nb,nc,0,0,[],[]⟩:MIns)) (Lay.list_nil _ _ _ _ _) (Lay.list_nil _ _ _ _ _) ⟨lit_i64 10 (by decide),i64_of Bna.out,i64_of Bnb.out,i64_of Bnc.out,lit_i64 0 (by decide),lit_i64 0 (by decide)⟩⟩) D2 D3)
theorem pins_k11 {w : World} {b e p : Nat} {l : List Tk} (h : PAt w b l e p) (hk : whichP l opWords p = 11) :
    Calls Tryz.prog 114 #[ptrP b] w fun en w'=>Out b e l (insFields l e 11 (p+1)) w (VIns w) en w':=by
  have hbw:=h.lt
  have HL:Hid (p < l.length):=which_lt (by rw [hk];decide)
  have HE:Hid (insFields l e 11 (p+1)=(PR.andThen (numP l e (p+1)) fun na q1=>(.ok ((⟨11,na,0,0,0,0,[],[]⟩:MIns),q1):PR MIns))):=rfl
  have S1:Hid (PAt (w.alloc (.cells #[.int .i64 0,.int .i64 0,.int .i64 0,.int .i64 0,.int .i64 0,.int .i64 0,.slice none 0 0,.slice none 0 0] 41)) _ _ _ _∧_∧_):=begins h
  have C:Hid (∀ w1:World,PAt w1 b l e p→Calls Tryz.prog 135 #[ptrP b,.func (.func 9) #[] #[]] w1 fun en w'=>en=.returned (.int .i64 11)∧Below w1.heap.size w1 w'):=fun w1 h1=>which_told enters_Op pOp_any opWords_wordly (by decide) hk (by decide) h1
  clear h hk
  go_enter Tryz.func114,Tryz.ntmps114
  go_wp2_with fail
  generalize w.alloc (.cells #[.int .i64 0,.int .i64 0,.int .i64 0,.int .i64 0,.int .i64 0,.int .i64 0,.slice none 0 0,.slice none 0 0] 41)=w1 at S1 ⊢
  refine (C.out w1 S1.out.1).mono ?_
  rintro e' w2 ⟨rfl,b2⟩
  have F0:Hid (FB w (w2.alloc (.cells #[.int .i64 11,.int .i64 0,.int .i64 0,.int .i64 0,.int .i64 0,.int .i64 0,.slice none 0 0,.slice none 0 0] 41)) b e l p w.heap.size w2.heap.size _ #[.int .i64 11,.int .i64 0,.int .i64 0,.int .i64 0,.int .i64 0,.int .i64 0,.slice none 0 0,.slice none 0 0] 41):=FB.beside _ (S1.out.1.below b2) (S1.out.2.1.below b2) (S1.out.2.2.trans (Chg.below b2)) hbw (Nat.le_refl _)
  clear b2 S1 C
  go_wp2_with fail
  generalize w2.alloc (.cells #[.int .i64 11,.int .i64 0,.int .i64 0,.int .i64 0,.int .i64 0,.int .i64 0,.slice none 0 0,.slice none 0 0] 41)=w3 at F0 ⊢
  generalize w2.heap.size=B at F0 ⊢
  have hRB:w.heap.size < B:=F0.out.RB
  refine (take_any F0.out.rd HL.out).mono ?_
  rintro e' w4 ⟨rfl,r4,k4⟩
  have F4:Hid (FB _ _ _ _ _ _ _ _ _ _ _):=F0.out.call r4 k4
  have y0:=cellOf F4.out.box 0 _ rfl
  clear r4 k4 F0
  go_wp2_with fail
  refine (FB.callNums F4.out [1] (by simp) rfl (by decide) (by simp)).mono ?_
  intro e' w5 hO
  rcases hO with ⟨ns,p5,m5,rfl,hx5,r5,k5⟩ | ⟨y,c',a',m5,rfl,hc',k5⟩
  rotate_left
  · exact ⟨rfl,Out.bad (by rw [HE.out,nums1_eq,show numsP l e 1 (p+1)=_ from m5];rfl) hc' k5⟩
  have hl5:=nums_len m5
  obtain ⟨na,rfl⟩:∃ na,ns=[na]:=by
    match ns,hl5 with
    | [na],_=>exact ⟨na,rfl⟩
  have Bna:Hid (0≤na∧na≤1000000):=hx5 na (by simp)
  have E5:Hid (numsP l e 1 (p+1)=.ok ([na],p5)):=m5
  have G5:Hid (FB _ _ _ _ _ _ _ _ _ #[.int .i64 11,.int .i64 na,.int .i64 0,.int .i64 0,.int .i64 0,.int .i64 0,.slice none 0 0,.slice none 0 0] _):=r5
  clear m5 r5 k5 hx5 hl5 F4
  obtain ⟨y0,y1,y2,y3,y4,y5,y6,y7⟩:=cells8 G5.out.box
  obtain ⟨u0,u1,u2,u3,u4,u5,u6,u7⟩:=cells8 G5.out.res
  obtain ⟨v0,v1,v2,v3,v4,v5,v6,v7⟩:=frees8 G5.out.res
  have hne:¬ B=w.heap.size:=by omega
  go_wp2
  have DD:Hid (FinD _ _ _ _ _ _ _ #[.int .i64 11,.int .i64 na,.int .i64 0,.int .i64 0,.int .i64 0,.int .i64 0,.slice none 0 0,.slice none 0 0] ((((((((w5.setCell ⟨w.heap.size,0,none⟩ (.int .i64 11)).setCell ⟨w.heap.size,1,none⟩ (.int .i64 na)).setCell ⟨w.heap.size,2,none⟩ (.int .i64 0)).setCell ⟨w.heap.size,3,none⟩ (.int .i64 0)).setCell ⟨w.heap.size,4,none⟩ (.int .i64 0)).setCell ⟨w.heap.size,5,none⟩ (.int .i64 0)).setCell ⟨w.heap.size,6,none⟩ (.slice none 0 0)).setCell ⟨w.heap.size,7,none⟩ (.slice none 0 0))):=FB.fin G5.out [.int .i64 11,.int .i64 na,.int .i64 0,.int .i64 0,.int .i64 0,.int .i64 0,.slice none 0 0,.slice none 0 0] rfl
  clear y0 u0 v0 y1 u1 v1 y2 u2 v2 y3 u3 v3 y4 u4 v4 y5 u5 v5 y6 u6 v6 y7 u7 v7
  generalize ((((((((w5.setCell ⟨w.heap.size,0,none⟩ (.int .i64 11)).setCell ⟨w.heap.size,1,none⟩ (.int .i64 na)).setCell ⟨w.heap.size,2,none⟩ (.int .i64 0)).setCell ⟨w.heap.size,3,none⟩ (.int .i64 0)).setCell ⟨w.heap.size,4,none⟩ (.int .i64 0)).setCell ⟨w.heap.size,5,none⟩ (.int .i64 0)).setCell ⟨w.heap.size,6,none⟩ (.slice none 0 0)).setCell ⟨w.heap.size,7,none⟩ (.slice none 0 0))=w9 at DD ⊢
  obtain ⟨D1,D2,D3⟩:=DD.out
  obtain ⟨x0,x1,x2,x3,x4,x5,x6,x7⟩:=cells8 D1
  exact bodyPost_ret (v:=.agg #[.int .i64 11,.int .i64 na,.int .i64 0,.int .i64 0,.int .i64 0,.int .i64 0,.slice none 0 0,.slice none 0 0]) (by simp [results,Tryz.results114,go_sem,x0,x1,x2,x3,x4,x5,x6,x7]) rfl (Out.good (by rw [HE.out,nums1_eq,E5.out,PR.ok_andThen];rfl) (⟨none,0,none,0,rfl,ins_mk (x:=(⟨11,na,0,0,0,0,[],[]⟩:MIns)) (Lay.list_nil _ _ _ _ _) (Lay.list_nil _ _ _ _ _) ⟨lit_i64 11 (by decide),i64_of Bna.out,lit_i64 0 (by decide),lit_i64 0 (by decide),lit_i64 0 (by decide),lit_i64 0 (by decide)⟩⟩) D2 D3)
theorem pins_k12 {w : World} {b e p : Nat} {l : List Tk} (h : PAt w b l e p) (hk : whichP l opWords p = 12) :
    Calls Tryz.prog 114 #[ptrP b] w fun en w'=>Out b e l (insFields l e 12 (p+1)) w (VIns w) en w':=by
  have hbw:=h.lt
  have HL:Hid (p < l.length):=which_lt (by rw [hk];decide)
  have HE:Hid (insFields l e 12 (p+1)=((.ok ((⟨12,0,0,0,0,0,[],[]⟩:MIns),(p+1)):PR MIns))):=rfl
  have S1:Hid (PAt (w.alloc (.cells #[.int .i64 0,.int .i64 0,.int .i64 0,.int .i64 0,.int .i64 0,.int .i64 0,.slice none 0 0,.slice none 0 0] 41)) _ _ _ _∧_∧_):=begins h
  have C:Hid (∀ w1:World,PAt w1 b l e p→Calls Tryz.prog 135 #[ptrP b,.func (.func 9) #[] #[]] w1 fun en w'=>en=.returned (.int .i64 12)∧Below w1.heap.size w1 w'):=fun w1 h1=>which_told enters_Op pOp_any opWords_wordly (by decide) hk (by decide) h1
  clear h hk
  go_enter Tryz.func114,Tryz.ntmps114
  go_wp2_with fail
  generalize w.alloc (.cells #[.int .i64 0,.int .i64 0,.int .i64 0,.int .i64 0,.int .i64 0,.int .i64 0,.slice none 0 0,.slice none 0 0] 41)=w1 at S1 ⊢
  refine (C.out w1 S1.out.1).mono ?_
  rintro e' w2 ⟨rfl,b2⟩
  have F0:Hid (FB w (w2.alloc (.cells #[.int .i64 12,.int .i64 0,.int .i64 0,.int .i64 0,.int .i64 0,.int .i64 0,.slice none 0 0,.slice none 0 0] 41)) b e l p w.heap.size w2.heap.size _ #[.int .i64 12,.int .i64 0,.int .i64 0,.int .i64 0,.int .i64 0,.int .i64 0,.slice none 0 0,.slice none 0 0] 41):=FB.beside _ (S1.out.1.below b2) (S1.out.2.1.below b2) (S1.out.2.2.trans (Chg.below b2)) hbw (Nat.le_refl _)
  clear b2 S1 C
  go_wp2_with fail
  generalize w2.alloc (.cells #[.int .i64 12,.int .i64 0,.int .i64 0,.int .i64 0,.int .i64 0,.int .i64 0,.slice none 0 0,.slice none 0 0] 41)=w3 at F0 ⊢
  generalize w2.heap.size=B at F0 ⊢
  have hRB:w.heap.size < B:=F0.out.RB
  refine (take_any F0.out.rd HL.out).mono ?_
  rintro e' w4 ⟨rfl,r4,k4⟩
  have F4:Hid (FB _ _ _ _ _ _ _ _ _ _ _):=F0.out.call r4 k4
  have y0:=cellOf F4.out.box 0 _ rfl
  clear r4 k4 F0
  obtain ⟨y0,y1,y2,y3,y4,y5,y6,y7⟩:=cells8 F4.out.box
  obtain ⟨u0,u1,u2,u3,u4,u5,u6,u7⟩:=cells8 F4.out.res
  obtain ⟨v0,v1,v2,v3,v4,v5,v6,v7⟩:=frees8 F4.out.res
  have hne:¬ B=w.heap.size:=by omega
  go_wp2
  have DD:Hid (FinD _ _ _ _ _ _ _ #[.int .i64 12,.int .i64 0,.int .i64 0,.int .i64 0,.int .i64 0,.int .i64 0,.slice none 0 0,.slice none 0 0] ((((((((w4.setCell ⟨w.heap.size,0,none⟩ (.int .i64 12)).setCell ⟨w.heap.size,1,none⟩ (.int .i64 0)).setCell ⟨w.heap.size,2,none⟩ (.int .i64 0)).setCell ⟨w.heap.size,3,none⟩ (.int .i64 0)).setCell ⟨w.heap.size,4,none⟩ (.int .i64 0)).setCell ⟨w.heap.size,5,none⟩ (.int .i64 0)).setCell ⟨w.heap.size,6,none⟩ (.slice none 0 0)).setCell ⟨w.heap.size,7,none⟩ (.slice none 0 0))):=FB.fin F4.out [.int .i64 12,.int .i64 0,.int .i64 0,.int .i64 0,.int .i64 0,.int .i64 0,.slice none 0 0,.slice none 0 0] rfl
  clear u0 v0 y1 u1 v1 y2 u2 v2 y3 u3 v3 y4 u4 v4 y5 u5 v5 y6 u6 v6 y7 u7 v7
  generalize ((((((((w4.setCell ⟨w.heap.size,0,none⟩ (.int .i64 12)).setCell ⟨w.heap.size,1,none⟩ (.int .i64 0)).setCell ⟨w.heap.size,2,none⟩ (.int .i64 0)).setCell ⟨w.heap.size,3,none⟩ (.int .i64 0)).setCell ⟨w.heap.size,4,none⟩ (.int .i64 0)).setCell ⟨w.heap.size,5,none⟩ (.int .i64 0)).setCell ⟨w.heap.size,6,none⟩ (.slice none 0 0)).setCell ⟨w.heap.size,7,none⟩ (.slice none 0 0))=w9 at DD ⊢
  obtain ⟨D1,D2,D3⟩:=DD.out
  obtain ⟨x0,x1,x2,x3,x4,x5,x6,x7⟩:=cells8 D1
  exact bodyPost_ret (v:=.agg #[.int .i64 12,.int .i64 0,.int .i64 0,.int .i64 0,.int .i64 0,.int .i64 0,.slice none 0 0,.slice none 0 0]) (by simp [results,Tryz.results114,go_sem,x0,x1,x2,x3,x4,x5,x6,x7]) rfl (Out.good (HE.out) (⟨none,0,none,0,rfl,ins_mk (x:=(⟨12,0,0,0,0,0,[],[]⟩:MIns)) (Lay.list_nil _ _ _ _ _) (Lay.list_nil _ _ _ _ _) ⟨lit_i64 12 (by decide),lit_i64 0 (by decide),lit_i64 0 (by decide),lit_i64 0 (by decide),lit_i64 0 (by decide),lit_i64 0 (by decide)⟩⟩) D2 D3)
theorem pins_k13 {w : World} {b e p : Nat} {l : List Tk} (h : PAt w b l e p) (hk : whichP l opWords p = 13) :
    Calls Tryz.prog 114 #[ptrP b] w fun en w'=>Out b e l (insFields l e 13 (p+1)) w (VIns w) en w':=by
  have hbw:=h.lt
  have HL:Hid (p < l.length):=which_lt (by rw [hk];decide)
  have HE:Hid (insFields l e 13 (p+1)=(PR.andThen (numP l e (p+1)) fun na q1=>(.ok ((⟨13,na,0,0,0,0,[],[]⟩:MIns),q1):PR MIns))):=rfl
  have S1:Hid (PAt (w.alloc (.cells #[.int .i64 0,.int .i64 0,.int .i64 0,.int .i64 0,.int .i64 0,.int .i64 0,.slice none 0 0,.slice none 0 0] 41)) _ _ _ _∧_∧_):=begins h
  have C:Hid (∀ w1:World,PAt w1 b l e p→Calls Tryz.prog 135 #[ptrP b,.func (.func 9) #[] #[]] w1 fun en w'=>en=.returned (.int .i64 13)∧Below w1.heap.size w1 w'):=fun w1 h1=>which_told enters_Op pOp_any opWords_wordly (by decide) hk (by decide) h1
  clear h hk
  go_enter Tryz.func114,Tryz.ntmps114
  go_wp2_with fail
  generalize w.alloc (.cells #[.int .i64 0,.int .i64 0,.int .i64 0,.int .i64 0,.int .i64 0,.int .i64 0,.slice none 0 0,.slice none 0 0] 41)=w1 at S1 ⊢
  refine (C.out w1 S1.out.1).mono ?_
  rintro e' w2 ⟨rfl,b2⟩
  have F0:Hid (FB w (w2.alloc (.cells #[.int .i64 13,.int .i64 0,.int .i64 0,.int .i64 0,.int .i64 0,.int .i64 0,.slice none 0 0,.slice none 0 0] 41)) b e l p w.heap.size w2.heap.size _ #[.int .i64 13,.int .i64 0,.int .i64 0,.int .i64 0,.int .i64 0,.int .i64 0,.slice none 0 0,.slice none 0 0] 41):=FB.beside _ (S1.out.1.below b2) (S1.out.2.1.below b2) (S1.out.2.2.trans (Chg.below b2)) hbw (Nat.le_refl _)
  clear b2 S1 C
  go_wp2_with fail
  generalize w2.alloc (.cells #[.int .i64 13,.int .i64 0,.int .i64 0,.int .i64 0,.int .i64 0,.int .i64 0,.slice none 0 0,.slice none 0 0] 41)=w3 at F0 ⊢
  generalize w2.heap.size=B at F0 ⊢
  have hRB:w.heap.size < B:=F0.out.RB
  refine (take_any F0.out.rd HL.out).mono ?_
  rintro e' w4 ⟨rfl,r4,k4⟩
  have F4:Hid (FB _ _ _ _ _ _ _ _ _ _ _):=F0.out.call r4 k4
  have y0:=cellOf F4.out.box 0 _ rfl
  clear r4 k4 F0
  go_wp2_with fail
  refine (FB.callNums F4.out [1] (by simp) rfl (by decide) (by simp)).mono ?_
  intro e' w5 hO
  rcases hO with ⟨ns,p5,m5,rfl,hx5,r5,k5⟩ | ⟨y,c',a',m5,rfl,hc',k5⟩
  rotate_left
  · exact ⟨rfl,Out.bad (by rw [HE.out,nums1_eq,show numsP l e 1 (p+1)=_ from m5];rfl) hc' k5⟩
  have hl5:=nums_len m5
  obtain ⟨na,rfl⟩:∃ na,ns=[na]:=by
    match ns,hl5 with
    | [na],_=>exact ⟨na,rfl⟩
  have Bna:Hid (0≤na∧na≤1000000):=hx5 na (by simp)
  have E5:Hid (numsP l e 1 (p+1)=.ok ([na],p5)):=m5
  have G5:Hid (FB _ _ _ _ _ _ _ _ _ #[.int .i64 13,.int .i64 na,.int .i64 0,.int .i64 0,.int .i64 0,.int .i64 0,.slice none 0 0,.slice none 0 0] _):=r5
  clear m5 r5 k5 hx5 hl5 F4
  obtain ⟨y0,y1,y2,y3,y4,y5,y6,y7⟩:=cells8 G5.out.box
  obtain ⟨u0,u1,u2,u3,u4,u5,u6,u7⟩:=cells8 G5.out.res
  obtain ⟨v0,v1,v2,v3,v4,v5,v6,v7⟩:=frees8 G5.out.res
  have hne:¬ B=w.heap.size:=by omega
  go_wp2
  have DD:Hid (FinD _ _ _ _ _ _ _ #[.int .i64 13,.int .i64 na,.int .i64 0,.int .i64 0,.int .i64 0,.int .i64 0,.slice none 0 0,.slice none 0 0] ((((((((w5.setCell ⟨w.heap.size,0,none⟩ (.int .i64 13)).setCell ⟨w.heap.size,1,none⟩ (.int .i64 na)).setCell ⟨w.heap.size,2,none⟩ (.int .i64 0)).setCell ⟨w.heap.size,3,none⟩ (.int .i64 0)).setCell ⟨w.heap.size,4,none⟩ (.int .i64 0)).setCell ⟨w.heap.size,5,none⟩ (.int .i64 0)).setCell ⟨w.heap.size,6,none⟩ (.slice none 0 0)).setCell ⟨w.heap.size,7,none⟩ (.slice none 0 0))):=FB.fin G5.out [.int .i64 13,.int .i64 na,.int .i64 0,.int .i64 0,.int .i64 0,.int .i64 0,.slice none 0 0,.slice none 0 0] rfl
  clear y0 u0 v0 y1 u1 v1 y2 u2 v2 y3 u3 v3 y4 u4 v4 y5 u5 v5 y6 u6 v6 y7 u7 v7
  generalize ((((((((w5.setCell ⟨w.heap.size,0,none⟩ (.int .i64 13)).setCell ⟨w.heap.size,1,none⟩ (.int .i64 na)).setCell ⟨w.heap.size,2,none⟩ (.int .i64 0)).setCell ⟨w.heap.size,3,none⟩ (.int .i64 0)).setCell ⟨w.heap.size,4,none⟩ (.int .i64 0)).setCell ⟨w.heap.size,5,none⟩ (.int .i64 0)).setCell ⟨w.heap.size,6,none⟩ (.slice none 0 0)).setCell ⟨w.heap.size,7,none⟩ (.slice none 0 0))=w9 at DD ⊢
  obtain ⟨D1,D2,D3⟩:=DD.out
  obtain ⟨x0,x1,x2,x3,x4,x5,x6,x7⟩:=cells8 D1
  exact bodyPost_ret (v:=.agg #[.int .i64 13,.int .i64 na,.int .i64 0,.int .i64 0,.int .i64 0,.int .i64 0,.slice none 0 0,.slice none 0 0]) (by simp [results,Tryz.results114,go_sem,x0,x1,x2,x3,x4,x5,x6,x7]) rfl (Out.good (by rw [HE.out,nums1_eq,E5.out,PR.ok_andThen];rfl) (⟨none,0,none,0,rfl,ins_mk (x:=(⟨13,na,0,0,0,0,[],[]⟩:MIns)) (Lay.list_nil _ _ _ _ _) (Lay.list_nil _ _ _ _ _) ⟨lit_i64 13 (by decide),i64_of Bna.out,lit_i64 0 (by decide),lit_i64 0 (by decide),lit_i64 0 (by decide),lit_i64 0 (by decide)⟩⟩) D2 D3)
theorem pins_k14 {w : World} {b e p : Nat} {l : List Tk} (h : PAt w b l e p) (hk : whichP l opWords p = 14) :
    Calls Tryz.prog 114 #[ptrP b] w fun en w'=>Out b e l (insFields l e 14 (p+1)) w (VIns w) en w':=by
  have hbw:=h.lt
  have HL:Hid (p < l.length):=which_lt (by rw [hk];decide)
  have HE:Hid (insFields l e 14 (p+1)=(PR.andThen (numP l e (p+1)) fun nk q1=>PR.andThen (regsP l e q1) fun xs q2=>PR.andThen (argsP l e q2) fun ys q3=>(.ok ((⟨14,0,0,0,nk,0,xs,ys⟩:MIns),q3):PR MIns))):=rfl
  have S1:Hid (PAt (w.alloc (.cells #[.int .i64 0,.int .i64 0,.int .i64 0,.int .i64 0,.int .i64 0,.int .i64 0,.slice none 0 0,.slice none 0 0] 41)) _ _ _ _∧_∧_):=begins h
  have C:Hid (∀ w1:World,PAt w1 b l e p→Calls Tryz.prog 135 #[ptrP b,.func (.func 9) #[] #[]] w1 fun en w'=>en=.returned (.int .i64 14)∧Below w1.heap.size w1 w'):=fun w1 h1=>which_told enters_Op pOp_any opWords_wordly (by decide) hk (by decide) h1
  clear h hk
  go_enter Tryz.func114,Tryz.ntmps114
  go_wp2_with fail
  generalize w.alloc (.cells #[.int .i64 0,.int .i64 0,.int .i64 0,.int .i64 0,.int .i64 0,.int .i64 0,.slice none 0 0,.slice none 0 0] 41)=w1 at S1 ⊢
  refine (C.out w1 S1.out.1).mono ?_
  rintro e' w2 ⟨rfl,b2⟩
  have F0:Hid (FB w (w2.alloc (.cells #[.int .i64 14,.int .i64 0,.int .i64 0,.int .i64 0,.int .i64 0,.int .i64 0,.slice none 0 0,.slice none 0 0] 41)) b e l p w.heap.size w2.heap.size _ #[.int .i64 14,.int .i64 0,.int .i64 0,.int .i64 0,.int .i64 0,.int .i64 0,.slice none 0 0,.slice none 0 0] 41):=FB.beside _ (S1.out.1.below b2) (S1.out.2.1.below b2) (S1.out.2.2.trans (Chg.below b2)) hbw (Nat.le_refl _)
  clear b2 S1 C
  go_wp2_with fail
  generalize w2.alloc (.cells #[.int .i64 14,.int .i64 0,.int .i64 0,.int .i64 0,.int .i64 0,.int .i64 0,.slice none 0 0,.slice none 0 0] 41)=w3 at F0 ⊢
  generalize w2.heap.size=B at F0 ⊢
  have hRB:w.heap.size < B:=F0.out.RB
  refine (take_any F0.out.rd HL.out).mono ?_
  rintro e' w4 ⟨rfl,r4,k4⟩
  have F4:Hid (FB _ _ _ _ _ _ _ _ _ _ _):=F0.out.call r4 k4
  have y0:=cellOf F4.out.box 0 _ rfl
  clear r4 k4 F0
  go_wp2_with fail
  refine (FB.callNums F4.out [4] (by simp) rfl (by decide) (by simp)).mono ?_
  intro e' w5 hO
  rcases hO with ⟨ns,p5,m5,rfl,hx5,r5,k5⟩ | ⟨y,c',a',m5,rfl,hc',k5⟩
  rotate_left
  · exact ⟨rfl,Out.bad (by rw [HE.out,nums1_eq,show numsP l e 1 (p+1)=_ from m5];rfl) hc' k5⟩
  have hl5:=nums_len m5
  obtain ⟨nk,rfl⟩:∃ nk,ns=[nk]:=by
    match ns,hl5 with
    | [nk],_=>exact ⟨nk,rfl⟩
  have Bnk:Hid (0≤nk∧nk≤1000000):=hx5 nk (by simp)
  have E5:Hid (numsP l e 1 (p+1)=.ok ([nk],p5)):=m5
  have G5:Hid (FB _ _ _ _ _ _ _ _ _ #[.int .i64 14,.int .i64 0,.int .i64 0,.int .i64 0,.int .i64 nk,.int .i64 0,.slice none 0 0,.slice none 0 0] _):=r5
  clear m5 r5 k5 hx5 hl5 F4
  go_wp2_with fail
  refine (pregs_any G5.out.rd).mono ?_
  intro e' w6 hO
  rcases hO with ⟨xs,p6,x6,m6,rfl,⟨ax,cx,rfl,hi6⟩,r6,k6⟩ | ⟨y,c',a',m6,rfl,hc',k6⟩
  rotate_left
  · exact ⟨rfl,Out.bad (by rw [HE.out,nums1_eq,E5.out,PR.ok_andThen,m6];rfl) hc' (G5.out.chg.trans k6)⟩
  have E6:Hid (regsP l e p5=.ok (xs,p6)):=m6
  have G6:Hid (FB _ _ _ _ _ _ _ _ _ _ _):=G5.out.call r6 k6
  have Kxs:Hid (Kid intsL B w6 xs [.slice ax xs.length cx]):=Kid.mk hi6 G5.out.lt
  clear hi6
  clear m6 r6 k6 G5
  have y6:=cellOf G6.out.box 6 _ rfl
  have z6:=freeOf G6.out.box 6
  go_wp2_with fail
  have G7:Hid (FB _ (w6.setCell ⟨B,6,none⟩ (.slice ax xs.length cx)) _ _ _ _ _ _ _ #[.int .i64 14,.int .i64 0,.int .i64 0,.int .i64 0,.int .i64 nk,.int .i64 0,.slice ax xs.length cx,.slice none 0 0] _):=(FB.set G6.out 6 (.slice ax xs.length cx))
  have KxsG7:Hid (Kid _ _ (w6.setCell ⟨B,6,none⟩ (.slice ax xs.length cx)) _ _):=(Kid.set Kxs.out (q:=⟨B,6,none⟩) (Nat.le_refl _) _)
  clear Kxs
  generalize (w6.setCell ⟨B,6,none⟩ (.slice ax xs.length cx))=w7 at G7 KxsG7 ⊢
  clear y6 z6 G6
  refine (pargs_any G7.out.rd).mono ?_
  intro e' w8 hO
  rcases hO with ⟨ys,p8,x8,m8,rfl,⟨ay,cy,rfl,hi8⟩,r8,k8⟩ | ⟨y,c',a',m8,rfl,hc',k8⟩
  rotate_left
  · exact ⟨rfl,Out.bad (by rw [HE.out,nums1_eq,E5.out,PR.ok_andThen,E6.out,PR.ok_andThen,m8];rfl) hc' (G7.out.chg.trans k8)⟩
  have E8:Hid (argsP l e p6=.ok (ys,p8)):=m8
  have G8:Hid (FB _ _ _ _ _ _ _ _ _ _ _):=G7.out.call r8 k8
  have KxsG79_:Hid (Kid _ _ _ _ _):=KxsG7.out.chg k8 (by omega)
  clear KxsG7
  have Kys:Hid (Kid intsL B w8 ys [.slice ay ys.length cy]):=Kid.mk hi8 G7.out.lt
  clear hi8
  clear m8 r8 k8 G7
  obtain ⟨y0,y1,y2,y3,y4,y5,y6,y7⟩:=cells8 G8.out.box
  obtain ⟨u0,u1,u2,u3,u4,u5,u6,u7⟩:=cells8 G8.out.res
  obtain ⟨v0,v1,v2,v3,v4,v5,v6,v7⟩:=frees8 G8.out.res
  have z7:=freeOf G8.out.box 7
  have hne:¬ B=w.heap.size:=by omega
  go_wp2
  have DD:Hid (FinD _ _ _ _ _ _ _ #[.int .i64 14,.int .i64 0,.int .i64 0,.int .i64 0,.int .i64 nk,.int .i64 0,.slice ax xs.length cx,.slice ay ys.length cy] (((((((((w8.setCell ⟨B,7,none⟩ (.slice ay ys.length cy)).setCell ⟨w.heap.size,0,none⟩ (.int .i64 14)).setCell ⟨w.heap.size,1,none⟩ (.int .i64 0)).setCell ⟨w.heap.size,2,none⟩ (.int .i64 0)).setCell ⟨w.heap.size,3,none⟩ (.int .i64 0)).setCell ⟨w.heap.size,4,none⟩ (.int .i64 nk)).setCell ⟨w.heap.size,5,none⟩ (.int .i64 0)).setCell ⟨w.heap.size,6,none⟩ (.slice ax xs.length cx)).setCell ⟨w.heap.size,7,none⟩ (.slice ay ys.length cy))):=FB.fin (FB.set G8.out 7 (.slice ay ys.length cy)) [.int .i64 14,.int .i64 0,.int .i64 0,.int .i64 0,.int .i64 nk,.int .i64 0,.slice ax xs.length cx,.slice ay ys.length cy] rfl
  have DKxsG79_:Hid (Kid _ _ (((((((((w8.setCell ⟨B,7,none⟩ (.slice ay ys.length cy)).setCell ⟨w.heap.size,0,none⟩ (.int .i64 14)).setCell ⟨w.heap.size,1,none⟩ (.int .i64 0)).setCell ⟨w.heap.size,2,none⟩ (.int .i64 0)).setCell ⟨w.heap.size,3,none⟩ (.int .i64 0)).setCell ⟨w.heap.size,4,none⟩ (.int .i64 nk)).setCell ⟨w.heap.size,5,none⟩ (.int .i64 0)).setCell ⟨w.heap.size,6,none⟩ (.slice ax xs.length cx)).setCell ⟨w.heap.size,7,none⟩ (.slice ay ys.length cy)) _ _):=Kid.sets (Kid.set KxsG79_.out (q:=⟨B,7,none⟩) (Nat.le_refl _) _) (by omega) [.int .i64 14,.int .i64 0,.int .i64 0,.int .i64 0,.int .i64 nk,.int .i64 0,.slice ax xs.length cx,.slice ay ys.length cy] 0
  clear KxsG79_
  have DKys:Hid (Kid _ _ (((((((((w8.setCell ⟨B,7,none⟩ (.slice ay ys.length cy)).setCell ⟨w.heap.size,0,none⟩ (.int .i64 14)).setCell ⟨w.heap.size,1,none⟩ (.int .i64 0)).setCell ⟨w.heap.size,2,none⟩ (.int .i64 0)).setCell ⟨w.heap.size,3,none⟩ (.int .i64 0)).setCell ⟨w.heap.size,4,none⟩ (.int .i64 nk)).setCell ⟨w.heap.size,5,none⟩ (.int .i64 0)).setCell ⟨w.heap.size,6,none⟩ (.slice ax xs.length cx)).setCell ⟨w.heap.size,7,none⟩ (.slice ay ys.length cy)) _ _):=Kid.sets (Kid.set Kys.out (q:=⟨B,7,none⟩) (Nat.le_refl _) _) (by omega) [.int .i64 14,.int .i64 0,.int .i64 0,.int .i64 0,.int .i64 nk,.int .i64 0,.slice ax xs.length cx,.slice ay ys.length cy] 0
  clear Kys
  clear y0 u0 v0 y1 u1 v1 y2 u2 v2 y3 u3 v3 y4 u4 v4 y5 u5 v5 y6 u6 v6 y7 u7 v7
  generalize (((((((((w8.setCell ⟨B,7,none⟩ (.slice ay ys.length cy)).setCell ⟨w.heap.size,0,none⟩ (.int .i64 14)).setCell ⟨w.heap.size,1,none⟩ (.int .i64 0)).setCell ⟨w.heap.size,2,none⟩ (.int .i64 0)).setCell ⟨w.heap.size,3,none⟩ (.int .i64 0)).setCell ⟨w.heap.size,4,none⟩ (.int .i64 nk)).setCell ⟨w.heap.size,5,none⟩ (.int .i64 0)).setCell ⟨w.heap.size,6,none⟩ (.slice ax xs.length cx)).setCell ⟨w.heap.size,7,none⟩ (.slice ay ys.length cy))=w9 at DD DKxsG79_ DKys ⊢
  obtain ⟨D1,D2,D3⟩:=DD.out
  obtain ⟨x0,x1,x2,x3,x4,x5,x6,x7⟩:=cells8 D1
  exact bodyPost_ret (v:=.agg #[.int .i64 14,.int .i64 0,.int .i64 0,.int .i64 0,.int .i64 nk,.int .i64 0,.slice ax xs.length cx,.slice ay ys.length cy]) (by simp [results,Tryz.results114,go_sem,x0,x1,x2,x3,x4,x5,x6,x7]) rfl (Out.good (by rw [HE.out,nums1_eq,E5.out,PR.ok_andThen,E6.out,PR.ok_andThen,E8.out,PR.ok_andThen];rfl) (⟨ax,cx,ay,cy,rfl,ins_mk (x:=(⟨14,0,0,0,nk,0,xs,ys⟩:MIns)) (Kid.out DKxsG79_.out (by omega)) (Kid.out DKys.out (by omega)) ⟨lit_i64 14 (by decide),lit_i64 0 (by decide),lit_i64 0 (by decide),lit_i64 0 (by decide),i64_of Bnk.out,lit_i64 0 (by decide)⟩⟩) D2 D3)
theorem pins_any {w : World} {b e p : Nat} {l : List Tk} (h : PAt w b l e p) (h0 : whichP l opWords p ≠ 0) :
    Calls Tryz.prog 114 #[ptrP b] w fun en w'=>Out b e l (insFields l e (whichP l opWords p) (p+1)) w (VIns w) en w':=by
  have hle:=which_le (l:=l) (p:=p) opWords
  have h14:opWords.length=14:=rfl
  match hk:whichP l opWords p with
  | 0=>exact absurd hk h0
  | 1=>exact pins_k1 h hk
  | 2 =>
    by_cases hj:whichP l kindWords (p+1)=0
    · exact pins_k2z h hk hj
    · exact pins_k2s h hk rfl hj
  | 3=>exact pins_k3 h hk
  | 4=>exact pins_k4 h hk
  | 5=>exact pins_k5 h hk
  | 6=>exact pins_k6 h hk
  | 7=>exact pins_k7 h hk
  | 8=>exact pins_k8 h hk
  | 9=>exact pins_k9 h hk
  | 10=>exact pins_k10 h hk
  | 11=>exact pins_k11 h hk
  | 12=>exact pins_k12 h hk
  | 13=>exact pins_k13 h hk
  | 14=>exact pins_k14 h hk
  | n+15=>omega
def endP (l : List Tk) (e p : Nat) : PR MEnd :=
  if isW l wJump p then PR.andThen (toP l e (p+1)) fun t q=>.ok (⟨1,0,t,noTo,[]⟩,q)
     else if isW l wIf p then PR.andThen (numP l e (p+1)) fun a p1=>PR.andThen (mustP l e wTo p1) fun _ p2=>PR.andThen (toP l e p2) fun t p3=>PR.andThen (mustP l e wElse p3) fun _ p4=>PR.andThen (toP l e p4) fun u p5=>.ok (⟨2,a,t,u,[]⟩,p5)
     else PR.andThen (mustP l e wRet p) fun _ p1=>PR.andThen (argsP l e p1) fun x p2=>.ok (⟨3,0,noTo,noTo,x⟩,p2)
theorem ends_eq {l : List Tk} {e p : Nat} : endsP l e p = PR.andThen (endP l e p) fun x p1 => PR.andThen (mustP l e [59] p1) fun _ p2 => .ok (x, p2) := rfl
theorem noTo_inP (w : World) (O : Nat → Prop) : toL.In w O noTo [.int .i64 0, .slice none 0 0, .slice none 0 0] := to_mk (Lay.list_nil _ _ _ _ _) (Lay.list_nil _ _ _ _ _) ⟨by decide, by decide⟩
section
variable {l : List Tk} {e p : Nat}
theorem end_k0 (h : whichP l endWords p = 0) : ∃ x, endP l e p = .error x := by
  have h1:=which_none h
  rw [endP,if_neg (by simp [h1 wJump (by decide)]),if_neg (by simp [h1 wIf (by decide)]),mustP,if_neg (by simp [h1 wRet (by decide)])]
  exact ⟨_,rfl⟩
theorem end_k1 (h : whichP l endWords p = 1) : endP l e p = PR.andThen (toP l e (p + 1)) fun t q => (.ok ((⟨1, 0, t, noTo, []⟩ : MEnd), q) : PR MEnd) := by
  obtain ⟨s,hs,hw⟩:=which_is (i:=0) h
  injection hs with hs;subst hs
  rw [endP,if_pos hw]
theorem end_k2 (h : whichP l endWords p = 2) : endP l e p = PR.andThen (numP l e (p + 1)) fun a p1 => PR.andThen (mustP l e wTo p1) fun _ p2 => PR.andThen (toP l e p2) fun t p3 => PR.andThen (mustP l e wElse p3) fun _ p4 => PR.andThen (toP l e p4) fun u p5 => (.ok ((⟨2, a, t, u, []⟩ : MEnd), p5) : PR MEnd) := by
  obtain ⟨s,hs,hw⟩:=which_is (i:=1) h
  injection hs with hs;subst hs
  rw [endP,if_neg (by simp [isW_other hw (t:=wJump) (by decide)]),if_pos hw]
theorem end_k3 (h : whichP l endWords p = 3) : endP l e p = PR.andThen (argsP l e (p + 1)) fun x p2 => (.ok ((⟨3, 0, noTo, noTo, x⟩ : MEnd), p2) : PR MEnd) := by
  obtain ⟨s,hs,hw⟩:=which_is (i:=2) h
  injection hs with hs;subst hs
  rw [endP,if_neg (by simp [isW_other hw (t:=wJump) (by decide)]),if_neg (by simp [isW_other hw (t:=wIf) (by decide)]),mustP,if_pos hw,PR.ok_andThen]
end
def VEnd (w0 : World) : World → MEnd → Value → Prop := fun w' x v => ∃ a1 c1 a2 c2 a3 c3 a4 c4 a5 c5, v = .agg #[.int .i64 x.op, .int .i64 x.a, .int .i64 x.yes.block, .slice a1 x.yes.regs.length c1, .slice a2 x.yes.args.length c2, .int .i64 x.no.block, .slice a3 x.no.regs.length c3, .slice a4 x.no.args.length c4, .slice a5 x.args.length c5] ∧ endL.In w' (fun g => w0.heap.size ≤ g) x [.int .i64 x.op, .int .i64 x.a, .int .i64 x.yes.block, .slice a1 x.yes.regs.length c1, .slice a2 x.yes.args.length c2, .int .i64 x.no.block, .slice a3 x.no.regs.length c3, .slice a4 x.no.args.length c4, .slice a5 x.args.length c5]
theorem pend_k1 {w : World} {b e p : Nat} {l : List Tk} (h : PAt w b l e p) (hk : whichP l endWords p = 1) :
    Calls Tryz.prog 115 #[ptrP b] w fun en w'=>Out b e l (endP l e p) w (VEnd w) en w':=by
  have hbw:=h.lt
  have HL:Hid (p < l.length):=which_lt (by rw [hk];decide)
  have HE:Hid (endP l e p=PR.andThen (toP l e (p+1)) fun t q=>(.ok ((⟨1,0,t,noTo,[]⟩:MEnd),q):PR MEnd)):=end_k1 hk
  have S1:Hid (PAt (w.alloc (.cells #[.int .i64 0,.int .i64 0,.int .i64 0,.slice none 0 0,.slice none 0 0,.int .i64 0,.slice none 0 0,.slice none 0 0,.slice none 0 0] 46)) _ _ _ _∧_∧_):=begins h
  have C:Hid (∀ w1:World,PAt w1 b l e p→Calls Tryz.prog 135 #[ptrP b,.func (.func 139) #[] #[]] w1 fun en w'=>en=.returned (.int .i64 1)∧Below w1.heap.size w1 w'):=fun w1 h1=>which_told enters_endWord pendWord_any endWords_wordly (by decide) hk (by decide) h1
  clear h hk
  go_enter Tryz.func115,Tryz.ntmps115
  go_wp2_with fail
  generalize w.alloc (.cells #[.int .i64 0,.int .i64 0,.int .i64 0,.slice none 0 0,.slice none 0 0,.int .i64 0,.slice none 0 0,.slice none 0 0,.slice none 0 0] 46)=w1 at S1 ⊢
  refine (C.out w1 S1.out.1).mono ?_
  rintro e' w2 ⟨rfl,b2⟩
  have F0:Hid (FB w (w2.alloc (.cells #[.int .i64 1,.int .i64 0,.int .i64 0,.slice none 0 0,.slice none 0 0,.int .i64 0,.slice none 0 0,.slice none 0 0,.slice none 0 0] 46)) b e l p w.heap.size w2.heap.size _ #[.int .i64 1,.int .i64 0,.int .i64 0,.slice none 0 0,.slice none 0 0,.int .i64 0,.slice none 0 0,.slice none 0 0,.slice none 0 0] 46):=FB.beside _ (S1.out.1.below b2) (S1.out.2.1.below b2) (S1.out.2.2.trans (Chg.below b2)) hbw (Nat.le_refl _)
  clear b2 S1 C
  go_wp2_with fail
  generalize w2.alloc (.cells #[.int .i64 1,.int .i64 0,.int .i64 0,.slice none 0 0,.slice none 0 0,.int .i64 0,.slice none 0 0,.slice none 0 0,.slice none 0 0] 46)=w3 at F0 ⊢
  generalize w2.heap.size=B at F0 ⊢
  have hRB:w.heap.size < B:=F0.out.RB
  refine (take_any F0.out.rd HL.out).mono ?_
  rintro e' w4 ⟨rfl,r4,k4⟩
  have F4:Hid (FB _ _ _ _ _ _ _ _ _ _ _):=F0.out.call r4 k4
  have y0:=cellOf F4.out.box 0 _ rfl
  clear r4 k4 F0
  go_wp2_with fail
  refine (pto_any F4.out.rd).mono ?_
  intro e' w5 hO
  rcases hO with ⟨ty,p5,x5,m5,rfl,⟨qaty,qcty,qbty,qdty,rfl,hi5⟩,r5,k5⟩ | ⟨y,c',a',m5,rfl,hc',k5⟩
  rotate_left
  · exact ⟨rfl,Out.bad (by rw [HE.out,m5];rfl) hc' (F4.out.chg.trans k5)⟩
  have E5:Hid (toP l e (p+1)=.ok (ty,p5)):=m5
  have G5:Hid (FB _ _ _ _ _ _ _ _ _ _ _):=F4.out.call r5 k5
  have Kty:Hid (Kid toL B w5 ty [.int .i64 ty.block,.slice qaty ty.regs.length qcty,.slice qbty ty.args.length qdty]):=Kid.mk hi5 F4.out.lt
  clear hi5
  clear m5 r5 k5 F4
  obtain ⟨y0,y1,y2,y3,y4,y5,y6,y7,y8⟩:=cells9 G5.out.box
  obtain ⟨u0,u1,u2,u3,u4,u5,u6,u7,u8⟩:=cells9 G5.out.res
  obtain ⟨v0,v1,v2,v3,v4,v5,v6,v7,v8⟩:=frees9 G5.out.res
  have z2:=freeOf G5.out.box 2
  have z3:=freeOf G5.out.box 3
  have z4:=freeOf G5.out.box 4
  have hne:¬ B=w.heap.size:=by omega
  go_wp2
  have DD:Hid (FinD _ _ _ _ _ _ _ #[.int .i64 1,.int .i64 0,.int .i64 ty.block,.slice qaty ty.regs.length qcty,.slice qbty ty.args.length qdty,.int .i64 0,.slice none 0 0,.slice none 0 0,.slice none 0 0] ((((((((((((w5.setCell ⟨B,2,none⟩ (.int .i64 ty.block)).setCell ⟨B,3,none⟩ (.slice qaty ty.regs.length qcty)).setCell ⟨B,4,none⟩ (.slice qbty ty.args.length qdty)).setCell ⟨w.heap.size,0,none⟩ (.int .i64 1)).setCell ⟨w.heap.size,1,none⟩ (.int .i64 0)).setCell ⟨w.heap.size,2,none⟩ (.int .i64 ty.block)).setCell ⟨w.heap.size,3,none⟩ (.slice qaty ty.regs.length qcty)).setCell ⟨w.heap.size,4,none⟩ (.slice qbty ty.args.length qdty)).setCell ⟨w.heap.size,5,none⟩ (.int .i64 0)).setCell ⟨w.heap.size,6,none⟩ (.slice none 0 0)).setCell ⟨w.heap.size,7,none⟩ (.slice none 0 0)).setCell ⟨w.heap.size,8,none⟩ (.slice none 0 0))):=FB.fin (FB.set (FB.set (FB.set G5.out 2 (.int .i64 ty.block)) 3 (.slice qaty ty.regs.length qcty)) 4 (.slice qbty ty.args.length qdty)) [.int .i64 1,.int .i64 0,.int .i64 ty.block,.slice qaty ty.regs.length qcty,.slice qbty ty.args.length qdty,.int .i64 0,.slice none 0 0,.slice none 0 0,.slice none 0 0] rfl
  have DKty:Hid (Kid _ _ ((((((((((((w5.setCell ⟨B,2,none⟩ (.int .i64 ty.block)).setCell ⟨B,3,none⟩ (.slice qaty ty.regs.length qcty)).setCell ⟨B,4,none⟩ (.slice qbty ty.args.length qdty)).setCell ⟨w.heap.size,0,none⟩ (.int .i64 1)).setCell ⟨w.heap.size,1,none⟩ (.int .i64 0)).setCell ⟨w.heap.size,2,none⟩ (.int .i64 ty.block)).setCell ⟨w.heap.size,3,none⟩ (.slice qaty ty.regs.length qcty)).setCell ⟨w.heap.size,4,none⟩ (.slice qbty ty.args.length qdty)).setCell ⟨w.heap.size,5,none⟩ (.int .i64 0)).setCell ⟨w.heap.size,6,none⟩ (.slice none 0 0)).setCell ⟨w.heap.size,7,none⟩ (.slice none 0 0)).setCell ⟨w.heap.size,8,none⟩ (.slice none 0 0)) _ _):=Kid.sets (Kid.set (Kid.set (Kid.set Kty.out (q:=⟨B,2,none⟩) (Nat.le_refl _) _) (q:=⟨B,3,none⟩) (Nat.le_refl _) _) (q:=⟨B,4,none⟩) (Nat.le_refl _) _) (by omega) [.int .i64 1,.int .i64 0,.int .i64 ty.block,.slice qaty ty.regs.length qcty,.slice qbty ty.args.length qdty,.int .i64 0,.slice none 0 0,.slice none 0 0,.slice none 0 0] 0
  clear Kty
  clear y0 u0 v0 y1 u1 v1 y2 u2 v2 y3 u3 v3 y4 u4 v4 y5 u5 v5 y6 u6 v6 y7 u7 v7 y8 u8 v8
  generalize ((((((((((((w5.setCell ⟨B,2,none⟩ (.int .i64 ty.block)).setCell ⟨B,3,none⟩ (.slice qaty ty.regs.length qcty)).setCell ⟨B,4,none⟩ (.slice qbty ty.args.length qdty)).setCell ⟨w.heap.size,0,none⟩ (.int .i64 1)).setCell ⟨w.heap.size,1,none⟩ (.int .i64 0)).setCell ⟨w.heap.size,2,none⟩ (.int .i64 ty.block)).setCell ⟨w.heap.size,3,none⟩ (.slice qaty ty.regs.length qcty)).setCell ⟨w.heap.size,4,none⟩ (.slice qbty ty.args.length qdty)).setCell ⟨w.heap.size,5,none⟩ (.int .i64 0)).setCell ⟨w.heap.size,6,none⟩ (.slice none 0 0)).setCell ⟨w.heap.size,7,none⟩ (.slice none 0 0)).setCell ⟨w.heap.size,8,none⟩ (.slice none 0 0))=w9 at DD DKty ⊢
  obtain ⟨D1,D2,D3⟩:=DD.out
  obtain ⟨x0,x1,x2,x3,x4,x5,x6,x7,x8⟩:=cells9 D1
  exact bodyPost_ret (v:=.agg #[.int .i64 1,.int .i64 0,.int .i64 ty.block,.slice qaty ty.regs.length qcty,.slice qbty ty.args.length qdty,.int .i64 0,.slice none 0 0,.slice none 0 0,.slice none 0 0]) (by simp [results,Tryz.results115,go_sem,x0,x1,x2,x3,x4,x5,x6,x7,x8]) rfl (Out.good (by rw [HE.out,E5.out,PR.ok_andThen]) (⟨qaty,qcty,qbty,qdty,none,0,none,0,none,0,rfl,end_mk (x:=⟨1,0,ty,noTo,[]⟩) (Kid.out DKty.out (by omega)) (noTo_inP _ _) (Lay.list_nil _ _ _ _ _) ⟨lit_i64 1 (by decide),lit_i64 0 (by decide)⟩⟩) D2 D3)
theorem pend_k2 {w : World} {b e p : Nat} {l : List Tk} (h : PAt w b l e p) (hk : whichP l endWords p = 2) :
    Calls Tryz.prog 115 #[ptrP b] w fun en w'=>Out b e l (endP l e p) w (VEnd w) en w':=by
  have hbw:=h.lt
  have HL:Hid (p < l.length):=which_lt (by rw [hk];decide)
  have HE:Hid (endP l e p=PR.andThen (numP l e (p+1)) fun a p1=>PR.andThen (mustP l e wTo p1) fun _ p2=>PR.andThen (toP l e p2) fun t p3=>PR.andThen (mustP l e wElse p3) fun _ p4=>PR.andThen (toP l e p4) fun u p5=>(.ok ((⟨2,a,t,u,[]⟩:MEnd),p5):PR MEnd)):=end_k2 hk
  have S1:Hid (PAt (w.alloc (.cells #[.int .i64 0,.int .i64 0,.int .i64 0,.slice none 0 0,.slice none 0 0,.int .i64 0,.slice none 0 0,.slice none 0 0,.slice none 0 0] 46)) _ _ _ _∧_∧_):=begins h
  have C:Hid (∀ w1:World,PAt w1 b l e p→Calls Tryz.prog 135 #[ptrP b,.func (.func 139) #[] #[]] w1 fun en w'=>en=.returned (.int .i64 2)∧Below w1.heap.size w1 w'):=fun w1 h1=>which_told enters_endWord pendWord_any endWords_wordly (by decide) hk (by decide) h1
  clear h hk
  go_enter Tryz.func115,Tryz.ntmps115
  go_wp2_with fail
  generalize w.alloc (.cells #[.int .i64 0,.int .i64 0,.int .i64 0,.slice none 0 0,.slice none 0 0,.int .i64 0,.slice none 0 0,.slice none 0 0,.slice none 0 0] 46)=w1 at S1 ⊢
  refine (C.out w1 S1.out.1).mono ?_
  rintro e' w2 ⟨rfl,b2⟩
  have F0:Hid (FB w (w2.alloc (.cells #[.int .i64 2,.int .i64 0,.int .i64 0,.slice none 0 0,.slice none 0 0,.int .i64 0,.slice none 0 0,.slice none 0 0,.slice none 0 0] 46)) b e l p w.heap.size w2.heap.size _ #[.int .i64 2,.int .i64 0,.int .i64 0,.slice none 0 0,.slice none 0 0,.int .i64 0,.slice none 0 0,.slice none 0 0,.slice none 0 0] 46):=FB.beside _ (S1.out.1.below b2) (S1.out.2.1.below b2) (S1.out.2.2.trans (Chg.below b2)) hbw (Nat.le_refl _)
  clear b2 S1 C
  go_wp2_with fail
  generalize w2.alloc (.cells #[.int .i64 2,.int .i64 0,.int .i64 0,.slice none 0 0,.slice none 0 0,.int .i64 0,.slice none 0 0,.slice none 0 0,.slice none 0 0] 46)=w3 at F0 ⊢
  generalize w2.heap.size=B at F0 ⊢
  have hRB:w.heap.size < B:=F0.out.RB
  refine (take_any F0.out.rd HL.out).mono ?_
  rintro e' w4 ⟨rfl,r4,k4⟩
  have F4:Hid (FB _ _ _ _ _ _ _ _ _ _ _):=F0.out.call r4 k4
  have y0:=cellOf F4.out.box 0 _ rfl
  clear r4 k4 F0
  go_wp2_with fail
  refine (FB.callNums F4.out [1] (by simp) rfl (by decide) (by simp)).mono ?_
  intro e' w5 hO
  rcases hO with ⟨ns,p5,m5,rfl,hx5,r5,k5⟩ | ⟨y,c',a',m5,rfl,hc',k5⟩
  rotate_left
  · exact ⟨rfl,Out.bad (by rw [HE.out,nums1_eq,show numsP l e 1 (p+1)=_ from m5];rfl) hc' k5⟩
  have hl5:=nums_len m5
  obtain ⟨na,rfl⟩:∃ na,ns=[na]:=by
    match ns,hl5 with
    | [na],_=>exact ⟨na,rfl⟩
  have Bna:Hid (0≤na∧na≤1000000):=hx5 na (by simp)
  have E5:Hid (numsP l e 1 (p+1)=.ok ([na],p5)):=m5
  have G5:Hid (FB _ _ _ _ _ _ _ _ _ #[.int .i64 2,.int .i64 na,.int .i64 0,.slice none 0 0,.slice none 0 0,.int .i64 0,.slice none 0 0,.slice none 0 0,.slice none 0 0] _):=r5
  clear m5 r5 k5 hx5 hl5 F4
  go_wp2_with fail
  refine (pmust_any wTo (by decide) G5.out.rd).mono ?_
  intro e' w6 hO
  rcases hO with ⟨⟨⟩,p6,x6,m6,rfl,rfl,r6,k6⟩ | ⟨y,c',a',m6,rfl,hc',k6⟩
  rotate_left
  · exact ⟨rfl,Out.bad (by rw [HE.out,nums1_eq,E5.out,PR.ok_andThen,m6];rfl) hc' (G5.out.chg.trans k6)⟩
  have E6:Hid (mustP l e wTo p5=.ok ((),p6)):=m6
  have G6:Hid (FB _ _ _ _ _ _ _ _ _ _ _):=G5.out.call r6 k6
  clear m6 r6 k6 G5
  go_wp2_with fail
  refine (pto_any G6.out.rd).mono ?_
  intro e' w7 hO
  rcases hO with ⟨ty,p7,x7,m7,rfl,⟨qaty,qcty,qbty,qdty,rfl,hi7⟩,r7,k7⟩ | ⟨y,c',a',m7,rfl,hc',k7⟩
  rotate_left
  · exact ⟨rfl,Out.bad (by rw [HE.out,nums1_eq,E5.out,PR.ok_andThen,E6.out,PR.ok_andThen,m7];rfl) hc' (G6.out.chg.trans k7)⟩
  have E7:Hid (toP l e p6=.ok (ty,p7)):=m7
  have G7:Hid (FB _ _ _ _ _ _ _ _ _ _ _):=G6.out.call r7 k7
  have Kty:Hid (Kid toL B w7 ty [.int .i64 ty.block,.slice qaty ty.regs.length qcty,.slice qbty ty.args.length qdty]):=Kid.mk hi7 G6.out.lt
  clear hi7
  clear m7 r7 k7 G6
  have y2:=cellOf G7.out.box 2 _ rfl
  have z2:=freeOf G7.out.box 2
  have y3:=cellOf G7.out.box 3 _ rfl
  have z3:=freeOf G7.out.box 3
  have y4:=cellOf G7.out.box 4 _ rfl
  have z4:=freeOf G7.out.box 4
  go_wp2_with fail
  have G8:Hid (FB _ (((w7.setCell ⟨B,2,none⟩ (.int .i64 ty.block)).setCell ⟨B,3,none⟩ (.slice qaty ty.regs.length qcty)).setCell ⟨B,4,none⟩ (.slice qbty ty.args.length qdty)) _ _ _ _ _ _ _ #[.int .i64 2,.int .i64 na,.int .i64 ty.block,.slice qaty ty.regs.length qcty,.slice qbty ty.args.length qdty,.int .i64 0,.slice none 0 0,.slice none 0 0,.slice none 0 0] _):=(FB.set (FB.set (FB.set G7.out 2 (.int .i64 ty.block)) 3 (.slice qaty ty.regs.length qcty)) 4 (.slice qbty ty.args.length qdty))
  have KtyG8:Hid (Kid _ _ (((w7.setCell ⟨B,2,none⟩ (.int .i64 ty.block)).setCell ⟨B,3,none⟩ (.slice qaty ty.regs.length qcty)).setCell ⟨B,4,none⟩ (.slice qbty ty.args.length qdty)) _ _):=(Kid.set (Kid.set (Kid.set Kty.out (q:=⟨B,2,none⟩) (Nat.le_refl _) _) (q:=⟨B,3,none⟩) (Nat.le_refl _) _) (q:=⟨B,4,none⟩) (Nat.le_refl _) _)
  clear Kty
  generalize (((w7.setCell ⟨B,2,none⟩ (.int .i64 ty.block)).setCell ⟨B,3,none⟩ (.slice qaty ty.regs.length qcty)).setCell ⟨B,4,none⟩ (.slice qbty ty.args.length qdty))=w8 at G8 KtyG8 ⊢
  clear y2 z2 y3 z3 y4 z4 G7
  refine (pmust_any wElse (by decide) G8.out.rd).mono ?_
  intro e' w9 hO
  rcases hO with ⟨u,p9,x9,m9,rfl,rfl,r9,k9⟩ | ⟨y,c',a',m9,rfl,hc',k9⟩
  rotate_left
  · exact ⟨rfl,Out.bad (by rw [HE.out,nums1_eq,E5.out,PR.ok_andThen,E6.out,PR.ok_andThen,E7.out,PR.ok_andThen,m9];rfl) hc' (G8.out.chg.trans k9)⟩
  have E9:Hid (mustP l e wElse p7=.ok ((),p9)):=m9
  have G9:Hid (FB _ _ _ _ _ _ _ _ _ _ _):=G8.out.call r9 k9
  have KtyG810_:Hid (Kid _ _ _ _ _):=KtyG8.out.chg k9 (by omega)
  clear KtyG8
  clear m9 r9 k9 G8
  go_wp2_with fail
  refine (pto_any G9.out.rd).mono ?_
  intro e' w11 hO
  rcases hO with ⟨tn,p11,x11,m11,rfl,⟨qatn,qctn,qbtn,qdtn,rfl,hi11⟩,r11,k11⟩ | ⟨y,c',a',m11,rfl,hc',k11⟩
  rotate_left
  · exact ⟨rfl,Out.bad (by rw [HE.out,nums1_eq,E5.out,PR.ok_andThen,E6.out,PR.ok_andThen,E7.out,PR.ok_andThen,E9.out,PR.ok_andThen,m11];rfl) hc' (G9.out.chg.trans k11)⟩
  have E11:Hid (toP l e p9=.ok (tn,p11)):=m11
  have G11:Hid (FB _ _ _ _ _ _ _ _ _ _ _):=G9.out.call r11 k11
  have KtyG810_12_:Hid (Kid _ _ _ _ _):=KtyG810_.out.chg k11 (by omega)
  clear KtyG810_
  have Ktn:Hid (Kid toL B w11 tn [.int .i64 tn.block,.slice qatn tn.regs.length qctn,.slice qbtn tn.args.length qdtn]):=Kid.mk hi11 G9.out.lt
  clear hi11
  clear m11 r11 k11 G9
  obtain ⟨y0,y1,y2,y3,y4,y5,y6,y7,y8⟩:=cells9 G11.out.box
  obtain ⟨u0,u1,u2,u3,u4,u5,u6,u7,u8⟩:=cells9 G11.out.res
  obtain ⟨v0,v1,v2,v3,v4,v5,v6,v7,v8⟩:=frees9 G11.out.res
  have z5:=freeOf G11.out.box 5
  have z6:=freeOf G11.out.box 6
  have z7:=freeOf G11.out.box 7
  have hne:¬ B=w.heap.size:=by omega
  go_wp2
  have DD:Hid (FinD _ _ _ _ _ _ _ #[.int .i64 2,.int .i64 na,.int .i64 ty.block,.slice qaty ty.regs.length qcty,.slice qbty ty.args.length qdty,.int .i64 tn.block,.slice qatn tn.regs.length qctn,.slice qbtn tn.args.length qdtn,.slice none 0 0] ((((((((((((w11.setCell ⟨B,5,none⟩ (.int .i64 tn.block)).setCell ⟨B,6,none⟩ (.slice qatn tn.regs.length qctn)).setCell ⟨B,7,none⟩ (.slice qbtn tn.args.length qdtn)).setCell ⟨w.heap.size,0,none⟩ (.int .i64 2)).setCell ⟨w.heap.size,1,none⟩ (.int .i64 na)).setCell ⟨w.heap.size,2,none⟩ (.int .i64 ty.block)).setCell ⟨w.heap.size,3,none⟩ (.slice qaty ty.regs.length qcty)).setCell ⟨w.heap.size,4,none⟩ (.slice qbty ty.args.length qdty)).setCell ⟨w.heap.size,5,none⟩ (.int .i64 tn.block)).setCell ⟨w.heap.size,6,none⟩ (.slice qatn tn.regs.length qctn)).setCell ⟨w.heap.size,7,none⟩ (.slice qbtn tn.args.length qdtn)).setCell ⟨w.heap.size,8,none⟩ (.slice none 0 0))):=FB.fin (FB.set (FB.set (FB.set G11.out 5 (.int .i64 tn.block)) 6 (.slice qatn tn.regs.length qctn)) 7 (.slice qbtn tn.args.length qdtn)) [.int .i64 2,.int .i64 na,.int .i64 ty.block,.slice qaty ty.regs.length qcty,.slice qbty ty.args.length qdty,.int .i64 tn.block,.slice qatn tn.regs.length qctn,.slice qbtn tn.args.length qdtn,.slice none 0 0] rfl
  have DKtyG810_12_:Hid (Kid _ _ ((((((((((((w11.setCell ⟨B,5,none⟩ (.int .i64 tn.block)).setCell ⟨B,6,none⟩ (.slice qatn tn.regs.length qctn)).setCell ⟨B,7,none⟩ (.slice qbtn tn.args.length qdtn)).setCell ⟨w.heap.size,0,none⟩ (.int .i64 2)).setCell ⟨w.heap.size,1,none⟩ (.int .i64 na)).setCell ⟨w.heap.size,2,none⟩ (.int .i64 ty.block)).setCell ⟨w.heap.size,3,none⟩ (.slice qaty ty.regs.length qcty)).setCell ⟨w.heap.size,4,none⟩ (.slice qbty ty.args.length qdty)).setCell ⟨w.heap.size,5,none⟩ (.int .i64 tn.block)).setCell ⟨w.heap.size,6,none⟩ (.slice qatn tn.regs.length qctn)).setCell ⟨w.heap.size,7,none⟩ (.slice qbtn tn.args.length qdtn)).setCell ⟨w.heap.size,8,none⟩ (.slice none 0 0)) _ _):=Kid.sets (Kid.set (Kid.set (Kid.set KtyG810_12_.out (q:=⟨B,5,none⟩) (Nat.le_refl _) _) (q:=⟨B,6,none⟩) (Nat.le_refl _) _) (q:=⟨B,7,none⟩) (Nat.le_refl _) _) (by omega) [.int .i64 2,.int .i64 na,.int .i64 ty.block,.slice qaty ty.regs.length qcty,.slice qbty ty.args.length qdty,.int .i64 tn.block,.slice qatn tn.regs.length qctn,.slice qbtn tn.args.length qdtn,.slice none 0 0] 0
  clear KtyG810_12_
  have DKtn:Hid (Kid _ _ ((((((((((((w11.setCell ⟨B,5,none⟩ (.int .i64 tn.block)).setCell ⟨B,6,none⟩ (.slice qatn tn.regs.length qctn)).setCell ⟨B,7,none⟩ (.slice qbtn tn.args.length qdtn)).setCell ⟨w.heap.size,0,none⟩ (.int .i64 2)).setCell ⟨w.heap.size,1,none⟩ (.int .i64 na)).setCell ⟨w.heap.size,2,none⟩ (.int .i64 ty.block)).setCell ⟨w.heap.size,3,none⟩ (.slice qaty ty.regs.length qcty)).setCell ⟨w.heap.size,4,none⟩ (.slice qbty ty.args.length qdty)).setCell ⟨w.heap.size,5,none⟩ (.int .i64 tn.block)).setCell ⟨w.heap.size,6,none⟩ (.slice qatn tn.regs.length qctn)).setCell ⟨w.heap.size,7,none⟩ (.slice qbtn tn.args.length qdtn)).setCell ⟨w.heap.size,8,none⟩ (.slice none 0 0)) _ _):=Kid.sets (Kid.set (Kid.set (Kid.set Ktn.out (q:=⟨B,5,none⟩) (Nat.le_refl _) _) (q:=⟨B,6,none⟩) (Nat.le_refl _) _) (q:=⟨B,7,none⟩) (Nat.le_refl _) _) (by omega) [.int .i64 2,.int .i64 na,.int .i64 ty.block,.slice qaty ty.regs.length qcty,.slice qbty ty.args.length qdty,.int .i64 tn.block,.slice qatn tn.regs.length qctn,.slice qbtn tn.args.length qdtn,.slice none 0 0] 0
  clear Ktn
  clear y0 u0 v0 y1 u1 v1 y2 u2 v2 y3 u3 v3 y4 u4 v4 y5 u5 v5 y6 u6 v6 y7 u7 v7 y8 u8 v8
  generalize ((((((((((((w11.setCell ⟨B,5,none⟩ (.int .i64 tn.block)).setCell ⟨B,6,none⟩ (.slice qatn tn.regs.length qctn)).setCell ⟨B,7,none⟩ (.slice qbtn tn.args.length qdtn)).setCell ⟨w.heap.size,0,none⟩ (.int .i64 2)).setCell ⟨w.heap.size,1,none⟩ (.int .i64 na)).setCell ⟨w.heap.size,2,none⟩ (.int .i64 ty.block)).setCell ⟨w.heap.size,3,none⟩ (.slice qaty ty.regs.length qcty)).setCell ⟨w.heap.size,4,none⟩ (.slice qbty ty.args.length qdty)).setCell ⟨w.heap.size,5,none⟩ (.int .i64 tn.block)).setCell ⟨w.heap.size,6,none⟩ (.slice qatn tn.regs.length qctn)).setCell ⟨w.heap.size,7,none⟩ (.slice qbtn tn.args.length qdtn)).setCell ⟨w.heap.size,8,none⟩ (.slice none 0 0))=w9 at DD DKtyG810_12_ DKtn ⊢
  obtain ⟨D1,D2,D3⟩:=DD.out
  obtain ⟨x0,x1,x2,x3,x4,x5,x6,x7,x8⟩:=cells9 D1
  exact bodyPost_ret (v:=.agg #[.int .i64 2,.int .i64 na,.int .i64 ty.block,.slice qaty ty.regs.length qcty,.slice qbty ty.args.length qdty,.int .i64 tn.block,.slice qatn tn.regs.length qctn,.slice qbtn tn.args.length qdtn,.slice none 0 0]) (by simp [results,Tryz.results115,go_sem,x0,x1,x2,x3,x4,x5,x6,x7,x8]) rfl (Out.good (by rw [HE.out,nums1_eq,E5.out,PR.ok_andThen,E6.out,PR.ok_andThen,E7.out,PR.ok_andThen,E9.out,PR.ok_andThen,E11.out,PR.ok_andThen];rfl) (⟨qaty,qcty,qbty,qdty,qatn,qctn,qbtn,qdtn,none,0,rfl,end_mk (x:=⟨2,na,ty,tn,[]⟩) (Kid.out DKtyG810_12_.out (by omega)) (Kid.out DKtn.out (by omega)) (Lay.list_nil _ _ _ _ _) ⟨lit_i64 2 (by decide),i64_of Bna.out⟩⟩) D2 D3)
theorem pend_k3 {w : World} {b e p : Nat} {l : List Tk} (h : PAt w b l e p) (hk : whichP l endWords p = 3) :
    Calls Tryz.prog 115 #[ptrP b] w fun en w'=>Out b e l (endP l e p) w (VEnd w) en w':=by
  have hbw:=h.lt
  have HL:Hid (p < l.length):=which_lt (by rw [hk];decide)
  have HE:Hid (endP l e p=PR.andThen (argsP l e (p+1)) fun x p2=>(.ok ((⟨3,0,noTo,noTo,x⟩:MEnd),p2):PR MEnd)):=end_k3 hk
  have S1:Hid (PAt (w.alloc (.cells #[.int .i64 0,.int .i64 0,.int .i64 0,.slice none 0 0,.slice none 0 0,.int .i64 0,.slice none 0 0,.slice none 0 0,.slice none 0 0] 46)) _ _ _ _∧_∧_):=begins h
  have C:Hid (∀ w1:World,PAt w1 b l e p→Calls Tryz.prog 135 #[ptrP b,.func (.func 139) #[] #[]] w1 fun en w'=>en=.returned (.int .i64 3)∧Below w1.heap.size w1 w'):=fun w1 h1=>which_told enters_endWord pendWord_any endWords_wordly (by decide) hk (by decide) h1
  clear h hk
  go_enter Tryz.func115,Tryz.ntmps115
  go_wp2_with fail
  generalize w.alloc (.cells #[.int .i64 0,.int .i64 0,.int .i64 0,.slice none 0 0,.slice none 0 0,.int .i64 0,.slice none 0 0,.slice none 0 0,.slice none 0 0] 46)=w1 at S1 ⊢
  refine (C.out w1 S1.out.1).mono ?_
  rintro e' w2 ⟨rfl,b2⟩
  have F0:Hid (FB w (w2.alloc (.cells #[.int .i64 3,.int .i64 0,.int .i64 0,.slice none 0 0,.slice none 0 0,.int .i64 0,.slice none 0 0,.slice none 0 0,.slice none 0 0] 46)) b e l p w.heap.size w2.heap.size _ #[.int .i64 3,.int .i64 0,.int .i64 0,.slice none 0 0,.slice none 0 0,.int .i64 0,.slice none 0 0,.slice none 0 0,.slice none 0 0] 46):=FB.beside _ (S1.out.1.below b2) (S1.out.2.1.below b2) (S1.out.2.2.trans (Chg.below b2)) hbw (Nat.le_refl _)
  clear b2 S1 C
  go_wp2_with fail
  generalize w2.alloc (.cells #[.int .i64 3,.int .i64 0,.int .i64 0,.slice none 0 0,.slice none 0 0,.int .i64 0,.slice none 0 0,.slice none 0 0,.slice none 0 0] 46)=w3 at F0 ⊢
  generalize w2.heap.size=B at F0 ⊢
  have hRB:w.heap.size < B:=F0.out.RB
  refine (take_any F0.out.rd HL.out).mono ?_
  rintro e' w4 ⟨rfl,r4,k4⟩
  have F4:Hid (FB _ _ _ _ _ _ _ _ _ _ _):=F0.out.call r4 k4
  have y0:=cellOf F4.out.box 0 _ rfl
  clear r4 k4 F0
  go_wp2_with fail
  refine (pargs_any F4.out.rd).mono ?_
  intro e' w5 hO
  rcases hO with ⟨ys,p5,x5,m5,rfl,⟨ay,cy,rfl,hi5⟩,r5,k5⟩ | ⟨y,c',a',m5,rfl,hc',k5⟩
  rotate_left
  · exact ⟨rfl,Out.bad (by rw [HE.out,m5];rfl) hc' (F4.out.chg.trans k5)⟩
  have E5:Hid (argsP l e (p+1)=.ok (ys,p5)):=m5
  have G5:Hid (FB _ _ _ _ _ _ _ _ _ _ _):=F4.out.call r5 k5
  have Kys:Hid (Kid intsL B w5 ys [.slice ay ys.length cy]):=Kid.mk hi5 F4.out.lt
  clear hi5
  clear m5 r5 k5 F4
  obtain ⟨y0,y1,y2,y3,y4,y5,y6,y7,y8⟩:=cells9 G5.out.box
  obtain ⟨u0,u1,u2,u3,u4,u5,u6,u7,u8⟩:=cells9 G5.out.res
  obtain ⟨v0,v1,v2,v3,v4,v5,v6,v7,v8⟩:=frees9 G5.out.res
  have z8:=freeOf G5.out.box 8
  have hne:¬ B=w.heap.size:=by omega
  go_wp2
  have DD:Hid (FinD _ _ _ _ _ _ _ #[.int .i64 3,.int .i64 0,.int .i64 0,.slice none 0 0,.slice none 0 0,.int .i64 0,.slice none 0 0,.slice none 0 0,.slice ay ys.length cy] ((((((((((w5.setCell ⟨B,8,none⟩ (.slice ay ys.length cy)).setCell ⟨w.heap.size,0,none⟩ (.int .i64 3)).setCell ⟨w.heap.size,1,none⟩ (.int .i64 0)).setCell ⟨w.heap.size,2,none⟩ (.int .i64 0)).setCell ⟨w.heap.size,3,none⟩ (.slice none 0 0)).setCell ⟨w.heap.size,4,none⟩ (.slice none 0 0)).setCell ⟨w.heap.size,5,none⟩ (.int .i64 0)).setCell ⟨w.heap.size,6,none⟩ (.slice none 0 0)).setCell ⟨w.heap.size,7,none⟩ (.slice none 0 0)).setCell ⟨w.heap.size,8,none⟩ (.slice ay ys.length cy))):=FB.fin (FB.set G5.out 8 (.slice ay ys.length cy)) [.int .i64 3,.int .i64 0,.int .i64 0,.slice none 0 0,.slice none 0 0,.int .i64 0,.slice none 0 0,.slice none 0 0,.slice ay ys.length cy] rfl
  have DKys:Hid (Kid _ _ ((((((((((w5.setCell ⟨B,8,none⟩ (.slice ay ys.length cy)).setCell ⟨w.heap.size,0,none⟩ (.int .i64 3)).setCell ⟨w.heap.size,1,none⟩ (.int .i64 0)).setCell ⟨w.heap.size,2,none⟩ (.int .i64 0)).setCell ⟨w.heap.size,3,none⟩ (.slice none 0 0)).setCell ⟨w.heap.size,4,none⟩ (.slice none 0 0)).setCell ⟨w.heap.size,5,none⟩ (.int .i64 0)).setCell ⟨w.heap.size,6,none⟩ (.slice none 0 0)).setCell ⟨w.heap.size,7,none⟩ (.slice none 0 0)).setCell ⟨w.heap.size,8,none⟩ (.slice ay ys.length cy)) _ _):=Kid.sets (Kid.set Kys.out (q:=⟨B,8,none⟩) (Nat.le_refl _) _) (by omega) [.int .i64 3,.int .i64 0,.int .i64 0,.slice none 0 0,.slice none 0 0,.int .i64 0,.slice none 0 0,.slice none 0 0,.slice ay ys.length cy] 0
  clear Kys
  clear y0 u0 v0 y1 u1 v1 y2 u2 v2 y3 u3 v3 y4 u4 v4 y5 u5 v5 y6 u6 v6 y7 u7 v7 y8 u8 v8
  generalize ((((((((((w5.setCell ⟨B,8,none⟩ (.slice ay ys.length cy)).setCell ⟨w.heap.size,0,none⟩ (.int .i64 3)).setCell ⟨w.heap.size,1,none⟩ (.int .i64 0)).setCell ⟨w.heap.size,2,none⟩ (.int .i64 0)).setCell ⟨w.heap.size,3,none⟩ (.slice none 0 0)).setCell ⟨w.heap.size,4,none⟩ (.slice none 0 0)).setCell ⟨w.heap.size,5,none⟩ (.int .i64 0)).setCell ⟨w.heap.size,6,none⟩ (.slice none 0 0)).setCell ⟨w.heap.size,7,none⟩ (.slice none 0 0)).setCell ⟨w.heap.size,8,none⟩ (.slice ay ys.length cy))=w9 at DD DKys ⊢
  obtain ⟨D1,D2,D3⟩:=DD.out
  obtain ⟨x0,x1,x2,x3,x4,x5,x6,x7,x8⟩:=cells9 D1
  exact bodyPost_ret (v:=.agg #[.int .i64 3,.int .i64 0,.int .i64 0,.slice none 0 0,.slice none 0 0,.int .i64 0,.slice none 0 0,.slice none 0 0,.slice ay ys.length cy]) (by simp [results,Tryz.results115,go_sem,x0,x1,x2,x3,x4,x5,x6,x7,x8]) rfl (Out.good (by rw [HE.out,E5.out,PR.ok_andThen]) (⟨none,0,none,0,none,0,none,0,ay,cy,rfl,end_mk (x:=⟨3,0,noTo,noTo,ys⟩) (noTo_inP _ _) (noTo_inP _ _) (Kid.out DKys.out (by omega)) ⟨lit_i64 3 (by decide),lit_i64 0 (by decide)⟩⟩) D2 D3)
theorem pend_k0 {w : World} {b e p : Nat} {l : List Tk} (h : PAt w b l e p) (hk : whichP l endWords p = 0) :
    Calls Tryz.prog 115 #[ptrP b] w fun en w'=>Out b e l (endP l e p) w (VEnd w) en w':=by
  have hbw:=h.lt
  obtain ⟨y,hy⟩:=end_k0 (e:=e) hk
  have HE:Hid (endP l e p=.error y):=hy
  have H1:Hid (PAt (w.alloc (.cells #[.int .i64 0,.int .i64 0,.int .i64 0,.slice none 0 0,.slice none 0 0,.int .i64 0,.slice none 0 0,.slice none 0 0,.slice none 0 0] 46)) b l e p):=h.below (bel1 _ _)
  have K1:Hid (Chg b w (w.alloc (.cells #[.int .i64 0,.int .i64 0,.int .i64 0,.slice none 0 0,.slice none 0 0,.int .i64 0,.slice none 0 0,.slice none 0 0,.slice none 0 0] 46))):=Chg.below (bel1 _ _)
  have HK:Hid (whichP l endWords p=0):=hk
  clear h hk hy
  go_enter Tryz.func115,Tryz.ntmps115
  go_wp2_with fail
  generalize w.alloc (.cells #[.int .i64 0,.int .i64 0,.int .i64 0,.slice none 0 0,.slice none 0 0,.int .i64 0,.slice none 0 0,.slice none 0 0,.slice none 0 0] 46)=w1 at H1 K1 ⊢
  refine (pmustWhich_any 139 endWords enters_endWord pendWord_any endWords_wordly (by decide) H1.out).mono ?_
  intro e' w2 hO
  rcases hO with ⟨h0,_⟩ | ⟨_,⟨c,a,rfl,hc⟩,b2⟩
  · exact absurd HK.out h0
  · exact ⟨rfl,Out.bad HE.out hc (K1.out.trans (Chg.below b2))⟩
theorem pend_any {w : World} {b e p : Nat} {l : List Tk} (h : PAt w b l e p) :
    Calls Tryz.prog 115 #[ptrP b] w fun en w'=>Out b e l (endP l e p) w (VEnd w) en w':=by
  have hle:=which_le (l:=l) (p:=p) endWords
  have h3:endWords.length=3:=rfl
  match hk:whichP l endWords p with
  | 0=>exact pend_k0 h hk
  | 1=>exact pend_k1 h hk
  | 2=>exact pend_k2 h hk
  | 3=>exact pend_k3 h hk
  | n+4=>omega
def Upon (K : Act → World → Prop) (Q : Exit → Act → World → Prop) (o : Oper) (a : Act) : Ending → World → Prop
  | .returned u,w=>K (a.put o.dst u) w
  | .panicked chain,w=>Q (.panic chain) a w
  | .outgrown,_=>LetsOut Q
theorem step_call_fn {P : Program} {ops : Array Oper} {o : Oper} {a : Act} {w : World} {K : Act → World → Prop} {Q : Exit → Act → World → Prop} {E : Prop} (hgd : o.guard = none) (F : Nat) (x : Operand) (t : TypeId)
    (ho:o.op=.call { callee:=.value (.func F),args:=#[x],argTypes:=#[t] }) (hE:∀ (args:Array Value) (w:World),(callFunc F args).run P w=.ok (.enter F args) w) (v:Value) (hx:a.eval x=v) {R:Ending→World→Prop} (C:Calls P F #[v] w R)
    (h:∀ en w',R en w'→Upon K Q o a en w'):if Region.wanted o (yielded ops a.tmps)=true then Oper.wp P o a w K Q else E:=by
  have hw:Region.wanted o (yielded ops a.tmps)=true:=by simp [Region.wanted,hgd]
  rw [if_pos hw]
  unfold Oper.wp
  have e1:(execOp a.eval o).run P w=.ok (.enter F #[v]) w:=by
    have hf:a.eval (.func F)=.func (.func F) #[] #[]:=rfl
    unfold execOp
    simp [ho,resolve,invoke,Deferred.ofValue,hx,hE,hf,Result.andThen]
  rw [e1,Oper.upon_enter]
  refine C.mono fun en w' hO=>?_
  have:=h en w' hO
  cases en <;> exact this
theorem FB.drew {w0 w : World} {b e p R B : Nat} {l : List Tk} {rc bc : Array Value} {T : TypeId} (h : FB w0 w b e l p R B rc bc T) : FB w0 w.drew b e l p R B rc bc T :=
  ⟨h.rd.keep fun k _=>rfl,h.res,h.box,h.chg.drew,h.bR,h.RB,h.R0⟩
theorem enters_ins : Enters 114 := fun _ _ => by kernel_rfl
theorem enters_block : Enters 90 := fun _ _ => by kernel_rfl
theorem enters_function : Enters 70 := fun _ _ => by kernel_rfl
section
variable {l : List Tk} {e : Nat}
def PR.pre (xs : List MIns) : PR (List MIns × MEnd) → PR (List MIns × MEnd)
  | .ok ((ys,x),q)=>.ok ((xs++ys,x),q)
  | .error y=>.error y
structure CodeQ (l : List Tk) (e p0 p f : Nat) (xs : List MIns) : Prop where
  rest:codeP l e (l.length+1) p0=(codeP l e f p).pre xs
  fuel:l.length+1≤f+p
  le:p≤l.length
  cnt:xs.length≤p
theorem CodeQ.start {p0 : Nat} (h : p0 ≤ l.length) : CodeQ l e p0 p0 (l.length + 1) [] := by
  refine ⟨?_,by omega,h,by simp⟩
  cases codeP l e (l.length+1) p0 with
  | error y=>rfl
  | ok y=>obtain ⟨⟨ys,x⟩,q⟩:=y;rfl
variable {p0 p f : Nat} {xs : List MIns} {v : MIns}
theorem CodeQ.bad {y : Nat × Nat} (h : CodeQ l e p0 p f xs) (hw : whichP l opWords p ≠ 0) (h1 : insFields l e (whichP l opWords p) (p + 1) = .error y) : codeP l e (l.length + 1) p0 = .error y := by
  have h2:=h.fuel
  have h3:=h.le
  obtain ⟨g,rfl⟩:∃ g,f=g+1:=⟨f - 1,by omega⟩
  rw [h.rest,codeP,if_neg hw,insP,h1]
  rfl
theorem CodeQ.bad2 {y : Nat × Nat} {p1 : Nat} (h : CodeQ l e p0 p f xs) (hw : whichP l opWords p ≠ 0) (h1 : insFields l e (whichP l opWords p) (p + 1) = .ok (v, p1)) (h4 : mustP l e [59] p1 = .error y) : codeP l e (l.length + 1) p0 = .error y := by
  have h2:=h.fuel
  have h3:=h.le
  obtain ⟨g,rfl⟩:∃ g,f=g+1:=⟨f - 1,by omega⟩
  rw [h.rest,codeP,if_neg hw,insP,h1,PR.ok_andThen,h4]
  rfl
theorem CodeQ.go {p1 p2 : Nat} (h : CodeQ l e p0 p f xs) (hw : whichP l opWords p ≠ 0) (h1 : insFields l e (whichP l opWords p) (p + 1) = .ok (v, p1)) (h4 : mustP l e [59] p1 = .ok ((), p2)) (hp : p2 ≤ l.length) : CodeQ l e p0 p2 (f - 1) (xs ++ [v]) := by
  have h2:=h.fuel
  have h3:=h.le
  have h5:=h.cnt
  have hlt:=which_lt hw
  have hi:insP l e (whichP l opWords p) (p+1)=.ok (v,p2):=by rw [insP,h1,PR.ok_andThen,h4,PR.ok_andThen]
  have hm:=ins_mon _ _ _ _ (by omega) hi
  obtain ⟨g,rfl⟩:∃ g,f=g+1:=⟨f - 1,by omega⟩
  refine ⟨?_,by simp;omega,hp,by simp;omega⟩
  rw [h.rest,codeP,if_neg hw,hi,PR.ok_andThen,Nat.add_sub_cancel]
  cases codeP l e g p2 with
  | error y=>rfl
  | ok y=>obtain ⟨⟨ys,x⟩,q⟩:=y;simp [PR.pre,PR.andThen]
theorem CodeQ.stop (h : CodeQ l e p0 p f xs) (hw : whichP l opWords p = 0) : codeP l e (l.length + 1) p0 = PR.andThen (endsP l e p) fun x q => (.ok ((xs, x), q) : PR (List MIns × MEnd)) := by
  have h2:=h.fuel
  have h3:=h.le
  obtain ⟨g,rfl⟩:∃ g,f=g+1:=⟨f - 1,by omega⟩
  rw [h.rest,codeP,if_pos hw]
  cases endsP l e p with
  | error y=>rfl
  | ok y=>obtain ⟨x,q⟩:=y;simp [PR.pre,PR.andThen]
end
def bP (l : List Tk) (e p : Nat) : PR (MBlock 6) := PR.andThen (mustP l e wBlock p) fun _ p1 => blockP l e p1
section
variable {l : List Tk} {e : Nat}
structure BlocksQ (l : List Tk) (e p0 p f : Nat) (xs : List (MBlock 6)) : Prop where
  rest:blocksP l e (l.length+1) p0=(blocksP l e f p).behind xs
  fuel:l.length+1≤f+p
  le:p≤l.length
  cnt:xs.length≤p
theorem BlocksQ.start {p0 : Nat} (h : p0 ≤ l.length) : BlocksQ l e p0 p0 (l.length + 1) [] := ⟨(PR.behind_nil _).symm, by omega, h, by simp⟩
variable {p0 p f : Nat} {xs : List (MBlock 6)} {v : MBlock 6}
theorem bP_word {p2 : Nat} (h : bP l e p = .ok (v, p2)) : isW l wBlock p = true ∧ blockP l e (p + 1) = .ok (v, p2) := by
  obtain ⟨u,p1,h1,h⟩:=PR.andThen_ok h
  unfold mustP at h1
  split at h1
  · rename_i hw
    injection h1 with h1;injection h1 with _ h1
    subst h1
    exact ⟨hw,h⟩
  · cases h1
theorem BlocksQ.bad {y : Nat × Nat} (h : BlocksQ l e p0 p f xs) (hw : isW l [125] p = false) (h1 : bP l e p = .error y) : ∃ y', blocksP l e (l.length + 1) p0 = .error y' := by
  have h2:=h.fuel
  have h3:=h.le
  obtain ⟨g,rfl⟩:∃ g,f=g+1:=⟨f - 1,by omega⟩
  rw [h.rest,blocksP]
  cases hb:isW l wBlock p with
  | true =>
    rw [bP,mustP,if_pos hb,PR.ok_andThen] at h1
    rw [if_pos rfl,h1]
    exact ⟨_,rfl⟩
  | false =>
    rw [if_neg (by simp),mustP,if_neg (by simp [hw])]
    exact ⟨_,rfl⟩
theorem BlocksQ.go {p2 : Nat} (h : BlocksQ l e p0 p f xs) (h1 : bP l e p = .ok (v, p2)) (hp : p2 ≤ l.length) : BlocksQ l e p0 p2 (f - 1) (xs ++ [v]) := by
  have h2:=h.fuel
  have h3:=h.le
  have h5:=h.cnt
  obtain ⟨hw,hb⟩:=bP_word h1
  obtain ⟨x,hx⟩:=isW_some hw
  have hlt:=lt_of_tok hx
  have hm:=block_mon _ _ _ (by omega) hb
  obtain ⟨g,rfl⟩:∃ g,f=g+1:=⟨f - 1,by omega⟩
  refine ⟨?_,by simp;omega,hp,by simp;omega⟩
  rw [h.rest,blocksP,if_pos hw,hb,PR.ok_andThen,Nat.add_sub_cancel]
  cases blocksP l e g p2 with
  | error y=>rfl
  | ok y=>obtain ⟨ys,q⟩:=y;simp [PR.behind,PR.andThen]
theorem BlocksQ.stop (h : BlocksQ l e p0 p f xs) (hw : isW l [125] p = true) : blocksP l e (l.length + 1) p0 = .ok (xs, p + 1) := by
  have h2:=h.fuel
  have h3:=h.le
  obtain ⟨g,rfl⟩:∃ g,f=g+1:=⟨f - 1,by omega⟩
  have hb:isW l wBlock p=false:=isW_other hw (by decide)
  rw [h.rest,blocksP,if_neg (by simp [hb]),mustP,if_pos hw]
  simp [PR.behind,PR.andThen]
end
section
variable {l : List Tk} {e : Nat}
structure FuncsQ (l : List Tk) (e p f : Nat) (xs : List (MFunc 6)) : Prop where
  rest:funcsP l e (l.length+1) 0=(funcsP l e f p).behind xs
  fuel:l.length+1≤f+p
  le:p≤l.length
  cnt:xs.length≤p
theorem FuncsQ.start : FuncsQ l e 0 (l.length + 1) [] := ⟨(PR.behind_nil _).symm, by omega, Nat.zero_le _, by simp⟩
variable {p f : Nat} {xs : List (MFunc 6)} {v : MFunc 6}
theorem FuncsQ.bad {y : Nat × Nat} (h : FuncsQ l e p f xs) (hp : p < l.length) (h1 : funcP l e p = .error y) : funcsP l e (l.length + 1) 0 = .error y := by
  have h2:=h.fuel
  obtain ⟨g,rfl⟩:∃ g,f=g+1:=⟨f - 1,by omega⟩
  rw [h.rest,funcsP,if_pos hp,h1]
  rfl
theorem FuncsQ.go {p2 : Nat} (h : FuncsQ l e p f xs) (hp : p < l.length) (h1 : funcP l e p = .ok (v, p2)) (hp2 : p2 ≤ l.length) : FuncsQ l e p2 (f - 1) (xs ++ [v]) := by
  have h2:=h.fuel
  have h5:=h.cnt
  have hm:=func_next (by omega) h1
  obtain ⟨g,rfl⟩:∃ g,f=g+1:=⟨f - 1,by omega⟩
  refine ⟨?_,by simp;omega,hp2,by simp;omega⟩
  rw [h.rest,funcsP,if_pos hp,h1,PR.ok_andThen,Nat.add_sub_cancel]
  cases funcsP l e g p2 with
  | error y=>rfl
  | ok y=>obtain ⟨ys,q⟩:=y;simp [PR.behind,PR.andThen]
theorem FuncsQ.stop (h : FuncsQ l e p f xs) (hp : ¬ p < l.length) : funcsP l e (l.length + 1) 0 = .ok (xs, p) := by
  have h2:=h.fuel
  have h3:=h.le
  obtain ⟨g,rfl⟩:∃ g,f=g+1:=⟨f - 1,by omega⟩
  rw [h.rest,funcsP,if_neg hp]
  simp [PR.behind]
end
section
variable {w0 w w' : World} {b e p R B : Nat} {l : List Tk} {rc bc : Array Value} {T : TypeId}
theorem FB.grown {row : Option Nat} (h : FB w0 w b e l p R B rc bc T) (g : w.grownBy w' row) (hr : ∀ k, row = some k → B < k) : FB w0 w' b e l p R B rc bc T := by
  have h1:=h.bR
  have h2:=h.RB
  have h3:=h.R0
  have h4:=h.lt
  exact ⟨h.rd.grown g (fun k hk=>by have:=hr k hk;omega),(g.block R h.res.lt (fun e=>by have:=hr R e.symm;omega)).trans h.res,(g.block B h4 (fun e=>by have:=hr B e.symm;omega)).trans h.box,h.chg.grownP g (fun k hk=>by have:=hr k hk;omega),h1,h2,h3⟩
theorem below_drew (w : World) : Below w.heap.size w w.drew := ⟨rfl, rfl, rfl, Nat.le_refl _, fun _ _ => rfl⟩
def Mid {α : Type} (A : Lay α) (B lo : Nat) (w : World) (x : α) (cs : List Value) : Prop := A.In w (fun g => B < g ∧ g < lo) x cs
variable {α : Type} {A : Lay α} {x : α} {cs : List Value} {lo : Nat}
theorem Kid.mid (h : Kid A B w x cs) : Mid A B w.heap.size w x cs := Lay.mono h (fun k hk hl => ⟨hk, hl⟩)
theorem Mid.chg (h : Mid A B lo w x cs) (k : Chg b w w') (hb : b ≤ B) : Mid A B lo w' x cs := Chg.keep h k (fun k hk => by omega)
theorem Mid.below (h : Mid A B lo w x cs) (k : Below w.heap.size w w') : Mid A B lo w' x cs := Lay.below h k
theorem Mid.set (h : Mid A B lo w x cs) {q : Addr} (hq : q.block ≤ B) (v : Value) : Mid A B lo (w.setCell q v) x cs := Lay.setCell h (by omega) v
theorem Mid.grown {row : Option Nat} (h : Mid A B lo w x cs) (g : w.grownBy w' row) (hr : ∀ k, row = some k → lo ≤ k) : Mid A B lo w' x cs :=
  A.keep (fun k hk hl=>g.block k hl (fun e=>by have:=hr k e.symm;omega)) (fun _ h _=>h) h
theorem Mid.kid (h : Mid A B lo w x cs) : Kid A B w x cs := Lay.mono h (fun k hk _ => hk.1)
theorem ARow.kidP {t : TypeId} {v : Value} {xs : List α} {ys : List Value} (h : ARow A t w lo v xs ys) (hB : B < lo) : Kid A.list B w xs [v] := Lay.mono h.lay (fun k hk _ => by omega)
end
section
variable {w0 w : World} {b e p R B : Nat} {l : List Tk} {rc bc : Array Value} {T : TypeId}
theorem FB.tail {us zs : List Value} (vs : List Value) (h : FB w0 w b e l p R B rc (us ++ zs).toArray T) (hl : vs.length = zs.length) : FB w0 (w.setCells B us.length vs) b e l p R B rc (us ++ vs).toArray T := by
  have h1:=h.bR
  have h2:=h.RB
  have h3:=h.R0
  have hs:Step (fun k=>k=B) (fun k=>k=B) w (w.setCells B us.length vs):=Step.setCells (O:=fun k=>k=B) (O':=fun k=>k=B) (b:=B) rfl vs us.length w (Step.refl _ _)
  have h4:=h.chg
  refine ⟨h.rd.keep fun k hk=>setCells_other (by omega) vs _ w,(setCells_other (by omega) vs _ w).trans h.res,Blk.sets vs us zs w hl h.box,?_,h1,h2,h3⟩
  exact ⟨hs.os.trans h4.os,hs.tape.trans h4.tape,hs.output.trans h4.output,Nat.le_trans h4.size hs.size,fun k hk hn=>(hs.block k (Nat.lt_of_lt_of_le hk h4.size) (by omega)).trans (h4.block k hk hn),fun k hk=>.inl hk⟩
end
theorem cells12 {w : World} {B : Nat} {t : TypeId} {p0 p1 p2 p3 p4 p5 p6 p7 p8 p9 p10 p11 : Value} (h : Blk w B #[p0, p1, p2, p3, p4, p5, p6, p7, p8, p9, p10, p11] t) : w.cell? ⟨B, 0, none⟩ = some p0 ∧ w.cell? ⟨B, 1, none⟩ = some p1 ∧ w.cell? ⟨B, 2, none⟩ = some p2 ∧ w.cell? ⟨B, 3, none⟩ = some p3 ∧ w.cell? ⟨B, 4, none⟩ = some p4 ∧ w.cell? ⟨B, 5, none⟩ = some p5 ∧ w.cell? ⟨B, 6, none⟩ = some p6 ∧ w.cell? ⟨B, 7, none⟩ = some p7 ∧ w.cell? ⟨B, 8, none⟩ = some p8 ∧ w.cell? ⟨B, 9, none⟩ = some p9 ∧ w.cell? ⟨B, 10, none⟩ = some p10 ∧ w.cell? ⟨B, 11, none⟩ = some p11 := ⟨cellOf h 0 _ rfl, cellOf h 1 _ rfl, cellOf h 2 _ rfl, cellOf h 3 _ rfl, cellOf h 4 _ rfl, cellOf h 5 _ rfl, cellOf h 6 _ rfl, cellOf h 7 _ rfl, cellOf h 8 _ rfl, cellOf h 9 _ rfl, cellOf h 10 _ rfl, cellOf h 11 _ rfl⟩
theorem pSizeB : (Tryz.prog.info? 48).map (·.size) = some 12 := by kernel_rfl
theorem pUnderN : Tryz.prog.underlying 42 = some (.slice 41) := by kernel_rfl
theorem pInfoN0 : (Tryz.prog.info? 41).map (fun i => (i.zero, i.size, i.bytes)) = some (some (.agg #[.int .i64 0, .int .i64 0, .int .i64 0, .int .i64 0, .int .i64 0, .int .i64 0, .slice none 0 0, .slice none 0 0]), 8, 96) := by kernel_rfl
theorem pInfoN : ∃ i, Tryz.prog.info? 41 = some i ∧ i.zero = some (.agg #[.int .i64 0, .int .i64 0, .int .i64 0, .int .i64 0, .int .i64 0, .int .i64 0, .slice none 0 0, .slice none 0 0]) ∧ i.size = 8 ∧ i.bytes = 96 := by
  have h:=pInfoN0
  cases e:Tryz.prog.info? 41 with
  | none=>rw [e] at h;cases h
  | some i =>
    rw [e] at h
    simp only [Option.map_some,Option.some.injEq,Prod.mk.injEq] at h
    exact ⟨i,rfl,h.1,h.2.1,h.2.2⟩
theorem pUnderB : Tryz.prog.underlying 36 = some (.slice 48) := by kernel_rfl
theorem pInfoB0 : (Tryz.prog.info? 48).map (fun i => (i.zero, i.size, i.bytes)) = some (some (.agg #[.int .i64 0, .slice none 0 0, .slice none 0 0, .int .i64 0, .int .i64 0, .int .i64 0, .slice none 0 0, .slice none 0 0, .int .i64 0, .slice none 0 0, .slice none 0 0, .slice none 0 0]), 12, 208) := by kernel_rfl
theorem pInfoB : ∃ i, Tryz.prog.info? 48 = some i ∧ i.zero = some (.agg #[.int .i64 0, .slice none 0 0, .slice none 0 0, .int .i64 0, .int .i64 0, .int .i64 0, .slice none 0 0, .slice none 0 0, .int .i64 0, .slice none 0 0, .slice none 0 0, .slice none 0 0]) ∧ i.size = 12 ∧ i.bytes = 208 := by
  have h:=pInfoB0
  cases e:Tryz.prog.info? 48 with
  | none=>rw [e] at h;cases h
  | some i =>
    rw [e] at h
    simp only [Option.map_some,Option.some.injEq,Prod.mk.injEq] at h
    exact ⟨i,rfl,h.1,h.2.1,h.2.2⟩
theorem pUnderF : Tryz.prog.underlying 23 = some (.slice 38) := by kernel_rfl
theorem pInfoF0 : (Tryz.prog.info? 38).map (fun i => (i.zero, i.size, i.bytes)) = some (some (.agg #[.int .i64 0, .slice none 0 0, .slice none 0 0, .slice none 0 0]), 4, 80) := by kernel_rfl
theorem pInfoF : ∃ i, Tryz.prog.info? 38 = some i ∧ i.zero = some (.agg #[.int .i64 0, .slice none 0 0, .slice none 0 0, .slice none 0 0]) ∧ i.size = 4 ∧ i.bytes = 80 := by
  have h:=pInfoF0
  cases e:Tryz.prog.info? 38 with
  | none=>rw [e] at h;cases h
  | some i =>
    rw [e] at h
    simp only [Option.map_some,Option.some.injEq,Prod.mk.injEq] at h
    exact ⟨i,rfl,h.1,h.2.1,h.2.2⟩
def VBlock (w0 : World) : World → MBlock 6 → Value → Prop := fun w' x v => ∃ q0 n0 q1 n1 q2 n2 q3 n3 q4 n4 q5 n5 q6 n6, v = .agg #[.int .i64 x.regs, .slice q0 x.params.length n0, .slice q1 x.code.length n1, .int .i64 x.fin.op, .int .i64 x.fin.a, .int .i64 x.fin.yes.block, .slice q2 x.fin.yes.regs.length n2, .slice q3 x.fin.yes.args.length n3, .int .i64 x.fin.no.block, .slice q4 x.fin.no.regs.length n4, .slice q5 x.fin.no.args.length n5, .slice q6 x.fin.args.length n6] ∧ (blockL 6).In w' (fun g => w0.heap.size ≤ g) x [.int .i64 x.regs, .slice q0 x.params.length n0, .slice q1 x.code.length n1, .int .i64 x.fin.op, .int .i64 x.fin.a, .int .i64 x.fin.yes.block, .slice q2 x.fin.yes.regs.length n2, .slice q3 x.fin.yes.args.length n3, .int .i64 x.fin.no.block, .slice q4 x.fin.no.regs.length n4, .slice q5 x.fin.no.args.length n5, .slice q6 x.fin.args.length n6]
theorem pOne8 (o1 o2 o3 o4 o5 o6 : Int) (a b : Option Addr) (l c m d : Nat) : ∀ u ∈ [Value.int .i64 o1, .int .i64 o2, .int .i64 o3, .int .i64 o4, .int .i64 o5, .int .i64 o6, .slice a l c, .slice b m d], u.oneCell' = true := by
  intro u h
  simp at h
  rcases h with rfl | rfl | rfl | rfl | rfl | rfl | rfl | rfl <;> rfl
theorem pblock_any {w : World} {b e p : Nat} {l : List Tk} (h : PAt w b l e p) :
    Calls Tryz.prog 90 #[ptrP b] w fun en w'=>Out b e l (bP l e p) w (VBlock w) en w':=by
  have hbw:=h.lt
  have hlen:=h.len
  have F0:Hid (FB w _ b e l p w.heap.size (w.heap.size+1) #[.int .i64 0,.slice none 0 0,.slice none 0 0,.int .i64 0,.int .i64 0,.int .i64 0,.slice none 0 0,.slice none 0 0,.int .i64 0,.slice none 0 0,.slice none 0 0,.slice none 0 0] #[.int .i64 0,.slice none 0 0,.slice none 0 0,.int .i64 0,.int .i64 0,.int .i64 0,.slice none 0 0,.slice none 0 0,.int .i64 0,.slice none 0 0,.slice none 0 0,.slice none 0 0] 48):=FB.start h
  obtain ⟨i0,hi,hz0,hz1,hz2⟩:=pInfoN
  clear h
  go_enter Tryz.func90,Tryz.ntmps90
  go_wp2_with fail
  refine (pmust_any wBlock (by decide) F0.out.rd).mono ?_
  intro e' w1 hO
  rcases hO with ⟨⟨⟩,p1,x1,m1,rfl,rfl,r1,k1⟩ | ⟨y,c',a',m1,rfl,hc',k1⟩
  rotate_left
  · exact ⟨rfl,Out.bad (by rw [bP,m1];rfl) hc' (F0.out.chg.trans k1)⟩
  have E1:Hid (mustP l e wBlock p=.ok ((),p1)):=m1
  have G1:Hid (FB _ _ _ _ _ _ _ _ _ _ _):=F0.out.call r1 k1
  clear m1 r1 k1 F0
  go_wp2_with fail
  refine (FB.callNums G1.out [0] (by simp) rfl (by decide) (by simp)).mono ?_
  intro e' w2 hO
  rcases hO with ⟨ns,p2,m2,rfl,hx2,r2,k2⟩ | ⟨y,c',a',m2,rfl,hc',k2⟩
  rotate_left
  · exact ⟨rfl,Out.bad (by rw [bP,E1.out,PR.ok_andThen,blockP,nums1_eq,show numsP l e 1 p1=_ from m2];rfl) hc' k2⟩
  have hl2:=nums_len m2
  obtain ⟨nr,rfl⟩:∃ nr,ns=[nr]:=by
    match ns,hl2 with
    | [nr],_=>exact ⟨nr,rfl⟩
  have Bnr:Hid (0≤nr∧nr≤1000000):=hx2 nr (by simp)
  have E2:Hid (numsP l e 1 p1=.ok ([nr],p2)):=m2
  have G2:Hid (FB _ _ _ _ _ _ _ _ _ #[.int .i64 nr,.slice none 0 0,.slice none 0 0,.int .i64 0,.int .i64 0,.int .i64 0,.slice none 0 0,.slice none 0 0,.int .i64 0,.slice none 0 0,.slice none 0 0,.slice none 0 0] _):=r2
  clear m2 r2 k2 hx2 hl2 G1
  go_wp2_with fail
  refine (ptypesTop_any G2.out.rd).mono ?_
  intro e' w3 hO
  rcases hO with ⟨ts,p3,x3,m3,rfl,⟨ax,cx,rfl,hi3⟩,r3,k3⟩ | ⟨y,c',a',m3,rfl,hc',k3⟩
  rotate_left
  · exact ⟨rfl,Out.bad (by rw [bP,E1.out,PR.ok_andThen,blockP,nums1_eq,E2.out,PR.ok_andThen,m3];rfl) hc' (G2.out.chg.trans k3)⟩
  have E3:Hid (typesP l e p2=.ok (ts,p3)):=m3
  have G3:Hid (FB _ _ _ _ _ _ _ _ _ _ _):=G2.out.call r3 k3
  have Kts:Hid (Kid (typesL 6) (w.heap.size+1) w3 ts [.slice ax ts.length cx]):=Kid.mk hi3 G2.out.lt
  clear hi3
  clear m3 r3 k3 G2
  have y1:=cellOf G3.out.box 1 _ rfl
  have z1:=freeOf G3.out.box 1
  go_wp2_with fail
  have G4:Hid (FB _ (w3.setCell ⟨(w.heap.size+1),1,none⟩ (.slice ax ts.length cx)) _ _ _ _ _ _ _ #[.int .i64 nr,.slice ax ts.length cx,.slice none 0 0,.int .i64 0,.int .i64 0,.int .i64 0,.slice none 0 0,.slice none 0 0,.int .i64 0,.slice none 0 0,.slice none 0 0,.slice none 0 0] _):=(FB.set G3.out 1 (.slice ax ts.length cx))
  have KtsG4:Hid (Kid _ _ (w3.setCell ⟨(w.heap.size+1),1,none⟩ (.slice ax ts.length cx)) _ _):=(Kid.set Kts.out (q:=⟨(w.heap.size+1),1,none⟩) (Nat.le_refl _) _)
  clear Kts
  generalize (w3.setCell ⟨(w.heap.size+1),1,none⟩ (.slice ax ts.length cx))=w4 at G4 KtsG4 ⊢
  clear y1 z1 G3
  refine (pmust_any [123] (by decide) G4.out.rd).mono ?_
  intro e' w5 hO
  rcases hO with ⟨u,p5,x5,m5,rfl,rfl,r5,k5⟩ | ⟨y,c',a',m5,rfl,hc',k5⟩
  rotate_left
  · exact ⟨rfl,Out.bad (by rw [bP,E1.out,PR.ok_andThen,blockP,nums1_eq,E2.out,PR.ok_andThen,E3.out,PR.ok_andThen,m5];rfl) hc' (G4.out.chg.trans k5)⟩
  have E5:Hid (mustP l e [123] p3=.ok ((),p5)):=m5
  have G5:Hid (FB _ _ _ _ _ _ _ _ _ _ _):=G4.out.call r5 k5
  have KtsG46_:Hid (Kid _ _ _ _ _):=KtsG4.out.chg k5 (by omega)
  clear KtsG4
  clear m5 r5 k5 G4
  go_wp2_with fail
  have P0:Hid (p5≤l.length):=G5.out.rd.le
  have L0:Hid ((w.heap.size+1) < w5.heap.size):=G5.out.lt
  have M0:Hid (Mid (typesL 6) (w.heap.size+1) w5.heap.size w5 ts [.slice ax ts.length cx]):=KtsG46_.out.mid
  clear KtsG46_
  generalize hlo:w5.heap.size=lo at M0 L0
  have HLO:Hid (lo=w5.heap.size):=hlo.symm
  clear hlo
  go_loopw [15] (fun u wr=>∃ xs cs v p2 f,FB w wr b e l p2 w.heap.size (w.heap.size+1) #[.int .i64 0,.slice none 0 0,.slice none 0 0,.int .i64 0,.int .i64 0,.int .i64 0,.slice none 0 0,.slice none 0 0,.int .i64 0,.slice none 0 0,.slice none 0 0,.slice none 0 0] #[.int .i64 nr,.slice ax ts.length cx,v,.int .i64 0,.int .i64 0,.int .i64 0,.slice none 0 0,.slice none 0 0,.int .i64 0,.slice none 0 0,.slice none 0 0,.slice none 0 0] 48∧ARow insL 41 wr lo v xs cs∧Mid (typesL 6) (w.heap.size+1) lo wr ts [.slice ax ts.length cx]∧CodeQ l e p5 p2 f xs∧lo≤wr.heap.size) (fun _ wr=>50000 - lenP ((wr.cell? ⟨(w.heap.size+1),2,none⟩).getD undef))
  case atStart=>exact ⟨[],[],.slice none 0 0,p5,l.length+1,G5.out,ARow.nil _ _ _ _,M0.out,CodeQ.start P0.out,by rw [HLO.out];exact Nat.le_refl _⟩
  case round =>
    obtain ⟨xs,cs,v,p2,f,hF,hA,hT,hQ,hl⟩:=hrel
    obtain ⟨a,c,rfl⟩:=hA.formP
    have F2:Hid (FB w wr b e l p2 w.heap.size (w.heap.size+1) #[.int .i64 0,.slice none 0 0,.slice none 0 0,.int .i64 0,.int .i64 0,.int .i64 0,.slice none 0 0,.slice none 0 0,.int .i64 0,.slice none 0 0,.slice none 0 0,.slice none 0 0] #[.int .i64 nr,.slice ax ts.length cx,(.slice a xs.length c),.int .i64 0,.int .i64 0,.int .i64 0,.slice none 0 0,.slice none 0 0,.int .i64 0,.slice none 0 0,.slice none 0 0,.slice none 0 0] 48):=hF
    have A2:Hid (ARow insL 41 wr lo (.slice a xs.length c) xs cs):=hA
    have T2:Hid (Mid (typesL 6) (w.heap.size+1) lo wr ts [.slice ax ts.length cx]):=hT
    have Q2:Hid (CodeQ l e p5 p2 f xs):=hQ
    have LO2:Hid (lo≤wr.heap.size):=hl
    have hmeas:Hid (lenP ((wr.cell? ⟨(w.heap.size+1),2,none⟩).getD undef)=xs.length):=by show _=_;rw [cellOf hF.box 2 _ rfl];rfl
    have hcnt:xs.length≤40000:=by have h1:=hQ.cnt;have h2:=hQ.le;omega
    clear hF hA hT hQ hl G5 M0
    go_wp2_with fail
    refine (pwhich_any 9 opWords enters_Op pOp_any opWords_wordly (by decide) F2.out.rd).mono ?_
    rintro e' w2 ⟨rfl,b2⟩
    have F3:Hid (FB w w2 b e l p2 w.heap.size (w.heap.size+1) #[.int .i64 0,.slice none 0 0,.slice none 0 0,.int .i64 0,.int .i64 0,.int .i64 0,.slice none 0 0,.slice none 0 0,.int .i64 0,.slice none 0 0,.slice none 0 0,.slice none 0 0] #[.int .i64 nr,.slice ax ts.length cx,(.slice a xs.length c),.int .i64 0,.int .i64 0,.int .i64 0,.slice none 0 0,.slice none 0 0,.int .i64 0,.slice none 0 0,.slice none 0 0,.slice none 0 0] 48):=F2.out.call (F2.out.rd.below b2) (Chg.below b2)
    have A3:Hid (ARow insL 41 w2 lo (.slice a xs.length c) xs cs):=A2.out.below b2
    have T3:Hid (Mid (typesL 6) (w.heap.size+1) lo w2 ts [.slice ax ts.length cx]):=T2.out.below b2
    have LO3:Hid (lo≤w2.heap.size):=Nat.le_trans LO2.out b2.size
    clear b2 F2 A2 T2 LO2
    by_cases hw:whichP l opWords p2=0
    · have SC:Hid (codeP l e (l.length+1) p5=PR.andThen (endsP l e p2) fun x q=>(.ok ((xs,x),q):PR (List MIns × MEnd))):=Q2.out.stop hw
      rw [hw]
      have Kxs:Hid (Kid insL.list (w.heap.size+1) w2 xs [.slice a xs.length c]):=A3.out.kidP L0.out
      have Kts:Hid (Kid (typesL 6) (w.heap.size+1) w2 ts [.slice ax ts.length cx]):=T3.out.kid
      clear hw A3 T3 Q2 hmeas LO3 HLO
      go_wp2_with fail
      refine (pend_any F3.out.rd).mono ?_
      intro e' w7 hO
      rcases hO with ⟨en,p7,x7,m7,rfl,⟨a1,c1,a2,c2,a3,c3,a4,c4,a5,c5,rfl,hi7⟩,r7,k7⟩ | ⟨y,c',a',m7,rfl,hc',k7⟩
      rotate_left
      · exact ⟨rfl,Out.bad (by rw [bP,E1.out,PR.ok_andThen,blockP,nums1_eq,E2.out,PR.ok_andThen,E3.out,PR.ok_andThen,E5.out,PR.ok_andThen,SC.out,ends_eq,m7];rfl) hc' (F3.out.chg.trans k7)⟩
      have E7:Hid (endP l e p2=.ok (en,p7)):=m7
      have G7:Hid (FB _ _ _ _ _ _ _ _ _ _ _):=F3.out.call r7 k7
      have Kts8_:Hid (Kid _ _ _ _ _):=Kts.out.chg k7 (by omega)
      clear Kts
      have Kxs9_:Hid (Kid _ _ _ _ _):=Kxs.out.chg k7 (by omega)
      clear Kxs
      have Ken:Hid (Kid endL (w.heap.size+1) w7 en [.int .i64 en.op,.int .i64 en.a,.int .i64 en.yes.block,.slice a1 en.yes.regs.length c1,.slice a2 en.yes.args.length c2,.int .i64 en.no.block,.slice a3 en.no.regs.length c3,.slice a4 en.no.args.length c4,.slice a5 en.args.length c5]):=Kid.mk hi7 F3.out.lt
      clear hi7
      clear m7 r7 k7 F3
      have TH:Hid (w7.there (w.heap.size+1) 3 9):=Blk.there G7.out.box (by simp)
      have ON:Hid ((#[.int .i64 en.op,.int .i64 en.a,.int .i64 en.yes.block,.slice a1 en.yes.regs.length c1,.slice a2 en.yes.args.length c2,.int .i64 en.no.block,.slice a3 en.no.regs.length c3,.slice a4 en.no.args.length c4,.slice a5 en.args.length c5]:Array Value).all (·.oneCell')=true):=by show _=_;simp [Value.oneCell']
      go_wp2_with (refine wpList_store_mid rfl 46 (.tmp 29) (.tmp 28) rfl (w.heap.size+1) 3 #[.int .i64 en.op,.int .i64 en.a,.int .i64 en.yes.block,.slice a1 en.yes.regs.length c1,.slice a2 en.yes.args.length c2,.int .i64 en.no.block,.slice a3 en.no.regs.length c3,.slice a4 en.no.args.length c4,.slice a5 en.args.length c5] rfl rfl TH.out pSizeE ON.out ?_;have G10:Hid (FB w (w7.setCells (w.heap.size+1) 3 #[.int .i64 en.op,.int .i64 en.a,.int .i64 en.yes.block,.slice a1 en.yes.regs.length c1,.slice a2 en.yes.args.length c2,.int .i64 en.no.block,.slice a3 en.no.regs.length c3,.slice a4 en.no.args.length c4,.slice a5 en.args.length c5].toList) b e l p7 w.heap.size (w.heap.size+1) #[.int .i64 0,.slice none 0 0,.slice none 0 0,.int .i64 0,.int .i64 0,.int .i64 0,.slice none 0 0,.slice none 0 0,.int .i64 0,.slice none 0 0,.slice none 0 0,.slice none 0 0] #[.int .i64 nr,.slice ax ts.length cx,.slice a xs.length c,.int .i64 en.op,.int .i64 en.a,.int .i64 en.yes.block,.slice a1 en.yes.regs.length c1,.slice a2 en.yes.args.length c2,.int .i64 en.no.block,.slice a3 en.no.regs.length c3,.slice a4 en.no.args.length c4,.slice a5 en.args.length c5] 48):=FB.tail (us:=[.int .i64 nr,.slice ax ts.length cx,.slice a xs.length c]) (zs:=[.int .i64 0,.int .i64 0,.int .i64 0,.slice none 0 0,.slice none 0 0,.int .i64 0,.slice none 0 0,.slice none 0 0,.slice none 0 0]) [.int .i64 en.op,.int .i64 en.a,.int .i64 en.yes.block,.slice a1 en.yes.regs.length c1,.slice a2 en.yes.args.length c2,.int .i64 en.no.block,.slice a3 en.no.regs.length c3,.slice a4 en.no.args.length c4,.slice a5 en.args.length c5] G7.out rfl;have Kts8_T:Hid (Kid (typesL 6) (w.heap.size+1) (w7.setCells (w.heap.size+1) 3 #[.int .i64 en.op,.int .i64 en.a,.int .i64 en.yes.block,.slice a1 en.yes.regs.length c1,.slice a2 en.yes.args.length c2,.int .i64 en.no.block,.slice a3 en.no.regs.length c3,.slice a4 en.no.args.length c4,.slice a5 en.args.length c5].toList) ts [.slice ax ts.length cx]):=Kid.sets Kts8_.out (Nat.le_refl _) _ _;have Kxs9_T:Hid (Kid insL.list (w.heap.size+1) (w7.setCells (w.heap.size+1) 3 #[.int .i64 en.op,.int .i64 en.a,.int .i64 en.yes.block,.slice a1 en.yes.regs.length c1,.slice a2 en.yes.args.length c2,.int .i64 en.no.block,.slice a3 en.no.regs.length c3,.slice a4 en.no.args.length c4,.slice a5 en.args.length c5].toList) xs [.slice a xs.length c]):=Kid.sets Kxs9_.out (Nat.le_refl _) _ _;have KenT:Hid (Kid endL (w.heap.size+1) (w7.setCells (w.heap.size+1) 3 #[.int .i64 en.op,.int .i64 en.a,.int .i64 en.yes.block,.slice a1 en.yes.regs.length c1,.slice a2 en.yes.args.length c2,.int .i64 en.no.block,.slice a3 en.no.regs.length c3,.slice a4 en.no.args.length c4,.slice a5 en.args.length c5].toList) en [.int .i64 en.op,.int .i64 en.a,.int .i64 en.yes.block,.slice a1 en.yes.regs.length c1,.slice a2 en.yes.args.length c2,.int .i64 en.no.block,.slice a3 en.no.regs.length c3,.slice a4 en.no.args.length c4,.slice a5 en.args.length c5]):=Kid.sets Ken.out (Nat.le_refl _) _ _;clear Kts8_ Kxs9_ Ken G7;generalize (w7.setCells (w.heap.size+1) 3 #[.int .i64 en.op,.int .i64 en.a,.int .i64 en.yes.block,.slice a1 en.yes.regs.length c1,.slice a2 en.yes.args.length c2,.int .i64 en.no.block,.slice a3 en.no.regs.length c3,.slice a4 en.no.args.length c4,.slice a5 en.args.length c5].toList)=w10 at G10 Kts8_T Kxs9_T KenT ⊢)
      clear TH ON
      refine (pmust_any [59] (by decide) G10.out.rd).mono ?_
      intro e' w11 hO
      rcases hO with ⟨u,p11,x11,m11,rfl,rfl,r11,k11⟩ | ⟨y,c',a',m11,rfl,hc',k11⟩
      rotate_left
      · exact ⟨rfl,Out.bad (by rw [bP,E1.out,PR.ok_andThen,blockP,nums1_eq,E2.out,PR.ok_andThen,E3.out,PR.ok_andThen,E5.out,PR.ok_andThen,SC.out,ends_eq,E7.out,PR.ok_andThen,m11];rfl) hc' (G10.out.chg.trans k11)⟩
      have E11:Hid (mustP l e [59] p7=.ok ((),p11)):=m11
      have G11:Hid (FB _ _ _ _ _ _ _ _ _ _ _):=G10.out.call r11 k11
      have Kts8_T12_:Hid (Kid _ _ _ _ _):=Kts8_T.out.chg k11 (by omega)
      clear Kts8_T
      have Kxs9_T13_:Hid (Kid _ _ _ _ _):=Kxs9_T.out.chg k11 (by omega)
      clear Kxs9_T
      have KenT14_:Hid (Kid _ _ _ _ _):=KenT.out.chg k11 (by omega)
      clear KenT
      clear m11 r11 k11 G10
      go_wp2_with fail
      refine (pmust_any [125] (by decide) G11.out.rd).mono ?_
      intro e' w15 hO
      rcases hO with ⟨u,p15,x15,m15,rfl,rfl,r15,k15⟩ | ⟨y,c',a',m15,rfl,hc',k15⟩
      rotate_left
      · exact ⟨rfl,Out.bad (by rw [bP,E1.out,PR.ok_andThen,blockP,nums1_eq,E2.out,PR.ok_andThen,E3.out,PR.ok_andThen,E5.out,PR.ok_andThen,SC.out,ends_eq,E7.out,PR.ok_andThen,E11.out,PR.ok_andThen,PR.ok_andThen,PR.ok_andThen,m15];rfl) hc' (G11.out.chg.trans k15)⟩
      have E15:Hid (mustP l e [125] p11=.ok ((),p15)):=m15
      have G15:Hid (FB _ _ _ _ _ _ _ _ _ _ _):=G11.out.call r15 k15
      have Kts8_T12_16_:Hid (Kid _ _ _ _ _):=Kts8_T12_.out.chg k15 (by omega)
      clear Kts8_T12_
      have Kxs9_T13_17_:Hid (Kid _ _ _ _ _):=Kxs9_T13_.out.chg k15 (by omega)
      clear Kxs9_T13_
      have KenT14_18_:Hid (Kid _ _ _ _ _):=KenT14_.out.chg k15 (by omega)
      clear KenT14_
      clear m15 r15 k15 G11
      have TR:Hid (w15.there w.heap.size 0 12):=Blk.there G15.out.res (by simp)
      have RN:Hid (w15.rangeAt (w.heap.size+1) 0 [.int .i64 nr,.slice ax ts.length cx,.slice a xs.length c,.int .i64 en.op,.int .i64 en.a,.int .i64 en.yes.block,.slice a1 en.yes.regs.length c1,.slice a2 en.yes.args.length c2,.int .i64 en.no.block,.slice a3 en.no.regs.length c3,.slice a4 en.no.args.length c4,.slice a5 en.args.length c5]):=Blk.range G15.out.box
      have ON:Hid ((#[.int .i64 nr,.slice ax ts.length cx,.slice a xs.length c,.int .i64 en.op,.int .i64 en.a,.int .i64 en.yes.block,.slice a1 en.yes.regs.length c1,.slice a2 en.yes.args.length c2,.int .i64 en.no.block,.slice a3 en.no.regs.length c3,.slice a4 en.no.args.length c4,.slice a5 en.args.length c5]:Array Value).all (·.oneCell')=true):=by show _=_;simp [Value.oneCell']
      go_wp2_with (first | (refine wpList_load_mid rfl 48 (.tmp 3) rfl (w.heap.size+1) 0 rfl [.int .i64 nr,.slice ax ts.length cx,.slice a xs.length c,.int .i64 en.op,.int .i64 en.a,.int .i64 en.yes.block,.slice a1 en.yes.regs.length c1,.slice a2 en.yes.args.length c2,.int .i64 en.no.block,.slice a3 en.no.regs.length c3,.slice a4 en.no.args.length c4,.slice a5 en.args.length c5] _ RN.out Tryz.underlying48 rfl pSizeB ?_) | (refine wpList_store_mid rfl 48 (.tmp 2) (.tmp 34) rfl w.heap.size 0 #[.int .i64 nr,.slice ax ts.length cx,.slice a xs.length c,.int .i64 en.op,.int .i64 en.a,.int .i64 en.yes.block,.slice a1 en.yes.regs.length c1,.slice a2 en.yes.args.length c2,.int .i64 en.no.block,.slice a3 en.no.regs.length c3,.slice a4 en.no.args.length c4,.slice a5 en.args.length c5] rfl rfl TR.out pSizeB ON.out ?_;have DD:Hid (FinD _ _ _ _ _ _ _ #[.int .i64 nr,.slice ax ts.length cx,.slice a xs.length c,.int .i64 en.op,.int .i64 en.a,.int .i64 en.yes.block,.slice a1 en.yes.regs.length c1,.slice a2 en.yes.args.length c2,.int .i64 en.no.block,.slice a3 en.no.regs.length c3,.slice a4 en.no.args.length c4,.slice a5 en.args.length c5] (w15.setCells w.heap.size 0 #[.int .i64 nr,.slice ax ts.length cx,.slice a xs.length c,.int .i64 en.op,.int .i64 en.a,.int .i64 en.yes.block,.slice a1 en.yes.regs.length c1,.slice a2 en.yes.args.length c2,.int .i64 en.no.block,.slice a3 en.no.regs.length c3,.slice a4 en.no.args.length c4,.slice a5 en.args.length c5].toList)):=FB.fin G15.out [.int .i64 nr,.slice ax ts.length cx,.slice a xs.length c,.int .i64 en.op,.int .i64 en.a,.int .i64 en.yes.block,.slice a1 en.yes.regs.length c1,.slice a2 en.yes.args.length c2,.int .i64 en.no.block,.slice a3 en.no.regs.length c3,.slice a4 en.no.args.length c4,.slice a5 en.args.length c5] rfl;have DKts8_T12_16_:Hid (Kid _ _ (w15.setCells w.heap.size 0 #[.int .i64 nr,.slice ax ts.length cx,.slice a xs.length c,.int .i64 en.op,.int .i64 en.a,.int .i64 en.yes.block,.slice a1 en.yes.regs.length c1,.slice a2 en.yes.args.length c2,.int .i64 en.no.block,.slice a3 en.no.regs.length c3,.slice a4 en.no.args.length c4,.slice a5 en.args.length c5].toList) _ _):=Kid.sets Kts8_T12_16_.out (by omega) _ _;have DKxs9_T13_17_:Hid (Kid _ _ (w15.setCells w.heap.size 0 #[.int .i64 nr,.slice ax ts.length cx,.slice a xs.length c,.int .i64 en.op,.int .i64 en.a,.int .i64 en.yes.block,.slice a1 en.yes.regs.length c1,.slice a2 en.yes.args.length c2,.int .i64 en.no.block,.slice a3 en.no.regs.length c3,.slice a4 en.no.args.length c4,.slice a5 en.args.length c5].toList) _ _):=Kid.sets Kxs9_T13_17_.out (by omega) _ _;have DKenT14_18_:Hid (Kid _ _ (w15.setCells w.heap.size 0 #[.int .i64 nr,.slice ax ts.length cx,.slice a xs.length c,.int .i64 en.op,.int .i64 en.a,.int .i64 en.yes.block,.slice a1 en.yes.regs.length c1,.slice a2 en.yes.args.length c2,.int .i64 en.no.block,.slice a3 en.no.regs.length c3,.slice a4 en.no.args.length c4,.slice a5 en.args.length c5].toList) _ _):=Kid.sets KenT14_18_.out (by omega) _ _;clear Kts8_T12_16_ Kxs9_T13_17_ KenT14_18_ G15;generalize (w15.setCells w.heap.size 0 #[.int .i64 nr,.slice ax ts.length cx,.slice a xs.length c,.int .i64 en.op,.int .i64 en.a,.int .i64 en.yes.block,.slice a1 en.yes.regs.length c1,.slice a2 en.yes.args.length c2,.int .i64 en.no.block,.slice a3 en.no.regs.length c3,.slice a4 en.no.args.length c4,.slice a5 en.args.length c5].toList)=w9 at DD DKts8_T12_16_ DKxs9_T13_17_ DKenT14_18_ ⊢))
      obtain ⟨D1,D2,D3⟩:=DD.out
      obtain ⟨x0,x1,x2,x3,x4,x5,x6,x7,x8,x9,x10,x11⟩:=cells12 D1
      exact bodyPost_ret (v:=.agg #[.int .i64 nr,.slice ax ts.length cx,.slice a xs.length c,.int .i64 en.op,.int .i64 en.a,.int .i64 en.yes.block,.slice a1 en.yes.regs.length c1,.slice a2 en.yes.args.length c2,.int .i64 en.no.block,.slice a3 en.no.regs.length c3,.slice a4 en.no.args.length c4,.slice a5 en.args.length c5]) (by simp [results,Tryz.results90,go_sem,x0,x1,x2,x3,x4,x5,x6,x7,x8,x9,x10,x11]) rfl (Out.good (by rw [bP,E1.out,PR.ok_andThen,blockP,nums1_eq,E2.out,PR.ok_andThen,E3.out,PR.ok_andThen,E5.out,PR.ok_andThen,SC.out,ends_eq,E7.out,PR.ok_andThen,E11.out,PR.ok_andThen,PR.ok_andThen,PR.ok_andThen,E15.out,PR.ok_andThen];rfl) (⟨ax,cx,a,c,a1,c1,a2,c2,a3,c3,a4,c4,a5,c5,rfl,block_mk (x:=⟨nr,ts,xs,en⟩) (Kid.out DKts8_T12_16_.out (by omega)) (Kid.out DKxs9_T13_17_.out (by omega)) (Kid.out DKenT14_18_.out (by omega)) (i64_of Bnr.out)⟩) D2 D3)
    · have hw':¬ ((whichP l opWords p2:Nat):Int)=0:=by omega
      have HW:Hid (whichP l opWords p2≠0):=hw
      clear hw
      go_wp2_with fail
      have y2:=cellOf F3.out.box 2 _ rfl
      have hBl:=F3.out.lt
      have F3d:Hid (FB w w2.drew b e l p2 w.heap.size (w.heap.size+1) #[.int .i64 0,.slice none 0 0,.slice none 0 0,.int .i64 0,.int .i64 0,.int .i64 0,.slice none 0 0,.slice none 0 0,.int .i64 0,.slice none 0 0,.slice none 0 0,.slice none 0 0] #[.int .i64 nr,.slice ax ts.length cx,(.slice a xs.length c),.int .i64 0,.int .i64 0,.int .i64 0,.slice none 0 0,.slice none 0 0,.int .i64 0,.slice none 0 0,.slice none 0 0,.slice none 0 0] 48):=F3.out.drew
      have A3d:Hid (ARow insL 41 w2.drew lo (.slice a xs.length c) xs cs):=A3.out.below (below_drew _)
      have T3d:Hid (Mid (typesL 6) (w.heap.size+1) lo w2.drew ts [.slice ax ts.length cx]):=T3.out.below (below_drew _)
      clear F3 A3 T3
      go_region_law (first
        | (refine step_call_fn rfl 114 (.tmp 20) 83 rfl enters_ins (ptrP b) (by simp [Act.eval,Act.put]) (pins_any F3d.out.rd HW.out) ?_
           intro e' w4 hO
           rcases hO with ⟨x,p4,x4,m4,rfl,⟨a4,c4,b4,d4,rfl,hi4⟩,r4,k4⟩ | ⟨y,c',a',m4,rfl,hc',k4⟩
           rotate_left
           · exact ⟨rfl,Out.bad (by rw [bP,E1.out,PR.ok_andThen,blockP,nums1_eq,E2.out,PR.ok_andThen,E3.out,PR.ok_andThen,E5.out,PR.ok_andThen,Q2.out.bad HW.out m4];rfl) hc' (F3d.out.chg.trans k4)⟩
           have M4:Hid (insFields l e (whichP l opWords p2) (p2+1)=.ok (x,p4)):=m4
           have F4:Hid (FB w w4 b e l p4 w.heap.size (w.heap.size+1) #[.int .i64 0,.slice none 0 0,.slice none 0 0,.int .i64 0,.int .i64 0,.int .i64 0,.slice none 0 0,.slice none 0 0,.int .i64 0,.slice none 0 0,.slice none 0 0,.slice none 0 0] #[.int .i64 nr,.slice ax ts.length cx,(.slice a xs.length c),.int .i64 0,.int .i64 0,.int .i64 0,.slice none 0 0,.slice none 0 0,.int .i64 0,.slice none 0 0,.slice none 0 0,.slice none 0 0] 48):=F3d.out.call r4 k4
           have A4:Hid (ARow insL 41 w4 lo (.slice a xs.length c) xs cs):=A3d.out.chgP k4 (by have:=L0.out;omega)
           have T4:Hid (Mid (typesL 6) (w.heap.size+1) lo w4 ts [.slice ax ts.length cx]):=T3d.out.chg k4 (by omega)
           have y4:=cellOf F4.out.box 2 _ rfl
           have hB4:=F4.out.lt
           have hown:Hid (w4.ownsRow lo 41 8 (.slice a xs.length c) xs.length cs):=A4.out.own
           have hlo4:Hid (lo≤w4.heap.size):=Nat.le_trans LO3.out k4.size
           have I4:Hid (insL.In w4 (fun g=>w2.heap.size≤g) x [.int .i64 x.op,.int .i64 x.a,.int .i64 x.b,.int .i64 x.c,.int .i64 x.k,.int .i64 x.n,.slice a4 x.regs.length c4,.slice b4 x.args.length d4]):=hi4
           have SZ:Hid (w2.heap.size≤w4.heap.size):=k4.size
           clear m4 r4 k4 hi4
           dsimp only [Upon])
        | (refine step_append_lies _ rfl (.tmp 19) (.tmp 22) 42 rfl lo 41 i0 (.agg #[.int .i64 0,.int .i64 0,.int .i64 0,.int .i64 0,.int .i64 0,.int .i64 0,.slice none 0 0,.slice none 0 0]) 8 96 pUnderN hi hz0 hz1 hz2 rfl (by decide) (.slice a xs.length c) xs.length cs (by simp [Act.eval,Act.put]) (hown.out.alloc _) ⟨w4.heap.size,0,none⟩ 1 1 [.int .i64 x.op,.int .i64 x.a,.int .i64 x.b,.int .i64 x.c,.int .i64 x.k,.int .i64 x.n,.slice a4 x.regs.length c4,.slice b4 x.args.length d4] (by simp [Act.eval,Act.put]) rfl (newsP _ [_,_,_,_,_,_,_,_] _) (pOne8 _ _ _ _ _ _ _ _ _ _ _ _) (by decide) (by unfold maxLen;omega) (by omega) (by have:=hlo4.out;simp;omega) (w4.heap.size+1) (by simp) ?_
           intro g2 cap2 w9 h1 hgrow hat hlt1
           have I5:insL.In (w4.alloc (.cells #[.int .i64 x.op,.int .i64 x.a,.int .i64 x.b,.int .i64 x.c,.int .i64 x.k,.int .i64 x.n,.slice a4 x.regs.length c4,.slice b4 x.args.length d4] 41)) (fun g=>lo≤g∧(Value.slice a xs.length c).ownBlock≠some g) x [.int .i64 x.op,.int .i64 x.a,.int .i64 x.b,.int .i64 x.c,.int .i64 x.k,.int .i64 x.n,.slice a4 x.regs.length c4,.slice b4 x.args.length d4] :=
             Lay.alloc (Lay.mono I4.out (fun k hk _=>⟨Nat.le_trans LO3.out hk,fun e=>by have:k < w2.heap.size:=(A3d.out.lo_le e).2;omega⟩)) _
           have A5:=A4.out.below (bel1 w4 (.cells #[.int .i64 x.op,.int .i64 x.a,.int .i64 x.b,.int .i64 x.c,.int .i64 x.k,.int .i64 x.n,.slice a4 x.regs.length c4,.slice b4 x.args.length d4] 41))
           have F9:Hid (FB w w9 b e l p4 w.heap.size (w.heap.size+1) #[.int .i64 0,.slice none 0 0,.slice none 0 0,.int .i64 0,.int .i64 0,.int .i64 0,.slice none 0 0,.slice none 0 0,.int .i64 0,.slice none 0 0,.slice none 0 0,.slice none 0 0] #[.int .i64 nr,.slice ax ts.length cx,(.slice a xs.length c),.int .i64 0,.int .i64 0,.int .i64 0,.slice none 0 0,.slice none 0 0,.int .i64 0,.slice none 0 0,.slice none 0 0,.slice none 0 0] 48):=(F4.out.alloc _).grown hgrow (fun k hk=>by have:=(A5.lo_le hk).1;have:=L0.out;omega)
           have A9:Hid (ARow insL 41 w9 lo (.slice (some ⟨g2,0,none⟩) (xs.length+1) cap2) (xs++[x]) (cs++[.int .i64 x.op,.int .i64 x.a,.int .i64 x.b,.int .i64 x.c,.int .i64 x.k,.int .i64 x.n,.slice a4 x.regs.length c4,.slice b4 x.args.length d4])):=ARow.push A5 I5 hgrow (by simpa using hat) h1
           have T9:Hid (Mid (typesL 6) (w.heap.size+1) lo w9 ts [.slice ax ts.length cx]):=(T4.out.below (bel1 _ _)).grown hgrow (fun k hk=>(A5.lo_le hk).1)
           have LO9:Hid (lo≤w9.heap.size):=by have h8:=hgrow.size;have h7:=hlo4.out;have h6:=(bel1 w4 (.cells #[.int .i64 x.op,.int .i64 x.a,.int .i64 x.b,.int .i64 x.c,.int .i64 x.k,.int .i64 x.n,.slice a4 x.regs.length c4,.slice b4 x.args.length d4] 41)).size;exact Nat.le_trans h7 (Nat.le_trans h6 h8)
           have y9:=cellOf F9.out.box 2 _ rfl
           have z9:=freeOf F9.out.box 2
           clear h1 hgrow hat hlt1 I5 A5))
      all_goals
        have F10:Hid (FB w (w9.setCell ⟨(w.heap.size+1),2,none⟩ (.slice (some ⟨g2,0,none⟩) (xs.length+1) cap2)) b e l p4 w.heap.size (w.heap.size+1) #[.int .i64 0,.slice none 0 0,.slice none 0 0,.int .i64 0,.int .i64 0,.int .i64 0,.slice none 0 0,.slice none 0 0,.int .i64 0,.slice none 0 0,.slice none 0 0,.slice none 0 0] #[.int .i64 nr,.slice ax ts.length cx,(.slice (some ⟨g2,0,none⟩) (xs.length+1) cap2),.int .i64 0,.int .i64 0,.int .i64 0,.slice none 0 0,.slice none 0 0,.int .i64 0,.slice none 0 0,.slice none 0 0,.slice none 0 0] 48):=FB.set F9.out 2 (.slice (some ⟨g2,0,none⟩) (xs.length+1) cap2)
        have A10:Hid (ARow insL 41 (w9.setCell ⟨(w.heap.size+1),2,none⟩ (.slice (some ⟨g2,0,none⟩) (xs.length+1) cap2)) lo (.slice (some ⟨g2,0,none⟩) (xs.length+1) cap2) (xs++[x]) (cs++[.int .i64 x.op,.int .i64 x.a,.int .i64 x.b,.int .i64 x.c,.int .i64 x.k,.int .i64 x.n,.slice a4 x.regs.length c4,.slice b4 x.args.length d4])):=ARow.setOther A9.out L0.out _
        have T10:Hid (Mid (typesL 6) (w.heap.size+1) lo (w9.setCell ⟨(w.heap.size+1),2,none⟩ (.slice (some ⟨g2,0,none⟩) (xs.length+1) cap2)) ts [.slice ax ts.length cx]):=Mid.set T9.out (Nat.le_refl _) _
        have LO10:Hid (lo≤(w9.setCell ⟨(w.heap.size+1),2,none⟩ (.slice (some ⟨g2,0,none⟩) (xs.length+1) cap2)).heap.size):=by show _≤_;have:=LO9.out;simpa using this
        clear F9 A9 T9 LO9 y9 z9 y4 hB4 hown hlo4 I4 SZ F4 A4 T4
        generalize w9.setCell ⟨(w.heap.size+1),2,none⟩ (.slice (some ⟨g2,0,none⟩) (xs.length+1) cap2)=w10 at F10 A10 T10 LO10 ⊢
        go_wp2_with fail
        refine (pmust_any [59] (by decide) F10.out.rd).mono ?_
        intro e' w11 hO
        rcases hO with ⟨⟨⟩,p11,x11,m11,rfl,rfl,r11,k11⟩ | ⟨y,c',a',m11,rfl,hc',k11⟩
        rotate_left
        · exact ⟨rfl,Out.bad (by rw [bP,E1.out,PR.ok_andThen,blockP,nums1_eq,E2.out,PR.ok_andThen,E3.out,PR.ok_andThen,E5.out,PR.ok_andThen,Q2.out.bad2 HW.out M4.out m11];rfl) hc' (F10.out.chg.trans k11)⟩
        have F11:Hid (FB w w11 b e l p11 w.heap.size (w.heap.size+1) #[.int .i64 0,.slice none 0 0,.slice none 0 0,.int .i64 0,.int .i64 0,.int .i64 0,.slice none 0 0,.slice none 0 0,.int .i64 0,.slice none 0 0,.slice none 0 0,.slice none 0 0] #[.int .i64 nr,.slice ax ts.length cx,(.slice (some ⟨g2,0,none⟩) (xs.length+1) cap2),.int .i64 0,.int .i64 0,.int .i64 0,.slice none 0 0,.slice none 0 0,.int .i64 0,.slice none 0 0,.slice none 0 0,.slice none 0 0] 48):=F10.out.call r11 k11
        have A11:Hid (ARow insL 41 w11 lo (.slice (some ⟨g2,0,none⟩) (xs.length+1) cap2) (xs++[x]) (cs++[.int .i64 x.op,.int .i64 x.a,.int .i64 x.b,.int .i64 x.c,.int .i64 x.k,.int .i64 x.n,.slice a4 x.regs.length c4,.slice b4 x.args.length d4])):=A10.out.chgP k11 (by have:=L0.out;omega)
        have T11:Hid (Mid (typesL 6) (w.heap.size+1) lo w11 ts [.slice ax ts.length cx]):=T10.out.chg k11 (by omega)
        have LO11:Hid (lo≤w11.heap.size):=Nat.le_trans LO10.out k11.size
        have Q11:Hid (CodeQ l e p5 p11 (f - 1) (xs++[x])):=Q2.out.go HW.out M4.out m11 r11.le
        have hm11:Hid (lenP ((w11.cell? ⟨(w.heap.size+1),2,none⟩).getD undef)=xs.length+1):=by show _=_;rw [cellOf F11.out.box 2 _ rfl];rfl
        clear m11 r11 k11 F10 A10 T10 LO10
        go_wp2
        go_roundw
        case rel=>exact ⟨xs++[x],_,_,p11,f - 1,F11.out,A11.out,T11.out,Q11.out,LO11.out⟩
        case measure=>rw [hm11.out,hmeas.out];omega
def VFunc (w0 : World) : World → MFunc 6 → Value → Prop := fun w' x v => ∃ q1 n1 q2 n2 q3 n3, v = .agg #[.int .i64 x.regs, .slice q1 x.params.length n1, .slice q2 x.results.length n2, .slice q3 x.blocks.length n3] ∧ (funcL 6).In w' (fun g => w0.heap.size ≤ g) x [.int .i64 x.regs, .slice q1 x.params.length n1, .slice q2 x.results.length n2, .slice q3 x.blocks.length n3]
theorem pOne12 (o1 o2 o3 o4 o5 : Int) (a0 a1 a2 a3 a4 a5 a6 : Option Addr) (l0 c0 l1 c1 l2 c2 l3 c3 l4 c4 l5 c5 l6 c6 : Nat) : ∀ u ∈ [Value.int .i64 o1, .slice a0 l0 c0, .slice a1 l1 c1, .int .i64 o2, .int .i64 o3, .int .i64 o4, .slice a2 l2 c2, .slice a3 l3 c3, .int .i64 o5, .slice a4 l4 c4, .slice a5 l5 c5, .slice a6 l6 c6], u.oneCell' = true := by
  intro u h
  simp at h
  rcases h with rfl | rfl | rfl | rfl | rfl | rfl | rfl | rfl | rfl | rfl | rfl | rfl <;> rfl
theorem pfunction_any {w : World} {b e p : Nat} {l : List Tk} (h : PAt w b l e p) :
    Calls Tryz.prog 70 #[ptrP b] w fun en w'=>Out b e l (funcP l e p) w (VFunc w) en w':=by
  have hbw:=h.lt
  have hlen:=h.len
  have F0:Hid (FB w _ b e l p w.heap.size (w.heap.size+1) #[.int .i64 0,.slice none 0 0,.slice none 0 0,.slice none 0 0] #[.int .i64 0,.slice none 0 0,.slice none 0 0,.slice none 0 0] 38):=FB.start h
  obtain ⟨i0,hi,hz0,hz1,hz2⟩:=pInfoB
  clear h
  go_enter Tryz.func70,Tryz.ntmps70
  go_wp2_with fail
  refine (pmust_any wFunc (by decide) F0.out.rd).mono ?_
  intro e' w1 hO
  rcases hO with ⟨⟨⟩,p1,x1,m1,rfl,rfl,r1,k1⟩ | ⟨y,c',a',m1,rfl,hc',k1⟩
  rotate_left
  · exact ⟨rfl,Out.bad (by rw [funcP,m1];rfl) hc' (F0.out.chg.trans k1)⟩
  have E1:Hid (mustP l e wFunc p=.ok ((),p1)):=m1
  have G1:Hid (FB _ _ _ _ _ _ _ _ _ _ _):=F0.out.call r1 k1
  clear m1 r1 k1 F0
  go_wp2_with fail
  refine (FB.callNums G1.out [0] (by simp) rfl (by decide) (by simp)).mono ?_
  intro e' w2 hO
  rcases hO with ⟨ns,p2,m2,rfl,hx2,r2,k2⟩ | ⟨y,c',a',m2,rfl,hc',k2⟩
  rotate_left
  · exact ⟨rfl,Out.bad (by rw [funcP,E1.out,PR.ok_andThen,nums1_eq,show numsP l e 1 p1=_ from m2];rfl) hc' k2⟩
  have hl2:=nums_len m2
  obtain ⟨nr,rfl⟩:∃ nr,ns=[nr]:=by
    match ns,hl2 with
    | [nr],_=>exact ⟨nr,rfl⟩
  have Bnr:Hid (0≤nr∧nr≤1000000):=hx2 nr (by simp)
  have E2:Hid (numsP l e 1 p1=.ok ([nr],p2)):=m2
  have G2:Hid (FB _ _ _ _ _ _ _ _ _ #[.int .i64 nr,.slice none 0 0,.slice none 0 0,.slice none 0 0] _):=r2
  clear m2 r2 k2 hx2 hl2 G1
  go_wp2_with fail
  refine (ptypesTop_any G2.out.rd).mono ?_
  intro e' w3 hO
  rcases hO with ⟨ts,p3,x3,m3,rfl,⟨ax,cx,rfl,hi3⟩,r3,k3⟩ | ⟨y,c',a',m3,rfl,hc',k3⟩
  rotate_left
  · exact ⟨rfl,Out.bad (by rw [funcP,E1.out,PR.ok_andThen,nums1_eq,E2.out,PR.ok_andThen,m3];rfl) hc' (G2.out.chg.trans k3)⟩
  have E3:Hid (typesP l e p2=.ok (ts,p3)):=m3
  have G3:Hid (FB _ _ _ _ _ _ _ _ _ _ _):=G2.out.call r3 k3
  have Kts:Hid (Kid (typesL 6) (w.heap.size+1) w3 ts [.slice ax ts.length cx]):=Kid.mk hi3 G2.out.lt
  clear hi3
  clear m3 r3 k3 G2
  have y1:=cellOf G3.out.box 1 _ rfl
  have z1:=freeOf G3.out.box 1
  go_wp2_with fail
  have G4:Hid (FB _ (w3.setCell ⟨(w.heap.size+1),1,none⟩ (.slice ax ts.length cx)) _ _ _ _ _ _ _ #[.int .i64 nr,.slice ax ts.length cx,.slice none 0 0,.slice none 0 0] _):=(FB.set G3.out 1 (.slice ax ts.length cx))
  have KtsG4:Hid (Kid _ _ (w3.setCell ⟨(w.heap.size+1),1,none⟩ (.slice ax ts.length cx)) _ _):=(Kid.set Kts.out (q:=⟨(w.heap.size+1),1,none⟩) (Nat.le_refl _) _)
  clear Kts
  generalize (w3.setCell ⟨(w.heap.size+1),1,none⟩ (.slice ax ts.length cx))=w4 at G4 KtsG4 ⊢
  clear y1 z1 G3
  refine (pmust_any sArrow (by decide) G4.out.rd).mono ?_
  intro e' w5 hO
  rcases hO with ⟨u,p5,x5,m5,rfl,rfl,r5,k5⟩ | ⟨y,c',a',m5,rfl,hc',k5⟩
  rotate_left
  · exact ⟨rfl,Out.bad (by rw [funcP,E1.out,PR.ok_andThen,nums1_eq,E2.out,PR.ok_andThen,E3.out,PR.ok_andThen,m5];rfl) hc' (G4.out.chg.trans k5)⟩
  have E5:Hid (mustP l e sArrow p3=.ok ((),p5)):=m5
  have G5:Hid (FB _ _ _ _ _ _ _ _ _ _ _):=G4.out.call r5 k5
  have KtsG46_:Hid (Kid _ _ _ _ _):=KtsG4.out.chg k5 (by omega)
  clear KtsG4
  clear m5 r5 k5 G4
  go_wp2_with fail
  refine (ptypesTop_any G5.out.rd).mono ?_
  intro e' w7 hO
  rcases hO with ⟨us,p7,x7,m7,rfl,⟨ay,cy,rfl,hi7⟩,r7,k7⟩ | ⟨y,c',a',m7,rfl,hc',k7⟩
  rotate_left
  · exact ⟨rfl,Out.bad (by rw [funcP,E1.out,PR.ok_andThen,nums1_eq,E2.out,PR.ok_andThen,E3.out,PR.ok_andThen,E5.out,PR.ok_andThen,m7];rfl) hc' (G5.out.chg.trans k7)⟩
  have E7:Hid (typesP l e p5=.ok (us,p7)):=m7
  have G7:Hid (FB _ _ _ _ _ _ _ _ _ _ _):=G5.out.call r7 k7
  have KtsG46_8_:Hid (Kid _ _ _ _ _):=KtsG46_.out.chg k7 (by omega)
  clear KtsG46_
  have Kus:Hid (Kid (typesL 6) (w.heap.size+1) w7 us [.slice ay us.length cy]):=Kid.mk hi7 G5.out.lt
  clear hi7
  clear m7 r7 k7 G5
  have y2:=cellOf G7.out.box 2 _ rfl
  have z2:=freeOf G7.out.box 2
  go_wp2_with fail
  have G9:Hid (FB _ (w7.setCell ⟨(w.heap.size+1),2,none⟩ (.slice ay us.length cy)) _ _ _ _ _ _ _ #[.int .i64 nr,.slice ax ts.length cx,.slice ay us.length cy,.slice none 0 0] _):=(FB.set G7.out 2 (.slice ay us.length cy))
  have KtsG46_8_G9:Hid (Kid _ _ (w7.setCell ⟨(w.heap.size+1),2,none⟩ (.slice ay us.length cy)) _ _):=(Kid.set KtsG46_8_.out (q:=⟨(w.heap.size+1),2,none⟩) (Nat.le_refl _) _)
  clear KtsG46_8_
  have KusG9:Hid (Kid _ _ (w7.setCell ⟨(w.heap.size+1),2,none⟩ (.slice ay us.length cy)) _ _):=(Kid.set Kus.out (q:=⟨(w.heap.size+1),2,none⟩) (Nat.le_refl _) _)
  clear Kus
  generalize (w7.setCell ⟨(w.heap.size+1),2,none⟩ (.slice ay us.length cy))=w9 at G9 KtsG46_8_G9 KusG9 ⊢
  clear y2 z2 G7
  refine (pmust_any [123] (by decide) G9.out.rd).mono ?_
  intro e' w10 hO
  rcases hO with ⟨u,p10,x10,m10,rfl,rfl,r10,k10⟩ | ⟨y,c',a',m10,rfl,hc',k10⟩
  rotate_left
  · exact ⟨rfl,Out.bad (by rw [funcP,E1.out,PR.ok_andThen,nums1_eq,E2.out,PR.ok_andThen,E3.out,PR.ok_andThen,E5.out,PR.ok_andThen,E7.out,PR.ok_andThen,m10];rfl) hc' (G9.out.chg.trans k10)⟩
  have E10:Hid (mustP l e [123] p7=.ok ((),p10)):=m10
  have G10:Hid (FB _ _ _ _ _ _ _ _ _ _ _):=G9.out.call r10 k10
  have KtsG46_8_G911_:Hid (Kid _ _ _ _ _):=KtsG46_8_G9.out.chg k10 (by omega)
  clear KtsG46_8_G9
  have KusG912_:Hid (Kid _ _ _ _ _):=KusG9.out.chg k10 (by omega)
  clear KusG9
  clear m10 r10 k10 G9
  go_wp2_with fail
  have P0:Hid (p10≤l.length):=G10.out.rd.le
  have L0:Hid ((w.heap.size+1) < w10.heap.size):=G10.out.lt
  have S0:Hid (Mid (typesL 6) (w.heap.size+1) w10.heap.size w10 ts [.slice ax ts.length cx]):=KtsG46_8_G911_.out.mid
  clear KtsG46_8_G911_
  have U0:Hid (Mid (typesL 6) (w.heap.size+1) w10.heap.size w10 us [.slice ay us.length cy]):=KusG912_.out.mid
  clear KusG912_
  generalize hlo:w10.heap.size=lo at S0 U0 L0
  have HLO:Hid (lo=w10.heap.size):=hlo.symm
  clear hlo
  go_loopw [20] (fun u wr=>∃ xs cs v p2 f,FB w wr b e l p2 w.heap.size (w.heap.size+1) #[.int .i64 0,.slice none 0 0,.slice none 0 0,.slice none 0 0] #[.int .i64 nr,.slice ax ts.length cx,.slice ay us.length cy,v] 38∧ARow (blockL 6) 48 wr lo v xs cs∧Mid (typesL 6) (w.heap.size+1) lo wr ts [.slice ax ts.length cx]∧Mid (typesL 6) (w.heap.size+1) lo wr us [.slice ay us.length cy]∧BlocksQ l e p10 p2 f xs∧lo≤wr.heap.size) (fun _ wr=>50000 - lenP ((wr.cell? ⟨(w.heap.size+1),3,none⟩).getD undef))
  case atStart=>exact ⟨[],[],.slice none 0 0,p10,l.length+1,G10.out,ARow.nil _ _ _ _,S0.out,U0.out,BlocksQ.start P0.out,by rw [HLO.out];exact Nat.le_refl _⟩
  case round =>
    obtain ⟨xs,cs,v,p2,f,hF,hA,hS,hU,hQ,hl⟩:=hrel
    obtain ⟨a,c,rfl⟩:=hA.formP
    have F2:Hid (FB w wr b e l p2 w.heap.size (w.heap.size+1) #[.int .i64 0,.slice none 0 0,.slice none 0 0,.slice none 0 0] #[.int .i64 nr,.slice ax ts.length cx,.slice ay us.length cy,(.slice a xs.length c)] 38):=hF
    have A2:Hid (ARow (blockL 6) 48 wr lo (.slice a xs.length c) xs cs):=hA
    have S2:Hid (Mid (typesL 6) (w.heap.size+1) lo wr ts [.slice ax ts.length cx]):=hS
    have U2:Hid (Mid (typesL 6) (w.heap.size+1) lo wr us [.slice ay us.length cy]):=hU
    have Q2:Hid (BlocksQ l e p10 p2 f xs):=hQ
    have LO2:Hid (lo≤wr.heap.size):=hl
    have hmeas:Hid (lenP ((wr.cell? ⟨(w.heap.size+1),3,none⟩).getD undef)=xs.length):=by show _=_;rw [cellOf hF.box 3 _ rfl];rfl
    have hcnt:xs.length≤40000:=by have h1:=hQ.cnt;have h2:=hQ.le;omega
    clear hF hA hS hU hQ hl
    clear G10 S0 U0
    go_wp2_with fail
    refine (took_any [125] (by decide) F2.out.rd).mono ?_
    intro e' w2 hO
    cases hw:isW l [125] p2 with
    | true =>
      rw [hw] at hO
      obtain ⟨rfl,r2,k2⟩:=hO
      have SB:Hid (blocksP l e (l.length+1) p10=.ok (xs,p2+1)):=Q2.out.stop hw
      have F3:Hid (FB w w2 b e l (p2+1) w.heap.size (w.heap.size+1) #[.int .i64 0,.slice none 0 0,.slice none 0 0,.slice none 0 0] #[.int .i64 nr,.slice ax ts.length cx,.slice ay us.length cy,(.slice a xs.length c)] 38):=F2.out.call r2 k2
      have Kxs:Hid (Kid (blockL 6).list (w.heap.size+1) w2 xs [.slice a xs.length c]):=(A2.out.chgP k2 (by have:=L0.out;omega)).kidP L0.out
      have Kts:Hid (Kid (typesL 6) (w.heap.size+1) w2 ts [.slice ax ts.length cx]):=(S2.out.chg k2 (by omega)).kid
      have Kus:Hid (Kid (typesL 6) (w.heap.size+1) w2 us [.slice ay us.length cy]):=(U2.out.chg k2 (by omega)).kid
      clear hw r2 k2 F2 A2 S2 U2 Q2 hmeas LO2 HLO
      obtain ⟨y0,y1,y2,y3⟩:=cells4 F3.out.box
      obtain ⟨u0,u1,u2,u3⟩:=cells4 F3.out.res
      obtain ⟨v0,v1,v2,v3⟩:=frees4 F3.out.res
      have hne:¬ (w.heap.size+1)=w.heap.size:=by omega
      go_wp2
      have DD:Hid (FinD _ _ _ _ _ _ _ #[.int .i64 nr,.slice ax ts.length cx,.slice ay us.length cy,.slice a xs.length c] ((((w2.setCell ⟨w.heap.size,0,none⟩ (.int .i64 nr)).setCell ⟨w.heap.size,1,none⟩ (.slice ax ts.length cx)).setCell ⟨w.heap.size,2,none⟩ (.slice ay us.length cy)).setCell ⟨w.heap.size,3,none⟩ (.slice a xs.length c))):=FB.fin F3.out [.int .i64 nr,.slice ax ts.length cx,.slice ay us.length cy,.slice a xs.length c] rfl
      have DKts:Hid (Kid _ _ ((((w2.setCell ⟨w.heap.size,0,none⟩ (.int .i64 nr)).setCell ⟨w.heap.size,1,none⟩ (.slice ax ts.length cx)).setCell ⟨w.heap.size,2,none⟩ (.slice ay us.length cy)).setCell ⟨w.heap.size,3,none⟩ (.slice a xs.length c)) _ _):=Kid.sets Kts.out (by omega) [.int .i64 nr,.slice ax ts.length cx,.slice ay us.length cy,.slice a xs.length c] 0
      clear Kts
      have DKus:Hid (Kid _ _ ((((w2.setCell ⟨w.heap.size,0,none⟩ (.int .i64 nr)).setCell ⟨w.heap.size,1,none⟩ (.slice ax ts.length cx)).setCell ⟨w.heap.size,2,none⟩ (.slice ay us.length cy)).setCell ⟨w.heap.size,3,none⟩ (.slice a xs.length c)) _ _):=Kid.sets Kus.out (by omega) [.int .i64 nr,.slice ax ts.length cx,.slice ay us.length cy,.slice a xs.length c] 0
      clear Kus
      have DKxs:Hid (Kid _ _ ((((w2.setCell ⟨w.heap.size,0,none⟩ (.int .i64 nr)).setCell ⟨w.heap.size,1,none⟩ (.slice ax ts.length cx)).setCell ⟨w.heap.size,2,none⟩ (.slice ay us.length cy)).setCell ⟨w.heap.size,3,none⟩ (.slice a xs.length c)) _ _):=Kid.sets Kxs.out (by omega) [.int .i64 nr,.slice ax ts.length cx,.slice ay us.length cy,.slice a xs.length c] 0
      clear Kxs
      clear y0 u0 v0 y1 u1 v1 y2 u2 v2 y3 u3 v3
      generalize ((((w2.setCell ⟨w.heap.size,0,none⟩ (.int .i64 nr)).setCell ⟨w.heap.size,1,none⟩ (.slice ax ts.length cx)).setCell ⟨w.heap.size,2,none⟩ (.slice ay us.length cy)).setCell ⟨w.heap.size,3,none⟩ (.slice a xs.length c))=w9 at DD DKts DKus DKxs ⊢
      obtain ⟨D1,D2,D3⟩:=DD.out
      obtain ⟨x0,x1,x2,x3⟩:=cells4 D1
      exact bodyPost_ret (v:=.agg #[.int .i64 nr,.slice ax ts.length cx,.slice ay us.length cy,.slice a xs.length c]) (by simp [results,Tryz.results70,go_sem,x0,x1,x2,x3]) rfl (Out.good (by rw [funcP,E1.out,PR.ok_andThen,nums1_eq,E2.out,PR.ok_andThen,E3.out,PR.ok_andThen,E5.out,PR.ok_andThen,E7.out,PR.ok_andThen,E10.out,PR.ok_andThen,SB.out,PR.ok_andThen];rfl) (⟨ax,cx,ay,cy,a,c,rfl,func_mk (x:=⟨nr,ts,us,xs⟩) (Kid.out DKts.out (by omega)) (Kid.out DKus.out (by omega)) (Kid.out DKxs.out (by omega)) (i64_of Bnr.out)⟩) D2 D3)
    | false =>
      rw [hw] at hO
      obtain ⟨rfl,r2,k2⟩:=hO
      have HW:Hid (isW l [125] p2=false):=hw
      have F3:Hid (FB w w2 b e l p2 w.heap.size (w.heap.size+1) #[.int .i64 0,.slice none 0 0,.slice none 0 0,.slice none 0 0] #[.int .i64 nr,.slice ax ts.length cx,.slice ay us.length cy,(.slice a xs.length c)] 38):=F2.out.call r2 k2
      have A3:Hid (ARow (blockL 6) 48 w2 lo (.slice a xs.length c) xs cs):=A2.out.chgP k2 (by have:=L0.out;omega)
      have S3:Hid (Mid (typesL 6) (w.heap.size+1) lo w2 ts [.slice ax ts.length cx]):=S2.out.chg k2 (by omega)
      have U3:Hid (Mid (typesL 6) (w.heap.size+1) lo w2 us [.slice ay us.length cy]):=U2.out.chg k2 (by omega)
      have LO3:Hid (lo≤w2.heap.size):=Nat.le_trans LO2.out k2.size
      clear hw r2 k2 F2 A2 S2 U2 LO2
      go_wp2_with fail
      have y2:=cellOf F3.out.box 3 _ rfl
      have hBl:=F3.out.lt
      have F3d:Hid (FB w w2.drew b e l p2 w.heap.size (w.heap.size+1) #[.int .i64 0,.slice none 0 0,.slice none 0 0,.slice none 0 0] #[.int .i64 nr,.slice ax ts.length cx,.slice ay us.length cy,(.slice a xs.length c)] 38):=F3.out.drew
      have A3d:Hid (ARow (blockL 6) 48 w2.drew lo (.slice a xs.length c) xs cs):=A3.out.below (below_drew _)
      have S3d:Hid (Mid (typesL 6) (w.heap.size+1) lo w2.drew ts [.slice ax ts.length cx]):=S3.out.below (below_drew _)
      have U3d:Hid (Mid (typesL 6) (w.heap.size+1) lo w2.drew us [.slice ay us.length cy]):=U3.out.below (below_drew _)
      clear F3 A3 S3 U3
      go_region_law (first
        | (refine step_call_fn rfl 90 (.tmp 25) 83 rfl enters_block (ptrP b) (by simp [Act.eval,Act.put]) (pblock_any F3d.out.rd) ?_
           intro e' w4 hO
           rcases hO with ⟨x,p4,x4,m4,rfl,⟨q0,n0,q1,n1,q2,n2,q3,n3,q4,n4,q5,n5,q6,n6,rfl,hi4⟩,r4,k4⟩ | ⟨y,c',a',m4,rfl,hc',k4⟩
           rotate_left
           · obtain ⟨y',hy⟩:=Q2.out.bad HW.out m4
             exact ⟨rfl,Out.bad (by rw [funcP,E1.out,PR.ok_andThen,nums1_eq,E2.out,PR.ok_andThen,E3.out,PR.ok_andThen,E5.out,PR.ok_andThen,E7.out,PR.ok_andThen,E10.out,PR.ok_andThen,hy];rfl) hc' (F3d.out.chg.trans k4)⟩
           have M4:Hid (bP l e p2=.ok (x,p4)):=m4
           have F4:Hid (FB w w4 b e l p4 w.heap.size (w.heap.size+1) #[.int .i64 0,.slice none 0 0,.slice none 0 0,.slice none 0 0] #[.int .i64 nr,.slice ax ts.length cx,.slice ay us.length cy,(.slice a xs.length c)] 38):=F3d.out.call r4 k4
           have A4:Hid (ARow (blockL 6) 48 w4 lo (.slice a xs.length c) xs cs):=A3d.out.chgP k4 (by have:=L0.out;omega)
           have S4:Hid (Mid (typesL 6) (w.heap.size+1) lo w4 ts [.slice ax ts.length cx]):=S3d.out.chg k4 (by omega)
           have U4:Hid (Mid (typesL 6) (w.heap.size+1) lo w4 us [.slice ay us.length cy]):=U3d.out.chg k4 (by omega)
           have y4:=cellOf F4.out.box 3 _ rfl
           have hB4:=F4.out.lt
           have hown:Hid (w4.ownsRow lo 48 12 (.slice a xs.length c) xs.length cs):=A4.out.own
           have hlo4:Hid (lo≤w4.heap.size):=Nat.le_trans LO3.out k4.size
           have I4:Hid ((blockL 6).In w4 (fun g=>w2.heap.size≤g) x [.int .i64 x.regs,.slice q0 x.params.length n0,.slice q1 x.code.length n1,.int .i64 x.fin.op,.int .i64 x.fin.a,.int .i64 x.fin.yes.block,.slice q2 x.fin.yes.regs.length n2,.slice q3 x.fin.yes.args.length n3,.int .i64 x.fin.no.block,.slice q4 x.fin.no.regs.length n4,.slice q5 x.fin.no.args.length n5,.slice q6 x.fin.args.length n6]):=hi4
           have LE4:Hid (p4≤l.length):=r4.le
           clear m4 r4 k4 hi4
           dsimp only [Upon])
        | (refine step_append_lies _ rfl (.tmp 24) (.tmp 27) 36 rfl lo 48 i0 (.agg #[.int .i64 0,.slice none 0 0,.slice none 0 0,.int .i64 0,.int .i64 0,.int .i64 0,.slice none 0 0,.slice none 0 0,.int .i64 0,.slice none 0 0,.slice none 0 0,.slice none 0 0]) 12 208 pUnderB hi hz0 hz1 hz2 rfl (by decide) (.slice a xs.length c) xs.length cs (by simp [Act.eval,Act.put]) (hown.out.alloc _) ⟨w4.heap.size,0,none⟩ 1 1 [.int .i64 x.regs,.slice q0 x.params.length n0,.slice q1 x.code.length n1,.int .i64 x.fin.op,.int .i64 x.fin.a,.int .i64 x.fin.yes.block,.slice q2 x.fin.yes.regs.length n2,.slice q3 x.fin.yes.args.length n3,.int .i64 x.fin.no.block,.slice q4 x.fin.no.regs.length n4,.slice q5 x.fin.no.args.length n5,.slice q6 x.fin.args.length n6] (by simp [Act.eval,Act.put]) rfl (newsP _ [_,_,_,_,_,_,_,_,_,_,_,_] _) (pOne12 _ _ _ _ _ _ _ _ _ _ _ _ _ _ _ _ _ _ _ _ _ _ _ _ _ _) (by decide) (by unfold maxLen;omega) (by omega) (by have:=hlo4.out;simp;omega) (w4.heap.size+1) (by simp) ?_
           intro g2 cap2 w9 h1 hgrow hat hlt1
           have I5:(blockL 6).In (w4.alloc (.cells #[.int .i64 x.regs,.slice q0 x.params.length n0,.slice q1 x.code.length n1,.int .i64 x.fin.op,.int .i64 x.fin.a,.int .i64 x.fin.yes.block,.slice q2 x.fin.yes.regs.length n2,.slice q3 x.fin.yes.args.length n3,.int .i64 x.fin.no.block,.slice q4 x.fin.no.regs.length n4,.slice q5 x.fin.no.args.length n5,.slice q6 x.fin.args.length n6] 48)) (fun g=>lo≤g∧(Value.slice a xs.length c).ownBlock≠some g) x [.int .i64 x.regs,.slice q0 x.params.length n0,.slice q1 x.code.length n1,.int .i64 x.fin.op,.int .i64 x.fin.a,.int .i64 x.fin.yes.block,.slice q2 x.fin.yes.regs.length n2,.slice q3 x.fin.yes.args.length n3,.int .i64 x.fin.no.block,.slice q4 x.fin.no.regs.length n4,.slice q5 x.fin.no.args.length n5,.slice q6 x.fin.args.length n6] :=
             Lay.alloc (Lay.mono I4.out (fun k hk _=>⟨Nat.le_trans LO3.out hk,fun e=>by have:k < w2.heap.size:=(A3d.out.lo_le e).2;omega⟩)) _
           have A5:=A4.out.below (bel1 w4 (.cells #[.int .i64 x.regs,.slice q0 x.params.length n0,.slice q1 x.code.length n1,.int .i64 x.fin.op,.int .i64 x.fin.a,.int .i64 x.fin.yes.block,.slice q2 x.fin.yes.regs.length n2,.slice q3 x.fin.yes.args.length n3,.int .i64 x.fin.no.block,.slice q4 x.fin.no.regs.length n4,.slice q5 x.fin.no.args.length n5,.slice q6 x.fin.args.length n6] 48))
           have F9:Hid (FB w w9 b e l p4 w.heap.size (w.heap.size+1) #[.int .i64 0,.slice none 0 0,.slice none 0 0,.slice none 0 0] #[.int .i64 nr,.slice ax ts.length cx,.slice ay us.length cy,(.slice a xs.length c)] 38):=(F4.out.alloc _).grown hgrow (fun k hk=>by have:=(A5.lo_le hk).1;have:=L0.out;omega)
           have A9:Hid (ARow (blockL 6) 48 w9 lo (.slice (some ⟨g2,0,none⟩) (xs.length+1) cap2) (xs++[x]) (cs++[.int .i64 x.regs,.slice q0 x.params.length n0,.slice q1 x.code.length n1,.int .i64 x.fin.op,.int .i64 x.fin.a,.int .i64 x.fin.yes.block,.slice q2 x.fin.yes.regs.length n2,.slice q3 x.fin.yes.args.length n3,.int .i64 x.fin.no.block,.slice q4 x.fin.no.regs.length n4,.slice q5 x.fin.no.args.length n5,.slice q6 x.fin.args.length n6])):=ARow.push A5 I5 hgrow (by simpa using hat) h1
           have S9:Hid (Mid (typesL 6) (w.heap.size+1) lo w9 ts [.slice ax ts.length cx]):=(S4.out.below (bel1 _ _)).grown hgrow (fun k hk=>(A5.lo_le hk).1)
           have U9:Hid (Mid (typesL 6) (w.heap.size+1) lo w9 us [.slice ay us.length cy]):=(U4.out.below (bel1 _ _)).grown hgrow (fun k hk=>(A5.lo_le hk).1)
           have LO9:Hid (lo≤w9.heap.size):=by have h8:=hgrow.size;have h7:=hlo4.out;have h6:=(bel1 w4 (.cells #[.int .i64 x.regs,.slice q0 x.params.length n0,.slice q1 x.code.length n1,.int .i64 x.fin.op,.int .i64 x.fin.a,.int .i64 x.fin.yes.block,.slice q2 x.fin.yes.regs.length n2,.slice q3 x.fin.yes.args.length n3,.int .i64 x.fin.no.block,.slice q4 x.fin.no.regs.length n4,.slice q5 x.fin.no.args.length n5,.slice q6 x.fin.args.length n6] 48)).size;exact Nat.le_trans h7 (Nat.le_trans h6 h8)
           have y9:=cellOf F9.out.box 3 _ rfl
           have z9:=freeOf F9.out.box 3
           clear h1 hgrow hat hlt1 I5 A5))
      all_goals
        have F10:Hid (FB w (w9.setCell ⟨(w.heap.size+1),3,none⟩ (.slice (some ⟨g2,0,none⟩) (xs.length+1) cap2)) b e l p4 w.heap.size (w.heap.size+1) #[.int .i64 0,.slice none 0 0,.slice none 0 0,.slice none 0 0] #[.int .i64 nr,.slice ax ts.length cx,.slice ay us.length cy,(.slice (some ⟨g2,0,none⟩) (xs.length+1) cap2)] 38):=FB.set F9.out 3 (.slice (some ⟨g2,0,none⟩) (xs.length+1) cap2)
        have A10:Hid (ARow (blockL 6) 48 (w9.setCell ⟨(w.heap.size+1),3,none⟩ (.slice (some ⟨g2,0,none⟩) (xs.length+1) cap2)) lo (.slice (some ⟨g2,0,none⟩) (xs.length+1) cap2) (xs++[x]) (cs++[.int .i64 x.regs,.slice q0 x.params.length n0,.slice q1 x.code.length n1,.int .i64 x.fin.op,.int .i64 x.fin.a,.int .i64 x.fin.yes.block,.slice q2 x.fin.yes.regs.length n2,.slice q3 x.fin.yes.args.length n3,.int .i64 x.fin.no.block,.slice q4 x.fin.no.regs.length n4,.slice q5 x.fin.no.args.length n5,.slice q6 x.fin.args.length n6])):=ARow.setOther A9.out L0.out _
        have S10:Hid (Mid (typesL 6) (w.heap.size+1) lo (w9.setCell ⟨(w.heap.size+1),3,none⟩ (.slice (some ⟨g2,0,none⟩) (xs.length+1) cap2)) ts [.slice ax ts.length cx]):=Mid.set S9.out (Nat.le_refl _) _
        have U10:Hid (Mid (typesL 6) (w.heap.size+1) lo (w9.setCell ⟨(w.heap.size+1),3,none⟩ (.slice (some ⟨g2,0,none⟩) (xs.length+1) cap2)) us [.slice ay us.length cy]):=Mid.set U9.out (Nat.le_refl _) _
        have LO10:Hid (lo≤(w9.setCell ⟨(w.heap.size+1),3,none⟩ (.slice (some ⟨g2,0,none⟩) (xs.length+1) cap2)).heap.size):=by show _≤_;have:=LO9.out;simpa using this
        have Q10:Hid (BlocksQ l e p10 p4 (f - 1) (xs++[x])):=Q2.out.go M4.out LE4.out
        have hm10:Hid (lenP (((w9.setCell ⟨(w.heap.size+1),3,none⟩ (.slice (some ⟨g2,0,none⟩) (xs.length+1) cap2)).cell? ⟨(w.heap.size+1),3,none⟩).getD undef)=xs.length+1):=by show _=_;rw [cellOf F10.out.box 3 _ rfl];rfl
        clear F9 A9 S9 S4 U9 U4 LO9 y9 z9 y4 hB4 hown hlo4 I4 F4 A4
        generalize (w9.setCell ⟨(w.heap.size+1),3,none⟩ (.slice (some ⟨g2,0,none⟩) (xs.length+1) cap2))=w10 at F10 A10 S10 U10 LO10 hm10 ⊢
        go_wp2
        go_roundw
        case rel=>exact ⟨xs++[x],_,_,p4,f - 1,F10.out,A10.out,S10.out,U10.out,Q10.out,LO10.out⟩
        case measure=>rw [hm10.out,hmeas.out];omega
def VMod (w0 : World) : World → List (MFunc 6) → Value → Prop := fun w' m v => ∃ a c, v = .agg #[.slice a m.length c] ∧ (modL 6).In w' (fun g => w0.heap.size ≤ g) m [.slice a m.length c]
theorem pOne4 (o1 : Int) (a0 a1 a2 : Option Addr) (l0 c0 l1 c1 l2 c2 : Nat) : ∀ u ∈ [Value.int .i64 o1, .slice a0 l0 c0, .slice a1 l1 c1, .slice a2 l2 c2], u.oneCell' = true := by
  intro u h
  simp at h
  rcases h with rfl | rfl | rfl | rfl <;> rfl
theorem pmodule_any {w : World} {b e : Nat} {l : List Tk} (h : PAt w b l e 0) :
    Calls Tryz.prog 35 #[ptrP b] w fun en w'=>Out b e l (funcsP l e (l.length+1) 0) w (VMod w) en w':=by
  have hbw:=h.lt
  have hlen:=h.len
  have F0:Hid (FB w ((w.alloc (.cells #[.slice none 0 0] 25)).alloc (.cells #[.slice none 0 0] 25)) b e l 0 w.heap.size (w.heap.size+1) #[.slice none 0 0] #[.slice none 0 0] 25):=FB.start h
  obtain ⟨i0,hi,hz0,hz1,hz2⟩:=pInfoF
  clear h
  go_enter Tryz.func35,Tryz.ntmps35
  go_wp2_with fail
  have L0:Hid ((w.heap.size+1) < ((w.alloc (.cells #[.slice none 0 0] 25)).alloc (.cells #[.slice none 0 0] 25)).heap.size):=F0.out.lt
  generalize (w.alloc (.cells #[.slice none 0 0] 25)).alloc (.cells #[.slice none 0 0] 25)=w0 at F0 L0 ⊢
  generalize hlo:w0.heap.size=lo at L0
  have HLO:Hid (lo=w0.heap.size):=hlo.symm
  clear hlo
  go_loopw [4] (fun u wr=>∃ xs cs v p2 f,FB w wr b e l p2 w.heap.size (w.heap.size+1) #[.slice none 0 0] #[v] 25∧ARow (funcL 6) 38 wr lo v xs cs∧FuncsQ l e p2 f xs∧lo≤wr.heap.size) (fun _ wr=>50000 - lenP ((wr.cell? ⟨(w.heap.size+1),0,none⟩).getD undef))
  case atStart=>exact ⟨[],[],.slice none 0 0,0,l.length+1,F0.out,ARow.nil _ _ _ _,FuncsQ.start,by rw [HLO.out];exact Nat.le_refl _⟩
  case round =>
    obtain ⟨xs,cs,v,p2,f,hF,hA,hQ,hl⟩:=hrel
    obtain ⟨a,c,rfl⟩:=hA.formP
    have F2:Hid (FB w wr b e l p2 w.heap.size (w.heap.size+1) #[.slice none 0 0] #[(.slice a xs.length c)] 25):=hF
    have A2:Hid (ARow (funcL 6) 38 wr lo (.slice a xs.length c) xs cs):=hA
    have Q2:Hid (FuncsQ l e p2 f xs):=hQ
    have LO2:Hid (lo≤wr.heap.size):=hl
    have hmeas:Hid (lenP ((wr.cell? ⟨(w.heap.size+1),0,none⟩).getD undef)=xs.length):=by show _=_;rw [cellOf hF.box 0 _ rfl];rfl
    have hcnt:xs.length≤40000:=by have h1:=hQ.cnt;have h2:=hQ.le;omega
    clear hF hA hQ hl F0
    by_cases hlt:p2 < l.length
    · have hx:l[p2]?=some l[p2]:=List.getElem?_eq_getElem hlt
      generalize l[p2]=tk at hx
      obtain ⟨gg,oo,nn,cc,h1,hn,hc,hn4,hgg,-,-,-,-⟩:=F2.out.rd.tok hx
      have t0:=cellOf h1 0 _ rfl
      have hpos:(0:Int) < (nn:Int)+1:=by omega
      have HLT:Hid (p2 < l.length):=hlt
      have F3:=F2
      have A3:=A2
      have LO3:=LO2
      clear F2 A2 LO2
      clear h1 hn hc hx hgg hlt
      go_wp2_with fail
      have y2:=cellOf F3.out.box 0 _ rfl
      have hBl:=F3.out.lt
      have F3d:Hid (FB w wr.drew b e l p2 w.heap.size (w.heap.size+1) #[.slice none 0 0] #[(.slice a xs.length c)] 25):=F3.out.drew
      have A3d:Hid (ARow (funcL 6) 38 wr.drew lo (.slice a xs.length c) xs cs):=A3.out.below (below_drew _)
      clear F3 A3
      go_region_law (first
        | (refine step_call_fn rfl 70 (.tmp 12) 83 rfl enters_function (ptrP b) (by simp [Act.eval,Act.put]) (pfunction_any F3d.out.rd) ?_
           intro e' w4 hO
           rcases hO with ⟨x,p4,x4,m4,rfl,⟨q1,n1,q2,n2,q3,n3,rfl,hi4⟩,r4,k4⟩ | ⟨y,c',a',m4,rfl,hc',k4⟩
           rotate_left
           · exact ⟨rfl,Out.bad (Q2.out.bad HLT.out m4) hc' (F3d.out.chg.trans k4)⟩
           have M4:Hid (funcP l e p2=.ok (x,p4)):=m4
           have F4:Hid (FB w w4 b e l p4 w.heap.size (w.heap.size+1) #[.slice none 0 0] #[(.slice a xs.length c)] 25):=F3d.out.call r4 k4
           have A4:Hid (ARow (funcL 6) 38 w4 lo (.slice a xs.length c) xs cs):=A3d.out.chgP k4 (by have:=L0.out;omega)
           have y4:=cellOf F4.out.box 0 _ rfl
           have hB4:=F4.out.lt
           have hown:Hid (w4.ownsRow lo 38 4 (.slice a xs.length c) xs.length cs):=A4.out.own
           have hlo4:Hid (lo≤w4.heap.size):=Nat.le_trans LO3.out k4.size
           have I4:Hid ((funcL 6).In w4 (fun g=>wr.heap.size≤g) x [.int .i64 x.regs,.slice q1 x.params.length n1,.slice q2 x.results.length n2,.slice q3 x.blocks.length n3]):=hi4
           have LE4:Hid (p4≤l.length):=r4.le
           clear m4 r4 k4 hi4
           dsimp only [Upon])
        | (refine step_append_lies _ rfl (.tmp 11) (.tmp 14) 23 rfl lo 38 i0 (.agg #[.int .i64 0,.slice none 0 0,.slice none 0 0,.slice none 0 0]) 4 80 pUnderF hi hz0 hz1 hz2 rfl (by decide) (.slice a xs.length c) xs.length cs (by simp [Act.eval,Act.put]) (hown.out.alloc _) ⟨w4.heap.size,0,none⟩ 1 1 [.int .i64 x.regs,.slice q1 x.params.length n1,.slice q2 x.results.length n2,.slice q3 x.blocks.length n3] (by simp [Act.eval,Act.put]) rfl (newsP _ [_,_,_,_] _) (pOne4 _ _ _ _ _ _ _ _ _ _) (by decide) (by unfold maxLen;omega) (by omega) (by have:=hlo4.out;simp;omega) (w4.heap.size+1) (by simp) ?_
           intro g2 cap2 w9 h1 hgrow hat hlt1
           have I5:(funcL 6).In (w4.alloc (.cells #[.int .i64 x.regs,.slice q1 x.params.length n1,.slice q2 x.results.length n2,.slice q3 x.blocks.length n3] 38)) (fun g=>lo≤g∧(Value.slice a xs.length c).ownBlock≠some g) x [.int .i64 x.regs,.slice q1 x.params.length n1,.slice q2 x.results.length n2,.slice q3 x.blocks.length n3] :=
             Lay.alloc (Lay.mono I4.out (fun k hk _=>⟨Nat.le_trans LO3.out hk,fun e=>by have:k < wr.heap.size:=(A3d.out.lo_le e).2;omega⟩)) _
           have A5:=A4.out.below (bel1 w4 (.cells #[.int .i64 x.regs,.slice q1 x.params.length n1,.slice q2 x.results.length n2,.slice q3 x.blocks.length n3] 38))
           have F9:Hid (FB w w9 b e l p4 w.heap.size (w.heap.size+1) #[.slice none 0 0] #[(.slice a xs.length c)] 25):=(F4.out.alloc _).grown hgrow (fun k hk=>by have:=(A5.lo_le hk).1;have:=L0.out;omega)
           have A9:Hid (ARow (funcL 6) 38 w9 lo (.slice (some ⟨g2,0,none⟩) (xs.length+1) cap2) (xs++[x]) (cs++[.int .i64 x.regs,.slice q1 x.params.length n1,.slice q2 x.results.length n2,.slice q3 x.blocks.length n3])):=ARow.push A5 I5 hgrow (by simpa using hat) h1
           have LO9:Hid (lo≤w9.heap.size):=by have h8:=hgrow.size;have h7:=hlo4.out;have h6:=(bel1 w4 (.cells #[.int .i64 x.regs,.slice q1 x.params.length n1,.slice q2 x.results.length n2,.slice q3 x.blocks.length n3] 38)).size;exact Nat.le_trans h7 (Nat.le_trans h6 h8)
           have y9:=cellOf F9.out.box 0 _ rfl
           have z9:=freeOf F9.out.box 0
           clear h1 hgrow hat hlt1 I5 A5))
      all_goals
        have F10:Hid (FB w (w9.setCell ⟨(w.heap.size+1),0,none⟩ (.slice (some ⟨g2,0,none⟩) (xs.length+1) cap2)) b e l p4 w.heap.size (w.heap.size+1) #[.slice none 0 0] #[(.slice (some ⟨g2,0,none⟩) (xs.length+1) cap2)] 25):=FB.set F9.out 0 (.slice (some ⟨g2,0,none⟩) (xs.length+1) cap2)
        have A10:Hid (ARow (funcL 6) 38 (w9.setCell ⟨(w.heap.size+1),0,none⟩ (.slice (some ⟨g2,0,none⟩) (xs.length+1) cap2)) lo (.slice (some ⟨g2,0,none⟩) (xs.length+1) cap2) (xs++[x]) (cs++[.int .i64 x.regs,.slice q1 x.params.length n1,.slice q2 x.results.length n2,.slice q3 x.blocks.length n3])):=ARow.setOther A9.out L0.out _
        have LO10:Hid (lo≤(w9.setCell ⟨(w.heap.size+1),0,none⟩ (.slice (some ⟨g2,0,none⟩) (xs.length+1) cap2)).heap.size):=by show _≤_;have:=LO9.out;simpa using this
        have Q10:Hid (FuncsQ l e p4 (f - 1) (xs++[x])):=Q2.out.go HLT.out M4.out LE4.out
        have hm10:Hid (lenP (((w9.setCell ⟨(w.heap.size+1),0,none⟩ (.slice (some ⟨g2,0,none⟩) (xs.length+1) cap2)).cell? ⟨(w.heap.size+1),0,none⟩).getD undef)=xs.length+1):=by show _=_;rw [cellOf F10.out.box 0 _ rfl];rfl
        clear F9 A9  LO9 y9 z9 y4 hB4 hown hlo4 I4 F4 A4
        generalize (w9.setCell ⟨(w.heap.size+1),0,none⟩ (.slice (some ⟨g2,0,none⟩) (xs.length+1) cap2))=w10 at F10 A10  LO10 hm10 ⊢
        go_wp2
        go_roundw
        case rel=>exact ⟨xs++[x],_,_,p4,f - 1,F10.out,A10.out,Q10.out,LO10.out⟩
        case measure=>rw [hm10.out,hmeas.out];omega
    · obtain ⟨aa,cc,h1⟩:=F2.out.rd.none_left hlt
      have t0:=cellOf h1 0 _ rfl
      have SF:Hid (funcsP l e (l.length+1) 0=.ok (xs,p2)):=Q2.out.stop hlt
      have Kxs:Hid (Kid (funcL 6).list (w.heap.size+1) wr xs [.slice a xs.length c]):=A2.out.kidP L0.out
      have F3:=F2
      clear F2
      clear h1 hlt Q2 A2 hmeas LO2 HLO
      have y0:=cellOf F3.out.box 0 _ rfl
      have u0:=cellOf F3.out.res 0 _ rfl
      have v0:=freeOf F3.out.res 0
      have hne:¬ (w.heap.size+1)=w.heap.size:=by omega
      go_wp2
      have DD:Hid (FinD _ _ _ _ _ _ _ #[.slice a xs.length c] (wr.setCell ⟨w.heap.size,0,none⟩ (.slice a xs.length c))):=FB.fin F3.out [.slice a xs.length c] rfl
      have DKxs:Hid (Kid _ _ (wr.setCell ⟨w.heap.size,0,none⟩ (.slice a xs.length c)) _ _):=Kid.sets Kxs.out (by omega) [.slice a xs.length c] 0
      clear Kxs
      clear y0 u0 v0
      generalize (wr.setCell ⟨w.heap.size,0,none⟩ (.slice a xs.length c))=w9 at DD DKxs ⊢
      obtain ⟨D1,D2,D3⟩:=DD.out
      have x0:=cellOf D1 0 _ rfl
      exact bodyPost_ret (v:=.agg #[.slice a xs.length c]) (by simp [results,Tryz.results35,go_sem,x0]) rfl (Out.good (SF.out) (⟨a,c,rfl,Kid.out DKxs.out (by omega)⟩) D2 D3)
def CatchOut (M Fb : Nat) (c a : Int) (w w' : World) : Prop := Blk w' M #[.slice none 0 0] 25 ∧ Blk w' Fb #[.int .i64 c, .int .i64 a] 27 ∧ Step (fun k => k = M ∨ k = Fb) (fun k => k = M ∨ k = Fb) w w'
theorem catch_panicking {w : World} {M Fb : Nat} (c a : Int) (hM : Blk w M #[.slice none 0 0] 25) (hF : Blk w Fb #[.int .i64 0, .int .i64 0] 27) (hne : M ≠ Fb) :
    CallsD Tryz.prog 34 #[ptrP M,ptrP Fb] (.panicking (gave c a)) w fun e u' w' =>
      e=.returned (.tuple #[])∧u'=.panicking [{ v:=.iface 81 (.agg #[.int .i64 c,.int .i64 a]),recovered:=true }]∧CatchOut M Fb c a w w':=by
  have hMl:=hM.lt
  have hFl:=hF.lt
  have yM:=cellOf hM 0 _ rfl
  have zM:=freeOf hM 0
  have yF0:=cellOf hF 0 _ rfl
  have zF0:=freeOf hF 0
  have yF1:=cellOf hF 1 _ rfl
  have zF1:=freeOf hF 1
  refine callsD_of_wpS Tryz.func34 rfl fun c₀ cs hu=>?_
  apply wpS_seq
  apply wpS_region
  simp [wpOpsS,go_sem,recoverD,hu,Tryz.ntmps34,Exit.thenS]
  rw [show (#[ptrP M,ptrP Fb]++((Array.replicate 16 undef).setIfInBounds 3 (Value.iface 81 (.agg #[.int .i64 c,.int .i64 a]))).setIfInBounds 0 (Value.iface 81 (.agg #[.int .i64 c,.int .i64 a])):Array Value)=#[ptrP M,ptrP Fb,Value.iface 81 (.agg #[.int .i64 c,.int .i64 a]),undef,undef,Value.iface 81 (.agg #[.int .i64 c,.int .i64 a]),undef,undef,undef,undef,undef,undef,undef,undef,undef,undef,undef,undef] from rfl]
  refine wpS_of_wp ?_
  have hta:∀ w:World,(Instr.typeAssert (.iface 81 (.agg #[.int .i64 c,.int .i64 a])) 20 81 true).run Tryz.prog w=.ok (.tuple #[.agg #[.int .i64 c,.int .i64 a],.bool true]) w:=fun _=>by kernel_rfl
  have hM2:Hid (Blk (w.alloc (.cells #[.int .i64 c,.int .i64 a] 81)) M #[.slice none 0 0] 25):=hM.alloc _
  have hF2:Hid (Blk (w.alloc (.cells #[.int .i64 c,.int .i64 a] 81)) Fb #[.int .i64 0,.int .i64 0] 27):=hF.alloc _
  have hX2:Hid (Blk (w.alloc (.cells #[.int .i64 c,.int .i64 a] 81)) w.heap.size #[.int .i64 c,.int .i64 a] 81):=Blk.new _ _ _
  have hS2:Hid (Step (fun k=>k=M ∨ k=Fb) (fun k=>k=M ∨ k=Fb) w (w.alloc (.cells #[.int .i64 c,.int .i64 a] 81))):=(Step.refl _ w).alloc _
  clear hM hF
  go_wp2_with fail
  clear yM zM yF0 zF0 yF1 zF1
  generalize w.alloc (.cells #[.int .i64 c,.int .i64 a] 81)=w2 at hM2 hF2 hX2 hS2 ⊢
  have yM:=cellOf hM2.out 0 _ rfl
  have zM:=freeOf hM2.out 0
  have yF0:=cellOf hF2.out 0 _ rfl
  have zF0:=freeOf hF2.out 0
  have yF1:=cellOf hF2.out 1 _ rfl
  have zF1:=freeOf hF2.out 1
  have x0:=cellOf hX2.out 0 _ rfl
  have x1:=cellOf hX2.out 1 _ rfl
  have n1:¬ w.heap.size=M:=by omega
  have n2:¬ w.heap.size=Fb:=by omega
  have n3:¬ M=Fb:=hne
  have n4:¬ Fb=M:=fun e=>hne e.symm
  clear hta
  go_region
  have D1:=(((Blk.setOther (show Blk _ M #[.slice none 0 0] 25 by simpa using blockSet hM2.out 0 (.slice none 0 0)) (p:=⟨Fb,0,none⟩) n4 (.int .i64 c)).setOther (p:=⟨Fb,1,none⟩) n4 (.int .i64 a)))
  have D2:Blk (((w2.setCell ⟨M,0,none⟩ (.slice none 0 0)).setCell ⟨Fb,0,none⟩ (.int .i64 c)).setCell ⟨Fb,1,none⟩ (.int .i64 a)) Fb #[.int .i64 c,.int .i64 a] 27:=by
    have:=blockSet (blockSet (hF2.out.setOther (p:=⟨M,0,none⟩) n3 (.slice none 0 0)) 0 (.int .i64 c)) 1 (.int .i64 a)
    simpa using this
  have D3:Step (fun k=>k=M ∨ k=Fb) (fun k=>k=M ∨ k=Fb) w (((w2.setCell ⟨M,0,none⟩ (.slice none 0 0)).setCell ⟨Fb,0,none⟩ (.int .i64 c)).setCell ⟨Fb,1,none⟩ (.int .i64 a)).drew:=(((hS2.out.setCell (.inl rfl) _).setCell (.inr rfl) _).setCell (.inr rfl) _).drew
  have D:CatchOut M Fb c a w (((w2.setCell ⟨M,0,none⟩ (.slice none 0 0)).setCell ⟨Fb,0,none⟩ (.int .i64 c)).setCell ⟨Fb,1,none⟩ (.int .i64 a)).drew:=⟨D1,D2,D3⟩
  exact (show bodyPostS _ _ _ _ _ _ _ _ _ from ⟨rfl,_,rfl,.tuple #[],by simp [results,Tryz.results34,go_sem],rfl,rfl,D⟩)
theorem catch_idle {w : World} (M Fb : Nat) :
    CallsD Tryz.prog 34 #[ptrP M,ptrP Fb] .returning w fun e u' w'=>e=.returned (.tuple #[])∧u'=.returning∧w'=w:=by
  refine callsD_of_wpS Tryz.func34 rfl fun c₀ cs hu=>?_
  apply wpS_seq
  apply wpS_region
  simp [wpOpsS,go_sem,recoverD,hu,Tryz.ntmps34,Exit.thenS]
  rw [show (#[ptrP M,ptrP Fb]++((Array.replicate 16 undef).setIfInBounds 3 (Value.nilIface)).setIfInBounds 0 (Value.nilIface):Array Value)=#[ptrP M,ptrP Fb,Value.nilIface,undef,undef,Value.nilIface,undef,undef,undef,undef,undef,undef,undef,undef,undef,undef,undef,undef] from rfl]
  refine wpS_of_wp ?_
  go_wp2_with fail
  cases c₀
  simp_all [bodyPostS,results,Tryz.results34]
def ReadOut (r : PR (List (MFunc 6))) (w : World) (en : Ending) (w' : World) : Prop :=
  (∃ m q a c,r=.ok (m,q)∧en=.returned (.tuple #[.agg #[.slice a m.length c],.agg #[.int .i64 0,.int .i64 0]])∧(modL 6).In w' (fun g=>w.heap.size≤g) m [.slice a m.length c]∧Below w.heap.size w w') ∨
  (∃ y,∃ c a:Int,r=.error y∧en=.returned (.tuple #[.agg #[.slice none 0 0],.agg #[.int .i64 c,.int .i64 a]])∧c≠0∧Below w.heap.size w w')
theorem read_any {w : World} {l : List Tk} {e : Nat} {a : Option Addr} {c : Nat} (hl : tkL.list.In w (fun _ => True) l [.slice a l.length c]) (hc : l.length ≤ c) (hn : l.length ≤ 40000) (hf : ∀ x ∈ l, x.fine) :
    Calls Tryz.prog 15 #[.slice a l.length c,.int .i64 e] w fun en w'=>ReadOut (funcsP l e (l.length+1) 0) w en w':=by
  have hmf:∀ (fn:Fn) (first cap:Array Value) (w:World),(Instr.makeFunc fn first cap).run Tryz.prog w=.ok (.func fn first cap) w:=fun _ _ _ _=>rfl
  have P0:Hid (PAt (((w.alloc (.cells #[.slice none 0 0] 25)).alloc (.cells #[.int .i64 0,.int .i64 0] 27)).alloc (.cells #[.slice a l.length c,.int .i64 e] 85)) (w.heap.size+1+1) l e 0):=by
    refine ⟨⟨a,c,?_,?_,by simpa using hc⟩,Nat.zero_le _,hn,hf⟩
    · have:=Blk.new ((w.alloc (.cells #[.slice none 0 0] 25)).alloc (.cells #[.int .i64 0,.int .i64 0] 27)) #[.slice a l.length c,.int .i64 e] 85
      simpa using this
    · rw [List.drop_zero]
      exact Lay.alloc (Lay.alloc (Lay.alloc (Lay.mono hl (fun k _ hk=>by omega)) _) _) _
  have M0:Hid (Blk (((w.alloc (.cells #[.slice none 0 0] 25)).alloc (.cells #[.int .i64 0,.int .i64 0] 27)).alloc (.cells #[.slice a l.length c,.int .i64 e] 85)) w.heap.size #[.slice none 0 0] 25):=(Blk.new1 _ _ _ _ _).alloc _
  have F0:Hid (Blk (((w.alloc (.cells #[.slice none 0 0] 25)).alloc (.cells #[.int .i64 0,.int .i64 0] 27)).alloc (.cells #[.slice a l.length c,.int .i64 e] 85)) (w.heap.size+1) #[.int .i64 0,.int .i64 0] 27):=(Blk.new2 _ _ _ _).alloc _
  have B0:Hid (Below w.heap.size w (((w.alloc (.cells #[.slice none 0 0] 25)).alloc (.cells #[.int .i64 0,.int .i64 0] 27)).alloc (.cells #[.slice a l.length c,.int .i64 e] 85))):=(bel2 _ _ _).alloc (by simp;omega) _
  have S0:Hid (w.heap.size+1+1 < (((w.alloc (.cells #[.slice none 0 0] 25)).alloc (.cells #[.int .i64 0,.int .i64 0] 27)).alloc (.cells #[.slice a l.length c,.int .i64 e] 85)).heap.size):=P0.out.lt
  clear hl hc hn hf
  go_enter_defers Tryz.func15,Tryz.ntmps15
  go_wp2_with fail
  generalize ((w.alloc (.cells #[.slice none 0 0] 25)).alloc (.cells #[.int .i64 0,.int .i64 0] 27)).alloc (.cells #[.slice a l.length c,.int .i64 e] 85)=w3 at P0 M0 F0 B0 S0 ⊢
  refine (pmodule_any P0.out).mono ?_
  intro e' w4 hO
  rcases hO with ⟨m,q,x,m4,rfl,⟨a4,c4,rfl,hi4⟩,r4,k4⟩ | ⟨y,c',a',m4,rfl,hc',k4⟩
  · have M4:Hid (Blk w4 w.heap.size #[.slice none 0 0] 25):=M0.out.chg k4 (by omega)
    have F4:Hid (Blk w4 (w.heap.size+1) #[.int .i64 0,.int .i64 0] 27):=F0.out.chg k4 (by omega)
    have B4:Hid (Below w.heap.size w w4):=Chg.last B0.out k4 (by omega) B0.out.size
    have I4:Hid ((modL 6).In w4 (fun g=>w.heap.size+1 < g) m [.slice a4 m.length c4]):=Lay.mono hi4 (fun k hk _=>by have:=S0.out;omega)
    have E4:Hid (funcsP l e (l.length+1) 0=.ok (m,q)):=m4
    have yM:=cellOf M4.out 0 _ rfl
    have zM:=freeOf M4.out 0
    have yF0:=cellOf F4.out 0 _ rfl
    have zF0:=freeOf F4.out 0
    have yF1:=cellOf F4.out 1 _ rfl
    have zF1:=freeOf F4.out 1
    clear m4 hi4 r4 k4 P0 M0 F0 B0
    go_wp2
    have n1:¬ w.heap.size+1=w.heap.size:=by omega
    have n2:¬ w.heap.size=w.heap.size+1:=by omega
    have D1:Blk (((w4.setCell ⟨w.heap.size,0,none⟩ (.slice a4 m.length c4)).setCell ⟨w.heap.size+1,0,none⟩ (.int .i64 0)).setCell ⟨w.heap.size+1,1,none⟩ (.int .i64 0)) w.heap.size #[.slice a4 m.length c4] 25:=by
      have:=blockSet M4.out 0 (.slice a4 m.length c4)
      exact Blk.setOther (Blk.setOther (show Blk _ w.heap.size #[.slice a4 m.length c4] 25 by simpa using this) (p:=⟨w.heap.size+1,0,none⟩) n1 _) (p:=⟨w.heap.size+1,1,none⟩) n1 _
    have D2:Blk (((w4.setCell ⟨w.heap.size,0,none⟩ (.slice a4 m.length c4)).setCell ⟨w.heap.size+1,0,none⟩ (.int .i64 0)).setCell ⟨w.heap.size+1,1,none⟩ (.int .i64 0)) (w.heap.size+1) #[.int .i64 0,.int .i64 0] 27:=by
      have:=blockSet (blockSet (F4.out.setOther (p:=⟨w.heap.size,0,none⟩) n2 (.slice a4 m.length c4)) 0 (.int .i64 0)) 1 (.int .i64 0)
      simpa using this
    have D3:Hid ((modL 6).In (((w4.setCell ⟨w.heap.size,0,none⟩ (.slice a4 m.length c4)).setCell ⟨w.heap.size+1,0,none⟩ (.int .i64 0)).setCell ⟨w.heap.size+1,1,none⟩ (.int .i64 0)) (fun g=>w.heap.size≤g) m [.slice a4 m.length c4]) :=
      Lay.mono (Lay.setCell (Lay.setCell (Lay.setCell I4.out (p:=⟨w.heap.size,0,none⟩) (by simp) _) (p:=⟨w.heap.size+1,0,none⟩) (by simp) _) (p:=⟨w.heap.size+1,1,none⟩) (by simp) _) (fun k hk _=>by omega)
    have D4:Hid (Below w.heap.size w (((w4.setCell ⟨w.heap.size,0,none⟩ (.slice a4 m.length c4)).setCell ⟨w.heap.size+1,0,none⟩ (.int .i64 0)).setCell ⟨w.heap.size+1,1,none⟩ (.int .i64 0))):=((B4.out.setCell (p:=⟨w.heap.size,0,none⟩) (Nat.le_refl _) _).setCell (p:=⟨w.heap.size+1,0,none⟩) (Nat.le_succ _) _).setCell (p:=⟨w.heap.size+1,1,none⟩) (Nat.le_succ _) _
    clear yM zM yF0 zF0 yF1 zF1 M4 F4 B4 I4
    generalize (((w4.setCell ⟨w.heap.size,0,none⟩ (.slice a4 m.length c4)).setCell ⟨w.heap.size+1,0,none⟩ (.int .i64 0)).setCell ⟨w.heap.size+1,1,none⟩ (.int .i64 0))=w5 at D1 D2 D3 D4 ⊢
    refine leaves_cons (f:=34) (args:=#[ptrP w.heap.size,ptrP (w.heap.size+1)]) (by simp) (by simp [go_sem]) ?_
    refine (catch_idle w.heap.size (w.heap.size+1)).mono ?_
    rintro e1 u1 w6 ⟨rfl,rfl,rfl⟩
    have x0:=cellOf D1 0 _ rfl
    have x1:=cellOf D2 0 _ rfl
    have x2:=cellOf D2 1 _ rfl
    exact ⟨.tuple #[.agg #[.slice a4 m.length c4],.agg #[.int .i64 0,.int .i64 0]],by simp [results,Tryz.results15,go_sem,x0,x1,x2],.inl ⟨m,q,a4,c4,E4.out,rfl,D3.out,D4.out⟩⟩
  · have M4:=M0.out.chg k4 (by omega)
    have F4:=F0.out.chg k4 (by omega)
    have B4:Below w.heap.size w w4:=Chg.last B0.out k4 (by omega) B0.out.size
    show bodyPostD _ _ _ _ _ _
    refine leaves_cons (f:=34) (args:=#[ptrP w.heap.size,ptrP (w.heap.size+1)]) (by simp) (by simp [go_sem]) ?_
    refine (catch_panicking c' a' M4 F4 (by omega)).mono ?_
    rintro e1 u1 w5 ⟨rfl,rfl,d1,d2,d3⟩
    have B5:Below w.heap.size w w5:=⟨d3.os.trans B4.os,d3.tape.trans B4.tape,d3.output.trans B4.output,Nat.le_trans B4.size d3.size,fun k hk=>(d3.block k (Nat.lt_of_lt_of_le hk B4.size) (by omega)).trans (B4.block k hk)⟩
    have x0:=cellOf d1 0 _ rfl
    have x1:=cellOf d2 0 _ rfl
    have x2:=cellOf d2 1 _ rfl
    exact ⟨.tuple #[.agg #[.slice none 0 0],.agg #[.int .i64 c',.int .i64 a']],by simp [results,Tryz.results15,go_sem,x0,x1,x2],.inr ⟨y,c',a',m4,rfl,hc',B5⟩⟩
theorem underTk : Tryz.prog.underlying 49 = some (.slice 78) := by kernel_rfl
theorem infoTk : (Tryz.prog.info? 78).map (fun i => (i.zero, i.size, i.bytes)) = some (some (.agg #[.int .i64 0, .string ⟨#[]⟩, .bool false, .int .i64 0]), 4, 40) := by kernel_rfl
theorem infoTk_parts : ∃ i, Tryz.prog.info? 78 = some i ∧ i.zero = some (.agg #[.int .i64 0, .string ⟨#[]⟩, .bool false, .int .i64 0]) ∧ i.size = 4 ∧ i.bytes = 40 := by
  have h:=infoTk
  cases e:Tryz.prog.info? 78 with
  | none=>rw [e] at h;cases h
  | some i =>
    rw [e] at h
    simp only [Option.map_some,Option.some.injEq,Prod.mk.injEq] at h
    exact ⟨i,rfl,h.1,h.2.1,h.2.2⟩
theorem news4' (w : World) (o : Obj) (T : TypeId) (p q r u : Value) : ∀ j x, [p, q, r, u][j]? = some x → ((w.alloc o).alloc (.cells #[p, q, r, u] T)).cell? ((⟨w.heap.size + 1, 0, none⟩ : Addr).add j) = some x := by
  have:=news4 (w.alloc o) T p q r u
  simpa using this
def ScOut2 (w w' : World) (r : Sc) (e : Ending) : Prop :=
  match r with
  | .fault c a=>e=.returned (.tuple #[.slice none 0 0,.agg #[.int .i64 c,.int .i64 a]])∧Below w.heap.size w w'
  | .ok l=>∃ a c,e=.returned (.tuple #[.slice a l.length c,.agg #[.int .i64 0,.int .i64 0]])∧tkL.list.In w' (fun g=>w.heap.size≤g) l [.slice a l.length c]∧Below w.heap.size w w'∧l.length≤c
theorem scOut2_fault {w w' : World} {l : List UInt8} {c a : Nat} (h : scanL l = .fault c a) (hb : Below w.heap.size w w') : ScOut2 w w' (scanL l) (.returned (.tuple #[.slice none 0 0, .agg #[.int .i64 c, .int .i64 a]])) := by
  rw [h];exact ⟨rfl,hb⟩
theorem scOut2_ok {w w' : World} {l : List UInt8} {acc : List Tk} {a : Option Addr} {c : Nat} (h : scanL l = .ok acc) (hl : tkL.list.In w' (fun g => w.heap.size ≤ g) acc [.slice a acc.length c]) (hb : Below w.heap.size w w') (hc : acc.length ≤ c) : ScOut2 w w' (scanL l) (.returned (.tuple #[.slice a acc.length c, .agg #[.int .i64 0, .int .i64 0]])) := by
  rw [h];exact ⟨a,c,rfl,hl,hb,hc⟩
theorem SB.cell2 {T : TypeId} {w wr : World} {l : List UInt8} {pos : Nat} {v : Value} {acc : List Tk} {xs : List Value} (h : SB T w wr l pos v acc xs) : ∃ a c, v = .slice a acc.length c ∧ tkL.list.In wr (fun g => w.heap.size + 1 ≤ g) acc [.slice a acc.length c] ∧ acc.length ≤ c := by
  obtain ⟨a,c,e,r⟩:=h.cell
  refine ⟨a,c,e,r,?_⟩
  obtain ⟨⟨h1,h2⟩,h3⟩:=h.row
  rcases h2 with ⟨e2,h4⟩ | ⟨g,cap,cur,e2,hg,hh,hn,hr⟩
  · rw [e] at e2;injection e2 with _ h5 h6;omega
  · rw [e] at e2;injection e2 with _ h5 h6;omega
theorem scan2_any (s : ByteArray) (w : World) (hw0 : Laid w) (hs : s.size ≤ maxLen) :
    Calls Tryz.prog 14 #[.string s] w fun e w'=>ScOut2 w w' (scanL s.data.toList) e:=by
  unfold maxLen at hs
  by_cases hbig:40000 < s.size
  · have hV:Hid (scanL s.data.toList=.fault 2 40000):=by
      show _=_
      rw [scanL,if_pos (by rw [list_len];exact hbig)]
    generalize s.data.toList=l at hV
    have hbig':(40000:Int) < s.size:=by omega
    go_enter Tryz.func14,Tryz.ntmps14
    go_wp2
    exact bodyPost_ret (v:=.tuple #[.slice none 0 0,.agg #[.int .i64 2,.int .i64 40000]]) (by simp [results,Tryz.results14,go_sem]) rfl (scOut2_fault hV.out (bel1 w _))
  · have hw:Hid (Laid w):=hw0
    have hbig':¬ (40000:Int) < s.size:=by omega
    have hs2:s.size≤40000:=by omega
    have hll:s.data.toList.length=s.size:=list_len s
    have HL:Hid (s.data.toList.length=s.size):=hll
    obtain ⟨i0,hi,hz0,hz1,hz2⟩:=infoTk_parts
    clear hw0 hll
    go_enter Tryz.func14,Tryz.ntmps14
    go_wp2_with fail
    have S0:Hid _:=SB.start (T:=78) (w:=w) (l:=s.data.toList) (by rw [HL.out];exact hbig)
    have C0:Hid (∀ w,Calls Tryz.prog 32 #[.string s,.int .i64 0] w fun e w'=>e=.returned (.int .i64 ((blk false s.data.toList:Nat):Int))∧w'=w):=fun w=>by
      have:=pastBlanks_any s 0 w (Nat.zero_le _) (by omega)
      rw [List.drop_zero,Nat.zero_add] at this
      exact this
    generalize w.alloc (.cells #[.int .i64 0,.int .i64 0] 27)=w1 at S0 ⊢
    go_wp2_with (go_at_call 32;refine (C0.out _).mono ?_;rintro e w' ⟨rfl,rfl⟩)
    clear C0
    go_loopw [4,5] (fun v i wr=>∃ (pos:Nat) (acc:List Tk) (xs:List Value),i=.int .i64 pos∧SB 78 w wr s.data.toList pos v acc xs) (fun _ i _=>s.size - (intOf i).toNat)
    case atStart=>exact ⟨_,_,_,rfl,S0.out⟩
    case round =>
      obtain ⟨pos,acc,xs,rfl,hrel⟩:=hrel
      have R:Hid (SB 78 w wr s.data.toList pos u4 acc xs):=hrel
      have hp1:pos≤s.size:=by have:=hrel.pos_le;rwa [HL.out] at this
      have hacc:acc.length≤pos:=hrel.len
      have hsz:w.heap.size < wr.heap.size:=hrel.flt.lt
      clear hrel S0
      by_cases hlt:pos < s.size
      · have hlt':(pos:Int) < s.size:=by omega
        have C0:=tokenAt_any s pos wr (hw.out.below R.out.bel) hlt (by omega)
        cases ht:tok (s.data.toList.drop pos) with
        | bad c =>
          have hV:Hid (scanL s.data.toList=.fault c pos):=sc_bad R.out.sofar (by rw [HL.out];exact hlt) ht
          have hc:=tok_code ht
          have hc':¬ (c:Int)=0:=by omega
          rw [ht] at C0
          have C1:Hid (Calls Tryz.prog 33 #[.string s,.int .i64 pos] wr fun e w'=>e=.returned (.tuple #[.agg #[.int .i64 0,.string ⟨#[]⟩,.bool false,.int .i64 0],.int .i64 c])∧Below wr.heap.size wr w'):=C0
          clear ht hc C0
          go_wp2_with fail
          refine C1.out.mono ?_
          rintro e w2 ⟨rfl,b2⟩
          have hF:Hid (Blk w2 w.heap.size #[.int .i64 0,.int .i64 0] 27):=R.out.flt.below b2
          have hB:Hid (Below w.heap.size w w2):=Below.andThen R.out.bel b2
          have hz:w.heap.size < w2.heap.size:=hF.out.lt
          have y0:=cellOf hF.out 0 _ rfl
          have y1:=cellOf hF.out 1 _ rfl
          have z0:=freeOf hF.out 0
          have z1:=freeOf hF.out 1
          clear C1 R b2
          go_wp2
          have D:=stored2 hF.out hB.out (Nat.le_refl _) (.int .i64 c) (.int .i64 pos)
          have D1:=D.1.alloc (.cells #[.int .i64 0,.string ⟨#[]⟩,.bool false,.int .i64 0] 78)
          have DD:Hid _:=D.2.alloc D.2.size (.cells #[.int .i64 0,.string ⟨#[]⟩,.bool false,.int .i64 0] 78)
          have x0:=cellOf D1 0 _ rfl
          have x1:=cellOf D1 1 _ rfl
          clear D D1 y0 y1 z0 z1 hF hB
          generalize ((w2.setCell ⟨w.heap.size,0,none⟩ (.int .i64 c)).setCell ⟨w.heap.size,1,none⟩ (.int .i64 pos)).alloc (.cells #[.int .i64 0,.string ⟨#[]⟩,.bool false,.int .i64 0] 78)=w9 at DD x0 x1 ⊢
          exact bodyPost_ret (v:=.tuple #[.slice none 0 0,.agg #[.int .i64 c,.int .i64 pos]]) (by simp [results,Tryz.results14,go_sem,x0,x1]) rfl (scOut2_fault hV.out DD.out)
        | ok k b n =>
          obtain ⟨hk1,hk2,hk3⟩:=tok_pos ht
          rw [List.length_drop,HL.out] at hk2
          clear hk3
          have hT:Hid (tok (s.data.toList.drop pos)=.ok k b n):=ht
          rw [ht] at C0
          have hx:Hid (((s.data.toList.drop pos).take k).length=k):=by show _=_;rw [List.length_take,List.length_drop,HL.out];omega
          have C1:Hid (Calls Tryz.prog 33 #[.string s,.int .i64 pos] wr fun e w'=>e=.returned (.tuple #[.agg #[.int .i64 pos,.string (str ((s.data.toList.drop pos).take k)),.bool b,.int .i64 n],.int .i64 0])∧Below wr.heap.size wr w'):=C0
          have C2:Hid (∀ w,Calls Tryz.prog 32 #[.string s,.int .i64 ((pos:Int)+k)] w fun e w'=>e=.returned (.int .i64 ((pos+k+blk false (s.data.toList.drop (pos+k)):Nat):Int))∧w'=w):=fun w=>pastBlanks_any s (pos+k) w (by omega) (by omega)
          have PU:Hid (∀ g cap w4 w9,Below wr.heap.size wr w4→w9.ownsRow (w.heap.size+1) 78 4 (.slice (some ⟨g,0,none⟩) (acc.length+1) cap) (acc.length+1) (xs++[.int .i64 pos,.string (str ((s.data.toList.drop pos).take k)),.bool b,.int .i64 n])→w4.grownBy w9 u4.ownBlock→(u4.ownBlock=some g ∨ g=w4.heap.size) →
              ∃ acc' xs',SB 78 w w9 s.data.toList (pos+k+blk false (s.data.toList.drop (pos+k))) (.slice (some ⟨g,0,none⟩) (acc.length+1) cap) acc' xs'):=fun g cap w4 w9 h0 h1 h2 h3=>⟨_,_,R.out.push h0 (by rw [HL.out];exact hlt) hT.out h1 h2 h3⟩
          have hls:Hid ((str ((s.data.toList.drop pos).take k)).size=k):=by show _=_;rw [str_size];exact hx.out
          have hown:Hid (wr.ownsRow (w.heap.size+1) 78 4 u4 acc.length xs):=R.out.row.own
          generalize str ((s.data.toList.drop pos).take k)=tx at C1 PU hls
          generalize hnp:pos+k+blk false (s.data.toList.drop (pos+k))=np at C2 PU
          have hnp':Hid (pos < np):=by show _ < _;omega
          clear ht C0 hx hT hnp
          go_wp2_with fail
          refine C1.out.mono ?_
          rintro e w2 ⟨rfl,b2⟩
          have B2:Hid (Below wr.heap.size wr w2):=b2
          have hz:wr.heap.size≤w2.heap.size:=b2.size
          have ho2:Hid (w2.ownsRow (w.heap.size+1) 78 4 u4 acc.length xs):=(R.out.row.below b2).own
          have hne:Hid (∀ k,u4.ownBlock=some k→k < w2.heap.size):=fun k hk=>Nat.lt_of_lt_of_le (R.out.row.lo_le hk).2 hz
          clear C1 R b2 hown
          go_wp2_with (at_builtin;refine wpList_append_lies _ rfl (.tmp 29) (.tmp 31) 49 rfl (w.heap.size+1) 78 i0 (.agg #[.int .i64 0,.string ⟨#[]⟩,.bool false,.int .i64 0]) 4 40 underTk hi hz0 hz1 hz2 rfl (by decide) _ _ _ rfl ((ho2.out.alloc _).alloc _) ⟨w2.heap.size+1,0,none⟩ 1 1 [.int .i64 pos,.string tx,.bool b,.int .i64 n] rfl rfl (news4' _ _ _ _ _ _ _) (one4 _ _ _ _) (by decide) (by unfold maxLen;omega) (by omega) (by simp;omega) (w2.heap.size+2) (by simp) ?_)
          intro g2 cap2 w9 h1 hgrow hat hlt1
          have U2:Hid _:=PU.out g2 cap2 _ w9 ((B2.out.alloc hz _).alloc (by simp;omega) _) h1 hgrow (by simpa using hat)
          have hbx:Hid (Blk w9 w2.heap.size #[.int .i64 pos,.string tx,.bool b,.int .i64 n] 78):=(hgrow.block w2.heap.size (by simp;omega) (fun e=>by have:=hne.out _ e.symm;omega)).trans (Blk.new1 _ _ _ _ _)
          have y1:=cellOf hbx.out 1 _ rfl
          clear h1 hgrow hat hlt1 PU B2 ho2 hne hbx
          have hls':(tx.size:Int)=k:=by have:=hls.out;omega
          go_wp2_with (go_at_call 32;refine (C2.out _).mono ?_;rintro e w' ⟨rfl,rfl⟩)
          go_roundw
          case rel =>
            obtain ⟨acc',xs',h⟩:=U2.out
            exact ⟨np,acc',xs',rfl,h⟩
          case measure=>have:=hnp'.out;simp [intOf];omega
      · have hlt':¬ (pos:Int) < s.size:=by omega
        have hV:Hid (scanL s.data.toList=.ok acc):=sc_end R.out.sofar (by rw [HL.out];exact hlt)
        obtain ⟨a,c,hv,hl,hcap⟩:=R.out.cell2
        have HC:Hid (acc.length≤c):=hcap
        clear hcap
        subst hv
        have hF:Hid (Blk wr w.heap.size #[.int .i64 0,.int .i64 0] 27):=R.out.flt
        have hB:Hid (Below w.heap.size w wr):=R.out.bel
        have hL:Hid (tkL.list.In wr (fun g=>w.heap.size+1≤g) acc [.slice a acc.length c]):=hl
        have y0:=cellOf hF.out 0 _ rfl
        have y1:=cellOf hF.out 1 _ rfl
        have z0:=freeOf hF.out 0
        have z1:=freeOf hF.out 1
        clear R hl
        go_wp2
        have D:=stored2 hF.out hB.out (Nat.le_refl _) (.int .i64 0) (.int .i64 0)
        have DL:Hid (tkL.list.In ((wr.setCell ⟨w.heap.size,0,none⟩ (.int .i64 0)).setCell ⟨w.heap.size,1,none⟩ (.int .i64 0)) (fun g=>w.heap.size≤g) acc [.slice a acc.length c]) :=
          Lay.mono (Lay.setCell (Lay.setCell hL.out (p:=⟨w.heap.size,0,none⟩) (by simp) _) (p:=⟨w.heap.size,1,none⟩) (by simp) _) (fun k hk _=>Nat.le_of_succ_le hk)
        have DD:Hid _:=D.2
        have x0:=cellOf D.1 0 _ rfl
        have x1:=cellOf D.1 1 _ rfl
        clear D y0 y1 z0 z1 hF hB hL
        generalize (wr.setCell ⟨w.heap.size,0,none⟩ (.int .i64 0)).setCell ⟨w.heap.size,1,none⟩ (.int .i64 0)=w9 at DD DL x0 x1 ⊢
        exact bodyPost_ret (v:=.tuple #[.slice a acc.length c,.agg #[.int .i64 0,.int .i64 0]]) (by simp [results,Tryz.results14,go_sem,x0,x1]) rfl (scOut2_ok hV.out DL.out DD.out HC.out)
end Go.Proofs.YtjodmledadbgeacGreatDoor
namespace Go.Proofs.YtjodmledadbgeacGreatDoor
open Go.RowKit
def opTmps (o : Oper) : List Tmp := o.op.operands.toList.filterMap fun | .tmp t => some t | _ => none
def dstsOf (l : List Oper) : List Tmp := l.filterMap (·.dst)
def nodupB : List Tmp → Bool
  | []=>true
  | t::r=>!r.contains t && nodupB r
def onB (gs : List (Nat × Option Bool)) (o : Oper) (b : Bool) : Bool :=
  match o.guard with
  | none=>b
  | some (g,want)=>match gs.lookup g with
    | some c=>b == (c == some want)
    | none=>false
def onsB (gs : List (Nat × Option Bool)) : List Oper → List Bool → Bool
  | [],[]=>true
  | o::l,b::bs=>onB gs o b && onsB gs l bs
  | _,_=>false
def looksB (ops : Array Oper) (ds outs : List Tmp) (o : Oper) : Bool :=
  (o.looksAt ops).all fun t=>(outs.contains t && !ds.contains t) || o.after.any fun e=>Region.binds .any e && ((ops[e.on]?).bind (·.dst) == some t)
def backB (i : Nat) : List Oper → Bool
  | []=>true
  | o::l=>(o.after.all fun e=>!Region.binds .any e || decide (e.on < i)) && backB (i+1) l
def calmB (l : List Oper) (n : Nat) (outs : List Tmp) (gs : List (Nat × Option Bool)) (bs : List Bool) : Bool :=
  (gs.all fun g=>((l.toArray[g.1]?).bind (·.dst)).isSome) && nodupB (dstsOf l) && ((dstsOf l).all fun t=>decide (t < n)) && (l.all (looksB l.toArray (dstsOf l) outs)) && onsB gs l bs && backB 0 l
section
variable {P : Program} (E : Tmp → Value → World → Prop) (W : World → Prop) (R : World → World → Prop)
def EO : Option Tmp → Value → World → Prop
  | some t=>E t
  | none=>fun _ _=>True
def Known (a : Act) (w : World) : List Tmp → Prop
  | []=>True
  | t::r=>E t (a.tmps.getD t undef) w∧Known a w r
def StepOn (P : Program) (o : Oper) : Prop :=
  ∀ a w,W w→Known E a w (opTmps o)→∀ K:Act→World→Prop,(∀ v w',R w w'→W w'→EO E o.dst v w'→K (a.put o.dst v) w')→o.wp P a w K (fun _ _ _=>False)
def StepOff (o : Oper) : Prop := ∀ w, W w → EO E o.dst undef w
def AllOk (P : Program) : List Oper → List Bool → Prop
  | o::l,true::bs=>StepOn E W R P o∧AllOk P l bs
  | o::l,false::bs=>StepOff E W o∧AllOk P l bs
  | _,_=>True
def GuardOk (ops : Array Oper) : List (Nat × Option Bool) → Prop
  | []=>True
  | (g,c)::r=>(∀ t,(ops[g]?).bind (·.dst)=some t→∀ v w,W w→E t v w→match c with | some b=>v=.bool b | none=>v=undef)∧GuardOk ops r
def OutsOk (a : Act) (w : World) : List Tmp → Prop
  | []=>True
  | t::r=>E t (a.tmps.getD t undef) w∧OutsOk a w r
def puts (a : Act) (vs : Tmp → Value) : List Tmp → Act
  | []=>a
  | t::r=>puts (a.put (some t) (vs t)) vs r
end
theorem wpq {P : Program} {o : Oper} {a : Act} {w : World} {K K' : Act → World → Prop} {Q : Exit → Act → World → Prop} (h : ∀ a w, K a w → K' a w)
    (hh:o.wp P a w K (fun _ _ _=>False)):o.wp P a w K' Q:=by
  unfold Oper.wp at *
  generalize (execOp a.eval o).run P w=r at *
  cases r with
  | ok n w' =>
    cases n <;> simp only [Oper.upon] at hh ⊢ <;>
      first
        | exact h _ _ hh
        | exact Calls.mono hh (fun e w'' he=>by cases e <;> first | exact h _ _ he | exact he.elim | (obtain ⟨_,_,he⟩:=he;exact he.elim))
        | exact Rows.mono hh (fun _ _ he=>h _ _ he)
  | halt x w'=>cases x <;> simp only [Oper.upon] at hh ⊢
theorem puts_defers (vs : Tmp → Value) : ∀ (ds : List Tmp) (a : Act), (puts a vs ds).defers = a.defers
  | [],_=>rfl
  | _::r,a=>by rw [puts,puts_defers vs r];rfl
theorem puts_size (vs : Tmp → Value) : ∀ (ds : List Tmp) (a : Act), (puts a vs ds).tmps.size = a.tmps.size
  | [],_=>rfl
  | _::r,a=>by rw [puts,puts_size vs r];simp [Act.put]
theorem puts_at (vs : Tmp → Value) : ∀ (ds : List Tmp) (a : Act) (t : Nat), t < a.tmps.size → (puts a vs ds).tmps[t]? = if t ∈ ds then some (vs t) else a.tmps[t]?
  | [],_,_,_=>by simp [puts]
  | d::r,a,t,ht=>by
    rw [puts,puts_at vs r _ t (by simpa [Act.put] using ht)]
    by_cases h1:t ∈ r
    · simp [h1]
    · by_cases h2:d=t
      · subst h2;simp [h1,Act.put,ht]
      · have:t≠d:=fun e=>h2 e.symm
        simp [h1,this,Act.put,h2]
theorem nodup_apart : ∀ (l : List Oper) (i j : Nat) (oi oj : Oper) (t : Tmp), nodupB (dstsOf l) = true → l[i]? = some oi → l[j]? = some oj → oi.dst = some t → oj.dst = some t → i = j
  | [],_,_,_,_,_,_,hi,_,_,_=>by simp at hi
  | o::l,i,j,oi,oj,t,h,hi,hj,di,dj=>by
    have hh:∀ {k:Nat} {ok:Oper},l[k]?=some ok→ok.dst=some t→t ∈ dstsOf l:=fun {k ok} hk hd=>List.mem_filterMap.2 ⟨ok,List.mem_of_getElem? hk,hd⟩
    have hn:nodupB (dstsOf l)=true:=by
      unfold dstsOf at h ⊢
      cases hd:o.dst with
      | none=>simpa [List.filterMap_cons,hd] using h
      | some d=>simp [hd,nodupB] at h;exact h.2
    have hx:o.dst=some t→t ∉ dstsOf l:=fun hd=>by
      unfold dstsOf at h ⊢
      simp only [List.filterMap_cons,hd,nodupB,Bool.and_eq_true,Bool.not_eq_true'] at h
      intro hm
      have:=h.1
      simp at this
      simp at hm
      obtain ⟨x,hx,he⟩:=hm
      exact this x hx he
    cases i with
    | zero =>
      cases j with
      | zero=>rfl
      | succ j=>simp at hi hj;subst hi;exact absurd (hh hj dj) (hx di)
    | succ i =>
      cases j with
      | zero=>simp at hi hj;subst hj;exact absurd (hh hi di) (hx dj)
      | succ j=>simp at hi hj;rw [nodup_apart l i j oi oj t hn hi hj di dj]
section
variable {P : Program} {E : Tmp → Value → World → Prop} {W : World → Prop} {R : World → World → Prop}
theorem known_of {a : Act} {w : World} : ∀ (l : List Tmp), (∀ t ∈ l, E t (a.tmps.getD t undef) w) → Known E a w l
  | [],_=>trivial
  | t::r,h=>⟨h t (by simp),known_of r fun x hx=>h x (by simp [hx])⟩
theorem outs_mem {a : Act} {w : World} : ∀ (l : List Tmp), OutsOk E a w l → ∀ t ∈ l, E t (a.tmps.getD t undef) w
  | [],_,_,h=>by simp at h
  | x::r,h,t,ht=>by
    rcases List.mem_cons.1 ht with rfl | ht
    · exact h.1
    · exact outs_mem r h.2 t ht
theorem guard_mem {ops : Array Oper} : ∀ (gs : List (Nat × Option Bool)), GuardOk E W ops gs → ∀ g c, gs.lookup g = some c → ∀ t, (ops[g]?).bind (·.dst) = some t → ∀ v w, W w → E t v w → match c with | some b => v = .bool b | none => v = undef
  | [],_,_,_,h=>by simp at h
  | (g',c')::r,h,g,c,hl=>by
    by_cases e:g=g'
    · subst e;simp at hl;subst hl;exact h.1
    · have e':(g == g')=false:=by simpa using e
      simp [List.lookup_cons,e'] at hl;exact guard_mem r h.2 g c hl
theorem mem_of_lookup : ∀ (gs : List (Nat × Option Bool)) (g : Nat) (c : Option Bool), gs.lookup g = some c → (g, c) ∈ gs
  | [],_,_,h=>by simp at h
  | (g',c')::r,g,c,hl=>by
    by_cases e:g=g'
    · subst e;simp at hl;subst hl;simp
    · have e':(g == g')=false:=by simpa using e
      simp [List.lookup_cons,e'] at hl;exact List.mem_cons_of_mem _ (mem_of_lookup r g c hl)
theorem filter_set : ∀ (l : List Bool) (i : Nat) (h : i < l.length), l[i] = false → ((l.set i true).filter (· == false)).length + 1 = (l.filter (· == false)).length
  | [],_,h,_=>by simp at h
  | x::l,0,_,h=>by simp at h;subst h;simp
  | x::l,i+1,hi,h=>by
    simp at h hi
    have:=filter_set l i hi h
    cases x <;> simp at this ⊢ <;> omega
theorem all_at (gs : List (Nat × Option Bool)) : ∀ (l : List Oper) (bs : List Bool), onsB gs l bs = true → AllOk E W R P l bs → ∀ (i : Nat) (o : Oper), l[i]? = some o → (onB gs o true = true ∧ StepOn E W R P o) ∨ (onB gs o false = true ∧ StepOff E W o)
  | [],_,_,_,_,_,h=>by simp at h
  | _::_,[],h,_,_,_,_=>by simp [onsB] at h
  | x::l,b::bs,h,ha,i,o,ho=>by
    simp only [onsB,Bool.and_eq_true] at h
    cases i with
    | zero =>
      simp at ho;subst ho
      cases b with
      | true=>exact .inl ⟨h.1,ha.1⟩
      | false=>exact .inr ⟨h.1,ha.1⟩
    | succ i =>
      simp at ho
      cases b with
      | true=>exact all_at gs l bs h.2 ha.2 i o ho
      | false=>exact all_at gs l bs h.2 ha.2 i o ho
theorem back_at : ∀ (l : List Oper) (k i : Nat) (o : Oper), backB k l = true → l[i]? = some o → ∀ e ∈ o.after, Region.binds .any e = true → e.on < k + i
  | [],_,_,_,_,h=>by simp at h
  | x::l,k,i,o,h,ho=>by
    simp only [backB,Bool.and_eq_true] at h
    cases i with
    | zero =>
      simp at ho;subst ho
      intro e he hb
      have:=Array.all_eq_true_iff_forall_mem.1 h.1 e he
      simpa [hb] using this
    | succ i =>
      simp at ho
      intro e he hb
      have:=back_at l (k+1) i o h.2 ho e he hb
      omega
structure Calm (E : Tmp → Value → World → Prop) (W : World → Prop) (l : List Oper) (outs : List Tmp) (a0 : Act) (listed : Array Bool) (a : Act) (w : World) : Prop where
  world:W w
  defers:a.defers=a0.defers
  size:a.tmps.size=a0.tmps.size
  outer:∀ t,t ∉ dstsOf l→a.tmps[t]?=a0.tmps[t]?
  outs:∀ t ∈ outs,t ∉ dstsOf l→E t (a.tmps.getD t undef) w
  known:∀ j o t,l[j]?=some o→o.dst=some t→listed.getD j false=true→E t (a.tmps.getD t undef) w
theorem wpAny_calm {l : List Oper} {outs : List Tmp} {gs : List (Nat × Option Bool)} {bs : List Bool} {a0 : Act} {Q : Exit → Act → World → Prop}
    (hB:calmB l a0.tmps.size outs gs bs=true) (hR:∀ t v w w',R w w'→E t v w→E t v w') (hG:GuardOk E W l.toArray gs) (hA:AllOk E W R P l bs)
    (hend:∀ (vs:Tmp→Value) w',W w'→(∀ t,(dstsOf l).contains t=true→E t (vs t) w')→Q .normal (puts a0 vs (dstsOf l)) w') :
    ∀ (fuel:Nat) (listed:Array Bool) (a:Act) (w:World),listed.size=l.length→(listed.toList.filter (· == false)).length≤fuel→Calm E W l outs a0 listed a w →
      wpAny P .any l.toArray Q fuel listed a w:=by
  simp only [calmB,Bool.and_eq_true] at hB
  obtain ⟨⟨⟨⟨⟨hgd,hnd⟩,hsz⟩,hlk⟩,hon⟩,hbk⟩:=hB
  have fin:∀ (listed:Array Bool) (a:Act) (w:World),listed.size=l.length→Region.ready .any l.toArray listed=[]→Calm E W l outs a0 listed a w→Q .normal a w:=by
    intro listed a w hs hr hc
    have hall:∀ j,j < l.length→listed.getD j false=true:=by
      intro j
      induction j using Nat.strongRecOn with
      | _ j ih =>
        intro hj
        cases hb:listed.getD j false with
        | true=>rfl
        | false =>
          exfalso
          have:j ∈ Region.ready .any l.toArray listed:=by
            unfold Region.ready
            refine List.mem_filter.2 ⟨by simpa using hj,?_⟩
            have e1:listed.getD j true=false:=by
              have hj':j < listed.size:=by omega
              simp [Array.getD,hj'] at hb ⊢;exact hb
            have e2:l.toArray[j]?=some l[j]:=by simp [hj]
            rw [e1,e2]
            simp only [Bool.not_false,Bool.true_and,Option.map_some,Option.getD_some]
            rw [Array.all_eq_true_iff_forall_mem]
            intro e he
            cases hbd:Region.binds .any e with
            | false=>rfl
            | true =>
              have:=back_at l 0 j l[j] hbk (by simp [hj]) e he hbd
              simp only [Bool.not_true,Bool.false_or]
              exact ih e.on (by omega) (by omega)
          rw [hr] at this
          cases this
    have hmem:∀ t ∈ dstsOf l,E t (a.tmps.getD t undef) w∧t < a0.tmps.size:=by
      intro t ht
      obtain ⟨o,ho,hd⟩:=List.mem_filterMap.1 ht
      obtain ⟨j,hj⟩:=List.getElem?_of_mem ho
      have hlt:j < l.length:=by
        rcases Nat.lt_or_ge j l.length with h | h
        · exact h
        · rw [List.getElem?_eq_none h] at hj;cases hj
      exact ⟨hc.known j o t hj hd (hall j hlt),by simpa using List.all_eq_true.1 hsz t ht⟩
    have he:a=puts a0 (fun t=>a.tmps.getD t undef) (dstsOf l):=by
      have e1:a.tmps=(puts a0 (fun t=>a.tmps.getD t undef) (dstsOf l)).tmps:=by
        refine Array.ext (by rw [puts_size,hc.size]) fun t h1 h2=>?_
        have h3:t < a0.tmps.size:=by rw [← hc.size];exact h1
        have:=puts_at (fun t=>a.tmps.getD t undef) (dstsOf l) a0 t h3
        rw [Array.getElem?_eq_getElem h2] at this
        by_cases hm:t ∈ dstsOf l
        · rw [if_pos hm] at this
          simp only [Option.some.injEq] at this
          rw [this];simp [Array.getD,h1]
        · rw [if_neg hm,← hc.outer t hm,Array.getElem?_eq_getElem h1] at this
          exact (Option.some.inj this).symm
      have e2:a.defers=(puts a0 (fun t=>a.tmps.getD t undef) (dstsOf l)).defers:=by rw [puts_defers,hc.defers]
      cases a with
      | mk t d =>
        simp only at e1 e2
        generalize hp:puts a0 (fun x=>t.getD x undef) (dstsOf l)=p at e1 e2 ⊢
        cases p;simp only at e1 e2;rw [e1,e2]
    rw [he]
    exact hend _ _ hc.world fun t ht=>(hmem t (by simpa using ht)).1
  intro fuel
  induction fuel with
  | zero =>
    intro listed a w hs hf hc
    have hr:Region.ready .any l.toArray listed=[]:=by
      rw [List.eq_nil_iff_forall_not_mem]
      intro i hi
      obtain ⟨h1,h2⟩:=List.mem_filter.1 hi
      have hlt:i < l.length:=by simpa using h1
      simp only [Bool.and_eq_true,Bool.not_eq_true'] at h2
      have:listed[i]'(by omega)=false:=by
        have:=h2.1;simp [Array.getD,show i < listed.size by omega] at this;exact this
      have hm:false ∈ listed.toList.filter (· == false):=List.mem_filter.2 ⟨by rw [← this];simp,by simp⟩
      have:=List.length_pos_of_mem hm
      omega
    exact ⟨hr,fin listed a w hs hr hc⟩
  | succ fuel ih =>
    intro listed a w hs hf hc
    refine ⟨fun hr=>fin listed a w hs hr hc,fun i hi=>?_⟩
    obtain ⟨h1,h2⟩:=List.mem_filter.1 hi
    have hlt:i < l.length:=by simpa using h1
    simp only [Bool.and_eq_true,Bool.not_eq_true'] at h2
    obtain ⟨hun,hdone⟩:=h2
    have hil:i < listed.size:=by omega
    have hun':listed[i]=false:=by simp [Array.getD,hil] at hun;exact hun
    have ho:l.toArray[i]?=some l[i]:=by simp [hlt]
    have ho':l[i]?=some l[i]:=by simp [hlt]
    generalize hoo:l[i]=o at ho ho'
    rw [ho] at hdone
    simp only [Option.map_some,Option.getD_some] at hdone
    rw [Array.all_eq_true_iff_forall_mem] at hdone
    have hlooks:∀ t ∈ o.looksAt l.toArray,E t (a.tmps.getD t undef) w:=by
      intro t ht
      have:=List.all_eq_true.1 (List.all_eq_true.1 hlk o (List.mem_of_getElem? ho')) t ht
      rw [Bool.or_eq_true] at this
      rcases this with h | h
      · simp only [Bool.and_eq_true,Bool.not_eq_true'] at h
        exact hc.outs t (by simpa using h.1) (by simpa using h.2)
      · obtain ⟨k,hk,h⟩:=Array.any_eq_true.1 h
        simp only [Bool.and_eq_true,beq_iff_eq] at h
        obtain ⟨hb,hd⟩:=h
        have hl:=hdone _ (Array.getElem_mem hk)
        rw [hb] at hl
        simp only [Bool.not_true,Bool.false_or] at hl
        generalize o.after[k]=e at *
        obtain ⟨oj,hoj,hdj⟩:=Option.bind_eq_some_iff.1 hd
        exact hc.known e.on oj t (by simpa using hoj) hdj hl
    have hkn:Known E a w (opTmps o):=known_of _ fun t ht=>hlooks t (by
      unfold Oper.looksAt;exact List.mem_append_left _ ht)
    have hw:∀ b,onB gs o b=true→Region.wanted o (yielded l.toArray a.tmps)=b:=by
      intro b hb
      unfold onB at hb
      unfold Region.wanted
      cases hg:o.guard with
      | none=>rw [hg] at hb;simp only at hb ⊢;exact hb.symm
      | some gw =>
        obtain ⟨g,want⟩:=gw
        rw [hg] at hb
        simp only at hb ⊢
        cases hl:gs.lookup g with
        | none=>rw [hl] at hb;cases hb
        | some c =>
          rw [hl] at hb
          simp only [beq_iff_eq] at hb
          have hy:yielded l.toArray a.tmps g=c:=by
            unfold yielded
            have hmg:(g,c) ∈ gs:=mem_of_lookup gs g c hl
            have hsome:=List.all_eq_true.1 hgd _ hmg
            cases hd:(l.toArray[g]?).bind (·.dst) with
            | none=>rw [hd] at hsome;cases hsome
            | some t =>
              have hE:=hlooks t (by unfold Oper.looksAt;rw [hg];simp only [hd];simp)
              have hv:=guard_mem gs hG g c hl t hd _ _ hc.world hE
              obtain ⟨og,hog,hdg⟩:=Option.bind_eq_some_iff.1 hd
              have htl:t < a.tmps.size:=by
                rw [hc.size]
                have:=List.all_eq_true.1 hsz t (List.mem_filterMap.2 ⟨og,List.mem_of_getElem? (by simpa using hog),hdg⟩)
                simpa using this
              have ht:a.tmps[t]?=some (a.tmps.getD t undef):=by simp [Array.getD,htl]
              simp only [Option.bind_some,ht]
              cases c with
              | none=>simp only at hv;rw [hv];rfl
              | some b=>simp only at hv;rw [hv]
          rw [hy,hb]
    have hlen:((listed.setIfInBounds i true).toList.filter (· == false)).length≤fuel:=by
      have h3:=filter_set listed.toList i (by simpa using hil) (by simpa using hun')
      rw [Array.toList_setIfInBounds]
      omega
    have next:∀ v w',W w'→(∀ t v,E t v w→E t v w')→EO E o.dst v w'→Calm E W l outs a0 (listed.setIfInBounds i true) (a.put o.dst v) w':=by
      intro v w' hw' hst hv
      have hput:∀ t,o.dst≠some t→(a.put o.dst v).tmps[t]?=a.tmps[t]?:=by
        intro t ht
        cases hd:o.dst with
        | none=>rfl
        | some d =>
          have:d≠t:=fun e=>ht (by rw [hd,e])
          simp [Act.put,this]
      have hgetD:∀ (b c:Array Value) (t:Nat),b[t]?=c[t]?→b.getD t undef=c.getD t undef:=by
        intro b c t h
        rw [Array.getD_eq_getD_getElem?,Array.getD_eq_getD_getElem?,h]
      refine ⟨hw',?_,?_,?_,?_,?_⟩
      · rw [← hc.defers];cases o.dst <;> rfl
      · rw [← hc.size];cases o.dst <;> simp [Act.put]
      · intro t ht
        rw [hput t (fun e=>ht (List.mem_filterMap.2 ⟨o,List.mem_of_getElem? ho',e⟩)),hc.outer t ht]
      · intro t ht hn
        rw [hgetD _ _ t (hput t (fun e=>hn (List.mem_filterMap.2 ⟨o,List.mem_of_getElem? ho',e⟩)))]
        exact hst _ _ (hc.outs t ht hn)
      · intro j oj t hj hd hlj
        by_cases hji:j=i
        · subst hji
          rw [ho'] at hj
          obtain rfl:=Option.some.inj hj
          have htl:t < a.tmps.size:=by
            rw [hc.size]
            have:=List.all_eq_true.1 hsz t (List.mem_filterMap.2 ⟨o,List.mem_of_getElem? ho',hd⟩)
            simpa using this
          rw [hd] at hv ⊢
          have:(a.put (some t) v).tmps.getD t undef=v:=by simp [Act.put,Array.getD,htl]
          rw [this];exact hv
        · have hne:o.dst≠some t:=fun e=>hji (nodup_apart l j i oj o t hnd hj ho' hd e)
          rw [hgetD _ _ t (hput t hne)]
          refine hst _ _ (hc.known j oj t hj hd ?_)
          have hne':i≠j:=fun e=>hji e.symm
          rw [Array.getD_eq_getD_getElem?,Array.getElem?_setIfInBounds_ne hne'] at hlj
          rw [Array.getD_eq_getD_getElem?];exact hlj
    unfold wpOp
    rw [ho]
    simp only
    rcases all_at gs l bs hon hA i o ho' with ⟨h,hst⟩ | ⟨h,hst⟩
    · rw [hw true h,if_pos rfl]
      refine .inl (wpq (fun a' w' hh=>hh) (hst a w hc.world hkn _ fun v w' hr hw' hv=>?_))
      exact ih _ _ _ (by simpa using hs) hlen (next v w' hw' (fun t v he=>hR t v w w' hr he) hv)
    · rw [hw false h]
      simp only [Bool.false_eq_true,if_false]
      exact ih _ _ _ (by simpa using hs) hlen (next undef w hc.world (fun _ _ h=>h) (hst w hc.world))
end
end Go.Proofs.YtjodmledadbgeacGreatDoor
