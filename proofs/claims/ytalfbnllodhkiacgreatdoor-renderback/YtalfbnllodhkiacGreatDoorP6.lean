import Derived.Test.YtalfbnllodhkiacGreatDoorP5
import Derived.Deep.RegionLaw
import Derived.Defers
import Derived.Recover
import Derived.RegionTactic
import Derived.SizedLaws
import Derived.Lib.LaidTab
import Derived.Stop.LaidErr
import Derived.Stop.Joined
import Derived.LaidMore
import Derived.ChangeMaps5
set_option maxHeartbeats 16000000
set_option maxRecDepth 100000
namespace Go.Proofs.YtalfbnllodhkiacGreatDoor
open Go.ChangeShapes Go.WideShapes Go.ChangeAt Go.RowKit Go.Shelf
set_option linter.unusedSimpArgs false
set_option linter.unusedVariables false
def VIns (w0 : World) : World → MIns → Value → Prop := fun w' x v => ∃ a c b d, v = .agg #[.int .i64 x.op, .int .i64 x.a, .int .i64 x.b, .int .i64 x.c, .int .i64 x.k, .int .i64 x.n, .slice a x.regs.length c, .slice b x.args.length d] ∧ insL.In w' (fun g => w0.heap.size ≤ g) x [.int .i64 x.op, .int .i64 x.a, .int .i64 x.b, .int .i64 x.c, .int .i64 x.k, .int .i64 x.n, .slice a x.regs.length c, .slice b x.args.length d]
theorem ins2_eq {l : List Tk} {e q : Nat} : insFields l e 2 q = (if whichP l kindWords q = 0 then .error (wrongAt l e 4 q) else PR.andThen (numP l e (q + 1)) fun a p1 => PR.andThen (numP l e p1) fun c p2 => (.ok ((⟨2, a, c, 0, (whichP l kindWords q : Nat), 0, [], []⟩ : MIns), p2) : PR MIns)) := rfl
theorem lit_i64 (x : Int) (h : decide (-9223372036854775808 ≤ x ∧ x ≤ 9223372036854775807) = true) : -9223372036854775808 ≤ x ∧ x ≤ 9223372036854775807 := of_decide_eq_true h
theorem pins_k1 {w : World} {b e p : Nat} {l : List Tk} (h : PAt w b l e p) (hk : whichP l opWords p = 1) :
    Calls Tryz.prog 169 #[ptrP b] w fun en w'=>Out b e l (insFields l e 1 (p+1)) w (VIns w) en w':=by
  have hbw:=h.lt
  have HL:Hid (p<l.length):=which_lt (by rw [hk];decide)
  have HE:Hid (insFields l e 1 (p+1)=PR.andThen (longP l e (p+1)) fun n q=>(.ok ((⟨1,0,0,0,0,n,[],[]⟩:MIns),q):PR MIns)):=rfl
  have S1:Hid (PAt (w.alloc (.cells #[.int .i64 0,.int .i64 0,.int .i64 0,.int .i64 0,.int .i64 0,.int .i64 0,.slice none 0 0,.slice none 0 0] 45)) _ _ _ _∧_∧_):=begins h
  have C:Hid (∀ w1:World,PAt w1 b l e p→Calls Tryz.prog 197 #[ptrP b,.func (.func 12) #[] #[]] w1 fun en w'=>en=.returned (.int .i64 1)∧Below w1.heap.size w1 w'):=fun w1 h1=>which_told enters_Op pOp_any opWords_wordly (by decide) hk (by decide) h1
  clear h hk
  go_enter Tryz.func169,Tryz.ntmps169
  go_wp2_with fail
  generalize w.alloc (.cells #[.int .i64 0,.int .i64 0,.int .i64 0,.int .i64 0,.int .i64 0,.int .i64 0,.slice none 0 0,.slice none 0 0] 45)=w1 at S1 ⊢
  refine (C.out w1 S1.out.1).mono ?_
  rintro e' w2 ⟨rfl,b2⟩
  have F0:Hid (FB w (w2.alloc (.cells #[.int .i64 1,.int .i64 0,.int .i64 0,.int .i64 0,.int .i64 0,.int .i64 0,.slice none 0 0,.slice none 0 0] 45)) b e l p w.heap.size w2.heap.size _ #[.int .i64 1,.int .i64 0,.int .i64 0,.int .i64 0,.int .i64 0,.int .i64 0,.slice none 0 0,.slice none 0 0] 45):=FB.beside _ (S1.out.1.below b2) (S1.out.2.1.below b2) (S1.out.2.2.trans (Chg.below b2)) hbw (Nat.le_refl _)
  clear b2 S1 C
  go_wp2_with fail
  generalize w2.alloc (.cells #[.int .i64 1,.int .i64 0,.int .i64 0,.int .i64 0,.int .i64 0,.int .i64 0,.slice none 0 0,.slice none 0 0] 45)=w3 at F0 ⊢
  generalize w2.heap.size=B at F0 ⊢
  have hRB:w.heap.size<B:=F0.out.RB
  refine (take_any F0.out.rd HL.out).mono ?_
  rintro e' w4 ⟨rfl,r4,k4⟩
  have F4:Hid (FB _ _ _ _ _ _ _ _ _ _ _):=F0.out.call r4 k4
  have y0:=cellOf F4.out.box 0 _ rfl
  clear r4 k4 F0
  go_wp2_with fail
  refine (plong_any F4.out.rd).mono ?_
  intro e' w5 hO
  rcases hO with ⟨nn,p5,x5,m5,rfl,⟨rfl,hb5⟩,r5,k5⟩ | ⟨y,c',a',m5,rfl,hc',k5⟩
  rotate_left
  · exact ⟨rfl,Out.bad (by rw [HE.out,m5];rfl) hc' (F4.out.chg.trans k5)⟩
  have E5:Hid (longP l e (p+1)=.ok (nn,p5)):=m5
  have G5:Hid (FB _ _ _ _ _ _ _ _ _ _ _):=F4.out.call r5 k5
  have Bnn:Hid (-9223372036854775808≤nn∧nn≤9223372036854775807):=hb5
  clear hb5
  clear m5 r5 k5 F4
  obtain ⟨y0,y1,y2,y3,y4,y5,y6,y7⟩:=cells8 G5.out.box
  obtain ⟨u0,u1,u2,u3,u4,u5,u6,u7⟩:=cells8 G5.out.res
  obtain ⟨v0,v1,v2,v3,v4,v5,v6,v7⟩:=frees8 G5.out.res
  have z5:=freeOf G5.out.box 5
  have hne:¬ B=w.heap.size:=by omega
  go_wp2
  have DD:Hid (FinD _ _ _ _ _ _ _ #[.int .i64 1,.int .i64 0,.int .i64 0,.int .i64 0,.int .i64 0,.int .i64 nn,.slice none 0 0,.slice none 0 0] (((((((((w5.setCell ⟨B,5,none⟩ (.int .i64 nn)).setCell ⟨w.heap.size,0,none⟩ (.int .i64 1)).setCell ⟨w.heap.size,1,none⟩ (.int .i64 0)).setCell ⟨w.heap.size,2,none⟩ (.int .i64 0)).setCell ⟨w.heap.size,3,none⟩ (.int .i64 0)).setCell ⟨w.heap.size,4,none⟩ (.int .i64 0)).setCell ⟨w.heap.size,5,none⟩ (.int .i64 nn)).setCell ⟨w.heap.size,6,none⟩ (.slice none 0 0)).setCell ⟨w.heap.size,7,none⟩ (.slice none 0 0))):=FB.fin (FB.set G5.out 5 (.int .i64 nn)) [.int .i64 1,.int .i64 0,.int .i64 0,.int .i64 0,.int .i64 0,.int .i64 nn,.slice none 0 0,.slice none 0 0] rfl
  clear y0 u0 v0 y1 u1 v1 y2 u2 v2 y3 u3 v3 y4 u4 v4 y5 u5 v5 y6 u6 v6 y7 u7 v7
  generalize (((((((((w5.setCell ⟨B,5,none⟩ (.int .i64 nn)).setCell ⟨w.heap.size,0,none⟩ (.int .i64 1)).setCell ⟨w.heap.size,1,none⟩ (.int .i64 0)).setCell ⟨w.heap.size,2,none⟩ (.int .i64 0)).setCell ⟨w.heap.size,3,none⟩ (.int .i64 0)).setCell ⟨w.heap.size,4,none⟩ (.int .i64 0)).setCell ⟨w.heap.size,5,none⟩ (.int .i64 nn)).setCell ⟨w.heap.size,6,none⟩ (.slice none 0 0)).setCell ⟨w.heap.size,7,none⟩ (.slice none 0 0))=w9 at DD ⊢
  obtain ⟨D1,D2,D3⟩:=DD.out
  obtain ⟨x0,x1,x2,x3,x4,x5,x6,x7⟩:=cells8 D1
  exact bodyPost_ret (v:=.agg #[.int .i64 1,.int .i64 0,.int .i64 0,.int .i64 0,.int .i64 0,.int .i64 nn,.slice none 0 0,.slice none 0 0]) (by simp [results,Tryz.results169,go_sem,x0,x1,x2,x3,x4,x5,x6,x7]) rfl (Out.good (by rw [HE.out,E5.out,PR.ok_andThen]) (⟨none,0,none,0,rfl,ins_mk (x:=(⟨1,0,0,0,0,nn,[],[]⟩:MIns)) (Lay.list_nil _ _ _ _ _) (Lay.list_nil _ _ _ _ _) ⟨lit_i64 1 (by decide),lit_i64 0 (by decide),lit_i64 0 (by decide),lit_i64 0 (by decide),lit_i64 0 (by decide),Bnn.out⟩⟩) D2 D3)
theorem pins_k2z {w : World} {b e p : Nat} {l : List Tk} (h : PAt w b l e p) (hk : whichP l opWords p = 2) (hj : whichP l kindWords (p + 1) = 0) :
    Calls Tryz.prog 169 #[ptrP b] w fun en w'=>Out b e l (insFields l e 2 (p+1)) w (VIns w) en w':=by
  have hbw:=h.lt
  have HL:Hid (p<l.length):=which_lt (by rw [hk];decide)
  have HE:Hid (∃ y,insFields l e 2 (p+1)=.error y):=⟨wrongAt l e 4 (p+1),by rw [ins2_eq,if_pos hj]⟩
  have S1:Hid (PAt (w.alloc (.cells #[.int .i64 0,.int .i64 0,.int .i64 0,.int .i64 0,.int .i64 0,.int .i64 0,.slice none 0 0,.slice none 0 0] 45)) _ _ _ _∧_∧_):=begins h
  have C:Hid (∀ w1:World,PAt w1 b l e p→Calls Tryz.prog 197 #[ptrP b,.func (.func 12) #[] #[]] w1 fun en w'=>en=.returned (.int .i64 2)∧Below w1.heap.size w1 w'):=fun w1 h1=>which_told enters_Op pOp_any opWords_wordly (by decide) hk (by decide) h1
  have HJ:Hid (whichP l kindWords (p+1)=0):=hj
  clear hj
  clear h hk
  go_enter Tryz.func169,Tryz.ntmps169
  go_wp2_with fail
  generalize w.alloc (.cells #[.int .i64 0,.int .i64 0,.int .i64 0,.int .i64 0,.int .i64 0,.int .i64 0,.slice none 0 0,.slice none 0 0] 45)=w1 at S1 ⊢
  refine (C.out w1 S1.out.1).mono ?_
  rintro e' w2 ⟨rfl,b2⟩
  have F0:Hid (FB w (w2.alloc (.cells #[.int .i64 2,.int .i64 0,.int .i64 0,.int .i64 0,.int .i64 0,.int .i64 0,.slice none 0 0,.slice none 0 0] 45)) b e l p w.heap.size w2.heap.size _ #[.int .i64 2,.int .i64 0,.int .i64 0,.int .i64 0,.int .i64 0,.int .i64 0,.slice none 0 0,.slice none 0 0] 45):=FB.beside _ (S1.out.1.below b2) (S1.out.2.1.below b2) (S1.out.2.2.trans (Chg.below b2)) hbw (Nat.le_refl _)
  clear b2 S1 C
  go_wp2_with fail
  generalize w2.alloc (.cells #[.int .i64 2,.int .i64 0,.int .i64 0,.int .i64 0,.int .i64 0,.int .i64 0,.slice none 0 0,.slice none 0 0] 45)=w3 at F0 ⊢
  generalize w2.heap.size=B at F0 ⊢
  have hRB:w.heap.size<B:=F0.out.RB
  refine (take_any F0.out.rd HL.out).mono ?_
  rintro e' w4 ⟨rfl,r4,k4⟩
  have F4:Hid (FB _ _ _ _ _ _ _ _ _ _ _):=F0.out.call r4 k4
  have y0:=cellOf F4.out.box 0 _ rfl
  clear r4 k4 F0
  go_wp2_with fail
  refine (pmustWhich_any 14 kindWords enters_Kind pKind_any kindWords_wordly (by decide) F4.out.rd).mono ?_
  intro e' w5 hO
  rcases hO with ⟨h0,_⟩ | ⟨_,⟨c,a,rfl,hc⟩,b5⟩
  · exact absurd HJ.out h0
  · obtain ⟨y,hy⟩:=HE.out
    exact ⟨rfl,Out.bad hy hc (F4.out.chg.trans (Chg.below b5))⟩
theorem pins_k2s {w : World} {b e p : Nat} {l : List Tk} {j : Nat} (h : PAt w b l e p) (hk : whichP l opWords p = 2) (hj : whichP l kindWords (p + 1) = j) (hj0 : j ≠ 0) :
    Calls Tryz.prog 169 #[ptrP b] w fun en w'=>Out b e l (insFields l e 2 (p+1)) w (VIns w) en w':=by
  have hbw:=h.lt
  have HL:Hid (p<l.length):=which_lt (by rw [hk];decide)
  have HE:Hid (insFields l e 2 (p+1)=PR.andThen (numP l e (p+1+1)) fun a p1=>PR.andThen (numP l e p1) fun c p2=>(.ok ((⟨2,a,c,0,(j:Nat),0,[],[]⟩:MIns),p2):PR MIns)):=by show _=_;rw [ins2_eq,if_neg (by rw [hj];exact hj0),hj]
  have S1:Hid (PAt (w.alloc (.cells #[.int .i64 0,.int .i64 0,.int .i64 0,.int .i64 0,.int .i64 0,.int .i64 0,.slice none 0 0,.slice none 0 0] 45)) _ _ _ _∧_∧_):=begins h
  have C:Hid (∀ w1:World,PAt w1 b l e p→Calls Tryz.prog 197 #[ptrP b,.func (.func 12) #[] #[]] w1 fun en w'=>en=.returned (.int .i64 2)∧Below w1.heap.size w1 w'):=fun w1 h1=>which_told enters_Op pOp_any opWords_wordly (by decide) hk (by decide) h1
  have C2:Hid (∀ w1:World,PAt w1 b l e (p+1)→Calls Tryz.prog 197 #[ptrP b,.func (.func 14) #[] #[]] w1 fun en w'=>en=.returned (.int .i64 j)∧Below w1.heap.size w1 w'):=fun w1 h1=>by
    have:=pmustWhich_any 14 kindWords enters_Kind pKind_any kindWords_wordly (by decide) h1
    rw [hj] at this
    refine this.mono fun en w' hO=>?_
    rcases hO with ⟨_,he,hb⟩ | ⟨h0,_⟩
    · exact ⟨he,hb⟩
    · exact absurd h0 hj0
  have HL2:Hid (p+1<l.length):=which_lt (by rw [hj];exact hj0)
  have Bj:Hid ((0:Int)≤j∧(j:Int)≤1000000):=by have:=which_le (l:=l) (p:=p+1) kindWords;rw [hj] at this;have h9:kindWords.length=9:=rfl;exact ⟨by omega,by omega⟩
  clear hj hj0
  clear h hk
  go_enter Tryz.func169,Tryz.ntmps169
  go_wp2_with fail
  generalize w.alloc (.cells #[.int .i64 0,.int .i64 0,.int .i64 0,.int .i64 0,.int .i64 0,.int .i64 0,.slice none 0 0,.slice none 0 0] 45)=w1 at S1 ⊢
  refine (C.out w1 S1.out.1).mono ?_
  rintro e' w2 ⟨rfl,b2⟩
  have F0:Hid (FB w (w2.alloc (.cells #[.int .i64 2,.int .i64 0,.int .i64 0,.int .i64 0,.int .i64 0,.int .i64 0,.slice none 0 0,.slice none 0 0] 45)) b e l p w.heap.size w2.heap.size _ #[.int .i64 2,.int .i64 0,.int .i64 0,.int .i64 0,.int .i64 0,.int .i64 0,.slice none 0 0,.slice none 0 0] 45):=FB.beside _ (S1.out.1.below b2) (S1.out.2.1.below b2) (S1.out.2.2.trans (Chg.below b2)) hbw (Nat.le_refl _)
  clear b2 S1 C
  go_wp2_with fail
  generalize w2.alloc (.cells #[.int .i64 2,.int .i64 0,.int .i64 0,.int .i64 0,.int .i64 0,.int .i64 0,.slice none 0 0,.slice none 0 0] 45)=w3 at F0 ⊢
  generalize w2.heap.size=B at F0 ⊢
  have hRB:w.heap.size<B:=F0.out.RB
  refine (take_any F0.out.rd HL.out).mono ?_
  rintro e' w4 ⟨rfl,r4,k4⟩
  have F4:Hid (FB _ _ _ _ _ _ _ _ _ _ _):=F0.out.call r4 k4
  have y0:=cellOf F4.out.box 0 _ rfl
  clear r4 k4 F0
  go_wp2_with fail
  refine (C2.out w4 F4.out.rd).mono ?_
  rintro e' w5 ⟨rfl,b5⟩
  have F5:Hid (FB w w5 b e l (p+1) w.heap.size B #[.int .i64 0,.int .i64 0,.int .i64 0,.int .i64 0,.int .i64 0,.int .i64 0,.slice none 0 0,.slice none 0 0] #[.int .i64 2,.int .i64 0,.int .i64 0,.int .i64 0,.int .i64 0,.int .i64 0,.slice none 0 0,.slice none 0 0] 45):=F4.out.call (F4.out.rd.below b5) (Chg.below b5)
  clear b5 F4 C2
  have y4:=cellOf F5.out.box 4 _ rfl
  have z4:=freeOf F5.out.box 4
  go_wp2_with fail
  have G6:Hid (FB _ (w5.setCell ⟨B,4,none⟩ (.int .i64 (j:Int))) _ _ _ _ _ _ _ #[.int .i64 2,.int .i64 0,.int .i64 0,.int .i64 0,.int .i64 (j:Int),.int .i64 0,.slice none 0 0,.slice none 0 0] _):=(FB.set F5.out 4 (.int .i64 (j:Int)))
  generalize (w5.setCell ⟨B,4,none⟩ (.int .i64 (j:Int)))=w6 at G6 ⊢
  clear y4 z4 F5
  refine (take_any G6.out.rd HL2.out).mono ?_
  rintro e' w7 ⟨rfl,r7,k7⟩
  have T7:Hid (FB w w7 b e l (p+1+1) w.heap.size B #[.int .i64 0,.int .i64 0,.int .i64 0,.int .i64 0,.int .i64 0,.int .i64 0,.slice none 0 0,.slice none 0 0] #[.int .i64 2,.int .i64 0,.int .i64 0,.int .i64 0,.int .i64 (j:Int),.int .i64 0,.slice none 0 0,.slice none 0 0] 45):=G6.out.call r7 k7
  clear r7 k7 G6
  go_wp2_with fail
  refine (FB.callNums T7.out [1,2] (by simp) rfl (by decide) (by simp)).mono ?_
  intro e' w8 hO
  rcases hO with ⟨ns,p8,m8,rfl,hx8,r8,k8⟩ | ⟨y,c',a',m8,rfl,hc',k8⟩
  rotate_left
  · exact ⟨rfl,Out.bad (by rw [HE.out,nums2_eq,show numsP l e 2 (p+1+1)=_ from m8];rfl) hc' k8⟩
  have hl8:=nums_len m8
  obtain ⟨na,nb,rfl⟩:∃ na nb,ns=[na,nb]:=by
    match ns,hl8 with
    | [na,nb],_=>exact ⟨na,nb,rfl⟩
  have Bna:Hid (0≤na∧na≤1000000):=hx8 na (by simp)
  have Bnb:Hid (0≤nb∧nb≤1000000):=hx8 nb (by simp)
  have E8:Hid (numsP l e 2 (p+1+1)=.ok ([na,nb],p8)):=m8
  have G8:Hid (FB _ _ _ _ _ _ _ _ _ #[.int .i64 2,.int .i64 na,.int .i64 nb,.int .i64 0,.int .i64 (j:Int),.int .i64 0,.slice none 0 0,.slice none 0 0] _):=r8
  clear m8 r8 k8 hx8 hl8 T7
  obtain ⟨y0,y1,y2,y3,y4,y5,y6,y7⟩:=cells8 G8.out.box
  obtain ⟨u0,u1,u2,u3,u4,u5,u6,u7⟩:=cells8 G8.out.res
  obtain ⟨v0,v1,v2,v3,v4,v5,v6,v7⟩:=frees8 G8.out.res
  have hne:¬ B=w.heap.size:=by omega
  go_wp2
  have DD:Hid (FinD _ _ _ _ _ _ _ #[.int .i64 2,.int .i64 na,.int .i64 nb,.int .i64 0,.int .i64 (j:Int),.int .i64 0,.slice none 0 0,.slice none 0 0] ((((((((w8.setCell ⟨w.heap.size,0,none⟩ (.int .i64 2)).setCell ⟨w.heap.size,1,none⟩ (.int .i64 na)).setCell ⟨w.heap.size,2,none⟩ (.int .i64 nb)).setCell ⟨w.heap.size,3,none⟩ (.int .i64 0)).setCell ⟨w.heap.size,4,none⟩ (.int .i64 (j:Int))).setCell ⟨w.heap.size,5,none⟩ (.int .i64 0)).setCell ⟨w.heap.size,6,none⟩ (.slice none 0 0)).setCell ⟨w.heap.size,7,none⟩ (.slice none 0 0))):=FB.fin G8.out [.int .i64 2,.int .i64 na,.int .i64 nb,.int .i64 0,.int .i64 (j:Int),.int .i64 0,.slice none 0 0,.slice none 0 0] rfl
  clear y0 u0 v0 y1 u1 v1 y2 u2 v2 y3 u3 v3 y4 u4 v4 y5 u5 v5 y6 u6 v6 y7 u7 v7
  generalize ((((((((w8.setCell ⟨w.heap.size,0,none⟩ (.int .i64 2)).setCell ⟨w.heap.size,1,none⟩ (.int .i64 na)).setCell ⟨w.heap.size,2,none⟩ (.int .i64 nb)).setCell ⟨w.heap.size,3,none⟩ (.int .i64 0)).setCell ⟨w.heap.size,4,none⟩ (.int .i64 (j:Int))).setCell ⟨w.heap.size,5,none⟩ (.int .i64 0)).setCell ⟨w.heap.size,6,none⟩ (.slice none 0 0)).setCell ⟨w.heap.size,7,none⟩ (.slice none 0 0))=w9 at DD ⊢
  obtain ⟨D1,D2,D3⟩:=DD.out
  obtain ⟨x0,x1,x2,x3,x4,x5,x6,x7⟩:=cells8 D1
  exact bodyPost_ret (v:=.agg #[.int .i64 2,.int .i64 na,.int .i64 nb,.int .i64 0,.int .i64 (j:Int),.int .i64 0,.slice none 0 0,.slice none 0 0]) (by simp [results,Tryz.results169,go_sem,x0,x1,x2,x3,x4,x5,x6,x7]) rfl (Out.good (by rw [HE.out,nums2_eq,E8.out,PR.ok_andThen];rfl) (⟨none,0,none,0,rfl,ins_mk (x:=(⟨2,na,nb,0,(j:Nat),0,[],[]⟩:MIns)) (Lay.list_nil _ _ _ _ _) (Lay.list_nil _ _ _ _ _) ⟨lit_i64 2 (by decide),i64_of Bna.out,i64_of Bnb.out,lit_i64 0 (by decide),i64_of Bj.out,lit_i64 0 (by decide)⟩⟩) D2 D3)
theorem pins_k3 {w : World} {b e p : Nat} {l : List Tk} (h : PAt w b l e p) (hk : whichP l opWords p = 3) :
    Calls Tryz.prog 169 #[ptrP b] w fun en w'=>Out b e l (insFields l e 3 (p+1)) w (VIns w) en w':=by
  have hbw:=h.lt
  have HL:Hid (p<l.length):=which_lt (by rw [hk];decide)
  have HE:Hid (insFields l e 3 (p+1)=((.ok ((⟨3,0,0,0,0,0,[],[]⟩:MIns),(p+1)):PR MIns))):=rfl
  have S1:Hid (PAt (w.alloc (.cells #[.int .i64 0,.int .i64 0,.int .i64 0,.int .i64 0,.int .i64 0,.int .i64 0,.slice none 0 0,.slice none 0 0] 45)) _ _ _ _∧_∧_):=begins h
  have C:Hid (∀ w1:World,PAt w1 b l e p→Calls Tryz.prog 197 #[ptrP b,.func (.func 12) #[] #[]] w1 fun en w'=>en=.returned (.int .i64 3)∧Below w1.heap.size w1 w'):=fun w1 h1=>which_told enters_Op pOp_any opWords_wordly (by decide) hk (by decide) h1
  clear h hk
  go_enter Tryz.func169,Tryz.ntmps169
  go_wp2_with fail
  generalize w.alloc (.cells #[.int .i64 0,.int .i64 0,.int .i64 0,.int .i64 0,.int .i64 0,.int .i64 0,.slice none 0 0,.slice none 0 0] 45)=w1 at S1 ⊢
  refine (C.out w1 S1.out.1).mono ?_
  rintro e' w2 ⟨rfl,b2⟩
  have F0:Hid (FB w (w2.alloc (.cells #[.int .i64 3,.int .i64 0,.int .i64 0,.int .i64 0,.int .i64 0,.int .i64 0,.slice none 0 0,.slice none 0 0] 45)) b e l p w.heap.size w2.heap.size _ #[.int .i64 3,.int .i64 0,.int .i64 0,.int .i64 0,.int .i64 0,.int .i64 0,.slice none 0 0,.slice none 0 0] 45):=FB.beside _ (S1.out.1.below b2) (S1.out.2.1.below b2) (S1.out.2.2.trans (Chg.below b2)) hbw (Nat.le_refl _)
  clear b2 S1 C
  go_wp2_with fail
  generalize w2.alloc (.cells #[.int .i64 3,.int .i64 0,.int .i64 0,.int .i64 0,.int .i64 0,.int .i64 0,.slice none 0 0,.slice none 0 0] 45)=w3 at F0 ⊢
  generalize w2.heap.size=B at F0 ⊢
  have hRB:w.heap.size<B:=F0.out.RB
  refine (take_any F0.out.rd HL.out).mono ?_
  rintro e' w4 ⟨rfl,r4,k4⟩
  have F4:Hid (FB _ _ _ _ _ _ _ _ _ _ _):=F0.out.call r4 k4
  have y0:=cellOf F4.out.box 0 _ rfl
  clear r4 k4 F0
  obtain ⟨y0,y1,y2,y3,y4,y5,y6,y7⟩:=cells8 F4.out.box
  obtain ⟨u0,u1,u2,u3,u4,u5,u6,u7⟩:=cells8 F4.out.res
  obtain ⟨v0,v1,v2,v3,v4,v5,v6,v7⟩:=frees8 F4.out.res
  have hne:¬ B=w.heap.size:=by omega
  go_wp2
  have DD:Hid (FinD _ _ _ _ _ _ _ #[.int .i64 3,.int .i64 0,.int .i64 0,.int .i64 0,.int .i64 0,.int .i64 0,.slice none 0 0,.slice none 0 0] ((((((((w4.setCell ⟨w.heap.size,0,none⟩ (.int .i64 3)).setCell ⟨w.heap.size,1,none⟩ (.int .i64 0)).setCell ⟨w.heap.size,2,none⟩ (.int .i64 0)).setCell ⟨w.heap.size,3,none⟩ (.int .i64 0)).setCell ⟨w.heap.size,4,none⟩ (.int .i64 0)).setCell ⟨w.heap.size,5,none⟩ (.int .i64 0)).setCell ⟨w.heap.size,6,none⟩ (.slice none 0 0)).setCell ⟨w.heap.size,7,none⟩ (.slice none 0 0))):=FB.fin F4.out [.int .i64 3,.int .i64 0,.int .i64 0,.int .i64 0,.int .i64 0,.int .i64 0,.slice none 0 0,.slice none 0 0] rfl
  clear u0 v0 y1 u1 v1 y2 u2 v2 y3 u3 v3 y4 u4 v4 y5 u5 v5 y6 u6 v6 y7 u7 v7
  generalize ((((((((w4.setCell ⟨w.heap.size,0,none⟩ (.int .i64 3)).setCell ⟨w.heap.size,1,none⟩ (.int .i64 0)).setCell ⟨w.heap.size,2,none⟩ (.int .i64 0)).setCell ⟨w.heap.size,3,none⟩ (.int .i64 0)).setCell ⟨w.heap.size,4,none⟩ (.int .i64 0)).setCell ⟨w.heap.size,5,none⟩ (.int .i64 0)).setCell ⟨w.heap.size,6,none⟩ (.slice none 0 0)).setCell ⟨w.heap.size,7,none⟩ (.slice none 0 0))=w9 at DD ⊢
  obtain ⟨D1,D2,D3⟩:=DD.out
  obtain ⟨x0,x1,x2,x3,x4,x5,x6,x7⟩:=cells8 D1
  exact bodyPost_ret (v:=.agg #[.int .i64 3,.int .i64 0,.int .i64 0,.int .i64 0,.int .i64 0,.int .i64 0,.slice none 0 0,.slice none 0 0]) (by simp [results,Tryz.results169,go_sem,x0,x1,x2,x3,x4,x5,x6,x7]) rfl (Out.good (HE.out) (⟨none,0,none,0,rfl,ins_mk (x:=(⟨3,0,0,0,0,0,[],[]⟩:MIns)) (Lay.list_nil _ _ _ _ _) (Lay.list_nil _ _ _ _ _) ⟨lit_i64 3 (by decide),lit_i64 0 (by decide),lit_i64 0 (by decide),lit_i64 0 (by decide),lit_i64 0 (by decide),lit_i64 0 (by decide)⟩⟩) D2 D3)
theorem pins_k4 {w : World} {b e p : Nat} {l : List Tk} (h : PAt w b l e p) (hk : whichP l opWords p = 4) :
    Calls Tryz.prog 169 #[ptrP b] w fun en w'=>Out b e l (insFields l e 4 (p+1)) w (VIns w) en w':=by
  have hbw:=h.lt
  have HL:Hid (p<l.length):=which_lt (by rw [hk];decide)
  have HE:Hid (insFields l e 4 (p+1)=(PR.andThen (numP l e (p+1)) fun na q1=>(.ok ((⟨4,na,0,0,0,0,[],[]⟩:MIns),q1):PR MIns))):=rfl
  have S1:Hid (PAt (w.alloc (.cells #[.int .i64 0,.int .i64 0,.int .i64 0,.int .i64 0,.int .i64 0,.int .i64 0,.slice none 0 0,.slice none 0 0] 45)) _ _ _ _∧_∧_):=begins h
  have C:Hid (∀ w1:World,PAt w1 b l e p→Calls Tryz.prog 197 #[ptrP b,.func (.func 12) #[] #[]] w1 fun en w'=>en=.returned (.int .i64 4)∧Below w1.heap.size w1 w'):=fun w1 h1=>which_told enters_Op pOp_any opWords_wordly (by decide) hk (by decide) h1
  clear h hk
  go_enter Tryz.func169,Tryz.ntmps169
  go_wp2_with fail
  generalize w.alloc (.cells #[.int .i64 0,.int .i64 0,.int .i64 0,.int .i64 0,.int .i64 0,.int .i64 0,.slice none 0 0,.slice none 0 0] 45)=w1 at S1 ⊢
  refine (C.out w1 S1.out.1).mono ?_
  rintro e' w2 ⟨rfl,b2⟩
  have F0:Hid (FB w (w2.alloc (.cells #[.int .i64 4,.int .i64 0,.int .i64 0,.int .i64 0,.int .i64 0,.int .i64 0,.slice none 0 0,.slice none 0 0] 45)) b e l p w.heap.size w2.heap.size _ #[.int .i64 4,.int .i64 0,.int .i64 0,.int .i64 0,.int .i64 0,.int .i64 0,.slice none 0 0,.slice none 0 0] 45):=FB.beside _ (S1.out.1.below b2) (S1.out.2.1.below b2) (S1.out.2.2.trans (Chg.below b2)) hbw (Nat.le_refl _)
  clear b2 S1 C
  go_wp2_with fail
  generalize w2.alloc (.cells #[.int .i64 4,.int .i64 0,.int .i64 0,.int .i64 0,.int .i64 0,.int .i64 0,.slice none 0 0,.slice none 0 0] 45)=w3 at F0 ⊢
  generalize w2.heap.size=B at F0 ⊢
  have hRB:w.heap.size<B:=F0.out.RB
  refine (take_any F0.out.rd HL.out).mono ?_
  rintro e' w4 ⟨rfl,r4,k4⟩
  have F4:Hid (FB _ _ _ _ _ _ _ _ _ _ _):=F0.out.call r4 k4
  have y0:=cellOf F4.out.box 0 _ rfl
  clear r4 k4 F0
  go_wp2_with fail
  refine (FB.callNums F4.out [1] (by simp) rfl (by decide) (by simp)).mono ?_
  intro e' w5 hO
  rcases hO with ⟨ns,p5,m5,rfl,hx5,r5,k5⟩ | ⟨y,c',a',m5,rfl,hc',k5⟩
  rotate_left
  · exact ⟨rfl,Out.bad (by rw [HE.out,nums1_eq,show numsP l e 1 (p+1)=_ from m5];rfl) hc' k5⟩
  have hl5:=nums_len m5
  obtain ⟨na,rfl⟩:∃ na,ns=[na]:=by
    match ns,hl5 with
    | [na],_=>exact ⟨na,rfl⟩
  have Bna:Hid (0≤na∧na≤1000000):=hx5 na (by simp)
  have E5:Hid (numsP l e 1 (p+1)=.ok ([na],p5)):=m5
  have G5:Hid (FB _ _ _ _ _ _ _ _ _ #[.int .i64 4,.int .i64 na,.int .i64 0,.int .i64 0,.int .i64 0,.int .i64 0,.slice none 0 0,.slice none 0 0] _):=r5
  clear m5 r5 k5 hx5 hl5 F4
  obtain ⟨y0,y1,y2,y3,y4,y5,y6,y7⟩:=cells8 G5.out.box
  obtain ⟨u0,u1,u2,u3,u4,u5,u6,u7⟩:=cells8 G5.out.res
  obtain ⟨v0,v1,v2,v3,v4,v5,v6,v7⟩:=frees8 G5.out.res
  have hne:¬ B=w.heap.size:=by omega
  go_wp2
  have DD:Hid (FinD _ _ _ _ _ _ _ #[.int .i64 4,.int .i64 na,.int .i64 0,.int .i64 0,.int .i64 0,.int .i64 0,.slice none 0 0,.slice none 0 0] ((((((((w5.setCell ⟨w.heap.size,0,none⟩ (.int .i64 4)).setCell ⟨w.heap.size,1,none⟩ (.int .i64 na)).setCell ⟨w.heap.size,2,none⟩ (.int .i64 0)).setCell ⟨w.heap.size,3,none⟩ (.int .i64 0)).setCell ⟨w.heap.size,4,none⟩ (.int .i64 0)).setCell ⟨w.heap.size,5,none⟩ (.int .i64 0)).setCell ⟨w.heap.size,6,none⟩ (.slice none 0 0)).setCell ⟨w.heap.size,7,none⟩ (.slice none 0 0))):=FB.fin G5.out [.int .i64 4,.int .i64 na,.int .i64 0,.int .i64 0,.int .i64 0,.int .i64 0,.slice none 0 0,.slice none 0 0] rfl
  clear y0 u0 v0 y1 u1 v1 y2 u2 v2 y3 u3 v3 y4 u4 v4 y5 u5 v5 y6 u6 v6 y7 u7 v7
  generalize ((((((((w5.setCell ⟨w.heap.size,0,none⟩ (.int .i64 4)).setCell ⟨w.heap.size,1,none⟩ (.int .i64 na)).setCell ⟨w.heap.size,2,none⟩ (.int .i64 0)).setCell ⟨w.heap.size,3,none⟩ (.int .i64 0)).setCell ⟨w.heap.size,4,none⟩ (.int .i64 0)).setCell ⟨w.heap.size,5,none⟩ (.int .i64 0)).setCell ⟨w.heap.size,6,none⟩ (.slice none 0 0)).setCell ⟨w.heap.size,7,none⟩ (.slice none 0 0))=w9 at DD ⊢
  obtain ⟨D1,D2,D3⟩:=DD.out
  obtain ⟨x0,x1,x2,x3,x4,x5,x6,x7⟩:=cells8 D1
  exact bodyPost_ret (v:=.agg #[.int .i64 4,.int .i64 na,.int .i64 0,.int .i64 0,.int .i64 0,.int .i64 0,.slice none 0 0,.slice none 0 0]) (by simp [results,Tryz.results169,go_sem,x0,x1,x2,x3,x4,x5,x6,x7]) rfl (Out.good (by rw [HE.out,nums1_eq,E5.out,PR.ok_andThen];rfl) (⟨none,0,none,0,rfl,ins_mk (x:=(⟨4,na,0,0,0,0,[],[]⟩:MIns)) (Lay.list_nil _ _ _ _ _) (Lay.list_nil _ _ _ _ _) ⟨lit_i64 4 (by decide),i64_of Bna.out,lit_i64 0 (by decide),lit_i64 0 (by decide),lit_i64 0 (by decide),lit_i64 0 (by decide)⟩⟩) D2 D3)
theorem pins_k5 {w : World} {b e p : Nat} {l : List Tk} (h : PAt w b l e p) (hk : whichP l opWords p = 5) :
    Calls Tryz.prog 169 #[ptrP b] w fun en w'=>Out b e l (insFields l e 5 (p+1)) w (VIns w) en w':=by
  have hbw:=h.lt
  have HL:Hid (p<l.length):=which_lt (by rw [hk];decide)
  have HE:Hid (insFields l e 5 (p+1)=(PR.andThen (numP l e (p+1)) fun na q1=>PR.andThen (argsP l e q1) fun ys q2=>(.ok ((⟨5,na,0,0,0,0,[],ys⟩:MIns),q2):PR MIns))):=rfl
  have S1:Hid (PAt (w.alloc (.cells #[.int .i64 0,.int .i64 0,.int .i64 0,.int .i64 0,.int .i64 0,.int .i64 0,.slice none 0 0,.slice none 0 0] 45)) _ _ _ _∧_∧_):=begins h
  have C:Hid (∀ w1:World,PAt w1 b l e p→Calls Tryz.prog 197 #[ptrP b,.func (.func 12) #[] #[]] w1 fun en w'=>en=.returned (.int .i64 5)∧Below w1.heap.size w1 w'):=fun w1 h1=>which_told enters_Op pOp_any opWords_wordly (by decide) hk (by decide) h1
  clear h hk
  go_enter Tryz.func169,Tryz.ntmps169
  go_wp2_with fail
  generalize w.alloc (.cells #[.int .i64 0,.int .i64 0,.int .i64 0,.int .i64 0,.int .i64 0,.int .i64 0,.slice none 0 0,.slice none 0 0] 45)=w1 at S1 ⊢
  refine (C.out w1 S1.out.1).mono ?_
  rintro e' w2 ⟨rfl,b2⟩
  have F0:Hid (FB w (w2.alloc (.cells #[.int .i64 5,.int .i64 0,.int .i64 0,.int .i64 0,.int .i64 0,.int .i64 0,.slice none 0 0,.slice none 0 0] 45)) b e l p w.heap.size w2.heap.size _ #[.int .i64 5,.int .i64 0,.int .i64 0,.int .i64 0,.int .i64 0,.int .i64 0,.slice none 0 0,.slice none 0 0] 45):=FB.beside _ (S1.out.1.below b2) (S1.out.2.1.below b2) (S1.out.2.2.trans (Chg.below b2)) hbw (Nat.le_refl _)
  clear b2 S1 C
  go_wp2_with fail
  generalize w2.alloc (.cells #[.int .i64 5,.int .i64 0,.int .i64 0,.int .i64 0,.int .i64 0,.int .i64 0,.slice none 0 0,.slice none 0 0] 45)=w3 at F0 ⊢
  generalize w2.heap.size=B at F0 ⊢
  have hRB:w.heap.size<B:=F0.out.RB
  refine (take_any F0.out.rd HL.out).mono ?_
  rintro e' w4 ⟨rfl,r4,k4⟩
  have F4:Hid (FB _ _ _ _ _ _ _ _ _ _ _):=F0.out.call r4 k4
  have y0:=cellOf F4.out.box 0 _ rfl
  clear r4 k4 F0
  go_wp2_with fail
  refine (FB.callNums F4.out [1] (by simp) rfl (by decide) (by simp)).mono ?_
  intro e' w5 hO
  rcases hO with ⟨ns,p5,m5,rfl,hx5,r5,k5⟩ | ⟨y,c',a',m5,rfl,hc',k5⟩
  rotate_left
  · exact ⟨rfl,Out.bad (by rw [HE.out,nums1_eq,show numsP l e 1 (p+1)=_ from m5];rfl) hc' k5⟩
  have hl5:=nums_len m5
  obtain ⟨na,rfl⟩:∃ na,ns=[na]:=by
    match ns,hl5 with
    | [na],_=>exact ⟨na,rfl⟩
  have Bna:Hid (0≤na∧na≤1000000):=hx5 na (by simp)
  have E5:Hid (numsP l e 1 (p+1)=.ok ([na],p5)):=m5
  have G5:Hid (FB _ _ _ _ _ _ _ _ _ #[.int .i64 5,.int .i64 na,.int .i64 0,.int .i64 0,.int .i64 0,.int .i64 0,.slice none 0 0,.slice none 0 0] _):=r5
  clear m5 r5 k5 hx5 hl5 F4
  go_wp2_with fail
  refine (pargs_any G5.out.rd).mono ?_
  intro e' w6 hO
  rcases hO with ⟨ys,p6,x6,m6,rfl,⟨ay,cy,rfl,hi6⟩,r6,k6⟩ | ⟨y,c',a',m6,rfl,hc',k6⟩
  rotate_left
  · exact ⟨rfl,Out.bad (by rw [HE.out,nums1_eq,E5.out,PR.ok_andThen,m6];rfl) hc' (G5.out.chg.trans k6)⟩
  have E6:Hid (argsP l e p5=.ok (ys,p6)):=m6
  have G6:Hid (FB _ _ _ _ _ _ _ _ _ _ _):=G5.out.call r6 k6
  have Kys:Hid (Kid intsL B w6 ys [.slice ay ys.length cy]):=Kid.mk hi6 G5.out.lt
  clear hi6
  clear m6 r6 k6 G5
  obtain ⟨y0,y1,y2,y3,y4,y5,y6,y7⟩:=cells8 G6.out.box
  obtain ⟨u0,u1,u2,u3,u4,u5,u6,u7⟩:=cells8 G6.out.res
  obtain ⟨v0,v1,v2,v3,v4,v5,v6,v7⟩:=frees8 G6.out.res
  have z7:=freeOf G6.out.box 7
  have hne:¬ B=w.heap.size:=by omega
  go_wp2
  have DD:Hid (FinD _ _ _ _ _ _ _ #[.int .i64 5,.int .i64 na,.int .i64 0,.int .i64 0,.int .i64 0,.int .i64 0,.slice none 0 0,.slice ay ys.length cy] (((((((((w6.setCell ⟨B,7,none⟩ (.slice ay ys.length cy)).setCell ⟨w.heap.size,0,none⟩ (.int .i64 5)).setCell ⟨w.heap.size,1,none⟩ (.int .i64 na)).setCell ⟨w.heap.size,2,none⟩ (.int .i64 0)).setCell ⟨w.heap.size,3,none⟩ (.int .i64 0)).setCell ⟨w.heap.size,4,none⟩ (.int .i64 0)).setCell ⟨w.heap.size,5,none⟩ (.int .i64 0)).setCell ⟨w.heap.size,6,none⟩ (.slice none 0 0)).setCell ⟨w.heap.size,7,none⟩ (.slice ay ys.length cy))):=FB.fin (FB.set G6.out 7 (.slice ay ys.length cy)) [.int .i64 5,.int .i64 na,.int .i64 0,.int .i64 0,.int .i64 0,.int .i64 0,.slice none 0 0,.slice ay ys.length cy] rfl
  have DKys:Hid (Kid _ _ (((((((((w6.setCell ⟨B,7,none⟩ (.slice ay ys.length cy)).setCell ⟨w.heap.size,0,none⟩ (.int .i64 5)).setCell ⟨w.heap.size,1,none⟩ (.int .i64 na)).setCell ⟨w.heap.size,2,none⟩ (.int .i64 0)).setCell ⟨w.heap.size,3,none⟩ (.int .i64 0)).setCell ⟨w.heap.size,4,none⟩ (.int .i64 0)).setCell ⟨w.heap.size,5,none⟩ (.int .i64 0)).setCell ⟨w.heap.size,6,none⟩ (.slice none 0 0)).setCell ⟨w.heap.size,7,none⟩ (.slice ay ys.length cy)) _ _):=Kid.sets (Kid.set Kys.out (q:=⟨B,7,none⟩) (Nat.le_refl _) _) (by omega) [.int .i64 5,.int .i64 na,.int .i64 0,.int .i64 0,.int .i64 0,.int .i64 0,.slice none 0 0,.slice ay ys.length cy] 0
  clear Kys
  clear y0 u0 v0 y1 u1 v1 y2 u2 v2 y3 u3 v3 y4 u4 v4 y5 u5 v5 y6 u6 v6 y7 u7 v7
  generalize (((((((((w6.setCell ⟨B,7,none⟩ (.slice ay ys.length cy)).setCell ⟨w.heap.size,0,none⟩ (.int .i64 5)).setCell ⟨w.heap.size,1,none⟩ (.int .i64 na)).setCell ⟨w.heap.size,2,none⟩ (.int .i64 0)).setCell ⟨w.heap.size,3,none⟩ (.int .i64 0)).setCell ⟨w.heap.size,4,none⟩ (.int .i64 0)).setCell ⟨w.heap.size,5,none⟩ (.int .i64 0)).setCell ⟨w.heap.size,6,none⟩ (.slice none 0 0)).setCell ⟨w.heap.size,7,none⟩ (.slice ay ys.length cy))=w9 at DD DKys ⊢
  obtain ⟨D1,D2,D3⟩:=DD.out
  obtain ⟨x0,x1,x2,x3,x4,x5,x6,x7⟩:=cells8 D1
  exact bodyPost_ret (v:=.agg #[.int .i64 5,.int .i64 na,.int .i64 0,.int .i64 0,.int .i64 0,.int .i64 0,.slice none 0 0,.slice ay ys.length cy]) (by simp [results,Tryz.results169,go_sem,x0,x1,x2,x3,x4,x5,x6,x7]) rfl (Out.good (by rw [HE.out,nums1_eq,E5.out,PR.ok_andThen,E6.out,PR.ok_andThen];rfl) (⟨none,0,ay,cy,rfl,ins_mk (x:=(⟨5,na,0,0,0,0,[],ys⟩:MIns)) (Lay.list_nil _ _ _ _ _) (Kid.out DKys.out (by omega)) ⟨lit_i64 5 (by decide),i64_of Bna.out,lit_i64 0 (by decide),lit_i64 0 (by decide),lit_i64 0 (by decide),lit_i64 0 (by decide)⟩⟩) D2 D3)
theorem pins_k6 {w : World} {b e p : Nat} {l : List Tk} (h : PAt w b l e p) (hk : whichP l opWords p = 6) :
    Calls Tryz.prog 169 #[ptrP b] w fun en w'=>Out b e l (insFields l e 6 (p+1)) w (VIns w) en w':=by
  have hbw:=h.lt
  have HL:Hid (p<l.length):=which_lt (by rw [hk];decide)
  have HE:Hid (insFields l e 6 (p+1)=(PR.andThen (numP l e (p+1)) fun na q1=>PR.andThen (numP l e q1) fun nk q2=>(.ok ((⟨6,na,0,0,nk,0,[],[]⟩:MIns),q2):PR MIns))):=rfl
  have S1:Hid (PAt (w.alloc (.cells #[.int .i64 0,.int .i64 0,.int .i64 0,.int .i64 0,.int .i64 0,.int .i64 0,.slice none 0 0,.slice none 0 0] 45)) _ _ _ _∧_∧_):=begins h
  have C:Hid (∀ w1:World,PAt w1 b l e p→Calls Tryz.prog 197 #[ptrP b,.func (.func 12) #[] #[]] w1 fun en w'=>en=.returned (.int .i64 6)∧Below w1.heap.size w1 w'):=fun w1 h1=>which_told enters_Op pOp_any opWords_wordly (by decide) hk (by decide) h1
  clear h hk
  go_enter Tryz.func169,Tryz.ntmps169
  go_wp2_with fail
  generalize w.alloc (.cells #[.int .i64 0,.int .i64 0,.int .i64 0,.int .i64 0,.int .i64 0,.int .i64 0,.slice none 0 0,.slice none 0 0] 45)=w1 at S1 ⊢
  refine (C.out w1 S1.out.1).mono ?_
  rintro e' w2 ⟨rfl,b2⟩
  have F0:Hid (FB w (w2.alloc (.cells #[.int .i64 6,.int .i64 0,.int .i64 0,.int .i64 0,.int .i64 0,.int .i64 0,.slice none 0 0,.slice none 0 0] 45)) b e l p w.heap.size w2.heap.size _ #[.int .i64 6,.int .i64 0,.int .i64 0,.int .i64 0,.int .i64 0,.int .i64 0,.slice none 0 0,.slice none 0 0] 45):=FB.beside _ (S1.out.1.below b2) (S1.out.2.1.below b2) (S1.out.2.2.trans (Chg.below b2)) hbw (Nat.le_refl _)
  clear b2 S1 C
  go_wp2_with fail
  generalize w2.alloc (.cells #[.int .i64 6,.int .i64 0,.int .i64 0,.int .i64 0,.int .i64 0,.int .i64 0,.slice none 0 0,.slice none 0 0] 45)=w3 at F0 ⊢
  generalize w2.heap.size=B at F0 ⊢
  have hRB:w.heap.size<B:=F0.out.RB
  refine (take_any F0.out.rd HL.out).mono ?_
  rintro e' w4 ⟨rfl,r4,k4⟩
  have F4:Hid (FB _ _ _ _ _ _ _ _ _ _ _):=F0.out.call r4 k4
  have y0:=cellOf F4.out.box 0 _ rfl
  clear r4 k4 F0
  go_wp2_with fail
  refine (FB.callNums F4.out [1,4] (by simp) rfl (by decide) (by simp)).mono ?_
  intro e' w5 hO
  rcases hO with ⟨ns,p5,m5,rfl,hx5,r5,k5⟩ | ⟨y,c',a',m5,rfl,hc',k5⟩
  rotate_left
  · exact ⟨rfl,Out.bad (by rw [HE.out,nums2_eq,show numsP l e 2 (p+1)=_ from m5];rfl) hc' k5⟩
  have hl5:=nums_len m5
  obtain ⟨na,nk,rfl⟩:∃ na nk,ns=[na,nk]:=by
    match ns,hl5 with
    | [na,nk],_=>exact ⟨na,nk,rfl⟩
  have Bna:Hid (0≤na∧na≤1000000):=hx5 na (by simp)
  have Bnk:Hid (0≤nk∧nk≤1000000):=hx5 nk (by simp)
  have E5:Hid (numsP l e 2 (p+1)=.ok ([na,nk],p5)):=m5
  have G5:Hid (FB _ _ _ _ _ _ _ _ _ #[.int .i64 6,.int .i64 na,.int .i64 0,.int .i64 0,.int .i64 nk,.int .i64 0,.slice none 0 0,.slice none 0 0] _):=r5
  clear m5 r5 k5 hx5 hl5 F4
  obtain ⟨y0,y1,y2,y3,y4,y5,y6,y7⟩:=cells8 G5.out.box
  obtain ⟨u0,u1,u2,u3,u4,u5,u6,u7⟩:=cells8 G5.out.res
  obtain ⟨v0,v1,v2,v3,v4,v5,v6,v7⟩:=frees8 G5.out.res
  have hne:¬ B=w.heap.size:=by omega
  go_wp2
  have DD:Hid (FinD _ _ _ _ _ _ _ #[.int .i64 6,.int .i64 na,.int .i64 0,.int .i64 0,.int .i64 nk,.int .i64 0,.slice none 0 0,.slice none 0 0] ((((((((w5.setCell ⟨w.heap.size,0,none⟩ (.int .i64 6)).setCell ⟨w.heap.size,1,none⟩ (.int .i64 na)).setCell ⟨w.heap.size,2,none⟩ (.int .i64 0)).setCell ⟨w.heap.size,3,none⟩ (.int .i64 0)).setCell ⟨w.heap.size,4,none⟩ (.int .i64 nk)).setCell ⟨w.heap.size,5,none⟩ (.int .i64 0)).setCell ⟨w.heap.size,6,none⟩ (.slice none 0 0)).setCell ⟨w.heap.size,7,none⟩ (.slice none 0 0))):=FB.fin G5.out [.int .i64 6,.int .i64 na,.int .i64 0,.int .i64 0,.int .i64 nk,.int .i64 0,.slice none 0 0,.slice none 0 0] rfl
  clear y0 u0 v0 y1 u1 v1 y2 u2 v2 y3 u3 v3 y4 u4 v4 y5 u5 v5 y6 u6 v6 y7 u7 v7
  generalize ((((((((w5.setCell ⟨w.heap.size,0,none⟩ (.int .i64 6)).setCell ⟨w.heap.size,1,none⟩ (.int .i64 na)).setCell ⟨w.heap.size,2,none⟩ (.int .i64 0)).setCell ⟨w.heap.size,3,none⟩ (.int .i64 0)).setCell ⟨w.heap.size,4,none⟩ (.int .i64 nk)).setCell ⟨w.heap.size,5,none⟩ (.int .i64 0)).setCell ⟨w.heap.size,6,none⟩ (.slice none 0 0)).setCell ⟨w.heap.size,7,none⟩ (.slice none 0 0))=w9 at DD ⊢
  obtain ⟨D1,D2,D3⟩:=DD.out
  obtain ⟨x0,x1,x2,x3,x4,x5,x6,x7⟩:=cells8 D1
  exact bodyPost_ret (v:=.agg #[.int .i64 6,.int .i64 na,.int .i64 0,.int .i64 0,.int .i64 nk,.int .i64 0,.slice none 0 0,.slice none 0 0]) (by simp [results,Tryz.results169,go_sem,x0,x1,x2,x3,x4,x5,x6,x7]) rfl (Out.good (by rw [HE.out,nums2_eq,E5.out,PR.ok_andThen];rfl) (⟨none,0,none,0,rfl,ins_mk (x:=(⟨6,na,0,0,nk,0,[],[]⟩:MIns)) (Lay.list_nil _ _ _ _ _) (Lay.list_nil _ _ _ _ _) ⟨lit_i64 6 (by decide),i64_of Bna.out,lit_i64 0 (by decide),lit_i64 0 (by decide),i64_of Bnk.out,lit_i64 0 (by decide)⟩⟩) D2 D3)
theorem pins_k7 {w : World} {b e p : Nat} {l : List Tk} (h : PAt w b l e p) (hk : whichP l opWords p = 7) :
    Calls Tryz.prog 169 #[ptrP b] w fun en w'=>Out b e l (insFields l e 7 (p+1)) w (VIns w) en w':=by
  have hbw:=h.lt
  have HL:Hid (p<l.length):=which_lt (by rw [hk];decide)
  have HE:Hid (insFields l e 7 (p+1)=(PR.andThen (numP l e (p+1)) fun na q1=>PR.andThen (numP l e q1) fun nk q2=>PR.andThen (numP l e q2) fun nb q3=>(.ok ((⟨7,na,nb,0,nk,0,[],[]⟩:MIns),q3):PR MIns))):=rfl
  have S1:Hid (PAt (w.alloc (.cells #[.int .i64 0,.int .i64 0,.int .i64 0,.int .i64 0,.int .i64 0,.int .i64 0,.slice none 0 0,.slice none 0 0] 45)) _ _ _ _∧_∧_):=begins h
  have C:Hid (∀ w1:World,PAt w1 b l e p→Calls Tryz.prog 197 #[ptrP b,.func (.func 12) #[] #[]] w1 fun en w'=>en=.returned (.int .i64 7)∧Below w1.heap.size w1 w'):=fun w1 h1=>which_told enters_Op pOp_any opWords_wordly (by decide) hk (by decide) h1
  clear h hk
  go_enter Tryz.func169,Tryz.ntmps169
  go_wp2_with fail
  generalize w.alloc (.cells #[.int .i64 0,.int .i64 0,.int .i64 0,.int .i64 0,.int .i64 0,.int .i64 0,.slice none 0 0,.slice none 0 0] 45)=w1 at S1 ⊢
  refine (C.out w1 S1.out.1).mono ?_
  rintro e' w2 ⟨rfl,b2⟩
  have F0:Hid (FB w (w2.alloc (.cells #[.int .i64 7,.int .i64 0,.int .i64 0,.int .i64 0,.int .i64 0,.int .i64 0,.slice none 0 0,.slice none 0 0] 45)) b e l p w.heap.size w2.heap.size _ #[.int .i64 7,.int .i64 0,.int .i64 0,.int .i64 0,.int .i64 0,.int .i64 0,.slice none 0 0,.slice none 0 0] 45):=FB.beside _ (S1.out.1.below b2) (S1.out.2.1.below b2) (S1.out.2.2.trans (Chg.below b2)) hbw (Nat.le_refl _)
  clear b2 S1 C
  go_wp2_with fail
  generalize w2.alloc (.cells #[.int .i64 7,.int .i64 0,.int .i64 0,.int .i64 0,.int .i64 0,.int .i64 0,.slice none 0 0,.slice none 0 0] 45)=w3 at F0 ⊢
  generalize w2.heap.size=B at F0 ⊢
  have hRB:w.heap.size<B:=F0.out.RB
  refine (take_any F0.out.rd HL.out).mono ?_
  rintro e' w4 ⟨rfl,r4,k4⟩
  have F4:Hid (FB _ _ _ _ _ _ _ _ _ _ _):=F0.out.call r4 k4
  have y0:=cellOf F4.out.box 0 _ rfl
  clear r4 k4 F0
  go_wp2_with fail
  refine (FB.callNums F4.out [1,4,2] (by simp) rfl (by decide) (by simp)).mono ?_
  intro e' w5 hO
  rcases hO with ⟨ns,p5,m5,rfl,hx5,r5,k5⟩ | ⟨y,c',a',m5,rfl,hc',k5⟩
  rotate_left
  · exact ⟨rfl,Out.bad (by rw [HE.out,nums3_eq,show numsP l e 3 (p+1)=_ from m5];rfl) hc' k5⟩
  have hl5:=nums_len m5
  obtain ⟨na,nk,nb,rfl⟩:∃ na nk nb,ns=[na,nk,nb]:=by
    match ns,hl5 with
    | [na,nk,nb],_=>exact ⟨na,nk,nb,rfl⟩
  have Bna:Hid (0≤na∧na≤1000000):=hx5 na (by simp)
  have Bnk:Hid (0≤nk∧nk≤1000000):=hx5 nk (by simp)
  have Bnb:Hid (0≤nb∧nb≤1000000):=hx5 nb (by simp)
  have E5:Hid (numsP l e 3 (p+1)=.ok ([na,nk,nb],p5)):=m5
  have G5:Hid (FB _ _ _ _ _ _ _ _ _ #[.int .i64 7,.int .i64 na,.int .i64 nb,.int .i64 0,.int .i64 nk,.int .i64 0,.slice none 0 0,.slice none 0 0] _):=r5
  clear m5 r5 k5 hx5 hl5 F4
  obtain ⟨y0,y1,y2,y3,y4,y5,y6,y7⟩:=cells8 G5.out.box
  obtain ⟨u0,u1,u2,u3,u4,u5,u6,u7⟩:=cells8 G5.out.res
  obtain ⟨v0,v1,v2,v3,v4,v5,v6,v7⟩:=frees8 G5.out.res
  have hne:¬ B=w.heap.size:=by omega
  go_wp2
  have DD:Hid (FinD _ _ _ _ _ _ _ #[.int .i64 7,.int .i64 na,.int .i64 nb,.int .i64 0,.int .i64 nk,.int .i64 0,.slice none 0 0,.slice none 0 0] ((((((((w5.setCell ⟨w.heap.size,0,none⟩ (.int .i64 7)).setCell ⟨w.heap.size,1,none⟩ (.int .i64 na)).setCell ⟨w.heap.size,2,none⟩ (.int .i64 nb)).setCell ⟨w.heap.size,3,none⟩ (.int .i64 0)).setCell ⟨w.heap.size,4,none⟩ (.int .i64 nk)).setCell ⟨w.heap.size,5,none⟩ (.int .i64 0)).setCell ⟨w.heap.size,6,none⟩ (.slice none 0 0)).setCell ⟨w.heap.size,7,none⟩ (.slice none 0 0))):=FB.fin G5.out [.int .i64 7,.int .i64 na,.int .i64 nb,.int .i64 0,.int .i64 nk,.int .i64 0,.slice none 0 0,.slice none 0 0] rfl
  clear y0 u0 v0 y1 u1 v1 y2 u2 v2 y3 u3 v3 y4 u4 v4 y5 u5 v5 y6 u6 v6 y7 u7 v7
  generalize ((((((((w5.setCell ⟨w.heap.size,0,none⟩ (.int .i64 7)).setCell ⟨w.heap.size,1,none⟩ (.int .i64 na)).setCell ⟨w.heap.size,2,none⟩ (.int .i64 nb)).setCell ⟨w.heap.size,3,none⟩ (.int .i64 0)).setCell ⟨w.heap.size,4,none⟩ (.int .i64 nk)).setCell ⟨w.heap.size,5,none⟩ (.int .i64 0)).setCell ⟨w.heap.size,6,none⟩ (.slice none 0 0)).setCell ⟨w.heap.size,7,none⟩ (.slice none 0 0))=w9 at DD ⊢
  obtain ⟨D1,D2,D3⟩:=DD.out
  obtain ⟨x0,x1,x2,x3,x4,x5,x6,x7⟩:=cells8 D1
  exact bodyPost_ret (v:=.agg #[.int .i64 7,.int .i64 na,.int .i64 nb,.int .i64 0,.int .i64 nk,.int .i64 0,.slice none 0 0,.slice none 0 0]) (by simp [results,Tryz.results169,go_sem,x0,x1,x2,x3,x4,x5,x6,x7]) rfl (Out.good (by rw [HE.out,nums3_eq,E5.out,PR.ok_andThen];rfl) (⟨none,0,none,0,rfl,ins_mk (x:=(⟨7,na,nb,0,nk,0,[],[]⟩:MIns)) (Lay.list_nil _ _ _ _ _) (Lay.list_nil _ _ _ _ _) ⟨lit_i64 7 (by decide),i64_of Bna.out,i64_of Bnb.out,lit_i64 0 (by decide),i64_of Bnk.out,lit_i64 0 (by decide)⟩⟩) D2 D3)
theorem pins_k8 {w : World} {b e p : Nat} {l : List Tk} (h : PAt w b l e p) (hk : whichP l opWords p = 8) :
    Calls Tryz.prog 169 #[ptrP b] w fun en w'=>Out b e l (insFields l e 8 (p+1)) w (VIns w) en w':=by
  have hbw:=h.lt
  have HL:Hid (p<l.length):=which_lt (by rw [hk];decide)
  have HE:Hid (insFields l e 8 (p+1)=(PR.andThen (numP l e (p+1)) fun na q1=>PR.andThen (numP l e q1) fun nb q2=>(.ok ((⟨8,na,nb,0,0,0,[],[]⟩:MIns),q2):PR MIns))):=rfl
  have S1:Hid (PAt (w.alloc (.cells #[.int .i64 0,.int .i64 0,.int .i64 0,.int .i64 0,.int .i64 0,.int .i64 0,.slice none 0 0,.slice none 0 0] 45)) _ _ _ _∧_∧_):=begins h
  have C:Hid (∀ w1:World,PAt w1 b l e p→Calls Tryz.prog 197 #[ptrP b,.func (.func 12) #[] #[]] w1 fun en w'=>en=.returned (.int .i64 8)∧Below w1.heap.size w1 w'):=fun w1 h1=>which_told enters_Op pOp_any opWords_wordly (by decide) hk (by decide) h1
  clear h hk
  go_enter Tryz.func169,Tryz.ntmps169
  go_wp2_with fail
  generalize w.alloc (.cells #[.int .i64 0,.int .i64 0,.int .i64 0,.int .i64 0,.int .i64 0,.int .i64 0,.slice none 0 0,.slice none 0 0] 45)=w1 at S1 ⊢
  refine (C.out w1 S1.out.1).mono ?_
  rintro e' w2 ⟨rfl,b2⟩
  have F0:Hid (FB w (w2.alloc (.cells #[.int .i64 8,.int .i64 0,.int .i64 0,.int .i64 0,.int .i64 0,.int .i64 0,.slice none 0 0,.slice none 0 0] 45)) b e l p w.heap.size w2.heap.size _ #[.int .i64 8,.int .i64 0,.int .i64 0,.int .i64 0,.int .i64 0,.int .i64 0,.slice none 0 0,.slice none 0 0] 45):=FB.beside _ (S1.out.1.below b2) (S1.out.2.1.below b2) (S1.out.2.2.trans (Chg.below b2)) hbw (Nat.le_refl _)
  clear b2 S1 C
  go_wp2_with fail
  generalize w2.alloc (.cells #[.int .i64 8,.int .i64 0,.int .i64 0,.int .i64 0,.int .i64 0,.int .i64 0,.slice none 0 0,.slice none 0 0] 45)=w3 at F0 ⊢
  generalize w2.heap.size=B at F0 ⊢
  have hRB:w.heap.size<B:=F0.out.RB
  refine (take_any F0.out.rd HL.out).mono ?_
  rintro e' w4 ⟨rfl,r4,k4⟩
  have F4:Hid (FB _ _ _ _ _ _ _ _ _ _ _):=F0.out.call r4 k4
  have y0:=cellOf F4.out.box 0 _ rfl
  clear r4 k4 F0
  go_wp2_with fail
  refine (FB.callNums F4.out [1,2] (by simp) rfl (by decide) (by simp)).mono ?_
  intro e' w5 hO
  rcases hO with ⟨ns,p5,m5,rfl,hx5,r5,k5⟩ | ⟨y,c',a',m5,rfl,hc',k5⟩
  rotate_left
  · exact ⟨rfl,Out.bad (by rw [HE.out,nums2_eq,show numsP l e 2 (p+1)=_ from m5];rfl) hc' k5⟩
  have hl5:=nums_len m5
  obtain ⟨na,nb,rfl⟩:∃ na nb,ns=[na,nb]:=by
    match ns,hl5 with
    | [na,nb],_=>exact ⟨na,nb,rfl⟩
  have Bna:Hid (0≤na∧na≤1000000):=hx5 na (by simp)
  have Bnb:Hid (0≤nb∧nb≤1000000):=hx5 nb (by simp)
  have E5:Hid (numsP l e 2 (p+1)=.ok ([na,nb],p5)):=m5
  have G5:Hid (FB _ _ _ _ _ _ _ _ _ #[.int .i64 8,.int .i64 na,.int .i64 nb,.int .i64 0,.int .i64 0,.int .i64 0,.slice none 0 0,.slice none 0 0] _):=r5
  clear m5 r5 k5 hx5 hl5 F4
  obtain ⟨y0,y1,y2,y3,y4,y5,y6,y7⟩:=cells8 G5.out.box
  obtain ⟨u0,u1,u2,u3,u4,u5,u6,u7⟩:=cells8 G5.out.res
  obtain ⟨v0,v1,v2,v3,v4,v5,v6,v7⟩:=frees8 G5.out.res
  have hne:¬ B=w.heap.size:=by omega
  go_wp2
  have DD:Hid (FinD _ _ _ _ _ _ _ #[.int .i64 8,.int .i64 na,.int .i64 nb,.int .i64 0,.int .i64 0,.int .i64 0,.slice none 0 0,.slice none 0 0] ((((((((w5.setCell ⟨w.heap.size,0,none⟩ (.int .i64 8)).setCell ⟨w.heap.size,1,none⟩ (.int .i64 na)).setCell ⟨w.heap.size,2,none⟩ (.int .i64 nb)).setCell ⟨w.heap.size,3,none⟩ (.int .i64 0)).setCell ⟨w.heap.size,4,none⟩ (.int .i64 0)).setCell ⟨w.heap.size,5,none⟩ (.int .i64 0)).setCell ⟨w.heap.size,6,none⟩ (.slice none 0 0)).setCell ⟨w.heap.size,7,none⟩ (.slice none 0 0))):=FB.fin G5.out [.int .i64 8,.int .i64 na,.int .i64 nb,.int .i64 0,.int .i64 0,.int .i64 0,.slice none 0 0,.slice none 0 0] rfl
  clear y0 u0 v0 y1 u1 v1 y2 u2 v2 y3 u3 v3 y4 u4 v4 y5 u5 v5 y6 u6 v6 y7 u7 v7
  generalize ((((((((w5.setCell ⟨w.heap.size,0,none⟩ (.int .i64 8)).setCell ⟨w.heap.size,1,none⟩ (.int .i64 na)).setCell ⟨w.heap.size,2,none⟩ (.int .i64 nb)).setCell ⟨w.heap.size,3,none⟩ (.int .i64 0)).setCell ⟨w.heap.size,4,none⟩ (.int .i64 0)).setCell ⟨w.heap.size,5,none⟩ (.int .i64 0)).setCell ⟨w.heap.size,6,none⟩ (.slice none 0 0)).setCell ⟨w.heap.size,7,none⟩ (.slice none 0 0))=w9 at DD ⊢
  obtain ⟨D1,D2,D3⟩:=DD.out
  obtain ⟨x0,x1,x2,x3,x4,x5,x6,x7⟩:=cells8 D1
  exact bodyPost_ret (v:=.agg #[.int .i64 8,.int .i64 na,.int .i64 nb,.int .i64 0,.int .i64 0,.int .i64 0,.slice none 0 0,.slice none 0 0]) (by simp [results,Tryz.results169,go_sem,x0,x1,x2,x3,x4,x5,x6,x7]) rfl (Out.good (by rw [HE.out,nums2_eq,E5.out,PR.ok_andThen];rfl) (⟨none,0,none,0,rfl,ins_mk (x:=(⟨8,na,nb,0,0,0,[],[]⟩:MIns)) (Lay.list_nil _ _ _ _ _) (Lay.list_nil _ _ _ _ _) ⟨lit_i64 8 (by decide),i64_of Bna.out,i64_of Bnb.out,lit_i64 0 (by decide),lit_i64 0 (by decide),lit_i64 0 (by decide)⟩⟩) D2 D3)
theorem pins_k9 {w : World} {b e p : Nat} {l : List Tk} (h : PAt w b l e p) (hk : whichP l opWords p = 9) :
    Calls Tryz.prog 169 #[ptrP b] w fun en w'=>Out b e l (insFields l e 9 (p+1)) w (VIns w) en w':=by
  have hbw:=h.lt
  have HL:Hid (p<l.length):=which_lt (by rw [hk];decide)
  have HE:Hid (insFields l e 9 (p+1)=(PR.andThen (numP l e (p+1)) fun na q1=>PR.andThen (numP l e q1) fun nb q2=>(.ok ((⟨9,na,nb,0,0,0,[],[]⟩:MIns),q2):PR MIns))):=rfl
  have S1:Hid (PAt (w.alloc (.cells #[.int .i64 0,.int .i64 0,.int .i64 0,.int .i64 0,.int .i64 0,.int .i64 0,.slice none 0 0,.slice none 0 0] 45)) _ _ _ _∧_∧_):=begins h
  have C:Hid (∀ w1:World,PAt w1 b l e p→Calls Tryz.prog 197 #[ptrP b,.func (.func 12) #[] #[]] w1 fun en w'=>en=.returned (.int .i64 9)∧Below w1.heap.size w1 w'):=fun w1 h1=>which_told enters_Op pOp_any opWords_wordly (by decide) hk (by decide) h1
  clear h hk
  go_enter Tryz.func169,Tryz.ntmps169
  go_wp2_with fail
  generalize w.alloc (.cells #[.int .i64 0,.int .i64 0,.int .i64 0,.int .i64 0,.int .i64 0,.int .i64 0,.slice none 0 0,.slice none 0 0] 45)=w1 at S1 ⊢
  refine (C.out w1 S1.out.1).mono ?_
  rintro e' w2 ⟨rfl,b2⟩
  have F0:Hid (FB w (w2.alloc (.cells #[.int .i64 9,.int .i64 0,.int .i64 0,.int .i64 0,.int .i64 0,.int .i64 0,.slice none 0 0,.slice none 0 0] 45)) b e l p w.heap.size w2.heap.size _ #[.int .i64 9,.int .i64 0,.int .i64 0,.int .i64 0,.int .i64 0,.int .i64 0,.slice none 0 0,.slice none 0 0] 45):=FB.beside _ (S1.out.1.below b2) (S1.out.2.1.below b2) (S1.out.2.2.trans (Chg.below b2)) hbw (Nat.le_refl _)
  clear b2 S1 C
  go_wp2_with fail
  generalize w2.alloc (.cells #[.int .i64 9,.int .i64 0,.int .i64 0,.int .i64 0,.int .i64 0,.int .i64 0,.slice none 0 0,.slice none 0 0] 45)=w3 at F0 ⊢
  generalize w2.heap.size=B at F0 ⊢
  have hRB:w.heap.size<B:=F0.out.RB
  refine (take_any F0.out.rd HL.out).mono ?_
  rintro e' w4 ⟨rfl,r4,k4⟩
  have F4:Hid (FB _ _ _ _ _ _ _ _ _ _ _):=F0.out.call r4 k4
  have y0:=cellOf F4.out.box 0 _ rfl
  clear r4 k4 F0
  go_wp2_with fail
  refine (FB.callNums F4.out [1,2] (by simp) rfl (by decide) (by simp)).mono ?_
  intro e' w5 hO
  rcases hO with ⟨ns,p5,m5,rfl,hx5,r5,k5⟩ | ⟨y,c',a',m5,rfl,hc',k5⟩
  rotate_left
  · exact ⟨rfl,Out.bad (by rw [HE.out,nums2_eq,show numsP l e 2 (p+1)=_ from m5];rfl) hc' k5⟩
  have hl5:=nums_len m5
  obtain ⟨na,nb,rfl⟩:∃ na nb,ns=[na,nb]:=by
    match ns,hl5 with
    | [na,nb],_=>exact ⟨na,nb,rfl⟩
  have Bna:Hid (0≤na∧na≤1000000):=hx5 na (by simp)
  have Bnb:Hid (0≤nb∧nb≤1000000):=hx5 nb (by simp)
  have E5:Hid (numsP l e 2 (p+1)=.ok ([na,nb],p5)):=m5
  have G5:Hid (FB _ _ _ _ _ _ _ _ _ #[.int .i64 9,.int .i64 na,.int .i64 nb,.int .i64 0,.int .i64 0,.int .i64 0,.slice none 0 0,.slice none 0 0] _):=r5
  clear m5 r5 k5 hx5 hl5 F4
  obtain ⟨y0,y1,y2,y3,y4,y5,y6,y7⟩:=cells8 G5.out.box
  obtain ⟨u0,u1,u2,u3,u4,u5,u6,u7⟩:=cells8 G5.out.res
  obtain ⟨v0,v1,v2,v3,v4,v5,v6,v7⟩:=frees8 G5.out.res
  have hne:¬ B=w.heap.size:=by omega
  go_wp2
  have DD:Hid (FinD _ _ _ _ _ _ _ #[.int .i64 9,.int .i64 na,.int .i64 nb,.int .i64 0,.int .i64 0,.int .i64 0,.slice none 0 0,.slice none 0 0] ((((((((w5.setCell ⟨w.heap.size,0,none⟩ (.int .i64 9)).setCell ⟨w.heap.size,1,none⟩ (.int .i64 na)).setCell ⟨w.heap.size,2,none⟩ (.int .i64 nb)).setCell ⟨w.heap.size,3,none⟩ (.int .i64 0)).setCell ⟨w.heap.size,4,none⟩ (.int .i64 0)).setCell ⟨w.heap.size,5,none⟩ (.int .i64 0)).setCell ⟨w.heap.size,6,none⟩ (.slice none 0 0)).setCell ⟨w.heap.size,7,none⟩ (.slice none 0 0))):=FB.fin G5.out [.int .i64 9,.int .i64 na,.int .i64 nb,.int .i64 0,.int .i64 0,.int .i64 0,.slice none 0 0,.slice none 0 0] rfl
  clear y0 u0 v0 y1 u1 v1 y2 u2 v2 y3 u3 v3 y4 u4 v4 y5 u5 v5 y6 u6 v6 y7 u7 v7
  generalize ((((((((w5.setCell ⟨w.heap.size,0,none⟩ (.int .i64 9)).setCell ⟨w.heap.size,1,none⟩ (.int .i64 na)).setCell ⟨w.heap.size,2,none⟩ (.int .i64 nb)).setCell ⟨w.heap.size,3,none⟩ (.int .i64 0)).setCell ⟨w.heap.size,4,none⟩ (.int .i64 0)).setCell ⟨w.heap.size,5,none⟩ (.int .i64 0)).setCell ⟨w.heap.size,6,none⟩ (.slice none 0 0)).setCell ⟨w.heap.size,7,none⟩ (.slice none 0 0))=w9 at DD ⊢
  obtain ⟨D1,D2,D3⟩:=DD.out
  obtain ⟨x0,x1,x2,x3,x4,x5,x6,x7⟩:=cells8 D1
  exact bodyPost_ret (v:=.agg #[.int .i64 9,.int .i64 na,.int .i64 nb,.int .i64 0,.int .i64 0,.int .i64 0,.slice none 0 0,.slice none 0 0]) (by simp [results,Tryz.results169,go_sem,x0,x1,x2,x3,x4,x5,x6,x7]) rfl (Out.good (by rw [HE.out,nums2_eq,E5.out,PR.ok_andThen];rfl) (⟨none,0,none,0,rfl,ins_mk (x:=(⟨9,na,nb,0,0,0,[],[]⟩:MIns)) (Lay.list_nil _ _ _ _ _) (Lay.list_nil _ _ _ _ _) ⟨lit_i64 9 (by decide),i64_of Bna.out,i64_of Bnb.out,lit_i64 0 (by decide),lit_i64 0 (by decide),lit_i64 0 (by decide)⟩⟩) D2 D3)
theorem pins_k10 {w : World} {b e p : Nat} {l : List Tk} (h : PAt w b l e p) (hk : whichP l opWords p = 10) :
    Calls Tryz.prog 169 #[ptrP b] w fun en w'=>Out b e l (insFields l e 10 (p+1)) w (VIns w) en w':=by
  have hbw:=h.lt
  have HL:Hid (p<l.length):=which_lt (by rw [hk];decide)
  have HE:Hid (insFields l e 10 (p+1)=(PR.andThen (numP l e (p+1)) fun na q1=>PR.andThen (numP l e q1) fun nb q2=>PR.andThen (numP l e q2) fun nc q3=>(.ok ((⟨10,na,nb,nc,0,0,[],[]⟩:MIns),q3):PR MIns))):=rfl
  have S1:Hid (PAt (w.alloc (.cells #[.int .i64 0,.int .i64 0,.int .i64 0,.int .i64 0,.int .i64 0,.int .i64 0,.slice none 0 0,.slice none 0 0] 45)) _ _ _ _∧_∧_):=begins h
  have C:Hid (∀ w1:World,PAt w1 b l e p→Calls Tryz.prog 197 #[ptrP b,.func (.func 12) #[] #[]] w1 fun en w'=>en=.returned (.int .i64 10)∧Below w1.heap.size w1 w'):=fun w1 h1=>which_told enters_Op pOp_any opWords_wordly (by decide) hk (by decide) h1
  clear h hk
  go_enter Tryz.func169,Tryz.ntmps169
  go_wp2_with fail
  generalize w.alloc (.cells #[.int .i64 0,.int .i64 0,.int .i64 0,.int .i64 0,.int .i64 0,.int .i64 0,.slice none 0 0,.slice none 0 0] 45)=w1 at S1 ⊢
  refine (C.out w1 S1.out.1).mono ?_
  rintro e' w2 ⟨rfl,b2⟩
  have F0:Hid (FB w (w2.alloc (.cells #[.int .i64 10,.int .i64 0,.int .i64 0,.int .i64 0,.int .i64 0,.int .i64 0,.slice none 0 0,.slice none 0 0] 45)) b e l p w.heap.size w2.heap.size _ #[.int .i64 10,.int .i64 0,.int .i64 0,.int .i64 0,.int .i64 0,.int .i64 0,.slice none 0 0,.slice none 0 0] 45):=FB.beside _ (S1.out.1.below b2) (S1.out.2.1.below b2) (S1.out.2.2.trans (Chg.below b2)) hbw (Nat.le_refl _)
  clear b2 S1 C
  go_wp2_with fail
  generalize w2.alloc (.cells #[.int .i64 10,.int .i64 0,.int .i64 0,.int .i64 0,.int .i64 0,.int .i64 0,.slice none 0 0,.slice none 0 0] 45)=w3 at F0 ⊢
  generalize w2.heap.size=B at F0 ⊢
  have hRB:w.heap.size<B:=F0.out.RB
  refine (take_any F0.out.rd HL.out).mono ?_
  rintro e' w4 ⟨rfl,r4,k4⟩
  have F4:Hid (FB _ _ _ _ _ _ _ _ _ _ _):=F0.out.call r4 k4
  have y0:=cellOf F4.out.box 0 _ rfl
  clear r4 k4 F0
  go_wp2_with fail
  refine (FB.callNums F4.out [1,2,3] (by simp) rfl (by decide) (by simp)).mono ?_
  intro e' w5 hO
  rcases hO with ⟨ns,p5,m5,rfl,hx5,r5,k5⟩ | ⟨y,c',a',m5,rfl,hc',k5⟩
  rotate_left
  · exact ⟨rfl,Out.bad (by rw [HE.out,nums3_eq,show numsP l e 3 (p+1)=_ from m5];rfl) hc' k5⟩
  have hl5:=nums_len m5
  obtain ⟨na,nb,nc,rfl⟩:∃ na nb nc,ns=[na,nb,nc]:=by
    match ns,hl5 with
    | [na,nb,nc],_=>exact ⟨na,nb,nc,rfl⟩
  have Bna:Hid (0≤na∧na≤1000000):=hx5 na (by simp)
  have Bnb:Hid (0≤nb∧nb≤1000000):=hx5 nb (by simp)
  have Bnc:Hid (0≤nc∧nc≤1000000):=hx5 nc (by simp)
  have E5:Hid (numsP l e 3 (p+1)=.ok ([na,nb,nc],p5)):=m5
  have G5:Hid (FB _ _ _ _ _ _ _ _ _ #[.int .i64 10,.int .i64 na,.int .i64 nb,.int .i64 nc,.int .i64 0,.int .i64 0,.slice none 0 0,.slice none 0 0] _):=r5
  clear m5 r5 k5 hx5 hl5 F4
  obtain ⟨y0,y1,y2,y3,y4,y5,y6,y7⟩:=cells8 G5.out.box
  obtain ⟨u0,u1,u2,u3,u4,u5,u6,u7⟩:=cells8 G5.out.res
  obtain ⟨v0,v1,v2,v3,v4,v5,v6,v7⟩:=frees8 G5.out.res
  have hne:¬ B=w.heap.size:=by omega
  go_wp2
  have DD:Hid (FinD _ _ _ _ _ _ _ #[.int .i64 10,.int .i64 na,.int .i64 nb,.int .i64 nc,.int .i64 0,.int .i64 0,.slice none 0 0,.slice none 0 0] ((((((((w5.setCell ⟨w.heap.size,0,none⟩ (.int .i64 10)).setCell ⟨w.heap.size,1,none⟩ (.int .i64 na)).setCell ⟨w.heap.size,2,none⟩ (.int .i64 nb)).setCell ⟨w.heap.size,3,none⟩ (.int .i64 nc)).setCell ⟨w.heap.size,4,none⟩ (.int .i64 0)).setCell ⟨w.heap.size,5,none⟩ (.int .i64 0)).setCell ⟨w.heap.size,6,none⟩ (.slice none 0 0)).setCell ⟨w.heap.size,7,none⟩ (.slice none 0 0))):=FB.fin G5.out [.int .i64 10,.int .i64 na,.int .i64 nb,.int .i64 nc,.int .i64 0,.int .i64 0,.slice none 0 0,.slice none 0 0] rfl
  clear y0 u0 v0 y1 u1 v1 y2 u2 v2 y3 u3 v3 y4 u4 v4 y5 u5 v5 y6 u6 v6 y7 u7 v7
  generalize ((((((((w5.setCell ⟨w.heap.size,0,none⟩ (.int .i64 10)).setCell ⟨w.heap.size,1,none⟩ (.int .i64 na)).setCell ⟨w.heap.size,2,none⟩ (.int .i64 nb)).setCell ⟨w.heap.size,3,none⟩ (.int .i64 nc)).setCell ⟨w.heap.size,4,none⟩ (.int .i64 0)).setCell ⟨w.heap.size,5,none⟩ (.int .i64 0)).setCell ⟨w.heap.size,6,none⟩ (.slice none 0 0)).setCell ⟨w.heap.size,7,none⟩ (.slice none 0 0))=w9 at DD ⊢
  obtain ⟨D1,D2,D3⟩:=DD.out
  obtain ⟨x0,x1,x2,x3,x4,x5,x6,x7⟩:=cells8 D1
  exact bodyPost_ret (v:=.agg #[.int .i64 10,.int .i64 na,.int .i64 nb,.int .i64 nc,.int .i64 0,.int .i64 0,.slice none 0 0,.slice none 0 0]) (by simp [results,Tryz.results169,go_sem,x0,x1,x2,x3,x4,x5,x6,x7]) rfl (Out.good (by rw [HE.out,nums3_eq,E5.out,PR.ok_andThen];rfl) (⟨none,0,none,0,rfl,ins_mk (x:=(⟨10,na,nb,nc,0,0,[],[]⟩:MIns)) (Lay.list_nil _ _ _ _ _) (Lay.list_nil _ _ _ _ _) ⟨lit_i64 10 (by decide),i64_of Bna.out,i64_of Bnb.out,i64_of Bnc.out,lit_i64 0 (by decide),lit_i64 0 (by decide)⟩⟩) D2 D3)
theorem pins_k11 {w : World} {b e p : Nat} {l : List Tk} (h : PAt w b l e p) (hk : whichP l opWords p = 11) :
    Calls Tryz.prog 169 #[ptrP b] w fun en w'=>Out b e l (insFields l e 11 (p+1)) w (VIns w) en w':=by
  have hbw:=h.lt
  have HL:Hid (p<l.length):=which_lt (by rw [hk];decide)
  have HE:Hid (insFields l e 11 (p+1)=(PR.andThen (numP l e (p+1)) fun na q1=>(.ok ((⟨11,na,0,0,0,0,[],[]⟩:MIns),q1):PR MIns))):=rfl
  have S1:Hid (PAt (w.alloc (.cells #[.int .i64 0,.int .i64 0,.int .i64 0,.int .i64 0,.int .i64 0,.int .i64 0,.slice none 0 0,.slice none 0 0] 45)) _ _ _ _∧_∧_):=begins h
  have C:Hid (∀ w1:World,PAt w1 b l e p→Calls Tryz.prog 197 #[ptrP b,.func (.func 12) #[] #[]] w1 fun en w'=>en=.returned (.int .i64 11)∧Below w1.heap.size w1 w'):=fun w1 h1=>which_told enters_Op pOp_any opWords_wordly (by decide) hk (by decide) h1
  clear h hk
  go_enter Tryz.func169,Tryz.ntmps169
  go_wp2_with fail
  generalize w.alloc (.cells #[.int .i64 0,.int .i64 0,.int .i64 0,.int .i64 0,.int .i64 0,.int .i64 0,.slice none 0 0,.slice none 0 0] 45)=w1 at S1 ⊢
  refine (C.out w1 S1.out.1).mono ?_
  rintro e' w2 ⟨rfl,b2⟩
  have F0:Hid (FB w (w2.alloc (.cells #[.int .i64 11,.int .i64 0,.int .i64 0,.int .i64 0,.int .i64 0,.int .i64 0,.slice none 0 0,.slice none 0 0] 45)) b e l p w.heap.size w2.heap.size _ #[.int .i64 11,.int .i64 0,.int .i64 0,.int .i64 0,.int .i64 0,.int .i64 0,.slice none 0 0,.slice none 0 0] 45):=FB.beside _ (S1.out.1.below b2) (S1.out.2.1.below b2) (S1.out.2.2.trans (Chg.below b2)) hbw (Nat.le_refl _)
  clear b2 S1 C
  go_wp2_with fail
  generalize w2.alloc (.cells #[.int .i64 11,.int .i64 0,.int .i64 0,.int .i64 0,.int .i64 0,.int .i64 0,.slice none 0 0,.slice none 0 0] 45)=w3 at F0 ⊢
  generalize w2.heap.size=B at F0 ⊢
  have hRB:w.heap.size<B:=F0.out.RB
  refine (take_any F0.out.rd HL.out).mono ?_
  rintro e' w4 ⟨rfl,r4,k4⟩
  have F4:Hid (FB _ _ _ _ _ _ _ _ _ _ _):=F0.out.call r4 k4
  have y0:=cellOf F4.out.box 0 _ rfl
  clear r4 k4 F0
  go_wp2_with fail
  refine (FB.callNums F4.out [1] (by simp) rfl (by decide) (by simp)).mono ?_
  intro e' w5 hO
  rcases hO with ⟨ns,p5,m5,rfl,hx5,r5,k5⟩ | ⟨y,c',a',m5,rfl,hc',k5⟩
  rotate_left
  · exact ⟨rfl,Out.bad (by rw [HE.out,nums1_eq,show numsP l e 1 (p+1)=_ from m5];rfl) hc' k5⟩
  have hl5:=nums_len m5
  obtain ⟨na,rfl⟩:∃ na,ns=[na]:=by
    match ns,hl5 with
    | [na],_=>exact ⟨na,rfl⟩
  have Bna:Hid (0≤na∧na≤1000000):=hx5 na (by simp)
  have E5:Hid (numsP l e 1 (p+1)=.ok ([na],p5)):=m5
  have G5:Hid (FB _ _ _ _ _ _ _ _ _ #[.int .i64 11,.int .i64 na,.int .i64 0,.int .i64 0,.int .i64 0,.int .i64 0,.slice none 0 0,.slice none 0 0] _):=r5
  clear m5 r5 k5 hx5 hl5 F4
  obtain ⟨y0,y1,y2,y3,y4,y5,y6,y7⟩:=cells8 G5.out.box
  obtain ⟨u0,u1,u2,u3,u4,u5,u6,u7⟩:=cells8 G5.out.res
  obtain ⟨v0,v1,v2,v3,v4,v5,v6,v7⟩:=frees8 G5.out.res
  have hne:¬ B=w.heap.size:=by omega
  go_wp2
  have DD:Hid (FinD _ _ _ _ _ _ _ #[.int .i64 11,.int .i64 na,.int .i64 0,.int .i64 0,.int .i64 0,.int .i64 0,.slice none 0 0,.slice none 0 0] ((((((((w5.setCell ⟨w.heap.size,0,none⟩ (.int .i64 11)).setCell ⟨w.heap.size,1,none⟩ (.int .i64 na)).setCell ⟨w.heap.size,2,none⟩ (.int .i64 0)).setCell ⟨w.heap.size,3,none⟩ (.int .i64 0)).setCell ⟨w.heap.size,4,none⟩ (.int .i64 0)).setCell ⟨w.heap.size,5,none⟩ (.int .i64 0)).setCell ⟨w.heap.size,6,none⟩ (.slice none 0 0)).setCell ⟨w.heap.size,7,none⟩ (.slice none 0 0))):=FB.fin G5.out [.int .i64 11,.int .i64 na,.int .i64 0,.int .i64 0,.int .i64 0,.int .i64 0,.slice none 0 0,.slice none 0 0] rfl
  clear y0 u0 v0 y1 u1 v1 y2 u2 v2 y3 u3 v3 y4 u4 v4 y5 u5 v5 y6 u6 v6 y7 u7 v7
  generalize ((((((((w5.setCell ⟨w.heap.size,0,none⟩ (.int .i64 11)).setCell ⟨w.heap.size,1,none⟩ (.int .i64 na)).setCell ⟨w.heap.size,2,none⟩ (.int .i64 0)).setCell ⟨w.heap.size,3,none⟩ (.int .i64 0)).setCell ⟨w.heap.size,4,none⟩ (.int .i64 0)).setCell ⟨w.heap.size,5,none⟩ (.int .i64 0)).setCell ⟨w.heap.size,6,none⟩ (.slice none 0 0)).setCell ⟨w.heap.size,7,none⟩ (.slice none 0 0))=w9 at DD ⊢
  obtain ⟨D1,D2,D3⟩:=DD.out
  obtain ⟨x0,x1,x2,x3,x4,x5,x6,x7⟩:=cells8 D1
  exact bodyPost_ret (v:=.agg #[.int .i64 11,.int .i64 na,.int .i64 0,.int .i64 0,.int .i64 0,.int .i64 0,.slice none 0 0,.slice none 0 0]) (by simp [results,Tryz.results169,go_sem,x0,x1,x2,x3,x4,x5,x6,x7]) rfl (Out.good (by rw [HE.out,nums1_eq,E5.out,PR.ok_andThen];rfl) (⟨none,0,none,0,rfl,ins_mk (x:=(⟨11,na,0,0,0,0,[],[]⟩:MIns)) (Lay.list_nil _ _ _ _ _) (Lay.list_nil _ _ _ _ _) ⟨lit_i64 11 (by decide),i64_of Bna.out,lit_i64 0 (by decide),lit_i64 0 (by decide),lit_i64 0 (by decide),lit_i64 0 (by decide)⟩⟩) D2 D3)
theorem pins_k12 {w : World} {b e p : Nat} {l : List Tk} (h : PAt w b l e p) (hk : whichP l opWords p = 12) :
    Calls Tryz.prog 169 #[ptrP b] w fun en w'=>Out b e l (insFields l e 12 (p+1)) w (VIns w) en w':=by
  have hbw:=h.lt
  have HL:Hid (p<l.length):=which_lt (by rw [hk];decide)
  have HE:Hid (insFields l e 12 (p+1)=((.ok ((⟨12,0,0,0,0,0,[],[]⟩:MIns),(p+1)):PR MIns))):=rfl
  have S1:Hid (PAt (w.alloc (.cells #[.int .i64 0,.int .i64 0,.int .i64 0,.int .i64 0,.int .i64 0,.int .i64 0,.slice none 0 0,.slice none 0 0] 45)) _ _ _ _∧_∧_):=begins h
  have C:Hid (∀ w1:World,PAt w1 b l e p→Calls Tryz.prog 197 #[ptrP b,.func (.func 12) #[] #[]] w1 fun en w'=>en=.returned (.int .i64 12)∧Below w1.heap.size w1 w'):=fun w1 h1=>which_told enters_Op pOp_any opWords_wordly (by decide) hk (by decide) h1
  clear h hk
  go_enter Tryz.func169,Tryz.ntmps169
  go_wp2_with fail
  generalize w.alloc (.cells #[.int .i64 0,.int .i64 0,.int .i64 0,.int .i64 0,.int .i64 0,.int .i64 0,.slice none 0 0,.slice none 0 0] 45)=w1 at S1 ⊢
  refine (C.out w1 S1.out.1).mono ?_
  rintro e' w2 ⟨rfl,b2⟩
  have F0:Hid (FB w (w2.alloc (.cells #[.int .i64 12,.int .i64 0,.int .i64 0,.int .i64 0,.int .i64 0,.int .i64 0,.slice none 0 0,.slice none 0 0] 45)) b e l p w.heap.size w2.heap.size _ #[.int .i64 12,.int .i64 0,.int .i64 0,.int .i64 0,.int .i64 0,.int .i64 0,.slice none 0 0,.slice none 0 0] 45):=FB.beside _ (S1.out.1.below b2) (S1.out.2.1.below b2) (S1.out.2.2.trans (Chg.below b2)) hbw (Nat.le_refl _)
  clear b2 S1 C
  go_wp2_with fail
  generalize w2.alloc (.cells #[.int .i64 12,.int .i64 0,.int .i64 0,.int .i64 0,.int .i64 0,.int .i64 0,.slice none 0 0,.slice none 0 0] 45)=w3 at F0 ⊢
  generalize w2.heap.size=B at F0 ⊢
  have hRB:w.heap.size<B:=F0.out.RB
  refine (take_any F0.out.rd HL.out).mono ?_
  rintro e' w4 ⟨rfl,r4,k4⟩
  have F4:Hid (FB _ _ _ _ _ _ _ _ _ _ _):=F0.out.call r4 k4
  have y0:=cellOf F4.out.box 0 _ rfl
  clear r4 k4 F0
  obtain ⟨y0,y1,y2,y3,y4,y5,y6,y7⟩:=cells8 F4.out.box
  obtain ⟨u0,u1,u2,u3,u4,u5,u6,u7⟩:=cells8 F4.out.res
  obtain ⟨v0,v1,v2,v3,v4,v5,v6,v7⟩:=frees8 F4.out.res
  have hne:¬ B=w.heap.size:=by omega
  go_wp2
  have DD:Hid (FinD _ _ _ _ _ _ _ #[.int .i64 12,.int .i64 0,.int .i64 0,.int .i64 0,.int .i64 0,.int .i64 0,.slice none 0 0,.slice none 0 0] ((((((((w4.setCell ⟨w.heap.size,0,none⟩ (.int .i64 12)).setCell ⟨w.heap.size,1,none⟩ (.int .i64 0)).setCell ⟨w.heap.size,2,none⟩ (.int .i64 0)).setCell ⟨w.heap.size,3,none⟩ (.int .i64 0)).setCell ⟨w.heap.size,4,none⟩ (.int .i64 0)).setCell ⟨w.heap.size,5,none⟩ (.int .i64 0)).setCell ⟨w.heap.size,6,none⟩ (.slice none 0 0)).setCell ⟨w.heap.size,7,none⟩ (.slice none 0 0))):=FB.fin F4.out [.int .i64 12,.int .i64 0,.int .i64 0,.int .i64 0,.int .i64 0,.int .i64 0,.slice none 0 0,.slice none 0 0] rfl
  clear u0 v0 y1 u1 v1 y2 u2 v2 y3 u3 v3 y4 u4 v4 y5 u5 v5 y6 u6 v6 y7 u7 v7
  generalize ((((((((w4.setCell ⟨w.heap.size,0,none⟩ (.int .i64 12)).setCell ⟨w.heap.size,1,none⟩ (.int .i64 0)).setCell ⟨w.heap.size,2,none⟩ (.int .i64 0)).setCell ⟨w.heap.size,3,none⟩ (.int .i64 0)).setCell ⟨w.heap.size,4,none⟩ (.int .i64 0)).setCell ⟨w.heap.size,5,none⟩ (.int .i64 0)).setCell ⟨w.heap.size,6,none⟩ (.slice none 0 0)).setCell ⟨w.heap.size,7,none⟩ (.slice none 0 0))=w9 at DD ⊢
  obtain ⟨D1,D2,D3⟩:=DD.out
  obtain ⟨x0,x1,x2,x3,x4,x5,x6,x7⟩:=cells8 D1
  exact bodyPost_ret (v:=.agg #[.int .i64 12,.int .i64 0,.int .i64 0,.int .i64 0,.int .i64 0,.int .i64 0,.slice none 0 0,.slice none 0 0]) (by simp [results,Tryz.results169,go_sem,x0,x1,x2,x3,x4,x5,x6,x7]) rfl (Out.good (HE.out) (⟨none,0,none,0,rfl,ins_mk (x:=(⟨12,0,0,0,0,0,[],[]⟩:MIns)) (Lay.list_nil _ _ _ _ _) (Lay.list_nil _ _ _ _ _) ⟨lit_i64 12 (by decide),lit_i64 0 (by decide),lit_i64 0 (by decide),lit_i64 0 (by decide),lit_i64 0 (by decide),lit_i64 0 (by decide)⟩⟩) D2 D3)
theorem pins_k13 {w : World} {b e p : Nat} {l : List Tk} (h : PAt w b l e p) (hk : whichP l opWords p = 13) :
    Calls Tryz.prog 169 #[ptrP b] w fun en w'=>Out b e l (insFields l e 13 (p+1)) w (VIns w) en w':=by
  have hbw:=h.lt
  have HL:Hid (p<l.length):=which_lt (by rw [hk];decide)
  have HE:Hid (insFields l e 13 (p+1)=(PR.andThen (numP l e (p+1)) fun na q1=>(.ok ((⟨13,na,0,0,0,0,[],[]⟩:MIns),q1):PR MIns))):=rfl
  have S1:Hid (PAt (w.alloc (.cells #[.int .i64 0,.int .i64 0,.int .i64 0,.int .i64 0,.int .i64 0,.int .i64 0,.slice none 0 0,.slice none 0 0] 45)) _ _ _ _∧_∧_):=begins h
  have C:Hid (∀ w1:World,PAt w1 b l e p→Calls Tryz.prog 197 #[ptrP b,.func (.func 12) #[] #[]] w1 fun en w'=>en=.returned (.int .i64 13)∧Below w1.heap.size w1 w'):=fun w1 h1=>which_told enters_Op pOp_any opWords_wordly (by decide) hk (by decide) h1
  clear h hk
  go_enter Tryz.func169,Tryz.ntmps169
  go_wp2_with fail
  generalize w.alloc (.cells #[.int .i64 0,.int .i64 0,.int .i64 0,.int .i64 0,.int .i64 0,.int .i64 0,.slice none 0 0,.slice none 0 0] 45)=w1 at S1 ⊢
  refine (C.out w1 S1.out.1).mono ?_
  rintro e' w2 ⟨rfl,b2⟩
  have F0:Hid (FB w (w2.alloc (.cells #[.int .i64 13,.int .i64 0,.int .i64 0,.int .i64 0,.int .i64 0,.int .i64 0,.slice none 0 0,.slice none 0 0] 45)) b e l p w.heap.size w2.heap.size _ #[.int .i64 13,.int .i64 0,.int .i64 0,.int .i64 0,.int .i64 0,.int .i64 0,.slice none 0 0,.slice none 0 0] 45):=FB.beside _ (S1.out.1.below b2) (S1.out.2.1.below b2) (S1.out.2.2.trans (Chg.below b2)) hbw (Nat.le_refl _)
  clear b2 S1 C
  go_wp2_with fail
  generalize w2.alloc (.cells #[.int .i64 13,.int .i64 0,.int .i64 0,.int .i64 0,.int .i64 0,.int .i64 0,.slice none 0 0,.slice none 0 0] 45)=w3 at F0 ⊢
  generalize w2.heap.size=B at F0 ⊢
  have hRB:w.heap.size<B:=F0.out.RB
  refine (take_any F0.out.rd HL.out).mono ?_
  rintro e' w4 ⟨rfl,r4,k4⟩
  have F4:Hid (FB _ _ _ _ _ _ _ _ _ _ _):=F0.out.call r4 k4
  have y0:=cellOf F4.out.box 0 _ rfl
  clear r4 k4 F0
  go_wp2_with fail
  refine (FB.callNums F4.out [1] (by simp) rfl (by decide) (by simp)).mono ?_
  intro e' w5 hO
  rcases hO with ⟨ns,p5,m5,rfl,hx5,r5,k5⟩ | ⟨y,c',a',m5,rfl,hc',k5⟩
  rotate_left
  · exact ⟨rfl,Out.bad (by rw [HE.out,nums1_eq,show numsP l e 1 (p+1)=_ from m5];rfl) hc' k5⟩
  have hl5:=nums_len m5
  obtain ⟨na,rfl⟩:∃ na,ns=[na]:=by
    match ns,hl5 with
    | [na],_=>exact ⟨na,rfl⟩
  have Bna:Hid (0≤na∧na≤1000000):=hx5 na (by simp)
  have E5:Hid (numsP l e 1 (p+1)=.ok ([na],p5)):=m5
  have G5:Hid (FB _ _ _ _ _ _ _ _ _ #[.int .i64 13,.int .i64 na,.int .i64 0,.int .i64 0,.int .i64 0,.int .i64 0,.slice none 0 0,.slice none 0 0] _):=r5
  clear m5 r5 k5 hx5 hl5 F4
  obtain ⟨y0,y1,y2,y3,y4,y5,y6,y7⟩:=cells8 G5.out.box
  obtain ⟨u0,u1,u2,u3,u4,u5,u6,u7⟩:=cells8 G5.out.res
  obtain ⟨v0,v1,v2,v3,v4,v5,v6,v7⟩:=frees8 G5.out.res
  have hne:¬ B=w.heap.size:=by omega
  go_wp2
  have DD:Hid (FinD _ _ _ _ _ _ _ #[.int .i64 13,.int .i64 na,.int .i64 0,.int .i64 0,.int .i64 0,.int .i64 0,.slice none 0 0,.slice none 0 0] ((((((((w5.setCell ⟨w.heap.size,0,none⟩ (.int .i64 13)).setCell ⟨w.heap.size,1,none⟩ (.int .i64 na)).setCell ⟨w.heap.size,2,none⟩ (.int .i64 0)).setCell ⟨w.heap.size,3,none⟩ (.int .i64 0)).setCell ⟨w.heap.size,4,none⟩ (.int .i64 0)).setCell ⟨w.heap.size,5,none⟩ (.int .i64 0)).setCell ⟨w.heap.size,6,none⟩ (.slice none 0 0)).setCell ⟨w.heap.size,7,none⟩ (.slice none 0 0))):=FB.fin G5.out [.int .i64 13,.int .i64 na,.int .i64 0,.int .i64 0,.int .i64 0,.int .i64 0,.slice none 0 0,.slice none 0 0] rfl
  clear y0 u0 v0 y1 u1 v1 y2 u2 v2 y3 u3 v3 y4 u4 v4 y5 u5 v5 y6 u6 v6 y7 u7 v7
  generalize ((((((((w5.setCell ⟨w.heap.size,0,none⟩ (.int .i64 13)).setCell ⟨w.heap.size,1,none⟩ (.int .i64 na)).setCell ⟨w.heap.size,2,none⟩ (.int .i64 0)).setCell ⟨w.heap.size,3,none⟩ (.int .i64 0)).setCell ⟨w.heap.size,4,none⟩ (.int .i64 0)).setCell ⟨w.heap.size,5,none⟩ (.int .i64 0)).setCell ⟨w.heap.size,6,none⟩ (.slice none 0 0)).setCell ⟨w.heap.size,7,none⟩ (.slice none 0 0))=w9 at DD ⊢
  obtain ⟨D1,D2,D3⟩:=DD.out
  obtain ⟨x0,x1,x2,x3,x4,x5,x6,x7⟩:=cells8 D1
  exact bodyPost_ret (v:=.agg #[.int .i64 13,.int .i64 na,.int .i64 0,.int .i64 0,.int .i64 0,.int .i64 0,.slice none 0 0,.slice none 0 0]) (by simp [results,Tryz.results169,go_sem,x0,x1,x2,x3,x4,x5,x6,x7]) rfl (Out.good (by rw [HE.out,nums1_eq,E5.out,PR.ok_andThen];rfl) (⟨none,0,none,0,rfl,ins_mk (x:=(⟨13,na,0,0,0,0,[],[]⟩:MIns)) (Lay.list_nil _ _ _ _ _) (Lay.list_nil _ _ _ _ _) ⟨lit_i64 13 (by decide),i64_of Bna.out,lit_i64 0 (by decide),lit_i64 0 (by decide),lit_i64 0 (by decide),lit_i64 0 (by decide)⟩⟩) D2 D3)
theorem pins_k14 {w : World} {b e p : Nat} {l : List Tk} (h : PAt w b l e p) (hk : whichP l opWords p = 14) :
    Calls Tryz.prog 169 #[ptrP b] w fun en w'=>Out b e l (insFields l e 14 (p+1)) w (VIns w) en w':=by
  have hbw:=h.lt
  have HL:Hid (p<l.length):=which_lt (by rw [hk];decide)
  have HE:Hid (insFields l e 14 (p+1)=(PR.andThen (numP l e (p+1)) fun nk q1=>PR.andThen (regsP l e q1) fun xs q2=>PR.andThen (argsP l e q2) fun ys q3=>(.ok ((⟨14,0,0,0,nk,0,xs,ys⟩:MIns),q3):PR MIns))):=rfl
  have S1:Hid (PAt (w.alloc (.cells #[.int .i64 0,.int .i64 0,.int .i64 0,.int .i64 0,.int .i64 0,.int .i64 0,.slice none 0 0,.slice none 0 0] 45)) _ _ _ _∧_∧_):=begins h
  have C:Hid (∀ w1:World,PAt w1 b l e p→Calls Tryz.prog 197 #[ptrP b,.func (.func 12) #[] #[]] w1 fun en w'=>en=.returned (.int .i64 14)∧Below w1.heap.size w1 w'):=fun w1 h1=>which_told enters_Op pOp_any opWords_wordly (by decide) hk (by decide) h1
  clear h hk
  go_enter Tryz.func169,Tryz.ntmps169
  go_wp2_with fail
  generalize w.alloc (.cells #[.int .i64 0,.int .i64 0,.int .i64 0,.int .i64 0,.int .i64 0,.int .i64 0,.slice none 0 0,.slice none 0 0] 45)=w1 at S1 ⊢
  refine (C.out w1 S1.out.1).mono ?_
  rintro e' w2 ⟨rfl,b2⟩
  have F0:Hid (FB w (w2.alloc (.cells #[.int .i64 14,.int .i64 0,.int .i64 0,.int .i64 0,.int .i64 0,.int .i64 0,.slice none 0 0,.slice none 0 0] 45)) b e l p w.heap.size w2.heap.size _ #[.int .i64 14,.int .i64 0,.int .i64 0,.int .i64 0,.int .i64 0,.int .i64 0,.slice none 0 0,.slice none 0 0] 45):=FB.beside _ (S1.out.1.below b2) (S1.out.2.1.below b2) (S1.out.2.2.trans (Chg.below b2)) hbw (Nat.le_refl _)
  clear b2 S1 C
  go_wp2_with fail
  generalize w2.alloc (.cells #[.int .i64 14,.int .i64 0,.int .i64 0,.int .i64 0,.int .i64 0,.int .i64 0,.slice none 0 0,.slice none 0 0] 45)=w3 at F0 ⊢
  generalize w2.heap.size=B at F0 ⊢
  have hRB:w.heap.size<B:=F0.out.RB
  refine (take_any F0.out.rd HL.out).mono ?_
  rintro e' w4 ⟨rfl,r4,k4⟩
  have F4:Hid (FB _ _ _ _ _ _ _ _ _ _ _):=F0.out.call r4 k4
  have y0:=cellOf F4.out.box 0 _ rfl
  clear r4 k4 F0
  go_wp2_with fail
  refine (FB.callNums F4.out [4] (by simp) rfl (by decide) (by simp)).mono ?_
  intro e' w5 hO
  rcases hO with ⟨ns,p5,m5,rfl,hx5,r5,k5⟩ | ⟨y,c',a',m5,rfl,hc',k5⟩
  rotate_left
  · exact ⟨rfl,Out.bad (by rw [HE.out,nums1_eq,show numsP l e 1 (p+1)=_ from m5];rfl) hc' k5⟩
  have hl5:=nums_len m5
  obtain ⟨nk,rfl⟩:∃ nk,ns=[nk]:=by
    match ns,hl5 with
    | [nk],_=>exact ⟨nk,rfl⟩
  have Bnk:Hid (0≤nk∧nk≤1000000):=hx5 nk (by simp)
  have E5:Hid (numsP l e 1 (p+1)=.ok ([nk],p5)):=m5
  have G5:Hid (FB _ _ _ _ _ _ _ _ _ #[.int .i64 14,.int .i64 0,.int .i64 0,.int .i64 0,.int .i64 nk,.int .i64 0,.slice none 0 0,.slice none 0 0] _):=r5
  clear m5 r5 k5 hx5 hl5 F4
  go_wp2_with fail
  refine (pregs_any G5.out.rd).mono ?_
  intro e' w6 hO
  rcases hO with ⟨xs,p6,x6,m6,rfl,⟨ax,cx,rfl,hi6⟩,r6,k6⟩ | ⟨y,c',a',m6,rfl,hc',k6⟩
  rotate_left
  · exact ⟨rfl,Out.bad (by rw [HE.out,nums1_eq,E5.out,PR.ok_andThen,m6];rfl) hc' (G5.out.chg.trans k6)⟩
  have E6:Hid (regsP l e p5=.ok (xs,p6)):=m6
  have G6:Hid (FB _ _ _ _ _ _ _ _ _ _ _):=G5.out.call r6 k6
  have Kxs:Hid (Kid intsL B w6 xs [.slice ax xs.length cx]):=Kid.mk hi6 G5.out.lt
  clear hi6
  clear m6 r6 k6 G5
  have y6:=cellOf G6.out.box 6 _ rfl
  have z6:=freeOf G6.out.box 6
  go_wp2_with fail
  have G7:Hid (FB _ (w6.setCell ⟨B,6,none⟩ (.slice ax xs.length cx)) _ _ _ _ _ _ _ #[.int .i64 14,.int .i64 0,.int .i64 0,.int .i64 0,.int .i64 nk,.int .i64 0,.slice ax xs.length cx,.slice none 0 0] _):=(FB.set G6.out 6 (.slice ax xs.length cx))
  have KxsG7:Hid (Kid _ _ (w6.setCell ⟨B,6,none⟩ (.slice ax xs.length cx)) _ _):=(Kid.set Kxs.out (q:=⟨B,6,none⟩) (Nat.le_refl _) _)
  clear Kxs
  generalize (w6.setCell ⟨B,6,none⟩ (.slice ax xs.length cx))=w7 at G7 KxsG7 ⊢
  clear y6 z6 G6
  refine (pargs_any G7.out.rd).mono ?_
  intro e' w8 hO
  rcases hO with ⟨ys,p8,x8,m8,rfl,⟨ay,cy,rfl,hi8⟩,r8,k8⟩ | ⟨y,c',a',m8,rfl,hc',k8⟩
  rotate_left
  · exact ⟨rfl,Out.bad (by rw [HE.out,nums1_eq,E5.out,PR.ok_andThen,E6.out,PR.ok_andThen,m8];rfl) hc' (G7.out.chg.trans k8)⟩
  have E8:Hid (argsP l e p6=.ok (ys,p8)):=m8
  have G8:Hid (FB _ _ _ _ _ _ _ _ _ _ _):=G7.out.call r8 k8
  have KxsG79_:Hid (Kid _ _ _ _ _):=KxsG7.out.chg k8 (by omega)
  clear KxsG7
  have Kys:Hid (Kid intsL B w8 ys [.slice ay ys.length cy]):=Kid.mk hi8 G7.out.lt
  clear hi8
  clear m8 r8 k8 G7
  obtain ⟨y0,y1,y2,y3,y4,y5,y6,y7⟩:=cells8 G8.out.box
  obtain ⟨u0,u1,u2,u3,u4,u5,u6,u7⟩:=cells8 G8.out.res
  obtain ⟨v0,v1,v2,v3,v4,v5,v6,v7⟩:=frees8 G8.out.res
  have z7:=freeOf G8.out.box 7
  have hne:¬ B=w.heap.size:=by omega
  go_wp2
  have DD:Hid (FinD _ _ _ _ _ _ _ #[.int .i64 14,.int .i64 0,.int .i64 0,.int .i64 0,.int .i64 nk,.int .i64 0,.slice ax xs.length cx,.slice ay ys.length cy] (((((((((w8.setCell ⟨B,7,none⟩ (.slice ay ys.length cy)).setCell ⟨w.heap.size,0,none⟩ (.int .i64 14)).setCell ⟨w.heap.size,1,none⟩ (.int .i64 0)).setCell ⟨w.heap.size,2,none⟩ (.int .i64 0)).setCell ⟨w.heap.size,3,none⟩ (.int .i64 0)).setCell ⟨w.heap.size,4,none⟩ (.int .i64 nk)).setCell ⟨w.heap.size,5,none⟩ (.int .i64 0)).setCell ⟨w.heap.size,6,none⟩ (.slice ax xs.length cx)).setCell ⟨w.heap.size,7,none⟩ (.slice ay ys.length cy))):=FB.fin (FB.set G8.out 7 (.slice ay ys.length cy)) [.int .i64 14,.int .i64 0,.int .i64 0,.int .i64 0,.int .i64 nk,.int .i64 0,.slice ax xs.length cx,.slice ay ys.length cy] rfl
  have DKxsG79_:Hid (Kid _ _ (((((((((w8.setCell ⟨B,7,none⟩ (.slice ay ys.length cy)).setCell ⟨w.heap.size,0,none⟩ (.int .i64 14)).setCell ⟨w.heap.size,1,none⟩ (.int .i64 0)).setCell ⟨w.heap.size,2,none⟩ (.int .i64 0)).setCell ⟨w.heap.size,3,none⟩ (.int .i64 0)).setCell ⟨w.heap.size,4,none⟩ (.int .i64 nk)).setCell ⟨w.heap.size,5,none⟩ (.int .i64 0)).setCell ⟨w.heap.size,6,none⟩ (.slice ax xs.length cx)).setCell ⟨w.heap.size,7,none⟩ (.slice ay ys.length cy)) _ _):=Kid.sets (Kid.set KxsG79_.out (q:=⟨B,7,none⟩) (Nat.le_refl _) _) (by omega) [.int .i64 14,.int .i64 0,.int .i64 0,.int .i64 0,.int .i64 nk,.int .i64 0,.slice ax xs.length cx,.slice ay ys.length cy] 0
  clear KxsG79_
  have DKys:Hid (Kid _ _ (((((((((w8.setCell ⟨B,7,none⟩ (.slice ay ys.length cy)).setCell ⟨w.heap.size,0,none⟩ (.int .i64 14)).setCell ⟨w.heap.size,1,none⟩ (.int .i64 0)).setCell ⟨w.heap.size,2,none⟩ (.int .i64 0)).setCell ⟨w.heap.size,3,none⟩ (.int .i64 0)).setCell ⟨w.heap.size,4,none⟩ (.int .i64 nk)).setCell ⟨w.heap.size,5,none⟩ (.int .i64 0)).setCell ⟨w.heap.size,6,none⟩ (.slice ax xs.length cx)).setCell ⟨w.heap.size,7,none⟩ (.slice ay ys.length cy)) _ _):=Kid.sets (Kid.set Kys.out (q:=⟨B,7,none⟩) (Nat.le_refl _) _) (by omega) [.int .i64 14,.int .i64 0,.int .i64 0,.int .i64 0,.int .i64 nk,.int .i64 0,.slice ax xs.length cx,.slice ay ys.length cy] 0
  clear Kys
  clear y0 u0 v0 y1 u1 v1 y2 u2 v2 y3 u3 v3 y4 u4 v4 y5 u5 v5 y6 u6 v6 y7 u7 v7
  generalize (((((((((w8.setCell ⟨B,7,none⟩ (.slice ay ys.length cy)).setCell ⟨w.heap.size,0,none⟩ (.int .i64 14)).setCell ⟨w.heap.size,1,none⟩ (.int .i64 0)).setCell ⟨w.heap.size,2,none⟩ (.int .i64 0)).setCell ⟨w.heap.size,3,none⟩ (.int .i64 0)).setCell ⟨w.heap.size,4,none⟩ (.int .i64 nk)).setCell ⟨w.heap.size,5,none⟩ (.int .i64 0)).setCell ⟨w.heap.size,6,none⟩ (.slice ax xs.length cx)).setCell ⟨w.heap.size,7,none⟩ (.slice ay ys.length cy))=w9 at DD DKxsG79_ DKys ⊢
  obtain ⟨D1,D2,D3⟩:=DD.out
  obtain ⟨x0,x1,x2,x3,x4,x5,x6,x7⟩:=cells8 D1
  exact bodyPost_ret (v:=.agg #[.int .i64 14,.int .i64 0,.int .i64 0,.int .i64 0,.int .i64 nk,.int .i64 0,.slice ax xs.length cx,.slice ay ys.length cy]) (by simp [results,Tryz.results169,go_sem,x0,x1,x2,x3,x4,x5,x6,x7]) rfl (Out.good (by rw [HE.out,nums1_eq,E5.out,PR.ok_andThen,E6.out,PR.ok_andThen,E8.out,PR.ok_andThen];rfl) (⟨ax,cx,ay,cy,rfl,ins_mk (x:=(⟨14,0,0,0,nk,0,xs,ys⟩:MIns)) (Kid.out DKxsG79_.out (by omega)) (Kid.out DKys.out (by omega)) ⟨lit_i64 14 (by decide),lit_i64 0 (by decide),lit_i64 0 (by decide),lit_i64 0 (by decide),i64_of Bnk.out,lit_i64 0 (by decide)⟩⟩) D2 D3)
theorem pins_any {w : World} {b e p : Nat} {l : List Tk} (h : PAt w b l e p) (h0 : whichP l opWords p ≠ 0) :
    Calls Tryz.prog 169 #[ptrP b] w fun en w'=>Out b e l (insFields l e (whichP l opWords p) (p+1)) w (VIns w) en w':=by
  have hle:=which_le (l:=l) (p:=p) opWords
  have h14:opWords.length=14:=rfl
  match hk:whichP l opWords p with
  | 0=>exact absurd hk h0
  | 1=>exact pins_k1 h hk
  | 2 =>
    by_cases hj:whichP l kindWords (p+1)=0
    · exact pins_k2z h hk hj
    · exact pins_k2s h hk rfl hj
  | 3=>exact pins_k3 h hk
  | 4=>exact pins_k4 h hk
  | 5=>exact pins_k5 h hk
  | 6=>exact pins_k6 h hk
  | 7=>exact pins_k7 h hk
  | 8=>exact pins_k8 h hk
  | 9=>exact pins_k9 h hk
  | 10=>exact pins_k10 h hk
  | 11=>exact pins_k11 h hk
  | 12=>exact pins_k12 h hk
  | 13=>exact pins_k13 h hk
  | 14=>exact pins_k14 h hk
  | n+15=>omega
def endP (l : List Tk) (e p : Nat) : PR MEnd :=
  if isW l wJump p then PR.andThen (toP l e (p+1)) fun t q=>.ok (⟨1,0,t,noTo,[]⟩,q)
     else if isW l wIf p then PR.andThen (numP l e (p+1)) fun a p1=>PR.andThen (mustP l e wTo p1) fun _ p2=>PR.andThen (toP l e p2) fun t p3=>PR.andThen (mustP l e wElse p3) fun _ p4=>PR.andThen (toP l e p4) fun u p5=>.ok (⟨2,a,t,u,[]⟩,p5)
     else PR.andThen (mustP l e wRet p) fun _ p1=>PR.andThen (argsP l e p1) fun x p2=>.ok (⟨3,0,noTo,noTo,x⟩,p2)
theorem ends_eq {l : List Tk} {e p : Nat} : endsP l e p = PR.andThen (endP l e p) fun x p1 => PR.andThen (mustP l e [59] p1) fun _ p2 => .ok (x, p2) := rfl
theorem noTo_inP (w : World) (O : Nat → Prop) : toL.In w O noTo [.int .i64 0, .slice none 0 0, .slice none 0 0] := to_mk (Lay.list_nil _ _ _ _ _) (Lay.list_nil _ _ _ _ _) ⟨by decide, by decide⟩
section
variable {l : List Tk} {e p : Nat}
theorem end_k0 (h : whichP l endWords p = 0) : ∃ x, endP l e p = .error x := by
  have h1:=which_none h
  rw [endP,if_neg (by simp [h1 wJump (by decide)]),if_neg (by simp [h1 wIf (by decide)]),mustP,if_neg (by simp [h1 wRet (by decide)])]
  exact ⟨_,rfl⟩
theorem end_k1 (h : whichP l endWords p = 1) : endP l e p = PR.andThen (toP l e (p + 1)) fun t q => (.ok ((⟨1, 0, t, noTo, []⟩ : MEnd), q) : PR MEnd) := by
  obtain ⟨s,hs,hw⟩:=which_is (i:=0) h
  injection hs with hs;subst hs
  rw [endP,if_pos hw]
theorem end_k2 (h : whichP l endWords p = 2) : endP l e p = PR.andThen (numP l e (p + 1)) fun a p1 => PR.andThen (mustP l e wTo p1) fun _ p2 => PR.andThen (toP l e p2) fun t p3 => PR.andThen (mustP l e wElse p3) fun _ p4 => PR.andThen (toP l e p4) fun u p5 => (.ok ((⟨2, a, t, u, []⟩ : MEnd), p5) : PR MEnd) := by
  obtain ⟨s,hs,hw⟩:=which_is (i:=1) h
  injection hs with hs;subst hs
  rw [endP,if_neg (by simp [isW_other hw (t:=wJump) (by decide)]),if_pos hw]
theorem end_k3 (h : whichP l endWords p = 3) : endP l e p = PR.andThen (argsP l e (p + 1)) fun x p2 => (.ok ((⟨3, 0, noTo, noTo, x⟩ : MEnd), p2) : PR MEnd) := by
  obtain ⟨s,hs,hw⟩:=which_is (i:=2) h
  injection hs with hs;subst hs
  rw [endP,if_neg (by simp [isW_other hw (t:=wJump) (by decide)]),if_neg (by simp [isW_other hw (t:=wIf) (by decide)]),mustP,if_pos hw,PR.ok_andThen]
end
def VEnd (w0 : World) : World → MEnd → Value → Prop := fun w' x v => ∃ a1 c1 a2 c2 a3 c3 a4 c4 a5 c5, v = .agg #[.int .i64 x.op, .int .i64 x.a, .int .i64 x.yes.block, .slice a1 x.yes.regs.length c1, .slice a2 x.yes.args.length c2, .int .i64 x.no.block, .slice a3 x.no.regs.length c3, .slice a4 x.no.args.length c4, .slice a5 x.args.length c5] ∧ endL.In w' (fun g => w0.heap.size ≤ g) x [.int .i64 x.op, .int .i64 x.a, .int .i64 x.yes.block, .slice a1 x.yes.regs.length c1, .slice a2 x.yes.args.length c2, .int .i64 x.no.block, .slice a3 x.no.regs.length c3, .slice a4 x.no.args.length c4, .slice a5 x.args.length c5]
theorem pend_k1 {w : World} {b e p : Nat} {l : List Tk} (h : PAt w b l e p) (hk : whichP l endWords p = 1) :
    Calls Tryz.prog 170 #[ptrP b] w fun en w'=>Out b e l (endP l e p) w (VEnd w) en w':=by
  have hbw:=h.lt
  have HL:Hid (p<l.length):=which_lt (by rw [hk];decide)
  have HE:Hid (endP l e p=PR.andThen (toP l e (p+1)) fun t q=>(.ok ((⟨1,0,t,noTo,[]⟩:MEnd),q):PR MEnd)):=end_k1 hk
  have S1:Hid (PAt (w.alloc (.cells #[.int .i64 0,.int .i64 0,.int .i64 0,.slice none 0 0,.slice none 0 0,.int .i64 0,.slice none 0 0,.slice none 0 0,.slice none 0 0] 50)) _ _ _ _∧_∧_):=begins h
  have C:Hid (∀ w1:World,PAt w1 b l e p→Calls Tryz.prog 197 #[ptrP b,.func (.func 201) #[] #[]] w1 fun en w'=>en=.returned (.int .i64 1)∧Below w1.heap.size w1 w'):=fun w1 h1=>which_told enters_endWord pendWord_any endWords_wordly (by decide) hk (by decide) h1
  clear h hk
  go_enter Tryz.func170,Tryz.ntmps170
  go_wp2_with fail
  generalize w.alloc (.cells #[.int .i64 0,.int .i64 0,.int .i64 0,.slice none 0 0,.slice none 0 0,.int .i64 0,.slice none 0 0,.slice none 0 0,.slice none 0 0] 50)=w1 at S1 ⊢
  refine (C.out w1 S1.out.1).mono ?_
  rintro e' w2 ⟨rfl,b2⟩
  have F0:Hid (FB w (w2.alloc (.cells #[.int .i64 1,.int .i64 0,.int .i64 0,.slice none 0 0,.slice none 0 0,.int .i64 0,.slice none 0 0,.slice none 0 0,.slice none 0 0] 50)) b e l p w.heap.size w2.heap.size _ #[.int .i64 1,.int .i64 0,.int .i64 0,.slice none 0 0,.slice none 0 0,.int .i64 0,.slice none 0 0,.slice none 0 0,.slice none 0 0] 50):=FB.beside _ (S1.out.1.below b2) (S1.out.2.1.below b2) (S1.out.2.2.trans (Chg.below b2)) hbw (Nat.le_refl _)
  clear b2 S1 C
  go_wp2_with fail
  generalize w2.alloc (.cells #[.int .i64 1,.int .i64 0,.int .i64 0,.slice none 0 0,.slice none 0 0,.int .i64 0,.slice none 0 0,.slice none 0 0,.slice none 0 0] 50)=w3 at F0 ⊢
  generalize w2.heap.size=B at F0 ⊢
  have hRB:w.heap.size<B:=F0.out.RB
  refine (take_any F0.out.rd HL.out).mono ?_
  rintro e' w4 ⟨rfl,r4,k4⟩
  have F4:Hid (FB _ _ _ _ _ _ _ _ _ _ _):=F0.out.call r4 k4
  have y0:=cellOf F4.out.box 0 _ rfl
  clear r4 k4 F0
  go_wp2_with fail
  refine (pto_any F4.out.rd).mono ?_
  intro e' w5 hO
  rcases hO with ⟨ty,p5,x5,m5,rfl,⟨qaty,qcty,qbty,qdty,rfl,hi5⟩,r5,k5⟩ | ⟨y,c',a',m5,rfl,hc',k5⟩
  rotate_left
  · exact ⟨rfl,Out.bad (by rw [HE.out,m5];rfl) hc' (F4.out.chg.trans k5)⟩
  have E5:Hid (toP l e (p+1)=.ok (ty,p5)):=m5
  have G5:Hid (FB _ _ _ _ _ _ _ _ _ _ _):=F4.out.call r5 k5
  have Kty:Hid (Kid toL B w5 ty [.int .i64 ty.block,.slice qaty ty.regs.length qcty,.slice qbty ty.args.length qdty]):=Kid.mk hi5 F4.out.lt
  clear hi5
  clear m5 r5 k5 F4
  obtain ⟨y0,y1,y2,y3,y4,y5,y6,y7,y8⟩:=cells9 G5.out.box
  obtain ⟨u0,u1,u2,u3,u4,u5,u6,u7,u8⟩:=cells9 G5.out.res
  obtain ⟨v0,v1,v2,v3,v4,v5,v6,v7,v8⟩:=frees9 G5.out.res
  have z2:=freeOf G5.out.box 2
  have z3:=freeOf G5.out.box 3
  have z4:=freeOf G5.out.box 4
  have hne:¬ B=w.heap.size:=by omega
  go_wp2
  have DD:Hid (FinD _ _ _ _ _ _ _ #[.int .i64 1,.int .i64 0,.int .i64 ty.block,.slice qaty ty.regs.length qcty,.slice qbty ty.args.length qdty,.int .i64 0,.slice none 0 0,.slice none 0 0,.slice none 0 0] ((((((((((((w5.setCell ⟨B,2,none⟩ (.int .i64 ty.block)).setCell ⟨B,3,none⟩ (.slice qaty ty.regs.length qcty)).setCell ⟨B,4,none⟩ (.slice qbty ty.args.length qdty)).setCell ⟨w.heap.size,0,none⟩ (.int .i64 1)).setCell ⟨w.heap.size,1,none⟩ (.int .i64 0)).setCell ⟨w.heap.size,2,none⟩ (.int .i64 ty.block)).setCell ⟨w.heap.size,3,none⟩ (.slice qaty ty.regs.length qcty)).setCell ⟨w.heap.size,4,none⟩ (.slice qbty ty.args.length qdty)).setCell ⟨w.heap.size,5,none⟩ (.int .i64 0)).setCell ⟨w.heap.size,6,none⟩ (.slice none 0 0)).setCell ⟨w.heap.size,7,none⟩ (.slice none 0 0)).setCell ⟨w.heap.size,8,none⟩ (.slice none 0 0))):=FB.fin (FB.set (FB.set (FB.set G5.out 2 (.int .i64 ty.block)) 3 (.slice qaty ty.regs.length qcty)) 4 (.slice qbty ty.args.length qdty)) [.int .i64 1,.int .i64 0,.int .i64 ty.block,.slice qaty ty.regs.length qcty,.slice qbty ty.args.length qdty,.int .i64 0,.slice none 0 0,.slice none 0 0,.slice none 0 0] rfl
  have DKty:Hid (Kid _ _ ((((((((((((w5.setCell ⟨B,2,none⟩ (.int .i64 ty.block)).setCell ⟨B,3,none⟩ (.slice qaty ty.regs.length qcty)).setCell ⟨B,4,none⟩ (.slice qbty ty.args.length qdty)).setCell ⟨w.heap.size,0,none⟩ (.int .i64 1)).setCell ⟨w.heap.size,1,none⟩ (.int .i64 0)).setCell ⟨w.heap.size,2,none⟩ (.int .i64 ty.block)).setCell ⟨w.heap.size,3,none⟩ (.slice qaty ty.regs.length qcty)).setCell ⟨w.heap.size,4,none⟩ (.slice qbty ty.args.length qdty)).setCell ⟨w.heap.size,5,none⟩ (.int .i64 0)).setCell ⟨w.heap.size,6,none⟩ (.slice none 0 0)).setCell ⟨w.heap.size,7,none⟩ (.slice none 0 0)).setCell ⟨w.heap.size,8,none⟩ (.slice none 0 0)) _ _):=Kid.sets (Kid.set (Kid.set (Kid.set Kty.out (q:=⟨B,2,none⟩) (Nat.le_refl _) _) (q:=⟨B,3,none⟩) (Nat.le_refl _) _) (q:=⟨B,4,none⟩) (Nat.le_refl _) _) (by omega) [.int .i64 1,.int .i64 0,.int .i64 ty.block,.slice qaty ty.regs.length qcty,.slice qbty ty.args.length qdty,.int .i64 0,.slice none 0 0,.slice none 0 0,.slice none 0 0] 0
  clear Kty
  clear y0 u0 v0 y1 u1 v1 y2 u2 v2 y3 u3 v3 y4 u4 v4 y5 u5 v5 y6 u6 v6 y7 u7 v7 y8 u8 v8
  generalize ((((((((((((w5.setCell ⟨B,2,none⟩ (.int .i64 ty.block)).setCell ⟨B,3,none⟩ (.slice qaty ty.regs.length qcty)).setCell ⟨B,4,none⟩ (.slice qbty ty.args.length qdty)).setCell ⟨w.heap.size,0,none⟩ (.int .i64 1)).setCell ⟨w.heap.size,1,none⟩ (.int .i64 0)).setCell ⟨w.heap.size,2,none⟩ (.int .i64 ty.block)).setCell ⟨w.heap.size,3,none⟩ (.slice qaty ty.regs.length qcty)).setCell ⟨w.heap.size,4,none⟩ (.slice qbty ty.args.length qdty)).setCell ⟨w.heap.size,5,none⟩ (.int .i64 0)).setCell ⟨w.heap.size,6,none⟩ (.slice none 0 0)).setCell ⟨w.heap.size,7,none⟩ (.slice none 0 0)).setCell ⟨w.heap.size,8,none⟩ (.slice none 0 0))=w9 at DD DKty ⊢
  obtain ⟨D1,D2,D3⟩:=DD.out
  obtain ⟨x0,x1,x2,x3,x4,x5,x6,x7,x8⟩:=cells9 D1
  exact bodyPost_ret (v:=.agg #[.int .i64 1,.int .i64 0,.int .i64 ty.block,.slice qaty ty.regs.length qcty,.slice qbty ty.args.length qdty,.int .i64 0,.slice none 0 0,.slice none 0 0,.slice none 0 0]) (by simp [results,Tryz.results170,go_sem,x0,x1,x2,x3,x4,x5,x6,x7,x8]) rfl (Out.good (by rw [HE.out,E5.out,PR.ok_andThen]) (⟨qaty,qcty,qbty,qdty,none,0,none,0,none,0,rfl,end_mk (x:=⟨1,0,ty,noTo,[]⟩) (Kid.out DKty.out (by omega)) (noTo_inP _ _) (Lay.list_nil _ _ _ _ _) ⟨lit_i64 1 (by decide),lit_i64 0 (by decide)⟩⟩) D2 D3)
theorem pend_k2 {w : World} {b e p : Nat} {l : List Tk} (h : PAt w b l e p) (hk : whichP l endWords p = 2) :
    Calls Tryz.prog 170 #[ptrP b] w fun en w'=>Out b e l (endP l e p) w (VEnd w) en w':=by
  have hbw:=h.lt
  have HL:Hid (p<l.length):=which_lt (by rw [hk];decide)
  have HE:Hid (endP l e p=PR.andThen (numP l e (p+1)) fun a p1=>PR.andThen (mustP l e wTo p1) fun _ p2=>PR.andThen (toP l e p2) fun t p3=>PR.andThen (mustP l e wElse p3) fun _ p4=>PR.andThen (toP l e p4) fun u p5=>(.ok ((⟨2,a,t,u,[]⟩:MEnd),p5):PR MEnd)):=end_k2 hk
  have S1:Hid (PAt (w.alloc (.cells #[.int .i64 0,.int .i64 0,.int .i64 0,.slice none 0 0,.slice none 0 0,.int .i64 0,.slice none 0 0,.slice none 0 0,.slice none 0 0] 50)) _ _ _ _∧_∧_):=begins h
  have C:Hid (∀ w1:World,PAt w1 b l e p→Calls Tryz.prog 197 #[ptrP b,.func (.func 201) #[] #[]] w1 fun en w'=>en=.returned (.int .i64 2)∧Below w1.heap.size w1 w'):=fun w1 h1=>which_told enters_endWord pendWord_any endWords_wordly (by decide) hk (by decide) h1
  clear h hk
  go_enter Tryz.func170,Tryz.ntmps170
  go_wp2_with fail
  generalize w.alloc (.cells #[.int .i64 0,.int .i64 0,.int .i64 0,.slice none 0 0,.slice none 0 0,.int .i64 0,.slice none 0 0,.slice none 0 0,.slice none 0 0] 50)=w1 at S1 ⊢
  refine (C.out w1 S1.out.1).mono ?_
  rintro e' w2 ⟨rfl,b2⟩
  have F0:Hid (FB w (w2.alloc (.cells #[.int .i64 2,.int .i64 0,.int .i64 0,.slice none 0 0,.slice none 0 0,.int .i64 0,.slice none 0 0,.slice none 0 0,.slice none 0 0] 50)) b e l p w.heap.size w2.heap.size _ #[.int .i64 2,.int .i64 0,.int .i64 0,.slice none 0 0,.slice none 0 0,.int .i64 0,.slice none 0 0,.slice none 0 0,.slice none 0 0] 50):=FB.beside _ (S1.out.1.below b2) (S1.out.2.1.below b2) (S1.out.2.2.trans (Chg.below b2)) hbw (Nat.le_refl _)
  clear b2 S1 C
  go_wp2_with fail
  generalize w2.alloc (.cells #[.int .i64 2,.int .i64 0,.int .i64 0,.slice none 0 0,.slice none 0 0,.int .i64 0,.slice none 0 0,.slice none 0 0,.slice none 0 0] 50)=w3 at F0 ⊢
  generalize w2.heap.size=B at F0 ⊢
  have hRB:w.heap.size<B:=F0.out.RB
  refine (take_any F0.out.rd HL.out).mono ?_
  rintro e' w4 ⟨rfl,r4,k4⟩
  have F4:Hid (FB _ _ _ _ _ _ _ _ _ _ _):=F0.out.call r4 k4
  have y0:=cellOf F4.out.box 0 _ rfl
  clear r4 k4 F0
  go_wp2_with fail
  refine (FB.callNums F4.out [1] (by simp) rfl (by decide) (by simp)).mono ?_
  intro e' w5 hO
  rcases hO with ⟨ns,p5,m5,rfl,hx5,r5,k5⟩ | ⟨y,c',a',m5,rfl,hc',k5⟩
  rotate_left
  · exact ⟨rfl,Out.bad (by rw [HE.out,nums1_eq,show numsP l e 1 (p+1)=_ from m5];rfl) hc' k5⟩
  have hl5:=nums_len m5
  obtain ⟨na,rfl⟩:∃ na,ns=[na]:=by
    match ns,hl5 with
    | [na],_=>exact ⟨na,rfl⟩
  have Bna:Hid (0≤na∧na≤1000000):=hx5 na (by simp)
  have E5:Hid (numsP l e 1 (p+1)=.ok ([na],p5)):=m5
  have G5:Hid (FB _ _ _ _ _ _ _ _ _ #[.int .i64 2,.int .i64 na,.int .i64 0,.slice none 0 0,.slice none 0 0,.int .i64 0,.slice none 0 0,.slice none 0 0,.slice none 0 0] _):=r5
  clear m5 r5 k5 hx5 hl5 F4
  go_wp2_with fail
  refine (pmust_any wTo (by decide) G5.out.rd).mono ?_
  intro e' w6 hO
  rcases hO with ⟨⟨⟩,p6,x6,m6,rfl,rfl,r6,k6⟩ | ⟨y,c',a',m6,rfl,hc',k6⟩
  rotate_left
  · exact ⟨rfl,Out.bad (by rw [HE.out,nums1_eq,E5.out,PR.ok_andThen,m6];rfl) hc' (G5.out.chg.trans k6)⟩
  have E6:Hid (mustP l e wTo p5=.ok ((),p6)):=m6
  have G6:Hid (FB _ _ _ _ _ _ _ _ _ _ _):=G5.out.call r6 k6
  clear m6 r6 k6 G5
  go_wp2_with fail
  refine (pto_any G6.out.rd).mono ?_
  intro e' w7 hO
  rcases hO with ⟨ty,p7,x7,m7,rfl,⟨qaty,qcty,qbty,qdty,rfl,hi7⟩,r7,k7⟩ | ⟨y,c',a',m7,rfl,hc',k7⟩
  rotate_left
  · exact ⟨rfl,Out.bad (by rw [HE.out,nums1_eq,E5.out,PR.ok_andThen,E6.out,PR.ok_andThen,m7];rfl) hc' (G6.out.chg.trans k7)⟩
  have E7:Hid (toP l e p6=.ok (ty,p7)):=m7
  have G7:Hid (FB _ _ _ _ _ _ _ _ _ _ _):=G6.out.call r7 k7
  have Kty:Hid (Kid toL B w7 ty [.int .i64 ty.block,.slice qaty ty.regs.length qcty,.slice qbty ty.args.length qdty]):=Kid.mk hi7 G6.out.lt
  clear hi7
  clear m7 r7 k7 G6
  have y2:=cellOf G7.out.box 2 _ rfl
  have z2:=freeOf G7.out.box 2
  have y3:=cellOf G7.out.box 3 _ rfl
  have z3:=freeOf G7.out.box 3
  have y4:=cellOf G7.out.box 4 _ rfl
  have z4:=freeOf G7.out.box 4
  go_wp2_with fail
  have G8:Hid (FB _ (((w7.setCell ⟨B,2,none⟩ (.int .i64 ty.block)).setCell ⟨B,3,none⟩ (.slice qaty ty.regs.length qcty)).setCell ⟨B,4,none⟩ (.slice qbty ty.args.length qdty)) _ _ _ _ _ _ _ #[.int .i64 2,.int .i64 na,.int .i64 ty.block,.slice qaty ty.regs.length qcty,.slice qbty ty.args.length qdty,.int .i64 0,.slice none 0 0,.slice none 0 0,.slice none 0 0] _):=(FB.set (FB.set (FB.set G7.out 2 (.int .i64 ty.block)) 3 (.slice qaty ty.regs.length qcty)) 4 (.slice qbty ty.args.length qdty))
  have KtyG8:Hid (Kid _ _ (((w7.setCell ⟨B,2,none⟩ (.int .i64 ty.block)).setCell ⟨B,3,none⟩ (.slice qaty ty.regs.length qcty)).setCell ⟨B,4,none⟩ (.slice qbty ty.args.length qdty)) _ _):=(Kid.set (Kid.set (Kid.set Kty.out (q:=⟨B,2,none⟩) (Nat.le_refl _) _) (q:=⟨B,3,none⟩) (Nat.le_refl _) _) (q:=⟨B,4,none⟩) (Nat.le_refl _) _)
  clear Kty
  generalize (((w7.setCell ⟨B,2,none⟩ (.int .i64 ty.block)).setCell ⟨B,3,none⟩ (.slice qaty ty.regs.length qcty)).setCell ⟨B,4,none⟩ (.slice qbty ty.args.length qdty))=w8 at G8 KtyG8 ⊢
  clear y2 z2 y3 z3 y4 z4 G7
  refine (pmust_any wElse (by decide) G8.out.rd).mono ?_
  intro e' w9 hO
  rcases hO with ⟨u,p9,x9,m9,rfl,rfl,r9,k9⟩ | ⟨y,c',a',m9,rfl,hc',k9⟩
  rotate_left
  · exact ⟨rfl,Out.bad (by rw [HE.out,nums1_eq,E5.out,PR.ok_andThen,E6.out,PR.ok_andThen,E7.out,PR.ok_andThen,m9];rfl) hc' (G8.out.chg.trans k9)⟩
  have E9:Hid (mustP l e wElse p7=.ok ((),p9)):=m9
  have G9:Hid (FB _ _ _ _ _ _ _ _ _ _ _):=G8.out.call r9 k9
  have KtyG810_:Hid (Kid _ _ _ _ _):=KtyG8.out.chg k9 (by omega)
  clear KtyG8
  clear m9 r9 k9 G8
  go_wp2_with fail
  refine (pto_any G9.out.rd).mono ?_
  intro e' w11 hO
  rcases hO with ⟨tn,p11,x11,m11,rfl,⟨qatn,qctn,qbtn,qdtn,rfl,hi11⟩,r11,k11⟩ | ⟨y,c',a',m11,rfl,hc',k11⟩
  rotate_left
  · exact ⟨rfl,Out.bad (by rw [HE.out,nums1_eq,E5.out,PR.ok_andThen,E6.out,PR.ok_andThen,E7.out,PR.ok_andThen,E9.out,PR.ok_andThen,m11];rfl) hc' (G9.out.chg.trans k11)⟩
  have E11:Hid (toP l e p9=.ok (tn,p11)):=m11
  have G11:Hid (FB _ _ _ _ _ _ _ _ _ _ _):=G9.out.call r11 k11
  have KtyG810_12_:Hid (Kid _ _ _ _ _):=KtyG810_.out.chg k11 (by omega)
  clear KtyG810_
  have Ktn:Hid (Kid toL B w11 tn [.int .i64 tn.block,.slice qatn tn.regs.length qctn,.slice qbtn tn.args.length qdtn]):=Kid.mk hi11 G9.out.lt
  clear hi11
  clear m11 r11 k11 G9
  obtain ⟨y0,y1,y2,y3,y4,y5,y6,y7,y8⟩:=cells9 G11.out.box
  obtain ⟨u0,u1,u2,u3,u4,u5,u6,u7,u8⟩:=cells9 G11.out.res
  obtain ⟨v0,v1,v2,v3,v4,v5,v6,v7,v8⟩:=frees9 G11.out.res
  have z5:=freeOf G11.out.box 5
  have z6:=freeOf G11.out.box 6
  have z7:=freeOf G11.out.box 7
  have hne:¬ B=w.heap.size:=by omega
  go_wp2
  have DD:Hid (FinD _ _ _ _ _ _ _ #[.int .i64 2,.int .i64 na,.int .i64 ty.block,.slice qaty ty.regs.length qcty,.slice qbty ty.args.length qdty,.int .i64 tn.block,.slice qatn tn.regs.length qctn,.slice qbtn tn.args.length qdtn,.slice none 0 0] ((((((((((((w11.setCell ⟨B,5,none⟩ (.int .i64 tn.block)).setCell ⟨B,6,none⟩ (.slice qatn tn.regs.length qctn)).setCell ⟨B,7,none⟩ (.slice qbtn tn.args.length qdtn)).setCell ⟨w.heap.size,0,none⟩ (.int .i64 2)).setCell ⟨w.heap.size,1,none⟩ (.int .i64 na)).setCell ⟨w.heap.size,2,none⟩ (.int .i64 ty.block)).setCell ⟨w.heap.size,3,none⟩ (.slice qaty ty.regs.length qcty)).setCell ⟨w.heap.size,4,none⟩ (.slice qbty ty.args.length qdty)).setCell ⟨w.heap.size,5,none⟩ (.int .i64 tn.block)).setCell ⟨w.heap.size,6,none⟩ (.slice qatn tn.regs.length qctn)).setCell ⟨w.heap.size,7,none⟩ (.slice qbtn tn.args.length qdtn)).setCell ⟨w.heap.size,8,none⟩ (.slice none 0 0))):=FB.fin (FB.set (FB.set (FB.set G11.out 5 (.int .i64 tn.block)) 6 (.slice qatn tn.regs.length qctn)) 7 (.slice qbtn tn.args.length qdtn)) [.int .i64 2,.int .i64 na,.int .i64 ty.block,.slice qaty ty.regs.length qcty,.slice qbty ty.args.length qdty,.int .i64 tn.block,.slice qatn tn.regs.length qctn,.slice qbtn tn.args.length qdtn,.slice none 0 0] rfl
  have DKtyG810_12_:Hid (Kid _ _ ((((((((((((w11.setCell ⟨B,5,none⟩ (.int .i64 tn.block)).setCell ⟨B,6,none⟩ (.slice qatn tn.regs.length qctn)).setCell ⟨B,7,none⟩ (.slice qbtn tn.args.length qdtn)).setCell ⟨w.heap.size,0,none⟩ (.int .i64 2)).setCell ⟨w.heap.size,1,none⟩ (.int .i64 na)).setCell ⟨w.heap.size,2,none⟩ (.int .i64 ty.block)).setCell ⟨w.heap.size,3,none⟩ (.slice qaty ty.regs.length qcty)).setCell ⟨w.heap.size,4,none⟩ (.slice qbty ty.args.length qdty)).setCell ⟨w.heap.size,5,none⟩ (.int .i64 tn.block)).setCell ⟨w.heap.size,6,none⟩ (.slice qatn tn.regs.length qctn)).setCell ⟨w.heap.size,7,none⟩ (.slice qbtn tn.args.length qdtn)).setCell ⟨w.heap.size,8,none⟩ (.slice none 0 0)) _ _):=Kid.sets (Kid.set (Kid.set (Kid.set KtyG810_12_.out (q:=⟨B,5,none⟩) (Nat.le_refl _) _) (q:=⟨B,6,none⟩) (Nat.le_refl _) _) (q:=⟨B,7,none⟩) (Nat.le_refl _) _) (by omega) [.int .i64 2,.int .i64 na,.int .i64 ty.block,.slice qaty ty.regs.length qcty,.slice qbty ty.args.length qdty,.int .i64 tn.block,.slice qatn tn.regs.length qctn,.slice qbtn tn.args.length qdtn,.slice none 0 0] 0
  clear KtyG810_12_
  have DKtn:Hid (Kid _ _ ((((((((((((w11.setCell ⟨B,5,none⟩ (.int .i64 tn.block)).setCell ⟨B,6,none⟩ (.slice qatn tn.regs.length qctn)).setCell ⟨B,7,none⟩ (.slice qbtn tn.args.length qdtn)).setCell ⟨w.heap.size,0,none⟩ (.int .i64 2)).setCell ⟨w.heap.size,1,none⟩ (.int .i64 na)).setCell ⟨w.heap.size,2,none⟩ (.int .i64 ty.block)).setCell ⟨w.heap.size,3,none⟩ (.slice qaty ty.regs.length qcty)).setCell ⟨w.heap.size,4,none⟩ (.slice qbty ty.args.length qdty)).setCell ⟨w.heap.size,5,none⟩ (.int .i64 tn.block)).setCell ⟨w.heap.size,6,none⟩ (.slice qatn tn.regs.length qctn)).setCell ⟨w.heap.size,7,none⟩ (.slice qbtn tn.args.length qdtn)).setCell ⟨w.heap.size,8,none⟩ (.slice none 0 0)) _ _):=Kid.sets (Kid.set (Kid.set (Kid.set Ktn.out (q:=⟨B,5,none⟩) (Nat.le_refl _) _) (q:=⟨B,6,none⟩) (Nat.le_refl _) _) (q:=⟨B,7,none⟩) (Nat.le_refl _) _) (by omega) [.int .i64 2,.int .i64 na,.int .i64 ty.block,.slice qaty ty.regs.length qcty,.slice qbty ty.args.length qdty,.int .i64 tn.block,.slice qatn tn.regs.length qctn,.slice qbtn tn.args.length qdtn,.slice none 0 0] 0
  clear Ktn
  clear y0 u0 v0 y1 u1 v1 y2 u2 v2 y3 u3 v3 y4 u4 v4 y5 u5 v5 y6 u6 v6 y7 u7 v7 y8 u8 v8
  generalize ((((((((((((w11.setCell ⟨B,5,none⟩ (.int .i64 tn.block)).setCell ⟨B,6,none⟩ (.slice qatn tn.regs.length qctn)).setCell ⟨B,7,none⟩ (.slice qbtn tn.args.length qdtn)).setCell ⟨w.heap.size,0,none⟩ (.int .i64 2)).setCell ⟨w.heap.size,1,none⟩ (.int .i64 na)).setCell ⟨w.heap.size,2,none⟩ (.int .i64 ty.block)).setCell ⟨w.heap.size,3,none⟩ (.slice qaty ty.regs.length qcty)).setCell ⟨w.heap.size,4,none⟩ (.slice qbty ty.args.length qdty)).setCell ⟨w.heap.size,5,none⟩ (.int .i64 tn.block)).setCell ⟨w.heap.size,6,none⟩ (.slice qatn tn.regs.length qctn)).setCell ⟨w.heap.size,7,none⟩ (.slice qbtn tn.args.length qdtn)).setCell ⟨w.heap.size,8,none⟩ (.slice none 0 0))=w9 at DD DKtyG810_12_ DKtn ⊢
  obtain ⟨D1,D2,D3⟩:=DD.out
  obtain ⟨x0,x1,x2,x3,x4,x5,x6,x7,x8⟩:=cells9 D1
  exact bodyPost_ret (v:=.agg #[.int .i64 2,.int .i64 na,.int .i64 ty.block,.slice qaty ty.regs.length qcty,.slice qbty ty.args.length qdty,.int .i64 tn.block,.slice qatn tn.regs.length qctn,.slice qbtn tn.args.length qdtn,.slice none 0 0]) (by simp [results,Tryz.results170,go_sem,x0,x1,x2,x3,x4,x5,x6,x7,x8]) rfl (Out.good (by rw [HE.out,nums1_eq,E5.out,PR.ok_andThen,E6.out,PR.ok_andThen,E7.out,PR.ok_andThen,E9.out,PR.ok_andThen,E11.out,PR.ok_andThen];rfl) (⟨qaty,qcty,qbty,qdty,qatn,qctn,qbtn,qdtn,none,0,rfl,end_mk (x:=⟨2,na,ty,tn,[]⟩) (Kid.out DKtyG810_12_.out (by omega)) (Kid.out DKtn.out (by omega)) (Lay.list_nil _ _ _ _ _) ⟨lit_i64 2 (by decide),i64_of Bna.out⟩⟩) D2 D3)
theorem pend_k3 {w : World} {b e p : Nat} {l : List Tk} (h : PAt w b l e p) (hk : whichP l endWords p = 3) :
    Calls Tryz.prog 170 #[ptrP b] w fun en w'=>Out b e l (endP l e p) w (VEnd w) en w':=by
  have hbw:=h.lt
  have HL:Hid (p<l.length):=which_lt (by rw [hk];decide)
  have HE:Hid (endP l e p=PR.andThen (argsP l e (p+1)) fun x p2=>(.ok ((⟨3,0,noTo,noTo,x⟩:MEnd),p2):PR MEnd)):=end_k3 hk
  have S1:Hid (PAt (w.alloc (.cells #[.int .i64 0,.int .i64 0,.int .i64 0,.slice none 0 0,.slice none 0 0,.int .i64 0,.slice none 0 0,.slice none 0 0,.slice none 0 0] 50)) _ _ _ _∧_∧_):=begins h
  have C:Hid (∀ w1:World,PAt w1 b l e p→Calls Tryz.prog 197 #[ptrP b,.func (.func 201) #[] #[]] w1 fun en w'=>en=.returned (.int .i64 3)∧Below w1.heap.size w1 w'):=fun w1 h1=>which_told enters_endWord pendWord_any endWords_wordly (by decide) hk (by decide) h1
  clear h hk
  go_enter Tryz.func170,Tryz.ntmps170
  go_wp2_with fail
  generalize w.alloc (.cells #[.int .i64 0,.int .i64 0,.int .i64 0,.slice none 0 0,.slice none 0 0,.int .i64 0,.slice none 0 0,.slice none 0 0,.slice none 0 0] 50)=w1 at S1 ⊢
  refine (C.out w1 S1.out.1).mono ?_
  rintro e' w2 ⟨rfl,b2⟩
  have F0:Hid (FB w (w2.alloc (.cells #[.int .i64 3,.int .i64 0,.int .i64 0,.slice none 0 0,.slice none 0 0,.int .i64 0,.slice none 0 0,.slice none 0 0,.slice none 0 0] 50)) b e l p w.heap.size w2.heap.size _ #[.int .i64 3,.int .i64 0,.int .i64 0,.slice none 0 0,.slice none 0 0,.int .i64 0,.slice none 0 0,.slice none 0 0,.slice none 0 0] 50):=FB.beside _ (S1.out.1.below b2) (S1.out.2.1.below b2) (S1.out.2.2.trans (Chg.below b2)) hbw (Nat.le_refl _)
  clear b2 S1 C
  go_wp2_with fail
  generalize w2.alloc (.cells #[.int .i64 3,.int .i64 0,.int .i64 0,.slice none 0 0,.slice none 0 0,.int .i64 0,.slice none 0 0,.slice none 0 0,.slice none 0 0] 50)=w3 at F0 ⊢
  generalize w2.heap.size=B at F0 ⊢
  have hRB:w.heap.size<B:=F0.out.RB
  refine (take_any F0.out.rd HL.out).mono ?_
  rintro e' w4 ⟨rfl,r4,k4⟩
  have F4:Hid (FB _ _ _ _ _ _ _ _ _ _ _):=F0.out.call r4 k4
  have y0:=cellOf F4.out.box 0 _ rfl
  clear r4 k4 F0
  go_wp2_with fail
  refine (pargs_any F4.out.rd).mono ?_
  intro e' w5 hO
  rcases hO with ⟨ys,p5,x5,m5,rfl,⟨ay,cy,rfl,hi5⟩,r5,k5⟩ | ⟨y,c',a',m5,rfl,hc',k5⟩
  rotate_left
  · exact ⟨rfl,Out.bad (by rw [HE.out,m5];rfl) hc' (F4.out.chg.trans k5)⟩
  have E5:Hid (argsP l e (p+1)=.ok (ys,p5)):=m5
  have G5:Hid (FB _ _ _ _ _ _ _ _ _ _ _):=F4.out.call r5 k5
  have Kys:Hid (Kid intsL B w5 ys [.slice ay ys.length cy]):=Kid.mk hi5 F4.out.lt
  clear hi5
  clear m5 r5 k5 F4
  obtain ⟨y0,y1,y2,y3,y4,y5,y6,y7,y8⟩:=cells9 G5.out.box
  obtain ⟨u0,u1,u2,u3,u4,u5,u6,u7,u8⟩:=cells9 G5.out.res
  obtain ⟨v0,v1,v2,v3,v4,v5,v6,v7,v8⟩:=frees9 G5.out.res
  have z8:=freeOf G5.out.box 8
  have hne:¬ B=w.heap.size:=by omega
  go_wp2
  have DD:Hid (FinD _ _ _ _ _ _ _ #[.int .i64 3,.int .i64 0,.int .i64 0,.slice none 0 0,.slice none 0 0,.int .i64 0,.slice none 0 0,.slice none 0 0,.slice ay ys.length cy] ((((((((((w5.setCell ⟨B,8,none⟩ (.slice ay ys.length cy)).setCell ⟨w.heap.size,0,none⟩ (.int .i64 3)).setCell ⟨w.heap.size,1,none⟩ (.int .i64 0)).setCell ⟨w.heap.size,2,none⟩ (.int .i64 0)).setCell ⟨w.heap.size,3,none⟩ (.slice none 0 0)).setCell ⟨w.heap.size,4,none⟩ (.slice none 0 0)).setCell ⟨w.heap.size,5,none⟩ (.int .i64 0)).setCell ⟨w.heap.size,6,none⟩ (.slice none 0 0)).setCell ⟨w.heap.size,7,none⟩ (.slice none 0 0)).setCell ⟨w.heap.size,8,none⟩ (.slice ay ys.length cy))):=FB.fin (FB.set G5.out 8 (.slice ay ys.length cy)) [.int .i64 3,.int .i64 0,.int .i64 0,.slice none 0 0,.slice none 0 0,.int .i64 0,.slice none 0 0,.slice none 0 0,.slice ay ys.length cy] rfl
  have DKys:Hid (Kid _ _ ((((((((((w5.setCell ⟨B,8,none⟩ (.slice ay ys.length cy)).setCell ⟨w.heap.size,0,none⟩ (.int .i64 3)).setCell ⟨w.heap.size,1,none⟩ (.int .i64 0)).setCell ⟨w.heap.size,2,none⟩ (.int .i64 0)).setCell ⟨w.heap.size,3,none⟩ (.slice none 0 0)).setCell ⟨w.heap.size,4,none⟩ (.slice none 0 0)).setCell ⟨w.heap.size,5,none⟩ (.int .i64 0)).setCell ⟨w.heap.size,6,none⟩ (.slice none 0 0)).setCell ⟨w.heap.size,7,none⟩ (.slice none 0 0)).setCell ⟨w.heap.size,8,none⟩ (.slice ay ys.length cy)) _ _):=Kid.sets (Kid.set Kys.out (q:=⟨B,8,none⟩) (Nat.le_refl _) _) (by omega) [.int .i64 3,.int .i64 0,.int .i64 0,.slice none 0 0,.slice none 0 0,.int .i64 0,.slice none 0 0,.slice none 0 0,.slice ay ys.length cy] 0
  clear Kys
  clear y0 u0 v0 y1 u1 v1 y2 u2 v2 y3 u3 v3 y4 u4 v4 y5 u5 v5 y6 u6 v6 y7 u7 v7 y8 u8 v8
  generalize ((((((((((w5.setCell ⟨B,8,none⟩ (.slice ay ys.length cy)).setCell ⟨w.heap.size,0,none⟩ (.int .i64 3)).setCell ⟨w.heap.size,1,none⟩ (.int .i64 0)).setCell ⟨w.heap.size,2,none⟩ (.int .i64 0)).setCell ⟨w.heap.size,3,none⟩ (.slice none 0 0)).setCell ⟨w.heap.size,4,none⟩ (.slice none 0 0)).setCell ⟨w.heap.size,5,none⟩ (.int .i64 0)).setCell ⟨w.heap.size,6,none⟩ (.slice none 0 0)).setCell ⟨w.heap.size,7,none⟩ (.slice none 0 0)).setCell ⟨w.heap.size,8,none⟩ (.slice ay ys.length cy))=w9 at DD DKys ⊢
  obtain ⟨D1,D2,D3⟩:=DD.out
  obtain ⟨x0,x1,x2,x3,x4,x5,x6,x7,x8⟩:=cells9 D1
  exact bodyPost_ret (v:=.agg #[.int .i64 3,.int .i64 0,.int .i64 0,.slice none 0 0,.slice none 0 0,.int .i64 0,.slice none 0 0,.slice none 0 0,.slice ay ys.length cy]) (by simp [results,Tryz.results170,go_sem,x0,x1,x2,x3,x4,x5,x6,x7,x8]) rfl (Out.good (by rw [HE.out,E5.out,PR.ok_andThen]) (⟨none,0,none,0,none,0,none,0,ay,cy,rfl,end_mk (x:=⟨3,0,noTo,noTo,ys⟩) (noTo_inP _ _) (noTo_inP _ _) (Kid.out DKys.out (by omega)) ⟨lit_i64 3 (by decide),lit_i64 0 (by decide)⟩⟩) D2 D3)
theorem pend_k0 {w : World} {b e p : Nat} {l : List Tk} (h : PAt w b l e p) (hk : whichP l endWords p = 0) :
    Calls Tryz.prog 170 #[ptrP b] w fun en w'=>Out b e l (endP l e p) w (VEnd w) en w':=by
  have hbw:=h.lt
  obtain ⟨y,hy⟩:=end_k0 (e:=e) hk
  have HE:Hid (endP l e p=.error y):=hy
  have H1:Hid (PAt (w.alloc (.cells #[.int .i64 0,.int .i64 0,.int .i64 0,.slice none 0 0,.slice none 0 0,.int .i64 0,.slice none 0 0,.slice none 0 0,.slice none 0 0] 50)) b l e p):=h.below (bel1 _ _)
  have K1:Hid (Chg b w (w.alloc (.cells #[.int .i64 0,.int .i64 0,.int .i64 0,.slice none 0 0,.slice none 0 0,.int .i64 0,.slice none 0 0,.slice none 0 0,.slice none 0 0] 50))):=Chg.below (bel1 _ _)
  have HK:Hid (whichP l endWords p=0):=hk
  clear h hk hy
  go_enter Tryz.func170,Tryz.ntmps170
  go_wp2_with fail
  generalize w.alloc (.cells #[.int .i64 0,.int .i64 0,.int .i64 0,.slice none 0 0,.slice none 0 0,.int .i64 0,.slice none 0 0,.slice none 0 0,.slice none 0 0] 50)=w1 at H1 K1 ⊢
  refine (pmustWhich_any 201 endWords enters_endWord pendWord_any endWords_wordly (by decide) H1.out).mono ?_
  intro e' w2 hO
  rcases hO with ⟨h0,_⟩ | ⟨_,⟨c,a,rfl,hc⟩,b2⟩
  · exact absurd HK.out h0
  · exact ⟨rfl,Out.bad HE.out hc (K1.out.trans (Chg.below b2))⟩
theorem pend_any {w : World} {b e p : Nat} {l : List Tk} (h : PAt w b l e p) :
    Calls Tryz.prog 170 #[ptrP b] w fun en w'=>Out b e l (endP l e p) w (VEnd w) en w':=by
  have hle:=which_le (l:=l) (p:=p) endWords
  have h3:endWords.length=3:=rfl
  match hk:whichP l endWords p with
  | 0=>exact pend_k0 h hk
  | 1=>exact pend_k1 h hk
  | 2=>exact pend_k2 h hk
  | 3=>exact pend_k3 h hk
  | n+4=>omega
def Upon (K : Act → World → Prop) (Q : Exit → Act → World → Prop) (o : Oper) (a : Act) : Ending → World → Prop
  | .returned u,w=>K (a.put o.dst u) w
  | .panicked chain,w=>Q (.panic chain) a w
  | .outgrown,_=>LetsOut Q
theorem step_call_fn {P : Program} {ops : Array Oper} {o : Oper} {a : Act} {w : World} {K : Act → World → Prop} {Q : Exit → Act → World → Prop} {E : Prop} (hgd : o.guard = none) (F : Nat) (x : Operand) (t : TypeId)
    (ho:o.op=.call { callee:=.value (.func F),args:=#[x],argTypes:=#[t] }) (hE:∀ (args:Array Value) (w:World),(callFunc F args).run P w=.ok (.enter F args) w) (v:Value) (hx:a.eval x=v) {R:Ending→World→Prop} (C:Calls P F #[v] w R)
    (h:∀ en w',R en w'→Upon K Q o a en w'):if Region.wanted o (yielded ops a.tmps)=true then Oper.wp P o a w K Q else E:=by
  have hw:Region.wanted o (yielded ops a.tmps)=true:=by simp [Region.wanted,hgd]
  rw [if_pos hw]
  unfold Oper.wp
  have e1:(execOp a.eval o).run P w=.ok (.enter F #[v]) w:=by
    have hf:a.eval (.func F)=.func (.func F) #[] #[]:=rfl
    unfold execOp
    simp [ho,resolve,invoke,Deferred.ofValue,hx,hE,hf,Result.andThen]
  rw [e1,Oper.upon_enter]
  refine C.mono fun en w' hO=>?_
  have:=h en w' hO
  cases en <;> exact this
theorem FB.drew {w0 w : World} {b e p R B : Nat} {l : List Tk} {rc bc : Array Value} {T : TypeId} (h : FB w0 w b e l p R B rc bc T) : FB w0 w.drew b e l p R B rc bc T :=
  ⟨h.rd.keep fun k _=>rfl,h.res,h.box,h.chg.drew,h.bR,h.RB,h.R0⟩
theorem enters_ins : Enters 169 := fun _ _ => by kernel_rfl
theorem enters_block : Enters 133 := fun _ _ => by kernel_rfl
theorem enters_function : Enters 103 := fun _ _ => by kernel_rfl
section
variable {l : List Tk} {e : Nat}
def PR.pre (xs : List MIns) : PR (List MIns × MEnd) → PR (List MIns × MEnd)
  | .ok ((ys,x),q)=>.ok ((xs++ys,x),q)
  | .error y=>.error y
structure CodeQ (l : List Tk) (e p0 p f : Nat) (xs : List MIns) : Prop where
  rest:codeP l e (l.length+1) p0=(codeP l e f p).pre xs
  fuel:l.length+1≤f+p
  le:p≤l.length
  cnt:xs.length≤p
theorem CodeQ.start {p0 : Nat} (h : p0 ≤ l.length) : CodeQ l e p0 p0 (l.length + 1) [] := by
  refine ⟨?_,by omega,h,by simp⟩
  cases codeP l e (l.length+1) p0 with
  | error y=>rfl
  | ok y=>obtain ⟨⟨ys,x⟩,q⟩:=y;rfl
variable {p0 p f : Nat} {xs : List MIns} {v : MIns}
theorem CodeQ.bad {y : Nat × Nat} (h : CodeQ l e p0 p f xs) (hw : whichP l opWords p ≠ 0) (h1 : insFields l e (whichP l opWords p) (p + 1) = .error y) : codeP l e (l.length + 1) p0 = .error y := by
  have h2:=h.fuel
  have h3:=h.le
  obtain ⟨g,rfl⟩:∃ g,f=g+1:=⟨f - 1,by omega⟩
  rw [h.rest,codeP,if_neg hw,insP,h1]
  rfl
theorem CodeQ.bad2 {y : Nat × Nat} {p1 : Nat} (h : CodeQ l e p0 p f xs) (hw : whichP l opWords p ≠ 0) (h1 : insFields l e (whichP l opWords p) (p + 1) = .ok (v, p1)) (h4 : mustP l e [59] p1 = .error y) : codeP l e (l.length + 1) p0 = .error y := by
  have h2:=h.fuel
  have h3:=h.le
  obtain ⟨g,rfl⟩:∃ g,f=g+1:=⟨f - 1,by omega⟩
  rw [h.rest,codeP,if_neg hw,insP,h1,PR.ok_andThen,h4]
  rfl
theorem CodeQ.go {p1 p2 : Nat} (h : CodeQ l e p0 p f xs) (hw : whichP l opWords p ≠ 0) (h1 : insFields l e (whichP l opWords p) (p + 1) = .ok (v, p1)) (h4 : mustP l e [59] p1 = .ok ((), p2)) (hp : p2 ≤ l.length) : CodeQ l e p0 p2 (f - 1) (xs ++ [v]) := by
  have h2:=h.fuel
  have h3:=h.le
  have h5:=h.cnt
  have hlt:=which_lt hw
  have hi:insP l e (whichP l opWords p) (p+1)=.ok (v,p2):=by rw [insP,h1,PR.ok_andThen,h4,PR.ok_andThen]
  have hm:=ins_mon _ _ _ _ (by omega) hi
  obtain ⟨g,rfl⟩:∃ g,f=g+1:=⟨f - 1,by omega⟩
  refine ⟨?_,by simp;omega,hp,by simp;omega⟩
  rw [h.rest,codeP,if_neg hw,hi,PR.ok_andThen,Nat.add_sub_cancel]
  cases codeP l e g p2 with
  | error y=>rfl
  | ok y=>obtain ⟨⟨ys,x⟩,q⟩:=y;simp [PR.pre,PR.andThen]
theorem CodeQ.stop (h : CodeQ l e p0 p f xs) (hw : whichP l opWords p = 0) : codeP l e (l.length + 1) p0 = PR.andThen (endsP l e p) fun x q => (.ok ((xs, x), q) : PR (List MIns × MEnd)) := by
  have h2:=h.fuel
  have h3:=h.le
  obtain ⟨g,rfl⟩:∃ g,f=g+1:=⟨f - 1,by omega⟩
  rw [h.rest,codeP,if_pos hw]
  cases endsP l e p with
  | error y=>rfl
  | ok y=>obtain ⟨x,q⟩:=y;simp [PR.pre,PR.andThen]
end
def bP (l : List Tk) (e p : Nat) : PR (MBlock 6) := PR.andThen (mustP l e wBlock p) fun _ p1 => blockP l e p1
section
variable {l : List Tk} {e : Nat}
structure BlocksQ (l : List Tk) (e p0 p f : Nat) (xs : List (MBlock 6)) : Prop where
  rest:blocksP l e (l.length+1) p0=(blocksP l e f p).behind xs
  fuel:l.length+1≤f+p
  le:p≤l.length
  cnt:xs.length≤p
theorem BlocksQ.start {p0 : Nat} (h : p0 ≤ l.length) : BlocksQ l e p0 p0 (l.length + 1) [] := ⟨(PR.behind_nil _).symm, by omega, h, by simp⟩
variable {p0 p f : Nat} {xs : List (MBlock 6)} {v : MBlock 6}
theorem bP_word {p2 : Nat} (h : bP l e p = .ok (v, p2)) : isW l wBlock p = true ∧ blockP l e (p + 1) = .ok (v, p2) := by
  obtain ⟨u,p1,h1,h⟩:=PR.andThen_ok h
  unfold mustP at h1
  split at h1
  · rename_i hw
    injection h1 with h1;injection h1 with _ h1
    subst h1
    exact ⟨hw,h⟩
  · cases h1
theorem BlocksQ.bad {y : Nat × Nat} (h : BlocksQ l e p0 p f xs) (hw : isW l [125] p = false) (h1 : bP l e p = .error y) : ∃ y', blocksP l e (l.length + 1) p0 = .error y' := by
  have h2:=h.fuel
  have h3:=h.le
  obtain ⟨g,rfl⟩:∃ g,f=g+1:=⟨f - 1,by omega⟩
  rw [h.rest,blocksP]
  cases hb:isW l wBlock p with
  | true =>
    rw [bP,mustP,if_pos hb,PR.ok_andThen] at h1
    rw [if_pos rfl,h1]
    exact ⟨_,rfl⟩
  | false =>
    rw [if_neg (by simp),mustP,if_neg (by simp [hw])]
    exact ⟨_,rfl⟩
theorem BlocksQ.go {p2 : Nat} (h : BlocksQ l e p0 p f xs) (h1 : bP l e p = .ok (v, p2)) (hp : p2 ≤ l.length) : BlocksQ l e p0 p2 (f - 1) (xs ++ [v]) := by
  have h2:=h.fuel
  have h3:=h.le
  have h5:=h.cnt
  obtain ⟨hw,hb⟩:=bP_word h1
  obtain ⟨x,hx⟩:=isW_some hw
  have hlt:=lt_of_tok hx
  have hm:=block_mon _ _ _ (by omega) hb
  obtain ⟨g,rfl⟩:∃ g,f=g+1:=⟨f - 1,by omega⟩
  refine ⟨?_,by simp;omega,hp,by simp;omega⟩
  rw [h.rest,blocksP,if_pos hw,hb,PR.ok_andThen,Nat.add_sub_cancel]
  cases blocksP l e g p2 with
  | error y=>rfl
  | ok y=>obtain ⟨ys,q⟩:=y;simp [PR.behind,PR.andThen]
theorem BlocksQ.stop (h : BlocksQ l e p0 p f xs) (hw : isW l [125] p = true) : blocksP l e (l.length + 1) p0 = .ok (xs, p + 1) := by
  have h2:=h.fuel
  have h3:=h.le
  obtain ⟨g,rfl⟩:∃ g,f=g+1:=⟨f - 1,by omega⟩
  have hb:isW l wBlock p=false:=isW_other hw (by decide)
  rw [h.rest,blocksP,if_neg (by simp [hb]),mustP,if_pos hw]
  simp [PR.behind,PR.andThen]
end
section
variable {l : List Tk} {e : Nat}
structure FuncsQ (l : List Tk) (e p f : Nat) (xs : List (MFunc 6)) : Prop where
  rest:funcsP l e (l.length+1) 0=(funcsP l e f p).behind xs
  fuel:l.length+1≤f+p
  le:p≤l.length
  cnt:xs.length≤p
theorem FuncsQ.start : FuncsQ l e 0 (l.length + 1) [] := ⟨(PR.behind_nil _).symm, by omega, Nat.zero_le _, by simp⟩
variable {p f : Nat} {xs : List (MFunc 6)} {v : MFunc 6}
theorem FuncsQ.bad {y : Nat × Nat} (h : FuncsQ l e p f xs) (hp : p < l.length) (h1 : funcP l e p = .error y) : funcsP l e (l.length + 1) 0 = .error y := by
  have h2:=h.fuel
  obtain ⟨g,rfl⟩:∃ g,f=g+1:=⟨f - 1,by omega⟩
  rw [h.rest,funcsP,if_pos hp,h1]
  rfl
theorem FuncsQ.go {p2 : Nat} (h : FuncsQ l e p f xs) (hp : p < l.length) (h1 : funcP l e p = .ok (v, p2)) (hp2 : p2 ≤ l.length) : FuncsQ l e p2 (f - 1) (xs ++ [v]) := by
  have h2:=h.fuel
  have h5:=h.cnt
  have hm:=func_next (by omega) h1
  obtain ⟨g,rfl⟩:∃ g,f=g+1:=⟨f - 1,by omega⟩
  refine ⟨?_,by simp;omega,hp2,by simp;omega⟩
  rw [h.rest,funcsP,if_pos hp,h1,PR.ok_andThen,Nat.add_sub_cancel]
  cases funcsP l e g p2 with
  | error y=>rfl
  | ok y=>obtain ⟨ys,q⟩:=y;simp [PR.behind,PR.andThen]
theorem FuncsQ.stop (h : FuncsQ l e p f xs) (hp : ¬ p < l.length) : funcsP l e (l.length + 1) 0 = .ok (xs, p) := by
  have h2:=h.fuel
  have h3:=h.le
  obtain ⟨g,rfl⟩:∃ g,f=g+1:=⟨f - 1,by omega⟩
  rw [h.rest,funcsP,if_neg hp]
  simp [PR.behind]
end
section
variable {w0 w w' : World} {b e p R B : Nat} {l : List Tk} {rc bc : Array Value} {T : TypeId}
theorem FB.grown {row : Option Nat} (h : FB w0 w b e l p R B rc bc T) (g : w.grownBy w' row) (hr : ∀ k, row = some k → B < k) : FB w0 w' b e l p R B rc bc T := by
  have h1:=h.bR
  have h2:=h.RB
  have h3:=h.R0
  have h4:=h.lt
  exact ⟨h.rd.grown g (fun k hk=>by have:=hr k hk;omega),(g.block R h.res.lt (fun e=>by have:=hr R e.symm;omega)).trans h.res,(g.block B h4 (fun e=>by have:=hr B e.symm;omega)).trans h.box,h.chg.grownP g (fun k hk=>by have:=hr k hk;omega),h1,h2,h3⟩
theorem below_drew (w : World) : Below w.heap.size w w.drew := ⟨rfl, rfl, rfl, Nat.le_refl _, fun _ _ => rfl⟩
def Mid {α : Type} (A : Lay α) (B lo : Nat) (w : World) (x : α) (cs : List Value) : Prop := A.In w (fun g => B < g ∧ g < lo) x cs
variable {α : Type} {A : Lay α} {x : α} {cs : List Value} {lo : Nat}
theorem Kid.mid (h : Kid A B w x cs) : Mid A B w.heap.size w x cs := Lay.mono h (fun k hk hl => ⟨hk, hl⟩)
theorem Mid.chg (h : Mid A B lo w x cs) (k : Chg b w w') (hb : b ≤ B) : Mid A B lo w' x cs := Chg.keep h k (fun k hk => by omega)
theorem Mid.below (h : Mid A B lo w x cs) (k : Below w.heap.size w w') : Mid A B lo w' x cs := Lay.below h k
theorem Mid.set (h : Mid A B lo w x cs) {q : Addr} (hq : q.block ≤ B) (v : Value) : Mid A B lo (w.setCell q v) x cs := Lay.setCell h (by omega) v
theorem Mid.grown {row : Option Nat} (h : Mid A B lo w x cs) (g : w.grownBy w' row) (hr : ∀ k, row = some k → lo ≤ k) : Mid A B lo w' x cs :=
  A.keep (fun k hk hl=>g.block k hl (fun e=>by have:=hr k e.symm;omega)) (fun _ h _=>h) h
theorem Mid.kid (h : Mid A B lo w x cs) : Kid A B w x cs := Lay.mono h (fun k hk _ => hk.1)
theorem ARow.kidP {t : TypeId} {v : Value} {xs : List α} {ys : List Value} (h : ARow A t w lo v xs ys) (hB : B < lo) : Kid A.list B w xs [v] := Lay.mono h.lay (fun k hk _ => by omega)
end
section
variable {w0 w : World} {b e p R B : Nat} {l : List Tk} {rc bc : Array Value} {T : TypeId}
theorem FB.tail {us zs : List Value} (vs : List Value) (h : FB w0 w b e l p R B rc (us ++ zs).toArray T) (hl : vs.length = zs.length) : FB w0 (w.setCells B us.length vs) b e l p R B rc (us ++ vs).toArray T := by
  have h1:=h.bR
  have h2:=h.RB
  have h3:=h.R0
  have hs:Step (fun k=>k=B) (fun k=>k=B) w (w.setCells B us.length vs):=Step.setCells (O:=fun k=>k=B) (O':=fun k=>k=B) (b:=B) rfl vs us.length w (Step.refl _ _)
  have h4:=h.chg
  refine ⟨h.rd.keep fun k hk=>setCells_other (by omega) vs _ w,(setCells_other (by omega) vs _ w).trans h.res,Blk.sets vs us zs w hl h.box,?_,h1,h2,h3⟩
  exact ⟨hs.os.trans h4.os,hs.tape.trans h4.tape,hs.output.trans h4.output,Nat.le_trans h4.size hs.size,fun k hk hn=>(hs.block k (Nat.lt_of_lt_of_le hk h4.size) (by omega)).trans (h4.block k hk hn),fun k hk=>.inl hk⟩
end
theorem cells12 {w : World} {B : Nat} {t : TypeId} {p0 p1 p2 p3 p4 p5 p6 p7 p8 p9 p10 p11 : Value} (h : Blk w B #[p0, p1, p2, p3, p4, p5, p6, p7, p8, p9, p10, p11] t) : w.cell? ⟨B, 0, none⟩ = some p0 ∧ w.cell? ⟨B, 1, none⟩ = some p1 ∧ w.cell? ⟨B, 2, none⟩ = some p2 ∧ w.cell? ⟨B, 3, none⟩ = some p3 ∧ w.cell? ⟨B, 4, none⟩ = some p4 ∧ w.cell? ⟨B, 5, none⟩ = some p5 ∧ w.cell? ⟨B, 6, none⟩ = some p6 ∧ w.cell? ⟨B, 7, none⟩ = some p7 ∧ w.cell? ⟨B, 8, none⟩ = some p8 ∧ w.cell? ⟨B, 9, none⟩ = some p9 ∧ w.cell? ⟨B, 10, none⟩ = some p10 ∧ w.cell? ⟨B, 11, none⟩ = some p11 := ⟨cellOf h 0 _ rfl, cellOf h 1 _ rfl, cellOf h 2 _ rfl, cellOf h 3 _ rfl, cellOf h 4 _ rfl, cellOf h 5 _ rfl, cellOf h 6 _ rfl, cellOf h 7 _ rfl, cellOf h 8 _ rfl, cellOf h 9 _ rfl, cellOf h 10 _ rfl, cellOf h 11 _ rfl⟩
theorem pSizeB : (Tryz.prog.info? 52).map (·.size) = some 12 := by kernel_rfl
theorem pUnderN : Tryz.prog.underlying 46 = some (.slice 45) := by kernel_rfl
theorem pInfoN0 : (Tryz.prog.info? 45).map (fun i => (i.zero, i.size, i.bytes)) = some (some (.agg #[.int .i64 0, .int .i64 0, .int .i64 0, .int .i64 0, .int .i64 0, .int .i64 0, .slice none 0 0, .slice none 0 0]), 8, 96) := by kernel_rfl
theorem pInfoN : ∃ i, Tryz.prog.info? 45 = some i ∧ i.zero = some (.agg #[.int .i64 0, .int .i64 0, .int .i64 0, .int .i64 0, .int .i64 0, .int .i64 0, .slice none 0 0, .slice none 0 0]) ∧ i.size = 8 ∧ i.bytes = 96 := by
  have h:=pInfoN0
  cases e:Tryz.prog.info? 45 with
  | none=>rw [e] at h;cases h
  | some i =>
    rw [e] at h
    simp only [Option.map_some,Option.some.injEq,Prod.mk.injEq] at h
    exact ⟨i,rfl,h.1,h.2.1,h.2.2⟩
theorem pUnderB : Tryz.prog.underlying 40 = some (.slice 52) := by kernel_rfl
theorem pInfoB0 : (Tryz.prog.info? 52).map (fun i => (i.zero, i.size, i.bytes)) = some (some (.agg #[.int .i64 0, .slice none 0 0, .slice none 0 0, .int .i64 0, .int .i64 0, .int .i64 0, .slice none 0 0, .slice none 0 0, .int .i64 0, .slice none 0 0, .slice none 0 0, .slice none 0 0]), 12, 208) := by kernel_rfl
theorem pInfoB : ∃ i, Tryz.prog.info? 52 = some i ∧ i.zero = some (.agg #[.int .i64 0, .slice none 0 0, .slice none 0 0, .int .i64 0, .int .i64 0, .int .i64 0, .slice none 0 0, .slice none 0 0, .int .i64 0, .slice none 0 0, .slice none 0 0, .slice none 0 0]) ∧ i.size = 12 ∧ i.bytes = 208 := by
  have h:=pInfoB0
  cases e:Tryz.prog.info? 52 with
  | none=>rw [e] at h;cases h
  | some i =>
    rw [e] at h
    simp only [Option.map_some,Option.some.injEq,Prod.mk.injEq] at h
    exact ⟨i,rfl,h.1,h.2.1,h.2.2⟩
theorem pUnderF : Tryz.prog.underlying 23 = some (.slice 42) := by kernel_rfl
theorem pInfoF0 : (Tryz.prog.info? 42).map (fun i => (i.zero, i.size, i.bytes)) = some (some (.agg #[.int .i64 0, .slice none 0 0, .slice none 0 0, .slice none 0 0]), 4, 80) := by kernel_rfl
theorem pInfoF : ∃ i, Tryz.prog.info? 42 = some i ∧ i.zero = some (.agg #[.int .i64 0, .slice none 0 0, .slice none 0 0, .slice none 0 0]) ∧ i.size = 4 ∧ i.bytes = 80 := by
  have h:=pInfoF0
  cases e:Tryz.prog.info? 42 with
  | none=>rw [e] at h;cases h
  | some i =>
    rw [e] at h
    simp only [Option.map_some,Option.some.injEq,Prod.mk.injEq] at h
    exact ⟨i,rfl,h.1,h.2.1,h.2.2⟩
def VBlock (w0 : World) : World → MBlock 6 → Value → Prop := fun w' x v => ∃ q0 n0 q1 n1 q2 n2 q3 n3 q4 n4 q5 n5 q6 n6, v = .agg #[.int .i64 x.regs, .slice q0 x.params.length n0, .slice q1 x.code.length n1, .int .i64 x.fin.op, .int .i64 x.fin.a, .int .i64 x.fin.yes.block, .slice q2 x.fin.yes.regs.length n2, .slice q3 x.fin.yes.args.length n3, .int .i64 x.fin.no.block, .slice q4 x.fin.no.regs.length n4, .slice q5 x.fin.no.args.length n5, .slice q6 x.fin.args.length n6] ∧ (blockL 6).In w' (fun g => w0.heap.size ≤ g) x [.int .i64 x.regs, .slice q0 x.params.length n0, .slice q1 x.code.length n1, .int .i64 x.fin.op, .int .i64 x.fin.a, .int .i64 x.fin.yes.block, .slice q2 x.fin.yes.regs.length n2, .slice q3 x.fin.yes.args.length n3, .int .i64 x.fin.no.block, .slice q4 x.fin.no.regs.length n4, .slice q5 x.fin.no.args.length n5, .slice q6 x.fin.args.length n6]
theorem pOne8 (o1 o2 o3 o4 o5 o6 : Int) (a b : Option Addr) (l c m d : Nat) : ∀ u ∈ [Value.int .i64 o1, .int .i64 o2, .int .i64 o3, .int .i64 o4, .int .i64 o5, .int .i64 o6, .slice a l c, .slice b m d], u.oneCell' = true := by
  intro u h
  simp at h
  rcases h with rfl | rfl | rfl | rfl | rfl | rfl | rfl | rfl <;> rfl
theorem pblock_any {w : World} {b e p : Nat} {l : List Tk} (h : PAt w b l e p) :
    Calls Tryz.prog 133 #[ptrP b] w fun en w'=>Out b e l (bP l e p) w (VBlock w) en w':=by
  have hbw:=h.lt
  have hlen:=h.len
  have F0:Hid (FB w _ b e l p w.heap.size (w.heap.size+1) #[.int .i64 0,.slice none 0 0,.slice none 0 0,.int .i64 0,.int .i64 0,.int .i64 0,.slice none 0 0,.slice none 0 0,.int .i64 0,.slice none 0 0,.slice none 0 0,.slice none 0 0] #[.int .i64 0,.slice none 0 0,.slice none 0 0,.int .i64 0,.int .i64 0,.int .i64 0,.slice none 0 0,.slice none 0 0,.int .i64 0,.slice none 0 0,.slice none 0 0,.slice none 0 0] 52):=FB.start h
  obtain ⟨i0,hi,hz0,hz1,hz2⟩:=pInfoN
  clear h
  go_enter Tryz.func133,Tryz.ntmps133
  go_wp2_with fail
  refine (pmust_any wBlock (by decide) F0.out.rd).mono ?_
  intro e' w1 hO
  rcases hO with ⟨⟨⟩,p1,x1,m1,rfl,rfl,r1,k1⟩ | ⟨y,c',a',m1,rfl,hc',k1⟩
  rotate_left
  · exact ⟨rfl,Out.bad (by rw [bP,m1];rfl) hc' (F0.out.chg.trans k1)⟩
  have E1:Hid (mustP l e wBlock p=.ok ((),p1)):=m1
  have G1:Hid (FB _ _ _ _ _ _ _ _ _ _ _):=F0.out.call r1 k1
  clear m1 r1 k1 F0
  go_wp2_with fail
  refine (FB.callNums G1.out [0] (by simp) rfl (by decide) (by simp)).mono ?_
  intro e' w2 hO
  rcases hO with ⟨ns,p2,m2,rfl,hx2,r2,k2⟩ | ⟨y,c',a',m2,rfl,hc',k2⟩
  rotate_left
  · exact ⟨rfl,Out.bad (by rw [bP,E1.out,PR.ok_andThen,blockP,nums1_eq,show numsP l e 1 p1=_ from m2];rfl) hc' k2⟩
  have hl2:=nums_len m2
  obtain ⟨nr,rfl⟩:∃ nr,ns=[nr]:=by
    match ns,hl2 with
    | [nr],_=>exact ⟨nr,rfl⟩
  have Bnr:Hid (0≤nr∧nr≤1000000):=hx2 nr (by simp)
  have E2:Hid (numsP l e 1 p1=.ok ([nr],p2)):=m2
  have G2:Hid (FB _ _ _ _ _ _ _ _ _ #[.int .i64 nr,.slice none 0 0,.slice none 0 0,.int .i64 0,.int .i64 0,.int .i64 0,.slice none 0 0,.slice none 0 0,.int .i64 0,.slice none 0 0,.slice none 0 0,.slice none 0 0] _):=r2
  clear m2 r2 k2 hx2 hl2 G1
  go_wp2_with fail
  refine (ptypesTop_any G2.out.rd).mono ?_
  intro e' w3 hO
  rcases hO with ⟨ts,p3,x3,m3,rfl,⟨ax,cx,rfl,hi3⟩,r3,k3⟩ | ⟨y,c',a',m3,rfl,hc',k3⟩
  rotate_left
  · exact ⟨rfl,Out.bad (by rw [bP,E1.out,PR.ok_andThen,blockP,nums1_eq,E2.out,PR.ok_andThen,m3];rfl) hc' (G2.out.chg.trans k3)⟩
  have E3:Hid (typesP l e p2=.ok (ts,p3)):=m3
  have G3:Hid (FB _ _ _ _ _ _ _ _ _ _ _):=G2.out.call r3 k3
  have Kts:Hid (Kid (typesL 6) (w.heap.size+1) w3 ts [.slice ax ts.length cx]):=Kid.mk hi3 G2.out.lt
  clear hi3
  clear m3 r3 k3 G2
  have y1:=cellOf G3.out.box 1 _ rfl
  have z1:=freeOf G3.out.box 1
  go_wp2_with fail
  have G4:Hid (FB _ (w3.setCell ⟨(w.heap.size+1),1,none⟩ (.slice ax ts.length cx)) _ _ _ _ _ _ _ #[.int .i64 nr,.slice ax ts.length cx,.slice none 0 0,.int .i64 0,.int .i64 0,.int .i64 0,.slice none 0 0,.slice none 0 0,.int .i64 0,.slice none 0 0,.slice none 0 0,.slice none 0 0] _):=(FB.set G3.out 1 (.slice ax ts.length cx))
  have KtsG4:Hid (Kid _ _ (w3.setCell ⟨(w.heap.size+1),1,none⟩ (.slice ax ts.length cx)) _ _):=(Kid.set Kts.out (q:=⟨(w.heap.size+1),1,none⟩) (Nat.le_refl _) _)
  clear Kts
  generalize (w3.setCell ⟨(w.heap.size+1),1,none⟩ (.slice ax ts.length cx))=w4 at G4 KtsG4 ⊢
  clear y1 z1 G3
  refine (pmust_any [123] (by decide) G4.out.rd).mono ?_
  intro e' w5 hO
  rcases hO with ⟨u,p5,x5,m5,rfl,rfl,r5,k5⟩ | ⟨y,c',a',m5,rfl,hc',k5⟩
  rotate_left
  · exact ⟨rfl,Out.bad (by rw [bP,E1.out,PR.ok_andThen,blockP,nums1_eq,E2.out,PR.ok_andThen,E3.out,PR.ok_andThen,m5];rfl) hc' (G4.out.chg.trans k5)⟩
  have E5:Hid (mustP l e [123] p3=.ok ((),p5)):=m5
  have G5:Hid (FB _ _ _ _ _ _ _ _ _ _ _):=G4.out.call r5 k5
  have KtsG46_:Hid (Kid _ _ _ _ _):=KtsG4.out.chg k5 (by omega)
  clear KtsG4
  clear m5 r5 k5 G4
  go_wp2_with fail
  have P0:Hid (p5≤l.length):=G5.out.rd.le
  have L0:Hid ((w.heap.size+1)<w5.heap.size):=G5.out.lt
  have M0:Hid (Mid (typesL 6) (w.heap.size+1) w5.heap.size w5 ts [.slice ax ts.length cx]):=KtsG46_.out.mid
  clear KtsG46_
  generalize hlo:w5.heap.size=lo at M0 L0
  have HLO:Hid (lo=w5.heap.size):=hlo.symm
  clear hlo
  go_loopw [15] (fun u wr=>∃ xs cs v p2 f,FB w wr b e l p2 w.heap.size (w.heap.size+1) #[.int .i64 0,.slice none 0 0,.slice none 0 0,.int .i64 0,.int .i64 0,.int .i64 0,.slice none 0 0,.slice none 0 0,.int .i64 0,.slice none 0 0,.slice none 0 0,.slice none 0 0] #[.int .i64 nr,.slice ax ts.length cx,v,.int .i64 0,.int .i64 0,.int .i64 0,.slice none 0 0,.slice none 0 0,.int .i64 0,.slice none 0 0,.slice none 0 0,.slice none 0 0] 52∧ARow insL 45 wr lo v xs cs∧Mid (typesL 6) (w.heap.size+1) lo wr ts [.slice ax ts.length cx]∧CodeQ l e p5 p2 f xs∧lo≤wr.heap.size) (fun _ wr=>50000 - lenP ((wr.cell? ⟨(w.heap.size+1),2,none⟩).getD undef))
  case atStart=>exact ⟨[],[],.slice none 0 0,p5,l.length+1,G5.out,ARow.nil _ _ _ _,M0.out,CodeQ.start P0.out,by rw [HLO.out];exact Nat.le_refl _⟩
  case round =>
    obtain ⟨xs,cs,v,p2,f,hF,hA,hT,hQ,hl⟩:=hrel
    obtain ⟨a,c,rfl⟩:=hA.formP
    have F2:Hid (FB w wr b e l p2 w.heap.size (w.heap.size+1) #[.int .i64 0,.slice none 0 0,.slice none 0 0,.int .i64 0,.int .i64 0,.int .i64 0,.slice none 0 0,.slice none 0 0,.int .i64 0,.slice none 0 0,.slice none 0 0,.slice none 0 0] #[.int .i64 nr,.slice ax ts.length cx,(.slice a xs.length c),.int .i64 0,.int .i64 0,.int .i64 0,.slice none 0 0,.slice none 0 0,.int .i64 0,.slice none 0 0,.slice none 0 0,.slice none 0 0] 52):=hF
    have A2:Hid (ARow insL 45 wr lo (.slice a xs.length c) xs cs):=hA
    have T2:Hid (Mid (typesL 6) (w.heap.size+1) lo wr ts [.slice ax ts.length cx]):=hT
    have Q2:Hid (CodeQ l e p5 p2 f xs):=hQ
    have LO2:Hid (lo≤wr.heap.size):=hl
    have hmeas:Hid (lenP ((wr.cell? ⟨(w.heap.size+1),2,none⟩).getD undef)=xs.length):=by show _=_;rw [cellOf hF.box 2 _ rfl];rfl
    have hcnt:xs.length≤40000:=by have h1:=hQ.cnt;have h2:=hQ.le;omega
    clear hF hA hT hQ hl G5 M0
    go_wp2_with fail
    refine (pwhich_any 12 opWords enters_Op pOp_any opWords_wordly (by decide) F2.out.rd).mono ?_
    rintro e' w2 ⟨rfl,b2⟩
    have F3:Hid (FB w w2 b e l p2 w.heap.size (w.heap.size+1) #[.int .i64 0,.slice none 0 0,.slice none 0 0,.int .i64 0,.int .i64 0,.int .i64 0,.slice none 0 0,.slice none 0 0,.int .i64 0,.slice none 0 0,.slice none 0 0,.slice none 0 0] #[.int .i64 nr,.slice ax ts.length cx,(.slice a xs.length c),.int .i64 0,.int .i64 0,.int .i64 0,.slice none 0 0,.slice none 0 0,.int .i64 0,.slice none 0 0,.slice none 0 0,.slice none 0 0] 52):=F2.out.call (F2.out.rd.below b2) (Chg.below b2)
    have A3:Hid (ARow insL 45 w2 lo (.slice a xs.length c) xs cs):=A2.out.below b2
    have T3:Hid (Mid (typesL 6) (w.heap.size+1) lo w2 ts [.slice ax ts.length cx]):=T2.out.below b2
    have LO3:Hid (lo≤w2.heap.size):=Nat.le_trans LO2.out b2.size
    clear b2 F2 A2 T2 LO2
    by_cases hw:whichP l opWords p2=0
    · have SC:Hid (codeP l e (l.length+1) p5=PR.andThen (endsP l e p2) fun x q=>(.ok ((xs,x),q):PR (List MIns × MEnd))):=Q2.out.stop hw
      rw [hw]
      have Kxs:Hid (Kid insL.list (w.heap.size+1) w2 xs [.slice a xs.length c]):=A3.out.kidP L0.out
      have Kts:Hid (Kid (typesL 6) (w.heap.size+1) w2 ts [.slice ax ts.length cx]):=T3.out.kid
      clear hw A3 T3 Q2 hmeas LO3 HLO
      go_wp2_with fail
      refine (pend_any F3.out.rd).mono ?_
      intro e' w7 hO
      rcases hO with ⟨en,p7,x7,m7,rfl,⟨a1,c1,a2,c2,a3,c3,a4,c4,a5,c5,rfl,hi7⟩,r7,k7⟩ | ⟨y,c',a',m7,rfl,hc',k7⟩
      rotate_left
      · exact ⟨rfl,Out.bad (by rw [bP,E1.out,PR.ok_andThen,blockP,nums1_eq,E2.out,PR.ok_andThen,E3.out,PR.ok_andThen,E5.out,PR.ok_andThen,SC.out,ends_eq,m7];rfl) hc' (F3.out.chg.trans k7)⟩
      have E7:Hid (endP l e p2=.ok (en,p7)):=m7
      have G7:Hid (FB _ _ _ _ _ _ _ _ _ _ _):=F3.out.call r7 k7
      have Kts8_:Hid (Kid _ _ _ _ _):=Kts.out.chg k7 (by omega)
      clear Kts
      have Kxs9_:Hid (Kid _ _ _ _ _):=Kxs.out.chg k7 (by omega)
      clear Kxs
      have Ken:Hid (Kid endL (w.heap.size+1) w7 en [.int .i64 en.op,.int .i64 en.a,.int .i64 en.yes.block,.slice a1 en.yes.regs.length c1,.slice a2 en.yes.args.length c2,.int .i64 en.no.block,.slice a3 en.no.regs.length c3,.slice a4 en.no.args.length c4,.slice a5 en.args.length c5]):=Kid.mk hi7 F3.out.lt
      clear hi7
      clear m7 r7 k7 F3
      have TH:Hid (w7.there (w.heap.size+1) 3 9):=Blk.there G7.out.box (by simp)
      have ON:Hid ((#[.int .i64 en.op,.int .i64 en.a,.int .i64 en.yes.block,.slice a1 en.yes.regs.length c1,.slice a2 en.yes.args.length c2,.int .i64 en.no.block,.slice a3 en.no.regs.length c3,.slice a4 en.no.args.length c4,.slice a5 en.args.length c5]:Array Value).all (·.oneCell')=true):=by show _=_;simp [Value.oneCell']
      go_wp2_with (refine wpList_store_mid rfl 50 (.tmp 29) (.tmp 28) rfl (w.heap.size+1) 3 #[.int .i64 en.op,.int .i64 en.a,.int .i64 en.yes.block,.slice a1 en.yes.regs.length c1,.slice a2 en.yes.args.length c2,.int .i64 en.no.block,.slice a3 en.no.regs.length c3,.slice a4 en.no.args.length c4,.slice a5 en.args.length c5] rfl rfl TH.out pSizeE ON.out ?_;have G10:Hid (FB w (w7.setCells (w.heap.size+1) 3 #[.int .i64 en.op,.int .i64 en.a,.int .i64 en.yes.block,.slice a1 en.yes.regs.length c1,.slice a2 en.yes.args.length c2,.int .i64 en.no.block,.slice a3 en.no.regs.length c3,.slice a4 en.no.args.length c4,.slice a5 en.args.length c5].toList) b e l p7 w.heap.size (w.heap.size+1) #[.int .i64 0,.slice none 0 0,.slice none 0 0,.int .i64 0,.int .i64 0,.int .i64 0,.slice none 0 0,.slice none 0 0,.int .i64 0,.slice none 0 0,.slice none 0 0,.slice none 0 0] #[.int .i64 nr,.slice ax ts.length cx,.slice a xs.length c,.int .i64 en.op,.int .i64 en.a,.int .i64 en.yes.block,.slice a1 en.yes.regs.length c1,.slice a2 en.yes.args.length c2,.int .i64 en.no.block,.slice a3 en.no.regs.length c3,.slice a4 en.no.args.length c4,.slice a5 en.args.length c5] 52):=FB.tail (us:=[.int .i64 nr,.slice ax ts.length cx,.slice a xs.length c]) (zs:=[.int .i64 0,.int .i64 0,.int .i64 0,.slice none 0 0,.slice none 0 0,.int .i64 0,.slice none 0 0,.slice none 0 0,.slice none 0 0]) [.int .i64 en.op,.int .i64 en.a,.int .i64 en.yes.block,.slice a1 en.yes.regs.length c1,.slice a2 en.yes.args.length c2,.int .i64 en.no.block,.slice a3 en.no.regs.length c3,.slice a4 en.no.args.length c4,.slice a5 en.args.length c5] G7.out rfl;have Kts8_T:Hid (Kid (typesL 6) (w.heap.size+1) (w7.setCells (w.heap.size+1) 3 #[.int .i64 en.op,.int .i64 en.a,.int .i64 en.yes.block,.slice a1 en.yes.regs.length c1,.slice a2 en.yes.args.length c2,.int .i64 en.no.block,.slice a3 en.no.regs.length c3,.slice a4 en.no.args.length c4,.slice a5 en.args.length c5].toList) ts [.slice ax ts.length cx]):=Kid.sets Kts8_.out (Nat.le_refl _) _ _;have Kxs9_T:Hid (Kid insL.list (w.heap.size+1) (w7.setCells (w.heap.size+1) 3 #[.int .i64 en.op,.int .i64 en.a,.int .i64 en.yes.block,.slice a1 en.yes.regs.length c1,.slice a2 en.yes.args.length c2,.int .i64 en.no.block,.slice a3 en.no.regs.length c3,.slice a4 en.no.args.length c4,.slice a5 en.args.length c5].toList) xs [.slice a xs.length c]):=Kid.sets Kxs9_.out (Nat.le_refl _) _ _;have KenT:Hid (Kid endL (w.heap.size+1) (w7.setCells (w.heap.size+1) 3 #[.int .i64 en.op,.int .i64 en.a,.int .i64 en.yes.block,.slice a1 en.yes.regs.length c1,.slice a2 en.yes.args.length c2,.int .i64 en.no.block,.slice a3 en.no.regs.length c3,.slice a4 en.no.args.length c4,.slice a5 en.args.length c5].toList) en [.int .i64 en.op,.int .i64 en.a,.int .i64 en.yes.block,.slice a1 en.yes.regs.length c1,.slice a2 en.yes.args.length c2,.int .i64 en.no.block,.slice a3 en.no.regs.length c3,.slice a4 en.no.args.length c4,.slice a5 en.args.length c5]):=Kid.sets Ken.out (Nat.le_refl _) _ _;clear Kts8_ Kxs9_ Ken G7;generalize (w7.setCells (w.heap.size+1) 3 #[.int .i64 en.op,.int .i64 en.a,.int .i64 en.yes.block,.slice a1 en.yes.regs.length c1,.slice a2 en.yes.args.length c2,.int .i64 en.no.block,.slice a3 en.no.regs.length c3,.slice a4 en.no.args.length c4,.slice a5 en.args.length c5].toList)=w10 at G10 Kts8_T Kxs9_T KenT ⊢)
      clear TH ON
      refine (pmust_any [59] (by decide) G10.out.rd).mono ?_
      intro e' w11 hO
      rcases hO with ⟨u,p11,x11,m11,rfl,rfl,r11,k11⟩ | ⟨y,c',a',m11,rfl,hc',k11⟩
      rotate_left
      · exact ⟨rfl,Out.bad (by rw [bP,E1.out,PR.ok_andThen,blockP,nums1_eq,E2.out,PR.ok_andThen,E3.out,PR.ok_andThen,E5.out,PR.ok_andThen,SC.out,ends_eq,E7.out,PR.ok_andThen,m11];rfl) hc' (G10.out.chg.trans k11)⟩
      have E11:Hid (mustP l e [59] p7=.ok ((),p11)):=m11
      have G11:Hid (FB _ _ _ _ _ _ _ _ _ _ _):=G10.out.call r11 k11
      have Kts8_T12_:Hid (Kid _ _ _ _ _):=Kts8_T.out.chg k11 (by omega)
      clear Kts8_T
      have Kxs9_T13_:Hid (Kid _ _ _ _ _):=Kxs9_T.out.chg k11 (by omega)
      clear Kxs9_T
      have KenT14_:Hid (Kid _ _ _ _ _):=KenT.out.chg k11 (by omega)
      clear KenT
      clear m11 r11 k11 G10
      go_wp2_with fail
      refine (pmust_any [125] (by decide) G11.out.rd).mono ?_
      intro e' w15 hO
      rcases hO with ⟨u,p15,x15,m15,rfl,rfl,r15,k15⟩ | ⟨y,c',a',m15,rfl,hc',k15⟩
      rotate_left
      · exact ⟨rfl,Out.bad (by rw [bP,E1.out,PR.ok_andThen,blockP,nums1_eq,E2.out,PR.ok_andThen,E3.out,PR.ok_andThen,E5.out,PR.ok_andThen,SC.out,ends_eq,E7.out,PR.ok_andThen,E11.out,PR.ok_andThen,PR.ok_andThen,PR.ok_andThen,m15];rfl) hc' (G11.out.chg.trans k15)⟩
      have E15:Hid (mustP l e [125] p11=.ok ((),p15)):=m15
      have G15:Hid (FB _ _ _ _ _ _ _ _ _ _ _):=G11.out.call r15 k15
      have Kts8_T12_16_:Hid (Kid _ _ _ _ _):=Kts8_T12_.out.chg k15 (by omega)
      clear Kts8_T12_
      have Kxs9_T13_17_:Hid (Kid _ _ _ _ _):=Kxs9_T13_.out.chg k15 (by omega)
      clear Kxs9_T13_
      have KenT14_18_:Hid (Kid _ _ _ _ _):=KenT14_.out.chg k15 (by omega)
      clear KenT14_
      clear m15 r15 k15 G11
      have TR:Hid (w15.there w.heap.size 0 12):=Blk.there G15.out.res (by simp)
      have RN:Hid (w15.rangeAt (w.heap.size+1) 0 [.int .i64 nr,.slice ax ts.length cx,.slice a xs.length c,.int .i64 en.op,.int .i64 en.a,.int .i64 en.yes.block,.slice a1 en.yes.regs.length c1,.slice a2 en.yes.args.length c2,.int .i64 en.no.block,.slice a3 en.no.regs.length c3,.slice a4 en.no.args.length c4,.slice a5 en.args.length c5]):=Blk.range G15.out.box
      have ON:Hid ((#[.int .i64 nr,.slice ax ts.length cx,.slice a xs.length c,.int .i64 en.op,.int .i64 en.a,.int .i64 en.yes.block,.slice a1 en.yes.regs.length c1,.slice a2 en.yes.args.length c2,.int .i64 en.no.block,.slice a3 en.no.regs.length c3,.slice a4 en.no.args.length c4,.slice a5 en.args.length c5]:Array Value).all (·.oneCell')=true):=by show _=_;simp [Value.oneCell']
      go_wp2_with (first | (refine wpList_load_mid rfl 52 (.tmp 3) rfl (w.heap.size+1) 0 rfl [.int .i64 nr,.slice ax ts.length cx,.slice a xs.length c,.int .i64 en.op,.int .i64 en.a,.int .i64 en.yes.block,.slice a1 en.yes.regs.length c1,.slice a2 en.yes.args.length c2,.int .i64 en.no.block,.slice a3 en.no.regs.length c3,.slice a4 en.no.args.length c4,.slice a5 en.args.length c5] _ RN.out Tryz.underlying52 rfl pSizeB ?_) | (refine wpList_store_mid rfl 52 (.tmp 2) (.tmp 34) rfl w.heap.size 0 #[.int .i64 nr,.slice ax ts.length cx,.slice a xs.length c,.int .i64 en.op,.int .i64 en.a,.int .i64 en.yes.block,.slice a1 en.yes.regs.length c1,.slice a2 en.yes.args.length c2,.int .i64 en.no.block,.slice a3 en.no.regs.length c3,.slice a4 en.no.args.length c4,.slice a5 en.args.length c5] rfl rfl TR.out pSizeB ON.out ?_;have DD:Hid (FinD _ _ _ _ _ _ _ #[.int .i64 nr,.slice ax ts.length cx,.slice a xs.length c,.int .i64 en.op,.int .i64 en.a,.int .i64 en.yes.block,.slice a1 en.yes.regs.length c1,.slice a2 en.yes.args.length c2,.int .i64 en.no.block,.slice a3 en.no.regs.length c3,.slice a4 en.no.args.length c4,.slice a5 en.args.length c5] (w15.setCells w.heap.size 0 #[.int .i64 nr,.slice ax ts.length cx,.slice a xs.length c,.int .i64 en.op,.int .i64 en.a,.int .i64 en.yes.block,.slice a1 en.yes.regs.length c1,.slice a2 en.yes.args.length c2,.int .i64 en.no.block,.slice a3 en.no.regs.length c3,.slice a4 en.no.args.length c4,.slice a5 en.args.length c5].toList)):=FB.fin G15.out [.int .i64 nr,.slice ax ts.length cx,.slice a xs.length c,.int .i64 en.op,.int .i64 en.a,.int .i64 en.yes.block,.slice a1 en.yes.regs.length c1,.slice a2 en.yes.args.length c2,.int .i64 en.no.block,.slice a3 en.no.regs.length c3,.slice a4 en.no.args.length c4,.slice a5 en.args.length c5] rfl;have DKts8_T12_16_:Hid (Kid _ _ (w15.setCells w.heap.size 0 #[.int .i64 nr,.slice ax ts.length cx,.slice a xs.length c,.int .i64 en.op,.int .i64 en.a,.int .i64 en.yes.block,.slice a1 en.yes.regs.length c1,.slice a2 en.yes.args.length c2,.int .i64 en.no.block,.slice a3 en.no.regs.length c3,.slice a4 en.no.args.length c4,.slice a5 en.args.length c5].toList) _ _):=Kid.sets Kts8_T12_16_.out (by omega) _ _;have DKxs9_T13_17_:Hid (Kid _ _ (w15.setCells w.heap.size 0 #[.int .i64 nr,.slice ax ts.length cx,.slice a xs.length c,.int .i64 en.op,.int .i64 en.a,.int .i64 en.yes.block,.slice a1 en.yes.regs.length c1,.slice a2 en.yes.args.length c2,.int .i64 en.no.block,.slice a3 en.no.regs.length c3,.slice a4 en.no.args.length c4,.slice a5 en.args.length c5].toList) _ _):=Kid.sets Kxs9_T13_17_.out (by omega) _ _;have DKenT14_18_:Hid (Kid _ _ (w15.setCells w.heap.size 0 #[.int .i64 nr,.slice ax ts.length cx,.slice a xs.length c,.int .i64 en.op,.int .i64 en.a,.int .i64 en.yes.block,.slice a1 en.yes.regs.length c1,.slice a2 en.yes.args.length c2,.int .i64 en.no.block,.slice a3 en.no.regs.length c3,.slice a4 en.no.args.length c4,.slice a5 en.args.length c5].toList) _ _):=Kid.sets KenT14_18_.out (by omega) _ _;clear Kts8_T12_16_ Kxs9_T13_17_ KenT14_18_ G15;generalize (w15.setCells w.heap.size 0 #[.int .i64 nr,.slice ax ts.length cx,.slice a xs.length c,.int .i64 en.op,.int .i64 en.a,.int .i64 en.yes.block,.slice a1 en.yes.regs.length c1,.slice a2 en.yes.args.length c2,.int .i64 en.no.block,.slice a3 en.no.regs.length c3,.slice a4 en.no.args.length c4,.slice a5 en.args.length c5].toList)=w9 at DD DKts8_T12_16_ DKxs9_T13_17_ DKenT14_18_ ⊢))
      obtain ⟨D1,D2,D3⟩:=DD.out
      obtain ⟨x0,x1,x2,x3,x4,x5,x6,x7,x8,x9,x10,x11⟩:=cells12 D1
      exact bodyPost_ret (v:=.agg #[.int .i64 nr,.slice ax ts.length cx,.slice a xs.length c,.int .i64 en.op,.int .i64 en.a,.int .i64 en.yes.block,.slice a1 en.yes.regs.length c1,.slice a2 en.yes.args.length c2,.int .i64 en.no.block,.slice a3 en.no.regs.length c3,.slice a4 en.no.args.length c4,.slice a5 en.args.length c5]) (by simp [results,Tryz.results133,go_sem,x0,x1,x2,x3,x4,x5,x6,x7,x8,x9,x10,x11]) rfl (Out.good (by rw [bP,E1.out,PR.ok_andThen,blockP,nums1_eq,E2.out,PR.ok_andThen,E3.out,PR.ok_andThen,E5.out,PR.ok_andThen,SC.out,ends_eq,E7.out,PR.ok_andThen,E11.out,PR.ok_andThen,PR.ok_andThen,PR.ok_andThen,E15.out,PR.ok_andThen];rfl) (⟨ax,cx,a,c,a1,c1,a2,c2,a3,c3,a4,c4,a5,c5,rfl,block_mk (x:=⟨nr,ts,xs,en⟩) (Kid.out DKts8_T12_16_.out (by omega)) (Kid.out DKxs9_T13_17_.out (by omega)) (Kid.out DKenT14_18_.out (by omega)) (i64_of Bnr.out)⟩) D2 D3)
    · have hw':¬ ((whichP l opWords p2:Nat):Int)=0:=by omega
      have HW:Hid (whichP l opWords p2≠0):=hw
      clear hw
      go_wp2_with fail
      have y2:=cellOf F3.out.box 2 _ rfl
      have hBl:=F3.out.lt
      have F3d:Hid (FB w w2.drew b e l p2 w.heap.size (w.heap.size+1) #[.int .i64 0,.slice none 0 0,.slice none 0 0,.int .i64 0,.int .i64 0,.int .i64 0,.slice none 0 0,.slice none 0 0,.int .i64 0,.slice none 0 0,.slice none 0 0,.slice none 0 0] #[.int .i64 nr,.slice ax ts.length cx,(.slice a xs.length c),.int .i64 0,.int .i64 0,.int .i64 0,.slice none 0 0,.slice none 0 0,.int .i64 0,.slice none 0 0,.slice none 0 0,.slice none 0 0] 52):=F3.out.drew
      have A3d:Hid (ARow insL 45 w2.drew lo (.slice a xs.length c) xs cs):=A3.out.below (below_drew _)
      have T3d:Hid (Mid (typesL 6) (w.heap.size+1) lo w2.drew ts [.slice ax ts.length cx]):=T3.out.below (below_drew _)
      clear F3 A3 T3
      go_region_law (first
        | (refine step_call_fn rfl 169 (.tmp 20) 101 rfl enters_ins (ptrP b) (by simp [Act.eval,Act.put]) (pins_any F3d.out.rd HW.out) ?_
           intro e' w4 hO
           rcases hO with ⟨x,p4,x4,m4,rfl,⟨a4,c4,b4,d4,rfl,hi4⟩,r4,k4⟩ | ⟨y,c',a',m4,rfl,hc',k4⟩
           rotate_left
           · exact ⟨rfl,Out.bad (by rw [bP,E1.out,PR.ok_andThen,blockP,nums1_eq,E2.out,PR.ok_andThen,E3.out,PR.ok_andThen,E5.out,PR.ok_andThen,Q2.out.bad HW.out m4];rfl) hc' (F3d.out.chg.trans k4)⟩
           have M4:Hid (insFields l e (whichP l opWords p2) (p2+1)=.ok (x,p4)):=m4
           have F4:Hid (FB w w4 b e l p4 w.heap.size (w.heap.size+1) #[.int .i64 0,.slice none 0 0,.slice none 0 0,.int .i64 0,.int .i64 0,.int .i64 0,.slice none 0 0,.slice none 0 0,.int .i64 0,.slice none 0 0,.slice none 0 0,.slice none 0 0] #[.int .i64 nr,.slice ax ts.length cx,(.slice a xs.length c),.int .i64 0,.int .i64 0,.int .i64 0,.slice none 0 0,.slice none 0 0,.int .i64 0,.slice none 0 0,.slice none 0 0,.slice none 0 0] 52):=F3d.out.call r4 k4
           have A4:Hid (ARow insL 45 w4 lo (.slice a xs.length c) xs cs):=A3d.out.chgP k4 (by have:=L0.out;omega)
           have T4:Hid (Mid (typesL 6) (w.heap.size+1) lo w4 ts [.slice ax ts.length cx]):=T3d.out.chg k4 (by omega)
           have y4:=cellOf F4.out.box 2 _ rfl
           have hB4:=F4.out.lt
           have hown:Hid (w4.ownsRow lo 45 8 (.slice a xs.length c) xs.length cs):=A4.out.own
           have hlo4:Hid (lo≤w4.heap.size):=Nat.le_trans LO3.out k4.size
           have I4:Hid (insL.In w4 (fun g=>w2.heap.size≤g) x [.int .i64 x.op,.int .i64 x.a,.int .i64 x.b,.int .i64 x.c,.int .i64 x.k,.int .i64 x.n,.slice a4 x.regs.length c4,.slice b4 x.args.length d4]):=hi4
           have SZ:Hid (w2.heap.size≤w4.heap.size):=k4.size
           clear m4 r4 k4 hi4
           dsimp only [Upon])
        | (refine step_append_lies _ rfl (.tmp 19) (.tmp 22) 46 rfl lo 45 i0 (.agg #[.int .i64 0,.int .i64 0,.int .i64 0,.int .i64 0,.int .i64 0,.int .i64 0,.slice none 0 0,.slice none 0 0]) 8 96 pUnderN hi hz0 hz1 hz2 rfl (by decide) (.slice a xs.length c) xs.length cs (by simp [Act.eval,Act.put]) (hown.out.alloc _) ⟨w4.heap.size,0,none⟩ 1 1 [.int .i64 x.op,.int .i64 x.a,.int .i64 x.b,.int .i64 x.c,.int .i64 x.k,.int .i64 x.n,.slice a4 x.regs.length c4,.slice b4 x.args.length d4] (by simp [Act.eval,Act.put]) rfl (newsP _ [_,_,_,_,_,_,_,_] _) (pOne8 _ _ _ _ _ _ _ _ _ _ _ _) (by decide) (by unfold maxLen;omega) (by omega) (by have:=hlo4.out;simp;omega) (w4.heap.size+1) (by simp) ?_
           intro g2 cap2 w9 h1 hgrow hat hlt1
           have I5:insL.In (w4.alloc (.cells #[.int .i64 x.op,.int .i64 x.a,.int .i64 x.b,.int .i64 x.c,.int .i64 x.k,.int .i64 x.n,.slice a4 x.regs.length c4,.slice b4 x.args.length d4] 45)) (fun g=>lo≤g∧(Value.slice a xs.length c).ownBlock≠some g) x [.int .i64 x.op,.int .i64 x.a,.int .i64 x.b,.int .i64 x.c,.int .i64 x.k,.int .i64 x.n,.slice a4 x.regs.length c4,.slice b4 x.args.length d4] :=
             Lay.alloc (Lay.mono I4.out (fun k hk _=>⟨Nat.le_trans LO3.out hk,fun e=>by have:k<w2.heap.size:=(A3d.out.lo_le e).2;omega⟩)) _
           have A5:=A4.out.below (bel1 w4 (.cells #[.int .i64 x.op,.int .i64 x.a,.int .i64 x.b,.int .i64 x.c,.int .i64 x.k,.int .i64 x.n,.slice a4 x.regs.length c4,.slice b4 x.args.length d4] 45))
           have F9:Hid (FB w w9 b e l p4 w.heap.size (w.heap.size+1) #[.int .i64 0,.slice none 0 0,.slice none 0 0,.int .i64 0,.int .i64 0,.int .i64 0,.slice none 0 0,.slice none 0 0,.int .i64 0,.slice none 0 0,.slice none 0 0,.slice none 0 0] #[.int .i64 nr,.slice ax ts.length cx,(.slice a xs.length c),.int .i64 0,.int .i64 0,.int .i64 0,.slice none 0 0,.slice none 0 0,.int .i64 0,.slice none 0 0,.slice none 0 0,.slice none 0 0] 52):=(F4.out.alloc _).grown hgrow (fun k hk=>by have:=(A5.lo_le hk).1;have:=L0.out;omega)
           have A9:Hid (ARow insL 45 w9 lo (.slice (some ⟨g2,0,none⟩) (xs.length+1) cap2) (xs++[x]) (cs++[.int .i64 x.op,.int .i64 x.a,.int .i64 x.b,.int .i64 x.c,.int .i64 x.k,.int .i64 x.n,.slice a4 x.regs.length c4,.slice b4 x.args.length d4])):=ARow.push A5 I5 hgrow (by simpa using hat) h1
           have T9:Hid (Mid (typesL 6) (w.heap.size+1) lo w9 ts [.slice ax ts.length cx]):=(T4.out.below (bel1 _ _)).grown hgrow (fun k hk=>(A5.lo_le hk).1)
           have LO9:Hid (lo≤w9.heap.size):=by have h8:=hgrow.size;have h7:=hlo4.out;have h6:=(bel1 w4 (.cells #[.int .i64 x.op,.int .i64 x.a,.int .i64 x.b,.int .i64 x.c,.int .i64 x.k,.int .i64 x.n,.slice a4 x.regs.length c4,.slice b4 x.args.length d4] 45)).size;exact Nat.le_trans h7 (Nat.le_trans h6 h8)
           have y9:=cellOf F9.out.box 2 _ rfl
           have z9:=freeOf F9.out.box 2
           clear h1 hgrow hat hlt1 I5 A5))
      all_goals
        have F10:Hid (FB w (w9.setCell ⟨(w.heap.size+1),2,none⟩ (.slice (some ⟨g2,0,none⟩) (xs.length+1) cap2)) b e l p4 w.heap.size (w.heap.size+1) #[.int .i64 0,.slice none 0 0,.slice none 0 0,.int .i64 0,.int .i64 0,.int .i64 0,.slice none 0 0,.slice none 0 0,.int .i64 0,.slice none 0 0,.slice none 0 0,.slice none 0 0] #[.int .i64 nr,.slice ax ts.length cx,(.slice (some ⟨g2,0,none⟩) (xs.length+1) cap2),.int .i64 0,.int .i64 0,.int .i64 0,.slice none 0 0,.slice none 0 0,.int .i64 0,.slice none 0 0,.slice none 0 0,.slice none 0 0] 52):=FB.set F9.out 2 (.slice (some ⟨g2,0,none⟩) (xs.length+1) cap2)
        have A10:Hid (ARow insL 45 (w9.setCell ⟨(w.heap.size+1),2,none⟩ (.slice (some ⟨g2,0,none⟩) (xs.length+1) cap2)) lo (.slice (some ⟨g2,0,none⟩) (xs.length+1) cap2) (xs++[x]) (cs++[.int .i64 x.op,.int .i64 x.a,.int .i64 x.b,.int .i64 x.c,.int .i64 x.k,.int .i64 x.n,.slice a4 x.regs.length c4,.slice b4 x.args.length d4])):=ARow.setOther A9.out L0.out _
        have T10:Hid (Mid (typesL 6) (w.heap.size+1) lo (w9.setCell ⟨(w.heap.size+1),2,none⟩ (.slice (some ⟨g2,0,none⟩) (xs.length+1) cap2)) ts [.slice ax ts.length cx]):=Mid.set T9.out (Nat.le_refl _) _
        have LO10:Hid (lo≤(w9.setCell ⟨(w.heap.size+1),2,none⟩ (.slice (some ⟨g2,0,none⟩) (xs.length+1) cap2)).heap.size):=by show _≤_;have:=LO9.out;simpa using this
        clear F9 A9 T9 LO9 y9 z9 y4 hB4 hown hlo4 I4 SZ F4 A4 T4
        generalize w9.setCell ⟨(w.heap.size+1),2,none⟩ (.slice (some ⟨g2,0,none⟩) (xs.length+1) cap2)=w10 at F10 A10 T10 LO10 ⊢
        go_wp2_with fail
        refine (pmust_any [59] (by decide) F10.out.rd).mono ?_
        intro e' w11 hO
        rcases hO with ⟨⟨⟩,p11,x11,m11,rfl,rfl,r11,k11⟩ | ⟨y,c',a',m11,rfl,hc',k11⟩
        rotate_left
        · exact ⟨rfl,Out.bad (by rw [bP,E1.out,PR.ok_andThen,blockP,nums1_eq,E2.out,PR.ok_andThen,E3.out,PR.ok_andThen,E5.out,PR.ok_andThen,Q2.out.bad2 HW.out M4.out m11];rfl) hc' (F10.out.chg.trans k11)⟩
        have F11:Hid (FB w w11 b e l p11 w.heap.size (w.heap.size+1) #[.int .i64 0,.slice none 0 0,.slice none 0 0,.int .i64 0,.int .i64 0,.int .i64 0,.slice none 0 0,.slice none 0 0,.int .i64 0,.slice none 0 0,.slice none 0 0,.slice none 0 0] #[.int .i64 nr,.slice ax ts.length cx,(.slice (some ⟨g2,0,none⟩) (xs.length+1) cap2),.int .i64 0,.int .i64 0,.int .i64 0,.slice none 0 0,.slice none 0 0,.int .i64 0,.slice none 0 0,.slice none 0 0,.slice none 0 0] 52):=F10.out.call r11 k11
        have A11:Hid (ARow insL 45 w11 lo (.slice (some ⟨g2,0,none⟩) (xs.length+1) cap2) (xs++[x]) (cs++[.int .i64 x.op,.int .i64 x.a,.int .i64 x.b,.int .i64 x.c,.int .i64 x.k,.int .i64 x.n,.slice a4 x.regs.length c4,.slice b4 x.args.length d4])):=A10.out.chgP k11 (by have:=L0.out;omega)
        have T11:Hid (Mid (typesL 6) (w.heap.size+1) lo w11 ts [.slice ax ts.length cx]):=T10.out.chg k11 (by omega)
        have LO11:Hid (lo≤w11.heap.size):=Nat.le_trans LO10.out k11.size
        have Q11:Hid (CodeQ l e p5 p11 (f - 1) (xs++[x])):=Q2.out.go HW.out M4.out m11 r11.le
        have hm11:Hid (lenP ((w11.cell? ⟨(w.heap.size+1),2,none⟩).getD undef)=xs.length+1):=by show _=_;rw [cellOf F11.out.box 2 _ rfl];rfl
        clear m11 r11 k11 F10 A10 T10 LO10
        go_wp2
        go_roundw
        case rel=>exact ⟨xs++[x],_,_,p11,f - 1,F11.out,A11.out,T11.out,Q11.out,LO11.out⟩
        case measure=>rw [hm11.out,hmeas.out];omega
def VFunc (w0 : World) : World → MFunc 6 → Value → Prop := fun w' x v => ∃ q1 n1 q2 n2 q3 n3, v = .agg #[.int .i64 x.regs, .slice q1 x.params.length n1, .slice q2 x.results.length n2, .slice q3 x.blocks.length n3] ∧ (funcL 6).In w' (fun g => w0.heap.size ≤ g) x [.int .i64 x.regs, .slice q1 x.params.length n1, .slice q2 x.results.length n2, .slice q3 x.blocks.length n3]
theorem pOne12 (o1 o2 o3 o4 o5 : Int) (a0 a1 a2 a3 a4 a5 a6 : Option Addr) (l0 c0 l1 c1 l2 c2 l3 c3 l4 c4 l5 c5 l6 c6 : Nat) : ∀ u ∈ [Value.int .i64 o1, .slice a0 l0 c0, .slice a1 l1 c1, .int .i64 o2, .int .i64 o3, .int .i64 o4, .slice a2 l2 c2, .slice a3 l3 c3, .int .i64 o5, .slice a4 l4 c4, .slice a5 l5 c5, .slice a6 l6 c6], u.oneCell' = true := by
  intro u h
  simp at h
  rcases h with rfl | rfl | rfl | rfl | rfl | rfl | rfl | rfl | rfl | rfl | rfl | rfl <;> rfl
theorem pfunction_any {w : World} {b e p : Nat} {l : List Tk} (h : PAt w b l e p) :
    Calls Tryz.prog 103 #[ptrP b] w fun en w'=>Out b e l (funcP l e p) w (VFunc w) en w':=by
  have hbw:=h.lt
  have hlen:=h.len
  have F0:Hid (FB w _ b e l p w.heap.size (w.heap.size+1) #[.int .i64 0,.slice none 0 0,.slice none 0 0,.slice none 0 0] #[.int .i64 0,.slice none 0 0,.slice none 0 0,.slice none 0 0] 42):=FB.start h
  obtain ⟨i0,hi,hz0,hz1,hz2⟩:=pInfoB
  clear h
  go_enter Tryz.func103,Tryz.ntmps103
  go_wp2_with fail
  refine (pmust_any wFunc (by decide) F0.out.rd).mono ?_
  intro e' w1 hO
  rcases hO with ⟨⟨⟩,p1,x1,m1,rfl,rfl,r1,k1⟩ | ⟨y,c',a',m1,rfl,hc',k1⟩
  rotate_left
  · exact ⟨rfl,Out.bad (by rw [funcP,m1];rfl) hc' (F0.out.chg.trans k1)⟩
  have E1:Hid (mustP l e wFunc p=.ok ((),p1)):=m1
  have G1:Hid (FB _ _ _ _ _ _ _ _ _ _ _):=F0.out.call r1 k1
  clear m1 r1 k1 F0
  go_wp2_with fail
  refine (FB.callNums G1.out [0] (by simp) rfl (by decide) (by simp)).mono ?_
  intro e' w2 hO
  rcases hO with ⟨ns,p2,m2,rfl,hx2,r2,k2⟩ | ⟨y,c',a',m2,rfl,hc',k2⟩
  rotate_left
  · exact ⟨rfl,Out.bad (by rw [funcP,E1.out,PR.ok_andThen,nums1_eq,show numsP l e 1 p1=_ from m2];rfl) hc' k2⟩
  have hl2:=nums_len m2
  obtain ⟨nr,rfl⟩:∃ nr,ns=[nr]:=by
    match ns,hl2 with
    | [nr],_=>exact ⟨nr,rfl⟩
  have Bnr:Hid (0≤nr∧nr≤1000000):=hx2 nr (by simp)
  have E2:Hid (numsP l e 1 p1=.ok ([nr],p2)):=m2
  have G2:Hid (FB _ _ _ _ _ _ _ _ _ #[.int .i64 nr,.slice none 0 0,.slice none 0 0,.slice none 0 0] _):=r2
  clear m2 r2 k2 hx2 hl2 G1
  go_wp2_with fail
  refine (ptypesTop_any G2.out.rd).mono ?_
  intro e' w3 hO
  rcases hO with ⟨ts,p3,x3,m3,rfl,⟨ax,cx,rfl,hi3⟩,r3,k3⟩ | ⟨y,c',a',m3,rfl,hc',k3⟩
  rotate_left
  · exact ⟨rfl,Out.bad (by rw [funcP,E1.out,PR.ok_andThen,nums1_eq,E2.out,PR.ok_andThen,m3];rfl) hc' (G2.out.chg.trans k3)⟩
  have E3:Hid (typesP l e p2=.ok (ts,p3)):=m3
  have G3:Hid (FB _ _ _ _ _ _ _ _ _ _ _):=G2.out.call r3 k3
  have Kts:Hid (Kid (typesL 6) (w.heap.size+1) w3 ts [.slice ax ts.length cx]):=Kid.mk hi3 G2.out.lt
  clear hi3
  clear m3 r3 k3 G2
  have y1:=cellOf G3.out.box 1 _ rfl
  have z1:=freeOf G3.out.box 1
  go_wp2_with fail
  have G4:Hid (FB _ (w3.setCell ⟨(w.heap.size+1),1,none⟩ (.slice ax ts.length cx)) _ _ _ _ _ _ _ #[.int .i64 nr,.slice ax ts.length cx,.slice none 0 0,.slice none 0 0] _):=(FB.set G3.out 1 (.slice ax ts.length cx))
  have KtsG4:Hid (Kid _ _ (w3.setCell ⟨(w.heap.size+1),1,none⟩ (.slice ax ts.length cx)) _ _):=(Kid.set Kts.out (q:=⟨(w.heap.size+1),1,none⟩) (Nat.le_refl _) _)
  clear Kts
  generalize (w3.setCell ⟨(w.heap.size+1),1,none⟩ (.slice ax ts.length cx))=w4 at G4 KtsG4 ⊢
  clear y1 z1 G3
  refine (pmust_any sArrow (by decide) G4.out.rd).mono ?_
  intro e' w5 hO
  rcases hO with ⟨u,p5,x5,m5,rfl,rfl,r5,k5⟩ | ⟨y,c',a',m5,rfl,hc',k5⟩
  rotate_left
  · exact ⟨rfl,Out.bad (by rw [funcP,E1.out,PR.ok_andThen,nums1_eq,E2.out,PR.ok_andThen,E3.out,PR.ok_andThen,m5];rfl) hc' (G4.out.chg.trans k5)⟩
  have E5:Hid (mustP l e sArrow p3=.ok ((),p5)):=m5
  have G5:Hid (FB _ _ _ _ _ _ _ _ _ _ _):=G4.out.call r5 k5
  have KtsG46_:Hid (Kid _ _ _ _ _):=KtsG4.out.chg k5 (by omega)
  clear KtsG4
  clear m5 r5 k5 G4
  go_wp2_with fail
  refine (ptypesTop_any G5.out.rd).mono ?_
  intro e' w7 hO
  rcases hO with ⟨us,p7,x7,m7,rfl,⟨ay,cy,rfl,hi7⟩,r7,k7⟩ | ⟨y,c',a',m7,rfl,hc',k7⟩
  rotate_left
  · exact ⟨rfl,Out.bad (by rw [funcP,E1.out,PR.ok_andThen,nums1_eq,E2.out,PR.ok_andThen,E3.out,PR.ok_andThen,E5.out,PR.ok_andThen,m7];rfl) hc' (G5.out.chg.trans k7)⟩
  have E7:Hid (typesP l e p5=.ok (us,p7)):=m7
  have G7:Hid (FB _ _ _ _ _ _ _ _ _ _ _):=G5.out.call r7 k7
  have KtsG46_8_:Hid (Kid _ _ _ _ _):=KtsG46_.out.chg k7 (by omega)
  clear KtsG46_
  have Kus:Hid (Kid (typesL 6) (w.heap.size+1) w7 us [.slice ay us.length cy]):=Kid.mk hi7 G5.out.lt
  clear hi7
  clear m7 r7 k7 G5
  have y2:=cellOf G7.out.box 2 _ rfl
  have z2:=freeOf G7.out.box 2
  go_wp2_with fail
  have G9:Hid (FB _ (w7.setCell ⟨(w.heap.size+1),2,none⟩ (.slice ay us.length cy)) _ _ _ _ _ _ _ #[.int .i64 nr,.slice ax ts.length cx,.slice ay us.length cy,.slice none 0 0] _):=(FB.set G7.out 2 (.slice ay us.length cy))
  have KtsG46_8_G9:Hid (Kid _ _ (w7.setCell ⟨(w.heap.size+1),2,none⟩ (.slice ay us.length cy)) _ _):=(Kid.set KtsG46_8_.out (q:=⟨(w.heap.size+1),2,none⟩) (Nat.le_refl _) _)
  clear KtsG46_8_
  have KusG9:Hid (Kid _ _ (w7.setCell ⟨(w.heap.size+1),2,none⟩ (.slice ay us.length cy)) _ _):=(Kid.set Kus.out (q:=⟨(w.heap.size+1),2,none⟩) (Nat.le_refl _) _)
  clear Kus
  generalize (w7.setCell ⟨(w.heap.size+1),2,none⟩ (.slice ay us.length cy))=w9 at G9 KtsG46_8_G9 KusG9 ⊢
  clear y2 z2 G7
  refine (pmust_any [123] (by decide) G9.out.rd).mono ?_
  intro e' w10 hO
  rcases hO with ⟨u,p10,x10,m10,rfl,rfl,r10,k10⟩ | ⟨y,c',a',m10,rfl,hc',k10⟩
  rotate_left
  · exact ⟨rfl,Out.bad (by rw [funcP,E1.out,PR.ok_andThen,nums1_eq,E2.out,PR.ok_andThen,E3.out,PR.ok_andThen,E5.out,PR.ok_andThen,E7.out,PR.ok_andThen,m10];rfl) hc' (G9.out.chg.trans k10)⟩
  have E10:Hid (mustP l e [123] p7=.ok ((),p10)):=m10
  have G10:Hid (FB _ _ _ _ _ _ _ _ _ _ _):=G9.out.call r10 k10
  have KtsG46_8_G911_:Hid (Kid _ _ _ _ _):=KtsG46_8_G9.out.chg k10 (by omega)
  clear KtsG46_8_G9
  have KusG912_:Hid (Kid _ _ _ _ _):=KusG9.out.chg k10 (by omega)
  clear KusG9
  clear m10 r10 k10 G9
  go_wp2_with fail
  have P0:Hid (p10≤l.length):=G10.out.rd.le
  have L0:Hid ((w.heap.size+1)<w10.heap.size):=G10.out.lt
  have S0:Hid (Mid (typesL 6) (w.heap.size+1) w10.heap.size w10 ts [.slice ax ts.length cx]):=KtsG46_8_G911_.out.mid
  clear KtsG46_8_G911_
  have U0:Hid (Mid (typesL 6) (w.heap.size+1) w10.heap.size w10 us [.slice ay us.length cy]):=KusG912_.out.mid
  clear KusG912_
  generalize hlo:w10.heap.size=lo at S0 U0 L0
  have HLO:Hid (lo=w10.heap.size):=hlo.symm
  clear hlo
  go_loopw [20] (fun u wr=>∃ xs cs v p2 f,FB w wr b e l p2 w.heap.size (w.heap.size+1) #[.int .i64 0,.slice none 0 0,.slice none 0 0,.slice none 0 0] #[.int .i64 nr,.slice ax ts.length cx,.slice ay us.length cy,v] 42∧ARow (blockL 6) 52 wr lo v xs cs∧Mid (typesL 6) (w.heap.size+1) lo wr ts [.slice ax ts.length cx]∧Mid (typesL 6) (w.heap.size+1) lo wr us [.slice ay us.length cy]∧BlocksQ l e p10 p2 f xs∧lo≤wr.heap.size) (fun _ wr=>50000 - lenP ((wr.cell? ⟨(w.heap.size+1),3,none⟩).getD undef))
  case atStart=>exact ⟨[],[],.slice none 0 0,p10,l.length+1,G10.out,ARow.nil _ _ _ _,S0.out,U0.out,BlocksQ.start P0.out,by rw [HLO.out];exact Nat.le_refl _⟩
  case round =>
    obtain ⟨xs,cs,v,p2,f,hF,hA,hS,hU,hQ,hl⟩:=hrel
    obtain ⟨a,c,rfl⟩:=hA.formP
    have F2:Hid (FB w wr b e l p2 w.heap.size (w.heap.size+1) #[.int .i64 0,.slice none 0 0,.slice none 0 0,.slice none 0 0] #[.int .i64 nr,.slice ax ts.length cx,.slice ay us.length cy,(.slice a xs.length c)] 42):=hF
    have A2:Hid (ARow (blockL 6) 52 wr lo (.slice a xs.length c) xs cs):=hA
    have S2:Hid (Mid (typesL 6) (w.heap.size+1) lo wr ts [.slice ax ts.length cx]):=hS
    have U2:Hid (Mid (typesL 6) (w.heap.size+1) lo wr us [.slice ay us.length cy]):=hU
    have Q2:Hid (BlocksQ l e p10 p2 f xs):=hQ
    have LO2:Hid (lo≤wr.heap.size):=hl
    have hmeas:Hid (lenP ((wr.cell? ⟨(w.heap.size+1),3,none⟩).getD undef)=xs.length):=by show _=_;rw [cellOf hF.box 3 _ rfl];rfl
    have hcnt:xs.length≤40000:=by have h1:=hQ.cnt;have h2:=hQ.le;omega
    clear hF hA hS hU hQ hl
    clear G10 S0 U0
    go_wp2_with fail
    refine (took_any [125] (by decide) F2.out.rd).mono ?_
    intro e' w2 hO
    cases hw:isW l [125] p2 with
    | true =>
      rw [hw] at hO
      obtain ⟨rfl,r2,k2⟩:=hO
      have SB:Hid (blocksP l e (l.length+1) p10=.ok (xs,p2+1)):=Q2.out.stop hw
      have F3:Hid (FB w w2 b e l (p2+1) w.heap.size (w.heap.size+1) #[.int .i64 0,.slice none 0 0,.slice none 0 0,.slice none 0 0] #[.int .i64 nr,.slice ax ts.length cx,.slice ay us.length cy,(.slice a xs.length c)] 42):=F2.out.call r2 k2
      have Kxs:Hid (Kid (blockL 6).list (w.heap.size+1) w2 xs [.slice a xs.length c]):=(A2.out.chgP k2 (by have:=L0.out;omega)).kidP L0.out
      have Kts:Hid (Kid (typesL 6) (w.heap.size+1) w2 ts [.slice ax ts.length cx]):=(S2.out.chg k2 (by omega)).kid
      have Kus:Hid (Kid (typesL 6) (w.heap.size+1) w2 us [.slice ay us.length cy]):=(U2.out.chg k2 (by omega)).kid
      clear hw r2 k2 F2 A2 S2 U2 Q2 hmeas LO2 HLO
      obtain ⟨y0,y1,y2,y3⟩:=cells4 F3.out.box
      obtain ⟨u0,u1,u2,u3⟩:=cells4 F3.out.res
      obtain ⟨v0,v1,v2,v3⟩:=frees4 F3.out.res
      have hne:¬ (w.heap.size+1)=w.heap.size:=by omega
      go_wp2
      have DD:Hid (FinD _ _ _ _ _ _ _ #[.int .i64 nr,.slice ax ts.length cx,.slice ay us.length cy,.slice a xs.length c] ((((w2.setCell ⟨w.heap.size,0,none⟩ (.int .i64 nr)).setCell ⟨w.heap.size,1,none⟩ (.slice ax ts.length cx)).setCell ⟨w.heap.size,2,none⟩ (.slice ay us.length cy)).setCell ⟨w.heap.size,3,none⟩ (.slice a xs.length c))):=FB.fin F3.out [.int .i64 nr,.slice ax ts.length cx,.slice ay us.length cy,.slice a xs.length c] rfl
      have DKts:Hid (Kid _ _ ((((w2.setCell ⟨w.heap.size,0,none⟩ (.int .i64 nr)).setCell ⟨w.heap.size,1,none⟩ (.slice ax ts.length cx)).setCell ⟨w.heap.size,2,none⟩ (.slice ay us.length cy)).setCell ⟨w.heap.size,3,none⟩ (.slice a xs.length c)) _ _):=Kid.sets Kts.out (by omega) [.int .i64 nr,.slice ax ts.length cx,.slice ay us.length cy,.slice a xs.length c] 0
      clear Kts
      have DKus:Hid (Kid _ _ ((((w2.setCell ⟨w.heap.size,0,none⟩ (.int .i64 nr)).setCell ⟨w.heap.size,1,none⟩ (.slice ax ts.length cx)).setCell ⟨w.heap.size,2,none⟩ (.slice ay us.length cy)).setCell ⟨w.heap.size,3,none⟩ (.slice a xs.length c)) _ _):=Kid.sets Kus.out (by omega) [.int .i64 nr,.slice ax ts.length cx,.slice ay us.length cy,.slice a xs.length c] 0
      clear Kus
      have DKxs:Hid (Kid _ _ ((((w2.setCell ⟨w.heap.size,0,none⟩ (.int .i64 nr)).setCell ⟨w.heap.size,1,none⟩ (.slice ax ts.length cx)).setCell ⟨w.heap.size,2,none⟩ (.slice ay us.length cy)).setCell ⟨w.heap.size,3,none⟩ (.slice a xs.length c)) _ _):=Kid.sets Kxs.out (by omega) [.int .i64 nr,.slice ax ts.length cx,.slice ay us.length cy,.slice a xs.length c] 0
      clear Kxs
      clear y0 u0 v0 y1 u1 v1 y2 u2 v2 y3 u3 v3
      generalize ((((w2.setCell ⟨w.heap.size,0,none⟩ (.int .i64 nr)).setCell ⟨w.heap.size,1,none⟩ (.slice ax ts.length cx)).setCell ⟨w.heap.size,2,none⟩ (.slice ay us.length cy)).setCell ⟨w.heap.size,3,none⟩ (.slice a xs.length c))=w9 at DD DKts DKus DKxs ⊢
      obtain ⟨D1,D2,D3⟩:=DD.out
      obtain ⟨x0,x1,x2,x3⟩:=cells4 D1
      exact bodyPost_ret (v:=.agg #[.int .i64 nr,.slice ax ts.length cx,.slice ay us.length cy,.slice a xs.length c]) (by simp [results,Tryz.results103,go_sem,x0,x1,x2,x3]) rfl (Out.good (by rw [funcP,E1.out,PR.ok_andThen,nums1_eq,E2.out,PR.ok_andThen,E3.out,PR.ok_andThen,E5.out,PR.ok_andThen,E7.out,PR.ok_andThen,E10.out,PR.ok_andThen,SB.out,PR.ok_andThen];rfl) (⟨ax,cx,ay,cy,a,c,rfl,func_mk (x:=⟨nr,ts,us,xs⟩) (Kid.out DKts.out (by omega)) (Kid.out DKus.out (by omega)) (Kid.out DKxs.out (by omega)) (i64_of Bnr.out)⟩) D2 D3)
    | false =>
      rw [hw] at hO
      obtain ⟨rfl,r2,k2⟩:=hO
      have HW:Hid (isW l [125] p2=false):=hw
      have F3:Hid (FB w w2 b e l p2 w.heap.size (w.heap.size+1) #[.int .i64 0,.slice none 0 0,.slice none 0 0,.slice none 0 0] #[.int .i64 nr,.slice ax ts.length cx,.slice ay us.length cy,(.slice a xs.length c)] 42):=F2.out.call r2 k2
      have A3:Hid (ARow (blockL 6) 52 w2 lo (.slice a xs.length c) xs cs):=A2.out.chgP k2 (by have:=L0.out;omega)
      have S3:Hid (Mid (typesL 6) (w.heap.size+1) lo w2 ts [.slice ax ts.length cx]):=S2.out.chg k2 (by omega)
      have U3:Hid (Mid (typesL 6) (w.heap.size+1) lo w2 us [.slice ay us.length cy]):=U2.out.chg k2 (by omega)
      have LO3:Hid (lo≤w2.heap.size):=Nat.le_trans LO2.out k2.size
      clear hw r2 k2 F2 A2 S2 U2 LO2
      go_wp2_with fail
      have y2:=cellOf F3.out.box 3 _ rfl
      have hBl:=F3.out.lt
      have F3d:Hid (FB w w2.drew b e l p2 w.heap.size (w.heap.size+1) #[.int .i64 0,.slice none 0 0,.slice none 0 0,.slice none 0 0] #[.int .i64 nr,.slice ax ts.length cx,.slice ay us.length cy,(.slice a xs.length c)] 42):=F3.out.drew
      have A3d:Hid (ARow (blockL 6) 52 w2.drew lo (.slice a xs.length c) xs cs):=A3.out.below (below_drew _)
      have S3d:Hid (Mid (typesL 6) (w.heap.size+1) lo w2.drew ts [.slice ax ts.length cx]):=S3.out.below (below_drew _)
      have U3d:Hid (Mid (typesL 6) (w.heap.size+1) lo w2.drew us [.slice ay us.length cy]):=U3.out.below (below_drew _)
      clear F3 A3 S3 U3
      go_region_law (first
        | (refine step_call_fn rfl 133 (.tmp 25) 101 rfl enters_block (ptrP b) (by simp [Act.eval,Act.put]) (pblock_any F3d.out.rd) ?_
           intro e' w4 hO
           rcases hO with ⟨x,p4,x4,m4,rfl,⟨q0,n0,q1,n1,q2,n2,q3,n3,q4,n4,q5,n5,q6,n6,rfl,hi4⟩,r4,k4⟩ | ⟨y,c',a',m4,rfl,hc',k4⟩
           rotate_left
           · obtain ⟨y',hy⟩:=Q2.out.bad HW.out m4
             exact ⟨rfl,Out.bad (by rw [funcP,E1.out,PR.ok_andThen,nums1_eq,E2.out,PR.ok_andThen,E3.out,PR.ok_andThen,E5.out,PR.ok_andThen,E7.out,PR.ok_andThen,E10.out,PR.ok_andThen,hy];rfl) hc' (F3d.out.chg.trans k4)⟩
           have M4:Hid (bP l e p2=.ok (x,p4)):=m4
           have F4:Hid (FB w w4 b e l p4 w.heap.size (w.heap.size+1) #[.int .i64 0,.slice none 0 0,.slice none 0 0,.slice none 0 0] #[.int .i64 nr,.slice ax ts.length cx,.slice ay us.length cy,(.slice a xs.length c)] 42):=F3d.out.call r4 k4
           have A4:Hid (ARow (blockL 6) 52 w4 lo (.slice a xs.length c) xs cs):=A3d.out.chgP k4 (by have:=L0.out;omega)
           have S4:Hid (Mid (typesL 6) (w.heap.size+1) lo w4 ts [.slice ax ts.length cx]):=S3d.out.chg k4 (by omega)
           have U4:Hid (Mid (typesL 6) (w.heap.size+1) lo w4 us [.slice ay us.length cy]):=U3d.out.chg k4 (by omega)
           have y4:=cellOf F4.out.box 3 _ rfl
           have hB4:=F4.out.lt
           have hown:Hid (w4.ownsRow lo 52 12 (.slice a xs.length c) xs.length cs):=A4.out.own
           have hlo4:Hid (lo≤w4.heap.size):=Nat.le_trans LO3.out k4.size
           have I4:Hid ((blockL 6).In w4 (fun g=>w2.heap.size≤g) x [.int .i64 x.regs,.slice q0 x.params.length n0,.slice q1 x.code.length n1,.int .i64 x.fin.op,.int .i64 x.fin.a,.int .i64 x.fin.yes.block,.slice q2 x.fin.yes.regs.length n2,.slice q3 x.fin.yes.args.length n3,.int .i64 x.fin.no.block,.slice q4 x.fin.no.regs.length n4,.slice q5 x.fin.no.args.length n5,.slice q6 x.fin.args.length n6]):=hi4
           have LE4:Hid (p4≤l.length):=r4.le
           clear m4 r4 k4 hi4
           dsimp only [Upon])
        | (refine step_append_lies _ rfl (.tmp 24) (.tmp 27) 40 rfl lo 52 i0 (.agg #[.int .i64 0,.slice none 0 0,.slice none 0 0,.int .i64 0,.int .i64 0,.int .i64 0,.slice none 0 0,.slice none 0 0,.int .i64 0,.slice none 0 0,.slice none 0 0,.slice none 0 0]) 12 208 pUnderB hi hz0 hz1 hz2 rfl (by decide) (.slice a xs.length c) xs.length cs (by simp [Act.eval,Act.put]) (hown.out.alloc _) ⟨w4.heap.size,0,none⟩ 1 1 [.int .i64 x.regs,.slice q0 x.params.length n0,.slice q1 x.code.length n1,.int .i64 x.fin.op,.int .i64 x.fin.a,.int .i64 x.fin.yes.block,.slice q2 x.fin.yes.regs.length n2,.slice q3 x.fin.yes.args.length n3,.int .i64 x.fin.no.block,.slice q4 x.fin.no.regs.length n4,.slice q5 x.fin.no.args.length n5,.slice q6 x.fin.args.length n6] (by simp [Act.eval,Act.put]) rfl (newsP _ [_,_,_,_,_,_,_,_,_,_,_,_] _) (pOne12 _ _ _ _ _ _ _ _ _ _ _ _ _ _ _ _ _ _ _ _ _ _ _ _ _ _) (by decide) (by unfold maxLen;omega) (by omega) (by have:=hlo4.out;simp;omega) (w4.heap.size+1) (by simp) ?_
           intro g2 cap2 w9 h1 hgrow hat hlt1
           have I5:(blockL 6).In (w4.alloc (.cells #[.int .i64 x.regs,.slice q0 x.params.length n0,.slice q1 x.code.length n1,.int .i64 x.fin.op,.int .i64 x.fin.a,.int .i64 x.fin.yes.block,.slice q2 x.fin.yes.regs.length n2,.slice q3 x.fin.yes.args.length n3,.int .i64 x.fin.no.block,.slice q4 x.fin.no.regs.length n4,.slice q5 x.fin.no.args.length n5,.slice q6 x.fin.args.length n6] 52)) (fun g=>lo≤g∧(Value.slice a xs.length c).ownBlock≠some g) x [.int .i64 x.regs,.slice q0 x.params.length n0,.slice q1 x.code.length n1,.int .i64 x.fin.op,.int .i64 x.fin.a,.int .i64 x.fin.yes.block,.slice q2 x.fin.yes.regs.length n2,.slice q3 x.fin.yes.args.length n3,.int .i64 x.fin.no.block,.slice q4 x.fin.no.regs.length n4,.slice q5 x.fin.no.args.length n5,.slice q6 x.fin.args.length n6] :=
             Lay.alloc (Lay.mono I4.out (fun k hk _=>⟨Nat.le_trans LO3.out hk,fun e=>by have:k<w2.heap.size:=(A3d.out.lo_le e).2;omega⟩)) _
           have A5:=A4.out.below (bel1 w4 (.cells #[.int .i64 x.regs,.slice q0 x.params.length n0,.slice q1 x.code.length n1,.int .i64 x.fin.op,.int .i64 x.fin.a,.int .i64 x.fin.yes.block,.slice q2 x.fin.yes.regs.length n2,.slice q3 x.fin.yes.args.length n3,.int .i64 x.fin.no.block,.slice q4 x.fin.no.regs.length n4,.slice q5 x.fin.no.args.length n5,.slice q6 x.fin.args.length n6] 52))
           have F9:Hid (FB w w9 b e l p4 w.heap.size (w.heap.size+1) #[.int .i64 0,.slice none 0 0,.slice none 0 0,.slice none 0 0] #[.int .i64 nr,.slice ax ts.length cx,.slice ay us.length cy,(.slice a xs.length c)] 42):=(F4.out.alloc _).grown hgrow (fun k hk=>by have:=(A5.lo_le hk).1;have:=L0.out;omega)
           have A9:Hid (ARow (blockL 6) 52 w9 lo (.slice (some ⟨g2,0,none⟩) (xs.length+1) cap2) (xs++[x]) (cs++[.int .i64 x.regs,.slice q0 x.params.length n0,.slice q1 x.code.length n1,.int .i64 x.fin.op,.int .i64 x.fin.a,.int .i64 x.fin.yes.block,.slice q2 x.fin.yes.regs.length n2,.slice q3 x.fin.yes.args.length n3,.int .i64 x.fin.no.block,.slice q4 x.fin.no.regs.length n4,.slice q5 x.fin.no.args.length n5,.slice q6 x.fin.args.length n6])):=ARow.push A5 I5 hgrow (by simpa using hat) h1
           have S9:Hid (Mid (typesL 6) (w.heap.size+1) lo w9 ts [.slice ax ts.length cx]):=(S4.out.below (bel1 _ _)).grown hgrow (fun k hk=>(A5.lo_le hk).1)
           have U9:Hid (Mid (typesL 6) (w.heap.size+1) lo w9 us [.slice ay us.length cy]):=(U4.out.below (bel1 _ _)).grown hgrow (fun k hk=>(A5.lo_le hk).1)
           have LO9:Hid (lo≤w9.heap.size):=by have h8:=hgrow.size;have h7:=hlo4.out;have h6:=(bel1 w4 (.cells #[.int .i64 x.regs,.slice q0 x.params.length n0,.slice q1 x.code.length n1,.int .i64 x.fin.op,.int .i64 x.fin.a,.int .i64 x.fin.yes.block,.slice q2 x.fin.yes.regs.length n2,.slice q3 x.fin.yes.args.length n3,.int .i64 x.fin.no.block,.slice q4 x.fin.no.regs.length n4,.slice q5 x.fin.no.args.length n5,.slice q6 x.fin.args.length n6] 52)).size;exact Nat.le_trans h7 (Nat.le_trans h6 h8)
           have y9:=cellOf F9.out.box 3 _ rfl
           have z9:=freeOf F9.out.box 3
           clear h1 hgrow hat hlt1 I5 A5))
      all_goals
        have F10:Hid (FB w (w9.setCell ⟨(w.heap.size+1),3,none⟩ (.slice (some ⟨g2,0,none⟩) (xs.length+1) cap2)) b e l p4 w.heap.size (w.heap.size+1) #[.int .i64 0,.slice none 0 0,.slice none 0 0,.slice none 0 0] #[.int .i64 nr,.slice ax ts.length cx,.slice ay us.length cy,(.slice (some ⟨g2,0,none⟩) (xs.length+1) cap2)] 42):=FB.set F9.out 3 (.slice (some ⟨g2,0,none⟩) (xs.length+1) cap2)
        have A10:Hid (ARow (blockL 6) 52 (w9.setCell ⟨(w.heap.size+1),3,none⟩ (.slice (some ⟨g2,0,none⟩) (xs.length+1) cap2)) lo (.slice (some ⟨g2,0,none⟩) (xs.length+1) cap2) (xs++[x]) (cs++[.int .i64 x.regs,.slice q0 x.params.length n0,.slice q1 x.code.length n1,.int .i64 x.fin.op,.int .i64 x.fin.a,.int .i64 x.fin.yes.block,.slice q2 x.fin.yes.regs.length n2,.slice q3 x.fin.yes.args.length n3,.int .i64 x.fin.no.block,.slice q4 x.fin.no.regs.length n4,.slice q5 x.fin.no.args.length n5,.slice q6 x.fin.args.length n6])):=ARow.setOther A9.out L0.out _
        have S10:Hid (Mid (typesL 6) (w.heap.size+1) lo (w9.setCell ⟨(w.heap.size+1),3,none⟩ (.slice (some ⟨g2,0,none⟩) (xs.length+1) cap2)) ts [.slice ax ts.length cx]):=Mid.set S9.out (Nat.le_refl _) _
        have U10:Hid (Mid (typesL 6) (w.heap.size+1) lo (w9.setCell ⟨(w.heap.size+1),3,none⟩ (.slice (some ⟨g2,0,none⟩) (xs.length+1) cap2)) us [.slice ay us.length cy]):=Mid.set U9.out (Nat.le_refl _) _
        have LO10:Hid (lo≤(w9.setCell ⟨(w.heap.size+1),3,none⟩ (.slice (some ⟨g2,0,none⟩) (xs.length+1) cap2)).heap.size):=by show _≤_;have:=LO9.out;simpa using this
        have Q10:Hid (BlocksQ l e p10 p4 (f - 1) (xs++[x])):=Q2.out.go M4.out LE4.out
        have hm10:Hid (lenP (((w9.setCell ⟨(w.heap.size+1),3,none⟩ (.slice (some ⟨g2,0,none⟩) (xs.length+1) cap2)).cell? ⟨(w.heap.size+1),3,none⟩).getD undef)=xs.length+1):=by show _=_;rw [cellOf F10.out.box 3 _ rfl];rfl
        clear F9 A9 S9 S4 U9 U4 LO9 y9 z9 y4 hB4 hown hlo4 I4 F4 A4
        generalize (w9.setCell ⟨(w.heap.size+1),3,none⟩ (.slice (some ⟨g2,0,none⟩) (xs.length+1) cap2))=w10 at F10 A10 S10 U10 LO10 hm10 ⊢
        go_wp2
        go_roundw
        case rel=>exact ⟨xs++[x],_,_,p4,f - 1,F10.out,A10.out,S10.out,U10.out,Q10.out,LO10.out⟩
        case measure=>rw [hm10.out,hmeas.out];omega
def VMod (w0 : World) : World → List (MFunc 6) → Value → Prop := fun w' m v => ∃ a c, v = .agg #[.slice a m.length c] ∧ (modL 6).In w' (fun g => w0.heap.size ≤ g) m [.slice a m.length c]
theorem pOne4 (o1 : Int) (a0 a1 a2 : Option Addr) (l0 c0 l1 c1 l2 c2 : Nat) : ∀ u ∈ [Value.int .i64 o1, .slice a0 l0 c0, .slice a1 l1 c1, .slice a2 l2 c2], u.oneCell' = true := by
  intro u h
  simp at h
  rcases h with rfl | rfl | rfl | rfl <;> rfl
theorem pmodule_any {w : World} {b e : Nat} {l : List Tk} (h : PAt w b l e 0) :
    Calls Tryz.prog 53 #[ptrP b] w fun en w'=>Out b e l (funcsP l e (l.length+1) 0) w (VMod w) en w':=by
  have hbw:=h.lt
  have hlen:=h.len
  have F0:Hid (FB w ((w.alloc (.cells #[.slice none 0 0] 25)).alloc (.cells #[.slice none 0 0] 25)) b e l 0 w.heap.size (w.heap.size+1) #[.slice none 0 0] #[.slice none 0 0] 25):=FB.start h
  obtain ⟨i0,hi,hz0,hz1,hz2⟩:=pInfoF
  clear h
  go_enter Tryz.func53,Tryz.ntmps53
  go_wp2_with fail
  have L0:Hid ((w.heap.size+1)<((w.alloc (.cells #[.slice none 0 0] 25)).alloc (.cells #[.slice none 0 0] 25)).heap.size):=F0.out.lt
  generalize (w.alloc (.cells #[.slice none 0 0] 25)).alloc (.cells #[.slice none 0 0] 25)=w0 at F0 L0 ⊢
  generalize hlo:w0.heap.size=lo at L0
  have HLO:Hid (lo=w0.heap.size):=hlo.symm
  clear hlo
  go_loopw [4] (fun u wr=>∃ xs cs v p2 f,FB w wr b e l p2 w.heap.size (w.heap.size+1) #[.slice none 0 0] #[v] 25∧ARow (funcL 6) 42 wr lo v xs cs∧FuncsQ l e p2 f xs∧lo≤wr.heap.size) (fun _ wr=>50000 - lenP ((wr.cell? ⟨(w.heap.size+1),0,none⟩).getD undef))
  case atStart=>exact ⟨[],[],.slice none 0 0,0,l.length+1,F0.out,ARow.nil _ _ _ _,FuncsQ.start,by rw [HLO.out];exact Nat.le_refl _⟩
  case round =>
    obtain ⟨xs,cs,v,p2,f,hF,hA,hQ,hl⟩:=hrel
    obtain ⟨a,c,rfl⟩:=hA.formP
    have F2:Hid (FB w wr b e l p2 w.heap.size (w.heap.size+1) #[.slice none 0 0] #[(.slice a xs.length c)] 25):=hF
    have A2:Hid (ARow (funcL 6) 42 wr lo (.slice a xs.length c) xs cs):=hA
    have Q2:Hid (FuncsQ l e p2 f xs):=hQ
    have LO2:Hid (lo≤wr.heap.size):=hl
    have hmeas:Hid (lenP ((wr.cell? ⟨(w.heap.size+1),0,none⟩).getD undef)=xs.length):=by show _=_;rw [cellOf hF.box 0 _ rfl];rfl
    have hcnt:xs.length≤40000:=by have h1:=hQ.cnt;have h2:=hQ.le;omega
    clear hF hA hQ hl F0
    by_cases hlt:p2<l.length
    · have hx:l[p2]?=some l[p2]:=List.getElem?_eq_getElem hlt
      generalize l[p2]=tk at hx
      obtain ⟨gg,oo,nn,cc,h1,hn,hc,hn4,hgg,-,-,-,-⟩:=F2.out.rd.tok hx
      have t0:=cellOf h1 0 _ rfl
      have hpos:(0:Int)<(nn:Int)+1:=by omega
      have HLT:Hid (p2<l.length):=hlt
      have F3:=F2
      have A3:=A2
      have LO3:=LO2
      clear F2 A2 LO2
      clear h1 hn hc hx hgg hlt
      go_wp2_with fail
      have y2:=cellOf F3.out.box 0 _ rfl
      have hBl:=F3.out.lt
      have F3d:Hid (FB w wr.drew b e l p2 w.heap.size (w.heap.size+1) #[.slice none 0 0] #[(.slice a xs.length c)] 25):=F3.out.drew
      have A3d:Hid (ARow (funcL 6) 42 wr.drew lo (.slice a xs.length c) xs cs):=A3.out.below (below_drew _)
      clear F3 A3
      go_region_law (first
        | (refine step_call_fn rfl 103 (.tmp 12) 101 rfl enters_function (ptrP b) (by simp [Act.eval,Act.put]) (pfunction_any F3d.out.rd) ?_
           intro e' w4 hO
           rcases hO with ⟨x,p4,x4,m4,rfl,⟨q1,n1,q2,n2,q3,n3,rfl,hi4⟩,r4,k4⟩ | ⟨y,c',a',m4,rfl,hc',k4⟩
           rotate_left
           · exact ⟨rfl,Out.bad (Q2.out.bad HLT.out m4) hc' (F3d.out.chg.trans k4)⟩
           have M4:Hid (funcP l e p2=.ok (x,p4)):=m4
           have F4:Hid (FB w w4 b e l p4 w.heap.size (w.heap.size+1) #[.slice none 0 0] #[(.slice a xs.length c)] 25):=F3d.out.call r4 k4
           have A4:Hid (ARow (funcL 6) 42 w4 lo (.slice a xs.length c) xs cs):=A3d.out.chgP k4 (by have:=L0.out;omega)
           have y4:=cellOf F4.out.box 0 _ rfl
           have hB4:=F4.out.lt
           have hown:Hid (w4.ownsRow lo 42 4 (.slice a xs.length c) xs.length cs):=A4.out.own
           have hlo4:Hid (lo≤w4.heap.size):=Nat.le_trans LO3.out k4.size
           have I4:Hid ((funcL 6).In w4 (fun g=>wr.heap.size≤g) x [.int .i64 x.regs,.slice q1 x.params.length n1,.slice q2 x.results.length n2,.slice q3 x.blocks.length n3]):=hi4
           have LE4:Hid (p4≤l.length):=r4.le
           clear m4 r4 k4 hi4
           dsimp only [Upon])
        | (refine step_append_lies _ rfl (.tmp 11) (.tmp 14) 23 rfl lo 42 i0 (.agg #[.int .i64 0,.slice none 0 0,.slice none 0 0,.slice none 0 0]) 4 80 pUnderF hi hz0 hz1 hz2 rfl (by decide) (.slice a xs.length c) xs.length cs (by simp [Act.eval,Act.put]) (hown.out.alloc _) ⟨w4.heap.size,0,none⟩ 1 1 [.int .i64 x.regs,.slice q1 x.params.length n1,.slice q2 x.results.length n2,.slice q3 x.blocks.length n3] (by simp [Act.eval,Act.put]) rfl (newsP _ [_,_,_,_] _) (pOne4 _ _ _ _ _ _ _ _ _ _) (by decide) (by unfold maxLen;omega) (by omega) (by have:=hlo4.out;simp;omega) (w4.heap.size+1) (by simp) ?_
           intro g2 cap2 w9 h1 hgrow hat hlt1
           have I5:(funcL 6).In (w4.alloc (.cells #[.int .i64 x.regs,.slice q1 x.params.length n1,.slice q2 x.results.length n2,.slice q3 x.blocks.length n3] 42)) (fun g=>lo≤g∧(Value.slice a xs.length c).ownBlock≠some g) x [.int .i64 x.regs,.slice q1 x.params.length n1,.slice q2 x.results.length n2,.slice q3 x.blocks.length n3] :=
             Lay.alloc (Lay.mono I4.out (fun k hk _=>⟨Nat.le_trans LO3.out hk,fun e=>by have:k<wr.heap.size:=(A3d.out.lo_le e).2;omega⟩)) _
           have A5:=A4.out.below (bel1 w4 (.cells #[.int .i64 x.regs,.slice q1 x.params.length n1,.slice q2 x.results.length n2,.slice q3 x.blocks.length n3] 42))
           have F9:Hid (FB w w9 b e l p4 w.heap.size (w.heap.size+1) #[.slice none 0 0] #[(.slice a xs.length c)] 25):=(F4.out.alloc _).grown hgrow (fun k hk=>by have:=(A5.lo_le hk).1;have:=L0.out;omega)
           have A9:Hid (ARow (funcL 6) 42 w9 lo (.slice (some ⟨g2,0,none⟩) (xs.length+1) cap2) (xs++[x]) (cs++[.int .i64 x.regs,.slice q1 x.params.length n1,.slice q2 x.results.length n2,.slice q3 x.blocks.length n3])):=ARow.push A5 I5 hgrow (by simpa using hat) h1
           have LO9:Hid (lo≤w9.heap.size):=by have h8:=hgrow.size;have h7:=hlo4.out;have h6:=(bel1 w4 (.cells #[.int .i64 x.regs,.slice q1 x.params.length n1,.slice q2 x.results.length n2,.slice q3 x.blocks.length n3] 42)).size;exact Nat.le_trans h7 (Nat.le_trans h6 h8)
           have y9:=cellOf F9.out.box 0 _ rfl
           have z9:=freeOf F9.out.box 0
           clear h1 hgrow hat hlt1 I5 A5))
      all_goals
        have F10:Hid (FB w (w9.setCell ⟨(w.heap.size+1),0,none⟩ (.slice (some ⟨g2,0,none⟩) (xs.length+1) cap2)) b e l p4 w.heap.size (w.heap.size+1) #[.slice none 0 0] #[(.slice (some ⟨g2,0,none⟩) (xs.length+1) cap2)] 25):=FB.set F9.out 0 (.slice (some ⟨g2,0,none⟩) (xs.length+1) cap2)
        have A10:Hid (ARow (funcL 6) 42 (w9.setCell ⟨(w.heap.size+1),0,none⟩ (.slice (some ⟨g2,0,none⟩) (xs.length+1) cap2)) lo (.slice (some ⟨g2,0,none⟩) (xs.length+1) cap2) (xs++[x]) (cs++[.int .i64 x.regs,.slice q1 x.params.length n1,.slice q2 x.results.length n2,.slice q3 x.blocks.length n3])):=ARow.setOther A9.out L0.out _
        have LO10:Hid (lo≤(w9.setCell ⟨(w.heap.size+1),0,none⟩ (.slice (some ⟨g2,0,none⟩) (xs.length+1) cap2)).heap.size):=by show _≤_;have:=LO9.out;simpa using this
        have Q10:Hid (FuncsQ l e p4 (f - 1) (xs++[x])):=Q2.out.go HLT.out M4.out LE4.out
        have hm10:Hid (lenP (((w9.setCell ⟨(w.heap.size+1),0,none⟩ (.slice (some ⟨g2,0,none⟩) (xs.length+1) cap2)).cell? ⟨(w.heap.size+1),0,none⟩).getD undef)=xs.length+1):=by show _=_;rw [cellOf F10.out.box 0 _ rfl];rfl
        clear F9 A9  LO9 y9 z9 y4 hB4 hown hlo4 I4 F4 A4
        generalize (w9.setCell ⟨(w.heap.size+1),0,none⟩ (.slice (some ⟨g2,0,none⟩) (xs.length+1) cap2))=w10 at F10 A10  LO10 hm10 ⊢
        go_wp2
        go_roundw
        case rel=>exact ⟨xs++[x],_,_,p4,f - 1,F10.out,A10.out,Q10.out,LO10.out⟩
        case measure=>rw [hm10.out,hmeas.out];omega
    · obtain ⟨aa,cc,h1⟩:=F2.out.rd.none_left hlt
      have t0:=cellOf h1 0 _ rfl
      have SF:Hid (funcsP l e (l.length+1) 0=.ok (xs,p2)):=Q2.out.stop hlt
      have Kxs:Hid (Kid (funcL 6).list (w.heap.size+1) wr xs [.slice a xs.length c]):=A2.out.kidP L0.out
      have F3:=F2
      clear F2
      clear h1 hlt Q2 A2 hmeas LO2 HLO
      have y0:=cellOf F3.out.box 0 _ rfl
      have u0:=cellOf F3.out.res 0 _ rfl
      have v0:=freeOf F3.out.res 0
      have hne:¬ (w.heap.size+1)=w.heap.size:=by omega
      go_wp2
      have DD:Hid (FinD _ _ _ _ _ _ _ #[.slice a xs.length c] (wr.setCell ⟨w.heap.size,0,none⟩ (.slice a xs.length c))):=FB.fin F3.out [.slice a xs.length c] rfl
      have DKxs:Hid (Kid _ _ (wr.setCell ⟨w.heap.size,0,none⟩ (.slice a xs.length c)) _ _):=Kid.sets Kxs.out (by omega) [.slice a xs.length c] 0
      clear Kxs
      clear y0 u0 v0
      generalize (wr.setCell ⟨w.heap.size,0,none⟩ (.slice a xs.length c))=w9 at DD DKxs ⊢
      obtain ⟨D1,D2,D3⟩:=DD.out
      have x0:=cellOf D1 0 _ rfl
      exact bodyPost_ret (v:=.agg #[.slice a xs.length c]) (by simp [results,Tryz.results53,go_sem,x0]) rfl (Out.good (SF.out) (⟨a,c,rfl,Kid.out DKxs.out (by omega)⟩) D2 D3)
def CatchOut (M Fb : Nat) (c a : Int) (w w' : World) : Prop := Blk w' M #[.slice none 0 0] 25 ∧ Blk w' Fb #[.int .i64 c, .int .i64 a] 27 ∧ Step (fun k => k = M ∨ k = Fb) (fun k => k = M ∨ k = Fb) w w'
theorem catch_panicking {w : World} {M Fb : Nat} (c a : Int) (hM : Blk w M #[.slice none 0 0] 25) (hF : Blk w Fb #[.int .i64 0, .int .i64 0] 27) (hne : M ≠ Fb) :
    CallsD Tryz.prog 52 #[ptrP M,ptrP Fb] (.panicking (gave c a)) w fun e u' w' =>
      e=.returned (.tuple #[])∧u'=.panicking [{ v:=.iface 99 (.agg #[.int .i64 c,.int .i64 a]),recovered:=true }]∧CatchOut M Fb c a w w':=by
  have hMl:=hM.lt
  have hFl:=hF.lt
  have yM:=cellOf hM 0 _ rfl
  have zM:=freeOf hM 0
  have yF0:=cellOf hF 0 _ rfl
  have zF0:=freeOf hF 0
  have yF1:=cellOf hF 1 _ rfl
  have zF1:=freeOf hF 1
  refine callsD_of_wpS Tryz.func52 rfl fun c₀ cs hu=>?_
  apply wpS_seq
  apply wpS_region
  simp [wpOpsS,go_sem,recoverD,hu,Tryz.ntmps52,Exit.thenS]
  rw [show (#[ptrP M,ptrP Fb]++((Array.replicate 16 undef).setIfInBounds 3 (Value.iface 99 (.agg #[.int .i64 c,.int .i64 a]))).setIfInBounds 0 (Value.iface 99 (.agg #[.int .i64 c,.int .i64 a])):Array Value)=#[ptrP M,ptrP Fb,Value.iface 99 (.agg #[.int .i64 c,.int .i64 a]),undef,undef,Value.iface 99 (.agg #[.int .i64 c,.int .i64 a]),undef,undef,undef,undef,undef,undef,undef,undef,undef,undef,undef,undef] from rfl]
  refine wpS_of_wp ?_
  have hta:∀ w:World,(Instr.typeAssert (.iface 99 (.agg #[.int .i64 c,.int .i64 a])) 20 99 true).run Tryz.prog w=.ok (.tuple #[.agg #[.int .i64 c,.int .i64 a],.bool true]) w:=fun _=>by kernel_rfl
  have hM2:Hid (Blk (w.alloc (.cells #[.int .i64 c,.int .i64 a] 99)) M #[.slice none 0 0] 25):=hM.alloc _
  have hF2:Hid (Blk (w.alloc (.cells #[.int .i64 c,.int .i64 a] 99)) Fb #[.int .i64 0,.int .i64 0] 27):=hF.alloc _
  have hX2:Hid (Blk (w.alloc (.cells #[.int .i64 c,.int .i64 a] 99)) w.heap.size #[.int .i64 c,.int .i64 a] 99):=Blk.new _ _ _
  have hS2:Hid (Step (fun k=>k=M∨k=Fb) (fun k=>k=M∨k=Fb) w (w.alloc (.cells #[.int .i64 c,.int .i64 a] 99))):=(Step.refl _ w).alloc _
  clear hM hF
  go_wp2_with fail
  clear yM zM yF0 zF0 yF1 zF1
  generalize w.alloc (.cells #[.int .i64 c,.int .i64 a] 99)=w2 at hM2 hF2 hX2 hS2 ⊢
  have yM:=cellOf hM2.out 0 _ rfl
  have zM:=freeOf hM2.out 0
  have yF0:=cellOf hF2.out 0 _ rfl
  have zF0:=freeOf hF2.out 0
  have yF1:=cellOf hF2.out 1 _ rfl
  have zF1:=freeOf hF2.out 1
  have x0:=cellOf hX2.out 0 _ rfl
  have x1:=cellOf hX2.out 1 _ rfl
  have n1:¬ w.heap.size=M:=by omega
  have n2:¬ w.heap.size=Fb:=by omega
  have n3:¬ M=Fb:=hne
  have n4:¬ Fb=M:=fun e=>hne e.symm
  clear hta
  go_region
  have D1:=(((Blk.setOther (show Blk _ M #[.slice none 0 0] 25 by simpa using blockSet hM2.out 0 (.slice none 0 0)) (p:=⟨Fb,0,none⟩) n4 (.int .i64 c)).setOther (p:=⟨Fb,1,none⟩) n4 (.int .i64 a)))
  have D2:Blk (((w2.setCell ⟨M,0,none⟩ (.slice none 0 0)).setCell ⟨Fb,0,none⟩ (.int .i64 c)).setCell ⟨Fb,1,none⟩ (.int .i64 a)) Fb #[.int .i64 c,.int .i64 a] 27:=by
    have:=blockSet (blockSet (hF2.out.setOther (p:=⟨M,0,none⟩) n3 (.slice none 0 0)) 0 (.int .i64 c)) 1 (.int .i64 a)
    simpa using this
  have D3:Step (fun k=>k=M∨k=Fb) (fun k=>k=M∨k=Fb) w (((w2.setCell ⟨M,0,none⟩ (.slice none 0 0)).setCell ⟨Fb,0,none⟩ (.int .i64 c)).setCell ⟨Fb,1,none⟩ (.int .i64 a)).drew:=(((hS2.out.setCell (.inl rfl) _).setCell (.inr rfl) _).setCell (.inr rfl) _).drew
  have D:CatchOut M Fb c a w (((w2.setCell ⟨M,0,none⟩ (.slice none 0 0)).setCell ⟨Fb,0,none⟩ (.int .i64 c)).setCell ⟨Fb,1,none⟩ (.int .i64 a)).drew:=⟨D1,D2,D3⟩
  exact (show bodyPostS _ _ _ _ _ _ _ _ _ from ⟨rfl,_,rfl,.tuple #[],by simp [results,Tryz.results52,go_sem],rfl,rfl,D⟩)
theorem catch_idle {w : World} (M Fb : Nat) :
    CallsD Tryz.prog 52 #[ptrP M,ptrP Fb] .returning w fun e u' w'=>e=.returned (.tuple #[])∧u'=.returning∧w'=w:=by
  refine callsD_of_wpS Tryz.func52 rfl fun c₀ cs hu=>?_
  apply wpS_seq
  apply wpS_region
  simp [wpOpsS,go_sem,recoverD,hu,Tryz.ntmps52,Exit.thenS]
  rw [show (#[ptrP M,ptrP Fb]++((Array.replicate 16 undef).setIfInBounds 3 (Value.nilIface)).setIfInBounds 0 (Value.nilIface):Array Value)=#[ptrP M,ptrP Fb,Value.nilIface,undef,undef,Value.nilIface,undef,undef,undef,undef,undef,undef,undef,undef,undef,undef,undef,undef] from rfl]
  refine wpS_of_wp ?_
  go_wp2_with fail
  cases c₀
  simp_all [bodyPostS,results,Tryz.results52]
def ReadOut (r : PR (List (MFunc 6))) (w : World) (en : Ending) (w' : World) : Prop :=
  (∃ m q a c,r=.ok (m,q)∧en=.returned (.tuple #[.agg #[.slice a m.length c],.agg #[.int .i64 0,.int .i64 0]])∧(modL 6).In w' (fun g=>w.heap.size≤g) m [.slice a m.length c]∧Below w.heap.size w w') ∨
  (∃ y,∃ c a:Int,r=.error y∧en=.returned (.tuple #[.agg #[.slice none 0 0],.agg #[.int .i64 c,.int .i64 a]])∧c≠0∧Below w.heap.size w w')
theorem read_any {w : World} {l : List Tk} {e : Nat} {a : Option Addr} {c : Nat} (hl : tkL.list.In w (fun _ => True) l [.slice a l.length c]) (hc : l.length ≤ c) (hn : l.length ≤ 40000) (hf : ∀ x ∈ l, x.fine) :
    Calls Tryz.prog 23 #[.slice a l.length c,.int .i64 e] w fun en w'=>ReadOut (funcsP l e (l.length+1) 0) w en w':=by
  have hmf:∀ (fn:Fn) (first cap:Array Value) (w:World),(Instr.makeFunc fn first cap).run Tryz.prog w=.ok (.func fn first cap) w:=fun _ _ _ _=>rfl
  have P0:Hid (PAt (((w.alloc (.cells #[.slice none 0 0] 25)).alloc (.cells #[.int .i64 0,.int .i64 0] 27)).alloc (.cells #[.slice a l.length c,.int .i64 e] 103)) (w.heap.size+1+1) l e 0):=by
    refine ⟨⟨a,c,?_,?_,by simpa using hc⟩,Nat.zero_le _,hn,hf⟩
    · have:=Blk.new ((w.alloc (.cells #[.slice none 0 0] 25)).alloc (.cells #[.int .i64 0,.int .i64 0] 27)) #[.slice a l.length c,.int .i64 e] 103
      simpa using this
    · rw [List.drop_zero]
      exact Lay.alloc (Lay.alloc (Lay.alloc (Lay.mono hl (fun k _ hk=>by omega)) _) _) _
  have M0:Hid (Blk (((w.alloc (.cells #[.slice none 0 0] 25)).alloc (.cells #[.int .i64 0,.int .i64 0] 27)).alloc (.cells #[.slice a l.length c,.int .i64 e] 103)) w.heap.size #[.slice none 0 0] 25):=(Blk.new1 _ _ _ _ _).alloc _
  have F0:Hid (Blk (((w.alloc (.cells #[.slice none 0 0] 25)).alloc (.cells #[.int .i64 0,.int .i64 0] 27)).alloc (.cells #[.slice a l.length c,.int .i64 e] 103)) (w.heap.size+1) #[.int .i64 0,.int .i64 0] 27):=(Blk.new2 _ _ _ _).alloc _
  have B0:Hid (Below w.heap.size w (((w.alloc (.cells #[.slice none 0 0] 25)).alloc (.cells #[.int .i64 0,.int .i64 0] 27)).alloc (.cells #[.slice a l.length c,.int .i64 e] 103))):=(bel2 _ _ _).alloc (by simp;omega) _
  have S0:Hid (w.heap.size+1+1<(((w.alloc (.cells #[.slice none 0 0] 25)).alloc (.cells #[.int .i64 0,.int .i64 0] 27)).alloc (.cells #[.slice a l.length c,.int .i64 e] 103)).heap.size):=P0.out.lt
  clear hl hc hn hf
  go_enter_defers Tryz.func23,Tryz.ntmps23
  go_wp2_with fail
  generalize ((w.alloc (.cells #[.slice none 0 0] 25)).alloc (.cells #[.int .i64 0,.int .i64 0] 27)).alloc (.cells #[.slice a l.length c,.int .i64 e] 103)=w3 at P0 M0 F0 B0 S0 ⊢
  refine (pmodule_any P0.out).mono ?_
  intro e' w4 hO
  rcases hO with ⟨m,q,x,m4,rfl,⟨a4,c4,rfl,hi4⟩,r4,k4⟩ | ⟨y,c',a',m4,rfl,hc',k4⟩
  · have M4:Hid (Blk w4 w.heap.size #[.slice none 0 0] 25):=M0.out.chg k4 (by omega)
    have F4:Hid (Blk w4 (w.heap.size+1) #[.int .i64 0,.int .i64 0] 27):=F0.out.chg k4 (by omega)
    have B4:Hid (Below w.heap.size w w4):=Chg.last B0.out k4 (by omega) B0.out.size
    have I4:Hid ((modL 6).In w4 (fun g=>w.heap.size+1<g) m [.slice a4 m.length c4]):=Lay.mono hi4 (fun k hk _=>by have:=S0.out;omega)
    have E4:Hid (funcsP l e (l.length+1) 0=.ok (m,q)):=m4
    have yM:=cellOf M4.out 0 _ rfl
    have zM:=freeOf M4.out 0
    have yF0:=cellOf F4.out 0 _ rfl
    have zF0:=freeOf F4.out 0
    have yF1:=cellOf F4.out 1 _ rfl
    have zF1:=freeOf F4.out 1
    clear m4 hi4 r4 k4 P0 M0 F0 B0
    go_wp2
    have n1:¬ w.heap.size+1=w.heap.size:=by omega
    have n2:¬ w.heap.size=w.heap.size+1:=by omega
    have D1:Blk (((w4.setCell ⟨w.heap.size,0,none⟩ (.slice a4 m.length c4)).setCell ⟨w.heap.size+1,0,none⟩ (.int .i64 0)).setCell ⟨w.heap.size+1,1,none⟩ (.int .i64 0)) w.heap.size #[.slice a4 m.length c4] 25:=by
      have:=blockSet M4.out 0 (.slice a4 m.length c4)
      exact Blk.setOther (Blk.setOther (show Blk _ w.heap.size #[.slice a4 m.length c4] 25 by simpa using this) (p:=⟨w.heap.size+1,0,none⟩) n1 _) (p:=⟨w.heap.size+1,1,none⟩) n1 _
    have D2:Blk (((w4.setCell ⟨w.heap.size,0,none⟩ (.slice a4 m.length c4)).setCell ⟨w.heap.size+1,0,none⟩ (.int .i64 0)).setCell ⟨w.heap.size+1,1,none⟩ (.int .i64 0)) (w.heap.size+1) #[.int .i64 0,.int .i64 0] 27:=by
      have:=blockSet (blockSet (F4.out.setOther (p:=⟨w.heap.size,0,none⟩) n2 (.slice a4 m.length c4)) 0 (.int .i64 0)) 1 (.int .i64 0)
      simpa using this
    have D3:Hid ((modL 6).In (((w4.setCell ⟨w.heap.size,0,none⟩ (.slice a4 m.length c4)).setCell ⟨w.heap.size+1,0,none⟩ (.int .i64 0)).setCell ⟨w.heap.size+1,1,none⟩ (.int .i64 0)) (fun g=>w.heap.size≤g) m [.slice a4 m.length c4]) :=
      Lay.mono (Lay.setCell (Lay.setCell (Lay.setCell I4.out (p:=⟨w.heap.size,0,none⟩) (by simp) _) (p:=⟨w.heap.size+1,0,none⟩) (by simp) _) (p:=⟨w.heap.size+1,1,none⟩) (by simp) _) (fun k hk _=>by omega)
    have D4:Hid (Below w.heap.size w (((w4.setCell ⟨w.heap.size,0,none⟩ (.slice a4 m.length c4)).setCell ⟨w.heap.size+1,0,none⟩ (.int .i64 0)).setCell ⟨w.heap.size+1,1,none⟩ (.int .i64 0))):=((B4.out.setCell (p:=⟨w.heap.size,0,none⟩) (Nat.le_refl _) _).setCell (p:=⟨w.heap.size+1,0,none⟩) (Nat.le_succ _) _).setCell (p:=⟨w.heap.size+1,1,none⟩) (Nat.le_succ _) _
    clear yM zM yF0 zF0 yF1 zF1 M4 F4 B4 I4
    generalize (((w4.setCell ⟨w.heap.size,0,none⟩ (.slice a4 m.length c4)).setCell ⟨w.heap.size+1,0,none⟩ (.int .i64 0)).setCell ⟨w.heap.size+1,1,none⟩ (.int .i64 0))=w5 at D1 D2 D3 D4 ⊢
    refine leaves_cons (f:=52) (args:=#[ptrP w.heap.size,ptrP (w.heap.size+1)]) (by simp) (by simp [go_sem]) ?_
    refine (catch_idle w.heap.size (w.heap.size+1)).mono ?_
    rintro e1 u1 w6 ⟨rfl,rfl,rfl⟩
    have x0:=cellOf D1 0 _ rfl
    have x1:=cellOf D2 0 _ rfl
    have x2:=cellOf D2 1 _ rfl
    exact ⟨.tuple #[.agg #[.slice a4 m.length c4],.agg #[.int .i64 0,.int .i64 0]],by simp [results,Tryz.results23,go_sem,x0,x1,x2],.inl ⟨m,q,a4,c4,E4.out,rfl,D3.out,D4.out⟩⟩
  · have M4:=M0.out.chg k4 (by omega)
    have F4:=F0.out.chg k4 (by omega)
    have B4:Below w.heap.size w w4:=Chg.last B0.out k4 (by omega) B0.out.size
    show bodyPostD _ _ _ _ _ _
    refine leaves_cons (f:=52) (args:=#[ptrP w.heap.size,ptrP (w.heap.size+1)]) (by simp) (by simp [go_sem]) ?_
    refine (catch_panicking c' a' M4 F4 (by omega)).mono ?_
    rintro e1 u1 w5 ⟨rfl,rfl,d1,d2,d3⟩
    have B5:Below w.heap.size w w5:=⟨d3.os.trans B4.os,d3.tape.trans B4.tape,d3.output.trans B4.output,Nat.le_trans B4.size d3.size,fun k hk=>(d3.block k (Nat.lt_of_lt_of_le hk B4.size) (by omega)).trans (B4.block k hk)⟩
    have x0:=cellOf d1 0 _ rfl
    have x1:=cellOf d2 0 _ rfl
    have x2:=cellOf d2 1 _ rfl
    exact ⟨.tuple #[.agg #[.slice none 0 0],.agg #[.int .i64 c',.int .i64 a']],by simp [results,Tryz.results23,go_sem,x0,x1,x2],.inr ⟨y,c',a',m4,rfl,hc',B5⟩⟩
theorem underTk : Tryz.prog.underlying 53 = some (.slice 96) := by kernel_rfl
theorem infoTk : (Tryz.prog.info? 96).map (fun i => (i.zero, i.size, i.bytes)) = some (some (.agg #[.int .i64 0, .string ⟨#[]⟩, .bool false, .int .i64 0]), 4, 40) := by kernel_rfl
theorem infoTk_parts : ∃ i, Tryz.prog.info? 96 = some i ∧ i.zero = some (.agg #[.int .i64 0, .string ⟨#[]⟩, .bool false, .int .i64 0]) ∧ i.size = 4 ∧ i.bytes = 40 := by
  have h:=infoTk
  cases e:Tryz.prog.info? 96 with
  | none=>rw [e] at h;cases h
  | some i =>
    rw [e] at h
    simp only [Option.map_some,Option.some.injEq,Prod.mk.injEq] at h
    exact ⟨i,rfl,h.1,h.2.1,h.2.2⟩
theorem news4' (w : World) (o : Obj) (T : TypeId) (p q r u : Value) : ∀ j x, [p, q, r, u][j]? = some x → ((w.alloc o).alloc (.cells #[p, q, r, u] T)).cell? ((⟨w.heap.size + 1, 0, none⟩ : Addr).add j) = some x := by
  have:=news4 (w.alloc o) T p q r u
  simpa using this
def ScOut2 (w w' : World) (r : Sc) (e : Ending) : Prop :=
  match r with
  | .fault c a=>e=.returned (.tuple #[.slice none 0 0,.agg #[.int .i64 c,.int .i64 a]])∧Below w.heap.size w w'
  | .ok l=>∃ a c,e=.returned (.tuple #[.slice a l.length c,.agg #[.int .i64 0,.int .i64 0]])∧tkL.list.In w' (fun g=>w.heap.size≤g) l [.slice a l.length c]∧Below w.heap.size w w'∧l.length≤c
theorem scOut2_fault {w w' : World} {l : List UInt8} {c a : Nat} (h : scanL l = .fault c a) (hb : Below w.heap.size w w') : ScOut2 w w' (scanL l) (.returned (.tuple #[.slice none 0 0, .agg #[.int .i64 c, .int .i64 a]])) := by
  rw [h];exact ⟨rfl,hb⟩
theorem scOut2_ok {w w' : World} {l : List UInt8} {acc : List Tk} {a : Option Addr} {c : Nat} (h : scanL l = .ok acc) (hl : tkL.list.In w' (fun g => w.heap.size ≤ g) acc [.slice a acc.length c]) (hb : Below w.heap.size w w') (hc : acc.length ≤ c) : ScOut2 w w' (scanL l) (.returned (.tuple #[.slice a acc.length c, .agg #[.int .i64 0, .int .i64 0]])) := by
  rw [h];exact ⟨a,c,rfl,hl,hb,hc⟩
theorem SB.cell2 {T : TypeId} {w wr : World} {l : List UInt8} {pos : Nat} {v : Value} {acc : List Tk} {xs : List Value} (h : SB T w wr l pos v acc xs) : ∃ a c, v = .slice a acc.length c ∧ tkL.list.In wr (fun g => w.heap.size + 1 ≤ g) acc [.slice a acc.length c] ∧ acc.length ≤ c := by
  obtain ⟨a,c,e,r⟩:=h.cell
  refine ⟨a,c,e,r,?_⟩
  obtain ⟨⟨h1,h2⟩,h3⟩:=h.row
  rcases h2 with ⟨e2,h4⟩ | ⟨g,cap,cur,e2,hg,hh,hn,hr⟩
  · rw [e] at e2;injection e2 with _ h5 h6;omega
  · rw [e] at e2;injection e2 with _ h5 h6;omega
theorem scan2_any (s : ByteArray) (w : World) (hw0 : Laid w) (hs : s.size ≤ maxLen) :
    Calls Tryz.prog 22 #[.string s] w fun e w'=>ScOut2 w w' (scanL s.data.toList) e:=by
  unfold maxLen at hs
  by_cases hbig:40000<s.size
  · have hV:Hid (scanL s.data.toList=.fault 2 40000):=by
      show _=_
      rw [scanL,if_pos (by rw [list_len];exact hbig)]
    generalize s.data.toList=l at hV
    have hbig':(40000:Int)<s.size:=by omega
    go_enter Tryz.func22,Tryz.ntmps22
    go_wp2
    exact bodyPost_ret (v:=.tuple #[.slice none 0 0,.agg #[.int .i64 2,.int .i64 40000]]) (by simp [results,Tryz.results22,go_sem]) rfl (scOut2_fault hV.out (bel1 w _))
  · have hw:Hid (Laid w):=hw0
    have hbig':¬ (40000:Int)<s.size:=by omega
    have hs2:s.size≤40000:=by omega
    have hll:s.data.toList.length=s.size:=list_len s
    have HL:Hid (s.data.toList.length=s.size):=hll
    obtain ⟨i0,hi,hz0,hz1,hz2⟩:=infoTk_parts
    clear hw0 hll
    go_enter Tryz.func22,Tryz.ntmps22
    go_wp2_with fail
    have S0:Hid _:=SB.start (T:=96) (w:=w) (l:=s.data.toList) (by rw [HL.out];exact hbig)
    have C0:Hid (∀ w,Calls Tryz.prog 50 #[.string s,.int .i64 0] w fun e w'=>e=.returned (.int .i64 ((blk false s.data.toList:Nat):Int))∧w'=w):=fun w=>by
      have:=pastBlanks_any s 0 w (Nat.zero_le _) (by omega)
      rw [List.drop_zero,Nat.zero_add] at this
      exact this
    generalize w.alloc (.cells #[.int .i64 0,.int .i64 0] 27)=w1 at S0 ⊢
    go_wp2_with (go_at_call 50;refine (C0.out _).mono ?_;rintro e w' ⟨rfl,rfl⟩)
    clear C0
    go_loopw [4,5] (fun v i wr=>∃ (pos:Nat) (acc:List Tk) (xs:List Value),i=.int .i64 pos∧SB 96 w wr s.data.toList pos v acc xs) (fun _ i _=>s.size - (intOf i).toNat)
    case atStart=>exact ⟨_,_,_,rfl,S0.out⟩
    case round =>
      obtain ⟨pos,acc,xs,rfl,hrel⟩:=hrel
      have R:Hid (SB 96 w wr s.data.toList pos u4 acc xs):=hrel
      have hp1:pos≤s.size:=by have:=hrel.pos_le;rwa [HL.out] at this
      have hacc:acc.length≤pos:=hrel.len
      have hsz:w.heap.size<wr.heap.size:=hrel.flt.lt
      clear hrel S0
      by_cases hlt:pos<s.size
      · have hlt':(pos:Int)<s.size:=by omega
        have C0:=tokenAt_any s pos wr (hw.out.below R.out.bel) hlt (by omega)
        cases ht:tok (s.data.toList.drop pos) with
        | bad c =>
          have hV:Hid (scanL s.data.toList=.fault c pos):=sc_bad R.out.sofar (by rw [HL.out];exact hlt) ht
          have hc:=tok_code ht
          have hc':¬ (c:Int)=0:=by omega
          rw [ht] at C0
          have C1:Hid (Calls Tryz.prog 51 #[.string s,.int .i64 pos] wr fun e w'=>e=.returned (.tuple #[.agg #[.int .i64 0,.string ⟨#[]⟩,.bool false,.int .i64 0],.int .i64 c])∧Below wr.heap.size wr w'):=C0
          clear ht hc C0
          go_wp2_with fail
          refine C1.out.mono ?_
          rintro e w2 ⟨rfl,b2⟩
          have hF:Hid (Blk w2 w.heap.size #[.int .i64 0,.int .i64 0] 27):=R.out.flt.below b2
          have hB:Hid (Below w.heap.size w w2):=Below.andThen R.out.bel b2
          have hz:w.heap.size<w2.heap.size:=hF.out.lt
          have y0:=cellOf hF.out 0 _ rfl
          have y1:=cellOf hF.out 1 _ rfl
          have z0:=freeOf hF.out 0
          have z1:=freeOf hF.out 1
          clear C1 R b2
          go_wp2
          have D:=stored2 hF.out hB.out (Nat.le_refl _) (.int .i64 c) (.int .i64 pos)
          have D1:=D.1.alloc (.cells #[.int .i64 0,.string ⟨#[]⟩,.bool false,.int .i64 0] 96)
          have DD:Hid _:=D.2.alloc D.2.size (.cells #[.int .i64 0,.string ⟨#[]⟩,.bool false,.int .i64 0] 96)
          have x0:=cellOf D1 0 _ rfl
          have x1:=cellOf D1 1 _ rfl
          clear D D1 y0 y1 z0 z1 hF hB
          generalize ((w2.setCell ⟨w.heap.size,0,none⟩ (.int .i64 c)).setCell ⟨w.heap.size,1,none⟩ (.int .i64 pos)).alloc (.cells #[.int .i64 0,.string ⟨#[]⟩,.bool false,.int .i64 0] 96)=w9 at DD x0 x1 ⊢
          exact bodyPost_ret (v:=.tuple #[.slice none 0 0,.agg #[.int .i64 c,.int .i64 pos]]) (by simp [results,Tryz.results22,go_sem,x0,x1]) rfl (scOut2_fault hV.out DD.out)
        | ok k b n =>
          obtain ⟨hk1,hk2,hk3⟩:=tok_pos ht
          rw [List.length_drop,HL.out] at hk2
          clear hk3
          have hT:Hid (tok (s.data.toList.drop pos)=.ok k b n):=ht
          rw [ht] at C0
          have hx:Hid (((s.data.toList.drop pos).take k).length=k):=by show _=_;rw [List.length_take,List.length_drop,HL.out];omega
          have C1:Hid (Calls Tryz.prog 51 #[.string s,.int .i64 pos] wr fun e w'=>e=.returned (.tuple #[.agg #[.int .i64 pos,.string (str ((s.data.toList.drop pos).take k)),.bool b,.int .i64 n],.int .i64 0])∧Below wr.heap.size wr w'):=C0
          have C2:Hid (∀ w,Calls Tryz.prog 50 #[.string s,.int .i64 ((pos:Int)+k)] w fun e w'=>e=.returned (.int .i64 ((pos+k+blk false (s.data.toList.drop (pos+k)):Nat):Int))∧w'=w):=fun w=>pastBlanks_any s (pos+k) w (by omega) (by omega)
          have PU:Hid (∀ g cap w4 w9,Below wr.heap.size wr w4→w9.ownsRow (w.heap.size+1) 96 4 (.slice (some ⟨g,0,none⟩) (acc.length+1) cap) (acc.length+1) (xs++[.int .i64 pos,.string (str ((s.data.toList.drop pos).take k)),.bool b,.int .i64 n])→w4.grownBy w9 u4.ownBlock→(u4.ownBlock=some g∨g=w4.heap.size) →
              ∃ acc' xs',SB 96 w w9 s.data.toList (pos+k+blk false (s.data.toList.drop (pos+k))) (.slice (some ⟨g,0,none⟩) (acc.length+1) cap) acc' xs'):=fun g cap w4 w9 h0 h1 h2 h3=>⟨_,_,R.out.push h0 (by rw [HL.out];exact hlt) hT.out h1 h2 h3⟩
          have hls:Hid ((str ((s.data.toList.drop pos).take k)).size=k):=by show _=_;rw [str_size];exact hx.out
          have hown:Hid (wr.ownsRow (w.heap.size+1) 96 4 u4 acc.length xs):=R.out.row.own
          generalize str ((s.data.toList.drop pos).take k)=tx at C1 PU hls
          generalize hnp:pos+k+blk false (s.data.toList.drop (pos+k))=np at C2 PU
          have hnp':Hid (pos<np):=by show _<_;omega
          clear ht C0 hx hT hnp
          go_wp2_with fail
          refine C1.out.mono ?_
          rintro e w2 ⟨rfl,b2⟩
          have B2:Hid (Below wr.heap.size wr w2):=b2
          have hz:wr.heap.size≤w2.heap.size:=b2.size
          have ho2:Hid (w2.ownsRow (w.heap.size+1) 96 4 u4 acc.length xs):=(R.out.row.below b2).own
          have hne:Hid (∀ k,u4.ownBlock=some k→k<w2.heap.size):=fun k hk=>Nat.lt_of_lt_of_le (R.out.row.lo_le hk).2 hz
          clear C1 R b2 hown
          go_wp2_with (at_builtin;refine wpList_append_lies _ rfl (.tmp 29) (.tmp 31) 53 rfl (w.heap.size+1) 96 i0 (.agg #[.int .i64 0,.string ⟨#[]⟩,.bool false,.int .i64 0]) 4 40 underTk hi hz0 hz1 hz2 rfl (by decide) _ _ _ rfl ((ho2.out.alloc _).alloc _) ⟨w2.heap.size+1,0,none⟩ 1 1 [.int .i64 pos,.string tx,.bool b,.int .i64 n] rfl rfl (news4' _ _ _ _ _ _ _) (one4 _ _ _ _) (by decide) (by unfold maxLen;omega) (by omega) (by simp;omega) (w2.heap.size+2) (by simp) ?_)
          intro g2 cap2 w9 h1 hgrow hat hlt1
          have U2:Hid _:=PU.out g2 cap2 _ w9 ((B2.out.alloc hz _).alloc (by simp;omega) _) h1 hgrow (by simpa using hat)
          have hbx:Hid (Blk w9 w2.heap.size #[.int .i64 pos,.string tx,.bool b,.int .i64 n] 96):=(hgrow.block w2.heap.size (by simp;omega) (fun e=>by have:=hne.out _ e.symm;omega)).trans (Blk.new1 _ _ _ _ _)
          have y1:=cellOf hbx.out 1 _ rfl
          clear h1 hgrow hat hlt1 PU B2 ho2 hne hbx
          have hls':(tx.size:Int)=k:=by have:=hls.out;omega
          go_wp2_with (go_at_call 50;refine (C2.out _).mono ?_;rintro e w' ⟨rfl,rfl⟩)
          go_roundw
          case rel =>
            obtain ⟨acc',xs',h⟩:=U2.out
            exact ⟨np,acc',xs',rfl,h⟩
          case measure=>have:=hnp'.out;simp [intOf];omega
      · have hlt':¬ (pos:Int)<s.size:=by omega
        have hV:Hid (scanL s.data.toList=.ok acc):=sc_end R.out.sofar (by rw [HL.out];exact hlt)
        obtain ⟨a,c,hv,hl,hcap⟩:=R.out.cell2
        have HC:Hid (acc.length≤c):=hcap
        clear hcap
        subst hv
        have hF:Hid (Blk wr w.heap.size #[.int .i64 0,.int .i64 0] 27):=R.out.flt
        have hB:Hid (Below w.heap.size w wr):=R.out.bel
        have hL:Hid (tkL.list.In wr (fun g=>w.heap.size+1≤g) acc [.slice a acc.length c]):=hl
        have y0:=cellOf hF.out 0 _ rfl
        have y1:=cellOf hF.out 1 _ rfl
        have z0:=freeOf hF.out 0
        have z1:=freeOf hF.out 1
        clear R hl
        go_wp2
        have D:=stored2 hF.out hB.out (Nat.le_refl _) (.int .i64 0) (.int .i64 0)
        have DL:Hid (tkL.list.In ((wr.setCell ⟨w.heap.size,0,none⟩ (.int .i64 0)).setCell ⟨w.heap.size,1,none⟩ (.int .i64 0)) (fun g=>w.heap.size≤g) acc [.slice a acc.length c]) :=
          Lay.mono (Lay.setCell (Lay.setCell hL.out (p:=⟨w.heap.size,0,none⟩) (by simp) _) (p:=⟨w.heap.size,1,none⟩) (by simp) _) (fun k hk _=>Nat.le_of_succ_le hk)
        have DD:Hid _:=D.2
        have x0:=cellOf D.1 0 _ rfl
        have x1:=cellOf D.1 1 _ rfl
        clear D y0 y1 z0 z1 hF hB hL
        generalize (wr.setCell ⟨w.heap.size,0,none⟩ (.int .i64 0)).setCell ⟨w.heap.size,1,none⟩ (.int .i64 0)=w9 at DD DL x0 x1 ⊢
        exact bodyPost_ret (v:=.tuple #[.slice a acc.length c,.agg #[.int .i64 0,.int .i64 0]]) (by simp [results,Tryz.results22,go_sem,x0,x1]) rfl (scOut2_ok hV.out DL.out DD.out HC.out)
def ParOut (s : List UInt8) (w : World) (en : Ending) (w' : World) : Prop :=
  (∃ c a:Int,c≠0∧en=.returned (.tuple #[.agg #[.slice none 0 0],.agg #[.int .i64 c,.int .i64 a]])∧Below w.heap.size w w'∧∀ l m q,scanL s=.ok l→funcsP l s.length (l.length+1) 0≠.ok (m,q)) ∨
  (∃ l m q,scanL s=.ok l∧funcsP l s.length (l.length+1) 0=.ok (m,q)∧(modFault m).1≠0∧en=.returned (.tuple #[.agg #[.slice none 0 0],.agg #[.int .i64 (modFault m).1,.int .i64 (modFault m).2]])∧Below w.heap.size w w') ∨
  (∃ m a c,parseL s=.ok m∧en=.returned (.tuple #[.agg #[.slice a m.length c],.agg #[.int .i64 0,.int .i64 0]])∧(modL 6).In w' (fun g=>w.heap.size≤g) m [.slice a m.length c]∧Below w.heap.size w w')
theorem parse_no {s : List UInt8} (h : ∀ l m q, scanL s = .ok l → funcsP l s.length (l.length + 1) 0 ≠ .ok (m, q)) : ∀ m, parseL s ≠ .ok m := by
  intro m hm
  unfold parseL at hm
  split at hm
  · cases hm
  · rename_i l hl
    split at hm
    · cases hm
    · rename_i m' q hq
      exact h l m' q hl hq
theorem parse_yes {s : List UInt8} {l : List Tk} {m : List (MFunc 6)} {q : Nat} (h1 : scanL s = .ok l) (h2 : funcsP l s.length (l.length + 1) 0 = .ok (m, q)) (h3 : (modFault m).1 = 0) : parseL s = .ok m := by
  unfold parseL
  rw [h1]
  simp only [h2,h3]
  simp
theorem scanF_code : ∀ (f pos : Nat) (s : List UInt8) (c a : Nat), scanF f pos s = .fault c a → c ≠ 0
  | 0,pos,s,c,a,h=>by cases h
  | f+1,pos,s,c,a,h=>by
    unfold scanF at h
    split at h
    · cases h
    · split at h
      · rename_i c' hc
        injection h with h1 h2
        have:=tok_code hc
        omega
      · rename_i k b n e
        cases hr:scanF f (pos+k+blk false (s.drop k)) ((s.drop k).drop (blk false (s.drop k))) with
        | fault c' a' =>
          rw [hr] at h
          injection h with h1 h2
          have:=scanF_code f _ _ _ _ hr
          omega
        | ok l'=>rw [hr] at h;cases h
theorem scanL_code {s : List UInt8} {c a : Nat} (h : scanL s = .fault c a) : c ≠ 0 := by
  unfold scanL at h
  split at h
  · injection h with h1 h2;omega
  · exact scanF_code _ _ _ _ _ h
theorem told {w w3 : World} {M R : Nat} {T1 T2 : TypeId} (c a : Int) (hM : Blk w3 M #[.slice none 0 0] T1) (hR : Blk w3 R #[.int .i64 0, .int .i64 0] T2) (hne : ¬ M = R) (hb : Below M w w3) (hMR : M ≤ R) :
    Blk (((w3.setCell ⟨M,0,none⟩ (.slice none 0 0)).setCell ⟨R,0,none⟩ (.int .i64 c)).setCell ⟨R,1,none⟩ (.int .i64 a)).drew M #[.slice none 0 0] T1 ∧
    Blk (((w3.setCell ⟨M,0,none⟩ (.slice none 0 0)).setCell ⟨R,0,none⟩ (.int .i64 c)).setCell ⟨R,1,none⟩ (.int .i64 a)).drew R #[.int .i64 c,.int .i64 a] T2 ∧
    Below M w (((w3.setCell ⟨M,0,none⟩ (.slice none 0 0)).setCell ⟨R,0,none⟩ (.int .i64 c)).setCell ⟨R,1,none⟩ (.int .i64 a)).drew:=by
  have n4:¬ R=M:=fun e=>hne e.symm
  refine ⟨?_,?_,?_⟩
  · exact ((Blk.setOther (show Blk _ M #[.slice none 0 0] T1 by simpa using blockSet hM 0 (.slice none 0 0)) (p:=⟨R,0,none⟩) n4 (.int .i64 c)).setOther (p:=⟨R,1,none⟩) n4 (.int .i64 a))
  · have:=blockSet (blockSet (hR.setOther (p:=⟨M,0,none⟩) hne (.slice none 0 0)) 0 (.int .i64 c)) 1 (.int .i64 a)
    have h2:Blk (((w3.setCell ⟨M,0,none⟩ (.slice none 0 0)).setCell ⟨R,0,none⟩ (.int .i64 c)).setCell ⟨R,1,none⟩ (.int .i64 a)) R #[.int .i64 c,.int .i64 a] T2:=by simpa using this
    exact h2
  · have h2:=((hb.setCell (p:=⟨M,0,none⟩) (Nat.le_refl _) (.slice none 0 0)).setCell (p:=⟨R,0,none⟩) hMR (.int .i64 c)).setCell (p:=⟨R,1,none⟩) hMR (.int .i64 a)
    exact ⟨h2.os,h2.tape,h2.output,h2.size,h2.block⟩
theorem parse_any (s : ByteArray) (w : World) (hw0 : Laid w) (hs : s.size ≤ maxLen) :
    Calls Tryz.prog 9 #[.string s] w fun en w'=>ParOut s.data.toList w en w':=by
  have hw1:Hid (Laid ((w.alloc (.cells #[.slice none 0 0] 25)).alloc (.cells #[.int .i64 0,.int .i64 0] 27))):=hw0.below (bel2 _ _ _)
  have B1:Hid (Below w.heap.size w ((w.alloc (.cells #[.slice none 0 0] 25)).alloc (.cells #[.int .i64 0,.int .i64 0] 27))):=bel2 _ _ _
  have M1:Hid (Blk ((w.alloc (.cells #[.slice none 0 0] 25)).alloc (.cells #[.int .i64 0,.int .i64 0] 27)) w.heap.size #[.slice none 0 0] 25):=Blk.new1 _ _ _ _ _
  have R1:Hid (Blk ((w.alloc (.cells #[.slice none 0 0] 25)).alloc (.cells #[.int .i64 0,.int .i64 0] 27)) (w.heap.size+1) #[.int .i64 0,.int .i64 0] 27):=Blk.new2 _ _ _ _
  have HS:Hid (s.size≤maxLen):=hs
  unfold maxLen at hs
  clear hw0
  go_enter Tryz.func9,Tryz.ntmps9
  go_wp2_with fail
  generalize (w.alloc (.cells #[.slice none 0 0] 25)).alloc (.cells #[.int .i64 0,.int .i64 0] 27)=w1 at hw1 B1 M1 R1 ⊢
  refine (scan2_any s w1 hw1.out HS.out).mono ?_
  intro e' w2 hO
  cases hsc:scanL s.data.toList with
  | fault c0 a0 =>
    rw [hsc] at hO
    obtain ⟨rfl,b2⟩:=hO
    have M2:Hid (Blk w2 w.heap.size #[.slice none 0 0] 25):=M1.out.below b2
    have R2:Hid (Blk w2 (w.heap.size+1) #[.int .i64 0,.int .i64 0] 27):=R1.out.below b2
    have B2:Hid (Below w.heap.size w w2):=Below.andThen B1.out b2
    clear b2 hw1 B1 M1 R1
    have hc0:¬ (c0:Int)=0:=by have:=scanL_code hsc;omega
    have NO:Hid (∀ l m q,scanL s.data.toList=.ok l→funcsP l s.data.toList.length (l.length+1) 0≠.ok (m,q)):=fun l m q h1=>by rw [hsc] at h1;cases h1
    clear hsc
    go_wp2_with fail
    have M3:Hid (Blk (w2.alloc (.cells #[.int .i64 c0,.int .i64 a0] 27)) w.heap.size #[.slice none 0 0] 25):=M2.out.alloc _
    have R3:Hid (Blk (w2.alloc (.cells #[.int .i64 c0,.int .i64 a0] 27)) (w.heap.size+1) #[.int .i64 0,.int .i64 0] 27):=R2.out.alloc _
    have X3:Hid (Blk (w2.alloc (.cells #[.int .i64 c0,.int .i64 a0] 27)) w2.heap.size #[.int .i64 c0,.int .i64 a0] 27):=Blk.new _ _ _
    have B3:Hid (Below w.heap.size w (w2.alloc (.cells #[.int .i64 c0,.int .i64 a0] 27))):=B2.out.alloc B2.out.size _
    have l2:=R2.out.lt
    clear M2 R2 B2
    generalize w2.alloc (.cells #[.int .i64 c0,.int .i64 a0] 27)=w3 at M3 R3 X3 B3 ⊢
    generalize w2.heap.size=X at X3 l2 ⊢
    have yM:=cellOf M3.out 0 _ rfl
    have zM:=freeOf M3.out 0
    have yR0:=cellOf R3.out 0 _ rfl
    have zR0:=freeOf R3.out 0
    have yR1:=cellOf R3.out 1 _ rfl
    have zR1:=freeOf R3.out 1
    have x0:=cellOf X3.out 0 _ rfl
    have x1:=cellOf X3.out 1 _ rfl
    have n1:¬ X=w.heap.size:=by omega
    have n2:¬ X=w.heap.size+1:=by omega
    have n3:¬ w.heap.size=w.heap.size+1:=by omega
    go_region
    obtain ⟨d1,d2,d3⟩:=told (c0:Int) (a0:Int) M3.out R3.out n3 B3.out (Nat.le_succ _)
    clear yM zM yR0 zR0 yR1 zR1 x0 x1
    generalize (((w3.setCell ⟨w.heap.size,0,none⟩ (.slice none 0 0)).setCell ⟨w.heap.size+1,0,none⟩ (.int .i64 c0)).setCell ⟨w.heap.size+1,1,none⟩ (.int .i64 a0)).drew=w9 at d1 d2 d3 ⊢
    have x0:=cellOf d1 0 _ rfl
    have x1:=cellOf d2 0 _ rfl
    have x2:=cellOf d2 1 _ rfl
    go_wp2
    exact bodyPost_ret (v:=.tuple #[.agg #[.slice none 0 0],.agg #[.int .i64 c0,.int .i64 a0]]) (by simp [results,Tryz.results9,go_sem,x0,x1,x2]) rfl (.inl ⟨c0,a0,hc0,rfl,d3,NO.out⟩)
  | ok l =>
    rw [hsc] at hO
    obtain ⟨a2,c2,rfl,hl2,b2,hcap⟩:=hO
    obtain ⟨hfine,hlen⟩:=scanL_fine hsc
    have HSC:Hid (scanL s.data.toList=.ok l):=hsc
    have HSZ:Hid (s.data.toList.length=s.size):=list_len s
    have M3:Hid (Blk (w2.alloc (.cells #[.int .i64 0,.int .i64 0] 27)) w.heap.size #[.slice none 0 0] 25):=(M1.out.below b2).alloc _
    have R3:Hid (Blk (w2.alloc (.cells #[.int .i64 0,.int .i64 0] 27)) (w.heap.size+1) #[.int .i64 0,.int .i64 0] 27):=(R1.out.below b2).alloc _
    have X3:Hid (Blk (w2.alloc (.cells #[.int .i64 0,.int .i64 0] 27)) w2.heap.size #[.int .i64 0,.int .i64 0] 27):=Blk.new _ _ _
    have B3:Hid (Below w.heap.size w (w2.alloc (.cells #[.int .i64 0,.int .i64 0] 27))):=(Below.andThen B1.out b2).alloc (Below.andThen B1.out b2).size _
    have T3:Hid (tkL.list.In (w2.alloc (.cells #[.int .i64 0,.int .i64 0] 27)) (fun _=>True) l [.slice a2 l.length c2]):=Lay.mono (Lay.alloc hl2 _) (fun _ _ _=>trivial)
    have HF:Hid (∀ x∈l,x.fine):=hfine
    have HCAP:Hid (l.length≤c2):=hcap
    have l2:=(R1.out.below b2).lt
    clear b2 hw1 B1 M1 R1 hl2 hcap hfine hsc
    go_wp2_with fail
    generalize w2.alloc (.cells #[.int .i64 0,.int .i64 0] 27)=w3 at M3 R3 X3 B3 T3 ⊢
    generalize w2.heap.size=X at X3 l2 ⊢
    refine (read_any (e:=s.size) T3.out HCAP.out hlen HF.out).mono ?_
    intro e' w4 hO
    have l3:=X3.out.lt
    have n1:¬ X=w.heap.size:=by omega
    have n2:¬ X=w.heap.size+1:=by omega
    have n3:¬ w.heap.size=w.heap.size+1:=by omega
    rcases hO with ⟨m,q,a4,c4,m4,rfl,hi4,b4⟩ | ⟨y,c',a',m4,rfl,hc',b4⟩
    · have M4:Hid (Blk w4 w.heap.size #[.slice none 0 0] 25):=M3.out.below b4
      have R4:Hid (Blk w4 (w.heap.size+1) #[.int .i64 0,.int .i64 0] 27):=R3.out.below b4
      have X4:Hid (Blk w4 X #[.int .i64 0,.int .i64 0] 27):=X3.out.below b4
      have B4:Hid (Below w.heap.size w w4):=Below.andThen B3.out b4
      have I4:Hid ((modL 6).In w4 (fun g=>X<g) m [.slice a4 m.length c4]):=Lay.mono hi4 (fun k hk _=>by omega)
      have SM:Hid (msmall m):=parsed_small (by omega) m4
      have E4:Hid (funcsP l s.data.toList.length (l.length+1) 0=.ok (m,q)):=by rw [HSZ.out];exact m4
      have x0:=cellOf X4.out 0 _ rfl
      have x1:=cellOf X4.out 1 _ rfl
      have v0:=freeOf X4.out 0
      have v1:=freeOf X4.out 1
      have l4:=X4.out.lt
      clear b4 hi4 m4 M3 R3 X3 B3 T3
      go_wp2_with fail
      have M5:Hid (Blk (((w4.setCell ⟨X,0,none⟩ (.int .i64 0)).setCell ⟨X,1,none⟩ (.int .i64 0)).alloc (.cells #[.slice a4 m.length c4] 25)) w.heap.size #[.slice none 0 0] 25):=((M4.out.setOther (p:=⟨X,0,none⟩) n1 _).setOther (p:=⟨X,1,none⟩) n1 _).alloc _
      have R5:Hid (Blk (((w4.setCell ⟨X,0,none⟩ (.int .i64 0)).setCell ⟨X,1,none⟩ (.int .i64 0)).alloc (.cells #[.slice a4 m.length c4] 25)) (w.heap.size+1) #[.int .i64 0,.int .i64 0] 27):=((R4.out.setOther (p:=⟨X,0,none⟩) n2 _).setOther (p:=⟨X,1,none⟩) n2 _).alloc _
      have X5:Hid (Blk (((w4.setCell ⟨X,0,none⟩ (.int .i64 0)).setCell ⟨X,1,none⟩ (.int .i64 0)).alloc (.cells #[.slice a4 m.length c4] 25)) X #[.int .i64 0,.int .i64 0] 27):=by
        have:=blockSet (blockSet X4.out 0 (.int .i64 0)) 1 (.int .i64 0)
        exact Blk.alloc (show Blk _ X #[.int .i64 0,.int .i64 0] 27 by simpa using this) _
      have Y5:Hid (Blk (((w4.setCell ⟨X,0,none⟩ (.int .i64 0)).setCell ⟨X,1,none⟩ (.int .i64 0)).alloc (.cells #[.slice a4 m.length c4] 25)) w4.heap.size #[.slice a4 m.length c4] 25):=by
        have:=Blk.new ((w4.setCell ⟨X,0,none⟩ (.int .i64 0)).setCell ⟨X,1,none⟩ (.int .i64 0)) #[.slice a4 m.length c4] 25
        show Blk _ _ _ _
        simpa using this
      have B5:Hid (Below w.heap.size w (((w4.setCell ⟨X,0,none⟩ (.int .i64 0)).setCell ⟨X,1,none⟩ (.int .i64 0)).alloc (.cells #[.slice a4 m.length c4] 25))):=((B4.out.setCell (p:=⟨X,0,none⟩) (show w.heap.size≤X by omega) _).setCell (p:=⟨X,1,none⟩) (show w.heap.size≤X by omega) _).alloc (by have:=B4.out.size;simp;omega) _
      have I5:Hid ((modL 6).In (((w4.setCell ⟨X,0,none⟩ (.int .i64 0)).setCell ⟨X,1,none⟩ (.int .i64 0)).alloc (.cells #[.slice a4 m.length c4] 25)) (fun g=>X<g) m [.slice a4 m.length c4]):=Lay.alloc (Lay.setCell (Lay.setCell I4.out (p:=⟨X,0,none⟩) (by simp) _) (p:=⟨X,1,none⟩) (by simp) _) _
      clear M4 R4 X4 B4 I4 x0 x1 v0 v1
      generalize (((w4.setCell ⟨X,0,none⟩ (.int .i64 0)).setCell ⟨X,1,none⟩ (.int .i64 0)).alloc (.cells #[.slice a4 m.length c4] 25))=w5 at M5 R5 X5 Y5 B5 I5 ⊢
      generalize w4.heap.size=Y at Y5 l4 ⊢
      obtain ⟨f1,hf1⟩:∃ f,(modFault m).1=f:=⟨_,rfl⟩
      obtain ⟨f2,hf2⟩:∃ f,(modFault m).2=f:=⟨_,rfl⟩
      have C:Hid (Calls Tryz.prog 24 #[.agg #[.slice a4 m.length c4]] w5 fun en w'=>en=.returned (.agg #[.int .i64 f1,.int .i64 f2])∧Below w5.heap.size w5 w'):=by
        have:=cCheck_any (Lay.mono I5.out (fun _ _ _=>trivial)) SM.out
        rw [← hf1,← hf2]
        exact this
      have F1:Hid ((modFault m).1=f1):=hf1
      have F2:Hid ((modFault m).2=f2):=hf2
      clear hf1 hf2
      refine C.out.mono ?_
      rintro e' w6 ⟨rfl,b6⟩
      have l5:=Y5.out.lt
      have M6:=M5.out.below b6
      have R6:=R5.out.below b6
      have X6:=X5.out.below b6
      have Y6:=Y5.out.below b6
      have B6:=Below.andThen B5.out b6
      have I6:=Lay.below I5.out b6
      have n5:¬ X=Y:=by omega
      have n6:¬ Y=w.heap.size:=by omega
      have n7:¬ Y=w.heap.size+1:=by omega
      have M7:Hid (Blk ((w6.setCell ⟨X,0,none⟩ (.int .i64 f1)).setCell ⟨X,1,none⟩ (.int .i64 f2)) w.heap.size #[.slice none 0 0] 25):=(M6.setOther (p:=⟨X,0,none⟩) n1 _).setOther (p:=⟨X,1,none⟩) n1 _
      have R7:Hid (Blk ((w6.setCell ⟨X,0,none⟩ (.int .i64 f1)).setCell ⟨X,1,none⟩ (.int .i64 f2)) (w.heap.size+1) #[.int .i64 0,.int .i64 0] 27):=(R6.setOther (p:=⟨X,0,none⟩) n2 _).setOther (p:=⟨X,1,none⟩) n2 _
      have Y7:Hid (Blk ((w6.setCell ⟨X,0,none⟩ (.int .i64 f1)).setCell ⟨X,1,none⟩ (.int .i64 f2)) Y #[.slice a4 m.length c4] 25):=(Y6.setOther (p:=⟨X,0,none⟩) n5 _).setOther (p:=⟨X,1,none⟩) n5 _
      have X7:Hid (Blk ((w6.setCell ⟨X,0,none⟩ (.int .i64 f1)).setCell ⟨X,1,none⟩ (.int .i64 f2)) X #[.int .i64 f1,.int .i64 f2] 27):=by
        have:=blockSet (blockSet X6 0 (.int .i64 f1)) 1 (.int .i64 f2)
        show Blk _ _ _ _
        simpa using this
      have B7:Hid (Below w.heap.size w ((w6.setCell ⟨X,0,none⟩ (.int .i64 f1)).setCell ⟨X,1,none⟩ (.int .i64 f2))):=(B6.setCell (p:=⟨X,0,none⟩) (show w.heap.size≤X by omega) _).setCell (p:=⟨X,1,none⟩) (show w.heap.size≤X by omega) _
      have I7:Hid ((modL 6).In ((w6.setCell ⟨X,0,none⟩ (.int .i64 f1)).setCell ⟨X,1,none⟩ (.int .i64 f2)) (fun g=>X<g) m [.slice a4 m.length c4]):=Lay.setCell (Lay.setCell I6 (p:=⟨X,0,none⟩) (by simp) _) (p:=⟨X,1,none⟩) (by simp) _
      have x0:=cellOf X6 0 _ rfl
      have x1:=cellOf X6 1 _ rfl
      have v0:=freeOf X6 0
      have v1:=freeOf X6 1
      have y0:=cellOf Y6 0 _ rfl
      clear M5 R5 X5 Y5 B5 I5 C b6 M6 R6 X6 B6 I6
      by_cases hf0:f1=0
      · subst hf0
        have gM:=cellOf M7.out 0 _ rfl
        have hM:=freeOf M7.out 0
        have gR0:=cellOf R7.out 0 _ rfl
        have hR0:=freeOf R7.out 0
        have gR1:=cellOf R7.out 1 _ rfl
        have hR1:=freeOf R7.out 1
        clear Y6
        go_wp2_with fail
        clear X7 Y7 x0 x1 v0 v1 y0 gM hM gR0 hR0 gR1 hR1
        generalize ((w6.setCell ⟨X,0,none⟩ (.int .i64 0)).setCell ⟨X,1,none⟩ (.int .i64 f2))=w7 at M7 R7 B7 I7 ⊢
        have n8:¬ w.heap.size+1=w.heap.size:=by omega
        have hXM:¬ X<w.heap.size:=by omega
        have hXR:¬ X<w.heap.size+1:=by omega
        have D1:Blk (((w7.setCell ⟨w.heap.size,0,none⟩ (.slice a4 m.length c4)).setCell ⟨w.heap.size+1,0,none⟩ (.int .i64 0)).setCell ⟨w.heap.size+1,1,none⟩ (.int .i64 0)) w.heap.size #[.slice a4 m.length c4] 25:=by
          have:=blockSet M7.out 0 (.slice a4 m.length c4)
          exact Blk.setOther (Blk.setOther (show Blk _ w.heap.size #[.slice a4 m.length c4] 25 by simpa using this) (p:=⟨w.heap.size+1,0,none⟩) n8 _) (p:=⟨w.heap.size+1,1,none⟩) n8 _
        have D2:Blk (((w7.setCell ⟨w.heap.size,0,none⟩ (.slice a4 m.length c4)).setCell ⟨w.heap.size+1,0,none⟩ (.int .i64 0)).setCell ⟨w.heap.size+1,1,none⟩ (.int .i64 0)) (w.heap.size+1) #[.int .i64 0,.int .i64 0] 27:=by
          have:=blockSet (blockSet (R7.out.setOther (p:=⟨w.heap.size,0,none⟩) n3 (.slice a4 m.length c4)) 0 (.int .i64 0)) 1 (.int .i64 0)
          simpa using this
        have D3:Hid ((modL 6).In (((w7.setCell ⟨w.heap.size,0,none⟩ (.slice a4 m.length c4)).setCell ⟨w.heap.size+1,0,none⟩ (.int .i64 0)).setCell ⟨w.heap.size+1,1,none⟩ (.int .i64 0)) (fun g=>w.heap.size≤g) m [.slice a4 m.length c4]) :=
          Lay.mono (Lay.setCell (Lay.setCell (Lay.setCell I7.out (p:=⟨w.heap.size,0,none⟩) hXM _) (p:=⟨w.heap.size+1,0,none⟩) hXR _) (p:=⟨w.heap.size+1,1,none⟩) hXR _) (fun k hk _=>by omega)
        have D4:Hid (Below w.heap.size w (((w7.setCell ⟨w.heap.size,0,none⟩ (.slice a4 m.length c4)).setCell ⟨w.heap.size+1,0,none⟩ (.int .i64 0)).setCell ⟨w.heap.size+1,1,none⟩ (.int .i64 0))):=((B7.out.setCell (p:=⟨w.heap.size,0,none⟩) (Nat.le_refl _) _).setCell (p:=⟨w.heap.size+1,0,none⟩) (Nat.le_succ _) _).setCell (p:=⟨w.heap.size+1,1,none⟩) (Nat.le_succ _) _
        clear M7 R7 B7 I7
        generalize (((w7.setCell ⟨w.heap.size,0,none⟩ (.slice a4 m.length c4)).setCell ⟨w.heap.size+1,0,none⟩ (.int .i64 0)).setCell ⟨w.heap.size+1,1,none⟩ (.int .i64 0))=w9 at D1 D2 D3 D4 ⊢
        have x0:=cellOf D1 0 _ rfl
        have x1:=cellOf D2 0 _ rfl
        have x2:=cellOf D2 1 _ rfl
        exact bodyPost_ret (v:=.tuple #[.agg #[.slice a4 m.length c4],.agg #[.int .i64 0,.int .i64 0]]) (by simp [results,Tryz.results9,go_sem,x0,x1,x2]) rfl (.inr (.inr ⟨m,a4,c4,parse_yes HSC.out E4.out F1.out,rfl,D3.out,D4.out⟩))
      · have hf0':Hid (¬ f1=0):=hf0
        clear Y6
        go_wp2_with fail
        clear x0 x1 v0 v1 y0
        generalize ((w6.setCell ⟨X,0,none⟩ (.int .i64 f1)).setCell ⟨X,1,none⟩ (.int .i64 f2))=w7 at M7 R7 X7 Y7 B7 I7 ⊢
        have yM:=cellOf M7.out 0 _ rfl
        have zM:=freeOf M7.out 0
        have yR0:=cellOf R7.out 0 _ rfl
        have zR0:=freeOf R7.out 0
        have yR1:=cellOf R7.out 1 _ rfl
        have zR1:=freeOf R7.out 1
        have x0:=cellOf X7.out 0 _ rfl
        have x1:=cellOf X7.out 1 _ rfl
        go_region
        obtain ⟨d1,d2,d3⟩:=told f1 f2 M7.out R7.out n3 B7.out (Nat.le_succ _)
        clear yM zM yR0 zR0 yR1 zR1 x0 x1
        generalize (((w7.setCell ⟨w.heap.size,0,none⟩ (.slice none 0 0)).setCell ⟨w.heap.size+1,0,none⟩ (.int .i64 f1)).setCell ⟨w.heap.size+1,1,none⟩ (.int .i64 f2)).drew=w9 at d1 d2 d3 ⊢
        have x0:=cellOf d1 0 _ rfl
        have x1:=cellOf d2 0 _ rfl
        have x2:=cellOf d2 1 _ rfl
        go_wp2
        exact bodyPost_ret (v:=.tuple #[.agg #[.slice none 0 0],.agg #[.int .i64 f1,.int .i64 f2]]) (by simp [results,Tryz.results9,go_sem,x0,x1,x2]) rfl (.inr (.inl ⟨l,m,q,HSC.out,E4.out,by rw [F1.out];exact hf0'.out,by rw [F1.out,F2.out],d3⟩))
    · have M4:Hid (Blk w4 w.heap.size #[.slice none 0 0] 25):=M3.out.below b4
      have R4:Hid (Blk w4 (w.heap.size+1) #[.int .i64 0,.int .i64 0] 27):=R3.out.below b4
      have X4:Hid (Blk w4 X #[.int .i64 0,.int .i64 0] 27):=X3.out.below b4
      have B4:Hid (Below w.heap.size w w4):=Below.andThen B3.out b4
      have NO:Hid (∀ l' m' q',scanL s.data.toList=.ok l'→funcsP l' s.data.toList.length (l'.length+1) 0≠.ok (m',q')):=fun l' m' q' h1 h2=>by
        rw [HSC.out] at h1
        injection h1 with h1
        subst h1
        rw [HSZ.out,m4] at h2
        cases h2
      have HC:Hid (c'≠0):=hc'
      have hc0:¬ c'=0:=hc'
      have x0:=cellOf X4.out 0 _ rfl
      have x1:=cellOf X4.out 1 _ rfl
      have v0:=freeOf X4.out 0
      have v1:=freeOf X4.out 1
      have l4:=X4.out.lt
      clear b4 m4 M3 R3 X3 B3 T3 hc'
      go_wp2_with fail
      have M5:Hid (Blk (((w4.setCell ⟨X,0,none⟩ (.int .i64 c')).setCell ⟨X,1,none⟩ (.int .i64 a')).alloc (.cells #[.slice none 0 0] 25)) w.heap.size #[.slice none 0 0] 25):=((M4.out.setOther (p:=⟨X,0,none⟩) n1 _).setOther (p:=⟨X,1,none⟩) n1 _).alloc _
      have R5:Hid (Blk (((w4.setCell ⟨X,0,none⟩ (.int .i64 c')).setCell ⟨X,1,none⟩ (.int .i64 a')).alloc (.cells #[.slice none 0 0] 25)) (w.heap.size+1) #[.int .i64 0,.int .i64 0] 27):=((R4.out.setOther (p:=⟨X,0,none⟩) n2 _).setOther (p:=⟨X,1,none⟩) n2 _).alloc _
      have X5:Hid (Blk (((w4.setCell ⟨X,0,none⟩ (.int .i64 c')).setCell ⟨X,1,none⟩ (.int .i64 a')).alloc (.cells #[.slice none 0 0] 25)) X #[.int .i64 c',.int .i64 a'] 27):=by
        have:=blockSet (blockSet X4.out 0 (.int .i64 c')) 1 (.int .i64 a')
        exact Blk.alloc (show Blk _ X #[.int .i64 c',.int .i64 a'] 27 by simpa using this) _
      have Y5:Hid (Blk (((w4.setCell ⟨X,0,none⟩ (.int .i64 c')).setCell ⟨X,1,none⟩ (.int .i64 a')).alloc (.cells #[.slice none 0 0] 25)) w4.heap.size #[.slice none 0 0] 25):=by
        have:=Blk.new ((w4.setCell ⟨X,0,none⟩ (.int .i64 c')).setCell ⟨X,1,none⟩ (.int .i64 a')) #[.slice none 0 0] 25
        show Blk _ _ _ _
        simpa using this
      have B5:Hid (Below w.heap.size w (((w4.setCell ⟨X,0,none⟩ (.int .i64 c')).setCell ⟨X,1,none⟩ (.int .i64 a')).alloc (.cells #[.slice none 0 0] 25))):=((B4.out.setCell (p:=⟨X,0,none⟩) (show w.heap.size≤X by omega) _).setCell (p:=⟨X,1,none⟩) (show w.heap.size≤X by omega) _).alloc (by have:=B4.out.size;simp;omega) _
      clear M4 R4 X4 B4 x0 x1 v0 v1
      generalize (((w4.setCell ⟨X,0,none⟩ (.int .i64 c')).setCell ⟨X,1,none⟩ (.int .i64 a')).alloc (.cells #[.slice none 0 0] 25))=w5 at M5 R5 X5 Y5 B5 ⊢
      have yM:=cellOf M5.out 0 _ rfl
      have zM:=freeOf M5.out 0
      have yR0:=cellOf R5.out 0 _ rfl
      have zR0:=freeOf R5.out 0
      have yR1:=cellOf R5.out 1 _ rfl
      have zR1:=freeOf R5.out 1
      have x0:=cellOf X5.out 0 _ rfl
      have x1:=cellOf X5.out 1 _ rfl
      go_region
      obtain ⟨d1,d2,d3⟩:=told c' a' M5.out R5.out n3 B5.out (Nat.le_succ _)
      clear yM zM yR0 zR0 yR1 zR1 x0 x1
      generalize (((w5.setCell ⟨w.heap.size,0,none⟩ (.slice none 0 0)).setCell ⟨w.heap.size+1,0,none⟩ (.int .i64 c')).setCell ⟨w.heap.size+1,1,none⟩ (.int .i64 a')).drew=w9 at d1 d2 d3 ⊢
      have x0:=cellOf d1 0 _ rfl
      have x1:=cellOf d2 0 _ rfl
      have x2:=cellOf d2 1 _ rfl
      go_wp2
      exact bodyPost_ret (v:=.tuple #[.agg #[.slice none 0 0],.agg #[.int .i64 c',.int .i64 a']]) (by simp [results,Tryz.results9,go_sem,x0,x1,x2]) rfl ((.inl ⟨c',a',HC.out,rfl,d3,NO.out⟩))
theorem print_ok {n : Nat} {m : List (MFunc n)} (h : (printL m).2.1 = 0) : (modFault m).1 = 0 ∧ modNums m = true ∧ (modTxt m).length ≤ 40000 ∧ printL m = (modTxt m, 0, 0) := by
  unfold printL at h ⊢
  split at h
  · rename_i h1
    exact absurd h h1
  rename_i h1
  split at h
  · cases h
  rename_i h2
  split at h
  · cases h
  rename_i h3
  rw [if_neg h1,if_neg h2,if_neg h3]
  exact ⟨Decidable.not_not.1 h1,by simpa using h2,by omega,rfl⟩
theorem print_bad {n : Nat} {m : List (MFunc n)} (h : (modFault m).1 ≠ 0) : (printL m).2.1 ≠ 0 := by
  unfold printL
  rw [if_pos h]
  exact h
theorem parse_of {t : List UInt8} {m : List (MFunc 6)} (h : parseL t = .ok m) (hl : t.length ≤ 40000) (w : World) (hw : Laid w) :
    Calls Tryz.prog 9 #[.string (str t)] w fun e w'=>∃ a c,e=.returned (.tuple #[.agg #[.slice a m.length c],.agg #[.int .i64 0,.int .i64 0]])∧(modL 6).In w' All m [.slice a m.length c]∧Below w.heap.size w w':=by
  refine (parse_any (str t) w hw (by rw [str_size];unfold maxLen;omega)).mono ?_
  rintro e w' (⟨c,a,-,-,-,hno⟩ | ⟨l,m',q,h1,h2,h3,-,-⟩ | ⟨m',a,c,h1,rfl,h2,h3⟩)
  · rw [str_list] at hno
    exact absurd h (parse_no hno m)
  · rw [str_list] at h1 h2
    unfold parseL at h
    rw [h1] at h
    simp only [h2] at h
    rw [if_pos h3] at h
    cases h
  · rw [str_list,h] at h1
    injection h1 with h1
    subst h1
    exact ⟨a,c,rfl,Lay.mono h2 (fun _ _ _=>trivial),h3⟩
theorem back_walk {n1 c : Nat} {p : Option Addr} {w : World} {g1 : Bool} {s : List UInt8} {f a : Int} {P4 : Option Addr → Nat → World → Prop}
    (CB:Hid (∀ wx,Below w.heap.size w wx→Calls Tryz.prog 17 #[] wx fun e w'=>e=.returned (.bool true)∧Below wx.heap.size wx w'))
    (C1:Hid (∀ wx,Below w.heap.size w wx→Calls Tryz.prog 18 #[.agg #[.slice p n1 c]] wx fun e w'=>e=.returned (.bool g1)∧Below wx.heap.size wx w'))
    (C3:Hid (g1=false→∀ wx,Below w.heap.size w wx→Calls Tryz.prog 20 #[.agg #[.slice p n1 c]] wx (Prints wx (s,f,a))))
    (HS:Hid (f≠0→s=[]))
    (C4:Hid (g1=false→f=0→∀ wx,Below w.heap.size w wx→Calls Tryz.prog 9 #[.string (str s)] wx fun e w'=>∃ a4 c4,e=.returned (.tuple #[.agg #[.slice a4 n1 c4],.agg #[.int .i64 0,.int .i64 0]])∧P4 a4 c4 w'∧Below wx.heap.size wx w'))
    (C5:Hid (g1=false→f=0→∀ a4 c4 wx,Below w.heap.size w wx→P4 a4 c4 wx→Calls Tryz.prog 20 #[.agg #[.slice a4 n1 c4]] wx (Prints wx (s,0,0))))
    (C6:Hid (g1=false→f=0→∀ a4 c4 wx,Below w.heap.size w wx→P4 a4 c4 wx→Calls Tryz.prog 11 #[.agg #[.slice p n1 c],.agg #[.slice a4 n1 c4]] wx fun e w'=>e=.returned (.bool true)∧Below wx.heap.size wx w'))
    (SP:Hid (∀ a4 c4 wx wy,P4 a4 c4 wx→Below wx.heap.size wx wy→P4 a4 c4 wy)) :
    Calls Tryz.prog 6 #[.agg #[.slice p n1 c]] w fun e w'=>e=.returned (.bool true)∧Below w.heap.size w w':=by
  have X1:Blk (w.alloc (.cells #[.slice p n1 c] 25)) w.heap.size #[.slice p n1 c] 25:=Blk.new _ _ _
  have B1:Hid (Below w.heap.size w (w.alloc (.cells #[.slice p n1 c] 25))):=bel1 _ _
  go_enter Tryz.func6,Tryz.ntmps6
  go_wp2_with fail
  generalize w.alloc (.cells #[.slice p n1 c] 25)=w1 at X1 B1 ⊢
  refine (CB.out _ B1.out).mono ?_
  rintro e w2 ⟨rfl,b2⟩
  replace X1:=(b2.block _ (lt_of_block X1)).trans X1
  have B2:Hid (Below w.heap.size w w2):=B1.out.trans (b2.mono B1.out.size)
  clear b2 B1 CB
  have c1:=cellOf X1 0 _ rfl
  go_wp2_with fail
  refine (C1.out _ B2.out).mono ?_
  rintro e w3 ⟨rfl,b3⟩
  replace X1:=(b3.block _ (lt_of_block X1)).trans X1
  have B3:Hid (Below w.heap.size w w3):=B2.out.trans (b3.mono B2.out.size)
  clear b3 B2 C1 c1
  cases g1 with
  | true =>
    clear C3 C4 C5 C6 HS SP X1
    go_wp2
    go_ret
    exact ⟨rfl,B3.out⟩
  | false =>
    replace C3:Hid (∀ wx,Below w.heap.size w wx→Calls Tryz.prog 20 #[.agg #[.slice p n1 c]] wx (Prints wx (s,f,a))):=C3.out rfl
    replace C4:Hid (f=0→∀ wx,Below w.heap.size w wx→Calls Tryz.prog 9 #[.string (str s)] wx fun e w'=>∃ a4 c4,e=.returned (.tuple #[.agg #[.slice a4 n1 c4],.agg #[.int .i64 0,.int .i64 0]])∧P4 a4 c4 w'∧Below wx.heap.size wx w'):=C4.out rfl
    replace C5:Hid (f=0→∀ a4 c4 wx,Below w.heap.size w wx→P4 a4 c4 wx→Calls Tryz.prog 20 #[.agg #[.slice a4 n1 c4]] wx (Prints wx (s,0,0))):=C5.out rfl
    replace C6:Hid (f=0→∀ a4 c4 wx,Below w.heap.size w wx→P4 a4 c4 wx→Calls Tryz.prog 11 #[.agg #[.slice p n1 c],.agg #[.slice a4 n1 c4]] wx fun e w'=>e=.returned (.bool true)∧Below wx.heap.size wx w'):=C6.out rfl
    have c1:=cellOf X1 0 _ rfl
    go_wp2_with fail
    refine (C3.out _ B3.out).mono ?_
    rintro e w5 ⟨rfl,b5⟩
    replace X1:=(b5.block _ (lt_of_block X1)).trans X1
    have B5:Hid (Below w.heap.size w w5):=B3.out.trans (b5.mono B3.out.size)
    clear b5 B3 C3 c1
    unfold PrintV
    replace X1:=((bel1 w5 (.cells #[.int .i64 f,.int .i64 a] 27)).block _ (lt_of_block X1)).trans X1
    have B6:Hid (Below w.heap.size w (w5.alloc (.cells #[.int .i64 f,.int .i64 a] 27))):=B5.out.trans ((bel1 _ _).mono B5.out.size)
    by_cases hf:f=0
    · subst hf
      replace C4:=C4.out rfl
      replace C5:=C5.out rfl
      replace C6:=C6.out rfl
      have H4:Hid (∀ wx,Below w.heap.size w wx→Calls Tryz.prog 9 #[.string (str s)] wx fun e w'=>∃ a4 c4,e=.returned (.tuple #[.agg #[.slice a4 n1 c4],.agg #[.int .i64 0,.int .i64 0]])∧P4 a4 c4 w'∧Below wx.heap.size wx w'):=C4
      have H5:Hid (∀ a4 c4 wx,Below w.heap.size w wx→P4 a4 c4 wx→Calls Tryz.prog 20 #[.agg #[.slice a4 n1 c4]] wx (Prints wx (s,0,0))):=C5
      have H6:Hid (∀ a4 c4 wx,Below w.heap.size w wx→P4 a4 c4 wx→Calls Tryz.prog 11 #[.agg #[.slice p n1 c],.agg #[.slice a4 n1 c4]] wx fun e w'=>e=.returned (.bool true)∧Below wx.heap.size wx w'):=C6
      clear C4 C5 C6 HS
      go_wp2_with fail
      clear B5
      generalize w5.alloc (.cells #[.int .i64 0,.int .i64 a] 27)=w6 at X1 B6 ⊢
      refine (H4.out _ B6.out).mono ?_
      rintro e w7 ⟨a4,c4,rfl,p7,b7⟩
      have b8:Below w7.heap.size w7 ((w7.alloc (.cells #[.slice a4 n1 c4] 25)).alloc (.cells #[.int .i64 0,.int .i64 0] 27)):=bel2 _ _ _
      replace X1:=((b7.trans (b8.mono b7.size)).block _ (lt_of_block X1)).trans X1
      have B8:Hid (Below w.heap.size w ((w7.alloc (.cells #[.slice a4 n1 c4] 25)).alloc (.cells #[.int .i64 0,.int .i64 0] 27))):=B6.out.trans ((b7.trans (b8.mono b7.size)).mono B6.out.size)
      have P8:Hid (P4 a4 c4 ((w7.alloc (.cells #[.slice a4 n1 c4] 25)).alloc (.cells #[.int .i64 0,.int .i64 0] 27))):=SP.out _ _ _ _ p7 b8
      have X2:Blk ((w7.alloc (.cells #[.slice a4 n1 c4] 25)).alloc (.cells #[.int .i64 0,.int .i64 0] 27)) w7.heap.size #[.slice a4 n1 c4] 25:=Blk.new1 _ _ _ _ _
      have X3:Blk ((w7.alloc (.cells #[.slice a4 n1 c4] 25)).alloc (.cells #[.int .i64 0,.int .i64 0] 27)) (w7.heap.size+1) #[.int .i64 0,.int .i64 0] 27:=Blk.new2 _ _ _ _
      clear b7 b8 p7 B6 H4
      go_wp2_with fail
      generalize (w7.alloc (.cells #[.slice a4 n1 c4] 25)).alloc (.cells #[.int .i64 0,.int .i64 0] 27)=w8 at X1 X2 X3 B8 P8 ⊢
      generalize w7.heap.size=G at X2 X3 ⊢
      refine (H5.out _ _ _ B8.out P8.out).mono ?_
      rintro e w9 ⟨rfl,b9⟩
      unfold PrintV
      have b0:Below w8.heap.size w8 (w9.alloc (.cells #[.int .i64 0,.int .i64 0] 27)):=b9.trans ((bel1 _ _).mono b9.size)
      replace X1:=(b0.block _ (lt_of_block X1)).trans X1
      replace X2:=(b0.block _ (lt_of_block X2)).trans X2
      replace X3:=(b0.block _ (lt_of_block X3)).trans X3
      have X4:=Blk.new w9 #[.int .i64 0,.int .i64 0] 27
      have B0:Hid (Below w.heap.size w (w9.alloc (.cells #[.int .i64 0,.int .i64 0] 27))):=B8.out.trans (b0.mono B8.out.size)
      have P0:Hid (P4 a4 c4 (w9.alloc (.cells #[.int .i64 0,.int .i64 0] 27))):=SP.out _ _ _ _ P8.out b0
      clear b0 b9 B8 P8 H5
      go_upto_region 10 with fail
      generalize w9.alloc (.cells #[.int .i64 0,.int .i64 0] 27)=wa at X1 X2 X3 X4 B0 P0 ⊢
      generalize w9.heap.size=F2 at X4 ⊢
      have d1:=cellOf X1 0 _ rfl
      have d2:=cellOf X2 0 _ rfl
      have d3:=cellOf X3 0 _ rfl
      have d4:=cellOf X4 0 _ rfl
      have hq:((str s).toList==(str s).toList)=true:=by simp
      clear X1 X2 X3 X4
      go_wp2_with fail
      refine (H6.out _ _ _ B0.out P0.out).mono ?_
      rintro e wb ⟨rfl,bb⟩
      have BB:Hid (Below w.heap.size w wb):=B0.out.trans (bb.mono B0.out.size)
      clear bb H6 d1 d2 d3 d4 B0 P0
      go_wp2
      go_ret
      exact ⟨rfl,BB.out⟩
    · have hne:(f==0)=false:=by simpa using hf
      obtain rfl:=HS.out hf
      have hq:Hid ((str []).toList.isEmpty=true):=by show _=_;rw [Lib.toList_data];rfl
      clear C4 C5 C6 HS SP
      go_wp2
      go_ret
      exact ⟨by show Ending.returned (.bool (str []).toList.isEmpty)=_;rw [hq.out],B6.out⟩
theorem print_empty {n : Nat} {m : List (MFunc n)} (h : (printL m).2.1 ≠ 0) : (printL m).1 = [] := by
  unfold printL at h ⊢
  repeat' split
  all_goals first | rfl | (rename_i h1 h2 h3;rw [if_neg h1,if_neg h2,if_neg h3] at h;exact absurd rfl h)
theorem back_any {n : Nat} {m : List (MFunc n)} {p : Option Addr} {c : Nat} {w : World} (hm : (modL n).In w All m [.slice p m.length c]) (hw : Laid w) :
    Calls Tryz.prog 6 #[.agg #[.slice p m.length c]] w fun e w'=>e=.returned (.bool true)∧Below w.heap.size w w':=by
  have hp:Pows w:=hw.pow
  have key:∀ {j:Nat} {a:List (MFunc j)},a.length=m.length→(modL j).In w All a [.slice p a.length c]→((printL a).2.1=0→j=6) →
      Calls Tryz.prog 6 #[.agg #[.slice p m.length c]] w fun e w'=>e=.returned (.bool true)∧Below w.heap.size w w':=by
    intro j a ea ha hh
    rw [← ea]
    have hng:∀ {x:List (MFunc j)},bdec (greatMod x)=false→¬ greatMod x:=fun h hg=>by rw [bdec_true hg] at h;cases h
    refine back_walk (g1:=bdec (greatMod a)) (s:=(printL a).1) (f:=(printL a).2.1) (a:=(printL a).2.2) (P4:=fun a4 c4 wx=>(modL j).In wx All a [.slice a4 a.length c4])
      (fun wx hx=>rBegun_any wx (hp.below hx)) (fun wx hx=>greatModule_any _ _ _ _ _ (Lay.below ha hx))
      (fun g1 wx hx=>print_any a p c wx (Lay.below ha hx) (hp.below hx) (msmall_of (hng g1)) (tiny_of (hng g1))) print_empty
      (fun g1 f0 wx hx=>?_) (fun g1 f0 a4 c4 wx hx h4=>?_) (fun g1 f0 a4 c4 wx hx h4=>?_) (fun a4 c4 wx wy h4 hb=>Lay.below h4 hb)
    · obtain rfl:=hh f0
      obtain ⟨a1,a2,a3,a4⟩:=print_ok f0
      rw [a4]
      exact parse_of (parse_print a1 (nOk_of ha) a2 a3) a3 wx (hw.below hx)
    · have:=print_any a a4 c4 wx h4 (hp.below hx) (msmall_of (hng g1)) (tiny_of (hng g1))
      obtain ⟨-,-,-,e⟩:=print_ok f0
      rw [e] at this ⊢
      exact this
    · have:=sameModule_any (Lay.below ha hx) h4 (msmall_of (hng g1))
      rwa [bdec_true rfl] at this
  by_cases fm:(modFault m).1=0
  · exact key (a:=m.map (MFunc.at 5)) (by simp) (by rw [List.length_map];exact mod_at (flat_of fm) hm) fun _=>rfl
  · exact key rfl hm fun h=>absurd h (print_bad fm)
end Go.Proofs.YtalfbnllodhkiacGreatDoor
namespace Go.Proofs.YtalfbnllodhkiacGreatDoor
open Go.ChangeShapes Go.WideShapes Go.ChangeAt Go.RowKit Go.Deep
set_option linter.unusedVariables false
def Wt {H : Type} (P : Program) (t : TypeId) (d : DataW H) : Prop := ∀ n ∈ d.weights P t, n ≤ reachBytes
def ReadsB (P : Program) (t : TypeId) {α : Type} (A : Lay α) (n : Nat) (Bd : α → Prop) : Prop :=
  P.cellsOf t=A.size∧∀ {H:Type} {enc:TypeId × Value→H} {w:World} {base:Nat} {spare:Nat→Bool} {held:Bool} {fuel:Nat} {cs:List Value} {x:DataW H × List MemPlace},
    fuel≤n→DataW.trod enc P w base spare held fuel t cs=some x→Wt P t x.1→∃ d,A.In w (fun _=>True) d cs∧Bd d
theorem ReadsB.int {P : Program} {t : TypeId} (n : Nat) (h : P.underlying t = some (.int .i64)) (hc : P.cellsOf t = 1) : ReadsB P t Lay.int n (fun _ => True) :=
  ⟨hc,fun _ h' _=>by
    obtain ⟨k,e,_,wf⟩:=DataW.trod_int h h'
    exact ⟨k,⟨e,Go.bounds_i64 wf⟩,trivial⟩⟩
theorem weightsAll_mem {H : Type} {P : Program} {e : TypeId} : ∀ {l : List (DataW H)} {d : DataW H}, d ∈ l → ∀ n ∈ d.weights P e, n ∈ DataW.weightsAll P e l
  | d0::l,d,h,n,hn=>by
    simp only [DataW.weightsAll,List.mem_append]
    rcases List.mem_cons.1 h with rfl | h
    · exact .inl hn
    · exact .inr (weightsAll_mem h n hn)
theorem ReadsB.list {P : Program} {t e : TypeId} {α : Type} {A : Lay α} {n : Nat} {Bd : α → Prop} (h : P.underlying t = some (.slice e)) (hc : P.cellsOf t = 1) (hA : ReadsB P e A n Bd) (h0 : 0 < A.size) (hbe : 0 < P.bytesOf e) : ReadsB P t A.list n (fun l => l.length < 1152921504606846976) :=
  ⟨hc,fun {H enc w base spare held fuel cs x} hf h' hw=>by
    rcases DataW.trod_slice h h' with ⟨e2,_⟩ | ⟨a,len,cap,elems,rest,q,rfl,e2,ex,hb,hl,hm,hlen,hel,_,_⟩
    · exact ⟨[],by rw [e2];exact Lay.list_nil A _ _ _ _,by simp⟩
    · have hlw:(elems.length+rest.length)*P.bytesOf e≤reachBytes:=hw _ (by rw [ex];simp [DataW.weights,h])
      have hlb:len<1152921504606846976:=by
        have h1:elems.length*1≤(elems.length+rest.length)*P.bytesOf e:=Nat.mul_le_mul (by omega) hbe
        have h2:reachBytes<1152921504606846976:=by decide
        omega
      have hel':∀ i,i<len→∃ y,elems[i]?=some y∧Wt P e y.1:=fun i hi=>by
        refine ⟨elems[i]'(by omega),List.getElem?_eq_getElem (by omega),fun k hk=>hw k ?_⟩
        rw [ex]
        simp only [DataW.weights,h,List.mem_cons,List.mem_append]
        exact .inr (.inl (weightsAll_mem (List.mem_map_of_mem (List.getElem_mem (by omega))) k hk))
      obtain ⟨l,hll,hp⟩:=list_of' (P:=fun i (d:α)=>∃ ds,w.cells? base (a.add (i*A.size)) A.size=some ds∧A.In w (fun _=>True) d ds) len (fun i hi=>by
        have he:=hel i hi
        obtain ⟨y,hy,hwy⟩:=hel' i hi
        rw [hy,hA.1] at he
        rw [Option.bind_eq_some_iff] at he
        obtain ⟨ds,hds,htr⟩:=he
        obtain ⟨d,hd,_⟩:=hA.2 (by omega) htr hwy
        exact ⟨d,ds,hds,hd⟩)
      refine ⟨l,⟨some a,cap,by rw [e2,hll],fun i x hx=>?_⟩,by omega⟩
      obtain ⟨ds,hds,hd⟩:=hp i x hx
      obtain ⟨_,hcl,hcell⟩:=World.cells?_some hds
      obtain ⟨b,off,spot⟩:=a
      have hspot:spot=none:=by
        have hi:0<l.length:=Nat.lt_of_le_of_lt (Nat.zero_le i) (List.getElem?_eq_some_iff.1 hx).1
        obtain ⟨ds0,hds0,hd0⟩:=hp 0 l[0] (List.getElem?_eq_getElem hi)
        have hl0:0<ds0.length:=by rw [A.len hd0];exact h0
        have:=(World.cells?_some hds0).2.2 0 h0
        rw [List.getElem?_eq_getElem hl0] at this
        simpa [Addr.add] using World.cell?_spot this
      subst hspot
      have key:∀ j,j<A.size→w.cell? ⟨b,off+i*A.size+j,none⟩=ds[j]?:=fun j hj=>by
        have:=hcell j hj
        rw [Go.WideShapes.add_plain,Go.WideShapes.add_plain] at this
        exact this
      refine ⟨b,off,ds,rfl,trivial,?_,key,hd⟩
      have hl0:0<ds.length:=by rw [A.len hd];exact h0
      have:=key 0 h0
      rw [List.getElem?_eq_getElem hl0] at this
      exact World.block_lt_of_cell? w _ this⟩
def FieldsB (P : Program) (fs : Array Field) : Nat → Nat → {α : Type} → Lay α → Nat → (α → Prop) → Prop := fun i o α A n Bd =>
  ∀ (H:Type) (enc:TypeId × Value→H) (w:World) (base:Nat) (spare:Nat→Bool) (held:Bool) (fuel:Nat) (cs:List Value) (xs:List (DataW H × List MemPlace)),
    fuel≤n→cs.length=o+A.size→xs.length=fs.size→(∀ (j:Nat) (f:Field),fs[j]?=some f→DataW.trod enc P w base spare held fuel f.type ((cs.drop f.offset).take (P.cellsOf f.type))=xs[j]?) →
    (∀ (j:Nat) (f:Field) x,fs[j]?=some f→xs[j]?=some x→Wt P f.type x.1)→∃ d,A.In w (fun _=>True) d (cs.drop o)∧Bd d
theorem FieldsB.last {P : Program} {fs : Array Field} {i o n : Nat} {f : Field} {α : Type} {A : Lay α} {Bd : α → Prop} (hf : fs[i]? = some f) (ho : f.offset = o) (hA : ReadsB P f.type A n Bd) : FieldsB P fs i o A n Bd := by
  intro H enc w base spare held fuel cs xs hn hl hx h hw
  have g:=h i f hf
  have hi:i<fs.size:=(Array.getElem?_eq_some_iff.1 hf).1
  rw [List.getElem?_eq_getElem (by omega),ho,hA.1] at g
  obtain ⟨d,hd,hb⟩:=hA.2 hn g (hw i f _ hf (List.getElem?_eq_getElem (by omega)))
  refine ⟨d,?_,hb⟩
  rwa [List.take_of_length_le (by simp;omega)] at hd
theorem FieldsB.cons {P : Program} {fs : Array Field} {i o n : Nat} {f : Field} {α β : Type} {A : Lay α} {B : Lay β} {Bd : α → Prop} {Be : β → Prop} (hf : fs[i]? = some f) (ho : f.offset = o) (hA : ReadsB P f.type A n Bd) (hB : FieldsB P fs (i + 1) (o + A.size) B n Be) : FieldsB P fs i o (A.pair B) n (fun x => Bd x.1 ∧ Be x.2) := by
  intro H enc w base spare held fuel cs xs hn hl hx h hw
  have g:=h i f hf
  have hi:i<fs.size:=(Array.getElem?_eq_some_iff.1 hf).1
  rw [List.getElem?_eq_getElem (by omega),ho,hA.1] at g
  obtain ⟨d,hd,hb⟩:=hA.2 hn g (hw i f _ hf (List.getElem?_eq_getElem (by omega)))
  have hs:(A.pair B).size=A.size+B.size:=rfl
  obtain ⟨e,he,hb2⟩:=hB _ _ _ _ _ _ _ _ _ hn (by omega) hx h hw
  refine ⟨(d,e),⟨_,_,?_,hd,he⟩,hb,hb2⟩
  rw [← List.drop_drop,List.take_append_drop]
theorem ReadsB.struct {P : Program} {t : TypeId} {fs : Array Field} {α : Type} {A : Lay α} {n : Nat} {Bd : α → Prop} (h : P.underlying t = some (.struct fs)) (hc : P.cellsOf t = A.size) (hF : FieldsB P fs 0 0 A n Bd) : ReadsB P t A n Bd :=
  ⟨hc,fun {H enc w base spare held fuel cs x} hf h' hw=>by
    obtain ⟨xs,m,rfl,ex,hcl,hxl,hfl⟩:=DataW.trod_struct h h'
    obtain ⟨d,hd,hb⟩:=hF _ _ _ _ _ _ _ _ _ (by omega) (by rw [hcl,hc];omega) hxl hfl (fun j f y hj hy k hk=>hw k (by
      rw [ex]
      simp only [DataW.weights,h]
      exact DataW.weights_mem_each (j:=j) (t:=f.type) (d:=y.1) (by simp [hj]) (by simp [hy]) k hk))
    exact ⟨d,by simpa using hd,hb⟩⟩
theorem ReadsB.via {P : Program} {t : TypeId} {α β : Type} {A : Lay α} {n : Nat} {f : β → α} {Bd : α → Prop} (h : ReadsB P t A n Bd) (g : α → β) (hg : ∀ d, f (g d) = d) : ReadsB P t (A.via f) n (fun x => Bd (f x)) :=
  ⟨h.1,fun hf h' hw=>by
    obtain ⟨d,hd,hb⟩:=h.2 hf h' hw
    exact ⟨g d,by show A.In _ _ (f (g d)) _;rw [hg];exact hd,by show Bd (f (g d));rw [hg];exact hb⟩⟩
theorem own : ownKnob Tryz.prog.godebug = none := by kernel_rfl
theorem laidOut : laidOutB Tryz.prog = true := by kernel_rfl
theorem fieldsT : ∃ f0 f1 f2 : Field, Tryz.prog.underlying 78 = some (.struct #[f0, f1, f2]) ∧
    (f0.offset=0∧Tryz.prog.cellsOf f0.type=1∧Tryz.prog.underlying f0.type=some (.int .i64))∧(f1.offset=1∧Tryz.prog.cellsOf f1.type=1∧Tryz.prog.underlying f1.type=some (.int .i64)) ∧
    (f2.offset=2∧Tryz.prog.cellsOf f2.type=1∧f2.type=39) :=
  ⟨_,_,_,Tryz.underlying78,⟨rfl,by kernel_rfl,by kernel_rfl⟩,⟨rfl,by kernel_rfl,by kernel_rfl⟩,⟨rfl,by kernel_rfl,rfl⟩⟩
theorem readsT (n : Nat) : ReadsB Tryz.prog 78 (Lay.tt n) n (fun _ => True) :=
  ⟨by kernel_rfl,fun {H enc w base spare held fuel cs x} hf h' hw=>by
    obtain ⟨f0,f1,f2,e,h0,h1,h2⟩:=fieldsT
    obtain ⟨t,a,c,hc,h3,h4⟩:=tin_of (ti:=0) Tryz.underlying39 e (by kernel_rfl) h0 h1 h2 n fuel hf h'
    exact ⟨t,⟨a,c,hc,h3,h4⟩,trivial⟩⟩
theorem readsI (n : Nat) : ReadsB Tryz.prog 3 Lay.int n (fun _ => True) := ReadsB.int n Tryz.underlying3 (by kernel_rfl)
theorem readsI6 (n : Nat) : ReadsB Tryz.prog 2 Lay.int n (fun _ => True) := ReadsB.int n Tryz.underlying2 (by kernel_rfl)
theorem readsIs (n : Nat) : ReadsB Tryz.prog 43 intsL n (fun l => l.length < 1152921504606846976) := ReadsB.list Tryz.underlying43 (by kernel_rfl) (readsI n) (by decide) (by rw [show Tryz.prog.bytesOf 3 = 8 from by kernel_rfl]; decide)
theorem readsTs (n : Nat) : ReadsB Tryz.prog 39 (typesL n) n (fun l => l.length < 1152921504606846976) := ReadsB.list Tryz.underlying39 (by kernel_rfl) (readsT n) (by show 0 < 3; decide) (by rw [show Tryz.prog.bytesOf 78 = 40 from by kernel_rfl]; decide)
theorem readsIns (n : Nat) : ReadsB Tryz.prog 45 insL n (fun x => x.regs.length < 1152921504606846976 ∧ x.args.length < 1152921504606846976) := by
  have h:=ReadsB.struct (n:=n) (A:=Lay.int.pair (Lay.int.pair (Lay.int.pair (Lay.int.pair (Lay.int.pair (Lay.int.pair (intsL.pair intsL))))))) Tryz.underlying45 (by kernel_rfl) (FieldsB.cons rfl rfl (readsI n) (FieldsB.cons rfl rfl (readsI n) (FieldsB.cons rfl rfl (readsI n) (FieldsB.cons rfl rfl (readsI n) (FieldsB.cons rfl rfl (readsI n) (FieldsB.cons rfl rfl (readsI6 n) (FieldsB.cons rfl rfl (readsIs n) (FieldsB.last rfl rfl (readsIs n)))))))))
  have h2:=h.via (f:=fun x:MIns=>(x.op,x.a,x.b,x.c,x.k,x.n,x.regs,x.args)) (fun d=>⟨d.1,d.2.1,d.2.2.1,d.2.2.2.1,d.2.2.2.2.1,d.2.2.2.2.2.1,d.2.2.2.2.2.2.1,d.2.2.2.2.2.2.2⟩) (fun d=>rfl)
  exact ⟨h2.1,fun hf h' hw=>by obtain ⟨d,hd,hb⟩:=h2.2 hf h' hw;exact ⟨d,hd,hb.2.2.2.2.2.2⟩⟩
theorem readsTo (n : Nat) : ReadsB Tryz.prog 48 toL n (fun x => x.regs.length < 1152921504606846976 ∧ x.args.length < 1152921504606846976) := by
  have h:=ReadsB.struct (n:=n) (A:=Lay.int.pair (intsL.pair intsL)) Tryz.underlying48 (by kernel_rfl) (FieldsB.cons rfl rfl (readsI n) (FieldsB.cons rfl rfl (readsIs n) (FieldsB.last rfl rfl (readsIs n))))
  have h2:=h.via (f:=fun x:MTo=>(x.block,x.regs,x.args)) (fun d=>⟨d.1,d.2.1,d.2.2⟩) (fun d=>rfl)
  exact ⟨h2.1,fun hf h' hw=>by obtain ⟨d,hd,hb⟩:=h2.2 hf h' hw;exact ⟨d,hd,hb.2⟩⟩
theorem readsEnd (n : Nat) : ReadsB Tryz.prog 50 endL n (fun x => (x.yes.regs.length < 1152921504606846976 ∧ x.yes.args.length < 1152921504606846976) ∧ (x.no.regs.length < 1152921504606846976 ∧ x.no.args.length < 1152921504606846976) ∧ x.args.length < 1152921504606846976) := by
  have h:=ReadsB.struct (n:=n) (A:=Lay.int.pair (Lay.int.pair (toL.pair (toL.pair intsL)))) Tryz.underlying50 (by kernel_rfl) (FieldsB.cons rfl rfl (readsI n) (FieldsB.cons rfl rfl (readsI n) (FieldsB.cons rfl rfl (readsTo n) (FieldsB.cons rfl rfl (readsTo n) (FieldsB.last rfl rfl (readsIs n))))))
  have h2:=h.via (f:=fun x:MEnd=>(x.op,x.a,x.yes,x.no,x.args)) (fun d=>⟨d.1,d.2.1,d.2.2.1,d.2.2.2.1,d.2.2.2.2⟩) (fun d=>rfl)
  exact ⟨h2.1,fun hf h' hw=>by obtain ⟨d,hd,hb⟩:=h2.2 hf h' hw;exact ⟨d,hd,hb.2.2⟩⟩
theorem readsInss (n : Nat) : ReadsB Tryz.prog 46 insL.list n (fun l => l.length < 1152921504606846976) := ReadsB.list Tryz.underlying46 (by kernel_rfl) (readsIns n) (by decide) (by rw [show Tryz.prog.bytesOf 45 = 96 from by kernel_rfl]; decide)
theorem readsBlock (n : Nat) : ReadsB Tryz.prog 52 (blockL n) n (fun _ => True) := by
  have h:=ReadsB.struct (n:=n) (A:=Lay.int.pair ((typesL n).pair (insL.list.pair endL))) Tryz.underlying52 (by kernel_rfl) (FieldsB.cons rfl rfl (readsI n) (FieldsB.cons rfl rfl (readsTs n) (FieldsB.cons rfl rfl (readsInss n) (FieldsB.last rfl rfl (readsEnd n)))))
  have h2:=h.via (f:=fun x:MBlock n=>(x.regs,x.params,x.code,x.fin)) (fun d=>⟨d.1,d.2.1,d.2.2.1,d.2.2.2⟩) (fun d=>rfl)
  exact ⟨h2.1,fun hf h' hw=>by obtain ⟨d,hd,hb⟩:=h2.2 hf h' hw;exact ⟨d,hd,trivial⟩⟩
theorem readsBlocks (n : Nat) : ReadsB Tryz.prog 40 (blockL n).list n (fun l => l.length < 1152921504606846976) := ReadsB.list Tryz.underlying40 (by kernel_rfl) (readsBlock n) (by show 0 < 12; decide) (by rw [show Tryz.prog.bytesOf 52 = 208 from by kernel_rfl]; decide)
theorem readsFunc (n : Nat) : ReadsB Tryz.prog 42 (funcL n) n (fun _ => True) := by
  have h:=ReadsB.struct (n:=n) (A:=Lay.int.pair ((typesL n).pair ((typesL n).pair (blockL n).list))) Tryz.underlying42 (by kernel_rfl) (FieldsB.cons rfl rfl (readsI n) (FieldsB.cons rfl rfl (readsTs n) (FieldsB.cons rfl rfl (readsTs n) (FieldsB.last rfl rfl (readsBlocks n)))))
  have h2:=h.via (f:=fun x:MFunc n=>(x.regs,x.params,x.results,x.blocks)) (fun d=>⟨d.1,d.2.1,d.2.2.1,d.2.2.2⟩) (fun d=>rfl)
  exact ⟨h2.1,fun hf h' hw=>by obtain ⟨d,hd,hb⟩:=h2.2 hf h' hw;exact ⟨d,hd,trivial⟩⟩
theorem readsFuncs (n : Nat) : ReadsB Tryz.prog 23 (modL n) n (fun l => l.length < 1152921504606846976) := ReadsB.list Tryz.underlying23 (by kernel_rfl) (readsFunc n) (by show 0 < 4; decide) (by rw [show Tryz.prog.bytesOf 42 = 80 from by kernel_rfl]; decide)
theorem readsMod (n : Nat) : ReadsB Tryz.prog 25 (modL n) n (fun _ => True) := by
  have h:=ReadsB.struct (n:=n) (A:=modL n) Tryz.underlying25 (by kernel_rfl) (FieldsB.last rfl rfl (readsFuncs n))
  exact ⟨h.1,fun hf h' hw=>by obtain ⟨d,hd,hb⟩:=h.2 hf h' hw;exact ⟨d,hd,trivial⟩⟩
theorem powG : Tryz.prog.globalNamed "internal/strconv.uint64pow10" = some 2 := by kernel_rfl
theorem powT : (Tryz.prog.globals[2]?).map (·.type) = some 216 := by kernel_rfl
theorem powD : (Rows.laid_internal_strconv_uint64pow10 : DataW Unit) = Lib.tabData .u64 Lib.pow10Tab := by kernel_rfl
theorem synG : Tryz.prog.globalNamed "strconv.ErrSyntax" = some 0 := by kernel_rfl
theorem synT : (Tryz.prog.globals[0]?).map (·.type) = some 151 := by kernel_rfl
theorem rngG : Tryz.prog.globalNamed "strconv.ErrRange" = some 1 := by kernel_rfl
theorem rngT : (Tryz.prog.globals[1]?).map (·.type) = some 151 := by kernel_rfl
theorem cellsE : Tryz.prog.cellsOf 227 = 1 := by kernel_rfl
theorem cellsS : Tryz.prog.cellsOf 9 = 1 := by kernel_rfl
theorem starE : "*" ++ "errors.errorString" = "*errors.errorString" := by decide
theorem rowE (u : TypeId) (h : Tryz.prog.typeName? 3 u = some "*errors.errorString") : u = 225 :=
  typeName_ptr_named (nm := "errors.errorString") (by rw [starE]; kernel_rfl) (by kernel_rfl) (by decide) u (by rw [starE]; exact h)
theorem laid_all {W : World} {a b : String × DataW Unit} (h : laidMet Tryz.prog [a, b, ("internal/strconv.uint64pow10", Rows.laid_internal_strconv_uint64pow10), ("strconv.ErrRange", Rows.laid_strconv_ErrRange), ("strconv.ErrSyntax", Rows.laid_strconv_ErrSyntax)] W) : Laid W := by
  have h3:=h.tail.tail
  have h4:=h3.tail
  have h5:=h4.tail
  rw [powD] at h3
  obtain ⟨a1,s1,hv1,-,-,-⟩:=laid_sentinel h4 rngG rngT Tryz.underlying151 rowE Tryz.underlying225 Tryz.underlying227 rfl rfl Tryz.underlying9 cellsE cellsS
  obtain ⟨a0,s0,hv0,-,-,-⟩:=laid_sentinel h5 synG synT Tryz.underlying151 rowE Tryz.underlying225 Tryz.underlying227 rfl rfl Tryz.underlying9 cellsE cellsS
  exact ⟨Lib.tabIs_of_head powG powT Tryz.underlying216 Tryz.underlying189 (by kernel_rfl) (by kernel_rfl) h3,⟨_,_,hv0⟩,⟨_,_,hv1⟩⟩
theorem ragg_of {v : Value} {l : List Value} (hv : ∃ cs : Array Value, v = .agg cs ∧ True) (h : v.cells.toList = l) : v = .agg l.toArray := by
  obtain ⟨⟨cs⟩,rfl,_⟩:=hv
  simp only [Value.cells] at h
  rw [← h]
end Go.Proofs.YtalfbnllodhkiacGreatDoor
