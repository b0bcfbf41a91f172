import Derived.Test.YtjodmledadbgeacGreatDoorP4
set_option maxHeartbeats 16000000
set_option maxRecDepth 100000
namespace Go.Proofs.YtjodmledadbgeacGreatDoor
open Go.ChangeShapes Go.WideShapes Go.ChangeAt Go.RowKit
set_option linter.unusedVariables false
theorem fold_take_succ {α : Type} (f : α → Nat) (l : List α) (i : Nat) (x : α) (h : l[i]? = some x) : ((l.map f).take (i + 1)).foldl max 0 = max (((l.map f).take i).foldl max 0) (f x) := by
  rw [List.take_add_one,List.getElem?_map,h]
  simp
theorem fold_take_le (l : List Nat) (i : Nat) : (l.take i).foldl max 0 ≤ l.foldl max 0 := by
  rw [foldl_max_le]
  exact ⟨Nat.zero_le _,fun x hx=>(foldl_max_le.1 (Nat.le_refl (l.foldl max 0))).2 x (List.mem_of_mem_take hx)⟩
theorem deepOf_any : ∀ (n : Nat) (t : TT n) (a : Option Addr) (c : Nat) (w : World) (m : Nat), TIn w All t a → t.count ≤ 100000 → m ≤ 4 →
    Calls Tryz.prog 79 #[Tv t a c,.int .i64 m] w fun e w'=>e=.returned (.int .i64 ((min t.height (m+1):Nat):Int))∧Below w.heap.size w w':=by
  intro n
  induction n with
  | zero=>intro t;exact Empty.elim t
  | succ n ih =>
    intro t a c w m ht hct hm4
    have IH:Hid (∀ (t:TT n) (a:Option Addr) (c:Nat) (w:World) (m:Nat),TIn w All t a→t.count≤100000→m≤4 →
      Calls Tryz.prog 79 #[Tv t a c,.int .i64 m] w fun e w'=>e=.returned (.int .i64 ((min t.height (m+1):Nat):Int))∧Below w.heap.size w w'):=ih
    clear ih
    have hT:Hid (LIn w All t.2.2 a):=ht.list
    have hco:Hid (∀ x ∈ t.2.2,x.count≤100000):=fun x hx=>by have:=t.count_kid hx;omega
    have hlen:t.2.2.length≤100000:=by have:=t.len_lt_count;rw [t.len_eq] at this;omega
    have hh:Hid (t.height=(t.2.2.map (fun x=>1+x.height)).foldl max 0):=rfl
    generalize t.height=h at hh ⊢
    simp only [Tv,TT.len_eq]
    generalize t.2.2=l at hT hco hh hlen ⊢
    generalize t.kind=k
    generalize t.r=r
    clear ht hct t
    generalize hres:((min h (m+1):Nat):Int)=res
    have hR:Hid (((min h (m+1):Nat):Int)=res):=hres
    clear hres
    go_enter Tryz.func79,Tryz.ntmps79
    go_wp2_with fail
    have X0:Hid (Bx w (w.alloc (.cells #[.int .i64 k,.int .i64 r,.slice a l.length c] 74)) k r a l.length c):=Bx.start w k r a l.length c
    generalize w.alloc (.cells #[.int .i64 k,.int .i64 r,.slice a l.length c] 74)=w1 at X0 ⊢
    go_loopw [5,6] (fun v i wr=>∃ q y:Nat,q≤l.length∧i=.int .i64 q∧v=.int .i64 y∧y=min (((l.map (fun x=>1+x.height)).take q).foldl max 0) (m+1)∧Bx w wr k r a l.length c) (fun _ i _=>l.length - (intOf i).toNat)
    case atStart=>exact ⟨0,0,Nat.zero_le _,rfl,rfl,by simp,X0.out⟩
    case round =>
      clear X0
      obtain ⟨q,y,hq,rfl,rfl,hy,hX⟩:=hrel
      have Y:Hid (y=min (((l.map (fun x=>1+x.height)).take q).foldl max 0) (m+1)):=hy
      have X1:Hid (Bx w wr k r a l.length c):=hX
      have e2:wr.cell? ⟨w.heap.size,2,none⟩=some (.slice a l.length c):=cellOf hX.box 2 _ rfl
      have hyb:(y:Int)≤5:=by omega
      clear hy
      by_cases hlt:q < l.length
      · have hk0:(0:Int)≤q:=by omega
        have hk1:(q:Int) < l.length:=by omega
        by_cases hym:y≤m
        · have hx:l[q]?=some l[q]:=List.getElem?_eq_getElem hlt
          generalize l[q]=x at hx
          obtain ⟨g,o,a',c',rfl,_,d0,d1,d2,hk⟩:=LIn.at (hT.out.below hX.bel) hx
          have hS:=fold_take_succ (fun x:TT n=>1+x.height) l q x hx
          have hym':(y:Int)≤m:=by omega
          by_cases hz:m=0
          · have hz':((m:Int) == 0)=true:=by simp;omega
            have F:Hid (res=1):=by
              have h1:=fold_take_le (l.map (fun x=>1+x.height)) (q+1)
              have h2:=hh.out
              have h3:=hR.out
              rw [hS] at h1
              show res=1
              omega
            clear hX hk hx hz hS hym
            go_wp2_with fail
            go_ret
            exact ⟨by rw [F.out];rfl,X1.out.bel⟩
          · have hz':((m:Int) == 0)=false:=by simp;omega
            have C:Hid (∀ wx,Below wr.heap.size wr wx→Calls Tryz.prog 79 #[Tv x a' c',.int .i64 ((m:Int) - 1)] wx fun e w'=>e=.returned (.int .i64 ((min x.height m:Nat):Int))∧Below wx.heap.size wx w'):=fun wx hb=>by
              have:=IH.out x a' c' wx (m - 1) (hk.below hb) (hco.out x (List.mem_of_getElem? hx)) (by omega)
              rw [show ((m - 1:Nat):Int)=(m:Int) - 1 by omega,show m - 1+1=m by omega] at this
              exact this
            have hm0:(1:Int)≤m:=by omega
            have hm1:(m:Int)≤4:=by omega
            generalize hz1:min x.height m=z at C
            have hz2:(z:Int)≤4:=by omega
            have Z:Hid (max y (1+z)=min (((l.map (fun x=>1+x.height)).take (q+1)).foldl max 0) (m+1)):=by
              rw [hS]
              have:=Y.out
              show _=_
              omega
            clear hX hk hx hz hS hz1 Y hym
            simp only [Tv] at C
            generalize x.kind=kx at C d0
            generalize x.r=rx at C d1
            generalize x.len=lx at C d2
            go_wp2_with fail
            refine (C.out _ (Below.refl _ _)).mono ?_
            rintro e w2 ⟨rfl,b2⟩
            have X2:Hid (Bx w w2 k r (some ⟨g,o,none⟩) l.length c):=X1.out.below b2
            clear X1 b2 C d0 d1 d2 e2
            by_cases hd:(y:Int) < 1+z
            · go_wp2
              go_roundw
              case rel=>exact ⟨q+1,1+z,by omega,by go_num,by go_num,by rw [← Z.out];omega,X2.out⟩
              case measure=>simp [intOf];omega
            · go_wp2
              go_roundw
              case rel=>exact ⟨q+1,y,by omega,by go_num,rfl,by rw [← Z.out];omega,X2.out⟩
              case measure=>simp [intOf];omega
        · have F:Hid (res=y):=by
            have h1:=fold_take_le (l.map (fun x=>1+x.height)) q
            have h2:=hh.out
            have h3:=hR.out
            have:=Y.out
            show res=y
            omega
          have hym':¬ (y:Int)≤m:=by omega
          clear hX hym Y
          go_wp2
          go_ret
          exact ⟨by rw [F.out];rfl,X1.out.bel⟩
      · have F:Hid (res=y):=by
          have h2:=hh.out
          have h3:=hR.out
          have:=Y.out
          rw [List.take_of_length_le (by simp;omega)] at this
          show res=y
          omega
        have hk1:¬ (q:Int) < l.length:=by omega
        clear hX Y
        go_wp2
        go_ret
        exact ⟨by rw [F.out];rfl,X1.out.bel⟩
def CheckAt (f : Nat) : Prop := ∀ (n : Nat) (t : TT n) (a : Option Addr) (c : Nat) (regs : Int) (w : World), TIn w All t a → t.count ≤ 100000 →
    Calls Tryz.prog f #[Tv t a c,.int .i64 regs] w fun e w'=>e=.returned (.int .i64 (t.check regs))∧Below w.heap.size w w'
theorem typeFaultT_any : CheckAt 54 := by
  intro n t a c regs w ht hc
  have C1:Hid (∀ wx,Below w.heap.size w wx→Calls Tryz.prog 79 #[Tv t a c,.int .i64 4] wx fun e w'=>e=.returned (.int .i64 ((min t.height 5:Nat):Int))∧Below wx.heap.size wx w') :=
    fun wx hb=>deepOf_any n t a c wx 4 (ht.below hb) hc (by omega)
  have C2:Hid (∀ wx,Below w.heap.size w wx→Calls Tryz.prog 80 #[Tv t a c,.int .i64 regs] wx fun e w'=>e=.returned (.int .i64 (t.fault regs))∧Below wx.heap.size wx w') :=
    fun wx hb=>typeFault_any n t a c regs wx (ht.below hb) hc
  have E:Hid (t.check regs=if 4 < t.height then 19 else t.fault regs):=rfl
  generalize t.check regs=res at E ⊢
  clear ht hc
  simp only [Tv] at C1 C2 ⊢
  generalize t.kind=k at C1 C2 ⊢
  generalize t.r=r at C1 C2 ⊢
  generalize t.len=len at C1 C2 ⊢
  generalize t.fault regs=v at C2 E
  generalize hm:min t.height 5=q at C1
  go_enter Tryz.func54,Tryz.ntmps54
  go_wp2_with fail
  have X0:=Bx.start w k r a len c
  generalize w.alloc (.cells #[.int .i64 k,.int .i64 r,.slice a len c] 74)=w1 at X0 ⊢
  refine (C1.out _ X0.bel).mono ?_
  rintro e w2 ⟨rfl,b2⟩
  have X2:Hid (Bx w w2 k r a len c):=X0.below b2
  have e0:=cellOf X2.out.box 0 _ rfl
  have e1:=cellOf X2.out.box 1 _ rfl
  have e2:=cellOf X2.out.box 2 _ rfl
  clear X0 b2 C1
  by_cases hd:4 < t.height
  · have R:Hid (res=19):=by have:=E.out;rwa [if_pos hd] at this
    have hq:(4:Int) < q:=by omega
    clear hd hm
    go_wp2_with fail
    go_ret
    exact ⟨by rw [R.out];rfl,X2.out.bel⟩
  · have R:Hid (res=v):=by have:=E.out;rwa [if_neg hd] at this
    have hq:¬ (4:Int) < q:=by omega
    clear hd hm
    go_wp2_with fail
    refine (C2.out _ X2.out.bel).mono ?_
    rintro e w3 ⟨rfl,b3⟩
    have X3:Hid (Bx w w3 k r a len c):=X2.out.below b3
    clear X2 b3 C2 e0 e1 e2
    go_wp2_with fail
    go_ret
    exact ⟨by rw [R.out];rfl,X3.out.bel⟩
theorem ownCode_any (k r : Int) (a : Option Addr) (len c : Nat) (regs : Int) (w : World) :
    Calls Tryz.prog 159 #[.agg #[.int .i64 k,.int .i64 r,.slice a len c],.int .i64 regs] w fun e w'=>e=.returned (.int .i64 (ownC k r len regs))∧Below w.heap.size w w':=by
  rcases (show k < 1 ∨ (¬ k < 1∧4 < k) ∨ k=1 ∨ k=2 ∨ k=4 ∨ k=3 by omega) with h1 | ⟨h1,h2⟩ | rfl | rfl | rfl | rfl
  · rw [show ownC _ _ len regs=3 by unfold ownC;repeat' split;all_goals omega]
    go_enter Tryz.func159,Tryz.ntmps159
    go_wp2_with fail
    go_ret
    exact ⟨rfl,(Below.refl _ w).alloc (Nat.le_refl _) _⟩
  · rw [show ownC _ _ len regs=3 by unfold ownC;repeat' split;all_goals omega]
    go_enter Tryz.func159,Tryz.ntmps159
    go_wp2_with fail
    go_ret
    exact ⟨rfl,(Below.refl _ w).alloc (Nat.le_refl _) _⟩
  · rcases (show r≠0 ∨ (r=0∧0 < len) ∨ (r=0∧len=0) by omega) with h1 | ⟨rfl,h1⟩ | ⟨rfl,h1⟩
    · have g1:(r != 0)=true:=by simpa using h1
      rw [show ownC _ _ len regs=4 by unfold ownC;repeat' split;all_goals omega]
      go_enter Tryz.func159,Tryz.ntmps159
      go_wp2_with fail
      go_ret
      exact ⟨rfl,(Below.refl _ w).alloc (Nat.le_refl _) _⟩
    · have g1:(0:Int) < (len:Int):=by omega
      rw [show ownC _ _ len regs=4 by unfold ownC;repeat' split;all_goals omega]
      go_enter Tryz.func159,Tryz.ntmps159
      go_wp2_with fail
      go_ret
      exact ⟨rfl,(Below.refl _ w).alloc (Nat.le_refl _) _⟩
    · have g1:¬ (0:Int) < (len:Int):=by omega
      have g2:¬ (8:Int) < (len:Int):=by omega
      rw [show ownC _ _ len regs=0 by unfold ownC;repeat' split;all_goals omega]
      go_enter Tryz.func159,Tryz.ntmps159
      go_wp2_with fail
      go_ret
      exact ⟨rfl,(Below.refl _ w).alloc (Nat.le_refl _) _⟩
  · rcases (show 0 < len ∨ (len=0∧r < 0) ∨ (len=0∧0≤r∧regs≤r) ∨ (len=0∧0≤r∧r < regs) by omega) with h1 | ⟨h1,h2⟩ | ⟨h1,h2,h3⟩ | ⟨h1,h2,h3⟩
    · have g1:(0:Int) < (len:Int):=by omega
      rw [show ownC _ _ len regs=4 by unfold ownC;repeat' split;all_goals omega]
      go_enter Tryz.func159,Tryz.ntmps159
      go_wp2_with fail
      go_ret
      exact ⟨rfl,(Below.refl _ w).alloc (Nat.le_refl _) _⟩
    · have g1:¬ (0:Int) < (len:Int):=by omega
      have g2:¬ (8:Int) < (len:Int):=by omega
      rw [show ownC _ _ len regs=1 by unfold ownC;repeat' split;all_goals omega]
      go_enter Tryz.func159,Tryz.ntmps159
      go_wp2_with fail
      go_ret
      exact ⟨rfl,(Below.refl _ w).alloc (Nat.le_refl _) _⟩
    · have g1:¬ (0:Int) < (len:Int):=by omega
      have g2:¬ (8:Int) < (len:Int):=by omega
      rw [show ownC _ _ len regs=1 by unfold ownC;repeat' split;all_goals omega]
      go_enter Tryz.func159,Tryz.ntmps159
      go_wp2_with fail
      go_ret
      exact ⟨rfl,(Below.refl _ w).alloc (Nat.le_refl _) _⟩
    · have g1:¬ (0:Int) < (len:Int):=by omega
      have g2:¬ (8:Int) < (len:Int):=by omega
      rw [show ownC _ _ len regs=0 by unfold ownC;repeat' split;all_goals omega]
      go_enter Tryz.func159,Tryz.ntmps159
      go_wp2_with fail
      go_ret
      exact ⟨rfl,(Below.refl _ w).alloc (Nat.le_refl _) _⟩
  · rcases (show 0 < len ∨ (len=0∧r < 0) ∨ (len=0∧0≤r∧regs≤r) ∨ (len=0∧0≤r∧r < regs) by omega) with h1 | ⟨h1,h2⟩ | ⟨h1,h2,h3⟩ | ⟨h1,h2,h3⟩
    · have g1:(0:Int) < (len:Int):=by omega
      rw [show ownC _ _ len regs=4 by unfold ownC;repeat' split;all_goals omega]
      go_enter Tryz.func159,Tryz.ntmps159
      go_wp2_with fail
      go_ret
      exact ⟨rfl,(Below.refl _ w).alloc (Nat.le_refl _) _⟩
    · have g1:¬ (0:Int) < (len:Int):=by omega
      have g2:¬ (8:Int) < (len:Int):=by omega
      rw [show ownC _ _ len regs=1 by unfold ownC;repeat' split;all_goals omega]
      go_enter Tryz.func159,Tryz.ntmps159
      go_wp2_with fail
      go_ret
      exact ⟨rfl,(Below.refl _ w).alloc (Nat.le_refl _) _⟩
    · have g1:¬ (0:Int) < (len:Int):=by omega
      have g2:¬ (8:Int) < (len:Int):=by omega
      rw [show ownC _ _ len regs=1 by unfold ownC;repeat' split;all_goals omega]
      go_enter Tryz.func159,Tryz.ntmps159
      go_wp2_with fail
      go_ret
      exact ⟨rfl,(Below.refl _ w).alloc (Nat.le_refl _) _⟩
    · have g1:¬ (0:Int) < (len:Int):=by omega
      have g2:¬ (8:Int) < (len:Int):=by omega
      rw [show ownC _ _ len regs=0 by unfold ownC;repeat' split;all_goals omega]
      go_enter Tryz.func159,Tryz.ntmps159
      go_wp2_with fail
      go_ret
      exact ⟨rfl,(Below.refl _ w).alloc (Nat.le_refl _) _⟩
  · rcases (show 8 < len ∨ (len≤8∧r < 0) ∨ (len≤8∧0≤r∧regs≤r) ∨ (len≤8∧0≤r∧r < regs) by omega) with h1 | ⟨h1,h2⟩ | ⟨h1,h2,h3⟩ | ⟨h1,h2,h3⟩
    · have g1:(8:Int) < (len:Int):=by omega
      rw [show ownC _ _ len regs=2 by unfold ownC;repeat' split;all_goals omega]
      go_enter Tryz.func159,Tryz.ntmps159
      go_wp2_with fail
      go_ret
      exact ⟨rfl,(Below.refl _ w).alloc (Nat.le_refl _) _⟩
    · have g1:¬ (8:Int) < (len:Int):=by omega
      rw [show ownC _ _ len regs=1 by unfold ownC;repeat' split;all_goals omega]
      go_enter Tryz.func159,Tryz.ntmps159
      go_wp2_with fail
      go_ret
      exact ⟨rfl,(Below.refl _ w).alloc (Nat.le_refl _) _⟩
    · have g1:¬ (8:Int) < (len:Int):=by omega
      rw [show ownC _ _ len regs=1 by unfold ownC;repeat' split;all_goals omega]
      go_enter Tryz.func159,Tryz.ntmps159
      go_wp2_with fail
      go_ret
      exact ⟨rfl,(Below.refl _ w).alloc (Nat.le_refl _) _⟩
    · have g1:¬ (8:Int) < (len:Int):=by omega
      rw [show ownC _ _ len regs=0 by unfold ownC;repeat' split;all_goals omega]
      go_enter Tryz.func159,Tryz.ntmps159
      go_wp2_with fail
      go_ret
      exact ⟨rfl,(Below.refl _ w).alloc (Nat.le_refl _) _⟩
theorem firstCode_any : ∀ n, FaultAt 142 n := by
  intro n
  induction n with
  | zero=>intro t;exact Empty.elim t
  | succ n ih =>
    intro t a c regs w ht hct
    have IH:Hid (FaultAt 142 n):=ih
    clear ih
    have hT:Hid (LIn w All t.2.2 a):=ht.list
    have hco:Hid (∀ x ∈ t.2.2,x.count≤100000):=fun x hx=>by have:=t.count_kid hx;omega
    have hlen:t.2.2.length≤100000:=by have:=t.len_lt_count;rw [t.len_eq] at this;omega
    have hF:Hid (t.fault regs=if ownC t.kind t.r t.2.2.length regs≠0 then ownC t.kind t.r t.2.2.length regs else firstL (TT.fault regs) t.2.2):=rfl
    generalize t.fault regs=res at hF ⊢
    simp only [Tv,TT.len_eq]
    generalize t.2.2=l at hT hco hF hlen ⊢
    generalize t.kind=k at hF ⊢
    generalize t.r=r at hF ⊢
    clear ht hct t
    go_enter Tryz.func142,Tryz.ntmps142
    go_wp2_with fail
    have X0:Hid (Bx w (w.alloc (.cells #[.int .i64 k,.int .i64 r,.slice a l.length c] 74)) k r a l.length c):=Bx.start w k r a l.length c
    refine (ownCode_any k r a l.length c regs _).mono ?_
    rintro e w1 ⟨rfl,b1⟩
    have X1:Hid (Bx w w1 k r a l.length c):=X0.out.below b1
    clear X0 b1
    by_cases hz:ownC k r l.length regs=0
    · have R:Hid (res=firstL (TT.fault regs) l):=by
        have:=hF.out
        rw [hz] at this
        show res=firstL (TT.fault regs) l
        simpa using this
      rw [hz]
      clear hz hF
      have e2:w1.cell? ⟨w.heap.size,2,none⟩=some (.slice a l.length c):=cellOf X1.out.box 2 _ rfl
      go_wp2_with fail
      clear e2
      go_loopw [18] (fun i wr=>∃ q:Nat,q≤l.length∧i=.int .i64 q∧(∀ (j:Nat) x,j < q→l[j]?=some x→x.fault regs=0)∧Bx w wr k r a l.length c) (fun i _=>l.length - (intOf i).toNat)
      case atStart=>exact ⟨0,Nat.zero_le _,rfl,fun j x hj=>by omega,X1.out⟩
      case round =>
        clear X1
        obtain ⟨q,hq,rfl,hall,hX⟩:=hrel
        have A:Hid (∀ (j:Nat) x,j < q→l[j]?=some x→x.fault regs=0):=hall
        have X1:Hid (Bx w wr k r a l.length c):=hX
        clear hall
        by_cases hlt:q < l.length
        · have hx:l[q]?=some l[q]:=List.getElem?_eq_getElem hlt
          generalize l[q]=x at hx
          obtain ⟨g,o,a',c',rfl,_,d0,d1,d2,hk⟩:=LIn.at (hT.out.below hX.bel) hx
          have hx':Hid (l[q]?=some x):=hx
          have hk0:(0:Int)≤q:=by omega
          have hk1:(q:Int) < l.length:=by omega
          have C:Hid (∀ wx,Below wr.heap.size wr wx→Calls Tryz.prog 142 #[Tv x a' c',.int .i64 regs] wx fun e w'=>e=.returned (.int .i64 (x.fault regs))∧Below wx.heap.size wx w') :=
            fun wx hb=>IH.out x a' c' regs wx (hk.below hb) (hco.out x (List.mem_of_getElem? hx))
          clear hX hk hx
          simp only [Tv] at C
          generalize x.kind=kx at C d0
          generalize x.r=rx at C d1
          generalize x.len=lx at C d2
          go_wp2_with fail
          have B1:Below wr.heap.size wr (wr.alloc (.cells #[.int .i64 kx,.int .i64 rx,.slice a' lx c'] 74)):=(Below.refl _ wr).alloc (Nat.le_refl _) _
          refine (C.out _ B1).mono ?_
          rintro e w2 ⟨rfl,b2⟩
          have X2:Hid (Bx w w2 k r (some ⟨g,o,none⟩) l.length c):=(X1.out.below B1).below b2
          clear X1 b2 B1 C d0 d1 d2
          by_cases hd:x.fault regs=0
          · have A2:Hid (∀ (j:Nat) x,j < q+1→l[j]?=some x→x.fault regs=0):=fun j y hj hy=>by
              by_cases e:j=q
              · subst e
                rw [hx'.out] at hy
                cases hy
                exact hd
              · exact A.out j y (by omega) hy
            rw [hd]
            clear hd A
            go_wp2
            go_roundw
            case rel=>exact ⟨q+1,by omega,by go_num,A2.out,X2.out⟩
            case measure=>simp [intOf];omega
          · have Rv:Hid (res=x.fault regs):=R.out.trans (firstL_eq hx'.out A.out hd)
            have hd':(x.fault regs != 0)=true:=by simpa using hd
            generalize x.fault regs=v at hd' Rv ⊢
            clear hd A
            go_wp2
            go_ret
            exact ⟨by rw [Rv.out];rfl,X2.out.bel⟩
        · have Rv:Hid (res=0):=R.out.trans (firstL_zero (fun j y hy=>A.out j y (by have:=(List.getElem?_eq_some_iff.1 hy).1;omega) hy))
          have hk1:¬ (q:Int) < l.length:=by omega
          clear hX A
          go_wp2
          go_ret
          exact ⟨by rw [Rv.out];rfl,X1.out.bel⟩
    · have R:Hid (res=ownC k r l.length regs):=by
        have:=hF.out
        rwa [if_pos hz] at this
      have hz':(ownC k r l.length regs != 0)=true:=by simpa using hz
      generalize ownC k r l.length regs=v at hz' R ⊢
      clear hz hF
      go_wp2_with fail
      go_ret
      exact ⟨by rw [R.out];rfl,X1.out.bel⟩
theorem lt_height {n : Nat} {l : List (TT n)} {k r : Int} {m : Nat} : m < TT.height (n := n + 1) (mkT k r l) ↔ ∃ (i : Nat) (x : TT n), l[i]? = some x ∧ m < 1 + x.height := by
  rw [← Nat.not_le,height_le]
  constructor
  · intro h
    simp only [Classical.not_forall] at h
    obtain ⟨x,hx,h2⟩:=h
    obtain ⟨i,hi,rfl⟩:=List.mem_iff_getElem.1 hx
    exact ⟨i,_,List.getElem?_eq_getElem hi,by omega⟩
  · rintro ⟨i,x,hx,h2⟩ h
    have:=h x (List.mem_of_getElem? (l:=l) hx)
    omega
theorem deeper_any : ∀ (n : Nat) (t : TT n) (a : Option Addr) (c : Nat) (w : World) (m : Nat), TIn w All t a → t.count ≤ 100000 → m ≤ 4 →
    Calls Tryz.prog 141 #[Tv t a c,.int .i64 m] w fun e w'=>e=.returned (.bool (decide (m < t.height)))∧Below w.heap.size w w':=by
  intro n
  induction n with
  | zero=>intro t;exact Empty.elim t
  | succ n ih =>
    intro t a c w m ht hct hm4
    have IH:Hid (∀ (t:TT n) (a:Option Addr) (c:Nat) (w:World) (m:Nat),TIn w All t a→t.count≤100000→m≤4 →
      Calls Tryz.prog 141 #[Tv t a c,.int .i64 m] w fun e w'=>e=.returned (.bool (decide (m < t.height)))∧Below w.heap.size w w'):=ih
    clear ih
    have hT:Hid (LIn w All t.2.2 a):=ht.list
    have hco:Hid (∀ x ∈ t.2.2,x.count≤100000):=fun x hx=>by have:=t.count_kid hx;omega
    have hlen:t.2.2.length≤100000:=by have:=t.len_lt_count;rw [t.len_eq] at this;omega
    have hh:Hid (m < t.height ↔ ∃ (i:Nat) (x:TT n),t.2.2[i]?=some x∧m < 1+x.height):=lt_height
    generalize t.height=h at hh ⊢
    simp only [Tv,TT.len_eq]
    generalize t.2.2=l at hT hco hh hlen ⊢
    generalize t.kind=k
    generalize t.r=r
    clear ht hct t
    go_enter Tryz.func141,Tryz.ntmps141
    go_wp2_with fail
    have X0:Hid (Bx w (w.alloc (.cells #[.int .i64 k,.int .i64 r,.slice a l.length c] 74)) k r a l.length c):=Bx.start w k r a l.length c
    generalize w.alloc (.cells #[.int .i64 k,.int .i64 r,.slice a l.length c] 74)=w1 at X0 ⊢
    go_loopw [10] (fun i wr=>∃ q:Nat,q≤l.length∧i=.int .i64 q∧(∀ (j:Nat) x,j < q→l[j]?=some x→1+x.height≤m)∧Bx w wr k r a l.length c) (fun i _=>l.length - (intOf i).toNat)
    case atStart=>exact ⟨0,Nat.zero_le _,rfl,fun j x hj=>by omega,X0.out⟩
    case round =>
      clear X0
      obtain ⟨q,hq,rfl,hall,hX⟩:=hrel
      have A:Hid (∀ (j:Nat) x,j < q→l[j]?=some x→1+x.height≤m):=hall
      have X1:Hid (Bx w wr k r a l.length c):=hX
      clear hall
      by_cases hlt:q < l.length
      · have hx:l[q]?=some l[q]:=List.getElem?_eq_getElem hlt
        generalize l[q]=x at hx
        obtain ⟨g,o,a',c',rfl,_,d0,d1,d2,hk⟩:=LIn.at (hT.out.below hX.bel) hx
        have hg:g < wr.heap.size:=World.block_lt_of_cell? wr ⟨g,o+q * 3,none⟩ d0
        have hx':Hid (l[q]?=some x):=hx
        have hk0:(0:Int)≤q:=by omega
        have hk1:(q:Int) < l.length:=by omega
        by_cases hz:m=0
        · have hD:Hid (m < h):=hh.out.2 ⟨q,x,hx,by omega⟩
          have hz':((m:Int) == 0)=true:=by simp;omega
          clear hX hk hx hz
          go_wp2_with fail
          go_ret
          exact ⟨by rw [decide_eq_true hD.out];rfl,(X1.out.alloc _).bel⟩
        · have hz':((m:Int) == 0)=false:=by simp;omega
          have C:Hid (∀ wx,Below wr.heap.size wr wx→Calls Tryz.prog 141 #[Tv x a' c',.int .i64 ((m:Int) - 1)] wx fun e w'=>e=.returned (.bool (decide (m - 1 < x.height)))∧Below wx.heap.size wx w'):=fun wx hb=>by
            have:=IH.out x a' c' wx (m - 1) (hk.below hb) (hco.out x (List.mem_of_getElem? hx)) (by omega)
            rw [show ((m - 1:Nat):Int)=(m:Int) - 1 by omega] at this
            exact this
          have hm0:(1:Int)≤m:=by omega
          have hm1:(m:Int)≤4:=by omega
          have hm5:Hid (1≤m):=by show 1≤m;omega
          clear hX hk hx hz
          simp only [Tv] at C
          generalize x.kind=kx at C d0
          generalize x.r=rx at C d1
          generalize x.len=lx at C d2
          go_wp2_with fail
          have B1:Below wr.heap.size wr (wr.alloc (.cells #[.int .i64 kx,.int .i64 rx,.slice a' lx c'] 74)):=(Below.refl _ wr).alloc (Nat.le_refl _) _
          refine (C.out _ B1).mono ?_
          rintro e w2 ⟨rfl,b2⟩
          have X2:Hid (Bx w w2 k r (some ⟨g,o,none⟩) l.length c):=(X1.out.below B1).below b2
          clear X1 b2 B1 C d0 d1 d2
          by_cases hd:m - 1 < x.height
          · have hD:Hid (m < h):=hh.out.2 ⟨q,x,hx'.out,by have:=hm5.out;omega⟩
            rw [decide_eq_true hd]
            clear hd
            go_wp2
            go_ret
            exact ⟨by rw [decide_eq_true hD.out];rfl,X2.out.bel⟩
          · have A2:Hid (∀ (j:Nat) x,j < q+1→l[j]?=some x→1+x.height≤m):=fun j y hj hy=>by
              by_cases e:j=q
              · subst e
                rw [hx'.out] at hy
                cases hy
                have:=hm5.out
                omega
              · exact A.out j y (by omega) hy
            rw [decide_eq_false hd]
            clear hd A
            go_wp2
            go_roundw
            case rel=>exact ⟨q+1,by omega,by go_num,A2.out,X2.out⟩
            case measure=>simp [intOf];omega
      · have hD:Hid (¬ m < h):=fun hc=>by
          obtain ⟨i,x,hx,h3⟩:=hh.out.1 hc
          have:=A.out i x (by have:=(List.getElem?_eq_some_iff.1 hx).1;omega) hx
          omega
        have hk1:¬ (q:Int) < l.length:=by omega
        clear hX A
        go_wp2
        go_ret
        exact ⟨by rw [decide_eq_false hD.out];rfl,X1.out.bel⟩
theorem check_any : CheckAt 116 := by
  intro n t a c regs w ht hc
  have C1:Hid (∀ wx,Below w.heap.size w wx→Calls Tryz.prog 141 #[Tv t a c,.int .i64 4] wx fun e w'=>e=.returned (.bool (decide (4 < t.height)))∧Below wx.heap.size wx w') :=
    fun wx hb=>deeper_any n t a c wx 4 (ht.below hb) hc (by omega)
  have C2:Hid (∀ wx,Below w.heap.size w wx→Calls Tryz.prog 142 #[Tv t a c,.int .i64 regs] wx fun e w'=>e=.returned (.int .i64 (t.fault regs))∧Below wx.heap.size wx w') :=
    fun wx hb=>firstCode_any n t a c regs wx (ht.below hb) hc
  have E:Hid (t.check regs=if 4 < t.height then 19 else t.fault regs):=rfl
  generalize t.check regs=res at E ⊢
  clear ht hc
  simp only [Tv] at C1 C2 ⊢
  generalize t.kind=k at C1 C2 ⊢
  generalize t.r=r at C1 C2 ⊢
  generalize t.len=len at C1 C2 ⊢
  generalize t.fault regs=v at C2 E
  go_enter Tryz.func116,Tryz.ntmps116
  go_wp2_with fail
  have X0:=Bx.start w k r a len c
  generalize w.alloc (.cells #[.int .i64 k,.int .i64 r,.slice a len c] 74)=w1 at X0 ⊢
  refine (C1.out _ X0.bel).mono ?_
  rintro e w2 ⟨rfl,b2⟩
  have X2:Hid (Bx w w2 k r a len c):=X0.below b2
  have e0:=cellOf X2.out.box 0 _ rfl
  have e1:=cellOf X2.out.box 1 _ rfl
  have e2:=cellOf X2.out.box 2 _ rfl
  clear X0 b2 C1
  by_cases hd:4 < t.height
  · rw [decide_eq_true hd]
    have R:Hid (res=19):=by have:=E.out;rwa [if_pos hd] at this
    clear hd
    go_wp2_with fail
    go_ret
    exact ⟨by rw [R.out];rfl,X2.out.bel⟩
  · rw [decide_eq_false hd]
    have R:Hid (res=v):=by have:=E.out;rwa [if_neg hd] at this
    clear hd
    go_wp2_with fail
    refine (C2.out _ X2.out.bel).mono ?_
    rintro e w3 ⟨rfl,b3⟩
    have X3:Hid (Bx w w3 k r a len c):=X2.out.below b3
    clear X2 b3 C2 e0 e1 e2
    go_wp2_with fail
    go_ret
    exact ⟨by rw [R.out];rfl,X3.out.bel⟩
end Go.Proofs.YtjodmledadbgeacGreatDoor
namespace Go.Proofs.YtjodmledadbgeacGreatDoor
open Go.ChangeShapes Go.WideShapes Go.ChangeAt Go.RowKit
set_option linter.unusedSimpArgs false
set_option linter.unusedVariables false
abbrev faultV (p : Int × Int) : Value := .agg #[.int .i64 p.1, .int .i64 p.2]
def atF (c p : Int) : Int × Int := if c = 0 then (0, 0) else (c, p)
theorem firstF_at {α : Type} {f : Nat → α → Int × Int} : ∀ {l : List α} {j : Nat}, firstF (fun i x => atF (f i x).1 (f i x).2) j l = firstF f j l
  | [],_=>rfl
  | x::xs,j=>by
    simp only [firstF,atF]
    by_cases h:(f j x).1=0
    · simp only [h,if_true,ne_eq,not_true_eq_false,if_false]
      exact firstF_at
    · simp [h]
def MFunc.code {n : Nat} (f : Nat) (x : MFunc n) : Int :=
  if x.regs < 0 ∨ 6 < x.regs then 1 else if listC x.regs x.params≠0 then listC x.regs x.params else if listC x.regs x.results≠0 then listC x.regs x.results
  else if x.blocks.length < 1 ∨ 12 < x.blocks.length then 2 else if f=0∧¬ (x.regs=0∧x.params.length=0∧x.results.all (fun t=>t.kind == 1)=true) then 18 else 0
theorem MFunc.fault_eq {n : Nat} (funcs f : Nat) (x : MFunc n) : MFunc.fault funcs f x = if x.code f = 0 then firstF (fun b y => MBlock.fault funcs f x b y) 0 x.blocks else (x.code f, 10000 * (f : Int) + 9999) := by
  unfold MFunc.fault MFunc.code
  generalize listC x.regs x.params=lp
  generalize listC x.regs x.results=lr
  generalize firstF (fun b y=>MBlock.fault funcs f x b y) 0 x.blocks=ff
  repeat' split
  all_goals first | rfl | (exfalso;omega) | contradiction
def MBlock.code' {n : Nat} (fn : MFunc n) (b : Nat) (x : MBlock n) : Int :=
  if x.regs < fn.regs ∨ 16 < x.regs then 1 else if listC x.regs x.params≠0 then listC x.regs x.params
  else if b=0∧(x.regs≠fn.regs ∨ sameL x.params fn.params=false) then 9 else if 40 < x.code.length then 2 else 0
theorem MBlock.fault_eq {n : Nat} (funcs f : Nat) (fn : MFunc n) (b : Nat) (x : MBlock n) : MBlock.fault funcs f fn b x =
    if x.code' fn b=0 then (if (firstF (fun i y=>(MIns.form funcs y,(10000 * f+100 * b+i:Int))) 0 x.code).1=0 then atF (x.fin.form fn.blocks.length) (10000 * (f:Int)+100 * (b:Int)+91)
      else firstF (fun i y=>(MIns.form funcs y,(10000 * f+100 * b+i:Int))) 0 x.code) else (x.code' fn b,10000 * (f:Int)+100 * (b:Int)+90):=by
  unfold MBlock.fault MBlock.code' atF
  generalize firstF (fun i y=>(MIns.form funcs y,(10000 * f+100 * b+i:Int))) 0 x.code=ff
  generalize x.fin.form fn.blocks.length=ef
  generalize listC x.regs x.params=lp
  repeat' split
  all_goals first | rfl | (exfalso;omega) | contradiction
def idxK {n : Nat} : Nat → List (TT n) → Int
  | _,[]=>-1
  | i,t::ts=>if t.kind=1 then idxK (i+1) ts else (i:Int)
theorem idxK_at {n : Nat} : ∀ (l : List (TT n)) (i j : Nat) (x : TT n), l[i]? = some x → (∀ k y, k < i → l[k]? = some y → y.kind = 1) → ¬ x.kind = 1 → idxK j l = ((j + i : Nat) : Int)
  | [],i,j,x,h,_,_=>by simp at h
  | y::ys,0,j,x,h,_,hx=>by
    simp at h;subst h
    simp [idxK,hx]
  | y::ys,i+1,j,x,h,hz,hx=>by
    have h0:y.kind=1:=hz 0 y (by omega) rfl
    simp only [idxK,h0,if_true]
    rw [idxK_at ys i (j+1) x (by simpa using h) (fun k z hk hkz=>hz (k+1) z (by omega) (by simpa using hkz)) hx]
    congr 1;omega
theorem idxK_no {n : Nat} : ∀ (l : List (TT n)) (j : Nat), (∀ (k : Nat) y, l[k]? = some y → y.kind = 1) → idxK j l = -1
  | [],_,_=>rfl
  | y::ys,j,h=>by
    have h0:y.kind=1:=h 0 y rfl
    simp only [idxK,h0,if_true]
    exact idxK_no ys (j+1) (fun k z hz=>h (k+1) z (by simpa using hz))
theorem idxK_iff {n : Nat} : ∀ (l : List (TT n)) (j : Nat), (0 ≤ idxK j l) ↔ ¬ l.all (fun t => t.kind == 1) = true
  | [],j=>by simp [idxK]
  | y::ys,j=>by
    by_cases h:y.kind=1
    · simp only [idxK,h,if_true,List.all_cons,beq_self_eq_true,Bool.true_and]
      exact idxK_iff ys (j+1)
    · simp [idxK,h]
theorem rd_typeFault {n : Nat} {t : TT n} {a : Option Addr} {c : Nat} {regs : Int} {w : World} (ht : TIn w All t a) (hc : t.count ≤ 100000) : Rd Tryz.prog 54 #[Tv t a c, .int .i64 regs] w (.int .i64 (t.check regs)) := typeFaultT_any n t a c regs w ht hc
theorem rd_check {n : Nat} {t : TT n} {a : Option Addr} {c : Nat} {regs : Int} {w : World} (ht : TIn w All t a) (hc : t.count ≤ 100000) : Rd Tryz.prog 116 #[Tv t a c, .int .i64 regs] w (.int .i64 (t.check regs)) := check_any n t a c regs w ht hc
theorem firstL_at {α : Type} {f : α → Int} : ∀ {l : List α} {i : Nat} {x : α}, l[i]? = some x → (∀ k y, k < i → l[k]? = some y → f y = 0) → f x ≠ 0 → firstL f l = f x
  | [],i,x,h,_,_=>by simp at h
  | y::ys,0,x,h,_,hf=>by
    simp at h;subst h
    simp [firstL,hf]
  | y::ys,i+1,x,h,hz,hf=>by
    have h0:f y=0:=hz 0 y (by omega) rfl
    simp only [firstL,h0,ne_eq,not_true_eq_false,if_false]
    exact firstL_at (by simpa using h) (fun k z hk hkz=>hz (k+1) z (by omega) (by simpa using hkz)) hf
theorem firstL_no {α : Type} {f : α → Int} : ∀ {l : List α}, (∀ (k : Nat) y, l[k]? = some y → f y = 0) → firstL f l = 0
  | [],_=>rfl
  | y::ys,h=>by
    have h0:f y=0:=h 0 y rfl
    simp only [firstL,h0,ne_eq,not_true_eq_false,if_false]
    exact firstL_no (fun k z hz=>h (k+1) z (by simpa using hz))
theorem listForm_any {n : Nat} {l : List (TT n)} {p : Option Addr} {c : Nat} {regs : Int} {w : World} (hl0 : (typesL n).In w All l [.slice p l.length c]) (hs0 : tsmall l) :
    Rd Tryz.prog 30 #[.slice p l.length c,.int .i64 regs] w (.int .i64 (listC regs l)):=by
  have hl:Hid _:=hl0
  have hs:Hid _:=hs0
  have hsb:=hs0.1
  clear hl0 hs0
  refine fr_enter (n:=25) Tryz.func30 rfl rfl rfl ?_
  intro a hF
  have hW:=Wd.start w
  replace hF:Fr 25 a [(0,.slice p l.length c),(1,.int .i64 regs)]:=hF
  refine wp_seq_k fun K1 hK1=>?_
  refine rg hF fun ops=>?_;clear hF a
  refine sa trivial rfl rfl ?_
  refine St.nil fun a2 h2=>?_
  refine hK1 _ _ ?_
  refine wp_seq_k fun K3 hK3=>?_
  refine wp_seq_k fun K4 hK4=>?_
  refine rg h2 fun ops=>?_;clear h2 a2
  refine sm trivial rfl rfl ?_
  refine slTypes trivial rfl rfl ?_
  refine sgt trivial rfl rfl rfl ?_
  refine St.nil fun a5 h5=>?_
  refine hK4 _ _ ?_
  refine fr_cond (t:=9) h5 rfl (fun hb=>?_) (fun hb=>?_)
  ·have hbig:8 < l.length:=by have:=of_decide_eq_true hb;omega
   clear hb
   refine wp_seq_k fun K6 hK6=>?_
   refine rg h5 fun ops=>?_;clear h5 a5
   refine sa trivial rfl rfl ?_
   refine St.nil fun a7 h7=>?_
   refine hK6 _ _ ?_
   refine wp_ret ?_;with_reducible repeat first | refine of_then_ret ?_ | refine of_block_ret ?_
   have R:listC regs l=2:=by unfold listC;rw [if_pos hbig]
   exact ret_tmp (t:=4) h7 rfl rfl ⟨by rw [R],hW.bel⟩
  have hbig:¬ (8 < l.length):=by have:=of_decide_eq_false hb;omega
  clear hb
  refine wp_skip ?_
  refine hK3 _ _ ?_
  refine wp_seq_k fun K8 hK8=>?_
  refine wp_seq_k fun K9 hK9=>?_
  refine rg h5 fun ops=>?_;clear h5 a5
  refine sa trivial rfl rfl ?_
  refine St.nil fun a10 h10=>?_
  refine hK9 _ _ ?_
  refine wp_block ?_
  refine fr_loop (fun r a w'=>∃ q:Nat,q≤l.length∧r=l.length - q∧(∀ (j:Nat) y,j < q→l[j]?=some y→y.check regs=0)∧Fr 25 a [(1,.int .i64 regs),(0,.slice p l.length c),(4,.int .i64 0),(5,.int .i64 (q:Int))]∧Wd w w' []) (l.length) ⟨0,Nat.zero_le _,rfl,(fun j y hj=>by omega),(h10.keep (h10.keep (h10.keep (h10.keep h10.nil (t:=5) rfl) (t:=4) rfl) (t:=0) rfl) (t:=1) rfl),hW⟩ ?_
  clear h10 hW
  rintro r a11 w11 ⟨q,hq,hr,hall,hF11,hW11⟩ KL hKL
  refine wp_seq_k fun K12 hK12=>?_
  refine wp_seq_k fun K13 hK13=>?_
  refine rg hF11 fun ops=>?_;clear hF11 a11
  refine sm trivial rfl rfl ?_
  refine sm trivial rfl rfl ?_
  refine slTypes trivial rfl rfl ?_
  refine slt trivial rfl rfl rfl ?_
  refine St.nil fun a14 h14=>?_
  refine hK13 _ _ ?_
  refine fr_cond (t:=13) h14 rfl (fun hb=>?_) (fun hb=>?_)
  ·have hlt1:q < l.length:=by have:=of_decide_eq_true hb;omega
   clear hb
   obtain ⟨t,hx1⟩:∃ v9,(l)[q]?=some v9:=⟨_,List.getElem?_eq_getElem hlt1⟩
   obtain ⟨g1,o1,pt1,ct1,hp1,E1,In1⟩:=lin_at (types_lin hl.out).1 hx1
   replace In1:Hid _:=In1
   replace hp1:Hid _:=hp1
   replace hx1:Hid _:=hx1
   replace E1:Hid _:=E1
   refine wp_skip ?_
   refine hK12 _ _ ?_
   refine wp_seq_k fun K15 hK15=>?_
   refine wp_block ?_
   refine wp_seq_k fun K16 hK16=>?_
   refine rg h14 fun ops=>?_;clear h14 a14
   refine sm trivial rfl rfl ?_
   refine sm trivial rfl rfl ?_
   refine siTypes hp1.out hlt1 trivial rfl rfl rfl ?_
   refine sSE Tryz.underlying74 rfl (rangeAt_bel E1.out hW11.bel) infType trivial rfl rfl ?_
   refine sm trivial rfl rfl ?_
   refine sc_2 cf54 hW11 (rd_typeFault (c:=ct1) (regs:=regs) (TIn.below In1.out hW11.bel) (hs.out.2 _ (List.mem_of_getElem? hx1.out))) trivial rfl rfl rfl ?_
   clear hW11;intro w17 hW17
   refine sa trivial rfl rfl ?_
   refine St.nil fun a18 h18=>?_
   refine hK16 _ _ ?_
   refine wp_seq_k fun K19 hK19=>?_
   refine rg h18 fun ops=>?_;clear h18 a18
   refine sm trivial rfl rfl ?_
   refine sne trivial rfl rfl rfl ?_
   refine St.nil fun a20 h20=>?_
   refine hK19 _ _ ?_
   refine fr_cond (t:=23) h20 rfl (fun hb=>?_) (fun hb=>?_)
   ·have h9:¬ (t.check regs)=0:=bne_iff_ne.1 hb
    have hne:¬ (t.check regs)=0:=h9
    clear h9
    clear hb
    refine wp_seq_k fun K21 hK21=>?_
    refine rg h20 fun ops=>?_;clear h20 a20
    refine sm trivial rfl rfl ?_
    refine sa trivial rfl rfl ?_
    refine St.nil fun a22 h22=>?_
    refine hK21 _ _ ?_
    refine wp_ret ?_;with_reducible repeat first | refine of_then_ret ?_ | refine of_block_ret ?_
    have R:listC regs l=t.check regs:=by unfold listC;rw [if_neg hbig];exact firstL_at hx1.out (fun k y hk hy=>hall k y hk hy) hne
    exact ret_tmp (t:=4) h22 rfl rfl ⟨by rw [R],hW17.bel⟩
   have h9:(t.check regs)=0:=bne_eq_false_iff_eq.1 hb
   have hne:Hid ((t.check regs)=0):=h9
   clear h9
   clear hb
   refine wp_skip ?_
   refine hK15 _ _ ?_
   refine rg h20 fun ops=>?_;clear h20 a20
   refine sm trivial rfl rfl ?_
   refine sad (by omega) trivial rfl rfl rfl ?_
   refine sa trivial rfl rfl ?_
   refine St.nil fun a23 h23=>?_
   refine hKL _ _ (l.length - (q+1)) (by omega) ⟨q+1,by omega,rfl,?_,(h23.keep (h23.keep (h23.keep (h23.keep h23.nil (t:=5) rfl) (t:=4) rfl) (t:=0) rfl) (t:=1) rfl),hW17⟩
   ·intro j y hj hy
    by_cases e:j=q
    · subst e;rw [hx1.out] at hy;cases hy;exact hne.out
    · exact hall j y (by omega) hy
  have hge:q=l.length:=by have:=of_decide_eq_false hb;omega
  clear hb
  refine wp_exit ?_
  refine hK8 _ _ ?_
  refine wp_seq_k fun K24 hK24=>?_
  refine rg h14 fun ops=>?_;clear h14 a14
  refine sa trivial rfl rfl ?_
  refine St.nil fun a25 h25=>?_
  refine hK24 _ _ ?_
  refine wp_ret ?_;with_reducible repeat first | refine of_then_ret ?_ | refine of_block_ret ?_
  have R:listC regs l=0:=by unfold listC;rw [if_neg hbig];exact firstL_no (fun k y hy=>hall k y (by have:=(List.getElem?_eq_some_iff.1 hy).1;omega) hy)
  exact ret_tmp (t:=4) h25 rfl rfl ⟨by rw [R],hW11.bel⟩
theorem typesCode_any {n : Nat} {l : List (TT n)} {p : Option Addr} {c : Nat} {regs : Int} {w : World} (hl0 : (typesL n).In w All l [.slice p l.length c]) (hs0 : tsmall l) :
    Rd Tryz.prog 91 #[.slice p l.length c,.int .i64 regs] w (.int .i64 (listC regs l)):=by
  have hl:Hid _:=hl0
  have hs:Hid _:=hs0
  have hsb:=hs0.1
  clear hl0 hs0
  refine fr_enter (n:=24) Tryz.func91 rfl rfl rfl ?_
  intro a hF
  have hW:=Wd.start w
  replace hF:Fr 24 a [(0,.slice p l.length c),(1,.int .i64 regs)]:=hF
  refine wp_seq_k fun K1 hK1=>?_
  refine rg hF fun ops=>?_;clear hF a
  refine sa trivial rfl rfl ?_
  refine St.nil fun a2 h2=>?_
  refine hK1 _ _ ?_
  refine wp_seq_k fun K3 hK3=>?_
  refine wp_seq_k fun K4 hK4=>?_
  refine rg h2 fun ops=>?_;clear h2 a2
  refine sm trivial rfl rfl ?_
  refine slTypes trivial rfl rfl ?_
  refine sgt trivial rfl rfl rfl ?_
  refine St.nil fun a5 h5=>?_
  refine hK4 _ _ ?_
  refine fr_cond (t:=10) h5 rfl (fun hb=>?_) (fun hb=>?_)
  ·have hbig:8 < l.length:=by have:=of_decide_eq_true hb;omega
   clear hb
   refine wp_seq_k fun K6 hK6=>?_
   refine rg h5 fun ops=>?_;clear h5 a5
   refine sa trivial rfl rfl ?_
   refine St.nil fun a7 h7=>?_
   refine hK6 _ _ ?_
   refine wp_ret ?_;with_reducible repeat first | refine of_then_ret ?_ | refine of_block_ret ?_
   have R:listC regs l=2:=by unfold listC;rw [if_pos hbig]
   exact ret_tmp (t:=4) h7 rfl rfl ⟨by rw [R],hW.bel⟩
  have hbig:¬ (8 < l.length):=by have:=of_decide_eq_false hb;omega
  clear hb
  refine wp_skip ?_
  refine hK3 _ _ ?_
  refine wp_seq_k fun K8 hK8=>?_
  refine wp_seq_k fun K9 hK9=>?_
  refine rg h5 fun ops=>?_;clear h5 a5
  refine sm trivial rfl rfl ?_
  refine slTypes trivial rfl rfl ?_
  refine sm trivial rfl rfl ?_
  refine St.nil fun a10 h10=>?_
  refine hK9 _ _ ?_
  refine wp_block ?_
  refine fr_loop (fun r a w'=>∃ q:Nat,q≤l.length∧r=l.length - q∧(∀ (j:Nat) y,j < q→l[j]?=some y→y.check regs=0)∧Fr 24 a [(1,.int .i64 regs),(0,.slice p l.length c),(4,.int .i64 0),(11,.slice p l.length c),(12,.int .i64 (l.length:Int)),(13,.int .i64 (q:Int))]∧Wd w w' []) (l.length) ⟨0,Nat.zero_le _,rfl,(fun j y hj=>by omega),(h10.keep (h10.keep (h10.keep (h10.keep (h10.keep (h10.keep h10.nil (t:=13) rfl) (t:=12) rfl) (t:=11) rfl) (t:=4) rfl) (t:=0) rfl) (t:=1) rfl),hW⟩ ?_
  clear h10 hW
  rintro r a11 w11 ⟨q,hq,hr,hall,hF11,hW11⟩ KL hKL
  refine wp_seq_k fun K12 hK12=>?_
  refine rg hF11 fun ops=>?_;clear hF11 a11
  refine slt trivial rfl rfl rfl ?_
  refine St.nil fun a13 h13=>?_
  refine hK12 _ _ ?_
  refine wp_seq_k fun K14 hK14=>?_
  refine fr_cond (t:=14) h13 rfl (fun hb=>?_) (fun hb=>?_)
  ·have hlt1:q < l.length:=by have:=of_decide_eq_true hb;omega
   clear hb
   obtain ⟨t,hx1⟩:∃ v9,(l)[q]?=some v9:=⟨_,List.getElem?_eq_getElem hlt1⟩
   obtain ⟨g1,o1,pt1,ct1,hp1,E1,In1⟩:=lin_at (types_lin hl.out).1 hx1
   replace In1:Hid _:=In1
   replace hp1:Hid _:=hp1
   replace hx1:Hid _:=hx1
   replace E1:Hid _:=E1
   refine wp_skip ?_
   refine hK14 _ _ ?_
   refine wp_seq_k fun K15 hK15=>?_
   refine wp_block ?_
   refine wp_seq_k fun K16 hK16=>?_
   refine rg h13 fun ops=>?_;clear h13 a13
   refine siTypes hp1.out hlt1 trivial rfl rfl rfl ?_
   refine sSE Tryz.underlying74 rfl (rangeAt_bel E1.out hW11.bel) infType trivial rfl rfl ?_
   refine sAType hW11 trivial rfl ?_
   clear hW11;intro w17 B17 hW17 hN;clear hN
   refine sT 0 hW17 rfl rfl infType rfl rfl rfl ?_
   clear hW17;intro w18 hW18
   refine St.nil fun a19 h19=>?_
   refine hK16 _ _ ?_
   refine wp_seq_k fun K20 hK20=>?_
   refine rg h19 fun ops=>?_;clear h19 a19
   refine sS 0 3 Tryz.underlying74 rfl infType hW18 trivial rfl rfl rfl rfl ?_
   refine sm trivial rfl rfl ?_
   refine sc_2 cf116 hW18 (rd_check (c:=ct1) (regs:=regs) (TIn.below In1.out hW18.bel) (hs.out.2 _ (List.mem_of_getElem? hx1.out))) trivial rfl rfl rfl ?_
   clear hW18;intro w21 hW21
   refine sa trivial rfl rfl ?_
   refine St.nil fun a22 h22=>?_
   refine hK20 _ _ ?_
   refine wp_seq_k fun K23 hK23=>?_
   refine rg h22 fun ops=>?_;clear h22 a22
   refine sm trivial rfl rfl ?_
   refine sne trivial rfl rfl rfl ?_
   refine St.nil fun a24 h24=>?_
   refine hK23 _ _ ?_
   refine fr_cond (t:=21) h24 rfl (fun hb=>?_) (fun hb=>?_)
   ·have h9:¬ (t.check regs)=0:=bne_iff_ne.1 hb
    have hne:¬ (t.check regs)=0:=h9
    clear h9
    clear hb
    refine wp_seq_k fun K25 hK25=>?_
    refine rg h24 fun ops=>?_;clear h24 a24
    refine sm trivial rfl rfl ?_
    refine sa trivial rfl rfl ?_
    refine St.nil fun a26 h26=>?_
    refine hK25 _ _ ?_
    refine wp_ret ?_;with_reducible repeat first | refine of_then_ret ?_ | refine of_block_ret ?_
    have R:listC regs l=t.check regs:=by unfold listC;rw [if_neg hbig];exact firstL_at hx1.out (fun k y hk hy=>hall k y hk hy) hne
    exact ret_tmp (t:=4) h26 rfl rfl ⟨by rw [R],hW21.bel⟩
   have h9:(t.check regs)=0:=bne_eq_false_iff_eq.1 hb
   have hne:Hid ((t.check regs)=0):=h9
   clear h9
   clear hb
   refine wp_skip ?_
   refine hK15 _ _ ?_
   refine rg h24 fun ops=>?_;clear h24 a24
   refine sad (by omega) trivial rfl rfl rfl ?_
   refine sm trivial rfl rfl ?_
   refine St.nil fun a27 h27=>?_
   refine hKL _ _ (l.length - (q+1)) (by omega) ⟨q+1,by omega,rfl,?_,(h27.keep (h27.keep (h27.keep (h27.keep (h27.keep (h27.keep h27.nil (t:=13) rfl) (t:=12) rfl) (t:=11) rfl) (t:=4) rfl) (t:=0) rfl) (t:=1) rfl),hW21.tail⟩
   ·intro j y hj hy
    by_cases e:j=q
    · subst e;rw [hx1.out] at hy;cases hy;exact hne.out
    · exact hall j y (by omega) hy
  have hge:q=l.length:=by have:=of_decide_eq_false hb;omega
  clear hb
  refine wp_exit ?_
  refine hK8 _ _ ?_
  refine wp_seq_k fun K28 hK28=>?_
  refine rg h13 fun ops=>?_;clear h13 a13
  refine sa trivial rfl rfl ?_
  refine St.nil fun a29 h29=>?_
  refine hK28 _ _ ?_
  refine wp_ret ?_;with_reducible repeat first | refine of_then_ret ?_ | refine of_block_ret ?_
  have R:listC regs l=0:=by unfold listC;rw [if_neg hbig];exact firstL_no (fun k y hy=>hall k y (by have:=(List.getElem?_eq_some_iff.1 hy).1;omega) hy)
  exact ret_tmp (t:=4) h29 rfl rfl ⟨by rw [R],hW11.bel⟩
theorem faultAt_any {xc xp : Int} {w : World} :
    Rd Tryz.prog 72 #[.int .i64 xc,.int .i64 xp] w (faultV (atF xc xp)):=by
  refine fr_enter (n:=11) Tryz.func72 rfl rfl rfl ?_
  intro a hF
  have hW:=Wd.start w
  replace hF:Fr 11 a [(0,.int .i64 xc),(1,.int .i64 xp)]:=hF
  refine wp_seq_k fun K1 hK1=>?_
  refine rg hF fun ops=>?_;clear hF a
  refine sAFault hW trivial rfl ?_
  clear hW;intro w2 B2 hW2 hN;clear hN
  refine St.nil fun a3 h3=>?_
  refine hK1 _ _ ?_
  refine wp_seq_k fun K4 hK4=>?_
  refine wp_seq_k fun K5 hK5=>?_
  refine rg h3 fun ops=>?_;clear h3 a3
  refine sm trivial rfl rfl ?_
  refine seq trivial rfl rfl rfl ?_
  refine St.nil fun a6 h6=>?_
  refine hK5 _ _ ?_
  refine fr_cond (t:=6) h6 rfl (fun hb=>?_) (fun hb=>?_)
  ·have h9:xc=0:=eq_of_beq hb
   have hc7:Hid (xc=0):=h9
   clear h9
   clear hb
   refine wp_seq_k fun K8 hK8=>?_
   refine rg h6 fun ops=>?_;clear h6 a6
   intro a9 h9
   refine fr_pure (t:=7) (v:=.agg #[.int .i64 0,.int .i64 0]) (w':=w2) h9 rfl rfl rfl (fun K hK=>?_) ?_
   ·go_simp
    exact hK
   clear h9;intro a10 hF10
   refine St.go hF10 ?_;clear hF10 a10
   refine sT 0 hW2 rfl rfl infFault rfl rfl rfl ?_
   clear hW2;intro w11 hW11
   refine St.nil fun a12 h12=>?_
   refine hK8 _ _ ?_
   refine wp_ret ?_;with_reducible repeat first | refine of_then_ret ?_ | refine of_block_ret ?_
   have R:atF xc xp=(0,0):=by simp [atF,hc7.out]
   exact ret_box 0 h12 hW11 rfl rfl rfl Tryz.underlying27 rfl infFault ⟨by show Ending.returned (.agg #[.int .i64 0,.int .i64 0])=_;rw [R],hW11.bel⟩
  have h9:¬ xc=0:=ne_of_beq_false hb
  have hc13:¬ xc=0:=h9
  clear h9
  clear hb
  refine wp_skip ?_
  refine hK4 _ _ ?_
  refine wp_seq_k fun K14 hK14=>?_
  refine rg h6 fun ops=>?_;clear h6 a6
  refine sm trivial rfl rfl ?_
  refine sm trivial rfl rfl ?_
  intro a15 h15
  refine fr_pure (t:=10) (v:=.agg #[.int .i64 xc,.int .i64 xp]) (w':=w2) h15 rfl rfl rfl (fun K hK=>?_) ?_
  ·have k0:a15.tmps[8]?.getD undef=.int .i64 xc:=h15.sl2 8 _ rfl
   have k1:a15.tmps[9]?.getD undef=.int .i64 xp:=h15.sl2 9 _ rfl
   go_simp
   exact hK
  clear h15;intro a16 hF16
  refine St.go hF16 ?_;clear hF16 a16
  refine sT 0 hW2 rfl rfl infFault rfl rfl rfl ?_
  clear hW2;intro w17 hW17
  refine St.nil fun a18 h18=>?_
  refine hK14 _ _ ?_
  refine wp_ret ?_;with_reducible repeat first | refine of_then_ret ?_ | refine of_block_ret ?_
  have R:atF xc xp=(xc,xp):=by simp [atF,hc13]
  exact ret_box 0 h18 hW17 rfl rfl rfl Tryz.underlying27 rfl infFault ⟨by show Ending.returned (.agg #[.int .i64 xc,.int .i64 xp])=_;rw [R],hW17.bel⟩
theorem fF_any {xc xp : Int} {w : World} :
    Rd Tryz.prog 28 #[.int .i64 xc,.int .i64 xp] w (faultV (xc,xp)):=by
  refine fr_enter (n:=8) Tryz.func28 rfl rfl rfl ?_
  intro a hF
  have hW:=Wd.start w
  replace hF:Fr 8 a [(0,.int .i64 xc),(1,.int .i64 xp)]:=hF
  refine wp_seq_k fun K1 hK1=>?_
  refine rg hF fun ops=>?_;clear hF a
  refine sAFault hW trivial rfl ?_
  clear hW;intro w2 B2 hW2 hN;clear hN
  refine St.nil fun a3 h3=>?_
  refine hK1 _ _ ?_
  refine wp_seq_k fun K4 hK4=>?_
  refine rg h3 fun ops=>?_;clear h3 a3
  refine sm trivial rfl rfl ?_
  refine sm trivial rfl rfl ?_
  intro a5 h5
  refine fr_pure (t:=7) (v:=.agg #[.int .i64 xc,.int .i64 xp]) (w':=w2) h5 rfl rfl rfl (fun K hK=>?_) ?_
  ·have k0:a5.tmps[5]?.getD undef=.int .i64 xc:=h5.sl2 5 _ rfl
   have k1:a5.tmps[6]?.getD undef=.int .i64 xp:=h5.sl2 6 _ rfl
   go_simp
   exact hK
  clear h5;intro a6 hF6
  refine St.go hF6 ?_;clear hF6 a6
  refine sT 0 hW2 rfl rfl infFault rfl rfl rfl ?_
  clear hW2;intro w7 hW7
  refine St.nil fun a8 h8=>?_
  refine hK4 _ _ ?_
  refine wp_ret ?_;with_reducible repeat first | refine of_then_ret ?_ | refine of_block_ret ?_
  exact ret_box 0 h8 hW7 rfl rfl rfl Tryz.underlying27 rfl infFault ⟨rfl,hW7.bel⟩
theorem canB1_any {tk tr : Int} {tp : Option Addr} {tl tc : Nat} {w : World} :
    Rd Tryz.prog 118 #[.agg #[.int .i64 tk,.int .i64 tr,.slice tp tl tc]] w (.bool (tk != 1)):=by
  refine fr_enter (n:=6) Tryz.func118 rfl rfl rfl ?_
  intro a hF
  have hW:=Wd.start w
  replace hF:Fr 6 a [(0,.agg #[.int .i64 tk,.int .i64 tr,.slice tp tl tc])]:=hF
  refine wp_seq_k fun K1 hK1=>?_
  refine rg hF fun ops=>?_;clear hF a
  refine sB hW trivial rfl rfl ?_
  clear hW;intro w2 B2 hW2 hN;clear hN
  refine sa trivial rfl rfl ?_
  refine St.nil fun a3 h3=>?_
  refine hK1 _ _ ?_
  refine wp_seq_k fun K4 hK4=>?_
  refine rg h3 fun ops=>?_;clear h3 a3
  refine sfType0 trivial rfl rfl ?_
  refine sbInt 0 hW2 trivial rfl rfl rfl rfl ?_
  refine sne trivial rfl rfl rfl ?_
  refine sa trivial rfl rfl ?_
  refine St.nil fun a5 h5=>?_
  refine hK4 _ _ ?_
  refine wp_ret ?_;with_reducible repeat first | refine of_then_ret ?_ | refine of_block_ret ?_
  exact ret_tmp (t:=2) h5 rfl rfl ⟨rfl,hW2.bel⟩
theorem indexF_any {n : Nat} {l : List (TT n)} {p : Option Addr} {c : Nat} {w : World} (hl0 : (typesL n).In w All l [.slice p l.length c]) (hsb : l.length ≤ 200) :
    Rd Tryz.prog 143 #[.slice p l.length c,.func (.func 118) #[] #[]] w (.int .i64 (idxK 0 l)):=by
  have hl:Hid _:=hl0
  clear hl0
  refine fr_enter (n:=19) Tryz.func143 rfl rfl rfl ?_
  intro a hF
  have hW:=Wd.start w
  replace hF:Fr 19 a [(0,.slice p l.length c),(1,.func (.func 118) #[] #[])]:=hF
  refine wp_seq_k fun K1 hK1=>?_
  refine rg hF fun ops=>?_;clear hF a
  refine sa trivial rfl rfl ?_
  refine St.nil fun a2 h2=>?_
  refine hK1 _ _ ?_
  refine wp_seq_k fun K3 hK3=>?_
  refine wp_seq_k fun K4 hK4=>?_
  refine rg h2 fun ops=>?_;clear h2 a2
  refine sm trivial rfl rfl ?_
  refine slTypes trivial rfl rfl ?_
  refine sm trivial rfl rfl ?_
  refine St.nil fun a5 h5=>?_
  refine hK4 _ _ ?_
  refine wp_block ?_
  refine fr_loop (fun r a w'=>∃ q:Nat,q≤l.length∧r=l.length - q∧(∀ (j:Nat) y,j < q→l[j]?=some y→y.kind=1)∧Fr 19 a [(1,.func (.func 118) #[] #[]),(0,.slice p l.length c),(4,.int .i64 0),(7,.int .i64 (l.length:Int)),(8,.int .i64 (q:Int))]∧Wd w w' []) (l.length) ⟨0,Nat.zero_le _,rfl,(fun j y hj=>by omega),(h5.keep (h5.keep (h5.keep (h5.keep (h5.keep h5.nil (t:=8) rfl) (t:=7) rfl) (t:=4) rfl) (t:=0) rfl) (t:=1) rfl),hW⟩ ?_
  clear h5 hW
  rintro r a6 w6 ⟨q,hq,hr,hall,hF6,hW6⟩ KL hKL
  refine wp_seq_k fun K7 hK7=>?_
  refine rg hF6 fun ops=>?_;clear hF6 a6
  refine slt trivial rfl rfl rfl ?_
  refine St.nil fun a8 h8=>?_
  refine hK7 _ _ ?_
  refine wp_seq_k fun K9 hK9=>?_
  refine fr_cond (t:=9) h8 rfl (fun hb=>?_) (fun hb=>?_)
  ·have hlt1:q < l.length:=by have:=of_decide_eq_true hb;omega
   clear hb
   obtain ⟨t,hx1⟩:∃ v9,(l)[q]?=some v9:=⟨_,List.getElem?_eq_getElem hlt1⟩
   obtain ⟨g1,o1,pt1,ct1,hp1,E1,In1⟩:=lin_at (types_lin hl.out).1 hx1
   replace In1:Hid _:=In1
   replace hp1:Hid _:=hp1
   replace hx1:Hid _:=hx1
   replace E1:Hid _:=E1
   refine wp_skip ?_
   refine hK9 _ _ ?_
   refine wp_seq_k fun K10 hK10=>?_
   refine wp_block ?_
   refine wp_seq_k fun K11 hK11=>?_
   refine rg h8 fun ops=>?_;clear h8 a8
   refine sm trivial rfl rfl ?_
   refine sa trivial rfl rfl ?_
   refine St.nil fun a12 h12=>?_
   refine hK11 _ _ ?_
   refine wp_seq_k fun K13 hK13=>?_
   refine rg h12 fun ops=>?_;clear h12 a12
   refine sm trivial rfl rfl ?_
   refine sm trivial rfl rfl ?_
   refine sm trivial rfl rfl ?_
   refine siTypes hp1.out hlt1 trivial rfl rfl rfl ?_
   refine sSE Tryz.underlying74 rfl (rangeAt_bel E1.out hW6.bel) infType trivial rfl rfl ?_
   refine sv_10 cf118 hW6 (canB1_any) trivial rfl rfl rfl ?_
   clear hW6;intro w14 hW14
   refine St.nil fun a15 h15=>?_
   refine hK13 _ _ ?_
   refine fr_cond (t:=16) h15 rfl (fun hb=>?_) (fun hb=>?_)
   ·have h9:¬ t.kind=1:=bne_iff_ne.1 hb
    have hne:¬ t.kind=1:=h9
    clear h9
    clear hb
    refine wp_seq_k fun K16 hK16=>?_
    refine rg h15 fun ops=>?_;clear h15 a15
    refine sm trivial rfl rfl ?_
    refine sa trivial rfl rfl ?_
    refine St.nil fun a17 h17=>?_
    refine hK16 _ _ ?_
    refine wp_ret ?_;with_reducible repeat first | refine of_then_ret ?_ | refine of_block_ret ?_
    have R:idxK 0 l=(q:Int):=by have:=idxK_at l q 0 t hx1.out (fun k y hk hy=>hall k y hk hy) hne;rwa [Nat.zero_add] at this
    exact ret_tmp (t:=4) h17 rfl rfl ⟨by rw [R],hW14.bel⟩
   have h9:t.kind=1:=bne_eq_false_iff_eq.1 hb
   have hne:Hid (t.kind=1):=h9
   clear h9
   clear hb
   refine wp_skip ?_
   refine hK10 _ _ ?_
   refine rg h15 fun ops=>?_;clear h15 a15
   refine sad (by omega) trivial rfl rfl rfl ?_
   refine sm trivial rfl rfl ?_
   refine St.nil fun a18 h18=>?_
   refine hKL _ _ (l.length - (q+1)) (by omega) ⟨q+1,by omega,rfl,?_,(h18.keep (h18.keep (h18.keep (h18.keep (h18.keep h18.nil (t:=8) rfl) (t:=7) rfl) (t:=4) rfl) (t:=0) rfl) (t:=1) rfl),hW14⟩
   ·intro j y hj hy
    by_cases e:j=q
    · subst e;rw [hx1.out] at hy;cases hy;exact hne.out
    · exact hall j y (by omega) hy
  have hge:q=l.length:=by have:=of_decide_eq_false hb;omega
  clear hb
  refine wp_exit ?_
  refine hK3 _ _ ?_
  refine wp_seq_k fun K19 hK19=>?_
  refine rg h8 fun ops=>?_;clear h8 a8
  refine sa trivial rfl rfl ?_
  refine St.nil fun a20 h20=>?_
  refine hK19 _ _ ?_
  refine wp_ret ?_;with_reducible repeat first | refine of_then_ret ?_ | refine of_block_ret ?_
  have R:idxK 0 l=-1:=idxK_no l 0 (fun k y hy=>hall k y (by have:=(List.getElem?_eq_some_iff.1 hy).1;omega) hy)
  exact ret_tmp (t:=4) h20 rfl rfl ⟨by rw [R],hW6.bel⟩
theorem containsF_any {n : Nat} {l : List (TT n)} {p : Option Addr} {c : Nat} {w : World} (hl0 : (typesL n).In w All l [.slice p l.length c]) (hsb : l.length ≤ 200) :
    Rd Tryz.prog 117 #[.slice p l.length c,.func (.func 118) #[] #[]] w (.bool (decide (0≤idxK 0 l))):=by
  have hl:Hid _:=hl0
  clear hl0
  refine fr_enter (n:=9) Tryz.func117 rfl rfl rfl ?_
  intro a hF
  have hW:=Wd.start w
  replace hF:Fr 9 a [(0,.slice p l.length c),(1,.func (.func 118) #[] #[])]:=hF
  refine wp_seq_k fun K1 hK1=>?_
  refine rg hF fun ops=>?_;clear hF a
  refine sa trivial rfl rfl ?_
  refine St.nil fun a2 h2=>?_
  refine hK1 _ _ ?_
  refine wp_seq_k fun K3 hK3=>?_
  refine rg h2 fun ops=>?_;clear h2 a2
  refine sm trivial rfl rfl ?_
  refine sm trivial rfl rfl ?_
  refine sc_2 cf143 hW (indexF_any (Lay.below hl.out hW.bel) hsb) trivial rfl rfl rfl ?_
  clear hW;intro w4 hW4
  refine sge trivial rfl rfl rfl ?_
  refine sa trivial rfl rfl ?_
  refine St.nil fun a5 h5=>?_
  refine hK3 _ _ ?_
  refine wp_ret ?_;with_reducible repeat first | refine of_then_ret ?_ | refine of_block_ret ?_
  exact ret_tmp (t:=4) h5 rfl rfl ⟨rfl,hW4.bel⟩
def MFunc.begins {n : Nat} (x : MFunc n) : Prop := x.regs = 0 ∧ x.params.length = 0 ∧ x.results.all (fun t => t.kind == 1) = true
def MBlock.takes {n : Nat} (fn : MFunc n) (x : MBlock n) : Prop := x.regs = fn.regs ∧ x.params = fn.params
theorem takes_no {n : Nat} {fn : MFunc n} {x : MBlock n} (h : ¬ x.takes fn) : x.regs ≠ fn.regs ∨ sameL x.params fn.params = false := by
  by_cases h1:x.regs=fn.regs
  · refine .inr ?_
    cases e:sameL x.params fn.params with
    | false=>rfl
    | true=>exact absurd ⟨h1,sameL_iff.1 e⟩ h
  · exact .inl h1
theorem takes_yes {n : Nat} {fn : MFunc n} {x : MBlock n} (h : x.takes fn) : ¬ (x.regs ≠ fn.regs ∨ sameL x.params fn.params = false) := by
  rintro (h1 | h1)
  · exact h1 h.1
  · rw [sameL_iff.2 h.2] at h1;cases h1
theorem canBegin_any {n : Nat} {m : List (MFunc n)} {p : Option Addr} {c : Nat} {x : MFunc n} {fp : FP} {fi : Nat} {w : World} (hx0 : FIn w All x fp) (hs0 : x.small) :
    Rd Tryz.prog 92 #[.agg #[.slice p m.length c,.int .i64 x.regs,.slice fp.pP x.params.length fp.cP,.slice fp.pR x.results.length fp.cR,.slice fp.pB x.blocks.length fp.cB,.int .i64 (fi:Int)]] w (.bool (bdec x.begins)):=by
  have hx:Hid _:=hx0
  have hs:Hid _:=hs0
  clear hx0 hs0
  refine fr_enter (n:=21) Tryz.func92 rfl rfl rfl ?_
  intro a hF
  have hW:=Wd.start w
  replace hF:Fr 21 a [(0,.agg #[.slice p m.length c,.int .i64 x.regs,.slice fp.pP x.params.length fp.cP,.slice fp.pR x.results.length fp.cR,.slice fp.pB x.blocks.length fp.cB,.int .i64 (fi:Int)])]:=hF
  refine wp_seq_k fun K1 hK1=>?_
  refine rg hF fun ops=>?_;clear hF a
  refine sB hW trivial rfl rfl ?_
  clear hW;intro w2 B2 hW2 hN;clear hN
  refine sa trivial rfl rfl ?_
  refine St.nil fun a3 h3=>?_
  refine hK1 _ _ ?_
  refine wp_seq_k fun K4 hK4=>?_
  refine fr_region ?_
  intro ops hops
  have hg4:(ops[4]?).bind (fun o:Oper=>o.dst)=some 7:=hops 4
  have hg11:(ops[11]?).bind (fun o:Oper=>o.dst)=some 14:=hops 11
  clear hops
  refine St.go h3 ?_;clear h3 a3
  refine sffuncLook1 trivial rfl rfl ?_
  refine sfFunc0 trivial rfl rfl ?_
  refine sbInt 0 hW2 trivial rfl rfl rfl rfl ?_
  refine seq trivial rfl rfl rfl ?_
  refine sm trivial rfl rfl ?_
  intro a5 h5
  rcases Bool.eq_false_or_eq_true (x.regs == 0) with hb | hb
  ·rw [hb] at h5
   have h9:x.regs=0:=eq_of_beq hb
   have hc6:Hid (x.regs=0):=h9
   clear h9
   clear hb
   refine St.go h5 ?_;clear h5 a5
   refine sffuncLook1 ⟨_,hg4,rfl,rfl⟩ rfl rfl ?_
   refine sfFunc1 ⟨_,hg4,rfl,rfl⟩ rfl rfl ?_
   refine sbTypes 0 hW2 ⟨_,hg4,rfl,rfl⟩ rfl rfl rfl rfl ?_
   refine slTypes ⟨_,hg4,rfl,rfl⟩ rfl rfl ?_
   refine seq ⟨_,hg4,rfl,rfl⟩ rfl rfl rfl ?_
   refine sp trivial rfl rfl rfl ?_
   refine sm trivial rfl rfl ?_
   intro a7 h7
   rcases Bool.eq_false_or_eq_true ((x.params.length:Int) == 0) with hb | hb
   ·rw [hb] at h7
    have h9:x.params.length=0:=by have h8:=eq_of_beq hb;omega
    have hc8:Hid (x.params.length=0):=h9
    clear h9
    clear hb
    refine St.go h7 ?_;clear h7 a7
    refine sffuncLook1 ⟨_,hg11,rfl,rfl⟩ rfl rfl ?_
    refine sfFunc2 ⟨_,hg11,rfl,rfl⟩ rfl rfl ?_
    refine sbTypes 0 hW2 ⟨_,hg11,rfl,rfl⟩ rfl rfl rfl rfl ?_
    refine sc_2 cf117 hW2 (containsF_any (Lay.below hx.out.results hW2.bel) (by have:=hs.out.2.2.1.1;omega)) ⟨_,hg11,rfl,rfl⟩ rfl rfl rfl ?_
    clear hW2;intro w9 hW9
    refine sn ⟨_,hg11,rfl,rfl⟩ rfl rfl ?_
    refine sp trivial rfl rfl rfl ?_
    refine sa trivial rfl rfl ?_
    refine St.nil fun a10 h10=>?_
    refine hK4 _ _ ?_
    refine wp_ret ?_;with_reducible repeat first | refine of_then_ret ?_ | refine of_block_ret ?_
    have R:(!(decide (0≤idxK 0 x.results)))=true ↔ x.begins:=by
      have e1:=hc6.out
      have e2:=hc8.out
      have e3:=idxK_iff x.results 0
      by_cases hz:0≤idxK 0 x.results
      · simp only [hz,decide_true,Bool.not_true,Bool.false_eq_true,false_iff]
        exact fun h=>e3.1 hz h.2.2
      · simp only [hz,decide_false,Bool.not_false,true_iff]
        refine ⟨e1,e2,?_⟩
        cases e:x.results.all (fun t=>t.kind == 1) with
        | true=>rfl
        | false=>exact absurd (e3.2 (by rw [e];decide)) hz
    exact ret_tmp (t:=2) h10 rfl rfl ⟨by rw [← bdec_of R],hW9.bel⟩
   rw [hb] at h7
   have h9:¬ x.params.length=0:=by have h8:=ne_of_beq_false hb;omega
   have hc11:¬ x.params.length=0:=h9
   clear h9
   clear hb
   refine St.go h7 ?_;clear h7 a7
   refine so hg11 rfl rfl rfl rfl ?_
   refine so hg11 rfl rfl rfl rfl ?_
   refine so hg11 rfl rfl rfl rfl ?_
   refine so hg11 rfl rfl rfl rfl ?_
   refine so hg11 rfl rfl rfl rfl ?_
   refine spf trivial rfl rfl rfl ?_
   refine sa trivial rfl rfl ?_
   refine St.nil fun a12 h12=>?_
   refine hK4 _ _ ?_
   refine wp_ret ?_;with_reducible repeat first | refine of_then_ret ?_ | refine of_block_ret ?_
   have R:¬ x.begins:=fun h=>hc11 h.2.1
   exact ret_tmp (t:=2) h12 rfl rfl ⟨by rw [bdec_false R],hW2.bel⟩
  rw [hb] at h5
  have h9:¬ x.regs=0:=ne_of_beq_false hb
  have hc13:¬ x.regs=0:=h9
  clear h9
  clear hb
  refine St.go h5 ?_;clear h5 a5
  refine so hg4 rfl rfl rfl rfl ?_
  refine so hg4 rfl rfl rfl rfl ?_
  refine so hg4 rfl rfl rfl rfl ?_
  refine so hg4 rfl rfl rfl rfl ?_
  refine so hg4 rfl rfl rfl rfl ?_
  refine spf trivial rfl rfl rfl ?_
  refine sm trivial rfl rfl ?_
  refine so hg11 rfl rfl rfl rfl ?_
  refine so hg11 rfl rfl rfl rfl ?_
  refine so hg11 rfl rfl rfl rfl ?_
  refine so hg11 rfl rfl rfl rfl ?_
  refine so hg11 rfl rfl rfl rfl ?_
  refine spf trivial rfl rfl rfl ?_
  refine sa trivial rfl rfl ?_
  refine St.nil fun a14 h14=>?_
  refine hK4 _ _ ?_
  refine wp_ret ?_;with_reducible repeat first | refine of_then_ret ?_ | refine of_block_ret ?_
  have R:¬ x.begins:=fun h=>hc13 h.1
  exact ret_tmp (t:=2) h14 rfl rfl ⟨by rw [bdec_false R],hW2.bel⟩
theorem takes_any {n : Nat} {m : List (MFunc n)} {p : Option Addr} {c : Nat} {x : MFunc n} {fp : FP} {fi : Nat} {y : MBlock n} {bp : BP} {bi : Nat} {w : World} (hx0 : FIn w All x fp) (hs0 : x.small) (hy0 : BIn w All y bp) (ht0 : y.small) :
    Rd Tryz.prog 119 #[.agg #[.slice p m.length c,.int .i64 x.regs,.slice fp.pP x.params.length fp.cP,.slice fp.pR x.results.length fp.cR,.slice fp.pB x.blocks.length fp.cB,.int .i64 (fi:Int),.int .i64 y.regs,.slice bp.pP y.params.length bp.cP,.slice bp.pC y.code.length bp.cC,.int .i64 y.fin.op,.int .i64 y.fin.a,.int .i64 y.fin.yes.block,.slice bp.e.pYR y.fin.yes.regs.length bp.e.cYR,.slice bp.e.pYA y.fin.yes.args.length bp.e.cYA,.int .i64 y.fin.no.block,.slice bp.e.pNR y.fin.no.regs.length bp.e.cNR,.slice bp.e.pNA y.fin.no.args.length bp.e.cNA,.slice bp.e.pA y.fin.args.length bp.e.cA,.int .i64 (bi:Int)]] w (.bool (bdec (y.takes x))):=by
  have hx:Hid _:=hx0
  have hs:Hid _:=hs0
  have hy:Hid _:=hy0
  have ht:Hid _:=ht0
  clear hx0 hs0 hy0 ht0
  refine fr_enter (n:=21) Tryz.func119 rfl rfl rfl ?_
  intro a hF
  have hW:=Wd.start w
  replace hF:Fr 21 a [(0,.agg #[.slice p m.length c,.int .i64 x.regs,.slice fp.pP x.params.length fp.cP,.slice fp.pR x.results.length fp.cR,.slice fp.pB x.blocks.length fp.cB,.int .i64 (fi:Int),.int .i64 y.regs,.slice bp.pP y.params.length bp.cP,.slice bp.pC y.code.length bp.cC,.int .i64 y.fin.op,.int .i64 y.fin.a,.int .i64 y.fin.yes.block,.slice bp.e.pYR y.fin.yes.regs.length bp.e.cYR,.slice bp.e.pYA y.fin.yes.args.length bp.e.cYA,.int .i64 y.fin.no.block,.slice bp.e.pNR y.fin.no.regs.length bp.e.cNR,.slice bp.e.pNA y.fin.no.args.length bp.e.cNA,.slice bp.e.pA y.fin.args.length bp.e.cA,.int .i64 (bi:Int)])]:=hF
  refine wp_seq_k fun K1 hK1=>?_
  refine rg hF fun ops=>?_;clear hF a
  refine sB hW trivial rfl rfl ?_
  clear hW;intro w2 B2 hW2 hN;clear hN
  refine sa trivial rfl rfl ?_
  refine St.nil fun a3 h3=>?_
  refine hK1 _ _ ?_
  refine wp_seq_k fun K4 hK4=>?_
  refine fr_region ?_
  intro ops hops
  have hg8:(ops[8]?).bind (fun o:Oper=>o.dst)=some 11:=hops 8
  clear hops
  refine St.go h3 ?_;clear h3 a3
  refine sfblockLook1 trivial rfl rfl ?_
  refine sfBlock0 trivial rfl rfl ?_
  refine sbInt 0 hW2 trivial rfl rfl rfl rfl ?_
  refine sfblockLook0 trivial rfl rfl ?_
  refine sffuncLook1 trivial rfl rfl ?_
  refine sfFunc0 trivial rfl rfl ?_
  refine sbInt 0 hW2 trivial rfl rfl rfl rfl ?_
  refine seq trivial rfl rfl rfl ?_
  refine sm trivial rfl rfl ?_
  intro a5 h5
  rcases Bool.eq_false_or_eq_true (y.regs == x.regs) with hb | hb
  ·rw [hb] at h5
   have h9:y.regs=x.regs:=eq_of_beq hb
   have hc6:Hid (y.regs=x.regs):=h9
   clear h9
   clear hb
   refine St.go h5 ?_;clear h5 a5
   refine sfblockLook1 ⟨_,hg8,rfl,rfl⟩ rfl rfl ?_
   refine sfBlock1 ⟨_,hg8,rfl,rfl⟩ rfl rfl ?_
   refine sbTypes 0 hW2 ⟨_,hg8,rfl,rfl⟩ rfl rfl rfl rfl ?_
   refine sfblockLook0 ⟨_,hg8,rfl,rfl⟩ rfl rfl ?_
   refine sffuncLook1 ⟨_,hg8,rfl,rfl⟩ rfl rfl ?_
   refine sfFunc1 ⟨_,hg8,rfl,rfl⟩ rfl rfl ?_
   refine sbTypes 0 hW2 ⟨_,hg8,rfl,rfl⟩ rfl rfl rfl rfl ?_
   refine sc_3 cf144 hW2 (eqTypes_any (Lay.below hy.out.params hW2.bel) (Lay.below hx.out.params hW2.bel) ht.out.2.1) ⟨_,hg8,rfl,rfl⟩ rfl rfl rfl rfl ?_
   clear hW2;intro w7 hW7
   refine sp trivial rfl rfl rfl ?_
   refine sa trivial rfl rfl ?_
   refine St.nil fun a8 h8=>?_
   refine hK4 _ _ ?_
   refine wp_ret ?_;with_reducible repeat first | refine of_then_ret ?_ | refine of_block_ret ?_
   have R:y.params=x.params ↔ y.takes x:=⟨fun h=>⟨hc6.out,h⟩,fun h=>h.2⟩
   exact ret_tmp (t:=2) h8 rfl rfl ⟨by rw [bdec_congr R],hW7.bel⟩
  rw [hb] at h5
  have h9:¬ y.regs=x.regs:=ne_of_beq_false hb
  have hc9:¬ y.regs=x.regs:=h9
  clear h9
  clear hb
  refine St.go h5 ?_;clear h5 a5
  refine so hg8 rfl rfl rfl rfl ?_
  refine so hg8 rfl rfl rfl rfl ?_
  refine so hg8 rfl rfl rfl rfl ?_
  refine so hg8 rfl rfl rfl rfl ?_
  refine so hg8 rfl rfl rfl rfl ?_
  refine so hg8 rfl rfl rfl rfl ?_
  refine so hg8 rfl rfl rfl rfl ?_
  refine so hg8 rfl rfl rfl rfl ?_
  refine spf trivial rfl rfl rfl ?_
  refine sa trivial rfl rfl ?_
  refine St.nil fun a10 h10=>?_
  refine hK4 _ _ ?_
  refine wp_ret ?_;with_reducible repeat first | refine of_then_ret ?_ | refine of_block_ret ?_
  have R:¬ y.takes x:=fun h=>hc9 h.1
  exact ret_tmp (t:=2) h10 rfl rfl ⟨by rw [bdec_false R],hW2.bel⟩
theorem funcCode_any {n : Nat} {m : List (MFunc n)} {p : Option Addr} {c : Nat} {x : MFunc n} {fp : FP} {fi : Nat} {w : World} (hx0 : FIn w All x fp) (hs0 : x.small) :
    Rd Tryz.prog 71 #[.agg #[.slice p m.length c,.int .i64 x.regs,.slice fp.pP x.params.length fp.cP,.slice fp.pR x.results.length fp.cR,.slice fp.pB x.blocks.length fp.cB,.int .i64 (fi:Int)]] w (.int .i64 (x.code fi)):=by
  have hx:Hid _:=hx0
  have hs:Hid _:=hs0
  clear hx0 hs0
  refine fr_enter (n:=55) Tryz.func71 rfl rfl rfl ?_
  intro a hF
  have hW:=Wd.start w
  replace hF:Fr 55 a [(0,.agg #[.slice p m.length c,.int .i64 x.regs,.slice fp.pP x.params.length fp.cP,.slice fp.pR x.results.length fp.cR,.slice fp.pB x.blocks.length fp.cB,.int .i64 (fi:Int)])]:=hF
  refine wp_seq_k fun K1 hK1=>?_
  refine rg hF fun ops=>?_;clear hF a
  refine sB hW trivial rfl rfl ?_
  clear hW;intro w2 B2 hW2 hN;clear hN
  refine sa trivial rfl rfl ?_
  refine St.nil fun a3 h3=>?_
  refine hK1 _ _ ?_
  refine wp_seq_k fun K4 hK4=>?_
  refine wp_seq_k fun K5 hK5=>?_
  refine fr_region ?_
  intro ops hops
  have hg4:(ops[4]?).bind (fun o:Oper=>o.dst)=some 9:=hops 4
  clear hops
  refine St.go h3 ?_;clear h3 a3
  refine sffuncLook1 trivial rfl rfl ?_
  refine sfFunc0 trivial rfl rfl ?_
  refine sbInt 0 hW2 trivial rfl rfl rfl rfl ?_
  refine slt trivial rfl rfl rfl ?_
  refine sm trivial rfl rfl ?_
  intro a6 h6
  rcases Bool.eq_false_or_eq_true (decide (x.regs < 0)) with hb | hb
  ·rw [hb] at h6
   have hc7:x.regs < 0:=of_decide_eq_true hb
   clear hb
   refine St.go h6 ?_;clear h6 a6
   refine so hg4 rfl rfl rfl rfl ?_
   refine so hg4 rfl rfl rfl rfl ?_
   refine so hg4 rfl rfl rfl rfl ?_
   refine so hg4 rfl rfl rfl rfl ?_
   refine sp trivial rfl rfl rfl ?_
   refine St.nil fun a8 h8=>?_
   refine hK5 _ _ ?_
   refine fr_true (t:=14) h8 rfl ?_
   refine wp_seq_k fun K9 hK9=>?_
   refine rg h8 fun ops=>?_;clear h8 a8
   refine sa trivial rfl rfl ?_
   refine St.nil fun a10 h10=>?_
   refine hK9 _ _ ?_
   refine wp_ret ?_;with_reducible repeat first | refine of_then_ret ?_ | refine of_block_ret ?_
   have R:x.code fi=1:=if_pos (by omega)
   exact ret_tmp (t:=2) h10 rfl rfl ⟨by rw [R],hW2.bel⟩
  rw [hb] at h6
  have hc11:¬ (x.regs < 0):=of_decide_eq_false hb
  clear hb
  refine St.go h6 ?_;clear h6 a6
  refine sffuncLook1 ⟨_,hg4,rfl,rfl⟩ rfl rfl ?_
  refine sfFunc0 ⟨_,hg4,rfl,rfl⟩ rfl rfl ?_
  refine sbInt 0 hW2 ⟨_,hg4,rfl,rfl⟩ rfl rfl rfl rfl ?_
  refine sgt ⟨_,hg4,rfl,rfl⟩ rfl rfl rfl ?_
  refine spf trivial rfl rfl rfl ?_
  refine St.nil fun a12 h12=>?_
  refine hK5 _ _ ?_
  refine fr_cond (t:=14) h12 rfl (fun hb=>?_) (fun hb=>?_)
  ·have hc13:6 < x.regs:=of_decide_eq_true hb
   clear hb
   refine wp_seq_k fun K14 hK14=>?_
   refine rg h12 fun ops=>?_;clear h12 a12
   refine sa trivial rfl rfl ?_
   refine St.nil fun a15 h15=>?_
   refine hK14 _ _ ?_
   refine wp_ret ?_;with_reducible repeat first | refine of_then_ret ?_ | refine of_block_ret ?_
   have R:x.code fi=1:=if_pos (by omega)
   exact ret_tmp (t:=2) h15 rfl rfl ⟨by rw [R],hW2.bel⟩
  have hc16:¬ (6 < x.regs):=of_decide_eq_false hb
  clear hb
  refine wp_skip ?_
  refine hK4 _ _ ?_
  refine wp_seq_k fun K17 hK17=>?_
  refine wp_seq_k fun K18 hK18=>?_
  refine rg h12 fun ops=>?_;clear h12 a12
  refine sffuncLook1 trivial rfl rfl ?_
  refine sfFunc1 trivial rfl rfl ?_
  refine sbTypes 0 hW2 trivial rfl rfl rfl rfl ?_
  refine sffuncLook1 trivial rfl rfl ?_
  refine sfFunc0 trivial rfl rfl ?_
  refine sbInt 0 hW2 trivial rfl rfl rfl rfl ?_
  refine sc_2 cf91 hW2 (typesCode_any (regs:=x.regs) (Lay.below hx.out.params hW2.bel) hs.out.2.1) trivial rfl rfl rfl ?_
  clear hW2;intro w19 hW19
  refine sa trivial rfl rfl ?_
  refine St.nil fun a20 h20=>?_
  refine hK18 _ _ ?_
  refine wp_seq_k fun K21 hK21=>?_
  refine rg h20 fun ops=>?_;clear h20 a20
  refine sm trivial rfl rfl ?_
  refine sne trivial rfl rfl rfl ?_
  refine St.nil fun a22 h22=>?_
  refine hK21 _ _ ?_
  refine fr_cond (t:=23) h22 rfl (fun hb=>?_) (fun hb=>?_)
  ·have h9:¬ (listC x.regs x.params)=0:=bne_iff_ne.1 hb
   have hc23:¬ (listC x.regs x.params)=0:=h9
   clear h9
   clear hb
   refine wp_seq_k fun K24 hK24=>?_
   refine rg h22 fun ops=>?_;clear h22 a22
   refine sm trivial rfl rfl ?_
   refine sa trivial rfl rfl ?_
   refine St.nil fun a25 h25=>?_
   refine hK24 _ _ ?_
   refine wp_ret ?_;with_reducible repeat first | refine of_then_ret ?_ | refine of_block_ret ?_
   have R:x.code fi=listC x.regs x.params:=(if_neg (by omega)).trans (if_pos (by omega))
   exact ret_tmp (t:=2) h25 rfl rfl ⟨by rw [R],hW19.bel⟩
  have h9:(listC x.regs x.params)=0:=bne_eq_false_iff_eq.1 hb
  have hc26:Hid ((listC x.regs x.params)=0):=h9
  clear h9
  clear hb
  refine wp_skip ?_
  refine hK17 _ _ ?_
  refine wp_seq_k fun K27 hK27=>?_
  refine wp_seq_k fun K28 hK28=>?_
  refine rg h22 fun ops=>?_;clear h22 a22
  refine sffuncLook1 trivial rfl rfl ?_
  refine sfFunc2 trivial rfl rfl ?_
  refine sbTypes 0 hW19 trivial rfl rfl rfl rfl ?_
  refine sffuncLook1 trivial rfl rfl ?_
  refine sfFunc0 trivial rfl rfl ?_
  refine sbInt 0 hW19 trivial rfl rfl rfl rfl ?_
  refine sc_2 cf91 hW19 (typesCode_any (regs:=x.regs) (Lay.below hx.out.results hW19.bel) hs.out.2.2.1) trivial rfl rfl rfl ?_
  clear hW19;intro w29 hW29
  refine sa trivial rfl rfl ?_
  refine St.nil fun a30 h30=>?_
  refine hK28 _ _ ?_
  refine wp_seq_k fun K31 hK31=>?_
  refine rg h30 fun ops=>?_;clear h30 a30
  refine sm trivial rfl rfl ?_
  refine sne trivial rfl rfl rfl ?_
  refine St.nil fun a32 h32=>?_
  refine hK31 _ _ ?_
  refine fr_cond (t:=33) h32 rfl (fun hb=>?_) (fun hb=>?_)
  ·have h9:¬ (listC x.regs x.results)=0:=bne_iff_ne.1 hb
   have hc33:¬ (listC x.regs x.results)=0:=h9
   clear h9
   clear hb
   refine wp_seq_k fun K34 hK34=>?_
   refine rg h32 fun ops=>?_;clear h32 a32
   refine sm trivial rfl rfl ?_
   refine sa trivial rfl rfl ?_
   refine St.nil fun a35 h35=>?_
   refine hK34 _ _ ?_
   refine wp_ret ?_;with_reducible repeat first | refine of_then_ret ?_ | refine of_block_ret ?_
   have:=hc26.out
   have R:x.code fi=listC x.regs x.results:=(if_neg (by omega)).trans ((if_neg (by omega)).trans (if_pos (by omega)))
   exact ret_tmp (t:=2) h35 rfl rfl ⟨by rw [R],hW29.bel⟩
  have h9:(listC x.regs x.results)=0:=bne_eq_false_iff_eq.1 hb
  have hc36:Hid ((listC x.regs x.results)=0):=h9
  clear h9
  clear hb
  refine wp_skip ?_
  refine hK27 _ _ ?_
  refine wp_seq_k fun K37 hK37=>?_
  refine wp_seq_k fun K38 hK38=>?_
  refine fr_region ?_
  intro ops hops
  have hg5:(ops[5]?).bind (fun o:Oper=>o.dst)=some 40:=hops 5
  clear hops
  refine St.go h32 ?_;clear h32 a32
  refine sffuncLook1 trivial rfl rfl ?_
  refine sfFunc3 trivial rfl rfl ?_
  refine sbBlocks 0 hW29 trivial rfl rfl rfl rfl ?_
  refine slBlocks trivial rfl rfl ?_
  refine slt trivial rfl rfl rfl ?_
  refine sm trivial rfl rfl ?_
  intro a39 h39
  rcases Bool.eq_false_or_eq_true (decide ((x.blocks.length:Int) < 1)) with hb | hb
  ·rw [hb] at h39
   have hc40:x.blocks.length < 1:=by have:=of_decide_eq_true hb;omega
   clear hb
   refine St.go h39 ?_;clear h39 a39
   refine so hg5 rfl rfl rfl rfl ?_
   refine so hg5 rfl rfl rfl rfl ?_
   refine so hg5 rfl rfl rfl rfl ?_
   refine so hg5 rfl rfl rfl rfl ?_
   refine so hg5 rfl rfl rfl rfl ?_
   refine sp trivial rfl rfl rfl ?_
   refine St.nil fun a41 h41=>?_
   refine hK38 _ _ ?_
   refine fr_true (t:=46) h41 rfl ?_
   refine wp_seq_k fun K42 hK42=>?_
   refine rg h41 fun ops=>?_;clear h41 a41
   refine sa trivial rfl rfl ?_
   refine St.nil fun a43 h43=>?_
   refine hK42 _ _ ?_
   refine wp_ret ?_;with_reducible repeat first | refine of_then_ret ?_ | refine of_block_ret ?_
   have:=hc26.out
   have:=hc36.out
   have R:x.code fi=2:=(if_neg (by omega)).trans ((if_neg (by omega)).trans ((if_neg (by omega)).trans (if_pos (by omega))))
   exact ret_tmp (t:=2) h43 rfl rfl ⟨by rw [R],hW29.bel⟩
  rw [hb] at h39
  have hc44:¬ (x.blocks.length < 1):=by have:=of_decide_eq_false hb;omega
  clear hb
  refine St.go h39 ?_;clear h39 a39
  refine sffuncLook1 ⟨_,hg5,rfl,rfl⟩ rfl rfl ?_
  refine sfFunc3 ⟨_,hg5,rfl,rfl⟩ rfl rfl ?_
  refine sbBlocks 0 hW29 ⟨_,hg5,rfl,rfl⟩ rfl rfl rfl rfl ?_
  refine slBlocks ⟨_,hg5,rfl,rfl⟩ rfl rfl ?_
  refine sgt ⟨_,hg5,rfl,rfl⟩ rfl rfl rfl ?_
  refine spf trivial rfl rfl rfl ?_
  refine St.nil fun a45 h45=>?_
  refine hK38 _ _ ?_
  refine fr_cond (t:=46) h45 rfl (fun hb=>?_) (fun hb=>?_)
  ·have hc46:12 < x.blocks.length:=by have:=of_decide_eq_true hb;omega
   clear hb
   refine wp_seq_k fun K47 hK47=>?_
   refine rg h45 fun ops=>?_;clear h45 a45
   refine sa trivial rfl rfl ?_
   refine St.nil fun a48 h48=>?_
   refine hK47 _ _ ?_
   refine wp_ret ?_;with_reducible repeat first | refine of_then_ret ?_ | refine of_block_ret ?_
   have:=hc26.out
   have:=hc36.out
   have R:x.code fi=2:=(if_neg (by omega)).trans ((if_neg (by omega)).trans ((if_neg (by omega)).trans (if_pos (by omega))))
   exact ret_tmp (t:=2) h48 rfl rfl ⟨by rw [R],hW29.bel⟩
  have hc49:¬ (12 < x.blocks.length):=by have:=of_decide_eq_false hb;omega
  clear hb
  refine wp_skip ?_
  refine hK37 _ _ ?_
  refine wp_seq_k fun K50 hK50=>?_
  refine wp_seq_k fun K51 hK51=>?_
  refine fr_region ?_
  intro ops hops
  have hg3:(ops[3]?).bind (fun o:Oper=>o.dst)=some 50:=hops 3
  clear hops
  refine St.go h45 ?_;clear h45 a45
  refine sffuncLook2 trivial rfl rfl ?_
  refine sbInt 0 hW29 trivial rfl rfl rfl rfl ?_
  refine seq trivial rfl rfl rfl ?_
  refine sm trivial rfl rfl ?_
  intro a52 h52
  rcases Bool.eq_false_or_eq_true ((fi:Int) == 0) with hb | hb
  ·rw [hb] at h52
   have h9:fi=0:=by have h8:=eq_of_beq hb;omega
   have hc53:Hid (fi=0):=h9
   clear h9
   clear hb
   refine St.go h52 ?_;clear h52 a52
   refine sS 0 6 Tryz.underlying89 rfl inffuncLook hW29 ⟨_,hg3,rfl,rfl⟩ rfl rfl rfl rfl ?_
   refine sc_1 cf92 hW29 (canBegin_any (m:=m) (p:=p) (c:=c) (fi:=fi) (hx.out.below hW29.bel) hs.out) ⟨_,hg3,rfl,rfl⟩ rfl rfl ?_
   clear hW29;intro w54 hW54
   refine sn ⟨_,hg3,rfl,rfl⟩ rfl rfl ?_
   refine sp trivial rfl rfl rfl ?_
   refine St.nil fun a55 h55=>?_
   refine hK51 _ _ ?_
   refine fr_cond (t:=54) h55 rfl (fun hb=>?_) (fun hb=>?_)
   ·have hb:(bdec (x.begins))=false:=by simpa using hb
    have hc56:¬ (x.begins):=fun h=>by rw [bdec_true h] at hb;cases hb
    clear hb
    refine wp_seq_k fun K57 hK57=>?_
    refine rg h55 fun ops=>?_;clear h55 a55
    refine sa trivial rfl rfl ?_
    refine St.nil fun a58 h58=>?_
    refine hK57 _ _ ?_
    refine wp_ret ?_;with_reducible repeat first | refine of_then_ret ?_ | refine of_block_ret ?_
    have:=hc26.out
    have:=hc36.out
    have:=hc53.out
    have R:x.code fi=18:=(if_neg (by omega)).trans ((if_neg (by omega)).trans ((if_neg (by omega)).trans ((if_neg (by omega)).trans (if_pos (⟨by omega,hc56⟩)))))
    exact ret_tmp (t:=2) h58 rfl rfl ⟨by rw [R],hW54.bel⟩
   have hb:(bdec (x.begins))=true:=by simpa using hb
   have hc59:(x.begins):=bdec_iff.1 hb
   clear hb
   refine wp_skip ?_
   refine hK50 _ _ ?_
   refine wp_seq_k fun K60 hK60=>?_
   refine rg h55 fun ops=>?_;clear h55 a55
   refine sa trivial rfl rfl ?_
   refine St.nil fun a61 h61=>?_
   refine hK60 _ _ ?_
   refine wp_ret ?_;with_reducible repeat first | refine of_then_ret ?_ | refine of_block_ret ?_
   have:=hc26.out
   have:=hc36.out
   have:=hc53.out
   have R:x.code fi=0:=(if_neg (by omega)).trans ((if_neg (by omega)).trans ((if_neg (by omega)).trans ((if_neg (by omega)).trans ((if_neg (fun h=>h.2 hc59)).trans (rfl)))))
   exact ret_tmp (t:=2) h61 rfl rfl ⟨by rw [R],hW54.bel⟩
  rw [hb] at h52
  have h9:¬ fi=0:=by have h8:=ne_of_beq_false hb;omega
  have hc62:¬ fi=0:=h9
  clear h9
  clear hb
  refine St.go h52 ?_;clear h52 a52
  refine so hg3 rfl rfl rfl rfl ?_
  refine so hg3 rfl rfl rfl rfl ?_
  refine so hg3 rfl rfl rfl rfl ?_
  refine spf trivial rfl rfl rfl ?_
  refine St.nil fun a63 h63=>?_
  refine hK51 _ _ ?_
  refine fr_false (t:=54) h63 rfl ?_
  refine wp_skip ?_
  refine hK50 _ _ ?_
  refine wp_seq_k fun K64 hK64=>?_
  refine rg h63 fun ops=>?_;clear h63 a63
  refine sa trivial rfl rfl ?_
  refine St.nil fun a65 h65=>?_
  refine hK64 _ _ ?_
  refine wp_ret ?_;with_reducible repeat first | refine of_then_ret ?_ | refine of_block_ret ?_
  have:=hc26.out
  have:=hc36.out
  have R:x.code fi=0:=(if_neg (by omega)).trans ((if_neg (by omega)).trans ((if_neg (by omega)).trans ((if_neg (by omega)).trans ((if_neg (by omega)).trans (rfl)))))
  exact ret_tmp (t:=2) h65 rfl rfl ⟨by rw [R],hW29.bel⟩
theorem blockCode_any {n : Nat} {m : List (MFunc n)} {p : Option Addr} {c : Nat} {x : MFunc n} {fp : FP} {fi : Nat} {y : MBlock n} {bp : BP} {bi : Nat} {w : World} (hx0 : FIn w All x fp) (hs0 : x.small) (hy0 : BIn w All y bp) (ht0 : y.small) :
    Rd Tryz.prog 93 #[.agg #[.slice p m.length c,.int .i64 x.regs,.slice fp.pP x.params.length fp.cP,.slice fp.pR x.results.length fp.cR,.slice fp.pB x.blocks.length fp.cB,.int .i64 (fi:Int),.int .i64 y.regs,.slice bp.pP y.params.length bp.cP,.slice bp.pC y.code.length bp.cC,.int .i64 y.fin.op,.int .i64 y.fin.a,.int .i64 y.fin.yes.block,.slice bp.e.pYR y.fin.yes.regs.length bp.e.cYR,.slice bp.e.pYA y.fin.yes.args.length bp.e.cYA,.int .i64 y.fin.no.block,.slice bp.e.pNR y.fin.no.regs.length bp.e.cNR,.slice bp.e.pNA y.fin.no.args.length bp.e.cNA,.slice bp.e.pA y.fin.args.length bp.e.cA,.int .i64 (bi:Int)]] w (.int .i64 (y.code' x bi)):=by
  have hx:Hid _:=hx0
  have hs:Hid _:=hs0
  have hy:Hid _:=hy0
  have ht:Hid _:=ht0
  clear hx0 hs0 hy0 ht0
  refine fr_enter (n:=41) Tryz.func93 rfl rfl rfl ?_
  intro a hF
  have hW:=Wd.start w
  replace hF:Fr 41 a [(0,.agg #[.slice p m.length c,.int .i64 x.regs,.slice fp.pP x.params.length fp.cP,.slice fp.pR x.results.length fp.cR,.slice fp.pB x.blocks.length fp.cB,.int .i64 (fi:Int),.int .i64 y.regs,.slice bp.pP y.params.length bp.cP,.slice bp.pC y.code.length bp.cC,.int .i64 y.fin.op,.int .i64 y.fin.a,.int .i64 y.fin.yes.block,.slice bp.e.pYR y.fin.yes.regs.length bp.e.cYR,.slice bp.e.pYA y.fin.yes.args.length bp.e.cYA,.int .i64 y.fin.no.block,.slice bp.e.pNR y.fin.no.regs.length bp.e.cNR,.slice bp.e.pNA y.fin.no.args.length bp.e.cNA,.slice bp.e.pA y.fin.args.length bp.e.cA,.int .i64 (bi:Int)])]:=hF
  refine wp_seq_k fun K1 hK1=>?_
  refine rg hF fun ops=>?_;clear hF a
  refine sB hW trivial rfl rfl ?_
  clear hW;intro w2 B2 hW2 hN;clear hN
  refine sa trivial rfl rfl ?_
  refine St.nil fun a3 h3=>?_
  refine hK1 _ _ ?_
  refine wp_seq_k fun K4 hK4=>?_
  refine wp_seq_k fun K5 hK5=>?_
  refine fr_region ?_
  intro ops hops
  have hg8:(ops[8]?).bind (fun o:Oper=>o.dst)=some 12:=hops 8
  clear hops
  refine St.go h3 ?_;clear h3 a3
  refine sfblockLook1 trivial rfl rfl ?_
  refine sfBlock0 trivial rfl rfl ?_
  refine sbInt 0 hW2 trivial rfl rfl rfl rfl ?_
  refine sfblockLook0 trivial rfl rfl ?_
  refine sffuncLook1 trivial rfl rfl ?_
  refine sfFunc0 trivial rfl rfl ?_
  refine sbInt 0 hW2 trivial rfl rfl rfl rfl ?_
  refine slt trivial rfl rfl rfl ?_
  refine sm trivial rfl rfl ?_
  intro a6 h6
  rcases Bool.eq_false_or_eq_true (decide (y.regs < x.regs)) with hb | hb
  ·rw [hb] at h6
   have hc7:y.regs < x.regs:=of_decide_eq_true hb
   clear hb
   refine St.go h6 ?_;clear h6 a6
   refine so hg8 rfl rfl rfl rfl ?_
   refine so hg8 rfl rfl rfl rfl ?_
   refine so hg8 rfl rfl rfl rfl ?_
   refine so hg8 rfl rfl rfl rfl ?_
   refine sp trivial rfl rfl rfl ?_
   refine St.nil fun a8 h8=>?_
   refine hK5 _ _ ?_
   refine fr_true (t:=17) h8 rfl ?_
   refine wp_seq_k fun K9 hK9=>?_
   refine rg h8 fun ops=>?_;clear h8 a8
   refine sa trivial rfl rfl ?_
   refine St.nil fun a10 h10=>?_
   refine hK9 _ _ ?_
   refine wp_ret ?_;with_reducible repeat first | refine of_then_ret ?_ | refine of_block_ret ?_
   have R:y.code' x bi=1:=if_pos (by omega)
   exact ret_tmp (t:=2) h10 rfl rfl ⟨by rw [R],hW2.bel⟩
  rw [hb] at h6
  have hc11:¬ (y.regs < x.regs):=of_decide_eq_false hb
  clear hb
  refine St.go h6 ?_;clear h6 a6
  refine sfblockLook1 ⟨_,hg8,rfl,rfl⟩ rfl rfl ?_
  refine sfBlock0 ⟨_,hg8,rfl,rfl⟩ rfl rfl ?_
  refine sbInt 0 hW2 ⟨_,hg8,rfl,rfl⟩ rfl rfl rfl rfl ?_
  refine sgt ⟨_,hg8,rfl,rfl⟩ rfl rfl rfl ?_
  refine spf trivial rfl rfl rfl ?_
  refine St.nil fun a12 h12=>?_
  refine hK5 _ _ ?_
  refine fr_cond (t:=17) h12 rfl (fun hb=>?_) (fun hb=>?_)
  ·have hc13:16 < y.regs:=of_decide_eq_true hb
   clear hb
   refine wp_seq_k fun K14 hK14=>?_
   refine rg h12 fun ops=>?_;clear h12 a12
   refine sa trivial rfl rfl ?_
   refine St.nil fun a15 h15=>?_
   refine hK14 _ _ ?_
   refine wp_ret ?_;with_reducible repeat first | refine of_then_ret ?_ | refine of_block_ret ?_
   have R:y.code' x bi=1:=if_pos (by omega)
   exact ret_tmp (t:=2) h15 rfl rfl ⟨by rw [R],hW2.bel⟩
  have hc16:¬ (16 < y.regs):=of_decide_eq_false hb
  clear hb
  refine wp_skip ?_
  refine hK4 _ _ ?_
  refine wp_seq_k fun K17 hK17=>?_
  refine wp_seq_k fun K18 hK18=>?_
  refine rg h12 fun ops=>?_;clear h12 a12
  refine sfblockLook1 trivial rfl rfl ?_
  refine sfBlock1 trivial rfl rfl ?_
  refine sbTypes 0 hW2 trivial rfl rfl rfl rfl ?_
  refine sfblockLook1 trivial rfl rfl ?_
  refine sfBlock0 trivial rfl rfl ?_
  refine sbInt 0 hW2 trivial rfl rfl rfl rfl ?_
  refine sc_2 cf91 hW2 (typesCode_any (regs:=y.regs) (Lay.below hy.out.params hW2.bel) ht.out.2.1) trivial rfl rfl rfl ?_
  clear hW2;intro w19 hW19
  refine sa trivial rfl rfl ?_
  refine St.nil fun a20 h20=>?_
  refine hK18 _ _ ?_
  refine wp_seq_k fun K21 hK21=>?_
  refine rg h20 fun ops=>?_;clear h20 a20
  refine sm trivial rfl rfl ?_
  refine sne trivial rfl rfl rfl ?_
  refine St.nil fun a22 h22=>?_
  refine hK21 _ _ ?_
  refine fr_cond (t:=26) h22 rfl (fun hb=>?_) (fun hb=>?_)
  ·have h9:¬ (listC y.regs y.params)=0:=bne_iff_ne.1 hb
   have hc23:¬ (listC y.regs y.params)=0:=h9
   clear h9
   clear hb
   refine wp_seq_k fun K24 hK24=>?_
   refine rg h22 fun ops=>?_;clear h22 a22
   refine sm trivial rfl rfl ?_
   refine sa trivial rfl rfl ?_
   refine St.nil fun a25 h25=>?_
   refine hK24 _ _ ?_
   refine wp_ret ?_;with_reducible repeat first | refine of_then_ret ?_ | refine of_block_ret ?_
   have R:y.code' x bi=listC y.regs y.params:=(if_neg (by omega)).trans (if_pos (by omega))
   exact ret_tmp (t:=2) h25 rfl rfl ⟨by rw [R],hW19.bel⟩
  have h9:(listC y.regs y.params)=0:=bne_eq_false_iff_eq.1 hb
  have hc26:Hid ((listC y.regs y.params)=0):=h9
  clear h9
  clear hb
  refine wp_skip ?_
  refine hK17 _ _ ?_
  refine wp_seq_k fun K27 hK27=>?_
  refine wp_seq_k fun K28 hK28=>?_
  refine fr_region ?_
  intro ops hops
  have hg3:(ops[3]?).bind (fun o:Oper=>o.dst)=some 31:=hops 3
  clear hops
  refine St.go h22 ?_;clear h22 a22
  refine sfblockLook2 trivial rfl rfl ?_
  refine sbInt 0 hW19 trivial rfl rfl rfl rfl ?_
  refine seq trivial rfl rfl rfl ?_
  refine sm trivial rfl rfl ?_
  intro a29 h29
  rcases Bool.eq_false_or_eq_true ((bi:Int) == 0) with hb | hb
  ·rw [hb] at h29
   have h9:bi=0:=by have h8:=eq_of_beq hb;omega
   have hc30:Hid (bi=0):=h9
   clear h9
   clear hb
   refine St.go h29 ?_;clear h29 a29
   refine sS 0 19 Tryz.underlying116 rfl infblockLook hW19 ⟨_,hg3,rfl,rfl⟩ rfl rfl rfl rfl ?_
   refine sc_1 cf119 hW19 (takes_any (m:=m) (p:=p) (c:=c) (fi:=fi) (bi:=bi) (hx.out.below hW19.bel) hs.out (hy.out.below hW19.bel) ht.out) ⟨_,hg3,rfl,rfl⟩ rfl rfl ?_
   clear hW19;intro w31 hW31
   refine sn ⟨_,hg3,rfl,rfl⟩ rfl rfl ?_
   refine sp trivial rfl rfl rfl ?_
   refine St.nil fun a32 h32=>?_
   refine hK28 _ _ ?_
   refine fr_cond (t:=35) h32 rfl (fun hb=>?_) (fun hb=>?_)
   ·have hb:(bdec (y.takes x))=false:=by simpa using hb
    have hc33:¬ (y.takes x):=fun h=>by rw [bdec_true h] at hb;cases hb
    clear hb
    refine wp_seq_k fun K34 hK34=>?_
    refine rg h32 fun ops=>?_;clear h32 a32
    refine sa trivial rfl rfl ?_
    refine St.nil fun a35 h35=>?_
    refine hK34 _ _ ?_
    refine wp_ret ?_;with_reducible repeat first | refine of_then_ret ?_ | refine of_block_ret ?_
    have:=hc26.out
    have:=hc30.out
    have R:y.code' x bi=9:=(if_neg (by omega)).trans ((if_neg (by omega)).trans (if_pos (⟨by omega,takes_no hc33⟩)))
    exact ret_tmp (t:=2) h35 rfl rfl ⟨by rw [R],hW31.bel⟩
   have hb:(bdec (y.takes x))=true:=by simpa using hb
   have hc36:(y.takes x):=bdec_iff.1 hb
   clear hb
   refine wp_skip ?_
   refine hK27 _ _ ?_
   refine wp_seq_k fun K37 hK37=>?_
   refine wp_seq_k fun K38 hK38=>?_
   refine rg h32 fun ops=>?_;clear h32 a32
   refine sfblockLook1 trivial rfl rfl ?_
   refine sfBlock2 trivial rfl rfl ?_
   refine sbInss 0 hW31 trivial rfl rfl rfl rfl ?_
   refine slInss trivial rfl rfl ?_
   refine sgt trivial rfl rfl rfl ?_
   refine St.nil fun a39 h39=>?_
   refine hK38 _ _ ?_
   refine fr_cond (t:=40) h39 rfl (fun hb=>?_) (fun hb=>?_)
   ·have hc40:40 < y.code.length:=by have:=of_decide_eq_true hb;omega
    clear hb
    refine wp_seq_k fun K41 hK41=>?_
    refine rg h39 fun ops=>?_;clear h39 a39
    refine sa trivial rfl rfl ?_
    refine St.nil fun a42 h42=>?_
    refine hK41 _ _ ?_
    refine wp_ret ?_;with_reducible repeat first | refine of_then_ret ?_ | refine of_block_ret ?_
    have:=hc26.out
    have:=hc30.out
    have R:y.code' x bi=2:=(if_neg (by omega)).trans ((if_neg (by omega)).trans ((if_neg (fun h=>takes_yes hc36 h.2)).trans (if_pos (by omega))))
    exact ret_tmp (t:=2) h42 rfl rfl ⟨by rw [R],hW31.bel⟩
   have hc43:¬ (40 < y.code.length):=by have:=of_decide_eq_false hb;omega
   clear hb
   refine wp_skip ?_
   refine hK37 _ _ ?_
   refine wp_seq_k fun K44 hK44=>?_
   refine rg h39 fun ops=>?_;clear h39 a39
   refine sa trivial rfl rfl ?_
   refine St.nil fun a45 h45=>?_
   refine hK44 _ _ ?_
   refine wp_ret ?_;with_reducible repeat first | refine of_then_ret ?_ | refine of_block_ret ?_
   have:=hc26.out
   have:=hc30.out
   have R:y.code' x bi=0:=(if_neg (by omega)).trans ((if_neg (by omega)).trans ((if_neg (fun h=>takes_yes hc36 h.2)).trans ((if_neg (by omega)).trans (rfl))))
   exact ret_tmp (t:=2) h45 rfl rfl ⟨by rw [R],hW31.bel⟩
  rw [hb] at h29
  have h9:¬ bi=0:=by have h8:=ne_of_beq_false hb;omega
  have hc46:¬ bi=0:=h9
  clear h9
  clear hb
  refine St.go h29 ?_;clear h29 a29
  refine so hg3 rfl rfl rfl rfl ?_
  refine so hg3 rfl rfl rfl rfl ?_
  refine so hg3 rfl rfl rfl rfl ?_
  refine spf trivial rfl rfl rfl ?_
  refine St.nil fun a47 h47=>?_
  refine hK28 _ _ ?_
  refine fr_false (t:=35) h47 rfl ?_
  refine wp_skip ?_
  refine hK27 _ _ ?_
  refine wp_seq_k fun K48 hK48=>?_
  refine wp_seq_k fun K49 hK49=>?_
  refine rg h47 fun ops=>?_;clear h47 a47
  refine sfblockLook1 trivial rfl rfl ?_
  refine sfBlock2 trivial rfl rfl ?_
  refine sbInss 0 hW19 trivial rfl rfl rfl rfl ?_
  refine slInss trivial rfl rfl ?_
  refine sgt trivial rfl rfl rfl ?_
  refine St.nil fun a50 h50=>?_
  refine hK49 _ _ ?_
  refine fr_cond (t:=40) h50 rfl (fun hb=>?_) (fun hb=>?_)
  ·have hc51:40 < y.code.length:=by have:=of_decide_eq_true hb;omega
   clear hb
   refine wp_seq_k fun K52 hK52=>?_
   refine rg h50 fun ops=>?_;clear h50 a50
   refine sa trivial rfl rfl ?_
   refine St.nil fun a53 h53=>?_
   refine hK52 _ _ ?_
   refine wp_ret ?_;with_reducible repeat first | refine of_then_ret ?_ | refine of_block_ret ?_
   have:=hc26.out
   have R:y.code' x bi=2:=(if_neg (by omega)).trans ((if_neg (by omega)).trans ((if_neg (by omega)).trans (if_pos (by omega))))
   exact ret_tmp (t:=2) h53 rfl rfl ⟨by rw [R],hW19.bel⟩
  have hc54:¬ (40 < y.code.length):=by have:=of_decide_eq_false hb;omega
  clear hb
  refine wp_skip ?_
  refine hK48 _ _ ?_
  refine wp_seq_k fun K55 hK55=>?_
  refine rg h50 fun ops=>?_;clear h50 a50
  refine sa trivial rfl rfl ?_
  refine St.nil fun a56 h56=>?_
  refine hK55 _ _ ?_
  refine wp_ret ?_;with_reducible repeat first | refine of_then_ret ?_ | refine of_block_ret ?_
  have:=hc26.out
  have R:y.code' x bi=0:=(if_neg (by omega)).trans ((if_neg (by omega)).trans ((if_neg (by omega)).trans ((if_neg (by omega)).trans (rfl))))
  exact ret_tmp (t:=2) h56 rfl rfl ⟨by rw [R],hW19.bel⟩
theorem ffIns_any {l : List MIns} {p : Option Addr} {c Bc : Nat} {w : World} (G : Nat → MIns → Int × Int) (hl0 : insL.list.In w All l [.slice p l.length c]) (hsb : l.length ≤ 100000)
    (hcl0:∀ (i:Nat) x (z:IP) wx,l[i]?=some x→IIn wx All x z→Below w.heap.size w wx→Rd Tryz.prog 96 #[.int .i64 (i:Int),.agg #[.int .i64 x.op,.int .i64 x.a,.int .i64 x.b,.int .i64 x.c,.int .i64 x.k,.int .i64 x.n,.slice z.pR x.regs.length z.cR,.slice z.pA x.args.length z.cA],.pointer (some ⟨Bc,0,none⟩)] wx (faultV (G i x))) :
    Rd Tryz.prog 95 #[.slice p l.length c,.func (.func 96) #[] #[.pointer (some ⟨Bc,0,none⟩)]] w (faultV (firstF G 0 l)):=by
  have hl:Hid _:=hl0
  have hcl:Hid _:=hcl0
  clear hl0 hcl0
  refine fr_enter (n:=25) Tryz.func95 rfl rfl rfl ?_
  intro a hF
  have hW:=Wd.start w
  replace hF:Fr 25 a [(0,.slice p l.length c),(1,.func (.func 96) #[] #[.pointer (some ⟨Bc,0,none⟩)])]:=hF
  refine wp_seq_k fun K1 hK1=>?_
  refine rg hF fun ops=>?_;clear hF a
  refine sAFault hW trivial rfl ?_
  clear hW;intro w2 B2 hW2 hN;clear hN
  refine St.nil fun a3 h3=>?_
  refine hK1 _ _ ?_
  refine wp_seq_k fun K4 hK4=>?_
  refine wp_seq_k fun K5 hK5=>?_
  refine rg h3 fun ops=>?_;clear h3 a3
  refine sm trivial rfl rfl ?_
  refine slInss trivial rfl rfl ?_
  refine sm trivial rfl rfl ?_
  refine St.nil fun a6 h6=>?_
  refine hK5 _ _ ?_
  refine wp_block ?_
  refine fr_loop (fun r a w'=>∃ q:Nat,q≤l.length∧r=l.length - q∧(∀ (j:Nat) y,j < q→l[j]?=some y→(G j y).1=0)∧Fr 25 a [(1,.func (.func 96) #[] #[.pointer (some ⟨Bc,0,none⟩)]),(0,.slice p l.length c),(4,.pointer (some ⟨B2,0,none⟩)),(8,.slice p l.length c),(9,.int .i64 (l.length:Int)),(10,.int .i64 (q:Int))]∧Wd w w' [(B2,#[.int .i64 0,.int .i64 0],27)]) (l.length) ⟨0,Nat.zero_le _,rfl,(fun j y hj=>by omega),(h6.keep (h6.keep (h6.keep (h6.keep (h6.keep (h6.keep h6.nil (t:=10) rfl) (t:=9) rfl) (t:=8) rfl) (t:=4) rfl) (t:=0) rfl) (t:=1) rfl),hW2⟩ ?_
  clear h6 hW2
  rintro r a7 w7 ⟨q,hq,hr,hall,hF7,hW7⟩ KL hKL
  refine wp_seq_k fun K8 hK8=>?_
  refine rg hF7 fun ops=>?_;clear hF7 a7
  refine slt trivial rfl rfl rfl ?_
  refine St.nil fun a9 h9=>?_
  refine hK8 _ _ ?_
  refine wp_seq_k fun K10 hK10=>?_
  refine fr_cond (t:=11) h9 rfl (fun hb=>?_) (fun hb=>?_)
  ·have hlt1:q < l.length:=by have:=of_decide_eq_true hb;omega
   clear hb
   obtain ⟨x,hx1⟩:∃ v9,(l)[q]?=some v9:=⟨_,List.getElem?_eq_getElem hlt1⟩
   obtain ⟨g1,o1,i1,hp1,E1,In1⟩:=ins_at hl.out hx1
   replace In1:Hid _:=In1
   replace hp1:Hid _:=hp1
   replace hx1:Hid _:=hx1
   replace E1:Hid _:=E1
   refine wp_skip ?_
   refine hK10 _ _ ?_
   refine wp_seq_k fun K11 hK11=>?_
   refine wp_block ?_
   refine wp_seq_k fun K12 hK12=>?_
   refine rg h9 fun ops=>?_;clear h9 a9
   refine sm trivial rfl rfl ?_
   refine siInss hp1.out hlt1 trivial rfl rfl rfl ?_
   refine sSE Tryz.underlying41 rfl (rangeAt_bel E1.out hW7.bel) infIns trivial rfl rfl ?_
   refine sAIns hW7 trivial rfl ?_
   clear hW7;intro w13 B13 hW13 hN;clear hN
   refine sa trivial rfl rfl ?_
   refine sT 0 hW13 rfl rfl infIns rfl rfl rfl ?_
   clear hW13;intro w14 hW14
   refine St.nil fun a15 h15=>?_
   refine hK12 _ _ ?_
   refine wp_seq_k fun K16 hK16=>?_
   refine rg h15 fun ops=>?_;clear h15 a15
   refine sm trivial rfl rfl ?_
   refine sm trivial rfl rfl ?_
   refine sS 0 8 Tryz.underlying41 rfl infIns hW14 trivial rfl rfl rfl rfl ?_
   refine sv_21 cf96 hW14 (hcl.out q x i1 w14 hx1.out (In1.out.below hW14.bel) hW14.bel) trivial rfl rfl rfl rfl ?_
   clear hW14;intro w17 hW17
   refine sAFault hW17 trivial rfl ?_
   clear hW17;intro w18 B18 hW18 hN;clear hN
   refine sT 0 hW18 rfl rfl infFault rfl rfl rfl ?_
   clear hW18;intro w19 hW19
   refine St.nil fun a20 h20=>?_
   refine hK16 _ _ ?_
   refine wp_seq_k fun K21 hK21=>?_
   refine rg h20 fun ops=>?_;clear h20 a20
   refine sfFault0 trivial rfl rfl ?_
   refine sbInt 0 hW19 trivial rfl rfl rfl rfl ?_
   refine sne trivial rfl rfl rfl ?_
   refine St.nil fun a22 h22=>?_
   refine hK21 _ _ ?_
   refine fr_cond (t:=21) h22 rfl (fun hb=>?_) (fun hb=>?_)
   ·have h9:¬ ((G q x).1)=0:=bne_iff_ne.1 hb
    have hne:¬ ((G q x).1)=0:=h9
    clear h9
    clear hb
    refine wp_seq_k fun K23 hK23=>?_
    refine rg h22 fun ops=>?_;clear h22 a22
    refine sS 0 2 Tryz.underlying27 rfl infFault hW19 trivial rfl rfl rfl rfl ?_
    refine sT 2 hW19 rfl rfl infFault rfl rfl rfl ?_
    clear hW19;intro w24 hW24
    refine St.nil fun a25 h25=>?_
    refine hK23 _ _ ?_
    refine wp_ret ?_;with_reducible repeat first | refine of_then_ret ?_ | refine of_block_ret ?_
    have R:firstF G 0 l=G q x:=by have h9:=firstF_eq (f:=G) (j:=0) hx1.out (fun k y hk hy=>by rw [Nat.zero_add];exact hall k y hk hy) (by rw [Nat.zero_add];exact hne);rwa [Nat.zero_add] at h9
    exact ret_box 2 h25 hW24 rfl rfl rfl Tryz.underlying27 rfl infFault ⟨by show Ending.returned (.agg #[.int .i64 ((G q x).1),.int .i64 ((G q x).2)])=_;rw [R],hW24.bel⟩
   have h9:((G q x).1)=0:=bne_eq_false_iff_eq.1 hb
   have hne:Hid (((G q x).1)=0):=h9
   clear h9
   clear hb
   refine wp_skip ?_
   refine hK11 _ _ ?_
   refine rg h22 fun ops=>?_;clear h22 a22
   refine sad (by omega) trivial rfl rfl rfl ?_
   refine sm trivial rfl rfl ?_
   refine St.nil fun a26 h26=>?_
   refine hKL _ _ (l.length - (q+1)) (by omega) ⟨q+1,by omega,rfl,?_,(h26.keep (h26.keep (h26.keep (h26.keep (h26.keep (h26.keep h26.nil (t:=10) rfl) (t:=9) rfl) (t:=8) rfl) (t:=4) rfl) (t:=0) rfl) (t:=1) rfl),hW19.tail.tail⟩
   ·intro j y hj hy
    by_cases e:j=q
    · subst e;rw [hx1.out] at hy;cases hy;exact hne.out
    · exact hall j y (by omega) hy
  have hge:q=l.length:=by have:=of_decide_eq_false hb;omega
  clear hb
  refine wp_exit ?_
  refine hK4 _ _ ?_
  refine wp_seq_k fun K27 hK27=>?_
  refine rg h9 fun ops=>?_;clear h9 a9
  intro a28 h28
  refine fr_pure (t:=24) (v:=.agg #[.int .i64 0,.int .i64 0]) (w':=w7) h28 rfl rfl rfl (fun K hK=>?_) ?_
  ·go_simp
   exact hK
  clear h28;intro a29 hF29
  refine St.go hF29 ?_;clear hF29 a29
  refine sT 0 hW7 rfl rfl infFault rfl rfl rfl ?_
  clear hW7;intro w30 hW30
  refine St.nil fun a31 h31=>?_
  refine hK27 _ _ ?_
  refine wp_ret ?_;with_reducible repeat first | refine of_then_ret ?_ | refine of_block_ret ?_
  have R:firstF G 0 l=(0,0):=firstF_zero (fun k y hy=>by rw [Nat.zero_add];exact hall k y (by have:=(List.getElem?_eq_some_iff.1 hy).1;omega) hy)
  exact ret_box 0 h31 hW30 rfl rfl rfl Tryz.underlying27 rfl infFault ⟨by show Ending.returned (.agg #[.int .i64 0,.int .i64 0])=_;rw [R],hW30.bel⟩
theorem ffBlock_any {n : Nat} {l : List (MBlock n)} {p : Option Addr} {c Bc : Nat} {w : World} (G : Nat → (MBlock n) → Int × Int) (hl0 : (blockL n).list.In w All l [.slice p l.length c]) (hsb : l.length ≤ 100000)
    (hcl0:∀ (i:Nat) x (z:BP) wx,l[i]?=some x→BIn wx All x z→Below w.heap.size w wx→Rd Tryz.prog 75 #[.int .i64 (i:Int),.agg #[.int .i64 x.regs,.slice z.pP x.params.length z.cP,.slice z.pC x.code.length z.cC,.int .i64 x.fin.op,.int .i64 x.fin.a,.int .i64 x.fin.yes.block,.slice z.e.pYR x.fin.yes.regs.length z.e.cYR,.slice z.e.pYA x.fin.yes.args.length z.e.cYA,.int .i64 x.fin.no.block,.slice z.e.pNR x.fin.no.regs.length z.e.cNR,.slice z.e.pNA x.fin.no.args.length z.e.cNA,.slice z.e.pA x.fin.args.length z.e.cA],.pointer (some ⟨Bc,0,none⟩)] wx (faultV (G i x))) :
    Rd Tryz.prog 74 #[.slice p l.length c,.func (.func 75) #[] #[.pointer (some ⟨Bc,0,none⟩)]] w (faultV (firstF G 0 l)):=by
  have hl:Hid _:=hl0
  have hcl:Hid _:=hcl0
  clear hl0 hcl0
  refine fr_enter (n:=25) Tryz.func74 rfl rfl rfl ?_
  intro a hF
  have hW:=Wd.start w
  replace hF:Fr 25 a [(0,.slice p l.length c),(1,.func (.func 75) #[] #[.pointer (some ⟨Bc,0,none⟩)])]:=hF
  refine wp_seq_k fun K1 hK1=>?_
  refine rg hF fun ops=>?_;clear hF a
  refine sAFault hW trivial rfl ?_
  clear hW;intro w2 B2 hW2 hN;clear hN
  refine St.nil fun a3 h3=>?_
  refine hK1 _ _ ?_
  refine wp_seq_k fun K4 hK4=>?_
  refine wp_seq_k fun K5 hK5=>?_
  refine rg h3 fun ops=>?_;clear h3 a3
  refine sm trivial rfl rfl ?_
  refine slBlocks trivial rfl rfl ?_
  refine sm trivial rfl rfl ?_
  refine St.nil fun a6 h6=>?_
  refine hK5 _ _ ?_
  refine wp_block ?_
  refine fr_loop (fun r a w'=>∃ q:Nat,q≤l.length∧r=l.length - q∧(∀ (j:Nat) y,j < q→l[j]?=some y→(G j y).1=0)∧Fr 25 a [(1,.func (.func 75) #[] #[.pointer (some ⟨Bc,0,none⟩)]),(0,.slice p l.length c),(4,.pointer (some ⟨B2,0,none⟩)),(8,.slice p l.length c),(9,.int .i64 (l.length:Int)),(10,.int .i64 (q:Int))]∧Wd w w' [(B2,#[.int .i64 0,.int .i64 0],27)]) (l.length) ⟨0,Nat.zero_le _,rfl,(fun j y hj=>by omega),(h6.keep (h6.keep (h6.keep (h6.keep (h6.keep (h6.keep h6.nil (t:=10) rfl) (t:=9) rfl) (t:=8) rfl) (t:=4) rfl) (t:=0) rfl) (t:=1) rfl),hW2⟩ ?_
  clear h6 hW2
  rintro r a7 w7 ⟨q,hq,hr,hall,hF7,hW7⟩ KL hKL
  refine wp_seq_k fun K8 hK8=>?_
  refine rg hF7 fun ops=>?_;clear hF7 a7
  refine slt trivial rfl rfl rfl ?_
  refine St.nil fun a9 h9=>?_
  refine hK8 _ _ ?_
  refine wp_seq_k fun K10 hK10=>?_
  refine fr_cond (t:=11) h9 rfl (fun hb=>?_) (fun hb=>?_)
  ·have hlt1:q < l.length:=by have:=of_decide_eq_true hb;omega
   clear hb
   obtain ⟨x,hx1⟩:∃ v9,(l)[q]?=some v9:=⟨_,List.getElem?_eq_getElem hlt1⟩
   obtain ⟨g1,o1,b1,hp1,E1,In1⟩:=block_at hl.out hx1
   replace In1:Hid _:=In1
   replace hp1:Hid _:=hp1
   replace hx1:Hid _:=hx1
   replace E1:Hid _:=E1
   refine wp_skip ?_
   refine hK10 _ _ ?_
   refine wp_seq_k fun K11 hK11=>?_
   refine wp_block ?_
   refine wp_seq_k fun K12 hK12=>?_
   refine rg h9 fun ops=>?_;clear h9 a9
   refine sm trivial rfl rfl ?_
   refine siBlocks hp1.out hlt1 trivial rfl rfl rfl ?_
   refine sSE Tryz.underlying48 rfl (rangeAt_bel E1.out hW7.bel) infBlock trivial rfl rfl ?_
   refine sABlock hW7 trivial rfl ?_
   clear hW7;intro w13 B13 hW13 hN;clear hN
   refine sa trivial rfl rfl ?_
   refine sT 0 hW13 rfl rfl infBlock rfl rfl rfl ?_
   clear hW13;intro w14 hW14
   refine St.nil fun a15 h15=>?_
   refine hK12 _ _ ?_
   refine wp_seq_k fun K16 hK16=>?_
   refine rg h15 fun ops=>?_;clear h15 a15
   refine sm trivial rfl rfl ?_
   refine sm trivial rfl rfl ?_
   refine sS 0 12 Tryz.underlying48 rfl infBlock hW14 trivial rfl rfl rfl rfl ?_
   refine sv_21 cf75 hW14 (hcl.out q x b1 w14 hx1.out (In1.out.below hW14.bel) hW14.bel) trivial rfl rfl rfl rfl ?_
   clear hW14;intro w17 hW17
   refine sAFault hW17 trivial rfl ?_
   clear hW17;intro w18 B18 hW18 hN;clear hN
   refine sT 0 hW18 rfl rfl infFault rfl rfl rfl ?_
   clear hW18;intro w19 hW19
   refine St.nil fun a20 h20=>?_
   refine hK16 _ _ ?_
   refine wp_seq_k fun K21 hK21=>?_
   refine rg h20 fun ops=>?_;clear h20 a20
   refine sfFault0 trivial rfl rfl ?_
   refine sbInt 0 hW19 trivial rfl rfl rfl rfl ?_
   refine sne trivial rfl rfl rfl ?_
   refine St.nil fun a22 h22=>?_
   refine hK21 _ _ ?_
   refine fr_cond (t:=21) h22 rfl (fun hb=>?_) (fun hb=>?_)
   ·have h9:¬ ((G q x).1)=0:=bne_iff_ne.1 hb
    have hne:¬ ((G q x).1)=0:=h9
    clear h9
    clear hb
    refine wp_seq_k fun K23 hK23=>?_
    refine rg h22 fun ops=>?_;clear h22 a22
    refine sS 0 2 Tryz.underlying27 rfl infFault hW19 trivial rfl rfl rfl rfl ?_
    refine sT 2 hW19 rfl rfl infFault rfl rfl rfl ?_
    clear hW19;intro w24 hW24
    refine St.nil fun a25 h25=>?_
    refine hK23 _ _ ?_
    refine wp_ret ?_;with_reducible repeat first | refine of_then_ret ?_ | refine of_block_ret ?_
    have R:firstF G 0 l=G q x:=by have h9:=firstF_eq (f:=G) (j:=0) hx1.out (fun k y hk hy=>by rw [Nat.zero_add];exact hall k y hk hy) (by rw [Nat.zero_add];exact hne);rwa [Nat.zero_add] at h9
    exact ret_box 2 h25 hW24 rfl rfl rfl Tryz.underlying27 rfl infFault ⟨by show Ending.returned (.agg #[.int .i64 ((G q x).1),.int .i64 ((G q x).2)])=_;rw [R],hW24.bel⟩
   have h9:((G q x).1)=0:=bne_eq_false_iff_eq.1 hb
   have hne:Hid (((G q x).1)=0):=h9
   clear h9
   clear hb
   refine wp_skip ?_
   refine hK11 _ _ ?_
   refine rg h22 fun ops=>?_;clear h22 a22
   refine sad (by omega) trivial rfl rfl rfl ?_
   refine sm trivial rfl rfl ?_
   refine St.nil fun a26 h26=>?_
   refine hKL _ _ (l.length - (q+1)) (by omega) ⟨q+1,by omega,rfl,?_,(h26.keep (h26.keep (h26.keep (h26.keep (h26.keep (h26.keep h26.nil (t:=10) rfl) (t:=9) rfl) (t:=8) rfl) (t:=4) rfl) (t:=0) rfl) (t:=1) rfl),hW19.tail.tail⟩
   ·intro j y hj hy
    by_cases e:j=q
    · subst e;rw [hx1.out] at hy;cases hy;exact hne.out
    · exact hall j y (by omega) hy
  have hge:q=l.length:=by have:=of_decide_eq_false hb;omega
  clear hb
  refine wp_exit ?_
  refine hK4 _ _ ?_
  refine wp_seq_k fun K27 hK27=>?_
  refine rg h9 fun ops=>?_;clear h9 a9
  intro a28 h28
  refine fr_pure (t:=24) (v:=.agg #[.int .i64 0,.int .i64 0]) (w':=w7) h28 rfl rfl rfl (fun K hK=>?_) ?_
  ·go_simp
   exact hK
  clear h28;intro a29 hF29
  refine St.go hF29 ?_;clear hF29 a29
  refine sT 0 hW7 rfl rfl infFault rfl rfl rfl ?_
  clear hW7;intro w30 hW30
  refine St.nil fun a31 h31=>?_
  refine hK27 _ _ ?_
  refine wp_ret ?_;with_reducible repeat first | refine of_then_ret ?_ | refine of_block_ret ?_
  have R:firstF G 0 l=(0,0):=firstF_zero (fun k y hy=>by rw [Nat.zero_add];exact hall k y (by have:=(List.getElem?_eq_some_iff.1 hy).1;omega) hy)
  exact ret_box 0 h31 hW30 rfl rfl rfl Tryz.underlying27 rfl infFault ⟨by show Ending.returned (.agg #[.int .i64 0,.int .i64 0])=_;rw [R],hW30.bel⟩
theorem ffFunc_any {n : Nat} {l : List (MFunc n)} {p : Option Addr} {c Bc : Nat} {w : World} (G : Nat → (MFunc n) → Int × Int) (hl0 : (modL n).In w All l [.slice p l.length c]) (hsb : l.length ≤ 100000)
    (hcl0:∀ (i:Nat) x (z:FP) wx,l[i]?=some x→FIn wx All x z→Below w.heap.size w wx→Rd Tryz.prog 37 #[.int .i64 (i:Int),.agg #[.int .i64 x.regs,.slice z.pP x.params.length z.cP,.slice z.pR x.results.length z.cR,.slice z.pB x.blocks.length z.cB],.pointer (some ⟨Bc,0,none⟩)] wx (faultV (G i x))) :
    Rd Tryz.prog 36 #[.slice p l.length c,.func (.func 37) #[] #[.pointer (some ⟨Bc,0,none⟩)]] w (faultV (firstF G 0 l)):=by
  have hl:Hid _:=hl0
  have hcl:Hid _:=hcl0
  clear hl0 hcl0
  refine fr_enter (n:=25) Tryz.func36 rfl rfl rfl ?_
  intro a hF
  have hW:=Wd.start w
  replace hF:Fr 25 a [(0,.slice p l.length c),(1,.func (.func 37) #[] #[.pointer (some ⟨Bc,0,none⟩)])]:=hF
  refine wp_seq_k fun K1 hK1=>?_
  refine rg hF fun ops=>?_;clear hF a
  refine sAFault hW trivial rfl ?_
  clear hW;intro w2 B2 hW2 hN;clear hN
  refine St.nil fun a3 h3=>?_
  refine hK1 _ _ ?_
  refine wp_seq_k fun K4 hK4=>?_
  refine wp_seq_k fun K5 hK5=>?_
  refine rg h3 fun ops=>?_;clear h3 a3
  refine sm trivial rfl rfl ?_
  refine slFuncs trivial rfl rfl ?_
  refine sm trivial rfl rfl ?_
  refine St.nil fun a6 h6=>?_
  refine hK5 _ _ ?_
  refine wp_block ?_
  refine fr_loop (fun r a w'=>∃ q:Nat,q≤l.length∧r=l.length - q∧(∀ (j:Nat) y,j < q→l[j]?=some y→(G j y).1=0)∧Fr 25 a [(1,.func (.func 37) #[] #[.pointer (some ⟨Bc,0,none⟩)]),(0,.slice p l.length c),(4,.pointer (some ⟨B2,0,none⟩)),(8,.slice p l.length c),(9,.int .i64 (l.length:Int)),(10,.int .i64 (q:Int))]∧Wd w w' [(B2,#[.int .i64 0,.int .i64 0],27)]) (l.length) ⟨0,Nat.zero_le _,rfl,(fun j y hj=>by omega),(h6.keep (h6.keep (h6.keep (h6.keep (h6.keep (h6.keep h6.nil (t:=10) rfl) (t:=9) rfl) (t:=8) rfl) (t:=4) rfl) (t:=0) rfl) (t:=1) rfl),hW2⟩ ?_
  clear h6 hW2
  rintro r a7 w7 ⟨q,hq,hr,hall,hF7,hW7⟩ KL hKL
  refine wp_seq_k fun K8 hK8=>?_
  refine rg hF7 fun ops=>?_;clear hF7 a7
  refine slt trivial rfl rfl rfl ?_
  refine St.nil fun a9 h9=>?_
  refine hK8 _ _ ?_
  refine wp_seq_k fun K10 hK10=>?_
  refine fr_cond (t:=11) h9 rfl (fun hb=>?_) (fun hb=>?_)
  ·have hlt1:q < l.length:=by have:=of_decide_eq_true hb;omega
   clear hb
   obtain ⟨x,hx1⟩:∃ v9,(l)[q]?=some v9:=⟨_,List.getElem?_eq_getElem hlt1⟩
   obtain ⟨g1,o1,f1,hp1,E1,In1⟩:=func_at hl.out hx1
   replace In1:Hid _:=In1
   replace hp1:Hid _:=hp1
   replace hx1:Hid _:=hx1
   replace E1:Hid _:=E1
   refine wp_skip ?_
   refine hK10 _ _ ?_
   refine wp_seq_k fun K11 hK11=>?_
   refine wp_block ?_
   refine wp_seq_k fun K12 hK12=>?_
   refine rg h9 fun ops=>?_;clear h9 a9
   refine sm trivial rfl rfl ?_
   refine siFuncs hp1.out hlt1 trivial rfl rfl rfl ?_
   refine sSE Tryz.underlying38 rfl (rangeAt_bel E1.out hW7.bel) infFunc trivial rfl rfl ?_
   refine sAFunc hW7 trivial rfl ?_
   clear hW7;intro w13 B13 hW13 hN;clear hN
   refine sa trivial rfl rfl ?_
   refine sT 0 hW13 rfl rfl infFunc rfl rfl rfl ?_
   clear hW13;intro w14 hW14
   refine St.nil fun a15 h15=>?_
   refine hK12 _ _ ?_
   refine wp_seq_k fun K16 hK16=>?_
   refine rg h15 fun ops=>?_;clear h15 a15
   refine sm trivial rfl rfl ?_
   refine sm trivial rfl rfl ?_
   refine sS 0 4 Tryz.underlying38 rfl infFunc hW14 trivial rfl rfl rfl rfl ?_
   refine sv_21 cf37 hW14 (hcl.out q x f1 w14 hx1.out (In1.out.below hW14.bel) hW14.bel) trivial rfl rfl rfl rfl ?_
   clear hW14;intro w17 hW17
   refine sAFault hW17 trivial rfl ?_
   clear hW17;intro w18 B18 hW18 hN;clear hN
   refine sT 0 hW18 rfl rfl infFault rfl rfl rfl ?_
   clear hW18;intro w19 hW19
   refine St.nil fun a20 h20=>?_
   refine hK16 _ _ ?_
   refine wp_seq_k fun K21 hK21=>?_
   refine rg h20 fun ops=>?_;clear h20 a20
   refine sfFault0 trivial rfl rfl ?_
   refine sbInt 0 hW19 trivial rfl rfl rfl rfl ?_
   refine sne trivial rfl rfl rfl ?_
   refine St.nil fun a22 h22=>?_
   refine hK21 _ _ ?_
   refine fr_cond (t:=21) h22 rfl (fun hb=>?_) (fun hb=>?_)
   ·have h9:¬ ((G q x).1)=0:=bne_iff_ne.1 hb
    have hne:¬ ((G q x).1)=0:=h9
    clear h9
    clear hb
    refine wp_seq_k fun K23 hK23=>?_
    refine rg h22 fun ops=>?_;clear h22 a22
    refine sS 0 2 Tryz.underlying27 rfl infFault hW19 trivial rfl rfl rfl rfl ?_
    refine sT 2 hW19 rfl rfl infFault rfl rfl rfl ?_
    clear hW19;intro w24 hW24
    refine St.nil fun a25 h25=>?_
    refine hK23 _ _ ?_
    refine wp_ret ?_;with_reducible repeat first | refine of_then_ret ?_ | refine of_block_ret ?_
    have R:firstF G 0 l=G q x:=by have h9:=firstF_eq (f:=G) (j:=0) hx1.out (fun k y hk hy=>by rw [Nat.zero_add];exact hall k y hk hy) (by rw [Nat.zero_add];exact hne);rwa [Nat.zero_add] at h9
    exact ret_box 2 h25 hW24 rfl rfl rfl Tryz.underlying27 rfl infFault ⟨by show Ending.returned (.agg #[.int .i64 ((G q x).1),.int .i64 ((G q x).2)])=_;rw [R],hW24.bel⟩
   have h9:((G q x).1)=0:=bne_eq_false_iff_eq.1 hb
   have hne:Hid (((G q x).1)=0):=h9
   clear h9
   clear hb
   refine wp_skip ?_
   refine hK11 _ _ ?_
   refine rg h22 fun ops=>?_;clear h22 a22
   refine sad (by omega) trivial rfl rfl rfl ?_
   refine sm trivial rfl rfl ?_
   refine St.nil fun a26 h26=>?_
   refine hKL _ _ (l.length - (q+1)) (by omega) ⟨q+1,by omega,rfl,?_,(h26.keep (h26.keep (h26.keep (h26.keep (h26.keep (h26.keep h26.nil (t:=10) rfl) (t:=9) rfl) (t:=8) rfl) (t:=4) rfl) (t:=0) rfl) (t:=1) rfl),hW19.tail.tail⟩
   ·intro j y hj hy
    by_cases e:j=q
    · subst e;rw [hx1.out] at hy;cases hy;exact hne.out
    · exact hall j y (by omega) hy
  have hge:q=l.length:=by have:=of_decide_eq_false hb;omega
  clear hb
  refine wp_exit ?_
  refine hK4 _ _ ?_
  refine wp_seq_k fun K27 hK27=>?_
  refine rg h9 fun ops=>?_;clear h9 a9
  intro a28 h28
  refine fr_pure (t:=24) (v:=.agg #[.int .i64 0,.int .i64 0]) (w':=w7) h28 rfl rfl rfl (fun K hK=>?_) ?_
  ·go_simp
   exact hK
  clear h28;intro a29 hF29
  refine St.go hF29 ?_;clear hF29 a29
  refine sT 0 hW7 rfl rfl infFault rfl rfl rfl ?_
  clear hW7;intro w30 hW30
  refine St.nil fun a31 h31=>?_
  refine hK27 _ _ ?_
  refine wp_ret ?_;with_reducible repeat first | refine of_then_ret ?_ | refine of_block_ret ?_
  have R:firstF G 0 l=(0,0):=firstF_zero (fun k y hy=>by rw [Nat.zero_add];exact hall k y (by have:=(List.getElem?_eq_some_iff.1 hy).1;omega) hy)
  exact ret_box 0 h31 hW30 rfl rfl rfl Tryz.underlying27 rfl infFault ⟨by show Ending.returned (.agg #[.int .i64 0,.int .i64 0])=_;rw [R],hW30.bel⟩
theorem clo97_any {n : Nat} {m : List (MFunc n)} {p : Option Addr} {c : Nat} {x : MFunc n} {fp : FP} {fi : Nat} {y : MBlock n} {bp : BP} {bi : Nat} {Bc : Nat} {w : World} {z : MIns} {zi : IP} {q : Nat} (hq : q < 1000000) (hm : m.length ≤ 100000) (hfi : fi < 1000000) (hbi : bi < 1000000) (hcap0 : Blk w Bc #[.slice p m.length c, .int .i64 x.regs, .slice fp.pP x.params.length fp.cP, .slice fp.pR x.results.length fp.cR, .slice fp.pB x.blocks.length fp.cB, .int .i64 (fi : Int), .int .i64 y.regs, .slice bp.pP y.params.length bp.cP, .slice bp.pC y.code.length bp.cC, .int .i64 y.fin.op, .int .i64 y.fin.a, .int .i64 y.fin.yes.block, .slice bp.e.pYR y.fin.yes.regs.length bp.e.cYR, .slice bp.e.pYA y.fin.yes.args.length bp.e.cYA, .int .i64 y.fin.no.block, .slice bp.e.pNR y.fin.no.regs.length bp.e.cNR, .slice bp.e.pNA y.fin.no.args.length bp.e.cNA, .slice bp.e.pA y.fin.args.length bp.e.cA, .int .i64 (bi : Int)] 116) :
    Rd Tryz.prog 96 #[.int .i64 (q:Int),.agg #[.int .i64 z.op,.int .i64 z.a,.int .i64 z.b,.int .i64 z.c,.int .i64 z.k,.int .i64 z.n,.slice zi.pR z.regs.length zi.cR,.slice zi.pA z.args.length zi.cA],.pointer (some ⟨Bc,0,none⟩)] w (faultV (atF (z.form m.length) (10000 * (fi:Int)+100 * (bi:Int)+(q:Int)))):=by
  have hcap:Hid _:=hcap0
  clear hcap0
  refine fr_enter (n:=19) Tryz.func96 rfl rfl rfl ?_
  intro a hF
  have hW:=Wd.start w
  replace hF:Fr 19 a [(0,.int .i64 (q:Int)),(1,.agg #[.int .i64 z.op,.int .i64 z.a,.int .i64 z.b,.int .i64 z.c,.int .i64 z.k,.int .i64 z.n,.slice zi.pR z.regs.length zi.cR,.slice zi.pA z.args.length zi.cA]),(2,.pointer (some ⟨Bc,0,none⟩))]:=hF
  refine wp_seq_k fun K1 hK1=>?_
  refine rg hF fun ops=>?_;clear hF a
  refine sB hW trivial rfl rfl ?_
  clear hW;intro w2 B2 hW2 hN;clear hN
  refine sAFault hW2 trivial rfl ?_
  clear hW2;intro w3 B3 hW3 hN;clear hN
  refine St.nil fun a4 h4=>?_
  refine hK1 _ _ ?_
  refine wp_seq_k fun K5 hK5=>?_
  have hF6:Fr 19 a4 [(2,.pointer (some ⟨Bc,0,none⟩)),(1,.agg #[.int .i64 z.op,.int .i64 z.a,.int .i64 z.b,.int .i64 z.c,.int .i64 z.k,.int .i64 z.n,.slice zi.pR z.regs.length zi.cR,.slice zi.pA z.args.length zi.cA]),(0,.int .i64 (q:Int)),(4,.pointer (some ⟨B2,0,none⟩)),(5,.pointer (some ⟨B3,0,none⟩))]:=(h4.keep (h4.keep (h4.keep (h4.keep (h4.keep h4.nil (t:=5) rfl) (t:=4) rfl) (t:=0) rfl) (t:=1) rfl) (t:=2) rfl)
  have ho2:a4.tmps.getD 2 undef=.pointer (some ⟨Bc,0,none⟩):=h4.sl 2 _ rfl
  have ho4:a4.tmps.getD 4 undef=.pointer (some ⟨B2,0,none⟩):=h4.sl 4 _ rfl
  have ho0:a4.tmps.getD 0 undef=.int .i64 (q:Int):=h4.sl 0 _ rfl
  refine fr_draw_k 13 ([(2,fun v _=>v=.pointer (some ⟨Bc,0,none⟩)),(4,fun v _=>v=.pointer (some ⟨B2,0,none⟩)),(0,fun v _=>v=.int .i64 (q:Int)),(6,fun v _=>v=.pointer (some ⟨Bc,0,none⟩)),(7,fun v _=>v=.pointer (some ⟨Bc,0,none⟩)),(8,fun v _=>v=.agg #[.slice p m.length c]),(9,fun v _=>v=.agg #[.int .i64 z.op,.int .i64 z.a,.int .i64 z.b,.int .i64 z.c,.int .i64 z.k,.int .i64 z.n,.slice zi.pR z.regs.length zi.cR,.slice zi.pA z.args.length zi.cA]),(10,fun v _=>v=.int .i64 (z.form m.length)),(11,fun v _=>v=.pointer (some ⟨Bc,0,none⟩)),(12,fun v _=>v=.pointer (some ⟨Bc,5,none⟩)),(13,fun v _=>v=.int .i64 (fi:Int)),(14,fun v _=>v=.pointer (some ⟨Bc,18,none⟩)),(15,fun v _=>v=.int .i64 (bi:Int)),(16,fun v _=>v=.int .i64 (q:Int)),(17,fun v _=>v=.int .i64 (10000 * (fi:Int)+100 * (bi:Int)+(q:Int))),(18,fun v _=>v=.agg #[.int .i64 ((atF (z.form m.length) (10000 * (fi:Int)+100 * (bi:Int)+(q:Int))).1),.int .i64 ((atF (z.form m.length) (10000 * (fi:Int)+100 * (bi:Int)+(q:Int))).2)])]:PTab) (fun w'=>Wd w w' [(B3,#[.int .i64 0,.int .i64 0],27),(B2,#[.int .i64 z.op,.int .i64 z.a,.int .i64 z.b,.int .i64 z.c,.int .i64 z.k,.int .i64 z.n,.slice zi.pR z.regs.length zi.cR,.slice zi.pA z.args.length zi.cA],41)]∧Below w3.heap.size w3 w') (fun w w'=>Below w.heap.size w w') (outs:=[2,4,0]) (gs:=[]) (bs:=[true,true,true,true,true,true,true,true,true,true,true,true,true]) (by kernel_rfl) hF6 rfl (by kernel_rfl) (by kernel_rfl) ?hR ?hG ⟨hW3.drewN 1,drewN_below (m:=1) (Below.refl _ _)⟩ ⟨ho2,ho4,ho0,trivial⟩ ?hA ?hend
  case hR=>exact ⟨fun _ _ _ _ h=>h,fun _ _ _ _ h=>h,fun _ _ _ _ h=>h,fun _ _ _ _ h=>h,fun _ _ _ _ h=>h,fun _ _ _ _ h=>h,fun _ _ _ _ h=>h,fun _ _ _ _ h=>h,fun _ _ _ _ h=>h,fun _ _ _ _ h=>h,fun _ _ _ _ h=>h,fun _ _ _ _ h=>h,fun _ _ _ _ h=>h,fun _ _ _ _ h=>h,fun _ _ _ _ h=>h,fun _ _ _ _ h=>h,trivial⟩
  case hG=>exact trivial
  case hA =>
   refine ⟨fun a w hW hk K hK=>?_,?_⟩
   · obtain ⟨k0,-⟩:=hk
     have k0:a.tmps.getD 2 undef=.pointer (some ⟨Bc,0,none⟩):=k0
     go_simp
     exact hK _ _ (Below.refl _ _) hW rfl
   refine ⟨fun a w hW hk K hK=>?_,?_⟩
   · obtain ⟨k0,-⟩:=hk
     have k0:a.tmps.getD 6 undef=.pointer (some ⟨Bc,0,none⟩):=k0
     go_simp
     exact hK _ _ (Below.refl _ _) hW rfl
   refine ⟨fun a w hW hk K hK=>?_,?_⟩
   · obtain ⟨k0,-⟩:=hk
     have k0:a.tmps.getD 7 undef=.pointer (some ⟨Bc,0,none⟩):=k0
     have d0:w.cell? ⟨Bc,0,none⟩=some (.slice p m.length c):=bel_cell hW.1.bel (cellOf hcap.out 0 _ rfl)
     go_simp
     exact hK _ _ (Below.refl _ _) hW rfl
   refine ⟨fun a w hW hk K hK=>?_,?_⟩
   · obtain ⟨k0,-⟩:=hk
     have k0:a.tmps.getD 4 undef=.pointer (some ⟨B2,0,none⟩):=k0
     have c0:w.cell? ⟨B2,0,none⟩=some (.int .i64 z.op):=cellOf (hW.1.get 1 rfl) 0 _ rfl
     have c1:w.cell? ⟨B2,1,none⟩=some (.int .i64 z.a):=cellOf (hW.1.get 1 rfl) 1 _ rfl
     have c2:w.cell? ⟨B2,2,none⟩=some (.int .i64 z.b):=cellOf (hW.1.get 1 rfl) 2 _ rfl
     have c3:w.cell? ⟨B2,3,none⟩=some (.int .i64 z.c):=cellOf (hW.1.get 1 rfl) 3 _ rfl
     have c4:w.cell? ⟨B2,4,none⟩=some (.int .i64 z.k):=cellOf (hW.1.get 1 rfl) 4 _ rfl
     have c5:w.cell? ⟨B2,5,none⟩=some (.int .i64 z.n):=cellOf (hW.1.get 1 rfl) 5 _ rfl
     have c6:w.cell? ⟨B2,6,none⟩=some (.slice zi.pR z.regs.length zi.cR):=cellOf (hW.1.get 1 rfl) 6 _ rfl
     have c7:w.cell? ⟨B2,7,none⟩=some (.slice zi.pA z.args.length zi.cA):=cellOf (hW.1.get 1 rfl) 7 _ rfl
     go_simp
     exact hK _ _ (Below.refl _ _) hW rfl
   refine ⟨fun a w hW hk K hK=>?_,?_⟩
   · obtain ⟨k0,k1,-⟩:=hk
     have k0:a.tmps.getD 8 undef=.agg #[.slice p m.length c]:=k0
     have k1:a.tmps.getD 9 undef=.agg #[.int .i64 z.op,.int .i64 z.a,.int .i64 z.b,.int .i64 z.c,.int .i64 z.k,.int .i64 z.n,.slice zi.pR z.regs.length zi.cR,.slice zi.pA z.args.length zi.cA]:=k1
     have hC:Rd Tryz.prog 97 #[.agg #[.slice p m.length c],.agg #[.int .i64 z.op,.int .i64 z.a,.int .i64 z.b,.int .i64 z.c,.int .i64 z.k,.int .i64 z.n,.slice zi.pR z.regs.length zi.cR,.slice zi.pA z.args.length zi.cA]] w (.int .i64 (z.form m.length)):=cIns_any m.length z zi p c w (by omega)
     go_simp
     refine hC.mono ?_
     rintro e w9 ⟨rfl,hb⟩
     exact hK _ _ hb ⟨hW.1.below hb,Below.andThen hW.2 hb⟩ rfl
   refine ⟨fun a w hW hk K hK=>?_,?_⟩
   · obtain ⟨k0,-⟩:=hk
     have k0:a.tmps.getD 2 undef=.pointer (some ⟨Bc,0,none⟩):=k0
     go_simp
     exact hK _ _ (Below.refl _ _) hW rfl
   refine ⟨fun a w hW hk K hK=>?_,?_⟩
   · obtain ⟨k0,-⟩:=hk
     have k0:a.tmps.getD 11 undef=.pointer (some ⟨Bc,0,none⟩):=k0
     go_simp
     exact hK _ _ (Below.refl _ _) hW rfl
   refine ⟨fun a w hW hk K hK=>?_,?_⟩
   · obtain ⟨k0,-⟩:=hk
     have k0:a.tmps.getD 12 undef=.pointer (some ⟨Bc,5,none⟩):=k0
     have d5:w.cell? ⟨Bc,5,none⟩=some (.int .i64 (fi:Int)):=bel_cell hW.1.bel (cellOf hcap.out 5 _ rfl)
     go_simp
     exact hK _ _ (Below.refl _ _) hW rfl
   refine ⟨fun a w hW hk K hK=>?_,?_⟩
   · obtain ⟨k0,-⟩:=hk
     have k0:a.tmps.getD 2 undef=.pointer (some ⟨Bc,0,none⟩):=k0
     go_simp
     exact hK _ _ (Below.refl _ _) hW rfl
   refine ⟨fun a w hW hk K hK=>?_,?_⟩
   · obtain ⟨k0,-⟩:=hk
     have k0:a.tmps.getD 14 undef=.pointer (some ⟨Bc,18,none⟩):=k0
     have d18:w.cell? ⟨Bc,18,none⟩=some (.int .i64 (bi:Int)):=bel_cell hW.1.bel (cellOf hcap.out 18 _ rfl)
     go_simp
     exact hK _ _ (Below.refl _ _) hW rfl
   refine ⟨fun a w hW hk K hK=>?_,?_⟩
   · obtain ⟨k0,-⟩:=hk
     have k0:a.tmps.getD 0 undef=.int .i64 (q:Int):=k0
     go_simp
     exact hK _ _ (Below.refl _ _) hW rfl
   refine ⟨fun a w hW hk K hK=>?_,?_⟩
   · obtain ⟨k0,k1,k2,-⟩:=hk
     have k0:a.tmps.getD 13 undef=.int .i64 (fi:Int):=k0
     have k1:a.tmps.getD 15 undef=.int .i64 (bi:Int):=k1
     have k2:a.tmps.getD 16 undef=.int .i64 (q:Int):=k2
     have hC:Rd Tryz.prog 98 #[.int .i64 (fi:Int),.int .i64 (bi:Int),.int .i64 (q:Int)] w (.int .i64 (10000 * (fi:Int)+100 * (bi:Int)+(q:Int))):=cInsAt_any (f:=fi) (b:=bi) (i:=q) ⟨by omega,by omega,by omega⟩
     go_simp
     refine hC.mono ?_
     rintro e w9 ⟨rfl,hb⟩
     exact hK _ _ hb ⟨hW.1.below hb,Below.andThen hW.2 hb⟩ rfl
   refine ⟨fun a w hW hk K hK=>?_,?_⟩
   · obtain ⟨k0,k1,-⟩:=hk
     have k0:a.tmps.getD 10 undef=.int .i64 (z.form m.length):=k0
     have k1:a.tmps.getD 17 undef=.int .i64 (10000 * (fi:Int)+100 * (bi:Int)+(q:Int)):=k1
     have hC:Rd Tryz.prog 72 #[.int .i64 (z.form m.length),.int .i64 (10000 * (fi:Int)+100 * (bi:Int)+(q:Int))] w (.agg #[.int .i64 ((atF (z.form m.length) (10000 * (fi:Int)+100 * (bi:Int)+(q:Int))).1),.int .i64 ((atF (z.form m.length) (10000 * (fi:Int)+100 * (bi:Int)+(q:Int))).2)]):=faultAt_any (xc:=z.form m.length) (xp:=10000 * (fi:Int)+100 * (bi:Int)+(q:Int))
     go_simp
     refine hC.mono ?_
     rintro e w9 ⟨rfl,hb⟩
     exact hK _ _ hb ⟨hW.1.below hb,Below.andThen hW.2 hb⟩ rfl
   trivial
  case hend =>
   intro ops a7 w7 hWD hE hFD
   have hd18:a7.tmps.getD 18 undef=.agg #[.int .i64 ((atF (z.form m.length) (10000 * (fi:Int)+100 * (bi:Int)+(q:Int))).1),.int .i64 ((atF (z.form m.length) (10000 * (fi:Int)+100 * (bi:Int)+(q:Int))).2)]:=hE 18 rfl
   have hF7:Fr 19 a7 [(18,.agg #[.int .i64 ((atF (z.form m.length) (10000 * (fi:Int)+100 * (bi:Int)+(q:Int))).1),.int .i64 ((atF (z.form m.length) (10000 * (fi:Int)+100 * (bi:Int)+(q:Int))).2)]),(2,.pointer (some ⟨Bc,0,none⟩)),(1,.agg #[.int .i64 z.op,.int .i64 z.a,.int .i64 z.b,.int .i64 z.c,.int .i64 z.k,.int .i64 z.n,.slice zi.pR z.regs.length zi.cR,.slice zi.pA z.args.length zi.cA]),(0,.int .i64 (q:Int)),(4,.pointer (some ⟨B2,0,none⟩)),(5,.pointer (some ⟨B3,0,none⟩))]:=(hFD.cons hd18)
   clear hd18
   have hW7:Wd w w7 [(B3,#[.int .i64 0,.int .i64 0],27),(B2,#[.int .i64 z.op,.int .i64 z.a,.int .i64 z.b,.int .i64 z.c,.int .i64 z.k,.int .i64 z.n,.slice zi.pR z.regs.length zi.cR,.slice zi.pA z.args.length zi.cA],41)]:=hWD.1
   clear hFD hWD hE hF6 h4
   clear hW3
   refine St.go hF7 ?_;clear hF7 a7
   refine sT 0 hW7 rfl rfl infFault rfl rfl rfl ?_
   clear hW7;intro w8 hW8
   refine St.nil fun a9 h9=>?_
   refine hK5 _ _ ?_
   refine wp_ret ?_;with_reducible repeat first | refine of_then_ret ?_ | refine of_block_ret ?_
   exact ret_box 0 h9 hW8 rfl rfl rfl Tryz.underlying27 rfl infFault ⟨rfl,hW8.bel⟩
theorem cBlockFault_any {n : Nat} {m : List (MFunc n)} {p : Option Addr} {c : Nat} {x : MFunc n} {fp : FP} {fi : Nat} {y : MBlock n} {bp : BP} {bi : Nat} {w : World} (hx0 : FIn w All x fp) (hs0 : x.small) (hy0 : BIn w All y bp) (ht0 : y.small) (hm : m.length ≤ 100000) (hfi : fi < 1000000) (hbi : bi < 1000000) :
    Rd Tryz.prog 76 #[.agg #[.slice p m.length c,.int .i64 x.regs,.slice fp.pP x.params.length fp.cP,.slice fp.pR x.results.length fp.cR,.slice fp.pB x.blocks.length fp.cB,.int .i64 (fi:Int),.int .i64 y.regs,.slice bp.pP y.params.length bp.cP,.slice bp.pC y.code.length bp.cC,.int .i64 y.fin.op,.int .i64 y.fin.a,.int .i64 y.fin.yes.block,.slice bp.e.pYR y.fin.yes.regs.length bp.e.cYR,.slice bp.e.pYA y.fin.yes.args.length bp.e.cYA,.int .i64 y.fin.no.block,.slice bp.e.pNR y.fin.no.regs.length bp.e.cNR,.slice bp.e.pNA y.fin.no.args.length bp.e.cNA,.slice bp.e.pA y.fin.args.length bp.e.cA,.int .i64 (bi:Int)]] w (faultV (MBlock.fault m.length fi x bi y)):=by
  have hx:Hid _:=hx0
  have hs:Hid _:=hs0
  have hy:Hid _:=hy0
  have ht:Hid _:=ht0
  clear hx0 hs0 hy0 ht0
  refine fr_enter (n:=40) Tryz.func76 rfl rfl rfl ?_
  intro a hF
  have hW:=Wd.start w
  replace hF:Fr 40 a [(0,.agg #[.slice p m.length c,.int .i64 x.regs,.slice fp.pP x.params.length fp.cP,.slice fp.pR x.results.length fp.cR,.slice fp.pB x.blocks.length fp.cB,.int .i64 (fi:Int),.int .i64 y.regs,.slice bp.pP y.params.length bp.cP,.slice bp.pC y.code.length bp.cC,.int .i64 y.fin.op,.int .i64 y.fin.a,.int .i64 y.fin.yes.block,.slice bp.e.pYR y.fin.yes.regs.length bp.e.cYR,.slice bp.e.pYA y.fin.yes.args.length bp.e.cYA,.int .i64 y.fin.no.block,.slice bp.e.pNR y.fin.no.regs.length bp.e.cNR,.slice bp.e.pNA y.fin.no.args.length bp.e.cNA,.slice bp.e.pA y.fin.args.length bp.e.cA,.int .i64 (bi:Int)])]:=hF
  refine wp_seq_k fun K1 hK1=>?_
  refine rg hF fun ops=>?_;clear hF a
  refine sB hW trivial rfl rfl ?_
  clear hW;intro w2 B2 hW2 hN;clear hN
  refine sAFault hW2 trivial rfl ?_
  clear hW2;intro w3 B3 hW3 hN;clear hN
  refine St.nil fun a4 h4=>?_
  refine hK1 _ _ ?_
  refine wp_seq_k fun K5 hK5=>?_
  refine wp_seq_k fun K6 hK6=>?_
  refine rg h4 fun ops=>?_;clear h4 a4
  refine sS 1 19 Tryz.underlying116 rfl infblockLook hW3 trivial rfl rfl rfl rfl ?_
  refine sc_1 cf93 hW3 (blockCode_any (m:=m) (p:=p) (c:=c) (fi:=fi) (bi:=bi) (hx.out.below hW3.bel) hs.out (hy.out.below hW3.bel) ht.out) trivial rfl rfl ?_
  clear hW3;intro w7 hW7
  refine sa trivial rfl rfl ?_
  refine St.nil fun a8 h8=>?_
  refine hK6 _ _ ?_
  refine wp_seq_k fun K9 hK9=>?_
  refine rg h8 fun ops=>?_;clear h8 a8
  refine sm trivial rfl rfl ?_
  refine sne trivial rfl rfl rfl ?_
  refine St.nil fun a10 h10=>?_
  refine hK9 _ _ ?_
  refine fr_cond (t:=8) h10 rfl (fun hb=>?_) (fun hb=>?_)
  ·have h9:¬ (y.code' x bi)=0:=bne_iff_ne.1 hb
   have hc11:¬ (y.code' x bi)=0:=h9
   clear h9
   clear hb
   refine wp_seq_k fun K12 hK12=>?_
   refine rg h10 fun ops=>?_;clear h10 a10
   refine sm trivial rfl rfl ?_
   refine sfblockLook0 trivial rfl rfl ?_
   refine sffuncLook2 trivial rfl rfl ?_
   refine sbInt 1 hW7 trivial rfl rfl rfl rfl ?_
   refine sfblockLook2 trivial rfl rfl ?_
   refine sbInt 1 hW7 trivial rfl rfl rfl rfl ?_
   refine sc_2 cf94 hW7 (cBlockAt_any (f:=fi) (b:=bi) ⟨by omega,by omega⟩) trivial rfl rfl rfl ?_
   clear hW7;intro w13 hW13
   refine sc_2 cf72 hW13 (faultAt_any (xc:=y.code' x bi) (xp:=10000 * (fi:Int)+100 * (bi:Int)+90)) trivial rfl rfl rfl ?_
   clear hW13;intro w14 hW14
   refine sT 0 hW14 rfl rfl infFault rfl rfl rfl ?_
   clear hW14;intro w15 hW15
   refine St.nil fun a16 h16=>?_
   refine hK12 _ _ ?_
   refine wp_ret ?_;with_reducible repeat first | refine of_then_ret ?_ | refine of_block_ret ?_
   have e0:=hc11
   have EF:=MBlock.fault_eq m.length fi x bi y
   have EI:=firstF_at (f:=fun i z=>(MIns.form m.length z,(10000 * (fi:Int)+100 * (bi:Int)+(i:Int)))) (l:=y.code) (j:=0)
   dsimp only at EI
   rw [if_neg e0] at EF
   exact ret_box 0 h16 hW15 rfl rfl rfl Tryz.underlying27 rfl infFault ⟨by show Ending.returned (.agg #[.int .i64 ((atF (y.code' x bi) (10000 * (fi:Int)+100 * (bi:Int)+90)).1),.int .i64 ((atF (y.code' x bi) (10000 * (fi:Int)+100 * (bi:Int)+90)).2)])=_;rw [EF] ;simp [atF,e0],hW15.bel⟩
  have h9:(y.code' x bi)=0:=bne_eq_false_iff_eq.1 hb
  have hc17:Hid ((y.code' x bi)=0):=h9
  clear h9
  clear hb
  refine wp_skip ?_
  refine hK5 _ _ ?_
  refine wp_seq_k fun K18 hK18=>?_
  refine rg h10 fun ops=>?_;clear h10 a10
  refine sfblockLook1 trivial rfl rfl ?_
  refine sfBlock2 trivial rfl rfl ?_
  refine sbInss 1 hW7 trivial rfl rfl rfl rfl ?_
  intro a19 h19
  refine fr_pure (t:=20) (v:=.func (.func 96) #[] #[.pointer (some ⟨B2,0,none⟩)]) (w':=w7) h19 rfl rfl rfl (fun K hK=>?_) ?_
  ·have k0:a19.tmps.getD 1 undef=.pointer (some ⟨B2,0,none⟩):=h19.sl 1 _ rfl
   go_simp
   exact hK
  clear h19;intro a20 hF20
  refine St.go hF20 ?_;clear hF20 a20
  refine sc_2 cf95 hW7 (ffIns_any (Bc:=B2) (fun i z=>atF (MIns.form m.length z) (10000 * (fi:Int)+100 * (bi:Int)+(i:Int))) (Lay.below hy.out.code hW7.bel) ht.out.1 (fun i z zi wx hz hi hb=>clo97_any (y:=y) (by have h9:=(List.getElem?_eq_some_iff.1 hz).1;have:=ht.out.1;omega) hm hfi hbi ((hW7.get 1 rfl).below hb))) trivial rfl rfl rfl ?_
  clear hW7;intro w21 hW21
  refine sAFault hW21 trivial rfl ?_
  clear hW21;intro w22 B22 hW22 hN;clear hN
  refine sT 0 hW22 rfl rfl infFault rfl rfl rfl ?_
  clear hW22;intro w23 hW23
  refine St.nil fun a24 h24=>?_
  refine hK18 _ _ ?_
  refine wp_seq_k fun K25 hK25=>?_
  refine wp_seq_k fun K26 hK26=>?_
  refine rg h24 fun ops=>?_;clear h24 a24
  refine sfFault0 trivial rfl rfl ?_
  refine sbInt 0 hW23 trivial rfl rfl rfl rfl ?_
  refine sne trivial rfl rfl rfl ?_
  refine St.nil fun a27 h27=>?_
  refine hK26 _ _ ?_
  refine fr_cond (t:=24) h27 rfl (fun hb=>?_) (fun hb=>?_)
  ·have h9:¬ ((firstF (fun i z=>atF (MIns.form m.length z) (10000 * (fi:Int)+100 * (bi:Int)+(i:Int))) 0 y.code).1)=0:=bne_iff_ne.1 hb
   have hc28:¬ ((firstF (fun i z=>atF (MIns.form m.length z) (10000 * (fi:Int)+100 * (bi:Int)+(i:Int))) 0 y.code).1)=0:=h9
   clear h9
   clear hb
   refine wp_seq_k fun K29 hK29=>?_
   refine rg h27 fun ops=>?_;clear h27 a27
   refine sS 0 2 Tryz.underlying27 rfl infFault hW23 trivial rfl rfl rfl rfl ?_
   refine sT 1 hW23 rfl rfl infFault rfl rfl rfl ?_
   clear hW23;intro w30 hW30
   refine St.nil fun a31 h31=>?_
   refine hK29 _ _ ?_
   refine wp_ret ?_;with_reducible repeat first | refine of_then_ret ?_ | refine of_block_ret ?_
   have e0:=hc17.out
   have e1:=hc28
   have EF:=MBlock.fault_eq m.length fi x bi y
   have EI:=firstF_at (f:=fun i z=>(MIns.form m.length z,(10000 * (fi:Int)+100 * (bi:Int)+(i:Int)))) (l:=y.code) (j:=0)
   dsimp only at EI
   rw [if_pos e0,if_neg (by rw [← EI];exact e1),← EI] at EF
   exact ret_box 1 h31 hW30 rfl rfl rfl Tryz.underlying27 rfl infFault ⟨by show Ending.returned (.agg #[.int .i64 ((firstF (fun i z=>atF (MIns.form m.length z) (10000 * (fi:Int)+100 * (bi:Int)+(i:Int))) 0 y.code).1),.int .i64 ((firstF (fun i z=>atF (MIns.form m.length z) (10000 * (fi:Int)+100 * (bi:Int)+(i:Int))) 0 y.code).2)])=_;rw [EF],hW30.bel⟩
  have h9:((firstF (fun i z=>atF (MIns.form m.length z) (10000 * (fi:Int)+100 * (bi:Int)+(i:Int))) 0 y.code).1)=0:=bne_eq_false_iff_eq.1 hb
  have hc32:Hid (((firstF (fun i z=>atF (MIns.form m.length z) (10000 * (fi:Int)+100 * (bi:Int)+(i:Int))) 0 y.code).1)=0):=h9
  clear h9
  clear hb
  refine wp_skip ?_
  refine hK25 _ _ ?_
  refine wp_seq_k fun K33 hK33=>?_
  have hF34:Fr 40 a27 [(0,.agg #[.slice p m.length c,.int .i64 x.regs,.slice fp.pP x.params.length fp.cP,.slice fp.pR x.results.length fp.cR,.slice fp.pB x.blocks.length fp.cB,.int .i64 (fi:Int),.int .i64 y.regs,.slice bp.pP y.params.length bp.cP,.slice bp.pC y.code.length bp.cC,.int .i64 y.fin.op,.int .i64 y.fin.a,.int .i64 y.fin.yes.block,.slice bp.e.pYR y.fin.yes.regs.length bp.e.cYR,.slice bp.e.pYA y.fin.yes.args.length bp.e.cYA,.int .i64 y.fin.no.block,.slice bp.e.pNR y.fin.no.regs.length bp.e.cNR,.slice bp.e.pNA y.fin.no.args.length bp.e.cNA,.slice bp.e.pA y.fin.args.length bp.e.cA,.int .i64 (bi:Int)]),(1,.pointer (some ⟨B2,0,none⟩)),(2,.pointer (some ⟨B3,0,none⟩)),(3,.int .i64 (y.code' x bi)),(4,.pointer (some ⟨B22,0,none⟩))]:=(h27.keep (h27.keep (h27.keep (h27.keep (h27.keep h27.nil (t:=4) rfl) (t:=3) rfl) (t:=2) rfl) (t:=1) rfl) (t:=0) rfl)
  have ho1:a27.tmps.getD 1 undef=.pointer (some ⟨B2,0,none⟩):=h27.sl 1 _ rfl
  refine fr_draw_k 14 ([(1,fun v _=>v=.pointer (some ⟨B2,0,none⟩)),(26,fun v _=>v=.pointer (some ⟨B2,0,none⟩)),(27,fun v _=>v=.pointer (some ⟨B2,1,none⟩)),(28,fun v _=>v=.agg #[.int .i64 x.regs,.slice fp.pP x.params.length fp.cP,.slice fp.pR x.results.length fp.cR,.slice fp.pB x.blocks.length fp.cB]),(29,fun v _=>v=.pointer (some ⟨B2,6,none⟩)),(30,fun v _=>v=.pointer (some ⟨B2,9,none⟩)),(31,fun v _=>v=.agg #[.int .i64 y.fin.op,.int .i64 y.fin.a,.int .i64 y.fin.yes.block,.slice bp.e.pYR y.fin.yes.regs.length bp.e.cYR,.slice bp.e.pYA y.fin.yes.args.length bp.e.cYA,.int .i64 y.fin.no.block,.slice bp.e.pNR y.fin.no.regs.length bp.e.cNR,.slice bp.e.pNA y.fin.no.args.length bp.e.cNA,.slice bp.e.pA y.fin.args.length bp.e.cA]),(32,fun v _=>v=.int .i64 (y.fin.form x.blocks.length)),(33,fun v _=>v=.pointer (some ⟨B2,0,none⟩)),(34,fun v _=>v=.pointer (some ⟨B2,5,none⟩)),(35,fun v _=>v=.int .i64 (fi:Int)),(36,fun v _=>v=.pointer (some ⟨B2,18,none⟩)),(37,fun v _=>v=.int .i64 (bi:Int)),(38,fun v _=>v=.int .i64 (10000 * (fi:Int)+100 * (bi:Int)+91)),(39,fun v _=>v=.agg #[.int .i64 ((atF (y.fin.form x.blocks.length) (10000 * (fi:Int)+100 * (bi:Int)+91)).1),.int .i64 ((atF (y.fin.form x.blocks.length) (10000 * (fi:Int)+100 * (bi:Int)+91)).2)])]:PTab) (fun w'=>Wd w w' [(B22,#[.int .i64 ((firstF (fun i z=>atF (MIns.form m.length z) (10000 * (fi:Int)+100 * (bi:Int)+(i:Int))) 0 y.code).1),.int .i64 ((firstF (fun i z=>atF (MIns.form m.length z) (10000 * (fi:Int)+100 * (bi:Int)+(i:Int))) 0 y.code).2)],27),(B3,#[.int .i64 0,.int .i64 0],27),(B2,#[.slice p m.length c,.int .i64 x.regs,.slice fp.pP x.params.length fp.cP,.slice fp.pR x.results.length fp.cR,.slice fp.pB x.blocks.length fp.cB,.int .i64 (fi:Int),.int .i64 y.regs,.slice bp.pP y.params.length bp.cP,.slice bp.pC y.code.length bp.cC,.int .i64 y.fin.op,.int .i64 y.fin.a,.int .i64 y.fin.yes.block,.slice bp.e.pYR y.fin.yes.regs.length bp.e.cYR,.slice bp.e.pYA y.fin.yes.args.length bp.e.cYA,.int .i64 y.fin.no.block,.slice bp.e.pNR y.fin.no.regs.length bp.e.cNR,.slice bp.e.pNA y.fin.no.args.length bp.e.cNA,.slice bp.e.pA y.fin.args.length bp.e.cA,.int .i64 (bi:Int)],116)]∧Below w23.heap.size w23 w') (fun w w'=>Below w.heap.size w w') (outs:=[1]) (gs:=[]) (bs:=[true,true,true,true,true,true,true,true,true,true,true,true,true,true]) (by kernel_rfl) hF34 rfl (by kernel_rfl) (by kernel_rfl) ?hR ?hG ⟨hW23.drewN 1,drewN_below (m:=1) (Below.refl _ _)⟩ ⟨ho1,trivial⟩ ?hA ?hend
  case hR=>exact ⟨fun _ _ _ _ h=>h,fun _ _ _ _ h=>h,fun _ _ _ _ h=>h,fun _ _ _ _ h=>h,fun _ _ _ _ h=>h,fun _ _ _ _ h=>h,fun _ _ _ _ h=>h,fun _ _ _ _ h=>h,fun _ _ _ _ h=>h,fun _ _ _ _ h=>h,fun _ _ _ _ h=>h,fun _ _ _ _ h=>h,fun _ _ _ _ h=>h,fun _ _ _ _ h=>h,fun _ _ _ _ h=>h,trivial⟩
  case hG=>exact trivial
  case hA =>
   refine ⟨fun a w hW hk K hK=>?_,?_⟩
   · obtain ⟨k0,-⟩:=hk
     have k0:a.tmps.getD 1 undef=.pointer (some ⟨B2,0,none⟩):=k0
     go_simp
     exact hK _ _ (Below.refl _ _) hW rfl
   refine ⟨fun a w hW hk K hK=>?_,?_⟩
   · obtain ⟨k0,-⟩:=hk
     have k0:a.tmps.getD 26 undef=.pointer (some ⟨B2,0,none⟩):=k0
     go_simp
     exact hK _ _ (Below.refl _ _) hW rfl
   refine ⟨fun a w hW hk K hK=>?_,?_⟩
   · obtain ⟨k0,-⟩:=hk
     have k0:a.tmps.getD 27 undef=.pointer (some ⟨B2,1,none⟩):=k0
     have c1:w.cell? ⟨B2,1,none⟩=some (.int .i64 x.regs):=cellOf (hW.1.get 2 rfl) 1 _ rfl
     have c2:w.cell? ⟨B2,2,none⟩=some (.slice fp.pP x.params.length fp.cP):=cellOf (hW.1.get 2 rfl) 2 _ rfl
     have c3:w.cell? ⟨B2,3,none⟩=some (.slice fp.pR x.results.length fp.cR):=cellOf (hW.1.get 2 rfl) 3 _ rfl
     have c4:w.cell? ⟨B2,4,none⟩=some (.slice fp.pB x.blocks.length fp.cB):=cellOf (hW.1.get 2 rfl) 4 _ rfl
     go_simp
     exact hK _ _ (Below.refl _ _) hW rfl
   refine ⟨fun a w hW hk K hK=>?_,?_⟩
   · obtain ⟨k0,-⟩:=hk
     have k0:a.tmps.getD 1 undef=.pointer (some ⟨B2,0,none⟩):=k0
     go_simp
     exact hK _ _ (Below.refl _ _) hW rfl
   refine ⟨fun a w hW hk K hK=>?_,?_⟩
   · obtain ⟨k0,-⟩:=hk
     have k0:a.tmps.getD 29 undef=.pointer (some ⟨B2,6,none⟩):=k0
     go_simp
     exact hK _ _ (Below.refl _ _) hW rfl
   refine ⟨fun a w hW hk K hK=>?_,?_⟩
   · obtain ⟨k0,-⟩:=hk
     have k0:a.tmps.getD 30 undef=.pointer (some ⟨B2,9,none⟩):=k0
     have c9:w.cell? ⟨B2,9,none⟩=some (.int .i64 y.fin.op):=cellOf (hW.1.get 2 rfl) 9 _ rfl
     have c10:w.cell? ⟨B2,10,none⟩=some (.int .i64 y.fin.a):=cellOf (hW.1.get 2 rfl) 10 _ rfl
     have c11:w.cell? ⟨B2,11,none⟩=some (.int .i64 y.fin.yes.block):=cellOf (hW.1.get 2 rfl) 11 _ rfl
     have c12:w.cell? ⟨B2,12,none⟩=some (.slice bp.e.pYR y.fin.yes.regs.length bp.e.cYR):=cellOf (hW.1.get 2 rfl) 12 _ rfl
     have c13:w.cell? ⟨B2,13,none⟩=some (.slice bp.e.pYA y.fin.yes.args.length bp.e.cYA):=cellOf (hW.1.get 2 rfl) 13 _ rfl
     have c14:w.cell? ⟨B2,14,none⟩=some (.int .i64 y.fin.no.block):=cellOf (hW.1.get 2 rfl) 14 _ rfl
     have c15:w.cell? ⟨B2,15,none⟩=some (.slice bp.e.pNR y.fin.no.regs.length bp.e.cNR):=cellOf (hW.1.get 2 rfl) 15 _ rfl
     have c16:w.cell? ⟨B2,16,none⟩=some (.slice bp.e.pNA y.fin.no.args.length bp.e.cNA):=cellOf (hW.1.get 2 rfl) 16 _ rfl
     have c17:w.cell? ⟨B2,17,none⟩=some (.slice bp.e.pA y.fin.args.length bp.e.cA):=cellOf (hW.1.get 2 rfl) 17 _ rfl
     go_simp
     exact hK _ _ (Below.refl _ _) hW rfl
   refine ⟨fun a w hW hk K hK=>?_,?_⟩
   · obtain ⟨k0,k1,-⟩:=hk
     have k0:a.tmps.getD 28 undef=.agg #[.int .i64 x.regs,.slice fp.pP x.params.length fp.cP,.slice fp.pR x.results.length fp.cR,.slice fp.pB x.blocks.length fp.cB]:=k0
     have k1:a.tmps.getD 31 undef=.agg #[.int .i64 y.fin.op,.int .i64 y.fin.a,.int .i64 y.fin.yes.block,.slice bp.e.pYR y.fin.yes.regs.length bp.e.cYR,.slice bp.e.pYA y.fin.yes.args.length bp.e.cYA,.int .i64 y.fin.no.block,.slice bp.e.pNR y.fin.no.regs.length bp.e.cNR,.slice bp.e.pNA y.fin.no.args.length bp.e.cNA,.slice bp.e.pA y.fin.args.length bp.e.cA]:=k1
     have hC:Rd Tryz.prog 99 #[.agg #[.int .i64 x.regs,.slice fp.pP x.params.length fp.cP,.slice fp.pR x.results.length fp.cR,.slice fp.pB x.blocks.length fp.cB],.agg #[.int .i64 y.fin.op,.int .i64 y.fin.a,.int .i64 y.fin.yes.block,.slice bp.e.pYR y.fin.yes.regs.length bp.e.cYR,.slice bp.e.pYA y.fin.yes.args.length bp.e.cYA,.int .i64 y.fin.no.block,.slice bp.e.pNR y.fin.no.regs.length bp.e.cNR,.slice bp.e.pNA y.fin.no.args.length bp.e.cNA,.slice bp.e.pA y.fin.args.length bp.e.cA]] w (.int .i64 (y.fin.form x.blocks.length)):=cEnd_any (x:=y.fin) (e:=bp.e) (fr:=x.regs) (fp:=fp.pP) (fl:=x.params.length) (fc:=fp.cP) (fq:=fp.pR) (fm:=x.results.length) (fd:=fp.cR) (fb:=fp.pB) (bl:=x.blocks.length) (fe:=fp.cB) (by have:=ht.out.2.2.1;exact ⟨by have:=this.1.1;omega,by have:=this.1.2;omega,by have:=this.2.1.1;omega,by have:=this.2.1.2;omega⟩) (by have:=hs.out.1;omega)
     go_simp
     refine hC.mono ?_
     rintro e w9 ⟨rfl,hb⟩
     exact hK _ _ hb ⟨hW.1.below hb,Below.andThen hW.2 hb⟩ rfl
   refine ⟨fun a w hW hk K hK=>?_,?_⟩
   · obtain ⟨k0,-⟩:=hk
     have k0:a.tmps.getD 1 undef=.pointer (some ⟨B2,0,none⟩):=k0
     go_simp
     exact hK _ _ (Below.refl _ _) hW rfl
   refine ⟨fun a w hW hk K hK=>?_,?_⟩
   · obtain ⟨k0,-⟩:=hk
     have k0:a.tmps.getD 33 undef=.pointer (some ⟨B2,0,none⟩):=k0
     go_simp
     exact hK _ _ (Below.refl _ _) hW rfl
   refine ⟨fun a w hW hk K hK=>?_,?_⟩
   · obtain ⟨k0,-⟩:=hk
     have k0:a.tmps.getD 34 undef=.pointer (some ⟨B2,5,none⟩):=k0
     have c5:w.cell? ⟨B2,5,none⟩=some (.int .i64 (fi:Int)):=cellOf (hW.1.get 2 rfl) 5 _ rfl
     go_simp
     exact hK _ _ (Below.refl _ _) hW rfl
   refine ⟨fun a w hW hk K hK=>?_,?_⟩
   · obtain ⟨k0,-⟩:=hk
     have k0:a.tmps.getD 1 undef=.pointer (some ⟨B2,0,none⟩):=k0
     go_simp
     exact hK _ _ (Below.refl _ _) hW rfl
   refine ⟨fun a w hW hk K hK=>?_,?_⟩
   · obtain ⟨k0,-⟩:=hk
     have k0:a.tmps.getD 36 undef=.pointer (some ⟨B2,18,none⟩):=k0
     have c18:w.cell? ⟨B2,18,none⟩=some (.int .i64 (bi:Int)):=cellOf (hW.1.get 2 rfl) 18 _ rfl
     go_simp
     exact hK _ _ (Below.refl _ _) hW rfl
   refine ⟨fun a w hW hk K hK=>?_,?_⟩
   · obtain ⟨k0,k1,-⟩:=hk
     have k0:a.tmps.getD 35 undef=.int .i64 (fi:Int):=k0
     have k1:a.tmps.getD 37 undef=.int .i64 (bi:Int):=k1
     have hC:Rd Tryz.prog 100 #[.int .i64 (fi:Int),.int .i64 (bi:Int)] w (.int .i64 (10000 * (fi:Int)+100 * (bi:Int)+91)):=cEndAt_any (f:=fi) (b:=bi) ⟨by omega,by omega⟩
     go_simp
     refine hC.mono ?_
     rintro e w9 ⟨rfl,hb⟩
     exact hK _ _ hb ⟨hW.1.below hb,Below.andThen hW.2 hb⟩ rfl
   refine ⟨fun a w hW hk K hK=>?_,?_⟩
   · obtain ⟨k0,k1,-⟩:=hk
     have k0:a.tmps.getD 32 undef=.int .i64 (y.fin.form x.blocks.length):=k0
     have k1:a.tmps.getD 38 undef=.int .i64 (10000 * (fi:Int)+100 * (bi:Int)+91):=k1
     have hC:Rd Tryz.prog 72 #[.int .i64 (y.fin.form x.blocks.length),.int .i64 (10000 * (fi:Int)+100 * (bi:Int)+91)] w (.agg #[.int .i64 ((atF (y.fin.form x.blocks.length) (10000 * (fi:Int)+100 * (bi:Int)+91)).1),.int .i64 ((atF (y.fin.form x.blocks.length) (10000 * (fi:Int)+100 * (bi:Int)+91)).2)]):=faultAt_any (xc:=y.fin.form x.blocks.length) (xp:=10000 * (fi:Int)+100 * (bi:Int)+91)
     go_simp
     refine hC.mono ?_
     rintro e w9 ⟨rfl,hb⟩
     exact hK _ _ hb ⟨hW.1.below hb,Below.andThen hW.2 hb⟩ rfl
   trivial
  case hend =>
   intro ops a35 w35 hWD hE hFD
   have hd39:a35.tmps.getD 39 undef=.agg #[.int .i64 ((atF (y.fin.form x.blocks.length) (10000 * (fi:Int)+100 * (bi:Int)+91)).1),.int .i64 ((atF (y.fin.form x.blocks.length) (10000 * (fi:Int)+100 * (bi:Int)+91)).2)]:=hE 39 rfl
   have hF35:Fr 40 a35 [(39,.agg #[.int .i64 ((atF (y.fin.form x.blocks.length) (10000 * (fi:Int)+100 * (bi:Int)+91)).1),.int .i64 ((atF (y.fin.form x.blocks.length) (10000 * (fi:Int)+100 * (bi:Int)+91)).2)]),(0,.agg #[.slice p m.length c,.int .i64 x.regs,.slice fp.pP x.params.length fp.cP,.slice fp.pR x.results.length fp.cR,.slice fp.pB x.blocks.length fp.cB,.int .i64 (fi:Int),.int .i64 y.regs,.slice bp.pP y.params.length bp.cP,.slice bp.pC y.code.length bp.cC,.int .i64 y.fin.op,.int .i64 y.fin.a,.int .i64 y.fin.yes.block,.slice bp.e.pYR y.fin.yes.regs.length bp.e.cYR,.slice bp.e.pYA y.fin.yes.args.length bp.e.cYA,.int .i64 y.fin.no.block,.slice bp.e.pNR y.fin.no.regs.length bp.e.cNR,.slice bp.e.pNA y.fin.no.args.length bp.e.cNA,.slice bp.e.pA y.fin.args.length bp.e.cA,.int .i64 (bi:Int)]),(1,.pointer (some ⟨B2,0,none⟩)),(2,.pointer (some ⟨B3,0,none⟩)),(3,.int .i64 (y.code' x bi)),(4,.pointer (some ⟨B22,0,none⟩))]:=(hFD.cons hd39)
   clear hd39
   have hW35:Wd w w35 [(B22,#[.int .i64 ((firstF (fun i z=>atF (MIns.form m.length z) (10000 * (fi:Int)+100 * (bi:Int)+(i:Int))) 0 y.code).1),.int .i64 ((firstF (fun i z=>atF (MIns.form m.length z) (10000 * (fi:Int)+100 * (bi:Int)+(i:Int))) 0 y.code).2)],27),(B3,#[.int .i64 0,.int .i64 0],27),(B2,#[.slice p m.length c,.int .i64 x.regs,.slice fp.pP x.params.length fp.cP,.slice fp.pR x.results.length fp.cR,.slice fp.pB x.blocks.length fp.cB,.int .i64 (fi:Int),.int .i64 y.regs,.slice bp.pP y.params.length bp.cP,.slice bp.pC y.code.length bp.cC,.int .i64 y.fin.op,.int .i64 y.fin.a,.int .i64 y.fin.yes.block,.slice bp.e.pYR y.fin.yes.regs.length bp.e.cYR,.slice bp.e.pYA y.fin.yes.args.length bp.e.cYA,.int .i64 y.fin.no.block,.slice bp.e.pNR y.fin.no.regs.length bp.e.cNR,.slice bp.e.pNA y.fin.no.args.length bp.e.cNA,.slice bp.e.pA y.fin.args.length bp.e.cA,.int .i64 (bi:Int)],116)]:=hWD.1
   clear hFD hWD hE hF34 h27
   clear hW23
   refine St.go hF35 ?_;clear hF35 a35
   refine sT 1 hW35 rfl rfl infFault rfl rfl rfl ?_
   clear hW35;intro w36 hW36
   refine St.nil fun a37 h37=>?_
   refine hK33 _ _ ?_
   refine wp_ret ?_;with_reducible repeat first | refine of_then_ret ?_ | refine of_block_ret ?_
   have e0:=hc17.out
   have e1:=hc32.out
   have EF:=MBlock.fault_eq m.length fi x bi y
   have EI:=firstF_at (f:=fun i z=>(MIns.form m.length z,(10000 * (fi:Int)+100 * (bi:Int)+(i:Int)))) (l:=y.code) (j:=0)
   dsimp only at EI
   rw [if_pos e0,if_pos (by rw [← EI];exact e1)] at EF
   exact ret_box 1 h37 hW36 rfl rfl rfl Tryz.underlying27 rfl infFault ⟨by show Ending.returned (.agg #[.int .i64 ((atF (y.fin.form x.blocks.length) (10000 * (fi:Int)+100 * (bi:Int)+91)).1),.int .i64 ((atF (y.fin.form x.blocks.length) (10000 * (fi:Int)+100 * (bi:Int)+91)).2)])=_;rw [EF],hW36.bel⟩
theorem clo72_any {n : Nat} {m : List (MFunc n)} {p : Option Addr} {c : Nat} {x : MFunc n} {fp : FP} {fi : Nat} {y : MBlock n} {bp : BP} {bi : Nat} {w : World} (hx0 : FIn w All x fp) (hs0 : x.small) (hy0 : BIn w All y bp) (ht0 : y.small) {Bc : Nat} (hm : m.length ≤ 100000) (hfi : fi < 1000000) (hbi : bi < 1000000) (hcap0 : Blk w Bc #[.slice p m.length c, .int .i64 x.regs, .slice fp.pP x.params.length fp.cP, .slice fp.pR x.results.length fp.cR, .slice fp.pB x.blocks.length fp.cB, .int .i64 (fi : Int)] 89) :
    Rd Tryz.prog 75 #[.int .i64 (bi:Int),.agg #[.int .i64 y.regs,.slice bp.pP y.params.length bp.cP,.slice bp.pC y.code.length bp.cC,.int .i64 y.fin.op,.int .i64 y.fin.a,.int .i64 y.fin.yes.block,.slice bp.e.pYR y.fin.yes.regs.length bp.e.cYR,.slice bp.e.pYA y.fin.yes.args.length bp.e.cYA,.int .i64 y.fin.no.block,.slice bp.e.pNR y.fin.no.regs.length bp.e.cNR,.slice bp.e.pNA y.fin.no.args.length bp.e.cNA,.slice bp.e.pA y.fin.args.length bp.e.cA],.pointer (some ⟨Bc,0,none⟩)] w (faultV (MBlock.fault m.length fi x bi y)):=by
  have hx:Hid _:=hx0
  have hs:Hid _:=hs0
  have hy:Hid _:=hy0
  have ht:Hid _:=ht0
  clear hx0 hs0 hy0 ht0
  have hcap:Hid _:=hcap0
  clear hcap0
  refine fr_enter (n:=11) Tryz.func75 rfl rfl rfl ?_
  intro a hF
  have hW:=Wd.start w
  replace hF:Fr 11 a [(0,.int .i64 (bi:Int)),(1,.agg #[.int .i64 y.regs,.slice bp.pP y.params.length bp.cP,.slice bp.pC y.code.length bp.cC,.int .i64 y.fin.op,.int .i64 y.fin.a,.int .i64 y.fin.yes.block,.slice bp.e.pYR y.fin.yes.regs.length bp.e.cYR,.slice bp.e.pYA y.fin.yes.args.length bp.e.cYA,.int .i64 y.fin.no.block,.slice bp.e.pNR y.fin.no.regs.length bp.e.cNR,.slice bp.e.pNA y.fin.no.args.length bp.e.cNA,.slice bp.e.pA y.fin.args.length bp.e.cA]),(2,.pointer (some ⟨Bc,0,none⟩))]:=hF
  refine wp_seq_k fun K1 hK1=>?_
  refine rg hF fun ops=>?_;clear hF a
  refine sB hW trivial rfl rfl ?_
  clear hW;intro w2 B2 hW2 hN;clear hN
  refine sAFault hW2 trivial rfl ?_
  clear hW2;intro w3 B3 hW3 hN;clear hN
  refine St.nil fun a4 h4=>?_
  refine hK1 _ _ ?_
  refine wp_seq_k fun K5 hK5=>?_
  refine rg h4 fun ops=>?_;clear h4 a4
  refine sSE Tryz.underlying89 rfl (rangeAt_bel (rangeOf hcap.out 0 6 rfl) hW3.bel) inffuncLook trivial rfl rfl ?_
  refine sS 1 12 Tryz.underlying48 rfl infBlock hW3 trivial rfl rfl rfl rfl ?_
  refine sm trivial rfl rfl ?_
  intro a6 h6
  refine fr_pure (t:=9) (v:=.agg #[.slice p m.length c,.int .i64 x.regs,.slice fp.pP x.params.length fp.cP,.slice fp.pR x.results.length fp.cR,.slice fp.pB x.blocks.length fp.cB,.int .i64 (fi:Int),.int .i64 y.regs,.slice bp.pP y.params.length bp.cP,.slice bp.pC y.code.length bp.cC,.int .i64 y.fin.op,.int .i64 y.fin.a,.int .i64 y.fin.yes.block,.slice bp.e.pYR y.fin.yes.regs.length bp.e.cYR,.slice bp.e.pYA y.fin.yes.args.length bp.e.cYA,.int .i64 y.fin.no.block,.slice bp.e.pNR y.fin.no.regs.length bp.e.cNR,.slice bp.e.pNA y.fin.no.args.length bp.e.cNA,.slice bp.e.pA y.fin.args.length bp.e.cA,.int .i64 (bi:Int)]) (w':=w3) h6 rfl rfl rfl (fun K hK=>?_) ?_
  ·have k0:a6.tmps[6]?.getD undef=.agg #[.slice p m.length c,.int .i64 x.regs,.slice fp.pP x.params.length fp.cP,.slice fp.pR x.results.length fp.cR,.slice fp.pB x.blocks.length fp.cB,.int .i64 (fi:Int)]:=h6.sl2 6 _ rfl
   have k1:a6.tmps[7]?.getD undef=.agg #[.int .i64 y.regs,.slice bp.pP y.params.length bp.cP,.slice bp.pC y.code.length bp.cC,.int .i64 y.fin.op,.int .i64 y.fin.a,.int .i64 y.fin.yes.block,.slice bp.e.pYR y.fin.yes.regs.length bp.e.cYR,.slice bp.e.pYA y.fin.yes.args.length bp.e.cYA,.int .i64 y.fin.no.block,.slice bp.e.pNR y.fin.no.regs.length bp.e.cNR,.slice bp.e.pNA y.fin.no.args.length bp.e.cNA,.slice bp.e.pA y.fin.args.length bp.e.cA]:=h6.sl2 7 _ rfl
   have k2:a6.tmps[8]?.getD undef=.int .i64 (bi:Int):=h6.sl2 8 _ rfl
   go_simp
   exact hK
  clear h6;intro a7 hF7
  refine St.go hF7 ?_;clear hF7 a7
  refine sc_1 cf76 hW3 (cBlockFault_any (m:=m) (p:=p) (c:=c) (x:=x) (fp:=fp) (fi:=fi) (y:=y) (bp:=bp) (bi:=bi) (hx.out.below hW3.bel) hs.out (hy.out.below hW3.bel) ht.out hm hfi hbi) trivial rfl rfl ?_
  clear hW3;intro w8 hW8
  refine sT 0 hW8 rfl rfl infFault rfl rfl rfl ?_
  clear hW8;intro w9 hW9
  refine St.nil fun a10 h10=>?_
  refine hK5 _ _ ?_
  refine wp_ret ?_;with_reducible repeat first | refine of_then_ret ?_ | refine of_block_ret ?_
  exact ret_box 0 h10 hW9 rfl rfl rfl Tryz.underlying27 rfl infFault ⟨rfl,hW9.bel⟩
theorem cFuncFault_any {n : Nat} {m : List (MFunc n)} {p : Option Addr} {c : Nat} {x : MFunc n} {fp : FP} {fi : Nat} {w : World} (hx0 : FIn w All x fp) (hs0 : x.small) (hm : m.length ≤ 100000) (hfi : fi < 1000000) :
    Rd Tryz.prog 38 #[.agg #[.slice p m.length c,.int .i64 x.regs,.slice fp.pP x.params.length fp.cP,.slice fp.pR x.results.length fp.cR,.slice fp.pB x.blocks.length fp.cB,.int .i64 (fi:Int)]] w (faultV (MFunc.fault m.length fi x)):=by
  have hx:Hid _:=hx0
  have hs:Hid _:=hs0
  clear hx0 hs0
  refine fr_enter (n:=18) Tryz.func38 rfl rfl rfl ?_
  intro a hF
  have hW:=Wd.start w
  replace hF:Fr 18 a [(0,.agg #[.slice p m.length c,.int .i64 x.regs,.slice fp.pP x.params.length fp.cP,.slice fp.pR x.results.length fp.cR,.slice fp.pB x.blocks.length fp.cB,.int .i64 (fi:Int)])]:=hF
  refine wp_seq_k fun K1 hK1=>?_
  refine rg hF fun ops=>?_;clear hF a
  refine sB hW trivial rfl rfl ?_
  clear hW;intro w2 B2 hW2 hN;clear hN
  refine sAFault hW2 trivial rfl ?_
  clear hW2;intro w3 B3 hW3 hN;clear hN
  refine St.nil fun a4 h4=>?_
  refine hK1 _ _ ?_
  refine wp_seq_k fun K5 hK5=>?_
  refine wp_seq_k fun K6 hK6=>?_
  refine rg h4 fun ops=>?_;clear h4 a4
  refine sS 1 6 Tryz.underlying89 rfl inffuncLook hW3 trivial rfl rfl rfl rfl ?_
  refine sc_1 cf71 hW3 (funcCode_any (m:=m) (p:=p) (c:=c) (fi:=fi) (hx.out.below hW3.bel) hs.out) trivial rfl rfl ?_
  clear hW3;intro w7 hW7
  refine sa trivial rfl rfl ?_
  refine St.nil fun a8 h8=>?_
  refine hK6 _ _ ?_
  refine wp_seq_k fun K9 hK9=>?_
  refine rg h8 fun ops=>?_;clear h8 a8
  refine sm trivial rfl rfl ?_
  refine sne trivial rfl rfl rfl ?_
  refine St.nil fun a10 h10=>?_
  refine hK9 _ _ ?_
  refine fr_cond (t:=7) h10 rfl (fun hb=>?_) (fun hb=>?_)
  ·have h9:¬ (x.code fi)=0:=bne_iff_ne.1 hb
   have hc11:¬ (x.code fi)=0:=h9
   clear h9
   clear hb
   refine wp_seq_k fun K12 hK12=>?_
   refine rg h10 fun ops=>?_;clear h10 a10
   refine sm trivial rfl rfl ?_
   refine sffuncLook2 trivial rfl rfl ?_
   refine sbInt 1 hW7 trivial rfl rfl rfl rfl ?_
   refine sc_1 cf73 hW7 (cFuncAt_any (f:=fi) (by omega)) trivial rfl rfl ?_
   clear hW7;intro w13 hW13
   refine sc_2 cf72 hW13 (faultAt_any (xc:=x.code fi) (xp:=10000 * (fi:Int)+9999)) trivial rfl rfl rfl ?_
   clear hW13;intro w14 hW14
   refine sT 0 hW14 rfl rfl infFault rfl rfl rfl ?_
   clear hW14;intro w15 hW15
   refine St.nil fun a16 h16=>?_
   refine hK12 _ _ ?_
   refine wp_ret ?_;with_reducible repeat first | refine of_then_ret ?_ | refine of_block_ret ?_
   have e0:=hc11
   have EF:=MFunc.fault_eq m.length fi x
   rw [if_neg e0] at EF
   exact ret_box 0 h16 hW15 rfl rfl rfl Tryz.underlying27 rfl infFault ⟨by show Ending.returned (.agg #[.int .i64 ((atF (x.code fi) (10000 * (fi:Int)+9999)).1),.int .i64 ((atF (x.code fi) (10000 * (fi:Int)+9999)).2)])=_;rw [EF] ;simp [atF,e0],hW15.bel⟩
  have h9:(x.code fi)=0:=bne_eq_false_iff_eq.1 hb
  have hc17:Hid ((x.code fi)=0):=h9
  clear h9
  clear hb
  refine wp_skip ?_
  refine hK5 _ _ ?_
  refine wp_seq_k fun K18 hK18=>?_
  refine rg h10 fun ops=>?_;clear h10 a10
  refine sffuncLook1 trivial rfl rfl ?_
  refine sfFunc3 trivial rfl rfl ?_
  refine sbBlocks 1 hW7 trivial rfl rfl rfl rfl ?_
  intro a19 h19
  refine fr_pure (t:=16) (v:=.func (.func 75) #[] #[.pointer (some ⟨B2,0,none⟩)]) (w':=w7) h19 rfl rfl rfl (fun K hK=>?_) ?_
  ·have k0:a19.tmps.getD 1 undef=.pointer (some ⟨B2,0,none⟩):=h19.sl 1 _ rfl
   go_simp
   exact hK
  clear h19;intro a20 hF20
  refine St.go hF20 ?_;clear hF20 a20
  refine sc_2 cf74 hW7 (ffBlock_any (Bc:=B2) (fun b y=>MBlock.fault m.length fi x b y) (Lay.below hx.out.blocks hW7.bel) (by have:=hs.out.1;omega) (fun b y yi wx hz hi hb=>clo72_any ((hx.out.below hW7.bel).below hb) hs.out hi (hs.out.2.2.2 _ (List.mem_of_getElem? hz)) hm hfi (by have h9:=(List.getElem?_eq_some_iff.1 hz).1;have:=hs.out.1;omega) ((hW7.get 1 rfl).below hb))) trivial rfl rfl rfl ?_
  clear hW7;intro w21 hW21
  refine sT 0 hW21 rfl rfl infFault rfl rfl rfl ?_
  clear hW21;intro w22 hW22
  refine St.nil fun a23 h23=>?_
  refine hK18 _ _ ?_
  refine wp_ret ?_;with_reducible repeat first | refine of_then_ret ?_ | refine of_block_ret ?_
  have e0:=hc17.out
  have EF:=MFunc.fault_eq m.length fi x
  rw [if_pos e0] at EF
  exact ret_box 0 h23 hW22 rfl rfl rfl Tryz.underlying27 rfl infFault ⟨by show Ending.returned (.agg #[.int .i64 ((firstF (fun b y=>MBlock.fault m.length fi x b y) 0 x.blocks).1),.int .i64 ((firstF (fun b y=>MBlock.fault m.length fi x b y) 0 x.blocks).2)])=_;rw [EF],hW22.bel⟩
theorem clo46_any {n : Nat} {m : List (MFunc n)} {p : Option Addr} {c : Nat} {x : MFunc n} {fp : FP} {fi : Nat} {w : World} (hx0 : FIn w All x fp) (hs0 : x.small) {Bc : Nat} (hm : m.length ≤ 100000) (hfi : fi < 1000000) (hcap0 : Blk w Bc #[.slice p m.length c] 25) :
    Rd Tryz.prog 37 #[.int .i64 (fi:Int),.agg #[.int .i64 x.regs,.slice fp.pP x.params.length fp.cP,.slice fp.pR x.results.length fp.cR,.slice fp.pB x.blocks.length fp.cB],.pointer (some ⟨Bc,0,none⟩)] w (faultV (MFunc.fault m.length fi x)):=by
  have hx:Hid _:=hx0
  have hs:Hid _:=hs0
  clear hx0 hs0
  have hcap:Hid _:=hcap0
  clear hcap0
  refine fr_enter (n:=11) Tryz.func37 rfl rfl rfl ?_
  intro a hF
  have hW:=Wd.start w
  replace hF:Fr 11 a [(0,.int .i64 (fi:Int)),(1,.agg #[.int .i64 x.regs,.slice fp.pP x.params.length fp.cP,.slice fp.pR x.results.length fp.cR,.slice fp.pB x.blocks.length fp.cB]),(2,.pointer (some ⟨Bc,0,none⟩))]:=hF
  refine wp_seq_k fun K1 hK1=>?_
  refine rg hF fun ops=>?_;clear hF a
  refine sB hW trivial rfl rfl ?_
  clear hW;intro w2 B2 hW2 hN;clear hN
  refine sAFault hW2 trivial rfl ?_
  clear hW2;intro w3 B3 hW3 hN;clear hN
  refine St.nil fun a4 h4=>?_
  refine hK1 _ _ ?_
  refine wp_seq_k fun K5 hK5=>?_
  refine rg h4 fun ops=>?_;clear h4 a4
  refine sSE Tryz.underlying25 rfl (rangeAt_bel (rangeOf hcap.out 0 1 rfl) hW3.bel) infModule trivial rfl rfl ?_
  refine sS 1 4 Tryz.underlying38 rfl infFunc hW3 trivial rfl rfl rfl rfl ?_
  refine sm trivial rfl rfl ?_
  intro a6 h6
  refine fr_pure (t:=9) (v:=.agg #[.slice p m.length c,.int .i64 x.regs,.slice fp.pP x.params.length fp.cP,.slice fp.pR x.results.length fp.cR,.slice fp.pB x.blocks.length fp.cB,.int .i64 (fi:Int)]) (w':=w3) h6 rfl rfl rfl (fun K hK=>?_) ?_
  ·have k0:a6.tmps[6]?.getD undef=.agg #[.slice p m.length c]:=h6.sl2 6 _ rfl
   have k1:a6.tmps[7]?.getD undef=.agg #[.int .i64 x.regs,.slice fp.pP x.params.length fp.cP,.slice fp.pR x.results.length fp.cR,.slice fp.pB x.blocks.length fp.cB]:=h6.sl2 7 _ rfl
   have k2:a6.tmps[8]?.getD undef=.int .i64 (fi:Int):=h6.sl2 8 _ rfl
   go_simp
   exact hK
  clear h6;intro a7 hF7
  refine St.go hF7 ?_;clear hF7 a7
  refine sc_1 cf38 hW3 (cFuncFault_any (m:=m) (p:=p) (c:=c) (x:=x) (fp:=fp) (fi:=fi) (hx.out.below hW3.bel) hs.out hm hfi) trivial rfl rfl ?_
  clear hW3;intro w8 hW8
  refine sT 0 hW8 rfl rfl infFault rfl rfl rfl ?_
  clear hW8;intro w9 hW9
  refine St.nil fun a10 h10=>?_
  refine hK5 _ _ ?_
  refine wp_ret ?_;with_reducible repeat first | refine of_then_ret ?_ | refine of_block_ret ?_
  exact ret_box 0 h10 hW9 rfl rfl rfl Tryz.underlying27 rfl infFault ⟨rfl,hW9.bel⟩
theorem cCheck_any {n : Nat} {m : List (MFunc n)} {p : Option Addr} {c : Nat} {w : World} (hm0 : (modL n).In w All m [.slice p m.length c]) (hs0 : msmall m) :
    Rd Tryz.prog 16 #[.agg #[.slice p m.length c]] w (faultV (modFault m)):=by
  have hmm:Hid _:=hm0
  have hms:Hid _:=hs0
  clear hm0 hs0
  refine fr_enter (n:=18) Tryz.func16 rfl rfl rfl ?_
  intro a hF
  have hW:=Wd.start w
  replace hF:Fr 18 a [(0,.agg #[.slice p m.length c])]:=hF
  refine wp_seq_k fun K1 hK1=>?_
  refine rg hF fun ops=>?_;clear hF a
  refine sB hW trivial rfl rfl ?_
  clear hW;intro w2 B2 hW2 hN;clear hN
  refine sAFault hW2 trivial rfl ?_
  clear hW2;intro w3 B3 hW3 hN;clear hN
  refine St.nil fun a4 h4=>?_
  refine hK1 _ _ ?_
  refine wp_seq_k fun K5 hK5=>?_
  refine wp_seq_k fun K6 hK6=>?_
  refine fr_region ?_
  intro ops hops
  have hg4:(ops[4]?).bind (fun o:Oper=>o.dst)=some 7:=hops 4
  clear hops
  refine St.go h4 ?_;clear h4 a4
  refine sfModule0 trivial rfl rfl ?_
  refine sbFuncs 1 hW3 trivial rfl rfl rfl rfl ?_
  refine slFuncs trivial rfl rfl ?_
  refine slt trivial rfl rfl rfl ?_
  refine sm trivial rfl rfl ?_
  intro a7 h7
  rcases Bool.eq_false_or_eq_true (decide ((m.length:Int) < 1)) with hb | hb
  ·rw [hb] at h7
   have hc8:m.length < 1:=by have:=of_decide_eq_true hb;omega
   clear hb
   refine St.go h7 ?_;clear h7 a7
   refine so hg4 rfl rfl rfl rfl ?_
   refine so hg4 rfl rfl rfl rfl ?_
   refine so hg4 rfl rfl rfl rfl ?_
   refine so hg4 rfl rfl rfl rfl ?_
   refine sp trivial rfl rfl rfl ?_
   refine St.nil fun a9 h9=>?_
   refine hK6 _ _ ?_
   refine fr_true (t:=12) h9 rfl ?_
   refine wp_seq_k fun K10 hK10=>?_
   refine rg h9 fun ops=>?_;clear h9 a9
   intro a11 h11
   refine fr_pure (t:=13) (v:=.agg #[.int .i64 2,.int .i64 (-1)]) (w':=w3) h11 rfl rfl rfl (fun K hK=>?_) ?_
   ·go_simp
    exact hK
   clear h11;intro a12 hF12
   refine St.go hF12 ?_;clear hF12 a12
   refine sT 0 hW3 rfl rfl infFault rfl rfl rfl ?_
   clear hW3;intro w13 hW13
   refine St.nil fun a14 h14=>?_
   refine hK10 _ _ ?_
   refine wp_ret ?_;with_reducible repeat first | refine of_then_ret ?_ | refine of_block_ret ?_
   have R:modFault m=(2,-1):=if_pos (by omega)
   exact ret_box 0 h14 hW13 rfl rfl rfl Tryz.underlying27 rfl infFault ⟨by show Ending.returned (.agg #[.int .i64 2,.int .i64 (-1)])=_;rw [R],hW13.bel⟩
  rw [hb] at h7
  have hc15:¬ (m.length < 1):=by have:=of_decide_eq_false hb;omega
  clear hb
  refine St.go h7 ?_;clear h7 a7
  refine sfModule0 ⟨_,hg4,rfl,rfl⟩ rfl rfl ?_
  refine sbFuncs 1 hW3 ⟨_,hg4,rfl,rfl⟩ rfl rfl rfl rfl ?_
  refine slFuncs ⟨_,hg4,rfl,rfl⟩ rfl rfl ?_
  refine sgt ⟨_,hg4,rfl,rfl⟩ rfl rfl rfl ?_
  refine spf trivial rfl rfl rfl ?_
  refine St.nil fun a16 h16=>?_
  refine hK6 _ _ ?_
  refine fr_cond (t:=12) h16 rfl (fun hb=>?_) (fun hb=>?_)
  ·have hc17:8 < m.length:=by have:=of_decide_eq_true hb;omega
   clear hb
   refine wp_seq_k fun K18 hK18=>?_
   refine rg h16 fun ops=>?_;clear h16 a16
   intro a19 h19
   refine fr_pure (t:=13) (v:=.agg #[.int .i64 2,.int .i64 (-1)]) (w':=w3) h19 rfl rfl rfl (fun K hK=>?_) ?_
   ·go_simp
    exact hK
   clear h19;intro a20 hF20
   refine St.go hF20 ?_;clear hF20 a20
   refine sT 0 hW3 rfl rfl infFault rfl rfl rfl ?_
   clear hW3;intro w21 hW21
   refine St.nil fun a22 h22=>?_
   refine hK18 _ _ ?_
   refine wp_ret ?_;with_reducible repeat first | refine of_then_ret ?_ | refine of_block_ret ?_
   have R:modFault m=(2,-1):=if_pos (by omega)
   exact ret_box 0 h22 hW21 rfl rfl rfl Tryz.underlying27 rfl infFault ⟨by show Ending.returned (.agg #[.int .i64 2,.int .i64 (-1)])=_;rw [R],hW21.bel⟩
  have hc23:¬ (8 < m.length):=by have:=of_decide_eq_false hb;omega
  clear hb
  refine wp_skip ?_
  refine hK5 _ _ ?_
  refine wp_seq_k fun K24 hK24=>?_
  refine rg h16 fun ops=>?_;clear h16 a16
  refine sfModule0 trivial rfl rfl ?_
  refine sbFuncs 1 hW3 trivial rfl rfl rfl rfl ?_
  intro a25 h25
  refine fr_pure (t:=16) (v:=.func (.func 37) #[] #[.pointer (some ⟨B2,0,none⟩)]) (w':=w3) h25 rfl rfl rfl (fun K hK=>?_) ?_
  ·have k0:a25.tmps.getD 1 undef=.pointer (some ⟨B2,0,none⟩):=h25.sl 1 _ rfl
   go_simp
   exact hK
  clear h25;intro a26 hF26
  refine St.go hF26 ?_;clear hF26 a26
  refine sc_2 cf36 hW3 (ffFunc_any (Bc:=B2) (fun f x=>MFunc.fault m.length f x) (Lay.below hmm.out hW3.bel) (by have:=hms.out.1;omega) (fun f x xi wx hz hi hb=>clo46_any hi (hms.out.2 _ (List.mem_of_getElem? hz)) (by have:=hms.out.1;omega) (by have h9:=(List.getElem?_eq_some_iff.1 hz).1;have:=hms.out.1;omega) ((hW3.get 1 rfl).below hb))) trivial rfl rfl rfl ?_
  clear hW3;intro w27 hW27
  refine sT 0 hW27 rfl rfl infFault rfl rfl rfl ?_
  clear hW27;intro w28 hW28
  refine St.nil fun a29 h29=>?_
  refine hK24 _ _ ?_
  refine wp_ret ?_;with_reducible repeat first | refine of_then_ret ?_ | refine of_block_ret ?_
  have R:modFault m=firstF (fun f x=>MFunc.fault m.length f x) 0 m:=if_neg (by omega)
  exact ret_box 0 h29 hW28 rfl rfl rfl Tryz.underlying27 rfl infFault ⟨by show Ending.returned (.agg #[.int .i64 ((firstF (fun f x=>MFunc.fault m.length f x) 0 m).1),.int .i64 ((firstF (fun f x=>MFunc.fault m.length f x) 0 m).2)])=_;rw [R],hW28.bel⟩
end Go.Proofs.YtjodmledadbgeacGreatDoor
namespace Go.Proofs.YtjodmledadbgeacGreatDoor
open Go.ChangeShapes Go.WideShapes Go.ChangeAt Go.RowKit Go.Shelf
set_option linter.unusedSimpArgs false
set_option linter.unusedVariables false
def ParOut (s : List UInt8) (w : World) (en : Ending) (w' : World) : Prop :=
  (∃ c a:Int,c≠0∧en=.returned (.tuple #[.agg #[.slice none 0 0],.agg #[.int .i64 c,.int .i64 a]])∧Below w.heap.size w w'∧∀ l m q,scanL s=.ok l→funcsP l s.length (l.length+1) 0≠.ok (m,q)) ∨
  (∃ l m q,scanL s=.ok l∧funcsP l s.length (l.length+1) 0=.ok (m,q)∧(modFault m).1≠0∧en=.returned (.tuple #[.agg #[.slice none 0 0],.agg #[.int .i64 (modFault m).1,.int .i64 (modFault m).2]])∧Below w.heap.size w w') ∨
  (∃ m a c,parseL s=.ok m∧en=.returned (.tuple #[.agg #[.slice a m.length c],.agg #[.int .i64 0,.int .i64 0]])∧(modL 6).In w' (fun g=>w.heap.size≤g) m [.slice a m.length c]∧Below w.heap.size w w')
theorem parse_yes {s : List UInt8} {l : List Tk} {m : List (MFunc 6)} {q : Nat} (h1 : scanL s = .ok l) (h2 : funcsP l s.length (l.length + 1) 0 = .ok (m, q)) (h3 : (modFault m).1 = 0) : parseL s = .ok m := by
  unfold parseL
  rw [h1]
  simp only [h2,h3]
  simp
theorem scanF_code : ∀ (f pos : Nat) (s : List UInt8) (c a : Nat), scanF f pos s = .fault c a → c ≠ 0
  | 0,pos,s,c,a,h=>by cases h
  | f+1,pos,s,c,a,h=>by
    unfold scanF at h
    split at h
    · cases h
    · split at h
      · rename_i c' hc
        injection h with h1 h2
        have:=tok_code hc
        omega
      · rename_i k b n e
        cases hr:scanF f (pos+k+blk false (s.drop k)) ((s.drop k).drop (blk false (s.drop k))) with
        | fault c' a' =>
          rw [hr] at h
          injection h with h1 h2
          have:=scanF_code f _ _ _ _ hr
          omega
        | ok l'=>rw [hr] at h;cases h
theorem scanL_code {s : List UInt8} {c a : Nat} (h : scanL s = .fault c a) : c ≠ 0 := by
  unfold scanL at h
  split at h
  · injection h with h1 h2;omega
  · exact scanF_code _ _ _ _ _ h
theorem told {w w3 : World} {M R : Nat} {T1 T2 : TypeId} (c a : Int) (hM : Blk w3 M #[.slice none 0 0] T1) (hR : Blk w3 R #[.int .i64 0, .int .i64 0] T2) (hne : ¬ M = R) (hb : Below M w w3) (hMR : M ≤ R) :
    Blk (((w3.setCell ⟨M,0,none⟩ (.slice none 0 0)).setCell ⟨R,0,none⟩ (.int .i64 c)).setCell ⟨R,1,none⟩ (.int .i64 a)).drew M #[.slice none 0 0] T1 ∧
    Blk (((w3.setCell ⟨M,0,none⟩ (.slice none 0 0)).setCell ⟨R,0,none⟩ (.int .i64 c)).setCell ⟨R,1,none⟩ (.int .i64 a)).drew R #[.int .i64 c,.int .i64 a] T2 ∧
    Below M w (((w3.setCell ⟨M,0,none⟩ (.slice none 0 0)).setCell ⟨R,0,none⟩ (.int .i64 c)).setCell ⟨R,1,none⟩ (.int .i64 a)).drew:=by
  have n4:¬ R=M:=fun e=>hne e.symm
  refine ⟨?_,?_,?_⟩
  · exact ((Blk.setOther (show Blk _ M #[.slice none 0 0] T1 by simpa using blockSet hM 0 (.slice none 0 0)) (p:=⟨R,0,none⟩) n4 (.int .i64 c)).setOther (p:=⟨R,1,none⟩) n4 (.int .i64 a))
  · have:=blockSet (blockSet (hR.setOther (p:=⟨M,0,none⟩) hne (.slice none 0 0)) 0 (.int .i64 c)) 1 (.int .i64 a)
    have h2:Blk (((w3.setCell ⟨M,0,none⟩ (.slice none 0 0)).setCell ⟨R,0,none⟩ (.int .i64 c)).setCell ⟨R,1,none⟩ (.int .i64 a)) R #[.int .i64 c,.int .i64 a] T2:=by simpa using this
    exact h2
  · have h2:=((hb.setCell (p:=⟨M,0,none⟩) (Nat.le_refl _) (.slice none 0 0)).setCell (p:=⟨R,0,none⟩) hMR (.int .i64 c)).setCell (p:=⟨R,1,none⟩) hMR (.int .i64 a)
    exact ⟨h2.os,h2.tape,h2.output,h2.size,h2.block⟩
theorem parse_any (s : ByteArray) (w : World) (hw0 : Laid w) (hs : s.size ≤ maxLen) :
    Calls Tryz.prog 6 #[.string s] w fun en w'=>ParOut s.data.toList w en w':=by
  have hw1:Hid (Laid ((w.alloc (.cells #[.slice none 0 0] 25)).alloc (.cells #[.int .i64 0,.int .i64 0] 27))):=hw0.below (bel2 _ _ _)
  have B1:Hid (Below w.heap.size w ((w.alloc (.cells #[.slice none 0 0] 25)).alloc (.cells #[.int .i64 0,.int .i64 0] 27))):=bel2 _ _ _
  have M1:Hid (Blk ((w.alloc (.cells #[.slice none 0 0] 25)).alloc (.cells #[.int .i64 0,.int .i64 0] 27)) w.heap.size #[.slice none 0 0] 25):=Blk.new1 _ _ _ _ _
  have R1:Hid (Blk ((w.alloc (.cells #[.slice none 0 0] 25)).alloc (.cells #[.int .i64 0,.int .i64 0] 27)) (w.heap.size+1) #[.int .i64 0,.int .i64 0] 27):=Blk.new2 _ _ _ _
  have HS:Hid (s.size≤maxLen):=hs
  unfold maxLen at hs
  clear hw0
  go_enter Tryz.func6,Tryz.ntmps6
  go_wp2_with fail
  generalize (w.alloc (.cells #[.slice none 0 0] 25)).alloc (.cells #[.int .i64 0,.int .i64 0] 27)=w1 at hw1 B1 M1 R1 ⊢
  refine (scan2_any s w1 hw1.out HS.out).mono ?_
  intro e' w2 hO
  cases hsc:scanL s.data.toList with
  | fault c0 a0 =>
    rw [hsc] at hO
    obtain ⟨rfl,b2⟩:=hO
    have M2:Hid (Blk w2 w.heap.size #[.slice none 0 0] 25):=M1.out.below b2
    have R2:Hid (Blk w2 (w.heap.size+1) #[.int .i64 0,.int .i64 0] 27):=R1.out.below b2
    have B2:Hid (Below w.heap.size w w2):=Below.andThen B1.out b2
    clear b2 hw1 B1 M1 R1
    have hc0:¬ (c0:Int)=0:=by have:=scanL_code hsc;omega
    have NO:Hid (∀ l m q,scanL s.data.toList=.ok l→funcsP l s.data.toList.length (l.length+1) 0≠.ok (m,q)):=fun l m q h1=>by rw [hsc] at h1;cases h1
    clear hsc
    go_wp2_with fail
    have M3:Hid (Blk (w2.alloc (.cells #[.int .i64 c0,.int .i64 a0] 27)) w.heap.size #[.slice none 0 0] 25):=M2.out.alloc _
    have R3:Hid (Blk (w2.alloc (.cells #[.int .i64 c0,.int .i64 a0] 27)) (w.heap.size+1) #[.int .i64 0,.int .i64 0] 27):=R2.out.alloc _
    have X3:Hid (Blk (w2.alloc (.cells #[.int .i64 c0,.int .i64 a0] 27)) w2.heap.size #[.int .i64 c0,.int .i64 a0] 27):=Blk.new _ _ _
    have B3:Hid (Below w.heap.size w (w2.alloc (.cells #[.int .i64 c0,.int .i64 a0] 27))):=B2.out.alloc B2.out.size _
    have l2:=R2.out.lt
    clear M2 R2 B2
    generalize w2.alloc (.cells #[.int .i64 c0,.int .i64 a0] 27)=w3 at M3 R3 X3 B3 ⊢
    generalize w2.heap.size=X at X3 l2 ⊢
    have yM:=cellOf M3.out 0 _ rfl
    have zM:=freeOf M3.out 0
    have yR0:=cellOf R3.out 0 _ rfl
    have zR0:=freeOf R3.out 0
    have yR1:=cellOf R3.out 1 _ rfl
    have zR1:=freeOf R3.out 1
    have x0:=cellOf X3.out 0 _ rfl
    have x1:=cellOf X3.out 1 _ rfl
    have n1:¬ X=w.heap.size:=by omega
    have n2:¬ X=w.heap.size+1:=by omega
    have n3:¬ w.heap.size=w.heap.size+1:=by omega
    go_region
    obtain ⟨d1,d2,d3⟩:=told (c0:Int) (a0:Int) M3.out R3.out n3 B3.out (Nat.le_succ _)
    clear yM zM yR0 zR0 yR1 zR1 x0 x1
    generalize (((w3.setCell ⟨w.heap.size,0,none⟩ (.slice none 0 0)).setCell ⟨w.heap.size+1,0,none⟩ (.int .i64 c0)).setCell ⟨w.heap.size+1,1,none⟩ (.int .i64 a0)).drew=w9 at d1 d2 d3 ⊢
    have x0:=cellOf d1 0 _ rfl
    have x1:=cellOf d2 0 _ rfl
    have x2:=cellOf d2 1 _ rfl
    go_wp2
    exact bodyPost_ret (v:=.tuple #[.agg #[.slice none 0 0],.agg #[.int .i64 c0,.int .i64 a0]]) (by simp [results,Tryz.results6,go_sem,x0,x1,x2]) rfl (.inl ⟨c0,a0,hc0,rfl,d3,NO.out⟩)
  | ok l =>
    rw [hsc] at hO
    obtain ⟨a2,c2,rfl,hl2,b2,hcap⟩:=hO
    obtain ⟨hfine,hlen⟩:=scanL_fine hsc
    have HSC:Hid (scanL s.data.toList=.ok l):=hsc
    have HSZ:Hid (s.data.toList.length=s.size):=list_len s
    have M3:Hid (Blk (w2.alloc (.cells #[.int .i64 0,.int .i64 0] 27)) w.heap.size #[.slice none 0 0] 25):=(M1.out.below b2).alloc _
    have R3:Hid (Blk (w2.alloc (.cells #[.int .i64 0,.int .i64 0] 27)) (w.heap.size+1) #[.int .i64 0,.int .i64 0] 27):=(R1.out.below b2).alloc _
    have X3:Hid (Blk (w2.alloc (.cells #[.int .i64 0,.int .i64 0] 27)) w2.heap.size #[.int .i64 0,.int .i64 0] 27):=Blk.new _ _ _
    have B3:Hid (Below w.heap.size w (w2.alloc (.cells #[.int .i64 0,.int .i64 0] 27))):=(Below.andThen B1.out b2).alloc (Below.andThen B1.out b2).size _
    have T3:Hid (tkL.list.In (w2.alloc (.cells #[.int .i64 0,.int .i64 0] 27)) (fun _=>True) l [.slice a2 l.length c2]):=Lay.mono (Lay.alloc hl2 _) (fun _ _ _=>trivial)
    have HF:Hid (∀ x ∈ l,x.fine):=hfine
    have HCAP:Hid (l.length≤c2):=hcap
    have l2:=(R1.out.below b2).lt
    clear b2 hw1 B1 M1 R1 hl2 hcap hfine hsc
    go_wp2_with fail
    generalize w2.alloc (.cells #[.int .i64 0,.int .i64 0] 27)=w3 at M3 R3 X3 B3 T3 ⊢
    generalize w2.heap.size=X at X3 l2 ⊢
    refine (read_any (e:=s.size) T3.out HCAP.out hlen HF.out).mono ?_
    intro e' w4 hO
    have l3:=X3.out.lt
    have n1:¬ X=w.heap.size:=by omega
    have n2:¬ X=w.heap.size+1:=by omega
    have n3:¬ w.heap.size=w.heap.size+1:=by omega
    rcases hO with ⟨m,q,a4,c4,m4,rfl,hi4,b4⟩ | ⟨y,c',a',m4,rfl,hc',b4⟩
    · have M4:Hid (Blk w4 w.heap.size #[.slice none 0 0] 25):=M3.out.below b4
      have R4:Hid (Blk w4 (w.heap.size+1) #[.int .i64 0,.int .i64 0] 27):=R3.out.below b4
      have X4:Hid (Blk w4 X #[.int .i64 0,.int .i64 0] 27):=X3.out.below b4
      have B4:Hid (Below w.heap.size w w4):=Below.andThen B3.out b4
      have I4:Hid ((modL 6).In w4 (fun g=>X < g) m [.slice a4 m.length c4]):=Lay.mono hi4 (fun k hk _=>by omega)
      have SM:Hid (msmall m):=parsed_small (by omega) m4
      have E4:Hid (funcsP l s.data.toList.length (l.length+1) 0=.ok (m,q)):=by rw [HSZ.out];exact m4
      have x0:=cellOf X4.out 0 _ rfl
      have x1:=cellOf X4.out 1 _ rfl
      have v0:=freeOf X4.out 0
      have v1:=freeOf X4.out 1
      have l4:=X4.out.lt
      clear b4 hi4 m4 M3 R3 X3 B3 T3
      go_wp2_with fail
      have M5:Hid (Blk (((w4.setCell ⟨X,0,none⟩ (.int .i64 0)).setCell ⟨X,1,none⟩ (.int .i64 0)).alloc (.cells #[.slice a4 m.length c4] 25)) w.heap.size #[.slice none 0 0] 25):=((M4.out.setOther (p:=⟨X,0,none⟩) n1 _).setOther (p:=⟨X,1,none⟩) n1 _).alloc _
      have R5:Hid (Blk (((w4.setCell ⟨X,0,none⟩ (.int .i64 0)).setCell ⟨X,1,none⟩ (.int .i64 0)).alloc (.cells #[.slice a4 m.length c4] 25)) (w.heap.size+1) #[.int .i64 0,.int .i64 0] 27):=((R4.out.setOther (p:=⟨X,0,none⟩) n2 _).setOther (p:=⟨X,1,none⟩) n2 _).alloc _
      have X5:Hid (Blk (((w4.setCell ⟨X,0,none⟩ (.int .i64 0)).setCell ⟨X,1,none⟩ (.int .i64 0)).alloc (.cells #[.slice a4 m.length c4] 25)) X #[.int .i64 0,.int .i64 0] 27):=by
        have:=blockSet (blockSet X4.out 0 (.int .i64 0)) 1 (.int .i64 0)
        exact Blk.alloc (show Blk _ X #[.int .i64 0,.int .i64 0] 27 by simpa using this) _
      have Y5:Hid (Blk (((w4.setCell ⟨X,0,none⟩ (.int .i64 0)).setCell ⟨X,1,none⟩ (.int .i64 0)).alloc (.cells #[.slice a4 m.length c4] 25)) w4.heap.size #[.slice a4 m.length c4] 25):=by
        have:=Blk.new ((w4.setCell ⟨X,0,none⟩ (.int .i64 0)).setCell ⟨X,1,none⟩ (.int .i64 0)) #[.slice a4 m.length c4] 25
        show Blk _ _ _ _
        simpa using this
      have B5:Hid (Below w.heap.size w (((w4.setCell ⟨X,0,none⟩ (.int .i64 0)).setCell ⟨X,1,none⟩ (.int .i64 0)).alloc (.cells #[.slice a4 m.length c4] 25))):=((B4.out.setCell (p:=⟨X,0,none⟩) (show w.heap.size≤X by omega) _).setCell (p:=⟨X,1,none⟩) (show w.heap.size≤X by omega) _).alloc (by have:=B4.out.size;simp;omega) _
      have I5:Hid ((modL 6).In (((w4.setCell ⟨X,0,none⟩ (.int .i64 0)).setCell ⟨X,1,none⟩ (.int .i64 0)).alloc (.cells #[.slice a4 m.length c4] 25)) (fun g=>X < g) m [.slice a4 m.length c4]):=Lay.alloc (Lay.setCell (Lay.setCell I4.out (p:=⟨X,0,none⟩) (by simp) _) (p:=⟨X,1,none⟩) (by simp) _) _
      clear M4 R4 X4 B4 I4 x0 x1 v0 v1
      generalize (((w4.setCell ⟨X,0,none⟩ (.int .i64 0)).setCell ⟨X,1,none⟩ (.int .i64 0)).alloc (.cells #[.slice a4 m.length c4] 25))=w5 at M5 R5 X5 Y5 B5 I5 ⊢
      generalize w4.heap.size=Y at Y5 l4 ⊢
      obtain ⟨f1,hf1⟩:∃ f,(modFault m).1=f:=⟨_,rfl⟩
      obtain ⟨f2,hf2⟩:∃ f,(modFault m).2=f:=⟨_,rfl⟩
      have C:Hid (Calls Tryz.prog 16 #[.agg #[.slice a4 m.length c4]] w5 fun en w'=>en=.returned (.agg #[.int .i64 f1,.int .i64 f2])∧Below w5.heap.size w5 w'):=by
        have:=cCheck_any (Lay.mono I5.out (fun _ _ _=>trivial)) SM.out
        rw [← hf1,← hf2]
        exact this
      have F1:Hid ((modFault m).1=f1):=hf1
      have F2:Hid ((modFault m).2=f2):=hf2
      clear hf1 hf2
      refine C.out.mono ?_
      rintro e' w6 ⟨rfl,b6⟩
      have l5:=Y5.out.lt
      have M6:=M5.out.below b6
      have R6:=R5.out.below b6
      have X6:=X5.out.below b6
      have Y6:=Y5.out.below b6
      have B6:=Below.andThen B5.out b6
      have I6:=Lay.below I5.out b6
      have n5:¬ X=Y:=by omega
      have n6:¬ Y=w.heap.size:=by omega
      have n7:¬ Y=w.heap.size+1:=by omega
      have M7:Hid (Blk ((w6.setCell ⟨X,0,none⟩ (.int .i64 f1)).setCell ⟨X,1,none⟩ (.int .i64 f2)) w.heap.size #[.slice none 0 0] 25):=(M6.setOther (p:=⟨X,0,none⟩) n1 _).setOther (p:=⟨X,1,none⟩) n1 _
      have R7:Hid (Blk ((w6.setCell ⟨X,0,none⟩ (.int .i64 f1)).setCell ⟨X,1,none⟩ (.int .i64 f2)) (w.heap.size+1) #[.int .i64 0,.int .i64 0] 27):=(R6.setOther (p:=⟨X,0,none⟩) n2 _).setOther (p:=⟨X,1,none⟩) n2 _
      have Y7:Hid (Blk ((w6.setCell ⟨X,0,none⟩ (.int .i64 f1)).setCell ⟨X,1,none⟩ (.int .i64 f2)) Y #[.slice a4 m.length c4] 25):=(Y6.setOther (p:=⟨X,0,none⟩) n5 _).setOther (p:=⟨X,1,none⟩) n5 _
      have X7:Hid (Blk ((w6.setCell ⟨X,0,none⟩ (.int .i64 f1)).setCell ⟨X,1,none⟩ (.int .i64 f2)) X #[.int .i64 f1,.int .i64 f2] 27):=by
        have:=blockSet (blockSet X6 0 (.int .i64 f1)) 1 (.int .i64 f2)
        show Blk _ _ _ _
        simpa using this
      have B7:Hid (Below w.heap.size w ((w6.setCell ⟨X,0,none⟩ (.int .i64 f1)).setCell ⟨X,1,none⟩ (.int .i64 f2))):=(B6.setCell (p:=⟨X,0,none⟩) (show w.heap.size≤X by omega) _).setCell (p:=⟨X,1,none⟩) (show w.heap.size≤X by omega) _
      have I7:Hid ((modL 6).In ((w6.setCell ⟨X,0,none⟩ (.int .i64 f1)).setCell ⟨X,1,none⟩ (.int .i64 f2)) (fun g=>X < g) m [.slice a4 m.length c4]):=Lay.setCell (Lay.setCell I6 (p:=⟨X,0,none⟩) (by simp) _) (p:=⟨X,1,none⟩) (by simp) _
      have x0:=cellOf X6 0 _ rfl
      have x1:=cellOf X6 1 _ rfl
      have v0:=freeOf X6 0
      have v1:=freeOf X6 1
      have y0:=cellOf Y6 0 _ rfl
      clear M5 R5 X5 Y5 B5 I5 C b6 M6 R6 X6 B6 I6
      by_cases hf0:f1=0
      · subst hf0
        have gM:=cellOf M7.out 0 _ rfl
        have hM:=freeOf M7.out 0
        have gR0:=cellOf R7.out 0 _ rfl
        have hR0:=freeOf R7.out 0
        have gR1:=cellOf R7.out 1 _ rfl
        have hR1:=freeOf R7.out 1
        clear Y6
        go_wp2_with fail
        clear X7 Y7 x0 x1 v0 v1 y0 gM hM gR0 hR0 gR1 hR1
        generalize ((w6.setCell ⟨X,0,none⟩ (.int .i64 0)).setCell ⟨X,1,none⟩ (.int .i64 f2))=w7 at M7 R7 B7 I7 ⊢
        have n8:¬ w.heap.size+1=w.heap.size:=by omega
        have hXM:¬ X < w.heap.size:=by omega
        have hXR:¬ X < w.heap.size+1:=by omega
        have D1:Blk (((w7.setCell ⟨w.heap.size,0,none⟩ (.slice a4 m.length c4)).setCell ⟨w.heap.size+1,0,none⟩ (.int .i64 0)).setCell ⟨w.heap.size+1,1,none⟩ (.int .i64 0)) w.heap.size #[.slice a4 m.length c4] 25:=by
          have:=blockSet M7.out 0 (.slice a4 m.length c4)
          exact Blk.setOther (Blk.setOther (show Blk _ w.heap.size #[.slice a4 m.length c4] 25 by simpa using this) (p:=⟨w.heap.size+1,0,none⟩) n8 _) (p:=⟨w.heap.size+1,1,none⟩) n8 _
        have D2:Blk (((w7.setCell ⟨w.heap.size,0,none⟩ (.slice a4 m.length c4)).setCell ⟨w.heap.size+1,0,none⟩ (.int .i64 0)).setCell ⟨w.heap.size+1,1,none⟩ (.int .i64 0)) (w.heap.size+1) #[.int .i64 0,.int .i64 0] 27:=by
          have:=blockSet (blockSet (R7.out.setOther (p:=⟨w.heap.size,0,none⟩) n3 (.slice a4 m.length c4)) 0 (.int .i64 0)) 1 (.int .i64 0)
          simpa using this
        have D3:Hid ((modL 6).In (((w7.setCell ⟨w.heap.size,0,none⟩ (.slice a4 m.length c4)).setCell ⟨w.heap.size+1,0,none⟩ (.int .i64 0)).setCell ⟨w.heap.size+1,1,none⟩ (.int .i64 0)) (fun g=>w.heap.size≤g) m [.slice a4 m.length c4]) :=
          Lay.mono (Lay.setCell (Lay.setCell (Lay.setCell I7.out (p:=⟨w.heap.size,0,none⟩) hXM _) (p:=⟨w.heap.size+1,0,none⟩) hXR _) (p:=⟨w.heap.size+1,1,none⟩) hXR _) (fun k hk _=>by omega)
        have D4:Hid (Below w.heap.size w (((w7.setCell ⟨w.heap.size,0,none⟩ (.slice a4 m.length c4)).setCell ⟨w.heap.size+1,0,none⟩ (.int .i64 0)).setCell ⟨w.heap.size+1,1,none⟩ (.int .i64 0))):=((B7.out.setCell (p:=⟨w.heap.size,0,none⟩) (Nat.le_refl _) _).setCell (p:=⟨w.heap.size+1,0,none⟩) (Nat.le_succ _) _).setCell (p:=⟨w.heap.size+1,1,none⟩) (Nat.le_succ _) _
        clear M7 R7 B7 I7
        generalize (((w7.setCell ⟨w.heap.size,0,none⟩ (.slice a4 m.length c4)).setCell ⟨w.heap.size+1,0,none⟩ (.int .i64 0)).setCell ⟨w.heap.size+1,1,none⟩ (.int .i64 0))=w9 at D1 D2 D3 D4 ⊢
        have x0:=cellOf D1 0 _ rfl
        have x1:=cellOf D2 0 _ rfl
        have x2:=cellOf D2 1 _ rfl
        exact bodyPost_ret (v:=.tuple #[.agg #[.slice a4 m.length c4],.agg #[.int .i64 0,.int .i64 0]]) (by simp [results,Tryz.results6,go_sem,x0,x1,x2]) rfl (.inr (.inr ⟨m,a4,c4,parse_yes HSC.out E4.out F1.out,rfl,D3.out,D4.out⟩))
      · have hf0':Hid (¬ f1=0):=hf0
        clear Y6
        go_wp2_with fail
        clear x0 x1 v0 v1 y0
        generalize ((w6.setCell ⟨X,0,none⟩ (.int .i64 f1)).setCell ⟨X,1,none⟩ (.int .i64 f2))=w7 at M7 R7 X7 Y7 B7 I7 ⊢
        have yM:=cellOf M7.out 0 _ rfl
        have zM:=freeOf M7.out 0
        have yR0:=cellOf R7.out 0 _ rfl
        have zR0:=freeOf R7.out 0
        have yR1:=cellOf R7.out 1 _ rfl
        have zR1:=freeOf R7.out 1
        have x0:=cellOf X7.out 0 _ rfl
        have x1:=cellOf X7.out 1 _ rfl
        go_region
        obtain ⟨d1,d2,d3⟩:=told f1 f2 M7.out R7.out n3 B7.out (Nat.le_succ _)
        clear yM zM yR0 zR0 yR1 zR1 x0 x1
        generalize (((w7.setCell ⟨w.heap.size,0,none⟩ (.slice none 0 0)).setCell ⟨w.heap.size+1,0,none⟩ (.int .i64 f1)).setCell ⟨w.heap.size+1,1,none⟩ (.int .i64 f2)).drew=w9 at d1 d2 d3 ⊢
        have x0:=cellOf d1 0 _ rfl
        have x1:=cellOf d2 0 _ rfl
        have x2:=cellOf d2 1 _ rfl
        go_wp2
        exact bodyPost_ret (v:=.tuple #[.agg #[.slice none 0 0],.agg #[.int .i64 f1,.int .i64 f2]]) (by simp [results,Tryz.results6,go_sem,x0,x1,x2]) rfl (.inr (.inl ⟨l,m,q,HSC.out,E4.out,by rw [F1.out];exact hf0'.out,by rw [F1.out,F2.out],d3⟩))
    · have M4:Hid (Blk w4 w.heap.size #[.slice none 0 0] 25):=M3.out.below b4
      have R4:Hid (Blk w4 (w.heap.size+1) #[.int .i64 0,.int .i64 0] 27):=R3.out.below b4
      have X4:Hid (Blk w4 X #[.int .i64 0,.int .i64 0] 27):=X3.out.below b4
      have B4:Hid (Below w.heap.size w w4):=Below.andThen B3.out b4
      have NO:Hid (∀ l' m' q',scanL s.data.toList=.ok l'→funcsP l' s.data.toList.length (l'.length+1) 0≠.ok (m',q')):=fun l' m' q' h1 h2=>by
        rw [HSC.out] at h1
        injection h1 with h1
        subst h1
        rw [HSZ.out,m4] at h2
        cases h2
      have HC:Hid (c'≠0):=hc'
      have hc0:¬ c'=0:=hc'
      have x0:=cellOf X4.out 0 _ rfl
      have x1:=cellOf X4.out 1 _ rfl
      have v0:=freeOf X4.out 0
      have v1:=freeOf X4.out 1
      have l4:=X4.out.lt
      clear b4 m4 M3 R3 X3 B3 T3 hc'
      go_wp2_with fail
      have M5:Hid (Blk (((w4.setCell ⟨X,0,none⟩ (.int .i64 c')).setCell ⟨X,1,none⟩ (.int .i64 a')).alloc (.cells #[.slice none 0 0] 25)) w.heap.size #[.slice none 0 0] 25):=((M4.out.setOther (p:=⟨X,0,none⟩) n1 _).setOther (p:=⟨X,1,none⟩) n1 _).alloc _
      have R5:Hid (Blk (((w4.setCell ⟨X,0,none⟩ (.int .i64 c')).setCell ⟨X,1,none⟩ (.int .i64 a')).alloc (.cells #[.slice none 0 0] 25)) (w.heap.size+1) #[.int .i64 0,.int .i64 0] 27):=((R4.out.setOther (p:=⟨X,0,none⟩) n2 _).setOther (p:=⟨X,1,none⟩) n2 _).alloc _
      have X5:Hid (Blk (((w4.setCell ⟨X,0,none⟩ (.int .i64 c')).setCell ⟨X,1,none⟩ (.int .i64 a')).alloc (.cells #[.slice none 0 0] 25)) X #[.int .i64 c',.int .i64 a'] 27):=by
        have:=blockSet (blockSet X4.out 0 (.int .i64 c')) 1 (.int .i64 a')
        exact Blk.alloc (show Blk _ X #[.int .i64 c',.int .i64 a'] 27 by simpa using this) _
      have Y5:Hid (Blk (((w4.setCell ⟨X,0,none⟩ (.int .i64 c')).setCell ⟨X,1,none⟩ (.int .i64 a')).alloc (.cells #[.slice none 0 0] 25)) w4.heap.size #[.slice none 0 0] 25):=by
        have:=Blk.new ((w4.setCell ⟨X,0,none⟩ (.int .i64 c')).setCell ⟨X,1,none⟩ (.int .i64 a')) #[.slice none 0 0] 25
        show Blk _ _ _ _
        simpa using this
      have B5:Hid (Below w.heap.size w (((w4.setCell ⟨X,0,none⟩ (.int .i64 c')).setCell ⟨X,1,none⟩ (.int .i64 a')).alloc (.cells #[.slice none 0 0] 25))):=((B4.out.setCell (p:=⟨X,0,none⟩) (show w.heap.size≤X by omega) _).setCell (p:=⟨X,1,none⟩) (show w.heap.size≤X by omega) _).alloc (by have:=B4.out.size;simp;omega) _
      clear M4 R4 X4 B4 x0 x1 v0 v1
      generalize (((w4.setCell ⟨X,0,none⟩ (.int .i64 c')).setCell ⟨X,1,none⟩ (.int .i64 a')).alloc (.cells #[.slice none 0 0] 25))=w5 at M5 R5 X5 Y5 B5 ⊢
      have yM:=cellOf M5.out 0 _ rfl
      have zM:=freeOf M5.out 0
      have yR0:=cellOf R5.out 0 _ rfl
      have zR0:=freeOf R5.out 0
      have yR1:=cellOf R5.out 1 _ rfl
      have zR1:=freeOf R5.out 1
      have x0:=cellOf X5.out 0 _ rfl
      have x1:=cellOf X5.out 1 _ rfl
      go_region
      obtain ⟨d1,d2,d3⟩:=told c' a' M5.out R5.out n3 B5.out (Nat.le_succ _)
      clear yM zM yR0 zR0 yR1 zR1 x0 x1
      generalize (((w5.setCell ⟨w.heap.size,0,none⟩ (.slice none 0 0)).setCell ⟨w.heap.size+1,0,none⟩ (.int .i64 c')).setCell ⟨w.heap.size+1,1,none⟩ (.int .i64 a')).drew=w9 at d1 d2 d3 ⊢
      have x0:=cellOf d1 0 _ rfl
      have x1:=cellOf d2 0 _ rfl
      have x2:=cellOf d2 1 _ rfl
      go_wp2
      exact bodyPost_ret (v:=.tuple #[.agg #[.slice none 0 0],.agg #[.int .i64 c',.int .i64 a']]) (by simp [results,Tryz.results6,go_sem,x0,x1,x2]) rfl ((.inl ⟨c',a',HC.out,rfl,d3,NO.out⟩))
theorem itoa_0 : Lib.itoa 0 = [48] := by
  unfold Lib.itoa
  rw [if_neg (by decide),Lib.decDigits,dif_pos (by decide)]
  rfl
theorem itoa_5 : Lib.itoa 5 = [53] := by
  unfold Lib.itoa
  rw [if_neg (by decide),Lib.decDigits,dif_pos (by decide)]
  rfl
theorem num_0 : numOf [48] = some 0 := by
  have h:Lib.parseIntB 64 [48]=.ok 0:=by kernel_rfl
  unfold numOf
  rw [h]
  simp only [itoa_0,if_true]
theorem num_5 : numOf [53] = some 5 := by
  have h:Lib.parseIntB 64 [53]=.ok 5:=by kernel_rfl
  unfold numOf
  rw [h]
  simp only [itoa_5,if_true]
def pjT : List UInt8 := [102, 117, 110, 99, 32, 48, 32, 40, 41, 32, 45, 62, 32, 40, 105, 110, 116, 41, 32, 123, 32, 98, 108, 111, 99, 107, 32, 48, 32, 40, 41, 32, 123, 32, 110, 117, 109, 32, 53, 59, 32, 114, 101, 116, 32, 40, 48, 41, 59, 32, 125, 32, 125]
def pjL : List Tk := [⟨0, [102, 117, 110, 99], false, 0⟩, ⟨5, [48], true, 0⟩, ⟨7, [40], false, 0⟩, ⟨8, [41], false, 0⟩, ⟨10, [45, 62], false, 0⟩, ⟨13, [40], false, 0⟩, ⟨14, [105, 110, 116], false, 0⟩, ⟨17, [41], false, 0⟩, ⟨19, [123], false, 0⟩, ⟨21, [98, 108, 111, 99, 107], false, 0⟩, ⟨27, [48], true, 0⟩, ⟨29, [40], false, 0⟩, ⟨30, [41], false, 0⟩, ⟨32, [123], false, 0⟩, ⟨34, [110, 117, 109], false, 0⟩, ⟨38, [53], true, 5⟩, ⟨39, [59], false, 0⟩, ⟨41, [114, 101, 116], false, 0⟩, ⟨45, [40], false, 0⟩, ⟨46, [48], true, 0⟩, ⟨47, [41], false, 0⟩, ⟨48, [59], false, 0⟩, ⟨50, [125], false, 0⟩, ⟨52, [125], false, 0⟩]
theorem pj_20 : scanF 34 47 (pjT.drop 47) = .ok (pjL.drop 20) := by kernel_rfl
theorem pj_t19 : tok (pjT.drop 46) = .ok 1 true 0 := by
  have h:tokLen (pjT.drop 46)=(1,true):=by kernel_rfl
  have h2:List.take 1 (pjT.drop 46)=[48]:=rfl
  unfold tok
  rw [h]
  simp [h2,num_0]
theorem pj_19 : scanF 35 46 (pjT.drop 46) = .ok (pjL.drop 19) := by
  rw [scanF,if_neg (by decide),pj_t19]
  show (scanF 34 47 (pjT.drop 47)).app _=_
  rw [pj_20]
  rfl
theorem pj_t18 : tok (pjT.drop 45) = .ok 1 false 0 := by kernel_rfl
theorem pj_18 : scanF 36 45 (pjT.drop 45) = .ok (pjL.drop 18) := by
  rw [scanF,if_neg (by decide),pj_t18]
  show (scanF 35 46 (pjT.drop 46)).app _=_
  rw [pj_19]
  rfl
theorem pj_t17 : tok (pjT.drop 41) = .ok 3 false 0 := by kernel_rfl
theorem pj_17 : scanF 37 41 (pjT.drop 41) = .ok (pjL.drop 17) := by
  rw [scanF,if_neg (by decide),pj_t17]
  show (scanF 36 45 (pjT.drop 45)).app _=_
  rw [pj_18]
  rfl
theorem pj_t16 : tok (pjT.drop 39) = .ok 1 false 0 := by kernel_rfl
theorem pj_16 : scanF 38 39 (pjT.drop 39) = .ok (pjL.drop 16) := by
  rw [scanF,if_neg (by decide),pj_t16]
  show (scanF 37 41 (pjT.drop 41)).app _=_
  rw [pj_17]
  rfl
theorem pj_t15 : tok (pjT.drop 38) = .ok 1 true 5 := by
  have h:tokLen (pjT.drop 38)=(1,true):=by kernel_rfl
  have h2:List.take 1 (pjT.drop 38)=[53]:=rfl
  unfold tok
  rw [h]
  simp [h2,num_5]
theorem pj_15 : scanF 39 38 (pjT.drop 38) = .ok (pjL.drop 15) := by
  rw [scanF,if_neg (by decide),pj_t15]
  show (scanF 38 39 (pjT.drop 39)).app _=_
  rw [pj_16]
  rfl
theorem pj_t14 : tok (pjT.drop 34) = .ok 3 false 0 := by kernel_rfl
theorem pj_14 : scanF 40 34 (pjT.drop 34) = .ok (pjL.drop 14) := by
  rw [scanF,if_neg (by decide),pj_t14]
  show (scanF 39 38 (pjT.drop 38)).app _=_
  rw [pj_15]
  rfl
theorem pj_t13 : tok (pjT.drop 32) = .ok 1 false 0 := by kernel_rfl
theorem pj_13 : scanF 41 32 (pjT.drop 32) = .ok (pjL.drop 13) := by
  rw [scanF,if_neg (by decide),pj_t13]
  show (scanF 40 34 (pjT.drop 34)).app _=_
  rw [pj_14]
  rfl
theorem pj_t12 : tok (pjT.drop 30) = .ok 1 false 0 := by kernel_rfl
theorem pj_12 : scanF 42 30 (pjT.drop 30) = .ok (pjL.drop 12) := by
  rw [scanF,if_neg (by decide),pj_t12]
  show (scanF 41 32 (pjT.drop 32)).app _=_
  rw [pj_13]
  rfl
theorem pj_t11 : tok (pjT.drop 29) = .ok 1 false 0 := by kernel_rfl
theorem pj_11 : scanF 43 29 (pjT.drop 29) = .ok (pjL.drop 11) := by
  rw [scanF,if_neg (by decide),pj_t11]
  show (scanF 42 30 (pjT.drop 30)).app _=_
  rw [pj_12]
  rfl
theorem pj_t10 : tok (pjT.drop 27) = .ok 1 true 0 := by
  have h:tokLen (pjT.drop 27)=(1,true):=by kernel_rfl
  have h2:List.take 1 (pjT.drop 27)=[48]:=rfl
  unfold tok
  rw [h]
  simp [h2,num_0]
theorem pj_10 : scanF 44 27 (pjT.drop 27) = .ok (pjL.drop 10) := by
  rw [scanF,if_neg (by decide),pj_t10]
  show (scanF 43 29 (pjT.drop 29)).app _=_
  rw [pj_11]
  rfl
theorem pj_t9 : tok (pjT.drop 21) = .ok 5 false 0 := by kernel_rfl
theorem pj_9 : scanF 45 21 (pjT.drop 21) = .ok (pjL.drop 9) := by
  rw [scanF,if_neg (by decide),pj_t9]
  show (scanF 44 27 (pjT.drop 27)).app _=_
  rw [pj_10]
  rfl
theorem pj_t8 : tok (pjT.drop 19) = .ok 1 false 0 := by kernel_rfl
theorem pj_8 : scanF 46 19 (pjT.drop 19) = .ok (pjL.drop 8) := by
  rw [scanF,if_neg (by decide),pj_t8]
  show (scanF 45 21 (pjT.drop 21)).app _=_
  rw [pj_9]
  rfl
theorem pj_t7 : tok (pjT.drop 17) = .ok 1 false 0 := by kernel_rfl
theorem pj_7 : scanF 47 17 (pjT.drop 17) = .ok (pjL.drop 7) := by
  rw [scanF,if_neg (by decide),pj_t7]
  show (scanF 46 19 (pjT.drop 19)).app _=_
  rw [pj_8]
  rfl
theorem pj_t6 : tok (pjT.drop 14) = .ok 3 false 0 := by kernel_rfl
theorem pj_6 : scanF 48 14 (pjT.drop 14) = .ok (pjL.drop 6) := by
  rw [scanF,if_neg (by decide),pj_t6]
  show (scanF 47 17 (pjT.drop 17)).app _=_
  rw [pj_7]
  rfl
theorem pj_t5 : tok (pjT.drop 13) = .ok 1 false 0 := by kernel_rfl
theorem pj_5 : scanF 49 13 (pjT.drop 13) = .ok (pjL.drop 5) := by
  rw [scanF,if_neg (by decide),pj_t5]
  show (scanF 48 14 (pjT.drop 14)).app _=_
  rw [pj_6]
  rfl
theorem pj_t4 : tok (pjT.drop 10) = .ok 2 false 0 := by kernel_rfl
theorem pj_4 : scanF 50 10 (pjT.drop 10) = .ok (pjL.drop 4) := by
  rw [scanF,if_neg (by decide),pj_t4]
  show (scanF 49 13 (pjT.drop 13)).app _=_
  rw [pj_5]
  rfl
theorem pj_t3 : tok (pjT.drop 8) = .ok 1 false 0 := by kernel_rfl
theorem pj_3 : scanF 51 8 (pjT.drop 8) = .ok (pjL.drop 3) := by
  rw [scanF,if_neg (by decide),pj_t3]
  show (scanF 50 10 (pjT.drop 10)).app _=_
  rw [pj_4]
  rfl
theorem pj_t2 : tok (pjT.drop 7) = .ok 1 false 0 := by kernel_rfl
theorem pj_2 : scanF 52 7 (pjT.drop 7) = .ok (pjL.drop 2) := by
  rw [scanF,if_neg (by decide),pj_t2]
  show (scanF 51 8 (pjT.drop 8)).app _=_
  rw [pj_3]
  rfl
theorem pj_t1 : tok (pjT.drop 5) = .ok 1 true 0 := by
  have h:tokLen (pjT.drop 5)=(1,true):=by kernel_rfl
  have h2:List.take 1 (pjT.drop 5)=[48]:=rfl
  unfold tok
  rw [h]
  simp [h2,num_0]
theorem pj_1 : scanF 53 5 (pjT.drop 5) = .ok (pjL.drop 1) := by
  rw [scanF,if_neg (by decide),pj_t1]
  show (scanF 52 7 (pjT.drop 7)).app _=_
  rw [pj_2]
  rfl
theorem pj_t0 : tok (pjT.drop 0) = .ok 4 false 0 := by kernel_rfl
theorem pj_0 : scanF 54 0 (pjT.drop 0) = .ok (pjL.drop 0) := by
  rw [scanF,if_neg (by decide),pj_t0]
  show (scanF 53 5 (pjT.drop 5)).app _=_
  rw [pj_1]
  rfl
theorem pj_scan : scanL pjT = .ok pjL := pj_0
def pjM : List (MFunc 6) := [⟨0, [], [(1, 0, [])], [⟨0, [], [⟨1, 0, 0, 0, 0, 5, [], []⟩], ⟨3, 0, noTo, noTo, [0]⟩⟩]⟩]
theorem pj_funcs : funcsP pjL pjT.length (pjL.length + 1) 0 = .ok (pjM, 24) := by kernel_rfl
theorem pj_fault : (modFault pjM).1 = 0 := by kernel_rfl
theorem pj_parse : parseL pjT = .ok pjM := parse_yes pj_scan pj_funcs pj_fault
theorem pbegun_any (w : World) (hw0 : Laid w) : Calls Tryz.prog 5 #[] w fun e w' => e = .returned (.bool true) ∧ Below w.heap.size w w' := by
  have C:Hid (Calls Tryz.prog 6 #[.string ⟨#[102,117,110,99,32,48,32,40,41,32,45,62,32,40,105,110,116,41,32,123,32,98,108,111,99,107,32,48,32,40,41,32,123,32,110,117,109,32,53,59,32,114,101,116,32,40,48,41,59,32,125,32,125]⟩] w fun e w'=>∃ a c,e=.returned (.tuple #[.agg #[.slice a 1 c],.agg #[.int .i64 0,.int .i64 0]])∧(modL 6).In w' (fun g=>w.heap.size≤g) pjM [.slice a 1 c]∧Below w.heap.size w w'):=by
    have h:=parse_any ⟨#[102,117,110,99,32,48,32,40,41,32,45,62,32,40,105,110,116,41,32,123,32,98,108,111,99,107,32,48,32,40,41,32,123,32,110,117,109,32,53,59,32,114,101,116,32,40,48,41,59,32,125,32,125]⟩ w hw0 (by decide)
    rw [show (⟨#[102,117,110,99,32,48,32,40,41,32,45,62,32,40,105,110,116,41,32,123,32,98,108,111,99,107,32,48,32,40,41,32,123,32,110,117,109,32,53,59,32,114,101,116,32,40,48,41,59,32,125,32,125]⟩:ByteArray).data.toList=pjT from rfl] at h
    refine h.mono fun en w' hO=>?_
    rcases hO with ⟨c,a,_,_,_,hno⟩ | ⟨l,m,q,h1,h2,h3,_⟩ | ⟨m,a,c,h1,he,hi,hb⟩
    · exact absurd pj_funcs (hno _ _ _ pj_scan)
    · rw [pj_scan] at h1
      injection h1 with h1
      subst h1
      rw [pj_funcs] at h2
      injection h2 with h2
      injection h2 with h2 _
      subst h2
      exact absurd pj_fault h3
    · rw [pj_parse] at h1
      injection h1 with h1
      subst h1
      exact ⟨a,c,he,hi,hb⟩
  clear hw0
  go_enter Tryz.func5,Tryz.ntmps5
  go_wp2_with fail
  refine C.out.mono ?_
  rintro e w2 ⟨a,c,rfl,hl,hb⟩
  obtain ⟨g,o,ds,rfl,_,hg,hc,hd⟩:=Lay.list_at hl (i:=0) (x:=⟨0,[],[(1,0,[])],[⟨0,[],[⟨1,0,0,0,0,5,[],[]⟩],⟨3,0,noTo,noTo,[0]⟩⟩]⟩) rfl
  obtain ⟨q1,n1,q2,n2,q3,n3,rfl,_,_,hbl,_⟩:=func_form hd
  have f2:w2.cell? ⟨g,o+2,none⟩=some (.slice q2 1 n2):=by have h:=hc 2 (by decide);simp at h;exact h
  have f3:w2.cell? ⟨g,o+3,none⟩=some (.slice q3 1 n3):=by have h:=hc 3 (by decide);simp at h;exact h
  obtain ⟨g2,o2,ds2,rfl,_,hg2,hc2,hd2⟩:=Lay.list_at hbl (i:=0) (x:=⟨0,[],[⟨1,0,0,0,0,5,[],[]⟩],⟨3,0,noTo,noTo,[0]⟩⟩) rfl
  obtain ⟨r1,k1,r2,k2,es,rfl,_,hco,_,_⟩:=block_form hd2
  have f4:w2.cell? ⟨g2,o2+2,none⟩=some (.slice r2 1 k2):=by have h:=hc2 2 (by decide);simp at h;exact h
  obtain ⟨g3,o3,ds3,rfl,_,hg3,hc3,hd3⟩:=Lay.list_at hco (i:=0) (x:=⟨1,0,0,0,0,5,[],[]⟩) rfl
  obtain ⟨u1,v1,u2,v2,rfl,_,_,_⟩:=ins_form hd3
  have f5:w2.cell? ⟨g3,o3+5,none⟩=some (.int .i64 5):=by have h:=hc3 5 (by decide);simp at h;exact h
  have B:Hid (Below w.heap.size w w2):=hb
  have W1:Hid (∀ w',Calls Tryz.prog 9 #[.int .i64 14] w' fun en w''=>en=.returned (.string ⟨#[99,97,108,108]⟩)∧Below w'.heap.size w' w''):=fun w'=>pOp_any 14 w'
  have W2:Hid (∀ w',Calls Tryz.prog 11 #[.int .i64 0] w' fun en w''=>en=.returned (.string ⟨#[]⟩)∧Below w'.heap.size w' w''):=fun w'=>pKind_any 0 w'
  clear hl hb C hc hc2 hc3 hd hd2 hd3 hbl hco
  go_wp2_with fail
  refine (W1.out _).mono ?_
  rintro e w3 ⟨rfl,b3⟩
  have B3:Hid (Below w.heap.size w w3):=Below.andThen (show Below w.heap.size w _ from (B.out.alloc B.out.size _).alloc (by have:=B.out.size;simp;omega) _) b3
  clear b3 B
  go_wp2_with fail
  refine (W2.out _).mono ?_
  rintro e w4 ⟨rfl,b4⟩
  have B4:Hid (Below w.heap.size w w4):=Below.andThen B3.out b4
  clear b4 B3
  go_wp2
  go_ret
  exact ⟨rfl,B4.out⟩
theorem funcs_join {a b : List UInt8} {m n : List (MFunc 6)} (ha : parseL a = .ok m) (hb : parseL b = .ok n) (hl : a.length + b.length ≤ 39000) :
    ∃ L Q,scanL (a++10::b)=.ok L∧funcsP L (a++10::b).length (L.length+1) 0=.ok (m++n,Q):=by
  have inv:∀ {s:List UInt8} {m:List (MFunc 6)},parseL s=.ok m→∃ l q,scanL s=.ok l∧funcsP l s.length (l.length+1) 0=.ok (m,q):=by
    intro s m h
    unfold parseL at h
    split at h
    · cases h
    · rename_i l hs
      split at h
      · cases h
      · rename_i m' q hq
        split at h
        · cases h
        · injection h with h
          subst h
          exact ⟨l,q,hs,hq⟩
  obtain ⟨la,qa,sa,fa⟩:=inv ha
  obtain ⟨lb,qb,sb,fb⟩:=inv hb
  obtain ⟨lc,sc,hlc,hsame⟩:=scanL_join sa sb hl
  have hE1:Emb la (la++lc) 0:=fun i x hx=>⟨x,by rw [Nat.zero_add,List.getElem?_append_left (lt_of_tok hx)];exact hx,rfl,rfl,rfl⟩
  have hE2:Emb lb (la++lc) la.length:=fun i x hx=>by
    obtain ⟨y,hy,hs⟩:=hsame i x hx
    exact ⟨y,by rw [List.getElem?_append_right (by omega),Nat.add_sub_cancel_left];exact hy,hs⟩
  have hll:(la++lc).length=la.length+lb.length:=by rw [List.length_append,hlc]
  have h1:=funcs_front (e2:=(a++10::b).length) hE1 (by omega) (la.length+1) 0 m qa (Nat.zero_le _) (by omega) fa
  have h2:funcsP (la++lc) (a++10::b).length (lb.length+1) la.length=.ok (n,la.length+qb):=funcs_back (e2:=(a++10::b).length) hE2 hll (lb.length+1) 0 n qb fb
  have h3:funcsP (la++lc) (a++10::b).length ((la++lc).length+1) la.length=funcsP (la++lc) (a++10::b).length (lb.length+1) la.length:=funcs_fuel _ _ _ (by omega) (by omega) (by omega)
  rw [h3,h2,PR.ok_andThen] at h1
  exact ⟨la++lc,_,sc,h1⟩
theorem parse_fault {s : List UInt8} {m : List (MFunc 6)} (h : parseL s = .ok m) : (modFault m).1 = 0 := by
  unfold parseL at h
  split at h
  · cases h
  · split at h
    · cases h
    · split at h
      · cases h
      · rename_i h0
        injection h with h
        subst h
        exact Decidable.not_not.1 h0
theorem parse_some {s : List UInt8} {m : List (MFunc 6)} (h : parseL s = .ok m) : 1 ≤ m.length ∧ m.length ≤ 8 := by
  have h0:=parse_fault h
  unfold modFault at h0
  split at h0
  · cases h0
  · omega
theorem ParOut.two {s : List UInt8} {w w' : World} {en : Ending} (h : ParOut s w en w') :
    (∃ c a:Int,c≠0∧en=.returned (.tuple #[.agg #[.slice none 0 0],.agg #[.int .i64 c,.int .i64 a]])∧Below w.heap.size w w') ∨
    (∃ m a c,parseL s=.ok m∧en=.returned (.tuple #[.agg #[.slice a m.length c],.agg #[.int .i64 0,.int .i64 0]])∧(modL 6).In w' (fun g=>w.heap.size≤g) m [.slice a m.length c]∧Below w.heap.size w w'):=by
  rcases h with ⟨c,a,h1,h2,h3,_⟩ | ⟨l,m,q,_,_,h1,h2,h3⟩ | h
  · exact .inl ⟨c,a,h1,h2,h3⟩
  · exact .inl ⟨_,_,h1,h2,h3⟩
  · exact .inr h
theorem ParOut.some_ {s : List UInt8} {w w' : World} {en : Ending} (h : ParOut s w en w') : ∃ p n c, ∃ x y : Int, en = .returned (.tuple #[.agg #[.slice p n c], .agg #[.int .i64 x, .int .i64 y]]) ∧ Below w.heap.size w w' := by
  rcases h.two with ⟨c,a,_,h2,h3⟩ | ⟨m,a,c,_,h2,_,h3⟩
  · exact ⟨_,_,_,_,_,h2,h3⟩
  · exact ⟨_,_,_,_,_,h2,h3⟩
theorem Lay.flat {α : Type} {A : Lay α} {w : World} {O : Nat → Prop} {g o : Nat} {l : List α} {n c : Nat} (h : A.list.In w O l [.slice (some ⟨g, o, none⟩) n c]) (hone : ∀ (x : α) (ds : List Value), A.In w O x ds → ∀ u ∈ ds, u.oneCell' = true) :
    ∃ ds:List Value,ds.length=l.length * A.size∧(∀ (j:Nat) (u:Value),ds[j]?=some u→w.cell? ((⟨g,o,none⟩:Addr).add j)=some u)∧(∀ u ∈ ds,u.oneCell'=true)∧∀ (i:Nat) (x:α),l[i]?=some x→A.In w O x ((ds.drop (i * A.size)).take A.size):=by
  have key:∀ k,k≤l.length→∃ ds:List Value,ds.length=k * A.size∧(∀ (j:Nat) (u:Value),ds[j]?=some u→w.cell? ⟨g,o+j,none⟩=some u)∧(∀ u ∈ ds,u.oneCell'=true)∧∀ (i:Nat) (x:α),i < k→l[i]?=some x→A.In w O x ((ds.drop (i * A.size)).take A.size):=by
    intro k
    induction k with
    | zero=>exact fun _=>⟨[],by simp,fun j u hj=>by simp at hj,fun u hu=>by simp at hu,fun i x hi=>by omega⟩
    | succ k ih =>
      intro hk
      obtain ⟨ds,h1,h2,h3,h4⟩:=ih (by omega)
      obtain ⟨x,hx⟩:∃ x,l[k]?=some x:=⟨_,List.getElem?_eq_getElem (by omega)⟩
      obtain ⟨g',o',es,e1,_,_,hc,hd⟩:=Lay.list_at h hx
      injection e1 with e1
      injection e1 with e1 e2
      subst e1;subst e2
      have hes:=A.len hd
      refine ⟨ds++es,by rw [List.length_append,h1,hes,Nat.add_mul];omega,fun j u hj=>?_,fun u hu=>?_,fun i y hi hy=>?_⟩
      · rw [List.getElem?_append] at hj
        split at hj
        · exact h2 j u hj
        · rename_i hlt
          have hjl:j - ds.length < es.length:=(List.getElem?_eq_some_iff.1 hj).1
          have h5:=hc (j - ds.length) (by omega)
          rw [hj] at h5
          rw [← h5]
          congr 2
          omega
      · rcases List.mem_append.1 hu with hu | hu
        · exact h3 u hu
        · exact hone x es hd u hu
      · by_cases hik:i=k
        · subst hik
          rw [hx] at hy
          injection hy with hy
          subst hy
          rw [List.drop_append,List.drop_of_length_le (by omega),h1,Nat.sub_self,List.drop_zero,List.nil_append,List.take_of_length_le (by omega)]
          exact hd
        · have hm:(i+1) * A.size≤k * A.size:=Nat.mul_le_mul_right _ (by omega)
          rw [Nat.add_mul] at hm
          rw [List.drop_append_of_le_length (by omega),List.take_append_of_le_length (by simp;omega)]
          exact h4 i y (by omega) hy
  obtain ⟨ds,h1,h2,h3,h4⟩:=key l.length (Nat.le_refl _)
  exact ⟨ds,h1,fun j u hj=>by rw [Go.WideShapes.add_plain];exact h2 j u hj,h3,fun i x hx=>h4 i x (List.getElem?_eq_some_iff.1 hx).1 hx⟩
theorem kids_append {α : Type} {P : α → List Value → Prop} {l l2 : List α} {xs ds : List Value} {s : Nat} (hxl : xs.length = l.length * s)
    (h3:∀ (i:Nat) (x:α),l[i]?=some x→P x ((xs.drop (i * s)).take s)) (hx:∀ (i:Nat) (x:α),l2[i]?=some x→P x ((ds.drop (i * s)).take s)) :
    ∀ (i:Nat) (x:α),(l++l2)[i]?=some x→P x (((xs++ds).drop (i * s)).take s):=by
  intro i y hy
  rw [List.getElem?_append] at hy
  split at hy
  · rename_i hi
    have hm:(i+1) * s≤l.length * s:=Nat.mul_le_mul_right _ hi
    rw [Nat.add_mul] at hm
    rw [List.drop_append_of_le_length (by omega),List.take_append_of_le_length (by simp;omega)]
    exact h3 i y hy
  · rename_i hi
    have hm:l.length * s≤i * s:=Nat.mul_le_mul_right _ (by omega)
    have:=hx (i - l.length) y hy
    rw [Nat.sub_mul] at this
    rw [List.drop_append,List.drop_of_length_le (by omega),List.nil_append,hxl]
    exact this
theorem list_of_row {α : Type} {A : Lay α} {e : TypeId} {w : World} {O : Nat → Prop} {g N cap : Nat} {l : List α} {xs : List Value} (ho : w.ownsRow 0 e A.size (.slice (some ⟨g, 0, none⟩) N cap) N xs) (hN : l.length = N)
    (hk:∀ (i:Nat) (x:α),l[i]?=some x→A.In w O x ((xs.drop (i * A.size)).take A.size)) (hg:O g):A.list.In w O l [.slice (some ⟨g,0,none⟩) N cap]:=by
  subst hN
  obtain ⟨h1,h2⟩:=ho
  rcases h2 with ⟨h4,_⟩ | ⟨g',cap',cur,e',hg',hh,hn,hm,hs,ht⟩
  · cases h4
  · injection e' with e1 _ e2
    injection e1 with e1
    injection e1 with e1 _
    subst e1;subst e2
    refine ⟨some ⟨g,0,none⟩,cap,rfl,fun i x hx=>⟨g,0,_,rfl,hg,lt_of_block hh,fun j hj=>?_,hk i x hx⟩⟩
    have hi:i < l.length:=(List.getElem?_eq_some_iff.1 hx).1
    have hij:i * A.size+j < l.length * A.size:=by
      have:(i+1) * A.size≤l.length * A.size:=Nat.mul_le_mul_right _ hi
      rw [Nat.add_mul] at this
      omega
    rw [List.getElem?_take,if_pos hj,List.getElem?_drop,← ht,List.getElem?_take,if_pos hij,Nat.zero_add]
    have hcs:i * A.size+j < cur.size:=by
      have:l.length * A.size≤cap * A.size:=Nat.mul_le_mul_right _ hn
      omega
    rw [Array.getElem?_toList]
    exact (cellOf hh _ cur[i * A.size+j] (Array.getElem?_eq_getElem hcs)).trans (Array.getElem?_eq_getElem hcs).symm
theorem owns_keep {w w' : World} {e : TypeId} {s g N cap : Nat} {xs : List Value} (h : w.ownsRow 0 e s (.slice (some ⟨g, 0, none⟩) N cap) N xs) (hg : w'.heap[g]? = w.heap[g]?) : w'.ownsRow 0 e s (.slice (some ⟨g, 0, none⟩) N cap) N xs := by
  obtain ⟨h1,h2⟩:=h
  refine ⟨h1,?_⟩
  rcases h2 with h4 | ⟨g',cap',cur,e',hg',hh,r⟩
  · exact .inl h4
  · injection e' with e1 _ e2
    injection e1 with e1
    injection e1 with e1 _
    subst e1;subst e2
    exact .inr ⟨g,cap,cur,rfl,hg',hg.trans hh,r⟩
theorem firstF_nil0 {α : Type} {f : Nat → α → Int × Int} : ∀ {l : List α} {i : Nat}, (firstF f i l).1 = 0 → firstF f i l = (0, 0)
  | [],i,h=>rfl
  | x::xs,i,h=>by
    simp only [firstF] at h ⊢
    split at h
    · rename_i h1;exact absurd h h1
    · rename_i h1
      rw [if_neg h1]
      exact firstF_nil0 h
theorem modFault_zero {m : List (MFunc 6)} (h : (modFault m).1 = 0) : modFault m = (0, 0) := by
  unfold modFault at h ⊢
  split at h
  · cases h
  · rename_i h1
    rw [if_neg h1]
    exact firstF_nil0 h
theorem ParOut.joined {a b : List UInt8} {m n : List (MFunc 6)} {w w' : World} {en : Ending} (ha : parseL a = .ok m) (hb : parseL b = .ok n) (hl : a.length + b.length ≤ 39000) (h : ParOut (a ++ 10 :: b) w en w') :
    (∃ pb nb cb,en=.returned (.tuple #[.agg #[.slice pb nb cb],.agg #[.int .i64 (modFault (m++n)).1,.int .i64 (modFault (m++n)).2]])∧Below w.heap.size w w'∧((modFault (m++n)).1=0→nb=(m++n).length∧(modL 6).In w' (fun g=>w.heap.size≤g) (m++n) [.slice pb nb cb]))∧msmall (m++n):=by
  obtain ⟨L,Q,h1,h2⟩:=funcs_join ha hb hl
  refine ⟨?_,parsed_small (by have:=(scanL_fine h1).2;omega) h2⟩
  rcases h with ⟨c,x,_,_,_,hno⟩ | ⟨l',m',q',h3,h4,h5,h6,h7⟩ | ⟨m',p',c',h3,h4,h5,h6⟩
  · exact absurd h2 (hno _ _ _ h1)
  · rw [h1] at h3
    injection h3 with h3
    subst h3
    rw [h2] at h4
    injection h4 with h4
    injection h4 with h4 _
    subst h4
    exact ⟨_,_,_,h6,h7,fun h0=>absurd h0 h5⟩
  · have hf:=parse_fault h3
    have hm:m'=m++n:=by
      unfold parseL at h3
      rw [h1] at h3
      simp only [h2] at h3
      split at h3
      · cases h3
      · injection h3 with h3
        exact h3.symm
    subst hm
    rw [modFault_zero hf]
    exact ⟨p',_,c',h4,h6,fun _=>⟨rfl,h5⟩⟩
theorem func_one {w : World} {O : Nat → Prop} (x : MFunc 6) (ds : List Value) (h : (funcL 6).In w O x ds) : ∀ u ∈ ds, u.oneCell' = true := by
  obtain ⟨a,c,b,d,e,f,rfl,_⟩:=func_form h
  exact pOne4 _ _ _ _ _ _ _ _ _ _
end Go.Proofs.YtjodmledadbgeacGreatDoor
namespace Go.Proofs.YtjodmledadbgeacGreatDoor
open Go.ChangeShapes Go.WideShapes Go.ChangeAt Go.RowKit
set_option linter.unusedSimpArgs false
set_option linter.unusedVariables false
theorem blockFault_any {n : Nat} {m : List (MFunc n)} {p : Option Addr} {c fi bi : Nat} {x : MFunc n} {y : MBlock n} {w : World} (hm0 : (modL n).In w All m [.slice p m.length c]) (hs0 : msmall m) (hx1 : m[fi]? = some x) (hx2 : x.blocks[bi]? = some y) :
    Rd Tryz.prog 31 #[.agg #[.slice p m.length c],.int .i64 (fi:Int),.int .i64 (bi:Int)] w (faultV (MBlock.fault m.length fi x bi y)):=by
  have hlt1:fi < m.length:=(List.getElem?_eq_some_iff.1 hx1).1
  have hlt2:bi < x.blocks.length:=(List.getElem?_eq_some_iff.1 hx2).1
  have hs1:Hid x.small:=hs0.2 _ (List.mem_of_getElem? hx1)
  have hs2:Hid y.small:=hs1.out.2.2.2 _ (List.mem_of_getElem? hx2)
  have hmb:=hs0.1
  have hxb:=hs1.out.1
  have hyb:=hs2.out.1
  obtain ⟨g1,o1,f1,hp1,E1,In1⟩:=func_at hm0 hx1
  obtain ⟨g2,o2,b2,hp2,E2,In2⟩:=block_at In1.blocks hx2
  replace E1:Hid _:=E1
  replace E2:Hid _:=E2
  clear hm0 hs0
  replace In1:Hid _:=In1
  replace In2:Hid _:=In2
  replace hp1:Hid _:=hp1
  replace hp2:Hid _:=hp2
  replace hx1:Hid _:=hx1
  replace hx2:Hid _:=hx2
  refine fr_enter (n:=112) Tryz.func31 rfl rfl rfl ?_
  intro a hF
  have hW:=Wd.start w
  replace hF:Fr 112 a [(0,.agg #[.slice p m.length c]),(1,.int .i64 (fi:Int)),(2,.int .i64 (bi:Int))]:=hF
  refine wp_seq_k fun K1 hK1=>?_
  refine rg hF fun ops=>?_;clear hF a
  refine sB hW trivial rfl rfl ?_
  clear hW;intro w2 B2 hW2 hN;clear hN
  refine sAFault hW2 trivial rfl ?_
  clear hW2;intro w3 B3 hW3 hN;clear hN
  refine St.nil fun a4 h4=>?_
  refine hK1 _ _ ?_
  refine wp_seq_k fun K5 hK5=>?_
  refine rg h4 fun ops=>?_;clear h4 a4
  refine sfModule0 trivial rfl rfl ?_
  refine sbFuncs 1 hW3 trivial rfl rfl rfl rfl ?_
  refine sm trivial rfl rfl ?_
  refine siFuncs hp1.out hlt1 trivial rfl rfl rfl ?_
  refine sSE Tryz.underlying38 rfl (rangeAt_bel E1.out hW3.bel) infFunc trivial rfl rfl ?_
  refine sAFunc hW3 trivial rfl ?_
  clear hW3;intro w6 B6 hW6 hN;clear hN
  refine sT 0 hW6 rfl rfl infFunc rfl rfl rfl ?_
  clear hW6;intro w7 hW7
  refine St.nil fun a8 h8=>?_
  refine hK5 _ _ ?_
  refine wp_seq_k fun K9 hK9=>?_
  refine rg h8 fun ops=>?_;clear h8 a8
  refine sfFunc3 trivial rfl rfl ?_
  refine sbBlocks 0 hW7 trivial rfl rfl rfl rfl ?_
  refine sm trivial rfl rfl ?_
  refine siBlocks hp2.out hlt2 trivial rfl rfl rfl ?_
  refine sSE Tryz.underlying48 rfl (rangeAt_bel E2.out hW7.bel) infBlock trivial rfl rfl ?_
  refine sABlock hW7 trivial rfl ?_
  clear hW7;intro w10 B10 hW10 hN;clear hN
  refine sT 0 hW10 rfl rfl infBlock rfl rfl rfl ?_
  clear hW10;intro w11 hW11
  refine St.nil fun a12 h12=>?_
  refine hK9 _ _ ?_
  refine wp_seq_k fun K13 hK13=>?_
  refine wp_seq_k fun K14 hK14=>?_
  refine fr_region ?_
  intro ops hops
  have hg5:(ops[5]?).bind (fun o:Oper=>o.dst)=some 28:=hops 5
  clear hops
  refine St.go h12 ?_;clear h12 a12
  refine sfBlock0 trivial rfl rfl ?_
  refine sbInt 0 hW11 trivial rfl rfl rfl rfl ?_
  refine sfFunc0 trivial rfl rfl ?_
  refine sbInt 1 hW11 trivial rfl rfl rfl rfl ?_
  refine slt trivial rfl rfl rfl ?_
  refine sm trivial rfl rfl ?_
  intro a15 h15
  rcases Bool.eq_false_or_eq_true (decide (y.regs < x.regs)) with hb | hb
  ·rw [hb] at h15
   have hc16:y.regs < x.regs:=of_decide_eq_true hb
   clear hb
   refine St.go h15 ?_;clear h15 a15
   refine so hg5 rfl rfl rfl rfl ?_
   refine so hg5 rfl rfl rfl rfl ?_
   refine so hg5 rfl rfl rfl rfl ?_
   refine sp trivial rfl rfl rfl ?_
   refine St.nil fun a17 h17=>?_
   refine hK14 _ _ ?_
   refine fr_true (t:=32) h17 rfl ?_
   refine wp_seq_k fun K18 hK18=>?_
   refine rg h17 fun ops=>?_;clear h17 a17
   refine sm trivial rfl rfl ?_
   refine sm trivial rfl rfl ?_
   refine sc_2 cf55 hW11 (atBlock_any (f:=fi) (b:=bi) ⟨by omega,by omega⟩) trivial rfl rfl rfl ?_
   clear hW11;intro w19 hW19
   refine sc_2 cf28 hW19 (fF_any (xc:=1) (xp:=10000 * (fi:Int)+100 * (bi:Int)+90)) trivial rfl rfl rfl ?_
   clear hW19;intro w20 hW20
   refine sT 2 hW20 rfl rfl infFault rfl rfl rfl ?_
   clear hW20;intro w21 hW21
   refine St.nil fun a22 h22=>?_
   refine hK18 _ _ ?_
   refine wp_ret ?_;with_reducible repeat first | refine of_then_ret ?_ | refine of_block_ret ?_
   have RC:y.code' x bi=1:=if_pos (by omega)
   have EF:=MBlock.fault_eq m.length fi x bi y
   rw [RC,if_neg (by omega)] at EF
   exact ret_box 2 h22 hW21 rfl rfl rfl Tryz.underlying27 rfl infFault ⟨by show Ending.returned (.agg #[.int .i64 1,.int .i64 (10000 * (fi:Int)+100 * (bi:Int)+90)])=_;rw [EF],hW21.bel⟩
  rw [hb] at h15
  have hc23:¬ (y.regs < x.regs):=of_decide_eq_false hb
  clear hb
  refine St.go h15 ?_;clear h15 a15
  refine sfBlock0 ⟨_,hg5,rfl,rfl⟩ rfl rfl ?_
  refine sbInt 0 hW11 ⟨_,hg5,rfl,rfl⟩ rfl rfl rfl rfl ?_
  refine sgt ⟨_,hg5,rfl,rfl⟩ rfl rfl rfl ?_
  refine spf trivial rfl rfl rfl ?_
  refine St.nil fun a24 h24=>?_
  refine hK14 _ _ ?_
  refine fr_cond (t:=32) h24 rfl (fun hb=>?_) (fun hb=>?_)
  ·have hc25:16 < y.regs:=of_decide_eq_true hb
   clear hb
   refine wp_seq_k fun K26 hK26=>?_
   refine rg h24 fun ops=>?_;clear h24 a24
   refine sm trivial rfl rfl ?_
   refine sm trivial rfl rfl ?_
   refine sc_2 cf55 hW11 (atBlock_any (f:=fi) (b:=bi) ⟨by omega,by omega⟩) trivial rfl rfl rfl ?_
   clear hW11;intro w27 hW27
   refine sc_2 cf28 hW27 (fF_any (xc:=1) (xp:=10000 * (fi:Int)+100 * (bi:Int)+90)) trivial rfl rfl rfl ?_
   clear hW27;intro w28 hW28
   refine sT 2 hW28 rfl rfl infFault rfl rfl rfl ?_
   clear hW28;intro w29 hW29
   refine St.nil fun a30 h30=>?_
   refine hK26 _ _ ?_
   refine wp_ret ?_;with_reducible repeat first | refine of_then_ret ?_ | refine of_block_ret ?_
   have RC:y.code' x bi=1:=if_pos (by omega)
   have EF:=MBlock.fault_eq m.length fi x bi y
   rw [RC,if_neg (by omega)] at EF
   exact ret_box 2 h30 hW29 rfl rfl rfl Tryz.underlying27 rfl infFault ⟨by show Ending.returned (.agg #[.int .i64 1,.int .i64 (10000 * (fi:Int)+100 * (bi:Int)+90)])=_;rw [EF],hW29.bel⟩
  have hc31:¬ (16 < y.regs):=of_decide_eq_false hb
  clear hb
  refine wp_skip ?_
  refine hK13 _ _ ?_
  refine wp_seq_k fun K32 hK32=>?_
  refine wp_seq_k fun K33 hK33=>?_
  refine rg h24 fun ops=>?_;clear h24 a24
  refine sfBlock1 trivial rfl rfl ?_
  refine sbTypes 0 hW11 trivial rfl rfl rfl rfl ?_
  refine sfBlock0 trivial rfl rfl ?_
  refine sbInt 0 hW11 trivial rfl rfl rfl rfl ?_
  refine sc_2 cf30 hW11 (listForm_any (regs:=y.regs) (Lay.below In2.out.params hW11.bel) hs2.out.2.1) trivial rfl rfl rfl ?_
  clear hW11;intro w34 hW34
  refine sa trivial rfl rfl ?_
  refine St.nil fun a35 h35=>?_
  refine hK33 _ _ ?_
  refine wp_seq_k fun K36 hK36=>?_
  refine rg h35 fun ops=>?_;clear h35 a35
  refine sm trivial rfl rfl ?_
  refine sne trivial rfl rfl rfl ?_
  refine St.nil fun a37 h37=>?_
  refine hK36 _ _ ?_
  refine fr_cond (t:=43) h37 rfl (fun hb=>?_) (fun hb=>?_)
  ·have h9:¬ (listC y.regs y.params)=0:=bne_iff_ne.1 hb
   have hc38:¬ (listC y.regs y.params)=0:=h9
   clear h9
   clear hb
   refine wp_seq_k fun K39 hK39=>?_
   refine rg h37 fun ops=>?_;clear h37 a37
   refine sm trivial rfl rfl ?_
   refine sm trivial rfl rfl ?_
   refine sm trivial rfl rfl ?_
   refine sc_2 cf55 hW34 (atBlock_any (f:=fi) (b:=bi) ⟨by omega,by omega⟩) trivial rfl rfl rfl ?_
   clear hW34;intro w40 hW40
   refine sc_2 cf28 hW40 (fF_any (xc:=listC y.regs y.params) (xp:=10000 * (fi:Int)+100 * (bi:Int)+90)) trivial rfl rfl rfl ?_
   clear hW40;intro w41 hW41
   refine sT 2 hW41 rfl rfl infFault rfl rfl rfl ?_
   clear hW41;intro w42 hW42
   refine St.nil fun a43 h43=>?_
   refine hK39 _ _ ?_
   refine wp_ret ?_;with_reducible repeat first | refine of_then_ret ?_ | refine of_block_ret ?_
   have RC:y.code' x bi=listC y.regs y.params:=(if_neg (by omega)).trans (if_pos (by omega))
   have EF:=MBlock.fault_eq m.length fi x bi y
   rw [RC,if_neg (by omega)] at EF
   exact ret_box 2 h43 hW42 rfl rfl rfl Tryz.underlying27 rfl infFault ⟨by show Ending.returned (.agg #[.int .i64 (listC y.regs y.params),.int .i64 (10000 * (fi:Int)+100 * (bi:Int)+90)])=_;rw [EF],hW42.bel⟩
  have h9:(listC y.regs y.params)=0:=bne_eq_false_iff_eq.1 hb
  have hc44:Hid ((listC y.regs y.params)=0):=h9
  clear h9
  clear hb
  refine wp_skip ?_
  refine hK32 _ _ ?_
  refine wp_seq_k fun K45 hK45=>?_
  refine wp_seq_k fun K46 hK46=>?_
  refine fr_region ?_
  intro ops hops
  have hg2:(ops[2]?).bind (fun o:Oper=>o.dst)=some 51:=hops 2
  have hg8:(ops[8]?).bind (fun o:Oper=>o.dst)=some 57:=hops 8
  clear hops
  refine St.go h37 ?_;clear h37 a37
  refine sm trivial rfl rfl ?_
  refine seq trivial rfl rfl rfl ?_
  refine sm trivial rfl rfl ?_
  intro a47 h47
  rcases Bool.eq_false_or_eq_true ((bi:Int) == 0) with hb | hb
  ·rw [hb] at h47
   have h9:bi=0:=by have h8:=eq_of_beq hb;omega
   have hc48:Hid (bi=0):=h9
   clear h9
   clear hb
   refine St.go h47 ?_;clear h47 a47
   refine sfBlock0 ⟨_,hg2,rfl,rfl⟩ rfl rfl ?_
   refine sbInt 0 hW34 ⟨_,hg2,rfl,rfl⟩ rfl rfl rfl rfl ?_
   refine sfFunc0 ⟨_,hg2,rfl,rfl⟩ rfl rfl ?_
   refine sbInt 1 hW34 ⟨_,hg2,rfl,rfl⟩ rfl rfl rfl rfl ?_
   refine sne ⟨_,hg2,rfl,rfl⟩ rfl rfl rfl ?_
   refine sm ⟨_,hg2,rfl,rfl⟩ rfl rfl ?_
   intro a49 h49
   rcases Bool.eq_false_or_eq_true (y.regs != x.regs) with hb | hb
   ·rw [hb] at h49
    have h9:¬ y.regs=x.regs:=bne_iff_ne.1 hb
    have hc50:¬ y.regs=x.regs:=h9
    clear h9
    clear hb
    refine St.go h49 ?_;clear h49 a49
    refine so hg8 rfl rfl rfl rfl ?_
    refine so hg8 rfl rfl rfl rfl ?_
    refine so hg8 rfl rfl rfl rfl ?_
    refine so hg8 rfl rfl rfl rfl ?_
    refine so hg8 rfl rfl rfl rfl ?_
    refine so hg8 rfl rfl rfl rfl ?_
    refine sp ⟨_,hg2,rfl,rfl⟩ rfl rfl rfl ?_
    refine sp trivial rfl rfl rfl ?_
    refine St.nil fun a51 h51=>?_
    refine hK46 _ _ ?_
    refine fr_true (t:=65) h51 rfl ?_
    refine wp_seq_k fun K52 hK52=>?_
    refine rg h51 fun ops=>?_;clear h51 a51
    refine sm trivial rfl rfl ?_
    refine sm trivial rfl rfl ?_
    refine sc_2 cf55 hW34 (atBlock_any (f:=fi) (b:=bi) ⟨by omega,by omega⟩) trivial rfl rfl rfl ?_
    clear hW34;intro w53 hW53
    refine sc_2 cf28 hW53 (fF_any (xc:=9) (xp:=10000 * (fi:Int)+100 * (bi:Int)+90)) trivial rfl rfl rfl ?_
    clear hW53;intro w54 hW54
    refine sT 2 hW54 rfl rfl infFault rfl rfl rfl ?_
    clear hW54;intro w55 hW55
    refine St.nil fun a56 h56=>?_
    refine hK52 _ _ ?_
    refine wp_ret ?_;with_reducible repeat first | refine of_then_ret ?_ | refine of_block_ret ?_
    have:=hc44.out
    have:=hc48.out
    have RC:y.code' x bi=9:=(if_neg (by omega)).trans ((if_neg (by omega)).trans (if_pos (⟨by omega,.inl (by omega)⟩)))
    have EF:=MBlock.fault_eq m.length fi x bi y
    rw [RC,if_neg (by omega)] at EF
    exact ret_box 2 h56 hW55 rfl rfl rfl Tryz.underlying27 rfl infFault ⟨by show Ending.returned (.agg #[.int .i64 9,.int .i64 (10000 * (fi:Int)+100 * (bi:Int)+90)])=_;rw [EF],hW55.bel⟩
   rw [hb] at h49
   have h9:y.regs=x.regs:=bne_eq_false_iff_eq.1 hb
   have hc57:Hid (y.regs=x.regs):=h9
   clear h9
   clear hb
   refine St.go h49 ?_;clear h49 a49
   refine sfBlock1 ⟨_,hg8,rfl,rfl⟩ rfl rfl ?_
   refine sbTypes 0 hW34 ⟨_,hg8,rfl,rfl⟩ rfl rfl rfl rfl ?_
   refine sfFunc1 ⟨_,hg8,rfl,rfl⟩ rfl rfl ?_
   refine sbTypes 1 hW34 ⟨_,hg8,rfl,rfl⟩ rfl rfl rfl rfl ?_
   refine sc_2 cf25 hW34 (sameTypes_any (Lay.below In2.out.params hW34.bel) (Lay.below In1.out.params hW34.bel) hs2.out.2.1) ⟨_,hg8,rfl,rfl⟩ rfl rfl rfl ?_
   clear hW34;intro w58 hW58
   refine sn ⟨_,hg8,rfl,rfl⟩ rfl rfl ?_
   refine spf ⟨_,hg2,rfl,rfl⟩ rfl rfl rfl ?_
   refine sp trivial rfl rfl rfl ?_
   refine St.nil fun a59 h59=>?_
   refine hK46 _ _ ?_
   refine fr_cond (t:=65) h59 rfl (fun hb=>?_) (fun hb=>?_)
   ·have hb:(bdec (y.params=x.params))=false:=by simpa using hb
    have hc60:¬ (y.params=x.params):=fun h=>by rw [bdec_true h] at hb;cases hb
    clear hb
    refine wp_seq_k fun K61 hK61=>?_
    refine rg h59 fun ops=>?_;clear h59 a59
    refine sm trivial rfl rfl ?_
    refine sm trivial rfl rfl ?_
    refine sc_2 cf55 hW58 (atBlock_any (f:=fi) (b:=bi) ⟨by omega,by omega⟩) trivial rfl rfl rfl ?_
    clear hW58;intro w62 hW62
    refine sc_2 cf28 hW62 (fF_any (xc:=9) (xp:=10000 * (fi:Int)+100 * (bi:Int)+90)) trivial rfl rfl rfl ?_
    clear hW62;intro w63 hW63
    refine sT 2 hW63 rfl rfl infFault rfl rfl rfl ?_
    clear hW63;intro w64 hW64
    refine St.nil fun a65 h65=>?_
    refine hK61 _ _ ?_
    refine wp_ret ?_;with_reducible repeat first | refine of_then_ret ?_ | refine of_block_ret ?_
    have:=hc44.out
    have:=hc48.out
    have:=hc57.out
    have RC:y.code' x bi=9:=(if_neg (by omega)).trans ((if_neg (by omega)).trans (if_pos (⟨by omega,takes_no (fun h9=>hc60 h9.2)⟩)))
    have EF:=MBlock.fault_eq m.length fi x bi y
    rw [RC,if_neg (by omega)] at EF
    exact ret_box 2 h65 hW64 rfl rfl rfl Tryz.underlying27 rfl infFault ⟨by show Ending.returned (.agg #[.int .i64 9,.int .i64 (10000 * (fi:Int)+100 * (bi:Int)+90)])=_;rw [EF],hW64.bel⟩
   have hb:(bdec (y.params=x.params))=true:=by simpa using hb
   have hc66:(y.params=x.params):=bdec_iff.1 hb
   clear hb
   refine wp_skip ?_
   refine hK45 _ _ ?_
   refine wp_seq_k fun K67 hK67=>?_
   refine wp_seq_k fun K68 hK68=>?_
   refine rg h59 fun ops=>?_;clear h59 a59
   refine sfBlock2 trivial rfl rfl ?_
   refine sbInss 0 hW58 trivial rfl rfl rfl rfl ?_
   refine slInss trivial rfl rfl ?_
   refine sgt trivial rfl rfl rfl ?_
   refine St.nil fun a69 h69=>?_
   refine hK68 _ _ ?_
   refine fr_cond (t:=73) h69 rfl (fun hb=>?_) (fun hb=>?_)
   ·have hc70:40 < y.code.length:=by have:=of_decide_eq_true hb;omega
    clear hb
    refine wp_seq_k fun K71 hK71=>?_
    refine rg h69 fun ops=>?_;clear h69 a69
    refine sm trivial rfl rfl ?_
    refine sm trivial rfl rfl ?_
    refine sc_2 cf55 hW58 (atBlock_any (f:=fi) (b:=bi) ⟨by omega,by omega⟩) trivial rfl rfl rfl ?_
    clear hW58;intro w72 hW72
    refine sc_2 cf28 hW72 (fF_any (xc:=2) (xp:=10000 * (fi:Int)+100 * (bi:Int)+90)) trivial rfl rfl rfl ?_
    clear hW72;intro w73 hW73
    refine sT 2 hW73 rfl rfl infFault rfl rfl rfl ?_
    clear hW73;intro w74 hW74
    refine St.nil fun a75 h75=>?_
    refine hK71 _ _ ?_
    refine wp_ret ?_;with_reducible repeat first | refine of_then_ret ?_ | refine of_block_ret ?_
    have:=hc44.out
    have:=hc48.out
    have:=hc57.out
    have RC:y.code' x bi=2:=(if_neg (by omega)).trans ((if_neg (by omega)).trans ((if_neg (fun h9=>takes_yes ⟨by omega,hc66⟩ h9.2)).trans (if_pos (by omega))))
    have EF:=MBlock.fault_eq m.length fi x bi y
    rw [RC,if_neg (by omega)] at EF
    exact ret_box 2 h75 hW74 rfl rfl rfl Tryz.underlying27 rfl infFault ⟨by show Ending.returned (.agg #[.int .i64 2,.int .i64 (10000 * (fi:Int)+100 * (bi:Int)+90)])=_;rw [EF],hW74.bel⟩
   have hc76:¬ (40 < y.code.length):=by have:=of_decide_eq_false hb;omega
   clear hb
   refine wp_skip ?_
   refine hK67 _ _ ?_
   refine wp_seq_k fun K77 hK77=>?_
   refine wp_seq_k fun K78 hK78=>?_
   refine rg h69 fun ops=>?_;clear h69 a69
   refine sa trivial rfl rfl ?_
   refine St.nil fun a79 h79=>?_
   refine hK78 _ _ ?_
   refine wp_block ?_
   refine fr_loop (fun r a w'=>∃ q:Nat,q≤y.code.length∧r=y.code.length - q∧(∀ (j:Nat) z,j < q→y.code[j]?=some z→MIns.form m.length z=0)∧Fr 112 a [(2,.int .i64 (bi:Int)),(1,.int .i64 (fi:Int)),(0,.agg #[.slice p m.length c]),(3,.pointer (some ⟨B2,0,none⟩)),(6,.pointer (some ⟨B3,0,none⟩)),(7,.pointer (some ⟨B6,0,none⟩)),(8,.pointer (some ⟨B10,0,none⟩)),(9,.int .i64 (listC y.regs y.params)),(10,.int .i64 (q:Int))]∧Wd w w' [(B10,#[.int .i64 y.regs,.slice b2.pP y.params.length b2.cP,.slice b2.pC y.code.length b2.cC,.int .i64 y.fin.op,.int .i64 y.fin.a,.int .i64 y.fin.yes.block,.slice b2.e.pYR y.fin.yes.regs.length b2.e.cYR,.slice b2.e.pYA y.fin.yes.args.length b2.e.cYA,.int .i64 y.fin.no.block,.slice b2.e.pNR y.fin.no.regs.length b2.e.cNR,.slice b2.e.pNA y.fin.no.args.length b2.e.cNA,.slice b2.e.pA y.fin.args.length b2.e.cA],48),(B6,#[.int .i64 x.regs,.slice f1.pP x.params.length f1.cP,.slice f1.pR x.results.length f1.cR,.slice f1.pB x.blocks.length f1.cB],38),(B3,#[.int .i64 0,.int .i64 0],27),(B2,#[.slice p m.length c],25)]) (y.code.length) ⟨0,Nat.zero_le _,rfl,(fun j z hj=>by omega),(h79.keep (h79.keep (h79.keep (h79.keep (h79.keep (h79.keep (h79.keep (h79.keep (h79.keep h79.nil (t:=10) rfl) (t:=9) rfl) (t:=8) rfl) (t:=7) rfl) (t:=6) rfl) (t:=3) rfl) (t:=0) rfl) (t:=1) rfl) (t:=2) rfl),hW58⟩ ?_
   clear h79 hW58
   rintro r3 a80 w80 ⟨q,hq3,hr3,hall3,hF80,hW80⟩ KL3 hKL3
   refine wp_seq_k fun K81 hK81=>?_
   refine wp_seq_k fun K82 hK82=>?_
   refine rg hF80 fun ops=>?_;clear hF80 a80
   refine sm trivial rfl rfl ?_
   refine sfBlock2 trivial rfl rfl ?_
   refine sbInss 0 hW80 trivial rfl rfl rfl rfl ?_
   refine slInss trivial rfl rfl ?_
   refine slt trivial rfl rfl rfl ?_
   refine St.nil fun a83 h83=>?_
   refine hK82 _ _ ?_
   refine fr_cond (t:=82) h83 rfl (fun hb=>?_) (fun hb=>?_)
   ·have hlt3:q < y.code.length:=by have:=of_decide_eq_true hb;omega
    clear hb
    obtain ⟨z,hx3⟩:∃ v9,(y.code)[q]?=some v9:=⟨_,List.getElem?_eq_getElem hlt3⟩
    obtain ⟨g3,o3,i3,hp3,E3,In3⟩:=ins_at In2.out.code hx3
    replace In3:Hid _:=In3
    replace hp3:Hid _:=hp3
    replace hx3:Hid _:=hx3
    replace E3:Hid _:=E3
    refine wp_skip ?_
    refine hK81 _ _ ?_
    refine wp_seq_k fun K84 hK84=>?_
    refine wp_block ?_
    refine wp_seq_k fun K85 hK85=>?_
    have hF86:Fr 112 a83 [(2,.int .i64 (bi:Int)),(1,.int .i64 (fi:Int)),(0,.agg #[.slice p m.length c]),(3,.pointer (some ⟨B2,0,none⟩)),(6,.pointer (some ⟨B3,0,none⟩)),(7,.pointer (some ⟨B6,0,none⟩)),(8,.pointer (some ⟨B10,0,none⟩)),(9,.int .i64 (listC y.regs y.params)),(10,.int .i64 (q:Int))]:=(h83.keep (h83.keep (h83.keep (h83.keep (h83.keep (h83.keep (h83.keep (h83.keep (h83.keep h83.nil (t:=10) rfl) (t:=9) rfl) (t:=8) rfl) (t:=7) rfl) (t:=6) rfl) (t:=3) rfl) (t:=0) rfl) (t:=1) rfl) (t:=2) rfl)
    have ho3:a83.tmps.getD 3 undef=.pointer (some ⟨B2,0,none⟩):=h83.sl 3 _ rfl
    have ho8:a83.tmps.getD 8 undef=.pointer (some ⟨B10,0,none⟩):=h83.sl 8 _ rfl
    have ho10:a83.tmps.getD 10 undef=.int .i64 (q:Int):=h83.sl 10 _ rfl
    refine fr_draw_k 8 ([(3,fun v _=>v=.pointer (some ⟨B2,0,none⟩)),(8,fun v _=>v=.pointer (some ⟨B10,0,none⟩)),(10,fun v _=>v=.int .i64 (q:Int)),(85,fun v _=>v=.agg #[.slice p m.length c]),(86,fun v _=>v=.pointer (some ⟨B10,2,none⟩)),(87,fun v _=>v=.slice b2.pC y.code.length b2.cC),(88,fun v _=>v=.int .i64 (q:Int)),(89,fun v _=>v=.pointer (some ⟨g3,o3+q * 8,none⟩)),(90,fun v _=>v=.agg #[.int .i64 z.op,.int .i64 z.a,.int .i64 z.b,.int .i64 z.c,.int .i64 z.k,.int .i64 z.n,.slice i3.pR z.regs.length i3.cR,.slice i3.pA z.args.length i3.cA]),(91,fun v _=>v=.int .i64 (MIns.form m.length z)),(11,fun v _=>v=.int .i64 (MIns.form m.length z))]:PTab) (fun w'=>Wd w w' [(B10,#[.int .i64 y.regs,.slice b2.pP y.params.length b2.cP,.slice b2.pC y.code.length b2.cC,.int .i64 y.fin.op,.int .i64 y.fin.a,.int .i64 y.fin.yes.block,.slice b2.e.pYR y.fin.yes.regs.length b2.e.cYR,.slice b2.e.pYA y.fin.yes.args.length b2.e.cYA,.int .i64 y.fin.no.block,.slice b2.e.pNR y.fin.no.regs.length b2.e.cNR,.slice b2.e.pNA y.fin.no.args.length b2.e.cNA,.slice b2.e.pA y.fin.args.length b2.e.cA],48),(B6,#[.int .i64 x.regs,.slice f1.pP x.params.length f1.cP,.slice f1.pR x.results.length f1.cR,.slice f1.pB x.blocks.length f1.cB],38),(B3,#[.int .i64 0,.int .i64 0],27),(B2,#[.slice p m.length c],25)]∧Below w80.heap.size w80 w') (fun w w'=>Below w.heap.size w w') (outs:=[3,8,10]) (gs:=[]) (bs:=[true,true,true,true,true,true,true,true]) (by kernel_rfl) hF86 rfl (by kernel_rfl) (by kernel_rfl) ?hR ?hG ⟨hW80.drewN 1,drewN_below (m:=1) (Below.refl _ _)⟩ ⟨ho3,ho8,ho10,trivial⟩ ?hA ?hend
    case hR=>exact ⟨fun _ _ _ _ h=>h,fun _ _ _ _ h=>h,fun _ _ _ _ h=>h,fun _ _ _ _ h=>h,fun _ _ _ _ h=>h,fun _ _ _ _ h=>h,fun _ _ _ _ h=>h,fun _ _ _ _ h=>h,fun _ _ _ _ h=>h,fun _ _ _ _ h=>h,fun _ _ _ _ h=>h,trivial⟩
    case hG=>exact trivial
    case hA =>
     refine ⟨fun a w hW hk K hK=>?_,?_⟩
     · obtain ⟨k0,-⟩:=hk
       have k0:a.tmps.getD 3 undef=.pointer (some ⟨B2,0,none⟩):=k0
       have c0:w.cell? ⟨B2,0,none⟩=some (.slice p m.length c):=cellOf (hW.1.get 3 rfl) 0 _ rfl
       go_simp
       exact hK _ _ (Below.refl _ _) hW rfl
     refine ⟨fun a w hW hk K hK=>?_,?_⟩
     · obtain ⟨k0,-⟩:=hk
       have k0:a.tmps.getD 8 undef=.pointer (some ⟨B10,0,none⟩):=k0
       go_simp
       exact hK _ _ (Below.refl _ _) hW rfl
     refine ⟨fun a w hW hk K hK=>?_,?_⟩
     · obtain ⟨k0,-⟩:=hk
       have k0:a.tmps.getD 86 undef=.pointer (some ⟨B10,2,none⟩):=k0
       have c2:w.cell? ⟨B10,2,none⟩=some (.slice b2.pC y.code.length b2.cC):=cellOf (hW.1.get 0 rfl) 2 _ rfl
       go_simp
       exact hK _ _ (Below.refl _ _) hW rfl
     refine ⟨fun a w hW hk K hK=>?_,?_⟩
     · obtain ⟨k0,-⟩:=hk
       have k0:a.tmps.getD 10 undef=.int .i64 (q:Int):=k0
       go_simp
       exact hK _ _ (Below.refl _ _) hW rfl
     refine ⟨fun a w hW hk K hK=>?_,?_⟩
     · obtain ⟨k0,k1,-⟩:=hk
       have k0:a.tmps.getD 87 undef=.slice b2.pC y.code.length b2.cC:=k0
       have k1:a.tmps.getD 88 undef=.int .i64 (q:Int):=k1
       have hpq:=hp3.out
       have hk0:(0:Int)≤q:=by omega
       have hk1:(q:Int) < (y.code.length:Int):=by omega
       go_simp
       exact hK _ _ (Below.refl _ _) hW rfl
     refine ⟨fun a w hW hk K hK=>?_,?_⟩
     · obtain ⟨k0,-⟩:=hk
       have k0:a.tmps.getD 89 undef=.pointer (some ⟨g3,o3+q * 8,none⟩):=k0
       have d0:w.cell? ⟨g3,o3+q * 8,none⟩=some (.int .i64 z.op):=bel_cell hW.1.bel (E3.out 0 _ rfl)
       have d1:w.cell? ⟨g3,o3+q * 8+1,none⟩=some (.int .i64 z.a):=bel_cell hW.1.bel (E3.out 1 _ rfl)
       have d2:w.cell? ⟨g3,o3+q * 8+2,none⟩=some (.int .i64 z.b):=bel_cell hW.1.bel (E3.out 2 _ rfl)
       have d3:w.cell? ⟨g3,o3+q * 8+3,none⟩=some (.int .i64 z.c):=bel_cell hW.1.bel (E3.out 3 _ rfl)
       have d4:w.cell? ⟨g3,o3+q * 8+4,none⟩=some (.int .i64 z.k):=bel_cell hW.1.bel (E3.out 4 _ rfl)
       have d5:w.cell? ⟨g3,o3+q * 8+5,none⟩=some (.int .i64 z.n):=bel_cell hW.1.bel (E3.out 5 _ rfl)
       have d6:w.cell? ⟨g3,o3+q * 8+6,none⟩=some (.slice i3.pR z.regs.length i3.cR):=bel_cell hW.1.bel (E3.out 6 _ rfl)
       have d7:w.cell? ⟨g3,o3+q * 8+7,none⟩=some (.slice i3.pA z.args.length i3.cA):=bel_cell hW.1.bel (E3.out 7 _ rfl)
       go_simp
       exact hK _ _ (Below.refl _ _) hW rfl
     refine ⟨fun a w hW hk K hK=>?_,?_⟩
     · obtain ⟨k0,k1,-⟩:=hk
       have k0:a.tmps.getD 85 undef=.agg #[.slice p m.length c]:=k0
       have k1:a.tmps.getD 90 undef=.agg #[.int .i64 z.op,.int .i64 z.a,.int .i64 z.b,.int .i64 z.c,.int .i64 z.k,.int .i64 z.n,.slice i3.pR z.regs.length i3.cR,.slice i3.pA z.args.length i3.cA]:=k1
       have hC:Rd Tryz.prog 56 #[.agg #[.slice p m.length c],.agg #[.int .i64 z.op,.int .i64 z.a,.int .i64 z.b,.int .i64 z.c,.int .i64 z.k,.int .i64 z.n,.slice i3.pR z.regs.length i3.cR,.slice i3.pA z.args.length i3.cA]] w (.int .i64 (MIns.form m.length z)):=insForm_any m.length z i3 p c w
       go_simp
       refine hC.mono ?_
       rintro e w9 ⟨rfl,hb⟩
       exact hK _ _ hb ⟨hW.1.below hb,Below.andThen hW.2 hb⟩ rfl
     refine ⟨fun a w hW hk K hK=>?_,?_⟩
     · obtain ⟨k0,-⟩:=hk
       have k0:a.tmps.getD 91 undef=.int .i64 (MIns.form m.length z):=k0
       go_simp
       exact hK _ _ (Below.refl _ _) hW rfl
     trivial
    case hend =>
     intro ops a87 w87 hWD hE hFD
     have hd11:a87.tmps.getD 11 undef=.int .i64 (MIns.form m.length z):=hE 11 rfl
     have hF87:Fr 112 a87 [(11,.int .i64 (MIns.form m.length z)),(2,.int .i64 (bi:Int)),(1,.int .i64 (fi:Int)),(0,.agg #[.slice p m.length c]),(3,.pointer (some ⟨B2,0,none⟩)),(6,.pointer (some ⟨B3,0,none⟩)),(7,.pointer (some ⟨B6,0,none⟩)),(8,.pointer (some ⟨B10,0,none⟩)),(9,.int .i64 (listC y.regs y.params)),(10,.int .i64 (q:Int))]:=(hFD.cons hd11)
     clear hd11
     have hW87:Wd w w87 [(B10,#[.int .i64 y.regs,.slice b2.pP y.params.length b2.cP,.slice b2.pC y.code.length b2.cC,.int .i64 y.fin.op,.int .i64 y.fin.a,.int .i64 y.fin.yes.block,.slice b2.e.pYR y.fin.yes.regs.length b2.e.cYR,.slice b2.e.pYA y.fin.yes.args.length b2.e.cYA,.int .i64 y.fin.no.block,.slice b2.e.pNR y.fin.no.regs.length b2.e.cNR,.slice b2.e.pNA y.fin.no.args.length b2.e.cNA,.slice b2.e.pA y.fin.args.length b2.e.cA],48),(B6,#[.int .i64 x.regs,.slice f1.pP x.params.length f1.cP,.slice f1.pR x.results.length f1.cR,.slice f1.pB x.blocks.length f1.cB],38),(B3,#[.int .i64 0,.int .i64 0],27),(B2,#[.slice p m.length c],25)]:=hWD.1
     clear hFD hWD hE hF86 h83
     clear hW80
     refine wpList_nil ?_
     refine hK85 _ _ ?_
     refine wp_seq_k fun K88 hK88=>?_
     refine rg hF87 fun ops=>?_;clear hF87 a87
     refine sm trivial rfl rfl ?_
     refine sne trivial rfl rfl rfl ?_
     refine St.nil fun a89 h89=>?_
     refine hK88 _ _ ?_
     refine fr_cond (t:=93) h89 rfl (fun hb=>?_) (fun hb=>?_)
     ·have h9:¬ (MIns.form m.length z)=0:=bne_iff_ne.1 hb
      have hc90:¬ (MIns.form m.length z)=0:=h9
      clear h9
      clear hb
      refine wp_seq_k fun K91 hK91=>?_
      refine rg h89 fun ops=>?_;clear h89 a89
      refine sm trivial rfl rfl ?_
      refine sm trivial rfl rfl ?_
      refine sm trivial rfl rfl ?_
      refine sm trivial rfl rfl ?_
      refine sc_3 cf57 hW87 (atIns_any (f:=fi) (b:=bi) (i:=q) ⟨by omega,by omega,by omega⟩) trivial rfl rfl rfl rfl ?_
      clear hW87;intro w92 hW92
      refine sc_2 cf28 hW92 (fF_any (xc:=MIns.form m.length z) (xp:=10000 * (fi:Int)+100 * (bi:Int)+(q:Int))) trivial rfl rfl rfl ?_
      clear hW92;intro w93 hW93
      refine sT 2 hW93 rfl rfl infFault rfl rfl rfl ?_
      clear hW93;intro w94 hW94
      refine St.nil fun a95 h95=>?_
      refine hK91 _ _ ?_
      refine wp_ret ?_;with_reducible repeat first | refine of_then_ret ?_ | refine of_block_ret ?_
      have:=hc44.out
      have:=hc48.out
      have:=hc57.out
      have RC:y.code' x bi=0:=(if_neg (by omega)).trans ((if_neg (by omega)).trans ((if_neg (fun h9=>takes_yes ⟨by omega,hc66⟩ h9.2)).trans ((if_neg (by omega)).trans (rfl))))
      have EF:=MBlock.fault_eq m.length fi x bi y
      rw [if_pos RC] at EF
      have RI:firstF (fun i z=>(MIns.form m.length z,(10000 * fi+100 * bi+i:Int))) 0 y.code=(MIns.form m.length z,(10000 * fi+100 * bi+q:Int)):=by
        have h9:=firstF_eq (f:=fun i z=>(MIns.form m.length z,(10000 * fi+100 * bi+i:Int))) (j:=0) hx3.out (fun k z hk hz=>hall3 k z hk hz) hc90
        rwa [Nat.zero_add] at h9
      rw [RI,if_neg hc90] at EF
      exact ret_box 2 h95 hW94 rfl rfl rfl Tryz.underlying27 rfl infFault ⟨by show Ending.returned (.agg #[.int .i64 (MIns.form m.length z),.int .i64 (10000 * (fi:Int)+100 * (bi:Int)+(q:Int))])=_;rw [EF],hW94.bel⟩
     have h9:(MIns.form m.length z)=0:=bne_eq_false_iff_eq.1 hb
     have hc96:Hid ((MIns.form m.length z)=0):=h9
     clear h9
     clear hb
     refine wp_skip ?_
     refine hK84 _ _ ?_
     refine rg h89 fun ops=>?_;clear h89 a89
     refine sm trivial rfl rfl ?_
     refine sad (by omega) trivial rfl rfl rfl ?_
     refine sa trivial rfl rfl ?_
     refine St.nil fun a97 h97=>?_
     refine hKL3 _ _ (y.code.length - (q+1)) (by omega) ⟨q+1,by omega,rfl,?_,(h97.keep (h97.keep (h97.keep (h97.keep (h97.keep (h97.keep (h97.keep (h97.keep (h97.keep h97.nil (t:=10) rfl) (t:=9) rfl) (t:=8) rfl) (t:=7) rfl) (t:=6) rfl) (t:=3) rfl) (t:=0) rfl) (t:=1) rfl) (t:=2) rfl),hW87⟩
     ·intro j z hj hz
      by_cases e:j=q
      · subst e;rw [hx3.out] at hz;cases hz;exact hc96.out
      · exact hall3 j z (by omega) hz
   have hge3:q=y.code.length:=by have:=of_decide_eq_false hb;omega
   clear hb
   refine wp_exit ?_
   refine hK77 _ _ ?_
   refine wp_seq_k fun K98 hK98=>?_
   refine wp_seq_k fun K99 hK99=>?_
   refine rg h83 fun ops=>?_;clear h83 a83
   refine sS 1 4 Tryz.underlying38 rfl infFunc hW80 trivial rfl rfl rfl rfl ?_
   refine sfBlock3 trivial rfl rfl ?_
   refine sS 0 9 Tryz.underlying46 rfl infEnd hW80 trivial rfl rfl rfl rfl ?_
   refine sc_2 cf58 hW80 (endForm_any (x:=y.fin) (e:=b2.e) (fr:=x.regs) (fp:=f1.pP) (fl:=x.params.length) (fc:=f1.cP) (fq:=f1.pR) (fm:=x.results.length) (fd:=f1.cR) (fb:=f1.pB) (bl:=x.blocks.length) (fe:=f1.cB) (by have:=hs2.out.2.2.1;exact ⟨by have:=this.1.1;omega,by have:=this.1.2;omega,by have:=this.2.1.1;omega,by have:=this.2.1.2;omega⟩) (by have:=hs1.out.1;omega)) trivial rfl rfl rfl ?_
   clear hW80;intro w100 hW100
   refine sa trivial rfl rfl ?_
   refine St.nil fun a101 h101=>?_
   refine hK99 _ _ ?_
   refine wp_seq_k fun K102 hK102=>?_
   refine rg h101 fun ops=>?_;clear h101 a101
   refine sm trivial rfl rfl ?_
   refine sne trivial rfl rfl rfl ?_
   refine St.nil fun a103 h103=>?_
   refine hK102 _ _ ?_
   refine fr_cond (t:=105) h103 rfl (fun hb=>?_) (fun hb=>?_)
   ·have h9:¬ (y.fin.form x.blocks.length)=0:=bne_iff_ne.1 hb
    have hc104:¬ (y.fin.form x.blocks.length)=0:=h9
    clear h9
    clear hb
    refine wp_seq_k fun K105 hK105=>?_
    refine rg h103 fun ops=>?_;clear h103 a103
    refine sm trivial rfl rfl ?_
    refine sm trivial rfl rfl ?_
    refine sm trivial rfl rfl ?_
    refine sc_2 cf59 hW100 (atEnd_any (f:=fi) (b:=bi) ⟨by omega,by omega⟩) trivial rfl rfl rfl ?_
    clear hW100;intro w106 hW106
    refine sc_2 cf28 hW106 (fF_any (xc:=y.fin.form x.blocks.length) (xp:=10000 * (fi:Int)+100 * (bi:Int)+91)) trivial rfl rfl rfl ?_
    clear hW106;intro w107 hW107
    refine sT 2 hW107 rfl rfl infFault rfl rfl rfl ?_
    clear hW107;intro w108 hW108
    refine St.nil fun a109 h109=>?_
    refine hK105 _ _ ?_
    refine wp_ret ?_;with_reducible repeat first | refine of_then_ret ?_ | refine of_block_ret ?_
    have:=hc44.out
    have:=hc48.out
    have:=hc57.out
    have RC:y.code' x bi=0:=(if_neg (by omega)).trans ((if_neg (by omega)).trans ((if_neg (fun h9=>takes_yes ⟨by omega,hc66⟩ h9.2)).trans ((if_neg (by omega)).trans (rfl))))
    have EF:=MBlock.fault_eq m.length fi x bi y
    rw [if_pos RC] at EF
    have RI:firstF (fun i z=>(MIns.form m.length z,(10000 * fi+100 * bi+i:Int))) 0 y.code=(0,0):=firstF_zero (fun k z hz=>hall3 k z (by have:=(List.getElem?_eq_some_iff.1 hz).1;omega) hz)
    rw [RI,if_pos rfl] at EF
    exact ret_box 2 h109 hW108 rfl rfl rfl Tryz.underlying27 rfl infFault ⟨by show Ending.returned (.agg #[.int .i64 (y.fin.form x.blocks.length),.int .i64 (10000 * (fi:Int)+100 * (bi:Int)+91)])=_;rw [EF];simp [atF,hc104],hW108.bel⟩
   have h9:(y.fin.form x.blocks.length)=0:=bne_eq_false_iff_eq.1 hb
   have hc110:Hid ((y.fin.form x.blocks.length)=0):=h9
   clear h9
   clear hb
   refine wp_skip ?_
   refine hK98 _ _ ?_
   refine wp_seq_k fun K111 hK111=>?_
   refine rg h103 fun ops=>?_;clear h103 a103
   intro a112 h112
   refine fr_pure (t:=111) (v:=.agg #[.int .i64 0,.int .i64 0]) (w':=w100) h112 rfl rfl rfl (fun K hK=>?_) ?_
   ·go_simp
    exact hK
   clear h112;intro a113 hF113
   refine St.go hF113 ?_;clear hF113 a113
   refine sT 2 hW100 rfl rfl infFault rfl rfl rfl ?_
   clear hW100;intro w114 hW114
   refine St.nil fun a115 h115=>?_
   refine hK111 _ _ ?_
   refine wp_ret ?_;with_reducible repeat first | refine of_then_ret ?_ | refine of_block_ret ?_
   have:=hc44.out
   have:=hc48.out
   have:=hc57.out
   have:=hc110.out
   have RC:y.code' x bi=0:=(if_neg (by omega)).trans ((if_neg (by omega)).trans ((if_neg (fun h9=>takes_yes ⟨by omega,hc66⟩ h9.2)).trans ((if_neg (by omega)).trans (rfl))))
   have EF:=MBlock.fault_eq m.length fi x bi y
   rw [if_pos RC] at EF
   have RI:firstF (fun i z=>(MIns.form m.length z,(10000 * fi+100 * bi+i:Int))) 0 y.code=(0,0):=firstF_zero (fun k z hz=>hall3 k z (by have:=(List.getElem?_eq_some_iff.1 hz).1;omega) hz)
   rw [RI,if_pos rfl] at EF
   exact ret_box 2 h115 hW114 rfl rfl rfl Tryz.underlying27 rfl infFault ⟨by show Ending.returned (.agg #[.int .i64 0,.int .i64 0])=_;rw [EF];simp [atF,hc110.out],hW114.bel⟩
  rw [hb] at h47
  have h9:¬ bi=0:=by have h8:=ne_of_beq_false hb;omega
  have hc116:¬ bi=0:=h9
  clear h9
  clear hb
  refine St.go h47 ?_;clear h47 a47
  refine so hg2 rfl rfl rfl rfl ?_
  refine so hg2 rfl rfl rfl rfl ?_
  refine so hg2 rfl rfl rfl rfl ?_
  refine so hg2 rfl rfl rfl rfl ?_
  refine so hg2 rfl rfl rfl rfl ?_
  refine so hg2 rfl rfl rfl rfl ?_
  refine so hg8 rfl rfl rfl rfl ?_
  refine so hg8 rfl rfl rfl rfl ?_
  refine so hg8 rfl rfl rfl rfl ?_
  refine so hg8 rfl rfl rfl rfl ?_
  refine so hg8 rfl rfl rfl rfl ?_
  refine so hg8 rfl rfl rfl rfl ?_
  refine so hg2 rfl rfl rfl rfl ?_
  refine spf trivial rfl rfl rfl ?_
  refine St.nil fun a117 h117=>?_
  refine hK46 _ _ ?_
  refine fr_false (t:=65) h117 rfl ?_
  refine wp_skip ?_
  refine hK45 _ _ ?_
  refine wp_seq_k fun K118 hK118=>?_
  refine wp_seq_k fun K119 hK119=>?_
  refine rg h117 fun ops=>?_;clear h117 a117
  refine sfBlock2 trivial rfl rfl ?_
  refine sbInss 0 hW34 trivial rfl rfl rfl rfl ?_
  refine slInss trivial rfl rfl ?_
  refine sgt trivial rfl rfl rfl ?_
  refine St.nil fun a120 h120=>?_
  refine hK119 _ _ ?_
  refine fr_cond (t:=73) h120 rfl (fun hb=>?_) (fun hb=>?_)
  ·have hc121:40 < y.code.length:=by have:=of_decide_eq_true hb;omega
   clear hb
   refine wp_seq_k fun K122 hK122=>?_
   refine rg h120 fun ops=>?_;clear h120 a120
   refine sm trivial rfl rfl ?_
   refine sm trivial rfl rfl ?_
   refine sc_2 cf55 hW34 (atBlock_any (f:=fi) (b:=bi) ⟨by omega,by omega⟩) trivial rfl rfl rfl ?_
   clear hW34;intro w123 hW123
   refine sc_2 cf28 hW123 (fF_any (xc:=2) (xp:=10000 * (fi:Int)+100 * (bi:Int)+90)) trivial rfl rfl rfl ?_
   clear hW123;intro w124 hW124
   refine sT 2 hW124 rfl rfl infFault rfl rfl rfl ?_
   clear hW124;intro w125 hW125
   refine St.nil fun a126 h126=>?_
   refine hK122 _ _ ?_
   refine wp_ret ?_;with_reducible repeat first | refine of_then_ret ?_ | refine of_block_ret ?_
   have:=hc44.out
   have RC:y.code' x bi=2:=(if_neg (by omega)).trans ((if_neg (by omega)).trans ((if_neg (by omega)).trans (if_pos (by omega))))
   have EF:=MBlock.fault_eq m.length fi x bi y
   rw [RC,if_neg (by omega)] at EF
   exact ret_box 2 h126 hW125 rfl rfl rfl Tryz.underlying27 rfl infFault ⟨by show Ending.returned (.agg #[.int .i64 2,.int .i64 (10000 * (fi:Int)+100 * (bi:Int)+90)])=_;rw [EF],hW125.bel⟩
  have hc127:¬ (40 < y.code.length):=by have:=of_decide_eq_false hb;omega
  clear hb
  refine wp_skip ?_
  refine hK118 _ _ ?_
  refine wp_seq_k fun K128 hK128=>?_
  refine wp_seq_k fun K129 hK129=>?_
  refine rg h120 fun ops=>?_;clear h120 a120
  refine sa trivial rfl rfl ?_
  refine St.nil fun a130 h130=>?_
  refine hK129 _ _ ?_
  refine wp_block ?_
  refine fr_loop (fun r a w'=>∃ q:Nat,q≤y.code.length∧r=y.code.length - q∧(∀ (j:Nat) z,j < q→y.code[j]?=some z→MIns.form m.length z=0)∧Fr 112 a [(2,.int .i64 (bi:Int)),(1,.int .i64 (fi:Int)),(0,.agg #[.slice p m.length c]),(3,.pointer (some ⟨B2,0,none⟩)),(6,.pointer (some ⟨B3,0,none⟩)),(7,.pointer (some ⟨B6,0,none⟩)),(8,.pointer (some ⟨B10,0,none⟩)),(9,.int .i64 (listC y.regs y.params)),(10,.int .i64 (q:Int))]∧Wd w w' [(B10,#[.int .i64 y.regs,.slice b2.pP y.params.length b2.cP,.slice b2.pC y.code.length b2.cC,.int .i64 y.fin.op,.int .i64 y.fin.a,.int .i64 y.fin.yes.block,.slice b2.e.pYR y.fin.yes.regs.length b2.e.cYR,.slice b2.e.pYA y.fin.yes.args.length b2.e.cYA,.int .i64 y.fin.no.block,.slice b2.e.pNR y.fin.no.regs.length b2.e.cNR,.slice b2.e.pNA y.fin.no.args.length b2.e.cNA,.slice b2.e.pA y.fin.args.length b2.e.cA],48),(B6,#[.int .i64 x.regs,.slice f1.pP x.params.length f1.cP,.slice f1.pR x.results.length f1.cR,.slice f1.pB x.blocks.length f1.cB],38),(B3,#[.int .i64 0,.int .i64 0],27),(B2,#[.slice p m.length c],25)]) (y.code.length) ⟨0,Nat.zero_le _,rfl,(fun j z hj=>by omega),(h130.keep (h130.keep (h130.keep (h130.keep (h130.keep (h130.keep (h130.keep (h130.keep (h130.keep h130.nil (t:=10) rfl) (t:=9) rfl) (t:=8) rfl) (t:=7) rfl) (t:=6) rfl) (t:=3) rfl) (t:=0) rfl) (t:=1) rfl) (t:=2) rfl),hW34⟩ ?_
  clear h130 hW34
  rintro r3 a131 w131 ⟨q,hq3,hr3,hall3,hF131,hW131⟩ KL3 hKL3
  refine wp_seq_k fun K132 hK132=>?_
  refine wp_seq_k fun K133 hK133=>?_
  refine rg hF131 fun ops=>?_;clear hF131 a131
  refine sm trivial rfl rfl ?_
  refine sfBlock2 trivial rfl rfl ?_
  refine sbInss 0 hW131 trivial rfl rfl rfl rfl ?_
  refine slInss trivial rfl rfl ?_
  refine slt trivial rfl rfl rfl ?_
  refine St.nil fun a134 h134=>?_
  refine hK133 _ _ ?_
  refine fr_cond (t:=82) h134 rfl (fun hb=>?_) (fun hb=>?_)
  ·have hlt3:q < y.code.length:=by have:=of_decide_eq_true hb;omega
   clear hb
   obtain ⟨z,hx3⟩:∃ v9,(y.code)[q]?=some v9:=⟨_,List.getElem?_eq_getElem hlt3⟩
   obtain ⟨g3,o3,i3,hp3,E3,In3⟩:=ins_at In2.out.code hx3
   replace In3:Hid _:=In3
   replace hp3:Hid _:=hp3
   replace hx3:Hid _:=hx3
   replace E3:Hid _:=E3
   refine wp_skip ?_
   refine hK132 _ _ ?_
   refine wp_seq_k fun K135 hK135=>?_
   refine wp_block ?_
   refine wp_seq_k fun K136 hK136=>?_
   have hF137:Fr 112 a134 [(2,.int .i64 (bi:Int)),(1,.int .i64 (fi:Int)),(0,.agg #[.slice p m.length c]),(3,.pointer (some ⟨B2,0,none⟩)),(6,.pointer (some ⟨B3,0,none⟩)),(7,.pointer (some ⟨B6,0,none⟩)),(8,.pointer (some ⟨B10,0,none⟩)),(9,.int .i64 (listC y.regs y.params)),(10,.int .i64 (q:Int))]:=(h134.keep (h134.keep (h134.keep (h134.keep (h134.keep (h134.keep (h134.keep (h134.keep (h134.keep h134.nil (t:=10) rfl) (t:=9) rfl) (t:=8) rfl) (t:=7) rfl) (t:=6) rfl) (t:=3) rfl) (t:=0) rfl) (t:=1) rfl) (t:=2) rfl)
   have ho3:a134.tmps.getD 3 undef=.pointer (some ⟨B2,0,none⟩):=h134.sl 3 _ rfl
   have ho8:a134.tmps.getD 8 undef=.pointer (some ⟨B10,0,none⟩):=h134.sl 8 _ rfl
   have ho10:a134.tmps.getD 10 undef=.int .i64 (q:Int):=h134.sl 10 _ rfl
   refine fr_draw_k 8 ([(3,fun v _=>v=.pointer (some ⟨B2,0,none⟩)),(8,fun v _=>v=.pointer (some ⟨B10,0,none⟩)),(10,fun v _=>v=.int .i64 (q:Int)),(85,fun v _=>v=.agg #[.slice p m.length c]),(86,fun v _=>v=.pointer (some ⟨B10,2,none⟩)),(87,fun v _=>v=.slice b2.pC y.code.length b2.cC),(88,fun v _=>v=.int .i64 (q:Int)),(89,fun v _=>v=.pointer (some ⟨g3,o3+q * 8,none⟩)),(90,fun v _=>v=.agg #[.int .i64 z.op,.int .i64 z.a,.int .i64 z.b,.int .i64 z.c,.int .i64 z.k,.int .i64 z.n,.slice i3.pR z.regs.length i3.cR,.slice i3.pA z.args.length i3.cA]),(91,fun v _=>v=.int .i64 (MIns.form m.length z)),(11,fun v _=>v=.int .i64 (MIns.form m.length z))]:PTab) (fun w'=>Wd w w' [(B10,#[.int .i64 y.regs,.slice b2.pP y.params.length b2.cP,.slice b2.pC y.code.length b2.cC,.int .i64 y.fin.op,.int .i64 y.fin.a,.int .i64 y.fin.yes.block,.slice b2.e.pYR y.fin.yes.regs.length b2.e.cYR,.slice b2.e.pYA y.fin.yes.args.length b2.e.cYA,.int .i64 y.fin.no.block,.slice b2.e.pNR y.fin.no.regs.length b2.e.cNR,.slice b2.e.pNA y.fin.no.args.length b2.e.cNA,.slice b2.e.pA y.fin.args.length b2.e.cA],48),(B6,#[.int .i64 x.regs,.slice f1.pP x.params.length f1.cP,.slice f1.pR x.results.length f1.cR,.slice f1.pB x.blocks.length f1.cB],38),(B3,#[.int .i64 0,.int .i64 0],27),(B2,#[.slice p m.length c],25)]∧Below w131.heap.size w131 w') (fun w w'=>Below w.heap.size w w') (outs:=[3,8,10]) (gs:=[]) (bs:=[true,true,true,true,true,true,true,true]) (by kernel_rfl) hF137 rfl (by kernel_rfl) (by kernel_rfl) ?hR ?hG ⟨hW131.drewN 1,drewN_below (m:=1) (Below.refl _ _)⟩ ⟨ho3,ho8,ho10,trivial⟩ ?hA ?hend
   case hR=>exact ⟨fun _ _ _ _ h=>h,fun _ _ _ _ h=>h,fun _ _ _ _ h=>h,fun _ _ _ _ h=>h,fun _ _ _ _ h=>h,fun _ _ _ _ h=>h,fun _ _ _ _ h=>h,fun _ _ _ _ h=>h,fun _ _ _ _ h=>h,fun _ _ _ _ h=>h,fun _ _ _ _ h=>h,trivial⟩
   case hG=>exact trivial
   case hA =>
    refine ⟨fun a w hW hk K hK=>?_,?_⟩
    · obtain ⟨k0,-⟩:=hk
      have k0:a.tmps.getD 3 undef=.pointer (some ⟨B2,0,none⟩):=k0
      have c0:w.cell? ⟨B2,0,none⟩=some (.slice p m.length c):=cellOf (hW.1.get 3 rfl) 0 _ rfl
      go_simp
      exact hK _ _ (Below.refl _ _) hW rfl
    refine ⟨fun a w hW hk K hK=>?_,?_⟩
    · obtain ⟨k0,-⟩:=hk
      have k0:a.tmps.getD 8 undef=.pointer (some ⟨B10,0,none⟩):=k0
      go_simp
      exact hK _ _ (Below.refl _ _) hW rfl
    refine ⟨fun a w hW hk K hK=>?_,?_⟩
    · obtain ⟨k0,-⟩:=hk
      have k0:a.tmps.getD 86 undef=.pointer (some ⟨B10,2,none⟩):=k0
      have c2:w.cell? ⟨B10,2,none⟩=some (.slice b2.pC y.code.length b2.cC):=cellOf (hW.1.get 0 rfl) 2 _ rfl
      go_simp
      exact hK _ _ (Below.refl _ _) hW rfl
    refine ⟨fun a w hW hk K hK=>?_,?_⟩
    · obtain ⟨k0,-⟩:=hk
      have k0:a.tmps.getD 10 undef=.int .i64 (q:Int):=k0
      go_simp
      exact hK _ _ (Below.refl _ _) hW rfl
    refine ⟨fun a w hW hk K hK=>?_,?_⟩
    · obtain ⟨k0,k1,-⟩:=hk
      have k0:a.tmps.getD 87 undef=.slice b2.pC y.code.length b2.cC:=k0
      have k1:a.tmps.getD 88 undef=.int .i64 (q:Int):=k1
      have hpq:=hp3.out
      have hk0:(0:Int)≤q:=by omega
      have hk1:(q:Int) < (y.code.length:Int):=by omega
      go_simp
      exact hK _ _ (Below.refl _ _) hW rfl
    refine ⟨fun a w hW hk K hK=>?_,?_⟩
    · obtain ⟨k0,-⟩:=hk
      have k0:a.tmps.getD 89 undef=.pointer (some ⟨g3,o3+q * 8,none⟩):=k0
      have d0:w.cell? ⟨g3,o3+q * 8,none⟩=some (.int .i64 z.op):=bel_cell hW.1.bel (E3.out 0 _ rfl)
      have d1:w.cell? ⟨g3,o3+q * 8+1,none⟩=some (.int .i64 z.a):=bel_cell hW.1.bel (E3.out 1 _ rfl)
      have d2:w.cell? ⟨g3,o3+q * 8+2,none⟩=some (.int .i64 z.b):=bel_cell hW.1.bel (E3.out 2 _ rfl)
      have d3:w.cell? ⟨g3,o3+q * 8+3,none⟩=some (.int .i64 z.c):=bel_cell hW.1.bel (E3.out 3 _ rfl)
      have d4:w.cell? ⟨g3,o3+q * 8+4,none⟩=some (.int .i64 z.k):=bel_cell hW.1.bel (E3.out 4 _ rfl)
      have d5:w.cell? ⟨g3,o3+q * 8+5,none⟩=some (.int .i64 z.n):=bel_cell hW.1.bel (E3.out 5 _ rfl)
      have d6:w.cell? ⟨g3,o3+q * 8+6,none⟩=some (.slice i3.pR z.regs.length i3.cR):=bel_cell hW.1.bel (E3.out 6 _ rfl)
      have d7:w.cell? ⟨g3,o3+q * 8+7,none⟩=some (.slice i3.pA z.args.length i3.cA):=bel_cell hW.1.bel (E3.out 7 _ rfl)
      go_simp
      exact hK _ _ (Below.refl _ _) hW rfl
    refine ⟨fun a w hW hk K hK=>?_,?_⟩
    · obtain ⟨k0,k1,-⟩:=hk
      have k0:a.tmps.getD 85 undef=.agg #[.slice p m.length c]:=k0
      have k1:a.tmps.getD 90 undef=.agg #[.int .i64 z.op,.int .i64 z.a,.int .i64 z.b,.int .i64 z.c,.int .i64 z.k,.int .i64 z.n,.slice i3.pR z.regs.length i3.cR,.slice i3.pA z.args.length i3.cA]:=k1
      have hC:Rd Tryz.prog 56 #[.agg #[.slice p m.length c],.agg #[.int .i64 z.op,.int .i64 z.a,.int .i64 z.b,.int .i64 z.c,.int .i64 z.k,.int .i64 z.n,.slice i3.pR z.regs.length i3.cR,.slice i3.pA z.args.length i3.cA]] w (.int .i64 (MIns.form m.length z)):=insForm_any m.length z i3 p c w
      go_simp
      refine hC.mono ?_
      rintro e w9 ⟨rfl,hb⟩
      exact hK _ _ hb ⟨hW.1.below hb,Below.andThen hW.2 hb⟩ rfl
    refine ⟨fun a w hW hk K hK=>?_,?_⟩
    · obtain ⟨k0,-⟩:=hk
      have k0:a.tmps.getD 91 undef=.int .i64 (MIns.form m.length z):=k0
      go_simp
      exact hK _ _ (Below.refl _ _) hW rfl
    trivial
   case hend =>
    intro ops a138 w138 hWD hE hFD
    have hd11:a138.tmps.getD 11 undef=.int .i64 (MIns.form m.length z):=hE 11 rfl
    have hF138:Fr 112 a138 [(11,.int .i64 (MIns.form m.length z)),(2,.int .i64 (bi:Int)),(1,.int .i64 (fi:Int)),(0,.agg #[.slice p m.length c]),(3,.pointer (some ⟨B2,0,none⟩)),(6,.pointer (some ⟨B3,0,none⟩)),(7,.pointer (some ⟨B6,0,none⟩)),(8,.pointer (some ⟨B10,0,none⟩)),(9,.int .i64 (listC y.regs y.params)),(10,.int .i64 (q:Int))]:=(hFD.cons hd11)
    clear hd11
    have hW138:Wd w w138 [(B10,#[.int .i64 y.regs,.slice b2.pP y.params.length b2.cP,.slice b2.pC y.code.length b2.cC,.int .i64 y.fin.op,.int .i64 y.fin.a,.int .i64 y.fin.yes.block,.slice b2.e.pYR y.fin.yes.regs.length b2.e.cYR,.slice b2.e.pYA y.fin.yes.args.length b2.e.cYA,.int .i64 y.fin.no.block,.slice b2.e.pNR y.fin.no.regs.length b2.e.cNR,.slice b2.e.pNA y.fin.no.args.length b2.e.cNA,.slice b2.e.pA y.fin.args.length b2.e.cA],48),(B6,#[.int .i64 x.regs,.slice f1.pP x.params.length f1.cP,.slice f1.pR x.results.length f1.cR,.slice f1.pB x.blocks.length f1.cB],38),(B3,#[.int .i64 0,.int .i64 0],27),(B2,#[.slice p m.length c],25)]:=hWD.1
    clear hFD hWD hE hF137 h134
    clear hW131
    refine wpList_nil ?_
    refine hK136 _ _ ?_
    refine wp_seq_k fun K139 hK139=>?_
    refine rg hF138 fun ops=>?_;clear hF138 a138
    refine sm trivial rfl rfl ?_
    refine sne trivial rfl rfl rfl ?_
    refine St.nil fun a140 h140=>?_
    refine hK139 _ _ ?_
    refine fr_cond (t:=93) h140 rfl (fun hb=>?_) (fun hb=>?_)
    ·have h9:¬ (MIns.form m.length z)=0:=bne_iff_ne.1 hb
     have hc141:¬ (MIns.form m.length z)=0:=h9
     clear h9
     clear hb
     refine wp_seq_k fun K142 hK142=>?_
     refine rg h140 fun ops=>?_;clear h140 a140
     refine sm trivial rfl rfl ?_
     refine sm trivial rfl rfl ?_
     refine sm trivial rfl rfl ?_
     refine sm trivial rfl rfl ?_
     refine sc_3 cf57 hW138 (atIns_any (f:=fi) (b:=bi) (i:=q) ⟨by omega,by omega,by omega⟩) trivial rfl rfl rfl rfl ?_
     clear hW138;intro w143 hW143
     refine sc_2 cf28 hW143 (fF_any (xc:=MIns.form m.length z) (xp:=10000 * (fi:Int)+100 * (bi:Int)+(q:Int))) trivial rfl rfl rfl ?_
     clear hW143;intro w144 hW144
     refine sT 2 hW144 rfl rfl infFault rfl rfl rfl ?_
     clear hW144;intro w145 hW145
     refine St.nil fun a146 h146=>?_
     refine hK142 _ _ ?_
     refine wp_ret ?_;with_reducible repeat first | refine of_then_ret ?_ | refine of_block_ret ?_
     have:=hc44.out
     have RC:y.code' x bi=0:=(if_neg (by omega)).trans ((if_neg (by omega)).trans ((if_neg (by omega)).trans ((if_neg (by omega)).trans (rfl))))
     have EF:=MBlock.fault_eq m.length fi x bi y
     rw [if_pos RC] at EF
     have RI:firstF (fun i z=>(MIns.form m.length z,(10000 * fi+100 * bi+i:Int))) 0 y.code=(MIns.form m.length z,(10000 * fi+100 * bi+q:Int)):=by
       have h9:=firstF_eq (f:=fun i z=>(MIns.form m.length z,(10000 * fi+100 * bi+i:Int))) (j:=0) hx3.out (fun k z hk hz=>hall3 k z hk hz) hc141
       rwa [Nat.zero_add] at h9
     rw [RI,if_neg hc141] at EF
     exact ret_box 2 h146 hW145 rfl rfl rfl Tryz.underlying27 rfl infFault ⟨by show Ending.returned (.agg #[.int .i64 (MIns.form m.length z),.int .i64 (10000 * (fi:Int)+100 * (bi:Int)+(q:Int))])=_;rw [EF],hW145.bel⟩
    have h9:(MIns.form m.length z)=0:=bne_eq_false_iff_eq.1 hb
    have hc147:Hid ((MIns.form m.length z)=0):=h9
    clear h9
    clear hb
    refine wp_skip ?_
    refine hK135 _ _ ?_
    refine rg h140 fun ops=>?_;clear h140 a140
    refine sm trivial rfl rfl ?_
    refine sad (by omega) trivial rfl rfl rfl ?_
    refine sa trivial rfl rfl ?_
    refine St.nil fun a148 h148=>?_
    refine hKL3 _ _ (y.code.length - (q+1)) (by omega) ⟨q+1,by omega,rfl,?_,(h148.keep (h148.keep (h148.keep (h148.keep (h148.keep (h148.keep (h148.keep (h148.keep (h148.keep h148.nil (t:=10) rfl) (t:=9) rfl) (t:=8) rfl) (t:=7) rfl) (t:=6) rfl) (t:=3) rfl) (t:=0) rfl) (t:=1) rfl) (t:=2) rfl),hW138⟩
    ·intro j z hj hz
     by_cases e:j=q
     · subst e;rw [hx3.out] at hz;cases hz;exact hc147.out
     · exact hall3 j z (by omega) hz
  have hge3:q=y.code.length:=by have:=of_decide_eq_false hb;omega
  clear hb
  refine wp_exit ?_
  refine hK128 _ _ ?_
  refine wp_seq_k fun K149 hK149=>?_
  refine wp_seq_k fun K150 hK150=>?_
  refine rg h134 fun ops=>?_;clear h134 a134
  refine sS 1 4 Tryz.underlying38 rfl infFunc hW131 trivial rfl rfl rfl rfl ?_
  refine sfBlock3 trivial rfl rfl ?_
  refine sS 0 9 Tryz.underlying46 rfl infEnd hW131 trivial rfl rfl rfl rfl ?_
  refine sc_2 cf58 hW131 (endForm_any (x:=y.fin) (e:=b2.e) (fr:=x.regs) (fp:=f1.pP) (fl:=x.params.length) (fc:=f1.cP) (fq:=f1.pR) (fm:=x.results.length) (fd:=f1.cR) (fb:=f1.pB) (bl:=x.blocks.length) (fe:=f1.cB) (by have:=hs2.out.2.2.1;exact ⟨by have:=this.1.1;omega,by have:=this.1.2;omega,by have:=this.2.1.1;omega,by have:=this.2.1.2;omega⟩) (by have:=hs1.out.1;omega)) trivial rfl rfl rfl ?_
  clear hW131;intro w151 hW151
  refine sa trivial rfl rfl ?_
  refine St.nil fun a152 h152=>?_
  refine hK150 _ _ ?_
  refine wp_seq_k fun K153 hK153=>?_
  refine rg h152 fun ops=>?_;clear h152 a152
  refine sm trivial rfl rfl ?_
  refine sne trivial rfl rfl rfl ?_
  refine St.nil fun a154 h154=>?_
  refine hK153 _ _ ?_
  refine fr_cond (t:=105) h154 rfl (fun hb=>?_) (fun hb=>?_)
  ·have h9:¬ (y.fin.form x.blocks.length)=0:=bne_iff_ne.1 hb
   have hc155:¬ (y.fin.form x.blocks.length)=0:=h9
   clear h9
   clear hb
   refine wp_seq_k fun K156 hK156=>?_
   refine rg h154 fun ops=>?_;clear h154 a154
   refine sm trivial rfl rfl ?_
   refine sm trivial rfl rfl ?_
   refine sm trivial rfl rfl ?_
   refine sc_2 cf59 hW151 (atEnd_any (f:=fi) (b:=bi) ⟨by omega,by omega⟩) trivial rfl rfl rfl ?_
   clear hW151;intro w157 hW157
   refine sc_2 cf28 hW157 (fF_any (xc:=y.fin.form x.blocks.length) (xp:=10000 * (fi:Int)+100 * (bi:Int)+91)) trivial rfl rfl rfl ?_
   clear hW157;intro w158 hW158
   refine sT 2 hW158 rfl rfl infFault rfl rfl rfl ?_
   clear hW158;intro w159 hW159
   refine St.nil fun a160 h160=>?_
   refine hK156 _ _ ?_
   refine wp_ret ?_;with_reducible repeat first | refine of_then_ret ?_ | refine of_block_ret ?_
   have:=hc44.out
   have RC:y.code' x bi=0:=(if_neg (by omega)).trans ((if_neg (by omega)).trans ((if_neg (by omega)).trans ((if_neg (by omega)).trans (rfl))))
   have EF:=MBlock.fault_eq m.length fi x bi y
   rw [if_pos RC] at EF
   have RI:firstF (fun i z=>(MIns.form m.length z,(10000 * fi+100 * bi+i:Int))) 0 y.code=(0,0):=firstF_zero (fun k z hz=>hall3 k z (by have:=(List.getElem?_eq_some_iff.1 hz).1;omega) hz)
   rw [RI,if_pos rfl] at EF
   exact ret_box 2 h160 hW159 rfl rfl rfl Tryz.underlying27 rfl infFault ⟨by show Ending.returned (.agg #[.int .i64 (y.fin.form x.blocks.length),.int .i64 (10000 * (fi:Int)+100 * (bi:Int)+91)])=_;rw [EF];simp [atF,hc155],hW159.bel⟩
  have h9:(y.fin.form x.blocks.length)=0:=bne_eq_false_iff_eq.1 hb
  have hc161:Hid ((y.fin.form x.blocks.length)=0):=h9
  clear h9
  clear hb
  refine wp_skip ?_
  refine hK149 _ _ ?_
  refine wp_seq_k fun K162 hK162=>?_
  refine rg h154 fun ops=>?_;clear h154 a154
  intro a163 h163
  refine fr_pure (t:=111) (v:=.agg #[.int .i64 0,.int .i64 0]) (w':=w151) h163 rfl rfl rfl (fun K hK=>?_) ?_
  ·go_simp
   exact hK
  clear h163;intro a164 hF164
  refine St.go hF164 ?_;clear hF164 a164
  refine sT 2 hW151 rfl rfl infFault rfl rfl rfl ?_
  clear hW151;intro w165 hW165
  refine St.nil fun a166 h166=>?_
  refine hK162 _ _ ?_
  refine wp_ret ?_;with_reducible repeat first | refine of_then_ret ?_ | refine of_block_ret ?_
  have:=hc44.out
  have:=hc161.out
  have RC:y.code' x bi=0:=(if_neg (by omega)).trans ((if_neg (by omega)).trans ((if_neg (by omega)).trans ((if_neg (by omega)).trans (rfl))))
  have EF:=MBlock.fault_eq m.length fi x bi y
  rw [if_pos RC] at EF
  have RI:firstF (fun i z=>(MIns.form m.length z,(10000 * fi+100 * bi+i:Int))) 0 y.code=(0,0):=firstF_zero (fun k z hz=>hall3 k z (by have:=(List.getElem?_eq_some_iff.1 hz).1;omega) hz)
  rw [RI,if_pos rfl] at EF
  exact ret_box 2 h166 hW165 rfl rfl rfl Tryz.underlying27 rfl infFault ⟨by show Ending.returned (.agg #[.int .i64 0,.int .i64 0])=_;rw [EF];simp [atF,hc161.out],hW165.bel⟩
end Go.Proofs.YtjodmledadbgeacGreatDoor
