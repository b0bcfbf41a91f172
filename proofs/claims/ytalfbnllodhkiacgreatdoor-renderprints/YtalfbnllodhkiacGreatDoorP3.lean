import Derived.Test.YtalfbnllodhkiacGreatDoorP2
import Derived.Deep.RegionWith
set_option maxHeartbeats 16000000
set_option maxRecDepth 100000
namespace Go.Proofs.YtalfbnllodhkiacGreatDoor
open Go.ChangeShapes Go.WideShapes Go.ChangeAt Go.RowKit Go.Shelf
set_option linter.unusedSimpArgs false
set_option linter.unusedVariables false
structure FuncH (B b : Nat) (w w1 : World) (kr : Int) (np cp nq cq nb cb : Nat) (pp pq pb : Option Addr) (zn zp zq t0 t1 t2 t3 : List UInt8) : Prop where
  E1:Hid ((w.alloc (.cells #[.int .i64 kr,.slice pp np cp,.slice pq nq cq,.slice pb nb cb] 42))=w1)
  I1:Hid (IsS B b t0 w1)
  W1:Hid (Wr B b w w1)
  HB:Hid (B≤w1.heap.size)
  HL:Hid (b<w1.heap.size)
  X2:Blk w1 w.heap.size #[.int .i64 kr,.slice pp np cp,.slice pq nq cq,.slice pb nb cb] 42
  m2:w.heap.size≠b
  CN:Hid (∀ wx,Wr B b w1 wx→Calls Tryz.prog 120 #[.int .i64 kr] wx fun e w'=>e=.returned (.string (str zn))∧Below wx.heap.size wx w')
  CP:Hid (∀ wx,Wr B b w1 wx→Calls Tryz.prog 121 #[.slice pp np cp] wx fun e w'=>e=.returned (.string (str zp))∧Below wx.heap.size wx w')
  CQ:Hid (∀ wx,Wr B b w1 wx→Calls Tryz.prog 121 #[.slice pq nq cq] wx fun e w'=>e=.returned (.string (str zq))∧Below wx.heap.size wx w')
  CL1:Hid (∀ h wx,IsS B b t0 wx→B≤wx.heap.size→Blk wx h #[.string ⟨#[102,117,110,99]⟩,.string (str zn),.string (str zp),.string ⟨#[45,62]⟩,.string (str zq),.string ⟨#[123]⟩] 9→Calls Tryz.prog 119 #[.pointer (some ⟨b,0,none⟩),.slice (some ⟨h,0,none⟩) 6 6] wx (Lined B b t1 wx))
  CE0:t1.length≤40000→Hid (∀ wx,Wr B b w1 wx→IsS B b t1 wx→Calls Tryz.prog 82 #[.slice pb nb cb,.func (.func 122) #[.pointer (some ⟨b,0,none⟩)] #[]] wx (Parts B b t2 wx))
  CL20:t2.length≤40000→Hid (∀ h wx,IsS B b t2 wx→B≤wx.heap.size→Blk wx h #[.string ⟨#[125]⟩] 9→Calls Tryz.prog 119 #[.pointer (some ⟨b,0,none⟩),.slice (some ⟨h,0,none⟩) 1 1] wx (Lined B b t3 wx))
  M1:Hid (t1.length≤t3.length)
  M2:Hid (t2.length≤t3.length)
theorem func_no0 {B b : Nat} {w w1 : World} {kr : Int} {np cp nq cq nb cb : Nat} {pp pq pb : Option Addr} {zn zp zq t0 t1 t2 t3 : List UInt8} (H : FuncH B b w w1 kr np cp nq cq nb cb pp pq pb zn zp zq t0 t1 t2 t3) (G1 : Hid (¬ t1.length ≤ 40000)) :
    Calls Tryz.prog 87 #[.pointer (some ⟨b,0,none⟩),.agg #[.int .i64 kr,.slice pp np cp,.slice pq nq cq,.slice pb nb cb]] w (Parts B b t3 w):=by
  obtain ⟨E1,I1,W1,HB,HL,X2,m2,CN,CP,CQ,CL1,CE0,CL20,M1,M2⟩:=H
  clear CE0 CL20
  go_enter Tryz.func87,Tryz.ntmps87
  go_wp2_with fail
  rw [E1.out]
  have ST0:stW w1 B b (fun S=>(bif S 11 then some t1 else some t0)) (fun _=>false) w1.drew:=⟨⟨(Below.refl _ _).drew,(Lib.OthersKept.refl _ _ _).drew⟩,fun u hu=>by replace hu:some t0=some u:=hu;cases hu;exact I1.out⟩
  refine wp_puts [5,6,7,8,9,10,11,12,13,14,15,16,17,18,19,20,21,22,23,24,25,26,27,28,4] (fun vs w'=>vs 4=.bool false∧Wr B b w1 w') ?_ ?_
  · refine wp_region_stage (PTab.E ([(0,fun v _=>v=.pointer (some ⟨b,0,none⟩)),(3,fun v _=>v=.pointer (some ⟨w.heap.size,0,none⟩)),(5,fun v _=>v=.pointer (some ⟨b,0,none⟩)),(6,fun v _=>v=.pointer (some ⟨w.heap.size,0,none⟩)),(7,fun v _=>v=.int .i64 kr),(8,fun v _=>v=.string (str zn)),(9,fun v _=>v=.pointer (some ⟨w.heap.size,1,none⟩)),(10,fun v _=>v=.slice pp np cp),(11,fun v _=>v=.string (str zp)),(12,fun v _=>v=.pointer (some ⟨w.heap.size,2,none⟩)),(13,fun v _=>v=.slice pq nq cq),(14,fun v _=>v=.string (str zq)),(16,fun v _=>v=.bool false),(17,fun v _=>v=.bool false),(18,fun v _=>v=undef),(19,fun v _=>v=undef),(20,fun v _=>v=undef),(21,fun v _=>v=undef),(22,fun v _=>v=undef),(23,fun v _=>v=.bool false),(24,fun v _=>v=.bool false),(25,fun v _=>v=undef),(26,fun v _=>v=undef),(27,fun v _=>v=undef),(28,fun v _=>v=.bool false),(4,fun v _=>v=.bool false),(15,fun v w=>SRw b 6 #[.string ⟨#[102,117,110,99]⟩,.string (str zn),.string (str zp),.string ⟨#[45,62]⟩,.string (str zq),.string ⟨#[123]⟩] v w)]:PTab)) (stW w1 B b (fun S=>(bif S 11 then some t1 else some t0))) (Wr B b) (outs:=[0,3]) (gs:=[(12,some false),(19,some false)]) (bs:=[true,true,true,true,true,true,true,true,true,true,true,true,true,false,false,false,false,false,true,true,false,false,false,true,true]) (by kernel_rfl) (n:=29) rfl (Nat.le_refl _) (by kernel_rfl) (PTab_stable _ ⟨fun _ _ _ _ h=>h,fun _ _ _ _ h=>h,fun _ _ _ _ h=>h,fun _ _ _ _ h=>h,fun _ _ _ _ h=>h,fun _ _ _ _ h=>h,fun _ _ _ _ h=>h,fun _ _ _ _ h=>h,fun _ _ _ _ h=>h,fun _ _ _ _ h=>h,fun _ _ _ _ h=>h,fun _ _ _ _ h=>h,fun _ _ _ _ h=>h,fun _ _ _ _ h=>h,fun _ _ _ _ h=>h,fun _ _ _ _ h=>h,fun _ _ _ _ h=>h,fun _ _ _ _ h=>h,fun _ _ _ _ h=>h,fun _ _ _ _ h=>h,fun _ _ _ _ h=>h,fun _ _ _ _ h=>h,fun _ _ _ _ h=>h,fun _ _ _ _ h=>h,fun _ _ _ _ h=>h,fun _ _ _ _ h=>h,fun v w w' hr h=>h.on hr,trivial⟩) ?hG (ST0) ⟨rfl,rfl,trivial⟩ ?hA ?hend
    case hG=>exact ⟨fun t ht v w h=>by cases ht;exact h,fun t ht v w h=>by cases ht;exact h,trivial⟩
    case hend=>exact fun vs S w' hS hW hk=>⟨rfl,vs,rfl,hk 4 (by kernel_rfl),hW.1⟩
    case hA =>
      refine ⟨fun S ac wc h0 hd hc hW hk K hK=>?_,?_⟩
      · obtain ⟨q0,-⟩:=hk
        have q0:ac.tmps.getD 0 undef=.pointer (some ⟨b,0,none⟩):=q0
        go_simp
        exact hK _ _ (Wr.refl _ _ _) (hW) rfl
      refine ⟨fun S ac wc h0 hd hc hW hk K hK=>?_,?_⟩
      · obtain ⟨q0,-⟩:=hk
        have q0:ac.tmps.getD 3 undef=.pointer (some ⟨w.heap.size,0,none⟩):=q0
        go_simp
        exact hK _ _ (Wr.refl _ _ _) (hW) rfl
      refine ⟨fun S ac wc h0 hd hc hW hk K hK=>?_,?_⟩
      · obtain ⟨q0,-⟩:=hk
        have q0:ac.tmps.getD 6 undef=.pointer (some ⟨w.heap.size,0,none⟩):=q0
        have c0:=cellOf (hW.1.blk X2 m2 (by decide)) 0 _ rfl
        go_simp
        exact hK _ _ (Wr.refl _ _ _) (hW) rfl
      refine ⟨fun S ac wc h0 hd hc hW hk K hK=>?_,?_⟩
      · obtain ⟨q0,-⟩:=hk
        have q0:ac.tmps.getD 7 undef=.int .i64 kr:=q0
        go_simp
        refine (CN.out wc hW.1).mono ?_
        rintro r7 w7 ⟨rfl,b7⟩
        go_simp
        exact hK _ _ (Wr.of (hW.le HB.out) b7) (hW.rd HB.out b7) rfl
      refine ⟨fun S ac wc h0 hd hc hW hk K hK=>?_,?_⟩
      · obtain ⟨q0,-⟩:=hk
        have q0:ac.tmps.getD 3 undef=.pointer (some ⟨w.heap.size,0,none⟩):=q0
        go_simp
        exact hK _ _ (Wr.refl _ _ _) (hW) rfl
      refine ⟨fun S ac wc h0 hd hc hW hk K hK=>?_,?_⟩
      · obtain ⟨q0,-⟩:=hk
        have q0:ac.tmps.getD 9 undef=.pointer (some ⟨w.heap.size,1,none⟩):=q0
        have c0:=cellOf (hW.1.blk X2 m2 (by decide)) 1 _ rfl
        go_simp
        exact hK _ _ (Wr.refl _ _ _) (hW) rfl
      refine ⟨fun S ac wc h0 hd hc hW hk K hK=>?_,?_⟩
      · obtain ⟨q0,-⟩:=hk
        have q0:ac.tmps.getD 10 undef=.slice pp np cp:=q0
        go_simp
        refine (CP.out wc hW.1).mono ?_
        rintro r7 w7 ⟨rfl,b7⟩
        go_simp
        exact hK _ _ (Wr.of (hW.le HB.out) b7) (hW.rd HB.out b7) rfl
      refine ⟨fun S ac wc h0 hd hc hW hk K hK=>?_,?_⟩
      · obtain ⟨q0,-⟩:=hk
        have q0:ac.tmps.getD 3 undef=.pointer (some ⟨w.heap.size,0,none⟩):=q0
        go_simp
        exact hK _ _ (Wr.refl _ _ _) (hW) rfl
      refine ⟨fun S ac wc h0 hd hc hW hk K hK=>?_,?_⟩
      · obtain ⟨q0,-⟩:=hk
        have q0:ac.tmps.getD 12 undef=.pointer (some ⟨w.heap.size,2,none⟩):=q0
        have c0:=cellOf (hW.1.blk X2 m2 (by decide)) 2 _ rfl
        go_simp
        exact hK _ _ (Wr.refl _ _ _) (hW) rfl
      refine ⟨fun S ac wc h0 hd hc hW hk K hK=>?_,?_⟩
      · obtain ⟨q0,-⟩:=hk
        have q0:ac.tmps.getD 13 undef=.slice pq nq cq:=q0
        go_simp
        refine (CQ.out wc hW.1).mono ?_
        rintro r7 w7 ⟨rfl,b7⟩
        go_simp
        exact hK _ _ (Wr.of (hW.le HB.out) b7) (hW.rd HB.out b7) rfl
      refine ⟨fun S ac wc h0 hd hc hW hk K hK=>?_,?_⟩
      · obtain ⟨q0,q1,q2,-⟩:=hk
        have q0:ac.tmps.getD 8 undef=.string (str zn):=q0
        have q1:ac.tmps.getD 11 undef=.string (str zp):=q1
        have q2:ac.tmps.getD 14 undef=.string (str zq):=q2
        simp only [Array.getD_eq_getD_getElem?] at q0 q1 q2
        go_simp
        exact hK _ _ (Wr.of (hW.le HB.out) (bel1 _ _)) (hW.rd HB.out (bel1 _ _)) (SRw.new (B:=0) (bs:=[]) _ (hW.1.lt HL.out))
      refine ⟨fun S ac wc h0 hd hc hW hk K hK=>?_,?_⟩
      · obtain ⟨q0,q1,-⟩:=hk
        have q0:ac.tmps.getD 5 undef=.pointer (some ⟨b,0,none⟩):=q0
        have q1:(fun v w=>SRw b 6 #[.string ⟨#[102,117,110,99]⟩,.string (str zn),.string (str zp),.string ⟨#[45,62]⟩,.string (str zq),.string ⟨#[123]⟩] v w) (ac.tmps.getD 15 undef) wc:=q1
        generalize q1e:ac.tmps.getD 15 undef=uq1 at q1
        obtain ⟨h,rfl,hne,hb⟩:=q1
        have n11:S 11=false:=h0
        have hI:IsS B b t0 wc:=hW.2 t0 (by show (bif S 11 then _ else _)=_;simp only [n11,cond_true,cond_false])
        go_simp
        refine (CL1.out h wc hI (hW.le HB.out) hb).mono ?_
        rintro r7 w7 ⟨rfl,h7,b7⟩
        rw [decide_eq_false G1.out]
        go_simp
        exact hK _ _ b7 ⟨hW.1.trans b7,fun u hu=>by replace hu:(bif plus 11 S 11 then _ else _)=some u:=hu;simp only [plus,beq_self_eq_true,Bool.true_or,Bool.or_false,Bool.false_or,Nat.reduceBEq,Nat.reduceAdd,cond_true,cond_false,Option.some.injEq] at hu;rw [← hu];exact h7⟩ rfl
      refine ⟨fun S ac wc h0 hd hc hW hk K hK=>?_,?_⟩
      · obtain ⟨q0,-⟩:=hk
        have q0:ac.tmps.getD 16 undef=.bool false:=q0
        go_simp
        exact hK _ _ (Wr.refl _ _ _) (hW) rfl
      refine ⟨fun S w h0 hd hc hW=>⟨hW,rfl⟩,?_⟩
      refine ⟨fun S w h0 hd hc hW=>⟨hW,rfl⟩,?_⟩
      refine ⟨fun S w h0 hd hc hW=>⟨hW,rfl⟩,?_⟩
      refine ⟨fun S w h0 hd hc hW=>⟨hW,rfl⟩,?_⟩
      refine ⟨fun S w h0 hd hc hW=>⟨hW,rfl⟩,?_⟩
      refine ⟨fun S ac wc h0 hd hc hW hk K hK=>?_,?_⟩
      · obtain ⟨q0,q1,-⟩:=hk
        have q0:ac.tmps.getD 17 undef=.bool false:=q0
        have q1:ac.tmps.getD 22 undef=undef:=q1
        go_simp
        exact hK _ _ (Wr.refl _ _ _) (hW) rfl
      refine ⟨fun S ac wc h0 hd hc hW hk K hK=>?_,?_⟩
      · obtain ⟨q0,-⟩:=hk
        have q0:ac.tmps.getD 23 undef=.bool false:=q0
        go_simp
        exact hK _ _ (Wr.refl _ _ _) (hW) rfl
      refine ⟨fun S w h0 hd hc hW=>⟨hW,rfl⟩,?_⟩
      refine ⟨fun S w h0 hd hc hW=>⟨hW,rfl⟩,?_⟩
      refine ⟨fun S w h0 hd hc hW=>⟨hW,rfl⟩,?_⟩
      refine ⟨fun S ac wc h0 hd hc hW hk K hK=>?_,?_⟩
      · obtain ⟨q0,q1,-⟩:=hk
        have q0:ac.tmps.getD 24 undef=.bool false:=q0
        have q1:ac.tmps.getD 27 undef=undef:=q1
        go_simp
        exact hK _ _ (Wr.refl _ _ _) (hW) rfl
      refine ⟨fun S ac wc h0 hd hc hW hk K hK=>?_,?_⟩
      · obtain ⟨q0,-⟩:=hk
        have q0:ac.tmps.getD 28 undef=.bool false:=q0
        go_simp
        exact hK _ _ (Wr.refl _ _ _) (hW) rfl
      trivial
  rintro vs wx ⟨hv0,hb⟩
  simp only [puts,Act.put,List.setIfInBounds_toArray,List.set_cons_zero,List.set_cons_succ,hv0]
  have Z:Hid (Parts B b t3 w (.returned (.bool false)) wx):=Parts.no (fun hh=>G1.out (Nat.le_trans M1.out hh)) (W1.out.trans hb)
  clear hb
  go_wp2
  go_ret
  exact Z.out
theorem func_no1 {B b : Nat} {w w1 : World} {kr : Int} {np cp nq cq nb cb : Nat} {pp pq pb : Option Addr} {zn zp zq t0 t1 t2 t3 : List UInt8} (H : FuncH B b w w1 kr np cp nq cq nb cb pp pq pb zn zp zq t0 t1 t2 t3) (G1 : Hid (t1.length ≤ 40000)) (G2 : Hid (¬ t2.length ≤ 40000)) :
    Calls Tryz.prog 87 #[.pointer (some ⟨b,0,none⟩),.agg #[.int .i64 kr,.slice pp np cp,.slice pq nq cq,.slice pb nb cb]] w (Parts B b t3 w):=by
  obtain ⟨E1,I1,W1,HB,HL,X2,m2,CN,CP,CQ,CL1,CE0,CL20,M1,M2⟩:=H
  have CE:=CE0 G1.out
  clear CE0 CL20
  go_enter Tryz.func87,Tryz.ntmps87
  go_wp2_with fail
  rw [E1.out]
  have ST0:stW w1 B b (fun S=>(bif S 11 then (bif S 17 then none else some t1) else some t0)) (fun _=>false) w1.drew:=⟨⟨(Below.refl _ _).drew,(Lib.OthersKept.refl _ _ _).drew⟩,fun u hu=>by replace hu:some t0=some u:=hu;cases hu;exact I1.out⟩
  refine wp_puts [5,6,7,8,9,10,11,12,13,14,15,16,17,18,19,20,21,22,23,24,25,26,27,28,4] (fun vs w'=>vs 4=.bool false∧Wr B b w1 w') ?_ ?_
  · refine wp_region_stage (PTab.E ([(0,fun v _=>v=.pointer (some ⟨b,0,none⟩)),(3,fun v _=>v=.pointer (some ⟨w.heap.size,0,none⟩)),(5,fun v _=>v=.pointer (some ⟨b,0,none⟩)),(6,fun v _=>v=.pointer (some ⟨w.heap.size,0,none⟩)),(7,fun v _=>v=.int .i64 kr),(8,fun v _=>v=.string (str zn)),(9,fun v _=>v=.pointer (some ⟨w.heap.size,1,none⟩)),(10,fun v _=>v=.slice pp np cp),(11,fun v _=>v=.string (str zp)),(12,fun v _=>v=.pointer (some ⟨w.heap.size,2,none⟩)),(13,fun v _=>v=.slice pq nq cq),(14,fun v _=>v=.string (str zq)),(16,fun v _=>v=.bool true),(17,fun v _=>v=.bool true),(18,fun v _=>v=.pointer (some ⟨w.heap.size,3,none⟩)),(19,fun v _=>v=.slice pb nb cb),(20,fun v _=>v=.pointer (some ⟨b,0,none⟩)),(21,fun v _=>v=.func (.func 122) #[.pointer (some ⟨b,0,none⟩)] #[]),(22,fun v _=>v=.bool false),(23,fun v _=>v=.bool false),(24,fun v _=>v=.bool false),(25,fun v _=>v=undef),(26,fun v _=>v=undef),(27,fun v _=>v=undef),(28,fun v _=>v=.bool false),(4,fun v _=>v=.bool false),(15,fun v w=>SRw b 6 #[.string ⟨#[102,117,110,99]⟩,.string (str zn),.string (str zp),.string ⟨#[45,62]⟩,.string (str zq),.string ⟨#[123]⟩] v w)]:PTab)) (stW w1 B b (fun S=>(bif S 11 then (bif S 17 then none else some t1) else some t0))) (Wr B b) (outs:=[0,3]) (gs:=[(12,some true),(19,some false)]) (bs:=[true,true,true,true,true,true,true,true,true,true,true,true,true,true,true,true,true,true,true,true,false,false,false,true,true]) (by kernel_rfl) (n:=29) rfl (Nat.le_refl _) (by kernel_rfl) (PTab_stable _ ⟨fun _ _ _ _ h=>h,fun _ _ _ _ h=>h,fun _ _ _ _ h=>h,fun _ _ _ _ h=>h,fun _ _ _ _ h=>h,fun _ _ _ _ h=>h,fun _ _ _ _ h=>h,fun _ _ _ _ h=>h,fun _ _ _ _ h=>h,fun _ _ _ _ h=>h,fun _ _ _ _ h=>h,fun _ _ _ _ h=>h,fun _ _ _ _ h=>h,fun _ _ _ _ h=>h,fun _ _ _ _ h=>h,fun _ _ _ _ h=>h,fun _ _ _ _ h=>h,fun _ _ _ _ h=>h,fun _ _ _ _ h=>h,fun _ _ _ _ h=>h,fun _ _ _ _ h=>h,fun _ _ _ _ h=>h,fun _ _ _ _ h=>h,fun _ _ _ _ h=>h,fun _ _ _ _ h=>h,fun _ _ _ _ h=>h,fun v w w' hr h=>h.on hr,trivial⟩) ?hG (ST0) ⟨rfl,rfl,trivial⟩ ?hA ?hend
    case hG=>exact ⟨fun t ht v w h=>by cases ht;exact h,fun t ht v w h=>by cases ht;exact h,trivial⟩
    case hend=>exact fun vs S w' hS hW hk=>⟨rfl,vs,rfl,hk 4 (by kernel_rfl),hW.1⟩
    case hA =>
      refine ⟨fun S ac wc h0 hd hc hW hk K hK=>?_,?_⟩
      · obtain ⟨q0,-⟩:=hk
        have q0:ac.tmps.getD 0 undef=.pointer (some ⟨b,0,none⟩):=q0
        go_simp
        exact hK _ _ (Wr.refl _ _ _) (hW) rfl
      refine ⟨fun S ac wc h0 hd hc hW hk K hK=>?_,?_⟩
      · obtain ⟨q0,-⟩:=hk
        have q0:ac.tmps.getD 3 undef=.pointer (some ⟨w.heap.size,0,none⟩):=q0
        go_simp
        exact hK _ _ (Wr.refl _ _ _) (hW) rfl
      refine ⟨fun S ac wc h0 hd hc hW hk K hK=>?_,?_⟩
      · obtain ⟨q0,-⟩:=hk
        have q0:ac.tmps.getD 6 undef=.pointer (some ⟨w.heap.size,0,none⟩):=q0
        have c0:=cellOf (hW.1.blk X2 m2 (by decide)) 0 _ rfl
        go_simp
        exact hK _ _ (Wr.refl _ _ _) (hW) rfl
      refine ⟨fun S ac wc h0 hd hc hW hk K hK=>?_,?_⟩
      · obtain ⟨q0,-⟩:=hk
        have q0:ac.tmps.getD 7 undef=.int .i64 kr:=q0
        go_simp
        refine (CN.out wc hW.1).mono ?_
        rintro r7 w7 ⟨rfl,b7⟩
        go_simp
        exact hK _ _ (Wr.of (hW.le HB.out) b7) (hW.rd HB.out b7) rfl
      refine ⟨fun S ac wc h0 hd hc hW hk K hK=>?_,?_⟩
      · obtain ⟨q0,-⟩:=hk
        have q0:ac.tmps.getD 3 undef=.pointer (some ⟨w.heap.size,0,none⟩):=q0
        go_simp
        exact hK _ _ (Wr.refl _ _ _) (hW) rfl
      refine ⟨fun S ac wc h0 hd hc hW hk K hK=>?_,?_⟩
      · obtain ⟨q0,-⟩:=hk
        have q0:ac.tmps.getD 9 undef=.pointer (some ⟨w.heap.size,1,none⟩):=q0
        have c0:=cellOf (hW.1.blk X2 m2 (by decide)) 1 _ rfl
        go_simp
        exact hK _ _ (Wr.refl _ _ _) (hW) rfl
      refine ⟨fun S ac wc h0 hd hc hW hk K hK=>?_,?_⟩
      · obtain ⟨q0,-⟩:=hk
        have q0:ac.tmps.getD 10 undef=.slice pp np cp:=q0
        go_simp
        refine (CP.out wc hW.1).mono ?_
        rintro r7 w7 ⟨rfl,b7⟩
        go_simp
        exact hK _ _ (Wr.of (hW.le HB.out) b7) (hW.rd HB.out b7) rfl
      refine ⟨fun S ac wc h0 hd hc hW hk K hK=>?_,?_⟩
      · obtain ⟨q0,-⟩:=hk
        have q0:ac.tmps.getD 3 undef=.pointer (some ⟨w.heap.size,0,none⟩):=q0
        go_simp
        exact hK _ _ (Wr.refl _ _ _) (hW) rfl
      refine ⟨fun S ac wc h0 hd hc hW hk K hK=>?_,?_⟩
      · obtain ⟨q0,-⟩:=hk
        have q0:ac.tmps.getD 12 undef=.pointer (some ⟨w.heap.size,2,none⟩):=q0
        have c0:=cellOf (hW.1.blk X2 m2 (by decide)) 2 _ rfl
        go_simp
        exact hK _ _ (Wr.refl _ _ _) (hW) rfl
      refine ⟨fun S ac wc h0 hd hc hW hk K hK=>?_,?_⟩
      · obtain ⟨q0,-⟩:=hk
        have q0:ac.tmps.getD 13 undef=.slice pq nq cq:=q0
        go_simp
        refine (CQ.out wc hW.1).mono ?_
        rintro r7 w7 ⟨rfl,b7⟩
        go_simp
        exact hK _ _ (Wr.of (hW.le HB.out) b7) (hW.rd HB.out b7) rfl
      refine ⟨fun S ac wc h0 hd hc hW hk K hK=>?_,?_⟩
      · obtain ⟨q0,q1,q2,-⟩:=hk
        have q0:ac.tmps.getD 8 undef=.string (str zn):=q0
        have q1:ac.tmps.getD 11 undef=.string (str zp):=q1
        have q2:ac.tmps.getD 14 undef=.string (str zq):=q2
        simp only [Array.getD_eq_getD_getElem?] at q0 q1 q2
        go_simp
        exact hK _ _ (Wr.of (hW.le HB.out) (bel1 _ _)) (hW.rd HB.out (bel1 _ _)) (SRw.new (B:=0) (bs:=[]) _ (hW.1.lt HL.out))
      refine ⟨fun S ac wc h0 hd hc hW hk K hK=>?_,?_⟩
      · obtain ⟨q0,q1,-⟩:=hk
        have q0:ac.tmps.getD 5 undef=.pointer (some ⟨b,0,none⟩):=q0
        have q1:(fun v w=>SRw b 6 #[.string ⟨#[102,117,110,99]⟩,.string (str zn),.string (str zp),.string ⟨#[45,62]⟩,.string (str zq),.string ⟨#[123]⟩] v w) (ac.tmps.getD 15 undef) wc:=q1
        generalize q1e:ac.tmps.getD 15 undef=uq1 at q1
        obtain ⟨h,rfl,hne,hb⟩:=q1
        have n11:S 11=false:=h0
        have n12:S 12=false:=hc.no 12 11 rfl (by kernel_rfl) n11
        have n17:S 17=false:=hc.no 17 12 rfl (by kernel_rfl) n12
        have hI:IsS B b t0 wc:=hW.2 t0 (by show (bif S 11 then _ else _)=_;simp only [n11,cond_true,cond_false])
        go_simp
        refine (CL1.out h wc hI (hW.le HB.out) hb).mono ?_
        rintro r7 w7 ⟨rfl,h7,b7⟩
        rw [decide_eq_true G1.out]
        go_simp
        exact hK _ _ b7 ⟨hW.1.trans b7,fun u hu=>by replace hu:(bif plus 11 S 11 then _ else _)=some u:=hu;simp only [plus,beq_self_eq_true,Bool.true_or,Bool.or_false,Bool.false_or,Nat.reduceBEq,Nat.reduceAdd,n17,cond_true,cond_false,Option.some.injEq] at hu;rw [← hu];exact h7⟩ rfl
      refine ⟨fun S ac wc h0 hd hc hW hk K hK=>?_,?_⟩
      · obtain ⟨q0,-⟩:=hk
        have q0:ac.tmps.getD 16 undef=.bool true:=q0
        go_simp
        exact hK _ _ (Wr.refl _ _ _) (hW) rfl
      refine ⟨fun S ac wc h0 hd hc hW hk K hK=>?_,?_⟩
      · obtain ⟨q0,-⟩:=hk
        have q0:ac.tmps.getD 3 undef=.pointer (some ⟨w.heap.size,0,none⟩):=q0
        go_simp
        exact hK _ _ (Wr.refl _ _ _) (hW) rfl
      refine ⟨fun S ac wc h0 hd hc hW hk K hK=>?_,?_⟩
      · obtain ⟨q0,-⟩:=hk
        have q0:ac.tmps.getD 18 undef=.pointer (some ⟨w.heap.size,3,none⟩):=q0
        have c0:=cellOf (hW.1.blk X2 m2 (by decide)) 3 _ rfl
        go_simp
        exact hK _ _ (Wr.refl _ _ _) (hW) rfl
      refine ⟨fun S ac wc h0 hd hc hW hk K hK=>?_,?_⟩
      · obtain ⟨q0,-⟩:=hk
        have q0:ac.tmps.getD 0 undef=.pointer (some ⟨b,0,none⟩):=q0
        go_simp
        exact hK _ _ (Wr.refl _ _ _) (hW) rfl
      refine ⟨fun S ac wc h0 hd hc hW hk K hK=>?_,?_⟩
      · obtain ⟨q0,-⟩:=hk
        have q0:ac.tmps.getD 20 undef=.pointer (some ⟨b,0,none⟩):=q0
        go_simp
        exact hK _ _ (Wr.refl _ _ _) (hW) rfl
      refine ⟨fun S ac wc h0 hd hc hW hk K hK=>?_,?_⟩
      · obtain ⟨q0,q1,-⟩:=hk
        have q0:ac.tmps.getD 19 undef=.slice pb nb cb:=q0
        have q1:ac.tmps.getD 21 undef=.func (.func 122) #[.pointer (some ⟨b,0,none⟩)] #[]:=q1
        have s12:S 12=true:=hd.at 12 (by kernel_rfl)
        have s11:S 11=true:=hc.yes 12 11 rfl (by kernel_rfl) s12
        have n17:S 17=false:=h0
        have hI:IsS B b t1 wc:=hW.2 t1 (by show (bif S 11 then _ else _)=_;simp only [s11,n17,cond_true,cond_false])
        go_simp
        refine (CE.out wc hW.1 hI).mono ?_
        rintro r7 w7 (⟨rfl,h7,b7⟩ | ⟨rfl,h7,b7⟩)
        · exact absurd h7.2 G2.out
        · have b7:=h7.1
          go_simp
          exact hK _ _ b7 ⟨hW.1.trans b7,fun u hu=>by replace hu:(bif plus 17 S 11 then _ else _)=some u:=hu;simp only [plus,beq_self_eq_true,Bool.true_or,Bool.false_or,Nat.reduceBEq,Nat.reduceAdd,s11,cond_true,cond_false,reduceCtorEq] at hu⟩ rfl
      refine ⟨fun S ac wc h0 hd hc hW hk K hK=>?_,?_⟩
      · obtain ⟨q0,q1,-⟩:=hk
        have q0:ac.tmps.getD 17 undef=.bool true:=q0
        have q1:ac.tmps.getD 22 undef=.bool false:=q1
        go_simp
        exact hK _ _ (Wr.refl _ _ _) (hW) rfl
      refine ⟨fun S ac wc h0 hd hc hW hk K hK=>?_,?_⟩
      · obtain ⟨q0,-⟩:=hk
        have q0:ac.tmps.getD 23 undef=.bool false:=q0
        go_simp
        exact hK _ _ (Wr.refl _ _ _) (hW) rfl
      refine ⟨fun S w h0 hd hc hW=>⟨hW,rfl⟩,?_⟩
      refine ⟨fun S w h0 hd hc hW=>⟨hW,rfl⟩,?_⟩
      refine ⟨fun S w h0 hd hc hW=>⟨hW,rfl⟩,?_⟩
      refine ⟨fun S ac wc h0 hd hc hW hk K hK=>?_,?_⟩
      · obtain ⟨q0,q1,-⟩:=hk
        have q0:ac.tmps.getD 24 undef=.bool false:=q0
        have q1:ac.tmps.getD 27 undef=undef:=q1
        go_simp
        exact hK _ _ (Wr.refl _ _ _) (hW) rfl
      refine ⟨fun S ac wc h0 hd hc hW hk K hK=>?_,?_⟩
      · obtain ⟨q0,-⟩:=hk
        have q0:ac.tmps.getD 28 undef=.bool false:=q0
        go_simp
        exact hK _ _ (Wr.refl _ _ _) (hW) rfl
      trivial
  rintro vs wx ⟨hv0,hb⟩
  simp only [puts,Act.put,List.setIfInBounds_toArray,List.set_cons_zero,List.set_cons_succ,hv0]
  have Z:Hid (Parts B b t3 w (.returned (.bool false)) wx):=Parts.no (fun hh=>G2.out (Nat.le_trans M2.out hh)) (W1.out.trans hb)
  clear hb
  go_wp2
  go_ret
  exact Z.out
theorem func_yes {B b : Nat} {w w1 : World} {kr : Int} {np cp nq cq nb cb : Nat} {pp pq pb : Option Addr} {zn zp zq t0 t1 t2 t3 : List UInt8} (H : FuncH B b w w1 kr np cp nq cq nb cb pp pq pb zn zp zq t0 t1 t2 t3) (G1 : Hid (t1.length ≤ 40000)) (G2 : Hid (t2.length ≤ 40000)) :
    Calls Tryz.prog 87 #[.pointer (some ⟨b,0,none⟩),.agg #[.int .i64 kr,.slice pp np cp,.slice pq nq cq,.slice pb nb cb]] w (Parts B b t3 w):=by
  obtain ⟨E1,I1,W1,HB,HL,X2,m2,CN,CP,CQ,CL1,CE0,CL20,M1,M2⟩:=H
  have CE:=CE0 G1.out
  have CL2:=CL20 G2.out
  clear CE0 CL20
  go_enter Tryz.func87,Tryz.ntmps87
  go_wp2_with fail
  rw [E1.out]
  have ST0:stW w1 B b (fun S=>(bif S 11 then (bif S 17 then (bif S 22 then some t3 else some t2) else some t1) else some t0)) (fun _=>false) w1.drew:=⟨⟨(Below.refl _ _).drew,(Lib.OthersKept.refl _ _ _).drew⟩,fun u hu=>by replace hu:some t0=some u:=hu;cases hu;exact I1.out⟩
  refine wp_puts [5,6,7,8,9,10,11,12,13,14,15,16,17,18,19,20,21,22,23,24,25,26,27,28,4] (fun vs w'=>vs 4=.bool (decide (t3.length≤40000))∧(Wr B b w1 w'∧IsS B b t3 w')) ?_ ?_
  · refine wp_region_stage (PTab.E ([(0,fun v _=>v=.pointer (some ⟨b,0,none⟩)),(3,fun v _=>v=.pointer (some ⟨w.heap.size,0,none⟩)),(5,fun v _=>v=.pointer (some ⟨b,0,none⟩)),(6,fun v _=>v=.pointer (some ⟨w.heap.size,0,none⟩)),(7,fun v _=>v=.int .i64 kr),(8,fun v _=>v=.string (str zn)),(9,fun v _=>v=.pointer (some ⟨w.heap.size,1,none⟩)),(10,fun v _=>v=.slice pp np cp),(11,fun v _=>v=.string (str zp)),(12,fun v _=>v=.pointer (some ⟨w.heap.size,2,none⟩)),(13,fun v _=>v=.slice pq nq cq),(14,fun v _=>v=.string (str zq)),(16,fun v _=>v=.bool true),(17,fun v _=>v=.bool true),(18,fun v _=>v=.pointer (some ⟨w.heap.size,3,none⟩)),(19,fun v _=>v=.slice pb nb cb),(20,fun v _=>v=.pointer (some ⟨b,0,none⟩)),(21,fun v _=>v=.func (.func 122) #[.pointer (some ⟨b,0,none⟩)] #[]),(22,fun v _=>v=.bool true),(23,fun v _=>v=.bool true),(24,fun v _=>v=.bool true),(25,fun v _=>v=.pointer (some ⟨b,0,none⟩)),(27,fun v _=>v=.bool (decide (t3.length≤40000))),(28,fun v _=>v=.bool (decide (t3.length≤40000))),(4,fun v _=>v=.bool (decide (t3.length≤40000))),(15,fun v w=>SRw b 6 #[.string ⟨#[102,117,110,99]⟩,.string (str zn),.string (str zp),.string ⟨#[45,62]⟩,.string (str zq),.string ⟨#[123]⟩] v w),(26,fun v w=>SRw b 1 #[.string ⟨#[125]⟩] v w)]:PTab)) (stW w1 B b (fun S=>(bif S 11 then (bif S 17 then (bif S 22 then some t3 else some t2) else some t1) else some t0))) (Wr B b) (outs:=[0,3]) (gs:=[(12,some true),(19,some true)]) (bs:=[true,true,true,true,true,true,true,true,true,true,true,true,true,true,true,true,true,true,true,true,true,true,true,true,true]) (by kernel_rfl) (n:=29) rfl (Nat.le_refl _) (by kernel_rfl) (PTab_stable _ ⟨fun _ _ _ _ h=>h,fun _ _ _ _ h=>h,fun _ _ _ _ h=>h,fun _ _ _ _ h=>h,fun _ _ _ _ h=>h,fun _ _ _ _ h=>h,fun _ _ _ _ h=>h,fun _ _ _ _ h=>h,fun _ _ _ _ h=>h,fun _ _ _ _ h=>h,fun _ _ _ _ h=>h,fun _ _ _ _ h=>h,fun _ _ _ _ h=>h,fun _ _ _ _ h=>h,fun _ _ _ _ h=>h,fun _ _ _ _ h=>h,fun _ _ _ _ h=>h,fun _ _ _ _ h=>h,fun _ _ _ _ h=>h,fun _ _ _ _ h=>h,fun _ _ _ _ h=>h,fun _ _ _ _ h=>h,fun _ _ _ _ h=>h,fun _ _ _ _ h=>h,fun _ _ _ _ h=>h,fun v w w' hr h=>h.on hr,fun v w w' hr h=>h.on hr,trivial⟩) ?hG (ST0) ⟨rfl,rfl,trivial⟩ ?hA ?hend
    case hG=>exact ⟨fun t ht v w h=>by cases ht;exact h,fun t ht v w h=>by cases ht;exact h,trivial⟩
    case hend=>exact fun vs S w' hS hW hk=>⟨rfl,vs,rfl,hk 4 (by kernel_rfl),⟨hW.1,hW.2 t3 (by show (bif S 11 then _ else _)=_;simp only [hS 11 (by decide),hS 17 (by decide),hS 22 (by decide),cond_true])⟩⟩
    case hA =>
      refine ⟨fun S ac wc h0 hd hc hW hk K hK=>?_,?_⟩
      · obtain ⟨q0,-⟩:=hk
        have q0:ac.tmps.getD 0 undef=.pointer (some ⟨b,0,none⟩):=q0
        go_simp
        exact hK _ _ (Wr.refl _ _ _) (hW) rfl
      refine ⟨fun S ac wc h0 hd hc hW hk K hK=>?_,?_⟩
      · obtain ⟨q0,-⟩:=hk
        have q0:ac.tmps.getD 3 undef=.pointer (some ⟨w.heap.size,0,none⟩):=q0
        go_simp
        exact hK _ _ (Wr.refl _ _ _) (hW) rfl
      refine ⟨fun S ac wc h0 hd hc hW hk K hK=>?_,?_⟩
      · obtain ⟨q0,-⟩:=hk
        have q0:ac.tmps.getD 6 undef=.pointer (some ⟨w.heap.size,0,none⟩):=q0
        have c0:=cellOf (hW.1.blk X2 m2 (by decide)) 0 _ rfl
        go_simp
        exact hK _ _ (Wr.refl _ _ _) (hW) rfl
      refine ⟨fun S ac wc h0 hd hc hW hk K hK=>?_,?_⟩
      · obtain ⟨q0,-⟩:=hk
        have q0:ac.tmps.getD 7 undef=.int .i64 kr:=q0
        go_simp
        refine (CN.out wc hW.1).mono ?_
        rintro r7 w7 ⟨rfl,b7⟩
        go_simp
        exact hK _ _ (Wr.of (hW.le HB.out) b7) (hW.rd HB.out b7) rfl
      refine ⟨fun S ac wc h0 hd hc hW hk K hK=>?_,?_⟩
      · obtain ⟨q0,-⟩:=hk
        have q0:ac.tmps.getD 3 undef=.pointer (some ⟨w.heap.size,0,none⟩):=q0
        go_simp
        exact hK _ _ (Wr.refl _ _ _) (hW) rfl
      refine ⟨fun S ac wc h0 hd hc hW hk K hK=>?_,?_⟩
      · obtain ⟨q0,-⟩:=hk
        have q0:ac.tmps.getD 9 undef=.pointer (some ⟨w.heap.size,1,none⟩):=q0
        have c0:=cellOf (hW.1.blk X2 m2 (by decide)) 1 _ rfl
        go_simp
        exact hK _ _ (Wr.refl _ _ _) (hW) rfl
      refine ⟨fun S ac wc h0 hd hc hW hk K hK=>?_,?_⟩
      · obtain ⟨q0,-⟩:=hk
        have q0:ac.tmps.getD 10 undef=.slice pp np cp:=q0
        go_simp
        refine (CP.out wc hW.1).mono ?_
        rintro r7 w7 ⟨rfl,b7⟩
        go_simp
        exact hK _ _ (Wr.of (hW.le HB.out) b7) (hW.rd HB.out b7) rfl
      refine ⟨fun S ac wc h0 hd hc hW hk K hK=>?_,?_⟩
      · obtain ⟨q0,-⟩:=hk
        have q0:ac.tmps.getD 3 undef=.pointer (some ⟨w.heap.size,0,none⟩):=q0
        go_simp
        exact hK _ _ (Wr.refl _ _ _) (hW) rfl
      refine ⟨fun S ac wc h0 hd hc hW hk K hK=>?_,?_⟩
      · obtain ⟨q0,-⟩:=hk
        have q0:ac.tmps.getD 12 undef=.pointer (some ⟨w.heap.size,2,none⟩):=q0
        have c0:=cellOf (hW.1.blk X2 m2 (by decide)) 2 _ rfl
        go_simp
        exact hK _ _ (Wr.refl _ _ _) (hW) rfl
      refine ⟨fun S ac wc h0 hd hc hW hk K hK=>?_,?_⟩
      · obtain ⟨q0,-⟩:=hk
        have q0:ac.tmps.getD 13 undef=.slice pq nq cq:=q0
        go_simp
        refine (CQ.out wc hW.1).mono ?_
        rintro r7 w7 ⟨rfl,b7⟩
        go_simp
        exact hK _ _ (Wr.of (hW.le HB.out) b7) (hW.rd HB.out b7) rfl
      refine ⟨fun S ac wc h0 hd hc hW hk K hK=>?_,?_⟩
      · obtain ⟨q0,q1,q2,-⟩:=hk
        have q0:ac.tmps.getD 8 undef=.string (str zn):=q0
        have q1:ac.tmps.getD 11 undef=.string (str zp):=q1
        have q2:ac.tmps.getD 14 undef=.string (str zq):=q2
        simp only [Array.getD_eq_getD_getElem?] at q0 q1 q2
        go_simp
        exact hK _ _ (Wr.of (hW.le HB.out) (bel1 _ _)) (hW.rd HB.out (bel1 _ _)) (SRw.new (B:=0) (bs:=[]) _ (hW.1.lt HL.out))
      refine ⟨fun S ac wc h0 hd hc hW hk K hK=>?_,?_⟩
      · obtain ⟨q0,q1,-⟩:=hk
        have q0:ac.tmps.getD 5 undef=.pointer (some ⟨b,0,none⟩):=q0
        have q1:(fun v w=>SRw b 6 #[.string ⟨#[102,117,110,99]⟩,.string (str zn),.string (str zp),.string ⟨#[45,62]⟩,.string (str zq),.string ⟨#[123]⟩] v w) (ac.tmps.getD 15 undef) wc:=q1
        generalize q1e:ac.tmps.getD 15 undef=uq1 at q1
        obtain ⟨h,rfl,hne,hb⟩:=q1
        have n11:S 11=false:=h0
        have n12:S 12=false:=hc.no 12 11 rfl (by kernel_rfl) n11
        have n17:S 17=false:=hc.no 17 12 rfl (by kernel_rfl) n12
        have hI:IsS B b t0 wc:=hW.2 t0 (by show (bif S 11 then _ else _)=_;simp only [n11,cond_true,cond_false])
        go_simp
        refine (CL1.out h wc hI (hW.le HB.out) hb).mono ?_
        rintro r7 w7 ⟨rfl,h7,b7⟩
        rw [decide_eq_true G1.out]
        go_simp
        exact hK _ _ b7 ⟨hW.1.trans b7,fun u hu=>by replace hu:(bif plus 11 S 11 then _ else _)=some u:=hu;simp only [plus,beq_self_eq_true,Bool.true_or,Bool.or_false,Bool.false_or,Nat.reduceBEq,Nat.reduceAdd,n17,cond_true,cond_false,Option.some.injEq] at hu;rw [← hu];exact h7⟩ rfl
      refine ⟨fun S ac wc h0 hd hc hW hk K hK=>?_,?_⟩
      · obtain ⟨q0,-⟩:=hk
        have q0:ac.tmps.getD 16 undef=.bool true:=q0
        go_simp
        exact hK _ _ (Wr.refl _ _ _) (hW) rfl
      refine ⟨fun S ac wc h0 hd hc hW hk K hK=>?_,?_⟩
      · obtain ⟨q0,-⟩:=hk
        have q0:ac.tmps.getD 3 undef=.pointer (some ⟨w.heap.size,0,none⟩):=q0
        go_simp
        exact hK _ _ (Wr.refl _ _ _) (hW) rfl
      refine ⟨fun S ac wc h0 hd hc hW hk K hK=>?_,?_⟩
      · obtain ⟨q0,-⟩:=hk
        have q0:ac.tmps.getD 18 undef=.pointer (some ⟨w.heap.size,3,none⟩):=q0
        have c0:=cellOf (hW.1.blk X2 m2 (by decide)) 3 _ rfl
        go_simp
        exact hK _ _ (Wr.refl _ _ _) (hW) rfl
      refine ⟨fun S ac wc h0 hd hc hW hk K hK=>?_,?_⟩
      · obtain ⟨q0,-⟩:=hk
        have q0:ac.tmps.getD 0 undef=.pointer (some ⟨b,0,none⟩):=q0
        go_simp
        exact hK _ _ (Wr.refl _ _ _) (hW) rfl
      refine ⟨fun S ac wc h0 hd hc hW hk K hK=>?_,?_⟩
      · obtain ⟨q0,-⟩:=hk
        have q0:ac.tmps.getD 20 undef=.pointer (some ⟨b,0,none⟩):=q0
        go_simp
        exact hK _ _ (Wr.refl _ _ _) (hW) rfl
      refine ⟨fun S ac wc h0 hd hc hW hk K hK=>?_,?_⟩
      · obtain ⟨q0,q1,-⟩:=hk
        have q0:ac.tmps.getD 19 undef=.slice pb nb cb:=q0
        have q1:ac.tmps.getD 21 undef=.func (.func 122) #[.pointer (some ⟨b,0,none⟩)] #[]:=q1
        have s12:S 12=true:=hd.at 12 (by kernel_rfl)
        have s11:S 11=true:=hc.yes 12 11 rfl (by kernel_rfl) s12
        have n17:S 17=false:=h0
        have n19:S 19=false:=hc.no 19 17 rfl (by kernel_rfl) n17
        have n22:S 22=false:=hc.no 22 19 rfl (by kernel_rfl) n19
        have hI:IsS B b t1 wc:=hW.2 t1 (by show (bif S 11 then _ else _)=_;simp only [s11,n17,cond_true,cond_false])
        go_simp
        refine (CE.out wc hW.1 hI).mono ?_
        rintro r7 w7 (⟨rfl,h8,b8⟩ | ⟨rfl,h8,b8⟩)
        · have b7:=h8.1.wr
          have h7:=h8.1.is
          go_simp
          exact hK _ _ b7 ⟨hW.1.trans b7,fun u hu=>by replace hu:(bif plus 17 S 11 then _ else _)=some u:=hu;simp only [plus,beq_self_eq_true,Bool.true_or,Bool.or_false,Bool.false_or,Nat.reduceBEq,Nat.reduceAdd,s11,n22,cond_true,cond_false,Option.some.injEq] at hu;rw [← hu];exact h7⟩ rfl
        · exact absurd G2.out h8.2
      refine ⟨fun S ac wc h0 hd hc hW hk K hK=>?_,?_⟩
      · obtain ⟨q0,q1,-⟩:=hk
        have q0:ac.tmps.getD 17 undef=.bool true:=q0
        have q1:ac.tmps.getD 22 undef=.bool true:=q1
        go_simp
        exact hK _ _ (Wr.refl _ _ _) (hW) rfl
      refine ⟨fun S ac wc h0 hd hc hW hk K hK=>?_,?_⟩
      · obtain ⟨q0,-⟩:=hk
        have q0:ac.tmps.getD 23 undef=.bool true:=q0
        go_simp
        exact hK _ _ (Wr.refl _ _ _) (hW) rfl
      refine ⟨fun S ac wc h0 hd hc hW hk K hK=>?_,?_⟩
      · obtain ⟨q0,-⟩:=hk
        have q0:ac.tmps.getD 0 undef=.pointer (some ⟨b,0,none⟩):=q0
        go_simp
        exact hK _ _ (Wr.refl _ _ _) (hW) rfl
      refine ⟨fun S ac wc h0 hd hc hW hk K hK=>?_,?_⟩
      · clear hk
        go_simp
        exact hK _ _ (Wr.of (hW.le HB.out) (bel1 _ _)) (hW.rd HB.out (bel1 _ _)) (SRw.new (B:=0) (bs:=[]) _ (hW.1.lt HL.out))
      refine ⟨fun S ac wc h0 hd hc hW hk K hK=>?_,?_⟩
      · obtain ⟨q0,q1,-⟩:=hk
        have q0:ac.tmps.getD 25 undef=.pointer (some ⟨b,0,none⟩):=q0
        have q1:(fun v w=>SRw b 1 #[.string ⟨#[125]⟩] v w) (ac.tmps.getD 26 undef) wc:=q1
        generalize q1e:ac.tmps.getD 26 undef=uq1 at q1
        obtain ⟨h,rfl,hne,hb⟩:=q1
        have s19:S 19=true:=hd.at 19 (by kernel_rfl)
        have s17:S 17=true:=hc.yes 19 17 rfl (by kernel_rfl) s19
        have s12:S 12=true:=hc.yes 17 12 rfl (by kernel_rfl) s17
        have s11:S 11=true:=hc.yes 12 11 rfl (by kernel_rfl) s12
        have n22:S 22=false:=h0
        have hI:IsS B b t2 wc:=hW.2 t2 (by show (bif S 11 then _ else _)=_;simp only [s11,s17,n22,cond_true,cond_false])
        go_simp
        refine (CL2.out h wc hI (hW.le HB.out) hb).mono ?_
        rintro r7 w7 ⟨rfl,h7,b7⟩
        go_simp
        exact hK _ _ b7 ⟨hW.1.trans b7,fun u hu=>by replace hu:(bif plus 22 S 11 then _ else _)=some u:=hu;simp only [plus,beq_self_eq_true,Bool.true_or,Bool.or_false,Bool.false_or,Nat.reduceBEq,Nat.reduceAdd,s11,s17,cond_true,cond_false,Option.some.injEq] at hu;rw [← hu];exact h7⟩ rfl
      refine ⟨fun S ac wc h0 hd hc hW hk K hK=>?_,?_⟩
      · obtain ⟨q0,q1,-⟩:=hk
        have q0:ac.tmps.getD 24 undef=.bool true:=q0
        have q1:ac.tmps.getD 27 undef=.bool (decide (t3.length≤40000)):=q1
        go_simp
        exact hK _ _ (Wr.refl _ _ _) (hW) rfl
      refine ⟨fun S ac wc h0 hd hc hW hk K hK=>?_,?_⟩
      · obtain ⟨q0,-⟩:=hk
        have q0:ac.tmps.getD 28 undef=.bool (decide (t3.length≤40000)):=q0
        go_simp
        exact hK _ _ (Wr.refl _ _ _) (hW) rfl
      trivial
  rintro vs wx ⟨hv0,hb⟩
  simp only [puts,Act.put,List.setIfInBounds_toArray,List.set_cons_zero,List.set_cons_succ,hv0]
  have Z:Hid (Parts B b t3 w (.returned (.bool (decide (t3.length≤40000)))) wx):=Parts.of hb.2 (W1.out.trans hb.1)
  clear hb
  go_wp2
  go_ret
  exact Z.out
theorem funcH_of {B b : Nat} {w : World} {kr : Int} {np cp nq cq nb cb : Nat} {pp pq pb : Option Addr} {zn zp zq t0 t1 t2 t3 : List UInt8}
    (hI:IsS B b t0 w) (hB:B≤w.heap.size):let w1:=(w.alloc (.cells #[.int .i64 kr,.slice pp np cp,.slice pq nq cq,.slice pb nb cb] 42));Hid ((w.alloc (.cells #[.int .i64 kr,.slice pp np cp,.slice pq nq cq,.slice pb nb cb] 42))=w1)∧Hid (IsS B b t0 w1)∧Hid (Wr B b w w1)∧Hid (B≤w1.heap.size)∧Hid (b<w1.heap.size)∧Blk w1 w.heap.size #[.int .i64 kr,.slice pp np cp,.slice pq nq cq,.slice pb nb cb] 42∧w.heap.size≠b:=by
  have b1:Below w.heap.size w (w.alloc (.cells #[.int .i64 kr,.slice pp np cp,.slice pq nq cq,.slice pb nb cb] 42)):=bel1 _ _
  have hl:=hI.lt
  exact ⟨rfl,bld_below hI b1,Wr.of hB b1,Nat.le_trans hB b1.size,Nat.lt_of_lt_of_le hl b1.size,Blk.new _ _ _,by omega⟩
theorem func_parts {B b : Nat} {w w1 : World} {kr : Int} {np cp nq cq nb cb : Nat} {pp pq pb : Option Addr} {zn zp zq t0 t1 t2 t3 : List UInt8} (H : FuncH B b w w1 kr np cp nq cq nb cb pp pq pb zn zp zq t0 t1 t2 t3) :
    Calls Tryz.prog 87 #[.pointer (some ⟨b,0,none⟩),.agg #[.int .i64 kr,.slice pp np cp,.slice pq nq cq,.slice pb nb cb]] w (Parts B b t3 w):=by
  by_cases g1:t1.length≤40000
  · by_cases g2:t2.length≤40000
    · exact func_yes H g1 g2
    · exact func_no1 H g1 g2
  · exact func_no0 H g1
end Go.Proofs.YtalfbnllodhkiacGreatDoor
namespace Go.Proofs.YtalfbnllodhkiacGreatDoor
set_option linter.unusedSimpArgs false
set_option linter.unusedVariables false
def Loc {α : Type} (k : Nat) (f g : Nat → PR α) : Prop := ∀ p v p', f p = .ok (v, p') → g (k + p) = .ok (v, k + p')
def Needs {α : Type} (l : List Tk) (f : Nat → PR α) : Prop := ∀ p v p', f p = .ok (v, p') → ∃ x, l[p]? = some x
section
variable {l l2 : List Tk} {e e2 k : Nat}
theorem Loc.andThen {α β : Type} {f g : Nat → PR α} {F G : α → Nat → PR β} (hf : Loc k f g) (hF : ∀ a, Loc k (F a) (G a)) : Loc k (fun p => (f p).andThen F) (fun p => (g p).andThen G) := fun p v p' h => by
  obtain ⟨a,p1,h1,h2⟩:=PR.andThen_ok h
  show (g (k+p)).andThen G=_
  rw [hf _ _ _ h1]
  exact hF a _ _ _ h2
theorem Loc.pure {α : Type} (v : α) : Loc k (fun p => (.ok (v, p) : PR α)) (fun p => .ok (v, p)) := fun p w p' h => by
  injection h with h
  injection h with h1 h2
  show (.ok (v,k+p):PR α)=_
  rw [h1,h2]
theorem Loc.next {α : Type} {f g : Nat → PR α} (h : Loc k f g) : Loc k (fun p => f (p + 1)) (fun p => g (p + 1)) := fun p v p' h1 => by
  have:=h _ _ _ h1
  rwa [← Nat.add_assoc] at this
theorem Needs.andThen {α β : Type} {f : Nat → PR α} {F : α → Nat → PR β} (hf : Needs l f) : Needs l (fun p => (f p).andThen F) := fun p v p' h => by
  obtain ⟨a,p1,h1,_⟩:=PR.andThen_ok h
  exact hf p a p1 h1
end
def scanB (f pos : Nat) (A : List UInt8) : Sc := scanF f (pos + blk false A) (A.drop (blk false A))
theorem scanB_next {f pos k : Nat} {A : List UInt8} {b : Bool} {n : Int} (h : tok (A.drop (blk false A)) = .ok k b n) :
    scanB (f+1) pos A=(scanB f (pos+blk false A+k) ((A.drop (blk false A)).drop k)).app [⟨pos+blk false A,(A.drop (blk false A)).take k,b,n⟩]:=by
  have hp:=tok_pos h
  unfold scanB
  rw [scanF,if_neg (fun e=>by rw [e] at hp;simp at hp;omega),h]
section
variable {l : List Tk} {e : Nat}
def Mon {α : Type} (l : List Tk) (f : Nat → PR α) : Prop := ∀ p v p', p ≤ l.length → f p = .ok (v, p') → p ≤ p' ∧ p' ≤ l.length
theorem Mon.andThen {α β : Type} {f : Nat → PR α} {F : α → Nat → PR β} (hf : Mon l f) (hF : ∀ a, Mon l (F a)) : Mon l (fun p => (f p).andThen F) := fun p v p' hp h => by
  obtain ⟨a,p1,h1,h2⟩:=PR.andThen_ok h
  obtain ⟨g1,g2⟩:=hf p a p1 hp h1
  obtain ⟨g3,g4⟩:=hF a p1 v p' g2 h2
  exact ⟨by omega,g4⟩
theorem Mon.pure {α : Type} (v : α) : Mon l (fun p => (.ok (v, p) : PR α)) := fun p w p' hp h => by
  injection h with h
  injection h with h1 h2
  omega
end
theorem parseM_app {M : Nat} : ∀ (l : List UInt8) (acc a : Nat) (r : List UInt8), Lib.parseUintM M acc l = .ok a → Lib.parseUintM M acc (l ++ r) = Lib.parseUintM M a r
  | [],acc,a,r,h=>by
    simp only [Lib.parseUintM] at h
    injection h with h
    rw [h,List.nil_append]
  | c::l,acc,a,r,h=>by
    rw [List.cons_append,Lib.parseUintM]
    rw [Lib.parseUintM] at h
    split at h
    · rename_i hc
      rw [if_pos hc]
      split at h
      · cases h
      · rename_i h1
        rw [if_neg h1]
        split at h
        · cases h
        · rename_i h2
          rw [if_neg h2]
          exact parseM_app l _ a r h
    · cases h
theorem dig_of {k : Nat} (h : k < 10) : (UInt8.ofNat (48 + k)).toNat = 48 + k := by
  simp [UInt8.toNat_ofNat'];omega
theorem parse_digits (u : Nat) (hu : u ≤ 18446744073709551615) : Lib.parseUintM (2 ^ 64 - 1) 0 (Lib.decDigits u) = .ok u := by
  induction u using Nat.strongRecOn with
  | _ u ih =>
    by_cases h:u<10
    · rw [Lib.decDigits_one h]
      have e:=dig_of h
      simp only [Lib.parseUintM,e]
      rw [if_pos (by omega),if_neg (by omega),if_neg (by omega)]
      congr 1;omega
    · rw [Lib.decDigits,dif_neg h,parseM_app _ _ _ _ (ih (u / 10) (by omega) (by omega))]
      have e:=dig_of (k:=u % 10) (by omega)
      simp only [Lib.parseUintM,e]
      rw [if_pos (by omega),if_neg (by omega),if_neg (by omega)]
      congr 1;omega
theorem digits_dig (u : Nat) : ∀ c ∈ Lib.decDigits u, digB c = true := by
  induction u using Nat.strongRecOn with
  | _ u ih =>
    intro c hc
    by_cases h:u<10
    · rw [Lib.decDigits_one h] at hc
      simp at hc
      have e:=dig_of h
      rw [hc]
      simp [digB,e];omega
    · rw [Lib.decDigits,dif_neg h] at hc
      rcases List.mem_append.1 hc with hc | hc
      · exact ih (u / 10) (by omega) c hc
      · simp at hc
        have e:=dig_of (k:=u % 10) (by omega)
        rw [hc]
        simp [digB,e];omega
theorem digits_ne (u : Nat) : Lib.decDigits u ≠ [] := by
  by_cases h:u<10
  · rw [Lib.decDigits_one h];simp
  · rw [Lib.decDigits,dif_neg h];simp
theorem dig_not {c : UInt8} (h : digB c = true) : c.toNat ≠ 45 ∧ c.toNat ≠ 43 ∧ letB c = false ∧ sigB c = false := by
  simp [digB] at h
  refine ⟨by omega,by omega,?_,?_⟩
  · simp [letB];omega
  · simp [sigB];omega
theorem itoa_form (v : Int) (hv : -9223372036854775808 ≤ v ∧ v ≤ 9223372036854775807) : numOf (Lib.itoa v) = some v ∧ ∃ c l, Lib.itoa v = c :: l ∧ (∀ d ∈ l, digB d = true) ∧ (digB c = true ∨ (c = 45 ∧ ∃ d r, l = d :: r ∧ digB d = true)) := by
  by_cases h:v<0
  · obtain ⟨u,rfl⟩:∃ u:Nat,v=-(u:Int):=⟨v.natAbs,by omega⟩
    have h1:1≤u:=by omega
    have hp:=parse_digits u (by omega)
    have hn:=digits_ne u
    have e:Lib.itoa (-(u:Int))=45::Lib.decDigits u:=Lib.itoa_neg u h1
    have hd:=digits_dig u
    refine ⟨?_,45,_,e,hd,.inr ⟨rfl,?_⟩⟩
    · rw [numOf,e]
      have:Lib.parseIntB 64 (45::Lib.decDigits u)=.ok (-(u:Int)):=by
        unfold Lib.parseIntB
        simp only
        rw [if_pos (.inr rfl)]
        unfold Lib.parseUintB
        rw [if_neg hn,hp]
        simp only
        rw [if_neg (by rintro ⟨a,_⟩;exact a rfl),if_neg (by rintro ⟨_,a⟩;omega)]
        rfl
      rw [this]
      simp only
      rw [if_pos e]
    · cases hx:Lib.decDigits u with
      | nil=>exact absurd hx hn
      | cons d r=>exact ⟨d,r,rfl,hd d (by rw [hx];simp)⟩
  · obtain ⟨u,rfl⟩:∃ u:Nat,v=(u:Int):=⟨v.toNat,by omega⟩
    have hp:=parse_digits u (by omega)
    have hn:=digits_ne u
    have e:Lib.itoa (u:Int)=Lib.decDigits u:=Lib.itoa_nonneg u
    have hd:=digits_dig u
    cases hx:Lib.decDigits u with
    | nil=>exact absurd hx hn
    | cons d r =>
      have hd0:=hd d (by rw [hx];simp)
      obtain ⟨q1,q2,_,_⟩:=dig_not hd0
      refine ⟨?_,d,r,by rw [e,hx],fun c hc=>hd c (by rw [hx];simp [hc]),.inl hd0⟩
      rw [numOf,e,hx]
      have:Lib.parseIntB 64 (d::r)=.ok (u:Int):=by
        unfold Lib.parseIntB
        simp only
        rw [if_neg (by rintro (a | a);exact q2 a;exact q1 a)]
        unfold Lib.parseUintB
        rw [if_neg (by simp),← hx,hp]
        simp only
        rw [if_neg (by rintro ⟨_,a⟩;omega),if_neg (by rintro ⟨a,_⟩;exact q1 a),if_neg q1]
      rw [this]
      simp only
      rw [if_pos (by rw [e,hx])]
abbrev TV := List UInt8 × Bool × Int
def tv (x : Tk) : TV := (x.text, x.num, x.n)
def wK (s : List UInt8) : TV := (s, false, 0)
def nK (n : Int) : TV := (Lib.itoa n, true, n)
def SBk (s : List UInt8) (ts : List TV) : Prop := ∀ pos f, s.length < f → ∃ us, scanB f pos s = .ok us ∧ us.map tv = ts
def cutB : List UInt8 → Bool
  | []=>true
  | c::_=>!letB c && !digB c
theorem SBk.nil : SBk [] [] := fun pos f h => ⟨[], by
  obtain ⟨g,rfl⟩:∃ g,f=g+1:=⟨f - 1,by simp at h;omega⟩
  simp [scanB,scanF,blk],rfl⟩
theorem SBk.blank {c : UInt8} {s : List UInt8} {ts : List TV} (hc : blB c = true) (h : SBk s ts) : SBk (c :: s) ts := fun pos f hf => by
  obtain ⟨us,h1,h2⟩:=h (pos+1) f (by simp at hf;omega)
  refine ⟨us,?_,h2⟩
  unfold scanB at h1 ⊢
  rw [blk_blank hc,List.drop_succ_cons,show pos+(blk false s+1)=pos+1+blk false s by omega]
  exact h1
theorem SBk.tok {a s : List UInt8} {ts : List TV} {b : Bool} {n : Int} (ht : tok (a ++ s) = .ok a.length b n) (h : SBk s ts) : SBk (a ++ s) ((a, b, n) :: ts) := fun pos f hf => by
  have hp:=tok_pos ht
  have hb:blk false (a++s)=0:=by
    cases a with
    | nil=>simp at hp
    | cons c a =>
      rw [List.cons_append] at ht ⊢
      obtain ⟨q1,q2⟩:=tok_head ht
      exact blk_none q1 q2
  obtain ⟨g,rfl⟩:∃ g,f=g+1:=⟨f - 1,by omega⟩
  obtain ⟨us,h1,h2⟩:=h (pos+blk false (a++s)+a.length) g (by simp at hf;omega)
  refine ⟨⟨pos+blk false (a++s),a,b,n⟩::us,?_,by simp [h2,tv]⟩
  have ht':Go.Proofs.YtalfbnllodhkiacGreatDoor.tok ((a++s).drop (blk false (a++s)))=.ok a.length b n:=by rw [hb];exact ht
  rw [scanB_next ht']
  have e1:((a++s).drop (blk false (a++s))).drop a.length=s:=by rw [hb];simp
  have e2:((a++s).drop (blk false (a++s))).take a.length=a:=by rw [hb];simp
  rw [e1,e2,h1]
  rfl
theorem pre_all {p : UInt8 → Bool} : ∀ (l s : List UInt8), (∀ c ∈ l, p c = true) → (s.head?.any p = false) → pre p (l ++ s) = l.length
  | [],s,h,hs=>by
    cases s with
    | nil=>rfl
    | cons d s=>simp at hs;simp [pre,hs]
  | c::l,s,h,hs=>by
    rw [List.cons_append,pre_yes (h c (by simp)),pre_all l s (fun d hd=>h d (by simp [hd])) hs,List.length_cons]
theorem cut_let {s : List UInt8} (h : cutB s = true) : s.head?.any letB = false ∧ s.head?.any digB = false := by
  cases s with
  | nil=>exact ⟨rfl,rfl⟩
  | cons c s=>simpa [cutB] using h
theorem SBk.word {a s : List UInt8} {ts : List TV} (ha : ∀ c ∈ a, letB c = true) (hn : a ≠ []) (hc : cutB s = true) (h : SBk s ts) : SBk (a ++ s) (wK a :: ts) := by
  refine SBk.tok ?_ h
  cases a with
  | nil=>exact absurd rfl hn
  | cons c a =>
    have e:=pre_all (c::a) s ha (cut_let hc).1
    have h1:letB c=true:=ha c (by simp)
    have ht:tokLen (c::a++s)=((c::a).length,false):=by
      rw [List.cons_append] at e ⊢
      simp only [tokLen,h1,if_true,e]
    unfold Go.Proofs.YtalfbnllodhkiacGreatDoor.tok
    rw [ht]
    simp
theorem SBk.sign {c : UInt8} {s : List UInt8} {ts : List TV} (hc : sigB c = true) (h : SBk s ts) : SBk (c :: s) (wK [c] :: ts) := by
  refine SBk.tok (a:=[c]) ?_ h
  have h1:letB c=false:=by
    cases hl:letB c with
    | false=>rfl
    | true=>simp [letB] at hl;simp [sigB] at hc;omega
  have ht:tokLen ([c]++s)=(1,false):=by
    simp [tokLen,h1,hc]
  unfold Go.Proofs.YtalfbnllodhkiacGreatDoor.tok
  rw [ht]
  simp
theorem SBk.arrow {s : List UInt8} {ts : List TV} (h : SBk s ts) : SBk (45 :: 62 :: s) (wK sArrow :: ts) := by
  refine SBk.tok (a:=[45,62]) ?_ h
  have h1:letB 45=false:=rfl
  have h2:sigB 45=false:=rfl
  have ht:tokLen ([45,62]++s)=(2,false):=by
    simp [tokLen,h1,h2]
  unfold Go.Proofs.YtalfbnllodhkiacGreatDoor.tok
  rw [ht]
  simp
theorem SBk.num {v : Int} {s : List UInt8} {ts : List TV} (hv : -9223372036854775808 ≤ v ∧ v ≤ 9223372036854775807) (hc : cutB s = true) (h : SBk s ts) : SBk (Lib.itoa v ++ s) (nK v :: ts) := by
  refine SBk.tok ?_ h
  obtain ⟨h1,c,l,e,h2,h3⟩:=itoa_form v hv
  have hp:=pre_all l s h2 (cut_let hc).2
  have hnl:letB c=false∧sigB c=false:=by
    rcases h3 with h3 | ⟨rfl,_⟩
    · exact ⟨(dig_not h3).2.2.1,(dig_not h3).2.2.2⟩
    · exact ⟨rfl,rfl⟩
  have hna:¬ (c.toNat=45∧(l++s).head?.any (fun d=>d.toNat==62)=true):=by
    rintro ⟨a,b⟩
    rcases h3 with h3 | ⟨_,d,r,rfl,hd⟩
    · exact (dig_not h3).1 a
    · simp at b
      simp [digB,b] at hd
  have hy:digB c=true∨(c.toNat=45∧(l++s).head?.any digB=true):=by
    rcases h3 with h3 | ⟨rfl,d,r,rfl,hd⟩
    · exact .inl h3
    · exact .inr ⟨rfl,by simp [hd]⟩
  have ht:tokLen (Lib.itoa v++s)=((Lib.itoa v).length,true):=by
    rw [e,List.cons_append]
    simp only [tokLen,hnl.1,hnl.2,Bool.false_eq_true,if_false,if_neg hna,if_pos hy,hp,List.length_cons]
  unfold Go.Proofs.YtalfbnllodhkiacGreatDoor.tok
  rw [ht]
  simp only [if_true,List.take_left',h1]
  rw [if_neg (by rw [e];simp)]
def Pc (a : List UInt8) (k : List TV) : Prop := ∀ s ts, cutB s = true → SBk s ts → SBk (a ++ s) (k ++ ts)
theorem cut_app {a s : List UInt8} (ha : cutB a = true) (hs : cutB s = true) : cutB (a ++ s) = true := by
  cases a with
  | nil=>exact hs
  | cons c a=>exact ha
section
variable {a b : List UInt8} {k j : List TV}
theorem Pc.nil : Pc [] [] := fun s ts hs h => h
theorem Pc.blank {c : UInt8} (hc : blB c = true) (h : Pc a k) : Pc (c :: a) k := fun s ts hs h1 => SBk.blank hc (h s ts hs h1)
theorem Pc.sign {c : UInt8} (hc : sigB c = true) (h : Pc a k) : Pc (c :: a) (wK [c] :: k) := fun s ts hs h1 => SBk.sign hc (h s ts hs h1)
theorem Pc.arrow (h : Pc a k) : Pc (45 :: 62 :: a) (wK sArrow :: k) := fun s ts hs h1 => SBk.arrow (h s ts hs h1)
theorem Pc.word {w : List UInt8} (hw : w.all letB = true) (hn : w ≠ []) (ha : cutB a = true) (h : Pc a k) : Pc (w ++ a) (wK w :: k) := fun s ts hs h1 => by
  rw [List.append_assoc,List.cons_append]
  exact SBk.word (List.all_eq_true.1 hw) hn (cut_app ha hs) (h s ts hs h1)
theorem Pc.num {v : Int} (hv : -9223372036854775808 ≤ v ∧ v ≤ 9223372036854775807) (ha : cutB a = true) (h : Pc a k) : Pc (Lib.itoa v ++ a) (nK v :: k) := fun s ts hs h1 => by
  rw [List.append_assoc,List.cons_append]
  exact SBk.num hv (cut_app ha hs) (h s ts hs h1)
theorem Pc.app (h1 : Pc a k) (hb : cutB b = true) (h2 : Pc b j) : Pc (a ++ b) (k ++ j) := fun s ts hs h => by
  rw [List.append_assoc,List.append_assoc]
  exact h1 _ _ (cut_app hb hs) (h2 s ts hs h)
theorem Pc.flat {α : Type} {t : α → List UInt8} {q : α → List TV} : ∀ {l : List α}, (∀ x ∈ l, Pc (t x) (q x) ∧ cutB (t x) = true) → Pc (l.flatMap t) (l.flatMap q)
  | [],h=>Pc.nil
  | x::l,h=>by
    rw [List.flatMap_cons,List.flatMap_cons]
    have ih:=Pc.flat (t:=t) (q:=q) (l:=l) fun y hy=>h y (by simp [hy])
    refine (h x (by simp)).1.app ?_ ih
    cases l with
    | nil=>rfl
    | cons y l=>rw [List.flatMap_cons];exact cut_app (h y (by simp)).2 (by
        cases hz:l.flatMap t with
        | nil=>rfl
        | cons c z =>
          clear ih
          induction l with
          | nil=>simp at hz
          | cons u l ih =>
            rw [List.flatMap_cons] at hz
            cases hu:t u with
            | nil=>rw [hu,List.nil_append] at hz;exact ih (fun y hy=>h y (by simp at hy ⊢;rcases hy with h | h | h <;> simp [h])) hz
            | cons d r =>
              rw [hu,List.cons_append] at hz
              injection hz with hz1 hz2
              have:=(h u (by simp)).2
              rw [hu,hz1] at this
              exact this)
end
def comK : List (List TV) → List TV
  | []=>[]
  | x::xs=>x++xs.flatMap (fun y=>wK [44]::y)
theorem cat_pc {α : Type} {t : α → List UInt8} {q : α → List TV} {l : List α} (h : ∀ x ∈ l, Pc (t x) (q x)) : Pc (catL (l.map t)) (comK (l.map q)) := by
  cases l with
  | nil=>exact Pc.nil
  | cons x l =>
    rw [List.map_cons,List.map_cons,catL,comK,List.flatMap_map,List.flatMap_map]
    refine (h x (by simp)).app ?_ (Pc.flat fun y hy=>⟨.sign rfl (.blank rfl (h y (by simp [hy]))),rfl⟩)
    cases l with
    | nil=>rfl
    | cons y l=>rfl
abbrev N64 (v : Int) : Prop := -9223372036854775808 ≤ v ∧ v ≤ 9223372036854775807
def tsOk {n : Nat} (l : List (TT n)) : Prop := l.length ≤ 8 ∧ ∀ t ∈ l, ∃ regs : Int, regs ≤ 16 ∧ t.check regs = 0
structure MBlock.fine {n : Nat} (x : MBlock n) (funcs : Nat) : Prop where
  regs:0≤x.regs∧x.regs≤16
  params:tsOk x.params
  code:∀ y∈x.code,y.form funcs=0
  fin:∃ nb,nb≤12∧x.fin.form nb=0
structure MFunc.fine {n : Nat} (x : MFunc n) (funcs : Nat) : Prop where
  regs:0≤x.regs∧x.regs≤6
  params:tsOk x.params
  results:tsOk x.results
  blocks:∀ y∈x.blocks,y.fine funcs
theorem firstF_all {α : Type} {f : Nat → α → Int × Int} : ∀ {l : List α} {j : Nat}, (firstF f j l).1 = 0 → ∀ (i : Nat) x, l[i]? = some x → (f (j + i) x).1 = 0
  | [],j,h,i,x,hx=>by simp at hx
  | y::l,j,h,i,x,hx=>by
    rw [firstF] at h
    by_cases h0:(f j y).1=0
    · rw [if_neg (by simpa using h0)] at h
      cases i with
      | zero=>simp at hx;subst hx;exact h0
      | succ i =>
        have:=firstF_all h i x (by simpa using hx)
        rwa [show j+1+i=j+(i+1) by omega] at this
    · rw [if_pos h0] at h
      exact absurd h h0
theorem ts_of {n : Nat} {regs : Int} {l : List (TT n)} (hr : regs ≤ 16) (h : listC regs l = 0) : tsOk l := by
  unfold listC at h
  split at h
  · cases h
  · exact ⟨by omega,fun t ht=>⟨regs,hr,firstL_zero_iff.1 h t ht⟩⟩
theorem block_of {n funcs f b : Nat} {fn : MFunc n} {x : MBlock n} (h0 : 0 ≤ fn.regs) (hb : fn.blocks.length ≤ 12) (h : (MBlock.fault funcs f fn b x).1 = 0) : x.fine funcs := by
  unfold MBlock.fault at h
  split at h
  · cases h
  rename_i h1
  split at h
  · rename_i h2;exact absurd h h2
  rename_i h2
  split at h
  · cases h
  split at h
  · cases h
  split at h
  · rename_i h5;exact absurd h h5
  rename_i h5
  split at h
  · rename_i h6;exact absurd h h6
  rename_i h6
  refine ⟨by omega,ts_of (by omega) (Decidable.not_not.1 h2),fun y hy=>?_,_,hb,Decidable.not_not.1 h6⟩
  obtain ⟨i,hi⟩:=List.getElem?_of_mem hy
  exact firstF_all (Decidable.not_not.1 h5) i y hi
theorem func_of {n funcs f : Nat} {x : MFunc n} (h : (MFunc.fault funcs f x).1 = 0) : x.fine funcs := by
  unfold MFunc.fault at h
  split at h
  · cases h
  rename_i h1
  split at h
  · rename_i h2;exact absurd h h2
  rename_i h2
  split at h
  · rename_i h3;exact absurd h h3
  rename_i h3
  split at h
  · cases h
  rename_i h4
  split at h
  · cases h
  refine ⟨by omega,ts_of (by omega) (Decidable.not_not.1 h2),ts_of (by omega) (Decidable.not_not.1 h3),fun y hy=>?_⟩
  obtain ⟨i,hi⟩:=List.getElem?_of_mem hy
  exact block_of (by omega) (by omega) (firstF_all h i y hi)
theorem mod_of {n : Nat} {m : List (MFunc n)} (h : (modFault m).1 = 0) : ∀ x ∈ m, x.fine m.length := by
  unfold modFault at h
  split at h
  · cases h
  intro x hx
  obtain ⟨i,hi⟩:=List.getElem?_of_mem hx
  exact func_of (firstF_all h i x hi)
def numsK (b f : UInt8) (l : List Int) : List TV := wK [b] :: (comK (l.map fun n => [nK n]) ++ [wK [f]])
def TT.tk : {n : Nat} → TT n → List TV
  | 0,t=>Empty.elim t
  | n+1,t =>
    if t.1=2 then [wK wHandle,nK t.2.1]
    else if t.1=4 then [wK wArray,nK t.2.1]
    else if t.1=3 then wK wTuple::nK t.2.1::wK [40]::(comK (t.2.2.map (TT.tk (n:=n)))++[wK [41]])
    else [wK wInt]
def typsK {n : Nat} (l : List (TT n)) : List TV := wK [40] :: (comK (l.map TT.tk) ++ [wK [41]])
def MTo.tk (t : MTo) : List TV := nK t.block :: (numsK 60 62 t.regs ++ numsK 40 41 t.args)
def MIns.rk (x : MIns) : List TV :=
  if x.op=1 then [nK x.n]
  else if x.op=2 then [wK (wordAt kindWords x.k),nK x.a,nK x.b]
  else if x.op=5 then nK x.a::numsK 40 41 x.args
  else if x.op=6 then [nK x.a,nK x.k]
  else if x.op=7 then [nK x.a,nK x.k,nK x.b]
  else if x.op=14 then nK x.k::(numsK 60 62 x.regs++numsK 40 41 x.args)
  else if x.op=4∨x.op=11∨x.op=13 then [nK x.a]
  else if x.op=8∨x.op=9 then [nK x.a,nK x.b]
  else if x.op=10 then [nK x.a,nK x.b,nK x.c]
  else []
def MIns.tk (x : MIns) : List TV := wK (wordAt opWords x.op) :: (x.rk ++ [wK [59]])
def MEnd.ek (e : MEnd) : List TV :=
  if e.op=1 then wK wJump::e.yes.tk
  else if e.op=2 then wK wIf::nK e.a::wK wTo::(e.yes.tk++wK wElse::e.no.tk)
  else wK wRet::numsK 40 41 e.args
def MEnd.tk (e : MEnd) : List TV := e.ek ++ [wK [59]]
def MBlock.tk {n : Nat} (x : MBlock n) : List TV := wK wBlock :: nK x.regs :: (typsK x.params ++ wK [123] :: (x.code.flatMap MIns.tk ++ (x.fin.tk ++ [wK [125]])))
def MFunc.tk {n : Nat} (x : MFunc n) : List TV := wK wFunc :: nK x.regs :: (typsK x.params ++ wK sArrow :: (typsK x.results ++ wK [123] :: (x.blocks.flatMap MBlock.tk ++ [wK [125]])))
theorem num_n64 {v : Int} (h : numB v = true) : N64 v := by simp [numB] at h; constructor <;> omega
theorem Pc.num1 {v : Int} (hv : N64 v) : Pc (Lib.itoa v) [nK v] := by
  have:=Pc.num (a:=[]) (k:=[]) hv rfl Pc.nil
  rwa [List.append_nil] at this
theorem Pc.nT {v : Int} (hv : N64 v) : Pc (nT v) [nK v] := Pc.blank rfl (Pc.num1 hv)
theorem Pc.word1 {w : List UInt8} (hw : w.all letB = true) (hn : w ≠ []) : Pc w [wK w] := by
  have:=Pc.word (a:=[]) (k:=[]) hw hn rfl Pc.nil
  rwa [List.append_nil] at this
theorem Pc.ints {b f : UInt8} {l : List Int} (hb : sigB b = true) (hf : sigB f = true) (hc : cutB [f] = true) (hl : l.all numB = true) : Pc (intsT b f l) (numsK b f l) :=
  Pc.sign hb (Pc.app (cat_pc fun v hv=>Pc.num1 (num_n64 (List.all_eq_true.1 hl v hv))) hc (Pc.sign hf Pc.nil))
theorem own_zero {k r regs : Int} {len : Nat} (hr : regs ≤ 16) (h : ownC k r len regs = 0) : (k = 1 ∨ k = 2 ∨ k = 3 ∨ k = 4) ∧ (k = 1 → r = 0) ∧ (k ≠ 3 → len = 0) ∧ len ≤ 8 ∧ 0 ≤ r ∧ r ≤ 16 := by
  unfold ownC at h
  split at h
  · cases h
  split at h
  · cases h
  split at h
  · cases h
  split at h
  · cases h
  split at h
  · cases h
  omega
theorem Pc.typ : {n : Nat} → {t : TT n} → {regs : Int} → regs ≤ 16 → t.fault regs = 0 → Pc t.txt t.tk
  | 0,t,_,_,_=>Empty.elim t
  | n+1,t,regs,hr,h=>by
    obtain ⟨h1,h2⟩:=TT.fault_zero h
    obtain ⟨g1,g2,g3,g4,g5,g6⟩:=own_zero hr h1
    have hi:N64 t.2.1:=⟨by omega,by omega⟩
    have ih:Pc (catL (t.2.2.map (TT.txt (n:=n)))) (comK (t.2.2.map (TT.tk (n:=n)))):=cat_pc fun x hx=>Pc.typ hr (h2 x hx)
    rw [TT.txt,TT.tk]
    split
    · exact Pc.word (w:=wHandle) rfl (by decide) rfl (Pc.blank rfl (Pc.num1 hi))
    split
    · exact Pc.word (w:=wArray) rfl (by decide) rfl (Pc.blank rfl (Pc.num1 hi))
    split
    · have h3:Pc (40::(catL (t.2.2.map (TT.txt (n:=n)))++[41])) (wK [40]::(comK (t.2.2.map (TT.tk (n:=n)))++[wK [41]])):=Pc.sign rfl (ih.app rfl (Pc.sign rfl Pc.nil))
      have:=Pc.word (w:=wTuple) rfl (by decide) rfl (Pc.blank (c:=32) rfl (Pc.num hi (a:=32::40::(catL (t.2.2.map (TT.txt (n:=n)))++[41])) rfl (Pc.blank rfl h3)))
      have e:[116,117,112,108,101,32]++Lib.itoa t.2.1++[32,40]++catL (t.2.2.map (TT.txt (n:=n)))++[41]=wTuple++32::(Lib.itoa t.2.1++32::40::(catL (t.2.2.map (TT.txt (n:=n)))++[41])):=by simp [wTuple]
      rw [e]
      exact this
    · exact Pc.word1 (w:=wInt) rfl (by decide)
theorem check_fault {n : Nat} {t : TT n} {regs : Int} (h : t.check regs = 0) : t.height ≤ 4 ∧ t.fault regs = 0 := by
  unfold TT.check at h
  split at h
  · cases h
  · exact ⟨by omega,h⟩
theorem Pc.typs {n : Nat} {l : List (TT n)} (h : tsOk l) : Pc (typsT l) (typsK l) :=
  Pc.sign rfl (Pc.app (cat_pc fun t ht=>by obtain ⟨r,hr,hc⟩:=h.2 t ht;exact Pc.typ hr (check_fault hc).2) rfl (Pc.sign rfl Pc.nil))
theorem Pc.to {t : MTo} (hb : N64 t.block) (h : t.nums = true) : Pc t.txt t.tk := by
  simp only [MTo.nums,Bool.and_eq_true] at h
  exact Pc.num hb rfl (Pc.app (a:=32::intsT 60 62 t.regs) (Pc.blank rfl (Pc.ints rfl rfl rfl h.1)) rfl (Pc.blank rfl (Pc.ints rfl rfl rfl h.2)))
theorem ropcases {op : Int} (h : (fieldsOf op).isNone = false) : op = 1 ∨ op = 2 ∨ op = 3 ∨ op = 4 ∨ op = 5 ∨ op = 6 ∨ op = 7 ∨ op = 8 ∨ op = 9 ∨ op = 10 ∨ op = 11 ∨ op = 12 ∨ op = 13 ∨ op = 14 := by
  unfold fieldsOf at h
  repeat' split at h
  all_goals first | omega | cases h
theorem form_zero {funcs : Nat} {x : MIns} (h : x.form funcs = 0) : (fieldsOf x.op).isNone = false ∧ x.formless = false ∧ (x.op = 2 → 1 ≤ x.k ∧ x.k ≤ 9) ∧ (x.args.length ≤ 8 ∨ x.op ≠ 5 ∧ x.op ≠ 14) ∧ (x.op = 14 → x.regs.length ≤ 6) := by
  unfold MIns.form at h
  split at h
  · cases h
  split at h
  · cases h
  split at h
  · cases h
  split at h
  · cases h
  split at h
  · cases h
  split at h
  · cases h
  split at h
  · cases h
  rename_i h1 h2 h3 h4 h5 h6 h7
  refine ⟨Bool.eq_false_iff.2 h1,Bool.eq_false_iff.2 h2,by omega,by omega,by omega⟩
theorem kind_word {k : Int} (h : 1 ≤ k ∧ k ≤ 9) : (wordAt kindWords k).all letB = true ∧ wordAt kindWords k ≠ [] := by
  have:k=1∨k=2∨k=3∨k=4∨k=5∨k=6∨k=7∨k=8∨k=9:=by omega
  rcases this with rfl | rfl | rfl | rfl | rfl | rfl | rfl | rfl | rfl <;> exact ⟨by decide,by decide⟩
theorem op_word {k : Int} (h : (fieldsOf k).isNone = false) : (wordAt opWords k).all letB = true ∧ wordAt opWords k ≠ [] := by
  rcases ropcases h with rfl | rfl | rfl | rfl | rfl | rfl | rfl | rfl | rfl | rfl | rfl | rfl | rfl | rfl <;> exact ⟨by decide,by decide⟩
theorem Pc.rest {funcs : Nat} {x : MIns} (hn : N64 x.n) (hf : x.form funcs = 0) (h : x.nums = true) : Pc x.rest x.rk ∧ cutB x.rest = true := by
  simp only [MIns.nums,List.all_cons,List.all_nil,Bool.and_eq_true,Bool.and_true] at h
  obtain ⟨⟨ha,hb,hc,hk⟩,hr,hg⟩:=h
  have ha:=num_n64 ha
  have hb:=num_n64 hb
  have hc:=num_n64 hc
  have hk:=num_n64 hk
  have f:=form_zero hf
  unfold MIns.rest MIns.rk
  by_cases h1:x.op=1
  · rw [if_pos h1,if_pos h1];exact ⟨Pc.nT hn,rfl⟩
  rw [if_neg h1,if_neg h1]
  by_cases h2:x.op=2
  · rw [if_pos h2,if_pos h2]
    have kw:=kind_word (f.2.2.1 h2)
    exact ⟨Pc.blank rfl (Pc.word kw.1 kw.2 rfl (Pc.app (Pc.nT ha) rfl (Pc.nT hb))),rfl⟩
  rw [if_neg h2,if_neg h2]
  by_cases h3:x.op=5
  · rw [if_pos h3,if_pos h3]
    exact ⟨Pc.app (Pc.nT ha) rfl (Pc.blank rfl (Pc.ints rfl rfl rfl hg)),rfl⟩
  rw [if_neg h3,if_neg h3]
  by_cases h4:x.op=6
  · rw [if_pos h4,if_pos h4]
    exact ⟨Pc.app (Pc.nT ha) rfl (Pc.nT hk),rfl⟩
  rw [if_neg h4,if_neg h4]
  by_cases h5:x.op=7
  · rw [if_pos h5,if_pos h5]
    exact ⟨Pc.app (Pc.nT ha) rfl (Pc.app (Pc.nT hk) rfl (Pc.nT hb)),rfl⟩
  rw [if_neg h5,if_neg h5]
  by_cases h6:x.op=14
  · rw [if_pos h6,if_pos h6]
    exact ⟨Pc.app (Pc.nT hk) rfl (Pc.app (a:=32::intsT 60 62 x.regs) (Pc.blank rfl (Pc.ints rfl rfl rfl hr)) rfl (Pc.blank rfl (Pc.ints rfl rfl rfl hg))),rfl⟩
  rw [if_neg h6,if_neg h6]
  by_cases h7:x.op=4∨x.op=11∨x.op=13
  · rw [if_pos h7,if_pos h7];exact ⟨Pc.nT ha,rfl⟩
  rw [if_neg h7,if_neg h7]
  by_cases h8:x.op=8∨x.op=9
  · rw [if_pos h8,if_pos h8];exact ⟨Pc.app (Pc.nT ha) rfl (Pc.nT hb),rfl⟩
  rw [if_neg h8,if_neg h8]
  by_cases h9:x.op=10
  · rw [if_pos h9,if_pos h9];exact ⟨Pc.app (Pc.nT ha) rfl (Pc.app (Pc.nT hb) rfl (Pc.nT hc)),rfl⟩
  rw [if_neg h9,if_neg h9]
  exact ⟨Pc.nil,rfl⟩
def Cl (a : List UInt8) (k : List TV) : Prop := ∀ s ts, SBk s ts → SBk (a ++ s) (k ++ ts)
theorem Cl.nil : Cl [] [] := fun s ts h => h
theorem Cl.app {a b : List UInt8} {k j : List TV} (h1 : Cl a k) (h2 : Cl b j) : Cl (a ++ b) (k ++ j) := fun s ts h => by
  rw [List.append_assoc,List.append_assoc]
  exact h1 _ _ (h2 s ts h)
theorem Cl.flat {α : Type} {t : α → List UInt8} {q : α → List TV} : ∀ {l : List α}, (∀ x ∈ l, Cl (t x) (q x)) → Cl (l.flatMap t) (l.flatMap q)
  | [],h=>Cl.nil
  | x::l,h=>by
    rw [List.flatMap_cons,List.flatMap_cons]
    exact (h x (by simp)).app (Cl.flat fun y hy=>h y (by simp [hy]))
theorem Cl.sign {a : List UInt8} {k : List TV} {c : UInt8} (hc : sigB c = true) (hx : cutB [c] = true) (h : Pc a k) : Cl (a ++ [c, 10]) (k ++ [wK [c]]) := fun s ts h1 => by
  rw [List.append_assoc,List.append_assoc]
  exact h _ _ hx (SBk.sign hc (SBk.blank rfl h1))
theorem Pc.line {a : List UInt8} {k : List TV} (h : Pc a k) : Cl (lineT a) (k ++ [wK [59]]) := fun s ts h1 => SBk.blank rfl (Cl.sign rfl rfl h s ts h1)
theorem Pc.ins {funcs : Nat} {x : MIns} (hn : N64 x.n) (hf : x.form funcs = 0) (h : x.nums = true) : Cl (lineT x.txt) x.tk := by
  obtain ⟨h1,h2⟩:=Pc.rest hn hf h
  obtain ⟨w1,w2⟩:=op_word (form_zero hf).1
  exact Pc.line (k:=wK (wordAt opWords x.op)::x.rk) (Pc.word w1 w2 h2 h1)
theorem to_zero {nb : Nat} {has : Bool} {t : MTo} (hb : nb ≤ 12) (h : t.form nb has = 0) : 0 ≤ t.block ∧ t.block ≤ 12 ∧ t.regs.length ≤ 16 ∧ t.args.length ≤ 8 ∧ (has = false → t = noTo) := by
  unfold MTo.form at h
  split at h
  · rename_i hh
    split at h
    · cases h
    · obtain ⟨b,r,a⟩:=t
      rename_i h1
      simp only [not_or,Decidable.not_not,Nat.not_lt,Nat.le_zero_eq,Nat.add_eq_zero_iff,List.length_eq_zero_iff] at h1
      obtain ⟨rfl,rfl,rfl⟩:=h1
      exact ⟨by decide,by decide,by decide,by decide,fun _=>rfl⟩
  · rename_i hh
    split at h
    · cases h
    split at h
    · cases h
    refine ⟨by omega,by omega,by omega,by omega,fun e=>absurd e hh⟩
theorem end_zero {nb : Nat} {e : MEnd} (hb : nb ≤ 12) (h : e.form nb = 0) : (e.op = 1 ∨ e.op = 2 ∨ e.op = 3) ∧ (e.op ≠ 2 → e.a = 0) ∧ (e.op ≠ 3 → e.args = []) ∧ e.args.length ≤ 8 ∧ e.yes.form nb (decide (e.op ≠ 3)) = 0 ∧ e.no.form nb (decide (e.op = 2)) = 0 := by
  unfold MEnd.form at h
  split at h
  · cases h
  split at h
  · cases h
  split at h
  · cases h
  split at h
  · rename_i h1;exact absurd h h1
  rename_i h1 h2 h3 h4
  refine ⟨by omega,by omega,fun hh=>List.length_eq_zero_iff.1 (by omega),by omega,Decidable.not_not.1 h4,h⟩
theorem Pc.fin {nb : Nat} {e : MEnd} (hb : nb ≤ 12) (hf : e.form nb = 0) (h : e.nums = true) : Cl (lineT e.txt) e.tk := by
  obtain ⟨h1,h2,h3,h4,h5,h6⟩:=end_zero hb hf
  obtain ⟨y1,y2,_⟩:=to_zero hb h5
  obtain ⟨n1,n2,_⟩:=to_zero hb h6
  simp only [MEnd.nums,List.all_cons,List.all_nil,Bool.and_eq_true,Bool.and_true] at h
  obtain ⟨ha,hg,hy,hn⟩:=h
  have ha:=num_n64 ha
  have py:=Pc.to (t:=e.yes) ⟨by omega,by omega⟩ hy
  have pn:=Pc.to (t:=e.no) ⟨by omega,by omega⟩ hn
  refine Pc.line ?_
  unfold MEnd.txt MEnd.ek
  split
  · exact Pc.word (w:=wJump) rfl (by decide) rfl (Pc.blank rfl py)
  split
  · exact Pc.word (w:=wIf) rfl (by decide) rfl (Pc.app (Pc.nT ha) rfl (Pc.blank rfl (Pc.word (w:=wTo) rfl (by decide) rfl (Pc.blank rfl (Pc.app py rfl (Pc.blank rfl (Pc.word (w:=wElse) rfl (by decide) rfl (Pc.blank rfl pn))))))))
  · exact Pc.word (w:=wRet) rfl (by decide) rfl (Pc.blank rfl (Pc.ints rfl rfl rfl hg))
def MBlock.nOk {n : Nat} (x : MBlock n) : Prop := ∀ y ∈ x.code, N64 y.n
def MFunc.nOk {n : Nat} (x : MFunc n) : Prop := ∀ y ∈ x.blocks, y.nOk
theorem Cl.block {n funcs : Nat} {x : MBlock n} (hf : x.fine funcs) (hn : x.nOk) (h : x.nums = true) : Cl x.txt x.tk := by
  simp only [MBlock.nums,Bool.and_eq_true] at h
  obtain ⟨nb,hb,hfin⟩:=hf.fin
  have hr:=hf.regs
  have p1:Pc (wBlock++(nT x.regs++32::(typsT x.params++[32]))) (wK wBlock::nK x.regs::typsK x.params):=by
    have:=Pc.word (w:=wBlock) rfl (by decide) rfl (Pc.app (Pc.nT (v:=x.regs) ⟨by omega,by omega⟩) rfl (Pc.blank (c:=32) rfl (Pc.app (Pc.typs hf.params) (b:=[32]) (j:=[]) rfl (Pc.blank rfl Pc.nil))))
    rwa [List.append_nil] at this
  have pc:Cl (codeT x.code) (x.code.flatMap MIns.tk):=Cl.flat fun y hy=>Pc.ins (hn y hy) (hf.code y hy) (List.all_eq_true.1 h.1 y hy)
  have pe:=Pc.fin hb hfin h.2
  have:=(Cl.sign (c:=123) rfl rfl p1).app (pc.app (pe.app (Cl.sign (c:=125) rfl rfl Pc.nil)))
  have e:x.txt=wBlock++(nT x.regs++32::(typsT x.params++[32]))++[123,10]++(codeT x.code++(lineT x.fin.txt++([]++[125,10]))):=by
    simp [MBlock.txt,MBlock.head,List.append_assoc]
  have e2:x.tk=wK wBlock::nK x.regs::typsK x.params++[wK [123]]++(x.code.flatMap MIns.tk++(x.fin.tk++([]++[wK [125]]))):=by
    simp [MBlock.tk,List.append_assoc]
  rw [e,e2]
  exact this
theorem Cl.func {n funcs : Nat} {x : MFunc n} (hf : x.fine funcs) (hn : x.nOk) (h : x.nums = true) : Cl x.txt x.tk := by
  have hr:=hf.regs
  have p1:Pc (wFunc++(nT x.regs++32::(typsT x.params++32::45::62::32::(typsT x.results++[32])))) (wK wFunc::nK x.regs::(typsK x.params++wK sArrow::typsK x.results)):=by
    have:=Pc.word (w:=wFunc) rfl (by decide) rfl (Pc.app (Pc.nT (v:=x.regs) ⟨by omega,by omega⟩) rfl (Pc.blank (c:=32) rfl (Pc.app (Pc.typs hf.params) rfl (Pc.blank (c:=32) rfl (Pc.arrow (Pc.blank (c:=32) rfl (Pc.app (Pc.typs hf.results) (b:=[32]) (j:=[]) rfl (Pc.blank rfl Pc.nil))))))))
    rwa [List.append_nil] at this
  have pb:Cl (blocksT x.blocks) (x.blocks.flatMap MBlock.tk):=Cl.flat fun y hy=>Cl.block (hf.blocks y hy) (hn y hy) (List.all_eq_true.1 h y hy)
  have:=(Cl.sign (c:=123) rfl rfl p1).app (pb.app (Cl.sign (c:=125) rfl rfl Pc.nil))
  have e:x.txt=wFunc++(nT x.regs++32::(typsT x.params++32::45::62::32::(typsT x.results++[32])))++[123,10]++(blocksT x.blocks++([]++[125,10])):=by
    simp [MFunc.txt,MFunc.head,List.append_assoc]
  have e2:x.tk=wK wFunc::nK x.regs::(typsK x.params++wK sArrow::typsK x.results)++[wK [123]]++(x.blocks.flatMap MBlock.tk++([]++[wK [125]])):=by
    simp [MFunc.tk,List.append_assoc]
  rw [e,e2]
  exact this
end Go.Proofs.YtalfbnllodhkiacGreatDoor
namespace Go.Proofs.YtalfbnllodhkiacGreatDoor
open Go.ChangeShapes Go.WideShapes Go.ChangeAt Go.RowKit Go.Shelf
set_option linter.unusedSimpArgs false
set_option linter.unusedVariables false
theorem enters_stepIns : ∀ (args : Array Value) (w : World), (callFunc 155 args).run Tryz.prog w = .ok (.enter 155 args) w := fun _ _ => by kernel_rfl
theorem enters_rblock : ∀ (args : Array Value) (w : World), (callFunc 122 args).run Tryz.prog w = .ok (.enter 122 args) w := fun _ _ => by kernel_rfl
theorem enters_func : ∀ (args : Array Value) (w : World), (callFunc 87 args).run Tryz.prog w = .ok (.enter 87 args) w := fun _ _ => by kernel_rfl
theorem hall {B : Nat} {w w' : World} (hb : Below B w w') {α : Type} {A : Lay α} {y : α} {ds : List Value} (h : A.In w (Lt B) y ds) : A.In w' All y ds := Lay.mono (Lay.lt h hb) fun _ _ _ => trivial
theorem flat_take {α : Type} {t : α → List UInt8} {l : List α} {i : Nat} {x : α} (hx : l[i]? = some x) : (l.take (i + 1)).flatMap t = (l.take i).flatMap t ++ t x := by
  rw [List.take_add_one,hx,Option.toList_some,List.flatMap_append]
  simp
theorem flat_le {α : Type} (t : α → List UInt8) (l : List α) (i : Nat) : ((l.take i).flatMap t).length ≤ (l.flatMap t).length := by
  have:=List.take_append_drop i l
  have e:(l.flatMap t).length=((l.take i).flatMap t).length+((l.drop i).flatMap t).length:=by
    rw [← List.length_append,← List.flatMap_append,this]
  omega
theorem parts_step {α : Type} {t : α → List UInt8} {l : List α} {B b i : Nat} {bs : List UInt8} {w wx : World} {x : α} (hx : l[i]? = some x) (hI : Sh w B b (bs ++ (l.take i).flatMap t) wx) {e : Ending} {w' : World} (h : Parts B b (bs ++ (l.take i).flatMap t ++ t x) wx e w') :
    Tells B wx (fun w'=>Sh w B b (bs++(l.take (i+1)).flatMap t) w'∧(bs++(l.take (i+1)).flatMap t).length≤40000) (fun w'=>Wr B b w w'∧¬ (bs++l.flatMap t).length≤40000) e w':=by
  have e1:bs++(l.take i).flatMap t++t x=bs++(l.take (i+1)).flatMap t:=by rw [flat_take hx,List.append_assoc]
  rw [e1] at h
  rcases h with ⟨rfl,h,hb⟩ | ⟨rfl,h,hb⟩
  · exact Tells.yes ⟨⟨h.1.is,hI.wr.trans h.1.wr⟩,h.2⟩ hb
  · refine Tells.no ⟨hI.wr.trans h.1,fun hh=>h.2 ?_⟩ hb
    have:=flat_le t l (i+1)
    rw [List.length_append] at hh ⊢
    omega
theorem parts_end {α : Type} {t : α → List UInt8} {l : List α} {B b : Nat} {bs : List UInt8} {w : World} {e : Ending} {w' : World} (h : Tells B w (fun w' => Sh w B b (bs ++ (l.take l.length).flatMap t) w' ∧ (bs ++ (l.take l.length).flatMap t).length ≤ 40000) (fun w' => Wr B b w w' ∧ ¬ (bs ++ l.flatMap t).length ≤ 40000) e w') : Parts B b (bs ++ l.flatMap t) w e w' := by
  rw [List.take_length] at h
  exact h
theorem Lined.parts {B b : Nat} {t : List UInt8} {w : World} {e : Ending} {w' : World} (h : Lined B b t w e w') : Parts B b t w e w' := by
  obtain ⟨rfl,h1,h2⟩:=h
  exact Parts.of h1 h2
theorem block_any {n B b : Nat} {bs : List UInt8} {w : World} (x : MBlock n) (cs : List Value) (hI : IsS B b bs w) (hB : B ≤ w.heap.size) (hbs : bs.length ≤ 40000) (h0 : (blockL n).In w (Lt B) x cs) (hp : PowB B w) (hs : x.small) (ht : tinyTs x.params) (hc : ∀ y ∈ x.code, (fieldsOf y.op).isNone = false) (hf : x.fin.op = 1 ∨ x.fin.op = 2 ∨ x.fin.op = 3) :
    Calls Tryz.prog 122 #[.pointer (some ⟨b,0,none⟩),.agg cs.toArray] w (Parts B b (bs++x.txt) w):=by
  obtain ⟨a1,k1,a2,k2,es,rfl,h1,h2,he,hr⟩:=block_form h0
  have he0:=he
  have hel:=end_len he hs.2.2.1
  have htl:=typs_len h1 ht hs.2.1.1
  obtain ⟨e1,e2,a3,k3,rfl,hy,hno,-,-⟩:=end_form he
  obtain ⟨a4,k4,a5,k5,rfl,-,-,-⟩:=to_form hy
  obtain ⟨a6,k6,a7,k7,rfl,-,-,-⟩:=to_form hno
  clear he hy hno
  simp only [List.cons_append,List.nil_append] at he0 ⊢
  have hr0:=Lib.itoa_length_le _ hr.1 hr.2
  have hW:∀ {cc:Array Value} {wx:World},Wr B b ((w.alloc (.cells #[.pointer (some ⟨b,0,none⟩)] 136)).alloc (.cells cc 52)) wx→Below B w wx:=fun h=>((bel2 _ _ _).mono hB).trans h.below
  obtain ⟨q1,q2,q3,q4,q5,q6,q7,q8,q9⟩:=blockH_of (kr:=x.regs) (np:=x.params.length) (cp:=k1) (nc:=x.code.length) (cc:=k2) (pp:=a1) (pc:=a2) (e0:=x.fin.op) (e1:=x.fin.a) (e2:=x.fin.yes.block) (pe3:=a4) (e3:=x.fin.yes.regs.length) (ce3:=k4) (pe4:=a5) (e4:=x.fin.yes.args.length) (ce4:=k5) (e5:=x.fin.no.block) (pe6:=a6) (e6:=x.fin.no.regs.length) (ce6:=k6) (pe7:=a7) (e7:=x.fin.no.args.length) (ce7:=k7) (pe8:=a3) (e8:=x.fin.args.length) (ce8:=k3) (zn:=[]) (zp:=[]) (ze:=[]) (t1:=[]) (t2:=[]) (t3:=[]) (t4:=[]) hI hB
  refine block_parts (BlockH.mk (t0:=bs) (t1:=bs++x.head) (t2:=bs++x.head++codeT x.code) (t3:=bs++x.head++codeT x.code++lineT x.fin.txt) (t4:=bs++x.txt) (zn:=Lib.itoa x.regs) (zp:=typsT x.params) (ze:=x.fin.txt) q1 q2 q3 q4 q5 q6 q7 q8 q9
    (fun wx hw=>number_any _ hr wx (hp wx (hW hw)))
    (fun wx hw=>typeList_any _ _ _ wx (hall (hW hw) h1) ht (hp wx (hW hw)) (by have:=hs.2.1.1;omega))
    (fun wx hw=>endText_any x.fin hf _ wx (hall (hW hw) he0) (hp wx (hW hw)) hs.2.2.1)
    (fun h wx hi hb hk=>?_) (fun g1 wx hw hi=>?_) (fun g2 wx hi hb=>step_any hi hb g2 (by omega)) (fun g3 h wx hi hb hk=>?_) ?_ ?_ ?_)
  · have:=line_any (bk:=h) (k:=4) (xs:=[wBlock,Lib.itoa x.regs,typsT x.params,[123]]) hi hb hk rfl (by decide) hbs (by rw [join_four];simp [wBlock];omega)
    rw [join_four] at this
    rw [show x.head=wBlock++([32]++(Lib.itoa x.regs++([32]++(typsT x.params++([32]++[123])))))++[10] by simp [MBlock.head,nT]]
    exact this
  · have hwx:=hW hw
    have hBx:B≤wx.heap.size:=Nat.le_trans hB hwx.size
    have hbx:Blk wx w.heap.size #[.pointer (some ⟨b,0,none⟩)] 136:=hw.blk (Blk.new1 _ _ _ _ _) (by have:=hI.lt;omega) (by decide)
    have:=everyI_any (B:=B) (l:=x.code) (F:=155) (fs:=#[]) (cs:=#[.pointer (some ⟨w.heap.size,0,none⟩)]) (fun i wy=>Sh wx B b (bs++x.head++(x.code.take i).flatMap fun y=>lineT y.txt) wy∧(bs++x.head++(x.code.take i).flatMap fun y=>lineT y.txt).length≤40000) (fun wy=>Wr B b wx wy∧¬ (bs++x.head++x.code.flatMap fun y=>lineT y.txt).length≤40000) enters_stepIns (Lay.lt h2 hwx) hBx
      ⟨by simpa using Sh.start hi,by simpa using g1⟩ (fun i wy wz h hb=>⟨h.1.below hBx hb,h.2⟩) (fun i y ds wy hy hb hd hh=>?_) hs.1
    · exact this.mono fun e w' h=>parts_end h
    · have hm:=List.mem_of_getElem? hy
      have hd':insL.In wy All y ds:=Lay.mono hd fun _ _ _=>trivial
      have:=stepIns_any y ds hh.1.is (hh.1.le hBx) hh.2 (hh.1.wr.blk hbx (by have:=hI.lt;omega) (by decide)) hd' (hp wy (hwx.trans hb)) (hs.2.2.2 y hm) (hc y hm) (by have:=ins_len hd' (hs.2.2.2 y hm);omega)
      exact this.mono fun e w' h=>parts_step hy hh.1 h.parts
  · have:=line_any (bk:=h) (k:=1) (xs:=[[125]]) hi hb hk rfl (by decide) g3 (by rw [join_single];simp)
    rw [join_single] at this
    rw [show bs++x.txt=bs++x.head++codeT x.code++lineT x.fin.txt++([125]++[10]) by simp [MBlock.txt]]
    exact this
  · show _≤_
    simp [MBlock.txt]
  · show _≤_
    simp [MBlock.txt]
  · show _≤_
    simp [MBlock.txt]
theorem func_any {n funcs B b : Nat} {bs : List UInt8} {w : World} (x : MFunc n) (cs : List Value) (hI : IsS B b bs w) (hB : B ≤ w.heap.size) (hbs : bs.length ≤ 40000) (h0 : (funcL n).In w (Lt B) x cs) (hp : PowB B w) (hs : x.small) (ht : x.tiny) (hf : x.fine funcs) :
    Calls Tryz.prog 87 #[.pointer (some ⟨b,0,none⟩),.agg cs.toArray] w (Parts B b (bs++x.txt) w):=by
  obtain ⟨a1,k1,a2,k2,a3,k3,rfl,h1,h2,h3,hr⟩:=func_form h0
  have htl:=typs_len h1 ht.1 hs.2.1.1
  have htl2:=typs_len h2 ht.2.1 hs.2.2.1.1
  have hr0:=Lib.itoa_length_le _ hr.1 hr.2
  have hW:∀ {cc:Array Value} {wx:World},Wr B b (w.alloc (.cells cc 42)) wx→Below B w wx:=fun h=>((bel1 _ _).mono hB).trans h.below
  obtain ⟨q1,q2,q3,q4,q5,q6,q7⟩:=funcH_of (kr:=x.regs) (np:=x.params.length) (cp:=k1) (pp:=a1) (nq:=x.results.length) (cq:=k2) (pq:=a2) (nb:=x.blocks.length) (cb:=k3) (pb:=a3) (zn:=[]) (zp:=[]) (zq:=[]) (t1:=[]) (t2:=[]) (t3:=[]) hI hB
  refine func_parts (FuncH.mk (t0:=bs) (t1:=bs++x.head) (t2:=bs++x.head++blocksT x.blocks) (t3:=bs++x.txt) (zn:=Lib.itoa x.regs) (zp:=typsT x.params) (zq:=typsT x.results) q1 q2 q3 q4 q5 q6 q7
    (fun wx hw=>number_any _ hr wx (hp wx (hW hw)))
    (fun wx hw=>typeList_any _ _ _ wx (hall (hW hw) h1) ht.1 (hp wx (hW hw)) (by have:=hs.2.1.1;omega))
    (fun wx hw=>typeList_any _ _ _ wx (hall (hW hw) h2) ht.2.1 (hp wx (hW hw)) (by have:=hs.2.2.1.1;omega))
    (fun h wx hi hb hk=>?_) (fun g1 wx hw hi=>?_) (fun g3 h wx hi hb hk=>?_) ?_ ?_)
  · have:=line_any (bk:=h) (k:=6) (xs:=[wFunc,Lib.itoa x.regs,typsT x.params,[45,62],typsT x.results,[123]]) hi hb hk rfl (by decide) hbs (by rw [join_six];simp [wFunc];omega)
    rw [join_six] at this
    rw [show x.head=wFunc++([32]++(Lib.itoa x.regs++([32]++(typsT x.params++([32]++([45,62]++([32]++(typsT x.results++([32]++[123])))))))))++[10] by simp [MFunc.head,nT]]
    exact this
  · have hwx:=hW hw
    have hBx:B≤wx.heap.size:=Nat.le_trans hB hwx.size
    have:=everyB_any (B:=B) (l:=x.blocks) (F:=122) (fs:=#[.pointer (some ⟨b,0,none⟩)]) (cs:=#[]) (fun i wy=>Sh wx B b (bs++x.head++(x.blocks.take i).flatMap MBlock.txt) wy∧(bs++x.head++(x.blocks.take i).flatMap MBlock.txt).length≤40000) (fun wy=>Wr B b wx wy∧¬ (bs++x.head++x.blocks.flatMap MBlock.txt).length≤40000) enters_rblock (Lay.lt h3 hwx) hBx
      ⟨by simpa using Sh.start hi,by simpa using g1⟩ (fun i wy wz h hb=>⟨h.1.below hBx hb,h.2⟩) (fun i y ds wy hy hb hd hh=>?_) hs.1
    · exact this.mono fun e w' h=>parts_end h
    · have hm:=List.mem_of_getElem? hy
      have hfy:=hf.blocks y hm
      obtain ⟨nb,hnb,hfin⟩:=hfy.fin
      have:=block_any y ds hh.1.is (hh.1.le hBx) hh.2 hd (hp.on (hwx.trans hb)) (hs.2.2.2 y hm) (ht.2.2 y hm) (fun z hz=>(form_zero (hfy.code z hz)).1) (end_zero hnb hfin).1
      exact this.mono fun e w' h=>parts_step hy hh.1 h
  · have:=line_any (bk:=h) (k:=1) (xs:=[[125]]) hi hb hk rfl (by decide) g3 (by rw [join_single];simp)
    rw [join_single] at this
    rw [show bs++x.txt=bs++x.head++blocksT x.blocks++([125]++[10]) by simp [MFunc.txt]]
    exact this
  · show _≤_
    simp [MFunc.txt]
  · show _≤_
    simp [MFunc.txt]
theorem module_any {n B b : Nat} {w : World} (m : List (MFunc n)) (p : Option Addr) (c : Nat) (hI : IsS B b [] w) (hB : B ≤ w.heap.size) (h0 : (modL n).In w (Lt B) m [.slice p m.length c]) (hp : PowB B w) (hs : msmall m) (ht : ∀ x ∈ m, x.tiny) (hf : ∀ x ∈ m, x.fine m.length) :
    Calls Tryz.prog 46 #[.pointer (some ⟨b,0,none⟩),.agg #[.slice p m.length c]] w (Parts B b (modTxt m) w):=by
  have b1:Below w.heap.size w (w.alloc (.cells #[.slice p m.length c] 25)):=bel1 _ _
  have C:Hid (Calls Tryz.prog 80 #[.slice p m.length c,.func (.func 87) #[.pointer (some ⟨b,0,none⟩)] #[]] (w.alloc (.cells #[.slice p m.length c] 25)) (Parts B b (modTxt m) w)):=by
    have hBx:B≤(w.alloc (.cells #[.slice p m.length c] 25)).heap.size:=Nat.le_trans hB b1.size
    have:=everyF_any (B:=B) (l:=m) (F:=87) (fs:=#[.pointer (some ⟨b,0,none⟩)]) (cs:=#[]) (fun i wy=>Sh (w.alloc (.cells #[.slice p m.length c] 25)) B b ([]++(m.take i).flatMap MFunc.txt) wy∧([]++(m.take i).flatMap MFunc.txt).length≤40000) (fun wy=>Wr B b (w.alloc (.cells #[.slice p m.length c] 25)) wy∧¬ ([]++m.flatMap MFunc.txt).length≤40000) enters_func (Lay.lt h0 (b1.mono hB)) hBx
      ⟨by simpa using Sh.start (bld_below hI b1),by simp⟩ (fun i wy wz h hb=>⟨h.1.below hBx hb,h.2⟩) (fun i y ds wy hy hb hd hh=>?_) hs.1
    · exact this.mono fun e w' h=>(parts_end h).pre (Wr.of hB b1)
    · have hm:=List.mem_of_getElem? hy
      have:=func_any y ds hh.1.is (hh.1.le hBx) hh.2 hd (hp.on ((b1.mono hB).trans hb)) (hs.2 y hm) (ht y hm) (hf y hm)
      exact this.mono fun e w' h=>parts_step hy hh.1 h
  generalize modTxt m=t at C ⊢
  clear b1 hI hB h0 hp hs ht hf
  have c0:(w.alloc (.cells #[.slice p m.length c] 25)).cell? ⟨w.heap.size,0,none⟩=some (.slice p m.length c):=cellOf (blockNew w _ _) 0 _ rfl
  go_enter Tryz.func46,Tryz.ntmps46
  go_wp2_with fail
  refine C.out.mono ?_
  intro e w2 h2
  have Z:Hid (Parts B b t w e w2):=h2
  rcases h2 with ⟨rfl,-,-⟩ | ⟨rfl,-,-⟩
  · clear C
    go_wp2
    go_ret
    exact Z.out
  · clear C
    go_wp2
    go_ret
    exact Z.out
end Go.Proofs.YtalfbnllodhkiacGreatDoor
namespace Go.Proofs.YtalfbnllodhkiacGreatDoor
open Go.ChangeShapes Go.WideShapes Go.ChangeAt Go.RowKit
set_option linter.unusedSimpArgs false
set_option linter.unusedVariables false
abbrev I64 (x : Int) : Prop := -9223372036854775808 ≤ x ∧ x ≤ 9223372036854775807
structure IP where
  pR:Option Addr
  cR:Nat
  pA:Option Addr
  cA:Nat
structure EP where
  pYR:Option Addr
  cYR:Nat
  pYA:Option Addr
  cYA:Nat
  pNR:Option Addr
  cNR:Nat
  pNA:Option Addr
  cNA:Nat
  pA:Option Addr
  cA:Nat
structure BP where
  pP:Option Addr
  cP:Nat
  pC:Option Addr
  cC:Nat
  e:EP
structure FP where
  pP:Option Addr
  cP:Nat
  pR:Option Addr
  cR:Nat
  pB:Option Addr
  cB:Nat
structure TIn2 (w : World) (O : Nat → Prop) (x : MTo) (pR : Option Addr) (cR : Nat) (pA : Option Addr) (cA : Nat) : Prop where
  regs:intsL.In w O x.regs [.slice pR x.regs.length cR]
  args:intsL.In w O x.args [.slice pA x.args.length cA]
  bnd:I64 x.block
structure IIn (w : World) (O : Nat → Prop) (x : MIns) (i : IP) : Prop where
  regs:intsL.In w O x.regs [.slice i.pR x.regs.length i.cR]
  args:intsL.In w O x.args [.slice i.pA x.args.length i.cA]
  bnd:I64 x.op∧I64 x.a∧I64 x.b∧I64 x.c∧I64 x.k∧I64 x.n
structure EIn (w : World) (O : Nat → Prop) (x : MEnd) (e : EP) : Prop where
  yes:TIn2 w O x.yes e.pYR e.cYR e.pYA e.cYA
  no:TIn2 w O x.no e.pNR e.cNR e.pNA e.cNA
  args:intsL.In w O x.args [.slice e.pA x.args.length e.cA]
  bnd:I64 x.op∧I64 x.a
structure BIn (w : World) (O : Nat → Prop) {n : Nat} (x : MBlock n) (b : BP) : Prop where
  params:(typesL n).In w O x.params [.slice b.pP x.params.length b.cP]
  code:insL.list.In w O x.code [.slice b.pC x.code.length b.cC]
  fin:EIn w O x.fin b.e
  bnd:I64 x.regs
structure FIn (w : World) (O : Nat → Prop) {n : Nat} (x : MFunc n) (f : FP) : Prop where
  params:(typesL n).In w O x.params [.slice f.pP x.params.length f.cP]
  results:(typesL n).In w O x.results [.slice f.pR x.results.length f.cR]
  blocks:(blockL n).list.In w O x.blocks [.slice f.pB x.blocks.length f.cB]
  bnd:I64 x.regs
section
variable {w w' : World} {O O' : Nat → Prop} {n : Nat} {cs : List Value}
theorem TIn2.keep {x : MTo} {pR pA : Option Addr} {cR cA : Nat} (hb : ∀ k, O k → k < w.heap.size → w'.heap[k]? = w.heap[k]?) (hl : ∀ k, O k → k < w.heap.size → O' k) (h : TIn2 w O x pR cR pA cA) : TIn2 w' O' x pR cR pA cA := ⟨Lay.keep _ hb hl h.regs, Lay.keep _ hb hl h.args, h.bnd⟩
theorem TIn2.below {x : MTo} {pR pA : Option Addr} {cR cA : Nat} (h : TIn2 w O x pR cR pA cA) (hbl : Below w.heap.size w w') : TIn2 w' O x pR cR pA cA := h.keep (fun k _ hk => hbl.block k hk) (fun _ h _ => h)
theorem TIn2.mono {x : MTo} {pR pA : Option Addr} {cR cA : Nat} (h : TIn2 w O x pR cR pA cA) (hl : ∀ k, O k → k < w.heap.size → O' k) : TIn2 w O' x pR cR pA cA := h.keep (fun k _ _ => rfl) hl
theorem IIn.keep {x : MIns} {i : IP} (hb : ∀ k, O k → k < w.heap.size → w'.heap[k]? = w.heap[k]?) (hl : ∀ k, O k → k < w.heap.size → O' k) (h : IIn w O x i) : IIn w' O' x i := ⟨Lay.keep _ hb hl h.regs, Lay.keep _ hb hl h.args, h.bnd⟩
theorem IIn.below {x : MIns} {i : IP} (h : IIn w O x i) (hbl : Below w.heap.size w w') : IIn w' O x i := h.keep (fun k _ hk => hbl.block k hk) (fun _ h _ => h)
theorem IIn.mono {x : MIns} {i : IP} (h : IIn w O x i) (hl : ∀ k, O k → k < w.heap.size → O' k) : IIn w O' x i := h.keep (fun k _ _ => rfl) hl
theorem EIn.keep {x : MEnd} {e : EP} (hb : ∀ k, O k → k < w.heap.size → w'.heap[k]? = w.heap[k]?) (hl : ∀ k, O k → k < w.heap.size → O' k) (h : EIn w O x e) : EIn w' O' x e := ⟨h.yes.keep hb hl, h.no.keep hb hl, Lay.keep _ hb hl h.args, h.bnd⟩
theorem EIn.below {x : MEnd} {e : EP} (h : EIn w O x e) (hbl : Below w.heap.size w w') : EIn w' O x e := h.keep (fun k _ hk => hbl.block k hk) (fun _ h _ => h)
theorem EIn.mono {x : MEnd} {e : EP} (h : EIn w O x e) (hl : ∀ k, O k → k < w.heap.size → O' k) : EIn w O' x e := h.keep (fun k _ _ => rfl) hl
theorem BIn.keep {x : MBlock n} {b : BP} (hb : ∀ k, O k → k < w.heap.size → w'.heap[k]? = w.heap[k]?) (hl : ∀ k, O k → k < w.heap.size → O' k) (h : BIn w O x b) : BIn w' O' x b := ⟨Lay.keep _ hb hl h.params, Lay.keep _ hb hl h.code, h.fin.keep hb hl, h.bnd⟩
theorem BIn.below {x : MBlock n} {b : BP} (h : BIn w O x b) (hbl : Below w.heap.size w w') : BIn w' O x b := h.keep (fun k _ hk => hbl.block k hk) (fun _ h _ => h)
theorem BIn.mono {x : MBlock n} {b : BP} (h : BIn w O x b) (hl : ∀ k, O k → k < w.heap.size → O' k) : BIn w O' x b := h.keep (fun k _ _ => rfl) hl
theorem FIn.keep {x : MFunc n} {f : FP} (hb : ∀ k, O k → k < w.heap.size → w'.heap[k]? = w.heap[k]?) (hl : ∀ k, O k → k < w.heap.size → O' k) (h : FIn w O x f) : FIn w' O' x f := ⟨Lay.keep _ hb hl h.params, Lay.keep _ hb hl h.results, Lay.keep _ hb hl h.blocks, h.bnd⟩
theorem FIn.below {x : MFunc n} {f : FP} (h : FIn w O x f) (hbl : Below w.heap.size w w') : FIn w' O x f := h.keep (fun k _ hk => hbl.block k hk) (fun _ h _ => h)
theorem FIn.mono {x : MFunc n} {f : FP} (h : FIn w O x f) (hl : ∀ k, O k → k < w.heap.size → O' k) : FIn w O' x f := h.keep (fun k _ _ => rfl) hl
theorem to_open {x : MTo} (h : toL.In w O x cs) : ∃ pR cR pA cA, cs = [.int .i64 x.block, .slice pR x.regs.length cR, .slice pA x.args.length cA] ∧ TIn2 w O x pR cR pA cA := by
  obtain ⟨a,c,b,d,rfl,h1,h2,h0⟩:=to_form h
  exact ⟨a,c,b,d,rfl,h1,h2,h0⟩
theorem to_shut {x : MTo} {pR pA : Option Addr} {cR cA : Nat} (h : TIn2 w O x pR cR pA cA) : toL.In w O x [.int .i64 x.block, .slice pR x.regs.length cR, .slice pA x.args.length cA] := to_mk h.regs h.args h.bnd
theorem ins_open {x : MIns} (h : insL.In w O x cs) : ∃ i : IP, cs = [.int .i64 x.op, .int .i64 x.a, .int .i64 x.b, .int .i64 x.c, .int .i64 x.k, .int .i64 x.n, .slice i.pR x.regs.length i.cR, .slice i.pA x.args.length i.cA] ∧ IIn w O x i := by
  obtain ⟨a,c,b,d,rfl,h1,h2,h0⟩:=ins_form h
  exact ⟨⟨a,c,b,d⟩,rfl,h1,h2,h0⟩
theorem ins_shut {x : MIns} {i : IP} (h : IIn w O x i) : insL.In w O x [.int .i64 x.op, .int .i64 x.a, .int .i64 x.b, .int .i64 x.c, .int .i64 x.k, .int .i64 x.n, .slice i.pR x.regs.length i.cR, .slice i.pA x.args.length i.cA] := ins_mk h.regs h.args h.bnd
theorem end_open {x : MEnd} (h : endL.In w O x cs) : ∃ e : EP, cs = [.int .i64 x.op, .int .i64 x.a, .int .i64 x.yes.block, .slice e.pYR x.yes.regs.length e.cYR, .slice e.pYA x.yes.args.length e.cYA, .int .i64 x.no.block, .slice e.pNR x.no.regs.length e.cNR, .slice e.pNA x.no.args.length e.cNA, .slice e.pA x.args.length e.cA] ∧ EIn w O x e := by
  obtain ⟨c1,c2,a,c,rfl,h1,h2,h3,h0⟩:=end_form h
  obtain ⟨pR,cR,pA,cA,rfl,k1⟩:=to_open h1
  obtain ⟨qR,dR,qA,dA,rfl,k2⟩:=to_open h2
  exact ⟨⟨pR,cR,pA,cA,qR,dR,qA,dA,a,c⟩,rfl,k1,k2,h3,h0⟩
theorem end_shut {x : MEnd} {e : EP} (h : EIn w O x e) : endL.In w O x [.int .i64 x.op, .int .i64 x.a, .int .i64 x.yes.block, .slice e.pYR x.yes.regs.length e.cYR, .slice e.pYA x.yes.args.length e.cYA, .int .i64 x.no.block, .slice e.pNR x.no.regs.length e.cNR, .slice e.pNA x.no.args.length e.cNA, .slice e.pA x.args.length e.cA] := end_mk (to_shut h.yes) (to_shut h.no) h.args h.bnd
theorem block_open {x : MBlock n} (h : (blockL n).In w O x cs) : ∃ b : BP, cs = [.int .i64 x.regs, .slice b.pP x.params.length b.cP, .slice b.pC x.code.length b.cC, .int .i64 x.fin.op, .int .i64 x.fin.a, .int .i64 x.fin.yes.block, .slice b.e.pYR x.fin.yes.regs.length b.e.cYR, .slice b.e.pYA x.fin.yes.args.length b.e.cYA, .int .i64 x.fin.no.block, .slice b.e.pNR x.fin.no.regs.length b.e.cNR, .slice b.e.pNA x.fin.no.args.length b.e.cNA, .slice b.e.pA x.fin.args.length b.e.cA] ∧ BIn w O x b := by
  obtain ⟨a,c,b,d,es,rfl,h1,h2,h3,h0⟩:=block_form h
  obtain ⟨e,rfl,k3⟩:=end_open h3
  exact ⟨⟨a,c,b,d,e⟩,rfl,h1,h2,k3,h0⟩
theorem block_shut {x : MBlock n} {b : BP} (h : BIn w O x b) : (blockL n).In w O x [.int .i64 x.regs, .slice b.pP x.params.length b.cP, .slice b.pC x.code.length b.cC, .int .i64 x.fin.op, .int .i64 x.fin.a, .int .i64 x.fin.yes.block, .slice b.e.pYR x.fin.yes.regs.length b.e.cYR, .slice b.e.pYA x.fin.yes.args.length b.e.cYA, .int .i64 x.fin.no.block, .slice b.e.pNR x.fin.no.regs.length b.e.cNR, .slice b.e.pNA x.fin.no.args.length b.e.cNA, .slice b.e.pA x.fin.args.length b.e.cA] := block_mk h.params h.code (end_shut h.fin) h.bnd
theorem func_open {x : MFunc n} (h : (funcL n).In w O x cs) : ∃ f : FP, cs = [.int .i64 x.regs, .slice f.pP x.params.length f.cP, .slice f.pR x.results.length f.cR, .slice f.pB x.blocks.length f.cB] ∧ FIn w O x f := by
  obtain ⟨a,c,b,d,e,f,rfl,h1,h2,h3,h0⟩:=func_form h
  exact ⟨⟨a,c,b,d,e,f⟩,rfl,h1,h2,h3,h0⟩
theorem func_shut {x : MFunc n} {f : FP} (h : FIn w O x f) : (funcL n).In w O x [.int .i64 x.regs, .slice f.pP x.params.length f.cP, .slice f.pR x.results.length f.cR, .slice f.pB x.blocks.length f.cB] := func_mk h.params h.results h.blocks h.bnd
theorem ins_at {l : List MIns} {p : Option Addr} {m c : Nat} (h : (insL).list.In w O l [.slice p m c]) {i : Nat} {x : MIns} (hx : l[i]? = some x) :
    ∃ (g o:Nat) (i':IP),p=some ⟨g,o,none⟩∧w.rangeAt g (o+i*8) [.int .i64 x.op,.int .i64 x.a,.int .i64 x.b,.int .i64 x.c,.int .i64 x.k,.int .i64 x.n,.slice i'.pR x.regs.length i'.cR,.slice i'.pA x.args.length i'.cA]∧IIn w O x i':=by
  obtain ⟨g,o,ds,e,h1,h2,h3,h4⟩:=Lay.list_at h hx
  obtain ⟨i',rfl,h5⟩:=ins_open h4
  have hs:(insL).size=8:=rfl
  rw [hs] at h3
  exact ⟨g,o,i',e,fun j v hj=>(h3 j (by have:=(List.getElem?_eq_some_iff.1 hj).1;simpa using this)).trans hj,h5⟩
theorem block_at {l : List (MBlock n)} {p : Option Addr} {m c : Nat} (h : (blockL n).list.In w O l [.slice p m c]) {i : Nat} {x : MBlock n} (hx : l[i]? = some x) :
    ∃ (g o:Nat) (b:BP),p=some ⟨g,o,none⟩∧w.rangeAt g (o+i*12) [.int .i64 x.regs,.slice b.pP x.params.length b.cP,.slice b.pC x.code.length b.cC,.int .i64 x.fin.op,.int .i64 x.fin.a,.int .i64 x.fin.yes.block,.slice b.e.pYR x.fin.yes.regs.length b.e.cYR,.slice b.e.pYA x.fin.yes.args.length b.e.cYA,.int .i64 x.fin.no.block,.slice b.e.pNR x.fin.no.regs.length b.e.cNR,.slice b.e.pNA x.fin.no.args.length b.e.cNA,.slice b.e.pA x.fin.args.length b.e.cA]∧BIn w O x b:=by
  obtain ⟨g,o,ds,e,h1,h2,h3,h4⟩:=Lay.list_at h hx
  obtain ⟨b,rfl,h5⟩:=block_open h4
  have hs:(blockL n).size=12:=rfl
  rw [hs] at h3
  exact ⟨g,o,b,e,fun j v hj=>(h3 j (by have:=(List.getElem?_eq_some_iff.1 hj).1;simpa using this)).trans hj,h5⟩
theorem func_at {l : List (MFunc n)} {p : Option Addr} {m c : Nat} (h : (funcL n).list.In w O l [.slice p m c]) {i : Nat} {x : MFunc n} (hx : l[i]? = some x) :
    ∃ (g o:Nat) (f:FP),p=some ⟨g,o,none⟩∧w.rangeAt g (o+i*4) [.int .i64 x.regs,.slice f.pP x.params.length f.cP,.slice f.pR x.results.length f.cR,.slice f.pB x.blocks.length f.cB]∧FIn w O x f:=by
  obtain ⟨g,o,ds,e,h1,h2,h3,h4⟩:=Lay.list_at h hx
  obtain ⟨f,rfl,h5⟩:=func_open h4
  have hs:(funcL n).size=4:=rfl
  rw [hs] at h3
  exact ⟨g,o,f,e,fun j v hj=>(h3 j (by have:=(List.getElem?_eq_some_iff.1 hj).1;simpa using this)).trans hj,h5⟩
theorem lin_at {l : List (TT n)} {p : Option Addr} (h : LIn w O l p) {i : Nat} {x : TT n} (hx : l[i]? = some x) : ∃ (g o : Nat) (q : Option Addr) (c : Nat), p = some ⟨g, o, none⟩ ∧ w.rangeAt g (o + i * 3) [.int .i64 x.kind, .int .i64 x.r, .slice q x.len c] ∧ TIn w O x q := by
  obtain ⟨g,o,q,c,e,_,h0,h1,h2,h3⟩:=LIn.at h hx
  refine ⟨g,o,q,c,e,fun j v hj=>?_,h3⟩
  match j,hj with
  | 0,hj=>cases hj;exact h0
  | 1,hj=>cases hj;exact h1
  | 2,hj=>cases hj;exact h2
theorem ints_rg {l : List Int} {a : Option Addr} {m c : Nat} (h : intsL.In w O l [.slice a m c]) {i : Nat} (hi : i < l.length) : ∃ g o, a = some ⟨g, o, none⟩ ∧ w.rangeAt g (o + i) [.int .i64 (l.getD i 0)] := by
  obtain ⟨g,o,e,_,_,h1⟩:=ints_at h hi
  refine ⟨g,o,e,fun j v hj=>?_⟩
  match j,hj with
  | 0,hj=>cases hj;exact h1
end
theorem sameInts_any (l m : List Int) (p p2 : Option Addr) (c d : Nat) (w : World) (hl0 : intsL.In w All l [.slice p l.length c]) (hm0 : intsL.In w All m [.slice p2 m.length d]) (hb1 : l.length ≤ 4294967296) :
    Rd Tryz.prog 71 #[.slice p l.length c,.slice p2 m.length d] w (.bool (bdec (l=m))):=by
  have hl:Hid _:=hl0
  have hm:Hid _:=hm0
  clear hl0 hm0
  refine fr_enter (n:=26) Tryz.func71 rfl rfl rfl ?_
  intro a hF
  have hW:=Wd.start w
  replace hF:Fr 26 a [(0,.slice p l.length c),(1,.slice p2 m.length d)]:=hF
  refine wp_seq_k fun K1 hK1=>?_
  refine rg hF fun ops=>?_;clear hF a
  refine sa trivial rfl rfl ?_
  refine St.nil fun a2 h2=>?_
  refine hK1 _ _ ?_
  refine wp_seq_k fun K3 hK3=>?_
  refine wp_seq_k fun K4 hK4=>?_
  refine rg h2 fun ops=>?_;clear h2 a2
  refine sm trivial rfl rfl ?_
  refine slInts trivial rfl rfl ?_
  refine sm trivial rfl rfl ?_
  refine slInts trivial rfl rfl ?_
  refine sne trivial rfl rfl rfl ?_
  refine St.nil fun a5 h5=>?_
  refine hK4 _ _ ?_
  refine fr_cond (t:=10) h5 rfl (fun hb=>?_) (fun hb=>?_)
  ·have h9:¬ l.length=m.length:=by have h8:=bne_iff_ne.1 hb;omega
   have hlen:¬ l.length=m.length:=h9
   clear h9
   clear hb
   refine wp_seq_k fun K6 hK6=>?_
   refine rg h5 fun ops=>?_;clear h5 a5
   refine sa trivial rfl rfl ?_
   refine St.nil fun a7 h7=>?_
   refine hK6 _ _ ?_
   refine wp_ret ?_;with_reducible repeat first | refine of_then_ret ?_ | refine of_block_ret ?_
   have R:¬ l=m:=by
     intro e
     first
       | exact hlen (by rw [e])
       | exact hel (by rw [← hx.out,← hy.out,e])
   exact ret_tmp (t:=4) h7 rfl rfl ⟨by rw [bdec_false R],hW.bel⟩
  have h9:l.length=m.length:=by have h8:=bne_eq_false_iff_eq.1 hb;omega
  have hlen:Hid (l.length=m.length):=h9
  clear h9
  clear hb
  refine wp_skip ?_
  refine hK3 _ _ ?_
  refine wp_seq_k fun K8 hK8=>?_
  refine wp_seq_k fun K9 hK9=>?_
  refine rg h5 fun ops=>?_;clear h5 a5
  refine sa trivial rfl rfl ?_
  refine St.nil fun a10 h10=>?_
  refine hK9 _ _ ?_
  refine wp_block ?_
  refine fr_loop (fun r a w'=>∃ q:Nat,q≤l.length∧r=l.length - q∧(∀ j,j<q→l.getD j 0=m.getD j 0)∧Fr 26 a [(1,.slice p2 m.length d),(0,.slice p l.length c),(4,.bool false),(5,.int .i64 (q:Int))]∧Wd w w' []) (l.length) ⟨0,Nat.zero_le _,rfl,(fun j hj=>by omega),(h10.keep (h10.keep (h10.keep (h10.keep h10.nil (t:=5) rfl) (t:=4) rfl) (t:=0) rfl) (t:=1) rfl),hW⟩ ?_
  clear h10 hW
  rintro r a11 w11 ⟨q,hq,hr,hall,hF11,hW11⟩ KL hKL
  refine wp_seq_k fun K12 hK12=>?_
  refine wp_seq_k fun K13 hK13=>?_
  refine rg hF11 fun ops=>?_;clear hF11 a11
  refine sm trivial rfl rfl ?_
  refine sm trivial rfl rfl ?_
  refine slInts trivial rfl rfl ?_
  refine slt trivial rfl rfl rfl ?_
  refine St.nil fun a14 h14=>?_
  refine hK13 _ _ ?_
  refine fr_cond (t:=14) h14 rfl (fun hb=>?_) (fun hb=>?_)
  ·have hlt:q<l.length:=by have:=of_decide_eq_true hb;omega
   clear hb
   have hlm:q<m.length:=by have:=hlen.out;omega
   obtain ⟨g1,o1,hp1,E1⟩:=ints_rg hl.out hlt
   obtain ⟨g2,o2,hp2,E2⟩:=ints_rg hm.out hlm
   obtain ⟨x,hx⟩:∃ x,l.getD q 0=x:=⟨_,rfl⟩
   obtain ⟨y,hy⟩:∃ y,m.getD q 0=y:=⟨_,rfl⟩
   rw [hx] at E1
   rw [hy] at E2
   replace hx:Hid _:=hx
   replace hy:Hid _:=hy
   replace E1:Hid _:=E1
   replace E2:Hid _:=E2
   replace hp1:Hid _:=hp1
   replace hp2:Hid _:=hp2
   refine wp_skip ?_
   refine hK12 _ _ ?_
   refine wp_seq_k fun K15 hK15=>?_
   refine wp_block ?_
   refine wp_seq_k fun K16 hK16=>?_
   have hF17:Fr 26 a14 [(1,.slice p2 m.length d),(0,.slice p l.length c),(4,.bool false),(5,.int .i64 (q:Int))]:=(h14.keep (h14.keep (h14.keep (h14.keep h14.nil (t:=5) rfl) (t:=4) rfl) (t:=0) rfl) (t:=1) rfl)
   have ho0:a14.tmps.getD 0 undef=.slice p l.length c:=h14.sl 0 _ rfl
   have ho5:a14.tmps.getD 5 undef=.int .i64 (q:Int):=h14.sl 5 _ rfl
   have ho1:a14.tmps.getD 1 undef=.slice p2 m.length d:=h14.sl 1 _ rfl
   refine fr_draw_k 9 ([(0,fun v _=>v=.slice p l.length c),(5,fun v _=>v=.int .i64 (q:Int)),(1,fun v _=>v=.slice p2 m.length d),(17,fun v _=>v=.slice p l.length c),(18,fun v _=>v=.int .i64 (q:Int)),(19,fun v _=>v=.pointer (some ⟨g1,o1+q,none⟩)),(20,fun v _=>v=.int .i64 x),(21,fun v _=>v=.slice p2 m.length d),(22,fun v _=>v=.int .i64 (q:Int)),(23,fun v _=>v=.pointer (some ⟨g2,o2+q,none⟩)),(24,fun v _=>v=.int .i64 y),(25,fun v _=>v=.bool (x != y))]:PTab) (fun w'=>Wd w w' []∧Below w11.heap.size w11 w') (fun w w'=>Below w.heap.size w w') (outs:=[0,5,1]) (gs:=[]) (bs:=[true,true,true,true,true,true,true,true,true]) (by kernel_rfl) hF17 rfl (by kernel_rfl) (by kernel_rfl) ?hR ?hG ⟨hW11.drewN 1,drewN_below (m:=1) (Below.refl _ _)⟩ ⟨ho0,ho5,ho1,trivial⟩ ?hA ?hend
   case hR=>exact ⟨fun _ _ _ _ h=>h,fun _ _ _ _ h=>h,fun _ _ _ _ h=>h,fun _ _ _ _ h=>h,fun _ _ _ _ h=>h,fun _ _ _ _ h=>h,fun _ _ _ _ h=>h,fun _ _ _ _ h=>h,fun _ _ _ _ h=>h,fun _ _ _ _ h=>h,fun _ _ _ _ h=>h,fun _ _ _ _ h=>h,trivial⟩
   case hG=>exact trivial
   case hA =>
    refine ⟨fun a w hW hk K hK=>?_,?_⟩
    · obtain ⟨k0,-⟩:=hk
      have k0:a.tmps.getD 0 undef=.slice p l.length c:=k0
      go_simp
      exact hK _ _ (Below.refl _ _) hW rfl
    refine ⟨fun a w hW hk K hK=>?_,?_⟩
    · obtain ⟨k0,-⟩:=hk
      have k0:a.tmps.getD 5 undef=.int .i64 (q:Int):=k0
      go_simp
      exact hK _ _ (Below.refl _ _) hW rfl
    refine ⟨fun a w hW hk K hK=>?_,?_⟩
    · obtain ⟨k0,k1,-⟩:=hk
      have k0:a.tmps.getD 17 undef=.slice p l.length c:=k0
      have k1:a.tmps.getD 18 undef=.int .i64 (q:Int):=k1
      have hpq:=hp1.out
      have hk0:(0:Int)≤q:=by omega
      have hk1:(q:Int)<(l.length:Int):=by omega
      go_simp
      exact hK _ _ (Below.refl _ _) hW rfl
    refine ⟨fun a w hW hk K hK=>?_,?_⟩
    · obtain ⟨k0,-⟩:=hk
      have k0:a.tmps.getD 19 undef=.pointer (some ⟨g1,o1+q,none⟩):=k0
      have d0:w.cell? ⟨g1,o1+q,none⟩=some (.int .i64 x):=bel_cell hW.1.bel (E1.out 0 _ rfl)
      go_simp
      exact hK _ _ (Below.refl _ _) hW rfl
    refine ⟨fun a w hW hk K hK=>?_,?_⟩
    · obtain ⟨k0,-⟩:=hk
      have k0:a.tmps.getD 1 undef=.slice p2 m.length d:=k0
      go_simp
      exact hK _ _ (Below.refl _ _) hW rfl
    refine ⟨fun a w hW hk K hK=>?_,?_⟩
    · obtain ⟨k0,-⟩:=hk
      have k0:a.tmps.getD 5 undef=.int .i64 (q:Int):=k0
      go_simp
      exact hK _ _ (Below.refl _ _) hW rfl
    refine ⟨fun a w hW hk K hK=>?_,?_⟩
    · obtain ⟨k0,k1,-⟩:=hk
      have k0:a.tmps.getD 21 undef=.slice p2 m.length d:=k0
      have k1:a.tmps.getD 22 undef=.int .i64 (q:Int):=k1
      have hpq:=hp2.out
      have hk0:(0:Int)≤q:=by omega
      have hk1:(q:Int)<(m.length:Int):=by omega
      go_simp
      exact hK _ _ (Below.refl _ _) hW rfl
    refine ⟨fun a w hW hk K hK=>?_,?_⟩
    · obtain ⟨k0,-⟩:=hk
      have k0:a.tmps.getD 23 undef=.pointer (some ⟨g2,o2+q,none⟩):=k0
      have d0:w.cell? ⟨g2,o2+q,none⟩=some (.int .i64 y):=bel_cell hW.1.bel (E2.out 0 _ rfl)
      go_simp
      exact hK _ _ (Below.refl _ _) hW rfl
    refine ⟨fun a w hW hk K hK=>?_,?_⟩
    · obtain ⟨k0,k1,-⟩:=hk
      have k0:a.tmps.getD 20 undef=.int .i64 x:=k0
      have k1:a.tmps.getD 24 undef=.int .i64 y:=k1
      go_simp
      exact hK _ _ (Below.refl _ _) hW rfl
    trivial
   case hend =>
    intro ops a18 w18 hWD hE hFD
    have hd25:a18.tmps.getD 25 undef=.bool (x != y):=hE 25 rfl
    have hF18:Fr 26 a18 [(25,.bool (x != y)),(1,.slice p2 m.length d),(0,.slice p l.length c),(4,.bool false),(5,.int .i64 (q:Int))]:=(hFD.cons hd25)
    clear hd25
    have hW18:Wd w w18 []:=hWD.1
    clear hFD hWD hE hF17 h14
    clear hW11
    refine wpList_nil ?_
    refine hK16 _ _ ?_
    refine fr_cond (t:=25) hF18 rfl (fun hb=>?_) (fun hb=>?_)
    ·have h9:¬ x=y:=bne_iff_ne.1 hb
     have hel:¬ x=y:=h9
     clear h9
     clear hb
     refine wp_seq_k fun K19 hK19=>?_
     refine rg hF18 fun ops=>?_;clear hF18 a18
     refine sa trivial rfl rfl ?_
     refine St.nil fun a20 h20=>?_
     refine hK19 _ _ ?_
     refine wp_ret ?_;with_reducible repeat first | refine of_then_ret ?_ | refine of_block_ret ?_
     have R:¬ l=m:=by
       intro e
       first
         | exact hlen (by rw [e])
         | exact hel (by rw [← hx.out,← hy.out,e])
     exact ret_tmp (t:=4) h20 rfl rfl ⟨by rw [bdec_false R],hW18.bel⟩
    have h9:x=y:=bne_eq_false_iff_eq.1 hb
    have hel:Hid (x=y):=h9
    clear h9
    clear hb
    refine wp_skip ?_
    refine hK15 _ _ ?_
    refine rg hF18 fun ops=>?_;clear hF18 a18
    refine sm trivial rfl rfl ?_
    refine sad (by omega) trivial rfl rfl rfl ?_
    refine sa trivial rfl rfl ?_
    refine St.nil fun a21 h21=>?_
    refine hKL _ _ (l.length - (q+1)) (by omega) ⟨q+1,by omega,rfl,?_,(h21.keep (h21.keep (h21.keep (h21.keep h21.nil (t:=5) rfl) (t:=4) rfl) (t:=0) rfl) (t:=1) rfl),hW18⟩
    ·intro j hj
     by_cases e:j=q
     · subst e;rw [hx.out,hy.out];exact hel.out
     · exact hall j (by omega)
  have hge:q=l.length:=by have:=of_decide_eq_false hb;omega
  clear hb
  refine wp_exit ?_
  refine hK8 _ _ ?_
  refine wp_seq_k fun K22 hK22=>?_
  refine rg h14 fun ops=>?_;clear h14 a14
  refine sa trivial rfl rfl ?_
  refine St.nil fun a23 h23=>?_
  refine hK22 _ _ ?_
  refine wp_ret ?_;with_reducible repeat first | refine of_then_ret ?_ | refine of_block_ret ?_
  have R:l=m:=by
    refine List.ext_getElem hlen.out fun i h1 h2=>?_
    have:=hall i (by omega)
    simpa [List.getD,h1,h2] using this
  exact ret_tmp (t:=4) h23 rfl rfl ⟨by rw [bdec_true R],hW11.bel⟩
end Go.Proofs.YtalfbnllodhkiacGreatDoor
namespace Go.Proofs.YtalfbnllodhkiacGreatDoor
open Go.ChangeShapes Go.WideShapes Go.ChangeAt Go.RowKit
set_option linter.unusedVariables false
def SaysEq (e : Ending) (A : Prop) : Prop := ∃ q : Bool, e = .returned (.bool q) ∧ (q = true ↔ A)
theorem SaysEq.yes {A : Prop} (h : A) : SaysEq (.returned (.bool true)) A := ⟨true, rfl, by simp [h]⟩
theorem SaysEq.no {A : Prop} (h : ¬ A) : SaysEq (.returned (.bool false)) A := ⟨false, rfl, by simp [h]⟩
def SameAt (f : Nat) (n : Nat) : Prop := ∀ (t u : TT n) (a b : Option Addr) (c d : Nat) (w : World), TIn w All t a → TIn w All u b → t.count ≤ 100000 →
    Calls Tryz.prog f #[Tv t a c,Tv u b d] w fun e w'=>SaysEq e (t=u)∧Below w.heap.size w w'
theorem sames_any (n : Nat) (IH0 : SameAt 68 n) (l m : List (TT n)) (a b : Option Addr) (c d : Nat) (w : World) (hl0 : LIn w All l a) (hm0 : LIn w All m b) (hlen : l.length ≤ 100000) (hco0 : ∀ x ∈ l, x.count ≤ 100000) :
    Calls Tryz.prog 33 #[.slice a l.length c,.slice b m.length d] w fun e w'=>SaysEq e (l=m)∧Below w.heap.size w w':=by
  have IH:Hid (SameAt 68 n):=IH0
  have hl:Hid (LIn w All l a):=hl0
  have hm:Hid (LIn w All m b):=hm0
  have hco:Hid (∀ x∈l,x.count≤100000):=hco0
  clear IH0 hl0 hm0 hco0
  by_cases hne:l.length=m.length
  · have hne':((l.length:Int) != (m.length:Int))=false:=by simp;omega
    have E:Hid (l.length=m.length):=hne
    clear hne
    go_enter Tryz.func33,Tryz.ntmps33
    go_wp2_with fail
    go_loopw [5] (fun i wr=>∃ q:Nat,q≤l.length∧i=.int .i64 q∧(∀ j,j<q→l[j]?=m[j]?)∧Below w.heap.size w wr) (fun i _=>l.length - (intOf i).toNat)
    case atStart=>exact ⟨0,Nat.zero_le _,rfl,fun j hj=>by omega,Below.refl _ _⟩
    case round =>
      obtain ⟨q,hq,rfl,hall,hb⟩:=hrel
      have A:Hid (∀ j,j<q→l[j]?=m[j]?):=hall
      have B:Hid (Below w.heap.size w wr):=hb
      clear hall hb
      by_cases hlt:q<l.length
      · have hx:l[q]?=some l[q]:=List.getElem?_eq_getElem hlt
        have hlm:q<m.length:=by have:=E.out;omega
        have hy:m[q]?=some m[q]:=List.getElem?_eq_getElem hlm
        generalize l[q]=x at hx
        generalize m[q]=y at hy
        obtain ⟨g,o,a',c',rfl,_,d0,d1,d2,hk⟩:=LIn.at (hl.out.below B.out) hx
        obtain ⟨g',o',b',d',rfl,_,d3,d4,d5,hk'⟩:=LIn.at (hm.out.below B.out) hy
        have C:Hid (∀ k,Calls Tryz.prog 68 #[Tv x a' c',Tv y b' d'] (wr.drewN k) fun e w'=>SaysEq e (x=y)∧Below wr.heap.size wr w') :=
          fun k=>(IH.out x y a' b' c' d' _ (hk.drewN k) (hk'.drewN k) (hco.out x (List.mem_of_getElem? hx))).mono (fun e w' h=>⟨h.1,undrewN_below h.2⟩)
        have hx':Hid (l[q]?=some x):=hx
        have hy':Hid (m[q]?=some y):=hy
        clear hk hk' hx hy
        have hk0:(0:Int)≤q:=by omega
        have hk1:(q:Int)<l.length:=by omega
        have hk3:(q:Int)<m.length:=by omega
        go_upto_region 6 with fail
        go_cut [26] (fun t wx=>∃ p:Bool,t=.bool (!p)∧(p=true ↔ x=y)∧Below wr.heap.size wr wx)
        case first =>
          go_region_with (go_at_call 68;refine (C.out 1).mono ?_;rintro r w5 ⟨⟨p,rfl,hp⟩,b5⟩;have HP:Hid (p=true ↔ x=y):=hp;have B5:Hid (Below wr.heap.size wr w5):=b5;clear hp b5)
          all_goals
            go_wp2
            go_meet
            exact ⟨p,rfl,HP.out,B5.out⟩
        case rest =>
          obtain ⟨p,rfl,hp,b5⟩:=hcut
          have HB:Hid (Below w.heap.size w wc):=B.out.trans (b5.mono B.out.size)
          clear C b5 B d0 d1 d2 d3 d4 d5
          cases p with
          | true =>
            have hxy:x=y:=hp.1 rfl
            have A2:Hid (∀ j,j<q+1→l[j]?=m[j]?):=fun j hj=>by
              by_cases e:j=q
              · subst e;rw [hx'.out,hy'.out,hxy]
              · exact A.out j (by omega)
            clear hp hxy hx' hy' A
            go_wp2
            go_roundw
            case rel=>exact ⟨q+1,by omega,by go_num,A2.out,HB.out⟩
            case measure=>simp [intOf];omega
          | false =>
            have hxy:Hid (¬ l=m):=fun h=>by
              have h1:=hx'.out
              rw [h,hy'.out] at h1
              have:=hp.2 (Option.some.inj h1).symm
              cases this
            clear hp hx' hy' A
            go_wp2
            go_ret
            exact ⟨SaysEq.no hxy.out,HB.out⟩
      · have R:Hid (l=m):=by
          have:=E.out
          refine List.ext_getElem? (fun i=>?_)
          by_cases hi:i<q
          · exact A.out i hi
          · rw [List.getElem?_eq_none (by omega),List.getElem?_eq_none (by omega)]
        have hk1:¬ (q:Int)<l.length:=by omega
        clear A
        go_wp2
        go_ret
        exact ⟨SaysEq.yes R.out,B.out⟩
  · have hne':((l.length:Int) != (m.length:Int))=true:=by simp;omega
    have E:Hid (l.length≠m.length):=hne
    clear hne
    go_enter Tryz.func33,Tryz.ntmps33
    go_wp2
    go_ret
    exact ⟨SaysEq.no (fun h=>E.out (by rw [h])),Below.refl _ _⟩
theorem TT.eq_iff {n : Nat} {t u : TT (n + 1)} : t = u ↔ t.kind = u.kind ∧ t.r = u.r ∧ t.2.2 = u.2.2 := by
  obtain ⟨a,b,c⟩:=t
  obtain ⟨d,e,f⟩:=u
  constructor
  · intro h;cases h;exact ⟨rfl,rfl,rfl⟩
  · rintro ⟨rfl,rfl,rfl⟩;rfl
theorem samet_any : ∀ n, SameAt 68 n := by
  intro n
  induction n with
  | zero=>intro t;exact Empty.elim t
  | succ n ih =>
    intro t u a b c d w ht hu hc
    have hco:∀ x∈t.2.2,x.count≤100000:=fun x hx=>by have:=t.count_kid hx;omega
    have hlen:t.2.2.length≤100000:=by have:=t.len_lt_count;rw [t.len_eq] at this;omega
    have C:Hid (∀ wx,Below w.heap.size w wx→Calls Tryz.prog 33 #[.slice a t.2.2.length c,.slice b u.2.2.length d] wx fun e w'=>SaysEq e (t.2.2=u.2.2)∧Below wx.heap.size wx w') :=
      fun wx hb=>sames_any n ih t.2.2 u.2.2 a b c d wx (ht.below hb) (hu.below hb) hlen hco
    rw [TT.eq_iff]
    simp only [Tv,TT.len_eq] at C ⊢
    generalize t.2.2.length=p at C ⊢
    generalize u.2.2.length=q at C ⊢
    generalize (t.2.2=u.2.2)=E at C ⊢
    generalize t.kind=k
    generalize t.r=r
    generalize u.kind=k'
    generalize u.r=r'
    clear hco hlen hc ht hu ih t u
    by_cases hk:k=k'
    · subst hk
      by_cases hr:r=r'
      · subst hr
        go_enter Tryz.func68,Tryz.ntmps68
        go_wp2_with fail
        have B1:Below w.heap.size w ((w.alloc (.cells #[.int .i64 k,.int .i64 r,.slice a p c] 78)).alloc (.cells #[.int .i64 k,.int .i64 r,.slice b q d] 78)):=((Below.refl _ w).alloc (Nat.le_refl _) _).alloc (by simp) _
        refine (C.out _ B1).mono ?_
        rintro e w2 ⟨⟨v,rfl,hv⟩,b2⟩
        have B:Hid (Below w.heap.size w w2):=B1.trans (b2.mono B1.size)
        have V:Hid (v=true ↔ E):=hv
        clear b2 C hv B1
        cases v
        all_goals
          go_wp2
          go_ret
        · exact ⟨SaysEq.no (fun h=>by have:=V.out.2 h.2.2;cases this),B.out⟩
        · exact ⟨SaysEq.yes (by have:=V.out;simpa using this),B.out⟩
      · have hr':(r==r')=false:=by simpa using hr
        have R:Hid (¬ r=r'):=hr
        clear hr
        go_enter Tryz.func68,Tryz.ntmps68
        go_wp2_with fail
        go_ret
        exact ⟨SaysEq.no (fun h=>R.out h.2.1),((Below.refl _ w).alloc (Nat.le_refl _) _).alloc (by simp) _⟩
    · have hk':(k==k')=false:=by simpa using hk
      have R:Hid (¬ k=k'):=hk
      clear hk
      go_enter Tryz.func68,Tryz.ntmps68
      go_wp2_with fail
      go_ret
      exact ⟨SaysEq.no (fun h=>R.out h.1),((Below.refl _ w).alloc (Nat.le_refl _) _).alloc (by simp) _⟩
abbrev FV : Value := .func (.func 207) #[] #[]
theorem eqf_any (n : Nat) (IH0 : SameAt 207 n) (l m : List (TT n)) (a b : Option Addr) (c d : Nat) (w : World) (hl0 : LIn w All l a) (hm0 : LIn w All m b) (hlen : l.length ≤ 100000) (hco0 : ∀ x ∈ l, x.count ≤ 100000) :
    Calls Tryz.prog 206 #[.slice a l.length c,.slice b m.length d,FV] w fun e w'=>SaysEq e (l=m)∧Below w.heap.size w w':=by
  have IH:Hid (SameAt 207 n):=IH0
  have hl:Hid (LIn w All l a):=hl0
  have hm:Hid (LIn w All m b):=hm0
  have hco:Hid (∀ x∈l,x.count≤100000):=hco0
  clear IH0 hl0 hm0 hco0
  by_cases hne:l.length=m.length
  · have hne':((l.length:Int) != (m.length:Int))=false:=by simp;omega
    have E:Hid (l.length=m.length):=hne
    clear hne
    go_enter Tryz.func206,Tryz.ntmps206
    go_wp2_with fail
    go_loopw [17] (fun i wr=>∃ q:Nat,q≤l.length∧i=.int .i64 q∧(∀ j,j<q→l[j]?=m[j]?)∧Below w.heap.size w wr) (fun i _=>l.length - (intOf i).toNat)
    case atStart=>exact ⟨0,Nat.zero_le _,rfl,fun j hj=>by omega,Below.refl _ _⟩
    case round =>
      obtain ⟨q,hq,rfl,hall,hb⟩:=hrel
      have A:Hid (∀ j,j<q→l[j]?=m[j]?):=hall
      have B:Hid (Below w.heap.size w wr):=hb
      clear hall hb
      by_cases hlt:q<l.length
      · have hx:l[q]?=some l[q]:=List.getElem?_eq_getElem hlt
        have hlm:q<m.length:=by have:=E.out;omega
        have hy:m[q]?=some m[q]:=List.getElem?_eq_getElem hlm
        generalize l[q]=x at hx
        generalize m[q]=y at hy
        obtain ⟨g,o,a',c',rfl,_,d0,d1,d2,hk⟩:=LIn.at (hl.out.below B.out) hx
        obtain ⟨g',o',b',d',rfl,_,d3,d4,d5,hk'⟩:=LIn.at (hm.out.below B.out) hy
        have C:Hid (∀ wx,Below wr.heap.size wr wx→Calls Tryz.prog 207 #[Tv x a' c',Tv y b' d'] wx fun e w'=>SaysEq e (x=y)∧Below wx.heap.size wx w') :=
          fun wx hb=>IH.out x y a' b' c' d' _ (hk.below hb) (hk'.below hb) (hco.out x (List.mem_of_getElem? hx))
        have hx':Hid (l[q]?=some x):=hx
        have hy':Hid (m[q]?=some y):=hy
        have hg:g<wr.heap.size:=World.block_lt_of_cell? wr ⟨g,o+q*3,none⟩ d0
        have hg':g'<wr.heap.size:=World.block_lt_of_cell? wr ⟨g',o'+q*3,none⟩ d3
        clear hk hk' hx hy
        simp only [Tv] at C
        generalize x.kind=kx at C d0
        generalize x.r=rx at C d1
        generalize x.len=lx at C d2
        generalize y.kind=ky at C d3
        generalize y.r=ry at C d4
        generalize y.len=ly at C d5
        have hk0:(0:Int)≤q:=by omega
        have hk1:(q:Int)<l.length:=by omega
        have hk3:(q:Int)<m.length:=by omega
        go_wp2_with fail
        have B1:Below wr.heap.size wr ((wr.alloc (.cells #[.int .i64 kx,.int .i64 rx,.slice a' lx c'] 78)).alloc (.cells #[.int .i64 ky,.int .i64 ry,.slice b' ly d'] 78)):=((Below.refl _ wr).alloc (Nat.le_refl _) _).alloc (by simp) _
        refine (C.out _ B1).mono ?_
        rintro r w5 ⟨⟨p,rfl,hp⟩,b5⟩
        have HB:Hid (Below w.heap.size w w5):=(B.out.trans (B1.mono B.out.size)).trans (b5.mono (Nat.le_trans B.out.size B1.size))
        clear C b5 B d0 d1 d2 d3 d4 d5 B1
        cases p with
        | true =>
          have hxy:x=y:=hp.1 rfl
          have A2:Hid (∀ j,j<q+1→l[j]?=m[j]?):=fun j hj=>by
            by_cases e:j=q
            · subst e;rw [hx'.out,hy'.out,hxy]
            · exact A.out j (by omega)
          clear hp hxy hx' hy' A
          go_wp2
          go_roundw
          case rel=>exact ⟨q+1,by omega,by go_num,A2.out,HB.out⟩
          case measure=>simp [intOf];omega
        | false =>
          have hxy:Hid (¬ l=m):=fun h=>by
            have h1:=hx'.out
            rw [h,hy'.out] at h1
            have:=hp.2 (Option.some.inj h1).symm
            cases this
          clear hp hx' hy' A
          go_wp2
          go_ret
          exact ⟨SaysEq.no hxy.out,HB.out⟩
      · have R:Hid (l=m):=by
          have:=E.out
          refine List.ext_getElem? (fun i=>?_)
          by_cases hi:i<q
          · exact A.out i hi
          · rw [List.getElem?_eq_none (by omega),List.getElem?_eq_none (by omega)]
        have hk1:¬ (q:Int)<l.length:=by omega
        clear A
        go_wp2
        go_ret
        exact ⟨SaysEq.yes R.out,B.out⟩
  · have hne':((l.length:Int) != (m.length:Int))=true:=by simp;omega
    have E:Hid (l.length≠m.length):=hne
    clear hne
    go_enter Tryz.func206,Tryz.ntmps206
    go_wp2
    go_ret
    exact ⟨SaysEq.no (fun h=>E.out (by rw [h])),Below.refl _ _⟩
theorem same_any : ∀ n, SameAt 207 n := by
  intro n
  induction n with
  | zero=>intro t;exact Empty.elim t
  | succ n ih =>
    intro t u a b c d w ht hu hc
    have hco:∀ x∈t.2.2,x.count≤100000:=fun x hx=>by have:=t.count_kid hx;omega
    have hlen:t.2.2.length≤100000:=by have:=t.len_lt_count;rw [t.len_eq] at this;omega
    have C:Hid (∀ wx,Below w.heap.size w wx→Calls Tryz.prog 206 #[.slice a t.2.2.length c,.slice b u.2.2.length d,FV] wx fun e w'=>SaysEq e (t.2.2=u.2.2)∧Below wx.heap.size wx w') :=
      fun wx hb=>eqf_any n ih t.2.2 u.2.2 a b c d wx (ht.below hb) (hu.below hb) hlen hco
    rw [TT.eq_iff]
    simp only [Tv,TT.len_eq] at C ⊢
    generalize t.2.2.length=p at C ⊢
    generalize u.2.2.length=q at C ⊢
    generalize (t.2.2=u.2.2)=E at C ⊢
    generalize t.kind=k
    generalize t.r=r
    generalize u.kind=k'
    generalize u.r=r'
    clear hco hlen hc ht hu ih t u
    by_cases hk:k=k'
    · subst hk
      by_cases hr:r=r'
      · subst hr
        go_enter Tryz.func207,Tryz.ntmps207
        go_wp2_with fail
        have B1:Below w.heap.size w ((w.alloc (.cells #[.int .i64 k,.int .i64 r,.slice a p c] 78)).alloc (.cells #[.int .i64 k,.int .i64 r,.slice b q d] 78)):=((Below.refl _ w).alloc (Nat.le_refl _) _).alloc (by simp) _
        refine (C.out _ B1).mono ?_
        rintro e w2 ⟨⟨v,rfl,hv⟩,b2⟩
        have B:Hid (Below w.heap.size w w2):=B1.trans (b2.mono B1.size)
        have V:Hid (v=true ↔ E):=hv
        clear b2 C hv B1
        cases v
        all_goals
          go_wp2
          go_ret
        · exact ⟨SaysEq.no (fun h=>by have:=V.out.2 h.2.2;cases this),B.out⟩
        · exact ⟨SaysEq.yes (by have:=V.out;simpa using this),B.out⟩
      · have hr':(r==r')=false:=by simpa using hr
        have R:Hid (¬ r=r'):=hr
        clear hr
        go_enter Tryz.func207,Tryz.ntmps207
        go_wp2_with fail
        go_ret
        exact ⟨SaysEq.no (fun h=>R.out h.2.1),((Below.refl _ w).alloc (Nat.le_refl _) _).alloc (by simp) _⟩
    · have hk':(k==k')=false:=by simpa using hk
      have R:Hid (¬ k=k'):=hk
      clear hk
      go_enter Tryz.func207,Tryz.ntmps207
      go_wp2_with fail
      go_ret
      exact ⟨SaysEq.no (fun h=>R.out h.1),((Below.refl _ w).alloc (Nat.le_refl _) _).alloc (by simp) _⟩
end Go.Proofs.YtalfbnllodhkiacGreatDoor
namespace Go.Proofs.YtalfbnllodhkiacGreatDoor
open Go.ChangeShapes Go.WideShapes Go.ChangeAt Go.RowKit
set_option linter.unusedSimpArgs false
set_option linter.unusedVariables false
theorem MTo.eq_of {x y : MTo} (h1 : x.block = y.block) (h2 : x.regs = y.regs) (h3 : x.args = y.args) : x = y := by cases x; cases y; simp_all
theorem MIns.eq_of {x y : MIns} (h1 : x.op = y.op) (h2 : x.a = y.a) (h3 : x.b = y.b) (h4 : x.c = y.c) (h5 : x.k = y.k) (h6 : x.n = y.n) (h7 : x.regs = y.regs) (h8 : x.args = y.args) : x = y := by cases x; cases y; simp_all
theorem MEnd.eq_of {x y : MEnd} (h1 : x.op = y.op) (h2 : x.a = y.a) (h3 : x.yes = y.yes) (h4 : x.no = y.no) (h5 : x.args = y.args) : x = y := by cases x; cases y; simp_all
theorem MBlock.eq_of {n : Nat} {x y : MBlock n} (h1 : x.regs = y.regs) (h2 : x.params = y.params) (h3 : x.code = y.code) (h4 : x.fin = y.fin) : x = y := by cases x; cases y; simp_all
theorem MFunc.eq_of {n : Nat} {x y : MFunc n} (h1 : x.regs = y.regs) (h2 : x.params = y.params) (h3 : x.results = y.results) (h4 : x.blocks = y.blocks) : x = y := by cases x; cases y; simp_all
theorem bdec_congr {A B : Prop} (h : A ↔ B) : bdec A = bdec B := by rw [propext h]
theorem rd_says {f : FuncId} {args : Array Value} {w : World} {A : Prop} (h : Calls Tryz.prog f args w fun e w' => SaysEq e A ∧ Below w.heap.size w w') : Rd Tryz.prog f args w (.bool (bdec A)) :=
  h.mono fun e w' h=>by
    obtain ⟨⟨q,rfl,hq⟩,b⟩:=h
    exact ⟨by rw [bdec_of hq],b⟩
theorem sameTypes_any {n : Nat} {l m : List (TT n)} {p q : Option Addr} {c d : Nat} {w : World} (hl : (typesL n).In w All l [.slice p l.length c]) (hm : (typesL n).In w All m [.slice q m.length d]) (hs : tsmall l) : Rd Tryz.prog 33 #[.slice p l.length c, .slice q m.length d] w (.bool (bdec (l = m))) :=
  rd_says (sames_any n (samet_any n) l m p q c d w (types_lin hl).1 (types_lin hm).1 (by have:=hs.1;omega) hs.2)
theorem eqTypes_any {n : Nat} {l m : List (TT n)} {p q : Option Addr} {c d : Nat} {w : World} (hl : (typesL n).In w All l [.slice p l.length c]) (hm : (typesL n).In w All m [.slice q m.length d]) (hs : tsmall l) : Rd Tryz.prog 206 #[.slice p l.length c, .slice q m.length d, .func (.func 207) #[] #[]] w (.bool (bdec (l = m))) :=
  rd_says (eqf_any n (same_any n) l m p q c d w (types_lin hl).1 (types_lin hm).1 (by have:=hs.1;omega) hs.2)
theorem sameTo_any {x y : MTo} {pR pA qR qA : Option Addr} {cR cA dR dA : Nat} {w : World} (hx0 : TIn2 w All x pR cR pA cA) (hy0 : TIn2 w All y qR dR qA dA) (hs0 : x.small) :
    Rd Tryz.prog 70 #[.agg #[.int .i64 x.block,.slice pR x.regs.length cR,.slice pA x.args.length cA],.agg #[.int .i64 y.block,.slice qR y.regs.length dR,.slice qA y.args.length dA]] w (.bool (bdec (x=y))):=by
  have hx:Hid _:=hx0
  have hy:Hid _:=hy0
  have hs:Hid _:=hs0
  clear hx0 hy0 hs0
  refine fr_enter (n:=24) Tryz.func70 rfl rfl rfl ?_
  intro a hF
  have hW:=Wd.start w
  replace hF:Fr 24 a [(0,.agg #[.int .i64 x.block,.slice pR x.regs.length cR,.slice pA x.args.length cA]),(1,.agg #[.int .i64 y.block,.slice qR y.regs.length dR,.slice qA y.args.length dA])]:=hF
  refine wp_seq_k fun K1 hK1=>?_
  refine rg hF fun ops=>?_;clear hF a
  refine sB hW trivial rfl rfl ?_
  clear hW;intro w2 B2 hW2 hN;clear hN
  refine sB hW2 trivial rfl rfl ?_
  clear hW2;intro w3 B3 hW3 hN;clear hN
  refine sa trivial rfl rfl ?_
  refine St.nil fun a4 h4=>?_
  refine hK1 _ _ ?_
  refine wp_seq_k fun K5 hK5=>?_
  refine fr_region ?_
  intro ops hops
  have hg5:(ops[5]?).bind (fun o:Oper=>o.dst)=some 10:=hops 5
  have hg12:(ops[12]?).bind (fun o:Oper=>o.dst)=some 17:=hops 12
  clear hops
  refine St.go h4 ?_;clear h4 a4
  refine sfTo0 trivial rfl rfl ?_
  refine sbInt 1 hW3 trivial rfl rfl rfl rfl ?_
  refine sfTo0 trivial rfl rfl ?_
  refine sbInt 0 hW3 trivial rfl rfl rfl rfl ?_
  refine seq trivial rfl rfl rfl ?_
  refine sm trivial rfl rfl ?_
  intro a6 h6
  rcases Bool.eq_false_or_eq_true (x.block==y.block) with hb | hb
  ·rw [hb] at h6
   have h9:x.block=y.block:=eq_of_beq hb
   have hc7:Hid (x.block=y.block):=h9
   clear h9
   clear hb
   refine St.go h6 ?_;clear h6 a6
   refine sfTo1 ⟨_,hg5,rfl,rfl⟩ rfl rfl ?_
   refine sbInts 1 hW3 ⟨_,hg5,rfl,rfl⟩ rfl rfl rfl rfl ?_
   refine sfTo1 ⟨_,hg5,rfl,rfl⟩ rfl rfl ?_
   refine sbInts 0 hW3 ⟨_,hg5,rfl,rfl⟩ rfl rfl rfl rfl ?_
   refine sc_2 cf71 hW3 (sameInts_any x.regs y.regs pR qR cR dR w3 (Lay.below hx.out.regs hW3.bel) (Lay.below hy.out.regs hW3.bel) (by have:=hs.out.1;omega)) ⟨_,hg5,rfl,rfl⟩ rfl rfl rfl ?_
   clear hW3;intro w8 hW8
   refine sp trivial rfl rfl rfl ?_
   refine sm trivial rfl rfl ?_
   intro a9 h9
   rcases Bool.eq_false_or_eq_true (bdec (x.regs=y.regs)) with hb | hb
   ·rw [hb] at h9
    have hc10:(x.regs=y.regs):=bdec_iff.1 hb
    clear hb
    refine St.go h9 ?_;clear h9 a9
    refine sfTo2 ⟨_,hg12,rfl,rfl⟩ rfl rfl ?_
    refine sbInts 1 hW8 ⟨_,hg12,rfl,rfl⟩ rfl rfl rfl rfl ?_
    refine sfTo2 ⟨_,hg12,rfl,rfl⟩ rfl rfl ?_
    refine sbInts 0 hW8 ⟨_,hg12,rfl,rfl⟩ rfl rfl rfl rfl ?_
    refine sc_2 cf71 hW8 (sameInts_any x.args y.args pA qA cA dA w8 (Lay.below hx.out.args hW8.bel) (Lay.below hy.out.args hW8.bel) (by have:=hs.out.2;omega)) ⟨_,hg12,rfl,rfl⟩ rfl rfl rfl ?_
    clear hW8;intro w11 hW11
    refine sp trivial rfl rfl rfl ?_
    refine sa trivial rfl rfl ?_
    refine St.nil fun a12 h12=>?_
    refine hK5 _ _ ?_
    refine wp_ret ?_;with_reducible repeat first | refine of_then_ret ?_ | refine of_block_ret ?_
    have R:x.args=y.args ↔ x=y:=⟨fun h=>MTo.eq_of hc7.out hc10 h,fun e=>by rw [e]⟩
    exact ret_tmp (t:=4) h12 rfl rfl ⟨by rw [bdec_congr R],hW11.bel⟩
   rw [hb] at h9
   have hc13:¬ (x.regs=y.regs):=fun h=>by rw [bdec_true h] at hb;cases hb
   clear hb
   refine St.go h9 ?_;clear h9 a9
   refine so hg12 rfl rfl rfl rfl ?_
   refine so hg12 rfl rfl rfl rfl ?_
   refine so hg12 rfl rfl rfl rfl ?_
   refine so hg12 rfl rfl rfl rfl ?_
   refine so hg12 rfl rfl rfl rfl ?_
   refine spf trivial rfl rfl rfl ?_
   refine sa trivial rfl rfl ?_
   refine St.nil fun a14 h14=>?_
   refine hK5 _ _ ?_
   refine wp_ret ?_;with_reducible repeat first | refine of_then_ret ?_ | refine of_block_ret ?_
   have R:¬ x=y:=fun e=>hc13 (by rw [e])
   exact ret_tmp (t:=4) h14 rfl rfl ⟨by rw [bdec_false R],hW8.bel⟩
  rw [hb] at h6
  have h9:¬ x.block=y.block:=ne_of_beq_false hb
  have hc15:¬ x.block=y.block:=h9
  clear h9
  clear hb
  refine St.go h6 ?_;clear h6 a6
  refine so hg5 rfl rfl rfl rfl ?_
  refine so hg5 rfl rfl rfl rfl ?_
  refine so hg5 rfl rfl rfl rfl ?_
  refine so hg5 rfl rfl rfl rfl ?_
  refine so hg5 rfl rfl rfl rfl ?_
  refine spf trivial rfl rfl rfl ?_
  refine sm trivial rfl rfl ?_
  refine so hg12 rfl rfl rfl rfl ?_
  refine so hg12 rfl rfl rfl rfl ?_
  refine so hg12 rfl rfl rfl rfl ?_
  refine so hg12 rfl rfl rfl rfl ?_
  refine so hg12 rfl rfl rfl rfl ?_
  refine spf trivial rfl rfl rfl ?_
  refine sa trivial rfl rfl ?_
  refine St.nil fun a16 h16=>?_
  refine hK5 _ _ ?_
  refine wp_ret ?_;with_reducible repeat first | refine of_then_ret ?_ | refine of_block_ret ?_
  have R:¬ x=y:=fun e=>hc15 (by rw [e])
  exact ret_tmp (t:=4) h16 rfl rfl ⟨by rw [bdec_false R],hW3.bel⟩
theorem sameIns_any {x y : MIns} {i j : IP} {w : World} (hx0 : IIn w All x i) (hy0 : IIn w All y j) (hs0 : x.small) :
    Rd Tryz.prog 69 #[.agg #[.int .i64 x.op,.int .i64 x.a,.int .i64 x.b,.int .i64 x.c,.int .i64 x.k,.int .i64 x.n,.slice i.pR x.regs.length i.cR,.slice i.pA x.args.length i.cA],.agg #[.int .i64 y.op,.int .i64 y.a,.int .i64 y.b,.int .i64 y.c,.int .i64 y.k,.int .i64 y.n,.slice j.pR y.regs.length j.cR,.slice j.pA y.args.length j.cA]] w (.bool (bdec (x=y))):=by
  have hx:Hid _:=hx0
  have hy:Hid _:=hy0
  have hs:Hid _:=hs0
  clear hx0 hy0 hs0
  refine fr_enter (n:=59) Tryz.func69 rfl rfl rfl ?_
  intro a hF
  have hW:=Wd.start w
  replace hF:Fr 59 a [(0,.agg #[.int .i64 x.op,.int .i64 x.a,.int .i64 x.b,.int .i64 x.c,.int .i64 x.k,.int .i64 x.n,.slice i.pR x.regs.length i.cR,.slice i.pA x.args.length i.cA]),(1,.agg #[.int .i64 y.op,.int .i64 y.a,.int .i64 y.b,.int .i64 y.c,.int .i64 y.k,.int .i64 y.n,.slice j.pR y.regs.length j.cR,.slice j.pA y.args.length j.cA])]:=hF
  refine wp_seq_k fun K1 hK1=>?_
  refine rg hF fun ops=>?_;clear hF a
  refine sB hW trivial rfl rfl ?_
  clear hW;intro w2 B2 hW2 hN;clear hN
  refine sB hW2 trivial rfl rfl ?_
  clear hW2;intro w3 B3 hW3 hN;clear hN
  refine sa trivial rfl rfl ?_
  refine St.nil fun a4 h4=>?_
  refine hK1 _ _ ?_
  refine wp_seq_k fun K5 hK5=>?_
  refine fr_region ?_
  intro ops hops
  have hg5:(ops[5]?).bind (fun o:Oper=>o.dst)=some 10:=hops 5
  have hg12:(ops[12]?).bind (fun o:Oper=>o.dst)=some 17:=hops 12
  have hg19:(ops[19]?).bind (fun o:Oper=>o.dst)=some 24:=hops 19
  have hg26:(ops[26]?).bind (fun o:Oper=>o.dst)=some 31:=hops 26
  have hg33:(ops[33]?).bind (fun o:Oper=>o.dst)=some 38:=hops 33
  have hg40:(ops[40]?).bind (fun o:Oper=>o.dst)=some 45:=hops 40
  have hg47:(ops[47]?).bind (fun o:Oper=>o.dst)=some 52:=hops 47
  clear hops
  refine St.go h4 ?_;clear h4 a4
  refine sfIns0 trivial rfl rfl ?_
  refine sbInt 1 hW3 trivial rfl rfl rfl rfl ?_
  refine sfIns0 trivial rfl rfl ?_
  refine sbInt 0 hW3 trivial rfl rfl rfl rfl ?_
  refine seq trivial rfl rfl rfl ?_
  refine sm trivial rfl rfl ?_
  intro a6 h6
  rcases Bool.eq_false_or_eq_true (x.op==y.op) with hb | hb
  ·rw [hb] at h6
   have h9:x.op=y.op:=eq_of_beq hb
   have hc7:Hid (x.op=y.op):=h9
   clear h9
   clear hb
   refine St.go h6 ?_;clear h6 a6
   refine sfIns1 ⟨_,hg5,rfl,rfl⟩ rfl rfl ?_
   refine sbInt 1 hW3 ⟨_,hg5,rfl,rfl⟩ rfl rfl rfl rfl ?_
   refine sfIns1 ⟨_,hg5,rfl,rfl⟩ rfl rfl ?_
   refine sbInt 0 hW3 ⟨_,hg5,rfl,rfl⟩ rfl rfl rfl rfl ?_
   refine seq ⟨_,hg5,rfl,rfl⟩ rfl rfl rfl ?_
   refine sp trivial rfl rfl rfl ?_
   refine sm trivial rfl rfl ?_
   intro a8 h8
   rcases Bool.eq_false_or_eq_true (x.a==y.a) with hb | hb
   ·rw [hb] at h8
    have h9:x.a=y.a:=eq_of_beq hb
    have hc9:Hid (x.a=y.a):=h9
    clear h9
    clear hb
    refine St.go h8 ?_;clear h8 a8
    refine sfIns2 ⟨_,hg12,rfl,rfl⟩ rfl rfl ?_
    refine sbInt 1 hW3 ⟨_,hg12,rfl,rfl⟩ rfl rfl rfl rfl ?_
    refine sfIns2 ⟨_,hg12,rfl,rfl⟩ rfl rfl ?_
    refine sbInt 0 hW3 ⟨_,hg12,rfl,rfl⟩ rfl rfl rfl rfl ?_
    refine seq ⟨_,hg12,rfl,rfl⟩ rfl rfl rfl ?_
    refine sp trivial rfl rfl rfl ?_
    refine sm trivial rfl rfl ?_
    intro a10 h10
    rcases Bool.eq_false_or_eq_true (x.b==y.b) with hb | hb
    ·rw [hb] at h10
     have h9:x.b=y.b:=eq_of_beq hb
     have hc11:Hid (x.b=y.b):=h9
     clear h9
     clear hb
     refine St.go h10 ?_;clear h10 a10
     refine sfIns3 ⟨_,hg19,rfl,rfl⟩ rfl rfl ?_
     refine sbInt 1 hW3 ⟨_,hg19,rfl,rfl⟩ rfl rfl rfl rfl ?_
     refine sfIns3 ⟨_,hg19,rfl,rfl⟩ rfl rfl ?_
     refine sbInt 0 hW3 ⟨_,hg19,rfl,rfl⟩ rfl rfl rfl rfl ?_
     refine seq ⟨_,hg19,rfl,rfl⟩ rfl rfl rfl ?_
     refine sp trivial rfl rfl rfl ?_
     refine sm trivial rfl rfl ?_
     intro a12 h12
     rcases Bool.eq_false_or_eq_true (x.c==y.c) with hb | hb
     ·rw [hb] at h12
      have h9:x.c=y.c:=eq_of_beq hb
      have hc13:Hid (x.c=y.c):=h9
      clear h9
      clear hb
      refine St.go h12 ?_;clear h12 a12
      refine sfIns4 ⟨_,hg26,rfl,rfl⟩ rfl rfl ?_
      refine sbInt 1 hW3 ⟨_,hg26,rfl,rfl⟩ rfl rfl rfl rfl ?_
      refine sfIns4 ⟨_,hg26,rfl,rfl⟩ rfl rfl ?_
      refine sbInt 0 hW3 ⟨_,hg26,rfl,rfl⟩ rfl rfl rfl rfl ?_
      refine seq ⟨_,hg26,rfl,rfl⟩ rfl rfl rfl ?_
      refine sp trivial rfl rfl rfl ?_
      refine sm trivial rfl rfl ?_
      intro a14 h14
      rcases Bool.eq_false_or_eq_true (x.k==y.k) with hb | hb
      ·rw [hb] at h14
       have h9:x.k=y.k:=eq_of_beq hb
       have hc15:Hid (x.k=y.k):=h9
       clear h9
       clear hb
       refine St.go h14 ?_;clear h14 a14
       refine sfIns5 ⟨_,hg33,rfl,rfl⟩ rfl rfl ?_
       refine sbInt6 1 hW3 ⟨_,hg33,rfl,rfl⟩ rfl rfl rfl rfl ?_
       refine sfIns5 ⟨_,hg33,rfl,rfl⟩ rfl rfl ?_
       refine sbInt6 0 hW3 ⟨_,hg33,rfl,rfl⟩ rfl rfl rfl rfl ?_
       refine seq6 ⟨_,hg33,rfl,rfl⟩ rfl rfl rfl ?_
       refine sp trivial rfl rfl rfl ?_
       refine sm trivial rfl rfl ?_
       intro a16 h16
       rcases Bool.eq_false_or_eq_true (x.n==y.n) with hb | hb
       ·rw [hb] at h16
        have h9:x.n=y.n:=eq_of_beq hb
        have hc17:Hid (x.n=y.n):=h9
        clear h9
        clear hb
        refine St.go h16 ?_;clear h16 a16
        refine sfIns6 ⟨_,hg40,rfl,rfl⟩ rfl rfl ?_
        refine sbInts 1 hW3 ⟨_,hg40,rfl,rfl⟩ rfl rfl rfl rfl ?_
        refine sfIns6 ⟨_,hg40,rfl,rfl⟩ rfl rfl ?_
        refine sbInts 0 hW3 ⟨_,hg40,rfl,rfl⟩ rfl rfl rfl rfl ?_
        refine sc_2 cf71 hW3 (sameInts_any x.regs y.regs i.pR j.pR i.cR j.cR w3 (Lay.below hx.out.regs hW3.bel) (Lay.below hy.out.regs hW3.bel) (by have:=hs.out.1;omega)) ⟨_,hg40,rfl,rfl⟩ rfl rfl rfl ?_
        clear hW3;intro w18 hW18
        refine sp trivial rfl rfl rfl ?_
        refine sm trivial rfl rfl ?_
        intro a19 h19
        rcases Bool.eq_false_or_eq_true (bdec (x.regs=y.regs)) with hb | hb
        ·rw [hb] at h19
         have hc20:(x.regs=y.regs):=bdec_iff.1 hb
         clear hb
         refine St.go h19 ?_;clear h19 a19
         refine sfIns7 ⟨_,hg47,rfl,rfl⟩ rfl rfl ?_
         refine sbInts 1 hW18 ⟨_,hg47,rfl,rfl⟩ rfl rfl rfl rfl ?_
         refine sfIns7 ⟨_,hg47,rfl,rfl⟩ rfl rfl ?_
         refine sbInts 0 hW18 ⟨_,hg47,rfl,rfl⟩ rfl rfl rfl rfl ?_
         refine sc_2 cf71 hW18 (sameInts_any x.args y.args i.pA j.pA i.cA j.cA w18 (Lay.below hx.out.args hW18.bel) (Lay.below hy.out.args hW18.bel) (by have:=hs.out.2;omega)) ⟨_,hg47,rfl,rfl⟩ rfl rfl rfl ?_
         clear hW18;intro w21 hW21
         refine sp trivial rfl rfl rfl ?_
         refine sa trivial rfl rfl ?_
         refine St.nil fun a22 h22=>?_
         refine hK5 _ _ ?_
         refine wp_ret ?_;with_reducible repeat first | refine of_then_ret ?_ | refine of_block_ret ?_
         have R:x.args=y.args ↔ x=y:=⟨fun h=>MIns.eq_of hc7.out hc9.out hc11.out hc13.out hc15.out hc17.out hc20 h,fun e=>by rw [e]⟩
         exact ret_tmp (t:=4) h22 rfl rfl ⟨by rw [bdec_congr R],hW21.bel⟩
        rw [hb] at h19
        have hc23:¬ (x.regs=y.regs):=fun h=>by rw [bdec_true h] at hb;cases hb
        clear hb
        refine St.go h19 ?_;clear h19 a19
        refine so hg47 rfl rfl rfl rfl ?_
        refine so hg47 rfl rfl rfl rfl ?_
        refine so hg47 rfl rfl rfl rfl ?_
        refine so hg47 rfl rfl rfl rfl ?_
        refine so hg47 rfl rfl rfl rfl ?_
        refine spf trivial rfl rfl rfl ?_
        refine sa trivial rfl rfl ?_
        refine St.nil fun a24 h24=>?_
        refine hK5 _ _ ?_
        refine wp_ret ?_;with_reducible repeat first | refine of_then_ret ?_ | refine of_block_ret ?_
        have R:¬ x=y:=fun e=>hc23 (by rw [e])
        exact ret_tmp (t:=4) h24 rfl rfl ⟨by rw [bdec_false R],hW18.bel⟩
       rw [hb] at h16
       have h9:¬ x.n=y.n:=ne_of_beq_false hb
       have hc25:¬ x.n=y.n:=h9
       clear h9
       clear hb
       refine St.go h16 ?_;clear h16 a16
       refine so hg40 rfl rfl rfl rfl ?_
       refine so hg40 rfl rfl rfl rfl ?_
       refine so hg40 rfl rfl rfl rfl ?_
       refine so hg40 rfl rfl rfl rfl ?_
       refine so hg40 rfl rfl rfl rfl ?_
       refine spf trivial rfl rfl rfl ?_
       refine sm trivial rfl rfl ?_
       refine so hg47 rfl rfl rfl rfl ?_
       refine so hg47 rfl rfl rfl rfl ?_
       refine so hg47 rfl rfl rfl rfl ?_
       refine so hg47 rfl rfl rfl rfl ?_
       refine so hg47 rfl rfl rfl rfl ?_
       refine spf trivial rfl rfl rfl ?_
       refine sa trivial rfl rfl ?_
       refine St.nil fun a26 h26=>?_
       refine hK5 _ _ ?_
       refine wp_ret ?_;with_reducible repeat first | refine of_then_ret ?_ | refine of_block_ret ?_
       have R:¬ x=y:=fun e=>hc25 (by rw [e])
       exact ret_tmp (t:=4) h26 rfl rfl ⟨by rw [bdec_false R],hW3.bel⟩
      rw [hb] at h14
      have h9:¬ x.k=y.k:=ne_of_beq_false hb
      have hc27:¬ x.k=y.k:=h9
      clear h9
      clear hb
      refine St.go h14 ?_;clear h14 a14
      refine so hg33 rfl rfl rfl rfl ?_
      refine so hg33 rfl rfl rfl rfl ?_
      refine so hg33 rfl rfl rfl rfl ?_
      refine so hg33 rfl rfl rfl rfl ?_
      refine so hg33 rfl rfl rfl rfl ?_
      refine spf trivial rfl rfl rfl ?_
      refine sm trivial rfl rfl ?_
      refine so hg40 rfl rfl rfl rfl ?_
      refine so hg40 rfl rfl rfl rfl ?_
      refine so hg40 rfl rfl rfl rfl ?_
      refine so hg40 rfl rfl rfl rfl ?_
      refine so hg40 rfl rfl rfl rfl ?_
      refine spf trivial rfl rfl rfl ?_
      refine sm trivial rfl rfl ?_
      refine so hg47 rfl rfl rfl rfl ?_
      refine so hg47 rfl rfl rfl rfl ?_
      refine so hg47 rfl rfl rfl rfl ?_
      refine so hg47 rfl rfl rfl rfl ?_
      refine so hg47 rfl rfl rfl rfl ?_
      refine spf trivial rfl rfl rfl ?_
      refine sa trivial rfl rfl ?_
      refine St.nil fun a28 h28=>?_
      refine hK5 _ _ ?_
      refine wp_ret ?_;with_reducible repeat first | refine of_then_ret ?_ | refine of_block_ret ?_
      have R:¬ x=y:=fun e=>hc27 (by rw [e])
      exact ret_tmp (t:=4) h28 rfl rfl ⟨by rw [bdec_false R],hW3.bel⟩
     rw [hb] at h12
     have h9:¬ x.c=y.c:=ne_of_beq_false hb
     have hc29:¬ x.c=y.c:=h9
     clear h9
     clear hb
     refine St.go h12 ?_;clear h12 a12
     refine so hg26 rfl rfl rfl rfl ?_
     refine so hg26 rfl rfl rfl rfl ?_
     refine so hg26 rfl rfl rfl rfl ?_
     refine so hg26 rfl rfl rfl rfl ?_
     refine so hg26 rfl rfl rfl rfl ?_
     refine spf trivial rfl rfl rfl ?_
     refine sm trivial rfl rfl ?_
     refine so hg33 rfl rfl rfl rfl ?_
     refine so hg33 rfl rfl rfl rfl ?_
     refine so hg33 rfl rfl rfl rfl ?_
     refine so hg33 rfl rfl rfl rfl ?_
     refine so hg33 rfl rfl rfl rfl ?_
     refine spf trivial rfl rfl rfl ?_
     refine sm trivial rfl rfl ?_
     refine so hg40 rfl rfl rfl rfl ?_
     refine so hg40 rfl rfl rfl rfl ?_
     refine so hg40 rfl rfl rfl rfl ?_
     refine so hg40 rfl rfl rfl rfl ?_
     refine so hg40 rfl rfl rfl rfl ?_
     refine spf trivial rfl rfl rfl ?_
     refine sm trivial rfl rfl ?_
     refine so hg47 rfl rfl rfl rfl ?_
     refine so hg47 rfl rfl rfl rfl ?_
     refine so hg47 rfl rfl rfl rfl ?_
     refine so hg47 rfl rfl rfl rfl ?_
     refine so hg47 rfl rfl rfl rfl ?_
     refine spf trivial rfl rfl rfl ?_
     refine sa trivial rfl rfl ?_
     refine St.nil fun a30 h30=>?_
     refine hK5 _ _ ?_
     refine wp_ret ?_;with_reducible repeat first | refine of_then_ret ?_ | refine of_block_ret ?_
     have R:¬ x=y:=fun e=>hc29 (by rw [e])
     exact ret_tmp (t:=4) h30 rfl rfl ⟨by rw [bdec_false R],hW3.bel⟩
    rw [hb] at h10
    have h9:¬ x.b=y.b:=ne_of_beq_false hb
    have hc31:¬ x.b=y.b:=h9
    clear h9
    clear hb
    refine St.go h10 ?_;clear h10 a10
    refine so hg19 rfl rfl rfl rfl ?_
    refine so hg19 rfl rfl rfl rfl ?_
    refine so hg19 rfl rfl rfl rfl ?_
    refine so hg19 rfl rfl rfl rfl ?_
    refine so hg19 rfl rfl rfl rfl ?_
    refine spf trivial rfl rfl rfl ?_
    refine sm trivial rfl rfl ?_
    refine so hg26 rfl rfl rfl rfl ?_
    refine so hg26 rfl rfl rfl rfl ?_
    refine so hg26 rfl rfl rfl rfl ?_
    refine so hg26 rfl rfl rfl rfl ?_
    refine so hg26 rfl rfl rfl rfl ?_
    refine spf trivial rfl rfl rfl ?_
    refine sm trivial rfl rfl ?_
    refine so hg33 rfl rfl rfl rfl ?_
    refine so hg33 rfl rfl rfl rfl ?_
    refine so hg33 rfl rfl rfl rfl ?_
    refine so hg33 rfl rfl rfl rfl ?_
    refine so hg33 rfl rfl rfl rfl ?_
    refine spf trivial rfl rfl rfl ?_
    refine sm trivial rfl rfl ?_
    refine so hg40 rfl rfl rfl rfl ?_
    refine so hg40 rfl rfl rfl rfl ?_
    refine so hg40 rfl rfl rfl rfl ?_
    refine so hg40 rfl rfl rfl rfl ?_
    refine so hg40 rfl rfl rfl rfl ?_
    refine spf trivial rfl rfl rfl ?_
    refine sm trivial rfl rfl ?_
    refine so hg47 rfl rfl rfl rfl ?_
    refine so hg47 rfl rfl rfl rfl ?_
    refine so hg47 rfl rfl rfl rfl ?_
    refine so hg47 rfl rfl rfl rfl ?_
    refine so hg47 rfl rfl rfl rfl ?_
    refine spf trivial rfl rfl rfl ?_
    refine sa trivial rfl rfl ?_
    refine St.nil fun a32 h32=>?_
    refine hK5 _ _ ?_
    refine wp_ret ?_;with_reducible repeat first | refine of_then_ret ?_ | refine of_block_ret ?_
    have R:¬ x=y:=fun e=>hc31 (by rw [e])
    exact ret_tmp (t:=4) h32 rfl rfl ⟨by rw [bdec_false R],hW3.bel⟩
   rw [hb] at h8
   have h9:¬ x.a=y.a:=ne_of_beq_false hb
   have hc33:¬ x.a=y.a:=h9
   clear h9
   clear hb
   refine St.go h8 ?_;clear h8 a8
   refine so hg12 rfl rfl rfl rfl ?_
   refine so hg12 rfl rfl rfl rfl ?_
   refine so hg12 rfl rfl rfl rfl ?_
   refine so hg12 rfl rfl rfl rfl ?_
   refine so hg12 rfl rfl rfl rfl ?_
   refine spf trivial rfl rfl rfl ?_
   refine sm trivial rfl rfl ?_
   refine so hg19 rfl rfl rfl rfl ?_
   refine so hg19 rfl rfl rfl rfl ?_
   refine so hg19 rfl rfl rfl rfl ?_
   refine so hg19 rfl rfl rfl rfl ?_
   refine so hg19 rfl rfl rfl rfl ?_
   refine spf trivial rfl rfl rfl ?_
   refine sm trivial rfl rfl ?_
   refine so hg26 rfl rfl rfl rfl ?_
   refine so hg26 rfl rfl rfl rfl ?_
   refine so hg26 rfl rfl rfl rfl ?_
   refine so hg26 rfl rfl rfl rfl ?_
   refine so hg26 rfl rfl rfl rfl ?_
   refine spf trivial rfl rfl rfl ?_
   refine sm trivial rfl rfl ?_
   refine so hg33 rfl rfl rfl rfl ?_
   refine so hg33 rfl rfl rfl rfl ?_
   refine so hg33 rfl rfl rfl rfl ?_
   refine so hg33 rfl rfl rfl rfl ?_
   refine so hg33 rfl rfl rfl rfl ?_
   refine spf trivial rfl rfl rfl ?_
   refine sm trivial rfl rfl ?_
   refine so hg40 rfl rfl rfl rfl ?_
   refine so hg40 rfl rfl rfl rfl ?_
   refine so hg40 rfl rfl rfl rfl ?_
   refine so hg40 rfl rfl rfl rfl ?_
   refine so hg40 rfl rfl rfl rfl ?_
   refine spf trivial rfl rfl rfl ?_
   refine sm trivial rfl rfl ?_
   refine so hg47 rfl rfl rfl rfl ?_
   refine so hg47 rfl rfl rfl rfl ?_
   refine so hg47 rfl rfl rfl rfl ?_
   refine so hg47 rfl rfl rfl rfl ?_
   refine so hg47 rfl rfl rfl rfl ?_
   refine spf trivial rfl rfl rfl ?_
   refine sa trivial rfl rfl ?_
   refine St.nil fun a34 h34=>?_
   refine hK5 _ _ ?_
   refine wp_ret ?_;with_reducible repeat first | refine of_then_ret ?_ | refine of_block_ret ?_
   have R:¬ x=y:=fun e=>hc33 (by rw [e])
   exact ret_tmp (t:=4) h34 rfl rfl ⟨by rw [bdec_false R],hW3.bel⟩
  rw [hb] at h6
  have h9:¬ x.op=y.op:=ne_of_beq_false hb
  have hc35:¬ x.op=y.op:=h9
  clear h9
  clear hb
  refine St.go h6 ?_;clear h6 a6
  refine so hg5 rfl rfl rfl rfl ?_
  refine so hg5 rfl rfl rfl rfl ?_
  refine so hg5 rfl rfl rfl rfl ?_
  refine so hg5 rfl rfl rfl rfl ?_
  refine so hg5 rfl rfl rfl rfl ?_
  refine spf trivial rfl rfl rfl ?_
  refine sm trivial rfl rfl ?_
  refine so hg12 rfl rfl rfl rfl ?_
  refine so hg12 rfl rfl rfl rfl ?_
  refine so hg12 rfl rfl rfl rfl ?_
  refine so hg12 rfl rfl rfl rfl ?_
  refine so hg12 rfl rfl rfl rfl ?_
  refine spf trivial rfl rfl rfl ?_
  refine sm trivial rfl rfl ?_
  refine so hg19 rfl rfl rfl rfl ?_
  refine so hg19 rfl rfl rfl rfl ?_
  refine so hg19 rfl rfl rfl rfl ?_
  refine so hg19 rfl rfl rfl rfl ?_
  refine so hg19 rfl rfl rfl rfl ?_
  refine spf trivial rfl rfl rfl ?_
  refine sm trivial rfl rfl ?_
  refine so hg26 rfl rfl rfl rfl ?_
  refine so hg26 rfl rfl rfl rfl ?_
  refine so hg26 rfl rfl rfl rfl ?_
  refine so hg26 rfl rfl rfl rfl ?_
  refine so hg26 rfl rfl rfl rfl ?_
  refine spf trivial rfl rfl rfl ?_
  refine sm trivial rfl rfl ?_
  refine so hg33 rfl rfl rfl rfl ?_
  refine so hg33 rfl rfl rfl rfl ?_
  refine so hg33 rfl rfl rfl rfl ?_
  refine so hg33 rfl rfl rfl rfl ?_
  refine so hg33 rfl rfl rfl rfl ?_
  refine spf trivial rfl rfl rfl ?_
  refine sm trivial rfl rfl ?_
  refine so hg40 rfl rfl rfl rfl ?_
  refine so hg40 rfl rfl rfl rfl ?_
  refine so hg40 rfl rfl rfl rfl ?_
  refine so hg40 rfl rfl rfl rfl ?_
  refine so hg40 rfl rfl rfl rfl ?_
  refine spf trivial rfl rfl rfl ?_
  refine sm trivial rfl rfl ?_
  refine so hg47 rfl rfl rfl rfl ?_
  refine so hg47 rfl rfl rfl rfl ?_
  refine so hg47 rfl rfl rfl rfl ?_
  refine so hg47 rfl rfl rfl rfl ?_
  refine so hg47 rfl rfl rfl rfl ?_
  refine spf trivial rfl rfl rfl ?_
  refine sa trivial rfl rfl ?_
  refine St.nil fun a36 h36=>?_
  refine hK5 _ _ ?_
  refine wp_ret ?_;with_reducible repeat first | refine of_then_ret ?_ | refine of_block_ret ?_
  have R:¬ x=y:=fun e=>hc35 (by rw [e])
  exact ret_tmp (t:=4) h36 rfl rfl ⟨by rw [bdec_false R],hW3.bel⟩
end Go.Proofs.YtalfbnllodhkiacGreatDoor
namespace Go.Proofs.YtalfbnllodhkiacGreatDoor
open Go.ChangeShapes Go.WideShapes Go.ChangeAt Go.RowKit
set_option linter.unusedVariables false
def fieldsV (op : Int) : Value := match fieldsOf op with
  | some (a,b,c,k,n,rg,ar)=>.tuple #[.agg #[.bool a,.bool b,.bool c,.bool k,.bool n,.bool rg,.bool ar],.bool true]
  | none=>.tuple #[.agg #[.bool false,.bool false,.bool false,.bool false,.bool false,.bool false,.bool false],.bool false]
theorem op_cases (op : Int) : op = 1 ∨ op = 2 ∨ op = 3 ∨ op = 4 ∨ op = 5 ∨ op = 6 ∨ op = 7 ∨ op = 8 ∨ op = 9 ∨ op = 10 ∨ op = 11 ∨ op = 12 ∨ op = 13 ∨ op = 14 ∨ (op ≠ 1 ∧ op ≠ 2 ∧ op ≠ 3 ∧ op ≠ 4 ∧ op ≠ 5 ∧ op ≠ 6 ∧ op ≠ 7 ∧ op ≠ 8 ∧ op ≠ 9 ∧ op ≠ 10 ∧ op ≠ 11 ∧ op ≠ 12 ∧ op ≠ 13 ∧ op ≠ 14) := by omega
theorem fieldsOf_any (op : Int) (w : World) :
    Calls Tryz.prog 114 #[.int .i64 op] w fun e w'=>e=.returned (fieldsV op)∧Below w.heap.size w w':=by
  rcases op_cases op with rfl | rfl | rfl | rfl | rfl | rfl | rfl | rfl | rfl | rfl | rfl | rfl | rfl | rfl | ⟨n1,n2,n3,n4,n5,n6,n7,n8,n9,n10,n11,n12,n13,n14⟩
  · rw [show fieldsV 1=.tuple #[.agg #[.bool false,.bool false,.bool false,.bool false,.bool true,.bool false,.bool false],.bool true] from rfl]
    go_enter Tryz.func114,Tryz.ntmps114
    go_wp2_with fail
    exact bodyPost_ret (v:=.tuple #[.agg #[.bool false,.bool false,.bool false,.bool false,.bool true,.bool false,.bool false],.bool true]) (by simp [results,Tryz.results114,go_sem]) rfl ⟨rfl,by first | exact (Below.refl _ w).alloc (Nat.le_refl _) _ | (repeat (first | exact (Below.refl _ w).alloc (Nat.le_refl _) _ | refine Below.setCell ?_ (by simp) _))⟩
  · rw [show fieldsV 2=.tuple #[.agg #[.bool true,.bool true,.bool false,.bool true,.bool false,.bool false,.bool false],.bool true] from rfl]
    go_enter Tryz.func114,Tryz.ntmps114
    go_wp2_with fail
    exact bodyPost_ret (v:=.tuple #[.agg #[.bool true,.bool true,.bool false,.bool true,.bool false,.bool false,.bool false],.bool true]) (by simp [results,Tryz.results114,go_sem]) rfl ⟨rfl,by first | exact (Below.refl _ w).alloc (Nat.le_refl _) _ | (repeat (first | exact (Below.refl _ w).alloc (Nat.le_refl _) _ | refine Below.setCell ?_ (by simp) _))⟩
  · rw [show fieldsV 3=.tuple #[.agg #[.bool false,.bool false,.bool false,.bool false,.bool false,.bool false,.bool false],.bool true] from rfl]
    go_enter Tryz.func114,Tryz.ntmps114
    go_wp2_with fail
    exact bodyPost_ret (v:=.tuple #[.agg #[.bool false,.bool false,.bool false,.bool false,.bool false,.bool false,.bool false],.bool true]) (by simp [results,Tryz.results114,go_sem]) rfl ⟨rfl,by first | exact (Below.refl _ w).alloc (Nat.le_refl _) _ | (repeat (first | exact (Below.refl _ w).alloc (Nat.le_refl _) _ | refine Below.setCell ?_ (by simp) _))⟩
  · rw [show fieldsV 4=.tuple #[.agg #[.bool true,.bool false,.bool false,.bool false,.bool false,.bool false,.bool false],.bool true] from rfl]
    go_enter Tryz.func114,Tryz.ntmps114
    go_wp2_with fail
    exact bodyPost_ret (v:=.tuple #[.agg #[.bool true,.bool false,.bool false,.bool false,.bool false,.bool false,.bool false],.bool true]) (by simp [results,Tryz.results114,go_sem]) rfl ⟨rfl,by first | exact (Below.refl _ w).alloc (Nat.le_refl _) _ | (repeat (first | exact (Below.refl _ w).alloc (Nat.le_refl _) _ | refine Below.setCell ?_ (by simp) _))⟩
  · rw [show fieldsV 5=.tuple #[.agg #[.bool true,.bool false,.bool false,.bool false,.bool false,.bool false,.bool true],.bool true] from rfl]
    go_enter Tryz.func114,Tryz.ntmps114
    go_wp2_with fail
    exact bodyPost_ret (v:=.tuple #[.agg #[.bool true,.bool false,.bool false,.bool false,.bool false,.bool false,.bool true],.bool true]) (by simp [results,Tryz.results114,go_sem]) rfl ⟨rfl,by first | exact (Below.refl _ w).alloc (Nat.le_refl _) _ | (repeat (first | exact (Below.refl _ w).alloc (Nat.le_refl _) _ | refine Below.setCell ?_ (by simp) _))⟩
  · rw [show fieldsV 6=.tuple #[.agg #[.bool true,.bool false,.bool false,.bool true,.bool false,.bool false,.bool false],.bool true] from rfl]
    go_enter Tryz.func114,Tryz.ntmps114
    go_wp2_with fail
    exact bodyPost_ret (v:=.tuple #[.agg #[.bool true,.bool false,.bool false,.bool true,.bool false,.bool false,.bool false],.bool true]) (by simp [results,Tryz.results114,go_sem]) rfl ⟨rfl,by first | exact (Below.refl _ w).alloc (Nat.le_refl _) _ | (repeat (first | exact (Below.refl _ w).alloc (Nat.le_refl _) _ | refine Below.setCell ?_ (by simp) _))⟩
  · rw [show fieldsV 7=.tuple #[.agg #[.bool true,.bool true,.bool false,.bool true,.bool false,.bool false,.bool false],.bool true] from rfl]
    go_enter Tryz.func114,Tryz.ntmps114
    go_wp2_with fail
    exact bodyPost_ret (v:=.tuple #[.agg #[.bool true,.bool true,.bool false,.bool true,.bool false,.bool false,.bool false],.bool true]) (by simp [results,Tryz.results114,go_sem]) rfl ⟨rfl,by first | exact (Below.refl _ w).alloc (Nat.le_refl _) _ | (repeat (first | exact (Below.refl _ w).alloc (Nat.le_refl _) _ | refine Below.setCell ?_ (by simp) _))⟩
  · rw [show fieldsV 8=.tuple #[.agg #[.bool true,.bool true,.bool false,.bool false,.bool false,.bool false,.bool false],.bool true] from rfl]
    go_enter Tryz.func114,Tryz.ntmps114
    go_wp2_with fail
    exact bodyPost_ret (v:=.tuple #[.agg #[.bool true,.bool true,.bool false,.bool false,.bool false,.bool false,.bool false],.bool true]) (by simp [results,Tryz.results114,go_sem]) rfl ⟨rfl,by first | exact (Below.refl _ w).alloc (Nat.le_refl _) _ | (repeat (first | exact (Below.refl _ w).alloc (Nat.le_refl _) _ | refine Below.setCell ?_ (by simp) _))⟩
  · rw [show fieldsV 9=.tuple #[.agg #[.bool true,.bool true,.bool false,.bool false,.bool false,.bool false,.bool false],.bool true] from rfl]
    go_enter Tryz.func114,Tryz.ntmps114
    go_wp2_with fail
    exact bodyPost_ret (v:=.tuple #[.agg #[.bool true,.bool true,.bool false,.bool false,.bool false,.bool false,.bool false],.bool true]) (by simp [results,Tryz.results114,go_sem]) rfl ⟨rfl,by first | exact (Below.refl _ w).alloc (Nat.le_refl _) _ | (repeat (first | exact (Below.refl _ w).alloc (Nat.le_refl _) _ | refine Below.setCell ?_ (by simp) _))⟩
  · rw [show fieldsV 10=.tuple #[.agg #[.bool true,.bool true,.bool true,.bool false,.bool false,.bool false,.bool false],.bool true] from rfl]
    go_enter Tryz.func114,Tryz.ntmps114
    go_wp2_with fail
    exact bodyPost_ret (v:=.tuple #[.agg #[.bool true,.bool true,.bool true,.bool false,.bool false,.bool false,.bool false],.bool true]) (by simp [results,Tryz.results114,go_sem]) rfl ⟨rfl,by first | exact (Below.refl _ w).alloc (Nat.le_refl _) _ | (repeat (first | exact (Below.refl _ w).alloc (Nat.le_refl _) _ | refine Below.setCell ?_ (by simp) _))⟩
  · rw [show fieldsV 11=.tuple #[.agg #[.bool true,.bool false,.bool false,.bool false,.bool false,.bool false,.bool false],.bool true] from rfl]
    go_enter Tryz.func114,Tryz.ntmps114
    go_wp2_with fail
    exact bodyPost_ret (v:=.tuple #[.agg #[.bool true,.bool false,.bool false,.bool false,.bool false,.bool false,.bool false],.bool true]) (by simp [results,Tryz.results114,go_sem]) rfl ⟨rfl,by first | exact (Below.refl _ w).alloc (Nat.le_refl _) _ | (repeat (first | exact (Below.refl _ w).alloc (Nat.le_refl _) _ | refine Below.setCell ?_ (by simp) _))⟩
  · rw [show fieldsV 12=.tuple #[.agg #[.bool false,.bool false,.bool false,.bool false,.bool false,.bool false,.bool false],.bool true] from rfl]
    go_enter Tryz.func114,Tryz.ntmps114
    go_wp2_with fail
    exact bodyPost_ret (v:=.tuple #[.agg #[.bool false,.bool false,.bool false,.bool false,.bool false,.bool false,.bool false],.bool true]) (by simp [results,Tryz.results114,go_sem]) rfl ⟨rfl,by first | exact (Below.refl _ w).alloc (Nat.le_refl _) _ | (repeat (first | exact (Below.refl _ w).alloc (Nat.le_refl _) _ | refine Below.setCell ?_ (by simp) _))⟩
  · rw [show fieldsV 13=.tuple #[.agg #[.bool true,.bool false,.bool false,.bool false,.bool false,.bool false,.bool false],.bool true] from rfl]
    go_enter Tryz.func114,Tryz.ntmps114
    go_wp2_with fail
    exact bodyPost_ret (v:=.tuple #[.agg #[.bool true,.bool false,.bool false,.bool false,.bool false,.bool false,.bool false],.bool true]) (by simp [results,Tryz.results114,go_sem]) rfl ⟨rfl,by first | exact (Below.refl _ w).alloc (Nat.le_refl _) _ | (repeat (first | exact (Below.refl _ w).alloc (Nat.le_refl _) _ | refine Below.setCell ?_ (by simp) _))⟩
  · rw [show fieldsV 14=.tuple #[.agg #[.bool false,.bool false,.bool false,.bool true,.bool false,.bool true,.bool true],.bool true] from rfl]
    go_enter Tryz.func114,Tryz.ntmps114
    go_wp2_with fail
    exact bodyPost_ret (v:=.tuple #[.agg #[.bool false,.bool false,.bool false,.bool true,.bool false,.bool true,.bool true],.bool true]) (by simp [results,Tryz.results114,go_sem]) rfl ⟨rfl,by first | exact (Below.refl _ w).alloc (Nat.le_refl _) _ | (repeat (first | exact (Below.refl _ w).alloc (Nat.le_refl _) _ | refine Below.setCell ?_ (by simp) _))⟩
  · rw [show fieldsV op=.tuple #[.agg #[.bool false,.bool false,.bool false,.bool false,.bool false,.bool false,.bool false],.bool false] by unfold fieldsV fieldsOf;simp [n1,n2,n3,n4,n5,n6,n7,n8,n9,n10,n11,n12,n13,n14]]
    have g1:(op==1)=false:=by simpa using n1
    have g2:(op==2)=false:=by simpa using n2
    have g3:(op==3)=false:=by simpa using n3
    have g4:(op==4)=false:=by simpa using n4
    have g5:(op==5)=false:=by simpa using n5
    have g6:(op==6)=false:=by simpa using n6
    have g7:(op==7)=false:=by simpa using n7
    have g8:(op==8)=false:=by simpa using n8
    have g9:(op==9)=false:=by simpa using n9
    have g10:(op==10)=false:=by simpa using n10
    have g11:(op==11)=false:=by simpa using n11
    have g12:(op==12)=false:=by simpa using n12
    have g13:(op==13)=false:=by simpa using n13
    have g14:(op==14)=false:=by simpa using n14
    clear n1 n2 n3 n4 n5 n6 n7 n8 n9 n10 n11 n12 n13 n14
    go_enter Tryz.func114,Tryz.ntmps114
    go_wp2_with fail
    exact bodyPost_ret (v:=.tuple #[.agg #[.bool false,.bool false,.bool false,.bool false,.bool false,.bool false,.bool false],.bool false]) (by simp [results,Tryz.results114,go_sem]) rfl ⟨rfl,by first | exact (Below.refl _ w).alloc (Nat.le_refl _) _ | (repeat (first | exact (Below.refl _ w).alloc (Nat.le_refl _) _ | refine Below.setCell ?_ (by simp) _))⟩
def insForm (funcs : Nat) (op a b c k n : Int) (rl al : Nat) : Int :=
  match fieldsOf op with
  | none=>3
  | some (fa,fb,fc,fk,fn,fr,fs) =>
    if (!fa && a != 0) || (!fb && b != 0) || (!fc && c != 0) || (!fk && k != 0) || (!fn && n != 0) || (!fr && decide (0<rl)) || (!fs && decide (0<al)) then 4
    else if op=2∧(k<1∨9<k) then 1
    else if op=5∧8<al then 2
    else if (op=6∨op=7)∧(k<0∨7<k) then 1
    else if op=14∧(k<0∨(funcs:Int)≤k) then 1
    else if op=14∧(6<rl∨8<al) then 2
    else 0
theorem MIns.form_eq (funcs : Nat) (x : MIns) : x.form funcs = insForm funcs x.op x.a x.b x.c x.k x.n x.regs.length x.args.length := by
  unfold MIns.form MIns.formless insForm
  cases fieldsOf x.op with
  | none=>rfl
  | some p=>obtain ⟨a,b,c,k,n,r,s⟩:=p;rfl
end Go.Proofs.YtalfbnllodhkiacGreatDoor
namespace Go.Proofs.YtalfbnllodhkiacGreatDoor
open Go.ChangeShapes Go.WideShapes Go.ChangeAt Go.RowKit
set_option linter.unusedSimpArgs false
set_option linter.unusedVariables false
def rangeC (x l m : Int) : Int := if x < l ∨ m < x then 1 else 0
def manyC (len : Nat) (m : Int) : Int := if m < len then 2 else 0
def handedC (r : Nat) (m : Int) (s : Nat) : Int := if manyC r m ≠ 0 then manyC r m else manyC s 8
def bareB (a b c k n : Int) (rl al : Nat) : Bool := a == 0 && b == 0 && c == 0 && k == 0 && n == 0 && (rl : Int) == 0 && (al : Int) == 0
def boundsC (funcs : Nat) (op k : Int) (rl al : Nat) : Int :=
  if op=2 then rangeC k 1 9 else if op=6∨op=7 then rangeC k 0 7 else if op=5 then manyC al 8
  else if op=14 then (if rangeC k 0 ((funcs:Int) - 1)=0 then handedC rl 6 al else rangeC k 0 ((funcs:Int) - 1)) else 0
theorem fb (f : Bool) (a : Int) : (!f && a != 0) = !((bif f then 0 else a) == 0) := by cases f <;> simp [bne]
theorem fbn (f : Bool) (l : Nat) : (!f && decide (0 < l)) = !(((bif f then 0 else l : Nat) : Int) == 0) := by
  cases f
  · by_cases h:l=0
    · simp [h]
    · have:0<l:=by omega
      simp [this,h]
  · simp
theorem bounds_eq (lm : Nat) (op k : Int) (rl al : Nat) : (if op = 2 ∧ (k < 1 ∨ 9 < k) then 1
    else if op=5∧8<al then 2
    else if (op=6∨op=7)∧(k<0∨7<k) then 1
    else if op=14∧(k<0∨(lm:Int)≤k) then 1
    else if op=14∧(6<rl∨8<al) then 2
    else 0)=boundsC lm op k rl al:=by
  unfold boundsC
  by_cases h2:op=2
  · subst h2;simp [rangeC]
  · by_cases h6:op=6∨op=7
    · have h5:¬ op=5:=by omega
      have h14:¬ op=14:=by omega
      simp [h2,h5,h6,h14,rangeC]
    · by_cases h5:op=5
      · subst h5;simp [manyC];split <;> split <;> omega
      · by_cases h14:op=14
        · subst h14
          simp [rangeC,handedC,manyC]
          repeat' split
          all_goals omega
        · simp [h2,h5,h6,h14]
theorem insForm_bare {lm : Nat} {op a b c k n : Int} {rl al : Nat} {fa fb' fc fk fn fr fs : Bool} (e : fieldsOf op = some (fa, fb', fc, fk, fn, fr, fs)) :
    insForm lm op a b c k n rl al=if bareB (bif fa then 0 else a) (bif fb' then 0 else b) (bif fc then 0 else c) (bif fk then 0 else k) (bif fn then 0 else n) (bif fr then 0 else rl) (bif fs then 0 else al)=true then boundsC lm op k rl al else 4:=by
  simp only [insForm,e,bounds_eq]
  rw [fb,fb,fb,fb,fb,fbn,fbn]
  unfold bareB
  generalize ((bif fa then 0 else a)==0)=q1
  generalize ((bif fb' then 0 else b)==0)=q2
  generalize ((bif fc then 0 else c)==0)=q3
  generalize ((bif fk then 0 else k)==0)=q4
  generalize ((bif fn then 0 else n)==0)=q5
  generalize (((bif fr then 0 else rl:Nat):Int)==0)=q6
  generalize (((bif fs then 0 else al:Nat):Int)==0)=q7
  cases q1 <;> cases q2 <;> cases q3 <;> cases q4 <;> cases q5 <;> cases q6 <;> cases q7 <;> rfl
theorem cFuncAt_any {f : Nat} {w : World} (h : f < 1000000) : Rd Tryz.prog 106 #[.int .i64 (f : Int)] w (.int .i64 (10000 * (f : Int) + 9999)) := by
  unfold Rd
  skip
  skip
  go_enter Tryz.func106,Tryz.ntmps106
  go_wp2
  go_ret
  refine ⟨?_,Below.refl _ _⟩
  show Ending.returned (.int .i64 ((f:Int)*10000+9999))=_
  congr 2
  omega
theorem cBlockAt_any {f b : Nat} {w : World} (h : f < 1000000 ∧ b < 1000000) : Rd Tryz.prog 137 #[.int .i64 (f : Int), .int .i64 (b : Int)] w (.int .i64 (10000 * (f : Int) + 100 * (b : Int) + 90)) := by
  unfold Rd
  have h1:=h.1;have h2:=h.2
  skip
  go_enter Tryz.func137,Tryz.ntmps137
  go_wp2
  go_ret
  refine ⟨?_,Below.refl _ _⟩
  show Ending.returned (.int .i64 ((f:Int)*10000+(b:Int)*100+90))=_
  congr 2
  omega
theorem cEndAt_any {f b : Nat} {w : World} (h : f < 1000000 ∧ b < 1000000) : Rd Tryz.prog 143 #[.int .i64 (f : Int), .int .i64 (b : Int)] w (.int .i64 (10000 * (f : Int) + 100 * (b : Int) + 91)) := by
  unfold Rd
  have h1:=h.1;have h2:=h.2
  skip
  go_enter Tryz.func143,Tryz.ntmps143
  go_wp2
  go_ret
  refine ⟨?_,Below.refl _ _⟩
  show Ending.returned (.int .i64 ((f:Int)*10000+(b:Int)*100+91))=_
  congr 2
  omega
theorem cInsAt_any {f b i : Nat} {w : World} (h : f < 1000000 ∧ b < 1000000 ∧ i < 1000000) : Rd Tryz.prog 141 #[.int .i64 (f : Int), .int .i64 (b : Int), .int .i64 (i : Int)] w (.int .i64 (10000 * (f : Int) + 100 * (b : Int) + (i : Int))) := by
  unfold Rd
  have h1:=h.1;have h2:=h.2
  have h3:=h.2.1;have h4:=h.2.2
  go_enter Tryz.func141,Tryz.ntmps141
  go_wp2
  go_ret
  refine ⟨?_,Below.refl _ _⟩
  show Ending.returned (.int .i64 ((f:Int)*10000+(b:Int)*100+(i:Int)))=_
  congr 2
  omega
theorem rangeCode_any {x l m : Int} {w : World} : Rd Tryz.prog 208 #[.int .i64 x, .int .i64 l, .int .i64 m] w (.int .i64 (rangeC x l m)) := by
  unfold Rd rangeC
  by_cases h1:x<l
  · rw [if_pos (.inl h1)]
    go_enter Tryz.func208,Tryz.ntmps208
    go_wp2
    go_ret
    exact ⟨rfl,Below.refl _ _⟩
  · by_cases h2:m<x
    · rw [if_pos (.inr h2)]
      go_enter Tryz.func208,Tryz.ntmps208
      go_wp2
      go_ret
      exact ⟨rfl,Below.refl _ _⟩
    · rw [if_neg (by omega)]
      go_enter Tryz.func208,Tryz.ntmps208
      go_wp2
      go_ret
      exact ⟨rfl,Below.refl _ _⟩
theorem manyCode_any {p : Option Addr} {len c : Nat} {m : Int} {w : World} : Rd Tryz.prog 209 #[.slice p len c, .int .i64 m] w (.int .i64 (manyC len m)) := by
  unfold Rd manyC
  by_cases h1:m<len
  · rw [if_pos h1]
    go_enter Tryz.func209,Tryz.ntmps209
    go_wp2
    go_ret
    exact ⟨rfl,Below.refl _ _⟩
  · rw [if_neg h1]
    go_enter Tryz.func209,Tryz.ntmps209
    go_wp2
    go_ret
    exact ⟨rfl,Below.refl _ _⟩
theorem handedCode_any {p q : Option Addr} {r c s d : Nat} {m : Int} {w : World} : Rd Tryz.prog 210 #[.slice p r c, .int .i64 m, .slice q s d] w (.int .i64 (handedC r m s)) := by
  have C1:Hid (∀ wx:World,Calls Tryz.prog 209 #[.slice p r c,.int .i64 m] wx fun e w'=>e=.returned (.int .i64 (manyC r m))∧Below wx.heap.size wx w'):=fun wx=>manyCode_any
  have C2:Hid (∀ wx:World,Calls Tryz.prog 209 #[.slice q s d,.int .i64 8] wx fun e w'=>e=.returned (.int .i64 (manyC s 8))∧Below wx.heap.size wx w'):=fun wx=>manyCode_any
  unfold Rd handedC
  by_cases h:manyC r m=0
  · rw [if_neg (by simpa using h)]
    rw [h] at C1
    go_enter Tryz.func210,Tryz.ntmps210
    go_wp2_with fail
    refine (C1.out w).mono ?_
    rintro e w1 ⟨rfl,b1⟩
    have B1:Hid (Below w.heap.size w w1):=b1
    clear b1 C1
    go_wp2_with fail
    refine (C2.out w1).mono ?_
    rintro e w2 ⟨rfl,b2⟩
    have B2:Hid (Below w.heap.size w w2):=B1.out.trans (b2.mono B1.out.size)
    clear b2 C2 B1
    go_wp2
    go_ret
    exact ⟨rfl,B2.out⟩
  · rw [if_pos h]
    have h':(manyC r m==0)=false:=by simpa using h
    generalize manyC r m=v at C1 h' h ⊢
    go_enter Tryz.func210,Tryz.ntmps210
    go_wp2_with fail
    refine (C1.out w).mono ?_
    rintro e w1 ⟨rfl,b1⟩
    have B1:Hid (Below w.heap.size w w1):=b1
    clear b1 C1 C2
    go_wp2
    go_ret
    exact ⟨rfl,B1.out⟩
theorem isBare_any {xop : Int} {xa xb xc xk xn : Int} {ra aa : Option Addr} {rl rc al ac : Nat} {w : World} : Rd Tryz.prog 176 #[.agg #[.int .i64 xop, .int .i64 xa, .int .i64 xb, .int .i64 xc, .int .i64 xk, .int .i64 xn, .slice ra rl rc, .slice aa al ac]] w (.bool (bareB xa xb xc xk xn rl al)) := by
  unfold Rd
  · by_cases h0:xa=0
    · subst h0
      · by_cases h1:xb=0
        · subst h1
          · by_cases h2:xc=0
            · subst h2
              · by_cases h3:xk=0
                · subst h3
                  · by_cases h4:xn=0
                    · subst h4
                      · by_cases h5:rl=0
                        · subst h5
                          · by_cases h6:al=0
                            · subst h6
                              · rw [show bareB 0 0 0 0 0 0 0=true from rfl]
                                go_enter Tryz.func176,Tryz.ntmps176
                                go_wp2
                                go_ret
                                exact ⟨rfl,bel1 _ _⟩
                            · have g6:((al:Int)==0)=false:=by simpa using h6
                              rw [show bareB 0 0 0 0 0 0 al=false by simp [bareB,g6]]
                              go_enter Tryz.func176,Tryz.ntmps176
                              go_wp2
                              go_ret
                              exact ⟨rfl,bel1 _ _⟩
                        · have g5:((rl:Int)==0)=false:=by simpa using h5
                          rw [show bareB 0 0 0 0 0 rl al=false by simp [bareB,g5]]
                          go_enter Tryz.func176,Tryz.ntmps176
                          go_wp2
                          go_ret
                          exact ⟨rfl,bel1 _ _⟩
                    · have g4:(xn==0)=false:=by simpa using h4
                      rw [show bareB 0 0 0 0 xn rl al=false by simp [bareB,g4]]
                      go_enter Tryz.func176,Tryz.ntmps176
                      go_wp2
                      go_ret
                      exact ⟨rfl,bel1 _ _⟩
                · have g3:(xk==0)=false:=by simpa using h3
                  rw [show bareB 0 0 0 xk xn rl al=false by simp [bareB,g3]]
                  go_enter Tryz.func176,Tryz.ntmps176
                  go_wp2
                  go_ret
                  exact ⟨rfl,bel1 _ _⟩
            · have g2:(xc==0)=false:=by simpa using h2
              rw [show bareB 0 0 xc xk xn rl al=false by simp [bareB,g2]]
              go_enter Tryz.func176,Tryz.ntmps176
              go_wp2
              go_ret
              exact ⟨rfl,bel1 _ _⟩
        · have g1:(xb==0)=false:=by simpa using h1
          rw [show bareB 0 xb xc xk xn rl al=false by simp [bareB,g1]]
          go_enter Tryz.func176,Tryz.ntmps176
          go_wp2
          go_ret
          exact ⟨rfl,bel1 _ _⟩
    · have g0:(xa==0)=false:=by simpa using h0
      rw [show bareB xa xb xc xk xn rl al=false by simp [bareB,g0]]
      go_enter Tryz.func176,Tryz.ntmps176
      go_wp2
      go_ret
      exact ⟨rfl,bel1 _ _⟩
theorem wf1 {xa xb xc xk xn : Int} {ra aa : Option Addr} {rl rc al ac : Nat} {w : World} : Rd Tryz.prog 175 #[.agg #[.int .i64 1, .int .i64 xa, .int .i64 xb, .int .i64 xc, .int .i64 xk, .int .i64 xn, .slice ra rl rc, .slice aa al ac]] w (.tuple #[.agg #[.int .i64 1, .int .i64 xa, .int .i64 xb, .int .i64 xc, .int .i64 xk, .int .i64 0, .slice ra rl rc, .slice aa al ac], .bool true]) := by
  unfold Rd
  go_enter Tryz.func175,Tryz.ntmps175
  go_wp2
  exact bodyPost_ret (v:=.tuple #[.agg #[.int .i64 1,.int .i64 xa,.int .i64 xb,.int .i64 xc,.int .i64 xk,.int .i64 0,.slice ra rl rc,.slice aa al ac],.bool true]) (by simp [results,Tryz.results175,go_sem]) rfl ⟨rfl,bel2 _ _ _⟩
theorem wf2 {xa xb xc xk xn : Int} {ra aa : Option Addr} {rl rc al ac : Nat} {w : World} : Rd Tryz.prog 175 #[.agg #[.int .i64 2, .int .i64 xa, .int .i64 xb, .int .i64 xc, .int .i64 xk, .int .i64 xn, .slice ra rl rc, .slice aa al ac]] w (.tuple #[.agg #[.int .i64 2, .int .i64 0, .int .i64 0, .int .i64 xc, .int .i64 0, .int .i64 xn, .slice ra rl rc, .slice aa al ac], .bool true]) := by
  unfold Rd
  go_enter Tryz.func175,Tryz.ntmps175
  go_wp2
  exact bodyPost_ret (v:=.tuple #[.agg #[.int .i64 2,.int .i64 0,.int .i64 0,.int .i64 xc,.int .i64 0,.int .i64 xn,.slice ra rl rc,.slice aa al ac],.bool true]) (by simp [results,Tryz.results175,go_sem]) rfl ⟨rfl,bel2 _ _ _⟩
theorem wf3 {xa xb xc xk xn : Int} {ra aa : Option Addr} {rl rc al ac : Nat} {w : World} : Rd Tryz.prog 175 #[.agg #[.int .i64 3, .int .i64 xa, .int .i64 xb, .int .i64 xc, .int .i64 xk, .int .i64 xn, .slice ra rl rc, .slice aa al ac]] w (.tuple #[.agg #[.int .i64 3, .int .i64 xa, .int .i64 xb, .int .i64 xc, .int .i64 xk, .int .i64 xn, .slice ra rl rc, .slice aa al ac], .bool true]) := by
  unfold Rd
  go_enter Tryz.func175,Tryz.ntmps175
  go_wp2
  exact bodyPost_ret (v:=.tuple #[.agg #[.int .i64 3,.int .i64 xa,.int .i64 xb,.int .i64 xc,.int .i64 xk,.int .i64 xn,.slice ra rl rc,.slice aa al ac],.bool true]) (by simp [results,Tryz.results175,go_sem]) rfl ⟨rfl,bel2 _ _ _⟩
theorem wf4 {xa xb xc xk xn : Int} {ra aa : Option Addr} {rl rc al ac : Nat} {w : World} : Rd Tryz.prog 175 #[.agg #[.int .i64 4, .int .i64 xa, .int .i64 xb, .int .i64 xc, .int .i64 xk, .int .i64 xn, .slice ra rl rc, .slice aa al ac]] w (.tuple #[.agg #[.int .i64 4, .int .i64 0, .int .i64 xb, .int .i64 xc, .int .i64 xk, .int .i64 xn, .slice ra rl rc, .slice aa al ac], .bool true]) := by
  unfold Rd
  go_enter Tryz.func175,Tryz.ntmps175
  go_wp2
  exact bodyPost_ret (v:=.tuple #[.agg #[.int .i64 4,.int .i64 0,.int .i64 xb,.int .i64 xc,.int .i64 xk,.int .i64 xn,.slice ra rl rc,.slice aa al ac],.bool true]) (by simp [results,Tryz.results175,go_sem]) rfl ⟨rfl,bel2 _ _ _⟩
theorem wf5 {xa xb xc xk xn : Int} {ra aa : Option Addr} {rl rc al ac : Nat} {w : World} : Rd Tryz.prog 175 #[.agg #[.int .i64 5, .int .i64 xa, .int .i64 xb, .int .i64 xc, .int .i64 xk, .int .i64 xn, .slice ra rl rc, .slice aa al ac]] w (.tuple #[.agg #[.int .i64 5, .int .i64 0, .int .i64 xb, .int .i64 xc, .int .i64 xk, .int .i64 xn, .slice ra rl rc, .slice none 0 0], .bool true]) := by
  unfold Rd
  go_enter Tryz.func175,Tryz.ntmps175
  go_wp2
  exact bodyPost_ret (v:=.tuple #[.agg #[.int .i64 5,.int .i64 0,.int .i64 xb,.int .i64 xc,.int .i64 xk,.int .i64 xn,.slice ra rl rc,.slice none 0 0],.bool true]) (by simp [results,Tryz.results175,go_sem]) rfl ⟨rfl,bel2 _ _ _⟩
theorem wf6 {xa xb xc xk xn : Int} {ra aa : Option Addr} {rl rc al ac : Nat} {w : World} : Rd Tryz.prog 175 #[.agg #[.int .i64 6, .int .i64 xa, .int .i64 xb, .int .i64 xc, .int .i64 xk, .int .i64 xn, .slice ra rl rc, .slice aa al ac]] w (.tuple #[.agg #[.int .i64 6, .int .i64 0, .int .i64 xb, .int .i64 xc, .int .i64 0, .int .i64 xn, .slice ra rl rc, .slice aa al ac], .bool true]) := by
  unfold Rd
  go_enter Tryz.func175,Tryz.ntmps175
  go_wp2
  exact bodyPost_ret (v:=.tuple #[.agg #[.int .i64 6,.int .i64 0,.int .i64 xb,.int .i64 xc,.int .i64 0,.int .i64 xn,.slice ra rl rc,.slice aa al ac],.bool true]) (by simp [results,Tryz.results175,go_sem]) rfl ⟨rfl,bel2 _ _ _⟩
theorem wf7 {xa xb xc xk xn : Int} {ra aa : Option Addr} {rl rc al ac : Nat} {w : World} : Rd Tryz.prog 175 #[.agg #[.int .i64 7, .int .i64 xa, .int .i64 xb, .int .i64 xc, .int .i64 xk, .int .i64 xn, .slice ra rl rc, .slice aa al ac]] w (.tuple #[.agg #[.int .i64 7, .int .i64 0, .int .i64 0, .int .i64 xc, .int .i64 0, .int .i64 xn, .slice ra rl rc, .slice aa al ac], .bool true]) := by
  unfold Rd
  go_enter Tryz.func175,Tryz.ntmps175
  go_wp2
  exact bodyPost_ret (v:=.tuple #[.agg #[.int .i64 7,.int .i64 0,.int .i64 0,.int .i64 xc,.int .i64 0,.int .i64 xn,.slice ra rl rc,.slice aa al ac],.bool true]) (by simp [results,Tryz.results175,go_sem]) rfl ⟨rfl,bel2 _ _ _⟩
theorem wf8 {xa xb xc xk xn : Int} {ra aa : Option Addr} {rl rc al ac : Nat} {w : World} : Rd Tryz.prog 175 #[.agg #[.int .i64 8, .int .i64 xa, .int .i64 xb, .int .i64 xc, .int .i64 xk, .int .i64 xn, .slice ra rl rc, .slice aa al ac]] w (.tuple #[.agg #[.int .i64 8, .int .i64 0, .int .i64 0, .int .i64 xc, .int .i64 xk, .int .i64 xn, .slice ra rl rc, .slice aa al ac], .bool true]) := by
  unfold Rd
  go_enter Tryz.func175,Tryz.ntmps175
  go_wp2
  exact bodyPost_ret (v:=.tuple #[.agg #[.int .i64 8,.int .i64 0,.int .i64 0,.int .i64 xc,.int .i64 xk,.int .i64 xn,.slice ra rl rc,.slice aa al ac],.bool true]) (by simp [results,Tryz.results175,go_sem]) rfl ⟨rfl,bel2 _ _ _⟩
theorem wf9 {xa xb xc xk xn : Int} {ra aa : Option Addr} {rl rc al ac : Nat} {w : World} : Rd Tryz.prog 175 #[.agg #[.int .i64 9, .int .i64 xa, .int .i64 xb, .int .i64 xc, .int .i64 xk, .int .i64 xn, .slice ra rl rc, .slice aa al ac]] w (.tuple #[.agg #[.int .i64 9, .int .i64 0, .int .i64 0, .int .i64 xc, .int .i64 xk, .int .i64 xn, .slice ra rl rc, .slice aa al ac], .bool true]) := by
  unfold Rd
  go_enter Tryz.func175,Tryz.ntmps175
  go_wp2
  exact bodyPost_ret (v:=.tuple #[.agg #[.int .i64 9,.int .i64 0,.int .i64 0,.int .i64 xc,.int .i64 xk,.int .i64 xn,.slice ra rl rc,.slice aa al ac],.bool true]) (by simp [results,Tryz.results175,go_sem]) rfl ⟨rfl,bel2 _ _ _⟩
theorem wf10 {xa xb xc xk xn : Int} {ra aa : Option Addr} {rl rc al ac : Nat} {w : World} : Rd Tryz.prog 175 #[.agg #[.int .i64 10, .int .i64 xa, .int .i64 xb, .int .i64 xc, .int .i64 xk, .int .i64 xn, .slice ra rl rc, .slice aa al ac]] w (.tuple #[.agg #[.int .i64 10, .int .i64 0, .int .i64 0, .int .i64 0, .int .i64 xk, .int .i64 xn, .slice ra rl rc, .slice aa al ac], .bool true]) := by
  unfold Rd
  go_enter Tryz.func175,Tryz.ntmps175
  go_wp2
  exact bodyPost_ret (v:=.tuple #[.agg #[.int .i64 10,.int .i64 0,.int .i64 0,.int .i64 0,.int .i64 xk,.int .i64 xn,.slice ra rl rc,.slice aa al ac],.bool true]) (by simp [results,Tryz.results175,go_sem]) rfl ⟨rfl,bel2 _ _ _⟩
theorem wf11 {xa xb xc xk xn : Int} {ra aa : Option Addr} {rl rc al ac : Nat} {w : World} : Rd Tryz.prog 175 #[.agg #[.int .i64 11, .int .i64 xa, .int .i64 xb, .int .i64 xc, .int .i64 xk, .int .i64 xn, .slice ra rl rc, .slice aa al ac]] w (.tuple #[.agg #[.int .i64 11, .int .i64 0, .int .i64 xb, .int .i64 xc, .int .i64 xk, .int .i64 xn, .slice ra rl rc, .slice aa al ac], .bool true]) := by
  unfold Rd
  go_enter Tryz.func175,Tryz.ntmps175
  go_wp2
  exact bodyPost_ret (v:=.tuple #[.agg #[.int .i64 11,.int .i64 0,.int .i64 xb,.int .i64 xc,.int .i64 xk,.int .i64 xn,.slice ra rl rc,.slice aa al ac],.bool true]) (by simp [results,Tryz.results175,go_sem]) rfl ⟨rfl,bel2 _ _ _⟩
theorem wf12 {xa xb xc xk xn : Int} {ra aa : Option Addr} {rl rc al ac : Nat} {w : World} : Rd Tryz.prog 175 #[.agg #[.int .i64 12, .int .i64 xa, .int .i64 xb, .int .i64 xc, .int .i64 xk, .int .i64 xn, .slice ra rl rc, .slice aa al ac]] w (.tuple #[.agg #[.int .i64 12, .int .i64 xa, .int .i64 xb, .int .i64 xc, .int .i64 xk, .int .i64 xn, .slice ra rl rc, .slice aa al ac], .bool true]) := by
  unfold Rd
  go_enter Tryz.func175,Tryz.ntmps175
  go_wp2
  exact bodyPost_ret (v:=.tuple #[.agg #[.int .i64 12,.int .i64 xa,.int .i64 xb,.int .i64 xc,.int .i64 xk,.int .i64 xn,.slice ra rl rc,.slice aa al ac],.bool true]) (by simp [results,Tryz.results175,go_sem]) rfl ⟨rfl,bel2 _ _ _⟩
theorem wf13 {xa xb xc xk xn : Int} {ra aa : Option Addr} {rl rc al ac : Nat} {w : World} : Rd Tryz.prog 175 #[.agg #[.int .i64 13, .int .i64 xa, .int .i64 xb, .int .i64 xc, .int .i64 xk, .int .i64 xn, .slice ra rl rc, .slice aa al ac]] w (.tuple #[.agg #[.int .i64 13, .int .i64 0, .int .i64 xb, .int .i64 xc, .int .i64 xk, .int .i64 xn, .slice ra rl rc, .slice aa al ac], .bool true]) := by
  unfold Rd
  go_enter Tryz.func175,Tryz.ntmps175
  go_wp2
  exact bodyPost_ret (v:=.tuple #[.agg #[.int .i64 13,.int .i64 0,.int .i64 xb,.int .i64 xc,.int .i64 xk,.int .i64 xn,.slice ra rl rc,.slice aa al ac],.bool true]) (by simp [results,Tryz.results175,go_sem]) rfl ⟨rfl,bel2 _ _ _⟩
theorem wf14 {xa xb xc xk xn : Int} {ra aa : Option Addr} {rl rc al ac : Nat} {w : World} : Rd Tryz.prog 175 #[.agg #[.int .i64 14, .int .i64 xa, .int .i64 xb, .int .i64 xc, .int .i64 xk, .int .i64 xn, .slice ra rl rc, .slice aa al ac]] w (.tuple #[.agg #[.int .i64 14, .int .i64 xa, .int .i64 xb, .int .i64 xc, .int .i64 0, .int .i64 xn, .slice none 0 0, .slice none 0 0], .bool true]) := by
  unfold Rd
  go_enter Tryz.func175,Tryz.ntmps175
  go_wp2
  exact bodyPost_ret (v:=.tuple #[.agg #[.int .i64 14,.int .i64 xa,.int .i64 xb,.int .i64 xc,.int .i64 0,.int .i64 xn,.slice none 0 0,.slice none 0 0],.bool true]) (by simp [results,Tryz.results175,go_sem]) rfl ⟨rfl,bel2 _ _ _⟩
theorem wfNo {xop : Int} {xa xb xc xk xn : Int} {ra aa : Option Addr} {rl rc al ac : Nat} {w : World} (h : xop ≠ 1 ∧ xop ≠ 2 ∧ xop ≠ 3 ∧ xop ≠ 4 ∧ xop ≠ 5 ∧ xop ≠ 6 ∧ xop ≠ 7 ∧ xop ≠ 8 ∧ xop ≠ 9 ∧ xop ≠ 10 ∧ xop ≠ 11 ∧ xop ≠ 12 ∧ xop ≠ 13 ∧ xop ≠ 14) : Rd Tryz.prog 175 #[.agg #[.int .i64 xop, .int .i64 xa, .int .i64 xb, .int .i64 xc, .int .i64 xk, .int .i64 xn, .slice ra rl rc, .slice aa al ac]] w (.tuple #[.agg #[.int .i64 xop, .int .i64 xa, .int .i64 xb, .int .i64 xc, .int .i64 xk, .int .i64 xn, .slice ra rl rc, .slice aa al ac], .bool false]) := by
  obtain ⟨h1,h2,h3,h4,h5,h6,h7,h8,h9,h10,h11,h12,h13,h14⟩:=h
  have g1:(xop==1)=false:=by simpa using h1
  have g2:(xop==2)=false:=by simpa using h2
  have g3:(xop==3)=false:=by simpa using h3
  have g4:(xop==4)=false:=by simpa using h4
  have g5:(xop==5)=false:=by simpa using h5
  have g6:(xop==6)=false:=by simpa using h6
  have g7:(xop==7)=false:=by simpa using h7
  have g8:(xop==8)=false:=by simpa using h8
  have g9:(xop==9)=false:=by simpa using h9
  have g10:(xop==10)=false:=by simpa using h10
  have g11:(xop==11)=false:=by simpa using h11
  have g12:(xop==12)=false:=by simpa using h12
  have g13:(xop==13)=false:=by simpa using h13
  have g14:(xop==14)=false:=by simpa using h14
  unfold Rd
  go_enter Tryz.func175,Tryz.ntmps175
  go_wp2
  exact bodyPost_ret (v:=.tuple #[.agg #[.int .i64 xop,.int .i64 xa,.int .i64 xb,.int .i64 xc,.int .i64 xk,.int .i64 xn,.slice ra rl rc,.slice aa al ac],.bool false]) (by simp [results,Tryz.results175,go_sem]) rfl ⟨rfl,bel2 _ _ _⟩
theorem bounds2 {xa xb xc xk xn : Int} {ra aa : Option Addr} {rl rc al ac : Nat} {am : Option Addr} {lm cm : Nat} {w : World} : Rd Tryz.prog 177 #[.agg #[.slice am lm cm], .agg #[.int .i64 2, .int .i64 xa, .int .i64 xb, .int .i64 xc, .int .i64 xk, .int .i64 xn, .slice ra rl rc, .slice aa al ac]] w (.int .i64 (boundsC lm 2 xk rl al)) := by
  have C:Hid (∀ wx:World,Calls Tryz.prog 208 #[.int .i64 xk,.int .i64 1,.int .i64 9] wx fun e w'=>e=.returned (.int .i64 (rangeC xk 1 9))∧Below wx.heap.size wx w'):=fun wx=>rangeCode_any
  rw [show boundsC lm 2 xk rl al=rangeC xk 1 9 from rfl]
  generalize rangeC xk 1 9=v at C ⊢
  unfold Rd
  go_enter Tryz.func177,Tryz.ntmps177
  go_wp2_with fail
  refine (C.out _).mono ?_
  rintro e w2 ⟨rfl,b2⟩
  have B2:Hid (Below w.heap.size w w2):=(bel2 _ _ _).trans (b2.mono (bel2 w _ _).size)
  clear b2 C
  go_wp2
  go_ret
  exact ⟨rfl,B2.out⟩
theorem bounds6 {xa xb xc xk xn : Int} {ra aa : Option Addr} {rl rc al ac : Nat} {am : Option Addr} {lm cm : Nat} {w : World} : Rd Tryz.prog 177 #[.agg #[.slice am lm cm], .agg #[.int .i64 6, .int .i64 xa, .int .i64 xb, .int .i64 xc, .int .i64 xk, .int .i64 xn, .slice ra rl rc, .slice aa al ac]] w (.int .i64 (boundsC lm 6 xk rl al)) := by
  have C:Hid (∀ wx:World,Calls Tryz.prog 208 #[.int .i64 xk,.int .i64 0,.int .i64 7] wx fun e w'=>e=.returned (.int .i64 (rangeC xk 0 7))∧Below wx.heap.size wx w'):=fun wx=>rangeCode_any
  rw [show boundsC lm 6 xk rl al=rangeC xk 0 7 from rfl]
  generalize rangeC xk 0 7=v at C ⊢
  unfold Rd
  go_enter Tryz.func177,Tryz.ntmps177
  go_wp2_with fail
  refine (C.out _).mono ?_
  rintro e w2 ⟨rfl,b2⟩
  have B2:Hid (Below w.heap.size w w2):=(bel2 _ _ _).trans (b2.mono (bel2 w _ _).size)
  clear b2 C
  go_wp2
  go_ret
  exact ⟨rfl,B2.out⟩
theorem bounds7 {xa xb xc xk xn : Int} {ra aa : Option Addr} {rl rc al ac : Nat} {am : Option Addr} {lm cm : Nat} {w : World} : Rd Tryz.prog 177 #[.agg #[.slice am lm cm], .agg #[.int .i64 7, .int .i64 xa, .int .i64 xb, .int .i64 xc, .int .i64 xk, .int .i64 xn, .slice ra rl rc, .slice aa al ac]] w (.int .i64 (boundsC lm 7 xk rl al)) := by
  have C:Hid (∀ wx:World,Calls Tryz.prog 208 #[.int .i64 xk,.int .i64 0,.int .i64 7] wx fun e w'=>e=.returned (.int .i64 (rangeC xk 0 7))∧Below wx.heap.size wx w'):=fun wx=>rangeCode_any
  rw [show boundsC lm 7 xk rl al=rangeC xk 0 7 from rfl]
  generalize rangeC xk 0 7=v at C ⊢
  unfold Rd
  go_enter Tryz.func177,Tryz.ntmps177
  go_wp2_with fail
  refine (C.out _).mono ?_
  rintro e w2 ⟨rfl,b2⟩
  have B2:Hid (Below w.heap.size w w2):=(bel2 _ _ _).trans (b2.mono (bel2 w _ _).size)
  clear b2 C
  go_wp2
  go_ret
  exact ⟨rfl,B2.out⟩
theorem bounds5 {xa xb xc xk xn : Int} {ra aa : Option Addr} {rl rc al ac : Nat} {am : Option Addr} {lm cm : Nat} {w : World} : Rd Tryz.prog 177 #[.agg #[.slice am lm cm], .agg #[.int .i64 5, .int .i64 xa, .int .i64 xb, .int .i64 xc, .int .i64 xk, .int .i64 xn, .slice ra rl rc, .slice aa al ac]] w (.int .i64 (boundsC lm 5 xk rl al)) := by
  have C:Hid (∀ wx:World,Calls Tryz.prog 209 #[.slice aa al ac,.int .i64 8] wx fun e w'=>e=.returned (.int .i64 (manyC al 8))∧Below wx.heap.size wx w'):=fun wx=>manyCode_any
  rw [show boundsC lm 5 xk rl al=manyC al 8 from rfl]
  generalize manyC al 8=v at C ⊢
  unfold Rd
  go_enter Tryz.func177,Tryz.ntmps177
  go_wp2_with fail
  refine (C.out _).mono ?_
  rintro e w2 ⟨rfl,b2⟩
  have B2:Hid (Below w.heap.size w w2):=(bel2 _ _ _).trans (b2.mono (bel2 w _ _).size)
  clear b2 C
  go_wp2
  go_ret
  exact ⟨rfl,B2.out⟩
theorem bounds14 {xa xb xc xk xn : Int} {ra aa : Option Addr} {rl rc al ac : Nat} {am : Option Addr} {lm cm : Nat} {w : World} (hlm : lm < 2305843009213693952) : Rd Tryz.prog 177 #[.agg #[.slice am lm cm], .agg #[.int .i64 14, .int .i64 xa, .int .i64 xb, .int .i64 xc, .int .i64 xk, .int .i64 xn, .slice ra rl rc, .slice aa al ac]] w (.int .i64 (boundsC lm 14 xk rl al)) := by
  have C:Hid (∀ wx:World,Calls Tryz.prog 208 #[.int .i64 xk,.int .i64 0,.int .i64 ((lm:Int) - 1)] wx fun e w'=>e=.returned (.int .i64 (rangeC xk 0 ((lm:Int) - 1)))∧Below wx.heap.size wx w'):=fun wx=>rangeCode_any
  have C2:Hid (∀ wx:World,Calls Tryz.prog 210 #[.slice ra rl rc,.int .i64 6,.slice aa al ac] wx fun e w'=>e=.returned (.int .i64 (handedC rl 6 al))∧Below wx.heap.size wx w'):=fun wx=>handedCode_any
  rw [show boundsC lm 14 xk rl al=if rangeC xk 0 ((lm:Int) - 1)=0 then handedC rl 6 al else rangeC xk 0 ((lm:Int) - 1) from rfl]
  generalize rangeC xk 0 ((lm:Int) - 1)=v at C ⊢
  generalize handedC rl 6 al=u at C2 ⊢
  have X2:Blk ((w.alloc (.cells #[.slice am lm cm] 25)).alloc (.cells #[.int .i64 14,.int .i64 xa,.int .i64 xb,.int .i64 xc,.int .i64 xk,.int .i64 xn,.slice ra rl rc,.slice aa al ac] 45)) (w.heap.size+1) #[.int .i64 14,.int .i64 xa,.int .i64 xb,.int .i64 xc,.int .i64 xk,.int .i64 xn,.slice ra rl rc,.slice aa al ac] 45:=Blk.new2 _ _ _ _
  have B1:Hid (Below w.heap.size w ((w.alloc (.cells #[.slice am lm cm] 25)).alloc (.cells #[.int .i64 14,.int .i64 xa,.int .i64 xb,.int .i64 xc,.int .i64 xk,.int .i64 xn,.slice ra rl rc,.slice aa al ac] 45))):=bel2 _ _ _
  unfold Rd
  by_cases hv:v=0
  · subst hv
    rw [if_pos rfl]
    go_enter Tryz.func177,Tryz.ntmps177
    go_wp2_with fail
    generalize ((w.alloc (.cells #[.slice am lm cm] 25)).alloc (.cells #[.int .i64 14,.int .i64 xa,.int .i64 xb,.int .i64 xc,.int .i64 xk,.int .i64 xn,.slice ra rl rc,.slice aa al ac] 45))=w1 at X2 B1 ⊢
    refine (C.out _).mono ?_
    rintro e w2 ⟨rfl,b2⟩
    have X3:=(b2.block _ (lt_of_block X2)).trans X2
    have B2:Hid (Below w.heap.size w w2):=B1.out.trans (b2.mono B1.out.size)
    have c6:=cellOf X3 6 _ rfl
    have c7:=cellOf X3 7 _ rfl
    clear b2 C X2 B1 X3
    go_wp2_with fail
    refine (C2.out _).mono ?_
    rintro e w3 ⟨rfl,b3⟩
    have B3:Hid (Below w.heap.size w w3):=B2.out.trans (b3.mono B2.out.size)
    clear b3 C2 B2
    go_wp2
    go_ret
    exact ⟨rfl,B3.out⟩
  · rw [if_neg hv]
    have hv':(v==0)=false:=by simpa using hv
    go_enter Tryz.func177,Tryz.ntmps177
    go_wp2_with fail
    generalize ((w.alloc (.cells #[.slice am lm cm] 25)).alloc (.cells #[.int .i64 14,.int .i64 xa,.int .i64 xb,.int .i64 xc,.int .i64 xk,.int .i64 xn,.slice ra rl rc,.slice aa al ac] 45))=w1 at X2 B1 ⊢
    refine (C.out _).mono ?_
    rintro e w2 ⟨rfl,b2⟩
    have B2:Hid (Below w.heap.size w w2):=B1.out.trans (b2.mono B1.out.size)
    clear b2 C C2 X2 B1
    go_wp2
    go_ret
    exact ⟨rfl,B2.out⟩
theorem boundsNo {xop : Int} {xa xb xc xk xn : Int} {ra aa : Option Addr} {rl rc al ac : Nat} {am : Option Addr} {lm cm : Nat} {w : World} (h : xop ≠ 2 ∧ xop ≠ 6 ∧ xop ≠ 7 ∧ xop ≠ 5 ∧ xop ≠ 14) : Rd Tryz.prog 177 #[.agg #[.slice am lm cm], .agg #[.int .i64 xop, .int .i64 xa, .int .i64 xb, .int .i64 xc, .int .i64 xk, .int .i64 xn, .slice ra rl rc, .slice aa al ac]] w (.int .i64 (boundsC lm xop xk rl al)) := by
  obtain ⟨h2,h6,h7,h5,h14⟩:=h
  rw [show boundsC lm xop xk rl al=0 by simp [boundsC,h2,h6,h7,h5,h14]]
  have g2:(xop==2)=false:=by simpa using h2
  have g6:(xop==6)=false:=by simpa using h6
  have g7:(xop==7)=false:=by simpa using h7
  have g5:(xop==5)=false:=by simpa using h5
  have g14:(xop==14)=false:=by simpa using h14
  unfold Rd
  go_enter Tryz.func177,Tryz.ntmps177
  go_wp2
  go_ret
  exact ⟨rfl,bel2 _ _ _⟩
theorem ins_walk {xop : Int} {xa xb xc xk xn : Int} {ra aa : Option Addr} {rl rc al ac : Nat} {ya yb yc yk yn : Int} {yra yaa : Option Addr} {yrl yrc yal yac : Nat} {am : Option Addr} {lm cm : Nat} {w : World} {ok bare : Bool} {v : Int}
    (CW:Hid (∀ wx:World,Calls Tryz.prog 175 #[.agg #[.int .i64 xop,.int .i64 xa,.int .i64 xb,.int .i64 xc,.int .i64 xk,.int .i64 xn,.slice ra rl rc,.slice aa al ac]] wx fun e w'=>e=.returned (.tuple #[.agg #[.int .i64 xop,.int .i64 ya,.int .i64 yb,.int .i64 yc,.int .i64 yk,.int .i64 yn,.slice yra yrl yrc,.slice yaa yal yac],.bool ok])∧Below wx.heap.size wx w'))
    (CB:Hid (∀ wx:World,Calls Tryz.prog 176 #[.agg #[.int .i64 xop,.int .i64 ya,.int .i64 yb,.int .i64 yc,.int .i64 yk,.int .i64 yn,.slice yra yrl yrc,.slice yaa yal yac]] wx fun e w'=>e=.returned (.bool bare)∧Below wx.heap.size wx w'))
    (CD:Hid (∀ wx:World,Calls Tryz.prog 177 #[.agg #[.slice am lm cm],.agg #[.int .i64 xop,.int .i64 xa,.int .i64 xb,.int .i64 xc,.int .i64 xk,.int .i64 xn,.slice ra rl rc,.slice aa al ac]] wx fun e w'=>e=.returned (.int .i64 v)∧Below wx.heap.size wx w')) :
    Rd Tryz.prog 140 #[.agg #[.slice am lm cm],.agg #[.int .i64 xop,.int .i64 xa,.int .i64 xb,.int .i64 xc,.int .i64 xk,.int .i64 xn,.slice ra rl rc,.slice aa al ac]] w (.int .i64 (if ok=false then 3 else if bare=true then v else 4)):=by
  have X1:Blk ((w.alloc (.cells #[.slice am lm cm] 25)).alloc (.cells #[.int .i64 xop,.int .i64 xa,.int .i64 xb,.int .i64 xc,.int .i64 xk,.int .i64 xn,.slice ra rl rc,.slice aa al ac] 45)) w.heap.size #[.slice am lm cm] 25:=Blk.new1 _ _ _ _ _
  have X2:Blk ((w.alloc (.cells #[.slice am lm cm] 25)).alloc (.cells #[.int .i64 xop,.int .i64 xa,.int .i64 xb,.int .i64 xc,.int .i64 xk,.int .i64 xn,.slice ra rl rc,.slice aa al ac] 45)) (w.heap.size+1) #[.int .i64 xop,.int .i64 xa,.int .i64 xb,.int .i64 xc,.int .i64 xk,.int .i64 xn,.slice ra rl rc,.slice aa al ac] 45:=Blk.new2 _ _ _ _
  have B1:Hid (Below w.heap.size w ((w.alloc (.cells #[.slice am lm cm] 25)).alloc (.cells #[.int .i64 xop,.int .i64 xa,.int .i64 xb,.int .i64 xc,.int .i64 xk,.int .i64 xn,.slice ra rl rc,.slice aa al ac] 45))):=bel2 _ _ _
  unfold Rd
  go_enter Tryz.func140,Tryz.ntmps140
  go_wp2_with fail
  generalize ((w.alloc (.cells #[.slice am lm cm] 25)).alloc (.cells #[.int .i64 xop,.int .i64 xa,.int .i64 xb,.int .i64 xc,.int .i64 xk,.int .i64 xn,.slice ra rl rc,.slice aa al ac] 45))=w1 at X1 X2 B1 ⊢
  refine (CW.out _).mono ?_
  rintro e w2 ⟨rfl,b2⟩
  replace X1:=(b2.block _ (lt_of_block X1)).trans X1
  replace X2:=(b2.block _ (lt_of_block X2)).trans X2
  have B2:Hid (Below w.heap.size w w2):=B1.out.trans (b2.mono B1.out.size)
  clear b2 B1 CW
  cases ok with
  | false =>
    have B3:Hid (Below w.heap.size w (w2.alloc (.cells #[.int .i64 xop,.int .i64 ya,.int .i64 yb,.int .i64 yc,.int .i64 yk,.int .i64 yn,.slice yra yrl yrc,.slice yaa yal yac] 45))):=B2.out.trans ((bel1 _ _).mono B2.out.size)
    clear CB CD X1 X2 B2
    go_wp2
    go_ret
    exact ⟨rfl,B3.out⟩
  | true =>
    replace X1:=((bel1 w2 (.cells #[.int .i64 xop,.int .i64 ya,.int .i64 yb,.int .i64 yc,.int .i64 yk,.int .i64 yn,.slice yra yrl yrc,.slice yaa yal yac] 45)).block _ (lt_of_block X1)).trans X1
    replace X2:=((bel1 w2 (.cells #[.int .i64 xop,.int .i64 ya,.int .i64 yb,.int .i64 yc,.int .i64 yk,.int .i64 yn,.slice yra yrl yrc,.slice yaa yal yac] 45)).block _ (lt_of_block X2)).trans X2
    have B3:Hid (Below w.heap.size w (w2.alloc (.cells #[.int .i64 xop,.int .i64 ya,.int .i64 yb,.int .i64 yc,.int .i64 yk,.int .i64 yn,.slice yra yrl yrc,.slice yaa yal yac] 45))):=B2.out.trans ((bel1 _ _).mono B2.out.size)
    go_wp2_with fail
    clear B2
    generalize w2.alloc (.cells #[.int .i64 xop,.int .i64 ya,.int .i64 yb,.int .i64 yc,.int .i64 yk,.int .i64 yn,.slice yra yrl yrc,.slice yaa yal yac] 45)=w3 at X1 X2 B3 ⊢
    refine (CB.out _).mono ?_
    rintro e w4 ⟨rfl,b4⟩
    replace X1:=(b4.block _ (lt_of_block X1)).trans X1
    replace X2:=(b4.block _ (lt_of_block X2)).trans X2
    have B4:Hid (Below w.heap.size w w4):=B3.out.trans (b4.mono B3.out.size)
    clear b4 B3 CB
    cases bare with
    | false =>
      clear CD X1 X2
      go_wp2
      go_ret
      exact ⟨rfl,B4.out⟩
    | true =>
      have d:=cellOf X1 0 _ rfl
      have d0:=cellOf X2 0 _ rfl
      have d1:=cellOf X2 1 _ rfl
      have d2:=cellOf X2 2 _ rfl
      have d3:=cellOf X2 3 _ rfl
      have d4:=cellOf X2 4 _ rfl
      have d5:=cellOf X2 5 _ rfl
      have d6:=cellOf X2 6 _ rfl
      have d7:=cellOf X2 7 _ rfl
      clear X1 X2
      go_wp2_with fail
      refine (CD.out _).mono ?_
      rintro e w5 ⟨rfl,b5⟩
      have B5:Hid (Below w.heap.size w w5):=B4.out.trans (b5.mono B4.out.size)
      clear b5 B4 CD
      go_wp2
      go_ret
      exact ⟨rfl,B5.out⟩
theorem cIns_any (funcs : Nat) (x : MIns) (i : IP) (am : Option Addr) (cm : Nat) (w : World) (hf : funcs < 2305843009213693952) :
    Rd Tryz.prog 140 #[.agg #[.slice am funcs cm],.agg #[.int .i64 x.op,.int .i64 x.a,.int .i64 x.b,.int .i64 x.c,.int .i64 x.k,.int .i64 x.n,.slice i.pR x.regs.length i.cR,.slice i.pA x.args.length i.cA]] w (.int .i64 (x.form funcs)):=by
  rw [MIns.form_eq]
  have hno:=op_cases x.op
  generalize x.op=op at hno ⊢
  rcases hno with rfl | rfl | rfl | rfl | rfl | rfl | rfl | rfl | rfl | rfl | rfl | rfl | rfl | rfl | h
  · rw [insForm_bare (show fieldsOf 1=some (false,false,false,false,true,false,false) from rfl)]
    exact ins_walk (ok:=true) (fun _=>wf1) (fun _=>isBare_any) (fun _=>boundsNo (by decide))
  · rw [insForm_bare (show fieldsOf 2=some (true,true,false,true,false,false,false) from rfl)]
    exact ins_walk (ok:=true) (fun _=>wf2) (fun _=>isBare_any) (fun _=>bounds2)
  · rw [insForm_bare (show fieldsOf 3=some (false,false,false,false,false,false,false) from rfl)]
    exact ins_walk (ok:=true) (fun _=>wf3) (fun _=>isBare_any) (fun _=>boundsNo (by decide))
  · rw [insForm_bare (show fieldsOf 4=some (true,false,false,false,false,false,false) from rfl)]
    exact ins_walk (ok:=true) (fun _=>wf4) (fun _=>isBare_any) (fun _=>boundsNo (by decide))
  · rw [insForm_bare (show fieldsOf 5=some (true,false,false,false,false,false,true) from rfl)]
    exact ins_walk (ok:=true) (fun _=>wf5) (fun _=>isBare_any) (fun _=>bounds5)
  · rw [insForm_bare (show fieldsOf 6=some (true,false,false,true,false,false,false) from rfl)]
    exact ins_walk (ok:=true) (fun _=>wf6) (fun _=>isBare_any) (fun _=>bounds6)
  · rw [insForm_bare (show fieldsOf 7=some (true,true,false,true,false,false,false) from rfl)]
    exact ins_walk (ok:=true) (fun _=>wf7) (fun _=>isBare_any) (fun _=>bounds7)
  · rw [insForm_bare (show fieldsOf 8=some (true,true,false,false,false,false,false) from rfl)]
    exact ins_walk (ok:=true) (fun _=>wf8) (fun _=>isBare_any) (fun _=>boundsNo (by decide))
  · rw [insForm_bare (show fieldsOf 9=some (true,true,false,false,false,false,false) from rfl)]
    exact ins_walk (ok:=true) (fun _=>wf9) (fun _=>isBare_any) (fun _=>boundsNo (by decide))
  · rw [insForm_bare (show fieldsOf 10=some (true,true,true,false,false,false,false) from rfl)]
    exact ins_walk (ok:=true) (fun _=>wf10) (fun _=>isBare_any) (fun _=>boundsNo (by decide))
  · rw [insForm_bare (show fieldsOf 11=some (true,false,false,false,false,false,false) from rfl)]
    exact ins_walk (ok:=true) (fun _=>wf11) (fun _=>isBare_any) (fun _=>boundsNo (by decide))
  · rw [insForm_bare (show fieldsOf 12=some (false,false,false,false,false,false,false) from rfl)]
    exact ins_walk (ok:=true) (fun _=>wf12) (fun _=>isBare_any) (fun _=>boundsNo (by decide))
  · rw [insForm_bare (show fieldsOf 13=some (true,false,false,false,false,false,false) from rfl)]
    exact ins_walk (ok:=true) (fun _=>wf13) (fun _=>isBare_any) (fun _=>boundsNo (by decide))
  · rw [insForm_bare (show fieldsOf 14=some (false,false,false,true,false,true,true) from rfl)]
    exact ins_walk (ok:=true) (fun _=>wf14) (fun _=>isBare_any) (fun _=>bounds14 hf)
  · have e:fieldsOf op=none:=by
      unfold fieldsOf
      obtain ⟨h1,h2,h3,h4,h5,h6,h7,h8,h9,h10,h11,h12,h13,h14⟩:=h
      simp [h1,h2,h3,h4,h5,h6,h7,h8,h9,h10,h11,h12,h13,h14]
    rw [show insForm funcs op x.a x.b x.c x.k x.n x.regs.length x.args.length=3 by unfold insForm;rw [e]]
    exact ins_walk (ok:=false) (bare:=bareB x.a x.b x.c x.k x.n x.regs.length x.args.length) (fun _=>wfNo h) (fun _=>isBare_any) (fun _=>boundsNo ⟨h.2.1,h.2.2.2.2.2.1,h.2.2.2.2.2.2.1,h.2.2.2.2.1,h.2.2.2.2.2.2.2.2.2.2.2.2.2⟩)
theorem toForm_eq (x : MTo) (bl : Nat) : x.form bl true = if rangeC x.block 0 ((bl : Int) - 1) = 0 then handedC x.regs.length 16 x.args.length else rangeC x.block 0 ((bl : Int) - 1) := by
  unfold MTo.form rangeC handedC manyC
  simp only [Bool.true_eq_false,if_false]
  repeat' split
  all_goals omega
theorem toForm_no (x : MTo) (bl : Nat) : x.form bl false = if x.block = 0 ∧ x.regs.length = 0 ∧ x.args.length = 0 then 0 else 4 := by
  unfold MTo.form
  simp only [if_true]
  repeat' split
  all_goals omega
theorem endForm_eq (e : MEnd) (bl : Nat) : e.form bl = if e.op < 1 ∨ 3 < e.op then 3 else if (e.op ≠ 2 ∧ e.a ≠ 0) ∨ (e.op ≠ 3 ∧ 0 < e.args.length) then 4 else if 8 < e.args.length then 2
    else if e.yes.form bl (e.op != 3)=0 then e.no.form bl (e.op==2) else e.yes.form bl (e.op != 3):=by
  unfold MEnd.form
  have h1:decide (e.op≠3)=(e.op != 3):=by by_cases h:e.op=3 <;> simp [h]
  have h2:decide (e.op=2)=(e.op==2):=by by_cases h:e.op=2 <;> simp [h]
  rw [h1,h2]
  by_cases c1:e.op<1∨3<e.op
  · simp [c1]
  · rw [if_neg c1,if_neg c1]
    by_cases c2:(e.op≠2∧e.a≠0)∨(e.op≠3∧0<e.args.length)
    · rw [if_pos c2,if_pos (c2.imp (fun h=>⟨h.2,h.1⟩) (fun h=>⟨h.2,h.1⟩))]
    · rw [if_neg c2,if_neg (fun h=>c2 (h.imp (fun h=>⟨h.2,h.1⟩) (fun h=>⟨h.2,h.1⟩)))]
      by_cases c3:8<e.args.length
      · simp [c3]
      · rw [if_neg c3,if_neg c3]
        by_cases c4:e.yes.form bl (e.op != 3)=0
        · simp [c4]
        · simp [c4]
theorem toCodeF {tb : Int} {pR pA : Option Addr} {n1 cR n2 cA : Nat} {fr : Int} {fp fq fb : Option Addr} {fl fc fm fd bl fe : Nat} {w : World} : Rd Tryz.prog 178 #[.agg #[.int .i64 fr, .slice fp fl fc, .slice fq fm fd, .slice fb bl fe], .agg #[.int .i64 tb, .slice pR n1 cR, .slice pA n2 cA], .bool false] w (.int .i64 (if tb = 0 ∧ n1 = 0 ∧ n2 = 0 then 0 else 4)) := by
  unfold Rd
  by_cases h1:tb=0
  · subst h1
    by_cases h2:n1=0
    · subst h2
      by_cases h3:n2=0
      · subst h3
        rw [if_pos ⟨rfl,rfl,rfl⟩]
        go_enter Tryz.func178,Tryz.ntmps178
        go_wp2
        go_ret
        exact ⟨rfl,bel2 _ _ _⟩
      · have g:(0:Int)<n2:=by omega
        rw [if_neg (by omega)]
        go_enter Tryz.func178,Tryz.ntmps178
        go_wp2
        go_ret
        exact ⟨rfl,bel2 _ _ _⟩
    · have g:(0:Int)<n1:=by omega
      rw [if_neg (by omega)]
      go_enter Tryz.func178,Tryz.ntmps178
      go_wp2
      go_ret
      exact ⟨rfl,bel2 _ _ _⟩
  · have g:(tb==0)=false:=by simpa using h1
    rw [if_neg (by omega)]
    go_enter Tryz.func178,Tryz.ntmps178
    go_wp2
    go_ret
    exact ⟨rfl,bel2 _ _ _⟩
theorem toCodeT {tb : Int} {pR pA : Option Addr} {n1 cR n2 cA : Nat} {fr : Int} {fp fq fb : Option Addr} {fl fc fm fd bl fe : Nat} {w : World} (hbl : bl < 2305843009213693952) : Rd Tryz.prog 178 #[.agg #[.int .i64 fr, .slice fp fl fc, .slice fq fm fd, .slice fb bl fe], .agg #[.int .i64 tb, .slice pR n1 cR, .slice pA n2 cA], .bool true] w (.int .i64 (if rangeC tb 0 ((bl : Int) - 1) = 0 then handedC n1 16 n2 else rangeC tb 0 ((bl : Int) - 1))) := by
  have C:Hid (∀ wx:World,Calls Tryz.prog 208 #[.int .i64 tb,.int .i64 0,.int .i64 ((bl:Int) - 1)] wx fun e w'=>e=.returned (.int .i64 (rangeC tb 0 ((bl:Int) - 1)))∧Below wx.heap.size wx w'):=fun wx=>rangeCode_any
  have C2:Hid (∀ wx:World,Calls Tryz.prog 210 #[.slice pR n1 cR,.int .i64 16,.slice pA n2 cA] wx fun e w'=>e=.returned (.int .i64 (handedC n1 16 n2))∧Below wx.heap.size wx w'):=fun wx=>handedCode_any
  generalize rangeC tb 0 ((bl:Int) - 1)=v at C ⊢
  generalize handedC n1 16 n2=u at C2 ⊢
  have X2:Blk ((w.alloc (.cells #[.int .i64 fr,.slice fp fl fc,.slice fq fm fd,.slice fb bl fe] 42)).alloc (.cells #[.int .i64 tb,.slice pR n1 cR,.slice pA n2 cA] 48)) (w.heap.size+1) #[.int .i64 tb,.slice pR n1 cR,.slice pA n2 cA] 48:=Blk.new2 _ _ _ _
  have B1:Hid (Below w.heap.size w ((w.alloc (.cells #[.int .i64 fr,.slice fp fl fc,.slice fq fm fd,.slice fb bl fe] 42)).alloc (.cells #[.int .i64 tb,.slice pR n1 cR,.slice pA n2 cA] 48))):=bel2 _ _ _
  unfold Rd
  by_cases hv:v=0
  · subst hv
    rw [if_pos rfl]
    go_enter Tryz.func178,Tryz.ntmps178
    go_wp2_with fail
    generalize ((w.alloc (.cells #[.int .i64 fr,.slice fp fl fc,.slice fq fm fd,.slice fb bl fe] 42)).alloc (.cells #[.int .i64 tb,.slice pR n1 cR,.slice pA n2 cA] 48))=w1 at X2 B1 ⊢
    refine (C.out _).mono ?_
    rintro e w2 ⟨rfl,b2⟩
    have X3:=(b2.block _ (lt_of_block X2)).trans X2
    have B2:Hid (Below w.heap.size w w2):=B1.out.trans (b2.mono B1.out.size)
    have c6:=cellOf X3 1 _ rfl
    have c7:=cellOf X3 2 _ rfl
    clear b2 C X2 B1 X3
    go_wp2_with fail
    refine (C2.out _).mono ?_
    rintro e w3 ⟨rfl,b3⟩
    have B3:Hid (Below w.heap.size w w3):=B2.out.trans (b3.mono B2.out.size)
    clear b3 C2 B2
    go_wp2
    go_ret
    exact ⟨rfl,B3.out⟩
  · rw [if_neg hv]
    have hv':(v==0)=false:=by simpa using hv
    go_enter Tryz.func178,Tryz.ntmps178
    go_wp2_with fail
    generalize ((w.alloc (.cells #[.int .i64 fr,.slice fp fl fc,.slice fq fm fd,.slice fb bl fe] 42)).alloc (.cells #[.int .i64 tb,.slice pR n1 cR,.slice pA n2 cA] 48))=w1 at X2 B1 ⊢
    refine (C.out _).mono ?_
    rintro e w2 ⟨rfl,b2⟩
    have B2:Hid (Below w.heap.size w w2):=B1.out.trans (b2.mono B1.out.size)
    clear b2 C C2 X2 B1
    go_wp2
    go_ret
    exact ⟨rfl,B2.out⟩
theorem toCode_any {x : MTo} {pR pA : Option Addr} {cR cA : Nat} {fr : Int} {fp fq fb : Option Addr} {fl fc fm fd bl fe : Nat} (has : Bool) {w : World} (hbl : bl < 2305843009213693952) :
    Rd Tryz.prog 178 #[.agg #[.int .i64 fr,.slice fp fl fc,.slice fq fm fd,.slice fb bl fe],.agg #[.int .i64 x.block,.slice pR x.regs.length cR,.slice pA x.args.length cA],.bool has] w (.int .i64 (x.form bl has)):=by
  cases has
  · rw [toForm_no];exact toCodeF
  · rw [toForm_eq];exact toCodeT hbl
theorem end_walk {eo ea yb nb : Int} {pyr pya pnr pna pe : Option Addr} {nyr cyr nya cya nnr cnr nna cna ne ce : Nat} {fr : Int} {fp fq fb : Option Addr} {fl fc fm fd bl fe : Nat} {w : World} {vy vn : Int} (h1 : ¬ (eo < 1 ∨ 3 < eo)) (h2 : ¬ ((eo ≠ 2 ∧ ea ≠ 0) ∨ (eo ≠ 3 ∧ 0 < ne))) (h3 : ¬ 8 < ne)
    (CY:Hid (∀ wx:World,Calls Tryz.prog 178 #[.agg #[.int .i64 fr,.slice fp fl fc,.slice fq fm fd,.slice fb bl fe],.agg #[.int .i64 yb,.slice pyr nyr cyr,.slice pya nya cya],.bool (eo != 3)] wx fun e w'=>e=.returned (.int .i64 vy)∧Below wx.heap.size wx w'))
    (CN:Hid (∀ wx:World,Calls Tryz.prog 178 #[.agg #[.int .i64 fr,.slice fp fl fc,.slice fq fm fd,.slice fb bl fe],.agg #[.int .i64 nb,.slice pnr nnr cnr,.slice pna nna cna],.bool (eo==2)] wx fun e w'=>e=.returned (.int .i64 vn)∧Below wx.heap.size wx w')) :
    Rd Tryz.prog 142 #[.agg #[.int .i64 fr,.slice fp fl fc,.slice fq fm fd,.slice fb bl fe],.agg #[.int .i64 eo,.int .i64 ea,.int .i64 yb,.slice pyr nyr cyr,.slice pya nya cya,.int .i64 nb,.slice pnr nnr cnr,.slice pna nna cna,.slice pe ne ce]] w (.int .i64 (if vy=0 then vn else vy)):=by
  have X1:Blk ((w.alloc (.cells #[.int .i64 fr,.slice fp fl fc,.slice fq fm fd,.slice fb bl fe] 42)).alloc (.cells #[.int .i64 eo,.int .i64 ea,.int .i64 yb,.slice pyr nyr cyr,.slice pya nya cya,.int .i64 nb,.slice pnr nnr cnr,.slice pna nna cna,.slice pe ne ce] 50)) w.heap.size #[.int .i64 fr,.slice fp fl fc,.slice fq fm fd,.slice fb bl fe] 42:=Blk.new1 _ _ _ _ _
  have X2:Blk ((w.alloc (.cells #[.int .i64 fr,.slice fp fl fc,.slice fq fm fd,.slice fb bl fe] 42)).alloc (.cells #[.int .i64 eo,.int .i64 ea,.int .i64 yb,.slice pyr nyr cyr,.slice pya nya cya,.int .i64 nb,.slice pnr nnr cnr,.slice pna nna cna,.slice pe ne ce] 50)) (w.heap.size+1) #[.int .i64 eo,.int .i64 ea,.int .i64 yb,.slice pyr nyr cyr,.slice pya nya cya,.int .i64 nb,.slice pnr nnr cnr,.slice pna nna cna,.slice pe ne ce] 50:=Blk.new2 _ _ _ _
  have B1:Hid (Below w.heap.size w ((w.alloc (.cells #[.int .i64 fr,.slice fp fl fc,.slice fq fm fd,.slice fb bl fe] 42)).alloc (.cells #[.int .i64 eo,.int .i64 ea,.int .i64 yb,.slice pyr nyr cyr,.slice pya nya cya,.int .i64 nb,.slice pnr nnr cnr,.slice pna nna cna,.slice pe ne ce] 50))):=bel2 _ _ _
  unfold Rd
  have key:∀ {o:Int},eo=o→¬ (o≠2∧ea≠0)→¬ (o≠3∧0<ne)→(o=1∨o=2∨o=3):=fun h _ _=>by omega
  rcases (show eo=1∨eo=2∨eo=3 by omega) with rfl | rfl | rfl
  · obtain rfl:ea=0:=by omega
    obtain rfl:ne=0:=by omega
    clear h1 h2 h3 key
    go_enter Tryz.func142,Tryz.ntmps142
    go_wp2_with fail
    generalize ((w.alloc (.cells #[.int .i64 fr,.slice fp fl fc,.slice fq fm fd,.slice fb bl fe] 42)).alloc (.cells #[.int .i64 1,.int .i64 0,.int .i64 yb,.slice pyr nyr cyr,.slice pya nya cya,.int .i64 nb,.slice pnr nnr cnr,.slice pna nna cna,.slice pe 0 ce] 50))=w1 at X1 X2 B1 ⊢
    refine (CY.out _).mono ?_
    rintro e w2 ⟨rfl,b2⟩
    replace X1:=(b2.block _ (lt_of_block X1)).trans X1
    replace X2:=(b2.block _ (lt_of_block X2)).trans X2
    have B2:Hid (Below w.heap.size w w2):=B1.out.trans (b2.mono B1.out.size)
    clear b2 CY B1
    by_cases hv:vy=0
    · subst hv
      have c0:=cellOf X1 0 _ rfl
      have c1:=cellOf X1 1 _ rfl
      have c2:=cellOf X1 2 _ rfl
      have c3:=cellOf X1 3 _ rfl
      have d0:=cellOf X2 0 _ rfl
      have d5:=cellOf X2 5 _ rfl
      have d6:=cellOf X2 6 _ rfl
      have d7:=cellOf X2 7 _ rfl
      clear X1 X2
      go_wp2_with fail
      refine (CN.out _).mono ?_
      rintro e w3 ⟨rfl,b3⟩
      have B3:Hid (Below w.heap.size w w3):=B2.out.trans (b3.mono B2.out.size)
      clear b3 CN B2
      go_wp2
      go_ret
      exact ⟨rfl,B3.out⟩
    · have hv':(vy==0)=false:=by simpa using hv
      clear CN X1 X2
      go_wp2
      go_ret
      exact ⟨rfl,B2.out⟩
  · obtain rfl:ne=0:=by omega
    clear h1 h2 h3 key
    go_enter Tryz.func142,Tryz.ntmps142
    go_wp2_with fail
    generalize ((w.alloc (.cells #[.int .i64 fr,.slice fp fl fc,.slice fq fm fd,.slice fb bl fe] 42)).alloc (.cells #[.int .i64 2,.int .i64 ea,.int .i64 yb,.slice pyr nyr cyr,.slice pya nya cya,.int .i64 nb,.slice pnr nnr cnr,.slice pna nna cna,.slice pe 0 ce] 50))=w1 at X1 X2 B1 ⊢
    refine (CY.out _).mono ?_
    rintro e w2 ⟨rfl,b2⟩
    replace X1:=(b2.block _ (lt_of_block X1)).trans X1
    replace X2:=(b2.block _ (lt_of_block X2)).trans X2
    have B2:Hid (Below w.heap.size w w2):=B1.out.trans (b2.mono B1.out.size)
    clear b2 CY B1
    by_cases hv:vy=0
    · subst hv
      have c0:=cellOf X1 0 _ rfl
      have c1:=cellOf X1 1 _ rfl
      have c2:=cellOf X1 2 _ rfl
      have c3:=cellOf X1 3 _ rfl
      have d0:=cellOf X2 0 _ rfl
      have d5:=cellOf X2 5 _ rfl
      have d6:=cellOf X2 6 _ rfl
      have d7:=cellOf X2 7 _ rfl
      clear X1 X2
      go_wp2_with fail
      refine (CN.out _).mono ?_
      rintro e w3 ⟨rfl,b3⟩
      have B3:Hid (Below w.heap.size w w3):=B2.out.trans (b3.mono B2.out.size)
      clear b3 CN B2
      go_wp2
      go_ret
      exact ⟨rfl,B3.out⟩
    · have hv':(vy==0)=false:=by simpa using hv
      clear CN X1 X2
      go_wp2
      go_ret
      exact ⟨rfl,B2.out⟩
  · obtain rfl:ea=0:=by omega
    have g8:¬ (8:Int)<ne:=by omega
    clear h1 h2 h3 key
    go_enter Tryz.func142,Tryz.ntmps142
    go_wp2_with fail
    generalize ((w.alloc (.cells #[.int .i64 fr,.slice fp fl fc,.slice fq fm fd,.slice fb bl fe] 42)).alloc (.cells #[.int .i64 3,.int .i64 0,.int .i64 yb,.slice pyr nyr cyr,.slice pya nya cya,.int .i64 nb,.slice pnr nnr cnr,.slice pna nna cna,.slice pe ne ce] 50))=w1 at X1 X2 B1 ⊢
    refine (CY.out _).mono ?_
    rintro e w2 ⟨rfl,b2⟩
    replace X1:=(b2.block _ (lt_of_block X1)).trans X1
    replace X2:=(b2.block _ (lt_of_block X2)).trans X2
    have B2:Hid (Below w.heap.size w w2):=B1.out.trans (b2.mono B1.out.size)
    clear b2 CY B1
    by_cases hv:vy=0
    · subst hv
      have c0:=cellOf X1 0 _ rfl
      have c1:=cellOf X1 1 _ rfl
      have c2:=cellOf X1 2 _ rfl
      have c3:=cellOf X1 3 _ rfl
      have d0:=cellOf X2 0 _ rfl
      have d5:=cellOf X2 5 _ rfl
      have d6:=cellOf X2 6 _ rfl
      have d7:=cellOf X2 7 _ rfl
      clear X1 X2
      go_wp2_with fail
      refine (CN.out _).mono ?_
      rintro e w3 ⟨rfl,b3⟩
      have B3:Hid (Below w.heap.size w w3):=B2.out.trans (b3.mono B2.out.size)
      clear b3 CN B2
      go_wp2
      go_ret
      exact ⟨rfl,B3.out⟩
    · have hv':(vy==0)=false:=by simpa using hv
      clear CN X1 X2
      go_wp2
      go_ret
      exact ⟨rfl,B2.out⟩
theorem end_bad {eo ea yb nb : Int} {pyr pya pnr pna pe : Option Addr} {nyr cyr nya cya nnr cnr nna cna ne ce : Nat} {fr : Int} {fp fq fb : Option Addr} {fl fc fm fd bl fe : Nat} {w : World} {v : Int} (h : (v = 3 ∧ (eo < 1 ∨ 3 < eo)) ∨ (v = 4 ∧ ¬ (eo < 1 ∨ 3 < eo) ∧ ((eo ≠ 2 ∧ ea ≠ 0) ∨ (eo ≠ 3 ∧ 0 < ne))) ∨ (v = 2 ∧ ¬ (eo < 1 ∨ 3 < eo) ∧ ¬ ((eo ≠ 2 ∧ ea ≠ 0) ∨ (eo ≠ 3 ∧ 0 < ne)) ∧ 8 < ne)) :
    Rd Tryz.prog 142 #[.agg #[.int .i64 fr,.slice fp fl fc,.slice fq fm fd,.slice fb bl fe],.agg #[.int .i64 eo,.int .i64 ea,.int .i64 yb,.slice pyr nyr cyr,.slice pya nya cya,.int .i64 nb,.slice pnr nnr cnr,.slice pna nna cna,.slice pe ne ce]] w (.int .i64 v):=by
  unfold Rd
  rcases h with ⟨rfl,h | h⟩ | ⟨rfl,h1,h⟩ | ⟨rfl,h1,h2,h3⟩
  · go_enter Tryz.func142,Tryz.ntmps142
    go_wp2
    go_ret
    exact ⟨rfl,bel2 _ _ _⟩
  · have g:¬ eo<1:=by omega
    go_enter Tryz.func142,Tryz.ntmps142
    go_wp2
    go_ret
    exact ⟨rfl,bel2 _ _ _⟩
  · rcases (show eo=1∨eo=2∨eo=3 by omega) with rfl | rfl | rfl
    · by_cases ha:ea=0
      · subst ha
        have g:(0:Int)<ne:=by omega
        clear h h1
        go_enter Tryz.func142,Tryz.ntmps142
        go_wp2
        go_ret
        exact ⟨rfl,bel2 _ _ _⟩
      · have g:(ea==0)=false:=by simpa using ha
        clear h h1
        go_enter Tryz.func142,Tryz.ntmps142
        go_wp2
        go_ret
        exact ⟨rfl,bel2 _ _ _⟩
    · have g:(0:Int)<ne:=by omega
      clear h h1
      go_enter Tryz.func142,Tryz.ntmps142
      go_wp2
      go_ret
      exact ⟨rfl,bel2 _ _ _⟩
    · have g:(ea==0)=false:=by simp;omega
      clear h h1
      go_enter Tryz.func142,Tryz.ntmps142
      go_wp2
      go_ret
      exact ⟨rfl,bel2 _ _ _⟩
  · obtain rfl:eo=3:=by omega
    obtain rfl:ea=0:=by omega
    have g:(8:Int)<ne:=by omega
    clear h1 h2 h3
    go_enter Tryz.func142,Tryz.ntmps142
    go_wp2
    go_ret
    exact ⟨rfl,bel2 _ _ _⟩
theorem cEnd_any {x : MEnd} {e : EP} {fr : Int} {fp fq fb : Option Addr} {fl fc fm fd bl fe : Nat} {w : World} (hs : x.yes.regs.length < 2305843009213693952 ∧ x.yes.args.length < 2305843009213693952 ∧ x.no.regs.length < 2305843009213693952 ∧ x.no.args.length < 2305843009213693952) (hbl : bl < 2305843009213693952) : Rd Tryz.prog 142 #[.agg #[.int .i64 fr, .slice fp fl fc, .slice fq fm fd, .slice fb bl fe], .agg #[.int .i64 x.op, .int .i64 x.a, .int .i64 x.yes.block, .slice e.pYR x.yes.regs.length e.cYR, .slice e.pYA x.yes.args.length e.cYA, .int .i64 x.no.block, .slice e.pNR x.no.regs.length e.cNR, .slice e.pNA x.no.args.length e.cNA, .slice e.pA x.args.length e.cA]] w (.int .i64 (x.form bl)) := by
  rw [endForm_eq]
  by_cases c1:x.op<1∨3<x.op
  · rw [if_pos c1];exact end_bad (.inl ⟨rfl,c1⟩)
  rw [if_neg c1]
  by_cases c2:(x.op≠2∧x.a≠0)∨(x.op≠3∧0<x.args.length)
  · rw [if_pos c2];exact end_bad (.inr (.inl ⟨rfl,c1,c2⟩))
  rw [if_neg c2]
  by_cases c3:8<x.args.length
  · rw [if_pos c3];exact end_bad (.inr (.inr ⟨rfl,c1,c2,c3⟩))
  rw [if_neg c3]
  exact end_walk c1 c2 c3 (fun _=>toCode_any _ hbl) (fun _=>toCode_any _ hbl)
end Go.Proofs.YtalfbnllodhkiacGreatDoor
namespace Go.Proofs.YtalfbnllodhkiacGreatDoor
open Go.ChangeShapes Go.WideShapes Go.ChangeAt Go.RowKit
set_option linter.unusedVariables false
theorem typeFault_any : ∀ n, FaultAt 113 n := by
  intro n
  induction n with
  | zero=>intro t;exact Empty.elim t
  | succ n ih =>
    intro t a c regs w ht hct
    have IH:Hid (FaultAt 113 n):=ih
    clear ih
    have hT:Hid (LIn w All t.2.2 a):=ht.list
    have hco:Hid (∀ x∈t.2.2,x.count≤100000):=fun x hx=>by have:=t.count_kid hx;omega
    have hlen:t.2.2.length≤100000:=by have:=t.len_lt_count;rw [t.len_eq] at this;omega
    have hF:Hid (t.fault regs=if ownC t.kind t.r t.2.2.length regs≠0 then ownC t.kind t.r t.2.2.length regs else firstL (TT.fault regs) t.2.2):=rfl
    generalize t.fault regs=res at hF ⊢
    simp only [Tv,TT.len_eq]
    generalize t.2.2=l at hT hco hF hlen ⊢
    generalize t.kind=k at hF ⊢
    generalize t.r=r at hF ⊢
    clear ht hct t
    generalize hln:l.length=len at hF hlen ⊢
    have HL:Hid (l.length=len):=hln
    clear hln
    rcases (show k<1∨(¬ k<1∧4<k)∨k=1∨k=2∨k=4∨k=3 by omega) with h1 | ⟨h1,h2⟩ | rfl | rfl | rfl | rfl
    · have hR:=hF.out
      rw [show ownC _ _ len regs=3 by unfold ownC;repeat' split;all_goals omega] at hR
      clear hF
      replace hR:Hid (res=3):=by show res=3;simpa using hR
      go_enter Tryz.func113,Tryz.ntmps113
      go_wp2_with fail
      go_ret
      exact ⟨by rw [hR.out];rfl,(Below.refl _ w).alloc (Nat.le_refl _) _⟩
    · have hR:=hF.out
      rw [show ownC _ _ len regs=3 by unfold ownC;repeat' split;all_goals omega] at hR
      clear hF
      replace hR:Hid (res=3):=by show res=3;simpa using hR
      go_enter Tryz.func113,Tryz.ntmps113
      go_wp2_with fail
      go_ret
      exact ⟨by rw [hR.out];rfl,(Below.refl _ w).alloc (Nat.le_refl _) _⟩
    · rcases (show r≠0∨(r=0∧0<len)∨(r=0∧len=0) by omega) with h1 | ⟨rfl,h1⟩ | ⟨rfl,h1⟩
      · have g1:(r != 0)=true:=by simpa using h1
        have hR:=hF.out
        rw [show ownC _ _ len regs=4 by unfold ownC;repeat' split;all_goals omega] at hR
        clear hF
        replace hR:Hid (res=4):=by show res=4;simpa using hR
        go_enter Tryz.func113,Tryz.ntmps113
        go_wp2_with fail
        go_ret
        exact ⟨by rw [hR.out];rfl,(Below.refl _ w).alloc (Nat.le_refl _) _⟩
      · have g1:(0:Int)<(len:Int):=by omega
        have hR:=hF.out
        rw [show ownC _ _ len regs=4 by unfold ownC;repeat' split;all_goals omega] at hR
        clear hF
        replace hR:Hid (res=4):=by show res=4;simpa using hR
        go_enter Tryz.func113,Tryz.ntmps113
        go_wp2_with fail
        go_ret
        exact ⟨by rw [hR.out];rfl,(Below.refl _ w).alloc (Nat.le_refl _) _⟩
      · have g1:¬ (0:Int)<(len:Int):=by omega
        have g2:¬ (8:Int)<(len:Int):=by omega
        have hR:=hF.out
        rw [show ownC _ _ len regs=0 by unfold ownC;repeat' split;all_goals omega] at hR
        clear hF
        have R:Hid (res=firstL (TT.fault regs) l):=by show res=firstL (TT.fault regs) l;simpa using hR
        clear hR
        have R0:Hid (res=0):=by
          have hl0:l=[]:=List.length_eq_zero_iff.1 (HL.out.trans h1)
          have:=R.out
          rw [hl0] at this
          exact this
        subst h1
        clear R g1 g2
        go_enter Tryz.func113,Tryz.ntmps113
        go_wp2_with fail
        have X0:=Bx.start w 1 0 a 0 c
        generalize w.alloc (.cells #[.int .i64 1,.int .i64 0,.slice a 0 c] 78)=w1 at X0 ⊢
        have X1:Hid (Bx w w1 1 0 a 0 c):=X0
        clear X0
        go_loopw [5] (fun i wr=>i=.int .i64 0∧Bx w wr 1 0 a 0 c) (fun _ _=>0)
        case atStart=>exact ⟨rfl,X1.out⟩
        case round =>
          clear X1
          obtain ⟨rfl,hX⟩:=hrel
          have X1:Hid (Bx w wr 1 0 a 0 c):=hX
          have e2:wr.cell? ⟨w.heap.size,2,none⟩=some (.slice a 0 c):=cellOf hX.box 2 _ rfl
          clear hX
          go_wp2
          go_ret
          exact ⟨by rw [R0.out];rfl,X1.out.bel⟩
    · rcases (show 0<len∨(len=0∧r<0)∨(len=0∧0≤r∧regs≤r)∨(len=0∧0≤r∧r<regs) by omega) with h1 | ⟨h1,h2⟩ | ⟨h1,h2,h3⟩ | ⟨h1,h2,h3⟩
      · have g1:(0:Int)<(len:Int):=by omega
        have hR:=hF.out
        rw [show ownC _ _ len regs=4 by unfold ownC;repeat' split;all_goals omega] at hR
        clear hF
        replace hR:Hid (res=4):=by show res=4;simpa using hR
        go_enter Tryz.func113,Tryz.ntmps113
        go_wp2_with fail
        go_ret
        exact ⟨by rw [hR.out];rfl,(Below.refl _ w).alloc (Nat.le_refl _) _⟩
      · have g1:¬ (0:Int)<(len:Int):=by omega
        have g2:¬ (8:Int)<(len:Int):=by omega
        have hR:=hF.out
        rw [show ownC _ _ len regs=1 by unfold ownC;repeat' split;all_goals omega] at hR
        clear hF
        replace hR:Hid (res=1):=by show res=1;simpa using hR
        go_enter Tryz.func113,Tryz.ntmps113
        go_wp2_with fail
        go_ret
        exact ⟨by rw [hR.out];rfl,(Below.refl _ w).alloc (Nat.le_refl _) _⟩
      · have g1:¬ (0:Int)<(len:Int):=by omega
        have g2:¬ (8:Int)<(len:Int):=by omega
        have hR:=hF.out
        rw [show ownC _ _ len regs=1 by unfold ownC;repeat' split;all_goals omega] at hR
        clear hF
        replace hR:Hid (res=1):=by show res=1;simpa using hR
        go_enter Tryz.func113,Tryz.ntmps113
        go_wp2_with fail
        go_ret
        exact ⟨by rw [hR.out];rfl,(Below.refl _ w).alloc (Nat.le_refl _) _⟩
      · have g1:¬ (0:Int)<(len:Int):=by omega
        have g2:¬ (8:Int)<(len:Int):=by omega
        have hR:=hF.out
        rw [show ownC _ _ len regs=0 by unfold ownC;repeat' split;all_goals omega] at hR
        clear hF
        have R:Hid (res=firstL (TT.fault regs) l):=by show res=firstL (TT.fault regs) l;simpa using hR
        clear hR
        have R0:Hid (res=0):=by
          have hl0:l=[]:=List.length_eq_zero_iff.1 (HL.out.trans h1)
          have:=R.out
          rw [hl0] at this
          exact this
        subst h1
        clear R g1 g2
        go_enter Tryz.func113,Tryz.ntmps113
        go_wp2_with fail
        have X0:=Bx.start w 2 r a 0 c
        generalize w.alloc (.cells #[.int .i64 2,.int .i64 r,.slice a 0 c] 78)=w1 at X0 ⊢
        have X1:Hid (Bx w w1 2 r a 0 c):=X0
        clear X0
        go_loopw [5] (fun i wr=>i=.int .i64 0∧Bx w wr 2 r a 0 c) (fun _ _=>0)
        case atStart=>exact ⟨rfl,X1.out⟩
        case round =>
          clear X1
          obtain ⟨rfl,hX⟩:=hrel
          have X1:Hid (Bx w wr 2 r a 0 c):=hX
          have e2:wr.cell? ⟨w.heap.size,2,none⟩=some (.slice a 0 c):=cellOf hX.box 2 _ rfl
          clear hX
          go_wp2
          go_ret
          exact ⟨by rw [R0.out];rfl,X1.out.bel⟩
    · rcases (show 0<len∨(len=0∧r<0)∨(len=0∧0≤r∧regs≤r)∨(len=0∧0≤r∧r<regs) by omega) with h1 | ⟨h1,h2⟩ | ⟨h1,h2,h3⟩ | ⟨h1,h2,h3⟩
      · have g1:(0:Int)<(len:Int):=by omega
        have hR:=hF.out
        rw [show ownC _ _ len regs=4 by unfold ownC;repeat' split;all_goals omega] at hR
        clear hF
        replace hR:Hid (res=4):=by show res=4;simpa using hR
        go_enter Tryz.func113,Tryz.ntmps113
        go_wp2_with fail
        go_ret
        exact ⟨by rw [hR.out];rfl,(Below.refl _ w).alloc (Nat.le_refl _) _⟩
      · have g1:¬ (0:Int)<(len:Int):=by omega
        have g2:¬ (8:Int)<(len:Int):=by omega
        have hR:=hF.out
        rw [show ownC _ _ len regs=1 by unfold ownC;repeat' split;all_goals omega] at hR
        clear hF
        replace hR:Hid (res=1):=by show res=1;simpa using hR
        go_enter Tryz.func113,Tryz.ntmps113
        go_wp2_with fail
        go_ret
        exact ⟨by rw [hR.out];rfl,(Below.refl _ w).alloc (Nat.le_refl _) _⟩
      · have g1:¬ (0:Int)<(len:Int):=by omega
        have g2:¬ (8:Int)<(len:Int):=by omega
        have hR:=hF.out
        rw [show ownC _ _ len regs=1 by unfold ownC;repeat' split;all_goals omega] at hR
        clear hF
        replace hR:Hid (res=1):=by show res=1;simpa using hR
        go_enter Tryz.func113,Tryz.ntmps113
        go_wp2_with fail
        go_ret
        exact ⟨by rw [hR.out];rfl,(Below.refl _ w).alloc (Nat.le_refl _) _⟩
      · have g1:¬ (0:Int)<(len:Int):=by omega
        have g2:¬ (8:Int)<(len:Int):=by omega
        have hR:=hF.out
        rw [show ownC _ _ len regs=0 by unfold ownC;repeat' split;all_goals omega] at hR
        clear hF
        have R:Hid (res=firstL (TT.fault regs) l):=by show res=firstL (TT.fault regs) l;simpa using hR
        clear hR
        have R0:Hid (res=0):=by
          have hl0:l=[]:=List.length_eq_zero_iff.1 (HL.out.trans h1)
          have:=R.out
          rw [hl0] at this
          exact this
        subst h1
        clear R g1 g2
        go_enter Tryz.func113,Tryz.ntmps113
        go_wp2_with fail
        have X0:=Bx.start w 4 r a 0 c
        generalize w.alloc (.cells #[.int .i64 4,.int .i64 r,.slice a 0 c] 78)=w1 at X0 ⊢
        have X1:Hid (Bx w w1 4 r a 0 c):=X0
        clear X0
        go_loopw [5] (fun i wr=>i=.int .i64 0∧Bx w wr 4 r a 0 c) (fun _ _=>0)
        case atStart=>exact ⟨rfl,X1.out⟩
        case round =>
          clear X1
          obtain ⟨rfl,hX⟩:=hrel
          have X1:Hid (Bx w wr 4 r a 0 c):=hX
          have e2:wr.cell? ⟨w.heap.size,2,none⟩=some (.slice a 0 c):=cellOf hX.box 2 _ rfl
          clear hX
          go_wp2
          go_ret
          exact ⟨by rw [R0.out];rfl,X1.out.bel⟩
    · rcases (show 8<len∨(len≤8∧r<0)∨(len≤8∧0≤r∧regs≤r)∨(len≤8∧0≤r∧r<regs) by omega) with h1 | ⟨h1,h2⟩ | ⟨h1,h2,h3⟩ | ⟨h1,h2,h3⟩
      · have g1:(8:Int)<(len:Int):=by omega
        have hR:=hF.out
        rw [show ownC _ _ len regs=2 by unfold ownC;repeat' split;all_goals omega] at hR
        clear hF
        replace hR:Hid (res=2):=by show res=2;simpa using hR
        go_enter Tryz.func113,Tryz.ntmps113
        go_wp2_with fail
        go_ret
        exact ⟨by rw [hR.out];rfl,(Below.refl _ w).alloc (Nat.le_refl _) _⟩
      · have g1:¬ (8:Int)<(len:Int):=by omega
        have hR:=hF.out
        rw [show ownC _ _ len regs=1 by unfold ownC;repeat' split;all_goals omega] at hR
        clear hF
        replace hR:Hid (res=1):=by show res=1;simpa using hR
        go_enter Tryz.func113,Tryz.ntmps113
        go_wp2_with fail
        go_ret
        exact ⟨by rw [hR.out];rfl,(Below.refl _ w).alloc (Nat.le_refl _) _⟩
      · have g1:¬ (8:Int)<(len:Int):=by omega
        have hR:=hF.out
        rw [show ownC _ _ len regs=1 by unfold ownC;repeat' split;all_goals omega] at hR
        clear hF
        replace hR:Hid (res=1):=by show res=1;simpa using hR
        go_enter Tryz.func113,Tryz.ntmps113
        go_wp2_with fail
        go_ret
        exact ⟨by rw [hR.out];rfl,(Below.refl _ w).alloc (Nat.le_refl _) _⟩
      · have g1:¬ (8:Int)<(len:Int):=by omega
        have hR:=hF.out
        rw [show ownC _ _ len regs=0 by unfold ownC;repeat' split;all_goals omega] at hR
        clear hF
        have R:Hid (res=firstL (TT.fault regs) l):=by show res=firstL (TT.fault regs) l;simpa using hR
        clear hR
        go_enter Tryz.func113,Tryz.ntmps113
        go_wp2_with fail
        have X0:=Bx.start w 3 r a len c
        generalize w.alloc (.cells #[.int .i64 3,.int .i64 r,.slice a len c] 78)=w1 at X0 ⊢
        have X1:Hid (Bx w w1 3 r a len c):=X0
        clear X0
        go_loopw [5] (fun i wr=>∃ q:Nat,q≤len∧i=.int .i64 q∧(∀ (j:Nat) x,j<q→l[j]?=some x→x.fault regs=0)∧Bx w wr 3 r a len c) (fun i _=>len - (intOf i).toNat)
        case atStart=>exact ⟨0,Nat.zero_le _,rfl,fun j x hj=>by omega,X1.out⟩
        case round =>
          clear X1
          obtain ⟨q,hq,rfl,hall,hX⟩:=hrel
          have A:Hid (∀ (j:Nat) x,j<q→l[j]?=some x→x.fault regs=0):=hall
          have X1:Hid (Bx w wr 3 r a len c):=hX
          have e2:wr.cell? ⟨w.heap.size,2,none⟩=some (.slice a len c):=cellOf hX.box 2 _ rfl
          clear hall
          by_cases hlt:q<len
          · have hql:q<l.length:=by have:=HL.out;omega
            have hx:l[q]?=some l[q]:=List.getElem?_eq_getElem hql
            generalize l[q]=x at hx
            clear hql
            obtain ⟨g,o,a',c',rfl,_,d0,d1,d2,hk⟩:=LIn.at (hT.out.below hX.bel) hx
            have hx':Hid (l[q]?=some x):=hx
            have hk0:(0:Int)≤q:=by omega
            have hk1:(q:Int)<len:=by omega
            have C:Hid (∀ wx,Below wr.heap.size wr wx→Calls Tryz.prog 113 #[Tv x a' c',.int .i64 regs] wx fun e w'=>e=.returned (.int .i64 (x.fault regs))∧Below wx.heap.size wx w') :=
              fun wx hb=>IH.out x a' c' regs wx (hk.below hb) (hco.out x (List.mem_of_getElem? hx))
            clear hX hk hx
            simp only [Tv] at C
            generalize x.kind=kx at C d0
            generalize x.r=rx at C d1
            generalize x.len=lx at C d2
            go_wp2_with fail
            refine (C.out _ (Below.refl _ _)).mono ?_
            rintro e w2 ⟨rfl,b2⟩
            have X2:Hid (Bx w w2 3 r (some ⟨g,o,none⟩) len c):=X1.out.below b2
            clear X1 b2 C d0 d1 d2 e2
            by_cases hd:x.fault regs=0
            · have A2:Hid (∀ (j:Nat) x,j<q+1→l[j]?=some x→x.fault regs=0):=fun j y hj hy=>by
                by_cases e:j=q
                · subst e
                  rw [hx'.out] at hy
                  cases hy
                  exact hd
                · exact A.out j y (by omega) hy
              rw [hd]
              clear hd A
              go_wp2
              go_roundw
              case rel=>exact ⟨q+1,by omega,by go_num,A2.out,X2.out⟩
              case measure=>simp [intOf];omega
            · have Rv:Hid (res=x.fault regs):=R.out.trans (firstL_eq hx'.out A.out hd)
              have hd':(x.fault regs != 0)=true:=by simpa using hd
              generalize x.fault regs=v at hd' Rv ⊢
              clear hd A
              go_wp2
              go_ret
              exact ⟨by rw [Rv.out];rfl,X2.out.bel⟩
          · have Rv:Hid (res=0):=R.out.trans (firstL_zero (fun j y hy=>A.out j y (by have:=(List.getElem?_eq_some_iff.1 hy).1;have:=HL.out;omega) hy))
            have hk1:¬ (q:Int)<len:=by omega
            clear hX A
            go_wp2
            go_ret
            exact ⟨by rw [Rv.out];rfl,X1.out.bel⟩
theorem fold_take_succ {α : Type} (f : α → Nat) (l : List α) (i : Nat) (x : α) (h : l[i]? = some x) : ((l.map f).take (i + 1)).foldl max 0 = max (((l.map f).take i).foldl max 0) (f x) := by
  rw [List.take_add_one,List.getElem?_map,h]
  simp
theorem fold_take_le (l : List Nat) (i : Nat) : (l.take i).foldl max 0 ≤ l.foldl max 0 := by
  rw [foldl_max_le]
  exact ⟨Nat.zero_le _,fun x hx=>(foldl_max_le.1 (Nat.le_refl (l.foldl max 0))).2 x (List.mem_of_mem_take hx)⟩
theorem deepOf_any : ∀ (n : Nat) (t : TT n) (a : Option Addr) (c : Nat) (w : World) (m : Nat), TIn w All t a → t.count ≤ 100000 → m ≤ 4 →
    Calls Tryz.prog 112 #[Tv t a c,.int .i64 m] w fun e w'=>e=.returned (.int .i64 ((min t.height (m+1):Nat):Int))∧Below w.heap.size w w':=by
  intro n
  induction n with
  | zero=>intro t;exact Empty.elim t
  | succ n ih =>
    intro t a c w m ht hct hm4
    have IH:Hid (∀ (t:TT n) (a:Option Addr) (c:Nat) (w:World) (m:Nat),TIn w All t a→t.count≤100000→m≤4 →
      Calls Tryz.prog 112 #[Tv t a c,.int .i64 m] w fun e w'=>e=.returned (.int .i64 ((min t.height (m+1):Nat):Int))∧Below w.heap.size w w'):=ih
    clear ih
    have hT:Hid (LIn w All t.2.2 a):=ht.list
    have hco:Hid (∀ x∈t.2.2,x.count≤100000):=fun x hx=>by have:=t.count_kid hx;omega
    have hlen:t.2.2.length≤100000:=by have:=t.len_lt_count;rw [t.len_eq] at this;omega
    have hh:Hid (t.height=(t.2.2.map (fun x=>1+x.height)).foldl max 0):=rfl
    generalize t.height=h at hh ⊢
    simp only [Tv,TT.len_eq]
    generalize t.2.2=l at hT hco hh hlen ⊢
    generalize t.kind=k
    generalize t.r=r
    clear ht hct t
    generalize hres:((min h (m+1):Nat):Int)=res
    have hR:Hid (((min h (m+1):Nat):Int)=res):=hres
    clear hres
    go_enter Tryz.func112,Tryz.ntmps112
    go_wp2_with fail
    have X0:Hid (Bx w (w.alloc (.cells #[.int .i64 k,.int .i64 r,.slice a l.length c] 78)) k r a l.length c):=Bx.start w k r a l.length c
    generalize w.alloc (.cells #[.int .i64 k,.int .i64 r,.slice a l.length c] 78)=w1 at X0 ⊢
    go_loopw [5,6] (fun v i wr=>∃ q y:Nat,q≤l.length∧i=.int .i64 q∧v=.int .i64 y∧y=min (((l.map (fun x=>1+x.height)).take q).foldl max 0) (m+1)∧Bx w wr k r a l.length c) (fun _ i _=>l.length - (intOf i).toNat)
    case atStart=>exact ⟨0,0,Nat.zero_le _,rfl,rfl,by simp,X0.out⟩
    case round =>
      clear X0
      obtain ⟨q,y,hq,rfl,rfl,hy,hX⟩:=hrel
      have Y:Hid (y=min (((l.map (fun x=>1+x.height)).take q).foldl max 0) (m+1)):=hy
      have X1:Hid (Bx w wr k r a l.length c):=hX
      have e2:wr.cell? ⟨w.heap.size,2,none⟩=some (.slice a l.length c):=cellOf hX.box 2 _ rfl
      have hyb:(y:Int)≤5:=by omega
      clear hy
      by_cases hlt:q<l.length
      · have hk0:(0:Int)≤q:=by omega
        have hk1:(q:Int)<l.length:=by omega
        by_cases hym:y≤m
        · have hx:l[q]?=some l[q]:=List.getElem?_eq_getElem hlt
          generalize l[q]=x at hx
          obtain ⟨g,o,a',c',rfl,_,d0,d1,d2,hk⟩:=LIn.at (hT.out.below hX.bel) hx
          have hS:=fold_take_succ (fun x:TT n=>1+x.height) l q x hx
          have hym':(y:Int)≤m:=by omega
          by_cases hz:m=0
          · have hz':((m:Int)==0)=true:=by simp;omega
            have F:Hid (res=1):=by
              have h1:=fold_take_le (l.map (fun x=>1+x.height)) (q+1)
              have h2:=hh.out
              have h3:=hR.out
              rw [hS] at h1
              show res=1
              omega
            clear hX hk hx hz hS hym
            go_wp2_with fail
            go_ret
            exact ⟨by rw [F.out];rfl,X1.out.bel⟩
          · have hz':((m:Int)==0)=false:=by simp;omega
            have C:Hid (∀ wx,Below wr.heap.size wr wx→Calls Tryz.prog 112 #[Tv x a' c',.int .i64 ((m:Int) - 1)] wx fun e w'=>e=.returned (.int .i64 ((min x.height m:Nat):Int))∧Below wx.heap.size wx w'):=fun wx hb=>by
              have:=IH.out x a' c' wx (m - 1) (hk.below hb) (hco.out x (List.mem_of_getElem? hx)) (by omega)
              rw [show ((m - 1:Nat):Int)=(m:Int) - 1 by omega,show m - 1+1=m by omega] at this
              exact this
            have hm0:(1:Int)≤m:=by omega
            have hm1:(m:Int)≤4:=by omega
            generalize hz1:min x.height m=z at C
            have hz2:(z:Int)≤4:=by omega
            have Z:Hid (max y (1+z)=min (((l.map (fun x=>1+x.height)).take (q+1)).foldl max 0) (m+1)):=by
              rw [hS]
              have:=Y.out
              show _=_
              omega
            clear hX hk hx hz hS hz1 Y hym
            simp only [Tv] at C
            generalize x.kind=kx at C d0
            generalize x.r=rx at C d1
            generalize x.len=lx at C d2
            go_wp2_with fail
            refine (C.out _ (Below.refl _ _)).mono ?_
            rintro e w2 ⟨rfl,b2⟩
            have X2:Hid (Bx w w2 k r (some ⟨g,o,none⟩) l.length c):=X1.out.below b2
            clear X1 b2 C d0 d1 d2 e2
            by_cases hd:(y:Int)<1+z
            · go_wp2
              go_roundw
              case rel=>exact ⟨q+1,1+z,by omega,by go_num,by go_num,by rw [← Z.out];omega,X2.out⟩
              case measure=>simp [intOf];omega
            · go_wp2
              go_roundw
              case rel=>exact ⟨q+1,y,by omega,by go_num,rfl,by rw [← Z.out];omega,X2.out⟩
              case measure=>simp [intOf];omega
        · have F:Hid (res=y):=by
            have h1:=fold_take_le (l.map (fun x=>1+x.height)) q
            have h2:=hh.out
            have h3:=hR.out
            have:=Y.out
            show res=y
            omega
          have hym':¬ (y:Int)≤m:=by omega
          clear hX hym Y
          go_wp2
          go_ret
          exact ⟨by rw [F.out];rfl,X1.out.bel⟩
      · have F:Hid (res=y):=by
          have h2:=hh.out
          have h3:=hR.out
          have:=Y.out
          rw [List.take_of_length_le (by simp;omega)] at this
          show res=y
          omega
        have hk1:¬ (q:Int)<l.length:=by omega
        clear hX Y
        go_wp2
        go_ret
        exact ⟨by rw [F.out];rfl,X1.out.bel⟩
def CheckAt (f : Nat) : Prop := ∀ (n : Nat) (t : TT n) (a : Option Addr) (c : Nat) (regs : Int) (w : World), TIn w All t a → t.count ≤ 100000 →
    Calls Tryz.prog f #[Tv t a c,.int .i64 regs] w fun e w'=>e=.returned (.int .i64 (t.check regs))∧Below w.heap.size w w'
theorem typeFaultT_any : CheckAt 72 := by
  intro n t a c regs w ht hc
  have C1:Hid (∀ wx,Below w.heap.size w wx→Calls Tryz.prog 112 #[Tv t a c,.int .i64 4] wx fun e w'=>e=.returned (.int .i64 ((min t.height 5:Nat):Int))∧Below wx.heap.size wx w') :=
    fun wx hb=>deepOf_any n t a c wx 4 (ht.below hb) hc (by omega)
  have C2:Hid (∀ wx,Below w.heap.size w wx→Calls Tryz.prog 113 #[Tv t a c,.int .i64 regs] wx fun e w'=>e=.returned (.int .i64 (t.fault regs))∧Below wx.heap.size wx w') :=
    fun wx hb=>typeFault_any n t a c regs wx (ht.below hb) hc
  have E:Hid (t.check regs=if 4<t.height then 19 else t.fault regs):=rfl
  generalize t.check regs=res at E ⊢
  clear ht hc
  simp only [Tv] at C1 C2 ⊢
  generalize t.kind=k at C1 C2 ⊢
  generalize t.r=r at C1 C2 ⊢
  generalize t.len=len at C1 C2 ⊢
  generalize t.fault regs=v at C2 E
  generalize hm:min t.height 5=q at C1
  go_enter Tryz.func72,Tryz.ntmps72
  go_wp2_with fail
  have X0:=Bx.start w k r a len c
  generalize w.alloc (.cells #[.int .i64 k,.int .i64 r,.slice a len c] 78)=w1 at X0 ⊢
  refine (C1.out _ X0.bel).mono ?_
  rintro e w2 ⟨rfl,b2⟩
  have X2:Hid (Bx w w2 k r a len c):=X0.below b2
  have e0:=cellOf X2.out.box 0 _ rfl
  have e1:=cellOf X2.out.box 1 _ rfl
  have e2:=cellOf X2.out.box 2 _ rfl
  clear X0 b2 C1
  by_cases hd:4<t.height
  · have R:Hid (res=19):=by have:=E.out;rwa [if_pos hd] at this
    have hq:(4:Int)<q:=by omega
    clear hd hm
    go_wp2_with fail
    go_ret
    exact ⟨by rw [R.out];rfl,X2.out.bel⟩
  · have R:Hid (res=v):=by have:=E.out;rwa [if_neg hd] at this
    have hq:¬ (4:Int)<q:=by omega
    clear hd hm
    go_wp2_with fail
    refine (C2.out _ X2.out.bel).mono ?_
    rintro e w3 ⟨rfl,b3⟩
    have X3:Hid (Bx w w3 k r a len c):=X2.out.below b3
    clear X2 b3 C2 e0 e1 e2
    go_wp2_with fail
    go_ret
    exact ⟨by rw [R.out];rfl,X3.out.bel⟩
theorem ownCode_any (k r : Int) (a : Option Addr) (len c : Nat) (regs : Int) (w : World) :
    Calls Tryz.prog 224 #[.agg #[.int .i64 k,.int .i64 r,.slice a len c],.int .i64 regs] w fun e w'=>e=.returned (.int .i64 (ownC k r len regs))∧Below w.heap.size w w':=by
  rcases (show k<1∨(¬ k<1∧4<k)∨k=1∨k=2∨k=4∨k=3 by omega) with h1 | ⟨h1,h2⟩ | rfl | rfl | rfl | rfl
  · rw [show ownC _ _ len regs=3 by unfold ownC;repeat' split;all_goals omega]
    go_enter Tryz.func224,Tryz.ntmps224
    go_wp2_with fail
    go_ret
    exact ⟨rfl,(Below.refl _ w).alloc (Nat.le_refl _) _⟩
  · rw [show ownC _ _ len regs=3 by unfold ownC;repeat' split;all_goals omega]
    go_enter Tryz.func224,Tryz.ntmps224
    go_wp2_with fail
    go_ret
    exact ⟨rfl,(Below.refl _ w).alloc (Nat.le_refl _) _⟩
  · rcases (show r≠0∨(r=0∧0<len)∨(r=0∧len=0) by omega) with h1 | ⟨rfl,h1⟩ | ⟨rfl,h1⟩
    · have g1:(r != 0)=true:=by simpa using h1
      rw [show ownC _ _ len regs=4 by unfold ownC;repeat' split;all_goals omega]
      go_enter Tryz.func224,Tryz.ntmps224
      go_wp2_with fail
      go_ret
      exact ⟨rfl,(Below.refl _ w).alloc (Nat.le_refl _) _⟩
    · have g1:(0:Int)<(len:Int):=by omega
      rw [show ownC _ _ len regs=4 by unfold ownC;repeat' split;all_goals omega]
      go_enter Tryz.func224,Tryz.ntmps224
      go_wp2_with fail
      go_ret
      exact ⟨rfl,(Below.refl _ w).alloc (Nat.le_refl _) _⟩
    · have g1:¬ (0:Int)<(len:Int):=by omega
      have g2:¬ (8:Int)<(len:Int):=by omega
      rw [show ownC _ _ len regs=0 by unfold ownC;repeat' split;all_goals omega]
      go_enter Tryz.func224,Tryz.ntmps224
      go_wp2_with fail
      go_ret
      exact ⟨rfl,(Below.refl _ w).alloc (Nat.le_refl _) _⟩
  · rcases (show 0<len∨(len=0∧r<0)∨(len=0∧0≤r∧regs≤r)∨(len=0∧0≤r∧r<regs) by omega) with h1 | ⟨h1,h2⟩ | ⟨h1,h2,h3⟩ | ⟨h1,h2,h3⟩
    · have g1:(0:Int)<(len:Int):=by omega
      rw [show ownC _ _ len regs=4 by unfold ownC;repeat' split;all_goals omega]
      go_enter Tryz.func224,Tryz.ntmps224
      go_wp2_with fail
      go_ret
      exact ⟨rfl,(Below.refl _ w).alloc (Nat.le_refl _) _⟩
    · have g1:¬ (0:Int)<(len:Int):=by omega
      have g2:¬ (8:Int)<(len:Int):=by omega
      rw [show ownC _ _ len regs=1 by unfold ownC;repeat' split;all_goals omega]
      go_enter Tryz.func224,Tryz.ntmps224
      go_wp2_with fail
      go_ret
      exact ⟨rfl,(Below.refl _ w).alloc (Nat.le_refl _) _⟩
    · have g1:¬ (0:Int)<(len:Int):=by omega
      have g2:¬ (8:Int)<(len:Int):=by omega
      rw [show ownC _ _ len regs=1 by unfold ownC;repeat' split;all_goals omega]
      go_enter Tryz.func224,Tryz.ntmps224
      go_wp2_with fail
      go_ret
      exact ⟨rfl,(Below.refl _ w).alloc (Nat.le_refl _) _⟩
    · have g1:¬ (0:Int)<(len:Int):=by omega
      have g2:¬ (8:Int)<(len:Int):=by omega
      rw [show ownC _ _ len regs=0 by unfold ownC;repeat' split;all_goals omega]
      go_enter Tryz.func224,Tryz.ntmps224
      go_wp2_with fail
      go_ret
      exact ⟨rfl,(Below.refl _ w).alloc (Nat.le_refl _) _⟩
  · rcases (show 0<len∨(len=0∧r<0)∨(len=0∧0≤r∧regs≤r)∨(len=0∧0≤r∧r<regs) by omega) with h1 | ⟨h1,h2⟩ | ⟨h1,h2,h3⟩ | ⟨h1,h2,h3⟩
    · have g1:(0:Int)<(len:Int):=by omega
      rw [show ownC _ _ len regs=4 by unfold ownC;repeat' split;all_goals omega]
      go_enter Tryz.func224,Tryz.ntmps224
      go_wp2_with fail
      go_ret
      exact ⟨rfl,(Below.refl _ w).alloc (Nat.le_refl _) _⟩
    · have g1:¬ (0:Int)<(len:Int):=by omega
      have g2:¬ (8:Int)<(len:Int):=by omega
      rw [show ownC _ _ len regs=1 by unfold ownC;repeat' split;all_goals omega]
      go_enter Tryz.func224,Tryz.ntmps224
      go_wp2_with fail
      go_ret
      exact ⟨rfl,(Below.refl _ w).alloc (Nat.le_refl _) _⟩
    · have g1:¬ (0:Int)<(len:Int):=by omega
      have g2:¬ (8:Int)<(len:Int):=by omega
      rw [show ownC _ _ len regs=1 by unfold ownC;repeat' split;all_goals omega]
      go_enter Tryz.func224,Tryz.ntmps224
      go_wp2_with fail
      go_ret
      exact ⟨rfl,(Below.refl _ w).alloc (Nat.le_refl _) _⟩
    · have g1:¬ (0:Int)<(len:Int):=by omega
      have g2:¬ (8:Int)<(len:Int):=by omega
      rw [show ownC _ _ len regs=0 by unfold ownC;repeat' split;all_goals omega]
      go_enter Tryz.func224,Tryz.ntmps224
      go_wp2_with fail
      go_ret
      exact ⟨rfl,(Below.refl _ w).alloc (Nat.le_refl _) _⟩
  · rcases (show 8<len∨(len≤8∧r<0)∨(len≤8∧0≤r∧regs≤r)∨(len≤8∧0≤r∧r<regs) by omega) with h1 | ⟨h1,h2⟩ | ⟨h1,h2,h3⟩ | ⟨h1,h2,h3⟩
    · have g1:(8:Int)<(len:Int):=by omega
      rw [show ownC _ _ len regs=2 by unfold ownC;repeat' split;all_goals omega]
      go_enter Tryz.func224,Tryz.ntmps224
      go_wp2_with fail
      go_ret
      exact ⟨rfl,(Below.refl _ w).alloc (Nat.le_refl _) _⟩
    · have g1:¬ (8:Int)<(len:Int):=by omega
      rw [show ownC _ _ len regs=1 by unfold ownC;repeat' split;all_goals omega]
      go_enter Tryz.func224,Tryz.ntmps224
      go_wp2_with fail
      go_ret
      exact ⟨rfl,(Below.refl _ w).alloc (Nat.le_refl _) _⟩
    · have g1:¬ (8:Int)<(len:Int):=by omega
      rw [show ownC _ _ len regs=1 by unfold ownC;repeat' split;all_goals omega]
      go_enter Tryz.func224,Tryz.ntmps224
      go_wp2_with fail
      go_ret
      exact ⟨rfl,(Below.refl _ w).alloc (Nat.le_refl _) _⟩
    · have g1:¬ (8:Int)<(len:Int):=by omega
      rw [show ownC _ _ len regs=0 by unfold ownC;repeat' split;all_goals omega]
      go_enter Tryz.func224,Tryz.ntmps224
      go_wp2_with fail
      go_ret
      exact ⟨rfl,(Below.refl _ w).alloc (Nat.le_refl _) _⟩
theorem firstCode_any : ∀ n, FaultAt 204 n := by
  intro n
  induction n with
  | zero=>intro t;exact Empty.elim t
  | succ n ih =>
    intro t a c regs w ht hct
    have IH:Hid (FaultAt 204 n):=ih
    clear ih
    have hT:Hid (LIn w All t.2.2 a):=ht.list
    have hco:Hid (∀ x∈t.2.2,x.count≤100000):=fun x hx=>by have:=t.count_kid hx;omega
    have hlen:t.2.2.length≤100000:=by have:=t.len_lt_count;rw [t.len_eq] at this;omega
    have hF:Hid (t.fault regs=if ownC t.kind t.r t.2.2.length regs≠0 then ownC t.kind t.r t.2.2.length regs else firstL (TT.fault regs) t.2.2):=rfl
    generalize t.fault regs=res at hF ⊢
    simp only [Tv,TT.len_eq]
    generalize t.2.2=l at hT hco hF hlen ⊢
    generalize t.kind=k at hF ⊢
    generalize t.r=r at hF ⊢
    clear ht hct t
    go_enter Tryz.func204,Tryz.ntmps204
    go_wp2_with fail
    have X0:Hid (Bx w (w.alloc (.cells #[.int .i64 k,.int .i64 r,.slice a l.length c] 78)) k r a l.length c):=Bx.start w k r a l.length c
    refine (ownCode_any k r a l.length c regs _).mono ?_
    rintro e w1 ⟨rfl,b1⟩
    have X1:Hid (Bx w w1 k r a l.length c):=X0.out.below b1
    clear X0 b1
    by_cases hz:ownC k r l.length regs=0
    · have R:Hid (res=firstL (TT.fault regs) l):=by
        have:=hF.out
        rw [hz] at this
        show res=firstL (TT.fault regs) l
        simpa using this
      rw [hz]
      clear hz hF
      have e2:w1.cell? ⟨w.heap.size,2,none⟩=some (.slice a l.length c):=cellOf X1.out.box 2 _ rfl
      go_wp2_with fail
      clear e2
      go_loopw [18] (fun i wr=>∃ q:Nat,q≤l.length∧i=.int .i64 q∧(∀ (j:Nat) x,j<q→l[j]?=some x→x.fault regs=0)∧Bx w wr k r a l.length c) (fun i _=>l.length - (intOf i).toNat)
      case atStart=>exact ⟨0,Nat.zero_le _,rfl,fun j x hj=>by omega,X1.out⟩
      case round =>
        clear X1
        obtain ⟨q,hq,rfl,hall,hX⟩:=hrel
        have A:Hid (∀ (j:Nat) x,j<q→l[j]?=some x→x.fault regs=0):=hall
        have X1:Hid (Bx w wr k r a l.length c):=hX
        clear hall
        by_cases hlt:q<l.length
        · have hx:l[q]?=some l[q]:=List.getElem?_eq_getElem hlt
          generalize l[q]=x at hx
          obtain ⟨g,o,a',c',rfl,_,d0,d1,d2,hk⟩:=LIn.at (hT.out.below hX.bel) hx
          have hx':Hid (l[q]?=some x):=hx
          have hk0:(0:Int)≤q:=by omega
          have hk1:(q:Int)<l.length:=by omega
          have C:Hid (∀ wx,Below wr.heap.size wr wx→Calls Tryz.prog 204 #[Tv x a' c',.int .i64 regs] wx fun e w'=>e=.returned (.int .i64 (x.fault regs))∧Below wx.heap.size wx w') :=
            fun wx hb=>IH.out x a' c' regs wx (hk.below hb) (hco.out x (List.mem_of_getElem? hx))
          clear hX hk hx
          simp only [Tv] at C
          generalize x.kind=kx at C d0
          generalize x.r=rx at C d1
          generalize x.len=lx at C d2
          go_wp2_with fail
          have B1:Below wr.heap.size wr (wr.alloc (.cells #[.int .i64 kx,.int .i64 rx,.slice a' lx c'] 78)):=(Below.refl _ wr).alloc (Nat.le_refl _) _
          refine (C.out _ B1).mono ?_
          rintro e w2 ⟨rfl,b2⟩
          have X2:Hid (Bx w w2 k r (some ⟨g,o,none⟩) l.length c):=(X1.out.below B1).below b2
          clear X1 b2 B1 C d0 d1 d2
          by_cases hd:x.fault regs=0
          · have A2:Hid (∀ (j:Nat) x,j<q+1→l[j]?=some x→x.fault regs=0):=fun j y hj hy=>by
              by_cases e:j=q
              · subst e
                rw [hx'.out] at hy
                cases hy
                exact hd
              · exact A.out j y (by omega) hy
            rw [hd]
            clear hd A
            go_wp2
            go_roundw
            case rel=>exact ⟨q+1,by omega,by go_num,A2.out,X2.out⟩
            case measure=>simp [intOf];omega
          · have Rv:Hid (res=x.fault regs):=R.out.trans (firstL_eq hx'.out A.out hd)
            have hd':(x.fault regs != 0)=true:=by simpa using hd
            generalize x.fault regs=v at hd' Rv ⊢
            clear hd A
            go_wp2
            go_ret
            exact ⟨by rw [Rv.out];rfl,X2.out.bel⟩
        · have Rv:Hid (res=0):=R.out.trans (firstL_zero (fun j y hy=>A.out j y (by have:=(List.getElem?_eq_some_iff.1 hy).1;omega) hy))
          have hk1:¬ (q:Int)<l.length:=by omega
          clear hX A
          go_wp2
          go_ret
          exact ⟨by rw [Rv.out];rfl,X1.out.bel⟩
    · have R:Hid (res=ownC k r l.length regs):=by
        have:=hF.out
        rwa [if_pos hz] at this
      have hz':(ownC k r l.length regs != 0)=true:=by simpa using hz
      generalize ownC k r l.length regs=v at hz' R ⊢
      clear hz hF
      go_wp2_with fail
      go_ret
      exact ⟨by rw [R.out];rfl,X1.out.bel⟩
theorem lt_height {n : Nat} {l : List (TT n)} {k r : Int} {m : Nat} : m < TT.height (n := n + 1) (mkT k r l) ↔ ∃ (i : Nat) (x : TT n), l[i]? = some x ∧ m < 1 + x.height := by
  rw [← Nat.not_le,height_le]
  constructor
  · intro h
    simp only [Classical.not_forall] at h
    obtain ⟨x,hx,h2⟩:=h
    obtain ⟨i,hi,rfl⟩:=List.mem_iff_getElem.1 hx
    exact ⟨i,_,List.getElem?_eq_getElem hi,by omega⟩
  · rintro ⟨i,x,hx,h2⟩ h
    have:=h x (List.mem_of_getElem? (l:=l) hx)
    omega
theorem deeper_any : ∀ (n : Nat) (t : TT n) (a : Option Addr) (c : Nat) (w : World) (m : Nat), TIn w All t a → t.count ≤ 100000 → m ≤ 4 →
    Calls Tryz.prog 203 #[Tv t a c,.int .i64 m] w fun e w'=>e=.returned (.bool (decide (m<t.height)))∧Below w.heap.size w w':=by
  intro n
  induction n with
  | zero=>intro t;exact Empty.elim t
  | succ n ih =>
    intro t a c w m ht hct hm4
    have IH:Hid (∀ (t:TT n) (a:Option Addr) (c:Nat) (w:World) (m:Nat),TIn w All t a→t.count≤100000→m≤4 →
      Calls Tryz.prog 203 #[Tv t a c,.int .i64 m] w fun e w'=>e=.returned (.bool (decide (m<t.height)))∧Below w.heap.size w w'):=ih
    clear ih
    have hT:Hid (LIn w All t.2.2 a):=ht.list
    have hco:Hid (∀ x∈t.2.2,x.count≤100000):=fun x hx=>by have:=t.count_kid hx;omega
    have hlen:t.2.2.length≤100000:=by have:=t.len_lt_count;rw [t.len_eq] at this;omega
    have hh:Hid (m<t.height ↔ ∃ (i:Nat) (x:TT n),t.2.2[i]?=some x∧m<1+x.height):=lt_height
    generalize t.height=h at hh ⊢
    simp only [Tv,TT.len_eq]
    generalize t.2.2=l at hT hco hh hlen ⊢
    generalize t.kind=k
    generalize t.r=r
    clear ht hct t
    go_enter Tryz.func203,Tryz.ntmps203
    go_wp2_with fail
    have X0:Hid (Bx w (w.alloc (.cells #[.int .i64 k,.int .i64 r,.slice a l.length c] 78)) k r a l.length c):=Bx.start w k r a l.length c
    generalize w.alloc (.cells #[.int .i64 k,.int .i64 r,.slice a l.length c] 78)=w1 at X0 ⊢
    go_loopw [10] (fun i wr=>∃ q:Nat,q≤l.length∧i=.int .i64 q∧(∀ (j:Nat) x,j<q→l[j]?=some x→1+x.height≤m)∧Bx w wr k r a l.length c) (fun i _=>l.length - (intOf i).toNat)
    case atStart=>exact ⟨0,Nat.zero_le _,rfl,fun j x hj=>by omega,X0.out⟩
    case round =>
      clear X0
      obtain ⟨q,hq,rfl,hall,hX⟩:=hrel
      have A:Hid (∀ (j:Nat) x,j<q→l[j]?=some x→1+x.height≤m):=hall
      have X1:Hid (Bx w wr k r a l.length c):=hX
      clear hall
      by_cases hlt:q<l.length
      · have hx:l[q]?=some l[q]:=List.getElem?_eq_getElem hlt
        generalize l[q]=x at hx
        obtain ⟨g,o,a',c',rfl,_,d0,d1,d2,hk⟩:=LIn.at (hT.out.below hX.bel) hx
        have hg:g<wr.heap.size:=World.block_lt_of_cell? wr ⟨g,o+q*3,none⟩ d0
        have hx':Hid (l[q]?=some x):=hx
        have hk0:(0:Int)≤q:=by omega
        have hk1:(q:Int)<l.length:=by omega
        by_cases hz:m=0
        · have hD:Hid (m<h):=hh.out.2 ⟨q,x,hx,by omega⟩
          have hz':((m:Int)==0)=true:=by simp;omega
          clear hX hk hx hz
          go_wp2_with fail
          go_ret
          exact ⟨by rw [decide_eq_true hD.out];rfl,(X1.out.alloc _).bel⟩
        · have hz':((m:Int)==0)=false:=by simp;omega
          have C:Hid (∀ wx,Below wr.heap.size wr wx→Calls Tryz.prog 203 #[Tv x a' c',.int .i64 ((m:Int) - 1)] wx fun e w'=>e=.returned (.bool (decide (m - 1<x.height)))∧Below wx.heap.size wx w'):=fun wx hb=>by
            have:=IH.out x a' c' wx (m - 1) (hk.below hb) (hco.out x (List.mem_of_getElem? hx)) (by omega)
            rw [show ((m - 1:Nat):Int)=(m:Int) - 1 by omega] at this
            exact this
          have hm0:(1:Int)≤m:=by omega
          have hm1:(m:Int)≤4:=by omega
          have hm5:Hid (1≤m):=by show 1≤m;omega
          clear hX hk hx hz
          simp only [Tv] at C
          generalize x.kind=kx at C d0
          generalize x.r=rx at C d1
          generalize x.len=lx at C d2
          go_wp2_with fail
          have B1:Below wr.heap.size wr (wr.alloc (.cells #[.int .i64 kx,.int .i64 rx,.slice a' lx c'] 78)):=(Below.refl _ wr).alloc (Nat.le_refl _) _
          refine (C.out _ B1).mono ?_
          rintro e w2 ⟨rfl,b2⟩
          have X2:Hid (Bx w w2 k r (some ⟨g,o,none⟩) l.length c):=(X1.out.below B1).below b2
          clear X1 b2 B1 C d0 d1 d2
          by_cases hd:m - 1<x.height
          · have hD:Hid (m<h):=hh.out.2 ⟨q,x,hx'.out,by have:=hm5.out;omega⟩
            rw [decide_eq_true hd]
            clear hd
            go_wp2
            go_ret
            exact ⟨by rw [decide_eq_true hD.out];rfl,X2.out.bel⟩
          · have A2:Hid (∀ (j:Nat) x,j<q+1→l[j]?=some x→1+x.height≤m):=fun j y hj hy=>by
              by_cases e:j=q
              · subst e
                rw [hx'.out] at hy
                cases hy
                have:=hm5.out
                omega
              · exact A.out j y (by omega) hy
            rw [decide_eq_false hd]
            clear hd A
            go_wp2
            go_roundw
            case rel=>exact ⟨q+1,by omega,by go_num,A2.out,X2.out⟩
            case measure=>simp [intOf];omega
      · have hD:Hid (¬ m<h):=fun hc=>by
          obtain ⟨i,x,hx,h3⟩:=hh.out.1 hc
          have:=A.out i x (by have:=(List.getElem?_eq_some_iff.1 hx).1;omega) hx
          omega
        have hk1:¬ (q:Int)<l.length:=by omega
        clear hX A
        go_wp2
        go_ret
        exact ⟨by rw [decide_eq_false hD.out];rfl,X1.out.bel⟩
theorem check_any : CheckAt 171 := by
  intro n t a c regs w ht hc
  have C1:Hid (∀ wx,Below w.heap.size w wx→Calls Tryz.prog 203 #[Tv t a c,.int .i64 4] wx fun e w'=>e=.returned (.bool (decide (4<t.height)))∧Below wx.heap.size wx w') :=
    fun wx hb=>deeper_any n t a c wx 4 (ht.below hb) hc (by omega)
  have C2:Hid (∀ wx,Below w.heap.size w wx→Calls Tryz.prog 204 #[Tv t a c,.int .i64 regs] wx fun e w'=>e=.returned (.int .i64 (t.fault regs))∧Below wx.heap.size wx w') :=
    fun wx hb=>firstCode_any n t a c regs wx (ht.below hb) hc
  have E:Hid (t.check regs=if 4<t.height then 19 else t.fault regs):=rfl
  generalize t.check regs=res at E ⊢
  clear ht hc
  simp only [Tv] at C1 C2 ⊢
  generalize t.kind=k at C1 C2 ⊢
  generalize t.r=r at C1 C2 ⊢
  generalize t.len=len at C1 C2 ⊢
  generalize t.fault regs=v at C2 E
  go_enter Tryz.func171,Tryz.ntmps171
  go_wp2_with fail
  have X0:=Bx.start w k r a len c
  generalize w.alloc (.cells #[.int .i64 k,.int .i64 r,.slice a len c] 78)=w1 at X0 ⊢
  refine (C1.out _ X0.bel).mono ?_
  rintro e w2 ⟨rfl,b2⟩
  have X2:Hid (Bx w w2 k r a len c):=X0.below b2
  have e0:=cellOf X2.out.box 0 _ rfl
  have e1:=cellOf X2.out.box 1 _ rfl
  have e2:=cellOf X2.out.box 2 _ rfl
  clear X0 b2 C1
  by_cases hd:4<t.height
  · rw [decide_eq_true hd]
    have R:Hid (res=19):=by have:=E.out;rwa [if_pos hd] at this
    clear hd
    go_wp2_with fail
    go_ret
    exact ⟨by rw [R.out];rfl,X2.out.bel⟩
  · rw [decide_eq_false hd]
    have R:Hid (res=v):=by have:=E.out;rwa [if_neg hd] at this
    clear hd
    go_wp2_with fail
    refine (C2.out _ X2.out.bel).mono ?_
    rintro e w3 ⟨rfl,b3⟩
    have X3:Hid (Bx w w3 k r a len c):=X2.out.below b3
    clear X2 b3 C2 e0 e1 e2
    go_wp2_with fail
    go_ret
    exact ⟨by rw [R.out];rfl,X3.out.bel⟩
end Go.Proofs.YtalfbnllodhkiacGreatDoor
